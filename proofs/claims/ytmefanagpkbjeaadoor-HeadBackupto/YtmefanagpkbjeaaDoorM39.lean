/- Lemmas: The reference's messages as bytes. -/
import Derived.Test.YtmefanagpkbjeaaDoorM1
import Derived.Test.YtmefanagpkbjeaaDoorM10
import Derived.Test.YtmefanagpkbjeaaDoorM11
import Derived.Test.YtmefanagpkbjeaaDoorM12
import Derived.Test.YtmefanagpkbjeaaDoorM13
import Derived.Test.YtmefanagpkbjeaaDoorM14
import Derived.Test.YtmefanagpkbjeaaDoorM15
import Derived.Test.YtmefanagpkbjeaaDoorM16
import Derived.Test.YtmefanagpkbjeaaDoorM17
import Derived.Test.YtmefanagpkbjeaaDoorM18
import Derived.Test.YtmefanagpkbjeaaDoorM19
import Derived.Test.YtmefanagpkbjeaaDoorM2
import Derived.Test.YtmefanagpkbjeaaDoorM20
import Derived.Test.YtmefanagpkbjeaaDoorM21
import Derived.Test.YtmefanagpkbjeaaDoorM22
import Derived.Test.YtmefanagpkbjeaaDoorM23
import Derived.Test.YtmefanagpkbjeaaDoorM24
import Derived.Test.YtmefanagpkbjeaaDoorM25
import Derived.Test.YtmefanagpkbjeaaDoorM26
import Derived.Test.YtmefanagpkbjeaaDoorM27
import Derived.Test.YtmefanagpkbjeaaDoorM28
import Derived.Test.YtmefanagpkbjeaaDoorM29
import Derived.Test.YtmefanagpkbjeaaDoorM3
import Derived.Test.YtmefanagpkbjeaaDoorM30
import Derived.Test.YtmefanagpkbjeaaDoorM31
import Derived.Test.YtmefanagpkbjeaaDoorM33
import Derived.Test.YtmefanagpkbjeaaDoorM34
import Derived.Test.YtmefanagpkbjeaaDoorM35
import Derived.Test.YtmefanagpkbjeaaDoorM36
import Derived.Test.YtmefanagpkbjeaaDoorM37
import Derived.Test.YtmefanagpkbjeaaDoorM38
import Derived.Test.YtmefanagpkbjeaaDoorM4
import Derived.Test.YtmefanagpkbjeaaDoorM6
import Derived.Test.YtmefanagpkbjeaaDoorM7
import Derived.Test.YtmefanagpkbjeaaDoorM8
import Derived.Test.YtmefanagpkbjeaaDoorM9
import Derived.Test.YtmefanagpkbjeaaDoorRows
namespace Go.Proofs.YtmefanagpkbjeaaDoor
open Go.RowKit Go.Shelf Go.Sort
theorem len_ts : ∀ ts : List ByteArray, ts.length ≤ tbIs (ts.map tI)
  | [] => Nat.le_refl _
  | x :: r => by
    have := len_ts r
    show r.length + 1 ≤ (x.size + 9 + 0) + tbIs (r.map tI)
    omega
theorem len_tsI (ts : List ByteArray) : ts.length ≤ tbI (tsI ts) := Nat.le_trans (len_ts ts) (Nat.le_add_left _ _)
theorem tb_lsI (xs : List It) : tbI (lsI xs) = 9 + tbIs xs := by show (⟨#[]⟩ : ByteArray).size + 9 + tbIs xs = _; have : (⟨#[]⟩ : ByteArray).size = 0 := rfl; omega
theorem len_lt (d : LtD) : d.br.length ≤ tbI (ltI d) := by
  have h := len_tsI d.br
  unfold ltI; rw [tb_lsI]; show _ ≤ 9 + (_ + (_ + (tbI (tsI d.br) + 0))); omega
theorem len_cm (d : CmD) : d.ks.length ≤ tbI (cmI d) := by
  have h := len_tsI d.ks
  unfold cmI; rw [tb_lsI]; show _ ≤ 9 + (tbI (tsI d.ks) + _); omega
theorem btI_len (d : BtD) (h : tbI (btI d) < 10000000) : d.l.br.length < 100000000 ∧ d.c.ks.length < 100000000 ∧ d.br.length < 100000000 := by
  have h1 := len_lt d.l
  have h2 := len_cm d.c
  have h3 := len_tsI d.br
  unfold btI at h; rw [tb_lsI] at h
  have h' : 9 + (tbI (ltI d.l) + (tbI (cmI d.c) + (tbI (tsI d.br) + 0))) < 10000000 := h
  omega
theorem upI_len (d : UpD) (h : tbI (upI d) < 10000000) : d.l.br.length < 100000000 ∧ d.c.ks.length < 100000000 ∧ d.nb.length < 100000000 ∧ d.f.br.length < 100000000 ∧ d.fb.length < 100000000 := by
  have h1 := len_lt d.l
  have h2 := len_cm d.c
  have h3 := len_tsI d.nb
  have h4 := len_lt d.f
  have h5 := len_tsI d.fb
  unfold upI at h; rw [tb_lsI] at h
  have h' : 9 + (tbI (ltI d.l) + (tbI (cmI d.c) + (tbI (tsI d.nb) + (tbI (ltI d.f) + (tbI (tsI d.fb) + tbIs [tI (numOf d.bits), tI d.sig, tI (numOf d.slot)]))))) < 10000000 := h
  omega
/-- What holds while a statement runs. -/
structure Mb_bb (V : World) (z k1 k2 k3 c1 c2 c3 : Nat) (l : LtD) (c : CmD) (a1 a2 a3 : Option Addr) (tl tc tb : It) (v1 : ByteArray) (v2 : Int) (S : Nat → Bool) (x2 x3 x4 x5 x6 x7 x8 x9 x10 x11 x12 x13 x14 x15 x16 x17 : Value) (W : World) : Prop where
  e : Below V.heap.size V W
  f0 : S 0 = true → x4 = Value.pointer (some ⟨z, 0, none⟩)
  f1 : S 1 = true → x5 = Value.agg #[.int .u64 (l.s : Int), .int .u64 (l.u : Int), .string l.p, .string l.t, .string l.b, .string l.ea, .string l.ra, .int .u64 (l.m : Int), .slice a1 k1 c1]
  f2 : S 2 = true → ItR tl V.heap.size x6 W
  f3 : S 3 = true → x7 = Value.pointer (some ⟨z, 9, none⟩)
  f4 : S 4 = true → x8 = Value.agg #[.slice a2 k2 c2, .string c.sm]
  f5 : S 5 = true → ItR tc V.heap.size x9 W
  f6 : S 6 = true → x10 = Value.pointer (some ⟨z, 11, none⟩)
  f7 : S 7 = true → x11 = Value.slice a3 k3 c3
  f8 : S 8 = true → ItR tb V.heap.size x12 W
  f9 : S 9 = true → RwI 3 [tl, tc, tb] V.heap.size x13 W
  f10 : S 10 = true → ItR (lsI [tl, tc, tb]) V.heap.size x14 W
  f11 : S 11 = true → x15 = Value.tuple #[.string v1, .int .i64 v2]
  f12 : S 12 = true → x16 = Value.string v1
  f13 : S 13 = true → x17 = Value.int .i64 v2
  f14 : S 14 = true → x2 = Value.string v1
  f15 : S 15 = true → x3 = Value.int .i64 v2
theorem Mb_bb.grow {V : World} {z k1 k2 k3 c1 c2 c3 : Nat} {l : LtD} {c : CmD} {a1 a2 a3 : Option Addr} {tl tc tb : It} {v1 : ByteArray} {v2 : Int} {S : Nat → Bool} {x2 x3 x4 x5 x6 x7 x8 x9 x10 x11 x12 x13 x14 x15 x16 x17 : Value} {W W' : World} (h : Mb_bb V z k1 k2 k3 c1 c2 c3 l c a1 a2 a3 tl tc tb v1 v2 S x2 x3 x4 x5 x6 x7 x8 x9 x10 x11 x12 x13 x14 x15 x16 x17 W) (hb : Below W.heap.size W W') : Mb_bb V z k1 k2 k3 c1 c2 c3 l c a1 a2 a3 tl tc tb v1 v2 S x2 x3 x4 x5 x6 x7 x8 x9 x10 x11 x12 x13 x14 x15 x16 x17 W' :=
  ⟨belowStep h.e h.e.size hb, h.f0, h.f1, fun s => ItR.grow (h.f2 s) hb, h.f3, h.f4, fun s => ItR.grow (h.f5 s) hb, h.f6, h.f7, fun s => ItR.grow (h.f8 s) hb, fun s => RwI.grow (h.f9 s) hb, fun s => ItR.grow (h.f10 s) hb, h.f11, h.f12, h.f13, h.f14, h.f15⟩
set_option maxRecDepth 100000 in
set_option maxHeartbeats 4000000 in
theorem rboot_any (d : BtD) (a1 a2 a3 : Option Addr) (c1 c2 c3 : Nat) (hd : d.l.ok) (htb : tbI (btI d) < 10000000) (n : Nat) (w : World) (hn : n ≤ w.heap.size) (s1 : slS n w a1 d.l.br) (s2 : slS n w a2 d.c.ks) (s3 : slS n w a3 d.br) :
    Calls Tryd.prog 19 #[.agg #[.int .u64 (d.l.s : Int), .int .u64 (d.l.u : Int), .string d.l.p, .string d.l.t, .string d.l.b, .string d.l.ea, .string d.l.ra, .int .u64 (d.l.m : Int), .slice a1 d.l.br.length c1, .slice a2 d.c.ks.length c2, .string d.c.sm, .slice a3 d.br.length c3]] w fun e w' => e = .returned (.tuple #[.string (eS (btI d)), .int .i64 (eE (btI d))]) ∧ Below w.heap.size w w' := by
  obtain ⟨l, c, br⟩ := d
  dsimp only at hd htb s1 s2 s3 ⊢
  obtain ⟨b1, b2, b3⟩ := btI_len ⟨l, c, br⟩ htb
  have KE : ∀ (X : Im) (W : World), er X = btI ⟨l, c, br⟩ → inMem W.heap.size W X → _ := fun X W e k => rencode_any X (by rw [tb_er, e]; exact htb) W.heap.size W (Nat.le_refl _) k
  have KE2 : ∀ (X : Im) (W : World), er X = btI ⟨l, c, br⟩ → inMem W.heap.size W X → Calls Tryd.prog 45 #[X.val] W fun e w' => e = .returned (.tuple #[.string (eS (btI ⟨l, c, br⟩)), .int .i64 (eE (btI ⟨l, c, br⟩))]) ∧ Below W.heap.size W w' := fun X W e k => by
    have h := KE X W e k
    rw [encS_er, encE_er, e] at h
    exact h
  clear KE htb
  have hI : btI ⟨l, c, br⟩ = lsI [ltI l, cmI c, tsI br] := rfl
  obtain ⟨v1, hv1⟩ : ∃ v, eS (btI ⟨l, c, br⟩) = v := ⟨_, rfl⟩
  obtain ⟨v2, hv2⟩ : ∃ v, eE (btI ⟨l, c, br⟩) = v := ⟨_, rfl⟩
  rw [hv1, hv2] at KE2 ⊢
  rw [hI] at KE2
  clear hI hv1 hv2
  obtain ⟨k1, e1⟩ : ∃ N, l.br.length = N := ⟨_, rfl⟩
  obtain ⟨k2, e2⟩ : ∃ N, c.ks.length = N := ⟨_, rfl⟩
  obtain ⟨k3, e3⟩ : ∃ N, br.length = N := ⟨_, rfl⟩
  rw [e1, e2, e3]
  have A0 := be_new w (.cells #[.int .u64 (l.s : Int), .int .u64 (l.u : Int), .string l.p, .string l.t, .string l.b, .string l.ea, .string l.ra, .int .u64 (l.m : Int), .slice a1 k1 c1, .slice a2 k2 c2, .string c.sm, .slice a3 k3 c3] 41)
  have hx : (w.alloc (.cells #[.int .u64 (l.s : Int), .int .u64 (l.u : Int), .string l.p, .string l.t, .string l.b, .string l.ea, .string l.ra, .int .u64 (l.m : Int), .slice a1 k1 c1, .slice a2 k2 c2, .string c.sm, .slice a3 k3 c3] 41)).heap[w.heap.size]? = some (.cells #[.int .u64 (l.s : Int), .int .u64 (l.u : Int), .string l.p, .string l.t, .string l.b, .string l.ea, .string l.ra, .int .u64 (l.m : Int), .slice a1 k1 c1, .slice a2 k2 c2, .string c.sm, .slice a3 k3 c3] 41 (0, 0)) := World.alloc_heap_new w _
  have HP : Hid (w.heap.size + 1 = (w.alloc (.cells #[.int .u64 (l.s : Int), .int .u64 (l.u : Int), .string l.p, .string l.t, .string l.b, .string l.ea, .string l.ra, .int .u64 (l.m : Int), .slice a1 k1 c1, .slice a2 k2 c2, .string c.sm, .slice a3 k3 c3] 41)).heap.size) := (by simp : w.heap.size + 1 = (w.alloc (.cells #[.int .u64 (l.s : Int), .int .u64 (l.u : Int), .string l.p, .string l.t, .string l.b, .string l.ea, .string l.ra, .int .u64 (l.m : Int), .slice a1 k1 c1, .slice a2 k2 c2, .string c.sm, .slice a3 k3 c3] 41)).heap.size)
  obtain ⟨w1, hw1⟩ : ∃ W, w.alloc (.cells #[.int .u64 (l.s : Int), .int .u64 (l.u : Int), .string l.p, .string l.t, .string l.b, .string l.ea, .string l.ra, .int .u64 (l.m : Int), .slice a1 k1 c1, .slice a2 k2 c2, .string c.sm, .slice a3 k3 c3] 41) = W := ⟨_, rfl⟩
  rw [hw1] at A0 hx HP
  have K0 : ∀ W : World, Below w1.heap.size w1 W → _ := fun W hB => rlight_any l hd b1 a1 c1 n W (by have := hB.size; have := A0.size; omega) (slS_below (hB.mono (by have := A0.size; omega)) (slS_below (A0.mono hn) s1))
  obtain ⟨tl, gtl⟩ : ∃ x, ltI l = x := ⟨_, rfl⟩
  rw [e1, gtl] at K0
  rw [gtl] at KE2
  have K1 : ∀ W : World, Below w1.heap.size w1 W → _ := fun W hB => rcomm_any c b2 a2 c2 n W (by have := hB.size; have := A0.size; omega) (slS_below (hB.mono (by have := A0.size; omega)) (slS_below (A0.mono hn) s2))
  obtain ⟨tc, gtc⟩ : ∃ x, cmI c = x := ⟨_, rfl⟩
  rw [e2, gtc] at K1
  rw [gtc] at KE2
  have K2 : ∀ W : World, Below w1.heap.size w1 W → _ := fun W hB => rtexts_any br b3 a3 c3 n W (by have := hB.size; have := A0.size; omega) (slS_below (hB.mono (by have := A0.size; omega)) (slS_below (A0.mono hn) s3))
  obtain ⟨tb, gtb⟩ : ∃ x, tsI br = x := ⟨_, rfl⟩
  rw [e3, gtb] at K2
  rw [gtb] at KE2
  clear e1 b1 e2 b2 e3 b3 gtl gtc gtb s1 s2 s3 hd 
  obtain ⟨z, hz⟩ : ∃ z, w.heap.size = z := ⟨_, rfl⟩
  have HZ : Hid (w.heap.size = z) := hz
  rw [hz] at hx A0
  have hzl : z < w1.heap.size := by have := HP.out; omega
  have c0_ : w1.cell? ⟨z, 0, none⟩ = some (.int .u64 (l.s : Int)) := by rw [Lib.cell_of_heap hx]; rfl
  have c1_ : w1.cell? ⟨z, 1, none⟩ = some (.int .u64 (l.u : Int)) := by rw [Lib.cell_of_heap hx]; rfl
  have c2_ : w1.cell? ⟨z, 2, none⟩ = some (.string l.p) := by rw [Lib.cell_of_heap hx]; rfl
  have c3_ : w1.cell? ⟨z, 3, none⟩ = some (.string l.t) := by rw [Lib.cell_of_heap hx]; rfl
  have c4_ : w1.cell? ⟨z, 4, none⟩ = some (.string l.b) := by rw [Lib.cell_of_heap hx]; rfl
  have c5_ : w1.cell? ⟨z, 5, none⟩ = some (.string l.ea) := by rw [Lib.cell_of_heap hx]; rfl
  have c6_ : w1.cell? ⟨z, 6, none⟩ = some (.string l.ra) := by rw [Lib.cell_of_heap hx]; rfl
  have c7_ : w1.cell? ⟨z, 7, none⟩ = some (.int .u64 (l.m : Int)) := by rw [Lib.cell_of_heap hx]; rfl
  have c8_ : w1.cell? ⟨z, 8, none⟩ = some (.slice a1 k1 c1) := by rw [Lib.cell_of_heap hx]; rfl
  have c9_ : w1.cell? ⟨z, 9, none⟩ = some (.slice a2 k2 c2) := by rw [Lib.cell_of_heap hx]; rfl
  have c10_ : w1.cell? ⟨z, 10, none⟩ = some (.string c.sm) := by rw [Lib.cell_of_heap hx]; rfl
  have c11_ : w1.cell? ⟨z, 11, none⟩ = some (.slice a3 k3 c3) := by rw [Lib.cell_of_heap hx]; rfl
  clear hx
  go_enter Tryd.func19, Tryd.ntmps19
  go_wp2_with fail
  first | rw [hw1] | skip
  try rw [hz]
  clear hw1 hz
  refine region_inv (fun S aa W => ∃ x2 x3 x4 x5 x6 x7 x8 x9 x10 x11 x12 x13 x14 x15 x16 x17 : Value, aa = { tmps := #[Value.agg #[Value.int IntKind.u64 ↑l.s, Value.int IntKind.u64 ↑l.u, Value.string l.p, Value.string l.t, Value.string l.b, Value.string l.ea, Value.string l.ra, Value.int IntKind.u64 ↑l.m, Value.slice a1 k1 c1, Value.slice a2 k2 c2, Value.string c.sm, Value.slice a3 k3 c3], Value.pointer (some ⟨z, 0, none⟩), x2, x3, x4, x5, x6, x7, x8, x9, x10, x11, x12, x13, x14, x15, x16, x17], defers := [] } ∧ Mb_bb w1 z k1 k2 k3 c1 c2 c3 l c a1 a2 a3 tl tc tb v1 v2 S x2 x3 x4 x5 x6 x7 x8 x9 x10 x11 x12 x13 x14 x15 x16 x17 W) (by kernel_rfl) (by kernel_rfl) ?_ ?_ ?_
  · exact ⟨Value.string { data := #[] }, Value.int IntKind.i64 0, undef, undef, undef, undef, undef, undef, undef, undef, undef, undef, undef, undef, undef, undef, rfl, ⟨(Below.refl _ w1).drew, nofun, nofun, nofun, nofun, nofun, nofun, nofun, nofun, nofun, nofun, nofun, nofun, nofun, nofun, nofun, nofun⟩⟩
  · intro i o S aa W hi hun hJ hall K hK
    obtain ⟨x2, x3, x4, x5, x6, x7, x8, x9, x10, x11, x12, x13, x14, x15, x16, x17, rfl, h⟩ := hJ
    have hlt : i < 16 := (List.getElem?_eq_some_iff.1 hi).1
    have hcase : i = 0 ∨ i = 1 ∨ i = 2 ∨ i = 3 ∨ i = 4 ∨ i = 5 ∨ i = 6 ∨ i = 7 ∨ i = 8 ∨ i = 9 ∨ i = 10 ∨ i = 11 ∨ i = 12 ∨ i = 13 ∨ i = 14 ∨ i = 15 := by omega
    rcases hcase with rfl | rfl | rfl | rfl | rfl | rfl | rfl | rfl | rfl | rfl | rfl | rfl | rfl | rfl | rfl | rfl
    all_goals (have ho := (Option.some.inj hi).symm; subst ho; clear hi hlt)
    · go_simp
      exact hK _ _ ⟨x2, x3, _, x5, x6, x7, x8, x9, x10, x11, x12, x13, x14, x15, x16, x17, rfl, ⟨h.e, fun _ => rfl, h.f1, h.f2, h.f3, h.f4, h.f5, h.f6, h.f7, h.f8, h.f9, h.f10, h.f11, h.f12, h.f13, h.f14, h.f15⟩⟩
    · have s_0 : S 0 = true := hall ⟨0, .data⟩ (by simp) rfl
      obtain rfl := h.f0 s_0
      have cW0 := (h.e.cell (p := ⟨z, 0, none⟩) (by show z < _; exact hzl)).trans c0_
      have cW1 := (h.e.cell (p := ⟨z, 1, none⟩) (by show z < _; exact hzl)).trans c1_
      have cW2 := (h.e.cell (p := ⟨z, 2, none⟩) (by show z < _; exact hzl)).trans c2_
      have cW3 := (h.e.cell (p := ⟨z, 3, none⟩) (by show z < _; exact hzl)).trans c3_
      have cW4 := (h.e.cell (p := ⟨z, 4, none⟩) (by show z < _; exact hzl)).trans c4_
      have cW5 := (h.e.cell (p := ⟨z, 5, none⟩) (by show z < _; exact hzl)).trans c5_
      have cW6 := (h.e.cell (p := ⟨z, 6, none⟩) (by show z < _; exact hzl)).trans c6_
      have cW7 := (h.e.cell (p := ⟨z, 7, none⟩) (by show z < _; exact hzl)).trans c7_
      have cW8 := (h.e.cell (p := ⟨z, 8, none⟩) (by show z < _; exact hzl)).trans c8_
      go_simp
      exact hK _ _ ⟨x2, x3, _, _, x6, x7, x8, x9, x10, x11, x12, x13, x14, x15, x16, x17, rfl, ⟨h.e, h.f0, fun _ => rfl, h.f2, h.f3, h.f4, h.f5, h.f6, h.f7, h.f8, h.f9, h.f10, h.f11, h.f12, h.f13, h.f14, h.f15⟩⟩
    · have s_1 : S 1 = true := hall ⟨1, .data⟩ (by simp) rfl
      obtain rfl := h.f1 s_1
      go_simp
      refine (K0 W h.e).mono ?_
      rintro e w5 ⟨Y5, rfl, k1, k2, hb5⟩
      have h1 := h.grow hb5
      exact hK _ _ ⟨x2, x3, x4, _, _, x7, x8, x9, x10, x11, x12, x13, x14, x15, x16, x17, rfl, ⟨h1.e, h1.f0, h1.f1, fun _ => ⟨Y5, rfl, k1, inP_of (fun b hb => ⟨⟨Nat.le_trans h.e.size hb.1, hb.2⟩, fun _ => rfl⟩) _ k2⟩, h1.f3, h1.f4, h1.f5, h1.f6, h1.f7, h1.f8, h1.f9, h1.f10, h1.f11, h1.f12, h1.f13, h1.f14, h1.f15⟩⟩
    · go_simp
      exact hK _ _ ⟨x2, x3, x4, x5, x6, _, x8, x9, x10, x11, x12, x13, x14, x15, x16, x17, rfl, ⟨h.e, h.f0, h.f1, h.f2, fun _ => rfl, h.f4, h.f5, h.f6, h.f7, h.f8, h.f9, h.f10, h.f11, h.f12, h.f13, h.f14, h.f15⟩⟩
    · have s_3 : S 3 = true := hall ⟨3, .data⟩ (by simp) rfl
      obtain rfl := h.f3 s_3
      have cW9 := (h.e.cell (p := ⟨z, 9, none⟩) (by show z < _; exact hzl)).trans c9_
      have cW10 := (h.e.cell (p := ⟨z, 10, none⟩) (by show z < _; exact hzl)).trans c10_
      go_simp
      exact hK _ _ ⟨x2, x3, x4, x5, x6, _, _, x9, x10, x11, x12, x13, x14, x15, x16, x17, rfl, ⟨h.e, h.f0, h.f1, h.f2, h.f3, fun _ => rfl, h.f5, h.f6, h.f7, h.f8, h.f9, h.f10, h.f11, h.f12, h.f13, h.f14, h.f15⟩⟩
    · have s_4 : S 4 = true := hall ⟨4, .data⟩ (by simp) rfl
      obtain rfl := h.f4 s_4
      go_simp
      refine (K1 W h.e).mono ?_
      rintro e w5 ⟨Y5, rfl, k1, k2, hb5⟩
      have h1 := h.grow hb5
      exact hK _ _ ⟨x2, x3, x4, x5, x6, x7, _, _, x10, x11, x12, x13, x14, x15, x16, x17, rfl, ⟨h1.e, h1.f0, h1.f1, h1.f2, h1.f3, h1.f4, fun _ => ⟨Y5, rfl, k1, inP_of (fun b hb => ⟨⟨Nat.le_trans h.e.size hb.1, hb.2⟩, fun _ => rfl⟩) _ k2⟩, h1.f6, h1.f7, h1.f8, h1.f9, h1.f10, h1.f11, h1.f12, h1.f13, h1.f14, h1.f15⟩⟩
    · go_simp
      exact hK _ _ ⟨x2, x3, x4, x5, x6, x7, x8, x9, _, x11, x12, x13, x14, x15, x16, x17, rfl, ⟨h.e, h.f0, h.f1, h.f2, h.f3, h.f4, h.f5, fun _ => rfl, h.f7, h.f8, h.f9, h.f10, h.f11, h.f12, h.f13, h.f14, h.f15⟩⟩
    · have s_6 : S 6 = true := hall ⟨6, .data⟩ (by simp) rfl
      obtain rfl := h.f6 s_6
      have cW11 := (h.e.cell (p := ⟨z, 11, none⟩) (by show z < _; exact hzl)).trans c11_
      go_simp
      exact hK _ _ ⟨x2, x3, x4, x5, x6, x7, x8, x9, _, _, x12, x13, x14, x15, x16, x17, rfl, ⟨h.e, h.f0, h.f1, h.f2, h.f3, h.f4, h.f5, h.f6, fun _ => rfl, h.f8, h.f9, h.f10, h.f11, h.f12, h.f13, h.f14, h.f15⟩⟩
    · have s_7 : S 7 = true := hall ⟨7, .data⟩ (by simp) rfl
      obtain rfl := h.f7 s_7
      go_simp
      refine (K2 W h.e).mono ?_
      rintro e w5 ⟨Y5, rfl, k1, k2, hb5⟩
      have h1 := h.grow hb5
      exact hK _ _ ⟨x2, x3, x4, x5, x6, x7, x8, x9, x10, _, _, x13, x14, x15, x16, x17, rfl, ⟨h1.e, h1.f0, h1.f1, h1.f2, h1.f3, h1.f4, h1.f5, h1.f6, h1.f7, fun _ => ⟨Y5, rfl, k1, inP_of (fun b hb => ⟨⟨Nat.le_trans h.e.size hb.1, hb.2⟩, fun _ => rfl⟩) _ k2⟩, h1.f9, h1.f10, h1.f11, h1.f12, h1.f13, h1.f14, h1.f15⟩⟩
    · have s_2 : S 2 = true := hall ⟨2, .data⟩ (by simp) rfl
      obtain ⟨⟨yl2, yt2, ya2, yc2, yx2⟩, rfl, he2, hi2⟩ := h.f2 s_2
      have s_5 : S 5 = true := hall ⟨5, .data⟩ (by simp) rfl
      obtain ⟨⟨yl5, yt5, ya5, yc5, yx5⟩, rfl, he5, hi5⟩ := h.f5 s_5
      have s_8 : S 8 = true := hall ⟨8, .data⟩ (by simp) rfl
      obtain ⟨⟨yl8, yt8, ya8, yc8, yx8⟩, rfl, he8, hi8⟩ := h.f8 s_8
      simp only [Im.val, Im.sl, Im.l, Im.t, Im.a, Im.xs, Im.c]
      go_simp
      have h1 := h.grow (be_new W (.cells #[.bool yl2, .string yt2, .slice ya2 yx2.length yc2, .bool yl5, .string yt5, .slice ya5 yx5.length yc5, .bool yl8, .string yt8, .slice ya8 yx8.length yc8] 70))
      have hmem : ∀ y, y ∈ ([.mk yl2 yt2 ya2 yc2 yx2, .mk yl5 yt5 ya5 yc5 yx5, .mk yl8 yt8 ya8 yc8 yx8] : List Im) → inP (fun b => w1.heap.size ≤ b ∧ b < W.heap.size) W y := fun y hy => by
        simp only [List.mem_cons, List.not_mem_nil, or_false] at hy
        rcases hy with e | e | e
        · rw [e]; exact hi2
        · rw [e]; exact hi5
        · rw [e]; exact hi8
      have hrw := row_new (W := W) h.e.size [.mk yl2 yt2 ya2 yc2 yx2, .mk yl5 yt5 ya5 yc5 yx5, .mk yl8 yt8 ya8 yc8 yx8] hmem (cs := #[.bool yl2, .string yt2, .slice ya2 yx2.length yc2, .bool yl5, .string yt5, .slice ya5 yx5.length yc5, .bool yl8, .string yt8, .slice ya8 yx8.length yc8]) rfl
      exact hK _ _ ⟨x2, x3, x4, x5, _, x7, x8, _, x10, x11, _, _, x14, x15, x16, x17, rfl, ⟨h1.e, h1.f0, h1.f1, h1.f2, h1.f3, h1.f4, h1.f5, h1.f6, h1.f7, h1.f8, fun _ => ⟨W.heap.size, _, rfl, rfl, by show [er _, er _, er _] = _; rw [he2, he5, he8]; try rfl, hrw⟩, h1.f10, h1.f11, h1.f12, h1.f13, h1.f14, h1.f15⟩⟩
    · have s_9 : S 9 = true := hall ⟨9, .data⟩ (by simp) rfl
      obtain ⟨g9, Ys, rfl, hl9, he9, hr9⟩ := h.f9 s_9
      go_simp
      refine (rlist_any (some ⟨g9, 0, none⟩) 3 3 W).mono ?_
      rintro e w5 ⟨rfl, hb5⟩
      have h1 := h.grow hb5
      exact hK _ _ ⟨x2, x3, x4, x5, x6, x7, x8, x9, x10, x11, x12, _, _, x15, x16, x17, rfl, ⟨h1.e, h1.f0, h1.f1, h1.f2, h1.f3, h1.f4, h1.f5, h1.f6, h1.f7, h1.f8, h1.f9, fun _ => (RwI.list hl9 he9 hr9).grow hb5, h1.f11, h1.f12, h1.f13, h1.f14, h1.f15⟩⟩
    · have s_10 : S 10 = true := hall ⟨10, .data⟩ (by simp) rfl
      obtain ⟨⟨zl, zt, za, zc, zx⟩, rfl, hez, hiz⟩ := h.f10 s_10
      simp only [Im.val, Im.sl, Im.l, Im.t, Im.a, Im.xs, Im.c]
      have hmm := inMem_of (fun b hb => hb.2) _ hiz
      go_simp
      refine (KE2 (.mk zl zt za zc zx) W hez hmm).mono ?_
      rintro e w5 ⟨rfl, hb5⟩
      have h1 := h.grow hb5
      exact hK _ _ ⟨x2, x3, x4, x5, x6, x7, x8, x9, x10, x11, x12, x13, _, _, x16, x17, rfl, ⟨h1.e, h1.f0, h1.f1, h1.f2, h1.f3, h1.f4, h1.f5, h1.f6, h1.f7, h1.f8, h1.f9, h1.f10, fun _ => rfl, h1.f12, h1.f13, h1.f14, h1.f15⟩⟩
    · have s_11 : S 11 = true := hall ⟨11, .data⟩ (by simp) rfl
      obtain rfl := h.f11 s_11
      go_simp
      exact hK _ _ ⟨x2, x3, x4, x5, x6, x7, x8, x9, x10, x11, x12, x13, x14, _, _, x17, rfl, ⟨h.e, h.f0, h.f1, h.f2, h.f3, h.f4, h.f5, h.f6, h.f7, h.f8, h.f9, h.f10, h.f11, fun _ => rfl, h.f13, h.f14, h.f15⟩⟩
    · have s_11 : S 11 = true := hall ⟨11, .data⟩ (by simp) rfl
      obtain rfl := h.f11 s_11
      go_simp
      exact hK _ _ ⟨x2, x3, x4, x5, x6, x7, x8, x9, x10, x11, x12, x13, x14, _, x16, _, rfl, ⟨h.e, h.f0, h.f1, h.f2, h.f3, h.f4, h.f5, h.f6, h.f7, h.f8, h.f9, h.f10, h.f11, h.f12, fun _ => rfl, h.f14, h.f15⟩⟩
    · have s_12 : S 12 = true := hall ⟨12, .data⟩ (by simp) rfl
      obtain rfl := h.f12 s_12
      go_simp
      exact hK _ _ ⟨_, x3, x4, x5, x6, x7, x8, x9, x10, x11, x12, x13, x14, x15, _, x17, rfl, ⟨h.e, h.f0, h.f1, h.f2, h.f3, h.f4, h.f5, h.f6, h.f7, h.f8, h.f9, h.f10, h.f11, h.f12, h.f13, fun _ => rfl, h.f15⟩⟩
    · have s_13 : S 13 = true := hall ⟨13, .data⟩ (by simp) rfl
      obtain rfl := h.f13 s_13
      go_simp
      exact hK _ _ ⟨x2, _, x4, x5, x6, x7, x8, x9, x10, x11, x12, x13, x14, x15, x16, _, rfl, ⟨h.e, h.f0, h.f1, h.f2, h.f3, h.f4, h.f5, h.f6, h.f7, h.f8, h.f9, h.f10, h.f11, h.f12, h.f13, h.f14, fun _ => rfl⟩⟩
  · rintro S aa W hall ⟨x2, x3, x4, x5, x6, x7, x8, x9, x10, x11, x12, x13, x14, x15, x16, x17, rfl, h⟩
    obtain rfl := h.f0 (hall 0 (by decide))
    obtain rfl := h.f1 (hall 1 (by decide))
    obtain hO2 := h.f2 (hall 2 (by decide))
    obtain rfl := h.f3 (hall 3 (by decide))
    obtain rfl := h.f4 (hall 4 (by decide))
    obtain hO5 := h.f5 (hall 5 (by decide))
    obtain rfl := h.f6 (hall 6 (by decide))
    obtain rfl := h.f7 (hall 7 (by decide))
    obtain hO8 := h.f8 (hall 8 (by decide))
    obtain hO9 := h.f9 (hall 9 (by decide))
    obtain hO10 := h.f10 (hall 10 (by decide))
    obtain rfl := h.f11 (hall 11 (by decide))
    obtain rfl := h.f12 (hall 12 (by decide))
    obtain rfl := h.f13 (hall 13 (by decide))
    obtain rfl := h.f14 (hall 14 (by decide))
    obtain rfl := h.f15 (hall 15 (by decide))
    have BW := h.e
    clear h hall
    have HX : Hid _ := BW
    clear BW hO2 hO5 hO8 hO9 hO10
    go_wp2
    go_ret2
    exact ⟨rfl, by rw [HZ.out]; exact A0.trans (HX.out.mono (by omega))⟩
/-- What holds while a statement runs. -/
structure Mb_up (V : World) (z k1 k2 k3 k4 k5 c1 c2 c3 c4 c5 bits slot : Nat) (l f : LtD) (c : CmD) (a1 a2 a3 a4 a5 : Option Addr) (tl tc tb tf tu : It) (n1 n2 sig v1 : ByteArray) (v2 : Int) (S : Nat → Bool) (x2 x3 x4 x5 x6 x7 x8 x9 x10 x11 x12 x13 x14 x15 x16 x17 x18 x19 x20 x21 x22 x23 x24 x25 x26 x27 x28 x29 x30 x31 x32 : Value) (W : World) : Prop where
  e : Below V.heap.size V W
  f0 : S 0 = true → x4 = Value.pointer (some ⟨z, 0, none⟩)
  f1 : S 1 = true → x5 = Value.agg #[.int .u64 (l.s : Int), .int .u64 (l.u : Int), .string l.p, .string l.t, .string l.b, .string l.ea, .string l.ra, .int .u64 (l.m : Int), .slice a1 k1 c1]
  f2 : S 2 = true → ItR tl V.heap.size x6 W
  f3 : S 3 = true → x7 = Value.pointer (some ⟨z, 9, none⟩)
  f4 : S 4 = true → x8 = Value.agg #[.slice a2 k2 c2, .string c.sm]
  f5 : S 5 = true → ItR tc V.heap.size x9 W
  f6 : S 6 = true → x10 = Value.pointer (some ⟨z, 11, none⟩)
  f7 : S 7 = true → x11 = Value.slice a3 k3 c3
  f8 : S 8 = true → ItR tb V.heap.size x12 W
  f9 : S 9 = true → x13 = Value.pointer (some ⟨z, 12, none⟩)
  f10 : S 10 = true → x14 = Value.agg #[.int .u64 (f.s : Int), .int .u64 (f.u : Int), .string f.p, .string f.t, .string f.b, .string f.ea, .string f.ra, .int .u64 (f.m : Int), .slice a4 k4 c4]
  f11 : S 11 = true → ItR tf V.heap.size x15 W
  f12 : S 12 = true → x16 = Value.pointer (some ⟨z, 21, none⟩)
  f13 : S 13 = true → x17 = Value.slice a5 k5 c5
  f14 : S 14 = true → ItR tu V.heap.size x18 W
  f15 : S 15 = true → x19 = Value.pointer (some ⟨z, 22, none⟩)
  f16 : S 16 = true → x20 = Value.int .u64 (bits : Int)
  f17 : S 17 = true → x21 = Value.agg #[.bool false, .string n1, .slice none 0 0]
  f18 : S 18 = true → x22 = Value.pointer (some ⟨z, 23, none⟩)
  f19 : S 19 = true → x23 = Value.string sig
  f20 : S 20 = true → x24 = Value.agg #[.bool false, .string sig, .slice none 0 0]
  f21 : S 21 = true → x25 = Value.pointer (some ⟨z, 24, none⟩)
  f22 : S 22 = true → x26 = Value.int .u64 (slot : Int)
  f23 : S 23 = true → x27 = Value.agg #[.bool false, .string n2, .slice none 0 0]
  f24 : S 24 = true → RwI 8 [tl, tc, tb, tf, tu, tI n1, tI sig, tI n2] V.heap.size x28 W
  f25 : S 25 = true → ItR (lsI [tl, tc, tb, tf, tu, tI n1, tI sig, tI n2]) V.heap.size x29 W
  f26 : S 26 = true → x30 = Value.tuple #[.string v1, .int .i64 v2]
  f27 : S 27 = true → x31 = Value.string v1
  f28 : S 28 = true → x32 = Value.int .i64 v2
  f29 : S 29 = true → x2 = Value.string v1
  f30 : S 30 = true → x3 = Value.int .i64 v2
theorem Mb_up.grow {V : World} {z k1 k2 k3 k4 k5 c1 c2 c3 c4 c5 bits slot : Nat} {l f : LtD} {c : CmD} {a1 a2 a3 a4 a5 : Option Addr} {tl tc tb tf tu : It} {n1 n2 sig v1 : ByteArray} {v2 : Int} {S : Nat → Bool} {x2 x3 x4 x5 x6 x7 x8 x9 x10 x11 x12 x13 x14 x15 x16 x17 x18 x19 x20 x21 x22 x23 x24 x25 x26 x27 x28 x29 x30 x31 x32 : Value} {W W' : World} (h : Mb_up V z k1 k2 k3 k4 k5 c1 c2 c3 c4 c5 bits slot l f c a1 a2 a3 a4 a5 tl tc tb tf tu n1 n2 sig v1 v2 S x2 x3 x4 x5 x6 x7 x8 x9 x10 x11 x12 x13 x14 x15 x16 x17 x18 x19 x20 x21 x22 x23 x24 x25 x26 x27 x28 x29 x30 x31 x32 W) (hb : Below W.heap.size W W') : Mb_up V z k1 k2 k3 k4 k5 c1 c2 c3 c4 c5 bits slot l f c a1 a2 a3 a4 a5 tl tc tb tf tu n1 n2 sig v1 v2 S x2 x3 x4 x5 x6 x7 x8 x9 x10 x11 x12 x13 x14 x15 x16 x17 x18 x19 x20 x21 x22 x23 x24 x25 x26 x27 x28 x29 x30 x31 x32 W' :=
  ⟨belowStep h.e h.e.size hb, h.f0, h.f1, fun s => ItR.grow (h.f2 s) hb, h.f3, h.f4, fun s => ItR.grow (h.f5 s) hb, h.f6, h.f7, fun s => ItR.grow (h.f8 s) hb, h.f9, h.f10, fun s => ItR.grow (h.f11 s) hb, h.f12, h.f13, fun s => ItR.grow (h.f14 s) hb, h.f15, h.f16, h.f17, h.f18, h.f19, h.f20, h.f21, h.f22, h.f23, fun s => RwI.grow (h.f24 s) hb, fun s => ItR.grow (h.f25 s) hb, h.f26, h.f27, h.f28, h.f29, h.f30⟩
set_option maxRecDepth 100000 in
set_option maxHeartbeats 4000000 in
theorem rupd_any (d : UpD) (a1 a2 a3 a4 a5 : Option Addr) (c1 c2 c3 c4 c5 : Nat) (hd : d.l.ok) (hf : d.f.ok) (hb6 : U6 d.bits) (hs6 : U6 d.slot) (htb : tbI (upI d) < 10000000) (n : Nat) (w : World) (hn : n ≤ w.heap.size) (s1 : slS n w a1 d.l.br) (s2 : slS n w a2 d.c.ks) (s3 : slS n w a3 d.nb) (s4 : slS n w a4 d.f.br) (s5 : slS n w a5 d.fb) :
    Calls Tryd.prog 21 #[.agg #[.int .u64 (d.l.s : Int), .int .u64 (d.l.u : Int), .string d.l.p, .string d.l.t, .string d.l.b, .string d.l.ea, .string d.l.ra, .int .u64 (d.l.m : Int), .slice a1 d.l.br.length c1, .slice a2 d.c.ks.length c2, .string d.c.sm, .slice a3 d.nb.length c3, .int .u64 (d.f.s : Int), .int .u64 (d.f.u : Int), .string d.f.p, .string d.f.t, .string d.f.b, .string d.f.ea, .string d.f.ra, .int .u64 (d.f.m : Int), .slice a4 d.f.br.length c4, .slice a5 d.fb.length c5, .int .u64 (d.bits : Int), .string d.sig, .int .u64 (d.slot : Int)]] w fun e w' => e = .returned (.tuple #[.string (eS (upI d)), .int .i64 (eE (upI d))]) ∧ Below w.heap.size w w' := by
  obtain ⟨l, c, nb, f, fb, bits, sig, slot⟩ := d
  dsimp only at hd htb s1 s2 s3 ⊢
  dsimp only at hf hb6 hs6 s4 s5
  unfold U6 at hb6 hs6
  obtain ⟨b1, b2, b3, b4, b5⟩ := upI_len ⟨l, c, nb, f, fb, bits, sig, slot⟩ htb
  have KE : ∀ (X : Im) (W : World), er X = upI ⟨l, c, nb, f, fb, bits, sig, slot⟩ → inMem W.heap.size W X → _ := fun X W e k => rencode_any X (by rw [tb_er, e]; exact htb) W.heap.size W (Nat.le_refl _) k
  have KE2 : ∀ (X : Im) (W : World), er X = upI ⟨l, c, nb, f, fb, bits, sig, slot⟩ → inMem W.heap.size W X → Calls Tryd.prog 45 #[X.val] W fun e w' => e = .returned (.tuple #[.string (eS (upI ⟨l, c, nb, f, fb, bits, sig, slot⟩)), .int .i64 (eE (upI ⟨l, c, nb, f, fb, bits, sig, slot⟩))]) ∧ Below W.heap.size W w' := fun X W e k => by
    have h := KE X W e k
    rw [encS_er, encE_er, e] at h
    exact h
  clear KE htb
  have hI : upI ⟨l, c, nb, f, fb, bits, sig, slot⟩ = lsI [ltI l, cmI c, tsI nb, ltI f, tsI fb, tI (numOf bits), tI sig, tI (numOf slot)] := rfl
  obtain ⟨v1, hv1⟩ : ∃ v, eS (upI ⟨l, c, nb, f, fb, bits, sig, slot⟩) = v := ⟨_, rfl⟩
  obtain ⟨v2, hv2⟩ : ∃ v, eE (upI ⟨l, c, nb, f, fb, bits, sig, slot⟩) = v := ⟨_, rfl⟩
  rw [hv1, hv2] at KE2 ⊢
  rw [hI] at KE2
  clear hI hv1 hv2
  obtain ⟨k1, e1⟩ : ∃ N, l.br.length = N := ⟨_, rfl⟩
  obtain ⟨k2, e2⟩ : ∃ N, c.ks.length = N := ⟨_, rfl⟩
  obtain ⟨k3, e3⟩ : ∃ N, nb.length = N := ⟨_, rfl⟩
  obtain ⟨k4, e4⟩ : ∃ N, f.br.length = N := ⟨_, rfl⟩
  obtain ⟨k5, e5⟩ : ∃ N, fb.length = N := ⟨_, rfl⟩
  rw [e1, e2, e3, e4, e5]
  have A0 := be_new w (.cells #[.int .u64 (l.s : Int), .int .u64 (l.u : Int), .string l.p, .string l.t, .string l.b, .string l.ea, .string l.ra, .int .u64 (l.m : Int), .slice a1 k1 c1, .slice a2 k2 c2, .string c.sm, .slice a3 k3 c3, .int .u64 (f.s : Int), .int .u64 (f.u : Int), .string f.p, .string f.t, .string f.b, .string f.ea, .string f.ra, .int .u64 (f.m : Int), .slice a4 k4 c4, .slice a5 k5 c5, .int .u64 (bits : Int), .string sig, .int .u64 (slot : Int)] 43)
  have hx : (w.alloc (.cells #[.int .u64 (l.s : Int), .int .u64 (l.u : Int), .string l.p, .string l.t, .string l.b, .string l.ea, .string l.ra, .int .u64 (l.m : Int), .slice a1 k1 c1, .slice a2 k2 c2, .string c.sm, .slice a3 k3 c3, .int .u64 (f.s : Int), .int .u64 (f.u : Int), .string f.p, .string f.t, .string f.b, .string f.ea, .string f.ra, .int .u64 (f.m : Int), .slice a4 k4 c4, .slice a5 k5 c5, .int .u64 (bits : Int), .string sig, .int .u64 (slot : Int)] 43)).heap[w.heap.size]? = some (.cells #[.int .u64 (l.s : Int), .int .u64 (l.u : Int), .string l.p, .string l.t, .string l.b, .string l.ea, .string l.ra, .int .u64 (l.m : Int), .slice a1 k1 c1, .slice a2 k2 c2, .string c.sm, .slice a3 k3 c3, .int .u64 (f.s : Int), .int .u64 (f.u : Int), .string f.p, .string f.t, .string f.b, .string f.ea, .string f.ra, .int .u64 (f.m : Int), .slice a4 k4 c4, .slice a5 k5 c5, .int .u64 (bits : Int), .string sig, .int .u64 (slot : Int)] 43 (0, 0)) := World.alloc_heap_new w _
  have HP : Hid (w.heap.size + 1 = (w.alloc (.cells #[.int .u64 (l.s : Int), .int .u64 (l.u : Int), .string l.p, .string l.t, .string l.b, .string l.ea, .string l.ra, .int .u64 (l.m : Int), .slice a1 k1 c1, .slice a2 k2 c2, .string c.sm, .slice a3 k3 c3, .int .u64 (f.s : Int), .int .u64 (f.u : Int), .string f.p, .string f.t, .string f.b, .string f.ea, .string f.ra, .int .u64 (f.m : Int), .slice a4 k4 c4, .slice a5 k5 c5, .int .u64 (bits : Int), .string sig, .int .u64 (slot : Int)] 43)).heap.size) := (by simp : w.heap.size + 1 = (w.alloc (.cells #[.int .u64 (l.s : Int), .int .u64 (l.u : Int), .string l.p, .string l.t, .string l.b, .string l.ea, .string l.ra, .int .u64 (l.m : Int), .slice a1 k1 c1, .slice a2 k2 c2, .string c.sm, .slice a3 k3 c3, .int .u64 (f.s : Int), .int .u64 (f.u : Int), .string f.p, .string f.t, .string f.b, .string f.ea, .string f.ra, .int .u64 (f.m : Int), .slice a4 k4 c4, .slice a5 k5 c5, .int .u64 (bits : Int), .string sig, .int .u64 (slot : Int)] 43)).heap.size)
  obtain ⟨w1, hw1⟩ : ∃ W, w.alloc (.cells #[.int .u64 (l.s : Int), .int .u64 (l.u : Int), .string l.p, .string l.t, .string l.b, .string l.ea, .string l.ra, .int .u64 (l.m : Int), .slice a1 k1 c1, .slice a2 k2 c2, .string c.sm, .slice a3 k3 c3, .int .u64 (f.s : Int), .int .u64 (f.u : Int), .string f.p, .string f.t, .string f.b, .string f.ea, .string f.ra, .int .u64 (f.m : Int), .slice a4 k4 c4, .slice a5 k5 c5, .int .u64 (bits : Int), .string sig, .int .u64 (slot : Int)] 43) = W := ⟨_, rfl⟩
  rw [hw1] at A0 hx HP
  have K0 : ∀ W : World, Below w1.heap.size w1 W → _ := fun W hB => rlight_any l hd b1 a1 c1 n W (by have := hB.size; have := A0.size; omega) (slS_below (hB.mono (by have := A0.size; omega)) (slS_below (A0.mono hn) s1))
  obtain ⟨tl, gtl⟩ : ∃ x, ltI l = x := ⟨_, rfl⟩
  rw [e1, gtl] at K0
  rw [gtl] at KE2
  have K1 : ∀ W : World, Below w1.heap.size w1 W → _ := fun W hB => rcomm_any c b2 a2 c2 n W (by have := hB.size; have := A0.size; omega) (slS_below (hB.mono (by have := A0.size; omega)) (slS_below (A0.mono hn) s2))
  obtain ⟨tc, gtc⟩ : ∃ x, cmI c = x := ⟨_, rfl⟩
  rw [e2, gtc] at K1
  rw [gtc] at KE2
  have K2 : ∀ W : World, Below w1.heap.size w1 W → _ := fun W hB => rtexts_any nb b3 a3 c3 n W (by have := hB.size; have := A0.size; omega) (slS_below (hB.mono (by have := A0.size; omega)) (slS_below (A0.mono hn) s3))
  obtain ⟨tb, gtb⟩ : ∃ x, tsI nb = x := ⟨_, rfl⟩
  rw [e3, gtb] at K2
  rw [gtb] at KE2
  have K3 : ∀ W : World, Below w1.heap.size w1 W → _ := fun W hB => rlight_any f hf b4 a4 c4 n W (by have := hB.size; have := A0.size; omega) (slS_below (hB.mono (by have := A0.size; omega)) (slS_below (A0.mono hn) s4))
  obtain ⟨tf, gtf⟩ : ∃ x, ltI f = x := ⟨_, rfl⟩
  rw [e4, gtf] at K3
  rw [gtf] at KE2
  have K4 : ∀ W : World, Below w1.heap.size w1 W → _ := fun W hB => rtexts_any fb b5 a5 c5 n W (by have := hB.size; have := A0.size; omega) (slS_below (hB.mono (by have := A0.size; omega)) (slS_below (A0.mono hn) s5))
  obtain ⟨tu, gtu⟩ : ∃ x, tsI fb = x := ⟨_, rfl⟩
  rw [e5, gtu] at K4
  rw [gtu] at KE2
  have K5 := fun W => rnum_any bits hb6 W
  obtain ⟨n1, hn1⟩ : ∃ x, numOf bits = x := ⟨_, rfl⟩
  rw [hn1] at K5 KE2
  clear hn1
  have K7 := fun W => rnum_any slot hs6 W
  obtain ⟨n2, hn2⟩ : ∃ x, numOf slot = x := ⟨_, rfl⟩
  rw [hn2] at K7 KE2
  clear hn2
  clear e1 b1 e2 b2 e3 b3 e4 b4 e5 b5 gtl gtc gtb gtf gtu s1 s2 s3 hd s4 s5 hf hb6 hs6
  obtain ⟨z, hz⟩ : ∃ z, w.heap.size = z := ⟨_, rfl⟩
  have HZ : Hid (w.heap.size = z) := hz
  rw [hz] at hx A0
  have hzl : z < w1.heap.size := by have := HP.out; omega
  have c0_ : w1.cell? ⟨z, 0, none⟩ = some (.int .u64 (l.s : Int)) := by rw [Lib.cell_of_heap hx]; rfl
  have c1_ : w1.cell? ⟨z, 1, none⟩ = some (.int .u64 (l.u : Int)) := by rw [Lib.cell_of_heap hx]; rfl
  have c2_ : w1.cell? ⟨z, 2, none⟩ = some (.string l.p) := by rw [Lib.cell_of_heap hx]; rfl
  have c3_ : w1.cell? ⟨z, 3, none⟩ = some (.string l.t) := by rw [Lib.cell_of_heap hx]; rfl
  have c4_ : w1.cell? ⟨z, 4, none⟩ = some (.string l.b) := by rw [Lib.cell_of_heap hx]; rfl
  have c5_ : w1.cell? ⟨z, 5, none⟩ = some (.string l.ea) := by rw [Lib.cell_of_heap hx]; rfl
  have c6_ : w1.cell? ⟨z, 6, none⟩ = some (.string l.ra) := by rw [Lib.cell_of_heap hx]; rfl
  have c7_ : w1.cell? ⟨z, 7, none⟩ = some (.int .u64 (l.m : Int)) := by rw [Lib.cell_of_heap hx]; rfl
  have c8_ : w1.cell? ⟨z, 8, none⟩ = some (.slice a1 k1 c1) := by rw [Lib.cell_of_heap hx]; rfl
  have c9_ : w1.cell? ⟨z, 9, none⟩ = some (.slice a2 k2 c2) := by rw [Lib.cell_of_heap hx]; rfl
  have c10_ : w1.cell? ⟨z, 10, none⟩ = some (.string c.sm) := by rw [Lib.cell_of_heap hx]; rfl
  have c11_ : w1.cell? ⟨z, 11, none⟩ = some (.slice a3 k3 c3) := by rw [Lib.cell_of_heap hx]; rfl
  have c12_ : w1.cell? ⟨z, 12, none⟩ = some (.int .u64 (f.s : Int)) := by rw [Lib.cell_of_heap hx]; rfl
  have c13_ : w1.cell? ⟨z, 13, none⟩ = some (.int .u64 (f.u : Int)) := by rw [Lib.cell_of_heap hx]; rfl
  have c14_ : w1.cell? ⟨z, 14, none⟩ = some (.string f.p) := by rw [Lib.cell_of_heap hx]; rfl
  have c15_ : w1.cell? ⟨z, 15, none⟩ = some (.string f.t) := by rw [Lib.cell_of_heap hx]; rfl
  have c16_ : w1.cell? ⟨z, 16, none⟩ = some (.string f.b) := by rw [Lib.cell_of_heap hx]; rfl
  have c17_ : w1.cell? ⟨z, 17, none⟩ = some (.string f.ea) := by rw [Lib.cell_of_heap hx]; rfl
  have c18_ : w1.cell? ⟨z, 18, none⟩ = some (.string f.ra) := by rw [Lib.cell_of_heap hx]; rfl
  have c19_ : w1.cell? ⟨z, 19, none⟩ = some (.int .u64 (f.m : Int)) := by rw [Lib.cell_of_heap hx]; rfl
  have c20_ : w1.cell? ⟨z, 20, none⟩ = some (.slice a4 k4 c4) := by rw [Lib.cell_of_heap hx]; rfl
  have c21_ : w1.cell? ⟨z, 21, none⟩ = some (.slice a5 k5 c5) := by rw [Lib.cell_of_heap hx]; rfl
  have c22_ : w1.cell? ⟨z, 22, none⟩ = some (.int .u64 (bits : Int)) := by rw [Lib.cell_of_heap hx]; rfl
  have c23_ : w1.cell? ⟨z, 23, none⟩ = some (.string sig) := by rw [Lib.cell_of_heap hx]; rfl
  have c24_ : w1.cell? ⟨z, 24, none⟩ = some (.int .u64 (slot : Int)) := by rw [Lib.cell_of_heap hx]; rfl
  clear hx
  go_enter Tryd.func21, Tryd.ntmps21
  go_wp2_with fail
  first | rw [hw1] | skip
  try rw [hz]
  clear hw1 hz
  refine region_inv (fun S aa W => ∃ x2 x3 x4 x5 x6 x7 x8 x9 x10 x11 x12 x13 x14 x15 x16 x17 x18 x19 x20 x21 x22 x23 x24 x25 x26 x27 x28 x29 x30 x31 x32 : Value, aa = { tmps := #[Value.agg #[Value.int IntKind.u64 ↑l.s, Value.int IntKind.u64 ↑l.u, Value.string l.p, Value.string l.t, Value.string l.b, Value.string l.ea, Value.string l.ra, Value.int IntKind.u64 ↑l.m, Value.slice a1 k1 c1, Value.slice a2 k2 c2, Value.string c.sm, Value.slice a3 k3 c3, Value.int IntKind.u64 ↑f.s, Value.int IntKind.u64 ↑f.u, Value.string f.p, Value.string f.t, Value.string f.b, Value.string f.ea, Value.string f.ra, Value.int IntKind.u64 ↑f.m, Value.slice a4 k4 c4, Value.slice a5 k5 c5, Value.int IntKind.u64 ↑bits, Value.string sig, Value.int IntKind.u64 ↑slot], Value.pointer (some ⟨z, 0, none⟩), x2, x3, x4, x5, x6, x7, x8, x9, x10, x11, x12, x13, x14, x15, x16, x17, x18, x19, x20, x21, x22, x23, x24, x25, x26, x27, x28, x29, x30, x31, x32], defers := [] } ∧ Mb_up w1 z k1 k2 k3 k4 k5 c1 c2 c3 c4 c5 bits slot l f c a1 a2 a3 a4 a5 tl tc tb tf tu n1 n2 sig v1 v2 S x2 x3 x4 x5 x6 x7 x8 x9 x10 x11 x12 x13 x14 x15 x16 x17 x18 x19 x20 x21 x22 x23 x24 x25 x26 x27 x28 x29 x30 x31 x32 W) (by kernel_rfl) (by kernel_rfl) ?_ ?_ ?_
  · exact ⟨Value.string { data := #[] }, Value.int IntKind.i64 0, undef, undef, undef, undef, undef, undef, undef, undef, undef, undef, undef, undef, undef, undef, undef, undef, undef, undef, undef, undef, undef, undef, undef, undef, undef, undef, undef, undef, undef, rfl, ⟨(Below.refl _ w1).drew, nofun, nofun, nofun, nofun, nofun, nofun, nofun, nofun, nofun, nofun, nofun, nofun, nofun, nofun, nofun, nofun, nofun, nofun, nofun, nofun, nofun, nofun, nofun, nofun, nofun, nofun, nofun, nofun, nofun, nofun, nofun⟩⟩
  · intro i o S aa W hi hun hJ hall K hK
    obtain ⟨x2, x3, x4, x5, x6, x7, x8, x9, x10, x11, x12, x13, x14, x15, x16, x17, x18, x19, x20, x21, x22, x23, x24, x25, x26, x27, x28, x29, x30, x31, x32, rfl, h⟩ := hJ
    have hlt : i < 31 := (List.getElem?_eq_some_iff.1 hi).1
    have hcase : i = 0 ∨ i = 1 ∨ i = 2 ∨ i = 3 ∨ i = 4 ∨ i = 5 ∨ i = 6 ∨ i = 7 ∨ i = 8 ∨ i = 9 ∨ i = 10 ∨ i = 11 ∨ i = 12 ∨ i = 13 ∨ i = 14 ∨ i = 15 ∨ i = 16 ∨ i = 17 ∨ i = 18 ∨ i = 19 ∨ i = 20 ∨ i = 21 ∨ i = 22 ∨ i = 23 ∨ i = 24 ∨ i = 25 ∨ i = 26 ∨ i = 27 ∨ i = 28 ∨ i = 29 ∨ i = 30 := by omega
    rcases hcase with rfl | rfl | rfl | rfl | rfl | rfl | rfl | rfl | rfl | rfl | rfl | rfl | rfl | rfl | rfl | rfl | rfl | rfl | rfl | rfl | rfl | rfl | rfl | rfl | rfl | rfl | rfl | rfl | rfl | rfl | rfl
    all_goals (have ho := (Option.some.inj hi).symm; subst ho; clear hi hlt)
    · go_simp
      exact hK _ _ ⟨x2, x3, _, x5, x6, x7, x8, x9, x10, x11, x12, x13, x14, x15, x16, x17, x18, x19, x20, x21, x22, x23, x24, x25, x26, x27, x28, x29, x30, x31, x32, rfl, ⟨h.e, fun _ => rfl, h.f1, h.f2, h.f3, h.f4, h.f5, h.f6, h.f7, h.f8, h.f9, h.f10, h.f11, h.f12, h.f13, h.f14, h.f15, h.f16, h.f17, h.f18, h.f19, h.f20, h.f21, h.f22, h.f23, h.f24, h.f25, h.f26, h.f27, h.f28, h.f29, h.f30⟩⟩
    · have s_0 : S 0 = true := hall ⟨0, .data⟩ (by simp) rfl
      obtain rfl := h.f0 s_0
      have cW0 := (h.e.cell (p := ⟨z, 0, none⟩) (by show z < _; exact hzl)).trans c0_
      have cW1 := (h.e.cell (p := ⟨z, 1, none⟩) (by show z < _; exact hzl)).trans c1_
      have cW2 := (h.e.cell (p := ⟨z, 2, none⟩) (by show z < _; exact hzl)).trans c2_
      have cW3 := (h.e.cell (p := ⟨z, 3, none⟩) (by show z < _; exact hzl)).trans c3_
      have cW4 := (h.e.cell (p := ⟨z, 4, none⟩) (by show z < _; exact hzl)).trans c4_
      have cW5 := (h.e.cell (p := ⟨z, 5, none⟩) (by show z < _; exact hzl)).trans c5_
      have cW6 := (h.e.cell (p := ⟨z, 6, none⟩) (by show z < _; exact hzl)).trans c6_
      have cW7 := (h.e.cell (p := ⟨z, 7, none⟩) (by show z < _; exact hzl)).trans c7_
      have cW8 := (h.e.cell (p := ⟨z, 8, none⟩) (by show z < _; exact hzl)).trans c8_
      go_simp
      exact hK _ _ ⟨x2, x3, _, _, x6, x7, x8, x9, x10, x11, x12, x13, x14, x15, x16, x17, x18, x19, x20, x21, x22, x23, x24, x25, x26, x27, x28, x29, x30, x31, x32, rfl, ⟨h.e, h.f0, fun _ => rfl, h.f2, h.f3, h.f4, h.f5, h.f6, h.f7, h.f8, h.f9, h.f10, h.f11, h.f12, h.f13, h.f14, h.f15, h.f16, h.f17, h.f18, h.f19, h.f20, h.f21, h.f22, h.f23, h.f24, h.f25, h.f26, h.f27, h.f28, h.f29, h.f30⟩⟩
    · have s_1 : S 1 = true := hall ⟨1, .data⟩ (by simp) rfl
      obtain rfl := h.f1 s_1
      go_simp
      refine (K0 W h.e).mono ?_
      rintro e w5 ⟨Y5, rfl, k1, k2, hb5⟩
      have h1 := h.grow hb5
      exact hK _ _ ⟨x2, x3, x4, _, _, x7, x8, x9, x10, x11, x12, x13, x14, x15, x16, x17, x18, x19, x20, x21, x22, x23, x24, x25, x26, x27, x28, x29, x30, x31, x32, rfl, ⟨h1.e, h1.f0, h1.f1, fun _ => ⟨Y5, rfl, k1, inP_of (fun b hb => ⟨⟨Nat.le_trans h.e.size hb.1, hb.2⟩, fun _ => rfl⟩) _ k2⟩, h1.f3, h1.f4, h1.f5, h1.f6, h1.f7, h1.f8, h1.f9, h1.f10, h1.f11, h1.f12, h1.f13, h1.f14, h1.f15, h1.f16, h1.f17, h1.f18, h1.f19, h1.f20, h1.f21, h1.f22, h1.f23, h1.f24, h1.f25, h1.f26, h1.f27, h1.f28, h1.f29, h1.f30⟩⟩
    · go_simp
      exact hK _ _ ⟨x2, x3, x4, x5, x6, _, x8, x9, x10, x11, x12, x13, x14, x15, x16, x17, x18, x19, x20, x21, x22, x23, x24, x25, x26, x27, x28, x29, x30, x31, x32, rfl, ⟨h.e, h.f0, h.f1, h.f2, fun _ => rfl, h.f4, h.f5, h.f6, h.f7, h.f8, h.f9, h.f10, h.f11, h.f12, h.f13, h.f14, h.f15, h.f16, h.f17, h.f18, h.f19, h.f20, h.f21, h.f22, h.f23, h.f24, h.f25, h.f26, h.f27, h.f28, h.f29, h.f30⟩⟩
    · have s_3 : S 3 = true := hall ⟨3, .data⟩ (by simp) rfl
      obtain rfl := h.f3 s_3
      have cW9 := (h.e.cell (p := ⟨z, 9, none⟩) (by show z < _; exact hzl)).trans c9_
      have cW10 := (h.e.cell (p := ⟨z, 10, none⟩) (by show z < _; exact hzl)).trans c10_
      go_simp
      exact hK _ _ ⟨x2, x3, x4, x5, x6, _, _, x9, x10, x11, x12, x13, x14, x15, x16, x17, x18, x19, x20, x21, x22, x23, x24, x25, x26, x27, x28, x29, x30, x31, x32, rfl, ⟨h.e, h.f0, h.f1, h.f2, h.f3, fun _ => rfl, h.f5, h.f6, h.f7, h.f8, h.f9, h.f10, h.f11, h.f12, h.f13, h.f14, h.f15, h.f16, h.f17, h.f18, h.f19, h.f20, h.f21, h.f22, h.f23, h.f24, h.f25, h.f26, h.f27, h.f28, h.f29, h.f30⟩⟩
    · have s_4 : S 4 = true := hall ⟨4, .data⟩ (by simp) rfl
      obtain rfl := h.f4 s_4
      go_simp
      refine (K1 W h.e).mono ?_
      rintro e w5 ⟨Y5, rfl, k1, k2, hb5⟩
      have h1 := h.grow hb5
      exact hK _ _ ⟨x2, x3, x4, x5, x6, x7, _, _, x10, x11, x12, x13, x14, x15, x16, x17, x18, x19, x20, x21, x22, x23, x24, x25, x26, x27, x28, x29, x30, x31, x32, rfl, ⟨h1.e, h1.f0, h1.f1, h1.f2, h1.f3, h1.f4, fun _ => ⟨Y5, rfl, k1, inP_of (fun b hb => ⟨⟨Nat.le_trans h.e.size hb.1, hb.2⟩, fun _ => rfl⟩) _ k2⟩, h1.f6, h1.f7, h1.f8, h1.f9, h1.f10, h1.f11, h1.f12, h1.f13, h1.f14, h1.f15, h1.f16, h1.f17, h1.f18, h1.f19, h1.f20, h1.f21, h1.f22, h1.f23, h1.f24, h1.f25, h1.f26, h1.f27, h1.f28, h1.f29, h1.f30⟩⟩
    · go_simp
      exact hK _ _ ⟨x2, x3, x4, x5, x6, x7, x8, x9, _, x11, x12, x13, x14, x15, x16, x17, x18, x19, x20, x21, x22, x23, x24, x25, x26, x27, x28, x29, x30, x31, x32, rfl, ⟨h.e, h.f0, h.f1, h.f2, h.f3, h.f4, h.f5, fun _ => rfl, h.f7, h.f8, h.f9, h.f10, h.f11, h.f12, h.f13, h.f14, h.f15, h.f16, h.f17, h.f18, h.f19, h.f20, h.f21, h.f22, h.f23, h.f24, h.f25, h.f26, h.f27, h.f28, h.f29, h.f30⟩⟩
    · have s_6 : S 6 = true := hall ⟨6, .data⟩ (by simp) rfl
      obtain rfl := h.f6 s_6
      have cW11 := (h.e.cell (p := ⟨z, 11, none⟩) (by show z < _; exact hzl)).trans c11_
      go_simp
      exact hK _ _ ⟨x2, x3, x4, x5, x6, x7, x8, x9, _, _, x12, x13, x14, x15, x16, x17, x18, x19, x20, x21, x22, x23, x24, x25, x26, x27, x28, x29, x30, x31, x32, rfl, ⟨h.e, h.f0, h.f1, h.f2, h.f3, h.f4, h.f5, h.f6, fun _ => rfl, h.f8, h.f9, h.f10, h.f11, h.f12, h.f13, h.f14, h.f15, h.f16, h.f17, h.f18, h.f19, h.f20, h.f21, h.f22, h.f23, h.f24, h.f25, h.f26, h.f27, h.f28, h.f29, h.f30⟩⟩
    · have s_7 : S 7 = true := hall ⟨7, .data⟩ (by simp) rfl
      obtain rfl := h.f7 s_7
      go_simp
      refine (K2 W h.e).mono ?_
      rintro e w5 ⟨Y5, rfl, k1, k2, hb5⟩
      have h1 := h.grow hb5
      exact hK _ _ ⟨x2, x3, x4, x5, x6, x7, x8, x9, x10, _, _, x13, x14, x15, x16, x17, x18, x19, x20, x21, x22, x23, x24, x25, x26, x27, x28, x29, x30, x31, x32, rfl, ⟨h1.e, h1.f0, h1.f1, h1.f2, h1.f3, h1.f4, h1.f5, h1.f6, h1.f7, fun _ => ⟨Y5, rfl, k1, inP_of (fun b hb => ⟨⟨Nat.le_trans h.e.size hb.1, hb.2⟩, fun _ => rfl⟩) _ k2⟩, h1.f9, h1.f10, h1.f11, h1.f12, h1.f13, h1.f14, h1.f15, h1.f16, h1.f17, h1.f18, h1.f19, h1.f20, h1.f21, h1.f22, h1.f23, h1.f24, h1.f25, h1.f26, h1.f27, h1.f28, h1.f29, h1.f30⟩⟩
    · go_simp
      exact hK _ _ ⟨x2, x3, x4, x5, x6, x7, x8, x9, x10, x11, x12, _, x14, x15, x16, x17, x18, x19, x20, x21, x22, x23, x24, x25, x26, x27, x28, x29, x30, x31, x32, rfl, ⟨h.e, h.f0, h.f1, h.f2, h.f3, h.f4, h.f5, h.f6, h.f7, h.f8, fun _ => rfl, h.f10, h.f11, h.f12, h.f13, h.f14, h.f15, h.f16, h.f17, h.f18, h.f19, h.f20, h.f21, h.f22, h.f23, h.f24, h.f25, h.f26, h.f27, h.f28, h.f29, h.f30⟩⟩
    · have s_9 : S 9 = true := hall ⟨9, .data⟩ (by simp) rfl
      obtain rfl := h.f9 s_9
      have cW12 := (h.e.cell (p := ⟨z, 12, none⟩) (by show z < _; exact hzl)).trans c12_
      have cW13 := (h.e.cell (p := ⟨z, 13, none⟩) (by show z < _; exact hzl)).trans c13_
      have cW14 := (h.e.cell (p := ⟨z, 14, none⟩) (by show z < _; exact hzl)).trans c14_
      have cW15 := (h.e.cell (p := ⟨z, 15, none⟩) (by show z < _; exact hzl)).trans c15_
      have cW16 := (h.e.cell (p := ⟨z, 16, none⟩) (by show z < _; exact hzl)).trans c16_
      have cW17 := (h.e.cell (p := ⟨z, 17, none⟩) (by show z < _; exact hzl)).trans c17_
      have cW18 := (h.e.cell (p := ⟨z, 18, none⟩) (by show z < _; exact hzl)).trans c18_
      have cW19 := (h.e.cell (p := ⟨z, 19, none⟩) (by show z < _; exact hzl)).trans c19_
      have cW20 := (h.e.cell (p := ⟨z, 20, none⟩) (by show z < _; exact hzl)).trans c20_
      go_simp
      exact hK _ _ ⟨x2, x3, x4, x5, x6, x7, x8, x9, x10, x11, x12, _, _, x15, x16, x17, x18, x19, x20, x21, x22, x23, x24, x25, x26, x27, x28, x29, x30, x31, x32, rfl, ⟨h.e, h.f0, h.f1, h.f2, h.f3, h.f4, h.f5, h.f6, h.f7, h.f8, h.f9, fun _ => rfl, h.f11, h.f12, h.f13, h.f14, h.f15, h.f16, h.f17, h.f18, h.f19, h.f20, h.f21, h.f22, h.f23, h.f24, h.f25, h.f26, h.f27, h.f28, h.f29, h.f30⟩⟩
    · have s_10 : S 10 = true := hall ⟨10, .data⟩ (by simp) rfl
      obtain rfl := h.f10 s_10
      go_simp
      refine (K3 W h.e).mono ?_
      rintro e w5 ⟨Y5, rfl, k1, k2, hb5⟩
      have h1 := h.grow hb5
      exact hK _ _ ⟨x2, x3, x4, x5, x6, x7, x8, x9, x10, x11, x12, x13, _, _, x16, x17, x18, x19, x20, x21, x22, x23, x24, x25, x26, x27, x28, x29, x30, x31, x32, rfl, ⟨h1.e, h1.f0, h1.f1, h1.f2, h1.f3, h1.f4, h1.f5, h1.f6, h1.f7, h1.f8, h1.f9, h1.f10, fun _ => ⟨Y5, rfl, k1, inP_of (fun b hb => ⟨⟨Nat.le_trans h.e.size hb.1, hb.2⟩, fun _ => rfl⟩) _ k2⟩, h1.f12, h1.f13, h1.f14, h1.f15, h1.f16, h1.f17, h1.f18, h1.f19, h1.f20, h1.f21, h1.f22, h1.f23, h1.f24, h1.f25, h1.f26, h1.f27, h1.f28, h1.f29, h1.f30⟩⟩
    · go_simp
      exact hK _ _ ⟨x2, x3, x4, x5, x6, x7, x8, x9, x10, x11, x12, x13, x14, x15, _, x17, x18, x19, x20, x21, x22, x23, x24, x25, x26, x27, x28, x29, x30, x31, x32, rfl, ⟨h.e, h.f0, h.f1, h.f2, h.f3, h.f4, h.f5, h.f6, h.f7, h.f8, h.f9, h.f10, h.f11, fun _ => rfl, h.f13, h.f14, h.f15, h.f16, h.f17, h.f18, h.f19, h.f20, h.f21, h.f22, h.f23, h.f24, h.f25, h.f26, h.f27, h.f28, h.f29, h.f30⟩⟩
    · have s_12 : S 12 = true := hall ⟨12, .data⟩ (by simp) rfl
      obtain rfl := h.f12 s_12
      have cW21 := (h.e.cell (p := ⟨z, 21, none⟩) (by show z < _; exact hzl)).trans c21_
      go_simp
      exact hK _ _ ⟨x2, x3, x4, x5, x6, x7, x8, x9, x10, x11, x12, x13, x14, x15, _, _, x18, x19, x20, x21, x22, x23, x24, x25, x26, x27, x28, x29, x30, x31, x32, rfl, ⟨h.e, h.f0, h.f1, h.f2, h.f3, h.f4, h.f5, h.f6, h.f7, h.f8, h.f9, h.f10, h.f11, h.f12, fun _ => rfl, h.f14, h.f15, h.f16, h.f17, h.f18, h.f19, h.f20, h.f21, h.f22, h.f23, h.f24, h.f25, h.f26, h.f27, h.f28, h.f29, h.f30⟩⟩
    · have s_13 : S 13 = true := hall ⟨13, .data⟩ (by simp) rfl
      obtain rfl := h.f13 s_13
      go_simp
      refine (K4 W h.e).mono ?_
      rintro e w5 ⟨Y5, rfl, k1, k2, hb5⟩
      have h1 := h.grow hb5
      exact hK _ _ ⟨x2, x3, x4, x5, x6, x7, x8, x9, x10, x11, x12, x13, x14, x15, x16, _, _, x19, x20, x21, x22, x23, x24, x25, x26, x27, x28, x29, x30, x31, x32, rfl, ⟨h1.e, h1.f0, h1.f1, h1.f2, h1.f3, h1.f4, h1.f5, h1.f6, h1.f7, h1.f8, h1.f9, h1.f10, h1.f11, h1.f12, h1.f13, fun _ => ⟨Y5, rfl, k1, inP_of (fun b hb => ⟨⟨Nat.le_trans h.e.size hb.1, hb.2⟩, fun _ => rfl⟩) _ k2⟩, h1.f15, h1.f16, h1.f17, h1.f18, h1.f19, h1.f20, h1.f21, h1.f22, h1.f23, h1.f24, h1.f25, h1.f26, h1.f27, h1.f28, h1.f29, h1.f30⟩⟩
    · go_simp
      exact hK _ _ ⟨x2, x3, x4, x5, x6, x7, x8, x9, x10, x11, x12, x13, x14, x15, x16, x17, x18, _, x20, x21, x22, x23, x24, x25, x26, x27, x28, x29, x30, x31, x32, rfl, ⟨h.e, h.f0, h.f1, h.f2, h.f3, h.f4, h.f5, h.f6, h.f7, h.f8, h.f9, h.f10, h.f11, h.f12, h.f13, h.f14, fun _ => rfl, h.f16, h.f17, h.f18, h.f19, h.f20, h.f21, h.f22, h.f23, h.f24, h.f25, h.f26, h.f27, h.f28, h.f29, h.f30⟩⟩
    · have s_15 : S 15 = true := hall ⟨15, .data⟩ (by simp) rfl
      obtain rfl := h.f15 s_15
      have cW22 := (h.e.cell (p := ⟨z, 22, none⟩) (by show z < _; exact hzl)).trans c22_
      go_simp
      exact hK _ _ ⟨x2, x3, x4, x5, x6, x7, x8, x9, x10, x11, x12, x13, x14, x15, x16, x17, x18, _, _, x21, x22, x23, x24, x25, x26, x27, x28, x29, x30, x31, x32, rfl, ⟨h.e, h.f0, h.f1, h.f2, h.f3, h.f4, h.f5, h.f6, h.f7, h.f8, h.f9, h.f10, h.f11, h.f12, h.f13, h.f14, h.f15, fun _ => rfl, h.f17, h.f18, h.f19, h.f20, h.f21, h.f22, h.f23, h.f24, h.f25, h.f26, h.f27, h.f28, h.f29, h.f30⟩⟩
    · have s_16 : S 16 = true := hall ⟨16, .data⟩ (by simp) rfl
      obtain rfl := h.f16 s_16
      go_simp
      refine (K5 W).mono ?_
      rintro e w5 ⟨rfl, hb5⟩
      have h1 := h.grow hb5
      exact hK _ _ ⟨x2, x3, x4, x5, x6, x7, x8, x9, x10, x11, x12, x13, x14, x15, x16, x17, x18, x19, _, _, x22, x23, x24, x25, x26, x27, x28, x29, x30, x31, x32, rfl, ⟨h1.e, h1.f0, h1.f1, h1.f2, h1.f3, h1.f4, h1.f5, h1.f6, h1.f7, h1.f8, h1.f9, h1.f10, h1.f11, h1.f12, h1.f13, h1.f14, h1.f15, h1.f16, fun _ => rfl, h1.f18, h1.f19, h1.f20, h1.f21, h1.f22, h1.f23, h1.f24, h1.f25, h1.f26, h1.f27, h1.f28, h1.f29, h1.f30⟩⟩
    · go_simp
      exact hK _ _ ⟨x2, x3, x4, x5, x6, x7, x8, x9, x10, x11, x12, x13, x14, x15, x16, x17, x18, x19, x20, x21, _, x23, x24, x25, x26, x27, x28, x29, x30, x31, x32, rfl, ⟨h.e, h.f0, h.f1, h.f2, h.f3, h.f4, h.f5, h.f6, h.f7, h.f8, h.f9, h.f10, h.f11, h.f12, h.f13, h.f14, h.f15, h.f16, h.f17, fun _ => rfl, h.f19, h.f20, h.f21, h.f22, h.f23, h.f24, h.f25, h.f26, h.f27, h.f28, h.f29, h.f30⟩⟩
    · have s_18 : S 18 = true := hall ⟨18, .data⟩ (by simp) rfl
      obtain rfl := h.f18 s_18
      have cW23 := (h.e.cell (p := ⟨z, 23, none⟩) (by show z < _; exact hzl)).trans c23_
      go_simp
      exact hK _ _ ⟨x2, x3, x4, x5, x6, x7, x8, x9, x10, x11, x12, x13, x14, x15, x16, x17, x18, x19, x20, x21, _, _, x24, x25, x26, x27, x28, x29, x30, x31, x32, rfl, ⟨h.e, h.f0, h.f1, h.f2, h.f3, h.f4, h.f5, h.f6, h.f7, h.f8, h.f9, h.f10, h.f11, h.f12, h.f13, h.f14, h.f15, h.f16, h.f17, h.f18, fun _ => rfl, h.f20, h.f21, h.f22, h.f23, h.f24, h.f25, h.f26, h.f27, h.f28, h.f29, h.f30⟩⟩
    · have s_19 : S 19 = true := hall ⟨19, .data⟩ (by simp) rfl
      obtain rfl := h.f19 s_19
      go_simp
      refine (rtext_any sig W).mono ?_
      rintro e w5 ⟨rfl, hb5⟩
      have h1 := h.grow hb5
      exact hK _ _ ⟨x2, x3, x4, x5, x6, x7, x8, x9, x10, x11, x12, x13, x14, x15, x16, x17, x18, x19, x20, x21, x22, _, _, x25, x26, x27, x28, x29, x30, x31, x32, rfl, ⟨h1.e, h1.f0, h1.f1, h1.f2, h1.f3, h1.f4, h1.f5, h1.f6, h1.f7, h1.f8, h1.f9, h1.f10, h1.f11, h1.f12, h1.f13, h1.f14, h1.f15, h1.f16, h1.f17, h1.f18, h1.f19, fun _ => rfl, h1.f21, h1.f22, h1.f23, h1.f24, h1.f25, h1.f26, h1.f27, h1.f28, h1.f29, h1.f30⟩⟩
    · go_simp
      exact hK _ _ ⟨x2, x3, x4, x5, x6, x7, x8, x9, x10, x11, x12, x13, x14, x15, x16, x17, x18, x19, x20, x21, x22, x23, x24, _, x26, x27, x28, x29, x30, x31, x32, rfl, ⟨h.e, h.f0, h.f1, h.f2, h.f3, h.f4, h.f5, h.f6, h.f7, h.f8, h.f9, h.f10, h.f11, h.f12, h.f13, h.f14, h.f15, h.f16, h.f17, h.f18, h.f19, h.f20, fun _ => rfl, h.f22, h.f23, h.f24, h.f25, h.f26, h.f27, h.f28, h.f29, h.f30⟩⟩
    · have s_21 : S 21 = true := hall ⟨21, .data⟩ (by simp) rfl
      obtain rfl := h.f21 s_21
      have cW24 := (h.e.cell (p := ⟨z, 24, none⟩) (by show z < _; exact hzl)).trans c24_
      go_simp
      exact hK _ _ ⟨x2, x3, x4, x5, x6, x7, x8, x9, x10, x11, x12, x13, x14, x15, x16, x17, x18, x19, x20, x21, x22, x23, x24, _, _, x27, x28, x29, x30, x31, x32, rfl, ⟨h.e, h.f0, h.f1, h.f2, h.f3, h.f4, h.f5, h.f6, h.f7, h.f8, h.f9, h.f10, h.f11, h.f12, h.f13, h.f14, h.f15, h.f16, h.f17, h.f18, h.f19, h.f20, h.f21, fun _ => rfl, h.f23, h.f24, h.f25, h.f26, h.f27, h.f28, h.f29, h.f30⟩⟩
    · have s_22 : S 22 = true := hall ⟨22, .data⟩ (by simp) rfl
      obtain rfl := h.f22 s_22
      go_simp
      refine (K7 W).mono ?_
      rintro e w5 ⟨rfl, hb5⟩
      have h1 := h.grow hb5
      exact hK _ _ ⟨x2, x3, x4, x5, x6, x7, x8, x9, x10, x11, x12, x13, x14, x15, x16, x17, x18, x19, x20, x21, x22, x23, x24, x25, _, _, x28, x29, x30, x31, x32, rfl, ⟨h1.e, h1.f0, h1.f1, h1.f2, h1.f3, h1.f4, h1.f5, h1.f6, h1.f7, h1.f8, h1.f9, h1.f10, h1.f11, h1.f12, h1.f13, h1.f14, h1.f15, h1.f16, h1.f17, h1.f18, h1.f19, h1.f20, h1.f21, h1.f22, fun _ => rfl, h1.f24, h1.f25, h1.f26, h1.f27, h1.f28, h1.f29, h1.f30⟩⟩
    · have s_2 : S 2 = true := hall ⟨2, .data⟩ (by simp) rfl
      obtain ⟨⟨yl2, yt2, ya2, yc2, yx2⟩, rfl, he2, hi2⟩ := h.f2 s_2
      have s_5 : S 5 = true := hall ⟨5, .data⟩ (by simp) rfl
      obtain ⟨⟨yl5, yt5, ya5, yc5, yx5⟩, rfl, he5, hi5⟩ := h.f5 s_5
      have s_8 : S 8 = true := hall ⟨8, .data⟩ (by simp) rfl
      obtain ⟨⟨yl8, yt8, ya8, yc8, yx8⟩, rfl, he8, hi8⟩ := h.f8 s_8
      have s_11 : S 11 = true := hall ⟨11, .data⟩ (by simp) rfl
      obtain ⟨⟨yl11, yt11, ya11, yc11, yx11⟩, rfl, he11, hi11⟩ := h.f11 s_11
      have s_14 : S 14 = true := hall ⟨14, .data⟩ (by simp) rfl
      obtain ⟨⟨yl14, yt14, ya14, yc14, yx14⟩, rfl, he14, hi14⟩ := h.f14 s_14
      have s_17 : S 17 = true := hall ⟨17, .data⟩ (by simp) rfl
      obtain rfl := h.f17 s_17
      have s_20 : S 20 = true := hall ⟨20, .data⟩ (by simp) rfl
      obtain rfl := h.f20 s_20
      have s_23 : S 23 = true := hall ⟨23, .data⟩ (by simp) rfl
      obtain rfl := h.f23 s_23
      simp only [Im.val, Im.sl, Im.l, Im.t, Im.a, Im.xs, Im.c]
      go_simp
      have h1 := h.grow (be_new W (.cells #[.bool yl2, .string yt2, .slice ya2 yx2.length yc2, .bool yl5, .string yt5, .slice ya5 yx5.length yc5, .bool yl8, .string yt8, .slice ya8 yx8.length yc8, .bool yl11, .string yt11, .slice ya11 yx11.length yc11, .bool yl14, .string yt14, .slice ya14 yx14.length yc14, .bool false, .string n1, .slice none 0 0, .bool false, .string sig, .slice none 0 0, .bool false, .string n2, .slice none 0 0] 70))
      have hmem : ∀ y, y ∈ ([.mk yl2 yt2 ya2 yc2 yx2, .mk yl5 yt5 ya5 yc5 yx5, .mk yl8 yt8 ya8 yc8 yx8, .mk yl11 yt11 ya11 yc11 yx11, .mk yl14 yt14 ya14 yc14 yx14, txt n1, txt sig, txt n2] : List Im) → inP (fun b => w1.heap.size ≤ b ∧ b < W.heap.size) W y := fun y hy => by
        simp only [List.mem_cons, List.not_mem_nil, or_false] at hy
        rcases hy with e | e | e | e | e | e | e | e
        · rw [e]; exact hi2
        · rw [e]; exact hi5
        · rw [e]; exact hi8
        · rw [e]; exact hi11
        · rw [e]; exact hi14
        · rw [e]; exact trivial
        · rw [e]; exact trivial
        · rw [e]; exact trivial
      have hrw := row_new (W := W) h.e.size [.mk yl2 yt2 ya2 yc2 yx2, .mk yl5 yt5 ya5 yc5 yx5, .mk yl8 yt8 ya8 yc8 yx8, .mk yl11 yt11 ya11 yc11 yx11, .mk yl14 yt14 ya14 yc14 yx14, txt n1, txt sig, txt n2] hmem (cs := #[.bool yl2, .string yt2, .slice ya2 yx2.length yc2, .bool yl5, .string yt5, .slice ya5 yx5.length yc5, .bool yl8, .string yt8, .slice ya8 yx8.length yc8, .bool yl11, .string yt11, .slice ya11 yx11.length yc11, .bool yl14, .string yt14, .slice ya14 yx14.length yc14, .bool false, .string n1, .slice none 0 0, .bool false, .string sig, .slice none 0 0, .bool false, .string n2, .slice none 0 0]) rfl
      exact hK _ _ ⟨x2, x3, x4, x5, _, x7, x8, _, x10, x11, _, x13, x14, _, x16, x17, _, x19, x20, _, x22, x23, _, x25, x26, _, _, x29, x30, x31, x32, rfl, ⟨h1.e, h1.f0, h1.f1, h1.f2, h1.f3, h1.f4, h1.f5, h1.f6, h1.f7, h1.f8, h1.f9, h1.f10, h1.f11, h1.f12, h1.f13, h1.f14, h1.f15, h1.f16, h1.f17, h1.f18, h1.f19, h1.f20, h1.f21, h1.f22, h1.f23, fun _ => ⟨W.heap.size, _, rfl, rfl, by show [er _, er _, er _, er _, er _, er _, er _, er _] = _; rw [he2, he5, he8, he11, he14]; try rfl, hrw⟩, h1.f25, h1.f26, h1.f27, h1.f28, h1.f29, h1.f30⟩⟩
    · have s_24 : S 24 = true := hall ⟨24, .data⟩ (by simp) rfl
      obtain ⟨g24, Ys, rfl, hl24, he24, hr24⟩ := h.f24 s_24
      go_simp
      refine (rlist_any (some ⟨g24, 0, none⟩) 8 8 W).mono ?_
      rintro e w5 ⟨rfl, hb5⟩
      have h1 := h.grow hb5
      exact hK _ _ ⟨x2, x3, x4, x5, x6, x7, x8, x9, x10, x11, x12, x13, x14, x15, x16, x17, x18, x19, x20, x21, x22, x23, x24, x25, x26, x27, _, _, x30, x31, x32, rfl, ⟨h1.e, h1.f0, h1.f1, h1.f2, h1.f3, h1.f4, h1.f5, h1.f6, h1.f7, h1.f8, h1.f9, h1.f10, h1.f11, h1.f12, h1.f13, h1.f14, h1.f15, h1.f16, h1.f17, h1.f18, h1.f19, h1.f20, h1.f21, h1.f22, h1.f23, h1.f24, fun _ => (RwI.list hl24 he24 hr24).grow hb5, h1.f26, h1.f27, h1.f28, h1.f29, h1.f30⟩⟩
    · have s_25 : S 25 = true := hall ⟨25, .data⟩ (by simp) rfl
      obtain ⟨⟨zl, zt, za, zc, zx⟩, rfl, hez, hiz⟩ := h.f25 s_25
      simp only [Im.val, Im.sl, Im.l, Im.t, Im.a, Im.xs, Im.c]
      have hmm := inMem_of (fun b hb => hb.2) _ hiz
      go_simp
      refine (KE2 (.mk zl zt za zc zx) W hez hmm).mono ?_
      rintro e w5 ⟨rfl, hb5⟩
      have h1 := h.grow hb5
      exact hK _ _ ⟨x2, x3, x4, x5, x6, x7, x8, x9, x10, x11, x12, x13, x14, x15, x16, x17, x18, x19, x20, x21, x22, x23, x24, x25, x26, x27, x28, _, _, x31, x32, rfl, ⟨h1.e, h1.f0, h1.f1, h1.f2, h1.f3, h1.f4, h1.f5, h1.f6, h1.f7, h1.f8, h1.f9, h1.f10, h1.f11, h1.f12, h1.f13, h1.f14, h1.f15, h1.f16, h1.f17, h1.f18, h1.f19, h1.f20, h1.f21, h1.f22, h1.f23, h1.f24, h1.f25, fun _ => rfl, h1.f27, h1.f28, h1.f29, h1.f30⟩⟩
    · have s_26 : S 26 = true := hall ⟨26, .data⟩ (by simp) rfl
      obtain rfl := h.f26 s_26
      go_simp
      exact hK _ _ ⟨x2, x3, x4, x5, x6, x7, x8, x9, x10, x11, x12, x13, x14, x15, x16, x17, x18, x19, x20, x21, x22, x23, x24, x25, x26, x27, x28, x29, _, _, x32, rfl, ⟨h.e, h.f0, h.f1, h.f2, h.f3, h.f4, h.f5, h.f6, h.f7, h.f8, h.f9, h.f10, h.f11, h.f12, h.f13, h.f14, h.f15, h.f16, h.f17, h.f18, h.f19, h.f20, h.f21, h.f22, h.f23, h.f24, h.f25, h.f26, fun _ => rfl, h.f28, h.f29, h.f30⟩⟩
    · have s_26 : S 26 = true := hall ⟨26, .data⟩ (by simp) rfl
      obtain rfl := h.f26 s_26
      go_simp
      exact hK _ _ ⟨x2, x3, x4, x5, x6, x7, x8, x9, x10, x11, x12, x13, x14, x15, x16, x17, x18, x19, x20, x21, x22, x23, x24, x25, x26, x27, x28, x29, _, x31, _, rfl, ⟨h.e, h.f0, h.f1, h.f2, h.f3, h.f4, h.f5, h.f6, h.f7, h.f8, h.f9, h.f10, h.f11, h.f12, h.f13, h.f14, h.f15, h.f16, h.f17, h.f18, h.f19, h.f20, h.f21, h.f22, h.f23, h.f24, h.f25, h.f26, h.f27, fun _ => rfl, h.f29, h.f30⟩⟩
    · have s_27 : S 27 = true := hall ⟨27, .data⟩ (by simp) rfl
      obtain rfl := h.f27 s_27
      go_simp
      exact hK _ _ ⟨_, x3, x4, x5, x6, x7, x8, x9, x10, x11, x12, x13, x14, x15, x16, x17, x18, x19, x20, x21, x22, x23, x24, x25, x26, x27, x28, x29, x30, _, x32, rfl, ⟨h.e, h.f0, h.f1, h.f2, h.f3, h.f4, h.f5, h.f6, h.f7, h.f8, h.f9, h.f10, h.f11, h.f12, h.f13, h.f14, h.f15, h.f16, h.f17, h.f18, h.f19, h.f20, h.f21, h.f22, h.f23, h.f24, h.f25, h.f26, h.f27, h.f28, fun _ => rfl, h.f30⟩⟩
    · have s_28 : S 28 = true := hall ⟨28, .data⟩ (by simp) rfl
      obtain rfl := h.f28 s_28
      go_simp
      exact hK _ _ ⟨x2, _, x4, x5, x6, x7, x8, x9, x10, x11, x12, x13, x14, x15, x16, x17, x18, x19, x20, x21, x22, x23, x24, x25, x26, x27, x28, x29, x30, x31, _, rfl, ⟨h.e, h.f0, h.f1, h.f2, h.f3, h.f4, h.f5, h.f6, h.f7, h.f8, h.f9, h.f10, h.f11, h.f12, h.f13, h.f14, h.f15, h.f16, h.f17, h.f18, h.f19, h.f20, h.f21, h.f22, h.f23, h.f24, h.f25, h.f26, h.f27, h.f28, h.f29, fun _ => rfl⟩⟩
  · rintro S aa W hall ⟨x2, x3, x4, x5, x6, x7, x8, x9, x10, x11, x12, x13, x14, x15, x16, x17, x18, x19, x20, x21, x22, x23, x24, x25, x26, x27, x28, x29, x30, x31, x32, rfl, h⟩
    obtain rfl := h.f0 (hall 0 (by decide))
    obtain rfl := h.f1 (hall 1 (by decide))
    obtain hO2 := h.f2 (hall 2 (by decide))
    obtain rfl := h.f3 (hall 3 (by decide))
    obtain rfl := h.f4 (hall 4 (by decide))
    obtain hO5 := h.f5 (hall 5 (by decide))
    obtain rfl := h.f6 (hall 6 (by decide))
    obtain rfl := h.f7 (hall 7 (by decide))
    obtain hO8 := h.f8 (hall 8 (by decide))
    obtain rfl := h.f9 (hall 9 (by decide))
    obtain rfl := h.f10 (hall 10 (by decide))
    obtain hO11 := h.f11 (hall 11 (by decide))
    obtain rfl := h.f12 (hall 12 (by decide))
    obtain rfl := h.f13 (hall 13 (by decide))
    obtain hO14 := h.f14 (hall 14 (by decide))
    obtain rfl := h.f15 (hall 15 (by decide))
    obtain rfl := h.f16 (hall 16 (by decide))
    obtain rfl := h.f17 (hall 17 (by decide))
    obtain rfl := h.f18 (hall 18 (by decide))
    obtain rfl := h.f19 (hall 19 (by decide))
    obtain rfl := h.f20 (hall 20 (by decide))
    obtain rfl := h.f21 (hall 21 (by decide))
    obtain rfl := h.f22 (hall 22 (by decide))
    obtain rfl := h.f23 (hall 23 (by decide))
    obtain hO24 := h.f24 (hall 24 (by decide))
    obtain hO25 := h.f25 (hall 25 (by decide))
    obtain rfl := h.f26 (hall 26 (by decide))
    obtain rfl := h.f27 (hall 27 (by decide))
    obtain rfl := h.f28 (hall 28 (by decide))
    obtain rfl := h.f29 (hall 29 (by decide))
    obtain rfl := h.f30 (hall 30 (by decide))
    have BW := h.e
    clear h hall
    have HX : Hid _ := BW
    clear BW hO2 hO5 hO8 hO11 hO14 hO24 hO25
    go_wp2
    go_ret2
    exact ⟨rfl, by rw [HZ.out]; exact A0.trans (HX.out.mono (by omega))⟩
end Go.Proofs.YtmefanagpkbjeaaDoor
