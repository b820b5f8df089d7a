/- Lemmas: The program's BootFrom and From. -/
import Derived.Test.YtmefanagpkbjeaaDoorM1
import Derived.Test.YtmefanagpkbjeaaDoorM10
import Derived.Test.YtmefanagpkbjeaaDoorM11
import Derived.Test.YtmefanagpkbjeaaDoorM12
import Derived.Test.YtmefanagpkbjeaaDoorM13
import Derived.Test.YtmefanagpkbjeaaDoorM14
import Derived.Test.YtmefanagpkbjeaaDoorM15
import Derived.Test.YtmefanagpkbjeaaDoorM16
import Derived.Test.YtmefanagpkbjeaaDoorM17
import Derived.Test.YtmefanagpkbjeaaDoorM18
import Derived.Test.YtmefanagpkbjeaaDoorM19
import Derived.Test.YtmefanagpkbjeaaDoorM2
import Derived.Test.YtmefanagpkbjeaaDoorM20
import Derived.Test.YtmefanagpkbjeaaDoorM21
import Derived.Test.YtmefanagpkbjeaaDoorM22
import Derived.Test.YtmefanagpkbjeaaDoorM23
import Derived.Test.YtmefanagpkbjeaaDoorM24
import Derived.Test.YtmefanagpkbjeaaDoorM25
import Derived.Test.YtmefanagpkbjeaaDoorM26
import Derived.Test.YtmefanagpkbjeaaDoorM27
import Derived.Test.YtmefanagpkbjeaaDoorM28
import Derived.Test.YtmefanagpkbjeaaDoorM29
import Derived.Test.YtmefanagpkbjeaaDoorM3
import Derived.Test.YtmefanagpkbjeaaDoorM30
import Derived.Test.YtmefanagpkbjeaaDoorM31
import Derived.Test.YtmefanagpkbjeaaDoorM33
import Derived.Test.YtmefanagpkbjeaaDoorM34
import Derived.Test.YtmefanagpkbjeaaDoorM35
import Derived.Test.YtmefanagpkbjeaaDoorM36
import Derived.Test.YtmefanagpkbjeaaDoorM4
import Derived.Test.YtmefanagpkbjeaaDoorM6
import Derived.Test.YtmefanagpkbjeaaDoorM7
import Derived.Test.YtmefanagpkbjeaaDoorM8
import Derived.Test.YtmefanagpkbjeaaDoorM9
import Derived.Test.YtmefanagpkbjeaaDoorRows
import Derived.Laws.CopyOwn
import Derived.Laws.ResultCell
import Derived.Laws.Tables
namespace Go.Proofs.YtmefanagpkbjeaaDoor
open Go.RowKit Go.Shelf Go.Sort

/-- A goal at which the walk stops. -/
structure Stp (p : Prop) : Prop where
  out : p
theorem store_row0 {P : Program} {ops : Array Oper} {rest : List Oper} {o : Oper} {a : Act} {w : World} {Q : Exit → Act → World → Prop} (hgd : o.guard = none) (hds : o.dst = none) (ty : TypeId) (x y : Operand) (ho : o.op = .store ty x y)
    (g : Nat) (cells : Array Value) (hx : a.eval x = .pointer (some ⟨g, 0, none⟩)) (hy : a.eval y = .agg cells)
    (t : TypeId) (old : Array Value) (hg : w.heap[g]? = some (.cells old t (0, 0))) (hi : (P.info? ty).map (·.size) = some cells.size)
    (hold : old.size = cells.size) (h1 : cells.all (·.oneCell') = true)
    (h : wpList P ops Q rest a (w.setRow g cells)) : wpList P ops Q (o :: rest) a w :=
  wpList_store_row hgd ty x y ho g cells hx hy t old hg hi hold h1 (by rw [hds]; exact h)
theorem results_row2 {P : Program} {fn : Func} {p u : Tmp} {ty : TypeId} (h : fn.results = #[.cell p ty, .tmp u]) (tmps : Array Value) (w : World) (g : Nat) (t : TypeId) (cs : Array Value) (fr : Nat × Nat) (d : TypeDesc)
    (hp : tmps.getD p undef = .pointer (some ⟨g, 0, none⟩)) (hg : w.heap[g]? = some (.cells cs t fr))
    (hu : P.underlying ty = some d) (hd : (match d with | .struct _ | .array _ _ => true | _ => false) = true) (hi : (P.info? ty).map (·.size) = some cs.size) (v : Value) (hv : tmps.getD u undef = v) :
    (results fn tmps).run P w = .ok (.tuple #[.agg cs, v]) w := by
  rw [results_cell_tmp h, hp, hv]
  simp [asAddr, run_loadVar_row w g t ty cs fr d hg hu hd hi]
/-- A Boot's cells, an update's. -/
def btC (d : BtD) (a1 a2 a3 : Option Addr) (c1 c2 c3 : Nat) : List Value := [.int .u64 (d.l.s : Int), .int .u64 (d.l.u : Int), .string d.l.p, .string d.l.t, .string d.l.b, .string d.l.ea, .string d.l.ra, .int .u64 (d.l.m : Int), .slice a1 d.l.br.length c1, .slice a2 d.c.ks.length c2, .string d.c.sm, .slice a3 d.br.length c3]
def upC (d : UpD) (a1 a2 a3 a4 a5 : Option Addr) (c1 c2 c3 c4 c5 : Nat) : List Value := [.int .u64 (d.l.s : Int), .int .u64 (d.l.u : Int), .string d.l.p, .string d.l.t, .string d.l.b, .string d.l.ea, .string d.l.ra, .int .u64 (d.l.m : Int), .slice a1 d.l.br.length c1, .slice a2 d.c.ks.length c2, .string d.c.sm, .slice a3 d.nb.length c3, .int .u64 (d.f.s : Int), .int .u64 (d.f.u : Int), .string d.f.p, .string d.f.t, .string d.f.b, .string d.f.ea, .string d.f.ra, .int .u64 (d.f.m : Int), .slice a4 d.f.br.length c4, .slice a5 d.fb.length c5, .int .u64 (d.bits : Int), .string d.sig, .int .u64 (d.slot : Int)]
theorem btC_at {W : World} {q : Nat} {d : BtD} {a1 a2 a3 : Option Addr} {c1 c2 c3 : Nat} (h0 : cAt W q 0 (ltV d.l a1 c1)) (h1 : cAt W q 9 (cmV d.c a2 c2)) (h2 : W.cell? ⟨q, 11, none⟩ = some (.slice a3 d.br.length c3)) : cAt W q 0 (btC d a1 a2 a3 c1 c2 c3) := fun j v hv => by
  match j, hv with
  | 0, hv => exact h0 0 v hv
  | 1, hv => exact h0 1 v hv
  | 2, hv => exact h0 2 v hv
  | 3, hv => exact h0 3 v hv
  | 4, hv => exact h0 4 v hv
  | 5, hv => exact h0 5 v hv
  | 6, hv => exact h0 6 v hv
  | 7, hv => exact h0 7 v hv
  | 8, hv => exact h0 8 v hv
  | 9, hv => exact h1 0 v hv
  | 10, hv => exact h1 1 v hv
  | 11, hv => cases hv; exact h2
  | j + 12, hv => simp [btC] at hv
theorem upC_at {W : World} {q : Nat} {d : UpD} {a1 a2 a3 a4 a5 : Option Addr} {c1 c2 c3 c4 c5 : Nat} (h0 : cAt W q 0 (ltV d.l a1 c1)) (h1 : cAt W q 9 (cmV d.c a2 c2)) (h2 : W.cell? ⟨q, 11, none⟩ = some (.slice a3 d.nb.length c3)) (h3 : cAt W q 12 (ltV d.f a4 c4)) (h4 : W.cell? ⟨q, 21, none⟩ = some (.slice a5 d.fb.length c5))
    (h5 : W.cell? ⟨q, 22, none⟩ = some (.int .u64 (d.bits : Int))) (h6 : W.cell? ⟨q, 23, none⟩ = some (.string d.sig)) (h7 : W.cell? ⟨q, 24, none⟩ = some (.int .u64 (d.slot : Int))) : cAt W q 0 (upC d a1 a2 a3 a4 a5 c1 c2 c3 c4 c5) := fun j v hv => by
  match j, hv with
  | 0, hv => exact h0 0 v hv
  | 1, hv => exact h0 1 v hv
  | 2, hv => exact h0 2 v hv
  | 3, hv => exact h0 3 v hv
  | 4, hv => exact h0 4 v hv
  | 5, hv => exact h0 5 v hv
  | 6, hv => exact h0 6 v hv
  | 7, hv => exact h0 7 v hv
  | 8, hv => exact h0 8 v hv
  | 9, hv => exact h1 0 v hv
  | 10, hv => exact h1 1 v hv
  | 11, hv => cases hv; exact h2
  | 12, hv => exact h3 0 v hv
  | 13, hv => exact h3 1 v hv
  | 14, hv => exact h3 2 v hv
  | 15, hv => exact h3 3 v hv
  | 16, hv => exact h3 4 v hv
  | 17, hv => exact h3 5 v hv
  | 18, hv => exact h3 6 v hv
  | 19, hv => exact h3 7 v hv
  | 20, hv => exact h3 8 v hv
  | 21, hv => cases hv; exact h4
  | 22, hv => cases hv; exact h5
  | 23, hv => cases hv; exact h6
  | 24, hv => cases hv; exact h7
  | j + 25, hv => simp [upC] at hv
theorem slS_slP {P : Nat → Prop} {n : Nat} {W : World} {a : Option Addr} {ts : List ByteArray} (h : slP P W a ts) (hp : ∀ b, P b → b < n) : slS n W a ts := by
  rcases h with h | ⟨b, o, h1, h2, h3⟩
  · exact .inl h
  · exact .inr ⟨b, o, h1, hp b h2, h3⟩
theorem below_kq {B b : Nat} {w W W' : World} (h : Below B w W) (g : Kq b W W') (hb : B ≤ b) (hs : B ≤ W.heap.size) : Below B w W' := h.trans ⟨g.os, g.tape, g.output, g.size, fun k hk => g.at (by omega) (by omega)⟩
def PostB (s : ByteArray) (w : World) (r : Ending) (w' : World) : Prop := Below w.heap.size w w' ∧ ∃ d e a1 a2 a3 c1 c2 c3, BtR s d e ∧ r = .returned (.tuple #[.agg (btC d a1 a2 a3 c1 c2 c3).toArray, .int .i64 e]) ∧ slS w'.heap.size w' a1 d.l.br ∧ slS w'.heap.size w' a2 d.c.ks ∧ slS w'.heap.size w' a3 d.br
def PostU (s : ByteArray) (w : World) (r : Ending) (w' : World) : Prop := Below w.heap.size w w' ∧ ∃ d e a1 a2 a3 a4 a5 c1 c2 c3 c4 c5, UpR s d e ∧ r = .returned (.tuple #[.agg (upC d a1 a2 a3 a4 a5 c1 c2 c3 c4 c5).toArray, .int .i64 e]) ∧ slS w'.heap.size w' a1 d.l.br ∧ slS w'.heap.size w' a2 d.c.ks ∧ slS w'.heap.size w' a3 d.nb ∧ slS w'.heap.size w' a4 d.f.br ∧ slS w'.heap.size w' a5 d.fb
set_option maxRecDepth 100000 in
set_option maxHeartbeats 4000000 in
theorem bootFrom_any (s : ByteArray) (w : World) : Calls Tryd.prog 22 #[.string s] w (PostB s w) := by
  obtain ⟨A0, h0, h1⟩ := two_boxes w (.cells #[.int .u64 0, .int .u64 0, .string ⟨#[]⟩, .string ⟨#[]⟩, .string ⟨#[]⟩, .string ⟨#[]⟩, .string ⟨#[]⟩, .int .u64 0, .slice none 0 0, .slice none 0 0, .string ⟨#[]⟩, .slice none 0 0] 41) (.cells #[.int .u64 0, .int .u64 0, .string ⟨#[]⟩, .string ⟨#[]⟩, .string ⟨#[]⟩, .string ⟨#[]⟩, .string ⟨#[]⟩, .int .u64 0, .slice none 0 0, .slice none 0 0, .string ⟨#[]⟩, .slice none 0 0] 41)
  obtain ⟨q, hq⟩ : ∃ q, w.heap.size = q := ⟨_, rfl⟩
  have HQ : Hid (w.heap.size = q) := hq
  obtain ⟨w1, hw1⟩ : ∃ W, (w.alloc (.cells #[.int .u64 0, .int .u64 0, .string ⟨#[]⟩, .string ⟨#[]⟩, .string ⟨#[]⟩, .string ⟨#[]⟩, .string ⟨#[]⟩, .int .u64 0, .slice none 0 0, .slice none 0 0, .string ⟨#[]⟩, .slice none 0 0] 41)).alloc (.cells #[.int .u64 0, .int .u64 0, .string ⟨#[]⟩, .string ⟨#[]⟩, .string ⟨#[]⟩, .string ⟨#[]⟩, .string ⟨#[]⟩, .int .u64 0, .slice none 0 0, .slice none 0 0, .string ⟨#[]⟩, .slice none 0 0] 41) = W := ⟨_, rfl⟩
  have hsz1 : w1.heap.size = q + 2 := by rw [← hw1, ← hq]; simp
  rw [hw1] at A0 h0 h1
  rw [hq] at A0 h0 h1
  go_enter Tryd.func22, Tryd.ntmps22
  go_wp2_with fail
  first | rw [hw1] | skip
  clear hw1
  refine (boot_any (q + 1) w1).mono ?_
  rintro e w2 ⟨a, t, ac, rfl, hsk, B2⟩
  have hz2 := B2.size
  have A2 : Below q w w2 := A0.trans (B2.mono (by omega))
  have l2 : Ld (q + 1) 41 12 w2 := ⟨_, (B2.block (q + 1) (by omega)).trans h1, rfl⟩
  have r2 := (B2.block q (by omega)).trans h0
  have KR : Calls Tryd.prog 53 #[.string s, .iface 145 (.slice a 3 3)] w2 _ := hread_any s (q + 1) 41 12 a 3 (btL (q + 1) t ac) (fun a' ha => by
    rw [bt_lvs] at ha
    exact rg_lv ha) (by rw [bt_lvs]; exact rg_nodup _ _) w2 l2 (skRow_of (fun b hb => ⟨⟨hb.2, by omega⟩, fun _ => rfl⟩) _ _ _ hsk)
  clear B2 hsk h0 h1 A0
  go_wp2_with fail
  refine KR.mono ?_
  rintro r w3 ⟨X, e, hD, rfl, hK, l3, hdt⟩
  obtain ⟨sx, hsx⟩ : ∃ b, (decide (e = 0) && rdS (.lst a 3 (btL (q + 1) t ac)) (er X)) = b := ⟨_, rfl⟩
  rw [hsx]
  have A3 : Below q w w3 := below_kq A2 hK (by omega) (by omega)
  have r3 := (hK.at (by omega) (by omega)).trans r2
  have hz3 := hK.size
  clear hK A2 l2 r2 KR
  cases sx with
  | true =>
    rw [Bool.and_eq_true] at hsx
    have he0 : e = 0 := of_decide_eq_true hsx.1
    have hr := hsx.2
    obtain ⟨d, a1, c1, a2, c2, a3, c3, hx, ok, e1, e2, e3, s1, s2, s3⟩ := bt_of (hdt he0 hr)
    subst he0
    have rb := ld_row l3 (btC d a1 a2 a3 c1 c2 c3) rfl (btC_at e1 e2 e3)
    have HX : Hid (_ ∧ _) := ⟨hD, hx⟩
    clear hdt hr hsx
    have HA : Hid (_ ∧ _) := ⟨A3, hz3⟩
    have HS : Hid (_ ∧ _ ∧ _) := ⟨s1, s2, s3⟩
    have HO : Hid _ := ok
    clear A3 hz3 s1 s2 s3 e1 e2 e3 ok
    dsimp only [btC] at rb
    go_wp2_with (first | refine wpList_load_row rfl 41 _ rfl (q + 1) rfl _ _ _ _ rb Tryd.underlying41 rfl (by kernel_rfl) ?_ | refine store_row0 rfl rfl 41 _ _ rfl q _ rfl rfl 41 _ r3 (by kernel_rfl) rfl (by simp [Value.oneCell']) ?_)
    refine bodyPost_ret (results_row2 rfl _ _ q 41 _ (0, 0) _ rfl (setRow_heap _ _ _ _ _ _ r3) Tryd.underlying41 rfl (by kernel_rfl) (.int .i64 0) rfl) rfl ?_
    obtain ⟨A3, hz3⟩ := HA.out
    obtain ⟨hD, hx⟩ := HX.out
    have key : ∀ (a : Option Addr) (ts : List ByteArray), slP (fun b => w2.heap.size ≤ b ∧ b < w3.heap.size) w3 a ts → ∀ cs : Array Value, slS (w3.setRow q cs).heap.size (w3.setRow q cs) a ts := fun a ts h cs => by
      refine slS_slP (slP_of (Q := fun b => b < w3.heap.size) (fun b hb => ⟨hb.2, fun k => cell_setRow_other _ _ _ _ (by show b ≠ q; omega)⟩) h) (fun b hb => ?_)
      rw [setRow_size]
      exact hb
    refine ⟨by rw [HQ.out]; exact below_setRow A3 (Nat.le_refl _) _, d, 0, _, _, _, _, _, _, .inl ⟨rfl, HO.out, by rw [← hx]; exact decD_of hD⟩, rfl, key _ _ HS.out.1 _, key _ _ HS.out.2.1 _, key _ _ HS.out.2.2 _⟩
  | false =>
    have HA : Hid (_ ∧ _) := ⟨A3, hz3⟩
    have HX : Hid (_ ∧ _) := ⟨hD, hsx⟩
    clear A3 hz3 hD hsx hdt l3
    go_wp2_with (refine store_row0 rfl rfl 41 _ _ rfl q _ rfl rfl 41 _ r3 (by kernel_rfl) rfl (by simp [Value.oneCell']) ?_)
    refine bodyPost_ret (results_row2 rfl _ _ q 41 _ (0, 0) _ rfl (setRow_heap _ _ _ _ _ _ r3) Tryd.underlying41 rfl (by kernel_rfl) (.int .i64 130) rfl) rfl ?_
    obtain ⟨A3, hz3⟩ := HA.out
    obtain ⟨hD, hsx⟩ := HX.out
    refine ⟨by rw [HQ.out]; exact below_setRow A3 (Nat.le_refl _) _, zBt, 130, none, none, none, 0, 0, 0, .inr ⟨rfl, rfl, fun g hg hdec => ?_⟩, rfl, .inl rfl, .inl rfl, .inl rfl⟩
    by_cases he : e = 0
    · subst he
      rw [decD_one (decD_of hD) hdec, rd_bt g hg] at hsx
      simp at hsx
    · exact decD_not hD he _ hdec
set_option maxRecDepth 100000 in
set_option maxHeartbeats 4000000 in
theorem from_any (s : ByteArray) (w : World) : Calls Tryd.prog 24 #[.string s] w (PostU s w) := by
  obtain ⟨A0, h0, h1⟩ := two_boxes w (.cells #[.int .u64 0, .int .u64 0, .string ⟨#[]⟩, .string ⟨#[]⟩, .string ⟨#[]⟩, .string ⟨#[]⟩, .string ⟨#[]⟩, .int .u64 0, .slice none 0 0, .slice none 0 0, .string ⟨#[]⟩, .slice none 0 0, .int .u64 0, .int .u64 0, .string ⟨#[]⟩, .string ⟨#[]⟩, .string ⟨#[]⟩, .string ⟨#[]⟩, .string ⟨#[]⟩, .int .u64 0, .slice none 0 0, .slice none 0 0, .int .u64 0, .string ⟨#[]⟩, .int .u64 0] 43) (.cells #[.int .u64 0, .int .u64 0, .string ⟨#[]⟩, .string ⟨#[]⟩, .string ⟨#[]⟩, .string ⟨#[]⟩, .string ⟨#[]⟩, .int .u64 0, .slice none 0 0, .slice none 0 0, .string ⟨#[]⟩, .slice none 0 0, .int .u64 0, .int .u64 0, .string ⟨#[]⟩, .string ⟨#[]⟩, .string ⟨#[]⟩, .string ⟨#[]⟩, .string ⟨#[]⟩, .int .u64 0, .slice none 0 0, .slice none 0 0, .int .u64 0, .string ⟨#[]⟩, .int .u64 0] 43)
  obtain ⟨q, hq⟩ : ∃ q, w.heap.size = q := ⟨_, rfl⟩
  have HQ : Hid (w.heap.size = q) := hq
  obtain ⟨w1, hw1⟩ : ∃ W, (w.alloc (.cells #[.int .u64 0, .int .u64 0, .string ⟨#[]⟩, .string ⟨#[]⟩, .string ⟨#[]⟩, .string ⟨#[]⟩, .string ⟨#[]⟩, .int .u64 0, .slice none 0 0, .slice none 0 0, .string ⟨#[]⟩, .slice none 0 0, .int .u64 0, .int .u64 0, .string ⟨#[]⟩, .string ⟨#[]⟩, .string ⟨#[]⟩, .string ⟨#[]⟩, .string ⟨#[]⟩, .int .u64 0, .slice none 0 0, .slice none 0 0, .int .u64 0, .string ⟨#[]⟩, .int .u64 0] 43)).alloc (.cells #[.int .u64 0, .int .u64 0, .string ⟨#[]⟩, .string ⟨#[]⟩, .string ⟨#[]⟩, .string ⟨#[]⟩, .string ⟨#[]⟩, .int .u64 0, .slice none 0 0, .slice none 0 0, .string ⟨#[]⟩, .slice none 0 0, .int .u64 0, .int .u64 0, .string ⟨#[]⟩, .string ⟨#[]⟩, .string ⟨#[]⟩, .string ⟨#[]⟩, .string ⟨#[]⟩, .int .u64 0, .slice none 0 0, .slice none 0 0, .int .u64 0, .string ⟨#[]⟩, .int .u64 0] 43) = W := ⟨_, rfl⟩
  have hsz1 : w1.heap.size = q + 2 := by rw [← hw1, ← hq]; simp
  rw [hw1] at A0 h0 h1
  rw [hq] at A0 h0 h1
  go_enter Tryd.func24, Tryd.ntmps24
  go_wp2_with fail
  first | rw [hw1] | skip
  clear hw1
  refine (update_any (q + 1) w1).mono ?_
  rintro e w2 ⟨a, t, ac, u, rfl, hsk, B2⟩
  have hz2 := B2.size
  have A2 : Below q w w2 := A0.trans (B2.mono (by omega))
  have l2 : Ld (q + 1) 43 25 w2 := ⟨_, (B2.block (q + 1) (by omega)).trans h1, rfl⟩
  have r2 := (B2.block q (by omega)).trans h0
  have KR : Calls Tryd.prog 53 #[.string s, .iface 145 (.slice a 8 8)] w2 _ := hread_any s (q + 1) 43 25 a 8 (uptL (q + 1) t ac u) (fun a' ha => by
    rw [up_lvs] at ha
    exact rg_lv ha) (by rw [up_lvs]; exact rg_nodup _ _) w2 l2 (skRow_of (fun b hb => ⟨⟨hb.2, by omega⟩, fun _ => rfl⟩) _ _ _ hsk)
  clear B2 hsk h0 h1 A0
  go_wp2_with fail
  refine KR.mono ?_
  rintro r w3 ⟨X, e, hD, rfl, hK, l3, hdt⟩
  obtain ⟨sx, hsx⟩ : ∃ b, (decide (e = 0) && rdS (.lst a 8 (uptL (q + 1) t ac u)) (er X)) = b := ⟨_, rfl⟩
  rw [hsx]
  have A3 : Below q w w3 := below_kq A2 hK (by omega) (by omega)
  have r3 := (hK.at (by omega) (by omega)).trans r2
  have hz3 := hK.size
  clear hK A2 l2 r2 KR
  cases sx with
  | true =>
    rw [Bool.and_eq_true] at hsx
    have he0 : e = 0 := of_decide_eq_true hsx.1
    have hr := hsx.2
    obtain ⟨d, a1, c1, a2, c2, a3, c3, a4, c4, a5, c5, hx, ok, e1, e2, e3, e4, e5, e6, e7, e8, s1, s2, s3, s4, s5⟩ := up_of (hdt he0 hr)
    subst he0
    have rb := ld_row l3 (upC d a1 a2 a3 a4 a5 c1 c2 c3 c4 c5) rfl (upC_at e1 e2 e3 e4 e5 e6 e7 e8)
    have HX : Hid (_ ∧ _) := ⟨hD, hx⟩
    clear hdt hr hsx
    have HA : Hid (_ ∧ _) := ⟨A3, hz3⟩
    have HS : Hid (_ ∧ _ ∧ _ ∧ _ ∧ _) := ⟨s1, s2, s3, s4, s5⟩
    have HO : Hid _ := ok
    clear A3 hz3 s1 s2 s3 s4 s5 e1 e2 e3 e4 e5 e6 e7 e8 ok
    dsimp only [upC] at rb
    go_wp2_with (first | refine wpList_load_row rfl 43 _ rfl (q + 1) rfl _ _ _ _ rb Tryd.underlying43 rfl (by kernel_rfl) ?_ | refine store_row0 rfl rfl 43 _ _ rfl q _ rfl rfl 43 _ r3 (by kernel_rfl) rfl (by simp [Value.oneCell']) ?_)
    refine bodyPost_ret (results_row2 rfl _ _ q 43 _ (0, 0) _ rfl (setRow_heap _ _ _ _ _ _ r3) Tryd.underlying43 rfl (by kernel_rfl) (.int .i64 0) rfl) rfl ?_
    obtain ⟨A3, hz3⟩ := HA.out
    obtain ⟨hD, hx⟩ := HX.out
    have key : ∀ (a : Option Addr) (ts : List ByteArray), slP (fun b => w2.heap.size ≤ b ∧ b < w3.heap.size) w3 a ts → ∀ cs : Array Value, slS (w3.setRow q cs).heap.size (w3.setRow q cs) a ts := fun a ts h cs => by
      refine slS_slP (slP_of (Q := fun b => b < w3.heap.size) (fun b hb => ⟨hb.2, fun k => cell_setRow_other _ _ _ _ (by show b ≠ q; omega)⟩) h) (fun b hb => ?_)
      rw [setRow_size]
      exact hb
    refine ⟨by rw [HQ.out]; exact below_setRow A3 (Nat.le_refl _) _, d, 0, _, _, _, _, _, _, _, _, _, _, .inl ⟨rfl, ⟨HO.out.1, HO.out.2.1, HO.out.2.2.1, HO.out.2.2.2⟩, by rw [← hx]; exact decD_of hD⟩, rfl, key _ _ HS.out.1 _, key _ _ HS.out.2.1 _, key _ _ HS.out.2.2.1 _, key _ _ HS.out.2.2.2.1 _, key _ _ HS.out.2.2.2.2 _⟩
  | false =>
    have HA : Hid (_ ∧ _) := ⟨A3, hz3⟩
    have HX : Hid (_ ∧ _) := ⟨hD, hsx⟩
    clear A3 hz3 hD hsx hdt l3
    go_wp2_with (refine store_row0 rfl rfl 43 _ _ rfl q _ rfl rfl 43 _ r3 (by kernel_rfl) rfl (by simp [Value.oneCell']) ?_)
    refine bodyPost_ret (results_row2 rfl _ _ q 43 _ (0, 0) _ rfl (setRow_heap _ _ _ _ _ _ r3) Tryd.underlying43 rfl (by kernel_rfl) (.int .i64 130) rfl) rfl ?_
    obtain ⟨A3, hz3⟩ := HA.out
    obtain ⟨hD, hsx⟩ := HX.out
    refine ⟨by rw [HQ.out]; exact below_setRow A3 (Nat.le_refl _) _, zUp, 130, none, none, none, none, none, 0, 0, 0, 0, 0, .inr ⟨rfl, rfl, fun g hg hdec => ?_⟩, rfl, .inl rfl, .inl rfl, .inl rfl, .inl rfl, .inl rfl⟩
    by_cases he : e = 0
    · subst he
      rw [decD_one (decD_of hD) hdec, rd_up g hg] at hsx
      simp at hsx
    · exact decD_not hD he _ hdec
end Go.Proofs.YtmefanagpkbjeaaDoor
