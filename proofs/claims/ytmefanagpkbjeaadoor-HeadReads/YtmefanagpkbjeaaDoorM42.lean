/- Lemmas: The reference's BootFrom and From. -/
import Derived.Test.YtmefanagpkbjeaaDoorM1
import Derived.Test.YtmefanagpkbjeaaDoorM10
import Derived.Test.YtmefanagpkbjeaaDoorM11
import Derived.Test.YtmefanagpkbjeaaDoorM12
import Derived.Test.YtmefanagpkbjeaaDoorM13
import Derived.Test.YtmefanagpkbjeaaDoorM14
import Derived.Test.YtmefanagpkbjeaaDoorM15
import Derived.Test.YtmefanagpkbjeaaDoorM16
import Derived.Test.YtmefanagpkbjeaaDoorM17
import Derived.Test.YtmefanagpkbjeaaDoorM18
import Derived.Test.YtmefanagpkbjeaaDoorM19
import Derived.Test.YtmefanagpkbjeaaDoorM2
import Derived.Test.YtmefanagpkbjeaaDoorM20
import Derived.Test.YtmefanagpkbjeaaDoorM21
import Derived.Test.YtmefanagpkbjeaaDoorM22
import Derived.Test.YtmefanagpkbjeaaDoorM23
import Derived.Test.YtmefanagpkbjeaaDoorM24
import Derived.Test.YtmefanagpkbjeaaDoorM25
import Derived.Test.YtmefanagpkbjeaaDoorM26
import Derived.Test.YtmefanagpkbjeaaDoorM27
import Derived.Test.YtmefanagpkbjeaaDoorM28
import Derived.Test.YtmefanagpkbjeaaDoorM29
import Derived.Test.YtmefanagpkbjeaaDoorM3
import Derived.Test.YtmefanagpkbjeaaDoorM30
import Derived.Test.YtmefanagpkbjeaaDoorM31
import Derived.Test.YtmefanagpkbjeaaDoorM33
import Derived.Test.YtmefanagpkbjeaaDoorM34
import Derived.Test.YtmefanagpkbjeaaDoorM35
import Derived.Test.YtmefanagpkbjeaaDoorM36
import Derived.Test.YtmefanagpkbjeaaDoorM37
import Derived.Test.YtmefanagpkbjeaaDoorM4
import Derived.Test.YtmefanagpkbjeaaDoorM40
import Derived.Test.YtmefanagpkbjeaaDoorM41
import Derived.Test.YtmefanagpkbjeaaDoorM6
import Derived.Test.YtmefanagpkbjeaaDoorM7
import Derived.Test.YtmefanagpkbjeaaDoorM8
import Derived.Test.YtmefanagpkbjeaaDoorM9
import Derived.Test.YtmefanagpkbjeaaDoorRows
namespace Go.Proofs.YtmefanagpkbjeaaDoor
open Go.RowKit Go.Shelf Go.Sort
theorem lts_no {x : It} {d : LtD} (h : LtS x d false) : ∀ g : LtD, g.ok → x ≠ ltI g := by
  rcases h with ⟨h, _⟩ | ⟨_, _, h⟩
  · cases h
  · exact h
theorem lts_yes {x : It} {d : LtD} (h : LtS x d true) : d.ok ∧ x = ltI d := by
  rcases h with ⟨_, h⟩ | ⟨h, _⟩
  · exact h
  · cases h
theorem cms_no {x : It} {d : CmD} (h : CmS x d false) : ∀ g : CmD, x ≠ cmI g := by
  rcases h with ⟨h, _⟩ | ⟨_, h⟩
  · cases h
  · exact h
theorem cms_yes {x : It} {d : CmD} (h : CmS x d true) : x = cmI d := by
  rcases h with ⟨_, h⟩ | ⟨h, _⟩
  · exact h
  · cases h
theorem num_no {l : Bool} {t : ByteArray} {a : Option Addr} {c : Nat} {xs : List Im} (hr : rgI (er (.mk l t a c xs)) = true) (h : (decide (vE t = 0) && !l) = false) (n : Nat) (hn : U6 n) : er (.mk l t a c xs) ≠ tI (numOf n) := fun e => by
  injection e with h1 h2 _
  subst h1 h2
  rw [(num_back n hn).2] at h
  cases h
theorem num_yes {l : Bool} {t : ByteArray} {a : Option Addr} {c : Nat} {xs : List Im} (hr : rgI (er (.mk l t a c xs)) = true) (h : (decide (vE t = 0) && !l) = true) : er (.mk l t a c xs) = tI (numOf (vN t)) := by
  rw [Bool.and_eq_true] at h
  have hl : l = false := by simpa using h.2
  rw [er_txt hr hl]
  show tI t = _
  rw [val_num _ (of_decide_eq_true h.1)]
theorem bt_shape {X : Im} {g : BtD} (h : er X = btI g) : (X.l && decide (X.xs.length = 3)) = true ∧ ers X.xs = [ltI g.l, cmI g.c, tsI g.br] := ls_shape h
theorem up_shape {X : Im} {g : UpD} (h : er X = upI g) : (X.l && decide (X.xs.length = 8)) = true ∧ ers X.xs = [ltI g.l, cmI g.c, tsI g.nb, ltI g.f, tsI g.fb, tI (numOf g.bits), tI g.sig, tI (numOf g.slot)] := ls_shape h
set_option maxRecDepth 100000 in
set_option maxHeartbeats 4000000 in
theorem rbootFrom_any (s : ByteArray) (w : World) : Calls Tryd.prog 23 #[.string s] w (PostB s w) := by
  have KD := rdecode_any s
  have A0 := be_new w (.cells #[.int .u64 0, .int .u64 0, .string ⟨#[]⟩, .string ⟨#[]⟩, .string ⟨#[]⟩, .string ⟨#[]⟩, .string ⟨#[]⟩, .int .u64 0, .slice none 0 0, .slice none 0 0, .string ⟨#[]⟩, .slice none 0 0] 41)
  have h0 := World.alloc_heap_new w (.cells #[.int .u64 0, .int .u64 0, .string ⟨#[]⟩, .string ⟨#[]⟩, .string ⟨#[]⟩, .string ⟨#[]⟩, .string ⟨#[]⟩, .int .u64 0, .slice none 0 0, .slice none 0 0, .string ⟨#[]⟩, .slice none 0 0] 41)
  obtain ⟨q, hq⟩ : ∃ q, w.heap.size = q := ⟨_, rfl⟩
  have HQ : Hid (w.heap.size = q) := hq
  obtain ⟨w1, hw1⟩ : ∃ W, w.alloc (.cells #[.int .u64 0, .int .u64 0, .string ⟨#[]⟩, .string ⟨#[]⟩, .string ⟨#[]⟩, .string ⟨#[]⟩, .string ⟨#[]⟩, .int .u64 0, .slice none 0 0, .slice none 0 0, .string ⟨#[]⟩, .slice none 0 0] 41) = W := ⟨_, rfl⟩
  have hsz1 : w1.heap.size = q + 1 := by rw [← hw1, ← hq]; simp
  rw [hw1] at A0 h0
  rw [hq] at A0 h0
  have HB : Hid (∀ W : World, Below w1.heap.size w1 W → Hid (Below q w W ∧ W.heap[q]? = some (.cells #[.int .u64 0, .int .u64 0, .string ⟨#[]⟩, .string ⟨#[]⟩, .string ⟨#[]⟩, .string ⟨#[]⟩, .string ⟨#[]⟩, .int .u64 0, .slice none 0 0, .slice none 0 0, .string ⟨#[]⟩, .slice none 0 0] 41 (0, 0)) ∧ q + 1 ≤ W.heap.size)) := fun W hB => ⟨A0.trans (hB.mono (by omega)), (hB.block q (by omega)).trans h0, by have := hB.size; omega⟩
  clear A0 h0
  go_enter Tryd.func23, Tryd.ntmps23
  have C1 : Below w1.heap.size w1 w1 := Below.refl _ _
  go_wp2_with fail
  first | rw [hw1] | skip
  clear hw1 hq
  refine (KD _).mono ?_
  rintro r w2 ⟨B2, X, e, rfl, hD, hX⟩
  have C2 := C1.trans B2
  clear B2 C1 KD
  have hrg := hD.rg
  have HD : Hid _ := hD
  obtain ⟨m1, hm1⟩ : ∃ b, (X.l && decide (X.xs.length = 3)) = b := ⟨_, rfl⟩
  have KM : ∀ W, Calls Tryd.prog 55 #[X.val, .int .i64 (3 : Nat)] W fun e w' => e = .returned (.bool m1) ∧ Below W.heap.size W w' := fun W => by rw [← hm1]; exact rmany_any X 3 W
  have HM : Hid _ := hm1
  have hnX : w2.heap.size = w2.heap.size := rfl
  clear hD hm1 hnX
  obtain ⟨l, t, b, c, xs⟩ := X
  replace hX : rowMem w2.heap.size w2 b 0 xs := hX
  simp only [Im.val, Im.l, Im.t, Im.sl, Im.a, Im.xs, Im.c] at KM ⊢
  obtain ⟨N, hN⟩ : ∃ N, xs.length = N := ⟨_, rfl⟩
  have HN : Hid (xs.length = N) := hN
  rw [hN] at KM ⊢
  clear hN
  obtain ⟨p, hp⟩ : ∃ p, w2.heap.size = p := ⟨_, rfl⟩
  obtain ⟨w3, hw3⟩ : ∃ W, w2.alloc (.cells #[.bool l, .string t, .slice b N c] 70) = W := ⟨_, rfl⟩
  have hx3 : w3.heap[p]? = some (.cells #[.bool l, .string t, .slice b N c] 70 (0, 0)) := by rw [← hw3, ← hp]; exact World.alloc_heap_new w2 _
  have C3 : Below w1.heap.size w1 w3 := by rw [← hw3]; exact C2.alloc C2.size _
  have E3 : Below p w2 w3 := by rw [← hw3, ← hp]; exact be_new w2 _
  have hz3 : w3.heap.size = p + 1 := by rw [← hw3, ← hp]; simp
  have hqp : q < p := by have := C2.size; omega
  have HP : Hid (w2.heap.size = p) := hp
  rw [hp] at hX
  have k0 : w3.cell? ⟨p, 0, none⟩ = some (.bool l) := by rw [Lib.cell_of_heap hx3]; rfl
  have k1 : w3.cell? ⟨p, 1, none⟩ = some (.string t) := by rw [Lib.cell_of_heap hx3]; rfl
  have k2 : w3.cell? ⟨p, 2, none⟩ = some (.slice b N c) := by rw [Lib.cell_of_heap hx3]; rfl
  have HC : Hid (∀ W : World, Below w3.heap.size w3 W → Hid (Below w1.heap.size w1 W ∧ Below p w2 W ∧ W.heap[p]? = some (.cells #[.bool l, .string t, .slice b N c] 70 (0, 0)) ∧ p + 1 ≤ W.heap.size)) := fun W hB => ⟨C3.trans (hB.mono C3.size), E3.trans (hB.mono (by omega)), (hB.block p (by omega)).trans hx3, by have := hB.size; omega⟩
  clear C2 E3 hx3
  by_cases he : e = 0
  · subst he
    have HQD : Hid (DecD s (er (.mk l t b c xs))) := decD_of HD.out
    clear HD
    go_wp2_with fail
    first | rw [hw3] | skip
    clear hw3 hp k0 k1 k2
    refine (KM _).mono ?_
    rintro r w4 ⟨rfl, B4⟩
    have D4 : Below w3.heap.size w3 w4 := B4
    clear B4 KM C3
    cases m1 with
    | false =>
      have gX := (HB.out w4 (HC.out w4 D4).out.1).out.2.1
      have HG : Hid _ := D4
      have HE : Hid (∀ g : BtD, g.l.ok → er (.mk l t b c xs) ≠ btI g) := fun g _ e => Bool.noConfusion (HM.out.symm.trans (bt_shape e).1)
      clear D4
      go_wp2_with (first | (with_reducible show bodyPost _ _ _ _ _ _; refine Stp.out ?_) | refine store_row0 rfl rfl 41 _ _ rfl q #[.int .u64 0, .int .u64 0, .string ⟨#[]⟩, .string ⟨#[]⟩, .string ⟨#[]⟩, .string ⟨#[]⟩, .string ⟨#[]⟩, .int .u64 0, .slice none 0 0, .slice none 0 0, .string ⟨#[]⟩, .slice none 0 0] (by kernel_rfl) (by kernel_rfl) 41 _ gX (by kernel_rfl) rfl (by simp [Value.oneCell']) ?_)
      refine Stp.mk ?_
      refine bodyPost_ret (results_row2 rfl _ _ q 41 #[.int .u64 0, .int .u64 0, .string ⟨#[]⟩, .string ⟨#[]⟩, .string ⟨#[]⟩, .string ⟨#[]⟩, .string ⟨#[]⟩, .int .u64 0, .slice none 0 0, .slice none 0 0, .string ⟨#[]⟩, .slice none 0 0] (0, 0) _ (by kernel_rfl) (setRow_heap _ _ _ _ _ _ gX) Tryd.underlying41 rfl (by kernel_rfl) (.int .i64 130) (by kernel_rfl)) rfl ?_
      refine ⟨by rw [HQ.out]; exact below_setRow (HB.out w4 (HC.out w4 HG.out).out.1).out.1 (Nat.le_refl _) _, zBt, 130, none, none, none, 0, 0, 0, .inr ⟨rfl, rfl, fun g hg hdec => HE.out g hg (decD_one HQD.out hdec)⟩, rfl, .inl rfl, .inl rfl, .inl rfl⟩
    | true =>
      have hml : l = true ∧ xs.length = 3 := by
        have := HM.out
        rw [Bool.and_eq_true] at this
        exact ⟨this.1, of_decide_eq_true this.2⟩
      obtain ⟨rfl, hl3⟩ := hml
      obtain ⟨x0, x1, x2, rfl⟩ := lst3 xs hl3
      obtain rfl : 3 = N := HN.out
      obtain ⟨b0, o0, rfl⟩ := row_block hX
      have hpw : p ≤ w2.heap.size := by rw [HP.out]; exact Nat.le_refl _
      have HR : Hid (∀ W : World, Below p w2 W → ∀ j x, [x0, x1, x2][j]? = some x → _) := fun W hB j x hx => row_cells (Nat.le_refl _) hX hB hpw b0 o0 rfl j x hx
      have hcn : cnt x0 < 100000000 ∧ cnt x1 < 100000000 ∧ cnt x2 < 100000000 := by
        have hc : cnt x0 + (cnt x1 + (cnt x2 + 0)) + 1 < 100000000 := hrg.2
        omega
      have hrx : t = ⟨#[]⟩ ∧ rgI (er x0) = true ∧ rgI (er x1) = true ∧ rgI (er x2) = true := by
        obtain ⟨s1, s2⟩ := rgI_lst hrg.1 rfl
        injection s1 with _ s1 _
        have s2 : rgIs [er x0, er x1, er x2] = true := s2
        exact ⟨s1, rgIs_mem _ _ s2 (by simp), rgIs_mem _ _ s2 (by simp), rgIs_mem _ _ s2 (by simp)⟩
      have K0 : ∀ W, Below p w2 W → Calls Tryd.prog 56 #[x0.val] W (PostL W (er x0)) := fun W hB => rlightOf_any x0 hcn.1 hrx.2.1 p W (by have := hB.size; omega) (HR.out W hB 0 x0 rfl).2.2.2
      have K1 : ∀ W, Below p w2 W → Calls Tryd.prog 57 #[x1.val] W (PostC W (er x1)) := fun W hB => rcommOf_any x1 hcn.2.1 hrx.2.2.1 p W (by have := hB.size; omega) (HR.out W hB 1 x1 rfl).2.2.2
      have K2 : ∀ W, Below p w2 W → Calls Tryd.prog 58 #[x2.val] W fun e w' => Below W.heap.size W w' ∧ ∃ ts b a c, TsR x2 ts b ∧ e = .returned (.tuple #[.slice a ts.length c, .bool b]) ∧ slP (fun b => W.heap.size ≤ b ∧ b < w'.heap.size) w' a ts := fun W hB => rtextsOf_any x2 (by have := hcn.2.2; rw [cnt_eq] at this; have := len_cnts x2.xs; omega) p W (by have := hB.size; omega) (HR.out W hB 2 x2 rfl).2.2.2
      have HRX : Hid _ := hrx
      clear hcn hl3 hX hrg hrx
      obtain ⟨l0, t0, a0, c0, xs0⟩ := x0
      obtain ⟨l1, t1, a1, c1, xs1⟩ := x1
      obtain ⟨l2, t2, a2, c2, xs2⟩ := x2
      simp only [Im.val, Im.l, Im.t, Im.sl, Im.a, Im.xs, Im.c] at K0 K1 K2
      obtain ⟨N0, hN0⟩ : ∃ N, xs0.length = N := ⟨_, rfl⟩
      rw [hN0] at K0
      obtain ⟨N1, hN1⟩ : ∃ N, xs1.length = N := ⟨_, rfl⟩
      rw [hN1] at K1
      obtain ⟨N2, hN2⟩ : ∃ N, xs2.length = N := ⟨_, rfl⟩
      rw [hN2] at K2
      have HI : Hid (∀ W : World, Below w3.heap.size w3 W → Hid (W.cell? ⟨p, 2, none⟩ = some (.slice (some ⟨b0, o0, none⟩) 3 c) ∧ W.cell? ⟨b0, o0, none⟩ = some (.bool l0) ∧ W.cell? ⟨b0, o0 + 1, none⟩ = some (.string t0) ∧ W.cell? ⟨b0, o0 + 2, none⟩ = some (.slice a0 N0 c0) ∧ W.cell? ⟨b0, o0 + 3, none⟩ = some (.bool l1) ∧ W.cell? ⟨b0, o0 + 4, none⟩ = some (.string t1) ∧ W.cell? ⟨b0, o0 + 5, none⟩ = some (.slice a1 N1 c1) ∧ W.cell? ⟨b0, o0 + 6, none⟩ = some (.bool l2) ∧ W.cell? ⟨b0, o0 + 7, none⟩ = some (.string t2) ∧ W.cell? ⟨b0, o0 + 8, none⟩ = some (.slice a2 N2 c2))) := fun W hB => by
        obtain ⟨-, bX, rY, _⟩ := (HC.out W hB).out
        have r0 := HR.out W bX 0 _ rfl
        have r1 := HR.out W bX 1 _ rfl
        have r2 := HR.out W bX 2 _ rfl
        simp only [Im.sl, Im.l, Im.t, Im.a, Im.xs, Im.c, hN0, hN1, hN2] at r0 r1 r2
        exact ⟨by rw [Lib.cell_of_heap rY]; rfl, r0.1, r0.2.1, r0.2.2.1, r1.1, r1.2.1, r1.2.2.1, r2.1, r2.2.1, r2.2.2.1⟩
      clear hN0 hN1 hN2 HM
      obtain ⟨i0, i1, i2, i3, -, -, -, -, -, -⟩ := (HI.out w4 D4).out
      go_wp2_with fail
      generalize (Value.tuple #[Value.agg #[Value.bool true, Value.string t, Value.slice (some ⟨b0, o0, none⟩) 3 c], Value.int .i64 0]) = zd
      generalize (Value.agg #[Value.bool true, Value.string t, Value.slice (some ⟨b0, o0, none⟩) 3 c]) = ze
      refine (K0 w4 (HC.out w4 D4).out.2.1).mono ?_
      rintro r v0 ⟨B5, ⟨ds0, du0, dp0, dt0, dy0, de0, dr0, dm0, dw0⟩, bo0, la0, lc0, hS, rfl, hs⟩
      have E0 := D4.trans (B5.mono D4.size)
      obtain ⟨nn0, hnn⟩ : ∃ N, dw0.length = N := ⟨_, rfl⟩
      simp only [ltV, hnn]
      have hlo := (HB.out w4 (HC.out w4 D4).out.1).out.2.2
      have HS0 : Hid (_ ∧ _ ∧ _ ∧ _) := ⟨hS, slP_of (Q := fun b => q + 1 ≤ b ∧ b < v0.heap.size) (fun b hb => ⟨⟨by omega, hb.2⟩, fun _ => rfl⟩) hs, hnn, B5⟩
      have P0 : Below v0.heap.size v0 v0 := Below.refl _ _
      clear hlo
      obtain ⟨u0, hu0⟩ : ∃ W, v0.alloc (.cells #[.int .u64 (ds0 : Int), .int .u64 (du0 : Int), .string dp0, .string dt0, .string dy0, .string de0, .string dr0, .int .u64 (dm0 : Int), .slice la0 nn0 lc0] 29) = W := ⟨_, rfl⟩
      have F0 : Below w3.heap.size w3 u0 := by rw [← hu0]; exact E0.alloc E0.size _
      have hb0 : u0.heap[v0.heap.size]? = some (.cells #[.int .u64 (ds0 : Int), .int .u64 (du0 : Int), .string dp0, .string dt0, .string dy0, .string de0, .string dr0, .int .u64 (dm0 : Int), .slice la0 nn0 lc0] 29 (0, 0)) := by rw [← hu0]; exact World.alloc_heap_new v0 _
      have hl0 : v0.heap.size < u0.heap.size := by rw [← hu0]; simp
      have HBX0 : Hid (∀ W : World, Below u0.heap.size u0 W → W.heap[v0.heap.size]? = some (.cells #[.int .u64 (ds0 : Int), .int .u64 (du0 : Int), .string dp0, .string dt0, .string dy0, .string de0, .string dr0, .int .u64 (dm0 : Int), .slice la0 nn0 lc0] 29 (0, 0))) := fun W hB => (hB.block _ hl0).trans hb0
      have HVB0 : Hid (Below v0.heap.size v0 u0) := by rw [← hu0]; exact be_new _ _
      have G0 : Below u0.heap.size u0 u0 := Below.refl _ _
      clear B5 D4 E0 hS hs hnn K0 hb0 hl0 i0 i1 i2 i3
      replace P0 := P0.trans HVB0.out
      obtain ⟨i0, -, -, -, i4, i5, i6, -, -, -⟩ := (HI.out u0 F0).out
      go_wp2_with fail
      first | rw [hu0] | skip
      clear hu0
      generalize (Value.tuple #[Value.agg #[Value.int .u64 (ds0 : Int), Value.int .u64 (du0 : Int), Value.string dp0, Value.string dt0, Value.string dy0, Value.string de0, Value.string dr0, Value.int .u64 (dm0 : Int), Value.slice la0 nn0 lc0], Value.bool bo0]) = zt0
      generalize (Value.agg #[Value.int .u64 (ds0 : Int), Value.int .u64 (du0 : Int), Value.string dp0, Value.string dt0, Value.string dy0, Value.string de0, Value.string dr0, Value.int .u64 (dm0 : Int), Value.slice la0 nn0 lc0]) = za0
      generalize (Value.agg #[Value.bool l0, Value.string t0, Value.slice a0 N0 c0]) = zi0
      refine (K1 u0 (HC.out u0 F0).out.2.1).mono ?_
      rintro r v1 ⟨B5, ⟨dw1, dm1⟩, bo1, la1, lc1, hS, rfl, hs⟩
      have E1 := F0.trans (B5.mono F0.size)
      obtain ⟨nn1, hnn⟩ : ∃ N, dw1.length = N := ⟨_, rfl⟩
      simp only [cmV, hnn]
      have hlo := (HB.out u0 (HC.out u0 F0).out.1).out.2.2
      have HS1 : Hid (_ ∧ _ ∧ _ ∧ _) := ⟨hS, slP_of (Q := fun b => q + 1 ≤ b ∧ b < v1.heap.size) (fun b hb => ⟨⟨by omega, hb.2⟩, fun _ => rfl⟩) hs, hnn, B5⟩
      have P1 : Below v1.heap.size v1 v1 := Below.refl _ _
      clear hlo
      obtain ⟨u1, hu1⟩ : ∃ W, v1.alloc (.cells #[.slice la1 nn1 lc1, .string dm1] 31) = W := ⟨_, rfl⟩
      have F1 : Below w3.heap.size w3 u1 := by rw [← hu1]; exact E1.alloc E1.size _
      have hb1 : u1.heap[v1.heap.size]? = some (.cells #[.slice la1 nn1 lc1, .string dm1] 31 (0, 0)) := by rw [← hu1]; exact World.alloc_heap_new v1 _
      have hl1 : v1.heap.size < u1.heap.size := by rw [← hu1]; simp
      have HBX1 : Hid (∀ W : World, Below u1.heap.size u1 W → W.heap[v1.heap.size]? = some (.cells #[.slice la1 nn1 lc1, .string dm1] 31 (0, 0))) := fun W hB => (hB.block _ hl1).trans hb1
      have HVB1 : Hid (Below v1.heap.size v1 u1) := by rw [← hu1]; exact be_new _ _
      have G1 : Below u1.heap.size u1 u1 := Below.refl _ _
      clear B5 F0 E1 hS hs hnn K1 hb1 hl1 i0 i4 i5 i6
      replace G0 := G0.trans ((HS1.out.2.2.2.trans (HVB1.out.mono HS1.out.2.2.2.size)).mono G0.size)
      replace P0 := P0.trans ((HS1.out.2.2.2.trans (HVB1.out.mono HS1.out.2.2.2.size)).mono P0.size)
      replace P1 := P1.trans HVB1.out
      obtain ⟨i0, -, -, -, -, -, -, i7, i8, i9⟩ := (HI.out u1 F1).out
      go_wp2_with fail
      first | rw [hu1] | skip
      clear hu1
      generalize (Value.tuple #[Value.agg #[Value.slice la1 nn1 lc1, Value.string dm1], Value.bool bo1]) = zt1
      generalize (Value.agg #[Value.slice la1 nn1 lc1, Value.string dm1]) = za1
      generalize (Value.agg #[Value.bool l1, Value.string t1, Value.slice a1 N1 c1]) = zi1
      refine (K2 u1 (HC.out u1 F1).out.2.1).mono ?_
      rintro r v2 ⟨B5, dw2, bo2, la2, lc2, hS, rfl, hs⟩
      have E2 := F1.trans (B5.mono F1.size)
      obtain ⟨nn2, hnn⟩ : ∃ N, dw2.length = N := ⟨_, rfl⟩
      rw [hnn]
      have hlo := (HB.out u1 (HC.out u1 F1).out.1).out.2.2
      have HS2 : Hid (_ ∧ _ ∧ _ ∧ _) := ⟨hS, slP_of (Q := fun b => q + 1 ≤ b ∧ b < v2.heap.size) (fun b hb => ⟨⟨by omega, hb.2⟩, fun _ => rfl⟩) hs, hnn, B5⟩
      have P2 : Below v2.heap.size v2 v2 := Below.refl _ _
      clear hlo
      replace G0 := G0.trans (B5.mono G0.size)
      replace G1 := G1.trans (B5.mono G1.size)
      replace P0 := P0.trans (B5.mono P0.size)
      replace P1 := P1.trans (B5.mono P1.size)
      clear B5 F1 hS hs hnn K2 i0 i7 i8 i9
      by_cases hall : bo0 = true ∧ bo1 = true ∧ bo2 = true
      · obtain ⟨rfl, rfl, rfl⟩ := hall
        have gB0 := HBX0.out v2 G0
        have gB1 := HBX1.out v2 G1
        have HX : Hid (er (.mk true t (some ⟨b0, o0, none⟩) c [.mk l0 t0 a0 c0 xs0, .mk l1 t1 a1 c1 xs1, .mk l2 t2 a2 c2 xs2]) = btI (⟨⟨ds0, du0, dp0, dt0, dy0, de0, dr0, dm0, dw0⟩, ⟨dw1, dm1⟩, dw2⟩ : BtD)) := by
          show It.mk true t [er (.mk l0 t0 a0 c0 xs0), er (.mk l1 t1 a1 c1 xs1), er (.mk l2 t2 a2 c2 xs2)] = _
          rw [HRX.out.1, (lts_yes HS0.out.1).2, cms_yes HS1.out.1, (ts_read HRX.out.2.2.2 HS2.out.1).1 rfl]
          rfl
        have HPS : Hid (_ ∧ _ ∧ _) := ⟨P0, P1, P2⟩
        have gX := (HB.out v2 (HC.out v2 E2).out.1).out.2.1
        have HG : Hid _ := E2
        clear E2 G0 G1 P0 P1 P2
        go_wp2_with (first | (with_reducible show bodyPost _ _ _ _ _ _; refine Stp.out ?_) | refine wpList_load_row rfl 29 _ rfl v0.heap.size rfl _ _ _ _ gB0 Tryd.underlying29 rfl (by kernel_rfl) ?_ | refine wpList_load_row rfl 31 _ rfl v1.heap.size rfl _ _ _ _ gB1 Tryd.underlying31 rfl (by kernel_rfl) ?_ | refine store_row0 rfl rfl 41 _ _ rfl q #[.int .u64 (ds0 : Int), .int .u64 (du0 : Int), .string dp0, .string dt0, .string dy0, .string de0, .string dr0, .int .u64 (dm0 : Int), .slice la0 nn0 lc0, .slice la1 nn1 lc1, .string dm1, .slice la2 nn2 lc2] (by kernel_rfl) (by kernel_rfl) 41 _ gX (by kernel_rfl) rfl (by simp [Value.oneCell']) ?_)
        refine Stp.mk ?_
        refine bodyPost_ret (results_row2 rfl _ _ q 41 #[.int .u64 (ds0 : Int), .int .u64 (du0 : Int), .string dp0, .string dt0, .string dy0, .string de0, .string dr0, .int .u64 (dm0 : Int), .slice la0 nn0 lc0, .slice la1 nn1 lc1, .string dm1, .slice la2 nn2 lc2] (0, 0) _ (by kernel_rfl) (setRow_heap _ _ _ _ _ _ gX) Tryd.underlying41 rfl (by kernel_rfl) (.int .i64 0) (by kernel_rfl)) rfl ?_
        have key : ∀ (v : World) (a : Option Addr) (ts : List ByteArray) (cs : Array Value), slP (fun b => q + 1 ≤ b ∧ b < v.heap.size) v a ts → Below v.heap.size v v2 → slS (v2.setRow q cs).heap.size (v2.setRow q cs) a ts := fun v a ts cs h hv => by
          refine slS_slP (slP_of (Q := fun b => b < v2.heap.size) (fun b hb => ⟨Nat.lt_of_lt_of_le hb.2 hv.size, fun k => (cell_setRow_other _ _ _ _ (by show b ≠ q; omega)).trans (hv.cell (p := ⟨b, k, none⟩) hb.2)⟩) h) (fun b hb => ?_)
          rw [setRow_size]
          exact hb
        refine ⟨by rw [HQ.out]; exact below_setRow (HB.out v2 (HC.out v2 HG.out).out.1).out.1 (Nat.le_refl _) _, ⟨⟨ds0, du0, dp0, dt0, dy0, de0, dr0, dm0, dw0⟩, ⟨dw1, dm1⟩, dw2⟩, 0, la0, la1, la2, lc0, lc1, lc2, .inl ⟨rfl, (lts_yes HS0.out.1).1, by rw [← HX.out]; exact HQD.out⟩, by rw [← HS0.out.2.2.1, ← HS1.out.2.2.1, ← HS2.out.2.2.1]; rfl, key _ _ _ _ HS0.out.2.1 HPS.out.1, key _ _ _ _ HS1.out.2.1 HPS.out.2.1, key _ _ _ _ HS2.out.2.1 HPS.out.2.2⟩
      · cases bo0 with
        | false =>
          clear G0 G1 P0 P1 P2
          have gX := (HB.out v2 (HC.out v2 E2).out.1).out.2.1
          have HG : Hid _ := E2
          have HE : Hid (∀ g : BtD, g.l.ok → er (.mk true t (some ⟨b0, o0, none⟩) c [.mk l0 t0 a0 c0 xs0, .mk l1 t1 a1 c1 xs1, .mk l2 t2 a2 c2 xs2]) ≠ btI g) := fun g hg e => by
            have h := (bt_shape e).2
            simp only [Im.xs, ers, List.cons.injEq] at h
            exact lts_no HS0.out.1 g.l hg h.1
          clear E2
          clear HI HR HRX HP hpw HN HS0 HS1 HS2 HBX0 HVB0 HBX1 HVB1
          go_wp2_with (first | (with_reducible show bodyPost _ _ _ _ _ _; refine Stp.out ?_) | refine store_row0 rfl rfl 41 _ _ rfl q #[.int .u64 0, .int .u64 0, .string ⟨#[]⟩, .string ⟨#[]⟩, .string ⟨#[]⟩, .string ⟨#[]⟩, .string ⟨#[]⟩, .int .u64 0, .slice none 0 0, .slice none 0 0, .string ⟨#[]⟩, .slice none 0 0] (by kernel_rfl) (by kernel_rfl) 41 _ gX (by kernel_rfl) rfl (by simp [Value.oneCell']) ?_)
          refine Stp.mk ?_
          refine bodyPost_ret (results_row2 rfl _ _ q 41 #[.int .u64 0, .int .u64 0, .string ⟨#[]⟩, .string ⟨#[]⟩, .string ⟨#[]⟩, .string ⟨#[]⟩, .string ⟨#[]⟩, .int .u64 0, .slice none 0 0, .slice none 0 0, .string ⟨#[]⟩, .slice none 0 0] (0, 0) _ (by kernel_rfl) (setRow_heap _ _ _ _ _ _ gX) Tryd.underlying41 rfl (by kernel_rfl) (.int .i64 130) (by kernel_rfl)) rfl ?_
          refine ⟨by rw [HQ.out]; exact below_setRow (HB.out v2 (HC.out v2 HG.out).out.1).out.1 (Nat.le_refl _) _, zBt, 130, none, none, none, 0, 0, 0, .inr ⟨rfl, rfl, fun g hg hdec => HE.out g hg (decD_one HQD.out hdec)⟩, rfl, .inl rfl, .inl rfl, .inl rfl⟩
        | true =>
          cases bo1 with
          | false =>
            clear G0 G1 P0 P1 P2
            have gX := (HB.out v2 (HC.out v2 E2).out.1).out.2.1
            have HG : Hid _ := E2
            have HE : Hid (∀ g : BtD, g.l.ok → er (.mk true t (some ⟨b0, o0, none⟩) c [.mk l0 t0 a0 c0 xs0, .mk l1 t1 a1 c1 xs1, .mk l2 t2 a2 c2 xs2]) ≠ btI g) := fun g hg e => by
              have h := (bt_shape e).2
              simp only [Im.xs, ers, List.cons.injEq] at h
              exact cms_no HS1.out.1 _ h.2.1
            clear E2
            clear HI HR HRX HP hpw HN HS0 HS1 HS2 HBX0 HVB0 HBX1 HVB1
            go_wp2_with (first | (with_reducible show bodyPost _ _ _ _ _ _; refine Stp.out ?_) | refine store_row0 rfl rfl 41 _ _ rfl q #[.int .u64 0, .int .u64 0, .string ⟨#[]⟩, .string ⟨#[]⟩, .string ⟨#[]⟩, .string ⟨#[]⟩, .string ⟨#[]⟩, .int .u64 0, .slice none 0 0, .slice none 0 0, .string ⟨#[]⟩, .slice none 0 0] (by kernel_rfl) (by kernel_rfl) 41 _ gX (by kernel_rfl) rfl (by simp [Value.oneCell']) ?_)
            refine Stp.mk ?_
            refine bodyPost_ret (results_row2 rfl _ _ q 41 #[.int .u64 0, .int .u64 0, .string ⟨#[]⟩, .string ⟨#[]⟩, .string ⟨#[]⟩, .string ⟨#[]⟩, .string ⟨#[]⟩, .int .u64 0, .slice none 0 0, .slice none 0 0, .string ⟨#[]⟩, .slice none 0 0] (0, 0) _ (by kernel_rfl) (setRow_heap _ _ _ _ _ _ gX) Tryd.underlying41 rfl (by kernel_rfl) (.int .i64 130) (by kernel_rfl)) rfl ?_
            refine ⟨by rw [HQ.out]; exact below_setRow (HB.out v2 (HC.out v2 HG.out).out.1).out.1 (Nat.le_refl _) _, zBt, 130, none, none, none, 0, 0, 0, .inr ⟨rfl, rfl, fun g hg hdec => HE.out g hg (decD_one HQD.out hdec)⟩, rfl, .inl rfl, .inl rfl, .inl rfl⟩
          | true =>
            cases bo2 with
            | false =>
              clear G0 G1 P0 P1 P2
              have gX := (HB.out v2 (HC.out v2 E2).out.1).out.2.1
              have HG : Hid _ := E2
              have HE : Hid (∀ g : BtD, g.l.ok → er (.mk true t (some ⟨b0, o0, none⟩) c [.mk l0 t0 a0 c0 xs0, .mk l1 t1 a1 c1 xs1, .mk l2 t2 a2 c2 xs2]) ≠ btI g) := fun g hg e => by
                have h := (bt_shape e).2
                simp only [Im.xs, ers, List.cons.injEq] at h
                exact (ts_read HRX.out.2.2.2 HS2.out.1).2 rfl _ h.2.2.1
              clear E2
              clear HI HR HRX HP hpw HN HS0 HS1 HS2 HBX0 HVB0 HBX1 HVB1
              go_wp2_with (first | (with_reducible show bodyPost _ _ _ _ _ _; refine Stp.out ?_) | refine store_row0 rfl rfl 41 _ _ rfl q #[.int .u64 0, .int .u64 0, .string ⟨#[]⟩, .string ⟨#[]⟩, .string ⟨#[]⟩, .string ⟨#[]⟩, .string ⟨#[]⟩, .int .u64 0, .slice none 0 0, .slice none 0 0, .string ⟨#[]⟩, .slice none 0 0] (by kernel_rfl) (by kernel_rfl) 41 _ gX (by kernel_rfl) rfl (by simp [Value.oneCell']) ?_)
              refine Stp.mk ?_
              refine bodyPost_ret (results_row2 rfl _ _ q 41 #[.int .u64 0, .int .u64 0, .string ⟨#[]⟩, .string ⟨#[]⟩, .string ⟨#[]⟩, .string ⟨#[]⟩, .string ⟨#[]⟩, .int .u64 0, .slice none 0 0, .slice none 0 0, .string ⟨#[]⟩, .slice none 0 0] (0, 0) _ (by kernel_rfl) (setRow_heap _ _ _ _ _ _ gX) Tryd.underlying41 rfl (by kernel_rfl) (.int .i64 130) (by kernel_rfl)) rfl ?_
              refine ⟨by rw [HQ.out]; exact below_setRow (HB.out v2 (HC.out v2 HG.out).out.1).out.1 (Nat.le_refl _) _, zBt, 130, none, none, none, 0, 0, 0, .inr ⟨rfl, rfl, fun g hg hdec => HE.out g hg (decD_one HQD.out hdec)⟩, rfl, .inl rfl, .inl rfl, .inl rfl⟩
            | true =>
              exact absurd ⟨rfl, rfl, rfl⟩ hall
  · have he2 : (e == 0) = false := by rw [beq_eq_false_iff_ne]; exact he
    have gX := (HB.out w3 C3).out.2.1
    have HG : Hid _ := C3
    have HDN : Hid (∀ x, ¬ DecD s x) := decD_not HD.out he
    clear C3 HD
    go_wp2_with (first | (with_reducible show bodyPost _ _ _ _ _ _; refine Stp.out ?_) | refine store_row0 rfl rfl 41 _ _ rfl q #[.int .u64 0, .int .u64 0, .string ⟨#[]⟩, .string ⟨#[]⟩, .string ⟨#[]⟩, .string ⟨#[]⟩, .string ⟨#[]⟩, .int .u64 0, .slice none 0 0, .slice none 0 0, .string ⟨#[]⟩, .slice none 0 0] (by kernel_rfl) (by kernel_rfl) 41 _ gX (by kernel_rfl) rfl (by simp [Value.oneCell']) ?_)
    refine Stp.mk ?_
    refine bodyPost_ret (results_row2 rfl _ _ q 41 #[.int .u64 0, .int .u64 0, .string ⟨#[]⟩, .string ⟨#[]⟩, .string ⟨#[]⟩, .string ⟨#[]⟩, .string ⟨#[]⟩, .int .u64 0, .slice none 0 0, .slice none 0 0, .string ⟨#[]⟩, .slice none 0 0] (0, 0) _ (by kernel_rfl) (setRow_heap _ _ _ _ _ _ gX) Tryd.underlying41 rfl (by kernel_rfl) (.int .i64 130) (by kernel_rfl)) rfl ?_
    refine ⟨by rw [HQ.out]; exact below_setRow (HB.out w3 HG.out).out.1 (Nat.le_refl _) _, zBt, 130, none, none, none, 0, 0, 0, .inr ⟨rfl, rfl, fun g _ hdec => HDN.out _ hdec⟩, rfl, .inl rfl, .inl rfl, .inl rfl⟩
set_option maxRecDepth 100000 in
set_option maxHeartbeats 4000000 in
theorem rfrom_any (s : ByteArray) (w : World) : Calls Tryd.prog 25 #[.string s] w (PostU s w) := by
  have KD := rdecode_any s
  have A0 := be_new w (.cells #[.int .u64 0, .int .u64 0, .string ⟨#[]⟩, .string ⟨#[]⟩, .string ⟨#[]⟩, .string ⟨#[]⟩, .string ⟨#[]⟩, .int .u64 0, .slice none 0 0, .slice none 0 0, .string ⟨#[]⟩, .slice none 0 0, .int .u64 0, .int .u64 0, .string ⟨#[]⟩, .string ⟨#[]⟩, .string ⟨#[]⟩, .string ⟨#[]⟩, .string ⟨#[]⟩, .int .u64 0, .slice none 0 0, .slice none 0 0, .int .u64 0, .string ⟨#[]⟩, .int .u64 0] 43)
  have h0 := World.alloc_heap_new w (.cells #[.int .u64 0, .int .u64 0, .string ⟨#[]⟩, .string ⟨#[]⟩, .string ⟨#[]⟩, .string ⟨#[]⟩, .string ⟨#[]⟩, .int .u64 0, .slice none 0 0, .slice none 0 0, .string ⟨#[]⟩, .slice none 0 0, .int .u64 0, .int .u64 0, .string ⟨#[]⟩, .string ⟨#[]⟩, .string ⟨#[]⟩, .string ⟨#[]⟩, .string ⟨#[]⟩, .int .u64 0, .slice none 0 0, .slice none 0 0, .int .u64 0, .string ⟨#[]⟩, .int .u64 0] 43)
  obtain ⟨q, hq⟩ : ∃ q, w.heap.size = q := ⟨_, rfl⟩
  have HQ : Hid (w.heap.size = q) := hq
  obtain ⟨w1, hw1⟩ : ∃ W, w.alloc (.cells #[.int .u64 0, .int .u64 0, .string ⟨#[]⟩, .string ⟨#[]⟩, .string ⟨#[]⟩, .string ⟨#[]⟩, .string ⟨#[]⟩, .int .u64 0, .slice none 0 0, .slice none 0 0, .string ⟨#[]⟩, .slice none 0 0, .int .u64 0, .int .u64 0, .string ⟨#[]⟩, .string ⟨#[]⟩, .string ⟨#[]⟩, .string ⟨#[]⟩, .string ⟨#[]⟩, .int .u64 0, .slice none 0 0, .slice none 0 0, .int .u64 0, .string ⟨#[]⟩, .int .u64 0] 43) = W := ⟨_, rfl⟩
  have hsz1 : w1.heap.size = q + 1 := by rw [← hw1, ← hq]; simp
  rw [hw1] at A0 h0
  rw [hq] at A0 h0
  have HB : Hid (∀ W : World, Below w1.heap.size w1 W → Hid (Below q w W ∧ W.heap[q]? = some (.cells #[.int .u64 0, .int .u64 0, .string ⟨#[]⟩, .string ⟨#[]⟩, .string ⟨#[]⟩, .string ⟨#[]⟩, .string ⟨#[]⟩, .int .u64 0, .slice none 0 0, .slice none 0 0, .string ⟨#[]⟩, .slice none 0 0, .int .u64 0, .int .u64 0, .string ⟨#[]⟩, .string ⟨#[]⟩, .string ⟨#[]⟩, .string ⟨#[]⟩, .string ⟨#[]⟩, .int .u64 0, .slice none 0 0, .slice none 0 0, .int .u64 0, .string ⟨#[]⟩, .int .u64 0] 43 (0, 0)) ∧ q + 1 ≤ W.heap.size)) := fun W hB => ⟨A0.trans (hB.mono (by omega)), (hB.block q (by omega)).trans h0, by have := hB.size; omega⟩
  clear A0 h0
  go_enter Tryd.func25, Tryd.ntmps25
  have C1 : Below w1.heap.size w1 w1 := Below.refl _ _
  go_wp2_with fail
  first | rw [hw1] | skip
  clear hw1 hq
  refine (KD _).mono ?_
  rintro r w2 ⟨B2, X, e, rfl, hD, hX⟩
  have C2 := C1.trans B2
  clear B2 C1 KD
  have hrg := hD.rg
  have HD : Hid _ := hD
  obtain ⟨m1, hm1⟩ : ∃ b, (X.l && decide (X.xs.length = 8)) = b := ⟨_, rfl⟩
  have KM : ∀ W, Calls Tryd.prog 55 #[X.val, .int .i64 (8 : Nat)] W fun e w' => e = .returned (.bool m1) ∧ Below W.heap.size W w' := fun W => by rw [← hm1]; exact rmany_any X 8 W
  have HM : Hid _ := hm1
  have hnX : w2.heap.size = w2.heap.size := rfl
  clear hD hm1 hnX
  obtain ⟨l, t, b, c, xs⟩ := X
  replace hX : rowMem w2.heap.size w2 b 0 xs := hX
  simp only [Im.val, Im.l, Im.t, Im.sl, Im.a, Im.xs, Im.c] at KM ⊢
  obtain ⟨N, hN⟩ : ∃ N, xs.length = N := ⟨_, rfl⟩
  have HN : Hid (xs.length = N) := hN
  rw [hN] at KM ⊢
  clear hN
  obtain ⟨p, hp⟩ : ∃ p, w2.heap.size = p := ⟨_, rfl⟩
  obtain ⟨w3, hw3⟩ : ∃ W, w2.alloc (.cells #[.bool l, .string t, .slice b N c] 70) = W := ⟨_, rfl⟩
  have hx3 : w3.heap[p]? = some (.cells #[.bool l, .string t, .slice b N c] 70 (0, 0)) := by rw [← hw3, ← hp]; exact World.alloc_heap_new w2 _
  have C3 : Below w1.heap.size w1 w3 := by rw [← hw3]; exact C2.alloc C2.size _
  have E3 : Below p w2 w3 := by rw [← hw3, ← hp]; exact be_new w2 _
  have hz3 : w3.heap.size = p + 1 := by rw [← hw3, ← hp]; simp
  have hqp : q < p := by have := C2.size; omega
  have HP : Hid (w2.heap.size = p) := hp
  rw [hp] at hX
  have k0 : w3.cell? ⟨p, 0, none⟩ = some (.bool l) := by rw [Lib.cell_of_heap hx3]; rfl
  have k1 : w3.cell? ⟨p, 1, none⟩ = some (.string t) := by rw [Lib.cell_of_heap hx3]; rfl
  have k2 : w3.cell? ⟨p, 2, none⟩ = some (.slice b N c) := by rw [Lib.cell_of_heap hx3]; rfl
  have HC : Hid (∀ W : World, Below w3.heap.size w3 W → Hid (Below w1.heap.size w1 W ∧ Below p w2 W ∧ W.heap[p]? = some (.cells #[.bool l, .string t, .slice b N c] 70 (0, 0)) ∧ p + 1 ≤ W.heap.size)) := fun W hB => ⟨C3.trans (hB.mono C3.size), E3.trans (hB.mono (by omega)), (hB.block p (by omega)).trans hx3, by have := hB.size; omega⟩
  clear C2 E3 hx3
  by_cases he : e = 0
  · subst he
    have HQD : Hid (DecD s (er (.mk l t b c xs))) := decD_of HD.out
    clear HD
    go_wp2_with fail
    first | rw [hw3] | skip
    clear hw3 hp k0 k1 k2
    refine (KM _).mono ?_
    rintro r w4 ⟨rfl, B4⟩
    have D4 : Below w3.heap.size w3 w4 := B4
    clear B4 KM C3
    cases m1 with
    | false =>
      have gX := (HB.out w4 (HC.out w4 D4).out.1).out.2.1
      have HG : Hid _ := D4
      have HE : Hid (∀ g : UpD, g.ok → er (.mk l t b c xs) ≠ upI g) := fun g _ e => Bool.noConfusion (HM.out.symm.trans (up_shape e).1)
      clear D4
      go_wp2_with (first | (with_reducible show bodyPost _ _ _ _ _ _; refine Stp.out ?_) | refine store_row0 rfl rfl 43 _ _ rfl q #[.int .u64 0, .int .u64 0, .string ⟨#[]⟩, .string ⟨#[]⟩, .string ⟨#[]⟩, .string ⟨#[]⟩, .string ⟨#[]⟩, .int .u64 0, .slice none 0 0, .slice none 0 0, .string ⟨#[]⟩, .slice none 0 0, .int .u64 0, .int .u64 0, .string ⟨#[]⟩, .string ⟨#[]⟩, .string ⟨#[]⟩, .string ⟨#[]⟩, .string ⟨#[]⟩, .int .u64 0, .slice none 0 0, .slice none 0 0, .int .u64 0, .string ⟨#[]⟩, .int .u64 0] (by kernel_rfl) (by kernel_rfl) 43 _ gX (by kernel_rfl) rfl (by simp [Value.oneCell']) ?_)
      refine Stp.mk ?_
      refine bodyPost_ret (results_row2 rfl _ _ q 43 #[.int .u64 0, .int .u64 0, .string ⟨#[]⟩, .string ⟨#[]⟩, .string ⟨#[]⟩, .string ⟨#[]⟩, .string ⟨#[]⟩, .int .u64 0, .slice none 0 0, .slice none 0 0, .string ⟨#[]⟩, .slice none 0 0, .int .u64 0, .int .u64 0, .string ⟨#[]⟩, .string ⟨#[]⟩, .string ⟨#[]⟩, .string ⟨#[]⟩, .string ⟨#[]⟩, .int .u64 0, .slice none 0 0, .slice none 0 0, .int .u64 0, .string ⟨#[]⟩, .int .u64 0] (0, 0) _ (by kernel_rfl) (setRow_heap _ _ _ _ _ _ gX) Tryd.underlying43 rfl (by kernel_rfl) (.int .i64 130) (by kernel_rfl)) rfl ?_
      refine ⟨by rw [HQ.out]; exact below_setRow (HB.out w4 (HC.out w4 HG.out).out.1).out.1 (Nat.le_refl _) _, zUp, 130, none, none, none, none, none, 0, 0, 0, 0, 0, .inr ⟨rfl, rfl, fun g hg hdec => HE.out g hg (decD_one HQD.out hdec)⟩, rfl, .inl rfl, .inl rfl, .inl rfl, .inl rfl, .inl rfl⟩
    | true =>
      have hml : l = true ∧ xs.length = 8 := by
        have := HM.out
        rw [Bool.and_eq_true] at this
        exact ⟨this.1, of_decide_eq_true this.2⟩
      obtain ⟨rfl, hl3⟩ := hml
      obtain ⟨x0, x1, x2, x3, x4, x5, x6, x7, rfl⟩ := lst8 xs hl3
      obtain rfl : 8 = N := HN.out
      obtain ⟨b0, o0, rfl⟩ := row_block hX
      have hpw : p ≤ w2.heap.size := by rw [HP.out]; exact Nat.le_refl _
      have HR : Hid (∀ W : World, Below p w2 W → ∀ j x, [x0, x1, x2, x3, x4, x5, x6, x7][j]? = some x → _) := fun W hB j x hx => row_cells (Nat.le_refl _) hX hB hpw b0 o0 rfl j x hx
      have hcn : cnt x0 < 100000000 ∧ cnt x1 < 100000000 ∧ cnt x2 < 100000000 ∧ cnt x3 < 100000000 ∧ cnt x4 < 100000000 ∧ cnt x5 < 100000000 ∧ cnt x6 < 100000000 ∧ cnt x7 < 100000000 := by
        have hc : cnt x0 + (cnt x1 + (cnt x2 + (cnt x3 + (cnt x4 + (cnt x5 + (cnt x6 + (cnt x7 + 0))))))) + 1 < 100000000 := hrg.2
        omega
      have hrx : t = ⟨#[]⟩ ∧ rgI (er x0) = true ∧ rgI (er x1) = true ∧ rgI (er x2) = true ∧ rgI (er x3) = true ∧ rgI (er x4) = true ∧ rgI (er x5) = true ∧ rgI (er x6) = true ∧ rgI (er x7) = true := by
        obtain ⟨s1, s2⟩ := rgI_lst hrg.1 rfl
        injection s1 with _ s1 _
        have s2 : rgIs [er x0, er x1, er x2, er x3, er x4, er x5, er x6, er x7] = true := s2
        exact ⟨s1, rgIs_mem _ _ s2 (by simp), rgIs_mem _ _ s2 (by simp), rgIs_mem _ _ s2 (by simp), rgIs_mem _ _ s2 (by simp), rgIs_mem _ _ s2 (by simp), rgIs_mem _ _ s2 (by simp), rgIs_mem _ _ s2 (by simp), rgIs_mem _ _ s2 (by simp)⟩
      have K0 : ∀ W, Below p w2 W → Calls Tryd.prog 56 #[x0.val] W (PostL W (er x0)) := fun W hB => rlightOf_any x0 hcn.1 hrx.2.1 p W (by have := hB.size; omega) (HR.out W hB 0 x0 rfl).2.2.2
      have K1 : ∀ W, Below p w2 W → Calls Tryd.prog 57 #[x1.val] W (PostC W (er x1)) := fun W hB => rcommOf_any x1 hcn.2.1 hrx.2.2.1 p W (by have := hB.size; omega) (HR.out W hB 1 x1 rfl).2.2.2
      have K2 : ∀ W, Below p w2 W → Calls Tryd.prog 58 #[x2.val] W fun e w' => Below W.heap.size W w' ∧ ∃ ts b a c, TsR x2 ts b ∧ e = .returned (.tuple #[.slice a ts.length c, .bool b]) ∧ slP (fun b => W.heap.size ≤ b ∧ b < w'.heap.size) w' a ts := fun W hB => rtextsOf_any x2 (by have := hcn.2.2.1; rw [cnt_eq] at this; have := len_cnts x2.xs; omega) p W (by have := hB.size; omega) (HR.out W hB 2 x2 rfl).2.2.2
      have K3 : ∀ W, Below p w2 W → Calls Tryd.prog 56 #[x3.val] W (PostL W (er x3)) := fun W hB => rlightOf_any x3 hcn.2.2.2.1 hrx.2.2.2.2.1 p W (by have := hB.size; omega) (HR.out W hB 3 x3 rfl).2.2.2
      have K4 : ∀ W, Below p w2 W → Calls Tryd.prog 58 #[x4.val] W fun e w' => Below W.heap.size W w' ∧ ∃ ts b a c, TsR x4 ts b ∧ e = .returned (.tuple #[.slice a ts.length c, .bool b]) ∧ slP (fun b => W.heap.size ≤ b ∧ b < w'.heap.size) w' a ts := fun W hB => rtextsOf_any x4 (by have := hcn.2.2.2.2.1; rw [cnt_eq] at this; have := len_cnts x4.xs; omega) p W (by have := hB.size; omega) (HR.out W hB 4 x4 rfl).2.2.2
      obtain ⟨nv5, hnv5⟩ : ∃ v, vN x5.t = v := ⟨_, rfl⟩
      obtain ⟨bo5, hbo5⟩ : ∃ v, (decide (vE x5.t = 0) && !x5.l) = v := ⟨_, rfl⟩
      have K5 : ∀ W, Calls Tryd.prog 59 #[x5.val] W fun e w' => e = .returned (.tuple #[.int .u64 nv5, .bool bo5]) ∧ Below W.heap.size W w' := fun W => by
        rw [← hnv5, ← hbo5]; exact rnumberOf_any x5 W
      have HS5 : Hid (_ ∧ _) := ⟨hnv5, hbo5⟩
      clear hnv5 hbo5
      obtain ⟨nv7, hnv7⟩ : ∃ v, vN x7.t = v := ⟨_, rfl⟩
      obtain ⟨bo7, hbo7⟩ : ∃ v, (decide (vE x7.t = 0) && !x7.l) = v := ⟨_, rfl⟩
      have K7 : ∀ W, Calls Tryd.prog 59 #[x7.val] W fun e w' => e = .returned (.tuple #[.int .u64 nv7, .bool bo7]) ∧ Below W.heap.size W w' := fun W => by
        rw [← hnv7, ← hbo7]; exact rnumberOf_any x7 W
      have HS7 : Hid (_ ∧ _) := ⟨hnv7, hbo7⟩
      clear hnv7 hbo7
      have HRX : Hid _ := hrx
      clear hcn hl3 hX hrg hrx
      obtain ⟨l0, t0, a0, c0, xs0⟩ := x0
      obtain ⟨l1, t1, a1, c1, xs1⟩ := x1
      obtain ⟨l2, t2, a2, c2, xs2⟩ := x2
      obtain ⟨l3, t3, a3, c3, xs3⟩ := x3
      obtain ⟨l4, t4, a4, c4, xs4⟩ := x4
      obtain ⟨l5, t5, a5, c5, xs5⟩ := x5
      obtain ⟨l6, t6, a6, c6, xs6⟩ := x6
      obtain ⟨l7, t7, a7, c7, xs7⟩ := x7
      simp only [Im.val, Im.l, Im.t, Im.sl, Im.a, Im.xs, Im.c] at K0 K1 K2 K3 K4 K5 K7
      obtain ⟨N0, hN0⟩ : ∃ N, xs0.length = N := ⟨_, rfl⟩
      rw [hN0] at K0
      obtain ⟨N1, hN1⟩ : ∃ N, xs1.length = N := ⟨_, rfl⟩
      rw [hN1] at K1
      obtain ⟨N2, hN2⟩ : ∃ N, xs2.length = N := ⟨_, rfl⟩
      rw [hN2] at K2
      obtain ⟨N3, hN3⟩ : ∃ N, xs3.length = N := ⟨_, rfl⟩
      rw [hN3] at K3
      obtain ⟨N4, hN4⟩ : ∃ N, xs4.length = N := ⟨_, rfl⟩
      rw [hN4] at K4
      obtain ⟨N5, hN5⟩ : ∃ N, xs5.length = N := ⟨_, rfl⟩
      rw [hN5] at K5
      obtain ⟨N6, hN6⟩ : ∃ N, xs6.length = N := ⟨_, rfl⟩
      obtain ⟨N7, hN7⟩ : ∃ N, xs7.length = N := ⟨_, rfl⟩
      rw [hN7] at K7
      have HI : Hid (∀ W : World, Below w3.heap.size w3 W → Hid (W.cell? ⟨p, 2, none⟩ = some (.slice (some ⟨b0, o0, none⟩) 8 c) ∧ W.cell? ⟨b0, o0, none⟩ = some (.bool l0) ∧ W.cell? ⟨b0, o0 + 1, none⟩ = some (.string t0) ∧ W.cell? ⟨b0, o0 + 2, none⟩ = some (.slice a0 N0 c0) ∧ W.cell? ⟨b0, o0 + 3, none⟩ = some (.bool l1) ∧ W.cell? ⟨b0, o0 + 4, none⟩ = some (.string t1) ∧ W.cell? ⟨b0, o0 + 5, none⟩ = some (.slice a1 N1 c1) ∧ W.cell? ⟨b0, o0 + 6, none⟩ = some (.bool l2) ∧ W.cell? ⟨b0, o0 + 7, none⟩ = some (.string t2) ∧ W.cell? ⟨b0, o0 + 8, none⟩ = some (.slice a2 N2 c2) ∧ W.cell? ⟨b0, o0 + 9, none⟩ = some (.bool l3) ∧ W.cell? ⟨b0, o0 + 10, none⟩ = some (.string t3) ∧ W.cell? ⟨b0, o0 + 11, none⟩ = some (.slice a3 N3 c3) ∧ W.cell? ⟨b0, o0 + 12, none⟩ = some (.bool l4) ∧ W.cell? ⟨b0, o0 + 13, none⟩ = some (.string t4) ∧ W.cell? ⟨b0, o0 + 14, none⟩ = some (.slice a4 N4 c4) ∧ W.cell? ⟨b0, o0 + 15, none⟩ = some (.bool l5) ∧ W.cell? ⟨b0, o0 + 16, none⟩ = some (.string t5) ∧ W.cell? ⟨b0, o0 + 17, none⟩ = some (.slice a5 N5 c5) ∧ W.cell? ⟨b0, o0 + 18, none⟩ = some (.bool l6) ∧ W.cell? ⟨b0, o0 + 19, none⟩ = some (.string t6) ∧ W.cell? ⟨b0, o0 + 20, none⟩ = some (.slice a6 N6 c6) ∧ W.cell? ⟨b0, o0 + 21, none⟩ = some (.bool l7) ∧ W.cell? ⟨b0, o0 + 22, none⟩ = some (.string t7) ∧ W.cell? ⟨b0, o0 + 23, none⟩ = some (.slice a7 N7 c7))) := fun W hB => by
        obtain ⟨-, bX, rY, _⟩ := (HC.out W hB).out
        have r0 := HR.out W bX 0 _ rfl
        have r1 := HR.out W bX 1 _ rfl
        have r2 := HR.out W bX 2 _ rfl
        have r3 := HR.out W bX 3 _ rfl
        have r4 := HR.out W bX 4 _ rfl
        have r5 := HR.out W bX 5 _ rfl
        have r6 := HR.out W bX 6 _ rfl
        have r7 := HR.out W bX 7 _ rfl
        simp only [Im.sl, Im.l, Im.t, Im.a, Im.xs, Im.c, hN0, hN1, hN2, hN3, hN4, hN5, hN6, hN7] at r0 r1 r2 r3 r4 r5 r6 r7
        exact ⟨by rw [Lib.cell_of_heap rY]; rfl, r0.1, r0.2.1, r0.2.2.1, r1.1, r1.2.1, r1.2.2.1, r2.1, r2.2.1, r2.2.2.1, r3.1, r3.2.1, r3.2.2.1, r4.1, r4.2.1, r4.2.2.1, r5.1, r5.2.1, r5.2.2.1, r6.1, r6.2.1, r6.2.2.1, r7.1, r7.2.1, r7.2.2.1⟩
      clear hN0 hN1 hN2 hN3 hN4 hN5 hN6 hN7 HM
      obtain ⟨i0, -, -, -, -, -, -, -, -, -, -, -, -, -, -, -, -, -, -, i19, -, -, -, -, -⟩ := (HI.out w4 D4).out
      cases l6 with
      | true =>
        have gX := (HB.out w4 (HC.out w4 D4).out.1).out.2.1
        have HG : Hid _ := D4
        have HE : Hid (∀ g : UpD, g.ok → er (.mk true t (some ⟨b0, o0, none⟩) c [.mk l0 t0 a0 c0 xs0, .mk l1 t1 a1 c1 xs1, .mk l2 t2 a2 c2 xs2, .mk l3 t3 a3 c3 xs3, .mk l4 t4 a4 c4 xs4, .mk l5 t5 a5 c5 xs5, .mk true t6 a6 c6 xs6, .mk l7 t7 a7 c7 xs7]) ≠ upI g) := fun g _ e => by
          have := (up_shape e).2
          simp only [Im.xs, ers, List.cons.injEq] at this
          have := congrArg lI this.2.2.2.2.2.2.1
          cases this
        clear D4
        go_wp2_with (first | (with_reducible show bodyPost _ _ _ _ _ _; refine Stp.out ?_) | refine store_row0 rfl rfl 43 _ _ rfl q #[.int .u64 0, .int .u64 0, .string ⟨#[]⟩, .string ⟨#[]⟩, .string ⟨#[]⟩, .string ⟨#[]⟩, .string ⟨#[]⟩, .int .u64 0, .slice none 0 0, .slice none 0 0, .string ⟨#[]⟩, .slice none 0 0, .int .u64 0, .int .u64 0, .string ⟨#[]⟩, .string ⟨#[]⟩, .string ⟨#[]⟩, .string ⟨#[]⟩, .string ⟨#[]⟩, .int .u64 0, .slice none 0 0, .slice none 0 0, .int .u64 0, .string ⟨#[]⟩, .int .u64 0] (by kernel_rfl) (by kernel_rfl) 43 _ gX (by kernel_rfl) rfl (by simp [Value.oneCell']) ?_)
        refine Stp.mk ?_
        refine bodyPost_ret (results_row2 rfl _ _ q 43 #[.int .u64 0, .int .u64 0, .string ⟨#[]⟩, .string ⟨#[]⟩, .string ⟨#[]⟩, .string ⟨#[]⟩, .string ⟨#[]⟩, .int .u64 0, .slice none 0 0, .slice none 0 0, .string ⟨#[]⟩, .slice none 0 0, .int .u64 0, .int .u64 0, .string ⟨#[]⟩, .string ⟨#[]⟩, .string ⟨#[]⟩, .string ⟨#[]⟩, .string ⟨#[]⟩, .int .u64 0, .slice none 0 0, .slice none 0 0, .int .u64 0, .string ⟨#[]⟩, .int .u64 0] (0, 0) _ (by kernel_rfl) (setRow_heap _ _ _ _ _ _ gX) Tryd.underlying43 rfl (by kernel_rfl) (.int .i64 130) (by kernel_rfl)) rfl ?_
        refine ⟨by rw [HQ.out]; exact below_setRow (HB.out w4 (HC.out w4 HG.out).out.1).out.1 (Nat.le_refl _) _, zUp, 130, none, none, none, none, none, 0, 0, 0, 0, 0, .inr ⟨rfl, rfl, fun g hg hdec => HE.out g hg (decD_one HQD.out hdec)⟩, rfl, .inl rfl, .inl rfl, .inl rfl, .inl rfl, .inl rfl⟩
      | false =>
        clear i0 i19
        obtain ⟨i0, i1, i2, i3, -, -, -, -, -, -, -, -, -, -, -, -, -, -, -, i19, -, -, -, -, -⟩ := (HI.out w4 D4).out
        go_wp2_with fail
        generalize (Value.tuple #[Value.agg #[Value.bool true, Value.string t, Value.slice (some ⟨b0, o0, none⟩) 8 c], Value.int .i64 0]) = zd
        generalize (Value.agg #[Value.bool true, Value.string t, Value.slice (some ⟨b0, o0, none⟩) 8 c]) = ze
        refine (K0 w4 (HC.out w4 D4).out.2.1).mono ?_
        rintro r v0 ⟨B5, ⟨ds0, du0, dp0, dt0, dy0, de0, dr0, dm0, dw0⟩, bo0, la0, lc0, hS, rfl, hs⟩
        have E0 := D4.trans (B5.mono D4.size)
        obtain ⟨nn0, hnn⟩ : ∃ N, dw0.length = N := ⟨_, rfl⟩
        simp only [ltV, hnn]
        have hlo := (HB.out w4 (HC.out w4 D4).out.1).out.2.2
        have HS0 : Hid (_ ∧ _ ∧ _ ∧ _) := ⟨hS, slP_of (Q := fun b => q + 1 ≤ b ∧ b < v0.heap.size) (fun b hb => ⟨⟨by omega, hb.2⟩, fun _ => rfl⟩) hs, hnn, B5⟩
        have P0 : Below v0.heap.size v0 v0 := Below.refl _ _
        clear hlo
        obtain ⟨u0, hu0⟩ : ∃ W, v0.alloc (.cells #[.int .u64 (ds0 : Int), .int .u64 (du0 : Int), .string dp0, .string dt0, .string dy0, .string de0, .string dr0, .int .u64 (dm0 : Int), .slice la0 nn0 lc0] 29) = W := ⟨_, rfl⟩
        have F0 : Below w3.heap.size w3 u0 := by rw [← hu0]; exact E0.alloc E0.size _
        have hb0 : u0.heap[v0.heap.size]? = some (.cells #[.int .u64 (ds0 : Int), .int .u64 (du0 : Int), .string dp0, .string dt0, .string dy0, .string de0, .string dr0, .int .u64 (dm0 : Int), .slice la0 nn0 lc0] 29 (0, 0)) := by rw [← hu0]; exact World.alloc_heap_new v0 _
        have hl0 : v0.heap.size < u0.heap.size := by rw [← hu0]; simp
        have HBX0 : Hid (∀ W : World, Below u0.heap.size u0 W → W.heap[v0.heap.size]? = some (.cells #[.int .u64 (ds0 : Int), .int .u64 (du0 : Int), .string dp0, .string dt0, .string dy0, .string de0, .string dr0, .int .u64 (dm0 : Int), .slice la0 nn0 lc0] 29 (0, 0))) := fun W hB => (hB.block _ hl0).trans hb0
        have HVB0 : Hid (Below v0.heap.size v0 u0) := by rw [← hu0]; exact be_new _ _
        have G0 : Below u0.heap.size u0 u0 := Below.refl _ _
        clear B5 D4 E0 hS hs hnn K0 hb0 hl0 i0 i1 i2 i3 i19
        replace P0 := P0.trans HVB0.out
        obtain ⟨i0, -, -, -, i4, i5, i6, -, -, -, -, -, -, -, -, -, -, -, -, -, -, -, -, -, -⟩ := (HI.out u0 F0).out
        go_wp2_with fail
        first | rw [hu0] | skip
        clear hu0
        generalize (Value.tuple #[Value.agg #[Value.int .u64 (ds0 : Int), Value.int .u64 (du0 : Int), Value.string dp0, Value.string dt0, Value.string dy0, Value.string de0, Value.string dr0, Value.int .u64 (dm0 : Int), Value.slice la0 nn0 lc0], Value.bool bo0]) = zt0
        generalize (Value.agg #[Value.int .u64 (ds0 : Int), Value.int .u64 (du0 : Int), Value.string dp0, Value.string dt0, Value.string dy0, Value.string de0, Value.string dr0, Value.int .u64 (dm0 : Int), Value.slice la0 nn0 lc0]) = za0
        generalize (Value.agg #[Value.bool l0, Value.string t0, Value.slice a0 N0 c0]) = zi0
        refine (K1 u0 (HC.out u0 F0).out.2.1).mono ?_
        rintro r v1 ⟨B5, ⟨dw1, dm1⟩, bo1, la1, lc1, hS, rfl, hs⟩
        have E1 := F0.trans (B5.mono F0.size)
        obtain ⟨nn1, hnn⟩ : ∃ N, dw1.length = N := ⟨_, rfl⟩
        simp only [cmV, hnn]
        have hlo := (HB.out u0 (HC.out u0 F0).out.1).out.2.2
        have HS1 : Hid (_ ∧ _ ∧ _ ∧ _) := ⟨hS, slP_of (Q := fun b => q + 1 ≤ b ∧ b < v1.heap.size) (fun b hb => ⟨⟨by omega, hb.2⟩, fun _ => rfl⟩) hs, hnn, B5⟩
        have P1 : Below v1.heap.size v1 v1 := Below.refl _ _
        clear hlo
        obtain ⟨u1, hu1⟩ : ∃ W, v1.alloc (.cells #[.slice la1 nn1 lc1, .string dm1] 31) = W := ⟨_, rfl⟩
        have F1 : Below w3.heap.size w3 u1 := by rw [← hu1]; exact E1.alloc E1.size _
        have hb1 : u1.heap[v1.heap.size]? = some (.cells #[.slice la1 nn1 lc1, .string dm1] 31 (0, 0)) := by rw [← hu1]; exact World.alloc_heap_new v1 _
        have hl1 : v1.heap.size < u1.heap.size := by rw [← hu1]; simp
        have HBX1 : Hid (∀ W : World, Below u1.heap.size u1 W → W.heap[v1.heap.size]? = some (.cells #[.slice la1 nn1 lc1, .string dm1] 31 (0, 0))) := fun W hB => (hB.block _ hl1).trans hb1
        have HVB1 : Hid (Below v1.heap.size v1 u1) := by rw [← hu1]; exact be_new _ _
        have G1 : Below u1.heap.size u1 u1 := Below.refl _ _
        clear B5 F0 E1 hS hs hnn K1 hb1 hl1 i0 i4 i5 i6
        replace G0 := G0.trans ((HS1.out.2.2.2.trans (HVB1.out.mono HS1.out.2.2.2.size)).mono G0.size)
        replace P0 := P0.trans ((HS1.out.2.2.2.trans (HVB1.out.mono HS1.out.2.2.2.size)).mono P0.size)
        replace P1 := P1.trans HVB1.out
        obtain ⟨i0, -, -, -, -, -, -, i7, i8, i9, -, -, -, -, -, -, -, -, -, -, -, -, -, -, -⟩ := (HI.out u1 F1).out
        go_wp2_with fail
        first | rw [hu1] | skip
        clear hu1
        generalize (Value.tuple #[Value.agg #[Value.slice la1 nn1 lc1, Value.string dm1], Value.bool bo1]) = zt1
        generalize (Value.agg #[Value.slice la1 nn1 lc1, Value.string dm1]) = za1
        generalize (Value.agg #[Value.bool l1, Value.string t1, Value.slice a1 N1 c1]) = zi1
        refine (K2 u1 (HC.out u1 F1).out.2.1).mono ?_
        rintro r v2 ⟨B5, dw2, bo2, la2, lc2, hS, rfl, hs⟩
        have E2 := F1.trans (B5.mono F1.size)
        obtain ⟨nn2, hnn⟩ : ∃ N, dw2.length = N := ⟨_, rfl⟩
        rw [hnn]
        have hlo := (HB.out u1 (HC.out u1 F1).out.1).out.2.2
        have HS2 : Hid (_ ∧ _ ∧ _ ∧ _) := ⟨hS, slP_of (Q := fun b => q + 1 ≤ b ∧ b < v2.heap.size) (fun b hb => ⟨⟨by omega, hb.2⟩, fun _ => rfl⟩) hs, hnn, B5⟩
        have P2 : Below v2.heap.size v2 v2 := Below.refl _ _
        clear hlo
        replace G0 := G0.trans (B5.mono G0.size)
        replace G1 := G1.trans (B5.mono G1.size)
        replace P0 := P0.trans (B5.mono P0.size)
        replace P1 := P1.trans (B5.mono P1.size)
        clear B5 F1 hS hs hnn K2 i0 i7 i8 i9
        obtain ⟨i0, -, -, -, -, -, -, -, -, -, i10, i11, i12, -, -, -, -, -, -, -, -, -, -, -, -⟩ := (HI.out v2 E2).out
        go_wp2_with fail
        generalize (Value.agg #[Value.bool l2, Value.string t2, Value.slice a2 N2 c2]) = zi2
        refine (K3 v2 (HC.out v2 E2).out.2.1).mono ?_
        rintro r v3 ⟨B5, ⟨ds3, du3, dp3, dt3, dy3, de3, dr3, dm3, dw3⟩, bo3, la3, lc3, hS, rfl, hs⟩
        have E3 := E2.trans (B5.mono E2.size)
        obtain ⟨nn3, hnn⟩ : ∃ N, dw3.length = N := ⟨_, rfl⟩
        simp only [ltV, hnn]
        have hlo := (HB.out v2 (HC.out v2 E2).out.1).out.2.2
        have HS3 : Hid (_ ∧ _ ∧ _ ∧ _) := ⟨hS, slP_of (Q := fun b => q + 1 ≤ b ∧ b < v3.heap.size) (fun b hb => ⟨⟨by omega, hb.2⟩, fun _ => rfl⟩) hs, hnn, B5⟩
        have P3 : Below v3.heap.size v3 v3 := Below.refl _ _
        clear hlo
        obtain ⟨u3, hu3⟩ : ∃ W, v3.alloc (.cells #[.int .u64 (ds3 : Int), .int .u64 (du3 : Int), .string dp3, .string dt3, .string dy3, .string de3, .string dr3, .int .u64 (dm3 : Int), .slice la3 nn3 lc3] 29) = W := ⟨_, rfl⟩
        have F3 : Below w3.heap.size w3 u3 := by rw [← hu3]; exact E3.alloc E3.size _
        have hb3 : u3.heap[v3.heap.size]? = some (.cells #[.int .u64 (ds3 : Int), .int .u64 (du3 : Int), .string dp3, .string dt3, .string dy3, .string de3, .string dr3, .int .u64 (dm3 : Int), .slice la3 nn3 lc3] 29 (0, 0)) := by rw [← hu3]; exact World.alloc_heap_new v3 _
        have hl3 : v3.heap.size < u3.heap.size := by rw [← hu3]; simp
        have HBX3 : Hid (∀ W : World, Below u3.heap.size u3 W → W.heap[v3.heap.size]? = some (.cells #[.int .u64 (ds3 : Int), .int .u64 (du3 : Int), .string dp3, .string dt3, .string dy3, .string de3, .string dr3, .int .u64 (dm3 : Int), .slice la3 nn3 lc3] 29 (0, 0))) := fun W hB => (hB.block _ hl3).trans hb3
        have HVB3 : Hid (Below v3.heap.size v3 u3) := by rw [← hu3]; exact be_new _ _
        have G3 : Below u3.heap.size u3 u3 := Below.refl _ _
        clear B5 E2 E3 hS hs hnn K3 hb3 hl3 i0 i10 i11 i12
        replace G0 := G0.trans ((HS3.out.2.2.2.trans (HVB3.out.mono HS3.out.2.2.2.size)).mono G0.size)
        replace G1 := G1.trans ((HS3.out.2.2.2.trans (HVB3.out.mono HS3.out.2.2.2.size)).mono G1.size)
        replace P0 := P0.trans ((HS3.out.2.2.2.trans (HVB3.out.mono HS3.out.2.2.2.size)).mono P0.size)
        replace P1 := P1.trans ((HS3.out.2.2.2.trans (HVB3.out.mono HS3.out.2.2.2.size)).mono P1.size)
        replace P2 := P2.trans ((HS3.out.2.2.2.trans (HVB3.out.mono HS3.out.2.2.2.size)).mono P2.size)
        replace P3 := P3.trans HVB3.out
        obtain ⟨i0, -, -, -, -, -, -, -, -, -, -, -, -, i13, i14, i15, -, -, -, -, -, -, -, -, -⟩ := (HI.out u3 F3).out
        go_wp2_with fail
        first | rw [hu3] | skip
        clear hu3
        generalize (Value.tuple #[Value.agg #[Value.int .u64 (ds3 : Int), Value.int .u64 (du3 : Int), Value.string dp3, Value.string dt3, Value.string dy3, Value.string de3, Value.string dr3, Value.int .u64 (dm3 : Int), Value.slice la3 nn3 lc3], Value.bool bo3]) = zt3
        generalize (Value.agg #[Value.int .u64 (ds3 : Int), Value.int .u64 (du3 : Int), Value.string dp3, Value.string dt3, Value.string dy3, Value.string de3, Value.string dr3, Value.int .u64 (dm3 : Int), Value.slice la3 nn3 lc3]) = za3
        generalize (Value.agg #[Value.bool l3, Value.string t3, Value.slice a3 N3 c3]) = zi3
        refine (K4 u3 (HC.out u3 F3).out.2.1).mono ?_
        rintro r v4 ⟨B5, dw4, bo4, la4, lc4, hS, rfl, hs⟩
        have E4 := F3.trans (B5.mono F3.size)
        obtain ⟨nn4, hnn⟩ : ∃ N, dw4.length = N := ⟨_, rfl⟩
        rw [hnn]
        have hlo := (HB.out u3 (HC.out u3 F3).out.1).out.2.2
        have HS4 : Hid (_ ∧ _ ∧ _ ∧ _) := ⟨hS, slP_of (Q := fun b => q + 1 ≤ b ∧ b < v4.heap.size) (fun b hb => ⟨⟨by omega, hb.2⟩, fun _ => rfl⟩) hs, hnn, B5⟩
        have P4 : Below v4.heap.size v4 v4 := Below.refl _ _
        clear hlo
        replace G0 := G0.trans (B5.mono G0.size)
        replace G1 := G1.trans (B5.mono G1.size)
        replace G3 := G3.trans (B5.mono G3.size)
        replace P0 := P0.trans (B5.mono P0.size)
        replace P1 := P1.trans (B5.mono P1.size)
        replace P2 := P2.trans (B5.mono P2.size)
        replace P3 := P3.trans (B5.mono P3.size)
        clear B5 F3 hS hs hnn K4 i0 i13 i14 i15
        obtain ⟨i0, -, -, -, -, -, -, -, -, -, -, -, -, -, -, -, i16, i17, i18, -, -, -, -, -, -⟩ := (HI.out v4 E4).out
        go_wp2_with fail
        generalize (Value.agg #[Value.bool l4, Value.string t4, Value.slice a4 N4 c4]) = zi4
        refine (K5 v4).mono ?_
        rintro r v5 ⟨rfl, B5⟩
        have E5 := E4.trans (B5.mono E4.size)
        replace G0 := G0.trans (B5.mono G0.size)
        replace G1 := G1.trans (B5.mono G1.size)
        replace G3 := G3.trans (B5.mono G3.size)
        replace P0 := P0.trans (B5.mono P0.size)
        replace P1 := P1.trans (B5.mono P1.size)
        replace P2 := P2.trans (B5.mono P2.size)
        replace P3 := P3.trans (B5.mono P3.size)
        replace P4 := P4.trans (B5.mono P4.size)
        clear B5 E4 K5 i0 i16 i17 i18
        obtain ⟨i0, -, -, -, -, -, -, -, -, -, -, -, -, -, -, -, -, -, -, -, -, -, i22, i23, i24⟩ := (HI.out v5 E5).out
        go_wp2_with fail
        generalize (Value.agg #[Value.bool l5, Value.string t5, Value.slice a5 N5 c5]) = zi5
        refine (K7 v5).mono ?_
        rintro r v7 ⟨rfl, B5⟩
        have E7 := E5.trans (B5.mono E5.size)
        replace G0 := G0.trans (B5.mono G0.size)
        replace G1 := G1.trans (B5.mono G1.size)
        replace G3 := G3.trans (B5.mono G3.size)
        replace P0 := P0.trans (B5.mono P0.size)
        replace P1 := P1.trans (B5.mono P1.size)
        replace P2 := P2.trans (B5.mono P2.size)
        replace P3 := P3.trans (B5.mono P3.size)
        replace P4 := P4.trans (B5.mono P4.size)
        clear B5 E5 K7 i0 i22 i23 i24
        by_cases hall : bo0 = true ∧ bo1 = true ∧ bo2 = true ∧ bo3 = true ∧ bo4 = true ∧ bo5 = true ∧ bo7 = true
        · obtain ⟨rfl, rfl, rfl, rfl, rfl, rfl, rfl⟩ := hall
          have gB0 := HBX0.out v7 G0
          have gB1 := HBX1.out v7 G1
          have gB3 := HBX3.out v7 G3
          have HX : Hid (er (.mk true t (some ⟨b0, o0, none⟩) c [.mk l0 t0 a0 c0 xs0, .mk l1 t1 a1 c1 xs1, .mk l2 t2 a2 c2 xs2, .mk l3 t3 a3 c3 xs3, .mk l4 t4 a4 c4 xs4, .mk l5 t5 a5 c5 xs5, .mk false t6 a6 c6 xs6, .mk l7 t7 a7 c7 xs7]) = upI (⟨⟨ds0, du0, dp0, dt0, dy0, de0, dr0, dm0, dw0⟩, ⟨dw1, dm1⟩, dw2, ⟨ds3, du3, dp3, dt3, dy3, de3, dr3, dm3, dw3⟩, dw4, nv5, t6, nv7⟩ : UpD)) := by
            show It.mk true t [er (.mk l0 t0 a0 c0 xs0), er (.mk l1 t1 a1 c1 xs1), er (.mk l2 t2 a2 c2 xs2), er (.mk l3 t3 a3 c3 xs3), er (.mk l4 t4 a4 c4 xs4), er (.mk l5 t5 a5 c5 xs5), er (.mk false t6 a6 c6 xs6), er (.mk l7 t7 a7 c7 xs7)] = _
            rw [HRX.out.1, (lts_yes HS0.out.1).2, cms_yes HS1.out.1, (ts_read HRX.out.2.2.2.1 HS2.out.1).1 rfl, (lts_yes HS3.out.1).2, (ts_read HRX.out.2.2.2.2.2.1 HS4.out.1).1 rfl, num_yes HRX.out.2.2.2.2.2.2.1 HS5.out.2, er_txt HRX.out.2.2.2.2.2.2.2.1 rfl, num_yes HRX.out.2.2.2.2.2.2.2.2 HS7.out.2]
            show _ = lsI _
            rw [← HS5.out.1, ← HS7.out.1]
            rfl
          have HPS : Hid (_ ∧ _ ∧ _ ∧ _ ∧ _) := ⟨P0, P1, P2, P3, P4⟩
          have y0_0 := cell_regrown (show v7.cell? ⟨v0.heap.size, 0, none⟩ = some (.int .u64 (ds0 : Int)) by rw [Lib.cell_of_heap gB0]; rfl)
          have y0_1 := cell_regrown (show v7.cell? ⟨v0.heap.size, 1, none⟩ = some (.int .u64 (du0 : Int)) by rw [Lib.cell_of_heap gB0]; rfl)
          have y0_2 := cell_regrown (show v7.cell? ⟨v0.heap.size, 2, none⟩ = some (.string dp0) by rw [Lib.cell_of_heap gB0]; rfl)
          have y0_3 := cell_regrown (show v7.cell? ⟨v0.heap.size, 3, none⟩ = some (.string dt0) by rw [Lib.cell_of_heap gB0]; rfl)
          have y0_4 := cell_regrown (show v7.cell? ⟨v0.heap.size, 4, none⟩ = some (.string dy0) by rw [Lib.cell_of_heap gB0]; rfl)
          have y0_5 := cell_regrown (show v7.cell? ⟨v0.heap.size, 5, none⟩ = some (.string de0) by rw [Lib.cell_of_heap gB0]; rfl)
          have y0_6 := cell_regrown (show v7.cell? ⟨v0.heap.size, 6, none⟩ = some (.string dr0) by rw [Lib.cell_of_heap gB0]; rfl)
          have y0_7 := cell_regrown (show v7.cell? ⟨v0.heap.size, 7, none⟩ = some (.int .u64 (dm0 : Int)) by rw [Lib.cell_of_heap gB0]; rfl)
          have y0_8 := cell_regrown (show v7.cell? ⟨v0.heap.size, 8, none⟩ = some (.slice la0 nn0 lc0) by rw [Lib.cell_of_heap gB0]; rfl)
          have y1_0 := cell_regrown (show v7.cell? ⟨v1.heap.size, 0, none⟩ = some (.slice la1 nn1 lc1) by rw [Lib.cell_of_heap gB1]; rfl)
          have y1_1 := cell_regrown (show v7.cell? ⟨v1.heap.size, 1, none⟩ = some (.string dm1) by rw [Lib.cell_of_heap gB1]; rfl)
          have y3_0 := cell_regrown (show v7.cell? ⟨v3.heap.size, 0, none⟩ = some (.int .u64 (ds3 : Int)) by rw [Lib.cell_of_heap gB3]; rfl)
          have y3_1 := cell_regrown (show v7.cell? ⟨v3.heap.size, 1, none⟩ = some (.int .u64 (du3 : Int)) by rw [Lib.cell_of_heap gB3]; rfl)
          have y3_2 := cell_regrown (show v7.cell? ⟨v3.heap.size, 2, none⟩ = some (.string dp3) by rw [Lib.cell_of_heap gB3]; rfl)
          have y3_3 := cell_regrown (show v7.cell? ⟨v3.heap.size, 3, none⟩ = some (.string dt3) by rw [Lib.cell_of_heap gB3]; rfl)
          have y3_4 := cell_regrown (show v7.cell? ⟨v3.heap.size, 4, none⟩ = some (.string dy3) by rw [Lib.cell_of_heap gB3]; rfl)
          have y3_5 := cell_regrown (show v7.cell? ⟨v3.heap.size, 5, none⟩ = some (.string de3) by rw [Lib.cell_of_heap gB3]; rfl)
          have y3_6 := cell_regrown (show v7.cell? ⟨v3.heap.size, 6, none⟩ = some (.string dr3) by rw [Lib.cell_of_heap gB3]; rfl)
          have y3_7 := cell_regrown (show v7.cell? ⟨v3.heap.size, 7, none⟩ = some (.int .u64 (dm3 : Int)) by rw [Lib.cell_of_heap gB3]; rfl)
          have y3_8 := cell_regrown (show v7.cell? ⟨v3.heap.size, 8, none⟩ = some (.slice la3 nn3 lc3) by rw [Lib.cell_of_heap gB3]; rfl)
          obtain ⟨i0, -, -, -, -, -, -, -, -, -, -, -, -, -, -, -, -, -, -, -, i20, -, -, -, -⟩ := (HI.out v7 E7).out
          have y9_0 := cell_regrown i0
          have y9_1 := cell_regrown i20
          have gX := (HB.out v7 (HC.out v7 E7).out.1).out.2.1
          have HGX : Hid (_ ∧ _) := ⟨gX, E7⟩
          have HRX0 : Hid _ := HRX.out
          clear gX i0 i20 E7 HI HR HRX gB0 G0 HBX0 HVB0 gB1 G1 HBX1 HVB1 gB3 G3 HBX3 HVB3 P0 P1 P2 P3 P4
          go_wp2_with fail
          refine region_tail 13 (by kernel_rfl) (by kernel_rfl) ?_
          simp only [List.take_succ_cons, List.take_zero, List.drop_succ_cons, List.drop_zero]
          iterate 13 (go_big_quiet_step (fail))
          refine wpQuiet_nil ?_
          intro wB hwB
          have hbB : Below v7.heap.size v7 wB := by
            obtain ⟨p, rfl⟩ := hwB
            exact below_regrown _ _ _
          obtain ⟨gX0, HG0⟩ := HGX.out
          have HG : Hid (Below w3.heap.size w3 wB ∧ Below v7.heap.size v7 wB) := ⟨HG0.trans (hbB.mono HG0.size), hbB⟩
          have gX := (HB.out wB (HC.out wB HG.out.1).out.1).out.2.1
          clear gX0 HG0 hbB hwB HGX y0_0 y0_1 y0_2 y0_3 y0_4 y0_5 y0_6 y0_7 y0_8 y1_0 y1_1 y3_0 y3_1 y3_2 y3_3 y3_4 y3_5 y3_6 y3_7 y3_8 y9_0 y9_1
          refine store_row0 rfl rfl 43 _ _ rfl q #[.int .u64 (ds0 : Int), .int .u64 (du0 : Int), .string dp0, .string dt0, .string dy0, .string de0, .string dr0, .int .u64 (dm0 : Int), .slice la0 nn0 lc0, .slice la1 nn1 lc1, .string dm1, .slice la2 nn2 lc2, .int .u64 (ds3 : Int), .int .u64 (du3 : Int), .string dp3, .string dt3, .string dy3, .string de3, .string dr3, .int .u64 (dm3 : Int), .slice la3 nn3 lc3, .slice la4 nn4 lc4, .int .u64 (nv5 : Int), .string t6, .int .u64 (nv7 : Int)] (by kernel_rfl) (by kernel_rfl) 43 _ gX (by kernel_rfl) rfl (by simp [Value.oneCell']) ?_
          go_wp2_with (with_reducible show bodyPost _ _ _ _ _ _; refine Stp.out ?_)
          refine Stp.mk ?_
          refine bodyPost_ret (results_row2 rfl _ _ q 43 #[.int .u64 (ds0 : Int), .int .u64 (du0 : Int), .string dp0, .string dt0, .string dy0, .string de0, .string dr0, .int .u64 (dm0 : Int), .slice la0 nn0 lc0, .slice la1 nn1 lc1, .string dm1, .slice la2 nn2 lc2, .int .u64 (ds3 : Int), .int .u64 (du3 : Int), .string dp3, .string dt3, .string dy3, .string de3, .string dr3, .int .u64 (dm3 : Int), .slice la3 nn3 lc3, .slice la4 nn4 lc4, .int .u64 (nv5 : Int), .string t6, .int .u64 (nv7 : Int)] (0, 0) _ (by kernel_rfl) (setRow_heap _ _ _ _ _ _ gX) Tryd.underlying43 rfl (by kernel_rfl) (.int .i64 0) (by kernel_rfl)) rfl ?_
          have key : ∀ (v : World) (a : Option Addr) (ts : List ByteArray) (cs : Array Value), slP (fun b => q + 1 ≤ b ∧ b < v.heap.size) v a ts → Below v.heap.size v wB → slS (wB.setRow q cs).heap.size (wB.setRow q cs) a ts := fun v a ts cs h hv => by
            refine slS_slP (slP_of (Q := fun b => b < wB.heap.size) (fun b hb => ⟨Nat.lt_of_lt_of_le hb.2 hv.size, fun k => (cell_setRow_other _ _ _ _ (by show b ≠ q; omega)).trans (hv.cell (p := ⟨b, k, none⟩) hb.2)⟩) h) (fun b hb => ?_)
            rw [setRow_size]
            exact hb
          refine ⟨by rw [HQ.out]; exact below_setRow (HB.out wB (HC.out wB HG.out.1).out.1).out.1 (Nat.le_refl _) _, ⟨⟨ds0, du0, dp0, dt0, dy0, de0, dr0, dm0, dw0⟩, ⟨dw1, dm1⟩, dw2, ⟨ds3, du3, dp3, dt3, dy3, de3, dr3, dm3, dw3⟩, dw4, nv5, t6, nv7⟩, 0, la0, la1, la2, la3, la4, lc0, lc1, lc2, lc3, lc4, .inl ⟨rfl, ⟨(lts_yes HS0.out.1).1, (lts_yes HS3.out.1).1, by rw [← HS5.out.1]; exact vN_lt _, by rw [← HS7.out.1]; exact vN_lt _⟩, by rw [← HX.out]; exact HQD.out⟩, by rw [← HS0.out.2.2.1, ← HS1.out.2.2.1, ← HS2.out.2.2.1, ← HS3.out.2.2.1, ← HS4.out.2.2.1]; rfl, key _ _ _ _ HS0.out.2.1 (HPS.out.1.trans (HG.out.2.mono (HPS.out.1).size)), key _ _ _ _ HS1.out.2.1 (HPS.out.2.1.trans (HG.out.2.mono (HPS.out.2.1).size)), key _ _ _ _ HS2.out.2.1 (HPS.out.2.2.1.trans (HG.out.2.mono (HPS.out.2.2.1).size)), key _ _ _ _ HS3.out.2.1 (HPS.out.2.2.2.1.trans (HG.out.2.mono (HPS.out.2.2.2.1).size)), key _ _ _ _ HS4.out.2.1 (HPS.out.2.2.2.2.trans (HG.out.2.mono (HPS.out.2.2.2.2).size))⟩
        · cases bo0 with
          | false =>
            clear G0 G1 G3 P0 P1 P2 P3 P4
            have gX := (HB.out v7 (HC.out v7 E7).out.1).out.2.1
            have HG : Hid _ := E7
            have HE : Hid (∀ g : UpD, g.ok → er (.mk true t (some ⟨b0, o0, none⟩) c [.mk l0 t0 a0 c0 xs0, .mk l1 t1 a1 c1 xs1, .mk l2 t2 a2 c2 xs2, .mk l3 t3 a3 c3 xs3, .mk l4 t4 a4 c4 xs4, .mk l5 t5 a5 c5 xs5, .mk false t6 a6 c6 xs6, .mk l7 t7 a7 c7 xs7]) ≠ upI g) := fun g hg e => by
              have h := (up_shape e).2
              simp only [Im.xs, ers, List.cons.injEq] at h
              exact lts_no HS0.out.1 g.l hg.1 h.1
            clear E7
            clear HI HR HRX HP hpw HN HS0 HS1 HS2 HS3 HS4 HS5 HS7 HBX0 HVB0 HBX1 HVB1 HBX3 HVB3
            go_wp2_with (first | (with_reducible show bodyPost _ _ _ _ _ _; refine Stp.out ?_) | refine store_row0 rfl rfl 43 _ _ rfl q #[.int .u64 0, .int .u64 0, .string ⟨#[]⟩, .string ⟨#[]⟩, .string ⟨#[]⟩, .string ⟨#[]⟩, .string ⟨#[]⟩, .int .u64 0, .slice none 0 0, .slice none 0 0, .string ⟨#[]⟩, .slice none 0 0, .int .u64 0, .int .u64 0, .string ⟨#[]⟩, .string ⟨#[]⟩, .string ⟨#[]⟩, .string ⟨#[]⟩, .string ⟨#[]⟩, .int .u64 0, .slice none 0 0, .slice none 0 0, .int .u64 0, .string ⟨#[]⟩, .int .u64 0] (by kernel_rfl) (by kernel_rfl) 43 _ gX (by kernel_rfl) rfl (by simp [Value.oneCell']) ?_)
            refine Stp.mk ?_
            refine bodyPost_ret (results_row2 rfl _ _ q 43 #[.int .u64 0, .int .u64 0, .string ⟨#[]⟩, .string ⟨#[]⟩, .string ⟨#[]⟩, .string ⟨#[]⟩, .string ⟨#[]⟩, .int .u64 0, .slice none 0 0, .slice none 0 0, .string ⟨#[]⟩, .slice none 0 0, .int .u64 0, .int .u64 0, .string ⟨#[]⟩, .string ⟨#[]⟩, .string ⟨#[]⟩, .string ⟨#[]⟩, .string ⟨#[]⟩, .int .u64 0, .slice none 0 0, .slice none 0 0, .int .u64 0, .string ⟨#[]⟩, .int .u64 0] (0, 0) _ (by kernel_rfl) (setRow_heap _ _ _ _ _ _ gX) Tryd.underlying43 rfl (by kernel_rfl) (.int .i64 130) (by kernel_rfl)) rfl ?_
            refine ⟨by rw [HQ.out]; exact below_setRow (HB.out v7 (HC.out v7 HG.out).out.1).out.1 (Nat.le_refl _) _, zUp, 130, none, none, none, none, none, 0, 0, 0, 0, 0, .inr ⟨rfl, rfl, fun g hg hdec => HE.out g hg (decD_one HQD.out hdec)⟩, rfl, .inl rfl, .inl rfl, .inl rfl, .inl rfl, .inl rfl⟩
          | true =>
            cases bo1 with
            | false =>
              clear G0 G1 G3 P0 P1 P2 P3 P4
              have gX := (HB.out v7 (HC.out v7 E7).out.1).out.2.1
              have HG : Hid _ := E7
              have HE : Hid (∀ g : UpD, g.ok → er (.mk true t (some ⟨b0, o0, none⟩) c [.mk l0 t0 a0 c0 xs0, .mk l1 t1 a1 c1 xs1, .mk l2 t2 a2 c2 xs2, .mk l3 t3 a3 c3 xs3, .mk l4 t4 a4 c4 xs4, .mk l5 t5 a5 c5 xs5, .mk false t6 a6 c6 xs6, .mk l7 t7 a7 c7 xs7]) ≠ upI g) := fun g hg e => by
                have h := (up_shape e).2
                simp only [Im.xs, ers, List.cons.injEq] at h
                exact cms_no HS1.out.1 _ h.2.1
              clear E7
              clear HI HR HRX HP hpw HN HS0 HS1 HS2 HS3 HS4 HS5 HS7 HBX0 HVB0 HBX1 HVB1 HBX3 HVB3
              go_wp2_with (first | (with_reducible show bodyPost _ _ _ _ _ _; refine Stp.out ?_) | refine store_row0 rfl rfl 43 _ _ rfl q #[.int .u64 0, .int .u64 0, .string ⟨#[]⟩, .string ⟨#[]⟩, .string ⟨#[]⟩, .string ⟨#[]⟩, .string ⟨#[]⟩, .int .u64 0, .slice none 0 0, .slice none 0 0, .string ⟨#[]⟩, .slice none 0 0, .int .u64 0, .int .u64 0, .string ⟨#[]⟩, .string ⟨#[]⟩, .string ⟨#[]⟩, .string ⟨#[]⟩, .string ⟨#[]⟩, .int .u64 0, .slice none 0 0, .slice none 0 0, .int .u64 0, .string ⟨#[]⟩, .int .u64 0] (by kernel_rfl) (by kernel_rfl) 43 _ gX (by kernel_rfl) rfl (by simp [Value.oneCell']) ?_)
              refine Stp.mk ?_
              refine bodyPost_ret (results_row2 rfl _ _ q 43 #[.int .u64 0, .int .u64 0, .string ⟨#[]⟩, .string ⟨#[]⟩, .string ⟨#[]⟩, .string ⟨#[]⟩, .string ⟨#[]⟩, .int .u64 0, .slice none 0 0, .slice none 0 0, .string ⟨#[]⟩, .slice none 0 0, .int .u64 0, .int .u64 0, .string ⟨#[]⟩, .string ⟨#[]⟩, .string ⟨#[]⟩, .string ⟨#[]⟩, .string ⟨#[]⟩, .int .u64 0, .slice none 0 0, .slice none 0 0, .int .u64 0, .string ⟨#[]⟩, .int .u64 0] (0, 0) _ (by kernel_rfl) (setRow_heap _ _ _ _ _ _ gX) Tryd.underlying43 rfl (by kernel_rfl) (.int .i64 130) (by kernel_rfl)) rfl ?_
              refine ⟨by rw [HQ.out]; exact below_setRow (HB.out v7 (HC.out v7 HG.out).out.1).out.1 (Nat.le_refl _) _, zUp, 130, none, none, none, none, none, 0, 0, 0, 0, 0, .inr ⟨rfl, rfl, fun g hg hdec => HE.out g hg (decD_one HQD.out hdec)⟩, rfl, .inl rfl, .inl rfl, .inl rfl, .inl rfl, .inl rfl⟩
            | true =>
              cases bo2 with
              | false =>
                clear G0 G1 G3 P0 P1 P2 P3 P4
                have gX := (HB.out v7 (HC.out v7 E7).out.1).out.2.1
                have HG : Hid _ := E7
                have HE : Hid (∀ g : UpD, g.ok → er (.mk true t (some ⟨b0, o0, none⟩) c [.mk l0 t0 a0 c0 xs0, .mk l1 t1 a1 c1 xs1, .mk l2 t2 a2 c2 xs2, .mk l3 t3 a3 c3 xs3, .mk l4 t4 a4 c4 xs4, .mk l5 t5 a5 c5 xs5, .mk false t6 a6 c6 xs6, .mk l7 t7 a7 c7 xs7]) ≠ upI g) := fun g hg e => by
                  have h := (up_shape e).2
                  simp only [Im.xs, ers, List.cons.injEq] at h
                  exact (ts_read HRX.out.2.2.2.1 HS2.out.1).2 rfl _ h.2.2.1
                clear E7
                clear HI HR HRX HP hpw HN HS0 HS1 HS2 HS3 HS4 HS5 HS7 HBX0 HVB0 HBX1 HVB1 HBX3 HVB3
                go_wp2_with (first | (with_reducible show bodyPost _ _ _ _ _ _; refine Stp.out ?_) | refine store_row0 rfl rfl 43 _ _ rfl q #[.int .u64 0, .int .u64 0, .string ⟨#[]⟩, .string ⟨#[]⟩, .string ⟨#[]⟩, .string ⟨#[]⟩, .string ⟨#[]⟩, .int .u64 0, .slice none 0 0, .slice none 0 0, .string ⟨#[]⟩, .slice none 0 0, .int .u64 0, .int .u64 0, .string ⟨#[]⟩, .string ⟨#[]⟩, .string ⟨#[]⟩, .string ⟨#[]⟩, .string ⟨#[]⟩, .int .u64 0, .slice none 0 0, .slice none 0 0, .int .u64 0, .string ⟨#[]⟩, .int .u64 0] (by kernel_rfl) (by kernel_rfl) 43 _ gX (by kernel_rfl) rfl (by simp [Value.oneCell']) ?_)
                refine Stp.mk ?_
                refine bodyPost_ret (results_row2 rfl _ _ q 43 #[.int .u64 0, .int .u64 0, .string ⟨#[]⟩, .string ⟨#[]⟩, .string ⟨#[]⟩, .string ⟨#[]⟩, .string ⟨#[]⟩, .int .u64 0, .slice none 0 0, .slice none 0 0, .string ⟨#[]⟩, .slice none 0 0, .int .u64 0, .int .u64 0, .string ⟨#[]⟩, .string ⟨#[]⟩, .string ⟨#[]⟩, .string ⟨#[]⟩, .string ⟨#[]⟩, .int .u64 0, .slice none 0 0, .slice none 0 0, .int .u64 0, .string ⟨#[]⟩, .int .u64 0] (0, 0) _ (by kernel_rfl) (setRow_heap _ _ _ _ _ _ gX) Tryd.underlying43 rfl (by kernel_rfl) (.int .i64 130) (by kernel_rfl)) rfl ?_
                refine ⟨by rw [HQ.out]; exact below_setRow (HB.out v7 (HC.out v7 HG.out).out.1).out.1 (Nat.le_refl _) _, zUp, 130, none, none, none, none, none, 0, 0, 0, 0, 0, .inr ⟨rfl, rfl, fun g hg hdec => HE.out g hg (decD_one HQD.out hdec)⟩, rfl, .inl rfl, .inl rfl, .inl rfl, .inl rfl, .inl rfl⟩
              | true =>
                cases bo3 with
                | false =>
                  clear G0 G1 G3 P0 P1 P2 P3 P4
                  have gX := (HB.out v7 (HC.out v7 E7).out.1).out.2.1
                  have HG : Hid _ := E7
                  have HE : Hid (∀ g : UpD, g.ok → er (.mk true t (some ⟨b0, o0, none⟩) c [.mk l0 t0 a0 c0 xs0, .mk l1 t1 a1 c1 xs1, .mk l2 t2 a2 c2 xs2, .mk l3 t3 a3 c3 xs3, .mk l4 t4 a4 c4 xs4, .mk l5 t5 a5 c5 xs5, .mk false t6 a6 c6 xs6, .mk l7 t7 a7 c7 xs7]) ≠ upI g) := fun g hg e => by
                    have h := (up_shape e).2
                    simp only [Im.xs, ers, List.cons.injEq] at h
                    exact lts_no HS3.out.1 g.f hg.2.1 h.2.2.2.1
                  clear E7
                  clear HI HR HRX HP hpw HN HS0 HS1 HS2 HS3 HS4 HS5 HS7 HBX0 HVB0 HBX1 HVB1 HBX3 HVB3
                  go_wp2_with (first | (with_reducible show bodyPost _ _ _ _ _ _; refine Stp.out ?_) | refine store_row0 rfl rfl 43 _ _ rfl q #[.int .u64 0, .int .u64 0, .string ⟨#[]⟩, .string ⟨#[]⟩, .string ⟨#[]⟩, .string ⟨#[]⟩, .string ⟨#[]⟩, .int .u64 0, .slice none 0 0, .slice none 0 0, .string ⟨#[]⟩, .slice none 0 0, .int .u64 0, .int .u64 0, .string ⟨#[]⟩, .string ⟨#[]⟩, .string ⟨#[]⟩, .string ⟨#[]⟩, .string ⟨#[]⟩, .int .u64 0, .slice none 0 0, .slice none 0 0, .int .u64 0, .string ⟨#[]⟩, .int .u64 0] (by kernel_rfl) (by kernel_rfl) 43 _ gX (by kernel_rfl) rfl (by simp [Value.oneCell']) ?_)
                  refine Stp.mk ?_
                  refine bodyPost_ret (results_row2 rfl _ _ q 43 #[.int .u64 0, .int .u64 0, .string ⟨#[]⟩, .string ⟨#[]⟩, .string ⟨#[]⟩, .string ⟨#[]⟩, .string ⟨#[]⟩, .int .u64 0, .slice none 0 0, .slice none 0 0, .string ⟨#[]⟩, .slice none 0 0, .int .u64 0, .int .u64 0, .string ⟨#[]⟩, .string ⟨#[]⟩, .string ⟨#[]⟩, .string ⟨#[]⟩, .string ⟨#[]⟩, .int .u64 0, .slice none 0 0, .slice none 0 0, .int .u64 0, .string ⟨#[]⟩, .int .u64 0] (0, 0) _ (by kernel_rfl) (setRow_heap _ _ _ _ _ _ gX) Tryd.underlying43 rfl (by kernel_rfl) (.int .i64 130) (by kernel_rfl)) rfl ?_
                  refine ⟨by rw [HQ.out]; exact below_setRow (HB.out v7 (HC.out v7 HG.out).out.1).out.1 (Nat.le_refl _) _, zUp, 130, none, none, none, none, none, 0, 0, 0, 0, 0, .inr ⟨rfl, rfl, fun g hg hdec => HE.out g hg (decD_one HQD.out hdec)⟩, rfl, .inl rfl, .inl rfl, .inl rfl, .inl rfl, .inl rfl⟩
                | true =>
                  cases bo4 with
                  | false =>
                    clear G0 G1 G3 P0 P1 P2 P3 P4
                    have gX := (HB.out v7 (HC.out v7 E7).out.1).out.2.1
                    have HG : Hid _ := E7
                    have HE : Hid (∀ g : UpD, g.ok → er (.mk true t (some ⟨b0, o0, none⟩) c [.mk l0 t0 a0 c0 xs0, .mk l1 t1 a1 c1 xs1, .mk l2 t2 a2 c2 xs2, .mk l3 t3 a3 c3 xs3, .mk l4 t4 a4 c4 xs4, .mk l5 t5 a5 c5 xs5, .mk false t6 a6 c6 xs6, .mk l7 t7 a7 c7 xs7]) ≠ upI g) := fun g hg e => by
                      have h := (up_shape e).2
                      simp only [Im.xs, ers, List.cons.injEq] at h
                      exact (ts_read HRX.out.2.2.2.2.2.1 HS4.out.1).2 rfl _ h.2.2.2.2.1
                    clear E7
                    clear HI HR HRX HP hpw HN HS0 HS1 HS2 HS3 HS4 HS5 HS7 HBX0 HVB0 HBX1 HVB1 HBX3 HVB3
                    go_wp2_with (first | (with_reducible show bodyPost _ _ _ _ _ _; refine Stp.out ?_) | refine store_row0 rfl rfl 43 _ _ rfl q #[.int .u64 0, .int .u64 0, .string ⟨#[]⟩, .string ⟨#[]⟩, .string ⟨#[]⟩, .string ⟨#[]⟩, .string ⟨#[]⟩, .int .u64 0, .slice none 0 0, .slice none 0 0, .string ⟨#[]⟩, .slice none 0 0, .int .u64 0, .int .u64 0, .string ⟨#[]⟩, .string ⟨#[]⟩, .string ⟨#[]⟩, .string ⟨#[]⟩, .string ⟨#[]⟩, .int .u64 0, .slice none 0 0, .slice none 0 0, .int .u64 0, .string ⟨#[]⟩, .int .u64 0] (by kernel_rfl) (by kernel_rfl) 43 _ gX (by kernel_rfl) rfl (by simp [Value.oneCell']) ?_)
                    refine Stp.mk ?_
                    refine bodyPost_ret (results_row2 rfl _ _ q 43 #[.int .u64 0, .int .u64 0, .string ⟨#[]⟩, .string ⟨#[]⟩, .string ⟨#[]⟩, .string ⟨#[]⟩, .string ⟨#[]⟩, .int .u64 0, .slice none 0 0, .slice none 0 0, .string ⟨#[]⟩, .slice none 0 0, .int .u64 0, .int .u64 0, .string ⟨#[]⟩, .string ⟨#[]⟩, .string ⟨#[]⟩, .string ⟨#[]⟩, .string ⟨#[]⟩, .int .u64 0, .slice none 0 0, .slice none 0 0, .int .u64 0, .string ⟨#[]⟩, .int .u64 0] (0, 0) _ (by kernel_rfl) (setRow_heap _ _ _ _ _ _ gX) Tryd.underlying43 rfl (by kernel_rfl) (.int .i64 130) (by kernel_rfl)) rfl ?_
                    refine ⟨by rw [HQ.out]; exact below_setRow (HB.out v7 (HC.out v7 HG.out).out.1).out.1 (Nat.le_refl _) _, zUp, 130, none, none, none, none, none, 0, 0, 0, 0, 0, .inr ⟨rfl, rfl, fun g hg hdec => HE.out g hg (decD_one HQD.out hdec)⟩, rfl, .inl rfl, .inl rfl, .inl rfl, .inl rfl, .inl rfl⟩
                  | true =>
                    cases bo5 with
                    | false =>
                      clear G0 G1 G3 P0 P1 P2 P3 P4
                      have gX := (HB.out v7 (HC.out v7 E7).out.1).out.2.1
                      have HG : Hid _ := E7
                      have HE : Hid (∀ g : UpD, g.ok → er (.mk true t (some ⟨b0, o0, none⟩) c [.mk l0 t0 a0 c0 xs0, .mk l1 t1 a1 c1 xs1, .mk l2 t2 a2 c2 xs2, .mk l3 t3 a3 c3 xs3, .mk l4 t4 a4 c4 xs4, .mk l5 t5 a5 c5 xs5, .mk false t6 a6 c6 xs6, .mk l7 t7 a7 c7 xs7]) ≠ upI g) := fun g hg e => by
                        have h := (up_shape e).2
                        simp only [Im.xs, ers, List.cons.injEq] at h
                        exact num_no HRX.out.2.2.2.2.2.2.1 HS5.out.2 g.bits hg.2.2.1 h.2.2.2.2.2.1
                      clear E7
                      clear HI HR HRX HP hpw HN HS0 HS1 HS2 HS3 HS4 HS5 HS7 HBX0 HVB0 HBX1 HVB1 HBX3 HVB3
                      go_wp2_with (first | (with_reducible show bodyPost _ _ _ _ _ _; refine Stp.out ?_) | refine store_row0 rfl rfl 43 _ _ rfl q #[.int .u64 0, .int .u64 0, .string ⟨#[]⟩, .string ⟨#[]⟩, .string ⟨#[]⟩, .string ⟨#[]⟩, .string ⟨#[]⟩, .int .u64 0, .slice none 0 0, .slice none 0 0, .string ⟨#[]⟩, .slice none 0 0, .int .u64 0, .int .u64 0, .string ⟨#[]⟩, .string ⟨#[]⟩, .string ⟨#[]⟩, .string ⟨#[]⟩, .string ⟨#[]⟩, .int .u64 0, .slice none 0 0, .slice none 0 0, .int .u64 0, .string ⟨#[]⟩, .int .u64 0] (by kernel_rfl) (by kernel_rfl) 43 _ gX (by kernel_rfl) rfl (by simp [Value.oneCell']) ?_)
                      refine Stp.mk ?_
                      refine bodyPost_ret (results_row2 rfl _ _ q 43 #[.int .u64 0, .int .u64 0, .string ⟨#[]⟩, .string ⟨#[]⟩, .string ⟨#[]⟩, .string ⟨#[]⟩, .string ⟨#[]⟩, .int .u64 0, .slice none 0 0, .slice none 0 0, .string ⟨#[]⟩, .slice none 0 0, .int .u64 0, .int .u64 0, .string ⟨#[]⟩, .string ⟨#[]⟩, .string ⟨#[]⟩, .string ⟨#[]⟩, .string ⟨#[]⟩, .int .u64 0, .slice none 0 0, .slice none 0 0, .int .u64 0, .string ⟨#[]⟩, .int .u64 0] (0, 0) _ (by kernel_rfl) (setRow_heap _ _ _ _ _ _ gX) Tryd.underlying43 rfl (by kernel_rfl) (.int .i64 130) (by kernel_rfl)) rfl ?_
                      refine ⟨by rw [HQ.out]; exact below_setRow (HB.out v7 (HC.out v7 HG.out).out.1).out.1 (Nat.le_refl _) _, zUp, 130, none, none, none, none, none, 0, 0, 0, 0, 0, .inr ⟨rfl, rfl, fun g hg hdec => HE.out g hg (decD_one HQD.out hdec)⟩, rfl, .inl rfl, .inl rfl, .inl rfl, .inl rfl, .inl rfl⟩
                    | true =>
                      cases bo7 with
                      | false =>
                        clear G0 G1 G3 P0 P1 P2 P3 P4
                        have gX := (HB.out v7 (HC.out v7 E7).out.1).out.2.1
                        have HG : Hid _ := E7
                        have HE : Hid (∀ g : UpD, g.ok → er (.mk true t (some ⟨b0, o0, none⟩) c [.mk l0 t0 a0 c0 xs0, .mk l1 t1 a1 c1 xs1, .mk l2 t2 a2 c2 xs2, .mk l3 t3 a3 c3 xs3, .mk l4 t4 a4 c4 xs4, .mk l5 t5 a5 c5 xs5, .mk false t6 a6 c6 xs6, .mk l7 t7 a7 c7 xs7]) ≠ upI g) := fun g hg e => by
                          have h := (up_shape e).2
                          simp only [Im.xs, ers, List.cons.injEq] at h
                          exact num_no HRX.out.2.2.2.2.2.2.2.2 HS7.out.2 g.slot hg.2.2.2 h.2.2.2.2.2.2.2.1
                        clear E7
                        clear HI HR HRX HP hpw HN HS0 HS1 HS2 HS3 HS4 HS5 HS7 HBX0 HVB0 HBX1 HVB1 HBX3 HVB3
                        go_wp2_with (first | (with_reducible show bodyPost _ _ _ _ _ _; refine Stp.out ?_) | refine store_row0 rfl rfl 43 _ _ rfl q #[.int .u64 0, .int .u64 0, .string ⟨#[]⟩, .string ⟨#[]⟩, .string ⟨#[]⟩, .string ⟨#[]⟩, .string ⟨#[]⟩, .int .u64 0, .slice none 0 0, .slice none 0 0, .string ⟨#[]⟩, .slice none 0 0, .int .u64 0, .int .u64 0, .string ⟨#[]⟩, .string ⟨#[]⟩, .string ⟨#[]⟩, .string ⟨#[]⟩, .string ⟨#[]⟩, .int .u64 0, .slice none 0 0, .slice none 0 0, .int .u64 0, .string ⟨#[]⟩, .int .u64 0] (by kernel_rfl) (by kernel_rfl) 43 _ gX (by kernel_rfl) rfl (by simp [Value.oneCell']) ?_)
                        refine Stp.mk ?_
                        refine bodyPost_ret (results_row2 rfl _ _ q 43 #[.int .u64 0, .int .u64 0, .string ⟨#[]⟩, .string ⟨#[]⟩, .string ⟨#[]⟩, .string ⟨#[]⟩, .string ⟨#[]⟩, .int .u64 0, .slice none 0 0, .slice none 0 0, .string ⟨#[]⟩, .slice none 0 0, .int .u64 0, .int .u64 0, .string ⟨#[]⟩, .string ⟨#[]⟩, .string ⟨#[]⟩, .string ⟨#[]⟩, .string ⟨#[]⟩, .int .u64 0, .slice none 0 0, .slice none 0 0, .int .u64 0, .string ⟨#[]⟩, .int .u64 0] (0, 0) _ (by kernel_rfl) (setRow_heap _ _ _ _ _ _ gX) Tryd.underlying43 rfl (by kernel_rfl) (.int .i64 130) (by kernel_rfl)) rfl ?_
                        refine ⟨by rw [HQ.out]; exact below_setRow (HB.out v7 (HC.out v7 HG.out).out.1).out.1 (Nat.le_refl _) _, zUp, 130, none, none, none, none, none, 0, 0, 0, 0, 0, .inr ⟨rfl, rfl, fun g hg hdec => HE.out g hg (decD_one HQD.out hdec)⟩, rfl, .inl rfl, .inl rfl, .inl rfl, .inl rfl, .inl rfl⟩
                      | true =>
                        exact absurd ⟨rfl, rfl, rfl, rfl, rfl, rfl, rfl⟩ hall
  · have he2 : (e == 0) = false := by rw [beq_eq_false_iff_ne]; exact he
    have gX := (HB.out w3 C3).out.2.1
    have HG : Hid _ := C3
    have HDN : Hid (∀ x, ¬ DecD s x) := decD_not HD.out he
    clear C3 HD
    go_wp2_with (first | (with_reducible show bodyPost _ _ _ _ _ _; refine Stp.out ?_) | refine store_row0 rfl rfl 43 _ _ rfl q #[.int .u64 0, .int .u64 0, .string ⟨#[]⟩, .string ⟨#[]⟩, .string ⟨#[]⟩, .string ⟨#[]⟩, .string ⟨#[]⟩, .int .u64 0, .slice none 0 0, .slice none 0 0, .string ⟨#[]⟩, .slice none 0 0, .int .u64 0, .int .u64 0, .string ⟨#[]⟩, .string ⟨#[]⟩, .string ⟨#[]⟩, .string ⟨#[]⟩, .string ⟨#[]⟩, .int .u64 0, .slice none 0 0, .slice none 0 0, .int .u64 0, .string ⟨#[]⟩, .int .u64 0] (by kernel_rfl) (by kernel_rfl) 43 _ gX (by kernel_rfl) rfl (by simp [Value.oneCell']) ?_)
    refine Stp.mk ?_
    refine bodyPost_ret (results_row2 rfl _ _ q 43 #[.int .u64 0, .int .u64 0, .string ⟨#[]⟩, .string ⟨#[]⟩, .string ⟨#[]⟩, .string ⟨#[]⟩, .string ⟨#[]⟩, .int .u64 0, .slice none 0 0, .slice none 0 0, .string ⟨#[]⟩, .slice none 0 0, .int .u64 0, .int .u64 0, .string ⟨#[]⟩, .string ⟨#[]⟩, .string ⟨#[]⟩, .string ⟨#[]⟩, .string ⟨#[]⟩, .int .u64 0, .slice none 0 0, .slice none 0 0, .int .u64 0, .string ⟨#[]⟩, .int .u64 0] (0, 0) _ (by kernel_rfl) (setRow_heap _ _ _ _ _ _ gX) Tryd.underlying43 rfl (by kernel_rfl) (.int .i64 130) (by kernel_rfl)) rfl ?_
    refine ⟨by rw [HQ.out]; exact below_setRow (HB.out w3 HG.out).out.1 (Nat.le_refl _) _, zUp, 130, none, none, none, none, none, 0, 0, 0, 0, 0, .inr ⟨rfl, rfl, fun g _ hdec => HDN.out _ hdec⟩, rfl, .inl rfl, .inl rfl, .inl rfl, .inl rfl, .inl rfl⟩
end Go.Proofs.YtmefanagpkbjeaaDoor
