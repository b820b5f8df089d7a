/- RlpApart's walk: bytes of an item with more behind them, or one less, are none. -/
import Derived.Test.YteaongogomhooaaQ37
namespace Go.Proofs.Yteaongogomhooaa
open Go.RowKit Go.Shelf Go.Sort

theorem apart_more {x : Im} (h : encE x = 0) (more : ByteArray) (hm : 0 < more.size) (hs : (encS x).size + more.size ≤ 65536) {y : Im} {f : Int} (hd : DecR (encS x ++ more) y f) : f = 40 := by
  rw [encE_er] at h
  have he : encS x = encI (er x) := by rw [encS_er]; unfold eS; rw [if_pos h]
  rw [he] at hd hs
  rcases hd with ⟨k1, _, _⟩ | ⟨_, _, k2, _⟩ | ⟨_, y', k2, k3⟩
  · rw [ByteArray.size_append] at k1
    omega
  · exact k2
  · exact absurd k2 (dec_more h more hm _)
theorem enc_pos (x : It) : 0 < (encI x).size := by
  rw [encI_eq]
  exact hdK_pos _ _
theorem apart_pos {x : Im} (h : encE x = 0) : 0 < (encS x).size := by
  rw [encE_er] at h
  have he : encS x = encI (er x) := by rw [encS_er]; unfold eS; rw [if_pos h]
  rw [he]
  exact enc_pos _
theorem apart_less {x : Im} (h : encE x = 0) {y : Im} {f : Int} (hd : DecR ((encS x).extract 0 ((encS x).size - 1)) y f) : f = 40 := by
  have hp := apart_pos h
  rw [encE_er] at h
  have he : encS x = encI (er x) := by rw [encS_er]; unfold eS; rw [if_pos h]
  obtain ⟨h1, h2, h3⟩ := eE_0 h
  have hdec := dec_enc h
  rw [he] at hd hp
  have hz := ext_size (encI (er x)) 0 ((encI (er x)).size - 1) (by omega)
  rcases hd with ⟨k1, _, _⟩ | ⟨_, _, k2, _⟩ | ⟨k0, y', k2, k3⟩
  · omega
  · exact k2
  · exfalso
    obtain ⟨q1, q2⟩ := enc_dec k0 k2
    have hj := join2 (encI (er x)) ((encI (er x)).size - 1) (by omega)
    have hl := ext_size (encI (er x)) ((encI (er x)).size - 1) (encI (er x)).size (Nat.le_refl _)
    rw [← hj, ← q1] at hdec
    rw [decF_succ] at hdec
    have hb := bI_le (er y')
    rw [q1] at hb
    rw [ps_enc (er y') _ (by omega), comb_cons] at hdec
    generalize (encI (er x)).extract ((encI (er x)).size - 1) (encI (er x)).size = more at *
    cases ho : one 65536 (kI (er y'), bI (er y')) with
    | none => rw [ho] at hdec; cases hdec
    | some z =>
      cases hr : comb (one 65536) (ps more) with
      | none => rw [ho, hr] at hdec; cases hdec
      | some l =>
        rw [ho, hr] at hdec
        injection hdec with hdec
        injection hdec with _ hdec
        subst hdec
        rw [ps_eq, if_neg (by omega)] at hr
        split at hr
        · cases hr
        · rw [comb_cons] at hr
          cases h7 : one 65536 ((cutK more).1, (cutK more).2.1) <;> cases h8 : comb (one 65536) (ps (cutK more).2.2) <;> rw [h7, h8] at hr <;> cases hr

set_option maxRecDepth 20000 in
set_option maxHeartbeats 2000000 in
theorem apart_any (x : Im) (more : ByteArray) (htb : tb x < 4000000) (hmo : more.size ≤ 1048576) (w : World) (hm : inMem w.heap.size w x) :
    Calls Try.prog 7 #[x.val, .string more] w fun e w' => e = .returned (.bool true) ∧ Below w.heap.size w w' := by
  have hcx := tb_cnt x
  have K0 := shown_any
  have K1 := fun n w hn hm => few_any x x (by omega) (by omega) n w hn hm hm
  have K2 := fun n w hn hm => encode_any x htb n w hn hm
  have K3 := decode_all (encS x ++ more)
  have K4 := decode_all ((encS x).extract 0 ((encS x).size - 1))
  have HP : Hid (encE x = 0 → 0 < (encS x).size ∧ (encS x).size ≤ 65536) := fun h => ⟨apart_pos h, by
    rw [encE_er] at h
    have he : encS x = encI (er x) := by rw [encS_er]; unfold eS; rw [if_pos h]
    rw [he]
    exact (eE_0 h).2.2⟩
  have HB : Hid (∀ y f, encE x = 0 → 0 < more.size → (encS x).size + more.size ≤ 65536 → DecR (encS x ++ more) y f → f = 40) := fun y f h h1 h2 hd => apart_more h more h1 h2 hd
  have HC : Hid (∀ y f, encE x = 0 → DecR ((encS x).extract 0 ((encS x).size - 1)) y f → f = 40) := fun y f h hd => apart_less h hd
  obtain ⟨s, hs⟩ : ∃ a, encS x = a := ⟨_, rfl⟩
  obtain ⟨e, he⟩ : ∃ e, encE x = e := ⟨_, rfl⟩
  rw [hs] at K2 K3 K4 HB HC HP
  rw [he] at K2 HB HC HP
  have hb0 := it_new w x
  have A0 := be_new w (.cells #[.bool x.l, .string x.t, x.sl] 24)
  have HM : Hid (inMem w.heap.size w x) := hm
  clear hm hs he hcx htb
  obtain ⟨xl, xt, xa, xc, xx⟩ := x
  dsimp only [Im.val, Im.l, Im.t, Im.sl, Im.a, Im.xs, Im.c] at K1 K2 hb0 A0 ⊢
  go_enter Try.func7, Try.ntmps7
  go_wp2_with fail
  refine (K0 _).mono ?_
  rintro e0 w1 ⟨rfl, B1⟩
  have hb1 : ItIn w.heap.size (.mk xl xt xa xc xx) w1 := (B1.block _ hb0.lt).trans hb0
  have BW := belowStep A0 A0.size B1
  clear A0 B1 hb0 K0
  have HX : Hid (∀ W, Below w.heap.size w W → w.heap.size ≤ W.heap.size ∧ inMem w.heap.size W (.mk xl xt xa xc xx)) := fun W hB => ⟨hB.size, inMem_below (Nat.le_refl _) hB _ HM.out⟩
  have q0 : w1.cell? ⟨w.heap.size, 0, none⟩ = some (.bool xl) := by rw [Lib.cell_of_heap hb1]; rfl
  have q1 : w1.cell? ⟨w.heap.size, 1, none⟩ = some (.string xt) := by rw [Lib.cell_of_heap hb1]; rfl
  have q2 : w1.cell? ⟨w.heap.size, 2, none⟩ = some (.slice xa xx.length xc) := by rw [Lib.cell_of_heap hb1]; rfl
  go_wp2_with fail
  refine (K1 _ _ (HX.out _ BW).1 (HX.out _ BW).2).mono ?_
  rintro e0 w2 ⟨⟨fw, rfl⟩, B2⟩
  have hb2 : ItIn w.heap.size (.mk xl xt xa xc xx) w2 := (B2.block _ hb1.lt).trans hb1
  replace BW := belowStep BW BW.size B2
  clear B2 q0 q1 q2 K1 hb1
  cases fw with
  | false =>
    go_wp2
    go_ret
    exact ⟨rfl, BW⟩
  | true =>
    have q0 : w2.cell? ⟨w.heap.size, 0, none⟩ = some (.bool xl) := by rw [Lib.cell_of_heap hb2]; rfl
    have q1 : w2.cell? ⟨w.heap.size, 1, none⟩ = some (.string xt) := by rw [Lib.cell_of_heap hb2]; rfl
    have q2 : w2.cell? ⟨w.heap.size, 2, none⟩ = some (.slice xa xx.length xc) := by rw [Lib.cell_of_heap hb2]; rfl
    go_wp2_with fail
    refine (K2 _ _ (HX.out _ BW).1 (HX.out _ BW).2).mono ?_
    rintro e0 w3 ⟨rfl, B3⟩
    replace BW := belowStep BW BW.size B3
    clear B3 q0 q1 q2 K2 hb2
    by_cases he : e = 0
    · subst he
      obtain ⟨hp1, hp2⟩ := HP.out rfl
      clear HP
      by_cases hmz : more.size = 0
      · have hme := empty_list more hmz
        go_wp2
        go_ret
        exact ⟨rfl, BW⟩
      · have hme := ne_empty more (by omega)
        have hw : IntKind.i64.wrap ((s.size : Int) + more.size) = (s.size : Int) + more.size := by rw [IntKind.wrap_i64]; omega
        by_cases hlong : 65536 < s.size + more.size
        · have l1 : (65536 : Int) < (s.size : Int) + more.size := by omega
          go_wp2
          go_ret
          exact ⟨rfl, BW⟩
        · have l1 : ¬ (65536 : Int) < (s.size : Int) + more.size := by omega
          have hse := ne_empty s hp1
          have l2 : (s.size : Int) - 1 = ((s.size - 1 : Nat) : Int) := by omega
          have l3 : IntKind.i64.wrap (((s.size - 1 : Nat) : Int)) = ((s.size - 1 : Nat) : Int) := by rw [IntKind.wrap_i64]; omega
          have l4 : ((s.size - 1 : Nat) : Int) ≤ s.size := by omega
          have HB1 : Hid (∀ y f, DecR (s ++ more) y f → f = 40) := fun y f hd => HB.out y f rfl (by omega) (by omega) hd
          have HC1 : Hid (∀ y f, DecR (s.extract 0 (s.size - 1)) y f → f = 40) := fun y f hd => HC.out y f rfl hd
          clear HB HC
          obtain ⟨k, hk⟩ : ∃ k, s.size - 1 = k := ⟨_, rfl⟩
          rw [hk] at l2 l3 l4 HC1 K4
          go_wp2_with fail
          refine (K3 _).mono ?_
          rintro e0 w4 ⟨B4, y, f, rfl, hy, -⟩
          obtain rfl := HB1.out y f hy
          replace BW := belowStep BW BW.size B4
          clear B4 hy K3 HB1
          obtain ⟨yl, yt, ya, yc, yx⟩ := y
          dsimp only [Im.val, Im.l, Im.t, Im.sl, Im.a, Im.xs, Im.c]
          go_wp2_with fail
          refine (K4 _).mono ?_
          rintro e0 w5 ⟨B5, z, g, rfl, hz, -⟩
          obtain rfl := HC1.out z g hz
          clear hz K4 HC1
          obtain ⟨zl, zt, za, zc, zx⟩ := z
          dsimp only [Im.val, Im.l, Im.t, Im.sl, Im.a, Im.xs, Im.c]
          go_wp2
          go_ret
          have BX := belowStep (BW.alloc BW.size _) (Nat.le_trans BW.size (by simp)) B5
          exact ⟨rfl, BX.alloc BX.size _⟩
    · have he2 : (e == 0) = false := by rw [beq_eq_false_iff_ne]; exact he
      clear HB HC HP
      go_wp2
      go_ret
      exact ⟨rfl, BW⟩
end Go.Proofs.Yteaongogomhooaa
