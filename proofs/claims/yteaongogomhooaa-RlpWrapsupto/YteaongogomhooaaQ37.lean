/- RlpBack's walk: an item is read from its bytes as it was; bytes that are read are written so again. -/
import Derived.Test.YteaongogomhooaaQ36
namespace Go.Proofs.Yteaongogomhooaa
open Go.RowKit Go.Shelf Go.Sort

theorem back_item {x y : Im} {f : Int} (h : encE x = 0) (hd : DecR (encS x) y f) : f = 0 ∧ er y = er x := by
  rw [encE_er] at h
  have hs : encS x = encI (er x) := by rw [encS_er]; unfold eS; rw [if_pos h]
  obtain ⟨h1, h2, h3⟩ := eE_0 h
  have hdec := dec_enc h
  rw [hs] at hd
  rcases hd with ⟨k1, _, _⟩ | ⟨_, k2, _, _⟩ | ⟨_, y', k2, k3⟩
  · omega
  · exact absurd hdec (k2 _)
  · have he : er y' = er x := by
      rw [hdec] at k2
      injection k2 with k2
      injection k2 with k2
      exact k2.symm
    rcases k3 with ⟨k4, _, _⟩ | ⟨k4, rfl, rfl⟩
    · rw [deep_er, he, h1] at k4
      cases k4
    · exact ⟨rfl, he⟩
theorem back_bytes {s : ByteArray} {z : Im} (hd : DecR s z 0) : encE z = 0 ∧ encS z = s := by
  rcases hd with ⟨_, k1, _⟩ | ⟨_, _, k1, _⟩ | ⟨k0, y, k2, k3⟩
  · cases k1
  · cases k1
  · rcases k3 with ⟨_, k4, _⟩ | ⟨k4, _, rfl⟩
    · cases k4
    · obtain ⟨q1, q2⟩ := enc_dec k0 k2
      have h0 : eE (er z) = 0 := by
        unfold eE
        rw [deep_er] at k4
        rw [k4, q2, q1]
        simp only [Bool.false_eq_true, if_false, if_true]
        rw [if_neg (by omega)]
      rw [encE_er, encS_er]
      refine ⟨h0, ?_⟩
      unfold eS
      rw [if_pos h0, q1]
theorem decR_tb {s : ByteArray} {z : Im} {g : Int} (hd : DecR s z g) : tb z < 4000000 := by
  rcases hd with ⟨_, _, rfl⟩ | ⟨_, _, _, rfl⟩ | ⟨k0, y, k2, k3⟩
  · show 9 < _; decide
  · show 9 < _; decide
  · rcases k3 with ⟨_, _, rfl⟩ | ⟨_, _, rfl⟩
    · show 9 < _; decide
    · obtain ⟨q1, q2⟩ := enc_dec k0 k2
      have := tb_enc _ q2
      rw [q1] at this
      rw [tb_er]
      omega
theorem tb_cnt (x : Im) : cnt x ≤ tb x := cnt_tb (cnt x) x (Nat.le_refl _)
/-- An item's box, wherever. -/
theorem it_new (W : World) (x : Im) : ItIn W.heap.size x (W.alloc (.cells #[.bool x.l, .string x.t, x.sl] 24)) := World.alloc_heap_new W _
theorem be_new (W : World) (o : Obj) : Below W.heap.size W (W.alloc o) := (Below.refl _ W).alloc (Nat.le_refl _) _

set_option maxRecDepth 20000 in
set_option maxHeartbeats 2000000 in
theorem back_any (x : Im) (s : ByteArray) (htb : tb x < 4000000) (w : World) (hm : inMem w.heap.size w x) :
    Calls Try.prog 6 #[x.val, .string s] w fun e w' => e = .returned (.bool true) ∧ Below w.heap.size w w' := by
  have hcx := tb_cnt x
  have K0 := shown_any
  have K1 := fun n w hn hm => few_any x x (by omega) (by omega) n w hn hm hm
  have K2 := fun n w hn hm => encode_any x htb n w hn hm
  have K3 := decode_all (encS x)
  have K4 := decode_all s
  have HB : Hid (∀ y f, encE x = 0 → DecR (encS x) y f → f = 0 ∧ er y = er x) := fun y f h hd => back_item h hd
  obtain ⟨a, ha⟩ : ∃ a, encS x = a := ⟨_, rfl⟩
  obtain ⟨e, he⟩ : ∃ e, encE x = e := ⟨_, rfl⟩
  rw [ha] at K2 K3 HB
  rw [he] at K2 HB
  have hb0 := it_new w x
  have A0 := be_new w (.cells #[.bool x.l, .string x.t, x.sl] 24)
  have HM : Hid (inMem w.heap.size w x) := hm
  have KS := fun y n w hn hm hm2 => rsame_any (cnt x) x y (Nat.le_refl _) (by omega) n w hn hm hm2
  clear hm ha he hcx htb
  obtain ⟨xl, xt, xa, xc, xx⟩ := x
  dsimp only [Im.val, Im.l, Im.t, Im.sl, Im.a, Im.xs, Im.c] at K1 K2 KS hb0 A0 ⊢
  go_enter Try.func6, Try.ntmps6
  go_wp2_with fail
  refine (K0 _).mono ?_
  rintro e0 w1 ⟨rfl, B1⟩
  have hb1 : ItIn w.heap.size (.mk xl xt xa xc xx) w1 := (B1.block _ hb0.lt).trans hb0
  have BW := belowStep A0 A0.size B1
  clear A0 B1 hb0 K0
  have HX : Hid (∀ W, Below w.heap.size w W → w.heap.size ≤ W.heap.size ∧ inMem w.heap.size W (.mk xl xt xa xc xx)) := fun W hB => ⟨hB.size, inMem_below (Nat.le_refl _) hB _ HM.out⟩
  have q0 : w1.cell? ⟨w.heap.size, 0, none⟩ = some (.bool xl) := by rw [Lib.cell_of_heap hb1]; rfl
  have q1 : w1.cell? ⟨w.heap.size, 1, none⟩ = some (.string xt) := by rw [Lib.cell_of_heap hb1]; rfl
  have q2 : w1.cell? ⟨w.heap.size, 2, none⟩ = some (.slice xa xx.length xc) := by rw [Lib.cell_of_heap hb1]; rfl
  go_wp2_with fail
  refine (K1 _ _ (HX.out _ BW).1 (HX.out _ BW).2).mono ?_
  rintro e0 w2 ⟨⟨fw, rfl⟩, B2⟩
  have hb2 : ItIn w.heap.size (.mk xl xt xa xc xx) w2 := (B2.block _ hb1.lt).trans hb1
  replace BW := belowStep BW BW.size B2
  clear B2 q0 q1 q2 K1 hb1
  cases fw with
  | false =>
    go_wp2
    go_ret
    exact ⟨rfl, BW⟩
  | true =>
    have q0 : w2.cell? ⟨w.heap.size, 0, none⟩ = some (.bool xl) := by rw [Lib.cell_of_heap hb2]; rfl
    have q1 : w2.cell? ⟨w.heap.size, 1, none⟩ = some (.string xt) := by rw [Lib.cell_of_heap hb2]; rfl
    have q2 : w2.cell? ⟨w.heap.size, 2, none⟩ = some (.slice xa xx.length xc) := by rw [Lib.cell_of_heap hb2]; rfl
    go_wp2_with fail
    refine (K2 _ _ (HX.out _ BW).1 (HX.out _ BW).2).mono ?_
    rintro e0 w3 ⟨rfl, B3⟩
    have hb3 : ItIn w.heap.size (.mk xl xt xa xc xx) w3 := (B3.block _ hb2.lt).trans hb2
    replace BW := belowStep BW BW.size B3
    clear B3 q0 q1 q2 K2 hb2
    go_wp2_with fail
    refine (K3 _).mono ?_
    rintro e0 w4 ⟨B4, y, f, rfl, hy, hmy⟩
    have hb4 : ItIn w.heap.size (.mk xl xt xa xc xx) w4 := (B4.block _ hb3.lt).trans hb3
    replace BW := belowStep BW BW.size B4
    have hle4 : w.heap.size ≤ w4.heap.size := BW.size
    clear B4 K3 hb3
    have hy0 := it_new w4 y
    have A4 := be_new w4 (.cells #[.bool y.l, .string y.t, y.sl] 24)
    have KS1 := KS y
    have HB1 : Hid (e = 0 → f = 0 ∧ er y = er (.mk xl xt xa xc xx)) := fun h => HB.out y f h hy
    clear KS HB hy
    obtain ⟨yl, yt, ya, yc, yx⟩ := y
    dsimp only [Im.val, Im.l, Im.t, Im.sl, Im.a, Im.xs, Im.c] at KS1 hy0 A4 ⊢
    go_wp2_with fail
    refine (K4 _).mono ?_
    rintro e0 w5 ⟨B5, zz, g, rfl, hz, hmz⟩
    have B45 := belowStep A4 A4.size B5
    have hb5 : ItIn w.heap.size (.mk xl xt xa xc xx) w5 := (B45.block _ hb4.lt).trans hb4
    have hy5 : ItIn w4.heap.size (.mk yl yt ya yc yx) w5 := (B5.block _ hy0.lt).trans hy0
    replace hmy := inMem_mono B45.size _ (inMem_below (Nat.le_refl _) B45 _ hmy)
    replace BW := belowStep BW BW.size B45
    have hle5 : w4.heap.size ≤ w5.heap.size := B45.size
    clear B45 B5 A4 hb4 hy0 K4
    have hz0 := it_new w5 zz
    have A5 := be_new w5 (.cells #[.bool zz.l, .string zz.t, zz.sl] 24)
    have KE := fun n w hn hm => encode_any zz (decR_tb hz) n w hn hm
    have HZ1 : Hid (g = 0 → encE zz = 0 ∧ encS zz = s) := fun h => by subst h; exact back_bytes hz
    obtain ⟨b', hb'⟩ : ∃ q, encS zz = q := ⟨_, rfl⟩
    obtain ⟨h', hh'⟩ : ∃ q, encE zz = q := ⟨_, rfl⟩
    rw [hb', hh'] at KE HZ1
    clear hb' hh' hz
    obtain ⟨zl, zt, za, zc, zx⟩ := zz
    dsimp only [Im.val, Im.l, Im.t, Im.sl, Im.a, Im.xs, Im.c] at KE hz0 A5 ⊢
    obtain ⟨w6, hw6⟩ : ∃ q, w5.alloc (.cells #[.bool zl, .string zt, .slice za zx.length zc] 24) = q := ⟨_, rfl⟩
    rw [hw6] at A5 hz0
    have hb6 : ItIn w.heap.size (.mk xl xt xa xc xx) w6 := (A5.block _ hb5.lt).trans hb5
    have hy6 : ItIn w4.heap.size (.mk yl yt ya yc yx) w6 := (A5.block _ hy5.lt).trans hy5
    replace hmz := inMem_below (Nat.le_refl _) A5 _ hmz
    replace hmy := inMem_below (Nat.le_refl _) A5 _ hmy
    replace BW := belowStep BW BW.size A5
    have hs56 := A5.size
    clear hb5 hy5 A5
    have r0 : w6.cell? ⟨w5.heap.size, 0, none⟩ = some (.bool zl) := by rw [Lib.cell_of_heap hz0]; rfl
    have r1 : w6.cell? ⟨w5.heap.size, 1, none⟩ = some (.string zt) := by rw [Lib.cell_of_heap hz0]; rfl
    have r2 : w6.cell? ⟨w5.heap.size, 2, none⟩ = some (.slice za zx.length zc) := by rw [Lib.cell_of_heap hz0]; rfl
    have HM6 : Hid (_ ∧ _ ∧ _ ∧ _) := ⟨hmz, hmy, hb6, hy6⟩
    clear hmz hmy hb6 hy6 hz0
    go_wp2_with fail
    refine (KE _ _ hs56 HM6.out.1).mono ?_
    rintro e0 w7 ⟨rfl, B7⟩
    obtain ⟨-, hmy, hb6, hy6⟩ := HM6.out
    have hb7 : ItIn w.heap.size (.mk xl xt xa xc xx) w7 := (B7.block _ hb6.lt).trans hb6
    have hy7 : ItIn w4.heap.size (.mk yl yt ya yc yx) w7 := (B7.block _ hy6.lt).trans hy6
    replace hmy := inMem_below hs56 (B7.mono hs56) _ hmy
    replace BW := belowStep BW BW.size B7
    have hs57 := Nat.le_trans hs56 B7.size
    clear B7 hb6 hy6 HM6 r0 r1 r2 KE hw6
    have q0 : w7.cell? ⟨w.heap.size, 0, none⟩ = some (.bool xl) := by rw [Lib.cell_of_heap hb7]; rfl
    have q1 : w7.cell? ⟨w.heap.size, 1, none⟩ = some (.string xt) := by rw [Lib.cell_of_heap hb7]; rfl
    have q2 : w7.cell? ⟨w.heap.size, 2, none⟩ = some (.slice xa xx.length xc) := by rw [Lib.cell_of_heap hb7]; rfl
    have p0 : w7.cell? ⟨w4.heap.size, 0, none⟩ = some (.bool yl) := by rw [Lib.cell_of_heap hy7]; rfl
    have p1 : w7.cell? ⟨w4.heap.size, 1, none⟩ = some (.string yt) := by rw [Lib.cell_of_heap hy7]; rfl
    have p2 : w7.cell? ⟨w4.heap.size, 2, none⟩ = some (.slice ya yx.length yc) := by rw [Lib.cell_of_heap hy7]; rfl
    have hsb : (b'.toList == b'.toList) = true := beq_self_eq_true _
    by_cases he : e = 0
    · obtain ⟨rfl, hyx⟩ := HB1.out he
      subst he
      have KS2 := KS1 w5.heap.size w7 hs57 (inMem_mono (by have := hb7.lt; have := hy7.lt; exact Nat.le_trans hle4 hle5) _ (HX.out _ BW).2) hmy
      rw [hyx, smI_refl] at KS2
      clear hb7 hy7 hmy KS1 HB1 hyx
      by_cases hg : g = 0
      · obtain ⟨rfl, rfl⟩ := HZ1.out hg
        subst hg
        go_wp2_with fail
        refine KS2.mono ?_
        rintro e0 w8 ⟨rfl, B8⟩
        replace BW := belowStep BW BW.size B8
        clear KS2 B8
        go_wp2
        go_ret
        exact ⟨rfl, BW⟩
      · have hg2 : (g == 0) = false := by rw [beq_eq_false_iff_ne]; exact hg
        clear HZ1
        go_wp2_with fail
        refine KS2.mono ?_
        rintro e0 w8 ⟨rfl, B8⟩
        replace BW := belowStep BW BW.size B8
        clear KS2 B8
        go_wp2
        go_ret
        exact ⟨rfl, BW⟩
    · have he2 : (e == 0) = false := by rw [beq_eq_false_iff_ne]; exact he
      clear hb7 hy7 hmy KS1 HB1
      by_cases hg : g = 0
      · obtain ⟨rfl, rfl⟩ := HZ1.out hg
        subst hg
        go_wp2
        go_ret
        exact ⟨rfl, BW⟩
      · have hg2 : (g == 0) = false := by rw [beq_eq_false_iff_ne]; exact hg
        clear HZ1
        go_wp2
        go_ret
        exact ⟨rfl, BW⟩
end Go.Proofs.Yteaongogomhooaa
