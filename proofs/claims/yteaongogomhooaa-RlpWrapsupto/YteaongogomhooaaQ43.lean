/- RlpWraps' walk: the bytes of a list of one item end with that item's, and of two with both. -/
import Derived.Test.YteaongogomhooaaQ42
namespace Go.Proofs.Yteaongogomhooaa
open Go.RowKit Go.Shelf Go.Sort

theorem dpr_mono : ∀ (m : Nat) (x : It), dprI m x = false → dprI (m + 1) x = false
  | 0, _, h => by cases h
  | m + 1, .mk l t xs, h => by
    have h' : xs.any (dprI m) = false := h
    show xs.any (dprI (m + 1)) = false
    rw [List.any_eq_false] at h' ⊢
    intro y hy
    have := h' y hy
    simp only [Bool.not_eq_true] at this ⊢
    exact dpr_mono m y this
theorem eE_mk {x : It} (h1 : dprI 12 x = false) (h2 : rgI x = true) (h3 : (encI x).size ≤ 65536) : eE x = 0 := by
  unfold eE
  rw [h1, h2]
  simp only [Bool.false_eq_true, if_false, if_true]
  rw [if_neg (by omega)]
theorem eS_0 {x : It} (h : eE x = 0) : eS x = encI x := by unfold eS; rw [if_pos h]
theorem eS_le (x : It) : (eS x).size ≤ 65536 := by
  unfold eS
  split
  · exact (eE_0 ‹_›).2.2
  · exact Nat.zero_le _
theorem hdB_pos (b n : Nat) : 0 < (hdB b n).size := by rw [hdB_hsz]; unfold hsz; split <;> omega
theorem wrap_in {xs : List It} (h : eE (.mk true ⟨#[]⟩ xs) = 0) (x : It) (hx : x ∈ xs) : eE x = 0 := by
  obtain ⟨h1, h2, h3⟩ := eE_0 h
  have h1' : xs.any (dprI 11) = false := h1
  have h2' : (true && rgIs xs) = true := h2
  rw [Bool.true_and] at h2'
  have hd : dprI 11 x = false := by
    have := List.any_eq_false.1 h1' x hx
    simpa using this
  refine eE_mk (dpr_mono 11 x hd) (rgIs_mem xs x h2' hx) ?_
  have h4 := encIs_le xs x hx
  have h5 : (encI (.mk true ⟨#[]⟩ xs)).size = (hdB 192 (encIs xs).size ++ encIs xs).size := rfl
  rw [ByteArray.size_append] at h5
  omega
theorem wrap_one {x : It} (h : eE (.mk true ⟨#[]⟩ [x]) = 0) : ∃ d : ByteArray, 0 < d.size ∧ eS (.mk true ⟨#[]⟩ [x]) = d ++ eS x := by
  refine ⟨hdB 192 (encIs [x]).size, hdB_pos _ _, ?_⟩
  rw [eS_0 h, eS_0 (wrap_in h x (List.mem_singleton.2 rfl))]
  show hdB 192 (encIs [x]).size ++ (encI x ++ ⟨#[]⟩) = _
  rw [show encI x ++ ⟨#[]⟩ = encI x from ByteArray.append_empty]
theorem wrap_two {x y : It} (h : eE (.mk true ⟨#[]⟩ [x, y]) = 0) : ∃ d : ByteArray, 0 < d.size ∧ eS (.mk true ⟨#[]⟩ [x, y]) = d ++ (eS x ++ eS y) := by
  refine ⟨hdB 192 (encIs [x, y]).size, hdB_pos _ _, ?_⟩
  rw [eS_0 h, eS_0 (wrap_in h x (by simp)), eS_0 (wrap_in h y (by simp))]
  show hdB 192 (encIs [x, y]).size ++ (encI x ++ (encI y ++ ⟨#[]⟩)) = _
  rw [show encI y ++ ⟨#[]⟩ = encI y from ByteArray.append_empty]

set_option maxRecDepth 20000 in
set_option maxHeartbeats 4000000 in
theorem wraps_any (x y : Im) (htb : tb x + tb y < 3000000) (w : World) (hmx : inMem w.heap.size w x) (hmy : inMem w.heap.size w y) :
    Calls Try.prog 8 #[x.val, y.val] w fun e w' => e = .returned (.bool true) ∧ Below w.heap.size w w' := by
  have hcx := tb_cnt x
  have hcy := tb_cnt y
  have K0 := shown_any
  have K1 := fun n w hn hm hm2 => few_any x y (by omega) (by omega) n w hn hm hm2
  have K2 := fun n w hn hm => encode_any x (by omega) n w hn hm
  have K3 := fun n w hn hm => encode_any y (by omega) n w hn hm
  have KL := fun n a c w hn hm => list_any [x] (by show cnt x + 0 < _; omega) n a c w hn hm
  have KM := fun n a c w hn hm => list_any [x, y] (by show cnt x + (cnt y + 0) < _; omega) n a c w hn hm
  have HTX : Hid (tbI (er x) + tbI (er y) < 3000000) := by rw [← tb_er, ← tb_er]; exact htb
  have S1 := fun n w hn hm => same_any (cnt x) x x (Nat.le_refl _) (by omega) n w hn hm hm
  have S2 := fun n w hn hm hm2 => same_any (cnt x) x y (Nat.le_refl _) (by omega) n w hn hm hm2
  have S3 := fun n w hn hm hm2 => same_any (cnt y) y x (Nat.le_refl _) (by omega) n w hn hm hm2
  rw [smI_refl] at S1
  rw [smI_comm (er y) (er x)] at S3
  rw [encE_er, encS_er] at K2 K3
  obtain ⟨X, hX⟩ : ∃ q, er x = q := ⟨_, rfl⟩
  obtain ⟨Y, hY⟩ : ∃ q, er y = q := ⟨_, rfl⟩
  have KL' : ∀ n a c w, n ≤ w.heap.size → rowMem n w a 0 [x] → Calls Try.prog 21 #[.slice a 1 c] w fun e w' => ∃ q : Im, e = .returned q.val ∧ er q = .mk true ⟨#[]⟩ [X] ∧ inP (fun b => w.heap.size ≤ b ∧ b < w'.heap.size) w' q ∧ Below w.heap.size w w' := by
    intro n a c w hn hm
    have := KL n a c w hn hm
    rw [show ers [x] = [X] by show [er x] = _; rw [hX]] at this
    exact this
  have KM' : ∀ n a c w, n ≤ w.heap.size → rowMem n w a 0 [x, y] → Calls Try.prog 21 #[.slice a 2 c] w fun e w' => ∃ q : Im, e = .returned q.val ∧ er q = .mk true ⟨#[]⟩ [X, Y] ∧ inP (fun b => w.heap.size ≤ b ∧ b < w'.heap.size) w' q ∧ Below w.heap.size w w' := by
    intro n a c w hn hm
    have := KM n a c w hn hm
    rw [show ers [x, y] = [X, Y] by show [er x, er y] = _; rw [hX, hY]] at this
    exact this
  rw [hX, hY] at S2 S3 HTX
  rw [hX] at K2
  rw [hY] at K3
  clear hX hY KL KM
  have HX : Hid (∀ W, Below w.heap.size w W → w.heap.size ≤ W.heap.size ∧ inMem w.heap.size W x ∧ inMem w.heap.size W y) := fun W hB => ⟨hB.size, inMem_below (Nat.le_refl _) hB _ hmx, inMem_below (Nat.le_refl _) hB _ hmy⟩
  have A0 := be_new w (.cells #[.bool x.l, .string x.t, x.sl] 24)
  have A1 := be_new (w.alloc (.cells #[.bool x.l, .string x.t, x.sl] 24)) (.cells #[.bool y.l, .string y.t, y.sl] 24)
  have hx0 : ItIn w.heap.size x ((w.alloc (.cells #[.bool x.l, .string x.t, x.sl] 24)).alloc (.cells #[.bool y.l, .string y.t, y.sl] 24)) := (A1.block _ (by simp)).trans (it_new w x)
  have hy0 : ItIn (w.heap.size + 1) y ((w.alloc (.cells #[.bool x.l, .string x.t, x.sl] 24)).alloc (.cells #[.bool y.l, .string y.t, y.sl] 24)) := by
    have := it_new (w.alloc (.cells #[.bool x.l, .string x.t, x.sl] 24)) y
    rw [World.size_alloc] at this
    exact this
  replace A0 := belowStep A0 A0.size A1
  clear hmx hmy hcx hcy htb A1
  have HF : Hid ((eE X = 0 → (eS X).size ≤ 65536) ∧ (eE (.mk true ⟨#[]⟩ [X]) = 0 → eE X = 0 ∧ ∃ d : ByteArray, 0 < d.size ∧ eS (.mk true ⟨#[]⟩ [X]) = d ++ eS X) ∧ (eE (.mk true ⟨#[]⟩ [X, Y]) = 0 → ∃ d : ByteArray, 0 < d.size ∧ eS (.mk true ⟨#[]⟩ [X, Y]) = d ++ (eS X ++ eS Y)) ∧ (eS X).size ≤ 65536 ∧ (eS Y).size ≤ 65536 ∧ (eS (.mk true ⟨#[]⟩ [X])).size ≤ 65536 ∧ (eS (.mk true ⟨#[]⟩ [X, Y])).size ≤ 65536) :=
    ⟨fun _ => eS_le _, fun h => ⟨wrap_in h X (List.mem_singleton.2 rfl), wrap_one h⟩, fun h => wrap_two h, eS_le _, eS_le _, eS_le _, eS_le _⟩
  obtain ⟨a, ha⟩ : ∃ q, eS X = q := ⟨_, rfl⟩
  obtain ⟨e, he⟩ : ∃ q, eE X = q := ⟨_, rfl⟩
  obtain ⟨b, hb⟩ : ∃ q, eS Y = q := ⟨_, rfl⟩
  obtain ⟨f, hf⟩ : ∃ q, eE Y = q := ⟨_, rfl⟩
  obtain ⟨sm, hsm⟩ : ∃ q, smI X Y = q := ⟨_, rfl⟩
  rw [ha, he] at K2 HF
  rw [hb] at HF
  rw [hb, hf] at K3
  rw [hsm] at S2 S3
  clear ha he hb hf hsm
  obtain ⟨xl, xt, xa, xc, xx⟩ := x
  obtain ⟨yl, yt, ya, yc, yx⟩ := y
  dsimp only [Im.val, Im.l, Im.t, Im.sl, Im.a, Im.xs, Im.c] at K1 K2 K3 S1 S2 S3 hx0 hy0 A0 ⊢
  go_enter Try.func8, Try.ntmps8
  go_wp2_with fail
  refine (K0 _).mono ?_
  rintro e0 w1 ⟨rfl, B1⟩
  have hx1 : ItIn w.heap.size (.mk xl xt xa xc xx) w1 := (B1.block _ hx0.lt).trans hx0
  have hy1 : ItIn (w.heap.size + 1) (.mk yl yt ya yc yx) w1 := (B1.block _ hy0.lt).trans hy0
  have BW := belowStep A0 A0.size B1
  clear A0 B1 hx0 hy0 K0
  have q0 : w1.cell? ⟨w.heap.size, 0, none⟩ = some (.bool xl) := by rw [Lib.cell_of_heap hx1]; rfl
  have q1 : w1.cell? ⟨w.heap.size, 1, none⟩ = some (.string xt) := by rw [Lib.cell_of_heap hx1]; rfl
  have q2 : w1.cell? ⟨w.heap.size, 2, none⟩ = some (.slice xa xx.length xc) := by rw [Lib.cell_of_heap hx1]; rfl
  have p0 : w1.cell? ⟨w.heap.size + 1, 0, none⟩ = some (.bool yl) := by rw [Lib.cell_of_heap hy1]; rfl
  have p1 : w1.cell? ⟨w.heap.size + 1, 1, none⟩ = some (.string yt) := by rw [Lib.cell_of_heap hy1]; rfl
  have p2 : w1.cell? ⟨w.heap.size + 1, 2, none⟩ = some (.slice ya yx.length yc) := by rw [Lib.cell_of_heap hy1]; rfl
  go_wp2_with fail
  refine (K1 _ _ (HX.out _ BW).1 (HX.out _ BW).2.1 (HX.out _ BW).2.2).mono ?_
  rintro e0 w2 ⟨⟨fw, rfl⟩, B2⟩
  have hx2 : ItIn w.heap.size (.mk xl xt xa xc xx) w2 := (B2.block _ hx1.lt).trans hx1
  have hy2 : ItIn (w.heap.size + 1) (.mk yl yt ya yc yx) w2 := (B2.block _ hy1.lt).trans hy1
  replace BW := belowStep BW BW.size B2
  clear B2 q0 q1 q2 p0 p1 p2 K1 hx1 hy1
  cases fw with
  | false =>
    go_wp2
    go_ret
    exact ⟨rfl, BW⟩
  | true =>
    have q0 : w2.cell? ⟨w.heap.size, 0, none⟩ = some (.bool xl) := by rw [Lib.cell_of_heap hx2]; rfl
    have q1 : w2.cell? ⟨w.heap.size, 1, none⟩ = some (.string xt) := by rw [Lib.cell_of_heap hx2]; rfl
    have q2 : w2.cell? ⟨w.heap.size, 2, none⟩ = some (.slice xa xx.length xc) := by rw [Lib.cell_of_heap hx2]; rfl
    have p0 : w2.cell? ⟨w.heap.size + 1, 0, none⟩ = some (.bool yl) := by rw [Lib.cell_of_heap hy2]; rfl
    have p1 : w2.cell? ⟨w.heap.size + 1, 1, none⟩ = some (.string yt) := by rw [Lib.cell_of_heap hy2]; rfl
    have p2 : w2.cell? ⟨w.heap.size + 1, 2, none⟩ = some (.slice ya yx.length yc) := by rw [Lib.cell_of_heap hy2]; rfl
    go_wp2_with fail
    refine (K2 _ _ (HX.out _ BW).1 (HX.out _ BW).2.1).mono ?_
    rintro e0 w3 ⟨rfl, B3⟩
    have hx3 : ItIn w.heap.size (.mk xl xt xa xc xx) w3 := (B3.block _ hx2.lt).trans hx2
    have hy3 : ItIn (w.heap.size + 1) (.mk yl yt ya yc yx) w3 := (B3.block _ hy2.lt).trans hy2
    replace BW := belowStep BW BW.size B3
    clear B3 q0 q1 q2 p0 p1 p2 K2 hx2 hy2
    have q0 : w3.cell? ⟨w.heap.size, 0, none⟩ = some (.bool xl) := by rw [Lib.cell_of_heap hx3]; rfl
    have q1 : w3.cell? ⟨w.heap.size, 1, none⟩ = some (.string xt) := by rw [Lib.cell_of_heap hx3]; rfl
    have q2 : w3.cell? ⟨w.heap.size, 2, none⟩ = some (.slice xa xx.length xc) := by rw [Lib.cell_of_heap hx3]; rfl
    have p0 : w3.cell? ⟨w.heap.size + 1, 0, none⟩ = some (.bool yl) := by rw [Lib.cell_of_heap hy3]; rfl
    have p1 : w3.cell? ⟨w.heap.size + 1, 1, none⟩ = some (.string yt) := by rw [Lib.cell_of_heap hy3]; rfl
    have p2 : w3.cell? ⟨w.heap.size + 1, 2, none⟩ = some (.slice ya yx.length yc) := by rw [Lib.cell_of_heap hy3]; rfl
    go_wp2_with fail
    refine (K3 _ _ (HX.out _ BW).1 (HX.out _ BW).2.2).mono ?_
    rintro e0 w4 ⟨rfl, B4⟩
    have hx4 : ItIn w.heap.size (.mk xl xt xa xc xx) w4 := (B4.block _ hx3.lt).trans hx3
    have hy4 : ItIn (w.heap.size + 1) (.mk yl yt ya yc yx) w4 := (B4.block _ hy3.lt).trans hy3
    replace BW := belowStep BW BW.size B4
    clear B4 q0 q1 q2 p0 p1 p2 K3 hx3 hy3
    have q0 : w4.cell? ⟨w.heap.size, 0, none⟩ = some (.bool xl) := by rw [Lib.cell_of_heap hx4]; rfl
    have q1 : w4.cell? ⟨w.heap.size, 1, none⟩ = some (.string xt) := by rw [Lib.cell_of_heap hx4]; rfl
    have q2 : w4.cell? ⟨w.heap.size, 2, none⟩ = some (.slice xa xx.length xc) := by rw [Lib.cell_of_heap hx4]; rfl
    have p0 : w4.cell? ⟨w.heap.size + 1, 0, none⟩ = some (.bool yl) := by rw [Lib.cell_of_heap hy4]; rfl
    have p1 : w4.cell? ⟨w.heap.size + 1, 1, none⟩ = some (.string yt) := by rw [Lib.cell_of_heap hy4]; rfl
    have p2 : w4.cell? ⟨w.heap.size + 1, 2, none⟩ = some (.slice ya yx.length yc) := by rw [Lib.cell_of_heap hy4]; rfl
    have A4 := be_new w4 (.cells #[.bool xl, .string xt, .slice xa xx.length xc] 24)
    have hrow : rowMem (w4.heap.size + 1) (w4.alloc (.cells #[.bool xl, .string xt, .slice xa xx.length xc] 24)) (some ⟨w4.heap.size, 0, none⟩) 0 [.mk xl xt xa xc xx] := by
      have hn4 : (w4.alloc (.cells #[.bool xl, .string xt, .slice xa xx.length xc] 24)).heap[w4.heap.size]? = some (.cells #[.bool xl, .string xt, .slice xa xx.length xc] 24 (0, 0)) := World.alloc_heap_new w4 _
      exact ⟨⟨w4.heap.size, 0, by omega, rfl, by rw [Lib.cell_of_heap hn4]; rfl, by rw [Lib.cell_of_heap hn4]; rfl, by rw [Lib.cell_of_heap hn4]; rfl⟩, inMem_mono (Nat.le_trans BW.size (Nat.le_succ _)) _ (HX.out _ (belowStep BW BW.size A4)).2.1, trivial⟩
    go_wp2_with fail
    refine (KL' _ _ _ _ (by simp) hrow).mono ?_
    rintro e0 w5 ⟨l1, rfl, he1, hin1, B5⟩
    have B45 := belowStep A4 A4.size B5
    have hx5 : ItIn w.heap.size (.mk xl xt xa xc xx) w5 := (B45.block _ hx4.lt).trans hx4
    have hy5 : ItIn (w.heap.size + 1) (.mk yl yt ya yc yx) w5 := (B45.block _ hy4.lt).trans hy4
    replace BW := belowStep BW BW.size B45
    have hml : inMem w5.heap.size w5 l1 := inMem_of (fun b hb => hb.2) _ hin1
    have KE1 := fun n w hn hm => encode_any l1 (by rw [tb_er, he1]; show 0 + 9 + (tbI X + 0) < _; have := HTX.out; omega) n w hn hm
    rw [encE_er, encS_er, he1] at KE1
    clear A4 hrow B5 B45 hin1 he1 q0 q1 q2 p0 p1 p2 hx4 hy4 KL'
    obtain ⟨ll, lt, la, lc, lx⟩ := l1
    dsimp only [Im.val, Im.l, Im.t, Im.sl, Im.a, Im.xs, Im.c] at KE1 ⊢
    obtain ⟨s, hs⟩ : ∃ q, eS (.mk true ⟨#[]⟩ [X]) = q := ⟨_, rfl⟩
    obtain ⟨g, hg⟩ : ∃ q, eE (.mk true ⟨#[]⟩ [X]) = q := ⟨_, rfl⟩
    rw [hs, hg] at KE1 HF
    clear hs hg
    go_wp2_with fail
    refine (KE1 _ _ (Nat.le_refl _) hml).mono ?_
    rintro e0 w6 ⟨rfl, B6⟩
    have hx6 : ItIn w.heap.size (.mk xl xt xa xc xx) w6 := (B6.block _ hx5.lt).trans hx5
    have hy6 : ItIn (w.heap.size + 1) (.mk yl yt ya yc yx) w6 := (B6.block _ hy5.lt).trans hy5
    replace BW := belowStep BW BW.size B6
    clear B6 KE1 hml hx5 hy5
    have q0 : w6.cell? ⟨w.heap.size, 0, none⟩ = some (.bool xl) := by rw [Lib.cell_of_heap hx6]; rfl
    have q1 : w6.cell? ⟨w.heap.size, 1, none⟩ = some (.string xt) := by rw [Lib.cell_of_heap hx6]; rfl
    have q2 : w6.cell? ⟨w.heap.size, 2, none⟩ = some (.slice xa xx.length xc) := by rw [Lib.cell_of_heap hx6]; rfl
    have p0 : w6.cell? ⟨w.heap.size + 1, 0, none⟩ = some (.bool yl) := by rw [Lib.cell_of_heap hy6]; rfl
    have p1 : w6.cell? ⟨w.heap.size + 1, 1, none⟩ = some (.string yt) := by rw [Lib.cell_of_heap hy6]; rfl
    have p2 : w6.cell? ⟨w.heap.size + 1, 2, none⟩ = some (.slice ya yx.length yc) := by rw [Lib.cell_of_heap hy6]; rfl
    have A6 := be_new w6 (.cells #[.bool xl, .string xt, .slice xa xx.length xc, .bool yl, .string yt, .slice ya yx.length yc] 24)
    have hrow : rowMem (w6.heap.size + 1) (w6.alloc (.cells #[.bool xl, .string xt, .slice xa xx.length xc, .bool yl, .string yt, .slice ya yx.length yc] 24)) (some ⟨w6.heap.size, 0, none⟩) 0 [.mk xl xt xa xc xx, .mk yl yt ya yc yx] := by
      have hn6 : (w6.alloc (.cells #[.bool xl, .string xt, .slice xa xx.length xc, .bool yl, .string yt, .slice ya yx.length yc] 24)).heap[w6.heap.size]? = some (.cells #[.bool xl, .string xt, .slice xa xx.length xc, .bool yl, .string yt, .slice ya yx.length yc] 24 (0, 0)) := World.alloc_heap_new w6 _
      exact ⟨⟨w6.heap.size, 0, by omega, rfl, by rw [Lib.cell_of_heap hn6]; rfl, by rw [Lib.cell_of_heap hn6]; rfl, by rw [Lib.cell_of_heap hn6]; rfl⟩, inMem_mono (Nat.le_trans BW.size (Nat.le_succ _)) _ (HX.out _ (belowStep BW BW.size A6)).2.1,
        ⟨w6.heap.size, 0, by omega, rfl, by rw [Lib.cell_of_heap hn6]; rfl, by rw [Lib.cell_of_heap hn6]; rfl, by rw [Lib.cell_of_heap hn6]; rfl⟩, inMem_mono (Nat.le_trans BW.size (Nat.le_succ _)) _ (HX.out _ (belowStep BW BW.size A6)).2.2, trivial⟩
    go_wp2_with fail
    refine (KM' _ _ _ _ (by simp) hrow).mono ?_
    rintro e0 w7 ⟨l1, rfl, he1, hin1, B7⟩
    have B67 := belowStep A6 A6.size B7
    have hx7 : ItIn w.heap.size (.mk xl xt xa xc xx) w7 := (B67.block _ hx6.lt).trans hx6
    have hy7 : ItIn (w.heap.size + 1) (.mk yl yt ya yc yx) w7 := (B67.block _ hy6.lt).trans hy6
    replace BW := belowStep BW BW.size B67
    have hml : inMem w7.heap.size w7 l1 := inMem_of (fun b hb => hb.2) _ hin1
    have KE2 := fun n w hn hm => encode_any l1 (by rw [tb_er, he1]; show 0 + 9 + (tbI X + (tbI Y + 0)) < _; have := HTX.out; omega) n w hn hm
    rw [encE_er, encS_er, he1] at KE2
    clear A6 hrow B7 B67 hin1 he1 q0 q1 q2 p0 p1 p2 hx6 hy6 KM'
    obtain ⟨ml, mt, ma, mc, mx⟩ := l1
    dsimp only [Im.val, Im.l, Im.t, Im.sl, Im.a, Im.xs, Im.c] at KE2 ⊢
    obtain ⟨t, ht⟩ : ∃ q, eS (.mk true ⟨#[]⟩ [X, Y]) = q := ⟨_, rfl⟩
    obtain ⟨h, hh⟩ : ∃ q, eE (.mk true ⟨#[]⟩ [X, Y]) = q := ⟨_, rfl⟩
    rw [ht, hh] at KE2 HF
    clear ht hh
    go_wp2_with fail
    refine (KE2 _ _ (Nat.le_refl _) hml).mono ?_
    rintro e0 w8 ⟨rfl, B8⟩
    have hx8 : ItIn w.heap.size (.mk xl xt xa xc xx) w8 := (B8.block _ hx7.lt).trans hx7
    have hy8 : ItIn (w.heap.size + 1) (.mk yl yt ya yc yx) w8 := (B8.block _ hy7.lt).trans hy7
    replace BW := belowStep BW BW.size B8
    clear B8 KE2 hml hx7 hy7
    obtain ⟨F1, F2, F3, z1, z2, z3, z4⟩ := HF.out
    have HH : Hid (_ ∧ _ ∧ _) := ⟨F1, F2, F3⟩
    clear F1 F2 F3 HF
    have G : ∀ (q : Addr) (v : Value), q.block < w8.heap.size → w8.cell? q = some v → ∀ d os, (grow (redrawn w8 d) os).cell? q = some v := fun q v hq hv d os => ((below_regrown w8 d os).cell hq).trans hv
    have r0 := G ⟨w.heap.size, 0, none⟩ (.bool xl) hx8.lt (by rw [Lib.cell_of_heap hx8]; rfl)
    have r1 := G ⟨w.heap.size, 1, none⟩ (.string xt) hx8.lt (by rw [Lib.cell_of_heap hx8]; rfl)
    have r2 := G ⟨w.heap.size, 2, none⟩ (.slice xa xx.length xc) hx8.lt (by rw [Lib.cell_of_heap hx8]; rfl)
    have r3 := G ⟨w.heap.size + 1, 0, none⟩ (.bool yl) hy8.lt (by rw [Lib.cell_of_heap hy8]; rfl)
    have r4 := G ⟨w.heap.size + 1, 1, none⟩ (.string yt) hy8.lt (by rw [Lib.cell_of_heap hy8]; rfl)
    have r5 := G ⟨w.heap.size + 1, 2, none⟩ (.slice ya yx.length yc) hy8.lt (by rw [Lib.cell_of_heap hy8]; rfl)
    have HI : Hid (∀ d os, w.heap.size ≤ (grow (redrawn w8 d) os).heap.size ∧ inMem w.heap.size (grow (redrawn w8 d) os) (.mk xl xt xa xc xx) ∧ inMem w.heap.size (grow (redrawn w8 d) os) (.mk yl yt ya yc yx)) := fun d os => HX.out _ (belowStep BW BW.size (below_regrown w8 d os))
    have cA : ∀ d os, Calls Try.prog 13 #[.agg #[.bool xl, .string xt, .slice xa xx.length xc], .agg #[.bool xl, .string xt, .slice xa xx.length xc]] (grow (redrawn w8 d) os) fun e w'' => e = .returned (.bool true) ∧ ∃ p : Regrown, w'' = grow (redrawn w8 p.d) p.os := fun d os => Calls.regrown_of (S1 _ _ (HI.out d os).1 (HI.out d os).2.1)
    have cB : ∀ d os, Calls Try.prog 13 #[.agg #[.bool xl, .string xt, .slice xa xx.length xc], .agg #[.bool yl, .string yt, .slice ya yx.length yc]] (grow (redrawn w8 d) os) fun e w'' => e = .returned (.bool sm) ∧ ∃ p : Regrown, w'' = grow (redrawn w8 p.d) p.os := fun d os => Calls.regrown_of (S2 _ _ (HI.out d os).1 (HI.out d os).2.1 (HI.out d os).2.2)
    have cC : ∀ d os, Calls Try.prog 13 #[.agg #[.bool yl, .string yt, .slice ya yx.length yc], .agg #[.bool xl, .string xt, .slice xa xx.length xc]] (grow (redrawn w8 d) os) fun e w'' => e = .returned (.bool sm) ∧ ∃ p : Regrown, w'' = grow (redrawn w8 p.d) p.os := fun d os => Calls.regrown_of (S3 _ _ (HI.out d os).1 (HI.out d os).2.2 (HI.out d os).2.1)
    clear G hx8 hy8 S1 S2 S3 HX HI
    have hsa : (a.toList == a.toList) = true := beq_self_eq_true _
    have hsab : ((a ++ b).toList == (a ++ b).toList) = true := beq_self_eq_true _
    have wab : IntKind.i64.wrap ((a.size : Int) + b.size) = (a.size : Int) + b.size := by rw [IntKind.wrap_i64]; omega
    have hqab : ¬ 9223372036854775807 < a.size + b.size := by omega
    have hq2 : (a.size : Int) + b.size ≤ 5000000 := by omega
    by_cases he : e = 0
    · subst he
      by_cases hg : g = 0
      · obtain ⟨-, d, hd, hsd⟩ := HH.out.2.1 hg
        subst hg
        have hss : s.size = d.size + a.size := by rw [hsd, ByteArray.size_append]
        obtain ⟨k1, hk1⟩ : ∃ k, s.size - a.size = k := ⟨_, rfl⟩
        have l1 : ¬ (s.size : Int) ≤ a.size := by omega
        have l2 : (s.size : Int) - a.size = k1 := by omega
        have l3 : IntKind.i64.wrap (k1 : Int) = k1 := by rw [IntKind.wrap_i64]; omega
        have l4 : (k1 : Int) ≤ s.size := by omega
        have hse : s.extract k1 s.size = a := by
          rw [← hk1, hss, Nat.add_sub_cancel]
          have := app_right d a
          rw [← hsd, hss] at this
          exact this
        have HD : Hid _ := hsd
        clear hsd hss hd
        by_cases hf : f = 0
        · subst hf
          by_cases hh : h = 0
          · obtain ⟨d', hd', htd⟩ := HH.out.2.2 hh
            subst hh
            have hts : t.size = d'.size + (a.size + b.size) := by rw [htd, ByteArray.size_append, ByteArray.size_append]
            obtain ⟨k2, hk2⟩ : ∃ k, t.size - a.size - b.size = k := ⟨_, rfl⟩
            have m1 : ¬ (t.size : Int) ≤ (a.size : Int) + b.size := by omega
            have m2 : (t.size : Int) - a.size - b.size = k2 := by omega
            have m5 : IntKind.i64.wrap ((t.size : Int) - a.size) = (t.size : Int) - a.size := by rw [IntKind.wrap_i64]; omega
            have m3 : IntKind.i64.wrap (k2 : Int) = k2 := by rw [IntKind.wrap_i64]; omega
            have m4 : (k2 : Int) ≤ t.size := by omega
            have hte : t.extract k2 t.size = a ++ b := by
              have e1 : k2 = d'.size := by omega
              have := app_right d' (a ++ b)
              rw [← htd] at this
              rw [e1]
              exact this
            have HD' : Hid _ := htd
            clear htd hts hd'
            clear HH
            go_wp2_with fail
            refine wp_region_quiet_below (by kernel_rfl) (by kernel_rfl) ?_
            iterate 12 (quiet_step (fail))
            quiet_step (exact cA _ _)
            iterate 4 (quiet_step (fail))
            quiet_step (exact cB _ _)
            iterate 2 (quiet_step (fail))
            quiet_step (exact cC _ _)
            repeat (quiet_step (fail))
            refine wpQuiet_nil ?_
            rintro w9 hw9
            have B9 : Below w8.heap.size w8 w9 := by
              obtain ⟨p, rfl⟩ := hw9
              exact below_regrown _ _ _
            clear hw9 cA cB cC r0 r1 r2 r3 r4 r5
            go_wp2
            go_ret
            exact ⟨rfl, belowStep BW BW.size B9⟩
          · have hh2 : (h == 0) = false := by rw [beq_eq_false_iff_ne]; exact hh
            clear HH
            go_wp2_with fail
            refine wp_region_quiet_below (by kernel_rfl) (by kernel_rfl) ?_
            iterate 12 (quiet_step (fail))
            quiet_step (exact cA _ _)
            iterate 4 (quiet_step (fail))
            quiet_step (exact cB _ _)
            iterate 2 (quiet_step (fail))
            quiet_step (exact cC _ _)
            repeat (quiet_step (fail))
            refine wpQuiet_nil ?_
            rintro w9 hw9
            have B9 : Below w8.heap.size w8 w9 := by
              obtain ⟨p, rfl⟩ := hw9
              exact below_regrown _ _ _
            clear hw9 cA cB cC r0 r1 r2 r3 r4 r5
            go_wp2
            go_ret
            exact ⟨rfl, belowStep BW BW.size B9⟩
        · have hf2 : (f == 0) = false := by rw [beq_eq_false_iff_ne]; exact hf
          clear HH
          go_wp2_with fail
          refine wp_region_quiet_below (by kernel_rfl) (by kernel_rfl) ?_
          iterate 12 (quiet_step (fail))
          quiet_step (exact cA _ _)
          iterate 4 (quiet_step (fail))
          quiet_step (exact cB _ _)
          iterate 2 (quiet_step (fail))
          quiet_step (exact cC _ _)
          repeat (quiet_step (fail))
          refine wpQuiet_nil ?_
          rintro w9 hw9
          have B9 : Below w8.heap.size w8 w9 := by
            obtain ⟨p, rfl⟩ := hw9
            exact below_regrown _ _ _
          clear hw9 cA cB cC r0 r1 r2 r3 r4 r5
          go_wp2
          go_ret
          exact ⟨rfl, belowStep BW BW.size B9⟩
      · have hg2 : (g == 0) = false := by rw [beq_eq_false_iff_ne]; exact hg
        by_cases hf : f = 0
        · subst hf
          by_cases hh : h = 0
          · obtain ⟨d', hd', htd⟩ := HH.out.2.2 hh
            subst hh
            have hts : t.size = d'.size + (a.size + b.size) := by rw [htd, ByteArray.size_append, ByteArray.size_append]
            obtain ⟨k2, hk2⟩ : ∃ k, t.size - a.size - b.size = k := ⟨_, rfl⟩
            have m1 : ¬ (t.size : Int) ≤ (a.size : Int) + b.size := by omega
            have m2 : (t.size : Int) - a.size - b.size = k2 := by omega
            have m5 : IntKind.i64.wrap ((t.size : Int) - a.size) = (t.size : Int) - a.size := by rw [IntKind.wrap_i64]; omega
            have m3 : IntKind.i64.wrap (k2 : Int) = k2 := by rw [IntKind.wrap_i64]; omega
            have m4 : (k2 : Int) ≤ t.size := by omega
            have hte : t.extract k2 t.size = a ++ b := by
              have e1 : k2 = d'.size := by omega
              have := app_right d' (a ++ b)
              rw [← htd] at this
              rw [e1]
              exact this
            have HD' : Hid _ := htd
            clear htd hts hd'
            clear HH
            go_wp2_with fail
            refine wp_region_quiet_below (by kernel_rfl) (by kernel_rfl) ?_
            iterate 12 (quiet_step (fail))
            quiet_step (exact cA _ _)
            iterate 4 (quiet_step (fail))
            quiet_step (exact cB _ _)
            iterate 2 (quiet_step (fail))
            quiet_step (exact cC _ _)
            repeat (quiet_step (fail))
            refine wpQuiet_nil ?_
            rintro w9 hw9
            have B9 : Below w8.heap.size w8 w9 := by
              obtain ⟨p, rfl⟩ := hw9
              exact below_regrown _ _ _
            clear hw9 cA cB cC r0 r1 r2 r3 r4 r5
            go_wp2
            go_ret
            exact ⟨rfl, belowStep BW BW.size B9⟩
          · have hh2 : (h == 0) = false := by rw [beq_eq_false_iff_ne]; exact hh
            clear HH
            go_wp2_with fail
            refine wp_region_quiet_below (by kernel_rfl) (by kernel_rfl) ?_
            iterate 12 (quiet_step (fail))
            quiet_step (exact cA _ _)
            iterate 4 (quiet_step (fail))
            quiet_step (exact cB _ _)
            iterate 2 (quiet_step (fail))
            quiet_step (exact cC _ _)
            repeat (quiet_step (fail))
            refine wpQuiet_nil ?_
            rintro w9 hw9
            have B9 : Below w8.heap.size w8 w9 := by
              obtain ⟨p, rfl⟩ := hw9
              exact below_regrown _ _ _
            clear hw9 cA cB cC r0 r1 r2 r3 r4 r5
            go_wp2
            go_ret
            exact ⟨rfl, belowStep BW BW.size B9⟩
        · have hf2 : (f == 0) = false := by rw [beq_eq_false_iff_ne]; exact hf
          clear HH
          go_wp2_with fail
          refine wp_region_quiet_below (by kernel_rfl) (by kernel_rfl) ?_
          iterate 12 (quiet_step (fail))
          quiet_step (exact cA _ _)
          iterate 4 (quiet_step (fail))
          quiet_step (exact cB _ _)
          iterate 2 (quiet_step (fail))
          quiet_step (exact cC _ _)
          repeat (quiet_step (fail))
          refine wpQuiet_nil ?_
          rintro w9 hw9
          have B9 : Below w8.heap.size w8 w9 := by
            obtain ⟨p, rfl⟩ := hw9
            exact below_regrown _ _ _
          clear hw9 cA cB cC r0 r1 r2 r3 r4 r5
          go_wp2
          go_ret
          exact ⟨rfl, belowStep BW BW.size B9⟩
    · have he2 : (e == 0) = false := by rw [beq_eq_false_iff_ne]; exact he
      have hg : g ≠ 0 := fun h => he (HH.out.2.1 h).1
      have hg2 : (g == 0) = false := by rw [beq_eq_false_iff_ne]; exact hg
      have hg3 : (g != 0) = true := by rw [bne, hg2]; rfl
      clear HH
      go_wp2_with fail
      refine wp_region_quiet_below (by kernel_rfl) (by kernel_rfl) ?_
      iterate 12 (quiet_step (fail))
      quiet_step (exact cA _ _)
      iterate 4 (quiet_step (fail))
      quiet_step (exact cB _ _)
      iterate 2 (quiet_step (fail))
      quiet_step (exact cC _ _)
      repeat (quiet_step (fail))
      refine wpQuiet_nil ?_
      rintro w9 hw9
      have B9 : Below w8.heap.size w8 w9 := by
        obtain ⟨p, rfl⟩ := hw9
        exact below_regrown _ _ _
      clear hw9 cA cB cC r0 r1 r2 r3 r4 r5
      go_wp2
      go_ret
      exact ⟨rfl, belowStep BW BW.size B9⟩
end Go.Proofs.Yteaongogomhooaa
