/- The law ShaSums, walked, whatever its texts' lengths. -/
import Derived.Test.YtpaiopnhipdikaaDoorP5
namespace Go.Proofs.YtpaiopnhipdikaaDoor
open Go.RowKit Go.Sort

theorem cat_bd (xs : List ByteArray) (M : Nat) (h : ∀ x ∈ xs, x.size ≤ M) : (catOf xs).size ≤ xs.length * M := by
  have h0 := cat_data xs ⟨#[]⟩
  have e2 : (catOf xs).size = (catOf xs).data.toList.length := by simp
  rw [e2]
  unfold catOf
  rw [h0]
  have e3 : ∀ zs : List ByteArray, (∀ x ∈ zs, x.size ≤ M) → ((zs.map (·.data.toList)).flatten).length ≤ zs.length * M := fun zs => by
    induction zs with
    | nil => intro _; simp
    | cons x zs ih =>
      intro hz
      have h1 := ih (fun y hy => hz y (List.mem_cons_of_mem _ hy))
      have h2 : x.data.toList.length ≤ M := by have := hz x List.mem_cons_self; simpa using this
      rw [List.map_cons, List.flatten_cons, List.length_append, List.length_cons, Nat.add_mul]
      omega
  simpa using e3 xs h

set_option maxRecDepth 20000 in
set_option maxHeartbeats 2000000 in
theorem joinedw_any (b o cap : Nat) (xs : List ByteArray) (hlen : xs.length ≤ 100) (hsz : (catOf xs).size ≤ 18014398509481984) (w : World) (hb : b < w.heap.size) (hcells : ∀ j x, xs[j]? = some x → w.cell? ⟨b, o + j, none⟩ = some (.string x)) :
    Calls Tryd.prog 9 #[.slice (some ⟨b, o, none⟩) xs.length cap] w fun e w' => e = .returned (.string (catOf xs)) ∧ Below w.heap.size w w' := by
  obtain ⟨n, hn⟩ : ∃ n, xs.length = n := ⟨_, rfl⟩
  have HC : Hid (∀ j x, xs[j]? = some x → w.cell? ⟨b, o + j, none⟩ = some (.string x)) := hcells
  clear hcells
  rw [hn]
  go_enter Tryd.func9, Tryd.ntmps9
  go_wp2
  go_loopg [3, 4] n (fun gk s i wr => ∃ k : Nat, ∃ t : ByteArray, k + gk = n ∧ s = .string t ∧ i = .int .i64 k ∧ Below w.heap.size w wr ∧ Hid (t = catOf (xs.take k)))
  case atStart => exact ⟨0, _, by omega, rfl, rfl, Below.refl _ _, (rfl : _ = _)⟩
  case round =>
    obtain ⟨k, t, hk, rfl, rfl, BW, hH⟩ := hrel
    by_cases hlt : k < n
    · have l0 : (k : Int) < n := by omega
      have l1 : (k : Int) < 100 := by omega
      obtain ⟨x, hx⟩ : ∃ x, xs[k]? = some x := ⟨xs[k]'(by omega), by simp [hn, hlt]⟩
      have m0 := (BW.cell (p := ⟨b, o + k, none⟩) hb).trans (HC.out k x hx)
      have hT := cat_take xs k x hx
      have hz := cat_le xs (k + 1)
      rw [hT, ← hH.out, ByteArray.size_append] at hz
      have hz2 : t.size + x.size ≤ 18014398509481984 := by omega
      have HT : Hid (_ = _) := hT
      clear hT hz hx
      go_wp2
      go_roundg (gk - 1)
      case measure => omega
      case rel => exact ⟨k + 1, _, by omega, rfl, rfl, BW, by show _ = _; rw [HT.out, ← hH.out]⟩
    · have hk2 : k = n := by omega
      subst hk2
      clear hlt
      have l0 : ¬ (k : Int) < k := by omega
      go_wp2
      go_ret
      exact ⟨by rw [hH.out, List.take_of_length_le (by omega)]; rfl, BW⟩

set_option maxRecDepth 20000 in
set_option maxHeartbeats 2000000 in
theorem sumsw_any (b o cap : Nat) (xs : List ByteArray) (hcap : xs.length ≤ cap) (hsz : ∀ x ∈ xs, x.size ≤ 140737488355328) (w : World) (hl : Laid w) (hb : b < w.heap.size) (hcells : ∀ j x, xs[j]? = some x → w.cell? ⟨b, o + j, none⟩ = some (.string x)) :
    Calls Tryd.prog 3 #[.slice (some ⟨b, o, none⟩) xs.length cap] w fun e w' => e = .returned (.bool true) ∧ Below w.heap.size w w' := by
  obtain ⟨n, hn⟩ : ∃ n, xs.length = n := ⟨_, rfl⟩
  obtain ⟨m, hm⟩ : ∃ m, min n 100 = m := ⟨_, rfl⟩
  obtain ⟨ys, hys⟩ : ∃ ys, xs.take m = ys := ⟨_, rfl⟩
  have hyl : ys.length = m := by rw [← hys, List.length_take]; omega
  have hyz : (catOf ys).size ≤ 14073748835532800 := by
    have h1 := cat_bd ys 140737488355328 (fun x hx => hsz x (by rw [← hys] at hx; exact List.mem_of_mem_take hx))
    rw [hyl] at h1
    have h2 : m * 140737488355328 ≤ 100 * 140737488355328 := Nat.mul_le_mul_right _ (by omega)
    omega
  have HC : Hid (∀ j x, ys[j]? = some x → w.cell? ⟨b, o + j, none⟩ = some (.string x)) := fun j x hx => by
    rw [← hys, List.getElem?_take] at hx
    split at hx
    · exact hcells j x hx
    · cases hx
  clear hcells hys
  have hmi : min (n : Int) 100 = m := by omega
  rw [hn] at hcap ⊢
  clear hn
  go_enter Tryd.func3, Tryd.ntmps3
  go_wp2_with fail
  refine (shown_any w hl).mono ?_
  rintro e w1 ⟨rfl, B1⟩
  have L1 := hl.below B1
  go_wp2_with fail
  have KJ := joinedw_any b o cap ys (by omega) (by omega) w1 (Nat.lt_of_lt_of_le hb B1.size) (fun j x hx => (B1.cell (p := ⟨b, o + j, none⟩) hb).trans (HC.out j x hx))
  rw [hyl] at KJ
  refine KJ.mono ?_
  rintro e w2 ⟨rfl, B2⟩
  have BW2 := belowStep B1 B1.size B2
  have L9' := hl.below BW2
  clear KJ B1 B2 L1
  have hcz : ¬ 100000 < (catOf ys).size → ∀ W, Below w2.heap.size w2 W → _ := fun hsm W (hB : Below w2.heap.size w2 W) => sum_list b o cap ys W (L9'.below hB) (fun j x hx => (hB.cell (p := ⟨b, o + j, none⟩) (Nat.lt_of_lt_of_le hb BW2.size)).trans ((BW2.cell (p := ⟨b, o + j, none⟩) hb).trans (HC.out j x hx))) (Nat.lt_of_lt_of_le hb (Nat.le_trans BW2.size hB.size)) (by omega) (by omega) (by
    have e : (joinOf ys).size = (Lib.join (ys.map (·.data.toList)) ([] : List UInt8)).length := by simp [joinOf, ByteArray.size]
    rw [← e, join_cat]; omega)
  rw [join_cat, hyl] at hcz
  obtain ⟨t, ht⟩ : ∃ t, catOf ys = t := ⟨_, rfl⟩
  rw [ht] at hcz hyz ⊢
  have KZ : Hid (¬ 100000 < t.size → _) := hcz
  clear hcz
  clear ht
  by_cases hbig : 100000 < t.size
  · have hbi : (100000 : Int) < t.size := by omega
    go_wp2
    go_ret
    exact ⟨rfl, BW2⟩
  · have hbi : ¬ (100000 : Int) < t.size := by omega
    have KS : Hid (∀ W, Below w2.heap.size w2 W → _) := KZ.out hbig
    clear KZ
    have KR : Hid (∀ W : World, _) := fun W : World => rsum_any t (by omega) W
    obtain ⟨a, ha⟩ : ∃ a, sumOf t = a := ⟨_, rfl⟩
    rw [ha] at KS KR
    clear ha
    go_wp2_with fail
    refine (KS.out _ (Below.refl _ _)).mono ?_
    rintro e w3 ⟨rfl, B3⟩
    go_wp2_with fail
    refine (KR.out _).mono ?_
    rintro e w4 ⟨rfl, B4⟩
    have B5 := belowStep BW2 BW2.size (belowStep B3 B3.size B4)
    clear KS KR BW2 B3 B4
    go_wp2
    go_ret
    exact ⟨rfl, B5⟩

end Go.Proofs.YtpaiopnhipdikaaDoor
