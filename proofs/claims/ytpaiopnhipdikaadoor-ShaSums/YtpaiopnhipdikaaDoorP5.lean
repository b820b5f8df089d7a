/- The law ShaSums, walked. -/
import Derived.Test.YtpaiopnhipdikaaDoorR8
import Derived.Test.YtpaiopnhipdikaaDoorS13
namespace Go.Proofs.YtpaiopnhipdikaaDoor
open Go.RowKit Go.Sort

/-- Texts, one behind the other. -/
def catOf (xs : List ByteArray) : ByteArray := xs.foldl (· ++ ·) ⟨#[]⟩
theorem cat_snoc (xs : List ByteArray) (x : ByteArray) : catOf (xs ++ [x]) = catOf xs ++ x := by simp [catOf, List.foldl_append]
theorem cat_take (xs : List ByteArray) (k : Nat) (x : ByteArray) (h : xs[k]? = some x) : catOf (xs.take (k + 1)) = catOf (xs.take k) ++ x := by
  rw [List.take_add_one, h]
  exact cat_snoc _ _
theorem cat_data (xs : List ByteArray) : ∀ a : ByteArray, (xs.foldl (· ++ ·) a).data.toList = a.data.toList ++ (xs.map (·.data.toList)).flatten := by
  induction xs with
  | nil => intro a; simp
  | cons x xs ih => intro a; rw [List.foldl_cons, ih]; simp [ByteArray.data_append]
theorem join_flat (ls : List (List UInt8)) : Lib.join ls ([] : List UInt8) = ls.flatten := by
  induction ls with
  | nil => simp [Lib.join]
  | cons x r ih =>
    cases r with
    | nil => simp [Lib.join]
    | cons y r => simp [Lib.join] at ih ⊢; exact ih
theorem join_cat (xs : List ByteArray) : joinOf xs = catOf xs := by
  have h := cat_data xs ⟨#[]⟩
  have e : (catOf xs).data.toList = (xs.map (·.data.toList)).flatten := by
    unfold catOf
    rw [h]
    simp
  unfold joinOf
  rw [join_flat, ← e]
theorem cat_le (xs : List ByteArray) (k : Nat) : (catOf (xs.take k)).size ≤ (catOf xs).size := by
  have e : ∀ ys : List ByteArray, (catOf ys).size = ((ys.map (·.data.toList)).flatten).length := fun ys => by
    have h := cat_data ys ⟨#[]⟩
    have e2 : (catOf ys).size = (catOf ys).data.toList.length := by simp
    rw [e2]
    unfold catOf
    rw [h]
    simp
  rw [e, e, List.map_take]
  have : (xs.map (·.data.toList)).flatten = ((xs.map (·.data.toList)).take k).flatten ++ ((xs.map (·.data.toList)).drop k).flatten := by
    rw [← List.flatten_append, List.take_append_drop]
  rw [this, List.length_append]
  omega

set_option maxRecDepth 20000 in
set_option maxHeartbeats 2000000 in
theorem joined_any (b o cap : Nat) (xs : List ByteArray) (hlen : xs.length ≤ 100) (hsz : (catOf xs).size ≤ 2000000) (w : World) (hb : b < w.heap.size) (hcells : ∀ j x, xs[j]? = some x → w.cell? ⟨b, o + j, none⟩ = some (.string x)) :
    Calls Tryd.prog 9 #[.slice (some ⟨b, o, none⟩) xs.length cap] w fun e w' => e = .returned (.string (catOf xs)) ∧ Below w.heap.size w w' := by
  obtain ⟨n, hn⟩ : ∃ n, xs.length = n := ⟨_, rfl⟩
  have HC : Hid (∀ j x, xs[j]? = some x → w.cell? ⟨b, o + j, none⟩ = some (.string x)) := hcells
  clear hcells
  rw [hn]
  go_enter Tryd.func9, Tryd.ntmps9
  go_wp2
  go_loopg [3, 4] n (fun gk s i wr => ∃ k : Nat, ∃ t : ByteArray, k + gk = n ∧ s = .string t ∧ i = .int .i64 k ∧ Below w.heap.size w wr ∧ Hid (t = catOf (xs.take k)))
  case atStart => exact ⟨0, _, by omega, rfl, rfl, Below.refl _ _, (rfl : _ = _)⟩
  case round =>
    obtain ⟨k, t, hk, rfl, rfl, BW, hH⟩ := hrel
    by_cases hlt : k < n
    · have l0 : (k : Int) < n := by omega
      have l1 : (k : Int) < 100 := by omega
      obtain ⟨x, hx⟩ : ∃ x, xs[k]? = some x := ⟨xs[k]'(by omega), by simp [hn, hlt]⟩
      have m0 := (BW.cell (p := ⟨b, o + k, none⟩) hb).trans (HC.out k x hx)
      have hT := cat_take xs k x hx
      have hz := cat_le xs (k + 1)
      rw [hT, ← hH.out, ByteArray.size_append] at hz
      have hz2 : t.size + x.size ≤ 2000000 := by omega
      have HT : Hid (_ = _) := hT
      clear hT hz hx
      go_wp2
      go_roundg (gk - 1)
      case measure => omega
      case rel => exact ⟨k + 1, _, by omega, rfl, rfl, BW, by show _ = _; rw [HT.out, ← hH.out]⟩
    · have hk2 : k = n := by omega
      subst hk2
      clear hlt
      have l0 : ¬ (k : Int) < k := by omega
      go_wp2
      go_ret
      exact ⟨by rw [hH.out, List.take_of_length_le (by omega)]; rfl, BW⟩

set_option maxRecDepth 20000 in
set_option maxHeartbeats 2000000 in
theorem joined_nil (w : World) :
    Calls Tryd.prog 9 #[.slice none 0 0] w fun e w' => e = .returned (.string ⟨#[]⟩) ∧ Below w.heap.size w w' := by
  go_enter Tryd.func9, Tryd.ntmps9
  go_wp2
  go_loopg [3, 4] 0 (fun gk s i wr => s = .string ⟨#[]⟩ ∧ i = .int .i64 0 ∧ Below w.heap.size w wr)
  case atStart => exact ⟨rfl, rfl, Below.refl _ _⟩
  case round =>
    obtain ⟨rfl, rfl, BW⟩ := hrel
    go_wp2
    go_ret
    exact ⟨rfl, BW⟩

set_option maxRecDepth 20000 in
set_option maxHeartbeats 2000000 in
theorem joined_empty (a : Addr) (c : Nat) (w : World) :
    Calls Tryd.prog 9 #[.slice (some a) 0 c] w fun e w' => e = .returned (.string ⟨#[]⟩) ∧ Below w.heap.size w w' := by
  go_enter Tryd.func9, Tryd.ntmps9
  go_wp2
  go_loopg [3, 4] 0 (fun gk s i wr => s = .string ⟨#[]⟩ ∧ i = .int .i64 0 ∧ Below w.heap.size w wr)
  case atStart => exact ⟨rfl, rfl, Below.refl _ _⟩
  case round =>
    obtain ⟨rfl, rfl, BW⟩ := hrel
    go_wp2
    go_ret
    exact ⟨rfl, BW⟩

set_option maxRecDepth 20000 in
set_option maxHeartbeats 2000000 in
theorem sums_any (b o cap : Nat) (xs : List ByteArray) (hcap : xs.length ≤ cap) (hsz : (catOf xs).size ≤ 1048576) (w : World) (hl : Laid w) (hb : b < w.heap.size) (hcells : ∀ j x, xs[j]? = some x → w.cell? ⟨b, o + j, none⟩ = some (.string x)) :
    Calls Tryd.prog 3 #[.slice (some ⟨b, o, none⟩) xs.length cap] w fun e w' => e = .returned (.bool true) ∧ Below w.heap.size w w' := by
  obtain ⟨n, hn⟩ : ∃ n, xs.length = n := ⟨_, rfl⟩
  obtain ⟨m, hm⟩ : ∃ m, min n 100 = m := ⟨_, rfl⟩
  obtain ⟨ys, hys⟩ : ∃ ys, xs.take m = ys := ⟨_, rfl⟩
  have hyl : ys.length = m := by rw [← hys, List.length_take]; omega
  have hyz : (catOf ys).size ≤ 1048576 := by rw [← hys]; have := cat_le xs m; omega
  have HC : Hid (∀ j x, ys[j]? = some x → w.cell? ⟨b, o + j, none⟩ = some (.string x)) := fun j x hx => by
    rw [← hys, List.getElem?_take] at hx
    split at hx
    · exact hcells j x hx
    · cases hx
  clear hcells hys
  have hmi : min (n : Int) 100 = m := by omega
  rw [hn] at hcap ⊢
  clear hn
  go_enter Tryd.func3, Tryd.ntmps3
  go_wp2_with fail
  refine (shown_any w hl).mono ?_
  rintro e w1 ⟨rfl, B1⟩
  have L1 := hl.below B1
  go_wp2_with fail
  have KJ := joined_any b o cap ys (by omega) (by omega) w1 (Nat.lt_of_lt_of_le hb B1.size) (fun j x hx => (B1.cell (p := ⟨b, o + j, none⟩) hb).trans (HC.out j x hx))
  rw [hyl] at KJ
  refine KJ.mono ?_
  rintro e w2 ⟨rfl, B2⟩
  have BW2 := belowStep B1 B1.size B2
  have L2' := hl.below BW2
  clear KJ B1 B2 L1
  have KS : Hid (∀ W, Below w2.heap.size w2 W → _) := fun W (hB : Below w2.heap.size w2 W) => sum_list b o cap ys W (L2'.below hB) (fun j x hx => (hB.cell (p := ⟨b, o + j, none⟩) (Nat.lt_of_lt_of_le hb BW2.size)).trans ((BW2.cell (p := ⟨b, o + j, none⟩) hb).trans (HC.out j x hx))) (Nat.lt_of_lt_of_le hb (Nat.le_trans BW2.size hB.size)) (by omega) (by omega) (by
    have e : (joinOf ys).size = (Lib.join (ys.map (·.data.toList)) ([] : List UInt8)).length := by simp [joinOf, ByteArray.size]
    rw [← e, join_cat]; omega)
  rw [join_cat, hyl] at KS
  obtain ⟨t, ht⟩ : ∃ t, catOf ys = t := ⟨_, rfl⟩
  rw [ht] at KS hyz ⊢
  clear ht
  by_cases hbig : 100000 < t.size
  · have hbi : (100000 : Int) < t.size := by omega
    go_wp2
    go_ret
    exact ⟨rfl, BW2⟩
  · have hbi : ¬ (100000 : Int) < t.size := by omega
    have KR : Hid (∀ W : World, _) := fun W : World => rsum_any t (by omega) W
    obtain ⟨a, ha⟩ : ∃ a, sumOf t = a := ⟨_, rfl⟩
    rw [ha] at KS KR
    clear ha
    go_wp2_with fail
    refine (KS.out _ (Below.refl _ _)).mono ?_
    rintro e w3 ⟨rfl, B3⟩
    go_wp2_with fail
    refine (KR.out _).mono ?_
    rintro e w4 ⟨rfl, B4⟩
    have B5 := belowStep BW2 BW2.size (belowStep B3 B3.size B4)
    clear KS KR BW2 B3 B4
    go_wp2
    go_ret
    exact ⟨rfl, B5⟩

set_option maxRecDepth 20000 in
set_option maxHeartbeats 2000000 in
theorem sums_nil (w : World) (hl : Laid w) :
    Calls Tryd.prog 3 #[.slice none 0 0] w fun e w' => e = .returned (.bool true) ∧ Below w.heap.size w w' := by
  have KS : Hid (∀ W : World, Laid W → _) := fun (W : World) (hL : Laid W) => sum_any (.slice none 0 0) ⟨#[]⟩ (by decide) W hL (fun V _ => (Tryd.strings_Join_none none 0 ⟨#[]⟩ V).mono fun e V' ⟨he, hv⟩ => ⟨he, by rw [hv]; exact Below.refl _ _⟩)
  have KR : Hid (∀ W : World, _) := fun W : World => rsum_any ⟨#[]⟩ (by decide) W
  obtain ⟨a, ha⟩ : ∃ a, sumOf ⟨#[]⟩ = a := ⟨_, rfl⟩
  rw [ha] at KS KR
  clear ha
  go_enter Tryd.func3, Tryd.ntmps3
  go_wp2_with fail
  refine (shown_any w hl).mono ?_
  rintro e w1 ⟨rfl, B1⟩
  go_wp2_with fail
  refine (joined_nil w1).mono ?_
  rintro e w2 ⟨rfl, B2⟩
  have BW2 := belowStep B1 B1.size B2
  clear B1 B2
  go_wp2_with fail
  refine (KS.out _ (hl.below BW2)).mono ?_
  rintro e w3 ⟨rfl, B3⟩
  go_wp2_with fail
  refine (KR.out _).mono ?_
  rintro e w4 ⟨rfl, B4⟩
  have B5 := belowStep BW2 BW2.size (belowStep B3 B3.size B4)
  clear KS KR BW2 B3 B4 hl
  go_wp2
  go_ret
  exact ⟨rfl, B5⟩

set_option maxRecDepth 20000 in
set_option maxHeartbeats 2000000 in
theorem sums_empty (ad : Addr) (c : Nat) (w : World) (hl : Laid w) :
    Calls Tryd.prog 3 #[.slice (some ad) 0 c] w fun e w' => e = .returned (.bool true) ∧ Below w.heap.size w w' := by
  have KS : Hid (∀ W : World, Laid W → _) := fun (W : World) (hL : Laid W) => sum_any (.slice (some ad) 0 c) ⟨#[]⟩ (by decide) W hL (fun V _ => (Tryd.strings_Join_none (some ad) c ⟨#[]⟩ V).mono fun e V' ⟨he, hv⟩ => ⟨he, by rw [hv]; exact Below.refl _ _⟩)
  have KR : Hid (∀ W : World, _) := fun W : World => rsum_any ⟨#[]⟩ (by decide) W
  obtain ⟨a, ha⟩ : ∃ a, sumOf ⟨#[]⟩ = a := ⟨_, rfl⟩
  rw [ha] at KS KR
  clear ha
  go_enter Tryd.func3, Tryd.ntmps3
  go_wp2_with fail
  refine (shown_any w hl).mono ?_
  rintro e w1 ⟨rfl, B1⟩
  go_wp2_with fail
  refine (joined_empty ad c w1).mono ?_
  rintro e w2 ⟨rfl, B2⟩
  have BW2 := belowStep B1 B1.size B2
  clear B1 B2
  go_wp2_with fail
  refine (KS.out _ (hl.below BW2)).mono ?_
  rintro e w3 ⟨rfl, B3⟩
  go_wp2_with fail
  refine (KR.out _).mono ?_
  rintro e w4 ⟨rfl, B4⟩
  have B5 := belowStep BW2 BW2.size (belowStep B3 B3.size B4)
  clear KS KR BW2 B3 B4 hl
  go_wp2
  go_ret
  exact ⟨rfl, B5⟩
end Go.Proofs.YtpaiopnhipdikaaDoor
