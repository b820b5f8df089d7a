/- The law's shown; Sum over parts. -/
import Derived.Test.YtpaiopnhipdikaaDoorS12
namespace Go.Proofs.YtpaiopnhipdikaaDoor
open Go.RowKit Go.Sort

/-- Parts, one behind the other. -/
def joinOf (xs : List ByteArray) : ByteArray := ⟨(Lib.join (xs.map (·.data.toList)) ([] : List UInt8)).toArray⟩

theorem sum_list (bk o c : Nat) (xs : List ByteArray) (w : World) (hl : Laid w) (hcells : ∀ (j : Nat) x, xs[j]? = some x → w.cell? ⟨bk, o + j, none⟩ = some (.string x))
    (hbk : bk < w.heap.size) (hN : xs.length ≤ 140737488355328) (hcap : xs.length ≤ c) (hlen : (Lib.join (xs.map (·.data.toList)) ([] : List UInt8)).length ≤ 140737488355328) :
    Calls Tryd.prog 10 #[.slice (some ⟨bk, o, none⟩) xs.length c] w fun e w' => e = .returned (.string (sumOf (joinOf xs))) ∧ Below w.heap.size w w' := by
  have hz : (joinOf xs).size = (Lib.join (xs.map (·.data.toList)) ([] : List UInt8)).length := by simp [joinOf, ByteArray.size]
  refine sum_any _ (joinOf xs) (by rw [hz]; omega) w hl fun W hb => ?_
  exact Tryd.strings_Join bk o c xs ⟨#[]⟩ W (fun j x hx => (hb.cell (p := ⟨bk, o + j, none⟩) hbk).trans (hcells j x hx)) (Nat.lt_of_lt_of_le hbk hb.size) hN hcap hlen

theorem sum_two (x y t : ByteArray) (hj : joinOf [x, y] = t) (hx : x.size ≤ 1000000) (hy : y.size ≤ 1000000) (g : Nat) (w : World) (hl : Laid w) (hg : g < w.heap.size) (h0 : w.cell? ⟨g, 0, none⟩ = some (.string x)) (h1 : w.cell? ⟨g, 1, none⟩ = some (.string y)) :
    Calls Tryd.prog 10 #[.slice (some ⟨g, 0, none⟩) 2 2] w fun e w' => e = .returned (.string (sumOf t)) ∧ Below w.heap.size w w' := by
  have hc := sum_list g 0 2 [x, y] w hl (fun j u hu => by
    match j, hu with
    | 0, hu => cases hu; simpa using h0
    | 1, hu => cases hu; simpa using h1) hg (by simp) (by simp) (by simp [Lib.join]; have e1 : x.data.size = x.size := rfl; have e2 : y.data.size = y.size := rfl; omega)
  rw [hj] at hc
  exact hc

set_option maxRecDepth 20000 in
set_option maxHeartbeats 4000000 in
theorem shown_any (w : World) (hl : Laid w) :
    Calls Tryd.prog 8 #[] w fun e w' => e = .returned (.bool true) ∧ Below w.heap.size w w' := by
  have KS : Hid (∀ (g : Nat) (w : World), _) := fun (g : Nat) (w : World) (hl : Laid w) (hg : g < w.heap.size) h0 h1 => sum_two ⟨#[97]⟩ ⟨#[98, 99]⟩ abc rfl (by decide) (by decide) g w hl hg h0 h1
  have KH : Hid (∀ w : World, _) := fun w : World => hex_any (sumOf abc) (by rw [sum_abc]; decide) w
  rw [hex_abc] at KH
  obtain ⟨s, hs⟩ : ∃ s, sumOf abc = s := ⟨_, rfl⟩
  rw [hs] at KS KH
  clear hs
  go_enter Tryd.func8, Tryd.ntmps8
  go_wp2_with fail
  have B0 : Below w.heap.size w (w.alloc (.cells #[.string ⟨#[97]⟩, .string ⟨#[98, 99]⟩] 9)) := (Below.refl _ w).alloc (Nat.le_refl _) _
  refine (KS.out w.heap.size _ (hl.below B0) (by simp) (by simp [go_sem]) (by simp [go_sem])).mono ?_
  rintro e w1 ⟨rfl, B1⟩
  have BW1 := belowStep B0 B0.size B1
  clear B0 B1
  go_wp2_with fail
  refine (KH.out _).mono ?_
  rintro e w2 ⟨rfl, B2⟩
  have BW2 := belowStep BW1 BW1.size B2
  clear BW1 B2
  go_wp2_with fail
  have B0 : Below w2.heap.size w2 (w2.alloc (.cells #[.string ⟨#[97]⟩, .string ⟨#[98, 99]⟩] 9)) := (Below.refl _ w2).alloc (Nat.le_refl _) _
  refine (KS.out w2.heap.size _ ((hl.below BW2).below B0) (by simp) (by simp [go_sem]) (by simp [go_sem])).mono ?_
  rintro e w3 ⟨rfl, B3⟩
  have BW3 := belowStep BW2 BW2.size (belowStep B0 B0.size B3)
  clear B0 B3 BW2
  go_wp2_with fail
  refine (KH.out _).mono ?_
  rintro e w4 ⟨rfl, B4⟩
  have BW4 := belowStep BW3 BW3.size B4
  clear BW3 B4 KS KH hl
  go_wp2
  go_ret
  exact ⟨congrArg (fun b => Ending.returned (.bool b)) (by decide +kernel), BW4⟩

theorem join_one (x : ByteArray) : joinOf [x] = x := by
  simp [joinOf, Lib.join]
theorem join_mid (x : ByteArray) : joinOf [⟨#[]⟩, x, ⟨#[]⟩] = x := by
  simp [joinOf, Lib.join]
theorem join_two (x : ByteArray) (p : Nat) (h : p ≤ x.size) : joinOf [x.extract 0 p, x.extract p x.size] = x := by
  have hz : x.data.size = x.size := rfl
  have e : (x.extract 0 p).data.toList ++ (x.extract p x.size).data.toList = x.data.toList := by
    rw [ByteArray.data_extract, ByteArray.data_extract, Array.toList_extract, Array.toList_extract]
    simp only [List.extract_eq_take_drop, List.drop_zero, Nat.sub_zero]
    rw [List.take_of_length_le (l := List.drop p x.data.toList) (by rw [List.length_drop, Array.length_toList]; omega), List.take_append_drop]
  have e2 : Lib.join ([x.extract 0 p, x.extract p x.size].map (·.data.toList)) ([] : List UInt8) = (x.extract 0 p).data.toList ++ (x.extract p x.size).data.toList := by
    simp [Lib.join]
  unfold joinOf
  rw [e2, e]
theorem sum_size (t : ByteArray) : (sumOf t).size = 32 := by
  show (by8 32 _).toArray.size = 32
  rw [List.size_toArray, by8_len]
end Go.Proofs.YtpaiopnhipdikaaDoor
