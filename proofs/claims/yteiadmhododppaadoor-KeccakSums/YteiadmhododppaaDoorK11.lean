/- The law's shown. -/
import Derived.Test.YteiadmhododppaaDoorK10
namespace Go.Proofs.YteiadmhododppaaDoor
open Go.RowKit Go.Sort

/-- Parts, one behind the other. -/
def joinOf (xs : List ByteArray) : ByteArray := ⟨(Lib.join (xs.map (·.data.toList)) ([] : List UInt8)).toArray⟩

theorem sum_list (bk o c : Nat) (xs : List ByteArray) (w : World) (hl : Laid w) (hcells : ∀ (j : Nat) x, xs[j]? = some x → w.cell? ⟨bk, o + j, none⟩ = some (.string x))
    (hbk : bk < w.heap.size) (hN : xs.length ≤ 140737488355328) (hcap : xs.length ≤ c) (hlen : (Lib.join (xs.map (·.data.toList)) ([] : List UInt8)).length ≤ 140737488355328) :
    Calls Tryd.prog 7 #[.slice (some ⟨bk, o, none⟩) xs.length c] w fun e w' => e = .returned (.string (sumOf (joinOf xs))) ∧ Below w.heap.size w w' := by
  have hz : (joinOf xs).size = (Lib.join (xs.map (·.data.toList)) ([] : List UInt8)).length := by simp [joinOf, ByteArray.size]
  refine sum_any _ (joinOf xs) (by rw [hz]; omega) w hl fun W hb => ?_
  exact Tryd.strings_Join bk o c xs ⟨#[]⟩ W (fun j x hx => (hb.cell (p := ⟨bk, o + j, none⟩) hbk).trans (hcells j x hx)) (Nat.lt_of_lt_of_le hbk hb.size) hN hcap hlen

set_option maxRecDepth 20000 in
set_option maxHeartbeats 4000000 in
theorem shown_any (w : World) (hl : Laid w) :
    Calls Tryd.prog 5 #[] w fun e w' => e = .returned (.bool true) ∧ Below w.heap.size w w' := by
  have km : IntKind.u64.max = 18446744073709551615 := by decide
  have ks : IntKind.u64.signed = false := rfl
  go_enter Tryd.func5, Tryd.ntmps5
  go_wp2_with fail
  have B0 : Below w.heap.size w (w.alloc (.cells #[.string ⟨#[]⟩, .string ⟨#[]⟩] 9)) := (Below.refl _ w).alloc (Nat.le_refl _) _
  have hc := sum_list w.heap.size 0 2 [⟨#[]⟩, ⟨#[]⟩] (w.alloc (.cells #[.string ⟨#[]⟩, .string ⟨#[]⟩] 9)) (hl.below B0) (fun j x hx => by
    match j, hx with
    | 0, hx => cases hx; simp
    | 1, hx => cases hx; simp) (by simp) (by decide) (by decide) (by decide)
  rw [show joinOf [⟨#[]⟩, ⟨#[]⟩] = ⟨#[]⟩ from rfl, sum_none] at hc
  refine hc.mono ?_
  rintro e w1 ⟨rfl, B1⟩
  have BW := belowStep B0 B0.size B1
  clear hc B0 B1 hl
  go_wp2
  go_ret
  exact ⟨congrArg (fun b => Ending.returned (.bool b)) (by decide +kernel), BW⟩

theorem join_one (x : ByteArray) : joinOf [x] = x := by
  simp [joinOf, Lib.join]
theorem join_none (x : ByteArray) : joinOf [x, ⟨#[]⟩] = x := by
  simp [joinOf, Lib.join]
theorem join_two (x : ByteArray) (p : Nat) (h : p ≤ x.size) : joinOf [x.extract 0 p, x.extract p x.size] = x := by
  have hz : x.data.size = x.size := rfl
  have e : (x.extract 0 p).data.toList ++ (x.extract p x.size).data.toList = x.data.toList := by
    rw [ByteArray.data_extract, ByteArray.data_extract, Array.toList_extract, Array.toList_extract]
    simp only [List.extract_eq_take_drop, List.drop_zero, Nat.sub_zero]
    rw [List.take_of_length_le (l := List.drop p x.data.toList) (by rw [List.length_drop, Array.length_toList]; omega), List.take_append_drop]
  have e2 : Lib.join ([x.extract 0 p, x.extract p x.size].map (·.data.toList)) ([] : List UInt8) = (x.extract 0 p).data.toList ++ (x.extract p x.size).data.toList := by
    simp [Lib.join]
  unfold joinOf
  rw [e2, e]
theorem sum_size (t : ByteArray) : (sumOf t).size = 32 := by
  show (dg _).toArray.size = 32
  rw [List.size_toArray, dg_len]
end Go.Proofs.YteiadmhododppaaDoor
