/- Arrays of parts compared, at this translation: they are the same just where all their parts are. -/
import Derived.Test.YtgapcjdgakamoaaBase
import Derived.ChangeKeysEq
namespace Go.Proofs.Ytgapcjdgakamoaa
open Go.RowKit

theorem eq_part (d : Nat) (x y : Int) (w : World) : (Op.equalIn (d + 1) 22 (.int .u64 x) (.int .u64 y)).run Try.prog w = .ok (x == y) w := by
  simp [Op.equalIn, run_underlying Try.underlying22, go_sem]

theorem eq_items (d : Nat) (xs ys : Array Value) (f g : Nat → Int) (w : World) : ∀ is : List Nat, (∀ j, j ∈ is → xs[j]? = some (.int .u64 (f j)) ∧ ys[j]? = some (.int .u64 (g j))) →
    (Op.eqItems (d + 1) 22 1 xs ys is).run Try.prog w = .ok (is.all fun j => f j == g j) w
  | [], _ => by simp [Op.eqItems]
  | j :: is, h => by
    have hj := h j (by simp)
    have p1 : (part 22 xs (j * 1)).run Try.prog w = .ok (.int .u64 (f j)) w := by rw [Nat.mul_one]; exact run_part_plain w (by kernel_rfl) hj.1
    have p2 : (part 22 ys (j * 1)).run Try.prog w = .ok (.int .u64 (g j)) w := by rw [Nat.mul_one]; exact run_part_plain w (by kernel_rfl) hj.2
    have ih := eq_items d xs ys f g w is (fun k hk => h k (by simp [hk]))
    simp only [Op.eqItems, Sem.run_bind, p1, p2, eq_part, Result.andThen_ok, List.all_cons]
    by_cases e : f j = g j
    · simp [e, ih]
    · simp [e]

theorem eq_arr (t n : Nat) (hu : Try.prog.underlying t = some (.array n 22)) (xs ys : Array Value) (f g : Nat → Int) (w : World) (h : ∀ j, j < n → xs[j]? = some (.int .u64 (f j)) ∧ ys[j]? = some (.int .u64 (g j))) :
    (Op.equalIn 10000 t (.agg xs) (.agg ys)).run Try.prog w = .ok ((List.range n).all fun j => f j == g j) w := by
  obtain ⟨i, hi⟩ : ∃ i, Try.prog.info? 22 = some i := Option.isSome_iff_exists.1 (by kernel_rfl)
  rw [show (10000 : Nat) = 9999 + 1 from rfl, run_equalIn_array w 9999 xs ys hu hi, show Try.prog.cellsOf 22 = 1 from by kernel_rfl]
  exact eq_items 9998 xs ys f g w (List.range n) (fun j hj => h j (by simpa using hj))

/-- Two words compared. -/
theorem eq4 (a0 a1 a2 a3 b0 b1 b2 b3 : Int) (w : World) : (Op.equalIn 10000 24 (.agg #[.int .u64 a0, .int .u64 a1, .int .u64 a2, .int .u64 a3]) (.agg #[.int .u64 b0, .int .u64 b1, .int .u64 b2, .int .u64 b3])).run Try.prog w = .ok (decide (a0 = b0 ∧ a1 = b1 ∧ a2 = b2 ∧ a3 = b3)) w := by
  rw [eq_arr 24 4 Try.underlying24 _ _ (fun j => [a0, a1, a2, a3].getD j 0) (fun j => [b0, b1, b2, b3].getD j 0) w]
  · congr 1
    simp [List.range_succ]
    rfl
  · intro j hj
    match j, hj with
    | 0, _ => exact ⟨rfl, rfl⟩
    | 1, _ => exact ⟨rfl, rfl⟩
    | 2, _ => exact ⟨rfl, rfl⟩
    | 3, _ => exact ⟨rfl, rfl⟩

/-- Are all twelve parts 0? -/
def allz (L : Nat → Int) : Bool := (List.range 12).all fun j => L j == 0

theorem eq12 (L : Nat → Int) (w : World) : (Op.equalIn 10000 41 (.agg #[.int .u64 (L 0), .int .u64 (L 1), .int .u64 (L 2), .int .u64 (L 3), .int .u64 (L 4), .int .u64 (L 5), .int .u64 (L 6), .int .u64 (L 7), .int .u64 (L 8), .int .u64 (L 9), .int .u64 (L 10), .int .u64 (L 11)]) (.agg #[.int .u64 0, .int .u64 0, .int .u64 0, .int .u64 0, .int .u64 0, .int .u64 0, .int .u64 0, .int .u64 0, .int .u64 0, .int .u64 0, .int .u64 0, .int .u64 0])).run Try.prog w = .ok (allz L) w := by
  rw [eq_arr 41 12 Try.underlying41 _ _ L (fun _ => 0) w]
  · rfl
  · intro j hj
    match j, hj with
    | 0, _ => exact ⟨rfl, rfl⟩
    | 1, _ => exact ⟨rfl, rfl⟩
    | 2, _ => exact ⟨rfl, rfl⟩
    | 3, _ => exact ⟨rfl, rfl⟩
    | 4, _ => exact ⟨rfl, rfl⟩
    | 5, _ => exact ⟨rfl, rfl⟩
    | 6, _ => exact ⟨rfl, rfl⟩
    | 7, _ => exact ⟨rfl, rfl⟩
    | 8, _ => exact ⟨rfl, rfl⟩
    | 9, _ => exact ⟨rfl, rfl⟩
    | 10, _ => exact ⟨rfl, rfl⟩
    | 11, _ => exact ⟨rfl, rfl⟩

theorem allz_iff (L : Nat → Int) : allz L = true ↔ ∀ j, j < 12 → L j = 0 := by
  unfold allz
  simp [List.all_eq_true]
end Go.Proofs.Ytgapcjdgakamoaa
