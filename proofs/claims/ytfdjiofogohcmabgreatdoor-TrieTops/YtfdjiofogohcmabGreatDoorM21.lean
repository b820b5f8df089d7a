/- Lemmas: The document's answers: how many bytes two texts have alike; whether a text is a path. The halves ahead of a path. -/
import Derived.Test.YtfdjiofogohcmabGreatDoorM20
import Derived.Deep.MidRow
namespace Go.Proofs.YtfdjiofogohcmabGreatDoor
open Go.RowKit Go.Sort

/-- Is a text a path? -/
def isP (s : ByteArray) : Bool := (List.range s.size).all fun j => decide (n_bt s j ≤ 15)
theorem isP_iff (s : ByteArray) : isP s = true ↔ ∀ j, j < s.size → n_bt s j ≤ 15 := by
  unfold isP
  simp [List.all_eq_true, List.mem_range]
theorem isP_not (s : ByteArray) (k : Nat) (hk : k < s.size) (h : ¬ n_bt s k ≤ 15) : isP s = false := by
  cases e : isP s with
  | false => rfl
  | true => exact absurd ((isP_iff s).1 e k hk) h

/-- The halves ahead of a path of that length. -/
def hdOf (n : Nat) : Bool → ByteArray
  | true => if n % 2 = 0 then ⟨#[2, 0]⟩ else ⟨#[3]⟩
  | false => if n % 2 = 0 then ⟨#[0, 0]⟩ else ⟨#[1]⟩

/-- New bytes turned to a text. -/
theorem n_conv_new (w : World) (l : List UInt8) : (convert 54 9 (.slice (some ⟨w.heap.size, 0, none⟩) l.length l.length)).run Tryz.prog (w.alloc (.cells (l.map fun b => Value.int .u8 b.toNat).toArray 5)) = .ok (.string ⟨l.toArray⟩) (w.alloc (.cells (l.map fun b => Value.int .u8 b.toNat).toArray 5)) :=
  run_convert_bytes_back (P := Tryz.prog) _ 54 9 5 ⟨w.heap.size, 0, none⟩ l.length l Tryz.underlying54 Tryz.underlying5 Tryz.underlying9 (fun j hj => by
    rw [Addr.add_mid, Nat.zero_add]
    simp [go_sem, hj])

set_option maxRecDepth 20000 in
set_option maxHeartbeats 1000000 in
theorem n_headOf_any (n : Nat) (leaf : Bool) (w : World) :
    Calls Tryz.prog 109 #[.int .i64 n, .bool leaf] w fun e w' => e = .returned (.string (hdOf n leaf)) ∧ Below w.heap.size w w' := by
  have hm : (n : Int).tmod 2 = n % 2 := Int.tmod_eq_emod_of_nonneg (by omega)
  have BN : ∀ o, Below w.heap.size w (w.alloc o) := fun o => (Below.refl _ w).alloc (Nat.le_refl _) o
  by_cases h2 : n % 2 = 0
  · have h3 : (n : Int).tmod 2 = 0 := by omega
    have h4 : (n : Int) % 2 = 0 := by omega
    clear hm
    cases leaf
    · have hh : Hid (hdOf n false = ⟨#[0, 0]⟩) := if_pos h2
      have hcv : (convert 54 9 (.slice (some ⟨w.heap.size, 0, none⟩) 2 2)).run Tryz.prog (w.alloc (.cells #[.int .u8 0, .int .u8 0] 5)) = .ok (.string ⟨#[0, 0]⟩) (w.alloc (.cells #[.int .u8 0, .int .u8 0] 5)) := n_conv_new w [0, 0]
      go_enter Tryz.func109, Tryz.ntmps109
      go_wp2
      go_ret
      exact ⟨by rw [hh.out]; rfl, BN _⟩
    · have hh : Hid (hdOf n true = ⟨#[2, 0]⟩) := if_pos h2
      have hcv : (convert 54 9 (.slice (some ⟨w.heap.size, 0, none⟩) 2 2)).run Tryz.prog (w.alloc (.cells #[.int .u8 2, .int .u8 0] 5)) = .ok (.string ⟨#[2, 0]⟩) (w.alloc (.cells #[.int .u8 2, .int .u8 0] 5)) := n_conv_new w [2, 0]
      go_enter Tryz.func109, Tryz.ntmps109
      go_wp2
      go_ret
      exact ⟨by rw [hh.out]; rfl, BN _⟩
  · have h3 : (n : Int).tmod 2 = 1 := by omega
    have h4 : (n : Int) % 2 = 1 := by omega
    clear hm
    cases leaf
    · have hh : Hid (hdOf n false = ⟨#[1]⟩) := if_neg h2
      have hcv : (convert 54 9 (.slice (some ⟨w.heap.size, 0, none⟩) 1 1)).run Tryz.prog (w.alloc (.cells #[.int .u8 1] 5)) = .ok (.string ⟨#[1]⟩) (w.alloc (.cells #[.int .u8 1] 5)) := n_conv_new w [1]
      go_enter Tryz.func109, Tryz.ntmps109
      go_wp2
      go_ret
      exact ⟨by rw [hh.out]; rfl, BN _⟩
    · have hh : Hid (hdOf n true = ⟨#[3]⟩) := if_neg h2
      have hcv : (convert 54 9 (.slice (some ⟨w.heap.size, 0, none⟩) 1 1)).run Tryz.prog (w.alloc (.cells #[.int .u8 3] 5)) = .ok (.string ⟨#[3]⟩) (w.alloc (.cells #[.int .u8 3] 5)) := n_conv_new w [3]
      go_enter Tryz.func109, Tryz.ntmps109
      go_wp2
      go_ret
      exact ⟨by rw [hh.out]; rfl, BN _⟩
end Go.Proofs.YtfdjiofogohcmabGreatDoor
