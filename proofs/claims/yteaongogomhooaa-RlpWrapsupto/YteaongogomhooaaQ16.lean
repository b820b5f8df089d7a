/- A text copied: strings.Clone. -/
import Derived.Test.YteaongogomhooaaQ15
import Derived.Shelf.Pu.Clone
namespace Go.Proofs.Yteaongogomhooaa
open Go.RowKit Go.Shelf Go.Sort

def rc : Ren := ⟨fun k => if k = 25 then 49 else k, fun k => if k = 37 then 44 else if k = 47 then 75 else k, fun k => k⟩
set_option maxRecDepth 100000 in
theorem lays_clone : LaysPu.n25 Try.prog rc where
  mixed := by kernel_rfl
  f25 := by kernel_rfl
  t0 := by kernel_rfl
  a0 := fun w => rfl
  z0 := fun w => rfl
  v0 := fun w => rfl
  i0 := by kernel_rfl
  t3 := by kernel_rfl
  a3 := fun w => rfl
  z3 := fun w => rfl
  v3 := fun w => rfl
  i3 := by kernel_rfl
  t4 := by kernel_rfl
  a4 := fun w => rfl
  z4 := fun w => rfl
  v4 := fun w => rfl
  i4 := by kernel_rfl
  t5 := by kernel_rfl
  a5 := fun w => rfl
  z5 := fun w => rfl
  v5 := fun w => rfl
  i5 := by kernel_rfl
  t9 := by kernel_rfl
  a9 := fun w => rfl
  z9 := fun w => rfl
  v9 := fun w => rfl
  i9 := by kernel_rfl
  t37 := by kernel_rfl
  a37 := fun w => rfl
  z37 := fun w => rfl
  v37 := fun w => rfl
  i37 := by kernel_rfl
  t47 := by kernel_rfl
  a47 := fun w => rfl
  z47 := fun w => rfl
  v47 := fun w => rfl
  i47 := by kernel_rfl
theorem clone1_any (s : ByteArray) (w : World) (h : s.size ≤ 281474976710656) : Calls Try.prog 49 #[.string s] w fun e w' => e = .returned (.string s) ∧ Below w.heap.size w w' := AnyPu.stringslite_Clone lays_clone s w h
set_option maxHeartbeats 1000000 in
theorem clone_any (s : ByteArray) (w : World) (h : s.size ≤ 281474976710656) : Calls Try.prog 45 #[.string s] w fun e w' => e = .returned (.string s) ∧ Below w.heap.size w w' := by
  have K := fun w => clone1_any s w h
  go_enter Try.func45, Try.ntmps45
  go_wp2_with fail
  refine (K _).mono ?_
  rintro e w1 ⟨rfl, B1⟩
  go_wp2
  go_ret
  exact ⟨rfl, B1⟩
end Go.Proofs.Yteaongogomhooaa
