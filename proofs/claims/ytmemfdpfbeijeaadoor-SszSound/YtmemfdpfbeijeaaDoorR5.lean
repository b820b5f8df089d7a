/- The reference's words, at this translation. -/
import Derived.Test.YtmemfdpfbeijeaaDoorR3
import Derived.Test.YtmemfdpfbeijeaaDoorS5
import Derived.Test.YtmemfdpfbeijeaaDoorS4
namespace Go.Proofs.YtmemfdpfbeijeaaDoor
open Go.RowKit Go.Sort

/-- Sixty-four words of 0. -/
abbrev y64 : Array Value := #[.int .u32 0, .int .u32 0, .int .u32 0, .int .u32 0, .int .u32 0, .int .u32 0, .int .u32 0, .int .u32 0, .int .u32 0, .int .u32 0, .int .u32 0, .int .u32 0, .int .u32 0, .int .u32 0, .int .u32 0, .int .u32 0, .int .u32 0, .int .u32 0, .int .u32 0, .int .u32 0, .int .u32 0, .int .u32 0, .int .u32 0, .int .u32 0, .int .u32 0, .int .u32 0, .int .u32 0, .int .u32 0, .int .u32 0, .int .u32 0, .int .u32 0, .int .u32 0, .int .u32 0, .int .u32 0, .int .u32 0, .int .u32 0, .int .u32 0, .int .u32 0, .int .u32 0, .int .u32 0, .int .u32 0, .int .u32 0, .int .u32 0, .int .u32 0, .int .u32 0, .int .u32 0, .int .u32 0, .int .u32 0, .int .u32 0, .int .u32 0, .int .u32 0, .int .u32 0, .int .u32 0, .int .u32 0, .int .u32 0, .int .u32 0, .int .u32 0, .int .u32 0, .int .u32 0, .int .u32 0, .int .u32 0, .int .u32 0, .int .u32 0, .int .u32 0]

/-- A value that is built of constants. -/
theorem wpList_build {P : Program} {ops : Array Oper} {rest : List Oper} {o : Oper} {a : Act} {Q : Exit → Act → World → Prop} {W : World} (hg : o.guard = none) (t : TypeId) (es : Array (Nat × Operand)) (_hop : o.op = .build t es) (v : Value)
    (hrun : (execOp a.eval o).run P W = .ok (.value v) W) (h : wpList P ops Q rest (a.put o.dst v) W) : wpList P ops Q (o :: rest) a W :=
  wpList_plain hg fun K hK => by
    unfold Oper.wp
    rw [hrun]
    exact hK _ _ h

set_option maxRecDepth 20000 in
set_option maxHeartbeats 4000000 in
theorem rwords_any (w : World) :
    Calls Tryd.prog 62 #[] w fun e w' => e = .returned (.agg (fl 64 fun j => .int .u32 (kc j)).toArray) ∧ Below w.heap.size w w' := by
  have Z0 : Fw w.heap.size 64 (fun _ => .int .u32 0) (w.alloc (.cells y64 70)) := Fw.lit _ _ rfl rfl
  have hst := Z0.run (P := Tryd.prog) (fun j => .int .u32 (kc j)) (fun _ => rfl)
  have hr2 := (Z0.store (fun j => .int .u32 (kc j))).range
  have B1 := below_setCells' (Nat.le_refl w.heap.size) (fl 64 fun j => .int .u32 (kc j)) 0 _ ((Below.refl w.heap.size w).alloc (Nat.le_refl _) (.cells y64 70))
  obtain ⟨w1, hw1⟩ : ∃ w1, w.alloc (.cells y64 70) = w1 := ⟨_, rfl⟩
  obtain ⟨l, hl⟩ : ∃ l, (fl 64 fun j => .int .u32 (kc j)) = l := ⟨_, rfl⟩
  have hlen : l.length = 64 := by rw [← hl]; exact fl_len _ _
  obtain ⟨z, hz⟩ : ∃ z, w.heap.size = z := ⟨_, rfl⟩
  rw [hw1, hl, hz] at hst hr2 B1
  have HL : Hid (_ = _) := hl
  have HB : Hid (_ ∧ _ ∧ _) := ⟨hr2, B1, hz⟩
  clear Z0 hr2 B1 hl
  go_enter Tryd.func62, Tryd.ntmps62
  refine wp_seq ?_
  refine wp_region_lit ?_
  refine wpList_plain rfl fun K hK => ?_
  go_simp
  refine hK _ _ ?_
  refine wpList_nil ?_
  clear hK
  refine wp_seq ?_
  refine wp_region_lit ?_
  refine wpList_build rfl _ _ rfl (.agg l.toArray) ?_ ?_
  · rw [← HL.out]
    kernel_rfl
  clear hw1 hz
  go_wp2
  refine bodyPost_ret (v := .agg l.toArray) (results_mid Tryd.results62 _ _ z l _ rfl HB.out.1 Tryd.underlying70 rfl (by rw [hlen]; exact size_w64)) rfl ⟨by rw [HL.out], ?_⟩
  rw [HB.out.2.2]
  exact HB.out.2.1
end Go.Proofs.YtmemfdpfbeijeaaDoor
