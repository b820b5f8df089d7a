/- What Sum does at this translation: the digest of its parts, one behind the other. -/
import Derived.Test.YteiadmhododppaaDoorK6
import Derived.Test.YteiadmhododppaaDoorK7
import Derived.Test.YteiadmhododppaaDoorK8
namespace Go.Proofs.YteiadmhododppaaDoor
open Go.RowKit Go.Sort

/-- A text's digest. -/
def sumOf (t : ByteArray) : ByteArray := ⟨(dg (takeOf (fun _ => 0) t)).toArray⟩

theorem but_over {w W V : World} (h : Below w.heap.size w W) (g : W.grownBy V (some w.heap.size)) : Below w.heap.size w V :=
  ⟨g.os.trans h.os, g.tape.trans h.tape, g.output.trans h.output, Nat.le_trans h.size g.size, fun k hk => (g.block k (Nat.lt_of_lt_of_le hk h.size) (fun e => by have := Option.some.inj e; omega)).trans (h.block k hk)⟩

set_option maxRecDepth 20000 in
set_option maxHeartbeats 4000000 in
theorem sum_any (v : Value) (t : ByteArray) (ht : t.size < 9223372036854775808) (w : World) (hl : Laid w)
    (hJ : ∀ W : World, Below w.heap.size w W → Calls Tryd.prog 10 #[v, .string ⟨#[]⟩] W fun e w' => e = .returned (.string t) ∧ Below W.heap.size W w') :
    Calls Tryd.prog 7 #[v] w fun e w' => e = .returned (.string (sumOf t)) ∧ Below w.heap.size w w' := by
  have km : IntKind.u64.max = 18446744073709551615 := by decide
  have ks : IntKind.u64.signed = false := rfl
  have HJ : Hid (∀ W : World, _) := hJ
  clear hJ
  go_enter Tryd.func7, Tryd.ntmps7
  go_wp2_with fail
  have h3 : 3 ≤ w.heap.size := by have := hl.t.p.z; omega
  have B0 : Below w.heap.size w (w.alloc (.cells zs 31)) := (Below.refl _ w).alloc (Nat.le_refl _) _
  have S0 : Fw w.heap.size 25 (fun _ => .int .u64 0) (w.alloc (.cells zs 31)) := Fw.lit _ _ rfl rfl
  refine (HJ.out _ B0).mono ?_
  rintro e w1 ⟨rfl, B1⟩
  have S1 := S0.below B1
  have BW1 := belowStep B0 B0.size B1
  have L1 := hl.below BW1
  clear B0 S0 B1
  go_wp2_with fail
  refine (takeIn_any w.heap.size (fun _ => 0) t ht w1 S1 L1 h3).mono ?_
  rintro e w2 ⟨rfl, S2, G2⟩
  have BW2 : Below w.heap.size w w2 := but_over BW1 G2
  clear S1 L1 BW1 G2
  go_wp2_with fail
  refine (digestOf_any w.heap.size _ w2 S2).mono ?_
  rintro e w3 ⟨rfl, B3⟩
  have BW3 := belowStep BW2 BW2.size B3
  clear BW2 B3 S2
  go_wp2
  go_ret
  exact ⟨rfl, BW3⟩
end Go.Proofs.YteiadmhododppaaDoor
