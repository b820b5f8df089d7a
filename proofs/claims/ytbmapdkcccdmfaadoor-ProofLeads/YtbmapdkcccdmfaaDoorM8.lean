/- Lemmas: How many bytes a number takes: what math/bits.Len64 answers. No condition. -/
import Derived.Test.YtbmapdkcccdmfaaDoorM1
import Derived.Test.YtbmapdkcccdmfaaDoorM6
import Derived.Test.YtbmapdkcccdmfaaDoorRows
import Derived.Deep.MidRow
namespace Go.Proofs.YtbmapdkcccdmfaaDoor
open Go.RowKit Go.Sort

def blen (n : Nat) : Nat := if h : n = 0 then 0 else blen (n / 256) + 1
termination_by n
decreasing_by omega
theorem blen_0 : blen 0 = 0 := by rw [blen, dif_pos rfl]
theorem blen_pos (n : Nat) (h : n ≠ 0) : blen n = blen (n / 256) + 1 := by rw [blen, dif_neg h]

end Go.Proofs.YtbmapdkcccdmfaaDoor
