/- Lemmas: What 'shown' answers; and what paths of two keys have to do with each other. -/
import Derived.Test.YtbmapdkcccdmfabDoorM1
import Derived.Test.YtbmapdkcccdmfabDoorM11
import Derived.Test.YtbmapdkcccdmfabDoorM18
import Derived.Test.YtbmapdkcccdmfabDoorM19
import Derived.Test.YtbmapdkcccdmfabDoorM20
import Derived.Test.YtbmapdkcccdmfabDoorM21
import Derived.Test.YtbmapdkcccdmfabDoorM22
import Derived.Test.YtbmapdkcccdmfabDoorM23
import Derived.Test.YtbmapdkcccdmfabDoorM24
import Derived.Test.YtbmapdkcccdmfabDoorM25
import Derived.Test.YtbmapdkcccdmfabDoorM26
import Derived.Test.YtbmapdkcccdmfabDoorM3
import Derived.Test.YtbmapdkcccdmfabDoorRows
import Derived.BigQuiet
namespace Go.Proofs.YtbmapdkcccdmfabDoor
open Go.RowKit Go.Sort

theorem of_size (s : ByteArray) : (ofOf s).size = 2 * s.size := n_by8_size _ _
theorem bt_of (s : ByteArray) (j : Nat) (hj : j < 2 * s.size) : n_bt (ofOf s) j = half s j := n_bt_by8 _ _ (fun j => by have := half_bd s j; omega) j hj
theorem of_app (a b : ByteArray) : ofOf (a ++ b) = ofOf a ++ ofOf b := by
  refine n_ext_bt _ _ (by rw [ByteArray.size_append, of_size, of_size, of_size, ByteArray.size_append]; omega) fun j hj => ?_
  rw [of_size, ByteArray.size_append] at hj
  rw [bt_of _ _ (by rw [ByteArray.size_append]; omega), n_bt_app, of_size]
  by_cases h : j < 2 * a.size
  · rw [if_pos h, bt_of _ _ h]
    unfold half
    rw [n_bt_app, if_pos (show j / 2 < a.size by omega)]
  · rw [if_neg h, bt_of _ _ (by omega)]
    unfold half
    rw [n_bt_app, if_neg (show ¬ j / 2 < a.size by omega), show (j - 2 * a.size) / 2 = j / 2 - a.size by omega, show (j - 2 * a.size) % 2 = j % 2 by omega]
theorem of_common (a b : ByteArray) : 2 * common a b ≤ common (ofOf a) (ofOf b) := by
  obtain ⟨h1, h2, h3, _⟩ := common_spec a b
  obtain ⟨g1, g2, g3, g4⟩ := common_spec (ofOf a) (ofOf b)
  rw [of_size] at g1 g4
  rw [of_size] at g2 g4
  refine Nat.le_of_not_lt fun hlt => g4 ⟨by omega, by omega, ?_⟩
  rw [bt_of _ _ (by omega), bt_of _ _ (by omega)]
  unfold half
  rw [h3 _ (by omega)]
theorem pre_same (a b : ByteArray) (k : Nat) (ha : k ≤ a.size) (hb : k ≤ b.size) (h : ∀ j, j < k → n_bt a j = n_bt b j) : a.extract 0 k = b.extract 0 k := by
  have e : ∀ (s : ByteArray), k ≤ s.size → ∀ j, j < k → n_bt (s.extract 0 k) j = n_bt s j := fun s hs j hj => by
    rw [← n_bt_get (s.extract 0 k) j (by rw [ByteArray.size_extract]; omega), ← n_bt_get s j (by omega), ByteArray.getElem_extract]
    simp
  refine n_ext_bt _ _ (by rw [ByteArray.size_extract, ByteArray.size_extract]; omega) fun j hj => ?_
  rw [ByteArray.size_extract] at hj
  rw [e a ha j (by omega), e b hb j (by omega), h j (by omega)]

end Go.Proofs.YtbmapdkcccdmfabDoor
