/- Numbers as chunks, noughts, what a chunk is, a root with a length: the program's and the reference's. -/
import Derived.Test.YtmemfdpfbeijeabDoorZ1
import Derived.Test.YtmemfdpfbeijeabDoorR8
import Derived.Deep.OwnRows
namespace Go.Proofs.YtmemfdpfbeijeabDoor
open Go.RowKit Go.Sort

/-- Texts of the same bytes are the same. -/
theorem by8_self8 (s : ByteArray) : (⟨(by8 s.size (bt s)).toArray⟩ : ByteArray) = s := by
  have : (by8 s.size (bt s)).toArray = s.data := by
    refine Array.ext (by simp [by8]) fun i h1 h2 => ?_
    simp only [List.getElem_toArray, by8, List.getElem_map, List.getElem_range]
    unfold bt
    have h3 : i < s.size := h2
    have e : s.data.getD i 0 = s.data[i] := by simp [Array.getD, h3]
    rw [e]
    simp
  rw [this]
theorem by8_ext8 (n : Nat) (f g : Nat → Int) (h : ∀ j, j < n → f j = g j) : by8 n f = by8 n g := by
  unfold by8
  exact List.map_congr_left fun j hj => by rw [h j (List.mem_range.1 hj)]
theorem by8_size8 (n : Nat) (f : Nat → Int) : (⟨(by8 n f).toArray⟩ : ByteArray).size = n := by
  show (by8 n f).toArray.size = n
  rw [List.size_toArray, by8_len]
theorem ext_bt8 (s t : ByteArray) (hz : s.size = t.size) (h : ∀ j, j < s.size → bt s j = bt t j) : s = t := by
  rw [← by8_self8 s, ← by8_self8 t, ← hz, by8_ext8 s.size _ _ h]
theorem bt_by88 (n : Nat) (f : Nat → Int) (hf : ∀ j, 0 ≤ f j ∧ f j < 256) (j : Nat) (hj : j < n) : bt ⟨(by8 n f).toArray⟩ j = f j := by
  have hl : j < (by8 n f).length := by rw [by8_len]; exact hj
  unfold bt
  have e : (by8 n f).toArray.getD j 0 = (by8 n f)[j]'hl := by simp [Array.getD, hl]
  show (((by8 n f).toArray.getD j 0).toNat : Int) = f j
  rw [e, by8_at n f hf j hl]

set_option maxRecDepth 20000 in
set_option maxHeartbeats 1000000 in
theorem isChunk_any (s : ByteArray) (w : World) :
    Calls Tryd.prog 18 #[.string s] w fun e w' => e = .returned (.bool (decide (s.size = 32))) ∧ w' = w := by
  by_cases h : s.size = 32
  · have h1 : (s.size : Int) = 32 := by omega
    go_enter Tryd.func18, Tryd.ntmps18
    go_wp2
    go_ret
    exact ⟨by simp [h], rfl⟩
  · have h1 : ¬ (s.size : Int) = 32 := by omega
    go_enter Tryd.func18, Tryd.ntmps18
    go_wp2
    go_ret
    exact ⟨by simp [h]; omega, rfl⟩

/-- So many bytes 0. -/
def zs (n : Nat) : ByteArray := ⟨(by8 n fun _ => 0).toArray⟩
theorem zs_size (n : Nat) : (zs n).size = n := by8_size8 _ _
theorem zs_32 : zs 32 = z32 := by decide +kernel

/-- A byte of a number's chunk. -/
def nbAt (n : Int) (j : Nat) : Int := if j < 8 then n / 2 ^ (8 * j) % 256 else 0
theorem nb_bd (n : Int) (j : Nat) : 0 ≤ nbAt n j ∧ nbAt n j < 256 := by unfold nbAt; split <;> omega
/-- A number's chunk. -/
def numOf (n : Int) : ByteArray := ⟨(by8 32 (nbAt n)).toArray⟩
theorem num_size (n : Int) : (numOf n).size = 32 := by8_size8 _ _

set_option maxRecDepth 20000 in
set_option maxHeartbeats 4000000 in
theorem number_any (n : Int) (w : World) :
    Calls Tryd.prog 9 #[.int .u64 n] w fun e w' => e = .returned (.string (numOf n)) ∧ Below w.heap.size w w' := by
  go_enter Tryd.func9, Tryd.ntmps9
  go_wp2
  go_loopg [5] 8 (fun gk i wr => ∃ k : Nat, ∃ h : Nat → Int, k + gk = 8 ∧ i = .int .i64 k ∧ Below w.heap.size w wr ∧ Fw w.heap.size 32 (fun j => .int .u8 (h j)) wr ∧ Hid (∀ j, j < 32 → h j = if j < k then nbAt n j else 0))
  case atStart => exact ⟨0, fun _ => 0, rfl, rfl, by go_grown, Fw.lit _ _ rfl rfl, fun j _ => by rw [if_neg (by omega)]⟩
  case round =>
    obtain ⟨k, h, hk, rfl, EW, CU, hH⟩ := hrel
    have zu := CU.z
    have uf := CU.f
    by_cases hlt : k < 8
    · obtain ⟨r8, hr8⟩ : ∃ s : Nat, 8 * k = s := ⟨_, rfl⟩
      have hm : IntKind.i64.wrap (8 * (k : Int)) = r8 := by rw [IntKind.wrap_i64]; omega
      have e64 : (r8 : Int) ≤ 64 := by omega
      have e0 : (0 : Int) ≤ r8 := by omega
      have emin : min r8 64 = r8 := by omega
      have l0 : (k : Int) < 8 := by omega
      have l1 : (k : Int) < 32 := by omega
      have n0 := CU.c k (by omega)
      obtain ⟨t, ht⟩ : ∃ t, n / 2 ^ r8 % 256 = t := ⟨_, rfl⟩
      have hu : IntKind.u8.wrap (n / 2 ^ r8) = t := by rw [IntKind.wrap_u8]; exact ht
      have HB : Hid (nbAt n k = t) := by
        show _ = _
        rw [nbAt, if_pos hlt, hr8, ht]
      clear ht hr8
      go_wp2
      go_roundg (gk - 1)
      case measure => omega
      case rel =>
        refine ⟨k + 1, fun j => if j = k then t else h j, by omega, rfl, by go_grown, CU.put k (by omega) (.int .u8 t) (fun j _ => by by_cases e : j = k <;> simp [e]), ?_⟩
        intro j hj
        have hJ := hH.out j hj
        show (if j = k then t else h j) = _
        by_cases e : j = k
        · rw [if_pos e, e, if_pos (by omega), HB.out]
        rw [if_neg e, hJ]
        by_cases h1 : j < k
        · rw [if_pos h1, if_pos (by omega)]
        · rw [if_neg h1, if_neg (by omega)]
    · have hk2 : k = 8 := by omega
      subst hk2
      clear hlt
      have hcv := Fw.text (nb_bd n) (CU.ext (h := fun j => .int .u8 (nbAt n j)) (fun j hj => by
        show Value.int .u8 _ = .int .u8 _
        rw [hH.out j hj]
        by_cases h8 : j < 8
        · rw [if_pos h8]
        · rw [if_neg h8, nbAt, if_neg h8]))
      go_wp2
      go_ret
      exact ⟨rfl, EW⟩

theorem fl_snoc (n : Nat) (g : Nat → Value) : fl (n + 1) g = fl n g ++ [g n] := by simp [fl, List.range_succ]
theorem owns_below8 {w w' : World} {b : Nat} {e : TypeId} {size : Nat} {v : Value} {n : Nat} {xs : List Value} (h : w.ownsRow b e size v n xs) (hb : Below w.heap.size w w') : w'.ownsRow b e size v n xs :=
  h.kept (row := none) ⟨hb.os, hb.tape, hb.output, hb.size, fun k hk _ => hb.block k hk⟩ (by cases v.ownBlock <;> simp)
/-- A number's chunk, in two parts. -/
theorem num_parts (n : Int) : (⟨(by8 8 (nbAt n)).toArray⟩ : ByteArray) ++ zs 24 = numOf n := by
  have hz : (⟨(by8 8 (nbAt n)).toArray⟩ : ByteArray).size = 8 := by8_size8 _ _
  have hz2 := zs_size 24
  refine ext_bt8 _ _ (by rw [ByteArray.size_append, hz, hz2, num_size]) fun j hj => ?_
  rw [ByteArray.size_append, hz, hz2] at hj
  rw [bt_append _ _ _ (by rw [hz, hz2]; exact hj), hz]
  unfold numOf
  rw [bt_by88 32 _ (nb_bd n) j hj]
  split
  · rename_i h
    rw [bt_by88 8 _ (nb_bd n) j h]
  · rename_i h
    unfold zs
    rw [bt_by88 24 _ (fun _ => ⟨by decide, by decide⟩) _ (by omega), nbAt, if_neg h]

/-- What a root with a length is. -/
def mixV (root : ByteArray) (n : Int) : Value := if root.size = 32 then .tuple #[.string (hs root (numOf n)), .int .i64 0] else .tuple #[.string ⟨#[]⟩, .int .i64 80]

set_option maxRecDepth 20000 in
set_option maxHeartbeats 4000000 in
theorem mix_any (root : ByteArray) (n : Int) (w : World) (hl : Laid w) :
    Calls Tryd.prog 7 #[.string root, .int .u64 n] w fun e w' => e = .returned (mixV root n) ∧ Below w.heap.size w w' := by
  by_cases h : root.size = 32
  · have KC := isChunk_any root
    rw [decide_eq_true h] at KC
    have HR : Hid (mixV root n = .tuple #[.string (hs root (numOf n)), .int .i64 0]) := if_pos h
    have KN : Hid (∀ w : World, _) := fun w : World => number_any n w
    have KS : Hid (∀ (g : Nat) (w : World), _) := fun (g : Nat) (w : World) (hl : Laid w) (hg : g < w.heap.size) h0 h1 => sum_two root (numOf n) _ (join_pair _ _) (by omega) (by rw [num_size]; omega) g w hl hg h0 h1
    obtain ⟨x, hx⟩ : ∃ x, numOf n = x := ⟨_, rfl⟩
    have HX : Hid _ := hx
    rw [hx] at KN KS HR
    clear hx
    go_enter Tryd.func7, Tryd.ntmps7
    go_wp2_with fail
    refine (KC _).mono ?_
    rintro e w1 ⟨rfl, rfl⟩
    clear KC
    go_wp2_with fail
    refine (KN.out _).mono ?_
    rintro e w2 ⟨rfl, B2⟩
    have L2' := hl.below B2
    go_wp2_with fail
    have B0 : Below w2.heap.size w2 (w2.alloc (.cells #[.string root, .string x] 9)) := (Below.refl _ w2).alloc (Nat.le_refl _) _
    refine (KS.out w2.heap.size _ (L2'.below B0) (by simp) (by simp [go_sem]) (by simp [go_sem])).mono ?_
    rintro e w3 ⟨rfl, B3⟩
    have BW3 := belowStep B2 B2.size (belowStep B0 B0.size B3)
    clear B0 B2 B3 L2' KN KS
    go_wp2
    exact bodyPost_ret (v := .tuple #[.string (sumOf (root ++ x)), .int .i64 0]) (by simp [results, Tryd.results7, go_sem]) rfl ⟨by rw [HR.out]; rfl, BW3⟩
  · have KC := isChunk_any root
    rw [decide_eq_false h] at KC
    have HR : Hid (mixV root n = .tuple #[.string ⟨#[]⟩, .int .i64 80]) := if_neg h
    go_enter Tryd.func7, Tryd.ntmps7
    go_wp2_with fail
    refine (KC _).mono ?_
    rintro e w1 ⟨rfl, rfl⟩
    clear KC
    go_wp2
    exact bodyPost_ret (v := .tuple #[.string ⟨#[]⟩, .int .i64 80]) (by simp [results, Tryd.results7, go_sem]) rfl ⟨by rw [HR.out], Below.refl _ _⟩

end Go.Proofs.YtmemfdpfbeijeabDoor
