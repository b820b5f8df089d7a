/- Heads of items: what is laid ahead of a body is cut off again, and what is cut off was laid ahead. -/
import Derived.Test.YteaongogomhooaaQ33
namespace Go.Proofs.Yteaongogomhooaa
open Go.RowKit Go.Shelf Go.Sort

theorem app_left (a b : ByteArray) : (a ++ b).extract 0 a.size = a := ByteArray.extract_append_eq_left rfl
theorem app_mid (a b : ByteArray) (i j : Nat) : (a ++ b).extract (a.size + i) (a.size + j) = b.extract i j := ByteArray.extract_append_size_add
theorem app_right (a b : ByteArray) : (a ++ b).extract a.size (a ++ b).size = b := by
  have := app_mid a b 0 b.size
  rw [Nat.add_zero, ByteArray.extract_zero_size] at this
  rw [ByteArray.size_append]
  exact this
theorem join2 (s : ByteArray) (a : Nat) (h : a ≤ s.size) : s.extract 0 a ++ s.extract a s.size = s := by
  rw [← ByteArray.extract_eq_extract_append_extract a (Nat.zero_le _) h, ByteArray.extract_zero_size]
theorem first_byte (s : ByteArray) (h : 0 < s.size) (n : Nat) (hn : bt s 0 = n) : s.extract 0 1 = ⟨#[UInt8.ofNat n]⟩ := by
  have hb := bt_bd s 0
  refine ext_bt _ _ (by rw [ext_size s 0 1 h]; rfl) fun j hj => ?_
  rw [ext_size s 0 1 h] at hj
  obtain rfl : j = 0 := by omega
  rw [bt_ext2 s 0 1 (by omega) h, hn]
  show (n : Int) = ((UInt8.ofNat n).toNat : Int)
  rw [UInt8.toNat_ofNat']
  omega
/-- A head in two parts: its first byte's number above the base, and what stands behind that byte. -/
def hdN (n : Nat) : Nat := if n < 56 then n else 55 + blen n
def hdD (n : Nat) : ByteArray := if n < 56 then ⟨#[]⟩ else numOf n
theorem hdB_parts (b n : Nat) : hdB b n = ⟨#[UInt8.ofNat (b + hdN n)]⟩ ++ hdD n := by
  unfold hdB hdN hdD
  by_cases h : n < 56
  · rw [if_pos h, if_pos h, if_pos h]
    exact (ByteArray.append_empty).symm
  · rw [if_neg h, if_neg h, if_neg h, Nat.add_assoc]
theorem hdN_lt (n : Nat) (hn : n < 18446744073709551616) : hdN n < 64 := by
  unfold hdN
  have := num_8 n hn
  split <;> omega
theorem cutAt_hd (n : Nat) (hn : n < 18446744073709551616) (r : ByteArray) (hr : n ≤ r.size) : cutAt (hdN n) (hdD n ++ r) = some ((hdD n).size, n) := by
  unfold cutAt hdN hdD
  by_cases h : n < 56
  · rw [if_pos h, if_pos h, if_pos h]
    have e : ((⟨#[]⟩ : ByteArray) ++ r) = r := ByteArray.empty_append
    rw [e, if_neg (by omega)]
    rfl
  · rw [if_neg h, if_neg h]
    have h1 : 1 ≤ blen n := by
      have := (blen_zero n).1
      omega
    rw [if_neg (by omega), show 55 + blen n - 55 = (numOf n).size by rw [num_size]; omega, ByteArray.size_append, if_neg (by omega), app_left]
    obtain ⟨q1, q2⟩ := num_back n hn
    rw [q1, q2, if_pos ⟨rfl, by omega, by omega⟩]
theorem bt_one (d : Nat) (r : ByteArray) (hd : d < 256) : bt (⟨#[UInt8.ofNat d]⟩ ++ r) 0 = d := by
  rw [bt_app, if_pos (by show 0 < 1; omega)]
  show ((UInt8.ofNat d).toNat : Int) = d
  rw [UInt8.toNat_ofNat']
  omega
theorem ext_one (d : Nat) (r : ByteArray) : (⟨#[UInt8.ofNat d]⟩ ++ r : ByteArray).extract 1 (⟨#[UInt8.ofNat d]⟩ ++ r : ByteArray).size = r := app_right ⟨#[UInt8.ofNat d]⟩ r
/-- What stands ahead of a body of a kind. -/
def hdK (k : Nat) (b : ByteArray) : ByteArray := if k = 2 then hdB 192 b.size else if bare b then ⟨#[]⟩ else hdB 128 b.size
theorem cut_list (b r : ByteArray) (hb : b.size < 18446744073709551616) : cutK (hdB 192 b.size ++ (b ++ r)) = (2, b, r) := by
  have hk := hdN_lt b.size hb
  rw [hdB_parts, ByteArray.append_assoc]
  unfold cutK
  rw [bt_one _ _ (by omega), ext_one, if_neg (by omega), if_neg (by omega), show (((192 + hdN b.size : Nat) : Int).toNat - 192) = hdN b.size by omega, cutAt_hd b.size hb (b ++ r) (by rw [ByteArray.size_append]; omega)]
  dsimp only
  have e1 : (hdD b.size ++ (b ++ r)).extract (hdD b.size).size ((hdD b.size).size + b.size) = b := by
    have := app_mid (hdD b.size) (b ++ r) 0 b.size
    rw [Nat.add_zero, app_left] at this
    exact this
  have e2 : (hdD b.size ++ (b ++ r)).extract ((hdD b.size).size + b.size) (hdD b.size ++ (b ++ r)).size = r := by
    have := app_mid (hdD b.size) (b ++ r) b.size (b ++ r).size
    rw [app_right] at this
    rw [ByteArray.size_append]
    exact this
  rw [e1, e2]
theorem cut_text (b r : ByteArray) (hb : b.size < 18446744073709551616) (hn : bare b = false) : cutK (hdB 128 b.size ++ (b ++ r)) = (1, b, r) := by
  have hk := hdN_lt b.size hb
  rw [hdB_parts, ByteArray.append_assoc]
  unfold cutK
  rw [bt_one _ _ (by omega), ext_one, if_neg (by omega), if_pos (by omega), show (((128 + hdN b.size : Nat) : Int).toNat - 128) = hdN b.size by omega, cutAt_hd b.size hb (b ++ r) (by rw [ByteArray.size_append]; omega)]
  dsimp only
  have e1 : (hdD b.size ++ (b ++ r)).extract (hdD b.size).size ((hdD b.size).size + b.size) = b := by
    have := app_mid (hdD b.size) (b ++ r) 0 b.size
    rw [Nat.add_zero, app_left] at this
    exact this
  have e2 : (hdD b.size ++ (b ++ r)).extract ((hdD b.size).size + b.size) (hdD b.size ++ (b ++ r)).size = r := by
    have := app_mid (hdD b.size) (b ++ r) b.size (b ++ r).size
    rw [app_right] at this
    rw [ByteArray.size_append]
    exact this
  rw [e1, e2, hn]
  rfl
theorem cut_bare (b r : ByteArray) (hn : bare b = true) : cutK (b ++ r) = (1, b, r) := by
  unfold bare at hn
  rw [Bool.and_eq_true] at hn
  have h1 := of_decide_eq_true hn.1
  have h2 := of_decide_eq_true hn.2
  unfold cutK
  rw [bt_app, if_pos (show 0 < b.size by omega), if_pos h2]
  have e1 := app_left b r
  have e2 := app_right b r
  rw [h1] at e1 e2
  rw [e1, e2]
/-- Whatever is cut off was laid ahead. -/
theorem cutAt_join {k : Nat} {r : ByteArray} {d n : Nat} (h : cutAt k r = some (d, n)) : hdN n = k ∧ hdD n ++ (r.extract d (d + n) ++ r.extract (d + n) r.size) = r ∧ (r.extract d (d + n)).size = n := by
  have hle := cutAt_le h
  have hj : r.extract d (d + n) ++ r.extract (d + n) r.size = r.extract d r.size := (ByteArray.extract_eq_extract_append_extract (d + n) (by omega) hle).symm
  have hz := ext_size r d (d + n) hle
  refine ⟨?_, ?_, by omega⟩
  · unfold cutAt at h
    split at h
    · split at h
      · cases h
      · cases h
        unfold hdN
        rw [if_pos ‹_›]
    · split at h
      · cases h
      · split at h
        · rename_i h1 h2 h3
          cases h
          have hv := val_num _ h3.1
          have hs := congrArg ByteArray.size hv
          rw [num_size, ext_size r 0 _ (by omega)] at hs
          unfold hdN
          rw [if_neg (by omega)]
          omega
        · cases h
  · rw [hj]
    unfold cutAt at h
    split at h
    · split at h
      · cases h
      · cases h
        unfold hdD
        rw [if_pos ‹_›, ByteArray.extract_zero_size]
        exact ByteArray.empty_append
    · split at h
      · cases h
      · split at h
        · rename_i h1 h2 h3
          cases h
          have hv := val_num _ h3.1
          unfold hdD
          rw [if_neg (by omega), hv, join2 r _ (by omega)]
        · cases h
theorem byte_join (s : ByteArray) (h : 0 < s.size) (n : Nat) (hn : bt s 0 = n) : ⟨#[UInt8.ofNat n]⟩ ++ s.extract 1 s.size = s := by
  rw [← first_byte s h n hn]
  exact join2 s 1 h
theorem cutK_join (s : ByteArray) (hp : 0 < s.size) (h : (cutK s).1 ≠ 0) : ((cutK s).1 = 1 ∨ (cutK s).1 = 2) ∧ hdK (cutK s).1 (cutK s).2.1 ++ ((cutK s).2.1 ++ (cutK s).2.2) = s := by
  have hb := bt_bd s 0
  obtain ⟨m, hm⟩ : ∃ m : Nat, bt s 0 = m := ⟨(bt s 0).toNat, by omega⟩
  revert h
  unfold cutK
  split
  · rename_i h1
    intro _
    refine ⟨.inl rfl, ?_⟩
    have hbare : bare (s.extract 0 1) = true := by
      rw [bare_ext s 0 1 hp, decide_eq_true h1]
      rfl
    unfold hdK
    dsimp only
    rw [if_neg (by decide), hbare, if_pos rfl, join2 s 1 hp]
    exact ByteArray.empty_append
  · rename_i h1
    split
    · rename_i h2
      split
      · intro h; exact absurd rfl h
      · rename_i d n hc
        split
        · intro h; exact absurd rfl h
        · rename_i hnb
          intro _
          refine ⟨.inl rfl, ?_⟩
          obtain ⟨q1, q2, q3⟩ := cutAt_join hc
          unfold hdK
          dsimp only
          rw [if_neg (by decide), if_neg hnb, q3, hdB_parts, ByteArray.append_assoc, q2, q1, hm]
          exact byte_join s hp _ (by omega)
    · rename_i h2
      split
      · intro h; exact absurd rfl h
      · rename_i d n hc
        intro _
        refine ⟨.inr rfl, ?_⟩
        obtain ⟨q1, q2, q3⟩ := cutAt_join hc
        unfold hdK
        dsimp only
        rw [if_pos rfl, q3, hdB_parts, ByteArray.append_assoc, q2, q1, hm]
        exact byte_join s hp _ (by omega)
end Go.Proofs.Yteaongogomhooaa
