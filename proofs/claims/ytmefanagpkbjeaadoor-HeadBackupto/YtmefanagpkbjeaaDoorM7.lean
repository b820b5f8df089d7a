/- Lemmas: Bytes as a number: what Value answers, the program's and the document's. No condition. -/
import Derived.Test.YtmefanagpkbjeaaDoorM1
import Derived.Test.YtmefanagpkbjeaaDoorM6
import Derived.Test.YtmefanagpkbjeaaDoorRows
import Derived.BigQuiet
import Derived.Laws.Closers25
namespace Go.Proofs.YtmefanagpkbjeaaDoor
open Go.RowKit Go.Sort

theorem ofInt_nat64 (x : Nat) (hx : x < 18446744073709551616) : (BitVec.ofInt 64 (x : Int)).toNat = x := by
  rw [BitVec.toNat_ofInt]
  omega
theorem or_nat64 (x y : Nat) (hx : x < 18446744073709551616) (hy : y < 18446744073709551616) : bits .or .u64 (x : Int) (y : Int) = ((x ||| y : Nat) : Int) := by
  have h : (x ||| y) < 2 ^ 64 := Nat.or_lt_two_pow hx hy
  have e : bits .or .u64 (x : Int) (y : Int) = IntKind.u64.wrap (((BitVec.ofInt 64 (x : Int)) ||| (BitVec.ofInt 64 (y : Int))).toNat : Int) := rfl
  rw [e, BitVec.toNat_or, ofInt_nat64 x hx, ofInt_nat64 y hy, IntKind.wrap_u64]
  omega
set_option maxRecDepth 20000 in
theorem or_byte (x y : Nat) (hy : y < 256) (h : x * 256 + y < 18446744073709551616) : bits .or .u64 ((x * 256 : Nat) : Int) (y : Int) = ((x * 256 + y : Nat) : Int) := by
  refine (or_nat64 (x * 256) y (by omega) (by omega)).trans ?_
  have := Nat.shiftLeft_add_eq_or_of_lt (show y < 2 ^ 8 from hy) x
  rw [Nat.shiftLeft_eq] at this
  rw [this]
/-- The number of the first bytes. -/
def val (s : ByteArray) : Nat → Nat
  | 0 => 0
  | k + 1 => val s k * 256 + (bt s k).toNat
theorem val_lt (s : ByteArray) : ∀ k, val s k < 256 ^ k
  | 0 => by show 0 < 1; decide
  | k + 1 => by
    have h := val_lt s k
    have hb := bt_bd s k
    rw [val, Nat.pow_succ]
    have : (bt s k).toNat < 256 := by omega
    omega
theorem val_8 (s : ByteArray) (k : Nat) (hk : k ≤ 7) : val s k < 72057594037927936 :=
  Nat.lt_of_lt_of_le (val_lt s k) (by
    have : 256 ^ k ≤ 256 ^ 7 := Nat.pow_le_pow_right (by decide) hk
    exact Nat.le_trans this (by decide))
/-- Are bytes a number's? -/
def vGood (s : ByteArray) : Bool := decide (s.size ≤ 8) && (decide (s.size = 0) || decide (bt s 0 ≠ 0))
def vN (s : ByteArray) : Nat := if vGood s then val s s.size else 0
def vE (s : ByteArray) : Int := if vGood s then 0 else 40
theorem ne_empty (s : ByteArray) (h : 0 < s.size) : s.toList.isEmpty = false := by
  rw [← decide_eq_emptyBytes s]
  exact decide_eq_false fun e => by rw [e] at h; exact absurd h (by decide)
theorem is_empty (s : ByteArray) (h : s.size = 0) : s = ⟨#[]⟩ := ext_bt _ _ h (fun j hj => absurd hj (by omega))

set_option maxRecDepth 20000 in
set_option maxHeartbeats 2000000 in
theorem value_any (s : ByteArray) (w : World) :
    Calls Tryd.prog 149 #[.string s] w fun e w' => e = .returned (.tuple #[.int .u64 (vN s), .int .i64 (vE s)]) ∧ Below w.heap.size w w' := by
  by_cases h8 : 8 < s.size
  · have c8 : (8 : Int) < s.size := by omega
    have HO : Hid (vN s = 0 ∧ vE s = 40) := by
      have hb : vGood s = false := by unfold vGood; rw [decide_eq_false (by omega), Bool.false_and]
      unfold vN vE
      rw [hb]
      exact ⟨rfl, rfl⟩
    go_enter Tryd.func149, Tryd.ntmps149
    go_wp2
    refine bodyPost_ret (v := .tuple #[.int .u64 0, .int .i64 40]) (by simp [results, Tryd.results149, go_sem]) rfl ⟨by rw [HO.out.1, HO.out.2]; rfl, Below.refl _ _⟩
  · have c8 : ¬ (8 : Int) < s.size := by omega
    by_cases h0 : s.size = 0
    · have he := is_empty s h0
      subst he
      have HO : Hid (vN ⟨#[]⟩ = 0 ∧ vE ⟨#[]⟩ = 0) := by
        unfold vN vE
        have hb : vGood ⟨#[]⟩ = true := rfl
        rw [hb]
        exact ⟨rfl, rfl⟩
      go_enter Tryd.func149, Tryd.ntmps149
      go_wp2
      go_loopg [4, 20] 0 (fun gk n i wr => n = .int .u64 0 ∧ i = .int .i64 0 ∧ wr = w)
      case atStart => exact ⟨rfl, rfl, rfl⟩
      case round =>
        obtain ⟨rfl, rfl, rfl⟩ := hrel
        go_wp2
        refine bodyPost_ret (v := .tuple #[.int .u64 0, .int .i64 0]) (by simp [results, Tryd.results149, go_sem]) rfl ⟨by rw [HO.out.1, HO.out.2]; rfl, Below.refl _ _⟩
    · have hp : 0 < s.size := by omega
      have l0 : (0 : Int) < s.size := by omega
      have hne := ne_empty s hp
      have g0 := bt_get s 0 hp
      obtain ⟨u, hu⟩ : ∃ u, bt s 0 = u := ⟨_, rfl⟩
      rw [hu] at g0
      by_cases hu0 : u = 0
      · subst hu0
        have HO : Hid (vN s = 0 ∧ vE s = 40) := by
          have hb : vGood s = false := by unfold vGood; rw [hu, decide_eq_false h0, show decide ((0 : Int) ≠ 0) = false from rfl, Bool.or_self, Bool.and_false]
          unfold vN vE
          rw [hb]
          exact ⟨rfl, rfl⟩
        clear hu
        go_enter Tryd.func149, Tryd.ntmps149
        go_wp2
        refine bodyPost_ret (v := .tuple #[.int .u64 0, .int .i64 40]) (by simp [results, Tryd.results149, go_sem]) rfl ⟨by rw [HO.out.1, HO.out.2]; rfl, Below.refl _ _⟩
      · have hub : (u == 0) = false := by simpa using hu0
        have HO : Hid (vN s = val s s.size ∧ vE s = 0) := by
          have hb : vGood s = true := by unfold vGood; rw [hu]; simp [hu0]; omega
          unfold vN vE
          rw [hb]
          exact ⟨rfl, rfl⟩
        clear hu
        go_enter Tryd.func149, Tryd.ntmps149
        go_wp2
        go_loopg [4, 20] s.size (fun gk n i wr => ∃ k : Nat, k + gk = s.size ∧ i = .int .i64 k ∧ Hid (n = .int .u64 (val s k)) ∧ wr = w)
        case atStart => exact ⟨0, by omega, rfl, (rfl : _ = _), rfl⟩
        case round =>
          obtain ⟨k, hk, rfl, hnv, rfl⟩ := hrel
          obtain ⟨q, hq⟩ : ∃ q, val s k = q := ⟨_, rfl⟩
          obtain rfl := hnv.out
          clear hnv
          by_cases hlt : k < s.size
          · have l1 : (k : Int) < s.size := by omega
            obtain ⟨y, hy, hy2⟩ : ∃ y : Nat, bt s k = (y : Int) ∧ y < 256 := ⟨(bt s k).toNat, by have := bt_bd s k; omega, by have := bt_bd s k; omega⟩
            have gk0 : (((s[k]'hlt).toNat : Nat) : Int) = y := by rw [bt_get, hy]
            have hq8 := val_8 s k (by omega)
            rw [hq] at hq8 ⊢
            have hw : IntKind.u64.wrap ((q : Int) * 256) = ((q * 256 : Nat) : Int) := by rw [IntKind.wrap_u64]; omega
            have hw2 : (q : Int) * 256 % 18446744073709551616 = (q : Int) * 256 := by omega
            have hor : bits .or .u64 ((q : Int) * 256) (y : Int) = ((q * 256 + y : Nat) : Int) := or_byte q y hy2 (by omega)
            obtain ⟨d, hd⟩ : ∃ d, q * 256 + y = d := ⟨_, rfl⟩
            rw [hd] at hor
            have HV : Hid (val s (k + 1) = d) := by
              show val s k * 256 + (bt s k).toNat = d
              rw [hq, hy, ← hd]
              rfl
            clear hd hq
            go_wp2
            go_roundg (gk - 1)
            case measure => omega
            case rel => exact ⟨k + 1, by omega, by congr 1, by rw [HV.out]; exact (rfl : _ = _), rfl⟩
          · have hk2 : k = s.size := by omega
            subst hk2
            have l1 : ¬ (s.size : Int) < s.size := by omega
            rw [hq]
            go_wp2
            refine bodyPost_ret (v := .tuple #[.int .u64 q, .int .i64 0]) (by simp [results, Tryd.results149, go_sem]) rfl ⟨by rw [HO.out.1, HO.out.2, hq], Below.refl _ _⟩

--[R4
set_option maxRecDepth 20000 in
set_option maxHeartbeats 2000000 in
theorem rvalue_any (s : ByteArray) (w : World) :
    Calls Tryd.prog 96 #[.string s] w fun e w' => e = .returned (.tuple #[.int .u64 (vN s), .int .i64 (vE s)]) ∧ Below w.heap.size w w' := by
  by_cases h8 : 8 < s.size
  · have c8 : (8 : Int) < s.size := by omega
    have HO : Hid (vN s = 0 ∧ vE s = 40) := by
      have hb : vGood s = false := by unfold vGood; rw [decide_eq_false (by omega), Bool.false_and]
      unfold vN vE
      rw [hb]
      exact ⟨rfl, rfl⟩
    go_enter Tryd.func96, Tryd.ntmps96
    go_wp2
    refine bodyPost_ret (v := .tuple #[.int .u64 0, .int .i64 40]) (by simp [results, Tryd.results96, go_sem]) rfl ⟨by rw [HO.out.1, HO.out.2]; rfl, Below.refl _ _⟩
  · have c8 : ¬ (8 : Int) < s.size := by omega
    by_cases h0 : s.size = 0
    · have he := is_empty s h0
      subst he
      have HO : Hid (vN ⟨#[]⟩ = 0 ∧ vE ⟨#[]⟩ = 0) := by
        unfold vN vE
        have hb : vGood ⟨#[]⟩ = true := rfl
        rw [hb]
        exact ⟨rfl, rfl⟩
      go_enter Tryd.func96, Tryd.ntmps96
      go_wp2
      go_loopg [4, 5] 0 (fun gk n i wr => n = .int .u64 0 ∧ i = .int .i64 0 ∧ wr = w)
      case atStart => exact ⟨rfl, rfl, rfl⟩
      case round =>
        obtain ⟨rfl, rfl, rfl⟩ := hrel
        go_wp2
        refine bodyPost_ret (v := .tuple #[.int .u64 0, .int .i64 0]) (by simp [results, Tryd.results96, go_sem]) rfl ⟨by rw [HO.out.1, HO.out.2]; rfl, Below.refl _ _⟩
    · have hp : 0 < s.size := by omega
      have l0 : (0 : Int) < s.size := by omega
      have hne := ne_empty s hp
      have g0 := bt_get s 0 hp
      obtain ⟨u, hu⟩ : ∃ u, bt s 0 = u := ⟨_, rfl⟩
      rw [hu] at g0
      by_cases hu0 : u = 0
      · subst hu0
        have HO : Hid (vN s = 0 ∧ vE s = 40) := by
          have hb : vGood s = false := by unfold vGood; rw [hu, decide_eq_false h0, show decide ((0 : Int) ≠ 0) = false from rfl, Bool.or_self, Bool.and_false]
          unfold vN vE
          rw [hb]
          exact ⟨rfl, rfl⟩
        clear hu
        go_enter Tryd.func96, Tryd.ntmps96
        go_wp2
        refine bodyPost_ret (v := .tuple #[.int .u64 0, .int .i64 40]) (by simp [results, Tryd.results96, go_sem]) rfl ⟨by rw [HO.out.1, HO.out.2]; rfl, Below.refl _ _⟩
      · have hub : (u == 0) = false := by simpa using hu0
        have HO : Hid (vN s = val s s.size ∧ vE s = 0) := by
          have hb : vGood s = true := by unfold vGood; rw [hu]; simp [hu0]; omega
          unfold vN vE
          rw [hb]
          exact ⟨rfl, rfl⟩
        clear hu
        go_enter Tryd.func96, Tryd.ntmps96
        go_wp2
        go_loopg [4, 5] s.size (fun gk n i wr => ∃ k : Nat, k + gk = s.size ∧ i = .int .i64 k ∧ Hid (n = .int .u64 (val s k)) ∧ wr = w)
        case atStart => exact ⟨0, by omega, rfl, (rfl : _ = _), rfl⟩
        case round =>
          obtain ⟨k, hk, rfl, hnv, rfl⟩ := hrel
          obtain ⟨q, hq⟩ : ∃ q, val s k = q := ⟨_, rfl⟩
          obtain rfl := hnv.out
          clear hnv
          by_cases hlt : k < s.size
          · have l1 : (k : Int) < s.size := by omega
            obtain ⟨y, hy, hy2⟩ : ∃ y : Nat, bt s k = (y : Int) ∧ y < 256 := ⟨(bt s k).toNat, by have := bt_bd s k; omega, by have := bt_bd s k; omega⟩
            have gk0 : (((s[k]'hlt).toNat : Nat) : Int) = y := by rw [bt_get, hy]
            have hq8 := val_8 s k (by omega)
            rw [hq] at hq8 ⊢
            have hw : IntKind.u64.wrap ((q : Int) * 256) = ((q * 256 : Nat) : Int) := by rw [IntKind.wrap_u64]; omega
            have hw2 : (q : Int) * 256 % 18446744073709551616 = (q : Int) * 256 := by omega
            have hor : bits .or .u64 ((q : Int) * 256) (y : Int) = ((q * 256 + y : Nat) : Int) := or_byte q y hy2 (by omega)
            obtain ⟨d, hd⟩ : ∃ d, q * 256 + y = d := ⟨_, rfl⟩
            rw [hd] at hor
            have HV : Hid (val s (k + 1) = d) := by
              show val s k * 256 + (bt s k).toNat = d
              rw [hq, hy, ← hd]
              rfl
            clear hd hq
            go_wp2
            go_roundg (gk - 1)
            case measure => omega
            case rel => exact ⟨k + 1, by omega, by congr 1, by rw [HV.out]; exact (rfl : _ = _), rfl⟩
          · have hk2 : k = s.size := by omega
            subst hk2
            have l1 : ¬ (s.size : Int) < s.size := by omega
            rw [hq]
            go_wp2
            refine bodyPost_ret (v := .tuple #[.int .u64 q, .int .i64 0]) (by simp [results, Tryd.results96, go_sem]) rfl ⟨by rw [HO.out.1, HO.out.2, hq], Below.refl _ _⟩
--R4]
end Go.Proofs.YtmefanagpkbjeaaDoor
