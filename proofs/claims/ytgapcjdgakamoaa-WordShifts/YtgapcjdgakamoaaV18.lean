/- What Bytes does at this translation: for all words, whatever the memory. -/
import Derived.Test.YtgapcjdgakamoaaV15
import Derived.Laws.IdiomStrings
namespace Go.Proofs.Ytgapcjdgakamoaa
open Go.RowKit Go.Shelf Go.Sort

/-- A number's byte at a place, the lowest first. -/
def byteAt (x : Int) (j : Nat) : Int := x / 2 ^ (8 * j) % 256
theorem byteAt_bd (x : Int) (j : Nat) : 0 ≤ byteAt x j ∧ byteAt x j < 256 := by unfold byteAt; omega
/-- The bytes of a number, the highest first. -/
def octs (x : Int) : List UInt8 := (List.range 32).map fun j => UInt8.ofNat (byteAt x (31 - j)).toNat
theorem octs_len (x : Int) : (octs x).length = 32 := by simp [octs]
theorem octs_at (x : Int) (j : Nat) (hj : j < (octs x).length) : ((octs x)[j].toNat : Int) = byteAt x (31 - j) := by
  have h := byteAt_bd x (31 - j)
  simp only [octs, List.getElem_map, List.getElem_range, UInt8.toNat_ofNat']
  omega

theorem byte_mid (x y : Int) (r : Nat) (hr : r < 8) : (x + 18446744073709551616 * y) / 2 ^ (8 * r) % 256 = x / 2 ^ (8 * r) % 256 := by
  have e : (18446744073709551616 : Int) = 2 ^ (8 * r) * (256 * 2 ^ (56 - 8 * r)) := by
    rw [show (256 : Int) = 2 ^ 8 from rfl, ← Int.pow_add, ← Int.pow_add, show 8 * r + (8 + (56 - 8 * r)) = 64 by omega]
    rfl
  have hp : (2 : Int) ^ (8 * r) ≠ 0 := Int.ne_of_gt (Int.pow_pos (by decide))
  rw [e, Int.mul_assoc, Int.add_mul_ediv_left _ _ hp, Int.mul_assoc, Int.add_mul_emod_self_left]
theorem byte_part (a0 a1 a2 a3 : Int) (ha : Ws a0 a1 a2 a3) (k : Nat) (hk : k < 32) : nth a0 a1 a2 a3 (k / 8) / 2 ^ (8 * (k % 8)) % 256 = byteAt (val a0 a1 a2 a3) k := by
  obtain ⟨⟨_, _⟩, ⟨_, _⟩, ⟨_, _⟩, ⟨_, _⟩⟩ := ha
  have hr : k % 8 < 8 := Nat.mod_lt _ (by decide)
  generalize hrr : k % 8 = r at *
  unfold byteAt
  have hq : k / 8 = 0 ∨ k / 8 = 1 ∨ k / 8 = 2 ∨ k / 8 = 3 := by omega
  symm
  rcases hq with h | h | h | h <;> rw [h]
  · have e : 8 * k = 8 * r := by omega
    rw [e, show val a0 a1 a2 a3 = a0 + 18446744073709551616 * (val a1 a2 a3 0) by unfold val; omega]
    exact byte_mid _ _ _ hr
  · have e : 8 * k = 64 + 8 * r := by omega
    rw [e, Int.pow_add, ← Int.ediv_ediv_of_nonneg (by decide), show val a0 a1 a2 a3 / 2 ^ 64 = a1 + 18446744073709551616 * (val a2 a3 0 0) by rw [show ((2 : Int) ^ 64) = 18446744073709551616 from rfl]; unfold val; omega]
    exact byte_mid _ _ _ hr
  · have e : 8 * k = 128 + 8 * r := by omega
    rw [e, Int.pow_add, ← Int.ediv_ediv_of_nonneg (by decide), show val a0 a1 a2 a3 / 2 ^ 128 = a2 + 18446744073709551616 * (val a3 0 0 0) by rw [show ((2 : Int) ^ 128) = 340282366920938463463374607431768211456 from rfl]; unfold val; omega]
    exact byte_mid _ _ _ hr
  · have e : 8 * k = 192 + 8 * r := by omega
    rw [e, Int.pow_add, ← Int.ediv_ediv_of_nonneg (by decide), show val a0 a1 a2 a3 / 2 ^ 192 = a3 + 18446744073709551616 * 0 by rw [show ((2 : Int) ^ 192) = 6277101735386680763835789423207666416102355444464034512896 from rfl]; unfold val; omega]
    exact byte_mid _ _ _ hr

theorem Fw.text {n : Nat} {x : Int} {W : World} (k : Fw n 32 (fun j => .int .u8 (byteAt x (31 - j))) W) : (convert 62 9 (.slice (some ⟨n, 0, none⟩) 32 32)).run Try.prog W = .ok (.string ⟨(octs x).toArray⟩) W := by
  have := run_convert_bytes_back (P := Try.prog) W 62 9 5 ⟨n, 0, none⟩ 32 (octs x) Try.underlying62 Try.underlying5 Try.underlying9 (fun j hj => by
    rw [Addr.add_mid, Nat.zero_add, octs_at]
    exact k.c j (by rw [octs_len] at hj; exact hj))
  rwa [octs_len] at this

set_option maxRecDepth 20000 in
set_option maxHeartbeats 1000000 in
theorem bytes_any (a0 a1 a2 a3 : Int) (ha : Ws a0 a1 a2 a3) (w : World) :
    Calls Try.prog 46 #[.agg #[.int .u64 a0, .int .u64 a1, .int .u64 a2, .int .u64 a3]] w fun e w' => e = .returned (.string ⟨(octs (val a0 a1 a2 a3)).toArray⟩) ∧ Below w.heap.size w w' := by
  go_enter Try.func46, Try.ntmps46
  go_wp2
  go_loopg [5] 32 (fun gk i wr => ∃ k : Nat, ∃ f : Nat → Int, k + gk = 32 ∧ i = .int .i64 k ∧ Below w.heap.size w wr ∧ Cw w.heap.size a0 a1 a2 a3 wr ∧ Fw (w.heap.size + 1) 32 (fun j => .int .u8 (f j)) wr ∧ Hid (∀ j, j < 32 → f j = if 31 - j < k then byteAt (val a0 a1 a2 a3) (31 - j) else 0))
  case atStart =>
    refine ⟨0, fun _ => 0, rfl, rfl, by go_grown, ?_, Fw.lit _ _ (by simp) rfl, fun j _ => by simp⟩
    repeat' (first | exact Cw.new _ _ _ _ _ _ | apply Cw.alloc)
  case round =>
    obtain ⟨k, f, hk, rfl, EW, CA, CU, hH⟩ := hrel
    have zu := CU.z
    have uf := CU.f
    by_cases hlt : k < 32
    · obtain ⟨q, hqk, hq4⟩ : ∃ q : Nat, k / 8 = q ∧ q < 4 := ⟨k / 8, rfl, by omega⟩
      obtain ⟨r, hrk, hr4⟩ : ∃ r : Nat, k % 8 = r ∧ r < 8 := ⟨k % 8, rfl, by omega⟩
      have hq : (k : Int).tdiv 8 = q := by rw [Int.tdiv_eq_ediv_of_nonneg (by omega)]; omega
      have hr : (k : Int).tmod 8 = r := by rw [Int.tmod_eq_emod_of_nonneg (by omega)]; omega
      obtain ⟨s, hs⟩ : ∃ s : Nat, 8 * r = s := ⟨_, rfl⟩
      have hs64 : s < 64 := by omega
      have hm : IntKind.i64.wrap ((r : Int) * 8) = s := by rw [IntKind.wrap_i64]; omega
      obtain ⟨d, hd, hd32⟩ : ∃ d : Nat, d + k = 31 ∧ d < 32 := ⟨31 - k, by omega, by omega⟩
      have hsub : IntKind.i64.wrap (31 - (k : Int)) = d := by rw [IntKind.wrap_i64]; omega
      obtain ⟨p, hpp⟩ : ∃ p : Int, nth a0 a1 a2 a3 q = p := ⟨_, rfl⟩
      have hp := CA.nth q hq4
      rw [hpp] at hp
      have h3 := byte_part a0 a1 a2 a3 ha k hlt
      rw [hqk, hrk, hpp, hs] at h3
      obtain ⟨t, ht⟩ : ∃ t, byteAt (val a0 a1 a2 a3) k = t := ⟨_, rfl⟩
      rw [ht] at h3
      have h8 : IntKind.u8.wrap (p / 2 ^ s) = t := by rw [← h3]; rfl
      have uc := CU.c d hd32
      have HB : Hid (_ = t) := ht
      clear hqk hrk hpp ht h3
      go_wp2
      go_roundg (gk - 1)
      case measure => omega
      case rel =>
        refine ⟨k + 1, fun j => if j = d then t else f j, by omega, rfl, by go_grown, CA.setCell _ (by dsimp only; omega) _, CU.put d hd32 (.int .u8 t) (fun j _ => by by_cases e : j = d <;> simp [e]), ?_⟩
        intro j hj
        by_cases e : j = d
        · subst e
          have e2 : 31 - j = k := by omega
          simp [e2, HB.out]
        · have := hH.out j hj
          simp only [e, if_false, this]
          by_cases h1 : 31 - j < k
          · rw [if_pos h1, if_pos (by omega)]
          · rw [if_neg h1, if_neg (by omega)]
    · have hk2 : k = 32 := by omega
      subst hk2
      clear hlt
      have hcv := Fw.text (CU.ext (h := fun j => .int .u8 (byteAt (val a0 a1 a2 a3) (31 - j))) (fun j hj => by rw [hH.out j hj, if_pos (by omega)]))
      go_wp2
      go_ret
      exact ⟨rfl, EW⟩

theorem fl_succ (k : Nat) (f : Nat → Value) : fl (k + 1) f = fl k f ++ [f k] := by simp [fl, List.range_succ]
theorem info_u8 : (Try.prog.info? 5).map (fun i => (i.zero, i.size, i.bytes)) = some (some (.int .u8 0), 1, 1) := by kernel_rfl

set_option maxRecDepth 20000 in
set_option maxHeartbeats 2000000 in
theorem rbytes_any (a0 a1 a2 a3 : Int) (ha : Ws a0 a1 a2 a3) (w : World) :
    Calls Try.prog 47 #[.agg #[.int .u64 a0, .int .u64 a1, .int .u64 a2, .int .u64 a3]] w fun e w' => e = .returned (.string ⟨(octs (val a0 a1 a2 a3)).toArray⟩) ∧ Below w.heap.size w w' := by
  obtain ⟨i0, hi, hz0, hz1, hz2⟩ := info_parts info_u8
  go_enter Try.func47, Try.ntmps47
  go_wp2
  go_loopg [3, 4] 32 (fun gk v i wr => gk ≤ 32 ∧ i = .int .i64 ((gk : Int) - 1) ∧ Below w.heap.size w wr ∧ Cw w.heap.size a0 a1 a2 a3 wr ∧ wr.ownsRow (w.heap.size + 1) 5 1 v (32 - gk) (fl (32 - gk) fun j => .int .u8 (byteAt (val a0 a1 a2 a3) (31 - j))))
  case atStart => exact ⟨Nat.le_refl _, rfl, by go_grown, Cw.new _ _ _ _ _ _, World.ownsRow_nil _ _ _ _⟩
  case round =>
    obtain ⟨hk, rfl, EW, CA, hown⟩ := hrel
    cases gk with
    | zero =>
      obtain ⟨g, cap, hv, hg1, hg2⟩ := hown.form (by decide)
      subst hv
      have hcv := run_convert_bytes_back (P := Try.prog) wr 62 9 5 ⟨g, 0, none⟩ cap (octs (val a0 a1 a2 a3)) Try.underlying62 Try.underlying5 Try.underlying9 (fun j hj => by
        have hj' : j < 32 := by rw [octs_len] at hj; exact hj
        rw [octs_at]
        exact hown.cells (g := g) rfl j _ (fl_at 32 _ j hj'))
      rw [octs_len] at hcv
      go_wp2
      go_ret
      exact ⟨rfl, EW⟩
    | succ k =>
      obtain ⟨q, hqk, hq4⟩ : ∃ q : Nat, k / 8 = q ∧ q < 4 := ⟨k / 8, rfl, by omega⟩
      obtain ⟨r, hrk, hr4⟩ : ∃ r : Nat, k % 8 = r ∧ r < 8 := ⟨k % 8, rfl, by omega⟩
      have hq : (k : Int).tdiv 8 = q := by rw [Int.tdiv_eq_ediv_of_nonneg (by omega)]; omega
      have hr : (k : Int).tmod 8 = r := by rw [Int.tmod_eq_emod_of_nonneg (by omega)]; omega
      obtain ⟨s, hs⟩ : ∃ s : Nat, 8 * r = s := ⟨_, rfl⟩
      have hs64 : s < 64 := by omega
      have hm : IntKind.i64.wrap (8 * (r : Int)) = s := by rw [IntKind.wrap_i64]; omega
      have hm' : IntKind.i64.wrap ((s : Nat) : Int) = s := by rw [IntKind.wrap_i64]; omega
      obtain ⟨p, hpp⟩ : ∃ p : Int, nth a0 a1 a2 a3 q = p := ⟨_, rfl⟩
      have hp := CA.nth q hq4
      rw [hpp] at hp
      have h3 := byte_part a0 a1 a2 a3 ha k (by omega)
      rw [hqk, hrk, hpp, hs] at h3
      obtain ⟨t, ht⟩ : ∃ t, byteAt (val a0 a1 a2 a3) k = t := ⟨_, rfl⟩
      rw [ht] at h3
      have h8 : IntKind.u8.wrap (p / 2 ^ s) = t := by rw [← h3]; rfl
      have HB : Hid (_ = t) := ht
      clear hqk hrk hpp ht h3
      have e1 : ((k + 1 : Nat) : Int) - 1 = k := by omega
      rw [e1]
      have hgz := CA.z
      go_wp2_with (at_builtin; refine wpList_append_own _ rfl _ _ 62 rfl (w.heap.size + 1) 5 i0 (.int .u8 0) 1 1 Try.underlying62 hi hz0 hz1 hz2 rfl (by decide) _ _ _ rfl (hown.alloc _) ⟨wr.heap.size, 0, none⟩ 1 1 [.int .u8 t] rfl rfl ?c1 ?c2 ?c3 ?c4 ?c5 ?_)
      case c1 => exact one_new _ _ _
      case c2 => intro u hu; simp at hu; subst hu; rfl
      case c3 => unfold maxLen; omega
      case c4 => omega
      case c5 => simp; omega
      · intro v' w2 hown' hgrow _
        go_wp2
        go_roundg k
        case measure => omega
        case rel =>
          have hr : ∀ b, u3.ownBlock = some b → w.heap.size + 1 ≤ b := fun b hb => (hown.lt b hb).1
          refine ⟨by omega, rfl, ?_, ?_, ?_⟩
          · exact (EW.alloc EW.size _).grown hgrow (by have := EW.size; simp; omega) (fun b hb => by have := hr b hb; omega)
          · exact (CA.alloc _).grown hgrow (fun e => by have := hr _ e.symm; omega)
          · have e2 : 32 - k = 31 - k + 1 := by omega
            have e3 : 31 - (31 - k) = k := by omega
            rw [e2, fl_succ, e3, HB.out]
            exact hown'
end Go.Proofs.Ytgapcjdgakamoaa
