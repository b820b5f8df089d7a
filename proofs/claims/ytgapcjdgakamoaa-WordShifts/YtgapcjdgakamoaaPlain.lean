/- Plain arithmetic of parts of 64 bits: shifts whose parts are joined by 'or', and the powers of two. No Go in sight. -/
import Derived.Test.YtgapcjdgakamoaaBase
import Derived.Laws.BitsAllLaws
namespace Go.Proofs.Ytgapcjdgakamoaa
open Go.RowKit

theorem pw_pos (k : Nat) : (0 : Int) < 2 ^ k := Int.pow_pos (by decide)

theorem pw_split (r : Int) (h0 : 0 ≤ r) (h1 : r < 64) : (2 : Int) ^ r.toNat * 2 ^ (64 - r).toNat = 18446744073709551616 := by
  rw [← Int.pow_add, show r.toNat + (64 - r).toNat = 64 from by omega]
  decide

theorem nat_mulmod (y k : Nat) (hk : k ≤ 64) : y * 2 ^ (64 - k) % 18446744073709551616 = (y % 2 ^ k) * 2 ^ (64 - k) := by
  have e : 18446744073709551616 = 2 ^ k * 2 ^ (64 - k) := by rw [← Nat.pow_add, show k + (64 - k) = 64 from by omega]
  rw [e, Nat.mul_mod_mul_right]

theorem pw_cast (k : Nat) : (2 : Int) ^ k = ((2 ^ k : Nat) : Int) := by simp

theorem or_low (x y r : Int) (hx : Pt x) (hy : Pt y) (h0 : 0 ≤ r) (h1 : r < 64) :
    bits .or .u64 (x / 2 ^ r.toNat) (IntKind.u64.wrap (y * 2 ^ (64 - r).toNat)) = x / 2 ^ r.toNat + (y % 2 ^ r.toNat) * 2 ^ (64 - r).toNat := by
  obtain ⟨hx0, hx1⟩ := hx
  obtain ⟨hy0, hy1⟩ := hy
  obtain ⟨k, rfl⟩ := Int.eq_ofNat_of_zero_le h0
  obtain ⟨X, rfl⟩ := Int.eq_ofNat_of_zero_le hx0
  obtain ⟨Y, rfl⟩ := Int.eq_ofNat_of_zero_le hy0
  rw [show ((k : Int)).toNat = k from rfl, show (64 - (k : Int)).toNat = 64 - k from by omega, IntKind.wrap_u64]
  rw [pw_cast, pw_cast, ← Int.natCast_mul, ← Int.natCast_ediv, ← Int.natCast_emod Y, ← Int.natCast_mul]
  rw [show ((Y * 2 ^ (64 - k) : Nat) : Int) % 18446744073709551616 = ((Y * 2 ^ (64 - k) % 18446744073709551616 : Nat) : Int) from by omega]
  rw [nat_mulmod Y k (by omega)]
  have p1 : 2 ^ k * 2 ^ (64 - k) = 18446744073709551616 := by rw [← Nat.pow_add, show k + (64 - k) = 64 from by omega]
  have hq : X / 2 ^ k < 2 ^ (64 - k) := by
    apply Nat.div_lt_of_lt_mul
    rw [p1]; omega
  have hm : (Y % 2 ^ k) * 2 ^ (64 - k) < 18446744073709551616 := by
    have : Y % 2 ^ k < 2 ^ k := Nat.mod_lt _ (Nat.two_pow_pos k)
    calc (Y % 2 ^ k) * 2 ^ (64 - k) < 2 ^ k * 2 ^ (64 - k) := Nat.mul_lt_mul_of_pos_right this (Nat.two_pow_pos _)
      _ = 18446744073709551616 := p1
  have hb : X / 2 ^ k < 18446744073709551616 := Nat.lt_of_le_of_lt (Nat.div_le_self _ _) (by omega)
  rw [u64_or_nat _ _ hb hm, Nat.or_comm, nat_join (64 - k) _ _ (Nat.mul_mod_left _ _) hq]
  omega

theorem or_high (x y r : Int) (hx : Pt x) (hy : Pt y) (h0 : 0 ≤ r) (h1 : r < 64) :
    bits .or .u64 (IntKind.u64.wrap (x * 2 ^ r.toNat)) (y / 2 ^ (64 - r).toNat) = (x % 2 ^ (64 - r).toNat) * 2 ^ r.toNat + y / 2 ^ (64 - r).toNat := by
  obtain ⟨hx0, hx1⟩ := hx
  obtain ⟨hy0, hy1⟩ := hy
  obtain ⟨k, rfl⟩ := Int.eq_ofNat_of_zero_le h0
  obtain ⟨X, rfl⟩ := Int.eq_ofNat_of_zero_le hx0
  obtain ⟨Y, rfl⟩ := Int.eq_ofNat_of_zero_le hy0
  rw [show ((k : Int)).toNat = k from rfl, show (64 - (k : Int)).toNat = 64 - k from by omega, IntKind.wrap_u64]
  rw [pw_cast, pw_cast, ← Int.natCast_mul, ← Int.natCast_ediv, ← Int.natCast_emod X, ← Int.natCast_mul]
  rw [show ((X * 2 ^ k : Nat) : Int) % 18446744073709551616 = ((X * 2 ^ k % 18446744073709551616 : Nat) : Int) from by omega]
  have e0 := nat_mulmod X (64 - k) (by omega)
  rw [show 64 - (64 - k) = k from by omega] at e0
  rw [e0]
  have p1 : 2 ^ (64 - k) * 2 ^ k = 18446744073709551616 := by rw [← Nat.pow_add, show (64 - k) + k = 64 from by omega]
  have hq : Y / 2 ^ (64 - k) < 2 ^ k := by
    apply Nat.div_lt_of_lt_mul
    rw [p1]; omega
  have hm : (X % 2 ^ (64 - k)) * 2 ^ k < 18446744073709551616 := by
    have : X % 2 ^ (64 - k) < 2 ^ (64 - k) := Nat.mod_lt _ (Nat.two_pow_pos _)
    calc (X % 2 ^ (64 - k)) * 2 ^ k < 2 ^ (64 - k) * 2 ^ k := Nat.mul_lt_mul_of_pos_right this (Nat.two_pow_pos _)
      _ = 18446744073709551616 := p1
  have hb : Y / 2 ^ (64 - k) < 18446744073709551616 := Nat.lt_of_le_of_lt (Nat.div_le_self _ _) (by omega)
  rw [u64_or_nat _ _ hm hb, nat_join k _ _ (Nat.mul_mod_left _ _) hq]
  omega

/-- A part shifted down, the next one's lowest bits above it. -/
theorem low_v (x y r : Int) (hx : Pt x) (hy : Pt y) (h0 : 0 ≤ r) (h1 : r < 64) :
    ∃ s : Int, bits .or .u64 (x / 2 ^ r.toNat) (IntKind.u64.wrap (y * 2 ^ (64 - r).toNat)) = s ∧ Hid (s = x / 2 ^ r.toNat + (y % 2 ^ r.toNat) * 2 ^ (64 - r).toNat ∧ Pt s) := by
  refine ⟨_, rfl, ?_⟩
  refine ⟨or_low x y r hx hy h0 h1, ?_⟩
  rw [or_low x y r hx hy h0 h1]
  have hU := pw_pos r.toNat
  have hV := pw_pos (64 - r).toNat
  have hUV := pw_split r h0 h1
  obtain ⟨hx0, hx1⟩ := hx
  generalize (2 : Int) ^ r.toNat = U at *
  generalize (2 : Int) ^ (64 - r).toNat = V at *
  have a1 := Int.emod_nonneg y (show U ≠ 0 by omega)
  have a2 := Int.emod_lt_of_pos y hU
  have a3 : x / U < V := Int.ediv_lt_of_lt_mul hU (by rw [Int.mul_comm]; omega)
  have a4 : 0 ≤ x / U := Int.ediv_nonneg hx0 (by omega)
  have a5 : (y % U) * V ≤ (U - 1) * V := Int.mul_le_mul_of_nonneg_right (by omega) (by omega)
  have a6 : 0 ≤ (y % U) * V := Int.mul_nonneg a1 (by omega)
  rw [Int.sub_mul] at a5
  exact ⟨by omega, by omega⟩

/-- A part shifted up, the highest bits of the part below it under it. -/
theorem high_v (x y r : Int) (hx : Pt x) (hy : Pt y) (h0 : 0 ≤ r) (h1 : r < 64) :
    ∃ s : Int, bits .or .u64 (IntKind.u64.wrap (x * 2 ^ r.toNat)) (y / 2 ^ (64 - r).toNat) = s ∧ Hid (s = (x % 2 ^ (64 - r).toNat) * 2 ^ r.toNat + y / 2 ^ (64 - r).toNat ∧ Pt s) := by
  refine ⟨_, rfl, ?_⟩
  refine ⟨or_high x y r hx hy h0 h1, ?_⟩
  rw [or_high x y r hx hy h0 h1]
  have hU := pw_pos r.toNat
  have hV := pw_pos (64 - r).toNat
  have hUV := pw_split r h0 h1
  obtain ⟨hy0, hy1⟩ := hy
  generalize (2 : Int) ^ r.toNat = U at *
  generalize (2 : Int) ^ (64 - r).toNat = V at *
  have a1 := Int.emod_nonneg x (show V ≠ 0 by omega)
  have a2 := Int.emod_lt_of_pos x hV
  have a3 : y / V < U := Int.ediv_lt_of_lt_mul hV (by omega)
  have a4 : 0 ≤ y / V := Int.ediv_nonneg hy0 (by omega)
  have a5 : (x % V) * U ≤ (V - 1) * U := Int.mul_le_mul_of_nonneg_right (by omega) (by omega)
  have a6 : 0 ≤ (x % V) * U := Int.mul_nonneg a1 (by omega)
  rw [Int.sub_mul, Int.mul_comm V U] at a5
  exact ⟨by omega, by omega⟩

theorem low_part (x y U V s : Int) (hUV : U * V = 18446744073709551616) (hs : s = x / U + (y % U) * V) : U * s = (x - x % U) + 18446744073709551616 * (y % U) := by
  have e := Int.mul_ediv_add_emod x U
  rw [hs, Int.mul_add, Int.mul_left_comm, hUV]
  omega

theorem low_val (a0 a1 a2 a3 U V s0 s1 s2 : Int) (hU : 0 < U) (hUV : U * V = 18446744073709551616)
    (h0 : s0 = a0 / U + (a1 % U) * V) (h1 : s1 = a1 / U + (a2 % U) * V) (h2 : s2 = a2 / U + (a3 % U) * V) : val s0 s1 s2 (a3 / U) = val a0 a1 a2 a3 / U := by
  have e0 := low_part a0 a1 U V s0 hUV h0
  have e1 := low_part a1 a2 U V s1 hUV h1
  have e2 := low_part a2 a3 U V s2 hUV h2
  have e3 := Int.mul_ediv_add_emod a3 U
  have key : val a0 a1 a2 a3 = a0 % U + U * val s0 s1 s2 (a3 / U) := by
    unfold val
    rw [Int.mul_add, Int.mul_add, Int.mul_add, Int.mul_left_comm U 18446744073709551616, Int.mul_left_comm U 340282366920938463463374607431768211456, Int.mul_left_comm U 6277101735386680763835789423207666416102355444464034512896]
    omega
  rw [key, Int.add_mul_ediv_left _ _ (by omega), Int.ediv_eq_zero_of_lt (Int.emod_nonneg _ (by omega)) (Int.emod_lt_of_pos _ hU)]
  omega

theorem pw_parts (z r : Int) (p : Nat) (h0 : 0 ≤ z) (h1 : z / 64 = p) (h2 : z % 64 = r) : (2 : Int) ^ z.toNat = (2 ^ (64 * p)) * 2 ^ r.toNat := by
  rw [← Int.pow_add, show z.toNat = 64 * p + r.toNat from by omega]

theorem high_part (x V U : Int) (hUV : U * V = 18446744073709551616) : x * U = 18446744073709551616 * (x / V) + (x % V) * U := by
  have e := Int.mul_ediv_add_emod x V
  have e2 : x * U = (V * (x / V) + x % V) * U := by rw [e]
  rw [e2, Int.add_mul, Int.mul_right_comm, Int.mul_comm V U, hUV]

theorem wrap_high (x r : Int) (h0 : 0 ≤ r) (h1 : r < 64) : ∃ s : Int, IntKind.u64.wrap (x * 2 ^ r.toNat) = s ∧ Hid (s = (x % 2 ^ (64 - r).toNat) * 2 ^ r.toNat ∧ Pt s) := by
  refine ⟨_, rfl, ?_⟩
  have hU := pw_pos r.toNat
  have hV := pw_pos (64 - r).toNat
  have hUV := pw_split r h0 h1
  have e := high_part x (2 ^ (64 - r).toNat) (2 ^ r.toNat) hUV
  rw [IntKind.wrap_u64]
  generalize (2 : Int) ^ r.toNat = U at *
  generalize (2 : Int) ^ (64 - r).toNat = V at *
  have a1 := Int.emod_nonneg x (show V ≠ 0 by omega)
  have a2 := Int.emod_lt_of_pos x hV
  have a5 : (x % V) * U ≤ (V - 1) * U := Int.mul_le_mul_of_nonneg_right (by omega) (by omega)
  have a6 : 0 ≤ (x % V) * U := Int.mul_nonneg a1 (by omega)
  rw [Int.sub_mul, Int.mul_comm V U] at a5
  exact ⟨by omega, by omega, by omega⟩

/-- The number of twelve parts. -/
def vlong (n0 n1 n2 n3 n4 n5 n6 n7 n8 n9 n10 n11 : Int) : Int := n0 + 18446744073709551616 * n1 + 340282366920938463463374607431768211456 * n2 + 6277101735386680763835789423207666416102355444464034512896 * n3 + 115792089237316195423570985008687907853269984665640564039457584007913129639936 * n4 + 2135987035920910082395021706169552114602704522356652769947041607822219725780640550022962086936576 * n5 + 39402006196394479212279040100143613805079739270465446667948293404245721771497210611414266254884915640806627990306816 * n6 + 726838724295606890549323807888004534353641360687318060281490199180639288113397923326191050713763565560762521606266177933534601628614656 * n7 + 13407807929942597099574024998205846127479365820592393377723561443721764030073546976801874298166903427690031858186486050853753882811946569946433649006084096 * n8 + 247330401473104534060502521019647190035131349101211839914063056092897225106531867170316401061243044989597671426016139339351365034306751209967546155101893167916606772148699136 * n9 + 4562440617622195218641171605700291324893228507248559930579192517899275167208677386505912811317371399778642309573594407310688704721375437998252661319722214188251994674360264950082874192246603776 * n10 + 84162174424773976115855838126082058648805436845170781751972494449099714468753293153818664580441415219631727501698851483408310916002940861810045036330430093599283578738055113571066620126149163476340692027772502016 * n11

/-- Twelve parts of a number. -/
def Wl (n0 n1 n2 n3 n4 n5 n6 n7 n8 n9 n10 n11 : Int) : Prop := Pt n0 ∧ Pt n1 ∧ Pt n2 ∧ Pt n3 ∧ Pt n4 ∧ Pt n5 ∧ Pt n6 ∧ Pt n7 ∧ Pt n8 ∧ Pt n9 ∧ Pt n10 ∧ Pt n11

theorem vlong_mul (n0 n1 n2 n3 n4 n5 n6 n7 n8 n9 n10 n11 U : Int) : vlong n0 n1 n2 n3 n4 n5 n6 n7 n8 n9 n10 n11 * U = n0 * U + 18446744073709551616 * (n1 * U) + 340282366920938463463374607431768211456 * (n2 * U) + 6277101735386680763835789423207666416102355444464034512896 * (n3 * U) + 115792089237316195423570985008687907853269984665640564039457584007913129639936 * (n4 * U) + 2135987035920910082395021706169552114602704522356652769947041607822219725780640550022962086936576 * (n5 * U) + 39402006196394479212279040100143613805079739270465446667948293404245721771497210611414266254884915640806627990306816 * (n6 * U) + 726838724295606890549323807888004534353641360687318060281490199180639288113397923326191050713763565560762521606266177933534601628614656 * (n7 * U) + 13407807929942597099574024998205846127479365820592393377723561443721764030073546976801874298166903427690031858186486050853753882811946569946433649006084096 * (n8 * U) + 247330401473104534060502521019647190035131349101211839914063056092897225106531867170316401061243044989597671426016139339351365034306751209967546155101893167916606772148699136 * (n9 * U) + 4562440617622195218641171605700291324893228507248559930579192517899275167208677386505912811317371399778642309573594407310688704721375437998252661319722214188251994674360264950082874192246603776 * (n10 * U) + 84162174424773976115855838126082058648805436845170781751972494449099714468753293153818664580441415219631727501698851483408310916002940861810045036330430093599283578738055113571066620126149163476340692027772502016 * (n11 * U) := by
  unfold vlong
  simp only [Int.add_mul, Int.mul_assoc]

theorem high_val0 (n0 n1 n2 n3 n4 n5 n6 n7 n8 n9 n10 n11 s0 s1 s2 s3 s4 s5 s6 s7 s8 s9 s10 s11 U V : Int) (hUV : U * V = 18446744073709551616) (g0 : s0 = (n0 % V) * U) (g1 : s1 = (n1 % V) * U + n0 / V) (g2 : s2 = (n2 % V) * U + n1 / V) (g3 : s3 = (n3 % V) * U + n2 / V) (g4 : s4 = (n4 % V) * U + n3 / V) (g5 : s5 = (n5 % V) * U + n4 / V) (g6 : s6 = (n6 % V) * U + n5 / V) (g7 : s7 = (n7 % V) * U + n6 / V) (g8 : s8 = (n8 % V) * U + n7 / V) (g9 : s9 = (n9 % V) * U + n8 / V) (g10 : s10 = (n10 % V) * U + n9 / V) (g11 : s11 = (n11 % V) * U + n10 / V) :
    vlong s0 s1 s2 s3 s4 s5 s6 s7 s8 s9 s10 s11 + 1552518092300708935148979488462502555256886017116696611139052038026050952686376886330878408828646477950487730697131073206171580044114814391444287275041181139204454976020849905550265285631598444825262999193716468750892846853816057856 * (n11 / V) = vlong n0 n1 n2 n3 n4 n5 n6 n7 n8 n9 n10 n11 * (1 * U) := by
  rw [show vlong n0 n1 n2 n3 n4 n5 n6 n7 n8 n9 n10 n11 * (1 * U) = 1 * (vlong n0 n1 n2 n3 n4 n5 n6 n7 n8 n9 n10 n11 * U) from Int.mul_left_comm _ _ _, vlong_mul]
  have e0 := high_part n0 V U hUV
  have e1 := high_part n1 V U hUV
  have e2 := high_part n2 V U hUV
  have e3 := high_part n3 V U hUV
  have e4 := high_part n4 V U hUV
  have e5 := high_part n5 V U hUV
  have e6 := high_part n6 V U hUV
  have e7 := high_part n7 V U hUV
  have e8 := high_part n8 V U hUV
  have e9 := high_part n9 V U hUV
  have e10 := high_part n10 V U hUV
  have e11 := high_part n11 V U hUV
  unfold vlong
  omega

theorem high_val1 (n0 n1 n2 n3 n4 n5 n6 n7 n8 n9 n10 n11 s0 s1 s2 s3 s4 s5 s6 s7 s8 s9 s10 U V : Int) (hUV : U * V = 18446744073709551616) (g0 : s0 = (n0 % V) * U) (g1 : s1 = (n1 % V) * U + n0 / V) (g2 : s2 = (n2 % V) * U + n1 / V) (g3 : s3 = (n3 % V) * U + n2 / V) (g4 : s4 = (n4 % V) * U + n3 / V) (g5 : s5 = (n5 % V) * U + n4 / V) (g6 : s6 = (n6 % V) * U + n5 / V) (g7 : s7 = (n7 % V) * U + n6 / V) (g8 : s8 = (n8 % V) * U + n7 / V) (g9 : s9 = (n9 % V) * U + n8 / V) (g10 : s10 = (n10 % V) * U + n9 / V) :
    vlong 0 s0 s1 s2 s3 s4 s5 s6 s7 s8 s9 s10 + 1552518092300708935148979488462502555256886017116696611139052038026050952686376886330878408828646477950487730697131073206171580044114814391444287275041181139204454976020849905550265285631598444825262999193716468750892846853816057856 * (n10 / V + n11 * U) = vlong n0 n1 n2 n3 n4 n5 n6 n7 n8 n9 n10 n11 * (18446744073709551616 * U) := by
  rw [show vlong n0 n1 n2 n3 n4 n5 n6 n7 n8 n9 n10 n11 * (18446744073709551616 * U) = 18446744073709551616 * (vlong n0 n1 n2 n3 n4 n5 n6 n7 n8 n9 n10 n11 * U) from Int.mul_left_comm _ _ _, vlong_mul]
  have e0 := high_part n0 V U hUV
  have e1 := high_part n1 V U hUV
  have e2 := high_part n2 V U hUV
  have e3 := high_part n3 V U hUV
  have e4 := high_part n4 V U hUV
  have e5 := high_part n5 V U hUV
  have e6 := high_part n6 V U hUV
  have e7 := high_part n7 V U hUV
  have e8 := high_part n8 V U hUV
  have e9 := high_part n9 V U hUV
  have e10 := high_part n10 V U hUV
  unfold vlong
  omega

theorem high_val2 (n0 n1 n2 n3 n4 n5 n6 n7 n8 n9 n10 n11 s0 s1 s2 s3 s4 s5 s6 s7 s8 s9 U V : Int) (hUV : U * V = 18446744073709551616) (g0 : s0 = (n0 % V) * U) (g1 : s1 = (n1 % V) * U + n0 / V) (g2 : s2 = (n2 % V) * U + n1 / V) (g3 : s3 = (n3 % V) * U + n2 / V) (g4 : s4 = (n4 % V) * U + n3 / V) (g5 : s5 = (n5 % V) * U + n4 / V) (g6 : s6 = (n6 % V) * U + n5 / V) (g7 : s7 = (n7 % V) * U + n6 / V) (g8 : s8 = (n8 % V) * U + n7 / V) (g9 : s9 = (n9 % V) * U + n8 / V) :
    vlong 0 0 s0 s1 s2 s3 s4 s5 s6 s7 s8 s9 + 1552518092300708935148979488462502555256886017116696611139052038026050952686376886330878408828646477950487730697131073206171580044114814391444287275041181139204454976020849905550265285631598444825262999193716468750892846853816057856 * (n9 / V + n10 * U + 18446744073709551616 * (n11 * U)) = vlong n0 n1 n2 n3 n4 n5 n6 n7 n8 n9 n10 n11 * (340282366920938463463374607431768211456 * U) := by
  rw [show vlong n0 n1 n2 n3 n4 n5 n6 n7 n8 n9 n10 n11 * (340282366920938463463374607431768211456 * U) = 340282366920938463463374607431768211456 * (vlong n0 n1 n2 n3 n4 n5 n6 n7 n8 n9 n10 n11 * U) from Int.mul_left_comm _ _ _, vlong_mul]
  have e0 := high_part n0 V U hUV
  have e1 := high_part n1 V U hUV
  have e2 := high_part n2 V U hUV
  have e3 := high_part n3 V U hUV
  have e4 := high_part n4 V U hUV
  have e5 := high_part n5 V U hUV
  have e6 := high_part n6 V U hUV
  have e7 := high_part n7 V U hUV
  have e8 := high_part n8 V U hUV
  have e9 := high_part n9 V U hUV
  unfold vlong
  omega

theorem high_val3 (n0 n1 n2 n3 n4 n5 n6 n7 n8 n9 n10 n11 s0 s1 s2 s3 s4 s5 s6 s7 s8 U V : Int) (hUV : U * V = 18446744073709551616) (g0 : s0 = (n0 % V) * U) (g1 : s1 = (n1 % V) * U + n0 / V) (g2 : s2 = (n2 % V) * U + n1 / V) (g3 : s3 = (n3 % V) * U + n2 / V) (g4 : s4 = (n4 % V) * U + n3 / V) (g5 : s5 = (n5 % V) * U + n4 / V) (g6 : s6 = (n6 % V) * U + n5 / V) (g7 : s7 = (n7 % V) * U + n6 / V) (g8 : s8 = (n8 % V) * U + n7 / V) :
    vlong 0 0 0 s0 s1 s2 s3 s4 s5 s6 s7 s8 + 1552518092300708935148979488462502555256886017116696611139052038026050952686376886330878408828646477950487730697131073206171580044114814391444287275041181139204454976020849905550265285631598444825262999193716468750892846853816057856 * (n8 / V + n9 * U + 18446744073709551616 * (n10 * U) + 340282366920938463463374607431768211456 * (n11 * U)) = vlong n0 n1 n2 n3 n4 n5 n6 n7 n8 n9 n10 n11 * (6277101735386680763835789423207666416102355444464034512896 * U) := by
  rw [show vlong n0 n1 n2 n3 n4 n5 n6 n7 n8 n9 n10 n11 * (6277101735386680763835789423207666416102355444464034512896 * U) = 6277101735386680763835789423207666416102355444464034512896 * (vlong n0 n1 n2 n3 n4 n5 n6 n7 n8 n9 n10 n11 * U) from Int.mul_left_comm _ _ _, vlong_mul]
  have e0 := high_part n0 V U hUV
  have e1 := high_part n1 V U hUV
  have e2 := high_part n2 V U hUV
  have e3 := high_part n3 V U hUV
  have e4 := high_part n4 V U hUV
  have e5 := high_part n5 V U hUV
  have e6 := high_part n6 V U hUV
  have e7 := high_part n7 V U hUV
  have e8 := high_part n8 V U hUV
  unfold vlong
  omega
end Go.Proofs.Ytgapcjdgakamoaa
