/- The numbers of a division: both sides raised alike leave the quotient as it is. -/
import Derived.Test.YtgapcjdgakamoaaW12a
namespace Go.Proofs.Ytgapcjdgakamoaa
open Go.RowKit

theorem vlong_bd (n0 n1 n2 n3 n4 n5 n6 n7 n8 n9 n10 n11 : Int) (h : Wl n0 n1 n2 n3 n4 n5 n6 n7 n8 n9 n10 n11) : 0 ≤ vlong n0 n1 n2 n3 n4 n5 n6 n7 n8 n9 n10 n11 ∧ vlong n0 n1 n2 n3 n4 n5 n6 n7 n8 n9 n10 n11 < 1552518092300708935148979488462502555256886017116696611139052038026050952686376886330878408828646477950487730697131073206171580044114814391444287275041181139204454976020849905550265285631598444825262999193716468750892846853816057856 := by
  obtain ⟨⟨_, _⟩, ⟨_, _⟩, ⟨_, _⟩, ⟨_, _⟩, ⟨_, _⟩, ⟨_, _⟩, ⟨_, _⟩, ⟨_, _⟩, ⟨_, _⟩, ⟨_, _⟩, ⟨_, _⟩, ⟨_, _⟩⟩ := h
  unfold vlong; omega

theorem pw_255 (z : Int) (h : z < 256) : (2 : Int) ^ z.toNat ≤ 57896044618658097711785492504343953926634992332820282019728792003956564819968 := by
  have : 2 ^ z.toNat ≤ 2 ^ 255 := Nat.pow_le_pow_right (by decide) (by omega)
  rw [pw_cast]
  have e : (2 ^ 255 : Nat) = 57896044618658097711785492504343953926634992332820282019728792003956564819968 := by decide
  omega

theorem norm_facts (n0 n1 n2 n3 n4 n5 n6 n7 n8 n9 n10 n11 d0 d1 d2 d3 e0 e1 e2 e3 e4 e5 e6 e7 e8 e9 e10 e11 m0 m1 m2 m3 m4 m5 m6 m7 m8 m9 m10 m11 z : Int) (hn : Wl n0 n1 n2 n3 n4 n5 n6 n7 n8 n9 n10 n11) (hn8 : vlong n0 n1 n2 n3 n4 n5 n6 n7 n8 n9 n10 n11 < 13407807929942597099574024998205846127479365820592393377723561443721764030073546976801874298166903427690031858186486050853753882811946569946433649006084096) (hz1 : z < 256)
    (hZ : 57896044618658097711785492504343953926634992332820282019728792003956564819968 ≤ val d0 d1 d2 d3 * 2 ^ z.toNat ∧ val d0 d1 d2 d3 * 2 ^ z.toNat < 115792089237316195423570985008687907853269984665640564039457584007913129639936)
    (hE : Wl e0 e1 e2 e3 e4 e5 e6 e7 e8 e9 e10 e11) (hEv : ∃ k : Int, vlong e0 e1 e2 e3 e4 e5 e6 e7 e8 e9 e10 e11 + 1552518092300708935148979488462502555256886017116696611139052038026050952686376886330878408828646477950487730697131073206171580044114814391444287275041181139204454976020849905550265285631598444825262999193716468750892846853816057856 * k = vlong d0 d1 d2 d3 0 0 0 0 0 0 0 0 * 2 ^ z.toNat) (hM : Wl m0 m1 m2 m3 m4 m5 m6 m7 m8 m9 m10 m11) (hMv : ∃ k : Int, vlong m0 m1 m2 m3 m4 m5 m6 m7 m8 m9 m10 m11 + 1552518092300708935148979488462502555256886017116696611139052038026050952686376886330878408828646477950487730697131073206171580044114814391444287275041181139204454976020849905550265285631598444825262999193716468750892846853816057856 * k = vlong n0 n1 n2 n3 n4 n5 n6 n7 n8 n9 n10 n11 * 2 ^ z.toNat) :
    val e0 e1 e2 e3 = val d0 d1 d2 d3 * 2 ^ z.toNat ∧ 9223372036854775808 ≤ e3 ∧ 0 < val e0 e1 e2 e3 ∧ vlong m0 m1 m2 m3 m4 m5 m6 m7 m8 m9 m10 m11 = vlong n0 n1 n2 n3 n4 n5 n6 n7 n8 n9 n10 n11 * 2 ^ z.toNat := by
  have hU := pw_pos z.toNat
  have hU1 := pw_255 z hz1
  have hm := vlong_bd _ _ _ _ _ _ _ _ _ _ _ _ hM
  have hnb := vlong_bd _ _ _ _ _ _ _ _ _ _ _ _ hn
  have p0 : 0 ≤ vlong n0 n1 n2 n3 n4 n5 n6 n7 n8 n9 n10 n11 * 2 ^ z.toNat := Int.mul_nonneg hnb.1 (by omega)
  have p1 : vlong n0 n1 n2 n3 n4 n5 n6 n7 n8 n9 n10 n11 * 2 ^ z.toNat ≤ 13407807929942597099574024998205846127479365820592393377723561443721764030073546976801874298166903427690031858186486050853753882811946569946433649006084096 * 57896044618658097711785492504343953926634992332820282019728792003956564819968 := Int.mul_le_mul (by omega) hU1 (by omega) (by decide)
  have hdl : vlong d0 d1 d2 d3 0 0 0 0 0 0 0 0 = val d0 d1 d2 d3 := by unfold vlong val; omega
  rw [hdl] at hEv
  obtain ⟨k1, hk1⟩ := hEv
  obtain ⟨k2, hk2⟩ := hMv
  have he := vlong_bd _ _ _ _ _ _ _ _ _ _ _ _ hE
  have hel : vlong e0 e1 e2 e3 e4 e5 e6 e7 e8 e9 e10 e11 = val d0 d1 d2 d3 * 2 ^ z.toNat := by omega
  have hml : vlong m0 m1 m2 m3 m4 m5 m6 m7 m8 m9 m10 m11 = vlong n0 n1 n2 n3 n4 n5 n6 n7 n8 n9 n10 n11 * 2 ^ z.toNat := by omega
  have hev : val e0 e1 e2 e3 = vlong e0 e1 e2 e3 e4 e5 e6 e7 e8 e9 e10 e11 ∧ 9223372036854775808 ≤ e3 := by
    rw [← hel] at hZ
    obtain ⟨⟨_, _⟩, ⟨_, _⟩, ⟨_, _⟩, ⟨_, _⟩, ⟨_, _⟩, ⟨_, _⟩, ⟨_, _⟩, ⟨_, _⟩, ⟨_, _⟩, ⟨_, _⟩, ⟨_, _⟩, ⟨_, _⟩⟩ := hE
    unfold vlong at hZ ⊢
    unfold val
    omega
  refine ⟨by omega, hev.2, by omega, hml⟩

theorem div_end (n d U q rv : Int) (hU : 0 < U) (hd : 0 < d) (h : n * U = q * (d * U) + rv) (h0 : 0 ≤ rv) (h1 : rv < d * U) : q = n / d ∧ rv / U = n % d := by
  have e : rv = (n - q * d) * U := by rw [Int.sub_mul, Int.mul_assoc]; omega
  have r0 : 0 ≤ n - q * d := by
    apply Decidable.byContradiction
    intro hc
    have := Int.mul_le_mul_of_nonneg_right (a := n - q * d) (b := -1) (c := U) (by omega) (by omega)
    omega
  have r1 : n - q * d < d := by
    apply Decidable.byContradiction
    intro hc
    have := Int.mul_le_mul_of_nonneg_right (a := d) (b := n - q * d) (c := U) (by omega) (by omega)
    omega
  have u := (Int.ediv_emod_unique (a := n) (b := d) (r := n - q * d) (q := q) hd).2 ⟨by rw [Int.mul_comm d]; omega, r0, r1⟩
  refine ⟨u.1.symm, ?_⟩
  rw [e, Int.mul_ediv_cancel _ (by omega)]
  exact u.2.symm

theorem low_of_long (n0 n1 n2 n3 n4 n5 n6 n7 n8 n9 n10 n11 : Int) (h : Wl n0 n1 n2 n3 n4 n5 n6 n7 n8 n9 n10 n11) : val n0 n1 n2 n3 = vlong n0 n1 n2 n3 n4 n5 n6 n7 n8 n9 n10 n11 % 115792089237316195423570985008687907853269984665640564039457584007913129639936 := by
  obtain ⟨⟨_, _⟩, ⟨_, _⟩, ⟨_, _⟩, ⟨_, _⟩, ⟨_, _⟩, ⟨_, _⟩, ⟨_, _⟩, ⟨_, _⟩, ⟨_, _⟩, ⟨_, _⟩, ⟨_, _⟩, ⟨_, _⟩⟩ := h
  unfold vlong val; omega
end Go.Proofs.Ytgapcjdgakamoaa
