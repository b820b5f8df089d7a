/- Lemmas: Multiples of points of the curve: of a sum, of a multiple; the group's points together. Pure. No condition. How many points the curve has: one more than the prime; so four times the order of the group, times a point, is Inf. Pure. No condition. -/
import Derived.Test.YtgefjmpnpebfoabDoorM1
import Derived.Test.YtgefjmpnpebfoabDoorM2
import Derived.Test.YtgefjmpnpebfoabDoorM3
import Derived.Test.YtgefjmpnpebfoabDoorM4
import Derived.Test.YtgefjmpnpebfoabDoorRows
namespace Go.Proofs.YtgefjmpnpebfoabDoor
open Go.RowKit

/-- Four summed up two by two, in two ways. -/
theorem sm_four {a b c d : Pt} (ha : onN a = true) (hb : onN b = true) (hc : onN c = true) (hd : onN d = true) : smN (smN a b) (smN c d) = smN (smN a c) (smN b d) := by
  rw [sm_assoc ha hb (on_sm hc hd), ← sm_assoc hb hc hd, sm_comm hb hc, sm_assoc hc hb hd, ← sm_assoc ha hc (on_sm hb hd)]
theorem tm_succ {p : Pt} (hp : onN p = true) (n : Nat) : tmN p (n + 1) = smN (tmN p n) p := by
  induction n using Nat.strongRecOn with
  | ind n ih =>
    by_cases h : n % 2 = 0
    · rw [tm_odd p (n + 1) (by omega), tm_even p n h, show (n + 1) / 2 = n / 2 by omega]
    · have ht := on_tm hp (n / 2)
      rw [tm_even p (n + 1) (by omega), tm_odd p n (by omega), show (n + 1) / 2 = n / 2 + 1 by omega, ih (n / 2) (by omega)]
      generalize tmN p (n / 2) = t at *
      rw [sm_four ht hp ht hp, sm_assoc (on_sm ht ht) hp hp]
theorem tm_add {p : Pt} (hp : onN p = true) (m : Nat) : ∀ n, tmN p (m + n) = smN (tmN p m) (tmN p n)
  | 0 => by rw [Nat.add_zero, tm_0, inf_sm]
  | n + 1 => by rw [← Nat.add_assoc, tm_succ hp, tm_add hp m n, tm_succ hp, sm_assoc (on_tm hp m) (on_tm hp n) hp]
theorem tm_mul {p : Pt} (hp : onN p = true) (m : Nat) : ∀ n, tmN (tmN p m) n = tmN p (m * n)
  | 0 => by rw [Nat.mul_zero, tm_0, tm_0]
  | n + 1 => by rw [tm_succ (on_tm hp m), tm_mul hp m n, Nat.mul_succ, tm_add hp]
theorem tm_sm {p q : Pt} (hp : onN p = true) (hq : onN q = true) : ∀ n, tmN (smN p q) n = smN (tmN p n) (tmN q n)
  | 0 => by rw [tm_0, tm_0, tm_0, sm_inf]
  | n + 1 => by rw [tm_succ (on_sm hp hq), tm_sm hp hq n, tm_succ hp, tm_succ hq, sm_four (on_tm hp n) (on_tm hq n) hp hq]
theorem gr_on {p : Pt} (h : grN p = true) : onN p = true := by
  unfold grN at h
  exact (Bool.and_eq_true _ _ ▸ h).1
theorem gr_or {p : Pt} (h : grN p = true) : tmN p orN = iN := by
  unfold grN at h
  exact of_decide_eq_true (Bool.and_eq_true _ _ ▸ h).2
theorem gr_of {p : Pt} (h : onN p = true) (e : tmN p orN = iN) : grN p = true := by
  unfold grN
  rw [h, e]; rfl
/-- The sum of two points of the group is of the group; so is a multiple. -/
theorem gr_sm {p q : Pt} (hp : grN p = true) (hq : grN q = true) : grN (smN p q) = true := by
  refine gr_of (on_sm (gr_on hp) (gr_on hq)) ?_
  rw [tm_sm (gr_on hp) (gr_on hq), gr_or hp, gr_or hq, sm_inf]
theorem gr_tm {p : Pt} (hp : grN p = true) (n : Nat) : grN (tmN p n) = true := by
  refine gr_of (on_tm (gr_on hp) n) ?_
  rw [tm_mul (gr_on hp), Nat.mul_comm, ← tm_mul (gr_on hp), gr_or hp, tm_inf]
theorem gr_inf : grN iN = true := gr_of (by decide) (tm_inf _)

/- Sums of lists. -/
def suL : List Pt → Pt
  | [] => iN
  | p :: l => smN p (suL l)
theorem on_su : ∀ l : List Pt, (∀ p ∈ l, onN p = true) → onN (suL l) = true
  | [], _ => by decide
  | p :: l, h => on_sm (h p (.head _)) (on_su l fun q hq => h q (.tail _ hq))
theorem su_perm {l m : List Pt} (h : l.Perm m) : (∀ p ∈ l, onN p = true) → suL l = suL m := by
  induction h with
  | nil => intro _; rfl
  | cons a h ih => intro hl; rw [suL, suL, ih fun q hq => hl q (.tail _ hq)]
  | swap a b l =>
    intro hl
    have ha := hl a (.tail _ (.head _))
    have hb := hl b (.head _)
    have ho := on_su l fun q hq => hl q (.tail _ (.tail _ hq))
    rw [suL, suL, suL, suL, ← sm_assoc hb ha ho, sm_comm hb ha, sm_assoc ha hb ho]
  | trans h1 h2 ih1 ih2 => intro hl; rw [ih1 hl, ih2 fun q hq => hl q (h1.mem_iff.2 hq)]
theorem su_map {p : Pt} (hp : onN p = true) : ∀ l : List Pt, (∀ q ∈ l, onN q = true) → suL (l.map (smN p)) = smN (tmN p l.length) (suL l)
  | [], _ => by rw [List.map_nil, suL, List.length_nil, tm_0, sm_inf]
  | q :: l, h => by
    have hq := h q (.head _)
    have hl : ∀ q ∈ l, onN q = true := fun q hq => h q (.tail _ hq)
    rw [List.map_cons, suL, su_map hp l hl, List.length_cons, tm_succ hp, suL, sm_comm (on_tm hp _) hp, sm_four hp hq (on_tm hp _) (on_su l hl)]
theorem count_one (a : Pt) : ∀ l : List Pt, l.Nodup → a ∈ l → l.count a = 1
  | b :: l, hn, h => by
    have h1 := List.nodup_cons.1 hn
    by_cases e : a = b
    · subst e
      rw [List.count_cons_self, List.count_eq_zero.2 h1.1]
    · have h2 : a ∈ l := (List.mem_cons.1 h).resolve_left e
      rw [List.count_cons_of_ne (fun q => e q.symm), count_one a l h1.2 h2]
theorem perm_of {l m : List Pt} (hl : l.Nodup) (hm : m.Nodup) (h : ∀ p, p ∈ l ↔ p ∈ m) : l.Perm m := by
  refine List.perm_iff_count.2 fun a => ?_
  by_cases ha : a ∈ l
  · have := (h a).1 ha
    rw [count_one a l hl ha, count_one a m hm this]
  · have h2 : a ∉ m := fun e => ha ((h a).2 e)
    rw [List.count_eq_zero.2 ha, List.count_eq_zero.2 h2]
/-- As many times as there are points: Inf. -/
theorem su_all {p : Pt} (hp : onN p = true) (l : List Pt) (hn : l.Nodup) (ho : ∀ q, q ∈ l ↔ onN q = true) : tmN p l.length = iN := by
  have hl : ∀ q ∈ l, onN q = true := fun q hq => (ho q).1 hq
  have inj : ∀ a b, onN a = true → onN b = true → smN p a = smN p b → a = b := by
    intro a b ha hb e
    rw [← sm_back hp ha, e, sm_back hp hb]
  have hm : (l.map (smN p)).Nodup := by
    unfold List.Nodup
    rw [List.pairwise_map]
    exact List.Pairwise.imp_of_mem (fun {a b} ha hb hab e => hab (inj a b (hl a ha) (hl b hb) e)) hn
  have hs : ∀ q, q ∈ l.map (smN p) ↔ q ∈ l := by
    intro q
    rw [List.mem_map, ho]
    constructor
    · rintro ⟨a, ha, rfl⟩
      exact on_sm hp (hl a ha)
    · intro hq
      refine ⟨smN (ngN p) q, (ho _).2 (on_sm (on_ng hp) hq), ?_⟩
      have := sm_back (on_ng hp) hq
      rw [ng_ng (wl_on hp)] at this
      exact this
  have e := su_perm (perm_of hm hn hs) (fun q hq => hl q ((hs q).1 hq))
  rw [su_map hp l hl] at e
  have hS := on_su l hl
  have hT := on_tm hp l.length
  generalize suL l = s at *
  generalize tmN p l.length = t at *
  have h1 := sm_back hS hT
  rw [sm_comm hS hT, e, ng_sm hS] at h1
  exact h1.symm
end Go.Proofs.YtgefjmpnpebfoabDoor
namespace Go.Proofs.YtgefjmpnpebfoabDoor
open Go.RowKit

theorem fq_m (a b : Nat) : fq (a * b) = fq a * fq b := by
  refine Fin.ext ?_
  rw [Fin.val_mul, fq_val, fq_val, fq_val, Nat.mul_mod]
theorem fq_mod (a : Nat) : fq (a % PM) = fq a := by
  refine Fin.ext ?_
  rw [fq_val, fq_val, Nat.mod_mod]
theorem rt_sq (a o k : Nat) (ho : 536870717 = o) (hk : k + 1 = o + o) : fq (muN (rtN a) (rtN a)) = fq a * fq (a ^ k) := by
  unfold rtN
  rw [ho, fq_mu, pw_pow, fq_mod, ← fq_m, ← fq_m, ← Nat.pow_add, ← hk, Nat.pow_succ, Nat.mul_comm a]
theorem hf_sq (a k p : Nat) (hp : p = PM) (hk : k + k + 1 = p) : fq a * (fq (a ^ k) * fq (a ^ k)) = fq a := by
  have e : a * (a ^ k * a ^ k) = a ^ p := by rw [← hk, Nat.pow_succ, Nat.pow_add, Nat.mul_comm]
  have h := fermat pm_prime a
  rw [← hp] at h
  rw [← fq_m, ← fq_m, e, ← fq_mod, ← fq_mod a, ← hp, h]
theorem roB_iff (a o k : Nat) (ho : 536870717 = o) (hk : k + 1 = o + o) : roB a = true ↔ fq a * fq (a ^ k) = fq a := by
  rw [← rt_sq a o k ho hk]
  unfold roB
  rw [decide_eq_true_eq]
  constructor
  · intro h; rw [h, fq_mod]
  · intro h
    have := congrArg Fin.val h
    rw [fq_val, fq_val, Nat.mod_eq_of_lt (mu_lt _ _)] at this
    exact this
theorem ng_pow {a b : Nat} (h : fq b = - fq a) : ∀ m, fq (b ^ (2 * m)) = fq (a ^ (2 * m)) ∧ fq (b ^ (2 * m + 1)) = - fq (a ^ (2 * m + 1))
  | 0 => by
    refine ⟨rfl, ?_⟩
    rw [Nat.mul_zero, Nat.zero_add, Nat.pow_one, Nat.pow_one, h]
  | m + 1 => by
    have ih := (ng_pow h m).2
    have p1 : ∀ c : Nat, c ^ (2 * (m + 1)) = c ^ (2 * m + 1) * c := fun c => by rw [show 2 * (m + 1) = 2 * m + 1 + 1 by omega, Nat.pow_succ]
    have p2 : ∀ c : Nat, c ^ (2 * (m + 1) + 1) = c ^ (2 * m + 1) * c * c := fun c => by rw [Nat.pow_succ, p1]
    rw [p1, p1, p2, p2, fq_m, fq_m, fq_m, fq_m, fq_m, fq_m, ih, h]
    generalize fq (a ^ (2 * m + 1)) = A
    generalize fq a = B
    clear ih h p1 p2
    exact ⟨by grobner, by grobner⟩
theorem hf_ng (a k m : Nat) (hm : k = 2 * m + 1) : fq (sbN 0 a ^ k) = - fq (a ^ k) := by
  have h : fq (sbN 0 a) = - fq a := by rw [fq_sb, fq_0]; grobner
  rw [hm]
  exact (ng_pow h m).2
/-- What a number has a root by: a power, whichever. -/
theorem ro_by (a : Nat) : ∃ U : Fq, fq a * (U * U) = fq a ∧ (roB a = true ↔ fq a * U = fq a) ∧ (roB (sbN 0 a) = true ↔ - fq a * - U = - fq a) := by
  obtain ⟨o, ho⟩ : ∃ o, 536870717 = o := ⟨_, rfl⟩
  obtain ⟨p, hp⟩ : ∃ p, p = PM := ⟨_, rfl⟩
  have hp2 : p = 2147482867 := hp
  obtain ⟨k, hk⟩ : ∃ k, k + 1 = o + o := ⟨o + o - 1, by omega⟩
  obtain ⟨m, hm⟩ : ∃ m, k = 2 * m + 1 := ⟨o - 1, by omega⟩
  refine ⟨fq (a ^ k), hf_sq a k p hp (by omega), roB_iff a o k ho hk, ?_⟩
  rw [roB_iff (sbN 0 a) o k ho hk, hf_ng a k m hm, show fq (sbN 0 a) = - fq a by rw [fq_sb, fq_0]; grobner]
/-- A number has a root, or its negative has; both have none but 0. -/
theorem ro_one {a : Nat} (h : roB a = false) : roB (sbN 0 a) = true := by
  obtain ⟨U, e2, r1, r2⟩ := ro_by a
  have h1 : ¬ fq a * U = fq a := fun e => by rw [r1.2 e] at h; cases h
  refine r2.2 ?_
  clear r1 r2 h
  generalize fq a = A at *
  have e3 : (A * U - A) * (U + 1) = 0 := lc1 1 e2 (by clear e2 h1; grobner)
  rcases nz e3 with e | e
  · exact absurd (lc1 1 e (by clear e2 e3 h1 e; grobner)) h1
  · exact lc1 A e (by clear e2 e3 h1 e; grobner)
theorem ro_both {a : Nat} (h1 : roB a = true) (h2 : roB (sbN 0 a) = true) : fq a = 0 := by
  obtain ⟨U, _, r1, r2⟩ := ro_by a
  have e1 := r1.1 h1
  have e2 := r2.1 h2
  clear r1 r2 h1 h2
  generalize fq a = A at *
  have e3 : 2 * A = 0 := lc2 (-1) 1 e1 e2 (by clear e1 e2; grobner)
  rcases nz e3 with e | e
  · exact absurd e two_nz
  · exact e
theorem ro_0 {a : Nat} (h : fq a = 0) : roB a = true := by
  obtain ⟨U, _, r1, r2⟩ := ro_by a
  refine r1.2 ?_
  rw [h]
  clear r1 r2 h
  grobner
theorem fqz {x : Nat} (h0 : 0 < x) (h : x < PM) : sbN 0 x = PM - x := by
  unfold sbN
  rw [Nat.mod_eq_of_lt h, Nat.zero_mod, Nat.zero_add]
  exact Nat.mod_eq_of_lt (by omega)
theorem sq_ng {x : Nat} (h0 : 0 < x) (h : x < PM) : sqN (PM - x) = sbN 0 (sqN x) := by
  refine fq_inj (sq_lt _) (sb_lt _ _) ?_
  have e : fq (PM - x) = - fq x := by
    rw [← fqz h0 h, fq_sb, fq_0]; grobner
  unfold sqN
  rw [fq_sb, fq_0, fq_ad, fq_ad, fq_mu, fq_mu, fq_mu, fq_mu, e]
  grobner
/-- A point a number. -/
def phN (x : Nat) : Pt := if roB (sqN x) = true then ⟨x, roN (sqN x), false⟩ else ⟨PM - x, sbN 0 (roN (sqN (PM - x))), false⟩
theorem sq0_ro : roB (sqN 0) = true := by
  exact ro_0 rfl
theorem not_zero {x : Nat} (h : roB (sqN x) = false) : 0 < x := by
  cases x with
  | zero => rw [sq0_ro] at h; cases h
  | succ x => omega
theorem on_mk {x y : Nat} (hx : x < PM) (hy : y < PM) (h : muN y y = sqN x) : onN ⟨x, y, false⟩ = true := by
  unfold onN
  rw [if_neg (by simp)]
  simp only [Bool.and_eq_true, decide_eq_true_eq]
  exact ⟨⟨hx, hy⟩, h⟩
theorem on_ro {x : Nat} (hx : x < PM) (h : roB (sqN x) = true) : onN ⟨x, roN (sqN x), false⟩ = true := by
  refine on_mk hx (ro_lt _) ?_
  rw [(ro_even _ h).1, ad_eq, Nat.add_zero, Nat.mod_eq_of_lt (sq_lt _)]
theorem ro_other {x : Nat} (hx : x < PM) (h : roB (sqN x) = false) : roB (sqN (PM - x)) = true := by
  rw [sq_ng (not_zero h) hx]
  exact ro_one h
theorem ph_on {x : Nat} (hx : x < PM) : onN (phN x) = true := by
  unfold phN
  split
  · next h => exact on_ro hx h
  · next h =>
    have h : roB (sqN x) = false := by simpa using h
    have := not_zero h
    exact on_ng (on_ro (x := PM - x) (by omega) (ro_other hx h))
theorem ph_I (x : Nat) : (phN x).I = false := by unfold phN; split <;> rfl
/-- The root of what the other one has: not 0. -/
theorem ro_pos {x : Nat} (hx : x < PM) (h : roB (sqN x) = false) : roN (sqN (PM - x)) ≠ 0 := by
  intro e
  have h1 := ro_even _ (ro_other hx h)
  rw [e] at h1
  have h2 : fq (sqN (PM - x)) = 0 := by
    have := congrArg fq h1.1
    rw [fq_mu, fq_ad, fq_0] at this
    exact lc1 (-1) this (by clear this; grobner)
  rw [sq_ng (not_zero h) hx, fq_sb, fq_0] at h2
  have h3 : fq (sqN x) = 0 := lc1 (-1) h2 (by clear h2; grobner)
  have h4 : roB (sqN x) = true := ro_0 h3
  rw [h4] at h; cases h
theorem sb_0 {r : Nat} (h : r < PM) (h0 : r ≠ 0) : sbN 0 r = PM - r := by
  unfold sbN
  rw [Nat.mod_eq_of_lt h, Nat.zero_mod, Nat.zero_add]
  exact Nat.mod_eq_of_lt (by omega)
theorem ng_odd {r : Nat} (h : r < PM) (h0 : r ≠ 0) (he : r % 2 = 0) : sbN 0 r % 2 = 1 := by
  rw [sb_0 h h0]
  have h : r < 2147482867 := h
  show (2147482867 - r) % 2 = 1
  omega
theorem ph_inj {x z : Nat} (hx : x < PM) (hz : z < PM) (e : phN x = phN z) : x = z := by
  unfold phN at e
  by_cases h1 : roB (sqN x) = true
  · by_cases h2 : roB (sqN z) = true
    · rw [if_pos h1, if_pos h2] at e
      exact congrArg Pt.X e
    · rw [if_pos h1, if_neg h2] at e
      have h2 : roB (sqN z) = false := by simpa using h2
      have ey : roN (sqN x) = sbN 0 (roN (sqN (PM - z))) := congrArg Pt.Y e
      have := (ro_even _ h1).2
      have k := ng_odd (ro_lt _) (ro_pos hz h2) (ro_even _ (ro_other hz h2)).2
      rw [← ey] at k
      omega
  · by_cases h2 : roB (sqN z) = true
    · rw [if_neg h1, if_pos h2] at e
      have h1 : roB (sqN x) = false := by simpa using h1
      have ey : sbN 0 (roN (sqN (PM - x))) = roN (sqN z) := congrArg Pt.Y e
      have := (ro_even _ h2).2
      have k := ng_odd (ro_lt _) (ro_pos hx h1) (ro_even _ (ro_other hx h1)).2
      rw [ey] at k
      omega
    · rw [if_neg h1, if_neg h2] at e
      have : PM - x = PM - z := congrArg Pt.X e
      omega
theorem ph_all {p : Pt} (h : Af p) : ∃ x, x < PM ∧ phN x = p := by
  have hw := h.w
  have h1 := h.1
  unfold onN at h1
  rw [if_neg (by rw [h.i]; simp)] at h1
  simp only [Bool.and_eq_true, decide_eq_true_eq] at h1
  obtain ⟨hb, h0, ho⟩ := ro_of p.Y hw.2.1 (sqN p.X) h1.2
  by_cases hy : p.Y % 2 = 0
  · refine ⟨p.X, hw.1, ?_⟩
    unfold phN
    rw [if_pos hb]
    exact Pt.ext' rfl (h0 hy) h.i.symm
  · have hx0 : 0 < p.X := by
      apply Nat.pos_of_ne_zero
      intro e
      have e2 := h1.2
      rw [e] at e2
      have e3 := congrArg fq e2
      rw [fq_mu, show sqN 0 = 0 from rfl, fq_0] at e3
      have e4 : fq p.Y = fq 0 := by
        rcases nz e3 with e | e
        · exact e
        · exact e
      have := fq_inj hw.2.1 (by decide) e4
      rw [this] at hy
      exact hy rfl
    have hX := hw.1
    refine ⟨PM - p.X, by omega, ?_⟩
    have hn : ¬ roB (sqN (PM - p.X)) = true := by
      intro e
      rw [sq_ng hx0 hX] at e
      have e3 := ro_both hb e
      rw [← h1.2, fq_mu] at e3
      have e4 : fq p.Y = fq 0 := by
        rcases nz e3 with e | e
        · exact e
        · exact e
      have := fq_inj hw.2.1 (by decide) e4
      rw [this] at hy
      exact hy rfl
    unfold phN
    rw [if_neg hn, show PM - (PM - p.X) = p.X by omega]
    exact Pt.ext' rfl (ho (by omega)) h.i.symm
theorem all_points (n : Nat) (hn : n = PM) : ∃ l : List Pt, l.Nodup ∧ (∀ q, q ∈ l ↔ onN q = true) ∧ l.length = n + 1 := by
  refine ⟨iN :: (List.range n).map phN, ?_, ?_, ?_⟩
  · refine List.nodup_cons.2 ⟨?_, ?_⟩
    · intro h
      obtain ⟨x, _, e⟩ := List.mem_map.1 h
      have := ph_I x
      rw [e] at this
      cases this
    · unfold List.Nodup
      rw [List.pairwise_map]
      refine List.Pairwise.imp_of_mem (fun {a b} ha hb hab e => ?_) (List.pairwise_lt_range (n := n))
      have ha := List.mem_range.1 ha
      have hb := List.mem_range.1 hb
      rw [hn] at ha hb
      have := ph_inj ha hb e
      omega
  · intro q
    rw [List.mem_cons, List.mem_map]
    constructor
    · rintro (rfl | ⟨x, hx, rfl⟩)
      · decide
      · have := List.mem_range.1 hx
        rw [hn] at this
        exact ph_on this
    · intro h
      by_cases hi : q = iN
      · exact .inl hi
      · obtain ⟨x, hx, e⟩ := ph_all ⟨h, hi⟩
        exact .inr ⟨x, List.mem_range.2 (by rw [hn]; exact hx), e⟩
  · rw [List.length_cons, List.length_map, List.length_range]
/-- Four times a point is of the group. -/
theorem gr_four {p : Pt} (hp : onN p = true) : grN (tmN p 4) = true := by
  refine gr_of (on_tm hp 4) ?_
  rw [tm_mul hp]
  obtain ⟨l, h1, h2, h3⟩ := all_points PM rfl
  have := su_all hp l h1 h2
  rw [h3] at this
  exact this
end Go.Proofs.YtgefjmpnpebfoabDoor
