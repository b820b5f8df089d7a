/- Lemmas: Equal roots: the same pairs, or a clash. In pure terms.  TrieApart's walk, as its card wants it. -/
import Derived.Test.YtbpcciifaekffaaGreatDoorM1
import Derived.Test.YtbpcciifaekffaaGreatDoorM10
import Derived.Test.YtbpcciifaekffaaGreatDoorM11
import Derived.Test.YtbpcciifaekffaaGreatDoorM12
import Derived.Test.YtbpcciifaekffaaGreatDoorM13
import Derived.Test.YtbpcciifaekffaaGreatDoorM14
import Derived.Test.YtbpcciifaekffaaGreatDoorM15
import Derived.Test.YtbpcciifaekffaaGreatDoorM16
import Derived.Test.YtbpcciifaekffaaGreatDoorM17
import Derived.Test.YtbpcciifaekffaaGreatDoorM18
import Derived.Test.YtbpcciifaekffaaGreatDoorM19
import Derived.Test.YtbpcciifaekffaaGreatDoorM2
import Derived.Test.YtbpcciifaekffaaGreatDoorM20
import Derived.Test.YtbpcciifaekffaaGreatDoorM21
import Derived.Test.YtbpcciifaekffaaGreatDoorM22
import Derived.Test.YtbpcciifaekffaaGreatDoorM23
import Derived.Test.YtbpcciifaekffaaGreatDoorM24
import Derived.Test.YtbpcciifaekffaaGreatDoorM25
import Derived.Test.YtbpcciifaekffaaGreatDoorM26
import Derived.Test.YtbpcciifaekffaaGreatDoorM27
import Derived.Test.YtbpcciifaekffaaGreatDoorM28
import Derived.Test.YtbpcciifaekffaaGreatDoorM29
import Derived.Test.YtbpcciifaekffaaGreatDoorM3
import Derived.Test.YtbpcciifaekffaaGreatDoorM30
import Derived.Test.YtbpcciifaekffaaGreatDoorM31
import Derived.Test.YtbpcciifaekffaaGreatDoorM32
import Derived.Test.YtbpcciifaekffaaGreatDoorM33
import Derived.Test.YtbpcciifaekffaaGreatDoorM34
import Derived.Test.YtbpcciifaekffaaGreatDoorM35
import Derived.Test.YtbpcciifaekffaaGreatDoorM36
import Derived.Test.YtbpcciifaekffaaGreatDoorM37
import Derived.Test.YtbpcciifaekffaaGreatDoorM38
import Derived.Test.YtbpcciifaekffaaGreatDoorM39
import Derived.Test.YtbpcciifaekffaaGreatDoorM4
import Derived.Test.YtbpcciifaekffaaGreatDoorM40
import Derived.Test.YtbpcciifaekffaaGreatDoorM41
import Derived.Test.YtbpcciifaekffaaGreatDoorM42
import Derived.Test.YtbpcciifaekffaaGreatDoorM43
import Derived.Test.YtbpcciifaekffaaGreatDoorM44
import Derived.Test.YtbpcciifaekffaaGreatDoorM45
import Derived.Test.YtbpcciifaekffaaGreatDoorM46
import Derived.Test.YtbpcciifaekffaaGreatDoorM47
import Derived.Test.YtbpcciifaekffaaGreatDoorM48
import Derived.Test.YtbpcciifaekffaaGreatDoorM49
import Derived.Test.YtbpcciifaekffaaGreatDoorM5
import Derived.Test.YtbpcciifaekffaaGreatDoorM50
import Derived.Test.YtbpcciifaekffaaGreatDoorM51
import Derived.Test.YtbpcciifaekffaaGreatDoorM52
import Derived.Test.YtbpcciifaekffaaGreatDoorM53
import Derived.Test.YtbpcciifaekffaaGreatDoorM54
import Derived.Test.YtbpcciifaekffaaGreatDoorM6
import Derived.Test.YtbpcciifaekffaaGreatDoorM7
import Derived.Test.YtbpcciifaekffaaGreatDoorM8
import Derived.Test.YtbpcciifaekffaaGreatDoorM9
import Derived.Test.YtbpcciifaekffaaGreatDoorRows
namespace Go.Proofs.YtbpcciifaekffaaGreatDoor
open Go.RowKit Go.Shelf Go.Sort

theorem hd_0 (n : Nat) (l : Bool) : n_bt (hdOf n l) 0 = (if l then 2 else 0) + ((n % 2 : Nat) : Int) := by
  cases l <;> unfold hdOf <;> by_cases h : n % 2 = 0
  · rw [if_pos h, h]; rfl
  · rw [if_neg h, show n % 2 = 1 by omega]; rfl
  · rw [if_pos h, h]; rfl
  · rw [if_neg h, show n % 2 = 1 by omega]; rfl
theorem fm_tell {p q : ByteArray} {l m : Bool} (hp : isP p = true) (hq : isP q = true) (e : fmS p l = fmS q m) : p = q ∧ l = m := by
  have e' : fmOf p l = fmOf q m := by unfold fmS at e; rwa [if_pos hp, if_pos hq] at e
  have zp : (fmOf p l).size = (full p l).size / 2 := n_by8_size _ _
  have zq : (fmOf q m).size = (full q m).size / 2 := n_by8_size _ _
  rw [e', zq] at zp
  have sp : (full p l).size = 2 - p.size % 2 + p.size := by rw [full_size, hd_size]
  have sq : (full q m).size = 2 - q.size % 2 + q.size := by rw [full_size, hd_size]
  have zz : (full p l).size = (full q m).size := by omega
  have key : ∀ i, i < (full p l).size → n_bt (full p l) i = n_bt (full q m) i := fun i hi => by
    have h1 : n_bt (fmOf p l) (i / 2) = fmAt p l (i / 2) := n_bt_by8 _ _ (fm_bd p l hp) _ (by omega)
    have h2 : n_bt (fmOf q m) (i / 2) = fmAt q m (i / 2) := n_bt_by8 _ _ (fm_bd q m hq) _ (by omega)
    rw [e', h2] at h1
    unfold fmAt at h1
    have a1 := full_le p l hp (2 * (i / 2))
    have a2 := full_le p l hp (2 * (i / 2) + 1)
    have b1 := full_le q m hq (2 * (i / 2))
    have b2 := full_le q m hq (2 * (i / 2) + 1)
    by_cases ei : i % 2 = 0
    · have e2 : 2 * (i / 2) = i := by omega
      rw [e2] at h1 a1 b1 a2 b2
      omega
    · have e2 : 2 * (i / 2) + 1 = i := by omega
      rw [e2] at h1 a2 b2
      omega
  have k0 := key 0 (by omega)
  unfold full at k0
  rw [n_bt_app, if_pos (by rw [hd_size]; omega), n_bt_app, if_pos (by rw [hd_size]; omega), hd_0, hd_0] at k0
  have hh : p.size % 2 = q.size % 2 ∧ l = m := by
    cases l <;> cases m <;> simp only [if_true, if_false, Bool.false_eq_true] at k0
    · exact ⟨by omega, rfl⟩
    · exfalso; omega
    · exfalso; omega
    · exact ⟨by omega, rfl⟩
  refine ⟨n_ext_bt _ _ (by omega) fun j hj => ?_, hh.2⟩
  have kj := key (2 - p.size % 2 + j) (by omega)
  unfold full at kj
  rw [n_bt_app, if_neg (by rw [hd_size]; omega), n_bt_app, if_neg (by rw [hd_size]; omega), hd_size, hd_size, ← hh.1] at kj
  rwa [show 2 - p.size % 2 + j - (2 - p.size % 2) = j by omega] at kj
/-- Two texts, one of each, that differ and have the same digest. -/
def Cl (A B : List ByteArray) : Prop := ∃ x ∈ A, ∃ y ∈ B, x ≠ y ∧ sumOf x = sumOf y
theorem Cl.mono {A B C D : List ByteArray} (h : Cl A B) (h1 : ∀ x ∈ A, x ∈ C) (h2 : ∀ x ∈ B, x ∈ D) : Cl C D := by
  obtain ⟨x, hx, y, hy, h⟩ := h
  exact ⟨x, h1 x hx, y, h2 y hy, h⟩
theorem own_in {X : Nd} (h : ¬ (eS X.x).size < 32) : eS X.x ∈ allN X := by
  obtain ⟨x, ss⟩ := X
  show eS x ∈ ownT x ++ allS ss
  have h' : ¬ (eS x).size < 32 := h
  unfold ownT
  rw [if_neg h']
  simp
theorem below_in {X : Nd} : ∀ x ∈ allS X.ss, x ∈ allN X := by
  obtain ⟨x, ss⟩ := X
  intro y hy
  show y ∈ ownT x ++ allS ss
  exact List.mem_append_right _ hy
theorem kids_same {X Y : Nd} (hX : Fit X.x) (hY : Fit Y.x) (e : refI X.x = refI Y.x) : X.x = Y.x ∨ Cl (allN X) (allN Y) := by
  unfold refI at e
  obtain ⟨xs, ex⟩ := hX.ls
  obtain ⟨ys, ey⟩ := hY.ls
  by_cases h1 : (eS X.x).size < 32 <;> by_cases h2 : (eS Y.x).size < 32
  · rw [if_pos h1, if_pos h2] at e
    exact .inl e
  · rw [if_pos h1, if_neg h2, ex] at e
    cases e
  · rw [if_neg h1, if_pos h2, ey] at e
    cases e
  · rw [if_neg h1, if_neg h2] at e
    injection e with _ e _
    by_cases h3 : eS X.x = eS Y.x
    · exact .inl (hX.inj hY h3)
    · exact .inr ⟨_, own_in h1, _, own_in h2, h3, e⟩
theorem kid_zero {x : It} (h : Fit x) : refI x ≠ zIt := by
  unfold refI
  obtain ⟨xs, ex⟩ := h.ls
  split
  · rw [ex]
    intro e
    cases e
  · intro e
    injection e with _ e _
    have h1 := sum_size (eS x)
    rw [e] at h1
    cases h1
theorem path_same {d : Nat} {e m : Pr} (he : d ≤ e.1.size) (hm : d ≤ m.1.size) (hc : ∀ t, t < d → bt e.1 t = bt m.1 t) (ht : tl d e = tl d m) : e.1 = m.1 := by
  have hz := congrArg ByteArray.size ht
  rw [tl_size, tl_size] at hz
  refine ext_bt _ _ (by omega) fun j hj => ?_
  by_cases h : j < d
  · exact hc j h
  · have h1 := tl_bt d e (j - d) (by omega)
    have h2 := tl_bt d m (j - d) (by omega)
    rw [ht, h2] at h1
    rw [show d + (j - d) = j by omega] at h1
    exact h1.symm
theorem isP_tl {d : Nat} {es : List Pr} (h : Ok d es) {e : Pr} (he : e ∈ es) : isP (tl d e) = true := by
  refine (isP_iff _).2 fun j hj => ?_
  rw [tl_size] at hj
  rw [n_bt_eq, tl_bt d e j (by omega)]
  have := ((Ok_iff d es).1 h).2.2.2.2.2 e he (d + j)
  omega
theorem cut_bt (p : ByteArray) (a j : Nat) (ha : a ≤ p.size) (hj : j < a) : bt (p.extract 0 a) j = bt p j := by
  rw [← bt_get (p.extract 0 a) j (by rw [ByteArray.size_extract]; omega), ← bt_get p j (by omega), ByteArray.getElem_extract]
  simp only [Nat.zero_add]
theorem isP_cut {p : ByteArray} (h : isP p = true) (a : Nat) (ha : a ≤ p.size) : isP (p.extract 0 a) = true := by
  refine (isP_iff _).2 fun j hj => ?_
  rw [ByteArray.size_extract] at hj
  have := (isP_iff _).1 h j (by omega)
  rw [n_bt_eq, cut_bt p a j ha (by omega)]
  exact this
theorem nd_case {f d : Nat} {es : List Pr} (h : Ok d es) :
    (∃ e, es = [e]) ∨ (∃ e a, e ∈ es ∧ d + a ≤ e.1.size ∧ Ok (d + a) es ∧ 0 < a ∧ ndF (f + 1) d es = brN ((tl d e).extract 0 a) (ndF f (d + a) es)) ∨ (2 ≤ es.length ∧ ndF (f + 1) d es = fkN (ndF f (d + 1)) d es) := by
  match es, h with
  | [], h => exact absurd h.pos (by simp)
  | [e], h => exact .inl ⟨e, rfl⟩
  | e :: e2 :: r, h =>
    have he : (e :: e2 :: r)[0]? = some e := rfl
    have hg := last_at e e2 r
    obtain ⟨g, hgg⟩ : ∃ g, (e2 :: r).getLastD e2 = g := ⟨_, rfl⟩
    rw [hgg] at hg
    by_cases hc : common (tl d e) (tl d g) = 0
    · exact .inr (.inr ⟨by simp, nd_fork f d e e2 r (by rw [hgg]; exact hc)⟩)
    · have hs := (common_spec (tl d e) (tl d g)).1
      rw [tl_size] at hs
      have hd := (h.sz 0 e he).1
      exact .inr (.inl ⟨e, _, by simp, by omega, common_ok h he hg, by omega, nd_bridge f d e e2 r _ (by rw [hgg]) hc⟩)
theorem vlE_of {d : Nat} {es : List Pr} (h : Ok d es) {e : Pr} (he : e ∈ es) (hz : e.1.size = d) : vlE d es = e.2 := by
  obtain ⟨j, hj⟩ := List.getElem?_of_mem he
  match es, j, h, hj with
  | a :: r, 0, h, hj =>
    cases hj
    show (if e.1.size = d then e.2 else ⟨#[]⟩) = e.2
    rw [if_pos hz]
  | a :: r, j + 1, h, hj =>
    have := h.longer (i := 0) (j := j + 1) (by omega) rfl hj
    omega
theorem vlE_in {d : Nat} {es : List Pr} (h : 1 ≤ (vlE d es).size) : ∃ e ∈ es, e.1.size = d ∧ e.2 = vlE d es := by
  match es, h with
  | [], h => exact absurd h (by show ¬ 1 ≤ (⟨#[]⟩ : ByteArray).size; decide)
  | a :: r, h =>
    have e : vlE d (a :: r) = if a.1.size = d then a.2 else ⟨#[]⟩ := rfl
    rw [e] at h ⊢
    by_cases hz : a.1.size = d
    · rw [if_pos hz]
      exact ⟨a, by simp, hz, rfl⟩
    · rw [if_neg hz] at h
      exact absurd h (by decide)
theorem apart_in : ∀ (f d : Nat) (es ms : List Pr), 129 ≤ f + d → Ok d es → Ok d ms → es.length ≤ 40 → ms.length ≤ 40 → (∀ e ∈ es, ∀ m ∈ ms, ∀ t, t < d → bt e.1 t = bt m.1 t) → (∀ e ∈ es, 1 ≤ e.2.size) →
    (ndF f d es).x = (ndF f d ms).x → (∀ e ∈ es, e ∈ ms) ∨ Cl (allS (ndF f d es).ss) (allS (ndF f d ms).ss) := by
  intro f
  induction f with
  | zero =>
    intro d es ms hf h
    obtain ⟨e, r, rfl⟩ : ∃ e r, es = e :: r := by
      cases es with
      | nil => exact absurd h.pos (by simp)
      | cons e r => exact ⟨e, r, rfl⟩
    have := h.sz 0 e rfl
    omega
  | succ f IH =>
    intro d es ms hf h h' hn hn' hc hv hx
    have hsz := ((Ok_iff d es).1 h).2.2.1
    have hsz' := ((Ok_iff d ms).1 h').2.2.1
    rcases nd_case (f := f) h with ⟨e, rfl⟩ | ⟨e, a, he, ha, hok, h0, heq⟩ | ⟨h2, heq⟩ <;> rcases nd_case (f := f) h' with ⟨m, rfl⟩ | ⟨m, a', hm, ha', hok', h0', heq'⟩ | ⟨h2', heq'⟩
    · have hx' : (It.mk true ⟨#[]⟩ [.mk false (fmS (tl d e) true) [], .mk false e.2 []]) = .mk true ⟨#[]⟩ [.mk false (fmS (tl d m) true) [], .mk false m.2 []] := hx
      injection hx' with _ _ h1
      injection h1 with h1 h3
      injection h1 with _ h1 _
      injection h3 with h3 _
      injection h3 with _ h3 _
      have h4 := (fm_tell (isP_tl h (by simp)) (isP_tl h' (by simp)) h1).1
      have h5 := path_same (hsz e (by simp)).1 (hsz' m (by simp)).1 (hc e (by simp) m (by simp)) h4
      refine .inl fun y hy => ?_
      obtain rfl := List.mem_singleton.1 hy
      exact List.mem_singleton.2 (Prod.ext h5 h3)
    · exfalso
      rw [heq'] at hx
      have hx' : (It.mk true ⟨#[]⟩ [.mk false (fmS (tl d e) true) [], .mk false e.2 []]) = .mk true ⟨#[]⟩ [.mk false (fmS ((tl d m).extract 0 a') false) [], refI (ndF f (d + a') ms).x] := hx
      injection hx' with _ _ h1
      injection h1 with h1 h3
      injection h1 with _ h1 _
      have := (fm_tell (isP_tl h (by simp)) (isP_cut (isP_tl h' hm) a' (by rw [tl_size]; omega)) h1).2
      cases this
    · exfalso
      rw [heq', fork_halves _ h' h2'] at hx
      have hx' : (It.mk true ⟨#[]⟩ [.mk false (fmS (tl d e) true) [], .mk false e.2 []]) = .mk true ⟨#[]⟩ _ := hx
      injection hx' with _ _ h1
      have := congrArg List.length h1
      simp at this
    · exfalso
      rw [heq] at hx
      have hx' : (It.mk true ⟨#[]⟩ [.mk false (fmS ((tl d e).extract 0 a) false) [], refI (ndF f (d + a) es).x]) = .mk true ⟨#[]⟩ [.mk false (fmS (tl d m) true) [], .mk false m.2 []] := hx
      injection hx' with _ _ h1
      injection h1 with h1 h3
      injection h1 with _ h1 _
      have := (fm_tell (isP_cut (isP_tl h he) a (by rw [tl_size]; omega)) (isP_tl h' (by simp)) h1).2
      cases this
    · rw [heq, heq'] at hx ⊢
      have hx' : (It.mk true ⟨#[]⟩ [.mk false (fmS ((tl d e).extract 0 a) false) [], refI (ndF f (d + a) es).x]) = .mk true ⟨#[]⟩ [.mk false (fmS ((tl d m).extract 0 a') false) [], refI (ndF f (d + a') ms).x] := hx
      injection hx' with _ _ h1
      injection h1 with h1 h3
      injection h1 with _ h1 _
      injection h3 with h3 _
      have hq := (fm_tell (isP_cut (isP_tl h he) a (by rw [tl_size]; omega)) (isP_cut (isP_tl h' hm) a' (by rw [tl_size]; omega)) h1).1
      have hz := congrArg ByteArray.size hq
      rw [ByteArray.size_extract, ByteArray.size_extract, tl_size, tl_size] at hz
      obtain rfl : a = a' := by omega
      have hA : ∀ x ∈ allS (ndF f (d + a) es).ss, x ∈ allS (brN ((tl d e).extract 0 a) (ndF f (d + a) es)).ss := fun x hx => by
        show x ∈ allN _ ++ []
        rw [List.append_nil]
        exact below_in x hx
      have hB : ∀ x ∈ allS (ndF f (d + a) ms).ss, x ∈ allS (brN ((tl d m).extract 0 a) (ndF f (d + a) ms)).ss := fun x hx => by
        show x ∈ allN _ ++ []
        rw [List.append_nil]
        exact below_in x hx
      rcases kids_same (nd_fit f (d + a) es (by omega) hok hn).1 (nd_fit f (d + a) ms (by omega) hok' hn').1 h3 with h4 | h4
      · have hal := ((Ok_iff (d + a) es).1 hok).2.2.2.2.1
        have hal' := ((Ok_iff (d + a) ms).1 hok').2.2.2.2.1
        rcases IH (d + a) es ms (by omega) hok hok' hn hn' (fun x hx y hy t ht => by
          rw [hal x hx e he t ht, hal' y hy m hm t ht]
          by_cases htd : t < d
          · exact hc e he m hm t htd
          · have b1 := cut_bt (tl d e) a (t - d) (by rw [tl_size]; omega) (by omega)
            have b2 := cut_bt (tl d m) a (t - d) (by rw [tl_size]; omega) (by omega)
            rw [hq, b2, tl_bt d e _ (by omega), tl_bt d m _ (by omega), show d + (t - d) = t by omega] at b1
            exact b1.symm) hv h4 with h5 | h5
        · exact .inl h5
        · exact .inr (h5.mono hA hB)
      · refine .inr (h4.mono (fun x hx => ?_) (fun x hx => ?_))
        · show x ∈ allN _ ++ []
          rw [List.append_nil]
          exact hx
        · show x ∈ allN _ ++ []
          rw [List.append_nil]
          exact hx
    · exfalso
      rw [heq, heq', fork_halves _ h' h2'] at hx
      have hx' : (It.mk true ⟨#[]⟩ [.mk false (fmS ((tl d e).extract 0 a) false) [], refI (ndF f (d + a) es).x]) = .mk true ⟨#[]⟩ _ := hx
      injection hx' with _ _ h1
      have := congrArg List.length h1
      simp at this
    · exfalso
      rw [heq, fork_halves _ h h2] at hx
      have hx' : It.mk true ⟨#[]⟩ _ = (It.mk true ⟨#[]⟩ [.mk false (fmS (tl d m) true) [], .mk false m.2 []]) := hx
      injection hx' with _ _ h1
      have := congrArg List.length h1
      simp at this
    · exfalso
      rw [heq, heq', fork_halves _ h h2] at hx
      have hx' : It.mk true ⟨#[]⟩ _ = (It.mk true ⟨#[]⟩ [.mk false (fmS ((tl d m).extract 0 a') false) [], refI (ndF f (d + a') ms).x]) := hx
      injection hx' with _ _ h1
      have := congrArg List.length h1
      simp at this
    · rw [heq, heq', fork_halves _ h h2, fork_halves _ h' h2'] at hx
      rw [heq, heq', allS_fork _ h h2, allS_fork _ h' h2']
      injection hx with _ _ h1
      obtain ⟨h3, h4⟩ := List.append_inj h1 (by simp)
      injection h4 with h4 _
      injection h4 with _ h4 _
      by_cases hcl : Cl ((List.range 16).flatMap fun (j : Nat) => if (es.filter (goes d (j : Int))).length = 0 then [] else allN (ndF f (d + 1) (es.filter (goes d (j : Int))))) ((List.range 16).flatMap fun (j : Nat) => if (ms.filter (goes d (j : Int))).length = 0 then [] else allN (ndF f (d + 1) (ms.filter (goes d (j : Int)))))
      · exact .inr hcl
      · refine .inl fun e he => ?_
        by_cases hz : e.1.size = d
        · have h5 := vlE_of h he hz
          obtain ⟨m, hm, hmz, hm2⟩ := vlE_in (d := d) (es := ms) (by rw [← h4, h5]; exact hv e he)
          have h6 : e.1 = m.1 := ext_bt _ _ (by omega) fun t ht => hc e he m hm t (by omega)
          have h7 : e = m := Prod.ext h6 (by rw [hm2, ← h4, h5])
          rw [h7]
          exact hm
        · have hb := ((Ok_iff d es).1 h).2.2.2.2.2 e he d
          obtain ⟨k, hk⟩ : ∃ k : Nat, bt e.1 d = (k : Int) := ⟨(bt e.1 d).toNat, by omega⟩
          have hk16 : k < 16 := by omega
          have hgo : goes d (k : Int) e = true := by
            unfold goes
            have := (hsz e he).1
            rw [decide_eq_true (by omega), decide_eq_true hk]
            rfl
          have hin : e ∈ es.filter (goes d (k : Int)) := List.mem_filter.2 ⟨he, hgo⟩
          have hne : (es.filter (goes d (k : Int))).length ≠ 0 := fun h0 => by
            rw [List.length_eq_zero_iff.1 h0] at hin
            cases hin
          have hk3 := congrArg (fun l => l[k]?) h3
          simp only [List.getElem?_map, List.getElem?_range hk16, Option.map_some, Option.some.injEq] at hk3
          have hl1 := List.length_filter_le (goes d (k : Int)) es
          have hl2 := List.length_filter_le (goes d (k : Int)) ms
          have hok := h.going (k : Int) hne
          have hfit := (nd_fit f (d + 1) _ (by omega) hok (by omega)).1
          unfold hvI at hk3
          rw [if_neg hne] at hk3
          by_cases hne' : (ms.filter (goes d (k : Int))).length = 0
          · rw [if_pos hne'] at hk3
            exact absurd hk3 (kid_zero hfit)
          · rw [if_neg hne'] at hk3
            have hok' := h'.going (k : Int) hne'
            have hfit' := (nd_fit f (d + 1) _ (by omega) hok' (by omega)).1
            have up : ∀ {A B : List ByteArray}, (∀ x ∈ A, x ∈ allN (ndF f (d + 1) (es.filter (goes d (k : Int))))) → (∀ x ∈ B, x ∈ allN (ndF f (d + 1) (ms.filter (goes d (k : Int))))) → Cl A B → False := fun hA hB hAB => by
              refine hcl (hAB.mono (fun x hx => ?_) (fun x hx => ?_))
              · exact List.mem_flatMap.2 ⟨k, List.mem_range.2 hk16, by rw [if_neg hne]; exact hA x hx⟩
              · exact List.mem_flatMap.2 ⟨k, List.mem_range.2 hk16, by rw [if_neg hne']; exact hB x hx⟩
            have gs : ∀ {xs : List Pr} {x : Pr}, x ∈ xs.filter (goes d (k : Int)) → x ∈ xs ∧ bt x.1 d = (k : Int) := fun hx => by
              obtain ⟨h8, h9⟩ := List.mem_filter.1 hx
              unfold goes at h9
              rw [Bool.and_eq_true] at h9
              exact ⟨h8, of_decide_eq_true h9.2⟩
            rcases kids_same hfit hfit' hk3 with h5 | h5
            · rcases IH (d + 1) _ _ (by omega) hok hok' (by omega) (by omega) (fun x hx y hy t ht => by
                obtain ⟨x1, x2⟩ := gs hx
                obtain ⟨y1, y2⟩ := gs hy
                by_cases htd : t < d
                · exact hc x x1 y y1 t htd
                · obtain rfl : t = d := by omega
                  rw [x2, y2]) (fun x hx => hv x (gs hx).1) h5 with h6 | h6
              · exact (gs (h6 e hin)).1
              · exact (up below_in below_in h6).elim
            · exact (up (fun _ h => h) (fun _ h => h) h5).elim
theorem of_inj {a b : ByteArray} (h : ofOf a = ofOf b) : a = b := by
  have hz := congrArg ByteArray.size h
  rw [of_sz, of_sz] at hz
  refine ext_bt _ _ (by omega) fun j hj => ?_
  have h1 := of_bt a (2 * j) (by omega)
  have h2 := of_bt a (2 * j + 1) (by omega)
  have h3 := of_bt b (2 * j) (by omega)
  have h4 := of_bt b (2 * j + 1) (by omega)
  rw [if_pos (by omega), show 2 * j / 2 = j by omega] at h1 h3
  rw [if_neg (by omega), show (2 * j + 1) / 2 = j by omega] at h2 h4
  rw [h, h3] at h1
  rw [h, h4] at h2
  omega
theorem cl_of {L : List ByteArray} {x y : ByteArray} (hx : x ∈ L) (hy : y ∈ L) (hne : x ≠ y) (hs : sumOf x = sumOf y) : clB L = true := by
  unfold clB
  exact List.any_eq_true.2 ⟨x, hx, List.any_eq_true.2 ⟨y, hy, decide_eq_true ⟨hne, hs⟩⟩⟩
theorem wn_of {es ms : List Pr} (h : ∀ e ∈ es, e ∈ ms) : wnB es ms = true := by
  unfold wnB
  exact List.all_eq_true.2 fun e he => List.any_eq_true.2 ⟨e, h e he, decide_eq_true rfl⟩
theorem back_ents {es ms : List Pr} (h : ∀ e ∈ ents (srt es), e ∈ ents (srt ms)) : ∀ e ∈ es, e ∈ ms := fun e he => by
  obtain ⟨p, hp, hep⟩ := mem_ents.1 (h (enP e) (mem_ents.2 ⟨e, he, rfl⟩))
  have h1 : ofOf e.1 = ofOf p.1 := congrArg Prod.fst hep
  have h2 : (enP e).2 = (enP p).2 := congrArg Prod.snd hep
  rw [Prod.ext (of_inj h1) h2]
  exact hp
theorem ok_srt {es : List Pr} (hr : RightP es) (h0 : es.length ≠ 0) : Ok 0 (ents (srt es)) :=
  ok_ents _ (by rw [(srt_perm es).length_eq]; omega) ((right_perm (srt_perm es)).2 hr) (srt_sorted es)
/-- Equal roots: the same pairs, or a clash among all that was hashed. -/
theorem apart_all {es ms : List Pr} {T : List ByteArray} (hr : RightP es) (hr' : RightP ms) (hl : es.length ≤ 40) (hl' : ms.length ≤ 40) (h : rtS true es = rtS true ms)
    (h1 : ⟨#[128]⟩ ∈ T) (h2 : ∀ x ∈ tdS true nodesL es, x ∈ T) (h3 : ∀ x ∈ tdS true nodesL ms, x ∈ T) : (wnB es ms = true ∧ wnB ms es = true) ∨ clB T = true := by
  have hs : sumOf (topB (srt es)) = sumOf (topB (srt ms)) := h
  have tin : ∀ {xs : List Pr}, (∀ x ∈ tdS true nodesL xs, x ∈ T) → topB (srt xs) ∈ T := fun {xs} hx => by
    unfold topB
    by_cases h0 : (srt xs).length = 0
    · rw [if_pos h0]
      exact h1
    · rw [if_neg h0]
      refine hx _ ?_
      show _ ∈ wyL nodesL (srt xs)
      unfold wyL
      rw [if_neg h0]
      unfold nodesL
      simp
  by_cases ht : topB (srt es) = topB (srt ms)
  · by_cases h0 : es.length = 0 <;> by_cases h0' : ms.length = 0
    · rw [List.length_eq_zero_iff.1 h0, List.length_eq_zero_iff.1 h0']
      exact .inl ⟨rfl, rfl⟩
    · exfalso
      have f' := (nd_fit 129 0 _ (by omega) (ok_srt hr' h0') (by rw [ents_len, (srt_perm ms).length_eq]; exact hl')).1
      unfold topB at ht
      rw [if_pos (by rw [(srt_perm es).length_eq]; exact h0), if_neg (by rw [(srt_perm ms).length_eq]; exact h0')] at ht
      have := f'.lo
      rw [← f'.eS] at this
      have hz := congrArg ByteArray.size ht
      have h1 : (⟨#[128]⟩ : ByteArray).size = 1 := rfl
      unfold topN at hz
      omega
    · exfalso
      have f' := (nd_fit 129 0 _ (by omega) (ok_srt hr h0) (by rw [ents_len, (srt_perm es).length_eq]; exact hl)).1
      unfold topB at ht
      rw [if_neg (by rw [(srt_perm es).length_eq]; exact h0), if_pos (by rw [(srt_perm ms).length_eq]; exact h0')] at ht
      have := f'.lo
      rw [← f'.eS] at this
      have hz := congrArg ByteArray.size ht
      have h1 : (⟨#[128]⟩ : ByteArray).size = 1 := rfl
      unfold topN at hz
      omega
    · have hn : (ents (srt es)).length ≤ 40 := by rw [ents_len, (srt_perm es).length_eq]; exact hl
      have hn' : (ents (srt ms)).length ≤ 40 := by rw [ents_len, (srt_perm ms).length_eq]; exact hl'
      have n0 : ¬ (srt es).length = 0 := by rw [(srt_perm es).length_eq]; exact h0
      have n0' : ¬ (srt ms).length = 0 := by rw [(srt_perm ms).length_eq]; exact h0'
      have f1 := (nd_fit 129 0 _ (by omega) (ok_srt hr h0) hn).1
      have f2 := (nd_fit 129 0 _ (by omega) (ok_srt hr' h0') hn').1
      unfold topB topN at ht
      rw [if_neg n0, if_neg n0'] at ht
      have hx := f1.inj f2 ht
      have val : ∀ {xs : List Pr}, RightP xs → ∀ e ∈ ents (srt xs), 1 ≤ e.2.size := fun hr e he => by
        obtain ⟨p, hp, rfl⟩ := mem_ents.1 he
        have := (pOk_iff p).1 (((right_iff _).1 hr).2.1 p hp)
        exact this.2.2.1
      have bel : ∀ {xs : List Pr}, ¬ (srt xs).length = 0 → (∀ x ∈ tdS true nodesL xs, x ∈ T) → ∀ x ∈ allS (ndF 129 0 (ents (srt xs))).ss, x ∈ T := fun {xs} h0 hx x hxx => by
        refine hx x ?_
        show _ ∈ wyL nodesL (srt xs)
        unfold wyL
        rw [if_neg h0]
        exact List.mem_cons_of_mem _ hxx
      have cl : ∀ {A B : List ByteArray}, (∀ x ∈ A, x ∈ T) → (∀ x ∈ B, x ∈ T) → Cl A B → clB T = true := fun hA hB hc => by
        obtain ⟨x, hx, y, hy, hne, hs⟩ := hc
        exact cl_of (hA x hx) (hB y hy) hne hs
      rcases apart_in 129 0 _ _ (by omega) (ok_srt hr h0) (ok_srt hr' h0') hn hn' (fun _ _ _ _ t ht => by omega) (val hr) hx with a1 | a1
      · rcases apart_in 129 0 _ _ (by omega) (ok_srt hr' h0') (ok_srt hr h0) hn' hn (fun _ _ _ _ t ht => by omega) (val hr') hx.symm with a2 | a2
        · exact .inl ⟨wn_of (back_ents a1), wn_of (back_ents a2)⟩
        · exact .inr (cl (bel n0' h3) (bel n0 h2) a2)
      · exact .inr (cl (bel n0 h2) (bel n0' h3) a1)
  · exact .inr (cl_of (tin h2) (tin h3) ht hs)
end Go.Proofs.YtbpcciifaekffaaGreatDoor
namespace Go.Proofs.YtbpcciifaekffaaGreatDoor
open Go.RowKit Go.Shelf Go.Sort

theorem wpList_append_ran {P : Program} {w : World} {ops : Array Oper} {rest : List Oper} {o : Oper} {a : Act} {Q : Exit → Act → World → Prop} (hgd : o.guard = none) (sl x : Operand) (t u : TypeId)
    (ho : o.op = .call { callee := .builtin .append, args := #[sl, x], argTypes := #[t, u] }) (v y v' : Value) (w' : World) (hs : a.eval sl = v) (hx : a.eval x = y)
    (hr : (Builtin.append_ #[t, u] o.type #[v, y]).run P w = .ok v' w') (h : wpList P ops Q rest (a.put o.dst v') w') : wpList P ops Q (o :: rest) a w := by
  refine wpList_plain hgd fun K hK => ?_
  unfold Oper.wp execOp
  simp only [ho, resolve, invoke, builtin, Sem.run_bind, Sem.run_pure, Result.andThen_ok, List.map_toArray, List.map_cons, List.map_nil, hs, hx, hr]
  exact hK _ _ h
theorem owns_cap {W : World} {z e n m c : Nat} {a : Option Addr} {xs : List Value} (h : W.ownsRow z e 1 (.slice a m c) n xs) : m ≤ c := by
  rcases h.2 with ⟨h1, _⟩ | ⟨g, cap, cur, h1, _, _, h4, _⟩
  · cases h1; exact Nat.le_refl _
  · cases h1; exact h4
theorem owns_slice {W : World} {z e n : Nat} {v : Value} {xs : List Value} (h : W.ownsRow z e 1 v n xs) : ∃ a c, v = .slice a n c := by
  rcases h.2 with ⟨h1, h2⟩ | ⟨g, c, cur, h1, _⟩
  · exact ⟨none, 0, by rw [h1, h2]⟩
  · exact ⟨_, c, h1⟩
/-- Nothing behind a slice leaves it. -/
theorem run_append_zero {P : Program} (w : World) (t ty e : TypeId) (i : TypeInfo) (ht : P.underlying t = some (.slice e)) (hi : P.info? e = some i) (b : Option Addr) (n c : Nat) (hc : n ≤ c) (a' : Option Addr) (c' : Nat) :
    (Builtin.append_ #[t, t] ty #[.slice b n c, .slice a' 0 c']).run P w = .ok (.slice b n c) w := by
  have hroom : ¬ c < n := Nat.not_lt.2 hc
  cases a' with
  | none => cases b <;> simp [Builtin.append_, run_underlying ht, sizeOf, typeInfo, hi, Builtin.lenOf, Builtin.firstCells, hroom, storeCells]
  | some a' => cases b <;> simp [Builtin.append_, run_underlying ht, sizeOf, typeInfo, hi, Builtin.lenOf, Builtin.firstCells, hroom, storeCells, loadCells, loadCellsFrom]
/-- A list of texts behind a row of texts. -/
theorem wpList_append_list {ops : Array Oper} {rest : List Oper} {o : Oper} {act : Act} {Q : Exit → Act → World → Prop} {W : World} (hgd : o.guard = none) (s x : Operand) (ho : o.op = .call { callee := .builtin .append, args := #[s, x], argTypes := #[29, 29] })
    (z : Nat) (v : Value) (hv : act.eval s = v) (k : Nat) (ys : List Value) (hown : W.ownsRow z 9 1 v k ys) (xs : List ByteArray) (a : Option Addr) (m c n : Nat) (hm : xs.length = m) (hx : act.eval x = .slice a m c) (hs : slS n W a xs) (hk : k ≤ 1000000) (hl : m ≤ 1000000) (hz : z ≤ W.heap.size)
    (hK : ∀ v' w', w'.ownsRow z 9 1 v' (k + m) (ys ++ xs.map .string) → W.grownBy w' v.ownBlock → wpList Tryz.prog ops Q rest (act.put o.dst v') w') : wpList Tryz.prog ops Q (o :: rest) act W := by
  obtain ⟨i0, hi0, hz0, hz1, hz2⟩ := info_parts info_text
  subst hm
  rcases hs with e | ⟨b, off, rfl, hb, hcl⟩
  · subst e
    obtain ⟨a1, c1, rfl⟩ := owns_slice hown
    refine wpList_append_ran hgd s x 29 29 ho _ _ _ _ hv hx (run_append_zero W 29 o.type 9 i0 Tryz.underlying29 hi0 a1 k c1 (owns_cap hown) a c) ?_
    exact hK _ _ (by rw [List.map_nil, List.append_nil]; exact hown) ⟨rfl, rfl, rfl, Nat.le_refl _, fun _ _ _ => rfl⟩
  · refine wpList_append_own _ hgd s x 29 ho z 9 i0 (.string ⟨#[]⟩) 1 16 Tryz.underlying29 hi0 hz0 hz1 hz2 rfl (by decide) v k ys hv hown ⟨b, off, none⟩ xs.length c (xs.map .string) hx (by rw [List.length_map, Nat.mul_one]) (fun j u hu => ?_) (fun u hu => ?_) (by unfold maxLen; omega) (by omega) hz ?_
    · rw [Addr.add_mid]
      rw [List.getElem?_map] at hu
      cases hxj : xs[j]? with
      | none => rw [hxj] at hu; cases hu
      | some y =>
        rw [hxj] at hu
        cases hu
        exact hcl j y hxj
    · obtain ⟨y, _, rfl⟩ := List.mem_map.1 hu
      rfl
    · intro v' w' h1 h2 _
      exact hK v' w' h1 h2
theorem own_text (w : World) (s : ByteArray) : (w.alloc (.cells #[.string s] 9)).ownsRow w.heap.size 9 1 (.slice (some ⟨w.heap.size, 0, none⟩) 1 1) 1 [.string s] :=
  ⟨rfl, .inr ⟨_, 1, #[.string s], rfl, Nat.le_refl _, World.alloc_heap_new w _, Nat.le_refl _, by decide, rfl, rfl⟩⟩
mutual
theorem allN_small : ∀ (n : Nd) (t : ByteArray), t ∈ allN n → t.size ≤ 65536
  | .mk x ss, t, h => by
    rcases List.mem_append.1 (show t ∈ ownT x ++ allS ss from h) with h | h
    · unfold ownT at h
      split at h
      · cases h
      · rw [List.mem_singleton.1 h]
        exact eS_size x
    · exact allS_small ss t h
theorem allS_small : ∀ (ss : Sts) (t : ByteArray), t ∈ allS ss → t.size ≤ 65536
  | .nil, t, h => by cases h
  | .cons p n r, t, h => by
    rcases List.mem_append.1 (show t ∈ allN n ++ allS r from h) with h | h
    · exact allN_small n t h
    · exact allS_small r t h
end
theorem td_small (es : List Pr) : ∀ t ∈ tdS true nodesL es, t.size ≤ 65536 := fun t ht => by
  have h : t ∈ wyL nodesL (srt es) := ht
  unfold wyL at h
  split at h
  · cases h
  · unfold nodesL at h
    rcases List.mem_cons.1 h with rfl | h
    · exact eS_size _
    · exact allS_small _ t h
theorem lit_grown {w x : World} {s : ByteArray} (h : (w.alloc (.cells #[.string s] 9)).grownBy x (some w.heap.size)) : Below w.heap.size w x :=
  ((Below.refl _ w).alloc (Nat.le_refl _) _).grown h (by simp) (fun k e => by cases e; exact Nat.le_refl _)
theorem slP_take {n : Nat} {W : World} {a : Option Addr} {es : List Pr} (h : slP n W a es) (k : Nat) : slP n W a (es.take k) := by
  rcases h with h | ⟨b, o, h1, h2, h3⟩
  · exact .inl (by rw [h, List.take_nil])
  · refine .inr ⟨b, o, h1, h2, fun j e he => h3 j e ?_⟩
    rw [List.getElem?_take] at he
    split at he
    · exact he
    · cases he

set_option maxRecDepth 20000 in
set_option maxHeartbeats 4000000 in
theorem tapart_any (es ms : List Pr) (a a' : Option Addr) (c c' : Nat) (w : World) (hl : Laid w) (hp : slP w.heap.size w a es) (hp' : slP w.heap.size w a' ms) (hc : es.length ≤ c) (hc' : ms.length ≤ c') :
    Calls Tryz.prog 7 #[.slice a es.length c, .slice a' ms.length c'] w fun e w' => e = .returned (.bool true) ∧ Below w.heap.size w w' := by
  obtain ⟨N, hN⟩ : ∃ y, es.length = y := ⟨_, rfl⟩
  obtain ⟨M, hM⟩ : ∃ y, ms.length = y := ⟨_, rfl⟩
  rw [hN] at hc ⊢
  rw [hM] at hc' ⊢
  go_enter Tryz.func7, Tryz.ntmps7
  go_wp2_with fail
  refine (shown6_any w hl).mono ?_
  rintro e w1 ⟨rfl, B1⟩
  have hl1 := hl.below B1
  have e20 : (min (N : Int) 20).toNat = (es.take 20).length := by rw [List.length_take, hN]; omega
  have e20' : (min (M : Int) 20).toNat = (ms.take 20).length := by rw [List.length_take, hM]; omega
  have K1 := some_any (es.take 20) a c w1 (slP_take (slP_up (slP_below B1 hp) B1.size) 20)
  rw [← e20] at K1
  have HE : Hid (_ ∧ _) := ⟨hp', e20'⟩
  have hr20 : (es.take 20).length ≤ 20 := by rw [List.length_take]; omega
  have hr20' : (ms.take 20).length ≤ 20 := by rw [List.length_take]; omega
  obtain ⟨ET, hET⟩ : ∃ E, es.take 20 = E := ⟨_, rfl⟩
  obtain ⟨MT, hMT⟩ : ∃ E, ms.take 20 = E := ⟨_, rfl⟩
  have HMT : Hid _ := hMT
  rw [hET] at K1 hr20
  rw [hMT] at hr20'
  clear hp hp' e20 e20' hMT hET hN hM
  go_wp2_with fail
  refine K1.mono ?_
  rintro e w2 ⟨B2, a2, c2, rfl, hp2⟩
  have B12 := belowStep B1 B1.size B2
  have hl2 := hl1.below B2
  have K2 := some_any (ms.take 20) a' c' w2 (slP_take (slP_up (slP_below B12 HE.out.1) B12.size) 20)
  rw [← HE.out.2, HMT.out] at K2
  have hle := sm_len ET
  have hle' := sm_len MT
  obtain ⟨Ls, hL⟩ : ∃ Ls, smE ET = Ls := ⟨_, rfl⟩
  obtain ⟨Ms, hM⟩ : ∃ Ls, smE MT = Ls := ⟨_, rfl⟩
  rw [hL] at hp2 hle ⊢
  rw [hM] at hle' K2
  have HP2 : Hid _ := hp2
  obtain ⟨n, hn⟩ : ∃ n, Ls.length = n := ⟨_, rfl⟩
  obtain ⟨m, hm⟩ : ∃ n, Ms.length = n := ⟨_, rfl⟩
  have HL : Hid (_ ∧ _ ∧ _ ∧ _) := ⟨hL, hM, hn, hm⟩
  rw [hn]
  clear hL hM K1 B1 hp2
  go_wp2_with fail
  refine K2.mono ?_
  rintro e w3 ⟨B3, a3, c3, rfl, hp3⟩
  have B13 := belowStep B12 B12.size B3
  have hl3 := hl2.below B3
  have hs23 := B3.size
  have HP3 : Hid _ := hp3
  clear K2 hp3
  obtain ⟨q, hq⟩ := right_bool Ls
  obtain ⟨q', hq'⟩ := right_bool Ms
  have KR := fun W hl hn hs => root_one hq (List.Perm.refl Ls) a2 c2 w2.heap.size W hl hn hs
  have KN := fun W hl hn hs => nodes_one hq (List.Perm.refl Ls) a2 c2 w2.heap.size W hl hn hs
  have KR' := fun W hl hn hs => root_one hq' (List.Perm.refl Ms) a3 c3 w3.heap.size W hl hn hs
  have KN' := fun W hl hn hs => nodes_one hq' (List.Perm.refl Ms) a3 c3 w3.heap.size W hl hn hs
  have KW := fun z W hz h1 h2 => wn6_any Ls Ms (by omega) (by omega) a2 a3 c2 c3 z W hz h1 h2
  have KW' := fun z W hz h1 h2 => wn6_any Ms Ls (by omega) (by omega) a3 a2 c3 c2 z W hz h1 h2
  obtain ⟨s, hs⟩ : ∃ s, rtS q Ls = s := ⟨_, rfl⟩
  obtain ⟨s', hs'⟩ : ∃ s, rtS q' Ms = s := ⟨_, rfl⟩
  have HS : Hid (_ ∧ _ ∧ _ ∧ _) := ⟨hs, hs', hq, hq'⟩
  rw [hs] at KR
  rw [hs'] at KR'
  rw [hn] at KR KN KW KW'
  rw [hm] at KR' KN' KW KW' ⊢
  clear hs hs' hq hq' hn hm
  go_wp2_with fail
  refine (KR w3 hl3 hs23 (slP_below B3 HP2.out)).mono ?_
  rintro e w4 ⟨rfl, B4⟩
  have B14 := belowStep B13 B13.size B4
  have B24 := belowStep B3 hs23 B4
  have hl4 := hl3.below B4
  have hs34 := B4.size
  clear KR
  go_wp2_with fail
  refine (KR' w4 hl4 hs34 (slP_below B4 HP3.out)).mono ?_
  rintro e w5 ⟨rfl, B5⟩
  have B15 := belowStep B14 B14.size B5
  have B25 := belowStep B24 (Nat.le_trans hs23 hs34) B5
  have B35 := belowStep B4 hs34 B5
  have hl5 := hl4.below B5
  have hs45 := B5.size
  clear KR'
  cases q with
  | false =>
    go_wp2
    go_ret
    exact ⟨rfl, B15⟩
  | true =>
  cases q' with
  | false =>
    go_wp2
    go_ret
    exact ⟨rfl, B15⟩
  | true =>
  by_cases hss : s = s'
  · have s1 : (s.toList == s'.toList) = true := by rw [hss]; exact beq_self_eq_true _
    have K5 := KW w3.heap.size w5 (by omega) (slP_up (slP_below B25 HP2.out) hs23) (slP_below B35 HP3.out)
    obtain ⟨g, hg⟩ : ∃ g, wnB Ls Ms = g := ⟨_, rfl⟩
    rw [hg] at K5
    go_wp2_with fail
    refine K5.mono ?_
    rintro e w6 ⟨rfl, B6⟩
    have B16 := belowStep B15 B15.size B6
    have B26 := belowStep B25 (by omega) B6
    have B36 := belowStep B35 (by omega) B6
    have hl6 := hl5.below B6
    have hs56 := B6.size
    have K6 := KW' w3.heap.size w6 (by omega) (slP_below B36 HP3.out) (slP_up (slP_below B26 HP2.out) hs23)
    obtain ⟨g', hg'⟩ : ∃ g, wnB Ms Ls = g := ⟨_, rfl⟩
    rw [hg'] at K6
    clear K5
    cases g with
    | true =>
      go_wp2_with fail
      refine K6.mono ?_
      rintro e w7 ⟨rfl, B7⟩
      have B17 := belowStep B16 B16.size B7
      have B27 := belowStep B26 (by omega) B7
      have B37 := belowStep B36 (by omega) B7
      have hl7 := hl6.below B7
      have hs67 := B7.size
      cases g' with
      | true =>
        go_wp2
        go_ret
        exact ⟨rfl, B17⟩
      | false =>
        go_wp2_with fail
        have KNa := KN w7 hl7 (by omega) (slP_below B27 HP2.out)
        clear KN
        refine KNa.mono ?_
        rintro e w8 ⟨⟨a8, c8, rfl, hs8⟩, B8⟩
        have B18 := belowStep B17 B17.size B8
        have B38 := belowStep B37 (by omega) B8
        have hl8 := hl7.below B8
        have hz8 := B8.size
        clear KNa
        go_wp2_with fail
        have KNb := KN' w8 hl8 (by omega) (slP_below B38 HP3.out)
        clear KN'
        refine KNb.mono ?_
        rintro e w9 ⟨⟨a9, c9, rfl, hs9⟩, B9⟩
        have B19 := belowStep B18 B18.size B9
        have hz9 := B9.size
        replace hs8 := slS_below B9 hs8
        clear KNb
        have hq1 : RightP Ls := by simpa using HS.out.2.2.1
        have hq2 : RightP Ms := by simpa using HS.out.2.2.2
        have lp := tdN_len (b := true) Ls ⟨fun _ => hq1, fun _ => rfl⟩
        have lq := tdN_len (b := true) Ms ⟨fun _ => hq2, fun _ => rfl⟩
        have zp := td_small Ls
        have zq := td_small Ms
        have HA := apart_all (T := [⟨#[128]⟩] ++ tdS true nodesL Ls ++ tdS true nodesL Ms) hq1 hq2 (by omega) (by omega) (HS.out.1.trans (hss.trans HS.out.2.1.symm)) (by simp) (fun x hx => by simp [hx]) (fun x hx => by simp [hx])
        obtain ⟨ps, hps⟩ : ∃ l, tdS true nodesL Ls = l := ⟨_, rfl⟩
        obtain ⟨qs, hqs⟩ : ∃ l, tdS true nodesL Ms = l := ⟨_, rfl⟩
        rw [hps] at lp zp hs8 HA ⊢
        rw [hqs] at lq zq hs9 HA ⊢
        obtain ⟨np, hnp⟩ : ∃ k, ps.length = k := ⟨_, rfl⟩
        obtain ⟨nq, hnq⟩ : ∃ k, qs.length = k := ⟨_, rfl⟩
        have HN : Hid (_ ∧ _) := ⟨hnp, hnq⟩
        rw [hnp] at lp ⊢
        rw [hnq] at lq ⊢
        have HC : Hid (clB ([(⟨#[128]⟩ : ByteArray)] ++ ps ++ qs) = true) := by
          rcases HA with ⟨h1, h2⟩ | h
          · first | exact absurd (hg.symm.trans h1) (by decide) | exact absurd (hg'.symm.trans h2) (by decide)
          · exact h
        have HZ : Hid (∀ x ∈ [(⟨#[128]⟩ : ByteArray)] ++ ps ++ qs, ByteArray.size x ≤ 100000) := fun x hx => by
          rcases List.mem_append.1 hx with hx | hx
          · rcases List.mem_append.1 hx with hx | hx
            · rw [List.mem_singleton.1 hx]
              decide
            · have := zp x hx
              omega
          · have := zq x hx
            omega
        have HSL : Hid (_ ∧ _) := ⟨hs8, hs9⟩
        clear HA hnp hnq hps hqs hs8 hs9 hq1 hq2 zp zq
        go_wp2_with (first | (at_builtin; refine wpList_append_list rfl _ _ rfl w9.heap.size _ rfl 1 [.string ⟨#[128]⟩] (own_text w9 ⟨#[128]⟩) ps a8 np c8 _ HN.out.1 rfl (slS_below ((Below.refl _ w9).alloc (Nat.le_refl _) _) (slS_up HSL.out.1 hz9)) (by omega) (by omega) (by simp) ?_; intro v1 x1 ho1 hg1; have b1 := lit_grown hg1) | (at_builtin; refine wpList_append_list rfl _ _ rfl w9.heap.size _ rfl (1 + np) _ ho1 qs a9 nq c9 _ HN.out.2 rfl (slS_below b1 HSL.out.2) (by omega) (by omega) b1.size ?_; intro v2 x2 ho2 hg2) | fail)
        have BX2 : Below w9.heap.size w9 x2 := b1.grown hg2 b1.size (fun b hb => (ho1.lt b hb).1)
        have B1x := belowStep B19 B19.size BX2
        have ho3 : x2.ownsRow w9.heap.size 9 1 v2 ([(⟨#[128]⟩ : ByteArray)] ++ ps ++ qs).length (([(⟨#[128]⟩ : ByteArray)] ++ ps ++ qs).map .string) := by
          have e1 : ([(⟨#[128]⟩ : ByteArray)] ++ ps ++ qs).length = 1 + np + nq := by rw [List.length_append, List.length_append, HN.out.1, HN.out.2]; rfl
          rw [e1, List.map_append, List.map_append]
          exact ho2
        have hlen : ([(⟨#[128]⟩ : ByteArray)] ++ ps ++ qs).length ≤ 1000000 := by
          rw [List.length_append, List.length_append, HN.out.1, HN.out.2]
          show 1 + np + nq ≤ _
          omega
        have hcl := HC.out
        have hzz := HZ.out
        obtain ⟨L, hL⟩ : ∃ L, [(⟨#[128]⟩ : ByteArray)] ++ ps ++ qs = L := ⟨_, rfl⟩
        rw [hL] at ho3 hlen hcl hzz
        obtain ⟨a5, c5, rfl, hsl⟩ := slS_owns ho3
        have KC := clash_any L hlen hzz a5 c5 x2.heap.size x2 (Nat.le_refl _) hsl
        rw [hcl] at KC
        clear ho3 hlen hcl hzz hsl hL ho2 hg2 ho1 hg1 b1 BX2
        refine KC.mono ?_
        rintro e x3 ⟨rfl, Bx3⟩
        have BF := belowStep B1x B1x.size Bx3
        clear KC
        go_wp2
        go_ret
        exact ⟨rfl, BF⟩
    | false =>
      go_wp2_with fail
      have KNa := KN w6 hl6 (by omega) (slP_below B26 HP2.out)
      clear KN
      refine KNa.mono ?_
      rintro e w8 ⟨⟨a8, c8, rfl, hs8⟩, B8⟩
      have B18 := belowStep B16 B16.size B8
      have B38 := belowStep B36 (by omega) B8
      have hl8 := hl6.below B8
      have hz8 := B8.size
      clear KNa
      go_wp2_with fail
      have KNb := KN' w8 hl8 (by omega) (slP_below B38 HP3.out)
      clear KN'
      refine KNb.mono ?_
      rintro e w9 ⟨⟨a9, c9, rfl, hs9⟩, B9⟩
      have B19 := belowStep B18 B18.size B9
      have hz9 := B9.size
      replace hs8 := slS_below B9 hs8
      clear KNb
      have hq1 : RightP Ls := by simpa using HS.out.2.2.1
      have hq2 : RightP Ms := by simpa using HS.out.2.2.2
      have lp := tdN_len (b := true) Ls ⟨fun _ => hq1, fun _ => rfl⟩
      have lq := tdN_len (b := true) Ms ⟨fun _ => hq2, fun _ => rfl⟩
      have zp := td_small Ls
      have zq := td_small Ms
      have HA := apart_all (T := [⟨#[128]⟩] ++ tdS true nodesL Ls ++ tdS true nodesL Ms) hq1 hq2 (by omega) (by omega) (HS.out.1.trans (hss.trans HS.out.2.1.symm)) (by simp) (fun x hx => by simp [hx]) (fun x hx => by simp [hx])
      obtain ⟨ps, hps⟩ : ∃ l, tdS true nodesL Ls = l := ⟨_, rfl⟩
      obtain ⟨qs, hqs⟩ : ∃ l, tdS true nodesL Ms = l := ⟨_, rfl⟩
      rw [hps] at lp zp hs8 HA ⊢
      rw [hqs] at lq zq hs9 HA ⊢
      obtain ⟨np, hnp⟩ : ∃ k, ps.length = k := ⟨_, rfl⟩
      obtain ⟨nq, hnq⟩ : ∃ k, qs.length = k := ⟨_, rfl⟩
      have HN : Hid (_ ∧ _) := ⟨hnp, hnq⟩
      rw [hnp] at lp ⊢
      rw [hnq] at lq ⊢
      have HC : Hid (clB ([(⟨#[128]⟩ : ByteArray)] ++ ps ++ qs) = true) := by
        rcases HA with ⟨h1, h2⟩ | h
        · first | exact absurd (hg.symm.trans h1) (by decide) | exact absurd (hg'.symm.trans h2) (by decide)
        · exact h
      have HZ : Hid (∀ x ∈ [(⟨#[128]⟩ : ByteArray)] ++ ps ++ qs, ByteArray.size x ≤ 100000) := fun x hx => by
        rcases List.mem_append.1 hx with hx | hx
        · rcases List.mem_append.1 hx with hx | hx
          · rw [List.mem_singleton.1 hx]
            decide
          · have := zp x hx
            omega
        · have := zq x hx
          omega
      have HSL : Hid (_ ∧ _) := ⟨hs8, hs9⟩
      clear HA hnp hnq hps hqs hs8 hs9 hq1 hq2 zp zq
      go_wp2_with (first | (at_builtin; refine wpList_append_list rfl _ _ rfl w9.heap.size _ rfl 1 [.string ⟨#[128]⟩] (own_text w9 ⟨#[128]⟩) ps a8 np c8 _ HN.out.1 rfl (slS_below ((Below.refl _ w9).alloc (Nat.le_refl _) _) (slS_up HSL.out.1 hz9)) (by omega) (by omega) (by simp) ?_; intro v1 x1 ho1 hg1; have b1 := lit_grown hg1) | (at_builtin; refine wpList_append_list rfl _ _ rfl w9.heap.size _ rfl (1 + np) _ ho1 qs a9 nq c9 _ HN.out.2 rfl (slS_below b1 HSL.out.2) (by omega) (by omega) b1.size ?_; intro v2 x2 ho2 hg2) | fail)
      have BX2 : Below w9.heap.size w9 x2 := b1.grown hg2 b1.size (fun b hb => (ho1.lt b hb).1)
      have B1x := belowStep B19 B19.size BX2
      have ho3 : x2.ownsRow w9.heap.size 9 1 v2 ([(⟨#[128]⟩ : ByteArray)] ++ ps ++ qs).length (([(⟨#[128]⟩ : ByteArray)] ++ ps ++ qs).map .string) := by
        have e1 : ([(⟨#[128]⟩ : ByteArray)] ++ ps ++ qs).length = 1 + np + nq := by rw [List.length_append, List.length_append, HN.out.1, HN.out.2]; rfl
        rw [e1, List.map_append, List.map_append]
        exact ho2
      have hlen : ([(⟨#[128]⟩ : ByteArray)] ++ ps ++ qs).length ≤ 1000000 := by
        rw [List.length_append, List.length_append, HN.out.1, HN.out.2]
        show 1 + np + nq ≤ _
        omega
      have hcl := HC.out
      have hzz := HZ.out
      obtain ⟨L, hL⟩ : ∃ L, [(⟨#[128]⟩ : ByteArray)] ++ ps ++ qs = L := ⟨_, rfl⟩
      rw [hL] at ho3 hlen hcl hzz
      obtain ⟨a5, c5, rfl, hsl⟩ := slS_owns ho3
      have KC := clash_any L hlen hzz a5 c5 x2.heap.size x2 (Nat.le_refl _) hsl
      rw [hcl] at KC
      clear ho3 hlen hcl hzz hsl hL ho2 hg2 ho1 hg1 b1 BX2
      refine KC.mono ?_
      rintro e x3 ⟨rfl, Bx3⟩
      have BF := belowStep B1x B1x.size Bx3
      clear KC
      go_wp2
      go_ret
      exact ⟨rfl, BF⟩
  · have s1 : (s.toList == s'.toList) = false := by rw [beq_eq_false_iff_ne]; exact fun e => hss (toList_inj e)
    go_wp2
    go_ret
    exact ⟨rfl, B15⟩
end Go.Proofs.YtbpcciifaekffaaGreatDoor
namespace Go.Proofs.YtbpcciifaekffaaGreatDoor
open Go.RowKit Go.Shelf Go.Sort

theorem pairs_cap {H : Type} {enc : TypeId × Value → H} {W : World} {fuel : Nat} {a : Option Addr} {len cap : Nat} {x : DataW H × List MemPlace} (h : DataW.trod enc Tryz.prog W 0 (fun _ => true) true fuel 22 [.slice a len cap] = some x) : len ≤ cap := by
  rcases Go.Deep.open_slice_pairs Tryz.underlying22 Tryz.underlying40 cellsPr rfl rfl cellsSt cellsSt h with ⟨hcs, hx⟩ | ⟨a', len', cap', m, n, V0, V1, D0, D1, P0, P1, hcs, _, hle, hm, hmm, hx, hc⟩
  · injection hcs with hcs _
    injection hcs with h1 h2 h3
    omega
  · injection hcs with hcs _
    injection hcs with h1 h2 h3
    subst h1 h2 h3
    exact hle
theorem tap_any (es : List Pr) (a : Option Addr) (c : Nat) (ms : List Pr) (a' : Option Addr) (c' : Nat) (w : World) (hl : Laid w) (hp : slP w.heap.size w a es) (hc : es.length ≤ c) (hp' : slP w.heap.size w a' ms) (hc' : ms.length ≤ c') :
    Calls Tryz.prog 7 #[.slice a es.length c, .slice a' ms.length c'] w fun e w' => e = .returned (.bool true) ∧ Below w.heap.size w w' := tapart_any es ms a a' c c' w hl hp hp' hc hc'
end Go.Proofs.YtbpcciifaekffaaGreatDoor
