/- Lemmas: within. Every node's list is encoded: right, not deep, small. Paths' forms tell their paths. Equal roots: the same pairs, or a clash. In pure terms. -/
import Derived.Test.YtbmapdkcccdmfaaDoorM1
import Derived.Test.YtbmapdkcccdmfaaDoorM10
import Derived.Test.YtbmapdkcccdmfaaDoorM11
import Derived.Test.YtbmapdkcccdmfaaDoorM12
import Derived.Test.YtbmapdkcccdmfaaDoorM13
import Derived.Test.YtbmapdkcccdmfaaDoorM14
import Derived.Test.YtbmapdkcccdmfaaDoorM15
import Derived.Test.YtbmapdkcccdmfaaDoorM16
import Derived.Test.YtbmapdkcccdmfaaDoorM17
import Derived.Test.YtbmapdkcccdmfaaDoorM18
import Derived.Test.YtbmapdkcccdmfaaDoorM19
import Derived.Test.YtbmapdkcccdmfaaDoorM2
import Derived.Test.YtbmapdkcccdmfaaDoorM20
import Derived.Test.YtbmapdkcccdmfaaDoorM21
import Derived.Test.YtbmapdkcccdmfaaDoorM22
import Derived.Test.YtbmapdkcccdmfaaDoorM23
import Derived.Test.YtbmapdkcccdmfaaDoorM24
import Derived.Test.YtbmapdkcccdmfaaDoorM25
import Derived.Test.YtbmapdkcccdmfaaDoorM26
import Derived.Test.YtbmapdkcccdmfaaDoorM3
import Derived.Test.YtbmapdkcccdmfaaDoorM33
import Derived.Test.YtbmapdkcccdmfaaDoorM34
import Derived.Test.YtbmapdkcccdmfaaDoorM35
import Derived.Test.YtbmapdkcccdmfaaDoorM36
import Derived.Test.YtbmapdkcccdmfaaDoorM37
import Derived.Test.YtbmapdkcccdmfaaDoorM38
import Derived.Test.YtbmapdkcccdmfaaDoorM39
import Derived.Test.YtbmapdkcccdmfaaDoorM4
import Derived.Test.YtbmapdkcccdmfaaDoorM40
import Derived.Test.YtbmapdkcccdmfaaDoorM41
import Derived.Test.YtbmapdkcccdmfaaDoorM42
import Derived.Test.YtbmapdkcccdmfaaDoorM43
import Derived.Test.YtbmapdkcccdmfaaDoorM44
import Derived.Test.YtbmapdkcccdmfaaDoorM45
import Derived.Test.YtbmapdkcccdmfaaDoorM5
import Derived.Test.YtbmapdkcccdmfaaDoorM53
import Derived.Test.YtbmapdkcccdmfaaDoorM6
import Derived.Test.YtbmapdkcccdmfaaDoorM7
import Derived.Test.YtbmapdkcccdmfaaDoorM8
import Derived.Test.YtbmapdkcccdmfaaDoorM9
import Derived.Test.YtbmapdkcccdmfaaDoorRows
import Derived.Test.YtbmapdkcccdmfaaDoorM29
import Derived.Test.YtbmapdkcccdmfaaDoorM30
import Derived.Test.YtbmapdkcccdmfaaDoorM47
import Derived.Test.YtbmapdkcccdmfaaDoorM48
import Derived.Test.YtbmapdkcccdmfaaDoorM49
import Derived.Test.YtbmapdkcccdmfaaDoorM50
import Derived.Laws.StructEq
namespace Go.Proofs.YtbmapdkcccdmfaaDoor
open Go.RowKit Go.Shelf Go.Sort

/-- Is each pair of a list one of another one? -/
def wnB (es ms : List Pr) : Bool := es.all fun e => ms.any fun f => decide (e = f)
end Go.Proofs.YtbmapdkcccdmfaaDoor
namespace Go.Proofs.YtbmapdkcccdmfaaDoor
open Go.RowKit Go.Shelf Go.Sort

theorem dprI_up : ∀ (m : Nat) (x : It), dprI m x = false → dprI (m + 1) x = false
  | 0, _, h => by cases h
  | m + 1, .mk l t xs, h => by
    have h' : xs.any (dprI m) = false := h
    show xs.any (dprI (m + 1)) = false
    rw [List.any_eq_false] at h' ⊢
    intro y hy
    have h1 := h' y hy
    rw [Bool.not_eq_true] at h1 ⊢
    exact dprI_up m y h1
theorem dprI_le {m n : Nat} (h : m ≤ n) {x : It} (hx : dprI m x = false) : dprI n x = false := by
  induction h with
  | refl => exact hx
  | step _ ih => exact dprI_up _ x ih
theorem dprI_list {m : Nat} {t : ByteArray} {xs : List It} (h : ∀ y ∈ xs, dprI m y = false) : dprI (m + 1) (.mk true t xs) = false := by
  show xs.any (dprI m) = false
  rw [List.any_eq_false]
  intro y hy
  rw [Bool.not_eq_true]
  exact h y hy
theorem encI_pos (x : It) : 0 < (encI x).size := by rw [encI_eq]; exact hdK_pos _ _
theorem encI_list (t : ByteArray) (xs : List It) : (encI (.mk true t xs)).size = hsz (encIs xs).size + (encIs xs).size := by
  show (hdB 192 (encIs xs).size ++ encIs xs).size = _
  rw [ByteArray.size_append, hdB_hsz]
theorem hsz_pos (n : Nat) : 1 ≤ hsz n := by unfold hsz; split <;> omega
theorem encIs_len : ∀ xs : List It, xs.length ≤ (encIs xs).size
  | [] => Nat.zero_le _
  | x :: r => by
    have h1 := encI_pos x
    have h2 := encIs_len r
    show r.length + 1 ≤ (encI x ++ encIs r).size
    rw [ByteArray.size_append]
    omega
theorem encIs_room : ∀ (xs : List It) (x : It), x ∈ xs → (encI x).size + xs.length ≤ (encIs xs).size + 1
  | y :: r, x, h => by
    have h1 := encI_pos y
    have h2 := encIs_len r
    show (encI x).size + (r.length + 1) ≤ (encI y ++ encIs r).size + 1
    rw [ByteArray.size_append]
    rcases List.mem_cons.1 h with rfl | h
    · omega
    · have := encIs_room r x h
      omega
mutual
theorem enc_tb : ∀ x, tbI x ≤ 1000000 → (encI x).size ≤ tbI x
  | .mk l t xs, h => by
    have h' : t.size + 9 + tbIs xs ≤ 1000000 := h
    have hx := encs_tb xs (by omega)
    show _ ≤ t.size + 9 + tbIs xs
    cases l with
    | true =>
      rw [encI_list]
      have : hsz (encIs xs).size ≤ 9 := by
        unfold hsz
        have := blen_le (encIs xs).size 8 (by omega)
        split <;> omega
      omega
    | false =>
      show (if bare t then t else hdB 128 t.size ++ t).size ≤ _
      split
      · omega
      · rw [ByteArray.size_append, hdB_hsz]
        have : hsz t.size ≤ 9 := by
          unfold hsz
          have := blen_le t.size 8 (by omega)
          split <;> omega
        omega
theorem encs_tb : ∀ xs, tbIs xs ≤ 1000000 → (encIs xs).size ≤ tbIs xs
  | [], _ => Nat.zero_le _
  | x :: r, h => by
    have h' : tbI x + tbIs r ≤ 1000000 := h
    have h1 := enc_tb x (by omega)
    have h2 := encs_tb r (by omega)
    show (encI x ++ encIs r).size ≤ tbI x + tbIs r
    rw [ByteArray.size_append]
    omega
end
/-- What may stand in a node's list. -/
structure Kid (y : It) : Prop where
  rg : rgI y = true
  dp : dprI (2 + (encI y).size / 9) y = false
  d5 : dprI 5 y = false
theorem kid_text (t : ByteArray) : Kid (.mk false t []) := by
  have h : dprI 1 (.mk false t []) = false := rfl
  exact ⟨rfl, dprI_le (by omega) h, dprI_le (by omega) h⟩
theorem rgIs_of : ∀ {xs : List It}, (∀ y ∈ xs, rgI y = true) → rgIs xs = true
  | [], _ => rfl
  | x :: r, h => by
    show (rgI x && rgIs r) = true
    rw [h x (by simp), rgIs_of (fun y hy => h y (by simp [hy]))]
    rfl
/-- A node's list. -/
structure Fit (x : It) : Prop where
  ls : ∃ xs, x = .mk true ⟨#[]⟩ xs
  rg : rgI x = true
  dp : dprI (2 + (encI x).size / 9) x = false
  d6 : dprI 6 x = false
  sz : (encI x).size ≤ 65536
  lo : 3 ≤ (encI x).size
theorem Fit.e0 {x : It} (h : Fit x) : eE x = 0 := by
  unfold eE
  rw [dprI_le (by omega) h.d6, h.rg]
  have := h.sz
  rw [if_neg (by decide), if_pos rfl, if_neg (by omega)]
theorem Fit.eS {x : It} (h : Fit x) : eS x = encI x := by unfold _root_.Go.Proofs.YtbmapdkcccdmfaaDoor.eS; rw [if_pos h.e0]
theorem Fit.inj {x y : It} (h : Fit x) (h' : Fit y) (e : _root_.Go.Proofs.YtbmapdkcccdmfaaDoor.eS x = _root_.Go.Proofs.YtbmapdkcccdmfaaDoor.eS y) : x = y := by
  rw [h.eS, h'.eS] at e
  have h1 := dec_enc h.e0
  rw [e, dec_enc h'.e0] at h1
  injection h1 with h1
  injection h1 with h1
  exact h1.symm
theorem kid_ref {x : It} (h : Fit x) : Kid (refI x) := by
  unfold refI
  rw [h.eS]
  split
  · exact ⟨h.rg, h.dp, dprI_le (by omega) h.dp⟩
  · exact kid_text _
theorem rg_list {xs : List It} (h : ∀ y ∈ xs, Kid y) : rgI (.mk true ⟨#[]⟩ xs) = true := by
  show ((if true then decide ((⟨#[]⟩ : ByteArray).size = 0) else decide (xs.length = 0)) && rgIs xs) = true
  rw [rgIs_of fun y hy => (h y hy).rg]
  rfl
theorem fit_list {xs : List It} (h : ∀ y ∈ xs, Kid y) (hl : 2 ≤ xs.length) (hz : tbI (.mk true ⟨#[]⟩ xs) ≤ 65536) (hd : dprI (2 + (encI (.mk true ⟨#[]⟩ xs)).size / 9) (.mk true ⟨#[]⟩ xs) = false) : Fit (.mk true ⟨#[]⟩ xs) where
  ls := ⟨xs, rfl⟩
  rg := rg_list h
  dp := hd
  d6 := dprI_list fun y hy => (h y hy).d5
  sz := Nat.le_trans (enc_tb _ (by omega)) hz
  lo := by
    rw [encI_list]
    have := hsz_pos (encIs xs).size
    have := encIs_len xs
    omega
/-- A list of 17. -/
theorem fork_deep {xs : List It} (h : ∀ y ∈ xs, Kid y) (hl : xs.length = 17) : 18 ≤ (encI (.mk true ⟨#[]⟩ xs)).size ∧ dprI (3 + ((encI (.mk true ⟨#[]⟩ xs)).size - 17) / 9) (.mk true ⟨#[]⟩ xs) = false := by
  rw [encI_list]
  have h1 := hsz_pos (encIs xs).size
  have h2 := encIs_len xs
  refine ⟨by omega, ?_⟩
  rw [show 3 + (hsz (encIs xs).size + (encIs xs).size - 17) / 9 = (2 + (hsz (encIs xs).size + (encIs xs).size - 17) / 9) + 1 by omega]
  refine dprI_list fun y hy => dprI_le ?_ (h y hy).dp
  have h3 := encIs_room xs y hy
  omega
/-- Strictly: what a list of 17 keeps besides. -/
structure Strong (x : It) : Prop where
  lo : 18 ≤ (encI x).size
  dp : dprI (3 + ((encI x).size - 17) / 9) x = false
theorem bridge_deep {t : ByteArray} {x : It} (hs : Strong x) : dprI (2 + (encI (.mk true ⟨#[]⟩ [.mk false t [], refI x])).size / 9) (.mk true ⟨#[]⟩ [.mk false t [], refI x]) = false := by
  have e0 := encI_list ⟨#[]⟩ [.mk false t [], refI x]
  have h1 := hsz_pos (encIs [.mk false t [], refI x]).size
  have h3 := encIs_room [.mk false t [], refI x] (refI x) (by simp)
  have h4 : ([.mk false t [], refI x] : List It).length = 2 := rfl
  obtain ⟨s, hs'⟩ : ∃ s, (encI (.mk true ⟨#[]⟩ [.mk false t [], refI x])).size = s := ⟨_, rfl⟩
  rw [hs'] at e0 ⊢
  rw [show 2 + s / 9 = (1 + s / 9) + 1 by omega]
  refine dprI_list fun y hy => ?_
  rcases List.mem_cons.1 hy with rfl | hy
  · exact dprI_le (m := 1) (by omega) rfl
  · obtain rfl := List.mem_singleton.1 hy
    by_cases hlt : (_root_.Go.Proofs.YtbmapdkcccdmfaaDoor.eS x).size < 32
    · have er : refI x = x := by unfold refI; rw [if_pos hlt]
      clear hs'
      rw [er] at h1 h3 h4 e0 ⊢
      have := hs.lo
      exact dprI_le (by omega) hs.dp
    · have er : refI x = .mk false (sumOf (_root_.Go.Proofs.YtbmapdkcccdmfaaDoor.eS x)) [] := by unfold refI; rw [if_neg hlt]
      rw [er]
      exact dprI_le (m := 1) (by omega) rfl
/-- Every node's list fits. -/
theorem nd_fit : ∀ (f d : Nat) (es : List Pr), 129 ≤ f + d → Ok d es → es.length ≤ 40 → Fit (ndF f d es).x ∧ (∀ e g : Pr, es[0]? = some e → es[es.length - 1]? = some g → 2 ≤ es.length → common (tl d e) (tl d g) = 0 → Strong (ndF f d es).x) := by
  intro f
  induction f with
  | zero =>
    intro d es hf h
    obtain ⟨e, r, rfl⟩ : ∃ e r, es = e :: r := by
      cases es with
      | nil => exact absurd h.pos (by simp)
      | cons e r => exact ⟨e, r, rfl⟩
    have := h.sz 0 e rfl
    omega
  | succ f IH =>
    intro d es hf h hn
    have htb := (nd_tb (f + 1) (f + 1) (Nat.le_refl _) d es h).1
    match es, h with
    | [], h => exact absurd h.pos (by simp)
    | [e], h =>
      refine ⟨?_, fun _ _ _ _ h2 _ => by simp at h2⟩
      have hk : ∀ y ∈ ([.mk false (fmS (tl d e) true) [], .mk false e.2 []] : List It), Kid y := fun y hy => by
        rcases List.mem_cons.1 hy with rfl | hy
        · exact kid_text _
        · obtain rfl := List.mem_singleton.1 hy
          exact kid_text _
      refine fit_list hk (by simp) (Nat.le_trans (Nat.le_trans (Nat.le_add_right _ 400) htb) (by simp)) ?_
      refine dprI_le (m := 2) (by omega) ?_
      rfl
    | e :: e2 :: r, h =>
      have he : (e :: e2 :: r)[0]? = some e := rfl
      have hg := last_at e e2 r
      have h2 : 2 ≤ (e :: e2 :: r).length := by simp
      obtain ⟨g, hgg⟩ : ∃ g, (e2 :: r).getLastD e2 = g := ⟨_, rfl⟩
      rw [hgg] at hg
      by_cases hc : common (tl d e) (tl d g) = 0
      · rw [nd_fork f d e e2 r (by rw [hgg]; exact hc)] at htb ⊢
        rw [fork_halves (ndF f (d + 1)) h h2] at htb ⊢
        have hk : ∀ y ∈ ((List.range 16).map (hvI (ndF f (d + 1)) d (e :: e2 :: r)) ++ [.mk false (vlE d (e :: e2 :: r)) []] : List It), Kid y := fun y hy => by
          rcases List.mem_append.1 hy with hy | hy
          · obtain ⟨k, _, rfl⟩ := List.mem_map.1 hy
            unfold hvI
            split
            · exact kid_text _
            · rename_i h0
              have hlen := List.length_filter_le (goes d (k : Int)) (e :: e2 :: r)
              exact kid_ref (IH (d + 1) _ (by omega) (h.going _ h0) (by omega)).1
          · obtain rfl := List.mem_singleton.1 hy
            exact kid_text _
        have hfd := fork_deep hk (by simp)
        exact ⟨fit_list hk (by simp) (by omega) (dprI_le (by omega) hfd.2), fun _ _ _ _ _ _ => ⟨hfd.1, hfd.2⟩⟩
      · refine ⟨?_, fun e' g' he' hg' _ hc' => ?_⟩
        · rw [nd_bridge f d e e2 r _ (by rw [hgg]) hc] at htb ⊢
          have hok := common_ok h he hg
          have hend := common_ends d e g (h.sz _ e he).1 (h.sz _ g hg).1
          obtain ⟨h5, h6⟩ := IH _ _ (by omega) hok hn
          have h7 := h6 e g he hg h2 hend
          refine fit_list (fun y hy => ?_) (by simp) (Nat.le_trans (Nat.le_trans (Nat.le_add_right _ 400) htb) (by omega)) (bridge_deep h7)
          rcases List.mem_cons.1 hy with rfl | hy
          · exact kid_text _
          · obtain rfl := List.mem_singleton.1 hy
            exact kid_ref h5
        · rw [he] at he'
          rw [hg] at hg'
          cases he'
          cases hg'
          exact absurd hc' hc
end Go.Proofs.YtbmapdkcccdmfaaDoor
namespace Go.Proofs.YtbmapdkcccdmfaaDoor
open Go.RowKit Go.Shelf Go.Sort

theorem hd_0 (n : Nat) (l : Bool) : n_bt (hdOf n l) 0 = (if l then 2 else 0) + ((n % 2 : Nat) : Int) := by
  cases l <;> unfold hdOf <;> by_cases h : n % 2 = 0
  · rw [if_pos h, h]; rfl
  · rw [if_neg h, show n % 2 = 1 by omega]; rfl
  · rw [if_pos h, h]; rfl
  · rw [if_neg h, show n % 2 = 1 by omega]; rfl
theorem fm_tell {p q : ByteArray} {l m : Bool} (hp : isP p = true) (hq : isP q = true) (e : fmS p l = fmS q m) : p = q ∧ l = m := by
  have e' : fmOf p l = fmOf q m := by unfold fmS at e; rwa [if_pos hp, if_pos hq] at e
  have zp : (fmOf p l).size = (full p l).size / 2 := n_by8_size _ _
  have zq : (fmOf q m).size = (full q m).size / 2 := n_by8_size _ _
  rw [e', zq] at zp
  have sp : (full p l).size = 2 - p.size % 2 + p.size := by rw [full_size, hd_size]
  have sq : (full q m).size = 2 - q.size % 2 + q.size := by rw [full_size, hd_size]
  have zz : (full p l).size = (full q m).size := by omega
  have key : ∀ i, i < (full p l).size → n_bt (full p l) i = n_bt (full q m) i := fun i hi => by
    have h1 : n_bt (fmOf p l) (i / 2) = fmAt p l (i / 2) := n_bt_by8 _ _ (fm_bd p l hp) _ (by omega)
    have h2 : n_bt (fmOf q m) (i / 2) = fmAt q m (i / 2) := n_bt_by8 _ _ (fm_bd q m hq) _ (by omega)
    rw [e', h2] at h1
    unfold fmAt at h1
    have a1 := full_le p l hp (2 * (i / 2))
    have a2 := full_le p l hp (2 * (i / 2) + 1)
    have b1 := full_le q m hq (2 * (i / 2))
    have b2 := full_le q m hq (2 * (i / 2) + 1)
    by_cases ei : i % 2 = 0
    · have e2 : 2 * (i / 2) = i := by omega
      rw [e2] at h1 a1 b1 a2 b2
      omega
    · have e2 : 2 * (i / 2) + 1 = i := by omega
      rw [e2] at h1 a2 b2
      omega
  have k0 := key 0 (by omega)
  unfold full at k0
  rw [n_bt_app, if_pos (by rw [hd_size]; omega), n_bt_app, if_pos (by rw [hd_size]; omega), hd_0, hd_0] at k0
  have hh : p.size % 2 = q.size % 2 ∧ l = m := by
    cases l <;> cases m <;> simp only [if_true, if_false, Bool.false_eq_true] at k0
    · exact ⟨by omega, rfl⟩
    · exfalso; omega
    · exfalso; omega
    · exact ⟨by omega, rfl⟩
  refine ⟨n_ext_bt _ _ (by omega) fun j hj => ?_, hh.2⟩
  have kj := key (2 - p.size % 2 + j) (by omega)
  unfold full at kj
  rw [n_bt_app, if_neg (by rw [hd_size]; omega), n_bt_app, if_neg (by rw [hd_size]; omega), hd_size, hd_size, ← hh.1] at kj
  rwa [show 2 - p.size % 2 + j - (2 - p.size % 2) = j by omega] at kj
/-- Two texts, one of each, that differ and have the same digest. -/
def Cl (A B : List ByteArray) : Prop := ∃ x ∈ A, ∃ y ∈ B, x ≠ y ∧ sumOf x = sumOf y
theorem Cl.mono {A B C D : List ByteArray} (h : Cl A B) (h1 : ∀ x ∈ A, x ∈ C) (h2 : ∀ x ∈ B, x ∈ D) : Cl C D := by
  obtain ⟨x, hx, y, hy, h⟩ := h
  exact ⟨x, h1 x hx, y, h2 y hy, h⟩
theorem own_in {X : Nd} (h : ¬ (eS X.x).size < 32) : eS X.x ∈ allN X := by
  obtain ⟨x, ss⟩ := X
  show eS x ∈ ownT x ++ allS ss
  have h' : ¬ (eS x).size < 32 := h
  unfold ownT
  rw [if_neg h']
  simp
theorem below_in {X : Nd} : ∀ x ∈ allS X.ss, x ∈ allN X := by
  obtain ⟨x, ss⟩ := X
  intro y hy
  show y ∈ ownT x ++ allS ss
  exact List.mem_append_right _ hy
theorem kids_same {X Y : Nd} (hX : Fit X.x) (hY : Fit Y.x) (e : refI X.x = refI Y.x) : X.x = Y.x ∨ Cl (allN X) (allN Y) := by
  unfold refI at e
  obtain ⟨xs, ex⟩ := hX.ls
  obtain ⟨ys, ey⟩ := hY.ls
  by_cases h1 : (eS X.x).size < 32 <;> by_cases h2 : (eS Y.x).size < 32
  · rw [if_pos h1, if_pos h2] at e
    exact .inl e
  · rw [if_pos h1, if_neg h2, ex] at e
    cases e
  · rw [if_neg h1, if_pos h2, ey] at e
    cases e
  · rw [if_neg h1, if_neg h2] at e
    injection e with _ e _
    by_cases h3 : eS X.x = eS Y.x
    · exact .inl (hX.inj hY h3)
    · exact .inr ⟨_, own_in h1, _, own_in h2, h3, e⟩
theorem kid_zero {x : It} (h : Fit x) : refI x ≠ zIt := by
  unfold refI
  obtain ⟨xs, ex⟩ := h.ls
  split
  · rw [ex]
    intro e
    cases e
  · intro e
    injection e with _ e _
    have h1 := sum_size (eS x)
    rw [e] at h1
    cases h1
theorem path_same {d : Nat} {e m : Pr} (he : d ≤ e.1.size) (hm : d ≤ m.1.size) (hc : ∀ t, t < d → bt e.1 t = bt m.1 t) (ht : tl d e = tl d m) : e.1 = m.1 := by
  have hz := congrArg ByteArray.size ht
  rw [tl_size, tl_size] at hz
  refine ext_bt _ _ (by omega) fun j hj => ?_
  by_cases h : j < d
  · exact hc j h
  · have h1 := tl_bt d e (j - d) (by omega)
    have h2 := tl_bt d m (j - d) (by omega)
    rw [ht, h2] at h1
    rw [show d + (j - d) = j by omega] at h1
    exact h1.symm
theorem isP_tl {d : Nat} {es : List Pr} (h : Ok d es) {e : Pr} (he : e ∈ es) : isP (tl d e) = true := by
  refine (isP_iff _).2 fun j hj => ?_
  rw [tl_size] at hj
  rw [n_bt_eq, tl_bt d e j (by omega)]
  have := ((Ok_iff d es).1 h).2.2.2.2.2 e he (d + j)
  omega
theorem cut_bt (p : ByteArray) (a j : Nat) (ha : a ≤ p.size) (hj : j < a) : bt (p.extract 0 a) j = bt p j := by
  rw [← bt_get (p.extract 0 a) j (by rw [ByteArray.size_extract]; omega), ← bt_get p j (by omega), ByteArray.getElem_extract]
  simp only [Nat.zero_add]
theorem isP_cut {p : ByteArray} (h : isP p = true) (a : Nat) (ha : a ≤ p.size) : isP (p.extract 0 a) = true := by
  refine (isP_iff _).2 fun j hj => ?_
  rw [ByteArray.size_extract] at hj
  have := (isP_iff _).1 h j (by omega)
  rw [n_bt_eq, cut_bt p a j ha (by omega)]
  exact this
theorem nd_case {f d : Nat} {es : List Pr} (h : Ok d es) :
    (∃ e, es = [e]) ∨ (∃ e a, e ∈ es ∧ d + a ≤ e.1.size ∧ Ok (d + a) es ∧ 0 < a ∧ ndF (f + 1) d es = brN ((tl d e).extract 0 a) (ndF f (d + a) es)) ∨ (2 ≤ es.length ∧ ndF (f + 1) d es = fkN (ndF f (d + 1)) d es) := by
  match es, h with
  | [], h => exact absurd h.pos (by simp)
  | [e], h => exact .inl ⟨e, rfl⟩
  | e :: e2 :: r, h =>
    have he : (e :: e2 :: r)[0]? = some e := rfl
    have hg := last_at e e2 r
    obtain ⟨g, hgg⟩ : ∃ g, (e2 :: r).getLastD e2 = g := ⟨_, rfl⟩
    rw [hgg] at hg
    by_cases hc : common (tl d e) (tl d g) = 0
    · exact .inr (.inr ⟨by simp, nd_fork f d e e2 r (by rw [hgg]; exact hc)⟩)
    · have hs := (common_spec (tl d e) (tl d g)).1
      rw [tl_size] at hs
      have hd := (h.sz 0 e he).1
      exact .inr (.inl ⟨e, _, by simp, by omega, common_ok h he hg, by omega, nd_bridge f d e e2 r _ (by rw [hgg]) hc⟩)
theorem vlE_of {d : Nat} {es : List Pr} (h : Ok d es) {e : Pr} (he : e ∈ es) (hz : e.1.size = d) : vlE d es = e.2 := by
  obtain ⟨j, hj⟩ := List.getElem?_of_mem he
  match es, j, h, hj with
  | a :: r, 0, h, hj =>
    cases hj
    show (if e.1.size = d then e.2 else ⟨#[]⟩) = e.2
    rw [if_pos hz]
  | a :: r, j + 1, h, hj =>
    have := h.longer (i := 0) (j := j + 1) (by omega) rfl hj
    omega
theorem vlE_in {d : Nat} {es : List Pr} (h : 1 ≤ (vlE d es).size) : ∃ e ∈ es, e.1.size = d ∧ e.2 = vlE d es := by
  match es, h with
  | [], h => exact absurd h (by show ¬ 1 ≤ (⟨#[]⟩ : ByteArray).size; decide)
  | a :: r, h =>
    have e : vlE d (a :: r) = if a.1.size = d then a.2 else ⟨#[]⟩ := rfl
    rw [e] at h ⊢
    by_cases hz : a.1.size = d
    · rw [if_pos hz]
      exact ⟨a, by simp, hz, rfl⟩
    · rw [if_neg hz] at h
      exact absurd h (by decide)
theorem apart_in : ∀ (f d : Nat) (es ms : List Pr), 129 ≤ f + d → Ok d es → Ok d ms → es.length ≤ 40 → ms.length ≤ 40 → (∀ e ∈ es, ∀ m ∈ ms, ∀ t, t < d → bt e.1 t = bt m.1 t) → (∀ e ∈ es, 1 ≤ e.2.size) →
    (ndF f d es).x = (ndF f d ms).x → (∀ e ∈ es, e ∈ ms) ∨ Cl (allS (ndF f d es).ss) (allS (ndF f d ms).ss) := by
  intro f
  induction f with
  | zero =>
    intro d es ms hf h
    obtain ⟨e, r, rfl⟩ : ∃ e r, es = e :: r := by
      cases es with
      | nil => exact absurd h.pos (by simp)
      | cons e r => exact ⟨e, r, rfl⟩
    have := h.sz 0 e rfl
    omega
  | succ f IH =>
    intro d es ms hf h h' hn hn' hc hv hx
    have hsz := ((Ok_iff d es).1 h).2.2.1
    have hsz' := ((Ok_iff d ms).1 h').2.2.1
    rcases nd_case (f := f) h with ⟨e, rfl⟩ | ⟨e, a, he, ha, hok, h0, heq⟩ | ⟨h2, heq⟩ <;> rcases nd_case (f := f) h' with ⟨m, rfl⟩ | ⟨m, a', hm, ha', hok', h0', heq'⟩ | ⟨h2', heq'⟩
    · have hx' : (It.mk true ⟨#[]⟩ [.mk false (fmS (tl d e) true) [], .mk false e.2 []]) = .mk true ⟨#[]⟩ [.mk false (fmS (tl d m) true) [], .mk false m.2 []] := hx
      injection hx' with _ _ h1
      injection h1 with h1 h3
      injection h1 with _ h1 _
      injection h3 with h3 _
      injection h3 with _ h3 _
      have h4 := (fm_tell (isP_tl h (by simp)) (isP_tl h' (by simp)) h1).1
      have h5 := path_same (hsz e (by simp)).1 (hsz' m (by simp)).1 (hc e (by simp) m (by simp)) h4
      refine .inl fun y hy => ?_
      obtain rfl := List.mem_singleton.1 hy
      exact List.mem_singleton.2 (Prod.ext h5 h3)
    · exfalso
      rw [heq'] at hx
      have hx' : (It.mk true ⟨#[]⟩ [.mk false (fmS (tl d e) true) [], .mk false e.2 []]) = .mk true ⟨#[]⟩ [.mk false (fmS ((tl d m).extract 0 a') false) [], refI (ndF f (d + a') ms).x] := hx
      injection hx' with _ _ h1
      injection h1 with h1 h3
      injection h1 with _ h1 _
      have := (fm_tell (isP_tl h (by simp)) (isP_cut (isP_tl h' hm) a' (by rw [tl_size]; omega)) h1).2
      cases this
    · exfalso
      rw [heq', fork_halves _ h' h2'] at hx
      have hx' : (It.mk true ⟨#[]⟩ [.mk false (fmS (tl d e) true) [], .mk false e.2 []]) = .mk true ⟨#[]⟩ _ := hx
      injection hx' with _ _ h1
      have := congrArg List.length h1
      simp at this
    · exfalso
      rw [heq] at hx
      have hx' : (It.mk true ⟨#[]⟩ [.mk false (fmS ((tl d e).extract 0 a) false) [], refI (ndF f (d + a) es).x]) = .mk true ⟨#[]⟩ [.mk false (fmS (tl d m) true) [], .mk false m.2 []] := hx
      injection hx' with _ _ h1
      injection h1 with h1 h3
      injection h1 with _ h1 _
      have := (fm_tell (isP_cut (isP_tl h he) a (by rw [tl_size]; omega)) (isP_tl h' (by simp)) h1).2
      cases this
    · rw [heq, heq'] at hx ⊢
      have hx' : (It.mk true ⟨#[]⟩ [.mk false (fmS ((tl d e).extract 0 a) false) [], refI (ndF f (d + a) es).x]) = .mk true ⟨#[]⟩ [.mk false (fmS ((tl d m).extract 0 a') false) [], refI (ndF f (d + a') ms).x] := hx
      injection hx' with _ _ h1
      injection h1 with h1 h3
      injection h1 with _ h1 _
      injection h3 with h3 _
      have hq := (fm_tell (isP_cut (isP_tl h he) a (by rw [tl_size]; omega)) (isP_cut (isP_tl h' hm) a' (by rw [tl_size]; omega)) h1).1
      have hz := congrArg ByteArray.size hq
      rw [ByteArray.size_extract, ByteArray.size_extract, tl_size, tl_size] at hz
      obtain rfl : a = a' := by omega
      have hA : ∀ x ∈ allS (ndF f (d + a) es).ss, x ∈ allS (brN ((tl d e).extract 0 a) (ndF f (d + a) es)).ss := fun x hx => by
        show x ∈ allN _ ++ []
        rw [List.append_nil]
        exact below_in x hx
      have hB : ∀ x ∈ allS (ndF f (d + a) ms).ss, x ∈ allS (brN ((tl d m).extract 0 a) (ndF f (d + a) ms)).ss := fun x hx => by
        show x ∈ allN _ ++ []
        rw [List.append_nil]
        exact below_in x hx
      rcases kids_same (nd_fit f (d + a) es (by omega) hok hn).1 (nd_fit f (d + a) ms (by omega) hok' hn').1 h3 with h4 | h4
      · have hal := ((Ok_iff (d + a) es).1 hok).2.2.2.2.1
        have hal' := ((Ok_iff (d + a) ms).1 hok').2.2.2.2.1
        rcases IH (d + a) es ms (by omega) hok hok' hn hn' (fun x hx y hy t ht => by
          rw [hal x hx e he t ht, hal' y hy m hm t ht]
          by_cases htd : t < d
          · exact hc e he m hm t htd
          · have b1 := cut_bt (tl d e) a (t - d) (by rw [tl_size]; omega) (by omega)
            have b2 := cut_bt (tl d m) a (t - d) (by rw [tl_size]; omega) (by omega)
            rw [hq, b2, tl_bt d e _ (by omega), tl_bt d m _ (by omega), show d + (t - d) = t by omega] at b1
            exact b1.symm) hv h4 with h5 | h5
        · exact .inl h5
        · exact .inr (h5.mono hA hB)
      · refine .inr (h4.mono (fun x hx => ?_) (fun x hx => ?_))
        · show x ∈ allN _ ++ []
          rw [List.append_nil]
          exact hx
        · show x ∈ allN _ ++ []
          rw [List.append_nil]
          exact hx
    · exfalso
      rw [heq, heq', fork_halves _ h' h2'] at hx
      have hx' : (It.mk true ⟨#[]⟩ [.mk false (fmS ((tl d e).extract 0 a) false) [], refI (ndF f (d + a) es).x]) = .mk true ⟨#[]⟩ _ := hx
      injection hx' with _ _ h1
      have := congrArg List.length h1
      simp at this
    · exfalso
      rw [heq, fork_halves _ h h2] at hx
      have hx' : It.mk true ⟨#[]⟩ _ = (It.mk true ⟨#[]⟩ [.mk false (fmS (tl d m) true) [], .mk false m.2 []]) := hx
      injection hx' with _ _ h1
      have := congrArg List.length h1
      simp at this
    · exfalso
      rw [heq, heq', fork_halves _ h h2] at hx
      have hx' : It.mk true ⟨#[]⟩ _ = (It.mk true ⟨#[]⟩ [.mk false (fmS ((tl d m).extract 0 a') false) [], refI (ndF f (d + a') ms).x]) := hx
      injection hx' with _ _ h1
      have := congrArg List.length h1
      simp at this
    · rw [heq, heq', fork_halves _ h h2, fork_halves _ h' h2'] at hx
      rw [heq, heq', allS_fork _ h h2, allS_fork _ h' h2']
      injection hx with _ _ h1
      obtain ⟨h3, h4⟩ := List.append_inj h1 (by simp)
      injection h4 with h4 _
      injection h4 with _ h4 _
      by_cases hcl : Cl ((List.range 16).flatMap fun (j : Nat) => if (es.filter (goes d (j : Int))).length = 0 then [] else allN (ndF f (d + 1) (es.filter (goes d (j : Int))))) ((List.range 16).flatMap fun (j : Nat) => if (ms.filter (goes d (j : Int))).length = 0 then [] else allN (ndF f (d + 1) (ms.filter (goes d (j : Int)))))
      · exact .inr hcl
      · refine .inl fun e he => ?_
        by_cases hz : e.1.size = d
        · have h5 := vlE_of h he hz
          obtain ⟨m, hm, hmz, hm2⟩ := vlE_in (d := d) (es := ms) (by rw [← h4, h5]; exact hv e he)
          have h6 : e.1 = m.1 := ext_bt _ _ (by omega) fun t ht => hc e he m hm t (by omega)
          have h7 : e = m := Prod.ext h6 (by rw [hm2, ← h4, h5])
          rw [h7]
          exact hm
        · have hb := ((Ok_iff d es).1 h).2.2.2.2.2 e he d
          obtain ⟨k, hk⟩ : ∃ k : Nat, bt e.1 d = (k : Int) := ⟨(bt e.1 d).toNat, by omega⟩
          have hk16 : k < 16 := by omega
          have hgo : goes d (k : Int) e = true := by
            unfold goes
            have := (hsz e he).1
            rw [decide_eq_true (by omega), decide_eq_true hk]
            rfl
          have hin : e ∈ es.filter (goes d (k : Int)) := List.mem_filter.2 ⟨he, hgo⟩
          have hne : (es.filter (goes d (k : Int))).length ≠ 0 := fun h0 => by
            rw [List.length_eq_zero_iff.1 h0] at hin
            cases hin
          have hk3 := congrArg (fun l => l[k]?) h3
          simp only [List.getElem?_map, List.getElem?_range hk16, Option.map_some, Option.some.injEq] at hk3
          have hl1 := List.length_filter_le (goes d (k : Int)) es
          have hl2 := List.length_filter_le (goes d (k : Int)) ms
          have hok := h.going (k : Int) hne
          have hfit := (nd_fit f (d + 1) _ (by omega) hok (by omega)).1
          unfold hvI at hk3
          rw [if_neg hne] at hk3
          by_cases hne' : (ms.filter (goes d (k : Int))).length = 0
          · rw [if_pos hne'] at hk3
            exact absurd hk3 (kid_zero hfit)
          · rw [if_neg hne'] at hk3
            have hok' := h'.going (k : Int) hne'
            have hfit' := (nd_fit f (d + 1) _ (by omega) hok' (by omega)).1
            have up : ∀ {A B : List ByteArray}, (∀ x ∈ A, x ∈ allN (ndF f (d + 1) (es.filter (goes d (k : Int))))) → (∀ x ∈ B, x ∈ allN (ndF f (d + 1) (ms.filter (goes d (k : Int))))) → Cl A B → False := fun hA hB hAB => by
              refine hcl (hAB.mono (fun x hx => ?_) (fun x hx => ?_))
              · exact List.mem_flatMap.2 ⟨k, List.mem_range.2 hk16, by rw [if_neg hne]; exact hA x hx⟩
              · exact List.mem_flatMap.2 ⟨k, List.mem_range.2 hk16, by rw [if_neg hne']; exact hB x hx⟩
            have gs : ∀ {xs : List Pr} {x : Pr}, x ∈ xs.filter (goes d (k : Int)) → x ∈ xs ∧ bt x.1 d = (k : Int) := fun hx => by
              obtain ⟨h8, h9⟩ := List.mem_filter.1 hx
              unfold goes at h9
              rw [Bool.and_eq_true] at h9
              exact ⟨h8, of_decide_eq_true h9.2⟩
            rcases kids_same hfit hfit' hk3 with h5 | h5
            · rcases IH (d + 1) _ _ (by omega) hok hok' (by omega) (by omega) (fun x hx y hy t ht => by
                obtain ⟨x1, x2⟩ := gs hx
                obtain ⟨y1, y2⟩ := gs hy
                by_cases htd : t < d
                · exact hc x x1 y y1 t htd
                · obtain rfl : t = d := by omega
                  rw [x2, y2]) (fun x hx => hv x (gs hx).1) h5 with h6 | h6
              · exact (gs (h6 e hin)).1
              · exact (up below_in below_in h6).elim
            · exact (up (fun _ h => h) (fun _ h => h) h5).elim
theorem of_inj {a b : ByteArray} (h : ofOf a = ofOf b) : a = b := by
  have hz := congrArg ByteArray.size h
  rw [of_sz, of_sz] at hz
  refine ext_bt _ _ (by omega) fun j hj => ?_
  have h1 := of_bt a (2 * j) (by omega)
  have h2 := of_bt a (2 * j + 1) (by omega)
  have h3 := of_bt b (2 * j) (by omega)
  have h4 := of_bt b (2 * j + 1) (by omega)
  rw [if_pos (by omega), show 2 * j / 2 = j by omega] at h1 h3
  rw [if_neg (by omega), show (2 * j + 1) / 2 = j by omega] at h2 h4
  rw [h, h3] at h1
  rw [h, h4] at h2
  omega
theorem cl_of {L : List ByteArray} {x y : ByteArray} (hx : x ∈ L) (hy : y ∈ L) (hne : x ≠ y) (hs : sumOf x = sumOf y) : clB L = true := by
  unfold clB
  exact List.any_eq_true.2 ⟨x, hx, List.any_eq_true.2 ⟨y, hy, decide_eq_true ⟨hne, hs⟩⟩⟩
theorem wn_of {es ms : List Pr} (h : ∀ e ∈ es, e ∈ ms) : wnB es ms = true := by
  unfold wnB
  exact List.all_eq_true.2 fun e he => List.any_eq_true.2 ⟨e, h e he, decide_eq_true rfl⟩
theorem back_ents {es ms : List Pr} (h : ∀ e ∈ ents (srt es), e ∈ ents (srt ms)) : ∀ e ∈ es, e ∈ ms := fun e he => by
  obtain ⟨p, hp, hep⟩ := mem_ents.1 (h (enP e) (mem_ents.2 ⟨e, he, rfl⟩))
  have h1 : ofOf e.1 = ofOf p.1 := congrArg Prod.fst hep
  have h2 : (enP e).2 = (enP p).2 := congrArg Prod.snd hep
  rw [Prod.ext (of_inj h1) h2]
  exact hp
theorem ok_srt {es : List Pr} (hr : RightP es) (h0 : es.length ≠ 0) : Ok 0 (ents (srt es)) :=
  ok_ents _ (by rw [(srt_perm es).length_eq]; omega) ((right_perm (srt_perm es)).2 hr) (srt_sorted es)
/-- Equal roots: the same pairs, or a clash among all that was hashed. -/
theorem apart_all {es ms : List Pr} {T : List ByteArray} (hr : RightP es) (hr' : RightP ms) (hl : es.length ≤ 40) (hl' : ms.length ≤ 40) (h : rtS true es = rtS true ms)
    (h1 : ⟨#[128]⟩ ∈ T) (h2 : ∀ x ∈ tdS true nodesL es, x ∈ T) (h3 : ∀ x ∈ tdS true nodesL ms, x ∈ T) : (wnB es ms = true ∧ wnB ms es = true) ∨ clB T = true := by
  have hs : sumOf (topB (srt es)) = sumOf (topB (srt ms)) := h
  have tin : ∀ {xs : List Pr}, (∀ x ∈ tdS true nodesL xs, x ∈ T) → topB (srt xs) ∈ T := fun {xs} hx => by
    unfold topB
    by_cases h0 : (srt xs).length = 0
    · rw [if_pos h0]
      exact h1
    · rw [if_neg h0]
      refine hx _ ?_
      show _ ∈ wyL nodesL (srt xs)
      unfold wyL
      rw [if_neg h0]
      unfold nodesL
      simp
  by_cases ht : topB (srt es) = topB (srt ms)
  · by_cases h0 : es.length = 0 <;> by_cases h0' : ms.length = 0
    · rw [List.length_eq_zero_iff.1 h0, List.length_eq_zero_iff.1 h0']
      exact .inl ⟨rfl, rfl⟩
    · exfalso
      have f' := (nd_fit 129 0 _ (by omega) (ok_srt hr' h0') (by rw [ents_len, (srt_perm ms).length_eq]; exact hl')).1
      unfold topB at ht
      rw [if_pos (by rw [(srt_perm es).length_eq]; exact h0), if_neg (by rw [(srt_perm ms).length_eq]; exact h0')] at ht
      have := f'.lo
      rw [← f'.eS] at this
      have hz := congrArg ByteArray.size ht
      have h1 : (⟨#[128]⟩ : ByteArray).size = 1 := rfl
      unfold topN at hz
      omega
    · exfalso
      have f' := (nd_fit 129 0 _ (by omega) (ok_srt hr h0) (by rw [ents_len, (srt_perm es).length_eq]; exact hl)).1
      unfold topB at ht
      rw [if_neg (by rw [(srt_perm es).length_eq]; exact h0), if_pos (by rw [(srt_perm ms).length_eq]; exact h0')] at ht
      have := f'.lo
      rw [← f'.eS] at this
      have hz := congrArg ByteArray.size ht
      have h1 : (⟨#[128]⟩ : ByteArray).size = 1 := rfl
      unfold topN at hz
      omega
    · have hn : (ents (srt es)).length ≤ 40 := by rw [ents_len, (srt_perm es).length_eq]; exact hl
      have hn' : (ents (srt ms)).length ≤ 40 := by rw [ents_len, (srt_perm ms).length_eq]; exact hl'
      have n0 : ¬ (srt es).length = 0 := by rw [(srt_perm es).length_eq]; exact h0
      have n0' : ¬ (srt ms).length = 0 := by rw [(srt_perm ms).length_eq]; exact h0'
      have f1 := (nd_fit 129 0 _ (by omega) (ok_srt hr h0) hn).1
      have f2 := (nd_fit 129 0 _ (by omega) (ok_srt hr' h0') hn').1
      unfold topB topN at ht
      rw [if_neg n0, if_neg n0'] at ht
      have hx := f1.inj f2 ht
      have val : ∀ {xs : List Pr}, RightP xs → ∀ e ∈ ents (srt xs), 1 ≤ e.2.size := fun hr e he => by
        obtain ⟨p, hp, rfl⟩ := mem_ents.1 he
        have := (pOk_iff p).1 (((right_iff _).1 hr).2.1 p hp)
        exact this.2.2.1
      have bel : ∀ {xs : List Pr}, ¬ (srt xs).length = 0 → (∀ x ∈ tdS true nodesL xs, x ∈ T) → ∀ x ∈ allS (ndF 129 0 (ents (srt xs))).ss, x ∈ T := fun {xs} h0 hx x hxx => by
        refine hx x ?_
        show _ ∈ wyL nodesL (srt xs)
        unfold wyL
        rw [if_neg h0]
        exact List.mem_cons_of_mem _ hxx
      have cl : ∀ {A B : List ByteArray}, (∀ x ∈ A, x ∈ T) → (∀ x ∈ B, x ∈ T) → Cl A B → clB T = true := fun hA hB hc => by
        obtain ⟨x, hx, y, hy, hne, hs⟩ := hc
        exact cl_of (hA x hx) (hB y hy) hne hs
      rcases apart_in 129 0 _ _ (by omega) (ok_srt hr h0) (ok_srt hr' h0') hn hn' (fun _ _ _ _ t ht => by omega) (val hr) hx with a1 | a1
      · rcases apart_in 129 0 _ _ (by omega) (ok_srt hr' h0') (ok_srt hr h0) hn' hn (fun _ _ _ _ t ht => by omega) (val hr') hx.symm with a2 | a2
        · exact .inl ⟨wn_of (back_ents a1), wn_of (back_ents a2)⟩
        · exact .inr (cl (bel n0' h3) (bel n0 h2) a2)
      · exact .inr (cl (bel n0 h2) (bel n0' h3) a1)
  · exact .inr (cl_of (tin h2) (tin h3) ht hs)
end Go.Proofs.YtbmapdkcccdmfaaDoor
