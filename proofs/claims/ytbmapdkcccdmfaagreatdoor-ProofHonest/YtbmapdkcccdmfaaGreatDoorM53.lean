/- Every node's list is encoded: right, not deep, small. -/
import Derived.Test.YtbmapdkcccdmfaaGreatDoorM1
import Derived.Test.YtbmapdkcccdmfaaGreatDoorM10
import Derived.Test.YtbmapdkcccdmfaaGreatDoorM11
import Derived.Test.YtbmapdkcccdmfaaGreatDoorM12
import Derived.Test.YtbmapdkcccdmfaaGreatDoorM13
import Derived.Test.YtbmapdkcccdmfaaGreatDoorM14
import Derived.Test.YtbmapdkcccdmfaaGreatDoorM15
import Derived.Test.YtbmapdkcccdmfaaGreatDoorM17
import Derived.Test.YtbmapdkcccdmfaaGreatDoorM18
import Derived.Test.YtbmapdkcccdmfaaGreatDoorM19
import Derived.Test.YtbmapdkcccdmfaaGreatDoorM2
import Derived.Test.YtbmapdkcccdmfaaGreatDoorM20
import Derived.Test.YtbmapdkcccdmfaaGreatDoorM21
import Derived.Test.YtbmapdkcccdmfaaGreatDoorM22
import Derived.Test.YtbmapdkcccdmfaaGreatDoorM23
import Derived.Test.YtbmapdkcccdmfaaGreatDoorM24
import Derived.Test.YtbmapdkcccdmfaaGreatDoorM25
import Derived.Test.YtbmapdkcccdmfaaGreatDoorM26
import Derived.Test.YtbmapdkcccdmfaaGreatDoorM29
import Derived.Test.YtbmapdkcccdmfaaGreatDoorM3
import Derived.Test.YtbmapdkcccdmfaaGreatDoorM30
import Derived.Test.YtbmapdkcccdmfaaGreatDoorM32
import Derived.Test.YtbmapdkcccdmfaaGreatDoorM33
import Derived.Test.YtbmapdkcccdmfaaGreatDoorM34
import Derived.Test.YtbmapdkcccdmfaaGreatDoorM35
import Derived.Test.YtbmapdkcccdmfaaGreatDoorM36
import Derived.Test.YtbmapdkcccdmfaaGreatDoorM37
import Derived.Test.YtbmapdkcccdmfaaGreatDoorM38
import Derived.Test.YtbmapdkcccdmfaaGreatDoorM39
import Derived.Test.YtbmapdkcccdmfaaGreatDoorM4
import Derived.Test.YtbmapdkcccdmfaaGreatDoorM40
import Derived.Test.YtbmapdkcccdmfaaGreatDoorM41
import Derived.Test.YtbmapdkcccdmfaaGreatDoorM42
import Derived.Test.YtbmapdkcccdmfaaGreatDoorM43
import Derived.Test.YtbmapdkcccdmfaaGreatDoorM44
import Derived.Test.YtbmapdkcccdmfaaGreatDoorM45
import Derived.Test.YtbmapdkcccdmfaaGreatDoorM46
import Derived.Test.YtbmapdkcccdmfaaGreatDoorM48
import Derived.Test.YtbmapdkcccdmfaaGreatDoorM49
import Derived.Test.YtbmapdkcccdmfaaGreatDoorM5
import Derived.Test.YtbmapdkcccdmfaaGreatDoorM50
import Derived.Test.YtbmapdkcccdmfaaGreatDoorM6
import Derived.Test.YtbmapdkcccdmfaaGreatDoorM7
import Derived.Test.YtbmapdkcccdmfaaGreatDoorM8
import Derived.Test.YtbmapdkcccdmfaaGreatDoorM9
import Derived.Test.YtbmapdkcccdmfaaGreatDoorRows
import Derived.Laws.StructEq
namespace Go.Proofs.YtbmapdkcccdmfaaGreatDoor
open Go.RowKit Go.Shelf Go.Sort

theorem dprI_up : ∀ (m : Nat) (x : It), dprI m x = false → dprI (m + 1) x = false
 | 0, _, h => by cases h
 | m + 1, .mk l t xs, h => by
  have h' : xs.any (dprI m) = false := h
  show xs.any (dprI (m + 1)) = false
  rw [List.any_eq_false] at h' ⊢
  intro y hy
  have h1 := h' y hy
  rw [Bool.not_eq_true] at h1 ⊢
  exact dprI_up m y h1
theorem dprI_le {m n : Nat} (h : m ≤ n) {x : It} (hx : dprI m x = false) : dprI n x = false := by
 induction h with
 | refl => exact hx
 | step _ ih => exact dprI_up _ x ih
theorem dprI_list {m : Nat} {t : ByteArray} {xs : List It} (h : ∀ y ∈ xs, dprI m y = false) : dprI (m + 1) (.mk true t xs) = false := by
 show xs.any (dprI m) = false
 rw [List.any_eq_false]
 intro y hy
 rw [Bool.not_eq_true]
 exact h y hy
theorem encI_pos (x : It) : 0 < (encI x).size := by rw [encI_eq]; exact hdK_pos _ _
theorem encI_list (t : ByteArray) (xs : List It) : (encI (.mk true t xs)).size = hsz (encIs xs).size + (encIs xs).size := by
 show (hdB 192 (encIs xs).size ++ encIs xs).size = _
 rw [ByteArray.size_append, hdB_hsz]
theorem hsz_pos (n : Nat) : 1 ≤ hsz n := by unfold hsz; split <;> omega
theorem encIs_len : ∀ xs : List It, xs.length ≤ (encIs xs).size
 | [] => Nat.zero_le _
 | x :: r => by
  have h1 := encI_pos x
  have h2 := encIs_len r
  show r.length + 1 ≤ (encI x ++ encIs r).size
  rw [ByteArray.size_append]
  omega
theorem encIs_room : ∀ (xs : List It) (x : It), x ∈ xs → (encI x).size + xs.length ≤ (encIs xs).size + 1
 | y :: r, x, h => by
  have h1 := encI_pos y
  have h2 := encIs_len r
  show (encI x).size + (r.length + 1) ≤ (encI y ++ encIs r).size + 1
  rw [ByteArray.size_append]
  rcases List.mem_cons.1 h with rfl | h
  ·omega
  ·have := encIs_room r x h
   omega
mutual
theorem enc_tb : ∀ x, tbI x ≤ 1000000 → (encI x).size ≤ tbI x
 | .mk l t xs, h => by
  have h' : t.size + 9 + tbIs xs ≤ 1000000 := h
  have hx := encs_tb xs (by omega)
  show _ ≤ t.size + 9 + tbIs xs
  cases l with
  | true =>
   rw [encI_list]
   have : hsz (encIs xs).size ≤ 9 := by
    unfold hsz
    have := blen_le (encIs xs).size 8 (by omega)
    split <;> omega
   omega
  | false =>
   show (if bare t then t else hdB 128 t.size ++ t).size ≤ _
   split
   ·omega
   ·rw [ByteArray.size_append, hdB_hsz]
    have : hsz t.size ≤ 9 := by
     unfold hsz
     have := blen_le t.size 8 (by omega)
     split <;> omega
    omega
theorem encs_tb : ∀ xs, tbIs xs ≤ 1000000 → (encIs xs).size ≤ tbIs xs
 | [], _ => Nat.zero_le _
 | x :: r, h => by
  have h' : tbI x + tbIs r ≤ 1000000 := h
  have h1 := enc_tb x (by omega)
  have h2 := encs_tb r (by omega)
  show (encI x ++ encIs r).size ≤ tbI x + tbIs r
  rw [ByteArray.size_append]
  omega
end
structure Kid (y : It) : Prop where
 rg : rgI y = true
 dp : dprI (2 + (encI y).size / 9) y = false
 d5 : dprI 5 y = false
theorem kid_text (t : ByteArray) : Kid (.mk false t []) := by
 have h : dprI 1 (.mk false t []) = false := rfl
 exact ⟨rfl, dprI_le (by omega) h, dprI_le (by omega) h⟩
theorem rgIs_of : ∀ {xs : List It}, (∀ y ∈ xs, rgI y = true) → rgIs xs = true
 | [], _ => rfl
 | x :: r, h => by
  show (rgI x && rgIs r) = true
  rw [h x (by simp), rgIs_of (fun y hy => h y (by simp [hy]))]
  rfl
structure Fit (x : It) : Prop where
 ls : ∃ xs, x = .mk true ⟨#[]⟩ xs
 rg : rgI x = true
 dp : dprI (2 + (encI x).size / 9) x = false
 d6 : dprI 6 x = false
 sz : (encI x).size ≤ 65536
 lo : 3 ≤ (encI x).size
theorem Fit.e0 {x : It} (h : Fit x) : eE x = 0 := by
 unfold eE
 rw [dprI_le (by omega) h.d6, h.rg]
 have := h.sz
 rw [if_neg (by decide), if_pos rfl, if_neg (by omega)]
theorem Fit.eS {x : It} (h : Fit x) : eS x = encI x := by unfold _root_.Go.Proofs.YtbmapdkcccdmfaaGreatDoor.eS; rw [if_pos h.e0]
theorem Fit.inj {x y : It} (h : Fit x) (h' : Fit y) (e : _root_.Go.Proofs.YtbmapdkcccdmfaaGreatDoor.eS x = _root_.Go.Proofs.YtbmapdkcccdmfaaGreatDoor.eS y) : x = y := by
 rw [h.eS, h'.eS] at e
 have h1 := dec_enc h.e0
 rw [e, dec_enc h'.e0] at h1
 injection h1 with h1
 injection h1 with h1
 exact h1.symm
theorem kid_ref {x : It} (h : Fit x) : Kid (refI x) := by
 unfold refI
 rw [h.eS]
 split
 ·exact ⟨h.rg, h.dp, dprI_le (by omega) h.dp⟩
 ·exact kid_text _
theorem rg_list {xs : List It} (h : ∀ y ∈ xs, Kid y) : rgI (.mk true ⟨#[]⟩ xs) = true := by
 show ((if true then decide ((⟨#[]⟩ : ByteArray).size = 0) else decide (xs.length = 0)) && rgIs xs) = true
 rw [rgIs_of fun y hy => (h y hy).rg]
 rfl
theorem fit_list {xs : List It} (h : ∀ y ∈ xs, Kid y) (hl : 2 ≤ xs.length) (hz : tbI (.mk true ⟨#[]⟩ xs) ≤ 65536) (hd : dprI (2 + (encI (.mk true ⟨#[]⟩ xs)).size / 9) (.mk true ⟨#[]⟩ xs) = false) : Fit (.mk true ⟨#[]⟩ xs) where
 ls := ⟨xs, rfl⟩
 rg := rg_list h
 dp := hd
 d6 := dprI_list fun y hy => (h y hy).d5
 sz := Nat.le_trans (enc_tb _ (by omega)) hz
 lo := by
  rw [encI_list]
  have := hsz_pos (encIs xs).size
  have := encIs_len xs
  omega
theorem fork_deep {xs : List It} (h : ∀ y ∈ xs, Kid y) (hl : xs.length = 17) : 18 ≤ (encI (.mk true ⟨#[]⟩ xs)).size ∧ dprI (3 + ((encI (.mk true ⟨#[]⟩ xs)).size - 17) / 9) (.mk true ⟨#[]⟩ xs) = false := by
 rw [encI_list]
 have h1 := hsz_pos (encIs xs).size
 have h2 := encIs_len xs
 refine ⟨by omega, ?_⟩
 rw [show 3 + (hsz (encIs xs).size + (encIs xs).size - 17) / 9 = (2 + (hsz (encIs xs).size + (encIs xs).size - 17) / 9) + 1 by omega]
 refine dprI_list fun y hy => dprI_le ?_ (h y hy).dp
 have h3 := encIs_room xs y hy
 omega
structure Strong (x : It) : Prop where
 lo : 18 ≤ (encI x).size
 dp : dprI (3 + ((encI x).size - 17) / 9) x = false
theorem bridge_deep {t : ByteArray} {x : It} (hs : Strong x) : dprI (2 + (encI (.mk true ⟨#[]⟩ [.mk false t [], refI x])).size / 9) (.mk true ⟨#[]⟩ [.mk false t [], refI x]) = false := by
 have e0 := encI_list ⟨#[]⟩ [.mk false t [], refI x]
 have h1 := hsz_pos (encIs [.mk false t [], refI x]).size
 have h3 := encIs_room [.mk false t [], refI x] (refI x) (by simp)
 have h4 : ([.mk false t [], refI x] : List It).length = 2 := rfl
 obtain ⟨s, hs'⟩ : ∃ s, (encI (.mk true ⟨#[]⟩ [.mk false t [], refI x])).size = s := ⟨_, rfl⟩
 rw [hs'] at e0 ⊢
 rw [show 2 + s / 9 = (1 + s / 9) + 1 by omega]
 refine dprI_list fun y hy => ?_
 rcases List.mem_cons.1 hy with rfl | hy
 ·exact dprI_le (m := 1) (by omega) rfl
 ·obtain rfl := List.mem_singleton.1 hy
  by_cases hlt : (_root_.Go.Proofs.YtbmapdkcccdmfaaGreatDoor.eS x).size < 32
  ·have er : refI x = x := by unfold refI; rw [if_pos hlt]
   clear hs'
   rw [er] at h1 h3 h4 e0 ⊢
   have := hs.lo
   exact dprI_le (by omega) hs.dp
  ·have er : refI x = .mk false (sumOf (_root_.Go.Proofs.YtbmapdkcccdmfaaGreatDoor.eS x)) [] := by unfold refI; rw [if_neg hlt]
   rw [er]
   exact dprI_le (m := 1) (by omega) rfl
theorem nd_fit : ∀ (f d : Nat) (es : List Pr), 129 ≤ f + d → Ok d es → es.length ≤ 40 → Fit (ndF f d es).x ∧ (∀ e g : Pr, es[0]? = some e → es[es.length - 1]? = some g → 2 ≤ es.length → common (tl d e) (tl d g) = 0 → Strong (ndF f d es).x) := by
 intro f
 induction f with
 | zero =>
  intro d es hf h
  obtain ⟨e, r, rfl⟩ : ∃ e r, es = e :: r := by
   cases es with
   | nil => exact absurd h.pos (by simp)
   | cons e r => exact ⟨e, r, rfl⟩
  have := h.sz 0 e rfl
  omega
 | succ f IH =>
  intro d es hf h hn
  have htb := (nd_tb (f + 1) (f + 1) (Nat.le_refl _) d es h).1
  match es, h with
  | [], h => exact absurd h.pos (by simp)
  | [e], h =>
   refine ⟨?_, fun _ _ _ _ h2 _ => by simp at h2⟩
   have hk : ∀ y ∈ ([.mk false (fmS (tl d e) true) [], .mk false e.2 []] : List It), Kid y := fun y hy => by
    rcases List.mem_cons.1 hy with rfl | hy
    ·exact kid_text _
    ·obtain rfl := List.mem_singleton.1 hy
     exact kid_text _
   refine fit_list hk (by simp) (Nat.le_trans (Nat.le_trans (Nat.le_add_right _ 400) htb) (by simp)) ?_
   refine dprI_le (m := 2) (by omega) ?_
   rfl
  | e :: e2 :: r, h =>
   have he : (e :: e2 :: r)[0]? = some e := rfl
   have hg := last_at e e2 r
   have h2 : 2 ≤ (e :: e2 :: r).length := by simp
   obtain ⟨g, hgg⟩ : ∃ g, (e2 :: r).getLastD e2 = g := ⟨_, rfl⟩
   rw [hgg] at hg
   by_cases hc : common (tl d e) (tl d g) = 0
   ·rw [nd_fork f d e e2 r (by rw [hgg]; exact hc)] at htb ⊢
    rw [fork_halves (ndF f (d + 1)) h h2] at htb ⊢
    have hk : ∀ y ∈ ((List.range 16).map (hvI (ndF f (d + 1)) d (e :: e2 :: r)) ++ [.mk false (vlE d (e :: e2 :: r)) []] : List It), Kid y := fun y hy => by
     rcases List.mem_append.1 hy with hy | hy
     ·obtain ⟨k, _, rfl⟩ := List.mem_map.1 hy
      unfold hvI
      split
      ·exact kid_text _
      ·rename_i h0
       have hlen := List.length_filter_le (goes d (k : Int)) (e :: e2 :: r)
       exact kid_ref (IH (d + 1) _ (by omega) (h.going _ h0) (by omega)).1
     ·obtain rfl := List.mem_singleton.1 hy
      exact kid_text _
    have hfd := fork_deep hk (by simp)
    exact ⟨fit_list hk (by simp) (by omega) (dprI_le (by omega) hfd.2), fun _ _ _ _ _ _ => ⟨hfd.1, hfd.2⟩⟩
   ·refine ⟨?_, fun e' g' he' hg' _ hc' => ?_⟩
    ·rw [nd_bridge f d e e2 r _ (by rw [hgg]) hc] at htb ⊢
     have hok := common_ok h he hg
     have hend := common_ends d e g (h.sz _ e he).1 (h.sz _ g hg).1
     obtain ⟨h5, h6⟩ := IH _ _ (by omega) hok hn
     have h7 := h6 e g he hg h2 hend
     refine fit_list (fun y hy => ?_) (by simp) (Nat.le_trans (Nat.le_trans (Nat.le_add_right _ 400) htb) (by omega)) (bridge_deep h7)
     rcases List.mem_cons.1 hy with rfl | hy
     ·exact kid_text _
     ·obtain rfl := List.mem_singleton.1 hy
      exact kid_ref h5
    ·rw [he] at he'
     rw [hg] at hg'
     cases he'
     cases hg'
     exact absurd hc' hc
end Go.Proofs.YtbmapdkcccdmfaaGreatDoor
namespace Go.Proofs.YtbmapdkcccdmfaaGreatDoor
open Go.RowKit Go.Shelf Go.Sort

def Cl (A B : List ByteArray) : Prop := ∃ x ∈ A, ∃ y ∈ B, x ≠ y ∧ sumOf x = sumOf y
theorem Cl.mono {A B C D : List ByteArray} (h : Cl A B) (h1 : ∀ x ∈ A, x ∈ C) (h2 : ∀ x ∈ B, x ∈ D) : Cl C D := by
 obtain ⟨x, hx, y, hy, h⟩ := h
 exact ⟨x, h1 x hx, y, h2 y hy, h⟩
theorem path_same {d : Nat} {e m : Pr} (he : d ≤ e.1.size) (hm : d ≤ m.1.size) (hc : ∀ t, t < d → bt e.1 t = bt m.1 t) (ht : tl d e = tl d m) : e.1 = m.1 := by
 have hz := congrArg ByteArray.size ht
 rw [tl_size, tl_size] at hz
 refine ext_bt _ _ (by omega) fun j hj => ?_
 by_cases h : j < d
 ·exact hc j h
 ·have h1 := tl_bt d e (j - d) (by omega)
  have h2 := tl_bt d m (j - d) (by omega)
  rw [ht, h2] at h1
  rw [show d + (j - d) = j by omega] at h1
  exact h1.symm
theorem isP_tl {d : Nat} {es : List Pr} (h : Ok d es) {e : Pr} (he : e ∈ es) : isP (tl d e) = true := by
 refine (isP_iff _).2 fun j hj => ?_
 rw [tl_size] at hj
 rw [n_bt_eq, tl_bt d e j (by omega)]
 have := ((Ok_iff d es).1 h).2.2.2.2.2 e he (d + j)
 omega
theorem cut_bt (p : ByteArray) (a j : Nat) (ha : a ≤ p.size) (hj : j < a) : bt (p.extract 0 a) j = bt p j := by
 rw [← bt_get (p.extract 0 a) j (by rw [ByteArray.size_extract]; omega), ← bt_get p j (by omega), ByteArray.getElem_extract]
 simp only [Nat.zero_add]
theorem isP_cut {p : ByteArray} (h : isP p = true) (a : Nat) (ha : a ≤ p.size) : isP (p.extract 0 a) = true := by
 refine (isP_iff _).2 fun j hj => ?_
 rw [ByteArray.size_extract] at hj
 have := (isP_iff _).1 h j (by omega)
 rw [n_bt_eq, cut_bt p a j ha (by omega)]
 exact this
theorem nd_case {f d : Nat} {es : List Pr} (h : Ok d es) :
  (∃ e, es = [e]) ∨ (∃ e a, e ∈ es ∧ d + a ≤ e.1.size ∧ Ok (d + a) es ∧ 0 < a ∧ ndF (f + 1) d es = brN ((tl d e).extract 0 a) (ndF f (d + a) es)) ∨ (2 ≤ es.length ∧ ndF (f + 1) d es = fkN (ndF f (d + 1)) d es) := by
 match es, h with
 | [], h => exact absurd h.pos (by simp)
 | [e], h => exact .inl ⟨e, rfl⟩
 | e :: e2 :: r, h =>
  have he : (e :: e2 :: r)[0]? = some e := rfl
  have hg := last_at e e2 r
  obtain ⟨g, hgg⟩ : ∃ g, (e2 :: r).getLastD e2 = g := ⟨_, rfl⟩
  rw [hgg] at hg
  by_cases hc : common (tl d e) (tl d g) = 0
  ·exact .inr (.inr ⟨by simp, nd_fork f d e e2 r (by rw [hgg]; exact hc)⟩)
  ·have hs := (common_spec (tl d e) (tl d g)).1
   rw [tl_size] at hs
   have hd := (h.sz 0 e he).1
   exact .inr (.inl ⟨e, _, by simp, by omega, common_ok h he hg, by omega, nd_bridge f d e e2 r _ (by rw [hgg]) hc⟩)
theorem vlE_of {d : Nat} {es : List Pr} (h : Ok d es) {e : Pr} (he : e ∈ es) (hz : e.1.size = d) : vlE d es = e.2 := by
 obtain ⟨j, hj⟩ := List.getElem?_of_mem he
 match es, j, h, hj with
 | a :: r, 0, h, hj =>
  cases hj
  show (if e.1.size = d then e.2 else ⟨#[]⟩) = e.2
  rw [if_pos hz]
 | a :: r, j + 1, h, hj =>
  have := h.longer (i := 0) (j := j + 1) (by omega) rfl hj
  omega
theorem of_inj {a b : ByteArray} (h : ofOf a = ofOf b) : a = b := by
 have hz := congrArg ByteArray.size h
 rw [of_sz, of_sz] at hz
 refine ext_bt _ _ (by omega) fun j hj => ?_
 have h1 := of_bt a (2 * j) (by omega)
 have h2 := of_bt a (2 * j + 1) (by omega)
 have h3 := of_bt b (2 * j) (by omega)
 have h4 := of_bt b (2 * j + 1) (by omega)
 rw [if_pos (by omega), show 2 * j / 2 = j by omega] at h1 h3
 rw [if_neg (by omega), show (2 * j + 1) / 2 = j by omega] at h2 h4
 rw [h, h3] at h1
 rw [h, h4] at h2
 omega
theorem ok_srt {es : List Pr} (hr : RightP es) (h0 : es.length ≠ 0) : Ok 0 (ents (srt es)) :=
 ok_ents _ (by rw [(srt_perm es).length_eq]; omega) ((right_perm (srt_perm es)).2 hr) (srt_sorted es)
end Go.Proofs.YtbmapdkcccdmfaaGreatDoor
