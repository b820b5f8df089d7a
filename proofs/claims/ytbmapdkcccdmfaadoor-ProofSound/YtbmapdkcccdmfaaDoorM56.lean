/- Lemmas: Paths and forms are one to one. How the nodes of a trie are read again: pure. Whatever a walk from a trie's node comes to is what the trie has there, or two texts are unlike, and have one digest: pure. Whatever proves something under the root of pairs tells what they have, or two texts are unlike, and have one digest: pure. ProofSound's walk. -/
import Derived.Test.YtbmapdkcccdmfaaDoorM1
import Derived.Test.YtbmapdkcccdmfaaDoorM10
import Derived.Test.YtbmapdkcccdmfaaDoorM11
import Derived.Test.YtbmapdkcccdmfaaDoorM12
import Derived.Test.YtbmapdkcccdmfaaDoorM13
import Derived.Test.YtbmapdkcccdmfaaDoorM14
import Derived.Test.YtbmapdkcccdmfaaDoorM15
import Derived.Test.YtbmapdkcccdmfaaDoorM16
import Derived.Test.YtbmapdkcccdmfaaDoorM17
import Derived.Test.YtbmapdkcccdmfaaDoorM18
import Derived.Test.YtbmapdkcccdmfaaDoorM19
import Derived.Test.YtbmapdkcccdmfaaDoorM2
import Derived.Test.YtbmapdkcccdmfaaDoorM20
import Derived.Test.YtbmapdkcccdmfaaDoorM21
import Derived.Test.YtbmapdkcccdmfaaDoorM22
import Derived.Test.YtbmapdkcccdmfaaDoorM23
import Derived.Test.YtbmapdkcccdmfaaDoorM24
import Derived.Test.YtbmapdkcccdmfaaDoorM25
import Derived.Test.YtbmapdkcccdmfaaDoorM26
import Derived.Test.YtbmapdkcccdmfaaDoorM27
import Derived.Test.YtbmapdkcccdmfaaDoorM28
import Derived.Test.YtbmapdkcccdmfaaDoorM29
import Derived.Test.YtbmapdkcccdmfaaDoorM3
import Derived.Test.YtbmapdkcccdmfaaDoorM30
import Derived.Test.YtbmapdkcccdmfaaDoorM31
import Derived.Test.YtbmapdkcccdmfaaDoorM32
import Derived.Test.YtbmapdkcccdmfaaDoorM33
import Derived.Test.YtbmapdkcccdmfaaDoorM34
import Derived.Test.YtbmapdkcccdmfaaDoorM35
import Derived.Test.YtbmapdkcccdmfaaDoorM36
import Derived.Test.YtbmapdkcccdmfaaDoorM37
import Derived.Test.YtbmapdkcccdmfaaDoorM38
import Derived.Test.YtbmapdkcccdmfaaDoorM39
import Derived.Test.YtbmapdkcccdmfaaDoorM4
import Derived.Test.YtbmapdkcccdmfaaDoorM40
import Derived.Test.YtbmapdkcccdmfaaDoorM41
import Derived.Test.YtbmapdkcccdmfaaDoorM42
import Derived.Test.YtbmapdkcccdmfaaDoorM43
import Derived.Test.YtbmapdkcccdmfaaDoorM44
import Derived.Test.YtbmapdkcccdmfaaDoorM45
import Derived.Test.YtbmapdkcccdmfaaDoorM46
import Derived.Test.YtbmapdkcccdmfaaDoorM47
import Derived.Test.YtbmapdkcccdmfaaDoorM48
import Derived.Test.YtbmapdkcccdmfaaDoorM49
import Derived.Test.YtbmapdkcccdmfaaDoorM5
import Derived.Test.YtbmapdkcccdmfaaDoorM50
import Derived.Test.YtbmapdkcccdmfaaDoorM51
import Derived.Test.YtbmapdkcccdmfaaDoorM53
import Derived.Test.YtbmapdkcccdmfaaDoorM54
import Derived.Test.YtbmapdkcccdmfaaDoorM55
import Derived.Test.YtbmapdkcccdmfaaDoorM6
import Derived.Test.YtbmapdkcccdmfaaDoorM7
import Derived.Test.YtbmapdkcccdmfaaDoorM8
import Derived.Test.YtbmapdkcccdmfaaDoorM9
import Derived.Test.YtbmapdkcccdmfaaDoorRows
namespace Go.Proofs.YtbmapdkcccdmfaaDoor
open Go.RowKit Go.Sort

theorem of_path (s : ByteArray) : isP (ofOf s) = true := by
  refine (isP_iff _).2 fun j hj => ?_
  rw [of_size] at hj
  rw [bt_of _ _ hj]
  have := half_bd s j
  omega
/-- The first halves of a form. -/
theorem full_0 (p : ByteArray) (leaf : Bool) : n_bt (full p leaf) 0 = (if leaf then 2 else 0) + ((p.size % 2 : Nat) : Int) := by
  unfold full
  rw [n_bt_app, if_pos (by rw [hd_size]; omega)]
  cases leaf <;> unfold hdOf <;> by_cases h : p.size % 2 = 0
  · rw [if_pos h, h]; rfl
  · rw [if_neg h, show p.size % 2 = 1 by omega]; rfl
  · rw [if_pos h, h]; rfl
  · rw [if_neg h, show p.size % 2 = 1 by omega]; rfl
theorem full_1 (p : ByteArray) (leaf : Bool) (h : p.size % 2 = 0) : n_bt (full p leaf) 1 = 0 := by
  unfold full
  rw [n_bt_app, if_pos (by rw [hd_size]; omega)]
  cases leaf
  · rw [show hdOf p.size false = ⟨#[0, 0]⟩ from if_pos h]; rfl
  · rw [show hdOf p.size true = ⟨#[2, 0]⟩ from if_pos h]; rfl
theorem full_even (p : ByteArray) (leaf : Bool) : (full p leaf).size = 2 * ((full p leaf).size / 2) ∧ 2 ≤ (full p leaf).size ∧ (full p leaf).size = 2 - p.size % 2 + p.size := by
  rw [full_size, hd_size]
  omega
theorem n_fm_size (p : ByteArray) (leaf : Bool) : (fmOf p leaf).size = (full p leaf).size / 2 := n_by8_size _ _
theorem half_fm (p : ByteArray) (leaf : Bool) (h : isP p = true) (j : Nat) (hj : j < (full p leaf).size) : half (fmOf p leaf) j = n_bt (full p leaf) j := by
  have he := full_even p leaf
  unfold half fmOf
  rw [n_bt_by8 _ _ (fm_bd p leaf h) _ (by omega)]
  have h1 := full_le p leaf h (2 * (j / 2))
  have h2 := full_le p leaf h (2 * (j / 2) + 1)
  unfold fmAt
  by_cases e : j % 2 = 0
  · rw [if_pos e]
    rw [show 2 * (j / 2) = j by omega] at h1 h2 ⊢
    omega
  · rw [if_neg e]
    rw [show 2 * (j / 2) + 1 = j by omega] at h2 ⊢
    omega
/-- A form is read as it was. -/
theorem read_form (p : ByteArray) (leaf : Bool) (h : isP p = true) : rdS (fmOf p leaf) = p ∧ rdL (fmOf p leaf) = leaf ∧ rdE (fmOf p leaf) = 0 := by
  have he := full_even p leaf
  have hz := n_fm_size p leaf
  have h0 : half (fmOf p leaf) 0 = (if leaf then 2 else 0) + ((p.size % 2 : Nat) : Int) := by rw [half_fm p leaf h 0 (by omega), full_0]
  have hgood : rdGood (fmOf p leaf) = true := by
    unfold rdGood rgood
    rw [decide_eq_true (by omega), Bool.true_and, h0]
    by_cases e : p.size % 2 = 0
    · rw [half_fm p leaf h 1 (by omega), full_1 p leaf e, e]
      cases leaf <;> rfl
    · rw [show p.size % 2 = 1 by omega]
      cases leaf <;> rfl
  have hfrom : rfrom (half (fmOf p leaf)) = 2 - p.size % 2 := by
    unfold rfrom
    rw [h0]
    by_cases e : p.size % 2 = 0
    · rw [e]; cases leaf <;> rfl
    · rw [show p.size % 2 = 1 by omega]; cases leaf <;> rfl
  refine ⟨?_, ?_, ?_⟩
  · unfold rdS
    rw [if_pos hgood, hfrom, hz]
    refine n_ext_bt _ _ (by rw [n_by8_size]; omega) fun j hj => ?_
    rw [n_by8_size] at hj
    rw [n_bt_by8 _ _ (fun j => by have := half_bd (fmOf p leaf) (2 - p.size % 2 + j); omega) j hj, half_fm p leaf h _ (by omega)]
    unfold full
    rw [n_bt_app, if_neg (by rw [hd_size]; omega), hd_size, show 2 - p.size % 2 + j - (2 - p.size % 2) = j by omega]
  · unfold rdL
    rw [hgood, h0, Bool.true_and]
    by_cases e : p.size % 2 = 0
    · rw [e]; cases leaf <;> rfl
    · rw [show p.size % 2 = 1 by omega]; cases leaf <;> rfl
  · unfold rdE
    rw [if_pos hgood]

theorem rd_size (s : ByteArray) (h : rdGood s = true) : (rdS s).size = 2 * s.size - rfrom (half s) := by
  unfold rdS
  rw [if_pos h, n_by8_size]
theorem bt_rd (s : ByteArray) (h : rdGood s = true) (j : Nat) (hj : j < 2 * s.size - rfrom (half s)) : n_bt (rdS s) j = half s (rfrom (half s) + j) := by
  unfold rdS
  rw [if_pos h, n_bt_by8 _ _ (fun j => by have := half_bd s (rfrom (half s) + j); omega) j hj]
theorem rd_path (s : ByteArray) : isP (rdS s) = true := by
  refine (isP_iff _).2 fun j hj => ?_
  cases h : rdGood s with
  | true =>
    rw [rd_size s h] at hj
    rw [bt_rd s h j hj]
    have := half_bd s (rfrom (half s) + j)
    omega
  | false =>
    have : rdS s = ⟨#[]⟩ := by unfold rdS; rw [h]; rfl
    rw [this] at hj
    exact absurd hj (Nat.not_lt_zero _)
/-- What is read stands in a form as it stood. -/
theorem full_rd (s : ByteArray) (h : rdGood s = true) : (full (rdS s) (rdL s)).size = 2 * s.size ∧ ∀ j, j < 2 * s.size → n_bt (full (rdS s) (rdL s)) j = half s j := by
  have hz := rd_size s h
  have hg := h
  unfold rdGood rgood at hg
  simp only [Bool.and_eq_true, Bool.or_eq_true, decide_eq_true_eq] at hg
  obtain ⟨hs0, h3, h1⟩ := hg
  have hb := half_bd s 0
  have hfr : (rfrom (half s) = 2 ∧ half s 0 % 2 = 0) ∨ (rfrom (half s) = 1 ∧ half s 0 % 2 = 1) := by
    unfold rfrom
    by_cases e : half s 0 % 2 = 0
    · rw [if_pos e]; exact .inl ⟨rfl, e⟩
    · rw [if_neg e]; exact .inr ⟨rfl, by omega⟩
  have hL : rdL s = decide (half s 0 / 2 % 2 = 1) := by unfold rdL; rw [h, Bool.true_and]
  have hhs : (hdOf (rdS s).size (rdL s)).size = rfrom (half s) := by
    rw [hd_size, hz]
    omega
  have hfull : (full (rdS s) (rdL s)).size = 2 * s.size := by
    rw [full_size, hhs, hz]
    omega
  refine ⟨hfull, fun j hj => ?_⟩
  by_cases hj2 : j < rfrom (half s)
  · by_cases e0 : j = 0
    · subst e0
      rw [full_0, hL, hz]
      by_cases e : half s 0 / 2 % 2 = 1
      · rw [decide_eq_true e]
        show (2 : Int) + _ = _
        omega
      · rw [decide_eq_false e]
        show (0 : Int) + _ = _
        omega
    · have e1 : j = 1 := by omega
      subst e1
      rw [full_1 _ _ (by rw [hz]; omega)]
      rcases h1 with h1 | h1
      · omega
      · exact h1.symm
  · unfold full
    rw [n_bt_app, if_neg (by rw [hhs]; exact hj2), hhs, bt_rd s h _ (by omega), show rfrom (half s) + (j - rfrom (half s)) = j by omega]
/-- .. and is written so again. -/
theorem form_read (s : ByteArray) (h : rdGood s = true) : fmS (rdS s) (rdL s) = s := by
  obtain ⟨h1, h2⟩ := full_rd s h
  unfold fmS
  rw [if_pos (rd_path s)]
  refine n_ext_bt _ _ (by rw [n_fm_size, h1]; omega) fun j hj => ?_
  rw [n_fm_size, h1] at hj
  unfold fmOf
  rw [n_bt_by8 _ _ (fm_bd _ _ (rd_path s)) j (by rw [h1]; omega)]
  unfold fmAt
  rw [h2 _ (by omega), h2 _ (by omega)]
  unfold half
  have := n_bt_bd s j
  rw [if_pos (by omega), if_neg (by omega), show 2 * j / 2 = j by omega, show (2 * j + 1) / 2 = j by omega]
  omega
theorem rd_le (s : ByteArray) : (rdS s).size ≤ 2 * s.size := by
  cases h : rdGood s with
  | true => rw [rd_size s h]; omega
  | false => unfold rdS; rw [h]; exact Nat.zero_le _

end Go.Proofs.YtbmapdkcccdmfaaDoor
namespace Go.Proofs.YtbmapdkcccdmfaaDoor
open Go.RowKit Go.Shelf Go.Sort

theorem snoc_keep (p : ByteArray) (q : ByteArray) (r : PR) : ∀ (s : PS) (z : PR × ByteArray), stepTo p s = some z → stepTo p (s.snoc q r) = some z
  | .nil, _, h => by cases h
  | .cons q' r' s, z, h => by
    show (if pfB p q' then some (r', pfR p q') else stepTo p (s.snoc q r)) = some z
    have h' : (if pfB p q' then some (r', pfR p q') else stepTo p s) = some z := h
    split at h'
    · next hp => rw [if_pos hp]; exact h'
    · next hp => rw [if_neg hp]; exact snoc_keep p q r s z h'
theorem snoc_none (p : ByteArray) (q : ByteArray) (r : PR) : ∀ (s : PS), stepTo p s = none → stepTo p (s.snoc q r) = if pfB p q then some (r, pfR p q) else none
  | .nil, _ => rfl
  | .cons q' r' s, h => by
    show (if pfB p q' then some (r', pfR p q') else stepTo p (s.snoc q r)) = _
    have h' : (if pfB p q' then some (r', pfR p q') else stepTo p s) = none := h
    split at h'
    · cases h'
    · next hp => rw [if_neg hp]; exact snoc_none p q r s h'
theorem qst_keep (p : ByteArray) : ∀ (xs : List It) (rs : List (Option PR)) (i : Nat) (s t : PS) (z : PR × ByteArray), stepTo p s = some z → qfkS i s xs rs = some t → stepTo p t = some z
  | [], _, _, s, t, z, hs, h => by
    have : some s = some t := h
    cases this
    exact hs
  | _ :: _, [], _, _, _, _, _, h => by cases h
  | x :: xs, r :: rs, i, s, t, z, hs, h => by
    cases r with
    | none =>
      have h' : (if x.l = false ∧ x.t.size = 0 then qfkS (i + 1) s xs rs else none) = some t := h
      split at h'
      · exact qst_keep p xs rs (i + 1) s t z hs h'
      · cases h'
    | some q =>
      have h' : (if x.l = false ∧ x.t.size = 0 then qfkS (i + 1) s xs rs else qfkS (i + 1) (s.snoc (b1 i) q) xs rs) = some t := h
      split at h'
      · exact qst_keep p xs rs (i + 1) s t z hs h'
      · exact qst_keep p xs rs (i + 1) _ t z (snoc_keep p _ q s z hs) h'
/-- Whither a list of 17 goes on by a half. -/
theorem qst (p : ByteArray) (g : Nat) (hp : ∀ i, i < 16 → pfB p (b1 i) = decide (i = g)) : ∀ (xs : List It) (rs : List (Option PR)) (i : Nat) (s t : PS), i + xs.length ≤ 16 → stepTo p s = none → qfkS i s xs rs = some t →
    (g < i → stepTo p t = none) ∧ (i ≤ g → ∀ x, xs[g - i]? = some x → ((x.l = false ∧ x.t.size = 0) ∧ stepTo p t = none) ∨ (¬ (x.l = false ∧ x.t.size = 0) ∧ ∃ q, rs[g - i]? = some (some q) ∧ stepTo p t = some (q, pfR p (b1 g))))
  | [], _, _, s, t, _, hs, h => by
    have : some s = some t := h
    cases this
    exact ⟨fun _ => hs, fun _ x hx => by cases hx⟩
  | _ :: _, [], _, _, _, _, _, h => by cases h
  | x :: xs, r :: rs, i, s, t, hl, hs, h => by
    rw [List.length_cons] at hl
    have idx : i + 1 ≤ g → g - i = (g - (i + 1)) + 1 := fun h => by omega
    have tail : ∀ (s' : PS), stepTo p s' = none → qfkS (i + 1) s' xs rs = some t → (g < i → stepTo p t = none) ∧ (i + 1 ≤ g → ∀ y, (x :: xs)[g - i]? = some y → ((y.l = false ∧ y.t.size = 0) ∧ stepTo p t = none) ∨ (¬ (y.l = false ∧ y.t.size = 0) ∧ ∃ q, (r :: rs)[g - i]? = some (some q) ∧ stepTo p t = some (q, pfR p (b1 g)))) ∧ (g = i → stepTo p t = none) := fun s' hs' h' => by
      obtain ⟨h1, h2⟩ := qst p g hp xs rs (i + 1) s' t (by omega) hs' h'
      refine ⟨fun h => h1 (by omega), fun h y hy => ?_, fun h => h1 (by omega)⟩
      rw [idx h, List.getElem?_cons_succ] at hy
      rw [idx h, List.getElem?_cons_succ]
      exact h2 h y hy
    by_cases hz : x.l = false ∧ x.t.size = 0
    · have h' : qfkS (i + 1) s xs rs = some t := by
        cases r with
        | none => have h' : (if x.l = false ∧ x.t.size = 0 then qfkS (i + 1) s xs rs else none) = some t := h; rw [if_pos hz] at h'; exact h'
        | some q => have h' : (if x.l = false ∧ x.t.size = 0 then qfkS (i + 1) s xs rs else qfkS (i + 1) (s.snoc (b1 i) q) xs rs) = some t := h; rw [if_pos hz] at h'; exact h'
      obtain ⟨t1, t2, t3⟩ := tail s hs h'
      refine ⟨t1, fun hg y hy => ?_⟩
      by_cases hgi : g = i
      · rw [hgi, Nat.sub_self] at hy
        have : x = y := Option.some.inj hy
        subst this
        exact .inl ⟨hz, t3 hgi⟩
      · exact t2 (by omega) y hy
    · cases r with
      | none => have h' : (if x.l = false ∧ x.t.size = 0 then qfkS (i + 1) s xs rs else none) = some t := h; rw [if_neg hz] at h'; cases h'
      | some q =>
        have h' : (if x.l = false ∧ x.t.size = 0 then qfkS (i + 1) s xs rs else qfkS (i + 1) (s.snoc (b1 i) q) xs rs) = some t := h
        rw [if_neg hz] at h'
        have hsn := snoc_none p (b1 i) q s hs
        rw [hp i (by omega)] at hsn
        by_cases hgi : i = g
        · rw [decide_eq_true hgi, if_pos rfl] at hsn
          have hk := qst_keep p xs rs (i + 1) _ t _ hsn h'
          refine ⟨fun h => by omega, fun _ y hy => .inr ?_⟩
          rw [← hgi, Nat.sub_self] at hy
          have : x = y := Option.some.inj hy
          subst this
          refine ⟨hz, q, by rw [← hgi, Nat.sub_self]; rfl, ?_⟩
          rw [hk, hgi]
        · rw [decide_eq_false hgi, if_neg (by decide)] at hsn
          obtain ⟨t1, t2, t3⟩ := tail _ hsn h'
          exact ⟨t1, fun hg y hy => t2 (by omega) y hy⟩
theorem fit_nd {x : It} (h : Fit x) : ndOf (eS x) = rdN x := nd_enc h.eS.symm h.e0 (dprI_le (by omega) h.d6) (eS_size x)
theorem fit_l {x : It} (h : Fit x) : x.l = true := by
  obtain ⟨xs, rfl⟩ := h.ls
  rfl
/-- A walk on by what stands for a node of the trie: at that node, or two texts are unlike, and have one digest. -/
theorem wk_ref {k : Nat} {x : It} {r : PR} {p v : ByteArray} {ts : List ByteArray} (hf : Fit x) (hr : rdR (refI x) = some r) (hw : wkF k r p ts = (v, true)) :
    (∃ n us, rdN x = some n ∧ wkF k (.win n) p us = (v, true) ∧ ∀ u ∈ us, u ∈ ts) ∨ (¬ (eS x).size < 32 ∧ ∃ u ∈ ts, eS x ≠ u ∧ sumOf (eS x) = sumOf u) := by
  unfold refI at hr
  split at hr
  · rw [rdR_list x (fit_l hf), Option.map_eq_some_iff] at hr
    obtain ⟨n, hn, rfl⟩ := hr
    exact .inl ⟨n, ts, hn, hw, fun _ h => h⟩
  · next hs =>
    rw [rdR_text _ rfl] at hr
    unfold dgR at hr
    split at hr
    · cases hr
      cases k with
      | zero => cases hw
      | succ k =>
        cases ha : askN (sumOf (eS x)) ts with
        | none =>
          unfold wkF atN at hw
          have hw' : (match (askN (sumOf (eS x)) ts).map (fun n => (n, ts.tail)) with | none => ((⟨#[]⟩ : ByteArray), false) | some (n, ts') => if p = n.path then (n.val, ts'.isEmpty) else match stepTo p n.ss with | none => (⟨#[]⟩, ts'.isEmpty) | some (r, rest) => wkF k r rest ts') = (v, true) := hw
          rw [ha] at hw'
          cases hw'
        | some n =>
          obtain ⟨u, us, rfl, hu, hn⟩ := askN_sum ha
          by_cases he : eS x = u
          · refine .inl ⟨n, us, ?_, ?_, fun y hy => List.mem_cons_of_mem _ hy⟩
            · rw [← fit_nd hf, he]; exact hn
            · rw [wk_win]
              have hw2 := hw
              rw [show (It.mk false (sumOf (eS x)) []).t = sumOf (eS x) from rfl, wk_dig k _ p u us n ha, wk_win] at hw2
              exact hw2
          · exact .inr ⟨hs, u, List.mem_cons_self .., he, hu.symm⟩
    · cases hr
end Go.Proofs.YtbmapdkcccdmfaaDoor
namespace Go.Proofs.YtbmapdkcccdmfaaDoor
open Go.RowKit Go.Shelf Go.Sort

/-- What entries have at a path. -/
def Tells (es : List Pr) (q v : ByteArray) : Prop := (∃ e ∈ es, e.1 = q ∧ v = e.2) ∨ ((∀ e ∈ es, e.1 ≠ q) ∧ v = ⟨#[]⟩)
theorem rd_fm {p : ByteArray} {l : Bool} (h : isP p = true) : rdGood (fmS p l) = true ∧ rdS (fmS p l) = p ∧ rdL (fmS p l) = l := by
  obtain ⟨h1, h2, h3⟩ := read_form p l h
  have : fmS p l = fmOf p l := by unfold fmS; rw [if_pos h]
  rw [this]
  refine ⟨?_, h1, h2⟩
  unfold rdE at h3
  split at h3
  · next hg => exact hg
  · cases h3
theorem lb_leaf {p : ByteArray} {b : It} {r : Option PR} {n : PN} (h : isP p = true) (hn : lbN (.mk false (fmS p true) []) b r = some n) : n = .mk p b.t .nil := by
  obtain ⟨h1, h2, h3⟩ := rd_fm (l := true) h
  have hn' : (if rdGood (fmS p true) then (if rdL (fmS p true) then (if 0 < b.t.size then some (PN.mk (rdS (fmS p true)) b.t .nil) else none) else if 0 < (rdS (fmS p true)).size then r.map (fun q => PN.mk ⟨#[]⟩ ⟨#[]⟩ (.cons (rdS (fmS p true)) q .nil)) else none) else none) = some n := hn
  rw [if_pos h1, if_pos h3, h2] at hn'
  split at hn'
  · exact (Option.some.inj hn').symm
  · cases hn'
theorem lb_bridge {p : ByteArray} {b : It} {r : Option PR} {n : PN} (h : isP p = true) (hn : lbN (.mk false (fmS p false) []) b r = some n) : ∃ q, r = some q ∧ n = .mk ⟨#[]⟩ ⟨#[]⟩ (.cons p q .nil) := by
  obtain ⟨h1, h2, h3⟩ := rd_fm (l := false) h
  have hn' : (if rdGood (fmS p false) then (if rdL (fmS p false) then (if 0 < b.t.size then some (PN.mk (rdS (fmS p false)) b.t .nil) else none) else if 0 < (rdS (fmS p false)).size then r.map (fun q => PN.mk ⟨#[]⟩ ⟨#[]⟩ (.cons (rdS (fmS p false)) q .nil)) else none) else none) = some n := hn
  rw [if_pos h1, if_neg (by rw [h3]; decide), h2] at hn'
  split at hn'
  · rw [Option.map_eq_some_iff] at hn'
    obtain ⟨q, hq, rfl⟩ := hn'
    exact ⟨q, hq, rfl⟩
  · cases hn'
theorem rdN_two (t : ByteArray) (a b : It) : rdN (.mk true t [a, b]) = lbN a b (rdR b) := by
  show asmN [a, b] (rdRs [a, b]) = _
  rw [rdRs_map]
  unfold asmN
  rw [if_pos (show [a, b].length = 2 from rfl)]
  rfl
theorem rdN_fork (t : ByteArray) (xs : List It) (hx : xs.length = 16) (v : It) : rdN (.mk true t (xs ++ [v])) = qfkN xs v (xs.map rdR) := by
  show asmN (xs ++ [v]) (rdRs (xs ++ [v])) = _
  have hl : (xs ++ [v]).length = 17 := by rw [List.length_append, hx]; rfl
  rw [rdRs_map]
  unfold asmN
  rw [if_neg (by omega), if_pos hl, List.map_append]
  have h1 : (xs ++ [v]).take 16 = xs := by rw [← hx, List.take_left']; rfl
  have h2 : (xs.map rdR ++ [v].map rdR).take 16 = xs.map rdR := by rw [List.take_left' (by rw [List.length_map, hx])]
  have h3 : (xs ++ [v]).getD 16 (.mk false ⟨#[]⟩ []) = v := by
    rw [List.getD_eq_getElem?_getD, List.getElem?_append_right (by omega), hx]
    rfl
  rw [h1, h2, h3]
theorem b1_one (i : Nat) : b1 i = oneB (i : Int) := rfl
theorem ex_size (q : ByteArray) (d : Nat) : (q.extract d q.size).size = q.size - d := by rw [ByteArray.size_extract]; omega
theorem ex_empty {q : ByteArray} {d : Nat} (hd : d ≤ q.size) (h : q.extract d q.size = ⟨#[]⟩) : q.size = d := by
  have := congrArg ByteArray.size h
  rw [ex_size] at this
  have h0 : (⟨#[]⟩ : ByteArray).size = 0 := rfl
  omega
theorem vlE_none {d : Nat} {es : List Pr} (h : ∀ e ∈ es, e.1.size ≠ d) : vlE d es = ⟨#[]⟩ := by
  cases es with
  | nil => rfl
  | cons a r =>
    show (if a.1.size = d then a.2 else ⟨#[]⟩) = _
    rw [if_neg (h a (by simp))]
/-- A clash, told by the walk's texts. -/
theorem cl_ref {X : Nd} {ts : List ByteArray} (h : ¬ (eS X.x).size < 32 ∧ ∃ u ∈ ts, eS X.x ≠ u ∧ sumOf (eS X.x) = sumOf u) : Cl (allN X) ts := by
  obtain ⟨h1, u, hu, hne, hs⟩ := h
  exact ⟨_, own_in h1, u, hu, hne, hs⟩
theorem sound_in : ∀ (f d : Nat) (es : List Pr), 129 ≤ f + d → Ok d es → es.length ≤ 40 → ∀ (q : ByteArray), d ≤ q.size → isP q = true → (∀ e ∈ es, ∀ t, t < d → bt e.1 t = bt q t) →
    ∀ (k : Nat) (n : PN) (ts : List ByteArray) (v : ByteArray), rdN (ndF f d es).x = some n → wkF k (.win n) (q.extract d q.size) ts = (v, true) → Tells es q v ∨ Cl (allN (ndF f d es)) ts := by
  intro f
  induction f with
  | zero =>
    intro d es hf h
    obtain ⟨e, r, rfl⟩ : ∃ e r, es = e :: r := by
      cases es with
      | nil => exact absurd h.pos (by simp)
      | cons e r => exact ⟨e, r, rfl⟩
    have := h.sz 0 e rfl
    omega
  | succ f IH =>
    intro d es hf h hl q hd hq hc k n ts v hn hw
    have hsz := ((Ok_iff d es).1 h).2.2.1
    cases k with
    | zero => cases hw
    | succ k =>
    rw [wk_win] at hw
    rcases nd_case (f := f) h with ⟨e, rfl⟩ | ⟨e, a, he, ha, hok, h0, heq⟩ | ⟨h2, heq⟩
    · have hx : (ndF (f + 1) d [e]).x = .mk true ⟨#[]⟩ [.mk false (fmS (tl d e) true) [], .mk false e.2 []] := rfl
      rw [hx, rdN_two] at hn
      have hn' := hn
      obtain rfl := lb_leaf (isP_tl h (by simp)) hn'
      have hw' : (if q.extract d q.size = tl d e then (e.2, ts.isEmpty) else (⟨#[]⟩, ts.isEmpty)) = (v, true) := hw
      refine .inl ?_
      split at hw'
      · next hp =>
        injection hw' with e1 _
        refine .inl ⟨e, by simp, path_same (m := (q, v)) (hsz e (by simp)).1 hd (hc e (by simp)) hp.symm, e1.symm⟩
      · next hp =>
        injection hw' with e1 _
        refine .inr ⟨fun y hy hyq => ?_, e1.symm⟩
        obtain rfl := List.mem_singleton.1 hy
        apply hp
        unfold tl
        rw [hyq]
    · rw [heq] at hn ⊢
      have hip := isP_cut (isP_tl h he) a (by rw [tl_size]; omega)
      obtain ⟨b, hb⟩ : ∃ b, (tl d e).extract 0 a = b := ⟨_, rfl⟩
      have hbz : b.size = a := by rw [← hb, ByteArray.size_extract, tl_size]; omega
      rw [hb] at hn hip
      have hx : (brN b (ndF f (d + a) es)).x = .mk true ⟨#[]⟩ [.mk false (fmS b false) [], refI (ndF f (d + a) es).x] := rfl
      rw [hx, rdN_two] at hn
      have hn' := hn
      obtain ⟨r, hr, rfl⟩ := lb_bridge hip hn'
      have hal := ((Ok_iff (d + a) es).1 hok).2.2.2.2.1
      have hsz' := ((Ok_iff (d + a) es).1 hok).2.2.1
      have hw' : (if q.extract d q.size = ⟨#[]⟩ then ((⟨#[]⟩ : ByteArray), ts.isEmpty) else match (if pfB (q.extract d q.size) b then some (r, pfR (q.extract d q.size) b) else none) with | none => (⟨#[]⟩, ts.isEmpty) | some (r, rest) => wkF k r rest ts) = (v, true) := hw
      have hpf : pfB (q.extract d q.size) b = decide (d + b.size ≤ q.size ∧ q.extract d (d + b.size) = b) := pfx_iff b q d (by omega)
      have hbb : ∀ t, d ≤ t → t < d + a → bt e.1 t = bt b (t - d) := fun t h1 h2 => by
        rw [← hb, cut_bt (tl d e) a (t - d) (by rw [tl_size]; omega) (by omega), tl_bt d e _ (by omega), show d + (t - d) = t by omega]
      split at hw'
      · next hp =>
        injection hw' with e1 _
        have hqd := ex_empty hd hp
        refine .inl (.inr ⟨fun y hy hyq => ?_, e1.symm⟩)
        have := (hsz' y hy).1
        rw [hyq] at this
        omega
      · by_cases hpb : pfB (q.extract d q.size) b = true
        · rw [if_pos hpb] at hw'
          have hw2 : wkF k r (pfR (q.extract d q.size) b) ts = (v, true) := hw'
          have hrs : pfR (q.extract d q.size) b = q.extract (d + a) q.size := by
            rw [← hbz]
            exact rst_ext b q d hpb
          rw [hrs] at hw2
          have hpd := hpb
          rw [hpf, decide_eq_true_eq, hbz] at hpd
          have hup : ∀ x ∈ allN (ndF f (d + a) es), x ∈ allN (brN b (ndF f (d + a) es)) := fun x hx => by
            refine below_in x ?_
            show x ∈ allN _ ++ []
            rw [List.append_nil]
            exact hx
          rcases wk_ref (nd_fit f (d + a) es (by omega) hok hl).1 hr hw2 with ⟨n2, us, h3, h4, h5⟩ | h3
          · rcases IH (d + a) es (by omega) hok hl q hpd.1 hq (fun x hx t ht => by
              by_cases htd : t < d
              · exact hc x hx t htd
              · rw [hal x hx e he t ht, hbb t (by omega) ht]
                have this : bt (q.extract d (d + a)) (t - d) = bt b (t - d) := by rw [hpd.2]
                rw [← this, ← bt_get _ (t - d) (by rw [ByteArray.size_extract]; omega), ByteArray.getElem_extract, bt_get, show d + (t - d) = t by omega]) k n2 us v h3 h4 with h6 | h6
            · exact .inl h6
            · exact .inr (hb ▸ h6.mono hup h5)
          · exact .inr (hb ▸ (cl_ref h3).mono hup (fun _ h => h))
        · rw [if_neg hpb] at hw'
          have hw2 : ((⟨#[]⟩ : ByteArray), ts.isEmpty) = (v, true) := hw'
          injection hw2 with e1 _
          refine .inl (.inr ⟨fun y hy hyq => hpb ?_, e1.symm⟩)
          have hyz := (hsz' y hy).1
          rw [hpf, decide_eq_true_eq, hbz]
          rw [hyq] at hyz
          refine ⟨hyz, ext_bt _ _ (by rw [ByteArray.size_extract]; omega) fun j hj => ?_⟩
          rw [ByteArray.size_extract] at hj
          rw [← bt_get _ j (by rw [ByteArray.size_extract]; omega), ByteArray.getElem_extract, bt_get, ← hyq, hal y hy e he (d + j) (by omega), hbb (d + j) (by omega) (by omega), show d + j - d = j by omega]
    · rw [heq] at hn ⊢
      rw [fork_halves _ h h2, rdN_fork _ _ (by simp)] at hn
      obtain ⟨C, hC⟩ : ∃ C, allS (fkN (ndF f (d + 1)) d es).ss = C := ⟨_, rfl⟩
      have hcl : ∀ y ∈ C, y ∈ allN (fkN (ndF f (d + 1)) d es) := fun y hy => below_in y (hC ▸ hy)
      rw [allS_fork _ h h2] at hC
      obtain ⟨X, hX⟩ : ∃ X, (List.range 16).map (hvI (ndF f (d + 1)) d es) = X := ⟨_, rfl⟩
      rw [hX] at hn
      unfold qfkN at hn
      rw [if_neg (by show ¬ false = true; decide), Option.map_eq_some_iff] at hn
      obtain ⟨s, hs, rfl⟩ := hn
      have hw' : (if q.extract d q.size = ⟨#[]⟩ then (vlE d es, ts.isEmpty) else match stepTo (q.extract d q.size) s with | none => (⟨#[]⟩, ts.isEmpty) | some (r, rest) => wkF k r rest ts) = (v, true) := hw
      split at hw'
      · next hp =>
        injection hw' with e1 _
        have hqd := ex_empty hd hp
        refine .inl ?_
        by_cases hex : ∃ y ∈ es, y.1.size = d
        · obtain ⟨y, hy, hyz⟩ := hex
          refine .inl ⟨y, hy, ext_bt _ _ (by omega) fun t ht => hc y hy t (by omega), ?_⟩
          rw [← e1, vlE_of h hy hyz]
        · refine .inr ⟨fun y hy hyq => hex ⟨y, hy, by rw [hyq]; exact hqd⟩, ?_⟩
          rw [← e1, vlE_none fun y hy hyz => hex ⟨y, hy, hyz⟩]
      · next hp =>
        have hqd : d < q.size := by
          rcases Nat.lt_or_ge d q.size with h | h
          · exact h
          · exfalso
            apply hp
            refine ext_bt _ _ (by rw [ex_size]; show _ = 0; omega) fun j hj => ?_
            rw [ex_size] at hj
            omega
        have hqb := (isP_iff q).1 hq d hqd
        rw [n_bt_eq] at hqb
        have hqb0 : 0 ≤ bt q d := by unfold bt; exact Int.natCast_nonneg _
        obtain ⟨g, hg⟩ : ∃ g : Nat, bt q d = (g : Int) := ⟨(bt q d).toNat, by omega⟩
        have hg16 : g < 16 := by omega
        have hpi : ∀ i, i < 16 → pfB (q.extract d q.size) (b1 i) = decide (i = g) := fun i hi => by
          have := one_pfx (i : Int) ⟨by omega, by omega⟩ q d
          rw [b1_one]
          refine Eq.trans this ?_
          by_cases hig : i = g
          · rw [decide_eq_true hig, decide_eq_true ⟨hqd, by omega⟩]
          · rw [decide_eq_false hig, decide_eq_false (fun hh => hig (by have := hh.2; omega))]
        have hXg : X[g]? = some (hvI (ndF f (d + 1)) d es g) := by
          rw [← hX, List.getElem?_map, List.getElem?_range hg16]
          rfl
        have gs : ∀ {x : Pr}, x ∈ es.filter (goes d (g : Int)) → x ∈ es ∧ bt x.1 d = (g : Int) := fun hx => by
          obtain ⟨h8, h9⟩ := List.mem_filter.1 hx
          unfold goes at h9
          rw [Bool.and_eq_true] at h9
          exact ⟨h8, of_decide_eq_true h9.2⟩
        have gi : ∀ y ∈ es, y.1 = q → y ∈ es.filter (goes d (g : Int)) := fun y hy hyq => by
          refine List.mem_filter.2 ⟨hy, ?_⟩
          unfold goes
          rw [hyq, decide_eq_true hqd, decide_eq_true hg]
          rfl
        have hfin := (qst (q.extract d q.size) g hpi X (X.map rdR) 0 .nil s (by rw [← hX]; simp) rfl hs).2 (Nat.zero_le _) _ hXg
        rw [Nat.sub_zero] at hfin
        by_cases hne : (es.filter (goes d (g : Int))).length = 0
        · have hz : hvI (ndF f (d + 1)) d es g = zIt := by unfold hvI; rw [if_pos hne]
          rw [hz] at hfin
          rcases hfin with ⟨_, hst⟩ | ⟨hnz, _⟩
          · rw [hst] at hw'
            have hw2 : ((⟨#[]⟩ : ByteArray), ts.isEmpty) = (v, true) := hw'
            injection hw2 with e1 _
            refine .inl (.inr ⟨fun y hy hyq => ?_, e1.symm⟩)
            have := gi y hy hyq
            rw [List.length_eq_zero_iff.1 hne] at this
            cases this
          · exact absurd ⟨rfl, rfl⟩ hnz
        · have hz : hvI (ndF f (d + 1)) d es g = refI (ndF f (d + 1) (es.filter (goes d (g : Int)))).x := by unfold hvI; rw [if_neg hne]
          have hl1 := List.length_filter_le (goes d (g : Int)) es
          have hok := h.going (g : Int) hne
          have hfit := (nd_fit f (d + 1) _ (by omega) hok (by omega)).1
          rw [hz] at hfin
          rcases hfin with ⟨⟨hz1, hz2⟩, _⟩ | ⟨_, r, hr, hst⟩
          · exfalso
            unfold refI at hz1 hz2
            split at hz1
            · rw [fit_l hfit] at hz1
              cases hz1
            · next hs32 =>
              rw [if_neg hs32] at hz2
              have : (sumOf (eS (ndF f (d + 1) (es.filter (goes d (g : Int)))).x)).size = 0 := hz2
              rw [sum_size] at this
              cases this
          · rw [List.getElem?_map, hXg, hz] at hr
            have hr2 : rdR (refI (ndF f (d + 1) (es.filter (goes d (g : Int)))).x) = some r := Option.some.inj hr
            rw [hst] at hw'
            have hw2 : wkF k r (pfR (q.extract d q.size) (b1 g)) ts = (v, true) := hw'
            have hrs : pfR (q.extract d q.size) (b1 g) = q.extract (d + 1) q.size := rst_ext (b1 g) q d ((hpi g hg16).trans (decide_eq_true rfl))
            rw [hrs] at hw2
            have hup : ∀ y ∈ allN (ndF f (d + 1) (es.filter (goes d (g : Int)))), y ∈ allN (fkN (ndF f (d + 1)) d es) := fun y hy => by
              refine hcl y ?_
              rw [← hC]
              exact List.mem_flatMap.2 ⟨g, List.mem_range.2 hg16, by rw [if_neg hne]; exact hy⟩
            rcases wk_ref hfit hr2 hw2 with ⟨n2, us, h3, h4, h5⟩ | h3
            · rcases IH (d + 1) _ (by omega) hok (by omega) q (by omega) hq (fun x hx t ht => by
                obtain ⟨x1, x2⟩ := gs hx
                by_cases htd : t < d
                · exact hc x x1 t htd
                · obtain rfl : t = d := by omega
                  rw [x2, hg]) k n2 us v h3 h4 with h6 | h6
              · rcases h6 with ⟨y, hy, hyq, hyv⟩ | ⟨hno, hv0⟩
                · exact .inl (.inl ⟨y, (gs hy).1, hyq, hyv⟩)
                · exact .inl (.inr ⟨fun y hy hyq => hno y (gi y hy hyq) hyq, hv0⟩)
              · exact .inr (h6.mono hup h5)
            · exact .inr ((cl_ref h3).mono hup (fun _ h => h))
end Go.Proofs.YtbmapdkcccdmfaaDoor
namespace Go.Proofs.YtbmapdkcccdmfaaDoor
open Go.RowKit Go.Shelf Go.Sort

theorem pl_none : ∀ {es : List Pr} {key : ByteArray}, (∀ e ∈ es, e.1 ≠ key) → plE es key = (⟨#[]⟩, false)
  | [], _, _ => rfl
  | e :: es, key, h => by
    rw [plE, if_neg (h e (by simp))]
    exact pl_none fun x hx => h x (by simp [hx])
theorem pl_some : ∀ {es : List Pr} {key : ByteArray} {e : Pr}, (∀ (j k : Nat) (e f : Pr), j < k → es[j]? = some e → es[k]? = some f → e.1 ≠ f.1) → e ∈ es → e.1 = key → plE es key = (e.2, true)
  | [], _, _, _, h, _ => by cases h
  | a :: es, key, e, hd, h, hk => by
    rw [plE]
    rcases List.mem_cons.1 h with rfl | h
    · rw [if_pos hk]
    · obtain ⟨j, hj⟩ := List.getElem?_of_mem h
      have := hd 0 (j + 1) a e (by omega) rfl hj
      rw [if_neg (fun h0 => this (h0.trans hk.symm))]
      exact pl_some (fun j k e f hjk he hf => hd (j + 1) (k + 1) e f (by omega) he hf) h hk
theorem of_whole (q : ByteArray) : q.extract 0 q.size = q := by
  refine ext_bt _ _ (by rw [ex_size]; omega) fun j hj => ?_
  rw [ex_size] at hj
  exact cut_bt q q.size j (Nat.le_refl _) (by omega)
theorem tells_pl {es : List Pr} {key v : ByteArray} (hr : RightP es) (h : Tells (ents (srt es)) (ofOf key) v) : plE es key = (v, decide (0 < v.size)) := by
  rcases h with ⟨e, he, heq, hv⟩ | ⟨hno, hv⟩
  · obtain ⟨p, hp, rfl⟩ := mem_ents.1 he
    have hk : p.1 = key := of_inj heq
    have hv2 : v = p.2 := hv
    rw [pl_some hr.2.2 hp hk, hv2]
    obtain ⟨j, hj⟩ := List.getElem?_of_mem hp
    have := hr.2.1 j p hj
    have hpos : 0 < p.2.size := by
      unfold pOk at this
      simp only [Bool.and_eq_true, decide_eq_true_eq] at this
      omega
    rw [decide_eq_true hpos]
  · rw [hv, pl_none fun e he hk => hno (enP e) (mem_ents.2 ⟨e, he, rfl⟩) (by show ofOf e.1 = _; rw [hk])]
    rfl
set_option maxHeartbeats 1000000 in
theorem sound_all {es : List Pr} {key : ByteArray} {m : List ByteArray} (hr : RightP es) (hl : es.length ≤ 40) (h : (chkF (rtS true es) key m).2.2 = 0) :
    ((chkF (rtS true es) key m).1 = (plE es key).1 ∧ (chkF (rtS true es) key m).2.1 = (plE es key).2) ∨ clB (⟨#[128]⟩ :: tdS true nodesL es ++ m) = true := by
  have h80 : ∀ (x : ByteArray) (n : PN), ndOf x = some n → x ≠ ⟨#[128]⟩ := fun x n h e => by rw [e, ndOf_80] at h; cases h
  by_cases h0 : es.length = 0
  · obtain rfl := List.length_eq_zero_iff.1 h0
    have hrt : rtS true [] = sumOf ⟨#[128]⟩ := by
      unfold rtS topB
      rw [if_pos rfl, if_pos (by rw [(srt_perm []).length_eq]; rfl)]
    rw [hrt] at h ⊢
    rcases chk_ok h with ⟨_, _, a3, a4⟩ | ⟨_, a2, a3, a4⟩
    · exact .inl ⟨a3, a4⟩
    · obtain ⟨x, r, n, rfl, c2, c3⟩ := wk_first a2
      exact .inr (clB_of (x := ⟨#[128]⟩) (y := x) (by simp) (by simp) (fun e => h80 x n c3 e.symm) c2.symm)
  · have n0 : ¬ (srt es).length = 0 := by rw [(srt_perm es).length_eq]; exact h0
    have hn : (ents (srt es)).length ≤ 40 := by rw [ents_len, (srt_perm es).length_eq]; exact hl
    have f1 := (nd_fit 129 0 _ (by omega) (ok_srt hr h0) hn).1
    obtain ⟨X, hX⟩ : ∃ X, ndF 129 0 (ents (srt es)) = X := ⟨_, rfl⟩
    have hrt : rtS true es = sumOf (eS X.x) := by
      unfold rtS topB topN
      rw [if_pos rfl, if_neg n0, hX]
    have htd : tdS true nodesL es = eS X.x :: allS X.ss := by
      unfold tdS wyL topN nodesL
      rw [if_pos rfl, if_neg n0, hX]
    rw [hX] at f1
    rw [hrt] at h ⊢
    rw [htd]
    rcases chk_ok h with ⟨_, a2, _, _⟩ | ⟨_, a2, a3, a4⟩
    · refine .inr (clB_of (x := ⟨#[128]⟩) (y := eS X.x) (by simp) (by simp) (fun e => ?_) a2.symm)
      have := f1.lo
      rw [← f1.eS, ← e] at this
      have h1 : (⟨#[128]⟩ : ByteArray).size = 1 := rfl
      omega
    · obtain ⟨x, r, n, rfl, c2, c3⟩ := wk_first a2
      by_cases hx : eS X.x = x
      · subst hx
        have ha : askN (sumOf (eS X.x)) (eS X.x :: r) = some n := by
          show (if sumOf (eS X.x) = sumOf (eS X.x) then ndOf (eS X.x) else none) = _
          rw [if_pos rfl, c3]
        obtain ⟨⟨v, b⟩, hwk⟩ : ∃ z, wkF (2 * key.size + 1) (.dig (sumOf (eS X.x))) (ofOf key) (eS X.x :: r) = z := ⟨_, rfl⟩
        rw [hwk] at a2 a3 a4
        have hb : b = true := a2
        subst hb
        rw [wk_dig _ _ _ _ _ n ha] at hwk
        have hrd : rdN (ndF 129 0 (ents (srt es))).x = some n := by rw [hX, ← fit_nd f1]; exact c3
        rcases sound_in 129 0 (ents (srt es)) (by omega) (ok_srt hr h0) hn (ofOf key) (Nat.zero_le _) (of_path key) (fun _ _ t ht => absurd ht (Nat.not_lt_zero t)) _ n r v hrd (by rw [of_whole]; exact hwk) with ht | hc
        · have hp := tells_pl hr ht
          rw [hp]
          exact .inl ⟨a3, a4⟩
        · rw [hX] at hc
          obtain ⟨x, hx, y, hy, hne, hs⟩ := hc
          have hxin : x ∈ eS X.x :: allS X.ss := by
            cases X with
            | mk xx ss =>
              have : x ∈ ownT xx ++ allS ss := hx
              rcases List.mem_append.1 this with h | h
              · unfold ownT at h
                split at h
                · cases h
                · rw [List.mem_singleton] at h
                  rw [h]
                  exact List.mem_cons_self ..
              · exact List.mem_cons_of_mem _ h
          exact .inr (clB_of (x := x) (y := y) (by simp only [List.cons_append]; exact List.mem_cons_of_mem _ (by rw [← List.cons_append]; exact List.mem_append_left _ hxin)) (by simp [hy]) hne hs)
      · exact .inr (clB_of (x := eS X.x) (y := x) (by simp) (by simp) hx c2.symm)
end Go.Proofs.YtbmapdkcccdmfaaDoor
namespace Go.Proofs.YtbmapdkcccdmfaaDoor
open Go.RowKit Go.Shelf Go.Sort

theorem yT_len (xs : List ByteArray) : (smT xs).length ≤ 40 := by unfold smT; rw [List.length_map, List.length_take]; omega
theorem yT_size (xs : List ByteArray) : ∀ x, x ∈ smT xs → x.size ≤ 3000 := fun x hx => by
  unfold smT at hx
  obtain ⟨y, _, rfl⟩ := List.mem_map.1 hx
  unfold ctT
  rw [ByteArray.size_extract]
  omega
theorem fwE_len (es : List Pr) : (fwE es).length ≤ 30 := by unfold fwE; rw [List.length_map, List.length_take]; omega
set_option maxRecDepth 20000 in
set_option maxHeartbeats 4000000 in
theorem psound_any (es : List Pr) (a1 : Option Addr) (c1 : Nat) (key : ByteArray) (m : List ByteArray) (a2 : Option Addr) (c2 : Nat) (w : World) (hl : Laid w) (h1 : slP w.heap.size w a1 es) (h2 : slS w.heap.size w a2 m) :
    Calls Tryd.prog 4 #[.slice a1 es.length c1, .string key, .slice a2 m.length c2] w fun e w' => e = .returned (.bool true) ∧ Below w.heap.size w w' := by
  have K1 := fun W (hW : Below w.heap.size w W) => few_any es a1 c1 W (slP_up (slP_below hW h1) hW.size)
  have K2 := fun W (hW : Below w.heap.size w W) => some7_any m a2 c2 w.heap.size W hW.size (slS_below hW h2)
  obtain ⟨N1, hN1⟩ : ∃ N, es.length = N := ⟨_, rfl⟩
  obtain ⟨N2, hN2⟩ : ∃ N, m.length = N := ⟨_, rfl⟩
  rw [hN1] at K1
  rw [hN2] at K2
  rw [hN1, hN2]
  obtain ⟨fs, hfs⟩ : ∃ q, fwE es = q := ⟨_, rfl⟩
  obtain ⟨ys, hys⟩ : ∃ q, smT m = q := ⟨_, rfl⟩
  have lf : fs.length ≤ 30 := by rw [← hfs]; exact fwE_len _
  have ly : ys.length ≤ 40 := by rw [← hys]; exact yT_len _
  have sy : Hid (∀ x, x ∈ ys → x.size ≤ 3000) := by rw [← hys]; exact yT_size _
  rw [hfs] at K1
  rw [hys] at K2
  clear hys hfs hN1 hN2 h1 h2
  go_enter Tryd.func4, Tryd.ntmps4
  go_wp2_with fail
  refine (shown7_any w hl).mono ?_
  rintro e w1 ⟨rfl, BW⟩
  go_wp2_with fail
  refine (K1 w1 BW).mono ?_
  rintro e w2 ⟨B2, p1, q1, rfl, s1⟩
  replace BW := belowStep BW BW.size B2
  have S1 : Hid _ := s1
  clear B2 s1 K1
  obtain ⟨n0, hn0⟩ : ∃ q, fs.length = q := ⟨_, rfl⟩
  rw [hn0]
  go_wp2_with fail
  refine (K2 w2 BW).mono ?_
  rintro e w3 ⟨B3, v2, rfl, o2⟩
  obtain ⟨p2, q2, rfl, hq2, s2⟩ := owns_cap7 o2
  replace BW := belowStep BW BW.size B3
  have S1' : Hid (slP w3.heap.size w3 p1 fs) := slP_up (slP_below B3 S1.out) B3.size
  have S2 : Hid _ := s2
  clear B3 o2 s2 K2 S1
  obtain ⟨q, hq⟩ := right_bool fs
  have KR := rroot_one hq p1 q1 w3.heap.size w3 (Nat.le_refl _) S1'.out
  obtain ⟨root, hroot⟩ : ∃ z, rtS q fs = z := ⟨_, rfl⟩
  rw [hroot, hn0] at KR
  obtain ⟨n2, hn2⟩ : ∃ q, ys.length = q := ⟨_, rfl⟩
  rw [hn2] at ly hq2 ⊢
  go_wp2_with fail
  refine Calls.mono KR ?_
  rintro e w4 ⟨rfl, B4⟩
  replace BW := belowStep BW BW.size B4
  have T1 : Hid (slP w4.heap.size w4 p1 fs) := slP_up (slP_below B4 S1'.out) B4.size
  have T2 : Hid (slS w4.heap.size w4 p2 ys) := slS_up (slS_below B4 S2.out) B4.size
  clear B4 KR S1' S2
  have KN := rnodes_one hq p1 q1 w4.heap.size w4 (Nat.le_refl _) T1.out
  have lp := tdN_len (b := q) fs hq
  have zp : Hid (q = true → ∀ x, x ∈ tdS q nodesL fs → x.size ≤ 65536) := fun e => by
    rw [e]
    exact td_small fs
  obtain ⟨ns, hns⟩ : ∃ z, tdS q nodesL fs = z := ⟨_, rfl⟩
  rw [hns, hn0] at KN
  rw [hns] at lp zp
  obtain ⟨n1, hn1⟩ : ∃ z, ns.length = z := ⟨_, rfl⟩
  rw [hn1] at lp KN
  have HH : Hid (_ ∧ _ ∧ _) := ⟨hq, hroot, hns⟩
  have HN : Hid (_ ∧ _) := ⟨hn1, hn2⟩
  have HF : Hid (_ ∧ _) := ⟨hn0, lf⟩
  clear hq hroot hns hn1 hn2 hn0 lf
  go_wp2_with fail
  refine Calls.mono KN ?_
  rintro e w5 ⟨⟨p3, q3, rfl, s3⟩, B5⟩
  replace BW := belowStep BW BW.size B5
  have V1 : Hid (slP w5.heap.size w5 p1 fs) := slP_up (slP_below B5 T1.out) B5.size
  have V2 : Hid (slS w5.heap.size w5 p2 ys) := slS_up (slS_below B5 T2.out) B5.size
  have V3 : Hid _ := s3
  clear B5 KN T1 T2 s3
  cases q with
  | false =>
    go_wp2
    go_ret
    exact ⟨rfl, BW⟩
  | true =>
    have C1 := check_any root key ys (by rw [HN.out.2]; omega) p2 q2 w5.heap.size (by rw [HN.out.2]; exact hq2) w5 (Nat.le_refl _) (hl.below BW) V2.out
    rw [HN.out.2] at C1
    obtain ⟨⟨rv1, rb1, re1⟩, hr1⟩ : ∃ q, chkF root key ys = q := ⟨_, rfl⟩
    rw [hr1] at C1
    dsimp only at C1
    have HR1 : Hid _ := hr1
    clear hr1
    go_wp2_with fail
    refine Calls.mono C1 ?_
    rintro e w6 ⟨rfl, B6⟩
    replace BW := belowStep BW BW.size B6
    have X1 : Hid (slP w6.heap.size w6 p1 fs) := slP_up (slP_below B6 V1.out) B6.size
    have X2 : Hid (slS w6.heap.size w6 p2 ys) := slS_up (slS_below B6 V2.out) B6.size
    have X3 : Hid (slS w6.heap.size w6 p3 ns) := slS_up (slS_below B6 V3.out) B6.size
    clear B6 C1 V1 V2 V3
    have C2 := plain_any fs key (by have := HF.out.2; omega) p1 q1 w6.heap.size w6 (Nat.le_refl _) X1.out
    rw [HF.out.1] at C2
    obtain ⟨⟨rv2, rb2⟩, hr2⟩ : ∃ q, plE fs key = q := ⟨_, rfl⟩
    rw [hr2] at C2
    dsimp only at C2
    have HR2 : Hid _ := hr2
    clear hr2
    go_wp2_with fail
    refine Calls.mono C2 ?_
    rintro e w7 ⟨rfl, B7⟩
    replace BW := belowStep BW BW.size B7
    have U1 : Hid (slS w7.heap.size w7 p3 ns) := slS_up (slS_below B7 X3.out) B7.size
    have U2 : Hid (slS w7.heap.size w7 p2 ys) := slS_up (slS_below B7 X2.out) B7.size
    clear B7 C2 X1 X2 X3
    by_cases he1 : re1 = 0
    · subst he1
      by_cases hv : rv1 = rv2 ∧ rb1 = rb2
      · obtain ⟨rfl, rfl⟩ := hv
        have hb1 : (rv1.toList == rv1.toList) = true := beq_self_eq_true _
        have hb2 : (rb1 == rb1) = true := beq_self_eq_true _
        go_wp2
        go_ret
        exact ⟨rfl, BW⟩
      · have hcl : clB ([(⟨#[128]⟩ : ByteArray)] ++ ns ++ ys) = true := by
          have hro := HH.out.2.1
          have hnn := HH.out.2.2
          have hrr := HR1.out
          rw [← hro] at hrr
          rcases sound_all (es := fs) (key := key) (m := ys) (HH.out.1.1 (by trivial)) (by have := HF.out.2; have := HF.out.1; omega) (by rw [hrr]) with h | h
          · rw [hrr, HR2.out] at h
            exact absurd h hv
          · rw [hnn] at h
            exact h
        have HC : Hid _ := hcl
        have hsz : ∀ x, x ∈ [(⟨#[128]⟩ : ByteArray)] ++ ns ++ ys → x.size ≤ 100000 := fun x hx => by
          rcases List.mem_append.1 hx with hx | hx
          · rcases List.mem_append.1 hx with hx | hx
            · rw [List.mem_singleton] at hx
              subst hx
              decide
            · exact Nat.le_trans (zp.out (by trivial) x hx) (by omega)
          · exact Nat.le_trans (sy.out x hx) (by omega)
        have HSZ : Hid _ := hsz
        clear hsz hcl
        by_cases h1 : rv1 = rv2
        · have hb1 : (rv1.toList == rv2.toList) = true := by rw [h1]; exact beq_self_eq_true _
          have hb2 : (rb1 == rb2) = false := by rw [beq_eq_false_iff_ne]; exact fun e => hv ⟨h1, e⟩
          have HV : Hid _ := hv
          have HW : Hid _ := h1
          clear hv h1
          go_wp2_with (first | (at_builtin; refine wpList_append_list rfl _ _ rfl w7.heap.size _ rfl 1 [.string ⟨#[128]⟩] (own_text w7 ⟨#[128]⟩) ns p3 n1 q3 _ HN.out.1 rfl (slS_below ((Below.refl _ w7).alloc (Nat.le_refl _) _) U1.out) (by omega) (by omega) (by simp) ?_; intro v1 x1 ho1 hg1; have b1 := lit_grown hg1) | (at_builtin; refine wpList_append_list rfl _ _ rfl w7.heap.size _ rfl (1 + n1) _ ho1 ys p2 n2 q2 _ HN.out.2 rfl (slS_below b1 U2.out) (by omega) (by omega) b1.size ?_; intro v2 x2 ho2 hg2) | fail)
          have BX2 : Below w7.heap.size w7 x2 := b1.grown hg2 b1.size (fun b hb => (ho1.lt b hb).1)
          have B1x := belowStep BW BW.size BX2
          have ho3 : x2.ownsRow w7.heap.size 9 1 v2 ([(⟨#[128]⟩ : ByteArray)] ++ ns ++ ys).length (([(⟨#[128]⟩ : ByteArray)] ++ ns ++ ys).map .string) := by
            have e1 : ([(⟨#[128]⟩ : ByteArray)] ++ ns ++ ys).length = 1 + n1 + n2 := by rw [List.length_append, List.length_append, HN.out.1, HN.out.2]; rfl
            rw [e1, List.map_append, List.map_append]
            exact ho2
          have hlen : ([(⟨#[128]⟩ : ByteArray)] ++ ns ++ ys).length ≤ 1000000 := by
            rw [List.length_append, List.length_append, HN.out.1, HN.out.2]
            show 1 + n1 + n2 ≤ _
            omega
          have hcl := HC.out
          have hzz := HSZ.out
          obtain ⟨L, hL⟩ : ∃ L, [(⟨#[128]⟩ : ByteArray)] ++ ns ++ ys = L := ⟨_, rfl⟩
          rw [hL] at ho3 hlen hcl hzz
          obtain ⟨a5, c5, rfl, hsl⟩ := slS_owns ho3
          have KC := clash_any L hlen hzz a5 c5 x2.heap.size x2 (Nat.le_refl _) hsl
          rw [hcl] at KC
          clear ho3 hlen hcl hzz hsl hL ho2 hg2 ho1 hg1 b1 BX2
          refine KC.mono ?_
          rintro e x3 ⟨rfl, Bx3⟩
          have BF := belowStep B1x B1x.size Bx3
          clear KC
          go_wp2
          go_ret
          exact ⟨rfl, BF⟩
        · have hb1 := ne_list h1
          have HV : Hid _ := hv
          have HW : Hid _ := h1
          clear hv h1
          go_wp2_with (first | (at_builtin; refine wpList_append_list rfl _ _ rfl w7.heap.size _ rfl 1 [.string ⟨#[128]⟩] (own_text w7 ⟨#[128]⟩) ns p3 n1 q3 _ HN.out.1 rfl (slS_below ((Below.refl _ w7).alloc (Nat.le_refl _) _) U1.out) (by omega) (by omega) (by simp) ?_; intro v1 x1 ho1 hg1; have b1 := lit_grown hg1) | (at_builtin; refine wpList_append_list rfl _ _ rfl w7.heap.size _ rfl (1 + n1) _ ho1 ys p2 n2 q2 _ HN.out.2 rfl (slS_below b1 U2.out) (by omega) (by omega) b1.size ?_; intro v2 x2 ho2 hg2) | fail)
          have BX2 : Below w7.heap.size w7 x2 := b1.grown hg2 b1.size (fun b hb => (ho1.lt b hb).1)
          have B1x := belowStep BW BW.size BX2
          have ho3 : x2.ownsRow w7.heap.size 9 1 v2 ([(⟨#[128]⟩ : ByteArray)] ++ ns ++ ys).length (([(⟨#[128]⟩ : ByteArray)] ++ ns ++ ys).map .string) := by
            have e1 : ([(⟨#[128]⟩ : ByteArray)] ++ ns ++ ys).length = 1 + n1 + n2 := by rw [List.length_append, List.length_append, HN.out.1, HN.out.2]; rfl
            rw [e1, List.map_append, List.map_append]
            exact ho2
          have hlen : ([(⟨#[128]⟩ : ByteArray)] ++ ns ++ ys).length ≤ 1000000 := by
            rw [List.length_append, List.length_append, HN.out.1, HN.out.2]
            show 1 + n1 + n2 ≤ _
            omega
          have hcl := HC.out
          have hzz := HSZ.out
          obtain ⟨L, hL⟩ : ∃ L, [(⟨#[128]⟩ : ByteArray)] ++ ns ++ ys = L := ⟨_, rfl⟩
          rw [hL] at ho3 hlen hcl hzz
          obtain ⟨a5, c5, rfl, hsl⟩ := slS_owns ho3
          have KC := clash_any L hlen hzz a5 c5 x2.heap.size x2 (Nat.le_refl _) hsl
          rw [hcl] at KC
          clear ho3 hlen hcl hzz hsl hL ho2 hg2 ho1 hg1 b1 BX2
          refine KC.mono ?_
          rintro e x3 ⟨rfl, Bx3⟩
          have BF := belowStep B1x B1x.size Bx3
          clear KC
          go_wp2
          go_ret
          exact ⟨rfl, BF⟩
    · have hf1 : (re1 == 0) = false := by rw [beq_eq_false_iff_ne]; exact he1
      have hg1 : (re1 != 0) = true := by rw [bne_iff_ne]; exact he1
      go_wp2
      go_ret
      exact ⟨rfl, BW⟩
end Go.Proofs.YtbmapdkcccdmfaaDoor
