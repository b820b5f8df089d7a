/- How the nodes of a trie are read again: pure. -/
import Derived.Test.YtbmapdkcccdmfaaGreatDoorM1
import Derived.Test.YtbmapdkcccdmfaaGreatDoorM10
import Derived.Test.YtbmapdkcccdmfaaGreatDoorM11
import Derived.Test.YtbmapdkcccdmfaaGreatDoorM12
import Derived.Test.YtbmapdkcccdmfaaGreatDoorM13
import Derived.Test.YtbmapdkcccdmfaaGreatDoorM14
import Derived.Test.YtbmapdkcccdmfaaGreatDoorM15
import Derived.Test.YtbmapdkcccdmfaaGreatDoorM16
import Derived.Test.YtbmapdkcccdmfaaGreatDoorM17
import Derived.Test.YtbmapdkcccdmfaaGreatDoorM18
import Derived.Test.YtbmapdkcccdmfaaGreatDoorM19
import Derived.Test.YtbmapdkcccdmfaaGreatDoorM2
import Derived.Test.YtbmapdkcccdmfaaGreatDoorM20
import Derived.Test.YtbmapdkcccdmfaaGreatDoorM21
import Derived.Test.YtbmapdkcccdmfaaGreatDoorM22
import Derived.Test.YtbmapdkcccdmfaaGreatDoorM23
import Derived.Test.YtbmapdkcccdmfaaGreatDoorM24
import Derived.Test.YtbmapdkcccdmfaaGreatDoorM25
import Derived.Test.YtbmapdkcccdmfaaGreatDoorM26
import Derived.Test.YtbmapdkcccdmfaaGreatDoorM27
import Derived.Test.YtbmapdkcccdmfaaGreatDoorM28
import Derived.Test.YtbmapdkcccdmfaaGreatDoorM29
import Derived.Test.YtbmapdkcccdmfaaGreatDoorM3
import Derived.Test.YtbmapdkcccdmfaaGreatDoorM30
import Derived.Test.YtbmapdkcccdmfaaGreatDoorM31
import Derived.Test.YtbmapdkcccdmfaaGreatDoorM32
import Derived.Test.YtbmapdkcccdmfaaGreatDoorM33
import Derived.Test.YtbmapdkcccdmfaaGreatDoorM34
import Derived.Test.YtbmapdkcccdmfaaGreatDoorM35
import Derived.Test.YtbmapdkcccdmfaaGreatDoorM36
import Derived.Test.YtbmapdkcccdmfaaGreatDoorM37
import Derived.Test.YtbmapdkcccdmfaaGreatDoorM38
import Derived.Test.YtbmapdkcccdmfaaGreatDoorM39
import Derived.Test.YtbmapdkcccdmfaaGreatDoorM4
import Derived.Test.YtbmapdkcccdmfaaGreatDoorM40
import Derived.Test.YtbmapdkcccdmfaaGreatDoorM41
import Derived.Test.YtbmapdkcccdmfaaGreatDoorM42
import Derived.Test.YtbmapdkcccdmfaaGreatDoorM43
import Derived.Test.YtbmapdkcccdmfaaGreatDoorM44
import Derived.Test.YtbmapdkcccdmfaaGreatDoorM45
import Derived.Test.YtbmapdkcccdmfaaGreatDoorM46
import Derived.Test.YtbmapdkcccdmfaaGreatDoorM47
import Derived.Test.YtbmapdkcccdmfaaGreatDoorM48
import Derived.Test.YtbmapdkcccdmfaaGreatDoorM49
import Derived.Test.YtbmapdkcccdmfaaGreatDoorM5
import Derived.Test.YtbmapdkcccdmfaaGreatDoorM50
import Derived.Test.YtbmapdkcccdmfaaGreatDoorM51
import Derived.Test.YtbmapdkcccdmfaaGreatDoorM52
import Derived.Test.YtbmapdkcccdmfaaGreatDoorM53
import Derived.Test.YtbmapdkcccdmfaaGreatDoorM6
import Derived.Test.YtbmapdkcccdmfaaGreatDoorM7
import Derived.Test.YtbmapdkcccdmfaaGreatDoorM8
import Derived.Test.YtbmapdkcccdmfaaGreatDoorM9
import Derived.Test.YtbmapdkcccdmfaaGreatDoorRows
namespace Go.Proofs.YtbmapdkcccdmfaaGreatDoor
open Go.RowKit Go.Shelf Go.Sort

theorem snoc_keep (p : ByteArray) (q : ByteArray) (r : PR) : ∀ (s : PS) (z : PR × ByteArray), stepTo p s = some z → stepTo p (s.snoc q r) = some z
 | .nil, _, h => by cases h
 | .cons q' r' s, z, h => by
  show (if pfB p q' then some (r', pfR p q') else stepTo p (s.snoc q r)) = some z
  have h' : (if pfB p q' then some (r', pfR p q') else stepTo p s) = some z := h
  split at h'
  ·next hp => rw [if_pos hp]; exact h'
  ·next hp => rw [if_neg hp]; exact snoc_keep p q r s z h'
theorem snoc_none (p : ByteArray) (q : ByteArray) (r : PR) : ∀ (s : PS), stepTo p s = none → stepTo p (s.snoc q r) = if pfB p q then some (r, pfR p q) else none
 | .nil, _ => rfl
 | .cons q' r' s, h => by
  show (if pfB p q' then some (r', pfR p q') else stepTo p (s.snoc q r)) = _
  have h' : (if pfB p q' then some (r', pfR p q') else stepTo p s) = none := h
  split at h'
  ·cases h'
  ·next hp => rw [if_neg hp]; exact snoc_none p q r s h'
theorem qst_keep (p : ByteArray) : ∀ (xs : List It) (rs : List (Option PR)) (i : Nat) (s t : PS) (z : PR × ByteArray), stepTo p s = some z → qfkS i s xs rs = some t → stepTo p t = some z
 | [], _, _, s, t, z, hs, h => by
  have : some s = some t := h
  cases this
  exact hs
 | _ :: _, [], _, _, _, _, _, h => by cases h
 | x :: xs, r :: rs, i, s, t, z, hs, h => by
  cases r with
  | none =>
   have h' : (if x.l = false ∧ x.t.size = 0 then qfkS (i + 1) s xs rs else none) = some t := h
   split at h'
   ·exact qst_keep p xs rs (i + 1) s t z hs h'
   ·cases h'
  | some q =>
   have h' : (if x.l = false ∧ x.t.size = 0 then qfkS (i + 1) s xs rs else qfkS (i + 1) (s.snoc (b1 i) q) xs rs) = some t := h
   split at h'
   ·exact qst_keep p xs rs (i + 1) s t z hs h'
   ·exact qst_keep p xs rs (i + 1) _ t z (snoc_keep p _ q s z hs) h'
theorem qst (p : ByteArray) (g : Nat) (hp : ∀ i, i < 16 → pfB p (b1 i) = decide (i = g)) : ∀ (xs : List It) (rs : List (Option PR)) (i : Nat) (s t : PS), i + xs.length ≤ 16 → stepTo p s = none → qfkS i s xs rs = some t →
  (g < i → stepTo p t = none) ∧ (i ≤ g → ∀ x, xs[g - i]? = some x → ((x.l = false ∧ x.t.size = 0) ∧ stepTo p t = none) ∨ (¬ (x.l = false ∧ x.t.size = 0) ∧ ∃ q, rs[g - i]? = some (some q) ∧ stepTo p t = some (q, pfR p (b1 g))))
 | [], _, _, s, t, _, hs, h => by
  have : some s = some t := h
  cases this
  exact ⟨fun _ => hs, fun _ x hx => by cases hx⟩
 | _ :: _, [], _, _, _, _, _, h => by cases h
 | x :: xs, r :: rs, i, s, t, hl, hs, h => by
  rw [List.length_cons] at hl
  have idx : i + 1 ≤ g → g - i = (g - (i + 1)) + 1 := fun h => by omega
  have tail : ∀ (s' : PS), stepTo p s' = none → qfkS (i + 1) s' xs rs = some t → (g < i → stepTo p t = none) ∧ (i + 1 ≤ g → ∀ y, (x :: xs)[g - i]? = some y → ((y.l = false ∧ y.t.size = 0) ∧ stepTo p t = none) ∨ (¬ (y.l = false ∧ y.t.size = 0) ∧ ∃ q, (r :: rs)[g - i]? = some (some q) ∧ stepTo p t = some (q, pfR p (b1 g)))) ∧ (g = i → stepTo p t = none) := fun s' hs' h' => by
   obtain ⟨h1, h2⟩ := qst p g hp xs rs (i + 1) s' t (by omega) hs' h'
   refine ⟨fun h => h1 (by omega), fun h y hy => ?_, fun h => h1 (by omega)⟩
   rw [idx h, List.getElem?_cons_succ] at hy
   rw [idx h, List.getElem?_cons_succ]
   exact h2 h y hy
  by_cases hz : x.l = false ∧ x.t.size = 0
  ·have h' : qfkS (i + 1) s xs rs = some t := by
    cases r with
    | none => have h' : (if x.l = false ∧ x.t.size = 0 then qfkS (i + 1) s xs rs else none) = some t := h; rw [if_pos hz] at h'; exact h'
    | some q => have h' : (if x.l = false ∧ x.t.size = 0 then qfkS (i + 1) s xs rs else qfkS (i + 1) (s.snoc (b1 i) q) xs rs) = some t := h; rw [if_pos hz] at h'; exact h'
   obtain ⟨t1, t2, t3⟩ := tail s hs h'
   refine ⟨t1, fun hg y hy => ?_⟩
   by_cases hgi : g = i
   ·rw [hgi, Nat.sub_self] at hy
    have : x = y := Option.some.inj hy
    subst this
    exact .inl ⟨hz, t3 hgi⟩
   ·exact t2 (by omega) y hy
  ·cases r with
   | none => have h' : (if x.l = false ∧ x.t.size = 0 then qfkS (i + 1) s xs rs else none) = some t := h; rw [if_neg hz] at h'; cases h'
   | some q =>
    have h' : (if x.l = false ∧ x.t.size = 0 then qfkS (i + 1) s xs rs else qfkS (i + 1) (s.snoc (b1 i) q) xs rs) = some t := h
    rw [if_neg hz] at h'
    have hsn := snoc_none p (b1 i) q s hs
    rw [hp i (by omega)] at hsn
    by_cases hgi : i = g
    ·rw [decide_eq_true hgi, if_pos rfl] at hsn
     have hk := qst_keep p xs rs (i + 1) _ t _ hsn h'
     refine ⟨fun h => by omega, fun _ y hy => .inr ?_⟩
     rw [← hgi, Nat.sub_self] at hy
     have : x = y := Option.some.inj hy
     subst this
     refine ⟨hz, q, by rw [← hgi, Nat.sub_self]; rfl, ?_⟩
     rw [hk, hgi]
    ·rw [decide_eq_false hgi, if_neg (by decide)] at hsn
     obtain ⟨t1, t2, t3⟩ := tail _ hsn h'
     exact ⟨t1, fun hg y hy => t2 (by omega) y hy⟩
theorem fit_nd {x : It} (h : Fit x) : ndOf (eS x) = rdN x := nd_enc h.eS.symm h.e0 (dprI_le (by omega) h.d6) (eS_size x)
theorem fit_l {x : It} (h : Fit x) : x.l = true := by
 obtain ⟨xs, rfl⟩ := h.ls
 rfl
end Go.Proofs.YtbmapdkcccdmfaaGreatDoor
namespace Go.Proofs.YtbmapdkcccdmfaaGreatDoor
open Go.RowKit Go.Shelf Go.Sort

def Tells (es : List Pr) (q v : ByteArray) : Prop := (∃ e ∈ es, e.1 = q ∧ v = e.2) ∨ ((∀ e ∈ es, e.1 ≠ q) ∧ v = ⟨#[]⟩)
theorem rd_fm {p : ByteArray} {l : Bool} (h : isP p = true) : rdGood (fmS p l) = true ∧ rdS (fmS p l) = p ∧ rdL (fmS p l) = l := by
 obtain ⟨h1, h2, h3⟩ := read_form p l h
 have : fmS p l = fmOf p l := by unfold fmS; rw [if_pos h]
 rw [this]
 refine ⟨?_, h1, h2⟩
 unfold rdE at h3
 split at h3
 ·next hg => exact hg
 ·cases h3
theorem lb_leaf {p : ByteArray} {b : It} {r : Option PR} {n : PN} (h : isP p = true) (hn : lbN (.mk false (fmS p true) []) b r = some n) : n = .mk p b.t .nil := by
 obtain ⟨h1, h2, h3⟩ := rd_fm (l := true) h
 have hn' : (if rdGood (fmS p true) then (if rdL (fmS p true) then (if 0 < b.t.size then some (PN.mk (rdS (fmS p true)) b.t .nil) else none) else if 0 < (rdS (fmS p true)).size then r.map (fun q => PN.mk ⟨#[]⟩ ⟨#[]⟩ (.cons (rdS (fmS p true)) q .nil)) else none) else none) = some n := hn
 rw [if_pos h1, if_pos h3, h2] at hn'
 split at hn'
 ·exact (Option.some.inj hn').symm
 ·cases hn'
theorem rdN_two (t : ByteArray) (a b : It) : rdN (.mk true t [a, b]) = lbN a b (rdR b) := by
 show asmN [a, b] (rdRs [a, b]) = _
 rw [rdRs_map]
 unfold asmN
 rw [if_pos (show [a, b].length = 2 from rfl)]
 rfl
theorem rdN_fork (t : ByteArray) (xs : List It) (hx : xs.length = 16) (v : It) : rdN (.mk true t (xs ++ [v])) = qfkN xs v (xs.map rdR) := by
 show asmN (xs ++ [v]) (rdRs (xs ++ [v])) = _
 have hl : (xs ++ [v]).length = 17 := by rw [List.length_append, hx]; rfl
 rw [rdRs_map]
 unfold asmN
 rw [if_neg (by omega), if_pos hl, List.map_append]
 have h1 : (xs ++ [v]).take 16 = xs := by rw [← hx, List.take_left']; rfl
 have h2 : (xs.map rdR ++ [v].map rdR).take 16 = xs.map rdR := by rw [List.take_left' (by rw [List.length_map, hx])]
 have h3 : (xs ++ [v]).getD 16 (.mk false ⟨#[]⟩ []) = v := by
  rw [List.getD_eq_getElem?_getD, List.getElem?_append_right (by omega), hx]
  rfl
 rw [h1, h2, h3]
theorem b1_one (i : Nat) : b1 i = oneB (i : Int) := rfl
theorem ex_size (q : ByteArray) (d : Nat) : (q.extract d q.size).size = q.size - d := by rw [ByteArray.size_extract]; omega
theorem ex_empty {q : ByteArray} {d : Nat} (hd : d ≤ q.size) (h : q.extract d q.size = ⟨#[]⟩) : q.size = d := by
 have := congrArg ByteArray.size h
 rw [ex_size] at this
 have h0 : (⟨#[]⟩ : ByteArray).size = 0 := rfl
 omega
theorem vlE_none {d : Nat} {es : List Pr} (h : ∀ e ∈ es, e.1.size ≠ d) : vlE d es = ⟨#[]⟩ := by
 cases es with
 | nil => rfl
 | cons a r =>
  show (if a.1.size = d then a.2 else ⟨#[]⟩) = _
  rw [if_neg (h a (by simp))]
end Go.Proofs.YtbmapdkcccdmfaaGreatDoor
namespace Go.Proofs.YtbmapdkcccdmfaaGreatDoor
open Go.RowKit Go.Shelf Go.Sort

theorem pl_none : ∀ {es : List Pr} {key : ByteArray}, (∀ e ∈ es, e.1 ≠ key) → plE es key = (⟨#[]⟩, false)
 | [], _, _ => rfl
 | e :: es, key, h => by
  rw [plE, if_neg (h e (by simp))]
  exact pl_none fun x hx => h x (by simp [hx])
theorem pl_some : ∀ {es : List Pr} {key : ByteArray} {e : Pr}, (∀ (j k : Nat) (e f : Pr), j < k → es[j]? = some e → es[k]? = some f → e.1 ≠ f.1) → e ∈ es → e.1 = key → plE es key = (e.2, true)
 | [], _, _, _, h, _ => by cases h
 | a :: es, key, e, hd, h, hk => by
  rw [plE]
  rcases List.mem_cons.1 h with rfl | h
  ·rw [if_pos hk]
  ·obtain ⟨j, hj⟩ := List.getElem?_of_mem h
   have := hd 0 (j + 1) a e (by omega) rfl hj
   rw [if_neg (fun h0 => this (h0.trans hk.symm))]
   exact pl_some (fun j k e f hjk he hf => hd (j + 1) (k + 1) e f (by omega) he hf) h hk
theorem of_whole (q : ByteArray) : q.extract 0 q.size = q := by
 refine ext_bt _ _ (by rw [ex_size]; omega) fun j hj => ?_
 rw [ex_size] at hj
 exact cut_bt q q.size j (Nat.le_refl _) (by omega)
theorem tells_pl {es : List Pr} {key v : ByteArray} (hr : RightP es) (h : Tells (ents (srt es)) (ofOf key) v) : plE es key = (v, decide (0 < v.size)) := by
 rcases h with ⟨e, he, heq, hv⟩ | ⟨hno, hv⟩
 ·obtain ⟨p, hp, rfl⟩ := mem_ents.1 he
  have hk : p.1 = key := of_inj heq
  have hv2 : v = p.2 := hv
  rw [pl_some hr.2.2 hp hk, hv2]
  obtain ⟨j, hj⟩ := List.getElem?_of_mem hp
  have := hr.2.1 j p hj
  have hpos : 0 < p.2.size := by
   unfold pOk at this
   simp only [Bool.and_eq_true, decide_eq_true_eq] at this
   omega
  rw [decide_eq_true hpos]
 ·rw [hv, pl_none fun e he hk => hno (enP e) (mem_ents.2 ⟨e, he, rfl⟩) (by show ofOf e.1 = _; rw [hk])]
  rfl
end Go.Proofs.YtbmapdkcccdmfaaGreatDoor
namespace Go.Proofs.YtbmapdkcccdmfaaGreatDoor
open Go.RowKit Go.Shelf Go.Sort

def Vs (es : List Pr) : Prop := ∀ e, e ∈ es → 0 < e.2.size
def rfP (x : It) (n : PN) : PR := if (eS x).size < 32 then .win n else .dig (sumOf (eS x))
theorem rd_ref {x : It} {n : PN} (hf : Fit x) (hn : rdN x = some n) : rdR (refI x) = some (rfP x n) := by
 unfold refI rfP
 by_cases h : (eS x).size < 32
 ·rw [if_pos h, if_pos h, rdR_list x (fit_l hf), hn]
  rfl
 ·rw [if_neg h, if_neg h, rdR_text _ rfl]
  unfold dgR
  rw [if_pos (show (It.mk false (sumOf (eS x)) []).t.size = 32 from sum_size _)]
  rfl
theorem wk_fwd {x : It} {n : PN} (hf : Fit x) (hn : rdN x = some n) (k : Nat) (p : ByteArray) (ts : List ByteArray) : wkF (k + 1) (rfP x n) p (ownT x ++ ts) = wkF (k + 1) (.win n) p ts := by
 unfold rfP ownT
 by_cases h : (eS x).size < 32
 ·rw [if_pos h, if_pos h, List.nil_append]
 ·rw [if_neg h, if_neg h]
  refine wk_dig _ _ _ _ _ n ?_
  show (if sumOf (eS x) = sumOf (eS x) then ndOf (eS x) else none) = _
  rw [if_pos rfl, fit_nd hf, hn]
theorem lb_leaf2 {p v : ByteArray} {r : Option PR} (h : isP p = true) (hv : 0 < v.size) : lbN (.mk false (fmS p true) []) (.mk false v []) r = some (.mk p v .nil) := by
 obtain ⟨h1, h2, h3⟩ := rd_fm (l := true) h
 show (if rdGood (fmS p true) then (if rdL (fmS p true) then (if 0 < v.size then some (PN.mk (rdS (fmS p true)) v .nil) else none) else if 0 < (rdS (fmS p true)).size then r.map (fun q => PN.mk ⟨#[]⟩ ⟨#[]⟩ (.cons (rdS (fmS p true)) q .nil)) else none) else none) = _
 rw [if_pos h1, if_pos h3, if_pos hv, h2]
theorem lb_bridge2 {p : ByteArray} {b : It} {q : PR} (h : isP p = true) (hp : 0 < p.size) : lbN (.mk false (fmS p false) []) b (some q) = some (.mk ⟨#[]⟩ ⟨#[]⟩ (.cons p q .nil)) := by
 obtain ⟨h1, h2, h3⟩ := rd_fm (l := false) h
 show (if rdGood (fmS p false) then (if rdL (fmS p false) then (if 0 < b.t.size then some (PN.mk (rdS (fmS p false)) b.t .nil) else none) else if 0 < (rdS (fmS p false)).size then (some q).map (fun q => PN.mk ⟨#[]⟩ ⟨#[]⟩ (.cons (rdS (fmS p false)) q .nil)) else none) else none) = _
 rw [if_pos h1, if_neg (by rw [h3]; decide), h2, if_pos hp]
 rfl
theorem qfk_some : ∀ (xs : List It) (i : Nat) (s : PS), (∀ x, x ∈ xs → (x.l = false ∧ x.t.size = 0) ∨ ∃ q, rdR x = some q) → ∃ t, qfkS i s xs (xs.map rdR) = some t
 | [], _, s, _ => ⟨s, rfl⟩
 | x :: xs, i, s, h => by
  have hx := h x (by simp)
  have hr : ∀ y, y ∈ xs → (y.l = false ∧ y.t.size = 0) ∨ ∃ q, rdR y = some q := fun y hy => h y (by simp [hy])
  show ∃ t, (if x.l = false ∧ x.t.size = 0 then qfkS (i + 1) s xs (xs.map rdR) else match rdR x with
   | none => none
   | some q => qfkS (i + 1) (s.snoc (b1 i) q) xs (xs.map rdR)) = some t
  by_cases hz : x.l = false ∧ x.t.size = 0
  ·rw [if_pos hz]
   exact qfk_some xs (i + 1) s hr
  ·rw [if_neg hz]
   rcases hx with hx | ⟨q, hq⟩
   ·exact absurd hx hz
   ·rw [hq]
    exact qfk_some xs (i + 1) _ hr
theorem Vs.going {d : Nat} {es : List Pr} (h : Vs es) (x : Int) : Vs (es.filter (goes d x)) := fun e he => h e (List.mem_filter.1 he).1
theorem rd_nd : ∀ (f d : Nat) (es : List Pr), 129 ≤ f + d → Ok d es → es.length ≤ 40 → Vs es → ∃ n, rdN (ndF f d es).x = some n := by
 intro f
 induction f with
 | zero =>
  intro d es hf h
  obtain ⟨e, r, rfl⟩ : ∃ e r, es = e :: r := by
   cases es with
   | nil => exact absurd h.pos (by simp)
   | cons e r => exact ⟨e, r, rfl⟩
  have := h.sz 0 e rfl
  omega
 | succ f IH =>
  intro d es hf h hl hv
  rcases nd_case (f := f) h with ⟨e, rfl⟩ | ⟨e, a, he, ha, hok, h0, heq⟩ | ⟨h2, heq⟩
  ·have hx : (ndF (f + 1) d [e]).x = .mk true ⟨#[]⟩ [.mk false (fmS (tl d e) true) [], .mk false e.2 []] := rfl
   rw [hx, rdN_two]
   exact ⟨_, lb_leaf2 (isP_tl h (by simp)) (hv e (by simp))⟩
  ·rw [heq]
   have hip := isP_cut (isP_tl h he) a (by rw [tl_size]; omega)
   obtain ⟨b, hb⟩ : ∃ b, (tl d e).extract 0 a = b := ⟨_, rfl⟩
   have hbz : b.size = a := by rw [← hb, ByteArray.size_extract, tl_size]; omega
   rw [hb] at hip ⊢
   obtain ⟨n, hn⟩ := IH (d + a) es (by omega) hok hl hv
   have hx : (brN b (ndF f (d + a) es)).x = .mk true ⟨#[]⟩ [.mk false (fmS b false) [], refI (ndF f (d + a) es).x] := rfl
   rw [hx, rdN_two, rd_ref (nd_fit f (d + a) es (by omega) hok hl).1 hn]
   exact ⟨_, lb_bridge2 hip (by omega)⟩
  ·rw [heq, fork_halves _ h h2, rdN_fork _ _ (by simp)]
   obtain ⟨t, ht⟩ := qfk_some ((List.range 16).map (hvI (ndF f (d + 1)) d es)) 0 .nil fun x hx => by
    obtain ⟨g, hg, rfl⟩ := List.mem_map.1 hx
    unfold hvI
    by_cases hne : (es.filter (goes d (g : Int))).length = 0
    ·rw [if_pos hne]
     exact .inl ⟨rfl, rfl⟩
    ·rw [if_neg hne]
     have hl1 := List.length_filter_le (goes d (g : Int)) es
     have hok := h.going (g : Int) hne
     obtain ⟨n, hn⟩ := IH (d + 1) _ (by omega) hok (by omega) (hv.going (g : Int))
     exact .inr ⟨_, rd_ref (nd_fit f (d + 1) _ (by omega) hok (by omega)).1 hn⟩
   unfold qfkN
   rw [if_neg (by show ¬ false = true; decide), ht]
   exact ⟨_, rfl⟩
theorem wyN_own (p : ByteArray) (nd : Nd) : wyN p nd = ownT nd.x ++ wyS p nd.ss := by
 obtain ⟨x, ss⟩ := nd
 rfl
theorem honest_in : ∀ (f d : Nat) (es : List Pr), 129 ≤ f + d → Ok d es → es.length ≤ 40 → Vs es → ∀ (q : ByteArray), d ≤ q.size → isP q = true → (∀ e ∈ es, ∀ t, t < d → bt e.1 t = bt q t) →
  ∀ (k : Nat) (n : PN), q.size - d < k → rdN (ndF f d es).x = some n → ∃ v, wkF k (.win n) (q.extract d q.size) (wyS (q.extract d q.size) (ndF f d es).ss) = (v, true) ∧ Tells es q v := by
 intro f
 induction f with
 | zero =>
  intro d es hf h
  obtain ⟨e, r, rfl⟩ : ∃ e r, es = e :: r := by
   cases es with
   | nil => exact absurd h.pos (by simp)
   | cons e r => exact ⟨e, r, rfl⟩
  have := h.sz 0 e rfl
  omega
 | succ f IH =>
  intro d es hf h hl hv q hd hq hc k n hk hn
  have hsz := ((Ok_iff d es).1 h).2.2.1
  obtain ⟨k, rfl⟩ : ∃ j, k = j + 1 := ⟨k - 1, by omega⟩
  rw [wk_win]
  rcases nd_case (f := f) h with ⟨e, rfl⟩ | ⟨e, a, he, ha, hok, h0, heq⟩ | ⟨h2, heq⟩
  ·have hx : (ndF (f + 1) d [e]).x = .mk true ⟨#[]⟩ [.mk false (fmS (tl d e) true) [], .mk false e.2 []] := rfl
   rw [hx, rdN_two] at hn
   have hn' := hn
   obtain rfl := lb_leaf (isP_tl h (by simp)) hn'
   show ∃ v, (if q.extract d q.size = tl d e then (e.2, true) else (⟨#[]⟩, true)) = (v, true) ∧ _
   by_cases hp : q.extract d q.size = tl d e
   ·rw [if_pos hp]
    exact ⟨_, rfl, .inl ⟨e, by simp, path_same (m := (q, e.2)) (hsz e (by simp)).1 hd (hc e (by simp)) hp.symm, rfl⟩⟩
   ·rw [if_neg hp]
    refine ⟨_, rfl, .inr ⟨fun y hy hyq => ?_, rfl⟩⟩
    obtain rfl := List.mem_singleton.1 hy
    apply hp
    unfold tl
    rw [hyq]
  ·rw [heq] at hn ⊢
   have hip := isP_cut (isP_tl h he) a (by rw [tl_size]; omega)
   obtain ⟨b, hb⟩ : ∃ b, (tl d e).extract 0 a = b := ⟨_, rfl⟩
   have hbz : b.size = a := by rw [← hb, ByteArray.size_extract, tl_size]; omega
   rw [hb] at hn hip ⊢
   obtain ⟨n2, hn2⟩ := rd_nd f (d + a) es (by omega) hok hl hv
   have hfit := (nd_fit f (d + a) es (by omega) hok hl).1
   have hx : (brN b (ndF f (d + a) es)).x = .mk true ⟨#[]⟩ [.mk false (fmS b false) [], refI (ndF f (d + a) es).x] := rfl
   rw [hx, rdN_two, rd_ref hfit hn2, lb_bridge2 hip (by omega)] at hn
   obtain rfl := Option.some.inj hn
   have hal := ((Ok_iff (d + a) es).1 hok).2.2.2.2.1
   have hsz' := ((Ok_iff (d + a) es).1 hok).2.2.1
   have hws : wyS (q.extract d q.size) (brN b (ndF f (d + a) es)).ss = if pfB (q.extract d q.size) b then wyN (pfR (q.extract d q.size) b) (ndF f (d + a) es) else [] := rfl
   rw [hws]
   show ∃ v, (if q.extract d q.size = ⟨#[]⟩ then ((⟨#[]⟩ : ByteArray), (if pfB (q.extract d q.size) b then wyN (pfR (q.extract d q.size) b) (ndF f (d + a) es) else []).isEmpty) else match (if pfB (q.extract d q.size) b then some (rfP (ndF f (d + a) es).x n2, pfR (q.extract d q.size) b) else none) with | none => (⟨#[]⟩, (if pfB (q.extract d q.size) b then wyN (pfR (q.extract d q.size) b) (ndF f (d + a) es) else []).isEmpty) | some (r, rest) => wkF k r rest (if pfB (q.extract d q.size) b then wyN (pfR (q.extract d q.size) b) (ndF f (d + a) es) else [])) = (v, true) ∧ _
   have hpf : pfB (q.extract d q.size) b = decide (d + b.size ≤ q.size ∧ q.extract d (d + b.size) = b) := pfx_iff b q d (by omega)
   have hbb : ∀ t, d ≤ t → t < d + a → bt e.1 t = bt b (t - d) := fun t h1 h2 => by
    rw [← hb, cut_bt (tl d e) a (t - d) (by rw [tl_size]; omega) (by omega), tl_bt d e _ (by omega), show d + (t - d) = t by omega]
   by_cases hp : q.extract d q.size = ⟨#[]⟩
   ·have hqd := ex_empty hd hp
    have hpn : pfB (q.extract d q.size) b = false := by rw [hpf]; exact decide_eq_false fun h => by have := h.1; omega
    rw [if_pos hp, hpn, if_neg (by decide)]
    refine ⟨_, rfl, .inr ⟨fun y hy hyq => ?_, rfl⟩⟩
    have := (hsz' y hy).1
    rw [hyq] at this
    omega
   ·rw [if_neg hp]
    by_cases hpb : pfB (q.extract d q.size) b = true
    ·rw [if_pos hpb, if_pos hpb]
     have hrs : pfR (q.extract d q.size) b = q.extract (d + a) q.size := by
      rw [← hbz]
      exact rst_ext b q d hpb
     rw [hrs, wyN_own]
     have hpd := hpb
     rw [hpf, decide_eq_true_eq, hbz] at hpd
     obtain ⟨j, rfl⟩ : ∃ j, k = j + 1 := ⟨k - 1, by omega⟩
     show ∃ v, wkF (j + 1) (rfP (ndF f (d + a) es).x n2) (q.extract (d + a) q.size) (ownT (ndF f (d + a) es).x ++ wyS (q.extract (d + a) q.size) (ndF f (d + a) es).ss) = (v, true) ∧ _
     rw [wk_fwd hfit hn2]
     exact IH (d + a) es (by omega) hok hl hv q hpd.1 hq (fun x hx t ht => by
      by_cases htd : t < d
      ·exact hc x hx t htd
      ·rw [hal x hx e he t ht, hbb t (by omega) ht]
       have this : bt (q.extract d (d + a)) (t - d) = bt b (t - d) := by rw [hpd.2]
       rw [← this, ← bt_get _ (t - d) (by rw [ByteArray.size_extract]; omega), ByteArray.getElem_extract, bt_get, show d + (t - d) = t by omega]) (j + 1) n2 (by omega) hn2
    ·rw [if_neg hpb, if_neg hpb]
     refine ⟨_, rfl, .inr ⟨fun y hy hyq => hpb ?_, rfl⟩⟩
     have hyz := (hsz' y hy).1
     rw [hpf, decide_eq_true_eq, hbz]
     rw [hyq] at hyz
     refine ⟨hyz, ext_bt _ _ (by rw [ByteArray.size_extract]; omega) fun j hj => ?_⟩
     rw [ByteArray.size_extract] at hj
     rw [← bt_get _ j (by rw [ByteArray.size_extract]; omega), ByteArray.getElem_extract, bt_get, ← hyq, hal y hy e he (d + j) (by omega), hbb (d + j) (by omega) (by omega), show d + j - d = j by omega]
  ·rw [heq] at hn ⊢
   rw [fork_halves _ h h2, rdN_fork _ _ (by simp)] at hn
   obtain ⟨X, hX⟩ : ∃ X, (List.range 16).map (hvI (ndF f (d + 1)) d es) = X := ⟨_, rfl⟩
   rw [hX] at hn
   unfold qfkN at hn
   rw [if_neg (by show ¬ false = true; decide), Option.map_eq_some_iff] at hn
   obtain ⟨s, hs, rfl⟩ := hn
   rw [wyS_fork _ h h2]
   obtain ⟨T, hT⟩ : ∃ T, (if d < q.size ∧ (es.filter (goes d (bt q d))).length ≠ 0 then wyN (q.extract (d + 1) q.size) (ndF f (d + 1) (es.filter (goes d (bt q d)))) else []) = T := ⟨_, rfl⟩
   rw [hT]
   show ∃ v, (if q.extract d q.size = ⟨#[]⟩ then (vlE d es, T.isEmpty) else match stepTo (q.extract d q.size) s with | none => (⟨#[]⟩, T.isEmpty) | some (r, rest) => wkF k r rest T) = (v, true) ∧ _
   by_cases hp : q.extract d q.size = ⟨#[]⟩
   ·have hqd := ex_empty hd hp
    rw [if_neg (fun h => by have := h.1; omega)] at hT
    rw [if_pos hp, ← hT]
    refine ⟨_, rfl, ?_⟩
    by_cases hex : ∃ y ∈ es, y.1.size = d
    ·obtain ⟨y, hy, hyz⟩ := hex
     exact .inl ⟨y, hy, ext_bt _ _ (by omega) fun t ht => hc y hy t (by omega), vlE_of h hy hyz⟩
    ·exact .inr ⟨fun y hy hyq => hex ⟨y, hy, by rw [hyq]; exact hqd⟩, vlE_none fun y hy hyz => hex ⟨y, hy, hyz⟩⟩
   ·rw [if_neg hp]
    have hqd : d < q.size := by
     rcases Nat.lt_or_ge d q.size with h | h
     ·exact h
     ·exfalso
      apply hp
      refine ext_bt _ _ (by rw [ex_size]; show _ = 0; omega) fun j hj => ?_
      rw [ex_size] at hj
      omega
    have hqb := (isP_iff q).1 hq d hqd
    rw [n_bt_eq] at hqb
    have hqb0 : 0 ≤ bt q d := by unfold bt; exact Int.natCast_nonneg _
    obtain ⟨g, hg⟩ : ∃ g : Nat, bt q d = (g : Int) := ⟨(bt q d).toNat, by omega⟩
    rw [hg] at hT
    have hg16 : g < 16 := by omega
    have hpi : ∀ i, i < 16 → pfB (q.extract d q.size) (b1 i) = decide (i = g) := fun i hi => by
     have := one_pfx (i : Int) ⟨by omega, by omega⟩ q d
     rw [b1_one]
     refine Eq.trans this ?_
     by_cases hig : i = g
     ·rw [decide_eq_true hig, decide_eq_true ⟨hqd, by omega⟩]
     ·rw [decide_eq_false hig, decide_eq_false (fun hh => hig (by have := hh.2; omega))]
    have hXg : X[g]? = some (hvI (ndF f (d + 1)) d es g) := by
     rw [← hX, List.getElem?_map, List.getElem?_range hg16]
     rfl
    have gs : ∀ {x : Pr}, x ∈ es.filter (goes d (g : Int)) → x ∈ es ∧ bt x.1 d = (g : Int) := fun hx => by
     obtain ⟨h8, h9⟩ := List.mem_filter.1 hx
     unfold goes at h9
     rw [Bool.and_eq_true] at h9
     exact ⟨h8, of_decide_eq_true h9.2⟩
    have gi : ∀ y ∈ es, y.1 = q → y ∈ es.filter (goes d (g : Int)) := fun y hy hyq => by
     refine List.mem_filter.2 ⟨hy, ?_⟩
     unfold goes
     rw [hyq, decide_eq_true hqd, decide_eq_true hg]
     rfl
    have hfin := (qst (q.extract d q.size) g hpi X (X.map rdR) 0 .nil s (by rw [← hX]; simp) rfl hs).2 (Nat.zero_le _) _ hXg
    rw [Nat.sub_zero] at hfin
    by_cases hne : (es.filter (goes d (g : Int))).length = 0
    ·have hz : hvI (ndF f (d + 1)) d es g = zIt := by unfold hvI; rw [if_pos hne]
     rw [hz] at hfin
     rw [if_neg (fun h => h.2 hne)] at hT
     rcases hfin with ⟨_, hst⟩ | ⟨hnz, _⟩
     ·rw [hst, ← hT]
      refine ⟨_, rfl, .inr ⟨fun y hy hyq => ?_, rfl⟩⟩
      have := gi y hy hyq
      rw [List.length_eq_zero_iff.1 hne] at this
      cases this
     ·exact absurd ⟨rfl, rfl⟩ hnz
    ·have hz : hvI (ndF f (d + 1)) d es g = refI (ndF f (d + 1) (es.filter (goes d (g : Int)))).x := by unfold hvI; rw [if_neg hne]
     rw [if_pos ⟨hqd, hne⟩, wyN_own] at hT
     have hl1 := List.length_filter_le (goes d (g : Int)) es
     have hok := h.going (g : Int) hne
     have hfit := (nd_fit f (d + 1) _ (by omega) hok (by omega)).1
     obtain ⟨n2, hn2⟩ := rd_nd f (d + 1) _ (by omega) hok (by omega) (hv.going (g : Int))
     rw [hz] at hfin
     rcases hfin with ⟨⟨hz1, hz2⟩, _⟩ | ⟨_, r, hr, hst⟩
     ·exfalso
      unfold refI at hz1 hz2
      split at hz1
      ·rw [fit_l hfit] at hz1
       cases hz1
      ·next hs32 =>
       rw [if_neg hs32] at hz2
       have : (sumOf (eS (ndF f (d + 1) (es.filter (goes d (g : Int)))).x)).size = 0 := hz2
       rw [sum_size] at this
       cases this
     ·rw [List.getElem?_map, hXg, hz] at hr
      have hr2 : rdR (refI (ndF f (d + 1) (es.filter (goes d (g : Int)))).x) = some r := Option.some.inj hr
      rw [rd_ref hfit hn2] at hr2
      obtain rfl := Option.some.inj hr2
      have hrs : pfR (q.extract d q.size) (b1 g) = q.extract (d + 1) q.size := rst_ext (b1 g) q d ((hpi g hg16).trans (decide_eq_true rfl))
      rw [hst, hrs, ← hT]
      obtain ⟨j, rfl⟩ : ∃ j, k = j + 1 := ⟨k - 1, by omega⟩
      show ∃ v, wkF (j + 1) (rfP (ndF f (d + 1) (es.filter (goes d (g : Int)))).x n2) (q.extract (d + 1) q.size) (ownT (ndF f (d + 1) (es.filter (goes d (g : Int)))).x ++ wyS (q.extract (d + 1) q.size) (ndF f (d + 1) (es.filter (goes d (g : Int)))).ss) = (v, true) ∧ _
      rw [wk_fwd hfit hn2]
      obtain ⟨v, hv1, hv2⟩ := IH (d + 1) _ (by omega) hok (by omega) (hv.going (g : Int)) q (by omega) hq (fun x hx t ht => by
       obtain ⟨x1, x2⟩ := gs hx
       by_cases htd : t < d
       ·exact hc x x1 t htd
       ·obtain rfl : t = d := by omega
        rw [x2, hg]) (j + 1) n2 (by omega) hn2
      refine ⟨v, hv1, ?_⟩
      rcases hv2 with ⟨y, hy, hyq, hyv⟩ | ⟨hno, hv0⟩
      ·exact .inl ⟨y, (gs hy).1, hyq, hyv⟩
      ·exact .inr ⟨fun y hy hyq => hno y (gi y hy hyq) hyq, hv0⟩
theorem wk_count : ∀ (k : Nat) (r : PR) (p : ByteArray) (ts : List ByteArray), (wkF k r p ts).2 = true → ts.length ≤ k
 | 0, _, _, _, h => by rw [wkF] at h; cases h
 | k + 1, .win n, p, ts, h => by
  rw [wk_win] at h
  have nil : ts.isEmpty = true → ts.length ≤ k + 1 := fun hn => by
   rw [List.isEmpty_iff] at hn
   rw [hn]
   exact Nat.zero_le _
  split at h
  ·exact nil h
  ·split at h
   ·exact nil h
   ·have := wk_count k _ _ _ h
    omega
 | k + 1, .dig d, p, [], h => Nat.zero_le _
 | k + 1, .dig d, p, x :: ts, h => by
  obtain ⟨x', r, n, e, h2, h3⟩ := wk_first h
  obtain ⟨rfl, rfl⟩ := List.cons.inj e
  have ha : askN d (x :: ts) = some n := by
   show (if sumOf x = d then ndOf x else none) = _
   rw [if_pos h2, h3]
  rw [wk_dig _ _ _ _ _ n ha, wk_win] at h
  have nil : ts.isEmpty = true → (x :: ts).length ≤ k + 1 := fun hn => by
   rw [List.isEmpty_iff] at hn
   rw [hn]
   exact Nat.succ_le_succ (Nat.zero_le _)
  split at h
  ·exact nil h
  ·split at h
   ·exact nil h
   ·have := wk_count k _ _ _ h
    rw [List.length_cons]
    omega
mutual
theorem wy_sizeN : ∀ (n : Nd) (p u : ByteArray), u ∈ wyN p n → u.size ≤ 65536
 | .mk x ss, p, u, h => by
  have h' : u ∈ ownT x ++ wyS p ss := h
  rcases List.mem_append.1 h' with h | h
  ·unfold ownT at h
   split at h
   ·cases h
   ·rw [List.mem_singleton.1 h]
    exact eS_size x
  ·exact wy_sizeS ss p u h
theorem wy_sizeS : ∀ (s : Sts) (p u : ByteArray), u ∈ wyS p s → u.size ≤ 65536
 | .nil, _, _, h => by cases h
 | .cons q n r, p, u, h => by
  have h' : u ∈ if pfx q p then wyN (rst p q) n else wyS p r := h
  split at h'
  ·exact wy_sizeN n _ u h'
  ·exact wy_sizeS r p u h'
end
theorem vs_right {es : List Pr} (hr : RightP es) : Vs (ents (srt es)) := fun e he => by
 obtain ⟨p, hp, rfl⟩ := mem_ents.1 he
 obtain ⟨j, hj⟩ := List.getElem?_of_mem hp
 have := hr.2.1 j p hj
 unfold pOk at this
 simp only [Bool.and_eq_true, decide_eq_true_eq] at this
 show 0 < p.2.size
 omega
set_option maxHeartbeats 1000000 in
theorem honest_all {es : List Pr} {key : ByteArray} (hr : RightP es) (hl : es.length ≤ 40) (hk : 0 < key.size) (hk2 : key.size ≤ 64) :
  chkF (rtS true es) key (tdS true (wayL (kyP key)) es) = ((plE es key).1, (plE es key).2, 0) := by
 have hky : kyP key = ofOf key := by
  unfold kyP
  rw [show min key.size 64 = key.size by omega, of_whole]
 by_cases h0 : es.length = 0
 ·obtain rfl := List.length_eq_zero_iff.1 h0
  have hrt : rtS true [] = sumOf ⟨#[128]⟩ := by
   unfold rtS topB
   rw [if_pos rfl, if_pos (by rw [(srt_perm []).length_eq]; rfl)]
  have htd : tdS true (wayL (kyP key)) [] = [] := by
   unfold tdS wyL
   rw [if_pos rfl, if_pos (by rw [(srt_perm []).length_eq]; rfl)]
  rw [hrt, htd]
  unfold chkF
  rw [if_pos ⟨hk, hk2, by unfold rgT; rw [sum_size]; rfl⟩, if_pos ⟨rfl, rfl⟩]
  rfl
 ·have n0 : ¬ (srt es).length = 0 := by rw [(srt_perm es).length_eq]; exact h0
  have hn : (ents (srt es)).length ≤ 40 := by rw [ents_len, (srt_perm es).length_eq]; exact hl
  have hok := ok_srt hr h0
  have f1 := (nd_fit 129 0 _ (by omega) hok hn).1
  obtain ⟨n, hrd⟩ := rd_nd 129 0 _ (by omega) hok hn (vs_right hr)
  obtain ⟨v, hv1, hv2⟩ := honest_in 129 0 _ (by omega) hok hn (vs_right hr) (ofOf key) (Nat.zero_le _) (of_path key) (fun _ _ t ht => absurd ht (Nat.not_lt_zero t)) (2 * key.size + 1) n (by rw [of_size]; omega) hrd
  rw [of_whole] at hv1
  obtain ⟨X, hX⟩ : ∃ X, ndF 129 0 (ents (srt es)) = X := ⟨_, rfl⟩
  have hrt : rtS true es = sumOf (eS X.x) := by
   unfold rtS topB topN
   rw [if_pos rfl, if_neg n0, hX]
  have htd : tdS true (wayL (kyP key)) es = eS X.x :: wyS (ofOf key) X.ss := by
   unfold tdS wyL topN wayL
   rw [if_pos rfl, if_neg n0, hX, hky]
  rw [hX] at f1 hrd hv1
  rw [hrt, htd]
  have ha : askN (sumOf (eS X.x)) (eS X.x :: wyS (ofOf key) X.ss) = some n := by
   show (if sumOf (eS X.x) = sumOf (eS X.x) then ndOf (eS X.x) else none) = _
   rw [if_pos rfl, fit_nd f1, hrd]
  have hw : wkF (2 * key.size + 1) (.dig (sumOf (eS X.x))) (ofOf key) (eS X.x :: wyS (ofOf key) X.ss) = (v, true) := by
   rw [wk_dig _ _ _ _ _ n ha]
   exact hv1
  have hp := tells_pl hr hv2
  have hcn := wk_count _ _ _ _ (show (wkF (2 * key.size + 1) (.dig (sumOf (eS X.x))) (ofOf key) (eS X.x :: wyS (ofOf key) X.ss)).2 = true by rw [hw])
  have hrg : rgT (sumOf (eS X.x)) (eS X.x :: wyS (ofOf key) X.ss) = true := by
   unfold rgT
   rw [sum_size, decide_eq_true (show (32 : Nat) = 32 from rfl), decide_eq_true (by omega), Bool.true_and, Bool.true_and, List.all_eq_true]
   intro u hu
   refine decide_eq_true ?_
   rcases List.mem_cons.1 hu with rfl | hu
   ·exact eS_size _
   ·exact wy_sizeS _ _ _ hu
  rw [hp]
  unfold chkF
  rw [if_pos ⟨hk, hk2, hrg⟩, if_neg (fun h => by cases h.1), hw]
  rfl
end Go.Proofs.YtbmapdkcccdmfaaGreatDoor
namespace Go.Proofs.YtbmapdkcccdmfaaGreatDoor
open Go.RowKit Go.Shelf Go.Sort

theorem fwE_len2 (es : List Pr) : (fwE es).length ≤ 30 := by unfold fwE; rw [List.length_map, List.length_take]; omega
theorem prove_own {b : Bool} {es : List Pr} (hb0 : b = true ↔ RightP es) (key : ByteArray) (a : Option Addr) (c n : Nat) (w : World) (hl : Laid w) (hn : n ≤ w.heap.size) (hs : slP n w a es) :
  Calls Tryz.prog 14 #[.slice a es.length c, .string key] w fun e w' => (∃ a' c', e = .returned (.tuple #[.slice a' (tdS b (wayL (kyP key)) es).length c', .int .i64 (erS b)]) ∧ (tdS b (wayL (kyP key)) es).length ≤ c' ∧ slS w'.heap.size w' a' (tdS b (wayL (kyP key)) es)) ∧ Below w.heap.size w w' := by
 refine (prove_any es key a c n w hl hn hs).mono fun e w' ⟨hb, h0⟩ => ⟨?_, hb⟩
 by_cases h : RightP es
 ·obtain ⟨v, h1, h2⟩ := h0.of h (srt_perm es) (srt_sorted es)
  obtain ⟨a, c, rfl, hc, h3⟩ := owns_cap7 h2
  unfold tdS erS
  rw [if_pos (hb0.2 h), if_pos (hb0.2 h)]
  exact ⟨a, c, h1, hc, h3⟩
 ·have h1 := h0.no h
  unfold tdS erS
  rw [if_neg (fun h' => h (hb0.1 h')), if_neg (fun h' => h (hb0.1 h'))]
  exact ⟨none, 0, h1, Nat.le_refl _, .inl rfl⟩
set_option maxRecDepth 20000 in
set_option maxHeartbeats 4000000 in
theorem phonest_any (es : List Pr) (a1 : Option Addr) (c1 : Nat) (key : ByteArray) (w : World) (hl : Laid w) (h1 : slP w.heap.size w a1 es) :
  Calls Tryz.prog 4 #[.slice a1 es.length c1, .string key] w fun e w' => e = .returned (.bool true) ∧ Below w.heap.size w w' := by
 have K1 := fun W (hW : Below w.heap.size w W) => few_any es a1 c1 W (slP_up (slP_below hW h1) hW.size)
 obtain ⟨N1, hN1⟩ : ∃ N, es.length = N := ⟨_, rfl⟩
 rw [hN1] at K1
 rw [hN1]
 obtain ⟨fs, hfs⟩ : ∃ q, fwE es = q := ⟨_, rfl⟩
 have lf : fs.length ≤ 30 := by rw [← hfs]; exact fwE_len2 _
 rw [hfs] at K1
 clear hfs hN1 h1
 go_enter Tryz.func4, Tryz.ntmps4
 go_wp2_with fail
 refine (shown7_any w hl).mono ?_
 rintro e w1 ⟨rfl, BW⟩
 go_wp2_with fail
 refine (K1 w1 BW).mono ?_
 rintro e w2 ⟨B2, p1, q1, rfl, s1⟩
 replace BW := belowStep BW BW.size B2
 have S1 : Hid _ := s1
 clear B2 s1 K1
 obtain ⟨n0, hn0⟩ : ∃ q, fs.length = q := ⟨_, rfl⟩
 rw [hn0]
 obtain ⟨q, hq⟩ := right_bool fs
 have KR := root_one hq (List.Perm.refl fs) p1 q1 w2.heap.size w2 (hl.below BW) (Nat.le_refl _) S1.out
 obtain ⟨root, hroot⟩ : ∃ z, rtS q fs = z := ⟨_, rfl⟩
 rw [hroot, hn0] at KR
 go_wp2_with fail
 refine Calls.mono KR ?_
 rintro e w3 ⟨rfl, B3⟩
 replace BW := belowStep BW BW.size B3
 have T1 : Hid (slP w3.heap.size w3 p1 fs) := slP_up (slP_below B3 S1.out) B3.size
 clear B3 KR S1
 have KP := prove_own hq key p1 q1 w3.heap.size w3 (hl.below BW) (Nat.le_refl _) T1.out
 obtain ⟨ys, hys⟩ : ∃ z, tdS q (wayL (kyP key)) fs = z := ⟨_, rfl⟩
 rw [hys, hn0] at KP
 have ly : ys.length ≤ 100000 := by
  have := tdW_len (kyP key) fs hq
  rw [hys] at this
  omega
 obtain ⟨n2, hn2⟩ : ∃ q, ys.length = q := ⟨_, rfl⟩
 rw [hn2] at KP ly
 have HH : Hid (_ ∧ _ ∧ _) := ⟨hq, hroot, hys⟩
 have HN : Hid (_ ∧ _ ∧ _) := ⟨hn0, hn2, lf⟩
 clear hq hroot hys hn2 hn0 lf
 go_wp2_with fail
 refine Calls.mono KP ?_
 rintro e w4 ⟨⟨p2, q2, rfl, hq2, s2⟩, B4⟩
 replace BW := belowStep BW BW.size B4
 have V1 : Hid (slP w4.heap.size w4 p1 fs) := slP_up (slP_below B4 T1.out) B4.size
 have V2 : Hid _ := s2
 clear B4 KP T1 s2
 cases q with
 | false =>
  have e2 : erS false = 60 := rfl
  rw [e2]
  go_wp2
  go_ret
  exact ⟨rfl, BW⟩
 | true =>
  have e2 : erS true = 0 := rfl
  rw [e2]
  by_cases hk0 : 0 < key.size
  ·by_cases hk1 : key.size ≤ 64
   ·have l0 : ¬ (key.size : Int) < 1 := by omega
    have l1 : ¬ (64 : Int) < key.size := by omega
    have C1 := check_any root key ys (by rw [HN.out.2.1]; omega) p2 q2 w4.heap.size (by rw [HN.out.2.1]; exact hq2) w4 (Nat.le_refl _) (hl.below BW) V2.out
    have hres : chkF root key ys = ((plE fs key).1, (plE fs key).2, 0) := by
     rw [← HH.out.2.1, ← HH.out.2.2]
     exact honest_all (HH.out.1.1 (by trivial)) (by have := HN.out; omega) hk0 hk1
    have C2 := fun w5 hs => plain_any fs key (by have := HN.out; omega) p1 q1 w4.heap.size w5 hs
    obtain ⟨⟨rv, rb⟩, hr2⟩ : ∃ q, plE fs key = q := ⟨_, rfl⟩
    rw [hr2] at hres C2
    dsimp only at hres C2
    rw [hres, HN.out.2.1] at C1
    rw [HN.out.1] at C2
    dsimp only at C1
    clear hres hr2
    go_wp2_with fail
    refine Calls.mono C1 ?_
    rintro e w5 ⟨rfl, B5⟩
    have hs5 := B5.size
    have X1 : Hid (slP w4.heap.size w5 p1 fs) := slP_below B5 V1.out
    replace BW := belowStep BW BW.size B5
    clear B5 C1 V1 V2
    go_wp2_with fail
    refine Calls.mono (C2 w5 hs5 X1.out) ?_
    rintro e w6 ⟨rfl, B6⟩
    replace BW := belowStep BW BW.size B6
    have hb1 : (rv.toList == rv.toList) = true := beq_self_eq_true _
    have hb2 : (rb == rb) = true := beq_self_eq_true _
    clear C2 B6
    go_wp2
    go_ret
    exact ⟨by simp, BW⟩
   ·have l0 : ¬ (key.size : Int) < 1 := by omega
    have l1 : (64 : Int) < key.size := by omega
    go_wp2
    go_ret
    exact ⟨rfl, BW⟩
  ·have l0 : (key.size : Int) < 1 := by omega
   go_wp2
   go_ret
   exact ⟨rfl, BW⟩
end Go.Proofs.YtbmapdkcccdmfaaGreatDoor
