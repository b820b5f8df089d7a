/- Lemmas: The trie of the law's four pairs. Right pairs are sorted in one way alone. -/
import Derived.Test.YtbpcciifaekffaaGreatDoorM1
import Derived.Test.YtbpcciifaekffaaGreatDoorM10
import Derived.Test.YtbpcciifaekffaaGreatDoorM11
import Derived.Test.YtbpcciifaekffaaGreatDoorM12
import Derived.Test.YtbpcciifaekffaaGreatDoorM13
import Derived.Test.YtbpcciifaekffaaGreatDoorM14
import Derived.Test.YtbpcciifaekffaaGreatDoorM15
import Derived.Test.YtbpcciifaekffaaGreatDoorM16
import Derived.Test.YtbpcciifaekffaaGreatDoorM17
import Derived.Test.YtbpcciifaekffaaGreatDoorM18
import Derived.Test.YtbpcciifaekffaaGreatDoorM19
import Derived.Test.YtbpcciifaekffaaGreatDoorM2
import Derived.Test.YtbpcciifaekffaaGreatDoorM20
import Derived.Test.YtbpcciifaekffaaGreatDoorM21
import Derived.Test.YtbpcciifaekffaaGreatDoorM22
import Derived.Test.YtbpcciifaekffaaGreatDoorM23
import Derived.Test.YtbpcciifaekffaaGreatDoorM24
import Derived.Test.YtbpcciifaekffaaGreatDoorM25
import Derived.Test.YtbpcciifaekffaaGreatDoorM26
import Derived.Test.YtbpcciifaekffaaGreatDoorM27
import Derived.Test.YtbpcciifaekffaaGreatDoorM28
import Derived.Test.YtbpcciifaekffaaGreatDoorM29
import Derived.Test.YtbpcciifaekffaaGreatDoorM3
import Derived.Test.YtbpcciifaekffaaGreatDoorM30
import Derived.Test.YtbpcciifaekffaaGreatDoorM31
import Derived.Test.YtbpcciifaekffaaGreatDoorM32
import Derived.Test.YtbpcciifaekffaaGreatDoorM33
import Derived.Test.YtbpcciifaekffaaGreatDoorM34
import Derived.Test.YtbpcciifaekffaaGreatDoorM35
import Derived.Test.YtbpcciifaekffaaGreatDoorM36
import Derived.Test.YtbpcciifaekffaaGreatDoorM37
import Derived.Test.YtbpcciifaekffaaGreatDoorM38
import Derived.Test.YtbpcciifaekffaaGreatDoorM39
import Derived.Test.YtbpcciifaekffaaGreatDoorM4
import Derived.Test.YtbpcciifaekffaaGreatDoorM40
import Derived.Test.YtbpcciifaekffaaGreatDoorM41
import Derived.Test.YtbpcciifaekffaaGreatDoorM6
import Derived.Test.YtbpcciifaekffaaGreatDoorM7
import Derived.Test.YtbpcciifaekffaaGreatDoorM8
import Derived.Test.YtbpcciifaekffaaGreatDoorM9
import Derived.Test.YtbpcciifaekffaaGreatDoorRows
namespace Go.Proofs.YtbpcciifaekffaaGreatDoor
open Go.RowKit Go.Shelf Go.Sort

def four4 : List Pr := [(⟨#[100, 111]⟩, ⟨#[118, 101, 114, 98]⟩), (⟨#[100, 111, 103]⟩, ⟨#[112, 117, 112, 112, 121]⟩), (⟨#[100, 111, 103, 101]⟩, ⟨#[99, 111, 105, 110]⟩), (⟨#[104, 111, 114, 115, 101]⟩, ⟨#[115, 116, 97, 108, 108, 105, 111, 110]⟩)]
def eDo : Pr := (⟨#[6, 4, 6, 15]⟩, ⟨#[118, 101, 114, 98]⟩)
def eDog : Pr := (⟨#[6, 4, 6, 15, 6, 7]⟩, ⟨#[112, 117, 112, 112, 121]⟩)
def eDoge : Pr := (⟨#[6, 4, 6, 15, 6, 7, 6, 5]⟩, ⟨#[99, 111, 105, 110]⟩)
def eHorse : Pr := (⟨#[6, 8, 6, 15, 7, 2, 7, 3, 6, 5]⟩, ⟨#[115, 116, 97, 108, 108, 105, 111, 110]⟩)
theorem ents4 : ents four4 = [eDo, eDog, eDoge, eHorse] := by decide +kernel

theorem refI_dig {x : It} {t d : ByteArray} (h : eS x = t) (hs : 32 ≤ t.size) (hd : sumOf t = d) : refI x = .mk false d [] := by
  unfold refI
  rw [h, if_neg (by omega), hd]
def tx (s : ByteArray) : It := .mk false s []
def X7 : It := .mk true ⟨#[]⟩ [tx ⟨#[53]⟩, tx ⟨#[99, 111, 105, 110]⟩]
def nod7 : Nd := .mk X7 .nil
def X6 : It := .mk true ⟨#[]⟩ [zIt, zIt, zIt, zIt, zIt, zIt, X7, zIt, zIt, zIt, zIt, zIt, zIt, zIt, zIt, zIt, tx ⟨#[112, 117, 112, 112, 121]⟩]
def nod6 : Nd := .mk X6 (.cons ⟨#[6]⟩ nod7 .nil)
def X5 : It := .mk true ⟨#[]⟩ [tx ⟨#[23]⟩, X6]
def nod5 : Nd := .mk X5 (.cons ⟨#[7]⟩ nod6 .nil)
def X4 : It := .mk true ⟨#[]⟩ [zIt, zIt, zIt, zIt, zIt, zIt, X5, zIt, zIt, zIt, zIt, zIt, zIt, zIt, zIt, zIt, tx ⟨#[118, 101, 114, 98]⟩]
def nod4 : Nd := .mk X4 (.cons ⟨#[6]⟩ nod5 .nil)
def X2 : It := .mk true ⟨#[]⟩ [tx ⟨#[0, 111]⟩, tx D1.d]
def nod2 : Nd := .mk X2 (.cons ⟨#[6, 15]⟩ nod4 .nil)
def XH : It := .mk true ⟨#[]⟩ [tx ⟨#[32, 111, 114, 115, 101]⟩, tx ⟨#[115, 116, 97, 108, 108, 105, 111, 110]⟩]
def nodH : Nd := .mk XH .nil
def X1 : It := .mk true ⟨#[]⟩ [zIt, zIt, zIt, zIt, tx D2.d, zIt, zIt, zIt, XH, zIt, zIt, zIt, zIt, zIt, zIt, zIt, zIt]
def nod1 : Nd := .mk X1 (.cons ⟨#[4]⟩ nod2 (.cons ⟨#[8]⟩ nodH .nil))
def X0 : It := .mk true ⟨#[]⟩ [tx ⟨#[22]⟩, tx D3.d]
def nod0 : Nd := .mk X0 (.cons ⟨#[6]⟩ nod1 .nil)

theorem n7 : ndF 123 7 [eDoge] = nod7 := by kernel_rfl
theorem n6 : ndF 124 6 [eDog, eDoge] = nod6 := by kernel_rfl
theorem n5 : ndF 125 5 [eDog, eDoge] = nod5 := by kernel_rfl
theorem n4 : ndF 126 4 [eDo, eDog, eDoge] = nod4 := by kernel_rfl
theorem t4 : eS X4 = D1.t := by decide +kernel
theorem r4 : refI X4 = tx D1.d := refI_dig t4 (by decide +kernel) D1.sum
theorem n2 : ndF 127 2 [eDo, eDog, eDoge] = nod2 := by
  rw [nd_bridge 126 2 eDo eDog [eDoge] 2 (by decide +kernel) (by decide), show 2 + 2 = 4 from rfl, n4]
  unfold brN
  rw [show nod4.x = X4 from rfl, r4]
  kernel_rfl
theorem t2 : eS X2 = D2.t := by decide +kernel
theorem r2 : refI X2 = tx D2.d := refI_dig t2 (by decide +kernel) D2.sum
theorem nH : ndF 127 2 [eHorse] = nodH := by kernel_rfl
theorem n1 : ndF 128 1 [eDo, eDog, eDoge, eHorse] = nod1 := by
  rw [nd_fork 127 1 eDo eDog [eDoge, eHorse] (by decide +kernel)]
  have hp : (pg 1 (rsE 1 [eDo, eDog, eDoge, eHorse]) 0).map (kdE (ndF 127 2) 1 (rsE 1 [eDo, eDog, eDoge, eHorse])) = [(4, ndF 127 2 [eDo, eDog, eDoge]), (8, ndF 127 2 [eHorse])] := by kernel_rfl
  unfold fkN
  rw [hp, n2, nH]
  have hv : vlE 1 [eDo, eDog, eDoge, eHorse] = ⟨#[]⟩ := by decide +kernel
  rw [hv]
  unfold fkI fkS
  simp only [List.foldl_cons, List.foldl_nil]
  rw [show nod2.x = X2 from rfl, r2]
  show Nd.mk (It.mk true ⟨#[]⟩ (((List.replicate 16 zIt ++ [zIt]).set 4 (tx D2.d)).set 8 (refI XH))) (((Sts.nil).snoc ⟨#[4]⟩ nod2).snoc ⟨#[8]⟩ nodH) = nod1
  kernel_rfl
theorem t1 : eS X1 = D3.t := by decide +kernel
theorem r1 : refI X1 = tx D3.d := refI_dig t1 (by decide +kernel) D3.sum
theorem n0 : ndF 129 0 [eDo, eDog, eDoge, eHorse] = nod0 := by
  rw [nd_bridge 128 0 eDo eDog [eDoge, eHorse] 1 (by decide +kernel) (by decide), show 0 + 1 = 1 from rfl, n1]
  unfold brN
  rw [show nod1.x = X1 from rfl, r1]
  kernel_rfl
theorem t0 : eS X0 = D4.t := by decide +kernel
theorem top4 : topN four4 = nod0 := by
  unfold topN
  rw [ents4, n0]
theorem topB4 : topB four4 = D4.t := by
  unfold topB
  rw [if_neg (by decide), top4]
  exact t0
theorem way4 : wyL (wayL (kyP ⟨#[100, 111, 103]⟩)) four4 = [D4.t, D3.t, D2.t, D1.t] := by
  unfold wyL
  rw [if_neg (by decide), top4]
  have hk : kyP ⟨#[100, 111, 103]⟩ = ⟨#[6, 4, 6, 15, 6, 7]⟩ := by decide +kernel
  rw [hk]
  unfold wayL
  have o1 : ownT X1 = [D3.t] := by
    unfold ownT
    rw [t1, if_neg (by decide +kernel)]
  have o2 : ownT X2 = [D2.t] := by
    unfold ownT
    rw [t2, if_neg (by decide +kernel)]
  have o4 : ownT X4 = [D1.t] := by
    unfold ownT
    rw [t4, if_neg (by decide +kernel)]
  have o5 : ownT X5 = [] := by decide +kernel
  have o6 : ownT X6 = [] := by decide +kernel
  have w6 : wyN ⟨#[]⟩ nod6 = [] := by
    show ownT X6 ++ (if pfx ⟨#[6]⟩ ⟨#[]⟩ = true then _ else []) = []
    rw [o6, if_neg (by decide +kernel)]
    rfl
  have w5 : wyN ⟨#[7]⟩ nod5 = [] := by
    show ownT X5 ++ (if pfx ⟨#[7]⟩ ⟨#[7]⟩ = true then wyN (rst ⟨#[7]⟩ ⟨#[7]⟩) nod6 else []) = []
    rw [o5, if_pos (by decide +kernel), show rst ⟨#[7]⟩ ⟨#[7]⟩ = ⟨#[]⟩ by decide +kernel, w6]
    rfl
  have w4 : wyN ⟨#[6, 7]⟩ nod4 = [D1.t] := by
    show ownT X4 ++ (if pfx ⟨#[6]⟩ ⟨#[6, 7]⟩ = true then wyN (rst ⟨#[6, 7]⟩ ⟨#[6]⟩) nod5 else []) = _
    rw [o4, if_pos (by decide +kernel), show rst ⟨#[6, 7]⟩ ⟨#[6]⟩ = ⟨#[7]⟩ by decide +kernel, w5]
    rfl
  have w2 : wyN ⟨#[6, 15, 6, 7]⟩ nod2 = [D2.t, D1.t] := by
    show ownT X2 ++ (if pfx ⟨#[6, 15]⟩ ⟨#[6, 15, 6, 7]⟩ = true then wyN (rst ⟨#[6, 15, 6, 7]⟩ ⟨#[6, 15]⟩) nod4 else []) = _
    rw [o2, if_pos (by decide +kernel), show rst ⟨#[6, 15, 6, 7]⟩ ⟨#[6, 15]⟩ = ⟨#[6, 7]⟩ by decide +kernel, w4]
    rfl
  have w1 : wyN ⟨#[4, 6, 15, 6, 7]⟩ nod1 = [D3.t, D2.t, D1.t] := by
    show ownT X1 ++ (if pfx ⟨#[4]⟩ ⟨#[4, 6, 15, 6, 7]⟩ = true then wyN (rst ⟨#[4, 6, 15, 6, 7]⟩ ⟨#[4]⟩) nod2 else _) = _
    rw [o1, if_pos (by decide +kernel), show rst ⟨#[4, 6, 15, 6, 7]⟩ ⟨#[4]⟩ = ⟨#[6, 15, 6, 7]⟩ by decide +kernel, w2]
    rfl
  show eS X0 :: (if pfx ⟨#[6]⟩ ⟨#[6, 4, 6, 15, 6, 7]⟩ = true then wyN (rst ⟨#[6, 4, 6, 15, 6, 7]⟩ ⟨#[6]⟩) nod1 else []) = _
  rw [t0, if_pos (by decide +kernel), show rst ⟨#[6, 4, 6, 15, 6, 7]⟩ ⟨#[6]⟩ = ⟨#[4, 6, 15, 6, 7]⟩ by decide +kernel, w1]
end Go.Proofs.YtbpcciifaekffaaGreatDoor
namespace Go.Proofs.YtbpcciifaekffaaGreatDoor
open Go.RowKit Go.Shelf Go.Sort

/-- A key ahead of another one. -/
def klt (x y : Pr) : Prop := ltStr x.1.data.toList y.1.data.toList = true
theorem klt_asymm {x y : Pr} (h : klt x y) (h' : klt y x) : False := by
  have a := of_decide_eq_true h
  have b := of_decide_eq_true h'
  exact absurd b (List.lt_asymm a)
theorem sorted_eq : ∀ (a b : List Pr), a.Perm b → a.Pairwise klt → b.Pairwise klt → a = b
  | [], b, h, _, _ => (List.nil_perm.1 h).symm
  | x :: r, [], h, _, _ => absurd h.length_eq (by simp)
  | x :: r, y :: s, h, ha, hb => by
    have hxy : x = y := by
      have hx : x ∈ y :: s := h.mem_iff.1 (by simp)
      have hy : y ∈ x :: r := h.mem_iff.2 (by simp)
      rcases List.mem_cons.1 hx with e | hx
      · exact e
      · rcases List.mem_cons.1 hy with e | hy
        · exact e.symm
        · exact (klt_asymm (List.rel_of_pairwise_cons ha hy) (List.rel_of_pairwise_cons hb hx)).elim
    subst hxy
    rw [sorted_eq r s (List.Perm.cons_inv h) (List.Pairwise.of_cons ha) (List.Pairwise.of_cons hb)]
theorem sorted_pw (es : List Pr) (hr : RightP es) (hs : SortedP es) : es.Pairwise klt := by
  rw [List.pairwise_iff_getElem]
  intro i j hi hj hij
  have e1 : es[i]? = some es[i] := List.getElem?_eq_getElem hi
  have e2 : es[j]? = some es[j] := List.getElem?_eq_getElem hj
  unfold klt
  cases hxy : ltStr es[i].1.data.toList es[j].1.data.toList with
  | true => rfl
  | false => exact absurd (bytes_inj2 (tri_ltStr _ _ hxy (hs i j _ _ hij e1 e2))) (hr.2.2 i j _ _ hij e1 e2)
/-- Two sorted orders of right pairs are one. -/
theorem sorted_one {es a b : List Pr} (hr : RightP es) (h1 : a.Perm es) (h2 : b.Perm es) (s1 : SortedP a) (s2 : SortedP b) : a = b :=
  sorted_eq a b (h1.trans h2.symm) (sorted_pw a ((right_perm h1).2 hr) s1) (sorted_pw b ((right_perm h2).2 hr) s2)
end Go.Proofs.YtbpcciifaekffaaGreatDoor
