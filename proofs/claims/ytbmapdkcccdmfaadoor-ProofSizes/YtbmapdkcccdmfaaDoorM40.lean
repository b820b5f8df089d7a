/- Lemmas: told's closure. handAll. How many nodes there are; told. handAlong. The trie of the law's four pairs. Right pairs are sorted in one way alone. -/
import Derived.Test.YtbmapdkcccdmfaaDoorM1
import Derived.Test.YtbmapdkcccdmfaaDoorM10
import Derived.Test.YtbmapdkcccdmfaaDoorM11
import Derived.Test.YtbmapdkcccdmfaaDoorM12
import Derived.Test.YtbmapdkcccdmfaaDoorM13
import Derived.Test.YtbmapdkcccdmfaaDoorM14
import Derived.Test.YtbmapdkcccdmfaaDoorM15
import Derived.Test.YtbmapdkcccdmfaaDoorM16
import Derived.Test.YtbmapdkcccdmfaaDoorM17
import Derived.Test.YtbmapdkcccdmfaaDoorM18
import Derived.Test.YtbmapdkcccdmfaaDoorM19
import Derived.Test.YtbmapdkcccdmfaaDoorM2
import Derived.Test.YtbmapdkcccdmfaaDoorM20
import Derived.Test.YtbmapdkcccdmfaaDoorM21
import Derived.Test.YtbmapdkcccdmfaaDoorM22
import Derived.Test.YtbmapdkcccdmfaaDoorM23
import Derived.Test.YtbmapdkcccdmfaaDoorM24
import Derived.Test.YtbmapdkcccdmfaaDoorM25
import Derived.Test.YtbmapdkcccdmfaaDoorM26
import Derived.Test.YtbmapdkcccdmfaaDoorM3
import Derived.Test.YtbmapdkcccdmfaaDoorM32
import Derived.Test.YtbmapdkcccdmfaaDoorM33
import Derived.Test.YtbmapdkcccdmfaaDoorM34
import Derived.Test.YtbmapdkcccdmfaaDoorM35
import Derived.Test.YtbmapdkcccdmfaaDoorM36
import Derived.Test.YtbmapdkcccdmfaaDoorM37
import Derived.Test.YtbmapdkcccdmfaaDoorM39
import Derived.Test.YtbmapdkcccdmfaaDoorM4
import Derived.Test.YtbmapdkcccdmfaaDoorM6
import Derived.Test.YtbmapdkcccdmfaaDoorM7
import Derived.Test.YtbmapdkcccdmfaaDoorM8
import Derived.Test.YtbmapdkcccdmfaaDoorM9
import Derived.Test.YtbmapdkcccdmfaaDoorRows
import Derived.Test.YtbmapdkcccdmfaaDoorM38
import Derived.LaidEqlPtr
namespace Go.Proofs.YtbmapdkcccdmfaaDoor
open Go.RowKit Go.Shelf Go.Sort

def tdB (b bT : Nat) (nd : Nd) : Bool := decide (b = bT) || !decide ((eS nd.x).size < 32)
theorem info_text : (Tryd.prog.info? 9).map (fun i => (i.zero, i.size, i.bytes)) = some (some (.string ⟨#[]⟩), 1, 16) := by kernel_rfl

structure TdK (W2 : World) (ao : Option Addr) (b n c0 : Nat) (t : ByteArray) (S : Nat → Bool) (x12 x13 x14 x15 x16 x17 : Value) (W : World) : Prop where
 e : Below W2.heap.size W2 W
 f0 : S 0 = true → x12 = Value.slice ao n c0
 f1 : S 1 = true → x13 = Value.pointer (some ⟨b, 0, none⟩)
 f2 : S 2 = true → x14 = Value.pointer (some ⟨b, 0, none⟩)
 f3 : S 3 = true → x15 = Value.pointer (some ⟨b, 3, none⟩)
 f4 : S 4 = true → x16 = Value.string t
 f5 : S 5 = true → ∃ g, x17 = .slice (some ⟨g, 0, none⟩) 1 1 ∧ W2.heap.size ≤ g ∧ g < W.heap.size ∧ W.heap[g]? = some (.cells #[.string t] 9 (0, 0))
theorem TdK.grow {W2 : World} {ao : Option Addr} {b n c0 : Nat} {t : ByteArray} {S : Nat → Bool} {x12 x13 x14 x15 x16 x17 : Value} {W W' : World} (h : TdK W2 ao b n c0 t S x12 x13 x14 x15 x16 x17 W) (hb : Below W.heap.size W W') : TdK W2 ao b n c0 t S x12 x13 x14 x15 x16 x17 W' :=
 ⟨belowStep h.e h.e.size hb, h.f0, h.f1, h.f2, h.f3, h.f4, fun s => (h.f5 s).imp fun _ ⟨j1, j0, j2, j3⟩ => ⟨j1, j0, Nat.lt_of_lt_of_le j2 hb.size, (hb.block _ j2).trans j3⟩⟩
end Go.Proofs.YtbmapdkcccdmfaaDoor
namespace Go.Proofs.YtbmapdkcccdmfaaDoor
open Go.RowKit Go.Shelf Go.Sort

def ownT (x : It) : List ByteArray := if (eS x).size < 32 then [] else [eS x]
mutual
def allN : Nd → List ByteArray
 | .mk x ss => ownT x ++ allS ss
def allS : Sts → List ByteArray
 | .nil => []
 | .cons _ n r => allN n ++ allS r
end
mutual
def cN : Nd → Nat
 | .mk _ ss => cS ss + 1
def cS : Sts → Nat
 | .nil => 0
 | .cons _ n r => cN n + cS r
end
def hdd (b bT : Nat) (nd : Nd) : List ByteArray := (if tdB b bT nd then [eS nd.x] else []) ++ allS nd.ss


end Go.Proofs.YtbmapdkcccdmfaaDoor
namespace Go.Proofs.YtbmapdkcccdmfaaDoor
open Go.RowKit Go.Shelf Go.Sort

theorem cS_snoc : ∀ (s : Sts) (p : ByteArray) (n : Nd), cS (s.snoc p n) = cS s + cN n
 | .nil, _, n => by show cN n + 0 = 0 + cN n; omega
 | .cons q m r, p, n => by
  show cN m + cS (r.snoc p n) = cN m + cS r + cN n
  rw [cS_snoc r p n]
  omega
theorem cS_fold : ∀ (ks : List (Int × Nd)) (s : Sts), cS (ks.foldl (fun s k => s.snoc (oneB k.1) k.2) s) = cS s + (ks.map fun k => cN k.2).sum
 | [], s => by simp
 | k :: r, s => by
  rw [List.foldl_cons, cS_fold r, cS_snoc, List.map_cons, List.sum_cons]
  omega
theorem rsE_len (d : Nat) (es : List Pr) : (rsE d es).length ≤ es.length := by
 unfold rsE
 split
 ·split <;> simp
 ·simp
theorem sum_cN (f : Nat) (nd : List Pr → Nd) (d : Nat) (rs : List Pr) (h : ∀ l : List Pr, cN (nd l) ≤ 1 + f * l.length) : ∀ gs : List (Nat × Nat), (∀ g ∈ gs, 1 ≤ g.2) → ((gs.map (kdE nd d rs)).map fun k => cN k.2).sum ≤ (f + 1) * (gs.map fun g => g.2).sum
 | [], _ => by simp
 | g :: r, hg => by
  have h1 := h ((rs.drop g.1).take g.2)
  have h2 : ((rs.drop g.1).take g.2).length ≤ g.2 := by rw [List.length_take]; omega
  have h3 := sum_cN f nd d rs h r (fun g h => hg g (by simp [h]))
  have h4 := hg g (by simp)
  have h5 := Nat.mul_le_mul_left f h2
  simp only [List.map_cons, List.sum_cons]
  rw [Nat.mul_add, Nat.add_mul, Nat.one_mul]
  have h6 : cN (kdE nd d rs g).2 = cN (nd ((rs.drop g.1).take g.2)) := rfl
  omega
theorem pg_pos (d : Nat) (rs : List Pr) (g : Nat × Nat) (hg : g ∈ pg d rs 0) : 1 ≤ g.2 := by
 obtain ⟨_, h1, h2⟩ := pg_mem d rs _ _ g hg
 have h3 := rn_pos (d := d) h1
 omega
theorem cN_nd : ∀ (f d : Nat) (es : List Pr), cN (ndF f d es) ≤ 1 + f * es.length
 | 0, _, _ => by show 0 + 1 ≤ _; omega
 | _ + 1, _, [] => by show 0 + 1 ≤ _; omega
 | _ + 1, _, [e] => by show 0 + 1 ≤ _; omega
 | f + 1, d, e :: e2 :: r => by
  obtain ⟨a, ha⟩ : ∃ a, common (tl d e) (tl d ((e2 :: r).getLastD e2)) = a := ⟨_, rfl⟩
  by_cases h : a = 0
  ·rw [nd_fork f d e e2 r (by rw [ha]; exact h)]
   have h1 := sum_cN f (ndF f (d + 1)) d (rsE d (e :: e2 :: r)) (cN_nd f (d + 1)) (pg d (rsE d (e :: e2 :: r)) 0) (pg_pos _ _)
   have hs := pg_sum d (rsE d (e :: e2 :: r)) ((rsE d (e :: e2 :: r)).length - 0) 0 (by omega) (Nat.zero_le _)
   change ((pg d (rsE d (e :: e2 :: r)) 0).map fun g => g.2).sum + 0 = _ at hs
   have h2 := rsE_len d (e :: e2 :: r)
   have h3 : cN (fkN (ndF f (d + 1)) d (e :: e2 :: r)) = cS (fkS ((pg d (rsE d (e :: e2 :: r)) 0).map (kdE (ndF f (d + 1)) d (rsE d (e :: e2 :: r))))) + 1 := rfl
   rw [h3]
   unfold fkS
   rw [cS_fold]
   have h4 : cS .nil = 0 := rfl
   rw [h4]
   have h5 : (f + 1) * ((pg d (rsE d (e :: e2 :: r)) 0).map fun g => g.2).sum ≤ (f + 1) * (e :: e2 :: r).length := Nat.mul_le_mul_left _ (by omega)
   omega
  ·rw [nd_bridge f d e e2 r a ha h]
   have h1 := cN_nd f (d + a) (e :: e2 :: r)
   have h3 : cN (brN ((tl d e).extract 0 a) (ndF f (d + a) (e :: e2 :: r))) = cN (ndF f (d + a) (e :: e2 :: r)) + 0 + 1 := rfl
   rw [h3, Nat.add_mul, Nat.one_mul]
   have : 1 ≤ (e :: e2 :: r).length := by simp
   omega
theorem cN_top (es : List Pr) (h : es.length ≤ 200) : cN (topN es) < 100000 := by
 have h1 := cN_nd 129 0 (ents es)
 rw [ents_len] at h1
 unfold topN
 omega

def wyL (G : Nd → List ByteArray) (es : List Pr) : List ByteArray := if es.length = 0 then [] else G (topN es)
def TdP (n : Nat) (G : Nd → List ByteArray) (es : List Pr) (e : Ending) (w' : World) : Prop := (¬ RightP es ∧ e = .returned (.tuple #[.slice none 0 0, .int .i64 60])) ∨
 (RightP es ∧ ∃ (es' : List Pr) (v : Value), es'.Perm es ∧ SortedP es' ∧ e = .returned (.tuple #[v, .int .i64 0]) ∧ w'.ownsRow n 9 1 v (wyL G es').length ((wyL G es').map .string))
end Go.Proofs.YtbmapdkcccdmfaaDoor
namespace Go.Proofs.YtbmapdkcccdmfaaDoor
open Go.RowKit Go.Shelf Go.Sort

def pfx (p path : ByteArray) : Bool := Lib.hasPrefix path.data.toList p.data.toList
def rst (path p : ByteArray) : ByteArray := ⟨(Lib.trimPrefix path.data.toList p.data.toList).toArray⟩
mutual
def wyN (path : ByteArray) : Nd → List ByteArray
 | .mk x ss => ownT x ++ wyS path ss
def wyS (path : ByteArray) : Sts → List ByteArray
 | .nil => []
 | .cons p n r => if pfx p path then wyN (rst path p) n else wyS path r
end

def wayL (path : ByteArray) (nd : Nd) : List ByteArray := eS nd.x :: wyS path nd.ss
def kyP (key : ByteArray) : ByteArray := ofOf (key.extract 0 (min key.size 64))
end Go.Proofs.YtbmapdkcccdmfaaDoor
namespace Go.Proofs.YtbmapdkcccdmfaaDoor
open Go.RowKit Go.Shelf Go.Sort

def four4 : List Pr := [(⟨#[100, 111]⟩, ⟨#[118, 101, 114, 98]⟩), (⟨#[100, 111, 103]⟩, ⟨#[112, 117, 112, 112, 121]⟩), (⟨#[100, 111, 103, 101]⟩, ⟨#[99, 111, 105, 110]⟩), (⟨#[104, 111, 114, 115, 101]⟩, ⟨#[115, 116, 97, 108, 108, 105, 111, 110]⟩)]
def eDo : Pr := (⟨#[6, 4, 6, 15]⟩, ⟨#[118, 101, 114, 98]⟩)
def eDog : Pr := (⟨#[6, 4, 6, 15, 6, 7]⟩, ⟨#[112, 117, 112, 112, 121]⟩)
def eDoge : Pr := (⟨#[6, 4, 6, 15, 6, 7, 6, 5]⟩, ⟨#[99, 111, 105, 110]⟩)
def eHorse : Pr := (⟨#[6, 8, 6, 15, 7, 2, 7, 3, 6, 5]⟩, ⟨#[115, 116, 97, 108, 108, 105, 111, 110]⟩)
theorem ents4 : ents four4 = [eDo, eDog, eDoge, eHorse] := by decide +kernel

theorem refI_dig {x : It} {t d : ByteArray} (h : eS x = t) (hs : 32 ≤ t.size) (hd : sumOf t = d) : refI x = .mk false d [] := by
 unfold refI
 rw [h, if_neg (by omega), hd]
def tx (s : ByteArray) : It := .mk false s []
def X7 : It := .mk true ⟨#[]⟩ [tx ⟨#[53]⟩, tx ⟨#[99, 111, 105, 110]⟩]
def nod7 : Nd := .mk X7 .nil
def X6 : It := .mk true ⟨#[]⟩ [zIt, zIt, zIt, zIt, zIt, zIt, X7, zIt, zIt, zIt, zIt, zIt, zIt, zIt, zIt, zIt, tx ⟨#[112, 117, 112, 112, 121]⟩]
def nod6 : Nd := .mk X6 (.cons ⟨#[6]⟩ nod7 .nil)
def X5 : It := .mk true ⟨#[]⟩ [tx ⟨#[23]⟩, X6]
def nod5 : Nd := .mk X5 (.cons ⟨#[7]⟩ nod6 .nil)
def X4 : It := .mk true ⟨#[]⟩ [zIt, zIt, zIt, zIt, zIt, zIt, X5, zIt, zIt, zIt, zIt, zIt, zIt, zIt, zIt, zIt, tx ⟨#[118, 101, 114, 98]⟩]
def nod4 : Nd := .mk X4 (.cons ⟨#[6]⟩ nod5 .nil)
def X2 : It := .mk true ⟨#[]⟩ [tx ⟨#[0, 111]⟩, tx D1.d]
def nod2 : Nd := .mk X2 (.cons ⟨#[6, 15]⟩ nod4 .nil)
def XH : It := .mk true ⟨#[]⟩ [tx ⟨#[32, 111, 114, 115, 101]⟩, tx ⟨#[115, 116, 97, 108, 108, 105, 111, 110]⟩]
def nodH : Nd := .mk XH .nil
def X1 : It := .mk true ⟨#[]⟩ [zIt, zIt, zIt, zIt, tx D2.d, zIt, zIt, zIt, XH, zIt, zIt, zIt, zIt, zIt, zIt, zIt, zIt]
def nod1 : Nd := .mk X1 (.cons ⟨#[4]⟩ nod2 (.cons ⟨#[8]⟩ nodH .nil))
def X0 : It := .mk true ⟨#[]⟩ [tx ⟨#[22]⟩, tx D3.d]
def nod0 : Nd := .mk X0 (.cons ⟨#[6]⟩ nod1 .nil)

theorem n4 : ndF 126 4 [eDo, eDog, eDoge] = nod4 := by kernel_rfl
theorem t4 : eS X4 = D1.t := by decide +kernel
theorem r4 : refI X4 = tx D1.d := refI_dig t4 (by decide +kernel) D1.sum
theorem n2 : ndF 127 2 [eDo, eDog, eDoge] = nod2 := by
 rw [nd_bridge 126 2 eDo eDog [eDoge] 2 (by decide +kernel) (by decide), show 2 + 2 = 4 from rfl, n4]
 unfold brN
 rw [show nod4.x = X4 from rfl, r4]
 kernel_rfl
theorem t2 : eS X2 = D2.t := by decide +kernel
theorem r2 : refI X2 = tx D2.d := refI_dig t2 (by decide +kernel) D2.sum
theorem nH : ndF 127 2 [eHorse] = nodH := by kernel_rfl
theorem n1 : ndF 128 1 [eDo, eDog, eDoge, eHorse] = nod1 := by
 rw [nd_fork 127 1 eDo eDog [eDoge, eHorse] (by decide +kernel)]
 have hp : (pg 1 (rsE 1 [eDo, eDog, eDoge, eHorse]) 0).map (kdE (ndF 127 2) 1 (rsE 1 [eDo, eDog, eDoge, eHorse])) = [(4, ndF 127 2 [eDo, eDog, eDoge]), (8, ndF 127 2 [eHorse])] := by kernel_rfl
 unfold fkN
 rw [hp, n2, nH]
 have hv : vlE 1 [eDo, eDog, eDoge, eHorse] = ⟨#[]⟩ := by decide +kernel
 rw [hv]
 unfold fkI fkS
 simp only [List.foldl_cons, List.foldl_nil]
 rw [show nod2.x = X2 from rfl, r2]
 show Nd.mk (It.mk true ⟨#[]⟩ (((List.replicate 16 zIt ++ [zIt]).set 4 (tx D2.d)).set 8 (refI XH))) (((Sts.nil).snoc ⟨#[4]⟩ nod2).snoc ⟨#[8]⟩ nodH) = nod1
 kernel_rfl
theorem t1 : eS X1 = D3.t := by decide +kernel
theorem r1 : refI X1 = tx D3.d := refI_dig t1 (by decide +kernel) D3.sum
theorem n0 : ndF 129 0 [eDo, eDog, eDoge, eHorse] = nod0 := by
 rw [nd_bridge 128 0 eDo eDog [eDoge, eHorse] 1 (by decide +kernel) (by decide), show 0 + 1 = 1 from rfl, n1]
 unfold brN
 rw [show nod1.x = X1 from rfl, r1]
 kernel_rfl
theorem t0 : eS X0 = D4.t := by decide +kernel
theorem top4 : topN four4 = nod0 := by
 unfold topN
 rw [ents4, n0]
theorem topB4 : topB four4 = D4.t := by
 unfold topB
 rw [if_neg (by decide), top4]
 exact t0
theorem way4 : wyL (wayL (kyP ⟨#[100, 111, 103]⟩)) four4 = [D4.t, D3.t, D2.t, D1.t] := by
 unfold wyL
 rw [if_neg (by decide), top4]
 have hk : kyP ⟨#[100, 111, 103]⟩ = ⟨#[6, 4, 6, 15, 6, 7]⟩ := by decide +kernel
 rw [hk]
 unfold wayL
 have o1 : ownT X1 = [D3.t] := by
  unfold ownT
  rw [t1, if_neg (by decide +kernel)]
 have o2 : ownT X2 = [D2.t] := by
  unfold ownT
  rw [t2, if_neg (by decide +kernel)]
 have o4 : ownT X4 = [D1.t] := by
  unfold ownT
  rw [t4, if_neg (by decide +kernel)]
 have o5 : ownT X5 = [] := by decide +kernel
 have o6 : ownT X6 = [] := by decide +kernel
 have w6 : wyN ⟨#[]⟩ nod6 = [] := by
  show ownT X6 ++ (if pfx ⟨#[6]⟩ ⟨#[]⟩ = true then _ else []) = []
  rw [o6, if_neg (by decide +kernel)]
  rfl
 have w5 : wyN ⟨#[7]⟩ nod5 = [] := by
  show ownT X5 ++ (if pfx ⟨#[7]⟩ ⟨#[7]⟩ = true then wyN (rst ⟨#[7]⟩ ⟨#[7]⟩) nod6 else []) = []
  rw [o5, if_pos (by decide +kernel), show rst ⟨#[7]⟩ ⟨#[7]⟩ = ⟨#[]⟩ by decide +kernel, w6]
  rfl
 have w4 : wyN ⟨#[6, 7]⟩ nod4 = [D1.t] := by
  show ownT X4 ++ (if pfx ⟨#[6]⟩ ⟨#[6, 7]⟩ = true then wyN (rst ⟨#[6, 7]⟩ ⟨#[6]⟩) nod5 else []) = _
  rw [o4, if_pos (by decide +kernel), show rst ⟨#[6, 7]⟩ ⟨#[6]⟩ = ⟨#[7]⟩ by decide +kernel, w5]
  rfl
 have w2 : wyN ⟨#[6, 15, 6, 7]⟩ nod2 = [D2.t, D1.t] := by
  show ownT X2 ++ (if pfx ⟨#[6, 15]⟩ ⟨#[6, 15, 6, 7]⟩ = true then wyN (rst ⟨#[6, 15, 6, 7]⟩ ⟨#[6, 15]⟩) nod4 else []) = _
  rw [o2, if_pos (by decide +kernel), show rst ⟨#[6, 15, 6, 7]⟩ ⟨#[6, 15]⟩ = ⟨#[6, 7]⟩ by decide +kernel, w4]
  rfl
 have w1 : wyN ⟨#[4, 6, 15, 6, 7]⟩ nod1 = [D3.t, D2.t, D1.t] := by
  show ownT X1 ++ (if pfx ⟨#[4]⟩ ⟨#[4, 6, 15, 6, 7]⟩ = true then wyN (rst ⟨#[4, 6, 15, 6, 7]⟩ ⟨#[4]⟩) nod2 else _) = _
  rw [o1, if_pos (by decide +kernel), show rst ⟨#[4, 6, 15, 6, 7]⟩ ⟨#[4]⟩ = ⟨#[6, 15, 6, 7]⟩ by decide +kernel, w2]
  rfl
 show eS X0 :: (if pfx ⟨#[6]⟩ ⟨#[6, 4, 6, 15, 6, 7]⟩ = true then wyN (rst ⟨#[6, 4, 6, 15, 6, 7]⟩ ⟨#[6]⟩) nod1 else []) = _
 rw [t0, if_pos (by decide +kernel), show rst ⟨#[6, 4, 6, 15, 6, 7]⟩ ⟨#[6]⟩ = ⟨#[4, 6, 15, 6, 7]⟩ by decide +kernel, w1]
end Go.Proofs.YtbmapdkcccdmfaaDoor
namespace Go.Proofs.YtbmapdkcccdmfaaDoor
open Go.RowKit Go.Shelf Go.Sort

def klt (x y : Pr) : Prop := ltStr x.1.data.toList y.1.data.toList = true
theorem klt_asymm {x y : Pr} (h : klt x y) (h' : klt y x) : False := by
 have a := of_decide_eq_true h
 have b := of_decide_eq_true h'
 exact absurd b (List.lt_asymm a)
theorem sorted_eq : ∀ (a b : List Pr), a.Perm b → a.Pairwise klt → b.Pairwise klt → a = b
 | [], b, h, _, _ => (List.nil_perm.1 h).symm
 | x :: r, [], h, _, _ => absurd h.length_eq (by simp)
 | x :: r, y :: s, h, ha, hb => by
  have hxy : x = y := by
   have hx : x ∈ y :: s := h.mem_iff.1 (by simp)
   have hy : y ∈ x :: r := h.mem_iff.2 (by simp)
   rcases List.mem_cons.1 hx with e | hx
   ·exact e
   ·rcases List.mem_cons.1 hy with e | hy
    ·exact e.symm
    ·exact (klt_asymm (List.rel_of_pairwise_cons ha hy) (List.rel_of_pairwise_cons hb hx)).elim
  subst hxy
  rw [sorted_eq r s (List.Perm.cons_inv h) (List.Pairwise.of_cons ha) (List.Pairwise.of_cons hb)]
theorem sorted_pw (es : List Pr) (hr : RightP es) (hs : SortedP es) : es.Pairwise klt := by
 rw [List.pairwise_iff_getElem]
 intro i j hi hj hij
 have e1 : es[i]? = some es[i] := List.getElem?_eq_getElem hi
 have e2 : es[j]? = some es[j] := List.getElem?_eq_getElem hj
 unfold klt
 cases hxy : ltStr es[i].1.data.toList es[j].1.data.toList with
 | true => rfl
 | false => exact absurd (bytes_inj2 (tri_ltStr _ _ hxy (hs i j _ _ hij e1 e2))) (hr.2.2 i j _ _ hij e1 e2)
theorem sorted_one {es a b : List Pr} (hr : RightP es) (h1 : a.Perm es) (h2 : b.Perm es) (s1 : SortedP a) (s2 : SortedP b) : a = b :=
 sorted_eq a b (h1.trans h2.symm) (sorted_pw a ((right_perm h1).2 hr) s1) (sorted_pw b ((right_perm h2).2 hr) s2)
end Go.Proofs.YtbmapdkcccdmfaaDoor
