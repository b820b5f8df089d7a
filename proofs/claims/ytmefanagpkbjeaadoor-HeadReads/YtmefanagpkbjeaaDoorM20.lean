/- Lemmas: Parts of messages: where they lie, what they tell, and which items are such parts'. Numbers and texts as parts of a message: their items, and how they are read. A list of parts: its item. Texts as parts: each, and their item; a part's item, whichever it is. -/
import Derived.Test.YtmefanagpkbjeaaDoorM1
import Derived.Test.YtmefanagpkbjeaaDoorM10
import Derived.Test.YtmefanagpkbjeaaDoorM11
import Derived.Test.YtmefanagpkbjeaaDoorM12
import Derived.Test.YtmefanagpkbjeaaDoorM13
import Derived.Test.YtmefanagpkbjeaaDoorM14
import Derived.Test.YtmefanagpkbjeaaDoorM15
import Derived.Test.YtmefanagpkbjeaaDoorM16
import Derived.Test.YtmefanagpkbjeaaDoorM17
import Derived.Test.YtmefanagpkbjeaaDoorM18
import Derived.Test.YtmefanagpkbjeaaDoorM19
import Derived.Test.YtmefanagpkbjeaaDoorM2
import Derived.Test.YtmefanagpkbjeaaDoorM3
import Derived.Test.YtmefanagpkbjeaaDoorM6
import Derived.Test.YtmefanagpkbjeaaDoorM7
import Derived.Test.YtmefanagpkbjeaaDoorM8
import Derived.Test.YtmefanagpkbjeaaDoorM9
import Derived.Test.YtmefanagpkbjeaaDoorRows
namespace Go.Proofs.YtmefanagpkbjeaaDoor
open Go.RowKit Go.Shelf Go.Sort

/-- A part of a message: a number, a text, texts, a list of parts; and where it lies. -/
inductive Pt where
  | num (a : Addr)
  | txt (a : Addr)
  | txs (a : Addr)
  | lst (a : Option Addr) (c : Nat) (ps : List Pt)
namespace Pt
def val : Pt → Value
  | num a => .iface 148 (.agg #[.pointer (some a)])
  | txt a => .iface 151 (.agg #[.pointer (some a)])
  | txs a => .iface 143 (.agg #[.pointer (some a)])
  | lst a c ps => .iface 145 (.slice a ps.length c)
end Pt
mutual
/-- The lists of parts lie in blocks of a kind. -/
def skIn (P : Nat → Prop) (W : World) : Pt → Prop
  | .num _ => True
  | .txt _ => True
  | .txs _ => True
  | .lst a _ ps => skRow P W a 0 ps
def skRow (P : Nat → Prop) (W : World) (a : Option Addr) : Nat → List Pt → Prop
  | _, [] => True
  | i, p :: r => (∃ b o, P b ∧ a = some ⟨b, o, none⟩ ∧ W.cell? ⟨b, o + i, none⟩ = some p.val) ∧ skIn P W p ∧ skRow P W a (i + 1) r
end
mutual
/-- Where the numbers, texts, lists of texts of a part lie. -/
def lvP : Pt → List Addr
  | .num a => [a]
  | .txt a => [a]
  | .txs a => [a]
  | .lst _ _ ps => lvPL ps
def lvPL : List Pt → List Addr
  | [] => []
  | p :: r => lvP p ++ lvPL r
end
/-- Texts lie in blocks of a kind. -/
def slP (P : Nat → Prop) (W : World) (a : Option Addr) (ts : List ByteArray) : Prop := ts = [] ∨ ∃ b o, a = some ⟨b, o, none⟩ ∧ P b ∧ ∀ j t, ts[j]? = some t → W.cell? ⟨b, o + j, none⟩ = some (.string t)
def tI (t : ByteArray) : It := .mk false t []
mutual
/-- What a part tells: its item. -/
def dtIs (P : Nat → Prop) (W : World) : Pt → It → Prop
  | .num a, x => ∃ n : Nat, n < 18446744073709551616 ∧ W.cell? a = some (.int .u64 n) ∧ x = tI (numOf n)
  | .txt a, x => ∃ t, W.cell? a = some (.string t) ∧ x = tI t
  | .txs a, x => ∃ s c ts, W.cell? a = some (.slice s ts.length c) ∧ slP P W s ts ∧ x = .mk true ⟨#[]⟩ (ts.map tI)
  | .lst _ _ ps, x => ∃ xs, x = .mk true ⟨#[]⟩ xs ∧ dtAll P W ps xs
def dtAll (P : Nat → Prop) (W : World) : List Pt → List It → Prop
  | [], xs => xs = []
  | p :: r, xs => ∃ y s, xs = y :: s ∧ dtIs P W p y ∧ dtAll P W r s
end
def lI : It → Bool | .mk l _ _ => l
def tOf : It → ByteArray | .mk _ t _ => t
def xsOf : It → List It | .mk _ _ xs => xs
mutual
/-- Is an item such a part's? -/
def rdS : Pt → It → Bool
  | .num _, x => !lI x && decide (vE (tOf x) = 0)
  | .txt _, x => !lI x
  | .txs _, x => lI x && (xsOf x).all (fun y => !lI y)
  | .lst _ _ ps, x => lI x && rdL ps (xsOf x)
def rdL : List Pt → List It → Bool
  | [], xs => xs.isEmpty
  | p :: r, xs => match xs with
    | [] => false
    | y :: s => rdS p y && rdL r s
end

theorem slP_of {P Q : Nat → Prop} {W W' : World} (h : ∀ b, P b → Q b ∧ ∀ k, W'.cell? ⟨b, k, none⟩ = W.cell? ⟨b, k, none⟩) {a : Option Addr} {ts : List ByteArray} (hp : slP P W a ts) : slP Q W' a ts := by
  rcases hp with rfl | ⟨b, o, ha, hb, hc⟩
  · exact .inl rfl
  · exact .inr ⟨b, o, ha, (h b hb).1, fun j t ht => ((h b hb).2 _).trans (hc j t ht)⟩
mutual
theorem skIn_of {P Q : Nat → Prop} {W W' : World} (h : ∀ b, P b → Q b ∧ ∀ k, W'.cell? ⟨b, k, none⟩ = W.cell? ⟨b, k, none⟩) : ∀ p, skIn P W p → skIn Q W' p
  | .num _, _ => trivial
  | .txt _, _ => trivial
  | .txs _, _ => trivial
  | .lst a _ ps, hp => skRow_of h a 0 ps hp
theorem skRow_of {P Q : Nat → Prop} {W W' : World} (h : ∀ b, P b → Q b ∧ ∀ k, W'.cell? ⟨b, k, none⟩ = W.cell? ⟨b, k, none⟩) (a : Option Addr) : ∀ i ps, skRow P W a i ps → skRow Q W' a i ps
  | _, [], _ => trivial
  | i, p :: r, ⟨⟨b, o, h0, h1, h2⟩, h3, h4⟩ => ⟨⟨b, o, (h b h0).1, h1, ((h b h0).2 _).trans h2⟩, skIn_of h p h3, skRow_of h a (i + 1) r h4⟩
end
mutual
theorem dtIs_of {P Q : Nat → Prop} {W W' : World} (h : ∀ b, P b → Q b ∧ ∀ k, W'.cell? ⟨b, k, none⟩ = W.cell? ⟨b, k, none⟩) : ∀ p x, (∀ a, a ∈ lvP p → W'.cell? a = W.cell? a) → dtIs P W p x → dtIs Q W' p x
  | .num a, _, hl, ⟨n, h1, h2, h3⟩ => ⟨n, h1, (hl a (List.mem_singleton.2 rfl)).trans h2, h3⟩
  | .txt a, _, hl, ⟨t, h2, h3⟩ => ⟨t, (hl a (List.mem_singleton.2 rfl)).trans h2, h3⟩
  | .txs a, _, hl, ⟨s, c, ts, h1, h2, h3⟩ => ⟨s, c, ts, (hl a (List.mem_singleton.2 rfl)).trans h1, slP_of h h2, h3⟩
  | .lst _ _ ps, _, hl, ⟨xs, h1, h2⟩ => ⟨xs, h1, dtAll_of h ps xs hl h2⟩
theorem dtAll_of {P Q : Nat → Prop} {W W' : World} (h : ∀ b, P b → Q b ∧ ∀ k, W'.cell? ⟨b, k, none⟩ = W.cell? ⟨b, k, none⟩) : ∀ ps xs, (∀ a, a ∈ lvPL ps → W'.cell? a = W.cell? a) → dtAll P W ps xs → dtAll Q W' ps xs
  | [], _, _, h1 => h1
  | p :: r, _, hl, ⟨y, s, h1, h2, h3⟩ => ⟨y, s, h1, dtIs_of h p y (fun a ha => hl a (List.mem_append_left _ ha)) h2, dtAll_of h r s (fun a ha => hl a (List.mem_append_right _ ha)) h3⟩
end
theorem sk_at {P : Nat → Prop} {W : World} {a : Option Addr} : ∀ (ps : List Pt) (i : Nat), skRow P W a i ps → ∀ (j : Nat) (p : Pt), ps[j]? = some p →
    (∃ b o, P b ∧ a = some ⟨b, o, none⟩ ∧ W.cell? ⟨b, o + (i + j), none⟩ = some p.val) ∧ skIn P W p
  | [], _, _, _, _, h => by cases h
  | q :: r, i, h, 0, p, hp => by
    cases hp
    exact ⟨h.1, h.2.1⟩
  | q :: r, i, h, j + 1, p, hp => by
    have := sk_at r (i + 1) h.2.2 j p hp
    rwa [show i + 1 + j = i + (j + 1) by omega] at this
theorem dt_len {P : Nat → Prop} {W : World} : ∀ (ps : List Pt) (xs : List It), dtAll P W ps xs → xs.length = ps.length
  | [], xs, h => by
    have h : xs = [] := h
    rw [h]
    rfl
  | p :: r, xs, ⟨y, s, h1, _, h3⟩ => by rw [h1, List.length_cons, List.length_cons, dt_len r s h3]
theorem dt_at {P : Nat → Prop} {W : World} : ∀ (ps : List Pt) (xs : List It), dtAll P W ps xs → ∀ (j : Nat) (p : Pt), ps[j]? = some p → ∃ y, xs[j]? = some y ∧ dtIs P W p y
  | [], _, _, _, _, h => by cases h
  | q :: r, xs, ⟨y, s, h1, h2, h3⟩, 0, p, hp => by
    cases hp
    exact ⟨y, by rw [h1]; rfl, h2⟩
  | q :: r, xs, ⟨y, s, h1, h2, h3⟩, j + 1, p, hp => by
    obtain ⟨z, hz, hd⟩ := dt_at r s h3 j p hp
    exact ⟨z, by rw [h1]; exact hz, hd⟩
theorem dt_snoc {P : Nat → Prop} {W : World} : ∀ (ps : List Pt) (xs : List It) (p : Pt) (y : It), dtAll P W ps xs → dtIs P W p y → dtAll P W (ps ++ [p]) (xs ++ [y])
  | [], xs, p, y, h1, h2 => by
    have h1 : xs = [] := h1
    subst h1
    exact ⟨y, [], rfl, h2, rfl⟩
  | q :: r, xs, p, y, ⟨z, s, h1, h3, h4⟩, h2 => ⟨z, s ++ [y], by rw [h1]; rfl, h3, dt_snoc r s p y h4 h2⟩
theorem lv_at : ∀ (ps : List Pt) (j : Nat) (p : Pt), ps[j]? = some p → ∀ a, a ∈ lvP p → a ∈ lvPL ps
  | [], _, _, h, _, _ => by cases h
  | q :: r, 0, p, h, a, ha => by
    cases h
    exact List.mem_append_left _ ha
  | q :: r, j + 1, p, h, a, ha => List.mem_append_right _ (lv_at r j p h a ha)
theorem lv_take : ∀ (ps : List Pt) (k : Nat) (a : Addr), a ∈ lvPL (ps.take k) → a ∈ lvPL ps
  | [], k, a, h => by
    have e : ([] : List Pt).take k = [] := List.take_nil
    rwa [e] at h
  | q :: r, 0, a, h => by cases h
  | q :: r, k + 1, a, h => by
    rcases List.mem_append.1 (show a ∈ lvP q ++ lvPL (r.take k) from h) with h | h
    · exact List.mem_append_left _ h
    · exact List.mem_append_right _ (lv_take r k a h)
theorem lv_snoc : ∀ (ps : List Pt) (p : Pt), lvPL (ps ++ [p]) = lvPL ps ++ lvP p
  | [], p => by
    show lvP p ++ [] = [] ++ lvP p
    simp
  | q :: r, p => by
    show lvP q ++ lvPL (r ++ [p]) = lvP q ++ lvPL r ++ lvP p
    rw [lv_snoc r p, List.append_assoc]
/-- The places of one part are none of those ahead. -/
theorem lv_apart : ∀ (ps : List Pt), (lvPL ps).Nodup → ∀ (k : Nat) (p : Pt), ps[k]? = some p → (lvP p).Nodup ∧ ∀ a, a ∈ lvPL (ps.take k) → a ∉ lvP p
  | [], _, _, _, h => by cases h
  | q :: r, hn, 0, p, h => by
    cases h
    have hn : (lvP q ++ lvPL r).Nodup := hn
    exact ⟨(List.nodup_append.1 hn).1, fun a ha => by cases ha⟩
  | q :: r, hn, k + 1, p, h => by
    have hn : (lvP q ++ lvPL r).Nodup := hn
    obtain ⟨h1, h2, h3⟩ := List.nodup_append.1 hn
    obtain ⟨h4, h5⟩ := lv_apart r h2 k p h
    refine ⟨h4, fun a ha hp => ?_⟩
    rcases List.mem_append.1 (show a ∈ lvP q ++ lvPL (r.take k) from ha) with h6 | h6
    · exact h3 a h6 a (lv_at r k p h a hp) rfl
    · exact h5 a h6 hp
theorem rdL_len : ∀ (ps : List Pt) (xs : List It), rdL ps xs = true → xs.length = ps.length
  | [], [], _ => rfl
  | [], _ :: _, h => by cases h
  | p :: r, [], h => by cases h
  | p :: r, y :: s, h => by
    have h : (rdS p y && rdL r s) = true := h
    rw [Bool.and_eq_true] at h
    rw [List.length_cons, List.length_cons, rdL_len r s h.2]
theorem rdL_take : ∀ (ps : List Pt) (xs : List It), xs.length = ps.length → ∀ (k : Nat) (p : Pt) (y : It), ps[k]? = some p → xs[k]? = some y → rdL (ps.take (k + 1)) (xs.take (k + 1)) = (rdL (ps.take k) (xs.take k) && rdS p y)
  | [], _, _, _, _, _, h, _ => by cases h
  | p :: r, [], h, _, _, _, _, _ => by cases h
  | p :: r, y :: s, h, 0, _, _, h1, h2 => by
    cases h1
    cases h2
    show (rdS p y && true) = (true && rdS p y)
    rw [Bool.and_true, Bool.true_and]
  | p :: r, y :: s, h, k + 1, p', y', h1, h2 => by
    show (rdS p y && rdL (r.take (k + 1)) (s.take (k + 1))) = ((rdS p y && rdL (r.take k) (s.take k)) && rdS p' y')
    rw [rdL_take r s (by simpa using h) k p' y' h1 h2, Bool.and_assoc]
theorem rdL_false : ∀ (ps : List Pt) (xs : List It) (k : Nat), xs.length = ps.length → rdL (ps.take k) (xs.take k) = false → rdL ps xs = false
  | [], _, k, _, h => by
    rename_i xs hl
    have e : ([] : List Pt).take k = [] := List.take_nil
    have : xs = [] := List.length_eq_zero_iff.1 hl
    subst this
    rw [e, List.take_nil] at h
    cases h
  | p :: r, [], k, hl, _ => by cases hl
  | p :: r, y :: s, 0, _, h => by cases h
  | p :: r, y :: s, k + 1, hl, h => by
    have h : (rdS p y && rdL (r.take k) (s.take k)) = false := h
    show (rdS p y && rdL r s) = false
    cases hp : rdS p y with
    | false => rfl
    | true =>
      rw [hp, Bool.true_and] at h
      rw [rdL_false r s k (by simpa using hl) h]
      rfl
theorem rgI_txt {x : It} (h : rgI x = true) (hl : lI x = false) : x = tI (tOf x) := by
  obtain ⟨l, t, xs⟩ := x
  have hl : l = false := hl
  subst hl
  have h : ((if false then decide (t.size = 0) else decide (xs.length = 0)) && rgIs xs) = true := h
  rw [Bool.and_eq_true] at h
  have : xs = [] := List.length_eq_zero_iff.1 (of_decide_eq_true h.1)
  subst this
  rfl
theorem rgI_lst {x : It} (h : rgI x = true) (hl : lI x = true) : x = .mk true ⟨#[]⟩ (xsOf x) ∧ rgIs (xsOf x) = true := by
  obtain ⟨l, t, xs⟩ := x
  have hl : l = true := hl
  subst hl
  have h : ((if true then decide (t.size = 0) else decide (xs.length = 0)) && rgIs xs) = true := h
  rw [Bool.and_eq_true] at h
  have : t = ⟨#[]⟩ := size_0 t (of_decide_eq_true h.1)
  subst this
  exact ⟨rfl, h.2⟩
/-- A block of so many cells. -/
def Ld (q : Nat) (ty : TypeId) (N : Nat) (W : World) : Prop := ∃ cs : Array Value, W.heap[q]? = some (.cells cs ty (0, 0)) ∧ cs.size = N
theorem Ld.lt {q : Nat} {ty : TypeId} {N : Nat} {W : World} (h : Ld q ty N W) : q < W.heap.size := by
  obtain ⟨cs, h, _⟩ := h
  exact (Array.getElem?_eq_some_iff.1 h).1
theorem Ld.fr {q : Nat} {ty : TypeId} {N : Nat} {W : World} (h : Ld q ty N W) (o : Nat) : W.frozen? ⟨q, o, none⟩ = false := by
  obtain ⟨cs, h, _⟩ := h
  exact Lib.frozen_of_heap h o
theorem Ld.has {q : Nat} {ty : TypeId} {N : Nat} {W : World} (h : Ld q ty N W) {o : Nat} (ho : o < N) : ∃ v, W.cell? ⟨q, o, none⟩ = some v := by
  obtain ⟨cs, h, hs⟩ := h
  rw [Lib.cell_of_heap h]
  exact ⟨_, Array.getElem?_eq_getElem (by omega)⟩
theorem Ld.below {q : Nat} {ty : TypeId} {N : Nat} {W W' : World} (h : Ld q ty N W) (hb : Below W.heap.size W W') : Ld q ty N W' := by
  have hl := h.lt
  obtain ⟨cs, h, hs⟩ := h
  exact ⟨cs, (hb.block q hl).trans h, hs⟩
end Go.Proofs.YtmefanagpkbjeaaDoor
namespace Go.Proofs.YtmefanagpkbjeaaDoor
open Go.RowKit Go.Shelf Go.Sort

theorem two_boxes (w : World) (o1 o2 : Obj) : Below w.heap.size w ((w.alloc o1).alloc o2) ∧ ((w.alloc o1).alloc o2).heap[w.heap.size]? = some o1 ∧ ((w.alloc o1).alloc o2).heap[w.heap.size + 1]? = some o2 := by
  refine ⟨((Below.refl _ w).alloc (Nat.le_refl _) _).alloc (by simp) _, (Lib.alloc_old _ _ _ (by simp)).trans (World.alloc_heap_new w _), ?_⟩
  have := World.alloc_heap_new (w.alloc o1) o2
  rwa [World.size_alloc] at this
set_option maxHeartbeats 1000000 in
theorem numItem_any (a : Addr) (n : Nat) (hn : n < 18446744073709551616) (w : World) (hb : a.block < w.heap.size) (ha : w.cell? a = some (.int .u64 n)) :
    Calls Tryd.prog 174 #[.agg #[.pointer (some a)]] w fun e w' => e = .returned (txt (numOf n)).val ∧ Below w.heap.size w w' := by
  have KN := fun w => number_any n hn w
  have KT := fun w => text_any (numOf n) w
  obtain ⟨s, hs⟩ : ∃ s, numOf n = s := ⟨_, rfl⟩
  rw [hs] at KN KT ⊢
  clear hs
  obtain ⟨A1, _, hx⟩ := two_boxes w (.cells #[.pointer (some a)] 148) (.cells #[.bool false, .string ⟨#[]⟩, .slice none 0 0] 70)
  have c0 := (A1.cell hb).trans ha
  go_enter Tryd.func174, Tryd.ntmps174
  go_wp2_with fail
  refine (KN _).mono ?_
  rintro e w1 ⟨rfl, B1⟩
  have hx1 := (B1.block (w.heap.size + 1) (by simp <;> omega)).trans hx
  have A2 := belowStep A1 (by simp <;> omega) B1
  clear A1 B1 hx c0 ha KN
  go_wp2_with fail
  refine (KT _).mono ?_
  rintro e w2 ⟨rfl, B2⟩
  have hx2 := (B2.block (w.heap.size + 1) (by have := (Array.getElem?_eq_some_iff.1 hx1).1; omega)).trans hx1
  have A3 := belowStep A2 A2.size B2
  clear A2 B2 hx1 KT
  have f0 := fun o => Lib.frozen_of_heap hx2 o
  have d0 : w2.cell? ⟨w.heap.size + 1, 0, none⟩ = some (.bool false) := by rw [Lib.cell_of_heap hx2]; rfl
  have d1 : w2.cell? ⟨w.heap.size + 1, 1, none⟩ = some (.string ⟨#[]⟩) := by rw [Lib.cell_of_heap hx2]; rfl
  have d2 : w2.cell? ⟨w.heap.size + 1, 2, none⟩ = some (.slice none 0 0) := by rw [Lib.cell_of_heap hx2]; rfl
  have hz := A3.size
  simp only [txt, Im.val, Im.sl, Im.l, Im.t, Im.a, Im.xs, Im.c, List.length_nil]
  go_wp2
  refine bodyPost_ret (v := .agg #[.bool false, .string s, .slice none 0 0]) (by simp [results, Tryd.results174, go_sem, d0, d1, d2]) rfl ⟨rfl, ?_⟩
  exact below_set (below_set (below_set A3 _ _ (by omega) _) _ _ (by omega) _) _ _ (by omega) _
set_option maxHeartbeats 1000000 in
theorem txtItem_any (a : Addr) (s : ByteArray) (w : World) (hb : a.block < w.heap.size) (ha : w.cell? a = some (.string s)) :
    Calls Tryd.prog 177 #[.agg #[.pointer (some a)]] w fun e w' => e = .returned (txt s).val ∧ Below w.heap.size w w' := by
  have KT := fun w => text_any s w
  obtain ⟨A1, _, hx⟩ := two_boxes w (.cells #[.pointer (some a)] 151) (.cells #[.bool false, .string ⟨#[]⟩, .slice none 0 0] 70)
  have c0 := (A1.cell hb).trans ha
  go_enter Tryd.func177, Tryd.ntmps177
  go_wp2_with fail
  refine (KT _).mono ?_
  rintro e w2 ⟨rfl, B2⟩
  have hx2 := (B2.block (w.heap.size + 1) (by simp <;> omega)).trans hx
  have A3 := belowStep A1 (by simp <;> omega) B2
  clear A1 B2 hx KT c0 ha
  have f0 := fun o => Lib.frozen_of_heap hx2 o
  have d0 : w2.cell? ⟨w.heap.size + 1, 0, none⟩ = some (.bool false) := by rw [Lib.cell_of_heap hx2]; rfl
  have d1 : w2.cell? ⟨w.heap.size + 1, 1, none⟩ = some (.string ⟨#[]⟩) := by rw [Lib.cell_of_heap hx2]; rfl
  have d2 : w2.cell? ⟨w.heap.size + 1, 2, none⟩ = some (.slice none 0 0) := by rw [Lib.cell_of_heap hx2]; rfl
  have hz := A3.size
  simp only [txt, Im.val, Im.sl, Im.l, Im.t, Im.a, Im.xs, Im.c, List.length_nil]
  go_wp2
  refine bodyPost_ret (v := .agg #[.bool false, .string s, .slice none 0 0]) (by simp [results, Tryd.results177, go_sem, d0, d1, d2]) rfl ⟨rfl, ?_⟩
  exact below_set (below_set (below_set A3 _ _ (by omega) _) _ _ (by omega) _) _ _ (by omega) _

set_option maxHeartbeats 1000000 in
theorem numRead_any (q o N : Nat) (ty : TypeId) (ho : o < N) (X : Im) (w : World) (hq : Ld q ty N w) :
    Calls Tryd.prog 175 #[.agg #[.pointer (some ⟨q, o, none⟩)], X.val] w fun e w' => e = .returned (.bool (!X.l && decide (vE X.t = 0))) ∧ ∃ U, Below w.heap.size w U ∧ w' = U.setCell ⟨q, o, none⟩ (.int .u64 (vN X.t)) := by
  obtain ⟨l, t, a, c, xs⟩ := X
  have KV := fun w => value_any t w
  show Calls Tryd.prog 175 #[.agg #[.pointer (some ⟨q, o, none⟩)], .agg #[.bool l, .string t, .slice a xs.length c]] w fun e w' => e = .returned (.bool (!l && decide (vE t = 0))) ∧ ∃ U, Below w.heap.size w U ∧ w' = U.setCell ⟨q, o, none⟩ (.int .u64 (vN t))
  obtain ⟨n, hn⟩ : ∃ n, vN t = n := ⟨_, rfl⟩
  obtain ⟨v, hv⟩ : ∃ v, vE t = v := ⟨_, rfl⟩
  rw [hn, hv] at KV
  rw [hn, hv]
  clear hn hv
  obtain ⟨A1, h0, hx⟩ := two_boxes w (.cells #[.pointer (some ⟨q, o, none⟩)] 148) (.cells #[.bool l, .string t, .slice a xs.length c] 70)
  go_enter Tryd.func175, Tryd.ntmps175
  go_wp2_with fail
  refine (KV _).mono ?_
  rintro e w1 ⟨rfl, B1⟩
  have hql := hq.lt
  have hx1 := (B1.block (w.heap.size + 1) (by simp <;> omega)).trans hx
  have h01 := (B1.block w.heap.size (by simp <;> omega)).trans h0
  have A2 := belowStep A1 (by simp <;> omega) B1
  have hq1 : Ld q ty N w1 := by
    obtain ⟨cs, h, hs⟩ := hq
    exact ⟨cs, (A2.block q hql).trans h, hs⟩
  obtain ⟨u, hu⟩ := hq1.has ho
  have fq := hq1.fr o
  have d0 : w1.cell? ⟨w.heap.size + 1, 0, none⟩ = some (.bool l) := by rw [Lib.cell_of_heap hx1]; rfl
  have e0 : w1.cell? ⟨w.heap.size, 0, none⟩ = some (.pointer (some ⟨q, o, none⟩)) := by rw [Lib.cell_of_heap h01]; rfl
  have n0 : q ≠ w.heap.size := by omega
  have n1 : q ≠ w.heap.size + 1 := by omega
  clear A1 B1 hx h0 KV hq hq1 hx1 h01
  have HX : Hid _ := A2
  clear A2
  cases l with
  | true =>
    go_wp2
    go_ret
    exact ⟨rfl, _, HX.out, rfl⟩
  | false =>
    go_wp2
    go_ret
    refine ⟨?_, _, HX.out, rfl⟩
    by_cases h : v = 0 <;> simp [h]
set_option maxHeartbeats 1000000 in
theorem txtRead_any (q o N : Nat) (ty : TypeId) (ho : o < N) (X : Im) (w : World) (hq : Ld q ty N w) :
    Calls Tryd.prog 178 #[.agg #[.pointer (some ⟨q, o, none⟩)], X.val] w fun e w' => e = .returned (.bool (!X.l)) ∧ ∃ U, Below w.heap.size w U ∧ w' = U.setCell ⟨q, o, none⟩ (.string X.t) := by
  obtain ⟨l, t, a, c, xs⟩ := X
  show Calls Tryd.prog 178 #[.agg #[.pointer (some ⟨q, o, none⟩)], .agg #[.bool l, .string t, .slice a xs.length c]] w fun e w' => e = .returned (.bool (!l)) ∧ ∃ U, Below w.heap.size w U ∧ w' = U.setCell ⟨q, o, none⟩ (.string t)
  obtain ⟨A1, h0, hx⟩ := two_boxes w (.cells #[.pointer (some ⟨q, o, none⟩)] 151) (.cells #[.bool l, .string t, .slice a xs.length c] 70)
  have hql := hq.lt
  have hq1 : Ld q ty N ((w.alloc (.cells #[.pointer (some ⟨q, o, none⟩)] 151)).alloc (.cells #[.bool l, .string t, .slice a xs.length c] 70)) := by
    obtain ⟨cs, h, hs⟩ := hq
    exact ⟨cs, (A1.block q hql).trans h, hs⟩
  obtain ⟨u, hu⟩ := hq1.has ho
  have fq := hq1.fr o
  have n0 : q ≠ w.heap.size := by omega
  have n1 : q ≠ w.heap.size + 1 := by omega
  have HX : Hid _ := A1
  clear A1 hq hq1 h0 hx
  go_enter Tryd.func178, Tryd.ntmps178
  go_wp2
  go_ret
  exact ⟨rfl, _, HX.out, by rw [World.setCell_alloc_past _ _ _ _ (by simp; omega), World.setCell_alloc_past _ _ _ _ hql]⟩
end Go.Proofs.YtmefanagpkbjeaaDoor
namespace Go.Proofs.YtmefanagpkbjeaaDoor
open Go.RowKit Go.Shelf Go.Sort

/-- A part's receiver, its type, and the functions that its item and its reading come to. -/
def rcv : Pt → Value
  | .num a => .agg #[.pointer (some a)]
  | .txt a => .agg #[.pointer (some a)]
  | .txs a => .agg #[.pointer (some a)]
  | .lst a c ps => .slice a ps.length c
def tyP : Pt → TypeId
  | .num _ => 148
  | .txt _ => 151
  | .txs _ => 143
  | .lst _ _ _ => 145
def itF : Pt → Nat
  | .num _ => 174
  | .txt _ => 177
  | .txs _ => 166
  | .lst _ _ _ => 168
def rdF : Pt → Nat
  | .num _ => 175
  | .txt _ => 178
  | .txs _ => 167
  | .lst _ _ _ => 169
theorem val_if (p : Pt) : p.val = .iface (tyP p) (rcv p) := by cases p <;> rfl

/-- What a part's item is. -/
def ItC (n : Nat) (p : Pt) (x : It) : Prop := ∀ w : World, n ≤ w.heap.size → skIn (fun b => b < n) w p → dtIs (fun b => b < n) w p x →
  Calls Tryd.prog (itF p) #[rcv p] w fun e w' => ∃ X : Im, e = .returned X.val ∧ er X = x ∧ inP (fun b => w.heap.size ≤ b ∧ b < w'.heap.size) w' X ∧ Below w.heap.size w w'

set_option maxRecDepth 20000 in
set_option maxHeartbeats 2000000 in
theorem lstItem_of (n : Nat) (a : Option Addr) (c : Nat) (ps : List Pt) (xs : List It) (hc : cntIs xs < 100000000)
    (IH : ∀ (j : Nat) (p : Pt) (x : It), ps[j]? = some p → xs[j]? = some x → ItC n p x) (hlv : ∀ a, a ∈ lvPL ps → a.block < n)
    (w : World) (hn : n ≤ w.heap.size) (hs : skRow (fun b => b < n) w a 0 ps) (hd : dtAll (fun b => b < n) w ps xs) :
    Calls Tryd.prog 168 #[.slice a ps.length c] w fun e w' => ∃ X : Im, e = .returned X.val ∧ er X = .mk true ⟨#[]⟩ xs ∧ inP (fun b => w.heap.size ≤ b ∧ b < w'.heap.size) w' X ∧ Below w.heap.size w w' := by
  obtain ⟨i0, hi0, hz0, hz1, hz2⟩ := info_parts info_item
  have hlx := dt_len ps xs hd
  have hlc : xs.length ≤ cntIs xs := by
    have : ∀ l : List It, l.length ≤ cntIs l := by
      intro l
      induction l with
      | nil => exact Nat.le_refl _
      | cons y r ih =>
        have : 1 ≤ cntI y := by cases y; exact Nat.le_add_left _ _
        show r.length + 1 ≤ cntI y + cntIs r
        omega
    exact this xs
  obtain ⟨N, hN⟩ : ∃ N, ps.length = N := ⟨_, rfl⟩
  rw [hN] at hlx ⊢
  obtain ⟨A0, hx⟩ := And.intro (be_new w (.cells #[.bool false, .string ⟨#[]⟩, .slice none 0 0] 70)) (it_new w zeroI)
  go_enter Tryd.func168, Tryd.ntmps168
  go_wp2_with (at_make; refine wpList_make_full _ rfl _ _ 68 rfl (w.heap.size + 1) 70 i0 _ 3 Tryd.underlying68 hi0 hz0 hz1 .i64 .i64 _ _ N rfl rfl rfl rfl (by rw [hz2]; omega) (by unfold maxLen; omega) (by simp) ?_; intro w1 hown hgr)
  rw [World.size_alloc] at hown
  obtain ⟨z, hz⟩ : ∃ z, w.heap.size + 1 = z := ⟨_, rfl⟩
  have B1 : Below w.heap.size w w1 := A0.trans ((Below.refl _ _).grown hgr (by simp) (fun _ e => by cases e))
  have hx1 : ItIn w.heap.size zeroI w1 := (hgr.block _ (by simp) (by simp)).trans hx
  have HZ : Hid (w.heap.size + 1 = z) := hz
  have hzw : z < w1.heap.size := by
    rcases hown.2 with ⟨h, _⟩ | ⟨g, _, _, h, _, h2, _⟩
    · cases h
    · cases h
      have := (Array.getElem?_eq_some_iff.1 h2).1
      omega
  obtain ⟨y, hy⟩ : ∃ y, w.heap.size = y := ⟨_, rfl⟩
  have HY : Hid (w.heap.size = y) := hy
  rw [hz] at hown ⊢
  rw [hy] at hn B1 hx1 ⊢
  have hyz : y < z := by omega
  clear A0 hx hgr hz hy
  go_loopg [11] N (fun gk i wr => ∃ (k : Nat) (cl : List Value) (ys : List Im), k + gk = N ∧ i = .int .i64 k ∧ wr.ownsRow z 70 3 (.slice (some ⟨z, 0, none⟩) N N) N cl ∧ Held cl ys ∧ ys.length = k ∧ ers ys = xs.take k ∧ (∀ y, y ∈ ys → inP (fun b => z < b ∧ b < wr.heap.size) wr y) ∧ ItIn y zeroI wr ∧ Below y w wr)
  case atStart => exact ⟨0, _, [], by omega, rfl, hown, (fun j y h => by cases h), rfl, rfl, (fun y h => by cases h), hx1, B1⟩
  case round =>
    clear B1 hx1 hown hzw
    obtain ⟨k, cl, ys, hk, rfl, hownr, hheld, hys, hers, hin, hxr, BW⟩ := hrel
    have hzr : z < wr.heap.size := (hownr.lt z rfl).2
    by_cases hlt : k < N
    · have l1 : (k : Int) < N := by omega
      obtain ⟨p, hp⟩ : ∃ p, ps[k]? = some p := ⟨ps[k]'(by omega), List.getElem?_eq_getElem (by omega)⟩
      obtain ⟨x, hx, hdx⟩ := dt_at ps xs hd k p hp
      obtain ⟨⟨b, o, hb, rfl, c0⟩, hsk⟩ := sk_at ps 0 hs k p hp
      have hby : b < y := by omega
      replace c0 := (BW.cell (p := ⟨b, _, none⟩) hby).trans c0
      rw [show o + (0 + k) = o + k by omega, val_if] at c0
      have hcell : ∀ m : Nat, m < n → ∀ j, wr.cell? ⟨m, j, none⟩ = w.cell? ⟨m, j, none⟩ := fun m hm j => BW.cell (p := ⟨m, j, none⟩) (by show m < y; omega)
      have KI := IH k p x hp hx wr (by omega) (skIn_of (fun m hm => ⟨hm, hcell m hm⟩) p hsk) (dtIs_of (fun m hm => ⟨hm, hcell m hm⟩) p x (fun a' ha' => BW.cell (by have := hlv a' (lv_at ps k p hp a' ha'); omega)) hdx)
      have hm : ∀ w : World, (method 330 (tyP p) (rcv p) "pharos/head.item").run Tryd.prog w = .ok (itF p, rcv p) w := fun _ => by cases p <;> kernel_rfl
      have hcf : ∀ (args : Array Value) (w : World), (callFunc (itF p) args).run Tryd.prog w = .ok (.enter (itF p) args) w := fun _ _ => by cases p <;> kernel_rfl
      have wk : IntKind.i64.wrap ((k : Int) + 1) = ((k + 1 : Nat) : Int) := by rw [IntKind.wrap_i64]; omega
      obtain ⟨ty, hty⟩ : ∃ q, tyP p = q := ⟨_, rfl⟩
      obtain ⟨rv, hrv⟩ : ∃ q, rcv p = q := ⟨_, rfl⟩
      obtain ⟨f, hf⟩ : ∃ q, itF p = q := ⟨_, rfl⟩
      rw [hty, hrv] at c0 hm
      rw [hf] at hm hcf KI
      rw [hrv] at KI
      clear hty hrv hf hsk hdx hcell
      go_wp2_with fail
      refine KI.mono ?_
      rintro e w3 ⟨X, rfl, hX, hinX, B3⟩
      have hs3 := B3.size
      have hown3 := owns_below hownr B3
      clear KI c0 hm hcf
      obtain ⟨v0, hv0⟩ : ∃ v, w3.cell? ⟨z, k * 3, none⟩ = some v := by
        rw [hown3.cellAt (k * 3) (by omega)]
        exact ⟨_, List.getElem?_eq_getElem (by rw [hown3.1]; omega)⟩
      obtain ⟨v1, hv1⟩ : ∃ v, w3.cell? ⟨z, k * 3 + 1, none⟩ = some v := by
        rw [hown3.cellAt (k * 3 + 1) (by omega)]
        exact ⟨_, List.getElem?_eq_getElem (by rw [hown3.1]; omega)⟩
      obtain ⟨v2, hv2⟩ : ∃ v, w3.cell? ⟨z, k * 3 + 2, none⟩ = some v := by
        rw [hown3.cellAt (k * 3 + 2) (by omega)]
        exact ⟨_, List.getElem?_eq_getElem (by rw [hown3.1]; omega)⟩
      have g0 := hown3.frozenAt (k * 3)
      have g1 := hown3.frozenAt (k * 3 + 1)
      have g2 := hown3.frozenAt (k * 3 + 2)
      obtain ⟨xl, xt, xa, xc, xx⟩ := X
      have hown4 := (((hown3.stored (k * 3) (.bool xl)).1.stored (k * 3 + 1) (.string xt)).1.stored (k * 3 + 2) (.slice xa xx.length xc)).1
      have HX : Hid (_ ∧ _ ∧ _ ∧ _ ∧ _ ∧ _ ∧ _ ∧ _ ∧ _) := ⟨hown4, hown3.1, B3, BW, hheld, hin, hinX, hers, (B3.block _ (by omega)).trans hxr⟩
      clear hown3 hown4 B3 BW hheld hin hinX hers hxr hownr
      dsimp only [Im.val, Im.sl, Im.l, Im.t, Im.a, Im.xs, Im.c]
      go_wp2
      go_roundg (gk - 1)
      case measure => omega
      case rel =>
        obtain ⟨hown4, hcl, B3, BW, hheld, hin, hinX, hers, hxr⟩ := HX.out
        have hhe := hheld.snoc (.mk xl xt xa xc xx) (by rw [hcl, hys]; omega)
        rw [hys, show 3 * k = k * 3 by omega] at hhe
        simp only [Im.l, Im.t, Im.sl, Im.a, Im.xs, Im.c] at hhe
        refine ⟨k + 1, _, ys ++ [.mk xl xt xa xc xx], by omega, by first | rfl | (congr 1; omega), hown4, hhe, by simp [hys], ?_, ?_, ?_, below_set (below_set (below_set (belowStep BW (by omega) B3) z _ (by omega) _) z _ (by omega) _) z _ (by omega) _⟩
        · rw [ers_map, List.map_append, ← ers_map, hers, List.take_add_one, hx]
          show _ ++ [er (.mk xl xt xa xc xx)] = _ ++ [x]
          rw [hX]
        · intro y' hy'
          rcases List.mem_append.1 hy' with h | h
          · refine inP_of (fun b hb => ⟨⟨hb.1, by simp [World.setCell]; omega⟩, fun j => ?_⟩) y' (hin y' h)
            rw [cell_ne _ _ _ _ _ (by show b ≠ z; omega), cell_ne _ _ _ _ _ (by show b ≠ z; omega), cell_ne _ _ _ _ _ (by show b ≠ z; omega)]
            exact B3.cell (p := ⟨b, j, none⟩) hb.2
          · simp at h
            subst h
            refine inP_of (fun b hb => ⟨⟨by omega, by simp [World.setCell]; omega⟩, fun j => ?_⟩) _ hinX
            rw [cell_ne _ _ _ _ _ (by show b ≠ z; omega), cell_ne _ _ _ _ _ (by show b ≠ z; omega), cell_ne _ _ _ _ _ (by show b ≠ z; omega)]
        · exact (Below.heap_setCell _ _ _ _ (by show y ≠ z; omega)).trans ((Below.heap_setCell _ _ _ _ (by show y ≠ z; omega)).trans ((Below.heap_setCell _ _ _ _ (by show y ≠ z; omega)).trans hxr))
    · have hk2 : k = N := by omega
      have l1 : ¬ (k : Int) < N := by omega
      rw [hk2, List.take_of_length_le (by omega)] at hers
      have hyN : ys.length = N := by omega
      have key : ∀ (r : List Im) (i : Nat), ys.drop i = r → rowP (fun b => z ≤ b ∧ b < wr.heap.size) wr (some ⟨z, 0, none⟩) i r := by
        intro r
        induction r with
        | nil => intro i _; trivial
        | cons y r ih =>
          intro i hi
          have hyi : ys[i]? = some y := by
            have := congrArg (·[0]?) hi
            simpa using this
          have hil := (List.getElem?_eq_some_iff.1 hyi).1
          obtain ⟨e0, e1, e2⟩ := hheld i y hyi
          refine ⟨⟨z, 0, ⟨Nat.le_refl _, hzr⟩, rfl, ?_, ?_, ?_⟩, ?_, ih (i + 1) ?_⟩
          · rw [show 0 + 3 * i = 3 * i by omega, hownr.cellAt _ (by omega)]; exact e0
          · rw [show 0 + 3 * i + 1 = 3 * i + 1 by omega, hownr.cellAt _ (by omega)]; exact e1
          · rw [show 0 + 3 * i + 2 = 3 * i + 2 by omega, hownr.cellAt _ (by omega)]; exact e2
          · exact inP_of (fun b hb => ⟨⟨by omega, hb.2⟩, fun _ => rfl⟩) y (hin y (List.mem_of_getElem? hyi))
          · rw [← List.drop_drop, hi]
            rfl
      have KL := list_any ys (by rw [cnts_er, hers]; exact hc) wr.heap.size (some ⟨z, 0, none⟩) N wr (Nat.le_refl _) (rowMem_of (fun b hb => hb.2) _ _ _ (key ys 0 rfl))
      rw [hyN] at KL
      clear key hownr hheld hin
      go_wp2_with fail
      refine KL.mono ?_
      rintro e w4 ⟨X, rfl, hX, hinX, B4⟩
      have hx4 := (B4.block _ hxr.lt).trans hxr
      have BW4 := belowStep BW (by omega) B4
      have hs4 := B4.size
      have f0 := fun o => Lib.frozen_of_heap hx4 o
      have d0 : w4.cell? ⟨y, 0, none⟩ = some (.bool false) := by rw [Lib.cell_of_heap hx4]; rfl
      have d1 : w4.cell? ⟨y, 1, none⟩ = some (.string ⟨#[]⟩) := by rw [Lib.cell_of_heap hx4]; rfl
      have d2 : w4.cell? ⟨y, 2, none⟩ = some (.slice none 0 0) := by rw [Lib.cell_of_heap hx4]; rfl
      obtain ⟨xl, xt, xa, xc, xx⟩ := X
      rw [hers] at hX
      have HX : Hid (_ ∧ _ ∧ _) := ⟨hX, hinX, BW4⟩
      clear hX hinX BW4 BW B4 hx4 hxr KL hers
      dsimp only [Im.val, Im.sl, Im.l, Im.t, Im.a, Im.xs, Im.c]
      go_wp2
      obtain ⟨hX, hinX, BW4⟩ := HX.out
      refine bodyPost_ret (v := .agg #[.bool xl, .string xt, .slice xa xx.length xc]) (by simp [results, Tryd.results168, go_sem, d0, d1, d2]) rfl ⟨_, rfl, hX, ?_, ?_⟩
      · rw [HY.out]
        refine inP_of (fun b hb => ⟨⟨by omega, by simp [World.setCell]; omega⟩, fun j => ?_⟩) _ hinX
        rw [cell_ne _ _ _ _ _ (by show b ≠ y; omega), cell_ne _ _ _ _ _ (by show b ≠ y; omega), cell_ne _ _ _ _ _ (by show b ≠ y; omega)]
      · rw [HY.out]
        exact below_set (below_set (below_set BW4 y _ (Nat.le_refl _) _) y _ (Nat.le_refl _) _) y _ (Nat.le_refl _) _
end Go.Proofs.YtmefanagpkbjeaaDoor
namespace Go.Proofs.YtmefanagpkbjeaaDoor
open Go.RowKit Go.Shelf Go.Sort

theorem info_part : (Tryd.prog.info? 72).map (fun i => (i.zero, i.size, i.bytes)) = some (some .nilIface, 1, 16) := by kernel_rfl
/-- The parts of a slice of texts. -/
def txP (b o : Nat) : Nat → List Pt
  | 0 => []
  | k + 1 => txP b o k ++ [.txt ⟨b, o + k, none⟩]
theorem txP_len (b o : Nat) : ∀ k, (txP b o k).length = k
  | 0 => rfl
  | k + 1 => by
    show (txP b o k ++ [_]).length = _
    rw [List.length_append, txP_len b o k]
    rfl
theorem txP_lv (b o : Nat) : ∀ k a, a ∈ lvPL (txP b o k) → ∃ j, j < k ∧ a = ⟨b, o + j, none⟩
  | 0, a, h => by cases h
  | k + 1, a, h => by
    rw [show txP b o (k + 1) = txP b o k ++ [.txt ⟨b, o + k, none⟩] from rfl, lv_snoc] at h
    rcases List.mem_append.1 h with h | h
    · obtain ⟨j, hj, e⟩ := txP_lv b o k a h
      exact ⟨j, by omega, e⟩
    · exact ⟨k, by omega, List.mem_singleton.1 h⟩
theorem txP_nodup (b o : Nat) : ∀ k, (lvPL (txP b o k)).Nodup
  | 0 => List.nodup_nil
  | k + 1 => by
    rw [show txP b o (k + 1) = txP b o k ++ [.txt ⟨b, o + k, none⟩] from rfl, lv_snoc]
    refine List.nodup_append.2 ⟨txP_nodup b o k, List.nodup_cons.2 ⟨(fun h => by cases h), List.nodup_nil⟩, fun a ha c hc e => ?_⟩
    obtain ⟨j, hj, rfl⟩ := txP_lv b o k a ha
    obtain rfl := List.mem_singleton.1 hc
    injection e with _ e _
    omega
theorem sk_snoc {P : Nat → Prop} {W : World} {a : Option Addr} : ∀ (ps : List Pt) (i : Nat) (p : Pt), skRow P W a i ps → (∃ b o, P b ∧ a = some ⟨b, o, none⟩ ∧ W.cell? ⟨b, o + (i + ps.length), none⟩ = some p.val) → skIn P W p → skRow P W a i (ps ++ [p])
  | [], i, p, _, h1, h2 => ⟨h1, h2, trivial⟩
  | q :: r, i, p, ⟨h3, h4, h5⟩, h1, h2 => ⟨h3, h4, sk_snoc r (i + 1) p h5 (by rw [show i + 1 + r.length = i + (r.length + 1) by omega]; exact h1) h2⟩

theorem sk_of_row {P : Nat → Prop} {W : World} {z : Nat} (hz : P z) : ∀ (ps : List Pt) (i : Nat), (∀ j p, ps[j]? = some p → W.cell? ⟨z, i + j, none⟩ = some p.val ∧ skIn P W p) → skRow P W (some ⟨z, 0, none⟩) i ps
  | [], _, _ => trivial
  | p :: r, i, h => ⟨⟨z, 0, hz, rfl, by rw [Nat.zero_add]; exact (h 0 p rfl).1⟩, (h 0 p rfl).2, sk_of_row hz r (i + 1) (fun j p' hp => by have := h (j + 1) p' hp; rwa [show i + (j + 1) = i + 1 + j by omega] at this)⟩
theorem txP_at (b o : Nat) : ∀ k j p, (txP b o k)[j]? = some p → j < k ∧ p = .txt ⟨b, o + j, none⟩
  | 0, j, p, h => by cases h
  | k + 1, j, p, h => by
    have h : (txP b o k ++ [.txt ⟨b, o + k, none⟩])[j]? = some p := h
    by_cases hj : j < k
    · rw [List.getElem?_append_left (by rw [txP_len]; exact hj)] at h
      exact ⟨by omega, (txP_at b o k j p h).2⟩
    · rw [List.getElem?_append_right (by rw [txP_len]; omega), txP_len] at h
      have hjk : j = k := by
        have := (List.getElem?_eq_some_iff.1 h).1
        simp at this
        omega
      subst hjk
      rw [Nat.sub_self] at h
      cases h
      exact ⟨by omega, rfl⟩
set_option maxRecDepth 20000 in
set_option maxHeartbeats 2000000 in
theorem each_any (q o : Nat) (s : Option Addr) (K c : Nat) (hK : K < 100000000) (hs : K = 0 ∨ ∃ b p, s = some ⟨b, p, none⟩) (w : World) (hq : q < w.heap.size) (h0 : w.cell? ⟨q, o, none⟩ = some (.slice s K c)) :
    Calls Tryd.prog 165 #[.agg #[.pointer (some ⟨q, o, none⟩)]] w fun e w' => ∃ a, e = .returned (.slice a K K) ∧ ∃ ps, (K = 0 ∧ ps = [] ∨ ∃ b p, s = some ⟨b, p, none⟩ ∧ ps = txP b p K) ∧ skRow (fun b => w.heap.size ≤ b ∧ b < w'.heap.size) w' a 0 ps ∧ Below w.heap.size w w' := by
  obtain ⟨i0, hi0, hz0, hz1, hz2⟩ := info_parts info_part
  have A0 := be_new w (.cells #[.pointer (some ⟨q, o, none⟩)] 143)
  have hx : (w.alloc (.cells #[.pointer (some ⟨q, o, none⟩)] 143)).heap[w.heap.size]? = some (.cells #[.pointer (some ⟨q, o, none⟩)] 143 (0, 0)) := World.alloc_heap_new w _
  have c0 := (A0.cell (p := ⟨q, o, none⟩) hq).trans h0
  go_enter Tryd.func165, Tryd.ntmps165
  go_wp2_with (at_make; refine wpList_make_full _ rfl _ _ 145 rfl (w.heap.size + 1) 72 i0 _ 1 Tryd.underlying145 hi0 hz0 hz1 .i64 .i64 _ _ K rfl rfl rfl rfl (by rw [hz2]; omega) (by unfold maxLen; omega) (by simp) ?_; intro w1 hown hgr)
  rw [World.size_alloc] at hown
  obtain ⟨z, hz⟩ : ∃ z, w.heap.size + 1 = z := ⟨_, rfl⟩
  have B1 : Below w.heap.size w w1 := A0.trans ((Below.refl _ _).grown hgr (by simp) (fun _ e => by cases e))
  have hx1 := (hgr.block w.heap.size (by simp) (by simp)).trans hx
  have HZ : Hid (w.heap.size + 1 = z) := hz
  have c1 := (B1.cell (p := ⟨q, o, none⟩) hq).trans h0
  obtain ⟨y, hy⟩ : ∃ y, w.heap.size = y := ⟨_, rfl⟩
  have HY : Hid (w.heap.size = y) := hy
  rw [hz] at hown ⊢
  rw [hy] at hq B1 hx1 ⊢
  have hyz : y < z := by omega
  clear A0 hx hgr hz hy c0 h0
  go_loopg [13] K (fun gk i wr => ∃ (k : Nat) (cl : List Value), k + gk = K ∧ i = .int .i64 k ∧ wr.ownsRow z 72 1 (.slice (some ⟨z, 0, none⟩) K K) K cl ∧ (∀ j, j < k → ∃ b p, s = some ⟨b, p, none⟩ ∧ cl[j]? = some (Pt.txt ⟨b, p + j, none⟩).val) ∧ Below y w wr ∧ wr.heap[y]? = some (.cells #[.pointer (some ⟨q, o, none⟩)] 143 (0, 0)) ∧ wr.cell? ⟨q, o, none⟩ = some (.slice s K c))
  case atStart => exact ⟨0, _, by omega, rfl, hown, (fun j h => by omega), B1, hx1, c1⟩
  case round =>
    clear B1 hx1 hown c1
    obtain ⟨k, cl, hk, rfl, hownr, hheld, BW, hxr, d0⟩ := hrel
    have hzr : z < wr.heap.size := (hownr.lt z rfl).2
    by_cases hlt : k < K
    · have l1 : (k : Int) < K := by omega
      obtain ⟨b, p, rfl⟩ : ∃ b p, s = some ⟨b, p, none⟩ := by
        rcases hs with h | h
        · omega
        · exact h
      have e0 : wr.cell? ⟨y, 0, none⟩ = some (.pointer (some ⟨q, o, none⟩)) := by rw [Lib.cell_of_heap hxr]; rfl
      have wk : IntKind.i64.wrap ((k : Int) + 1) = ((k + 1 : Nat) : Int) := by rw [IntKind.wrap_i64]; omega
      obtain ⟨v0, hv0⟩ : ∃ v, wr.cell? ⟨z, k, none⟩ = some v := by
        rw [hownr.cellAt k (by omega)]
        exact ⟨_, List.getElem?_eq_getElem (by rw [hownr.1]; omega)⟩
      have g0 := hownr.frozenAt k
      have hown4 := (hownr.stored k (.iface 151 (.agg #[.pointer (some ⟨b, p + k, none⟩)]))).1
      have HX : Hid (_ ∧ _ ∧ _ ∧ _ ∧ _ ∧ _) := ⟨hown4, hownr.1, BW, hheld, hxr, d0⟩
      clear hown4 BW hheld hxr hownr
      go_wp2
      go_roundg (gk - 1)
      case measure => omega
      case rel =>
        obtain ⟨hown4, hcl, BW, hheld, hxr, d0⟩ := HX.out
        refine ⟨k + 1, _, by omega, by first | rfl | (congr 1; omega), hown4, fun j hj => ?_, below_set BW z _ (by omega) _, (Below.heap_setCell _ _ _ _ (by show y ≠ z; omega)).trans hxr, (cell_ne _ _ _ _ _ (by show q ≠ z; omega)).trans d0⟩
        by_cases hjk : j = k
        · subst hjk
          exact ⟨b, p, rfl, by rw [List.getElem?_set_self (by omega)]; rfl⟩
        · obtain ⟨b', p', h1, h2⟩ := hheld j (by omega)
          exact ⟨b', p', h1, by rw [List.getElem?_set_ne (by omega)]; exact h2⟩
    · have hk2 : k = K := by omega
      have l1 : ¬ (k : Int) < K := by omega
      have HX : Hid (_ ∧ _ ∧ _) := ⟨hownr, BW, hheld⟩
      clear hownr BW hheld
      go_wp2
      go_ret
      obtain ⟨hownr, BW, hheld⟩ := HX.out
      rw [HY.out]
      by_cases h0 : K = 0
      · exact ⟨some ⟨z, 0, none⟩, rfl, [], .inl ⟨h0, rfl⟩, trivial, BW⟩
      · obtain ⟨b, p, rfl⟩ : ∃ b p, s = some ⟨b, p, none⟩ := by
          rcases hs with h | h
          · omega
          · exact h
        refine ⟨some ⟨z, 0, none⟩, rfl, txP b p K, .inr ⟨b, p, rfl, rfl⟩, sk_of_row (by omega) _ 0 (fun j u hu => ?_), BW⟩
        obtain ⟨hj, rfl⟩ := txP_at b p K j u hu
        obtain ⟨b', p', h1, h2⟩ := hheld j (by omega)
        injection h1 with h1
        injection h1 with h1 h3
        subst h1 h3
        exact ⟨by rw [Nat.zero_add, hownr.cellAt _ (by omega)]; exact h2, trivial⟩

theorem dt_txP {P : Nat → Prop} {W : World} {b o : Nat} (ts : List ByteArray) (h : ∀ j t, ts[j]? = some t → W.cell? ⟨b, o + j, none⟩ = some (.string t)) : ∀ k, k ≤ ts.length → dtAll P W (txP b o k) ((ts.take k).map tI)
  | 0, _ => rfl
  | k + 1, hk => by
    obtain ⟨t, ht⟩ : ∃ t, ts[k]? = some t := ⟨ts[k]'(by omega), List.getElem?_eq_getElem (by omega)⟩
    rw [List.take_add_one, ht]
    show dtAll P W (txP b o k ++ [.txt ⟨b, o + k, none⟩]) ((ts.take k ++ [t]).map tI)
    rw [List.map_append]
    exact dt_snoc _ _ _ _ (dt_txP ts h k (by omega)) ⟨t, h k t ht, rfl⟩
theorem txt_item (n : Nat) (a : Addr) (ha : a.block < n) (x : It) : ItC n (.txt a) x := by
  rintro w hn _ ⟨t, h1, rfl⟩
  refine (txtItem_any a t w (by omega) h1).mono ?_
  rintro e w' ⟨rfl, hb⟩
  exact ⟨_, rfl, rfl, trivial, hb⟩
theorem num_item (n : Nat) (a : Addr) (ha : a.block < n) (x : It) : ItC n (.num a) x := by
  rintro w hn _ ⟨m, h0, h1, rfl⟩
  refine (numItem_any a m h0 w (by omega) h1).mono ?_
  rintro e w' ⟨rfl, hb⟩
  exact ⟨_, rfl, rfl, trivial, hb⟩
set_option maxRecDepth 20000 in
set_option maxHeartbeats 2000000 in
theorem txs_item (n q o : Nat) (hq : q < n) (x : It) (hc : cntI x < 100000000) : ItC n (.txs ⟨q, o, none⟩) x := by
  rintro w hn _ ⟨s, c, ts, h0, hs, rfl⟩
  replace hc : cntIs (ts.map tI) < 100000000 := by
    have : cntI (.mk true ⟨#[]⟩ (ts.map tI)) = cntIs (ts.map tI) + 1 := rfl
    omega
  have hK : ts.length < 100000000 := by
    have : ∀ l : List ByteArray, l.length ≤ cntIs (l.map tI) := by
      intro l
      induction l with
      | nil => exact Nat.le_refl _
      | cons y r ih =>
        show r.length + 1 ≤ cntI (tI y) + cntIs (r.map tI)
        have : cntI (tI y) = 1 := rfl
        omega
    have := this ts
    omega
  obtain ⟨K, hKe⟩ : ∃ K, ts.length = K := ⟨_, rfl⟩
  have hsK : K = 0 ∨ ∃ b p, s = some ⟨b, p, none⟩ := by
    rcases hs with rfl | ⟨b, p, h, _⟩
    · exact .inl hKe.symm
    · exact .inr ⟨b, p, h⟩
  rw [hKe] at h0 hK
  obtain ⟨A1, hx, hr⟩ := two_boxes w (.cells #[.pointer (some ⟨q, o, none⟩)] 143) (.cells #[.bool false, .string ⟨#[]⟩, .slice none 0 0] 70)
  have KE := each_any q o s K c hK hsK _ (Nat.lt_of_lt_of_le (Nat.lt_of_lt_of_le hq hn) A1.size) ((A1.cell (p := ⟨q, o, none⟩) (by show q < _; omega)).trans h0)
  show Calls Tryd.prog 166 #[.agg #[.pointer (some ⟨q, o, none⟩)]] w _
  go_enter Tryd.func166, Tryd.ntmps166
  go_wp2_with fail
  refine KE.mono ?_
  rintro e w1 ⟨a, rfl, ps, hps, hsk, B1⟩
  have B1' := belowStep A1 A1.size B1
  have hr1 := (B1.block (w.heap.size + 1) (by simp)).trans hr
  have hlen : ps.length = K := by
    rcases hps with ⟨h, rfl⟩ | ⟨b, p, _, rfl⟩
    · exact h.symm
    · exact txP_len _ _ _
  have hn1 := B1'.size
  have hd : dtAll (fun b => b < w1.heap.size) w1 ps (ts.map tI) := by
    rcases hps with ⟨h, rfl⟩ | ⟨b, p, rfl, rfl⟩
    · have : ts = [] := List.length_eq_zero_iff.1 (by omega)
      subst this
      rfl
    · rcases hs with rfl | ⟨b', p', h, hb, hcell⟩
      · have h0 : K = 0 := hKe.symm
        subst h0
        rfl
      · injection h with h
        injection h with h h'
        subst h h'
        have := dt_txP (P := fun b => b < w1.heap.size) (W := w1) (b := b) (o := p) ts (fun j t ht => (B1'.cell (p := ⟨b, p + j, none⟩) (by show b < _; omega)).trans (hcell j t ht)) K (by omega)
        rwa [List.take_of_length_le (by omega)] at this
  have hlv : ∀ a, a ∈ lvPL ps → a.block < w1.heap.size := by
    rcases hps with ⟨h, rfl⟩ | ⟨b, p, rfl, rfl⟩
    · intro a ha; cases ha
    · rcases hs with rfl | ⟨b', p', h, hb, hcell⟩
      · have h0 : K = 0 := hKe.symm
        subst h0
        intro a ha; cases ha
      · injection h with h
        injection h with h h'
        subst h h'
        intro a ha
        obtain ⟨j, _, rfl⟩ := txP_lv _ _ _ a ha
        show b < _
        omega
  have KL := lstItem_of w1.heap.size a K ps (ts.map tI) hc (fun j p x hp _ => by
      rcases hps with ⟨h, rfl⟩ | ⟨b, p', rfl, rfl⟩
      · cases hp
      · obtain ⟨hj, rfl⟩ := txP_at _ _ _ _ _ hp
        exact txt_item _ _ (hlv _ (lv_at _ _ _ hp _ (List.mem_singleton.2 rfl))) x) hlv w1 (Nat.le_refl _)
      (skRow_of (fun b hb => ⟨hb.2, fun _ => rfl⟩) a 0 ps hsk) hd
  rw [hlen] at KL
  clear KE B1 hr hsk hd hlv
  go_wp2_with fail
  refine KL.mono ?_
  rintro e w2 ⟨X, rfl, hX, hinX, B2⟩
  have hr2 := (B2.block (w.heap.size + 1) (by have := (Array.getElem?_eq_some_iff.1 hr1).1; omega)).trans hr1
  have B2' := belowStep B1' B1'.size B2
  have f0 := fun o => Lib.frozen_of_heap hr2 o
  have d0 : w2.cell? ⟨w.heap.size + 1, 0, none⟩ = some (.bool false) := by rw [Lib.cell_of_heap hr2]; rfl
  have d1 : w2.cell? ⟨w.heap.size + 1, 1, none⟩ = some (.string ⟨#[]⟩) := by rw [Lib.cell_of_heap hr2]; rfl
  have d2 : w2.cell? ⟨w.heap.size + 1, 2, none⟩ = some (.slice none 0 0) := by rw [Lib.cell_of_heap hr2]; rfl
  obtain ⟨xl, xt, xa, xc, xx⟩ := X
  have hr1' : w.heap.size + 1 < w1.heap.size := (Array.getElem?_eq_some_iff.1 hr1).1
  have hs2 := B2.size
  have HX : Hid (_ ∧ _ ∧ _ ∧ _) := ⟨hX, hinX, B2', hr1'⟩
  obtain ⟨y, hy⟩ : ∃ y, w.heap.size = y := ⟨_, rfl⟩
  have HY : Hid (w.heap.size = y) := hy
  rw [hy] at f0 d0 d1 d2 ⊢
  clear hX hinX B2' B2 B1' hr1 hr2 KL A1 hx hr1' hy
  dsimp only [Im.val, Im.sl, Im.l, Im.t, Im.a, Im.xs, Im.c]
  go_wp2
  obtain ⟨hX, hinX, B2, hr1⟩ := HX.out
  rw [HY.out] at hr1
  refine bodyPost_ret (v := .agg #[.bool xl, .string xt, .slice xa xx.length xc]) (by simp [results, Tryd.results166, go_sem, d0, d1, d2]) rfl ⟨_, rfl, hX, ?_, ?_⟩
  · rw [HY.out]
    refine inP_of (fun b hb => ⟨⟨by omega, by simp [World.setCell]; omega⟩, fun j => ?_⟩) _ hinX
    rw [cell_ne _ _ _ _ _ (by show b ≠ y + 1; omega), cell_ne _ _ _ _ _ (by show b ≠ y + 1; omega), cell_ne _ _ _ _ _ (by show b ≠ y + 1; omega)]
  · rw [HY.out] at B2 ⊢
    exact below_set (below_set (below_set B2 _ _ (by omega) _) _ _ (by omega) _) _ _ (by omega) _
theorem cntIs_at : ∀ (xs : List It) (j : Nat) (x : It), xs[j]? = some x → cntI x ≤ cntIs xs
  | [], _, _, h => by cases h
  | y :: r, 0, x, h => by cases h; exact Nat.le_add_right _ _
  | y :: r, j + 1, x, h => Nat.le_trans (cntIs_at r j x h) (Nat.le_add_left _ _)
/-- A part's item is what it tells. -/
theorem item_all (n : Nat) : ∀ (M : Nat) (p : Pt), SizeOf.sizeOf p ≤ M → (∀ a, a ∈ lvP p → a.block < n ∧ a.spot = none) → ∀ x, cntI x < 100000000 → ItC n p x
  | _, .num a, _, hl, x, _ => num_item n a (hl a (List.mem_singleton.2 rfl)).1 x
  | _, .txt a, _, hl, x, _ => txt_item n a (hl a (List.mem_singleton.2 rfl)).1 x
  | _, .txs ⟨q, o, s⟩, _, hl, x, hc => by
    obtain ⟨h1, h2⟩ := hl _ (List.mem_singleton.2 rfl)
    have h2 : s = none := h2
    subst h2
    exact txs_item n q o h1 x hc
  | 0, .lst a c ps, h, _, _, _ => by simp at h
  | M + 1, .lst a c ps, h, hl, x, hc => by
    rintro w hn hs ⟨xs, rfl, hd⟩
    have hcs : cntIs xs < 100000000 := by
      have : cntI (.mk true ⟨#[]⟩ xs) = cntIs xs + 1 := rfl
      omega
    refine lstItem_of n a c ps xs hcs (fun j p x hp hx => item_all n M p ?_ (fun a' ha' => hl a' (lv_at ps j p hp a' ha')) x (Nat.lt_of_le_of_lt (cntIs_at xs j x hx) hcs)) (fun a' ha' => (hl a' ha').1) w hn hs hd
    have := List.sizeOf_lt_of_mem (List.mem_of_getElem? hp)
    simp at h
    omega
end Go.Proofs.YtmefanagpkbjeaaDoor
