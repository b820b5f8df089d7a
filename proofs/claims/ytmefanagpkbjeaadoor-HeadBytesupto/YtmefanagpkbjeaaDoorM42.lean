/- Lemmas: Which items are alike: the reference's Same. -/
import Derived.Test.YtmefanagpkbjeaaDoorM1
import Derived.Test.YtmefanagpkbjeaaDoorM10
import Derived.Test.YtmefanagpkbjeaaDoorM2
import Derived.Test.YtmefanagpkbjeaaDoorM3
import Derived.Test.YtmefanagpkbjeaaDoorM33
import Derived.Test.YtmefanagpkbjeaaDoorM34
import Derived.Test.YtmefanagpkbjeaaDoorM35
import Derived.Test.YtmefanagpkbjeaaDoorM36
import Derived.Test.YtmefanagpkbjeaaDoorM37
import Derived.Test.YtmefanagpkbjeaaDoorM38
import Derived.Test.YtmefanagpkbjeaaDoorM39
import Derived.Test.YtmefanagpkbjeaaDoorM40
import Derived.Test.YtmefanagpkbjeaaDoorM41
import Derived.Test.YtmefanagpkbjeaaDoorRows
namespace Go.Proofs.YtmefanagpkbjeaaDoor
open Go.RowKit Go.Shelf Go.Sort

mutual
/-- Are two items alike? -/
def smI : It → It → Bool
  | .mk l t xs, .mk l' t' ys => (decide (l = l') && decide (t = t')) && smIs xs ys
def smIs : List It → List It → Bool
  | [], [] => true
  | x :: r, y :: q => smI x y && smIs r q
  | [], _ :: _ => false
  | _ :: _, [] => false
end
mutual
theorem smI_eq : ∀ a b, smI a b = true → a = b
  | .mk l t xs, .mk l' t' ys, h => by
    have h' : ((decide (l = l') && decide (t = t')) && smIs xs ys) = true := h
    rw [Bool.and_eq_true, Bool.and_eq_true] at h'
    rw [of_decide_eq_true h'.1.1, of_decide_eq_true h'.1.2, smIs_eq xs ys h'.2]
theorem smIs_eq : ∀ a b, smIs a b = true → a = b
  | [], [], _ => rfl
  | x :: r, y :: q, h => by
    have h' : (smI x y && smIs r q) = true := h
    rw [Bool.and_eq_true] at h'
    rw [smI_eq x y h'.1, smIs_eq r q h'.2]
  | [], _ :: _, h => by cases h
  | _ :: _, [], h => by cases h
end
mutual
theorem smI_refl : ∀ a, smI a a = true
  | .mk l t xs => by
    show ((decide (l = l) && decide (t = t)) && smIs xs xs) = true
    rw [decide_eq_true rfl, decide_eq_true rfl, smIs_refl xs]
    rfl
theorem smIs_refl : ∀ a, smIs a a = true
  | [] => rfl
  | x :: r => by
    show (smI x x && smIs r r) = true
    rw [smI_refl x, smIs_refl r]
    rfl
end
theorem smI_comm (a b : It) : smI a b = smI b a := by
  cases h : smI a b with
  | true => rw [smI_eq a b h, smI_refl]
  | false =>
    cases h2 : smI b a with
    | true => rw [smI_eq b a h2, smI_refl] at h; cases h
    | false => rfl
theorem smIs_len : ∀ a b, smIs a b = true → a.length = b.length := fun a b h => by rw [smIs_eq a b h]
/-- Alike so far. -/
theorem sm_take : ∀ (xs ys : List It) (k : Nat) (x y : It), xs[k]? = some x → ys[k]? = some y → smIs (xs.take (k + 1)) (ys.take (k + 1)) = (smIs (xs.take k) (ys.take k) && smI x y)
  | a :: r, b :: q, 0, x, y, h1, h2 => by
    cases h1
    cases h2
    show (smI a b && true) = (true && smI a b)
    rw [Bool.and_true, Bool.true_and]
  | a :: r, b :: q, k + 1, x, y, h1, h2 => by
    show (smI a b && smIs (r.take (k + 1)) (q.take (k + 1))) = ((smI a b && smIs (r.take k) (q.take k)) && smI x y)
    rw [sm_take r q k x y h1 h2, Bool.and_assoc]
  | [], _, _, _, _, h, _ => by cases h
  | _ :: _, [], _, _, _, _, h => by cases h
theorem sm_take_false : ∀ (xs ys : List It) (k : Nat), smIs (xs.take k) (ys.take k) = false → smIs xs ys = false
  | [], [], k, h => by
    have e : ([] : List It).take k = [] := List.take_nil
    rw [e] at h
    cases h
  | a :: r, b :: q, 0, h => by cases h
  | a :: r, b :: q, k + 1, h => by
    have h' : (smI a b && smIs (r.take k) (q.take k)) = false := h
    show (smI a b && smIs r q) = false
    cases hs : smI a b with
    | false => rfl
    | true =>
      rw [hs, Bool.true_and] at h'
      rw [sm_take_false r q k h']
      rfl
  | [], _ :: _, _, _ => rfl
  | _ :: _, [], _, _ => rfl
theorem ers_at (xs : List Im) (k : Nat) (y : Im) (h : xs[k]? = some y) : (ers xs)[k]? = some (er y) := by
  rw [ers_map, List.getElem?_map, h]
  rfl
theorem ers_len (xs : List Im) : (ers xs).length = xs.length := by rw [ers_map, List.length_map]

theorem q_toList_inj {s t : ByteArray} (h : s.toList = t.toList) : s = t := by
  rw [ByteArray.toList_eq, ByteArray.toList_eq] at h
  have h2 : s.data = t.data := Array.toList_inj.1 h
  cases s
  cases t
  cases h2
  rfl

end Go.Proofs.YtmefanagpkbjeaaDoor
