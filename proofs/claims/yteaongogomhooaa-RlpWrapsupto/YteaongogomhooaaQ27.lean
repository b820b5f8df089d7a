/- What the reference's take answers, by places, and that it is what the parts of bytes are. -/
import Derived.Test.YteaongogomhooaaQ26
namespace Go.Proofs.Yteaongogomhooaa
open Go.RowKit Go.Shelf Go.Sort

theorem itP_le {s : ByteArray} {p f t : Nat} {l : Bool} (hp : p < s.size) (h : itP s p = some (f, t, l)) : p ≤ f ∧ f ≤ t ∧ t ≤ s.size ∧ p < t ∧ (l = true → p < f) := by
  unfold itP at h
  split at h
  · cases h
    exact ⟨Nat.le_refl _, by omega, by omega, by omega, nofun⟩
  · split at h
    · cases ha : atP s (p + 1) ((bt s p).toNat - 128) with
      | none => rw [ha] at h; cases h
      | some e =>
        obtain ⟨a, b⟩ := e
        have := atP_le ha
        rw [ha] at h
        dsimp only at h
        split at h
        · cases h
        · cases h
          exact ⟨by omega, by omega, by omega, by omega, nofun⟩
    · cases ha : atP s (p + 1) ((bt s p).toNat - 192) with
      | none => rw [ha] at h; cases h
      | some e =>
        obtain ⟨a, b⟩ := e
        have := atP_le ha
        rw [ha] at h
        cases h
        exact ⟨by omega, by omega, by omega, by omega, fun _ => by omega⟩
theorem ext0_size (s : ByteArray) (e : Nat) (h : e ≤ s.size) : (s.extract 0 e).size = e := by rw [ByteArray.size_extract]; omega
theorem ext0_ext (s : ByteArray) (e a b : Nat) (h : b ≤ e) : (s.extract 0 e).extract a b = s.extract a b := by
  rw [ByteArray.extract_extract]
  congr 1 <;> omega
/-- What the reference's take answers: the item that begins at a place, and the place behind it. -/
def tkR (F : Nat) (s : ByteArray) (p e : Nat) : Option (It × Nat) :=
  if e ≤ p then none else match itP (s.extract 0 e) p with
  | none => none
  | some (f, t, l) => (one F (if l then 2 else 1, s.extract f t)).map fun x => (x, t)
theorem comb_cons (g : Nat × ByteArray → Option It) (e : Nat × ByteArray) (r : List (Nat × ByteArray)) : comb g (e :: r) = match g e, comb g r with
    | some x, some l => some (x :: l)
    | _, _ => none := rfl
theorem ps_itP (s : ByteArray) (p e : Nat) (he : e ≤ s.size) (hp : p < e) : ps (s.extract p e) = match itP (s.extract 0 e) p with
    | none => [(0, ⟨#[]⟩)]
    | some (f, t, l) => (if l then 2 else 1, s.extract f t) :: ps (s.extract t e) := by
  have hz : (s.extract p e).size ≠ 0 := by rw [ByteArray.size_extract]; omega
  have h0 := ext0_size s e he
  have hk := cutK_at (s.extract 0 e) p (by rw [h0]; exact hp)
  rw [h0, ext0_ext s e p e (Nat.le_refl _)] at hk
  rw [ps_eq, if_neg hz, hk]
  cases hi : itP (s.extract 0 e) p with
  | none => rfl
  | some q =>
    obtain ⟨f, t, l⟩ := q
    have hb := itP_le (by rw [h0]; exact hp) hi
    rw [h0] at hb
    cases l
    · show (if (1 : Nat) = 0 then _ else (1, (s.extract 0 e).extract f t) :: ps ((s.extract 0 e).extract t (s.extract 0 e).size)) = _
      rw [if_neg (by decide), h0, ext0_ext s e f t hb.2.2.1, ext0_ext s e t e (Nat.le_refl _)]
      rfl
    · show (if (2 : Nat) = 0 then _ else (2, (s.extract 0 e).extract f t) :: ps ((s.extract 0 e).extract t (s.extract 0 e).size)) = _
      rw [if_neg (by decide), h0, ext0_ext s e f t hb.2.2.1, ext0_ext s e t e (Nat.le_refl _)]
      rfl
theorem tk_none {F : Nat} {s : ByteArray} {p e : Nat} (he : e ≤ s.size) (hp : p < e) (h : tkR F s p e = none) : comb (one F) (ps (s.extract p e)) = none := by
  rw [ps_itP s p e he hp]
  unfold tkR at h
  rw [if_neg (by omega)] at h
  cases hi : itP (s.extract 0 e) p with
  | none => rfl
  | some q =>
    obtain ⟨f, t, l⟩ := q
    rw [hi] at h
    dsimp only at h ⊢
    rw [comb_cons]
    cases ho : one F (if l = true then 2 else 1, s.extract f t) with
    | none => rfl
    | some x => rw [ho] at h; cases h
theorem tk_some {F : Nat} {s : ByteArray} {p e t : Nat} {x : It} (he : e ≤ s.size) (h : tkR F s p e = some (x, t)) : p < t ∧ t ≤ e ∧ comb (one F) (ps (s.extract p e)) = (comb (one F) (ps (s.extract t e))).map (x :: ·) := by
  unfold tkR at h
  by_cases hp : e ≤ p
  · rw [if_pos hp] at h; cases h
  · rw [if_neg hp] at h
    rw [ps_itP s p e he (by omega)]
    have h0 := ext0_size s e he
    cases hi : itP (s.extract 0 e) p with
    | none => rw [hi] at h; cases h
    | some q =>
      obtain ⟨f, t', l⟩ := q
      have hb := itP_le (by rw [h0]; omega) hi
      rw [h0] at hb
      rw [hi] at h
      dsimp only at h ⊢
      cases ho : one F (if l = true then 2 else 1, s.extract f t') with
      | none => rw [ho] at h; cases h
      | some y =>
        rw [ho] at h
        cases h
        refine ⟨hb.2.2.2.1, hb.2.2.1, ?_⟩
        rw [comb_cons, ho]
        cases comb (one F) (ps (s.extract t e)) <;> rfl
theorem ps_none (s : ByteArray) (p e : Nat) (h : e ≤ p) : ps (s.extract p e) = [] := by
  rw [ps_eq, if_pos (by rw [ByteArray.size_extract]; omega)]
theorem decF_succ (F : Nat) (s : ByteArray) : decF (F + 1) s = comb (one F) (ps s) := rfl
theorem ext_all (s : ByteArray) : s.extract 0 s.size = s := by
  exact ByteArray.extract_zero_size
/-- What the whole of take says of all bytes. -/
theorem tk_all (F : Nat) (s : ByteArray) (y : It) : decF (F + 1) s = some [y] ↔ tkR F s 0 s.size = some (y, s.size) := by
  rw [decF_succ]
  by_cases hz : s.size = 0
  · have e1 : ps s = [] := by rw [ps_eq, if_pos hz]
    rw [e1]
    unfold tkR
    rw [if_pos (by omega)]
    constructor <;> intro h <;> cases h
  · cases ht : tkR F s 0 s.size with
    | none =>
      have := tk_none (Nat.le_refl _) (by omega) ht
      rw [ext_all] at this
      rw [this]
      constructor <;> intro h <;> cases h
    | some q =>
      obtain ⟨x, t⟩ := q
      obtain ⟨h1, h2, h3⟩ := tk_some (Nat.le_refl _) ht
      rw [ext_all] at h3
      rw [h3]
      by_cases h4 : t = s.size
      · subst h4
        rw [ps_none s s.size s.size (Nat.le_refl _)]
        show some [x] = some [y] ↔ some (x, s.size) = some (y, s.size)
        constructor
        · intro h; cases h; rfl
        · intro h; cases h; rfl
      · constructor
        · intro h
          exfalso
          have h5 := ps_itP s t s.size (Nat.le_refl _) (by omega)
          cases hc : comb (one F) (ps (s.extract t s.size)) with
          | none => rw [hc] at h; cases h
          | some l =>
            rw [hc] at h
            cases h
            have h6 : ps (s.extract t s.size) ≠ [] := by
              rw [h5]
              cases itP (s.extract 0 s.size) t with
              | none => exact List.cons_ne_nil _ _
              | some q => exact List.cons_ne_nil _ _
            cases hq : ps (s.extract t s.size) with
            | nil => exact h6 hq
            | cons a r =>
              rw [hq, comb_cons] at hc
              cases h7 : one F a <;> cases h8 : comb (one F) r <;> rw [h7, h8] at hc <;> cases hc
        · intro h
          cases h
          exact absurd rfl h4
end Go.Proofs.Yteaongogomhooaa
