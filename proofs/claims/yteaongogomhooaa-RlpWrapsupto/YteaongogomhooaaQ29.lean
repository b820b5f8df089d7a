/- Items and their bytes, apart from all memory: what stands for an item is read as it was, and what is read is written so again. -/
import Derived.Test.YteaongogomhooaaQ27
namespace Go.Proofs.Yteaongogomhooaa
open Go.RowKit Go.Shelf Go.Sort

mutual
/-- An item's bytes. -/
def encI : It → ByteArray
  | .mk l t xs => if l then hdB 192 (encIs xs).size ++ encIs xs else if bare t then t else hdB 128 t.size ++ t
def encIs : List It → ByteArray
  | [] => ⟨#[]⟩
  | x :: r => encI x ++ encIs r
end
mutual
/-- Is it right? -/
def rgI : It → Bool
  | .mk l t xs => (if l then decide (t.size = 0) else decide (xs.length = 0)) && rgIs xs
def rgIs : List It → Bool
  | [] => true
  | x :: r => rgI x && rgIs r
end
mutual
def cntI : It → Nat
  | .mk _ _ xs => cntIs xs + 1
def cntIs : List It → Nat
  | [] => 0
  | x :: r => cntI x + cntIs r
end
/-- Deeper than so much? -/
def dprI : Nat → It → Bool
  | 0, _ => true
  | m + 1, .mk _ _ xs => xs.any (dprI m)
mutual
theorem cnt_er : ∀ x, cnt x = cntI (er x)
  | .mk l t a c xs => by show cnts xs + 1 = cntIs (ers xs) + 1; rw [cnts_er xs]
theorem cnts_er : ∀ xs, cnts xs = cntIs (ers xs)
  | [] => rfl
  | x :: r => by show cnt x + cnts r = cntI (er x) + cntIs (ers r); rw [cnt_er x, cnts_er r]
end
theorem dpr_er : ∀ (m : Nat) (x : Im), dpr m x = dprI m (er x)
  | 0, _ => rfl
  | m + 1, .mk l t a c xs => by
    show xs.any (dpr m) = (ers xs).any (dprI m)
    rw [ers_map, List.any_map]
    congr 1
    funext y
    exact dpr_er m y
theorem any_deep (m d : Nat) (h : d + m = 13) : ∀ x, (pro d x).any (fun e => decide (12 < e.1)) = dpr m x := by
  induction m generalizing d with
  | zero =>
    intro x
    rw [pro_eq, List.any_cons]
    have : decide (12 < d) = true := decide_eq_true (by omega)
    rw [this, Bool.true_or]
    rfl
  | succ m ih =>
    intro x
    have ihl : ∀ xs, (pros (d + 1) xs).any (fun e => decide (12 < e.1)) = xs.any (dpr m) := by
      intro xs
      induction xs with
      | nil => rfl
      | cons y r ihr =>
        show (pro (d + 1) y ++ pros (d + 1) r).any _ = (dpr m y || r.any (dpr m))
        rw [List.any_append, ih (d + 1) (by omega) y, ihr]
    have : decide (12 < d) = false := decide_eq_false (by omega)
    rw [pro_eq, List.any_cons, this, Bool.false_or, ihl]
    rfl
theorem deep_er (x : Im) : deep x = dprI 12 (er x) := by
  rw [← dpr_er]
  exact any_deep 12 1 rfl x
mutual
theorem rg_er (d : Nat) : ∀ x, (pro d x).all (fun e => rgt e.2) = rgI (er x)
  | .mk l t a c xs => by
    show (rgt (.mk l t a c xs) && (pros (d + 1) xs).all (fun e => rgt e.2)) = ((if l then decide (t.size = 0) else decide ((ers xs).length = 0)) && rgIs (ers xs))
    rw [rgs_er (d + 1) xs, ers_map, List.length_map]
    rfl
theorem rgs_er (d : Nat) : ∀ xs, (pros d xs).all (fun e => rgt e.2) = rgIs (ers xs)
  | [] => rfl
  | x :: r => by
    show (pro d x ++ pros d r).all _ = (rgI (er x) && rgIs (ers r))
    rw [List.all_append, rg_er d x, rgs_er d r]
end
theorem right_er (x : Im) : right x = rgI (er x) := rg_er 1 x

theorem hdB_hsz (b n : Nat) : (hdB b n).size = hsz n := by
  unfold hdB hsz
  split
  · rfl
  · rw [ByteArray.size_append, num_size]
    rfl
mutual
theorem sz_er : ∀ x, rgI (er x) = true → szOf x = (encI (er x)).size
  | .mk l t a c xs, h => by
    have h' : ((if l then decide (t.size = 0) else decide ((ers xs).length = 0)) && rgIs (ers xs)) = true := h
    rw [Bool.and_eq_true] at h'
    have hx := szs_er xs h'.2
    rw [szOf_eq]
    show (if (!l && bare t) = true then t.size else hsz (t.size + szs xs) + (t.size + szs xs)) = (if l then hdB 192 (encIs (ers xs)).size ++ encIs (ers xs) else if bare t then t else hdB 128 t.size ++ t).size
    rw [hx]
    cases l with
    | true =>
      have h0 : t.size = 0 := of_decide_eq_true h'.1
      rw [if_neg (by simp), if_pos rfl, h0, Nat.zero_add, ByteArray.size_append, hdB_hsz]
    | false =>
      have h0 : (ers xs).length = 0 := of_decide_eq_true h'.1
      have h1 : ers xs = [] := List.length_eq_zero_iff.1 h0
      rw [h1]
      have h2 : (encIs []).size = 0 := rfl
      rw [h2, Nat.add_zero]
      cases hb : bare t with
      | true => rw [if_pos (by simp), if_neg (by simp), if_pos rfl]
      | false => rw [if_neg (by simp), if_neg (by simp), if_neg (by simp), ByteArray.size_append, hdB_hsz]
theorem szs_er : ∀ xs, rgIs (ers xs) = true → szs xs = (encIs (ers xs)).size
  | [], _ => rfl
  | x :: r, h => by
    have h' : (rgI (er x) && rgIs (ers r)) = true := h
    rw [Bool.and_eq_true] at h'
    show szOf x + szs r = (encI (er x) ++ encIs (ers r)).size
    rw [ByteArray.size_append, sz_er x h'.1, szs_er r h'.2]
end
theorem cat_go (l : List (Nat × Im)) : ∀ b : ByteArray, l.foldl (fun b e => b ++ hOf e.2 ++ e.2.t) b = b ++ cat l := by
  induction l with
  | nil => intro b; show b = b ++ ⟨#[]⟩; exact (ByteArray.append_empty).symm
  | cons e r ih =>
    intro b
    show r.foldl _ (b ++ hOf e.2 ++ e.2.t) = b ++ r.foldl _ (⟨#[]⟩ ++ hOf e.2 ++ e.2.t)
    rw [ih, ih (⟨#[]⟩ ++ hOf e.2 ++ e.2.t), show ((⟨#[]⟩ : ByteArray) ++ hOf e.2) = hOf e.2 from ByteArray.empty_append]
    simp only [ByteArray.append_assoc]
theorem cat_app (a b : List (Nat × Im)) : cat (a ++ b) = cat a ++ cat b := by
  show (a ++ b).foldl _ _ = _
  rw [List.foldl_append]
  exact cat_go b _
theorem cat_cons (e : Nat × Im) (r : List (Nat × Im)) : cat (e :: r) = hOf e.2 ++ e.2.t ++ cat r := by
  show r.foldl _ (⟨#[]⟩ ++ hOf e.2 ++ e.2.t) = _
  rw [cat_go, show ((⟨#[]⟩ : ByteArray) ++ hOf e.2) = hOf e.2 from ByteArray.empty_append]
theorem size_0 (t : ByteArray) (h : t.size = 0) : t = ⟨#[]⟩ := by
  refine ext_bt _ _ (by rw [h]; rfl) fun j hj => ?_
  omega
mutual
theorem cat_er (d : Nat) : ∀ x, rgI (er x) = true → cat (pro d x) = encI (er x)
  | .mk l t a c xs, h => by
    have h' : ((if l then decide (t.size = 0) else decide ((ers xs).length = 0)) && rgIs (ers xs)) = true := h
    rw [Bool.and_eq_true] at h'
    have hx := szs_er xs h'.2
    have hc := cats_er (d + 1) xs h'.2
    show cat ((d, Im.mk l t a c xs) :: pros (d + 1) xs) = if l then hdB 192 (encIs (ers xs)).size ++ encIs (ers xs) else if bare t then t else hdB 128 t.size ++ t
    rw [cat_cons, hc]
    show (if l then hdB 192 (t.size + szs xs) else if bare t then ⟨#[]⟩ else hdB 128 t.size) ++ t ++ encIs (ers xs) = _
    rw [hx]
    cases l with
    | true =>
      have h0 : t.size = 0 := of_decide_eq_true h'.1
      rw [if_pos rfl, if_pos rfl, h0, Nat.zero_add, size_0 t h0]
      rw [show ∀ q : ByteArray, q ++ ⟨#[]⟩ = q from fun q => ByteArray.append_empty]
    | false =>
      have h0 : (ers xs).length = 0 := of_decide_eq_true h'.1
      have h1 : ers xs = [] := List.length_eq_zero_iff.1 h0
      rw [h1]
      show (if false = true then _ else if bare t then (⟨#[]⟩ : ByteArray) else hdB 128 t.size) ++ t ++ ⟨#[]⟩ = if false = true then _ else if bare t then t else hdB 128 t.size ++ t
      rw [show ∀ q : ByteArray, q ++ ⟨#[]⟩ = q from fun q => ByteArray.append_empty]
      cases bare t with
      | true => exact ByteArray.empty_append
      | false => rfl
theorem cats_er (d : Nat) : ∀ xs, rgIs (ers xs) = true → cat (pros d xs) = encIs (ers xs)
  | [], _ => rfl
  | x :: r, h => by
    have h' : (rgI (er x) && rgIs (ers r)) = true := h
    rw [Bool.and_eq_true] at h'
    show cat (pro d x ++ pros d r) = encI (er x) ++ encIs (ers r)
    rw [cat_app, cat_er d x h'.1, cats_er d r h'.2]
end

/-- What an item comes to, or why not. -/
def eE (x : It) : Int := if dprI 12 x then 41 else if rgI x then (if 65536 < (encI x).size then 42 else 0) else 2
def eS (x : It) : ByteArray := if eE x = 0 then encI x else ⟨#[]⟩
theorem encE_er (x : Im) : encE x = eE (er x) := by
  unfold encE eE
  rw [deep_er, right_er]
  cases hr : rgI (er x) with
  | true => rw [sz_er x hr]
  | false => rfl
theorem eE_0 {x : It} (h : eE x = 0) : dprI 12 x = false ∧ rgI x = true ∧ (encI x).size ≤ 65536 := by
  unfold eE at h
  cases h1 : dprI 12 x with
  | true => rw [h1] at h; simp at h
  | false =>
    cases h2 : rgI x with
    | false => rw [h1, h2] at h; simp at h
    | true =>
      rw [h1, h2] at h
      simp only [Bool.false_eq_true, if_false, if_true] at h
      refine ⟨rfl, rfl, ?_⟩
      split at h
      · cases h
      · omega
theorem encS_er (x : Im) : encS x = eS (er x) := by
  unfold encS eS
  rw [encE_er]
  by_cases h : eE (er x) = 0
  · rw [if_pos h, if_pos h]
    exact cat_er 1 x (eE_0 h).2.1
  · rw [if_neg h, if_neg h]
theorem one_none (F : Nat) (b : ByteArray) : one F (0, b) = none := rfl
theorem one_text (F : Nat) (b : ByteArray) : one F (1, b) = some (.mk false b []) := rfl
theorem one_list (F : Nat) (b : ByteArray) : one F (2, b) = (decF F b).map (It.mk true ⟨#[]⟩) := rfl
theorem ext_size (s : ByteArray) (f t : Nat) (h : t ≤ s.size) : (s.extract f t).size = t - f := by rw [ByteArray.size_extract]; omega
/-- No more items are read than there are bytes. -/
theorem cnt_step (F : Nat) (hF : ∀ s its, decF F s = some its → cntIs its ≤ s.size) (s : ByteArray) (e : Nat) (he : e ≤ s.size) : ∀ (n p : Nat), e - p ≤ n → ∀ its, comb (one F) (ps (s.extract p e)) = some its → cntIs its ≤ e - p
  | n, p, hn, its, h => by
    by_cases hp : e ≤ p
    · rw [ps_none s p e hp] at h
      cases h
      exact Nat.zero_le _
    · rw [ps_itP s p e he (by omega)] at h
      have h0 := ext0_size s e he
      cases hi : itP (s.extract 0 e) p with
      | none => rw [hi] at h; cases h
      | some q =>
        obtain ⟨f, t, l⟩ := q
        have hb := itP_le (by rw [h0]; omega) hi
        rw [h0] at hb
        rw [hi] at h
        dsimp only at h
        rw [comb_cons] at h
        cases ho : one F (if l = true then 2 else 1, s.extract f t) with
        | none => rw [ho] at h; cases h
        | some x =>
          cases hr : comb (one F) (ps (s.extract t e)) with
          | none => rw [ho, hr] at h; cases h
          | some r =>
            rw [ho, hr] at h
            cases h
            match n, hn with
            | 0, hn => omega
            | n + 1, hn =>
              have ih := cnt_step F hF s e he n t (by omega) r hr
              show cntI x + cntIs r ≤ e - p
              cases l with
              | false =>
                cases ho
                show 1 + cntIs r ≤ _
                omega
              | true =>
                have ho' : (decF F (s.extract f t)).map (It.mk true ⟨#[]⟩) = some x := ho
                cases hd : decF F (s.extract f t) with
                | none => rw [hd] at ho'; cases ho'
                | some l =>
                  rw [hd] at ho'
                  cases ho'
                  have h1 := hF _ _ hd
                  rw [ext_size s f t (by omega)] at h1
                  have h2 := hb.2.2.2.2 rfl
                  show cntIs l + 1 + cntIs r ≤ _
                  omega
theorem cnt_dec : ∀ (F : Nat) (s : ByteArray) (its : List It), decF F s = some its → cntIs its ≤ s.size
  | 0, s, its, h => by
    cases h
    exact Nat.zero_le _
  | F + 1, s, its, h => by
    rw [decF_succ] at h
    have := cnt_step F (cnt_dec F) s s.size (Nat.le_refl _) s.size 0 (by omega) its (by rw [ext_all]; exact h)
    exact this
theorem cnt_one {F : Nat} {s : ByteArray} {y : Im} (h : decF F s = some [er y]) : cnt y ≤ s.size := by
  have := cnt_dec F s _ h
  rw [cnt_er]
  exact this
end Go.Proofs.Yteaongogomhooaa
