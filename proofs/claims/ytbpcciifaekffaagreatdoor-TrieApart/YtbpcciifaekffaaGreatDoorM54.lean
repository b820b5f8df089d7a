/- Lemmas: What all nodes tell, half by half. -/
import Derived.Test.YtbpcciifaekffaaGreatDoorM1
import Derived.Test.YtbpcciifaekffaaGreatDoorM10
import Derived.Test.YtbpcciifaekffaaGreatDoorM11
import Derived.Test.YtbpcciifaekffaaGreatDoorM12
import Derived.Test.YtbpcciifaekffaaGreatDoorM13
import Derived.Test.YtbpcciifaekffaaGreatDoorM14
import Derived.Test.YtbpcciifaekffaaGreatDoorM15
import Derived.Test.YtbpcciifaekffaaGreatDoorM16
import Derived.Test.YtbpcciifaekffaaGreatDoorM17
import Derived.Test.YtbpcciifaekffaaGreatDoorM18
import Derived.Test.YtbpcciifaekffaaGreatDoorM19
import Derived.Test.YtbpcciifaekffaaGreatDoorM2
import Derived.Test.YtbpcciifaekffaaGreatDoorM20
import Derived.Test.YtbpcciifaekffaaGreatDoorM21
import Derived.Test.YtbpcciifaekffaaGreatDoorM22
import Derived.Test.YtbpcciifaekffaaGreatDoorM23
import Derived.Test.YtbpcciifaekffaaGreatDoorM24
import Derived.Test.YtbpcciifaekffaaGreatDoorM25
import Derived.Test.YtbpcciifaekffaaGreatDoorM26
import Derived.Test.YtbpcciifaekffaaGreatDoorM27
import Derived.Test.YtbpcciifaekffaaGreatDoorM28
import Derived.Test.YtbpcciifaekffaaGreatDoorM29
import Derived.Test.YtbpcciifaekffaaGreatDoorM3
import Derived.Test.YtbpcciifaekffaaGreatDoorM30
import Derived.Test.YtbpcciifaekffaaGreatDoorM31
import Derived.Test.YtbpcciifaekffaaGreatDoorM32
import Derived.Test.YtbpcciifaekffaaGreatDoorM33
import Derived.Test.YtbpcciifaekffaaGreatDoorM34
import Derived.Test.YtbpcciifaekffaaGreatDoorM35
import Derived.Test.YtbpcciifaekffaaGreatDoorM36
import Derived.Test.YtbpcciifaekffaaGreatDoorM37
import Derived.Test.YtbpcciifaekffaaGreatDoorM38
import Derived.Test.YtbpcciifaekffaaGreatDoorM39
import Derived.Test.YtbpcciifaekffaaGreatDoorM4
import Derived.Test.YtbpcciifaekffaaGreatDoorM40
import Derived.Test.YtbpcciifaekffaaGreatDoorM41
import Derived.Test.YtbpcciifaekffaaGreatDoorM42
import Derived.Test.YtbpcciifaekffaaGreatDoorM43
import Derived.Test.YtbpcciifaekffaaGreatDoorM44
import Derived.Test.YtbpcciifaekffaaGreatDoorM45
import Derived.Test.YtbpcciifaekffaaGreatDoorM46
import Derived.Test.YtbpcciifaekffaaGreatDoorM47
import Derived.Test.YtbpcciifaekffaaGreatDoorM48
import Derived.Test.YtbpcciifaekffaaGreatDoorM49
import Derived.Test.YtbpcciifaekffaaGreatDoorM5
import Derived.Test.YtbpcciifaekffaaGreatDoorM50
import Derived.Test.YtbpcciifaekffaaGreatDoorM51
import Derived.Test.YtbpcciifaekffaaGreatDoorM52
import Derived.Test.YtbpcciifaekffaaGreatDoorM6
import Derived.Test.YtbpcciifaekffaaGreatDoorM7
import Derived.Test.YtbpcciifaekffaaGreatDoorM8
import Derived.Test.YtbpcciifaekffaaGreatDoorM9
import Derived.Test.YtbpcciifaekffaaGreatDoorRows
namespace Go.Proofs.YtbpcciifaekffaaGreatDoor
open Go.RowKit Go.Shelf Go.Sort

theorem tdX_own {d : Nat} (h : d ≠ 0) (x : It) : tdX d x = ownT x := by
  unfold tdX ownT
  by_cases h1 : (eS x).size < 32
  · rw [if_pos h1, if_neg (by omega)]
  · rw [if_neg h1, if_pos (.inr (by omega))]
theorem flat_one {α : Type} (F G : Nat → List α) (x : Nat) (h1 : ∀ h, h < x → F h = [] ∧ G h = []) (h2 : G x = []) (h3 : ∀ h, x < h → F h = G h) : ∀ n, x < n → (List.range n).flatMap F = F x ++ (List.range n).flatMap G := by
  intro n hn
  induction n with
  | zero => omega
  | succ n ih =>
    rw [List.range_succ, List.flatMap_append, List.flatMap_append]
    by_cases hx : x = n
    · subst hx
      have e1 : (List.range x).flatMap F = [] := List.flatMap_eq_nil_iff.2 fun h hh => (h1 h (List.mem_range.1 hh)).1
      have e2 : (List.range x).flatMap G = [] := List.flatMap_eq_nil_iff.2 fun h hh => (h1 h (List.mem_range.1 hh)).2
      rw [e1, e2]
      simp [h2]
    · rw [ih (by omega)]
      simp [h3 n (by omega)]
theorem allS_snoc : ∀ (s : Sts) (p : ByteArray) (n : Nd), allS (s.snoc p n) = allS s ++ allN n
  | .nil, _, n => by show allN n ++ [] = [] ++ allN n; simp
  | .cons q m r, p, n => by
    show allN m ++ allS (r.snoc p n) = allN m ++ allS r ++ allN n
    rw [allS_snoc r p n, List.append_assoc]
theorem allS_fold : ∀ (ks : List (Int × Nd)) (s : Sts), allS (ks.foldl (fun s k => s.snoc (oneB k.1) k.2) s) = allS s ++ ks.flatMap fun k => allN k.2
  | [], s => by simp
  | k :: r, s => by
    rw [List.foldl_cons, allS_fold r, allS_snoc, List.flatMap_cons, List.append_assoc]
theorem allS_half (nd : List Pr → Nd) {d : Nat} {rs : List Pr} (h : Ok d rs) (hl : ∀ (j : Nat) (e : Pr), rs[j]? = some e → d < e.1.size) :
    ∀ (f k : Nat), rs.length ≤ f + k → ((pgF d rs f k).map (kdE nd d rs)).flatMap (fun k => allN k.2) = (List.range 16).flatMap fun (j : Nat) => if ((rs.drop k).filter (goes d (j : Int))).length = 0 then [] else allN (nd ((rs.drop k).filter (goes d (j : Int))))
  | 0, k, hf => by
    rw [List.drop_of_length_le (by omega)]
    simp [pgF]
  | f + 1, k, hf => by
    by_cases hk : k < rs.length
    · obtain ⟨r1, r2⟩ := run_filter h hl k hk
      have hk0 : rs[k]? = some rs[k] := List.getElem?_eq_getElem hk
      have hpos := rn_pos (d := d) hk
      obtain ⟨x, hx⟩ : ∃ x, hfA d rs k = x := ⟨_, rfl⟩
      have hx0 : 0 ≤ x ∧ x < 16 := by rw [← hx, hfA_at hk0]; exact h.hlf k _ d hk0
      simp only [pgF, if_pos hk, List.map_cons, List.flatMap_cons]
      rw [hx] at r1 r2 hpos ⊢
      obtain ⟨m, hm⟩ : ∃ m, rn d x (rs.drop k) = m := ⟨_, rfl⟩
      rw [hm] at r1 r2 hpos ⊢
      rw [allS_half nd h hl f (k + m) (by omega)]
      have e1 : rs.drop k = (rs.drop k).take m ++ rs.drop (k + m) := by rw [← List.drop_drop, List.take_append_drop]
      have hne : ¬ ((rs.drop k).take m).length = 0 := by rw [List.length_take, List.length_drop]; omega
      have nx : ∀ j : Nat, (j : Int) ≤ x → (rs.drop (k + m)).filter (goes d (j : Int)) = [] := fun j hj => by
        rw [List.filter_eq_nil_iff]
        intro e he hg
        have h1 := r2 e he
        unfold goes at hg
        simp only [Bool.and_eq_true, decide_eq_true_eq] at hg
        omega
      have ex : ∀ j : Nat, (j : Int) ≠ x → (rs.drop k).filter (goes d (j : Int)) = (rs.drop (k + m)).filter (goes d (j : Int)) := fun j hj => by
        have f1 : ((rs.drop k).take m).filter (goes d (j : Int)) = [] := by
          rw [List.filter_eq_nil_iff]
          intro e he hg
          rw [← r1] at he
          have h1 := (List.mem_filter.1 he).2
          unfold goes at hg h1
          simp only [Bool.and_eq_true, decide_eq_true_eq] at hg h1
          omega
        conv => lhs; rw [e1, List.filter_append, f1, List.nil_append]
      have hfl := flat_one (fun (j : Nat) => if ((rs.drop k).filter (goes d (j : Int))).length = 0 then [] else allN (nd ((rs.drop k).filter (goes d (j : Int))))) (fun (j : Nat) => if ((rs.drop (k + m)).filter (goes d (j : Int))).length = 0 then [] else allN (nd ((rs.drop (k + m)).filter (goes d (j : Int))))) x.toNat (fun j hj => by
        rw [ex j (by omega), nx j (by omega), if_pos List.length_nil]
        exact ⟨rfl, rfl⟩) (by
        rw [nx x.toNat (by omega), if_pos List.length_nil]) (fun j hj => by
        rw [ex j (by omega)]) 16 (by omega)
      rw [hfl]
      congr 1
      rw [show ((x.toNat : Nat) : Int) = x by omega, r1, if_neg hne]
      rfl
    · simp only [pgF, if_neg hk, List.map_nil, List.flatMap_nil]
      rw [List.drop_of_length_le (by omega)]
      simp
theorem allS_fork (nd : List Pr → Nd) {d : Nat} {es : List Pr} (h : Ok d es) (h2 : 2 ≤ es.length) : allS (fkN nd d es).ss = (List.range 16).flatMap fun (j : Nat) => if (es.filter (goes d (j : Int))).length = 0 then [] else allN (nd (es.filter (goes d (j : Int)))) := by
  obtain ⟨k1, k2, _, _⟩ := h.rest h2
  show allS (fkS ((pg d (rsE d es) 0).map (kdE nd d (rsE d es)))) = _
  unfold fkS
  rw [allS_fold]
  have := allS_half nd k1 k2 ((rsE d es).length - 0) 0 (by omega)
  show [] ++ _ = _
  rw [List.nil_append]
  show ((pgF d (rsE d es) ((rsE d es).length - 0) 0).map (kdE nd d (rsE d es))).flatMap (fun k => allN k.2) = _
  rw [this, List.drop_zero]
  congr 1
  funext j
  rw [goes_rest]

/-- What all nodes of pairs tell, from a place on. -/
def nsF (f d : Nat) (ps : List Pr) : List ByteArray := tdX d (noF f d ps) ++ allS (ndF f d (ents (srt ps))).ss
theorem nsF_all {f d : Nat} (h : d ≠ 0) (ps : List Pr) : nsF f d ps = allN (ndF f d (ents (srt ps))) := by
  unfold nsF noF
  rw [tdX_own h]
  obtain ⟨x, ss⟩ := ndF f d (ents (srt ps))
  rfl
theorem nsF_one (f d : Nat) (p : Pr) : nsF (f + 1) d [p] = tdX d (noF (f + 1) d [p]) := by
  unfold nsF
  rw [srt_one]
  show _ ++ [] = _
  rw [List.append_nil]
theorem nsF_bridge {f d a : Nat} {p0 : Pr} {rs : List Pr} (hok : Ok d (ents (srt (p0 :: rs)))) (h2 : 1 ≤ rs.length) (ha : alkV d (enP p0) (rs.map enP) = a) (h0 : a ≠ 0) :
    nsF (f + 1) d (p0 :: rs) = tdX d (noF (f + 1) d (p0 :: rs)) ++ nsF f (d + a) (p0 :: rs) := by
  rw [nsF_all (f := f) (d := d + a) (by omega)]
  unfold nsF
  congr 1
  obtain ⟨e, e2, r, he⟩ := ent_two (ps := p0 :: rs) (by simp; omega)
  have hp : (enP p0 :: rs.map enP).Perm (ents (srt (p0 :: rs))) := ents_perm (ps := p0 :: rs)
  rw [he] at hok hp ⊢
  have hc := alk_is hok (enP p0) (rs.map enP) hp (e := e) (g := (e2 :: r).getLastD e2) rfl (last_at e e2 r)
  rw [ha] at hc
  rw [nd_bridge f d e e2 r a hc.symm h0]
  show allN _ ++ [] = _
  rw [List.append_nil]
theorem nsF_fork {f d : Nat} {p0 : Pr} {rs : List Pr} (hr : RightP (p0 :: rs)) (hok : Ok d (ents (srt (p0 :: rs)))) (h2 : 1 ≤ rs.length) (ha : alkV d (enP p0) (rs.map enP) = 0) :
    nsF (f + 1) d (p0 :: rs) = tdX d (noF (f + 1) d (p0 :: rs)) ++ (List.range 16).flatMap fun (j : Nat) => if (hvP d (j : Int) (p0 :: rs)).length = 0 then [] else nsF f (d + 1) (hvP d (j : Int) (p0 :: rs)) := by
  unfold nsF
  congr 1
  obtain ⟨e, e2, r, he⟩ := ent_two (ps := p0 :: rs) (by simp; omega)
  have hp : (enP p0 :: rs.map enP).Perm (ents (srt (p0 :: rs))) := ents_perm (ps := p0 :: rs)
  have hfk := allS_fork (ndF f (d + 1)) hok (by rw [he]; simp)
  have hnd : ndF (f + 1) d (ents (srt (p0 :: rs))) = fkN (ndF f (d + 1)) d (ents (srt (p0 :: rs))) := by
    rw [he] at hok hp ⊢
    have hc := alk_is hok (enP p0) (rs.map enP) hp (e := e) (g := (e2 :: r).getLastD e2) rfl (last_at e e2 r)
    rw [ha] at hc
    rw [nd_fork f d e e2 r hc.symm]
  rw [hnd, hfk]
  congr 1
  funext j
  have hv : (hvP d (j : Int) (p0 :: rs)).length = ((ents (srt (p0 :: rs))).filter (goes d (j : Int))).length := by
    rw [← hv_srt hr, ents_len, (srt_perm _).length_eq]
  have hall := nsF_all (f := f) (d := d + 1) (by omega) (hvP d (j : Int) (p0 :: rs))
  unfold nsF at hall
  rw [hall, hv, hv_srt hr]
end Go.Proofs.YtbpcciifaekffaaGreatDoor
