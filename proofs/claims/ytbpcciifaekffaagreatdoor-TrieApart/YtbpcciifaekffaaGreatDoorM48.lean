/- Lemmas: What the reference filters and measures, on sorted entries. -/
import Derived.Test.YtbpcciifaekffaaGreatDoorM1
import Derived.Test.YtbpcciifaekffaaGreatDoorM10
import Derived.Test.YtbpcciifaekffaaGreatDoorM11
import Derived.Test.YtbpcciifaekffaaGreatDoorM12
import Derived.Test.YtbpcciifaekffaaGreatDoorM13
import Derived.Test.YtbpcciifaekffaaGreatDoorM14
import Derived.Test.YtbpcciifaekffaaGreatDoorM15
import Derived.Test.YtbpcciifaekffaaGreatDoorM16
import Derived.Test.YtbpcciifaekffaaGreatDoorM17
import Derived.Test.YtbpcciifaekffaaGreatDoorM18
import Derived.Test.YtbpcciifaekffaaGreatDoorM19
import Derived.Test.YtbpcciifaekffaaGreatDoorM2
import Derived.Test.YtbpcciifaekffaaGreatDoorM20
import Derived.Test.YtbpcciifaekffaaGreatDoorM21
import Derived.Test.YtbpcciifaekffaaGreatDoorM22
import Derived.Test.YtbpcciifaekffaaGreatDoorM23
import Derived.Test.YtbpcciifaekffaaGreatDoorM24
import Derived.Test.YtbpcciifaekffaaGreatDoorM25
import Derived.Test.YtbpcciifaekffaaGreatDoorM26
import Derived.Test.YtbpcciifaekffaaGreatDoorM27
import Derived.Test.YtbpcciifaekffaaGreatDoorM28
import Derived.Test.YtbpcciifaekffaaGreatDoorM29
import Derived.Test.YtbpcciifaekffaaGreatDoorM3
import Derived.Test.YtbpcciifaekffaaGreatDoorM30
import Derived.Test.YtbpcciifaekffaaGreatDoorM31
import Derived.Test.YtbpcciifaekffaaGreatDoorM32
import Derived.Test.YtbpcciifaekffaaGreatDoorM33
import Derived.Test.YtbpcciifaekffaaGreatDoorM34
import Derived.Test.YtbpcciifaekffaaGreatDoorM35
import Derived.Test.YtbpcciifaekffaaGreatDoorM36
import Derived.Test.YtbpcciifaekffaaGreatDoorM37
import Derived.Test.YtbpcciifaekffaaGreatDoorM38
import Derived.Test.YtbpcciifaekffaaGreatDoorM39
import Derived.Test.YtbpcciifaekffaaGreatDoorM4
import Derived.Test.YtbpcciifaekffaaGreatDoorM40
import Derived.Test.YtbpcciifaekffaaGreatDoorM41
import Derived.Test.YtbpcciifaekffaaGreatDoorM42
import Derived.Test.YtbpcciifaekffaaGreatDoorM43
import Derived.Test.YtbpcciifaekffaaGreatDoorM44
import Derived.Test.YtbpcciifaekffaaGreatDoorM45
import Derived.Test.YtbpcciifaekffaaGreatDoorM46
import Derived.Test.YtbpcciifaekffaaGreatDoorM47
import Derived.Test.YtbpcciifaekffaaGreatDoorM5
import Derived.Test.YtbpcciifaekffaaGreatDoorM6
import Derived.Test.YtbpcciifaekffaaGreatDoorM7
import Derived.Test.YtbpcciifaekffaaGreatDoorM8
import Derived.Test.YtbpcciifaekffaaGreatDoorM9
import Derived.Test.YtbpcciifaekffaaGreatDoorRows
namespace Go.Proofs.YtbpcciifaekffaaGreatDoor
open Go.RowKit Go.Shelf Go.Sort

theorem Ok_iff (d : Nat) (es : List Pr) : Ok d es ↔ (1 ≤ es.length ∧ es.length ≤ 200 ∧ (∀ e ∈ es, d ≤ e.1.size ∧ e.1.size ≤ 128 ∧ e.2.size ≤ 1000) ∧ es.Pairwise (fun e f => LtB e.1 f.1) ∧ (∀ e ∈ es, ∀ f ∈ es, ∀ t, t < d → bt e.1 t = bt f.1 t) ∧ (∀ e ∈ es, ∀ t, 0 ≤ bt e.1 t ∧ bt e.1 t < 16)) := by
  constructor
  · intro h
    refine ⟨h.pos, h.few, fun e he => ?_, ?_, fun e he f hf t ht => ?_, fun e he t => ?_⟩
    · obtain ⟨j, hj⟩ := List.getElem?_of_mem he
      exact h.sz j e hj
    · rw [List.pairwise_iff_getElem]
      intro i j hi hj hij
      exact h.srt i j _ _ hij (List.getElem?_eq_getElem hi) (List.getElem?_eq_getElem hj)
    · obtain ⟨i, hi⟩ := List.getElem?_of_mem he
      obtain ⟨j, hj⟩ := List.getElem?_of_mem hf
      exact h.alk i j e f t hi hj ht
    · obtain ⟨i, hi⟩ := List.getElem?_of_mem he
      exact h.hlf i e t hi
  · rintro ⟨h1, h2, h3, h4, h5, h6⟩
    rw [List.pairwise_iff_getElem] at h4
    refine ⟨h1, h2, fun j e he => h3 e (List.mem_of_getElem? he), fun i j e f hij he hf => ?_, fun i j e f t he hf ht => h5 e (List.mem_of_getElem? he) f (List.mem_of_getElem? hf) t ht, fun j e t he => h6 e (List.mem_of_getElem? he) t⟩
    obtain ⟨hi, rfl⟩ := List.getElem?_eq_some_iff.1 he
    obtain ⟨hj, rfl⟩ := List.getElem?_eq_some_iff.1 hf
    exact h4 i j hi hj hij
theorem Ok.sub {d : Nat} {es gs : List Pr} (h : Ok d es) (hs : gs.Sublist es) (h0 : gs.length ≠ 0) : Ok d gs := by
  rw [Ok_iff] at h ⊢
  obtain ⟨h1, h2, h3, h4, h5, h6⟩ := h
  have := hs.length_le
  exact ⟨by omega, by omega, fun e he => h3 e (hs.subset he), h4.sublist hs, fun e he f hf => h5 e (hs.subset he) f (hs.subset hf), fun e he => h6 e (hs.subset he)⟩
/-- Those that go on with a half byte, a place further. -/
theorem Ok.going {d : Nat} {es : List Pr} (h : Ok d es) (x : Int) (h0 : (es.filter (goes d x)).length ≠ 0) : Ok (d + 1) (es.filter (goes d x)) := by
  refine (h.sub List.filter_sublist h0).next x fun j e he => ?_
  have := (List.mem_filter.1 (List.mem_of_getElem? he)).2
  unfold goes at this
  simpa using this
theorem right_iff (es : List Pr) : RightP es ↔ (es.length ≤ 200 ∧ (∀ e ∈ es, pOk e = true) ∧ es.Pairwise (fun a b => a.1 ≠ b.1)) := by
  constructor
  · rintro ⟨h1, h2, h3⟩
    refine ⟨h1, fun e he => ?_, ?_⟩
    · obtain ⟨j, hj⟩ := List.getElem?_of_mem he
      exact h2 j e hj
    · rw [List.pairwise_iff_getElem]
      intro i j hi hj hij
      exact h3 i j _ _ hij (List.getElem?_eq_getElem hi) (List.getElem?_eq_getElem hj)
  · rintro ⟨h1, h2, h3⟩
    rw [List.pairwise_iff_getElem] at h3
    refine ⟨h1, fun j e he => h2 e (List.mem_of_getElem? he), fun j k e f hjk he hf => ?_⟩
    obtain ⟨hi, rfl⟩ := List.getElem?_eq_some_iff.1 he
    obtain ⟨hj, rfl⟩ := List.getElem?_eq_some_iff.1 hf
    exact h3 j k hi hj hjk
theorem right_sub {es gs : List Pr} (h : RightP es) (hs : gs.Sublist es) : RightP gs := by
  rw [right_iff] at h ⊢
  have := hs.length_le
  exact ⟨by omega, fun e he => h.2.1 e (hs.subset he), h.2.2.sublist hs⟩
theorem sorted_sub {es gs : List Pr} (h : SortedP es) (hs : gs.Sublist es) : SortedP gs := by
  have h1 : es.Pairwise fun x y => ltStr y.1.data.toList x.1.data.toList = false := by
    rw [List.pairwise_iff_getElem]
    intro i j hi hj hij
    exact h i j _ _ hij (List.getElem?_eq_getElem hi) (List.getElem?_eq_getElem hj)
  have h2 := h1.sublist hs
  rw [List.pairwise_iff_getElem] at h2
  intro i j x y hij hx hy
  obtain ⟨hi, rfl⟩ := List.getElem?_eq_some_iff.1 hx
  obtain ⟨hj, rfl⟩ := List.getElem?_eq_some_iff.1 hy
  exact h2 i j hi hj hij
theorem srt_filter {ps : List Pr} (hr : RightP ps) (f : Pr → Bool) : srt (ps.filter f) = (srt ps).filter f :=
  sorted_one (right_sub hr List.filter_sublist) (srt_perm _) ((srt_perm ps).filter f) (srt_sorted _) (sorted_sub (srt_sorted ps) List.filter_sublist)
/-- A pair as an entry. -/
def enP (p : Pr) : Pr := (ofOf p.1, p.2)
theorem ents_map (ps : List Pr) : ents ps = ps.map enP := rfl
theorem ents_filter (ps : List Pr) (g : Pr → Bool) : ents (ps.filter fun p => g (enP p)) = (ents ps).filter g := by
  rw [ents_map, ents_map, List.filter_map]
  rfl
/-- The pairs whose paths go on with a half byte. -/
def hvP (d : Nat) (h : Int) (ps : List Pr) : List Pr := ps.filter fun p => goes d h (enP p)
theorem hv_srt {ps : List Pr} (hr : RightP ps) (d : Nat) (h : Int) : ents (srt (hvP d h ps)) = (ents (srt ps)).filter (goes d h) := by
  unfold hvP
  rw [srt_filter hr, ents_filter]
theorem mem_ents {ps : List Pr} {e : Pr} : e ∈ ents (srt ps) ↔ ∃ p ∈ ps, e = enP p := by
  rw [ents_map, List.mem_map]
  constructor
  · rintro ⟨p, hp, rfl⟩
    exact ⟨p, (srt_perm ps).mem_iff.1 hp, rfl⟩
  · rintro ⟨p, hp, rfl⟩
    exact ⟨p, (srt_perm ps).mem_iff.2 hp, rfl⟩

/-- How much all have alike with the first one. -/
def alkV (d : Nat) (e0 : Pr) (r : List Pr) : Nat := r.foldl (fun n e => min n (common (tl d e0) (tl d e))) (tl d e0).size
theorem fold_lower (c : Pr → Nat) (a : Nat) : ∀ (r : List Pr) (n : Nat), a ≤ n → (∀ e ∈ r, a ≤ c e) → a ≤ r.foldl (fun n e => min n (c e)) n
  | [], n, h, _ => h
  | e :: r, n, h, hr => by
    rw [List.foldl_cons]
    have := hr e (by simp)
    exact fold_lower c a r _ (by omega) fun e he => hr e (by simp [he])
theorem fold_init (c : Pr → Nat) : ∀ (r : List Pr) (n : Nat), r.foldl (fun n e => min n (c e)) n ≤ n
  | [], n => Nat.le_refl _
  | e :: r, n => by
    rw [List.foldl_cons]
    have := fold_init c r (min n (c e))
    omega
theorem fold_upper (c : Pr → Nat) : ∀ (r : List Pr) (n : Nat) (e : Pr), e ∈ r → r.foldl (fun n e => min n (c e)) n ≤ c e
  | [], _, _, h => by cases h
  | e' :: r, n, e, h => by
    rw [List.foldl_cons]
    rcases List.mem_cons.1 h with rfl | h
    · have := fold_init c r (min n (c e))
      omega
    · exact fold_upper c r _ e h
theorem common_ge {a b : ByteArray} {k : Nat} (h1 : k ≤ a.size) (h2 : k ≤ b.size) (h : ∀ j, j < k → bt a j = bt b j) : k ≤ common a b := by
  obtain ⟨c1, c2, c3, c4⟩ := common_spec a b
  by_cases hk : k ≤ common a b
  · exact hk
  · exact absurd ⟨by omega, by omega, h _ (by omega)⟩ c4
theorem alk_is {d : Nat} {es : List Pr} (h : Ok d es) (e0 : Pr) (r : List Pr) (hp : (e0 :: r).Perm es) {e g : Pr} (he : es[0]? = some e) (hg : es[es.length - 1]? = some g) : alkV d e0 r = common (tl d e) (tl d g) := by
  obtain ⟨a, ha⟩ : ∃ a, common (tl d e) (tl d g) = a := ⟨_, rfl⟩
  have hok := common_ok h he hg
  obtain ⟨c1, c2, c3, c4⟩ := common_spec (tl d e) (tl d g)
  rw [ha] at hok c1 c2 c3 c4 ⊢
  rw [tl_size] at c1 c2
  rw [tl_size, tl_size] at c4
  have hsz : ∀ x ∈ es, d + a ≤ x.1.size := fun x hx => by
    obtain ⟨j, hj⟩ := List.getElem?_of_mem hx
    exact (hok.sz j x hj).1
  have hm0 : e0 ∈ es := hp.mem_iff.1 (by simp)
  have hge : a ≤ alkV d e0 r := by
    refine fold_lower _ a r _ (by rw [tl_size]; have := hsz e0 hm0; omega) fun x hx => ?_
    have hmx : x ∈ es := hp.mem_iff.1 (by simp [hx])
    have s0 := hsz e0 hm0
    have s1 := hsz x hmx
    refine common_ge (by rw [tl_size]; omega) (by rw [tl_size]; omega) fun j hj => ?_
    rw [tl_bt d e0 j (by omega), tl_bt d x j (by omega)]
    obtain ⟨i0, hi0⟩ := List.getElem?_of_mem hm0
    obtain ⟨i1, hi1⟩ := List.getElem?_of_mem hmx
    exact hok.alk i0 i1 e0 x (d + j) hi0 hi1 (by omega)
  by_cases hlt : a < alkV d e0 r
  · exfalso
    have key : ∀ x ∈ es, d + a < x.1.size ∧ bt x.1 (d + a) = bt e0.1 (d + a) := fun x hx => by
      have s0 := fold_init (fun e => common (tl d e0) (tl d e)) r (tl d e0).size
      rw [tl_size] at s0
      have s0' : alkV d e0 r ≤ e0.1.size - d := by unfold alkV; rw [tl_size]; exact s0
      rcases List.mem_cons.1 (hp.mem_iff.2 hx) with rfl | hxr
      · exact ⟨by omega, rfl⟩
      · have u := fold_upper (fun e => common (tl d e0) (tl d e)) r (tl d e0).size x hxr
        have u' : alkV d e0 r ≤ common (tl d e0) (tl d x) := u
        obtain ⟨k1, k2, k3, _⟩ := common_spec (tl d e0) (tl d x)
        rw [tl_size] at k1 k2
        have k3' := k3 a (by omega)
        rw [n_bt_eq, n_bt_eq, tl_bt d e0 a (by omega), tl_bt d x a (by omega)] at k3'
        exact ⟨by omega, k3'.symm⟩
    have k1 := key e (List.mem_of_getElem? he)
    have k2 := key g (List.mem_of_getElem? hg)
    refine c4 ⟨by omega, by omega, ?_⟩
    rw [n_bt_eq, n_bt_eq, tl_bt d e a (by omega), tl_bt d g a (by omega), k1.2, k2.2]
  · omega
/-- The value of the pair whose path ends at a place. -/
def enV (d : Nat) : List Pr → ByteArray
  | [] => ⟨#[]⟩
  | p :: r => if 2 * p.1.size = d then p.2 else enV d r
theorem enV_none {d : Nat} : ∀ {ps : List Pr}, (∀ p ∈ ps, 2 * p.1.size ≠ d) → enV d ps = ⟨#[]⟩
  | [], _ => rfl
  | p :: r, h => by
    unfold enV
    rw [if_neg (h p (by simp))]
    exact enV_none fun q hq => h q (by simp [hq])
theorem enV_some {d : Nat} {v : ByteArray} : ∀ {ps : List Pr}, (∃ p ∈ ps, 2 * p.1.size = d) → (∀ p ∈ ps, 2 * p.1.size = d → p.2 = v) → enV d ps = v
  | [], h, _ => by
    obtain ⟨_, h, _⟩ := h
    cases h
  | p :: r, h, hv => by
    unfold enV
    by_cases hp : 2 * p.1.size = d
    · rw [if_pos hp]
      exact hv p (by simp) hp
    · rw [if_neg hp]
      obtain ⟨q, hq, hq2⟩ := h
      rcases List.mem_cons.1 hq with rfl | hq
      · exact absurd hq2 hp
      · exact enV_some ⟨q, hq, hq2⟩ fun q hq => hv q (by simp [hq])
theorem en_is {d : Nat} {ps : List Pr} (h : Ok d (ents (srt ps))) : enV d ps = vlE d (ents (srt ps)) := by
  obtain ⟨es, hes⟩ : ∃ es, ents (srt ps) = es := ⟨_, rfl⟩
  have hm : ∀ p ∈ ps, enP p ∈ es := fun p hp => by rw [← hes]; exact mem_ents.2 ⟨p, hp, rfl⟩
  have hm2 : ∀ e ∈ es, ∃ p ∈ ps, e = enP p := fun e he => by rw [← hes] at he; exact mem_ents.1 he
  rw [hes] at h ⊢
  have hsz : ∀ p : Pr, (enP p).1.size = 2 * p.1.size := fun p => of_sz p.1
  match es, h, hm, hm2 with
  | [], h, _, _ => exact absurd h.pos (by simp)
  | e :: r, h, hm, hm2 =>
    unfold vlE
    dsimp only
    by_cases he : e.1.size = d
    · rw [if_pos he]
      obtain ⟨p, hp, rfl⟩ := hm2 e (by simp)
      refine enV_some ⟨p, hp, by rw [← hsz]; exact he⟩ fun q hq hq2 => ?_
      obtain ⟨j, hj⟩ := List.getElem?_of_mem (hm q hq)
      by_cases hj0 : j = 0
      · subst hj0
        have e1 : enP p = enP q := by simpa using hj
        exact (congrArg (·.2) e1).symm
      · have := h.longer (i := 0) (j := j) (by omega) rfl hj
        rw [hsz] at this
        omega
    · rw [if_neg he]
      refine enV_none fun q hq hq2 => ?_
      obtain ⟨j, hj⟩ := List.getElem?_of_mem (hm q hq)
      by_cases hj0 : j = 0
      · subst hj0
        have e1 : e = enP q := by simpa using hj
        rw [e1, hsz] at he
        exact he hq2
      · have := h.longer (i := 0) (j := j) (by omega) rfl hj
        rw [hsz] at this
        omega
end Go.Proofs.YtbpcciifaekffaaGreatDoor
