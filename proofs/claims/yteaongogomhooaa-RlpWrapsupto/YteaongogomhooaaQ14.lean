/- The items that stand one behind the other in bytes, gone through. -/
import Derived.Test.YteaongogomhooaaQ13
namespace Go.Proofs.Yteaongogomhooaa
open Go.RowKit Go.Shelf Go.Sort
attribute [local go_sem] Oper.semAt_some

theorem cutAt_le {told : Nat} {s : ByteArray} {d n : Nat} (h : cutAt told s = some (d, n)) : d + n ≤ s.size := by
  unfold cutAt at h
  split at h
  · split at h
    · cases h
    · cases h
      omega
  · split at h
    · cases h
    · split at h
      · cases h
        omega
      · cases h
theorem cutK_lt (s : ByteArray) (hp : 0 < s.size) : (cutK s).1 ≠ 0 → (cutK s).2.1.size ≤ s.size ∧ ((cutK s).1 = 2 → (cutK s).2.1.size < s.size) ∧ (cutK s).2.2.size < s.size := by
  unfold cutK
  split
  · intro _
    simp
    omega
  · split
    · split
      · intro h
        exact absurd rfl h
      · rename_i d n h
        have := cutAt_le h
        simp at this
        split
        · intro h
          exact absurd rfl h
        · intro _
          simp
          omega
    · split
      · intro h
        exact absurd rfl h
      · rename_i d n h
        have := cutAt_le h
        simp at this
        intro _
        simp
        omega
/-- The parts of bytes. -/
def psF : Nat → ByteArray → List (Nat × ByteArray)
  | 0, _ => []
  | f + 1, s => if s.size = 0 then [] else if (cutK s).1 = 0 then [(0, ⟨#[]⟩)] else ((cutK s).1, (cutK s).2.1) :: psF f (cutK s).2.2
def ps (s : ByteArray) : List (Nat × ByteArray) := psF s.size s
theorem psF_ps : ∀ (f g : Nat) (s : ByteArray), s.size ≤ f → s.size ≤ g → psF f s = psF g s
  | 0, 0, _, _, _ => rfl
  | 0, g + 1, s, h, _ => by
    show [] = if s.size = 0 then _ else _
    rw [if_pos (by omega)]
  | f + 1, 0, s, _, h => by
    show (if s.size = 0 then _ else _) = []
    rw [if_pos (by omega)]
  | f + 1, g + 1, s, h, h' => by
    show (if s.size = 0 then _ else _) = (if s.size = 0 then _ else _)
    split
    · rfl
    · split
      · rfl
      · rename_i h0 h1
        have := cutK_lt s (by omega) h1
        rw [psF_ps f g _ (by omega) (by omega)]
theorem ps_eq (s : ByteArray) : ps s = if s.size = 0 then [] else if (cutK s).1 = 0 then [(0, ⟨#[]⟩)] else ((cutK s).1, (cutK s).2.1) :: ps (cutK s).2.2 := by
  by_cases h : s.size = 0
  · rw [if_pos h]
    unfold ps
    rw [h]
    rfl
  · rw [if_neg h]
    obtain ⟨f, hf⟩ : ∃ f, s.size = f + 1 := ⟨s.size - 1, by omega⟩
    have e : ps s = psF (f + 1) s := by unfold ps; rw [hf]
    rw [e]
    show (if s.size = 0 then _ else _) = _
    rw [if_neg h]
    split
    · rfl
    · rename_i h1
      have := cutK_lt s (by omega) h1
      show _ :: psF f _ = _ :: psF _ _
      rw [psF_ps f _ _ (by omega) (Nat.le_refl _)]
theorem cutK_zero (s : ByteArray) (h : (cutK s).1 = 0) : cutK s = (0, ⟨#[]⟩, ⟨#[]⟩) := by
  revert h
  unfold cutK
  split
  · intro h; cases h
  · split
    · split
      · intro _; rfl
      · split
        · intro _; rfl
        · intro h; cases h
    · split
      · intro _; rfl
      · intro h; cases h
theorem ps_len : ∀ (N : Nat) (s : ByteArray), s.size ≤ N → (ps s).length ≤ s.size
  | 0, s, h => by
    rw [ps_eq, if_pos (by omega)]
    exact Nat.zero_le _
  | N + 1, s, h => by
    rw [ps_eq]
    split
    · exact Nat.zero_le _
    · split
      · show 1 ≤ _
        omega
      · rename_i h0 h1
        have h2 := cutK_lt s (by omega) h1
        have h3 := ps_len N (cutK s).2.2 (by omega)
        show (ps _).length + 1 ≤ _
        omega
def strSz : Value → Nat
  | .string s => s.size
  | _ => 0
def pEnc (e : Nat × ByteArray) : Array Value := #[.int .i64 e.1, .string e.2]

set_option maxRecDepth 100000 in
set_option maxHeartbeats 2000000 in
theorem parts1_in (n l bX : Nat) (s : ByteArray) (hs : s.size < 1000000000000000000) (J Jx : List (Nat × ByteArray) → World → Prop) (B : Nat) (hJ : AbidesFrom B J)
    (hY : ∀ m pre e W, J pre W → pre.length < (ps s).length → e ∈ ps s → YieldAt Fence.wide m Try.prog l (pEnc e) W fun e' W' =>
      (e' = .returned (.bool true) ∧ J (pre ++ [e]) W') ∨ (e' = .returned (.bool false) ∧ Jx (pre ++ [e]) W'))
    (W : World) (hc : W.cell? ⟨bX, 0, none⟩ = some (.string s)) (h0 : J [] W) :
    CallsIn Fence.wide n Try.prog 47 #[.func (.yield l) #[] #[], .pointer (some ⟨bX, 0, none⟩)] W fun e W' => (∃ v, e = .returned v) ∧
      (J (ps s) W' ∨ (∃ q, q ≤ (ps s).length ∧ Jx ((ps s).take q) W')) := by
  refine callsIn_of_wp Try.func47 rfl trivial ?_ rfl
  simp only [Try.ntmps47, List.size_toArray, List.length_cons, List.length_nil, Nat.reduceAdd, Nat.reduceSub, Array.replicate_succ, Array.replicate_zero, List.push_toArray, List.append_toArray, List.nil_append, List.cons_append]
  gi_wp2
  gi_loopw [3] (fun v wr => ∃ (r : ByteArray) (pre : List (Nat × ByteArray)), v = .string r ∧ r.size ≤ s.size ∧ ps s = pre ++ ps r ∧ J pre wr) (fun v _ => strSz v)
  case atStart => exact ⟨s, [], rfl, Nat.le_refl _, rfl, h0⟩
  case round =>
    obtain ⟨r, pre, rfl, hr, hpre, hJs⟩ := hrel
    by_cases hz : r.size = 0
    · have he := is_empty r hz
      have he2 := empty_list r hz
      rw [ps_eq r, if_pos hz, List.append_nil] at hpre
      subst he
      have HH : Hid _ := hpre
      clear hpre
      gi_wp2
      go_end0
      exact ⟨⟨_, rfl⟩, .inl (by rw [HH.out]; exact hJs)⟩
    · have hrp : 0 < r.size := by omega
      have hne := ne_empty r hrp
      have KC := cut_any r hrp (by omega)
      have HK := cutK_lt r hrp
      have HZ := cutK_zero r
      rw [ps_eq r, if_neg hz] at hpre
      obtain ⟨⟨k, bo, be⟩, hk⟩ : ∃ c, cutK r = c := ⟨_, rfl⟩
      rw [hk] at KC HK HZ hpre
      dsimp only [ktV] at KC HK HZ hpre
      have HX : Hid (_ ∧ _ ∧ _) := ⟨HK, HZ, hpre⟩
      clear HK HZ hpre hk
      gi_wp2_with fail
      refine ⟨trivial, fun h => (by cases h), (callsIn_wide.2 (KC _)).mono ?_⟩
      rintro e w3 ⟨rfl, B3⟩
      have hJ3 := hJ pre wr w3 none hJs (grown_of B3) (fun _ h => by cases h)
      clear B3 hJs KC
      by_cases hk0 : k = 0
      · subst hk0
        obtain ⟨-, HZ, hpre⟩ := HX.out
        rw [if_pos rfl] at hpre
        have hbe := HZ rfl
        injection hbe with _ hbe
        injection hbe with h1 h2
        subst h1 h2
        obtain ⟨fn, tmps, assign, body, hy, hR⟩ := hY (n - 1) pre (0, ⟨#[]⟩) w3 hJ3 (by rw [hpre, List.length_append]; simp) (by rw [hpre]; simp)
        unfold pEnc at hy
        dsimp only at hy
        rw [show ((0 : Nat) : Int) = 0 from rfl] at hy
        have HJ : Hid (_ ∧ _) := ⟨hJ3, hpre⟩
        clear hJ3 hpre HX HZ
        gi_wp2
        refine ⟨fun h => (by cases h), hR.mono ?_⟩
        rintro e W4 (⟨rfl, hJ4⟩ | ⟨rfl, hJx4⟩)
        · clear hy hR
          gi_wp2
          refine bodyPost_ret (v := .tuple #[]) (by simp [results, Try.results47, go_sem]) rfl ⟨⟨_, rfl⟩, .inl ?_⟩
          rw [HJ.out.2]
          exact hJ4
        · clear hy hR
          gi_wp2
          refine bodyPost_ret (v := .tuple #[]) (by simp [results, Try.results47, go_sem]) rfl ⟨⟨_, rfl⟩, .inr ⟨pre.length + 1, ?_, ?_⟩⟩
          · rw [HJ.out.2, List.length_append, List.length_cons]
            omega
          · rw [HJ.out.2, List.take_append, List.take_of_length_le (Nat.le_succ _), show pre.length + 1 - pre.length = 1 by omega]
            exact hJx4
      · obtain ⟨HK, -, hpre⟩ := HX.out
        rw [if_neg hk0] at hpre
        obtain ⟨hk1, hk2, hk3⟩ := HK hk0
        have hkb : ((k : Int) == 0) = false := by rw [beq_eq_false_iff_ne]; omega
        obtain ⟨fn, tmps, assign, body, hy, hR⟩ := hY (n - 1) pre (k, bo) w3 hJ3 (by rw [hpre, List.length_append]; simp) (by rw [hpre]; simp)
        unfold pEnc at hy
        have HJ : Hid (_ ∧ _) := ⟨hJ3, hpre⟩
        clear hJ3 hpre HX HK
        gi_wp2
        refine ⟨fun h => (by cases h), hR.mono ?_⟩
        rintro e W4 (⟨rfl, hJ4⟩ | ⟨rfl, hJx4⟩)
        · clear hy hR
          gi_wp2
          go_roundw
          case rel =>
            refine ⟨be, pre ++ [(k, bo)], rfl, by omega, ?_, hJ4⟩
            rw [HJ.out.2, List.append_assoc]
            rfl
          case measure => show be.size < r.size; omega
        · clear hy hR
          gi_wp2
          refine bodyPost_ret (v := .tuple #[]) (by simp [results, Try.results47, go_sem]) rfl ⟨⟨_, rfl⟩, .inr ⟨pre.length + 1, ?_, ?_⟩⟩
          · rw [HJ.out.2, List.length_append, List.length_cons]
            omega
          · rw [HJ.out.2, List.take_append, List.take_of_length_le (Nat.le_succ _), show pre.length + 1 - pre.length = 1 by omega]
            exact hJx4
abbrev Pe (s : ByteArray) := { e : Nat × ByteArray // e ∈ ps s }
theorem parts_stops (n bX : Nat) (s : ByteArray) (hs : s.size < 1000000000000000000) (w : World) (hbx : Bx bX 9 (.string s) w) :
    SeqStopsK Fence.wide n Try.prog 47 #[.pointer (some ⟨bX, 0, none⟩)] (fun e : Pe s => pEnc e.1) (fun _ _ => True) (fun ys => ys.map (·.1) = ps s) (fun pre => ∃ q, q ≤ (ps s).length ∧ pre.map (·.1) = (ps s).take q) (ps s).length w := fun l J Jx W hW hJ hJx hY h0 => by
  refine (parts1_in n l bX s hs (fun pre0 W => ∃ pre : List (Pe s), pre.map (·.1) = pre0 ∧ J pre W) (fun pre0 W => ∃ pre : List (Pe s), pre.map (·.1) = pre0 ∧ Jx pre W) W.heap.size
    (fun s A C row hs hg hr => by obtain ⟨pre, h1, h2⟩ := hs; exact ⟨pre, h1, hJ pre A C row h2 hg hr⟩)
    (fun m pre0 e W1 hj hl he => by
      obtain ⟨pre, h1, h2⟩ := hj
      have hl' : pre.length < (ps s).length := by rw [← h1, List.length_map] at hl; exact hl
      refine (yieldAny m (hY pre ⟨e, he⟩ W1 h2 hl')).mono fun e' W' h => ?_
      rcases h with ⟨ha, hb, _⟩ | ⟨ha, hb⟩
      · exact .inl ⟨ha, ⟨pre ++ [⟨e, he⟩], by rw [List.map_append, h1]; rfl, hb⟩⟩
      · exact .inr ⟨ha, ⟨pre ++ [⟨e, he⟩], by rw [List.map_append, h1]; rfl, hb⟩⟩) W (Bx.cell ((hW.block bX hbx.lt).trans hbx)) ⟨[], rfl, h0⟩).mono ?_
  rintro e W' ⟨he, ⟨pre, h1, h2⟩ | ⟨q, hq, pre, h1, h2⟩⟩
  · exact ⟨he, .inl ⟨pre, h1, h2⟩⟩
  · exact ⟨he, .inr ⟨pre, ⟨q, hq, h1⟩, h2⟩⟩

set_option maxHeartbeats 1000000 in
theorem parts_any (s : ByteArray) (w : World) :
    Calls Try.prog 44 #[.string s] w fun e w' => e = .returned (.func (.func 47) #[] #[.pointer (some ⟨w.heap.size, 0, none⟩)]) ∧ w' = w.alloc (.cells #[.string s] 9) := by
  go_enter Try.func44, Try.ntmps44
  go_wp2
  go_ret
  exact ⟨rfl, rfl⟩
end Go.Proofs.Yteaongogomhooaa
