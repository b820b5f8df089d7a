/- Lemmas: TrieRefers. -/
import Derived.Test.YtfdjiofogohcmaaGreatDoorM35
namespace Go.Proofs.YtfdjiofogohcmaaGreatDoor
open Go.RowKit Go.Shelf Go.Sort
mutual
/-- A way is among all. -/
theorem wyN_sub (path : ByteArray) : ∀ n : Nd, (wyN path n).Sublist (allN n)
  | .mk x ss => List.Sublist.append (List.Sublist.refl (ownT x)) (wyS_sub path ss)
theorem wyS_sub (path : ByteArray) : ∀ ss : Sts, (wyS path ss).Sublist (allS ss)
  | .nil => List.Sublist.refl _
  | .cons p n r => by
    show (if pfx p path = true then wyN (rst path p) n else wyS path r).Sublist (allN n ++ allS r)
    split
    · exact (wyN_sub (rst path p) n).trans (List.sublist_append_left _ _)
    · exact (wyS_sub path r).trans (List.sublist_append_right _ _)
end
mutual
theorem allN_big : ∀ (n : Nd) (t : ByteArray), t ∈ allN n → 32 ≤ t.size
  | .mk x ss, t, h => by
    rcases List.mem_append.1 (show t ∈ ownT x ++ allS ss from h) with h | h
    · unfold ownT at h
      split at h
      · cases h
      · rename_i h1
        rw [List.mem_singleton.1 h]
        omega
    · exact allS_big ss t h
theorem allS_big : ∀ (ss : Sts) (t : ByteArray), t ∈ allS ss → 32 ≤ t.size
  | .nil, t, h => by cases h
  | .cons p n r, t, h => by
    rcases List.mem_append.1 (show t ∈ allN n ++ allS r from h) with h | h
    · exact allN_big n t h
    · exact allS_big r t h
end
theorem td_sub (b : Bool) (path : ByteArray) (es : List Pr) : (tdS b (wayL path) es).Sublist (tdS b nodesL es) := by
  unfold tdS
  split
  · unfold wyL
    split
    · exact List.Sublist.refl _
    · obtain ⟨x, ss⟩ := topN (srt es)
      exact List.Sublist.cons_cons _ (wyS_sub path ss)
  · exact List.Sublist.refl _
theorem td_big (b : Bool) (path : ByteArray) (es : List Pr) (i : Nat) (t : ByteArray) (hi : 0 < i) (ht : (tdS b (wayL path) es)[i]? = some t) : 32 ≤ t.size := by
  unfold tdS at ht
  split at ht
  · unfold wyL at ht
    split at ht
    · cases ht
    · generalize topN (srt es) = nd at ht
      obtain ⟨x, ss⟩ := nd
      unfold wayL at ht
      obtain ⟨k, rfl⟩ : ∃ k, i = k + 1 := ⟨i - 1, by omega⟩
      have h1 : (wyS path ss)[k]? = some t := by simpa [Nd.ss] using ht
      exact allS_big ss t ((wyS_sub path ss).subset (List.mem_of_getElem? h1))
  · cases ht
theorem td_pos (path : ByteArray) (es : List Pr) (h : es.length ≠ 0) : 0 < (tdS true (wayL path) es).length := by
  unfold tdS
  rw [if_pos rfl]
  unfold wyL
  rw [if_neg (by rw [(srt_perm es).length_eq]; exact h)]
  show 0 < (_ :: _ : List ByteArray).length
  simp

theorem drop_some {xs : List ByteArray} {k : Nat} {x : ByteArray} (h : xs[k]? = some x) : xs.drop k = x :: xs.drop (k + 1) := by
  obtain ⟨h1, h2⟩ := List.getElem?_eq_some_iff.1 h
  rw [List.drop_eq_getElem_cons h1, h2]

set_option maxRecDepth 20000 in
set_option maxHeartbeats 4000000 in
theorem trefers_any (es : List Pr) (a : Option Addr) (c : Nat) (key : ByteArray) (w : World) (hl : Laid w) (hp : slP w.heap.size w a es) :
    Calls Tryz.prog 8 #[.slice a es.length c, .string key] w fun e w' => e = .returned (.bool true) ∧ Below w.heap.size w w' := by
  go_enter Tryz.func8, Tryz.ntmps8
  go_wp2_with fail
  refine (shown6_any w hl).mono ?_
  rintro e w1 ⟨rfl, B1⟩
  have hl1 := hl.below B1
  have K1 := some_any es a c w1 (slP_up (slP_below B1 hp) B1.size)
  clear hp
  go_wp2_with fail
  refine K1.mono ?_
  rintro e w2 ⟨B2, a2, c2, rfl, hp2⟩
  have B12 := belowStep B1 B1.size B2
  have hl2 := hl1.below B2
  have hle := sm_len es
  obtain ⟨Ls, hL⟩ : ∃ Ls, smE es = Ls := ⟨_, rfl⟩
  rw [hL] at hp2 hle ⊢
  clear hL K1 B1 B2
  obtain ⟨q, hq⟩ := right_bool Ls
  have KP := fun W hl hn hs => prove_one hq (List.Perm.refl Ls) key a2 c2 w2.heap.size W hl hn hs
  have KN := fun W hl hn hs => nodes_one hq (List.Perm.refl Ls) a2 c2 w2.heap.size W hl hn hs
  have hlen := tdW_len (kyP key) Ls hq
  have hlen2 := tdN_len Ls hq
  obtain ⟨n, hn⟩ : ∃ n, Ls.length = n := ⟨_, rfl⟩
  obtain ⟨x, hx⟩ : ∃ x, erS q = x := ⟨_, rfl⟩
  obtain ⟨xs, hxs⟩ : ∃ xs, tdS q (wayL (kyP key)) Ls = xs := ⟨_, rfl⟩
  obtain ⟨ys, hys⟩ : ∃ xs, tdS q nodesL Ls = xs := ⟨_, rfl⟩
  rw [hxs, hx] at KP
  rw [hys, hx] at KN
  rw [hxs] at hlen
  rw [hys] at hlen2
  obtain ⟨N, hN⟩ : ∃ y, xs.length = y := ⟨_, rfl⟩
  obtain ⟨M, hM⟩ : ∃ y, ys.length = y := ⟨_, rfl⟩
  rw [hN] at KP hlen
  rw [hM] at KN hlen2
  have HP2 : Hid _ := hp2
  have HQ : Hid (_ ∧ _ ∧ _ ∧ _ ∧ _ ∧ _ ∧ _) := ⟨hq, hx, hxs, hys, hN, hM, hn⟩
  rw [hn] at hle KP KN ⊢
  clear hp2 hx hxs hys hq hN hM hn
  go_wp2_with fail
  refine (KP w2 hl2 (Nat.le_refl _) HP2.out).mono ?_
  rintro e w3 ⟨⟨a3, c3, rfl, s3⟩, B3⟩
  have B13 := belowStep B12 B12.size B3
  have hl3 := hl2.below B3
  have hs23 := B3.size
  have HS3 : Hid _ := s3
  clear KP s3
  go_wp2_with fail
  refine (KN w3 hl3 hs23 (slP_below B3 HP2.out)).mono ?_
  rintro e w4 ⟨⟨a4, c4, rfl, s4⟩, B4⟩
  have B14 := belowStep B13 B13.size B4
  have hs34 := B4.size
  have s3 := slS_up (slS_below B4 HS3.out) hs34
  clear KN HS3
  cases q with
  | false =>
    obtain ⟨hq, hx, hxs, hys, hN, hM, hn⟩ := HQ.out
    obtain rfl : x = 60 := hx.symm
    obtain rfl : xs = [] := hxs.symm
    obtain rfl : ys = [] := hys.symm
    obtain rfl : N = 0 := hN.symm
    obtain rfl : M = 0 := hM.symm
    clear HQ hq hN hM hn hx hxs hys s3 s4
    go_wp2
    go_ret
    exact ⟨by simp, B14⟩
  | true =>
    obtain ⟨hq, hx, hxs, hys, hN, hM, hn⟩ := HQ.out
    obtain rfl : x = 0 := hx.symm
    have hsub : xs.Sublist ys := by rw [← hxs, ← hys]; exact td_sub _ _ _
    have h32 : ∀ (i : Nat) (t : ByteArray), 0 < i → xs[i]? = some t → 32 ≤ t.size := fun i t h0 h => td_big true (kyP key) Ls i t h0 (by rw [hxs]; exact h)
    have hpos : n = 0 ∨ 0 < N := by
      by_cases h : n = 0
      · exact .inl h
      · have := td_pos (kyP key) Ls (by rw [hn]; exact h)
        rw [hxs, hN] at this
        exact .inr this
    have HS : Hid (_ ∧ _ ∧ _ ∧ _) := ⟨hsub, h32, hN, hM⟩
    clear HQ hq hN hM hn hx hxs hys hsub h32 B12 B13
    obtain ⟨z, hz⟩ : ∃ z, w4.heap.size = z := ⟨_, rfl⟩
    have B0 : Below z w4 w4 := Below.refl _ _
    have hz' : z ≤ w4.heap.size := by omega
    rw [hz] at s3 s4
    go_wp2_with fail
    go_loopg [10, 11] N (fun gk x10 x11 wr => ∃ k m : Nat, k + gk = N ∧ x10 = .int .i64 m ∧ x11 = .int .i64 k ∧ m ≤ M ∧ Hid ((xs.drop k).Sublist (ys.drop m)) ∧ Below z w4 wr)
    case atStart => exact ⟨0, 0, by omega, rfl, rfl, by omega, HS.out.1, B0⟩
    case round =>
      obtain ⟨k, m, hk, rfl, rfl, hm, hA, BW⟩ := hrel
      have hwz : z ≤ wr.heap.size := by have := BW.size; omega
      by_cases hlt : k < N
      · have l1 : (k : Int) < N := by omega
        obtain ⟨f, hf⟩ : ∃ f, xs[k]? = some f := ⟨xs[k]'(by have := HS.out.2.2.1; omega), List.getElem?_eq_getElem (by have := HS.out.2.2.1; omega)⟩
        obtain ⟨b, o, rfl, hb, c0⟩ := slS_at s3 k f hf
        obtain ⟨r, hr⟩ : ∃ p, o + k = p := ⟨_, rfl⟩
        rw [hr] at c0
        have d0 := c0
        replace c0 := (BW.cell (p := ⟨b, _, none⟩) (by show b < z; omega)).trans c0
        have wk : IntKind.i64.wrap ((k : Int) + 1) = ((k + 1 : Nat) : Int) := by rw [IntKind.wrap_i64]; omega
        have hA' : (f :: xs.drop (k + 1)).Sublist (ys.drop m) := by rw [← drop_some hf]; exact hA.out
        have HA : Hid ((f :: xs.drop (k + 1)).Sublist (ys.drop m)) := hA'
        have h32 := HS.out.2.1 k f
        have hbv : b < wr.heap.size := by omega
        have HF : Hid (xs[k]? = some f) := hf
        -- what follows behind the first test
        have key2 : k = 0 ∨ (0 < k ∧ 32 ≤ f.size) := by
          by_cases h0 : k = 0
          · exact .inl h0
          · exact .inr ⟨by omega, h32 (by omega) hf⟩
        clear hA hA' h32 hf
        have D0 : Hid (_) := d0
        clear d0
        rcases key2 with rfl | ⟨h0, h32⟩
        · obtain rfl : r = o := by omega
          clear hr
          go_wp2_with fail
          obtain ⟨g0, hg0⟩ : ∃ q, gk = q := ⟨_, rfl⟩
          go_loopg [10] (M - m) (fun gj x10 wq => ∃ m' : Nat, m' + gj = M ∧ x10 = .int .i64 m' ∧ Hid ((f :: xs.drop (0 + 1)).Sublist (ys.drop m')) ∧ Below z w4 wq)
          case atStart => exact ⟨m, by omega, rfl, HA.out, BW⟩
          case round =>
            obtain ⟨m', hm', rfl, hA2, BV⟩ := hrel
            have hwv : z ≤ wr.heap.size := by have := BV.size; omega
            have hml : m' < M := by
              by_cases h : m' < M
              · exact h
              · have h1 := hA2.out
                have h2 : ys.length ≤ m' := by rw [HS.out.2.2.2]; omega
                rw [List.drop_of_length_le h2] at h1
                cases h1
            have l5 : (m' : Int) < M := by omega
            have l6 : ((m' : Int) == M) = false := by rw [beq_eq_false_iff_ne]; omega
            obtain ⟨g, hg⟩ : ∃ f, ys[m']? = some f := ⟨ys[m']'(by have := HS.out.2.2.2; omega), List.getElem?_eq_getElem (by have := HS.out.2.2.2; omega)⟩
            obtain ⟨b2, o2, rfl, hb2, c1⟩ := slS_at s4 m' g hg
            replace c1 := (BV.cell (p := ⟨b2, _, none⟩) (by show b2 < z; omega)).trans c1
            have c2 := (BV.cell (p := ⟨b, _, none⟩) (by show b < z; omega)).trans D0.out
            obtain ⟨r2, hr2⟩ : ∃ p, o2 + m' = p := ⟨_, rfl⟩
            rw [hr2] at c1
            have hbv1 : b < wr.heap.size := by omega
            have hbv2 : b2 < wr.heap.size := by omega
            have q0 : ∀ d os, (grow (redrawn wr d) os).cell? ⟨b, r, none⟩ = some (.string f) := fun d os => ((below_regrown wr d os).cell (p := ⟨b, r, none⟩) hbv1).trans c2
            have q1 : ∀ d os, (grow (redrawn wr d) os).cell? ⟨b2, r2, none⟩ = some (.string g) := fun d os => ((below_regrown wr d os).cell (p := ⟨b2, r2, none⟩) hbv2).trans c1
            have wm : IntKind.i64.wrap ((m' : Int) + 1) = ((m' + 1 : Nat) : Int) := by rw [IntKind.wrap_i64]; omega
            have hA3 := hA2.out
            rw [drop_some hg] at hA3
            clear c1 c2 hA2
            by_cases hsame : g = f
            · have hs : (g.toList == f.toList) = true := by rw [hsame]; exact beq_self_eq_true _
              have hA4 : (xs.drop (0 + 1)).Sublist (ys.drop (m' + 1)) := by
                rw [hsame] at hA3
                exact List.cons_sublist_cons.1 hA3
              have HG : Hid ((xs.drop (0 + 1)).Sublist (ys.drop (m' + 1))) := hA4
              clear hsame hg hA3 hA4
              go_wp2_with fail
              refine wp_region_quiet_below (by kernel_rfl) (by kernel_rfl) ?_
              repeat (go_big_quiet_step (fail))
              refine wpQuiet_nil ?_
              intro w8 hw8
              have B8 : Below wr.heap.size wr w8 := by
                obtain ⟨p, rfl⟩ := hw8
                exact below_regrown _ _ _
              have BW8 := belowStep BV hwv B8
              clear hw8 q0 q1
              go_wp2
              go_roundg (g0 - 1)
              case measure => omega
              case rel => exact ⟨0 + 1, m' + 1, by omega, by first | rfl | (congr 1; omega), by first | rfl | (congr 1; omega), by omega, HG.out, BW8⟩
            · have hs : (g.toList == f.toList) = false := by rw [beq_eq_false_iff_ne]; exact fun e => hsame (toList_inj e)
              have hA4 : (f :: xs.drop (0 + 1)).Sublist (ys.drop (m' + 1)) := by
                cases hA3 with
                | cons _ h => exact h
                | cons_cons _ h => exact absurd rfl hsame
              have HG : Hid ((f :: xs.drop (0 + 1)).Sublist (ys.drop (m' + 1))) := hA4
              clear hsame hg hA3 hA4
              go_wp2_with fail
              refine wp_region_quiet_below (by kernel_rfl) (by kernel_rfl) ?_
              repeat (go_big_quiet_step (fail))
              refine wpQuiet_nil ?_
              intro w8 hw8
              have B8 : Below wr.heap.size wr w8 := by
                obtain ⟨p, rfl⟩ := hw8
                exact below_regrown _ _ _
              have BW8 := belowStep BV hwv B8
              clear hw8 q0 q1
              go_wp2
              go_roundg (gk - 1)
              case measure => omega
              case rel => exact ⟨m' + 1, by omega, by first | rfl | (congr 1; omega), HG.out, BW8⟩
        · have l2 : (0 : Int) < k := by omega
          have l3 : ¬ (f.size : Int) < 32 := by omega
          go_wp2_with fail
          obtain ⟨g0, hg0⟩ : ∃ q, gk = q := ⟨_, rfl⟩
          go_loopg [10] (M - m) (fun gj x10 wq => ∃ m' : Nat, m' + gj = M ∧ x10 = .int .i64 m' ∧ Hid ((f :: xs.drop (k + 1)).Sublist (ys.drop m')) ∧ Below z w4 wq)
          case atStart => exact ⟨m, by omega, rfl, HA.out, BW⟩
          case round =>
            obtain ⟨m', hm', rfl, hA2, BV⟩ := hrel
            have hwv : z ≤ wr.heap.size := by have := BV.size; omega
            have hml : m' < M := by
              by_cases h : m' < M
              · exact h
              · have h1 := hA2.out
                have h2 : ys.length ≤ m' := by rw [HS.out.2.2.2]; omega
                rw [List.drop_of_length_le h2] at h1
                cases h1
            have l5 : (m' : Int) < M := by omega
            have l6 : ((m' : Int) == M) = false := by rw [beq_eq_false_iff_ne]; omega
            obtain ⟨g, hg⟩ : ∃ f, ys[m']? = some f := ⟨ys[m']'(by have := HS.out.2.2.2; omega), List.getElem?_eq_getElem (by have := HS.out.2.2.2; omega)⟩
            obtain ⟨b2, o2, rfl, hb2, c1⟩ := slS_at s4 m' g hg
            replace c1 := (BV.cell (p := ⟨b2, _, none⟩) (by show b2 < z; omega)).trans c1
            have c2 := (BV.cell (p := ⟨b, _, none⟩) (by show b < z; omega)).trans D0.out
            obtain ⟨r2, hr2⟩ : ∃ p, o2 + m' = p := ⟨_, rfl⟩
            rw [hr2] at c1
            have hbv1 : b < wr.heap.size := by omega
            have hbv2 : b2 < wr.heap.size := by omega
            have q0 : ∀ d os, (grow (redrawn wr d) os).cell? ⟨b, r, none⟩ = some (.string f) := fun d os => ((below_regrown wr d os).cell (p := ⟨b, r, none⟩) hbv1).trans c2
            have q1 : ∀ d os, (grow (redrawn wr d) os).cell? ⟨b2, r2, none⟩ = some (.string g) := fun d os => ((below_regrown wr d os).cell (p := ⟨b2, r2, none⟩) hbv2).trans c1
            have wm : IntKind.i64.wrap ((m' : Int) + 1) = ((m' + 1 : Nat) : Int) := by rw [IntKind.wrap_i64]; omega
            have hA3 := hA2.out
            rw [drop_some hg] at hA3
            clear c1 c2 hA2
            by_cases hsame : g = f
            · have hs : (g.toList == f.toList) = true := by rw [hsame]; exact beq_self_eq_true _
              have hA4 : (xs.drop (k + 1)).Sublist (ys.drop (m' + 1)) := by
                rw [hsame] at hA3
                exact List.cons_sublist_cons.1 hA3
              have HG : Hid ((xs.drop (k + 1)).Sublist (ys.drop (m' + 1))) := hA4
              clear hsame hg hA3 hA4
              go_wp2_with fail
              refine wp_region_quiet_below (by kernel_rfl) (by kernel_rfl) ?_
              repeat (go_big_quiet_step (fail))
              refine wpQuiet_nil ?_
              intro w8 hw8
              have B8 : Below wr.heap.size wr w8 := by
                obtain ⟨p, rfl⟩ := hw8
                exact below_regrown _ _ _
              have BW8 := belowStep BV hwv B8
              clear hw8 q0 q1
              go_wp2
              go_roundg (g0 - 1)
              case measure => omega
              case rel => exact ⟨k + 1, m' + 1, by omega, by first | rfl | (congr 1; omega), by first | rfl | (congr 1; omega), by omega, HG.out, BW8⟩
            · have hs : (g.toList == f.toList) = false := by rw [beq_eq_false_iff_ne]; exact fun e => hsame (toList_inj e)
              have hA4 : (f :: xs.drop (k + 1)).Sublist (ys.drop (m' + 1)) := by
                cases hA3 with
                | cons _ h => exact h
                | cons_cons _ h => exact absurd rfl hsame
              have HG : Hid ((f :: xs.drop (k + 1)).Sublist (ys.drop (m' + 1))) := hA4
              clear hsame hg hA3 hA4
              go_wp2_with fail
              refine wp_region_quiet_below (by kernel_rfl) (by kernel_rfl) ?_
              repeat (go_big_quiet_step (fail))
              refine wpQuiet_nil ?_
              intro w8 hw8
              have B8 : Below wr.heap.size wr w8 := by
                obtain ⟨p, rfl⟩ := hw8
                exact below_regrown _ _ _
              have BW8 := belowStep BV hwv B8
              clear hw8 q0 q1
              go_wp2
              go_roundg (gk - 1)
              case measure => omega
              case rel => exact ⟨m' + 1, by omega, by first | rfl | (congr 1; omega), HG.out, BW8⟩
      · have l1 : ¬ (k : Int) < N := by omega
        have HB : Hid _ := belowStep B14 B14.size (by rw [← hz] at BW; exact BW)
        clear BW
        by_cases h0 : n = 0
        · subst h0
          clear hpos
          go_wp2
          go_ret
          exact ⟨by simp, HB.out⟩
        · have lN : (0 : Int) < N := by omega
          have lz : ((n : Int) == 0) = false := by rw [beq_eq_false_iff_ne]; omega
          go_wp2
          go_ret
          exact ⟨by simp; omega, HB.out⟩
end Go.Proofs.YtfdjiofogohcmaaGreatDoor
