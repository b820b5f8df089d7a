/- The reference's padded, at this translation: for all texts of at most a hundred thousand bytes. -/
import Derived.Test.YtmemfdpfbeijeaaDoorBs
import Derived.Test.YtmemfdpfbeijeaaDoorS9
namespace Go.Proofs.YtmemfdpfbeijeaaDoor
open Go.RowKit Go.Sort

/-- A byte of a text with what follows it in its last blocks; how many there are. -/
def pAt (s : ByteArray) (k : Nat) : Int :=
  if k < s.size then bt s k else if k = s.size then 128 else if k < s.size + 1 + zn (s.size % 64) then 0 else lbAt s.size (k - (s.size + 1 + zn (s.size % 64)))
def pN (s : ByteArray) : Nat := s.size + 9 + zn (s.size % 64)
theorem info_u8' : (Tryd.prog.info? 5).map (fun i => (i.zero, i.size, i.bytes)) = some (some (.int .u8 0), 1, 1) := by kernel_rfl
theorem one_new' (w : World) (x : Value) (t : TypeId) : ∀ j u, [x][j]? = some u → (w.alloc (.cells #[x] t)).cell? ((⟨w.heap.size, 0, none⟩ : Addr).add j) = some u := by
  intro j u hj
  match j, hj with
  | 0, hj => simp at hj; subst hj; simp [Addr.add]
theorem bs_bytes (s : ByteArray) (cap : Nat) (hc : s.size ≤ cap) (w : World) (e : TypeId) (h : Nat → Value) (hh : ∀ j, j < s.size → h j = .int .u8 (bt s j)) :
    Bs w.heap.size s.size cap h (w.alloc (.cells (bytesRow s cap) e ((bytesRow s cap).size, (bytesRow s cap).size + 1))) := by
  have hz : (bytesRow s cap).size = cap := by
    have : s.data.size = s.size := rfl
    simp [bytesRow, this]; omega
  refine ⟨by simp, hc, fun j hj => ?_, fun j hj => ?_, fun j hj => ?_⟩
  · rw [World.cell?_alloc_mark, bytesRow_at s cap j hj, hh j hj]
    unfold bt
    have : s.data.getD j 0 = s.data[j]'hj := by
      have hj' : j < s.data.size := hj
      simp only [Array.getD, hj', dite_true]
      rfl
    rw [this]
  · rw [World.cell?_alloc_mark, Array.getElem?_eq_getElem (by rw [hz]; exact hj)]
    rfl
  · rw [World.frozen?_alloc_mark, hz]
    simp; omega

set_option maxRecDepth 20000 in
set_option maxHeartbeats 4000000 in
theorem rpadded_any (s : ByteArray) (hs : s.size ≤ 100000) (w : World) :
    Calls Tryd.prog 43 #[.string s] w fun e w' => ∃ g cap, e = .returned (.slice (some ⟨g, 0, none⟩) (pN s) cap) ∧ Bs g (pN s) cap (fun j => .int .u8 (pAt s j)) w' ∧ w.heap.size ≤ g ∧ Below w.heap.size w w' := by
  obtain ⟨i0, hi0, hz0, hz1, hz2⟩ := info_parts info_u8'
  have hby : i0.bytes ≤ 64 := by rw [hz2]; decide
  have hge := grownCap_ge w s.size 0 5
  obtain ⟨c0, hc0⟩ : ∃ c, grownCap w s.size 0 5 = c := ⟨_, rfl⟩
  have hcv := run_bytes_of_string (P := Tryd.prog) w 9 36 5 s Tryd.underlying9 Tryd.underlying36 Tryd.underlying5
  rw [hc0] at hcv hge
  have B0 : Bs w.heap.size s.size c0 (fun j => .int .u8 (pAt s j)) (w.drew.alloc (.cells (bytesRow s c0) 5 ((bytesRow s c0).size, (bytesRow s c0).size + 1))) := bs_bytes s c0 hge w.drew 5 _ (fun j hj => by rw [pAt, if_pos hj])
  have E0 : Below w.heap.size w (w.drew.alloc (.cells (bytesRow s c0) 5 ((bytesRow s c0).size, (bytesRow s c0).size + 1))) := (Below.refl _ w).drew.alloc (by simp) _
  obtain ⟨w1, hw1⟩ : ∃ w1, w.drew.alloc (.cells (bytesRow s c0) 5 ((bytesRow s c0).size, (bytesRow s c0).size + 1)) = w1 := ⟨_, rfl⟩
  rw [hw1] at hcv B0 E0
  clear hw1 hc0 hge
  obtain ⟨z, hz⟩ : ∃ z, w.heap.size = z := ⟨_, rfl⟩
  rw [hz] at hcv B0 E0 ⊢
  have hzw : z ≤ w1.heap.size := by rw [← hz] at E0 ⊢; exact E0.size
  clear hz
  go_enter Tryd.func43, Tryd.ntmps43
  go_wp2_with (at_builtin; refine wpList_append_bs rfl _ _ 36 rfl 5 i0 (.int .u8 0) Tryd.underlying36 hi0 hz0 hz1 hby rfl z s.size c0 (fun j => .int .u8 (pAt s j)) rfl (B0.below ((Below.refl _ w1).alloc (Nat.le_refl _) _)) ⟨w1.heap.size, 0, none⟩ 1 1 [.int .u8 128] rfl rfl (one_new' _ _ _) (by intro u hu; simp at hu; subst hu; rfl) ?c4 (by omega) ?_)
  case c4 =>
    intro j u hj
    match j, hj with
    | 0, hj => cases hj; rw [Nat.add_zero, pAt, if_neg (by omega), if_pos rfl]
  intro g cap W1 BB hg hgr
  have E1 : Below z w W1 := (E0.alloc hzw _).grown hgr (by simp; omega) (fun k e => by cases e; exact Nat.le_refl _)
  have hzg : z ≤ g := by
    rcases hg with h | h
    · rw [h]; exact Nat.le_refl _
    · (try simp at h); omega
  clear hgr hg B0 E0 hcv
  go_wp2
  obtain ⟨Z, hZ, hZ64⟩ : ∃ Z, zn (s.size % 64) = Z ∧ (s.size + 1 + Z) % 64 = 56 ∧ Z < 64 := ⟨_, rfl, by unfold zn; omega⟩
  have HP : Hid (∀ j, pAt s j = if j < s.size then bt s j else if j = s.size then 128 else if j < s.size + 1 + Z then 0 else lbAt s.size (j - (s.size + 1 + Z))) := fun j => by rw [pAt, hZ]
  have HN : Hid (pN s = s.size + 9 + Z) := by show _ = _; rw [pN, hZ]
  clear hZ
  have hzW : z ≤ W1.heap.size := Nat.le_trans hzg (Nat.le_of_lt BB.z)
  go_loopg [3] Z (fun gk v wr => ∃ k g cap : Nat, k + gk = Z ∧ v = .slice (some ⟨g, 0, none⟩) (s.size + 1 + k) cap ∧ Bs g (s.size + 1 + k) cap (fun j => .int .u8 (pAt s j)) wr ∧ z ≤ g ∧ Below z w wr)
  case atStart => exact ⟨0, g, cap, by omega, rfl, BB, hzg, E1⟩
  case round =>
    clear BB hzg E1 hzW
    obtain ⟨k, g, cap, hk, rfl, BB, hzg, E1⟩ := hrel
    have hzr : z ≤ wr.heap.size := Nat.le_trans hzg (Nat.le_of_lt BB.z)
    obtain ⟨n, hn⟩ : ∃ n, s.size + 1 + k = n := ⟨_, rfl⟩
    have hn1 : n ≤ 100100 := by omega
    rw [hn] at BB ⊢
    by_cases hlt : k < Z
    · have hm : ¬ (n : Int) % 64 = 56 := by omega
      have hmt : (n : Int).tmod 64 = (n : Int) % 64 := Int.tmod_eq_emod_of_nonneg (by omega)
      have hp0 := HP.out n
      rw [if_neg (by omega), if_neg (by omega), if_pos (by omega)] at hp0
      have HP0 : Hid (pAt s n = 0) := hp0
      clear hp0
      go_wp2_with (at_builtin; refine wpList_append_bs rfl _ _ 36 rfl 5 i0 (.int .u8 0) Tryd.underlying36 hi0 hz0 hz1 hby rfl g n cap (fun j => .int .u8 (pAt s j)) rfl (BB.below ((Below.refl _ wr).alloc (Nat.le_refl _) _)) ⟨wr.heap.size, 0, none⟩ 1 1 [.int .u8 0] rfl rfl (one_new' _ _ _) (by intro u hu; simp at hu; subst hu; rfl) ?c4 (by omega) ?_)
      case c4 =>
        intro j u hj
        match j, hj with
        | 0, hj => cases hj; rw [Nat.add_zero, HP0.out]
      intro g2 cap2 W2 B2 hg hgr
      have E2 : Below z w W2 := (E1.alloc hzr _).grown hgr (by simp; omega) (fun k e => by cases e; exact hzg)
      have hzg2 : z ≤ g2 := by
        rcases hg with h | h
        · rw [h]; exact hzg
        · (try simp at h); omega
      clear hgr hg BB E1
      go_wp2
      go_roundg (gk - 1)
      case measure => omega
      case rel => exact ⟨k + 1, g2, cap2, by omega, by rw [← hn]; rfl, by rw [show s.size + 1 + (k + 1) = n + 1 by omega]; exact B2, hzg2, E2⟩
    · have hk2 : k = Z := by omega
      subst hk2
      clear hlt
      have hm : (n : Int) % 64 = 56 := by omega
      have hmt : (n : Int).tmod 64 = (n : Int) % 64 := Int.tmod_eq_emod_of_nonneg (by omega)
      obtain ⟨y, hy⟩ : ∃ y, (s.size : Int) * 8 % 18446744073709551616 = y := ⟨_, rfl⟩
      have hwy : IntKind.u64.wrap (8 * (s.size : Int)) = y := by rw [IntKind.wrap_u64, ← hy]; omega
      have HY : Hid (_ = _) := hy
      clear hy
      go_wp2
      have HNN : Hid (s.size + 1 + k = n) := hn
      go_loopg [3, 5] 8 (fun gk v i wr => ∃ j g cap : Nat, j + gk = 8 ∧ v = .slice (some ⟨g, 0, none⟩) (n + j) cap ∧ i = .int .i64 ((gk : Int) - 1) ∧ Bs g (n + j) cap (fun j => .int .u8 (pAt s j)) wr ∧ z ≤ g ∧ Below z w wr)
      case atStart => exact ⟨0, g, cap, by omega, rfl, rfl, BB, hzg, E1⟩
      case round =>
        clear BB hzg E1 hzr hm hmt hn
        obtain ⟨j, g, cap, hj, rfl, rfl, BB, hzg, E1⟩ := hrel
        have hzr : z ≤ wr.heap.size := Nat.le_trans hzg (Nat.le_of_lt BB.z)
        obtain ⟨N, hN⟩ : ∃ N, n + j = N := ⟨_, rfl⟩
        have hN1 : N ≤ 100200 := by omega
        rw [hN] at BB ⊢
        cases gk with
        | succ gk =>
          have e1 : ((gk + 1 : Nat) : Int) - 1 = gk := by omega
          rw [e1]
          have l0 : (0 : Int) ≤ gk := by omega
          obtain ⟨e, he⟩ : ∃ e : Nat, 8 * gk = e := ⟨_, rfl⟩
          have hm8 : IntKind.i64.wrap (8 * (gk : Int)) = e := by rw [IntKind.wrap_i64]; omega
          have e64 : (e : Int) ≤ 64 := by omega
          have e0 : (0 : Int) ≤ e := by omega
          have emin : min e 64 = e := by omega
          have wm : IntKind.i64.wrap ((gk : Int) - 1) = (gk : Int) - 1 := by rw [IntKind.wrap_i64]; omega
          obtain ⟨b, hb⟩ : ∃ t, y / 2 ^ e % 256 = t := ⟨_, rfl⟩
          have hu : IntKind.u8.wrap (y / 2 ^ e) = b := by rw [IntKind.wrap_u8]; exact hb
          have HP0 : Hid (pAt s N = b) := by
            show _ = _
            have hnn := HNN.out
            rw [HP.out N, if_neg (by omega), if_neg (by omega), if_neg (by omega), lbAt, HY.out, show 56 - (N - (s.size + 1 + k)) * 8 = e by omega, hb]
          clear hb
          go_wp2_with (at_builtin; refine wpList_append_bs rfl _ _ 36 rfl 5 i0 (.int .u8 0) Tryd.underlying36 hi0 hz0 hz1 hby rfl g N cap (fun j => .int .u8 (pAt s j)) rfl (BB.below ((Below.refl _ wr).alloc (Nat.le_refl _) _)) ⟨wr.heap.size, 0, none⟩ 1 1 [.int .u8 b] rfl rfl (one_new' _ _ _) (by intro u hu; simp at hu; subst hu; rfl) ?c4 (by omega) ?_)
          case c4 =>
            intro j u hj
            match j, hj with
            | 0, hj => cases hj; rw [Nat.add_zero, HP0.out]
          intro g2 cap2 W2 B2 hg hgr
          have E2 : Below z w W2 := (E1.alloc hzr _).grown hgr (by simp; omega) (fun k e => by cases e; exact hzg)
          have hzg2 : z ≤ g2 := by
            rcases hg with h | h
            · rw [h]; exact hzg
            · (try simp at h); omega
          clear hgr hg BB E1
          go_wp2
          go_roundg gk
          case measure => omega
          case rel => exact ⟨j + 1, g2, cap2, by omega, by rw [← hN]; rfl, rfl, by rw [show n + (j + 1) = N + 1 by omega]; exact B2, hzg2, E2⟩
        | zero =>
          have hpn : pN s = N := by rw [HN.out]; have := HNN.out; omega
          have HPN : Hid (pN s = N) := hpn
          clear hpn
          go_wp2
          go_ret
          exact ⟨g, cap, by rw [HPN.out]; rfl, by rw [HPN.out]; exact BB, hzg, E1⟩
end Go.Proofs.YtmemfdpfbeijeaaDoor
