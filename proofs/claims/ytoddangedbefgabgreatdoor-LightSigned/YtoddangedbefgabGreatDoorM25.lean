/- Lemmas: The reference's padded, at this translation: for all texts of at most a hundred thousand bytes. The reference's spread, at this translation. The reference's spread, walked. The reference's words, at this translation. The reference's take, at this translation. -/
import Derived.Test.YtoddangedbefgabGreatDoorM19
import Derived.Test.YtoddangedbefgabGreatDoorM24
set_option maxRecDepth 20000
set_option maxHeartbeats 8000000
namespace Go.Proofs.YtoddangedbefgabGreatDoor
open Go.RowKit Go.Sort
def pAt (s : ByteArray) (k : Nat) : Int :=
 if k < s.size then s_bt s k else if k = s.size then 128 else if k < s.size + 1 + zn (s.size % 64) then 0 else lbAt s.size (k - (s.size + 1 + zn (s.size % 64)))
def pN (s : ByteArray) : Nat := s.size + 9 + zn (s.size % 64)
theorem jgd : (Tryz.prog.info? 5).map (fun i => (i.zero, i.size, i.bytes)) = some (some (.int .u8 0), 1, 1) := by kernel_rfl
theorem jcg (w : World) (x : Value) (t : TypeId) : ∀ j u, [x][j]? = some u → (w.alloc (.cells #[x] t)).cell? ((⟨w.heap.size, 0, none⟩ : Addr).add j) = some u := by
 intro j u hj
 match j, hj with
 | 0, hj => simp at hj; subst hj; simp [Addr.add]
theorem bs_bytes (s : ByteArray) (cap : Nat) (hc : s.size ≤ cap) (w : World) (e : TypeId) (h : Nat → Value) (hh : ∀ j, j < s.size → h j = .int .u8 (s_bt s j)) :
  Bs w.heap.size s.size cap h (w.alloc (.cells (bytesRow s cap) e ((bytesRow s cap).size, (bytesRow s cap).size + 1))) := by
 have hz : (bytesRow s cap).size = cap := by
  have : s.data.size = s.size := rfl
  simp [bytesRow, this]; omega
 refine ⟨by simp, hc, fun j hj => ?_, fun j hj => ?_, fun j hj => ?_⟩
 ·rw [World.cell?_alloc_mark, bytesRow_at s cap j hj, hh j hj]
  unfold s_bt
  have : s.data.getD j 0 = s.data[j]'hj := by
   have hj' : j < s.data.size := hj
   simp only [Array.getD, hj', dite_true]
   rfl
  rw [this]
 ·rw [World.cell?_alloc_mark, Array.getElem?_eq_getElem (by rw [hz]; exact hj)]
  rfl
 ·rw [World.frozen?_alloc_mark, hz]
  simp; omega
theorem rpadded_any (s : ByteArray) (hs : s.size ≤ 100000) (w : World) :
  Calls Tryz.prog 72 #[.string s] w fun e w' => ∃ g cap, e = .returned (.slice (some ⟨g, 0, none⟩) (pN s) cap) ∧ Bs g (pN s) cap (fun j => .int .u8 (pAt s j)) w' ∧ w.heap.size ≤ g ∧ Below w.heap.size w w' := by
 obtain ⟨i0, hi0, hz0, hz1, hz2⟩ := info_parts jgd
 have hby : i0.bytes ≤ 64 := by rw [hz2]; decide
 have hge := grownCap_ge w s.size 0 5
 obtain ⟨c0, hc0⟩ : ∃ c, grownCap w s.size 0 5 = c := ⟨_, rfl⟩
 have hcv := run_bytes_of_string (P := Tryz.prog) w 9 116 5 s Tryz.underlying9 Tryz.underlying116 Tryz.underlying5
 rw [hc0] at hcv hge
 have B0 : Bs w.heap.size s.size c0 (fun j => .int .u8 (pAt s j)) (w.drew.alloc (.cells (bytesRow s c0) 5 ((bytesRow s c0).size, (bytesRow s c0).size + 1))) := bs_bytes s c0 hge w.drew 5 _ (fun j hj => by rw [pAt, if_pos hj])
 have E0 : Below w.heap.size w (w.drew.alloc (.cells (bytesRow s c0) 5 ((bytesRow s c0).size, (bytesRow s c0).size + 1))) := (Below.refl _ w).drew.alloc (by simp) _
 obtain ⟨w1, hw1⟩ : ∃ w1, w.drew.alloc (.cells (bytesRow s c0) 5 ((bytesRow s c0).size, (bytesRow s c0).size + 1)) = w1 := ⟨_, rfl⟩
 rw [hw1] at hcv B0 E0
 clear hw1 hc0 hge
 obtain ⟨z, hz⟩ : ∃ z, w.heap.size = z := ⟨_, rfl⟩
 rw [hz] at hcv B0 E0 ⊢
 have hzw : z ≤ w1.heap.size := by rw [← hz] at E0 ⊢; exact E0.size
 clear hz
 go_enter Tryz.func72, Tryz.ntmps72
 go_wp2_with (at_builtin; refine jdc rfl _ _ 116 rfl 5 i0 (.int .u8 0) Tryz.underlying116 hi0 hz0 hz1 hby rfl z s.size c0 (fun j => .int .u8 (pAt s j)) rfl (B0.below ((Below.refl _ w1).alloc (Nat.le_refl _) _)) ⟨w1.heap.size, 0, none⟩ 1 1 [.int .u8 128] rfl rfl (jcg _ _ _) (by intro u hu; simp at hu; subst hu; rfl) ?c4 (by omega) ?_)
 case c4 =>
  intro j u hj
  match j, hj with
  | 0, hj => cases hj; rw [Nat.add_zero, pAt, if_neg (by omega), if_pos rfl]
 intro g cap W1 BB hg hgr
 have E1 : Below z w W1 := (E0.alloc hzw _).grown hgr (by simp; omega) (fun k e => by cases e; exact Nat.le_refl _)
 have hzg : z ≤ g := by
  rcases hg with h | h
  ·rw [h]; exact Nat.le_refl _
  ·(try simp at h); omega
 clear hgr hg B0 E0 hcv
 go_wp2
 obtain ⟨Z, hZ, hZ64⟩ : ∃ Z, zn (s.size % 64) = Z ∧ (s.size + 1 + Z) % 64 = 56 ∧ Z < 64 := ⟨_, rfl, by unfold zn; omega⟩
 have HP : Hid (∀ j, pAt s j = if j < s.size then s_bt s j else if j = s.size then 128 else if j < s.size + 1 + Z then 0 else lbAt s.size (j - (s.size + 1 + Z))) := fun j => by rw [pAt, hZ]
 have HN : Hid (pN s = s.size + 9 + Z) := by show _ = _; rw [pN, hZ]
 clear hZ
 have hzW : z ≤ W1.heap.size := Nat.le_trans hzg (Nat.le_of_lt BB.z)
 go_loopg [3] Z (fun gk v wr => ∃ k g cap : Nat, k + gk = Z ∧ v = .slice (some ⟨g, 0, none⟩) (s.size + 1 + k) cap ∧ Bs g (s.size + 1 + k) cap (fun j => .int .u8 (pAt s j)) wr ∧ z ≤ g ∧ Below z w wr)
 case atStart => exact ⟨0, g, cap, by omega, rfl, BB, hzg, E1⟩
 case round =>
  clear BB hzg E1 hzW
  obtain ⟨k, g, cap, hk, rfl, BB, hzg, E1⟩ := hrel
  have hzr : z ≤ wr.heap.size := Nat.le_trans hzg (Nat.le_of_lt BB.z)
  obtain ⟨n, hn⟩ : ∃ n, s.size + 1 + k = n := ⟨_, rfl⟩
  have hn1 : n ≤ 100100 := by omega
  rw [hn] at BB ⊢
  by_cases hlt : k < Z
  ·have hm : ¬ (n : Int) % 64 = 56 := by omega
   have hmt : (n : Int).tmod 64 = (n : Int) % 64 := Int.tmod_eq_emod_of_nonneg (by omega)
   have hp0 := HP.out n
   rw [if_neg (by omega), if_neg (by omega), if_pos (by omega)] at hp0
   have HP0 : Hid (pAt s n = 0) := hp0
   clear hp0
   go_wp2_with (at_builtin; refine jdc rfl _ _ 116 rfl 5 i0 (.int .u8 0) Tryz.underlying116 hi0 hz0 hz1 hby rfl g n cap (fun j => .int .u8 (pAt s j)) rfl (BB.below ((Below.refl _ wr).alloc (Nat.le_refl _) _)) ⟨wr.heap.size, 0, none⟩ 1 1 [.int .u8 0] rfl rfl (jcg _ _ _) (by intro u hu; simp at hu; subst hu; rfl) ?c4 (by omega) ?_)
   case c4 =>
    intro j u hj
    match j, hj with
    | 0, hj => cases hj; rw [Nat.add_zero, HP0.out]
   intro g2 cap2 W2 B2 hg hgr
   have E2 : Below z w W2 := (E1.alloc hzr _).grown hgr (by simp; omega) (fun k e => by cases e; exact hzg)
   have hzg2 : z ≤ g2 := by
    rcases hg with h | h
    ·rw [h]; exact hzg
    ·(try simp at h); omega
   clear hgr hg BB E1
   go_wp2
   go_roundg (gk - 1)
   case measure => omega
   case rel => exact ⟨k + 1, g2, cap2, by omega, by rw [← hn]; rfl, by rw [show s.size + 1 + (k + 1) = n + 1 by omega]; exact B2, hzg2, E2⟩
  ·have hk2 : k = Z := by omega
   subst hk2
   clear hlt
   have hm : (n : Int) % 64 = 56 := by omega
   have hmt : (n : Int).tmod 64 = (n : Int) % 64 := Int.tmod_eq_emod_of_nonneg (by omega)
   obtain ⟨y, hy⟩ : ∃ y, (s.size : Int) * 8 % 18446744073709551616 = y := ⟨_, rfl⟩
   have hwy : IntKind.u64.wrap (8 * (s.size : Int)) = y := by rw [IntKind.wrap_u64, ← hy]; omega
   have HY : Hid (_ = _) := hy
   clear hy
   go_wp2
   have HNN : Hid (s.size + 1 + k = n) := hn
   go_loopg [3, 5] 8 (fun gk v i wr => ∃ j g cap : Nat, j + gk = 8 ∧ v = .slice (some ⟨g, 0, none⟩) (n + j) cap ∧ i = .int .i64 ((gk : Int) - 1) ∧ Bs g (n + j) cap (fun j => .int .u8 (pAt s j)) wr ∧ z ≤ g ∧ Below z w wr)
   case atStart => exact ⟨0, g, cap, by omega, rfl, rfl, BB, hzg, E1⟩
   case round =>
    clear BB hzg E1 hzr hm hmt hn
    obtain ⟨j, g, cap, hj, rfl, rfl, BB, hzg, E1⟩ := hrel
    have hzr : z ≤ wr.heap.size := Nat.le_trans hzg (Nat.le_of_lt BB.z)
    obtain ⟨N, hN⟩ : ∃ N, n + j = N := ⟨_, rfl⟩
    have hN1 : N ≤ 100200 := by omega
    rw [hN] at BB ⊢
    cases gk with
    | succ gk =>
     have e1 : ((gk + 1 : Nat) : Int) - 1 = gk := by omega
     rw [e1]
     have l0 : (0 : Int) ≤ gk := by omega
     obtain ⟨e, he⟩ : ∃ e : Nat, 8 * gk = e := ⟨_, rfl⟩
     have hm8 : IntKind.i64.wrap (8 * (gk : Int)) = e := by rw [IntKind.wrap_i64]; omega
     have e64 : (e : Int) ≤ 64 := by omega
     have e0 : (0 : Int) ≤ e := by omega
     have emin : min e 64 = e := by omega
     have wm : IntKind.i64.wrap ((gk : Int) - 1) = (gk : Int) - 1 := by rw [IntKind.wrap_i64]; omega
     obtain ⟨b, hb⟩ : ∃ t, y / 2 ^ e % 256 = t := ⟨_, rfl⟩
     have hu : IntKind.u8.wrap (y / 2 ^ e) = b := by rw [IntKind.wrap_u8]; exact hb
     have HP0 : Hid (pAt s N = b) := by
      show _ = _
      have hnn := HNN.out
      rw [HP.out N, if_neg (by omega), if_neg (by omega), if_neg (by omega), lbAt, HY.out, show 56 - (N - (s.size + 1 + k)) * 8 = e by omega, hb]
     clear hb
     go_wp2_with (at_builtin; refine jdc rfl _ _ 116 rfl 5 i0 (.int .u8 0) Tryz.underlying116 hi0 hz0 hz1 hby rfl g N cap (fun j => .int .u8 (pAt s j)) rfl (BB.below ((Below.refl _ wr).alloc (Nat.le_refl _) _)) ⟨wr.heap.size, 0, none⟩ 1 1 [.int .u8 b] rfl rfl (jcg _ _ _) (by intro u hu; simp at hu; subst hu; rfl) ?c4 (by omega) ?_)
     case c4 =>
      intro j u hj
      match j, hj with
      | 0, hj => cases hj; rw [Nat.add_zero, HP0.out]
     intro g2 cap2 W2 B2 hg hgr
     have E2 : Below z w W2 := (E1.alloc hzr _).grown hgr (by simp; omega) (fun k e => by cases e; exact hzg)
     have hzg2 : z ≤ g2 := by
      rcases hg with h | h
      ·rw [h]; exact hzg
      ·(try simp at h); omega
     clear hgr hg BB E1
     go_wp2
     go_roundg gk
     case measure => omega
     case rel => exact ⟨j + 1, g2, cap2, by omega, by rw [← hN]; rfl, rfl, by rw [show n + (j + 1) = N + 1 by omega]; exact B2, hzg2, E2⟩
    | zero =>
     have hpn : pN s = N := by rw [HN.out]; have := HNN.out; omega
     have HPN : Hid (pN s = N) := hpn
     clear hpn
     go_wp2
     go_ret
     exact ⟨g, cap, by rw [HPN.out]; rfl, by rw [HPN.out]; exact BB, hzg, E1⟩
theorem spN_stable (b : Nat → Int) (n j : Nat) (hj : j < 16 + n) : ∀ m, spN b (n + m) j = spN b n j
 | 0 => rfl
 | m + 1 => by
  show (if j = 16 + (n + m) then nxt (spN b (n + m)) (16 + (n + m)) else spN b (n + m) j) = _
  rw [if_neg (by omega), spN_stable b n j hj m]
theorem sp_at (b : Nat → Int) (n j : Nat) (hn : n ≤ 48) (hj : j < 16 + n) : jbb b j = spN b n j := by
 have := spN_stable b n j hj (48 - n)
 rw [show n + (48 - n) = 48 by omega] at this
 exact this
theorem sp_lt (b : Nat → Int) (j : Nat) (hj : j < 16) : jbb b j = b j := by
 rw [sp_at b 0 j (by decide) hj]
 show (if j < 16 then b j else 0) = b j
 rw [if_pos hj]
theorem sp_ge (b : Nat → Int) (t : Nat) (h1 : 16 ≤ t) (h2 : t < 64) : jbb b t = nxt (jbb b) t := by
 obtain ⟨n, rfl⟩ : ∃ n, t = 16 + n := ⟨t - 16, by omega⟩
 rw [sp_at b (n + 1) (16 + n) (by omega) (by omega)]
 show (if 16 + n = 16 + n then nxt (spN b n) (16 + n) else spN b n (16 + n)) = _
 rw [if_pos rfl]
 unfold nxt
 rw [sp_at b n (16 + n - 16) (by omega) (by omega), sp_at b n (16 + n - 15) (by omega) (by omega), sp_at b n (16 + n - 7) (by omega) (by omega), sp_at b n (16 + n - 2) (by omega) (by omega)]
theorem spread_ext (b c : Nat → Int) (h : ∀ j, j < 16 → b j = c j) : jbb b = jbb c := by
 have e : spN b 0 = spN c 0 := by
  funext j
  show (if j < 16 then b j else 0) = (if j < 16 then c j else 0)
  by_cases hj : j < 16
  ·rw [if_pos hj, if_pos hj, h j hj]
  ·rw [if_neg hj, if_neg hj]
 have : ∀ n, spN b n = spN c n := fun n => by
  induction n with
  | zero => exact e
  | succ n ih => funext j; show (if j = 16 + n then nxt (spN b n) (16 + n) else spN b n j) = (if j = 16 + n then nxt (spN c n) (16 + n) else spN c n j); rw [ih]
 exact this 48
def jhk (f : Nat → Int) (j : Nat) : Int := f (4 * j) * 16777216 + f (4 * j + 1) * 65536 + f (4 * j + 2) * 256 + f (4 * j + 3)
theorem or4 (a b c d : Int) (ha : 0 ≤ a ∧ a < 256) (hb : 0 ≤ b ∧ b < 256) (hc : 0 ≤ c ∧ c < 256) (hd : 0 ≤ d ∧ d < 256) :
  bits .or .u32 (bits .or .u32 (bits .or .u32 (a * 16777216) (b * 65536)) (c * 256)) d = a * 16777216 + b * 65536 + c * 256 + d := by
 obtain ⟨a, rfl⟩ := Int.eq_ofNat_of_zero_le ha.1
 obtain ⟨b, rfl⟩ := Int.eq_ofNat_of_zero_le hb.1
 obtain ⟨c, rfl⟩ := Int.eq_ofNat_of_zero_le hc.1
 obtain ⟨d, rfl⟩ := Int.eq_ofNat_of_zero_le hd.1
 have h1 := or_add a (b * 65536) 24 (by omega) (by omega)
 have h2 := or_add (a * 256 + b) (c * 256) 16 (by omega) (by omega)
 have h3 := or_add (a * 65536 + b * 256 + c) d 8 (by omega) (by omega)
 have e1 : ((a : Int)) * 16777216 = ((a * 2 ^ 24 : Nat) : Int) := by simp
 have e2 : ((b : Int)) * 65536 = ((b * 65536 : Nat) : Int) := by simp
 have e3 : ((c : Int)) * 256 = ((c * 256 : Nat) : Int) := by simp
 rw [e1, e2, h1, e3, show a * 2 ^ 24 + b * 65536 = (a * 256 + b) * 2 ^ 16 by omega, h2, show (a * 256 + b) * 2 ^ 16 + c * 256 = (a * 65536 + b * 256 + c) * 2 ^ 8 by omega, h3]
 omega
theorem num4 (t : ByteArray) (p : Nat) : num t p 4 = s_bt t p * 16777216 + s_bt t (p + 1) * 65536 + s_bt t (p + 2) * 256 + s_bt t (p + 3) := by
 have a := jfl t p
 have b := jfl t (p + 1)
 have c := jfl t (p + 2)
 have d := jfl t (p + 3)
 show bits .or .u32 (bits .or .u32 (bits .or .u32 (bits .or .u32 (0 * 256 % 4294967296) (s_bt t (p + 0)) * 256 % 4294967296) (s_bt t (p + 1)) * 256 % 4294967296) (s_bt t (p + 2)) * 256 % 4294967296) (s_bt t (p + 3)) = _
 rw [Nat.add_zero]
 generalize s_bt t p = x0 at *
 generalize s_bt t (p + 1) = x1 at *
 generalize s_bt t (p + 2) = x2 at *
 generalize s_bt t (p + 3) = x3 at *
 obtain ⟨x0, rfl⟩ := Int.eq_ofNat_of_zero_le a.1
 obtain ⟨x1, rfl⟩ := Int.eq_ofNat_of_zero_le b.1
 obtain ⟨x2, rfl⟩ := Int.eq_ofNat_of_zero_le c.1
 obtain ⟨x3, rfl⟩ := Int.eq_ofNat_of_zero_le d.1
 have h0 := or_add 0 x0 8 (by omega) (by omega)
 have h1 := or_add x0 x1 8 (by omega) (by omega)
 have h2 := or_add (x0 * 256 + x1) x2 8 (by omega) (by omega)
 have h3 := or_add ((x0 * 256 + x1) * 256 + x2) x3 8 (by omega) (by omega)
 rw [show ((0 : Int) * 256 % 4294967296) = ((0 * 2 ^ 8 : Nat) : Int) by decide, h0, show (((0 * 2 ^ 8 + x0 : Nat) : Int) * 256 % 4294967296) = ((x0 * 2 ^ 8 : Nat) : Int) by omega, h1, show (((x0 * 2 ^ 8 + x1 : Nat) : Int) * 256 % 4294967296) = (((x0 * 256 + x1) * 2 ^ 8 : Nat) : Int) by omega, h2, show ((((x0 * 256 + x1) * 2 ^ 8 + x2 : Nat) : Int) * 256 % 4294967296) = ((((x0 * 256 + x1) * 256 + x2) * 2 ^ 8 : Nat) : Int) by omega, h3]
 omega
theorem word_is (t : ByteArray) (j : Nat) : wordAt t j = jhk (s_bt t) j := num4 t (4 * j)
theorem rspread_any (g o cap : Nat) (f : Nat → Int) (hf : ∀ j, 0 ≤ f j ∧ f j < 256) (w : World) (hg : g < w.heap.size) (hc : ∀ j, j < 64 → w.cell? ⟨g, o + j, none⟩ = some (.int .u8 (f j))) :
  Calls Tryz.prog 106 #[.slice (some ⟨g, o, none⟩) 64 cap] w fun e w' => e = .returned (.agg (fl 64 fun j => .int .u32 (jbb (jhk f) j)).toArray) ∧ Below w.heap.size w w' := by
 go_enter Tryz.func106, Tryz.ntmps106
 go_wp2
 refine wpOf (fun W => Below w.heap.size w W ∧ Fw w.heap.size 64 (fun _ => .int .u32 0) W ∧ Fw (w.heap.size + 1) 64 (fun _ => .int .u32 0) W ∧ ∀ j, j < 64 → W.cell? ⟨g, o + j, none⟩ = some (.int .u8 (f j))) ⟨((Below.refl _ w).alloc (Nat.le_refl _) _).alloc (by simp) _, Fw.alloc (Fw.lit _ _ rfl rfl) _, Fw.lit _ _ (by simp) rfl, fun j hj => (((((Below.refl _ w).alloc (Nat.le_refl _) _).alloc (by simp) _).cell (p := ⟨g, o + j, none⟩) hg).trans (hc j hj))⟩ ?_
 rintro V ⟨BV, ZV, CV, DV⟩
 clear hc
 obtain ⟨z, hz⟩ : ∃ c, w.heap.size = c := ⟨_, rfl⟩
 have HZ : Hid (w.heap.size = z) := hz
 rw [hz] at BV ZV CV hg ⊢
 clear hz
 obtain ⟨c, hc⟩ : ∃ c, z + 1 = c := ⟨_, rfl⟩
 rw [hc] at CV ⊢
 obtain ⟨B, hB⟩ : ∃ B, jbb (jhk f) = B := ⟨_, rfl⟩
 have HB : Hid (jbb (jhk f) = B) := hB
 have HBl : Hid (∀ j, j < 16 → B j = jhk f j) := fun j hj => by rw [← hB]; exact sp_lt _ j hj
 have HBg : Hid (∀ t, 16 ≤ t → t < 64 → B t = nxt B t) := fun t h1 h2 => by rw [← hB]; exact sp_ge _ t h1 h2
 clear hB
 go_loopg [4] 64 (fun gk i wr => ∃ t : Nat, ∃ h : Nat → Int, t + gk = 64 ∧ i = .int .i64 t ∧ Below z w wr ∧ Fw z 64 (fun _ => .int .u32 0) wr ∧ Fw c 64 (fun j => .int .u32 (h j)) wr ∧ (∀ j, j < 64 → wr.cell? ⟨g, o + j, none⟩ = some (.int .u8 (f j))) ∧ Hid (∀ j, j < t → h j = B j))
 case atStart => exact ⟨0, fun _ => 0, rfl, rfl, BV, ZV, CV, DV, fun j hj => absurd hj (by omega)⟩
 case round =>
  clear BV ZV CV DV
  obtain ⟨t, h, hk, rfl, BW, CZ, CC, DD, hH⟩ := hrel
  have HDD : Hid (∀ j, j < 64 → wr.cell? ⟨g, o + j, none⟩ = some (.int .u8 (f j))) := DD
  clear DD
  by_cases hlt : t < 64
  ·have l0 : (t : Int) < 64 := by omega
   by_cases h16 : t < 16
   ·have l1 : (t : Int) < 16 := by omega
    obtain ⟨p0, hp0, q0⟩ : ∃ a : Nat, 4 * t = a ∧ a < 64 := ⟨_, rfl, by omega⟩
    obtain ⟨p1, hp1, q1⟩ : ∃ a : Nat, p0 + 1 = a ∧ a < 64 := ⟨_, rfl, by omega⟩
    obtain ⟨p2, hp2, q2⟩ : ∃ a : Nat, p0 + 2 = a ∧ a < 64 := ⟨_, rfl, by omega⟩
    obtain ⟨p3, hp3, q3⟩ : ∃ a : Nat, p0 + 3 = a ∧ a < 64 := ⟨_, rfl, by omega⟩
    have w0 : IntKind.i64.wrap (4 * (t : Int)) = p0 := by rw [IntKind.wrap_i64]; omega
    have w1 : IntKind.i64.wrap ((p0 : Int) + 1) = p1 := by rw [IntKind.wrap_i64]; omega
    have w2 : IntKind.i64.wrap ((p0 : Int) + 2) = p2 := by rw [IntKind.wrap_i64]; omega
    have w3 : IntKind.i64.wrap ((p0 : Int) + 3) = p3 := by rw [IntKind.wrap_i64]; omega
    have lp0 : (p0 : Int) < 64 := by omega
    have lp1 : (p1 : Int) < 64 := by omega
    have lp2 : (p2 : Int) < 64 := by omega
    have lp3 : (p3 : Int) < 64 := by omega
    have m0 := HDD.out p0 q0
    have m1 := HDD.out p1 q1
    have m2 := HDD.out p2 q2
    have m3 := HDD.out p3 q3
    obtain ⟨y0, hy0, b0⟩ : ∃ y, f p0 = y ∧ 0 ≤ y ∧ y < 256 := ⟨_, rfl, hf p0⟩
    obtain ⟨y1, hy1, b1⟩ : ∃ y, f p1 = y ∧ 0 ≤ y ∧ y < 256 := ⟨_, rfl, hf p1⟩
    obtain ⟨y2, hy2, b2⟩ : ∃ y, f p2 = y ∧ 0 ≤ y ∧ y < 256 := ⟨_, rfl, hf p2⟩
    obtain ⟨y3, hy3, b3⟩ : ∃ y, f p3 = y ∧ 0 ≤ y ∧ y < 256 := ⟨_, rfl, hf p3⟩
    rw [hy0] at m0
    rw [hy1] at m1
    rw [hy2] at m2
    rw [hy3] at m3
    have u0 : IntKind.u32.wrap y0 = y0 := by rw [IntKind.wrap_u32]; omega
    have u1 : IntKind.u32.wrap y1 = y1 := by rw [IntKind.wrap_u32]; omega
    have u2 : IntKind.u32.wrap y2 = y2 := by rw [IntKind.wrap_u32]; omega
    have u3 : IntKind.u32.wrap y3 = y3 := by rw [IntKind.wrap_u32]; omega
    have HV : Hid (B t = bits .or .u32 (bits .or .u32 (bits .or .u32 (y0 * 16777216) (y1 * 65536)) (y2 * 256)) y3) := by
     show _ = _
     rw [or4 y0 y1 y2 y3 b0 b1 b2 b3, HBl.out t h16, jhk, hp0, hp1, hp2, hp3, hy0, hy1, hy2, hy3]
    have s0 : y0 * 16777216 % 4294967296 = y0 * 16777216 := by omega
    have s1 : y1 * 65536 % 4294967296 = y1 * 65536 := by omega
    have s2 : y2 * 256 % 4294967296 = y2 * 256 := by omega
    clear hp0 hp1 hp2 hp3 hy0 hy1 hy2 hy3
    go_wp2
    have k0 := cell_regrown m0
    have k1 := cell_regrown m1
    have k2 := cell_regrown m2
    have k3 := cell_regrown m3
    refine jar 34 (by kernel_rfl) (by kernel_rfl) ?_
    simp only [List.take_succ_cons, List.take_zero, List.drop_succ_cons, List.drop_zero]
    iterate 34 (quiet_step (fail))
    refine wpQuiet_nil ?_
    intro w8 hw8
    have hb8 : Below wr.heap.size wr w8 := by
     obtain ⟨p, rfl⟩ := hw8
     exact below_regrown _ _ _
    have Z8 := CZ.below hb8
    have C8 := CC.below hb8
    have G8 := jaa BW (by rw [← HZ.out] at BW ⊢; exact BW.size) hb8
    have D8 : Hid (∀ j, j < 64 → w8.cell? ⟨g, o + j, none⟩ = some (.int .u8 (f j))) := fun j hj => (hb8.cell (p := ⟨g, o + j, none⟩) (block_lt_of_cell (HDD.out j hj))).trans (HDD.out j hj)
    clear hw8 hb8 k0 k1 k2 k3 CC CZ BW m0 m1 m2 m3 HDD
    have n0 := C8.c t hlt
    have sf := C8.f
    have sz := C8.z
    go_wp2
    go_roundg (gk - 1)
    case measure => omega
    case rel =>
     refine ⟨t + 1, fun j => if j = t then B t else h j, by omega, rfl, G8.setCell (p := ⟨c, t, none⟩) (by dsimp only; omega) _, Z8.setCell _ (by dsimp only; omega) _, C8.put t hlt _ (fun j _ => ?_), fun j hj => ?_, ?_⟩
     ·show Value.int .u32 (if j = t then B t else h j) = _
      by_cases q : j = t
      ·rw [if_pos q, if_pos q, HV.out]
      ·rw [if_neg q, if_neg q]
     ·exact (World.cell?_setCells_out c [_] t w8 ⟨g, o + j, none⟩ (fun e => absurd e (by dsimp only; omega))).trans (D8.out j hj)
     ·intro j hj
      show (if j = t then B t else h j) = B j
      by_cases q : j = t
      ·rw [if_pos q, q]
      ·rw [if_neg q]; exact hH.out j (by omega)
   ·have l1 : ¬ (t : Int) < 16 := by omega
    obtain ⟨a, ha, ha2⟩ : ∃ a : Nat, t - 16 = a ∧ a < 64 := ⟨_, rfl, by omega⟩
    obtain ⟨e, he, he2⟩ : ∃ a : Nat, t - 15 = a ∧ a < 64 := ⟨_, rfl, by omega⟩
    obtain ⟨s, hs, hs2⟩ : ∃ a : Nat, t - 7 = a ∧ a < 64 := ⟨_, rfl, by omega⟩
    obtain ⟨r, hr, hr2⟩ : ∃ a : Nat, t - 2 = a ∧ a < 64 := ⟨_, rfl, by omega⟩
    have wa : IntKind.i64.wrap ((t : Int) - 16) = a := by rw [IntKind.wrap_i64]; omega
    have we : IntKind.i64.wrap ((t : Int) - 15) = e := by rw [IntKind.wrap_i64]; omega
    have ws : IntKind.i64.wrap ((t : Int) - 7) = s := by rw [IntKind.wrap_i64]; omega
    have wg : IntKind.i64.wrap ((t : Int) - 2) = r := by rw [IntKind.wrap_i64]; omega
    have la : (a : Int) < 64 := by omega
    have le : (e : Int) < 64 := by omega
    have ls : (s : Int) < 64 := by omega
    have lr : (r : Int) < 64 := by omega
    have m1 := CC.c e he2
    have m3 := CC.c r hr2
    obtain ⟨v0, hv0⟩ : ∃ v, h a = v := ⟨_, rfl⟩
    obtain ⟨v1, hv1⟩ : ∃ v, h e = v := ⟨_, rfl⟩
    obtain ⟨v2, hv2⟩ : ∃ v, h s = v := ⟨_, rfl⟩
    obtain ⟨v3, hv3⟩ : ∃ v, h r = v := ⟨_, rfl⟩
    rw [hv1] at m1
    rw [hv3] at m3
    obtain ⟨x0, hx0⟩ : ∃ v, ror v1 7 = v := ⟨_, rfl⟩
    obtain ⟨x1, hx1⟩ : ∃ v, ror v1 18 = v := ⟨_, rfl⟩
    obtain ⟨x2, hx2⟩ : ∃ v, ror v3 17 = v := ⟨_, rfl⟩
    obtain ⟨x3, hx3⟩ : ∃ v, ror v3 19 = v := ⟨_, rfl⟩
    have K0 : Hid (∀ w : World, _) := fun w : World => jce v1 7 (by decide) (by decide) w
    have K1 : Hid (∀ w : World, _) := fun w : World => jce v1 18 (by decide) (by decide) w
    have K2 : Hid (∀ w : World, _) := fun w : World => jce v3 17 (by decide) (by decide) w
    have K3 : Hid (∀ w : World, _) := fun w : World => jce v3 19 (by decide) (by decide) w
    rw [hx0] at K0
    rw [hx1] at K1
    rw [hx2] at K2
    rw [hx3] at K3
    have HV : Hid (B t = (((v0 + bits .xor .u32 (bits .xor .u32 x0 x1) (v1 / 8)) % 4294967296 + v2) % 4294967296 + bits .xor .u32 (bits .xor .u32 x2 x3) (v3 / 1024)) % 4294967296) := by
     show _ = _
     rw [HBg.out t (by omega) hlt, nxt, ha, he, hs, hr, ← hH.out a (by omega), ← hH.out e (by omega), ← hH.out s (by omega), ← hH.out r (by omega), hv0, hv1, hv2, hv3]
     unfold s0 s1
     rw [hx0, hx1, hx2, hx3]
     rfl
    have HV0 : Hid (h a = v0 ∧ h s = v2) := ⟨hv0, hv2⟩
    clear ha he hs hr hv0 hv1 hv2 hv3 hx0 hx1 hx2 hx3
    go_wp2_with fail
    refine (K0.out _).mono ?_
    rintro er v4 ⟨rfl, B1⟩
    go_wp2_with fail
    refine (K1.out _).mono ?_
    rintro er v5 ⟨rfl, B2⟩
    go_wp2_with fail
    refine (K2.out _).mono ?_
    rintro er v6 ⟨rfl, B3⟩
    go_wp2_with fail
    refine (K3.out _).mono ?_
    rintro er v7 ⟨rfl, B4⟩
    have B5 := jaa B1 B1.size (jaa B2 B2.size (jaa B3 B3.size B4))
    have Z7 := CZ.below B5
    have C7 := CC.below B5
    have G7 := jaa BW (by rw [← HZ.out] at BW ⊢; exact BW.size) B5
    have D7 : Hid (∀ j, j < 64 → v7.cell? ⟨g, o + j, none⟩ = some (.int .u8 (f j))) := fun j hj => (B5.cell (p := ⟨g, o + j, none⟩) (block_lt_of_cell (HDD.out j hj))).trans (HDD.out j hj)
    clear B1 B2 B3 B4 B5 K0 K1 K2 K3 CZ CC BW HDD m1 m3
    have m0 := C7.c a ha2
    have m2 := C7.c s hs2
    rw [HV0.out.1] at m0
    rw [HV0.out.2] at m2
    go_wp2
    have k0 := cell_regrown m0
    have k2 := cell_regrown m2
    refine jar 14 (by kernel_rfl) (by kernel_rfl) ?_
    simp only [List.take_succ_cons, List.take_zero, List.drop_succ_cons, List.drop_zero]
    iterate 14 (quiet_step (fail))
    refine wpQuiet_nil ?_
    intro w8 hw8
    have hb8 : Below v7.heap.size v7 w8 := by
     obtain ⟨p, rfl⟩ := hw8
     exact below_regrown _ _ _
    have Z8 := Z7.below hb8
    have C8 := C7.below hb8
    have G8 := jaa G7 (by rw [← HZ.out] at G7 ⊢; exact G7.size) hb8
    have D8 : Hid (∀ j, j < 64 → w8.cell? ⟨g, o + j, none⟩ = some (.int .u8 (f j))) := fun j hj => (hb8.cell (p := ⟨g, o + j, none⟩) (block_lt_of_cell (D7.out j hj))).trans (D7.out j hj)
    clear hw8 hb8 k0 k2 C7 Z7 G7 m0 m2 D7
    have n0 := C8.c t hlt
    have sf := C8.f
    have sz := C8.z
    go_wp2
    go_roundg (gk - 1)
    case measure => omega
    case rel =>
     refine ⟨t + 1, fun j => if j = t then B t else h j, by omega, rfl, G8.setCell (p := ⟨c, t, none⟩) (by dsimp only; omega) _, Z8.setCell _ (by dsimp only; omega) _, C8.put t hlt _ (fun j _ => ?_), fun j hj => ?_, ?_⟩
     ·show Value.int .u32 (if j = t then B t else h j) = _
      by_cases q : j = t
      ·rw [if_pos q, if_pos q, HV.out]
       congr 1
       omega
      ·rw [if_neg q, if_neg q]
     ·exact (World.cell?_setCells_out c [_] t w8 ⟨g, o + j, none⟩ (fun e => absurd e (by dsimp only; omega))).trans (D8.out j hj)
     ·intro j hj
      show (if j = t then B t else h j) = B j
      by_cases q : j = t
      ·rw [if_pos q, q]
      ·rw [if_neg q]; exact hH.out j (by omega)
  ·have hk2 : t = 64 := by omega
   subst hk2
   clear hlt
   have e : Hid ((fl 64 fun j => .int .u32 (h j)) = (fl 64 fun j => .int .u32 (jbb (jhk f) j))) := fl_ext _ _ _ fun j hj => by show Value.int .u32 _ = .int .u32 _; rw [hH.out j hj, HB.out]
   have hst := CZ.run (P := Tryz.prog) (fun j => .int .u32 (h j)) (fun _ => rfl)
   obtain ⟨l, hl⟩ : ∃ l, (fl 64 fun j => .int .u32 (h j)) = l := ⟨_, rfl⟩
   have hr := CC.range
   have hr2 := (CZ.store (fun j => .int .u32 (h j))).range
   have hlen : l.length = 64 := by rw [← hl]; exact jcb _ _
   rw [hl] at e hst hr hr2
   clear hl
   go_wp2_with (refine wpList_load_mid rfl 144 _ rfl c 0 rfl l _ hr Tryz.underlying144 rfl (by rw [hlen]; exact jfw) ?_)
   refine bodyPost_ret (v := .agg l.toArray) (jcs Tryz.results106 _ _ z l _ rfl hr2 Tryz.underlying144 rfl (by rw [hlen]; exact jfw)) rfl ⟨by rw [e.out], ?_⟩
   rw [HZ.out]
   exact jap (Nat.le_refl _) _ _ _ BW
abbrev y64 : Array Value := #[.int .u32 0, .int .u32 0, .int .u32 0, .int .u32 0, .int .u32 0, .int .u32 0, .int .u32 0, .int .u32 0, .int .u32 0, .int .u32 0, .int .u32 0, .int .u32 0, .int .u32 0, .int .u32 0, .int .u32 0, .int .u32 0, .int .u32 0, .int .u32 0, .int .u32 0, .int .u32 0, .int .u32 0, .int .u32 0, .int .u32 0, .int .u32 0, .int .u32 0, .int .u32 0, .int .u32 0, .int .u32 0, .int .u32 0, .int .u32 0, .int .u32 0, .int .u32 0, .int .u32 0, .int .u32 0, .int .u32 0, .int .u32 0, .int .u32 0, .int .u32 0, .int .u32 0, .int .u32 0, .int .u32 0, .int .u32 0, .int .u32 0, .int .u32 0, .int .u32 0, .int .u32 0, .int .u32 0, .int .u32 0, .int .u32 0, .int .u32 0, .int .u32 0, .int .u32 0, .int .u32 0, .int .u32 0, .int .u32 0, .int .u32 0, .int .u32 0, .int .u32 0, .int .u32 0, .int .u32 0, .int .u32 0, .int .u32 0, .int .u32 0, .int .u32 0]
theorem wpList_build {P : Program} {ops : Array Oper} {rest : List Oper} {o : Oper} {a : Act} {Q : Exit → Act → World → Prop} {W : World} (hg : o.guard = none) (t : TypeId) (es : Array (Nat × Operand)) (_hop : o.op = .build t es) (v : Value)
  (hrun : (execOp a.eval o).run P W = .ok (.value v) W) (h : wpList P ops Q rest (a.put o.dst v) W) : wpList P ops Q (o :: rest) a W :=
 wpList_plain hg fun K hK => by
  unfold Oper.wp
  rw [hrun]
  exact hK _ _ h
theorem rwords_any (w : World) :
  Calls Tryz.prog 107 #[] w fun e w' => e = .returned (.agg (fl 64 fun j => .int .u32 (kc j)).toArray) ∧ Below w.heap.size w w' := by
 have Z0 : Fw w.heap.size 64 (fun _ => .int .u32 0) (w.alloc (.cells y64 144)) := Fw.lit _ _ rfl rfl
 have hst := Z0.run (P := Tryz.prog) (fun j => .int .u32 (kc j)) (fun _ => rfl)
 have hr2 := (Z0.store (fun j => .int .u32 (kc j))).range
 have B1 := jap (Nat.le_refl w.heap.size) (fl 64 fun j => .int .u32 (kc j)) 0 _ ((Below.refl w.heap.size w).alloc (Nat.le_refl _) (.cells y64 144))
 obtain ⟨w1, hw1⟩ : ∃ w1, w.alloc (.cells y64 144) = w1 := ⟨_, rfl⟩
 obtain ⟨l, hl⟩ : ∃ l, (fl 64 fun j => .int .u32 (kc j)) = l := ⟨_, rfl⟩
 have hlen : l.length = 64 := by rw [← hl]; exact jcb _ _
 obtain ⟨z, hz⟩ : ∃ z, w.heap.size = z := ⟨_, rfl⟩
 rw [hw1, hl, hz] at hst hr2 B1
 have HL : Hid (_ = _) := hl
 have HB : Hid (_ ∧ _ ∧ _) := ⟨hr2, B1, hz⟩
 clear Z0 hr2 B1 hl
 go_enter Tryz.func107, Tryz.ntmps107
 refine wp_seq ?_
 refine wp_region_lit ?_
 refine wpList_plain rfl fun K hK => ?_
 go_simp
 refine hK _ _ ?_
 refine wpList_nil ?_
 clear hK
 refine wp_seq ?_
 refine wp_region_lit ?_
 refine wpList_build rfl _ _ rfl (.agg l.toArray) ?_ ?_
 ·rw [← HL.out]
  kernel_rfl
 clear hw1 hz
 go_wp2
 refine bodyPost_ret (v := .agg l.toArray) (jcs Tryz.results107 _ _ z l _ rfl HB.out.1 Tryz.underlying144 rfl (by rw [hlen]; exact jfw)) rfl ⟨by rw [HL.out], ?_⟩
 rw [HB.out.2.2]
 exact HB.out.2.1
theorem size_w8 : (Tryz.prog.info? 115).map (·.size) = some 8 := by kernel_rfl
theorem g1_is (x : Int) : g1 x = bits .xor .u32 (bits .xor .u32 (ror x 6) (ror x 11)) (ror x 25) := rfl
structure RT (w : World) (z g1 g2 g3 : Nat) (hv u : Ei) (g : Nat → Int) (W : World) : Prop where
 b : Below z w W
 h : Fw z 8 (fun j => .int .u32 (hv.at j)) W
 r : Fw (z + 1) 8 (fun _ => .int .u32 0) W
 w : Fw g1 64 (fun j => .int .u32 (g j)) W
 k : Fw g2 64 (fun j => .int .u32 (kc j)) W
 v : Fw g3 8 (fun j => .int .u32 (u.at j)) W
theorem RT.below {w : World} {z g1 g2 g3 : Nat} {hv u : Ei} {g : Nat → Int} {W W' : World} (h : RT w z g1 g2 g3 hv u g W) (hb : Below W.heap.size W W') : RT w z g1 g2 g3 hv u g W' :=
 ⟨jaa h.b (Nat.le_of_lt h.h.z) hb, h.h.below hb, h.r.below hb, h.w.below hb, h.k.below hb, h.v.below hb⟩
theorem z_rtake_any (hv : Ei) (g o cap : Nat) (f : Nat → Int) (hf : ∀ j, 0 ≤ f j ∧ f j < 256) (w : World) (hg : g < w.heap.size) (hc : ∀ j, j < 64 → w.cell? ⟨g, o + j, none⟩ = some (.int .u8 (f j))) :
  Calls Tryz.prog 73 #[.agg hv.l, .slice (some ⟨g, o, none⟩) 64 cap] w fun e w' => e = .returned (.agg (jcz hv (jbb (jhk f))).l) ∧ Below w.heap.size w w' := by
 obtain ⟨B, hB⟩ : ∃ B, jbb (jhk f) = B := ⟨_, rfl⟩
 have KS : Hid (∀ (w : World), g < w.heap.size → (∀ j, j < 64 → w.cell? ⟨g, o + j, none⟩ = some (.int .u8 (f j))) → _) := fun (w : World) hg hc => rspread_any g o cap f hf w hg hc
 rw [hB] at KS ⊢
 clear hB
 have HC : Hid (∀ j, j < 64 → w.cell? ⟨g, o + j, none⟩ = some (.int .u8 (f j))) := hc
 clear hc
 go_enter Tryz.func73, Tryz.ntmps73
 go_wp2_with fail
 have B0 : Below w.heap.size w ((w.alloc (.cells hv.l 115)).alloc (.cells #[.int .u32 0, .int .u32 0, .int .u32 0, .int .u32 0, .int .u32 0, .int .u32 0, .int .u32 0, .int .u32 0] 115)) := ((Below.refl _ w).alloc (Nat.le_refl _) _).alloc (by simp) _
 have H0 : Fw w.heap.size 8 (fun j => .int .u32 (hv.at j)) ((w.alloc (.cells hv.l 115)).alloc (.cells #[.int .u32 0, .int .u32 0, .int .u32 0, .int .u32 0, .int .u32 0, .int .u32 0, .int .u32 0, .int .u32 0] 115)) := Fw.alloc (Fw.lit _ _ rfl rfl) _
 have R0 : Fw (w.heap.size + 1) 8 (fun _ => .int .u32 0) ((w.alloc (.cells hv.l 115)).alloc (.cells #[.int .u32 0, .int .u32 0, .int .u32 0, .int .u32 0, .int .u32 0, .int .u32 0, .int .u32 0, .int .u32 0] 115)) := Fw.lit _ _ (by simp) rfl
 refine (KS.out _ (by simp; omega) (fun j hj => (B0.cell (p := ⟨g, o + j, none⟩) hg).trans (HC.out j hj))).mono ?_
 rintro e w1 ⟨rfl, B1⟩
 have H1 := H0.below B1
 have R1 := R0.below B1
 have E1 := jaa B0 B0.size B1
 clear B0 H0 R0 B1 KS HC
 obtain ⟨z, hz⟩ : ∃ z, w.heap.size = z := ⟨_, rfl⟩
 have HZ : Hid (w.heap.size = z) := hz
 rw [hz] at H1 R1 E1 hg ⊢
 clear hz
 have hz1 : z + 1 < w1.heap.size := R1.z
 have Z1 : Fw w1.heap.size 64 (fun _ => .int .u32 0) (w1.alloc (.cells y64 144)) := Fw.lit _ _ rfl rfl
 have hst := Z1.run (P := Tryz.prog) (fun j => .int .u32 (B j)) (fun _ => rfl)
 have N1 := Z1.store (fun j => .int .u32 (B j))
 have D1 : Below w1.heap.size w1 ((w1.alloc (.cells y64 144)).setCells w1.heap.size 0 (fl 64 fun j => .int .u32 (B j))) := jap (Nat.le_refl _) _ _ _ ((Below.refl _ w1).alloc (Nat.le_refl _) _)
 obtain ⟨l, hl⟩ : ∃ l, (fl 64 fun j => .int .u32 (B j)) = l := ⟨_, rfl⟩
 have hlen : l.length = 64 := by rw [← hl]; exact jcb _ _
 rw [hl] at hst N1 D1 ⊢
 obtain ⟨w2, hw2⟩ : ∃ W, (w1.alloc (.cells y64 144)).setCells w1.heap.size 0 l = W := ⟨_, rfl⟩
 rw [hw2] at hst N1 D1
 have H2 := H1.below D1
 have R2' := R1.below D1
 have E2 := jaa E1 (by omega) D1
 obtain ⟨g1, hg1⟩ : ∃ q, w1.heap.size = q := ⟨_, rfl⟩
 rw [hg1] at hst N1 hz1
 clear hl Z1 D1 H1 R1 E1 hw2
 have HH : Hid (_ ∧ _ ∧ _ ∧ _) := ⟨N1, H2, R2', E2⟩
 clear N1 H2 R2' E2
 go_wp2_with fail
 refine (rwords_any _).mono ?_
 rintro e w3 ⟨rfl, B3⟩
 obtain ⟨N1, H2, R2', E2⟩ := HH.out
 have N3 := N1.below B3
 have H3 := H2.below B3
 have R3' := R2'.below B3
 have E3 := jaa E2 (Nat.le_of_lt H2.z) B3
 clear HH N1 H2 R2' E2 B3 hst hg1 hlen
 have hg13 : g1 < w3.heap.size := N3.z
 have Z3 : Fw w3.heap.size 64 (fun _ => .int .u32 0) (w3.alloc (.cells y64 144)) := Fw.lit _ _ rfl rfl
 have hst := Z3.run (P := Tryz.prog) (fun j => .int .u32 (kc j)) (fun _ => rfl)
 have K3 := Z3.store (fun j => .int .u32 (kc j))
 have D3 : Below w3.heap.size w3 ((w3.alloc (.cells y64 144)).setCells w3.heap.size 0 (fl 64 fun j => .int .u32 (kc j))) := jap (Nat.le_refl _) _ _ _ ((Below.refl _ w3).alloc (Nat.le_refl _) _)
 obtain ⟨l2, hl⟩ : ∃ l, (fl 64 fun j => .int .u32 (kc j)) = l := ⟨_, rfl⟩
 have hlen : l2.length = 64 := by rw [← hl]; exact jcb _ _
 rw [hl] at hst K3 D3 ⊢
 obtain ⟨w4, hw4⟩ : ∃ W, (w3.alloc (.cells y64 144)).setCells w3.heap.size 0 l2 = W := ⟨_, rfl⟩
 rw [hw4] at hst K3 D3
 have N4 := N3.below D3
 have H4 := H3.below D3
 have R4' := R3'.below D3
 have E4 := jaa E3 (Nat.le_of_lt H3.z) D3
 obtain ⟨g2, hg2⟩ : ∃ q, w3.heap.size = q := ⟨_, rfl⟩
 rw [hg2] at hst K3 hg13
 clear hl Z3 D3 H3 R3' E3 N3 hw4
 obtain ⟨h0, h1, h2, h3, h4, h5, h6, h7⟩ := hv
 have c0 : w4.cell? ⟨z, 0, none⟩ = some (.int .u32 h0) := H4.c 0 (by decide)
 have c1 : w4.cell? ⟨z, 1, none⟩ = some (.int .u32 h1) := H4.c 1 (by decide)
 have c2 : w4.cell? ⟨z, 2, none⟩ = some (.int .u32 h2) := H4.c 2 (by decide)
 have c3 : w4.cell? ⟨z, 3, none⟩ = some (.int .u32 h3) := H4.c 3 (by decide)
 have c4 : w4.cell? ⟨z, 4, none⟩ = some (.int .u32 h4) := H4.c 4 (by decide)
 have c5 : w4.cell? ⟨z, 5, none⟩ = some (.int .u32 h5) := H4.c 5 (by decide)
 have c6 : w4.cell? ⟨z, 6, none⟩ = some (.int .u32 h6) := H4.c 6 (by decide)
 have c7 : w4.cell? ⟨z, 7, none⟩ = some (.int .u32 h7) := H4.c 7 (by decide)
 have HH : Hid (_ ∧ _ ∧ _ ∧ _ ∧ _) := ⟨N4, K3, H4, R4', E4⟩
 clear N4 K3 H4 R4' E4
 go_wp2
 obtain ⟨N4, K3, H4, R4', E4⟩ := HH.out
 refine wpOf (fun W => RT w z g1 g2 w4.heap.size ⟨h0, h1, h2, h3, h4, h5, h6, h7⟩ ⟨h0, h1, h2, h3, h4, h5, h6, h7⟩ B W) ⟨E4.alloc (Nat.le_of_lt H4.z) _, H4.alloc _, R4'.alloc _, N4.alloc _, K3.alloc _, Fw.lit _ _ rfl rfl⟩ ?_
 have hg23 : g2 < w4.heap.size := K3.z
 obtain ⟨g3, hg3⟩ : ∃ q, w4.heap.size = q := ⟨_, rfl⟩
 rw [hg3] at hg23 ⊢
 rintro V TV
 clear HH N4 K3 H4 R4' E4 hst hg3 hg2 c0 c1 c2 c3 c4 c5 c6 c7 hlen
 go_loopg [8] 64 (fun gk i wr => ∃ k : Nat, ∃ u : Ei, k + gk = 64 ∧ i = .int .i64 k ∧ RT w z g1 g2 g3 ⟨h0, h1, h2, h3, h4, h5, h6, h7⟩ u B wr ∧ Hid (runE ⟨h0, h1, h2, h3, h4, h5, h6, h7⟩ B k = u))
 case atStart => exact ⟨0, _, rfl, rfl, TV, (rfl : _ = _)⟩
 case round =>
  clear TV
  obtain ⟨k, u, hk, rfl, T1, hH⟩ := hrel
  obtain ⟨va, vb, vc, vd, ve, vf, vg, vh⟩ := u
  by_cases hlt : k < 64
  ·have l0 : (k : Int) < 64 := by omega
   have m0 := T1.k.c k hlt
   have m1 := T1.w.c k hlt
   obtain ⟨y0, hy0⟩ : ∃ q, kc k = q := ⟨_, rfl⟩
   obtain ⟨y1, hy1⟩ : ∃ q, B k = q := ⟨_, rfl⟩
   rw [hy0] at m0
   rw [hy1] at m1
   have v0 : wr.cell? ⟨g3, 0, none⟩ = some (.int .u32 va) := T1.v.c 0 (by decide)
   have v1 : wr.cell? ⟨g3, 1, none⟩ = some (.int .u32 vb) := T1.v.c 1 (by decide)
   have v2 : wr.cell? ⟨g3, 2, none⟩ = some (.int .u32 vc) := T1.v.c 2 (by decide)
   have v3 : wr.cell? ⟨g3, 3, none⟩ = some (.int .u32 vd) := T1.v.c 3 (by decide)
   have v4 : wr.cell? ⟨g3, 4, none⟩ = some (.int .u32 ve) := T1.v.c 4 (by decide)
   have v5 : wr.cell? ⟨g3, 5, none⟩ = some (.int .u32 vf) := T1.v.c 5 (by decide)
   have v6 : wr.cell? ⟨g3, 6, none⟩ = some (.int .u32 vg) := T1.v.c 6 (by decide)
   have v7 : wr.cell? ⟨g3, 7, none⟩ = some (.int .u32 vh) := T1.v.c 7 (by decide)
   obtain ⟨x0, hx0⟩ : ∃ q, ror ve 6 = q := ⟨_, rfl⟩
   obtain ⟨x1, hx1⟩ : ∃ q, ror ve 11 = q := ⟨_, rfl⟩
   obtain ⟨x2, hx2⟩ : ∃ q, ror ve 25 = q := ⟨_, rfl⟩
   obtain ⟨x3, hx3⟩ : ∃ q, ror va 2 = q := ⟨_, rfl⟩
   obtain ⟨x4, hx4⟩ : ∃ q, ror va 13 = q := ⟨_, rfl⟩
   obtain ⟨x5, hx5⟩ : ∃ q, ror va 22 = q := ⟨_, rfl⟩
   have K0 : Hid (∀ w : World, _) := fun w : World => jce ve 6 (by decide) (by decide) w
   have K1 : Hid (∀ w : World, _) := fun w : World => jce ve 11 (by decide) (by decide) w
   have K2 : Hid (∀ w : World, _) := fun w : World => jce ve 25 (by decide) (by decide) w
   have K3 : Hid (∀ w : World, _) := fun w : World => jce va 2 (by decide) (by decide) w
   have K4 : Hid (∀ w : World, _) := fun w : World => jce va 13 (by decide) (by decide) w
   have K5 : Hid (∀ w : World, _) := fun w : World => jce va 22 (by decide) (by decide) w
   rw [hx0] at K0
   rw [hx1] at K1
   rw [hx2] at K2
   rw [hx3] at K3
   rw [hx4] at K4
   rw [hx5] at K5
   have HX : Hid (_ ∧ _ ∧ _ ∧ _ ∧ _ ∧ _ ∧ _ ∧ _) := ⟨hy0, hy1, hx0, hx1, hx2, hx3, hx4, hx5⟩
   clear hy0 hy1 hx0 hx1 hx2 hx3 hx4 hx5
   go_wp2
   have k0 := cell_regrown m0
   have k1 := cell_regrown m1
   have k5 := cell_regrown v5
   have k6 := cell_regrown v6
   have k7 := cell_regrown v7
   have c0 := jae (w := wr) K0.out
   have c1 := jae (w := wr) K1.out
   have c2 := jae (w := wr) K2.out
   refine wp_region_quiet_below (by kernel_rfl) (by kernel_rfl) ?_
   iterate 3 (quiet_step (fail))
   quiet_step (exact c0 _ _)
   quiet_step (fail)
   quiet_step (exact c1 _ _)
   iterate 2 (quiet_step (fail))
   quiet_step (exact c2 _ _)
   iterate 22 (quiet_step (fail))
   refine wpQuiet_nil ?_
   intro w8 hw8
   have T8 : RT w z g1 g2 g3 ⟨h0, h1, h2, h3, h4, h5, h6, h7⟩ ⟨va, vb, vc, vd, ve, vf, vg, vh⟩ B w8 := T1.below (by obtain ⟨p, rfl⟩ := hw8; exact below_regrown _ _ _)
   clear hw8 k0 k1 k5 k6 k7 c0 c1 c2 K0 K1 K2 m0 m1 v0 v1 v2 v3 v4 v5 v6 v7 T1
   have v0 : w8.cell? ⟨g3, 0, none⟩ = some (.int .u32 va) := T8.v.c 0 (by decide)
   have v1 : w8.cell? ⟨g3, 1, none⟩ = some (.int .u32 vb) := T8.v.c 1 (by decide)
   have v2 : w8.cell? ⟨g3, 2, none⟩ = some (.int .u32 vc) := T8.v.c 2 (by decide)
   have v3 : w8.cell? ⟨g3, 3, none⟩ = some (.int .u32 vd) := T8.v.c 3 (by decide)
   have v4 : w8.cell? ⟨g3, 4, none⟩ = some (.int .u32 ve) := T8.v.c 4 (by decide)
   have v5 : w8.cell? ⟨g3, 5, none⟩ = some (.int .u32 vf) := T8.v.c 5 (by decide)
   have v6 : w8.cell? ⟨g3, 6, none⟩ = some (.int .u32 vg) := T8.v.c 6 (by decide)
   have v7 : w8.cell? ⟨g3, 7, none⟩ = some (.int .u32 vh) := T8.v.c 7 (by decide)
   go_wp2
   have k1 := cell_regrown v1
   have k2 := cell_regrown v2
   have c3 := jae (w := w8) K3.out
   have c4 := jae (w := w8) K4.out
   have c5 := jae (w := w8) K5.out
   refine wp_region_quiet_below (by kernel_rfl) (by kernel_rfl) ?_
   iterate 1 (quiet_step (fail))
   quiet_step (exact c3 _ _)
   quiet_step (fail)
   quiet_step (exact c4 _ _)
   iterate 2 (quiet_step (fail))
   quiet_step (exact c5 _ _)
   iterate 18 (quiet_step (fail))
   refine wpQuiet_nil ?_
   intro w9 hw9
   have T9 : RT w z g1 g2 g3 ⟨h0, h1, h2, h3, h4, h5, h6, h7⟩ ⟨va, vb, vc, vd, ve, vf, vg, vh⟩ B w9 := T8.below (by obtain ⟨p, rfl⟩ := hw9; exact below_regrown _ _ _)
   clear hw9 k1 k2 c3 c4 c5 K3 K4 K5 v0 v1 v2 v3 v4 v5 v6 v7 T8
   have v0 : w9.cell? ⟨g3, 0, none⟩ = some (.int .u32 va) := T9.v.c 0 (by decide)
   have v1 : w9.cell? ⟨g3, 1, none⟩ = some (.int .u32 vb) := T9.v.c 1 (by decide)
   have v2 : w9.cell? ⟨g3, 2, none⟩ = some (.int .u32 vc) := T9.v.c 2 (by decide)
   have v3 : w9.cell? ⟨g3, 3, none⟩ = some (.int .u32 vd) := T9.v.c 3 (by decide)
   have v4 : w9.cell? ⟨g3, 4, none⟩ = some (.int .u32 ve) := T9.v.c 4 (by decide)
   have v5 : w9.cell? ⟨g3, 5, none⟩ = some (.int .u32 vf) := T9.v.c 5 (by decide)
   have v6 : w9.cell? ⟨g3, 6, none⟩ = some (.int .u32 vg) := T9.v.c 6 (by decide)
   have v7 : w9.cell? ⟨g3, 7, none⟩ = some (.int .u32 vh) := T9.v.c 7 (by decide)
   have vfz := T9.v.f
   have vz := T9.v.z
   have N9 := T9.v.store (fun j => .int .u32 ((stepE ⟨va, vb, vc, vd, ve, vf, vg, vh⟩ (kc k) (B k)).at j))
   have HN : Hid (_ ∧ _) := ⟨N9, T9⟩
   clear N9 T9
   go_wp2
   obtain ⟨N9, T9⟩ := HN.out
   obtain ⟨e1, e2, e3, e4, e5, e6, e7, e8⟩ := HX.out
   go_roundg (gk - 1)
   case measure => omega
   case rel =>
    refine ⟨k + 1, stepE ⟨va, vb, vc, vd, ve, vf, vg, vh⟩ (kc k) (B k), by omega, rfl, ?_, ?_⟩
    ·have eA : (stepE ⟨va, vb, vc, vd, ve, vf, vg, vh⟩ (kc k) (B k)).a = (vh + bits .xor .u32 (bits .xor .u32 x0 x1) x2 + bits .xor .u32 (bits .and .u32 ve vf) (bits .and .u32 (bits .xor .u32 IntKind.u32.max ve) vg) + y0 + y1 + (bits .xor .u32 (bits .xor .u32 x3 x4) x5 + bits .xor .u32 (bits .xor .u32 (bits .and .u32 va vb) (bits .and .u32 va vc)) (bits .and .u32 vb vc))) % 4294967296 := by
      simp only [stepE, t1, t2, md, xr, an, g0, g1_is]
      rw [e1, e2, e3, e4, e5, e6, e7, e8]
      omega
     have eE : (stepE ⟨va, vb, vc, vd, ve, vf, vg, vh⟩ (kc k) (B k)).e = (vd + (vh + bits .xor .u32 (bits .xor .u32 x0 x1) x2 + bits .xor .u32 (bits .and .u32 ve vf) (bits .and .u32 (bits .xor .u32 IntKind.u32.max ve) vg) + y0 + y1)) % 4294967296 := by
      simp only [stepE, t1, md, xr, an, g1_is]
      rw [e1, e2, e3, e4, e5]
      omega
     rw [← eA, ← eE]
     show RT w z g1 g2 g3 ⟨h0, h1, h2, h3, h4, h5, h6, h7⟩ (stepE ⟨va, vb, vc, vd, ve, vf, vg, vh⟩ (kc k) (B k)) B (w9.setCells g3 0 (fl 8 fun j => .int .u32 ((stepE ⟨va, vb, vc, vd, ve, vf, vg, vh⟩ (kc k) (B k)).at j)))
     exact ⟨jap (by omega) _ _ _ T9.b, T9.h.storeOther g3 (by omega) _, T9.r.storeOther g3 (by omega) _, T9.w.storeOther g3 (by omega) _, T9.k.storeOther g3 (by omega) _, N9⟩
    ·show _ = _
     rw [runE, hH.out]
  ·have hk2 : k = 64 := by omega
   subst hk2
   clear hlt
   go_wp2
   go_loopg [13] 8 (fun gk i wr => ∃ k : Nat, ∃ q : Nat → Int, k + gk = 8 ∧ i = .int .i64 k ∧ Below z w wr ∧ Fw z 8 (fun j => .int .u32 (q j)) wr ∧ Fw (z + 1) 8 (fun _ => .int .u32 0) wr ∧ Fw g3 8 (fun j => .int .u32 ((⟨va, vb, vc, vd, ve, vf, vg, vh⟩ : Ei).at j)) wr ∧ Hid (∀ j, j < 8 → q j = if j < k then ((⟨h0, h1, h2, h3, h4, h5, h6, h7⟩ : Ei).at j + (⟨va, vb, vc, vd, ve, vf, vg, vh⟩ : Ei).at j) % 4294967296 else (⟨h0, h1, h2, h3, h4, h5, h6, h7⟩ : Ei).at j))
   case atStart => exact ⟨0, _, rfl, rfl, T1.b, T1.h, T1.r, T1.v, fun j _ => by rw [if_neg (by omega)]⟩
   case round =>
    clear T1
    obtain ⟨k, q, hk, rfl, BW, CH, CR, CV, hQ⟩ := hrel
    by_cases hlt : k < 8
    ·have l0 : (k : Int) < 8 := by omega
     have m0 := CH.c k hlt
     have m1 := CV.c k hlt
     obtain ⟨y0, hy0⟩ : ∃ x, q k = x := ⟨_, rfl⟩
     obtain ⟨y1, hy1⟩ : ∃ x, (⟨va, vb, vc, vd, ve, vf, vg, vh⟩ : Ei).at k = x := ⟨_, rfl⟩
     rw [hy0] at m0
     rw [hy1] at m1
     have HY : Hid (((⟨h0, h1, h2, h3, h4, h5, h6, h7⟩ : Ei).at k + (⟨va, vb, vc, vd, ve, vf, vg, vh⟩ : Ei).at k) % 4294967296 = (y0 + y1) % 4294967296) := by
      show _ = _
      rw [← hy0, hQ.out k hlt, if_neg (by omega), hy1]
     clear hy0 hy1
     go_wp2
     have k0 := cell_regrown m0
     have k1 := cell_regrown m1
     refine jar 8 (by kernel_rfl) (by kernel_rfl) ?_
     simp only [List.take_succ_cons, List.take_zero, List.drop_succ_cons, List.drop_zero]
     iterate 8 (quiet_step (fail))
     refine wpQuiet_nil ?_
     intro w8 hw8
     have hb8 : Below wr.heap.size wr w8 := by
      obtain ⟨p, rfl⟩ := hw8
      exact below_regrown _ _ _
     have H8 := CH.below hb8
     have R8 := CR.below hb8
     have V8 := CV.below hb8
     have G8 := jaa BW (Nat.le_of_lt CH.z) hb8
     clear hw8 hb8 k0 k1 CH CR CV BW m0 m1
     have n0 := H8.c k hlt
     have sf := H8.f
     have sz := H8.z
     go_wp2
     go_roundg (gk - 1)
     case measure => omega
     case rel =>
      refine ⟨k + 1, fun j => if j = k then (y0 + y1) % 4294967296 else q j, by omega, rfl, G8.setCell (p := ⟨z, k, none⟩) (Nat.le_refl _) _, H8.put k hlt _ (fun j _ => by by_cases e : j = k <;> simp [e]), R8.setCell _ (by dsimp only; omega) _, V8.setCell _ (by dsimp only; omega) _, ?_⟩
      intro j hj
      have hJ := hQ.out j hj
      show (if j = k then (y0 + y1) % 4294967296 else q j) = _
      by_cases e : j = k
      ·rw [if_pos e, e, if_pos (by omega), HY.out]
      rw [if_neg e, hJ]
      by_cases h1 : j < k
      ·rw [if_pos h1, if_pos (by omega)]
      ·rw [if_neg h1, if_neg (by omega)]
    ·have hk2 : k = 8 := by omega
     subst hk2
     clear hlt
     have CF : Fw z 8 (fun j => .int .u32 ((jcz ⟨h0, h1, h2, h3, h4, h5, h6, h7⟩ B).at j)) wr := CH.ext (fun j hj => by
      show Value.int .u32 _ = .int .u32 _
      rw [hQ.out j hj, if_pos hj, jcz, hH.out]
      match j, hj with
      | 0, _ | 1, _ | 2, _ | 3, _ | 4, _ | 5, _ | 6, _ | 7, _ => rfl
      | j + 8, hj => exact absurd hj (by omega))
     obtain ⟨⟨r0, r1, r2, r3, r4, r5, r6, r7⟩, hr⟩ : ∃ r, jcz ⟨h0, h1, h2, h3, h4, h5, h6, h7⟩ B = r := ⟨_, rfl⟩
     rw [hr] at CF
     have HR : Hid (_ = _) := hr
     clear hr CH
     have f0 : wr.cell? ⟨z, 0, none⟩ = some (.int .u32 r0) := CF.c 0 (by decide)
     have f1 : wr.cell? ⟨z, 1, none⟩ = some (.int .u32 r1) := CF.c 1 (by decide)
     have f2 : wr.cell? ⟨z, 2, none⟩ = some (.int .u32 r2) := CF.c 2 (by decide)
     have f3 : wr.cell? ⟨z, 3, none⟩ = some (.int .u32 r3) := CF.c 3 (by decide)
     have f4 : wr.cell? ⟨z, 4, none⟩ = some (.int .u32 r4) := CF.c 4 (by decide)
     have f5 : wr.cell? ⟨z, 5, none⟩ = some (.int .u32 r5) := CF.c 5 (by decide)
     have f6 : wr.cell? ⟨z, 6, none⟩ = some (.int .u32 r6) := CF.c 6 (by decide)
     have f7 : wr.cell? ⟨z, 7, none⟩ = some (.int .u32 r7) := CF.c 7 (by decide)
     have hr2 := (CR.store (fun j => .int .u32 ((⟨r0, r1, r2, r3, r4, r5, r6, r7⟩ : Ei).at j))).range
     have HS : Hid (_ ∧ _) := ⟨hr2, BW⟩
     have crf := CR.f
     have o0 := CR.c 0 (by decide)
     have o1 := CR.c 1 (by decide)
     have o2 := CR.c 2 (by decide)
     have o3 := CR.c 3 (by decide)
     have o4 := CR.c 4 (by decide)
     have o5 := CR.c 5 (by decide)
     have o6 := CR.c 6 (by decide)
     have o7 := CR.c 7 (by decide)
     clear hr2 BW CF CR CV
     go_wp2
     obtain ⟨hr2, BW⟩ := HS.out
     refine bodyPost_ret (v := .agg (⟨r0, r1, r2, r3, r4, r5, r6, r7⟩ : Ei).l) (jcs Tryz.results73 _ _ (z + 1) [.int .u32 r0, .int .u32 r1, .int .u32 r2, .int .u32 r3, .int .u32 r4, .int .u32 r5, .int .u32 r6, .int .u32 r7] _ rfl (by exact hr2) Tryz.underlying115 rfl size_w8) rfl ⟨by rw [HR.out], ?_⟩
     rw [HZ.out]
     exact jap (b := z + 1) (by omega) [_, _, _, _, _, _, _, _] 0 _ BW
end Go.Proofs.YtoddangedbefgabGreatDoor
