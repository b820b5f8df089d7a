/- How many bytes an item takes: sizeOf and bodySize. -/
import Derived.Test.YteaongogomhooaaQ4
namespace Go.Proofs.Yteaongogomhooaa
open Go.RowKit Go.Sort

set_option maxRecDepth 20000 in
set_option maxHeartbeats 2000000 in
theorem bodySize_of (x : Im) (htb : tb x < 1000000000000000000) (n : Nat)
    (IH : ∀ (j : Nat) (y : Im), x.xs[j]? = some y → ∀ w : World, n ≤ w.heap.size → inMem n w y → Calls Try.prog 26 #[y.val] w fun e w' => e = .returned (.int .i64 (szOf y)) ∧ Below w.heap.size w w')
    (w : World) (hn : n ≤ w.heap.size) (hm : inMem n w x) :
    Calls Try.prog 38 #[x.val] w fun e w' => e = .returned (.int .i64 (body x)) ∧ Below w.heap.size w w' := by
  have hbt := body_tb x htb
  rw [tb_eq] at htb
  rw [inMem_eq] at hm
  obtain ⟨l, t, a, c, xs⟩ := x
  replace htb : t.size + 9 + tbs xs < 1000000000000000000 := htb
  replace hbt : t.size + szs xs + 9 ≤ t.size + 9 + tbs xs := hbt
  have hb0 : body (.mk l t a c xs) = t.size + szs xs := rfl
  rw [hb0]
  have IH' : ∀ (j : Nat) (y : Im), xs[j]? = some y → ∀ w : World, n ≤ w.heap.size → inMem n w y → Calls Try.prog 26 #[y.val] w fun e w' => e = .returned (.int .i64 (szOf y)) ∧ Below w.heap.size w w' := IH
  replace hm : rowMem n w a 0 xs := hm
  show Calls Try.prog 38 #[.agg #[.bool l, .string t, .slice a xs.length c]] w _
  clear IH hb0
  go_enter Try.func38, Try.ntmps38
  go_wp2_with fail
  refine wpOf (fun W => Below w.heap.size w W) ((Below.refl _ w).alloc (Nat.le_refl _) _) ?_
  intro w1 B1
  obtain ⟨N, hN⟩ : ∃ N, xs.length = N := ⟨_, rfl⟩
  have hNb : N < 1000000000000000000 := by have := len_tbs xs; omega
  rw [hN]
  go_loopg [3, 12] N (fun gk v i wr => ∃ k : Nat, k + gk = N ∧ i = .int .i64 k ∧ v = .int .i64 ((t.size + szs (xs.take k) : Nat) : Int) ∧ Below w.heap.size w wr)
  case atStart => exact ⟨0, by omega, rfl, by simp [szs], B1⟩
  case round =>
    obtain ⟨k, hk, rfl, rfl, BW⟩ := hrel
    by_cases hlt : k < N
    · have l0 : (k : Int) < N := by omega
      obtain ⟨y, hy⟩ : ∃ y, xs[k]? = some y := ⟨xs[k]'(by omega), List.getElem?_eq_getElem (by omega)⟩
      obtain ⟨⟨b, o, hb, rfl, c0, c1, c2⟩, hy2⟩ := row_at xs 0 hm k y hy
      have hy3 := inMem_below hn (BW.mono hn) y hy2
      have hbw : b < w.heap.size := by omega
      replace c0 := (BW.cell (p := ⟨b, _, none⟩) hbw).trans c0
      replace c1 := (BW.cell (p := ⟨b, _, none⟩) hbw).trans c1
      replace c2 := (BW.cell (p := ⟨b, _, none⟩) hbw).trans c2
      obtain ⟨p, hp⟩ : ∃ p, o + 3 * k = p := ⟨_, rfl⟩
      rw [show o + 3 * (0 + k) = p by omega] at c0 c1 c2
      have hp2 : o + k * 3 = p := by omega
      have KS := IH' k y hy
      have wk : IntKind.i64.wrap ((k : Int) + 1) = ((k + 1 : Nat) : Int) := by rw [IntKind.wrap_i64]; omega
      have hst := szs_snoc xs k y hy
      obtain ⟨q, hq⟩ : ∃ q, t.size + szs (xs.take k) = q := ⟨_, rfl⟩
      rw [hq]
      obtain ⟨yl, yt, ya, yc, yx⟩ := y
      simp only [Im.l, Im.t, Im.sl, Im.a, Im.xs, Im.c] at c0 c1 c2
      have HH : Hid (_ ∧ _) := ⟨hq, hst⟩
      have hq2 : q ≤ t.size + szs xs := by rw [← hq]; exact Nat.add_le_add_left (szs_take xs k) _
      have hq3 : q + szOf (.mk yl yt ya yc yx) ≤ t.size + szs xs := by
        have := szs_take xs (k + 1)
        omega
      clear hq hst
      go_wp2_with fail
      have a1 : Below n wr (wr.alloc (.cells #[.bool yl, .string yt, .slice ya yx.length yc] 24)) := (Below.refl n wr).alloc (by have := BW.size; omega) _
      refine (KS _ (by have := BW.size; simp; omega) (inMem_below (by have := BW.size; omega) a1 _ hy3)).mono ?_
      rintro e w3 ⟨rfl, B3⟩
      have BW3 := belowStep BW BW.size (belowStep ((Below.refl _ wr).alloc (Nat.le_refl _) (.cells #[.bool yl, .string yt, .slice ya yx.length yc] 24)) (by simp) B3)
      obtain ⟨d, hd⟩ : ∃ d, szOf (.mk yl yt ya yc yx) = d := ⟨_, rfl⟩
      rw [hd] at hq3 HH ⊢
      clear B3 a1 KS hy3 hy2 c0 c1 c2 BW hd
      go_wp2
      go_roundg (gk - 1)
      case measure => omega
      case rel =>
        refine ⟨k + 1, by omega, by first | rfl | (congr 1; omega), ?_, BW3⟩
        obtain ⟨hq, hst⟩ := HH.out
        rw [hst]
        congr 1
        omega
    · have hk2 : k = N := by omega
      subst hk2
      have l0 : ¬ (k : Int) < k := by omega
      rw [← hN, List.take_length]
      rw [← hN] at l0
      go_wp2
      go_ret
      exact ⟨rfl, BW⟩

set_option maxRecDepth 20000 in
set_option maxHeartbeats 2000000 in
theorem sizeOf_all : ∀ (N : Nat) (x : Im), cnt x ≤ N → tb x < 1000000000000000000 → ∀ (n : Nat) (w : World), n ≤ w.heap.size → inMem n w x →
    Calls Try.prog 26 #[x.val] w fun e w' => e = .returned (.int .i64 (szOf x)) ∧ Below w.heap.size w w'
  | 0, x, h, _, _, _, _, _ => by rw [cnt_eq] at h; omega
  | N + 1, x, h, htb, n, w, hn, hm => by
    have KB : ∀ w : World, n ≤ w.heap.size → inMem n w x → Calls Try.prog 38 #[x.val] w fun e w' => e = .returned (.int .i64 (body x)) ∧ Below w.heap.size w w' := fun w hn hm =>
      bodySize_of x htb n (fun j y hy w hn hm => sizeOf_all N y (by rw [cnt_eq] at h; have := cnts_at x.xs j y hy; omega) (by rw [tb_eq] at htb; have := tbs_at x.xs j y hy; omega) n w hn hm) w hn hm
    have hbt := body_tb x htb
    have hh9 := hsz_le (body x) (by omega)
    have KH : Hid (∀ w : World, _) := fun w : World => headSize_any (body x) (by omega) w
    rw [szOf_eq]
    have KX : Hid (∀ w : World, _) := fun w : World => isBare_any x.t w
    obtain ⟨bb, hbb⟩ : ∃ b, body x = b := ⟨_, rfl⟩
    obtain ⟨hz, hhz⟩ : ∃ b, hsz bb = b := ⟨_, rfl⟩
    rw [hbb] at KB KH hbt hh9 ⊢
    rw [hhz] at KH hh9 ⊢
    clear hhz hbb
    have KB' : Hid (∀ w : World, _) := KB
    clear KB
    obtain ⟨l, t, a, c, xs⟩ := x
    replace KX : Hid (∀ w : World, Calls Try.prog 37 #[.string t] w fun e w' => e = .returned (.bool (bare t)) ∧ Below w.heap.size w w') := KX
    show Calls Try.prog 26 #[.agg #[.bool l, .string t, .slice a xs.length c]] w fun e w' => e = .returned (.int .i64 ((if !l && bare t then t.size else hz + bb : Nat) : Int)) ∧ Below w.heap.size w w'
    have a0 : Below w.heap.size w (w.alloc (.cells #[.bool l, .string t, .slice a xs.length c] 24)) := (Below.refl _ w).alloc (Nat.le_refl _) _
    have hm1 := inMem_below hn (a0.mono hn) _ hm
    obtain ⟨bt0, hbt0⟩ : ∃ b, bare t = b := ⟨_, rfl⟩
    rw [hbt0] at KX ⊢
    cases l with
    | true =>
      go_enter Try.func26, Try.ntmps26
      go_wp2_with fail
      refine (KB'.out _ (by simp; omega) hm1).mono ?_
      rintro e w2 ⟨rfl, B2⟩
      have C2 := belowStep a0 a0.size B2
      clear B2 a0
      go_wp2_with fail
      refine (KH.out _).mono ?_
      rintro e w3 ⟨rfl, B3⟩
      have C3 := belowStep C2 C2.size B3
      clear B3 C2 KH KB'
      go_wp2
      go_ret
      exact ⟨by first | rfl | simp, C3⟩
    | false =>
      go_enter Try.func26, Try.ntmps26
      go_wp2_with fail
      refine (KX.out _).mono ?_
      rintro e wx ⟨rfl, BX⟩
      have ax := belowStep a0 a0.size BX
      have hmx := inMem_below (by simp; omega) (BX.mono (by simp; omega)) _ hm1
      have x0 : wx.cell? ⟨w.heap.size, 0, none⟩ = some (.bool false) := (BX.cell (p := ⟨w.heap.size, 0, none⟩) (by simp)).trans (by simp [go_sem])
      have x1 : wx.cell? ⟨w.heap.size, 1, none⟩ = some (.string t) := (BX.cell (p := ⟨w.heap.size, 1, none⟩) (by simp)).trans (by simp [go_sem])
      have x2 : wx.cell? ⟨w.heap.size, 2, none⟩ = some (.slice a xs.length c) := (BX.cell (p := ⟨w.heap.size, 2, none⟩) (by simp)).trans (by simp [go_sem])
      clear BX
      cases bt0 with
      | true =>
        go_wp2
        go_ret
        exact ⟨by first | rfl | simp, ax⟩
      | false =>
        go_wp2_with fail
        refine (KB'.out _ (by have := ax.size; omega) hmx).mono ?_
        rintro e w2 ⟨rfl, B2⟩
        have C2 := belowStep ax ax.size B2
        clear B2 ax
        go_wp2_with fail
        refine (KH.out _).mono ?_
        rintro e w3 ⟨rfl, B3⟩
        have C3 := belowStep C2 C2.size B3
        clear B3 C2 KH KB'
        go_wp2
        go_ret
        exact ⟨by first | rfl | simp, C3⟩
end Go.Proofs.Yteaongogomhooaa
