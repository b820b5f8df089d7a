/- Lemmas: readNode; the node whose bytes a text is. -/
import Derived.Test.YtbmapdkcccdmfabDoorM1
import Derived.Test.YtbmapdkcccdmfabDoorM10
import Derived.Test.YtbmapdkcccdmfabDoorM11
import Derived.Test.YtbmapdkcccdmfabDoorM12
import Derived.Test.YtbmapdkcccdmfabDoorM13
import Derived.Test.YtbmapdkcccdmfabDoorM14
import Derived.Test.YtbmapdkcccdmfabDoorM15
import Derived.Test.YtbmapdkcccdmfabDoorM16
import Derived.Test.YtbmapdkcccdmfabDoorM17
import Derived.Test.YtbmapdkcccdmfabDoorM18
import Derived.Test.YtbmapdkcccdmfabDoorM19
import Derived.Test.YtbmapdkcccdmfabDoorM2
import Derived.Test.YtbmapdkcccdmfabDoorM20
import Derived.Test.YtbmapdkcccdmfabDoorM21
import Derived.Test.YtbmapdkcccdmfabDoorM22
import Derived.Test.YtbmapdkcccdmfabDoorM23
import Derived.Test.YtbmapdkcccdmfabDoorM24
import Derived.Test.YtbmapdkcccdmfabDoorM25
import Derived.Test.YtbmapdkcccdmfabDoorM26
import Derived.Test.YtbmapdkcccdmfabDoorM27
import Derived.Test.YtbmapdkcccdmfabDoorM28
import Derived.Test.YtbmapdkcccdmfabDoorM29
import Derived.Test.YtbmapdkcccdmfabDoorM3
import Derived.Test.YtbmapdkcccdmfabDoorM30
import Derived.Test.YtbmapdkcccdmfabDoorM31
import Derived.Test.YtbmapdkcccdmfabDoorM6
import Derived.Test.YtbmapdkcccdmfabDoorM7
import Derived.Test.YtbmapdkcccdmfabDoorM8
import Derived.Test.YtbmapdkcccdmfabDoorM9
import Derived.Test.YtbmapdkcccdmfabDoorRows
namespace Go.Proofs.YtbmapdkcccdmfabDoor
open Go.RowKit Go.Shelf Go.Sort

theorem rowMem_take {n : Nat} {W : World} {a : Option Addr} : ∀ (m : Nat) (xs : List Im) (i : Nat), rowMem n W a i xs → rowMem n W a i (xs.take m)
  | 0, _, _, _ => by rw [List.take_zero]; trivial
  | _ + 1, [], _, _ => trivial
  | m + 1, _ :: r, i, ⟨h1, h2, h3⟩ => ⟨h1, h2, rowMem_take m r (i + 1) h3⟩
theorem tbs_take : ∀ (m : Nat) (xs : List Im), tbs (xs.take m) ≤ tbs xs
  | 0, _ => Nat.zero_le _
  | _ + 1, [] => Nat.le_refl _
  | m + 1, _ :: r => Nat.add_le_add_left (tbs_take m r) _
theorem capIs_take : ∀ (m : Nat) (xs : List Im), capIs xs → capIs (xs.take m)
  | 0, _, _ => trivial
  | _ + 1, [], _ => trivial
  | m + 1, _ :: r, ⟨h1, h2⟩ => ⟨h1, capIs_take m r h2⟩

theorem RdP.mono {o : Option PN} {w w8 : World} {e : Ending} {w' : World} (h : RdP o w8 e w') (hs : w.heap.size ≤ w8.heap.size) : RdP o w e w' := by
  cases o with
  | none => exact h
  | some nd =>
    obtain ⟨b, h1, h2⟩ := h
    exact ⟨b, h1, pnIn_of (fun q hq => ⟨⟨Nat.le_trans hs hq.1, hq.2⟩, rfl⟩) nd b h2⟩

set_option maxRecDepth 20000 in
set_option maxHeartbeats 2000000 in
theorem rnc_step (k : Nat) (hk : RnC k) (hkb : k ≤ 100000000) : RnC (k + 1) := by
  intro im hc hcp n w hn hm
  have hcx : im.xs.length ≤ im.c ∧ capIs im.xs := by cases im; exact hcp
  have htb : tbs im.xs ≤ k := by have := tb_eq im; omega
  rw [inMem_eq] at hm
  have hrd : rdN (er im) = asmN (ers im.xs) (rdRs (ers im.xs)) := by unfold rdN; rw [er_xs]
  rw [hrd]
  have hiv : im.val = .agg #[.bool im.l, .string im.t, .slice im.a im.xs.length im.c] := rfl
  rw [hiv]
  obtain ⟨il, e1⟩ : ∃ s, im.l = s := ⟨_, rfl⟩
  obtain ⟨it, e2⟩ : ∃ s, im.t = s := ⟨_, rfl⟩
  obtain ⟨ia, e3⟩ : ∃ s, im.a = s := ⟨_, rfl⟩
  obtain ⟨ic, e4⟩ : ∃ s, im.c = s := ⟨_, rfl⟩
  obtain ⟨xs, e5⟩ : ∃ s, im.xs = s := ⟨_, rfl⟩
  rw [e3, e5] at hm
  rw [e4, e5] at hcx
  rw [e5] at htb
  rw [e1, e2, e3, e4, e5]
  clear e1 e2 e3 e4 e5 hiv hrd hc hcp
  have A0 := (Below.refl w.heap.size w).alloc (Nat.le_refl _) (.cells #[.bool il, .string it, .slice ia xs.length ic] 81)
  have hm0 := rowMem_below hn (A0.mono hn) _ _ _ hm
  have hn0 : n ≤ (w.alloc (.cells #[.bool il, .string it, .slice ia xs.length ic] 81)).heap.size := Nat.le_trans hn A0.size
  by_cases h2 : xs.length = 2
  · obtain ⟨f, b, rfl⟩ : ∃ f b, xs = [f, b] := by
      match xs, h2 with
      | [f, b], _ => exact ⟨f, b, rfl⟩
    obtain ⟨⟨b0, o0, hb0, rfl, c0, c1, c2⟩, hmf⟩ := row_at [f, b] 0 hm0 0 f rfl
    obtain ⟨⟨b1', o1, hb1, hae, c3, c4, c5⟩, hmb⟩ := row_at [f, b] 0 hm0 1 b rfl
    injection hae with hae
    injection hae with e1 e2
    subst e1 e2
    have KL := readLB_of k hk hkb f b (Nat.le_trans (tbs_at [f, b] 0 f rfl) htb) (Nat.le_trans (tbs_at [f, b] 1 b rfl) htb) (capIs_at [f, b] 1 b hcx.2 rfl) n
    have KL : ∀ W, Below (w.alloc (.cells #[.bool il, .string it, .slice (some ⟨b0, o0, none⟩) [f, b].length ic] 81)).heap.size (w.alloc (.cells #[.bool il, .string it, .slice (some ⟨b0, o0, none⟩) [f, b].length ic] 81)) W → _ := fun W hW => KL W (Nat.le_trans hn0 hW.size) (inMem_below hn0 (hW.mono hn0) _ hmb)
    have has : asmN (ers [f, b]) (rdRs (ers [f, b])) = lbN (er f) (er b) (rdR (er b)) := rfl
    rw [has]
    clear has
    obtain ⟨oo, hoo⟩ : ∃ q, lbN (er f) (er b) (rdR (er b)) = q := ⟨_, rfl⟩
    rw [hoo] at KL ⊢
    clear hoo
    have hfv : f.val = .agg #[.bool f.l, .string f.t, .slice f.a f.xs.length f.c] := rfl
    have hbv : b.val = .agg #[.bool b.l, .string b.t, .slice b.a b.xs.length b.c] := rfl
    have hfs : f.sl = .slice f.a f.xs.length f.c := rfl
    have hbs : b.sl = .slice b.a b.xs.length b.c := rfl
    rw [hfs] at c2
    rw [hbs] at c5
    rw [hfv, hbv] at KL
    have z0 : o0 + 3 * (0 + 0) = o0 := by omega
    have z1 : o0 + 3 * (0 + 1) = o0 + 3 := by omega
    rw [z0] at c0 c1 c2
    rw [z1] at c3 c4 c5
    obtain ⟨q0, e0⟩ : ∃ s, f.l = s := ⟨_, rfl⟩
    obtain ⟨q1, e1⟩ : ∃ s, f.t = s := ⟨_, rfl⟩
    obtain ⟨q2, e2⟩ : ∃ s, f.a = s := ⟨_, rfl⟩
    obtain ⟨q3, e3⟩ : ∃ s, f.xs.length = s := ⟨_, rfl⟩
    obtain ⟨q4, e4⟩ : ∃ s, f.c = s := ⟨_, rfl⟩
    obtain ⟨r0, g0⟩ : ∃ s, b.l = s := ⟨_, rfl⟩
    obtain ⟨r1, g1⟩ : ∃ s, b.t = s := ⟨_, rfl⟩
    obtain ⟨r2, g2⟩ : ∃ s, b.a = s := ⟨_, rfl⟩
    obtain ⟨r3, g3⟩ : ∃ s, b.xs.length = s := ⟨_, rfl⟩
    obtain ⟨r4, g4⟩ : ∃ s, b.c = s := ⟨_, rfl⟩
    rw [e0, e1, e2, e3, e4, g0, g1, g2, g3, g4] at KL
    rw [e0] at c0
    rw [e1] at c1
    rw [e2, e3, e4] at c2
    rw [g0] at c3
    rw [g1] at c4
    rw [g2, g3, g4] at c5
    dsimp only [List.length_cons, List.length_nil] at KL A0 c0 c1 c2 c3 c4 c5 ⊢
    have HA : Hid _ := A0
    clear hm hm0 hmf hmb hn0 hn A0 hcx htb hfv hbv hfs hbs z0 z1 e0 e1 e2 e3 e4 g0 g1 g2 g3 g4
    go_enter Tryd.func57, Tryd.ntmps57
    go_wp2_with fail
    have hbx := World.alloc_heap_new w (.cells #[.bool il, .string it, .slice (some ⟨b0, o0, none⟩) 2 ic] 81)
    obtain ⟨V, hV⟩ : ∃ V, w.alloc (.cells #[.bool il, .string it, .slice (some ⟨b0, o0, none⟩) 2 ic] 81) = V := ⟨_, rfl⟩
    rw [hV] at HA KL c0 c1 c2 c3 c4 c5 hbx
    rw [hV]
    have d2 : V.cell? ⟨w.heap.size, 2, none⟩ = some (.slice (some ⟨b0, o0, none⟩) 2 ic) := by rw [Lib.cell_of_heap hbx]; rfl
    have k0 := cell_regrown c0
    have k1 := cell_regrown c1
    have k2 := cell_regrown c2
    have k3 := cell_regrown c3
    have k4 := cell_regrown c4
    have k5 := cell_regrown c5
    have k6 := cell_regrown d2
    clear c0 c1 c2 c3 c4 c5 d2 hbx hV
    refine region_tail 8 (by kernel_rfl) (by kernel_rfl) ?_
    simp only [List.take_succ_cons, List.take_zero, List.drop_succ_cons, List.drop_zero]
    iterate 8 (quiet_step (fail))
    refine wpQuiet_nil ?_
    intro w8 hw8
    have B8 : Below V.heap.size V w8 := by
      obtain ⟨p, rfl⟩ := hw8
      exact below_regrown _ _ _
    clear hw8 k0 k1 k2 k3 k4 k5 k6
    go_wp2_with fail
    refine (KL w8 B8).mono ?_
    rintro e w9 ⟨B9, hR⟩
    have BW := belowStep HA.out HA.out.size B8
    have BX := belowStep BW BW.size B9
    have hR2 := hR.mono BW.size
    cases oo with
    | none =>
      obtain rfl := hR2
      go_wp2
      go_ret
      exact ⟨BX, rfl⟩
    | some nd =>
      obtain ⟨b', rfl, hb'⟩ := hR2
      go_wp2
      go_ret
      exact ⟨BX, b', rfl, hb'⟩
  · by_cases h17 : xs.length = 17
    · obtain ⟨v, hv⟩ : ∃ v, xs[16]? = some v := ⟨xs[16]'(by omega), List.getElem?_eq_getElem (by omega)⟩
      obtain ⟨⟨b0, o0, hb0, rfl, c0, c1, c2⟩, hmv⟩ := row_at xs 0 hm0 16 v hv
      have htk : (xs.take 16).length = 16 := by rw [List.length_take]; omega
      have hmt := rowMem_take 16 xs 0 hm0
      have KL := readFork_of k hk (xs.take 16) htk v (Nat.le_trans (tbs_take 16 xs) htb) (capIs_take 16 xs hcx.2) (some ⟨b0, o0, none⟩) ic n
      have has : asmN (ers xs) (rdRs (ers xs)) = qfkN (ers (xs.take 16)) (er v) (rdRs (ers (xs.take 16))) := by
        have h1 : (ers xs).getD 16 (.mk false ⟨#[]⟩ []) = er v := by rw [List.getD_eq_getElem?_getD, ers_at xs 16 v hv]; rfl
        have h2' : (ers xs).take 16 = ers (xs.take 16) := by rw [ers_map, ers_map, List.map_take]
        have h3 : (rdRs (ers xs)).take 16 = rdRs (ers (xs.take 16)) := by rw [rdRs_map, rdRs_map, ← h2', List.map_take]
        unfold asmN
        rw [ers_len, if_neg h2, if_pos h17, h1, h2', h3]
      rw [has]
      clear has
      obtain ⟨oo, hoo⟩ : ∃ q, qfkN (ers (xs.take 16)) (er v) (rdRs (ers (xs.take 16))) = q := ⟨_, rfl⟩
      rw [hoo] at KL
      rw [hoo]
      rw [htk] at KL
      have KL : ∀ W, Below (w.alloc (.cells #[.bool il, .string it, .slice (some ⟨b0, o0, none⟩) xs.length ic] 81)).heap.size (w.alloc (.cells #[.bool il, .string it, .slice (some ⟨b0, o0, none⟩) xs.length ic] 81)) W → _ := fun W hW => KL W (Nat.le_trans hn0 hW.size) (rowMem_below hn0 (hW.mono hn0) _ _ _ hmt)
      have hbv : v.val = .agg #[.bool v.l, .string v.t, .slice v.a v.xs.length v.c] := rfl
      have hbs : v.sl = .slice v.a v.xs.length v.c := rfl
      rw [hbs] at c2
      rw [hbv] at KL
      have z1 : o0 + 3 * (0 + 16) = o0 + 48 := by omega
      rw [z1] at c0 c1 c2
      obtain ⟨r0, g0⟩ : ∃ s, v.l = s := ⟨_, rfl⟩
      obtain ⟨r1, g1⟩ : ∃ s, v.t = s := ⟨_, rfl⟩
      obtain ⟨r2, g2⟩ : ∃ s, v.a = s := ⟨_, rfl⟩
      obtain ⟨r3, g3⟩ : ∃ s, v.xs.length = s := ⟨_, rfl⟩
      obtain ⟨r4, g4⟩ : ∃ s, v.c = s := ⟨_, rfl⟩
      rw [g0, g1, g2, g3, g4] at KL
      rw [g0] at c0
      rw [g1] at c1
      rw [g2, g3, g4] at c2
      rw [h17] at KL A0 c0 c1 c2 hcx
      rw [h17]
      have hi16 : 16 ≤ ic := by omega
      have hi16' : (16 : Int) ≤ ic := by omega
      have HA : Hid _ := A0
      clear hm hm0 hmv hmt hn0 hn A0 hcx htb hbv hbs z1 g0 g1 g2 g3 g4 htk hoo hv
      go_enter Tryd.func57, Tryd.ntmps57
      go_wp2_with fail
      have hbx := World.alloc_heap_new w (.cells #[.bool il, .string it, .slice (some ⟨b0, o0, none⟩) 17 ic] 81)
      obtain ⟨V, hV⟩ : ∃ V, w.alloc (.cells #[.bool il, .string it, .slice (some ⟨b0, o0, none⟩) 17 ic] 81) = V := ⟨_, rfl⟩
      rw [hV] at HA KL c0 c1 c2 hbx
      rw [hV]
      have d2 : V.cell? ⟨w.heap.size, 2, none⟩ = some (.slice (some ⟨b0, o0, none⟩) 17 ic) := by rw [Lib.cell_of_heap hbx]; rfl
      have k0 := cell_regrown c0
      have k1 := cell_regrown c1
      have k2 := cell_regrown c2
      have k6 := cell_regrown d2
      clear c0 c1 c2 d2 hbx hV
      refine region_tail 7 (by kernel_rfl) (by kernel_rfl) ?_
      simp only [List.take_succ_cons, List.take_zero, List.drop_succ_cons, List.drop_zero]
      iterate 7 (quiet_step (fail))
      refine wpQuiet_nil ?_
      intro w8 hw8
      have B8 : Below V.heap.size V w8 := by
        obtain ⟨p, rfl⟩ := hw8
        exact below_regrown _ _ _
      clear hw8 k0 k1 k2 k6
      go_wp2_with fail
      refine (KL w8 B8).mono ?_
      rintro e w9 ⟨B9, hR⟩
      have BW := belowStep HA.out HA.out.size B8
      have BX := belowStep BW BW.size B9
      have hR2 := hR.mono BW.size
      cases oo with
      | none =>
        obtain rfl := hR2
        go_wp2
        go_ret
        exact ⟨BX, rfl⟩
      | some nd =>
        obtain ⟨b', rfl, hb'⟩ := hR2
        go_wp2
        go_ret
        exact ⟨BX, b', rfl, hb'⟩
    · have h2i : ((xs.length : Int) == 2) = false := by rw [beq_eq_false_iff_ne]; omega
      have h17i : ((xs.length : Int) == 17) = false := by rw [beq_eq_false_iff_ne]; omega
      have has : asmN (ers xs) (rdRs (ers xs)) = none := by
        unfold asmN
        rw [ers_len, if_neg h2, if_neg h17]
      rw [has]
      go_enter Tryd.func57, Tryd.ntmps57
      go_wp2
      go_ret
      exact ⟨A0, rfl⟩
theorem rnc_0 : RnC 0 := fun im h => by have := tb_eq im; omega
theorem rnc_all : ∀ k, k ≤ 100000000 → RnC k
  | 0, _ => rnc_0
  | k + 1, h => rnc_step k (rnc_all k (by omega)) (by omega)

/-- The node that a text is. -/
def ndOf (s : ByteArray) : Option PN := if s.size ≤ 65536 then match decF 65537 s with
    | some [y] => if dprI 12 y then none else rdN y
    | _ => none
  else none
theorem ndOf_big {s : ByteArray} (h : 65536 < s.size) : ndOf s = none := by unfold ndOf; rw [if_neg (by omega)]
theorem ndOf_one {s : ByteArray} {y : It} (h : s.size ≤ 65536) (hd : decF 65537 s = some [y]) : ndOf s = if dprI 12 y then none else rdN y := by unfold ndOf; rw [if_pos h, hd]
theorem ndOf_no {s : ByteArray} (h : ∀ y, decF 65537 s ≠ some [y]) : ndOf s = none := by
  unfold ndOf
  split
  · split
    · next y hy => exact absurd hy (h y)
    · rfl
  · rfl
set_option maxRecDepth 20000 in
set_option maxHeartbeats 2000000 in
theorem nodeOf_any (s : ByteArray) (w : World) :
    Calls Tryd.prog 38 #[.string s] w fun e w' => Below w.heap.size w w' ∧ RdP (ndOf s) w e w' := by
  have KD : ∀ w : World, Calls Tryd.prog 56 #[.string s] w fun r w' => Below w.heap.size w w' ∧ ∃ x e, r = .returned (.tuple #[x.val, .int .i64 e]) ∧ ((e ≠ 0 ∧ ndOf s = none) ∨ (e = 0 ∧ ndOf s = rdN (er x) ∧ tb x ≤ 1000000 ∧ inMem w'.heap.size w' x ∧ capI x)) := fun w => by
    by_cases h0 : 65536 < s.size
    · refine (decode_all s w).mono ?_
      rintro r w' ⟨B, x, e, hr, hd, hm⟩
      refine ⟨B, x, e, hr, .inl ⟨?_, ndOf_big h0⟩⟩
      rcases hd with ⟨_, rfl, _⟩ | ⟨h, _⟩ | ⟨h, _⟩
      · decide
      · omega
      · omega
    · refine (C.decode_any s (fun y hy => by have := cnt_one hy; omega) w).mono ?_
      rintro r w' ⟨B, x, e, hr, hd, hm, hc⟩
      refine ⟨B, x, e, hr, ?_⟩
      rcases hd with ⟨h, _, _⟩ | ⟨_, h, rfl, _⟩ | ⟨hs, y, hy, ⟨h1, rfl, _⟩ | ⟨h1, rfl, rfl⟩⟩
      · omega
      · exact .inl ⟨by decide, ndOf_no h⟩
      · exact .inl ⟨by decide, by rw [ndOf_one hs hy, ← deep_er, h1, if_pos rfl]⟩
      · refine .inr ⟨rfl, by rw [ndOf_one hs hy, ← deep_er, h1, if_neg (by decide)], ?_, hm, hc⟩
        have h2 := enc_dec hs hy
        have h3 := tb_enc _ h2.2
        rw [tb_er]
        rw [h2.1] at h3
        omega
  obtain ⟨o, ho⟩ : ∃ o, ndOf s = o := ⟨_, rfl⟩
  rw [ho] at KD ⊢
  clear ho
  go_enter Tryd.func38, Tryd.ntmps38
  go_wp2_with fail
  refine (KD _).mono ?_
  rintro r w1 ⟨B1, x, e, rfl, hcase⟩
  have hxv : x.val = .agg #[.bool x.l, .string x.t, .slice x.a x.xs.length x.c] := rfl
  rw [hxv]
  rcases hcase with ⟨he, rfl⟩ | ⟨rfl, hoe, htb, hm, hc⟩
  · have he' : (e == 0) = false := by rw [beq_eq_false_iff_ne]; exact he
    have he2 : (e != 0) = true := by rw [bne_iff_ne]; exact he
    obtain ⟨q0, e0⟩ : ∃ s, x.l = s := ⟨_, rfl⟩
    obtain ⟨q1, e1⟩ : ∃ s, x.t = s := ⟨_, rfl⟩
    obtain ⟨q2, e2⟩ : ∃ s, x.a = s := ⟨_, rfl⟩
    obtain ⟨q3, e3⟩ : ∃ s, x.xs.length = s := ⟨_, rfl⟩
    obtain ⟨q4, e4⟩ : ∃ s, x.c = s := ⟨_, rfl⟩
    rw [e0, e1, e2, e3, e4]
    clear KD hxv e0 e1 e2 e3 e4
    go_wp2
    go_ret
    exact ⟨B1.alloc B1.size _, rfl⟩
  · have A1 := (Below.refl w1.heap.size w1).alloc (Nat.le_refl _) (.cells #[.bool x.l, .string x.t, .slice x.a x.xs.length x.c] 81)
    have KN := rnc_all 1000000 (by omega) x htb hc w1.heap.size _ A1.size (inMem_below (Nat.le_refl _) A1 _ hm)
    rw [hxv, ← hoe] at KN
    obtain ⟨q0, e0⟩ : ∃ s, x.l = s := ⟨_, rfl⟩
    obtain ⟨q1, e1⟩ : ∃ s, x.t = s := ⟨_, rfl⟩
    obtain ⟨q2, e2⟩ : ∃ s, x.a = s := ⟨_, rfl⟩
    obtain ⟨q3, e3⟩ : ∃ s, x.xs.length = s := ⟨_, rfl⟩
    obtain ⟨q4, e4⟩ : ∃ s, x.c = s := ⟨_, rfl⟩
    rw [e0, e1, e2, e3, e4] at KN A1
    rw [e0, e1, e2, e3, e4]
    have HA : Hid _ := A1
    clear KD hxv e0 e1 e2 e3 e4 hoe hm A1 htb hc
    go_wp2_with fail
    refine KN.mono ?_
    rintro e w2 ⟨B2, hR⟩
    have BW := belowStep B1 B1.size (belowStep HA.out HA.out.size B2)
    have hR2 := hR.mono (w := w) (Nat.le_trans B1.size HA.out.size)
    cases o with
    | none =>
      obtain rfl := hR2
      go_wp2
      go_ret
      exact ⟨BW, rfl⟩
    | some nd =>
      obtain ⟨b', rfl, hb'⟩ := hR2
      go_wp2
      go_ret
      exact ⟨BW, b', rfl, hb'⟩
end Go.Proofs.YtbmapdkcccdmfabDoor
