/- Lemmas: What the package's Force does. No condition but on sizes that no machine has. What the package's Force does, whatever the store. No condition but on sizes that no machine has. What the package's Apply does, whatever the message; what follows of a store behind it: pure. No condition but on sizes that no machine has. The law LightSteps, walked. No condition but on sizes that no machine has. -/
import Derived.Test.YtoddangedbefgaaGreatDoorM1
import Derived.Test.YtoddangedbefgaaGreatDoorM10
import Derived.Test.YtoddangedbefgaaGreatDoorM11
import Derived.Test.YtoddangedbefgaaGreatDoorM12
import Derived.Test.YtoddangedbefgaaGreatDoorM13
import Derived.Test.YtoddangedbefgaaGreatDoorM14
import Derived.Test.YtoddangedbefgaaGreatDoorM15
import Derived.Test.YtoddangedbefgaaGreatDoorM16
import Derived.Test.YtoddangedbefgaaGreatDoorM17
import Derived.Test.YtoddangedbefgaaGreatDoorM18
import Derived.Test.YtoddangedbefgaaGreatDoorM19
import Derived.Test.YtoddangedbefgaaGreatDoorM2
import Derived.Test.YtoddangedbefgaaGreatDoorM20
import Derived.Test.YtoddangedbefgaaGreatDoorM21
import Derived.Test.YtoddangedbefgaaGreatDoorM22
import Derived.Test.YtoddangedbefgaaGreatDoorM23
import Derived.Test.YtoddangedbefgaaGreatDoorM24
import Derived.Test.YtoddangedbefgaaGreatDoorM25
import Derived.Test.YtoddangedbefgaaGreatDoorM26
import Derived.Test.YtoddangedbefgaaGreatDoorM27
import Derived.Test.YtoddangedbefgaaGreatDoorM28
import Derived.Test.YtoddangedbefgaaGreatDoorM29
import Derived.Test.YtoddangedbefgaaGreatDoorM3
import Derived.Test.YtoddangedbefgaaGreatDoorM30
import Derived.Test.YtoddangedbefgaaGreatDoorM31
import Derived.Test.YtoddangedbefgaaGreatDoorM32
import Derived.Test.YtoddangedbefgaaGreatDoorM33
import Derived.Test.YtoddangedbefgaaGreatDoorM34
import Derived.Test.YtoddangedbefgaaGreatDoorM36
import Derived.Test.YtoddangedbefgaaGreatDoorM37
import Derived.Test.YtoddangedbefgaaGreatDoorM4
import Derived.Test.YtoddangedbefgaaGreatDoorM5
import Derived.Test.YtoddangedbefgaaGreatDoorM6
import Derived.Test.YtoddangedbefgaaGreatDoorM7
import Derived.Test.YtoddangedbefgaaGreatDoorM8
import Derived.Test.YtoddangedbefgaaGreatDoorM9
import Derived.Test.YtoddangedbefgaaGreatDoorRows
import Derived.Test.YtoddangedbefgaaGreatDoorM35
import Derived.Test.YtoddangedbefgaaGreatDoorM38
import Derived.Test.YtoddangedbefgaaGreatDoorM39
namespace Go.Proofs.YtoddangedbefgaaGreatDoor
open Go.RowKit Go.Shelf Go.Sort

theorem upV_frU (s : StD) (q : UpP) : upV (frU s) (frQ s q) = up8 (ltV s.best.l q.l) (cmV s.best.c q.c) (slV s.best.nb q.nb) (if decide (s.fin.s < s.best.f.s) = true then ltV s.best.f q.f else ltV s.best.l q.l) (slV s.best.fb q.fb) (.int .u64 (s.best.bits : Int)) (.string s.best.sig) (.int .u64 (s.best.slot : Int)) := by
 rw [upV_up8]
 unfold frU frQ frL
 dsimp only
 congr 1
 by_cases h : s.fin.s < s.best.f.s
 ·rw [if_pos h, if_pos h, decide_eq_true h]; rfl
 ·rw [if_neg h, if_neg h, decide_eq_false h]; rfl
def frP (s : StD) (q : StP) : StP := tkP s (frU s) q (frQ s q.best)
theorem fr_stIn {n : Nat} {W : World} {s : StD} {q : StP} {now : Nat} (hr : rfB s now = false) (h : stIn n W s q) : stIn n W (frS s now) (frP s q) := by
 unfold frS
 rw [if_neg (by rw [hr]; exact Bool.false_ne_true)]
 exact tk_in h (frU_in h.2.2.2.2)
theorem fr_szT {s : StD} {now : Nat} (h : szT s) : szT (frS s now) := by
 unfold frS
 split
 ·exact h
 ·exact tk_sz h (frU_sz h.2.2.2.2)
set_option maxRecDepth 20000 in
set_option maxHeartbeats 8000000 in
theorem force_yes (s : StD) (ok : s.ok) (hz : szT s) (qs : StP) (now : Nat) (hnow : now < 18446744073709551616) (n : Nat) (w : World) (hn : n ≤ w.heap.size) (hp : stIn n w s qs) (hrf : rfB s now = false) :
  Calls Tryz.prog 19 #[.agg (stV s qs).toArray, .int .u64 (now : Int)] w fun e w' => (∃ q', e = .returned (.tuple #[.agg (stV (frS s now) q').toArray, .int .i64 0]) ∧ storG w.heap.size w' (frS s now) q') ∧ Below w.heap.size w w' := by
 have KD := fun (W : World) (hB : Below w.heap.size w W) (hs : w.heap.size ≤ W.heap.size) => copied_any (frS s now) (fr_szT hz) (frP s qs) n W (Nat.le_trans hn hs) (fr_stIn hrf (hp.below (hB.mono hn)))
 have KT := takenOver_any s (frU s) ok (frU_ok ok.2.2.1) qs (frQ s qs.best)
 have eF : frS s now = { tkS s (frU s) with forced := true } := if_neg (by rw [hrf]; exact Bool.false_ne_true)
 have eFV : stV (frS s now) (frP s qs) = st9 (ltV (tkS s (frU s)).fin (frP s qs).fin) (ltV (tkS s (frU s)).new (frP s qs).new) (cmV (tkS s (frU s)).now (frP s qs).now) (cmV (tkS s (frU s)).nxt (frP s qs).nxt) (upV (tkS s (frU s)).best (frP s qs).best) (tkS s (frU s)).has (tkS s (frU s)).last (tkS s (frU s)).this true := by rw [eF]; rfl
 have eTV : stV (tkS s (frU s)) (frP s qs) = st9 (ltV (tkS s (frU s)).fin (frP s qs).fin) (ltV (tkS s (frU s)).new (frP s qs).new) (cmV (tkS s (frU s)).now (frP s qs).now) (cmV (tkS s (frU s)).nxt (frP s qs).nxt) (upV (tkS s (frU s)).best (frP s qs).best) (tkS s (frU s)).has (tkS s (frU s)).last (tkS s (frU s)).this (tkS s (frU s)).forced := rfl
 have h9T := L9_of (tkS s (frU s)) (frP s qs)
 have oT : Hid ((stV (tkS s (frU s)) (frP s qs)).toArray.all (·.oneCell') = true) := show _ from one_arr (stV_one _ _)
 rw [show tkP s (frU s) qs (frQ s qs.best) = frP s qs from rfl] at KT
 rw [upV_frU] at KT
 rw [eFV] at KD
 rw [eTV] at KT oT
 have KA := isAbove_any s.best.f s.fin qs.best.f qs.fin
 have KC := fun c => pickLt_any c (ltV s.best.f qs.best.f).toArray (ltV s.best.l qs.best.l).toArray rfl rfl (one_arr (ltV_one _ _)) (one_arr (ltV_one _ _))
 have h9 := L9_of s qs
 have hu : Hid ((ltV s.best.l qs.best.l).length = 9 ∧ (cmV s.best.c qs.best.c).length = 2 ∧ (ltV s.best.f qs.best.f).length = 9) := show _ from ⟨rfl, rfl, rfl⟩
 have o9 : ∀ v ∈ ltV s.best.f qs.best.f, v.oneCell' = true := ltV_one _ _
 have oL : ∀ v ∈ ltV s.best.l qs.best.l, v.oneCell' = true := ltV_one _ _
 have oU : Hid ((upV s.best qs.best).toArray.all (·.oneCell') = true) := show _ from one_arr (upV_one _ _)
 have a0 : (stV s qs)[0]? = some (.int .u64 (s.fin.s : Int)) := rfl
 rw [stV_st9] at KT a0 ⊢
 rw [upV_up8] at h9 oU
 rw [upV_up8] at KT a0 ⊢
 obtain ⟨hb, h1, h2⟩ : s.has = true ∧ ¬ now ≤ s.fin.s ∧ ¬ now - s.fin.s ≤ 64 := by
  unfold rfB at hrf
  simp only [Bool.or_eq_false_iff, Bool.not_eq_false', decide_eq_false_iff_not] at hrf
  exact ⟨hrf.1.1, hrf.1.2, hrf.2⟩
 rw [hb] at KT a0 ⊢
 have KCn := KC (decide (s.fin.s < s.best.f.s))
 clear KC eF eFV eTV hb hrf
 obtain ⟨f, hf⟩ : ∃ f, s.fin.s = f := ⟨_, rfl⟩
 have HANS : Hid (∃ q, q = frP s qs) := show _ from ⟨_, rfl⟩
 rw [hf] at h1 h2 a0
 obtain ⟨ab, ha⟩ : ∃ n, decide (s.fin.s < s.best.f.s) = n := ⟨_, rfl⟩
 rw [ha] at KA KCn KT
 obtain ⟨XA, hXA⟩ : ∃ L, ltV s.fin qs.fin = L := ⟨_, rfl⟩
 obtain ⟨XB, hXB⟩ : ∃ L, ltV s.new qs.new = L := ⟨_, rfl⟩
 obtain ⟨XC, hXC⟩ : ∃ L, cmV s.now qs.now = L := ⟨_, rfl⟩
 obtain ⟨XD, hXD⟩ : ∃ L, cmV s.nxt qs.nxt = L := ⟨_, rfl⟩
 obtain ⟨UL, hUL⟩ : ∃ L, ltV s.best.l qs.best.l = L := ⟨_, rfl⟩
 obtain ⟨UF, hUF⟩ : ∃ L, ltV s.best.f qs.best.f = L := ⟨_, rfl⟩
 obtain ⟨UC, hUC⟩ : ∃ L, cmV s.best.c qs.best.c = L := ⟨_, rfl⟩
 obtain ⟨u1, hu1⟩ : ∃ L, slV s.best.nb qs.best.nb = L := ⟨_, rfl⟩
 obtain ⟨u2, hu2⟩ : ∃ L, slV s.best.fb qs.best.fb = L := ⟨_, rfl⟩
 obtain ⟨u3, hu3⟩ : ∃ L, (Value.int .u64 (s.best.bits : Int)) = L := ⟨_, rfl⟩
 obtain ⟨u4, hu4⟩ : ∃ L, (Value.string s.best.sig) = L := ⟨_, rfl⟩
 obtain ⟨u5, hu5⟩ : ∃ L, (Value.int .u64 (s.best.slot : Int)) = L := ⟨_, rfl⟩
 obtain ⟨nl, hnl⟩ : ∃ b, s.last = b := ⟨_, rfl⟩
 obtain ⟨nt, hnt⟩ : ∃ b, s.this = b := ⟨_, rfl⟩
 obtain ⟨bf, hbf⟩ : ∃ b, s.forced = b := ⟨_, rfl⟩
 rw [hXA] at KA KT h9 a0 ⊢
 rw [hXB] at KT h9 a0 ⊢
 rw [hXC] at KT h9 a0 ⊢
 rw [hXD] at KT h9 a0 ⊢
 rw [hUL] at KT KCn h9 hu oL oU a0 ⊢
 rw [hUF] at KA KT KCn h9 hu o9 oU a0 ⊢
 rw [hUC] at KT h9 hu oU a0 ⊢
 rw [hu1, hu2, hu3, hu4, hu5] at KT h9 oU a0 ⊢
 rw [hnl, hnt, hbf] at KT a0 ⊢
 obtain ⟨XN, hXN⟩ : ∃ L, (if ab = true then UF else UL) = L := ⟨_, rfl⟩
 have eN : (if ab = true then UF.toArray else UL.toArray) = XN.toArray := by rw [← hXN]; cases ab <;> rfl
 rw [eN] at KCn
 rw [hXN] at KT
 have lXN : XN.length = 9 := by rw [← hXN]; cases ab; exact hu.out.1; exact hu.out.2.2
 have oXN : ∀ v ∈ XN, v.oneCell' = true := by rw [← hXN]; cases ab; exact oL; exact o9
 obtain ⟨FS, hFS⟩ : ∃ x, frS s now = x := ⟨_, rfl⟩
 rw [hFS] at KD ⊢
 obtain ⟨TA, hTA⟩ : ∃ L, ltV (tkS s (frU s)).fin (frP s qs).fin = L := ⟨_, rfl⟩
 obtain ⟨TB, hTB⟩ : ∃ L, ltV (tkS s (frU s)).new (frP s qs).new = L := ⟨_, rfl⟩
 obtain ⟨TC, hTC⟩ : ∃ L, cmV (tkS s (frU s)).now (frP s qs).now = L := ⟨_, rfl⟩
 obtain ⟨TD, hTD⟩ : ∃ L, cmV (tkS s (frU s)).nxt (frP s qs).nxt = L := ⟨_, rfl⟩
 obtain ⟨TE, hTE⟩ : ∃ L, upV (tkS s (frU s)).best (frP s qs).best = L := ⟨_, rfl⟩
 obtain ⟨t1, ht1⟩ : ∃ L, (tkS s (frU s)).has = L := ⟨_, rfl⟩
 obtain ⟨t2, ht2⟩ : ∃ L, (tkS s (frU s)).last = L := ⟨_, rfl⟩
 obtain ⟨t3, ht3⟩ : ∃ L, (tkS s (frU s)).this = L := ⟨_, rfl⟩
 obtain ⟨t4, ht4⟩ : ∃ L, (tkS s (frU s)).forced = L := ⟨_, rfl⟩
 rw [hTA, hTB, hTC, hTD, hTE] at KD KT h9T oT
 rw [ht1, ht2, ht3] at KD KT oT
 rw [ht4] at KT oT
 have wk : IntKind.u64.wrap ((now : Int) - f) = (now : Int) - f := by rw [IntKind.wrap_u64]; omega
 have l1 : ¬ (now : Int) ≤ f := by omega
 have l2 : ¬ (now : Int) - f ≤ 64 := by omega
 clear hXA hXB hXC hXD hUL hUF hUC hu1 hu2 hu3 hu4 hu5 hnl hnt hbf hXN eN hTA hTB hTC hTD hTE ht1 ht2 ht3 ht4 hFS ha hf HANS hp hn hz ok
 obtain ⟨LU, hLU⟩ : ∃ L, up8 UL UC u1 UF u2 u3 u4 u5 = L := ⟨_, rfl⟩
 obtain ⟨L0, hL0⟩ : ∃ L, st9 XA XB XC XD LU true nl nt bf = L := ⟨_, rfl⟩
 rw [hLU] at KT h9 oU a0 ⊢
 have g0 := st9_A (B := XB) (C := XC) (D := XD) (E := LU) (h := true) (l := nl) (t := nt) (f := bf) (A := XA)
 have g4 := st9_E (h := true) (l := nl) (t := nt) (f := bf) h9
 have a47 : (st9 XA XB XC XD LU true nl nt bf)[47]? = some (.bool true) := st9_h h9
 have lS := st9_len (h := true) (l := nl) (t := nt) (f := bf) h9
 rw [hL0] at g0 g4 a47 a0 lS KT ⊢
 have H0 : Hid (_ ∧ _) := ⟨hLU, hL0⟩
 have lU : LU.length = 25 := h9.e
 clear hLU hL0
 obtain ⟨BV, hx, hy, hs⟩ := box2 w (.cells L0.toArray 38) (.cells #[.int .u64 0, .int .u64 0, .string ⟨#[]⟩, .string ⟨#[]⟩, .string ⟨#[]⟩, .string ⟨#[]⟩, .string ⟨#[]⟩, .int .u64 0, .slice none 0 0, .int .u64 0, .int .u64 0, .string ⟨#[]⟩, .string ⟨#[]⟩, .string ⟨#[]⟩, .string ⟨#[]⟩, .string ⟨#[]⟩, .int .u64 0, .slice none 0 0, .slice none 0 0, .string ⟨#[]⟩, .slice none 0 0, .string ⟨#[]⟩, .int .u64 0, .int .u64 0, .string ⟨#[]⟩, .string ⟨#[]⟩, .string ⟨#[]⟩, .string ⟨#[]⟩, .string ⟨#[]⟩, .int .u64 0, .slice none 0 0, .slice none 0 0, .string ⟨#[]⟩, .slice none 0 0, .int .u64 0, .int .u64 0, .string ⟨#[]⟩, .string ⟨#[]⟩, .string ⟨#[]⟩, .string ⟨#[]⟩, .string ⟨#[]⟩, .int .u64 0, .slice none 0 0, .slice none 0 0, .int .u64 0, .string ⟨#[]⟩, .int .u64 0, .bool false, .int .i64 0, .int .i64 0, .bool false] 38)
 obtain ⟨z, hzz⟩ : ∃ z, w.heap.size = z := ⟨_, rfl⟩
 have HZ : Hid (w.heap.size = z) := hzz
 rw [hzz] at BV hx hy hs KD
 have c0 := cell_of_block hx 0 _ a0
 have c47 := cell_of_block hx 47 _ a47
 have RE := range_of_block hx 22 LU g4
 have H9 : Hid (_ ∧ _ ∧ _ ∧ _ ∧ _ ∧ _ ∧ _) := ⟨h9, h9T, oT, oU, lXN, lS, lU⟩
 have HY : Hid (_ ∧ _ ∧ _ ∧ _) := ⟨BV, hx, hy, hs⟩
 clear a0 a47 g4 h9 h9T oT oU lS lU hx hy
 go_enter Tryz.func19, Tryz.ntmps19
 obtain ⟨BV3, hx3, hy3, hb3, hs3⟩ := box3 w (.cells L0.toArray 38) (.cells #[.int .u64 0, .int .u64 0, .string ⟨#[]⟩, .string ⟨#[]⟩, .string ⟨#[]⟩, .string ⟨#[]⟩, .string ⟨#[]⟩, .int .u64 0, .slice none 0 0, .int .u64 0, .int .u64 0, .string ⟨#[]⟩, .string ⟨#[]⟩, .string ⟨#[]⟩, .string ⟨#[]⟩, .string ⟨#[]⟩, .int .u64 0, .slice none 0 0, .slice none 0 0, .string ⟨#[]⟩, .slice none 0 0, .string ⟨#[]⟩, .int .u64 0, .int .u64 0, .string ⟨#[]⟩, .string ⟨#[]⟩, .string ⟨#[]⟩, .string ⟨#[]⟩, .string ⟨#[]⟩, .int .u64 0, .slice none 0 0, .slice none 0 0, .string ⟨#[]⟩, .slice none 0 0, .int .u64 0, .int .u64 0, .string ⟨#[]⟩, .string ⟨#[]⟩, .string ⟨#[]⟩, .string ⟨#[]⟩, .string ⟨#[]⟩, .int .u64 0, .slice none 0 0, .slice none 0 0, .int .u64 0, .string ⟨#[]⟩, .int .u64 0, .bool false, .int .i64 0, .int .i64 0, .bool false] 38) (.cells #[.int .u64 0, .int .u64 0, .string ⟨#[]⟩, .string ⟨#[]⟩, .string ⟨#[]⟩, .string ⟨#[]⟩, .string ⟨#[]⟩, .int .u64 0, .slice none 0 0, .slice none 0 0, .string ⟨#[]⟩, .slice none 0 0, .int .u64 0, .int .u64 0, .string ⟨#[]⟩, .string ⟨#[]⟩, .string ⟨#[]⟩, .string ⟨#[]⟩, .string ⟨#[]⟩, .int .u64 0, .slice none 0 0, .slice none 0 0, .int .u64 0, .string ⟨#[]⟩, .int .u64 0] 36)
 have HZ2 := HZ.out
 rw [HZ2] at BV3 hx3 hy3 hb3 hs3
 have lU := H9.out.2.2.2.2.2.2
 have hQU : Hid (LU.toArray.size = 25) := show _ by rw [List.size_toArray]; exact lU
 have oU := H9.out.2.2.2.1
 have H3 : Hid (_ ∧ _ ∧ _ ∧ _) := ⟨BV3, hx3, hy3, hs3⟩
 clear BV3 hx3 hy3 hs3 HZ2 lU
 go_wp2_with (first | (refine wpList_load_mid rfl 36 _ rfl z 22 rfl _ _ RE Tryz.underlying36 rfl (by rw [H9.out.2.2.2.2.2.2]; kernel_rfl) ?_) | (refine load_mid_wanted (by rfl) 36 _ rfl z 22 rfl _ _ RE Tryz.underlying36 rfl (by rw [H9.out.2.2.2.2.2.2]; kernel_rfl) ?_) | (refine store_row0 rfl rfl 36 _ _ rfl (z + 2) _ rfl rfl 36 _ hb3 (by rw [hQU.out]; kernel_rfl) (by rw [hQU.out]; rfl) oU.out ?_; refine Stp.out ?_))
 refine ⟨?_⟩
 obtain ⟨BV3, hx3, hy3, hs3⟩ := H3.out
 have x1 := Bq.rowOther (show Bq z 38 _ _ from hx3) (show z ≠ z + 2 by omega) LU.toArray
 have y1 := Bq.rowOther (show Bq (z + 1) 38 _ _ from hy3) (show z + 1 ≠ z + 2 by omega) LU.toArray
 have b1 := Bq.row (show Bq (z + 2) 36 _ _ from hb3) LU.toArray
 have s1 : z + 3 ≤ ((((w.alloc (.cells L0.toArray 38)).alloc (.cells #[.int .u64 0, .int .u64 0, .string ⟨#[]⟩, .string ⟨#[]⟩, .string ⟨#[]⟩, .string ⟨#[]⟩, .string ⟨#[]⟩, .int .u64 0, .slice none 0 0, .int .u64 0, .int .u64 0, .string ⟨#[]⟩, .string ⟨#[]⟩, .string ⟨#[]⟩, .string ⟨#[]⟩, .string ⟨#[]⟩, .int .u64 0, .slice none 0 0, .slice none 0 0, .string ⟨#[]⟩, .slice none 0 0, .string ⟨#[]⟩, .int .u64 0, .int .u64 0, .string ⟨#[]⟩, .string ⟨#[]⟩, .string ⟨#[]⟩, .string ⟨#[]⟩, .string ⟨#[]⟩, .int .u64 0, .slice none 0 0, .slice none 0 0, .string ⟨#[]⟩, .slice none 0 0, .int .u64 0, .int .u64 0, .string ⟨#[]⟩, .string ⟨#[]⟩, .string ⟨#[]⟩, .string ⟨#[]⟩, .string ⟨#[]⟩, .int .u64 0, .slice none 0 0, .slice none 0 0, .int .u64 0, .string ⟨#[]⟩, .int .u64 0, .bool false, .int .i64 0, .int .i64 0, .bool false] 38)).alloc (.cells #[.int .u64 0, .int .u64 0, .string ⟨#[]⟩, .string ⟨#[]⟩, .string ⟨#[]⟩, .string ⟨#[]⟩, .string ⟨#[]⟩, .int .u64 0, .slice none 0 0, .slice none 0 0, .string ⟨#[]⟩, .slice none 0 0, .int .u64 0, .int .u64 0, .string ⟨#[]⟩, .string ⟨#[]⟩, .string ⟨#[]⟩, .string ⟨#[]⟩, .string ⟨#[]⟩, .int .u64 0, .slice none 0 0, .slice none 0 0, .int .u64 0, .string ⟨#[]⟩, .int .u64 0] 36)).setRow (z + 2) LU.toArray).heap.size := by rw [size_setRow, hs3]; exact Nat.le_refl _
 have HB1 : Hid (Below z w ((((w.alloc (.cells L0.toArray 38)).alloc (.cells #[.int .u64 0, .int .u64 0, .string ⟨#[]⟩, .string ⟨#[]⟩, .string ⟨#[]⟩, .string ⟨#[]⟩, .string ⟨#[]⟩, .int .u64 0, .slice none 0 0, .int .u64 0, .int .u64 0, .string ⟨#[]⟩, .string ⟨#[]⟩, .string ⟨#[]⟩, .string ⟨#[]⟩, .string ⟨#[]⟩, .int .u64 0, .slice none 0 0, .slice none 0 0, .string ⟨#[]⟩, .slice none 0 0, .string ⟨#[]⟩, .int .u64 0, .int .u64 0, .string ⟨#[]⟩, .string ⟨#[]⟩, .string ⟨#[]⟩, .string ⟨#[]⟩, .string ⟨#[]⟩, .int .u64 0, .slice none 0 0, .slice none 0 0, .string ⟨#[]⟩, .slice none 0 0, .int .u64 0, .int .u64 0, .string ⟨#[]⟩, .string ⟨#[]⟩, .string ⟨#[]⟩, .string ⟨#[]⟩, .string ⟨#[]⟩, .int .u64 0, .slice none 0 0, .slice none 0 0, .int .u64 0, .string ⟨#[]⟩, .int .u64 0, .bool false, .int .i64 0, .int .i64 0, .bool false] 38)).alloc (.cells #[.int .u64 0, .int .u64 0, .string ⟨#[]⟩, .string ⟨#[]⟩, .string ⟨#[]⟩, .string ⟨#[]⟩, .string ⟨#[]⟩, .int .u64 0, .slice none 0 0, .slice none 0 0, .string ⟨#[]⟩, .slice none 0 0, .int .u64 0, .int .u64 0, .string ⟨#[]⟩, .string ⟨#[]⟩, .string ⟨#[]⟩, .string ⟨#[]⟩, .string ⟨#[]⟩, .int .u64 0, .slice none 0 0, .slice none 0 0, .int .u64 0, .string ⟨#[]⟩, .int .u64 0] 36)).setRow (z + 2) LU.toArray)) := below_row BV3 (by omega) _
 obtain ⟨V1, hV1⟩ : ∃ V, (((w.alloc (.cells L0.toArray 38)).alloc (.cells #[.int .u64 0, .int .u64 0, .string ⟨#[]⟩, .string ⟨#[]⟩, .string ⟨#[]⟩, .string ⟨#[]⟩, .string ⟨#[]⟩, .int .u64 0, .slice none 0 0, .int .u64 0, .int .u64 0, .string ⟨#[]⟩, .string ⟨#[]⟩, .string ⟨#[]⟩, .string ⟨#[]⟩, .string ⟨#[]⟩, .int .u64 0, .slice none 0 0, .slice none 0 0, .string ⟨#[]⟩, .slice none 0 0, .string ⟨#[]⟩, .int .u64 0, .int .u64 0, .string ⟨#[]⟩, .string ⟨#[]⟩, .string ⟨#[]⟩, .string ⟨#[]⟩, .string ⟨#[]⟩, .int .u64 0, .slice none 0 0, .slice none 0 0, .string ⟨#[]⟩, .slice none 0 0, .int .u64 0, .int .u64 0, .string ⟨#[]⟩, .string ⟨#[]⟩, .string ⟨#[]⟩, .string ⟨#[]⟩, .string ⟨#[]⟩, .int .u64 0, .slice none 0 0, .slice none 0 0, .int .u64 0, .string ⟨#[]⟩, .int .u64 0, .bool false, .int .i64 0, .int .i64 0, .bool false] 38)).alloc (.cells #[.int .u64 0, .int .u64 0, .string ⟨#[]⟩, .string ⟨#[]⟩, .string ⟨#[]⟩, .string ⟨#[]⟩, .string ⟨#[]⟩, .int .u64 0, .slice none 0 0, .slice none 0 0, .string ⟨#[]⟩, .slice none 0 0, .int .u64 0, .int .u64 0, .string ⟨#[]⟩, .string ⟨#[]⟩, .string ⟨#[]⟩, .string ⟨#[]⟩, .string ⟨#[]⟩, .int .u64 0, .slice none 0 0, .slice none 0 0, .int .u64 0, .string ⟨#[]⟩, .int .u64 0] 36)).setRow (z + 2) LU.toArray = V := ⟨_, rfl⟩
 rw [hV1] at x1 y1 b1 s1 HB1 ⊢
 clear hV1 H3 BV3 hx3 hy3 hb3 hs3 RE c0 c47 hQU oU hzz hs BV l1 l2 wk
 obtain ⟨hLU, hL0⟩ := H0.out
 obtain ⟨h9, h9T, oT, oU, lXN', lS, lU⟩ := H9.out
 rw [← hLU] at b1
 have QF := rangeQ (range_of_block b1 12 UF (up8_F hu.out.1 hu.out.2.1)) (by omega)
 have QL := rangeQ (range_of_block b1 0 UL up8_L) (by omega)
 have QA := rangeQ (range_of_block x1 0 XA (by rw [← hL0]; exact st9_A)) (by omega)
 have c4 := inClass (w := V1) KA
 have c5 := inClass (w := V1) KCn
 have BV := HB1.out
 have lA : Hid (XA.length = 9) := show _ from h9.a
 have HL0 : Hid _ := hL0
 clear h9 hLU hL0 g0
 go_wp2_with fail
 refine region_tail 11 (by kernel_rfl) (by kernel_rfl) ?_
 simp only [List.take_succ_cons, List.take_zero, List.drop_succ_cons, List.drop_zero]
 refine Stp.out ?_
 iterate 1 (refine qs_step (fun K hK => ?_); go_simp; refine hK _ ?_; clear hK K)
 refine quiet_load_S (by kernel_rfl) 29 _ rfl _ _ rfl _ _ QF Tryz.underlying29 rfl (by rw [hu.out.2.2]; kernel_rfl) ?_
 iterate 1 (refine qs_step (fun K hK => ?_); go_simp; refine hK _ ?_; clear hK K)
 refine quiet_load_S (by kernel_rfl) 29 _ rfl _ _ rfl _ _ QA Tryz.underlying29 rfl (by rw [lA.out]; kernel_rfl) ?_
 refine qs_step (fun K hK => ?_)
 go_simp
 apply Exists.intro
 refine ⟨fun _ => ?_, hK _ ?_⟩
 exact c4 _ _
 clear hK K
 iterate 1 (refine qs_step (fun K hK => ?_); go_simp; refine hK _ ?_; clear hK K)
 refine quiet_load_S (by kernel_rfl) 29 _ rfl _ _ rfl _ _ QF Tryz.underlying29 rfl (by rw [hu.out.2.2]; kernel_rfl) ?_
 iterate 1 (refine qs_step (fun K hK => ?_); go_simp; refine hK _ ?_; clear hK K)
 refine quiet_load_S (by kernel_rfl) 29 _ rfl _ _ rfl _ _ QL Tryz.underlying29 rfl (by rw [hu.out.1]; kernel_rfl) ?_
 refine qs_step (fun K hK => ?_)
 go_simp
 apply Exists.intro
 refine ⟨fun _ => ?_, hK _ ?_⟩
 exact c5 _ _
 clear hK K
 iterate 1 (refine qs_step (fun K hK => ?_); go_simp; refine hK _ ?_; clear hK K)
 refine ⟨wpQuiet_nil ?_⟩
 intro V2 hV2
 have cB2 : Below V1.heap.size V1 V2 := by
  obtain ⟨p, rfl⟩ := hV2
  exact below_regrown _ _ _
 have B2 : Below z w V2 := by
  obtain ⟨p, rfl⟩ := hV2
  exact belowStep BV (by have := BV.size; omega) (below_regrown V1 p.d p.os)
 clear hV2
 have x2 := x1.below cB2
 have y2 := y1.below cB2
 have b2 := b1.below cB2
 have s2 : z + 3 ≤ V2.heap.size := by have := cB2.size; omega
 have HB2 : Hid (Below z w V2) := B2
 clear x1 y1 b1 s1 HB1 cB2 B2 BV QF QL QA c4 c5 KA KCn
 have ht : V2.there (z + 2) 12 XN.length := there_of_block b2 (by rw [lXN, up8_len hu.out.1 hu.out.2.1 hu.out.2.2]; omega)
 go_wp2_with (first | (refine store_mid0 rfl rfl 29 _ _ rfl (z + 2) 12 XN rfl rfl ht (by rw [lXN]; kernel_rfl) oXN ?_; refine Stp.out ?_))
 refine ⟨?_⟩
 have x3 : Bq z 38 _ (V2.setCells (z + 2) 12 XN) := (setCells_other (by omega) _ _ _).trans x2
 have y3 : Bq (z + 1) 38 _ (V2.setCells (z + 2) 12 XN) := (setCells_other (by omega) _ _ _).trans y2
 have b3 := up8_putF hu.out.1 hu.out.2.1 hu.out.2.2 lXN b2
 have s3 : z + 3 ≤ (V2.setCells (z + 2) 12 XN).heap.size := by rw [size_setCellsB]; exact s2
 have HB3 : Hid (Below z w (V2.setCells (z + 2) 12 XN)) := below_cells HB2.out (by omega) _
 obtain ⟨V3, hV3⟩ : ∃ V, V2.setCells (z + 2) 12 XN = V := ⟨_, rfl⟩
 rw [hV3] at x3 y3 b3 s3 HB3 ⊢
 clear hV3 x2 y2 b2 s2 HB2 ht
 have lN : Hid ((up8 UL UC u1 XN u2 u3 u4 u5).toArray.size = 25) := show _ by rw [List.size_toArray]; exact up8_len hu.out.1 hu.out.2.1 lXN
 have lS0 : Hid (L0.toArray.size = 51) := show _ by rw [List.size_toArray]; exact lS
 have lT : Hid ((st9 TA TB TC TD TE t1 t2 t3 t4).toArray.size = 51) := show _ by rw [List.size_toArray]; exact st9_len h9T
 obtain ⟨LN, hLN⟩ : ∃ L, (up8 UL UC u1 XN u2 u3 u4 u5).toArray = L := ⟨_, rfl⟩
 rw [hLN] at KT lN b3
 clear hLN
 go_wp2_with (first | (refine wpList_load_row rfl 38 _ rfl z rfl _ _ _ _ x3 Tryz.underlying38 rfl (by rw [lS0.out]; kernel_rfl) ?_) | (refine wpList_load_row rfl 36 _ rfl (z + 2) rfl _ _ _ _ b3 Tryz.underlying36 rfl (by rw [lN.out]; kernel_rfl) ?_))
 refine (KT _).mono ?_
 rintro e V4 ⟨rfl, C⟩
 have x4 := x3.below C
 have y4 := y3.below C
 have s4 : z + 3 ≤ V4.heap.size := by have := C.size; omega
 have HB4 : Hid (Below z w V4) := belowStep HB3.out (by omega) C
 clear C x3 y3 b3 s3 HB3 KT lN lS0
 have oT2 : Hid _ := oT.out
 go_wp2_with (first | (refine store_row0 rfl rfl 38 _ _ rfl z _ rfl rfl 38 _ x4 (by rw [lT.out]; kernel_rfl) (by rw [lT.out, List.size_toArray]; exact lS) oT2.out ?_; refine Stp.out ?_))
 refine ⟨?_⟩
 have x5 := x4.row (st9 TA TB TC TD TE t1 t2 t3 t4).toArray
 have y5 := y4.rowOther (show z + 1 ≠ z by omega) (st9 TA TB TC TD TE t1 t2 t3 t4).toArray
 have s5 : z + 3 ≤ (V4.setRow z (st9 TA TB TC TD TE t1 t2 t3 t4).toArray).heap.size := by rw [size_setRow]; exact s4
 have HB5 : Hid (Below z w (V4.setRow z (st9 TA TB TC TD TE t1 t2 t3 t4).toArray)) := below_row HB4.out (Nat.le_refl _) _
 obtain ⟨V5, hV5⟩ : ∃ V, V4.setRow z (st9 TA TB TC TD TE t1 t2 t3 t4).toArray = V := ⟨_, rfl⟩
 rw [hV5] at x5 y5 s5 HB5 ⊢
 clear hV5 x4 y4 s4 HB4
 have c50 : V5.cell? ⟨z, 50, none⟩ = some (.bool t4) := cell_of_block x5 50 _ (st9_f h9T)
 have f50 : V5.frozen? ⟨z, 50, none⟩ = false := Bq.fr x5 50
 have x6 := st9_putf h9T true x5
 have y6 : Bq (z + 1) 38 _ (V5.setCell ⟨z, 50, none⟩ (.bool true)) := (Below.heap_setCell _ _ _ _ (show z + 1 ≠ z by omega)).trans y5
 have HB6 : Hid (Below z w (V5.setCell ⟨z, 50, none⟩ (.bool true))) := show _ from HB5.out.setCell (p := ⟨z, 50, none⟩) (Nat.le_refl _) _
 have s6 : Hid (z + 3 ≤ (V5.setCell ⟨z, 50, none⟩ (.bool true)).heap.size) := show _ by rw [size_setCell']; exact s5
 have lF : Hid ((st9 TA TB TC TD TE t1 t2 t3 true).toArray.size = 51) := show _ by rw [List.size_toArray]; exact st9_len h9T
 obtain ⟨LF, hLF⟩ : ∃ L, (st9 TA TB TC TD TE t1 t2 t3 true).toArray = L := ⟨_, rfl⟩
 rw [hLF] at KD lF x6
 have KD6 := KD _ HB6.out (Nat.le_trans (Nat.le_add_right z 3) s6.out)
 have HY6 : Hid (Bq (z + 1) 38 _ _) := y6
 clear x5 y5 s5 HB5 hLF y6 KD lT
 go_wp2_with (first | (refine wpList_load_row rfl 38 _ rfl z rfl _ _ _ _ x6 Tryz.underlying38 rfl (by rw [lF.out]; kernel_rfl) ?_))
 refine KD6.mono ?_
 rintro e V7 ⟨⟨q7, rfl, G7⟩, C⟩
 have y7 : Bq (z + 1) 38 _ V7 := (C.block (z + 1) (by have := s6.out; omega)).trans HY6.out
 have BX : Below z w V7 := belowStep HB6.out (by have := s6.out; omega) C
 have hQ : Hid ((stV FS q7).toArray.size = 51) := show _ from rfl
 have hone := stV_one FS q7
 obtain ⟨F9, hF9⟩ : ∃ F, (stV FS q7).toArray = F := ⟨_, rfl⟩
 have HF : Hid (_ ∧ _ ∧ _ ∧ _) := ⟨BX, G7, hF9, one_arr hone⟩
 rw [hF9] at hQ ⊢
 have S6 : Hid (z + 3 ≤ (V5.setCell ⟨z, 50, none⟩ (.bool true)).heap.size) := s6.out
 clear BX G7 hF9 hone C x6 KD6 HB6 HY6 c50 f50 lF s6
 go_wp2_with (refine store_row0 rfl rfl 38 _ _ rfl (z + 1) _ rfl rfl 38 _ y7 (by rw [hQ.out]; kernel_rfl) (by rw [hQ.out]; rfl) (by rw [← HF.out.2.2.1]; exact HF.out.2.2.2) ?_)
 obtain ⟨BX, G7, hF9, -⟩ := HF.out
 refine bodyPost_ret (results_row2 rfl _ _ (z + 1) 38 _ (0, 0) _ rfl (Bq.row (show Bq (z + 1) 38 _ _ from y7) F9) Tryz.underlying38 rfl (by rw [hQ.out]; kernel_rfl) (.int .i64 0) rfl) rfl ⟨⟨q7, by rw [← hF9], ?_⟩, ?_⟩
 ·exact (G7.keep (by rw [size_setRow]; exact Nat.le_refl _) fun b hb _ => setRow_other _ _ _ _ (by have := S6.out; omega)).mono (by have := HZ.out; have := S6.out; omega)
 ·rw [HZ.out]
  exact below_row BX (by omega) F9
end Go.Proofs.YtoddangedbefgaaGreatDoor
namespace Go.Proofs.YtoddangedbefgaaGreatDoor
open Go.RowKit Go.Shelf Go.Sort

theorem force_any (s : StD) (ok : s.ok) (hz : szT s) (qs : StP) (now : Nat) (hnow : now < 18446744073709551616) (n : Nat) (w : World) (hn : n ≤ w.heap.size) (hp : stIn n w s qs) :
  Calls Tryz.prog 19 #[.agg (stV s qs).toArray, .int .u64 (now : Int)] w fun e w' => (∃ q', e = .returned (.tuple #[.agg (stV (frS s now) q').toArray, .int .i64 (frE s now)]) ∧ stIn w'.heap.size w' (frS s now) q') ∧ Below w.heap.size w w' := by
 cases h : rfB s now with
 | true =>
  have e1 : frS s now = s := if_pos h
  have e2 : frE s now = 148 := if_pos h
  rw [e1, e2]
  refine (force_no s hz qs now hnow n w hn hp h).mono ?_
  rintro e w' ⟨⟨q', rfl, g⟩, hb⟩
  exact ⟨⟨q', rfl, g.stIn⟩, hb⟩
 | false =>
  have e2 : frE s now = 0 := if_neg (by rw [h]; exact Bool.false_ne_true)
  rw [e2]
  refine (force_yes s ok hz qs now hnow n w hn hp h).mono ?_
  rintro e w' ⟨⟨q', rfl, g⟩, hb⟩
  exact ⟨⟨q', rfl, g.stIn⟩, hb⟩
end Go.Proofs.YtoddangedbefgaaGreatDoor
namespace Go.Proofs.YtoddangedbefgaaGreatDoor
open Go.RowKit Go.Shelf Go.Sort

theorem apply_any (s : StD) (hs0 : s.ok) (zs : szT s) (d : UpD) (hd : d.ok) (zd : szU d) (p : StP) (q : UpP) (now : Nat) (n : Nat) (w : World) (hL : Ls w) (hn : n ≤ w.heap.size) (hps : stIn n w s p) (hp : upIn n w d q) :
  Calls Tryz.prog 17 #[.agg (stV s p).toArray, .agg (upV d q).toArray, .int .u64 (now : Int)] w fun x w' => (∃ q', x = .returned (.tuple #[.agg (stV (apS s d now) q').toArray, .int .i64 (chE s d now)]) ∧ stIn w'.heap.size w' (apS s d now) q') ∧ Below w.heap.size w w' := by
 by_cases he : chE s d now = 0
 ·rw [he]
  refine (apply_yes s hs0 zs d hd zd p q now n w hL hn hps hp he).mono ?_
  rintro e w' ⟨⟨q', rfl, g⟩, hb⟩
  exact ⟨⟨q', rfl, g.stIn⟩, hb⟩
 ·have e1 : apS s d now = s := if_pos he
  rw [e1]
  refine (apply_no s hs0 zs d hd zd p q now n w hL hn hps hp he).mono ?_
  rintro e w' ⟨⟨q', rfl, g⟩, hb⟩
  exact ⟨⟨q', rfl, g.stIn⟩, hb⟩
/-! ### What is right has these parts right -/
structure ChOk (s : StD) (d : UpD) (now : Nat) : Prop where
 many : sgN d.bits ≠ 0
 ho : ltHo d.l = true
 fl : flB d now = true
 pk : pkB s d = true
 nw : nwB s d = true
 cf : cfE d = 0
 cn : cnE s d = 0
 sg : sgS s d = true
theorem ch_ok {s : StD} {d : UpD} {now : Nat} (h : chE s d now = 0) : ChOk s d now := by
 unfold chE at h
 split at h
 ·omega
 rename_i h1
 split at h
 ·omega
 rename_i h2
 split at h
 ·omega
 rename_i h3
 split at h
 ·omega
 rename_i h4
 split at h
 ·omega
 rename_i h5
 split at h
 ·rename_i h6
  exact absurd h h6
 rename_i h6
 split at h
 ·rename_i h7
  exact absurd h h7
 rename_i h7
 split at h
 ·omega
 rename_i h8
 refine ⟨h1, by simpa using h2, by simpa using h3, by simpa using h4, by simpa using h5, ?_, ?_, by simpa using h8⟩
 ·exact Classical.byContradiction fun g => h6 g
 ·exact Classical.byContradiction fun g => h7 g
theorem fl_slots {d : UpD} {now : Nat} (h : flB d now = true) : d.slot ≤ now ∧ d.l.s < d.slot ∧ d.f.s ≤ d.l.s := by
 unfold flB at h
 simp only [Bool.and_eq_true, decide_eq_true_eq] at h
 omega
theorem pk_slots {s : StD} {d : UpD} (h : pkB s d = true) : d.slot / 64 ≤ s.fin.s / 64 + 1 := by
 unfold pkB at h
 simp only [Bool.or_eq_true, Bool.and_eq_true, decide_eq_true_eq] at h
 omega
/-! ### Taking over -/
theorem tk_fin (s : StD) (d : UpD) : (tkS s d).fin = if s.fin.s < d.f.s then d.f else s.fin := by
 show (if tkU s d = true then d.f else s.fin) = _
 unfold tkU
 by_cases h : s.fin.s < d.f.s
 ·rw [if_pos h, if_pos (decide_eq_true h)]
 ·rw [if_neg h, if_neg (by simp [h])]
theorem tk_new (s : StD) (d : UpD) : (tkS s d).new = d.f ∧ s.new.s < d.f.s ∧ s.fin.s < d.f.s ∨ (tkS s d).new = s.new := by
 show (if tkV s d = true then d.f else s.new) = _ ∧ _ ∨ (if tkV s d = true then d.f else s.new) = _
 cases h : tkV s d with
 | false => exact .inr rfl
 | true =>
  unfold tkV tkU at h
  simp only [Bool.and_eq_true, decide_eq_true_eq] at h
  exact .inl ⟨rfl, h.2, h.1⟩
theorem tk_up (s : StD) (d : UpD) : s.fin.s ≤ (tkS s d).fin.s ∧ s.new.s ≤ (tkS s d).new.s := by
 refine ⟨?_, ?_⟩
 ·rw [tk_fin]
  split
  ·omega
  ·exact Nat.le_refl _
 ·rcases tk_new s d with ⟨h, h1, _⟩ | h
  ·rw [h]; omega
  ·rw [h]; exact Nat.le_refl _
theorem apT_new (s : StD) (d : UpD) : (apT s d).new = d.l ∧ s.new.s < d.l.s ∨ (apT s d).new = s.new := by
 show (if apN s d = true then d.l else s.new) = _ ∧ _ ∨ (if apN s d = true then d.l else s.new) = _
 cases h : apN s d with
 | false => exact .inr rfl
 | true =>
  unfold apN at h
  simp only [Bool.and_eq_true, decide_eq_true_eq] at h
  exact .inl ⟨rfl, h.2⟩
theorem apS_cases (s : StD) (d : UpD) (now : Nat) : chE s d now ≠ 0 ∧ apS s d now = s ∨ chE s d now = 0 ∧ fzB (apT s d) d = true ∧ apS s d now = tkS (apT s d) d ∨ chE s d now = 0 ∧ fzB (apT s d) d = false ∧ apS s d now = apT s d := by
 unfold apS
 by_cases h : chE s d now = 0
 ·rw [if_neg (fun g => g h)]
  cases g : fzB (apT s d) d with
  | true => exact .inr (.inl ⟨h, rfl, if_pos rfl⟩)
  | false => exact .inr (.inr ⟨h, rfl, if_neg (by decide)⟩)
 ·rw [if_pos h]
  exact .inl ⟨h, rfl⟩
theorem apS_steps (s : StD) (d : UpD) (now : Nat) : s.fin.s ≤ (apS s d now).fin.s ∧ s.new.s ≤ (apS s d now).new.s ∧ (apS s d now).fin.s / 64 ≤ s.fin.s / 64 + 1 ∧ (apS s d now).forced = s.forced := by
 rcases apS_cases s d now with ⟨_, e⟩ | ⟨h, _, e⟩ | ⟨h, _, e⟩
 ·rw [e]
  exact ⟨Nat.le_refl _, Nat.le_refl _, by omega, rfl⟩
 ·have c := ch_ok h
  have f := fl_slots c.fl
  have p := pk_slots c.pk
  have u := tk_up (apT s d) d
  have n : s.new.s ≤ (apT s d).new.s := by
   rcases apT_new s d with ⟨g, g1⟩ | g
   ·rw [g]; omega
   ·rw [g]; exact Nat.le_refl _
  have hf : (apT s d).fin = s.fin := rfl
  rw [e]
  refine ⟨u.1, Nat.le_trans n u.2, ?_, rfl⟩
  rw [tk_fin, hf]
  split
  ·omega
  ·omega
 ·have n : s.new.s ≤ (apT s d).new.s := by
   rcases apT_new s d with ⟨g, g1⟩ | g
   ·rw [g]; omega
   ·rw [g]; exact Nat.le_refl _
  rw [e]
  exact ⟨Nat.le_refl _, n, by show s.fin.s / 64 ≤ _; omega, rfl⟩
theorem frS_steps (s : StD) (now : Nat) : s.fin.s ≤ (frS s now).fin.s ∧ s.new.s ≤ (frS s now).new.s := by
 unfold frS
 split
 ·exact ⟨Nat.le_refl _, Nat.le_refl _⟩
 ·exact tk_up s (frU s)
end Go.Proofs.YtoddangedbefgaaGreatDoor
namespace Go.Proofs.YtoddangedbefgaaGreatDoor
open Go.RowKit Go.Shelf Go.Sort

set_option maxRecDepth 20000 in
set_option maxHeartbeats 8000000 in
theorem lightsteps_nat (s : StD) (d : UpD) (now : Nat) (hs0 : s.ok) (hd : d.ok) (zs : szT s) (zd : szU d) (p : StP) (q : UpP) (w : World) (hL : Ls w) (hps : stIn w.heap.size w s p) (hp : upIn w.heap.size w d q) (hnow : now < 18446744073709551616) :
  Calls Tryz.prog 8 #[.agg (stV s p).toArray, .agg (upV d q).toArray, .int .u64 (now : Int)] w fun e w' => e = .returned (.bool true) ∧ Below w.heap.size w w' := by
 have KS := fun (W : World) (hB : Below w.heap.size w W) => shown14_any W (hL.s.below hB)
 have K1 := fun (W : World) (hB : Below w.heap.size w W) (hs : w.heap.size ≤ W.heap.size) => apply_any s hs0 zs d hd zd p q now w.heap.size W (hL.below hB) hs (hps.below hB) (hp.below hB)
 have sx : szT (apS s d now) := apS_sz zs zd
 have lgX := lgT_sz sx
 have lgS := lgT_sz zs
 have lgU_ := lgU_sz zd
 have K2 := fun (W : World) (hB : Below w.heap.size w W) (hs : w.heap.size ≤ W.heap.size) => force_any s hs0 zs p now hnow w.heap.size W hs (hps.below hB)
 have Ka := fun (qx : StP) (W : World) (hB : Below w.heap.size w W) (hs : w.heap.size ≤ W.heap.size) (hx : stIn W.heap.size W (apS s d now) qx) => sameSt_any (apS s d now) s lgX lgS qx p W.heap.size W (Nat.le_refl _) hx ((hps.below hB).up hs)
 have Kb := fun (qx : StP) (W : World) (hB : Below w.heap.size w W) (hs : w.heap.size ≤ W.heap.size) (hx : stIn W.heap.size W (frS s now) qx) => sameSt_any (frS s now) s (lgT_sz (fr_szT zs)) lgS qx p W.heap.size W (Nat.le_refl _) hx ((hps.below hB).up hs)
 have fa : chE s d now ≠ 0 → eqSt (apS s d now) s = true := fun h => (eqSt_iff _ _).2 (if_pos h)
 have fb : frE s now ≠ 0 → eqSt (frS s now) s = true := fun h => by
  refine (eqSt_iff _ _).2 ?_
  unfold frE at h
  unfold frS
  split at h
  ·rename_i g
   exact if_pos g
  ·exact absurd rfl h
 have fc : chE s d now = 0 → d.slot ≤ now := fun h => (fl_slots (ch_ok h).fl).1
 obtain ⟨f1, f2, f3, f4⟩ := apS_steps s d now
 obtain ⟨f5, f6⟩ := frS_steps s now
 have okx : (apS s d now).ok := apS_ok hs0 hd
 have bx : (apS s d now).fin.s < 18446744073709551616 := okx.1.1
 have bs : s.fin.s < 18446744073709551616 := hs0.1.1
 have a0 : (stV s p)[0]? = some (.int .u64 (s.fin.s : Int)) := rfl
 have a9 : (stV s p)[9]? = some (.int .u64 (s.new.s : Int)) := rfl
 have a50 : (stV s p)[50]? = some (.bool s.forced) := rfl
 have u24 : (upV d q)[24]? = some (.int .u64 (d.slot : Int)) := rfl
 have HLn : Hid ((stV s p).length = 51 ∧ (upV d q).length = 25) := show _ from ⟨rfl, rfl⟩
 obtain ⟨E, hE⟩ : ∃ x, chE s d now = x := ⟨_, rfl⟩
 rw [hE] at K1 fa fc
 obtain ⟨FE, hFE⟩ : ∃ x, frE s now = x := ⟨_, rfl⟩
 rw [hFE] at K2 fb
 obtain ⟨ba, hba⟩ : ∃ x, eqSt (apS s d now) s = x := ⟨_, rfl⟩
 obtain ⟨bb, hbb⟩ : ∃ x, eqSt (frS s now) s = x := ⟨_, rfl⟩
 rw [hba] at Ka fa
 rw [hbb] at Kb fb
 obtain ⟨xs, hxs⟩ : ∃ n, (apS s d now).fin.s = n := ⟨_, rfl⟩
 obtain ⟨xn, hxn⟩ : ∃ n, (apS s d now).new.s = n := ⟨_, rfl⟩
 obtain ⟨ys, hys⟩ : ∃ n, (frS s now).fin.s = n := ⟨_, rfl⟩
 obtain ⟨yn, hyn⟩ : ∃ n, (frS s now).new.s = n := ⟨_, rfl⟩
 obtain ⟨xf, hxf⟩ : ∃ n, (apS s d now).forced = n := ⟨_, rfl⟩
 obtain ⟨ss, hss⟩ : ∃ n, s.fin.s = n := ⟨_, rfl⟩
 obtain ⟨sn, hsn⟩ : ∃ n, s.new.s = n := ⟨_, rfl⟩
 obtain ⟨sl, hsl⟩ : ∃ n, d.slot = n := ⟨_, rfl⟩
 rw [hxs, hss] at f1 f3
 rw [hxn, hsn] at f2
 rw [hys, hss] at f5
 rw [hyn, hsn] at f6
 rw [hxf] at f4
 rw [hxs] at bx
 rw [hss] at bs a0
 rw [hsn] at a9
 rw [← f4] at a50
 rw [hsl] at fc u24
 obtain ⟨X, hX⟩ : ∃ x, apS s d now = x := ⟨_, rfl⟩
 obtain ⟨Y, hY⟩ : ∃ x, frS s now = x := ⟨_, rfl⟩
 rw [hX] at K1 Ka hxs hxn hxf
 rw [hY] at K2 Kb hys hyn
 obtain ⟨xq, hxq⟩ : ∃ n, xs / 64 = n := ⟨_, rfl⟩
 obtain ⟨sq, hsq⟩ : ∃ n, ss / 64 = n := ⟨_, rfl⟩
 rw [hxq, hsq] at f3
 have w1 : IntKind.u64.wrap ((xs : Int) / 64) = (xq : Int) := by rw [IntKind.wrap_u64]; omega
 have w2 : IntKind.u64.wrap ((ss : Int) / 64) = (sq : Int) := by rw [IntKind.wrap_u64]; omega
 have w3 : IntKind.u64.wrap ((sq : Int) + 1) = (sq : Int) + 1 := by rw [IntKind.wrap_u64]; omega
 have l1 : ¬ (xs : Int) < ss := by omega
 have l2 : ¬ (xn : Int) < sn := by omega
 have l3 : ¬ (ys : Int) < ss := by omega
 have l4 : ¬ (yn : Int) < sn := by omega
 have l5 : (xq : Int) ≤ (sq : Int) + 1 := by omega
 have HF : Hid (_ ∧ _ ∧ _) := ⟨fa, fb, fc⟩
 have HN : Hid (_ ∧ _ ∧ _ ∧ _ ∧ _ ∧ _ ∧ _ ∧ _) := ⟨w1, w2, w3, l1, l2, l3, l4, l5⟩
 obtain ⟨LS, hLS⟩ : ∃ L, stV s p = L := ⟨_, rfl⟩
 obtain ⟨LU, hLU⟩ : ∃ L, upV d q = L := ⟨_, rfl⟩
 rw [hLS] at K1 K2 Ka Kb a0 a9 a50 HLn ⊢
 rw [hLU] at K1 u24 HLn ⊢
 clear hE hFE hba hbb hX hY hLS hLU hss hsn hsl hxq hsq okx sx lgX lgS lgU_ hL hps hp hs0 hd zs zd fa fb fc f1 f2 f3 f4 f5 f6 w1 w2 w3 l1 l2 l3 l4 l5 bx bs
 obtain ⟨B1, xS, xU, hs⟩ := box2 w (.cells LS.toArray 38) (.cells LU.toArray 36)
 obtain ⟨z, hz⟩ : ∃ z, w.heap.size = z := ⟨_, rfl⟩
 have HZ : Hid (w.heap.size = z) := hz
 rw [hz] at B1 xS xU hs KS K1 K2 Ka Kb
 go_enter Tryz.func8, Tryz.ntmps8
 go_wp2_with fail
 refine (KS _ B1).mono ?_
 rintro e V1 ⟨rfl, C⟩
 have x1 : Bq z 38 LS.toArray V1 := (C.block z (by omega)).trans xS
 have y1 : Bq (z + 1) 36 LU.toArray V1 := (C.block (z + 1) (by omega)).trans xU
 have BV1 := belowStep B1 (by omega) C
 have s1 : z + 2 ≤ V1.heap.size := by have := C.size; omega
 clear C KS xS xU hs B1 hz
 have RS := range_all x1
 have RU := range_all y1
 go_wp2_with (first | (refine wpList_load_mid rfl 38 _ rfl z 0 rfl _ _ RS Tryz.underlying38 rfl (by rw [HLn.out.1]; kernel_rfl) ?_) | (refine load_mid_wanted (by rfl) 38 _ rfl z 0 rfl _ _ RS Tryz.underlying38 rfl (by rw [HLn.out.1]; kernel_rfl) ?_) | (refine wpList_load_mid rfl 36 _ rfl (z + 1) 0 rfl _ _ RU Tryz.underlying36 rfl (by rw [HLn.out.2]; kernel_rfl) ?_) | (refine load_mid_wanted (by rfl) 36 _ rfl (z + 1) 0 rfl _ _ RU Tryz.underlying36 rfl (by rw [HLn.out.2]; kernel_rfl) ?_))
 refine (K1 _ BV1 (by omega)).mono ?_
 rintro e V2 ⟨⟨qx, rfl, gx⟩, C⟩
 have x2 := x1.below C
 have y2 := y1.below C
 have BV2 := belowStep BV1 (by omega) C
 have s2 : z + 2 ≤ V2.heap.size := by have := C.size; omega
 clear C K1 RS RU x1 y1 BV1 s1
 have hQ : Hid ((stV X qx).toArray.size = 51) := show _ from rfl
 have hO : Hid ((stV X qx).toArray.all (·.oneCell') = true) := show _ from one_arr (stV_one _ _)
 have c0 : (stV X qx)[0]? = some (.int .u64 (X.fin.s : Int)) := rfl
 have c9 : (stV X qx)[9]? = some (.int .u64 (X.new.s : Int)) := rfl
 have c50 : (stV X qx)[50]? = some (.bool X.forced) := rfl
 rw [hxs] at c0
 rw [hxn] at c9
 rw [hxf] at c50
 have lX : Hid ((stV X qx).length = 51) := show _ from rfl
 have Ka := Ka qx
 obtain ⟨LX, hLX⟩ : ∃ L, stV X qx = L := ⟨_, rfl⟩
 rw [hLX] at hQ hO c0 c9 c50 lX Ka
 rw [hLX]
 clear hLX hxs hxn hxf
 obtain ⟨BA, nA, hsA⟩ := box1 V2 (.cells #[.int .u64 0, .int .u64 0, .string ⟨#[]⟩, .string ⟨#[]⟩, .string ⟨#[]⟩, .string ⟨#[]⟩, .string ⟨#[]⟩, .int .u64 0, .slice none 0 0, .int .u64 0, .int .u64 0, .string ⟨#[]⟩, .string ⟨#[]⟩, .string ⟨#[]⟩, .string ⟨#[]⟩, .string ⟨#[]⟩, .int .u64 0, .slice none 0 0, .slice none 0 0, .string ⟨#[]⟩, .slice none 0 0, .string ⟨#[]⟩, .int .u64 0, .int .u64 0, .string ⟨#[]⟩, .string ⟨#[]⟩, .string ⟨#[]⟩, .string ⟨#[]⟩, .string ⟨#[]⟩, .int .u64 0, .slice none 0 0, .slice none 0 0, .string ⟨#[]⟩, .slice none 0 0, .int .u64 0, .int .u64 0, .string ⟨#[]⟩, .string ⟨#[]⟩, .string ⟨#[]⟩, .string ⟨#[]⟩, .string ⟨#[]⟩, .int .u64 0, .slice none 0 0, .slice none 0 0, .int .u64 0, .string ⟨#[]⟩, .int .u64 0, .bool false, .int .i64 0, .int .i64 0, .bool false] 38)
 have HV : Hid (_ ∧ _ ∧ _ ∧ _ ∧ _ ∧ _ ∧ _) := ⟨BA, hsA, x2, y2, s2, BV2, gx⟩
 clear BA hsA x2 y2 s2 BV2 gx
 go_wp2_with (first | (refine store_row0 rfl rfl 38 _ _ rfl V2.heap.size _ rfl rfl 38 _ nA (by rw [hQ.out]; kernel_rfl) (by rw [hQ.out]; rfl) hO.out ?_; refine Stp.out ?_))
 refine ⟨?_⟩
 obtain ⟨BA, hsA, x2, y2, s2, BV2, gx⟩ := HV.out
 have v3 := Bq.row (show Bq V2.heap.size 38 _ _ from nA) LX.toArray
 have C := below_row BA (Nat.le_refl _) LX.toArray
 have x3 := x2.below C
 have y3 := y2.below C
 have BV3 := belowStep BV2 (by omega) C
 have g3 := gx.below C
 have s3 : V2.heap.size + 1 ≤ ((V2.alloc (.cells #[.int .u64 0, .int .u64 0, .string ⟨#[]⟩, .string ⟨#[]⟩, .string ⟨#[]⟩, .string ⟨#[]⟩, .string ⟨#[]⟩, .int .u64 0, .slice none 0 0, .int .u64 0, .int .u64 0, .string ⟨#[]⟩, .string ⟨#[]⟩, .string ⟨#[]⟩, .string ⟨#[]⟩, .string ⟨#[]⟩, .int .u64 0, .slice none 0 0, .slice none 0 0, .string ⟨#[]⟩, .slice none 0 0, .string ⟨#[]⟩, .int .u64 0, .int .u64 0, .string ⟨#[]⟩, .string ⟨#[]⟩, .string ⟨#[]⟩, .string ⟨#[]⟩, .string ⟨#[]⟩, .int .u64 0, .slice none 0 0, .slice none 0 0, .string ⟨#[]⟩, .slice none 0 0, .int .u64 0, .int .u64 0, .string ⟨#[]⟩, .string ⟨#[]⟩, .string ⟨#[]⟩, .string ⟨#[]⟩, .string ⟨#[]⟩, .int .u64 0, .slice none 0 0, .slice none 0 0, .int .u64 0, .string ⟨#[]⟩, .int .u64 0, .bool false, .int .i64 0, .int .i64 0, .bool false] 38)).setRow V2.heap.size LX.toArray).heap.size := by rw [size_setRow, hsA]; exact Nat.le_refl _
 obtain ⟨V3, hV3⟩ : ∃ V, (V2.alloc (.cells #[.int .u64 0, .int .u64 0, .string ⟨#[]⟩, .string ⟨#[]⟩, .string ⟨#[]⟩, .string ⟨#[]⟩, .string ⟨#[]⟩, .int .u64 0, .slice none 0 0, .int .u64 0, .int .u64 0, .string ⟨#[]⟩, .string ⟨#[]⟩, .string ⟨#[]⟩, .string ⟨#[]⟩, .string ⟨#[]⟩, .int .u64 0, .slice none 0 0, .slice none 0 0, .string ⟨#[]⟩, .slice none 0 0, .string ⟨#[]⟩, .int .u64 0, .int .u64 0, .string ⟨#[]⟩, .string ⟨#[]⟩, .string ⟨#[]⟩, .string ⟨#[]⟩, .string ⟨#[]⟩, .int .u64 0, .slice none 0 0, .slice none 0 0, .string ⟨#[]⟩, .slice none 0 0, .int .u64 0, .int .u64 0, .string ⟨#[]⟩, .string ⟨#[]⟩, .string ⟨#[]⟩, .string ⟨#[]⟩, .string ⟨#[]⟩, .int .u64 0, .slice none 0 0, .slice none 0 0, .int .u64 0, .string ⟨#[]⟩, .int .u64 0, .bool false, .int .i64 0, .int .i64 0, .bool false] 38)).setRow V2.heap.size LX.toArray = V := ⟨_, rfl⟩
 rw [hV3] at v3 x3 y3 BV3 g3 s3 ⊢
 obtain ⟨y, hy⟩ : ∃ y, V2.heap.size = y := ⟨_, rfl⟩
 rw [hy] at v3 g3 s3 s2 ⊢
 have hyz : Hid (z + 2 ≤ y) := s2
 clear hV3 hy BA hsA nA HV x2 y2 s2 BV2 gx C
 have R1 := range_all x3
 go_wp2_with (first | (refine wpList_load_mid rfl 38 _ rfl z 0 rfl _ _ R1 Tryz.underlying38 rfl (by rw [HLn.out.1]; kernel_rfl) ?_) | (refine load_mid_wanted (by rfl) 38 _ rfl z 0 rfl _ _ R1 Tryz.underlying38 rfl (by rw [HLn.out.1]; kernel_rfl) ?_))
 refine (K2 _ BV3 (by have := hyz.out; omega)).mono ?_
 rintro e V4 ⟨⟨qy, rfl, gy⟩, C⟩
 have x4 := x3.below C
 have y4 := y3.below C
 have v4 := v3.below C
 have g4 := g3.below (C.mono (by omega))
 have BV4 := belowStep BV3 (by have := hyz.out; omega) C
 have s4 : y + 1 ≤ V4.heap.size := by have := C.size; omega
 clear C x3 y3 v3 g3 BV3 s3
 clear R1 K2
 have hQ2 : Hid ((stV Y qy).toArray.size = 51) := show _ from rfl
 have hO2 : Hid ((stV Y qy).toArray.all (·.oneCell') = true) := show _ from one_arr (stV_one _ _)
 have d0 : (stV Y qy)[0]? = some (.int .u64 (Y.fin.s : Int)) := rfl
 have d9 : (stV Y qy)[9]? = some (.int .u64 (Y.new.s : Int)) := rfl
 rw [hys] at d0
 rw [hyn] at d9
 have lY : Hid ((stV Y qy).length = 51) := show _ from rfl
 have Kb := Kb qy
 obtain ⟨LY, hLY⟩ : ∃ L, stV Y qy = L := ⟨_, rfl⟩
 rw [hLY] at hQ2 hO2 d0 d9 lY Kb
 rw [hLY]
 clear hLY hys hyn
 obtain ⟨BA, nA, hsA⟩ := box1 V4 (.cells #[.int .u64 0, .int .u64 0, .string ⟨#[]⟩, .string ⟨#[]⟩, .string ⟨#[]⟩, .string ⟨#[]⟩, .string ⟨#[]⟩, .int .u64 0, .slice none 0 0, .int .u64 0, .int .u64 0, .string ⟨#[]⟩, .string ⟨#[]⟩, .string ⟨#[]⟩, .string ⟨#[]⟩, .string ⟨#[]⟩, .int .u64 0, .slice none 0 0, .slice none 0 0, .string ⟨#[]⟩, .slice none 0 0, .string ⟨#[]⟩, .int .u64 0, .int .u64 0, .string ⟨#[]⟩, .string ⟨#[]⟩, .string ⟨#[]⟩, .string ⟨#[]⟩, .string ⟨#[]⟩, .int .u64 0, .slice none 0 0, .slice none 0 0, .string ⟨#[]⟩, .slice none 0 0, .int .u64 0, .int .u64 0, .string ⟨#[]⟩, .string ⟨#[]⟩, .string ⟨#[]⟩, .string ⟨#[]⟩, .string ⟨#[]⟩, .int .u64 0, .slice none 0 0, .slice none 0 0, .int .u64 0, .string ⟨#[]⟩, .int .u64 0, .bool false, .int .i64 0, .int .i64 0, .bool false] 38)
 have HV : Hid (_ ∧ _ ∧ _ ∧ _ ∧ _ ∧ _ ∧ _ ∧ _ ∧ _) := ⟨BA, hsA, x4, y4, v4, g4, BV4, s4, gy⟩
 clear BA hsA x4 y4 v4 g4 BV4 s4 gy
 go_wp2_with (first | (refine store_row0 rfl rfl 38 _ _ rfl V4.heap.size _ rfl rfl 38 _ nA (by rw [hQ2.out]; kernel_rfl) (by rw [hQ2.out]; rfl) hO2.out ?_; refine Stp.out ?_))
 refine ⟨?_⟩
 obtain ⟨BA, hsA, x4, y4, v4, g4, BV4, s4, gy⟩ := HV.out
 have r5 := Bq.row (show Bq V4.heap.size 38 _ _ from nA) LY.toArray
 have C := below_row BA (Nat.le_refl _) LY.toArray
 have m5 := gy.below C
 have t5 : V4.heap.size + 1 ≤ ((V4.alloc (.cells #[.int .u64 0, .int .u64 0, .string ⟨#[]⟩, .string ⟨#[]⟩, .string ⟨#[]⟩, .string ⟨#[]⟩, .string ⟨#[]⟩, .int .u64 0, .slice none 0 0, .int .u64 0, .int .u64 0, .string ⟨#[]⟩, .string ⟨#[]⟩, .string ⟨#[]⟩, .string ⟨#[]⟩, .string ⟨#[]⟩, .int .u64 0, .slice none 0 0, .slice none 0 0, .string ⟨#[]⟩, .slice none 0 0, .string ⟨#[]⟩, .int .u64 0, .int .u64 0, .string ⟨#[]⟩, .string ⟨#[]⟩, .string ⟨#[]⟩, .string ⟨#[]⟩, .string ⟨#[]⟩, .int .u64 0, .slice none 0 0, .slice none 0 0, .string ⟨#[]⟩, .slice none 0 0, .int .u64 0, .int .u64 0, .string ⟨#[]⟩, .string ⟨#[]⟩, .string ⟨#[]⟩, .string ⟨#[]⟩, .string ⟨#[]⟩, .int .u64 0, .slice none 0 0, .slice none 0 0, .int .u64 0, .string ⟨#[]⟩, .int .u64 0, .bool false, .int .i64 0, .int .i64 0, .bool false] 38)).setRow V4.heap.size LY.toArray).heap.size := by rw [size_setRow, hsA]; exact Nat.le_refl _
 have x5 := x4.below C
 have y5 := y4.below C
 have v5 := v4.below C
 have g5 := g4.below (C.mono (by omega))
 have BV5 := belowStep BV4 (by have := hyz.out; omega) C
 have s5 : y + 1 ≤ ((V4.alloc (.cells #[.int .u64 0, .int .u64 0, .string ⟨#[]⟩, .string ⟨#[]⟩, .string ⟨#[]⟩, .string ⟨#[]⟩, .string ⟨#[]⟩, .int .u64 0, .slice none 0 0, .int .u64 0, .int .u64 0, .string ⟨#[]⟩, .string ⟨#[]⟩, .string ⟨#[]⟩, .string ⟨#[]⟩, .string ⟨#[]⟩, .int .u64 0, .slice none 0 0, .slice none 0 0, .string ⟨#[]⟩, .slice none 0 0, .string ⟨#[]⟩, .int .u64 0, .int .u64 0, .string ⟨#[]⟩, .string ⟨#[]⟩, .string ⟨#[]⟩, .string ⟨#[]⟩, .string ⟨#[]⟩, .int .u64 0, .slice none 0 0, .slice none 0 0, .string ⟨#[]⟩, .slice none 0 0, .int .u64 0, .int .u64 0, .string ⟨#[]⟩, .string ⟨#[]⟩, .string ⟨#[]⟩, .string ⟨#[]⟩, .string ⟨#[]⟩, .int .u64 0, .slice none 0 0, .slice none 0 0, .int .u64 0, .string ⟨#[]⟩, .int .u64 0, .bool false, .int .i64 0, .int .i64 0, .bool false] 38)).setRow V4.heap.size LY.toArray).heap.size := Nat.le_trans s4 (Nat.le_trans (Nat.le_succ _) t5)
 obtain ⟨V5, hV5⟩ : ∃ V, (V4.alloc (.cells #[.int .u64 0, .int .u64 0, .string ⟨#[]⟩, .string ⟨#[]⟩, .string ⟨#[]⟩, .string ⟨#[]⟩, .string ⟨#[]⟩, .int .u64 0, .slice none 0 0, .int .u64 0, .int .u64 0, .string ⟨#[]⟩, .string ⟨#[]⟩, .string ⟨#[]⟩, .string ⟨#[]⟩, .string ⟨#[]⟩, .int .u64 0, .slice none 0 0, .slice none 0 0, .string ⟨#[]⟩, .slice none 0 0, .string ⟨#[]⟩, .int .u64 0, .int .u64 0, .string ⟨#[]⟩, .string ⟨#[]⟩, .string ⟨#[]⟩, .string ⟨#[]⟩, .string ⟨#[]⟩, .int .u64 0, .slice none 0 0, .slice none 0 0, .string ⟨#[]⟩, .slice none 0 0, .int .u64 0, .int .u64 0, .string ⟨#[]⟩, .string ⟨#[]⟩, .string ⟨#[]⟩, .string ⟨#[]⟩, .string ⟨#[]⟩, .int .u64 0, .slice none 0 0, .slice none 0 0, .int .u64 0, .string ⟨#[]⟩, .int .u64 0, .bool false, .int .i64 0, .int .i64 0, .bool false] 38)).setRow V4.heap.size LY.toArray = V := ⟨_, rfl⟩
 rw [hV5] at r5 m5 t5 x5 y5 v5 g5 BV5 s5 ⊢
 obtain ⟨y2, hy2⟩ : ∃ y, V4.heap.size = y := ⟨_, rfl⟩
 rw [hy2] at r5 m5 t5 ⊢
 clear hV5 hy2 BA hsA nA HV x4 y4 v4 g4 BV4 s4 gy C
 by_cases h1 : E = 0
 ·subst h1
  clear Ka
  by_cases h2 : FE = 0
  ·subst h2
   clear Kb
   have p0 : V5.cell? ⟨y, 0, none⟩ = some (.int .u64 (xs : Int)) := cell_of_block v5 0 _ c0
   have p9 : V5.cell? ⟨y, 9, none⟩ = some (.int .u64 (xn : Int)) := cell_of_block v5 9 _ c9
   have p50 : V5.cell? ⟨y, 50, none⟩ = some (.bool xf) := cell_of_block v5 50 _ c50
   have o0 : V5.cell? ⟨y2, 0, none⟩ = some (.int .u64 (ys : Int)) := cell_of_block r5 0 _ d0
   have o9 : V5.cell? ⟨y2, 9, none⟩ = some (.int .u64 (yn : Int)) := cell_of_block r5 9 _ d9
   have n0 : V5.cell? ⟨z, 0, none⟩ = some (.int .u64 (ss : Int)) := cell_of_block x5 0 _ a0
   have n9 : V5.cell? ⟨z, 9, none⟩ = some (.int .u64 (sn : Int)) := cell_of_block x5 9 _ a9
   have n50 : V5.cell? ⟨z, 50, none⟩ = some (.bool xf) := cell_of_block x5 50 _ a50
   have n24 : V5.cell? ⟨z + 1, 24, none⟩ = some (.int .u64 (sl : Int)) := cell_of_block y5 24 _ u24
   obtain ⟨w1, w2, w3, l1, l2, l3, l4, l5⟩ := HN.out
   have l6 : (sl : Int) ≤ now := Int.ofNat_le.2 (by first | exact HF.out.2.2 rfl | simpa using HF.out.2.2)
   have HB : Hid _ := BV5
   clear x5 y5 v5 g5 r5 m5 BV5 s5 t5 a0 a9 a50 c0 c9 c50 d0 d9 u24 HF HN
   cases xf with
   | false =>
    go_wp2
    go_ret
    rw [HZ.out]
    exact ⟨rfl, HB.out⟩
   | true =>
    go_wp2
    go_ret
    rw [HZ.out]
    exact ⟨rfl, HB.out⟩
  ·obtain rfl : bb = true := HF.out.2.1 h2
   have ef : (FE == 0) = false := by rw [beq_eq_false_iff_ne]; exact h2
   have eg : (FE != 0) = true := by rw [bne, ef]; rfl
   clear h2
   have R1 := r5
   have R2 := x5
   go_wp2_with (first | (refine wpList_load_row rfl 38 _ rfl y2 rfl _ _ _ _ R1 Tryz.underlying38 rfl (by rw [List.size_toArray, lY.out]; kernel_rfl) ?_) | (refine wpList_load_row rfl 38 _ rfl z rfl _ _ _ _ R2 Tryz.underlying38 rfl (by rw [List.size_toArray, HLn.out.1]; kernel_rfl) ?_) | (refine load_mid_wanted (by rfl) 38 _ rfl y2 0 rfl _ _ (range_all R1) Tryz.underlying38 rfl (by rw [lY.out]; kernel_rfl) ?_) | (refine load_mid_wanted (by rfl) 38 _ rfl z 0 rfl _ _ (range_all R2) Tryz.underlying38 rfl (by rw [HLn.out.1]; kernel_rfl) ?_))
   refine (Kb _ BV5 (by have := hyz.out; omega) (m5.up (by omega))).mono ?_
   rintro e V6 ⟨rfl, C⟩
   clear R1 R2
   have x6 := x5.below C
   have y6 := y5.below C
   have v6 := v5.below C
   have g6 := g5.below (C.mono (by omega))
   have BV6 := belowStep BV5 (by have := hyz.out; omega) C
   have s6 : y + 1 ≤ V6.heap.size := by have := C.size; omega
   have r6 := r5.below C
   have m6 := m5.below (C.mono (by omega))
   have t6 : y2 + 1 ≤ V6.heap.size := by have := C.size; omega
   clear C x5 y5 v5 g5 BV5 s5
   clear r5 m5 t5
   clear Kb
   have p0 : V6.cell? ⟨y, 0, none⟩ = some (.int .u64 (xs : Int)) := cell_of_block v6 0 _ c0
   have p9 : V6.cell? ⟨y, 9, none⟩ = some (.int .u64 (xn : Int)) := cell_of_block v6 9 _ c9
   have p50 : V6.cell? ⟨y, 50, none⟩ = some (.bool xf) := cell_of_block v6 50 _ c50
   have o0 : V6.cell? ⟨y2, 0, none⟩ = some (.int .u64 (ys : Int)) := cell_of_block r6 0 _ d0
   have o9 : V6.cell? ⟨y2, 9, none⟩ = some (.int .u64 (yn : Int)) := cell_of_block r6 9 _ d9
   have n0 : V6.cell? ⟨z, 0, none⟩ = some (.int .u64 (ss : Int)) := cell_of_block x6 0 _ a0
   have n9 : V6.cell? ⟨z, 9, none⟩ = some (.int .u64 (sn : Int)) := cell_of_block x6 9 _ a9
   have n50 : V6.cell? ⟨z, 50, none⟩ = some (.bool xf) := cell_of_block x6 50 _ a50
   have n24 : V6.cell? ⟨z + 1, 24, none⟩ = some (.int .u64 (sl : Int)) := cell_of_block y6 24 _ u24
   obtain ⟨w1, w2, w3, l1, l2, l3, l4, l5⟩ := HN.out
   have l6 : (sl : Int) ≤ now := Int.ofNat_le.2 (by first | exact HF.out.2.2 rfl | simpa using HF.out.2.2)
   have HB : Hid _ := BV6
   clear x6 y6 v6 g6 r6 m6 BV6 s6 t6 a0 a9 a50 c0 c9 c50 d0 d9 u24 HF HN
   cases xf with
   | false =>
    go_wp2
    go_ret
    rw [HZ.out]
    exact ⟨rfl, HB.out⟩
   | true =>
    go_wp2
    go_ret
    rw [HZ.out]
    exact ⟨rfl, HB.out⟩
 ·obtain rfl : ba = true := HF.out.1 h1
  have e1 : (E == 0) = false := by rw [beq_eq_false_iff_ne]; exact h1
  have e2 : (E != 0) = true := by rw [bne, e1]; rfl
  clear h1
  have R1 := v5
  have R2 := x5
  go_wp2_with (first | (refine wpList_load_row rfl 38 _ rfl y rfl _ _ _ _ R1 Tryz.underlying38 rfl (by rw [List.size_toArray, lX.out]; kernel_rfl) ?_) | (refine wpList_load_row rfl 38 _ rfl z rfl _ _ _ _ R2 Tryz.underlying38 rfl (by rw [List.size_toArray, HLn.out.1]; kernel_rfl) ?_) | (refine load_mid_wanted (by rfl) 38 _ rfl y 0 rfl _ _ (range_all R1) Tryz.underlying38 rfl (by rw [lX.out]; kernel_rfl) ?_) | (refine load_mid_wanted (by rfl) 38 _ rfl z 0 rfl _ _ (range_all R2) Tryz.underlying38 rfl (by rw [HLn.out.1]; kernel_rfl) ?_))
  refine (Ka _ BV5 (by have := hyz.out; omega) (g5.up (by omega))).mono ?_
  rintro e V6 ⟨rfl, C⟩
  clear R1 R2
  have x6 := x5.below C
  have y6 := y5.below C
  have v6 := v5.below C
  have g6 := g5.below (C.mono (by omega))
  have BV6 := belowStep BV5 (by have := hyz.out; omega) C
  have s6 : y + 1 ≤ V6.heap.size := by have := C.size; omega
  have r6 := r5.below C
  have m6 := m5.below (C.mono (by omega))
  have t6 : y2 + 1 ≤ V6.heap.size := by have := C.size; omega
  clear C x5 y5 v5 g5 BV5 s5
  clear r5 m5 t5
  clear Ka
  by_cases h2 : FE = 0
  ·subst h2
   clear Kb
   have p0 : V6.cell? ⟨y, 0, none⟩ = some (.int .u64 (xs : Int)) := cell_of_block v6 0 _ c0
   have p9 : V6.cell? ⟨y, 9, none⟩ = some (.int .u64 (xn : Int)) := cell_of_block v6 9 _ c9
   have p50 : V6.cell? ⟨y, 50, none⟩ = some (.bool xf) := cell_of_block v6 50 _ c50
   have o0 : V6.cell? ⟨y2, 0, none⟩ = some (.int .u64 (ys : Int)) := cell_of_block r6 0 _ d0
   have o9 : V6.cell? ⟨y2, 9, none⟩ = some (.int .u64 (yn : Int)) := cell_of_block r6 9 _ d9
   have n0 : V6.cell? ⟨z, 0, none⟩ = some (.int .u64 (ss : Int)) := cell_of_block x6 0 _ a0
   have n9 : V6.cell? ⟨z, 9, none⟩ = some (.int .u64 (sn : Int)) := cell_of_block x6 9 _ a9
   have n50 : V6.cell? ⟨z, 50, none⟩ = some (.bool xf) := cell_of_block x6 50 _ a50
   have n24 : V6.cell? ⟨z + 1, 24, none⟩ = some (.int .u64 (sl : Int)) := cell_of_block y6 24 _ u24
   obtain ⟨w1, w2, w3, l1, l2, l3, l4, l5⟩ := HN.out
   have HB : Hid _ := BV6
   clear x6 y6 v6 g6 r6 m6 BV6 s6 t6 a0 a9 a50 c0 c9 c50 d0 d9 u24 HF HN
   cases xf with
   | false =>
    go_wp2
    go_ret
    rw [HZ.out]
    exact ⟨rfl, HB.out⟩
   | true =>
    go_wp2
    go_ret
    rw [HZ.out]
    exact ⟨rfl, HB.out⟩
  ·obtain rfl : bb = true := HF.out.2.1 h2
   have ef : (FE == 0) = false := by rw [beq_eq_false_iff_ne]; exact h2
   have eg : (FE != 0) = true := by rw [bne, ef]; rfl
   clear h2
   have R1 := r6
   have R2 := x6
   go_wp2_with (first | (refine wpList_load_row rfl 38 _ rfl y2 rfl _ _ _ _ R1 Tryz.underlying38 rfl (by rw [List.size_toArray, lY.out]; kernel_rfl) ?_) | (refine wpList_load_row rfl 38 _ rfl z rfl _ _ _ _ R2 Tryz.underlying38 rfl (by rw [List.size_toArray, HLn.out.1]; kernel_rfl) ?_) | (refine load_mid_wanted (by rfl) 38 _ rfl y2 0 rfl _ _ (range_all R1) Tryz.underlying38 rfl (by rw [lY.out]; kernel_rfl) ?_) | (refine load_mid_wanted (by rfl) 38 _ rfl z 0 rfl _ _ (range_all R2) Tryz.underlying38 rfl (by rw [HLn.out.1]; kernel_rfl) ?_))
   refine (Kb _ BV6 (by have := hyz.out; omega) (m6.up (by omega))).mono ?_
   rintro e V7 ⟨rfl, C⟩
   clear R1 R2
   have x7 := x6.below C
   have y7 := y6.below C
   have v7 := v6.below C
   have g7 := g6.below (C.mono (by omega))
   have BV7 := belowStep BV6 (by have := hyz.out; omega) C
   have s7 : y + 1 ≤ V7.heap.size := by have := C.size; omega
   have r7 := r6.below C
   have m7 := m6.below (C.mono (by omega))
   have t7 : y2 + 1 ≤ V7.heap.size := by have := C.size; omega
   clear C x6 y6 v6 g6 BV6 s6
   clear r6 m6 t6
   clear Kb
   have p0 : V7.cell? ⟨y, 0, none⟩ = some (.int .u64 (xs : Int)) := cell_of_block v7 0 _ c0
   have p9 : V7.cell? ⟨y, 9, none⟩ = some (.int .u64 (xn : Int)) := cell_of_block v7 9 _ c9
   have p50 : V7.cell? ⟨y, 50, none⟩ = some (.bool xf) := cell_of_block v7 50 _ c50
   have o0 : V7.cell? ⟨y2, 0, none⟩ = some (.int .u64 (ys : Int)) := cell_of_block r7 0 _ d0
   have o9 : V7.cell? ⟨y2, 9, none⟩ = some (.int .u64 (yn : Int)) := cell_of_block r7 9 _ d9
   have n0 : V7.cell? ⟨z, 0, none⟩ = some (.int .u64 (ss : Int)) := cell_of_block x7 0 _ a0
   have n9 : V7.cell? ⟨z, 9, none⟩ = some (.int .u64 (sn : Int)) := cell_of_block x7 9 _ a9
   have n50 : V7.cell? ⟨z, 50, none⟩ = some (.bool xf) := cell_of_block x7 50 _ a50
   have n24 : V7.cell? ⟨z + 1, 24, none⟩ = some (.int .u64 (sl : Int)) := cell_of_block y7 24 _ u24
   obtain ⟨w1, w2, w3, l1, l2, l3, l4, l5⟩ := HN.out
   have HB : Hid _ := BV7
   clear x7 y7 v7 g7 r7 m7 BV7 s7 t7 a0 a9 a50 c0 c9 c50 d0 d9 u24 HF HN
   cases xf with
   | false =>
    go_wp2
    go_ret
    rw [HZ.out]
    exact ⟨rfl, HB.out⟩
   | true =>
    go_wp2
    go_ret
    rw [HZ.out]
    exact ⟨rfl, HB.out⟩
theorem lightsteps_any (s : StD) (d : UpD) (now : Int) (hs0 : s.ok) (hd : d.ok) (zs : szT s) (zd : szU d) (p : StP) (q : UpP) (w : World) (hL : Ls w) (hps : stIn w.heap.size w s p) (hp : upIn w.heap.size w d q) (hnow : 0 ≤ now ∧ now < 18446744073709551616) :
  Calls Tryz.prog 8 #[.agg (stV s p).toArray, .agg (upV d q).toArray, .int .u64 now] w fun e w' => e = .returned (.bool true) ∧ Below w.heap.size w w' := by
 obtain ⟨k, rfl⟩ := Int.eq_ofNat_of_zero_le hnow.1
 exact lightsteps_nat s d k hs0 hd zs zd p q w hL hps hp (by omega)
end Go.Proofs.YtoddangedbefgaaGreatDoor
