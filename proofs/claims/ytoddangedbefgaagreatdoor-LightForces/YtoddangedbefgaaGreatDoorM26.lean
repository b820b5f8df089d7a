/- Lemmas: What the package's Force does. No condition but on sizes that no machine has. What the reference's take does. No condition. What the reference's Force does. No condition. A leaf under a state; what begins with a Boot, by the document. No condition. The law LightBegins, walked. No condition but on sizes that no machine has. What the package's Force does, whatever the store. No condition but on sizes that no machine has. -/
import Derived.Test.YtoddangedbefgaaGreatDoorM1
import Derived.Test.YtoddangedbefgaaGreatDoorM10
import Derived.Test.YtoddangedbefgaaGreatDoorM11
import Derived.Test.YtoddangedbefgaaGreatDoorM12
import Derived.Test.YtoddangedbefgaaGreatDoorM13
import Derived.Test.YtoddangedbefgaaGreatDoorM14
import Derived.Test.YtoddangedbefgaaGreatDoorM15
import Derived.Test.YtoddangedbefgaaGreatDoorM16
import Derived.Test.YtoddangedbefgaaGreatDoorM17
import Derived.Test.YtoddangedbefgaaGreatDoorM18
import Derived.Test.YtoddangedbefgaaGreatDoorM19
import Derived.Test.YtoddangedbefgaaGreatDoorM2
import Derived.Test.YtoddangedbefgaaGreatDoorM20
import Derived.Test.YtoddangedbefgaaGreatDoorM21
import Derived.Test.YtoddangedbefgaaGreatDoorM22
import Derived.Test.YtoddangedbefgaaGreatDoorM23
import Derived.Test.YtoddangedbefgaaGreatDoorM24
import Derived.Test.YtoddangedbefgaaGreatDoorM25
import Derived.Test.YtoddangedbefgaaGreatDoorM3
import Derived.Test.YtoddangedbefgaaGreatDoorM4
import Derived.Test.YtoddangedbefgaaGreatDoorM5
import Derived.Test.YtoddangedbefgaaGreatDoorM6
import Derived.Test.YtoddangedbefgaaGreatDoorM7
import Derived.Test.YtoddangedbefgaaGreatDoorM8
import Derived.Test.YtoddangedbefgaaGreatDoorM9
import Derived.Test.YtoddangedbefgaaGreatDoorRows
namespace Go.Proofs.YtoddangedbefgaaGreatDoor
open Go.RowKit Go.Shelf Go.Sort

theorem upV_frU (s : StD) (q : UpP) : upV (frU s) (frQ s q) = up8 (ltV s.best.l q.l) (cmV s.best.c q.c) (slV s.best.nb q.nb) (if decide (s.fin.s < s.best.f.s) = true then ltV s.best.f q.f else ltV s.best.l q.l) (slV s.best.fb q.fb) (.int .u64 (s.best.bits : Int)) (.string s.best.sig) (.int .u64 (s.best.slot : Int)) := by
 rw [upV_up8]
 unfold frU frQ frL
 dsimp only
 congr 1
 by_cases h : s.fin.s < s.best.f.s
 ·rw [if_pos h, if_pos h, decide_eq_true h]; rfl
 ·rw [if_neg h, if_neg h, decide_eq_false h]; rfl
def frP (s : StD) (q : StP) : StP := tkP s (frU s) q (frQ s q.best)
theorem fr_stIn {n : Nat} {W : World} {s : StD} {q : StP} {now : Nat} (hr : rfB s now = false) (h : stIn n W s q) : stIn n W (frS s now) (frP s q) := by
 unfold frS
 rw [if_neg (by rw [hr]; exact Bool.false_ne_true)]
 exact tk_in h (frU_in h.2.2.2.2)
theorem fr_szT {s : StD} {now : Nat} (h : szT s) : szT (frS s now) := by
 unfold frS
 split
 ·exact h
 ·exact tk_sz h (frU_sz h.2.2.2.2)
set_option maxRecDepth 20000 in
set_option maxHeartbeats 8000000 in
theorem force_yes (s : StD) (ok : s.ok) (hz : szT s) (qs : StP) (now : Nat) (hnow : now < 18446744073709551616) (n : Nat) (w : World) (hn : n ≤ w.heap.size) (hp : stIn n w s qs) (hrf : rfB s now = false) :
  Calls Tryz.prog 19 #[.agg (stV s qs).toArray, .int .u64 (now : Int)] w fun e w' => (∃ q', e = .returned (.tuple #[.agg (stV (frS s now) q').toArray, .int .i64 0]) ∧ storG w.heap.size w' (frS s now) q') ∧ Below w.heap.size w w' := by
 have KD := fun (W : World) (hB : Below w.heap.size w W) (hs : w.heap.size ≤ W.heap.size) => copied_any (frS s now) (fr_szT hz) (frP s qs) n W (Nat.le_trans hn hs) (fr_stIn hrf (hp.below (hB.mono hn)))
 have KT := takenOver_any s (frU s) ok (frU_ok ok.2.2.1) qs (frQ s qs.best)
 have eF : frS s now = { tkS s (frU s) with forced := true } := if_neg (by rw [hrf]; exact Bool.false_ne_true)
 have eFV : stV (frS s now) (frP s qs) = st9 (ltV (tkS s (frU s)).fin (frP s qs).fin) (ltV (tkS s (frU s)).new (frP s qs).new) (cmV (tkS s (frU s)).now (frP s qs).now) (cmV (tkS s (frU s)).nxt (frP s qs).nxt) (upV (tkS s (frU s)).best (frP s qs).best) (tkS s (frU s)).has (tkS s (frU s)).last (tkS s (frU s)).this true := by rw [eF]; rfl
 have eTV : stV (tkS s (frU s)) (frP s qs) = st9 (ltV (tkS s (frU s)).fin (frP s qs).fin) (ltV (tkS s (frU s)).new (frP s qs).new) (cmV (tkS s (frU s)).now (frP s qs).now) (cmV (tkS s (frU s)).nxt (frP s qs).nxt) (upV (tkS s (frU s)).best (frP s qs).best) (tkS s (frU s)).has (tkS s (frU s)).last (tkS s (frU s)).this (tkS s (frU s)).forced := rfl
 have h9T := L9_of (tkS s (frU s)) (frP s qs)
 have oT : Hid ((stV (tkS s (frU s)) (frP s qs)).toArray.all (·.oneCell') = true) := show _ from one_arr (stV_one _ _)
 rw [show tkP s (frU s) qs (frQ s qs.best) = frP s qs from rfl] at KT
 rw [upV_frU] at KT
 rw [eFV] at KD
 rw [eTV] at KT oT
 have KA := isAbove_any s.best.f s.fin qs.best.f qs.fin
 have KC := fun c => pickLt_any c (ltV s.best.f qs.best.f).toArray (ltV s.best.l qs.best.l).toArray rfl rfl (one_arr (ltV_one _ _)) (one_arr (ltV_one _ _))
 have h9 := L9_of s qs
 have hu : Hid ((ltV s.best.l qs.best.l).length = 9 ∧ (cmV s.best.c qs.best.c).length = 2 ∧ (ltV s.best.f qs.best.f).length = 9) := show _ from ⟨rfl, rfl, rfl⟩
 have o9 : ∀ v ∈ ltV s.best.f qs.best.f, v.oneCell' = true := ltV_one _ _
 have oL : ∀ v ∈ ltV s.best.l qs.best.l, v.oneCell' = true := ltV_one _ _
 have oU : Hid ((upV s.best qs.best).toArray.all (·.oneCell') = true) := show _ from one_arr (upV_one _ _)
 have a0 : (stV s qs)[0]? = some (.int .u64 (s.fin.s : Int)) := rfl
 rw [stV_st9] at KT a0 ⊢
 rw [upV_up8] at h9 oU
 rw [upV_up8] at KT a0 ⊢
 obtain ⟨hb, h1, h2⟩ : s.has = true ∧ ¬ now ≤ s.fin.s ∧ ¬ now - s.fin.s ≤ 64 := by
  unfold rfB at hrf
  simp only [Bool.or_eq_false_iff, Bool.not_eq_false', decide_eq_false_iff_not] at hrf
  exact ⟨hrf.1.1, hrf.1.2, hrf.2⟩
 rw [hb] at KT a0 ⊢
 have KCn := KC (decide (s.fin.s < s.best.f.s))
 clear KC eF eFV eTV hb hrf
 obtain ⟨f, hf⟩ : ∃ f, s.fin.s = f := ⟨_, rfl⟩
 have HANS : Hid (∃ q, q = frP s qs) := show _ from ⟨_, rfl⟩
 rw [hf] at h1 h2 a0
 obtain ⟨ab, ha⟩ : ∃ n, decide (s.fin.s < s.best.f.s) = n := ⟨_, rfl⟩
 rw [ha] at KA KCn KT
 obtain ⟨XA, hXA⟩ : ∃ L, ltV s.fin qs.fin = L := ⟨_, rfl⟩
 obtain ⟨XB, hXB⟩ : ∃ L, ltV s.new qs.new = L := ⟨_, rfl⟩
 obtain ⟨XC, hXC⟩ : ∃ L, cmV s.now qs.now = L := ⟨_, rfl⟩
 obtain ⟨XD, hXD⟩ : ∃ L, cmV s.nxt qs.nxt = L := ⟨_, rfl⟩
 obtain ⟨UL, hUL⟩ : ∃ L, ltV s.best.l qs.best.l = L := ⟨_, rfl⟩
 obtain ⟨UF, hUF⟩ : ∃ L, ltV s.best.f qs.best.f = L := ⟨_, rfl⟩
 obtain ⟨UC, hUC⟩ : ∃ L, cmV s.best.c qs.best.c = L := ⟨_, rfl⟩
 obtain ⟨u1, hu1⟩ : ∃ L, slV s.best.nb qs.best.nb = L := ⟨_, rfl⟩
 obtain ⟨u2, hu2⟩ : ∃ L, slV s.best.fb qs.best.fb = L := ⟨_, rfl⟩
 obtain ⟨u3, hu3⟩ : ∃ L, (Value.int .u64 (s.best.bits : Int)) = L := ⟨_, rfl⟩
 obtain ⟨u4, hu4⟩ : ∃ L, (Value.string s.best.sig) = L := ⟨_, rfl⟩
 obtain ⟨u5, hu5⟩ : ∃ L, (Value.int .u64 (s.best.slot : Int)) = L := ⟨_, rfl⟩
 obtain ⟨nl, hnl⟩ : ∃ b, s.last = b := ⟨_, rfl⟩
 obtain ⟨nt, hnt⟩ : ∃ b, s.this = b := ⟨_, rfl⟩
 obtain ⟨bf, hbf⟩ : ∃ b, s.forced = b := ⟨_, rfl⟩
 rw [hXA] at KA KT h9 a0 ⊢
 rw [hXB] at KT h9 a0 ⊢
 rw [hXC] at KT h9 a0 ⊢
 rw [hXD] at KT h9 a0 ⊢
 rw [hUL] at KT KCn h9 hu oL oU a0 ⊢
 rw [hUF] at KA KT KCn h9 hu o9 oU a0 ⊢
 rw [hUC] at KT h9 hu oU a0 ⊢
 rw [hu1, hu2, hu3, hu4, hu5] at KT h9 oU a0 ⊢
 rw [hnl, hnt, hbf] at KT a0 ⊢
 obtain ⟨XN, hXN⟩ : ∃ L, (if ab = true then UF else UL) = L := ⟨_, rfl⟩
 have eN : (if ab = true then UF.toArray else UL.toArray) = XN.toArray := by rw [← hXN]; cases ab <;> rfl
 rw [eN] at KCn
 rw [hXN] at KT
 have lXN : XN.length = 9 := by rw [← hXN]; cases ab; exact hu.out.1; exact hu.out.2.2
 have oXN : ∀ v ∈ XN, v.oneCell' = true := by rw [← hXN]; cases ab; exact oL; exact o9
 obtain ⟨FS, hFS⟩ : ∃ x, frS s now = x := ⟨_, rfl⟩
 rw [hFS] at KD ⊢
 obtain ⟨TA, hTA⟩ : ∃ L, ltV (tkS s (frU s)).fin (frP s qs).fin = L := ⟨_, rfl⟩
 obtain ⟨TB, hTB⟩ : ∃ L, ltV (tkS s (frU s)).new (frP s qs).new = L := ⟨_, rfl⟩
 obtain ⟨TC, hTC⟩ : ∃ L, cmV (tkS s (frU s)).now (frP s qs).now = L := ⟨_, rfl⟩
 obtain ⟨TD, hTD⟩ : ∃ L, cmV (tkS s (frU s)).nxt (frP s qs).nxt = L := ⟨_, rfl⟩
 obtain ⟨TE, hTE⟩ : ∃ L, upV (tkS s (frU s)).best (frP s qs).best = L := ⟨_, rfl⟩
 obtain ⟨t1, ht1⟩ : ∃ L, (tkS s (frU s)).has = L := ⟨_, rfl⟩
 obtain ⟨t2, ht2⟩ : ∃ L, (tkS s (frU s)).last = L := ⟨_, rfl⟩
 obtain ⟨t3, ht3⟩ : ∃ L, (tkS s (frU s)).this = L := ⟨_, rfl⟩
 obtain ⟨t4, ht4⟩ : ∃ L, (tkS s (frU s)).forced = L := ⟨_, rfl⟩
 rw [hTA, hTB, hTC, hTD, hTE] at KD KT h9T oT
 rw [ht1, ht2, ht3] at KD KT oT
 rw [ht4] at KT oT
 have wk : IntKind.u64.wrap ((now : Int) - f) = (now : Int) - f := by rw [IntKind.wrap_u64]; omega
 have l1 : ¬ (now : Int) ≤ f := by omega
 have l2 : ¬ (now : Int) - f ≤ 64 := by omega
 clear hXA hXB hXC hXD hUL hUF hUC hu1 hu2 hu3 hu4 hu5 hnl hnt hbf hXN eN hTA hTB hTC hTD hTE ht1 ht2 ht3 ht4 hFS ha hf HANS hp hn hz ok
 obtain ⟨LU, hLU⟩ : ∃ L, up8 UL UC u1 UF u2 u3 u4 u5 = L := ⟨_, rfl⟩
 obtain ⟨L0, hL0⟩ : ∃ L, st9 XA XB XC XD LU true nl nt bf = L := ⟨_, rfl⟩
 rw [hLU] at KT h9 oU a0 ⊢
 have g0 := st9_A (B := XB) (C := XC) (D := XD) (E := LU) (h := true) (l := nl) (t := nt) (f := bf) (A := XA)
 have g4 := st9_E (h := true) (l := nl) (t := nt) (f := bf) h9
 have a47 : (st9 XA XB XC XD LU true nl nt bf)[47]? = some (.bool true) := st9_h h9
 have lS := st9_len (h := true) (l := nl) (t := nt) (f := bf) h9
 rw [hL0] at g0 g4 a47 a0 lS KT ⊢
 have H0 : Hid (_ ∧ _) := ⟨hLU, hL0⟩
 have lU : LU.length = 25 := h9.e
 clear hLU hL0
 obtain ⟨BV, hx, hy, hs⟩ := box2 w (.cells L0.toArray 38) (.cells #[.int .u64 0, .int .u64 0, .string ⟨#[]⟩, .string ⟨#[]⟩, .string ⟨#[]⟩, .string ⟨#[]⟩, .string ⟨#[]⟩, .int .u64 0, .slice none 0 0, .int .u64 0, .int .u64 0, .string ⟨#[]⟩, .string ⟨#[]⟩, .string ⟨#[]⟩, .string ⟨#[]⟩, .string ⟨#[]⟩, .int .u64 0, .slice none 0 0, .slice none 0 0, .string ⟨#[]⟩, .slice none 0 0, .string ⟨#[]⟩, .int .u64 0, .int .u64 0, .string ⟨#[]⟩, .string ⟨#[]⟩, .string ⟨#[]⟩, .string ⟨#[]⟩, .string ⟨#[]⟩, .int .u64 0, .slice none 0 0, .slice none 0 0, .string ⟨#[]⟩, .slice none 0 0, .int .u64 0, .int .u64 0, .string ⟨#[]⟩, .string ⟨#[]⟩, .string ⟨#[]⟩, .string ⟨#[]⟩, .string ⟨#[]⟩, .int .u64 0, .slice none 0 0, .slice none 0 0, .int .u64 0, .string ⟨#[]⟩, .int .u64 0, .bool false, .int .i64 0, .int .i64 0, .bool false] 38)
 obtain ⟨z, hzz⟩ : ∃ z, w.heap.size = z := ⟨_, rfl⟩
 have HZ : Hid (w.heap.size = z) := hzz
 rw [hzz] at BV hx hy hs KD
 have c0 := cell_of_block hx 0 _ a0
 have c47 := cell_of_block hx 47 _ a47
 have RE := range_of_block hx 22 LU g4
 have H9 : Hid (_ ∧ _ ∧ _ ∧ _ ∧ _ ∧ _ ∧ _) := ⟨h9, h9T, oT, oU, lXN, lS, lU⟩
 have HY : Hid (_ ∧ _ ∧ _ ∧ _) := ⟨BV, hx, hy, hs⟩
 clear a0 a47 g4 h9 h9T oT oU lS lU hx hy
 go_enter Tryz.func19, Tryz.ntmps19
 obtain ⟨BV3, hx3, hy3, hb3, hs3⟩ := box3 w (.cells L0.toArray 38) (.cells #[.int .u64 0, .int .u64 0, .string ⟨#[]⟩, .string ⟨#[]⟩, .string ⟨#[]⟩, .string ⟨#[]⟩, .string ⟨#[]⟩, .int .u64 0, .slice none 0 0, .int .u64 0, .int .u64 0, .string ⟨#[]⟩, .string ⟨#[]⟩, .string ⟨#[]⟩, .string ⟨#[]⟩, .string ⟨#[]⟩, .int .u64 0, .slice none 0 0, .slice none 0 0, .string ⟨#[]⟩, .slice none 0 0, .string ⟨#[]⟩, .int .u64 0, .int .u64 0, .string ⟨#[]⟩, .string ⟨#[]⟩, .string ⟨#[]⟩, .string ⟨#[]⟩, .string ⟨#[]⟩, .int .u64 0, .slice none 0 0, .slice none 0 0, .string ⟨#[]⟩, .slice none 0 0, .int .u64 0, .int .u64 0, .string ⟨#[]⟩, .string ⟨#[]⟩, .string ⟨#[]⟩, .string ⟨#[]⟩, .string ⟨#[]⟩, .int .u64 0, .slice none 0 0, .slice none 0 0, .int .u64 0, .string ⟨#[]⟩, .int .u64 0, .bool false, .int .i64 0, .int .i64 0, .bool false] 38) (.cells #[.int .u64 0, .int .u64 0, .string ⟨#[]⟩, .string ⟨#[]⟩, .string ⟨#[]⟩, .string ⟨#[]⟩, .string ⟨#[]⟩, .int .u64 0, .slice none 0 0, .slice none 0 0, .string ⟨#[]⟩, .slice none 0 0, .int .u64 0, .int .u64 0, .string ⟨#[]⟩, .string ⟨#[]⟩, .string ⟨#[]⟩, .string ⟨#[]⟩, .string ⟨#[]⟩, .int .u64 0, .slice none 0 0, .slice none 0 0, .int .u64 0, .string ⟨#[]⟩, .int .u64 0] 36)
 have HZ2 := HZ.out
 rw [HZ2] at BV3 hx3 hy3 hb3 hs3
 have lU := H9.out.2.2.2.2.2.2
 have hQU : Hid (LU.toArray.size = 25) := show _ by rw [List.size_toArray]; exact lU
 have oU := H9.out.2.2.2.1
 have H3 : Hid (_ ∧ _ ∧ _ ∧ _) := ⟨BV3, hx3, hy3, hs3⟩
 clear BV3 hx3 hy3 hs3 HZ2 lU
 go_wp2_with (first | (refine wpList_load_mid rfl 36 _ rfl z 22 rfl _ _ RE Tryz.underlying36 rfl (by rw [H9.out.2.2.2.2.2.2]; kernel_rfl) ?_) | (refine load_mid_wanted (by rfl) 36 _ rfl z 22 rfl _ _ RE Tryz.underlying36 rfl (by rw [H9.out.2.2.2.2.2.2]; kernel_rfl) ?_) | (refine store_row0 rfl rfl 36 _ _ rfl (z + 2) _ rfl rfl 36 _ hb3 (by rw [hQU.out]; kernel_rfl) (by rw [hQU.out]; rfl) oU.out ?_; refine Stp.out ?_))
 refine ⟨?_⟩
 obtain ⟨BV3, hx3, hy3, hs3⟩ := H3.out
 have x1 := Bq.rowOther (show Bq z 38 _ _ from hx3) (show z ≠ z + 2 by omega) LU.toArray
 have y1 := Bq.rowOther (show Bq (z + 1) 38 _ _ from hy3) (show z + 1 ≠ z + 2 by omega) LU.toArray
 have b1 := Bq.row (show Bq (z + 2) 36 _ _ from hb3) LU.toArray
 have s1 : z + 3 ≤ ((((w.alloc (.cells L0.toArray 38)).alloc (.cells #[.int .u64 0, .int .u64 0, .string ⟨#[]⟩, .string ⟨#[]⟩, .string ⟨#[]⟩, .string ⟨#[]⟩, .string ⟨#[]⟩, .int .u64 0, .slice none 0 0, .int .u64 0, .int .u64 0, .string ⟨#[]⟩, .string ⟨#[]⟩, .string ⟨#[]⟩, .string ⟨#[]⟩, .string ⟨#[]⟩, .int .u64 0, .slice none 0 0, .slice none 0 0, .string ⟨#[]⟩, .slice none 0 0, .string ⟨#[]⟩, .int .u64 0, .int .u64 0, .string ⟨#[]⟩, .string ⟨#[]⟩, .string ⟨#[]⟩, .string ⟨#[]⟩, .string ⟨#[]⟩, .int .u64 0, .slice none 0 0, .slice none 0 0, .string ⟨#[]⟩, .slice none 0 0, .int .u64 0, .int .u64 0, .string ⟨#[]⟩, .string ⟨#[]⟩, .string ⟨#[]⟩, .string ⟨#[]⟩, .string ⟨#[]⟩, .int .u64 0, .slice none 0 0, .slice none 0 0, .int .u64 0, .string ⟨#[]⟩, .int .u64 0, .bool false, .int .i64 0, .int .i64 0, .bool false] 38)).alloc (.cells #[.int .u64 0, .int .u64 0, .string ⟨#[]⟩, .string ⟨#[]⟩, .string ⟨#[]⟩, .string ⟨#[]⟩, .string ⟨#[]⟩, .int .u64 0, .slice none 0 0, .slice none 0 0, .string ⟨#[]⟩, .slice none 0 0, .int .u64 0, .int .u64 0, .string ⟨#[]⟩, .string ⟨#[]⟩, .string ⟨#[]⟩, .string ⟨#[]⟩, .string ⟨#[]⟩, .int .u64 0, .slice none 0 0, .slice none 0 0, .int .u64 0, .string ⟨#[]⟩, .int .u64 0] 36)).setRow (z + 2) LU.toArray).heap.size := by rw [size_setRow, hs3]; exact Nat.le_refl _
 have HB1 : Hid (Below z w ((((w.alloc (.cells L0.toArray 38)).alloc (.cells #[.int .u64 0, .int .u64 0, .string ⟨#[]⟩, .string ⟨#[]⟩, .string ⟨#[]⟩, .string ⟨#[]⟩, .string ⟨#[]⟩, .int .u64 0, .slice none 0 0, .int .u64 0, .int .u64 0, .string ⟨#[]⟩, .string ⟨#[]⟩, .string ⟨#[]⟩, .string ⟨#[]⟩, .string ⟨#[]⟩, .int .u64 0, .slice none 0 0, .slice none 0 0, .string ⟨#[]⟩, .slice none 0 0, .string ⟨#[]⟩, .int .u64 0, .int .u64 0, .string ⟨#[]⟩, .string ⟨#[]⟩, .string ⟨#[]⟩, .string ⟨#[]⟩, .string ⟨#[]⟩, .int .u64 0, .slice none 0 0, .slice none 0 0, .string ⟨#[]⟩, .slice none 0 0, .int .u64 0, .int .u64 0, .string ⟨#[]⟩, .string ⟨#[]⟩, .string ⟨#[]⟩, .string ⟨#[]⟩, .string ⟨#[]⟩, .int .u64 0, .slice none 0 0, .slice none 0 0, .int .u64 0, .string ⟨#[]⟩, .int .u64 0, .bool false, .int .i64 0, .int .i64 0, .bool false] 38)).alloc (.cells #[.int .u64 0, .int .u64 0, .string ⟨#[]⟩, .string ⟨#[]⟩, .string ⟨#[]⟩, .string ⟨#[]⟩, .string ⟨#[]⟩, .int .u64 0, .slice none 0 0, .slice none 0 0, .string ⟨#[]⟩, .slice none 0 0, .int .u64 0, .int .u64 0, .string ⟨#[]⟩, .string ⟨#[]⟩, .string ⟨#[]⟩, .string ⟨#[]⟩, .string ⟨#[]⟩, .int .u64 0, .slice none 0 0, .slice none 0 0, .int .u64 0, .string ⟨#[]⟩, .int .u64 0] 36)).setRow (z + 2) LU.toArray)) := below_row BV3 (by omega) _
 obtain ⟨V1, hV1⟩ : ∃ V, (((w.alloc (.cells L0.toArray 38)).alloc (.cells #[.int .u64 0, .int .u64 0, .string ⟨#[]⟩, .string ⟨#[]⟩, .string ⟨#[]⟩, .string ⟨#[]⟩, .string ⟨#[]⟩, .int .u64 0, .slice none 0 0, .int .u64 0, .int .u64 0, .string ⟨#[]⟩, .string ⟨#[]⟩, .string ⟨#[]⟩, .string ⟨#[]⟩, .string ⟨#[]⟩, .int .u64 0, .slice none 0 0, .slice none 0 0, .string ⟨#[]⟩, .slice none 0 0, .string ⟨#[]⟩, .int .u64 0, .int .u64 0, .string ⟨#[]⟩, .string ⟨#[]⟩, .string ⟨#[]⟩, .string ⟨#[]⟩, .string ⟨#[]⟩, .int .u64 0, .slice none 0 0, .slice none 0 0, .string ⟨#[]⟩, .slice none 0 0, .int .u64 0, .int .u64 0, .string ⟨#[]⟩, .string ⟨#[]⟩, .string ⟨#[]⟩, .string ⟨#[]⟩, .string ⟨#[]⟩, .int .u64 0, .slice none 0 0, .slice none 0 0, .int .u64 0, .string ⟨#[]⟩, .int .u64 0, .bool false, .int .i64 0, .int .i64 0, .bool false] 38)).alloc (.cells #[.int .u64 0, .int .u64 0, .string ⟨#[]⟩, .string ⟨#[]⟩, .string ⟨#[]⟩, .string ⟨#[]⟩, .string ⟨#[]⟩, .int .u64 0, .slice none 0 0, .slice none 0 0, .string ⟨#[]⟩, .slice none 0 0, .int .u64 0, .int .u64 0, .string ⟨#[]⟩, .string ⟨#[]⟩, .string ⟨#[]⟩, .string ⟨#[]⟩, .string ⟨#[]⟩, .int .u64 0, .slice none 0 0, .slice none 0 0, .int .u64 0, .string ⟨#[]⟩, .int .u64 0] 36)).setRow (z + 2) LU.toArray = V := ⟨_, rfl⟩
 rw [hV1] at x1 y1 b1 s1 HB1 ⊢
 clear hV1 H3 BV3 hx3 hy3 hb3 hs3 RE c0 c47 hQU oU hzz hs BV l1 l2 wk
 obtain ⟨hLU, hL0⟩ := H0.out
 obtain ⟨h9, h9T, oT, oU, lXN', lS, lU⟩ := H9.out
 rw [← hLU] at b1
 have QF := rangeQ (range_of_block b1 12 UF (up8_F hu.out.1 hu.out.2.1)) (by omega)
 have QL := rangeQ (range_of_block b1 0 UL up8_L) (by omega)
 have QA := rangeQ (range_of_block x1 0 XA (by rw [← hL0]; exact st9_A)) (by omega)
 have c4 := inClass (w := V1) KA
 have c5 := inClass (w := V1) KCn
 have BV := HB1.out
 have lA : Hid (XA.length = 9) := show _ from h9.a
 have HL0 : Hid _ := hL0
 clear h9 hLU hL0 g0
 go_wp2_with fail
 refine region_tail 11 (by kernel_rfl) (by kernel_rfl) ?_
 simp only [List.take_succ_cons, List.take_zero, List.drop_succ_cons, List.drop_zero]
 refine Stp.out ?_
 iterate 1 (refine qs_step (fun K hK => ?_); go_simp; refine hK _ ?_; clear hK K)
 refine quiet_load_S (by kernel_rfl) 29 _ rfl _ _ rfl _ _ QF Tryz.underlying29 rfl (by rw [hu.out.2.2]; kernel_rfl) ?_
 iterate 1 (refine qs_step (fun K hK => ?_); go_simp; refine hK _ ?_; clear hK K)
 refine quiet_load_S (by kernel_rfl) 29 _ rfl _ _ rfl _ _ QA Tryz.underlying29 rfl (by rw [lA.out]; kernel_rfl) ?_
 refine qs_step (fun K hK => ?_)
 go_simp
 apply Exists.intro
 refine ⟨fun _ => ?_, hK _ ?_⟩
 exact c4 _ _
 clear hK K
 iterate 1 (refine qs_step (fun K hK => ?_); go_simp; refine hK _ ?_; clear hK K)
 refine quiet_load_S (by kernel_rfl) 29 _ rfl _ _ rfl _ _ QF Tryz.underlying29 rfl (by rw [hu.out.2.2]; kernel_rfl) ?_
 iterate 1 (refine qs_step (fun K hK => ?_); go_simp; refine hK _ ?_; clear hK K)
 refine quiet_load_S (by kernel_rfl) 29 _ rfl _ _ rfl _ _ QL Tryz.underlying29 rfl (by rw [hu.out.1]; kernel_rfl) ?_
 refine qs_step (fun K hK => ?_)
 go_simp
 apply Exists.intro
 refine ⟨fun _ => ?_, hK _ ?_⟩
 exact c5 _ _
 clear hK K
 iterate 1 (refine qs_step (fun K hK => ?_); go_simp; refine hK _ ?_; clear hK K)
 refine ⟨wpQuiet_nil ?_⟩
 intro V2 hV2
 have cB2 : Below V1.heap.size V1 V2 := by
  obtain ⟨p, rfl⟩ := hV2
  exact below_regrown _ _ _
 have B2 : Below z w V2 := by
  obtain ⟨p, rfl⟩ := hV2
  exact belowStep BV (by have := BV.size; omega) (below_regrown V1 p.d p.os)
 clear hV2
 have x2 := x1.below cB2
 have y2 := y1.below cB2
 have b2 := b1.below cB2
 have s2 : z + 3 ≤ V2.heap.size := by have := cB2.size; omega
 have HB2 : Hid (Below z w V2) := B2
 clear x1 y1 b1 s1 HB1 cB2 B2 BV QF QL QA c4 c5 KA KCn
 have ht : V2.there (z + 2) 12 XN.length := there_of_block b2 (by rw [lXN, up8_len hu.out.1 hu.out.2.1 hu.out.2.2]; omega)
 go_wp2_with (first | (refine store_mid0 rfl rfl 29 _ _ rfl (z + 2) 12 XN rfl rfl ht (by rw [lXN]; kernel_rfl) oXN ?_; refine Stp.out ?_))
 refine ⟨?_⟩
 have x3 : Bq z 38 _ (V2.setCells (z + 2) 12 XN) := (setCells_other (by omega) _ _ _).trans x2
 have y3 : Bq (z + 1) 38 _ (V2.setCells (z + 2) 12 XN) := (setCells_other (by omega) _ _ _).trans y2
 have b3 := up8_putF hu.out.1 hu.out.2.1 hu.out.2.2 lXN b2
 have s3 : z + 3 ≤ (V2.setCells (z + 2) 12 XN).heap.size := by rw [size_setCellsB]; exact s2
 have HB3 : Hid (Below z w (V2.setCells (z + 2) 12 XN)) := below_cells HB2.out (by omega) _
 obtain ⟨V3, hV3⟩ : ∃ V, V2.setCells (z + 2) 12 XN = V := ⟨_, rfl⟩
 rw [hV3] at x3 y3 b3 s3 HB3 ⊢
 clear hV3 x2 y2 b2 s2 HB2 ht
 have lN : Hid ((up8 UL UC u1 XN u2 u3 u4 u5).toArray.size = 25) := show _ by rw [List.size_toArray]; exact up8_len hu.out.1 hu.out.2.1 lXN
 have lS0 : Hid (L0.toArray.size = 51) := show _ by rw [List.size_toArray]; exact lS
 have lT : Hid ((st9 TA TB TC TD TE t1 t2 t3 t4).toArray.size = 51) := show _ by rw [List.size_toArray]; exact st9_len h9T
 obtain ⟨LN, hLN⟩ : ∃ L, (up8 UL UC u1 XN u2 u3 u4 u5).toArray = L := ⟨_, rfl⟩
 rw [hLN] at KT lN b3
 clear hLN
 go_wp2_with (first | (refine wpList_load_row rfl 38 _ rfl z rfl _ _ _ _ x3 Tryz.underlying38 rfl (by rw [lS0.out]; kernel_rfl) ?_) | (refine wpList_load_row rfl 36 _ rfl (z + 2) rfl _ _ _ _ b3 Tryz.underlying36 rfl (by rw [lN.out]; kernel_rfl) ?_))
 refine (KT _).mono ?_
 rintro e V4 ⟨rfl, C⟩
 have x4 := x3.below C
 have y4 := y3.below C
 have s4 : z + 3 ≤ V4.heap.size := by have := C.size; omega
 have HB4 : Hid (Below z w V4) := belowStep HB3.out (by omega) C
 clear C x3 y3 b3 s3 HB3 KT lN lS0
 have oT2 : Hid _ := oT.out
 go_wp2_with (first | (refine store_row0 rfl rfl 38 _ _ rfl z _ rfl rfl 38 _ x4 (by rw [lT.out]; kernel_rfl) (by rw [lT.out, List.size_toArray]; exact lS) oT2.out ?_; refine Stp.out ?_))
 refine ⟨?_⟩
 have x5 := x4.row (st9 TA TB TC TD TE t1 t2 t3 t4).toArray
 have y5 := y4.rowOther (show z + 1 ≠ z by omega) (st9 TA TB TC TD TE t1 t2 t3 t4).toArray
 have s5 : z + 3 ≤ (V4.setRow z (st9 TA TB TC TD TE t1 t2 t3 t4).toArray).heap.size := by rw [size_setRow]; exact s4
 have HB5 : Hid (Below z w (V4.setRow z (st9 TA TB TC TD TE t1 t2 t3 t4).toArray)) := below_row HB4.out (Nat.le_refl _) _
 obtain ⟨V5, hV5⟩ : ∃ V, V4.setRow z (st9 TA TB TC TD TE t1 t2 t3 t4).toArray = V := ⟨_, rfl⟩
 rw [hV5] at x5 y5 s5 HB5 ⊢
 clear hV5 x4 y4 s4 HB4
 have c50 : V5.cell? ⟨z, 50, none⟩ = some (.bool t4) := cell_of_block x5 50 _ (st9_f h9T)
 have f50 : V5.frozen? ⟨z, 50, none⟩ = false := Bq.fr x5 50
 have x6 := st9_putf h9T true x5
 have y6 : Bq (z + 1) 38 _ (V5.setCell ⟨z, 50, none⟩ (.bool true)) := (Below.heap_setCell _ _ _ _ (show z + 1 ≠ z by omega)).trans y5
 have HB6 : Hid (Below z w (V5.setCell ⟨z, 50, none⟩ (.bool true))) := show _ from HB5.out.setCell (p := ⟨z, 50, none⟩) (Nat.le_refl _) _
 have s6 : Hid (z + 3 ≤ (V5.setCell ⟨z, 50, none⟩ (.bool true)).heap.size) := show _ by rw [size_setCell']; exact s5
 have lF : Hid ((st9 TA TB TC TD TE t1 t2 t3 true).toArray.size = 51) := show _ by rw [List.size_toArray]; exact st9_len h9T
 obtain ⟨LF, hLF⟩ : ∃ L, (st9 TA TB TC TD TE t1 t2 t3 true).toArray = L := ⟨_, rfl⟩
 rw [hLF] at KD lF x6
 have KD6 := KD _ HB6.out (Nat.le_trans (Nat.le_add_right z 3) s6.out)
 have HY6 : Hid (Bq (z + 1) 38 _ _) := y6
 clear x5 y5 s5 HB5 hLF y6 KD lT
 go_wp2_with (first | (refine wpList_load_row rfl 38 _ rfl z rfl _ _ _ _ x6 Tryz.underlying38 rfl (by rw [lF.out]; kernel_rfl) ?_))
 refine KD6.mono ?_
 rintro e V7 ⟨⟨q7, rfl, G7⟩, C⟩
 have y7 : Bq (z + 1) 38 _ V7 := (C.block (z + 1) (by have := s6.out; omega)).trans HY6.out
 have BX : Below z w V7 := belowStep HB6.out (by have := s6.out; omega) C
 have hQ : Hid ((stV FS q7).toArray.size = 51) := show _ from rfl
 have hone := stV_one FS q7
 obtain ⟨F9, hF9⟩ : ∃ F, (stV FS q7).toArray = F := ⟨_, rfl⟩
 have HF : Hid (_ ∧ _ ∧ _ ∧ _) := ⟨BX, G7, hF9, one_arr hone⟩
 rw [hF9] at hQ ⊢
 have S6 : Hid (z + 3 ≤ (V5.setCell ⟨z, 50, none⟩ (.bool true)).heap.size) := s6.out
 clear BX G7 hF9 hone C x6 KD6 HB6 HY6 c50 f50 lF s6
 go_wp2_with (refine store_row0 rfl rfl 38 _ _ rfl (z + 1) _ rfl rfl 38 _ y7 (by rw [hQ.out]; kernel_rfl) (by rw [hQ.out]; rfl) (by rw [← HF.out.2.2.1]; exact HF.out.2.2.2) ?_)
 obtain ⟨BX, G7, hF9, -⟩ := HF.out
 refine bodyPost_ret (results_row2 rfl _ _ (z + 1) 38 _ (0, 0) _ rfl (Bq.row (show Bq (z + 1) 38 _ _ from y7) F9) Tryz.underlying38 rfl (by rw [hQ.out]; kernel_rfl) (.int .i64 0) rfl) rfl ⟨⟨q7, by rw [← hF9], ?_⟩, ?_⟩
 ·exact (G7.keep (by rw [size_setRow]; exact Nat.le_refl _) fun b hb _ => setRow_other _ _ _ _ (by have := S6.out; omega)).mono (by have := HZ.out; have := S6.out; omega)
 ·rw [HZ.out]
  exact below_row BX (by omega) F9
end Go.Proofs.YtoddangedbefgaaGreatDoor
namespace Go.Proofs.YtoddangedbefgaaGreatDoor
open Go.RowKit Go.Shelf Go.Sort

set_option maxRecDepth 20000 in
set_option maxHeartbeats 8000000 in
theorem rtake_any (s : StD) (d : UpD) (hs0 : s.ok) (hd : d.ok) (p : StP) (q : UpP) (w : World) :
  Calls Tryz.prog 60 #[.agg (stV s p).toArray, .agg (upV d q).toArray] w fun x w' => x = .returned (.agg (stV (tkR s d) (tkRP s d p q)).toArray) ∧ Below w.heap.size w w' := by
 have KK := rknown_any s.nxt p.nxt
 have KW := rperiod_any s.fin.s hs0.1.1
 have KI := rperiod_any d.f.s hd.2.1.1
 have h9 := L9_of s p
 have wb : s.fin.s / 64 + 1 < 18446744073709551616 := by have := hs0.1.1; unfold U6 at this; omega
 rw [stV_tkR, stV_st9]
 have u9 := upV_c d q
 have u12 := upV_f d q
 have a0 : (ltV s.fin p.fin)[0]? = some (.int .u64 (s.fin.s : Int)) := rfl
 have b0 : (ltV s.new p.new)[0]? = some (.int .u64 (s.new.s : Int)) := rfl
 have f0 : (ltV d.f q.f)[0]? = some (.int .u64 (d.f.s : Int)) := rfl
 have o9 : ∀ v ∈ ltV d.f q.f, v.oneCell' = true := ltV_one _ _
 have oc : ∀ v ∈ cmV d.c q.c, v.oneCell' = true := cmV_one _ _
 have oA : ∀ v ∈ ltV s.fin p.fin, v.oneCell' = true := ltV_one _ _
 have oB : ∀ v ∈ ltV s.new p.new, v.oneCell' = true := ltV_one _ _
 have oC : ∀ v ∈ cmV s.now p.now, v.oneCell' = true := cmV_one _ _
 have oE : ∀ v ∈ upV s.best p.best, v.oneCell' = true := upV_one _ _
 have on : ∀ v ∈ cmV s.nxt p.nxt, v.oneCell' = true := cmV_one _ _
 have HLn : Hid ((upV d q).length = 25 ∧ (ltV d.f q.f).length = 9 ∧ (cmV d.c q.c).length = 2) := show _ from ⟨rfl, rfl, rfl⟩
 have e1 : tkU s d = decide (s.fin.s < d.f.s) := rfl
 have e2 : tkV s d = (decide (s.fin.s < d.f.s) && decide (s.new.s < d.f.s)) := rfl
 have e3 : tkA s d = (!decide (0 < s.nxt.ks.length) && decide (d.f.s / 64 = s.fin.s / 64)) := rfl
 have e4 : tkB s d = (decide (0 < s.nxt.ks.length) && decide (d.f.s / 64 = s.fin.s / 64 + 1)) := rfl
 rw [e1, e2, e3, e4]
 obtain ⟨kn, hk⟩ : ∃ n, decide (0 < s.nxt.ks.length) = n := ⟨_, rfl⟩
 obtain ⟨ab, ha⟩ : ∃ n, decide (s.fin.s < d.f.s) = n := ⟨_, rfl⟩
 obtain ⟨an, hb⟩ : ∃ n, decide (s.new.s < d.f.s) = n := ⟨_, rfl⟩
 obtain ⟨was, hwas⟩ : ∃ n, s.fin.s / 64 = n := ⟨_, rfl⟩
 obtain ⟨now, hnow⟩ : ∃ n, d.f.s / 64 = n := ⟨_, rfl⟩
 rw [hk] at KK ⊢
 rw [ha, hb, hwas, hnow]
 rw [hwas] at KW wb
 rw [hnow] at KI
 obtain ⟨ss, hss⟩ : ∃ n, s.fin.s = n := ⟨_, rfl⟩
 obtain ⟨ns, hns⟩ : ∃ n, s.new.s = n := ⟨_, rfl⟩
 obtain ⟨fs, hfs⟩ : ∃ n, d.f.s = n := ⟨_, rfl⟩
 rw [hss] at KW a0 ha
 rw [hfs] at KI f0 ha hb
 rw [hns] at b0 hb
 have hab : Hid _ := ha
 have han : Hid _ := hb
 obtain ⟨XA, hXA⟩ : ∃ L, ltV s.fin p.fin = L := ⟨_, rfl⟩
 obtain ⟨XB, hXB⟩ : ∃ L, ltV s.new p.new = L := ⟨_, rfl⟩
 obtain ⟨XC, hXC⟩ : ∃ L, cmV s.now p.now = L := ⟨_, rfl⟩
 obtain ⟨XD, hXD⟩ : ∃ L, cmV s.nxt p.nxt = L := ⟨_, rfl⟩
 obtain ⟨XE, hXE⟩ : ∃ L, upV s.best p.best = L := ⟨_, rfl⟩
 obtain ⟨LU, hLU⟩ : ∃ L, upV d q = L := ⟨_, rfl⟩
 obtain ⟨UF, hUF⟩ : ∃ L, ltV d.f q.f = L := ⟨_, rfl⟩
 obtain ⟨UC, hUC⟩ : ∃ L, cmV d.c q.c = L := ⟨_, rfl⟩
 obtain ⟨bh, hbh⟩ : ∃ b, s.has = b := ⟨_, rfl⟩
 obtain ⟨nl, hnl⟩ : ∃ b, s.last = b := ⟨_, rfl⟩
 obtain ⟨nt, hnt⟩ : ∃ b, s.this = b := ⟨_, rfl⟩
 obtain ⟨bf, hbf⟩ : ∃ b, s.forced = b := ⟨_, rfl⟩
 rw [hXA] at h9 a0 oA ⊢
 rw [hXB] at h9 b0 oB ⊢
 rw [hXC] at h9 oC ⊢
 rw [hXD] at KK h9 on ⊢
 rw [hXE] at h9 oE ⊢
 rw [hLU] at u9 u12 HLn ⊢
 rw [hUF] at f0 u12 o9 HLn ⊢
 rw [hUC] at u9 oc HLn ⊢
 rw [hbh, hnl, hnt, hbf]
 clear hXA hXB hXC hXD hXE hLU hUF hUC hbh hnl hnt hbf hk ha hb hwas hnow e1 e2 e3 e4 hs0 hd hss hns hfs
 obtain ⟨L0, hL0⟩ : ∃ L, st9 XA XB XC XD XE bh nl nt bf = L := ⟨_, rfl⟩
 obtain ⟨ANS, hANS⟩ : ∃ A, (st9 (if ab = true then UF else XA) (if (ab && an) = true then UF else XB) (if (kn && decide (now = was + 1)) = true then XD else XC) (if (!kn && decide (now = was) || kn && decide (now = was + 1)) = true then UC else XD) XE bh (if (kn && decide (now = was + 1)) = true then nt else nl) (if (kn && decide (now = was + 1)) = true then 0 else nt) bf).toArray = A := ⟨_, rfl⟩
 rw [hANS]
 have HANS : Hid _ := hANS
 clear hANS
 have H0 : Hid (_) := hL0
 have g0 := st9_A (B := XB) (C := XC) (D := XD) (E := XE) (h := bh) (l := nl) (t := nt) (f := bf) (A := XA)
 have g3 := st9_D (h := bh) (l := nl) (t := nt) (f := bf) h9
 rw [hL0] at g0 g3 ⊢
 obtain ⟨BV, hx, hy, hz0, hs⟩ := box3 w (.cells L0.toArray 38) (.cells LU.toArray 36) (.cells #[.int .u64 0, .int .u64 0, .string ⟨#[]⟩, .string ⟨#[]⟩, .string ⟨#[]⟩, .string ⟨#[]⟩, .string ⟨#[]⟩, .int .u64 0, .slice none 0 0, .int .u64 0, .int .u64 0, .string ⟨#[]⟩, .string ⟨#[]⟩, .string ⟨#[]⟩, .string ⟨#[]⟩, .string ⟨#[]⟩, .int .u64 0, .slice none 0 0, .slice none 0 0, .string ⟨#[]⟩, .slice none 0 0, .string ⟨#[]⟩, .int .u64 0, .int .u64 0, .string ⟨#[]⟩, .string ⟨#[]⟩, .string ⟨#[]⟩, .string ⟨#[]⟩, .string ⟨#[]⟩, .int .u64 0, .slice none 0 0, .slice none 0 0, .string ⟨#[]⟩, .slice none 0 0, .int .u64 0, .int .u64 0, .string ⟨#[]⟩, .string ⟨#[]⟩, .string ⟨#[]⟩, .string ⟨#[]⟩, .string ⟨#[]⟩, .int .u64 0, .slice none 0 0, .slice none 0 0, .int .u64 0, .string ⟨#[]⟩, .int .u64 0, .bool false, .int .i64 0, .int .i64 0, .bool false] 38)
 obtain ⟨z, hz⟩ : ∃ z, w.heap.size = z := ⟨_, rfl⟩
 have HZ : Hid (w.heap.size = z) := hz
 rw [hz] at BV hx hy hz0 hs
 have cf : (((w.alloc (.cells L0.toArray 38)).alloc (.cells LU.toArray 36)).alloc (.cells #[.int .u64 0, .int .u64 0, .string ⟨#[]⟩, .string ⟨#[]⟩, .string ⟨#[]⟩, .string ⟨#[]⟩, .string ⟨#[]⟩, .int .u64 0, .slice none 0 0, .int .u64 0, .int .u64 0, .string ⟨#[]⟩, .string ⟨#[]⟩, .string ⟨#[]⟩, .string ⟨#[]⟩, .string ⟨#[]⟩, .int .u64 0, .slice none 0 0, .slice none 0 0, .string ⟨#[]⟩, .slice none 0 0, .string ⟨#[]⟩, .int .u64 0, .int .u64 0, .string ⟨#[]⟩, .string ⟨#[]⟩, .string ⟨#[]⟩, .string ⟨#[]⟩, .string ⟨#[]⟩, .int .u64 0, .slice none 0 0, .slice none 0 0, .string ⟨#[]⟩, .slice none 0 0, .int .u64 0, .int .u64 0, .string ⟨#[]⟩, .string ⟨#[]⟩, .string ⟨#[]⟩, .string ⟨#[]⟩, .string ⟨#[]⟩, .int .u64 0, .slice none 0 0, .slice none 0 0, .int .u64 0, .string ⟨#[]⟩, .int .u64 0, .bool false, .int .i64 0, .int .i64 0, .bool false] 38)).cell? ⟨z, 0, none⟩ = some (.int .u64 (ss : Int)) := cell_of_block hx 0 _ (g0 0 _ a0)
 have H9 : Hid _ := h9
 have HX : Hid (_ ∧ _ ∧ _ ∧ _ ∧ _) := ⟨BV, hx, hy, hz0, hs⟩
 have sD : Hid (XD.length = 2 ∧ XA.length = 9 ∧ UF.length = 9) := show _ from ⟨h9.d, h9.a, HLn.out.2.1⟩
 clear hL0 hx hy hz0 hs h9 BV
 go_enter Tryz.func60, Tryz.ntmps60
 go_wp2_with fail
 refine (KW _).mono ?_
 rintro e V1 ⟨rfl, C⟩
 obtain ⟨BV, hx, hy, hz0, hs⟩ := HX.out
 have x1 : Bq z 38 L0.toArray V1 := (C.block z (by omega)).trans hx
 have y1 : Bq (z + 1) 36 LU.toArray V1 := (C.block (z + 1) (by omega)).trans hy
 have z1 : Bq (z + 2) 38 _ V1 := (C.block (z + 2) (by omega)).trans hz0
 have s1 : z + 3 ≤ V1.heap.size := by have := C.size; omega
 rw [← H0.out] at x1
 have HB1 : Hid (Below z w V1) := belowStep BV (by omega) C
 clear HX BV hx hy hz0 hs C H0 cf hz
 have cu : V1.cell? ⟨z + 1, 12, none⟩ = some (.int .u64 (fs : Int)) := cell_of_block y1 12 _ (u12 0 _ f0)
 go_wp2_with fail
 refine (KI _).mono ?_
 rintro e V2 ⟨rfl, C⟩
 have x2 := x1.below C
 have y2 : Bq (z + 1) 36 LU.toArray V2 := y1.below C
 have z2 := z1.below C
 have s2 : z + 3 ≤ V2.heap.size := by have := C.size; omega
 have HB2 : Hid (Below z w V2) := belowStep HB1.out (by omega) C
 clear C x1 y1 z1 s1 HB1

 clear cu
 have QN := range_of_block x2 20 XD (st9_D H9.out)
 go_wp2_with (first | (refine wpList_load_mid rfl 31 _ rfl z 20 rfl _ _ QN Tryz.underlying31 rfl (by rw [sD.out.1]; kernel_rfl) ?_) | (refine load_mid_wanted (by rfl) 31 _ rfl z 20 rfl _ _ QN Tryz.underlying31 rfl (by rw [sD.out.1]; kernel_rfl) ?_))
 refine (KK _).mono ?_
 rintro e V3 ⟨rfl, C⟩
 have x3 := x2.below C
 have y3 : Bq (z + 1) 36 LU.toArray V3 := y2.below C
 have z3 := z2.below C
 have s3 : z + 3 ≤ V3.heap.size := by have := C.size; omega
 have HB3 : Hid (Below z w V3) := belowStep HB2.out (by omega) C
 clear C x2 y2 z2 s2 HB2

 clear QN KK KW KI
 cases kn with
 | false =>
  by_cases h : now = was
  ·subst h
   have he : ((now : Int) == (now : Int)) = true := beq_self_eq_true _
   have eA : Hid ((!false && decide (now = now)) = true) := show (!false && decide (now = now)) = true by simp
   have eB : Hid ((false && decide (now = now + 1)) = false) := show _ from rfl
   have UC9 := range_of_block y3 9 UC u9
   have ht : V3.there z 20 UC.length := there_of_block x3 (by rw [HLn.out.2.2, st9_len H9.out]; omega)
   go_wp2_with (first | (refine wpList_load_mid rfl 31 _ rfl (z + 1) 9 rfl _ _ UC9 Tryz.underlying31 rfl (by rw [HLn.out.2.2]; kernel_rfl) ?_) | (refine load_mid_wanted (by rfl) 31 _ rfl (z + 1) 9 rfl _ _ UC9 Tryz.underlying31 rfl (by rw [HLn.out.2.2]; kernel_rfl) ?_) | (refine store_mid0 rfl rfl 31 _ _ rfl z 20 UC rfl rfl ht (by rw [HLn.out.2.2]; kernel_rfl) oc ?_; refine Stp.out ?_))
   refine ⟨?_⟩
   have x4 := st9_putD H9.out HLn.out.2.2 x3
   have y4 : Bq (z + 1) 36 LU.toArray (V3.setCells z 20 UC) := (setCells_other (by omega) _ _ _).trans y3
   have z4 : Bq (z + 2) 38 _ (V3.setCells z 20 UC) := (setCells_other (by omega) _ _ _).trans z3
   have s4 : z + 3 ≤ (V3.setCells z 20 UC).heap.size := by rw [size_setCellsB]; exact s3
   have HB4 : Hid (Below z w (V3.setCells z 20 UC)) := below_cells HB3.out (Nat.le_refl _) _
   obtain ⟨V4, hV4⟩ : ∃ W, V3.setCells z 20 UC = W := ⟨_, rfl⟩
   rw [hV4] at x4 y4 z4 s4 HB4 ⊢
   clear hV4 x3 y3 z3 s3 HB3
   clear ht UC9
   have h9D : L9 XA XB XC UC XE := ⟨H9.out.a, H9.out.b, H9.out.c, HLn.out.2.2, H9.out.e⟩
   have cf : V4.cell? ⟨z, 0, none⟩ = some (.int .u64 (ss : Int)) := cell_of_block x4 0 _ (st9_A 0 _ a0)
   have cu : V4.cell? ⟨z + 1, 12, none⟩ = some (.int .u64 (fs : Int)) := cell_of_block y4 12 _ (u12 0 _ f0)
   cases ab with
   | false =>
    have la : ¬ (ss : Int) < fs := by have := of_decide_eq_false hab.out; omega
    have hone : Hid ((st9 XA XB XC UC XE bh nl nt bf).toArray.all (·.oneCell') = true) := show _ from (by
     refine one_arr (st9_one ?_ ?_ ?_ ?_ oE _ _ _ _) <;> assumption)
    have hQ : Hid ((st9 XA XB XC UC XE bh nl nt bf).toArray.size = 51) := show _ by rw [List.size_toArray]; exact st9_len h9D
    have xF := x4
    have bF := HB4
    obtain ⟨F9, hF9⟩ : ∃ F, (st9 XA XB XC UC XE bh nl nt bf).toArray = F := ⟨_, rfl⟩
    rw [hF9] at xF hQ hone
    have HF : Hid _ := hF9
    have zF := z4
    have HZF : Hid _ := zF
    clear hF9 x4 y4 z4 s4
    go_wp2_with (first | (refine wpList_load_row rfl 38 _ rfl z rfl _ _ _ _ xF Tryz.underlying38 rfl (by rw [hQ.out]; kernel_rfl) ?_) | (refine store_row0 rfl rfl 38 _ _ rfl (z + 2) _ rfl rfl 38 _ zF (by rw [hQ.out]; kernel_rfl) (by rw [hQ.out]; rfl) hone.out ?_))
    refine bodyPost_ret (results_cell_row rfl _ _ (z + 2) 38 _ (0, 0) _ rfl (Bq.row (show Bq (z + 2) 38 _ _ from HZF.out) F9) Tryz.underlying38 rfl (by rw [hQ.out]; kernel_rfl)) rfl ⟨?_, ?_⟩
    ·rw [← HF.out]
     have HN := HANS.out
     rw [eA.out, eB.out] at HN
     exact congrArg (fun a => Ending.returned (Value.agg a)) HN
    ·rw [HZ.out]
     exact below_row bF.out (by omega) F9
   | true =>
    have la : (ss : Int) < fs := by have := of_decide_eq_true hab.out; omega
    have RU := range_of_block y4 12 UF u12
    have ht : V4.there z 0 UF.length := there_of_block x4 (by rw [HLn.out.2.1, st9_len h9D]; omega)
    go_wp2_with (first | (refine wpList_load_mid rfl 29 _ rfl (z + 1) 12 rfl _ _ RU Tryz.underlying29 rfl (by rw [HLn.out.2.1]; kernel_rfl) ?_) | (refine load_mid_wanted (by rfl) 29 _ rfl (z + 1) 12 rfl _ _ RU Tryz.underlying29 rfl (by rw [HLn.out.2.1]; kernel_rfl) ?_) | (refine store_mid0 rfl rfl 29 _ _ rfl z 0 UF rfl rfl ht (by rw [HLn.out.2.1]; kernel_rfl) o9 ?_; refine Stp.out ?_))
    refine ⟨?_⟩
    have x5 := st9_putA h9D HLn.out.2.1 x4
    have y5 : Bq (z + 1) 36 LU.toArray (V4.setCells z 0 UF) := (setCells_other (by omega) _ _ _).trans y4
    have z5 : Bq (z + 2) 38 _ (V4.setCells z 0 UF) := (setCells_other (by omega) _ _ _).trans z4
    have s5 : z + 3 ≤ (V4.setCells z 0 UF).heap.size := by rw [size_setCellsB]; exact s4
    have HB5 : Hid (Below z w (V4.setCells z 0 UF)) := below_cells HB4.out (Nat.le_refl _) _
    obtain ⟨V5, hV5⟩ : ∃ W, V4.setCells z 0 UF = W := ⟨_, rfl⟩
    rw [hV5] at x5 y5 z5 s5 HB5 ⊢
    clear hV5 x4 y4 z4 s4 HB4
    clear RU ht cf cu la
    have h9_ := L9.mk HLn.out.2.1 h9D.b h9D.c h9D.d h9D.e
    have cf : V5.cell? ⟨z, 0, none⟩ = some (.int .u64 (fs : Int)) := cell_of_block x5 0 _ (st9_A 0 _ f0)
    have cn : V5.cell? ⟨z, 9, none⟩ = some (.int .u64 (ns : Int)) := cell_of_block x5 9 _ (st9_B h9_ 0 _ b0)
    cases an with
    | false =>
     have la : ¬ (ns : Int) < fs := by have := of_decide_eq_false han.out; omega
     have hone : Hid ((st9 UF XB XC UC XE bh nl nt bf).toArray.all (·.oneCell') = true) := show _ from (by
      refine one_arr (st9_one ?_ ?_ ?_ ?_ oE _ _ _ _) <;> assumption)
     have hQ : Hid ((st9 UF XB XC UC XE bh nl nt bf).toArray.size = 51) := show _ by rw [List.size_toArray]; exact st9_len h9_
     have xF := x5
     have bF := HB5
     obtain ⟨F9, hF9⟩ : ∃ F, (st9 UF XB XC UC XE bh nl nt bf).toArray = F := ⟨_, rfl⟩
     rw [hF9] at xF hQ hone
     have HF : Hid _ := hF9
     have zF := z5
     have HZF : Hid _ := zF
     clear hF9 x5 y5 z5 s5
     go_wp2_with (first | (refine wpList_load_row rfl 38 _ rfl z rfl _ _ _ _ xF Tryz.underlying38 rfl (by rw [hQ.out]; kernel_rfl) ?_) | (refine store_row0 rfl rfl 38 _ _ rfl (z + 2) _ rfl rfl 38 _ zF (by rw [hQ.out]; kernel_rfl) (by rw [hQ.out]; rfl) hone.out ?_))
     refine bodyPost_ret (results_cell_row rfl _ _ (z + 2) 38 _ (0, 0) _ rfl (Bq.row (show Bq (z + 2) 38 _ _ from HZF.out) F9) Tryz.underlying38 rfl (by rw [hQ.out]; kernel_rfl)) rfl ⟨?_, ?_⟩
     ·rw [← HF.out]
      have HN := HANS.out
      rw [eA.out, eB.out] at HN
      exact congrArg (fun a => Ending.returned (Value.agg a)) HN
     ·rw [HZ.out]
      exact below_row bF.out (by omega) F9
    | true =>
     have la : (ns : Int) < fs := by have := of_decide_eq_true han.out; omega
     have RU := range_of_block x5 0 UF st9_A
     have ht : V5.there z 9 UF.length := there_of_block x5 (by rw [HLn.out.2.1, st9_len h9_]; omega)
     go_wp2_with (first | (refine wpList_load_mid rfl 29 _ rfl z 0 rfl _ _ RU Tryz.underlying29 rfl (by rw [HLn.out.2.1]; kernel_rfl) ?_) | (refine load_mid_wanted (by rfl) 29 _ rfl z 0 rfl _ _ RU Tryz.underlying29 rfl (by rw [HLn.out.2.1]; kernel_rfl) ?_) | (refine store_mid0 rfl rfl 29 _ _ rfl z 9 UF rfl rfl ht (by rw [HLn.out.2.1]; kernel_rfl) o9 ?_; refine Stp.out ?_))
     refine ⟨?_⟩
     have x6 := st9_putB h9_ HLn.out.2.1 x5
     have y6 : Bq (z + 1) 36 LU.toArray (V5.setCells z 9 UF) := (setCells_other (by omega) _ _ _).trans y5
     have z6 : Bq (z + 2) 38 _ (V5.setCells z 9 UF) := (setCells_other (by omega) _ _ _).trans z5
     have s6 : z + 3 ≤ (V5.setCells z 9 UF).heap.size := by rw [size_setCellsB]; exact s5
     have HB6 : Hid (Below z w (V5.setCells z 9 UF)) := below_cells HB5.out (Nat.le_refl _) _
     obtain ⟨V6, hV6⟩ : ∃ W, V5.setCells z 9 UF = W := ⟨_, rfl⟩
     rw [hV6] at x6 y6 z6 s6 HB6 ⊢
     clear hV6 x5 y5 z5 s5 HB5
     clear RU ht cf cn la
     have h9f : L9 UF UF XC UC XE := ⟨HLn.out.2.1, HLn.out.2.1, h9D.c, h9D.d, h9D.e⟩
     have hone : Hid ((st9 UF UF XC UC XE bh nl nt bf).toArray.all (·.oneCell') = true) := show _ from (by
      refine one_arr (st9_one ?_ ?_ ?_ ?_ oE _ _ _ _) <;> assumption)
     have hQ : Hid ((st9 UF UF XC UC XE bh nl nt bf).toArray.size = 51) := show _ by rw [List.size_toArray]; exact st9_len h9f
     have xF := x6
     have bF := HB6
     obtain ⟨F9, hF9⟩ : ∃ F, (st9 UF UF XC UC XE bh nl nt bf).toArray = F := ⟨_, rfl⟩
     rw [hF9] at xF hQ hone
     have HF : Hid _ := hF9
     have zF := z6
     have HZF : Hid _ := zF
     clear hF9 x6 y6 z6 s6
     go_wp2_with (first | (refine wpList_load_row rfl 38 _ rfl z rfl _ _ _ _ xF Tryz.underlying38 rfl (by rw [hQ.out]; kernel_rfl) ?_) | (refine store_row0 rfl rfl 38 _ _ rfl (z + 2) _ rfl rfl 38 _ zF (by rw [hQ.out]; kernel_rfl) (by rw [hQ.out]; rfl) hone.out ?_))
     refine bodyPost_ret (results_cell_row rfl _ _ (z + 2) 38 _ (0, 0) _ rfl (Bq.row (show Bq (z + 2) 38 _ _ from HZF.out) F9) Tryz.underlying38 rfl (by rw [hQ.out]; kernel_rfl)) rfl ⟨?_, ?_⟩
     ·rw [← HF.out]
      have HN := HANS.out
      rw [eA.out, eB.out] at HN
      exact congrArg (fun a => Ending.returned (Value.agg a)) HN
     ·rw [HZ.out]
      exact below_row bF.out (by omega) F9

  ·have he : ((now : Int) == (was : Int)) = false := by rw [beq_eq_false_iff_ne]; omega
   have eA : Hid ((!false && decide (now = was)) = false) := show (!false && decide (now = was)) = false by simp [h]
   have eB : Hid ((false && decide (now = was + 1)) = false) := show _ from rfl
   have cf : V3.cell? ⟨z, 0, none⟩ = some (.int .u64 (ss : Int)) := cell_of_block x3 0 _ (st9_A 0 _ a0)
   have cu : V3.cell? ⟨z + 1, 12, none⟩ = some (.int .u64 (fs : Int)) := cell_of_block y3 12 _ (u12 0 _ f0)
   cases ab with
   | false =>
    have la : ¬ (ss : Int) < fs := by have := of_decide_eq_false hab.out; omega
    have hone : Hid ((st9 XA XB XC XD XE bh nl nt bf).toArray.all (·.oneCell') = true) := show _ from (by
     refine one_arr (st9_one ?_ ?_ ?_ ?_ oE _ _ _ _) <;> assumption)
    have hQ : Hid ((st9 XA XB XC XD XE bh nl nt bf).toArray.size = 51) := show _ by rw [List.size_toArray]; exact st9_len H9.out
    have xF := x3
    have bF := HB3
    obtain ⟨F9, hF9⟩ : ∃ F, (st9 XA XB XC XD XE bh nl nt bf).toArray = F := ⟨_, rfl⟩
    rw [hF9] at xF hQ hone
    have HF : Hid _ := hF9
    have zF := z3
    have HZF : Hid _ := zF
    clear hF9 x3 y3 z3 s3
    go_wp2_with (first | (refine wpList_load_row rfl 38 _ rfl z rfl _ _ _ _ xF Tryz.underlying38 rfl (by rw [hQ.out]; kernel_rfl) ?_) | (refine store_row0 rfl rfl 38 _ _ rfl (z + 2) _ rfl rfl 38 _ zF (by rw [hQ.out]; kernel_rfl) (by rw [hQ.out]; rfl) hone.out ?_))
    refine bodyPost_ret (results_cell_row rfl _ _ (z + 2) 38 _ (0, 0) _ rfl (Bq.row (show Bq (z + 2) 38 _ _ from HZF.out) F9) Tryz.underlying38 rfl (by rw [hQ.out]; kernel_rfl)) rfl ⟨?_, ?_⟩
    ·rw [← HF.out]
     have HN := HANS.out
     rw [eA.out, eB.out] at HN
     exact congrArg (fun a => Ending.returned (Value.agg a)) HN
    ·rw [HZ.out]
     exact below_row bF.out (by omega) F9
   | true =>
    have la : (ss : Int) < fs := by have := of_decide_eq_true hab.out; omega
    have RU := range_of_block y3 12 UF u12
    have ht : V3.there z 0 UF.length := there_of_block x3 (by rw [HLn.out.2.1, st9_len H9.out]; omega)
    go_wp2_with (first | (refine wpList_load_mid rfl 29 _ rfl (z + 1) 12 rfl _ _ RU Tryz.underlying29 rfl (by rw [HLn.out.2.1]; kernel_rfl) ?_) | (refine load_mid_wanted (by rfl) 29 _ rfl (z + 1) 12 rfl _ _ RU Tryz.underlying29 rfl (by rw [HLn.out.2.1]; kernel_rfl) ?_) | (refine store_mid0 rfl rfl 29 _ _ rfl z 0 UF rfl rfl ht (by rw [HLn.out.2.1]; kernel_rfl) o9 ?_; refine Stp.out ?_))
    refine ⟨?_⟩
    have x4 := st9_putA H9.out HLn.out.2.1 x3
    have y4 : Bq (z + 1) 36 LU.toArray (V3.setCells z 0 UF) := (setCells_other (by omega) _ _ _).trans y3
    have z4 : Bq (z + 2) 38 _ (V3.setCells z 0 UF) := (setCells_other (by omega) _ _ _).trans z3
    have s4 : z + 3 ≤ (V3.setCells z 0 UF).heap.size := by rw [size_setCellsB]; exact s3
    have HB4 : Hid (Below z w (V3.setCells z 0 UF)) := below_cells HB3.out (Nat.le_refl _) _
    obtain ⟨V4, hV4⟩ : ∃ W, V3.setCells z 0 UF = W := ⟨_, rfl⟩
    rw [hV4] at x4 y4 z4 s4 HB4 ⊢
    clear hV4 x3 y3 z3 s3 HB3
    clear RU ht cf cu la
    have h9_ := L9.mk HLn.out.2.1 H9.out.b H9.out.c H9.out.d H9.out.e
    have cf : V4.cell? ⟨z, 0, none⟩ = some (.int .u64 (fs : Int)) := cell_of_block x4 0 _ (st9_A 0 _ f0)
    have cn : V4.cell? ⟨z, 9, none⟩ = some (.int .u64 (ns : Int)) := cell_of_block x4 9 _ (st9_B h9_ 0 _ b0)
    cases an with
    | false =>
     have la : ¬ (ns : Int) < fs := by have := of_decide_eq_false han.out; omega
     have hone : Hid ((st9 UF XB XC XD XE bh nl nt bf).toArray.all (·.oneCell') = true) := show _ from (by
      refine one_arr (st9_one ?_ ?_ ?_ ?_ oE _ _ _ _) <;> assumption)
     have hQ : Hid ((st9 UF XB XC XD XE bh nl nt bf).toArray.size = 51) := show _ by rw [List.size_toArray]; exact st9_len h9_
     have xF := x4
     have bF := HB4
     obtain ⟨F9, hF9⟩ : ∃ F, (st9 UF XB XC XD XE bh nl nt bf).toArray = F := ⟨_, rfl⟩
     rw [hF9] at xF hQ hone
     have HF : Hid _ := hF9
     have zF := z4
     have HZF : Hid _ := zF
     clear hF9 x4 y4 z4 s4
     go_wp2_with (first | (refine wpList_load_row rfl 38 _ rfl z rfl _ _ _ _ xF Tryz.underlying38 rfl (by rw [hQ.out]; kernel_rfl) ?_) | (refine store_row0 rfl rfl 38 _ _ rfl (z + 2) _ rfl rfl 38 _ zF (by rw [hQ.out]; kernel_rfl) (by rw [hQ.out]; rfl) hone.out ?_))
     refine bodyPost_ret (results_cell_row rfl _ _ (z + 2) 38 _ (0, 0) _ rfl (Bq.row (show Bq (z + 2) 38 _ _ from HZF.out) F9) Tryz.underlying38 rfl (by rw [hQ.out]; kernel_rfl)) rfl ⟨?_, ?_⟩
     ·rw [← HF.out]
      have HN := HANS.out
      rw [eA.out, eB.out] at HN
      exact congrArg (fun a => Ending.returned (Value.agg a)) HN
     ·rw [HZ.out]
      exact below_row bF.out (by omega) F9
    | true =>
     have la : (ns : Int) < fs := by have := of_decide_eq_true han.out; omega
     have RU := range_of_block x4 0 UF st9_A
     have ht : V4.there z 9 UF.length := there_of_block x4 (by rw [HLn.out.2.1, st9_len h9_]; omega)
     go_wp2_with (first | (refine wpList_load_mid rfl 29 _ rfl z 0 rfl _ _ RU Tryz.underlying29 rfl (by rw [HLn.out.2.1]; kernel_rfl) ?_) | (refine load_mid_wanted (by rfl) 29 _ rfl z 0 rfl _ _ RU Tryz.underlying29 rfl (by rw [HLn.out.2.1]; kernel_rfl) ?_) | (refine store_mid0 rfl rfl 29 _ _ rfl z 9 UF rfl rfl ht (by rw [HLn.out.2.1]; kernel_rfl) o9 ?_; refine Stp.out ?_))
     refine ⟨?_⟩
     have x5 := st9_putB h9_ HLn.out.2.1 x4
     have y5 : Bq (z + 1) 36 LU.toArray (V4.setCells z 9 UF) := (setCells_other (by omega) _ _ _).trans y4
     have z5 : Bq (z + 2) 38 _ (V4.setCells z 9 UF) := (setCells_other (by omega) _ _ _).trans z4
     have s5 : z + 3 ≤ (V4.setCells z 9 UF).heap.size := by rw [size_setCellsB]; exact s4
     have HB5 : Hid (Below z w (V4.setCells z 9 UF)) := below_cells HB4.out (Nat.le_refl _) _
     obtain ⟨V5, hV5⟩ : ∃ W, V4.setCells z 9 UF = W := ⟨_, rfl⟩
     rw [hV5] at x5 y5 z5 s5 HB5 ⊢
     clear hV5 x4 y4 z4 s4 HB4
     clear RU ht cf cn la
     have h9f : L9 UF UF XC XD XE := ⟨HLn.out.2.1, HLn.out.2.1, H9.out.c, H9.out.d, H9.out.e⟩
     have hone : Hid ((st9 UF UF XC XD XE bh nl nt bf).toArray.all (·.oneCell') = true) := show _ from (by
      refine one_arr (st9_one ?_ ?_ ?_ ?_ oE _ _ _ _) <;> assumption)
     have hQ : Hid ((st9 UF UF XC XD XE bh nl nt bf).toArray.size = 51) := show _ by rw [List.size_toArray]; exact st9_len h9f
     have xF := x5
     have bF := HB5
     obtain ⟨F9, hF9⟩ : ∃ F, (st9 UF UF XC XD XE bh nl nt bf).toArray = F := ⟨_, rfl⟩
     rw [hF9] at xF hQ hone
     have HF : Hid _ := hF9
     have zF := z5
     have HZF : Hid _ := zF
     clear hF9 x5 y5 z5 s5
     go_wp2_with (first | (refine wpList_load_row rfl 38 _ rfl z rfl _ _ _ _ xF Tryz.underlying38 rfl (by rw [hQ.out]; kernel_rfl) ?_) | (refine store_row0 rfl rfl 38 _ _ rfl (z + 2) _ rfl rfl 38 _ zF (by rw [hQ.out]; kernel_rfl) (by rw [hQ.out]; rfl) hone.out ?_))
     refine bodyPost_ret (results_cell_row rfl _ _ (z + 2) 38 _ (0, 0) _ rfl (Bq.row (show Bq (z + 2) 38 _ _ from HZF.out) F9) Tryz.underlying38 rfl (by rw [hQ.out]; kernel_rfl)) rfl ⟨?_, ?_⟩
     ·rw [← HF.out]
      have HN := HANS.out
      rw [eA.out, eB.out] at HN
      exact congrArg (fun a => Ending.returned (Value.agg a)) HN
     ·rw [HZ.out]
      exact below_row bF.out (by omega) F9

 | true =>
  have wk : IntKind.u64.wrap ((was : Int) + 1) = ((was + 1 : Nat) : Int) := by rw [IntKind.wrap_u64]; omega
  by_cases h : now = was + 1
  ·subst h
   have he : (((was + 1 : Nat) : Int) == ((was + 1 : Nat) : Int)) = true := beq_self_eq_true _
   have eA : Hid ((!true && decide (was + 1 = was)) = false) := show _ from rfl
   have eB : Hid ((true && decide (was + 1 = was + 1)) = true) := show (true && decide (was + 1 = was + 1)) = true by simp
   have QN := range_of_block x3 20 XD (st9_D H9.out)
   have ht : V3.there z 18 XD.length := there_of_block x3 (by rw [sD.out.1, st9_len H9.out]; omega)
   go_wp2_with (first | (refine wpList_load_mid rfl 31 _ rfl z 20 rfl _ _ QN Tryz.underlying31 rfl (by rw [sD.out.1]; kernel_rfl) ?_) | (refine load_mid_wanted (by rfl) 31 _ rfl z 20 rfl _ _ QN Tryz.underlying31 rfl (by rw [sD.out.1]; kernel_rfl) ?_) | (refine store_mid0 rfl rfl 31 _ _ rfl z 18 XD rfl rfl ht (by rw [sD.out.1]; kernel_rfl) on ?_; refine Stp.out ?_))
   refine ⟨?_⟩
   have x4 := st9_putC H9.out sD.out.1 x3
   have y4 : Bq (z + 1) 36 LU.toArray (V3.setCells z 18 XD) := (setCells_other (by omega) _ _ _).trans y3
   have z4 : Bq (z + 2) 38 _ (V3.setCells z 18 XD) := (setCells_other (by omega) _ _ _).trans z3
   have s4 : z + 3 ≤ (V3.setCells z 18 XD).heap.size := by rw [size_setCellsB]; exact s3
   have HB4 : Hid (Below z w (V3.setCells z 18 XD)) := below_cells HB3.out (Nat.le_refl _) _
   obtain ⟨V4, hV4⟩ : ∃ W, V3.setCells z 18 XD = W := ⟨_, rfl⟩
   rw [hV4] at x4 y4 z4 s4 HB4 ⊢
   clear hV4 x3 y3 z3 s3 HB3
   clear ht QN
   have h9C : L9 XA XB XD XD XE := ⟨H9.out.a, H9.out.b, sD.out.1, H9.out.d, H9.out.e⟩
   have UC9 := range_of_block y4 9 UC u9
   have ht : V4.there z 20 UC.length := there_of_block x4 (by rw [HLn.out.2.2, st9_len h9C]; omega)
   go_wp2_with (first | (refine wpList_load_mid rfl 31 _ rfl (z + 1) 9 rfl _ _ UC9 Tryz.underlying31 rfl (by rw [HLn.out.2.2]; kernel_rfl) ?_) | (refine load_mid_wanted (by rfl) 31 _ rfl (z + 1) 9 rfl _ _ UC9 Tryz.underlying31 rfl (by rw [HLn.out.2.2]; kernel_rfl) ?_) | (refine store_mid0 rfl rfl 31 _ _ rfl z 20 UC rfl rfl ht (by rw [HLn.out.2.2]; kernel_rfl) oc ?_; refine Stp.out ?_))
   refine ⟨?_⟩
   have x5 := st9_putD h9C HLn.out.2.2 x4
   have y5 : Bq (z + 1) 36 LU.toArray (V4.setCells z 20 UC) := (setCells_other (by omega) _ _ _).trans y4
   have z5 : Bq (z + 2) 38 _ (V4.setCells z 20 UC) := (setCells_other (by omega) _ _ _).trans z4
   have s5 : z + 3 ≤ (V4.setCells z 20 UC).heap.size := by rw [size_setCellsB]; exact s4
   have HB5 : Hid (Below z w (V4.setCells z 20 UC)) := below_cells HB4.out (Nat.le_refl _) _
   obtain ⟨V5, hV5⟩ : ∃ W, V4.setCells z 20 UC = W := ⟨_, rfl⟩
   rw [hV5] at x5 y5 z5 s5 HB5 ⊢
   clear hV5 x4 y4 z4 s4 HB4
   clear ht UC9
   have h9D : L9 XA XB XD UC XE := ⟨H9.out.a, H9.out.b, sD.out.1, HLn.out.2.2, H9.out.e⟩
   have c48 : V5.cell? ⟨z, 48, none⟩ = some (.int .i64 nl) := cell_of_block x5 48 _ (st9_l h9D)
   have c49 : V5.cell? ⟨z, 49, none⟩ = some (.int .i64 nt) := cell_of_block x5 49 _ (st9_t h9D)
   have f48 : V5.frozen? ⟨z, 48, none⟩ = false := Bq.fr x5 48
   have f49 : V5.frozen? ⟨z, 49, none⟩ = false := Bq.fr x5 49
   have x6 := st9_putt h9D 0 (st9_putl h9D nt x5)
   have y6 : Bq (z + 1) 36 LU.toArray ((V5.setCell ⟨z, 48, none⟩ (.int .i64 nt)).setCell ⟨z, 49, none⟩ (.int .i64 0)) := (Below.heap_setCell _ _ _ _ (show z + 1 ≠ z by omega)).trans ((Below.heap_setCell _ _ _ _ (show z + 1 ≠ z by omega)).trans y5)
   have z6 : Bq (z + 2) 38 _ ((V5.setCell ⟨z, 48, none⟩ (.int .i64 nt)).setCell ⟨z, 49, none⟩ (.int .i64 0)) := (Below.heap_setCell _ _ _ _ (show z + 2 ≠ z by omega)).trans ((Below.heap_setCell _ _ _ _ (show z + 2 ≠ z by omega)).trans z5)
   have s6 : z + 3 ≤ ((V5.setCell ⟨z, 48, none⟩ (.int .i64 nt)).setCell ⟨z, 49, none⟩ (.int .i64 0)).heap.size := by rw [size_setCell', size_setCell']; exact s5
   have HB6 : Hid (Below z w ((V5.setCell ⟨z, 48, none⟩ (.int .i64 nt)).setCell ⟨z, 49, none⟩ (.int .i64 0))) := show _ from (HB5.out.setCell (p := ⟨z, 48, none⟩) (Nat.le_refl _) _).setCell (p := ⟨z, 49, none⟩) (Nat.le_refl _) _
   clear x5 y5 z5 s5 HB5
   have cf : ((V5.setCell ⟨z, 48, none⟩ (.int .i64 nt)).setCell ⟨z, 49, none⟩ (.int .i64 0)).cell? ⟨z, 0, none⟩ = some (.int .u64 (ss : Int)) := cell_of_block x6 0 _ (st9_A 0 _ a0)
   have cu : ((V5.setCell ⟨z, 48, none⟩ (.int .i64 nt)).setCell ⟨z, 49, none⟩ (.int .i64 0)).cell? ⟨z + 1, 12, none⟩ = some (.int .u64 (fs : Int)) := cell_of_block y6 12 _ (u12 0 _ f0)
   cases ab with
   | false =>
    have la : ¬ (ss : Int) < fs := by have := of_decide_eq_false hab.out; omega
    have hone : Hid ((st9 XA XB XD UC XE bh nt 0 bf).toArray.all (·.oneCell') = true) := show _ from (by
     refine one_arr (st9_one ?_ ?_ ?_ ?_ oE _ _ _ _) <;> assumption)
    have hQ : Hid ((st9 XA XB XD UC XE bh nt 0 bf).toArray.size = 51) := show _ by rw [List.size_toArray]; exact st9_len h9D
    have xF := x6
    have bF := HB6
    obtain ⟨F9, hF9⟩ : ∃ F, (st9 XA XB XD UC XE bh nt 0 bf).toArray = F := ⟨_, rfl⟩
    rw [hF9] at xF hQ hone
    have HF : Hid _ := hF9
    have zF := z6
    have HZF : Hid _ := zF
    clear hF9 x6 y6 z6 s6
    go_wp2_with (first | (refine wpList_load_row rfl 38 _ rfl z rfl _ _ _ _ xF Tryz.underlying38 rfl (by rw [hQ.out]; kernel_rfl) ?_) | (refine store_row0 rfl rfl 38 _ _ rfl (z + 2) _ rfl rfl 38 _ zF (by rw [hQ.out]; kernel_rfl) (by rw [hQ.out]; rfl) hone.out ?_))
    refine bodyPost_ret (results_cell_row rfl _ _ (z + 2) 38 _ (0, 0) _ rfl (Bq.row (show Bq (z + 2) 38 _ _ from HZF.out) F9) Tryz.underlying38 rfl (by rw [hQ.out]; kernel_rfl)) rfl ⟨?_, ?_⟩
    ·rw [← HF.out]
     have HN := HANS.out
     rw [eA.out, eB.out] at HN
     exact congrArg (fun a => Ending.returned (Value.agg a)) HN
    ·rw [HZ.out]
     exact below_row bF.out (by omega) F9
   | true =>
    have la : (ss : Int) < fs := by have := of_decide_eq_true hab.out; omega
    have RU := range_of_block y6 12 UF u12
    have ht : ((V5.setCell ⟨z, 48, none⟩ (.int .i64 nt)).setCell ⟨z, 49, none⟩ (.int .i64 0)).there z 0 UF.length := there_of_block x6 (by rw [HLn.out.2.1, st9_len h9D]; omega)
    go_wp2_with (first | (refine wpList_load_mid rfl 29 _ rfl (z + 1) 12 rfl _ _ RU Tryz.underlying29 rfl (by rw [HLn.out.2.1]; kernel_rfl) ?_) | (refine load_mid_wanted (by rfl) 29 _ rfl (z + 1) 12 rfl _ _ RU Tryz.underlying29 rfl (by rw [HLn.out.2.1]; kernel_rfl) ?_) | (refine store_mid0 rfl rfl 29 _ _ rfl z 0 UF rfl rfl ht (by rw [HLn.out.2.1]; kernel_rfl) o9 ?_; refine Stp.out ?_))
    refine ⟨?_⟩
    have x7 := st9_putA h9D HLn.out.2.1 x6
    have y7 : Bq (z + 1) 36 LU.toArray (((V5.setCell ⟨z, 48, none⟩ (.int .i64 nt)).setCell ⟨z, 49, none⟩ (.int .i64 0)).setCells z 0 UF) := (setCells_other (by omega) _ _ _).trans y6
    have z7 : Bq (z + 2) 38 _ (((V5.setCell ⟨z, 48, none⟩ (.int .i64 nt)).setCell ⟨z, 49, none⟩ (.int .i64 0)).setCells z 0 UF) := (setCells_other (by omega) _ _ _).trans z6
    have s7 : z + 3 ≤ (((V5.setCell ⟨z, 48, none⟩ (.int .i64 nt)).setCell ⟨z, 49, none⟩ (.int .i64 0)).setCells z 0 UF).heap.size := by rw [size_setCellsB]; exact s6
    have HB7 : Hid (Below z w (((V5.setCell ⟨z, 48, none⟩ (.int .i64 nt)).setCell ⟨z, 49, none⟩ (.int .i64 0)).setCells z 0 UF)) := below_cells HB6.out (Nat.le_refl _) _
    obtain ⟨V7, hV7⟩ : ∃ W, ((V5.setCell ⟨z, 48, none⟩ (.int .i64 nt)).setCell ⟨z, 49, none⟩ (.int .i64 0)).setCells z 0 UF = W := ⟨_, rfl⟩
    rw [hV7] at x7 y7 z7 s7 HB7 ⊢
    clear hV7 x6 y6 z6 s6 HB6
    clear RU ht cf cu la
    have h9_ := L9.mk HLn.out.2.1 h9D.b h9D.c h9D.d h9D.e
    have cf : V7.cell? ⟨z, 0, none⟩ = some (.int .u64 (fs : Int)) := cell_of_block x7 0 _ (st9_A 0 _ f0)
    have cn : V7.cell? ⟨z, 9, none⟩ = some (.int .u64 (ns : Int)) := cell_of_block x7 9 _ (st9_B h9_ 0 _ b0)
    cases an with
    | false =>
     have la : ¬ (ns : Int) < fs := by have := of_decide_eq_false han.out; omega
     have hone : Hid ((st9 UF XB XD UC XE bh nt 0 bf).toArray.all (·.oneCell') = true) := show _ from (by
      refine one_arr (st9_one ?_ ?_ ?_ ?_ oE _ _ _ _) <;> assumption)
     have hQ : Hid ((st9 UF XB XD UC XE bh nt 0 bf).toArray.size = 51) := show _ by rw [List.size_toArray]; exact st9_len h9_
     have xF := x7
     have bF := HB7
     obtain ⟨F9, hF9⟩ : ∃ F, (st9 UF XB XD UC XE bh nt 0 bf).toArray = F := ⟨_, rfl⟩
     rw [hF9] at xF hQ hone
     have HF : Hid _ := hF9
     have zF := z7
     have HZF : Hid _ := zF
     clear hF9 x7 y7 z7 s7
     go_wp2_with (first | (refine wpList_load_row rfl 38 _ rfl z rfl _ _ _ _ xF Tryz.underlying38 rfl (by rw [hQ.out]; kernel_rfl) ?_) | (refine store_row0 rfl rfl 38 _ _ rfl (z + 2) _ rfl rfl 38 _ zF (by rw [hQ.out]; kernel_rfl) (by rw [hQ.out]; rfl) hone.out ?_))
     refine bodyPost_ret (results_cell_row rfl _ _ (z + 2) 38 _ (0, 0) _ rfl (Bq.row (show Bq (z + 2) 38 _ _ from HZF.out) F9) Tryz.underlying38 rfl (by rw [hQ.out]; kernel_rfl)) rfl ⟨?_, ?_⟩
     ·rw [← HF.out]
      have HN := HANS.out
      rw [eA.out, eB.out] at HN
      exact congrArg (fun a => Ending.returned (Value.agg a)) HN
     ·rw [HZ.out]
      exact below_row bF.out (by omega) F9
    | true =>
     have la : (ns : Int) < fs := by have := of_decide_eq_true han.out; omega
     have RU := range_of_block x7 0 UF st9_A
     have ht : V7.there z 9 UF.length := there_of_block x7 (by rw [HLn.out.2.1, st9_len h9_]; omega)
     go_wp2_with (first | (refine wpList_load_mid rfl 29 _ rfl z 0 rfl _ _ RU Tryz.underlying29 rfl (by rw [HLn.out.2.1]; kernel_rfl) ?_) | (refine load_mid_wanted (by rfl) 29 _ rfl z 0 rfl _ _ RU Tryz.underlying29 rfl (by rw [HLn.out.2.1]; kernel_rfl) ?_) | (refine store_mid0 rfl rfl 29 _ _ rfl z 9 UF rfl rfl ht (by rw [HLn.out.2.1]; kernel_rfl) o9 ?_; refine Stp.out ?_))
     refine ⟨?_⟩
     have x8 := st9_putB h9_ HLn.out.2.1 x7
     have y8 : Bq (z + 1) 36 LU.toArray (V7.setCells z 9 UF) := (setCells_other (by omega) _ _ _).trans y7
     have z8 : Bq (z + 2) 38 _ (V7.setCells z 9 UF) := (setCells_other (by omega) _ _ _).trans z7
     have s8 : z + 3 ≤ (V7.setCells z 9 UF).heap.size := by rw [size_setCellsB]; exact s7
     have HB8 : Hid (Below z w (V7.setCells z 9 UF)) := below_cells HB7.out (Nat.le_refl _) _
     obtain ⟨V8, hV8⟩ : ∃ W, V7.setCells z 9 UF = W := ⟨_, rfl⟩
     rw [hV8] at x8 y8 z8 s8 HB8 ⊢
     clear hV8 x7 y7 z7 s7 HB7
     clear RU ht cf cn la
     have h9f : L9 UF UF XD UC XE := ⟨HLn.out.2.1, HLn.out.2.1, h9D.c, h9D.d, h9D.e⟩
     have hone : Hid ((st9 UF UF XD UC XE bh nt 0 bf).toArray.all (·.oneCell') = true) := show _ from (by
      refine one_arr (st9_one ?_ ?_ ?_ ?_ oE _ _ _ _) <;> assumption)
     have hQ : Hid ((st9 UF UF XD UC XE bh nt 0 bf).toArray.size = 51) := show _ by rw [List.size_toArray]; exact st9_len h9f
     have xF := x8
     have bF := HB8
     obtain ⟨F9, hF9⟩ : ∃ F, (st9 UF UF XD UC XE bh nt 0 bf).toArray = F := ⟨_, rfl⟩
     rw [hF9] at xF hQ hone
     have HF : Hid _ := hF9
     have zF := z8
     have HZF : Hid _ := zF
     clear hF9 x8 y8 z8 s8
     go_wp2_with (first | (refine wpList_load_row rfl 38 _ rfl z rfl _ _ _ _ xF Tryz.underlying38 rfl (by rw [hQ.out]; kernel_rfl) ?_) | (refine store_row0 rfl rfl 38 _ _ rfl (z + 2) _ rfl rfl 38 _ zF (by rw [hQ.out]; kernel_rfl) (by rw [hQ.out]; rfl) hone.out ?_))
     refine bodyPost_ret (results_cell_row rfl _ _ (z + 2) 38 _ (0, 0) _ rfl (Bq.row (show Bq (z + 2) 38 _ _ from HZF.out) F9) Tryz.underlying38 rfl (by rw [hQ.out]; kernel_rfl)) rfl ⟨?_, ?_⟩
     ·rw [← HF.out]
      have HN := HANS.out
      rw [eA.out, eB.out] at HN
      exact congrArg (fun a => Ending.returned (Value.agg a)) HN
     ·rw [HZ.out]
      exact below_row bF.out (by omega) F9

  ·have he : ((now : Int) == ((was + 1 : Nat) : Int)) = false := by rw [beq_eq_false_iff_ne]; omega
   have eA : Hid ((!true && decide (now = was)) = false) := show _ from rfl
   have eB : Hid ((true && decide (now = was + 1)) = false) := show (true && decide (now = was + 1)) = false by simp [h]
   have cf : V3.cell? ⟨z, 0, none⟩ = some (.int .u64 (ss : Int)) := cell_of_block x3 0 _ (st9_A 0 _ a0)
   have cu : V3.cell? ⟨z + 1, 12, none⟩ = some (.int .u64 (fs : Int)) := cell_of_block y3 12 _ (u12 0 _ f0)
   cases ab with
   | false =>
    have la : ¬ (ss : Int) < fs := by have := of_decide_eq_false hab.out; omega
    have hone : Hid ((st9 XA XB XC XD XE bh nl nt bf).toArray.all (·.oneCell') = true) := show _ from (by
     refine one_arr (st9_one ?_ ?_ ?_ ?_ oE _ _ _ _) <;> assumption)
    have hQ : Hid ((st9 XA XB XC XD XE bh nl nt bf).toArray.size = 51) := show _ by rw [List.size_toArray]; exact st9_len H9.out
    have xF := x3
    have bF := HB3
    obtain ⟨F9, hF9⟩ : ∃ F, (st9 XA XB XC XD XE bh nl nt bf).toArray = F := ⟨_, rfl⟩
    rw [hF9] at xF hQ hone
    have HF : Hid _ := hF9
    have zF := z3
    have HZF : Hid _ := zF
    clear hF9 x3 y3 z3 s3
    go_wp2_with (first | (refine wpList_load_row rfl 38 _ rfl z rfl _ _ _ _ xF Tryz.underlying38 rfl (by rw [hQ.out]; kernel_rfl) ?_) | (refine store_row0 rfl rfl 38 _ _ rfl (z + 2) _ rfl rfl 38 _ zF (by rw [hQ.out]; kernel_rfl) (by rw [hQ.out]; rfl) hone.out ?_))
    refine bodyPost_ret (results_cell_row rfl _ _ (z + 2) 38 _ (0, 0) _ rfl (Bq.row (show Bq (z + 2) 38 _ _ from HZF.out) F9) Tryz.underlying38 rfl (by rw [hQ.out]; kernel_rfl)) rfl ⟨?_, ?_⟩
    ·rw [← HF.out]
     have HN := HANS.out
     rw [eA.out, eB.out] at HN
     exact congrArg (fun a => Ending.returned (Value.agg a)) HN
    ·rw [HZ.out]
     exact below_row bF.out (by omega) F9
   | true =>
    have la : (ss : Int) < fs := by have := of_decide_eq_true hab.out; omega
    have RU := range_of_block y3 12 UF u12
    have ht : V3.there z 0 UF.length := there_of_block x3 (by rw [HLn.out.2.1, st9_len H9.out]; omega)
    go_wp2_with (first | (refine wpList_load_mid rfl 29 _ rfl (z + 1) 12 rfl _ _ RU Tryz.underlying29 rfl (by rw [HLn.out.2.1]; kernel_rfl) ?_) | (refine load_mid_wanted (by rfl) 29 _ rfl (z + 1) 12 rfl _ _ RU Tryz.underlying29 rfl (by rw [HLn.out.2.1]; kernel_rfl) ?_) | (refine store_mid0 rfl rfl 29 _ _ rfl z 0 UF rfl rfl ht (by rw [HLn.out.2.1]; kernel_rfl) o9 ?_; refine Stp.out ?_))
    refine ⟨?_⟩
    have x4 := st9_putA H9.out HLn.out.2.1 x3
    have y4 : Bq (z + 1) 36 LU.toArray (V3.setCells z 0 UF) := (setCells_other (by omega) _ _ _).trans y3
    have z4 : Bq (z + 2) 38 _ (V3.setCells z 0 UF) := (setCells_other (by omega) _ _ _).trans z3
    have s4 : z + 3 ≤ (V3.setCells z 0 UF).heap.size := by rw [size_setCellsB]; exact s3
    have HB4 : Hid (Below z w (V3.setCells z 0 UF)) := below_cells HB3.out (Nat.le_refl _) _
    obtain ⟨V4, hV4⟩ : ∃ W, V3.setCells z 0 UF = W := ⟨_, rfl⟩
    rw [hV4] at x4 y4 z4 s4 HB4 ⊢
    clear hV4 x3 y3 z3 s3 HB3
    clear RU ht cf cu la
    have h9_ := L9.mk HLn.out.2.1 H9.out.b H9.out.c H9.out.d H9.out.e
    have cf : V4.cell? ⟨z, 0, none⟩ = some (.int .u64 (fs : Int)) := cell_of_block x4 0 _ (st9_A 0 _ f0)
    have cn : V4.cell? ⟨z, 9, none⟩ = some (.int .u64 (ns : Int)) := cell_of_block x4 9 _ (st9_B h9_ 0 _ b0)
    cases an with
    | false =>
     have la : ¬ (ns : Int) < fs := by have := of_decide_eq_false han.out; omega
     have hone : Hid ((st9 UF XB XC XD XE bh nl nt bf).toArray.all (·.oneCell') = true) := show _ from (by
      refine one_arr (st9_one ?_ ?_ ?_ ?_ oE _ _ _ _) <;> assumption)
     have hQ : Hid ((st9 UF XB XC XD XE bh nl nt bf).toArray.size = 51) := show _ by rw [List.size_toArray]; exact st9_len h9_
     have xF := x4
     have bF := HB4
     obtain ⟨F9, hF9⟩ : ∃ F, (st9 UF XB XC XD XE bh nl nt bf).toArray = F := ⟨_, rfl⟩
     rw [hF9] at xF hQ hone
     have HF : Hid _ := hF9
     have zF := z4
     have HZF : Hid _ := zF
     clear hF9 x4 y4 z4 s4
     go_wp2_with (first | (refine wpList_load_row rfl 38 _ rfl z rfl _ _ _ _ xF Tryz.underlying38 rfl (by rw [hQ.out]; kernel_rfl) ?_) | (refine store_row0 rfl rfl 38 _ _ rfl (z + 2) _ rfl rfl 38 _ zF (by rw [hQ.out]; kernel_rfl) (by rw [hQ.out]; rfl) hone.out ?_))
     refine bodyPost_ret (results_cell_row rfl _ _ (z + 2) 38 _ (0, 0) _ rfl (Bq.row (show Bq (z + 2) 38 _ _ from HZF.out) F9) Tryz.underlying38 rfl (by rw [hQ.out]; kernel_rfl)) rfl ⟨?_, ?_⟩
     ·rw [← HF.out]
      have HN := HANS.out
      rw [eA.out, eB.out] at HN
      exact congrArg (fun a => Ending.returned (Value.agg a)) HN
     ·rw [HZ.out]
      exact below_row bF.out (by omega) F9
    | true =>
     have la : (ns : Int) < fs := by have := of_decide_eq_true han.out; omega
     have RU := range_of_block x4 0 UF st9_A
     have ht : V4.there z 9 UF.length := there_of_block x4 (by rw [HLn.out.2.1, st9_len h9_]; omega)
     go_wp2_with (first | (refine wpList_load_mid rfl 29 _ rfl z 0 rfl _ _ RU Tryz.underlying29 rfl (by rw [HLn.out.2.1]; kernel_rfl) ?_) | (refine load_mid_wanted (by rfl) 29 _ rfl z 0 rfl _ _ RU Tryz.underlying29 rfl (by rw [HLn.out.2.1]; kernel_rfl) ?_) | (refine store_mid0 rfl rfl 29 _ _ rfl z 9 UF rfl rfl ht (by rw [HLn.out.2.1]; kernel_rfl) o9 ?_; refine Stp.out ?_))
     refine ⟨?_⟩
     have x5 := st9_putB h9_ HLn.out.2.1 x4
     have y5 : Bq (z + 1) 36 LU.toArray (V4.setCells z 9 UF) := (setCells_other (by omega) _ _ _).trans y4
     have z5 : Bq (z + 2) 38 _ (V4.setCells z 9 UF) := (setCells_other (by omega) _ _ _).trans z4
     have s5 : z + 3 ≤ (V4.setCells z 9 UF).heap.size := by rw [size_setCellsB]; exact s4
     have HB5 : Hid (Below z w (V4.setCells z 9 UF)) := below_cells HB4.out (Nat.le_refl _) _
     obtain ⟨V5, hV5⟩ : ∃ W, V4.setCells z 9 UF = W := ⟨_, rfl⟩
     rw [hV5] at x5 y5 z5 s5 HB5 ⊢
     clear hV5 x4 y4 z4 s4 HB4
     clear RU ht cf cn la
     have h9f : L9 UF UF XC XD XE := ⟨HLn.out.2.1, HLn.out.2.1, H9.out.c, H9.out.d, H9.out.e⟩
     have hone : Hid ((st9 UF UF XC XD XE bh nl nt bf).toArray.all (·.oneCell') = true) := show _ from (by
      refine one_arr (st9_one ?_ ?_ ?_ ?_ oE _ _ _ _) <;> assumption)
     have hQ : Hid ((st9 UF UF XC XD XE bh nl nt bf).toArray.size = 51) := show _ by rw [List.size_toArray]; exact st9_len h9f
     have xF := x5
     have bF := HB5
     obtain ⟨F9, hF9⟩ : ∃ F, (st9 UF UF XC XD XE bh nl nt bf).toArray = F := ⟨_, rfl⟩
     rw [hF9] at xF hQ hone
     have HF : Hid _ := hF9
     have zF := z5
     have HZF : Hid _ := zF
     clear hF9 x5 y5 z5 s5
     go_wp2_with (first | (refine wpList_load_row rfl 38 _ rfl z rfl _ _ _ _ xF Tryz.underlying38 rfl (by rw [hQ.out]; kernel_rfl) ?_) | (refine store_row0 rfl rfl 38 _ _ rfl (z + 2) _ rfl rfl 38 _ zF (by rw [hQ.out]; kernel_rfl) (by rw [hQ.out]; rfl) hone.out ?_))
     refine bodyPost_ret (results_cell_row rfl _ _ (z + 2) 38 _ (0, 0) _ rfl (Bq.row (show Bq (z + 2) 38 _ _ from HZF.out) F9) Tryz.underlying38 rfl (by rw [hQ.out]; kernel_rfl)) rfl ⟨?_, ?_⟩
     ·rw [← HF.out]
      have HN := HANS.out
      rw [eA.out, eB.out] at HN
      exact congrArg (fun a => Ending.returned (Value.agg a)) HN
     ·rw [HZ.out]
      exact below_row bF.out (by omega) F9

end Go.Proofs.YtoddangedbefgaaGreatDoor
namespace Go.Proofs.YtoddangedbefgaaGreatDoor
open Go.RowKit Go.Shelf Go.Sort

theorem rf_eq (s : StD) (now : Nat) (h : rfB s now = true) : frS s now = s ∧ frE s now = 148 := ⟨if_pos h, if_pos h⟩
theorem stV_frR (s : StD) (now : Nat) (q : StP) (hr : rfB s now = false) : stV (frS s now) (frP s q) = st9 (ltV (tkR s (frU s)).fin (tkRP s (frU s) q (frQ s q.best)).fin) (ltV (tkR s (frU s)).new (tkRP s (frU s) q (frQ s q.best)).new) (cmV (tkR s (frU s)).now (tkRP s (frU s) q (frQ s q.best)).now) (cmV (tkR s (frU s)).nxt (tkRP s (frU s) q (frQ s q.best)).nxt) (upV zUp nU) false (tkR s (frU s)).last (tkR s (frU s)).this true := by
 have e : frS s now = { tkS s (frU s) with forced := true } := if_neg (by rw [hr]; exact Bool.false_ne_true)
 rw [e]
 rfl
set_option maxRecDepth 20000 in
set_option maxHeartbeats 8000000 in
theorem rforce_no (s : StD) (qs : StP) (now : Nat) (hnow : now < 18446744073709551616) (n : Nat) (w : World) (hn : n ≤ w.heap.size) (hp : stIn n w s qs) (hrf : rfB s now = true) :
  Calls Tryz.prog 20 #[.agg (stV s qs).toArray, .int .u64 (now : Int)] w fun e w' => (∃ q', e = .returned (.tuple #[.agg (stV (frS s now) q').toArray, .int .i64 (frE s now)]) ∧ stIn n w' (frS s now) q') ∧ Below w.heap.size w w' := by
 have HFS : Hid (frS s now = s) := show _ from (rf_eq s now hrf).1
 have HFE : Hid (frE s now = 148) := show _ from (rf_eq s now hrf).2
 have HP : Hid (_ ∧ _) := ⟨hp, hn⟩
 have a0 : (stV s qs)[0]? = some (.int .u64 (s.fin.s : Int)) := rfl
 have a47 : (stV s qs)[47]? = some (.bool s.has) := rfl
 have lS : Hid ((stV s qs).length = 51) := show _ from rfl
 have oS : Hid ((stV s qs).toArray.all (·.oneCell') = true) := show _ from one_arr (stV_one _ _)
 obtain ⟨L0, hL0⟩ : ∃ L, stV s qs = L := ⟨_, rfl⟩
 rw [hL0] at a0 a47 lS oS ⊢
 have HST : Hid (stV s qs = L0) := hL0
 clear hL0
 unfold rfB at hrf
 obtain ⟨f, hf⟩ : ∃ f, s.fin.s = f := ⟨_, rfl⟩
 obtain ⟨b, hb⟩ : ∃ f, s.has = f := ⟨_, rfl⟩
 rw [hf] at hrf a0
 rw [hb] at hrf a47
 clear hf hb hp hn
 obtain ⟨BV, hx, hy, hs⟩ := box2 w (.cells L0.toArray 38) (.cells #[.int .u64 0, .int .u64 0, .string ⟨#[]⟩, .string ⟨#[]⟩, .string ⟨#[]⟩, .string ⟨#[]⟩, .string ⟨#[]⟩, .int .u64 0, .slice none 0 0, .int .u64 0, .int .u64 0, .string ⟨#[]⟩, .string ⟨#[]⟩, .string ⟨#[]⟩, .string ⟨#[]⟩, .string ⟨#[]⟩, .int .u64 0, .slice none 0 0, .slice none 0 0, .string ⟨#[]⟩, .slice none 0 0, .string ⟨#[]⟩, .int .u64 0, .int .u64 0, .string ⟨#[]⟩, .string ⟨#[]⟩, .string ⟨#[]⟩, .string ⟨#[]⟩, .string ⟨#[]⟩, .int .u64 0, .slice none 0 0, .slice none 0 0, .string ⟨#[]⟩, .slice none 0 0, .int .u64 0, .int .u64 0, .string ⟨#[]⟩, .string ⟨#[]⟩, .string ⟨#[]⟩, .string ⟨#[]⟩, .string ⟨#[]⟩, .int .u64 0, .slice none 0 0, .slice none 0 0, .int .u64 0, .string ⟨#[]⟩, .int .u64 0, .bool false, .int .i64 0, .int .i64 0, .bool false] 38)
 obtain ⟨z, hzz⟩ : ∃ z, w.heap.size = z := ⟨_, rfl⟩
 have HZ : Hid (w.heap.size = z) := hzz
 rw [hzz] at BV hx hy hs
 have c0 := cell_of_block hx 0 _ a0
 have c47 := cell_of_block hx 47 _ a47
 have HY : Hid (_ ∧ _ ∧ _ ∧ _) := ⟨BV, hx, hy, hs⟩
 clear a0 a47 hx hy BV hs
 go_enter Tryz.func20, Tryz.ntmps20
 cases b with
 | false =>
  obtain ⟨BV, hx, hy, hs⟩ := HY.out
  have hxF := hx
  have lS0 : Hid (L0.toArray.size = 51) := show _ by rw [List.size_toArray]; exact lS.out
  have oS0 := oS
  clear hx hs BV
  go_wp2_with (first | (refine wpList_load_row rfl 38 _ rfl z rfl _ _ _ _ hxF Tryz.underlying38 rfl (by rw [lS0.out]; kernel_rfl) ?_) | (refine store_row0 rfl rfl 38 _ _ rfl (z + 1) _ rfl rfl 38 _ hy (by rw [lS0.out]; kernel_rfl) (by rw [lS0.out]; rfl) oS0.out ?_))
  obtain ⟨BV, hx, hy, hs⟩ := HY.out
  refine bodyPost_ret (results_row2 rfl _ _ (z + 1) 38 _ (0, 0) _ rfl (Bq.row (show Bq (z + 1) 38 _ _ from hy) L0.toArray) Tryz.underlying38 rfl (by rw [lS0.out]; kernel_rfl) (.int .i64 148) rfl) rfl ⟨⟨qs, ?_, ?_⟩, ?_⟩
  ·rw [HFS.out, HFE.out, HST.out]
  ·rw [HFS.out]
   exact HP.out.1.below ((below_row BV (by omega) L0.toArray).mono (by have := HP.out.2; rw [HZ.out] at this; exact this))
  ·exact below_row BV (by omega) L0.toArray

 | true =>
  by_cases h1 : now < f
  ·have l1 : (now : Int) < f := by omega
   obtain ⟨BV, hx, hy, hs⟩ := HY.out
   have hxF := hx
   have lS0 : Hid (L0.toArray.size = 51) := show _ by rw [List.size_toArray]; exact lS.out
   have oS0 := oS
   clear hx hs BV
   go_wp2_with (first | (refine wpList_load_row rfl 38 _ rfl z rfl _ _ _ _ hxF Tryz.underlying38 rfl (by rw [lS0.out]; kernel_rfl) ?_) | (refine store_row0 rfl rfl 38 _ _ rfl (z + 1) _ rfl rfl 38 _ hy (by rw [lS0.out]; kernel_rfl) (by rw [lS0.out]; rfl) oS0.out ?_))
   obtain ⟨BV, hx, hy, hs⟩ := HY.out
   refine bodyPost_ret (results_row2 rfl _ _ (z + 1) 38 _ (0, 0) _ rfl (Bq.row (show Bq (z + 1) 38 _ _ from hy) L0.toArray) Tryz.underlying38 rfl (by rw [lS0.out]; kernel_rfl) (.int .i64 148) rfl) rfl ⟨⟨qs, ?_, ?_⟩, ?_⟩
   ·rw [HFS.out, HFE.out, HST.out]
   ·rw [HFS.out]
    exact HP.out.1.below ((below_row BV (by omega) L0.toArray).mono (by have := HP.out.2; rw [HZ.out] at this; exact this))
   ·exact below_row BV (by omega) L0.toArray

  ·have l1 : ¬ (now : Int) < f := by omega
   have h2 : now - f ≤ 64 := by
    simp only [Bool.not_true, Bool.false_or, Bool.or_eq_true, decide_eq_true_eq] at hrf
    omega
   have wk : IntKind.u64.wrap ((now : Int) - f) = (now : Int) - f := by rw [IntKind.wrap_u64]; omega
   have l2 : (now : Int) - f ≤ 64 := by omega
   obtain ⟨BV, hx, hy, hs⟩ := HY.out
   have hxF := hx
   have lS0 : Hid (L0.toArray.size = 51) := show _ by rw [List.size_toArray]; exact lS.out
   have oS0 := oS
   clear hx hs BV
   go_wp2_with (first | (refine wpList_load_row rfl 38 _ rfl z rfl _ _ _ _ hxF Tryz.underlying38 rfl (by rw [lS0.out]; kernel_rfl) ?_) | (refine store_row0 rfl rfl 38 _ _ rfl (z + 1) _ rfl rfl 38 _ hy (by rw [lS0.out]; kernel_rfl) (by rw [lS0.out]; rfl) oS0.out ?_))
   obtain ⟨BV, hx, hy, hs⟩ := HY.out
   refine bodyPost_ret (results_row2 rfl _ _ (z + 1) 38 _ (0, 0) _ rfl (Bq.row (show Bq (z + 1) 38 _ _ from hy) L0.toArray) Tryz.underlying38 rfl (by rw [lS0.out]; kernel_rfl) (.int .i64 148) rfl) rfl ⟨⟨qs, ?_, ?_⟩, ?_⟩
   ·rw [HFS.out, HFE.out, HST.out]
   ·rw [HFS.out]
    exact HP.out.1.below ((below_row BV (by omega) L0.toArray).mono (by have := HP.out.2; rw [HZ.out] at this; exact this))
   ·exact below_row BV (by omega) L0.toArray

set_option maxRecDepth 20000 in
set_option maxHeartbeats 8000000 in
theorem rforce_yes (s : StD) (ok : s.ok) (qs : StP) (now : Nat) (hnow : now < 18446744073709551616) (n : Nat) (w : World) (hn : n ≤ w.heap.size) (hp : stIn n w s qs) (hrf : rfB s now = false) :
  Calls Tryz.prog 20 #[.agg (stV s qs).toArray, .int .u64 (now : Int)] w fun e w' => (∃ q', e = .returned (.tuple #[.agg (stV (frS s now) q').toArray, .int .i64 (frE s now)]) ∧ stIn n w' (frS s now) q') ∧ Below w.heap.size w w' := by
 have HFE : Hid (frE s now = 0) := show _ from if_neg (by rw [hrf]; exact Bool.false_ne_true)
 have HP : Hid (stIn n w (frS s now) (frP s qs) ∧ n ≤ w.heap.size) := show _ from ⟨fr_stIn hrf hp, hn⟩
 have HR := stV_frR s now qs hrf
 have oR : Hid ((stV (frS s now) (frP s qs)).toArray.all (·.oneCell') = true) := show _ from one_arr (stV_one _ _)
 have KT := rtake_any s (frU s) ok (frU_ok ok.2.2.1) qs (frQ s qs.best)
 have eTV : stV (tkR s (frU s)) (tkRP s (frU s) qs (frQ s qs.best)) = st9 (ltV (tkR s (frU s)).fin (tkRP s (frU s) qs (frQ s qs.best)).fin) (ltV (tkR s (frU s)).new (tkRP s (frU s) qs (frQ s qs.best)).new) (cmV (tkR s (frU s)).now (tkRP s (frU s) qs (frQ s qs.best)).now) (cmV (tkR s (frU s)).nxt (tkRP s (frU s) qs (frQ s qs.best)).nxt) (upV s.best qs.best) s.has (tkR s (frU s)).last (tkR s (frU s)).this s.forced := rfl
 have h9T : L9 (ltV (tkR s (frU s)).fin (tkRP s (frU s) qs (frQ s qs.best)).fin) (ltV (tkR s (frU s)).new (tkRP s (frU s) qs (frQ s qs.best)).new) (cmV (tkR s (frU s)).now (tkRP s (frU s) qs (frQ s qs.best)).now) (cmV (tkR s (frU s)).nxt (tkRP s (frU s) qs (frQ s qs.best)).nxt) (upV s.best qs.best) := ⟨rfl, rfl, rfl, rfl, rfl⟩
 have oT : Hid ((stV (tkR s (frU s)) (tkRP s (frU s) qs (frQ s qs.best))).toArray.all (·.oneCell') = true) := show _ from one_arr (stV_one _ _)
 rw [upV_frU] at KT
 rw [eTV] at KT oT
 rw [HR] at oR
 have h9 := L9_of s qs
 have hu : Hid ((ltV s.best.l qs.best.l).length = 9 ∧ (cmV s.best.c qs.best.c).length = 2 ∧ (ltV s.best.f qs.best.f).length = 9) := show _ from ⟨rfl, rfl, rfl⟩
 have f0 : (ltV s.best.f qs.best.f)[0]? = some (.int .u64 (s.best.f.s : Int)) := rfl
 have o9 : ∀ v ∈ ltV s.best.f qs.best.f, v.oneCell' = true := ltV_one _ _
 have oL : ∀ v ∈ ltV s.best.l qs.best.l, v.oneCell' = true := ltV_one _ _
 have oU : Hid ((upV s.best qs.best).toArray.all (·.oneCell') = true) := show _ from one_arr (upV_one _ _)
 have a0 : (ltV s.fin qs.fin)[0]? = some (.int .u64 (s.fin.s : Int)) := rfl
 have eS := stV_st9 s qs
 rw [eS] at KT ⊢
 rw [upV_up8] at h9 oU h9T
 rw [upV_up8] at KT oT ⊢
 have HAN : Hid _ := HR
 clear HR eTV eS
 obtain ⟨hb, h1, h2⟩ : s.has = true ∧ ¬ now ≤ s.fin.s ∧ ¬ now - s.fin.s ≤ 64 := by
  unfold rfB at hrf
  simp only [Bool.or_eq_false_iff, Bool.not_eq_false', decide_eq_false_iff_not] at hrf
  exact ⟨hrf.1.1, hrf.1.2, hrf.2⟩
 rw [hb] at KT oT ⊢
 clear hb hrf hp hn
 obtain ⟨ab, ha⟩ : ∃ n, decide (s.fin.s < s.best.f.s) = n := ⟨_, rfl⟩
 rw [ha] at KT
 obtain ⟨f, hf⟩ : ∃ f, s.fin.s = f := ⟨_, rfl⟩
 obtain ⟨bs, hbs⟩ : ∃ f, s.best.f.s = f := ⟨_, rfl⟩
 rw [hf] at h1 h2 a0 ha
 rw [hbs] at f0 ha
 have hab : Hid _ := ha
 obtain ⟨XA, hXA⟩ : ∃ L, ltV s.fin qs.fin = L := ⟨_, rfl⟩
 obtain ⟨XB, hXB⟩ : ∃ L, ltV s.new qs.new = L := ⟨_, rfl⟩
 obtain ⟨XC, hXC⟩ : ∃ L, cmV s.now qs.now = L := ⟨_, rfl⟩
 obtain ⟨XD, hXD⟩ : ∃ L, cmV s.nxt qs.nxt = L := ⟨_, rfl⟩
 obtain ⟨TA, hTA⟩ : ∃ L, ltV (tkR s (frU s)).fin (tkRP s (frU s) qs (frQ s qs.best)).fin = L := ⟨_, rfl⟩
 obtain ⟨TB, hTB⟩ : ∃ L, ltV (tkR s (frU s)).new (tkRP s (frU s) qs (frQ s qs.best)).new = L := ⟨_, rfl⟩
 obtain ⟨TC, hTC⟩ : ∃ L, cmV (tkR s (frU s)).now (tkRP s (frU s) qs (frQ s qs.best)).now = L := ⟨_, rfl⟩
 obtain ⟨TD, hTD⟩ : ∃ L, cmV (tkR s (frU s)).nxt (tkRP s (frU s) qs (frQ s qs.best)).nxt = L := ⟨_, rfl⟩
 obtain ⟨UL, hUL⟩ : ∃ L, ltV s.best.l qs.best.l = L := ⟨_, rfl⟩
 obtain ⟨UF, hUF⟩ : ∃ L, ltV s.best.f qs.best.f = L := ⟨_, rfl⟩
 obtain ⟨UC, hUC⟩ : ∃ L, cmV s.best.c qs.best.c = L := ⟨_, rfl⟩
 obtain ⟨u1, hu1⟩ : ∃ L, slV s.best.nb qs.best.nb = L := ⟨_, rfl⟩
 obtain ⟨u2, hu2⟩ : ∃ L, slV s.best.fb qs.best.fb = L := ⟨_, rfl⟩
 obtain ⟨u3, hu3⟩ : ∃ L, (Value.int .u64 (s.best.bits : Int)) = L := ⟨_, rfl⟩
 obtain ⟨u4, hu4⟩ : ∃ L, (Value.string s.best.sig) = L := ⟨_, rfl⟩
 obtain ⟨u5, hu5⟩ : ∃ L, (Value.int .u64 (s.best.slot : Int)) = L := ⟨_, rfl⟩
 obtain ⟨nl, hnl⟩ : ∃ b, s.last = b := ⟨_, rfl⟩
 obtain ⟨nt, hnt⟩ : ∃ b, s.this = b := ⟨_, rfl⟩
 obtain ⟨t2, ht2⟩ : ∃ L, (tkR s (frU s)).last = L := ⟨_, rfl⟩
 obtain ⟨t3, ht3⟩ : ∃ L, (tkR s (frU s)).this = L := ⟨_, rfl⟩
 obtain ⟨bf, hbf⟩ : ∃ b, s.forced = b := ⟨_, rfl⟩
 rw [hTA, hTB, hTC, hTD] at KT h9T oT oR HAN
 rw [ht2, ht3] at KT oT oR HAN
 rw [hXA] at KT h9 a0 ⊢
 rw [hXB] at KT h9 ⊢
 rw [hXC] at KT h9 ⊢
 rw [hXD] at KT h9 ⊢
 rw [hUL] at KT h9 hu oL oU h9T oT ⊢
 rw [hUF] at KT h9 hu o9 oU f0 h9T oT ⊢
 rw [hUC] at KT h9 hu oU h9T oT ⊢
 rw [hu1, hu2, hu3, hu4, hu5] at KT h9 oU h9T oT ⊢
 rw [hnl, hnt] at KT ⊢
 rw [hbf] at KT oT ⊢
 obtain ⟨XN, hXN⟩ : ∃ L, (if ab = true then UF else UL) = L := ⟨_, rfl⟩
 rw [hXN] at KT
 have lXN : Hid (XN.length = 9) := show _ by rw [← hXN]; cases ab; exact hu.out.1; exact hu.out.2.2
 have wk : IntKind.u64.wrap ((now : Int) - f) = (now : Int) - f := by rw [IntKind.wrap_u64]; omega
 have l1 : ¬ (now : Int) < f := by omega
 have l2 : ¬ (now : Int) - f ≤ 64 := by omega
 clear hXA hXB hXC hXD hTA hTB hTC hTD hUL hUF hUC hu1 hu2 hu3 hu4 hu5 hnl hnt ht2 ht3 hbf ha hf hbs ok
 obtain ⟨LU, hLU⟩ : ∃ L, up8 UL UC u1 UF u2 u3 u4 u5 = L := ⟨_, rfl⟩
 obtain ⟨L0, hL0⟩ : ∃ L, st9 XA XB XC XD LU true nl nt bf = L := ⟨_, rfl⟩
 rw [hLU] at KT h9 oU h9T oT ⊢
 have g0 := st9_A (B := XB) (C := XC) (D := XD) (E := LU) (h := true) (l := nl) (t := nt) (f := bf) (A := XA)
 have g4 := st9_E (h := true) (l := nl) (t := nt) (f := bf) h9
 have a47 : (st9 XA XB XC XD LU true nl nt bf)[47]? = some (.bool true) := st9_h h9
 have lS := st9_len (h := true) (l := nl) (t := nt) (f := bf) h9
 rw [hL0] at g0 g4 a47 lS KT ⊢
 have lU : LU.length = 25 := h9.e
 have HLU : Hid _ := hLU
 clear hLU hL0
 obtain ⟨BV, hx, hy, hs⟩ := box2 w (.cells L0.toArray 38) (.cells #[.int .u64 0, .int .u64 0, .string ⟨#[]⟩, .string ⟨#[]⟩, .string ⟨#[]⟩, .string ⟨#[]⟩, .string ⟨#[]⟩, .int .u64 0, .slice none 0 0, .int .u64 0, .int .u64 0, .string ⟨#[]⟩, .string ⟨#[]⟩, .string ⟨#[]⟩, .string ⟨#[]⟩, .string ⟨#[]⟩, .int .u64 0, .slice none 0 0, .slice none 0 0, .string ⟨#[]⟩, .slice none 0 0, .string ⟨#[]⟩, .int .u64 0, .int .u64 0, .string ⟨#[]⟩, .string ⟨#[]⟩, .string ⟨#[]⟩, .string ⟨#[]⟩, .string ⟨#[]⟩, .int .u64 0, .slice none 0 0, .slice none 0 0, .string ⟨#[]⟩, .slice none 0 0, .int .u64 0, .int .u64 0, .string ⟨#[]⟩, .string ⟨#[]⟩, .string ⟨#[]⟩, .string ⟨#[]⟩, .string ⟨#[]⟩, .int .u64 0, .slice none 0 0, .slice none 0 0, .int .u64 0, .string ⟨#[]⟩, .int .u64 0, .bool false, .int .i64 0, .int .i64 0, .bool false] 38)
 obtain ⟨BV3, hx3, hy3, hb3, hs3⟩ := box3 w (.cells L0.toArray 38) (.cells #[.int .u64 0, .int .u64 0, .string ⟨#[]⟩, .string ⟨#[]⟩, .string ⟨#[]⟩, .string ⟨#[]⟩, .string ⟨#[]⟩, .int .u64 0, .slice none 0 0, .int .u64 0, .int .u64 0, .string ⟨#[]⟩, .string ⟨#[]⟩, .string ⟨#[]⟩, .string ⟨#[]⟩, .string ⟨#[]⟩, .int .u64 0, .slice none 0 0, .slice none 0 0, .string ⟨#[]⟩, .slice none 0 0, .string ⟨#[]⟩, .int .u64 0, .int .u64 0, .string ⟨#[]⟩, .string ⟨#[]⟩, .string ⟨#[]⟩, .string ⟨#[]⟩, .string ⟨#[]⟩, .int .u64 0, .slice none 0 0, .slice none 0 0, .string ⟨#[]⟩, .slice none 0 0, .int .u64 0, .int .u64 0, .string ⟨#[]⟩, .string ⟨#[]⟩, .string ⟨#[]⟩, .string ⟨#[]⟩, .string ⟨#[]⟩, .int .u64 0, .slice none 0 0, .slice none 0 0, .int .u64 0, .string ⟨#[]⟩, .int .u64 0, .bool false, .int .i64 0, .int .i64 0, .bool false] 38) (.cells #[.int .u64 0, .int .u64 0, .string ⟨#[]⟩, .string ⟨#[]⟩, .string ⟨#[]⟩, .string ⟨#[]⟩, .string ⟨#[]⟩, .int .u64 0, .slice none 0 0, .slice none 0 0, .string ⟨#[]⟩, .slice none 0 0, .int .u64 0, .int .u64 0, .string ⟨#[]⟩, .string ⟨#[]⟩, .string ⟨#[]⟩, .string ⟨#[]⟩, .string ⟨#[]⟩, .int .u64 0, .slice none 0 0, .slice none 0 0, .int .u64 0, .string ⟨#[]⟩, .int .u64 0] 36)
 obtain ⟨z, hzz⟩ : ∃ z, w.heap.size = z := ⟨_, rfl⟩
 have HZ : Hid (w.heap.size = z) := hzz
 rw [hzz] at BV hx hy hs
 rw [hzz] at BV3 hx3 hy3 hb3 hs3
 have c0 := cell_of_block hx 0 _ (g0 0 _ a0)
 have c47 := cell_of_block hx 47 _ a47
 have RE := range_of_block hx 22 LU g4
 have H9 : Hid (_ ∧ _ ∧ _ ∧ _ ∧ _ ∧ _ ∧ _) := ⟨h9, h9T, oT, oU, oR, lS, lU⟩
 have H3 : Hid (_ ∧ _ ∧ _ ∧ _) := ⟨BV3, hx3, hy3, hs3⟩
 have hQU : Hid (LU.toArray.size = 25) := show _ by rw [List.size_toArray]; exact lU
 have hG : Hid (_ ∧ _) := ⟨g0, g4⟩
 clear g0 g4 a47 h9 h9T oT oR lS lU hx hy hs BV BV3 hx3 hy3 hs3
 go_enter Tryz.func20, Tryz.ntmps20
 go_wp2_with (first | (refine wpList_load_mid rfl 36 _ rfl z 22 rfl _ _ RE Tryz.underlying36 rfl (by rw [H9.out.2.2.2.2.2.2]; kernel_rfl) ?_) | (refine load_mid_wanted (by rfl) 36 _ rfl z 22 rfl _ _ RE Tryz.underlying36 rfl (by rw [H9.out.2.2.2.2.2.2]; kernel_rfl) ?_) | (refine store_row0 rfl rfl 36 _ _ rfl (z + 2) _ rfl rfl 36 _ hb3 (by rw [hQU.out]; kernel_rfl) (by rw [hQU.out]; rfl) oU.out ?_; refine Stp.out ?_))
 refine ⟨?_⟩
 obtain ⟨BV3, hx3, hy3, hs3⟩ := H3.out
 have x1 := Bq.rowOther (show Bq z 38 _ _ from hx3) (show z ≠ z + 2 by omega) LU.toArray
 have y1 := Bq.rowOther (show Bq (z + 1) 38 _ _ from hy3) (show z + 1 ≠ z + 2 by omega) LU.toArray
 have b1 := Bq.row (show Bq (z + 2) 36 _ _ from hb3) LU.toArray
 have s1 : z + 3 ≤ ((((w.alloc (.cells L0.toArray 38)).alloc (.cells #[.int .u64 0, .int .u64 0, .string ⟨#[]⟩, .string ⟨#[]⟩, .string ⟨#[]⟩, .string ⟨#[]⟩, .string ⟨#[]⟩, .int .u64 0, .slice none 0 0, .int .u64 0, .int .u64 0, .string ⟨#[]⟩, .string ⟨#[]⟩, .string ⟨#[]⟩, .string ⟨#[]⟩, .string ⟨#[]⟩, .int .u64 0, .slice none 0 0, .slice none 0 0, .string ⟨#[]⟩, .slice none 0 0, .string ⟨#[]⟩, .int .u64 0, .int .u64 0, .string ⟨#[]⟩, .string ⟨#[]⟩, .string ⟨#[]⟩, .string ⟨#[]⟩, .string ⟨#[]⟩, .int .u64 0, .slice none 0 0, .slice none 0 0, .string ⟨#[]⟩, .slice none 0 0, .int .u64 0, .int .u64 0, .string ⟨#[]⟩, .string ⟨#[]⟩, .string ⟨#[]⟩, .string ⟨#[]⟩, .string ⟨#[]⟩, .int .u64 0, .slice none 0 0, .slice none 0 0, .int .u64 0, .string ⟨#[]⟩, .int .u64 0, .bool false, .int .i64 0, .int .i64 0, .bool false] 38)).alloc (.cells #[.int .u64 0, .int .u64 0, .string ⟨#[]⟩, .string ⟨#[]⟩, .string ⟨#[]⟩, .string ⟨#[]⟩, .string ⟨#[]⟩, .int .u64 0, .slice none 0 0, .slice none 0 0, .string ⟨#[]⟩, .slice none 0 0, .int .u64 0, .int .u64 0, .string ⟨#[]⟩, .string ⟨#[]⟩, .string ⟨#[]⟩, .string ⟨#[]⟩, .string ⟨#[]⟩, .int .u64 0, .slice none 0 0, .slice none 0 0, .int .u64 0, .string ⟨#[]⟩, .int .u64 0] 36)).setRow (z + 2) LU.toArray).heap.size := by rw [size_setRow, hs3]; exact Nat.le_refl _
 have HB1 : Hid (Below z w ((((w.alloc (.cells L0.toArray 38)).alloc (.cells #[.int .u64 0, .int .u64 0, .string ⟨#[]⟩, .string ⟨#[]⟩, .string ⟨#[]⟩, .string ⟨#[]⟩, .string ⟨#[]⟩, .int .u64 0, .slice none 0 0, .int .u64 0, .int .u64 0, .string ⟨#[]⟩, .string ⟨#[]⟩, .string ⟨#[]⟩, .string ⟨#[]⟩, .string ⟨#[]⟩, .int .u64 0, .slice none 0 0, .slice none 0 0, .string ⟨#[]⟩, .slice none 0 0, .string ⟨#[]⟩, .int .u64 0, .int .u64 0, .string ⟨#[]⟩, .string ⟨#[]⟩, .string ⟨#[]⟩, .string ⟨#[]⟩, .string ⟨#[]⟩, .int .u64 0, .slice none 0 0, .slice none 0 0, .string ⟨#[]⟩, .slice none 0 0, .int .u64 0, .int .u64 0, .string ⟨#[]⟩, .string ⟨#[]⟩, .string ⟨#[]⟩, .string ⟨#[]⟩, .string ⟨#[]⟩, .int .u64 0, .slice none 0 0, .slice none 0 0, .int .u64 0, .string ⟨#[]⟩, .int .u64 0, .bool false, .int .i64 0, .int .i64 0, .bool false] 38)).alloc (.cells #[.int .u64 0, .int .u64 0, .string ⟨#[]⟩, .string ⟨#[]⟩, .string ⟨#[]⟩, .string ⟨#[]⟩, .string ⟨#[]⟩, .int .u64 0, .slice none 0 0, .slice none 0 0, .string ⟨#[]⟩, .slice none 0 0, .int .u64 0, .int .u64 0, .string ⟨#[]⟩, .string ⟨#[]⟩, .string ⟨#[]⟩, .string ⟨#[]⟩, .string ⟨#[]⟩, .int .u64 0, .slice none 0 0, .slice none 0 0, .int .u64 0, .string ⟨#[]⟩, .int .u64 0] 36)).setRow (z + 2) LU.toArray)) := below_row BV3 (by omega) _
 obtain ⟨V1, hV1⟩ : ∃ V, (((w.alloc (.cells L0.toArray 38)).alloc (.cells #[.int .u64 0, .int .u64 0, .string ⟨#[]⟩, .string ⟨#[]⟩, .string ⟨#[]⟩, .string ⟨#[]⟩, .string ⟨#[]⟩, .int .u64 0, .slice none 0 0, .int .u64 0, .int .u64 0, .string ⟨#[]⟩, .string ⟨#[]⟩, .string ⟨#[]⟩, .string ⟨#[]⟩, .string ⟨#[]⟩, .int .u64 0, .slice none 0 0, .slice none 0 0, .string ⟨#[]⟩, .slice none 0 0, .string ⟨#[]⟩, .int .u64 0, .int .u64 0, .string ⟨#[]⟩, .string ⟨#[]⟩, .string ⟨#[]⟩, .string ⟨#[]⟩, .string ⟨#[]⟩, .int .u64 0, .slice none 0 0, .slice none 0 0, .string ⟨#[]⟩, .slice none 0 0, .int .u64 0, .int .u64 0, .string ⟨#[]⟩, .string ⟨#[]⟩, .string ⟨#[]⟩, .string ⟨#[]⟩, .string ⟨#[]⟩, .int .u64 0, .slice none 0 0, .slice none 0 0, .int .u64 0, .string ⟨#[]⟩, .int .u64 0, .bool false, .int .i64 0, .int .i64 0, .bool false] 38)).alloc (.cells #[.int .u64 0, .int .u64 0, .string ⟨#[]⟩, .string ⟨#[]⟩, .string ⟨#[]⟩, .string ⟨#[]⟩, .string ⟨#[]⟩, .int .u64 0, .slice none 0 0, .slice none 0 0, .string ⟨#[]⟩, .slice none 0 0, .int .u64 0, .int .u64 0, .string ⟨#[]⟩, .string ⟨#[]⟩, .string ⟨#[]⟩, .string ⟨#[]⟩, .string ⟨#[]⟩, .int .u64 0, .slice none 0 0, .slice none 0 0, .int .u64 0, .string ⟨#[]⟩, .int .u64 0] 36)).setRow (z + 2) LU.toArray = V := ⟨_, rfl⟩
 rw [hV1] at x1 y1 b1 s1 HB1 ⊢
 clear hV1 H3 BV3 hx3 hy3 hb3 hs3 RE c0 c47 oU hzz wk l1 l2
 obtain ⟨h9, h9T, oT, oU, oR, lS, lU⟩ := H9.out
 rw [← HLU.out] at b1
 have cf : V1.cell? ⟨z, 0, none⟩ = some (.int .u64 (f : Int)) := cell_of_block x1 0 _ (hG.out.1 0 _ a0)
 have cb : V1.cell? ⟨z + 2, 12, none⟩ = some (.int .u64 (bs : Int)) := cell_of_block b1 12 _ (up8_F hu.out.1 hu.out.2.1 0 _ f0)
 have lN : Hid ((up8 UL UC u1 XN u2 u3 u4 u5).toArray.size = 25) := show _ by rw [List.size_toArray]; exact up8_len hu.out.1 hu.out.2.1 lXN.out
 have lS0 : Hid (L0.toArray.size = 51) := show _ by rw [List.size_toArray]; exact lS
 have lT : Hid ((st9 TA TB TC TD LU true t2 t3 bf).toArray.size = 51) := show _ by rw [List.size_toArray]; exact st9_len h9T
 have h9R : L9 TA TB TC TD [.int .u64 0, .int .u64 0, .string ⟨#[]⟩, .string ⟨#[]⟩, .string ⟨#[]⟩, .string ⟨#[]⟩, .string ⟨#[]⟩, .int .u64 0, .slice none 0 0, .slice none 0 0, .string ⟨#[]⟩, .slice none 0 0, .int .u64 0, .int .u64 0, .string ⟨#[]⟩, .string ⟨#[]⟩, .string ⟨#[]⟩, .string ⟨#[]⟩, .string ⟨#[]⟩, .int .u64 0, .slice none 0 0, .slice none 0 0, .int .u64 0, .string ⟨#[]⟩, .int .u64 0] := ⟨h9T.a, h9T.b, h9T.c, h9T.d, rfl⟩
 have lR : Hid ((st9 TA TB TC TD (upV zUp nU) false t2 t3 true).toArray.size = 51) := show _ by rw [List.size_toArray]; exact st9_len h9R
 cases ab with
 | true =>
  have la : ¬ (bs : Int) ≤ f := by have := of_decide_eq_true hab.out; omega
  obtain rfl : UF = XN := hXN
  obtain ⟨LN, hLN⟩ : ∃ L, (up8 UL UC u1 UF u2 u3 u4 u5).toArray = L := ⟨_, rfl⟩
  rw [hLN] at KT lN b1
  clear hLN
  go_wp2_with (first | (refine wpList_load_row rfl 38 _ rfl z rfl _ _ _ _ x1 Tryz.underlying38 rfl (by rw [lS0.out]; kernel_rfl) ?_) | (refine wpList_load_row rfl 36 _ rfl (z + 2) rfl _ _ _ _ b1 Tryz.underlying36 rfl (by rw [lN.out]; kernel_rfl) ?_))
  refine (KT _).mono ?_
  rintro e V4 ⟨rfl, C⟩
  have x4 := x1.below C
  have y4 := y1.below C
  have s4 : z + 3 ≤ V4.heap.size := by have := C.size; omega
  have HB4 : Hid (Below z w V4) := belowStep HB1.out (by omega) C
  clear C x1 y1 b1 s1 HB1 KT lN lS0
  have oT2 : Hid _ := oT.out
  go_wp2_with (first | (refine store_row0 rfl rfl 38 _ _ rfl z _ rfl rfl 38 _ x4 (by rw [lT.out]; kernel_rfl) (by rw [lT.out, List.size_toArray]; exact lS) oT2.out ?_; refine Stp.out ?_))
  refine ⟨?_⟩
  have x5 := x4.row (st9 TA TB TC TD LU true t2 t3 bf).toArray
  have y5 := y4.rowOther (show z + 1 ≠ z by omega) (st9 TA TB TC TD LU true t2 t3 bf).toArray
  have s5 : z + 3 ≤ (V4.setRow z (st9 TA TB TC TD LU true t2 t3 bf).toArray).heap.size := by rw [size_setRow]; exact s4
  have HB5 : Hid (Below z w (V4.setRow z (st9 TA TB TC TD LU true t2 t3 bf).toArray)) := below_row HB4.out (Nat.le_refl _) _
  obtain ⟨V5, hV5⟩ : ∃ V, V4.setRow z (st9 TA TB TC TD LU true t2 t3 bf).toArray = V := ⟨_, rfl⟩
  rw [hV5] at x5 y5 s5 HB5 ⊢
  clear hV5 x4 y4 s4 HB4
  have ht : V5.there z 22 ([.int .u64 0, .int .u64 0, .string ⟨#[]⟩, .string ⟨#[]⟩, .string ⟨#[]⟩, .string ⟨#[]⟩, .string ⟨#[]⟩, .int .u64 0, .slice none 0 0, .slice none 0 0, .string ⟨#[]⟩, .slice none 0 0, .int .u64 0, .int .u64 0, .string ⟨#[]⟩, .string ⟨#[]⟩, .string ⟨#[]⟩, .string ⟨#[]⟩, .string ⟨#[]⟩, .int .u64 0, .slice none 0 0, .slice none 0 0, .int .u64 0, .string ⟨#[]⟩, .int .u64 0] : List Value).length := there_of_block x5 (by rw [st9_len h9T]; exact (by decide))
  go_wp2_with (first | (refine store_mid0 rfl rfl 36 _ _ rfl z 22 [.int .u64 0, .int .u64 0, .string ⟨#[]⟩, .string ⟨#[]⟩, .string ⟨#[]⟩, .string ⟨#[]⟩, .string ⟨#[]⟩, .int .u64 0, .slice none 0 0, .slice none 0 0, .string ⟨#[]⟩, .slice none 0 0, .int .u64 0, .int .u64 0, .string ⟨#[]⟩, .string ⟨#[]⟩, .string ⟨#[]⟩, .string ⟨#[]⟩, .string ⟨#[]⟩, .int .u64 0, .slice none 0 0, .slice none 0 0, .int .u64 0, .string ⟨#[]⟩, .int .u64 0] rfl rfl ht (by kernel_rfl) (upV_one zUp nU) ?_; refine Stp.out ?_))
  refine ⟨?_⟩
  have x6 := st9_putE h9T (X := [.int .u64 0, .int .u64 0, .string ⟨#[]⟩, .string ⟨#[]⟩, .string ⟨#[]⟩, .string ⟨#[]⟩, .string ⟨#[]⟩, .int .u64 0, .slice none 0 0, .slice none 0 0, .string ⟨#[]⟩, .slice none 0 0, .int .u64 0, .int .u64 0, .string ⟨#[]⟩, .string ⟨#[]⟩, .string ⟨#[]⟩, .string ⟨#[]⟩, .string ⟨#[]⟩, .int .u64 0, .slice none 0 0, .slice none 0 0, .int .u64 0, .string ⟨#[]⟩, .int .u64 0]) rfl x5
  have y6 : Bq (z + 1) 38 _ (V5.setCells z 22 [.int .u64 0, .int .u64 0, .string ⟨#[]⟩, .string ⟨#[]⟩, .string ⟨#[]⟩, .string ⟨#[]⟩, .string ⟨#[]⟩, .int .u64 0, .slice none 0 0, .slice none 0 0, .string ⟨#[]⟩, .slice none 0 0, .int .u64 0, .int .u64 0, .string ⟨#[]⟩, .string ⟨#[]⟩, .string ⟨#[]⟩, .string ⟨#[]⟩, .string ⟨#[]⟩, .int .u64 0, .slice none 0 0, .slice none 0 0, .int .u64 0, .string ⟨#[]⟩, .int .u64 0]) := (setCells_other (by omega) _ _ _).trans y5
  have s6 : z + 3 ≤ (V5.setCells z 22 [.int .u64 0, .int .u64 0, .string ⟨#[]⟩, .string ⟨#[]⟩, .string ⟨#[]⟩, .string ⟨#[]⟩, .string ⟨#[]⟩, .int .u64 0, .slice none 0 0, .slice none 0 0, .string ⟨#[]⟩, .slice none 0 0, .int .u64 0, .int .u64 0, .string ⟨#[]⟩, .string ⟨#[]⟩, .string ⟨#[]⟩, .string ⟨#[]⟩, .string ⟨#[]⟩, .int .u64 0, .slice none 0 0, .slice none 0 0, .int .u64 0, .string ⟨#[]⟩, .int .u64 0]).heap.size := by rw [size_setCellsB]; exact s5
  have HB6 : Hid (Below z w (V5.setCells z 22 [.int .u64 0, .int .u64 0, .string ⟨#[]⟩, .string ⟨#[]⟩, .string ⟨#[]⟩, .string ⟨#[]⟩, .string ⟨#[]⟩, .int .u64 0, .slice none 0 0, .slice none 0 0, .string ⟨#[]⟩, .slice none 0 0, .int .u64 0, .int .u64 0, .string ⟨#[]⟩, .string ⟨#[]⟩, .string ⟨#[]⟩, .string ⟨#[]⟩, .string ⟨#[]⟩, .int .u64 0, .slice none 0 0, .slice none 0 0, .int .u64 0, .string ⟨#[]⟩, .int .u64 0])) := below_cells HB5.out (Nat.le_refl _) _
  obtain ⟨V6, hV6⟩ : ∃ V, V5.setCells z 22 [.int .u64 0, .int .u64 0, .string ⟨#[]⟩, .string ⟨#[]⟩, .string ⟨#[]⟩, .string ⟨#[]⟩, .string ⟨#[]⟩, .int .u64 0, .slice none 0 0, .slice none 0 0, .string ⟨#[]⟩, .slice none 0 0, .int .u64 0, .int .u64 0, .string ⟨#[]⟩, .string ⟨#[]⟩, .string ⟨#[]⟩, .string ⟨#[]⟩, .string ⟨#[]⟩, .int .u64 0, .slice none 0 0, .slice none 0 0, .int .u64 0, .string ⟨#[]⟩, .int .u64 0] = V := ⟨_, rfl⟩
  rw [hV6] at x6 y6 s6 HB6 ⊢
  clear hV6 x5 y5 s5 HB5 ht
  have c47 : V6.cell? ⟨z, 47, none⟩ = some (.bool true) := cell_of_block x6 47 _ (st9_h h9R)
  have f47 : V6.frozen? ⟨z, 47, none⟩ = false := Bq.fr x6 47
  have c50 : V6.cell? ⟨z, 50, none⟩ = some (.bool bf) := cell_of_block x6 50 _ (st9_f h9R)
  have f50 : V6.frozen? ⟨z, 50, none⟩ = false := Bq.fr x6 50
  have x7 := st9_putf h9R true (st9_puth h9R false x6)
  have y7 : Bq (z + 1) 38 _ ((V6.setCell ⟨z, 47, none⟩ (.bool false)).setCell ⟨z, 50, none⟩ (.bool true)) := (Below.heap_setCell _ _ _ _ (show z + 1 ≠ z by omega)).trans ((Below.heap_setCell _ _ _ _ (show z + 1 ≠ z by omega)).trans y6)
  have HB7 : Hid (Below z w ((V6.setCell ⟨z, 47, none⟩ (.bool false)).setCell ⟨z, 50, none⟩ (.bool true))) := show _ from (HB6.out.setCell (p := ⟨z, 47, none⟩) (Nat.le_refl _) _).setCell (p := ⟨z, 50, none⟩) (Nat.le_refl _) _
  have s7 : Hid (z + 3 ≤ ((V6.setCell ⟨z, 47, none⟩ (.bool false)).setCell ⟨z, 50, none⟩ (.bool true)).heap.size) := show _ by rw [size_setCell', size_setCell']; exact s6
  replace x7 : Bq z 38 (st9 TA TB TC TD (upV zUp nU) false t2 t3 true).toArray _ := x7
  have oR2 : Hid _ := oR.out
  have lR2 : Hid _ := lR.out
  obtain ⟨F9, hF9⟩ : ∃ F, (st9 TA TB TC TD (upV zUp nU) false t2 t3 true).toArray = F := ⟨_, rfl⟩
  rw [hF9] at x7 oR2 lR2
  have HF : Hid _ := hF9
  have HY7 : Hid (Bq (z + 1) 38 _ _) := y7
  clear hF9 x6 y6 s6 HB6
  go_wp2_with (first | (refine wpList_load_row rfl 38 _ rfl z rfl _ _ _ _ x7 Tryz.underlying38 rfl (by rw [lR2.out]; kernel_rfl) ?_) | (refine store_row0 rfl rfl 38 _ _ rfl (z + 1) _ rfl rfl 38 _ y7 (by rw [lR2.out]; kernel_rfl) (by rw [lR2.out]; rfl) oR2.out ?_))
  refine bodyPost_ret (results_row2 rfl _ _ (z + 1) 38 _ (0, 0) _ rfl (Bq.row (show Bq (z + 1) 38 _ _ from HY7.out) F9) Tryz.underlying38 rfl (by rw [lR2.out]; kernel_rfl) (.int .i64 0) rfl) rfl ⟨⟨frP s qs, ?_, ?_⟩, ?_⟩
  ·rw [HAN.out, HFE.out, HF.out]
  ·exact HP.out.1.below ((below_row HB7.out (by omega) F9).mono (by have := HP.out.2; rw [HZ.out] at this; exact this))
  ·rw [HZ.out]
   exact below_row HB7.out (by omega) F9

 | false =>
  have la : (bs : Int) ≤ f := by have := of_decide_eq_false hab.out; omega
  have RL := range_of_block b1 0 UL up8_L
  have ht : V1.there (z + 2) 12 UL.length := there_of_block b1 (by rw [hu.out.1, up8_len hu.out.1 hu.out.2.1 hu.out.2.2]; omega)
  go_wp2_with (first | (refine wpList_load_mid rfl 29 _ rfl (z + 2) 0 rfl _ _ RL Tryz.underlying29 rfl (by rw [hu.out.1]; kernel_rfl) ?_) | (refine load_mid_wanted (by rfl) 29 _ rfl (z + 2) 0 rfl _ _ RL Tryz.underlying29 rfl (by rw [hu.out.1]; kernel_rfl) ?_) | (refine store_mid0 rfl rfl 29 _ _ rfl (z + 2) 12 UL rfl rfl ht (by rw [hu.out.1]; kernel_rfl) oL ?_; refine Stp.out ?_))
  refine ⟨?_⟩
  have x2 : Bq z 38 _ (V1.setCells (z + 2) 12 UL) := (setCells_other (by omega) _ _ _).trans x1
  have y2 : Bq (z + 1) 38 _ (V1.setCells (z + 2) 12 UL) := (setCells_other (by omega) _ _ _).trans y1
  have b2 := up8_putF hu.out.1 hu.out.2.1 hu.out.2.2 hu.out.1 b1
  have s2 : z + 3 ≤ (V1.setCells (z + 2) 12 UL).heap.size := by rw [size_setCellsB]; exact s1
  have HB2 : Hid (Below z w (V1.setCells (z + 2) 12 UL)) := below_cells HB1.out (by omega) _
  obtain ⟨V2, hV2⟩ : ∃ V, V1.setCells (z + 2) 12 UL = V := ⟨_, rfl⟩
  rw [hV2] at x2 y2 b2 s2 HB2 ⊢
  clear hV2 x1 y1 b1 s1 HB1 ht RL cf cb la
  obtain rfl : UL = XN := hXN
  obtain ⟨LN, hLN⟩ : ∃ L, (up8 UL UC u1 UL u2 u3 u4 u5).toArray = L := ⟨_, rfl⟩
  rw [hLN] at KT lN b2
  clear hLN
  go_wp2_with (first | (refine wpList_load_row rfl 38 _ rfl z rfl _ _ _ _ x2 Tryz.underlying38 rfl (by rw [lS0.out]; kernel_rfl) ?_) | (refine wpList_load_row rfl 36 _ rfl (z + 2) rfl _ _ _ _ b2 Tryz.underlying36 rfl (by rw [lN.out]; kernel_rfl) ?_))
  refine (KT _).mono ?_
  rintro e V4 ⟨rfl, C⟩
  have x4 := x2.below C
  have y4 := y2.below C
  have s4 : z + 3 ≤ V4.heap.size := by have := C.size; omega
  have HB4 : Hid (Below z w V4) := belowStep HB2.out (by omega) C
  clear C x2 y2 b2 s2 HB2 KT lN lS0
  have oT2 : Hid _ := oT.out
  go_wp2_with (first | (refine store_row0 rfl rfl 38 _ _ rfl z _ rfl rfl 38 _ x4 (by rw [lT.out]; kernel_rfl) (by rw [lT.out, List.size_toArray]; exact lS) oT2.out ?_; refine Stp.out ?_))
  refine ⟨?_⟩
  have x5 := x4.row (st9 TA TB TC TD LU true t2 t3 bf).toArray
  have y5 := y4.rowOther (show z + 1 ≠ z by omega) (st9 TA TB TC TD LU true t2 t3 bf).toArray
  have s5 : z + 3 ≤ (V4.setRow z (st9 TA TB TC TD LU true t2 t3 bf).toArray).heap.size := by rw [size_setRow]; exact s4
  have HB5 : Hid (Below z w (V4.setRow z (st9 TA TB TC TD LU true t2 t3 bf).toArray)) := below_row HB4.out (Nat.le_refl _) _
  obtain ⟨V5, hV5⟩ : ∃ V, V4.setRow z (st9 TA TB TC TD LU true t2 t3 bf).toArray = V := ⟨_, rfl⟩
  rw [hV5] at x5 y5 s5 HB5 ⊢
  clear hV5 x4 y4 s4 HB4
  have ht : V5.there z 22 ([.int .u64 0, .int .u64 0, .string ⟨#[]⟩, .string ⟨#[]⟩, .string ⟨#[]⟩, .string ⟨#[]⟩, .string ⟨#[]⟩, .int .u64 0, .slice none 0 0, .slice none 0 0, .string ⟨#[]⟩, .slice none 0 0, .int .u64 0, .int .u64 0, .string ⟨#[]⟩, .string ⟨#[]⟩, .string ⟨#[]⟩, .string ⟨#[]⟩, .string ⟨#[]⟩, .int .u64 0, .slice none 0 0, .slice none 0 0, .int .u64 0, .string ⟨#[]⟩, .int .u64 0] : List Value).length := there_of_block x5 (by rw [st9_len h9T]; exact (by decide))
  go_wp2_with (first | (refine store_mid0 rfl rfl 36 _ _ rfl z 22 [.int .u64 0, .int .u64 0, .string ⟨#[]⟩, .string ⟨#[]⟩, .string ⟨#[]⟩, .string ⟨#[]⟩, .string ⟨#[]⟩, .int .u64 0, .slice none 0 0, .slice none 0 0, .string ⟨#[]⟩, .slice none 0 0, .int .u64 0, .int .u64 0, .string ⟨#[]⟩, .string ⟨#[]⟩, .string ⟨#[]⟩, .string ⟨#[]⟩, .string ⟨#[]⟩, .int .u64 0, .slice none 0 0, .slice none 0 0, .int .u64 0, .string ⟨#[]⟩, .int .u64 0] rfl rfl ht (by kernel_rfl) (upV_one zUp nU) ?_; refine Stp.out ?_))
  refine ⟨?_⟩
  have x6 := st9_putE h9T (X := [.int .u64 0, .int .u64 0, .string ⟨#[]⟩, .string ⟨#[]⟩, .string ⟨#[]⟩, .string ⟨#[]⟩, .string ⟨#[]⟩, .int .u64 0, .slice none 0 0, .slice none 0 0, .string ⟨#[]⟩, .slice none 0 0, .int .u64 0, .int .u64 0, .string ⟨#[]⟩, .string ⟨#[]⟩, .string ⟨#[]⟩, .string ⟨#[]⟩, .string ⟨#[]⟩, .int .u64 0, .slice none 0 0, .slice none 0 0, .int .u64 0, .string ⟨#[]⟩, .int .u64 0]) rfl x5
  have y6 : Bq (z + 1) 38 _ (V5.setCells z 22 [.int .u64 0, .int .u64 0, .string ⟨#[]⟩, .string ⟨#[]⟩, .string ⟨#[]⟩, .string ⟨#[]⟩, .string ⟨#[]⟩, .int .u64 0, .slice none 0 0, .slice none 0 0, .string ⟨#[]⟩, .slice none 0 0, .int .u64 0, .int .u64 0, .string ⟨#[]⟩, .string ⟨#[]⟩, .string ⟨#[]⟩, .string ⟨#[]⟩, .string ⟨#[]⟩, .int .u64 0, .slice none 0 0, .slice none 0 0, .int .u64 0, .string ⟨#[]⟩, .int .u64 0]) := (setCells_other (by omega) _ _ _).trans y5
  have s6 : z + 3 ≤ (V5.setCells z 22 [.int .u64 0, .int .u64 0, .string ⟨#[]⟩, .string ⟨#[]⟩, .string ⟨#[]⟩, .string ⟨#[]⟩, .string ⟨#[]⟩, .int .u64 0, .slice none 0 0, .slice none 0 0, .string ⟨#[]⟩, .slice none 0 0, .int .u64 0, .int .u64 0, .string ⟨#[]⟩, .string ⟨#[]⟩, .string ⟨#[]⟩, .string ⟨#[]⟩, .string ⟨#[]⟩, .int .u64 0, .slice none 0 0, .slice none 0 0, .int .u64 0, .string ⟨#[]⟩, .int .u64 0]).heap.size := by rw [size_setCellsB]; exact s5
  have HB6 : Hid (Below z w (V5.setCells z 22 [.int .u64 0, .int .u64 0, .string ⟨#[]⟩, .string ⟨#[]⟩, .string ⟨#[]⟩, .string ⟨#[]⟩, .string ⟨#[]⟩, .int .u64 0, .slice none 0 0, .slice none 0 0, .string ⟨#[]⟩, .slice none 0 0, .int .u64 0, .int .u64 0, .string ⟨#[]⟩, .string ⟨#[]⟩, .string ⟨#[]⟩, .string ⟨#[]⟩, .string ⟨#[]⟩, .int .u64 0, .slice none 0 0, .slice none 0 0, .int .u64 0, .string ⟨#[]⟩, .int .u64 0])) := below_cells HB5.out (Nat.le_refl _) _
  obtain ⟨V6, hV6⟩ : ∃ V, V5.setCells z 22 [.int .u64 0, .int .u64 0, .string ⟨#[]⟩, .string ⟨#[]⟩, .string ⟨#[]⟩, .string ⟨#[]⟩, .string ⟨#[]⟩, .int .u64 0, .slice none 0 0, .slice none 0 0, .string ⟨#[]⟩, .slice none 0 0, .int .u64 0, .int .u64 0, .string ⟨#[]⟩, .string ⟨#[]⟩, .string ⟨#[]⟩, .string ⟨#[]⟩, .string ⟨#[]⟩, .int .u64 0, .slice none 0 0, .slice none 0 0, .int .u64 0, .string ⟨#[]⟩, .int .u64 0] = V := ⟨_, rfl⟩
  rw [hV6] at x6 y6 s6 HB6 ⊢
  clear hV6 x5 y5 s5 HB5 ht
  have c47 : V6.cell? ⟨z, 47, none⟩ = some (.bool true) := cell_of_block x6 47 _ (st9_h h9R)
  have f47 : V6.frozen? ⟨z, 47, none⟩ = false := Bq.fr x6 47
  have c50 : V6.cell? ⟨z, 50, none⟩ = some (.bool bf) := cell_of_block x6 50 _ (st9_f h9R)
  have f50 : V6.frozen? ⟨z, 50, none⟩ = false := Bq.fr x6 50
  have x7 := st9_putf h9R true (st9_puth h9R false x6)
  have y7 : Bq (z + 1) 38 _ ((V6.setCell ⟨z, 47, none⟩ (.bool false)).setCell ⟨z, 50, none⟩ (.bool true)) := (Below.heap_setCell _ _ _ _ (show z + 1 ≠ z by omega)).trans ((Below.heap_setCell _ _ _ _ (show z + 1 ≠ z by omega)).trans y6)
  have HB7 : Hid (Below z w ((V6.setCell ⟨z, 47, none⟩ (.bool false)).setCell ⟨z, 50, none⟩ (.bool true))) := show _ from (HB6.out.setCell (p := ⟨z, 47, none⟩) (Nat.le_refl _) _).setCell (p := ⟨z, 50, none⟩) (Nat.le_refl _) _
  have s7 : Hid (z + 3 ≤ ((V6.setCell ⟨z, 47, none⟩ (.bool false)).setCell ⟨z, 50, none⟩ (.bool true)).heap.size) := show _ by rw [size_setCell', size_setCell']; exact s6
  replace x7 : Bq z 38 (st9 TA TB TC TD (upV zUp nU) false t2 t3 true).toArray _ := x7
  have oR2 : Hid _ := oR.out
  have lR2 : Hid _ := lR.out
  obtain ⟨F9, hF9⟩ : ∃ F, (st9 TA TB TC TD (upV zUp nU) false t2 t3 true).toArray = F := ⟨_, rfl⟩
  rw [hF9] at x7 oR2 lR2
  have HF : Hid _ := hF9
  have HY7 : Hid (Bq (z + 1) 38 _ _) := y7
  clear hF9 x6 y6 s6 HB6
  go_wp2_with (first | (refine wpList_load_row rfl 38 _ rfl z rfl _ _ _ _ x7 Tryz.underlying38 rfl (by rw [lR2.out]; kernel_rfl) ?_) | (refine store_row0 rfl rfl 38 _ _ rfl (z + 1) _ rfl rfl 38 _ y7 (by rw [lR2.out]; kernel_rfl) (by rw [lR2.out]; rfl) oR2.out ?_))
  refine bodyPost_ret (results_row2 rfl _ _ (z + 1) 38 _ (0, 0) _ rfl (Bq.row (show Bq (z + 1) 38 _ _ from HY7.out) F9) Tryz.underlying38 rfl (by rw [lR2.out]; kernel_rfl) (.int .i64 0) rfl) rfl ⟨⟨frP s qs, ?_, ?_⟩, ?_⟩
  ·rw [HAN.out, HFE.out, HF.out]
  ·exact HP.out.1.below ((below_row HB7.out (by omega) F9).mono (by have := HP.out.2; rw [HZ.out] at this; exact this))
  ·rw [HZ.out]
   exact below_row HB7.out (by omega) F9

theorem rforce_any (s : StD) (ok : s.ok) (qs : StP) (now : Nat) (hnow : now < 18446744073709551616) (n : Nat) (w : World) (hn : n ≤ w.heap.size) (hp : stIn n w s qs) :
  Calls Tryz.prog 20 #[.agg (stV s qs).toArray, .int .u64 (now : Int)] w fun e w' => (∃ q', e = .returned (.tuple #[.agg (stV (frS s now) q').toArray, .int .i64 (frE s now)]) ∧ stIn w'.heap.size w' (frS s now) q') ∧ Below w.heap.size w w' := by
 cases h : rfB s now with
 | true =>
  refine (rforce_no s qs now hnow n w hn hp h).mono ?_
  rintro e w' ⟨⟨q', rfl, g⟩, hb⟩
  exact ⟨⟨q', rfl, g.mono (Nat.le_trans hn hb.size)⟩, hb⟩
 | false =>
  refine (rforce_yes s ok qs now hnow n w hn hp h).mono ?_
  rintro e w' ⟨⟨q', rfl, g⟩, hb⟩
  exact ⟨⟨q', rfl, g.mono (Nat.le_trans hn hb.size)⟩, hb⟩
end Go.Proofs.YtoddangedbefgaaGreatDoor
namespace Go.Proofs.YtoddangedbefgaaGreatDoor
open Go.RowKit Go.Shelf Go.Sort

def hrV (d : LtD) : ByteArray := rtS (hdC d.s d.u d.p d.t d.b) 3
end Go.Proofs.YtoddangedbefgaaGreatDoor
namespace Go.Proofs.YtoddangedbefgaaGreatDoor
open Go.RowKit Go.Shelf Go.Sort

theorem lgL_sz {d : LtD} (h : szL d) : Lg d.br := lg_sz h.2.2.2.2.2
theorem lgU_sz {d : UpD} (h : szU d) : LgU d := ⟨lgL_sz h.1, lg_sz h.2.1.1, lg_sz h.2.2.1, lgL_sz h.2.2.2.1, lg_sz h.2.2.2.2.1⟩
theorem lgT_sz {d : StD} (h : szT d) : LgT d := ⟨lgL_sz h.1, lgL_sz h.2.1, lg_sz h.2.2.1.1, lg_sz h.2.2.2.1.1, lgU_sz h.2.2.2.2⟩
theorem stIn.up {n m : Nat} {W : World} {d : StD} {q : StP} (h : stIn n W d q) (hm : n ≤ m) : stIn m W d q := ⟨slS_mono h.1 hm, slS_mono h.2.1 hm, slS_mono h.2.2.1 hm, slS_mono h.2.2.2.1 hm, slS_mono h.2.2.2.2.1 hm, slS_mono h.2.2.2.2.2.1 hm, slS_mono h.2.2.2.2.2.2.1 hm, slS_mono h.2.2.2.2.2.2.2.1 hm, slS_mono h.2.2.2.2.2.2.2.2 hm⟩
end Go.Proofs.YtoddangedbefgaaGreatDoor
namespace Go.Proofs.YtoddangedbefgaaGreatDoor
open Go.RowKit Go.Shelf Go.Sort

theorem force_any (s : StD) (ok : s.ok) (hz : szT s) (qs : StP) (now : Nat) (hnow : now < 18446744073709551616) (n : Nat) (w : World) (hn : n ≤ w.heap.size) (hp : stIn n w s qs) :
  Calls Tryz.prog 19 #[.agg (stV s qs).toArray, .int .u64 (now : Int)] w fun e w' => (∃ q', e = .returned (.tuple #[.agg (stV (frS s now) q').toArray, .int .i64 (frE s now)]) ∧ stIn w'.heap.size w' (frS s now) q') ∧ Below w.heap.size w w' := by
 cases h : rfB s now with
 | true =>
  have e1 : frS s now = s := if_pos h
  have e2 : frE s now = 148 := if_pos h
  rw [e1, e2]
  refine (force_no s hz qs now hnow n w hn hp h).mono ?_
  rintro e w' ⟨⟨q', rfl, g⟩, hb⟩
  exact ⟨⟨q', rfl, g.stIn⟩, hb⟩
 | false =>
  have e2 : frE s now = 0 := if_neg (by rw [h]; exact Bool.false_ne_true)
  rw [e2]
  refine (force_yes s ok hz qs now hnow n w hn hp h).mono ?_
  rintro e w' ⟨⟨q', rfl, g⟩, hb⟩
  exact ⟨⟨q', rfl, g.stIn⟩, hb⟩
end Go.Proofs.YtoddangedbefgaaGreatDoor
