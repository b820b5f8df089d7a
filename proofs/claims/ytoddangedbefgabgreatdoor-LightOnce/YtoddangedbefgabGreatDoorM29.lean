/- Lemmas: What the package's Force does. No condition but on sizes that no machine has. A leaf under a state; what begins with a Boot, by the document. No condition. What the package's Begin does. No condition but on sizes that no machine has. What the package's Force does, whatever the store. No condition but on sizes that no machine has. -/
import Derived.Test.YtoddangedbefgabGreatDoorM1
import Derived.Test.YtoddangedbefgabGreatDoorM10
import Derived.Test.YtoddangedbefgabGreatDoorM11
import Derived.Test.YtoddangedbefgabGreatDoorM12
import Derived.Test.YtoddangedbefgabGreatDoorM13
import Derived.Test.YtoddangedbefgabGreatDoorM14
import Derived.Test.YtoddangedbefgabGreatDoorM15
import Derived.Test.YtoddangedbefgabGreatDoorM16
import Derived.Test.YtoddangedbefgabGreatDoorM17
import Derived.Test.YtoddangedbefgabGreatDoorM18
import Derived.Test.YtoddangedbefgabGreatDoorM19
import Derived.Test.YtoddangedbefgabGreatDoorM2
import Derived.Test.YtoddangedbefgabGreatDoorM20
import Derived.Test.YtoddangedbefgabGreatDoorM21
import Derived.Test.YtoddangedbefgabGreatDoorM22
import Derived.Test.YtoddangedbefgabGreatDoorM23
import Derived.Test.YtoddangedbefgabGreatDoorM24
import Derived.Test.YtoddangedbefgabGreatDoorM25
import Derived.Test.YtoddangedbefgabGreatDoorM26
import Derived.Test.YtoddangedbefgabGreatDoorM27
import Derived.Test.YtoddangedbefgabGreatDoorM28
import Derived.Test.YtoddangedbefgabGreatDoorM3
import Derived.Test.YtoddangedbefgabGreatDoorM4
import Derived.Test.YtoddangedbefgabGreatDoorM5
import Derived.Test.YtoddangedbefgabGreatDoorM6
import Derived.Test.YtoddangedbefgabGreatDoorM7
import Derived.Test.YtoddangedbefgabGreatDoorM8
import Derived.Test.YtoddangedbefgabGreatDoorM9
import Derived.Test.YtoddangedbefgabGreatDoorRows
namespace Go.Proofs.YtoddangedbefgabGreatDoor
open Go.RowKit Go.Shelf Go.Sort

theorem upV_frU (s : StD) (q : UpP) : upV (frU s) (frQ s q) = up8 (ltV s.best.l q.l) (cmV s.best.c q.c) (slV s.best.nb q.nb) (if decide (s.fin.s < s.best.f.s) = true then ltV s.best.f q.f else ltV s.best.l q.l) (slV s.best.fb q.fb) (.int .u64 (s.best.bits : Int)) (.string s.best.sig) (.int .u64 (s.best.slot : Int)) := by
 rw [upV_up8]
 unfold frU frQ frL
 dsimp only
 congr 1
 by_cases h : s.fin.s < s.best.f.s
 ·rw [if_pos h, if_pos h, decide_eq_true h]; rfl
 ·rw [if_neg h, if_neg h, decide_eq_false h]; rfl
def frP (s : StD) (q : StP) : StP := tkP s (frU s) q (frQ s q.best)
theorem fr_stIn {n : Nat} {W : World} {s : StD} {q : StP} {now : Nat} (hr : rfB s now = false) (h : stIn n W s q) : stIn n W (frS s now) (frP s q) := by
 unfold frS
 rw [if_neg (by rw [hr]; exact Bool.false_ne_true)]
 exact tk_in h (frU_in h.2.2.2.2)
theorem fr_szT {s : StD} {now : Nat} (h : szT s) : szT (frS s now) := by
 unfold frS
 split
 ·exact h
 ·exact tk_sz h (frU_sz h.2.2.2.2)
theorem fr_okT {s : StD} {now : Nat} (h : s.ok) : (frS s now).ok := by
 unfold frS
 split
 ·exact h
 ·exact tk_ok h (frU_ok h.2.2.1)
set_option maxRecDepth 20000 in
set_option maxHeartbeats 8000000 in
theorem force_yes (s : StD) (ok : s.ok) (hz : szT s) (qs : StP) (now : Nat) (hnow : now < 18446744073709551616) (n : Nat) (w : World) (hn : n ≤ w.heap.size) (hp : stIn n w s qs) (hrf : rfB s now = false) :
  Calls Tryz.prog 19 #[.agg (stV s qs).toArray, .int .u64 (now : Int)] w fun e w' => (∃ q', e = .returned (.tuple #[.agg (stV (frS s now) q').toArray, .int .i64 0]) ∧ storG w.heap.size w' (frS s now) q') ∧ Below w.heap.size w w' := by
 have KD := fun (W : World) (hB : Below w.heap.size w W) (hs : w.heap.size ≤ W.heap.size) => copied_any (frS s now) (fr_szT hz) (frP s qs) n W (Nat.le_trans hn hs) (fr_stIn hrf (hp.below (hB.mono hn)))
 have KT := takenOver_any s (frU s) ok (frU_ok ok.2.2.1) qs (frQ s qs.best)
 have eF : frS s now = { tkS s (frU s) with forced := true } := if_neg (by rw [hrf]; exact Bool.false_ne_true)
 have eFV : stV (frS s now) (frP s qs) = st9 (ltV (tkS s (frU s)).fin (frP s qs).fin) (ltV (tkS s (frU s)).new (frP s qs).new) (cmV (tkS s (frU s)).now (frP s qs).now) (cmV (tkS s (frU s)).nxt (frP s qs).nxt) (upV (tkS s (frU s)).best (frP s qs).best) (tkS s (frU s)).has (tkS s (frU s)).last (tkS s (frU s)).this true := by rw [eF]; rfl
 have eTV : stV (tkS s (frU s)) (frP s qs) = st9 (ltV (tkS s (frU s)).fin (frP s qs).fin) (ltV (tkS s (frU s)).new (frP s qs).new) (cmV (tkS s (frU s)).now (frP s qs).now) (cmV (tkS s (frU s)).nxt (frP s qs).nxt) (upV (tkS s (frU s)).best (frP s qs).best) (tkS s (frU s)).has (tkS s (frU s)).last (tkS s (frU s)).this (tkS s (frU s)).forced := rfl
 have h9T := L9_of (tkS s (frU s)) (frP s qs)
 have oT : Hid ((stV (tkS s (frU s)) (frP s qs)).toArray.all (·.oneCell') = true) := show _ from one_arr (stV_one _ _)
 rw [show tkP s (frU s) qs (frQ s qs.best) = frP s qs from rfl] at KT
 rw [upV_frU] at KT
 rw [eFV] at KD
 rw [eTV] at KT oT
 have KA := isAbove_any s.best.f s.fin qs.best.f qs.fin
 have KC := fun c => pickLt_any c (ltV s.best.f qs.best.f).toArray (ltV s.best.l qs.best.l).toArray rfl rfl (one_arr (ltV_one _ _)) (one_arr (ltV_one _ _))
 have h9 := L9_of s qs
 have hu : Hid ((ltV s.best.l qs.best.l).length = 9 ∧ (cmV s.best.c qs.best.c).length = 2 ∧ (ltV s.best.f qs.best.f).length = 9) := show _ from ⟨rfl, rfl, rfl⟩
 have o9 : ∀ v ∈ ltV s.best.f qs.best.f, v.oneCell' = true := ltV_one _ _
 have oL : ∀ v ∈ ltV s.best.l qs.best.l, v.oneCell' = true := ltV_one _ _
 have oU : Hid ((upV s.best qs.best).toArray.all (·.oneCell') = true) := show _ from one_arr (upV_one _ _)
 have a0 : (stV s qs)[0]? = some (.int .u64 (s.fin.s : Int)) := rfl
 rw [stV_st9] at KT a0 ⊢
 rw [upV_up8] at h9 oU
 rw [upV_up8] at KT a0 ⊢
 obtain ⟨hb, h1, h2⟩ : s.has = true ∧ ¬ now ≤ s.fin.s ∧ ¬ now - s.fin.s ≤ 64 := by
  unfold rfB at hrf
  simp only [Bool.or_eq_false_iff, Bool.not_eq_false', decide_eq_false_iff_not] at hrf
  exact ⟨hrf.1.1, hrf.1.2, hrf.2⟩
 rw [hb] at KT a0 ⊢
 have KCn := KC (decide (s.fin.s < s.best.f.s))
 clear KC eF eFV eTV hb hrf
 obtain ⟨f, hf⟩ : ∃ f, s.fin.s = f := ⟨_, rfl⟩
 have HANS : Hid (∃ q, q = frP s qs) := show _ from ⟨_, rfl⟩
 rw [hf] at h1 h2 a0
 obtain ⟨ab, ha⟩ : ∃ n, decide (s.fin.s < s.best.f.s) = n := ⟨_, rfl⟩
 rw [ha] at KA KCn KT
 obtain ⟨XA, hXA⟩ : ∃ L, ltV s.fin qs.fin = L := ⟨_, rfl⟩
 obtain ⟨XB, hXB⟩ : ∃ L, ltV s.new qs.new = L := ⟨_, rfl⟩
 obtain ⟨XC, hXC⟩ : ∃ L, cmV s.now qs.now = L := ⟨_, rfl⟩
 obtain ⟨XD, hXD⟩ : ∃ L, cmV s.nxt qs.nxt = L := ⟨_, rfl⟩
 obtain ⟨UL, hUL⟩ : ∃ L, ltV s.best.l qs.best.l = L := ⟨_, rfl⟩
 obtain ⟨UF, hUF⟩ : ∃ L, ltV s.best.f qs.best.f = L := ⟨_, rfl⟩
 obtain ⟨UC, hUC⟩ : ∃ L, cmV s.best.c qs.best.c = L := ⟨_, rfl⟩
 obtain ⟨u1, hu1⟩ : ∃ L, slV s.best.nb qs.best.nb = L := ⟨_, rfl⟩
 obtain ⟨u2, hu2⟩ : ∃ L, slV s.best.fb qs.best.fb = L := ⟨_, rfl⟩
 obtain ⟨u3, hu3⟩ : ∃ L, (Value.int .u64 (s.best.bits : Int)) = L := ⟨_, rfl⟩
 obtain ⟨u4, hu4⟩ : ∃ L, (Value.string s.best.sig) = L := ⟨_, rfl⟩
 obtain ⟨u5, hu5⟩ : ∃ L, (Value.int .u64 (s.best.slot : Int)) = L := ⟨_, rfl⟩
 obtain ⟨nl, hnl⟩ : ∃ b, s.last = b := ⟨_, rfl⟩
 obtain ⟨nt, hnt⟩ : ∃ b, s.this = b := ⟨_, rfl⟩
 obtain ⟨bf, hbf⟩ : ∃ b, s.forced = b := ⟨_, rfl⟩
 rw [hXA] at KA KT h9 a0 ⊢
 rw [hXB] at KT h9 a0 ⊢
 rw [hXC] at KT h9 a0 ⊢
 rw [hXD] at KT h9 a0 ⊢
 rw [hUL] at KT KCn h9 hu oL oU a0 ⊢
 rw [hUF] at KA KT KCn h9 hu o9 oU a0 ⊢
 rw [hUC] at KT h9 hu oU a0 ⊢
 rw [hu1, hu2, hu3, hu4, hu5] at KT h9 oU a0 ⊢
 rw [hnl, hnt, hbf] at KT a0 ⊢
 obtain ⟨XN, hXN⟩ : ∃ L, (if ab = true then UF else UL) = L := ⟨_, rfl⟩
 have eN : (if ab = true then UF.toArray else UL.toArray) = XN.toArray := by rw [← hXN]; cases ab <;> rfl
 rw [eN] at KCn
 rw [hXN] at KT
 have lXN : XN.length = 9 := by rw [← hXN]; cases ab; exact hu.out.1; exact hu.out.2.2
 have oXN : ∀ v ∈ XN, v.oneCell' = true := by rw [← hXN]; cases ab; exact oL; exact o9
 obtain ⟨FS, hFS⟩ : ∃ x, frS s now = x := ⟨_, rfl⟩
 rw [hFS] at KD ⊢
 obtain ⟨TA, hTA⟩ : ∃ L, ltV (tkS s (frU s)).fin (frP s qs).fin = L := ⟨_, rfl⟩
 obtain ⟨TB, hTB⟩ : ∃ L, ltV (tkS s (frU s)).new (frP s qs).new = L := ⟨_, rfl⟩
 obtain ⟨TC, hTC⟩ : ∃ L, cmV (tkS s (frU s)).now (frP s qs).now = L := ⟨_, rfl⟩
 obtain ⟨TD, hTD⟩ : ∃ L, cmV (tkS s (frU s)).nxt (frP s qs).nxt = L := ⟨_, rfl⟩
 obtain ⟨TE, hTE⟩ : ∃ L, upV (tkS s (frU s)).best (frP s qs).best = L := ⟨_, rfl⟩
 obtain ⟨t1, ht1⟩ : ∃ L, (tkS s (frU s)).has = L := ⟨_, rfl⟩
 obtain ⟨t2, ht2⟩ : ∃ L, (tkS s (frU s)).last = L := ⟨_, rfl⟩
 obtain ⟨t3, ht3⟩ : ∃ L, (tkS s (frU s)).this = L := ⟨_, rfl⟩
 obtain ⟨t4, ht4⟩ : ∃ L, (tkS s (frU s)).forced = L := ⟨_, rfl⟩
 rw [hTA, hTB, hTC, hTD, hTE] at KD KT h9T oT
 rw [ht1, ht2, ht3] at KD KT oT
 rw [ht4] at KT oT
 have wk : IntKind.u64.wrap ((now : Int) - f) = (now : Int) - f := by rw [IntKind.wrap_u64]; omega
 have l1 : ¬ (now : Int) ≤ f := by omega
 have l2 : ¬ (now : Int) - f ≤ 64 := by omega
 clear hXA hXB hXC hXD hUL hUF hUC hu1 hu2 hu3 hu4 hu5 hnl hnt hbf hXN eN hTA hTB hTC hTD hTE ht1 ht2 ht3 ht4 hFS ha hf HANS hp hn hz ok
 obtain ⟨LU, hLU⟩ : ∃ L, up8 UL UC u1 UF u2 u3 u4 u5 = L := ⟨_, rfl⟩
 obtain ⟨L0, hL0⟩ : ∃ L, st9 XA XB XC XD LU true nl nt bf = L := ⟨_, rfl⟩
 rw [hLU] at KT h9 oU a0 ⊢
 have g0 := st9_A (B := XB) (C := XC) (D := XD) (E := LU) (h := true) (l := nl) (t := nt) (f := bf) (A := XA)
 have g4 := st9_E (h := true) (l := nl) (t := nt) (f := bf) h9
 have a47 : (st9 XA XB XC XD LU true nl nt bf)[47]? = some (.bool true) := st9_h h9
 have lS := st9_len (h := true) (l := nl) (t := nt) (f := bf) h9
 rw [hL0] at g0 g4 a47 a0 lS KT ⊢
 have H0 : Hid (_ ∧ _) := ⟨hLU, hL0⟩
 have lU : LU.length = 25 := h9.e
 clear hLU hL0
 obtain ⟨BV, hx, hy, hs⟩ := box2 w (.cells L0.toArray 38) (.cells #[.int .u64 0, .int .u64 0, .string ⟨#[]⟩, .string ⟨#[]⟩, .string ⟨#[]⟩, .string ⟨#[]⟩, .string ⟨#[]⟩, .int .u64 0, .slice none 0 0, .int .u64 0, .int .u64 0, .string ⟨#[]⟩, .string ⟨#[]⟩, .string ⟨#[]⟩, .string ⟨#[]⟩, .string ⟨#[]⟩, .int .u64 0, .slice none 0 0, .slice none 0 0, .string ⟨#[]⟩, .slice none 0 0, .string ⟨#[]⟩, .int .u64 0, .int .u64 0, .string ⟨#[]⟩, .string ⟨#[]⟩, .string ⟨#[]⟩, .string ⟨#[]⟩, .string ⟨#[]⟩, .int .u64 0, .slice none 0 0, .slice none 0 0, .string ⟨#[]⟩, .slice none 0 0, .int .u64 0, .int .u64 0, .string ⟨#[]⟩, .string ⟨#[]⟩, .string ⟨#[]⟩, .string ⟨#[]⟩, .string ⟨#[]⟩, .int .u64 0, .slice none 0 0, .slice none 0 0, .int .u64 0, .string ⟨#[]⟩, .int .u64 0, .bool false, .int .i64 0, .int .i64 0, .bool false] 38)
 obtain ⟨z, hzz⟩ : ∃ z, w.heap.size = z := ⟨_, rfl⟩
 have HZ : Hid (w.heap.size = z) := hzz
 rw [hzz] at BV hx hy hs KD
 have c0 := cell_of_block hx 0 _ a0
 have c47 := cell_of_block hx 47 _ a47
 have RE := range_of_block hx 22 LU g4
 have H9 : Hid (_ ∧ _ ∧ _ ∧ _ ∧ _ ∧ _ ∧ _) := ⟨h9, h9T, oT, oU, lXN, lS, lU⟩
 have HY : Hid (_ ∧ _ ∧ _ ∧ _) := ⟨BV, hx, hy, hs⟩
 clear a0 a47 g4 h9 h9T oT oU lS lU hx hy
 go_enter Tryz.func19, Tryz.ntmps19
 obtain ⟨BV3, hx3, hy3, hb3, hs3⟩ := box3 w (.cells L0.toArray 38) (.cells #[.int .u64 0, .int .u64 0, .string ⟨#[]⟩, .string ⟨#[]⟩, .string ⟨#[]⟩, .string ⟨#[]⟩, .string ⟨#[]⟩, .int .u64 0, .slice none 0 0, .int .u64 0, .int .u64 0, .string ⟨#[]⟩, .string ⟨#[]⟩, .string ⟨#[]⟩, .string ⟨#[]⟩, .string ⟨#[]⟩, .int .u64 0, .slice none 0 0, .slice none 0 0, .string ⟨#[]⟩, .slice none 0 0, .string ⟨#[]⟩, .int .u64 0, .int .u64 0, .string ⟨#[]⟩, .string ⟨#[]⟩, .string ⟨#[]⟩, .string ⟨#[]⟩, .string ⟨#[]⟩, .int .u64 0, .slice none 0 0, .slice none 0 0, .string ⟨#[]⟩, .slice none 0 0, .int .u64 0, .int .u64 0, .string ⟨#[]⟩, .string ⟨#[]⟩, .string ⟨#[]⟩, .string ⟨#[]⟩, .string ⟨#[]⟩, .int .u64 0, .slice none 0 0, .slice none 0 0, .int .u64 0, .string ⟨#[]⟩, .int .u64 0, .bool false, .int .i64 0, .int .i64 0, .bool false] 38) (.cells #[.int .u64 0, .int .u64 0, .string ⟨#[]⟩, .string ⟨#[]⟩, .string ⟨#[]⟩, .string ⟨#[]⟩, .string ⟨#[]⟩, .int .u64 0, .slice none 0 0, .slice none 0 0, .string ⟨#[]⟩, .slice none 0 0, .int .u64 0, .int .u64 0, .string ⟨#[]⟩, .string ⟨#[]⟩, .string ⟨#[]⟩, .string ⟨#[]⟩, .string ⟨#[]⟩, .int .u64 0, .slice none 0 0, .slice none 0 0, .int .u64 0, .string ⟨#[]⟩, .int .u64 0] 33)
 have HZ2 := HZ.out
 rw [HZ2] at BV3 hx3 hy3 hb3 hs3
 have lU := H9.out.2.2.2.2.2.2
 have hQU : Hid (LU.toArray.size = 25) := show _ by rw [List.size_toArray]; exact lU
 have oU := H9.out.2.2.2.1
 have H3 : Hid (_ ∧ _ ∧ _ ∧ _) := ⟨BV3, hx3, hy3, hs3⟩
 clear BV3 hx3 hy3 hs3 HZ2 lU
 go_wp2_with (first | (refine wpList_load_mid rfl 33 _ rfl z 22 rfl _ _ RE Tryz.underlying33 rfl (by rw [H9.out.2.2.2.2.2.2]; kernel_rfl) ?_) | (refine load_mid_wanted (by rfl) 33 _ rfl z 22 rfl _ _ RE Tryz.underlying33 rfl (by rw [H9.out.2.2.2.2.2.2]; kernel_rfl) ?_) | (refine store_row0 rfl rfl 33 _ _ rfl (z + 2) _ rfl rfl 33 _ hb3 (by rw [hQU.out]; kernel_rfl) (by rw [hQU.out]; rfl) oU.out ?_; refine Stp.out ?_))
 refine ⟨?_⟩
 obtain ⟨BV3, hx3, hy3, hs3⟩ := H3.out
 have x1 := Bq.rowOther (show Bq z 38 _ _ from hx3) (show z ≠ z + 2 by omega) LU.toArray
 have y1 := Bq.rowOther (show Bq (z + 1) 38 _ _ from hy3) (show z + 1 ≠ z + 2 by omega) LU.toArray
 have b1 := Bq.row (show Bq (z + 2) 33 _ _ from hb3) LU.toArray
 have s1 : z + 3 ≤ ((((w.alloc (.cells L0.toArray 38)).alloc (.cells #[.int .u64 0, .int .u64 0, .string ⟨#[]⟩, .string ⟨#[]⟩, .string ⟨#[]⟩, .string ⟨#[]⟩, .string ⟨#[]⟩, .int .u64 0, .slice none 0 0, .int .u64 0, .int .u64 0, .string ⟨#[]⟩, .string ⟨#[]⟩, .string ⟨#[]⟩, .string ⟨#[]⟩, .string ⟨#[]⟩, .int .u64 0, .slice none 0 0, .slice none 0 0, .string ⟨#[]⟩, .slice none 0 0, .string ⟨#[]⟩, .int .u64 0, .int .u64 0, .string ⟨#[]⟩, .string ⟨#[]⟩, .string ⟨#[]⟩, .string ⟨#[]⟩, .string ⟨#[]⟩, .int .u64 0, .slice none 0 0, .slice none 0 0, .string ⟨#[]⟩, .slice none 0 0, .int .u64 0, .int .u64 0, .string ⟨#[]⟩, .string ⟨#[]⟩, .string ⟨#[]⟩, .string ⟨#[]⟩, .string ⟨#[]⟩, .int .u64 0, .slice none 0 0, .slice none 0 0, .int .u64 0, .string ⟨#[]⟩, .int .u64 0, .bool false, .int .i64 0, .int .i64 0, .bool false] 38)).alloc (.cells #[.int .u64 0, .int .u64 0, .string ⟨#[]⟩, .string ⟨#[]⟩, .string ⟨#[]⟩, .string ⟨#[]⟩, .string ⟨#[]⟩, .int .u64 0, .slice none 0 0, .slice none 0 0, .string ⟨#[]⟩, .slice none 0 0, .int .u64 0, .int .u64 0, .string ⟨#[]⟩, .string ⟨#[]⟩, .string ⟨#[]⟩, .string ⟨#[]⟩, .string ⟨#[]⟩, .int .u64 0, .slice none 0 0, .slice none 0 0, .int .u64 0, .string ⟨#[]⟩, .int .u64 0] 33)).setRow (z + 2) LU.toArray).heap.size := by rw [size_setRow, hs3]; exact Nat.le_refl _
 have HB1 : Hid (Below z w ((((w.alloc (.cells L0.toArray 38)).alloc (.cells #[.int .u64 0, .int .u64 0, .string ⟨#[]⟩, .string ⟨#[]⟩, .string ⟨#[]⟩, .string ⟨#[]⟩, .string ⟨#[]⟩, .int .u64 0, .slice none 0 0, .int .u64 0, .int .u64 0, .string ⟨#[]⟩, .string ⟨#[]⟩, .string ⟨#[]⟩, .string ⟨#[]⟩, .string ⟨#[]⟩, .int .u64 0, .slice none 0 0, .slice none 0 0, .string ⟨#[]⟩, .slice none 0 0, .string ⟨#[]⟩, .int .u64 0, .int .u64 0, .string ⟨#[]⟩, .string ⟨#[]⟩, .string ⟨#[]⟩, .string ⟨#[]⟩, .string ⟨#[]⟩, .int .u64 0, .slice none 0 0, .slice none 0 0, .string ⟨#[]⟩, .slice none 0 0, .int .u64 0, .int .u64 0, .string ⟨#[]⟩, .string ⟨#[]⟩, .string ⟨#[]⟩, .string ⟨#[]⟩, .string ⟨#[]⟩, .int .u64 0, .slice none 0 0, .slice none 0 0, .int .u64 0, .string ⟨#[]⟩, .int .u64 0, .bool false, .int .i64 0, .int .i64 0, .bool false] 38)).alloc (.cells #[.int .u64 0, .int .u64 0, .string ⟨#[]⟩, .string ⟨#[]⟩, .string ⟨#[]⟩, .string ⟨#[]⟩, .string ⟨#[]⟩, .int .u64 0, .slice none 0 0, .slice none 0 0, .string ⟨#[]⟩, .slice none 0 0, .int .u64 0, .int .u64 0, .string ⟨#[]⟩, .string ⟨#[]⟩, .string ⟨#[]⟩, .string ⟨#[]⟩, .string ⟨#[]⟩, .int .u64 0, .slice none 0 0, .slice none 0 0, .int .u64 0, .string ⟨#[]⟩, .int .u64 0] 33)).setRow (z + 2) LU.toArray)) := below_row BV3 (by omega) _
 obtain ⟨V1, hV1⟩ : ∃ V, (((w.alloc (.cells L0.toArray 38)).alloc (.cells #[.int .u64 0, .int .u64 0, .string ⟨#[]⟩, .string ⟨#[]⟩, .string ⟨#[]⟩, .string ⟨#[]⟩, .string ⟨#[]⟩, .int .u64 0, .slice none 0 0, .int .u64 0, .int .u64 0, .string ⟨#[]⟩, .string ⟨#[]⟩, .string ⟨#[]⟩, .string ⟨#[]⟩, .string ⟨#[]⟩, .int .u64 0, .slice none 0 0, .slice none 0 0, .string ⟨#[]⟩, .slice none 0 0, .string ⟨#[]⟩, .int .u64 0, .int .u64 0, .string ⟨#[]⟩, .string ⟨#[]⟩, .string ⟨#[]⟩, .string ⟨#[]⟩, .string ⟨#[]⟩, .int .u64 0, .slice none 0 0, .slice none 0 0, .string ⟨#[]⟩, .slice none 0 0, .int .u64 0, .int .u64 0, .string ⟨#[]⟩, .string ⟨#[]⟩, .string ⟨#[]⟩, .string ⟨#[]⟩, .string ⟨#[]⟩, .int .u64 0, .slice none 0 0, .slice none 0 0, .int .u64 0, .string ⟨#[]⟩, .int .u64 0, .bool false, .int .i64 0, .int .i64 0, .bool false] 38)).alloc (.cells #[.int .u64 0, .int .u64 0, .string ⟨#[]⟩, .string ⟨#[]⟩, .string ⟨#[]⟩, .string ⟨#[]⟩, .string ⟨#[]⟩, .int .u64 0, .slice none 0 0, .slice none 0 0, .string ⟨#[]⟩, .slice none 0 0, .int .u64 0, .int .u64 0, .string ⟨#[]⟩, .string ⟨#[]⟩, .string ⟨#[]⟩, .string ⟨#[]⟩, .string ⟨#[]⟩, .int .u64 0, .slice none 0 0, .slice none 0 0, .int .u64 0, .string ⟨#[]⟩, .int .u64 0] 33)).setRow (z + 2) LU.toArray = V := ⟨_, rfl⟩
 rw [hV1] at x1 y1 b1 s1 HB1 ⊢
 clear hV1 H3 BV3 hx3 hy3 hb3 hs3 RE c0 c47 hQU oU hzz hs BV l1 l2 wk
 obtain ⟨hLU, hL0⟩ := H0.out
 obtain ⟨h9, h9T, oT, oU, lXN', lS, lU⟩ := H9.out
 rw [← hLU] at b1
 have QF := rangeQ (range_of_block b1 12 UF (up8_F hu.out.1 hu.out.2.1)) (by omega)
 have QL := rangeQ (range_of_block b1 0 UL up8_L) (by omega)
 have QA := rangeQ (range_of_block x1 0 XA (by rw [← hL0]; exact st9_A)) (by omega)
 have c4 := inClass (w := V1) KA
 have c5 := inClass (w := V1) KCn
 have BV := HB1.out
 have lA : Hid (XA.length = 9) := show _ from h9.a
 have HL0 : Hid _ := hL0
 clear h9 hLU hL0 g0
 go_wp2_with fail
 refine region_tail 11 (by kernel_rfl) (by kernel_rfl) ?_
 simp only [List.take_succ_cons, List.take_zero, List.drop_succ_cons, List.drop_zero]
 refine Stp.out ?_
 iterate 1 (refine qs_step (fun K hK => ?_); go_simp; refine hK _ ?_; clear hK K)
 refine quiet_load_S (by kernel_rfl) 29 _ rfl _ _ rfl _ _ QF Tryz.underlying29 rfl (by rw [hu.out.2.2]; kernel_rfl) ?_
 iterate 1 (refine qs_step (fun K hK => ?_); go_simp; refine hK _ ?_; clear hK K)
 refine quiet_load_S (by kernel_rfl) 29 _ rfl _ _ rfl _ _ QA Tryz.underlying29 rfl (by rw [lA.out]; kernel_rfl) ?_
 refine qs_step (fun K hK => ?_)
 go_simp
 apply Exists.intro
 refine ⟨fun _ => ?_, hK _ ?_⟩
 exact c4 _ _
 clear hK K
 iterate 1 (refine qs_step (fun K hK => ?_); go_simp; refine hK _ ?_; clear hK K)
 refine quiet_load_S (by kernel_rfl) 29 _ rfl _ _ rfl _ _ QF Tryz.underlying29 rfl (by rw [hu.out.2.2]; kernel_rfl) ?_
 iterate 1 (refine qs_step (fun K hK => ?_); go_simp; refine hK _ ?_; clear hK K)
 refine quiet_load_S (by kernel_rfl) 29 _ rfl _ _ rfl _ _ QL Tryz.underlying29 rfl (by rw [hu.out.1]; kernel_rfl) ?_
 refine qs_step (fun K hK => ?_)
 go_simp
 apply Exists.intro
 refine ⟨fun _ => ?_, hK _ ?_⟩
 exact c5 _ _
 clear hK K
 iterate 1 (refine qs_step (fun K hK => ?_); go_simp; refine hK _ ?_; clear hK K)
 refine ⟨wpQuiet_nil ?_⟩
 intro V2 hV2
 have cB2 : Below V1.heap.size V1 V2 := by
  obtain ⟨p, rfl⟩ := hV2
  exact below_regrown _ _ _
 have B2 : Below z w V2 := by
  obtain ⟨p, rfl⟩ := hV2
  exact belowStep BV (by have := BV.size; omega) (below_regrown V1 p.d p.os)
 clear hV2
 have x2 := x1.below cB2
 have y2 := y1.below cB2
 have b2 := b1.below cB2
 have s2 : z + 3 ≤ V2.heap.size := by have := cB2.size; omega
 have HB2 : Hid (Below z w V2) := B2
 clear x1 y1 b1 s1 HB1 cB2 B2 BV QF QL QA c4 c5 KA KCn
 have ht : V2.there (z + 2) 12 XN.length := there_of_block b2 (by rw [lXN, up8_len hu.out.1 hu.out.2.1 hu.out.2.2]; omega)
 go_wp2_with (first | (refine store_mid0 rfl rfl 29 _ _ rfl (z + 2) 12 XN rfl rfl ht (by rw [lXN]; kernel_rfl) oXN ?_; refine Stp.out ?_))
 refine ⟨?_⟩
 have x3 : Bq z 38 _ (V2.setCells (z + 2) 12 XN) := (setCells_other (by omega) _ _ _).trans x2
 have y3 : Bq (z + 1) 38 _ (V2.setCells (z + 2) 12 XN) := (setCells_other (by omega) _ _ _).trans y2
 have b3 := up8_putF hu.out.1 hu.out.2.1 hu.out.2.2 lXN b2
 have s3 : z + 3 ≤ (V2.setCells (z + 2) 12 XN).heap.size := by rw [size_setCellsB]; exact s2
 have HB3 : Hid (Below z w (V2.setCells (z + 2) 12 XN)) := below_cells HB2.out (by omega) _
 obtain ⟨V3, hV3⟩ : ∃ V, V2.setCells (z + 2) 12 XN = V := ⟨_, rfl⟩
 rw [hV3] at x3 y3 b3 s3 HB3 ⊢
 clear hV3 x2 y2 b2 s2 HB2 ht
 have lN : Hid ((up8 UL UC u1 XN u2 u3 u4 u5).toArray.size = 25) := show _ by rw [List.size_toArray]; exact up8_len hu.out.1 hu.out.2.1 lXN
 have lS0 : Hid (L0.toArray.size = 51) := show _ by rw [List.size_toArray]; exact lS
 have lT : Hid ((st9 TA TB TC TD TE t1 t2 t3 t4).toArray.size = 51) := show _ by rw [List.size_toArray]; exact st9_len h9T
 obtain ⟨LN, hLN⟩ : ∃ L, (up8 UL UC u1 XN u2 u3 u4 u5).toArray = L := ⟨_, rfl⟩
 rw [hLN] at KT lN b3
 clear hLN
 go_wp2_with (first | (refine wpList_load_row rfl 38 _ rfl z rfl _ _ _ _ x3 Tryz.underlying38 rfl (by rw [lS0.out]; kernel_rfl) ?_) | (refine wpList_load_row rfl 33 _ rfl (z + 2) rfl _ _ _ _ b3 Tryz.underlying33 rfl (by rw [lN.out]; kernel_rfl) ?_))
 refine (KT _).mono ?_
 rintro e V4 ⟨rfl, C⟩
 have x4 := x3.below C
 have y4 := y3.below C
 have s4 : z + 3 ≤ V4.heap.size := by have := C.size; omega
 have HB4 : Hid (Below z w V4) := belowStep HB3.out (by omega) C
 clear C x3 y3 b3 s3 HB3 KT lN lS0
 have oT2 : Hid _ := oT.out
 go_wp2_with (first | (refine store_row0 rfl rfl 38 _ _ rfl z _ rfl rfl 38 _ x4 (by rw [lT.out]; kernel_rfl) (by rw [lT.out, List.size_toArray]; exact lS) oT2.out ?_; refine Stp.out ?_))
 refine ⟨?_⟩
 have x5 := x4.row (st9 TA TB TC TD TE t1 t2 t3 t4).toArray
 have y5 := y4.rowOther (show z + 1 ≠ z by omega) (st9 TA TB TC TD TE t1 t2 t3 t4).toArray
 have s5 : z + 3 ≤ (V4.setRow z (st9 TA TB TC TD TE t1 t2 t3 t4).toArray).heap.size := by rw [size_setRow]; exact s4
 have HB5 : Hid (Below z w (V4.setRow z (st9 TA TB TC TD TE t1 t2 t3 t4).toArray)) := below_row HB4.out (Nat.le_refl _) _
 obtain ⟨V5, hV5⟩ : ∃ V, V4.setRow z (st9 TA TB TC TD TE t1 t2 t3 t4).toArray = V := ⟨_, rfl⟩
 rw [hV5] at x5 y5 s5 HB5 ⊢
 clear hV5 x4 y4 s4 HB4
 have c50 : V5.cell? ⟨z, 50, none⟩ = some (.bool t4) := cell_of_block x5 50 _ (st9_f h9T)
 have f50 : V5.frozen? ⟨z, 50, none⟩ = false := Bq.fr x5 50
 have x6 := st9_putf h9T true x5
 have y6 : Bq (z + 1) 38 _ (V5.setCell ⟨z, 50, none⟩ (.bool true)) := (Below.heap_setCell _ _ _ _ (show z + 1 ≠ z by omega)).trans y5
 have HB6 : Hid (Below z w (V5.setCell ⟨z, 50, none⟩ (.bool true))) := show _ from HB5.out.setCell (p := ⟨z, 50, none⟩) (Nat.le_refl _) _
 have s6 : Hid (z + 3 ≤ (V5.setCell ⟨z, 50, none⟩ (.bool true)).heap.size) := show _ by rw [size_setCell']; exact s5
 have lF : Hid ((st9 TA TB TC TD TE t1 t2 t3 true).toArray.size = 51) := show _ by rw [List.size_toArray]; exact st9_len h9T
 obtain ⟨LF, hLF⟩ : ∃ L, (st9 TA TB TC TD TE t1 t2 t3 true).toArray = L := ⟨_, rfl⟩
 rw [hLF] at KD lF x6
 have KD6 := KD _ HB6.out (Nat.le_trans (Nat.le_add_right z 3) s6.out)
 have HY6 : Hid (Bq (z + 1) 38 _ _) := y6
 clear x5 y5 s5 HB5 hLF y6 KD lT
 go_wp2_with (first | (refine wpList_load_row rfl 38 _ rfl z rfl _ _ _ _ x6 Tryz.underlying38 rfl (by rw [lF.out]; kernel_rfl) ?_))
 refine KD6.mono ?_
 rintro e V7 ⟨⟨q7, rfl, G7⟩, C⟩
 have y7 : Bq (z + 1) 38 _ V7 := (C.block (z + 1) (by have := s6.out; omega)).trans HY6.out
 have BX : Below z w V7 := belowStep HB6.out (by have := s6.out; omega) C
 have hQ : Hid ((stV FS q7).toArray.size = 51) := show _ from rfl
 have hone := stV_one FS q7
 obtain ⟨F9, hF9⟩ : ∃ F, (stV FS q7).toArray = F := ⟨_, rfl⟩
 have HF : Hid (_ ∧ _ ∧ _ ∧ _) := ⟨BX, G7, hF9, one_arr hone⟩
 rw [hF9] at hQ ⊢
 have S6 : Hid (z + 3 ≤ (V5.setCell ⟨z, 50, none⟩ (.bool true)).heap.size) := s6.out
 clear BX G7 hF9 hone C x6 KD6 HB6 HY6 c50 f50 lF s6
 go_wp2_with (refine store_row0 rfl rfl 38 _ _ rfl (z + 1) _ rfl rfl 38 _ y7 (by rw [hQ.out]; kernel_rfl) (by rw [hQ.out]; rfl) (by rw [← HF.out.2.2.1]; exact HF.out.2.2.2) ?_)
 obtain ⟨BX, G7, hF9, -⟩ := HF.out
 refine bodyPost_ret (results_row2 rfl _ _ (z + 1) 38 _ (0, 0) _ rfl (Bq.row (show Bq (z + 1) 38 _ _ from y7) F9) Tryz.underlying38 rfl (by rw [hQ.out]; kernel_rfl) (.int .i64 0) rfl) rfl ⟨⟨q7, by rw [← hF9], ?_⟩, ?_⟩
 ·exact (G7.keep (by rw [size_setRow]; exact Nat.le_refl _) fun b hb _ => setRow_other _ _ _ _ (by have := S6.out; omega)).mono (by have := HZ.out; have := S6.out; omega)
 ·rw [HZ.out]
  exact below_row BX (by omega) F9
end Go.Proofs.YtoddangedbefgabGreatDoor
namespace Go.Proofs.YtoddangedbefgabGreatDoor
open Go.RowKit Go.Shelf Go.Sort

def lfV (root : ByteArray) (br : List ByteArray) (leaf : Nat) (state : ByteArray) : Bool := decide (br.length = 3) && chk root br leaf state
set_option maxHeartbeats 1000000 in
theorem isLeaf_any (root : ByteArray) (br : List ByteArray) (q : Pl) (leaf : Nat) (hleaf : leaf < 18446744073709551616) (state : ByteArray) (n : Nat) (w : World) (hl : Laid w) (hn : n ≤ w.heap.size) (hp : slS n w q.a br) :
  Calls Tryz.prog 43 #[.string root, slV br q, .int .u64 (leaf : Int), .string state] w fun e w' => e = .returned (.bool (lfV root br leaf state)) ∧ Below w.heap.size w w' := by
 have KC := check_any root br leaf hleaf state q.a q.c n w hl hn hp
 unfold lfV slV
 obtain ⟨r, hr⟩ : ∃ r, chk root br leaf state = r := ⟨_, rfl⟩
 obtain ⟨N, hN⟩ : ∃ N, br.length = N := ⟨_, rfl⟩
 rw [hr, hN] at KC
 rw [hr, hN]
 clear hr hN hp hn hl
 go_enter Tryz.func43, Tryz.ntmps43
 by_cases h : N = 3
 ·subst h
  go_wp2_with fail
  refine KC.mono ?_
  rintro e w2 ⟨rfl, B2⟩
  have HB : Hid _ := B2
  clear B2 KC
  go_wp2
  go_ret
  exact ⟨by simp, HB.out⟩
 ·have h0 : ((N : Int) == 3) = false := by rw [beq_eq_false_iff_ne]; omega
  go_wp2
  go_ret
  exact ⟨by simp [h], Below.refl _ _⟩
def hdV (d : LtD) : List Value := [.int .u64 (d.s : Int), .int .u64 (d.u : Int), .string d.p, .string d.t, .string d.b]
def hrV (d : LtD) : ByteArray := rtS (hdC d.s d.u d.p d.t d.b) 3
theorem hrootL_any (d : LtD) (w : World) (hl : Laid w) : Calls Tryz.prog 42 #[.agg (hdV d).toArray] w fun e w' => e = .returned (.tuple #[.string (hrV d), .int .i64 (rtE (hdC d.s d.u d.p d.t d.b) 3)]) ∧ Below w.heap.size w w' := hroot_any d.s d.u d.p d.t d.b w hl
theorem hcommC_any (d : CmD) (q : Pl) (n : Nat) (w : World) (hl : Laid w) (hn : n ≤ w.heap.size) (hp : slS n w q.a d.ks) : Calls Tryz.prog 40 #[.agg (cmV d q).toArray] w fun e w' => e = .returned (.tuple #[.string (cmS d.ks d.sm), .int .i64 (cmE d.ks d.sm)]) ∧ Below w.heap.size w w' := hcomm_any d.ks q.a q.c d.sm n w hl hn hp
def bgE (root : ByteArray) (d : BtD) : Int := if (!cmB d.c.ks d.c.sm || !ltHo d.l) = true then 130 else if (!decide (root = hrV d.l)) = true then 140 else if (!lfV (cmS d.c.ks d.c.sm) d.br 4 d.l.t) = true then 145 else 0
def bgS (root : ByteArray) (d : BtD) : StD := if (!cmB d.c.ks d.c.sm || !ltHo d.l) = true then zSt else if (!decide (root = hrV d.l)) = true then zSt else if (!lfV (cmS d.c.ks d.c.sm) d.br 4 d.l.t) = true then zSt else ⟨d.l, d.l, d.c, zCm, zUp, false, 0, 0, false⟩
theorem btV_l (d : BtD) (q : BtP) (j : Nat) (v : Value) (h : (ltV d.l q.l)[j]? = some v) : (btV d q)[0 + j]? = some v := get_mid (A := []) (B := ltV d.l q.l) (C := cmV d.c q.c ++ [slV d.br q.br]) j v h
theorem btV_c (d : BtD) (q : BtP) (j : Nat) (v : Value) (h : (cmV d.c q.c)[j]? = some v) : (btV d q)[9 + j]? = some v := get_mid (A := ltV d.l q.l) (B := cmV d.c q.c) (C := [slV d.br q.br]) j v h
theorem btV_h (d : BtD) (q : BtP) (j : Nat) (v : Value) (h : (hdV d.l)[j]? = some v) : (btV d q)[0 + j]? = some v := get_mid (A := []) (B := hdV d.l) (C := [Value.string d.l.ea, .string d.l.ra, .int .u64 (d.l.m : Int), .slice q.l.a d.l.br.length q.l.c] ++ cmV d.c q.c ++ [slV d.br q.br]) j v h
end Go.Proofs.YtoddangedbefgabGreatDoor
namespace Go.Proofs.YtoddangedbefgabGreatDoor
open Go.RowKit Go.Shelf Go.Sort

set_option maxRecDepth 20000 in
set_option maxHeartbeats 8000000 in
theorem begin_any (root : ByteArray) (d : BtD) (hz : szB d) (q : BtP) (n : Nat) (w : World) (hl : Laid w) (hn : n ≤ w.heap.size) (hp : btIn n w d q) :
  Calls Tryz.prog 18 #[.string root, .agg (btV d q).toArray] w fun e w' => (∃ q', e = .returned (.tuple #[.agg (stV (bgS root d) q').toArray, .int .i64 (bgE root d)]) ∧ stIn w'.heap.size w' (bgS root d) q') ∧ Below w.heap.size w w' := by
 have KM := fun (W : World) (hB : Below w.heap.size w W) (hs : w.heap.size ≤ W.heap.size) => hcommC_any d.c q.c n W (hl.below hB) (Nat.le_trans hn hs) (slS_below (hB.mono hn) hp.2.1)
 have KH := fun (W : World) (hB : Below w.heap.size w W) (hs : w.heap.size ≤ W.heap.size) => holdsL_any d.l q.l n W (hl.below hB) (Nat.le_trans hn hs) (slS_below (hB.mono hn) hp.1)
 have KR := fun (W : World) (hB : Below w.heap.size w W) => hrootL_any d.l W (hl.below hB)
 have KL := fun (W : World) (hB : Below w.heap.size w W) (hs : w.heap.size ≤ W.heap.size) => isLeaf_any (cmS d.c.ks d.c.sm) d.br q.br 4 (by omega) d.l.t n W (hl.below hB) (Nat.le_trans hn hs) (slS_below (hB.mono hn) hp.2.2)
 have KC := fun (W : World) (hB : Below w.heap.size w W) (hs : w.heap.size ≤ W.heap.size) => copied_any ⟨d.l, d.l, d.c, zCm, zUp, false, 0, 0, false⟩ ⟨hz.1, hz.1, hz.2.1, zC_sz, zT_sz.2.2.2.2⟩ ⟨q.l, q.l, q.c, nP, nU⟩ n W (Nat.le_trans hn hs)
  ⟨slS_below (hB.mono hn) hp.1, slS_below (hB.mono hn) hp.1, slS_below (hB.mono hn) hp.2.1, nil_in _ _, nil_in _ _, nil_in _ _, nil_in _ _, nil_in _ _, nil_in _ _⟩
 have hS : bgS root d = if (!cmB d.c.ks d.c.sm || !ltHo d.l) = true then zSt else if (!decide (root = hrV d.l)) = true then zSt else if (!lfV (cmS d.c.ks d.c.sm) d.br 4 d.l.t) = true then zSt else ⟨d.l, d.l, d.c, zCm, zUp, false, 0, 0, false⟩ := rfl
 have hE : bgE root d = if (!cmB d.c.ks d.c.sm || !ltHo d.l) = true then 130 else if (!decide (root = hrV d.l)) = true then 140 else if (!lfV (cmS d.c.ks d.c.sm) d.br 4 d.l.t) = true then 145 else 0 := rfl
 have hmE : cmE d.c.ks d.c.sm = if cmB d.c.ks d.c.sm = true then 0 else 130 := rfl
 have aL := btV_l d q
 have aC := btV_c d q
 have aH := btV_h d q
 have a11 : (btV d q)[11]? = some (slV d.br q.br) := rfl
 have a3 : (btV d q)[3]? = some (.string d.l.t) := rfl
 have HLn : Hid ((btV d q).length = 12 ∧ (ltV d.l q.l).length = 9 ∧ (cmV d.c q.c).length = 2 ∧ (hdV d.l).length = 5) := show _ from ⟨rfl, rfl, rfl, rfl⟩
 obtain ⟨cb, hcb⟩ : ∃ x, cmB d.c.ks d.c.sm = x := ⟨_, rfl⟩
 obtain ⟨cs, hcs⟩ : ∃ x, cmS d.c.ks d.c.sm = x := ⟨_, rfl⟩
 obtain ⟨ce, hce⟩ : ∃ x, cmE d.c.ks d.c.sm = x := ⟨_, rfl⟩
 obtain ⟨ho, hho⟩ : ∃ x, ltHo d.l = x := ⟨_, rfl⟩
 obtain ⟨hr, hhr⟩ : ∃ x, hrV d.l = x := ⟨_, rfl⟩
 obtain ⟨re, hre⟩ : ∃ x, rtE (hdC (d.l.s : Int) (d.l.u : Int) d.l.p d.l.t d.l.b) 3 = x := ⟨_, rfl⟩
 rw [hce, hcb] at hmE
 rw [hcs, hce] at KM
 rw [hho] at KH
 rw [hhr, hre] at KR
 rw [hcs] at KL hS hE
 obtain ⟨lf, hlf⟩ : ∃ x, lfV cs d.br 4 d.l.t = x := ⟨_, rfl⟩
 rw [hlf] at KL
 rw [hcb, hho, hhr, hlf] at hS hE
 have HSE : Hid (_ ∧ _) := ⟨hS, hE⟩
 obtain ⟨LB, hLB⟩ : ∃ L, btV d q = L := ⟨_, rfl⟩
 obtain ⟨XL, hXL⟩ : ∃ L, ltV d.l q.l = L := ⟨_, rfl⟩
 obtain ⟨XC, hXC⟩ : ∃ L, cmV d.c q.c = L := ⟨_, rfl⟩
 obtain ⟨XH, hXH⟩ : ∃ L, hdV d.l = L := ⟨_, rfl⟩
 rw [hLB] at aL aC aH a11 a3 HLn ⊢
 rw [hXL] at aL HLn KH
 rw [hXC] at aC HLn KM
 rw [hXH] at aH HLn KR
 have HX : Hid (_ ∧ _) := ⟨hXL, hXC⟩
 clear hS hE hcb hcs hce hho hhr hre hlf hLB hXL hXC hXH hp hn hz hl
 obtain ⟨BV, hx, hy, hs⟩ := box2 w (.cells LB.toArray 52) (.cells #[.int .u64 0, .int .u64 0, .string ⟨#[]⟩, .string ⟨#[]⟩, .string ⟨#[]⟩, .string ⟨#[]⟩, .string ⟨#[]⟩, .int .u64 0, .slice none 0 0, .int .u64 0, .int .u64 0, .string ⟨#[]⟩, .string ⟨#[]⟩, .string ⟨#[]⟩, .string ⟨#[]⟩, .string ⟨#[]⟩, .int .u64 0, .slice none 0 0, .slice none 0 0, .string ⟨#[]⟩, .slice none 0 0, .string ⟨#[]⟩, .int .u64 0, .int .u64 0, .string ⟨#[]⟩, .string ⟨#[]⟩, .string ⟨#[]⟩, .string ⟨#[]⟩, .string ⟨#[]⟩, .int .u64 0, .slice none 0 0, .slice none 0 0, .string ⟨#[]⟩, .slice none 0 0, .int .u64 0, .int .u64 0, .string ⟨#[]⟩, .string ⟨#[]⟩, .string ⟨#[]⟩, .string ⟨#[]⟩, .string ⟨#[]⟩, .int .u64 0, .slice none 0 0, .slice none 0 0, .int .u64 0, .string ⟨#[]⟩, .int .u64 0, .bool false, .int .i64 0, .int .i64 0, .bool false] 38)
 obtain ⟨z, hzz⟩ : ∃ z, w.heap.size = z := ⟨_, rfl⟩
 have HZ : Hid (w.heap.size = z) := hzz
 rw [hzz] at BV hx hy hs KM KH KR KL KC
 have RC := range_of_block hx 9 XC aC
 go_enter Tryz.func18, Tryz.ntmps18
 go_wp2_with (refine wpList_load_mid rfl 31 _ rfl z 9 rfl _ _ RC Tryz.underlying31 rfl (by rw [HLn.out.2.2.1]; kernel_rfl) ?_)
 refine (KM _ BV (by omega)).mono ?_
 rintro e V1 ⟨rfl, C⟩
 have x1 : Bq z 52 LB.toArray V1 := (C.block z (by omega)).trans hx
 have y1 : Bq (z + 1) 38 #[.int .u64 0, .int .u64 0, .string ⟨#[]⟩, .string ⟨#[]⟩, .string ⟨#[]⟩, .string ⟨#[]⟩, .string ⟨#[]⟩, .int .u64 0, .slice none 0 0, .int .u64 0, .int .u64 0, .string ⟨#[]⟩, .string ⟨#[]⟩, .string ⟨#[]⟩, .string ⟨#[]⟩, .string ⟨#[]⟩, .int .u64 0, .slice none 0 0, .slice none 0 0, .string ⟨#[]⟩, .slice none 0 0, .string ⟨#[]⟩, .int .u64 0, .int .u64 0, .string ⟨#[]⟩, .string ⟨#[]⟩, .string ⟨#[]⟩, .string ⟨#[]⟩, .string ⟨#[]⟩, .int .u64 0, .slice none 0 0, .slice none 0 0, .string ⟨#[]⟩, .slice none 0 0, .int .u64 0, .int .u64 0, .string ⟨#[]⟩, .string ⟨#[]⟩, .string ⟨#[]⟩, .string ⟨#[]⟩, .string ⟨#[]⟩, .int .u64 0, .slice none 0 0, .slice none 0 0, .int .u64 0, .string ⟨#[]⟩, .int .u64 0, .bool false, .int .i64 0, .int .i64 0, .bool false] V1 := (C.block (z + 1) (by omega)).trans hy
 have BV1 := belowStep BV (by omega) C
 have s1 : z + 2 ≤ V1.heap.size := by have := C.size; omega
 clear C BV hx hy hs RC KM hzz
 have RL := range_of_block x1 0 XL aL
 cases cb with
 | false =>
  obtain rfl : ce = 130 := hmE
  go_wp2_with (refine store_row0 rfl rfl 38 _ _ rfl (z + 1) _ rfl rfl 38 _ y1 (by kernel_rfl) rfl (by simp [Value.oneCell']) ?_)
  refine bodyPost_ret (results_row2 rfl _ _ (z + 1) 38 _ (0, 0) _ rfl (y1.row _) Tryz.underlying38 rfl (by kernel_rfl) (.int .i64 130) rfl) rfl ?_
  have hS : bgS root d = zSt := by rw [HSE.out.1]; exact if_pos (by simp)
  have hE : bgE root d = 130 := by rw [HSE.out.2]; exact if_pos (by simp)
  refine ⟨⟨nS, by rw [hS, hE]; kernel_rfl, ?_⟩, ?_⟩
  ·rw [hS]
   exact zT_in _ _
  ·rw [HZ.out]
   exact below_row BV1 (by omega) _
 | true =>
  obtain rfl : ce = 0 := hmE
  go_wp2_with (first | (refine wpList_load_mid rfl 29 _ rfl z 0 rfl _ _ RL Tryz.underlying29 rfl (by rw [HLn.out.2.1]; kernel_rfl) ?_) | (refine load_mid_wanted (by kernel_rfl) 29 _ rfl z 0 rfl _ _ RL Tryz.underlying29 rfl (by rw [HLn.out.2.1]; kernel_rfl) ?_))
  refine (KH _ BV1 (by omega)).mono ?_
  rintro e V2 ⟨rfl, C⟩
  have x2 := (C.block z (by omega)).trans x1
  have y2 : Bq (z + 1) 38 _ V2 := (C.block (z + 1) (by omega)).trans y1
  have BV2 := belowStep BV1 (by omega) C
  have s2 : z + 2 ≤ V2.heap.size := by have := C.size; omega
  clear C KH RL
  have RH := range_of_block x2 0 XH aH
  cases ho with
  | false =>
   go_wp2_with (refine store_row0 rfl rfl 38 _ _ rfl (z + 1) _ rfl rfl 38 _ y2 (by kernel_rfl) rfl (by simp [Value.oneCell']) ?_)
   refine bodyPost_ret (results_row2 rfl _ _ (z + 1) 38 _ (0, 0) _ rfl (y2.row _) Tryz.underlying38 rfl (by kernel_rfl) (.int .i64 130) rfl) rfl ?_
   have hS : bgS root d = zSt := by rw [HSE.out.1]; exact if_pos (by simp)
   have hE : bgE root d = 130 := by rw [HSE.out.2]; exact if_pos (by simp)
   refine ⟨⟨nS, by rw [hS, hE]; kernel_rfl, ?_⟩, ?_⟩
   ·rw [hS]
    exact zT_in _ _
   ·rw [HZ.out]
    exact below_row BV2 (by omega) _
  | true =>
   go_wp2_with (first | (refine wpList_load_mid rfl 24 _ rfl z 0 rfl _ _ RH Tryz.underlying24 rfl (by rw [HLn.out.2.2.2]; kernel_rfl) ?_) | (refine load_mid_wanted (by kernel_rfl) 24 _ rfl z 0 rfl _ _ RH Tryz.underlying24 rfl (by rw [HLn.out.2.2.2]; kernel_rfl) ?_))
   refine (KR _ BV2).mono ?_
   rintro e V3 ⟨rfl, C⟩
   have x3 : Bq z 52 LB.toArray V3 := (C.block z (by omega)).trans x2
   have y3 : Bq (z + 1) 38 _ V3 := (C.block (z + 1) (by omega)).trans y2
   have BV3 := belowStep BV2 (by omega) C
   have s3 : z + 2 ≤ V3.heap.size := by have := C.size; omega
   clear C KR RH
   by_cases hrr : root = hr
   ·have hr2 : (root.toList == hr.toList) = true := by rw [hrr]; exact beq_self_eq_true _
    have hd : (!decide (root = hr)) = false := by rw [decide_eq_true hrr]; rfl
    have c3 : V3.cell? ⟨z, 3, none⟩ = some (.string d.l.t) := cell_of_block x3 3 _ a3
    have c11 : V3.cell? ⟨z, 11, none⟩ = some (slV d.br q.br) := cell_of_block x3 11 _ a11
    go_wp2_with fail
    refine (KL V3 BV3 (by omega)).mono ?_
    rintro e V4 ⟨rfl, C⟩
    have x4 : Bq z 52 LB.toArray V4 := (C.block z (by omega)).trans x3
    have y4 : Bq (z + 1) 38 _ V4 := (C.block (z + 1) (by omega)).trans y3
    have BV4 := belowStep BV3 (by omega) C
    have s4 : z + 2 ≤ V4.heap.size := by have := C.size; omega
    clear C KL c3 c11
    cases lf with
    | false =>
     go_wp2_with (refine store_row0 rfl rfl 38 _ _ rfl (z + 1) _ rfl rfl 38 _ y4 (by kernel_rfl) rfl (by simp [Value.oneCell']) ?_)
     refine bodyPost_ret (results_row2 rfl _ _ (z + 1) 38 _ (0, 0) _ rfl (y4.row _) Tryz.underlying38 rfl (by kernel_rfl) (.int .i64 145) rfl) rfl ?_
     have hS : bgS root d = zSt := by rw [HSE.out.1]; rw [hd]; rfl
     have hE : bgE root d = 145 := by rw [HSE.out.2]; rw [hd]; rfl
     refine ⟨⟨nS, by rw [hS, hE]; kernel_rfl, ?_⟩, ?_⟩
     ·rw [hS]
      exact zT_in _ _
     ·rw [HZ.out]
      exact below_row BV4 (by omega) _
    | true =>
     have RL := range_of_block x4 0 XL aL
     have RC := range_of_block x4 9 XC aC
     rw [← HX.out.1] at RL
     rw [← HX.out.2] at RC
     simp only [ltV, cmV] at RL RC
     go_wp2_with (first | (refine wpList_load_mid rfl 29 _ rfl z 0 rfl _ _ RL Tryz.underlying29 rfl (by kernel_rfl) ?_) | (refine load_mid_wanted (by rfl) 29 _ rfl z 0 rfl _ _ RL Tryz.underlying29 rfl (by kernel_rfl) ?_) | (refine wpList_load_mid rfl 31 _ rfl z 9 rfl _ _ RC Tryz.underlying31 rfl (by kernel_rfl) ?_) | (refine load_mid_wanted (by rfl) 31 _ rfl z 9 rfl _ _ RC Tryz.underlying31 rfl (by kernel_rfl) ?_))
     refine (KC V4 BV4 (by omega)).mono ?_
     rintro e V5 ⟨⟨q5, rfl, g5⟩, C⟩
     have y5 : Bq (z + 1) 38 _ V5 := (C.block (z + 1) (by omega)).trans y4
     have BV5 := belowStep BV4 (by omega) C
     have hone := stV_one ⟨d.l, d.l, d.c, zCm, zUp, false, 0, 0, false⟩ q5
     have hQ : Hid ((stV ⟨d.l, d.l, d.c, zCm, zUp, false, 0, 0, false⟩ q5).toArray.size = 51) := show _ from rfl
     obtain ⟨F9, hF9⟩ : ∃ Y, (stV ⟨d.l, d.l, d.c, zCm, zUp, false, 0, 0, false⟩ q5).toArray = Y := ⟨_, rfl⟩
     have HF : Hid (_ ∧ _ ∧ _ ∧ _ ∧ _) := ⟨BV5, g5, hF9, one_arr hone, s4⟩
     rw [hF9] at hQ ⊢
     clear BV5 g5 hF9 hone s4 C KC RL RC BV4 BV3 BV2 BV1 s1 s2 s3
     go_wp2_with (refine store_row0 rfl rfl 38 _ _ rfl (z + 1) _ rfl rfl 38 _ y5 (by rw [hQ.out]; kernel_rfl) (by rw [hQ.out]; rfl) (by rw [← HF.out.2.2.1]; exact HF.out.2.2.2.1) ?_)
     obtain ⟨BV5, g5, hF9, -, s4⟩ := HF.out
     have hS : bgS root d = ⟨d.l, d.l, d.c, zCm, zUp, false, 0, 0, false⟩ := by rw [HSE.out.1]; rw [hd]; rfl
     have hE : bgE root d = 0 := by rw [HSE.out.2]; rw [hd]; rfl
     refine bodyPost_ret (results_row2 rfl _ _ (z + 1) 38 _ (0, 0) _ rfl (y5.row F9) Tryz.underlying38 rfl (by rw [hQ.out]; kernel_rfl) (.int .i64 0) rfl) rfl ⟨⟨q5, by rw [hS, hE, ← hF9], ?_⟩, ?_⟩
     ·rw [hS]
      have g6 := g5.keep (W' := V5.setRow (z + 1) F9) (by rw [size_setRow]; exact Nat.le_refl _) fun b hb _ => setRow_other _ _ _ _ (by omega)
      exact g6.stIn
     ·rw [HZ.out]
      exact below_row BV5 (by omega) F9
   ·have hr2 : (root.toList == hr.toList) = false := by rw [beq_eq_false_iff_ne]; exact fun e => hrr (toList_inj e)
    have hd : (!decide (root = hr)) = true := by rw [decide_eq_false hrr]; rfl
    go_wp2_with (refine store_row0 rfl rfl 38 _ _ rfl (z + 1) _ rfl rfl 38 _ y3 (by kernel_rfl) rfl (by simp [Value.oneCell']) ?_)
    refine bodyPost_ret (results_row2 rfl _ _ (z + 1) 38 _ (0, 0) _ rfl (y3.row _) Tryz.underlying38 rfl (by kernel_rfl) (.int .i64 140) rfl) rfl ?_
    have hS : bgS root d = zSt := by rw [HSE.out.1]; rw [hd]; rfl
    have hE : bgE root d = 140 := by rw [HSE.out.2]; rw [hd]; rfl
    refine ⟨⟨nS, by rw [hS, hE]; kernel_rfl, ?_⟩, ?_⟩
    ·rw [hS]
     exact zT_in _ _
    ·rw [HZ.out]
     exact below_row BV3 (by omega) _
end Go.Proofs.YtoddangedbefgabGreatDoor
namespace Go.Proofs.YtoddangedbefgabGreatDoor
open Go.RowKit Go.Shelf Go.Sort

theorem force_any (s : StD) (ok : s.ok) (hz : szT s) (qs : StP) (now : Nat) (hnow : now < 18446744073709551616) (n : Nat) (w : World) (hn : n ≤ w.heap.size) (hp : stIn n w s qs) :
  Calls Tryz.prog 19 #[.agg (stV s qs).toArray, .int .u64 (now : Int)] w fun e w' => (∃ q', e = .returned (.tuple #[.agg (stV (frS s now) q').toArray, .int .i64 (frE s now)]) ∧ stIn w'.heap.size w' (frS s now) q') ∧ Below w.heap.size w w' := by
 cases h : rfB s now with
 | true =>
  have e1 : frS s now = s := if_pos h
  have e2 : frE s now = 148 := if_pos h
  rw [e1, e2]
  refine (force_no s hz qs now hnow n w hn hp h).mono ?_
  rintro e w' ⟨⟨q', rfl, g⟩, hb⟩
  exact ⟨⟨q', rfl, g.stIn⟩, hb⟩
 | false =>
  have e2 : frE s now = 0 := if_neg (by rw [h]; exact Bool.false_ne_true)
  rw [e2]
  refine (force_yes s ok hz qs now hnow n w hn hp h).mono ?_
  rintro e w' ⟨⟨q', rfl, g⟩, hb⟩
  exact ⟨⟨q', rfl, g.stIn⟩, hb⟩
end Go.Proofs.YtoddangedbefgabGreatDoor
