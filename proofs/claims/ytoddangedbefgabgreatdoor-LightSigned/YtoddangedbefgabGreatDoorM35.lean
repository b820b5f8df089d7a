/- Lemmas: What the package's against does: the merits of two messages, side by side. No condition. What the package's Better does. No condition. What the package's copies do. No condition but on sizes that no machine has. What the package's copiedCommittee does. No condition but on sizes that no machine has. Structs in memory: whole rows and parts of them, written and read. No condition. -/
import Derived.Test.YtoddangedbefgabGreatDoorM34
set_option maxRecDepth 100000
set_option maxHeartbeats 4000000
namespace Go.Proofs.YtoddangedbefgabGreatDoor
open Go.RowKit Go.Shelf Go.Sort
attribute [local go_sem] Oper.semAt_some
theorem against_any (A B : Array Value) (w : World) :
  Calls Tryz.prog 22 #[.agg A, .agg B] w fun e w' => e = .returned (.func (.func 50) #[] #[.pointer (some ⟨w.heap.size + 1, 0, none⟩), .pointer (some ⟨w.heap.size, 0, none⟩)]) ∧ w' = (w.alloc (.cells A 33)).alloc (.cells B 33) := by
 go_enter Tryz.func22, Tryz.ntmps22
 go_wp2
 go_ret
 exact ⟨rfl, rfl⟩
theorem jdw {FN : Fence} {n : Nat} {P : Program} {w : World} {ops : Array Oper} {rest : List Oper} {o : Oper} {a : Act} {Q : Exit → Act → World → Prop} (hg : o.guard = none) (ty : TypeId) (x : Operand) (ho : o.op = .load ty x)
  (b off : Nat) (hx : a.eval x = .pointer (some ⟨b, off, none⟩)) (cs : List Value) (d : TypeDesc) (hc : w.rangeAt b off cs) (hu : P.underlying ty = some d) (hd : d.isRow = true) (hi : (P.info? ty).map (·.size) = some cs.length)
  (h : wpListIn FN n P ops Q rest (a.put o.dst (.agg cs.toArray)) w) : wpListIn FN n P ops Q (o :: rest) a w := by
 refine wpListIn_plain hg fun K hK' => ?_
 unfold Oper.wpIn
 refine ⟨?_, ?_⟩
 ·simp [Oper.about, ho]
 ·rw [Oper.semAt_plain FN _ _ (by rw [ho]; intro c hc'; cases hc')]
  unfold execOp
  simp only [ho, hx, Instr.loadAt, Instr.sureAddr, Sem.run_bind, Sem.run_pure, Result.andThen_ok, run_loadVar_mid w b off ty cs d hc hu hd hi]
  exact hK' _ _ h
def mrL (R : List Mr) : List Value := R.flatMap fun m => [.bool m.1, .int .u64 (m.2 : Int)]
def mrA (R : List Mr) (k : Nat) : Mr := R.getD k (false, 0)
theorem mrL_get : ∀ (R : List Mr) (k : Nat), k < R.length → (mrL R)[k * 2]? = some (.bool (mrA R k).1) ∧ (mrL R)[k * 2 + 1]? = some (.int .u64 ((mrA R k).2 : Int))
 | [], k, h => absurd h (Nat.not_lt_zero _)
 | m :: R, 0, _ => ⟨rfl, rfl⟩
 | m :: R, k + 1, h => by
  have := mrL_get R k (Nat.lt_of_succ_lt_succ h)
  rw [Nat.add_mul, Nat.one_mul]
  exact this
theorem merN_len (d : UpD) : (merN d).length = 6 := rfl
theorem against1_in (n l n0 n1 bA bB : Nat) (a b : UpD) (ha : a.ok) (hb : b.ok) (qa qb : UpP) (hnl : n0 ≤ n1 ∧ n1 ≤ l)
  (J Jx : Nat → World → Prop) (hJ : ∀ k A C, J k A → Below A.heap.size A C → J k C)
  (hY : ∀ m k W, J k W → k < 6 → YieldAt Fence.wide m Tryz.prog l #[mrV (mrA (merN a) k), mrV (mrA (merN b) k)] W fun e W' =>
   (e = .returned (.bool true) ∧ J (k + 1) W' ∧ Kz n0 n1 l W W') ∨ (e = .returned (.bool false) ∧ Jx k W'))
  (W : World) (hlW : l < W.heap.size) (hcA : Bq bA 33 (upV a qa).toArray W) (hcB : Bq bB 33 (upV b qb).toArray W) (h0 : J 0 W) :
  CallsIn Fence.wide n Tryz.prog 50 #[.func (.yield l) #[] #[], .pointer (some ⟨bB, 0, none⟩), .pointer (some ⟨bA, 0, none⟩)] W fun e W' => (∃ v, e = .returned v) ∧ (J 6 W' ∨ ∃ k, k < 6 ∧ Jx k W') := by
 have KA := merits_any a ha qa
 have KB := merits_any b hb qb
 have lenA := merN_len a
 have lenB := merN_len b
 have HA25 : Hid ((upV a qa).length = 25 ∧ (upV b qb).length = 25) := show _ from ⟨rfl, rfl⟩
 obtain ⟨RA, hRA⟩ : ∃ R, merN a = R := ⟨_, rfl⟩
 obtain ⟨RB, hRB⟩ : ∃ R, merN b = R := ⟨_, rfl⟩
 obtain ⟨LA, hLA⟩ : ∃ R, upV a qa = R := ⟨_, rfl⟩
 obtain ⟨LB, hLB⟩ : ∃ R, upV b qb = R := ⟨_, rfl⟩
 rw [hRA] at KA hY lenA
 rw [hRB] at KB hY lenB
 rw [hLA] at KA hcA HA25
 rw [hLB] at KB hcB HA25
 clear hRA hRB hLA hLB ha hb
 have RB0 := jal hcB
 refine callsIn_of_wp Tryz.func50 rfl trivial ?_ rfl
 simp only [Tryz.ntmps50, List.size_toArray, List.length_cons, List.length_nil, Nat.reduceAdd, Nat.reduceSub, Array.replicate_succ, Array.replicate_zero, List.push_toArray, List.append_toArray, List.nil_append, List.cons_append]
 gi_wp2_with (refine jdw rfl 33 _ rfl bB 0 rfl _ _ RB0 Tryz.underlying33 rfl (by rw [HA25.out.2]; kernel_rfl) ?_)
 refine ⟨trivial, fun h => (by cases h), (callsIn_wide.2 (KB W)).mono ?_⟩
 rintro e W1 ⟨g1, rfl, hg1, hr1, hs1, B1⟩
 have hcA1 := hcA.below B1
 have hW1 := B1.size
 have J1 := hJ _ _ _ h0 B1
 have RA0 := jal hcA1
 clear RB0 hcB hcA h0 KB
 gi_wp2_with (refine jdw rfl 33 _ rfl bA 0 rfl _ _ RA0 Tryz.underlying33 rfl (by rw [HA25.out.1]; kernel_rfl) ?_)
 refine ⟨trivial, fun h => (by cases h), (callsIn_wide.2 (KA W1)).mono ?_⟩
 rintro e W2 ⟨g2, rfl, hg2, hr2, hs2, B2⟩
 have J2 := hJ _ _ _ J1 B2
 have hW2 := B2.size
 have hr1 : W2.rangeAt g1 0 (mrL RB) := fun j v hj => (B2.cell (p := ⟨g1, _, none⟩) (by show g1 < W1.heap.size; omega)).trans (hr1 j v hj)
 have hr2 : W2.rangeAt g2 0 (mrL RA) := hr2
 clear RA0 KA J1 B2 B1 hcA1
 have hg1l : g1 < W2.heap.size := by omega
 have hN1 : ¬ (n0 ≤ g1 ∧ g1 < n1) ∧ g1 ≠ l := by omega
 have hN2 : ¬ (n0 ≤ g2 ∧ g2 < n1) ∧ g2 ≠ l := by omega
 gi_wp2_with fail
 gi_loopw [12] (fun i wr => ∃ k : Nat, k ≤ 6 ∧ i = .int .i64 (k : Int) ∧ J k wr ∧ g1 < wr.heap.size ∧ g2 < wr.heap.size ∧ wr.rangeAt g1 0 (mrL RB) ∧ wr.rangeAt g2 0 (mrL RA))
  (fun i _ => (6 - (intOf i).toNat))
 case atStart => exact ⟨0, by omega, rfl, J2, hg1l, hs2, hr1, hr2⟩
 case round =>
  clear hr1 hr2 J2 hs2 hg1l hs1 hW1 hW2 hg1 hg2 hlW
  obtain ⟨k, hk, rfl, hJs, q1, q2, r1, r2⟩ := hrel
  by_cases hlt : k < 6
  ·have l0 : (k : Int) < 6 := by omega
   obtain ⟨m0, m1⟩ := mrL_get RA k (by omega)
   obtain ⟨o0, o1⟩ := mrL_get RB k (by omega)
   have a0 := r2 _ _ m0
   have a1 := r2 _ _ m1
   have b0 := r1 _ _ o0
   have b1 := r1 _ _ o1
   rw [Nat.zero_add] at a0 a1 b0 b1
   have HH : Hid (_ ∧ _ ∧ _ ∧ _ ∧ _) := ⟨hJs, q1, q2, r1, r2⟩
   clear hJs r1 r2 m0 m1 o0 o1
   have hJs := HH.out.1
   obtain ⟨fa, ga⟩ : ∃ m, mrA RA k = m := ⟨_, rfl⟩
   obtain ⟨fb, gb⟩ : ∃ m, mrA RB k = m := ⟨_, rfl⟩
   rw [ga] at a0 a1
   rw [gb] at b0 b1
   have HM : Hid (_ ∧ _) := ⟨ga, gb⟩
   clear ga gb hJs
   gi_wp2_with fail
   obtain ⟨V, hV⟩ : ∃ V, wr.alloc (.cells #[.bool fa.fst, .int .u64 (fa.snd : Int)] 62) = V := ⟨_, rfl⟩
   obtain ⟨BV, hx, hsz⟩ := box1 wr (.cells #[.bool fa.fst, .int .u64 (fa.snd : Int)] 62)
   obtain ⟨y, hy⟩ : ∃ y, wr.heap.size = y := ⟨_, rfl⟩
   rw [hV]
   rw [hV] at BV hx hsz
   rw [hy] at hx hsz ⊢
   have e0 : V.cell? ⟨y, 0, none⟩ = some (.bool fa.fst) := by rw [Lib.cell_of_heap hx]; rfl
   have e1 : V.cell? ⟨y, 1, none⟩ = some (.int .u64 (fa.snd : Int)) := by rw [Lib.cell_of_heap hx]; rfl
   have k0 := cell_regrown e0
   have k1 := cell_regrown e1
   have k2 := cell_regrown ((BV.cell (p := ⟨g1, k * 2, none⟩) q1).trans b0)
   have k3 := cell_regrown ((BV.cell (p := ⟨g1, k * 2 + 1, none⟩) q1).trans b1)
   clear hV hx e0 e1 a0 a1 b0 b1
   refine jhl 6 (by kernel_rfl) (by kernel_rfl) (by kernel_rfl) ?_
   simp only [List.take_succ_cons, List.take_zero, List.drop_succ_cons, List.drop_zero]
   iterate 6 (quiet_step (fail))
   refine wpQuiet_nil ?_
   intro w8 hw8
   have B8 : Below wr.heap.size wr w8 := by
    obtain ⟨p, rfl⟩ := hw8
    exact jaa BV BV.size (below_regrown _ _ _)
   clear hw8 k0 k1 k2 k3 hsz BV
   obtain ⟨hJs, q1', q2', r1, r2⟩ := HH.out
   have J8 := hJ _ _ _ hJs B8
   obtain ⟨ga, gb⟩ := HM.out
   obtain ⟨fn, tmps, assign, body, hyy, hR⟩ := hY (n - 1) k w8 J8 hlt
   rw [ga, gb] at hyy
   unfold mrV at hyy
   have s8 := B8.size
   have r18 : w8.rangeAt g1 0 (mrL RB) := fun j v hj => (B8.cell (p := ⟨g1, _, none⟩) q1).trans (r1 j v hj)
   have r28 : w8.rangeAt g2 0 (mrL RA) := fun j v hj => (B8.cell (p := ⟨g2, _, none⟩) q2).trans (r2 j v hj)
   clear hJs q1' q2' r1 r2 J8 ga gb B8
   gi_wp2_with fail
   refine ⟨fun h => (by cases h), hR.mono ?_⟩
   rintro e W3 (⟨rfl, hJ3, hk3⟩ | ⟨rfl, hJx3⟩)
   ·have t1 : W3.rangeAt g1 0 (mrL RB) := fun j v hj => (hk3.cell (by omega) hN1.1 hN1.2 _).trans (r18 j v hj)
    have t2 : W3.rangeAt g2 0 (mrL RA) := fun j v hj => (hk3.cell (by omega) hN2.1 hN2.2 _).trans (r28 j v hj)
    have hs3 := hk3.1
    have HT : Hid (_ ∧ _ ∧ _) := ⟨t1, t2, hJ3⟩
    clear t1 t2 hJ3 hk3 r18 r28 hR hyy
    have wk : IntKind.i64.wrap ((k : Int) + 1) = ((k + 1 : Nat) : Int) := by rw [IntKind.wrap_i64]; omega
    gi_wp2
    go_roundw
    case rel => exact ⟨k + 1, by omega, by first | rfl | (congr 1; omega), HT.out.2.2, by omega, by omega, HT.out.1, HT.out.2.1⟩
    case measure => simp [intOf]; omega
   ·gi_wp2
    exact bodyPost_ret (v := .tuple #[]) (by simp [results, Tryz.results50, go_sem]) rfl ⟨⟨_, rfl⟩, .inr ⟨k, hlt, hJx3⟩⟩
  ·obtain rfl : k = 6 := by omega
   gi_wp2
   go_end0
   exact ⟨⟨_, rfl⟩, .inl hJs⟩
end Go.Proofs.YtoddangedbefgabGreatDoor
namespace Go.Proofs.YtoddangedbefgabGreatDoor
open Go.RowKit Go.Shelf Go.Sort
attribute [local go_sem] Oper.semAt_some
def betR : List Mr → List Mr → Bool
 | m :: R, n :: S => if m = n then betR R S else ovB m n
 | _, _ => false
theorem eqlM (m n : Mr) (W : World) : (binOp .neq 62 (mrV m) (mrV n)).run Tryz.prog W = .ok (.bool (!decide (m = n))) W := by
 obtain ⟨m1, m2⟩ := m
 obtain ⟨n1, n2⟩ := n
 unfold mrV
 by_cases h1 : m1 = n1
 ·subst h1
  by_cases h2 : m2 = n2
  ·subst h2; simp [go_sem]
  ·have h2' : ¬ (m2 : Int) = n2 := by omega
   simp [go_sem, h2, h2']
 ·simp [go_sem, h1]
theorem betR_at : ∀ (R S : List Mr) (k : Nat), k < R.length → R.length = S.length → (∀ j, j < k → mrA R j = mrA S j) → mrA R k ≠ mrA S k → betR R S = ovB (mrA R k) (mrA S k)
 | m :: R, n :: S, 0, _, _, _, h => by
  show (if m = n then betR R S else ovB m n) = _
  rw [if_neg (show ¬ m = n from h)]
  rfl
 | m :: R, n :: S, k + 1, h1, h2, h3, h => by
  have h0 : m = n := h3 0 (Nat.succ_pos _)
  show (if m = n then betR R S else ovB m n) = _
  rw [if_pos h0]
  exact betR_at R S k (Nat.lt_of_succ_lt_succ h1) (Nat.succ.inj h2) (fun j hj => h3 (j + 1) (Nat.succ_lt_succ hj)) h
 | [], _, _, h, _, _, _ => absurd h (Nat.not_lt_zero _)
 | _ :: _, [], _, _, h, _, _ => by cases h
theorem betR_all : ∀ (R S : List Mr), R.length = S.length → (∀ j, j < R.length → mrA R j = mrA S j) → betR R S = false
 | m :: R, n :: S, h2, h3 => by
  have h0 : m = n := h3 0 (Nat.succ_pos _)
  show (if m = n then betR R S else ovB m n) = _
  rw [if_pos h0]
  exact betR_all R S (Nat.succ.inj h2) (fun j hj => h3 (j + 1) (Nat.succ_lt_succ hj))
 | [], [], _, _ => rfl
 | [], _ :: _, h, _ => by cases h
 | _ :: _, [], h, _ => by cases h
theorem better_any (a b : UpD) (ha : a.ok) (hb : b.ok) (qa qb : UpP) (w : World) : Calls Tryz.prog 9 #[.agg (upV a qa).toArray, .agg (upV b qb).toArray] w fun x w' => x = .returned (.bool (betR (merN a) (merN b))) ∧ Below w.heap.size w w' := by
 have HLen : Hid ((upV a qa).length = 25 ∧ (upV b qb).length = 25) := show _ from ⟨rfl, rfl⟩
 have KA1 := fun (n l n0 n1 bA bB : Nat) => against1_in n l n0 n1 bA bB a b ha hb qa qb
 obtain ⟨LA, hLA⟩ : ∃ R, upV a qa = R := ⟨_, rfl⟩
 obtain ⟨LB, hLB⟩ : ∃ R, upV b qb = R := ⟨_, rfl⟩
 rw [hLA, hLB] at HLen
 have HLL : Hid (_ ∧ _) := ⟨hLA, hLB⟩
 rw [hLA, hLB] at KA1 ⊢
 clear hLA hLB
 refine (callsIn_wide (n := 9)).1 ?_
 refine callsIn_of_wp_marks Tryz.func9 rfl trivial ?_ rfl
 refine wpIn_wide.2 ?_
 simp only [Tryz.ntmps9, List.size_toArray, List.length_cons, List.length_nil, Nat.reduceAdd, Nat.reduceSub, Array.replicate_succ, Array.replicate_zero, List.push_toArray, List.append_toArray, List.nil_append, List.cons_append]
 go_wp2_with fail
 obtain ⟨z, hz⟩ : ∃ c, w.heap.size = c := ⟨_, rfl⟩
 have HZ : Hid (w.heap.size = z) := hz
 obtain ⟨B2, hx, hy, hs2⟩ := box2 w (.cells LA.toArray 33) (.cells LB.toArray 33)
 obtain ⟨V2, hV2⟩ : ∃ V, (w.alloc (.cells LA.toArray 33)).alloc (.cells LB.toArray 33) = V := ⟨_, rfl⟩
 rw [hV2] at B2 hx hy hs2 ⊢
 rw [hz] at B2 hx hy hs2 ⊢
 clear hV2 hz
 refine wp_scope_straight ?_
 go_wp2_with fail
 obtain ⟨B3, hb3, hs3⟩ := box1 V2 (.cells #[.bool false] 4)
 obtain ⟨V3, hV3⟩ : ∃ V, V2.alloc (.cells #[.bool false] 4) = V := ⟨_, rfl⟩
 rw [hV3] at B3 hb3 hs3 ⊢
 rw [hs2] at B3 hb3 hs3
 have xA := (B3.block z (by omega)).trans hx
 have xB := (B3.block (z + 1) (by omega)).trans hy
 have BW3 : Below z w V3 := B2.trans (B3.mono (by omega))
 have RA0 := jal xA
 have RB0 := jal xB
 clear hV3 B3 hx hy hs2 B2 xA xB
 refine wp_label ?_
 go_wp2_with (first
  | (refine wpList_load_mid rfl 33 (.tmp 2) rfl z 0 rfl _ _ RA0 Tryz.underlying33 rfl (by rw [HLen.out.1]; kernel_rfl) ?_)
  | (refine wpList_load_mid rfl 33 (.tmp 3) rfl (z + 1) 0 rfl _ _ RB0 Tryz.underlying33 rfl (by rw [HLen.out.2]; kernel_rfl) ?_))
 refine (against_any LA.toArray LB.toArray V3).mono ?_
 rintro e w4 ⟨rfl, hw4⟩
 obtain ⟨B4, hx, hy, hs4⟩ := box2 V3 (.cells LA.toArray 33) (.cells LB.toArray 33)
 rw [← hw4] at B4 hx hy hs4
 rw [hs3] at B4 hx hy hs4 ⊢
 have hb4 := (B4.block (z + 2) (by omega)).trans hb3
 have BW4 : Below z w w4 := BW3.trans (B4.mono (by omega))
 clear hw4 B4 hb3 BW3 RA0 RB0 hs3
 go_wp2_with fail
 refine (wpIn_wide (n := 9)).1 ?_
 refine range_to (by omega) (gf := 50) (lb := #[.pointer (some ⟨z + 4, 0, none⟩), .pointer (some ⟨z + 3, 0, none⟩)]) rfl (enters_of Tryz.func50 (by kernel_rfl) rfl) ?_
 intro fn mk W1 hmk BW1 hszW hRc
 rw [hs4] at hmk BW1 hszW hRc ⊢
 have cA : Bq (z + 3) 33 LA.toArray W1 := (BW1.block (z + 3) (by omega)).trans hx
 have cB : Bq (z + 4) 33 LB.toArray W1 := (BW1.block (z + 4) (by omega)).trans hy
 have b1 := (BW1.block (z + 2) (by omega)).trans hb4
 have BWz : Below z w W1 := BW4.trans (BW1.mono (by omega))
 clear hx hy hb4 BW4 BW1
 have lenA := merN_len a
 have lenB := merN_len b
 refine (KA1 8 (z + 6) (z + 2) (z + 3) (z + 3) (z + 4) (by omega)
  (fun k W => Rc (z + 5) (mk .ready none) W ∧ Below z w W ∧ W.heap[z + 2]? = some (.cells #[.bool false] 4 (0, 0)) ∧ ∀ j, j < k → mrA (merN a) j = mrA (merN b) j)
  (fun k W => Rc (z + 5) (mk .done (some (.exit 0))) W ∧ Below z w W ∧ W.heap[z + 2]? = some (.cells #[.bool (ovB (mrA (merN a) k) (mrA (merN b) k))] 4 (0, 0)) ∧ (∀ j, j < k → mrA (merN a) j = mrA (merN b) j) ∧ mrA (merN a) k ≠ mrA (merN b) k)
  ?hJ ?hY W1 (by omega) cA cB ⟨hRc, BWz, b1, fun j h => absurd h (by omega)⟩).mono ?_
 case hJ =>
  rintro k A C ⟨hr, hB, hv, hx⟩ hk
  have hlt := hr.lt
  exact ⟨hr.below hk, hB.trans (hk.mono (by omega)), (hk.block _ (by omega)).trans hv, hx⟩
 case hY =>
  rintro m k W ⟨hr, hB, hv, hx⟩ hk
  have KO := isOver_any (mrA (merN a) k) (mrA (merN b) k)
  have hE := eqlM (mrA (merN a) k) (mrA (merN b) k)
  obtain ⟨o, ho⟩ : ∃ o, ovB (mrA (merN a) k) (mrA (merN b) k) = o := ⟨_, rfl⟩
  obtain ⟨fa, hfa⟩ : ∃ o, mrA (merN a) k = o := ⟨_, rfl⟩
  obtain ⟨fb, hfb⟩ : ∃ o, mrA (merN b) k = o := ⟨_, rfl⟩
  have HF : Hid (_ ∧ _ ∧ _) := ⟨ho, hfa, hfb⟩
  rw [ho, hfa, hfb] at KO
  rw [hfa, hfb] at hE ⊢
  rw [hfa, hfb] at ho
  have HO : Hid (ovB fa fb = o) := ho
  clear hfa hfb ho
  obtain ⟨fa1, fa2⟩ := fa
  obtain ⟨fb1, fb2⟩ := fb
  unfold mrV at hE KO ⊢
  dsimp only at hE KO ⊢
  refine yield_to mk hmk hr rfl ?_
  obtain ⟨BA, gx, gy, gs⟩ := box2 W (.cells #[.bool fa1, .int .u64 (fa2 : Int)] 62) (.cells #[.bool fb1, .int .u64 (fb2 : Int)] 62)
  have hlt := hr.lt
  gi_wp2
  obtain ⟨A, hA⟩ : ∃ A, (W.alloc (.cells #[.bool fa1, .int .u64 (fa2 : Int)] 62)).alloc (.cells #[.bool fb1, .int .u64 (fb2 : Int)] 62) = A := ⟨_, rfl⟩
  rw [hA] at BA gx gy gs ⊢
  obtain ⟨y, hy⟩ : ∃ y, W.heap.size = y := ⟨_, rfl⟩
  clear hA
  refine ⟨hr.below BA, ?_⟩
  intro U hrU hkU
  rw [hy] at gx gy gs hlt BA ⊢
  have hyW : y = W.heap.size := hy.symm
  have HY : Hid (W.heap.size = y) := hy
  have gxU := (hkU.at (k := y) (by omega) (by omega)).trans gx
  have gyU := (hkU.at (k := y + 1) (by omega) (by omega)).trans gy
  have hvU := (hkU.at (k := z + 2) (by omega) (by omega)).trans ((BA.block (z + 2) (by omega)).trans hv)
  have BU := Kq.low (hB.trans (BA.mono (by omega))) (by omega) (by omega) hkU
  have KU : Kz (z + 2) (z + 3) (z + 6) W U := (Kz.below (by rw [hy]; exact BA)).trans ⟨hkU.size, fun b hb _ h => hkU.at hb (by omega)⟩
  have sU := hkU.size
  have g0 : U.cell? ⟨y, 0, none⟩ = some (.bool fa1) := by rw [Lib.cell_of_heap gxU]; rfl
  have g1 : U.cell? ⟨y, 1, none⟩ = some (.int .u64 (fa2 : Int)) := by rw [Lib.cell_of_heap gxU]; rfl
  have g2 : U.cell? ⟨y + 1, 0, none⟩ = some (.bool fb1) := by rw [Lib.cell_of_heap gyU]; rfl
  have g3 : U.cell? ⟨y + 1, 1, none⟩ = some (.int .u64 (fb2 : Int)) := by rw [Lib.cell_of_heap gyU]; rfl
  have HU : Hid (_ ∧ _ ∧ _ ∧ _ ∧ _) := ⟨hrU, hvU, BU, KU, hx⟩
  clear hrU hvU BU KU hx hr hB hv gx gy gs hkU hyW hy BA gxU gyU
  by_cases hm : ((fa1, fa2) : Mr) = (fb1, fb2)
  ·rw [decide_eq_true hm, Bool.not_true] at hE
   have HM : Hid _ := hm
   clear hm
   gi_wp2
   obtain ⟨hrU, hvU, BU, KU, hx⟩ := HU.out
   have hlt := hrU.lt
   refine And.intro hrU ?_
   intro X hrX hkX
   refine .inl ⟨rfl, ⟨hrX, Kq.low BU (by omega) (by omega) hkX, (hkX.at (by omega) (by omega)).trans hvU, fun j hj => ?_⟩, KU.trans ⟨hkX.size, fun b hb _ h => hkX.at hb (by omega)⟩⟩
   by_cases hjk : j < k
   ·exact hx j hjk
   ·obtain rfl : j = k := by omega
    rw [HF.out.2.1, HF.out.2.2]
    exact HM.out
  ·rw [decide_eq_false hm, Bool.not_false] at hE
   have HM : Hid _ := hm
   clear hm
   gi_wp2
   refine ⟨trivial, fun h => (by cases h), (CallsIn.inRound _ (callsIn_wide.2 (KO U))).mono ?_⟩
   rintro e w5 ⟨rfl, B5⟩
   obtain ⟨hrU, hvU, BU, KU, hx⟩ := HU.out
   have hr5 := hrU.below B5
   have hv5 := (B5.block (z + 2) (Array.getElem?_eq_some_iff.1 hvU).1).trans hvU
   have BU5 := jaa BU (by have := hrU.lt; omega) B5
   have f5 : w5.cell? ⟨z + 2, 0, none⟩ = some (.bool false) := by rw [Lib.cell_of_heap hv5]; rfl
   have fz : w5.frozen? ⟨z + 2, 0, none⟩ = false := by simp [World.frozen?, hv5]
   have e5 := jam hv5 0 (.bool o)
   have BS : Below z w (w5.setCell ⟨z + 2, 0, none⟩ (.bool o)) := BU5.setCell (p := ⟨z + 2, 0, none⟩) (by show z ≤ z + 2; omega) _
   have hrS : Rc (z + 5) (mk .busy none) (w5.setCell ⟨z + 2, 0, none⟩ (.bool o)) := ⟨((Kq.put w5 (z + 2) 0 _).at hr5.lt (by omega)).trans hr5.1, ((Kq.put w5 (z + 2) 0 _).at (by have := hr5.lt; omega) (by omega)).trans hr5.2⟩
   have HS : Hid (_ ∧ _ ∧ _ ∧ _) := ⟨e5, BS, hrS, hx⟩
   clear e5 BS hrS hx hrU hvU BU KU HU hr5 hv5 BU5 g0 g1 g2 g3 hE B5
   gi_wp2
   obtain ⟨e5, BS, hrS, hx⟩ := HS.out
   have hlt5 := hrS.lt
   refine And.intro hrS ?_
   intro X hrX hkX
   refine .inr ⟨rfl, hrX, Kq.low BS (by omega) (by omega) hkX, ?_, hx, ?_⟩
   ·rw [HO.out]
    exact (hkX.at (by omega) (by omega)).trans e5
   ·exact fun h1 h2 => HM.out (by rw [h1, h2])
 rintro e W2 ⟨he, ⟨hr, hB, hv, hx⟩ | ⟨k, hkk, hr, hB, hv, hx, hne⟩⟩
 ·refine ⟨he, .inl ⟨hr, ?_⟩⟩
  have hres := betR_all (merN a) (merN b) rfl hx
  intro U hdU hkU
  have hlt := hr.lt
  have hvU := (hkU.at (k := z + 2) (by omega) (by omega)).trans hv
  have BU := Kq.low hB (by omega) (by omega) hkU
  have f1 : U.cell? ⟨z + 2, 0, none⟩ = some (.bool false) := by rw [Lib.cell_of_heap hvU]; rfl
  have hdl : z + 5 < U.heap.size := (Array.getElem?_eq_some_iff.1 hdU).1
  clear hr hv hvU hkU hB
  go_wp2
  refine ⟨by simp, .inl ⟨_, _, rfl, run_takeDeferred hdU, ?_⟩⟩
  refine ⟨.bool false, by simp [results, Tryz.results9, go_sem], by rw [hres], ?_⟩
  rw [HZ.out]
  exact jeb BU (by omega) (by omega) _
 ·refine ⟨he, .inr ⟨.exit 0, hr, ?_⟩⟩
  have hres := betR_at (merN a) (merN b) k hkk rfl hx hne
  obtain ⟨o, ho⟩ : ∃ o, ovB (mrA (merN a) k) (mrA (merN b) k) = o := ⟨_, rfl⟩
  rw [ho] at hres hv
  intro U hdU hkU
  have hlt := hr.lt
  have hvU := (hkU.at (k := z + 2) (by omega) (by omega)).trans hv
  have BU := Kq.low hB (by omega) (by omega) hkU
  have f1 : U.cell? ⟨z + 2, 0, none⟩ = some (.bool o) := by rw [Lib.cell_of_heap hvU]; rfl
  have hdl : z + 5 < U.heap.size := (Array.getElem?_eq_some_iff.1 hdU).1
  clear hr hv hvU hkU hB
  gi_wp2
  go_wp2
  refine ⟨by simp, .inl ⟨_, _, rfl, run_takeDeferred hdU, ?_⟩⟩
  refine ⟨.bool o, by simp [results, Tryz.results9, go_sem], by rw [hres], ?_⟩
  rw [HZ.out]
  exact jeb BU (by omega) (by omega) _
end Go.Proofs.YtoddangedbefgabGreatDoor
namespace Go.Proofs.YtoddangedbefgabGreatDoor
open Go.RowKit Go.Shelf Go.Sort
def szS (xs : List ByteArray) : Prop := xs.length ≤ 8796093022208 ∧ ∀ x ∈ xs, x.size ≤ 281474976710656
theorem info_strI : (Tryz.prog.info? 9).map (fun i => (i.zero, i.size, i.bytes)) = some (some (.string ⟨#[]⟩), 1, 16) := by kernel_rfl
theorem jdn (xs : List ByteArray) (hz : szS xs) (a : Option Addr) (c n : Nat) (w : World) (hn : n ≤ w.heap.size) (hp : slS n w a xs) :
  Calls Tryz.prog 92 #[.slice a xs.length c] w fun e w' => (∃ v, e = .returned v ∧ w'.ownsRow w.heap.size 9 1 v xs.length (xs.map .string)) ∧ Below w.heap.size w w' := by
 obtain ⟨i0, hi0, hz0, hz1, hz2⟩ := info_parts info_strI
 have hlen := hz.1
 have hsz := hz.2
 clear hz
 obtain ⟨N, hN⟩ : ∃ N, xs.length = N := ⟨_, rfl⟩
 have HN : Hid (xs.length = N) := hN
 rw [hN] at hlen ⊢
 clear hN
 obtain ⟨z, hzz⟩ : ∃ z, w.heap.size = z := ⟨_, rfl⟩
 have HZ : Hid (w.heap.size = z) := hzz
 rw [hzz] at hn ⊢
 have B0 : Below z w w := by rw [← hzz]; exact Below.refl _ _
 clear hzz
 go_enter Tryz.func92, Tryz.ntmps92
 go_wp2_with fail
 go_loopg [3, 8] N (fun gk v i wr => ∃ k : Nat, k + gk = N ∧ i = .int .i64 k ∧ Below z w wr ∧ z ≤ wr.heap.size ∧ wr.ownsRow z 9 1 v k ((xs.take k).map .string))
 case atStart => exact ⟨0, by omega, rfl, B0, by have := HZ.out; omega, World.ownsRow_nil _ _ _ _⟩
 case round =>
  clear B0
  obtain ⟨k, hk, rfl, BW, hzw, hown⟩ := hrel
  have hr3 : ∀ b, u3.ownBlock = some b → z ≤ b := fun b hb => (hown.lt b hb).1
  by_cases hlt : k < N
  ·have l1 : (k : Int) < N := by omega
   obtain ⟨x, hxk⟩ : ∃ f, xs[k]? = some f := ⟨xs[k]'(by have := HN.out; omega), List.getElem?_eq_getElem (by have := HN.out; omega)⟩
   have hxb := hsz x (List.mem_of_getElem? hxk)
   obtain ⟨b, o, rfl, hbn, c0⟩ := jci hp k x hxk
   replace c0 := (BW.cell (p := ⟨b, _, none⟩) (by show b < z; omega)).trans c0
   obtain ⟨r, hr⟩ : ∃ p, o + k = p := ⟨_, rfl⟩
   rw [hr] at c0
   have wk : IntKind.i64.wrap ((k : Int) + 1) = ((k + 1 : Nat) : Int) := by rw [IntKind.wrap_i64]; omega
   have KM := fun w : World => jbu x w hxb
   have hnext : (xs.take (k + 1)).map Value.string = (xs.take k).map .string ++ [.string x] := by
    rw [List.take_add_one, hxk, Option.toList, List.map_append]
    rfl
   have HX : Hid _ := hnext
   have HO : Hid _ := hown
   clear hnext hxk hxb hown
   go_wp2_with fail
   refine (KM _).mono ?_
   rintro e w3 ⟨rfl, B3⟩
   clear KM c0
   have BW3 := jaa BW hzw B3
   have A1 : Below w3.heap.size w3 (w3.alloc (.cells #[.string x] 9)) := (Below.refl _ w3).alloc (Nat.le_refl _) _
   have hnew := World.alloc_heap_new w3 (.cells #[.string x] 9)
   have hown2 := jax (jax HO.out B3) A1
   have hs0 := B3.size
   have hs1 := A1.size
   have BW4 := jaa BW3 (Nat.le_trans hzw hs0) A1
   have HV : Hid (_ ∧ _ ∧ _) := ⟨hown2, hnew, BW4⟩
   clear A1 hnew hown2 BW BW3 BW4 B3 HO
   go_wp2_with (at_builtin; refine wpList_append_own _ rfl _ _ 27 rfl z 9 i0 (.string ⟨#[]⟩) 1 16 Tryz.underlying27 hi0 hz0 hz1 hz2 rfl (by decide) _ _ _ rfl HV.out.1 ⟨w3.heap.size, 0, none⟩ 1 1 [.string x] rfl rfl (jcg _ _ _) (by intro u hu; simp at hu; subst hu; rfl) (by unfold maxLen; omega) (by omega) (by simp; omega) ?_)
   intro v' w6 a2 a3 a4
   have HW : Hid (_ ∧ _) := ⟨a2, a3⟩
   clear a2 a3 a4
   go_wp2
   go_roundg (gk - 1)
   case measure => omega
   case rel =>
    obtain ⟨a2, a3⟩ := HW.out
    refine ⟨k + 1, by omega, by first | rfl | (congr 1; omega), HV.out.2.2.grown a3 (by omega) (fun q e => hr3 q e), Nat.le_trans (Nat.le_trans hzw (Nat.le_trans hs0 hs1)) a3.size, ?_⟩
    rw [HX.out, List.map_take]
    exact a2
  ·have l1 : ¬ (k : Int) < N := by omega
   obtain rfl : k = N := by omega
   rw [List.take_of_length_le (by have := HN.out; omega)] at hown
   have HO : Hid (_ ∧ _) := ⟨BW, hown⟩
   clear BW hown
   go_wp2
   go_ret
   exact ⟨⟨_, by simp, HO.out.2⟩, HO.out.1⟩
def slG (n : Nat) (W : World) (a : Option Addr) (xs : List ByteArray) : Prop := xs = [] ∨ ∃ b, a = some ⟨b, 0, none⟩ ∧ n ≤ b ∧ b < W.heap.size ∧ ∀ j x, xs[j]? = some x → W.cell? ⟨b, 0 + j, none⟩ = some (.string x)
theorem slG.slS {n : Nat} {W : World} {a : Option Addr} {xs : List ByteArray} (h : slG n W a xs) : slS W.heap.size W a xs := by
 rcases h with h | ⟨b, h1, h2, h3, h4⟩
 ·exact .inl h
 ·exact .inr ⟨b, 0, h1, h3, h4⟩
theorem slG.mono {n m : Nat} {W : World} {a : Option Addr} {xs : List ByteArray} (h : slG n W a xs) (hm : m ≤ n) : slG m W a xs := by
 rcases h with h | ⟨b, h1, h2, h3, h4⟩
 ·exact .inl h
 ·exact .inr ⟨b, h1, Nat.le_trans hm h2, h3, h4⟩
theorem slG.keep {n : Nat} {W W' : World} {a : Option Addr} {xs : List ByteArray} (h : slG n W a xs) (hs : W.heap.size ≤ W'.heap.size) (hW : ∀ b, n ≤ b → b < W.heap.size → W'.heap[b]? = W.heap[b]?) : slG n W' a xs := by
 rcases h with h | ⟨b, h1, h2, h3, h4⟩
 ·exact .inl h
 ·exact .inr ⟨b, h1, h2, Nat.lt_of_lt_of_le h3 hs, fun j x hx => by rw [World.cell?_of_block (w := W) (a := ⟨b, 0 + j, none⟩) (hW b h2 h3)]; exact h4 j x hx⟩
theorem slG.grow {n : Nat} {W W' : World} {a : Option Addr} {xs : List ByteArray} (h : slG n W a xs) (hb : Below W.heap.size W W') : slG n W' a xs := h.keep hb.size fun b _ hb2 => hb.block b hb2
theorem slG_of {W : World} {zz c : Nat} {a : Option Addr} {xs : List ByteArray} (h : W.ownsRow zz 9 1 (.slice a xs.length c) xs.length (xs.map .string)) : slG zz W a xs := by
 rcases h.2 with ⟨h1, h2⟩ | ⟨g, c', cur, h1, h2, h3, h4, h5, h6, h7⟩
 ·exact .inl (List.length_eq_zero_iff.1 h2)
 ·have hg := (Array.getElem?_eq_some_iff.1 h3).1
  cases h1
  refine .inr ⟨g, rfl, h2, hg, fun j x hx => ?_⟩
  have hj : j < xs.length := (List.getElem?_eq_some_iff.1 hx).1
  rw [h.cellAt (0 + j) (by omega), Nat.zero_add, List.getElem?_map, hx]
  rfl
theorem slS_put {W W' : World} {zz c : Nat} {a : Option Addr} {xs : List ByteArray} (h : W.ownsRow zz 9 1 (.slice a xs.length c) xs.length (xs.map .string)) (hs : W.heap.size ≤ W'.heap.size) (hW : ∀ b, zz ≤ b → b < W.heap.size → W'.heap[b]? = W.heap[b]?) : slG zz W' a xs := (slG_of h).keep hs hW
structure Mu_cm (V : World) (z N : Nat) (a : Option Addr) (c : Nat) (sm : ByteArray) (xs : List Value) (S : Nat → Bool) (x3 x4 x5 x6 x7 x8 : Value) (W : World) : Prop where
 e : Below V.heap.size V W
 f0 : S 0 = true → x3 = .pointer (some ⟨z, 0, none⟩)
 f1 : S 1 = true → x4 = .slice a N c
 f2 : S 2 = true → ∃ zz, V.heap.size ≤ zz ∧ zz ≤ W.heap.size ∧ W.ownsRow zz 9 1 x5 N xs
 f3 : S 3 = true → x6 = .pointer (some ⟨z, 1, none⟩)
 f4 : S 4 = true → x7 = .string sm
 f5 : S 5 = true → x8 = .string sm
theorem Mu_cm.grow {V : World} {z N : Nat} {a : Option Addr} {c : Nat} {sm : ByteArray} {xs : List Value} {S : Nat → Bool} {x3 x4 x5 x6 x7 x8 : Value} {W W' : World} (h : Mu_cm V z N a c sm xs S x3 x4 x5 x6 x7 x8 W) (hb : Below W.heap.size W W') : Mu_cm V z N a c sm xs S x3 x4 x5 x6 x7 x8 W' :=
 ⟨jaa h.e h.e.size hb, h.f0, h.f1, fun s => (h.f2 s).imp fun _ ⟨j1, j2, j3⟩ => ⟨j1, Nat.le_trans j2 hb.size, jax j3 hb⟩, h.f3, h.f4, h.f5⟩
theorem jdv (d : CmD) (hz : szS d.ks ∧ d.sm.size ≤ 281474976710656) (q : Pl) (n : Nat) (w : World) (hn : n ≤ w.heap.size) (hp : slS n w q.a d.ks) :
  Calls Tryz.prog 54 #[.agg (cmV d q).toArray] w fun e w' => (∃ q', e = .returned (.agg (cmV d q').toArray) ∧ slG w.heap.size w' q'.a d.ks) ∧ Below w.heap.size w w' := by
 obtain ⟨ks, sm⟩ := d
 obtain ⟨a, c⟩ := q
 obtain ⟨hz1, hz2⟩ := hz
 have hz2 : sm.size ≤ 281474976710656 := hz2
 simp only [cmV]
 have KT := fun (W : World) (hB : Below w.heap.size w W) => jdn ks hz1 a c n W (Nat.le_trans hn hB.size) (jan (hB.mono hn) hp)
 have KC := fun W : World => jbu sm W hz2
 clear hz1 hz2 hn hp
 obtain ⟨N, hN⟩ : ∃ N, ks.length = N := ⟨_, rfl⟩
 rw [hN] at KT
 have HN : Hid (ks.length = N) := hN
 rw [hN]
 clear hN
 obtain ⟨A0, hx, hs⟩ := box1 w (.cells #[.slice a N c, .string sm] 31)
 obtain ⟨w1, hw1⟩ : ∃ W, w.alloc (.cells #[.slice a N c, .string sm] 31) = W := ⟨_, rfl⟩
 obtain ⟨z, hz⟩ : ∃ z, w.heap.size = z := ⟨_, rfl⟩
 have HZ : Hid (w.heap.size = z) := hz
 rw [hw1] at A0 hx hs
 rw [hz] at A0 hx hs KT
 have c0 : w1.cell? ⟨z, 0, none⟩ = some (.slice a N c) := by rw [Lib.cell_of_heap hx]; rfl
 have c1 : w1.cell? ⟨z, 1, none⟩ = some (.string sm) := by rw [Lib.cell_of_heap hx]; rfl
 have hzw : z < w1.heap.size := by omega
 clear hx hs
 go_enter Tryz.func54, Tryz.ntmps54
 go_wp2_with fail
 first | rw [hw1] | skip
 obtain ⟨A2, hx2, hs2⟩ := box1 w1 (.cells #[.slice none 0 0, .string ⟨#[]⟩] 31)
 have hw1s : w1.heap.size = z + 1 := by rw [← hw1, ← hz]; simp
 obtain ⟨V, hV⟩ : ∃ V, w1.alloc (.cells #[.slice none 0 0, .string ⟨#[]⟩] 31) = V := ⟨_, rfl⟩
 rw [hV] at A2 hx2 hs2 ⊢
 rw [hw1s] at A2 hx2 hs2 ⊢
 have d0 : V.cell? ⟨z, 0, none⟩ = some (.slice a N c) := (A2.cell (p := ⟨z, 0, none⟩) (by show z < z + 1; omega)).trans c0
 have d1 : V.cell? ⟨z, 1, none⟩ = some (.string sm) := (A2.cell (p := ⟨z, 1, none⟩) (by show z < z + 1; omega)).trans c1
 have hzV : z < V.heap.size := by omega
 have BV : Below z w V := A0.trans (A2.mono (by omega))
 have KT' := fun (W : World) (hB : Below V.heap.size V W) => KT W (BV.trans (hB.mono (by omega)))
 have HB : Hid (Below z w V ∧ V.heap.size = z + 2 ∧ V.heap[z + 1]? = some (.cells #[.slice none 0 0, .string ⟨#[]⟩] 31 (0, 0))) := ⟨BV, by omega, hx2⟩
 obtain ⟨xs, hxs⟩ : ∃ xs : List Value, ks.map .string = xs := ⟨_, rfl⟩
 rw [hxs] at KT'
 have HXS : Hid _ := hxs
 clear hw1 hz A0 A2 hx2 hs2 c0 c1 KT BV hw1s hV hxs
 refine jaw 6 (fun S aa W => ∃ x3 x4 x5 x6 x7 x8 : Value, aa = { tmps := #[Value.agg #[Value.slice a N c, Value.string sm], Value.pointer (some { block := z, off := 0 }), Value.pointer (some { block := z + 1, off := 0 }), x3, x4, x5, x6, x7, x8, undef], defers := [] } ∧ Mu_cm V z N a c sm xs S x3 x4 x5 x6 x7 x8 W) (by kernel_rfl) (by kernel_rfl) ?_ ?_ ?_
 ·exact ⟨undef, undef, undef, undef, undef, undef, rfl, ⟨(Below.refl _ V).drew, nofun, nofun, nofun, nofun, nofun, nofun⟩⟩
 ·intro i o S aa W hin hi hun hJ hall K hK
  obtain ⟨x3, x4, x5, x6, x7, x8, rfl, h⟩ := hJ
  have hlt : i < 6 := hin
  have hcase : i = 0 ∨ i = 1 ∨ i = 2 ∨ i = 3 ∨ i = 4 ∨ i = 5 := by omega
  rcases hcase with rfl | rfl | rfl | rfl | rfl | rfl
  all_goals (have ho := (Option.some.inj hi).symm; subst ho; clear hi hlt hin)
  ·go_simp
   exact hK _ _ ⟨_, _, _, _, _, _, rfl, { h with f0 := fun _ => rfl }⟩
  ·have s_0 : S 0 = true := hall ⟨0, .data⟩ (by simp) rfl
   obtain rfl := h.f0 s_0
   have cW := (h.e.cell (p := ⟨z, 0, none⟩) hzV).trans d0
   go_simp
   exact hK _ _ ⟨_, _, _, _, _, _, rfl, { h with f1 := fun _ => rfl }⟩
  ·have s_1 : S 1 = true := hall ⟨1, .data⟩ (by simp) rfl
   obtain rfl := h.f1 s_1
   go_simp
   refine (KT' W h.e).mono ?_
   rintro e w5 ⟨⟨v5, rfl, k1⟩, hb5⟩
   have h1 := h.grow hb5
   exact hK _ _ ⟨_, _, _, _, _, _, rfl, { h1 with f2 := fun _ => ⟨W.heap.size, h.e.size, hb5.size, k1⟩ }⟩
  ·go_simp
   exact hK _ _ ⟨_, _, _, _, _, _, rfl, { h with f3 := fun _ => rfl }⟩
  ·have s_3 : S 3 = true := hall ⟨3, .data⟩ (by simp) rfl
   obtain rfl := h.f3 s_3
   have cW := (h.e.cell (p := ⟨z, 1, none⟩) hzV).trans d1
   go_simp
   exact hK _ _ ⟨_, _, _, _, _, _, rfl, { h with f4 := fun _ => rfl }⟩
  ·have s_4 : S 4 = true := hall ⟨4, .data⟩ (by simp) rfl
   obtain rfl := h.f4 s_4
   go_simp
   refine (KC W).mono ?_
   rintro e w5 ⟨rfl, hb5⟩
   have h1 := h.grow hb5
   exact hK _ _ ⟨_, _, _, _, _, _, rfl, { h1 with f5 := fun _ => rfl }⟩
 ·rintro S aa W hall ⟨x3, x4, x5, x6, x7, x8, rfl, h⟩
  obtain rfl := h.f0 (hall 0 (by decide))
  obtain rfl := h.f1 (hall 1 (by decide))
  obtain hO2 := h.f2 (hall 2 (by decide))
  obtain rfl := h.f3 (hall 3 (by decide))
  obtain rfl := h.f4 (hall 4 (by decide))
  obtain rfl := h.f5 (hall 5 (by decide))
  have BWD := h.e
  clear h hall
  obtain ⟨BV, hs, hx2⟩ := HB.out
  obtain ⟨zz, j1, j2, j3⟩ := hO2
  have hxW := (BWD.block (z + 1) (by omega)).trans hx2
  obtain ⟨v1, v2, e1⟩ := jck j3
  obtain rfl := e1
  have r0 : ∀ o, W.frozen? ⟨z + 1, o, none⟩ = false := fun o => by simp [World.frozen?, hxW]
  have r1 : W.cell? ⟨z + 1, 0, none⟩ = some (.slice none 0 0) := by rw [Lib.cell_of_heap hxW]; rfl
  have r2 : W.cell? ⟨z + 1, 1, none⟩ = some (.string ⟨#[]⟩) := by rw [Lib.cell_of_heap hxW]; rfl
  have HE : Hid (_ ∧ _ ∧ _ ∧ _ ∧ _ ∧ _ ∧ _) := ⟨BWD, BV, hs, hxW, j1, j2, j3⟩
  clear BWD BV hs hx2 hxW j1 j2 j3
  go_wp2_with fail
  obtain ⟨BWD, BV, hs, hxW, j1, j2, j3⟩ := HE.out
  have e9 := jam (jam hxW 0 (.slice v1 N v2)) 1 (.string sm)
  have f1 := Lib.cell_of_heap e9 0
  have f2 := Lib.cell_of_heap e9 1
  have hsz : W.heap.size ≤ ((W.setCell ⟨z + 1, 0, none⟩ (.slice v1 N v2)).setCell ⟨z + 1, 1, none⟩ (.string sm)).heap.size := by simp [World.setCell]
  have hk : ∀ b, zz ≤ b → b < W.heap.size → ((W.setCell ⟨z + 1, 0, none⟩ (.slice v1 N v2)).setCell ⟨z + 1, 1, none⟩ (.string sm)).heap[b]? = W.heap[b]? := fun b hb _ => by
   rw [Below.heap_setCell _ _ _ _ (show b ≠ z + 1 by omega), Below.heap_setCell _ _ _ _ (show b ≠ z + 1 by omega)]
  have hb : Below z w ((W.setCell ⟨z + 1, 0, none⟩ (.slice v1 N v2)).setCell ⟨z + 1, 1, none⟩ (.string sm)) := ((BV.trans (BWD.mono (by omega))).setCell (p := ⟨z + 1, 0, none⟩) (by show z ≤ z + 1; omega) _).setCell (p := ⟨z + 1, 1, none⟩) (by show z ≤ z + 1; omega) _
  obtain ⟨X, hX⟩ : ∃ X, (W.setCell ⟨z + 1, 0, none⟩ (.slice v1 N v2)).setCell ⟨z + 1, 1, none⟩ (.string sm) = X := ⟨_, rfl⟩
  rw [hX] at f1 f2 hsz hk hb ⊢
  have hXS := HXS.out
  have hN := HN.out
  subst hXS
  subst hN
  refine bodyPost_ret (v := .agg #[.slice v1 ks.length v2, .string sm]) (by simp [results, Tryz.results54, go_sem, f1, f2]) rfl ⟨⟨⟨v1, v2⟩, rfl, (slS_put j3 hsz hk).mono (by have := HZ.out; omega)⟩, ?_⟩
  rw [HZ.out]
  exact hb
theorem jao {P : Program} {ops : Array Oper} {rest : List Oper} {o : Oper} {a : Act} {w : World} {Q : Exit → Act → World → Prop} (hgd : o.guard = none) (hds : o.dst = none) (ty : TypeId) (x y : Operand) (ho : o.op = .store ty x y)
  (g : Nat) (cells : Array Value) (hx : a.eval x = .pointer (some ⟨g, 0, none⟩)) (hy : a.eval y = .agg cells)
  (t : TypeId) (old : Array Value) (hg : w.heap[g]? = some (.cells old t (0, 0))) (hi : (P.info? ty).map (·.size) = some cells.size)
  (hold : old.size = cells.size) (h1 : cells.all (·.oneCell') = true)
  (h : wpList P ops Q rest a (w.setRow g cells)) : wpList P ops Q (o :: rest) a w :=
 wpList_store_row hgd ty x y ho g cells hx hy t old hg hi hold h1 (by rw [hds]; exact h)
structure Stp (p : Prop) : Prop where
 out : p
theorem jat {P : Program} {ops : Array Oper} {rest : List Oper} {o : Oper} {a : Act} {w : World} {Q : Exit → Act → World → Prop} (hgd : o.guard = none) (hds : o.dst = none) (ty : TypeId) (x y : Operand) (ho : o.op = .store ty x y)
  (b off : Nat) (vs : List Value) (hx : a.eval x = .pointer (some ⟨b, off, none⟩)) (hy : a.eval y = .agg vs.toArray) (ht : w.there b off vs.length) (hi : (P.info? ty).map (·.size) = some vs.length) (h1 : ∀ v ∈ vs, v.oneCell' = true)
  (h : wpList P ops Q rest a (w.setCells b off vs)) : wpList P ops Q (o :: rest) a w := by
 refine wpList_store_mid hgd ty x y ho b off vs.toArray hx hy (by simpa using ht) (by simpa using hi) (all_oneCell_toArray h1) ?_
 rw [hds, List.toList_toArray]
 exact h
theorem jaj {b : Nat} : ∀ (vs : List Value) (o : Nat) (W : World), (W.setCells b o vs).heap.size = W.heap.size
 | [], _, _ => rfl
 | v :: vs, o, W => (jaj vs (o + 1) (W.setCell ⟨b, o, none⟩ v)).trans (by simp [World.setCell])
theorem jbd {P : Program} {fn : Func} {p u : Tmp} {ty : TypeId} (h : fn.results = #[.cell p ty, .tmp u]) (tmps : Array Value) (w : World) (g : Nat) (t : TypeId) (cs : Array Value) (fr : Nat × Nat) (d : TypeDesc)
  (hp : tmps.getD p undef = .pointer (some ⟨g, 0, none⟩)) (hg : w.heap[g]? = some (.cells cs t fr))
  (hu : P.underlying ty = some d) (hd : (match d with | .struct _ | .array _ _ => true | _ => false) = true) (hi : (P.info? ty).map (·.size) = some cs.size) (v : Value) (hv : tmps.getD u undef = v) :
  (results fn tmps).run P w = .ok (.tuple #[.agg cs, v]) w := by
 rw [results_cell_tmp h, hp, hv]
 simp [asAddr, run_loadVar_row w g t ty cs fr d hg hu hd hi]
theorem Bq.row {b : Nat} {ty : TypeId} {old : Array Value} {W : World} (h : Bq b ty old W) (cs : Array Value) : Bq b ty cs (W.setRow b cs) := setRow_heap W b old cs ty (0, 0) h
theorem Bq.rowOther {b k : Nat} {ty : TypeId} {cs : Array Value} {W : World} (h : Bq b ty cs W) (hk : b ≠ k) (cs' : Array Value) : Bq b ty cs (W.setRow k cs') := (setRow_other W k b cs' hk).trans h
theorem jas {n k : Nat} {w W : World} (h : Below n w W) (hk : n ≤ k) (cs : Array Value) : Below n w (W.setRow k cs) :=
 ⟨h.os, h.tape, h.output, by rw [size_setRow]; exact h.size, fun j hj => (setRow_other W k j cs (by omega)).trans (h.block j hj)⟩
theorem jav {b : Nat} {t : TypeId} {f : Nat × Nat} (C : List Value) : ∀ (vs B A : List Value) (W : World), vs.length = B.length → W.heap[b]? = some (.cells (A ++ B ++ C).toArray t f) → (W.setCells b A.length vs).heap[b]? = some (.cells (A ++ vs ++ C).toArray t f)
 | [], [], A, W, _, h => h
 | v :: vs, x :: B, A, W, hl, h => by
  have h1 := jam h A.length v
  have e1 : (A ++ x :: B ++ C).toArray.setIfInBounds A.length v = (A ++ [v] ++ B ++ C).toArray := by simp
  rw [e1] at h1
  have := jav C vs B (A ++ [v]) (W.setCell ⟨b, A.length, none⟩ v) (Nat.succ.inj hl) h1
  rw [List.length_append, List.length_singleton] at this
  have e2 : A ++ [v] ++ vs ++ C = A ++ v :: vs ++ C := by simp
  rw [e2] at this
  exact this
 | [], _ :: _, _, _, hl, _ => by cases hl
 | _ :: _, [], _, _, hl, _ => by cases hl
theorem jad {b k : Nat} (hk : k ≠ b) : ∀ (vs : List Value) (o : Nat) (W : World), (W.setCells b o vs).heap[k]? = W.heap[k]?
 | [], _, _ => rfl
 | v :: vs, o, W => (jad hk vs (o + 1) (W.setCell ⟨b, o, none⟩ v)).trans (Below.heap_setCell _ _ _ _ hk)
theorem jaq {n b o : Nat} {w W : World} (h : Below n w W) (hb : n ≤ b) (vs : List Value) : Below n w (W.setCells b o vs) := jap (b := b) hb vs o _ h
theorem jai {W : World} {b o n : Nat} {cs : List Value} {t : TypeId} (h : W.heap[b]? = some (.cells cs.toArray t (0, 0))) (hn : o + n ≤ cs.length) : W.there b o n := fun j hj => by
 refine ⟨?_, ?_⟩
 ·rw [Lib.cell_of_heap h]
  simp [show o + j < cs.length by omega]
 ·simp [World.frozen?, h]
theorem jbx (d : LtD) (q : Pl) : ∀ v ∈ ltV d q, v.oneCell' = true := by
 intro v hv
 unfold ltV at hv
 simp only [List.mem_cons, List.mem_nil_iff, or_false] at hv
 rcases hv with rfl | rfl | rfl | rfl | rfl | rfl | rfl | rfl | rfl <;> rfl
theorem jcc (d : CmD) (q : Pl) : ∀ v ∈ cmV d q, v.oneCell' = true := by
 intro v hv
 unfold cmV at hv
 simp only [List.mem_cons, List.mem_nil_iff, or_false] at hv
 rcases hv with rfl | rfl <;> rfl
theorem jbj (d : UpD) (q : UpP) : ∀ v ∈ upV d q, v.oneCell' = true := by
 intro v hv
 unfold upV at hv
 simp only [List.mem_append, List.mem_cons, List.mem_nil_iff, or_false] at hv
 rcases hv with (((h | h) | rfl) | h) | rfl | rfl | rfl | rfl
 ·exact jbx _ _ v h
 ·exact jcc _ _ v h
 ·rfl
 ·exact jbx _ _ v h
 all_goals rfl
theorem jbz (d : StD) (q : StP) : ∀ v ∈ stV d q, v.oneCell' = true := by
 intro v hv
 unfold stV at hv
 simp only [List.mem_append, List.mem_cons, List.mem_nil_iff, or_false] at hv
 rcases hv with ((((h | h) | h) | h) | h) | rfl | rfl | rfl | rfl
 ·exact jbx _ _ v h
 ·exact jbx _ _ v h
 ·exact jcc _ _ v h
 ·exact jcc _ _ v h
 ·exact jbj _ _ v h
 all_goals rfl
theorem jba {cs : List Value} (h : ∀ v ∈ cs, v.oneCell' = true) : cs.toArray.all (·.oneCell') = true := all_oneCell_toArray h
end Go.Proofs.YtoddangedbefgabGreatDoor
