/- Lemmas: What the program's digits do (of curve); a multiple behind bits. No condition. What the program's Times, InGroup, Add, Neg do. No condition. What the reference's side, None, Minus, Slope, Plus do. No condition. -/
import Derived.Test.YtoddangedbefgabGreatDoorM8
set_option maxRecDepth 100000
set_option maxHeartbeats 4000000
namespace Go.Proofs.YtoddangedbefgabGreatDoor
open Go.RowKit Go.Shelf Go.Sort
theorem cdigits_any (n : Nat) (w : World) :
  Calls Tryz.prog 194 #[.int .u64 n] w fun e w' => e = .returned (.func (.func 200) #[] #[.pointer (some ⟨w.heap.size, 0, none⟩)]) ∧ w' = w.alloc (.cells #[.int .u64 n] 22) := by
 go_enter Tryz.func194, Tryz.ntmps194
 go_wp2
 go_ret
 exact ⟨rfl, rfl⟩
attribute [local go_sem] Oper.semAt_some
theorem cdigits1_in (n l bX : Nat) (t : Nat) (ht : U64 t) (J Jx : List Bool → World → Prop) (B : Nat) (hJ : AbidesFrom B J)
  (hY : ∀ m pre x W, J pre W → pre.length < 64 → YieldAt Fence.wide m Tryz.prog l (dEnc x) W fun e W' =>
   (e = .returned (.bool true) ∧ J (pre ++ [x]) W' ∧ NumK bX t W W') ∨ (e = .returned (.bool false) ∧ Jx (pre ++ [x]) W'))
  (W : World) (hc : NumIn bX t W) (h0 : J [] W) :
  CallsIn Fence.wide n Tryz.prog 200 #[.func (.yield l) #[] #[], .pointer (some ⟨bX, 0, none⟩)] W fun e W' => (∃ v, e = .returned v) ∧
   ((∃ L, t < 2 ^ L ∧ J (jbe t L L) W') ∨ (∃ L q, t < 2 ^ L ∧ q ≤ L ∧ Jx (jbe t L q) W')) := by
 have hc0 : W.cell? ⟨bX, 0, none⟩ = some (.int .u64 (t : Int)) := hc.cell 0
 refine callsIn_of_wp Tryz.func200 rfl trivial ?_ rfl
 simp only [Tryz.ntmps200, List.size_toArray, List.length_cons, List.length_nil, Nat.reduceAdd, Nat.reduceSub, Array.replicate_succ, Array.replicate_zero, List.push_toArray, List.append_toArray, List.nil_append, List.cons_append]
 gi_wp2_with fail
 refine ⟨trivial, fun h => (by cases h), (callsIn_wide.2 (len64_any t ht W)).mono ?_⟩
 rintro e W1 ⟨⟨L, rfl, hL, hlt⟩, B1⟩
 have J1 := hJ _ _ _ none h0 (jeh B1) (fun r h => by cases h)
 have C1 := hc.below B1
 have wL : IntKind.i64.wrap ((L : Int) - 1) = (L : Int) - 1 := by rw [IntKind.wrap_i64]; omega
 clear hc0 h0 hc B1
 gi_wp2_with fail
 gi_loopw [3] (fun i wr => ∃ q : Nat, q ≤ L ∧ i = .int .i64 ((L : Int) - 1 - q) ∧ J (jbe t L q) wr ∧ NumIn bX t wr)
  (fun i _ => ((intOf i) + 1).toNat)
 case atStart => exact ⟨0, by omega, by simp, J1, C1⟩
 case round =>
  clear J1 C1
  obtain ⟨q, hq, rfl, hJs, hkt⟩ := hrel
  have hc1 : wr.cell? ⟨bX, 0, none⟩ = some (.int .u64 (t : Int)) := hkt.cell 0
  by_cases hlq : q < L
  ·obtain ⟨p, hp⟩ : ∃ p, L - 1 - q = p := ⟨_, rfl⟩
   have hpi : (L : Int) - 1 - q = (p : Int) := by omega
   obtain ⟨y, hy⟩ : ∃ y, t / 2 ^ p = y := ⟨_, rfl⟩
   have hyU : U64 y := by rw [← hy]; exact Nat.lt_of_le_of_lt (Nat.div_le_self _ _) ht
   have hd : (t : Int) / 2 ^ p = y := by rw [← hy]; simp [Int.natCast_ediv, Int.natCast_pow]
   have ha1 := jhb y hyU
   have hbt : jeu t L q = (y % 2 == 1) := by unfold jeu; rw [hp, hy]
   obtain ⟨b, hb⟩ : ∃ b, jeu t L q = b := ⟨_, rfl⟩
   have hbe : ((y : Int) % 2 == 1) = b := by
    rw [← hb, hbt, show (y : Int) % 2 = ((y % 2 : Nat) : Int) by omega]
    rcases Nat.mod_two_eq_zero_or_one y with h | h <;> rw [h] <;> rfl
   rw [show ((y % 2 : Nat) : Int) = (y : Int) % 2 by omega] at ha1
   obtain ⟨fn, tmps, assign, body, hyy, hR⟩ := hY (n - 1) _ b wr hJs (by rw [bits_len]; omega)
   unfold dEnc at hyy
   have HH : Hid (_ ∧ _) := ⟨hkt, hb⟩
   have wp1 : IntKind.i64.wrap ((p : Int) - 1) = (p : Int) - 1 := by rw [IntKind.wrap_i64]; omega
   rw [hpi]
   clear hkt hb hJs hbt hy
   gi_wp2
   refine ⟨fun h => (by cases h), hR.mono ?_⟩
   rintro e W3 (⟨rfl, hJ3, hk3⟩ | ⟨rfl, hJx3⟩)
   ·gi_wp2
    go_roundw
    case rel => exact ⟨q + 1, by omega, by congr 1; omega, by rw [jcf, HH.out.2]; exact hJ3, hk3 HH.out.1⟩
    case measure => simp [intOf]
   ·gi_wp2
    exact bodyPost_ret (v := .tuple #[]) (by simp [results, Tryz.results200, go_sem]) rfl ⟨⟨_, rfl⟩, .inr ⟨L, q + 1, hlt, by omega, by rw [jcf, HH.out.2]; exact hJx3⟩⟩
  ·obtain rfl : q = L := by omega
   rw [show (q : Int) - 1 - q = -1 by omega]
   gi_wp2
   go_end0
   exact ⟨⟨_, rfl⟩, .inl ⟨q, hlt, hJs⟩⟩
theorem cdigits_stops (n bX : Nat) (t : Nat) (ht : U64 t) (w : World) (hc : NumIn bX t w) :
  SeqStopsK Fence.wide n Tryz.prog 200 #[.pointer (some ⟨bX, 0, none⟩)] dEnc (NumK bX t) (fun ys => ∃ L, t < 2 ^ L ∧ ys = jbe t L L) (fun ys => ∃ L q, t < 2 ^ L ∧ q ≤ L ∧ ys = jbe t L q) 64 w := fun l J Jx W hW hJ _ hY h0 => by
 refine (cdigits1_in n l bX t ht J Jx W.heap.size hJ (fun m pre x W1 hj hl => jew m (hY pre x W1 hj hl)) W (hc.below hW) h0).mono ?_
 rintro e W' ⟨he, ⟨L, hL, hj⟩ | ⟨L, q, hL, hq, hj⟩⟩
 ·exact ⟨he, .inl ⟨_, ⟨L, hL, rfl⟩, hj⟩⟩
 ·exact ⟨he, .inr ⟨_, ⟨L, q, hL, hq, rfl⟩, hj⟩⟩
def stT (p : Pt) (l : List Bool) : Pt := l.foldl (fun m b => if b then smN (smN m m) p else smN m m) iN
theorem stT_snoc (p : Pt) (l : List Bool) (b : Bool) : stT p (l ++ [b]) = if b then smN (smN (stT p l) (stT p l)) p else smN (stT p l) (stT p l) := by unfold stT; rw [List.foldl_append]; rfl
theorem stT_bits (p : Pt) (n L : Nat) (h : n < 2 ^ L) : ∀ q, q ≤ L → stT p (jbe n L q) = tmN p (n / 2 ^ (L - q))
 | 0, _ => by
  rw [Nat.sub_zero, Nat.div_eq_of_lt h, tm_0]
  rfl
 | q + 1, hq => by
  rw [jcf, stT_snoc, stT_bits p n L h q (by omega)]
  have := tm_step p n (L - (q + 1))
  rw [show L - (q + 1) + 1 = L - q by omega] at this
  rw [this]
  unfold jeu
  rw [show L - 1 - q = L - (q + 1) by omega]
  simp only [beq_iff_eq]
theorem stT_wl (p : Pt) (hp : Wl p) (l : List Bool) : Wl (stT p l) := by
 have : ∀ (l : List Bool) (m : Pt), Wl m → Wl (l.foldl (fun m b => if b then smN (smN m m) p else smN m m) m) := by
  intro l
  induction l with
  | nil => intro m hm; exact hm
  | cons b l ih =>
   intro m hm
   rw [List.foldl_cons]
   refine ih _ ?_
   split
   ·exact wl_sm (wl_sm hm hm) hp
   ·exact wl_sm hm hm
 exact this l iN wl_inf
theorem stT_all (p : Pt) (n L : Nat) (h : n < 2 ^ L) : stT p (jbe n L L) = tmN p n := by rw [stT_bits p n L h L (Nat.le_refl _), Nat.sub_self, Nat.pow_zero, Nat.div_one]
theorem on_any (p : Pt) (hp : UT p) (w : World) (hL : Li w) :
  Calls Tryz.prog 154 #[vT p] w fun e w' => e = .returned (.bool (onN p)) ∧ Below w.heap.size w w' := by
 have lq := (hL).ne
 have ⟨lz, la, lb, lc, lo⟩ := hL
 have eM : onN p = if p.I then decide (p = iN) else decide (p.X < PM) && decide (p.Y < PM) && decide (muN p.Y p.Y = sqN p.X) := rfl
 rw [eM]
 by_cases hi : p.I = true
 ·rw [if_pos hi]
  have hE := eqlI p
  obtain ⟨b, hb⟩ : ∃ b, decide (p = iN) = b := ⟨_, rfl⟩
  rw [hb] at hE ⊢
  obtain ⟨pX, pY, pI⟩ := p
  simp only at hi
  subst hi
  simp only [vT] at hE ⊢
  clear hb eM
  go_enter Tryz.func154, Tryz.ntmps154
  go_wp2_with fail
  go_ret
  exact ⟨rfl, by go_grown⟩
 rw [if_neg hi]
 have hi : p.I = false := by simpa using hi
 have C1 := jbn p.Y p.Y hp.2 hp.2
 have C2 := square_any p.X hp.1
 obtain ⟨a, ha⟩ : ∃ a, muN p.Y p.Y = a := ⟨_, rfl⟩
 obtain ⟨b, hb⟩ : ∃ b, sqN p.X = b := ⟨_, rfl⟩
 rw [ha] at C1 ⊢
 rw [hb] at C2 ⊢
 clear ha hb eM
 obtain ⟨pX, pY, pI⟩ := p
 simp only at hi
 subst hi
 simp only [vT] at C1 C2 ⊢
 unfold PM
 by_cases h1 : pX < 2147482867
 ·have h1' : ¬ (2147482867 : Int) ≤ pX := by omega
  by_cases h2 : pY < 2147482867
  ·have h2' : ¬ (2147482867 : Int) ≤ pY := by omega
   rw [decide_eq_true h1, decide_eq_true h2]
   go_enter Tryz.func154, Tryz.ntmps154
   go_wp2_with fail
   refine wpOf (fun V => Below w.heap.size w V ∧ Tb w.heap.size ⟨pX, pY, false⟩ V) ⟨by go_grown, Tb.new' w ⟨pX, pY, false⟩ 72 _ rfl⟩ ?_
   rintro V ⟨BV, hA⟩
   have c1 := jae (w := V) C1
   have c2 := jae (w := V) C2
   have k0 := cell_regrown hA.a
   have k1 := cell_regrown hA.b
   have HV : Hid (_ ∧ _) := ⟨BV, BV⟩
   clear hA C1 C2 BV lq la lb lc lz
   refine wp_region_quiet_below (by kernel_rfl) (by kernel_rfl) ?_
   iterate 4 (quiet_step (fail))
   quiet_step (exact c1 _ _)
   iterate 2 (quiet_step (fail))
   quiet_step (exact c2 _ _)
   iterate 2 (quiet_step (fail))
   refine wpQuiet_nil ?_
   intro w8 hw8
   have B8 : Below V.heap.size V w8 := by
    obtain ⟨p, rfl⟩ := hw8
    exact below_regrown _ _ _
   have BW := jaa HV.out.1 HV.out.1.size B8
   clear hw8 k0 k1 c1 c2
   have eb : ((a : Int) == (b : Int)) = decide (a = b) := by
    by_cases e : a = b
    ·subst e; simp
    ·rw [decide_eq_false e, beq_eq_false_iff_ne]; omega
   go_wp2_with fail
   go_ret
   exact ⟨by simp [eb], BW⟩
  ·have h2' : (2147482867 : Int) ≤ pY := by omega
   rw [decide_eq_false h2]
   go_enter Tryz.func154, Tryz.ntmps154
   go_wp2_with fail
   go_ret
   exact ⟨by simp, by go_grown⟩
 ·have h1' : (2147482867 : Int) ≤ pX := by omega
  rw [decide_eq_false h1]
  go_enter Tryz.func154, Tryz.ntmps154
  go_wp2_with fail
  go_ret
  exact ⟨by simp, by go_grown⟩
theorem Bq.put3 {b : Nat} {T : TypeId} {v0 v1 v2 : Value} {W : World} (h : Bq b T #[v0, v1, v2] W) (u0 u1 u2 : Value) : Bq b T #[u0, u1, u2] (((W.setCell ⟨b, 0, none⟩ u0).setCell ⟨b, 1, none⟩ u1).setCell ⟨b, 2, none⟩ u2) := by
 have h' : W.heap[b]? = _ := h
 show (((W.setCell ⟨b, 0, none⟩ u0).setCell ⟨b, 1, none⟩ u1).setCell ⟨b, 2, none⟩ u2).heap[b]? = _
 simp [World.setCell, Array.getElem?_modify, h']
abbrev PtB (b : Nat) (p : Pt) (W : World) : Prop := Bq b 72 #[.int .u64 (p.X : Int), .int .u64 (p.Y : Int), .bool p.I] W
theorem PtB.put {b : Nat} {p : Pt} {W : World} (h : PtB b p W) (q : Pt) : PtB b q (Go.Proofs.YtoddangedbefgabGreatDoor.put3 b q W) := Bq.put3 h _ _ _
theorem PtB.other {b k : Nat} {p : Pt} {W : World} (h : PtB b p W) (hk : b ≠ k) (q : Pt) : PtB b p (Go.Proofs.YtoddangedbefgabGreatDoor.put3 k q W) := ((Bq.other h hk _ _).other hk _ _).other hk _ _
theorem NumIn.other3 {b k n : Nat} {W : World} (h : NumIn b n W) (hk : b ≠ k) (q : Pt) : NumIn b n (Go.Proofs.YtoddangedbefgabGreatDoor.put3 k q W) := ((Bq.other h hk _ _).other hk _ _).other hk _ _
theorem Li.other3 {W : World} (h : Li W) {k : Nat} (hk : 4 ≠ k) (q : Pt) : Li (Go.Proofs.YtoddangedbefgabGreatDoor.put3 k q W) := ((h.other hk _ _).other hk _ _).other hk _ _
theorem jfo (W : World) (k : Nat) (q : Pt) (B : Nat) : KeepsFrom B W (Go.Proofs.YtoddangedbefgabGreatDoor.put3 k q W) := ((jdb _ _ _ _).trans (jdb _ _ _ _)).trans (jdb _ _ _ _)
theorem jdh (W : World) (k : Nat) (q : Pt) : (Go.Proofs.YtoddangedbefgabGreatDoor.put3 k q W).heap.size = W.heap.size := by simp [World.setCell]
theorem stT_inf (l : List Bool) : stT iN l = iN := by
 have : ∀ (l : List Bool), l.foldl (fun m b => if b then smN (smN m m) iN else smN m m) iN = iN := by
  intro l
  induction l with
  | nil => rfl
  | cons b l ih =>
   rw [List.foldl_cons]
   have : (if b then smN (smN iN iN) iN else smN iN iN) = iN := by cases b <;> simp [jcd]
   rw [this]
   exact ih
 exact this l
theorem times_any (n : Nat) (hn : U64 n) (p : Pt) (hp : UT p) (w : World) (hL : Li w) (ho : onN p = true) :
  Calls Tryz.prog 187 #[.int .u64 n, vT p] w fun e w' => e = .returned (.tuple #[vT (tmN p n), .int .i64 0]) ∧ Below w.heap.size w w' := by
 have lq := (hL).ne
 have ⟨lz, la, lb, lc, lo⟩ := hL
 have CO := on_any p hp
 rw [ho] at CO
 refine (callsIn_wide (n := 9)).1 ?_
 refine callsIn_of_wp_marks Tryz.func187 rfl trivial ?_ rfl
 refine wpIn_wide.2 ?_
 simp only [Tryz.ntmps187, List.size_toArray, List.length_cons, List.length_nil, Nat.reduceAdd, Nat.reduceSub, Array.replicate_succ, Array.replicate_zero, List.push_toArray, List.append_toArray, List.nil_append, List.cons_append]
 go_wp2_with fail
 refine wp_scope_straight ?_
 obtain ⟨z, hz⟩ : ∃ c, w.heap.size = c := ⟨_, rfl⟩
 have HZ : Hid (w.heap.size = z) := hz
 have hlz : 4 < z := by rw [← hz]; exact lz
 refine wpOf (fun W => Below z w W ∧ W.heap.size = z + 2 ∧ Bq z 72 #[.int .u64 (p.X : Int), .int .u64 (p.Y : Int), .bool p.I] W ∧ Bq (z + 1) 72 #[.int .u64 0, .int .u64 0, .bool false] W ∧ Li W) ?_ ?_
 ·have t2 := jbw w (.cells #[.int .u64 (p.X : Int), .int .u64 (p.Y : Int), .bool p.I] 72) (.cells #[.int .u64 0, .int .u64 0, .bool false] 72)
  rw [hz] at t2
  have BB := ((Below.refl _ w).alloc (Nat.le_refl _) (.cells #[.int .u64 (p.X : Int), .int .u64 (p.Y : Int), .bool p.I] 72)).alloc (by simp) (.cells #[.int .u64 0, .int .u64 0, .bool false] 72)
  refine ⟨?_, by simp [hz], t2.1, t2.2, hL.below BB⟩
  rw [← hz]
  exact BB
 rintro w1 ⟨BV, hs1, hA, hP, hL1⟩
 rw [hz]
 clear hz lz lq la lb lc hL
 have lq := (hL1).ne
 have ⟨lz, la, lb, lc, lo⟩ := hL1
 have pa : w1.cell? ⟨z, 0, none⟩ = some (.int .u64 (p.X : Int)) := hA.cell 0
 have pb : w1.cell? ⟨z, 1, none⟩ = some (.int .u64 (p.Y : Int)) := hA.cell 1
 have pc : w1.cell? ⟨z, 2, none⟩ = some (.bool p.I) := hA.cell 2
 go_wp2_with fail
 refine (CO _ hL1).mono ?_
 rintro e w2 ⟨rfl, B2⟩
 have A2 := hA.below B2
 have PW2 := hP.below B2
 have LW2 := hL1.below B2
 have BW2 := jaa BV (by omega) B2
 have hz2 : z + 2 ≤ w2.heap.size := by rw [← hs1]; exact B2.size
 clear hA hP hL1 BV B2 lz lq la lb lc pa pb pc hs1
 have lq := (LW2).ne
 have ⟨lz, la, lb, lc, lo⟩ := LW2
 go_wp2_with fail
 obtain ⟨m, hm⟩ : ∃ c, w2.heap.size = c := ⟨_, rfl⟩
 have HM : Hid (w2.heap.size = m) := hm
 refine wpOf (fun W => Below z w W ∧ W.heap.size = m + 1 ∧ Bq z 72 #[.int .u64 (p.X : Int), .int .u64 (p.Y : Int), .bool p.I] W ∧ Bq (z + 1) 72 #[.int .u64 0, .int .u64 0, .bool false] W ∧ Bq m 72 #[.int .u64 0, .int .u64 0, .bool true] W ∧ Li W) ?_ ?_
 ·have BB := ((Below.refl _ w2).alloc (Nat.le_refl _) (.cells #[.int .u64 0, .int .u64 0, .bool true] 72))
  refine ⟨jaa BW2 (by omega) BB, by simp [hm], A2.below BB, PW2.below BB, ?_, LW2.below BB⟩
  rw [← hm]
  exact World.alloc_heap_new w2 _
 rintro w3 ⟨BV, hs3, A3, O3, M3, LW3⟩
 rw [hm] at hz2 ⊢
 clear hm HM lz lq la lb lc lo LW2 BW2 A2 PW2 CO
 refine wp_label ?_
 go_wp2_with fail
 refine (cdigits_any n w3).mono ?_
 rintro e w4 ⟨rfl, hw4⟩
 have B4 : Below w3.heap.size w3 w4 := by rw [hw4]; exact (Below.refl _ w3).alloc (Nat.le_refl _) _
 have hcx : NumIn w3.heap.size n w4 := by rw [hw4]; exact World.alloc_heap_new w3 _
 have A4 := A3.below B4
 have O4 := O3.below B4
 have M4 := M3.below B4
 have LW4 := LW3.below B4
 have BW4 := jaa BV (by omega) B4
 rw [hs3] at hcx ⊢
 clear hw4 B4 A3 O3 M3 LW3 BV hs3
 go_wp2_with fail
 have hxz : m + 1 < w4.heap.size := hcx.lt
 have hE := eqlI p
 have wlp := jbs ho
 refine (wpIn_wide (n := 9)).1 ?_
 refine wpIn_rangeFunc_ownH rfl (by omega) (gf := 200) (lb := #[.pointer (some ⟨m + 1, 0, none⟩)]) rfl trivial (enters_of Tryz.func200 (by kernel_rfl) rfl)
  (cdigits_stops _ (m + 1) n hn w4 hcx) (fun h k => NumK.trans h k) (fun W l o o' hl h1 h2 h3 hx => (World.putObj_heap_other (by omega)).trans hx) (Below.refl _ _) (fun _ => rfl)
  (fun pre W => PtB z p W ∧ PtB (z + 1) oP W ∧ PtB m (stT p pre) W ∧ Li W ∧ Below z w W ∧ m + 1 < W.heap.size)
  (fun c pre W => c = .exit 0 ∧ p = iN ∧ PtB (z + 1) oP W ∧ PtB m iN W ∧ Below z w W ∧ m + 1 < W.heap.size)
  (fun s A C row hs hg hr => ⟨hs.1.own hg (fun r e => (hr r e).2), hs.2.1.own hg (fun r e => (hr r e).2), hs.2.2.1.own hg (fun r e => (hr r e).2), hs.2.2.2.1.own hg (fun r e => (hr r e).2), hs.2.2.2.2.1.grown hg (by omega) (fun k e => Nat.le_trans (by omega) (hr k e).1), Nat.lt_of_lt_of_le hs.2.2.2.2.2 hg.size⟩)
  (fun c s A C row hs hg hr => ⟨hs.1, hs.2.1, hs.2.2.1.own hg (fun r e => (hr r e).2), hs.2.2.2.1.own hg (fun r e => (hr r e).2), hs.2.2.2.2.1.grown hg (by omega) (fun k e => Nat.le_trans (by omega) (hr k e).1), Nat.lt_of_lt_of_le hs.2.2.2.2.2 hg.size⟩)
  ⟨A4, O4, M4, LW4, BW4, hxz⟩
  (fun x a' _ => a' = { tmps := #[.int .u64 n, vT p, undef, .pointer (some ⟨z, 0, none⟩), .pointer (some ⟨z + 1, 0, none⟩), .int .i64 0, .pointer (some ⟨m, 0, none⟩), .bool x, vT p, .bool true, .bool false, undef, vT iN, .int .u64 n, .func (.func 200) #[] #[.pointer (some ⟨m + 1, 0, none⟩)], .bool x, undef, undef, undef, undef, undef, undef, undef, undef, undef, undef, undef, undef, undef], defers := [] })
  (fun x a' _ X Y row hs hg hr => hs)
  ?assign ?body ?done ?stop
 case assign =>
  rintro l pre x W K hI hK
  dsimp only [dEnc]
  gi_wp2
  exact hK _ _ (KeepsFrom.refl _ _) (fun h => h) hI rfl
 case body =>
  rintro l pre x a' W hl ⟨r, hr⟩ ⟨hA, hO, hM, hLi, hB, hxW⟩ rfl hlt
  have wls := stT_wl p wlp pre
  have hsn := stT_snoc p pre x
  have hsi : p = iN → stT p pre = iN := fun e => by rw [e]; exact stT_inf pre
  obtain ⟨q, hq⟩ : ∃ q, stT p pre = q := ⟨_, rfl⟩
  rw [hq] at hM hsn wls hsi
  have wl2 := wl_sm wls wls
  have CS := sum_any q q wls wls
  have hs2 : p = iN → smN q q = iN := fun e => by rw [hsi e, jcd]
  obtain ⟨s, hs⟩ : ∃ s, smN q q = s := ⟨_, rfl⟩
  rw [hs] at hsn wl2 CS hs2
  clear hs hq hsi
  have c0 : W.cell? ⟨m, 0, none⟩ = some (.int .u64 (q.X : Int)) := hM.cell 0
  have c1 : W.cell? ⟨m, 1, none⟩ = some (.int .u64 (q.Y : Int)) := hM.cell 1
  have c2 : W.cell? ⟨m, 2, none⟩ = some (.bool q.I) := hM.cell 2
  have HH : Hid (_ ∧ _ ∧ _ ∧ _ ∧ _) := ⟨hA, hO, hM, hLi, hB⟩
  clear hA hO hM hB
  gi_wp2_with fail
  refine ⟨trivial, (CallsIn.inRound l (callsIn_wide.2 (CS _ hLi))).mono ?_⟩
  rintro e W4 ⟨rfl, B4⟩
  obtain ⟨hA, hO, hM, hLi, hB⟩ := HH.out
  have A4' := hA.below B4
  have O4' := hO.below B4
  have M4' := hM.below B4
  have LW4' := hLi.below B4
  have BW4' := jaa hB (by omega) B4
  have f0 : ∀ o, W4.frozen? ⟨m, o, none⟩ = false := fun o => M4'.fr o
  have m0 : W4.cell? ⟨m, 0, none⟩ = some (.int .u64 (q.X : Int)) := M4'.cell 0
  have m1 : W4.cell? ⟨m, 1, none⟩ = some (.int .u64 (q.Y : Int)) := M4'.cell 1
  have m2' : W4.cell? ⟨m, 2, none⟩ = some (.bool q.I) := M4'.cell 2
  have a0 : W4.cell? ⟨z, 0, none⟩ = some (.int .u64 (p.X : Int)) := A4'.cell 0
  have a1 : W4.cell? ⟨z, 1, none⟩ = some (.int .u64 (p.Y : Int)) := A4'.cell 1
  have a2 : W4.cell? ⟨z, 2, none⟩ = some (.bool p.I) := A4'.cell 2
  have lq := (LW4').ne
  have ⟨lz, la, lb, lc, lo⟩ := LW4'
  have hz4 := B4.size
  have A5 := PtB.other A4' (k := m) (by omega) s
  have O5 := PtB.other O4' (k := m) (by omega) s
  have M5 := PtB.put M4' s
  have LW5 := LW4'.other3 (k := m) (by omega) s
  have k5 : KeepsFrom w4.heap.size W (put3 m s W4) := ((jbm B4).from _).trans (jfo _ _ _ _)
  have n5 : NumK (m + 1) n W (put3 m s W4) := fun h => NumIn.other3 (h.below B4) (by omega) s
  have b5 : Below z w (put3 m s W4) := jah BW4' (by omega) s
  have z5 : m + 1 < (put3 m s W4).heap.size := by rw [jdh]; exact Nat.lt_of_lt_of_le hxW hz4
  have H5 : Hid (_ ∧ _ ∧ _ ∧ _ ∧ _ ∧ _ ∧ _ ∧ _) := ⟨A5, O5, M5, LW5, k5, n5, b5, z5⟩
  have hmz : m ≠ z := by omega
  have hm0 : m ≠ 4 := by omega
  have hzm : z ≠ m := by omega
  have h0m : 4 ≠ m := by omega
  clear A5 O5 M5 LW5 k5 n5 b5 z5 A4' O4' M4' LW4' BW4' hA hO hM hLi hB B4 CS
  by_cases hs0 : p = iN
  ·rw [decide_eq_true hs0] at hE
   have hs2 := hs2 hs0
   gi_wp2
   obtain ⟨A5, O5, M5, LW5, k5, n5, b5, z5⟩ := H5.out
   rw [hs2] at *
   exact ⟨k5, rfl, hs0, O5, M5, b5, z5⟩
  ·rw [decide_eq_false hs0] at hE
   clear hs2
   cases x with
   | false =>
    gi_wp2
    obtain ⟨A5, O5, M5, LW5, k5, n5, b5, z5⟩ := H5.out
    refine (?_ : KeepsFrom _ W _ ∧ NumK _ _ W _ ∧ _ ∧ _ ∧ _ ∧ _ ∧ _ ∧ _)
    refine ⟨k5, n5, A5, O5, ?_, LW5, b5, z5⟩
    rw [hsn]
    exact M5
   | true =>
    gi_wp2_with fail
    refine ⟨trivial, (CallsIn.inRound l (callsIn_wide.2 (sum_any s p wl2 wlp _ H5.out.2.2.2.1))).mono ?_⟩
    rintro e W6 ⟨rfl, B6⟩
    obtain ⟨A5, O5, M5, LW5, k5, n5, b5, z5⟩ := H5.out
    have M6 := Bq.below M5 B6
    have f6 : ∀ o, W6.frozen? ⟨m, o, none⟩ = false := fun o => M6.fr o
    have c6 : W6.cell? ⟨m, 0, none⟩ = some (.int .u64 (s.X : Int)) := M6.cell 0
    have c7 : W6.cell? ⟨m, 1, none⟩ = some (.int .u64 (s.Y : Int)) := M6.cell 1
    have c8 : W6.cell? ⟨m, 2, none⟩ = some (.bool s.I) := M6.cell 2
    obtain ⟨u, hu⟩ : ∃ u, smN s p = u := ⟨_, rfl⟩
    rw [hu] at hsn ⊢
    gi_wp2
    refine (?_ : KeepsFrom _ W _ ∧ NumK _ _ W _ ∧ _ ∧ _ ∧ _ ∧ _ ∧ _ ∧ _)
    refine ⟨(k5.trans ((jbm B6).from _)).trans (jfo _ _ u _), n5.trans (fun h => NumIn.other3 (h.below B6) (by omega) u), PtB.other (Bq.below A5 B6) (by omega) u, PtB.other (Bq.below O5 B6) (by omega) u, ?_, (LW5.below B6).other3 (by omega) u, jah (jaa b5 (by omega) B6) (by omega) u, ?_⟩
    ·rw [hsn, if_pos trivial]
     exact PtB.put M6 u
    ·show m + 1 < (Go.Proofs.YtoddangedbefgabGreatDoor.put3 m u W6).heap.size
     rw [jdh]
     exact Nat.lt_of_lt_of_le z5 B6.size
 case done =>
  rintro D ys W hD ⟨L, hL, rfl⟩ ⟨hA, hO, hM, hLi, hB, hxW⟩ hK
  rw [stT_all p n L hL] at hM
  obtain ⟨v, hv⟩ : ∃ v, tmN p n = v := ⟨_, rfl⟩
  rw [hv] at hM
  have c0 : W.cell? ⟨m, 0, none⟩ = some (.int .u64 (v.X : Int)) := hM.cell 0
  have c1 : W.cell? ⟨m, 1, none⟩ = some (.int .u64 (v.Y : Int)) := hM.cell 1
  have c2 : W.cell? ⟨m, 2, none⟩ = some (.bool v.I) := hM.cell 2
  have o0 : W.cell? ⟨z + 1, 0, none⟩ = some (.int .u64 0) := hO.cell 0
  have o1 : W.cell? ⟨z + 1, 1, none⟩ = some (.int .u64 0) := hO.cell 1
  have o2 : W.cell? ⟨z + 1, 2, none⟩ = some (.bool false) := hO.cell 2
  have fo : ∀ o, W.frozen? ⟨z + 1, o, none⟩ = false := fun o => hO.fr o
  have hK' : (Go.Proofs.YtoddangedbefgabGreatDoor.put3 (z + 1) v W).heap[D]? = some (.deferred (some [])) := by
   show (((W.setCell _ _).setCell _ _).setCell _ _).heap[D]? = _
   rw [Below.heap_setCell _ _ _ _ (show D ≠ z + 1 by omega), Below.heap_setCell _ _ _ _ (show D ≠ z + 1 by omega), Below.heap_setCell _ _ _ _ (show D ≠ z + 1 by omega)]
   exact hK
  have hBx : Below z w (Go.Proofs.YtoddangedbefgabGreatDoor.put3 (z + 1) v W) := jah hB (by omega) v
  have R9' : PtB (z + 1) v ((Go.Proofs.YtoddangedbefgabGreatDoor.put3 (z + 1) v W).putObj D (.deferred none)) := (World.putObj_heap_other (by omega)).trans (PtB.put hO v)
  have H8 : Hid (_ ∧ _ ∧ _) := ⟨hK', hBx, R9'⟩
  clear hK' hBx R9'
  go_wp2
  obtain ⟨hK', hBx, R9'⟩ := H8.out
  have r0 := R9'.cell 0
  have r1 := R9'.cell 1
  have r2' := R9'.cell 2
  have hbP := belowK_b (n₀ := z) (w := w4) (by omega) (Go.Proofs.YtoddangedbefgabGreatDoor.put3 (z + 1) v W) D _ (.deferred none) hD hK' rfl rfl
  rw [Exit.noGoto_ret]
  refine ⟨by simp, .inl ⟨_, _, rfl, run_takeDeferred hK', ?_⟩⟩
  refine ⟨.tuple #[vT v, .int .i64 0], by simp [results, Tryz.results187, go_sem, *], by rw [hv], ?_⟩
  rw [HZ.out]
  exact hBx.trans hbP
 case stop =>
  rintro D c pre W hD ⟨L, q, hL, hq, rfl⟩ ⟨rfl, he, hO, hM, hB, hxW⟩ hK
  have hv0 : tmN p n = iN := by rw [he]; exact tm_inf n
  obtain ⟨v, hvi⟩ : ∃ v, iN = v := ⟨_, rfl⟩
  have hv : tmN p n = v := by rw [← hvi]; exact hv0
  rw [hvi] at hM
  clear hv0 he
  have c0 : W.cell? ⟨m, 0, none⟩ = some (.int .u64 (v.X : Int)) := hM.cell 0
  have c1 : W.cell? ⟨m, 1, none⟩ = some (.int .u64 (v.Y : Int)) := hM.cell 1
  have c2 : W.cell? ⟨m, 2, none⟩ = some (.bool v.I) := hM.cell 2
  have o0 : W.cell? ⟨z + 1, 0, none⟩ = some (.int .u64 0) := hO.cell 0
  have o1 : W.cell? ⟨z + 1, 1, none⟩ = some (.int .u64 0) := hO.cell 1
  have o2 : W.cell? ⟨z + 1, 2, none⟩ = some (.bool false) := hO.cell 2
  have fo : ∀ o, W.frozen? ⟨z + 1, o, none⟩ = false := fun o => hO.fr o
  have hK' : (Go.Proofs.YtoddangedbefgabGreatDoor.put3 (z + 1) v W).heap[D]? = some (.deferred (some [])) := by
   show (((W.setCell _ _).setCell _ _).setCell _ _).heap[D]? = _
   rw [Below.heap_setCell _ _ _ _ (show D ≠ z + 1 by omega), Below.heap_setCell _ _ _ _ (show D ≠ z + 1 by omega), Below.heap_setCell _ _ _ _ (show D ≠ z + 1 by omega)]
   exact hK
  have hBx : Below z w (Go.Proofs.YtoddangedbefgabGreatDoor.put3 (z + 1) v W) := jah hB (by omega) v
  have R9' : PtB (z + 1) v ((Go.Proofs.YtoddangedbefgabGreatDoor.put3 (z + 1) v W).putObj D (.deferred none)) := (World.putObj_heap_other (by omega)).trans (PtB.put hO v)
  have H8 : Hid (_ ∧ _ ∧ _) := ⟨hK', hBx, R9'⟩
  clear hK' hBx R9'
  gi_wp2
  go_wp2
  obtain ⟨hK', hBx, R9'⟩ := H8.out
  have r0 := R9'.cell 0
  have r1 := R9'.cell 1
  have r2' := R9'.cell 2
  have hbP := belowK_b (n₀ := z) (w := w4) (by omega) (Go.Proofs.YtoddangedbefgabGreatDoor.put3 (z + 1) v W) D _ (.deferred none) hD hK' rfl rfl
  rw [Exit.noGoto_ret]
  refine ⟨by simp, .inl ⟨_, _, rfl, run_takeDeferred hK', ?_⟩⟩
  refine ⟨.tuple #[vT v, .int .i64 0], by simp [results, Tryz.results187, go_sem, *], by rw [hv], ?_⟩
  rw [HZ.out]
  exact hBx.trans hbP
end Go.Proofs.YtoddangedbefgabGreatDoor
namespace Go.Proofs.YtoddangedbefgabGreatDoor
open Go.RowKit Go.Shelf Go.Sort
abbrev errT : Value := .tuple #[vT oP, .int .i64 100]
abbrev okT (p : Pt) : Value := .tuple #[vT p, .int .i64 0]
def addV (p q : Pt) : Value := if (onN p && onN q) = true then okT (smN p q) else errT
def negV (p : Pt) : Value := if onN p = true then okT (ngN p) else errT
theorem jay {P : Program} {f : Nat} {args : Array Value} {Q : Ending → World → Prop} {W : World} (S : World → Prop) (hS : S W) (h : ∀ W', S W' → Calls P f args W' Q) : Calls P f args W Q := h W hS
theorem times_bad (n : Nat) (p : Pt) (hp : UT p) (w : World) (hL : Li w) (ho : onN p = false) :
  Calls Tryz.prog 187 #[.int .u64 n, vT p] w fun e w' => e = .returned errT ∧ Below w.heap.size w w' := by
 have CO := on_any p hp
 rw [ho] at CO
 go_enter Tryz.func187, Tryz.ntmps187
 go_wp2_with fail
 refine wp_scope_straight ?_
 refine wpOf (fun V => Below w.heap.size w V ∧ Tb w.heap.size p V ∧ Tb (w.heap.size + 1) oP V) ⟨by go_grown, (Tb.new' w p 72 _ rfl).alloc _, Tb.new' _ oP 72 _ (by simp)⟩ ?_
 rintro V ⟨BV, hA, hO⟩
 have hLV := hL.below BV
 have ⟨az, aa, ab, ac, af⟩ := hA
 go_wp2_with fail
 refine (CO _ hLV).mono ?_
 rintro e w2 ⟨rfl, B2⟩
 obtain ⟨z, a, b, c, f⟩ := hO.below B2
 have BW := jaa BV BV.size B2
 clear hO hA B2 BV az aa ab ac af
 go_wp2_with fail
 rw [Exit.noGoto_ret]
 refine bodyPost_ret (v := errT) (by simp [oP, results, Tryz.results187, go_sem, *]) rfl ⟨rfl, ?_⟩
 exact jah (y := oP) BW (by omega)
theorem jbo (p : Pt) (hp : UT p) (w : World) (hL : Li w) :
  Calls Tryz.prog 175 #[vT p] w fun e w' => e = .returned (.bool (grN p)) ∧ Below w.heap.size w w' := by
 have uo : U64 536870717 := by unfold U64; omega
 have eG : grN p = (onN p && decide (tmN p 536870717 = iN)) := rfl
 rw [eG]
 have AL : Below w.heap.size w (w.alloc (.cells #[.int .u64 (p.X : Int), .int .u64 (p.Y : Int), .bool p.I] 72)) := (Below.refl _ _).alloc (Nat.le_refl _) _
 have hLA := hL.below AL
 cases ho : onN p
 ·have CT := times_bad 536870717 p hp _ hLA ho
  go_enter Tryz.func175, Tryz.ntmps175
  go_wp2_with fail
  refine CT.mono ?_
  rintro e w2 ⟨rfl, B2⟩
  have BW := jaa AL (by simp) B2
  go_wp2_with fail
  go_ret
  exact ⟨by simp, BW.alloc BW.size _⟩
 ·have CT := times_any 536870717 uo p hp _ hLA ho
  have hE := eqlI (tmN p 536870717)
  obtain ⟨m, hm⟩ : ∃ m, tmN p 536870717 = m := ⟨_, rfl⟩
  rw [hm] at CT hE ⊢
  obtain ⟨b, hb⟩ : ∃ b, decide (m = iN) = b := ⟨_, rfl⟩
  rw [hb] at hE ⊢
  clear hm hb eG
  obtain ⟨mX, mY, mI⟩ := m
  simp only [vT] at hE CT ⊢
  go_enter Tryz.func175, Tryz.ntmps175
  go_wp2_with fail
  refine CT.mono ?_
  rintro e w2 ⟨rfl, B2⟩
  have BW := jaa AL (by simp) B2
  have hL2 := hLA.below B2
  have lq := (hL2).ne
  obtain ⟨lz, la, lb, lc, lo⟩ := hL2
  have HB : Hid _ := BW
  clear BW B2 AL hLA CT
  go_wp2_with fail
  go_ret
  exact ⟨by simp, (HB.out).alloc (HB.out).size _⟩
theorem neg_any (p : Pt) (hp : UT p) (w : World) (hL : Li w) :
  Calls Tryz.prog 201 #[vT p] w fun e w' => e = .returned (negV p) ∧ Below w.heap.size w w' := by
 have CO := on_any p hp
 have CN := jer p hp
 unfold negV
 obtain ⟨g, hg⟩ : ∃ g, ngN p = g := ⟨_, rfl⟩
 rw [hg] at CN ⊢
 cases ho : onN p
 ·rw [ho] at CO
  rw [if_neg (by simp)]
  go_enter Tryz.func201, Tryz.ntmps201
  go_wp2_with fail
  refine jay (fun V => Below w.heap.size w V ∧ Tb w.heap.size p V ∧ Tb (w.heap.size + 1) oP V) ⟨by go_grown, (Tb.new' w p 72 _ rfl).alloc _, Tb.new' _ oP 72 _ (by simp)⟩ ?_
  rintro V ⟨BV, hA, hO⟩
  refine (CO _ (hL.below BV)).mono ?_
  rintro e w2 ⟨rfl, B2⟩
  obtain ⟨z, a, b, c, f⟩ := hO.below B2
  have BW := jaa BV BV.size B2
  clear hO hA B2 BV
  go_wp2_with fail
  refine bodyPost_ret (v := errT) (by simp [oP, results, Tryz.results201, go_sem, *]) rfl ⟨rfl, ?_⟩
  exact jah (y := oP) BW (by omega)
 ·rw [ho] at CO
  rw [if_pos rfl]
  go_enter Tryz.func201, Tryz.ntmps201
  go_wp2_with fail
  refine jay (fun V => Below w.heap.size w V ∧ Tb w.heap.size p V ∧ Tb (w.heap.size + 1) oP V) ⟨by go_grown, (Tb.new' w p 72 _ rfl).alloc _, Tb.new' _ oP 72 _ (by simp)⟩ ?_
  rintro V ⟨BV, hA, hO⟩
  refine (CO _ (hL.below BV)).mono ?_
  rintro e w2 ⟨rfl, B2⟩
  have A2 := hA.below B2
  have O2 := hO.below B2
  have BW := jaa BV BV.size B2
  clear hO hA B2 BV
  have ⟨az, aa, ab, ac, af⟩ := A2
  go_wp2_with fail
  refine (CN _).mono ?_
  rintro e w3 ⟨rfl, B3⟩
  obtain ⟨z, a, b, c, f⟩ := O2.below B3
  have BW3 := jaa BW BW.size B3
  clear O2 A2 az aa ab ac af BW B3
  go_wp2_with fail
  refine bodyPost_ret (v := okT g) (by simp [results, Tryz.results201, go_sem, *]) rfl ⟨rfl, ?_⟩
  exact jah (y := g) BW3 (by omega)
theorem add_all (p q : Pt) (hp : UT p) (hq : UT q) (w : World) (hL : Li w) :
  Calls Tryz.prog 138 #[vT p, vT q] w fun e w' => e = .returned (addV p q) ∧ Below w.heap.size w w' := by
 have CO := on_any p hp
 have CO2 := on_any q hq
 have CS : onN p = true → onN q = true → _ := fun h1 h2 => sum_any p q (jbs h1) (jbs h2)
 unfold addV
 obtain ⟨g, hg⟩ : ∃ g, smN p q = g := ⟨_, rfl⟩
 rw [hg] at CS ⊢
 cases ho : onN p
 ·rw [ho] at CO
  rw [if_neg (by simp)]
  go_enter Tryz.func138, Tryz.ntmps138
  go_wp2_with fail
  refine jay (fun V => Below w.heap.size w V ∧ Tb w.heap.size p V ∧ Tb (w.heap.size + 1) q V ∧ Tb (w.heap.size + 1 + 1) oP V) ⟨by go_grown, ((Tb.new' w p 72 _ rfl).alloc _).alloc _, (Tb.new' _ q 72 _ (by simp)).alloc _, Tb.new' _ oP 72 _ (by simp)⟩ ?_
  rintro V ⟨BV, hA, hQ, hO⟩
  refine (CO _ (hL.below BV)).mono ?_
  rintro e w2 ⟨rfl, B2⟩
  obtain ⟨z, a, b, c, f⟩ := hO.below B2
  have BW := jaa BV BV.size B2
  clear hO hA hQ B2 BV
  go_wp2_with fail
  refine bodyPost_ret (v := errT) (by simp [oP, results, Tryz.results138, go_sem, *]) rfl ⟨rfl, ?_⟩
  exact jah (y := oP) BW (by omega)
 ·rw [ho] at CO
  cases hq2 : onN q
  ·rw [hq2] at CO2
   rw [if_neg (by simp)]
   go_enter Tryz.func138, Tryz.ntmps138
   go_wp2_with fail
   refine jay (fun V => Below w.heap.size w V ∧ Tb w.heap.size p V ∧ Tb (w.heap.size + 1) q V ∧ Tb (w.heap.size + 1 + 1) oP V) ⟨by go_grown, ((Tb.new' w p 72 _ rfl).alloc _).alloc _, (Tb.new' _ q 72 _ (by simp)).alloc _, Tb.new' _ oP 72 _ (by simp)⟩ ?_
   rintro V ⟨BV, hA, hQ, hO⟩
   have hLV := hL.below BV
   refine (CO _ hLV).mono ?_
   rintro e w2 ⟨rfl, B2⟩
   have A2 := hA.below B2
   have Q2 := hQ.below B2
   have O2 := hO.below B2
   have LW2 := hLV.below B2
   have BW := jaa BV BV.size B2
   clear hO hA hQ B2 BV hLV hL
   have ⟨az, aa, ab, ac, af⟩ := Q2
   go_wp2_with fail
   refine (CO2 _ LW2).mono ?_
   rintro e w3 ⟨rfl, B3⟩
   have A3 := A2.below B3
   have Q3 := Q2.below B3
   have O3 := O2.below B3
   have LW3 := LW2.below B3
   have BW3 := jaa BW BW.size B3
   clear az aa ab ac af A2 Q2 O2 LW2 BW B3
   obtain ⟨z, a, b, c, f⟩ := O3
   go_wp2_with fail
   refine bodyPost_ret (v := errT) (by simp [oP, results, Tryz.results138, go_sem, *]) rfl ⟨rfl, ?_⟩
   exact jah (y := oP) BW3 (by omega)
  ·rw [hq2] at CO2
   rw [if_pos (by simp)]
   have C5 := CS ho hq2
   clear CS
   go_enter Tryz.func138, Tryz.ntmps138
   go_wp2_with fail
   refine jay (fun V => Below w.heap.size w V ∧ Tb w.heap.size p V ∧ Tb (w.heap.size + 1) q V ∧ Tb (w.heap.size + 1 + 1) oP V) ⟨by go_grown, ((Tb.new' w p 72 _ rfl).alloc _).alloc _, (Tb.new' _ q 72 _ (by simp)).alloc _, Tb.new' _ oP 72 _ (by simp)⟩ ?_
   rintro V ⟨BV, hA, hQ, hO⟩
   have hLV := hL.below BV
   refine (CO _ hLV).mono ?_
   rintro e w2 ⟨rfl, B2⟩
   have A2 := hA.below B2
   have Q2 := hQ.below B2
   have O2 := hO.below B2
   have LW2 := hLV.below B2
   have BW := jaa BV BV.size B2
   clear hO hA hQ B2 BV hLV hL
   have ⟨az, aa, ab, ac, af⟩ := Q2
   go_wp2_with fail
   refine (CO2 _ LW2).mono ?_
   rintro e w3 ⟨rfl, B3⟩
   have A3 := A2.below B3
   have Q3 := Q2.below B3
   have O3 := O2.below B3
   have LW3 := LW2.below B3
   have BW3 := jaa BW BW.size B3
   clear az aa ab ac af A2 Q2 O2 LW2 BW B3
   have ⟨az, aa, ab, ac, af⟩ := A3
   have ⟨bz, ba, bb, bc, bf⟩ := Q3
   clear CO CO2
   go_wp2_with fail
   refine (C5 _ LW3).mono ?_
   rintro e w5 ⟨rfl, B5⟩
   obtain ⟨z, a, b, c, f⟩ := O3.below B5
   have BW5 := jaa BW3 BW3.size B5
   clear az aa ab ac af bz ba bb bc bf A3 Q3 O3 LW3 BW3 B5
   go_wp2_with fail
   refine bodyPost_ret (v := okT g) (by simp [results, Tryz.results138, go_sem, *]) rfl ⟨rfl, ?_⟩
   exact jah (y := g) BW5 (by omega)
end Go.Proofs.YtoddangedbefgabGreatDoor
namespace Go.Proofs.YtoddangedbefgabGreatDoor
open Go.RowKit Go.Shelf Go.Sort
theorem side_any (x : Nat) (hx : U64 x) (w : World) :
  Calls Tryz.prog 65 #[.int .u64 x] w fun e w' => e = .returned (.int .u64 (sqN x : Nat)) ∧ Below w.heap.size w w' := by
 have C1 := jbg x x hx hx
 have C2 := jbg x (muN x x) hx (pm_u _ (jbq _ _))
 have C3 := jgb (muN x (muN x x)) x (pm_u _ (jbq _ _)) hx
 rw [show adN (muN x (muN x x)) x = sqN x by unfold sqN; rw [mu_comm x (muN x x)]] at C3
 obtain ⟨y, hy⟩ : ∃ y, sqN x = y := ⟨_, rfl⟩
 rw [hy] at C3 ⊢
 obtain ⟨a, ea⟩ : ∃ a, muN x x = a := ⟨_, rfl⟩
 rw [ea] at C1 C2 C3
 obtain ⟨b, eb⟩ : ∃ b, muN x a = b := ⟨_, rfl⟩
 rw [eb] at C2 C3
 clear hy ea eb
 go_enter Tryz.func65, Tryz.ntmps65
 go_wp2_with fail
 refine (C1 _).mono ?_
 rintro e w1 ⟨rfl, B1⟩
 go_wp2_with fail
 refine (C2 _).mono ?_
 rintro e w2 ⟨rfl, B2⟩
 go_wp2_with fail
 refine (C3 _).mono ?_
 rintro e w3 ⟨rfl, B3⟩
 go_wp2_with fail
 go_ret
 exact ⟨rfl, jaa (jaa B1 B1.size B2) (Nat.le_trans B1.size B2.size) B3⟩
theorem none_any (w : World) :
  Calls Tryz.prog 63 #[] w fun e w' => e = .returned (vT iN) ∧ Below w.heap.size w w' := by
 go_enter Tryz.func63, Tryz.ntmps63
 go_wp2_with fail
 refine bodyPost_ret (v := vT iN) (by simp [results, Tryz.results63, go_sem, iN, *]) rfl ⟨rfl, by go_grown⟩
theorem minus_any (p : Pt) (hp : Wl p) (w : World) :
  Calls Tryz.prog 100 #[vT p] w fun e w' => e = .returned (vT (ngN p)) ∧ Below w.heap.size w w' := by
 by_cases hi : p = iN
 ·subst hi
  go_enter Tryz.func100, Tryz.ntmps100
  simp only [vT, iN]
  go_wp2_with fail
  refine bodyPost_ret (v := vT iN) (by simp [results, Tryz.results100, go_sem, iN, *]) rfl ⟨rfl, by go_grown⟩
 have hI := wl_i hp hi
 have C1 := jcy 0 p.Y (by unfold U64; omega) (wl_u hp).2
 have eN : ngN p = ⟨p.X, sbN 0 p.Y, false⟩ := by unfold ngN; rw [hI]
 rw [eN]
 obtain ⟨y, hy⟩ : ∃ y, sbN 0 p.Y = y := ⟨_, rfl⟩
 rw [hy] at C1 ⊢
 clear hy eN hp hi
 obtain ⟨pX, pY, pI⟩ := p
 simp only at C1 hI ⊢
 subst hI
 go_enter Tryz.func100, Tryz.ntmps100
 go_wp2_with fail
 refine wpOf (fun V => Below w.heap.size w V ∧ Tb w.heap.size ⟨pX, pY, false⟩ V ∧ Tb (w.heap.size + 1) oP V) ⟨by go_grown, (Tb.new' w ⟨pX, pY, false⟩ 72 _ rfl).alloc _, Tb.new' _ oP 72 _ (by simp)⟩ ?_
 rintro V ⟨BV, hA, hO⟩
 have HV : Hid (_ ∧ _) := ⟨BV, hO⟩
 have c1 := jae (w := V) C1
 have k0 := cell_regrown hA.a
 have k1 := cell_regrown hA.b
 have k2 := cell_regrown hA.c
 have lz := hO.z
 clear BV hA hO C1
 refine jar 6 (by kernel_rfl) (by kernel_rfl) ?_
 simp only [List.take_succ_cons, List.take_zero, List.drop_succ_cons, List.drop_zero]
 iterate 4 (quiet_step (fail))
 quiet_step (exact c1 _ _)
 iterate 1 (quiet_step (fail))
 refine wpQuiet_nil ?_
 intro w8 hw8
 have B8 : Below V.heap.size V w8 := by
  obtain ⟨p, rfl⟩ := hw8
  exact below_regrown _ _ _
 obtain ⟨BV, hO⟩ := HV.out
 have O8 := hO.below B8
 have BW := jaa BV (by have := BV.size; omega) B8
 obtain ⟨z, a, b, c, f⟩ := O8
 clear hw8 k0 k1 k2 c1 hO BV
 go_wp2_with fail
 refine bodyPost_ret (v := vT ⟨pX, y, false⟩) (by simp [results, Tryz.results100, go_sem, *]) rfl ⟨rfl, ?_⟩
 exact jah (y := ⟨pX, y, false⟩) BW (by omega)
theorem rslope_any (p q : Pt) (hp : UT p) (hq : UT q) (w : World) :
  Calls Tryz.prog 101 #[vT p, vT q] w fun e w' => e = .returned (.int .u64 (slN p q : Nat)) ∧ Below w.heap.size w w' := by
 have three : U64 3 := by unfold U64; omega
 have one : U64 1 := by unfold U64; omega
 by_cases hE : p = q
 ·have hEq := eqlT p q
  rw [decide_eq_true hE] at hEq
  have eM : slN p q = ovN (adN (muN 3 (muN p.X p.X)) 1) (adN p.Y p.Y) := by unfold slN; rw [if_pos hE]
  rw [eM]
  have C1 := jbg p.X p.X hp.1 hp.1
  have C2 := jbg 3 (muN p.X p.X) three (pm_u _ (jbq _ _))
  have C3 := jgb (muN 3 (muN p.X p.X)) 1 (pm_u _ (jbq _ _)) one
  have C4 := jbg 2 p.Y (by unfold U64; omega) hp.2
  rw [dbl] at C4
  have C6 := rinv_any (adN p.Y p.Y) (pm_u _ (ad_lt _ _))
  have C5 := jbg (adN (muN 3 (muN p.X p.X)) 1) (ivN (adN p.Y p.Y)) (pm_u _ (ad_lt _ _)) (pm_u _ (iv_lt _))
  rw [show muN (adN (muN 3 (muN p.X p.X)) 1) (ivN (adN p.Y p.Y)) = ovN (adN (muN 3 (muN p.X p.X)) 1) (adN p.Y p.Y) from rfl] at C5
  obtain ⟨i4, hi4⟩ : ∃ r, ivN (adN p.Y p.Y) = r := ⟨_, rfl⟩
  rw [hi4] at C5 C6
  clear hi4
  obtain ⟨r, hr⟩ : ∃ r, ovN (adN (muN 3 (muN p.X p.X)) 1) (adN p.Y p.Y) = r := ⟨_, rfl⟩
  rw [hr] at C5 ⊢
  obtain ⟨a1, h1⟩ : ∃ r, muN p.X p.X = r := ⟨_, rfl⟩
  rw [h1] at C1 C2 C3 C5
  obtain ⟨a2, h2⟩ : ∃ r, muN 3 a1 = r := ⟨_, rfl⟩
  rw [h2] at C2 C3 C5
  obtain ⟨a3, h3⟩ : ∃ r, adN a2 1 = r := ⟨_, rfl⟩
  rw [h3] at C3 C5
  obtain ⟨a4, h4⟩ : ∃ r, adN p.Y p.Y = r := ⟨_, rfl⟩
  rw [h4] at C4 C6
  clear h1 h2 h3 h4 hr eM hE
  obtain ⟨pX, pY, pI⟩ := p
  obtain ⟨qX, qY, qI⟩ := q
  simp only [vT] at hEq C1 C4 ⊢
  go_enter Tryz.func101, Tryz.ntmps101
  go_wp2_with fail
  refine wpOf (fun V => Below w.heap.size w V ∧ Tb w.heap.size ⟨pX, pY, pI⟩ V ∧ Tb (w.heap.size + 1) ⟨qX, qY, qI⟩ V) ⟨by go_grown, (Tb.new' w ⟨pX, pY, pI⟩ 72 _ rfl).alloc _, Tb.new' _ ⟨qX, qY, qI⟩ 72 _ (by simp)⟩ ?_
  rintro V ⟨BV, hA, hB⟩
  have c1 := jae (w := V) C1
  have c2 := jae (w := V) C2
  have c3 := jae (w := V) C3
  have c4 := jae (w := V) C4
  have c5 := jae (w := V) C5
  have c6 := jae (w := V) C6
  have k0 := cell_regrown hA.a
  have k1 := cell_regrown hA.b
  have HV : Hid (_ ∧ _) := ⟨BV, BV⟩
  clear hA hB C1 C2 C3 C4 C5 C6 BV hEq
  refine wp_region_quiet_below (by kernel_rfl) (by kernel_rfl) ?_
  iterate 4 (quiet_step (fail))
  quiet_step (exact c1 _ _)
  quiet_step (exact c2 _ _)
  quiet_step (exact c3 _ _)
  iterate 2 (quiet_step (fail))
  quiet_step (exact c4 _ _)
  quiet_step (exact c6 _ _)
  quiet_step (exact c5 _ _)
  iterate 1 (quiet_step (fail))
  refine wpQuiet_nil ?_
  intro w8 hw8
  have B8 : Below V.heap.size V w8 := by
   obtain ⟨p, rfl⟩ := hw8
   exact below_regrown _ _ _
  have BW := jaa HV.out.1 HV.out.1.size B8
  clear hw8 k0 k1 c1 c2 c3 c4 c5 c6
  go_wp2_with fail
  go_ret
  exact ⟨rfl, BW⟩
 ·have hEq := eqlT p q
  rw [decide_eq_false hE] at hEq
  have eM : slN p q = ovN (sbN q.Y p.Y) (sbN q.X p.X) := by unfold slN; rw [if_neg hE]
  rw [eM]
  have C1 := jcy q.Y p.Y hq.2 hp.2
  have C2 := jcy q.X p.X hq.1 hp.1
  have C4 := rinv_any (sbN q.X p.X) (pm_u _ (jde _ _))
  have C3 := jbg (sbN q.Y p.Y) (ivN (sbN q.X p.X)) (pm_u _ (jde _ _)) (pm_u _ (iv_lt _))
  rw [show muN (sbN q.Y p.Y) (ivN (sbN q.X p.X)) = ovN (sbN q.Y p.Y) (sbN q.X p.X) from rfl] at C3
  obtain ⟨i4, hi4⟩ : ∃ r, ivN (sbN q.X p.X) = r := ⟨_, rfl⟩
  rw [hi4] at C3 C4
  clear hi4
  obtain ⟨r, hr⟩ : ∃ r, ovN (sbN q.Y p.Y) (sbN q.X p.X) = r := ⟨_, rfl⟩
  rw [hr] at C3 ⊢
  obtain ⟨a1, h1⟩ : ∃ r, sbN q.Y p.Y = r := ⟨_, rfl⟩
  rw [h1] at C1 C3
  obtain ⟨a2, h2⟩ : ∃ r, sbN q.X p.X = r := ⟨_, rfl⟩
  rw [h2] at C2 C4
  clear h1 h2 hr eM hE
  obtain ⟨pX, pY, pI⟩ := p
  obtain ⟨qX, qY, qI⟩ := q
  simp only [vT] at hEq C1 C2 ⊢
  go_enter Tryz.func101, Tryz.ntmps101
  go_wp2_with fail
  refine wpOf (fun V => Below w.heap.size w V ∧ Tb w.heap.size ⟨pX, pY, pI⟩ V ∧ Tb (w.heap.size + 1) ⟨qX, qY, qI⟩ V) ⟨by go_grown, (Tb.new' w ⟨pX, pY, pI⟩ 72 _ rfl).alloc _, Tb.new' _ ⟨qX, qY, qI⟩ 72 _ (by simp)⟩ ?_
  rintro V ⟨BV, hA, hB⟩
  have c1 := jae (w := V) C1
  have c2 := jae (w := V) C2
  have c3 := jae (w := V) C3
  have c4 := jae (w := V) C4
  have k0 := cell_regrown hA.a
  have k1 := cell_regrown hA.b
  have k2 := cell_regrown hB.a
  have k3 := cell_regrown hB.b
  have HV : Hid (_ ∧ _) := ⟨BV, BV⟩
  clear hA hB C1 C2 C3 C4 BV hEq
  refine wp_region_quiet_below (by kernel_rfl) (by kernel_rfl) ?_
  iterate 4 (quiet_step (fail))
  quiet_step (exact c1 _ _)
  iterate 4 (quiet_step (fail))
  quiet_step (exact c2 _ _)
  quiet_step (exact c4 _ _)
  quiet_step (exact c3 _ _)
  iterate 1 (quiet_step (fail))
  refine wpQuiet_nil ?_
  intro w8 hw8
  have B8 : Below V.heap.size V w8 := by
   obtain ⟨p, rfl⟩ := hw8
   exact below_regrown _ _ _
  have BW := jaa HV.out.1 HV.out.1.size B8
  clear hw8 k0 k1 k2 k3 c1 c2 c3 c4
  go_wp2_with fail
  go_ret
  exact ⟨rfl, BW⟩
theorem jgc (p q : Pt) (hp : Wl p) (hq : Wl q) (w : World) :
  Calls Tryz.prog 68 #[vT p, vT q] w fun e w' => e = .returned (vT (smN p q)) ∧ Below w.heap.size w w' := by
 by_cases e1 : p = iN
 ·rw [e1, jcd]
  obtain ⟨qX, qY, qI⟩ := q
  simp only [vT, iN]
  go_enter Tryz.func68, Tryz.ntmps68
  go_wp2_with fail
  refine bodyPost_ret (v := vT ⟨qX, qY, qI⟩) (by simp [results, Tryz.results68, go_sem, *]) rfl ⟨rfl, by go_grown⟩
 have i1 := wl_i hp e1
 by_cases e2 : q = iN
 ·rw [e2, jdz]
  obtain ⟨pX, pY, pI⟩ := p
  simp only at i1
  subst i1
  simp only [vT, iN]
  go_enter Tryz.func68, Tryz.ntmps68
  go_wp2_with fail
  refine bodyPost_ret (v := vT ⟨pX, pY, false⟩) (by simp [results, Tryz.results68, go_sem, *]) rfl ⟨rfl, by go_grown⟩
 have i2 := wl_i hq e2
 have hE3 := eqlT q (ngN p)
 have CN := minus_any p hp
 have eM : smN p q = if q = ngN p then iN else lnN (slN p q) p q := by unfold smN; rw [if_neg e1, if_neg e2]
 by_cases e3 : q = ngN p
 ·rw [decide_eq_true e3] at hE3
  rw [eM, if_pos e3]
  obtain ⟨n, hn⟩ : ∃ n, ngN p = n := ⟨_, rfl⟩
  rw [hn] at CN hE3
  clear hn eM e3 e2 e1 hp hq
  obtain ⟨nX, nY, nI⟩ := n
  obtain ⟨pX, pY, pI⟩ := p
  obtain ⟨qX, qY, qI⟩ := q
  simp only at i1 i2
  subst i1 i2
  simp only [vT] at hE3 CN ⊢
  go_enter Tryz.func68, Tryz.ntmps68
  go_wp2_with fail
  refine wpOf (fun V => Below w.heap.size w V ∧ Tb w.heap.size ⟨pX, pY, false⟩ V ∧ Tb (w.heap.size + 1) ⟨qX, qY, false⟩ V ∧ Tb (w.heap.size + 1 + 1) oP V) ⟨by go_grown, ((Tb.new' w ⟨pX, pY, false⟩ 72 _ rfl).alloc _).alloc _, (Tb.new' _ ⟨qX, qY, false⟩ 72 _ (by simp)).alloc _, Tb.new' _ oP 72 _ (by simp)⟩ ?_
  rintro V ⟨BV, hA, hB, hO⟩
  have c1 := jae (w := V) CN
  have k0 := cell_regrown hA.a
  have k1 := cell_regrown hA.b
  have k2 := cell_regrown hA.c
  have k3 := cell_regrown hB.a
  have k4 := cell_regrown hB.b
  have k5 := cell_regrown hB.c
  have HV : Hid (_ ∧ _) := ⟨BV, hO⟩
  clear hA hB hO CN BV
  refine wp_region_quiet_below (by kernel_rfl) (by kernel_rfl) ?_
  iterate 2 (quiet_step (fail))
  quiet_step (exact c1 _ _)
  iterate 1 (quiet_step (fail))
  refine wpQuiet_nil ?_
  intro w8 hw8
  have B8 : Below V.heap.size V w8 := by
   obtain ⟨p, rfl⟩ := hw8
   exact below_regrown _ _ _
  obtain ⟨BV, hO⟩ := HV.out
  have BW := jaa BV BV.size B8
  have O8 := hO.below B8
  clear hw8 k0 k1 k2 k3 k4 k5 c1 hO BV
  go_wp2_with fail
  refine (none_any _).mono ?_
  rintro e w9 ⟨rfl, B9⟩
  obtain ⟨z, a, b, c, f⟩ := O8.below B9
  have BW9 := jaa BW BW.size B9
  clear BW O8 B9
  go_wp2_with fail
  refine bodyPost_ret (v := vT iN) (by simp [results, Tryz.results68, go_sem, iN, *]) rfl ⟨rfl, ?_⟩
  exact jah (y := iN) BW9 (by omega)
 rw [decide_eq_false e3] at hE3
 rw [eM, if_neg e3]
 have CS := rslope_any p q (wl_u hp) (wl_u hq)
 have hl := sl_lt p q
 obtain ⟨l, hl'⟩ : ∃ l, slN p q = l := ⟨_, rfl⟩
 rw [hl'] at CS hl ⊢
 have ul := pm_u _ hl
 have C1 := jbg l l ul ul
 have C2 := jcy (muN l l) p.X (pm_u _ (jbq _ _)) (wl_u hp).1
 have C3 := jcy (sbN (muN l l) p.X) q.X (pm_u _ (jde _ _)) (wl_u hq).1
 have eX : lnX l p q = sbN (sbN (muN l l) p.X) q.X := rfl
 obtain ⟨x, hx⟩ : ∃ x, lnX l p q = x := ⟨_, rfl⟩
 have xl : x < PM := by rw [← hx]; exact jde _ _
 have eL : lnN l p q = ⟨x, lnY l x p, false⟩ := by unfold lnN; rw [hx]
 rw [← eX, hx] at C3
 have C4 := jcy p.X x (wl_u hp).1 (pm_u _ xl)
 have C5 := jbg l (sbN p.X x) ul (pm_u _ (jde _ _))
 have C6 := jcy (muN l (sbN p.X x)) p.Y (pm_u _ (jbq _ _)) (wl_u hp).2
 have eY : lnY l x p = sbN (muN l (sbN p.X x)) p.Y := rfl
 obtain ⟨y, hy⟩ : ∃ y, lnY l x p = y := ⟨_, rfl⟩
 rw [hy] at eL eY
 rw [← eY] at C6
 rw [eL]
 obtain ⟨n, hn⟩ : ∃ n, ngN p = n := ⟨_, rfl⟩
 rw [hn] at CN hE3
 obtain ⟨a1, h1⟩ : ∃ r, muN l l = r := ⟨_, rfl⟩
 rw [h1] at C1 C2 C3
 obtain ⟨a2, h2⟩ : ∃ r, sbN a1 p.X = r := ⟨_, rfl⟩
 rw [h2] at C2 C3
 obtain ⟨a3, h3⟩ : ∃ r, sbN p.X x = r := ⟨_, rfl⟩
 rw [h3] at C4 C5 C6
 obtain ⟨a4, h4⟩ : ∃ r, muN l a3 = r := ⟨_, rfl⟩
 rw [h4] at C5 C6
 clear hp hq hn eM e3 e2 e1 h1 h2 h3 h4 hl' eX hx eL eY hy
 obtain ⟨nX, nY, nI⟩ := n
 obtain ⟨pX, pY, pI⟩ := p
 obtain ⟨qX, qY, qI⟩ := q
 simp only at i1 i2
 subst i1 i2
 simp only [vT] at hE3 CN CS C2 C3 C4 C6 ⊢
 go_enter Tryz.func68, Tryz.ntmps68
 go_wp2_with fail
 refine wpOf (fun V => Below w.heap.size w V ∧ Tb w.heap.size ⟨pX, pY, false⟩ V ∧ Tb (w.heap.size + 1) ⟨qX, qY, false⟩ V ∧ Tb (w.heap.size + 1 + 1) oP V) ⟨by go_grown, ((Tb.new' w ⟨pX, pY, false⟩ 72 _ rfl).alloc _).alloc _, (Tb.new' _ ⟨qX, qY, false⟩ 72 _ (by simp)).alloc _, Tb.new' _ oP 72 _ (by simp)⟩ ?_
 rintro V ⟨BV, hA, hB, hO⟩
 have c1 := jae (w := V) CN
 have k0 := cell_regrown hA.a
 have k1 := cell_regrown hA.b
 have k2 := cell_regrown hA.c
 have k3 := cell_regrown hB.a
 have k4 := cell_regrown hB.b
 have k5 := cell_regrown hB.c
 have HV : Hid (_ ∧ _ ∧ _ ∧ _) := ⟨BV, hA, hB, hO⟩
 clear hA hB hO CN BV
 refine wp_region_quiet_below (by kernel_rfl) (by kernel_rfl) ?_
 iterate 2 (quiet_step (fail))
 quiet_step (exact c1 _ _)
 iterate 1 (quiet_step (fail))
 refine wpQuiet_nil ?_
 intro w8 hw8
 have B8 : Below V.heap.size V w8 := by
  obtain ⟨p, rfl⟩ := hw8
  exact below_regrown _ _ _
 obtain ⟨BV, hA, hB, hO⟩ := HV.out
 have BW := jaa BV BV.size B8
 have A8 := hA.below B8
 have D8 := hB.below B8
 have O8 := hO.below B8
 clear hw8 k0 k1 k2 k3 k4 k5 c1 B8 HV hE3 BV hA hB hO V
 have ⟨az, aa, ab, ac, af⟩ := A8
 have ⟨bz, ba, bb, bc, bf⟩ := D8
 have HV : Hid (_ ∧ _ ∧ _ ∧ _) := ⟨BW, A8, D8, O8⟩
 clear BW A8 D8 O8
 go_wp2_with fail
 refine (CS _).mono ?_
 rintro e w9 ⟨rfl, B9⟩
 obtain ⟨BW, A8, D8, O8⟩ := HV.out
 have BW9 := jaa BW BW.size B9
 have A9 := A8.below B9
 have D9 := D8.below B9
 have O9 := O8.below B9
 clear HV BW A8 D8 O8 B9 az aa ab ac af bz ba bb bc bf
 have ⟨az, aa, ab, ac, af⟩ := A9
 have ⟨bz, ba, bb, bc, bf⟩ := D9
 have HV : Hid (_ ∧ _ ∧ _ ∧ _) := ⟨BW9, A9, D9, O9⟩
 have c1 := jae (w := w9) C1
 have c2 := jae (w := w9) C2
 have c3 := jae (w := w9) C3
 have k0 := cell_regrown A9.a
 have k3 := cell_regrown D9.a
 clear BW9 A9 D9 O9
 go_wp2_with fail
 refine wp_region_quiet_below (by kernel_rfl) (by kernel_rfl) ?_
 iterate 2 (quiet_step (fail))
 quiet_step (exact c1 _ _)
 iterate 2 (quiet_step (fail))
 quiet_step (exact c2 _ _)
 iterate 2 (quiet_step (fail))
 quiet_step (exact c3 _ _)
 iterate 1 (quiet_step (fail))
 refine wpQuiet_nil ?_
 intro v8 hv8
 have B8 : Below w9.heap.size w9 v8 := by
  obtain ⟨p, rfl⟩ := hv8
  exact below_regrown _ _ _
 obtain ⟨BW, A9, D9, O9⟩ := HV.out
 have BW8 := jaa BW BW.size B8
 have A8 := A9.below B8
 have O8 := O9.below B8
 clear HV BW A9 D9 O9 B8 az aa ab ac af bz ba bb bc bf c1 c2 c3 k0 k3 hv8
 have HV : Hid (_ ∧ _) := ⟨BW8, O8⟩
 have c4 := jae (w := v8) C4
 have c5 := jae (w := v8) C5
 have c6 := jae (w := v8) C6
 have k0 := cell_regrown A8.a
 have k1 := cell_regrown A8.b
 clear BW8 A8 O8 C1 C2 C3 C4 C5 C6 CS
 go_wp2_with fail
 refine wp_region_quiet_below (by kernel_rfl) (by kernel_rfl) ?_
 iterate 4 (quiet_step (fail))
 quiet_step (exact c4 _ _)
 quiet_step (exact c5 _ _)
 iterate 2 (quiet_step (fail))
 quiet_step (exact c6 _ _)
 iterate 1 (quiet_step (fail))
 refine wpQuiet_nil ?_
 intro u8 hu8
 have B8 : Below v8.heap.size v8 u8 := by
  obtain ⟨p, rfl⟩ := hu8
  exact below_regrown _ _ _
 obtain ⟨BW, O9⟩ := HV.out
 have BW8 := jaa BW BW.size B8
 obtain ⟨z, a, b, c, f⟩ := O9.below B8
 clear hu8 k0 k1 c4 c5 c6 HV O9 BW B8
 go_wp2_with fail
 refine bodyPost_ret (v := vT ⟨x, y, false⟩) (by simp [results, Tryz.results68, go_sem, *]) rfl ⟨rfl, ?_⟩
 exact jah (y := ⟨x, y, false⟩) BW8 (by omega)
end Go.Proofs.YtoddangedbefgabGreatDoor
