/- A leaf's branch: Branch. -/
import Derived.Test.YtmemfdpfbeijeabDoorZ11
import Derived.Test.YtmemfdpfbeijeabDoorRound
import Derived.Test.YtmemfdpfbeijeabDoorTail3
namespace Go.Proofs.YtmemfdpfbeijeabDoor
open Go.RowKit Go.Shelf Go.Sort
attribute [local go_sem] Oper.semAt_some

theorem xor_1 (m : Nat) (h : m < 1024) : bits .xor .i64 (m : Int) 1 = ((m + 1 - 2 * (m % 2) : Nat) : Int) := by
  have e : ∀ j : Fin 1024, bits .xor .i64 ((j.val : Nat) : Int) 1 = ((j.val + 1 - 2 * (j.val % 2) : Nat) : Int) := by decide +kernel
  exact e ⟨m, h⟩
theorem region_inv_tail_in8 {P : Program} (l' n' n : Nat) {id : Nat} {Q : Exit → Act → World → Prop} {a : Act} {w : World} {l : List Oper} (hL : ¬ LetsOut Q) (hnd : noDefer l.toArray = true) (J : (Nat → Bool) → Act → World → Prop) (hm : P.follows .mixedOrders = true)
    (hB : invTailB l.toArray n = true) (h0 : J (fun _ => false) a w.drew)
    (step : ∀ i o S a W, i < n → l[i]? = some o → S i = false → J S a W → (∀ e ∈ o.after, Region.binds .any e = true → S e.on = true) → ∀ K : Act → World → Prop, (∀ a W, J (more S i) a W → K a W) →
      if Region.wanted o (yielded l.toArray a.tmps) then o.wp P a W K Q else K (a.put o.dst undef) W)
    (last : ∀ S a W, (∀ i, i < n → S i = true) → J S a W → wpList P l.toArray Q (l.drop n) a W) : (Code.region id l.toArray true).wpIn (Fence.wide.inRound l') n' P Q a w :=
  region_round l' n' hm hnd hL (inv_tail_any n J hB h0 step last)
theorem below_setRow8 {B g : Nat} {w0 w : World} (hb : Below B w0 w) (hBg : B ≤ g) (cs : Array Value) : Below B w0 (w.setRow g cs) := ⟨hb.os, hb.tape, hb.output, by rw [size_setRow]; exact hb.size, fun k hk => (setRow_other w g k cs (by omega)).trans (hb.block k hk)⟩
/-- What Branch answers. -/
def brOk (xs : List ByteArray) (d i : Int) : Bool := rt8 xs d && decide (0 ≤ i ∧ i < 2 ^ d.toNat)
def BrR (xs : List ByteArray) (d i : Int) (e : Ending) (w' : World) : Prop := if brOk xs d i = true then ∃ a c, e = .returned (.tuple #[.slice a d.toNat c, .int .i64 0]) ∧ d.toNat ≤ c ∧ slS w'.heap.size w' a (brF (lvs xs) i.toNat 0 d.toNat) else e = .returned (.tuple #[.slice none 0 0, .int .i64 80])

/-- What holds ahead of a round, and where the rounds end. -/
def BrI (xs : List ByteArray) (D I g h : Nat) (w8 : World) (k : Nat) (W : World) : Prop := Below g w8 W ∧ k ≤ D ∧ ∃ cur : Array Value, W.heap[g]? = some (.cells cur 9 (0, 0)) ∧ cur.size = D ∧ cur.toList.take k = (brF (lvs xs) I 0 k).map .string ∧ W.heap[h]? = some (.cells #[.slice (some ⟨g, 0, none⟩) k D] 22 (0, 0))
def BrJ (xs : List ByteArray) (D I g h : Nat) (w8 : World) (mk : LoopState → Option Code → Loop) (k : Nat) (W : World) : Prop := Rc (h + 3) (mk .ready none) W ∧ BrI xs D I g h w8 k W
def BrX (xs : List ByteArray) (D I g h : Nat) (w8 : World) (mk : LoopState → Option Code → Loop) (_ : Nat) (W : World) : Prop := Rc (h + 3) (mk .done (some (.exit 0))) W ∧ BrI xs D I g h w8 D W

/-- What holds while a statement runs. -/
structure BrK (V : World) (a' : Option Addr) (g k D N3 c' I M M2 : Nat) (y3 r : ByteArray) (S : Nat → Bool) (x35 x36 x37 x38 x39 x40 x41 x42 x43 : Value) (W : World) : Prop where
  e : Below V.heap.size V W
  f0 : S 0 = true → x35 = Value.slice (some ⟨g, 0, none⟩) k D
  f1 : S 1 = true → x36 = Value.agg #[.slice a' N3 c', .string y3]
  f2 : S 2 = true → x37 = Value.int .i64 (I : Int)
  f3 : S 3 = true → x38 = Value.int .i64 (k : Int)
  f4 : S 4 = true → x39 = Value.int .i64 (M : Int)
  f5 : S 5 = true → x40 = Value.int .i64 (M2 : Int)
  f6 : S 6 = true → x41 = Value.string r
  f7 : S 7 = true → x42 = Value.string r
  f8 : S 8 = true → ∃ g, x43 = .slice (some ⟨g, 0, none⟩) 1 1 ∧ V.heap.size ≤ g ∧ g < W.heap.size ∧ W.heap[g]? = some (.cells #[.string r] 9 (0, 0))
theorem BrK.grow {V : World} {a' : Option Addr} {g k D N3 c' I M M2 : Nat} {y3 r : ByteArray} {S : Nat → Bool} {x35 x36 x37 x38 x39 x40 x41 x42 x43 : Value} {W W' : World} (h : BrK V a' g k D N3 c' I M M2 y3 r S x35 x36 x37 x38 x39 x40 x41 x42 x43 W) (hb : Below W.heap.size W W') : BrK V a' g k D N3 c' I M M2 y3 r S x35 x36 x37 x38 x39 x40 x41 x42 x43 W' :=
  ⟨belowStep h.e h.e.size hb, h.f0, h.f1, h.f2, h.f3, h.f4, h.f5, h.f6, h.f7, fun s => (h.f8 s).imp fun _ ⟨j1, j0, j2, j3⟩ => ⟨j1, j0, Nat.lt_of_lt_of_le j2 hb.size, (hb.block _ j2).trans j3⟩⟩
set_option maxRecDepth 100000 in
set_option maxHeartbeats 2000000 in
theorem branch_any (xs : List ByteArray) (d i : Int) (a : Option Addr) (c n : Nat) (w : World) (hl : Laid w) (hn : n ≤ w.heap.size) (hp : slS n w a xs) :
    Calls Tryd.prog 12 #[.slice a xs.length c, .int .i64 d, .int .i64 i] w fun e w' => BrR xs d i e w' ∧ Below w.heap.size w w' := by
  have KH : ∀ W : World, Below w.heap.size w W → _ := fun W hB => haveTree_any xs d a c n W (Nat.le_trans hn hB.size) (slS_below (hB.mono hn) hp)
  obtain ⟨ok, hok⟩ : ∃ q, rt8 xs d = q := ⟨_, rfl⟩
  rw [hok] at KH
  have HO : Hid _ := hok
  obtain ⟨N, hN⟩ : ∃ N, xs.length = N := ⟨_, rfl⟩
  rw [hN] at KH ⊢
  have HKH : Hid (∀ W : World, _) := KH
  clear KH
  refine (callsIn_wide (n := 9)).1 ?_
  refine callsIn_of_wp_marks Tryd.func12 rfl trivial ?_ rfl
  refine wpIn_wide.2 ?_
  simp only [Tryd.ntmps12, List.size_toArray, List.length_cons, List.length_nil, Nat.reduceAdd, Nat.reduceSub, Array.replicate_succ, Array.replicate_zero, List.push_toArray, List.append_toArray, List.nil_append, List.cons_append]
  go_wp2_with fail
  obtain ⟨p, hp0⟩ : ∃ p, w.heap.size = p := ⟨_, rfl⟩
  have HP : Hid _ := hp0
  refine wpOf (fun W => Below p w W ∧ W.heap.size = p + 2 ∧ W.heap[p]? = some (.cells #[.int .i64 d] 3 (0, 0)) ∧ W.heap[p + 1]? = some (.cells #[.int .i64 i] 3 (0, 0))) ?_ ?_
  · have t2 := alloc_two w (.cells #[.int .i64 d] 3) (.cells #[.int .i64 i] 3)
    rw [hp0] at t2
    refine ⟨?_, by simp [hp0], t2.1, t2.2⟩
    rw [← hp0]
    exact ((Below.refl _ w).alloc (Nat.le_refl _) _).alloc (by simp) _
  rintro V ⟨BV, hszV, hb0, hb1⟩
  rw [hp0]
  clear hp0
  have hnp : n ≤ p := by rw [← HP.out]; exact hn
  have q0 : ∀ u os, (grow (redrawn V u) os).cell? ⟨p, 0, none⟩ = some (.int .i64 d) := fun u os => ((below_regrown V u os).cell (p := ⟨p, 0, none⟩) (by show p < _; omega)).trans (by rw [Lib.cell_of_heap hb0]; rfl)
  have q1 : ∀ u os, (grow (redrawn V u) os).cell? ⟨p + 1, 0, none⟩ = some (.int .i64 i) := fun u os => ((below_regrown V u os).cell (p := ⟨p + 1, 0, none⟩) (by show p + 1 < _; omega)).trans (by rw [Lib.cell_of_heap hb1]; rfl)
  have cH : ∀ u os, Calls Tryd.prog 14 #[.slice a N c, .int .i64 d] (grow (redrawn V u) os) fun e w'' => e = .returned (.bool ok) ∧ ∃ p : Regrown, w'' = grow (redrawn V p.d) p.os := fun u os => Calls.regrown_of (HKH.out _ (by rw [HP.out]; exact belowStep BV (by omega) (below_regrown V u os)))
  have hBr : ∀ (e : Ending) (w' : World), brOk xs d i = false → e = .returned (.tuple #[.slice none 0 0, .int .i64 80]) → BrR xs d i e w' := fun e w' h1 h2 => by
    unfold BrR
    rw [if_neg (by rw [h1]; decide)]
    exact h2
  have HBr : Hid (∀ (e : Ending) (w' : World), _ → _ → _) := hBr
  clear hBr hok HKH
  cases ok with
  | false =>
    have hno : Hid (brOk xs d i = false) := by show _ = _; unfold brOk; rw [HO.out]; rfl
    refine wp_region_quiet_below (by kernel_rfl) (by kernel_rfl) ?_
    iterate 2 (go_big_quiet_step (fail))
    go_big_quiet_step (exact cH _ _)
    repeat (go_big_quiet_step (fail))
    refine wpQuiet_nil ?_
    intro w8 hw8
    have B8 : Below V.heap.size V w8 := by
      obtain ⟨p, rfl⟩ := hw8
      exact below_regrown _ _ _
    clear hw8 cH q0 q1
    go_wp2
    refine ⟨.tuple #[.slice none 0 0, .int .i64 80], by simp [results, Tryd.results12, go_sem], HBr.out _ _ hno.out rfl, ?_⟩
    (rw [HP.out]; exact belowStep BV (by omega) B8)
  | true =>
    obtain ⟨h0, h10, hpw, h256, h32⟩ := (rt8_iff xs d).1 HO.out
    obtain ⟨D, rfl⟩ : ∃ D : Nat, d = (D : Int) := ⟨d.toNat, by omega⟩
    have hD : D ≤ 10 := by omega
    rw [Int.toNat_natCast] at hpw
    have hpow : 2 ^ D ≤ 1024 := Nat.pow_le_pow_right (by decide) hD
    have hmin : min D 64 = D := by omega
    obtain ⟨q, hq⟩ : ∃ q, 2 ^ D = q := ⟨_, rfl⟩
    have hqi : (2 : Int) ^ D = (q : Int) := by rw [← hq]; simp
    have wq : IntKind.i64.wrap (q : Int) = q := by rw [IntKind.wrap_i64]; omega
    have HQ : Hid _ := hq
    rw [hq] at hpow hpw
    clear hq
    by_cases hi0 : i < 0
    · have hno : Hid (brOk xs (D : Int) i = false) := by show _ = _; unfold brOk; rw [HO.out, Bool.true_and]; exact decide_eq_false (by omega)
      refine wp_region_quiet_below (by kernel_rfl) (by kernel_rfl) ?_
      iterate 2 (go_big_quiet_step (fail))
      go_big_quiet_step (exact cH _ _)
      repeat (go_big_quiet_step (fail))
      refine wpQuiet_nil ?_
      intro w8 hw8
      have B8 : Below V.heap.size V w8 := by
        obtain ⟨p, rfl⟩ := hw8
        exact below_regrown _ _ _
      clear hw8 cH q0 q1
      go_wp2
      refine ⟨.tuple #[.slice none 0 0, .int .i64 80], by simp [results, Tryd.results12, go_sem], HBr.out _ _ hno.out rfl, ?_⟩
      (rw [HP.out]; exact belowStep BV (by omega) B8)
    · by_cases hiq : (q : Int) ≤ i
      · have hno : Hid (brOk xs (D : Int) i = false) := by show _ = _; unfold brOk; rw [HO.out, Bool.true_and, Int.toNat_natCast, hqi]; exact decide_eq_false (by omega)
        refine wp_region_quiet_below (by kernel_rfl) (by kernel_rfl) ?_
        iterate 2 (go_big_quiet_step (fail))
        go_big_quiet_step (exact cH _ _)
        repeat (go_big_quiet_step (fail))
        refine wpQuiet_nil ?_
        intro w8 hw8
        have B8 : Below V.heap.size V w8 := by
          obtain ⟨p, rfl⟩ := hw8
          exact below_regrown _ _ _
        clear hw8 cH q0 q1
        go_wp2
        refine ⟨.tuple #[.slice none 0 0, .int .i64 80], by simp [results, Tryd.results12, go_sem], HBr.out _ _ hno.out rfl, ?_⟩
        (rw [HP.out]; exact belowStep BV (by omega) B8)
      · obtain ⟨I, rfl⟩ : ∃ I : Nat, i = (I : Int) := ⟨i.toNat, by omega⟩
        have hIq : I < q := by omega
        have hok : Hid (brOk xs (D : Int) (I : Int) = true) := by show _ = _; unfold brOk; rw [HO.out, Bool.true_and, Int.toNat_natCast, hqi]; exact decide_eq_true (by omega)
        refine wp_region_quiet_below (by kernel_rfl) (by kernel_rfl) ?_
        iterate 2 (go_big_quiet_step (fail))
        go_big_quiet_step (exact cH _ _)
        repeat (go_big_quiet_step (fail))
        refine wpQuiet_nil ?_
        intro w8 hw8
        have B8 : Below V.heap.size V w8 := by
          obtain ⟨p, rfl⟩ := hw8
          exact below_regrown _ _ _
        clear hw8 cH q0 q1
        have BW8 : Below p w w8 := belowStep BV (by omega) B8
        have b80 := (B8.block p (by omega)).trans hb0
        have b81 := (B8.block (p + 1) (by omega)).trans hb1
        have hp8 : p + 2 ≤ w8.heap.size := by have := B8.size; omega
        have k0 : w8.cell? ⟨p, 0, none⟩ = some (.int .i64 (D : Int)) := by rw [Lib.cell_of_heap b80]; rfl
        have k1 : w8.cell? ⟨p + 1, 0, none⟩ = some (.int .i64 (I : Int)) := by rw [Lib.cell_of_heap b81]; rfl
        obtain ⟨i0, hi0', hz0, hz1, hz2⟩ := info_parts info_str8
        clear B8 BV hb0 hb1
        go_wp2_with (at_make; refine wpList_make_own _ rfl _ _ 22 rfl w8.heap.size 9 i0 _ 1 Tryd.underlying22 hi0' hz0 hz1 .i64 .i64 _ D rfl rfl rfl (by rw [hz2]; omega) (by unfold maxLen; omega) (Nat.le_refl _) ?_; intro w9 hown hgr; have B9 : Below w8.heap.size w8 w9 := (Below.refl _ w8).grown hgr (Nat.le_refl _) (fun _ e => by cases e); have hp9 : p + 2 ≤ w9.heap.size := Nat.le_trans hp8 B9.size; have k9 := (B9.cell (p := ⟨p, 0, none⟩) (by show p < _; omega)).trans k0; have hp9a : p < w9.heap.size := (by omega); have hp9b : ¬ p = w9.heap.size := (by omega))
        obtain ⟨cur, hcur, hcz⟩ : ∃ cur : Array Value, w9.heap[w8.heap.size]? = some (.cells cur 9 (0, 0)) ∧ cur.size = D := by
          rcases hown.2 with ⟨h, _⟩ | ⟨g, cap, cur, h1, _, h3, _, _, h6, _⟩
          · cases h
          · cases h1
            exact ⟨cur, h3, by omega⟩
        refine (levels_any a N c (D : Int) _).mono ?_
        rintro e w2 ⟨rfl, hw2⟩
        obtain ⟨g, hg0⟩ : ∃ g, w8.heap.size = g := ⟨_, rfl⟩
        obtain ⟨h, hh0⟩ : ∃ h, w9.heap.size = h := ⟨_, rfl⟩
        have hgh : g < h := by rw [← hg0, ← hh0]; exact (Array.getElem?_eq_some_iff.1 hcur).1
        have hF2 : Below h w9 w2 ∧ w2.heap.size = h + 3 ∧ w2.heap[h]? = some (.cells #[.slice (some ⟨g, 0, none⟩) 0 D] 22 (0, 0)) ∧ w2.heap[h + 1]? = some (.cells #[.slice a N c] 22 (0, 0)) ∧ w2.heap[h + 2]? = some (.cells #[.int .i64 (D : Int)] 3 (0, 0)) := by
          rw [hg0] at hw2
          have t2 := alloc_two (w9.alloc (.cells #[.slice (some ⟨g, 0, none⟩) 0 D] 22)) (.cells #[.slice a N c] 22) (.cells #[.int .i64 (D : Int)] 3)
          have A1 : Below w9.heap.size w9 (w9.alloc (.cells #[.slice (some ⟨g, 0, none⟩) 0 D] 22)) := (Below.refl _ w9).alloc (Nat.le_refl _) _
          have A2 : Below (w9.heap.size + 1) (w9.alloc (.cells #[.slice (some ⟨g, 0, none⟩) 0 D] 22)) w2 := by
            rw [hw2]
            exact ((Below.refl _ _).alloc (by simp) _).alloc (by simp) _
          have hsz : (w9.alloc (.cells #[.slice (some ⟨g, 0, none⟩) 0 D] 22)).heap.size = w9.heap.size + 1 := by simp
          rw [← hw2, hsz, hh0] at t2
          rw [hh0] at A1 A2
          refine ⟨A1.trans (A2.mono (by omega)), by rw [hw2]; simp; omega, (A2.block h (by omega)).trans ?_, t2.1, t2.2⟩
          rw [← hh0]
          exact World.alloc_heap_new w9 _
        obtain ⟨B2, hz2', hb0, hb1, hb2⟩ := hF2
        have hsz' : (w9.alloc (.cells #[.slice (some ⟨w8.heap.size, 0, none⟩) 0 D] 22)).heap.size = h + 1 := by simp [hh0]
        rw [hsz', hh0, hg0]
        rw [hg0] at hcur hp8 B9
        rw [hh0] at hp9
        have HG : Hid (_ ∧ _) := ⟨hg0, hh0⟩
        have l8 : Laid w8 := hl.below (by rw [HP.out]; exact BW8)
        have s8 : slS n w8 a xs := slS_below (BW8.mono hnp) hp
        have h1g : 1 < g := by have := hl.k.z; have := HP.out; omega
        have B82 : Below g w8 w2 := B9.trans (B2.mono (by omega))
        have hcur2 := (B2.block g hgh).trans hcur
        clear hw2 hsz' hg0 hh0 hown hgr k9 B9 B2 hcur k0 k1 hp9a hp9b
        go_wp2_with fail
        refine (wpIn_wide (n := 9)).1 ?_
        refine range_to (by omega) (gf := 28) (lb := #[.pointer (some ⟨h + 1, 0, none⟩), .pointer (some ⟨h + 2, 0, none⟩)]) rfl (enters_of Tryd.func28 (by kernel_rfl) rfl) ?_
        intro fn mk W1 hmk BW1 hszW hRc
        rw [hz2'] at hmk BW1 hszW hRc ⊢
        have cX : W1.cell? ⟨h + 1, 0, none⟩ = some (.slice a xs.length c) := by rw [hN, BW1.cell (p := ⟨h + 1, 0, none⟩) (by show h + 1 < h + 3; omega), Lib.cell_of_heap hb1]; rfl
        have cY : W1.cell? ⟨h + 2, 0, none⟩ = some (.int .i64 (D : Int)) := by rw [BW1.cell (p := ⟨h + 2, 0, none⟩) (by show h + 2 < h + 3; omega), Lib.cell_of_heap hb2]; rfl
        have BWp : Below g w8 W1 := B82.trans (BW1.mono (by omega))
        have lW1 : Laid W1 := l8.below (by rw [HG.out.1]; exact BWp)
        have sW1 : slZ g (h + 1) (h + 4) (h + 5) W1 a xs := by
          rcases slS_below (BWp.mono (by omega)) s8 with e | ⟨b, o, k1, k2, k3⟩
          · exact .inl e
          · exact .inr ⟨b, o, k1, by omega, by omega, ⟨by omega, by omega⟩, k3⟩
        refine (levels1_in 8 (h + 4) g (h + 1) (h + 1) (h + 2) xs h256 h32 D hD a c h1g (by omega) (by omega) (by omega) (by omega)
          (BrJ xs D I g h w8 mk) (BrX xs D I g h w8 mk) (h + 5)
          ?hJ ?hY W1 lW1 (by omega) (by omega) cX cY sW1 hszW ⟨hRc, BWp, Nat.zero_le _, cur, (BW1.block g (by omega)).trans hcur2, hcz, rfl, (BW1.block h (by omega)).trans hb0⟩).mono ?_
        case hJ =>
          rintro k A C ⟨hr, hB, hk, cur, h1, h2, h3, h4⟩ hq'
          have hlt := hr.lt
          exact ⟨⟨(hq'.at hr.lt (by omega)).trans hr.1, (hq'.at (by omega) (by omega)).trans hr.2⟩, hB.grown hq' (by omega) (fun k e => by cases e; omega), hk, cur, (hq'.at (by omega) (by omega)).trans h1, h2, h3, (hq'.at (by omega) (by omega)).trans h4⟩
        case hY =>
          rintro m k a' c' W ⟨hr, hB, hkD, cur, h1, h2, h3, h4⟩ hk hsl
          refine yield_to mk hmk hr rfl ?_
          have hA : Below W.heap.size W (W.alloc (.cells #[.slice a' (lvl xs k).length c', .string (zr k)] 41)) := (Below.refl _ W).alloc (Nat.le_refl _) _
          have hlt := hr.lt
          have hn0 := World.alloc_heap_new W (.cells #[.slice a' (lvl xs k).length c', .string (zr k)] 41)
          gi_wp2
          refine ⟨hr.below hA, ?_⟩
          intro U hrU hkU
          obtain ⟨A, hAA⟩ : ∃ A, W.alloc (.cells #[.slice a' (lvl xs k).length c', .string (zr k)] 41) = A := ⟨_, rfl⟩
          have hsz : A.heap.size = W.heap.size + 1 := by rw [← hAA]; simp
          rw [hAA] at hA hn0 hkU
          clear hAA
          have BA : Below g w8 A := hB.trans (hA.mono (by omega))
          have BU := Kq.low BA (by omega) (by omega) hkU
          have hsU := hkU.size
          have hnU := (hkU.at (k := W.heap.size) (by omega) (by omega)).trans hn0
          have hgU := (hkU.at (k := g) (by omega) (by omega)).trans ((hA.block g (by omega)).trans h1)
          have hhU := (hkU.at (k := h) (by omega) (by omega)).trans ((hA.block h (by omega)).trans h4)
          have f0 : U.cell? ⟨W.heap.size, 0, none⟩ = some (.slice a' (lvl xs k).length c') := by rw [Lib.cell_of_heap hnU]; rfl
          have f1 : U.cell? ⟨W.heap.size, 1, none⟩ = some (.string (zr k)) := by rw [Lib.cell_of_heap hnU]; rfl
          have f2 : U.cell? ⟨h, 0, none⟩ = some (.slice (some ⟨g, 0, none⟩) k D) := by rw [Lib.cell_of_heap hhU]; rfl
          have f3 : U.cell? ⟨p, 0, none⟩ = some (.int .i64 (D : Int)) := by rw [Lib.cell_of_heap ((BU.block p (by omega)).trans b80)]; rfl
          have f4 : U.cell? ⟨p + 1, 0, none⟩ = some (.int .i64 (I : Int)) := by rw [Lib.cell_of_heap ((BU.block (p + 1) (by omega)).trans b81)]; rfl
          have KU : Kz g (h + 1) (h + 4) W U := (Kz.below hA).trans ⟨hkU.size, fun b hb _ hne => hkU.at hb (by omega)⟩
          have hslU := hsl.kz KU
          by_cases hkD2 : k = D
          · subst hkD2
            have HF : Hid (_ ∧ _ ∧ _ ∧ _) := ⟨hrU, BU, hgU, hhU⟩
            clear hrU BU hgU hhU hnU hslU KU hkU hA hn0 hB hr h1 h4
            gi_wp2
            obtain ⟨hrU, BU, hgU, hhU⟩ := HF.out
            refine And.intro hrU ?_
            intro X hrX hkX
            have hlt2 := hrU.lt
            exact .inr ⟨rfl, hrX, Kq.low BU (by omega) (by omega) hkX, Nat.le_refl _, cur, (hkX.at (by omega) (by omega)).trans hgU, h2, h3, (hkX.at (by omega) (by omega)).trans hhU⟩
          · have hkD3 : k < D := by omega
            have l0 : ¬ (k : Int) = D := by omega
            have l1 : ((k : Int) == D) = false := by rw [beq_eq_false_iff_ne]; exact l0
            have hmk2 : min k 64 = k := by omega
            obtain ⟨M, hM⟩ : ∃ M, I / 2 ^ k = M := ⟨_, rfl⟩
            have hMq : M < 1024 := by rw [← hM]; exact Nat.lt_of_le_of_lt (Nat.div_le_self _ _) (by omega)
            have hMi : (I : Int) / 2 ^ k = (M : Int) := by rw [← hM]; simp
            obtain ⟨M2, hM2⟩ : ∃ x, M + 1 - 2 * (M % 2) = x := ⟨_, rfl⟩
            have hx1 := xor_1 M hMq
            rw [hM2] at hx1
            have KA : ∀ X : World, Below U.heap.size U X → _ := fun X hX => at_any (lvl xs k) a' c' (zr k) M2 X.heap.size X (Nat.le_refl _) (hslU.kz (Kz.below hX)).slS
            rw [lvl_at] at KA
            have KC : ∀ X : World, _ := fun X : World => clone_any (lf (lvs xs) k M2) X (by rw [lf_size _ (lvs_size xs h32)]; decide)
            have HL : Hid (brF (lvs xs) I 0 (k + 1) = brF (lvs xs) I 0 k ++ [lf (lvs xs) k M2]) := by
              show _ = _
              rw [brF_snoc, Nat.zero_add, hM, hM2]
            obtain ⟨r, hr0⟩ : ∃ r, lf (lvs xs) k M2 = r := ⟨_, rfl⟩
            rw [hr0] at KA KC HL
            obtain ⟨N3, hN3⟩ : ∃ x, (lvl xs k).length = x := ⟨_, rfl⟩
            obtain ⟨y3, hy3⟩ : ∃ x, zr k = x := ⟨_, rfl⟩
            rw [hN3, hy3] at KA
            rw [hN3] at f0 ⊢
            rw [hy3] at f1 ⊢
            obtain ⟨v, hv⟩ : ∃ v, W.heap.size = v := ⟨_, rfl⟩
            rw [hv] at f0 f1 ⊢
            have hvU : v < U.heap.size := by omega
            have hhU2 : h < U.heap.size := by omega
            have hpU : p + 1 < U.heap.size := by omega
            have HKA : Hid (_ ∧ _) := ⟨KA, KC⟩
            have HRU : Hid (Rc _ _ U) := hrU
            have HF : Hid (_ ∧ _ ∧ _ ∧ _) := ⟨BU, hgU, hhU, KU⟩
            clear KA KC hr0 hM hM2 hN3 hy3 hnU hslU KU hkU hA hn0 hB hr h1 h4 BU hgU hhU hrU
            gi_wp2_with fail
            refine region_inv_tail_in8 _ _ 9 (by rintro ⟨_, _, h⟩; exact h) (by kernel_rfl) (fun S aa W => ∃ x35 x36 x37 x38 x39 x40 x41 x42 x43 : Value, aa = { tmps := #[Value.slice a N c, Value.int IntKind.i64 ↑D, Value.int IntKind.i64 ↑I, undef, Value.pointer (some { block := p, off := 0 }), Value.pointer (some { block := p + 1, off := 0 }), Value.slice none 0 0, Value.int IntKind.i64 0, Value.pointer (some { block := h, off := 0 }), Value.int IntKind.i64 ↑k, Value.pointer (some { block := v, off := 0 }), Value.slice a N c, Value.int IntKind.i64 ↑D, Value.bool true, Value.bool false, Value.bool false, Value.int IntKind.i64 ↑I, Value.bool false, Value.bool false, Value.bool false, Value.int IntKind.i64 ↑I, Value.int IntKind.i64 ↑D, Value.int IntKind.i64 ↑q, Value.bool false, Value.bool false, Value.int IntKind.i64 ↑D, Value.slice (some { block := g, off := 0 }) 0 D, Value.slice a N c, Value.int IntKind.i64 ↑D, Value.func (Fn.func 28) #[] #[Value.pointer (some { block := h + 1, off := 0 }), Value.pointer (some { block := h + 1 + 1, off := 0 })], Value.int IntKind.i64 ↑k, Value.agg #[Value.slice a' N3 c', Value.string y3], Value.int IntKind.i64 ↑k, Value.int IntKind.i64 ↑D, Value.bool false, x35, x36, x37, x38, x39, x40, x41, x42, x43, undef, undef], defers := [] } ∧ BrK U a' g k D N3 c' I M M2 y3 r S x35 x36 x37 x38 x39 x40 x41 x42 x43 W) (by kernel_rfl) (by kernel_rfl) ?_ ?_ ?_
            · exact ⟨undef, undef, undef, undef, undef, undef, undef, undef, undef, rfl, ⟨(Below.refl _ U).drew, nofun, nofun, nofun, nofun, nofun, nofun, nofun, nofun, nofun⟩⟩
            · intro i o S aa W hin hi hun hJ hall K hK
              obtain ⟨x35, x36, x37, x38, x39, x40, x41, x42, x43, rfl, hJ7⟩ := hJ
              have hlt : i < 9 := hin
              have hcase : i = 0 ∨ i = 1 ∨ i = 2 ∨ i = 3 ∨ i = 4 ∨ i = 5 ∨ i = 6 ∨ i = 7 ∨ i = 8 := by omega
              rcases hcase with rfl | rfl | rfl | rfl | rfl | rfl | rfl | rfl | rfl
              all_goals (have ho := (Option.some.inj hi).symm; subst ho; clear hi hlt hin)
              · have cW := (hJ7.e.cell (p := ⟨h, 0, none⟩) hhU2).trans f2
                go_simp
                exact hK _ _ ⟨_, x36, x37, x38, x39, x40, x41, x42, x43, rfl, ⟨hJ7.e, fun _ => rfl, hJ7.f1, hJ7.f2, hJ7.f3, hJ7.f4, hJ7.f5, hJ7.f6, hJ7.f7, hJ7.f8⟩⟩
              · have cW := (hJ7.e.cell (p := ⟨v, 0, none⟩) hvU).trans f0
                have cW1 := (hJ7.e.cell (p := ⟨v, 1, none⟩) hvU).trans f1
                go_simp
                exact hK _ _ ⟨x35, _, x37, x38, x39, x40, x41, x42, x43, rfl, ⟨hJ7.e, hJ7.f0, fun _ => rfl, hJ7.f2, hJ7.f3, hJ7.f4, hJ7.f5, hJ7.f6, hJ7.f7, hJ7.f8⟩⟩
              · have cW := (hJ7.e.cell (p := ⟨p + 1, 0, none⟩) hpU).trans f4
                go_simp
                exact hK _ _ ⟨x35, x36, _, x38, x39, x40, x41, x42, x43, rfl, ⟨hJ7.e, hJ7.f0, hJ7.f1, fun _ => rfl, hJ7.f3, hJ7.f4, hJ7.f5, hJ7.f6, hJ7.f7, hJ7.f8⟩⟩
              · go_simp
                exact hK _ _ ⟨x35, x36, x37, _, x39, x40, x41, x42, x43, rfl, ⟨hJ7.e, hJ7.f0, hJ7.f1, hJ7.f2, fun _ => rfl, hJ7.f4, hJ7.f5, hJ7.f6, hJ7.f7, hJ7.f8⟩⟩
              · have s_2 : S 2 = true := hall ⟨2, .data⟩ (by simp) rfl
                obtain rfl := hJ7.f2 s_2
                have s_3 : S 3 = true := hall ⟨3, .data⟩ (by simp) rfl
                obtain rfl := hJ7.f3 s_3
                go_simp
                exact hK _ _ ⟨x35, x36, _, _, _, x40, x41, x42, x43, rfl, ⟨hJ7.e, hJ7.f0, hJ7.f1, hJ7.f2, hJ7.f3, fun _ => rfl, hJ7.f5, hJ7.f6, hJ7.f7, hJ7.f8⟩⟩
              · have s_4 : S 4 = true := hall ⟨4, .data⟩ (by simp) rfl
                obtain rfl := hJ7.f4 s_4
                go_simp
                exact hK _ _ ⟨x35, x36, x37, x38, _, _, x41, x42, x43, rfl, ⟨hJ7.e, hJ7.f0, hJ7.f1, hJ7.f2, hJ7.f3, hJ7.f4, fun _ => rfl, hJ7.f6, hJ7.f7, hJ7.f8⟩⟩
              · have s_1 : S 1 = true := hall ⟨1, .data⟩ (by simp) rfl
                obtain rfl := hJ7.f1 s_1
                have s_5 : S 5 = true := hall ⟨5, .data⟩ (by simp) rfl
                obtain rfl := hJ7.f5 s_5
                go_simp
                refine (HKA.out.1 W hJ7.e).mono ?_
                rintro e w5 ⟨rfl, hb5⟩
                have hJ8 := hJ7.grow hb5
                go_simp
                exact hK _ _ ⟨x35, _, x37, x38, x39, _, _, x42, x43, rfl, ⟨hJ8.e, hJ8.f0, hJ8.f1, hJ8.f2, hJ8.f3, hJ8.f4, hJ8.f5, fun _ => rfl, hJ8.f7, hJ8.f8⟩⟩
              · have s_6 : S 6 = true := hall ⟨6, .data⟩ (by simp) rfl
                obtain rfl := hJ7.f6 s_6
                go_simp
                refine (HKA.out.2 W).mono ?_
                rintro e w5 ⟨rfl, hb5⟩
                have hJ8 := hJ7.grow hb5
                go_simp
                exact hK _ _ ⟨x35, x36, x37, x38, x39, x40, _, _, x43, rfl, ⟨hJ8.e, hJ8.f0, hJ8.f1, hJ8.f2, hJ8.f3, hJ8.f4, hJ8.f5, hJ8.f6, fun _ => rfl, hJ8.f8⟩⟩
              · have s_7 : S 7 = true := hall ⟨7, .data⟩ (by simp) rfl
                obtain rfl := hJ7.f7 s_7
                go_simp
                have hJ8 := hJ7.grow ((Below.refl _ W).alloc (Nat.le_refl _) (.cells #[.string r] 9))
                exact hK _ _ ⟨x35, x36, x37, x38, x39, x40, x41, _, _, rfl, ⟨hJ8.e, hJ8.f0, hJ8.f1, hJ8.f2, hJ8.f3, hJ8.f4, hJ8.f5, hJ8.f6, hJ8.f7, fun _ => ⟨W.heap.size, rfl, hJ7.e.size, by simp, World.alloc_heap_new W _⟩⟩⟩
            · rintro S aa W hall ⟨x35, x36, x37, x38, x39, x40, x41, x42, x43, rfl, hJ7⟩
              obtain rfl := hJ7.f0 (hall 0 (by decide))
              obtain rfl := hJ7.f1 (hall 1 (by decide))
              obtain rfl := hJ7.f2 (hall 2 (by decide))
              obtain rfl := hJ7.f3 (hall 3 (by decide))
              obtain rfl := hJ7.f4 (hall 4 (by decide))
              obtain rfl := hJ7.f5 (hall 5 (by decide))
              obtain rfl := hJ7.f6 (hall 6 (by decide))
              obtain rfl := hJ7.f7 (hall 7 (by decide))
              obtain ⟨gg, rfl, hgg, hhg, hcg⟩ := hJ7.f8 (hall 8 (by decide))
              have BWD := hJ7.e
              clear hJ7 hall
              simp only [List.drop_succ_cons, List.drop_zero]
              obtain ⟨BU, hgU, hhU, KU⟩ := HF.out
              have hgW := (BWD.block g (by omega)).trans hgU
              have hhW := (BWD.block h (by omega)).trans hhU
              have hrW := HRU.out.below BWD
              have hrun := run_append_room (P := Tryd.prog) (w := W) 22 22 9 i0 Tryd.underlying22 hi0' g k D cur hgW ⟨gg, 0, none⟩ 1 1 [.string r] (by rw [hz1]; rfl) (fun j u hj => by
                rw [Addr.add_lit, Lib.cell_of_heap hcg, Nat.zero_add]
                simpa using hj) (by intro u hu; simp at hu; subst hu; rfl) (by omega) (by rw [hz1, h2]; simp; omega)
              rw [hz1, Nat.mul_one] at hrun
              obtain ⟨nc, hnc⟩ : ∃ nc, (cur.toList.take k ++ [Value.string r] ++ cur.toList.drop (k + [Value.string r].length)).toArray = nc := ⟨_, rfl⟩
              rw [hnc] at hrun
              have hncz : nc.size = D := by
                rw [← hnc]
                simp
                omega
              have hnct : nc.toList.take (k + 1) = (brF (lvs xs) I 0 (k + 1)).map .string := by
                rw [← hnc, HL.out, List.map_append, ← h3]
                have hl1 : (cur.toList.take k).length = k := by rw [List.length_take, Array.length_toList]; omega
                rw [List.toList_toArray, List.take_append_of_le_length (by rw [List.length_append, hl1]; simp)]
                exact List.take_of_length_le (by rw [List.length_append, hl1]; simp)
              have eg := setRow_heap W g cur nc 9 (0, 0) hgW
              have eh := (setRow_other W g h nc (by omega)).trans hhW
              have fh : ∀ o, (W.setRow g nc).frozen? ⟨h, o, none⟩ = false := fun o => by simp [World.frozen?, eh]
              have ch : (W.setRow g nc).cell? ⟨h, 0, none⟩ = some (.slice (some ⟨g, 0, none⟩) k D) := by rw [Lib.cell_of_heap eh]; rfl
              have eh2 := heap_setCell_self eh 0 (.slice (some ⟨g, 0, none⟩) (k + 1) D)
              have eg2 := ((Kq.put (W.setRow g nc) h 0 (.slice (some ⟨g, 0, none⟩) (k + 1) D)).at (k := g) (by simp; omega) (by omega)).trans eg
              have hrs : Rc (h + 3) (mk .busy none) ((W.setRow g nc).setCell ⟨h, 0, none⟩ (.slice (some ⟨g, 0, none⟩) (k + 1) D)) := ⟨((Kq.put (W.setRow g nc) h 0 _).at (by simp; exact hrW.lt) (by omega)).trans ((setRow_other W g _ nc (by omega)).trans hrW.1), ((Kq.put (W.setRow g nc) h 0 _).at (by simp; have := hrW.lt; omega) (by omega)).trans ((setRow_other W g _ nc (by omega)).trans hrW.2)⟩
              have BF : Below g w8 ((W.setRow g nc).setCell ⟨h, 0, none⟩ (.slice (some ⟨g, 0, none⟩) (k + 1) D)) := below_setCells' (b := h) (by omega) [.slice (some ⟨g, 0, none⟩) (k + 1) D] 0 _ (below_setRow8 (BU.trans (BWD.mono (by omega))) (Nat.le_refl _) nc)
              have KF : Kz g (h + 1) (h + 4) _ ((W.setRow g nc).setCell ⟨h, 0, none⟩ (.slice (some ⟨g, 0, none⟩) (k + 1) D)) := ((KU.trans (Kz.below BWD)).trans ⟨by simp, fun b hb hne _ => setRow_other W g b nc (by omega)⟩).trans (Kz.set _ 0 _ (by omega) (by omega))
              have HZ : Hid (_ ∧ _ ∧ _ ∧ _ ∧ _) := ⟨eh2, eg2, hrs, BF, KF⟩
              have HRUN : Hid _ := hrun
              clear eh2 eg2 hrs BF KF hrun eg eh hgW hhW hrW BU hgU hhU KU hcg BWD
              go_wp2_with (at_builtin; refine wpList_append_ran rfl _ _ 22 22 rfl _ _ _ _ rfl rfl HRUN.out ?_)
              obtain ⟨eh2, eg2, hrs, BF, KF⟩ := HZ.out
              refine And.intro hrs ?_
              intro X hrX hkX
              have hlt2 := hrs.lt
              exact .inl ⟨rfl, ⟨hrX, Kq.low BF (by omega) (by omega) hkX, hkD3, nc, (hkX.at (by omega) (by omega)).trans eg2, hncz, hnct, (hkX.at (by omega) (by omega)).trans eh2⟩, KF.trans ⟨hkX.size, fun b hb _ hne => hkX.at hb (by omega)⟩⟩
        rintro e W2 ⟨he, ⟨hr, hB, hk, _⟩ | ⟨k, hkk, hr, hB, hk, cur, h1, h2, h3, h4⟩⟩
        · omega
        · refine ⟨he, .inr ⟨.exit 0, hr, ?_⟩⟩
          intro U hdU hkU
          have hlt := hr.lt
          have hgU := (hkU.at (k := g) (by omega) (by omega)).trans h1
          have hhU := (hkU.at (k := h) (by omega) (by omega)).trans h4
          have BU := Kq.low hB (by omega) (by omega) hkU
          have f2 : U.cell? ⟨h, 0, none⟩ = some (.slice (some ⟨g, 0, none⟩) D D) := by rw [Lib.cell_of_heap hhU]; rfl
          have hdl : h + 3 < U.heap.size := (Array.getElem?_eq_some_iff.1 hdU).1
          have hgl : g < U.heap.size := by omega
          have HF : Hid (slS U.heap.size U (some ⟨g, 0, none⟩) (brF (lvs xs) I 0 D)) := .inr ⟨g, 0, rfl, hgl, fun j x hx => by
            have hj : j < D := by have := (List.getElem?_eq_some_iff.1 hx).1; rw [brF_len] at this; exact this
            rw [Lib.cell_of_heap hgU, Nat.zero_add]
            have e1 : (cur.toList.take D)[j]? = some (.string x) := by rw [h3, List.getElem?_map, hx]; rfl
            rw [List.getElem?_take, if_pos hj, Array.getElem?_toList] at e1
            exact e1⟩
          clear hr h1 h4 hgU hhU hkU hB
          gi_wp2
          go_wp2
          refine ⟨by simp, .inl ⟨_, _, rfl, run_takeDeferred hdU, ?_⟩⟩
          refine ⟨.tuple #[.slice (some ⟨g, 0, none⟩) D D, .int .i64 0], by simp [results, Tryd.results12, go_sem], ?_, ?_⟩
          · unfold BrR
            rw [if_pos hok.out]
            refine ⟨_, D, rfl, Nat.le_refl _, ?_⟩
            rw [Int.toNat_natCast, Int.toNat_natCast]
            have hne : g ≠ h + 3 := by omega
            have hpo := fun o' : Obj => heap_put (l := h + 3) U o' hgl hne
            have hsz3 := fun o' : Obj => (grownBy_putObj' U (h + 3) o').size
            rcases HF.out with e | ⟨b, o, k1, k2, k3⟩
            · exact .inl e
            · cases k1
              exact .inr ⟨_, _, rfl, Nat.lt_of_lt_of_le k2 (hsz3 _), fun j x hx => (World.cell?_of_block (w := U) (hpo _)).trans (k3 j x hx)⟩
          · rw [HP.out]
            exact BW8.trans ((below_put BU (by omega) (by omega) _).mono (by omega))
end Go.Proofs.YtmemfdpfbeijeabDoor
