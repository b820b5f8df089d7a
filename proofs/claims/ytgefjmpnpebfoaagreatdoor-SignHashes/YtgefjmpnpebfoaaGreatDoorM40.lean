/- Lemmas: What the reference's All does. No condition. The walks of SignHashes, SignKeys, SignSums, SignHolds, SignAll. No condition. -/
import Derived.Test.YtgefjmpnpebfoaaGreatDoorM1
import Derived.Test.YtgefjmpnpebfoaaGreatDoorM10
import Derived.Test.YtgefjmpnpebfoaaGreatDoorM11
import Derived.Test.YtgefjmpnpebfoaaGreatDoorM12
import Derived.Test.YtgefjmpnpebfoaaGreatDoorM13
import Derived.Test.YtgefjmpnpebfoaaGreatDoorM14
import Derived.Test.YtgefjmpnpebfoaaGreatDoorM15
import Derived.Test.YtgefjmpnpebfoaaGreatDoorM16
import Derived.Test.YtgefjmpnpebfoaaGreatDoorM17
import Derived.Test.YtgefjmpnpebfoaaGreatDoorM18
import Derived.Test.YtgefjmpnpebfoaaGreatDoorM19
import Derived.Test.YtgefjmpnpebfoaaGreatDoorM2
import Derived.Test.YtgefjmpnpebfoaaGreatDoorM20
import Derived.Test.YtgefjmpnpebfoaaGreatDoorM21
import Derived.Test.YtgefjmpnpebfoaaGreatDoorM22
import Derived.Test.YtgefjmpnpebfoaaGreatDoorM23
import Derived.Test.YtgefjmpnpebfoaaGreatDoorM24
import Derived.Test.YtgefjmpnpebfoaaGreatDoorM25
import Derived.Test.YtgefjmpnpebfoaaGreatDoorM26
import Derived.Test.YtgefjmpnpebfoaaGreatDoorM27
import Derived.Test.YtgefjmpnpebfoaaGreatDoorM28
import Derived.Test.YtgefjmpnpebfoaaGreatDoorM29
import Derived.Test.YtgefjmpnpebfoaaGreatDoorM3
import Derived.Test.YtgefjmpnpebfoaaGreatDoorM30
import Derived.Test.YtgefjmpnpebfoaaGreatDoorM31
import Derived.Test.YtgefjmpnpebfoaaGreatDoorM32
import Derived.Test.YtgefjmpnpebfoaaGreatDoorM33
import Derived.Test.YtgefjmpnpebfoaaGreatDoorM35
import Derived.Test.YtgefjmpnpebfoaaGreatDoorM36
import Derived.Test.YtgefjmpnpebfoaaGreatDoorM37
import Derived.Test.YtgefjmpnpebfoaaGreatDoorM38
import Derived.Test.YtgefjmpnpebfoaaGreatDoorM39
import Derived.Test.YtgefjmpnpebfoaaGreatDoorM4
import Derived.Test.YtgefjmpnpebfoaaGreatDoorM5
import Derived.Test.YtgefjmpnpebfoaaGreatDoorM6
import Derived.Test.YtgefjmpnpebfoaaGreatDoorM7
import Derived.Test.YtgefjmpnpebfoaaGreatDoorM8
import Derived.Test.YtgefjmpnpebfoaaGreatDoorM9
import Derived.Test.YtgefjmpnpebfoaaGreatDoorRows
namespace Go.Proofs.YtgefjmpnpebfoaaGreatDoor
open Go.RowKit Go.Shelf Go.Sort

theorem zero_iff {s : ByteArray} (h : frB s = true) : nmN s = iN ↔ s = zero5 := by
  constructor
  · intro e
    unfold frB at h
    simp only [Bool.and_eq_true, decide_eq_true_eq] at h
    rw [e] at h
    exact h.2.symm
  · intro e
    have := fr_zero
    rw [← e] at this
    unfold frV at this
    rw [h, if_pos rfl] at this
    exact okT_inj this
/-- Is one Inf's bytes? -/
def zeB : List ByteArray → Bool
  | [] => false
  | s :: l => decide (s = zero5) || zeB l
theorem ze_app (l : List ByteArray) (s : ByteArray) : zeB (l ++ [s]) = (zeB l || decide (s = zero5)) := by
  induction l with
  | nil => simp [zeB]
  | cons x l ih => rw [List.cons_append, zeB, zeB, ih, Bool.or_assoc]
theorem ze_pre {l : List ByteArray} (k : Nat) (h : zeB (l.take k) = true) : zeB l = true := by
  induction l generalizing k with
  | nil => rw [List.take_nil] at h; exact h
  | cons x l ih =>
    cases k with
    | zero => cases h
    | succ k =>
      rw [List.take_succ_cons, zeB, Bool.or_eq_true] at h
      rw [zeB, Bool.or_eq_true]
      exact h.imp id (ih k)
/-- The sum of keys with Inf barred, by the sum without. -/
theorem els_bar : ∀ (l : List ByteArray) (m : Pt), toE m (elsT true l) = if zeB l = true then none else toE m (elsT false l)
  | [], m => by rw [if_neg (by simp [zeB])]; rfl
  | s :: l, m => by
    show toE m (elN true s :: elsT true l) = if (decide (s = zero5) || zeB l) = true then none else toE m (elN false s :: elsT false l)
    cases hf : frB s
    · have e1 : (elN true s).val = none := by unfold elN; rw [dif_neg (fun h => by rw [hf] at h; cases h.1)]
      have e2 : (elN false s).val = none := by unfold elN; rw [dif_neg (fun h => by rw [hf] at h; cases h.1)]
      simp only [toE, e1, e2]
      split <;> rfl
    · have e2 : (elN false s).val = some (nmN s) := by unfold elN; rw [dif_pos ⟨hf, fun h => by cases h.1⟩]
      by_cases hz : s = zero5
      · have e1 : (elN true s).val = none := by unfold elN; rw [dif_neg (fun h => h.2 ⟨rfl, (zero_iff hf).2 hz⟩)]
        simp only [toE, e1]
        rw [decide_eq_true hz]
        rfl
      · have e1 : (elN true s).val = some (nmN s) := by unfold elN; rw [dif_pos ⟨hf, fun h => hz ((zero_iff hf).1 h.2)⟩]
        simp only [toE, e1, e2]
        rw [els_bar l, decide_eq_false hz, Bool.false_or]
theorem al_is (l : List ByteArray) (t s : ByteArray) : alB l t s = (frB s && match toE iN (elsT false l) with
    | some k => !decide (l.length = 0) && (!zeB l && rhB k t (nmN s))
    | none => false) := by
  unfold alB
  rw [els_bar]
  cases hm : zeB l
  · rw [if_neg (by simp)]
    cases l with
    | nil =>
      show hoB iN t s = _
      unfold hoB
      simp [elsT, toE]
    | cons x l =>
      cases toE iN (elsT false (x :: l)) with
      | none => simp
      | some k => simp [hoB, rhB]
  · rw [if_pos rfl]
    cases toE iN (elsT false l) with
    | none => simp
    | some k => simp

set_option maxRecDepth 20000 in
set_option maxHeartbeats 4000000 in
theorem rall_any (l : List ByteArray) (hl : l.length ≤ 1000) (t s : ByteArray) (ht : t.size ≤ 10000) (a : Option Addr) (c : Nat) (w : World) (hT : txS l a w) :
    Calls Tryz.prog 20 #[.slice a l.length c, .string t, .string s] w fun e w' => e = .returned (.bool (alB l t s)) ∧ Below w.heap.size w w' := by
  rw [al_is]
  have CS := rfrom_any s
  have CU : ∀ W, txS l a W → _ := fun W h => rsum12_any l hl a c W h
  have hgr := toE_gr (elsT false l) iN
  obtain ⟨o, ho⟩ : ∃ o, toE iN (elsT false l) = o := ⟨_, rfl⟩
  rw [ho] at CU ⊢
  have hgr : ∀ q, o = some q → grN q = true := fun q e => hgr q gr_inf (by rw [ho, e])
  clear ho
  obtain ⟨q, f, e2⟩ : ∃ (p : Pt) (d : Int), frV s = .tuple #[vT p, .int .i64 d] := by unfold frV; split <;> exact ⟨_, _, rfl⟩
  rw [e2] at CS
  have hfr : frB s = decide (f = 0) ∧ (f = 0 → nmN s = q ∧ grN q = true) := by
    unfold frV at e2
    cases h : frB s
    · rw [h] at e2; simp at e2
      obtain ⟨_, rfl⟩ := e2
      exact ⟨rfl, fun h => by cases h⟩
    · rw [h, if_pos rfl] at e2
      have hf : f = 0 := by simp at e2; exact e2.2.symm
      subst hf
      have k := okT_inj e2
      exact ⟨rfl, fun _ => ⟨k, by rw [← k]; exact fr_gr h⟩⟩
  rw [hfr.1]
  have hfr := hfr.2
  obtain ⟨N, hN⟩ : ∃ N, l.length = N := ⟨_, rfl⟩
  have HN : Hid (l.length = N ∧ txS l a w) := ⟨hN, hT⟩
  rw [hN] at CU hl ⊢
  clear hT hN e2
  by_cases hf : f = 0
  · obtain ⟨kq, gq⟩ := hfr hf
    rw [decide_eq_true hf, Bool.true_and, kq]
    subst hf
    clear hfr kq
    cases o with
    | none =>
      unfold rsV at CU
      show Calls Tryz.prog 20 #[.slice a N c, .string t, .string s] w fun e w' => e = .returned (.bool false) ∧ Below w.heap.size w w'
      go_enter Tryz.func20, Tryz.ntmps20
      go_wp2_with fail
      refine (CS _).mono ?_
      rintro e w1 ⟨rfl, B1⟩
      have A1 : Below w1.heap.size w1 (w1.alloc (.cells #[.int .u64 (q.X : Int), .int .u64 (q.Y : Int), .bool q.I] 25)) := (Below.refl _ _).alloc (Nat.le_refl _) _
      have BW1 := belowStep B1 B1.size A1
      have H1 : Hid _ := BW1
      clear B1 A1 BW1 CS
      go_wp2_with fail
      refine (CU _ (HN.out.2.below H1.out)).mono ?_
      rintro e w2 ⟨rfl, B2⟩
      have BW2 := belowStep H1.out H1.out.size B2
      clear H1 B2 CU HN
      go_wp2_with fail
      go_ret
      exact ⟨rfl, BW2.alloc BW2.size _⟩
    | some p =>
      unfold rsV at CU
      have hp := hgr p rfl
      by_cases hl0 : N = 0
      · rw [decide_eq_true hl0]
        subst hl0
        show Calls Tryz.prog 20 #[.slice a 0 c, .string t, .string s] w fun e w' => e = .returned (.bool false) ∧ Below w.heap.size w w'
        go_enter Tryz.func20, Tryz.ntmps20
        go_wp2_with fail
        refine (CS _).mono ?_
        rintro e w1 ⟨rfl, B1⟩
        have A1 : Below w1.heap.size w1 (w1.alloc (.cells #[.int .u64 (q.X : Int), .int .u64 (q.Y : Int), .bool q.I] 25)) := (Below.refl _ _).alloc (Nat.le_refl _) _
        have BW1 := belowStep B1 B1.size A1
        have H1 : Hid _ := BW1
        clear B1 A1 BW1 CS
        go_wp2_with fail
        refine (CU _ (HN.out.2.below H1.out)).mono ?_
        rintro e w2 ⟨rfl, B2⟩
        have BW2 := belowStep H1.out H1.out.size B2
        clear H1 B2 CU HN
        go_wp2_with fail
        go_ret
        exact ⟨rfl, BW2.alloc BW2.size _⟩
      · rw [decide_eq_false hl0]
        show Calls Tryz.prog 20 #[.slice a N c, .string t, .string s] w fun e w' => e = .returned (.bool (!zeB l && rhB p t q)) ∧ Below w.heap.size w w'
        have hN0 : 0 < N := by omega
        have hNb : ((N : Int) == 0) = false := by rw [beq_eq_false_iff_ne]; omega
        have hNb2 : ¬ (N : Int) = 0 := by omega
        have CH := rholds_any p q hp gq t ht
        obtain ⟨r, hr⟩ : ∃ r, (!zeB l && rhB p t q) = r := ⟨_, rfl⟩
        rw [hr]
        have HR : Hid ((!zeB l && rhB p t q) = r) := hr
        clear hr hp gq hgr
        obtain ⟨d, hd⟩ : ∃ d, rhB p t q = d := ⟨_, rfl⟩
        rw [hd] at CH HR
        clear hd
        go_enter Tryz.func20, Tryz.ntmps20
        go_wp2_with fail
        refine (CS _).mono ?_
        rintro e w1 ⟨rfl, B1⟩
        have A1 : Below w1.heap.size w1 (w1.alloc (.cells #[.int .u64 (q.X : Int), .int .u64 (q.Y : Int), .bool q.I] 25)) := (Below.refl _ _).alloc (Nat.le_refl _) _
        have BW1 := belowStep B1 B1.size A1
        have T1 : Tb w1.heap.size q (w1.alloc (.cells #[.int .u64 (q.X : Int), .int .u64 (q.Y : Int), .bool q.I] 25)) := Tb.new' w1 q 25 _ rfl
        have H1 : Hid (_ ∧ _) := ⟨BW1, T1⟩
        clear B1 A1 BW1 T1 CS
        go_wp2_with fail
        refine (CU _ (HN.out.2.below H1.out.1)).mono ?_
        rintro e w2 ⟨rfl, B2⟩
        have A2 : Below w2.heap.size w2 (w2.alloc (.cells #[.int .u64 (p.X : Int), .int .u64 (p.Y : Int), .bool p.I] 25)) := (Below.refl _ _).alloc (Nat.le_refl _) _
        have B3 := belowStep B2 B2.size A2
        have BW3 := belowStep H1.out.1 H1.out.1.size B3
        have T3 := H1.out.2.below B3
        have P3 : Tb w2.heap.size p (w2.alloc (.cells #[.int .u64 (p.X : Int), .int .u64 (p.Y : Int), .bool p.I] 25)) := Tb.new' w2 p 25 _ rfl
        have H3 : Hid (_ ∧ _ ∧ _ ∧ _) := ⟨BW3, T3, P3, HN.out.2.below BW3⟩
        clear H1 B2 A2 B3 BW3 T3 P3 CU
        go_wp2_with fail
        go_loopg [11] N (fun gk i wr => ∃ k : Nat, k + gk = N ∧ i = .int .i64 (k : Int) ∧ Hid (Below w.heap.size w wr ∧ Tb w1.heap.size q wr ∧ Tb w2.heap.size p wr ∧ txS l a wr ∧ zeB (l.take k) = false))
        case atStart =>
          obtain ⟨h1, h2, h3, h4⟩ := H3.out
          exact ⟨0, by omega, rfl, h1, h2, h3, h4, rfl⟩
        case round =>
          obtain ⟨k, hk, rfl, HI⟩ := hrel
          clear H3
          by_cases hlk : k < N
          · have l0 : (k : Int) < N := by omega
            obtain ⟨h1, h2, h3, h4, h5⟩ := HI.out
            obtain ⟨x, hx⟩ : ∃ s, l[k]? = some s := ⟨l[k]'(by rw [HN.out.1]; omega), by simp [HN.out.1, hlk]⟩
            have hne : l ≠ [] := fun e => by rw [e] at hx; cases hx
            obtain ⟨B0, o, rfl, hB0, hcs⟩ := h4.resolve_left hne
            have hcell := hcs k x hx
            have htk : l.take (k + 1) = l.take k ++ [x] := by rw [List.take_add_one, hx]; rfl
            have hze := ze_app (l.take k) x
            rw [← htk, h5, Bool.false_or] at hze
            have hk1 : IntKind.i64.wrap ((k : Int) + 1) = ((k + 1 : Nat) : Int) := by rw [IntKind.wrap_i64]; omega
            have HH : Hid _ := h1
            by_cases hz : x = zero5
            · have hr : r = false := by
                rw [← HR.out, ze_pre (k + 1) (by rw [hze]; exact decide_eq_true hz)]
                rfl
              subst hr
              rw [hz, zero5_lit] at hcell
              clear h1 h2 h3 h4 h5 HI hze htk hcs hne hx hz CH
              go_wp2_with fail
              go_ret
              exact ⟨rfl, HH.out⟩
            · rw [decide_eq_false hz] at hze
              have hz' : (x.toList == [0, 0, 0, 0, 0]) = false := by
                have h := ne_list hz
                rw [zero5_lit, show (⟨#[0, 0, 0, 0, 0]⟩ : ByteArray).toList = [0, 0, 0, 0, 0] by decide +kernel] at h
                exact h
              have HZ : Hid (_ ∧ _ ∧ _ ∧ _ ∧ _) := ⟨h1, h2, h3, h4, hze⟩
              clear h1 h2 h3 h4 h5 HI hze htk hcs hne hx hz CH
              go_wp2_with fail
              go_roundg (gk - 1)
              case measure => omega
              case rel => exact ⟨k + 1, by omega, rfl, HZ.out⟩
          · obtain rfl : k = N := by omega
            have l0 : ¬ (k : Int) < k := by omega
            obtain ⟨h1, h2, h3, h4, h5⟩ := HI.out
            rw [List.take_of_length_le (by rw [HN.out.1]; exact Nat.le_refl _)] at h5
            have hr : r = d := by rw [← HR.out, h5]; cases d <;> rfl
            subst hr
            have ⟨tz, t0, t1, t2, tf⟩ := h2
            have ⟨pz, p0, p1, p2, pf⟩ := h3
            have HH : Hid _ := h1
            clear h1 h2 h3 h4 h5 HI
            go_wp2_with fail
            refine (CH _).mono ?_
            rintro e w5 ⟨rfl, B5⟩
            have BW5 := belowStep HH.out HH.out.size B5
            clear HH B5 CH
            go_wp2_with fail
            go_ret
            exact ⟨rfl, BW5⟩
  · rw [decide_eq_false hf, Bool.false_and]
    have hfb : (f == 0) = false := by rw [beq_eq_false_iff_ne]; exact hf
    obtain ⟨p, d, eo⟩ : ∃ p d, rsV o = .tuple #[vT p, .bool d] := by unfold rsV; split <;> exact ⟨_, _, rfl⟩
    rw [eo] at CU
    go_enter Tryz.func20, Tryz.ntmps20
    go_wp2_with fail
    refine (CS _).mono ?_
    rintro e w1 ⟨rfl, B1⟩
    have A1 : Below w1.heap.size w1 (w1.alloc (.cells #[.int .u64 (q.X : Int), .int .u64 (q.Y : Int), .bool q.I] 25)) := (Below.refl _ _).alloc (Nat.le_refl _) _
    have BW1 := belowStep B1 B1.size A1
    have H1 : Hid _ := BW1
    clear B1 A1 BW1 CS
    go_wp2_with fail
    refine (CU _ (HN.out.2.below H1.out)).mono ?_
    rintro e w2 ⟨rfl, B2⟩
    have BW2 := belowStep H1.out H1.out.size B2
    clear H1 B2 CU HN
    go_wp2_with fail
    go_ret
    exact ⟨rfl, BW2.alloc BW2.size _⟩
end Go.Proofs.YtgefjmpnpebfoaaGreatDoor
namespace Go.Proofs.YtgefjmpnpebfoaaGreatDoor
open Go.RowKit Go.Shelf Go.Sort

/-- The first ten thousand bytes. -/
abbrev cutT (s : ByteArray) : ByteArray := s.extract 0 (min (s.size : Int) 10000).toNat
theorem cut_size (s : ByteArray) : (cutT s).size ≤ 10000 := by
  show (s.extract 0 (min (s.size : Int) 10000).toNat).size ≤ 10000
  rw [ByteArray.size_extract]
  omega
set_option maxRecDepth 20000 in
set_option maxHeartbeats 4000000 in
theorem shash_any (s : ByteArray) (w : World) (hL : Ls w) :
    Calls Tryz.prog 3 #[.string s] w fun e w' => e = .returned (.bool true) ∧ Below w.heap.size w w' := by
  have CS := shown12_any
  have C1 := hash_any (cutT s) (cut_size s)
  have C2 := rhash_any (cutT s) (cut_size s)
  have hE := eqlT (hsN (cutT s)) (hsN (cutT s))
  rw [decide_eq_true rfl] at hE
  obtain ⟨p, hp⟩ : ∃ p, hsN (cutT s) = p := ⟨_, rfl⟩
  rw [hp] at C1 C2 hE
  clear hp
  go_enter Tryz.func3, Tryz.ntmps3
  go_wp2_with fail
  refine (CS _ hL).mono ?_
  rintro e w1 ⟨rfl, B1⟩
  have L1 := hL.below B1
  go_wp2_with fail
  refine (C1 _ L1).mono ?_
  rintro e w2 ⟨rfl, B2⟩
  have BW2 := belowStep B1 B1.size B2
  clear B1 B2 L1 C1 CS
  go_wp2_with fail
  refine (C2 _).mono ?_
  rintro e w3 ⟨rfl, B3⟩
  have BW3 := belowStep BW2 BW2.size B3
  clear BW2 B3 C2
  go_wp2_with fail
  go_ret
  exact ⟨rfl, BW3⟩

set_option maxRecDepth 20000 in
set_option maxHeartbeats 4000000 in
theorem skeys_any (x : Int) (s : ByteArray) (w : World) (hL : Ls w) (hx : 0 ≤ x ∧ x < 18446744073709551616) :
    Calls Tryz.prog 4 #[.int .u64 x, .string s] w fun e w' => e = .returned (.bool true) ∧ Below w.heap.size w w' := by
  obtain ⟨n, rfl⟩ : ∃ n : Nat, x = n := ⟨x.toNat, by omega⟩
  have hn : U64 n := by unfold U64; omega
  clear hx
  have CS := shown12_any
  have C1 := key_any n hn
  have C2 := rkey_any n hn
  have C3 := sign_any n hn (cutT s) (cut_size s)
  have C4 := rsign_any n hn (cutT s) (cut_size s)
  obtain ⟨a, b, e1⟩ : ∃ a b, kyV n = .tuple #[.string a, .int .i64 b] := by unfold kyV bytV; split <;> (try split) <;> exact ⟨_, _, rfl⟩
  obtain ⟨c, d, e2⟩ : ∃ a b, sgV n (cutT s) = .tuple #[.string a, .int .i64 b] := by unfold sgV bytV; split <;> (try split) <;> exact ⟨_, _, rfl⟩
  rw [e1] at C1 C2
  rw [e2] at C3 C4
  clear e1 e2
  go_enter Tryz.func4, Tryz.ntmps4
  go_wp2_with fail
  refine (CS _ hL).mono ?_
  rintro e w1 ⟨rfl, B1⟩
  have L1 := hL.below B1
  go_wp2_with fail
  refine (C1 _ L1).mono ?_
  rintro e w2 ⟨rfl, B2⟩
  have L2' := L1.below B2
  have BW2 := belowStep B1 B1.size B2
  go_wp2_with fail
  refine (C2 _).mono ?_
  rintro e w3 ⟨rfl, B3⟩
  have L3' := L2'.below B3
  have BW3 := belowStep BW2 BW2.size B3
  go_wp2_with fail
  refine (C3 _ L3').mono ?_
  rintro e w4 ⟨rfl, B4⟩
  have BW4 := belowStep BW3 BW3.size B4
  go_wp2_with fail
  refine (C4 _).mono ?_
  rintro e w5 ⟨rfl, B5⟩
  have BW5 := belowStep BW4 BW4.size B5
  clear L1 L2' L3' B1 B2 B3 B4 B5 BW2 BW3 BW4 C1 C2 C3 C4 CS
  go_wp2_with fail
  go_ret
  exact ⟨by simp, BW5⟩

set_option maxRecDepth 20000 in
set_option maxHeartbeats 4000000 in
theorem sholds_any (key s sig : ByteArray) (w : World) (hL : Ls w) :
    Calls Tryz.prog 6 #[.string key, .string s, .string sig] w fun e w' => e = .returned (.bool true) ∧ Below w.heap.size w w' := by
  have CS := shown12_any
  have C1 := verify_any key (cutT s) sig (cut_size s)
  have C2 := rverify_any key (cutT s) sig (cut_size s)
  obtain ⟨d, hd⟩ : ∃ d, veB key (cutT s) sig = d := ⟨_, rfl⟩
  rw [hd] at C1 C2
  clear hd
  go_enter Tryz.func6, Tryz.ntmps6
  go_wp2_with fail
  refine (CS _ hL).mono ?_
  rintro e w1 ⟨rfl, B1⟩
  have L1 := hL.below B1
  go_wp2_with fail
  refine (C1 _ L1).mono ?_
  rintro e w2 ⟨rfl, B2⟩
  have BW2 := belowStep B1 B1.size B2
  clear B1 B2 L1 C1 CS
  go_wp2_with fail
  refine (C2 _).mono ?_
  rintro e w3 ⟨rfl, B3⟩
  have BW3 := belowStep BW2 BW2.size B3
  clear BW2 B3 C2
  go_wp2_with fail
  go_ret
  exact ⟨by simp, BW3⟩
theorem txS.take {l : List ByteArray} {a : Option Addr} {W : World} (h : txS l a W) (k : Nat) : txS (l.take k) a W := by
  rcases h with h | ⟨B, o, e, hB, hc⟩
  · exact .inl (by rw [h, List.take_nil])
  · exact .inr ⟨B, o, e, hB, fun j x hx => hc j x (by
      rw [List.getElem?_take] at hx
      split at hx
      · exact hx
      · cases hx)⟩
set_option maxRecDepth 20000 in
set_option maxHeartbeats 4000000 in
theorem ssums_any (l : List ByteArray) (a : Option Addr) (c : Nat) (w : World) (hL : Ls w) (hT : txS l a w) (hc : l.length ≤ c) :
    Calls Tryz.prog 5 #[.slice a l.length c] w fun e w' => e = .returned (.bool true) ∧ Below w.heap.size w w' := by
  have CS := shown12_any
  obtain ⟨k, hk⟩ : ∃ k, (l.take 40).length = k := ⟨_, rfl⟩
  have hk2 : k = min l.length 40 := by rw [← hk, List.length_take, Nat.min_comm]
  have C1 : ∀ c W, txS (l.take 40) a W → Ls W → _ := fun c W h1 h2 => sum12_any (l.take 40) (by rw [hk]; omega) a c W h1 h2
  have C2 : ∀ c W, txS (l.take 40) a W → _ := fun c W h1 => rSum12_any (l.take 40) (by rw [hk]; omega) a c W h1
  rw [hk] at C1 C2
  obtain ⟨x, b, e1⟩ : ∃ x b, suV (l.take 40) = .tuple #[.string x, .int .i64 b] := by unfold suV bytV; split <;> (try split) <;> exact ⟨_, _, rfl⟩
  rw [e1] at C1 C2
  have HT : Hid (txS (l.take 40) a w) := hT.take 40
  clear hT e1 hk
  obtain ⟨N, hN⟩ : ∃ N, l.length = N := ⟨_, rfl⟩
  rw [hN] at hc hk2 ⊢
  rw [hk2] at C1 C2
  have hmin : min (N : Int) 40 = ((min N 40 : Nat) : Int) := by omega
  have hkc : min N 40 ≤ c := by omega
  clear hk2 hN
  go_enter Tryz.func5, Tryz.ntmps5
  go_wp2_with fail
  refine (CS _ hL).mono ?_
  rintro e w1 ⟨rfl, B1⟩
  have L1 := hL.below B1
  go_wp2_with fail
  refine (C1 _ _ (HT.out.below B1) L1).mono ?_
  rintro e w2 ⟨rfl, B2⟩
  have BW2 := belowStep B1 B1.size B2
  go_wp2_with fail
  refine (C2 _ _ (HT.out.below BW2)).mono ?_
  rintro e w3 ⟨rfl, B3⟩
  have BW3 := belowStep BW2 BW2.size B3
  clear B1 B2 B3 BW2 L1 C1 C2 CS HT
  go_wp2_with fail
  go_ret
  exact ⟨by simp, BW3⟩

set_option maxRecDepth 20000 in
set_option maxHeartbeats 4000000 in
theorem sall_any (l : List ByteArray) (a : Option Addr) (c : Nat) (s sig : ByteArray) (w : World) (hL : Ls w) (hT : txS l a w) (hc : l.length ≤ c) :
    Calls Tryz.prog 7 #[.slice a l.length c, .string s, .string sig] w fun e w' => e = .returned (.bool true) ∧ Below w.heap.size w w' := by
  have CS := shown12_any
  obtain ⟨k, hk⟩ : ∃ k, (l.take 40).length = k := ⟨_, rfl⟩
  have hk2 : k = min l.length 40 := by rw [← hk, List.length_take, Nat.min_comm]
  have C1 : ∀ c W, txS (l.take 40) a W → Ls W → _ := fun c W h1 h2 => all_any (l.take 40) (by rw [hk]; omega) (cutT s) sig (cut_size s) a c W h1 h2
  have C2 : ∀ c W, txS (l.take 40) a W → _ := fun c W h1 => rall_any (l.take 40) (by rw [hk]; omega) (cutT s) sig (cut_size s) a c W h1
  rw [hk] at C1 C2
  obtain ⟨d, hd⟩ : ∃ d, alB (l.take 40) (cutT s) sig = d := ⟨_, rfl⟩
  rw [hd] at C1 C2
  have HT : Hid (txS (l.take 40) a w) := hT.take 40
  clear hT hd hk
  obtain ⟨N, hN⟩ : ∃ N, l.length = N := ⟨_, rfl⟩
  rw [hN] at hc hk2 ⊢
  rw [hk2] at C1 C2
  have hmin : min (N : Int) 40 = ((min N 40 : Nat) : Int) := by omega
  have hkc : min N 40 ≤ c := by omega
  clear hk2 hN
  go_enter Tryz.func7, Tryz.ntmps7
  go_wp2_with fail
  refine (CS _ hL).mono ?_
  rintro e w1 ⟨rfl, B1⟩
  have L1 := hL.below B1
  go_wp2_with fail
  refine (C1 _ _ (HT.out.below B1) L1).mono ?_
  rintro e w2 ⟨rfl, B2⟩
  have BW2 := belowStep B1 B1.size B2
  go_wp2_with fail
  refine (C2 _ _ (HT.out.below BW2)).mono ?_
  rintro e w3 ⟨rfl, B3⟩
  have BW3 := belowStep BW2 BW2.size B3
  clear B1 B2 B3 BW2 L1 C1 C2 CS HT
  go_wp2_with fail
  go_ret
  exact ⟨by simp, BW3⟩
end Go.Proofs.YtgefjmpnpebfoaaGreatDoor
