/- Lemmas: nodeOf, behind forkOf. The items and the steps of a list of 17 under way. A list of 17 under way: the state of a round. -/
import Derived.Test.YtbpcciifaekffaaGreatDoorM1
import Derived.Test.YtbpcciifaekffaaGreatDoorM10
import Derived.Test.YtbpcciifaekffaaGreatDoorM11
import Derived.Test.YtbpcciifaekffaaGreatDoorM12
import Derived.Test.YtbpcciifaekffaaGreatDoorM13
import Derived.Test.YtbpcciifaekffaaGreatDoorM14
import Derived.Test.YtbpcciifaekffaaGreatDoorM15
import Derived.Test.YtbpcciifaekffaaGreatDoorM16
import Derived.Test.YtbpcciifaekffaaGreatDoorM17
import Derived.Test.YtbpcciifaekffaaGreatDoorM18
import Derived.Test.YtbpcciifaekffaaGreatDoorM19
import Derived.Test.YtbpcciifaekffaaGreatDoorM2
import Derived.Test.YtbpcciifaekffaaGreatDoorM20
import Derived.Test.YtbpcciifaekffaaGreatDoorM21
import Derived.Test.YtbpcciifaekffaaGreatDoorM22
import Derived.Test.YtbpcciifaekffaaGreatDoorM23
import Derived.Test.YtbpcciifaekffaaGreatDoorM24
import Derived.Test.YtbpcciifaekffaaGreatDoorM25
import Derived.Test.YtbpcciifaekffaaGreatDoorM26
import Derived.Test.YtbpcciifaekffaaGreatDoorM27
import Derived.Test.YtbpcciifaekffaaGreatDoorM28
import Derived.Test.YtbpcciifaekffaaGreatDoorM29
import Derived.Test.YtbpcciifaekffaaGreatDoorM3
import Derived.Test.YtbpcciifaekffaaGreatDoorM30
import Derived.Test.YtbpcciifaekffaaGreatDoorM31
import Derived.Test.YtbpcciifaekffaaGreatDoorM32
import Derived.Test.YtbpcciifaekffaaGreatDoorM33
import Derived.Test.YtbpcciifaekffaaGreatDoorM34
import Derived.Test.YtbpcciifaekffaaGreatDoorM35
import Derived.Test.YtbpcciifaekffaaGreatDoorM36
import Derived.Test.YtbpcciifaekffaaGreatDoorM4
import Derived.Test.YtbpcciifaekffaaGreatDoorM6
import Derived.Test.YtbpcciifaekffaaGreatDoorM7
import Derived.Test.YtbpcciifaekffaaGreatDoorM8
import Derived.Test.YtbpcciifaekffaaGreatDoorM9
import Derived.Test.YtbpcciifaekffaaGreatDoorRows
namespace Go.Proofs.YtbpcciifaekffaaGreatDoor
open Go.RowKit Go.Shelf Go.Sort

/-- nodeOf's contract, at so much fuel. -/
def NdC (f : Nat) : Prop := ∀ (d : Nat) (es : List Pr), 129 ≤ f + d → Ok d es → ∀ (b o c : Nat) (w : World), Laid w → b < w.heap.size → es.length ≤ c → prs w b o es →
  Calls Tryz.prog 39 #[.slice (some ⟨b, o, none⟩) es.length c, .int .i64 d] w fun e w' => Below w.heap.size w w' ∧ ∃ b', e = .returned (.pointer (some ⟨b', 0, none⟩)) ∧ ndIn (fun k => w.heap.size ≤ k ∧ k < w'.heap.size) w' b' (ndF f d es)
/-- forkOf's, where the parts' nodes have so much. -/
def FkC (f : Nat) : Prop := ∀ (d : Nat) (es : List Pr), 129 ≤ f + 1 + d → Ok d es → 2 ≤ es.length → tbI (fkN (ndF f (d + 1)) d es).x ≤ 1000000 → ∀ (b o c : Nat) (w : World), Laid w → b < w.heap.size → es.length ≤ c → prs w b o es →
  Calls Tryz.prog 68 #[.slice (some ⟨b, o, none⟩) es.length c, .int .i64 d] w fun e w' => Below w.heap.size w w' ∧ ∃ b', e = .returned (.pointer (some ⟨b', 0, none⟩)) ∧ ndIn (fun k => w.heap.size ≤ k ∧ k < w'.heap.size) w' b' (fkN (ndF f (d + 1)) d es)

/-- What holds while a statement runs. -/
structure BrK (w9 : World) (p1 : ByteArray) (a d da N b o c : Nat) (nd : Nd) (S : Nat → Bool) (x37 x38 x39 x40 x41 x42 x43 x44 : Value) (W : World) : Prop where
  e : Below w9.heap.size w9 W
  f0 : S 0 = true → x37 = Value.string p1
  f1 : S 1 = true → x38 = Value.int .i64 (a : Int)
  f2 : S 2 = true → x39 = Value.string (p1.extract 0 a)
  f3 : S 3 = true → x40 = Value.slice (some ⟨b, o, none⟩) N c
  f4 : S 4 = true → x41 = Value.int .i64 (d : Int)
  f5 : S 5 = true → x42 = Value.int .i64 (a : Int)
  f6 : S 6 = true → x43 = Value.int .i64 (da : Int)
  f7 : S 7 = true → ∃ b', x44 = .pointer (some ⟨b', 0, none⟩) ∧ ndIn (fun k => w9.heap.size ≤ k ∧ k < W.heap.size) W b' nd
theorem BrK.grow {w9 : World} {p1 : ByteArray} {a d da N b o c : Nat} {nd : Nd} {S : Nat → Bool} {x37 x38 x39 x40 x41 x42 x43 x44 : Value} {W W' : World} (h : BrK w9 p1 a d da N b o c nd S x37 x38 x39 x40 x41 x42 x43 x44 W) (hb : Below W.heap.size W W') : BrK w9 p1 a d da N b o c nd S x37 x38 x39 x40 x41 x42 x43 x44 W' :=
  ⟨belowStep h.e h.e.size hb, h.f0, h.f1, h.f2, h.f3, h.f4, h.f5, h.f6, fun s => (let ⟨b', h1, h2⟩ := (h.f7 s); ⟨b', h1, ndIn_of (fun k hk => ⟨⟨hk.1, Nat.lt_of_lt_of_le hk.2 hb.size⟩, hb.block k hk.2⟩) _ _ h2⟩)⟩
set_option maxRecDepth 20000 in
set_option maxHeartbeats 2000000 in
theorem node_step (f : Nat) (KF : FkC f) (KN : NdC f) : NdC (f + 1) := by
  intro d es hf hok b o c w hl hb hcap hp
  have hN := hok.few
  have hN1 := hok.pos
  obtain ⟨e, he⟩ : ∃ e, es[0]? = some e := ⟨es[0]'(by omega), List.getElem?_eq_getElem (by omega)⟩
  obtain ⟨g, hg⟩ : ∃ g, es[es.length - 1]? = some g := ⟨es[es.length - 1]'(by omega), List.getElem?_eq_getElem (by omega)⟩
  have se := hok.sz _ e he
  have sg := hok.sz _ g hg
  have pe := hp _ e he
  have pge := hp _ g hg
  have htl : (tl d e).size ≤ 128 := by rw [tl_size]; omega
  have htl2 : (tl d g).size ≤ 128 := by rw [tl_size]; omega
  have HFC : Hid (FkC f) := KF
  have HNC : Hid (NdC f) := KN
  clear KF KN
  obtain ⟨N, hNe⟩ : ∃ N, es.length = N := ⟨_, rfl⟩
  obtain ⟨M, hM⟩ : ∃ M, es.length - 1 = M := ⟨_, rfl⟩
  rw [hM] at hg pge
  have HL : Hid (es.length = N) := hNe
  rw [hNe] at hN hN1 hM hcap ⊢
  clear hNe
  obtain ⟨r, hr⟩ : ∃ x, o + 2 * M = x := ⟨_, rfl⟩
  rw [hr] at pge
  have hr2 : o + M * 2 = r := by omega
  have l1 : (0 : Int) < N := by omega
  have l2 : (M : Int) < N := by omega
  have l3 : (N : Int) - 1 = M := by omega
  have l4 : IntKind.i64.wrap (M : Int) = M := by rw [IntKind.wrap_i64]; omega
  have ld : (d : Int) ≤ e.1.size := by omega
  have ld2 : (d : Int) ≤ g.1.size := by omega
  have c0 : w.cell? ⟨b, o, none⟩ = some (.string e.1) := pe.1
  have c1 : w.cell? ⟨b, o + 1, none⟩ = some (.string e.2) := pe.2
  have c2 := pge.1
  have q0 : ∀ u os, (grow (redrawn w u) os).cell? ⟨b, o, none⟩ = some (.string e.1) := fun u os => ((below_regrown w u os).cell (p := ⟨b, o, none⟩) hb).trans c0
  have q1 : ∀ u os, (grow (redrawn w u) os).cell? ⟨b, r, none⟩ = some (.string g.1) := fun u os => ((below_regrown w u os).cell (p := ⟨b, r, none⟩) hb).trans c2
  go_enter Tryz.func39, Tryz.ntmps39
  go_wp2_with fail
  refine wp_region_quiet_below (by kernel_rfl) (by kernel_rfl) ?_
  repeat (go_big_quiet_step (fail))
  refine wpQuiet_nil ?_
  intro w8 hw8
  have B8 : Below w.heap.size w w8 := by
    obtain ⟨p, rfl⟩ := hw8
    exact below_regrown _ _ _
  have c1' := (B8.cell (p := ⟨b, o + 1, none⟩) hb).trans c1
  have hp8 := prs_below B8 hb hp
  have hl8 := hl.below B8
  have hb8 := Nat.lt_of_lt_of_le hb B8.size
  clear hw8 q0 q1 c0 c1 c2 pe pge
  obtain ⟨p1, t1⟩ : ∃ p, e.1.extract d e.1.size = p := ⟨_, rfl⟩
  obtain ⟨p2, t2⟩ : ∃ p, g.1.extract d g.1.size = p := ⟨_, rfl⟩
  rw [show tl d e = p1 from t1] at htl
  rw [show tl d g = p2 from t2] at htl2
  rw [t1, t2]
  have HT : Hid (tl d e = p1 ∧ tl d g = p2) := ⟨t1, t2⟩
  clear t1 t2
  by_cases h1 : N = 1
  · have l5 : ((N : Int) == 1) = true := by rw [h1]; rfl
    have KL := leafOf_any p1 e.2 (by omega) se.2.2 w8
    have HE : Hid (ndF (f + 1) d es = lfN p1 e.2) := by
      have h2 := HL.out
      rw [h1] at h2
      obtain ⟨x, hx⟩ := List.length_eq_one_iff.1 h2
      rw [hx] at he ⊢
      cases he
      show lfN (tl d e) e.2 = _
      rw [HT.out.1]
    subst h1
    go_wp2_with fail
    refine KL.mono ?_
    rintro e' w9 ⟨B9, b', rfl, hnd⟩
    have BW := belowStep B8 B8.size B9
    have hs8 := B8.size
    have HF : Hid (_ ∧ _) := ⟨BW, hnd⟩
    clear KL B9 BW hnd c1' hp8 hl8
    go_wp2
    go_ret
    refine ⟨HF.out.1, b', rfl, ?_⟩
    rw [HE.out]
    exact ndIn_mono (fun k hk => ⟨by omega, hk.2⟩) _ _ HF.out.2
  · have l5 : ((N : Int) == 1) = false := by rw [beq_eq_false_iff_ne]; omega
    have KC := common_any p1 p2 (by omega) w8
    have HX : Hid (∃ e2 r, es = e :: e2 :: r ∧ (e2 :: r).getLastD e2 = g) := by
      have h2 := HL.out
      match es, he, hg, h2 with
      | [x], _, _, h2 => exact absurd h2.symm h1
      | x :: e2 :: r, he, hg, h2 =>
        cases he
        refine ⟨e2, r, rfl, ?_⟩
        have h3 := last_at e e2 r
        rw [h2, hM, hg] at h3
        injection h3 with h3
        exact h3.symm
    have htb := (nd_tb (f + 1) (f + 1) (Nat.le_refl _) d es hok).1
    have hspec := common_spec p1 p2
    have hok2 := common_ok hok he (by rw [HL.out, hM]; exact hg)
    have htb2 := fun d' h => (nd_tb f f (Nat.le_refl _) d' es h).1
    rw [HL.out] at htb htb2
    rw [HT.out.1, HT.out.2] at hok2
    obtain ⟨a, ha⟩ : ∃ a, common p1 p2 = a := ⟨_, rfl⟩
    rw [ha] at KC hspec hok2
    go_wp2_with fail
    refine KC.mono ?_
    rintro e' w9 ⟨rfl, B9⟩
    have BW := belowStep B8 B8.size B9
    have hs9 := BW.size
    have hp9 := prs_below BW hb hp
    have hl9 := hl.below BW
    have hb9 := Nat.lt_of_lt_of_le hb hs9
    clear KC B9 B8 c1' hp8 hl8 hb8
    by_cases h0 : a = 0
    · have l6 : ¬ (0 : Int) < a := by omega
      have HE : Hid (ndF (f + 1) d es = fkN (ndF f (d + 1)) d es) := by
        obtain ⟨e2, r', h2, h3⟩ := HX.out
        rw [h2]
        exact nd_fork f d e e2 r' (by rw [h3, HT.out.1, HT.out.2, ha, h0])
      have KK := HFC.out d es hf hok (by rw [HL.out]; omega) (by rw [← HE.out]; omega) b o c w9 hl9 hb9 (by rw [HL.out]; exact hcap) hp9
      rw [HL.out] at KK
      subst h0
      have HW : Hid (_ ∧ _) := ⟨BW, hs9⟩
      clear BW hspec hok2 htb htb2 hl9 hp9
      go_wp2_with fail
      refine KK.mono ?_
      rintro e' w10 ⟨B10, b', rfl, hnd⟩
      have HF : Hid (_ ∧ _) := ⟨B10, hnd⟩
      clear KK B10 hnd
      go_wp2
      go_ret
      refine ⟨belowStep HW.out.1 hs9 HF.out.1, b', rfl, ?_⟩
      rw [HE.out]
      exact ndIn_mono (fun k hk => ⟨by omega, hk.2⟩) _ _ HF.out.2
    · have l6 : (0 : Int) < a := by omega
      have l7 : (a : Int) ≤ p1.size := by omega
      have l8 : (d : Int) + a = ((d + a : Nat) : Int) := by omega
      have l9 : IntKind.i64.wrap ((d + a : Nat) : Int) = ((d + a : Nat) : Int) := by rw [IntKind.wrap_i64]; omega
      have HE : Hid (ndF (f + 1) d es = brN (p1.extract 0 a) (ndF f (d + a) es)) := by
        obtain ⟨e2, r', h2, h3⟩ := HX.out
        rw [h2, ← HT.out.1]
        exact nd_bridge f d e e2 r' a (by rw [h3, HT.out.1, HT.out.2, ha]) h0
      have KK := fun W (hB : Below w9.heap.size w9 W) => HNC.out (d + a) es (by omega) hok2 b o c W (hl9.below hB) (Nat.lt_of_lt_of_le hb9 hB.size) (by rw [HL.out]; exact hcap) (prs_below hB hb9 hp9)
      rw [HL.out] at KK
      have h2 := htb2 (d + a) hok2
      have HW : Hid (_ ∧ _ ∧ _) := ⟨BW, h2, hl9⟩
      clear BW hspec hok2 htb htb2 hl9 hp9 h2
      obtain ⟨da, hda⟩ : ∃ x, d + a = x := ⟨_, rfl⟩
      rw [hda] at KK l8 l9 HE HW
      obtain ⟨nd, hnd0⟩ : ∃ x, ndF f da es = x := ⟨_, rfl⟩
      rw [hnd0] at KK HE HW
      go_wp2_with fail
      rw [show decide (0 < a) = true from decide_eq_true (by omega)]
      refine region_inv_tail 8 (fun S aa W => ∃ x37 x38 x39 x40 x41 x42 x43 x44 : Value, aa = { tmps := #[Value.slice (some ⟨b, o, none⟩) N c, Value.int IntKind.i64 (d : Int), undef, undef, Value.pointer none, Value.string p1, Value.string p2, Value.int IntKind.i64 (a : Int), Value.slice (some ⟨b, o, none⟩) N c, Value.pointer (some ⟨b, o, none⟩), Value.pointer (some ⟨b, o, none⟩), Value.string e.fst, Value.int IntKind.i64 (d : Int), Value.string p1, Value.slice (some ⟨b, o, none⟩) N c, Value.slice (some ⟨b, o, none⟩) N c, Value.int IntKind.i64 (N : Int), Value.int IntKind.i64 (M : Int), Value.pointer (some ⟨b, r, none⟩), Value.pointer (some ⟨b, r, none⟩), Value.string g.fst, Value.int IntKind.i64 (d : Int), Value.string p2, Value.slice (some ⟨b, o, none⟩) N c, Value.int IntKind.i64 (N : Int), Value.bool false, undef, undef, undef, undef, undef, undef, Value.string p1, Value.string p2, Value.int IntKind.i64 (a : Int), Value.int IntKind.i64 (a : Int), Value.bool (true), x37, x38, x39, x40, x41, x42, x43, x44, undef, undef, undef, undef], defers := [] } ∧ BrK w9 p1 a d da N b o c nd S x37 x38 x39 x40 x41 x42 x43 x44 W) (by kernel_rfl) (by kernel_rfl) ?_ ?_ ?_
      · exact ⟨undef, undef, undef, undef, undef, undef, undef, undef, rfl, ⟨(Below.refl _ w9).drew, nofun, nofun, nofun, nofun, nofun, nofun, nofun, nofun⟩⟩
      · intro i o S aa W hin hi hun hJ hall K hK
        obtain ⟨x37, x38, x39, x40, x41, x42, x43, x44, rfl, h⟩ := hJ
        have hlt : i < 8 := hin
        have hcase : i = 0 ∨ i = 1 ∨ i = 2 ∨ i = 3 ∨ i = 4 ∨ i = 5 ∨ i = 6 ∨ i = 7 := by omega
        rcases hcase with rfl | rfl | rfl | rfl | rfl | rfl | rfl | rfl
        all_goals (have ho := (Option.some.inj hi).symm; subst ho; clear hi hlt hin)
        · go_simp
          exact hK _ _ ⟨_, x38, x39, x40, x41, x42, x43, x44, rfl, ⟨h.e, fun _ => rfl, h.f1, h.f2, h.f3, h.f4, h.f5, h.f6, h.f7⟩⟩
        · go_simp
          exact hK _ _ ⟨x37, _, x39, x40, x41, x42, x43, x44, rfl, ⟨h.e, h.f0, fun _ => rfl, h.f2, h.f3, h.f4, h.f5, h.f6, h.f7⟩⟩
        · have s_0 : S 0 = true := hall ⟨0, .data⟩ (by simp) rfl
          obtain rfl := h.f0 s_0
          have s_1 : S 1 = true := hall ⟨1, .data⟩ (by simp) rfl
          obtain rfl := h.f1 s_1
          go_simp
          exact hK _ _ ⟨_, _, _, x40, x41, x42, x43, x44, rfl, ⟨h.e, h.f0, h.f1, fun _ => rfl, h.f3, h.f4, h.f5, h.f6, h.f7⟩⟩
        · go_simp
          exact hK _ _ ⟨x37, x38, x39, _, x41, x42, x43, x44, rfl, ⟨h.e, h.f0, h.f1, h.f2, fun _ => rfl, h.f4, h.f5, h.f6, h.f7⟩⟩
        · go_simp
          exact hK _ _ ⟨x37, x38, x39, x40, _, x42, x43, x44, rfl, ⟨h.e, h.f0, h.f1, h.f2, h.f3, fun _ => rfl, h.f5, h.f6, h.f7⟩⟩
        · go_simp
          exact hK _ _ ⟨x37, x38, x39, x40, x41, _, x43, x44, rfl, ⟨h.e, h.f0, h.f1, h.f2, h.f3, h.f4, fun _ => rfl, h.f6, h.f7⟩⟩
        · have s_4 : S 4 = true := hall ⟨4, .data⟩ (by simp) rfl
          obtain rfl := h.f4 s_4
          have s_5 : S 5 = true := hall ⟨5, .data⟩ (by simp) rfl
          obtain rfl := h.f5 s_5
          go_simp
          exact hK _ _ ⟨x37, x38, x39, x40, _, _, _, x44, rfl, ⟨h.e, h.f0, h.f1, h.f2, h.f3, h.f4, h.f5, fun _ => rfl, h.f7⟩⟩
        · have s_3 : S 3 = true := hall ⟨3, .data⟩ (by simp) rfl
          obtain rfl := h.f3 s_3
          have s_6 : S 6 = true := hall ⟨6, .data⟩ (by simp) rfl
          obtain rfl := h.f6 s_6
          go_simp
          refine (KK W h.e).mono ?_
          rintro e' w3 ⟨hb3, b3, rfl, hn3⟩
          have h1 := h.grow hb3
          have hsz := h.e.size
          exact hK _ _ ⟨x37, x38, x39, _, x41, x42, _, _, rfl, ⟨h1.e, h1.f0, h1.f1, h1.f2, h1.f3, h1.f4, h1.f5, h1.f6, fun _ => ⟨b3, rfl, ndIn_mono (fun k hk => ⟨Nat.le_trans hsz hk.1, hk.2⟩) _ _ hn3⟩⟩⟩
      · rintro S aa W hall ⟨x37, x38, x39, x40, x41, x42, x43, x44, rfl, h⟩
        obtain rfl := h.f0 (hall 0 (by decide))
        obtain rfl := h.f1 (hall 1 (by decide))
        obtain rfl := h.f2 (hall 2 (by decide))
        obtain rfl := h.f3 (hall 3 (by decide))
        obtain rfl := h.f4 (hall 4 (by decide))
        obtain rfl := h.f5 (hall 5 (by decide))
        obtain rfl := h.f6 (hall 6 (by decide))
        obtain ⟨b7, rfl, hn7⟩ := h.f7 (hall 7 (by decide))
        have BWD := h.e
        clear h hall
        have hs9' := BWD.size
        obtain ⟨BW, h2, hl9⟩ := HW.out
        have KB := bridgeOf_any (p1.extract 0 a) nd (by rw [ByteArray.size_extract]; omega) (by have := refI_tb _ _ h2 (by omega); omega) b7 _ W (hl9.below BWD) (Nat.le_trans (eS_size _) (by omega)) (fun k hk => hk.2) hn7
        have HW2 : Hid (_ ∧ _) := ⟨BW, BWD⟩
        clear BWD h2 hl9 BW hn7
        go_wp2_with fail
        refine KB.mono ?_
        rintro e' w10 ⟨B10, b', rfl, hnd⟩
        have HF : Hid (_ ∧ _) := ⟨B10, hnd⟩
        clear KB B10 hnd
        go_wp2
        go_ret
        obtain ⟨BW, BWD⟩ := HW2.out
        have hs10 := HF.out.1.size
        refine ⟨belowStep BW BW.size (belowStep BWD hs9' HF.out.1), b', rfl, ?_⟩
        rw [HE.out]
        exact ndIn_mono (fun k hk => hk.elim (fun h => ⟨by omega, by omega⟩) fun h => ⟨by omega, h.2⟩) _ _ HF.out.2
end Go.Proofs.YtbpcciifaekffaaGreatDoor
namespace Go.Proofs.YtbpcciifaekffaaGreatDoor
open Go.RowKit Go.Shelf Go.Sort

/-- The 17 items, in a row of their own. -/
def ItsIn (bI : Nat) (p : Nat → Prop) (W : World) (l : List It) : Prop := ∃ (cl : List Value) (ims : List Im), W.ownsRow bI 47 3 (.slice (some ⟨bI, 0, none⟩) 17 17) 17 cl ∧ Held cl ims ∧ ims.length = 17 ∧ ers ims = l ∧ ∀ y, y ∈ ims → inP p W y
theorem its_new {W : World} {bI : Nat} (p : Nat → Prop) (h : W.ownsRow bI 47 3 (.slice (some ⟨bI, 0, none⟩) 17 17) 17 (madeCells (Value.agg #[.bool false, .string ⟨#[]⟩, .slice none 0 0]).cells (17 * 3)).toList) : ItsIn bI p W (List.replicate 16 zIt ++ [.mk false ⟨#[]⟩ []]) := by
  refine ⟨_, List.replicate 17 zeroI, h, ?_, by simp, rfl, fun y hy => ?_⟩
  · intro j x hx
    have hj := (List.getElem?_eq_some_iff.1 hx).1
    match j, hx with
    | 0, h => cases h; exact ⟨by simp [madeCells]; rfl, by simp [madeCells]; rfl, by simp [madeCells]; rfl⟩
    | 1, h => cases h; exact ⟨by simp [madeCells]; rfl, by simp [madeCells]; rfl, by simp [madeCells]; rfl⟩
    | 2, h => cases h; exact ⟨by simp [madeCells]; rfl, by simp [madeCells]; rfl, by simp [madeCells]; rfl⟩
    | 3, h => cases h; exact ⟨by simp [madeCells]; rfl, by simp [madeCells]; rfl, by simp [madeCells]; rfl⟩
    | 4, h => cases h; exact ⟨by simp [madeCells]; rfl, by simp [madeCells]; rfl, by simp [madeCells]; rfl⟩
    | 5, h => cases h; exact ⟨by simp [madeCells]; rfl, by simp [madeCells]; rfl, by simp [madeCells]; rfl⟩
    | 6, h => cases h; exact ⟨by simp [madeCells]; rfl, by simp [madeCells]; rfl, by simp [madeCells]; rfl⟩
    | 7, h => cases h; exact ⟨by simp [madeCells]; rfl, by simp [madeCells]; rfl, by simp [madeCells]; rfl⟩
    | 8, h => cases h; exact ⟨by simp [madeCells]; rfl, by simp [madeCells]; rfl, by simp [madeCells]; rfl⟩
    | 9, h => cases h; exact ⟨by simp [madeCells]; rfl, by simp [madeCells]; rfl, by simp [madeCells]; rfl⟩
    | 10, h => cases h; exact ⟨by simp [madeCells]; rfl, by simp [madeCells]; rfl, by simp [madeCells]; rfl⟩
    | 11, h => cases h; exact ⟨by simp [madeCells]; rfl, by simp [madeCells]; rfl, by simp [madeCells]; rfl⟩
    | 12, h => cases h; exact ⟨by simp [madeCells]; rfl, by simp [madeCells]; rfl, by simp [madeCells]; rfl⟩
    | 13, h => cases h; exact ⟨by simp [madeCells]; rfl, by simp [madeCells]; rfl, by simp [madeCells]; rfl⟩
    | 14, h => cases h; exact ⟨by simp [madeCells]; rfl, by simp [madeCells]; rfl, by simp [madeCells]; rfl⟩
    | 15, h => cases h; exact ⟨by simp [madeCells]; rfl, by simp [madeCells]; rfl, by simp [madeCells]; rfl⟩
    | 16, h => cases h; exact ⟨by simp [madeCells]; rfl, by simp [madeCells]; rfl, by simp [madeCells]; rfl⟩
    | j + 17, h => simp at hj; omega
  · rw [(List.mem_replicate.1 hy).2]
    exact trivial
theorem Held.put {cl : List Value} {ys : List Im} (h : Held cl ys) (k : Nat) (y : Im) (hl : cl.length = 3 * ys.length) : Held (((cl.set (3 * k) (.bool y.l)).set (3 * k + 1) (.string y.t)).set (3 * k + 2) y.sl) (ys.set k y) := by
  intro j x hx
  have hj := (List.getElem?_eq_some_iff.1 hx).1
  rw [List.length_set] at hj
  by_cases e : k = j
  · subst e
    rw [List.getElem?_set_self hj] at hx
    cases hx
    refine ⟨?_, ?_, ?_⟩
    · rw [List.getElem?_set_ne (by omega), List.getElem?_set_ne (by omega), List.getElem?_set_self (by omega)]
    · rw [List.getElem?_set_ne (by omega), List.getElem?_set_self (by simp; omega)]
    · rw [List.getElem?_set_self (by simp; omega)]
  · rw [List.getElem?_set_ne e] at hx
    have := h j x hx
    rw [List.getElem?_set_ne (by omega), List.getElem?_set_ne (by omega), List.getElem?_set_ne (by omega), List.getElem?_set_ne (by omega), List.getElem?_set_ne (by omega), List.getElem?_set_ne (by omega), List.getElem?_set_ne (by omega), List.getElem?_set_ne (by omega), List.getElem?_set_ne (by omega)]
    exact this
/-- They are kept by what writes elsewhere. -/
theorem ItsIn.own {bI : Nat} {p q : Nat → Prop} {A C : World} {l : List It} {row : Option Nat} (h : ItsIn bI p A l) (hg : A.grownBy C row) (hr : row ≠ some bI) (hp : ∀ b, p b → q b ∧ b < A.heap.size ∧ some b ≠ row) : ItsIn bI q C l := by
  obtain ⟨cl, ims, h1, h2, h3, h4, h5⟩ := h
  refine ⟨cl, ims, h1.kept hg (.inr fun e => hr e.symm), h2, h3, h4, fun y hy => inP_of (fun b hb => ⟨(hp b hb).1, fun k => ?_⟩) y (h5 y hy)⟩
  exact World.cell?_of_block (w := A) (a := ⟨b, k, none⟩) (hg.block b (hp b hb).2.1 (hp b hb).2.2)
theorem ItsIn.lt {bI : Nat} {p : Nat → Prop} {W : World} {l : List It} (h : ItsIn bI p W l) : bI < W.heap.size := by
  obtain ⟨cl, ims, h1, _⟩ := h
  exact (h1.lt bI rfl).2
theorem ItsIn.put {bI : Nat} {p : Nat → Prop} {W : World} {l : List It} (h : ItsIn bI p W l) (hp : ∀ b, p b → b ≠ bI) (k : Nat) (im : Im) (hi : inP p W im) :
    ItsIn bI p (((W.setCell ⟨bI, 3 * k, none⟩ (.bool im.l)).setCell ⟨bI, 3 * k + 1, none⟩ (.string im.t)).setCell ⟨bI, 3 * k + 2, none⟩ im.sl) (l.set k (er im)) := by
  obtain ⟨cl, ims, h1, h2, h3, h4, h5⟩ := h
  have keep : ∀ y, inP p W y → inP p (((W.setCell ⟨bI, 3 * k, none⟩ (.bool im.l)).setCell ⟨bI, 3 * k + 1, none⟩ (.string im.t)).setCell ⟨bI, 3 * k + 2, none⟩ im.sl) y := fun y hy =>
    inP_of (fun b hb => ⟨hb, fun j => by
      have := hp b hb
      rw [cell_ne _ _ _ _ _ (by show b ≠ bI; exact this), cell_ne _ _ _ _ _ (by show b ≠ bI; exact this), cell_ne _ _ _ _ _ (by show b ≠ bI; exact this)]⟩) y hy
  refine ⟨_, ims.set k im, ((((h1.stored (3 * k) _).1).stored (3 * k + 1) _).1.stored (3 * k + 2) _).1, h2.put k im (by rw [h1.1, h3]), by rw [List.length_set]; exact h3, ?_, fun y hy => ?_⟩
  · rw [ers_map, List.map_set, ← ers_map, h4]
  · rcases List.mem_or_eq_of_mem_set hy with h | rfl
    · exact keep y (h5 y h)
    · exact keep y hi
/-- The cells, for a store. -/
theorem ItsIn.cell {bI : Nat} {p : Nat → Prop} {W : World} {l : List It} (h : ItsIn bI p W l) (q : Nat) (hq : q < 51) : (∃ v, W.cell? ⟨bI, q, none⟩ = some v) ∧ W.frozen? ⟨bI, q, none⟩ = false := by
  obtain ⟨cl, ims, h1, _⟩ := h
  refine ⟨?_, h1.frozenAt q⟩
  rw [h1.cellAt q (by omega)]
  exact ⟨_, List.getElem?_eq_getElem (by rw [h1.1]; omega)⟩
/-- As a row of items. -/
theorem ItsIn.row {bI n : Nat} {p : Nat → Prop} {W : World} {l : List It} (h : ItsIn bI p W l) (hb : bI < n) (hp : ∀ b, p b → b < n) : ∃ ims : List Im, ims.length = 17 ∧ ers ims = l ∧ rowMem n W (some ⟨bI, 0, none⟩) 0 ims := by
  obtain ⟨cl, ims, h1, h2, h3, h4, h5⟩ := h
  refine ⟨ims, h3, h4, ?_⟩
  have key : ∀ (r : List Im) (i : Nat), ims.drop i = r → rowMem n W (some ⟨bI, 0, none⟩) i r := by
    intro r
    induction r with
    | nil => intro i _; trivial
    | cons y r ih =>
      intro i hi
      have hyi : ims[i]? = some y := by
        have := congrArg (·[0]?) hi
        simpa using this
      have hil := (List.getElem?_eq_some_iff.1 hyi).1
      obtain ⟨e0, e1, e2⟩ := h2 i y hyi
      refine ⟨⟨bI, 0, hb, rfl, ?_, ?_, ?_⟩, inMem_of hp y (h5 y (List.mem_of_getElem? hyi)), ih (i + 1) ?_⟩
      · rw [show 0 + 3 * i = 3 * i by omega, h1.cellAt _ (by omega)]; exact e0
      · rw [show 0 + 3 * i + 1 = 3 * i + 1 by omega, h1.cellAt _ (by omega)]; exact e1
      · rw [show 0 + 3 * i + 2 = 3 * i + 2 by omega, h1.cellAt _ (by omega)]; exact e2
      · rw [← List.drop_drop, hi]
        rfl
  exact key ims 0 rfl

/-- The steps' cells. -/
def sC (ks : List (Int × Nd)) (bs : List Nat) : List Value := (List.zip ks bs).flatMap fun x => [.string (oneB x.1.1), .pointer (some ⟨x.2, 0, none⟩)]
theorem sC_snoc (ks : List (Int × Nd)) (bs : List Nat) (k : Int × Nd) (b : Nat) (h : ks.length = bs.length) : sC (ks ++ [k]) (bs ++ [b]) = sC ks bs ++ [.string (oneB k.1), .pointer (some ⟨b, 0, none⟩)] := by
  unfold sC
  rw [List.zip_append h]
  simp
/-- The steps, in a row that is owned; the nodes that they lead to. -/
def StsIn (z : Nat) (p : Nat → Prop) (W : World) (sv : Value) (ks : List (Int × Nd)) : Prop := ∃ bs : List Nat, bs.length = ks.length ∧ W.ownsRow z 97 2 sv ks.length (sC ks bs) ∧ ∀ (j : Nat) (k : Int × Nd) (b : Nat), ks[j]? = some k → bs[j]? = some b → ndIn p W b k.2
theorem sC_at : ∀ (ks : List (Int × Nd)) (bs : List Nat) (j : Nat) (k : Int × Nd) (b : Nat), ks[j]? = some k → bs[j]? = some b → (sC ks bs)[2 * j]? = some (.string (oneB k.1)) ∧ (sC ks bs)[2 * j + 1]? = some (.pointer (some ⟨b, 0, none⟩))
  | [], _, _, _, _, h, _ => by cases h
  | _ :: _, [], _, _, _, _, h => by cases h
  | a :: r, c :: s, 0, k, b, h, h' => by
    cases h
    cases h'
    exact ⟨rfl, rfl⟩
  | a :: r, c :: s, j + 1, k, b, h, h' => by
    have := sC_at r s j k b h h'
    have e1 : sC (a :: r) (c :: s) = .string (oneB a.1) :: .pointer (some ⟨c, 0, none⟩) :: sC r s := rfl
    rw [e1, show 2 * (j + 1) = 2 * j + 1 + 1 by omega, List.getElem?_cons_succ, List.getElem?_cons_succ, List.getElem?_cons_succ, List.getElem?_cons_succ]
    exact this
theorem StsIn.own {z : Nat} {p q : Nat → Prop} {A C : World} {sv : Value} {ks : List (Int × Nd)} {row : Option Nat} (h : StsIn z p A sv ks) (hg : A.grownBy C row) (hr : sv.ownBlock = none ∨ sv.ownBlock ≠ row) (hp : ∀ b, p b → q b ∧ b < A.heap.size ∧ some b ≠ row) : StsIn z q C sv ks := by
  obtain ⟨bs, h1, h2, h3⟩ := h
  exact ⟨bs, h1, h2.kept hg hr, fun j k b hk hb => ndIn_of (fun b' hb' => ⟨(hp b' hb').1, hg.block b' (hp b' hb').2.1 (hp b' hb').2.2⟩) _ _ (h3 j k b hk hb)⟩
/-- Steps of a list. -/
def stL : List (Int × Nd) → Sts
  | [] => .nil
  | k :: r => .cons (oneB k.1) k.2 (stL r)
theorem stL_snoc : ∀ (ks : List (Int × Nd)) (k : Int × Nd), stL (ks ++ [k]) = (stL ks).snoc (oneB k.1) k.2
  | [], _ => rfl
  | a :: r, k => by
    show Sts.cons _ _ (stL (r ++ [k])) = Sts.cons _ _ ((stL r).snoc _ _)
    rw [stL_snoc r k]
theorem fold_stL : ∀ (r ks : List (Int × Nd)), r.foldl (fun s k => s.snoc (oneB k.1) k.2) (stL ks) = stL (ks ++ r)
  | [], ks => by simp
  | k :: r, ks => by
    rw [List.foldl_cons, ← stL_snoc, fold_stL r (ks ++ [k]), List.append_assoc]
    rfl
theorem fkS_stL (ks : List (Int × Nd)) : fkS ks = stL ks := fold_stL ks []
theorem stL_len : ∀ ks : List (Int × Nd), (stL ks).len = ks.length
  | [] => rfl
  | _ :: r => by
    show (stL r).len + 1 = r.length + 1
    rw [stL_len r]
theorem StsIn.steps {z : Nat} {p : Nat → Prop} {W : World} {sv : Value} {ks : List (Int × Nd)} (h : StsIn z p W sv ks) : ∃ a c, sv = .slice a (fkS ks).len c ∧ stIn (fun b => p b ∨ sv.ownBlock = some b) W a 0 (fkS ks) := by
  rw [fkS_stL, stL_len]
  obtain ⟨bs, h1, h2, h3⟩ := h
  rcases h2.2 with ⟨h, h0⟩ | ⟨g, c, cur, h, hx⟩
  · have : ks = [] := List.length_eq_zero_iff.1 h0
    subst this
    exact ⟨none, 0, h, trivial⟩
  · subst h
    refine ⟨_, c, rfl, ?_⟩
    have key : ∀ (r : List (Int × Nd)) (i : Nat), ks.drop i = r → stIn (fun b => p b ∨ some g = some b) W (some ⟨g, 0, none⟩) i (stL r) := by
      intro r
      induction r with
      | nil => intro i _; trivial
      | cons k r ih =>
        intro i hi
        have hki : ks[i]? = some k := by
          have := congrArg (·[0]?) hi
          simpa using this
        have hil := (List.getElem?_eq_some_iff.1 hki).1
        obtain ⟨b, hb⟩ : ∃ b, bs[i]? = some b := ⟨bs[i]'(by omega), List.getElem?_eq_getElem (by omega)⟩
        obtain ⟨e0, e1⟩ := sC_at ks bs i k b hki hb
        refine ⟨⟨g, 0, b, .inr rfl, rfl, ?_, ?_, ndIn_mono (fun _ h => .inl h) _ _ (h3 i k b hki hb)⟩, ih (i + 1) ?_⟩
        · rw [show 0 + 2 * i = 2 * i by omega, h2.cellAt _ (by omega)]; exact e0
        · rw [show 0 + 2 * i + 1 = 2 * i + 1 by omega, h2.cellAt _ (by omega)]; exact e1
        · rw [← List.drop_drop, hi]
          rfl
    exact key ks 0 rfl
end Go.Proofs.YtbpcciifaekffaaGreatDoor
namespace Go.Proofs.YtbpcciifaekffaaGreatDoor
open Go.RowKit Go.Shelf Go.Sort

/-- A head in any order, a tail in order, in a round. -/
theorem region_inv_tail_in {P : Program} (l' n' n : Nat) {id : Nat} {Q : Exit → Act → World → Prop} {a : Act} {w : World} {l : List Oper} (hL : ¬ LetsOut Q) (hnd : noDefer l.toArray = true) (J : (Nat → Bool) → Act → World → Prop) (hm : P.follows .mixedOrders = true)
    (hB : invTailB l.toArray n = true) (h0 : J (fun _ => false) a w.drew)
    (step : ∀ i o S a W, i < n → l[i]? = some o → S i = false → J S a W → (∀ e ∈ o.after, Region.binds .any e = true → S e.on = true) → ∀ K : Act → World → Prop, (∀ a W, J (more S i) a W → K a W) →
      if Region.wanted o (yielded l.toArray a.tmps) then o.wp P a W K Q else K (a.put o.dst undef) W)
    (last : ∀ S a W, (∀ i, i < n → S i = true) → J S a W → wpList P l.toArray Q (l.drop n) a W) : (Code.region id l.toArray true).wpIn (Fence.wide.inRound l') n' P Q a w :=
  region_round l' n' hm hnd hL (inv_tail_any n J hB h0 step last)

/-- Blocks that hold cells. -/
def IsC (p : Nat → Prop) (W : World) (b : Nat) : Prop := p b ∧ ∃ c e fz, W.heap[b]? = some (.cells c e fz)
theorem cell_isC {W : World} {b k : Nat} {v : Value} (h : W.cell? ⟨b, k, none⟩ = some v) : ∃ c e fz, W.heap[b]? = some (.cells c e fz) := by
  cases hb : W.heap[b]? with
  | none => simp [World.cell?, hb] at h
  | some o =>
    cases o <;> simp [World.cell?, hb] at h ⊢
mutual
theorem ndIn_cells {p : Nat → Prop} {W : World} : ∀ (n : Nd) (b : Nat), ndIn p W b n → ndIn (IsC p W) W b n
  | .mk _ ss, _, ⟨im, a, c, h1, h2, h3, h4, h5⟩ => ⟨im, a, c, ⟨h1, _, _, _, h2⟩, h2, h3, inP_cells im h4, stIn_of (fun _ hq => ⟨⟨⟨hq.1.1, hq.2⟩, hq.1.2⟩, rfl⟩) ss a 0 (stIn_cells ss a 0 h5)⟩
theorem stIn_cells {p : Nat → Prop} {W : World} : ∀ (s : Sts) (a : Option Addr) (i : Nat), stIn p W a i s → stIn (IsC p W) W a i s
  | .nil, _, _, _ => trivial
  | .cons _ n r, a, i, ⟨⟨b, o, b', h1, h2, h3, h4, h5⟩, h6⟩ => ⟨⟨b, o, b', ⟨h1, cell_isC h3⟩, h2, h3, h4, ndIn_cells n b' h5⟩, stIn_cells r a (i + 1) h6⟩
end
theorem ItsIn.cells {bI : Nat} {p : Nat → Prop} {W : World} {l : List It} (h : ItsIn bI p W l) : ItsIn bI (IsC p W) W l := by
  obtain ⟨cl, ims, h1, h2, h3, h4, h5⟩ := h
  exact ⟨cl, ims, h1, h2, h3, h4, fun y hy => inP_cells y (h5 y hy)⟩
theorem StsIn.cells {z : Nat} {p : Nat → Prop} {W : World} {sv : Value} {ks : List (Int × Nd)} (h : StsIn z p W sv ks) : StsIn z (IsC p W) W sv ks := by
  obtain ⟨bs, h1, h2, h3⟩ := h
  exact ⟨bs, h1, h2, fun j k b hk hb => ndIn_cells _ _ (h3 j k b hk hb)⟩

/-- The blocks in which the nodes lie. -/
def NB (zD bI bX bS : Nat) (sv : Value) (W : World) (k : Nat) : Prop := zD < k ∧ k < W.heap.size ∧ k ≠ bI ∧ k ≠ bX ∧ k ≠ bS ∧ sv.ownBlock ≠ some k
/-- The state: the boxes of depth, items and steps, the items, the steps. -/
def FS (zD bI bX bS zS d : Nat) (v : ByteArray) (w : World) (ks : List (Int × Nd)) (W : World) : Prop := ∃ sv, Bx zD 3 (.int .i64 d) W ∧ Bx bX 45 (.slice (some ⟨bI, 0, none⟩) 17 17) W ∧ Bx bS 48 sv W ∧ ItsIn bI (NB zD bI bX bS sv W) W (fkI v ks) ∧ StsIn zS (NB zD bI bX bS sv W) W sv ks ∧ Below zD w W
theorem FS.own {zD bI bX bS zS d : Nat} {v : ByteArray} {w A C : World} {ks : List (Int × Nd)} {row : Option Nat} (h : FS zD bI bX bS zS d v w ks A) (hg : A.grownBy C row) (hr : ∀ r, row = some r → zD ≤ r ∧ ∃ o : Obj, A.heap[r]? = some o ∧ o.isCells = false) : FS zD bI bX bS zS d v w ks C := by
  obtain ⟨sv, h1, h2, h3, h4, h5, h6⟩ := h
  have hl := h1.lt
  have hno : ∀ b, (∃ c e fz, A.heap[b]? = some (.cells c e fz)) → some b ≠ row := fun b hb e => by
    obtain ⟨c, t, fz, hb⟩ := hb
    obtain ⟨_, o, ho, hc⟩ := hr b e.symm
    rw [hb] at ho
    cases ho
    cases hc
  have hp : ∀ b, IsC (NB zD bI bX bS sv A) A b → NB zD bI bX bS sv C b ∧ b < A.heap.size ∧ some b ≠ row := fun b hb => by
    obtain ⟨⟨b1, b2, b3⟩, hc⟩ := hb
    have := hg.size
    exact ⟨⟨b1, by omega, b3⟩, b2, hno b hc⟩
  refine ⟨sv, h1.own hg (fun r e => (hr r e).2), h2.own hg (fun r e => (hr r e).2), h3.own hg (fun r e => (hr r e).2), h4.cells.own hg (fun e => ?_) hp, h5.cells.own hg ?_ hp, h6.grown hg (by omega) (fun k e => (hr k e).1)⟩
  · obtain ⟨cl, ims, hq, _⟩ := h4
    obtain ⟨c, hk⟩ := owns_kind hq (k := bI) rfl
    exact hno bI ⟨c, _, _, hk⟩ e.symm
  · obtain ⟨bs, _, hq, _⟩ := h5
    cases e : sv.ownBlock with
    | none => exact .inl rfl
    | some k =>
      obtain ⟨c, hk⟩ := owns_kind hq e
      exact .inr (hno k ⟨c, _, _, hk⟩)
end Go.Proofs.YtbpcciifaekffaaGreatDoor
