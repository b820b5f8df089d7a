/- Lemmas: The reference's alike, having, ending, form. The reference's Bytes and reference, behind its Node. The reference's node, case by case. The reference's Node: a leaf, a bridge. The reference's Node: a bridge. The reference's Node: a list of 17. The reference's Node and Root, at last. -/
import Derived.Test.YtbmapdkcccdmfaaDoorM1
import Derived.Test.YtbmapdkcccdmfaaDoorM10
import Derived.Test.YtbmapdkcccdmfaaDoorM11
import Derived.Test.YtbmapdkcccdmfaaDoorM12
import Derived.Test.YtbmapdkcccdmfaaDoorM13
import Derived.Test.YtbmapdkcccdmfaaDoorM14
import Derived.Test.YtbmapdkcccdmfaaDoorM15
import Derived.Test.YtbmapdkcccdmfaaDoorM16
import Derived.Test.YtbmapdkcccdmfaaDoorM17
import Derived.Test.YtbmapdkcccdmfaaDoorM18
import Derived.Test.YtbmapdkcccdmfaaDoorM19
import Derived.Test.YtbmapdkcccdmfaaDoorM2
import Derived.Test.YtbmapdkcccdmfaaDoorM20
import Derived.Test.YtbmapdkcccdmfaaDoorM21
import Derived.Test.YtbmapdkcccdmfaaDoorM22
import Derived.Test.YtbmapdkcccdmfaaDoorM23
import Derived.Test.YtbmapdkcccdmfaaDoorM24
import Derived.Test.YtbmapdkcccdmfaaDoorM25
import Derived.Test.YtbmapdkcccdmfaaDoorM26
import Derived.Test.YtbmapdkcccdmfaaDoorM29
import Derived.Test.YtbmapdkcccdmfaaDoorM3
import Derived.Test.YtbmapdkcccdmfaaDoorM30
import Derived.Test.YtbmapdkcccdmfaaDoorM32
import Derived.Test.YtbmapdkcccdmfaaDoorM33
import Derived.Test.YtbmapdkcccdmfaaDoorM34
import Derived.Test.YtbmapdkcccdmfaaDoorM35
import Derived.Test.YtbmapdkcccdmfaaDoorM36
import Derived.Test.YtbmapdkcccdmfaaDoorM37
import Derived.Test.YtbmapdkcccdmfaaDoorM38
import Derived.Test.YtbmapdkcccdmfaaDoorM39
import Derived.Test.YtbmapdkcccdmfaaDoorM4
import Derived.Test.YtbmapdkcccdmfaaDoorM40
import Derived.Test.YtbmapdkcccdmfaaDoorM41
import Derived.Test.YtbmapdkcccdmfaaDoorM42
import Derived.Test.YtbmapdkcccdmfaaDoorM43
import Derived.Test.YtbmapdkcccdmfaaDoorM44
import Derived.Test.YtbmapdkcccdmfaaDoorM46
import Derived.Test.YtbmapdkcccdmfaaDoorM5
import Derived.Test.YtbmapdkcccdmfaaDoorM6
import Derived.Test.YtbmapdkcccdmfaaDoorM7
import Derived.Test.YtbmapdkcccdmfaaDoorM8
import Derived.Test.YtbmapdkcccdmfaaDoorM9
import Derived.Test.YtbmapdkcccdmfaaDoorRows
namespace Go.Proofs.YtbmapdkcccdmfaaDoor
open Go.RowKit Go.Shelf Go.Sort

set_option maxRecDepth 20000 in
set_option maxHeartbeats 1000000 in
theorem rform6_any (p : ByteArray) (leaf : Bool) (hp : p.size ≤ 1000) (w : World) :
  Calls Tryd.prog 75 #[.string p, .bool leaf] w fun e w' => e = .returned (txt (fmS p leaf)).val ∧ Below w.heap.size w w' := by
 have KF := fun w => rform_any p leaf (by omega) w
 have A0 := be_new w (.cells #[.bool false, .string ⟨#[]⟩, .slice none 0 0] 55)
 have hR0 := zero_new w
 obtain ⟨s, hs⟩ : ∃ s, fmS p leaf = s := ⟨_, rfl⟩
 rw [hs] at KF ⊢
 clear hs
 go_enter Tryd.func75, Tryd.ntmps75
 go_wp2_with fail
 refine (KF _).mono ?_
 rintro e w2 ⟨rfl, B2⟩
 have hR : ItIn w.heap.size zeroI w2 := (B2.block _ (by simp)).trans hR0
 have BW := belowStep A0 A0.size B2
 clear KF A0 hR0 B2
 obtain ⟨bR, hbR⟩ : ∃ c, w.heap.size = c := ⟨_, rfl⟩
 have HZ : Hid (w.heap.size = bR) := hbR
 rw [hbR] at hR BW ⊢
 clear hbR
 have d0 : w2.cell? ⟨bR, 0, none⟩ = some (.bool false) := by rw [Lib.cell_of_heap hR]; rfl
 have d1 : w2.cell? ⟨bR, 1, none⟩ = some (.string ⟨#[]⟩) := by rw [Lib.cell_of_heap hR]; rfl
 have d2 : w2.cell? ⟨bR, 2, none⟩ = some (.slice none 0 0) := by rw [Lib.cell_of_heap hR]; rfl
 have f0 := Lib.frozen_of_heap hR 0
 have f1 := Lib.frozen_of_heap hR 1
 have f2 := Lib.frozen_of_heap hR 2
 go_wp2
 refine bodyPost_ret (v := .agg #[.bool false, .string s, .slice none 0 0]) (by simp [results, Tryd.results75, go_sem, d0, d1, d2]) rfl ⟨rfl, ?_⟩
 rw [HZ.out]
 exact below_set (below_set (below_set BW bR 0 (Nat.le_refl _) _) bR 1 (Nat.le_refl _) _) bR 2 (Nat.le_refl _) _

theorem drop_pr {ps : List Pr} {k : Nat} {f : Pr} (h : ps[k]? = some f) : ps.drop k = f :: ps.drop (k + 1) := drop_at h
set_option maxRecDepth 20000 in
set_option maxHeartbeats 1000000 in
theorem ending_any (ps : List Pr) (hsz : ∀ p ∈ ps, p.1.size ≤ 64) (hle : ps.length ≤ 200) (d : Nat) (a : Option Addr) (c n : Nat) (w : World) (hn : n ≤ w.heap.size) (hp : slP n w a ps) :
  Calls Tryd.prog 77 #[.slice a ps.length c, .int .i64 d] w fun e w' => e = .returned (.string (enV d ps)) ∧ Below w.heap.size w w' := by
 obtain ⟨N, hN⟩ : ∃ N, ps.length = N := ⟨_, rfl⟩
 have HN : Hid (ps.length = N) := hN
 rw [hN] at hle ⊢
 clear hN
 obtain ⟨V, hV⟩ : ∃ V, enV d ps = V := ⟨_, rfl⟩
 have HV : Hid _ := hV
 rw [hV]
 clear hV
 obtain ⟨z, hz⟩ : ∃ z, w.heap.size = z := ⟨_, rfl⟩
 rw [hz] at hn ⊢
 have B0 : Below z w w := Below.refl _ _
 clear hz
 go_enter Tryd.func77, Tryd.ntmps77
 go_wp2_with fail
 go_loopg [5] N (fun gk i wr => ∃ k : Nat, k + gk = N ∧ i = .int .i64 k ∧ Hid (enV d (ps.drop k) = V) ∧ Below z w wr)
 case atStart => exact ⟨0, by omega, rfl, HV.out, B0⟩
 case round =>
  obtain ⟨k, hk, rfl, hA, BW⟩ := hrel
  by_cases hlt : k < N
  ·have l1 : (k : Int) < N := by omega
   obtain ⟨f, hf⟩ : ∃ f, ps[k]? = some f := ⟨ps[k]'(by have := HN.out; omega), List.getElem?_eq_getElem (by have := HN.out; omega)⟩
   obtain ⟨b, o, rfl, hb, c0, c1⟩ := slP_at hp k f hf
   replace c0 := (BW.cell (p := ⟨b, _, none⟩) (by show b < z; omega)).trans c0
   replace c1 := (BW.cell (p := ⟨b, _, none⟩) (by show b < z; omega)).trans c1
   obtain ⟨r, hr⟩ : ∃ p, o + 2 * k = p := ⟨_, rfl⟩
   rw [hr] at c0 c1
   have hr2 : o + k * 2 = r := by omega
   have wk : IntKind.i64.wrap ((k : Int) + 1) = ((k + 1 : Nat) : Int) := by rw [IntKind.wrap_i64]; omega
   have hs64 := hsz f (List.mem_of_getElem? hf)
   have hA2 := hA.out
   rw [drop_pr hf] at hA2
   obtain ⟨fk, fv⟩ := f
   dsimp only at c0 c1 hs64
   have w2 : IntKind.i64.wrap (2 * (fk.size : Int)) = 2 * (fk.size : Int) := by rw [IntKind.wrap_i64]; omega
   have hA3 : (if 2 * fk.size = d then fv else enV d (ps.drop (k + 1))) = V := hA2
   clear hf hA hA2
   by_cases he : 2 * fk.size = d
   ·have lb : (2 * (fk.size : Int) == d) = true := by rw [beq_iff_eq]; omega
    rw [if_pos he] at hA3
    subst hA3
    go_wp2
    go_ret
    exact ⟨rfl, BW⟩
   ·have lb : (2 * (fk.size : Int) == d) = false := by rw [beq_eq_false_iff_ne]; omega
    rw [if_neg he] at hA3
    have HA : Hid _ := hA3
    clear hA3
    go_wp2
    go_roundg (gk - 1)
    case measure => omega
    case rel => exact ⟨k + 1, by omega, by first | rfl | (congr 1; omega), HA.out, BW⟩
  ·have l1 : ¬ (k : Int) < N := by omega
   have hA2 := hA.out
   rw [List.drop_of_length_le (by have := HN.out; omega)] at hA2
   have hA3 : (⟨#[]⟩ : ByteArray) = V := hA2
   subst hA3
   clear hA hA2 HV
   go_wp2
   go_ret
   exact ⟨rfl, BW⟩

set_option maxRecDepth 20000 in
set_option maxHeartbeats 1000000 in
theorem alike_any (p0 : Pr) (rs : List Pr) (hsz : ∀ p ∈ p0 :: rs, p.1.size ≤ 64) (hle : (p0 :: rs).length ≤ 200) (d : Nat) (hd : ∀ p ∈ p0 :: rs, d ≤ (ofOf p.1).size) (a : Option Addr) (c n : Nat) (w : World) (hn : n ≤ w.heap.size) (hp : slP n w a (p0 :: rs)) :
  Calls Tryd.prog 53 #[.slice a (p0 :: rs).length c, .int .i64 d] w fun e w' => e = .returned (.int .i64 (alkV d (enP p0) (rs.map enP))) ∧ Below w.heap.size w w' := by
 obtain ⟨ps, hps⟩ : ∃ ps, p0 :: rs = ps := ⟨_, rfl⟩
 have hf0 : ps[0]? = some p0 := by rw [← hps]; rfl
 have hd1 : rs = ps.drop 1 := by rw [← hps]; rfl
 rw [hps] at hsz hle hd hp ⊢
 rw [hd1]
 clear hps hd1
 obtain ⟨N, hN⟩ : ∃ N, ps.length = N := ⟨_, rfl⟩
 have HN : Hid (ps.length = N) := hN
 have hN1 : 1 ≤ N := by rw [← hN]; exact (List.getElem?_eq_some_iff.1 hf0).1
 rw [hN] at hle ⊢
 clear hN
 obtain ⟨b, o, rfl, hb, c0, _⟩ := slP_at hp 0 p0 hf0
 rw [Nat.mul_zero, Nat.add_zero] at c0
 have h64 := hsz p0 (List.mem_of_getElem? hf0)
 have hd0 := hd p0 (List.mem_of_getElem? hf0)
 have hos := of_sz p0.1
 have KO := fun w => rof_any p0.1 (by omega) w
 obtain ⟨V, hV⟩ : ∃ V, alkV d (enP p0) ((ps.drop 1).map enP) = V := ⟨_, rfl⟩
 rw [hV]
 obtain ⟨P, hP⟩ : ∃ P, ofOf p0.1 = P := ⟨_, rfl⟩
 obtain ⟨q, hq⟩ : ∃ q, tl d (enP p0) = q := ⟨_, rfl⟩
 have hq2 : P.extract d P.size = q := by rw [← hP, ← hq]; rfl
 rw [hP] at KO hos hd0
 have hqs : q.size = P.size - d := by rw [← hq, tl_size]; show (ofOf p0.1).size - d = _; rw [hP]
 have hV2 : ((ps.drop 1).map enP).foldl (fun n e => min n (common q (tl d e))) q.size = V := by rw [← hV, ← hq]; rfl
 have HV : Hid _ := hV2
 clear hV hP hq hV2 hf0
 obtain ⟨z, hz⟩ : ∃ z, w.heap.size = z := ⟨_, rfl⟩
 have HZ : Hid (w.heap.size = z) := hz
 have l1 : (0 : Int) < N := by omega
 have l2 : (d : Int) ≤ P.size := by omega
 rw [hz] at hn ⊢
 have hq1 : q.size ≤ 1000 := by omega
 clear hz hos hqs h64 hd0
 go_enter Tryd.func53, Tryd.ntmps53
 go_wp2_with fail
 refine (KO _).mono ?_
 rintro e w1 ⟨rfl, B1⟩
 rw [HZ.out] at B1
 clear KO
 go_wp2_with fail
 go_loopg [6, 7] (N - 1) (fun gk x i wr => ∃ (k m : Nat), k + gk = N ∧ 1 ≤ k ∧ x = .int .i64 m ∧ i = .int .i64 k ∧ m ≤ 1000 ∧ Hid (((ps.drop k).map enP).foldl (fun n e => min n (common q (tl d e))) m = V) ∧ Below z w wr)
 case atStart => exact ⟨1, q.size, by omega, by omega, rfl, rfl, by omega, HV.out, B1⟩
 case round =>
  obtain ⟨k, m, hk, hk1, rfl, rfl, hm, hA, BW⟩ := hrel
  have hwz : z ≤ wr.heap.size := by have := BW.size; have := HZ.out; omega
  by_cases hlt : k < N
  ·have l3 : (k : Int) < N := by omega
   obtain ⟨f, hf⟩ : ∃ f, ps[k]? = some f := ⟨ps[k]'(by have := HN.out; omega), List.getElem?_eq_getElem (by have := HN.out; omega)⟩
   obtain ⟨b', o', he', hb', e0, _⟩ := slP_at hp k f hf
   injection he' with he'
   injection he' with he1 he2
   subst he1 he2
   replace e0 := (BW.cell (p := ⟨b, _, none⟩) (by show b < z; omega)).trans e0
   obtain ⟨r, hr⟩ : ∃ p, o + 2 * k = p := ⟨_, rfl⟩
   rw [hr] at e0
   have hr2 : o + k * 2 = r := by omega
   have wk : IntKind.i64.wrap ((k : Int) + 1) = ((k + 1 : Nat) : Int) := by rw [IntKind.wrap_i64]; omega
   have hs64 := hsz f (List.mem_of_getElem? hf)
   have hdf := hd f (List.mem_of_getElem? hf)
   have hos2 := of_sz f.1
   have KO := fun w => rof_any f.1 (by omega) w
   have hA2 := hA.out
   rw [drop_pr hf, List.map_cons, List.foldl_cons] at hA2
   obtain ⟨P2, hP2⟩ : ∃ P, ofOf f.1 = P := ⟨_, rfl⟩
   obtain ⟨t, ht⟩ : ∃ q, tl d (enP f) = q := ⟨_, rfl⟩
   have ht2 : P2.extract d P2.size = t := by rw [← hP2, ← ht]; rfl
   have hts : t.size ≤ 1000 := by rw [← ht, tl_size]; show (ofOf f.1).size - d ≤ _; omega
   rw [hP2] at KO hos2 hdf
   rw [ht] at hA2
   have KC := fun w => rcommon_any q t (by omega) w
   obtain ⟨u, hu⟩ : ∃ u, common q t = u := ⟨_, rfl⟩
   rw [hu] at hA2 KC
   obtain ⟨m', hm'⟩ : ∃ m', min m u = m' := ⟨_, rfl⟩
   rw [hm'] at hA2
   have hmi : min (m : Int) u = m' := by omega
   have HA : Hid _ := hA2
   have l4 : (d : Int) ≤ P2.size := by omega
   have hm2 : m' ≤ 1000 := by omega
   clear hA hA2 hf ht hP2 hu hos2 hs64 hm' hdf hts
   go_wp2_with fail
   refine (KO _).mono ?_
   rintro e w3 ⟨rfl, B3⟩
   have BW3 := belowStep BW hwz B3
   have hwz3 : z ≤ w3.heap.size := Nat.le_trans hwz B3.size
   clear KO B3
   go_wp2_with fail
   refine (KC _).mono ?_
   rintro e w4 ⟨rfl, B4⟩
   have BW4 := belowStep BW3 hwz3 B4
   clear KC B4
   go_wp2
   go_roundg (gk - 1)
   case measure => omega
   case rel => exact ⟨k + 1, m', by omega, by omega, by first | rfl | (congr 1; omega), by first | rfl | (congr 1; omega), by omega, HA.out, BW4⟩
  ·have l3 : ¬ (k : Int) < N := by omega
   have hA2 := hA.out
   rw [List.drop_of_length_le (by have := HN.out; omega)] at hA2
   have hA3 : m = V := hA2
   subst hA3
   clear hA hA2 HV
   go_wp2
   go_ret
   exact ⟨rfl, BW⟩

theorem hvP_cons (d : Nat) (h : Int) (p : Pr) (r : List Pr) : hvP d h (p :: r) = if goes d h (enP p) = true then p :: hvP d h r else hvP d h r := by
 unfold hvP
 rw [List.filter_cons]
def SlZ (z : Nat) (es : List Pr) (e : Ending) (w' : World) : Prop := ∃ a c, e = .returned (.slice a es.length c) ∧ (es = [] ∨ ∃ b o, a = some ⟨b, o, none⟩ ∧ z ≤ b ∧ b < w'.heap.size ∧ prs w' b o es)
theorem slZ_owns {z : Nat} {v : Value} {es : List Pr} {W : World} (h : W.ownsRow z 57 2 v es.length (pC es)) : ∃ a c, v = .slice a es.length c ∧ (es = [] ∨ ∃ b o, a = some ⟨b, o, none⟩ ∧ z ≤ b ∧ b < W.heap.size ∧ prs W b o es) := by
 rcases h.2 with ⟨h1, h2⟩ | ⟨g, c, cur, h1, h2, h3, h4, h5, h6, h7⟩
 ·exact ⟨none, 0, by rw [h1, h2], .inl (List.length_eq_zero_iff.1 h2)⟩
 ·refine ⟨_, c, h1, .inr ⟨g, 0, rfl, h2, (Array.getElem?_eq_some_iff.1 h3).1, fun j e he => ?_⟩⟩
  obtain ⟨p1, p2⟩ := pC_at es j e he
  have hj : j < es.length := (List.getElem?_eq_some_iff.1 he).1
  subst h1
  rw [h.cellAt (0 + 2 * j) (by omega), h.cellAt (0 + 2 * j + 1) (by omega), Nat.zero_add]
  exact ⟨p1, p2⟩
set_option maxRecDepth 20000 in
set_option maxHeartbeats 2000000 in
theorem having2_any (ps : List Pr) (hsz : ∀ p ∈ ps, p.1.size ≤ 64) (hle : ps.length ≤ 200) (d : Nat) (h : Int) (a : Option Addr) (c n : Nat) (w : World) (hn : n ≤ w.heap.size) (hp : slP n w a ps) :
  Calls Tryd.prog 54 #[.slice a ps.length c, .int .i64 d, .int .u8 h] w fun e w' => Below w.heap.size w w' ∧ SlZ w.heap.size (hvP d h ps) e w' := by
 obtain ⟨i0, hi0, hz0, hz1, hz2⟩ := info_parts info_pair
 obtain ⟨N, hN⟩ : ∃ N, ps.length = N := ⟨_, rfl⟩
 have HN : Hid (ps.length = N) := hN
 rw [hN] at hle ⊢
 clear hN
 obtain ⟨F, hF⟩ : ∃ F, hvP d h ps = F := ⟨_, rfl⟩
 have HF : Hid (([] : List Pr) ++ hvP d h (ps.drop 0) = F) := by rw [List.nil_append, List.drop_zero]; exact hF
 rw [hF]
 clear hF
 obtain ⟨z, hz⟩ : ∃ z, w.heap.size = z := ⟨_, rfl⟩
 have HZ : Hid (w.heap.size = z) := hz
 rw [hz] at hn ⊢
 have B0 : Below z w w := Below.refl _ _
 clear hz
 go_enter Tryd.func54, Tryd.ntmps54
 go_wp2_with fail
 go_loopg [7, 8] N (fun gk v i wr => ∃ (k : Nat) (out : List Pr), k + gk = N ∧ i = .int .i64 k ∧ Below z w wr ∧ out.length ≤ k ∧ Hid (out ++ hvP d h (ps.drop k) = F) ∧ wr.ownsRow z 57 2 v out.length (pC out))
 case atStart => exact ⟨0, [], by omega, rfl, B0, Nat.le_refl _, HF.out, World.ownsRow_nil _ _ _ _⟩
 case round =>
  obtain ⟨k, out, hk, rfl, BW, hol, hA, hown⟩ := hrel
  have hr3 : ∀ b, u7.ownBlock = some b → z ≤ b := fun b hb => (hown.lt b hb).1
  have hwz : z ≤ wr.heap.size := by have := BW.size; have := HZ.out; omega
  by_cases hlt : k < N
  ·have l3 : (k : Int) < N := by omega
   obtain ⟨f, hf⟩ : ∃ f, ps[k]? = some f := ⟨ps[k]'(by have := HN.out; omega), List.getElem?_eq_getElem (by have := HN.out; omega)⟩
   obtain ⟨b, o, rfl, hb, c0, c1⟩ := slP_at hp k f hf
   obtain ⟨r, hr⟩ : ∃ p, o + 2 * k = p := ⟨_, rfl⟩
   rw [hr] at c0 c1
   have hr2 : o + k * 2 = r := by omega
   have wk : IntKind.i64.wrap ((k : Int) + 1) = ((k + 1 : Nat) : Int) := by rw [IntKind.wrap_i64]; omega
   have hs64 := hsz f (List.mem_of_getElem? hf)
   have hos2 := of_sz f.1
   have KO := fun w => rof_any f.1 (by omega) w
   have hA2 := hA.out
   rw [drop_pr hf, hvP_cons] at hA2
   have hgo : goes d h (enP f) = (decide (d < (ofOf f.1).size) && decide (bt (ofOf f.1) d = h)) := rfl
   rw [hgo] at hA2
   obtain ⟨P, hP⟩ : ∃ P, ofOf f.1 = P := ⟨_, rfl⟩
   rw [hP] at KO hos2 hA2
   obtain ⟨fk, fv⟩ := f
   dsimp only at c0 c1 KO
   have HC : Hid (_ ∧ _) := ⟨c0, c1⟩
   replace c0 := (BW.cell (p := ⟨b, _, none⟩) (by show b < z; omega)).trans c0
   clear hA hf hP hgo
   have HO : Hid _ := hown
   clear hown
   go_wp2_with fail
   refine (KO _).mono ?_
   rintro e w3 ⟨rfl, B3⟩
   have BW3 := belowStep BW hwz B3
   have hwz3 : z ≤ w3.heap.size := Nat.le_trans hwz B3.size
   have hown := owns_below2 HO.out B3
   have d0 := (BW3.cell (p := ⟨b, _, none⟩) (by show b < z; omega)).trans HC.out.1
   have d1 := (BW3.cell (p := ⟨b, _, none⟩) (by show b < z; omega)).trans HC.out.2
   clear KO B3 HO c0 BW
   by_cases g1 : d < P.size
   ·have l5 : (d : Int) < P.size := by omega
    have hy := bt_get P d g1
    obtain ⟨y, hyy⟩ : ∃ y, bt P d = y := ⟨_, rfl⟩
    rw [hyy] at hy hA2
    by_cases g2 : y = h
    ·subst g2
     rw [decide_eq_true g1, decide_eq_true rfl, if_pos (by decide)] at hA2
     have HA : Hid ((out ++ [(fk, fv)]) ++ hvP d y (ps.drop (k + 1)) = F) := by rw [List.append_assoc]; exact hA2
     clear hA2
     have A1 := be_new w3 (.cells #[.string fk, .string fv] 57)
     have hnew := World.alloc_heap_new w3 (.cells #[.string fk, .string fv] 57)
     have hown2 := owns_below2 hown A1
     have BW2 := belowStep BW3 hwz3 A1
     have hs1 := A1.size
     have HV : Hid (_ ∧ _ ∧ _) := ⟨hown2, hnew, BW2⟩
     clear hown A1 hnew hown2 BW2
     go_wp2_with (at_builtin; refine wpList_append_where _ rfl _ _ 29 rfl z 57 i0 _ 2 32 Tryd.underlying29 hi0 hz0 hz1 hz2 rfl (by decide) _ out.length _ rfl HV.out.1 ⟨w3.heap.size, 0, none⟩ 1 1 [.string fk, .string fv] rfl rfl ?c1 ?c2 (by unfold maxLen; omega) (by omega) ?c3 (by decide) ?_)
     case c1 =>
      intro j u hj
      rw [Addr.add_lit, Lib.cell_of_heap HV.out.2.1, Nat.zero_add]
      simpa using hj
     case c2 =>
      intro u hu
      simp only [List.mem_cons, List.not_mem_nil, or_false] at hu
      rcases hu with rfl | rfl <;> rfl
     case c3 => omega
     intro v' w6 a2 a3 a4 a5
     have HW : Hid (_ ∧ _) := ⟨a2, a3⟩
     clear a2 a3 a4 a5
     go_wp2
     go_roundg (gk - 1)
     case measure => omega
     case rel =>
      obtain ⟨a2, a3⟩ := HW.out
      refine ⟨k + 1, out ++ [(fk, fv)], by omega, by first | rfl | (congr 1; omega), HV.out.2.2.grown a3 (by omega) (fun q e => hr3 q e), by rw [List.length_append]; show out.length + 1 ≤ k + 1; omega, HA.out, ?_⟩
      rw [List.length_append, pC_snoc]
      exact a2
    ·have lb : (y == h) = false := by rw [beq_eq_false_iff_ne]; exact g2
     rw [decide_eq_true g1, decide_eq_false g2, Bool.and_false, if_neg (by decide)] at hA2
     have HA : Hid _ := hA2
     clear hA2
     have HO : Hid _ := hown
     clear hown
     go_wp2
     go_roundg (gk - 1)
     case measure => omega
     case rel => exact ⟨k + 1, out, by omega, by first | rfl | (congr 1; omega), BW3, by omega, HA.out, HO.out⟩
   ·have l5 : ¬ (d : Int) < P.size := by omega
    rw [decide_eq_false g1, Bool.false_and, if_neg (by decide)] at hA2
    have HA : Hid _ := hA2
    clear hA2
    have HO : Hid _ := hown
    clear hown
    go_wp2
    go_roundg (gk - 1)
    case measure => omega
    case rel => exact ⟨k + 1, out, by omega, by first | rfl | (congr 1; omega), BW3, by omega, HA.out, HO.out⟩
  ·have l3 : ¬ (k : Int) < N := by omega
   have hA2 := hA.out
   rw [List.drop_of_length_le (by have := HN.out; omega)] at hA2
   have hA3 : out = F := by rw [← hA2]; exact (List.append_nil _).symm
   subst hA3
   obtain ⟨a', c', rfl, hs⟩ := slZ_owns hown
   have HR : Hid (Below z w wr ∧ SlZ z out (.returned (.slice a' out.length c')) wr) := ⟨BW, a', c', rfl, hs⟩
   clear hown hs hA hA2 BW HF
   go_wp2
   go_ret
   exact HR.out
theorem having_any (ps : List Pr) (hsz : ∀ p ∈ ps, p.1.size ≤ 64) (hle : ps.length ≤ 200) (d : Nat) (h : Int) (a : Option Addr) (c n : Nat) (w : World) (hn : n ≤ w.heap.size) (hp : slP n w a ps) :
  Calls Tryd.prog 54 #[.slice a ps.length c, .int .i64 d, .int .u8 h] w fun e w' => Below w.heap.size w w' ∧ SlR (hvP d h ps) e w' :=
 (having2_any ps hsz hle d h a c n w hn hp).mono fun _ _ ⟨hb, a', c', he, h'⟩ => ⟨hb, a', c', he, h'.elim .inl fun ⟨b, o, h1, _, h2, h3⟩ => .inr ⟨b, o, h1, h2, h3⟩⟩
end Go.Proofs.YtbmapdkcccdmfaaDoor
namespace Go.Proofs.YtbmapdkcccdmfaaDoor
open Go.RowKit Go.Shelf Go.Sort

def noF (f d : Nat) (ps : List Pr) : It := (ndF f d (ents (srt ps))).x
def NoC (f : Nat) : Prop := ∀ (ps : List Pr) (d : Nat), 129 ≤ f + d → RightP ps → Ok d (ents (srt ps)) → ∀ (a : Option Addr) (c n : Nat) (w : World), n ≤ w.heap.size → slP n w a ps →
 Calls Tryd.prog 51 #[.slice a ps.length c, .int .i64 d] w fun e w' => Below w.heap.size w w' ∧ ∃ im : Im, e = .returned im.val ∧ er im = noF f d ps ∧ inP (fun q => w.heap.size ≤ q ∧ q < w'.heap.size) w' im
def ByC (f : Nat) : Prop := ∀ (ps : List Pr) (d : Nat), 129 ≤ f + d → RightP ps → Ok d (ents (srt ps)) → ∀ (a : Option Addr) (c n : Nat) (w : World), n ≤ w.heap.size → slP n w a ps →
 Calls Tryd.prog 29 #[.slice a ps.length c, .int .i64 d] w fun e w' => e = .returned (.string (eS (noF f d ps))) ∧ Below w.heap.size w w'
def ReC (f : Nat) : Prop := ∀ (ps : List Pr) (d : Nat), 129 ≤ f + d → RightP ps → Ok d (ents (srt ps)) → ∀ (a : Option Addr) (c n : Nat) (w : World), n ≤ w.heap.size → slP n w a ps →
 Calls Tryd.prog 76 #[.slice a ps.length c, .int .i64 d] w fun e w' => Below w.heap.size w w' ∧ ∃ im : Im, e = .returned im.val ∧ er im = refI (noF f d ps) ∧ inP (fun q => w.heap.size ≤ q ∧ q < w'.heap.size) w' im
theorem no_tb {f d : Nat} {ps : List Pr} (h : Ok d (ents (srt ps))) : tbI (noF f d ps) < 1000000 := by
 have h1 := (nd_tb f f (Nat.le_refl _) d _ h).1
 have h2 := h.few
 unfold noF
 omega

set_option maxRecDepth 20000 in
set_option maxHeartbeats 1000000 in
theorem bytes_of {f : Nat} (hN : NoC f) : ByC f := by
 intro ps d hf hr hok a c n w hn hp
 have KN := hN ps d hf hr hok a c n w hn hp
 have htb := no_tb (f := f) hok
 obtain ⟨x, hx⟩ : ∃ x, noF f d ps = x := ⟨_, rfl⟩
 obtain ⟨N, hNN⟩ : ∃ N, ps.length = N := ⟨_, rfl⟩
 rw [hx] at KN htb ⊢
 rw [hNN] at KN ⊢
 clear hx
 go_enter Tryd.func29, Tryd.ntmps29
 go_wp2_with fail
 refine KN.mono ?_
 rintro e w1 ⟨B1, im, rfl, he, hin⟩
 have hml : inMem w1.heap.size w1 im := inMem_of (fun b hb => hb.2) _ hin
 have KE := rencode_any im (by rw [tb_er, he]; omega) w1.heap.size w1 (Nat.le_refl _) hml
 rw [encE_er, encS_er, he] at KE
 obtain ⟨s, hs⟩ : ∃ q, eS x = q := ⟨_, rfl⟩
 obtain ⟨g, hg⟩ : ∃ q, eE x = q := ⟨_, rfl⟩
 have HS : Hid (eS x = s) := hs
 rw [hs, hg] at KE
 clear he hin hs hg KN hml
 obtain ⟨il, it, ia, ic, ix⟩ := im
 dsimp only [Im.val, Im.l, Im.t, Im.sl, Im.a, Im.xs, Im.c] at KE ⊢
 go_wp2_with fail
 refine KE.mono ?_
 rintro e w2 ⟨rfl, B2⟩
 have BW := belowStep B1 B1.size B2
 clear KE B1 B2
 go_wp2
 go_ret
 exact ⟨by rw [HS.out]; rfl, BW⟩

set_option maxRecDepth 20000 in
set_option maxHeartbeats 1000000 in
theorem reference_of {f : Nat} (hN : NoC f) (hB : ByC f) : ReC f := by
 intro ps d hf hr hok a c n w hn hp
 have A0 := be_new w (.cells #[.bool false, .string ⟨#[]⟩, .slice none 0 0] 55)
 have hR0 := zero_new w
 have KB := hB ps d hf hr hok a c n (w.alloc (.cells #[.bool false, .string ⟨#[]⟩, .slice none 0 0] 55)) (Nat.le_trans hn A0.size) (slP_below (A0.mono hn) hp)
 have KN := fun W hn hp => hN ps d hf hr hok a c n W hn hp
 obtain ⟨x, hx⟩ : ∃ x, noF f d ps = x := ⟨_, rfl⟩
 obtain ⟨N, hNN⟩ : ∃ N, ps.length = N := ⟨_, rfl⟩
 rw [hx] at KN KB ⊢
 rw [hNN] at KN KB ⊢
 have hsz := eS_size x
 obtain ⟨s, hs⟩ : ∃ q, eS x = q := ⟨_, rfl⟩
 have HS : Hid (eS x = s) := hs
 have HP : Hid _ := hp
 rw [hs] at KB hsz
 clear hx hs hp
 go_enter Tryd.func76, Tryd.ntmps76
 go_wp2_with fail
 refine KB.mono ?_
 rintro e w1 ⟨rfl, B1⟩
 have BW := belowStep A0 A0.size B1
 have hR : ItIn w.heap.size zeroI w1 := (B1.block _ (by simp)).trans hR0
 have hp1 := slP_below (BW.mono hn) HP.out
 have hsz1 := BW.size
 have hlt1 : w.heap.size < w1.heap.size := by have := B1.size; simp at this; omega
 clear KB A0 hR0 B1
 by_cases h32 : s.size < 32
 ·have l1 : (s.size : Int) < 32 := by omega
  have K2 := KN w1 (by omega) hp1
  clear KN hp1
  go_wp2_with fail
  refine K2.mono ?_
  rintro e w2 ⟨B2, im, rfl, he, hin⟩
  have BW2 := belowStep BW hsz1 B2
  have hR2 : ItIn w.heap.size zeroI w2 := (B2.block _ hlt1).trans hR
  have hs2 := B2.size
  clear K2 B2 BW hR
  obtain ⟨bR, hbR⟩ : ∃ c, w.heap.size = c := ⟨_, rfl⟩
  have HZ : Hid (w.heap.size = bR) := hbR
  rw [hbR] at hR2 BW2 hlt1 ⊢
  clear hbR
  have d0 : w2.cell? ⟨bR, 0, none⟩ = some (.bool false) := by rw [Lib.cell_of_heap hR2]; rfl
  have d1 : w2.cell? ⟨bR, 1, none⟩ = some (.string ⟨#[]⟩) := by rw [Lib.cell_of_heap hR2]; rfl
  have d2 : w2.cell? ⟨bR, 2, none⟩ = some (.slice none 0 0) := by rw [Lib.cell_of_heap hR2]; rfl
  have f0 := Lib.frozen_of_heap hR2 0
  have f1 := Lib.frozen_of_heap hR2 1
  have f2 := Lib.frozen_of_heap hR2 2
  have HF : Hid (_ ∧ _ ∧ _) := ⟨he, hin, BW2⟩
  clear he hin BW2 hR2
  obtain ⟨il, it, ia, ic, ix⟩ := im
  dsimp only [Im.val, Im.l, Im.t, Im.sl, Im.a, Im.xs, Im.c]
  go_wp2
  obtain ⟨he, hin, BW2⟩ := HF.out
  have B4 := below_set (below_set (below_set BW2 bR 0 (Nat.le_refl _) (.bool il)) bR 1 (Nat.le_refl _) (.string it)) bR 2 (Nat.le_refl _) (.slice ia ix.length ic)
  refine bodyPost_ret (v := .agg #[.bool il, .string it, .slice ia ix.length ic]) (by simp [results, Tryd.results76, go_sem, d0, d1, d2]) rfl ⟨by rw [HZ.out]; exact B4, .mk il it ia ic ix, rfl, ?_, ?_⟩
  ·rw [he]
   unfold refI
   rw [HS.out, if_pos h32]
  ·refine inP_of (fun b hb => ⟨⟨by have := HZ.out; omega, by simpa [World.setCell] using hb.2⟩, fun k => ?_⟩) _ hin
   have hne : b ≠ bR := by omega
   rw [World.cell?_of_block (Below.heap_setCell _ _ _ _ hne), World.cell?_of_block (Below.heap_setCell _ _ _ _ hne), World.cell?_of_block (Below.heap_setCell _ _ _ _ hne)]
 ·have l1 : ¬ (s.size : Int) < 32 := by omega
  have KM := rsum_any s (by omega) w1
  rw [rsum_is] at KM
  obtain ⟨t, ht⟩ : ∃ t, sumOf s = t := ⟨_, rfl⟩
  have HT : Hid (sumOf s = t) := ht
  rw [ht] at KM
  clear KN hp1 ht
  go_wp2_with fail
  refine KM.mono ?_
  rintro e w2 ⟨rfl, B2⟩
  have BW2 := belowStep BW hsz1 B2
  have hR2 : ItIn w.heap.size zeroI w2 := (B2.block _ hlt1).trans hR
  clear KM B2 BW hR
  obtain ⟨bR, hbR⟩ : ∃ c, w.heap.size = c := ⟨_, rfl⟩
  have HZ : Hid (w.heap.size = bR) := hbR
  rw [hbR] at hR2 BW2 hlt1 ⊢
  clear hbR
  have d0 : w2.cell? ⟨bR, 0, none⟩ = some (.bool false) := by rw [Lib.cell_of_heap hR2]; rfl
  have d1 : w2.cell? ⟨bR, 1, none⟩ = some (.string ⟨#[]⟩) := by rw [Lib.cell_of_heap hR2]; rfl
  have d2 : w2.cell? ⟨bR, 2, none⟩ = some (.slice none 0 0) := by rw [Lib.cell_of_heap hR2]; rfl
  have f0 := Lib.frozen_of_heap hR2 0
  have f1 := Lib.frozen_of_heap hR2 1
  have f2 := Lib.frozen_of_heap hR2 2
  have HF : Hid _ := BW2
  clear BW2 hR2
  go_wp2
  have B4 := below_set (below_set (below_set HF.out bR 0 (Nat.le_refl _) (.bool false)) bR 1 (Nat.le_refl _) (.string t)) bR 2 (Nat.le_refl _) (.slice none 0 0)
  refine bodyPost_ret (v := .agg #[.bool false, .string t, .slice none 0 0]) (by simp [results, Tryd.results76, go_sem, d0, d1, d2]) rfl ⟨by rw [HZ.out]; exact B4, txt t, rfl, ?_, trivial⟩
  unfold refI
  rw [HS.out, if_neg h32, HT.out]
  rfl
end Go.Proofs.YtbmapdkcccdmfaaDoor
namespace Go.Proofs.YtbmapdkcccdmfaaDoor
open Go.RowKit Go.Shelf Go.Sort

theorem srt_one (p : Pr) : srt [p] = [p] := List.perm_singleton.1 (srt_perm [p])
theorem noF_one (f d : Nat) (p : Pr) : noF (f + 1) d [p] = .mk true ⟨#[]⟩ [tx (fmS (tl d (enP p)) true), tx p.2] := by
 unfold noF
 rw [srt_one]
 rfl
theorem ent_two {ps : List Pr} (h2 : 2 ≤ ps.length) : ∃ e e2 r, ents (srt ps) = e :: e2 :: r := by
 have hl : (ents (srt ps)).length = ps.length := by rw [ents_len, (srt_perm ps).length_eq]
 match hes : ents (srt ps) with
 | [] => rw [hes] at hl; simp at hl; omega
 | [e] => rw [hes] at hl; simp at hl; omega
 | e :: e2 :: r => exact ⟨e, e2, r, rfl⟩
theorem ents_perm {ps : List Pr} : (ps.map enP).Perm (ents (srt ps)) := by
 rw [ents_map]
 exact ((srt_perm ps).map enP).symm
theorem ext_alike {d a : Nat} {es : List Pr} (h : Ok (d + a) es) {x y : Pr} (hx : x ∈ es) (hy : y ∈ es) : (tl d x).extract 0 a = (tl d y).extract 0 a := by
 rw [Ok_iff] at h
 have h1 := (h.2.2.1 x hx).1
 have h2 := (h.2.2.1 y hy).1
 have sx : ((tl d x).extract 0 a).size = a := by rw [ByteArray.size_extract, tl_size]; omega
 have sy : ((tl d y).extract 0 a).size = a := by rw [ByteArray.size_extract, tl_size]; omega
 refine ext_bt _ _ (by rw [sx, sy]) fun j hj => ?_
 rw [sx] at hj
 have e : ∀ (z : Pr), a ≤ z.1.size - d → j < ((tl d z).extract 0 a).size → bt ((tl d z).extract 0 a) j = bt z.1 (d + j) := fun z hz hj' => by
  rw [← bt_get _ j hj', ByteArray.getElem_extract]
  have := bt_get (tl d z) (0 + j) (by rw [tl_size]; omega)
  rw [this, Nat.zero_add, tl_bt d z j (by omega)]
 rw [e x (by omega) (by omega), e y (by omega) (by omega)]
 exact h.2.2.2.2.1 x hx y hy (d + j) (by omega)
theorem noF_bridge {f d a : Nat} {p0 : Pr} {rs : List Pr} (hok : Ok d (ents (srt (p0 :: rs)))) (h2 : 1 ≤ rs.length) (ha : alkV d (enP p0) (rs.map enP) = a) (h0 : a ≠ 0) :
  noF (f + 1) d (p0 :: rs) = .mk true ⟨#[]⟩ [tx (fmS ((tl d (enP p0)).extract 0 a) false), refI (noF f (d + a) (p0 :: rs))] ∧ Ok (d + a) (ents (srt (p0 :: rs))) := by
 obtain ⟨e, e2, r, he⟩ := ent_two (ps := p0 :: rs) (by simp; omega)
 have hp : (enP p0 :: rs.map enP).Perm (ents (srt (p0 :: rs))) := ents_perm (ps := p0 :: rs)
 have hm : enP p0 ∈ ents (srt (p0 :: rs)) := hp.mem_iff.1 (by simp)
 unfold noF
 rw [he] at hok hp hm ⊢
 have hc := alk_is hok (enP p0) (rs.map enP) hp (e := e) (g := (e2 :: r).getLastD e2) rfl (last_at e e2 r)
 rw [ha] at hc
 have hok2 := common_ok hok (e := e) (g := (e2 :: r).getLastD e2) rfl (last_at e e2 r)
 rw [← hc] at hok2
 refine ⟨?_, hok2⟩
 rw [nd_bridge f d e e2 r a hc.symm h0]
 unfold brN
 rw [ext_alike hok2 hm (show e ∈ e :: e2 :: r by simp)]
 rfl
theorem noF_fork {f d : Nat} {p0 : Pr} {rs : List Pr} (hr : RightP (p0 :: rs)) (hok : Ok d (ents (srt (p0 :: rs)))) (h2 : 1 ≤ rs.length) (ha : alkV d (enP p0) (rs.map enP) = 0) :
  noF (f + 1) d (p0 :: rs) = .mk true ⟨#[]⟩ ((List.range 16).map (fun h => if (hvP d (h : Nat) (p0 :: rs)).length = 0 then zIt else refI (noF f (d + 1) (hvP d (h : Nat) (p0 :: rs)))) ++ [tx (enV d (p0 :: rs))]) := by
 obtain ⟨e, e2, r, he⟩ := ent_two (ps := p0 :: rs) (by simp; omega)
 have hp : (enP p0 :: rs.map enP).Perm (ents (srt (p0 :: rs))) := ents_perm (ps := p0 :: rs)
 rw [en_is hok]
 have hv : ∀ h : Nat, (hvP d (h : Int) (p0 :: rs)).length = ((ents (srt (p0 :: rs))).filter (goes d (h : Int))).length := fun h => by
  rw [← hv_srt hr, ents_len, (srt_perm _).length_eq]
 have hfk := fork_halves (ndF f (d + 1)) hok (by rw [he]; simp)
 have e1 : ∀ h : Nat, (if (hvP d (h : Nat) (p0 :: rs)).length = 0 then zIt else refI (noF f (d + 1) (hvP d (h : Nat) (p0 :: rs)))) = hvI (ndF f (d + 1)) d (ents (srt (p0 :: rs))) h := fun h => by
  unfold hvI noF
  rw [hv, hv_srt hr]
 rw [show (fun h : Nat => if (hvP d (h : Nat) (p0 :: rs)).length = 0 then zIt else refI (noF f (d + 1) (hvP d (h : Nat) (p0 :: rs)))) = hvI (ndF f (d + 1)) d (ents (srt (p0 :: rs))) from funext e1]
 have hndx : noF (f + 1) d (p0 :: rs) = (fkN (ndF f (d + 1)) d (ents (srt (p0 :: rs)))).x := by
  unfold noF
  rw [he] at hok hp ⊢
  have hc := alk_is hok (enP p0) (rs.map enP) hp (e := e) (g := (e2 :: r).getLastD e2) rfl (last_at e e2 r)
  rw [ha] at hc
  rw [nd_fork f d e e2 r hc.symm]
 rw [hndx, hfk]
 rfl
end Go.Proofs.YtbmapdkcccdmfaaDoor
namespace Go.Proofs.YtbmapdkcccdmfaaDoor
open Go.RowKit Go.Shelf Go.Sort

theorem two_P {p : Nat → Prop} {W : World} {g : Nat} (x y : Im) (hc : W.heap[g]? = some (.cells #[.bool x.l, .string x.t, x.sl, .bool y.l, .string y.t, y.sl] 55 (0, 0))) (hb : p g) (hx : inP p W x) (hy : inP p W y) :
  rowP p W (some ⟨g, 0, none⟩) 0 [x, y] := by
 refine ⟨⟨g, 0, hb, rfl, ?_, ?_, ?_⟩, hx, ⟨g, 0, hb, rfl, ?_, ?_, ?_⟩, hy, trivial⟩ <;> (rw [Lib.cell_of_heap hc]; rfl)
theorem box_set (W : World) (bR : Nat) (x y u : Value) (k : Nat) (hk : k ≠ bR) : (((W.setCell ⟨bR, 0, none⟩ x).setCell ⟨bR, 1, none⟩ y).setCell ⟨bR, 2, none⟩ u).heap[k]? = W.heap[k]? := by
 rw [Below.heap_setCell _ _ _ _ hk, Below.heap_setCell _ _ _ _ hk, Below.heap_setCell _ _ _ _ hk]
set_option maxRecDepth 20000 in
set_option maxHeartbeats 2000000 in
theorem node_leaf (f : Nat) (p0 : Pr) (d : Nat) (hr : RightP [p0]) (hd : d ≤ (ofOf p0.1).size) (a : Option Addr) (c n : Nat) (w : World) (hn : n ≤ w.heap.size) (hp : slP n w a [p0]) :
  Calls Tryd.prog 51 #[.slice a 1 c, .int .i64 d] w fun e w' => Below w.heap.size w w' ∧ ∃ im : Im, e = .returned im.val ∧ er im = noF (f + 1) d [p0] ∧ inP (fun q => w.heap.size ≤ q ∧ q < w'.heap.size) w' im := by
 have h64 : p0.1.size ≤ 64 := ((pOk_iff p0).1 (hr.2.1 0 p0 rfl)).2.1
 have hos := of_sz p0.1
 rw [noF_one]
 obtain ⟨b, o, rfl, hb, c0, c1⟩ := slP_at hp 0 p0 rfl
 rw [Nat.mul_zero, Nat.add_zero] at c0 c1
 have A0 := be_new w (.cells #[.bool false, .string ⟨#[]⟩, .slice none 0 0] 55)
 have hR0 := zero_new w
 have hbw : b < w.heap.size := by omega
 replace c0 := (A0.cell (p := ⟨b, _, none⟩) hbw).trans c0
 replace c1 := (A0.cell (p := ⟨b, _, none⟩) hbw).trans c1
 have KO := fun w => rof_any p0.1 (by omega) w
 obtain ⟨P, hP⟩ : ∃ P, ofOf p0.1 = P := ⟨_, rfl⟩
 obtain ⟨q, hq⟩ : ∃ q, tl d (enP p0) = q := ⟨_, rfl⟩
 have hq2 : P.extract d P.size = q := by rw [← hP, ← hq]; rfl
 have hqs : q.size ≤ 1000 := by rw [← hq, tl_size]; show (ofOf p0.1).size - d ≤ _; omega
 have KF := fun w => rform6_any q true hqs w
 rw [hP] at KO hd hos
 rw [hq]
 obtain ⟨s, hs⟩ : ∃ s, fmS q true = s := ⟨_, rfl⟩
 have HS : Hid (fmS q true = s) := hs
 rw [hs] at KF ⊢
 have l2 : (d : Int) ≤ P.size := by omega
 obtain ⟨W0, hW0⟩ : ∃ W, w.alloc (.cells #[.bool false, .string ⟨#[]⟩, .slice none 0 0] 55) = W := ⟨_, rfl⟩
 have hsz0 : w.heap.size < W0.heap.size := by rw [← hW0]; simp
 rw [hW0] at c0 c1 A0 hR0
 have HW0 : Hid _ := hW0
 have hbW : b < W0.heap.size := by omega
 have q0 : ∀ d os, (grow (redrawn W0 d) os).cell? ⟨b, o, none⟩ = some (.string p0.1) := fun d os => ((below_regrown W0 d os).cell (p := ⟨b, o, none⟩) hbW).trans c0
 have q1 : ∀ d os, (grow (redrawn W0 d) os).cell? ⟨b, o + 1, none⟩ = some (.string p0.2) := fun d os => ((below_regrown W0 d os).cell (p := ⟨b, o + 1, none⟩) hbW).trans c1
 have cO : ∀ d os, Calls Tryd.prog 27 #[.string p0.1] (grow (redrawn W0 d) os) fun e w'' => e = .returned (.string P) ∧ ∃ p : Regrown, w'' = grow (redrawn W0 p.d) p.os := fun d os => Calls.regrown_of (KO _)
 have cF : ∀ d os, Calls Tryd.prog 75 #[.string q, .bool true] (grow (redrawn W0 d) os) fun e w'' => e = .returned (.agg #[.bool false, .string s, .slice none 0 0]) ∧ ∃ p : Regrown, w'' = grow (redrawn W0 p.d) p.os := fun d os => Calls.regrown_of (KF _)
 obtain ⟨v, hv⟩ : ∃ v, p0.2 = v := ⟨_, rfl⟩
 rw [hv] at q1 ⊢
 clear hos h64 hP hq hs hqs KO KF c0 c1 hv hp hr
 go_enter Tryd.func51, Tryd.ntmps51
 go_wp2_with fail
 clear hW0
 refine region_tail 13 (by kernel_rfl) (by kernel_rfl) ?_
 iterate 4 (quiet_step (fail))
 quiet_step (exact cO _ _)
 iterate 2 (quiet_step (fail))
 quiet_step (exact cF _ _)
 repeat (quiet_step (fail))
 refine wpQuiet_nil ?_
 intro w8 hw8
 have B8 : Below W0.heap.size W0 w8 := by
  obtain ⟨p, rfl⟩ := hw8
  exact below_regrown _ _ _
 clear hw8 q0 q1 cO cF
 have BW := belowStep A0 A0.size B8
 have hR : ItIn w.heap.size zeroI w8 := (B8.block _ hsz0).trans hR0
 have hs8 := B8.size
 have hlt8 : w.heap.size < w8.heap.size := by omega
 obtain ⟨bR, hbR⟩ : ∃ c, w.heap.size = c := ⟨_, rfl⟩
 have HZ : Hid (w.heap.size = bR) := hbR
 rw [hbR] at hR BW hlt8 ⊢
 clear hbR
 have d0 : w8.cell? ⟨bR, 0, none⟩ = some (.bool false) := by rw [Lib.cell_of_heap hR]; rfl
 have d1 : w8.cell? ⟨bR, 1, none⟩ = some (.string ⟨#[]⟩) := by rw [Lib.cell_of_heap hR]; rfl
 have d2 : w8.cell? ⟨bR, 2, none⟩ = some (.slice none 0 0) := by rw [Lib.cell_of_heap hR]; rfl
 have f0 := Lib.frozen_of_heap hR 0
 have f1 := Lib.frozen_of_heap hR 1
 have f2 := Lib.frozen_of_heap hR 2
 have HF : Hid _ := BW
 clear hR BW B8 A0 hR0
 simp only [List.drop_succ_cons, List.drop_zero]
 go_wp2
 have B4 := below_set (below_set (below_set HF.out bR 0 (Nat.le_refl _) (.bool true)) bR 1 (Nat.le_refl _) (.string ⟨#[]⟩)) bR 2 (Nat.le_refl _) (.slice (some ⟨w8.heap.size, 0, none⟩) 2 2)
 have hY : (((w8.setCell ⟨bR, 0, none⟩ (.bool true)).setCell ⟨bR, 1, none⟩ (.string ⟨#[]⟩)).setCell ⟨bR, 2, none⟩ (.slice (some ⟨w8.heap.size, 0, none⟩) 2 2)).heap.size = w8.heap.size := by simp [World.setCell]
 have y0 : (((w8.setCell ⟨bR, 0, none⟩ (.bool true)).setCell ⟨bR, 1, none⟩ (.string ⟨#[]⟩)).setCell ⟨bR, 2, none⟩ (.slice (some ⟨w8.heap.size, 0, none⟩) 2 2)).cell? ⟨bR, 0, none⟩ = some (.bool true) := by simp [go_sem, d0]
 have y1 : (((w8.setCell ⟨bR, 0, none⟩ (.bool true)).setCell ⟨bR, 1, none⟩ (.string ⟨#[]⟩)).setCell ⟨bR, 2, none⟩ (.slice (some ⟨w8.heap.size, 0, none⟩) 2 2)).cell? ⟨bR, 1, none⟩ = some (.string ⟨#[]⟩) := by simp [go_sem, d1]
 have y2 : (((w8.setCell ⟨bR, 0, none⟩ (.bool true)).setCell ⟨bR, 1, none⟩ (.string ⟨#[]⟩)).setCell ⟨bR, 2, none⟩ (.slice (some ⟨w8.heap.size, 0, none⟩) 2 2)).cell? ⟨bR, 2, none⟩ = some (.slice (some ⟨w8.heap.size, 0, none⟩) 2 2) := by simp [go_sem, d2]
 generalize ((w8.setCell ⟨bR, 0, none⟩ (.bool true)).setCell ⟨bR, 1, none⟩ (.string ⟨#[]⟩)).setCell ⟨bR, 2, none⟩ (.slice (some ⟨w8.heap.size, 0, none⟩) 2 2) = Y at B4 hY y0 y1 y2 ⊢
 have AY := be_new Y (.cells #[.bool false, .string s, .slice none 0 0, .bool false, .string v, .slice none 0 0] 55)
 replace y0 := (AY.cell (p := ⟨bR, 0, none⟩) (by show bR < Y.heap.size; omega)).trans y0
 replace y1 := (AY.cell (p := ⟨bR, 1, none⟩) (by show bR < Y.heap.size; omega)).trans y1
 replace y2 := (AY.cell (p := ⟨bR, 2, none⟩) (by show bR < Y.heap.size; omega)).trans y2
 have hnew := World.alloc_heap_new Y (.cells #[.bool false, .string s, .slice none 0 0, .bool false, .string v, .slice none 0 0] 55)
 rw [hY] at hnew
 have hsz : (Y.alloc (.cells #[.bool false, .string s, .slice none 0 0, .bool false, .string v, .slice none 0 0] 55)).heap.size = w8.heap.size + 1 := by simp [hY]
 have hz := HZ.out
 have B5 := B4.alloc (by rw [hY]; omega) (.cells #[.bool false, .string s, .slice none 0 0, .bool false, .string v, .slice none 0 0] 55)
 generalize Y.alloc (.cells #[.bool false, .string s, .slice none 0 0, .bool false, .string v, .slice none 0 0] 55) = Z at B5 hnew hsz y0 y1 y2 ⊢
 refine bodyPost_ret (v := .agg #[.bool true, .string ⟨#[]⟩, .slice (some ⟨w8.heap.size, 0, none⟩) 2 2]) (by simp [results, Tryd.results51, go_sem, y0, y1, y2]) rfl ?_
 refine ⟨by rw [hz]; exact B5, .mk true ⟨#[]⟩ (some ⟨w8.heap.size, 0, none⟩) 2 [txt s, txt v], rfl, rfl, ?_⟩
 exact two_P (txt s) (txt v) hnew ⟨by omega, by rw [hsz]; omega⟩ trivial trivial
end Go.Proofs.YtbmapdkcccdmfaaDoor
namespace Go.Proofs.YtbmapdkcccdmfaaDoor
open Go.RowKit Go.Shelf Go.Sort

set_option maxRecDepth 20000 in
set_option maxHeartbeats 2000000 in
theorem node_bridge (f : Nat) (hRC : ReC f) (p0 : Pr) (rs : List Pr) (h2 : 1 ≤ rs.length) (d : Nat) (hf : 129 ≤ f + 1 + d) (hr : RightP (p0 :: rs)) (hok : Ok d (ents (srt (p0 :: rs)))) (av : Nat) (ha : alkV d (enP p0) (rs.map enP) = av) (h0 : av ≠ 0) (a : Option Addr) (c n : Nat) (w : World) (hn : n ≤ w.heap.size) (hp : slP n w a (p0 :: rs)) :
  Calls Tryd.prog 51 #[.slice a (p0 :: rs).length c, .int .i64 d] w fun e w' => Below w.heap.size w w' ∧ ∃ im : Im, e = .returned im.val ∧ er im = noF (f + 1) d (p0 :: rs) ∧ inP (fun q => w.heap.size ≤ q ∧ q < w'.heap.size) w' im := by
 have hsz : ∀ p ∈ p0 :: rs, p.1.size ≤ 64 := fun p hp => by
  obtain ⟨j, hj⟩ := List.getElem?_of_mem hp
  exact ((pOk_iff p).1 (hr.2.1 j p hj)).2.1
 have hdd : ∀ p ∈ p0 :: rs, d ≤ (ofOf p.1).size := fun p hp => by
  have := (Ok_iff d _).1 hok
  exact (this.2.2.1 (enP p) (mem_ents.2 ⟨p, hp, rfl⟩)).1
 obtain ⟨hno, hok2⟩ := noF_bridge (f := f) hok h2 ha h0
 rw [hno]
 have hda : d + av ≤ (ofOf p0.1).size := by
  have := (Ok_iff (d + av) _).1 hok2
  exact (this.2.2.1 (enP p0) (mem_ents.2 ⟨p0, by simp, rfl⟩)).1
 have h64 := hsz p0 (by simp)
 have hos := of_sz p0.1
 have A0 := be_new w (.cells #[.bool false, .string ⟨#[]⟩, .slice none 0 0] 55)
 have hR0 := zero_new w
 have hp0 := slP_below (A0.mono hn) hp
 have hn0 : n ≤ (w.alloc (.cells #[.bool false, .string ⟨#[]⟩, .slice none 0 0] 55)).heap.size := Nat.le_trans hn A0.size
 have KA := alike_any p0 rs hsz hr.1 d hdd a c n _ hn0 hp0
 rw [ha] at KA
 have KO := fun w => rof_any p0.1 (by omega) w
 obtain ⟨P, hP⟩ : ∃ P, ofOf p0.1 = P := ⟨_, rfl⟩
 obtain ⟨q, hq⟩ : ∃ q, (tl d (enP p0)).extract 0 av = q := ⟨_, rfl⟩
 have hq2 : P.extract d (d + av) = q := by
  rw [← hP, ← hq]
  show _ = ((ofOf p0.1).extract d (ofOf p0.1).size).extract 0 av
  rw [ByteArray.extract_extract]
  congr 1
  omega
 have hqs : q.size ≤ 1000 := by rw [← hq2, ByteArray.size_extract]; rw [hP] at hos; omega
 have KF := fun w => rform6_any q false hqs w
 have KR := fun W hn hp => hRC (p0 :: rs) (d + av) (by omega) hr hok2 a c n W hn hp
 obtain ⟨x, hx⟩ : ∃ x, refI (noF f (d + av) (p0 :: rs)) = x := ⟨_, rfl⟩
 rw [hx] at KR ⊢
 rw [hP] at KO hda hos
 rw [hq]
 obtain ⟨s, hs⟩ : ∃ s, fmS q false = s := ⟨_, rfl⟩
 rw [hs] at KF ⊢
 obtain ⟨N, hN⟩ : ∃ N, (p0 :: rs).length = N := ⟨_, rfl⟩
 have l1 : ((N : Int) == 1) = false := by rw [beq_eq_false_iff_ne]; rw [← hN, List.length_cons]; omega
 obtain ⟨b, o, hab, hb, c0, _⟩ := slP_at hp 0 p0 rfl
 rw [Nat.mul_zero, Nat.add_zero] at c0
 rw [hN] at KA KR ⊢
 have HP : Hid _ := hp
 have l2 : (d : Int) ≤ P.size := by omega
 have l3 : ((d + av : Nat) : Int) ≤ P.size := by omega
 have l4 : (0 : Int) < av := by omega
 have l5 : (d : Int) ≤ ((d + av : Nat) : Int) := by omega
 have wa : IntKind.i64.wrap ((d : Int) + av) = ((d + av : Nat) : Int) := by rw [IntKind.wrap_i64]; omega
 have l6 : 1 ≤ N := by rw [← hN, List.length_cons]; omega
 have l7 : (0 : Int) < N := by omega
 obtain ⟨da, hda2⟩ : ∃ da, d + av = da := ⟨_, rfl⟩
 rw [hda2] at hq2 l3 l5 wa KR
 subst hab
 clear hos h64 hP hq hs hqs hno hok hok2 ha hx hp hp0 hr hsz hdd hN hda hda2 h0
 go_enter Tryd.func51, Tryd.ntmps51
 go_wp2_with fail
 refine KA.mono ?_
 rintro e w1 ⟨rfl, B1⟩
 have BW1 := belowStep A0 A0.size B1
 have hR1 : ItIn w.heap.size zeroI w1 := (B1.block _ (by simp)).trans hR0
 have hlt1 : w.heap.size < w1.heap.size := by have := B1.size; simp at this; omega
 have c01 := (BW1.cell (p := ⟨b, o, none⟩) (by show b < w.heap.size; omega)).trans c0
 clear KA A0 hR0 B1 c0
 go_wp2_with fail
 refine (KO _).mono ?_
 rintro e w2 ⟨rfl, B2⟩
 have BW2 := belowStep BW1 (by omega) B2
 have hR2 : ItIn w.heap.size zeroI w2 := (B2.block _ hlt1).trans hR1
 have hlt2 : w.heap.size < w2.heap.size := by have := B2.size; omega
 clear KO B2 hR1 BW1 c01
 go_wp2_with fail
 refine (KF _).mono ?_
 rintro e w3 ⟨rfl, B3⟩
 have BW3 := belowStep BW2 (by omega) B3
 have hR3 : ItIn w.heap.size zeroI w3 := (B3.block _ hlt2).trans hR2
 have hlt3 : w.heap.size < w3.heap.size := by have := B3.size; omega
 clear KF B3 hR2 BW2
 dsimp only [txt, Im.val, Im.l, Im.t, Im.sl, Im.a, Im.xs, Im.c, List.length_nil]
 go_wp2_with fail
 refine (KR w3 (by omega) (slP_below (BW3.mono hn) HP.out)).mono ?_
 rintro e w8 ⟨B8, im, rfl, he, hin⟩
 have BW := belowStep BW3 (by omega) B8
 have hR : ItIn w.heap.size zeroI w8 := (B8.block _ hlt3).trans hR3
 have hlt8 : w.heap.size < w8.heap.size := by have := B8.size; omega
 have HI : Hid (_ ∧ _) := ⟨he, hin⟩
 clear KR B8 hR3 BW3 he hin
 obtain ⟨il, it, ia, ic, ix⟩ := im
 dsimp only [Im.val, Im.l, Im.t, Im.sl, Im.a, Im.xs, Im.c]
 obtain ⟨bR, hbR⟩ : ∃ c, w.heap.size = c := ⟨_, rfl⟩
 have HZ : Hid (w.heap.size = bR) := hbR
 rw [hbR] at hR BW hlt8 hlt3 ⊢
 clear hbR
 have d0 : w8.cell? ⟨bR, 0, none⟩ = some (.bool false) := by rw [Lib.cell_of_heap hR]; rfl
 have d1 : w8.cell? ⟨bR, 1, none⟩ = some (.string ⟨#[]⟩) := by rw [Lib.cell_of_heap hR]; rfl
 have d2 : w8.cell? ⟨bR, 2, none⟩ = some (.slice none 0 0) := by rw [Lib.cell_of_heap hR]; rfl
 have f0 := Lib.frozen_of_heap hR 0
 have f1 := Lib.frozen_of_heap hR 1
 have f2 := Lib.frozen_of_heap hR 2
 have HF : Hid _ := BW
 clear hR BW
 go_wp2
 have B4 := below_set (below_set (below_set HF.out bR 0 (Nat.le_refl _) (.bool true)) bR 1 (Nat.le_refl _) (.string ⟨#[]⟩)) bR 2 (Nat.le_refl _) (.slice (some ⟨w8.heap.size, 0, none⟩) 2 2)
 have hY : (((w8.setCell ⟨bR, 0, none⟩ (.bool true)).setCell ⟨bR, 1, none⟩ (.string ⟨#[]⟩)).setCell ⟨bR, 2, none⟩ (.slice (some ⟨w8.heap.size, 0, none⟩) 2 2)).heap.size = w8.heap.size := by simp [World.setCell]
 have y0 : (((w8.setCell ⟨bR, 0, none⟩ (.bool true)).setCell ⟨bR, 1, none⟩ (.string ⟨#[]⟩)).setCell ⟨bR, 2, none⟩ (.slice (some ⟨w8.heap.size, 0, none⟩) 2 2)).cell? ⟨bR, 0, none⟩ = some (.bool true) := by simp [go_sem, d0]
 have y1 : (((w8.setCell ⟨bR, 0, none⟩ (.bool true)).setCell ⟨bR, 1, none⟩ (.string ⟨#[]⟩)).setCell ⟨bR, 2, none⟩ (.slice (some ⟨w8.heap.size, 0, none⟩) 2 2)).cell? ⟨bR, 1, none⟩ = some (.string ⟨#[]⟩) := by simp [go_sem, d1]
 have y2 : (((w8.setCell ⟨bR, 0, none⟩ (.bool true)).setCell ⟨bR, 1, none⟩ (.string ⟨#[]⟩)).setCell ⟨bR, 2, none⟩ (.slice (some ⟨w8.heap.size, 0, none⟩) 2 2)).cell? ⟨bR, 2, none⟩ = some (.slice (some ⟨w8.heap.size, 0, none⟩) 2 2) := by simp [go_sem, d2]
 have hbx : ∀ k, k ≠ bR → (((w8.setCell ⟨bR, 0, none⟩ (.bool true)).setCell ⟨bR, 1, none⟩ (.string ⟨#[]⟩)).setCell ⟨bR, 2, none⟩ (.slice (some ⟨w8.heap.size, 0, none⟩) 2 2)).heap[k]? = w8.heap[k]? := fun k hk => box_set w8 bR _ _ _ k hk
 generalize ((w8.setCell ⟨bR, 0, none⟩ (.bool true)).setCell ⟨bR, 1, none⟩ (.string ⟨#[]⟩)).setCell ⟨bR, 2, none⟩ (.slice (some ⟨w8.heap.size, 0, none⟩) 2 2) = Y at B4 hY y0 y1 y2 hbx ⊢
 have AY := be_new Y (.cells #[.bool false, .string s, .slice none 0 0, .bool il, .string it, .slice ia ix.length ic] 55)
 replace y0 := (AY.cell (p := ⟨bR, 0, none⟩) (by show bR < Y.heap.size; omega)).trans y0
 replace y1 := (AY.cell (p := ⟨bR, 1, none⟩) (by show bR < Y.heap.size; omega)).trans y1
 replace y2 := (AY.cell (p := ⟨bR, 2, none⟩) (by show bR < Y.heap.size; omega)).trans y2
 have hnew := World.alloc_heap_new Y (.cells #[.bool false, .string s, .slice none 0 0, .bool il, .string it, .slice ia ix.length ic] 55)
 rw [hY] at hnew
 have hsz : (Y.alloc (.cells #[.bool false, .string s, .slice none 0 0, .bool il, .string it, .slice ia ix.length ic] 55)).heap.size = w8.heap.size + 1 := by simp [hY]
 have hz := HZ.out
 have B5 := B4.alloc (by rw [hY]; omega) (.cells #[.bool false, .string s, .slice none 0 0, .bool il, .string it, .slice ia ix.length ic] 55)
 have hin2 : inP (fun q => w.heap.size ≤ q ∧ q < (Y.alloc (.cells #[.bool false, .string s, .slice none 0 0, .bool il, .string it, .slice ia ix.length ic] 55)).heap.size) (Y.alloc (.cells #[.bool false, .string s, .slice none 0 0, .bool il, .string it, .slice ia ix.length ic] 55)) (.mk il it ia ic ix) := by
  refine inP_of (fun k hk => ⟨⟨by omega, by rw [hsz]; have := hk.2; omega⟩, fun j => ?_⟩) _ HI.out.2
  have hk1 := hk.1
  have hk2 := hk.2
  rw [AY.cell (p := ⟨k, j, none⟩) (by show k < Y.heap.size; omega)]
  exact World.cell?_of_block (hbx k (by omega))
 generalize Y.alloc (.cells #[.bool false, .string s, .slice none 0 0, .bool il, .string it, .slice ia ix.length ic] 55) = Z at B5 hnew hsz y0 y1 y2 hin2 ⊢
 refine bodyPost_ret (v := .agg #[.bool true, .string ⟨#[]⟩, .slice (some ⟨w8.heap.size, 0, none⟩) 2 2]) (by simp [results, Tryd.results51, go_sem, y0, y1, y2]) rfl ?_
 refine ⟨by rw [hz]; exact B5, .mk true ⟨#[]⟩ (some ⟨w8.heap.size, 0, none⟩) 2 [txt s, .mk il it ia ic ix], rfl, ?_, ?_⟩
 ·show It.mk true ⟨#[]⟩ [tx s, er (.mk il it ia ic ix)] = _
  rw [HI.out.1]
 ·exact two_P (txt s) (.mk il it ia ic ix) hnew ⟨by omega, by rw [hsz]; omega⟩ trivial hin2
end Go.Proofs.YtbmapdkcccdmfaaDoor
namespace Go.Proofs.YtbmapdkcccdmfaaDoor
open Go.RowKit Go.Shelf Go.Sort

def XB (bX : Nat) (v : Value) (W : World) : Prop := W.heap[bX]? = some (.cells #[.bool true, .string ⟨#[]⟩, v] 55 (0, 0))
theorem XB.lt {bX : Nat} {v : Value} {W : World} (h : XB bX v W) : bX < W.heap.size := (Array.getElem?_eq_some_iff.1 h).1
theorem XB.below {bX : Nat} {v : Value} {W W' : World} (h : XB bX v W) (hb : Below W.heap.size W W') : XB bX v W' := (hb.block _ h.lt).trans h
theorem XB.set {bX : Nat} {v u : Value} {W : World} (h : XB bX v W) : XB bX u (W.setCell ⟨bX, 2, none⟩ u) := by
 unfold XB at h ⊢
 simp [World.setCell, Array.getElem?_modify, h]
def iC (ims : List Im) : List Value := ims.flatMap cell3
theorem iC_snoc (ims : List Im) (im : Im) : iC (ims ++ [im]) = iC ims ++ cell3 im := by simp [iC]
theorem iC_len : ∀ ims : List Im, (iC ims).length = ims.length * 3
 | [] => rfl
 | im :: r => by
  show (cell3 im ++ iC r).length = _
  rw [List.length_append, iC_len r, List.length_cons]
  show 3 + _ = _
  omega
theorem iC_at : ∀ (ims : List Im) (i : Nat) (im : Im), ims[i]? = some im → (iC ims)[3 * i]? = some (.bool im.l) ∧ (iC ims)[3 * i + 1]? = some (.string im.t) ∧ (iC ims)[3 * i + 2]? = some im.sl
 | [], _, _, h => by cases h
 | x :: r, 0, im, h => by
  cases h
  exact ⟨rfl, rfl, rfl⟩
 | x :: r, i + 1, im, h => by
  obtain ⟨h1, h2, h3⟩ := iC_at r i im h
  have e : iC (x :: r) = .bool x.l :: .string x.t :: x.sl :: iC r := rfl
  rw [e, show 3 * (i + 1) = 3 * i + 1 + 1 + 1 by omega]
  exact ⟨by simpa using h1, by simpa [show 3 * i + 1 + 1 + 1 + 1 = (3 * i + 1) + 1 + 1 + 1 by omega] using h2, by simpa [show 3 * i + 1 + 1 + 1 + 2 = (3 * i + 2) + 1 + 1 + 1 by omega] using h3⟩
theorem rowP_owns {p : Nat → Prop} {W : World} {zz g n c : Nat} {ims : List Im} (h : W.ownsRow zz 55 3 (.slice (some ⟨g, 0, none⟩) n c) n (iC ims)) (hg : p g) (hi : ∀ im ∈ ims, inP p W im) : rowP p W (some ⟨g, 0, none⟩) 0 ims := by
 have hl : n = ims.length := by
  have := h.1
  rw [iC_len] at this
  omega
 have key : ∀ (r : List Im) (i : Nat), (∀ j im, r[j]? = some im → ims[i + j]? = some im) → rowP p W (some ⟨g, 0, none⟩) i r := by
  intro r
  induction r with
  | nil => exact fun _ _ => trivial
  | cons x r ih =>
   intro i hr
   have hx := hr 0 x rfl
   rw [Nat.add_zero] at hx
   obtain ⟨h1, h2, h3⟩ := iC_at ims i x hx
   have hlt : i < ims.length := (List.getElem?_eq_some_iff.1 hx).1
   refine ⟨⟨g, 0, hg, rfl, ?_, ?_, ?_⟩, hi x (List.mem_of_getElem? hx), ih (i + 1) fun j im hj => ?_⟩
   ·rw [h.cellAt (0 + 3 * i) (by omega), Nat.zero_add, h1]
   ·rw [h.cellAt (0 + 3 * i + 1) (by omega), Nat.zero_add, h2]
   ·rw [h.cellAt (0 + 3 * i + 2) (by omega), Nat.zero_add, h3]
   ·rw [show i + 1 + j = i + (j + 1) by omega]
    exact hr (j + 1) im hj
 exact key ims 0 fun j im hj => by rw [Nat.zero_add]; exact hj
structure FkS (z bX : Nat) (w : World) (k : Nat) (v : Value) (X : List It) (W : World) : Prop where
 b : Below z w W
 r : ItIn z zeroI W
 x : XB bX v W
 i : ∃ ims : List Im, ers ims = X ∧ W.ownsRow (bX + 1) 55 3 v k (iC ims) ∧ ∀ im ∈ ims, inP (fun q => bX < q ∧ q < W.heap.size ∧ some q ≠ v.ownBlock) W im
theorem FkS.below {z bX k : Nat} {w : World} {v : Value} {X : List It} {W W' : World} (h : FkS z bX w k v X W) (hz : z < W.heap.size) (hb : Below W.heap.size W W') : FkS z bX w k v X W' := by
 obtain ⟨ims, h1, h2, h3⟩ := h.i
 refine ⟨belowStep h.b (Nat.le_of_lt hz) hb, (hb.block _ hz).trans h.r, h.x.below hb, ims, h1, owns_below2 h2 hb, fun im him => inP_of (fun q hq => ⟨⟨hq.1, Nat.lt_of_lt_of_le hq.2.1 hb.size, hq.2.2⟩, fun k => hb.cell (p := ⟨q, k, none⟩) hq.2.1⟩) im (h3 im him)⟩
theorem ers_snoc (ims : List Im) (im : Im) : ers (ims ++ [im]) = ers ims ++ [er im] := by
 induction ims with
 | nil => rfl
 | cons x r ih =>
  show er x :: ers (r ++ [im]) = er x :: ers r ++ [er im]
  rw [ih]
  rfl
theorem fk_more {z bX k : Nat} {w : World} {v v' : Value} {X : List It} {x : It} {W W1 : World} {ims : List Im} {im : Im} (hb : Below z w W) (hr : ItIn z zeroI W) (hx : XB bX v W) (h1 : ers ims = X) (h3 : ∀ im ∈ ims, inP (fun q => bX < q ∧ q < W.heap.size ∧ some q ≠ v.ownBlock) W im)
  (him : inP (fun q => bX < q ∧ q < W.heap.size ∧ some q ≠ v.ownBlock) W im) (he : er im = x) (hzX : z < bX) (own' : W1.ownsRow (bX + 1) 55 3 v' (k + 1) (iC ims ++ cell3 im)) (hgr : W.grownBy W1 v.ownBlock) (hob : ∀ q, v.ownBlock = some q → bX < q)
  (hv' : v'.ownBlock = v.ownBlock ∨ ∃ g, v'.ownBlock = some g ∧ W.heap.size ≤ g) : FkS z bX w (k + 1) v' (X ++ [x]) (W1.setCell ⟨bX, 2, none⟩ v') := by
 have hxl := hx.lt
 have hne : some bX ≠ v.ownBlock := fun e => by have := hob bX e.symm; omega
 have hnz : some z ≠ v.ownBlock := fun e => by have := hob z e.symm; omega
 have hx1 : XB bX v W1 := (hgr.block bX hxl hne).trans hx
 have keep : ∀ q, (bX < q ∧ q < W.heap.size ∧ some q ≠ v.ownBlock) → (bX < q ∧ q < (W1.setCell ⟨bX, 2, none⟩ v').heap.size ∧ some q ≠ v'.ownBlock) ∧ ∀ k, (W1.setCell ⟨bX, 2, none⟩ v').cell? ⟨q, k, none⟩ = W.cell? ⟨q, k, none⟩ := fun q hq => by
  have hs := hgr.size
  refine ⟨⟨hq.1, ?_, ?_⟩, fun k => ?_⟩
  ·have : (W1.setCell ⟨bX, 2, none⟩ v').heap.size = W1.heap.size := by simp [World.setCell]
   rw [this]
   omega
  ·rcases hv' with e | ⟨g, e, hg⟩
   ·rw [e]; exact hq.2.2
   ·rw [e]
    intro e2
    injection e2 with e2
    omega
  ·exact World.cell?_of_block ((Below.heap_setCell _ _ _ _ (by show q ≠ bX; omega)).trans (hgr.block q hq.2.1 hq.2.2))
 refine ⟨(hb.grown hgr (by omega) (fun q e => by have := hob q e; omega)).setCell (by show z ≤ bX; omega) _, (Below.heap_setCell _ _ _ _ (by show z ≠ bX; omega)).trans ((hgr.block z (by omega) hnz).trans hr), hx1.set, ims ++ [im], by rw [ers_snoc, h1, he], ?_, fun im' him' => ?_⟩
 ·rw [iC_snoc]
  refine own'.kept (row := some bX) ⟨rfl, rfl, rfl, by simp [World.setCell], fun q _ hq => Below.heap_setCell _ _ _ _ (fun e => hq (by simp [e]))⟩ ?_
  cases hvb : v'.ownBlock with
  | none => exact .inl rfl
  | some q =>
   refine .inr fun e => ?_
   injection e with e
   have := (own'.lt q hvb).1
   omega
 ·rcases List.mem_append.1 him' with h | h
  ·exact inP_of keep _ (h3 im' h)
  ·rw [List.mem_singleton.1 h]
   exact inP_of keep _ him
structure HvK (V : World) (bX d M c3 : Nat) (a3 : Option Addr) (v : Value) (y : It) (S : Nat → Bool) (x71 x72 x73 x74 x75 x76 x77 : Value) (W : World) : Prop where
 e : Below V.heap.size V W
 f0 : S 0 = true → x71 = Value.pointer (some ⟨bX, 2, none⟩)
 f1 : S 1 = true → x72 = v
 f2 : S 2 = true → x73 = Value.slice a3 M c3
 f3 : S 3 = true → x74 = Value.int .i64 (d : Int)
 f4 : S 4 = true → x75 = Value.int .i64 ((d + 1 : Nat) : Int)
 f5 : S 5 = true → ∃ im : Im, x76 = im.val ∧ er im = y ∧ inP (fun q => V.heap.size ≤ q ∧ q < W.heap.size) W im
 f6 : S 6 = true → ∃ (im : Im) (g : Nat), x77 = .slice (some ⟨g, 0, none⟩) 1 1 ∧ V.heap.size ≤ g ∧ g < W.heap.size ∧ W.heap[g]? = some (.cells #[.bool im.l, .string im.t, im.sl] 55 (0, 0)) ∧ er im = y ∧ inP (fun q => V.heap.size ≤ q ∧ q < W.heap.size) W im
theorem HvK.grow {V : World} {bX d M c3 : Nat} {a3 : Option Addr} {v : Value} {y : It} {S : Nat → Bool} {x71 x72 x73 x74 x75 x76 x77 : Value} {W W' : World} (h : HvK V bX d M c3 a3 v y S x71 x72 x73 x74 x75 x76 x77 W) (hb : Below W.heap.size W W') : HvK V bX d M c3 a3 v y S x71 x72 x73 x74 x75 x76 x77 W' :=
 ⟨belowStep h.e h.e.size hb, h.f0, h.f1, h.f2, h.f3, h.f4, fun s => (h.f5 s).imp fun _ ⟨j1, j2, j3⟩ => ⟨j1, j2, inP_of (fun q hq => ⟨⟨hq.1, Nat.lt_of_lt_of_le hq.2 hb.size⟩, fun k => hb.cell (p := ⟨q, k, none⟩) hq.2⟩) _ j3⟩, fun s => let ⟨im, g, j1, j0, j2, j3, j4, j5⟩ := (h.f6 s); ⟨im, g, j1, j0, Nat.lt_of_lt_of_le j2 hb.size, (hb.block _ j2).trans j3, j4, inP_of (fun q hq => ⟨⟨hq.1, Nat.lt_of_lt_of_le hq.2 hb.size⟩, fun k => hb.cell (p := ⟨q, k, none⟩) hq.2⟩) _ j5⟩⟩
structure EvK (V : World) (bX d N c : Nat) (a : Option Addr) (v : Value) (vl : ByteArray) (S : Nat → Bool) (x80 x81 x82 x83 x84 x85 x86 : Value) (W : World) : Prop where
 e : Below V.heap.size V W
 f0 : S 0 = true → x80 = Value.pointer (some ⟨bX, 2, none⟩)
 f1 : S 1 = true → x81 = v
 f2 : S 2 = true → x82 = Value.slice a N c
 f3 : S 3 = true → x83 = Value.int .i64 (d : Int)
 f4 : S 4 = true → x84 = Value.string vl
 f5 : S 5 = true → x85 = Value.agg #[.bool false, .string vl, .slice none 0 0]
 f6 : S 6 = true → ∃ (g : Nat), x86 = .slice (some ⟨g, 0, none⟩) 1 1 ∧ V.heap.size ≤ g ∧ g < W.heap.size ∧ W.heap[g]? = some (.cells #[.bool false, .string vl, .slice none 0 0] 55 (0, 0))
theorem EvK.grow {V : World} {bX d N c : Nat} {a : Option Addr} {v : Value} {vl : ByteArray} {S : Nat → Bool} {x80 x81 x82 x83 x84 x85 x86 : Value} {W W' : World} (h : EvK V bX d N c a v vl S x80 x81 x82 x83 x84 x85 x86 W) (hb : Below W.heap.size W W') : EvK V bX d N c a v vl S x80 x81 x82 x83 x84 x85 x86 W' :=
 ⟨belowStep h.e h.e.size hb, h.f0, h.f1, h.f2, h.f3, h.f4, h.f5, fun s => (h.f6 s).imp fun _ ⟨j1, j0, j2, j3⟩ => ⟨j1, j0, Nat.lt_of_lt_of_le j2 hb.size, (hb.block _ j2).trans j3⟩⟩
set_option maxRecDepth 20000 in
set_option maxHeartbeats 4000000 in
theorem node_fork (f : Nat) (hRC : ReC f) (p0 : Pr) (rs : List Pr) (h2 : 1 ≤ rs.length) (d : Nat) (hf : 129 ≤ f + 1 + d) (hr : RightP (p0 :: rs)) (hok : Ok d (ents (srt (p0 :: rs)))) (ha : alkV d (enP p0) (rs.map enP) = 0) (a : Option Addr) (c n : Nat) (w : World) (hn : n ≤ w.heap.size) (hp : slP n w a (p0 :: rs)) :
  Calls Tryd.prog 51 #[.slice a (p0 :: rs).length c, .int .i64 d] w fun e w' => Below w.heap.size w w' ∧ ∃ im : Im, e = .returned im.val ∧ er im = noF (f + 1) d (p0 :: rs) ∧ inP (fun q => w.heap.size ≤ q ∧ q < w'.heap.size) w' im := by
 obtain ⟨i0, hi0, hz0, hz1, hz2⟩ := info_parts info_item
 have hsz : ∀ p ∈ p0 :: rs, p.1.size ≤ 64 := fun p hp => by
  obtain ⟨j, hj⟩ := List.getElem?_of_mem hp
  exact ((pOk_iff p).1 (hr.2.1 j p hj)).2.1
 have hdd : ∀ p ∈ p0 :: rs, d ≤ (ofOf p.1).size := fun p hp => by
  have := (Ok_iff d _).1 hok
  exact (this.2.2.1 (enP p) (mem_ents.2 ⟨p, hp, rfl⟩)).1
 have hd128 : d ≤ 128 := by
  have h1 := hdd p0 (by simp)
  have h3 := hsz p0 (by simp)
  have h4 := of_sz p0.1
  omega
 have hno := noF_fork (f := f) hr hok h2 ha
 obtain ⟨NF, hNF⟩ : ∃ NF, noF (f + 1) d (p0 :: rs) = NF := ⟨_, rfl⟩
 rw [hNF] at hno ⊢
 clear hNF
 have A0 := be_new w (.cells #[.bool false, .string ⟨#[]⟩, .slice none 0 0] 55)
 have hR0 := zero_new w
 have hp0 := slP_below (A0.mono hn) hp
 have hn0 : n ≤ (w.alloc (.cells #[.bool false, .string ⟨#[]⟩, .slice none 0 0] 55)).heap.size := Nat.le_trans hn A0.size
 have KA := alike_any p0 rs hsz hr.1 d hdd a c n _ hn0 hp0
 rw [ha] at KA
 have h1N : 2 ≤ (p0 :: rs).length := by rw [List.length_cons]; omega
 obtain ⟨ps, hps⟩ : ∃ ps, p0 :: rs = ps := ⟨_, rfl⟩
 rw [hps] at hr hok hp hp0 hsz hdd KA hno h1N ⊢
 clear hps ha
 have KH := fun h a c n w hn hp => having_any ps hsz hr.1 d h a c n w hn hp
 have KE := fun a c n w hn hp => ending_any ps hsz hr.1 d a c n w hn hp
 have KR := fun (h : Int) (h0 : (hvP d h ps).length ≠ 0) => hRC (hvP d h ps) (d + 1) (by omega) (right_sub hr List.filter_sublist) (by rw [hv_srt hr]; exact hok.going h (by rw [← hv_srt hr, ents_len, (srt_perm _).length_eq]; exact h0))
 obtain ⟨VL, hVL⟩ : ∃ VL : Nat → It, (fun h : Nat => if (hvP d (h : Nat) ps).length = 0 then zIt else refI (noF f (d + 1) (hvP d (h : Nat) ps))) = VL := ⟨_, rfl⟩
 rw [hVL] at hno
 obtain ⟨N, hN⟩ : ∃ N, ps.length = N := ⟨_, rfl⟩
 have l1 : ((N : Int) == 1) = false := by rw [beq_eq_false_iff_ne]; omega
 rw [hN] at KA ⊢
 have HP : Hid _ := hp
 have HN : Hid (ps.length = N) := hN
 have HNO : Hid _ := hno
 have HVL : Hid _ := hVL
 have wd : IntKind.i64.wrap ((d : Int) + 1) = ((d + 1 : Nat) : Int) := by rw [IntKind.wrap_i64]; omega
 clear hp hp0 hsz hdd hN hno hVL h2 h1N
 go_enter Tryd.func51, Tryd.ntmps51
 go_wp2_with fail
 refine KA.mono ?_
 rintro e w1 ⟨rfl, B1⟩
 have BW1 := belowStep A0 A0.size B1
 have hR1 : ItIn w.heap.size zeroI w1 := (B1.block _ (by simp)).trans hR0
 have hlt1 : w.heap.size < w1.heap.size := by have := B1.size; simp at this; omega
 have A2 := be_new w1 (.cells #[.bool true, .string ⟨#[]⟩, .slice none 0 0] 55)
 have hX2 : XB w1.heap.size (.slice none 0 0) (w1.alloc (.cells #[.bool true, .string ⟨#[]⟩, .slice none 0 0] 55)) := World.alloc_heap_new w1 _
 have hs2 : (w1.alloc (.cells #[.bool true, .string ⟨#[]⟩, .slice none 0 0] 55)).heap.size = w1.heap.size + 1 := by simp
 have BW2 := belowStep BW1 (by omega) A2
 have hR2 := (A2.block _ hlt1).trans hR1
 clear KA A0 hR0 B1 A2 BW1 hR1
 obtain ⟨z, hz⟩ : ∃ z, w.heap.size = z := ⟨_, rfl⟩
 have HZ : Hid (w.heap.size = z) := hz
 rw [hz] at hlt1 BW2 hR2 hn
 obtain ⟨bX, hbX⟩ : ∃ b, w1.heap.size = b := ⟨_, rfl⟩
 rw [hbX] at hX2 hs2 hlt1
 have hF0 : FkS z bX w 0 (.slice none 0 0) [] (w1.alloc (.cells #[.bool true, .string ⟨#[]⟩, .slice none 0 0] 55)) := ⟨BW2, hR2, hX2, [], rfl, World.ownsRow_nil _ _ _ _, fun im h => by cases h⟩
 have HF0 : Hid _ := hF0
 have HBX : Hid _ := hbX
 clear hz BW2 hR2 hX2 hF0
 go_wp2_with fail
 go_loopg [8] 16 (fun gk i wr => ∃ (k : Nat) (v : Value), k + gk = 16 ∧ i = .int .i64 k ∧ bX < wr.heap.size ∧ Hid (FkS z bX w k v ((List.range k).map VL) wr))
 case atStart => exact ⟨0, _, by omega, rfl, by rw [hs2]; omega, HF0.out⟩
 case round =>
  obtain ⟨k, v, hk, rfl, hbx, hF⟩ := hrel
  by_cases hlt : k < 16
  ·have l3 : (k : Int) < 16 := by omega
   have wk : IntKind.i64.wrap ((k : Int) + 1) = ((k + 1 : Nat) : Int) := by rw [IntKind.wrap_i64]; omega
   have w8k : IntKind.u8.wrap (k : Int) = (k : Int) := by rw [IntKind.wrap_u8]; omega
   have hzw : z ≤ wr.heap.size := by omega
   have K1 := KH (k : Int) a c n wr (by omega) (slP_below (hF.out.b.mono hn) HP.out)
   rw [HN.out] at K1
   go_wp2_with fail
   refine K1.mono ?_
   rintro e w3 ⟨B3, a3, c3, rfl, hp3⟩
   have hF3 : FkS z bX w k v ((List.range k).map VL) w3 := hF.out.below (by omega) B3
   have hs3 := B3.size
   have hbx3 : bX < w3.heap.size := by omega
   obtain ⟨HVk, hHV⟩ : ∃ q, hvP d (k : Int) ps = q := ⟨_, rfl⟩
   have HVK : Hid _ := hHV
   clear hF K1
   obtain ⟨ims, m1, m2, m3⟩ := hF3.i
   have hob : ∀ q, v.ownBlock = some q → bX < q := fun q e => by have := (m2.lt q e).1; omega
   have c2 : w3.cell? ⟨bX, 2, none⟩ = some v := by rw [Lib.cell_of_heap hF3.x]; rfl
   have g2 := Lib.frozen_of_heap hF3.x 2
   by_cases hm0 : (hvP d (k : Int) ps).length = 0
   ·have hval : VL k = zIt := by
     rw [← HVL.out]
     show (if _ then _ else _) = _
     rw [if_pos hm0]
    rw [hm0]
    have A4 := be_new w3 (.cells #[.bool false, .string ⟨#[]⟩, .slice none 0 0] 55)
    have hnew := World.alloc_heap_new w3 (.cells #[.bool false, .string ⟨#[]⟩, .slice none 0 0] 55)
    have hF4 := hF3.below (by omega) A4
    have m2' := owns_below2 m2 A4
    have HV : Hid (_ ∧ _ ∧ _ ∧ _ ∧ _ ∧ _) := ⟨hF4, m2', hnew, m1, m3, A4⟩
    have hs4 := A4.size
    clear hF3 m2 hF4 m2' hnew m1 A4 hp3 m3
    go_wp2_with (at_builtin; refine wpList_append_where _ rfl _ _ 53 rfl (bX + 1) 55 i0 _ 3 48 Tryd.underlying53 hi0 hz0 hz1 hz2 rfl (by decide) _ k _ rfl HV.out.2.1 ⟨w3.heap.size, 0, none⟩ 1 1 [.bool false, .string ⟨#[]⟩, .slice none 0 0] rfl rfl ?c1 ?c2 (by unfold maxLen; omega) (by omega) ?c3 (by decide) ?_)
    case c1 =>
     intro j u hj
     rw [Addr.add_lit, Lib.cell_of_heap HV.out.2.2.1, Nat.zero_add]
     simpa using hj
    case c2 =>
     intro u hu
     simp only [List.mem_cons, List.not_mem_nil, or_false] at hu
     rcases hu with rfl | rfl | rfl <;> rfl
    case c3 => omega
    intro v' w6 a2 a3 a4 a5
    obtain ⟨gg, cc, rfl⟩ : ∃ g c, v' = .slice (some ⟨g, 0, none⟩) (k + 1) c := by
     rcases a2.2 with ⟨h, _⟩ | ⟨g, c, _, h, _⟩
     ·exact absurd h a4
     ·exact ⟨g, c, h⟩
    obtain ⟨hF4, m2', hnew, m1, m3, A4⟩ := HV.out
    have hF6 : FkS z bX w (k + 1) (.slice (some ⟨gg, 0, none⟩) (k + 1) cc) ((List.range (k + 1)).map VL) (w6.setCell ⟨bX, 2, none⟩ (.slice (some ⟨gg, 0, none⟩) (k + 1) cc)) := by
     rw [List.range_succ, List.map_append, List.map_singleton, hval]
     exact fk_more (im := .mk false ⟨#[]⟩ none 0 []) hF4.b hF4.r hF4.x m1 (fun im him => inP_of (fun q hq => ⟨⟨hq.1, Nat.lt_of_lt_of_le hq.2.1 A4.size, hq.2.2⟩, fun j => A4.cell (p := ⟨q, j, none⟩) hq.2.1⟩) im (m3 im him)) trivial rfl hlt1 a2 a3 hob (by rw [World.size_alloc]; exact a5)
    have hne6 : some bX ≠ v.ownBlock := fun e => by have := hob bX e.symm; omega
    have hx6 : XB bX v w6 := (a3.block bX (by omega) hne6).trans hF4.x
    have c6 : w6.cell? ⟨bX, 2, none⟩ = some v := by rw [Lib.cell_of_heap hx6]; rfl
    have g6 := Lib.frozen_of_heap hx6 2
    have hs6 := a3.size
    have HF6 : Hid _ := hF6
    clear a2 a3 a4 a5 hF4 m2' hnew m1 m3 A4 HV hF6 hx6 c2 g2
    go_wp2
    go_roundg (gk - 1)
    case measure => omega
    case rel => exact ⟨k + 1, _, by omega, by first | rfl | (congr 1; omega), by simp [World.setCell]; omega, HF6.out⟩
   ·have hval : VL k = refI (noF f (d + 1) (hvP d (k : Int) ps)) := by
     rw [← HVL.out]
     show (if _ then _ else _) = _
     rw [if_neg hm0]
    have KK := fun W (hbW : Below w3.heap.size w3 W) => KR (k : Int) hm0 a3 c3 w3.heap.size W hbW.size (slP_below hbW hp3)
    obtain ⟨M, hM⟩ : ∃ M, (hvP d (k : Int) ps).length = M := ⟨_, rfl⟩
    obtain ⟨y, hy⟩ : ∃ y, refI (noF f (d + 1) (hvP d (k : Int) ps)) = y := ⟨_, rfl⟩
    rw [hM] at KK hm0 ⊢
    rw [hy] at KK hval
    have lM : ((M : Int) == 0) = false := by rw [beq_eq_false_iff_ne]; omega
    have HV : Hid (_ ∧ _ ∧ _ ∧ _) := ⟨hF3, m1, m2, m3⟩
    have hF3x : XB bX v w3 := hF3.x
    clear hF3 m1 m2 m3 hM hy hHV hp3 hm0
    go_wp2_with fail
    refine region_inv_tail 7 (fun S aa W => ∃ x71 x72 x73 x74 x75 x76 x77 : Value, aa = { tmps := #[Value.slice a N c, Value.int IntKind.i64 (d : Int), undef, undef, Value.pointer (some ⟨w.heap.size, 0, none⟩), Value.int IntKind.i64 0, undef, Value.pointer (some ⟨bX, 0, none⟩), Value.int IntKind.i64 (k : Int), Value.slice a3 M c3, Value.slice a N c, Value.int IntKind.i64 (N : Int), Value.bool false, undef, undef, undef, undef, undef, undef, undef, undef, undef, undef, undef, undef, undef, undef, undef, Value.slice a N c, Value.int IntKind.i64 (d : Int), Value.int IntKind.i64 0, Value.int IntKind.i64 0, Value.bool false, undef, undef, undef, undef, undef, undef, undef, undef, undef, undef, undef, undef, undef, undef, undef, undef, undef, undef, undef, Value.agg #[Value.bool true, Value.string ⟨#[]⟩, Value.slice none 0 0], Value.int IntKind.i64 (k : Int), Value.bool true, u55, u56, Value.slice a N c, Value.int IntKind.i64 (d : Int), Value.int IntKind.i64 (k : Int), Value.int IntKind.u8 (k : Int), Value.slice a3 M c3, Value.slice a3 M c3, Value.int IntKind.i64 (M : Int), Value.bool false, u65, u66, u67, u68, u69, u70, x71, x72, x73, x74, x75, x76, x77, u78, u79, undef, undef, undef, undef, undef, undef, undef, undef, undef, undef], defers := [] } ∧ HvK w3 bX d M c3 a3 v y S x71 x72 x73 x74 x75 x76 x77 W) (by kernel_rfl) (by kernel_rfl) ?_ ?_ ?_
    ·exact ⟨u71, u72, u73, u74, u75, u76, u77, rfl, ⟨(Below.refl _ w3).drew, nofun, nofun, nofun, nofun, nofun, nofun, nofun⟩⟩
    ·intro i o S aa W hin hi hun hJ hall K hK
     obtain ⟨x71, x72, x73, x74, x75, x76, x77, rfl, h⟩ := hJ
     have hlt : i < 7 := hin
     have hcase : i = 0 ∨ i = 1 ∨ i = 2 ∨ i = 3 ∨ i = 4 ∨ i = 5 ∨ i = 6 := by omega
     rcases hcase with rfl | rfl | rfl | rfl | rfl | rfl | rfl
     all_goals (have ho := (Option.some.inj hi).symm; subst ho; clear hi hlt hin)
     ·go_simp
      exact hK _ _ ⟨_, _, _, _, _, _, _, rfl, { h with f0 := fun _ => rfl }⟩
     ·have s_0 : S 0 = true := hall ⟨0, .data⟩ (by simp) rfl
      obtain rfl := h.f0 s_0
      have cW : W.cell? ⟨bX, 2, none⟩ = some v := by rw [h.e.cell (p := ⟨bX, 2, none⟩) hbx3, Lib.cell_of_heap hF3x]; rfl
      go_simp
      exact hK _ _ ⟨_, _, _, _, _, _, _, rfl, { h with f1 := fun _ => rfl }⟩
     ·go_simp
      exact hK _ _ ⟨_, _, _, _, _, _, _, rfl, { h with f2 := fun _ => rfl }⟩
     ·go_simp
      exact hK _ _ ⟨_, _, _, _, _, _, _, rfl, { h with f3 := fun _ => rfl }⟩
     ·have s_3 : S 3 = true := hall ⟨3, .data⟩ (by simp) rfl
      obtain rfl := h.f3 s_3
      go_simp
      exact hK _ _ ⟨_, _, _, _, _, _, _, rfl, { h with f4 := fun _ => by first | rfl | (congr 1) }⟩
     ·have s_2 : S 2 = true := hall ⟨2, .data⟩ (by simp) rfl
      obtain rfl := h.f2 s_2
      have s_4 : S 4 = true := hall ⟨4, .data⟩ (by simp) rfl
      obtain rfl := h.f4 s_4
      go_simp
      refine (KK W h.e).mono ?_
      rintro e' w9 ⟨hb9, im9, rfl, he9, hin9⟩
      have h1 := h.grow hb9
      have hsz := h.e.size
      exact hK _ _ ⟨_, _, _, _, _, _, _, rfl, { h1 with f5 := fun _ => ⟨im9, rfl, he9, inP_of (fun q hq => ⟨⟨Nat.le_trans hsz hq.1, hq.2⟩, fun _ => rfl⟩) _ hin9⟩ }⟩
     ·have s_5 : S 5 = true := hall ⟨5, .data⟩ (by simp) rfl
      obtain ⟨im5, rfl, he5, hin5⟩ := h.f5 s_5
      obtain ⟨il, it, ia, ic, ix⟩ := im5
      dsimp only [Im.val, Im.l, Im.t, Im.sl, Im.a, Im.xs, Im.c]
      go_simp
      have h1 := h.grow ((Below.refl _ W).alloc (Nat.le_refl _) (.cells #[.bool il, .string it, .slice ia ix.length ic] 55))
      exact hK _ _ ⟨_, _, _, _, _, _, _, rfl, { h1 with f6 := fun _ => ⟨.mk il it ia ic ix, W.heap.size, rfl, h.e.size, by simp, World.alloc_heap_new W _, he5, inP_of (fun q hq => ⟨⟨hq.1, by rw [World.size_alloc]; exact Nat.lt_succ_of_lt hq.2⟩, fun k => ((Below.refl _ W).alloc (Nat.le_refl _) _).cell (p := ⟨q, k, none⟩) hq.2⟩) _ hin5⟩ }⟩
    ·rintro S aa W hall ⟨x71, x72, x73, x74, x75, x76, x77, rfl, h⟩
     obtain rfl := h.f0 (hall 0 (by decide))
     obtain rfl := h.f1 (hall 1 (by decide))
     obtain rfl := h.f2 (hall 2 (by decide))
     obtain rfl := h.f3 (hall 3 (by decide))
     obtain rfl := h.f4 (hall 4 (by decide))
     obtain ⟨im, gN, rfl, hgN, hhN, hcN, heN, hinN⟩ := h.f6 (hall 6 (by decide))
     have BWD := h.e
     clear h hall
     simp only [List.drop_succ_cons, List.drop_zero]
     obtain ⟨hF3, m1, m2, m3⟩ := HV.out
     have hF9 := hF3.below (by omega) BWD
     have m2' := owns_below2 m2 BWD
     have hs9 := BWD.size
     have m3' : ∀ im ∈ ims, inP (fun q => bX < q ∧ q < W.heap.size ∧ some q ≠ x72.ownBlock) W im := fun im him => inP_of (fun q hq => ⟨⟨hq.1, Nat.lt_of_lt_of_le hq.2.1 BWD.size, hq.2.2⟩, fun j => BWD.cell (p := ⟨q, j, none⟩) hq.2.1⟩) im (m3 im him)
     have hob2 : ∀ q, x72.ownBlock = some q → q < w3.heap.size := fun q e => (m2.lt q e).2
     have him : inP (fun q => bX < q ∧ q < W.heap.size ∧ some q ≠ x72.ownBlock) W im := inP_of (fun q hq => ⟨⟨by have := hq.1; omega, hq.2, fun e => by have := hob2 q e.symm; have := hq.1; omega⟩, fun _ => rfl⟩) im hinN
     have HW : Hid (_ ∧ _ ∧ _ ∧ _ ∧ _ ∧ _ ∧ _) := ⟨hF9, m2', m1, m3', him, heN, hcN⟩
     have hbxW : bX < W.heap.size := by omega
     clear hF9 m2' m1 m3' him heN hcN hF3 m2 m3 hinN HV BWD KK
     obtain ⟨il, it, ia, ic, ix⟩ := im
     go_wp2_with (at_builtin; refine wpList_append_where _ rfl _ _ 53 rfl (bX + 1) 55 i0 _ 3 48 Tryd.underlying53 hi0 hz0 hz1 hz2 rfl (by decide) _ k _ rfl HW.out.2.1 ⟨gN, 0, none⟩ 1 1 [.bool il, .string it, .slice ia ix.length ic] rfl rfl ?c1 ?c2 (by unfold maxLen; omega) (by omega) ?c3 (by decide) ?_)
     case c1 =>
      intro j u hj
      rw [Addr.add_lit, Lib.cell_of_heap HW.out.2.2.2.2.2.2, Nat.zero_add]
      have hj2 : [Value.bool (Im.mk il it ia ic ix).l, Value.string (Im.mk il it ia ic ix).t, (Im.mk il it ia ic ix).sl][j]? = some u := hj
      simpa using hj2
     case c2 =>
      intro u hu
      simp only [List.mem_cons, List.not_mem_nil, or_false] at hu
      rcases hu with rfl | rfl | rfl <;> rfl
     case c3 => omega
     intro v' w6 a2 a3 a4 a5
     obtain ⟨gg, cc, rfl⟩ : ∃ g c, v' = .slice (some ⟨g, 0, none⟩) (k + 1) c := by
      rcases a2.2 with ⟨h, _⟩ | ⟨g, c, _, h, _⟩
      ·exact absurd h a4
      ·exact ⟨g, c, h⟩
     obtain ⟨hF9, m2', m1, m3', him, heN, hcN⟩ := HW.out
     have hF6 : FkS z bX w (k + 1) (.slice (some ⟨gg, 0, none⟩) (k + 1) cc) ((List.range (k + 1)).map VL) (w6.setCell ⟨bX, 2, none⟩ (.slice (some ⟨gg, 0, none⟩) (k + 1) cc)) := by
      rw [List.range_succ, List.map_append, List.map_singleton, hval]
      exact fk_more (im := .mk il it ia ic ix) hF9.b hF9.r hF9.x m1 m3' him heN hlt1 a2 a3 hob a5
     have hne6 : some bX ≠ x72.ownBlock := fun e => by have := hob bX e.symm; omega
     have hx6 : XB bX x72 w6 := (a3.block bX (by omega) hne6).trans hF9.x
     have c6 : w6.cell? ⟨bX, 2, none⟩ = some x72 := by rw [Lib.cell_of_heap hx6]; rfl
     have g6 := Lib.frozen_of_heap hx6 2
     have hs6 := a3.size
     have HF6 : Hid _ := hF6
     clear a2 a3 a4 a5 hF9 m2' m1 m3' him heN hcN HW hF6 hx6 c2 g2
     go_wp2
     go_roundg (gk - 1)
     case measure => omega
     case rel => exact ⟨k + 1, _, by omega, by first | rfl | (congr 1; omega), by simp [World.setCell]; omega, HF6.out⟩
  ·have hk2 : k = 16 := by omega
   subst hk2
   have l3 : ¬ ((16 : Nat) : Int) < 16 := by decide
   have KE1 := fun W (hbW : Below wr.heap.size wr W) => KE a c n W (by have := hbW.size; omega) (slP_below (((hF.out.b.mono hn)).trans (hbW.mono (by omega))) HP.out)
   rw [HN.out] at KE1
   obtain ⟨ims, m1, m2, m3⟩ := hF.out.i
   have hob : ∀ q, v.ownBlock = some q → bX < q := fun q e => by have := (m2.lt q e).1; omega
   have hFx : XB bX v wr := hF.out.x
   obtain ⟨vl, hvl⟩ : ∃ vl, enV d ps = vl := ⟨_, rfl⟩
   have HVL2 : Hid _ := hvl
   rw [hvl] at KE1
   have HV : Hid (_ ∧ _ ∧ _) := ⟨m1, m2, m3⟩
   clear m1 m2 m3 hvl
   go_wp2_with fail
   refine region_inv_tail 7 (fun S aa W => ∃ x80 x81 x82 x83 x84 x85 x86 : Value, aa = { tmps := #[Value.slice a N c, Value.int IntKind.i64 (d : Int), undef, undef, Value.pointer (some ⟨w.heap.size, 0, none⟩), Value.int IntKind.i64 0, undef, Value.pointer (some ⟨bX, 0, none⟩), Value.int IntKind.i64 16, u9, Value.slice a N c, Value.int IntKind.i64 (N : Int), Value.bool false, undef, undef, undef, undef, undef, undef, undef, undef, undef, undef, undef, undef, undef, undef, undef, Value.slice a N c, Value.int IntKind.i64 (d : Int), Value.int IntKind.i64 0, Value.int IntKind.i64 0, Value.bool false, undef, undef, undef, undef, undef, undef, undef, undef, undef, undef, undef, undef, undef, undef, undef, undef, undef, undef, undef, Value.agg #[Value.bool true, Value.string ⟨#[]⟩, Value.slice none 0 0], Value.int IntKind.i64 16, Value.bool false, u55, u56, u57, u58, u59, u60, u61, u62, u63, u64, u65, u66, u67, u68, u69, u70, u71, u72, u73, u74, u75, u76, u77, u78, u79, x80, x81, x82, x83, x84, x85, x86, undef, undef, undef], defers := [] } ∧ EvK wr bX d N c a v vl S x80 x81 x82 x83 x84 x85 x86 W) (by kernel_rfl) (by kernel_rfl) ?_ ?_ ?_
   ·exact ⟨undef, undef, undef, undef, undef, undef, undef, rfl, ⟨(Below.refl _ wr).drew, nofun, nofun, nofun, nofun, nofun, nofun, nofun⟩⟩
   ·intro i o S aa W hin hi hun hJ hall K hK
    obtain ⟨x80, x81, x82, x83, x84, x85, x86, rfl, h⟩ := hJ
    have hlt : i < 7 := hin
    have hcase : i = 0 ∨ i = 1 ∨ i = 2 ∨ i = 3 ∨ i = 4 ∨ i = 5 ∨ i = 6 := by omega
    rcases hcase with rfl | rfl | rfl | rfl | rfl | rfl | rfl
    all_goals (have ho := (Option.some.inj hi).symm; subst ho; clear hi hlt hin)
    ·go_simp
     exact hK _ _ ⟨_, _, _, _, _, _, _, rfl, { h with f0 := fun _ => rfl }⟩
    ·have s_0 : S 0 = true := hall ⟨0, .data⟩ (by simp) rfl
     obtain rfl := h.f0 s_0
     have cW : W.cell? ⟨bX, 2, none⟩ = some v := by rw [h.e.cell (p := ⟨bX, 2, none⟩) hbx, Lib.cell_of_heap hFx]; rfl
     go_simp
     exact hK _ _ ⟨_, _, _, _, _, _, _, rfl, { h with f1 := fun _ => rfl }⟩
    ·go_simp
     exact hK _ _ ⟨_, _, _, _, _, _, _, rfl, { h with f2 := fun _ => rfl }⟩
    ·go_simp
     exact hK _ _ ⟨_, _, _, _, _, _, _, rfl, { h with f3 := fun _ => rfl }⟩
    ·have s_2 : S 2 = true := hall ⟨2, .data⟩ (by simp) rfl
     obtain rfl := h.f2 s_2
     have s_3 : S 3 = true := hall ⟨3, .data⟩ (by simp) rfl
     obtain rfl := h.f3 s_3
     go_simp
     refine (KE1 W h.e).mono ?_
     rintro e' w9 ⟨rfl, hb9⟩
     have h1 := h.grow hb9
     exact hK _ _ ⟨_, _, _, _, _, _, _, rfl, { h1 with f4 := fun _ => rfl }⟩
    ·have s_4 : S 4 = true := hall ⟨4, .data⟩ (by simp) rfl
     obtain rfl := h.f4 s_4
     go_simp
     exact hK _ _ ⟨_, _, _, _, _, _, _, rfl, { h with f5 := fun _ => rfl }⟩
    ·have s_5 : S 5 = true := hall ⟨5, .data⟩ (by simp) rfl
     obtain rfl := h.f5 s_5
     go_simp
     have h1 := h.grow ((Below.refl _ W).alloc (Nat.le_refl _) (.cells #[.bool false, .string vl, .slice none 0 0] 55))
     exact hK _ _ ⟨_, _, _, _, _, _, _, rfl, { h1 with f6 := fun _ => ⟨W.heap.size, rfl, h.e.size, by simp, World.alloc_heap_new W _⟩ }⟩
   ·rintro S aa W hall ⟨x80, x81, x82, x83, x84, x85, x86, rfl, h⟩
    obtain rfl := h.f0 (hall 0 (by decide))
    obtain rfl := h.f1 (hall 1 (by decide))
    obtain rfl := h.f2 (hall 2 (by decide))
    obtain rfl := h.f3 (hall 3 (by decide))
    obtain rfl := h.f4 (hall 4 (by decide))
    obtain rfl := h.f5 (hall 5 (by decide))
    obtain ⟨gN, rfl, hgN, hhN, hcN⟩ := h.f6 (hall 6 (by decide))
    have BWD := h.e
    clear h hall
    simp only [List.drop_succ_cons, List.drop_zero]
    obtain ⟨m1, m2, m3⟩ := HV.out
    have hF9 := hF.out.below (by omega) BWD
    have m2' := owns_below2 m2 BWD
    have hs9 := BWD.size
    have m3' : ∀ im ∈ ims, inP (fun q => bX < q ∧ q < W.heap.size ∧ some q ≠ x81.ownBlock) W im := fun im him => inP_of (fun q hq => ⟨⟨hq.1, Nat.lt_of_lt_of_le hq.2.1 BWD.size, hq.2.2⟩, fun j => BWD.cell (p := ⟨q, j, none⟩) hq.2.1⟩) im (m3 im him)
    have HW : Hid (_ ∧ _ ∧ _ ∧ _ ∧ _) := ⟨hF9, m2', m1, m3', hcN⟩
    have hbxW : bX < W.heap.size := by omega
    clear hF9 m2' m1 m3' hcN m2 m3 HV BWD KE1 hF
    go_wp2_with (at_builtin; refine wpList_append_where _ rfl _ _ 53 rfl (bX + 1) 55 i0 _ 3 48 Tryd.underlying53 hi0 hz0 hz1 hz2 rfl (by decide) _ 16 _ rfl HW.out.2.1 ⟨gN, 0, none⟩ 1 1 [.bool false, .string vl, .slice none 0 0] rfl rfl ?c1 ?c2 (by unfold maxLen; omega) (by omega) ?c3 (by decide) ?_)
    case c1 =>
     intro j u hj
     rw [Addr.add_lit, Lib.cell_of_heap HW.out.2.2.2.2, Nat.zero_add]
     simpa using hj
    case c2 =>
     intro u hu
     simp only [List.mem_cons, List.not_mem_nil, or_false] at hu
     rcases hu with rfl | rfl | rfl <;> rfl
    case c3 => omega
    intro v' w6 a2 a3 a4 a5
    obtain ⟨gg, cc, rfl⟩ : ∃ g c, v' = .slice (some ⟨g, 0, none⟩) (16 + 1) c := by
     rcases a2.2 with ⟨h, _⟩ | ⟨g, c, _, h, _⟩
     ·exact absurd h a4
     ·exact ⟨g, c, h⟩
    obtain ⟨hF9, m2', m1, m3', hcN⟩ := HW.out
    have hF6 : FkS z bX w (16 + 1) (.slice (some ⟨gg, 0, none⟩) (16 + 1) cc) ((List.range 16).map VL ++ [tx vl]) (w6.setCell ⟨bX, 2, none⟩ (.slice (some ⟨gg, 0, none⟩) (16 + 1) cc)) :=
     fk_more (im := txt vl) hF9.b hF9.r hF9.x m1 m3' trivial rfl hlt1 a2 a3 hob a5
    have hne6 : some bX ≠ x81.ownBlock := fun e => by have := hob bX e.symm; omega
    have hx6 : XB bX x81 w6 := (a3.block bX (by omega) hne6).trans hF9.x
    have hnz6 : some z ≠ x81.ownBlock := fun e => by have := hob z e.symm; omega
    have hr6 : ItIn z zeroI w6 := (a3.block z (by omega) hnz6).trans hF9.r
    have c60 : w6.cell? ⟨bX, 0, none⟩ = some (.bool true) := by rw [Lib.cell_of_heap hx6]; rfl
    have c61 : w6.cell? ⟨bX, 1, none⟩ = some (.string ⟨#[]⟩) := by rw [Lib.cell_of_heap hx6]; rfl
    have c6 : w6.cell? ⟨bX, 2, none⟩ = some x81 := by rw [Lib.cell_of_heap hx6]; rfl
    have g6 := Lib.frozen_of_heap hx6 2
    have e0 : w6.cell? ⟨z, 0, none⟩ = some (.bool false) := by rw [Lib.cell_of_heap hr6]; rfl
    have e1 : w6.cell? ⟨z, 1, none⟩ = some (.string ⟨#[]⟩) := by rw [Lib.cell_of_heap hr6]; rfl
    have e2 : w6.cell? ⟨z, 2, none⟩ = some (.slice none 0 0) := by rw [Lib.cell_of_heap hr6]; rfl
    have i0' := Lib.frozen_of_heap hr6 0
    have i1' := Lib.frozen_of_heap hr6 1
    have i2' := Lib.frozen_of_heap hr6 2
    have hs6 := a3.size
    have hzx : z ≠ bX := by omega
    have hxz : bX ≠ z := by omega
    have HF6 : Hid _ := hF6
    clear a2 a3 a4 a5 hF9 m2' m1 m3' hcN HW hF6 hx6 hr6
    rw [HZ.out]
    go_wp2
    have F6 := HF6.out
    have y0 : ((((w6.setCell ⟨bX, 2, none⟩ (.slice (some ⟨gg, 0, none⟩) 17 cc)).setCell ⟨z, 0, none⟩ (.bool true)).setCell ⟨z, 1, none⟩ (.string ⟨#[]⟩)).setCell ⟨z, 2, none⟩ (.slice (some ⟨gg, 0, none⟩) 17 cc)).cell? ⟨z, 0, none⟩ = some (.bool true) := by simp [go_sem, e0]
    have y1 : ((((w6.setCell ⟨bX, 2, none⟩ (.slice (some ⟨gg, 0, none⟩) 17 cc)).setCell ⟨z, 0, none⟩ (.bool true)).setCell ⟨z, 1, none⟩ (.string ⟨#[]⟩)).setCell ⟨z, 2, none⟩ (.slice (some ⟨gg, 0, none⟩) 17 cc)).cell? ⟨z, 1, none⟩ = some (.string ⟨#[]⟩) := by simp [go_sem, e1]
    have y2 : ((((w6.setCell ⟨bX, 2, none⟩ (.slice (some ⟨gg, 0, none⟩) 17 cc)).setCell ⟨z, 0, none⟩ (.bool true)).setCell ⟨z, 1, none⟩ (.string ⟨#[]⟩)).setCell ⟨z, 2, none⟩ (.slice (some ⟨gg, 0, none⟩) 17 cc)).cell? ⟨z, 2, none⟩ = some (.slice (some ⟨gg, 0, none⟩) 17 cc) := by simp [go_sem, e2]
    have hsW : w6.heap.size = (w6.setCell ⟨bX, 2, none⟩ (.slice (some ⟨gg, 0, none⟩) (16 + 1) cc)).heap.size := by simp [World.setCell]
    generalize w6.setCell ⟨bX, 2, none⟩ (.slice (some ⟨gg, 0, none⟩) 17 cc) = W5 at F6 y0 y1 y2 hsW ⊢
    have BZ := below_set (below_set (below_set F6.b z 0 (Nat.le_refl _) (.bool true)) z 1 (Nat.le_refl _) (.string ⟨#[]⟩)) z 2 (Nat.le_refl _) (.slice (some ⟨gg, 0, none⟩) 17 cc)
    have hbz : ∀ k, k ≠ z → (((W5.setCell ⟨z, 0, none⟩ (.bool true)).setCell ⟨z, 1, none⟩ (.string ⟨#[]⟩)).setCell ⟨z, 2, none⟩ (.slice (some ⟨gg, 0, none⟩) 17 cc)).heap[k]? = W5.heap[k]? := fun k hk => box_set W5 z _ _ _ k hk
    have hsY : (((W5.setCell ⟨z, 0, none⟩ (.bool true)).setCell ⟨z, 1, none⟩ (.string ⟨#[]⟩)).setCell ⟨z, 2, none⟩ (.slice (some ⟨gg, 0, none⟩) 17 cc)).heap.size = W5.heap.size := by simp [World.setCell]
    generalize ((W5.setCell ⟨z, 0, none⟩ (.bool true)).setCell ⟨z, 1, none⟩ (.string ⟨#[]⟩)).setCell ⟨z, 2, none⟩ (.slice (some ⟨gg, 0, none⟩) 17 cc) = Y at BZ hbz hsY y0 y1 y2 ⊢
    obtain ⟨ims2, o1, o2, o3⟩ := F6.i
    have hgg := o2.lt gg rfl
    have hlen : ims2.length = 17 := by
     have := o2.1
     rw [iC_len] at this
     omega
    have hrow := rowP_owns (p := fun q => bX < q ∧ q < W5.heap.size) o2 ⟨by omega, hgg.2⟩ (fun im him => inP_of (fun q hq => ⟨⟨hq.1, hq.2.1⟩, fun _ => rfl⟩) im (o3 im him))
    refine bodyPost_ret (v := .agg #[.bool true, .string ⟨#[]⟩, .slice (some ⟨gg, 0, none⟩) 17 cc]) (by simp [results, Tryd.results51, go_sem, y0, y1, y2]) rfl ?_
    refine ⟨by rw [HZ.out]; exact BZ, .mk true ⟨#[]⟩ (some ⟨gg, 0, none⟩) cc ims2, ?_, ?_, ?_⟩
    ·show _ = Ending.returned (.agg #[.bool true, .string ⟨#[]⟩, .slice (some ⟨gg, 0, none⟩) ims2.length cc])
     rw [hlen]
    ·show It.mk true ⟨#[]⟩ (ers ims2) = NF
     rw [o1, HNO.out, HVL2.out]
    ·exact rowP_of (fun q hq => ⟨⟨by rw [HZ.out]; omega, by rw [hsY]; exact hq.2⟩, fun k => World.cell?_of_block (hbz q (by omega))⟩) _ 0 ims2 hrow
end Go.Proofs.YtbmapdkcccdmfaaDoor
namespace Go.Proofs.YtbmapdkcccdmfaaDoor
open Go.RowKit Go.Shelf Go.Sort

theorem no_all : ∀ f : Nat, NoC f
 | 0 => fun ps d hf hr hok => by
  have h0 := hok.pos
  have h1 := hok.sz 0 ((ents (srt ps))[0]'(by omega)) (List.getElem?_eq_getElem (by omega))
  omega
 | f + 1 => fun ps d hf hr hok a c n w hn hp => by
  have hRC : ReC f := reference_of (no_all f) (bytes_of (no_all f))
  match ps, hr, hok, hp with
  | [], _, hok, _ => exact absurd hok.pos (by rw [ents_len, (srt_perm []).length_eq]; decide)
  | [p0], hr, hok, hp =>
   have hd : d ≤ (ofOf p0.1).size := ((Ok_iff d _).1 hok).2.2.1 (enP p0) (mem_ents.2 ⟨p0, by simp, rfl⟩) |>.1
   exact node_leaf f p0 d hr hd a c n w hn hp
  | p0 :: p1 :: r, hr, hok, hp =>
   by_cases ha : alkV d (enP p0) ((p1 :: r).map enP) = 0
   ·exact node_fork f hRC p0 (p1 :: r) (by simp) d hf hr hok ha a c n w hn hp
   ·exact node_bridge f hRC p0 (p1 :: r) (by simp) d hf hr hok _ rfl ha a c n w hn hp
theorem by_all (f : Nat) : ByC f := bytes_of (no_all f)
theorem ok_top {ps : List Pr} (hr : RightP ps) (h0 : ps.length ≠ 0) : Ok 0 (ents (srt ps)) :=
 ok_ents (srt ps) (by rw [(srt_perm ps).length_eq]; omega) ((right_perm (srt_perm ps)).2 hr) (srt_sorted ps)
theorem no_top (ps : List Pr) : noF 129 0 ps = (topN (srt ps)).x := rfl

set_option maxRecDepth 20000 in
set_option maxHeartbeats 1000000 in
theorem rroot_one {b : Bool} {es : List Pr} (hb0 : b = true ↔ RightP es) (a : Option Addr) (c n : Nat) (w : World) (hn : n ≤ w.heap.size) (hs : slP n w a es) :
  Calls Tryd.prog 12 #[.slice a es.length c] w fun e w' => e = .returned (.tuple #[.string (rtS b es), .int .i64 (erS b)]) ∧ Below w.heap.size w w' := by
 have K1 := rright6_any es a c n w hn hs
 cases b with
 | false =>
  have hnr : ¬ RightP es := fun h => Bool.noConfusion (hb0.2 h)
  have e1 : rtS false es = ⟨#[]⟩ := rfl
  have e2 : erS false = 60 := rfl
  rw [e1, e2]
  obtain ⟨N, hN⟩ : ∃ N, es.length = N := ⟨_, rfl⟩
  rw [hN] at K1 ⊢
  go_enter Tryd.func12, Tryd.ntmps12
  go_wp2_with fail
  refine K1.mono ?_
  rintro e w1 ⟨⟨q, rfl, h1⟩, B1⟩
  obtain rfl : q = false := by
   cases q with
   | false => rfl
   | true => exact absurd (h1.1 rfl) hnr
  clear h1 K1
  go_wp2
  exact bodyPost_ret (v := .tuple #[.string ⟨#[]⟩, .int .i64 60]) (by simp [results, Tryd.results12, go_sem]) rfl ⟨rfl, B1⟩
 | true =>
  have hr : RightP es := hb0.1 rfl
  have e2 : erS true = 0 := rfl
  rw [e2]
  have hrt : rtS true es = sumOf (topB (srt es)) := rfl
  rw [hrt]
  have hlen : (srt es).length = es.length := (srt_perm es).length_eq
  by_cases h0 : es.length = 0
  ·have ht : topB (srt es) = ⟨#[128]⟩ := by unfold topB; rw [if_pos (by omega)]
   rw [ht]
   have KM := fun w => rsum_any ⟨#[128]⟩ (by decide) w
   rw [rsum_is] at KM
   obtain ⟨s, hs'⟩ : ∃ s, sumOf ⟨#[128]⟩ = s := ⟨_, rfl⟩
   rw [hs'] at KM ⊢
   rw [h0] at K1 ⊢
   have HR : Hid (RightP es) := hr
   clear hs' ht hlen hrt h0 hs hb0 e2 hr
   go_enter Tryd.func12, Tryd.ntmps12
   go_wp2_with fail
   refine K1.mono ?_
   rintro e w1 ⟨⟨q, rfl, h1⟩, B1⟩
   obtain rfl : q = true := h1.2 HR.out
   clear h1 K1
   go_wp2_with fail
   refine (KM _).mono ?_
   rintro e w2 ⟨rfl, B2⟩
   have BW := belowStep B1 B1.size B2
   clear KM
   go_wp2
   exact bodyPost_ret (v := .tuple #[.string s, .int .i64 0]) (by simp [results, Tryd.results12, go_sem]) rfl ⟨rfl, BW⟩
  ·have KB := fun w hn hs => by_all 129 es 0 (by omega) hr (ok_top hr h0) a c n w hn hs
   have ht : topB (srt es) = eS (noF 129 0 es) := by unfold topB; rw [if_neg (by omega), no_top]
   rw [ht]
   have hsz := eS_size (noF 129 0 es)
   obtain ⟨t, ht2⟩ : ∃ t, eS (noF 129 0 es) = t := ⟨_, rfl⟩
   rw [ht2] at KB hsz ⊢
   have KM := fun w => rsum_any t (by omega) w
   rw [rsum_is] at KM
   obtain ⟨s, hs'⟩ : ∃ s, sumOf t = s := ⟨_, rfl⟩
   rw [hs'] at KM ⊢
   obtain ⟨N, hN⟩ : ∃ N, es.length = N := ⟨_, rfl⟩
   rw [hN] at K1 KB h0 ⊢
   have l0 : ((N : Int) == 0) = false := by rw [beq_eq_false_iff_ne]; omega
   have HS : Hid _ := hs
   have HR : Hid (RightP es) := hr
   clear hs' ht ht2 hs hlen hrt hN hb0 e2 hr
   go_enter Tryd.func12, Tryd.ntmps12
   go_wp2_with fail
   refine K1.mono ?_
   rintro e w1 ⟨⟨q, rfl, h1⟩, B1⟩
   obtain rfl : q = true := h1.2 HR.out
   have K2 := KB w1 (Nat.le_trans hn B1.size) (slP_below (B1.mono hn) HS.out)
   clear h1 K1 KB
   go_wp2_with fail
   refine K2.mono ?_
   rintro e w2 ⟨rfl, B2⟩
   have B12 := belowStep B1 B1.size B2
   clear K2
   go_wp2_with fail
   refine (KM _).mono ?_
   rintro e w3 ⟨rfl, B3⟩
   have BW := belowStep B12 B12.size B3
   clear KM
   go_wp2
   exact bodyPost_ret (v := .tuple #[.string s, .int .i64 0]) (by simp [results, Tryd.results12, go_sem]) rfl ⟨rfl, BW⟩

end Go.Proofs.YtbmapdkcccdmfaaDoor
