/- Lemmas: What mix does at this translation: all rounds, for all lanes, where the tables are what the package lays. What the package's tables hold, out of what the row lists; a world in which they lie so. No condition. Bytes of a text. No condition. Pairs of texts in memory; which pairs are right, by the reference. Which pairs are wrong by themselves: isWrong, ContainsFunc. Bytes as a number: what Value answers, the program's and the document's. No condition. How many bytes a number takes: what math/bits.Len64 answers. No condition. -/
import Derived.Test.YtbpcciifaekffaaGreatDoorM1
import Derived.Test.YtbpcciifaekffaaGreatDoorRows
import Derived.ChangeMaps5
import Derived.ChangeSame
import Derived.LaidMore
import Derived.OpenShut
import Derived.ProofKit
import Derived.Stop.Joined
import Derived.Laws.IdiomStrings
import Derived.BigQuiet
import Derived.Laws.Closers25
import Derived.Deep.MidRow
namespace Go.Proofs.YtbpcciifaekffaaGreatDoor
open Go.RowKit Go.Sort

/-- What a round's lane 0 is joined by. -/
def cn (j : Nat) : Int := [1, 32898, 9223372036854808714, 9223372039002292224, 32907, 2147483649, 9223372039002292353, 9223372036854808585, 138, 136, 2147516425, 2147483658, 2147516555, 9223372036854775947, 9223372036854808713, 9223372036854808579, 9223372036854808578, 9223372036854775936, 32778, 9223372039002259466, 9223372039002292353, 9223372036854808704, 2147483649, 9223372039002292232].getD j 0

/-- A round, and the first k rounds. -/
def roundOf (k : Nat) (g : Nat → Int) (j : Nat) : Int := if j = 0 then xr (rowsOf (movedOf (colsOf g)) 0) (cn k) else rowsOf (movedOf (colsOf g)) j
def roundsOf (g : Nat → Int) : Nat → Nat → Int
  | 0 => g
  | k + 1 => roundOf k (roundsOf g k)

structure Laid (w : World) : Prop where
  t : Tabs w
  c : Fw 0 24 (fun j => .int .u64 (cn j)) w

theorem but_trans {s : Nat} {w W V : World} (h : w.grownBy W (some s)) (g : W.grownBy V (some s)) : w.grownBy V (some s) :=
  ⟨g.os.trans h.os, g.tape.trans h.tape, g.output.trans h.output, Nat.le_trans h.size g.size, fun k hk hne => (g.block k (Nat.lt_of_lt_of_le hk h.size) hne).trans (h.block k hk hne)⟩
theorem Laid.but {s : Nat} {w W : World} (k : Laid w) (h : w.grownBy W (some s)) (h3 : 4 ≤ s) : Laid W :=
  ⟨⟨k.t.t.but h (by omega), k.t.p.but h (by omega)⟩, k.c.but h (by omega)⟩
theorem Laid.below {w W : World} (k : Laid w) (h : Below w.heap.size w W) : Laid W := ⟨⟨k.t.t.below h, k.t.p.below h⟩, k.c.below h⟩

/-- Twenty-five lanes of 0. -/
abbrev zs : Array Value := #[.int .u64 0, .int .u64 0, .int .u64 0, .int .u64 0, .int .u64 0, .int .u64 0, .int .u64 0, .int .u64 0, .int .u64 0, .int .u64 0, .int .u64 0, .int .u64 0, .int .u64 0, .int .u64 0, .int .u64 0, .int .u64 0, .int .u64 0, .int .u64 0, .int .u64 0, .int .u64 0, .int .u64 0, .int .u64 0, .int .u64 0, .int .u64 0, .int .u64 0]

set_option maxRecDepth 20000 in
set_option maxHeartbeats 4000000 in
theorem mix_any (s : Nat) (f : Nat → Int) (w : World) (hs : Fw s 25 (fun j => .int .u64 (f j)) w) (hl : Laid w) (h3 : 4 ≤ s) :
    Calls Tryz.prog 70 #[.pointer (some ⟨s, 0, none⟩)] w fun e w' =>
      e = .returned (.tuple #[]) ∧ Fw s 25 (fun j => .int .u64 (roundsOf f 24 j)) w' ∧ w.grownBy w' (some s) := by
  have km : IntKind.u64.max = 18446744073709551615 := by decide
  have ks : IntKind.u64.signed = false := rfl
  go_enter Tryz.func70, Tryz.ntmps70
  go_wp2
  go_loopg [4] 24 (fun gk i wr => ∃ k : Nat, k + gk = 24 ∧ i = .int .i64 k ∧ w.grownBy wr (some s) ∧ Laid wr ∧ Fw s 25 (fun j => .int .u64 (roundsOf f k j)) wr)
  case atStart => exact ⟨0, rfl, rfl, but_refl s w, hl, hs⟩
  case round =>
    clear hl hs
    obtain ⟨k, hk, rfl, GW, LW, CS⟩ := hrel
    by_cases hlt : k < 24
    · have l0 : (k : Int) < 24 := by omega
      obtain ⟨g, hg⟩ : ∃ g, roundsOf f k = g := ⟨_, rfl⟩
      have HG : Hid (roundsOf f k = g) := hg
      rw [hg] at CS
      clear hg
      go_wp2_with fail
      refine (joinColumns_any s g wr CS).mono ?_
      rintro e w1 ⟨rfl, S1, G1⟩
      have L1 := LW.but G1 h3
      have GW1 := but_trans GW G1
      clear G1 GW LW CS
      go_wp2_with fail
      refine (turnAndMove_any s (colsOf g) w1 S1 L1.t).mono ?_
      rintro e w2 ⟨rfl, B2⟩
      have S2 := S1.below B2
      have L2 := L1.below B2
      have GW2 := but_below GW1 B2
      clear B2 GW1 L1 S1
      have hne : s ≠ w2.heap.size := Nat.ne_of_lt S2.z
      have Z2 : Fw w2.heap.size 25 (fun _ => .int .u64 0) (w2.alloc (.cells zs 70)) := Fw.lit _ _ rfl rfl
      have hst := Z2.run (P := Tryz.prog) (fun j => .int .u64 (movedOf (colsOf g) j)) (fun _ => rfl)
      have N3 := Z2.store (fun j => .int .u64 (movedOf (colsOf g) j))
      obtain ⟨l, hl⟩ : ∃ l, (fl 25 fun j => .int .u64 (movedOf (colsOf g) j)) = l := ⟨_, rfl⟩
      have hlen : l.length = 25 := by rw [← hl]; exact fl_len _ _
      rw [hl] at hst N3 ⊢
      have S3 : Fw s 25 (fun j => .int .u64 (colsOf g j)) ((w2.alloc (.cells zs 70)).setCells w2.heap.size 0 l) := (S2.alloc _).storeOther _ hne.symm _
      have B3 : Below w2.heap.size w2 ((w2.alloc (.cells zs 70)).setCells w2.heap.size 0 l) := below_setCells' (Nat.le_refl _) _ _ _ ((Below.refl _ w2).alloc (Nat.le_refl _) _)
      have H3 : Hid (_ ∧ _ ∧ _ ∧ _ ∧ _) := ⟨S3, N3, L2.below B3, but_below GW2 B3, hne⟩
      clear S3 N3 B3 Z2 S2 L2 GW2 hl hne
      go_wp2_with fail
      obtain ⟨S3, N3, L3', G3, hne⟩ := H3.out
      refine (joinRows_any s w2.heap.size (colsOf g) (movedOf (colsOf g)) _ S3 N3 hne).mono ?_
      rintro e w4 ⟨rfl, S4, G4⟩
      have L4 := L3'.but G4 h3
      have GW4 := but_trans G3 G4
      clear H3 S3 N3 L3' G3 G4 hne hst
      have m0 := S4.c 0 (by decide)
      have m1 := L4.c.c k hlt
      obtain ⟨v, hv⟩ : ∃ q, rowsOf (movedOf (colsOf g)) 0 = q := ⟨_, rfl⟩
      obtain ⟨d, hd⟩ : ∃ q, cn k = q := ⟨_, rfl⟩
      rw [hv] at m0
      rw [hd] at m1
      have HV : Hid (_ ∧ _) := ⟨hv, hd⟩
      clear hv hd
      go_wp2
      have k0 := cell_regrown m0
      have k1 := cell_regrown m1
      refine region_tail 9 (by kernel_rfl) (by kernel_rfl) ?_
      simp only [List.take_succ_cons, List.take_zero, List.drop_succ_cons, List.drop_zero]
      iterate 9 (quiet_step (fail))
      refine wpQuiet_nil ?_
      intro w8 hw8
      have hb8 : Below w4.heap.size w4 w8 := by
        obtain ⟨p, rfl⟩ := hw8
        exact below_regrown _ _ _
      have S8 := S4.below hb8
      have L8 := L4.below hb8
      have G8 := but_below GW4 hb8
      clear hw8 hb8 k0 k1 m0 m1 S4 L4 GW4
      have n0 := S8.c 0 (by decide)
      have sf := S8.f
      have sz := S8.z
      go_wp2
      go_roundg (gk - 1)
      case measure => omega
      case rel =>
        obtain ⟨g1, g2⟩ := HV.out
        refine ⟨k + 1, by omega, rfl, but_set G8 _, L8.but (but_set (but_refl s w8) _) h3, S8.put 0 (by decide) _ (fun j _ => ?_)⟩
        show Value.int .u64 (roundOf k (roundsOf f k) j) = _
        rw [HG.out, roundOf]
        by_cases e : j = 0
        · rw [if_pos e, if_pos e, g1, g2]
        · rw [if_neg e, if_neg e]
    · have hk2 : k = 24 := by omega
      subst hk2
      clear hlt
      go_wp2
      go_end0
      exact ⟨rfl, CS, GW⟩
end Go.Proofs.YtbpcciifaekffaaGreatDoor
namespace Go.Proofs.YtbpcciifaekffaaGreatDoor
open Go.ChangeShapes Go.WideShapes Go.ChangeAt Go.RowKit

theorem rowOwn : ownKnob Tryz.prog.godebug = none := by kernel_rfl

/-- A listed array of integers: its cells. -/
theorem ints_of_laid {P : Program} {W : World} {name : String} {g : Nat} {t e : TypeId} {n : Nat} {k : IntKind} {cs : Array Value} {fuel : Nat} {ds : List (DataW Unit)} {p : List MemPlace} (f : Nat → Int)
    (hg : P.globalNamed name = some g) (hu : P.underlying t = some (.array n e)) (he : P.underlying e = some (.int k)) (hc : P.cellsOf e = 1) (hv : W.var? P name = some cs)
    (hd : DataW.trod (fun _ => ()) P W 0 (fun _ => true) false fuel t cs.toList = some (.agg ds, p)) (hds : ∀ j, j < n → ds[j]? = some (.lit (.int k (f j)))) :
    ∀ j, j < n → W.cell? ⟨g, j, none⟩ = some (.int k (f j)) := by
  intro j hj
  obtain ⟨xs, m, rfl, hx, hlen, hn, hel⟩ := DataW.trod_array hu hd
  simp only [Prod.mk.injEq, DataW.agg.injEq] at hx
  have h1 := hel j hj
  rw [hc, Nat.mul_one] at h1
  obtain ⟨x, hxj⟩ : ∃ x, xs[j]? = some x := ⟨xs[j]'(by omega), by simp [hn, hj]⟩
  rw [hxj] at h1
  obtain ⟨q, e1, e2, _⟩ := DataW.trod_int he h1
  have h2 := hds j hj
  rw [hx.1, List.getElem?_map, hxj] at h2
  rw [e2] at h2
  simp at h2
  subst h2
  rw [World.var?_cell hg hv j]
  have h3 : (cs.toList.drop j)[0]? = some (.int k (f j)) := by
    cases hq : cs.toList.drop j with
    | nil => rw [hq] at e1; simp at e1
    | cons c r => rw [hq] at e1; simp at e1; rw [e1]; rfl
  rw [List.getElem?_drop] at h3
  simpa using h3

abbrev laid3 : List (String × DataW Unit) := [("pharos/keccak.constants", Rows.laid_pharos_keccak_constants), ("pharos/keccak.turns", Rows.laid_pharos_keccak_turns), ("pharos/keccak.places", Rows.laid_pharos_keccak_places)]

theorem gC : Tryz.prog.globalNamed "pharos/keccak.constants" = some 0 := by kernel_rfl
theorem gT : Tryz.prog.globalNamed "pharos/keccak.turns" = some 2 := by kernel_rfl
theorem gP : Tryz.prog.globalNamed "pharos/keccak.places" = some 3 := by kernel_rfl
theorem tC : (Tryz.prog.globals[0]?).map (·.type) = some 133 := by kernel_rfl
theorem tT : (Tryz.prog.globals[2]?).map (·.type) = some 61 := by kernel_rfl
theorem tP : (Tryz.prog.globals[3]?).map (·.type) = some 61 := by kernel_rfl
theorem cU : Tryz.prog.cellsOf 63 = 1 := by kernel_rfl
theorem cI : Tryz.prog.cellsOf 3 = 1 := by kernel_rfl

theorem door_met (os : Os) (args : Array Value) : laidMetH Tryz.prog laid3 ((World.doorLaid Tryz.prog 400 os).forCall (fun _ _ => 0) ⟨#[], args, []⟩).memory :=
  laidMetH_of_parts3 (fuel := 8) (laidMet_of_run' 8 (by kernel_rfl) (by kernel_rfl)) (by kernel_rfl) (by kernel_rfl)

theorem dsC (j : Nat) (h : j < 24) : (match (Rows.laid_pharos_keccak_constants : DataW Unit) with | .agg l => l | _ => [])[j]? = some (.lit (.int .u64 (cn j))) :=
  match j, h with
  | 0, _ | 1, _ | 2, _ | 3, _ | 4, _ | 5, _ | 6, _ | 7, _ | 8, _ | 9, _ | 10, _ | 11, _ | 12, _ | 13, _ | 14, _ | 15, _ | 16, _ | 17, _ | 18, _ | 19, _ | 20, _ | 21, _ | 22, _ | 23, _ => rfl
  | k + 24, h => absurd h (by omega)
theorem dsT (j : Nat) (h : j < 25) : (match (Rows.laid_pharos_keccak_turns : DataW Unit) with | .agg l => l | _ => [])[j]? = some (.lit (.int .i64 (tn j))) :=
  match j, h with
  | 0, _ | 1, _ | 2, _ | 3, _ | 4, _ | 5, _ | 6, _ | 7, _ | 8, _ | 9, _ | 10, _ | 11, _ | 12, _ | 13, _ | 14, _ | 15, _ | 16, _ | 17, _ | 18, _ | 19, _ | 20, _ | 21, _ | 22, _ | 23, _ | 24, _ => rfl
  | k + 25, h => absurd h (by omega)
theorem dsP (j : Nat) (h : j < 25) : (match (Rows.laid_pharos_keccak_places : DataW Unit) with | .agg l => l | _ => [])[j]? = some (.lit (.int .i64 (pl j))) :=
  match j, h with
  | 0, _ | 1, _ | 2, _ | 3, _ | 4, _ | 5, _ | 6, _ | 7, _ | 8, _ | 9, _ | 10, _ | 11, _ | 12, _ | 13, _ | 14, _ | 15, _ | 16, _ | 17, _ | 18, _ | 19, _ | 20, _ | 21, _ | 22, _ | 23, _ | 24, _ => rfl
  | k + 25, h => absurd h (by omega)

theorem fw_of {W : World} {g N : Nat} {f : Nat → Value} (hc : ∀ j, j < N → W.cell? ⟨g, j, none⟩ = some (f j)) (hb : ∃ c t, W.heap[g]? = some (.cells c t (0, 0))) : Fw g N f W := by
  obtain ⟨c, t, hb⟩ := hb
  refine ⟨?_, hc, fun o => ?_⟩
  · exact (Array.getElem?_eq_some_iff.1 hb).1
  · simp [World.frozen?, hb]

/-- WHAT THE CONDITION GIVES THE WALKS: the three tables. -/
theorem of_laid {W : World} (h : laidMetH Tryz.prog laid3 W) : Laid W := by
  rw [MakeChecks.laidMetH_plain _ _ _ (by kernel_rfl)] at h
  obtain ⟨ps, ⟨g0, t0, cs0, f0, p0, q0, hg0, ht0, hv0, hd0, ⟨g1, t1, cs1, f1, p1, q1, hg1, ht1, hv1, hd1, ⟨g2, t2, cs2, f2, p2, q2, hg2, ht2, hv2, hd2, _, e2⟩, e1⟩, e0⟩, _, hh⟩ := h
  obtain rfl := Option.some.inj (gC.symm.trans hg0)
  obtain rfl := Option.some.inj (gT.symm.trans hg1)
  obtain rfl := Option.some.inj (gP.symm.trans hg2)
  obtain rfl := Option.some.inj (tC.symm.trans ht0)
  obtain rfl := Option.some.inj (tT.symm.trans ht1)
  obtain rfl := Option.some.inj (tP.symm.trans ht2)
  have k0 := ints_of_laid cn gC Tryz.underlying133 Tryz.underlying63 cU hv0 hd0 dsC
  have k1 := ints_of_laid (fun j => (tn j : Int)) gT Tryz.underlying61 Tryz.underlying3 cI hv1 hd1 dsT
  have k2 := ints_of_laid (fun j => (pl j : Int)) gP Tryz.underlying61 Tryz.underlying3 cI hv2 hd2 dsP
  have z : ∀ (g : Nat) (cs : Array Value) (v : Value), W.cell? ⟨g, 0, none⟩ = cs[0]? → W.cell? ⟨g, 0, none⟩ = some v → MemPlace.cell g 0 ∈ MemPlace.row ⟨g, 0, none⟩ cs.size := fun g cs v h1 h2 => by
    rw [h1] at h2
    have : 0 < cs.size := (Array.getElem?_eq_some_iff.1 h2).1
    simp [MemPlace.row]; omega
  refine ⟨⟨?_, ?_⟩, ?_⟩
  · exact fw_of k1 (hh 2 0 (by rw [e0, e1]; simp [z 2 cs1 _ (World.var?_cell gT hv1 0) (k1 0 (by decide))])).1
  · exact fw_of k2 (hh 3 0 (by rw [e0, e1, e2]; simp [z 3 cs2 _ (World.var?_cell gP hv2 0) (k2 0 (by decide))])).1
  · exact fw_of k0 (hh 0 0 (by rw [e0]; simp [z 0 cs0 _ (World.var?_cell gC hv0 0) (k0 0 (by decide))])).1
end Go.Proofs.YtbpcciifaekffaaGreatDoor
namespace Go.Proofs.YtbpcciifaekffaaGreatDoor
open Go.RowKit Go.Sort

/-- A text's byte. -/
def bt (s : ByteArray) (i : Nat) : Int := ((s.data.getD i 0).toNat : Int)
theorem bt_get (s : ByteArray) (d : Nat) (h : d < s.size) : ((s[d]'h).toNat : Int) = bt s d := by
  have : s.data.getD d 0 = s[d]'h := by
    simp [Array.getD, h]
    rfl
  unfold bt
  rw [this]
theorem bt_bd (s : ByteArray) (d : Nat) : 0 ≤ bt s d ∧ bt s d < 256 := by
  unfold bt
  have := (s.data.getD d 0).toNat_lt
  omega
/-- Bytes told by a function. -/
def by8 (n : Nat) (f : Nat → Int) : List UInt8 := (List.range n).map fun j => UInt8.ofNat (f j).toNat
theorem by8_len (n : Nat) (f : Nat → Int) : (by8 n f).length = n := by simp [by8]
theorem by8_at (n : Nat) (f : Nat → Int) (hf : ∀ j, 0 ≤ f j ∧ f j < 256) (j : Nat) (hj : j < (by8 n f).length) : ((by8 n f)[j].toNat : Int) = f j := by
  have h := hf j
  simp only [by8, List.getElem_map, List.getElem_range, UInt8.toNat_ofNat']
  omega
theorem bt_by8 (n : Nat) (f : Nat → Int) (hf : ∀ j, 0 ≤ f j ∧ f j < 256) (j : Nat) (hj : j < n) : bt ⟨(by8 n f).toArray⟩ j = f j := by
  have hl : j < (by8 n f).length := by rw [by8_len]; exact hj
  unfold bt
  have e : (by8 n f).toArray.getD j 0 = (by8 n f)[j]'hl := by simp [Array.getD, hl]
  show (((by8 n f).toArray.getD j 0).toNat : Int) = f j
  rw [e, by8_at n f hf j hl]
theorem by8_ext (n : Nat) (f g : Nat → Int) (h : ∀ j, j < n → f j = g j) : by8 n f = by8 n g := by
  unfold by8
  exact List.map_congr_left fun j hj => by rw [h j (List.mem_range.1 hj)]
theorem by8_self (s : ByteArray) : (⟨(by8 s.size (bt s)).toArray⟩ : ByteArray) = s := by
  have : (by8 s.size (bt s)).toArray = s.data := by
    refine Array.ext (by simp [by8]) fun i h1 h2 => ?_
    simp only [List.getElem_toArray, by8, List.getElem_map, List.getElem_range]
    unfold bt
    have h3 : i < s.size := h2
    have e : s.data.getD i 0 = s.data[i] := by simp [Array.getD, h3]
    rw [e]
    simp
  rw [this]
theorem by8_size (n : Nat) (f : Nat → Int) : (⟨(by8 n f).toArray⟩ : ByteArray).size = n := by
  show (by8 n f).toArray.size = n
  rw [List.size_toArray, by8_len]
/-- Texts of the same bytes are the same. -/
theorem ext_bt (s t : ByteArray) (hz : s.size = t.size) (h : ∀ j, j < s.size → bt s j = bt t j) : s = t := by
  rw [← by8_self s, ← by8_self t, ← hz, by8_ext s.size _ _ h]

theorem bt_app (a b : ByteArray) (j : Nat) : bt (a ++ b) j = if j < a.size then bt a j else bt b (j - a.size) := by
  unfold bt
  have e : (a ++ b).data = a.data ++ b.data := by simp
  rw [e]
  have hz : a.data.size = a.size := rfl
  have hs : (a.data ++ b.data).size = a.size + b.size := by rw [Array.size_append]; rfl
  by_cases h : j < a.size
  · rw [if_pos h]
    simp [Array.getD, hz, h, Nat.lt_of_lt_of_le h (Nat.le_add_right _ _)]
  · rw [if_neg h]
    congr 2
    rw [Array.getD_eq_getD_getElem?, Array.getD_eq_getD_getElem?, Array.getElem?_append_right (by rw [hz]; omega), hz]
end Go.Proofs.YtbpcciifaekffaaGreatDoor
namespace Go.Proofs.YtbpcciifaekffaaGreatDoor
open Go.RowKit Go.Sort

/-- Pairs of texts, from a place on. -/
def prs (W : World) (b o : Nat) (es : List (ByteArray × ByteArray)) : Prop := ∀ j e, es[j]? = some e → W.cell? ⟨b, o + 2 * j, none⟩ = some (.string e.1) ∧ W.cell? ⟨b, o + 2 * j + 1, none⟩ = some (.string e.2)
/-- A slice of pairs that lies below n (or is of none). -/
def slP (n : Nat) (W : World) (a : Option Addr) (es : List (ByteArray × ByteArray)) : Prop := es = [] ∨ ∃ b o, a = some ⟨b, o, none⟩ ∧ b < n ∧ prs W b o es
theorem prs_below {n : Nat} {W W' : World} (hb : Below n W W') {b o : Nat} {es : List (ByteArray × ByteArray)} (h : b < n) (hp : prs W b o es) : prs W' b o es := fun j e he => ⟨(hb.cell (p := ⟨b, _, none⟩) h).trans (hp j e he).1, (hb.cell (p := ⟨b, _, none⟩) h).trans (hp j e he).2⟩
theorem slP_below {n : Nat} {W W' : World} (hb : Below n W W') {a : Option Addr} {es : List (ByteArray × ByteArray)} (hp : slP n W a es) : slP n W' a es := by
  rcases hp with h | ⟨b, o, h1, h2, h3⟩
  · exact .inl h
  · exact .inr ⟨b, o, h1, h2, prs_below hb h2 h3⟩
theorem slP_at {n : Nat} {W : World} {a : Option Addr} {es : List (ByteArray × ByteArray)} (hp : slP n W a es) (j : Nat) (e : ByteArray × ByteArray) (he : es[j]? = some e) : ∃ b o, a = some ⟨b, o, none⟩ ∧ b < n ∧ W.cell? ⟨b, o + 2 * j, none⟩ = some (.string e.1) ∧ W.cell? ⟨b, o + 2 * j + 1, none⟩ = some (.string e.2) := by
  rcases hp with h | ⟨b, o, h1, h2, h3⟩
  · subst h
    cases he
  · exact ⟨b, o, h1, h2, h3 j e he⟩
/-- Is one pair right by itself? -/
def pOk (e : ByteArray × ByteArray) : Bool := decide (1 ≤ e.1.size) && decide (e.1.size ≤ 64) && (decide (1 ≤ e.2.size) && decide (e.2.size ≤ 1000))
/-- Are pairs right? -/
def RightP (es : List (ByteArray × ByteArray)) : Prop := es.length ≤ 200 ∧ (∀ (j : Nat) (e : ByteArray × ByteArray), es[j]? = some e → pOk e = true) ∧ ∀ (j k : Nat) (e f : ByteArray × ByteArray), j < k → es[j]? = some e → es[k]? = some f → e.1 ≠ f.1
/-- So far. -/
def RightT (es : List (ByteArray × ByteArray)) (i : Nat) : Prop := (∀ (j : Nat) (e : ByteArray × ByteArray), j < i → es[j]? = some e → pOk e = true) ∧ ∀ (j k : Nat) (e f : ByteArray × ByteArray), j < k → k < i → es[j]? = some e → es[k]? = some f → e.1 ≠ f.1
def RightU (es : List (ByteArray × ByteArray)) (i m : Nat) (f : ByteArray × ByteArray) : Prop := RightT es i ∧ pOk f = true ∧ ∀ (j : Nat) (e : ByteArray × ByteArray), j < m → es[j]? = some e → e.1 ≠ f.1
theorem RightT.step {es : List (ByteArray × ByteArray)} {i : Nat} {f : ByteArray × ByteArray} (hf : es[i]? = some f) (h : RightU es i i f) : RightT es (i + 1) := by
  obtain ⟨⟨h1, h2⟩, h3, h4⟩ := h
  refine ⟨fun j e hj he => ?_, fun j k e g hj hk he hg => ?_⟩
  · by_cases h : j = i
    · subst h
      rw [hf] at he
      cases he
      exact h3
    · exact h1 j e (by omega) he
  · by_cases h : k = i
    · subst h
      rw [hf] at hg
      cases hg
      exact h4 j e (by omega) he
    · exact h2 j k e g hj (by omega) he hg
theorem RightT.all {es : List (ByteArray × ByteArray)} (hl : es.length ≤ 200) (h : RightT es es.length) : RightP es :=
  ⟨hl, fun j e he => h.1 j e (List.getElem?_eq_some_iff.1 he).1 he, fun j k e f hj he hf => h.2 j k e f hj (List.getElem?_eq_some_iff.1 hf).1 he hf⟩
theorem pOk_iff (e : ByteArray × ByteArray) : pOk e = true ↔ 1 ≤ e.1.size ∧ e.1.size ≤ 64 ∧ 1 ≤ e.2.size ∧ e.2.size ≤ 1000 := by
  unfold pOk
  simp only [Bool.and_eq_true, decide_eq_true_eq]
  omega
theorem toList_inj {s t : ByteArray} (h : s.toList = t.toList) : s = t := by
  rw [ByteArray.toList_eq, ByteArray.toList_eq] at h
  have h2 : s.data = t.data := Array.toList_inj.1 h
  cases s
  cases t
  cases h2
  rfl

/-- What tells whether pairs are right. -/
def RR (es : List (ByteArray × ByteArray)) (e : Ending) : Prop := ∃ b : Bool, e = .returned (.bool b) ∧ (b = true ↔ RightP es)
theorem RR.no {es : List (ByteArray × ByteArray)} (h : ¬ RightP es) : RR es (.returned (.bool false)) := ⟨false, rfl, ⟨fun h' => Bool.noConfusion h', fun h' => absurd h' h⟩⟩
theorem RR.yes {es : List (ByteArray × ByteArray)} (h : RightP es) : RR es (.returned (.bool true)) := ⟨true, rfl, ⟨fun _ => h, fun _ => rfl⟩⟩
theorem right_not {es : List (ByteArray × ByteArray)} {k : Nat} {f : ByteArray × ByteArray} (hf : es[k]? = some f) (h : ¬ pOk f = true) : ¬ RightP es := fun h2 => h (h2.2.1 k f hf)

set_option maxRecDepth 20000 in
set_option maxHeartbeats 2000000 in
theorem rright6_any (es : List (ByteArray × ByteArray)) (a : Option Addr) (c n : Nat) (w : World) (hn : n ≤ w.heap.size) (hp : slP n w a es) :
    Calls Tryz.prog 14 #[.slice a es.length c] w fun e w' => RR es e ∧ Below w.heap.size w w' := by
  by_cases hl : 200 < es.length
  · have l0 : (200 : Int) < es.length := by omega
    go_enter Tryz.func14, Tryz.ntmps14
    go_wp2
    go_ret
    exact ⟨RR.no (fun h => by have := h.1; omega), Below.refl _ _⟩
  · have l0 : ¬ (200 : Int) < es.length := by omega
    obtain ⟨N, hN⟩ : ∃ N, es.length = N := ⟨_, rfl⟩
    have HN : Hid (es.length = N) := hN
    rw [hN] at l0 hl ⊢
    clear hN
    go_enter Tryz.func14, Tryz.ntmps14
    go_wp2_with fail
    obtain ⟨z, hz⟩ : ∃ z, w.heap.size = z := ⟨_, rfl⟩
    rw [hz] at hn
    go_loopg [3] N (fun gk i wr => ∃ k : Nat, k + gk = N ∧ i = .int .i64 k ∧ RightT es k ∧ Below z w wr)
    case atStart => exact ⟨0, by omega, rfl, ⟨fun j e h => by omega, fun j k e f h1 h2 => by omega⟩, by rw [← hz]; exact Below.refl _ _⟩
    case round =>
      obtain ⟨k, hk, rfl, hT, BW⟩ := hrel
      have HT : Hid (RightT es k) := hT
      clear hT
      have hwz : z ≤ wr.heap.size := by have := BW.size; omega
      by_cases hlt : k < N
      · have l1 : (k : Int) < N := by omega
        have hNN := HN.out
        obtain ⟨f, hf⟩ : ∃ f, es[k]? = some f := ⟨es[k]'(by omega), List.getElem?_eq_getElem (by omega)⟩
        obtain ⟨b, o, rfl, hb, c0, c1⟩ := slP_at hp k f hf
        have hbr : b < wr.heap.size := by omega
        replace c0 := (BW.cell (p := ⟨b, _, none⟩) (by show b < z; omega)).trans c0
        replace c1 := (BW.cell (p := ⟨b, _, none⟩) (by show b < z; omega)).trans c1
        obtain ⟨r, hr⟩ : ∃ p, o + 2 * k = p := ⟨_, rfl⟩
        rw [hr] at c0 c1
        have hr2 : o + k * 2 = r := by omega
        have wk : IntKind.i64.wrap ((k : Int) + 1) = ((k + 1 : Nat) : Int) := by rw [IntKind.wrap_i64]; omega
        have hOk := pOk_iff f
        have HOK : Hid _ := hOk
        clear hOk hNN
        obtain ⟨fk, fv⟩ := f
        dsimp only at c0 c1
        have hNo : ¬ (1 ≤ fk.size ∧ fk.size ≤ 64 ∧ 1 ≤ fv.size ∧ fv.size ≤ 1000) → ¬ RightP es := fun h => right_not hf (fun h2 => h (HOK.out.1 h2))
        have HNO : Hid _ := hNo
        clear hNo
        by_cases a1 : fk.size < 1
        · have m1 : (fk.size : Int) < 1 := by omega
          go_wp2
          go_ret
          exact ⟨RR.no (HNO.out (by omega)), BW⟩
        · have m1 : ¬ (fk.size : Int) < 1 := by omega
          by_cases a2 : 64 < fk.size
          · have m2 : (64 : Int) < fk.size := by omega
            go_wp2
            go_ret
            exact ⟨RR.no (HNO.out (by omega)), BW⟩
          · have m2 : ¬ (64 : Int) < fk.size := by omega
            by_cases a3 : fv.size < 1
            · have m3 : (fv.size : Int) < 1 := by omega
              go_wp2
              go_ret
              exact ⟨RR.no (HNO.out (by omega)), BW⟩
            · have m3 : ¬ (fv.size : Int) < 1 := by omega
              by_cases a4 : 1000 < fv.size
              · have m4 : (1000 : Int) < fv.size := by omega
                go_wp2
                go_ret
                exact ⟨RR.no (HNO.out (by omega)), BW⟩
              · have m4 : ¬ (1000 : Int) < fv.size := by omega
                have HU : Hid (pOk (fk, fv) = true ∧ es[k]? = some (fk, fv)) := ⟨(pOk_iff (fk, fv)).2 ⟨by show 1 ≤ fk.size; omega, by show fk.size ≤ 64; omega, by show 1 ≤ fv.size; omega, by show fv.size ≤ 1000; omega⟩, hf⟩
                clear HOK HNO hf
                go_wp2_with fail
                obtain ⟨gk0, hgk0⟩ : ∃ q, gk = q := ⟨_, rfl⟩
                go_loopg [4] k (fun gj i wr' => ∃ m : Nat, m + gj = k ∧ i = .int .i64 m ∧ RightU es k m (fk, fv) ∧ Below z w wr')
                case atStart => exact ⟨0, by omega, rfl, ⟨HT.out, HU.out.1, fun j e h => by omega⟩, BW⟩
                case round =>
                  obtain ⟨m, hm, rfl, hU, BV⟩ := hrel
                  have HV : Hid _ := hU
                  clear hU
                  have hwv : z ≤ wr.heap.size := by have := BV.size; omega
                  by_cases hmk : m < k
                  · have l2 : (m : Int) < k := by omega
                    have l3 : (m : Int) < N := by omega
                    obtain ⟨g, hg⟩ : ∃ f, es[m]? = some f := ⟨es[m]'(by have := HN.out; omega), List.getElem?_eq_getElem (by have := HN.out; omega)⟩
                    obtain ⟨b', o', he', hb', c0', c1'⟩ := slP_at hp m g hg
                    injection he' with he'
                    injection he' with he1 he2
                    subst he1 he2
                    have hf2 := HU.out.2
                    obtain ⟨b2, o2, he3, _, c2, _⟩ := slP_at hp k _ hf2
                    injection he3 with he3
                    injection he3 with he4 he5
                    subst he4 he5
                    have hbv : b < wr.heap.size := by omega
                    replace c0' := (BV.cell (p := ⟨b, _, none⟩) (by show b < z; omega)).trans c0'
                    replace c2 := (BV.cell (p := ⟨b, _, none⟩) (by show b < z; omega)).trans c2
                    obtain ⟨r', hr'⟩ : ∃ p, o + 2 * m = p := ⟨_, rfl⟩
                    rw [hr'] at c0'
                    rw [hr] at c2
                    have hr2' : o + m * 2 = r' := by omega
                    have q0 : ∀ d os, (grow (redrawn wr d) os).cell? ⟨b, r', none⟩ = some (.string g.1) := fun d os => ((below_regrown wr d os).cell (p := ⟨b, r', none⟩) hbv).trans c0'
                    have q1 : ∀ d os, (grow (redrawn wr d) os).cell? ⟨b, r, none⟩ = some (.string fk) := fun d os => ((below_regrown wr d os).cell (p := ⟨b, r, none⟩) hbv).trans c2
                    have wm : IntKind.i64.wrap ((m : Int) + 1) = ((m + 1 : Nat) : Int) := by rw [IntKind.wrap_i64]; omega
                    clear c0' c1' c2 hf2
                    by_cases hsame : g.1 = fk
                    · have hs : (g.1.toList == fk.toList) = true := by rw [hsame]; exact beq_self_eq_true _
                      have HG : Hid (¬ RightP es) := fun h => h.2.2 m k g (fk, fv) hmk hg HU.out.2 hsame
                      clear hsame hg
                      go_wp2_with fail
                      refine wp_region_quiet_below (by kernel_rfl) (by kernel_rfl) ?_
                      repeat (quiet_step (fail))
                      refine wpQuiet_nil ?_
                      intro w8 hw8
                      have B8 : Below wr.heap.size wr w8 := by
                        obtain ⟨p, rfl⟩ := hw8
                        exact below_regrown _ _ _
                      clear hw8 q0 q1
                      go_wp2
                      go_ret
                      exact ⟨RR.no HG.out, by rw [hz]; exact belowStep BV hwv B8⟩
                    · have hs : (g.1.toList == fk.toList) = false := by rw [beq_eq_false_iff_ne]; exact fun e => hsame (toList_inj e)
                      have HG : Hid (g.1 ≠ fk ∧ es[m]? = some g) := ⟨hsame, hg⟩
                      clear hsame hg
                      go_wp2_with fail
                      refine wp_region_quiet_below (by kernel_rfl) (by kernel_rfl) ?_
                      repeat (quiet_step (fail))
                      refine wpQuiet_nil ?_
                      intro w8 hw8
                      have B8 : Below wr.heap.size wr w8 := by
                        obtain ⟨p, rfl⟩ := hw8
                        exact below_regrown _ _ _
                      clear hw8 q0 q1
                      go_wp2
                      go_roundg (gk - 1)
                      case measure => omega
                      case rel =>
                        obtain ⟨u1, u2, u3⟩ := HV.out
                        refine ⟨m + 1, by omega, by first | rfl | (congr 1; omega), ⟨u1, u2, fun j e hj he => ?_⟩, belowStep BV hwv B8⟩
                        by_cases hjm : j = m
                        · subst hjm
                          rw [HG.out.2] at he
                          cases he
                          exact HG.out.1
                        · exact u3 j e (by omega) he
                  · have l2 : ¬ (m : Int) < k := by omega
                    have hmk2 : m = k := by omega
                    go_wp2
                    go_roundg (gk0 - 1)
                    case measure => omega
                    case rel =>
                      have hU := HV.out
                      rw [hmk2] at hU
                      exact ⟨k + 1, by omega, by first | rfl | (congr 1; omega), RightT.step HU.out.2 hU, BV⟩
      · have l1 : ¬ (k : Int) < N := by omega
        have hk2 : k = N := by omega
        have HR : Hid (RightP es) := RightT.all (by have := HN.out; omega) (by rw [HN.out, ← hk2]; exact HT.out)
        go_wp2
        go_ret
        exact ⟨RR.yes HR.out, BW⟩
end Go.Proofs.YtbpcciifaekffaaGreatDoor
namespace Go.Proofs.YtbpcciifaekffaaGreatDoor
open Go.RowKit Go.Sort

theorem tl_empty (s : ByteArray) (h : s.size = 0) : s.toList.isEmpty = true := by
  rw [← decide_eq_emptyBytes s]
  refine decide_eq_true ?_
  exact ext_bt _ _ (by rw [h]; rfl) fun j hj => by omega
theorem tl_full (s : ByteArray) (h : 0 < s.size) : s.toList.isEmpty = false := by
  rw [← decide_eq_emptyBytes s]
  refine decide_eq_false fun e => ?_
  rw [e] at h
  exact absurd h (by decide)
def pV (e : ByteArray × ByteArray) : Value := .agg #[.string e.1, .string e.2]

set_option maxRecDepth 20000 in
set_option maxHeartbeats 1000000 in
theorem isWrong_any (e : ByteArray × ByteArray) (w : World) :
    Calls Tryz.prog 47 #[pV e] w fun r w' => r = .returned (.bool (!pOk e)) ∧ Below w.heap.size w w' := by
  have hOk := pOk_iff e
  obtain ⟨fk, fv⟩ := e
  have A1 : Below w.heap.size w (w.alloc (.cells #[.string fk, .string fv] 40)) := (Below.refl _ w).alloc (Nat.le_refl _) _
  show Calls Tryz.prog 47 #[.agg #[.string fk, .string fv]] w _
  obtain ⟨ok, hok⟩ : ∃ q, pOk (fk, fv) = q := ⟨_, rfl⟩
  rw [hok] at hOk ⊢
  clear hok
  have HO : Hid (ok = true ↔ 1 ≤ fk.size ∧ fk.size ≤ 64 ∧ 1 ≤ fv.size ∧ fv.size ≤ 1000) := hOk
  clear hOk
  have hno : ¬ (1 ≤ fk.size ∧ fk.size ≤ 64 ∧ 1 ≤ fv.size ∧ fv.size ≤ 1000) → ok = false := fun h => by
    cases ok with
    | false => rfl
    | true => exact absurd (HO.out.1 rfl) h
  have HNO : Hid _ := hno
  clear hno
  by_cases a1 : fk.size = 0
  · have m1 := tl_empty fk a1
    obtain rfl := HNO.out (by omega)
    go_enter Tryz.func47, Tryz.ntmps47
    go_wp2
    go_ret
    exact ⟨rfl, A1⟩
  · have m1 := tl_full fk (by omega)
    by_cases a2 : 64 < fk.size
    · have m2 : (64 : Int) < fk.size := by omega
      obtain rfl := HNO.out (by omega)
      go_enter Tryz.func47, Tryz.ntmps47
      go_wp2
      go_ret
      exact ⟨rfl, A1⟩
    · have m2 : ¬ (64 : Int) < fk.size := by omega
      by_cases a3 : fv.size = 0
      · have m3 := tl_empty fv a3
        obtain rfl := HNO.out (by omega)
        go_enter Tryz.func47, Tryz.ntmps47
        go_wp2
        go_ret
        exact ⟨rfl, A1⟩
      · have m3 := tl_full fv (by omega)
        by_cases a4 : 1000 < fv.size
        · have m4 : (1000 : Int) < fv.size := by omega
          obtain rfl := HNO.out (by omega)
          go_enter Tryz.func47, Tryz.ntmps47
          go_wp2
          go_ret
          exact ⟨rfl, A1⟩
        · have m4 : ¬ (1000 : Int) < fv.size := by omega
          obtain rfl := HO.out.2 (by omega)
          go_enter Tryz.func47, Tryz.ntmps47
          go_wp2
          go_ret
          exact ⟨rfl, A1⟩

/-- What IndexFunc answers. -/
def IxP (es : List (ByteArray × ByteArray)) (r : Ending) : Prop := ∃ i : Int, r = .returned (.int .i64 i) ∧ decide (0 ≤ i) = !es.all pOk
theorem IxP.at {es : List (ByteArray × ByteArray)} {k : Nat} {e : ByteArray × ByteArray} (he : es[k]? = some e) (h : pOk e = false) : IxP es (.returned (.int .i64 (k : Int))) := by
  refine ⟨k, rfl, ?_⟩
  have : es.all pOk = false := List.all_eq_false.2 ⟨e, List.mem_of_getElem? he, by rw [h]; decide⟩
  rw [this]
  exact decide_eq_true (by omega)
theorem IxP.none {es : List (ByteArray × ByteArray)} (h : ∀ (j : Nat) (e : ByteArray × ByteArray), es[j]? = some e → pOk e = true) : IxP es (.returned (.int .i64 (-1))) := by
  refine ⟨-1, rfl, ?_⟩
  have : es.all pOk = true := List.all_eq_true.2 fun e he => by
    obtain ⟨j, hj⟩ := List.mem_iff_getElem?.1 he
    exact h j e hj
  rw [this]
  rfl

set_option maxRecDepth 20000 in
set_option maxHeartbeats 1000000 in
theorem indexFunc_any (es : List (ByteArray × ByteArray)) (hl : es.length < 1000000) (a : Option Addr) (c n : Nat) (w : World) (hn : n ≤ w.heap.size) (hp : slP n w a es) :
    Calls Tryz.prog 78 #[.slice a es.length c, .func (.func 47) #[] #[]] w fun r w' => IxP es r ∧ Below w.heap.size w w' := by
  obtain ⟨N, hN⟩ : ∃ N, es.length = N := ⟨_, rfl⟩
  have HN : Hid (es.length = N) := hN
  rw [hN] at hl ⊢
  clear hN
  obtain ⟨z, hz⟩ : ∃ z, w.heap.size = z := ⟨_, rfl⟩
  rw [hz] at hn ⊢
  have B0 : Below z w w := by rw [← hz]; exact Below.refl _ _
  have HZ : Hid _ := hz
  clear hz
  go_enter Tryz.func78, Tryz.ntmps78
  go_wp2_with fail
  go_loopg [8] N (fun gk i wr => ∃ k : Nat, k + gk = N ∧ i = .int .i64 k ∧ (∀ (j : Nat) (e : ByteArray × ByteArray), j < k → es[j]? = some e → pOk e = true) ∧ Below z w wr)
  case atStart => exact ⟨0, by omega, rfl, fun j e h => by omega, B0⟩
  case round =>
    obtain ⟨k, hk, rfl, hA, BW⟩ := hrel
    have HA : Hid _ := hA
    clear hA
    have hwz : z ≤ wr.heap.size := by have := BW.size; have := HZ.out; omega
    by_cases hlt : k < N
    · have l1 : (k : Int) < N := by omega
      obtain ⟨f, hf⟩ : ∃ f, es[k]? = some f := ⟨es[k]'(by have := HN.out; omega), List.getElem?_eq_getElem (by have := HN.out; omega)⟩
      obtain ⟨b, o, rfl, hb, c0, c1⟩ := slP_at hp k f hf
      replace c0 := (BW.cell (p := ⟨b, _, none⟩) (by show b < z; omega)).trans c0
      replace c1 := (BW.cell (p := ⟨b, _, none⟩) (by show b < z; omega)).trans c1
      obtain ⟨r, hr⟩ : ∃ p, o + 2 * k = p := ⟨_, rfl⟩
      rw [hr] at c0 c1
      have hr2 : o + k * 2 = r := by omega
      have wk : IntKind.i64.wrap ((k : Int) + 1) = ((k + 1 : Nat) : Int) := by rw [IntKind.wrap_i64]; omega
      have KW := isWrong_any f
      obtain ⟨ok, hok⟩ : ∃ q, pOk f = q := ⟨_, rfl⟩
      rw [hok] at KW
      have HF : Hid (_ ∧ _) := ⟨hf, hok⟩
      clear hf hok
      obtain ⟨fk, fv⟩ := f
      dsimp only [pV] at c0 c1 KW
      go_wp2_with fail
      refine (KW _).mono ?_
      rintro e w3 ⟨rfl, B3⟩
      clear KW c0 c1
      cases ok with
      | false =>
        go_wp2
        go_ret
        exact ⟨IxP.at HF.out.1 HF.out.2, belowStep BW hwz B3⟩
      | true =>
        go_wp2
        go_roundg (gk - 1)
        case measure => omega
        case rel =>
          refine ⟨k + 1, by omega, by first | rfl | (congr 1; omega), fun j e hj he => ?_, belowStep BW hwz B3⟩
          by_cases hjk : j = k
          · subst hjk
            rw [HF.out.1] at he
            cases he
            exact HF.out.2
          · exact HA.out j e (by omega) he
    · have l1 : ¬ (k : Int) < N := by omega
      go_wp2
      go_ret
      exact ⟨IxP.none fun j e he => HA.out j e (by have := (List.getElem?_eq_some_iff.1 he).1; have := HN.out; omega) he, BW⟩

set_option maxRecDepth 20000 in
set_option maxHeartbeats 1000000 in
theorem containsFunc_any (es : List (ByteArray × ByteArray)) (hl : es.length < 1000000) (a : Option Addr) (c n : Nat) (w : World) (hn : n ≤ w.heap.size) (hp : slP n w a es) :
    Calls Tryz.prog 46 #[.slice a es.length c, .func (.func 47) #[] #[]] w fun r w' => r = .returned (.bool (!es.all pOk)) ∧ Below w.heap.size w w' := by
  have KI := indexFunc_any es hl a c n w hn hp
  obtain ⟨N, hN⟩ : ∃ N, es.length = N := ⟨_, rfl⟩
  rw [hN] at KI ⊢
  go_enter Tryz.func46, Tryz.ntmps46
  go_wp2_with fail
  refine KI.mono ?_
  rintro e w1 ⟨⟨i, rfl, hi⟩, B1⟩
  have HI : Hid _ := hi
  clear hi KI
  go_wp2
  go_ret
  exact ⟨by rw [← HI.out]; rfl, B1⟩
end Go.Proofs.YtbpcciifaekffaaGreatDoor
namespace Go.Proofs.YtbpcciifaekffaaGreatDoor
open Go.RowKit Go.Sort

theorem ofInt_nat64 (x : Nat) (hx : x < 18446744073709551616) : (BitVec.ofInt 64 (x : Int)).toNat = x := by
  rw [BitVec.toNat_ofInt]
  omega
theorem or_nat64 (x y : Nat) (hx : x < 18446744073709551616) (hy : y < 18446744073709551616) : bits .or .u64 (x : Int) (y : Int) = ((x ||| y : Nat) : Int) := by
  have h : (x ||| y) < 2 ^ 64 := Nat.or_lt_two_pow hx hy
  have e : bits .or .u64 (x : Int) (y : Int) = IntKind.u64.wrap (((BitVec.ofInt 64 (x : Int)) ||| (BitVec.ofInt 64 (y : Int))).toNat : Int) := rfl
  rw [e, BitVec.toNat_or, ofInt_nat64 x hx, ofInt_nat64 y hy, IntKind.wrap_u64]
  omega
set_option maxRecDepth 20000 in
theorem or_byte (x y : Nat) (hy : y < 256) (h : x * 256 + y < 18446744073709551616) : bits .or .u64 ((x * 256 : Nat) : Int) (y : Int) = ((x * 256 + y : Nat) : Int) := by
  refine (or_nat64 (x * 256) y (by omega) (by omega)).trans ?_
  have := Nat.shiftLeft_add_eq_or_of_lt (show y < 2 ^ 8 from hy) x
  rw [Nat.shiftLeft_eq] at this
  rw [this]
/-- The number of the first bytes. -/
def val (s : ByteArray) : Nat → Nat
  | 0 => 0
  | k + 1 => val s k * 256 + (bt s k).toNat
theorem val_lt (s : ByteArray) : ∀ k, val s k < 256 ^ k
  | 0 => by show 0 < 1; decide
  | k + 1 => by
    have h := val_lt s k
    have hb := bt_bd s k
    rw [val, Nat.pow_succ]
    have : (bt s k).toNat < 256 := by omega
    omega
theorem val_8 (s : ByteArray) (k : Nat) (hk : k ≤ 7) : val s k < 72057594037927936 :=
  Nat.lt_of_lt_of_le (val_lt s k) (by
    have : 256 ^ k ≤ 256 ^ 7 := Nat.pow_le_pow_right (by decide) hk
    exact Nat.le_trans this (by decide))
/-- Are bytes a number's? -/
def vGood (s : ByteArray) : Bool := decide (s.size ≤ 8) && (decide (s.size = 0) || decide (bt s 0 ≠ 0))
def vN (s : ByteArray) : Nat := if vGood s then val s s.size else 0
def vE (s : ByteArray) : Int := if vGood s then 0 else 40
theorem ne_empty (s : ByteArray) (h : 0 < s.size) : s.toList.isEmpty = false := by
  rw [← decide_eq_emptyBytes s]
  exact decide_eq_false fun e => by rw [e] at h; exact absurd h (by decide)
theorem is_empty (s : ByteArray) (h : s.size = 0) : s = ⟨#[]⟩ := ext_bt _ _ h (fun j hj => absurd hj (by omega))

--[R4
--R4]
end Go.Proofs.YtbpcciifaekffaaGreatDoor
namespace Go.Proofs.YtbpcciifaekffaaGreatDoor
open Go.RowKit Go.Sort

/-- How many bytes a number takes. -/
def blen (n : Nat) : Nat := if h : n = 0 then 0 else blen (n / 256) + 1
termination_by n
decreasing_by omega
theorem blen_0 : blen 0 = 0 := by rw [blen, dif_pos rfl]
theorem blen_pos (n : Nat) (h : n ≠ 0) : blen n = blen (n / 256) + 1 := by rw [blen, dif_neg h]
theorem blen_at : ∀ (k n x : Nat), n / 256 ^ k = x → 0 < x → x < 256 → blen n = k + 1
  | 0, n, x, h, h0, h1 => by
    rw [Nat.pow_zero, Nat.div_one] at h
    subst h
    rw [blen_pos n (by omega), show n / 256 = 0 by omega, blen_0]
  | k + 1, n, x, h, h0, h1 => by
    have hn : n ≠ 0 := fun e => by rw [e, Nat.zero_div] at h; omega
    rw [blen_pos n hn, blen_at k (n / 256) x (by rw [Nat.div_div_eq_div_mul, ← h, Nat.pow_succ, Nat.mul_comm]) h0 h1]
abbrev lenTab : ByteArray := ⟨#[0, 1, 2, 2, 3, 3, 3, 3, 4, 4, 4, 4, 4, 4, 4, 4, 5, 5, 5, 5, 5, 5, 5, 5, 5, 5, 5, 5, 5, 5, 5, 5, 6, 6, 6, 6, 6, 6, 6, 6, 6, 6, 6, 6, 6, 6, 6, 6, 6, 6, 6, 6, 6, 6, 6, 6, 6, 6, 6, 6, 6, 6, 6, 6, 7, 7, 7, 7, 7, 7, 7, 7, 7, 7, 7, 7, 7, 7, 7, 7, 7, 7, 7, 7, 7, 7, 7, 7, 7, 7, 7, 7, 7, 7, 7, 7, 7, 7, 7, 7, 7, 7, 7, 7, 7, 7, 7, 7, 7, 7, 7, 7, 7, 7, 7, 7, 7, 7, 7, 7, 7, 7, 7, 7, 7, 7, 7, 7, 8, 8, 8, 8, 8, 8, 8, 8, 8, 8, 8, 8, 8, 8, 8, 8, 8, 8, 8, 8, 8, 8, 8, 8, 8, 8, 8, 8, 8, 8, 8, 8, 8, 8, 8, 8, 8, 8, 8, 8, 8, 8, 8, 8, 8, 8, 8, 8, 8, 8, 8, 8, 8, 8, 8, 8, 8, 8, 8, 8, 8, 8, 8, 8, 8, 8, 8, 8, 8, 8, 8, 8, 8, 8, 8, 8, 8, 8, 8, 8, 8, 8, 8, 8, 8, 8, 8, 8, 8, 8, 8, 8, 8, 8, 8, 8, 8, 8, 8, 8, 8, 8, 8, 8, 8, 8, 8, 8, 8, 8, 8, 8, 8, 8, 8, 8, 8, 8, 8, 8, 8, 8, 8, 8, 8, 8, 8, 8]⟩
def l8 (x : Nat) : Int := bt lenTab x
theorem l8_bd (x : Nat) (h : x < 256) : 0 ≤ l8 x ∧ l8 x ≤ 8 ∧ (x = 0 → l8 x = 0) ∧ (0 < x → 1 ≤ l8 x) := by
  have e : ∀ j : Fin 256, 0 ≤ l8 j.val ∧ l8 j.val ≤ 8 ∧ (j.val = 0 → l8 j.val = 0) ∧ (0 < j.val → 1 ≤ l8 j.val) := by decide +kernel
  exact e ⟨x, h⟩

set_option maxRecDepth 20000 in
set_option maxHeartbeats 2000000 in
theorem len64_any (n : Nat) (hn : n < 18446744073709551616) (w : World) :
    Calls Tryz.prog 121 #[.int .u64 n] w fun e w' => (∃ L : Nat, e = .returned (.int .i64 L) ∧ L ≤ 64 ∧ (L + 7) / 8 = blen n) ∧ Below w.heap.size w w' := by
  by_cases h32 : 4294967296 ≤ n
  · obtain ⟨x32, e32⟩ : ∃ x, n / 4294967296 = x := ⟨_, rfl⟩
    have c32 : (4294967296 : Int) ≤ n := by omega
    have d32 : (n : Int) / 4294967296 = x32 := by omega
    by_cases h16 : 65536 ≤ x32
    · obtain ⟨x16, e16⟩ : ∃ x, x32 / 65536 = x := ⟨_, rfl⟩
      have c16 : (65536 : Int) ≤ x32 := by omega
      have d16 : (x32 : Int) / 65536 = x16 := by omega
      by_cases h8 : 256 ≤ x16
      · obtain ⟨x8, e8⟩ : ∃ x, x16 / 256 = x := ⟨_, rfl⟩
        have c8 : (256 : Int) ≤ x16 := by omega
        have d8 : (x16 : Int) / 256 = x8 := by omega
        have l1 : x8 < 256 := by omega
        have l2 : (x8 : Int) < 256 := by omega
        have hm : (x8 : Int) % 256 = x8 := by omega
        have hg := bt_get lenTab x8 l1
        obtain ⟨v, hv⟩ : ∃ v, bt lenTab x8 = v := ⟨_, rfl⟩
        have hb := l8_bd x8 l1
        rw [show l8 x8 = v from hv] at hb
        rw [hv] at hg
        go_enter Tryz.func121, Tryz.ntmps121
        go_wp2
        go_ret
        refine ⟨⟨(56 + v).toNat, ?_, ?_, ?_⟩, Below.refl _ _⟩
        · exact congrArg (fun y => Ending.returned (Value.int .i64 y)) (show (56 + v) = (((56 + v).toNat : Nat) : Int) by omega)
        · omega
        · rw [blen_at 7 n x8 (by rw [← e8, ← e16, ← e32, Nat.div_div_eq_div_mul, Nat.div_div_eq_div_mul]) (by omega) (by omega)]
          omega
      · have c8 : ¬ (256 : Int) ≤ x16 := by omega
        have l1 : x16 < 256 := by omega
        have l2 : (x16 : Int) < 256 := by omega
        have hm : (x16 : Int) % 256 = x16 := by omega
        have hg := bt_get lenTab x16 l1
        obtain ⟨v, hv⟩ : ∃ v, bt lenTab x16 = v := ⟨_, rfl⟩
        have hb := l8_bd x16 l1
        rw [show l8 x16 = v from hv] at hb
        rw [hv] at hg
        go_enter Tryz.func121, Tryz.ntmps121
        go_wp2
        go_ret
        refine ⟨⟨(48 + v).toNat, ?_, ?_, ?_⟩, Below.refl _ _⟩
        · exact congrArg (fun y => Ending.returned (Value.int .i64 y)) (show (48 + v) = (((48 + v).toNat : Nat) : Int) by omega)
        · omega
        · rw [blen_at 6 n x16 (by rw [← e16, ← e32, Nat.div_div_eq_div_mul]) (by omega) (by omega)]
          omega
    · have c16 : ¬ (65536 : Int) ≤ x32 := by omega
      by_cases h8 : 256 ≤ x32
      · obtain ⟨x8, e8⟩ : ∃ x, x32 / 256 = x := ⟨_, rfl⟩
        have c8 : (256 : Int) ≤ x32 := by omega
        have d8 : (x32 : Int) / 256 = x8 := by omega
        have l1 : x8 < 256 := by omega
        have l2 : (x8 : Int) < 256 := by omega
        have hm : (x8 : Int) % 256 = x8 := by omega
        have hg := bt_get lenTab x8 l1
        obtain ⟨v, hv⟩ : ∃ v, bt lenTab x8 = v := ⟨_, rfl⟩
        have hb := l8_bd x8 l1
        rw [show l8 x8 = v from hv] at hb
        rw [hv] at hg
        go_enter Tryz.func121, Tryz.ntmps121
        go_wp2
        go_ret
        refine ⟨⟨(40 + v).toNat, ?_, ?_, ?_⟩, Below.refl _ _⟩
        · exact congrArg (fun y => Ending.returned (Value.int .i64 y)) (show (40 + v) = (((40 + v).toNat : Nat) : Int) by omega)
        · omega
        · rw [blen_at 5 n x8 (by rw [← e8, ← e32, Nat.div_div_eq_div_mul]) (by omega) (by omega)]
          omega
      · have c8 : ¬ (256 : Int) ≤ x32 := by omega
        have l1 : x32 < 256 := by omega
        have l2 : (x32 : Int) < 256 := by omega
        have hm : (x32 : Int) % 256 = x32 := by omega
        have hg := bt_get lenTab x32 l1
        obtain ⟨v, hv⟩ : ∃ v, bt lenTab x32 = v := ⟨_, rfl⟩
        have hb := l8_bd x32 l1
        rw [show l8 x32 = v from hv] at hb
        rw [hv] at hg
        go_enter Tryz.func121, Tryz.ntmps121
        go_wp2
        go_ret
        refine ⟨⟨(32 + v).toNat, ?_, ?_, ?_⟩, Below.refl _ _⟩
        · exact congrArg (fun y => Ending.returned (Value.int .i64 y)) (show (32 + v) = (((32 + v).toNat : Nat) : Int) by omega)
        · omega
        · rw [blen_at 4 n x32 (by rw [← e32]) (by omega) (by omega)]
          omega
  · have c32 : ¬ (4294967296 : Int) ≤ n := by omega
    by_cases h16 : 65536 ≤ n
    · obtain ⟨x16, e16⟩ : ∃ x, n / 65536 = x := ⟨_, rfl⟩
      have c16 : (65536 : Int) ≤ n := by omega
      have d16 : (n : Int) / 65536 = x16 := by omega
      by_cases h8 : 256 ≤ x16
      · obtain ⟨x8, e8⟩ : ∃ x, x16 / 256 = x := ⟨_, rfl⟩
        have c8 : (256 : Int) ≤ x16 := by omega
        have d8 : (x16 : Int) / 256 = x8 := by omega
        have l1 : x8 < 256 := by omega
        have l2 : (x8 : Int) < 256 := by omega
        have hm : (x8 : Int) % 256 = x8 := by omega
        have hg := bt_get lenTab x8 l1
        obtain ⟨v, hv⟩ : ∃ v, bt lenTab x8 = v := ⟨_, rfl⟩
        have hb := l8_bd x8 l1
        rw [show l8 x8 = v from hv] at hb
        rw [hv] at hg
        go_enter Tryz.func121, Tryz.ntmps121
        go_wp2
        go_ret
        refine ⟨⟨(24 + v).toNat, ?_, ?_, ?_⟩, Below.refl _ _⟩
        · exact congrArg (fun y => Ending.returned (Value.int .i64 y)) (show (24 + v) = (((24 + v).toNat : Nat) : Int) by omega)
        · omega
        · rw [blen_at 3 n x8 (by rw [← e8, ← e16, Nat.div_div_eq_div_mul]) (by omega) (by omega)]
          omega
      · have c8 : ¬ (256 : Int) ≤ x16 := by omega
        have l1 : x16 < 256 := by omega
        have l2 : (x16 : Int) < 256 := by omega
        have hm : (x16 : Int) % 256 = x16 := by omega
        have hg := bt_get lenTab x16 l1
        obtain ⟨v, hv⟩ : ∃ v, bt lenTab x16 = v := ⟨_, rfl⟩
        have hb := l8_bd x16 l1
        rw [show l8 x16 = v from hv] at hb
        rw [hv] at hg
        go_enter Tryz.func121, Tryz.ntmps121
        go_wp2
        go_ret
        refine ⟨⟨(16 + v).toNat, ?_, ?_, ?_⟩, Below.refl _ _⟩
        · exact congrArg (fun y => Ending.returned (Value.int .i64 y)) (show (16 + v) = (((16 + v).toNat : Nat) : Int) by omega)
        · omega
        · rw [blen_at 2 n x16 (by rw [← e16]) (by omega) (by omega)]
          omega
    · have c16 : ¬ (65536 : Int) ≤ n := by omega
      by_cases h8 : 256 ≤ n
      · obtain ⟨x8, e8⟩ : ∃ x, n / 256 = x := ⟨_, rfl⟩
        have c8 : (256 : Int) ≤ n := by omega
        have d8 : (n : Int) / 256 = x8 := by omega
        have l1 : x8 < 256 := by omega
        have l2 : (x8 : Int) < 256 := by omega
        have hm : (x8 : Int) % 256 = x8 := by omega
        have hg := bt_get lenTab x8 l1
        obtain ⟨v, hv⟩ : ∃ v, bt lenTab x8 = v := ⟨_, rfl⟩
        have hb := l8_bd x8 l1
        rw [show l8 x8 = v from hv] at hb
        rw [hv] at hg
        go_enter Tryz.func121, Tryz.ntmps121
        go_wp2
        go_ret
        refine ⟨⟨(8 + v).toNat, ?_, ?_, ?_⟩, Below.refl _ _⟩
        · exact congrArg (fun y => Ending.returned (Value.int .i64 y)) (show (8 + v) = (((8 + v).toNat : Nat) : Int) by omega)
        · omega
        · rw [blen_at 1 n x8 (by rw [← e8]) (by omega) (by omega)]
          omega
      · have c8 : ¬ (256 : Int) ≤ n := by omega
        have l1 : n < 256 := by omega
        have l2 : (n : Int) < 256 := by omega
        have hm : (n : Int) % 256 = n := by omega
        have hg := bt_get lenTab n l1
        obtain ⟨v, hv⟩ : ∃ v, bt lenTab n = v := ⟨_, rfl⟩
        have hb := l8_bd n l1
        rw [show l8 n = v from hv] at hb
        rw [hv] at hg
        go_enter Tryz.func121, Tryz.ntmps121
        go_wp2
        go_ret
        refine ⟨⟨v.toNat, ?_, ?_, ?_⟩, Below.refl _ _⟩
        · exact congrArg (fun y => Ending.returned (Value.int .i64 y)) (show v = ((v.toNat : Nat) : Int) by omega)
        · omega
        · by_cases h0 : n = 0
          · have := hb.2.2.1 h0
            rw [h0, blen_0]
            omega
          · have := hb.2.2.2 (by omega)
            rw [blen_at 0 n n (by rw [Nat.pow_zero, Nat.div_one]) (by omega) (by omega)]
            omega
end Go.Proofs.YtbpcciifaekffaaGreatDoor
