/- Lemmas: Lights, committees, messages, stores as values, and where their lists lie. What the package's signing does: those that sign, one by one. No condition. What the package's words do: periods, slots, what a message has. No condition. What the package's count, twoThirds, isEmpty, isFinal do. No condition. What the package's copies do. No condition but on sizes that no machine has. What the package's copiedCommittee does. No condition but on sizes that no machine has. Structs in memory: whole rows and parts of them, written and read. No condition. -/
import Derived.Test.YtoddangedbefgabGreatDoorM1
import Derived.Test.YtoddangedbefgabGreatDoorM10
import Derived.Test.YtoddangedbefgabGreatDoorM11
import Derived.Test.YtoddangedbefgabGreatDoorM12
import Derived.Test.YtoddangedbefgabGreatDoorM13
import Derived.Test.YtoddangedbefgabGreatDoorM14
import Derived.Test.YtoddangedbefgabGreatDoorM16
import Derived.Test.YtoddangedbefgabGreatDoorM17
import Derived.Test.YtoddangedbefgabGreatDoorM18
import Derived.Test.YtoddangedbefgabGreatDoorM19
import Derived.Test.YtoddangedbefgabGreatDoorM2
import Derived.Test.YtoddangedbefgabGreatDoorM20
import Derived.Test.YtoddangedbefgabGreatDoorM21
import Derived.Test.YtoddangedbefgabGreatDoorM22
import Derived.Test.YtoddangedbefgabGreatDoorM23
import Derived.Test.YtoddangedbefgabGreatDoorM3
import Derived.Test.YtoddangedbefgabGreatDoorM4
import Derived.Test.YtoddangedbefgabGreatDoorM5
import Derived.Test.YtoddangedbefgabGreatDoorM6
import Derived.Test.YtoddangedbefgabGreatDoorM7
import Derived.Test.YtoddangedbefgabGreatDoorM8
import Derived.Test.YtoddangedbefgabGreatDoorM9
import Derived.Test.YtoddangedbefgabGreatDoorRows
import Derived.BigQuiet
namespace Go.Proofs.YtoddangedbefgabGreatDoor
open Go.RowKit Go.Shelf Go.Sort

structure LtD where
 s : Nat
 u : Nat
 p : ByteArray
 t : ByteArray
 b : ByteArray
 ea : ByteArray
 ra : ByteArray
 m : Nat
 br : List ByteArray
structure CmD where
 ks : List ByteArray
 sm : ByteArray
structure UpD where
 l : LtD
 c : CmD
 nb : List ByteArray
 f : LtD
 fb : List ByteArray
 bits : Nat
 sig : ByteArray
 slot : Nat
structure StD where
 fin : LtD
 new : LtD
 now : CmD
 nxt : CmD
 best : UpD
 has : Bool
 last : Int
 this : Int
 forced : Bool
def zLt : LtD := ⟨0, 0, ⟨#[]⟩, ⟨#[]⟩, ⟨#[]⟩, ⟨#[]⟩, ⟨#[]⟩, 0, []⟩
def zCm : CmD := ⟨[], ⟨#[]⟩⟩
def zUp : UpD := ⟨zLt, zCm, [], zLt, [], 0, ⟨#[]⟩, 0⟩
def zSt : StD := ⟨zLt, zLt, zCm, zCm, zUp, false, 0, 0, false⟩
def U6 (n : Nat) : Prop := n < 18446744073709551616
def LtD.ok (d : LtD) : Prop := U6 d.s ∧ U6 d.u ∧ U6 d.m
def UpD.ok (d : UpD) : Prop := d.l.ok ∧ d.f.ok ∧ U6 d.bits ∧ U6 d.slot

structure Pl where
 a : Option Addr
 c : Nat
def slV (xs : List ByteArray) (q : Pl) : Value := .slice q.a xs.length q.c
def ltV (d : LtD) (q : Pl) : List Value := [.int .u64 (d.s : Int), .int .u64 (d.u : Int), .string d.p, .string d.t, .string d.b, .string d.ea, .string d.ra, .int .u64 (d.m : Int), .slice q.a d.br.length q.c]
def cmV (d : CmD) (q : Pl) : List Value := [.slice q.a d.ks.length q.c, .string d.sm]
structure UpP where
 l : Pl
 c : Pl
 nb : Pl
 f : Pl
 fb : Pl
def upV (d : UpD) (q : UpP) : List Value := ltV d.l q.l ++ cmV d.c q.c ++ [slV d.nb q.nb] ++ ltV d.f q.f ++ [slV d.fb q.fb, .int .u64 (d.bits : Int), .string d.sig, .int .u64 (d.slot : Int)]
structure StP where
 fin : Pl
 new : Pl
 now : Pl
 nxt : Pl
 best : UpP
def stV (d : StD) (q : StP) : List Value := ltV d.fin q.fin ++ ltV d.new q.new ++ cmV d.now q.now ++ cmV d.nxt q.nxt ++ upV d.best q.best ++ [.bool d.has, .int .i64 d.last, .int .i64 d.this, .bool d.forced]
def upIn (n : Nat) (W : World) (d : UpD) (q : UpP) : Prop := slS n W q.l.a d.l.br ∧ slS n W q.c.a d.c.ks ∧ slS n W q.nb.a d.nb ∧ slS n W q.f.a d.f.br ∧ slS n W q.fb.a d.fb
def stIn (n : Nat) (W : World) (d : StD) (q : StP) : Prop := slS n W q.fin.a d.fin.br ∧ slS n W q.new.a d.new.br ∧ slS n W q.now.a d.now.ks ∧ slS n W q.nxt.a d.nxt.ks ∧ upIn n W d.best q.best
theorem upIn.below {n : Nat} {W W' : World} (hb : Below n W W') {d : UpD} {q : UpP} (h : upIn n W d q) : upIn n W' d q := ⟨slS_below hb h.1, slS_below hb h.2.1, slS_below hb h.2.2.1, slS_below hb h.2.2.2.1, slS_below hb h.2.2.2.2⟩
theorem stIn.below {n : Nat} {W W' : World} (hb : Below n W W') {d : StD} {q : StP} (h : stIn n W d q) : stIn n W' d q := ⟨slS_below hb h.1, slS_below hb h.2.1, slS_below hb h.2.2.1, slS_below hb h.2.2.2.1, h.2.2.2.2.below hb⟩
theorem slS_mono {n m : Nat} {W : World} {a : Option Addr} {xs : List ByteArray} (h : slS n W a xs) (hm : n ≤ m) : slS m W a xs := by
 rcases h with h | ⟨b, o, h1, h2, h3⟩
 ·exact .inl h
 ·exact .inr ⟨b, o, h1, Nat.lt_of_lt_of_le h2 hm, h3⟩
theorem upIn.mono {n m : Nat} {W : World} {d : UpD} {q : UpP} (h : upIn n W d q) (hm : n ≤ m) : upIn m W d q := ⟨slS_mono h.1 hm, slS_mono h.2.1 hm, slS_mono h.2.2.1 hm, slS_mono h.2.2.2.1 hm, slS_mono h.2.2.2.2 hm⟩
theorem stIn.mono {n m : Nat} {W : World} {d : StD} {q : StP} (h : stIn n W d q) (hm : n ≤ m) : stIn m W d q := ⟨slS_mono h.1 hm, slS_mono h.2.1 hm, slS_mono h.2.2.1 hm, slS_mono h.2.2.2.1 hm, h.2.2.2.2.mono hm⟩

theorem range_of_block {W : World} {b : Nat} {cs : List Value} {t : TypeId} {f : Nat × Nat} (h : W.heap[b]? = some (.cells cs.toArray t f)) (o : Nat) (vs : List Value) (hv : ∀ (j : Nat) v, vs[j]? = some v → cs[o + j]? = some v) : W.rangeAt b o vs := fun j v hj => by
 rw [Lib.cell_of_heap h]
 have := hv j v hj
 simp [this]
theorem cell_of_block {W : World} {b : Nat} {cs : List Value} {t : TypeId} {f : Nat × Nat} (h : W.heap[b]? = some (.cells cs.toArray t f)) (o : Nat) (v : Value) (hv : cs[o]? = some v) : W.cell? ⟨b, o, none⟩ = some v := by
 rw [Lib.cell_of_heap h]
 simp [hv]

theorem get_mid {A B C : List Value} (j : Nat) (v : Value) (h : B[j]? = some v) : (A ++ B ++ C)[A.length + j]? = some v := by
 have hj : j < B.length := (List.getElem?_eq_some_iff.1 h).1
 rw [List.append_assoc, List.getElem?_append_right (by omega), Nat.add_sub_cancel_left, List.getElem?_append_left hj]
 exact h
theorem upV_l (d : UpD) (q : UpP) (j : Nat) (v : Value) (h : (ltV d.l q.l)[j]? = some v) : (upV d q)[0 + j]? = some v := get_mid (A := []) (B := ltV d.l q.l) (C := cmV d.c q.c ++ [slV d.nb q.nb] ++ ltV d.f q.f ++ [slV d.fb q.fb, .int .u64 (d.bits : Int), .string d.sig, .int .u64 (d.slot : Int)]) j v h
theorem upV_c (d : UpD) (q : UpP) (j : Nat) (v : Value) (h : (cmV d.c q.c)[j]? = some v) : (upV d q)[9 + j]? = some v := get_mid (A := ltV d.l q.l) (B := cmV d.c q.c) (C := [slV d.nb q.nb] ++ ltV d.f q.f ++ [slV d.fb q.fb, .int .u64 (d.bits : Int), .string d.sig, .int .u64 (d.slot : Int)]) j v h
theorem upV_f (d : UpD) (q : UpP) (j : Nat) (v : Value) (h : (ltV d.f q.f)[j]? = some v) : (upV d q)[12 + j]? = some v := get_mid (A := ltV d.l q.l ++ cmV d.c q.c ++ [slV d.nb q.nb]) (B := ltV d.f q.f) (C := [slV d.fb q.fb, .int .u64 (d.bits : Int), .string d.sig, .int .u64 (d.slot : Int)]) j v h
theorem stV_fin (d : StD) (q : StP) (j : Nat) (v : Value) (h : (ltV d.fin q.fin)[j]? = some v) : (stV d q)[0 + j]? = some v := get_mid (A := []) (B := ltV d.fin q.fin) (C := ltV d.new q.new ++ cmV d.now q.now ++ cmV d.nxt q.nxt ++ upV d.best q.best ++ [.bool d.has, .int .i64 d.last, .int .i64 d.this, .bool d.forced]) j v h
theorem stV_new (d : StD) (q : StP) (j : Nat) (v : Value) (h : (ltV d.new q.new)[j]? = some v) : (stV d q)[9 + j]? = some v := get_mid (A := ltV d.fin q.fin) (B := ltV d.new q.new) (C := cmV d.now q.now ++ cmV d.nxt q.nxt ++ upV d.best q.best ++ [.bool d.has, .int .i64 d.last, .int .i64 d.this, .bool d.forced]) j v h
theorem stV_now (d : StD) (q : StP) (j : Nat) (v : Value) (h : (cmV d.now q.now)[j]? = some v) : (stV d q)[18 + j]? = some v := get_mid (A := ltV d.fin q.fin ++ ltV d.new q.new) (B := cmV d.now q.now) (C := cmV d.nxt q.nxt ++ upV d.best q.best ++ [.bool d.has, .int .i64 d.last, .int .i64 d.this, .bool d.forced]) j v h
theorem stV_nxt (d : StD) (q : StP) (j : Nat) (v : Value) (h : (cmV d.nxt q.nxt)[j]? = some v) : (stV d q)[20 + j]? = some v := get_mid (A := ltV d.fin q.fin ++ ltV d.new q.new ++ cmV d.now q.now) (B := cmV d.nxt q.nxt) (C := upV d.best q.best ++ [.bool d.has, .int .i64 d.last, .int .i64 d.this, .bool d.forced]) j v h
theorem stV_best (d : StD) (q : StP) (j : Nat) (v : Value) (h : (upV d.best q.best)[j]? = some v) : (stV d q)[22 + j]? = some v := get_mid (A := ltV d.fin q.fin ++ ltV d.new q.new ++ cmV d.now q.now ++ cmV d.nxt q.nxt) (B := upV d.best q.best) (C := [.bool d.has, .int .i64 d.last, .int .i64 d.this, .bool d.forced]) j v h

/-! ### Those that sign -/
def sgB (bits i : Nat) : Bool := decide (bits / 2 ^ i % 2 = 1)
def sgL (bits q : Nat) : List Nat := (List.range q).filter (sgB bits)
theorem sgL_succ (bits q : Nat) : sgL bits (q + 1) = if sgB bits q = true then sgL bits q ++ [q] else sgL bits q := by
 unfold sgL
 rw [List.range_succ, List.filter_append]
 cases h : sgB bits q <;> simp [h]
theorem sgL_len (bits q : Nat) : (sgL bits q).length ≤ q := by
 unfold sgL
 exact Nat.le_trans (List.length_filter_le _ _) (by rw [List.length_range]; exact Nat.le_refl _)
def sgN (bits : Nat) : Nat := (sgL bits 16).length
end Go.Proofs.YtoddangedbefgabGreatDoor
namespace Go.Proofs.YtoddangedbefgabGreatDoor
open Go.RowKit Go.Shelf Go.Sort
attribute [local go_sem] Oper.semAt_some

def UbIn (bX : Nat) (bits : Nat) (W : World) : Prop := ∃ cs : Array Value, Bq bX 33 cs W ∧ cs.size = 25 ∧ cs[22]? = some (.int .u64 (bits : Int))
def UbK (bX : Nat) (bits : Nat) (W W' : World) : Prop := UbIn bX bits W → UbIn bX bits W'
theorem UbIn.below {bX : Nat} {bits : Nat} {W W' : World} (hc : UbIn bX bits W) (h : Below W.heap.size W W') : UbIn bX bits W' := by
 obtain ⟨cs, h1, h2, h3⟩ := hc
 exact ⟨cs, h1.below h, h2, h3⟩
theorem UbIn.belowN {n bX : Nat} {bits : Nat} {W W' : World} (hc : UbIn bX bits W) (h : Below n W W') (hx : bX < n) : UbIn bX bits W' := by
 obtain ⟨cs, h1, h2, h3⟩ := hc
 exact ⟨cs, (h.block _ hx).trans h1, h2, h3⟩
theorem UbK.of_below {bX : Nat} {bits : Nat} {W W' : World} (h : Below W.heap.size W W') : UbK bX bits W W' := fun hc => hc.below h
theorem UbK.trans {bX : Nat} {bits : Nat} {W W' V : World} (h : UbK bX bits W W') (g : UbK bX bits W' V) : UbK bX bits W V := fun hc => g (h hc)
theorem UbIn.cell {bX : Nat} {bits : Nat} {W : World} (hc : UbIn bX bits W) : W.cell? ⟨bX, 22, none⟩ = some (.int .u64 (bits : Int)) := by
 obtain ⟨cs, h1, h2, h3⟩ := hc
 rw [h1.cell 22]
 exact h3
theorem UbIn.lt {bX : Nat} {bits : Nat} {W : World} (hc : UbIn bX bits W) : bX < W.heap.size := by
 obtain ⟨cs, h1, h2, h3⟩ := hc
 exact h1.lt
abbrev Mb : Type := {x : Nat // x < 16}
def mbEnc (x : Mb) : Array Value := #[.int .i64 (x.val : Int)]
theorem sgL_lt (bits q : Nat) : ∀ x ∈ sgL bits q, x < q := fun x hx => by
 unfold sgL at hx
 exact List.mem_range.1 (List.mem_filter.1 hx).1
def mbT (bits q : Nat) (hq : q ≤ 16) : List Mb := (sgL bits q).attach.map fun x => ⟨x.1, Nat.lt_of_lt_of_le (sgL_lt bits q x.1 x.2) hq⟩
theorem mbT_val (bits q : Nat) (hq : q ≤ 16) : (mbT bits q hq).map (·.val) = sgL bits q := by
 unfold mbT
 rw [List.map_map]
 exact List.attach_map_subtype_val _
theorem mbT_len (bits q : Nat) (hq : q ≤ 16) : (mbT bits q hq).length = (sgL bits q).length := by rw [← mbT_val bits q hq, List.length_map]
theorem mb_ext {l l' : List Mb} (h : l.map (·.val) = l'.map (·.val)) : l = l' := (List.map_inj_right (f := fun x : Mb => x.val) (fun _ _ e => Subtype.ext e)).1 h
theorem mbT_no (bits q : Nat) (hq : q + 1 ≤ 16) (h : sgB bits q = false) : mbT bits (q + 1) hq = mbT bits q (by omega) := mb_ext (by rw [mbT_val, mbT_val, sgL_succ, h]; rfl)
theorem mbT_yes (bits q : Nat) (hq : q + 1 ≤ 16) (h : sgB bits q = true) : mbT bits (q + 1) hq = mbT bits q (by omega) ++ [⟨q, by omega⟩] := mb_ext (by rw [List.map_append, mbT_val, mbT_val, sgL_succ, h]; rfl)

set_option maxRecDepth 100000 in
set_option maxHeartbeats 2000000 in
theorem signing1_in (n l bX : Nat) (b : Nat) (hb : b < 18446744073709551616) (J Jx : List Mb → World → Prop) (B : Nat) (_ : AbidesFrom B J)
  (hY : ∀ m pre x W, J pre W → pre.length < 16 → YieldAt Fence.wide m Tryz.prog l (mbEnc x) W fun e W' =>
   (e = .returned (.bool true) ∧ J (pre ++ [x]) W' ∧ UbK bX b W W') ∨ (e = .returned (.bool false) ∧ Jx (pre ++ [x]) W'))
  (W : World) (hc : UbIn bX b W) (h0 : J [] W) :
  CallsIn Fence.wide n Tryz.prog 93 #[.func (.yield l) #[] #[], .pointer (some ⟨bX, 0, none⟩)] W fun e W' => (∃ v, e = .returned v) ∧
   (J (mbT b 16 (by omega)) W' ∨ (∃ q hq, Jx (mbT b q hq) W')) := by
 refine callsIn_of_wp Tryz.func93 rfl trivial ?_ rfl
 simp only [Tryz.ntmps93, List.size_toArray, List.length_cons, List.length_nil, Nat.reduceAdd, Nat.reduceSub, Array.replicate_succ, Array.replicate_zero, List.push_toArray, List.append_toArray, List.nil_append, List.cons_append]
 gi_wp2_with fail
 gi_loopw [4] (fun i wr => ∃ q : Nat, ∃ hq : q ≤ 16, i = .int .i64 (q : Int) ∧ J (mbT b q hq) wr ∧ UbIn bX b wr)
  (fun i _ => (16 - (intOf i).toNat))
 case atStart => exact ⟨0, by omega, rfl, h0, hc⟩
 case round =>
  obtain ⟨q, hq, rfl, hJs, hkt⟩ := hrel
  by_cases hlq : q < 16
  ·have l0 : (q : Int) < 16 := by omega
   have hc1 := hkt.cell
   have hlt := hkt.lt
   have hdv : (b : Int) / 2 ^ q = ((b / 2 ^ q : Nat) : Int) := by rw [Int.natCast_ediv, Int.natCast_pow]; rfl
   have hbd : b / 2 ^ q < 18446744073709551616 := Nat.lt_of_le_of_lt (Nat.div_le_self _ _) hb
   have han : bits .and .u64 ((b : Int) / 2 ^ q) 1 = ((b / 2 ^ q % 2 : Nat) : Int) := by rw [hdv]; exact and_bit8 _ hbd
   have hsg : sgB b q = decide (b / 2 ^ q % 2 = 1) := rfl
   obtain ⟨d, hd⟩ : ∃ d, b / 2 ^ q % 2 = d := ⟨_, rfl⟩
   rw [hd] at hsg han
   have hd2 : d < 2 := by omega
   clear hdv hbd
   by_cases h1 : d = 1
   ·subst h1
    have eT := mbT_yes b q (by omega) hsg
    have eL := sgL_len b q
    rw [← mbT_len b q hq] at eL
    obtain ⟨fn, tmps, assign, body, hyy, hR⟩ := hY (n - 1) _ ⟨q, hlq⟩ wr hJs (by omega)
    unfold mbEnc at hyy
    simp only at hyy
    replace han : bits .and .u64 ((b : Int) / 2 ^ q) 1 = 1 := han
    have HX : Hid (_ ∧ _) := ⟨hJs, hkt⟩
    clear hJs hkt hc h0 hd hd2 hsg
    gi_wp2_with fail
    refine ⟨fun h => (by cases h), hR.mono ?_⟩
    rintro e W3 (⟨rfl, hJ3, hk3⟩ | ⟨rfl, hJx3⟩)
    ·gi_wp2
     go_roundw
     case rel => exact ⟨q + 1, by omega, rfl, by rw [eT]; exact hJ3, hk3 HX.out.2⟩
     case measure => simp [intOf]; omega
    ·gi_wp2
     exact bodyPost_ret (v := .tuple #[]) (by simp [results, Tryz.results93, go_sem]) rfl ⟨⟨_, rfl⟩, .inr ⟨q + 1, by omega, by rw [eT]; exact hJx3⟩⟩
   ·obtain rfl : d = 0 := by omega
    have eT := mbT_no b q (by omega) (by rw [hsg]; rfl)
    replace han : bits .and .u64 ((b : Int) / 2 ^ q) 1 = 0 := han
    have HX : Hid (_ ∧ _) := ⟨hJs, hkt⟩
    clear hJs hkt hc h0 hd hd2 hsg h1
    gi_wp2
    refine ⟨fun f h => (by cases h), ?_⟩
    gi_wp2
    go_roundw
    case rel => exact ⟨q + 1, by omega, rfl, by rw [eT]; exact HX.out.1, HX.out.2⟩
    case measure => simp [intOf]; omega
  ·obtain rfl : q = 16 := by omega
   gi_wp2
   go_end0
   exact ⟨⟨_, rfl⟩, .inl hJs⟩
theorem signing_stops (n bX : Nat) (b : Nat) (hb : b < 18446744073709551616) (w : World) (hc : UbIn bX b w) :
  SeqStopsK Fence.wide n Tryz.prog 93 #[.pointer (some ⟨bX, 0, none⟩)] mbEnc (UbK bX b) (fun ys => ys = mbT b 16 (Nat.le_refl _)) (fun ys => ∃ q hq, ys = mbT b q hq) 16 w := fun l J Jx W hW hJ _ hY h0 => by
 refine (signing1_in n l bX b hb J Jx W.heap.size hJ (fun m pre x W1 hj hl => yieldAny m (hY pre x W1 hj hl)) W (hc.below hW) h0).mono ?_
 rintro e W' ⟨he, hj | ⟨q, hq, hj⟩⟩
 ·exact ⟨he, .inl ⟨_, rfl, hj⟩⟩
 ·exact ⟨he, .inr ⟨_, ⟨q, hq, rfl⟩, hj⟩⟩
theorem signing_any (cs : Array Value) (w : World) :
  Calls Tryz.prog 56 #[.agg cs] w fun e w' => e = .returned (.func (.func 93) #[] #[.pointer (some ⟨w.heap.size, 0, none⟩)]) ∧ w' = w.alloc (.cells cs 33) := by
 go_enter Tryz.func56, Tryz.ntmps56
 go_wp2
 go_ret
 exact ⟨rfl, rfl⟩
end Go.Proofs.YtoddangedbefgabGreatDoor
namespace Go.Proofs.YtoddangedbefgabGreatDoor
open Go.RowKit Go.Shelf Go.Sort

theorem box1 (w : World) (o : Obj) : Below w.heap.size w (w.alloc o) ∧ (w.alloc o).heap[w.heap.size]? = some o ∧ (w.alloc o).heap.size = w.heap.size + 1 := ⟨(Below.refl _ w).alloc (Nat.le_refl _) _, World.alloc_heap_new w o, by simp⟩
theorem box2 (w : World) (o1 o2 : Obj) : Below w.heap.size w ((w.alloc o1).alloc o2) ∧ ((w.alloc o1).alloc o2).heap[w.heap.size]? = some o1 ∧ ((w.alloc o1).alloc o2).heap[w.heap.size + 1]? = some o2 ∧ ((w.alloc o1).alloc o2).heap.size = w.heap.size + 2 := by
 refine ⟨((Below.refl _ w).alloc (Nat.le_refl _) _).alloc (by simp) _, (Lib.alloc_old _ _ _ (by simp)).trans (World.alloc_heap_new w _), ?_, by simp⟩
 have := World.alloc_heap_new (w.alloc o1) o2
 rwa [World.size_alloc] at this

theorem quiet_load_mid {P : Program} {ops : Array Oper} {C : World → Prop} {Q : Act → Prop} {rest : List Oper} {o : Oper} {a : Act} (hw : Region.wanted o (yielded ops a.tmps) = true) (ty : TypeId) (x : Operand) (ho : o.op = .load ty x)
  (b off : Nat) (hx : a.eval x = .pointer (some ⟨b, off, none⟩)) (cs : List Value) (d : TypeDesc) (hc : ∀ W, C W → W.rangeAt b off cs) (hu : P.underlying ty = some d) (hd : d.isRow = true) (hi : (P.info? ty).map (·.size) = some cs.length)
  (h : wpQuiet P ops C Q rest (a.put o.dst (.agg cs.toArray))) : wpQuiet P ops C Q (o :: rest) a := by
 unfold wpQuiet
 rw [if_pos hw]
 refine ⟨_, fun W hW => ?_, h⟩
 unfold Oper.quietAt execOp
 simp only [ho, hx, Instr.loadAt, Instr.sureAddr, Sem.run_bind, Sem.run_pure, Result.andThen_ok, run_loadVar_mid W b off ty cs d (hc W hW) hu hd hi]
 exact ⟨rfl, rfl⟩
theorem load_mid_wanted {P : Program} {ops : Array Oper} {rest : List Oper} {o : Oper} {a : Act} {w : World} {Q : Exit → Act → World → Prop} (hw : Region.wanted o (yielded ops a.tmps) = true) (ty : TypeId) (x : Operand) (ho : o.op = .load ty x)
  (b off : Nat) (hx : a.eval x = .pointer (some ⟨b, off, none⟩)) (cs : List Value) (d : TypeDesc) (hc : w.rangeAt b off cs) (hu : P.underlying ty = some d) (hd : d.isRow = true) (hi : (P.info? ty).map (·.size) = some cs.length)
  (h : wpList P ops Q rest (a.put o.dst (.agg cs.toArray)) w) : wpList P ops Q (o :: rest) a w :=
 wpList_step fun K hK => by
  rw [if_pos hw]
  exact wp_load_mid ty x ho b off hx cs d hc hu hd hi (hK _ _ h)
theorem rangeQ {V : World} {b off : Nat} {cs : List Value} (h : V.rangeAt b off cs) (hb : b < V.heap.size) : ∀ W, (∃ p : Regrown, W = grow (redrawn V p.d) p.os) → W.rangeAt b off cs := by
 rintro W ⟨p, rfl⟩ j v hj
 rw [(below_regrown V p.d p.os).cell (p := ⟨b, off + j, none⟩) hb]
 exact h j v hj
theorem range_all {W : World} {b : Nat} {cs : List Value} {t : TypeId} {f : Nat × Nat} (h : W.heap[b]? = some (.cells cs.toArray t f)) : W.rangeAt b 0 cs := range_of_block h 0 cs fun j v hj => by rw [Nat.zero_add]; exact hj


set_option maxHeartbeats 1000000 in
theorem period_any (n : Nat) (hn : U6 n) (w : World) : Calls Tryz.prog 84 #[.int .u64 (n : Int)] w fun e w' => e = .returned (.int .u64 ((n / 64 : Nat) : Int)) ∧ Below w.heap.size w w' := by
 go_enter Tryz.func84, Tryz.ntmps84
 have hn2 : n < 18446744073709551616 := hn
 have hq : IntKind.u64.wrap ((n : Int) / 64) = (n : Int) / 64 := by rw [IntKind.wrap_u64]; omega
 go_wp2
 go_ret
 exact ⟨by simp, Below.refl _ _⟩
set_option maxHeartbeats 1000000 in
theorem periodOf_any (d : LtD) (hd : U6 d.s) (q : Pl) (w : World) : Calls Tryz.prog 62 #[.agg (ltV d q).toArray] w fun e w' => e = .returned (.int .u64 ((d.s / 64 : Nat) : Int)) ∧ Below w.heap.size w w' := by
 obtain ⟨L, hL⟩ : ∃ L, (ltV d q).toArray = L := ⟨_, rfl⟩
 have h0 : L[0]? = some (.int .u64 (d.s : Int)) := by rw [← hL]; rfl
 rw [hL]
 clear hL
 have KP := period_any d.s hd
 have B1 := (box1 w (.cells L 29)).1
 go_enter Tryz.func62, Tryz.ntmps62
 go_wp2_with fail
 refine (KP _).mono ?_
 rintro r w2 ⟨rfl, B2⟩
 have BX := belowStep B1 B1.size B2
 clear B2 B1
 go_wp2
 go_ret
 exact ⟨by simp, BX⟩
set_option maxHeartbeats 1000000 in
theorem isAbove_any (d e : LtD) (q r : Pl) (w : World) : Calls Tryz.prog 28 #[.agg (ltV d q).toArray, .agg (ltV e r).toArray] w fun x w' => x = .returned (.bool (decide (e.s < d.s))) ∧ Below w.heap.size w w' := by
 obtain ⟨L, hL⟩ : ∃ L, (ltV d q).toArray = L := ⟨_, rfl⟩
 obtain ⟨M, hM⟩ : ∃ M, (ltV e r).toArray = M := ⟨_, rfl⟩
 have h0 : L[0]? = some (.int .u64 (d.s : Int)) := by rw [← hL]; rfl
 have h1 : M[0]? = some (.int .u64 (e.s : Int)) := by rw [← hM]; rfl
 rw [hL, hM]
 clear hL hM
 have B1 := (box2 w (.cells L 29) (.cells M 29)).1
 go_enter Tryz.func28, Tryz.ntmps28
 go_wp2
 go_ret
 exact ⟨by simp, B1⟩
set_option maxHeartbeats 1000000 in
theorem isKnown_any (d : CmD) (q : Pl) (w : World) : Calls Tryz.prog 57 #[.agg (cmV d q).toArray] w fun x w' => x = .returned (.bool (decide (0 < d.ks.length))) ∧ Below w.heap.size w w' := by
 obtain ⟨L, hL⟩ : ∃ L, (cmV d q).toArray = L := ⟨_, rfl⟩
 obtain ⟨n, hn⟩ : ∃ n, d.ks.length = n := ⟨_, rfl⟩
 have h0 : L[0]? = some (.slice q.a n q.c) := by rw [← hL, ← hn]; rfl
 rw [hL, hn]
 clear hL hn
 have B1 := (box1 w (.cells L 31)).1
 go_enter Tryz.func57, Tryz.ntmps57
 go_wp2
 go_ret
 exact ⟨by simp, B1⟩
end Go.Proofs.YtoddangedbefgabGreatDoor
namespace Go.Proofs.YtoddangedbefgabGreatDoor
open Go.RowKit Go.Shelf Go.Sort
attribute [local go_sem] Oper.semAt_some

set_option maxRecDepth 20000 in
set_option maxHeartbeats 4000000 in
theorem count_any (d : UpD) (hd : d.ok) (q : UpP) (w : World) : Calls Tryz.prog 25 #[.agg (upV d q).toArray] w fun x w' => x = .returned (.int .i64 ((sgN d.bits : Nat) : Int)) ∧ Below w.heap.size w w' := by
 obtain ⟨L, hL⟩ : ∃ L, (upV d q).toArray = L := ⟨_, rfl⟩
 have h22 : L[22]? = some (.int .u64 (d.bits : Int)) := by rw [← hL]; rfl
 have h25 : Hid (L.size = 25) := show L.size = 25 by rw [← hL]; rfl
 have hb : d.bits < 18446744073709551616 := hd.2.2.1
 obtain ⟨b, hbb⟩ : ∃ b, d.bits = b := ⟨_, rfl⟩
 rw [hbb] at h22 hb ⊢
 rw [hL]
 clear hL hbb hd
 refine (callsIn_wide (n := 9)).1 ?_
 refine callsIn_of_wp_marks Tryz.func25 rfl trivial ?_ rfl
 refine wpIn_wide.2 ?_
 simp only [Tryz.ntmps25, List.size_toArray, List.length_cons, List.length_nil, Nat.reduceAdd, Nat.reduceSub, Array.replicate_succ, Array.replicate_zero, List.push_toArray, List.append_toArray, List.nil_append, List.cons_append]
 obtain ⟨B1, hx, hy, hs⟩ := box2 w (.cells L 33) (.cells #[.int .i64 0] 3)
 go_wp2_with (refine wpList_load_row rfl 33 _ rfl w.heap.size rfl _ _ _ _ hx Tryz.underlying33 rfl (by rw [h25.out]; kernel_rfl) ?_)
 refine (signing_any L _).mono ?_
 rintro e w2 ⟨rfl, hw2⟩
 obtain ⟨z, hz⟩ : ∃ c, w.heap.size = c := ⟨_, rfl⟩
 have HZ : Hid (w.heap.size = z) := hz
 rw [hs, hz]
 rw [hz] at hy B1
 obtain ⟨B2, hx2, hs2⟩ := box1 ((w.alloc (.cells L 33)).alloc (.cells #[.int .i64 0] 3)) (.cells L 33)
 rw [← hw2, hs, hz] at B2 hx2 hs2
 have P2 : Bq (z + 1) 3 #[.int .i64 0] w2 := (B2.block _ (by omega)).trans hy
 have hcx : UbIn (z + 2) b w2 := ⟨L, hx2, h25.out, h22⟩
 have BW2 : Below z w w2 := B1.trans (B2.mono (by omega))
 clear hw2 B2 hx2 hy hx hs B1 hz h22 h25
 go_wp2_with fail
 have hxz : z + 2 < w2.heap.size := by omega
 refine (wpIn_wide (n := 9)).1 ?_
 refine wpIn_rangeFunc_ownH rfl (by omega) (gf := 93) (lb := #[.pointer (some ⟨z + 2, 0, none⟩)]) rfl trivial (enters_of Tryz.func93 (by kernel_rfl) rfl)
  (signing_stops _ (z + 2) b hb w2 hcx) (fun h k => UbK.trans h k) (fun W l o o' hl h1 h2 h3 hx => hx.belowN (belowK_b (n₀ := z + 3) (w := w2) (by omega) W l o o' hl h1 h2 h3) (by omega)) (Below.refl _ _) (fun _ => rfl)
  (fun pre W => Bq (z + 1) 3 #[.int .i64 ((pre.length : Nat) : Int)] W ∧ Below z w W ∧ z + 2 < W.heap.size)
  (fun _ _ _ => False)
  (fun s A C row hs hg hr => ⟨hs.1.own hg (fun r e => (hr r e).2), hs.2.1.grown hg (by omega) (fun k e => Nat.le_trans (by omega) (hr k e).1), Nat.lt_of_lt_of_le hs.2.2 hg.size⟩)
  (fun c s A C row hs hg hr => hs)
  ⟨P2, BW2, hxz⟩
  (fun x a' _ => a' = { tmps := #[.agg L, .pointer (some ⟨z, 0, none⟩), .int .i64 0, .pointer (some ⟨z + 1, 0, none⟩), .agg L, .func (.func 93) #[] #[.pointer (some ⟨z + 2, 0, none⟩)], .int .i64 (x.val : Int), undef, undef, undef], defers := [] })
  (fun x a' _ X Y row hs hg hr => hs)
  ?assign ?body ?done ?stop
 case assign =>
  rintro l pre x W K hI hK
  dsimp only [mbEnc]
  gi_wp2
  exact hK _ _ (KeepsFrom.refl _ _) (fun h => h) hI (by simp)
 case body =>
  rintro l pre x a' W hl ⟨r, hr⟩ ⟨hP, hB, hxW⟩ rfl hlt
  have c0 : W.cell? ⟨z + 1, 0, none⟩ = some (.int .i64 ((pre.length : Nat) : Int)) := hP.cell 0
  have f0 := hP.fr 0
  have e1 : ((pre ++ [x]).length : Int) = (pre.length : Int) + 1 := by simp
  have hlt' : pre.length < 16 := hlt
  have P5 := hP.put (.int .i64 (((pre ++ [x]).length : Nat) : Int))
  rw [e1] at P5
  obtain ⟨k, hk⟩ : ∃ k, pre.length = k := ⟨_, rfl⟩
  have HK : Hid _ := hk
  rw [hk] at c0 P5 e1 hlt'
  have wk : IntKind.i64.wrap ((k : Int) + 1) = (k : Int) + 1 := by rw [IntKind.wrap_i64]; omega
  have k5 : KeepsFrom w2.heap.size W (W.setCell ⟨z + 1, 0, none⟩ (.int .i64 ((k : Int) + 1))) := ko_set _ _ _ _
  have n5 : UbK (z + 2) b W (W.setCell ⟨z + 1, 0, none⟩ (.int .i64 ((k : Int) + 1))) := fun h => by
   obtain ⟨cs, h1, h2, h3⟩ := h
   exact ⟨cs, h1.other (by omega) _ _, h2, h3⟩
  have b5 : Below z w (W.setCell ⟨z + 1, 0, none⟩ (.int .i64 ((k : Int) + 1))) := hB.setCell (p := ⟨z + 1, 0, none⟩) (by show z ≤ z + 1; omega) _
  have z5 : z + 2 < (W.setCell ⟨z + 1, 0, none⟩ (.int .i64 ((k : Int) + 1))).heap.size := Nat.lt_of_lt_of_le hxW (by simp [World.setCell])
  have H5 : Hid (_ ∧ _ ∧ _ ∧ _ ∧ _) := ⟨P5, k5, n5, b5, z5⟩
  clear P5 k5 n5 b5 z5 hP hB hk
  gi_wp2
  obtain ⟨P5, k5, n5, b5, z5⟩ := H5.out
  refine (?_ : KeepsFrom _ W _ ∧ UbK _ _ W _ ∧ _ ∧ _ ∧ _)
  exact ⟨k5, n5, by rw [e1]; exact P5, b5, z5⟩
 case done =>
  rintro D ys W hD rfl ⟨hP, hB, hxW⟩ hK
  rw [mbT_len] at hP
  have c0 : W.cell? ⟨z + 1, 0, none⟩ = some (.int .i64 ((sgN b : Nat) : Int)) := hP.cell 0
  obtain ⟨v, hv⟩ : ∃ v, sgN b = v := ⟨_, rfl⟩
  rw [hv] at c0
  go_wp2
  have hbP := belowK_b (n₀ := z) (w := w2) (by omega) W D _ (.deferred none) hD hK rfl rfl
  refine ⟨by simp, .inl ⟨_, _, rfl, run_takeDeferred hK, ?_⟩⟩
  refine ⟨.int .i64 (v : Int), by simp [results, Tryz.results25, go_sem], by rw [hv], ?_⟩
  rw [HZ.out]
  exact hB.trans hbP
 case stop =>
  rintro D c pre W hD hq hF hK
  exact hF.elim
end Go.Proofs.YtoddangedbefgabGreatDoor
namespace Go.Proofs.YtoddangedbefgabGreatDoor
open Go.RowKit Go.Shelf Go.Sort

def szS (xs : List ByteArray) : Prop := xs.length ≤ 8796093022208 ∧ ∀ x ∈ xs, x.size ≤ 281474976710656
theorem info_strI : (Tryz.prog.info? 9).map (fun i => (i.zero, i.size, i.bytes)) = some (some (.string ⟨#[]⟩), 1, 16) := by kernel_rfl
set_option maxRecDepth 20000 in
set_option maxHeartbeats 4000000 in
theorem copiedTexts_any (xs : List ByteArray) (hz : szS xs) (a : Option Addr) (c n : Nat) (w : World) (hn : n ≤ w.heap.size) (hp : slS n w a xs) :
  Calls Tryz.prog 92 #[.slice a xs.length c] w fun e w' => (∃ v, e = .returned v ∧ w'.ownsRow w.heap.size 9 1 v xs.length (xs.map .string)) ∧ Below w.heap.size w w' := by
 obtain ⟨i0, hi0, hz0, hz1, hz2⟩ := info_parts info_strI
 have hlen := hz.1
 have hsz := hz.2
 clear hz
 obtain ⟨N, hN⟩ : ∃ N, xs.length = N := ⟨_, rfl⟩
 have HN : Hid (xs.length = N) := hN
 rw [hN] at hlen ⊢
 clear hN
 obtain ⟨z, hzz⟩ : ∃ z, w.heap.size = z := ⟨_, rfl⟩
 have HZ : Hid (w.heap.size = z) := hzz
 rw [hzz] at hn ⊢
 have B0 : Below z w w := by rw [← hzz]; exact Below.refl _ _
 clear hzz
 go_enter Tryz.func92, Tryz.ntmps92
 go_wp2_with fail
 go_loopg [3, 8] N (fun gk v i wr => ∃ k : Nat, k + gk = N ∧ i = .int .i64 k ∧ Below z w wr ∧ z ≤ wr.heap.size ∧ wr.ownsRow z 9 1 v k ((xs.take k).map .string))
 case atStart => exact ⟨0, by omega, rfl, B0, by have := HZ.out; omega, World.ownsRow_nil _ _ _ _⟩
 case round =>
  clear B0
  obtain ⟨k, hk, rfl, BW, hzw, hown⟩ := hrel
  have hr3 : ∀ b, u3.ownBlock = some b → z ≤ b := fun b hb => (hown.lt b hb).1
  by_cases hlt : k < N
  ·have l1 : (k : Int) < N := by omega
   obtain ⟨x, hxk⟩ : ∃ f, xs[k]? = some f := ⟨xs[k]'(by have := HN.out; omega), List.getElem?_eq_getElem (by have := HN.out; omega)⟩
   have hxb := hsz x (List.mem_of_getElem? hxk)
   obtain ⟨b, o, rfl, hbn, c0⟩ := slS_at hp k x hxk
   replace c0 := (BW.cell (p := ⟨b, _, none⟩) (by show b < z; omega)).trans c0
   obtain ⟨r, hr⟩ : ∃ p, o + k = p := ⟨_, rfl⟩
   rw [hr] at c0
   have wk : IntKind.i64.wrap ((k : Int) + 1) = ((k + 1 : Nat) : Int) := by rw [IntKind.wrap_i64]; omega
   have KM := fun w : World => z_clone_any x w hxb
   have hnext : (xs.take (k + 1)).map Value.string = (xs.take k).map .string ++ [.string x] := by
    rw [List.take_add_one, hxk, Option.toList, List.map_append]
    rfl
   have HX : Hid _ := hnext
   have HO : Hid _ := hown
   clear hnext hxk hxb hown
   go_wp2_with fail
   refine (KM _).mono ?_
   rintro e w3 ⟨rfl, B3⟩
   clear KM c0
   have BW3 := belowStep BW hzw B3
   have A1 : Below w3.heap.size w3 (w3.alloc (.cells #[.string x] 9)) := (Below.refl _ w3).alloc (Nat.le_refl _) _
   have hnew := World.alloc_heap_new w3 (.cells #[.string x] 9)
   have hown2 := owns_below8 (owns_below8 HO.out B3) A1
   have hs0 := B3.size
   have hs1 := A1.size
   have BW4 := belowStep BW3 (Nat.le_trans hzw hs0) A1
   have HV : Hid (_ ∧ _ ∧ _) := ⟨hown2, hnew, BW4⟩
   clear A1 hnew hown2 BW BW3 BW4 B3 HO
   go_wp2_with (at_builtin; refine wpList_append_own _ rfl _ _ 27 rfl z 9 i0 (.string ⟨#[]⟩) 1 16 Tryz.underlying27 hi0 hz0 hz1 hz2 rfl (by decide) _ _ _ rfl HV.out.1 ⟨w3.heap.size, 0, none⟩ 1 1 [.string x] rfl rfl (one_new' _ _ _) (by intro u hu; simp at hu; subst hu; rfl) (by unfold maxLen; omega) (by omega) (by simp; omega) ?_)
   intro v' w6 a2 a3 a4
   have HW : Hid (_ ∧ _) := ⟨a2, a3⟩
   clear a2 a3 a4
   go_wp2
   go_roundg (gk - 1)
   case measure => omega
   case rel =>
    obtain ⟨a2, a3⟩ := HW.out
    refine ⟨k + 1, by omega, by first | rfl | (congr 1; omega), HV.out.2.2.grown a3 (by omega) (fun q e => hr3 q e), Nat.le_trans (Nat.le_trans hzw (Nat.le_trans hs0 hs1)) a3.size, ?_⟩
    rw [HX.out, List.map_take]
    exact a2
  ·have l1 : ¬ (k : Int) < N := by omega
   obtain rfl : k = N := by omega
   rw [List.take_of_length_le (by have := HN.out; omega)] at hown
   have HO : Hid (_ ∧ _) := ⟨BW, hown⟩
   clear BW hown
   go_wp2
   go_ret
   exact ⟨⟨_, by simp, HO.out.2⟩, HO.out.1⟩
end Go.Proofs.YtoddangedbefgabGreatDoor
namespace Go.Proofs.YtoddangedbefgabGreatDoor
open Go.RowKit Go.Shelf Go.Sort

def slG (n : Nat) (W : World) (a : Option Addr) (xs : List ByteArray) : Prop := xs = [] ∨ ∃ b, a = some ⟨b, 0, none⟩ ∧ n ≤ b ∧ b < W.heap.size ∧ ∀ j x, xs[j]? = some x → W.cell? ⟨b, 0 + j, none⟩ = some (.string x)
theorem slG.slS {n : Nat} {W : World} {a : Option Addr} {xs : List ByteArray} (h : slG n W a xs) : slS W.heap.size W a xs := by
 rcases h with h | ⟨b, h1, h2, h3, h4⟩
 ·exact .inl h
 ·exact .inr ⟨b, 0, h1, h3, h4⟩
theorem slG.mono {n m : Nat} {W : World} {a : Option Addr} {xs : List ByteArray} (h : slG n W a xs) (hm : m ≤ n) : slG m W a xs := by
 rcases h with h | ⟨b, h1, h2, h3, h4⟩
 ·exact .inl h
 ·exact .inr ⟨b, h1, Nat.le_trans hm h2, h3, h4⟩
theorem slG.keep {n : Nat} {W W' : World} {a : Option Addr} {xs : List ByteArray} (h : slG n W a xs) (hs : W.heap.size ≤ W'.heap.size) (hW : ∀ b, n ≤ b → b < W.heap.size → W'.heap[b]? = W.heap[b]?) : slG n W' a xs := by
 rcases h with h | ⟨b, h1, h2, h3, h4⟩
 ·exact .inl h
 ·exact .inr ⟨b, h1, h2, Nat.lt_of_lt_of_le h3 hs, fun j x hx => by rw [World.cell?_of_block (w := W) (a := ⟨b, 0 + j, none⟩) (hW b h2 h3)]; exact h4 j x hx⟩
theorem slG.grow {n : Nat} {W W' : World} {a : Option Addr} {xs : List ByteArray} (h : slG n W a xs) (hb : Below W.heap.size W W') : slG n W' a xs := h.keep hb.size fun b _ hb2 => hb.block b hb2
theorem slG_of {W : World} {zz c : Nat} {a : Option Addr} {xs : List ByteArray} (h : W.ownsRow zz 9 1 (.slice a xs.length c) xs.length (xs.map .string)) : slG zz W a xs := by
 rcases h.2 with ⟨h1, h2⟩ | ⟨g, c', cur, h1, h2, h3, h4, h5, h6, h7⟩
 ·exact .inl (List.length_eq_zero_iff.1 h2)
 ·have hg := (Array.getElem?_eq_some_iff.1 h3).1
  cases h1
  refine .inr ⟨g, rfl, h2, hg, fun j x hx => ?_⟩
  have hj : j < xs.length := (List.getElem?_eq_some_iff.1 hx).1
  rw [h.cellAt (0 + j) (by omega), Nat.zero_add, List.getElem?_map, hx]
  rfl
theorem slS_put {W W' : World} {zz c : Nat} {a : Option Addr} {xs : List ByteArray} (h : W.ownsRow zz 9 1 (.slice a xs.length c) xs.length (xs.map .string)) (hs : W.heap.size ≤ W'.heap.size) (hW : ∀ b, zz ≤ b → b < W.heap.size → W'.heap[b]? = W.heap[b]?) : slG zz W' a xs := (slG_of h).keep hs hW
structure Mu_cm (V : World) (z N : Nat) (a : Option Addr) (c : Nat) (sm : ByteArray) (xs : List Value) (S : Nat → Bool) (x3 x4 x5 x6 x7 x8 : Value) (W : World) : Prop where
 e : Below V.heap.size V W
 f0 : S 0 = true → x3 = .pointer (some ⟨z, 0, none⟩)
 f1 : S 1 = true → x4 = .slice a N c
 f2 : S 2 = true → ∃ zz, V.heap.size ≤ zz ∧ zz ≤ W.heap.size ∧ W.ownsRow zz 9 1 x5 N xs
 f3 : S 3 = true → x6 = .pointer (some ⟨z, 1, none⟩)
 f4 : S 4 = true → x7 = .string sm
 f5 : S 5 = true → x8 = .string sm
theorem Mu_cm.grow {V : World} {z N : Nat} {a : Option Addr} {c : Nat} {sm : ByteArray} {xs : List Value} {S : Nat → Bool} {x3 x4 x5 x6 x7 x8 : Value} {W W' : World} (h : Mu_cm V z N a c sm xs S x3 x4 x5 x6 x7 x8 W) (hb : Below W.heap.size W W') : Mu_cm V z N a c sm xs S x3 x4 x5 x6 x7 x8 W' :=
 ⟨belowStep h.e h.e.size hb, h.f0, h.f1, fun s => (h.f2 s).imp fun _ ⟨j1, j2, j3⟩ => ⟨j1, Nat.le_trans j2 hb.size, owns_below8 j3 hb⟩, h.f3, h.f4, h.f5⟩
set_option maxRecDepth 20000 in
set_option maxHeartbeats 4000000 in
theorem copiedComm_any (d : CmD) (hz : szS d.ks ∧ d.sm.size ≤ 281474976710656) (q : Pl) (n : Nat) (w : World) (hn : n ≤ w.heap.size) (hp : slS n w q.a d.ks) :
  Calls Tryz.prog 54 #[.agg (cmV d q).toArray] w fun e w' => (∃ q', e = .returned (.agg (cmV d q').toArray) ∧ slG w.heap.size w' q'.a d.ks) ∧ Below w.heap.size w w' := by
 obtain ⟨ks, sm⟩ := d
 obtain ⟨a, c⟩ := q
 obtain ⟨hz1, hz2⟩ := hz
 have hz2 : sm.size ≤ 281474976710656 := hz2
 simp only [cmV]
 have KT := fun (W : World) (hB : Below w.heap.size w W) => copiedTexts_any ks hz1 a c n W (Nat.le_trans hn hB.size) (slS_below (hB.mono hn) hp)
 have KC := fun W : World => z_clone_any sm W hz2
 clear hz1 hz2 hn hp
 obtain ⟨N, hN⟩ : ∃ N, ks.length = N := ⟨_, rfl⟩
 rw [hN] at KT
 have HN : Hid (ks.length = N) := hN
 rw [hN]
 clear hN
 obtain ⟨A0, hx, hs⟩ := box1 w (.cells #[.slice a N c, .string sm] 31)
 obtain ⟨w1, hw1⟩ : ∃ W, w.alloc (.cells #[.slice a N c, .string sm] 31) = W := ⟨_, rfl⟩
 obtain ⟨z, hz⟩ : ∃ z, w.heap.size = z := ⟨_, rfl⟩
 have HZ : Hid (w.heap.size = z) := hz
 rw [hw1] at A0 hx hs
 rw [hz] at A0 hx hs KT
 have c0 : w1.cell? ⟨z, 0, none⟩ = some (.slice a N c) := by rw [Lib.cell_of_heap hx]; rfl
 have c1 : w1.cell? ⟨z, 1, none⟩ = some (.string sm) := by rw [Lib.cell_of_heap hx]; rfl
 have hzw : z < w1.heap.size := by omega
 clear hx hs
 go_enter Tryz.func54, Tryz.ntmps54
 go_wp2_with fail
 first | rw [hw1] | skip
 obtain ⟨A2, hx2, hs2⟩ := box1 w1 (.cells #[.slice none 0 0, .string ⟨#[]⟩] 31)
 have hw1s : w1.heap.size = z + 1 := by rw [← hw1, ← hz]; simp
 obtain ⟨V, hV⟩ : ∃ V, w1.alloc (.cells #[.slice none 0 0, .string ⟨#[]⟩] 31) = V := ⟨_, rfl⟩
 rw [hV] at A2 hx2 hs2 ⊢
 rw [hw1s] at A2 hx2 hs2 ⊢
 have d0 : V.cell? ⟨z, 0, none⟩ = some (.slice a N c) := (A2.cell (p := ⟨z, 0, none⟩) (by show z < z + 1; omega)).trans c0
 have d1 : V.cell? ⟨z, 1, none⟩ = some (.string sm) := (A2.cell (p := ⟨z, 1, none⟩) (by show z < z + 1; omega)).trans c1
 have hzV : z < V.heap.size := by omega
 have BV : Below z w V := A0.trans (A2.mono (by omega))
 have KT' := fun (W : World) (hB : Below V.heap.size V W) => KT W (BV.trans (hB.mono (by omega)))
 have HB : Hid (Below z w V ∧ V.heap.size = z + 2 ∧ V.heap[z + 1]? = some (.cells #[.slice none 0 0, .string ⟨#[]⟩] 31 (0, 0))) := ⟨BV, by omega, hx2⟩
 obtain ⟨xs, hxs⟩ : ∃ xs : List Value, ks.map .string = xs := ⟨_, rfl⟩
 rw [hxs] at KT'
 have HXS : Hid _ := hxs
 clear hw1 hz A0 A2 hx2 hs2 c0 c1 KT BV hw1s hV hxs
 refine region_inv_tail 6 (fun S aa W => ∃ x3 x4 x5 x6 x7 x8 : Value, aa = { tmps := #[Value.agg #[Value.slice a N c, Value.string sm], Value.pointer (some { block := z, off := 0 }), Value.pointer (some { block := z + 1, off := 0 }), x3, x4, x5, x6, x7, x8, undef], defers := [] } ∧ Mu_cm V z N a c sm xs S x3 x4 x5 x6 x7 x8 W) (by kernel_rfl) (by kernel_rfl) ?_ ?_ ?_
 ·exact ⟨undef, undef, undef, undef, undef, undef, rfl, ⟨(Below.refl _ V).drew, nofun, nofun, nofun, nofun, nofun, nofun⟩⟩
 ·intro i o S aa W hin hi hun hJ hall K hK
  obtain ⟨x3, x4, x5, x6, x7, x8, rfl, h⟩ := hJ
  have hlt : i < 6 := hin
  have hcase : i = 0 ∨ i = 1 ∨ i = 2 ∨ i = 3 ∨ i = 4 ∨ i = 5 := by omega
  rcases hcase with rfl | rfl | rfl | rfl | rfl | rfl
  all_goals (have ho := (Option.some.inj hi).symm; subst ho; clear hi hlt hin)
  ·go_simp
   exact hK _ _ ⟨_, _, _, _, _, _, rfl, { h with f0 := fun _ => rfl }⟩
  ·have s_0 : S 0 = true := hall ⟨0, .data⟩ (by simp) rfl
   obtain rfl := h.f0 s_0
   have cW := (h.e.cell (p := ⟨z, 0, none⟩) hzV).trans d0
   go_simp
   exact hK _ _ ⟨_, _, _, _, _, _, rfl, { h with f1 := fun _ => rfl }⟩
  ·have s_1 : S 1 = true := hall ⟨1, .data⟩ (by simp) rfl
   obtain rfl := h.f1 s_1
   go_simp
   refine (KT' W h.e).mono ?_
   rintro e w5 ⟨⟨v5, rfl, k1⟩, hb5⟩
   have h1 := h.grow hb5
   exact hK _ _ ⟨_, _, _, _, _, _, rfl, { h1 with f2 := fun _ => ⟨W.heap.size, h.e.size, hb5.size, k1⟩ }⟩
  ·go_simp
   exact hK _ _ ⟨_, _, _, _, _, _, rfl, { h with f3 := fun _ => rfl }⟩
  ·have s_3 : S 3 = true := hall ⟨3, .data⟩ (by simp) rfl
   obtain rfl := h.f3 s_3
   have cW := (h.e.cell (p := ⟨z, 1, none⟩) hzV).trans d1
   go_simp
   exact hK _ _ ⟨_, _, _, _, _, _, rfl, { h with f4 := fun _ => rfl }⟩
  ·have s_4 : S 4 = true := hall ⟨4, .data⟩ (by simp) rfl
   obtain rfl := h.f4 s_4
   go_simp
   refine (KC W).mono ?_
   rintro e w5 ⟨rfl, hb5⟩
   have h1 := h.grow hb5
   exact hK _ _ ⟨_, _, _, _, _, _, rfl, { h1 with f5 := fun _ => rfl }⟩
 ·rintro S aa W hall ⟨x3, x4, x5, x6, x7, x8, rfl, h⟩
  obtain rfl := h.f0 (hall 0 (by decide))
  obtain rfl := h.f1 (hall 1 (by decide))
  obtain hO2 := h.f2 (hall 2 (by decide))
  obtain rfl := h.f3 (hall 3 (by decide))
  obtain rfl := h.f4 (hall 4 (by decide))
  obtain rfl := h.f5 (hall 5 (by decide))
  have BWD := h.e
  clear h hall
  obtain ⟨BV, hs, hx2⟩ := HB.out
  obtain ⟨zz, j1, j2, j3⟩ := hO2
  have hxW := (BWD.block (z + 1) (by omega)).trans hx2
  obtain ⟨v1, v2, e1⟩ := owns_slice j3
  obtain rfl := e1
  have r0 : ∀ o, W.frozen? ⟨z + 1, o, none⟩ = false := fun o => by simp [World.frozen?, hxW]
  have r1 : W.cell? ⟨z + 1, 0, none⟩ = some (.slice none 0 0) := by rw [Lib.cell_of_heap hxW]; rfl
  have r2 : W.cell? ⟨z + 1, 1, none⟩ = some (.string ⟨#[]⟩) := by rw [Lib.cell_of_heap hxW]; rfl
  have HE : Hid (_ ∧ _ ∧ _ ∧ _ ∧ _ ∧ _ ∧ _) := ⟨BWD, BV, hs, hxW, j1, j2, j3⟩
  clear BWD BV hs hx2 hxW j1 j2 j3
  go_wp2_with fail
  obtain ⟨BWD, BV, hs, hxW, j1, j2, j3⟩ := HE.out
  have e9 := heap_setCell_self (heap_setCell_self hxW 0 (.slice v1 N v2)) 1 (.string sm)
  have f1 := Lib.cell_of_heap e9 0
  have f2 := Lib.cell_of_heap e9 1
  have hsz : W.heap.size ≤ ((W.setCell ⟨z + 1, 0, none⟩ (.slice v1 N v2)).setCell ⟨z + 1, 1, none⟩ (.string sm)).heap.size := by simp [World.setCell]
  have hk : ∀ b, zz ≤ b → b < W.heap.size → ((W.setCell ⟨z + 1, 0, none⟩ (.slice v1 N v2)).setCell ⟨z + 1, 1, none⟩ (.string sm)).heap[b]? = W.heap[b]? := fun b hb _ => by
   rw [Below.heap_setCell _ _ _ _ (show b ≠ z + 1 by omega), Below.heap_setCell _ _ _ _ (show b ≠ z + 1 by omega)]
  have hb : Below z w ((W.setCell ⟨z + 1, 0, none⟩ (.slice v1 N v2)).setCell ⟨z + 1, 1, none⟩ (.string sm)) := ((BV.trans (BWD.mono (by omega))).setCell (p := ⟨z + 1, 0, none⟩) (by show z ≤ z + 1; omega) _).setCell (p := ⟨z + 1, 1, none⟩) (by show z ≤ z + 1; omega) _
  obtain ⟨X, hX⟩ : ∃ X, (W.setCell ⟨z + 1, 0, none⟩ (.slice v1 N v2)).setCell ⟨z + 1, 1, none⟩ (.string sm) = X := ⟨_, rfl⟩
  rw [hX] at f1 f2 hsz hk hb ⊢
  have hXS := HXS.out
  have hN := HN.out
  subst hXS
  subst hN
  refine bodyPost_ret (v := .agg #[.slice v1 ks.length v2, .string sm]) (by simp [results, Tryz.results54, go_sem, f1, f2]) rfl ⟨⟨⟨v1, v2⟩, rfl, (slS_put j3 hsz hk).mono (by have := HZ.out; omega)⟩, ?_⟩
  rw [HZ.out]
  exact hb
end Go.Proofs.YtoddangedbefgabGreatDoor
namespace Go.Proofs.YtoddangedbefgabGreatDoor
open Go.RowKit Go.Shelf Go.Sort

theorem store_row0 {P : Program} {ops : Array Oper} {rest : List Oper} {o : Oper} {a : Act} {w : World} {Q : Exit → Act → World → Prop} (hgd : o.guard = none) (hds : o.dst = none) (ty : TypeId) (x y : Operand) (ho : o.op = .store ty x y)
  (g : Nat) (cells : Array Value) (hx : a.eval x = .pointer (some ⟨g, 0, none⟩)) (hy : a.eval y = .agg cells)
  (t : TypeId) (old : Array Value) (hg : w.heap[g]? = some (.cells old t (0, 0))) (hi : (P.info? ty).map (·.size) = some cells.size)
  (hold : old.size = cells.size) (h1 : cells.all (·.oneCell') = true)
  (h : wpList P ops Q rest a (w.setRow g cells)) : wpList P ops Q (o :: rest) a w :=
 wpList_store_row hgd ty x y ho g cells hx hy t old hg hi hold h1 (by rw [hds]; exact h)
structure Stp (p : Prop) : Prop where
 out : p
theorem store_mid0 {P : Program} {ops : Array Oper} {rest : List Oper} {o : Oper} {a : Act} {w : World} {Q : Exit → Act → World → Prop} (hgd : o.guard = none) (hds : o.dst = none) (ty : TypeId) (x y : Operand) (ho : o.op = .store ty x y)
  (b off : Nat) (vs : List Value) (hx : a.eval x = .pointer (some ⟨b, off, none⟩)) (hy : a.eval y = .agg vs.toArray) (ht : w.there b off vs.length) (hi : (P.info? ty).map (·.size) = some vs.length) (h1 : ∀ v ∈ vs, v.oneCell' = true)
  (h : wpList P ops Q rest a (w.setCells b off vs)) : wpList P ops Q (o :: rest) a w := by
 refine wpList_store_mid hgd ty x y ho b off vs.toArray hx hy (by simpa using ht) (by simpa using hi) (all_oneCell_toArray h1) ?_
 rw [hds, List.toList_toArray]
 exact h
theorem size_setCellsB {b : Nat} : ∀ (vs : List Value) (o : Nat) (W : World), (W.setCells b o vs).heap.size = W.heap.size
 | [], _, _ => rfl
 | v :: vs, o, W => (size_setCellsB vs (o + 1) (W.setCell ⟨b, o, none⟩ v)).trans (by simp [World.setCell])
theorem results_row2 {P : Program} {fn : Func} {p u : Tmp} {ty : TypeId} (h : fn.results = #[.cell p ty, .tmp u]) (tmps : Array Value) (w : World) (g : Nat) (t : TypeId) (cs : Array Value) (fr : Nat × Nat) (d : TypeDesc)
  (hp : tmps.getD p undef = .pointer (some ⟨g, 0, none⟩)) (hg : w.heap[g]? = some (.cells cs t fr))
  (hu : P.underlying ty = some d) (hd : (match d with | .struct _ | .array _ _ => true | _ => false) = true) (hi : (P.info? ty).map (·.size) = some cs.size) (v : Value) (hv : tmps.getD u undef = v) :
  (results fn tmps).run P w = .ok (.tuple #[.agg cs, v]) w := by
 rw [results_cell_tmp h, hp, hv]
 simp [asAddr, run_loadVar_row w g t ty cs fr d hg hu hd hi]
theorem Bq.row {b : Nat} {ty : TypeId} {old : Array Value} {W : World} (h : Bq b ty old W) (cs : Array Value) : Bq b ty cs (W.setRow b cs) := setRow_heap W b old cs ty (0, 0) h
theorem Bq.rowOther {b k : Nat} {ty : TypeId} {cs : Array Value} {W : World} (h : Bq b ty cs W) (hk : b ≠ k) (cs' : Array Value) : Bq b ty cs (W.setRow k cs') := (setRow_other W k b cs' hk).trans h
theorem below_row {n k : Nat} {w W : World} (h : Below n w W) (hk : n ≤ k) (cs : Array Value) : Below n w (W.setRow k cs) :=
 ⟨h.os, h.tape, h.output, by rw [size_setRow]; exact h.size, fun j hj => (setRow_other W k j cs (by omega)).trans (h.block j hj)⟩
theorem setCells_block {b : Nat} {t : TypeId} {f : Nat × Nat} (C : List Value) : ∀ (vs B A : List Value) (W : World), vs.length = B.length → W.heap[b]? = some (.cells (A ++ B ++ C).toArray t f) → (W.setCells b A.length vs).heap[b]? = some (.cells (A ++ vs ++ C).toArray t f)
 | [], [], A, W, _, h => h
 | v :: vs, x :: B, A, W, hl, h => by
  have h1 := heap_setCell_self h A.length v
  have e1 : (A ++ x :: B ++ C).toArray.setIfInBounds A.length v = (A ++ [v] ++ B ++ C).toArray := by simp
  rw [e1] at h1
  have := setCells_block C vs B (A ++ [v]) (W.setCell ⟨b, A.length, none⟩ v) (Nat.succ.inj hl) h1
  rw [List.length_append, List.length_singleton] at this
  have e2 : A ++ [v] ++ vs ++ C = A ++ v :: vs ++ C := by simp
  rw [e2] at this
  exact this
 | [], _ :: _, _, _, hl, _ => by cases hl
 | _ :: _, [], _, _, hl, _ => by cases hl
theorem setCells_other {b k : Nat} (hk : k ≠ b) : ∀ (vs : List Value) (o : Nat) (W : World), (W.setCells b o vs).heap[k]? = W.heap[k]?
 | [], _, _ => rfl
 | v :: vs, o, W => (setCells_other hk vs (o + 1) (W.setCell ⟨b, o, none⟩ v)).trans (Below.heap_setCell _ _ _ _ hk)
theorem below_cells {n b o : Nat} {w W : World} (h : Below n w W) (hb : n ≤ b) (vs : List Value) : Below n w (W.setCells b o vs) := below_setCells' (b := b) hb vs o _ h
theorem there_of_block {W : World} {b o n : Nat} {cs : List Value} {t : TypeId} (h : W.heap[b]? = some (.cells cs.toArray t (0, 0))) (hn : o + n ≤ cs.length) : W.there b o n := fun j hj => by
 refine ⟨?_, ?_⟩
 ·rw [Lib.cell_of_heap h]
  simp [show o + j < cs.length by omega]
 ·simp [World.frozen?, h]
theorem ltV_one (d : LtD) (q : Pl) : ∀ v ∈ ltV d q, v.oneCell' = true := by
 intro v hv
 unfold ltV at hv
 simp only [List.mem_cons, List.mem_nil_iff, or_false] at hv
 rcases hv with rfl | rfl | rfl | rfl | rfl | rfl | rfl | rfl | rfl <;> rfl
theorem cmV_one (d : CmD) (q : Pl) : ∀ v ∈ cmV d q, v.oneCell' = true := by
 intro v hv
 unfold cmV at hv
 simp only [List.mem_cons, List.mem_nil_iff, or_false] at hv
 rcases hv with rfl | rfl <;> rfl
theorem upV_one (d : UpD) (q : UpP) : ∀ v ∈ upV d q, v.oneCell' = true := by
 intro v hv
 unfold upV at hv
 simp only [List.mem_append, List.mem_cons, List.mem_nil_iff, or_false] at hv
 rcases hv with (((h | h) | rfl) | h) | rfl | rfl | rfl | rfl
 ·exact ltV_one _ _ v h
 ·exact cmV_one _ _ v h
 ·rfl
 ·exact ltV_one _ _ v h
 all_goals rfl
theorem stV_one (d : StD) (q : StP) : ∀ v ∈ stV d q, v.oneCell' = true := by
 intro v hv
 unfold stV at hv
 simp only [List.mem_append, List.mem_cons, List.mem_nil_iff, or_false] at hv
 rcases hv with ((((h | h) | h) | h) | h) | rfl | rfl | rfl | rfl
 ·exact ltV_one _ _ v h
 ·exact ltV_one _ _ v h
 ·exact cmV_one _ _ v h
 ·exact cmV_one _ _ v h
 ·exact upV_one _ _ v h
 all_goals rfl
theorem one_arr {cs : List Value} (h : ∀ v ∈ cs, v.oneCell' = true) : cs.toArray.all (·.oneCell') = true := all_oneCell_toArray h
end Go.Proofs.YtoddangedbefgabGreatDoor
