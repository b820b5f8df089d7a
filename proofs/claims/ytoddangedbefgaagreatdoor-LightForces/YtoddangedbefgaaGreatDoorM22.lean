/- Lemmas: Lights, committees, messages, stores as values, and where their lists lie. What the package's signing does: those that sign, one by one. No condition. What the package's words do: periods, slots, what a message has. No condition. What the package's count, twoThirds, isEmpty, isFinal do. No condition. What the package's copies do. No condition but on sizes that no machine has. What the package's copiedCommittee does. No condition but on sizes that no machine has. Structs in memory: whole rows and parts of them, written and read. No condition. What the package's copiedLight does. No condition but on sizes that no machine has. What the package's copiedUpdate does. No condition but on sizes that no machine has. -/
import Derived.Test.YtoddangedbefgaaGreatDoorM1
import Derived.Test.YtoddangedbefgaaGreatDoorM10
import Derived.Test.YtoddangedbefgaaGreatDoorM11
import Derived.Test.YtoddangedbefgaaGreatDoorM12
import Derived.Test.YtoddangedbefgaaGreatDoorM13
import Derived.Test.YtoddangedbefgaaGreatDoorM14
import Derived.Test.YtoddangedbefgaaGreatDoorM16
import Derived.Test.YtoddangedbefgaaGreatDoorM17
import Derived.Test.YtoddangedbefgaaGreatDoorM18
import Derived.Test.YtoddangedbefgaaGreatDoorM19
import Derived.Test.YtoddangedbefgaaGreatDoorM2
import Derived.Test.YtoddangedbefgaaGreatDoorM20
import Derived.Test.YtoddangedbefgaaGreatDoorM21
import Derived.Test.YtoddangedbefgaaGreatDoorM3
import Derived.Test.YtoddangedbefgaaGreatDoorM4
import Derived.Test.YtoddangedbefgaaGreatDoorM5
import Derived.Test.YtoddangedbefgaaGreatDoorM6
import Derived.Test.YtoddangedbefgaaGreatDoorM7
import Derived.Test.YtoddangedbefgaaGreatDoorM8
import Derived.Test.YtoddangedbefgaaGreatDoorM9
import Derived.Test.YtoddangedbefgaaGreatDoorRows
import Derived.BigQuiet
namespace Go.Proofs.YtoddangedbefgaaGreatDoor
open Go.RowKit Go.Shelf Go.Sort

structure LtD where
 s : Nat
 u : Nat
 p : ByteArray
 t : ByteArray
 b : ByteArray
 ea : ByteArray
 ra : ByteArray
 m : Nat
 br : List ByteArray
structure CmD where
 ks : List ByteArray
 sm : ByteArray
structure UpD where
 l : LtD
 c : CmD
 nb : List ByteArray
 f : LtD
 fb : List ByteArray
 bits : Nat
 sig : ByteArray
 slot : Nat
structure StD where
 fin : LtD
 new : LtD
 now : CmD
 nxt : CmD
 best : UpD
 has : Bool
 last : Int
 this : Int
 forced : Bool
def zLt : LtD := ⟨0, 0, ⟨#[]⟩, ⟨#[]⟩, ⟨#[]⟩, ⟨#[]⟩, ⟨#[]⟩, 0, []⟩
def zCm : CmD := ⟨[], ⟨#[]⟩⟩
def zUp : UpD := ⟨zLt, zCm, [], zLt, [], 0, ⟨#[]⟩, 0⟩
def zSt : StD := ⟨zLt, zLt, zCm, zCm, zUp, false, 0, 0, false⟩
def U6 (n : Nat) : Prop := n < 18446744073709551616
def LtD.ok (d : LtD) : Prop := U6 d.s ∧ U6 d.u ∧ U6 d.m
def UpD.ok (d : UpD) : Prop := d.l.ok ∧ d.f.ok ∧ U6 d.bits ∧ U6 d.slot

structure Pl where
 a : Option Addr
 c : Nat
def slV (xs : List ByteArray) (q : Pl) : Value := .slice q.a xs.length q.c
def ltV (d : LtD) (q : Pl) : List Value := [.int .u64 (d.s : Int), .int .u64 (d.u : Int), .string d.p, .string d.t, .string d.b, .string d.ea, .string d.ra, .int .u64 (d.m : Int), .slice q.a d.br.length q.c]
def cmV (d : CmD) (q : Pl) : List Value := [.slice q.a d.ks.length q.c, .string d.sm]
structure UpP where
 l : Pl
 c : Pl
 nb : Pl
 f : Pl
 fb : Pl
def upV (d : UpD) (q : UpP) : List Value := ltV d.l q.l ++ cmV d.c q.c ++ [slV d.nb q.nb] ++ ltV d.f q.f ++ [slV d.fb q.fb, .int .u64 (d.bits : Int), .string d.sig, .int .u64 (d.slot : Int)]
structure StP where
 fin : Pl
 new : Pl
 now : Pl
 nxt : Pl
 best : UpP
def stV (d : StD) (q : StP) : List Value := ltV d.fin q.fin ++ ltV d.new q.new ++ cmV d.now q.now ++ cmV d.nxt q.nxt ++ upV d.best q.best ++ [.bool d.has, .int .i64 d.last, .int .i64 d.this, .bool d.forced]
def upIn (n : Nat) (W : World) (d : UpD) (q : UpP) : Prop := slS n W q.l.a d.l.br ∧ slS n W q.c.a d.c.ks ∧ slS n W q.nb.a d.nb ∧ slS n W q.f.a d.f.br ∧ slS n W q.fb.a d.fb
def stIn (n : Nat) (W : World) (d : StD) (q : StP) : Prop := slS n W q.fin.a d.fin.br ∧ slS n W q.new.a d.new.br ∧ slS n W q.now.a d.now.ks ∧ slS n W q.nxt.a d.nxt.ks ∧ upIn n W d.best q.best
theorem upIn.below {n : Nat} {W W' : World} (hb : Below n W W') {d : UpD} {q : UpP} (h : upIn n W d q) : upIn n W' d q := ⟨slS_below hb h.1, slS_below hb h.2.1, slS_below hb h.2.2.1, slS_below hb h.2.2.2.1, slS_below hb h.2.2.2.2⟩
theorem stIn.below {n : Nat} {W W' : World} (hb : Below n W W') {d : StD} {q : StP} (h : stIn n W d q) : stIn n W' d q := ⟨slS_below hb h.1, slS_below hb h.2.1, slS_below hb h.2.2.1, slS_below hb h.2.2.2.1, h.2.2.2.2.below hb⟩
theorem slS_mono {n m : Nat} {W : World} {a : Option Addr} {xs : List ByteArray} (h : slS n W a xs) (hm : n ≤ m) : slS m W a xs := by
 rcases h with h | ⟨b, o, h1, h2, h3⟩
 ·exact .inl h
 ·exact .inr ⟨b, o, h1, Nat.lt_of_lt_of_le h2 hm, h3⟩
theorem upIn.mono {n m : Nat} {W : World} {d : UpD} {q : UpP} (h : upIn n W d q) (hm : n ≤ m) : upIn m W d q := ⟨slS_mono h.1 hm, slS_mono h.2.1 hm, slS_mono h.2.2.1 hm, slS_mono h.2.2.2.1 hm, slS_mono h.2.2.2.2 hm⟩
theorem stIn.mono {n m : Nat} {W : World} {d : StD} {q : StP} (h : stIn n W d q) (hm : n ≤ m) : stIn m W d q := ⟨slS_mono h.1 hm, slS_mono h.2.1 hm, slS_mono h.2.2.1 hm, slS_mono h.2.2.2.1 hm, h.2.2.2.2.mono hm⟩

theorem range_of_block {W : World} {b : Nat} {cs : List Value} {t : TypeId} {f : Nat × Nat} (h : W.heap[b]? = some (.cells cs.toArray t f)) (o : Nat) (vs : List Value) (hv : ∀ (j : Nat) v, vs[j]? = some v → cs[o + j]? = some v) : W.rangeAt b o vs := fun j v hj => by
 rw [Lib.cell_of_heap h]
 have := hv j v hj
 simp [this]
theorem cell_of_block {W : World} {b : Nat} {cs : List Value} {t : TypeId} {f : Nat × Nat} (h : W.heap[b]? = some (.cells cs.toArray t f)) (o : Nat) (v : Value) (hv : cs[o]? = some v) : W.cell? ⟨b, o, none⟩ = some v := by
 rw [Lib.cell_of_heap h]
 simp [hv]

theorem get_mid {A B C : List Value} (j : Nat) (v : Value) (h : B[j]? = some v) : (A ++ B ++ C)[A.length + j]? = some v := by
 have hj : j < B.length := (List.getElem?_eq_some_iff.1 h).1
 rw [List.append_assoc, List.getElem?_append_right (by omega), Nat.add_sub_cancel_left, List.getElem?_append_left hj]
 exact h
theorem upV_l (d : UpD) (q : UpP) (j : Nat) (v : Value) (h : (ltV d.l q.l)[j]? = some v) : (upV d q)[0 + j]? = some v := get_mid (A := []) (B := ltV d.l q.l) (C := cmV d.c q.c ++ [slV d.nb q.nb] ++ ltV d.f q.f ++ [slV d.fb q.fb, .int .u64 (d.bits : Int), .string d.sig, .int .u64 (d.slot : Int)]) j v h
theorem upV_c (d : UpD) (q : UpP) (j : Nat) (v : Value) (h : (cmV d.c q.c)[j]? = some v) : (upV d q)[9 + j]? = some v := get_mid (A := ltV d.l q.l) (B := cmV d.c q.c) (C := [slV d.nb q.nb] ++ ltV d.f q.f ++ [slV d.fb q.fb, .int .u64 (d.bits : Int), .string d.sig, .int .u64 (d.slot : Int)]) j v h
theorem upV_f (d : UpD) (q : UpP) (j : Nat) (v : Value) (h : (ltV d.f q.f)[j]? = some v) : (upV d q)[12 + j]? = some v := get_mid (A := ltV d.l q.l ++ cmV d.c q.c ++ [slV d.nb q.nb]) (B := ltV d.f q.f) (C := [slV d.fb q.fb, .int .u64 (d.bits : Int), .string d.sig, .int .u64 (d.slot : Int)]) j v h
theorem stV_fin (d : StD) (q : StP) (j : Nat) (v : Value) (h : (ltV d.fin q.fin)[j]? = some v) : (stV d q)[0 + j]? = some v := get_mid (A := []) (B := ltV d.fin q.fin) (C := ltV d.new q.new ++ cmV d.now q.now ++ cmV d.nxt q.nxt ++ upV d.best q.best ++ [.bool d.has, .int .i64 d.last, .int .i64 d.this, .bool d.forced]) j v h
theorem stV_new (d : StD) (q : StP) (j : Nat) (v : Value) (h : (ltV d.new q.new)[j]? = some v) : (stV d q)[9 + j]? = some v := get_mid (A := ltV d.fin q.fin) (B := ltV d.new q.new) (C := cmV d.now q.now ++ cmV d.nxt q.nxt ++ upV d.best q.best ++ [.bool d.has, .int .i64 d.last, .int .i64 d.this, .bool d.forced]) j v h
theorem stV_now (d : StD) (q : StP) (j : Nat) (v : Value) (h : (cmV d.now q.now)[j]? = some v) : (stV d q)[18 + j]? = some v := get_mid (A := ltV d.fin q.fin ++ ltV d.new q.new) (B := cmV d.now q.now) (C := cmV d.nxt q.nxt ++ upV d.best q.best ++ [.bool d.has, .int .i64 d.last, .int .i64 d.this, .bool d.forced]) j v h
theorem stV_nxt (d : StD) (q : StP) (j : Nat) (v : Value) (h : (cmV d.nxt q.nxt)[j]? = some v) : (stV d q)[20 + j]? = some v := get_mid (A := ltV d.fin q.fin ++ ltV d.new q.new ++ cmV d.now q.now) (B := cmV d.nxt q.nxt) (C := upV d.best q.best ++ [.bool d.has, .int .i64 d.last, .int .i64 d.this, .bool d.forced]) j v h
theorem stV_best (d : StD) (q : StP) (j : Nat) (v : Value) (h : (upV d.best q.best)[j]? = some v) : (stV d q)[22 + j]? = some v := get_mid (A := ltV d.fin q.fin ++ ltV d.new q.new ++ cmV d.now q.now ++ cmV d.nxt q.nxt) (B := upV d.best q.best) (C := [.bool d.has, .int .i64 d.last, .int .i64 d.this, .bool d.forced]) j v h

/-! ### Those that sign -/
def sgB (bits i : Nat) : Bool := decide (bits / 2 ^ i % 2 = 1)
def sgL (bits q : Nat) : List Nat := (List.range q).filter (sgB bits)
theorem sgL_succ (bits q : Nat) : sgL bits (q + 1) = if sgB bits q = true then sgL bits q ++ [q] else sgL bits q := by
 unfold sgL
 rw [List.range_succ, List.filter_append]
 cases h : sgB bits q <;> simp [h]
theorem sgL_len (bits q : Nat) : (sgL bits q).length ≤ q := by
 unfold sgL
 exact Nat.le_trans (List.length_filter_le _ _) (by rw [List.length_range]; exact Nat.le_refl _)
def sgN (bits : Nat) : Nat := (sgL bits 16).length
end Go.Proofs.YtoddangedbefgaaGreatDoor
namespace Go.Proofs.YtoddangedbefgaaGreatDoor
open Go.RowKit Go.Shelf Go.Sort
attribute [local go_sem] Oper.semAt_some

def UbIn (bX : Nat) (bits : Nat) (W : World) : Prop := ∃ cs : Array Value, Bq bX 36 cs W ∧ cs.size = 25 ∧ cs[22]? = some (.int .u64 (bits : Int))
def UbK (bX : Nat) (bits : Nat) (W W' : World) : Prop := UbIn bX bits W → UbIn bX bits W'
theorem UbIn.below {bX : Nat} {bits : Nat} {W W' : World} (hc : UbIn bX bits W) (h : Below W.heap.size W W') : UbIn bX bits W' := by
 obtain ⟨cs, h1, h2, h3⟩ := hc
 exact ⟨cs, h1.below h, h2, h3⟩
theorem UbIn.belowN {n bX : Nat} {bits : Nat} {W W' : World} (hc : UbIn bX bits W) (h : Below n W W') (hx : bX < n) : UbIn bX bits W' := by
 obtain ⟨cs, h1, h2, h3⟩ := hc
 exact ⟨cs, (h.block _ hx).trans h1, h2, h3⟩
theorem UbK.of_below {bX : Nat} {bits : Nat} {W W' : World} (h : Below W.heap.size W W') : UbK bX bits W W' := fun hc => hc.below h
theorem UbK.trans {bX : Nat} {bits : Nat} {W W' V : World} (h : UbK bX bits W W') (g : UbK bX bits W' V) : UbK bX bits W V := fun hc => g (h hc)
theorem UbIn.cell {bX : Nat} {bits : Nat} {W : World} (hc : UbIn bX bits W) : W.cell? ⟨bX, 22, none⟩ = some (.int .u64 (bits : Int)) := by
 obtain ⟨cs, h1, h2, h3⟩ := hc
 rw [h1.cell 22]
 exact h3
theorem UbIn.lt {bX : Nat} {bits : Nat} {W : World} (hc : UbIn bX bits W) : bX < W.heap.size := by
 obtain ⟨cs, h1, h2, h3⟩ := hc
 exact h1.lt
abbrev Mb : Type := {x : Nat // x < 16}
def mbEnc (x : Mb) : Array Value := #[.int .i64 (x.val : Int)]
theorem sgL_lt (bits q : Nat) : ∀ x ∈ sgL bits q, x < q := fun x hx => by
 unfold sgL at hx
 exact List.mem_range.1 (List.mem_filter.1 hx).1
def mbT (bits q : Nat) (hq : q ≤ 16) : List Mb := (sgL bits q).attach.map fun x => ⟨x.1, Nat.lt_of_lt_of_le (sgL_lt bits q x.1 x.2) hq⟩
theorem mbT_val (bits q : Nat) (hq : q ≤ 16) : (mbT bits q hq).map (·.val) = sgL bits q := by
 unfold mbT
 rw [List.map_map]
 exact List.attach_map_subtype_val _
theorem mbT_len (bits q : Nat) (hq : q ≤ 16) : (mbT bits q hq).length = (sgL bits q).length := by rw [← mbT_val bits q hq, List.length_map]
theorem mb_ext {l l' : List Mb} (h : l.map (·.val) = l'.map (·.val)) : l = l' := (List.map_inj_right (f := fun x : Mb => x.val) (fun _ _ e => Subtype.ext e)).1 h
theorem mbT_no (bits q : Nat) (hq : q + 1 ≤ 16) (h : sgB bits q = false) : mbT bits (q + 1) hq = mbT bits q (by omega) := mb_ext (by rw [mbT_val, mbT_val, sgL_succ, h]; rfl)
theorem mbT_yes (bits q : Nat) (hq : q + 1 ≤ 16) (h : sgB bits q = true) : mbT bits (q + 1) hq = mbT bits q (by omega) ++ [⟨q, by omega⟩] := mb_ext (by rw [List.map_append, mbT_val, mbT_val, sgL_succ, h]; rfl)

set_option maxRecDepth 100000 in
set_option maxHeartbeats 2000000 in
theorem signing1_in (n l bX : Nat) (b : Nat) (hb : b < 18446744073709551616) (J Jx : List Mb → World → Prop) (B : Nat) (_ : AbidesFrom B J)
  (hY : ∀ m pre x W, J pre W → pre.length < 16 → YieldAt Fence.wide m Tryz.prog l (mbEnc x) W fun e W' =>
   (e = .returned (.bool true) ∧ J (pre ++ [x]) W' ∧ UbK bX b W W') ∨ (e = .returned (.bool false) ∧ Jx (pre ++ [x]) W'))
  (W : World) (hc : UbIn bX b W) (h0 : J [] W) :
  CallsIn Fence.wide n Tryz.prog 115 #[.func (.yield l) #[] #[], .pointer (some ⟨bX, 0, none⟩)] W fun e W' => (∃ v, e = .returned v) ∧
   (J (mbT b 16 (by omega)) W' ∨ (∃ q hq, Jx (mbT b q hq) W')) := by
 refine callsIn_of_wp Tryz.func115 rfl trivial ?_ rfl
 simp only [Tryz.ntmps115, List.size_toArray, List.length_cons, List.length_nil, Nat.reduceAdd, Nat.reduceSub, Array.replicate_succ, Array.replicate_zero, List.push_toArray, List.append_toArray, List.nil_append, List.cons_append]
 gi_wp2_with fail
 gi_loopw [4] (fun i wr => ∃ q : Nat, ∃ hq : q ≤ 16, i = .int .i64 (q : Int) ∧ J (mbT b q hq) wr ∧ UbIn bX b wr)
  (fun i _ => (16 - (intOf i).toNat))
 case atStart => exact ⟨0, by omega, rfl, h0, hc⟩
 case round =>
  obtain ⟨q, hq, rfl, hJs, hkt⟩ := hrel
  by_cases hlq : q < 16
  ·have l0 : (q : Int) < 16 := by omega
   have hc1 := hkt.cell
   have hlt := hkt.lt
   have hdv : (b : Int) / 2 ^ q = ((b / 2 ^ q : Nat) : Int) := by rw [Int.natCast_ediv, Int.natCast_pow]; rfl
   have hbd : b / 2 ^ q < 18446744073709551616 := Nat.lt_of_le_of_lt (Nat.div_le_self _ _) hb
   have han : bits .and .u64 ((b : Int) / 2 ^ q) 1 = ((b / 2 ^ q % 2 : Nat) : Int) := by rw [hdv]; exact and_bit8 _ hbd
   have hsg : sgB b q = decide (b / 2 ^ q % 2 = 1) := rfl
   obtain ⟨d, hd⟩ : ∃ d, b / 2 ^ q % 2 = d := ⟨_, rfl⟩
   rw [hd] at hsg han
   have hd2 : d < 2 := by omega
   clear hdv hbd
   by_cases h1 : d = 1
   ·subst h1
    have eT := mbT_yes b q (by omega) hsg
    have eL := sgL_len b q
    rw [← mbT_len b q hq] at eL
    obtain ⟨fn, tmps, assign, body, hyy, hR⟩ := hY (n - 1) _ ⟨q, hlq⟩ wr hJs (by omega)
    unfold mbEnc at hyy
    simp only at hyy
    replace han : bits .and .u64 ((b : Int) / 2 ^ q) 1 = 1 := han
    have HX : Hid (_ ∧ _) := ⟨hJs, hkt⟩
    clear hJs hkt hc h0 hd hd2 hsg
    gi_wp2_with fail
    refine ⟨fun h => (by cases h), hR.mono ?_⟩
    rintro e W3 (⟨rfl, hJ3, hk3⟩ | ⟨rfl, hJx3⟩)
    ·gi_wp2
     go_roundw
     case rel => exact ⟨q + 1, by omega, rfl, by rw [eT]; exact hJ3, hk3 HX.out.2⟩
     case measure => simp [intOf]; omega
    ·gi_wp2
     exact bodyPost_ret (v := .tuple #[]) (by simp [results, Tryz.results115, go_sem]) rfl ⟨⟨_, rfl⟩, .inr ⟨q + 1, by omega, by rw [eT]; exact hJx3⟩⟩
   ·obtain rfl : d = 0 := by omega
    have eT := mbT_no b q (by omega) (by rw [hsg]; rfl)
    replace han : bits .and .u64 ((b : Int) / 2 ^ q) 1 = 0 := han
    have HX : Hid (_ ∧ _) := ⟨hJs, hkt⟩
    clear hJs hkt hc h0 hd hd2 hsg h1
    gi_wp2
    refine ⟨fun f h => (by cases h), ?_⟩
    gi_wp2
    go_roundw
    case rel => exact ⟨q + 1, by omega, rfl, by rw [eT]; exact HX.out.1, HX.out.2⟩
    case measure => simp [intOf]; omega
  ·obtain rfl : q = 16 := by omega
   gi_wp2
   go_end0
   exact ⟨⟨_, rfl⟩, .inl hJs⟩
theorem signing_stops (n bX : Nat) (b : Nat) (hb : b < 18446744073709551616) (w : World) (hc : UbIn bX b w) :
  SeqStopsK Fence.wide n Tryz.prog 115 #[.pointer (some ⟨bX, 0, none⟩)] mbEnc (UbK bX b) (fun ys => ys = mbT b 16 (Nat.le_refl _)) (fun ys => ∃ q hq, ys = mbT b q hq) 16 w := fun l J Jx W hW hJ _ hY h0 => by
 refine (signing1_in n l bX b hb J Jx W.heap.size hJ (fun m pre x W1 hj hl => yieldAny m (hY pre x W1 hj hl)) W (hc.below hW) h0).mono ?_
 rintro e W' ⟨he, hj | ⟨q, hq, hj⟩⟩
 ·exact ⟨he, .inl ⟨_, rfl, hj⟩⟩
 ·exact ⟨he, .inr ⟨_, ⟨q, hq, rfl⟩, hj⟩⟩
theorem signing_any (cs : Array Value) (w : World) :
  Calls Tryz.prog 78 #[.agg cs] w fun e w' => e = .returned (.func (.func 115) #[] #[.pointer (some ⟨w.heap.size, 0, none⟩)]) ∧ w' = w.alloc (.cells cs 36) := by
 go_enter Tryz.func78, Tryz.ntmps78
 go_wp2
 go_ret
 exact ⟨rfl, rfl⟩
end Go.Proofs.YtoddangedbefgaaGreatDoor
namespace Go.Proofs.YtoddangedbefgaaGreatDoor
open Go.RowKit Go.Shelf Go.Sort

theorem box1 (w : World) (o : Obj) : Below w.heap.size w (w.alloc o) ∧ (w.alloc o).heap[w.heap.size]? = some o ∧ (w.alloc o).heap.size = w.heap.size + 1 := ⟨(Below.refl _ w).alloc (Nat.le_refl _) _, World.alloc_heap_new w o, by simp⟩
theorem box2 (w : World) (o1 o2 : Obj) : Below w.heap.size w ((w.alloc o1).alloc o2) ∧ ((w.alloc o1).alloc o2).heap[w.heap.size]? = some o1 ∧ ((w.alloc o1).alloc o2).heap[w.heap.size + 1]? = some o2 ∧ ((w.alloc o1).alloc o2).heap.size = w.heap.size + 2 := by
 refine ⟨((Below.refl _ w).alloc (Nat.le_refl _) _).alloc (by simp) _, (Lib.alloc_old _ _ _ (by simp)).trans (World.alloc_heap_new w _), ?_, by simp⟩
 have := World.alloc_heap_new (w.alloc o1) o2
 rwa [World.size_alloc] at this

theorem quiet_load_mid {P : Program} {ops : Array Oper} {C : World → Prop} {Q : Act → Prop} {rest : List Oper} {o : Oper} {a : Act} (hw : Region.wanted o (yielded ops a.tmps) = true) (ty : TypeId) (x : Operand) (ho : o.op = .load ty x)
  (b off : Nat) (hx : a.eval x = .pointer (some ⟨b, off, none⟩)) (cs : List Value) (d : TypeDesc) (hc : ∀ W, C W → W.rangeAt b off cs) (hu : P.underlying ty = some d) (hd : d.isRow = true) (hi : (P.info? ty).map (·.size) = some cs.length)
  (h : wpQuiet P ops C Q rest (a.put o.dst (.agg cs.toArray))) : wpQuiet P ops C Q (o :: rest) a := by
 unfold wpQuiet
 rw [if_pos hw]
 refine ⟨_, fun W hW => ?_, h⟩
 unfold Oper.quietAt execOp
 simp only [ho, hx, Instr.loadAt, Instr.sureAddr, Sem.run_bind, Sem.run_pure, Result.andThen_ok, run_loadVar_mid W b off ty cs d (hc W hW) hu hd hi]
 exact ⟨rfl, rfl⟩
theorem load_mid_wanted {P : Program} {ops : Array Oper} {rest : List Oper} {o : Oper} {a : Act} {w : World} {Q : Exit → Act → World → Prop} (hw : Region.wanted o (yielded ops a.tmps) = true) (ty : TypeId) (x : Operand) (ho : o.op = .load ty x)
  (b off : Nat) (hx : a.eval x = .pointer (some ⟨b, off, none⟩)) (cs : List Value) (d : TypeDesc) (hc : w.rangeAt b off cs) (hu : P.underlying ty = some d) (hd : d.isRow = true) (hi : (P.info? ty).map (·.size) = some cs.length)
  (h : wpList P ops Q rest (a.put o.dst (.agg cs.toArray)) w) : wpList P ops Q (o :: rest) a w :=
 wpList_step fun K hK => by
  rw [if_pos hw]
  exact wp_load_mid ty x ho b off hx cs d hc hu hd hi (hK _ _ h)
theorem rangeQ {V : World} {b off : Nat} {cs : List Value} (h : V.rangeAt b off cs) (hb : b < V.heap.size) : ∀ W, (∃ p : Regrown, W = grow (redrawn V p.d) p.os) → W.rangeAt b off cs := by
 rintro W ⟨p, rfl⟩ j v hj
 rw [(below_regrown V p.d p.os).cell (p := ⟨b, off + j, none⟩) hb]
 exact h j v hj
theorem range_all {W : World} {b : Nat} {cs : List Value} {t : TypeId} {f : Nat × Nat} (h : W.heap[b]? = some (.cells cs.toArray t f)) : W.rangeAt b 0 cs := range_of_block h 0 cs fun j v hj => by rw [Nat.zero_add]; exact hj

theorem beqN (x y : Nat) : ((x : Int) == (y : Int)) = decide (x = y) := by
 by_cases h : x = y
 ·simp [h]
 ·have h2 : ¬ (x : Int) = y := by omega
  simp [h, h2]

set_option maxHeartbeats 1000000 in
theorem period_any (n : Nat) (hn : U6 n) (w : World) : Calls Tryz.prog 80 #[.int .u64 (n : Int)] w fun e w' => e = .returned (.int .u64 ((n / 64 : Nat) : Int)) ∧ Below w.heap.size w w' := by
 go_enter Tryz.func80, Tryz.ntmps80
 have hn2 : n < 18446744073709551616 := hn
 have hq : IntKind.u64.wrap ((n : Int) / 64) = (n : Int) / 64 := by rw [IntKind.wrap_u64]; omega
 go_wp2
 go_ret
 exact ⟨by simp, Below.refl _ _⟩
set_option maxHeartbeats 1000000 in
theorem periodOf_any (d : LtD) (hd : U6 d.s) (q : Pl) (w : World) : Calls Tryz.prog 79 #[.agg (ltV d q).toArray] w fun e w' => e = .returned (.int .u64 ((d.s / 64 : Nat) : Int)) ∧ Below w.heap.size w w' := by
 obtain ⟨L, hL⟩ : ∃ L, (ltV d q).toArray = L := ⟨_, rfl⟩
 have h0 : L[0]? = some (.int .u64 (d.s : Int)) := by rw [← hL]; rfl
 rw [hL]
 clear hL
 have KP := period_any d.s hd
 have B1 := (box1 w (.cells L 29)).1
 go_enter Tryz.func79, Tryz.ntmps79
 go_wp2_with fail
 refine (KP _).mono ?_
 rintro r w2 ⟨rfl, B2⟩
 have BX := belowStep B1 B1.size B2
 clear B2 B1
 go_wp2
 go_ret
 exact ⟨by simp, BX⟩
set_option maxHeartbeats 1000000 in
theorem isAbove_any (d e : LtD) (q r : Pl) (w : World) : Calls Tryz.prog 55 #[.agg (ltV d q).toArray, .agg (ltV e r).toArray] w fun x w' => x = .returned (.bool (decide (e.s < d.s))) ∧ Below w.heap.size w w' := by
 obtain ⟨L, hL⟩ : ∃ L, (ltV d q).toArray = L := ⟨_, rfl⟩
 obtain ⟨M, hM⟩ : ∃ M, (ltV e r).toArray = M := ⟨_, rfl⟩
 have h0 : L[0]? = some (.int .u64 (d.s : Int)) := by rw [← hL]; rfl
 have h1 : M[0]? = some (.int .u64 (e.s : Int)) := by rw [← hM]; rfl
 rw [hL, hM]
 clear hL hM
 have B1 := (box2 w (.cells L 29) (.cells M 29)).1
 go_enter Tryz.func55, Tryz.ntmps55
 go_wp2
 go_ret
 exact ⟨by simp, B1⟩
set_option maxHeartbeats 1000000 in
theorem isKnown_any (d : CmD) (q : Pl) (w : World) : Calls Tryz.prog 81 #[.agg (cmV d q).toArray] w fun x w' => x = .returned (.bool (decide (0 < d.ks.length))) ∧ Below w.heap.size w w' := by
 obtain ⟨L, hL⟩ : ∃ L, (cmV d q).toArray = L := ⟨_, rfl⟩
 obtain ⟨n, hn⟩ : ∃ n, d.ks.length = n := ⟨_, rfl⟩
 have h0 : L[0]? = some (.slice q.a n q.c) := by rw [← hL, ← hn]; rfl
 rw [hL, hn]
 clear hL hn
 have B1 := (box1 w (.cells L 31)).1
 go_enter Tryz.func81, Tryz.ntmps81
 go_wp2
 go_ret
 exact ⟨by simp, B1⟩
end Go.Proofs.YtoddangedbefgaaGreatDoor
namespace Go.Proofs.YtoddangedbefgaaGreatDoor
open Go.RowKit Go.Shelf Go.Sort
attribute [local go_sem] Oper.semAt_some

set_option maxRecDepth 20000 in
set_option maxHeartbeats 4000000 in
theorem count_any (d : UpD) (hd : d.ok) (q : UpP) (w : World) : Calls Tryz.prog 33 #[.agg (upV d q).toArray] w fun x w' => x = .returned (.int .i64 ((sgN d.bits : Nat) : Int)) ∧ Below w.heap.size w w' := by
 obtain ⟨L, hL⟩ : ∃ L, (upV d q).toArray = L := ⟨_, rfl⟩
 have h22 : L[22]? = some (.int .u64 (d.bits : Int)) := by rw [← hL]; rfl
 have h25 : Hid (L.size = 25) := show L.size = 25 by rw [← hL]; rfl
 have hb : d.bits < 18446744073709551616 := hd.2.2.1
 obtain ⟨b, hbb⟩ : ∃ b, d.bits = b := ⟨_, rfl⟩
 rw [hbb] at h22 hb ⊢
 rw [hL]
 clear hL hbb hd
 refine (callsIn_wide (n := 9)).1 ?_
 refine callsIn_of_wp_marks Tryz.func33 rfl trivial ?_ rfl
 refine wpIn_wide.2 ?_
 simp only [Tryz.ntmps33, List.size_toArray, List.length_cons, List.length_nil, Nat.reduceAdd, Nat.reduceSub, Array.replicate_succ, Array.replicate_zero, List.push_toArray, List.append_toArray, List.nil_append, List.cons_append]
 obtain ⟨B1, hx, hy, hs⟩ := box2 w (.cells L 36) (.cells #[.int .i64 0] 3)
 go_wp2_with (refine wpList_load_row rfl 36 _ rfl w.heap.size rfl _ _ _ _ hx Tryz.underlying36 rfl (by rw [h25.out]; kernel_rfl) ?_)
 refine (signing_any L _).mono ?_
 rintro e w2 ⟨rfl, hw2⟩
 obtain ⟨z, hz⟩ : ∃ c, w.heap.size = c := ⟨_, rfl⟩
 have HZ : Hid (w.heap.size = z) := hz
 rw [hs, hz]
 rw [hz] at hy B1
 obtain ⟨B2, hx2, hs2⟩ := box1 ((w.alloc (.cells L 36)).alloc (.cells #[.int .i64 0] 3)) (.cells L 36)
 rw [← hw2, hs, hz] at B2 hx2 hs2
 have P2 : Bq (z + 1) 3 #[.int .i64 0] w2 := (B2.block _ (by omega)).trans hy
 have hcx : UbIn (z + 2) b w2 := ⟨L, hx2, h25.out, h22⟩
 have BW2 : Below z w w2 := B1.trans (B2.mono (by omega))
 clear hw2 B2 hx2 hy hx hs B1 hz h22 h25
 go_wp2_with fail
 have hxz : z + 2 < w2.heap.size := by omega
 refine (wpIn_wide (n := 9)).1 ?_
 refine wpIn_rangeFunc_ownH rfl (by omega) (gf := 115) (lb := #[.pointer (some ⟨z + 2, 0, none⟩)]) rfl trivial (enters_of Tryz.func115 (by kernel_rfl) rfl)
  (signing_stops _ (z + 2) b hb w2 hcx) (fun h k => UbK.trans h k) (fun W l o o' hl h1 h2 h3 hx => hx.belowN (belowK_b (n₀ := z + 3) (w := w2) (by omega) W l o o' hl h1 h2 h3) (by omega)) (Below.refl _ _) (fun _ => rfl)
  (fun pre W => Bq (z + 1) 3 #[.int .i64 ((pre.length : Nat) : Int)] W ∧ Below z w W ∧ z + 2 < W.heap.size)
  (fun _ _ _ => False)
  (fun s A C row hs hg hr => ⟨hs.1.own hg (fun r e => (hr r e).2), hs.2.1.grown hg (by omega) (fun k e => Nat.le_trans (by omega) (hr k e).1), Nat.lt_of_lt_of_le hs.2.2 hg.size⟩)
  (fun c s A C row hs hg hr => hs)
  ⟨P2, BW2, hxz⟩
  (fun x a' _ => a' = { tmps := #[.agg L, .pointer (some ⟨z, 0, none⟩), .int .i64 0, .pointer (some ⟨z + 1, 0, none⟩), .agg L, .func (.func 115) #[] #[.pointer (some ⟨z + 2, 0, none⟩)], .int .i64 (x.val : Int), undef, undef, undef], defers := [] })
  (fun x a' _ X Y row hs hg hr => hs)
  ?assign ?body ?done ?stop
 case assign =>
  rintro l pre x W K hI hK
  dsimp only [mbEnc]
  gi_wp2
  exact hK _ _ (KeepsFrom.refl _ _) (fun h => h) hI (by simp)
 case body =>
  rintro l pre x a' W hl ⟨r, hr⟩ ⟨hP, hB, hxW⟩ rfl hlt
  have c0 : W.cell? ⟨z + 1, 0, none⟩ = some (.int .i64 ((pre.length : Nat) : Int)) := hP.cell 0
  have f0 := hP.fr 0
  have e1 : ((pre ++ [x]).length : Int) = (pre.length : Int) + 1 := by simp
  have hlt' : pre.length < 16 := hlt
  have P5 := hP.put (.int .i64 (((pre ++ [x]).length : Nat) : Int))
  rw [e1] at P5
  obtain ⟨k, hk⟩ : ∃ k, pre.length = k := ⟨_, rfl⟩
  have HK : Hid _ := hk
  rw [hk] at c0 P5 e1 hlt'
  have wk : IntKind.i64.wrap ((k : Int) + 1) = (k : Int) + 1 := by rw [IntKind.wrap_i64]; omega
  have k5 : KeepsFrom w2.heap.size W (W.setCell ⟨z + 1, 0, none⟩ (.int .i64 ((k : Int) + 1))) := ko_set _ _ _ _
  have n5 : UbK (z + 2) b W (W.setCell ⟨z + 1, 0, none⟩ (.int .i64 ((k : Int) + 1))) := fun h => by
   obtain ⟨cs, h1, h2, h3⟩ := h
   exact ⟨cs, h1.other (by omega) _ _, h2, h3⟩
  have b5 : Below z w (W.setCell ⟨z + 1, 0, none⟩ (.int .i64 ((k : Int) + 1))) := hB.setCell (p := ⟨z + 1, 0, none⟩) (by show z ≤ z + 1; omega) _
  have z5 : z + 2 < (W.setCell ⟨z + 1, 0, none⟩ (.int .i64 ((k : Int) + 1))).heap.size := Nat.lt_of_lt_of_le hxW (by simp [World.setCell])
  have H5 : Hid (_ ∧ _ ∧ _ ∧ _ ∧ _) := ⟨P5, k5, n5, b5, z5⟩
  clear P5 k5 n5 b5 z5 hP hB hk
  gi_wp2
  obtain ⟨P5, k5, n5, b5, z5⟩ := H5.out
  refine (?_ : KeepsFrom _ W _ ∧ UbK _ _ W _ ∧ _ ∧ _ ∧ _)
  exact ⟨k5, n5, by rw [e1]; exact P5, b5, z5⟩
 case done =>
  rintro D ys W hD rfl ⟨hP, hB, hxW⟩ hK
  rw [mbT_len] at hP
  have c0 : W.cell? ⟨z + 1, 0, none⟩ = some (.int .i64 ((sgN b : Nat) : Int)) := hP.cell 0
  obtain ⟨v, hv⟩ : ∃ v, sgN b = v := ⟨_, rfl⟩
  rw [hv] at c0
  go_wp2
  have hbP := belowK_b (n₀ := z) (w := w2) (by omega) W D _ (.deferred none) hD hK rfl rfl
  refine ⟨by simp, .inl ⟨_, _, rfl, run_takeDeferred hK, ?_⟩⟩
  refine ⟨.int .i64 (v : Int), by simp [results, Tryz.results33, go_sem], by rw [hv], ?_⟩
  rw [HZ.out]
  exact hB.trans hbP
 case stop =>
  rintro D c pre W hD hq hF hK
  exact hF.elim
theorem eqlH (s u s' u' : Nat) (p t b p' t' b' : ByteArray) (W : World) : (binOp .eql 24 (.agg #[.int .u64 s, .int .u64 u, .string p, .string t, .string b]) (.agg #[.int .u64 s', .int .u64 u', .string p', .string t', .string b'])).run Tryz.prog W = .ok (.bool (decide (s = s' ∧ u = u' ∧ p = p' ∧ t = t' ∧ b = b'))) W := by
 by_cases h1 : s = s'
 ·subst h1
  by_cases h2 : u = u'
  ·subst h2
   by_cases h3 : p = p'
   ·subst h3
    by_cases h4 : t = t'
    ·subst h4
     by_cases h5 : b = b'
     ·subst h5
      simp [go_sem]
     ·have h5' : (b.toList == b'.toList) = false := by rw [beq_eq_false_iff_ne]; exact fun e => h5 (toList_inj e)
      simp [go_sem, h5, h5']
    ·have h4' : (t.toList == t'.toList) = false := by rw [beq_eq_false_iff_ne]; exact fun e => h4 (toList_inj e)
     simp [go_sem, h4, h4']
   ·have h3' : (p.toList == p'.toList) = false := by rw [beq_eq_false_iff_ne]; exact fun e => h3 (toList_inj e)
    simp [go_sem, h3, h3']
  ·have h2' : ¬ (u : Int) = u' := by omega
   simp [go_sem, h2, h2']
 ·have h1' : ¬ (s : Int) = s' := by omega
  simp [go_sem, h1, h1']
theorem eqlX (s s' : Nat) (p t p' t' : ByteArray) (W : World) : (binOp .eql 26 (.agg #[.string p, .string t, .int .u64 s]) (.agg #[.string p', .string t', .int .u64 s'])).run Tryz.prog W = .ok (.bool (decide (p = p' ∧ t = t' ∧ s = s'))) W := by
 by_cases h3 : p = p'
 ·subst h3
  by_cases h4 : t = t'
  ·subst h4
   by_cases h1 : s = s'
   ·subst h1
    simp [go_sem]
   ·have h1' : ¬ (s : Int) = s' := by omega
    simp [go_sem, h1, h1']
  ·have h4' : (t.toList == t'.toList) = false := by rw [beq_eq_false_iff_ne]; exact fun e => h4 (toList_inj e)
   simp [go_sem, h4, h4']
 ·have h3' : (p.toList == p'.toList) = false := by rw [beq_eq_false_iff_ne]; exact fun e => h3 (toList_inj e)
  simp [go_sem, h3, h3']
end Go.Proofs.YtoddangedbefgaaGreatDoor
namespace Go.Proofs.YtoddangedbefgaaGreatDoor
open Go.RowKit Go.Shelf Go.Sort

def szS (xs : List ByteArray) : Prop := xs.length ≤ 8796093022208 ∧ ∀ x ∈ xs, x.size ≤ 281474976710656
theorem info_strI : (Tryz.prog.info? 9).map (fun i => (i.zero, i.size, i.bytes)) = some (some (.string ⟨#[]⟩), 1, 16) := by kernel_rfl
set_option maxRecDepth 20000 in
set_option maxHeartbeats 4000000 in
theorem copiedTexts_any (xs : List ByteArray) (hz : szS xs) (a : Option Addr) (c n : Nat) (w : World) (hn : n ≤ w.heap.size) (hp : slS n w a xs) :
  Calls Tryz.prog 108 #[.slice a xs.length c] w fun e w' => (∃ v, e = .returned v ∧ w'.ownsRow w.heap.size 9 1 v xs.length (xs.map .string)) ∧ Below w.heap.size w w' := by
 obtain ⟨i0, hi0, hz0, hz1, hz2⟩ := info_parts info_strI
 have hlen := hz.1
 have hsz := hz.2
 clear hz
 obtain ⟨N, hN⟩ : ∃ N, xs.length = N := ⟨_, rfl⟩
 have HN : Hid (xs.length = N) := hN
 rw [hN] at hlen ⊢
 clear hN
 obtain ⟨z, hzz⟩ : ∃ z, w.heap.size = z := ⟨_, rfl⟩
 have HZ : Hid (w.heap.size = z) := hzz
 rw [hzz] at hn ⊢
 have B0 : Below z w w := by rw [← hzz]; exact Below.refl _ _
 clear hzz
 go_enter Tryz.func108, Tryz.ntmps108
 go_wp2_with fail
 go_loopg [3, 8] N (fun gk v i wr => ∃ k : Nat, k + gk = N ∧ i = .int .i64 k ∧ Below z w wr ∧ z ≤ wr.heap.size ∧ wr.ownsRow z 9 1 v k ((xs.take k).map .string))
 case atStart => exact ⟨0, by omega, rfl, B0, by have := HZ.out; omega, World.ownsRow_nil _ _ _ _⟩
 case round =>
  clear B0
  obtain ⟨k, hk, rfl, BW, hzw, hown⟩ := hrel
  have hr3 : ∀ b, u3.ownBlock = some b → z ≤ b := fun b hb => (hown.lt b hb).1
  by_cases hlt : k < N
  ·have l1 : (k : Int) < N := by omega
   obtain ⟨x, hxk⟩ : ∃ f, xs[k]? = some f := ⟨xs[k]'(by have := HN.out; omega), List.getElem?_eq_getElem (by have := HN.out; omega)⟩
   have hxb := hsz x (List.mem_of_getElem? hxk)
   obtain ⟨b, o, rfl, hbn, c0⟩ := slS_at hp k x hxk
   replace c0 := (BW.cell (p := ⟨b, _, none⟩) (by show b < z; omega)).trans c0
   obtain ⟨r, hr⟩ : ∃ p, o + k = p := ⟨_, rfl⟩
   rw [hr] at c0
   have wk : IntKind.i64.wrap ((k : Int) + 1) = ((k + 1 : Nat) : Int) := by rw [IntKind.wrap_i64]; omega
   have KM := fun w : World => z_clone_any x w hxb
   have hnext : (xs.take (k + 1)).map Value.string = (xs.take k).map .string ++ [.string x] := by
    rw [List.take_add_one, hxk, Option.toList, List.map_append]
    rfl
   have HX : Hid _ := hnext
   have HO : Hid _ := hown
   clear hnext hxk hxb hown
   go_wp2_with fail
   refine (KM _).mono ?_
   rintro e w3 ⟨rfl, B3⟩
   clear KM c0
   have BW3 := belowStep BW hzw B3
   have A1 : Below w3.heap.size w3 (w3.alloc (.cells #[.string x] 9)) := (Below.refl _ w3).alloc (Nat.le_refl _) _
   have hnew := World.alloc_heap_new w3 (.cells #[.string x] 9)
   have hown2 := owns_below8 (owns_below8 HO.out B3) A1
   have hs0 := B3.size
   have hs1 := A1.size
   have BW4 := belowStep BW3 (Nat.le_trans hzw hs0) A1
   have HV : Hid (_ ∧ _ ∧ _) := ⟨hown2, hnew, BW4⟩
   clear A1 hnew hown2 BW BW3 BW4 B3 HO
   go_wp2_with (at_builtin; refine wpList_append_own _ rfl _ _ 27 rfl z 9 i0 (.string ⟨#[]⟩) 1 16 Tryz.underlying27 hi0 hz0 hz1 hz2 rfl (by decide) _ _ _ rfl HV.out.1 ⟨w3.heap.size, 0, none⟩ 1 1 [.string x] rfl rfl (one_new' _ _ _) (by intro u hu; simp at hu; subst hu; rfl) (by unfold maxLen; omega) (by omega) (by simp; omega) ?_)
   intro v' w6 a2 a3 a4
   have HW : Hid (_ ∧ _) := ⟨a2, a3⟩
   clear a2 a3 a4
   go_wp2
   go_roundg (gk - 1)
   case measure => omega
   case rel =>
    obtain ⟨a2, a3⟩ := HW.out
    refine ⟨k + 1, by omega, by first | rfl | (congr 1; omega), HV.out.2.2.grown a3 (by omega) (fun q e => hr3 q e), Nat.le_trans (Nat.le_trans hzw (Nat.le_trans hs0 hs1)) a3.size, ?_⟩
    rw [HX.out, List.map_take]
    exact a2
  ·have l1 : ¬ (k : Int) < N := by omega
   obtain rfl : k = N := by omega
   rw [List.take_of_length_le (by have := HN.out; omega)] at hown
   have HO : Hid (_ ∧ _) := ⟨BW, hown⟩
   clear BW hown
   go_wp2
   go_ret
   exact ⟨⟨_, by simp, HO.out.2⟩, HO.out.1⟩
end Go.Proofs.YtoddangedbefgaaGreatDoor
namespace Go.Proofs.YtoddangedbefgaaGreatDoor
open Go.RowKit Go.Shelf Go.Sort

def slG (n : Nat) (W : World) (a : Option Addr) (xs : List ByteArray) : Prop := xs = [] ∨ ∃ b, a = some ⟨b, 0, none⟩ ∧ n ≤ b ∧ b < W.heap.size ∧ ∀ j x, xs[j]? = some x → W.cell? ⟨b, 0 + j, none⟩ = some (.string x)
theorem slG.slS {n : Nat} {W : World} {a : Option Addr} {xs : List ByteArray} (h : slG n W a xs) : slS W.heap.size W a xs := by
 rcases h with h | ⟨b, h1, h2, h3, h4⟩
 ·exact .inl h
 ·exact .inr ⟨b, 0, h1, h3, h4⟩
theorem slG.mono {n m : Nat} {W : World} {a : Option Addr} {xs : List ByteArray} (h : slG n W a xs) (hm : m ≤ n) : slG m W a xs := by
 rcases h with h | ⟨b, h1, h2, h3, h4⟩
 ·exact .inl h
 ·exact .inr ⟨b, h1, Nat.le_trans hm h2, h3, h4⟩
theorem slG.keep {n : Nat} {W W' : World} {a : Option Addr} {xs : List ByteArray} (h : slG n W a xs) (hs : W.heap.size ≤ W'.heap.size) (hW : ∀ b, n ≤ b → b < W.heap.size → W'.heap[b]? = W.heap[b]?) : slG n W' a xs := by
 rcases h with h | ⟨b, h1, h2, h3, h4⟩
 ·exact .inl h
 ·exact .inr ⟨b, h1, h2, Nat.lt_of_lt_of_le h3 hs, fun j x hx => by rw [World.cell?_of_block (w := W) (a := ⟨b, 0 + j, none⟩) (hW b h2 h3)]; exact h4 j x hx⟩
theorem slG.grow {n : Nat} {W W' : World} {a : Option Addr} {xs : List ByteArray} (h : slG n W a xs) (hb : Below W.heap.size W W') : slG n W' a xs := h.keep hb.size fun b _ hb2 => hb.block b hb2
theorem slG_of {W : World} {zz c : Nat} {a : Option Addr} {xs : List ByteArray} (h : W.ownsRow zz 9 1 (.slice a xs.length c) xs.length (xs.map .string)) : slG zz W a xs := by
 rcases h.2 with ⟨h1, h2⟩ | ⟨g, c', cur, h1, h2, h3, h4, h5, h6, h7⟩
 ·exact .inl (List.length_eq_zero_iff.1 h2)
 ·have hg := (Array.getElem?_eq_some_iff.1 h3).1
  cases h1
  refine .inr ⟨g, rfl, h2, hg, fun j x hx => ?_⟩
  have hj : j < xs.length := (List.getElem?_eq_some_iff.1 hx).1
  rw [h.cellAt (0 + j) (by omega), Nat.zero_add, List.getElem?_map, hx]
  rfl
theorem slS_put {W W' : World} {zz c : Nat} {a : Option Addr} {xs : List ByteArray} (h : W.ownsRow zz 9 1 (.slice a xs.length c) xs.length (xs.map .string)) (hs : W.heap.size ≤ W'.heap.size) (hW : ∀ b, zz ≤ b → b < W.heap.size → W'.heap[b]? = W.heap[b]?) : slG zz W' a xs := (slG_of h).keep hs hW
structure Mu_cm (V : World) (z N : Nat) (a : Option Addr) (c : Nat) (sm : ByteArray) (xs : List Value) (S : Nat → Bool) (x3 x4 x5 x6 x7 x8 : Value) (W : World) : Prop where
 e : Below V.heap.size V W
 f0 : S 0 = true → x3 = .pointer (some ⟨z, 0, none⟩)
 f1 : S 1 = true → x4 = .slice a N c
 f2 : S 2 = true → ∃ zz, V.heap.size ≤ zz ∧ zz ≤ W.heap.size ∧ W.ownsRow zz 9 1 x5 N xs
 f3 : S 3 = true → x6 = .pointer (some ⟨z, 1, none⟩)
 f4 : S 4 = true → x7 = .string sm
 f5 : S 5 = true → x8 = .string sm
theorem Mu_cm.grow {V : World} {z N : Nat} {a : Option Addr} {c : Nat} {sm : ByteArray} {xs : List Value} {S : Nat → Bool} {x3 x4 x5 x6 x7 x8 : Value} {W W' : World} (h : Mu_cm V z N a c sm xs S x3 x4 x5 x6 x7 x8 W) (hb : Below W.heap.size W W') : Mu_cm V z N a c sm xs S x3 x4 x5 x6 x7 x8 W' :=
 ⟨belowStep h.e h.e.size hb, h.f0, h.f1, fun s => (h.f2 s).imp fun _ ⟨j1, j2, j3⟩ => ⟨j1, Nat.le_trans j2 hb.size, owns_below8 j3 hb⟩, h.f3, h.f4, h.f5⟩
set_option maxRecDepth 20000 in
set_option maxHeartbeats 4000000 in
theorem copiedComm_any (d : CmD) (hz : szS d.ks ∧ d.sm.size ≤ 281474976710656) (q : Pl) (n : Nat) (w : World) (hn : n ≤ w.heap.size) (hp : slS n w q.a d.ks) :
  Calls Tryz.prog 69 #[.agg (cmV d q).toArray] w fun e w' => (∃ q', e = .returned (.agg (cmV d q').toArray) ∧ slG w.heap.size w' q'.a d.ks) ∧ Below w.heap.size w w' := by
 obtain ⟨ks, sm⟩ := d
 obtain ⟨a, c⟩ := q
 obtain ⟨hz1, hz2⟩ := hz
 have hz2 : sm.size ≤ 281474976710656 := hz2
 simp only [cmV]
 have KT := fun (W : World) (hB : Below w.heap.size w W) => copiedTexts_any ks hz1 a c n W (Nat.le_trans hn hB.size) (slS_below (hB.mono hn) hp)
 have KC := fun W : World => z_clone_any sm W hz2
 clear hz1 hz2 hn hp
 obtain ⟨N, hN⟩ : ∃ N, ks.length = N := ⟨_, rfl⟩
 rw [hN] at KT
 have HN : Hid (ks.length = N) := hN
 rw [hN]
 clear hN
 obtain ⟨A0, hx, hs⟩ := box1 w (.cells #[.slice a N c, .string sm] 31)
 obtain ⟨w1, hw1⟩ : ∃ W, w.alloc (.cells #[.slice a N c, .string sm] 31) = W := ⟨_, rfl⟩
 obtain ⟨z, hz⟩ : ∃ z, w.heap.size = z := ⟨_, rfl⟩
 have HZ : Hid (w.heap.size = z) := hz
 rw [hw1] at A0 hx hs
 rw [hz] at A0 hx hs KT
 have c0 : w1.cell? ⟨z, 0, none⟩ = some (.slice a N c) := by rw [Lib.cell_of_heap hx]; rfl
 have c1 : w1.cell? ⟨z, 1, none⟩ = some (.string sm) := by rw [Lib.cell_of_heap hx]; rfl
 have hzw : z < w1.heap.size := by omega
 clear hx hs
 go_enter Tryz.func69, Tryz.ntmps69
 go_wp2_with fail
 first | rw [hw1] | skip
 obtain ⟨A2, hx2, hs2⟩ := box1 w1 (.cells #[.slice none 0 0, .string ⟨#[]⟩] 31)
 have hw1s : w1.heap.size = z + 1 := by rw [← hw1, ← hz]; simp
 obtain ⟨V, hV⟩ : ∃ V, w1.alloc (.cells #[.slice none 0 0, .string ⟨#[]⟩] 31) = V := ⟨_, rfl⟩
 rw [hV] at A2 hx2 hs2 ⊢
 rw [hw1s] at A2 hx2 hs2 ⊢
 have d0 : V.cell? ⟨z, 0, none⟩ = some (.slice a N c) := (A2.cell (p := ⟨z, 0, none⟩) (by show z < z + 1; omega)).trans c0
 have d1 : V.cell? ⟨z, 1, none⟩ = some (.string sm) := (A2.cell (p := ⟨z, 1, none⟩) (by show z < z + 1; omega)).trans c1
 have hzV : z < V.heap.size := by omega
 have BV : Below z w V := A0.trans (A2.mono (by omega))
 have KT' := fun (W : World) (hB : Below V.heap.size V W) => KT W (BV.trans (hB.mono (by omega)))
 have HB : Hid (Below z w V ∧ V.heap.size = z + 2 ∧ V.heap[z + 1]? = some (.cells #[.slice none 0 0, .string ⟨#[]⟩] 31 (0, 0))) := ⟨BV, by omega, hx2⟩
 obtain ⟨xs, hxs⟩ : ∃ xs : List Value, ks.map .string = xs := ⟨_, rfl⟩
 rw [hxs] at KT'
 have HXS : Hid _ := hxs
 clear hw1 hz A0 A2 hx2 hs2 c0 c1 KT BV hw1s hV hxs
 refine region_inv_tail 6 (fun S aa W => ∃ x3 x4 x5 x6 x7 x8 : Value, aa = { tmps := #[Value.agg #[Value.slice a N c, Value.string sm], Value.pointer (some { block := z, off := 0 }), Value.pointer (some { block := z + 1, off := 0 }), x3, x4, x5, x6, x7, x8, undef], defers := [] } ∧ Mu_cm V z N a c sm xs S x3 x4 x5 x6 x7 x8 W) (by kernel_rfl) (by kernel_rfl) ?_ ?_ ?_
 ·exact ⟨undef, undef, undef, undef, undef, undef, rfl, ⟨(Below.refl _ V).drew, nofun, nofun, nofun, nofun, nofun, nofun⟩⟩
 ·intro i o S aa W hin hi hun hJ hall K hK
  obtain ⟨x3, x4, x5, x6, x7, x8, rfl, h⟩ := hJ
  have hlt : i < 6 := hin
  have hcase : i = 0 ∨ i = 1 ∨ i = 2 ∨ i = 3 ∨ i = 4 ∨ i = 5 := by omega
  rcases hcase with rfl | rfl | rfl | rfl | rfl | rfl
  all_goals (have ho := (Option.some.inj hi).symm; subst ho; clear hi hlt hin)
  ·go_simp
   exact hK _ _ ⟨_, _, _, _, _, _, rfl, { h with f0 := fun _ => rfl }⟩
  ·have s_0 : S 0 = true := hall ⟨0, .data⟩ (by simp) rfl
   obtain rfl := h.f0 s_0
   have cW := (h.e.cell (p := ⟨z, 0, none⟩) hzV).trans d0
   go_simp
   exact hK _ _ ⟨_, _, _, _, _, _, rfl, { h with f1 := fun _ => rfl }⟩
  ·have s_1 : S 1 = true := hall ⟨1, .data⟩ (by simp) rfl
   obtain rfl := h.f1 s_1
   go_simp
   refine (KT' W h.e).mono ?_
   rintro e w5 ⟨⟨v5, rfl, k1⟩, hb5⟩
   have h1 := h.grow hb5
   exact hK _ _ ⟨_, _, _, _, _, _, rfl, { h1 with f2 := fun _ => ⟨W.heap.size, h.e.size, hb5.size, k1⟩ }⟩
  ·go_simp
   exact hK _ _ ⟨_, _, _, _, _, _, rfl, { h with f3 := fun _ => rfl }⟩
  ·have s_3 : S 3 = true := hall ⟨3, .data⟩ (by simp) rfl
   obtain rfl := h.f3 s_3
   have cW := (h.e.cell (p := ⟨z, 1, none⟩) hzV).trans d1
   go_simp
   exact hK _ _ ⟨_, _, _, _, _, _, rfl, { h with f4 := fun _ => rfl }⟩
  ·have s_4 : S 4 = true := hall ⟨4, .data⟩ (by simp) rfl
   obtain rfl := h.f4 s_4
   go_simp
   refine (KC W).mono ?_
   rintro e w5 ⟨rfl, hb5⟩
   have h1 := h.grow hb5
   exact hK _ _ ⟨_, _, _, _, _, _, rfl, { h1 with f5 := fun _ => rfl }⟩
 ·rintro S aa W hall ⟨x3, x4, x5, x6, x7, x8, rfl, h⟩
  obtain rfl := h.f0 (hall 0 (by decide))
  obtain rfl := h.f1 (hall 1 (by decide))
  obtain hO2 := h.f2 (hall 2 (by decide))
  obtain rfl := h.f3 (hall 3 (by decide))
  obtain rfl := h.f4 (hall 4 (by decide))
  obtain rfl := h.f5 (hall 5 (by decide))
  have BWD := h.e
  clear h hall
  obtain ⟨BV, hs, hx2⟩ := HB.out
  obtain ⟨zz, j1, j2, j3⟩ := hO2
  have hxW := (BWD.block (z + 1) (by omega)).trans hx2
  obtain ⟨v1, v2, e1⟩ := owns_slice j3
  obtain rfl := e1
  have r0 : ∀ o, W.frozen? ⟨z + 1, o, none⟩ = false := fun o => by simp [World.frozen?, hxW]
  have r1 : W.cell? ⟨z + 1, 0, none⟩ = some (.slice none 0 0) := by rw [Lib.cell_of_heap hxW]; rfl
  have r2 : W.cell? ⟨z + 1, 1, none⟩ = some (.string ⟨#[]⟩) := by rw [Lib.cell_of_heap hxW]; rfl
  have HE : Hid (_ ∧ _ ∧ _ ∧ _ ∧ _ ∧ _ ∧ _) := ⟨BWD, BV, hs, hxW, j1, j2, j3⟩
  clear BWD BV hs hx2 hxW j1 j2 j3
  go_wp2_with fail
  obtain ⟨BWD, BV, hs, hxW, j1, j2, j3⟩ := HE.out
  have e9 := heap_setCell_self (heap_setCell_self hxW 0 (.slice v1 N v2)) 1 (.string sm)
  have f1 := Lib.cell_of_heap e9 0
  have f2 := Lib.cell_of_heap e9 1
  have hsz : W.heap.size ≤ ((W.setCell ⟨z + 1, 0, none⟩ (.slice v1 N v2)).setCell ⟨z + 1, 1, none⟩ (.string sm)).heap.size := by simp [World.setCell]
  have hk : ∀ b, zz ≤ b → b < W.heap.size → ((W.setCell ⟨z + 1, 0, none⟩ (.slice v1 N v2)).setCell ⟨z + 1, 1, none⟩ (.string sm)).heap[b]? = W.heap[b]? := fun b hb _ => by
   rw [Below.heap_setCell _ _ _ _ (show b ≠ z + 1 by omega), Below.heap_setCell _ _ _ _ (show b ≠ z + 1 by omega)]
  have hb : Below z w ((W.setCell ⟨z + 1, 0, none⟩ (.slice v1 N v2)).setCell ⟨z + 1, 1, none⟩ (.string sm)) := ((BV.trans (BWD.mono (by omega))).setCell (p := ⟨z + 1, 0, none⟩) (by show z ≤ z + 1; omega) _).setCell (p := ⟨z + 1, 1, none⟩) (by show z ≤ z + 1; omega) _
  obtain ⟨X, hX⟩ : ∃ X, (W.setCell ⟨z + 1, 0, none⟩ (.slice v1 N v2)).setCell ⟨z + 1, 1, none⟩ (.string sm) = X := ⟨_, rfl⟩
  rw [hX] at f1 f2 hsz hk hb ⊢
  have hXS := HXS.out
  have hN := HN.out
  subst hXS
  subst hN
  refine bodyPost_ret (v := .agg #[.slice v1 ks.length v2, .string sm]) (by simp [results, Tryz.results69, go_sem, f1, f2]) rfl ⟨⟨⟨v1, v2⟩, rfl, (slS_put j3 hsz hk).mono (by have := HZ.out; omega)⟩, ?_⟩
  rw [HZ.out]
  exact hb
end Go.Proofs.YtoddangedbefgaaGreatDoor
namespace Go.Proofs.YtoddangedbefgaaGreatDoor
open Go.RowKit Go.Shelf Go.Sort

theorem store_row0 {P : Program} {ops : Array Oper} {rest : List Oper} {o : Oper} {a : Act} {w : World} {Q : Exit → Act → World → Prop} (hgd : o.guard = none) (hds : o.dst = none) (ty : TypeId) (x y : Operand) (ho : o.op = .store ty x y)
  (g : Nat) (cells : Array Value) (hx : a.eval x = .pointer (some ⟨g, 0, none⟩)) (hy : a.eval y = .agg cells)
  (t : TypeId) (old : Array Value) (hg : w.heap[g]? = some (.cells old t (0, 0))) (hi : (P.info? ty).map (·.size) = some cells.size)
  (hold : old.size = cells.size) (h1 : cells.all (·.oneCell') = true)
  (h : wpList P ops Q rest a (w.setRow g cells)) : wpList P ops Q (o :: rest) a w :=
 wpList_store_row hgd ty x y ho g cells hx hy t old hg hi hold h1 (by rw [hds]; exact h)
structure Stp (p : Prop) : Prop where
 out : p
theorem store_mid0 {P : Program} {ops : Array Oper} {rest : List Oper} {o : Oper} {a : Act} {w : World} {Q : Exit → Act → World → Prop} (hgd : o.guard = none) (hds : o.dst = none) (ty : TypeId) (x y : Operand) (ho : o.op = .store ty x y)
  (b off : Nat) (vs : List Value) (hx : a.eval x = .pointer (some ⟨b, off, none⟩)) (hy : a.eval y = .agg vs.toArray) (ht : w.there b off vs.length) (hi : (P.info? ty).map (·.size) = some vs.length) (h1 : ∀ v ∈ vs, v.oneCell' = true)
  (h : wpList P ops Q rest a (w.setCells b off vs)) : wpList P ops Q (o :: rest) a w := by
 refine wpList_store_mid hgd ty x y ho b off vs.toArray hx hy (by simpa using ht) (by simpa using hi) (all_oneCell_toArray h1) ?_
 rw [hds, List.toList_toArray]
 exact h
theorem size_setCellsB {b : Nat} : ∀ (vs : List Value) (o : Nat) (W : World), (W.setCells b o vs).heap.size = W.heap.size
 | [], _, _ => rfl
 | v :: vs, o, W => (size_setCellsB vs (o + 1) (W.setCell ⟨b, o, none⟩ v)).trans (by simp [World.setCell])
theorem results_row2 {P : Program} {fn : Func} {p u : Tmp} {ty : TypeId} (h : fn.results = #[.cell p ty, .tmp u]) (tmps : Array Value) (w : World) (g : Nat) (t : TypeId) (cs : Array Value) (fr : Nat × Nat) (d : TypeDesc)
  (hp : tmps.getD p undef = .pointer (some ⟨g, 0, none⟩)) (hg : w.heap[g]? = some (.cells cs t fr))
  (hu : P.underlying ty = some d) (hd : (match d with | .struct _ | .array _ _ => true | _ => false) = true) (hi : (P.info? ty).map (·.size) = some cs.size) (v : Value) (hv : tmps.getD u undef = v) :
  (results fn tmps).run P w = .ok (.tuple #[.agg cs, v]) w := by
 rw [results_cell_tmp h, hp, hv]
 simp [asAddr, run_loadVar_row w g t ty cs fr d hg hu hd hi]
theorem Bq.row {b : Nat} {ty : TypeId} {old : Array Value} {W : World} (h : Bq b ty old W) (cs : Array Value) : Bq b ty cs (W.setRow b cs) := setRow_heap W b old cs ty (0, 0) h
theorem Bq.rowOther {b k : Nat} {ty : TypeId} {cs : Array Value} {W : World} (h : Bq b ty cs W) (hk : b ≠ k) (cs' : Array Value) : Bq b ty cs (W.setRow k cs') := (setRow_other W k b cs' hk).trans h
theorem below_row {n k : Nat} {w W : World} (h : Below n w W) (hk : n ≤ k) (cs : Array Value) : Below n w (W.setRow k cs) :=
 ⟨h.os, h.tape, h.output, by rw [size_setRow]; exact h.size, fun j hj => (setRow_other W k j cs (by omega)).trans (h.block j hj)⟩
theorem setCells_block {b : Nat} {t : TypeId} {f : Nat × Nat} (C : List Value) : ∀ (vs B A : List Value) (W : World), vs.length = B.length → W.heap[b]? = some (.cells (A ++ B ++ C).toArray t f) → (W.setCells b A.length vs).heap[b]? = some (.cells (A ++ vs ++ C).toArray t f)
 | [], [], A, W, _, h => h
 | v :: vs, x :: B, A, W, hl, h => by
  have h1 := heap_setCell_self h A.length v
  have e1 : (A ++ x :: B ++ C).toArray.setIfInBounds A.length v = (A ++ [v] ++ B ++ C).toArray := by simp
  rw [e1] at h1
  have := setCells_block C vs B (A ++ [v]) (W.setCell ⟨b, A.length, none⟩ v) (Nat.succ.inj hl) h1
  rw [List.length_append, List.length_singleton] at this
  have e2 : A ++ [v] ++ vs ++ C = A ++ v :: vs ++ C := by simp
  rw [e2] at this
  exact this
 | [], _ :: _, _, _, hl, _ => by cases hl
 | _ :: _, [], _, _, hl, _ => by cases hl
theorem setCells_other {b k : Nat} (hk : k ≠ b) : ∀ (vs : List Value) (o : Nat) (W : World), (W.setCells b o vs).heap[k]? = W.heap[k]?
 | [], _, _ => rfl
 | v :: vs, o, W => (setCells_other hk vs (o + 1) (W.setCell ⟨b, o, none⟩ v)).trans (Below.heap_setCell _ _ _ _ hk)
theorem below_cells {n b o : Nat} {w W : World} (h : Below n w W) (hb : n ≤ b) (vs : List Value) : Below n w (W.setCells b o vs) := below_setCells' (b := b) hb vs o _ h
theorem there_of_block {W : World} {b o n : Nat} {cs : List Value} {t : TypeId} (h : W.heap[b]? = some (.cells cs.toArray t (0, 0))) (hn : o + n ≤ cs.length) : W.there b o n := fun j hj => by
 refine ⟨?_, ?_⟩
 ·rw [Lib.cell_of_heap h]
  simp [show o + j < cs.length by omega]
 ·simp [World.frozen?, h]
theorem ltV_one (d : LtD) (q : Pl) : ∀ v ∈ ltV d q, v.oneCell' = true := by
 intro v hv
 unfold ltV at hv
 simp only [List.mem_cons, List.mem_nil_iff, or_false] at hv
 rcases hv with rfl | rfl | rfl | rfl | rfl | rfl | rfl | rfl | rfl <;> rfl
theorem cmV_one (d : CmD) (q : Pl) : ∀ v ∈ cmV d q, v.oneCell' = true := by
 intro v hv
 unfold cmV at hv
 simp only [List.mem_cons, List.mem_nil_iff, or_false] at hv
 rcases hv with rfl | rfl <;> rfl
theorem upV_one (d : UpD) (q : UpP) : ∀ v ∈ upV d q, v.oneCell' = true := by
 intro v hv
 unfold upV at hv
 simp only [List.mem_append, List.mem_cons, List.mem_nil_iff, or_false] at hv
 rcases hv with (((h | h) | rfl) | h) | rfl | rfl | rfl | rfl
 ·exact ltV_one _ _ v h
 ·exact cmV_one _ _ v h
 ·rfl
 ·exact ltV_one _ _ v h
 all_goals rfl
theorem stV_one (d : StD) (q : StP) : ∀ v ∈ stV d q, v.oneCell' = true := by
 intro v hv
 unfold stV at hv
 simp only [List.mem_append, List.mem_cons, List.mem_nil_iff, or_false] at hv
 rcases hv with ((((h | h) | h) | h) | h) | rfl | rfl | rfl | rfl
 ·exact ltV_one _ _ v h
 ·exact ltV_one _ _ v h
 ·exact cmV_one _ _ v h
 ·exact cmV_one _ _ v h
 ·exact upV_one _ _ v h
 all_goals rfl
theorem one_arr {cs : List Value} (h : ∀ v ∈ cs, v.oneCell' = true) : cs.toArray.all (·.oneCell') = true := all_oneCell_toArray h
end Go.Proofs.YtoddangedbefgaaGreatDoor
namespace Go.Proofs.YtoddangedbefgaaGreatDoor
open Go.RowKit Go.Shelf Go.Sort

structure Mu_li (V : World) (z : Nat) (S : Nat → Bool) (x9 x10 x11 x12 x13 x14 x15 x16 x17 x18 x19 x20 x21 x22 x23 x24 x25 x26 : Value) (W : World) : Prop where
 e : Below V.heap.size V W
 f0 : S 0 = true → x9 = .pointer (some ⟨z, 0, none⟩)
 f1 : S 1 = true → x10 = .pointer (some ⟨z, 0, none⟩)
 f2 : S 2 = true → x11 = .pointer (some ⟨z, 2, none⟩)
 f3 : S 3 = true → x12 = .pointer (some ⟨z, 0, none⟩)
 f4 : S 4 = true → x13 = .pointer (some ⟨z, 0, none⟩)
 f5 : S 5 = true → x14 = .pointer (some ⟨z, 3, none⟩)
 f6 : S 6 = true → x15 = .pointer (some ⟨z, 0, none⟩)
 f7 : S 7 = true → x16 = .pointer (some ⟨z, 0, none⟩)
 f8 : S 8 = true → x17 = .pointer (some ⟨z, 4, none⟩)
 f9 : S 9 = true → x18 = .pointer (some ⟨z, 5, none⟩)
 f10 : S 10 = true → x19 = .pointer (some ⟨z, 5, none⟩)
 f11 : S 11 = true → x20 = .pointer (some ⟨z, 5, none⟩)
 f12 : S 12 = true → x21 = .pointer (some ⟨z, 5, none⟩)
 f13 : S 13 = true → x22 = .pointer (some ⟨z, 5, none⟩)
 f14 : S 14 = true → x23 = .pointer (some ⟨z, 6, none⟩)
 f15 : S 15 = true → ∃ g, x24 = .slice (some ⟨g, 0, none⟩) 5 5 ∧ V.heap.size ≤ g ∧ W.heap[g]? = some (.cells #[.pointer (some ⟨z, 2, none⟩), .pointer (some ⟨z, 3, none⟩), .pointer (some ⟨z, 4, none⟩), .pointer (some ⟨z, 5, none⟩), .pointer (some ⟨z, 6, none⟩)] 132 (0, 0))
 f16 : S 16 = true → x25 = .int .i64 5
 f17 : S 17 = true → x26 = .int .i64 0
theorem Mu_li.grow {V : World} {z : Nat} {S : Nat → Bool} {x9 x10 x11 x12 x13 x14 x15 x16 x17 x18 x19 x20 x21 x22 x23 x24 x25 x26 : Value} {W W' : World} (h : Mu_li V z S x9 x10 x11 x12 x13 x14 x15 x16 x17 x18 x19 x20 x21 x22 x23 x24 x25 x26 W) (hb : Below W.heap.size W W') : Mu_li V z S x9 x10 x11 x12 x13 x14 x15 x16 x17 x18 x19 x20 x21 x22 x23 x24 x25 x26 W' :=
 ⟨belowStep h.e h.e.size hb, h.f0, h.f1, h.f2, h.f3, h.f4, h.f5, h.f6, h.f7, h.f8, h.f9, h.f10, h.f11, h.f12, h.f13, h.f14, fun s => (h.f15 s).imp fun _ ⟨j0, j1, j2⟩ => ⟨j0, j1, (hb.block _ (Array.getElem?_eq_some_iff.1 j2).1).trans j2⟩, h.f16, h.f17⟩
def szL (d : LtD) : Prop := d.p.size ≤ 281474976710656 ∧ d.t.size ≤ 281474976710656 ∧ d.b.size ≤ 281474976710656 ∧ d.ea.size ≤ 281474976710656 ∧ d.ra.size ≤ 281474976710656 ∧ szS d.br
set_option maxRecDepth 20000 in
set_option maxHeartbeats 4000000 in
theorem copiedLight_any (d : LtD) (hz : szL d) (q : Pl) (n : Nat) (w : World) (hn : n ≤ w.heap.size) (hp : slS n w q.a d.br) :
  Calls Tryz.prog 68 #[.agg (ltV d q).toArray] w fun e w' => (∃ q', e = .returned (.agg (ltV d q').toArray) ∧ slG w.heap.size w' q'.a d.br) ∧ Below w.heap.size w w' := by
 obtain ⟨s, u, p, t, b, ea, ra, m, br⟩ := d
 obtain ⟨a, c⟩ := q
 obtain ⟨hz1, hz2, hz3, hz4, hz5, hz6⟩ := hz
 simp only [ltV]
 have KT := fun (W : World) (hB : Below w.heap.size w W) => copiedTexts_any br hz6 a c n W (Nat.le_trans hn hB.size) (slS_below (hB.mono hn) hp)
 have K1 := fun W : World => z_clone_any p W hz1
 have K2 := fun W : World => z_clone_any t W hz2
 have K3 := fun W : World => z_clone_any b W hz3
 have K4 := fun W : World => z_clone_any ea W hz4
 have K5 := fun W : World => z_clone_any ra W hz5
 clear hz1 hz2 hz3 hz4 hz5 hz6 hn hp
 obtain ⟨N, hN⟩ : ∃ N, br.length = N := ⟨_, rfl⟩
 rw [hN] at KT
 have HN : Hid (br.length = N) := hN
 rw [hN]
 clear hN
 go_enter Tryz.func68, Tryz.ntmps68
 go_wp2_with fail
 obtain ⟨BV, hx, hy, hs⟩ := box2 w (.cells #[.int .u64 (s : Int), .int .u64 (u : Int), .string p, .string t, .string b, .string ea, .string ra, .int .u64 (m : Int), .slice a N c] 29) (.cells #[.int .u64 0, .int .u64 0, .string ⟨#[]⟩, .string ⟨#[]⟩, .string ⟨#[]⟩, .string ⟨#[]⟩, .string ⟨#[]⟩, .int .u64 0, .slice none 0 0] 29)
 obtain ⟨V, hV⟩ : ∃ V, (w.alloc (.cells #[.int .u64 (s : Int), .int .u64 (u : Int), .string p, .string t, .string b, .string ea, .string ra, .int .u64 (m : Int), .slice a N c] 29)).alloc (.cells #[.int .u64 0, .int .u64 0, .string ⟨#[]⟩, .string ⟨#[]⟩, .string ⟨#[]⟩, .string ⟨#[]⟩, .string ⟨#[]⟩, .int .u64 0, .slice none 0 0] 29) = V := ⟨_, rfl⟩
 obtain ⟨z, hz⟩ : ∃ z, w.heap.size = z := ⟨_, rfl⟩
 have HZ : Hid (w.heap.size = z) := hz
 rw [hV] at BV hx hy hs ⊢
 rw [hz] at BV hx hy hs KT ⊢
 have HV : Hid (_ ∧ _ ∧ _ ∧ _) := ⟨BV, hx, hy, hs⟩
 clear hV hz BV hx hy hs
 refine region_inv (fun S aa W => ∃ x9 x10 x11 x12 x13 x14 x15 x16 x17 x18 x19 x20 x21 x22 x23 x24 x25 x26 : Value, aa = { tmps := #[Value.agg #[Value.int IntKind.u64 ↑s, Value.int IntKind.u64 ↑u, Value.string p, Value.string t, Value.string b, Value.string ea, Value.string ra, Value.int IntKind.u64 ↑m, Value.slice a N c], Value.pointer (some { block := z, off := 0 }), Value.pointer (some { block := z + 1, off := 0 }), Value.pointer (some { block := z, off := 0 }), Value.pointer (some { block := z, off := 5 }), undef, undef, Value.pointer (some { block := z, off := 0 }), Value.pointer (some { block := z, off := 5 }), x9, x10, x11, x12, x13, x14, x15, x16, x17, x18, x19, x20, x21, x22, x23, x24, x25, x26, undef, undef, undef, undef, undef, undef, undef, undef, undef, undef, undef, undef, undef, undef, undef], defers := [] } ∧ Mu_li V z S x9 x10 x11 x12 x13 x14 x15 x16 x17 x18 x19 x20 x21 x22 x23 x24 x25 x26 W) (by kernel_rfl) (by kernel_rfl) ?_ ?_ ?_
 ·exact ⟨undef, undef, undef, undef, undef, undef, undef, undef, undef, undef, undef, undef, undef, undef, undef, undef, undef, undef, rfl, ⟨(Below.refl _ V).drew, nofun, nofun, nofun, nofun, nofun, nofun, nofun, nofun, nofun, nofun, nofun, nofun, nofun, nofun, nofun, nofun, nofun, nofun⟩⟩
 ·intro i o S aa W hi hun hJ hall K hK
  obtain ⟨x9, x10, x11, x12, x13, x14, x15, x16, x17, x18, x19, x20, x21, x22, x23, x24, x25, x26, rfl, h⟩ := hJ
  have hlt : i < 18 := (List.getElem?_eq_some_iff.1 hi).1
  have hcase : i = 0 ∨ i = 1 ∨ i = 2 ∨ i = 3 ∨ i = 4 ∨ i = 5 ∨ i = 6 ∨ i = 7 ∨ i = 8 ∨ i = 9 ∨ i = 10 ∨ i = 11 ∨ i = 12 ∨ i = 13 ∨ i = 14 ∨ i = 15 ∨ i = 16 ∨ i = 17 := by omega
  rcases hcase with rfl | rfl | rfl | rfl | rfl | rfl | rfl | rfl | rfl | rfl | rfl | rfl | rfl | rfl | rfl | rfl | rfl | rfl
  all_goals (have ho := (Option.some.inj hi).symm; subst ho; clear hi hlt)
  ·go_simp
   exact hK _ _ ⟨_, _, _, _, _, _, _, _, _, _, _, _, _, _, _, _, _, _, rfl, { h with f0 := fun _ => rfl }⟩
  ·have s_0 : S 0 = true := hall ⟨0, .data⟩ (by simp) rfl
   obtain rfl := h.f0 s_0
   go_simp
   exact hK _ _ ⟨_, _, _, _, _, _, _, _, _, _, _, _, _, _, _, _, _, _, rfl, { h with f1 := fun _ => rfl }⟩
  ·have s_1 : S 1 = true := hall ⟨1, .data⟩ (by simp) rfl
   obtain rfl := h.f1 s_1
   go_simp
   exact hK _ _ ⟨_, _, _, _, _, _, _, _, _, _, _, _, _, _, _, _, _, _, rfl, { h with f2 := fun _ => rfl }⟩
  ·go_simp
   exact hK _ _ ⟨_, _, _, _, _, _, _, _, _, _, _, _, _, _, _, _, _, _, rfl, { h with f3 := fun _ => rfl }⟩
  ·have s_3 : S 3 = true := hall ⟨3, .data⟩ (by simp) rfl
   obtain rfl := h.f3 s_3
   go_simp
   exact hK _ _ ⟨_, _, _, _, _, _, _, _, _, _, _, _, _, _, _, _, _, _, rfl, { h with f4 := fun _ => rfl }⟩
  ·have s_4 : S 4 = true := hall ⟨4, .data⟩ (by simp) rfl
   obtain rfl := h.f4 s_4
   go_simp
   exact hK _ _ ⟨_, _, _, _, _, _, _, _, _, _, _, _, _, _, _, _, _, _, rfl, { h with f5 := fun _ => rfl }⟩
  ·go_simp
   exact hK _ _ ⟨_, _, _, _, _, _, _, _, _, _, _, _, _, _, _, _, _, _, rfl, { h with f6 := fun _ => rfl }⟩
  ·have s_6 : S 6 = true := hall ⟨6, .data⟩ (by simp) rfl
   obtain rfl := h.f6 s_6
   go_simp
   exact hK _ _ ⟨_, _, _, _, _, _, _, _, _, _, _, _, _, _, _, _, _, _, rfl, { h with f7 := fun _ => rfl }⟩
  ·have s_7 : S 7 = true := hall ⟨7, .data⟩ (by simp) rfl
   obtain rfl := h.f7 s_7
   go_simp
   exact hK _ _ ⟨_, _, _, _, _, _, _, _, _, _, _, _, _, _, _, _, _, _, rfl, { h with f8 := fun _ => rfl }⟩
  ·go_simp
   exact hK _ _ ⟨_, _, _, _, _, _, _, _, _, _, _, _, _, _, _, _, _, _, rfl, { h with f9 := fun _ => rfl }⟩
  ·have s_9 : S 9 = true := hall ⟨9, .data⟩ (by simp) rfl
   obtain rfl := h.f9 s_9
   go_simp
   exact hK _ _ ⟨_, _, _, _, _, _, _, _, _, _, _, _, _, _, _, _, _, _, rfl, { h with f10 := fun _ => rfl }⟩
  ·have s_10 : S 10 = true := hall ⟨10, .data⟩ (by simp) rfl
   obtain rfl := h.f10 s_10
   go_simp
   exact hK _ _ ⟨_, _, _, _, _, _, _, _, _, _, _, _, _, _, _, _, _, _, rfl, { h with f11 := fun _ => rfl }⟩
  ·go_simp
   exact hK _ _ ⟨_, _, _, _, _, _, _, _, _, _, _, _, _, _, _, _, _, _, rfl, { h with f12 := fun _ => rfl }⟩
  ·have s_12 : S 12 = true := hall ⟨12, .data⟩ (by simp) rfl
   obtain rfl := h.f12 s_12
   go_simp
   exact hK _ _ ⟨_, _, _, _, _, _, _, _, _, _, _, _, _, _, _, _, _, _, rfl, { h with f13 := fun _ => rfl }⟩
  ·have s_13 : S 13 = true := hall ⟨13, .data⟩ (by simp) rfl
   obtain rfl := h.f13 s_13
   go_simp
   exact hK _ _ ⟨_, _, _, _, _, _, _, _, _, _, _, _, _, _, _, _, _, _, rfl, { h with f14 := fun _ => rfl }⟩
  ·have s_2 : S 2 = true := hall ⟨2, .data⟩ (by simp) rfl
   obtain rfl := h.f2 s_2
   have s_5 : S 5 = true := hall ⟨5, .data⟩ (by simp) rfl
   obtain rfl := h.f5 s_5
   have s_8 : S 8 = true := hall ⟨8, .data⟩ (by simp) rfl
   obtain rfl := h.f8 s_8
   have s_11 : S 11 = true := hall ⟨11, .data⟩ (by simp) rfl
   obtain rfl := h.f11 s_11
   have s_14 : S 14 = true := hall ⟨14, .data⟩ (by simp) rfl
   obtain rfl := h.f14 s_14
   go_simp
   have hb5 : Below W.heap.size W (W.alloc (.cells #[.pointer (some ⟨z, 2, none⟩), .pointer (some ⟨z, 3, none⟩), .pointer (some ⟨z, 4, none⟩), .pointer (some ⟨z, 5, none⟩), .pointer (some ⟨z, 6, none⟩)] 132)) := (Below.refl _ _).alloc (Nat.le_refl _) _
   have h1 := h.grow hb5
   exact hK _ _ ⟨_, _, _, _, _, _, _, _, _, _, _, _, _, _, _, _, _, _, rfl, { h1 with f15 := fun _ => ⟨_, rfl, h.e.size, World.alloc_heap_new W _⟩ }⟩
  ·have s_15 : S 15 = true := hall ⟨15, .data⟩ (by simp) rfl
   obtain ⟨g15, rfl, j15, k15⟩ := h.f15 s_15
   go_simp
   exact hK _ _ ⟨_, _, _, _, _, _, _, _, _, _, _, _, _, _, _, _, _, _, rfl, { h with f16 := fun _ => rfl }⟩
  ·go_simp
   exact hK _ _ ⟨_, _, _, _, _, _, _, _, _, _, _, _, _, _, _, _, _, _, rfl, { h with f17 := fun _ => rfl }⟩
 ·rintro S aa W hall ⟨x9, x10, x11, x12, x13, x14, x15, x16, x17, x18, x19, x20, x21, x22, x23, x24, x25, x26, rfl, h⟩
  obtain rfl := h.f0 (hall 0 (by decide))
  obtain rfl := h.f1 (hall 1 (by decide))
  obtain rfl := h.f2 (hall 2 (by decide))
  obtain rfl := h.f3 (hall 3 (by decide))
  obtain rfl := h.f4 (hall 4 (by decide))
  obtain rfl := h.f5 (hall 5 (by decide))
  obtain rfl := h.f6 (hall 6 (by decide))
  obtain rfl := h.f7 (hall 7 (by decide))
  obtain rfl := h.f8 (hall 8 (by decide))
  obtain rfl := h.f9 (hall 9 (by decide))
  obtain rfl := h.f10 (hall 10 (by decide))
  obtain rfl := h.f11 (hall 11 (by decide))
  obtain rfl := h.f12 (hall 12 (by decide))
  obtain rfl := h.f13 (hall 13 (by decide))
  obtain rfl := h.f14 (hall 14 (by decide))
  obtain ⟨g, rfl, j1, j2⟩ := h.f15 (hall 15 (by decide))
  obtain rfl := h.f16 (hall 16 (by decide))
  obtain rfl := h.f17 (hall 17 (by decide))
  have BW := h.e
  clear h hall
  obtain ⟨BV, hx, hy, hs⟩ := HV.out
  have xW : Bq z 29 #[.int .u64 (s : Int), .int .u64 (u : Int), .string p, .string t, .string b, .string ea, .string ra, .int .u64 (m : Int), .slice a N c] W := (BW.block z (by omega)).trans hx
  have yW : Bq (z + 1) 29 #[.int .u64 0, .int .u64 0, .string ⟨#[]⟩, .string ⟨#[]⟩, .string ⟨#[]⟩, .string ⟨#[]⟩, .string ⟨#[]⟩, .int .u64 0, .slice none 0 0] W := (BW.block (z + 1) (by omega)).trans hy
  have BzW : Below z w W := BV.trans (BW.mono (by omega))
  have hg : z + 2 ≤ g := by omega
  clear BW BV hx hy hs j1
  go_wp2_with fail
  go_loopg [26] 5 (fun gk i wr => ∃ k : Nat, k + gk = 5 ∧ i = .int .i64 k ∧ Bq z 29 #[.int .u64 (s : Int), .int .u64 (u : Int), .string p, .string t, .string b, .string ea, .string ra, .int .u64 (m : Int), .slice a N c] wr ∧ Bq (z + 1) 29 #[.int .u64 0, .int .u64 0, .string ⟨#[]⟩, .string ⟨#[]⟩, .string ⟨#[]⟩, .string ⟨#[]⟩, .string ⟨#[]⟩, .int .u64 0, .slice none 0 0] wr ∧ wr.heap[g]? = some (.cells #[.pointer (some ⟨z, 2, none⟩), .pointer (some ⟨z, 3, none⟩), .pointer (some ⟨z, 4, none⟩), .pointer (some ⟨z, 5, none⟩), .pointer (some ⟨z, 6, none⟩)] 132 (0, 0)) ∧ Below z w wr)
  case atStart => exact ⟨0, by omega, rfl, xW, yW, j2, BzW⟩
  case round =>
   clear xW yW j2 BzW
   obtain ⟨k, hk, rfl, hx, hy, hj, hB⟩ := hrel
   have hlt := hx.lt
   have hgt := (Array.getElem?_eq_some_iff.1 hj).1
   by_cases hlt5 : k < 5
   ·have hcase : k = 0 ∨ k = 1 ∨ k = 2 ∨ k = 3 ∨ k = 4 := by omega
    rcases hcase with rfl | rfl | rfl | rfl | rfl
    ·have c1 : wr.cell? ⟨g, 0, none⟩ = some (.pointer (some ⟨z, 2, none⟩)) := by rw [Lib.cell_of_heap hj]; rfl
     have c2 : wr.cell? ⟨z, 2, none⟩ = some (.string p) := by rw [hx.cell 2]; rfl
     have l0 : (((0 : Nat) : Int) < 5) = True := by simp
     have HX : Hid (_ ∧ _ ∧ _ ∧ _) := ⟨hx, hy, hj, hB⟩
     clear hx hy hj hB
     go_wp2_with fail
     refine (K1 _).mono ?_
     rintro e w3 ⟨rfl, B3⟩
     obtain ⟨hx, hy, hj, hB⟩ := HX.out
     have x3 := hx.below B3
     have f3 := x3.fr 2
     have c3 : w3.cell? ⟨z, 2, none⟩ = some (.string p) := by rw [x3.cell 2]; rfl
     have x4 : Bq z 29 #[.int .u64 (s : Int), .int .u64 (u : Int), .string p, .string t, .string b, .string ea, .string ra, .int .u64 (m : Int), .slice a N c] (w3.setCell ⟨z, 2, none⟩ (.string p)) := heap_setCell_self x3 2 (.string p)
     have y4 := (hy.below B3).other (k := z) (by omega) 2 (.string p)
     have j4 : (w3.setCell ⟨z, 2, none⟩ (.string p)).heap[g]? = some (.cells #[.pointer (some ⟨z, 2, none⟩), .pointer (some ⟨z, 3, none⟩), .pointer (some ⟨z, 4, none⟩), .pointer (some ⟨z, 5, none⟩), .pointer (some ⟨z, 6, none⟩)] 132 (0, 0)) := (Below.heap_setCell _ _ _ _ (show g ≠ z by omega)).trans ((B3.block _ hgt).trans hj)
     have b4 : Below z w (w3.setCell ⟨z, 2, none⟩ (.string p)) := (belowStep hB (by omega) B3).setCell (p := ⟨z, 2, none⟩) (Nat.le_refl _) _
     have HY : Hid (_ ∧ _ ∧ _ ∧ _) := ⟨x4, y4, j4, b4⟩
     clear x3 x4 y4 j4 b4 hx hy hj hB B3 HX
     go_wp2
     go_roundg (gk - 1)
     case measure => omega
     case rel => exact ⟨1, by omega, rfl, HY.out.1, HY.out.2.1, HY.out.2.2.1, HY.out.2.2.2⟩
    ·have c1 : wr.cell? ⟨g, 1, none⟩ = some (.pointer (some ⟨z, 3, none⟩)) := by rw [Lib.cell_of_heap hj]; rfl
     have c2 : wr.cell? ⟨z, 3, none⟩ = some (.string t) := by rw [hx.cell 3]; rfl
     have l0 : (((1 : Nat) : Int) < 5) = True := by simp
     have HX : Hid (_ ∧ _ ∧ _ ∧ _) := ⟨hx, hy, hj, hB⟩
     clear hx hy hj hB
     go_wp2_with fail
     refine (K2 _).mono ?_
     rintro e w3 ⟨rfl, B3⟩
     obtain ⟨hx, hy, hj, hB⟩ := HX.out
     have x3 := hx.below B3
     have f3 := x3.fr 3
     have c3 : w3.cell? ⟨z, 3, none⟩ = some (.string t) := by rw [x3.cell 3]; rfl
     have x4 : Bq z 29 #[.int .u64 (s : Int), .int .u64 (u : Int), .string p, .string t, .string b, .string ea, .string ra, .int .u64 (m : Int), .slice a N c] (w3.setCell ⟨z, 3, none⟩ (.string t)) := heap_setCell_self x3 3 (.string t)
     have y4 := (hy.below B3).other (k := z) (by omega) 3 (.string t)
     have j4 : (w3.setCell ⟨z, 3, none⟩ (.string t)).heap[g]? = some (.cells #[.pointer (some ⟨z, 2, none⟩), .pointer (some ⟨z, 3, none⟩), .pointer (some ⟨z, 4, none⟩), .pointer (some ⟨z, 5, none⟩), .pointer (some ⟨z, 6, none⟩)] 132 (0, 0)) := (Below.heap_setCell _ _ _ _ (show g ≠ z by omega)).trans ((B3.block _ hgt).trans hj)
     have b4 : Below z w (w3.setCell ⟨z, 3, none⟩ (.string t)) := (belowStep hB (by omega) B3).setCell (p := ⟨z, 3, none⟩) (Nat.le_refl _) _
     have HY : Hid (_ ∧ _ ∧ _ ∧ _) := ⟨x4, y4, j4, b4⟩
     clear x3 x4 y4 j4 b4 hx hy hj hB B3 HX
     go_wp2
     go_roundg (gk - 1)
     case measure => omega
     case rel => exact ⟨2, by omega, rfl, HY.out.1, HY.out.2.1, HY.out.2.2.1, HY.out.2.2.2⟩
    ·have c1 : wr.cell? ⟨g, 2, none⟩ = some (.pointer (some ⟨z, 4, none⟩)) := by rw [Lib.cell_of_heap hj]; rfl
     have c2 : wr.cell? ⟨z, 4, none⟩ = some (.string b) := by rw [hx.cell 4]; rfl
     have l0 : (((2 : Nat) : Int) < 5) = True := by simp
     have HX : Hid (_ ∧ _ ∧ _ ∧ _) := ⟨hx, hy, hj, hB⟩
     clear hx hy hj hB
     go_wp2_with fail
     refine (K3 _).mono ?_
     rintro e w3 ⟨rfl, B3⟩
     obtain ⟨hx, hy, hj, hB⟩ := HX.out
     have x3 := hx.below B3
     have f3 := x3.fr 4
     have c3 : w3.cell? ⟨z, 4, none⟩ = some (.string b) := by rw [x3.cell 4]; rfl
     have x4 : Bq z 29 #[.int .u64 (s : Int), .int .u64 (u : Int), .string p, .string t, .string b, .string ea, .string ra, .int .u64 (m : Int), .slice a N c] (w3.setCell ⟨z, 4, none⟩ (.string b)) := heap_setCell_self x3 4 (.string b)
     have y4 := (hy.below B3).other (k := z) (by omega) 4 (.string b)
     have j4 : (w3.setCell ⟨z, 4, none⟩ (.string b)).heap[g]? = some (.cells #[.pointer (some ⟨z, 2, none⟩), .pointer (some ⟨z, 3, none⟩), .pointer (some ⟨z, 4, none⟩), .pointer (some ⟨z, 5, none⟩), .pointer (some ⟨z, 6, none⟩)] 132 (0, 0)) := (Below.heap_setCell _ _ _ _ (show g ≠ z by omega)).trans ((B3.block _ hgt).trans hj)
     have b4 : Below z w (w3.setCell ⟨z, 4, none⟩ (.string b)) := (belowStep hB (by omega) B3).setCell (p := ⟨z, 4, none⟩) (Nat.le_refl _) _
     have HY : Hid (_ ∧ _ ∧ _ ∧ _) := ⟨x4, y4, j4, b4⟩
     clear x3 x4 y4 j4 b4 hx hy hj hB B3 HX
     go_wp2
     go_roundg (gk - 1)
     case measure => omega
     case rel => exact ⟨3, by omega, rfl, HY.out.1, HY.out.2.1, HY.out.2.2.1, HY.out.2.2.2⟩
    ·have c1 : wr.cell? ⟨g, 3, none⟩ = some (.pointer (some ⟨z, 5, none⟩)) := by rw [Lib.cell_of_heap hj]; rfl
     have c2 : wr.cell? ⟨z, 5, none⟩ = some (.string ea) := by rw [hx.cell 5]; rfl
     have l0 : (((3 : Nat) : Int) < 5) = True := by simp
     have HX : Hid (_ ∧ _ ∧ _ ∧ _) := ⟨hx, hy, hj, hB⟩
     clear hx hy hj hB
     go_wp2_with fail
     refine (K4 _).mono ?_
     rintro e w3 ⟨rfl, B3⟩
     obtain ⟨hx, hy, hj, hB⟩ := HX.out
     have x3 := hx.below B3
     have f3 := x3.fr 5
     have c3 : w3.cell? ⟨z, 5, none⟩ = some (.string ea) := by rw [x3.cell 5]; rfl
     have x4 : Bq z 29 #[.int .u64 (s : Int), .int .u64 (u : Int), .string p, .string t, .string b, .string ea, .string ra, .int .u64 (m : Int), .slice a N c] (w3.setCell ⟨z, 5, none⟩ (.string ea)) := heap_setCell_self x3 5 (.string ea)
     have y4 := (hy.below B3).other (k := z) (by omega) 5 (.string ea)
     have j4 : (w3.setCell ⟨z, 5, none⟩ (.string ea)).heap[g]? = some (.cells #[.pointer (some ⟨z, 2, none⟩), .pointer (some ⟨z, 3, none⟩), .pointer (some ⟨z, 4, none⟩), .pointer (some ⟨z, 5, none⟩), .pointer (some ⟨z, 6, none⟩)] 132 (0, 0)) := (Below.heap_setCell _ _ _ _ (show g ≠ z by omega)).trans ((B3.block _ hgt).trans hj)
     have b4 : Below z w (w3.setCell ⟨z, 5, none⟩ (.string ea)) := (belowStep hB (by omega) B3).setCell (p := ⟨z, 5, none⟩) (Nat.le_refl _) _
     have HY : Hid (_ ∧ _ ∧ _ ∧ _) := ⟨x4, y4, j4, b4⟩
     clear x3 x4 y4 j4 b4 hx hy hj hB B3 HX
     go_wp2
     go_roundg (gk - 1)
     case measure => omega
     case rel => exact ⟨4, by omega, rfl, HY.out.1, HY.out.2.1, HY.out.2.2.1, HY.out.2.2.2⟩
    ·have c1 : wr.cell? ⟨g, 4, none⟩ = some (.pointer (some ⟨z, 6, none⟩)) := by rw [Lib.cell_of_heap hj]; rfl
     have c2 : wr.cell? ⟨z, 6, none⟩ = some (.string ra) := by rw [hx.cell 6]; rfl
     have l0 : (((4 : Nat) : Int) < 5) = True := by simp
     have HX : Hid (_ ∧ _ ∧ _ ∧ _) := ⟨hx, hy, hj, hB⟩
     clear hx hy hj hB
     go_wp2_with fail
     refine (K5 _).mono ?_
     rintro e w3 ⟨rfl, B3⟩
     obtain ⟨hx, hy, hj, hB⟩ := HX.out
     have x3 := hx.below B3
     have f3 := x3.fr 6
     have c3 : w3.cell? ⟨z, 6, none⟩ = some (.string ra) := by rw [x3.cell 6]; rfl
     have x4 : Bq z 29 #[.int .u64 (s : Int), .int .u64 (u : Int), .string p, .string t, .string b, .string ea, .string ra, .int .u64 (m : Int), .slice a N c] (w3.setCell ⟨z, 6, none⟩ (.string ra)) := heap_setCell_self x3 6 (.string ra)
     have y4 := (hy.below B3).other (k := z) (by omega) 6 (.string ra)
     have j4 : (w3.setCell ⟨z, 6, none⟩ (.string ra)).heap[g]? = some (.cells #[.pointer (some ⟨z, 2, none⟩), .pointer (some ⟨z, 3, none⟩), .pointer (some ⟨z, 4, none⟩), .pointer (some ⟨z, 5, none⟩), .pointer (some ⟨z, 6, none⟩)] 132 (0, 0)) := (Below.heap_setCell _ _ _ _ (show g ≠ z by omega)).trans ((B3.block _ hgt).trans hj)
     have b4 : Below z w (w3.setCell ⟨z, 6, none⟩ (.string ra)) := (belowStep hB (by omega) B3).setCell (p := ⟨z, 6, none⟩) (Nat.le_refl _) _
     have HY : Hid (_ ∧ _ ∧ _ ∧ _) := ⟨x4, y4, j4, b4⟩
     clear x3 x4 y4 j4 b4 hx hy hj hB B3 HX
     go_wp2
     go_roundg (gk - 1)
     case measure => omega
     case rel => exact ⟨5, by omega, rfl, HY.out.1, HY.out.2.1, HY.out.2.2.1, HY.out.2.2.2⟩
   ·obtain rfl : k = 5 := by omega
    have HX : Hid (_ ∧ _ ∧ _ ∧ _) := ⟨hx, hy, hj, hB⟩
    have c8 : wr.cell? ⟨z, 8, none⟩ = some (.slice a N c) := by rw [hx.cell 8]; rfl
    clear hx hy hj hB
    go_wp2_with fail
    refine (KT wr HX.out.2.2.2).mono ?_
    rintro e w4 ⟨⟨v, rfl, ho⟩, B4⟩
    obtain ⟨hx, hy, hj, hB⟩ := HX.out
    obtain ⟨v1, v2, rfl⟩ := owns_slice ho
    have x4 := hx.below B4
    have y4 := hy.below B4
    have f4 := x4.fr 8
    have c9 : w4.cell? ⟨z, 8, none⟩ = some (.slice a N c) := by rw [x4.cell 8]; rfl
    have x5 : Bq z 29 #[.int .u64 (s : Int), .int .u64 (u : Int), .string p, .string t, .string b, .string ea, .string ra, .int .u64 (m : Int), .slice v1 N v2] (w4.setCell ⟨z, 8, none⟩ (.slice v1 N v2)) := heap_setCell_self x4 8 (.slice v1 N v2)
    have y5 := y4.other (k := z) (by omega) 8 (.slice v1 N v2)
    have b5 : Below z w (w4.setCell ⟨z, 8, none⟩ (.slice v1 N v2)) := (belowStep hB (by omega) B4).setCell (p := ⟨z, 8, none⟩) (Nat.le_refl _) _
    have hk5 : ∀ b, wr.heap.size ≤ b → b < w4.heap.size → (w4.setCell ⟨z, 8, none⟩ (.slice v1 N v2)).heap[b]? = w4.heap[b]? := fun b hb _ => Below.heap_setCell _ _ _ _ (show b ≠ z by omega)
    have hs5 : w4.heap.size ≤ (w4.setCell ⟨z, 8, none⟩ (.slice v1 N v2)).heap.size := by simp [World.setCell]
    have HY : Hid (_ ∧ _ ∧ _ ∧ _ ∧ _ ∧ _) := ⟨x5, y5, b5, hk5, hs5, ho⟩
    have x5h : (w4.setCell ⟨z, 8, none⟩ (.slice v1 N v2)).heap[z]? = some (.cells #[.int .u64 (s : Int), .int .u64 (u : Int), .string p, .string t, .string b, .string ea, .string ra, .int .u64 (m : Int), .slice v1 N v2] 29 (0, 0)) := x5
    have y5h : (w4.setCell ⟨z, 8, none⟩ (.slice v1 N v2)).heap[z + 1]? = some (.cells #[.int .u64 0, .int .u64 0, .string ⟨#[]⟩, .string ⟨#[]⟩, .string ⟨#[]⟩, .string ⟨#[]⟩, .string ⟨#[]⟩, .int .u64 0, .slice none 0 0] 29 (0, 0)) := y5
    clear x4 y4 x5 y5 b5 hk5 hs5 ho hx hy hj hB B4 HX
    go_wp2_with (first
     | (refine wpList_load_row rfl 29 _ rfl z rfl _ _ _ _ x5h Tryz.underlying29 rfl (by kernel_rfl) ?_)
     | (refine store_row0 rfl rfl 29 _ _ rfl (z + 1) _ rfl rfl 29 _ y5h (by kernel_rfl) rfl (by simp [Value.oneCell']) ?_))
    obtain ⟨x5, y5, b5, hk5, hs5, ho⟩ := HY.out
    have r9 := y5.row #[.int .u64 (s : Int), .int .u64 (u : Int), .string p, .string t, .string b, .string ea, .string ra, .int .u64 (m : Int), .slice v1 N v2]
    have b9 := below_row b5 (show z ≤ z + 1 by omega) #[.int .u64 (s : Int), .int .u64 (u : Int), .string p, .string t, .string b, .string ea, .string ra, .int .u64 (m : Int), .slice v1 N v2]
    have hN := HN.out
    obtain ⟨xs, hxs⟩ : ∃ xs : List Value, br.map .string = xs := ⟨_, rfl⟩
    refine bodyPost_ret (results_cell_row rfl _ _ (z + 1) 29 _ (0, 0) _ rfl r9 Tryz.underlying29 rfl (by kernel_rfl)) rfl ⟨⟨⟨v1, v2⟩, rfl, ?_⟩, ?_⟩
    ·subst hN
     refine slG.mono (slS_put ho (by rw [size_setRow]; exact hs5) fun b hb hbl => ?_) (by have := HZ.out; omega)
     rw [setRow_other _ _ _ _ (by omega)]
     exact hk5 b hb hbl
    ·rw [HZ.out]
     exact b9
end Go.Proofs.YtoddangedbefgaaGreatDoor
namespace Go.Proofs.YtoddangedbefgaaGreatDoor
open Go.RowKit Go.Shelf Go.Sort

def szC (d : CmD) : Prop := szS d.ks ∧ d.sm.size ≤ 281474976710656
def szU (d : UpD) : Prop := szL d.l ∧ szC d.c ∧ szS d.nb ∧ szL d.f ∧ szS d.fb ∧ d.sig.size ≤ 281474976710656
def upG (n : Nat) (W : World) (d : UpD) (q : UpP) : Prop := slG n W q.l.a d.l.br ∧ slG n W q.c.a d.c.ks ∧ slG n W q.nb.a d.nb ∧ slG n W q.f.a d.f.br ∧ slG n W q.fb.a d.fb
theorem upG.keep {n : Nat} {W W' : World} {d : UpD} {q : UpP} (h : upG n W d q) (hs : W.heap.size ≤ W'.heap.size) (hW : ∀ b, n ≤ b → b < W.heap.size → W'.heap[b]? = W.heap[b]?) : upG n W' d q := ⟨h.1.keep hs hW, h.2.1.keep hs hW, h.2.2.1.keep hs hW, h.2.2.2.1.keep hs hW, h.2.2.2.2.keep hs hW⟩
theorem upG.upIn {n : Nat} {W : World} {d : UpD} {q : UpP} (h : upG n W d q) : upIn W.heap.size W d q := ⟨h.1.slS, h.2.1.slS, h.2.2.1.slS, h.2.2.2.1.slS, h.2.2.2.2.slS⟩
theorem upG.mono {n m : Nat} {W : World} {d : UpD} {q : UpP} (h : upG n W d q) (hm : m ≤ n) : upG m W d q := ⟨h.1.mono hm, h.2.1.mono hm, h.2.2.1.mono hm, h.2.2.2.1.mono hm, h.2.2.2.2.mono hm⟩
theorem upG.grow {n : Nat} {W W' : World} {d : UpD} {q : UpP} (h : upG n W d q) (hb : Below W.heap.size W W') : upG n W' d q := h.keep hb.size fun b _ hb2 => hb.block b hb2
theorem copiedTexts_G (xs : List ByteArray) (hz : szS xs) (q : Pl) (n : Nat) (w : World) (hn : n ≤ w.heap.size) (hp : slS n w q.a xs) :
  Calls Tryz.prog 108 #[slV xs q] w fun e w' => (∃ q', e = .returned (slV xs q') ∧ slG w.heap.size w' q'.a xs) ∧ Below w.heap.size w w' := by
 refine (copiedTexts_any xs hz q.a q.c n w hn hp).mono ?_
 rintro e w' ⟨⟨v, rfl, h⟩, hb⟩
 obtain ⟨a, c, rfl⟩ := owns_slice h
 exact ⟨⟨⟨a, c⟩, rfl, slG_of h⟩, hb⟩
structure Mu_u1 (V : World) (d : UpD) (Ya Yb : List Value) (z : Nat) (S : Nat → Bool) (x3 x4 x5 x6 x7 x8 x9 : Value) (W : World) : Prop where
 e : Below V.heap.size V W
 f0 : S 0 = true → x3 = .pointer (some ⟨z, 0, none⟩)
 f1 : S 1 = true → x4 = .agg Ya.toArray
 f2 : S 2 = true → ∃ q1 : Pl, x5 = .agg (ltV d.l q1).toArray ∧ slG V.heap.size W q1.a d.l.br
 f3 : S 3 = true → x6 = .pointer (some ⟨z, 12, none⟩)
 f4 : S 4 = true → x7 = .agg Yb.toArray
 f5 : S 5 = true → ∃ q1 : Pl, x8 = .agg (ltV d.f q1).toArray ∧ slG V.heap.size W q1.a d.f.br
 f6 : S 6 = true → x9 = .pointer (some ⟨z, 0, none⟩)
theorem Mu_u1.grow {V : World} {d : UpD} {Ya Yb : List Value} {z : Nat} {S : Nat → Bool} {x3 x4 x5 x6 x7 x8 x9 : Value} {W W' : World} (h : Mu_u1 V d Ya Yb z S x3 x4 x5 x6 x7 x8 x9 W) (hb : Below W.heap.size W W') : Mu_u1 V d Ya Yb z S x3 x4 x5 x6 x7 x8 x9 W' :=
 ⟨belowStep h.e h.e.size hb, h.f0, h.f1, fun s => (h.f2 s).imp fun _ ⟨j0, j1⟩ => ⟨j0, j1.grow hb⟩, h.f3, h.f4, fun s => (h.f5 s).imp fun _ ⟨j0, j1⟩ => ⟨j0, j1.grow hb⟩, h.f6⟩
structure Mu_u2 (W4 : World) (d : UpD) (vd ve : Value) (z : Nat) (S : Nat → Bool) (x15 x16 x17 x18 x19 x20 x21 : Value) (W : World) : Prop where
 e : Below W4.heap.size W4 W
 f0 : S 0 = true → x15 = .pointer (some ⟨z, 11, none⟩)
 f1 : S 1 = true → x16 = vd
 f2 : S 2 = true → ∃ q1 : Pl, x17 = slV d.nb q1 ∧ slG W4.heap.size W q1.a d.nb
 f3 : S 3 = true → x18 = .pointer (some ⟨z, 21, none⟩)
 f4 : S 4 = true → x19 = ve
 f5 : S 5 = true → ∃ q1 : Pl, x20 = slV d.fb q1 ∧ slG W4.heap.size W q1.a d.fb
 f6 : S 6 = true → x21 = .pointer (some ⟨z, 11, none⟩)
theorem Mu_u2.grow {W4 : World} {d : UpD} {vd ve : Value} {z : Nat} {S : Nat → Bool} {x15 x16 x17 x18 x19 x20 x21 : Value} {W W' : World} (h : Mu_u2 W4 d vd ve z S x15 x16 x17 x18 x19 x20 x21 W) (hb : Below W.heap.size W W') : Mu_u2 W4 d vd ve z S x15 x16 x17 x18 x19 x20 x21 W' :=
 ⟨belowStep h.e h.e.size hb, h.f0, h.f1, fun s => (h.f2 s).imp fun _ ⟨j0, j1⟩ => ⟨j0, j1.grow hb⟩, h.f3, h.f4, fun s => (h.f5 s).imp fun _ ⟨j0, j1⟩ => ⟨j0, j1.grow hb⟩, h.f6⟩
set_option maxRecDepth 20000 in
set_option maxHeartbeats 4000000 in
theorem copiedUpd_any (d : UpD) (hz : szU d) (q : UpP) (n : Nat) (w : World) (hn : n ≤ w.heap.size) (hp : upIn n w d q) :
  Calls Tryz.prog 70 #[.agg (upV d q).toArray] w fun e w' => (∃ q', e = .returned (.agg (upV d q').toArray) ∧ upG w.heap.size w' d q') ∧ Below w.heap.size w w' := by
 obtain ⟨z, hzz⟩ : ∃ z, w.heap.size = z := ⟨_, rfl⟩
 have HZ : Hid (w.heap.size = z) := hzz
 obtain ⟨BV, hx, hy, hs⟩ := box2 w (.cells (upV d q).toArray 36) (.cells #[.int .u64 0, .int .u64 0, .string ⟨#[]⟩, .string ⟨#[]⟩, .string ⟨#[]⟩, .string ⟨#[]⟩, .string ⟨#[]⟩, .int .u64 0, .slice none 0 0, .slice none 0 0, .string ⟨#[]⟩, .slice none 0 0, .int .u64 0, .int .u64 0, .string ⟨#[]⟩, .string ⟨#[]⟩, .string ⟨#[]⟩, .string ⟨#[]⟩, .string ⟨#[]⟩, .int .u64 0, .slice none 0 0, .slice none 0 0, .int .u64 0, .string ⟨#[]⟩, .int .u64 0] 36)
 obtain ⟨V, hV⟩ : ∃ V, (w.alloc (.cells (upV d q).toArray 36)).alloc (.cells #[.int .u64 0, .int .u64 0, .string ⟨#[]⟩, .string ⟨#[]⟩, .string ⟨#[]⟩, .string ⟨#[]⟩, .string ⟨#[]⟩, .int .u64 0, .slice none 0 0, .slice none 0 0, .string ⟨#[]⟩, .slice none 0 0, .int .u64 0, .int .u64 0, .string ⟨#[]⟩, .string ⟨#[]⟩, .string ⟨#[]⟩, .string ⟨#[]⟩, .string ⟨#[]⟩, .int .u64 0, .slice none 0 0, .slice none 0 0, .int .u64 0, .string ⟨#[]⟩, .int .u64 0] 36) = V := ⟨_, rfl⟩
 rw [hV] at BV hx hy hs
 rw [hzz] at BV hx hy hs hn
 have R1 := range_of_block hx 0 (ltV d.l q.l) (upV_l d q)
 have R2 := range_of_block hx 12 (ltV d.f q.f) (upV_f d q)
 have KA := fun (W : World) (hB : Below V.heap.size V W) => copiedLight_any d.l hz.1 q.l n W (by have := hB.size; omega) (slS_below ((BV.trans (hB.mono (by omega))).mono hn) hp.1)
 have KB := fun (W : World) (hB : Below V.heap.size V W) => copiedLight_any d.f hz.2.2.2.1 q.f n W (by have := hB.size; omega) (slS_below ((BV.trans (hB.mono (by omega))).mono hn) hp.2.2.2.1)
 have h9 : Hid ((ltV d.l q.l).length = 9 ∧ (ltV d.f q.f).length = 9) := show _ from ⟨rfl, rfl⟩
 have hzV : z < V.heap.size := by omega
 have HX : Hid (_ ∧ _ ∧ _ ∧ _ ∧ _ ∧ _ ∧ _) := ⟨BV, hx, hy, hs, hn, hp, hz⟩
 obtain ⟨Ya, hYa⟩ : ∃ L, ltV d.l q.l = L := ⟨_, rfl⟩
 obtain ⟨Yb, hYb⟩ : ∃ L, ltV d.f q.f = L := ⟨_, rfl⟩
 obtain ⟨L, hL⟩ : ∃ L, (upV d q).toArray = L := ⟨_, rfl⟩
 rw [hYa] at R1 KA h9
 rw [hYb] at R2 KB h9
 rw [hL]
 rw [hL] at hV
 have HL : Hid (_ ∧ _ ∧ _) := ⟨hYa, hYb, hL⟩
 clear BV hx hy hs hn hp hz hYa hYb hL
 go_enter Tryz.func70, Tryz.ntmps70
 go_wp2_with fail
 first | rw [hzz] | skip
 first | rw [hV] | skip
 clear hzz hV
 refine region_inv_tail 7 (fun S aa W => ∃ x3 x4 x5 x6 x7 x8 x9 : Value, aa = { tmps := #[Value.agg L, Value.pointer (some { block := z, off := 0 }), Value.pointer (some { block := z + 1, off := 0 }), x3, x4, x5, x6, x7, x8, x9, undef, undef, undef, undef, undef, undef, undef, undef, undef, undef, undef, undef, undef, undef, undef, undef, undef, undef], defers := [] } ∧ Mu_u1 V d Ya Yb z S x3 x4 x5 x6 x7 x8 x9 W) (by kernel_rfl) (by kernel_rfl) ?_ ?_ ?_
 ·exact ⟨undef, undef, undef, undef, undef, undef, undef, rfl, ⟨(Below.refl _ V).drew, nofun, nofun, nofun, nofun, nofun, nofun, nofun⟩⟩
 ·intro i o S aa W hin hi hun hJ hall K hK
  obtain ⟨x3, x4, x5, x6, x7, x8, x9, rfl, h⟩ := hJ
  have hlt : i < 7 := hin
  have hcase : i = 0 ∨ i = 1 ∨ i = 2 ∨ i = 3 ∨ i = 4 ∨ i = 5 ∨ i = 6 := by omega
  rcases hcase with rfl | rfl | rfl | rfl | rfl | rfl | rfl
  all_goals (have ho := (Option.some.inj hi).symm; subst ho; clear hi hlt hin)
  ·go_simp
   exact hK _ _ ⟨_, _, _, _, _, _, _, rfl, { h with f0 := fun _ => rfl }⟩
  ·have s_0 : S 0 = true := hall ⟨0, .data⟩ (by simp) rfl
   obtain rfl := h.f0 s_0
   have cW : W.rangeAt z 0 Ya := fun j v hj => (h.e.cell (p := ⟨z, 0 + j, none⟩) hzV).trans (R1 j v hj)
   (rw [if_pos (by kernel_rfl)]; refine wp_load_mid 29 _ rfl z 0 rfl _ _ cW Tryz.underlying29 rfl (by rw [h9.out.1]; kernel_rfl) ?_)
   exact hK _ _ ⟨_, _, _, _, _, _, _, rfl, { h with f1 := fun _ => rfl }⟩
  ·have s_1 : S 1 = true := hall ⟨1, .data⟩ (by simp) rfl
   obtain rfl := h.f1 s_1
   go_simp
   refine (KA W h.e).mono ?_
   rintro e w5 ⟨⟨q5, rfl, g5⟩, hb5⟩
   have h1 := h.grow hb5
   exact hK _ _ ⟨_, _, _, _, _, _, _, rfl, { h1 with f2 := fun _ => ⟨q5, rfl, g5.mono h.e.size⟩ }⟩
  ·go_simp
   exact hK _ _ ⟨_, _, _, _, _, _, _, rfl, { h with f3 := fun _ => rfl }⟩
  ·have s_3 : S 3 = true := hall ⟨3, .data⟩ (by simp) rfl
   obtain rfl := h.f3 s_3
   have cW : W.rangeAt z 12 Yb := fun j v hj => (h.e.cell (p := ⟨z, 12 + j, none⟩) hzV).trans (R2 j v hj)
   (rw [if_pos (by kernel_rfl)]; refine wp_load_mid 29 _ rfl z 12 rfl _ _ cW Tryz.underlying29 rfl (by rw [h9.out.2]; kernel_rfl) ?_)
   exact hK _ _ ⟨_, _, _, _, _, _, _, rfl, { h with f4 := fun _ => rfl }⟩
  ·have s_4 : S 4 = true := hall ⟨4, .data⟩ (by simp) rfl
   obtain rfl := h.f4 s_4
   go_simp
   refine (KB W h.e).mono ?_
   rintro e w5 ⟨⟨q5, rfl, g5⟩, hb5⟩
   have h1 := h.grow hb5
   exact hK _ _ ⟨_, _, _, _, _, _, _, rfl, { h1 with f5 := fun _ => ⟨q5, rfl, g5.mono h.e.size⟩ }⟩
  ·go_simp
   exact hK _ _ ⟨_, _, _, _, _, _, _, rfl, { h with f6 := fun _ => rfl }⟩
 ·rintro S aa W hall ⟨x3, x4, x5, x6, x7, x8, x9, rfl, h⟩
  obtain rfl := h.f0 (hall 0 (by decide))
  obtain rfl := h.f1 (hall 1 (by decide))
  obtain ⟨ra, rfl, ga⟩ := h.f2 (hall 2 (by decide))
  obtain rfl := h.f3 (hall 3 (by decide))
  obtain rfl := h.f4 (hall 4 (by decide))
  obtain ⟨rb, rfl, gb⟩ := h.f5 (hall 5 (by decide))
  obtain rfl := h.f6 (hall 6 (by decide))
  have BWD := h.e
  clear h hall
  obtain ⟨BV, hx, hy, hs, hn, hp, hz⟩ := HX.out
  have xW : Bq z 36 (upV d q).toArray W := (BWD.block z (by omega)).trans hx
  have yW : Bq (z + 1) 36 #[.int .u64 0, .int .u64 0, .string ⟨#[]⟩, .string ⟨#[]⟩, .string ⟨#[]⟩, .string ⟨#[]⟩, .string ⟨#[]⟩, .int .u64 0, .slice none 0 0, .slice none 0 0, .string ⟨#[]⟩, .slice none 0 0, .int .u64 0, .int .u64 0, .string ⟨#[]⟩, .string ⟨#[]⟩, .string ⟨#[]⟩, .string ⟨#[]⟩, .string ⟨#[]⟩, .int .u64 0, .slice none 0 0, .slice none 0 0, .int .u64 0, .string ⟨#[]⟩, .int .u64 0] W := (BWD.block (z + 1) (by omega)).trans hy
  have bW : Below z w W := BV.trans (BWD.mono (by omega))
  have sW : z + 2 ≤ W.heap.size := by have := BWD.size; omega
  rw [show V.heap.size = z + 2 by omega] at ga gb
  have ht1 : W.there z 0 (ltV d.l ra).length := there_of_block xW (by show 0 + 9 ≤ 25; omega)
  have x1 : Bq z 36 (upV d { q with l := ra }).toArray (W.setCells z 0 (ltV d.l ra)) := setCells_block (cmV d.c q.c ++ [slV d.nb q.nb] ++ ltV d.f q.f ++ [slV d.fb q.fb, .int .u64 (d.bits : Int), .string d.sig, .int .u64 (d.slot : Int)]) (ltV d.l ra) (ltV d.l q.l) [] W rfl xW
  have ht2 : (W.setCells z 0 (ltV d.l ra)).there z 12 (ltV d.f rb).length := there_of_block x1 (by show 12 + 9 ≤ 25; omega)
  have x2 : Bq z 36 (upV d { q with l := ra, f := rb }).toArray ((W.setCells z 0 (ltV d.l ra)).setCells z 12 (ltV d.f rb)) := setCells_block [slV d.fb q.fb, .int .u64 (d.bits : Int), .string d.sig, .int .u64 (d.slot : Int)] (ltV d.f rb) (ltV d.f q.f) (ltV d.l ra ++ cmV d.c q.c ++ [slV d.nb q.nb]) _ rfl x1
  have y2 : Bq (z + 1) 36 #[.int .u64 0, .int .u64 0, .string ⟨#[]⟩, .string ⟨#[]⟩, .string ⟨#[]⟩, .string ⟨#[]⟩, .string ⟨#[]⟩, .int .u64 0, .slice none 0 0, .slice none 0 0, .string ⟨#[]⟩, .slice none 0 0, .int .u64 0, .int .u64 0, .string ⟨#[]⟩, .string ⟨#[]⟩, .string ⟨#[]⟩, .string ⟨#[]⟩, .string ⟨#[]⟩, .int .u64 0, .slice none 0 0, .slice none 0 0, .int .u64 0, .string ⟨#[]⟩, .int .u64 0] ((W.setCells z 0 (ltV d.l ra)).setCells z 12 (ltV d.f rb)) := ((setCells_other (show z + 1 ≠ z by omega) _ _ _).trans (setCells_other (show z + 1 ≠ z by omega) _ _ _)).trans yW
  have b2 : Below z w ((W.setCells z 0 (ltV d.l ra)).setCells z 12 (ltV d.f rb)) := below_cells (below_cells bW (Nat.le_refl _) _) (Nat.le_refl _) _
  have hsz2 : ((W.setCells z 0 (ltV d.l ra)).setCells z 12 (ltV d.f rb)).heap.size = W.heap.size := by rw [size_setCellsB, size_setCellsB]
  have ga2 := ga.keep (W' := (W.setCells z 0 (ltV d.l ra)).setCells z 12 (ltV d.f rb)) (by omega) fun b hb _ => (setCells_other (by omega) _ _ _).trans (setCells_other (by omega) _ _ _)
  have gb2 := gb.keep (W' := (W.setCells z 0 (ltV d.l ra)).setCells z 12 (ltV d.f rb)) (by omega) fun b hb _ => (setCells_other (by omega) _ _ _).trans (setCells_other (by omega) _ _ _)
  have H2 : Hid (_ ∧ _ ∧ _ ∧ _ ∧ _ ∧ _) := ⟨x2, y2, b2, (by omega : z + 2 ≤ ((W.setCells z 0 (ltV d.l ra)).setCells z 12 (ltV d.f rb)).heap.size), ga2, gb2⟩
  have HP : Hid (_ ∧ _ ∧ _) := ⟨hn, hp, hz⟩
  clear xW yW bW sW ga gb BV hx hy hs hn hp hz BWD x1 x2 y2 b2 hsz2 ga2 gb2
  refine store_mid0 rfl rfl 29 _ _ rfl z 0 (ltV d.l ra) rfl rfl ht1 (by kernel_rfl) (ltV_one _ _) ?_
  refine wpList_plain rfl (fun K hK => ?_)
  go_simp
  refine hK _ _ ?_
  clear hK K
  refine store_mid0 rfl rfl 29 _ _ rfl z 12 (ltV d.f rb) rfl rfl ht2 (by kernel_rfl) (ltV_one _ _) ?_
  refine wpList_nil ?_
  refine thenOf (fun W => Bq z 36 (upV d { q with l := ra, f := rb }).toArray W ∧ Bq (z + 1) 36 #[.int .u64 0, .int .u64 0, .string ⟨#[]⟩, .string ⟨#[]⟩, .string ⟨#[]⟩, .string ⟨#[]⟩, .string ⟨#[]⟩, .int .u64 0, .slice none 0 0, .slice none 0 0, .string ⟨#[]⟩, .slice none 0 0, .int .u64 0, .int .u64 0, .string ⟨#[]⟩, .string ⟨#[]⟩, .string ⟨#[]⟩, .string ⟨#[]⟩, .string ⟨#[]⟩, .int .u64 0, .slice none 0 0, .slice none 0 0, .int .u64 0, .string ⟨#[]⟩, .int .u64 0] W ∧ Below z w W ∧ z + 2 ≤ W.heap.size ∧ slG (z + 2) W ra.a d.l.br ∧ slG (z + 2) W rb.a d.f.br) H2.out ?_
  rintro W2 ⟨x2, y2, b2, s2, ga, gb⟩
  clear H2 ht1 ht2 HX
  obtain ⟨hn, hp, hz⟩ := HP.out
  have R3 := range_of_block x2 9 (cmV d.c q.c) (upV_c d { q with l := ra, f := rb })
  have KC := copiedComm_any d.c hz.2.1 q.c n W2 (by omega) (slS_below (b2.mono hn) hp.2.1)
  have hc2 : Hid ((cmV d.c q.c).length = 2) := show _ from rfl
  obtain ⟨Yc, hYc⟩ : ∃ L, cmV d.c q.c = L := ⟨_, rfl⟩
  rw [hYc] at R3 KC hc2
  have HYc : Hid _ := hYc
  clear hYc
  have X2 : Hid (_ ∧ _ ∧ _ ∧ _ ∧ _ ∧ _) := ⟨x2, y2, b2, s2, ga, gb⟩
  clear x2 y2 b2 ga gb hn hp hz
  go_wp2_with (refine wpList_load_mid rfl 31 _ rfl z 9 rfl _ _ R3 Tryz.underlying31 rfl (by rw [hc2.out]; kernel_rfl) ?_)
  refine KC.mono ?_
  rintro e w3 ⟨⟨rc, rfl, gc⟩, B3⟩
  obtain ⟨x2, y2, b2, s2, ga, gb⟩ := X2.out
  have x3 := x2.below B3
  have s3 := B3.size
  have ht3 : w3.there z 9 (cmV d.c rc).length := there_of_block x3 (by show 9 + 2 ≤ 25; omega)
  have x4 : Bq z 36 (upV d { q with l := ra, f := rb, c := rc }).toArray (w3.setCells z 9 (cmV d.c rc)) := setCells_block ([slV d.nb q.nb] ++ ltV d.f rb ++ [slV d.fb q.fb, .int .u64 (d.bits : Int), .string d.sig, .int .u64 (d.slot : Int)]) (cmV d.c rc) (cmV d.c q.c) (ltV d.l ra) w3 rfl x3
  have y4 : Bq (z + 1) 36 #[.int .u64 0, .int .u64 0, .string ⟨#[]⟩, .string ⟨#[]⟩, .string ⟨#[]⟩, .string ⟨#[]⟩, .string ⟨#[]⟩, .int .u64 0, .slice none 0 0, .slice none 0 0, .string ⟨#[]⟩, .slice none 0 0, .int .u64 0, .int .u64 0, .string ⟨#[]⟩, .string ⟨#[]⟩, .string ⟨#[]⟩, .string ⟨#[]⟩, .string ⟨#[]⟩, .int .u64 0, .slice none 0 0, .slice none 0 0, .int .u64 0, .string ⟨#[]⟩, .int .u64 0] (w3.setCells z 9 (cmV d.c rc)) := (setCells_other (show z + 1 ≠ z by omega) _ _ _).trans (y2.below B3)
  have b4 : Below z w (w3.setCells z 9 (cmV d.c rc)) := below_cells (belowStep b2 (by omega) B3) (Nat.le_refl _) _
  have hsz4 : (w3.setCells z 9 (cmV d.c rc)).heap.size = w3.heap.size := by rw [size_setCellsB]
  have KG : ∀ (n : Nat) (a : Option Addr) (xs : List ByteArray), z + 2 ≤ n → slG n w3 a xs → slG (z + 2) (w3.setCells z 9 (cmV d.c rc)) a xs := fun n a xs hn h => (h.keep (by omega) fun b hb _ => setCells_other (by omega) _ _ _).mono hn
  have H4 : Hid (_ ∧ _ ∧ _ ∧ _ ∧ _ ∧ _ ∧ _) := ⟨x4, y4, b4, (by omega : z + 2 ≤ (w3.setCells z 9 (cmV d.c rc)).heap.size), KG _ _ _ (Nat.le_refl _) (ga.grow B3), KG _ _ _ (Nat.le_refl _) (gb.grow B3), KG _ _ _ s2 gc⟩
  clear x3 x4 y4 b4 hsz4 KG ga gb gc x2 y2 b2 X2 B3 KC R3 hc2
  go_wp2_with (refine store_mid0 rfl rfl 31 _ _ rfl z 9 (cmV d.c rc) rfl rfl ht3 (by kernel_rfl) (cmV_one _ _) ?_; refine wpList_nil ?_; refine Stp.out ?_)
  refine ⟨?_⟩
  refine thenOf (fun W => Bq z 36 (upV d { q with l := ra, f := rb, c := rc }).toArray W ∧ Bq (z + 1) 36 #[.int .u64 0, .int .u64 0, .string ⟨#[]⟩, .string ⟨#[]⟩, .string ⟨#[]⟩, .string ⟨#[]⟩, .string ⟨#[]⟩, .int .u64 0, .slice none 0 0, .slice none 0 0, .string ⟨#[]⟩, .slice none 0 0, .int .u64 0, .int .u64 0, .string ⟨#[]⟩, .string ⟨#[]⟩, .string ⟨#[]⟩, .string ⟨#[]⟩, .string ⟨#[]⟩, .int .u64 0, .slice none 0 0, .slice none 0 0, .int .u64 0, .string ⟨#[]⟩, .int .u64 0] W ∧ Below z w W ∧ z + 2 ≤ W.heap.size ∧ slG (z + 2) W ra.a d.l.br ∧ slG (z + 2) W rb.a d.f.br ∧ slG (z + 2) W rc.a d.c.ks) H4.out ?_
  rintro W4 ⟨x4, y4, b4, s4, ga, gb, gc⟩
  clear H4 ht3
  obtain ⟨hn, hp, hz⟩ := HP.out
  have c11 : W4.cell? ⟨z, 11, none⟩ = some (slV d.nb q.nb) := cell_of_block x4 11 _ rfl
  have c21 : W4.cell? ⟨z, 21, none⟩ = some (slV d.fb q.fb) := cell_of_block x4 21 _ rfl
  have KD := fun (W : World) (hB : Below W4.heap.size W4 W) => copiedTexts_G d.nb hz.2.2.1 q.nb n W (by have := hB.size; omega) (slS_below ((b4.trans (hB.mono (by omega))).mono hn) hp.2.2.1)
  have KE := fun (W : World) (hB : Below W4.heap.size W4 W) => copiedTexts_G d.fb hz.2.2.2.2.1 q.fb n W (by have := hB.size; omega) (slS_below ((b4.trans (hB.mono (by omega))).mono hn) hp.2.2.2.2)
  have hzV4 : z < W4.heap.size := by omega
  have HX : Hid (_ ∧ _ ∧ _ ∧ _ ∧ _ ∧ _ ∧ _) := ⟨x4, y4, b4, s4, ga, gb, gc⟩
  obtain ⟨vd, hvd⟩ : ∃ v, slV d.nb q.nb = v := ⟨_, rfl⟩
  obtain ⟨ve, hve⟩ : ∃ v, slV d.fb q.fb = v := ⟨_, rfl⟩
  rw [hvd] at c11 KD
  rw [hve] at c21 KE
  clear x4 y4 b4 ga gb gc hn hp hz hvd hve
  go_wp2_with fail
  refine region_inv_tail 7 (fun S aa W => ∃ x15 x16 x17 x18 x19 x20 x21 : Value, aa = { tmps := #[Value.agg L, Value.pointer (some { block := z, off := 0 }), Value.pointer (some { block := z + 1, off := 0 }), Value.pointer (some { block := z, off := 0 }), Value.agg Ya.toArray, Value.agg (ltV d.l ra).toArray, Value.pointer (some { block := z, off := 12 }), Value.agg Yb.toArray, Value.agg (ltV d.f rb).toArray, Value.pointer (some { block := z, off := 0 }), Value.pointer (some { block := z, off := 12 }), Value.pointer (some { block := z, off := 9 }), Value.agg Yc.toArray, Value.agg (cmV d.c rc).toArray, Value.pointer (some { block := z, off := 9 }), x15, x16, x17, x18, x19, x20, x21, undef, undef, undef, undef, undef, undef], defers := [] } ∧ Mu_u2 W4 d vd ve z S x15 x16 x17 x18 x19 x20 x21 W) (by kernel_rfl) (by kernel_rfl) ?_ ?_ ?_
  ·exact ⟨undef, undef, undef, undef, undef, undef, undef, rfl, ⟨(Below.refl _ W4).drew, nofun, nofun, nofun, nofun, nofun, nofun, nofun⟩⟩
  ·intro i o S aa W hin hi hun hJ hall K hK
   obtain ⟨x15, x16, x17, x18, x19, x20, x21, rfl, h⟩ := hJ
   have hlt : i < 7 := hin
   have hcase : i = 0 ∨ i = 1 ∨ i = 2 ∨ i = 3 ∨ i = 4 ∨ i = 5 ∨ i = 6 := by omega
   rcases hcase with rfl | rfl | rfl | rfl | rfl | rfl | rfl
   all_goals (have ho := (Option.some.inj hi).symm; subst ho; clear hi hlt hin)
   ·go_simp
    exact hK _ _ ⟨_, _, _, _, _, _, _, rfl, { h with f0 := fun _ => rfl }⟩
   ·have s_0 : S 0 = true := hall ⟨0, .data⟩ (by simp) rfl
    obtain rfl := h.f0 s_0
    have cW := (h.e.cell (p := ⟨z, 11, none⟩) hzV4).trans c11
    go_simp
    exact hK _ _ ⟨_, _, _, _, _, _, _, rfl, { h with f1 := fun _ => rfl }⟩
   ·have s_1 : S 1 = true := hall ⟨1, .data⟩ (by simp) rfl
    obtain rfl := h.f1 s_1
    go_simp
    refine (KD W h.e).mono ?_
    rintro e w5 ⟨⟨q5, rfl, g5⟩, hb5⟩
    have h1 := h.grow hb5
    exact hK _ _ ⟨_, _, _, _, _, _, _, rfl, { h1 with f2 := fun _ => ⟨q5, rfl, g5.mono h.e.size⟩ }⟩
   ·go_simp
    exact hK _ _ ⟨_, _, _, _, _, _, _, rfl, { h with f3 := fun _ => rfl }⟩
   ·have s_3 : S 3 = true := hall ⟨3, .data⟩ (by simp) rfl
    obtain rfl := h.f3 s_3
    have cW := (h.e.cell (p := ⟨z, 21, none⟩) hzV4).trans c21
    go_simp
    exact hK _ _ ⟨_, _, _, _, _, _, _, rfl, { h with f4 := fun _ => rfl }⟩
   ·have s_4 : S 4 = true := hall ⟨4, .data⟩ (by simp) rfl
    obtain rfl := h.f4 s_4
    go_simp
    refine (KE W h.e).mono ?_
    rintro e w5 ⟨⟨q5, rfl, g5⟩, hb5⟩
    have h1 := h.grow hb5
    exact hK _ _ ⟨_, _, _, _, _, _, _, rfl, { h1 with f5 := fun _ => ⟨q5, rfl, g5.mono h.e.size⟩ }⟩
   ·go_simp
    exact hK _ _ ⟨_, _, _, _, _, _, _, rfl, { h with f6 := fun _ => rfl }⟩
  ·rintro S aa W hall ⟨x15, x16, x17, x18, x19, x20, x21, rfl, h⟩
   obtain rfl := h.f0 (hall 0 (by decide))
   obtain rfl := h.f1 (hall 1 (by decide))
   obtain ⟨rd, rfl, gd⟩ := h.f2 (hall 2 (by decide))
   obtain rfl := h.f3 (hall 3 (by decide))
   obtain rfl := h.f4 (hall 4 (by decide))
   obtain ⟨re, rfl, ge⟩ := h.f5 (hall 5 (by decide))
   obtain rfl := h.f6 (hall 6 (by decide))
   have BWD := h.e
   clear h hall
   obtain ⟨x4, y4, b4, s4, ga, gb, gc⟩ := HX.out
   have x5 : Bq z 36 (upV d { q with l := ra, f := rb, c := rc }).toArray W := x4.below BWD
   have y5 := y4.below BWD
   have s5 := BWD.size
   have b5 := belowStep b4 (by omega) BWD
   have e5 : Bq z 36 (upV d ⟨ra, rc, rd, rb, re⟩).toArray ((W.setCell ⟨z, 11, none⟩ (slV d.nb rd)).setCell ⟨z, 21, none⟩ (slV d.fb re)) := heap_setCell_self (heap_setCell_self x5 11 (slV d.nb rd)) 21 (slV d.fb re)
   have y6 := (y5.other (k := z) (by omega) 11 (slV d.nb rd)).other (k := z) (by omega) 21 (slV d.fb re)
   have b6 : Below z w ((W.setCell ⟨z, 11, none⟩ (slV d.nb rd)).setCell ⟨z, 21, none⟩ (slV d.fb re)) := (b5.setCell (p := ⟨z, 11, none⟩) (Nat.le_refl _) _).setCell (p := ⟨z, 21, none⟩) (Nat.le_refl _) _
   have hsz6 : ((W.setCell ⟨z, 11, none⟩ (slV d.nb rd)).setCell ⟨z, 21, none⟩ (slV d.fb re)).heap.size = W.heap.size := by simp [World.setCell]
   have KG : ∀ (n : Nat) (a : Option Addr) (xs : List ByteArray), z + 2 ≤ n → slG n W a xs → slG (z + 2) ((W.setCell ⟨z, 11, none⟩ (slV d.nb rd)).setCell ⟨z, 21, none⟩ (slV d.fb re)) a xs := fun n a xs hn h => (h.keep (by omega) fun b hb _ => (Below.heap_setCell _ _ _ _ (show b ≠ z by omega)).trans (Below.heap_setCell _ _ _ _ (show b ≠ z by omega))).mono hn
   have G6 : upG (z + 2) ((W.setCell ⟨z, 11, none⟩ (slV d.nb rd)).setCell ⟨z, 21, none⟩ (slV d.fb re)) d ⟨ra, rc, rd, rb, re⟩ := ⟨KG _ _ _ (Nat.le_refl _) (ga.grow BWD), KG _ _ _ (Nat.le_refl _) (gc.grow BWD), KG _ _ _ s4 gd, KG _ _ _ (Nat.le_refl _) (gb.grow BWD), KG _ _ _ s4 ge⟩
   have f0 := x5.fr
   have c0 : W.cell? ⟨z, 11, none⟩ = some (slV d.nb q.nb) := cell_of_block x5 11 _ rfl
   have c1 : W.cell? ⟨z, 21, none⟩ = some (slV d.fb q.fb) := cell_of_block x5 21 _ rfl
   have c2 : W.cell? ⟨z, 23, none⟩ = some (.string d.sig) := cell_of_block x5 23 _ rfl
   have H6 : Hid (_ ∧ _ ∧ _ ∧ _ ∧ _) := ⟨e5, y6, b6, (by omega : z + 2 ≤ ((W.setCell ⟨z, 11, none⟩ (slV d.nb rd)).setCell ⟨z, 21, none⟩ (slV d.fb re)).heap.size), G6⟩
   have KF := fun W : World => z_clone_any d.sig W HP.out.2.2.2.2.2.2.2
   have hzW : z < W.heap.size := x5.lt
   clear x4 y4 b4 ga gb gc x5 y5 b5 e5 y6 b6 hsz6 KG G6 gd ge BWD HX c11 c21
   simp only [slV] at H6 c0 c1 ⊢
   go_wp2_with fail
   refine (KF _).mono ?_
   rintro e w8 ⟨rfl, B8⟩
   obtain ⟨e5, y6, b6, s6, G6⟩ := H6.out
   have x8 := e5.below B8
   have f8 := x8.fr 23
   have c8 : w8.cell? ⟨z, 23, none⟩ = some (.string d.sig) := cell_of_block x8 23 _ rfl
   have x9 : (w8.setCell ⟨z, 23, none⟩ (.string d.sig)).heap[z]? = some (.cells (upV d ⟨ra, rc, rd, rb, re⟩).toArray 36 (0, 0)) := heap_setCell_self x8 23 (.string d.sig)
   have y9 : (w8.setCell ⟨z, 23, none⟩ (.string d.sig)).heap[z + 1]? = some (.cells #[.int .u64 0, .int .u64 0, .string ⟨#[]⟩, .string ⟨#[]⟩, .string ⟨#[]⟩, .string ⟨#[]⟩, .string ⟨#[]⟩, .int .u64 0, .slice none 0 0, .slice none 0 0, .string ⟨#[]⟩, .slice none 0 0, .int .u64 0, .int .u64 0, .string ⟨#[]⟩, .string ⟨#[]⟩, .string ⟨#[]⟩, .string ⟨#[]⟩, .string ⟨#[]⟩, .int .u64 0, .slice none 0 0, .slice none 0 0, .int .u64 0, .string ⟨#[]⟩, .int .u64 0] 36 (0, 0)) := (y6.below B8).other (k := z) (by omega) 23 (.string d.sig)
   have b9 : Below z w (w8.setCell ⟨z, 23, none⟩ (.string d.sig)) := (belowStep b6 (by omega) B8).setCell (p := ⟨z, 23, none⟩) (Nat.le_refl _) _
   have s9 : w8.heap.size = (w8.setCell ⟨z, 23, none⟩ (.string d.sig)).heap.size := by simp [World.setCell]
   have G9 : upG (z + 2) (w8.setCell ⟨z, 23, none⟩ (.string d.sig)) d ⟨ra, rc, rd, rb, re⟩ := (G6.grow B8).keep (by omega) fun b hb _ => Below.heap_setCell _ _ _ _ (show b ≠ z by omega)
   have hQ : Hid ((upV d ⟨ra, rc, rd, rb, re⟩).toArray.size = 25) := show _ from rfl
   have hone := upV_one d ⟨ra, rc, rd, rb, re⟩
   obtain ⟨qf, hqf⟩ : ∃ qf : UpP, (⟨ra, rc, rd, rb, re⟩ : UpP) = qf := ⟨_, rfl⟩
   rw [hqf] at x9 G9 hQ hone
   obtain ⟨F9, hF9⟩ : ∃ F, (upV d qf).toArray = F := ⟨_, rfl⟩
   have HF : Hid (_ ∧ _ ∧ _ ∧ _ ∧ _) := ⟨b9, G9, hF9, y9, one_arr hone⟩
   rw [hF9] at x9 hQ
   clear e5 y6 b6 s6 G6 x8 b9 s9 G9 hF9 hone hqf H6 c0 c1 c2 f0 B8 KF hzW
   go_wp2_with (first
    | (refine wpList_load_row rfl 36 _ rfl z rfl _ _ _ _ x9 Tryz.underlying36 rfl (by rw [hQ.out]; kernel_rfl) ?_)
    | (refine store_row0 rfl rfl 36 _ _ rfl (z + 1) _ rfl rfl 36 _ y9 (by rw [hQ.out]; kernel_rfl) (by rw [hQ.out]; rfl) (by rw [← HF.out.2.2.1]; exact HF.out.2.2.2.2) ?_))
   obtain ⟨b9, G9, hF9, y9', -⟩ := HF.out
   have r9 := Bq.row (show Bq (z + 1) 36 _ _ from y9') F9
   have b10 := below_row b9 (show z ≤ z + 1 by omega) F9
   refine bodyPost_ret (results_cell_row rfl _ _ (z + 1) 36 _ (0, 0) _ rfl r9 Tryz.underlying36 rfl (by rw [hQ.out]; kernel_rfl)) rfl ⟨⟨qf, by rw [← hF9], ?_⟩, ?_⟩
   ·exact (G9.keep (by rw [size_setRow]; exact Nat.le_refl _) fun b hb _ => setRow_other _ _ _ _ (by omega)).mono (by have := HZ.out; omega)
   ·rw [HZ.out]
    exact b10
end Go.Proofs.YtoddangedbefgaaGreatDoor
