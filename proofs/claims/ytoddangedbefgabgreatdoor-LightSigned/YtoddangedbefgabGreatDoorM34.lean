/- Lemmas: Lights, committees, messages, stores as values, and where their lists lie. What the package's signing does: those that sign, one by one. No condition. What the package's words do: periods, slots, what a message has. No condition. What the package's count, twoThirds, isEmpty, isFinal do. No condition. What the package's merits do. No condition. -/
import Derived.Test.YtoddangedbefgabGreatDoorM32
import Derived.Test.YtoddangedbefgabGreatDoorM33
set_option maxRecDepth 100000
set_option maxHeartbeats 4000000
namespace Go.Proofs.YtoddangedbefgabGreatDoor
open Go.RowKit Go.Shelf Go.Sort
structure LtD where
 s : Nat
 u : Nat
 p : ByteArray
 t : ByteArray
 b : ByteArray
 ea : ByteArray
 ra : ByteArray
 m : Nat
 br : List ByteArray
structure CmD where
 ks : List ByteArray
 sm : ByteArray
structure UpD where
 l : LtD
 c : CmD
 nb : List ByteArray
 f : LtD
 fb : List ByteArray
 bits : Nat
 sig : ByteArray
 slot : Nat
structure StD where
 fin : LtD
 new : LtD
 now : CmD
 nxt : CmD
 best : UpD
 has : Bool
 last : Int
 this : Int
 forced : Bool
def zLt : LtD := ⟨0, 0, ⟨#[]⟩, ⟨#[]⟩, ⟨#[]⟩, ⟨#[]⟩, ⟨#[]⟩, 0, []⟩
def zCm : CmD := ⟨[], ⟨#[]⟩⟩
def zUp : UpD := ⟨zLt, zCm, [], zLt, [], 0, ⟨#[]⟩, 0⟩
def zSt : StD := ⟨zLt, zLt, zCm, zCm, zUp, false, 0, 0, false⟩
def U6 (n : Nat) : Prop := n < 18446744073709551616
def LtD.ok (d : LtD) : Prop := U6 d.s ∧ U6 d.u ∧ U6 d.m
def UpD.ok (d : UpD) : Prop := d.l.ok ∧ d.f.ok ∧ U6 d.bits ∧ U6 d.slot
structure Pl where
 a : Option Addr
 c : Nat
def slV (xs : List ByteArray) (q : Pl) : Value := .slice q.a xs.length q.c
abbrev zSA : Array Value := #[.int .u64 0, .int .u64 0, .string ⟨#[]⟩, .string ⟨#[]⟩, .string ⟨#[]⟩, .string ⟨#[]⟩, .string ⟨#[]⟩, .int .u64 0, .slice none 0 0, .int .u64 0, .int .u64 0, .string ⟨#[]⟩, .string ⟨#[]⟩, .string ⟨#[]⟩, .string ⟨#[]⟩, .string ⟨#[]⟩, .int .u64 0, .slice none 0 0, .slice none 0 0, .string ⟨#[]⟩, .slice none 0 0, .string ⟨#[]⟩, .int .u64 0, .int .u64 0, .string ⟨#[]⟩, .string ⟨#[]⟩, .string ⟨#[]⟩, .string ⟨#[]⟩, .string ⟨#[]⟩, .int .u64 0, .slice none 0 0, .slice none 0 0, .string ⟨#[]⟩, .slice none 0 0, .int .u64 0, .int .u64 0, .string ⟨#[]⟩, .string ⟨#[]⟩, .string ⟨#[]⟩, .string ⟨#[]⟩, .string ⟨#[]⟩, .int .u64 0, .slice none 0 0, .slice none 0 0, .int .u64 0, .string ⟨#[]⟩, .int .u64 0, .bool false, .int .i64 0, .int .i64 0, .bool false]
abbrev zUA : Array Value := #[.int .u64 0, .int .u64 0, .string ⟨#[]⟩, .string ⟨#[]⟩, .string ⟨#[]⟩, .string ⟨#[]⟩, .string ⟨#[]⟩, .int .u64 0, .slice none 0 0, .slice none 0 0, .string ⟨#[]⟩, .slice none 0 0, .int .u64 0, .int .u64 0, .string ⟨#[]⟩, .string ⟨#[]⟩, .string ⟨#[]⟩, .string ⟨#[]⟩, .string ⟨#[]⟩, .int .u64 0, .slice none 0 0, .slice none 0 0, .int .u64 0, .string ⟨#[]⟩, .int .u64 0]
abbrev zUL : List Value := [.int .u64 0, .int .u64 0, .string ⟨#[]⟩, .string ⟨#[]⟩, .string ⟨#[]⟩, .string ⟨#[]⟩, .string ⟨#[]⟩, .int .u64 0, .slice none 0 0, .slice none 0 0, .string ⟨#[]⟩, .slice none 0 0, .int .u64 0, .int .u64 0, .string ⟨#[]⟩, .string ⟨#[]⟩, .string ⟨#[]⟩, .string ⟨#[]⟩, .string ⟨#[]⟩, .int .u64 0, .slice none 0 0, .slice none 0 0, .int .u64 0, .string ⟨#[]⟩, .int .u64 0]
def ltV (d : LtD) (q : Pl) : List Value := [.int .u64 (d.s : Int), .int .u64 (d.u : Int), .string d.p, .string d.t, .string d.b, .string d.ea, .string d.ra, .int .u64 (d.m : Int), .slice q.a d.br.length q.c]
def cmV (d : CmD) (q : Pl) : List Value := [.slice q.a d.ks.length q.c, .string d.sm]
structure UpP where
 l : Pl
 c : Pl
 nb : Pl
 f : Pl
 fb : Pl
def upV (d : UpD) (q : UpP) : List Value := ltV d.l q.l ++ cmV d.c q.c ++ [slV d.nb q.nb] ++ ltV d.f q.f ++ [slV d.fb q.fb, .int .u64 (d.bits : Int), .string d.sig, .int .u64 (d.slot : Int)]
structure StP where
 fin : Pl
 new : Pl
 now : Pl
 nxt : Pl
 best : UpP
def stV (d : StD) (q : StP) : List Value := ltV d.fin q.fin ++ ltV d.new q.new ++ cmV d.now q.now ++ cmV d.nxt q.nxt ++ upV d.best q.best ++ [.bool d.has, .int .i64 d.last, .int .i64 d.this, .bool d.forced]
def upIn (n : Nat) (W : World) (d : UpD) (q : UpP) : Prop := slS n W q.l.a d.l.br ∧ slS n W q.c.a d.c.ks ∧ slS n W q.nb.a d.nb ∧ slS n W q.f.a d.f.br ∧ slS n W q.fb.a d.fb
def stIn (n : Nat) (W : World) (d : StD) (q : StP) : Prop := slS n W q.fin.a d.fin.br ∧ slS n W q.new.a d.new.br ∧ slS n W q.now.a d.now.ks ∧ slS n W q.nxt.a d.nxt.ks ∧ upIn n W d.best q.best
theorem upIn.below {n : Nat} {W W' : World} (hb : Below n W W') {d : UpD} {q : UpP} (h : upIn n W d q) : upIn n W' d q := ⟨jan hb h.1, jan hb h.2.1, jan hb h.2.2.1, jan hb h.2.2.2.1, jan hb h.2.2.2.2⟩
theorem stIn.below {n : Nat} {W W' : World} (hb : Below n W W') {d : StD} {q : StP} (h : stIn n W d q) : stIn n W' d q := ⟨jan hb h.1, jan hb h.2.1, jan hb h.2.2.1, jan hb h.2.2.2.1, h.2.2.2.2.below hb⟩
theorem jbi {n m : Nat} {W : World} {a : Option Addr} {xs : List ByteArray} (h : slS n W a xs) (hm : n ≤ m) : slS m W a xs := by
 rcases h with h | ⟨b, o, h1, h2, h3⟩
 ·exact .inl h
 ·exact .inr ⟨b, o, h1, Nat.lt_of_lt_of_le h2 hm, h3⟩
theorem upIn.mono {n m : Nat} {W : World} {d : UpD} {q : UpP} (h : upIn n W d q) (hm : n ≤ m) : upIn m W d q := ⟨jbi h.1 hm, jbi h.2.1 hm, jbi h.2.2.1 hm, jbi h.2.2.2.1 hm, jbi h.2.2.2.2 hm⟩
theorem stIn.mono {n m : Nat} {W : World} {d : StD} {q : StP} (h : stIn n W d q) (hm : n ≤ m) : stIn m W d q := ⟨jbi h.1 hm, jbi h.2.1 hm, jbi h.2.2.1 hm, jbi h.2.2.2.1 hm, h.2.2.2.2.mono hm⟩
theorem jac {W : World} {b : Nat} {cs : List Value} {t : TypeId} {f : Nat × Nat} (h : W.heap[b]? = some (.cells cs.toArray t f)) (o : Nat) (vs : List Value) (hv : ∀ (j : Nat) v, vs[j]? = some v → cs[o + j]? = some v) : W.rangeAt b o vs := fun j v hj => by
 rw [Lib.cell_of_heap h]
 have := hv j v hj
 simp [this]
theorem jaf {W : World} {b : Nat} {cs : List Value} {t : TypeId} {f : Nat × Nat} (h : W.heap[b]? = some (.cells cs.toArray t f)) (o : Nat) (v : Value) (hv : cs[o]? = some v) : W.cell? ⟨b, o, none⟩ = some v := by
 rw [Lib.cell_of_heap h]
 simp [hv]
theorem jcp {A B C : List Value} (j : Nat) (v : Value) (h : B[j]? = some v) : (A ++ B ++ C)[A.length + j]? = some v := by
 have hj : j < B.length := (List.getElem?_eq_some_iff.1 h).1
 rw [List.append_assoc, List.getElem?_append_right (by omega), Nat.add_sub_cancel_left, List.getElem?_append_left hj]
 exact h
theorem upV_l (d : UpD) (q : UpP) (j : Nat) (v : Value) (h : (ltV d.l q.l)[j]? = some v) : (upV d q)[0 + j]? = some v := jcp (A := []) (B := ltV d.l q.l) (C := cmV d.c q.c ++ [slV d.nb q.nb] ++ ltV d.f q.f ++ [slV d.fb q.fb, .int .u64 (d.bits : Int), .string d.sig, .int .u64 (d.slot : Int)]) j v h
theorem upV_c (d : UpD) (q : UpP) (j : Nat) (v : Value) (h : (cmV d.c q.c)[j]? = some v) : (upV d q)[9 + j]? = some v := jcp (A := ltV d.l q.l) (B := cmV d.c q.c) (C := [slV d.nb q.nb] ++ ltV d.f q.f ++ [slV d.fb q.fb, .int .u64 (d.bits : Int), .string d.sig, .int .u64 (d.slot : Int)]) j v h
theorem upV_f (d : UpD) (q : UpP) (j : Nat) (v : Value) (h : (ltV d.f q.f)[j]? = some v) : (upV d q)[12 + j]? = some v := jcp (A := ltV d.l q.l ++ cmV d.c q.c ++ [slV d.nb q.nb]) (B := ltV d.f q.f) (C := [slV d.fb q.fb, .int .u64 (d.bits : Int), .string d.sig, .int .u64 (d.slot : Int)]) j v h
theorem jek (d : StD) (q : StP) (j : Nat) (v : Value) (h : (ltV d.fin q.fin)[j]? = some v) : (stV d q)[0 + j]? = some v := jcp (A := []) (B := ltV d.fin q.fin) (C := ltV d.new q.new ++ cmV d.now q.now ++ cmV d.nxt q.nxt ++ upV d.best q.best ++ [.bool d.has, .int .i64 d.last, .int .i64 d.this, .bool d.forced]) j v h
theorem stV_new (d : StD) (q : StP) (j : Nat) (v : Value) (h : (ltV d.new q.new)[j]? = some v) : (stV d q)[9 + j]? = some v := jcp (A := ltV d.fin q.fin) (B := ltV d.new q.new) (C := cmV d.now q.now ++ cmV d.nxt q.nxt ++ upV d.best q.best ++ [.bool d.has, .int .i64 d.last, .int .i64 d.this, .bool d.forced]) j v h
theorem stV_now (d : StD) (q : StP) (j : Nat) (v : Value) (h : (cmV d.now q.now)[j]? = some v) : (stV d q)[18 + j]? = some v := jcp (A := ltV d.fin q.fin ++ ltV d.new q.new) (B := cmV d.now q.now) (C := cmV d.nxt q.nxt ++ upV d.best q.best ++ [.bool d.has, .int .i64 d.last, .int .i64 d.this, .bool d.forced]) j v h
theorem jfk (d : StD) (q : StP) (j : Nat) (v : Value) (h : (cmV d.nxt q.nxt)[j]? = some v) : (stV d q)[20 + j]? = some v := jcp (A := ltV d.fin q.fin ++ ltV d.new q.new ++ cmV d.now q.now) (B := cmV d.nxt q.nxt) (C := upV d.best q.best ++ [.bool d.has, .int .i64 d.last, .int .i64 d.this, .bool d.forced]) j v h
theorem stV_best (d : StD) (q : StP) (j : Nat) (v : Value) (h : (upV d.best q.best)[j]? = some v) : (stV d q)[22 + j]? = some v := jcp (A := ltV d.fin q.fin ++ ltV d.new q.new ++ cmV d.now q.now ++ cmV d.nxt q.nxt) (B := upV d.best q.best) (C := [.bool d.has, .int .i64 d.last, .int .i64 d.this, .bool d.forced]) j v h
/-! ### Those that sign -/
def sgB (bits i : Nat) : Bool := decide (bits / 2 ^ i % 2 = 1)
def sgL (bits q : Nat) : List Nat := (List.range q).filter (sgB bits)
theorem jfy (bits q : Nat) : sgL bits (q + 1) = if sgB bits q = true then sgL bits q ++ [q] else sgL bits q := by
 unfold sgL
 rw [List.range_succ, List.filter_append]
 cases h : sgB bits q <;> simp [h]
theorem sgL_len (bits q : Nat) : (sgL bits q).length ≤ q := by
 unfold sgL
 exact Nat.le_trans (List.length_filter_le _ _) (by rw [List.length_range]; exact Nat.le_refl _)
def sgN (bits : Nat) : Nat := (sgL bits 16).length
theorem sgN_le (bits : Nat) : sgN bits ≤ 16 := sgL_len bits 16
def twB (bits : Nat) : Bool := decide (32 ≤ 3 * sgN bits)
def hnB (d : UpD) : Bool := decide (0 < d.c.ks.length) || decide (0 < d.nb.length)
attribute [local go_sem] Oper.semAt_some
def UbIn (bX : Nat) (bits : Nat) (W : World) : Prop := ∃ cs : Array Value, Bq bX 33 cs W ∧ cs.size = 25 ∧ cs[22]? = some (.int .u64 (bits : Int))
def UbK (bX : Nat) (bits : Nat) (W W' : World) : Prop := UbIn bX bits W → UbIn bX bits W'
theorem UbIn.below {bX : Nat} {bits : Nat} {W W' : World} (hc : UbIn bX bits W) (h : Below W.heap.size W W') : UbIn bX bits W' := by
 obtain ⟨cs, h1, h2, h3⟩ := hc
 exact ⟨cs, h1.below h, h2, h3⟩
theorem UbIn.belowN {n bX : Nat} {bits : Nat} {W W' : World} (hc : UbIn bX bits W) (h : Below n W W') (hx : bX < n) : UbIn bX bits W' := by
 obtain ⟨cs, h1, h2, h3⟩ := hc
 exact ⟨cs, (h.block _ hx).trans h1, h2, h3⟩
theorem UbK.of_below {bX : Nat} {bits : Nat} {W W' : World} (h : Below W.heap.size W W') : UbK bX bits W W' := fun hc => hc.below h
theorem UbK.trans {bX : Nat} {bits : Nat} {W W' V : World} (h : UbK bX bits W W') (g : UbK bX bits W' V) : UbK bX bits W V := fun hc => g (h hc)
theorem UbIn.cell {bX : Nat} {bits : Nat} {W : World} (hc : UbIn bX bits W) : W.cell? ⟨bX, 22, none⟩ = some (.int .u64 (bits : Int)) := by
 obtain ⟨cs, h1, h2, h3⟩ := hc
 rw [h1.cell 22]
 exact h3
theorem UbIn.lt {bX : Nat} {bits : Nat} {W : World} (hc : UbIn bX bits W) : bX < W.heap.size := by
 obtain ⟨cs, h1, h2, h3⟩ := hc
 exact h1.lt
abbrev Mb : Type := {x : Nat // x < 16}
def mbEnc (x : Mb) : Array Value := #[.int .i64 (x.val : Int)]
theorem sgL_lt (bits q : Nat) : ∀ x ∈ sgL bits q, x < q := fun x hx => by
 unfold sgL at hx
 exact List.mem_range.1 (List.mem_filter.1 hx).1
def mbT (bits q : Nat) (hq : q ≤ 16) : List Mb := (sgL bits q).attach.map fun x => ⟨x.1, Nat.lt_of_lt_of_le (sgL_lt bits q x.1 x.2) hq⟩
theorem jgu (bits q : Nat) (hq : q ≤ 16) : (mbT bits q hq).map (·.val) = sgL bits q := by
 unfold mbT
 rw [List.map_map]
 exact List.attach_map_subtype_val _
theorem mbT_len (bits q : Nat) (hq : q ≤ 16) : (mbT bits q hq).length = (sgL bits q).length := by rw [← jgu bits q hq, List.length_map]
theorem mb_ext {l l' : List Mb} (h : l.map (·.val) = l'.map (·.val)) : l = l' := (List.map_inj_right (f := fun x : Mb => x.val) (fun _ _ e => Subtype.ext e)).1 h
theorem mbT_no (bits q : Nat) (hq : q + 1 ≤ 16) (h : sgB bits q = false) : mbT bits (q + 1) hq = mbT bits q (by omega) := mb_ext (by rw [jgu, jgu, jfy, h]; rfl)
theorem mbT_yes (bits q : Nat) (hq : q + 1 ≤ 16) (h : sgB bits q = true) : mbT bits (q + 1) hq = mbT bits q (by omega) ++ [⟨q, by omega⟩] := mb_ext (by rw [List.map_append, jgu, jgu, jfy, h]; rfl)
theorem signing1_in (n l bX : Nat) (b : Nat) (hb : b < 18446744073709551616) (J Jx : List Mb → World → Prop) (B : Nat) (_ : AbidesFrom B J)
  (hY : ∀ m pre x W, J pre W → pre.length < 16 → YieldAt Fence.wide m Tryz.prog l (mbEnc x) W fun e W' =>
   (e = .returned (.bool true) ∧ J (pre ++ [x]) W' ∧ UbK bX b W W') ∨ (e = .returned (.bool false) ∧ Jx (pre ++ [x]) W'))
  (W : World) (hc : UbIn bX b W) (h0 : J [] W) :
  CallsIn Fence.wide n Tryz.prog 93 #[.func (.yield l) #[] #[], .pointer (some ⟨bX, 0, none⟩)] W fun e W' => (∃ v, e = .returned v) ∧
   (J (mbT b 16 (by omega)) W' ∨ (∃ q hq, Jx (mbT b q hq) W')) := by
 refine callsIn_of_wp Tryz.func93 rfl trivial ?_ rfl
 simp only [Tryz.ntmps93, List.size_toArray, List.length_cons, List.length_nil, Nat.reduceAdd, Nat.reduceSub, Array.replicate_succ, Array.replicate_zero, List.push_toArray, List.append_toArray, List.nil_append, List.cons_append]
 gi_wp2_with fail
 gi_loopw [4] (fun i wr => ∃ q : Nat, ∃ hq : q ≤ 16, i = .int .i64 (q : Int) ∧ J (mbT b q hq) wr ∧ UbIn bX b wr)
  (fun i _ => (16 - (intOf i).toNat))
 case atStart => exact ⟨0, by omega, rfl, h0, hc⟩
 case round =>
  obtain ⟨q, hq, rfl, hJs, hkt⟩ := hrel
  by_cases hlq : q < 16
  ·have l0 : (q : Int) < 16 := by omega
   have hc1 := hkt.cell
   have hlt := hkt.lt
   have hdv : (b : Int) / 2 ^ q = ((b / 2 ^ q : Nat) : Int) := by rw [Int.natCast_ediv, Int.natCast_pow]; rfl
   have hbd : b / 2 ^ q < 18446744073709551616 := Nat.lt_of_le_of_lt (Nat.div_le_self _ _) hb
   have han : bits .and .u64 ((b : Int) / 2 ^ q) 1 = ((b / 2 ^ q % 2 : Nat) : Int) := by rw [hdv]; exact jgj _ hbd
   have hsg : sgB b q = decide (b / 2 ^ q % 2 = 1) := rfl
   obtain ⟨d, hd⟩ : ∃ d, b / 2 ^ q % 2 = d := ⟨_, rfl⟩
   rw [hd] at hsg han
   have hd2 : d < 2 := by omega
   clear hdv hbd
   by_cases h1 : d = 1
   ·subst h1
    have eT := mbT_yes b q (by omega) hsg
    have eL := sgL_len b q
    rw [← mbT_len b q hq] at eL
    obtain ⟨fn, tmps, assign, body, hyy, hR⟩ := hY (n - 1) _ ⟨q, hlq⟩ wr hJs (by omega)
    unfold mbEnc at hyy
    simp only at hyy
    replace han : bits .and .u64 ((b : Int) / 2 ^ q) 1 = 1 := han
    have HX : Hid (_ ∧ _) := ⟨hJs, hkt⟩
    clear hJs hkt hc h0 hd hd2 hsg
    gi_wp2_with fail
    refine ⟨fun h => (by cases h), hR.mono ?_⟩
    rintro e W3 (⟨rfl, hJ3, hk3⟩ | ⟨rfl, hJx3⟩)
    ·gi_wp2
     go_roundw
     case rel => exact ⟨q + 1, by omega, rfl, by rw [eT]; exact hJ3, hk3 HX.out.2⟩
     case measure => simp [intOf]; omega
    ·gi_wp2
     exact bodyPost_ret (v := .tuple #[]) (by simp [results, Tryz.results93, go_sem]) rfl ⟨⟨_, rfl⟩, .inr ⟨q + 1, by omega, by rw [eT]; exact hJx3⟩⟩
   ·obtain rfl : d = 0 := by omega
    have eT := mbT_no b q (by omega) (by rw [hsg]; rfl)
    replace han : bits .and .u64 ((b : Int) / 2 ^ q) 1 = 0 := han
    have HX : Hid (_ ∧ _) := ⟨hJs, hkt⟩
    clear hJs hkt hc h0 hd hd2 hsg h1
    gi_wp2
    refine ⟨fun f h => (by cases h), ?_⟩
    gi_wp2
    go_roundw
    case rel => exact ⟨q + 1, by omega, rfl, by rw [eT]; exact HX.out.1, HX.out.2⟩
    case measure => simp [intOf]; omega
  ·obtain rfl : q = 16 := by omega
   gi_wp2
   go_end0
   exact ⟨⟨_, rfl⟩, .inl hJs⟩
theorem jfx (n bX : Nat) (b : Nat) (hb : b < 18446744073709551616) (w : World) (hc : UbIn bX b w) :
  SeqStopsK Fence.wide n Tryz.prog 93 #[.pointer (some ⟨bX, 0, none⟩)] mbEnc (UbK bX b) (fun ys => ys = mbT b 16 (Nat.le_refl _)) (fun ys => ∃ q hq, ys = mbT b q hq) 16 w := fun l J Jx W hW hJ _ hY h0 => by
 refine (signing1_in n l bX b hb J Jx W.heap.size hJ (fun m pre x W1 hj hl => jew m (hY pre x W1 hj hl)) W (hc.below hW) h0).mono ?_
 rintro e W' ⟨he, hj | ⟨q, hq, hj⟩⟩
 ·exact ⟨he, .inl ⟨_, rfl, hj⟩⟩
 ·exact ⟨he, .inr ⟨_, ⟨q, hq, rfl⟩, hj⟩⟩
theorem signing_any (cs : Array Value) (w : World) :
  Calls Tryz.prog 56 #[.agg cs] w fun e w' => e = .returned (.func (.func 93) #[] #[.pointer (some ⟨w.heap.size, 0, none⟩)]) ∧ w' = w.alloc (.cells cs 33) := by
 go_enter Tryz.func56, Tryz.ntmps56
 go_wp2
 go_ret
 exact ⟨rfl, rfl⟩
end Go.Proofs.YtoddangedbefgabGreatDoor
namespace Go.Proofs.YtoddangedbefgabGreatDoor
open Go.RowKit Go.Shelf Go.Sort
theorem box1 (w : World) (o : Obj) : Below w.heap.size w (w.alloc o) ∧ (w.alloc o).heap[w.heap.size]? = some o ∧ (w.alloc o).heap.size = w.heap.size + 1 := ⟨(Below.refl _ w).alloc (Nat.le_refl _) _, World.alloc_heap_new w o, by simp⟩
theorem box2 (w : World) (o1 o2 : Obj) : Below w.heap.size w ((w.alloc o1).alloc o2) ∧ ((w.alloc o1).alloc o2).heap[w.heap.size]? = some o1 ∧ ((w.alloc o1).alloc o2).heap[w.heap.size + 1]? = some o2 ∧ ((w.alloc o1).alloc o2).heap.size = w.heap.size + 2 := by
 refine ⟨((Below.refl _ w).alloc (Nat.le_refl _) _).alloc (by simp) _, (Lib.alloc_old _ _ _ (by simp)).trans (World.alloc_heap_new w _), ?_, by simp⟩
 have := World.alloc_heap_new (w.alloc o1) o2
 rwa [World.size_alloc] at this
theorem jau {P : Program} {ops : Array Oper} {C : World → Prop} {Q : Act → Prop} {rest : List Oper} {o : Oper} {a : Act} (hw : Region.wanted o (yielded ops a.tmps) = true) (ty : TypeId) (x : Operand) (ho : o.op = .load ty x)
  (b off : Nat) (hx : a.eval x = .pointer (some ⟨b, off, none⟩)) (cs : List Value) (d : TypeDesc) (hc : ∀ W, C W → W.rangeAt b off cs) (hu : P.underlying ty = some d) (hd : d.isRow = true) (hi : (P.info? ty).map (·.size) = some cs.length)
  (h : wpQuiet P ops C Q rest (a.put o.dst (.agg cs.toArray))) : wpQuiet P ops C Q (o :: rest) a := by
 unfold wpQuiet
 rw [if_pos hw]
 refine ⟨_, fun W hW => ?_, h⟩
 unfold Oper.quietAt execOp
 simp only [ho, hx, Instr.loadAt, Instr.sureAddr, Sem.run_bind, Sem.run_pure, Result.andThen_ok, run_loadVar_mid W b off ty cs d (hc W hW) hu hd hi]
 exact ⟨rfl, rfl⟩
theorem jab {P : Program} {ops : Array Oper} {rest : List Oper} {o : Oper} {a : Act} {w : World} {Q : Exit → Act → World → Prop} (hw : Region.wanted o (yielded ops a.tmps) = true) (ty : TypeId) (x : Operand) (ho : o.op = .load ty x)
  (b off : Nat) (hx : a.eval x = .pointer (some ⟨b, off, none⟩)) (cs : List Value) (d : TypeDesc) (hc : w.rangeAt b off cs) (hu : P.underlying ty = some d) (hd : d.isRow = true) (hi : (P.info? ty).map (·.size) = some cs.length)
  (h : wpList P ops Q rest (a.put o.dst (.agg cs.toArray)) w) : wpList P ops Q (o :: rest) a w :=
 wpList_step fun K hK => by
  rw [if_pos hw]
  exact wp_load_mid ty x ho b off hx cs d hc hu hd hi (hK _ _ h)
theorem jbl {V : World} {b off : Nat} {cs : List Value} (h : V.rangeAt b off cs) (hb : b < V.heap.size) : ∀ W, (∃ p : Regrown, W = grow (redrawn V p.d) p.os) → W.rangeAt b off cs := by
 rintro W ⟨p, rfl⟩ j v hj
 rw [(below_regrown V p.d p.os).cell (p := ⟨b, off + j, none⟩) hb]
 exact h j v hj
theorem jal {W : World} {b : Nat} {cs : List Value} {t : TypeId} {f : Nat × Nat} (h : W.heap[b]? = some (.cells cs.toArray t f)) : W.rangeAt b 0 cs := jac h 0 cs fun j v hj => by rw [Nat.zero_add]; exact hj
theorem beqN (x y : Nat) : ((x : Int) == (y : Int)) = decide (x = y) := by
 by_cases h : x = y
 ·simp [h]
 ·have h2 : ¬ (x : Int) = y := by omega
  simp [h, h2]
theorem jdx (n : Nat) (hn : U6 n) (w : World) : Calls Tryz.prog 84 #[.int .u64 (n : Int)] w fun e w' => e = .returned (.int .u64 ((n / 64 : Nat) : Int)) ∧ Below w.heap.size w w' := by
 go_enter Tryz.func84, Tryz.ntmps84
 have hn2 : n < 18446744073709551616 := hn
 have hq : IntKind.u64.wrap ((n : Int) / 64) = (n : Int) / 64 := by rw [IntKind.wrap_u64]; omega
 go_wp2
 go_ret
 exact ⟨by simp, Below.refl _ _⟩
theorem jcj (d : LtD) (hd : U6 d.s) (q : Pl) (w : World) : Calls Tryz.prog 62 #[.agg (ltV d q).toArray] w fun e w' => e = .returned (.int .u64 ((d.s / 64 : Nat) : Int)) ∧ Below w.heap.size w w' := by
 obtain ⟨L, hL⟩ : ∃ L, (ltV d q).toArray = L := ⟨_, rfl⟩
 have h0 : L[0]? = some (.int .u64 (d.s : Int)) := by rw [← hL]; rfl
 rw [hL]
 clear hL
 have KP := jdx d.s hd
 have B1 := (box1 w (.cells L 29)).1
 go_enter Tryz.func62, Tryz.ntmps62
 go_wp2_with fail
 refine (KP _).mono ?_
 rintro r w2 ⟨rfl, B2⟩
 have BX := jaa B1 B1.size B2
 clear B2 B1
 go_wp2
 go_ret
 exact ⟨by simp, BX⟩
theorem jcx (d e : LtD) (hd : U6 d.s) (he : U6 e.s) (q r : Pl) (w : World) : Calls Tryz.prog 60 #[.agg (ltV d q).toArray, .agg (ltV e r).toArray] w fun x w' => x = .returned (.bool (decide (d.s / 64 = e.s / 64))) ∧ Below w.heap.size w w' := by
 have K1 := jcj d hd q
 have K2 := jcj e he r
 obtain ⟨x, hx⟩ : ∃ x, d.s / 64 = x := ⟨_, rfl⟩
 obtain ⟨y, hy⟩ : ∃ y, e.s / 64 = y := ⟨_, rfl⟩
 rw [hx] at K1 ⊢
 rw [hy] at K2 ⊢
 have hlL : (ltV d q).length = 9 := rfl
 have hlM : (ltV e r).length = 9 := rfl
 obtain ⟨L, hL⟩ : ∃ L, ltV d q = L := ⟨_, rfl⟩
 obtain ⟨M, hM⟩ : ∃ M, ltV e r = M := ⟨_, rfl⟩
 rw [hL] at K1 hlL
 rw [hM] at K2 hlM
 rw [hL, hM]
 clear hL hM hx hy
 obtain ⟨B1, h1, h2, hs⟩ := box2 w (.cells L.toArray 29) (.cells M.toArray 29)
 have R1 := jbl (jal h1) (by omega)
 have R2 := jbl (jal h2) (by omega)
 go_enter Tryz.func60, Tryz.ntmps60
 go_wp2_with fail
 have k1 := jae (w := ((w.alloc (.cells L.toArray 29)).alloc (.cells M.toArray 29))) K1
 have k2 := jae (w := ((w.alloc (.cells L.toArray 29)).alloc (.cells M.toArray 29))) K2
 refine wp_region_quiet_below (by kernel_rfl) (by kernel_rfl) ?_
 refine jau (by kernel_rfl) _ _ rfl _ _ rfl _ _ R1 Tryz.underlying29 rfl (by rw [hlL]; kernel_rfl) ?_
 quiet_step (exact k1 _ _)
 refine jau (by kernel_rfl) _ _ rfl _ _ rfl _ _ R2 Tryz.underlying29 rfl (by rw [hlM]; kernel_rfl) ?_
 quiet_step (exact k2 _ _)
 repeat (quiet_step (fail))
 refine wpQuiet_nil ?_
 intro w8 hw8
 have B8 : Below w.heap.size w w8 := by
  obtain ⟨p, rfl⟩ := hw8
  exact jaa B1 B1.size (below_regrown _ _ _)
 clear hw8 R1 R2 k1 k2 h1 h2 hs
 go_wp2
 go_ret
 exact ⟨by simp [beqN], B8⟩
theorem jdl (d e : LtD) (q r : Pl) (w : World) : Calls Tryz.prog 28 #[.agg (ltV d q).toArray, .agg (ltV e r).toArray] w fun x w' => x = .returned (.bool (decide (e.s < d.s))) ∧ Below w.heap.size w w' := by
 obtain ⟨L, hL⟩ : ∃ L, (ltV d q).toArray = L := ⟨_, rfl⟩
 obtain ⟨M, hM⟩ : ∃ M, (ltV e r).toArray = M := ⟨_, rfl⟩
 have h0 : L[0]? = some (.int .u64 (d.s : Int)) := by rw [← hL]; rfl
 have h1 : M[0]? = some (.int .u64 (e.s : Int)) := by rw [← hM]; rfl
 rw [hL, hM]
 clear hL hM
 have B1 := (box2 w (.cells L 29) (.cells M 29)).1
 go_enter Tryz.func28, Tryz.ntmps28
 go_wp2
 go_ret
 exact ⟨by simp, B1⟩
theorem jdk (d : CmD) (q : Pl) (w : World) : Calls Tryz.prog 57 #[.agg (cmV d q).toArray] w fun x w' => x = .returned (.bool (decide (0 < d.ks.length))) ∧ Below w.heap.size w w' := by
 obtain ⟨L, hL⟩ : ∃ L, (cmV d q).toArray = L := ⟨_, rfl⟩
 obtain ⟨n, hn⟩ : ∃ n, d.ks.length = n := ⟨_, rfl⟩
 have h0 : L[0]? = some (.slice q.a n q.c) := by rw [← hL, ← hn]; rfl
 rw [hL, hn]
 clear hL hn
 have B1 := (box1 w (.cells L 31)).1
 go_enter Tryz.func57, Tryz.ntmps57
 go_wp2
 go_ret
 exact ⟨by simp, B1⟩
theorem jeg (d : UpD) (q : UpP) (w : World) : Calls Tryz.prog 58 #[.agg (upV d q).toArray] w fun x w' => x = .returned (.bool (hnB d)) ∧ Below w.heap.size w w' := by
 obtain ⟨L, hL⟩ : ∃ L, (upV d q).toArray = L := ⟨_, rfl⟩
 unfold hnB
 obtain ⟨n, hn⟩ : ∃ n, d.c.ks.length = n := ⟨_, rfl⟩
 obtain ⟨m, hm⟩ : ∃ n, d.nb.length = n := ⟨_, rfl⟩
 have h0 : L[9]? = some (.slice q.c.a n q.c.c) := by rw [← hL, ← hn]; rfl
 have h1 : L[11]? = some (.slice q.nb.a m q.nb.c) := by rw [← hL, ← hm]; rfl
 rw [hL, hn, hm]
 clear hL hn hm
 have B1 := (box1 w (.cells L 33)).1
 go_enter Tryz.func58, Tryz.ntmps58
 by_cases h : 0 < n
 ·have l0 : (0 : Int) < n := by omega
  go_wp2
  go_ret
  exact ⟨by simp_all, B1⟩
 ·have l0 : ¬ (0 : Int) < n := by omega
  go_wp2
  go_ret
  exact ⟨by simp_all, B1⟩
end Go.Proofs.YtoddangedbefgabGreatDoor
namespace Go.Proofs.YtoddangedbefgabGreatDoor
open Go.RowKit Go.Shelf Go.Sort
attribute [local go_sem] Oper.semAt_some
theorem jea (d : UpD) (hd : d.ok) (q : UpP) (w : World) : Calls Tryz.prog 25 #[.agg (upV d q).toArray] w fun x w' => x = .returned (.int .i64 ((sgN d.bits : Nat) : Int)) ∧ Below w.heap.size w w' := by
 obtain ⟨L, hL⟩ : ∃ L, (upV d q).toArray = L := ⟨_, rfl⟩
 have h22 : L[22]? = some (.int .u64 (d.bits : Int)) := by rw [← hL]; rfl
 have h25 : Hid (L.size = 25) := show L.size = 25 by rw [← hL]; rfl
 have hb : d.bits < 18446744073709551616 := hd.2.2.1
 obtain ⟨b, hbb⟩ : ∃ b, d.bits = b := ⟨_, rfl⟩
 rw [hbb] at h22 hb ⊢
 rw [hL]
 clear hL hbb hd
 refine (callsIn_wide (n := 9)).1 ?_
 refine callsIn_of_wp_marks Tryz.func25 rfl trivial ?_ rfl
 refine wpIn_wide.2 ?_
 simp only [Tryz.ntmps25, List.size_toArray, List.length_cons, List.length_nil, Nat.reduceAdd, Nat.reduceSub, Array.replicate_succ, Array.replicate_zero, List.push_toArray, List.append_toArray, List.nil_append, List.cons_append]
 obtain ⟨B1, hx, hy, hs⟩ := box2 w (.cells L 33) (.cells #[.int .i64 0] 3)
 go_wp2_with (refine wpList_load_row rfl 33 _ rfl w.heap.size rfl _ _ _ _ hx Tryz.underlying33 rfl (by rw [h25.out]; kernel_rfl) ?_)
 refine (signing_any L _).mono ?_
 rintro e w2 ⟨rfl, hw2⟩
 obtain ⟨z, hz⟩ : ∃ c, w.heap.size = c := ⟨_, rfl⟩
 have HZ : Hid (w.heap.size = z) := hz
 rw [hs, hz]
 rw [hz] at hy B1
 obtain ⟨B2, hx2, hs2⟩ := box1 ((w.alloc (.cells L 33)).alloc (.cells #[.int .i64 0] 3)) (.cells L 33)
 rw [← hw2, hs, hz] at B2 hx2 hs2
 have P2 : Bq (z + 1) 3 #[.int .i64 0] w2 := (B2.block _ (by omega)).trans hy
 have hcx : UbIn (z + 2) b w2 := ⟨L, hx2, h25.out, h22⟩
 have BW2 : Below z w w2 := B1.trans (B2.mono (by omega))
 clear hw2 B2 hx2 hy hx hs B1 hz h22 h25
 go_wp2_with fail
 have hxz : z + 2 < w2.heap.size := by omega
 refine (wpIn_wide (n := 9)).1 ?_
 refine wpIn_rangeFunc_ownH rfl (by omega) (gf := 93) (lb := #[.pointer (some ⟨z + 2, 0, none⟩)]) rfl trivial (enters_of Tryz.func93 (by kernel_rfl) rfl)
  (jfx _ (z + 2) b hb w2 hcx) (fun h k => UbK.trans h k) (fun W l o o' hl h1 h2 h3 hx => hx.belowN (belowK_b (n₀ := z + 3) (w := w2) (by omega) W l o o' hl h1 h2 h3) (by omega)) (Below.refl _ _) (fun _ => rfl)
  (fun pre W => Bq (z + 1) 3 #[.int .i64 ((pre.length : Nat) : Int)] W ∧ Below z w W ∧ z + 2 < W.heap.size)
  (fun _ _ _ => False)
  (fun s A C row hs hg hr => ⟨hs.1.own hg (fun r e => (hr r e).2), hs.2.1.grown hg (by omega) (fun k e => Nat.le_trans (by omega) (hr k e).1), Nat.lt_of_lt_of_le hs.2.2 hg.size⟩)
  (fun c s A C row hs hg hr => hs)
  ⟨P2, BW2, hxz⟩
  (fun x a' _ => a' = { tmps := #[.agg L, .pointer (some ⟨z, 0, none⟩), .int .i64 0, .pointer (some ⟨z + 1, 0, none⟩), .agg L, .func (.func 93) #[] #[.pointer (some ⟨z + 2, 0, none⟩)], .int .i64 (x.val : Int), undef, undef, undef], defers := [] })
  (fun x a' _ X Y row hs hg hr => hs)
  ?assign ?body ?done ?stop
 case assign =>
  rintro l pre x W K hI hK
  dsimp only [mbEnc]
  gi_wp2
  exact hK _ _ (KeepsFrom.refl _ _) (fun h => h) hI (by simp)
 case body =>
  rintro l pre x a' W hl ⟨r, hr⟩ ⟨hP, hB, hxW⟩ rfl hlt
  have c0 : W.cell? ⟨z + 1, 0, none⟩ = some (.int .i64 ((pre.length : Nat) : Int)) := hP.cell 0
  have f0 := hP.fr 0
  have e1 : ((pre ++ [x]).length : Int) = (pre.length : Int) + 1 := by simp
  have hlt' : pre.length < 16 := hlt
  have P5 := hP.put (.int .i64 (((pre ++ [x]).length : Nat) : Int))
  rw [e1] at P5
  obtain ⟨k, hk⟩ : ∃ k, pre.length = k := ⟨_, rfl⟩
  have HK : Hid _ := hk
  rw [hk] at c0 P5 e1 hlt'
  have wk : IntKind.i64.wrap ((k : Int) + 1) = (k : Int) + 1 := by rw [IntKind.wrap_i64]; omega
  have k5 : KeepsFrom w2.heap.size W (W.setCell ⟨z + 1, 0, none⟩ (.int .i64 ((k : Int) + 1))) := jdb _ _ _ _
  have n5 : UbK (z + 2) b W (W.setCell ⟨z + 1, 0, none⟩ (.int .i64 ((k : Int) + 1))) := fun h => by
   obtain ⟨cs, h1, h2, h3⟩ := h
   exact ⟨cs, h1.other (by omega) _ _, h2, h3⟩
  have b5 : Below z w (W.setCell ⟨z + 1, 0, none⟩ (.int .i64 ((k : Int) + 1))) := hB.setCell (p := ⟨z + 1, 0, none⟩) (by show z ≤ z + 1; omega) _
  have z5 : z + 2 < (W.setCell ⟨z + 1, 0, none⟩ (.int .i64 ((k : Int) + 1))).heap.size := Nat.lt_of_lt_of_le hxW (by simp [World.setCell])
  have H5 : Hid (_ ∧ _ ∧ _ ∧ _ ∧ _) := ⟨P5, k5, n5, b5, z5⟩
  clear P5 k5 n5 b5 z5 hP hB hk
  gi_wp2
  obtain ⟨P5, k5, n5, b5, z5⟩ := H5.out
  refine (?_ : KeepsFrom _ W _ ∧ UbK _ _ W _ ∧ _ ∧ _ ∧ _)
  exact ⟨k5, n5, by rw [e1]; exact P5, b5, z5⟩
 case done =>
  rintro D ys W hD rfl ⟨hP, hB, hxW⟩ hK
  rw [mbT_len] at hP
  have c0 : W.cell? ⟨z + 1, 0, none⟩ = some (.int .i64 ((sgN b : Nat) : Int)) := hP.cell 0
  obtain ⟨v, hv⟩ : ∃ v, sgN b = v := ⟨_, rfl⟩
  rw [hv] at c0
  go_wp2
  have hbP := belowK_b (n₀ := z) (w := w2) (by omega) W D _ (.deferred none) hD hK rfl rfl
  refine ⟨by simp, .inl ⟨_, _, rfl, run_takeDeferred hK, ?_⟩⟩
  refine ⟨.int .i64 (v : Int), by simp [results, Tryz.results25, go_sem], by rw [hv], ?_⟩
  rw [HZ.out]
  exact hB.trans hbP
 case stop =>
  rintro D c pre W hD hq hF hK
  exact hF.elim
theorem jfv (d : UpD) (hd : d.ok) (q : UpP) (w : World) : Calls Tryz.prog 61 #[.agg (upV d q).toArray] w fun x w' => x = .returned (.bool (twB d.bits)) ∧ Below w.heap.size w w' := by
 have KC := jea d hd q
 have hn := sgN_le d.bits
 unfold twB
 obtain ⟨n, hnn⟩ : ∃ n, sgN d.bits = n := ⟨_, rfl⟩
 rw [hnn] at KC hn ⊢
 have h25 : Hid ((upV d q).toArray.size = 25) := show (upV d q).toArray.size = 25 from rfl
 obtain ⟨L, hL⟩ : ∃ L, (upV d q).toArray = L := ⟨_, rfl⟩
 rw [hL] at KC h25 ⊢
 clear hL hnn
 have wm : IntKind.i64.wrap (3 * (n : Int)) = 3 * (n : Int) := by rw [IntKind.wrap_i64]; omega
 obtain ⟨B1, hx, hs⟩ := box1 w (.cells L 33)
 go_enter Tryz.func61, Tryz.ntmps61
 go_wp2_with (refine wpList_load_row rfl 33 _ rfl w.heap.size rfl _ _ _ _ hx Tryz.underlying33 rfl (by rw [h25.out]; kernel_rfl) ?_)
 refine (KC _).mono ?_
 rintro r w2 ⟨rfl, B2⟩
 have BX := jaa B1 B1.size B2
 have HB : Hid _ := BX
 clear B2 B1 BX hx hs
 go_wp2
 go_ret
 exact ⟨by simp; omega, HB.out⟩
theorem eqlH (s u s' u' : Nat) (p t b p' t' b' : ByteArray) (W : World) : (binOp .eql 24 (.agg #[.int .u64 s, .int .u64 u, .string p, .string t, .string b]) (.agg #[.int .u64 s', .int .u64 u', .string p', .string t', .string b'])).run Tryz.prog W = .ok (.bool (decide (s = s' ∧ u = u' ∧ p = p' ∧ t = t' ∧ b = b'))) W := by
 by_cases h1 : s = s'
 ·subst h1
  by_cases h2 : u = u'
  ·subst h2
   by_cases h3 : p = p'
   ·subst h3
    by_cases h4 : t = t'
    ·subst h4
     by_cases h5 : b = b'
     ·subst h5
      simp [go_sem]
     ·have h5' : (b.toList == b'.toList) = false := by rw [beq_eq_false_iff_ne]; exact fun e => h5 (toList_inj e)
      simp [go_sem, h5, h5']
    ·have h4' : (t.toList == t'.toList) = false := by rw [beq_eq_false_iff_ne]; exact fun e => h4 (toList_inj e)
     simp [go_sem, h4, h4']
   ·have h3' : (p.toList == p'.toList) = false := by rw [beq_eq_false_iff_ne]; exact fun e => h3 (toList_inj e)
    simp [go_sem, h3, h3']
  ·have h2' : ¬ (u : Int) = u' := by omega
   simp [go_sem, h2, h2']
 ·have h1' : ¬ (s : Int) = s' := by omega
  simp [go_sem, h1, h1']
theorem eqlX (s s' : Nat) (p t p' t' : ByteArray) (W : World) : (binOp .eql 26 (.agg #[.string p, .string t, .int .u64 s]) (.agg #[.string p', .string t', .int .u64 s'])).run Tryz.prog W = .ok (.bool (decide (p = p' ∧ t = t' ∧ s = s'))) W := by
 by_cases h3 : p = p'
 ·subst h3
  by_cases h4 : t = t'
  ·subst h4
   by_cases h1 : s = s'
   ·subst h1
    simp [go_sem]
   ·have h1' : ¬ (s : Int) = s' := by omega
    simp [go_sem, h1, h1']
  ·have h4' : (t.toList == t'.toList) = false := by rw [beq_eq_false_iff_ne]; exact fun e => h4 (toList_inj e)
   simp [go_sem, h4, h4']
 ·have h3' : (p.toList == p'.toList) = false := by rw [beq_eq_false_iff_ne]; exact fun e => h3 (toList_inj e)
  simp [go_sem, h3, h3']
def emB (d : LtD) : Bool := decide (d.s = 0 ∧ d.u = 0 ∧ d.p = ⟨#[]⟩ ∧ d.t = ⟨#[]⟩ ∧ d.b = ⟨#[]⟩) && decide (d.ea = ⟨#[]⟩ ∧ d.ra = ⟨#[]⟩ ∧ d.m = 0) && decide (d.br.length = 0)
theorem emB_iff (d : LtD) : emB d = true ↔ d = zLt := by
 obtain ⟨s, u, p, t, b, ea, ra, m, br⟩ := d
 unfold emB zLt
 simp only [Bool.and_eq_true, decide_eq_true_eq, List.length_eq_zero_iff, LtD.mk.injEq]
 constructor
 ·rintro ⟨⟨⟨h1, h2, h3, h4, h5⟩, h6, h7, h8⟩, h9⟩
  exact ⟨h1, h2, h3, h4, h5, h6, h7, h8, h9⟩
 ·rintro ⟨h1, h2, h3, h4, h5, h6, h7, h8, h9⟩
  exact ⟨⟨⟨h1, h2, h3, h4, h5⟩, h6, h7, h8⟩, h9⟩
theorem isEmpty_any (d : LtD) (q : Pl) (w : World) : Calls Tryz.prog 94 #[.agg (ltV d q).toArray] w fun x w' => x = .returned (.bool (emB d)) ∧ Below w.heap.size w w' := by
 obtain ⟨s, u, p, t, b, ea, ra, m, br⟩ := d
 have E1 := eqlH s u 0 0 p t b ⟨#[]⟩ ⟨#[]⟩ ⟨#[]⟩
 have E2 := eqlX m 0 ea ra ⟨#[]⟩ ⟨#[]⟩
 unfold emB
 simp only [ltV]
 obtain ⟨e1, h1⟩ : ∃ e, decide (s = 0 ∧ u = 0 ∧ p = ⟨#[]⟩ ∧ t = ⟨#[]⟩ ∧ b = ⟨#[]⟩) = e := ⟨_, rfl⟩
 obtain ⟨e2, h2⟩ : ∃ e, decide (ea = ⟨#[]⟩ ∧ ra = ⟨#[]⟩ ∧ m = 0) = e := ⟨_, rfl⟩
 obtain ⟨n, hn⟩ : ∃ n, br.length = n := ⟨_, rfl⟩
 rw [h1] at E1 ⊢
 rw [h2] at E2 ⊢
 rw [hn]
 clear h1 h2 hn
 rw [show ((0 : Nat) : Int) = 0 from rfl] at E1 E2
 have B1 := (box1 w (.cells #[.int .u64 (s : Int), .int .u64 (u : Int), .string p, .string t, .string b, .string ea, .string ra, .int .u64 (m : Int), .slice q.a n q.c] 29)).1
 have HB : Hid _ := B1
 clear B1
 go_enter Tryz.func94, Tryz.ntmps94
 cases e1 with
 | false =>
  go_wp2
  go_ret
  exact ⟨by simp, HB.out⟩
 | true =>
  cases e2 with
  | false =>
   go_wp2
   go_ret
   exact ⟨by simp, HB.out⟩
  | true =>
   go_wp2
   go_ret
   exact ⟨by simp; exact beqN n 0, HB.out⟩
def fnB (d : UpD) : Bool := decide (0 < d.fb.length) || !emB d.f
theorem jfp (d : UpD) (q : UpP) (w : World) : Calls Tryz.prog 59 #[.agg (upV d q).toArray] w fun x w' => x = .returned (.bool (fnB d)) ∧ Below w.heap.size w w' := by
 have KE := isEmpty_any d.f q.f
 have hF := upV_f d q
 unfold fnB
 obtain ⟨n, hn⟩ : ∃ n, d.fb.length = n := ⟨_, rfl⟩
 have h21 : (upV d q).toArray[21]? = some (.slice q.fb.a n q.fb.c) := by rw [← hn]; rfl
 obtain ⟨e, he⟩ : ∃ e, emB d.f = e := ⟨_, rfl⟩
 obtain ⟨M, hM⟩ : ∃ M, ltV d.f q.f = M := ⟨_, rfl⟩
 have h9 : M.length = 9 := by rw [← hM]; rfl
 obtain ⟨L, hL⟩ : ∃ L, upV d q = L := ⟨_, rfl⟩
 rw [hM] at KE hF
 rw [hL] at h21 hF ⊢
 rw [hn, he]
 rw [he] at KE
 have H9 : Hid (M.length = 9) := h9
 clear hL hM hn he h9
 obtain ⟨B1, hx, hs⟩ := box1 w (.cells L.toArray 33)
 have R1 := jac hx 12 M hF
 go_enter Tryz.func59, Tryz.ntmps59
 by_cases h : 0 < n
 ·have l0 : (0 : Int) < n := by omega
  have HB : Hid _ := B1
  clear B1 R1 hx hs
  go_wp2
  go_ret
  exact ⟨by simp_all, HB.out⟩
 ·have l0 : ¬ (0 : Int) < n := by omega
  go_wp2_with (refine jab (by kernel_rfl) 29 _ rfl w.heap.size 12 rfl _ _ R1 Tryz.underlying29 rfl (by rw [H9.out]; kernel_rfl) ?_)
  refine (KE _).mono ?_
  rintro r w2 ⟨rfl, B2⟩
  have HB : Hid _ := jaa B1 B1.size B2
  clear B2 B1 R1 hx hs
  go_wp2
  go_ret
  exact ⟨by simp_all, HB.out⟩
end Go.Proofs.YtoddangedbefgabGreatDoor
namespace Go.Proofs.YtoddangedbefgabGreatDoor
open Go.RowKit Go.Shelf Go.Sort
theorem pickB_any (c a b : Bool) (w : World) : Calls Tryz.prog 52 #[.bool c, .bool a, .bool b] w fun x w' => x = .returned (.bool (if c = true then a else b)) ∧ Below w.heap.size w w' := by
 go_enter Tryz.func52, Tryz.ntmps52
 cases c
 ·go_wp2
  go_ret
  exact ⟨by simp, Below.refl _ _⟩
 ·go_wp2
  go_ret
  exact ⟨by simp, Below.refl _ _⟩
theorem pickN_any (c : Bool) (a b : Nat) (w : World) : Calls Tryz.prog 90 #[.bool c, .int .u64 (a : Int), .int .u64 (b : Int)] w fun x w' => x = .returned (.int .u64 (((if c = true then a else b) : Nat) : Int)) ∧ Below w.heap.size w w' := by
 go_enter Tryz.func90, Tryz.ntmps90
 cases c
 ·go_wp2
  go_ret
  exact ⟨by simp, Below.refl _ _⟩
 ·go_wp2
  go_ret
  exact ⟨by simp, Below.refl _ _⟩
abbrev Mr : Type := Bool × Nat
def mrV (m : Mr) : Value := .agg #[.bool m.1, .int .u64 (m.2 : Int)]
def ovB (m n : Mr) : Bool := if (m.1 == n.1) = true then decide (n.2 < m.2) else m.1
theorem isOver_any (m n : Mr) (w : World) : Calls Tryz.prog 23 #[mrV m, mrV n] w fun x w' => x = .returned (.bool (ovB m n)) ∧ Below w.heap.size w w' := by
 obtain ⟨m1, m2⟩ := m
 obtain ⟨n1, n2⟩ := n
 unfold ovB mrV
 dsimp only
 have KP := pickB_any (m1 == n1) (decide (n2 < m2)) m1
 obtain ⟨v, hv⟩ : ∃ v, (if (m1 == n1) = true then decide (n2 < m2) else m1) = v := ⟨_, rfl⟩
 rw [hv] at KP ⊢
 clear hv
 go_enter Tryz.func23, Tryz.ntmps23
 have B1 := (box2 w (.cells #[.bool m1, .int .u64 (m2 : Int)] 62) (.cells #[.bool n1, .int .u64 (n2 : Int)] 62)).1
 go_wp2_with fail
 refine (KP _).mono ?_
 rintro r w2 ⟨rfl, B2⟩
 have HB : Hid _ := jaa B1 B1.size B2
 clear B2 B1
 go_wp2
 go_ret
 exact ⟨by simp, HB.out⟩
def mkN (x : Nat) : Nat := 18446744073709551615 - x
def owB (d : UpD) : Bool := fnB d && decide (d.f.s / 64 = d.l.s / 64)
def merN (d : UpD) : List Mr := [(twB d.bits, if twB d.bits = true then 0 else sgN d.bits), (hnB d && decide (d.l.s / 64 = d.slot / 64), 0), (fnB d, if owB d = true then 1 else 0), (false, sgN d.bits), (false, mkN d.l.s), (false, mkN d.slot)]
theorem xor_maxI (s : Nat) (h : s < 18446744073709551616) : bits .xor .u64 IntKind.u64.max (s : Int) = ((18446744073709551615 - s : Nat) : Int) := by
 have e : (BitVec.ofInt 64 IntKind.u64.max ^^^ BitVec.ofInt 64 (s : Int)).toNat = 18446744073709551615 - s := by
  have a1 : BitVec.ofInt 64 IntKind.u64.max = BitVec.allOnes 64 := by decide
  have a2 : (BitVec.ofInt 64 (s : Int)).toNat = s := by rw [BitVec.toNat_ofInt]; omega
  rw [a1, BitVec.allOnes_xor, BitVec.toNat_not, a2]
 show IntKind.u64.wrap ((BitVec.ofInt 64 IntKind.u64.max ^^^ BitVec.ofInt 64 (s : Int)).toNat : Int) = _
 rw [e, IntKind.wrap_u64]
 omega
theorem merits_any (d : UpD) (hd : d.ok) (q : UpP) (w : World) : Calls Tryz.prog 51 #[.agg (upV d q).toArray] w fun x w' => ∃ g, x = .returned (.slice (some ⟨g, 0, none⟩) 6 6) ∧ w.heap.size ≤ g ∧ w'.rangeAt g 0 ((merN d).flatMap fun m => [.bool m.1, .int .u64 (m.2 : Int)]) ∧ g < w'.heap.size ∧ Below w.heap.size w w' := by
 have KC := jea d hd q
 have KI := jfp d q
 have KS := jcx d.f d.l hd.2.1.1 hd.1.1 q.f q.l
 have KT := jfv d hd q
 have KN := jeg d q
 have KP1 := jdx d.l.s hd.1.1
 have KP2 := jdx d.slot hd.2.2.2
 have h0 : (upV d q)[0]? = some (.int .u64 (d.l.s : Int)) := rfl
 have h24 : (upV d q)[24]? = some (.int .u64 (d.slot : Int)) := rfl
 have hF := upV_f d q
 have hLl := upV_l d q
 have hH9 : Hid ((ltV d.f q.f).length = 9 ∧ (ltV d.l q.l).length = 9 ∧ (upV d q).length = 25) := show _ from ⟨rfl, rfl, rfl⟩
 have hn := sgN_le d.bits
 have hs6 : d.l.s < 18446744073709551616 := hd.1.1
 have ht6 : d.slot < 18446744073709551616 := hd.2.2.2
 have eM : merN d = [(twB d.bits, if twB d.bits = true then 0 else sgN d.bits), (hnB d && decide (d.l.s / 64 = d.slot / 64), 0), (fnB d, if (fnB d && decide (d.f.s / 64 = d.l.s / 64)) = true then 1 else 0), (false, sgN d.bits), (false, mkN d.l.s), (false, mkN d.slot)] := rfl
 unfold mkN at eM
 obtain ⟨R, hR⟩ : ∃ R, merN d = R := ⟨_, rfl⟩
 rw [hR] at eM ⊢
 obtain ⟨M, hM⟩ : ∃ M, ltV d.f q.f = M := ⟨_, rfl⟩
 obtain ⟨N, hN⟩ : ∃ N, ltV d.l q.l = N := ⟨_, rfl⟩
 obtain ⟨L, hL⟩ : ∃ L, upV d q = L := ⟨_, rfl⟩
 rw [hM] at KS hF hH9
 rw [hN] at KS hLl hH9
 rw [hL] at KC KI KT KN h0 h24 hF hLl hH9 ⊢
 obtain ⟨n, hnn⟩ : ∃ n, sgN d.bits = n := ⟨_, rfl⟩
 obtain ⟨s, hss⟩ : ∃ n, d.l.s = n := ⟨_, rfl⟩
 obtain ⟨t, htt⟩ : ∃ n, d.slot = n := ⟨_, rfl⟩
 obtain ⟨tw, htw⟩ : ∃ n, twB d.bits = n := ⟨_, rfl⟩
 obtain ⟨e, he⟩ : ∃ e, fnB d = e := ⟨_, rfl⟩
 obtain ⟨h, hh⟩ : ∃ e, hnB d = e := ⟨_, rfl⟩
 rw [hss] at KS h0 hs6 KP1 eM
 rw [htt] at h24 ht6 KP2 eM
 rw [htw] at KT eM
 rw [he] at KI eM
 rw [hh] at KN eM
 rw [hnn] at KC hn eM
 obtain ⟨y, hy⟩ : ∃ e, decide (d.f.s / 64 = s / 64) = e := ⟨_, rfl⟩
 rw [hy] at KS eM
 have KK1 := pickN_any tw 0 n
 have KK2 := pickN_any (e && y) 1 0
 obtain ⟨k1, hk1⟩ : ∃ k, (if tw = true then 0 else n) = k := ⟨_, rfl⟩
 obtain ⟨k2, hk2⟩ : ∃ k : Nat, (if (e && y) = true then 1 else 0) = k := ⟨_, rfl⟩
 rw [hk1] at KK1 eM
 rw [hk2] at KK2 eM
 rw [show ((0 : Nat) : Int) = 0 from rfl] at KK1 KK2
 rw [show ((1 : Nat) : Int) = 1 from rfl] at KK2
 clear hM hN hL hnn hss htt htw he hh hy hR hd hk1 hk2
 have xs := xor_maxI s hs6
 have xt := xor_maxI t ht6
 have hst : ((s : Int) / 64 == (t : Int) / 64) = decide (s / 64 = t / 64) := by rw [← beqN]; rfl
 have wn : IntKind.u64.wrap (n : Int) = (n : Int) := by rw [IntKind.wrap_u64]; omega
 obtain ⟨B1, hx, hs⟩ := box1 w (.cells L.toArray 33)
 have HM : Hid _ := eM
 clear eM
 go_enter Tryz.func51, Tryz.ntmps51
 go_wp2_with fail
 obtain ⟨V, hV⟩ : ∃ V, w.alloc (.cells L.toArray 33) = V := ⟨_, rfl⟩
 obtain ⟨z, hz⟩ : ∃ z, w.heap.size = z := ⟨_, rfl⟩
 have HZ : Hid (w.heap.size = z) := hz
 rw [hV]
 rw [hV] at B1 hx hs
 rw [hz] at B1 hx hs ⊢
 have Q0 := jbl (jal hx) (by omega)
 have k0 := cell_regrown (jaf hx 0 _ h0)
 have kc := jae (w := V) KC
 have hx' : Bq z 33 L.toArray V := hx
 clear hV hz hx KC
 refine wp_region_quiet_below (by kernel_rfl) (by kernel_rfl) ?_
 refine jau (by kernel_rfl) 33 _ rfl _ _ rfl _ _ Q0 Tryz.underlying33 rfl (by rw [hH9.out.2.2]; kernel_rfl) ?_
 quiet_step (exact kc _ _)
 repeat (quiet_step (fail))
 refine wpQuiet_nil ?_
 intro w2 hw2
 have cB2 : Below V.heap.size V w2 := by
  obtain ⟨p, rfl⟩ := hw2
  exact below_regrown _ _ _
 have B2 : Below z w w2 := by
  obtain ⟨p, rfl⟩ := hw2
  exact jaa B1 (by have := B1.size; omega) (below_regrown V p.d p.os)
 clear hw2
 have x2 := hx'.below cB2
 have z2 : z < w2.heap.size := x2.lt
 clear Q0 k0 kc cB2 B1 hx' hs
 have R0 := jal x2
 have RF := jac x2 12 M hF
 have RL := jac x2 0 N hLl
 have HX : Hid (_ ∧ _) := ⟨B2, x2⟩
 cases e with
 | false =>
  go_wp2_with (refine wpList_load_mid rfl 33 _ rfl z 0 rfl _ _ R0 Tryz.underlying33 rfl (by rw [hH9.out.2.2]; kernel_rfl) ?_)
  refine (KI _).mono ?_
  rintro r w3 ⟨rfl, B3⟩
  have x3 := Bq.below HX.out.2 B3
  have BW3 := jaa HX.out.1 (by omega) B3
  have z3 : z < w3.heap.size := x3.lt
  clear B3 R0 RF RL B2 x2 HX
  go_wp2_with fail
  cases h with
  | false =>
   have hx3 := jal x3
   have Q0 := jbl hx3 z3
   have k0 := cell_regrown (jaf x3 0 _ h0)
   have k24 := cell_regrown (jaf x3 24 _ h24)
   have kt := jae (w := w3) KT
   have ki := jae (w := w3) KI
   have kn := jae (w := w3) KN
   have kp1 := jae (w := w3) KP1
   have kp2 := jae (w := w3) KP2
   have kk1 := jae (w := w3) KK1
   have kk2 := jae (w := w3) KK2
   clear KT KI KN KP1 KP2 KK1 KK2 KS hx3 h0 h24 hF hLl
   refine jar 32 (by kernel_rfl) (by kernel_rfl) ?_
   simp only [List.take_succ_cons, List.take_zero, List.drop_succ_cons, List.drop_zero]
   refine jau (by kernel_rfl) 33 _ rfl _ _ rfl _ _ Q0 Tryz.underlying33 rfl (by rw [hH9.out.2.2]; kernel_rfl) ?_
   quiet_step (exact kt _ _)
   refine jau (by kernel_rfl) 33 _ rfl _ _ rfl _ _ Q0 Tryz.underlying33 rfl (by rw [hH9.out.2.2]; kernel_rfl) ?_
   quiet_step (exact kt _ _)
   quiet_step (fail)
   quiet_step (exact kk1 _ _)
   quiet_step (fail)
   refine jau (by kernel_rfl) 33 _ rfl _ _ rfl _ _ Q0 Tryz.underlying33 rfl (by rw [hH9.out.2.2]; kernel_rfl) ?_
   quiet_step (exact kn _ _)
   quiet_step (fail)
   quiet_step (fail)
   quiet_step (fail)
   quiet_step (fail)
   quiet_step (fail)
   quiet_step (fail)
   quiet_step (fail)
   quiet_step (fail)
   quiet_step (fail)
   refine jau (by kernel_rfl) 33 _ rfl _ _ rfl _ _ Q0 Tryz.underlying33 rfl (by rw [hH9.out.2.2]; kernel_rfl) ?_
   quiet_step (exact ki _ _)
   quiet_step (fail)
   quiet_step (exact kk2 _ _)
   quiet_step (fail)
   quiet_step (fail)
   quiet_step (fail)
   quiet_step (fail)
   quiet_step (fail)
   quiet_step (fail)
   quiet_step (fail)
   quiet_step (fail)
   quiet_step (fail)
   quiet_step (fail)
   refine wpQuiet_nil ?_
   intro w4 hw4
   have cB4 : Below w3.heap.size w3 w4 := by
    obtain ⟨p, rfl⟩ := hw4
    exact below_regrown _ _ _
   have B4 : Below z w w4 := by
    obtain ⟨p, rfl⟩ := hw4
    exact jaa BW3 (by have := BW3.size; omega) (below_regrown w3 p.d p.os)
   clear hw4
   clear Q0 k0 k24 kt ki kn kp1 kp2 kk1 kk2
   go_wp2
   have BA : Below w4.heap.size w4 (w4.alloc (.cells #[.bool tw, .int .u64 (k1 : Int), .bool false, .int .u64 0, .bool false, .int .u64 (k2 : Int), .bool false, .int .u64 (n : Int), .bool false, .int .u64 ((18446744073709551615 - s : Nat) : Int), .bool false, .int .u64 ((18446744073709551615 - t : Nat) : Int)] 62)) := (Below.refl _ _).alloc (Nat.le_refl _) _
   go_ret
   refine ⟨w4.heap.size, by simp, by have := B4.size; have := HZ.out; omega, ?_, by simp, ?_⟩
   ·rw [HM.out]
    refine jac (World.alloc_heap_new w4 _) 0 _ fun j v hj => ?_
    rw [Nat.zero_add, ← hj]
    simp
   ·rw [HZ.out]
    exact jaa B4 (by have := B4.size; have := HZ.out; omega) BA
  | true =>
   have hx3 := jal x3
   have Q0 := jbl hx3 z3
   have k0 := cell_regrown (jaf x3 0 _ h0)
   have k24 := cell_regrown (jaf x3 24 _ h24)
   have kt := jae (w := w3) KT
   have ki := jae (w := w3) KI
   have kn := jae (w := w3) KN
   have kp1 := jae (w := w3) KP1
   have kp2 := jae (w := w3) KP2
   have kk1 := jae (w := w3) KK1
   have kk2 := jae (w := w3) KK2
   clear KT KI KN KP1 KP2 KK1 KK2 KS hx3 h0 h24 hF hLl
   refine jar 32 (by kernel_rfl) (by kernel_rfl) ?_
   simp only [List.take_succ_cons, List.take_zero, List.drop_succ_cons, List.drop_zero]
   refine jau (by kernel_rfl) 33 _ rfl _ _ rfl _ _ Q0 Tryz.underlying33 rfl (by rw [hH9.out.2.2]; kernel_rfl) ?_
   quiet_step (exact kt _ _)
   refine jau (by kernel_rfl) 33 _ rfl _ _ rfl _ _ Q0 Tryz.underlying33 rfl (by rw [hH9.out.2.2]; kernel_rfl) ?_
   quiet_step (exact kt _ _)
   quiet_step (fail)
   quiet_step (exact kk1 _ _)
   quiet_step (fail)
   refine jau (by kernel_rfl) 33 _ rfl _ _ rfl _ _ Q0 Tryz.underlying33 rfl (by rw [hH9.out.2.2]; kernel_rfl) ?_
   quiet_step (exact kn _ _)
   quiet_step (fail)
   quiet_step (fail)
   quiet_step (exact kp1 _ _)
   quiet_step (fail)
   quiet_step (fail)
   quiet_step (exact kp2 _ _)
   quiet_step (fail)
   quiet_step (fail)
   quiet_step (fail)
   refine jau (by kernel_rfl) 33 _ rfl _ _ rfl _ _ Q0 Tryz.underlying33 rfl (by rw [hH9.out.2.2]; kernel_rfl) ?_
   quiet_step (exact ki _ _)
   quiet_step (fail)
   quiet_step (exact kk2 _ _)
   quiet_step (fail)
   quiet_step (fail)
   quiet_step (fail)
   quiet_step (fail)
   quiet_step (fail)
   quiet_step (fail)
   quiet_step (fail)
   quiet_step (fail)
   quiet_step (fail)
   quiet_step (fail)
   refine wpQuiet_nil ?_
   intro w4 hw4
   have cB4 : Below w3.heap.size w3 w4 := by
    obtain ⟨p, rfl⟩ := hw4
    exact below_regrown _ _ _
   have B4 : Below z w w4 := by
    obtain ⟨p, rfl⟩ := hw4
    exact jaa BW3 (by have := BW3.size; omega) (below_regrown w3 p.d p.os)
   clear hw4
   clear Q0 k0 k24 kt ki kn kp1 kp2 kk1 kk2
   go_wp2
   have BA : Below w4.heap.size w4 (w4.alloc (.cells #[.bool tw, .int .u64 (k1 : Int), .bool (decide (s / 64 = t / 64)), .int .u64 0, .bool false, .int .u64 (k2 : Int), .bool false, .int .u64 (n : Int), .bool false, .int .u64 ((18446744073709551615 - s : Nat) : Int), .bool false, .int .u64 ((18446744073709551615 - t : Nat) : Int)] 62)) := (Below.refl _ _).alloc (Nat.le_refl _) _
   go_ret
   refine ⟨w4.heap.size, by simp, by have := B4.size; have := HZ.out; omega, ?_, by simp, ?_⟩
   ·rw [HM.out]
    refine jac (World.alloc_heap_new w4 _) 0 _ fun j v hj => ?_
    rw [Nat.zero_add, ← hj]
    simp
   ·rw [HZ.out]
    exact jaa B4 (by have := B4.size; have := HZ.out; omega) BA
 | true =>
  go_wp2_with (refine wpList_load_mid rfl 33 _ rfl z 0 rfl _ _ R0 Tryz.underlying33 rfl (by rw [hH9.out.2.2]; kernel_rfl) ?_)
  refine (KI _).mono ?_
  rintro r w5 ⟨rfl, B5⟩
  have x5 := Bq.below HX.out.2 B5
  have BW5 := jaa HX.out.1 (by omega) B5
  have z5 : z < w5.heap.size := x5.lt
  have RF5 := jac x5 12 M hF
  have RL5 := jac x5 0 N hLl
  clear B5 R0 RF RL B2 x2 HX
  go_wp2_with (first
   | (refine jab (by kernel_rfl) 29 (.tmp 16) rfl z 12 rfl _ _ RF5 Tryz.underlying29 rfl (by rw [hH9.out.1]; kernel_rfl) ?_)
   | (refine jab (by kernel_rfl) 29 (.tmp 18) rfl z 0 rfl _ _ RL5 Tryz.underlying29 rfl (by rw [hH9.out.2.1]; kernel_rfl) ?_))
  refine (KS _).mono ?_
  rintro r w3 ⟨rfl, B3⟩
  have x3 := Bq.below x5 B3
  have BW3 := jaa BW5 (by omega) B3
  have z3 : z < w3.heap.size := x3.lt
  clear B3 RF5 RL5 x5 BW5 z5
  rw [show (true && y) = y from Bool.true_and y] at KK2
  go_wp2_with fail
  cases h with
  | false =>
   have hx3 := jal x3
   have Q0 := jbl hx3 z3
   have k0 := cell_regrown (jaf x3 0 _ h0)
   have k24 := cell_regrown (jaf x3 24 _ h24)
   have kt := jae (w := w3) KT
   have ki := jae (w := w3) KI
   have kn := jae (w := w3) KN
   have kp1 := jae (w := w3) KP1
   have kp2 := jae (w := w3) KP2
   have kk1 := jae (w := w3) KK1
   have kk2 := jae (w := w3) KK2
   clear KT KI KN KP1 KP2 KK1 KK2 KS hx3 h0 h24 hF hLl
   refine jar 32 (by kernel_rfl) (by kernel_rfl) ?_
   simp only [List.take_succ_cons, List.take_zero, List.drop_succ_cons, List.drop_zero]
   refine jau (by kernel_rfl) 33 _ rfl _ _ rfl _ _ Q0 Tryz.underlying33 rfl (by rw [hH9.out.2.2]; kernel_rfl) ?_
   quiet_step (exact kt _ _)
   refine jau (by kernel_rfl) 33 _ rfl _ _ rfl _ _ Q0 Tryz.underlying33 rfl (by rw [hH9.out.2.2]; kernel_rfl) ?_
   quiet_step (exact kt _ _)
   quiet_step (fail)
   quiet_step (exact kk1 _ _)
   quiet_step (fail)
   refine jau (by kernel_rfl) 33 _ rfl _ _ rfl _ _ Q0 Tryz.underlying33 rfl (by rw [hH9.out.2.2]; kernel_rfl) ?_
   quiet_step (exact kn _ _)
   quiet_step (fail)
   quiet_step (fail)
   quiet_step (fail)
   quiet_step (fail)
   quiet_step (fail)
   quiet_step (fail)
   quiet_step (fail)
   quiet_step (fail)
   quiet_step (fail)
   refine jau (by kernel_rfl) 33 _ rfl _ _ rfl _ _ Q0 Tryz.underlying33 rfl (by rw [hH9.out.2.2]; kernel_rfl) ?_
   quiet_step (exact ki _ _)
   quiet_step (fail)
   quiet_step (exact kk2 _ _)
   quiet_step (fail)
   quiet_step (fail)
   quiet_step (fail)
   quiet_step (fail)
   quiet_step (fail)
   quiet_step (fail)
   quiet_step (fail)
   quiet_step (fail)
   quiet_step (fail)
   quiet_step (fail)
   refine wpQuiet_nil ?_
   intro w4 hw4
   have cB4 : Below w3.heap.size w3 w4 := by
    obtain ⟨p, rfl⟩ := hw4
    exact below_regrown _ _ _
   have B4 : Below z w w4 := by
    obtain ⟨p, rfl⟩ := hw4
    exact jaa BW3 (by have := BW3.size; omega) (below_regrown w3 p.d p.os)
   clear hw4
   clear Q0 k0 k24 kt ki kn kp1 kp2 kk1 kk2
   go_wp2
   have BA : Below w4.heap.size w4 (w4.alloc (.cells #[.bool tw, .int .u64 (k1 : Int), .bool false, .int .u64 0, .bool true, .int .u64 (k2 : Int), .bool false, .int .u64 (n : Int), .bool false, .int .u64 ((18446744073709551615 - s : Nat) : Int), .bool false, .int .u64 ((18446744073709551615 - t : Nat) : Int)] 62)) := (Below.refl _ _).alloc (Nat.le_refl _) _
   go_ret
   refine ⟨w4.heap.size, by simp, by have := B4.size; have := HZ.out; omega, ?_, by simp, ?_⟩
   ·rw [HM.out]
    refine jac (World.alloc_heap_new w4 _) 0 _ fun j v hj => ?_
    rw [Nat.zero_add, ← hj]
    simp
   ·rw [HZ.out]
    exact jaa B4 (by have := B4.size; have := HZ.out; omega) BA
  | true =>
   have hx3 := jal x3
   have Q0 := jbl hx3 z3
   have k0 := cell_regrown (jaf x3 0 _ h0)
   have k24 := cell_regrown (jaf x3 24 _ h24)
   have kt := jae (w := w3) KT
   have ki := jae (w := w3) KI
   have kn := jae (w := w3) KN
   have kp1 := jae (w := w3) KP1
   have kp2 := jae (w := w3) KP2
   have kk1 := jae (w := w3) KK1
   have kk2 := jae (w := w3) KK2
   clear KT KI KN KP1 KP2 KK1 KK2 KS hx3 h0 h24 hF hLl
   refine jar 32 (by kernel_rfl) (by kernel_rfl) ?_
   simp only [List.take_succ_cons, List.take_zero, List.drop_succ_cons, List.drop_zero]
   refine jau (by kernel_rfl) 33 _ rfl _ _ rfl _ _ Q0 Tryz.underlying33 rfl (by rw [hH9.out.2.2]; kernel_rfl) ?_
   quiet_step (exact kt _ _)
   refine jau (by kernel_rfl) 33 _ rfl _ _ rfl _ _ Q0 Tryz.underlying33 rfl (by rw [hH9.out.2.2]; kernel_rfl) ?_
   quiet_step (exact kt _ _)
   quiet_step (fail)
   quiet_step (exact kk1 _ _)
   quiet_step (fail)
   refine jau (by kernel_rfl) 33 _ rfl _ _ rfl _ _ Q0 Tryz.underlying33 rfl (by rw [hH9.out.2.2]; kernel_rfl) ?_
   quiet_step (exact kn _ _)
   quiet_step (fail)
   quiet_step (fail)
   quiet_step (exact kp1 _ _)
   quiet_step (fail)
   quiet_step (fail)
   quiet_step (exact kp2 _ _)
   quiet_step (fail)
   quiet_step (fail)
   quiet_step (fail)
   refine jau (by kernel_rfl) 33 _ rfl _ _ rfl _ _ Q0 Tryz.underlying33 rfl (by rw [hH9.out.2.2]; kernel_rfl) ?_
   quiet_step (exact ki _ _)
   quiet_step (fail)
   quiet_step (exact kk2 _ _)
   quiet_step (fail)
   quiet_step (fail)
   quiet_step (fail)
   quiet_step (fail)
   quiet_step (fail)
   quiet_step (fail)
   quiet_step (fail)
   quiet_step (fail)
   quiet_step (fail)
   quiet_step (fail)
   refine wpQuiet_nil ?_
   intro w4 hw4
   have cB4 : Below w3.heap.size w3 w4 := by
    obtain ⟨p, rfl⟩ := hw4
    exact below_regrown _ _ _
   have B4 : Below z w w4 := by
    obtain ⟨p, rfl⟩ := hw4
    exact jaa BW3 (by have := BW3.size; omega) (below_regrown w3 p.d p.os)
   clear hw4
   clear Q0 k0 k24 kt ki kn kp1 kp2 kk1 kk2
   go_wp2
   have BA : Below w4.heap.size w4 (w4.alloc (.cells #[.bool tw, .int .u64 (k1 : Int), .bool (decide (s / 64 = t / 64)), .int .u64 0, .bool true, .int .u64 (k2 : Int), .bool false, .int .u64 (n : Int), .bool false, .int .u64 ((18446744073709551615 - s : Nat) : Int), .bool false, .int .u64 ((18446744073709551615 - t : Nat) : Int)] 62)) := (Below.refl _ _).alloc (Nat.le_refl _) _
   go_ret
   refine ⟨w4.heap.size, by simp, by have := B4.size; have := HZ.out; omega, ?_, by simp, ?_⟩
   ·rw [HM.out]
    refine jac (World.alloc_heap_new w4 _) 0 _ fun j v hj => ?_
    rw [Nat.zero_add, ← hj]
    simp
   ·rw [HZ.out]
    exact jaa B4 (by have := B4.size; have := HZ.out; omega) BA
end Go.Proofs.YtoddangedbefgabGreatDoor
