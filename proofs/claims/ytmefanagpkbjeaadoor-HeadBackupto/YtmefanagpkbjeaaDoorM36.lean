/- Lemmas: Messages as data; the program's BootBytes and Bytes. rlp's Decode: what it answers lies in blocks that were made anew. The program's read: a message's part read from bytes. What a message's parts tell, taken apart: its data; which bytes are a message's. The reference's items: text, list, number, texts. -/
import Derived.Test.YtmefanagpkbjeaaDoorM1
import Derived.Test.YtmefanagpkbjeaaDoorM10
import Derived.Test.YtmefanagpkbjeaaDoorM11
import Derived.Test.YtmefanagpkbjeaaDoorM12
import Derived.Test.YtmefanagpkbjeaaDoorM13
import Derived.Test.YtmefanagpkbjeaaDoorM14
import Derived.Test.YtmefanagpkbjeaaDoorM15
import Derived.Test.YtmefanagpkbjeaaDoorM16
import Derived.Test.YtmefanagpkbjeaaDoorM17
import Derived.Test.YtmefanagpkbjeaaDoorM18
import Derived.Test.YtmefanagpkbjeaaDoorM19
import Derived.Test.YtmefanagpkbjeaaDoorM2
import Derived.Test.YtmefanagpkbjeaaDoorM20
import Derived.Test.YtmefanagpkbjeaaDoorM21
import Derived.Test.YtmefanagpkbjeaaDoorM22
import Derived.Test.YtmefanagpkbjeaaDoorM23
import Derived.Test.YtmefanagpkbjeaaDoorM24
import Derived.Test.YtmefanagpkbjeaaDoorM25
import Derived.Test.YtmefanagpkbjeaaDoorM26
import Derived.Test.YtmefanagpkbjeaaDoorM27
import Derived.Test.YtmefanagpkbjeaaDoorM28
import Derived.Test.YtmefanagpkbjeaaDoorM29
import Derived.Test.YtmefanagpkbjeaaDoorM3
import Derived.Test.YtmefanagpkbjeaaDoorM30
import Derived.Test.YtmefanagpkbjeaaDoorM31
import Derived.Test.YtmefanagpkbjeaaDoorM33
import Derived.Test.YtmefanagpkbjeaaDoorM34
import Derived.Test.YtmefanagpkbjeaaDoorM35
import Derived.Test.YtmefanagpkbjeaaDoorM4
import Derived.Test.YtmefanagpkbjeaaDoorM6
import Derived.Test.YtmefanagpkbjeaaDoorM7
import Derived.Test.YtmefanagpkbjeaaDoorM8
import Derived.Test.YtmefanagpkbjeaaDoorM9
import Derived.Test.YtmefanagpkbjeaaDoorRows
namespace Go.Proofs.YtmefanagpkbjeaaDoor
open Go.RowKit Go.Shelf Go.Sort

structure LtD where
  s : Nat
  u : Nat
  p : ByteArray
  t : ByteArray
  b : ByteArray
  ea : ByteArray
  ra : ByteArray
  m : Nat
  br : List ByteArray
structure CmD where
  ks : List ByteArray
  sm : ByteArray
structure BtD where
  l : LtD
  c : CmD
  br : List ByteArray
structure UpD where
  l : LtD
  c : CmD
  nb : List ByteArray
  f : LtD
  fb : List ByteArray
  bits : Nat
  sig : ByteArray
  slot : Nat
def U6 (n : Nat) : Prop := n < 18446744073709551616
def LtD.ok (d : LtD) : Prop := U6 d.s ∧ U6 d.u ∧ U6 d.m
def lsI (xs : List It) : It := .mk true ⟨#[]⟩ xs
def tsI (ts : List ByteArray) : It := lsI (ts.map tI)
def ltI (d : LtD) : It := lsI [lsI [tI (numOf d.s), tI (numOf d.u), tI d.p, tI d.t, tI d.b], lsI [tI d.ea, tI d.ra, tI (numOf d.m)], tsI d.br]
def cmI (d : CmD) : It := lsI [tsI d.ks, tI d.sm]
def btI (d : BtD) : It := lsI [ltI d.l, cmI d.c, tsI d.br]
def upI (d : UpD) : It := lsI [ltI d.l, cmI d.c, tsI d.nb, ltI d.f, tsI d.fb, tI (numOf d.bits), tI d.sig, tI (numOf d.slot)]
def ltV (d : LtD) (a : Option Addr) (c : Nat) : List Value := [.int .u64 (d.s : Int), .int .u64 (d.u : Int), .string d.p, .string d.t, .string d.b, .string d.ea, .string d.ra, .int .u64 (d.m : Int), .slice a d.br.length c]
def cmV (d : CmD) (a : Option Addr) (c : Nat) : List Value := [.slice a d.ks.length c, .string d.sm]
/-- Cells that lie from a place on. -/
def cAt (W : World) (q o : Nat) (vs : List Value) : Prop := ∀ (j : Nat) v, vs[j]? = some v → W.cell? ⟨q, o + j, none⟩ = some v
theorem slP_slS {n : Nat} {W : World} {a : Option Addr} {ts : List ByteArray} (h : slS n W a ts) : slP (fun b => b < n) W a ts := by
  rcases h with h | ⟨b, o, h1, h2, h3⟩
  · exact .inl h
  · exact .inr ⟨b, o, h1, h2, h3⟩
theorem txs_dt {P : Nat → Prop} {W : World} {q o : Nat} {a : Option Addr} {ts : List ByteArray} {c : Nat} (hc : W.cell? ⟨q, o, none⟩ = some (.slice a ts.length c)) (h : slP P W a ts) : dtIs P W (.txs ⟨q, o, none⟩) (tsI ts) := ⟨a, c, ts, hc, h, rfl⟩
theorem lt_dt {P : Nat → Prop} {W : World} {q o : Nat} (d : LtD) (hd : d.ok) {a : Option Addr} {c : Nat} (hc : cAt W q o (ltV d a c)) (h : slP P W a d.br) (t : Option Addr × Option Addr × Option Addr) : dtIs P W (ltP q o t) (ltI d) := by
  refine ⟨_, rfl, _, _, rfl, ⟨_, rfl, _, _, rfl, ⟨d.s, hd.1, hc 0 _ rfl, rfl⟩, _, _, rfl, ⟨d.u, hd.2.1, hc 1 _ rfl, rfl⟩, _, _, rfl, ⟨d.p, hc 2 _ rfl, rfl⟩, _, _, rfl, ⟨d.t, hc 3 _ rfl, rfl⟩, _, _, rfl, ⟨d.b, hc 4 _ rfl, rfl⟩, rfl⟩, _, _, rfl, ⟨_, rfl, _, _, rfl, ⟨d.ea, hc 5 _ rfl, rfl⟩, _, _, rfl, ⟨d.ra, hc 6 _ rfl, rfl⟩, _, _, rfl, ⟨d.m, hd.2.2, hc 7 _ rfl, rfl⟩, rfl⟩, _, _, rfl, txs_dt (hc 8 _ rfl) h, rfl⟩
theorem cm_dt {P : Nat → Prop} {W : World} {q o : Nat} (d : CmD) {a : Option Addr} {c : Nat} (hc : cAt W q o (cmV d a c)) (h : slP P W a d.ks) (x : Option Addr) : dtIs P W (.lst x 2 (cmL q o)) (cmI d) :=
  ⟨_, rfl, _, _, rfl, txs_dt (hc 0 _ rfl) h, _, _, rfl, ⟨d.sm, hc 1 _ rfl, rfl⟩, rfl⟩
theorem bt_dt {P : Nat → Prop} {W : World} {q : Nat} (d : BtD) (hd : d.l.ok) {a1 a2 a3 : Option Addr} {c1 c2 c3 : Nat} (h0 : cAt W q 0 (ltV d.l a1 c1)) (h1 : cAt W q 9 (cmV d.c a2 c2)) (h2 : W.cell? ⟨q, 11, none⟩ = some (.slice a3 d.br.length c3))
    (s1 : slP P W a1 d.l.br) (s2 : slP P W a2 d.c.ks) (s3 : slP P W a3 d.br) (t : Option Addr × Option Addr × Option Addr) (x y : Option Addr) (n : Nat) : dtIs P W (.lst y n (btL q t x)) (btI d) :=
  ⟨_, rfl, _, _, rfl, lt_dt d.l hd h0 s1 t, _, _, rfl, cm_dt d.c h1 s2 x, _, _, rfl, txs_dt h2 s3, rfl⟩
theorem up_dt {P : Nat → Prop} {W : World} {q : Nat} (d : UpD) (hd : d.l.ok) (hf : d.f.ok) (hb : U6 d.bits) (hs : U6 d.slot) {a1 a2 a3 a4 a5 : Option Addr} {c1 c2 c3 c4 c5 : Nat} (h0 : cAt W q 0 (ltV d.l a1 c1)) (h1 : cAt W q 9 (cmV d.c a2 c2)) (h2 : W.cell? ⟨q, 11, none⟩ = some (.slice a3 d.nb.length c3))
    (h3 : cAt W q 12 (ltV d.f a4 c4)) (h4 : W.cell? ⟨q, 21, none⟩ = some (.slice a5 d.fb.length c5)) (h5 : W.cell? ⟨q, 22, none⟩ = some (.int .u64 (d.bits : Int))) (h6 : W.cell? ⟨q, 23, none⟩ = some (.string d.sig)) (h7 : W.cell? ⟨q, 24, none⟩ = some (.int .u64 (d.slot : Int)))
    (s1 : slP P W a1 d.l.br) (s2 : slP P W a2 d.c.ks) (s3 : slP P W a3 d.nb) (s4 : slP P W a4 d.f.br) (s5 : slP P W a5 d.fb) (t : Option Addr × Option Addr × Option Addr) (x y : Option Addr) (t2 : Option Addr × Option Addr × Option Addr) (n : Nat) : dtIs P W (.lst y n (uptL q t x t2)) (upI d) :=
  ⟨_, rfl, _, _, rfl, lt_dt d.l hd h0 s1 t, _, _, rfl, cm_dt d.c h1 s2 x, _, _, rfl, txs_dt h2 s3, _, _, rfl, lt_dt d.f hf h3 s4 t2, _, _, rfl, txs_dt h4 s5, _, _, rfl, ⟨d.bits, hb, h5, rfl⟩, _, _, rfl, ⟨d.sig, h6, rfl⟩, _, _, rfl, ⟨d.slot, hs, h7, rfl⟩, rfl⟩
theorem hd_lv (q o : Nat) : ∀ a, a ∈ lvPL (hdL q o) → ∃ k, k < 5 ∧ a = ⟨q, o + k, none⟩ := fun a h => by
  simp [hdL, lvPL, lvP] at h
  rcases h with h | h | h | h | h
  · exact ⟨0, by omega, h⟩
  · exact ⟨1, by omega, h⟩
  · exact ⟨2, by omega, h⟩
  · exact ⟨3, by omega, h⟩
  · exact ⟨4, by omega, h⟩
theorem ex_lv (q o : Nat) : ∀ a, a ∈ lvPL (exL q o) → ∃ k, k < 3 ∧ a = ⟨q, o + k, none⟩ := fun a h => by
  simp [exL, lvPL, lvP] at h
  rcases h with h | h | h
  · exact ⟨0, by omega, h⟩
  · exact ⟨1, by omega, h⟩
  · exact ⟨2, by omega, h⟩
theorem bt_lvs (q : Nat) (t : Option Addr × Option Addr × Option Addr) (x y : Option Addr) (n : Nat) : lvP (.lst y n (btL q t x)) = (List.range 12).map fun k => (⟨q, k, none⟩ : Addr) := rfl
theorem up_lvs (q : Nat) (t : Option Addr × Option Addr × Option Addr) (x y : Option Addr) (t2 : Option Addr × Option Addr × Option Addr) (n : Nat) : lvP (.lst y n (uptL q t x t2)) = (List.range 25).map fun k => (⟨q, k, none⟩ : Addr) := rfl
theorem rg_lv {q n : Nat} {a : Addr} (h : a ∈ (List.range n).map fun k => (⟨q, k, none⟩ : Addr)) : ∃ k, k < n ∧ a = ⟨q, k, none⟩ := by
  obtain ⟨k, hk, rfl⟩ := List.mem_map.1 h
  exact ⟨k, List.mem_range.1 hk, rfl⟩
theorem rg_nodup (q n : Nat) : ((List.range n).map fun k => (⟨q, k, none⟩ : Addr)).Nodup := by
  refine List.Pairwise.map _ (fun a b h e => h ?_) List.nodup_range
  injection e
mutual
theorem cntI_tb : ∀ x : It, cntI x ≤ tbI x
  | .mk l t xs => by
    have := cntIs_tb xs
    show cntIs xs + 1 ≤ t.size + 9 + tbIs xs
    omega
theorem cntIs_tb : ∀ xs : List It, cntIs xs ≤ tbIs xs
  | [] => Nat.le_refl _
  | x :: r => Nat.add_le_add (cntI_tb x) (cntIs_tb r)
end
theorem cAt_sub {W : World} {q : Nat} {cs : Array Value} {ty : TypeId} (h : W.heap[q]? = some (.cells cs ty (0, 0))) (o : Nat) (vs : List Value) (hv : ∀ j v, vs[j]? = some v → cs[o + j]? = some v) : cAt W q o vs := fun j v hj => by
  rw [Lib.cell_of_heap h]
  exact hv j v hj

set_option maxRecDepth 100000 in
set_option maxHeartbeats 4000000 in
theorem bootBytes_any (d : BtD) (a1 a2 a3 : Option Addr) (c1 c2 c3 : Nat) (hd : d.l.ok) (htb : tbI (btI d) < 10000000) (n : Nat) (w : World) (hn : n ≤ w.heap.size) (s1 : slS n w a1 d.l.br) (s2 : slS n w a2 d.c.ks) (s3 : slS n w a3 d.br) :
    Calls Tryd.prog 18 #[.agg #[.int .u64 (d.l.s : Int), .int .u64 (d.l.u : Int), .string d.l.p, .string d.l.t, .string d.l.b, .string d.l.ea, .string d.l.ra, .int .u64 (d.l.m : Int), .slice a1 d.l.br.length c1, .slice a2 d.c.ks.length c2, .string d.c.sm, .slice a3 d.br.length c3]] w fun e w' => e = .returned (.tuple #[.string (eS (btI d)), .int .i64 (eE (btI d))]) ∧ Below w.heap.size w w' := by
  obtain ⟨v1, hv1⟩ : ∃ v, eS (btI d) = v := ⟨_, rfl⟩
  obtain ⟨v2, hv2⟩ : ∃ v, eE (btI d) = v := ⟨_, rfl⟩
  rw [hv1, hv2]
  have A0 := be_new w (.cells #[.int .u64 (d.l.s : Int), .int .u64 (d.l.u : Int), .string d.l.p, .string d.l.t, .string d.l.b, .string d.l.ea, .string d.l.ra, .int .u64 (d.l.m : Int), .slice a1 d.l.br.length c1, .slice a2 d.c.ks.length c2, .string d.c.sm, .slice a3 d.br.length c3] 41)
  have hx : (w.alloc (.cells #[.int .u64 (d.l.s : Int), .int .u64 (d.l.u : Int), .string d.l.p, .string d.l.t, .string d.l.b, .string d.l.ea, .string d.l.ra, .int .u64 (d.l.m : Int), .slice a1 d.l.br.length c1, .slice a2 d.c.ks.length c2, .string d.c.sm, .slice a3 d.br.length c3] 41)).heap[w.heap.size]? = some (.cells #[.int .u64 (d.l.s : Int), .int .u64 (d.l.u : Int), .string d.l.p, .string d.l.t, .string d.l.b, .string d.l.ea, .string d.l.ra, .int .u64 (d.l.m : Int), .slice a1 d.l.br.length c1, .slice a2 d.c.ks.length c2, .string d.c.sm, .slice a3 d.br.length c3] 41 (0, 0)) := World.alloc_heap_new w _
  have HD : ∀ W : World, Below (w.heap.size + 1) (w.alloc (.cells #[.int .u64 (d.l.s : Int), .int .u64 (d.l.u : Int), .string d.l.p, .string d.l.t, .string d.l.b, .string d.l.ea, .string d.l.ra, .int .u64 (d.l.m : Int), .slice a1 d.l.br.length c1, .slice a2 d.c.ks.length c2, .string d.c.sm, .slice a3 d.br.length c3] 41)) W → ∀ y t x m, dtIs (fun b => b < W.heap.size) W (.lst y m (btL w.heap.size t x)) (btI d) := fun W hB y t x m => by
    have hxW := (hB.block w.heap.size (by omega)).trans hx
    have hs : ∀ a ts, slS n w a ts → slP (fun b => b < W.heap.size) W a ts := fun a ts h => slP_of (fun b hb => ⟨by have := hB.size; have := A0.size; omega, fun k => (hB.cell (p := ⟨b, k, none⟩) (by show b < _; omega)).trans (A0.cell (p := ⟨b, k, none⟩) (by show b < _; omega))⟩) (slP_slS h)
    exact bt_dt d hd (a1 := a1) (a2 := a2) (a3 := a3) (c1 := c1) (c2 := c2) (c3 := c3) (cAt_sub hxW 0 _ (fun j v h => by
      match j, h with
      | 0, h => cases h; rfl
      | 1, h => cases h; rfl
      | 2, h => cases h; rfl
      | 3, h => cases h; rfl
      | 4, h => cases h; rfl
      | 5, h => cases h; rfl
      | 6, h => cases h; rfl
      | 7, h => cases h; rfl
      | 8, h => cases h; rfl
      | j + 9, h => simp [ltV] at h)) (cAt_sub hxW 9 _ (fun j v h => by
      match j, h with
      | 0, h => cases h; rfl
      | 1, h => cases h; rfl
      | j + 2, h => simp [cmV] at h)) (by rw [Lib.cell_of_heap hxW]; rfl) (hs _ _ s1) (hs _ _ s2) (hs _ _ s3) t x y m
  clear hx
  go_enter Tryd.func18, Tryd.ntmps18
  go_wp2_with fail
  obtain ⟨w1, hw1⟩ : ∃ W, w.alloc (.cells #[.int .u64 (d.l.s : Int), .int .u64 (d.l.u : Int), .string d.l.p, .string d.l.t, .string d.l.b, .string d.l.ea, .string d.l.ra, .int .u64 (d.l.m : Int), .slice a1 d.l.br.length c1, .slice a2 d.c.ks.length c2, .string d.c.sm, .slice a3 d.br.length c3] 41) = W := ⟨_, rfl⟩
  have hsz1 : w1.heap.size = w.heap.size + 1 := by rw [← hw1]; simp
  rw [hw1] at A0 HD ⊢
  refine (boot_any w.heap.size w1).mono ?_
  rintro e w2 ⟨a, t, x, rfl, hsk, B2⟩
  have X2 := belowStep A0 A0.size B2
  have hm : ∀ w : World, (method 330 145 (.slice a 3 3) "pharos/head.item").run Tryd.prog w = .ok (168, .slice a 3 3) w := fun _ => by kernel_rfl
  have hz2 := B2.size
  have KI := item_all w2.heap.size _ (.lst (a) 3 (btL w.heap.size t x)) (Nat.le_refl _) (fun a' ha' => by
    rw [bt_lvs] at ha'
    obtain ⟨k, _, rfl⟩ := rg_lv ha'
    exact ⟨by show w.heap.size < _; omega, rfl⟩) (btI d) (Nat.lt_of_le_of_lt (cntI_tb _) (by omega)) w2 (Nat.le_refl _) (skRow_of (fun b hb => ⟨hb.2, fun _ => rfl⟩) _ _ _ hsk) (HD w2 (B2.mono (by omega)) _ t x _)
  clear hsk B2 HD A0 hw1
  go_wp2_with fail
  refine KI.mono ?_
  rintro e w3 ⟨X, rfl, hX, hinX, B3⟩
  have X3 := belowStep X2 X2.size B3
  have KE := encode_any X (by rw [tb_er, hX]; exact htb) w3.heap.size w3 (Nat.le_refl _) (inMem_of (fun b hb => hb.2) _ hinX)
  rw [encS_er, encE_er, hX, hv1, hv2] at KE
  obtain ⟨xl, xt, xa, xc, xx⟩ := X
  simp only [Im.val, Im.l, Im.t, Im.sl, Im.a, Im.xs, Im.c] at KE ⊢
  clear KI hX hinX B3 X2 hm hv1 hv2
  go_wp2_with fail
  refine KE.mono ?_
  rintro e w4 ⟨rfl, B4⟩
  have HX : Hid _ := belowStep X3 X3.size B4
  clear KE X3 B4
  go_wp2
  go_ret2
  exact ⟨rfl, HX.out⟩

set_option maxRecDepth 100000 in
set_option maxHeartbeats 4000000 in
theorem updBytes_any (d : UpD) (a1 a2 a3 a4 a5 : Option Addr) (c1 c2 c3 c4 c5 : Nat) (hd : d.l.ok) (hf : d.f.ok) (hb6 : U6 d.bits) (hs6 : U6 d.slot) (htb : tbI (upI d) < 10000000) (n : Nat) (w : World) (hn : n ≤ w.heap.size) (s1 : slS n w a1 d.l.br) (s2 : slS n w a2 d.c.ks) (s3 : slS n w a3 d.nb) (s4 : slS n w a4 d.f.br) (s5 : slS n w a5 d.fb) :
    Calls Tryd.prog 20 #[.agg #[.int .u64 (d.l.s : Int), .int .u64 (d.l.u : Int), .string d.l.p, .string d.l.t, .string d.l.b, .string d.l.ea, .string d.l.ra, .int .u64 (d.l.m : Int), .slice a1 d.l.br.length c1, .slice a2 d.c.ks.length c2, .string d.c.sm, .slice a3 d.nb.length c3, .int .u64 (d.f.s : Int), .int .u64 (d.f.u : Int), .string d.f.p, .string d.f.t, .string d.f.b, .string d.f.ea, .string d.f.ra, .int .u64 (d.f.m : Int), .slice a4 d.f.br.length c4, .slice a5 d.fb.length c5, .int .u64 (d.bits : Int), .string d.sig, .int .u64 (d.slot : Int)]] w fun e w' => e = .returned (.tuple #[.string (eS (upI d)), .int .i64 (eE (upI d))]) ∧ Below w.heap.size w w' := by
  obtain ⟨v1, hv1⟩ : ∃ v, eS (upI d) = v := ⟨_, rfl⟩
  obtain ⟨v2, hv2⟩ : ∃ v, eE (upI d) = v := ⟨_, rfl⟩
  rw [hv1, hv2]
  have A0 := be_new w (.cells #[.int .u64 (d.l.s : Int), .int .u64 (d.l.u : Int), .string d.l.p, .string d.l.t, .string d.l.b, .string d.l.ea, .string d.l.ra, .int .u64 (d.l.m : Int), .slice a1 d.l.br.length c1, .slice a2 d.c.ks.length c2, .string d.c.sm, .slice a3 d.nb.length c3, .int .u64 (d.f.s : Int), .int .u64 (d.f.u : Int), .string d.f.p, .string d.f.t, .string d.f.b, .string d.f.ea, .string d.f.ra, .int .u64 (d.f.m : Int), .slice a4 d.f.br.length c4, .slice a5 d.fb.length c5, .int .u64 (d.bits : Int), .string d.sig, .int .u64 (d.slot : Int)] 43)
  have hx : (w.alloc (.cells #[.int .u64 (d.l.s : Int), .int .u64 (d.l.u : Int), .string d.l.p, .string d.l.t, .string d.l.b, .string d.l.ea, .string d.l.ra, .int .u64 (d.l.m : Int), .slice a1 d.l.br.length c1, .slice a2 d.c.ks.length c2, .string d.c.sm, .slice a3 d.nb.length c3, .int .u64 (d.f.s : Int), .int .u64 (d.f.u : Int), .string d.f.p, .string d.f.t, .string d.f.b, .string d.f.ea, .string d.f.ra, .int .u64 (d.f.m : Int), .slice a4 d.f.br.length c4, .slice a5 d.fb.length c5, .int .u64 (d.bits : Int), .string d.sig, .int .u64 (d.slot : Int)] 43)).heap[w.heap.size]? = some (.cells #[.int .u64 (d.l.s : Int), .int .u64 (d.l.u : Int), .string d.l.p, .string d.l.t, .string d.l.b, .string d.l.ea, .string d.l.ra, .int .u64 (d.l.m : Int), .slice a1 d.l.br.length c1, .slice a2 d.c.ks.length c2, .string d.c.sm, .slice a3 d.nb.length c3, .int .u64 (d.f.s : Int), .int .u64 (d.f.u : Int), .string d.f.p, .string d.f.t, .string d.f.b, .string d.f.ea, .string d.f.ra, .int .u64 (d.f.m : Int), .slice a4 d.f.br.length c4, .slice a5 d.fb.length c5, .int .u64 (d.bits : Int), .string d.sig, .int .u64 (d.slot : Int)] 43 (0, 0)) := World.alloc_heap_new w _
  have HD : ∀ W : World, Below (w.heap.size + 1) (w.alloc (.cells #[.int .u64 (d.l.s : Int), .int .u64 (d.l.u : Int), .string d.l.p, .string d.l.t, .string d.l.b, .string d.l.ea, .string d.l.ra, .int .u64 (d.l.m : Int), .slice a1 d.l.br.length c1, .slice a2 d.c.ks.length c2, .string d.c.sm, .slice a3 d.nb.length c3, .int .u64 (d.f.s : Int), .int .u64 (d.f.u : Int), .string d.f.p, .string d.f.t, .string d.f.b, .string d.f.ea, .string d.f.ra, .int .u64 (d.f.m : Int), .slice a4 d.f.br.length c4, .slice a5 d.fb.length c5, .int .u64 (d.bits : Int), .string d.sig, .int .u64 (d.slot : Int)] 43)) W → ∀ y t x t2 m, dtIs (fun b => b < W.heap.size) W (.lst y m (uptL w.heap.size t x t2)) (upI d) := fun W hB y t x t2 m => by
    have hxW := (hB.block w.heap.size (by omega)).trans hx
    have hs : ∀ a ts, slS n w a ts → slP (fun b => b < W.heap.size) W a ts := fun a ts h => slP_of (fun b hb => ⟨by have := hB.size; have := A0.size; omega, fun k => (hB.cell (p := ⟨b, k, none⟩) (by show b < _; omega)).trans (A0.cell (p := ⟨b, k, none⟩) (by show b < _; omega))⟩) (slP_slS h)
    exact up_dt d hd hf hb6 hs6 (a1 := a1) (a2 := a2) (a3 := a3) (a4 := a4) (a5 := a5) (c1 := c1) (c2 := c2) (c3 := c3) (c4 := c4) (c5 := c5) (cAt_sub hxW 0 _ (fun j v h => by
      match j, h with
      | 0, h => cases h; rfl
      | 1, h => cases h; rfl
      | 2, h => cases h; rfl
      | 3, h => cases h; rfl
      | 4, h => cases h; rfl
      | 5, h => cases h; rfl
      | 6, h => cases h; rfl
      | 7, h => cases h; rfl
      | 8, h => cases h; rfl
      | j + 9, h => simp [ltV] at h)) (cAt_sub hxW 9 _ (fun j v h => by
      match j, h with
      | 0, h => cases h; rfl
      | 1, h => cases h; rfl
      | j + 2, h => simp [cmV] at h)) (by rw [Lib.cell_of_heap hxW]; rfl) (cAt_sub hxW 12 _ (fun j v h => by
      match j, h with
      | 0, h => cases h; rfl
      | 1, h => cases h; rfl
      | 2, h => cases h; rfl
      | 3, h => cases h; rfl
      | 4, h => cases h; rfl
      | 5, h => cases h; rfl
      | 6, h => cases h; rfl
      | 7, h => cases h; rfl
      | 8, h => cases h; rfl
      | j + 9, h => simp [ltV] at h)) (by rw [Lib.cell_of_heap hxW]; rfl) (by rw [Lib.cell_of_heap hxW]; rfl) (by rw [Lib.cell_of_heap hxW]; rfl) (by rw [Lib.cell_of_heap hxW]; rfl) (hs _ _ s1) (hs _ _ s2) (hs _ _ s3) (hs _ _ s4) (hs _ _ s5) t x y t2 m
  clear hx
  go_enter Tryd.func20, Tryd.ntmps20
  go_wp2_with fail
  obtain ⟨w1, hw1⟩ : ∃ W, w.alloc (.cells #[.int .u64 (d.l.s : Int), .int .u64 (d.l.u : Int), .string d.l.p, .string d.l.t, .string d.l.b, .string d.l.ea, .string d.l.ra, .int .u64 (d.l.m : Int), .slice a1 d.l.br.length c1, .slice a2 d.c.ks.length c2, .string d.c.sm, .slice a3 d.nb.length c3, .int .u64 (d.f.s : Int), .int .u64 (d.f.u : Int), .string d.f.p, .string d.f.t, .string d.f.b, .string d.f.ea, .string d.f.ra, .int .u64 (d.f.m : Int), .slice a4 d.f.br.length c4, .slice a5 d.fb.length c5, .int .u64 (d.bits : Int), .string d.sig, .int .u64 (d.slot : Int)] 43) = W := ⟨_, rfl⟩
  have hsz1 : w1.heap.size = w.heap.size + 1 := by rw [← hw1]; simp
  rw [hw1] at A0 HD ⊢
  refine (update_any w.heap.size w1).mono ?_
  rintro e w2 ⟨a, t, x, t2, rfl, hsk, B2⟩
  have X2 := belowStep A0 A0.size B2
  have hm : ∀ w : World, (method 330 145 (.slice a 8 8) "pharos/head.item").run Tryd.prog w = .ok (168, .slice a 8 8) w := fun _ => by kernel_rfl
  have hz2 := B2.size
  have KI := item_all w2.heap.size _ (.lst (a) 8 (uptL w.heap.size t x t2)) (Nat.le_refl _) (fun a' ha' => by
    rw [up_lvs] at ha'
    obtain ⟨k, _, rfl⟩ := rg_lv ha'
    exact ⟨by show w.heap.size < _; omega, rfl⟩) (upI d) (Nat.lt_of_le_of_lt (cntI_tb _) (by omega)) w2 (Nat.le_refl _) (skRow_of (fun b hb => ⟨hb.2, fun _ => rfl⟩) _ _ _ hsk) (HD w2 (B2.mono (by omega)) _ t x t2 _)
  clear hsk B2 HD A0 hw1
  go_wp2_with fail
  refine KI.mono ?_
  rintro e w3 ⟨X, rfl, hX, hinX, B3⟩
  have X3 := belowStep X2 X2.size B3
  have KE := encode_any X (by rw [tb_er, hX]; exact htb) w3.heap.size w3 (Nat.le_refl _) (inMem_of (fun b hb => hb.2) _ hinX)
  rw [encS_er, encE_er, hX, hv1, hv2] at KE
  obtain ⟨xl, xt, xa, xc, xx⟩ := X
  simp only [Im.val, Im.l, Im.t, Im.sl, Im.a, Im.xs, Im.c] at KE ⊢
  clear KI hX hinX B3 X2 hm hv1 hv2
  go_wp2_with fail
  refine KE.mono ?_
  rintro e w4 ⟨rfl, B4⟩
  have HX : Hid _ := belowStep X3 X3.size B4
  clear KE X3 B4
  go_wp2
  go_ret2
  exact ⟨rfl, HX.out⟩
end Go.Proofs.YtmefanagpkbjeaaDoor
namespace Go.Proofs.YtmefanagpkbjeaaDoor
open Go.RowKit Go.Shelf Go.Sort

set_option maxRecDepth 20000 in
set_option maxHeartbeats 2000000 in
theorem decodeP_any (s : ByteArray) (hc : ∀ y : Im, decF 65537 s = some [er y] → cnt y < 100000000000000000) (w : World) :
    Calls Tryd.prog 93 #[.string s] w fun r w' => Below w.heap.size w w' ∧ ∃ x e, r = .returned (.tuple #[x.val, .int .i64 e]) ∧ DecR s x e ∧ inP (fun b => w.heap.size + 1 ≤ b ∧ b < w'.heap.size) w' x := by
  have A1 : Below w.heap.size w (w.alloc (.cells #[.bool false, .string ⟨#[]⟩, .slice none 0 0] 70)) := (Below.refl _ w).alloc (Nat.le_refl _) _
  have hR0 : ItIn w.heap.size zeroI (w.alloc (.cells #[.bool false, .string ⟨#[]⟩, .slice none 0 0] 70)) := World.alloc_heap_new w _
  by_cases h0 : 65536 < s.size
  · have l0 : (65536 : Int) < s.size := by omega
    go_enter Tryd.func93, Tryd.ntmps93
    go_wp2
    refine bodyPost_ret (v := .tuple #[.agg #[.bool false, .string ⟨#[]⟩, .slice none 0 0], .int .i64 42]) (by simp [results, Tryd.results93, go_sem]) rfl ⟨A1, zeroI, 42, rfl, .inl ⟨h0, rfl, rfl⟩, trivial⟩
  · have l0 : ¬ (65536 : Int) < s.size := by omega
    have hs6 : s.size ≤ 65536 := by omega
    have KI := itemsOf_all 65536 s (by omega) (by omega)
    go_enter Tryd.func93, Tryd.ntmps93
    go_wp2_with fail
    refine (KI _).mono ?_
    rintro e w1 ⟨B1, hcase⟩
    have hR : ItIn w.heap.size zeroI w1 := (B1.block _ (by simp)).trans hR0
    have BA := belowStep A1 (by simp) B1
    rw [World.size_alloc] at hcase
    clear A1 hR0 B1 KI
    obtain ⟨bR, hbR⟩ : ∃ c, w.heap.size = c := ⟨_, rfl⟩
    have HZ : Hid (w.heap.size = bR) := hbR
    rw [hbR] at hR hcase BA ⊢
    clear hbR
    have d0 : w1.cell? ⟨bR, 0, none⟩ = some (.bool false) := by rw [Lib.cell_of_heap hR]; rfl
    have d1 : w1.cell? ⟨bR, 1, none⟩ = some (.string ⟨#[]⟩) := by rw [Lib.cell_of_heap hR]; rfl
    have d2 : w1.cell? ⟨bR, 2, none⟩ = some (.slice none 0 0) := by rw [Lib.cell_of_heap hR]; rfl
    have f0 := Lib.frozen_of_heap hR 0
    have f1 := Lib.frozen_of_heap hR 1
    have f2 := Lib.frozen_of_heap hR 2
    rcases hcase with ⟨hn, rfl⟩ | ⟨a, c, ys, hd, rfl, hrow⟩
    · go_wp2
      refine bodyPost_ret (v := .tuple #[.agg #[.bool false, .string ⟨#[]⟩, .slice none 0 0], .int .i64 40]) (by simp [results, Tryd.results93, go_sem, d0, d1, d2]) rfl ⟨?_, zeroI, 40, rfl, .inr (.inl ⟨hs6, fun y h => ?_, rfl, rfl⟩), trivial⟩
      · rw [HZ.out]
        exact below_set (below_set (below_set BA bR 0 (Nat.le_refl _) _) bR 1 (Nat.le_refl _) _) bR 2 (Nat.le_refl _) _
      · have h2 := hn.symm.trans h
        cases h2
    · by_cases h1 : ys.length = 1
      · obtain ⟨y, rfl⟩ : ∃ y, ys = [y] := List.length_eq_one_iff.1 h1
        have hcy := hc y hd
        obtain ⟨⟨b, o, hb, rfl, c0, c1, c2⟩, hy, -⟩ := hrow
        rw [show o + 3 * 0 = o by omega] at c0 c1 c2
        have hym : inMem w1.heap.size w1 y := inMem_of (fun b hb => hb.2) y hy
        have KD := isDeep_any y hcy w1.heap.size
        obtain ⟨yl, yt, ya, yc, yx⟩ := y
        simp only [Im.l, Im.t, Im.sl, Im.a, Im.xs, Im.c] at c0 c1 c2
        have HX : Hid (_ ∧ _ ∧ _) := ⟨hy, BA, hd⟩
        clear hc hy BA hd h1
        dsimp only [List.length_cons, List.length_nil]
        go_wp2_with fail
        refine (KD _ (Nat.le_refl _) hym).mono ?_
        rintro e w2 ⟨rfl, B2⟩
        have e0 := (B2.cell (p := ⟨bR, 0, none⟩) hR.lt).trans d0
        have e1 := (B2.cell (p := ⟨bR, 1, none⟩) hR.lt).trans d1
        have e2 := (B2.cell (p := ⟨bR, 2, none⟩) hR.lt).trans d2
        have hR2 : ItIn bR zeroI w2 := (B2.block _ hR.lt).trans hR
        have g0 := Lib.frozen_of_heap hR2 0
        have g1 := Lib.frozen_of_heap hR2 1
        have g2 := Lib.frozen_of_heap hR2 2
        have m0 := (B2.cell (p := ⟨b, o, none⟩) hb.2).trans c0
        have m1 := (B2.cell (p := ⟨b, o + 1, none⟩) hb.2).trans c1
        have m2 := (B2.cell (p := ⟨b, o + 2, none⟩) hb.2).trans c2
        obtain ⟨dp, hdp⟩ : ∃ q, deep (.mk yl yt ya yc yx) = q := ⟨_, rfl⟩
        rw [hdp]
        have hbne : b ≠ bR := by omega
        have HY : Hid (_ ∧ _) := ⟨hdp, B2⟩
        clear hdp B2 hym KD c0 c1 c2 d0 d1 d2 f0 f1 f2 hR
        cases dp with
        | true =>
          go_wp2
          obtain ⟨hy, BA, hd⟩ := HX.out
          obtain ⟨hdp, B2⟩ := HY.out
          refine bodyPost_ret (v := .tuple #[.agg #[.bool false, .string ⟨#[]⟩, .slice none 0 0], .int .i64 41]) (by simp [results, Tryd.results93, go_sem, e0, e1, e2]) rfl ⟨?_, zeroI, 41, rfl, .inr (.inr ⟨hs6, _, hd, .inl ⟨hdp, rfl, rfl⟩⟩), trivial⟩
          rw [HZ.out]
          exact below_set (below_set (below_set (belowStep BA (by rw [← HZ.out]; exact BA.size) B2) bR 0 (Nat.le_refl _) _) bR 1 (Nat.le_refl _) _) bR 2 (Nat.le_refl _) _
        | false =>
          go_wp2
          obtain ⟨hy, BA, hd⟩ := HX.out
          obtain ⟨hdp, B2⟩ := HY.out
          refine bodyPost_ret (v := .tuple #[.agg #[.bool yl, .string yt, .slice ya yx.length yc], .int .i64 0]) (by simp [results, Tryd.results93, go_sem, e0, e1, e2]) rfl ⟨?_, .mk yl yt ya yc yx, 0, rfl, .inr (.inr ⟨hs6, _, hd, .inr ⟨hdp, rfl, rfl⟩⟩), ?_⟩
          · rw [HZ.out]
            exact below_set (below_set (below_set (belowStep BA (by rw [← HZ.out]; exact BA.size) B2) bR 0 (Nat.le_refl _) _) bR 1 (Nat.le_refl _) _) bR 2 (Nat.le_refl _) _
          · rw [HZ.out]
            refine inP_of ?_ _ hy
            intro b hb
            refine ⟨⟨hb.1, by have := hb.2; have := B2.size; simp [World.setCell]; omega⟩, fun j => ?_⟩
            rw [cell_ne _ _ _ _ _ (by show b ≠ bR; omega), cell_ne _ _ _ _ _ (by show b ≠ bR; omega), cell_ne _ _ _ _ _ (by show b ≠ bR; omega)]
            exact B2.cell (p := ⟨b, j, none⟩) hb.2
      · have l1 : ¬ (ys.length : Int) = 1 := by omega
        have l2 : ((ys.length : Int) == 1) = false := by rw [beq_eq_false_iff_ne]; exact l1
        clear hrow
        go_wp2
        refine bodyPost_ret (v := .tuple #[.agg #[.bool false, .string ⟨#[]⟩, .slice none 0 0], .int .i64 40]) (by simp [results, Tryd.results93, go_sem, d0, d1, d2]) rfl ⟨?_, zeroI, 40, rfl, .inr (.inl ⟨hs6, fun y h => ?_, rfl, rfl⟩), trivial⟩
        · rw [HZ.out]
          exact below_set (below_set (below_set BA bR 0 (Nat.le_refl _) _) bR 1 (Nat.le_refl _) _) bR 2 (Nat.le_refl _) _
        · have := Option.some.inj (hd.symm.trans h)
          have := congrArg List.length this
          rw [ers_map, List.length_map] at this
          exact h1 this
end Go.Proofs.YtmefanagpkbjeaaDoor
namespace Go.Proofs.YtmefanagpkbjeaaDoor
open Go.RowKit Go.Shelf Go.Sort

set_option maxRecDepth 20000 in
set_option maxHeartbeats 2000000 in
theorem decodeP_all (s : ByteArray) (w : World) :
    Calls Tryd.prog 93 #[.string s] w fun r w' => Below w.heap.size w w' ∧ ∃ x e, r = .returned (.tuple #[x.val, .int .i64 e]) ∧ DecR s x e ∧ inP (fun b => w.heap.size + 1 ≤ b ∧ b < w'.heap.size) w' x := by
  by_cases h0 : 65536 < s.size
  · have A1 : Below w.heap.size w (w.alloc (.cells #[.bool false, .string ⟨#[]⟩, .slice none 0 0] 70)) := (Below.refl _ w).alloc (Nat.le_refl _) _
    have l0 : (65536 : Int) < s.size := by omega
    go_enter Tryd.func93, Tryd.ntmps93
    go_wp2
    refine bodyPost_ret (v := .tuple #[.agg #[.bool false, .string ⟨#[]⟩, .slice none 0 0], .int .i64 42]) (by simp [results, Tryd.results93, go_sem]) rfl ⟨A1, zeroI, 42, rfl, .inl ⟨h0, rfl, rfl⟩, trivial⟩
  · exact decodeP_any s (fun y hy => by have := cnt_one hy; omega) w
theorem DecR.rg {s : ByteArray} {x : Im} {e : Int} (h : DecR s x e) : rgI (er x) = true ∧ cnt x < 100000000 := by
  rcases h with ⟨_, _, rfl⟩ | ⟨_, _, _, rfl⟩ | ⟨hs, y, hd, h⟩
  · exact ⟨by kernel_rfl, by decide⟩
  · exact ⟨by kernel_rfl, by decide⟩
  · rcases h with ⟨_, _, rfl⟩ | ⟨_, _, rfl⟩
    · exact ⟨by kernel_rfl, by decide⟩
    · have := cnt_one hd
      exact ⟨(enc_dec hs hd).2, by omega⟩
set_option maxRecDepth 20000 in
set_option maxHeartbeats 2000000 in
theorem hread_any (s : ByteArray) (q : Nat) (ty : TypeId) (N : Nat) (a : Option Addr) (c : Nat) (ps : List Pt) (hl : ∀ a', a' ∈ lvP (.lst a c ps) → ∃ k, k < N ∧ a' = ⟨q, k, none⟩) (hn : (lvP (.lst a c ps)).Nodup) (w : World) (hq : Ld q ty N w) (hs : skIn (fun b => b < w.heap.size ∧ b ≠ q) w (.lst a c ps)) :
    Calls Tryd.prog 53 #[.string s, .iface 145 (.slice a ps.length c)] w fun r w' => ∃ x e, DecR s x e ∧ r = .returned (.bool (decide (e = 0) && rdS (.lst a c ps) (er x))) ∧ Kq q w w' ∧ Ld q ty N w' ∧
      (e = 0 → rdS (.lst a c ps) (er x) = true → dtIs (fun b => w.heap.size ≤ b ∧ b < w'.heap.size) w' (.lst a c ps) (er x)) := by
  have KD := decodeP_all s w
  have hm : ∀ w : World, (method 330 145 (.slice a ps.length c) "pharos/head.read").run Tryd.prog w = .ok (169, .slice a ps.length c) w := fun _ => by kernel_rfl
  go_enter Tryd.func53, Tryd.ntmps53
  go_wp2_with fail
  refine KD.mono ?_
  rintro r w1 ⟨B1, X, e, rfl, hD, hin⟩
  have hql := hq.lt
  have hq1 := hq.below B1
  obtain ⟨sx, hsx⟩ : ∃ b, rdS (.lst a c ps) (er X) = b := ⟨_, rfl⟩
  have KR : ∀ W : World, Below w1.heap.size w1 W → Calls Tryd.prog 169 #[.slice a ps.length c, X.val] W fun e w' => e = .returned (.bool sx) ∧ Rk q ty N (lvP (.lst a c ps)) W w' ∧ (sx = true → dtIs (fun b => W.heap.size ≤ b ∧ b < w'.heap.size) w' (.lst a c ps) (er X)) := fun W hB => by
    rw [← hsx]
    have hX : Below w.heap.size w W := belowStep B1 B1.size hB
    exact read_all q ty N _ (.lst a c ps) (Nat.le_refl _) hl hn X hD.rg.1 hD.rg.2 W (hq.below hX) (skIn_of (fun b hb => ⟨⟨Nat.lt_of_lt_of_le hb.1 hX.size, hb.2⟩, fun k => hX.cell (p := ⟨b, k, none⟩) hb.1⟩) _ hs) (inP_of (fun b hb => ⟨⟨Nat.lt_of_lt_of_le hb.2 hB.size, by omega⟩, fun k => hB.cell (p := ⟨b, k, none⟩) hb.2⟩) X hin)
  have HD : Hid (_ ∧ _) := ⟨hD, hsx⟩
  have HB : Hid (_ ∧ _) := ⟨B1, hq1⟩
  have hz1 := B1.size
  clear KD hD hin hs hl hn hsx B1 hq1 hq
  obtain ⟨xl, xt, xa, xc, xx⟩ := X
  simp only [Im.val, Im.l, Im.t, Im.sl, Im.a, Im.xs, Im.c] at KR ⊢
  have A2 := be_new w1 (.cells #[.bool xl, .string xt, .slice xa xx.length xc] 70)
  have KR2 := KR _ A2
  have hz2 := A2.size
  clear KR
  by_cases he : e = 0
  · subst he
    have HA : Hid _ := A2
    clear A2
    go_wp2_with fail
    refine KR2.mono ?_
    rintro e w2 ⟨rfl, hk, hd⟩
    have HK : Hid (_ ∧ _) := ⟨hk, hd⟩
    clear hk hd KR2
    go_wp2
    go_ret
    obtain ⟨hk, hd⟩ := HK.out
    obtain ⟨B1, hq1⟩ := HB.out
    refine ⟨_, 0, HD.out.1, by rw [HD.out.2]; simp, (Kq.below (belowStep B1 B1.size HA.out)).trans hk.k, hk.d, fun _ h => ?_⟩
    rw [HD.out.2] at h
    exact dtIs_of (fun b hb => ⟨⟨by omega, hb.2⟩, fun _ => rfl⟩) _ _ (fun _ _ => rfl) (hd h)
  · have he2 : (e == 0) = false := by rw [beq_eq_false_iff_ne]; exact he
    have HA : Hid _ := A2
    clear A2 KR2
    go_wp2
    go_ret
    obtain ⟨B1, hq1⟩ := HB.out
    refine ⟨_, e, HD.out.1, by simp [he], Kq.below (belowStep B1 B1.size HA.out), hq1.below HA.out, fun h => absurd h he⟩
end Go.Proofs.YtmefanagpkbjeaaDoor
namespace Go.Proofs.YtmefanagpkbjeaaDoor
open Go.RowKit Go.Shelf Go.Sort

theorem txs_of {P : Nat → Prop} {W : World} {q o : Nat} {x : It} (h : dtIs P W (.txs ⟨q, o, none⟩) x) : ∃ ts a c, x = tsI ts ∧ W.cell? ⟨q, o, none⟩ = some (.slice a ts.length c) ∧ slP P W a ts := by
  obtain ⟨a, c, ts, h1, h2, h3⟩ := h
  exact ⟨ts, a, c, h3, h1, h2⟩
theorem lt_of {P : Nat → Prop} {W : World} {q o : Nat} {t : Option Addr × Option Addr × Option Addr} {x : It} (h : dtIs P W (ltP q o t) x) : ∃ d a c, x = ltI d ∧ d.ok ∧ cAt W q o (ltV d a c) ∧ slP P W a d.br := by
  obtain ⟨_, rfl, _, _, rfl, ⟨_, rfl, _, _, rfl, ⟨s, n1, c0, rfl⟩, _, _, rfl, ⟨u, n2, c1, rfl⟩, _, _, rfl, ⟨p, c2, rfl⟩, _, _, rfl, ⟨st, c3, rfl⟩, _, _, rfl, ⟨b, c4, rfl⟩, rfl⟩, _, _, rfl, ⟨_, rfl, _, _, rfl, ⟨ea, c5, rfl⟩, _, _, rfl, ⟨ra, c6, rfl⟩, _, _, rfl, ⟨m, n3, c7, rfl⟩, rfl⟩, _, _, rfl, hb, rfl⟩ := h
  obtain ⟨br, a, c, rfl, c8, hp⟩ := txs_of hb
  refine ⟨⟨s, u, p, st, b, ea, ra, m, br⟩, a, c, rfl, ⟨n1, n2, n3⟩, fun j v hv => ?_, hp⟩
  match j, hv with
  | 0, hv => cases hv; exact c0
  | 1, hv => cases hv; exact c1
  | 2, hv => cases hv; exact c2
  | 3, hv => cases hv; exact c3
  | 4, hv => cases hv; exact c4
  | 5, hv => cases hv; exact c5
  | 6, hv => cases hv; exact c6
  | 7, hv => cases hv; exact c7
  | 8, hv => cases hv; exact c8
  | j + 9, hv => simp [ltV] at hv
theorem cm_of {P : Nat → Prop} {W : World} {q o n : Nat} {t : Option Addr} {x : It} (h : dtIs P W (.lst t n (cmL q o)) x) : ∃ d a c, x = cmI d ∧ cAt W q o (cmV d a c) ∧ slP P W a d.ks := by
  obtain ⟨_, rfl, _, _, rfl, hb, _, _, rfl, ⟨sm, c1, rfl⟩, rfl⟩ := h
  obtain ⟨ks, a, c, rfl, c0, hp⟩ := txs_of hb
  refine ⟨⟨ks, sm⟩, a, c, rfl, fun j v hv => ?_, hp⟩
  match j, hv with
  | 0, hv => cases hv; exact c0
  | 1, hv => cases hv; exact c1
  | j + 2, hv => simp [cmV] at hv
theorem bt_of {P : Nat → Prop} {W : World} {q n : Nat} {t : Option Addr × Option Addr × Option Addr} {z y : Option Addr} {x : It} (h : dtIs P W (.lst y n (btL q t z)) x) :
    ∃ d a1 c1 a2 c2 a3 c3, x = btI d ∧ d.l.ok ∧ cAt W q 0 (ltV d.l a1 c1) ∧ cAt W q 9 (cmV d.c a2 c2) ∧ W.cell? ⟨q, 11, none⟩ = some (.slice a3 d.br.length c3) ∧ slP P W a1 d.l.br ∧ slP P W a2 d.c.ks ∧ slP P W a3 d.br := by
  obtain ⟨_, rfl, _, _, rfl, h1, _, _, rfl, h2, _, _, rfl, h3, rfl⟩ := h
  obtain ⟨l, a1, c1, rfl, ok, e1, s1⟩ := lt_of h1
  obtain ⟨c, a2, c2, rfl, e2, s2⟩ := cm_of h2
  obtain ⟨br, a3, c3, rfl, e3, s3⟩ := txs_of h3
  exact ⟨⟨l, c, br⟩, a1, c1, a2, c2, a3, c3, rfl, ok, e1, e2, e3, s1, s2, s3⟩
theorem up_of {P : Nat → Prop} {W : World} {q n : Nat} {t t2 : Option Addr × Option Addr × Option Addr} {z y : Option Addr} {x : It} (h : dtIs P W (.lst y n (uptL q t z t2)) x) :
    ∃ d a1 c1 a2 c2 a3 c3 a4 c4 a5 c5, x = upI d ∧ (d.l.ok ∧ d.f.ok ∧ U6 d.bits ∧ U6 d.slot) ∧ cAt W q 0 (ltV d.l a1 c1) ∧ cAt W q 9 (cmV d.c a2 c2) ∧ W.cell? ⟨q, 11, none⟩ = some (.slice a3 d.nb.length c3) ∧ cAt W q 12 (ltV d.f a4 c4) ∧ W.cell? ⟨q, 21, none⟩ = some (.slice a5 d.fb.length c5)
      ∧ W.cell? ⟨q, 22, none⟩ = some (.int .u64 (d.bits : Int)) ∧ W.cell? ⟨q, 23, none⟩ = some (.string d.sig) ∧ W.cell? ⟨q, 24, none⟩ = some (.int .u64 (d.slot : Int)) ∧ slP P W a1 d.l.br ∧ slP P W a2 d.c.ks ∧ slP P W a3 d.nb ∧ slP P W a4 d.f.br ∧ slP P W a5 d.fb := by
  obtain ⟨_, rfl, _, _, rfl, h1, _, _, rfl, h2, _, _, rfl, h3, _, _, rfl, h4, _, _, rfl, h5, _, _, rfl, ⟨bits, n1, e6, rfl⟩, _, _, rfl, ⟨sig, e7, rfl⟩, _, _, rfl, ⟨slot, n2, e8, rfl⟩, rfl⟩ := h
  obtain ⟨l, a1, c1, rfl, ok, e1, s1⟩ := lt_of h1
  obtain ⟨c, a2, c2, rfl, e2, s2⟩ := cm_of h2
  obtain ⟨br, a3, c3, rfl, e3, s3⟩ := txs_of h3
  obtain ⟨f, a4, c4, rfl, okf, e4, s4⟩ := lt_of h4
  obtain ⟨fb, a5, c5, rfl, e5, s5⟩ := txs_of h5
  exact ⟨⟨l, c, br, f, fb, bits, sig, slot⟩, a1, c1, a2, c2, a3, c3, a4, c4, a5, c5, rfl, ⟨ok, okf, n1, n2⟩, e1, e2, e3, e4, e5, e6, e7, e8, s1, s2, s3, s4, s5⟩
theorem ld_row {q : Nat} {ty : TypeId} {N : Nat} {W : World} (h : Ld q ty N W) (vs : List Value) (hl : vs.length = N) (hv : cAt W q 0 vs) : W.heap[q]? = some (.cells vs.toArray ty (0, 0)) := by
  obtain ⟨cs, h, hs⟩ := h
  have : cs = vs.toArray := by
    apply Array.ext
    · rw [hs, List.size_toArray, hl]
    · intro i h1 h2
      have h3 := hv i vs[i] (List.getElem?_eq_getElem (by simpa using h2))
      rw [Nat.zero_add, Lib.cell_of_heap h, Array.getElem?_eq_getElem h1] at h3
      rw [Option.some.inj h3, List.getElem_toArray]
  rw [h, this]
/-- Such parts read what they tell. -/
theorem rd_num (n : Nat) (hn : U6 n) (a : Addr) : rdS (.num a) (tI (numOf n)) = true := by
  show (!false && decide (vE (numOf n) = 0)) = true
  rw [(num_back n hn).2]
  rfl
theorem rd_txt (t : ByteArray) (a : Addr) : rdS (.txt a) (tI t) = true := rfl
theorem rd_txs (ts : List ByteArray) (a : Addr) : rdS (.txs a) (tsI ts) = true := by
  show (true && (ts.map tI).all (fun y => !lI y)) = true
  rw [Bool.true_and, List.all_eq_true]
  intro x hx
  obtain ⟨t, _, rfl⟩ := List.mem_map.1 hx
  rfl
theorem rd_lt (d : LtD) (hd : d.ok) (q o : Nat) (t : Option Addr × Option Addr × Option Addr) : rdS (ltP q o t) (ltI d) = true := by
  have h1 := rd_num d.s hd.1 ⟨q, o, none⟩
  have h2 := rd_num d.u hd.2.1 ⟨q, o + 1, none⟩
  have h3 := rd_num d.m hd.2.2 ⟨q, o + 5 + 2, none⟩
  have h4 := rd_txs d.br ⟨q, o + 8, none⟩
  show (true && ((true && (rdS (.num ⟨q, o, none⟩) (tI (numOf d.s)) && (rdS (.num ⟨q, o + 1, none⟩) (tI (numOf d.u)) && (true && (true && (true && true)))))) && ((true && (true && (true && (rdS (.num ⟨q, o + 5 + 2, none⟩) (tI (numOf d.m)) && true)))) && (rdS (.txs ⟨q, o + 8, none⟩) (tsI d.br) && true)))) = true
  rw [h1, h2, h3, h4]
  rfl
theorem rd_cm (d : CmD) (q o n : Nat) (a : Option Addr) : rdS (.lst a n (cmL q o)) (cmI d) = true := by
  have h4 := rd_txs d.ks ⟨q, o, none⟩
  show (true && (rdS (.txs ⟨q, o, none⟩) (tsI d.ks) && (true && true))) = true
  rw [h4]
  rfl
theorem rd_bt (d : BtD) (hd : d.l.ok) (q n : Nat) (t : Option Addr × Option Addr × Option Addr) (z y : Option Addr) : rdS (.lst y n (btL q t z)) (btI d) = true := by
  have h1 := rd_lt d.l hd q 0 t
  have h2 := rd_cm d.c q 9 2 z
  have h3 := rd_txs d.br ⟨q, 11, none⟩
  show (true && (rdS (ltP q 0 t) (ltI d.l) && (rdS (.lst z 2 (cmL q 9)) (cmI d.c) && (rdS (.txs ⟨q, 11, none⟩) (tsI d.br) && true)))) = true
  rw [h1, h2, h3]
  rfl
def UpD.ok (d : UpD) : Prop := d.l.ok ∧ d.f.ok ∧ U6 d.bits ∧ U6 d.slot
theorem rd_up (d : UpD) (hd : d.ok) (q n : Nat) (t t2 : Option Addr × Option Addr × Option Addr) (z y : Option Addr) : rdS (.lst y n (uptL q t z t2)) (upI d) = true := by
  have h1 := rd_lt d.l hd.1 q 0 t
  have h2 := rd_cm d.c q 9 2 z
  have h3 := rd_txs d.nb ⟨q, 11, none⟩
  have h4 := rd_lt d.f hd.2.1 q 12 t2
  have h5 := rd_txs d.fb ⟨q, 21, none⟩
  have h6 := rd_num d.bits hd.2.2.1 ⟨q, 22, none⟩
  have h7 := rd_num d.slot hd.2.2.2 ⟨q, 24, none⟩
  show (true && (rdS (ltP q 0 t) (ltI d.l) && (rdS (.lst z 2 (cmL q 9)) (cmI d.c) && (rdS (.txs ⟨q, 11, none⟩) (tsI d.nb) && (rdS (ltP q 12 t2) (ltI d.f) && (rdS (.txs ⟨q, 21, none⟩) (tsI d.fb) && (rdS (.num ⟨q, 22, none⟩) (tI (numOf d.bits)) && (true && (rdS (.num ⟨q, 24, none⟩) (tI (numOf d.slot)) && true))))))))) = true
  rw [h1, h2, h3, h4, h5, h6, h7]
  rfl
/-- Bytes are an item's. -/
def DecD (s : ByteArray) (x : It) : Prop := s.size ≤ 65536 ∧ decF 65537 s = some [x] ∧ dprI 12 x = false
theorem decD_of {s : ByteArray} {X : Im} (h : DecR s X 0) : DecD s (er X) := by
  rcases h with ⟨_, h, _⟩ | ⟨_, _, h, _⟩ | ⟨h1, y, h2, ⟨_, h, _⟩ | ⟨h3, _, rfl⟩⟩
  · cases h
  · cases h
  · cases h
  · exact ⟨h1, h2, by rw [← deep_er]; exact h3⟩
theorem decD_one {s : ByteArray} {x y : It} (h : DecD s x) (g : DecD s y) : x = y := by
  have := h.2.1.symm.trans g.2.1
  injection this with this
  injection this
theorem decD_not {s : ByteArray} {X : Im} {e : Int} (h : DecR s X e) (he : e ≠ 0) (x : It) : ¬ DecD s x := fun g => by
  rcases h with ⟨h, _, _⟩ | ⟨_, h, _, _⟩ | ⟨h1, y, h2, ⟨h3, _, _⟩ | ⟨_, h, _⟩⟩
  · have := g.1; omega
  · exact h x g.2.1
  · have : er y = x := by
      have := h2.symm.trans g.2.1
      injection this with this
      injection this
    subst this
    have := g.2.2
    rw [← deep_er, h3] at this
    cases this
  · exact he h
theorem tI_inj {a b : ByteArray} (h : tI a = tI b) : a = b := by injection h
theorem tIs_inj : ∀ {a b : List ByteArray}, a.map tI = b.map tI → a = b
  | [], [], _ => rfl
  | [], _ :: _, h => by cases h
  | _ :: _, [], h => by cases h
  | x :: r, y :: s, h => by
    injection h with h1 h2
    rw [tI_inj h1, tIs_inj h2]
theorem tsI_inj {a b : List ByteArray} (h : tsI a = tsI b) : a = b := by
  injection h with _ _ h
  exact tIs_inj h
theorem ltI_inj {d g : LtD} (hd : d.ok) (hg : g.ok) (h : ltI d = ltI g) : d = g := by
  obtain ⟨s, u, p, t, b, ea, ra, m, br⟩ := d
  obtain ⟨s', u', p', t', b', ea', ra', m', br'⟩ := g
  simp only [ltI, lsI, It.mk.injEq, List.cons.injEq, and_true, true_and] at h
  obtain ⟨⟨h1, h2, h3, h4, h5⟩, ⟨h6, h7, h8⟩, h9⟩ := h
  obtain rfl := num_inj _ _ hd.1 hg.1 (tI_inj h1)
  obtain rfl := num_inj _ _ hd.2.1 hg.2.1 (tI_inj h2)
  obtain rfl := num_inj _ _ hd.2.2 hg.2.2 (tI_inj h8)
  obtain rfl := tI_inj h3
  obtain rfl := tI_inj h4
  obtain rfl := tI_inj h5
  obtain rfl := tI_inj h6
  obtain rfl := tI_inj h7
  obtain rfl := tsI_inj h9
  rfl
theorem cmI_inj {d g : CmD} (h : cmI d = cmI g) : d = g := by
  obtain ⟨ks, sm⟩ := d
  obtain ⟨ks', sm'⟩ := g
  simp only [cmI, lsI, It.mk.injEq, List.cons.injEq, and_true, true_and] at h
  obtain rfl := tsI_inj h.1
  obtain rfl := tI_inj h.2
  rfl
theorem btI_inj {d g : BtD} (hd : d.l.ok) (hg : g.l.ok) (h : btI d = btI g) : d = g := by
  obtain ⟨l, c, br⟩ := d
  obtain ⟨l', c', br'⟩ := g
  simp only [btI, lsI, It.mk.injEq, List.cons.injEq, and_true, true_and] at h
  obtain rfl := ltI_inj hd hg h.1
  obtain rfl := cmI_inj h.2.1
  obtain rfl := tsI_inj h.2.2
  rfl
theorem upI_inj {d g : UpD} (hd : d.ok) (hg : g.ok) (h : upI d = upI g) : d = g := by
  obtain ⟨l, c, nb, f, fb, bits, sig, slot⟩ := d
  obtain ⟨l', c', nb', f', fb', bits', sig', slot'⟩ := g
  simp only [upI, lsI, It.mk.injEq, List.cons.injEq, and_true, true_and] at h
  obtain ⟨h1, h2, h3, h4, h5, h6, h7, h8⟩ := h
  obtain rfl := ltI_inj hd.1 hg.1 h1
  obtain rfl := cmI_inj h2
  obtain rfl := tsI_inj h3
  obtain rfl := ltI_inj hd.2.1 hg.2.1 h4
  obtain rfl := tsI_inj h5
  obtain rfl := num_inj _ _ hd.2.2.1 hg.2.2.1 (tI_inj h6)
  obtain rfl := tI_inj h7
  obtain rfl := num_inj _ _ hd.2.2.2 hg.2.2.2 (tI_inj h8)
  rfl
def zLt : LtD := ⟨0, 0, ⟨#[]⟩, ⟨#[]⟩, ⟨#[]⟩, ⟨#[]⟩, ⟨#[]⟩, 0, []⟩
def zCm : CmD := ⟨[], ⟨#[]⟩⟩
def zBt : BtD := ⟨zLt, zCm, []⟩
def zUp : UpD := ⟨zLt, zCm, [], zLt, [], 0, ⟨#[]⟩, 0⟩
/-- Which Boot bytes are, or that they are none. -/
def BtR (s : ByteArray) (d : BtD) (e : Int) : Prop := (e = 0 ∧ d.l.ok ∧ DecD s (btI d)) ∨ (e = 130 ∧ d = zBt ∧ ∀ g : BtD, g.l.ok → ¬ DecD s (btI g))
def UpR (s : ByteArray) (d : UpD) (e : Int) : Prop := (e = 0 ∧ d.ok ∧ DecD s (upI d)) ∨ (e = 130 ∧ d = zUp ∧ ∀ g : UpD, g.ok → ¬ DecD s (upI g))
theorem btR_one {s : ByteArray} {d g : BtD} {e f : Int} (h : BtR s d e) (k : BtR s g f) : d = g ∧ e = f := by
  rcases h with ⟨rfl, h1, h2⟩ | ⟨rfl, rfl, h2⟩ <;> rcases k with ⟨rfl, k1, k2⟩ | ⟨rfl, rfl, k2⟩
  · exact ⟨btI_inj h1 k1 (decD_one h2 k2), rfl⟩
  · exact absurd h2 (k2 d h1)
  · exact absurd k2 (h2 g k1)
  · exact ⟨rfl, rfl⟩
theorem upR_one {s : ByteArray} {d g : UpD} {e f : Int} (h : UpR s d e) (k : UpR s g f) : d = g ∧ e = f := by
  rcases h with ⟨rfl, h1, h2⟩ | ⟨rfl, rfl, h2⟩ <;> rcases k with ⟨rfl, k1, k2⟩ | ⟨rfl, rfl, k2⟩
  · exact ⟨upI_inj h1 k1 (decD_one h2 k2), rfl⟩
  · exact absurd h2 (k2 d h1)
  · exact absurd k2 (h2 g k1)
  · exact ⟨rfl, rfl⟩
end Go.Proofs.YtmefanagpkbjeaaDoor
namespace Go.Proofs.YtmefanagpkbjeaaDoor
open Go.RowKit Go.Shelf Go.Sort

set_option maxHeartbeats 1000000 in
theorem rtext_any (s : ByteArray) (w : World) : Calls Tryd.prog 52 #[.string s] w fun e w' => e = .returned (txt s).val ∧ Below w.heap.size w w' := by
  go_enter Tryd.func52, Tryd.ntmps52
  go_wp2
  refine bodyPost_ret (v := .agg #[.bool false, .string s, .slice none 0 0]) (by simp [results, Tryd.results52, go_sem]) rfl ⟨rfl, ?_⟩
  exact (Below.refl _ w).alloc (Nat.le_refl _) _
set_option maxHeartbeats 1000000 in
theorem rlist_any (a : Option Addr) (n c : Nat) (w : World) : Calls Tryd.prog 46 #[.slice a n c] w fun e w' => e = .returned (.agg #[.bool true, .string ⟨#[]⟩, .slice a n c]) ∧ Below w.heap.size w w' := by
  go_enter Tryd.func46, Tryd.ntmps46
  go_wp2
  refine bodyPost_ret (v := .agg #[.bool true, .string ⟨#[]⟩, .slice a n c]) (by simp [results, Tryd.results46, go_sem]) rfl ⟨rfl, ?_⟩
  exact (Below.refl _ w).alloc (Nat.le_refl _) _
set_option maxHeartbeats 1000000 in
theorem rnum_any (n : Nat) (hn : n < 18446744073709551616) (w : World) : Calls Tryd.prog 51 #[.int .u64 n] w fun e w' => e = .returned (txt (numOf n)).val ∧ Below w.heap.size w w' := by
  have KN := fun w => rnumber_any n hn w
  have KT := fun w => rtext_any (numOf n) w
  obtain ⟨s, hs⟩ : ∃ s, numOf n = s := ⟨_, rfl⟩
  rw [hs] at KN KT ⊢
  clear hs
  have A1 := be_new w (.cells #[.bool false, .string ⟨#[]⟩, .slice none 0 0] 70)
  have hx := it_new w zeroI
  go_enter Tryd.func51, Tryd.ntmps51
  go_wp2_with fail
  refine (KN _).mono ?_
  rintro e w1 ⟨rfl, B1⟩
  have hx1 := (B1.block w.heap.size (by simp)).trans hx
  have A2 := belowStep A1 A1.size B1
  clear A1 B1 hx KN
  go_wp2_with fail
  refine (KT _).mono ?_
  rintro e w2 ⟨rfl, B2⟩
  have hx2 := (B2.block w.heap.size (by have := (Array.getElem?_eq_some_iff.1 hx1).1; omega)).trans hx1
  have A3 := belowStep A2 A2.size B2
  clear A2 B2 hx1 KT
  have f0 := fun o => Lib.frozen_of_heap hx2 o
  have d0 : w2.cell? ⟨w.heap.size, 0, none⟩ = some (.bool false) := by rw [Lib.cell_of_heap hx2]; rfl
  have d1 : w2.cell? ⟨w.heap.size, 1, none⟩ = some (.string ⟨#[]⟩) := by rw [Lib.cell_of_heap hx2]; rfl
  have d2 : w2.cell? ⟨w.heap.size, 2, none⟩ = some (.slice none 0 0) := by rw [Lib.cell_of_heap hx2]; rfl
  simp only [txt, Im.val, Im.sl, Im.l, Im.t, Im.a, Im.xs, Im.c, List.length_nil]
  go_wp2
  refine bodyPost_ret (v := .agg #[.bool false, .string s, .slice none 0 0]) (by simp [results, Tryd.results51, go_sem, d0, d1, d2]) rfl ⟨rfl, ?_⟩
  exact below_set (below_set (below_set A3 _ _ (Nat.le_refl _) _) _ _ (Nat.le_refl _) _) _ _ (Nat.le_refl _) _
theorem rowP_mk {P : Nat → Prop} {W : World} {g : Nat} (hg : P g) : ∀ (ys : List Im) (i : Nat), (∀ j y, ys[j]? = some y → W.cell? ⟨g, 3 * (i + j), none⟩ = some (.bool y.l) ∧ W.cell? ⟨g, 3 * (i + j) + 1, none⟩ = some (.string y.t) ∧ W.cell? ⟨g, 3 * (i + j) + 2, none⟩ = some y.sl ∧ inP P W y) → rowP P W (some ⟨g, 0, none⟩) i ys
  | [], _, _ => trivial
  | y :: r, i, h => by
    obtain ⟨h0, h1, h2, h3⟩ := h 0 y rfl
    rw [Nat.add_zero] at h0 h1 h2
    refine ⟨⟨g, 0, hg, rfl, by rw [Nat.zero_add]; exact h0, by rw [Nat.zero_add]; exact h1, by rw [Nat.zero_add]; exact h2⟩, h3, rowP_mk hg r (i + 1) (fun j y' hy => ?_)⟩
    have := h (j + 1) y' hy
    rwa [show i + (j + 1) = i + 1 + j by omega] at this
theorem cells3_at : ∀ (ys : List Im) (j : Nat) (y : Im), ys[j]? = some y → (ys.flatMap cell3)[3 * j]? = some (.bool y.l) ∧ (ys.flatMap cell3)[3 * j + 1]? = some (.string y.t) ∧ (ys.flatMap cell3)[3 * j + 2]? = some y.sl
  | [], _, _, h => by cases h
  | x :: r, 0, y, h => by
    cases h
    exact ⟨rfl, rfl, rfl⟩
  | x :: r, j + 1, y, h => by
    have ih := cells3_at r j y h
    have e : (x :: r).flatMap cell3 = .bool x.l :: .string x.t :: x.sl :: r.flatMap cell3 := rfl
    rw [e, show 3 * (j + 1) = 3 * j + 3 by omega]
    exact ih
/-- A new block of items is a row of them. -/
theorem row_new {W : World} {B : Nat} (hB : B ≤ W.heap.size) (ys : List Im) (h : ∀ y ∈ ys, inP (fun b => B ≤ b ∧ b < W.heap.size) W y) {cs : Array Value} (hcs : cs = (ys.flatMap cell3).toArray) : rowP (fun b => B ≤ b ∧ b < (W.alloc (.cells cs 70)).heap.size) (W.alloc (.cells cs 70)) (some ⟨W.heap.size, 0, none⟩) 0 ys := by
  have hb := be_new W (.cells cs 70)
  refine rowP_mk ⟨hB, by simp⟩ ys 0 (fun j y hy => ?_)
  have hc := cells3_at ys j y hy
  rw [Nat.zero_add]
  have hg : ∀ k, (W.alloc (.cells cs 70)).cell? ⟨W.heap.size, k, none⟩ = (ys.flatMap cell3)[k]? := fun k => by
    rw [Lib.cell_of_heap (World.alloc_heap_new W _), hcs]
    simp
  exact ⟨(hg _).trans hc.1, (hg _).trans hc.2.1, (hg _).trans hc.2.2, inP_of (fun b hb' => ⟨⟨hb'.1, Nat.lt_of_lt_of_le hb'.2 hb.size⟩, fun k => hb.cell (p := ⟨b, k, none⟩) hb'.2⟩) _ (h y (List.mem_of_getElem? hy))⟩
theorem items_owns {z : Nat} {v : Value} {ys : List Im} {W : World} (h : W.ownsRow z 70 3 v ys.length (ys.flatMap cell3)) (hi : ∀ y ∈ ys, inP (fun b => z ≤ b ∧ b < W.heap.size) W y) : ∃ a c, v = .slice a ys.length c ∧ rowP (fun b => z ≤ b ∧ b < W.heap.size) W a 0 ys := by
  rcases h.2 with ⟨h1, h2⟩ | ⟨g, c, cur, h1, h2, h3, h4, h5, h6, h7⟩
  · exact ⟨none, 0, by rw [h1, h2], by rw [List.length_eq_zero_iff.1 h2]; trivial⟩
  · have hlt := h.lt g (by rw [h1]; rfl)
    subst h1
    refine ⟨_, c, rfl, rowP_mk hlt _ 0 (fun j y hy => ?_)⟩
    have hc := cells3_at _ j y hy
    have hj := (List.getElem?_eq_some_iff.1 hy).1
    rw [Nat.zero_add]
    have q : ∀ k u, k < ys.length * 3 → (ys.flatMap cell3)[k]? = some u → W.cell? ⟨g, k, none⟩ = some u := fun k u hk hu => by rw [h.cellAt k (by omega)]; exact hu
    exact ⟨q _ _ (by omega) hc.1, q _ _ (by omega) hc.2.1, q _ _ (by omega) hc.2.2, hi y (List.mem_of_getElem? hy)⟩
set_option maxRecDepth 100000 in
set_option maxHeartbeats 4000000 in
theorem rtexts_any (es : List ByteArray) (hK : es.length < 100000000) (a : Option Addr) (c n : Nat) (w : World) (hn : n ≤ w.heap.size) (hp : slS n w a es) :
    Calls Tryd.prog 49 #[.slice a es.length c] w fun e w' => ∃ X : Im, e = .returned X.val ∧ er X = tsI es ∧ inP (fun b => w.heap.size ≤ b ∧ b < w'.heap.size) w' X ∧ Below w.heap.size w w' := by
  obtain ⟨i0, hi0, hz0, hz1, hz2⟩ := info_parts info_item
  obtain ⟨N, hN⟩ : ∃ N, es.length = N := ⟨_, rfl⟩
  have HN : Hid (es.length = N) := hN
  rw [hN] at hK ⊢
  have A0 := be_new w (.cells #[.bool false, .string ⟨#[]⟩, .slice none 0 0] 70)
  have hx := it_new w zeroI
  obtain ⟨y, hy⟩ : ∃ y, w.heap.size = y := ⟨_, rfl⟩
  have HY : Hid (w.heap.size = y) := hy
  go_enter Tryd.func49, Tryd.ntmps49
  go_wp2_with fail
  obtain ⟨w1, hw1⟩ : ∃ W, w.alloc (.cells #[.bool false, .string ⟨#[]⟩, .slice none 0 0] 70) = W := ⟨_, rfl⟩
  have hsz1 : w1.heap.size = y + 1 := by rw [← hw1]; simp [hy]
  rw [hy] at A0 hx hn
  rw [hw1] at A0 ⊢
  replace hx : ItIn y zeroI w1 := by rw [← hw1]; exact hx
  clear hw1 hN hy
  go_loopg [3, 4] N (fun gk v i wr => ∃ k : Nat, k + gk = N ∧ i = .int .i64 k ∧ Below w1.heap.size w1 wr ∧ wr.ownsRow w1.heap.size 70 3 v k (((es.take k).map txt).flatMap cell3))
  case atStart => exact ⟨0, by omega, rfl, Below.refl _ _, World.ownsRow_nil _ _ _ _⟩
  case round =>
    obtain ⟨k, hk, rfl, BW, hown⟩ := hrel
    have hzr := BW.size
    by_cases hlt : k < N
    · have l1 : (k : Int) < N := by omega
      obtain ⟨s, hs⟩ : ∃ x, es[k]? = some x := ⟨es[k]'(by have := HN.out; omega), List.getElem?_eq_getElem (by have := HN.out; omega)⟩
      obtain ⟨b, o, rfl, hb, q0⟩ := slS_at hp k s hs
      have q1 := (BW.cell (p := ⟨b, o + k, none⟩) (by show b < _; omega)).trans ((A0.cell (p := ⟨b, o + k, none⟩) (by show b < y; omega)).trans q0)
      have wk : IntKind.i64.wrap ((k : Int) + 1) = ((k + 1 : Nat) : Int) := by rw [IntKind.wrap_i64]; omega
      have HXK : Hid (es.take (k + 1) = es.take k ++ [s]) := by
        show _ = _
        rw [List.take_add_one, hs]
        rfl
      have HX : Hid (_ ∧ _) := ⟨BW, hown⟩
      have KT := rtext_any s wr
      clear q0 hp BW hown hs
      go_wp2_with fail
      refine KT.mono ?_
      rintro e w5 ⟨rfl, B5⟩
      obtain ⟨BW, hown⟩ := HX.out
      have hzr5 := B5.size
      simp only [txt, Im.val, Im.sl, Im.l, Im.t, Im.a, Im.xs, Im.c, List.length_nil]
      have A6 := be_new w5 (.cells #[.bool false, .string s, .slice none 0 0] 70)
      have hown6 := owns_below (owns_below hown B5) A6
      obtain ⟨v7, w7, hrun7, ho7, hg7, _⟩ := run_append_own (P := Tryd.prog) (w5.alloc (.cells #[.bool false, .string s, .slice none 0 0] 70)) w1.heap.size 68 68 70 i0 _ 3 48 Tryd.underlying68 hi0 hz0 hz1 hz2 rfl (by decide) u3 k _ hown6 ⟨w5.heap.size, 0, none⟩ 1 1 [.bool false, .string s, .slice none 0 0] rfl (fun j u hu => by
        rw [Addr.add_mid, Nat.zero_add, Lib.cell_of_heap (World.alloc_heap_new w5 _)]
        simpa using hu) (fun u hu => by
        simp at hu
        rcases hu with h | h | h <;> rw [h] <;> rfl) (by unfold maxLen; omega) (by omega) (by simp; omega)
      have HR7 : Hid _ := hrun7
      have HO7 : Hid (_ ∧ _ ∧ _ ∧ _) := ⟨ho7, hg7, belowStep B5 B5.size A6, fun bb hb' => (hown6.lt bb hb').1⟩
      clear KT hown6 hrun7 ho7 hg7 B5 A6 BW hown q1
      go_wp2_with (at_builtin; refine Lib.wpList_append_run _ rfl _ _ 68 68 rfl _ _ rfl rfl _ _ HR7.out ?_)
      go_wp2
      go_roundg (gk - 1)
      case measure => omega
      case rel =>
        obtain ⟨ho7, hg7, B5, hr7⟩ := HO7.out
        obtain ⟨BW, hown⟩ := HX.out
        refine ⟨k + 1, by omega, by first | rfl | (congr 1; omega), (belowStep BW hzr B5).grown hg7 (by have := B5.size; omega) (fun bb hb' => hr7 bb hb'), ?_⟩
        rw [HXK.out, List.map_append, List.flatMap_append]
        exact ho7
    · have hk2 : k = N := by omega
      have l1 : ¬ (k : Int) < N := by omega
      rw [hk2, List.take_of_length_le (by have := HN.out; omega)] at hown
      have hyn : (es.map txt).length = N := by rw [List.length_map]; exact HN.out
      rw [← hyn] at hown
      obtain ⟨a7, c7, rfl, hrow⟩ := items_owns hown (fun y hy => by
        obtain ⟨t, _, rfl⟩ := List.mem_map.1 hy
        trivial)
      have KL := rlist_any a7 (es.map txt).length c7 wr
      rw [hyn] at KL
      have hers : ers (es.map txt) = es.map tI := by
        rw [ers_map, List.map_map]
        rfl
      have hxr := (BW.block y (by omega)).trans hx
      have HX : Hid (_ ∧ _ ∧ _) := ⟨hrow, BW, hers⟩
      clear hrow BW hown hers
      go_wp2_with fail
      refine KL.mono ?_
      rintro e w4 ⟨rfl, B4⟩
      obtain ⟨hrow, BW, hers⟩ := HX.out
      have hx4 := (B4.block y (by omega)).trans hxr
      have f0 := fun o => Lib.frozen_of_heap hx4 o
      have d0 : w4.cell? ⟨y, 0, none⟩ = some (.bool false) := by rw [Lib.cell_of_heap hx4]; rfl
      have d1 : w4.cell? ⟨y, 1, none⟩ = some (.string ⟨#[]⟩) := by rw [Lib.cell_of_heap hx4]; rfl
      have d2 : w4.cell? ⟨y, 2, none⟩ = some (.slice none 0 0) := by rw [Lib.cell_of_heap hx4]; rfl
      have hz4 := B4.size
      have hrow4 := rowP_of (q := fun b => w1.heap.size ≤ b ∧ b < w4.heap.size) (W' := w4) (fun b hb => ⟨⟨hb.1, by omega⟩, fun j => B4.cell (p := ⟨b, j, none⟩) hb.2⟩) a7 0 _ hrow
      have HR : Hid (_ ∧ _ ∧ _) := ⟨hrow4, belowStep (A0.trans (BW.mono (by omega))) (by omega) B4, hers⟩
      clear hrow BW B4 hrow4 hx4 hxr KL hers HX A0 hx
      go_wp2
      obtain ⟨hrow4, BX, hers⟩ := HR.out
      refine bodyPost_ret (v := .agg #[.bool true, .string ⟨#[]⟩, .slice a7 (es.map txt).length c7]) (by simp [results, Tryd.results49, go_sem, d0, d1, d2]; exact HN.out.symm) rfl ⟨.mk true ⟨#[]⟩ a7 c7 (es.map txt), rfl, ?_, ?_, ?_⟩
      · show It.mk true ⟨#[]⟩ (ers (es.map txt)) = _
        rw [hers]
        rfl
      · rw [HY.out]
        refine rowP_of (fun b hb => ⟨⟨by omega, by simp [World.setCell]; omega⟩, fun j => ?_⟩) a7 0 _ hrow4
        rw [cell_ne _ _ _ _ _ (by show b ≠ y; omega), cell_ne _ _ _ _ _ (by show b ≠ y; omega), cell_ne _ _ _ _ _ (by show b ≠ y; omega)]
      · rw [HY.out]
        exact below_set (below_set (below_set BX y _ (Nat.le_refl _) _) y _ (Nat.le_refl _) _) y _ (Nat.le_refl _) _
end Go.Proofs.YtmefanagpkbjeaaDoor
