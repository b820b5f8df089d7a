/- Lemmas: What two lists that prove unlike things have: two texts that are unlike, and have one digest. Pure. What a list of nodes leads to, pure: what proves something is a list whose texts refer to each other. No condition. What the program's yieldDigests, digests do: the digests that a node refers to, one behind the other. No condition. What the program's digests, and the question that refersTo gives, do. No condition. The law's some: the first texts. What the program's refersTo, Lead do. No condition. The reference's Prove, with the row that it answers; the law's four pairs. What the ways of the law's four pairs prove: pure. The law's shown. ProofLeads' walk. No condition. -/
import Derived.Test.YtbmapdkcccdmfaaDoorM1
import Derived.Test.YtbmapdkcccdmfaaDoorM10
import Derived.Test.YtbmapdkcccdmfaaDoorM11
import Derived.Test.YtbmapdkcccdmfaaDoorM12
import Derived.Test.YtbmapdkcccdmfaaDoorM13
import Derived.Test.YtbmapdkcccdmfaaDoorM14
import Derived.Test.YtbmapdkcccdmfaaDoorM15
import Derived.Test.YtbmapdkcccdmfaaDoorM16
import Derived.Test.YtbmapdkcccdmfaaDoorM17
import Derived.Test.YtbmapdkcccdmfaaDoorM18
import Derived.Test.YtbmapdkcccdmfaaDoorM19
import Derived.Test.YtbmapdkcccdmfaaDoorM2
import Derived.Test.YtbmapdkcccdmfaaDoorM20
import Derived.Test.YtbmapdkcccdmfaaDoorM21
import Derived.Test.YtbmapdkcccdmfaaDoorM22
import Derived.Test.YtbmapdkcccdmfaaDoorM23
import Derived.Test.YtbmapdkcccdmfaaDoorM24
import Derived.Test.YtbmapdkcccdmfaaDoorM25
import Derived.Test.YtbmapdkcccdmfaaDoorM26
import Derived.Test.YtbmapdkcccdmfaaDoorM27
import Derived.Test.YtbmapdkcccdmfaaDoorM28
import Derived.Test.YtbmapdkcccdmfaaDoorM29
import Derived.Test.YtbmapdkcccdmfaaDoorM3
import Derived.Test.YtbmapdkcccdmfaaDoorM30
import Derived.Test.YtbmapdkcccdmfaaDoorM31
import Derived.Test.YtbmapdkcccdmfaaDoorM32
import Derived.Test.YtbmapdkcccdmfaaDoorM33
import Derived.Test.YtbmapdkcccdmfaaDoorM34
import Derived.Test.YtbmapdkcccdmfaaDoorM35
import Derived.Test.YtbmapdkcccdmfaaDoorM36
import Derived.Test.YtbmapdkcccdmfaaDoorM37
import Derived.Test.YtbmapdkcccdmfaaDoorM38
import Derived.Test.YtbmapdkcccdmfaaDoorM39
import Derived.Test.YtbmapdkcccdmfaaDoorM4
import Derived.Test.YtbmapdkcccdmfaaDoorM40
import Derived.Test.YtbmapdkcccdmfaaDoorM41
import Derived.Test.YtbmapdkcccdmfaaDoorM42
import Derived.Test.YtbmapdkcccdmfaaDoorM43
import Derived.Test.YtbmapdkcccdmfaaDoorM44
import Derived.Test.YtbmapdkcccdmfaaDoorM45
import Derived.Test.YtbmapdkcccdmfaaDoorM46
import Derived.Test.YtbmapdkcccdmfaaDoorM47
import Derived.Test.YtbmapdkcccdmfaaDoorM48
import Derived.Test.YtbmapdkcccdmfaaDoorM5
import Derived.Test.YtbmapdkcccdmfaaDoorM6
import Derived.Test.YtbmapdkcccdmfaaDoorM7
import Derived.Test.YtbmapdkcccdmfaaDoorM8
import Derived.Test.YtbmapdkcccdmfaaDoorM9
import Derived.Test.YtbmapdkcccdmfaaDoorRows
import Derived.Laws.StructEq
namespace Go.Proofs.YtbmapdkcccdmfaaDoor
open Go.RowKit Go.Shelf Go.Sort

theorem chk_ok {root key : ByteArray} {xs : List ByteArray} (h : (chkF root key xs).2.2 = 0) : (xs = [] ∧ root = sumOf ⟨#[128]⟩ ∧ (chkF root key xs).1 = ⟨#[]⟩ ∧ (chkF root key xs).2.1 = false) ∨ (¬ (xs = [] ∧ root = sumOf ⟨#[128]⟩) ∧ (wkF (2 * key.size + 1) (.dig root) (ofOf key) xs).2 = true ∧ (chkF root key xs).1 = (wkF (2 * key.size + 1) (.dig root) (ofOf key) xs).1 ∧ (chkF root key xs).2.1 = decide (0 < (wkF (2 * key.size + 1) (.dig root) (ofOf key) xs).1.size)) := by
 unfold chkF at h ⊢
 split at h
 ·next h1 =>
  rw [if_pos h1]
  split at h
  ·next h2 =>
   rw [if_pos h2]
   exact .inl ⟨h2.1, h2.2, rfl, rfl⟩
  ·next h2 =>
   rw [if_neg h2]
   split at h
   ·next h3 =>
    rw [if_pos h3]
    exact .inr ⟨h2, h3, rfl, rfl⟩
   ·cases h
 ·cases h
end Go.Proofs.YtbmapdkcccdmfaaDoor
namespace Go.Proofs.YtbmapdkcccdmfaaDoor
open Go.RowKit Go.Shelf Go.Sort

mutual
def dgN : PN → List ByteArray
 | .mk _ _ ss => dgS ss
def dgS : PS → List ByteArray
 | .nil => []
 | .cons _ r s => dgP r ++ dgS s
def dgP : PR → List ByteArray
 | .dig d => [d]
 | .win n => dgN n
end
theorem dgN_ss (n : PN) : dgN n = dgS n.ss := by cases n; rw [dgN]; rfl
def ndD (t : ByteArray) : List ByteArray := match ndOf t with
 | none => []
 | some n => dgN n
def memB (d : ByteArray) (l : List ByteArray) : Bool := l.any fun e => decide (e = d)
theorem memB_of {d : ByteArray} {l : List ByteArray} (h : d ∈ l) : memB d l = true := List.any_eq_true.2 ⟨d, h, decide_eq_true rfl⟩
def ldT (ask : ByteArray → Bool) : List ByteArray → List ByteArray
 | [] => []
 | x :: xs => if ask (sumOf x) = true then x :: ldT (fun d => memB d (ndD x)) xs else []
theorem ldT_len : ∀ (xs : List ByteArray) (ask : ByteArray → Bool), (ldT ask xs).length ≤ xs.length
 | [], _ => Nat.le_refl _
 | x :: xs, ask => by
  rw [ldT]
  split
  ·rw [List.length_cons, List.length_cons]
   have := ldT_len xs (fun d => memB d (ndD x))
   omega
  ·exact Nat.zero_le _
theorem step_dg (path : ByteArray) : ∀ (s : PS) (r : PR) (rest : ByteArray), stepTo path s = some (r, rest) → ∀ d, d ∈ dgP r → d ∈ dgS s
 | .nil, _, _, h, _, _ => by rw [stepTo] at h; cases h
 | .cons p q s, r, rest, h, d, hd => by
  rw [stepTo] at h
  rw [dgS]
  split at h
  ·cases h
   exact List.mem_append_left _ hd
  ·exact List.mem_append_right _ (step_dg path s r rest h d hd)
theorem lead_wk : ∀ (f : Nat) (to : PR) (path : ByteArray) (ts : List ByteArray) (ask : ByteArray → Bool), (∀ d, d ∈ dgP to → ask d = true) → (wkF f to path ts).2 = true → ldT ask ts = ts
 | 0, _, _, _, _, _, h => by rw [wkF] at h; cases h
 | f + 1, .win n, path, ts, ask, ha, h => by
  rw [wkF] at h
  have e : atN (.win n) ts = some (n, ts) := rfl
  rw [e] at h
  dsimp only at h
  have nil : ts.isEmpty = true → ldT ask ts = ts := fun hn => by
   rw [List.isEmpty_iff] at hn
   subst hn
   rfl
  split at h
  ·exact nil h
  ·split at h
   ·exact nil h
   ·next r rest hs =>
    refine lead_wk f r rest ts ask (fun d hd => ha d ?_) h
    rw [dgP, dgN_ss]
    exact step_dg path n.ss r rest hs d hd
 | f + 1, .dig g, path, [], ask, ha, h => rfl
 | f + 1, .dig g, path, x :: tl, ask, ha, h => by
  rw [wkF] at h
  have e : atN (.dig g) (x :: tl) = (askN g (x :: tl)).map fun n => (n, tl) := rfl
  have e2 : askN g (x :: tl) = if sumOf x = g then ndOf x else none := rfl
  rw [e, e2] at h
  by_cases hg : sumOf x = g
  ·rw [if_pos hg] at h
   cases hn : ndOf x with
   | none => rw [hn] at h; cases h
   | some n =>
    rw [hn] at h
    dsimp only [Option.map] at h
    have hd : ndD x = dgN n := by unfold ndD; rw [hn]
    rw [ldT, if_pos (by rw [hg]; exact ha g (by rw [dgP]; exact List.mem_singleton.2 rfl)), hd]
    have nil : tl.isEmpty = true → x :: ldT (fun d => memB d (dgN n)) tl = x :: tl := fun hn => by
     rw [List.isEmpty_iff] at hn
     subst hn
     rfl
    split at h
    ·exact nil h
    ·split at h
     ·exact nil h
     ·next r rest hs =>
      rw [lead_wk f r rest tl (fun d => memB d (dgN n)) (fun d hdd => memB_of ?_) h]
      rw [dgN_ss]
      exact step_dg path n.ss r rest hs d hdd
  ·rw [if_neg hg] at h
   cases h
theorem lead_all {root key : ByteArray} {xs : List ByteArray} (h : (chkF root key xs).2.2 = 0) : ldT (fun d => decide (d = root)) xs = xs := by
 rcases chk_ok h with ⟨rfl, _⟩ | ⟨_, hw, _⟩
 ·rfl
 ·refine lead_wk _ _ _ _ _ (fun d hd => ?_) hw
  rw [dgP, List.mem_singleton] at hd
  exact decide_eq_true hd
end Go.Proofs.YtbmapdkcccdmfaaDoor
namespace Go.Proofs.YtbmapdkcccdmfaaDoor
open Go.RowKit Go.Shelf Go.Sort
attribute [local go_sem] Oper.semAt_some

mutual
def szN : PN → Nat
 | .mk _ _ ss => szS ss + 1
def szS : PS → Nat
 | .nil => 0
 | .cons _ r s => szP r + szS s
def szP : PR → Nat
 | .dig _ => 1
 | .win n => szN n + 1
end
theorem szP_pos (r : PR) : 0 < szP r := by cases r <;> rw [szP] <;> omega
def sEnc (d : ByteArray) : Array Value := #[.string d]

set_option maxRecDepth 100000 in
set_option maxHeartbeats 4000000 in
theorem yieldDigests_in (l n0 B Nm : Nat) (J Jx : List ByteArray → World → Prop) (hJ : AbidesFrom B J)
  (hY : ∀ m pre e W, J pre W → pre.length < Nm → n0 ≤ W.heap.size → YieldAt Fence.wide m Tryd.prog l (sEnc e) W fun e' W' =>
   (e' = .returned (.bool true) ∧ J (pre ++ [e]) W' ∧ Below n0 W W') ∨ (e' = .returned (.bool false) ∧ Jx (pre ++ [e]) W')) :
  ∀ (N : Nat) (r : PR) (d : ByteArray) (q : Option Addr) (pre : List ByteArray) (W : World) (n : Nat), szP r ≤ N → gdR r → pre.length + (dgP r).length ≤ Nm → n0 ≤ W.heap.size → prIn (fun b => b < n0) W d q r → J pre W →
   CallsIn Fence.wide n Tryd.prog 82 #[.agg #[.string d, .pointer q], .func (.yield l) #[] #[]] W fun e W' =>
    (e = .returned (.bool true) ∧ J (pre ++ dgP r) W' ∧ Below n0 W W') ∨ (e = .returned (.bool false) ∧ ∃ k, k ≤ (dgP r).length ∧ Jx (pre ++ (dgP r).take k) W')
 | 0, r, _, _, _, _, _, h, _, _, _, _, _ => by have := szP_pos r; omega
 | N + 1, .dig x, d, q, pre, W, n, hc, hg, hN, hW, hm, h0 => by
  obtain ⟨rfl, rfl⟩ := hm
  rw [dgP] at hN ⊢
  have A0 : Below W.heap.size W (W.alloc (.cells #[.string d, .pointer none] 73)) := (Below.refl _ W).alloc (Nat.le_refl _) _
  have J1 := hJ _ _ _ none h0 (grown_of A0) (fun r h => by cases h)
  obtain ⟨fn, tmps, assign, bdy, hy, hR⟩ := hY (n - 1) pre d _ J1 (by simp at hN; omega) (by simp; omega)
  replace hy : (_ : Sem _).run Tryd.prog _ = _ := hy
  unfold sEnc at hy
  refine callsIn_of_wp Tryd.func82 rfl trivial ?_ rfl
  simp only [Tryd.ntmps82, List.size_toArray, List.length_cons, List.length_nil, Nat.reduceAdd, Nat.reduceSub, Array.replicate_succ, Array.replicate_zero, List.push_toArray, List.append_toArray, List.nil_append, List.cons_append]
  gi_wp2
  refine ⟨fun h => (by cases h), hR.mono ?_⟩
  rintro e W3 (⟨rfl, hJ3, hk3⟩ | ⟨rfl, hJx3⟩)
  ·gi_wp2
   go_ret
   exact .inl ⟨rfl, hJ3, (A0.mono hW).trans hk3⟩
  ·gi_wp2
   go_ret
   exact .inr ⟨rfl, 1, by simp, hJx3⟩
 | N + 1, .win nd, d, q, pre, W, n, hc, hg, hN, hW, hm, h0 => by
  have IH := yieldDigests_in l n0 B Nm J Jx hJ hY N
  obtain ⟨rfl, b0, rfl, hm⟩ := hm
  obtain ⟨np, nv, ss⟩ := nd
  obtain ⟨a, cc, hb0, hnode, hps⟩ := hm
  rw [dgP, dgN] at hN ⊢
  rw [szP, szN] at hc
  obtain ⟨h16, hgs⟩ := hg
  have A0 : Below W.heap.size W (W.alloc (.cells #[.string ⟨#[]⟩, .pointer (some ⟨b0, 0, none⟩)] 73)) := (Below.refl _ W).alloc (Nat.le_refl _) _
  have J1 := hJ _ _ _ none h0 (grown_of A0) (fun r h => by cases h)
  refine callsIn_of_wp Tryd.func82 rfl trivial ?_ rfl
  simp only [Tryd.ntmps82, List.size_toArray, List.length_cons, List.length_nil, Nat.reduceAdd, Nat.reduceSub, Array.replicate_succ, Array.replicate_zero, List.push_toArray, List.append_toArray, List.nil_append, List.cons_append]
  have x2 : W.cell? ⟨b0, 2, none⟩ = some (.slice a ss.len cc) := by rw [Lib.cell_of_heap hnode]; rfl
  have hbW : b0 < W.heap.size := Nat.lt_of_lt_of_le hb0 hW
  have hne : b0 ≠ W.heap.size := by omega
  obtain ⟨Nx, hNx⟩ : ∃ N, ss.len = N := ⟨_, rfl⟩
  rw [hNx] at x2 h16
  have hp1 : psIn (fun b => b < n0) (W.alloc (.cells #[.string ⟨#[]⟩, .pointer (some ⟨b0, 0, none⟩)] 73)) a 0 ss := psIn_of (fun b hb => ⟨hb, A0.block b (Nat.lt_of_lt_of_le hb hW)⟩) ss a 0 hps
  have hz1 : szS ss ≤ N := by omega
  have HX : Hid (_ ∧ _ ∧ _ ∧ _ ∧ _ ∧ _) := ⟨hNx, hp1, hgs, hz1, J1, A0.mono hW⟩
  clear hNx hp1 hgs hz1 J1 A0 hnode hps h0 hc
  gi_wp2
  gi_loopw [20] (fun i wr => ∃ (k : Nat) (s' : PS) (ds : List ByteArray), i = .int .i64 (k : Int) ∧ k + s'.len = Nx ∧ dgS ss = ds ++ dgS s' ∧ psIn (fun b => b < n0) wr a k s' ∧ gdS s' ∧ szS s' ≤ N ∧ J (pre ++ ds) wr ∧ Below n0 W wr)
   (fun i _ => (Nx - (intOf i).toNat))
  case atStart => exact ⟨0, ss, [], rfl, by rw [HX.out.1]; omega, rfl, HX.out.2.1, HX.out.2.2.1, HX.out.2.2.2.1, by rw [List.append_nil]; exact HX.out.2.2.2.2.1, HX.out.2.2.2.2.2⟩
  case round =>
   obtain ⟨k, s', ds, rfl, hk, hds, hpi, hgi, hzi, hJs, hB⟩ := hrel
   have hwr : n0 ≤ wr.heap.size := Nat.le_trans hW hB.size
   cases s' with
   | nil =>
    have hk2 : k = Nx := hk
    subst hk2
    have l0 : ¬ (k : Int) < k := by omega
    rw [dgS, List.append_nil] at hds
    have HH : Hid (_ ∧ _ ∧ _) := ⟨hds, hJs, hB⟩
    clear hds hJs hB HX hpi hgi hzi hk
    gi_wp2
    go_ret
    obtain ⟨hds, hJs, hB⟩ := HH.out
    rw [hds]
    exact .inl ⟨rfl, hJs, hB⟩
   | cons t2 r2 s2 =>
    have hsl : (PS.cons t2 r2 s2).len = s2.len + 1 := rfl
    rw [hsl] at hk
    have l0 : (k : Int) < Nx := by omega
    obtain ⟨⟨b4, o4, d4, q4, hp4, rfl, m0, m1, m2, hr4⟩, hps2⟩ := hpi
    rw [Nat.mul_comm 3 k] at m0 m1 m2
    rw [dgS] at hds
    rw [szS] at hzi
    have wk : IntKind.i64.wrap ((k : Int) + 1) = ((k + 1 : Nat) : Int) := by rw [IntKind.wrap_i64]; omega
    have A4 := (Below.refl wr.heap.size wr).alloc (Nat.le_refl _) (.cells #[.string t2, .string d4, .pointer q4] 79)
    have J4 := hJ _ _ _ none hJs (grown_of A4) (fun r h => by cases h)
    have r4 := prIn_of (fun k hk => ⟨hk, A4.block k (Nat.lt_of_lt_of_le hk hwr)⟩) r2 d4 q4 hr4
    have s4 := psIn_of (fun k hk => ⟨hk, A4.block k (Nat.lt_of_lt_of_le hk hwr)⟩) s2 _ _ hps2
    have hlen : pre.length + ds.length + ((dgP r2).length + (dgS s2).length) ≤ Nm := by
     rw [hds, List.length_append, List.length_append] at hN
     omega
    have IHy := IH r2 d4 q4 (pre ++ ds) (wr.alloc (.cells #[.string t2, .string d4, .pointer q4] 79)) (n - 1) (by have := szP_pos r2; omega) hgi.2.1 (by rw [List.length_append]; omega) (by simp; omega) r4 J4
    have HH : Hid (_ ∧ _ ∧ _ ∧ _ ∧ _ ∧ _) := ⟨hds, hB, A4.mono hwr, s4, hgi.2.2, hzi⟩
    clear hds hB A4 s4 hgi hzi J4 hJs hr4 r4 hps2 hlen hsl
    gi_wp2_with fail
    refine ⟨trivial, fun h => (by cases h), IHy.mono ?_⟩
    rintro e W4 (⟨rfl, hJ4, hk4⟩ | ⟨rfl, q, hq, hJx4⟩)
    ·gi_wp2
     go_roundw
     case rel =>
      obtain ⟨hds, hB, A4, s4, hgi, hzi⟩ := HH.out
      refine ⟨k + 1, s2, ds ++ dgP r2, rfl, by omega, by rw [hds, List.append_assoc], psIn_of (fun b hb => ⟨hb, hk4.block b hb⟩) s2 _ _ s4, hgi, by omega, by rw [← List.append_assoc]; exact hJ4, (hB.trans A4).trans hk4⟩
     case measure => simp [intOf]; omega
    ·gi_wp2
     go_ret
     obtain ⟨hds, _⟩ := HH.out
     refine .inr ⟨rfl, ds.length + q, ?_, ?_⟩
     ·rw [hds, List.length_append, List.length_append]; omega
     ·rw [hds, List.take_length_add_append, List.take_append_of_le_length hq, ← List.append_assoc]
      exact hJx4
end Go.Proofs.YtbmapdkcccdmfaaDoor
namespace Go.Proofs.YtbmapdkcccdmfaaDoor
open Go.RowKit Go.Shelf Go.Sort
attribute [local go_sem] Oper.semAt_some

def dgO : Option PN → List ByteArray
 | none => []
 | some n => dgN n
def oIn (n0 : Nat) (W : World) (q : Option Addr) : Option PN → Prop
 | none => q = none
 | some n => ∃ b, q = some ⟨b, 0, none⟩ ∧ pnIn (fun b => b < n0) W b n
def gdO : Option PN → Prop
 | none => True
 | some n => gdN n
theorem oIn_below {n0 : Nat} {W W' : World} {q : Option Addr} {o : Option PN} (h : oIn n0 W q o) (hb : Below n0 W W') : oIn n0 W' q o := by
 cases o with
 | none => exact h
 | some n =>
  obtain ⟨b, h1, h2⟩ := h
  exact ⟨b, h1, pnIn_below hb (fun _ h => h) n b h2⟩

set_option maxRecDepth 100000 in
set_option maxHeartbeats 2000000 in
theorem digests1_in (n l bX n0 : Nat) (o : Option PN) (q : Option Addr) (hg : gdO o) (W : World) (hbx : Bx bX 71 (.pointer q) W) (hW : n0 ≤ W.heap.size) (hm : oIn n0 W q o) (J Jx : List ByteArray → World → Prop) (B : Nat) (hJ : AbidesFrom B J)
  (hY : ∀ m pre e W, J pre W → pre.length < (dgO o).length → n0 ≤ W.heap.size → YieldAt Fence.wide m Tryd.prog l (sEnc e) W fun e' W' =>
   (e' = .returned (.bool true) ∧ J (pre ++ [e]) W' ∧ Below n0 W W') ∨ (e' = .returned (.bool false) ∧ Jx (pre ++ [e]) W')) (h0 : J [] W) :
  CallsIn Fence.wide n Tryd.prog 81 #[.func (.yield l) #[] #[], .pointer (some ⟨bX, 0, none⟩)] W fun e W' => (∃ v, e = .returned v) ∧
   (J (dgO o) W' ∨ ∃ q, q ≤ (dgO o).length ∧ Jx ((dgO o).take q) W') := by
 have x0 : W.cell? ⟨bX, 0, none⟩ = some (.pointer q) := hbx.cell
 cases o with
 | none =>
  obtain rfl : q = none := hm
  refine callsIn_of_wp Tryd.func81 rfl trivial ?_ rfl
  simp only [Tryd.ntmps81, List.size_toArray, List.length_cons, List.length_nil, Nat.reduceAdd, Nat.reduceSub, Array.replicate_succ, Array.replicate_zero, List.push_toArray, List.append_toArray, List.nil_append, List.cons_append]
  gi_wp2
  go_end0
  exact ⟨⟨_, rfl⟩, .inl h0⟩
 | some nd =>
  obtain ⟨b, rfl, hm⟩ := hm
  have K := fun n => yieldDigests_in l n0 B (dgO (some nd)).length J Jx hJ hY (szP (.win nd)) (.win nd) ⟨#[]⟩ (some ⟨b, 0, none⟩) [] W n (Nat.le_refl _) hg (by rw [dgP, List.length_nil]; show 0 + (dgN nd).length ≤ (dgN nd).length; omega) hW ⟨rfl, b, rfl, hm⟩ h0
  refine callsIn_of_wp Tryd.func81 rfl trivial ?_ rfl
  simp only [Tryd.ntmps81, List.size_toArray, List.length_cons, List.length_nil, Nat.reduceAdd, Nat.reduceSub, Array.replicate_succ, Array.replicate_zero, List.push_toArray, List.append_toArray, List.nil_append, List.cons_append]
  gi_wp2_with fail
  refine ⟨trivial, fun h => (by cases h), (K (n - 1)).mono ?_⟩
  rintro e W3 (⟨rfl, hJ3, _⟩ | ⟨rfl, q, hq, hJx3⟩)
  ·gi_wp2
   go_end0
   exact ⟨⟨_, rfl⟩, .inl hJ3⟩
  ·gi_wp2
   go_end0
   exact ⟨⟨_, rfl⟩, .inr ⟨q, hq, hJx3⟩⟩

theorem digests_stops (n bX n0 : Nat) (o : Option PN) (q : Option Addr) (hg : gdO o) (w : World) (hbx : Bx bX 71 (.pointer q) w) (hw : n0 ≤ w.heap.size) (hm : oIn n0 w q o) :
  SeqStopsK Fence.wide n Tryd.prog 81 #[.pointer (some ⟨bX, 0, none⟩)] sEnc (fun W W' => Below n0 W W') (fun ys => ys = dgO o) (fun ys => ∃ k, k ≤ (dgO o).length ∧ ys = (dgO o).take k) (dgO o).length w := fun l J Jx W hW hJ _ hY h0 => by
 refine (digests1_in n l bX n0 o q hg W ((hW.block bX hbx.lt).trans hbx) (Nat.le_trans hw hW.size) (oIn_below hm (hW.mono hw)) J Jx W.heap.size hJ (fun m pre x W1 hj hl _ => yieldAny m (hY pre x W1 hj hl)) h0).mono ?_
 rintro e W' ⟨he, hj | ⟨k, hk, hj⟩⟩
 ·exact ⟨he, .inl ⟨_, rfl, hj⟩⟩
 ·exact ⟨he, .inr ⟨_, ⟨k, hk, rfl⟩, hj⟩⟩

set_option maxHeartbeats 1000000 in
theorem digests_any (q : Option Addr) (w : World) :
  Calls Tryd.prog 58 #[.pointer q] w fun e w' => e = .returned (.func (.func 81) #[] #[.pointer (some ⟨w.heap.size, 0, none⟩)]) ∧ w' = w.alloc (.cells #[.pointer q] 71) := by
 go_enter Tryd.func58, Tryd.ntmps58
 go_wp2
 go_ret
 exact ⟨rfl, rfl⟩

theorem node_o (s : ByteArray) (w : World) :
  Calls Tryd.prog 57 #[.string s] w fun e w' => ∃ q, e = .returned (.pointer q) ∧ Below w.heap.size w w' ∧ oIn w'.heap.size w' q (ndOf s) := by
 refine (nodeOf_any s w).mono ?_
 rintro e w' ⟨B, h⟩
 cases ho : ndOf s with
 | none => rw [ho] at h; exact ⟨none, h, B, rfl⟩
 | some nd =>
  rw [ho] at h
  obtain ⟨b, he, hp⟩ := h
  exact ⟨some ⟨b, 0, none⟩, he, B, b, rfl, pnIn_of (fun k hk => ⟨hk.2, rfl⟩) nd b hp⟩
theorem gd_nd (s : ByteArray) : gdO (ndOf s) := by
 cases ho : ndOf s with
 | none => trivial
 | some nd => exact ndOf_good s nd ho
theorem dg_nd (s : ByteArray) : dgO (ndOf s) = ndD s := by unfold ndD; cases ndOf s <;> rfl
theorem memB_not {d : ByteArray} {l : List ByteArray} (h : ∀ e, e ∈ l → e ≠ d) : memB d l = false := by
 unfold memB
 rw [List.any_eq_false]
 intro e he
 simp [h e he]
def NoneE (d : ByteArray) (l : List ByteArray) : Prop := ∀ e, e ∈ l → e ≠ d

set_option maxRecDepth 100000 in
set_option maxHeartbeats 2000000 in
theorem refers_any (s d : ByteArray) (bT : Nat) (w : World) (hT : Bx bT 9 (.string s) w) :
  Calls Tryd.prog 56 #[.string d, .pointer (some ⟨bT, 0, none⟩)] w fun e w' => e = .returned (.bool (memB d (ndD s))) ∧ Below w.heap.size w w' := by
 have hD := dg_nd s
 have KN := node_o s
 have KG := gd_nd s
 obtain ⟨o, ho⟩ : ∃ o, ndOf s = o := ⟨_, rfl⟩
 rw [ho] at hD KN KG
 have KS := fun n bX n0 q w hb hn hm => digests_stops n bX n0 o q KG w hb hn hm
 obtain ⟨L, hL⟩ : ∃ L, dgO o = L := ⟨_, rfl⟩
 rw [hL] at hD KS
 rw [← hD]
 clear ho hL hD
 have tc := hT.cell
 refine (callsIn_wide (n := 9)).1 ?_
 refine callsIn_of_wp_marks Tryd.func56 rfl trivial ?_ rfl
 refine wpIn_wide.2 ?_
 simp only [Tryd.ntmps56, List.size_toArray, List.length_cons, List.length_nil, Nat.reduceAdd, Nat.reduceSub, Array.replicate_succ, Array.replicate_zero, List.push_toArray, List.append_toArray, List.nil_append, List.cons_append]
 have htl := hT.lt
 have hne : bT ≠ w.heap.size := by omega
 have hne1 : bT ≠ w.heap.size + 1 := by omega
 go_wp2_with fail
 refine wpOfC (fun W => Bx w.heap.size 9 (.string d) W ∧ Bx (w.heap.size + 1) 4 (.bool false) W ∧ Below w.heap.size w W) ?_ ?_
 ·have h1 := World.alloc_heap_new (w.alloc (.cells #[.string d] 9)) (.cells #[.bool false] 4)
  rw [World.size_alloc] at h1
  refine ⟨?_, h1, ((Below.refl _ w).alloc (Nat.le_refl _) _).alloc (by simp) _⟩
  exact (((Below.refl _ (w.alloc (.cells #[.string d] 9))).alloc (Nat.le_refl _) _).block w.heap.size (by simp)).trans (World.alloc_heap_new w _)
 rintro w1 ⟨hDg, hR, BW1⟩
 obtain ⟨z, hz⟩ : ∃ c, w.heap.size = c := ⟨_, rfl⟩
 have HZ : Hid (w.heap.size = z) := hz
 rw [hz] at hDg hR BW1 ⊢
 obtain ⟨bR, hbR⟩ : ∃ c, z + 1 = c := ⟨_, rfl⟩
 rw [hbR] at hR ⊢
 clear hz hne hne1 tc htl
 refine (KN w1).mono ?_
 rintro e w2 ⟨q, rfl, B2, hO⟩
 have D2 : Bx z 9 (.string d) w2 := (B2.block z hDg.lt).trans hDg
 have R2' : Bx bR 4 (.bool false) w2 := (B2.block bR hR.lt).trans hR
 have hzl := hR.lt
 have BW2 := belowStep BW1 (by omega) B2
 clear hDg hR BW1 B2
 go_wp2_with fail
 refine (digests_any q w2).mono ?_
 rintro e w3 ⟨rfl, hw3⟩
 have B3 : Below w2.heap.size w2 w3 := by rw [hw3]; exact (Below.refl _ w2).alloc (Nat.le_refl _) _
 have hcx : Bx w2.heap.size 71 (.pointer q) w3 := by rw [hw3]; exact World.alloc_heap_new w2 _
 have hs3 : w3.heap.size = w2.heap.size + 1 := by rw [hw3]; simp
 have D3 : Bx z 9 (.string d) w3 := (B3.block z D2.lt).trans D2
 have R3' : Bx bR 4 (.bool false) w3 := (B3.block bR R2'.lt).trans R2'
 have hO3 := oIn_below hO B3
 have hrl := R2'.lt
 have BW3 := belowStep BW2 (by omega) B3
 obtain ⟨m, hm⟩ : ∃ m, w2.heap.size = m := ⟨_, rfl⟩
 rw [hm] at hcx hO3 hs3 hrl ⊢
 clear hw3 B3 D2 R2' hO BW2 hm w2
 go_wp2_with fail
 refine (wpIn_wide (n := 9)).1 ?_
 refine wpIn_rangeFunc_ownH rfl (by omega) (gf := 81) (lb := #[.pointer (some ⟨m, 0, none⟩)]) rfl trivial (enters_of Tryd.func81 (by kernel_rfl) rfl)
  (KS _ m m q w3 hcx (by omega) hO3) (fun h k => Below.trans h k) (fun W l o o' hl h1 h2 h3 => belowK_b (by omega) W l o o' hl h1 h2 h3) (Below.refl _ _) (fun _ => rfl)
  (fun pre W => Bx z 9 (.string d) W ∧ Bx bR 4 (.bool false) W ∧ Below z w W ∧ m < W.heap.size ∧ NoneE d pre)
  (fun c pre W => c = .ret ∧ Bx bR 4 (.bool true) W ∧ Below z w W ∧ m < W.heap.size ∧ d ∈ pre)
  (fun s A C row hs hg hr => ⟨hs.1.own hg (fun r e => (hr r e).2), hs.2.1.own hg (fun r e => (hr r e).2), hs.2.2.1.grown hg (by have := hs.2.1.lt; omega) (fun k e => Nat.le_trans (by omega) (hr k e).1), Nat.lt_of_lt_of_le hs.2.2.2.1 hg.size, hs.2.2.2.2⟩)
  (fun c s A C row hs hg hr => ⟨hs.1, hs.2.1.own hg (fun r e => (hr r e).2), hs.2.2.1.grown hg (by have := hs.2.1.lt; omega) (fun k e => Nat.le_trans (by omega) (hr k e).1), Nat.lt_of_lt_of_le hs.2.2.2.1 hg.size, hs.2.2.2.2⟩)
  ⟨D3, R3', BW3, by omega, fun e he => (by cases he)⟩
  (fun x a' _ => a' = { tmps := #[.string d, .pointer (some ⟨bT, 0, none⟩), .pointer (some ⟨z, 0, none⟩), .pointer (some ⟨bR, 0, none⟩), .string x, .string s, .pointer q, .func (.func 81) #[] #[.pointer (some ⟨m, 0, none⟩)], .string x, undef, undef, undef], defers := [] })
  (fun x a' _ X Y row hs hg hr => hs)
  ?assign ?body ?done ?stop
 case assign =>
  rintro l pre x W K hI hK
  dsimp only [sEnc]
  gi_wp2
  exact hK _ _ (KeepsFrom.refl _ _) (Below.refl _ _) hI rfl
 case body =>
  rintro l pre x a' W hl ⟨r, hr⟩ ⟨hDd, hRd, BWd, hmd, hall⟩ rfl hlt
  have cD := hDd.cell
  have cR := hRd.cell
  have fR := hRd.fr
  have hRW := hRd.lt
  by_cases hxd : x = d
  ·subst hxd
   gi_wp2
   refine (?_ : KeepsFrom _ W (W.setCell ⟨bR, 0, none⟩ (.bool true)) ∧ Code.ret = .ret ∧ Bx bR 4 (.bool true) (W.setCell ⟨bR, 0, none⟩ (.bool true)) ∧ Below z w (W.setCell ⟨bR, 0, none⟩ (.bool true)) ∧ m < (W.setCell ⟨bR, 0, none⟩ (.bool true)).heap.size ∧ x ∈ pre ++ [x])
   exact ⟨ko_set _ _ _ _, rfl, hRd.put _, BWd.setCell (p := ⟨bR, 0, none⟩) (by show z ≤ bR; omega) _, by simpa [World.setCell] using hmd, by simp⟩
  ·have hnl := ne_list hxd
   gi_wp2
   refine (?_ : KeepsFrom _ W W ∧ Below m W W ∧ Bx z 9 (.string d) W ∧ Bx bR 4 (.bool false) W ∧ Below z w W ∧ m < W.heap.size ∧ NoneE d (pre ++ [x]))
   refine ⟨KeepsFrom.refl _ _, Below.refl _ _, hDd, hRd, BWd, hmd, fun e he => ?_⟩
   rcases List.mem_append.1 he with he | he
   ·exact hall e he
   ·rw [List.mem_singleton.1 he]; exact hxd
 case done =>
  rintro D ys W hD rfl ⟨hDd, hRd, BWd, hmd, hall⟩ hK
  have cR := hRd.cell
  have fR := hRd.fr
  have HO : Hid (memB d ys = false) := memB_not hall
  have hDR : D ≠ bR := fun e => by rw [e, show W.heap[bR]? = _ from hRd] at hK; cases hK
  have hR5 := hRd.put (.bool false)
  have hK5 : (W.setCell ⟨bR, 0, none⟩ (.bool false)).heap[D]? = some (.deferred (some [])) := (Below.heap_setCell _ _ _ _ hDR).trans hK
  have B5 : Below z w (W.setCell ⟨bR, 0, none⟩ (.bool false)) := BWd.setCell (p := ⟨bR, 0, none⟩) (by show z ≤ bR; omega) _
  have HX : Hid (_ ∧ _ ∧ _) := ⟨hR5, hK5, B5⟩
  clear hR5 hK5 B5 hDd hRd BWd hK hall
  go_wp2_with fail
  obtain ⟨hR5, hK5, B5⟩ := HX.out
  have hbP := belowK_b (n₀ := z) (w := w3) (by omega) _ D _ (.deferred none) hD hK5 rfl rfl
  have c5 : ((W.setCell ⟨bR, 0, none⟩ (.bool false)).putObj D (.deferred none)).cell? ⟨bR, 0, none⟩ = some (.bool false) := Bx.cell ((World.putObj_heap_other (fun e => hDR e.symm)).trans hR5)
  refine ⟨by simp, .inl ⟨_, _, rfl, run_takeDeferred hK5, ?_⟩⟩
  refine ⟨.bool false, by simp [results, Tryd.results56, go_sem, c5], by rw [HO.out], ?_⟩
  rw [HZ.out]
  exact B5.trans hbP
 case stop =>
  rintro D c pre W hD ⟨k, hk, rfl⟩ ⟨rfl, hRd, BWd, hmd, hmem⟩ hK
  have cR := hRd.cell
  have HO : Hid (memB d L = true) := memB_of (List.mem_of_mem_take hmem)
  have hDR : D ≠ bR := fun e => by rw [e, show W.heap[bR]? = _ from hRd] at hK; cases hK
  gi_wp2
  have hbP := belowK_b (n₀ := z) (w := w3) (by omega) _ D _ (.deferred none) hD hK rfl rfl
  have c5 : (W.putObj D (.deferred none)).cell? ⟨bR, 0, none⟩ = some (.bool true) := Bx.cell ((World.putObj_heap_other (fun e => hDR e.symm)).trans hRd)
  refine ⟨by simp, .inl ⟨_, _, rfl, run_takeDeferred hK, ?_⟩⟩
  refine ⟨.bool true, by simp [results, Tryd.results56, go_sem, c5], by rw [HO.out], ?_⟩
  rw [HZ.out]
  exact BWd.trans hbP
end Go.Proofs.YtbmapdkcccdmfaaDoor
namespace Go.Proofs.YtbmapdkcccdmfaaDoor
open Go.RowKit Go.Shelf Go.Sort

def ctT (x : ByteArray) : ByteArray := x.extract 0 (min x.size 3000)
def smT (xs : List ByteArray) : List ByteArray := (xs.take 40).map ctT
theorem ct_snoc {es : List ByteArray} {k : Nat} {e : ByteArray} (he : es[k]? = some e) : (es.take (k + 1)).map ctT = (es.take k).map ctT ++ [ctT e] := by
 rw [List.take_add_one, he]
 simp
theorem info_text7 : (Tryd.prog.info? 9).map (fun i => (i.zero, i.size, i.bytes)) = some (some (.string ⟨#[]⟩), 1, 16) := by kernel_rfl
structure SmK7 (V : World) (b o N c k : Nat) (f fw : ByteArray) (u3 : Value) (S : Nat → Bool) (x15 x16 x17 x18 x19 x20 x21 x22 x23 x24 x25 x26 x27 : Value) (W : World) : Prop where
 e : Below V.heap.size V W
 f0 : S 0 = true → x15 = u3
 f1 : S 1 = true → x16 = Value.slice (some ⟨b, o, none⟩) N c
 f2 : S 2 = true → x17 = Value.int .i64 (k : Int)
 f3 : S 3 = true → x18 = Value.pointer (some ⟨b, o + k, none⟩)
 f4 : S 4 = true → x19 = Value.string f
 f5 : S 5 = true → x20 = Value.slice (some ⟨b, o, none⟩) N c
 f6 : S 6 = true → x21 = Value.int .i64 (k : Int)
 f7 : S 7 = true → x22 = Value.pointer (some ⟨b, o + k, none⟩)
 f8 : S 8 = true → x23 = Value.string f
 f9 : S 9 = true → x24 = Value.int .i64 (f.size : Int)
 f10 : S 10 = true → x25 = Value.int .i64 (min (f.size : Int) 3000)
 f11 : S 11 = true → x26 = Value.string fw
 f12 : S 12 = true → ∃ g, x27 = .slice (some ⟨g, 0, none⟩) 1 1 ∧ V.heap.size ≤ g ∧ g < W.heap.size ∧ W.heap[g]? = some (.cells #[.string fw] 9 (0, 0))
theorem SmK7.grow {V : World} {b o N c k : Nat} {f fw : ByteArray} {u3 : Value} {S : Nat → Bool} {x15 x16 x17 x18 x19 x20 x21 x22 x23 x24 x25 x26 x27 : Value} {W W' : World} (h : SmK7 V b o N c k f fw u3 S x15 x16 x17 x18 x19 x20 x21 x22 x23 x24 x25 x26 x27 W) (hb : Below W.heap.size W W') : SmK7 V b o N c k f fw u3 S x15 x16 x17 x18 x19 x20 x21 x22 x23 x24 x25 x26 x27 W' :=
 ⟨belowStep h.e h.e.size hb, h.f0, h.f1, h.f2, h.f3, h.f4, h.f5, h.f6, h.f7, h.f8, h.f9, h.f10, h.f11, fun s => (h.f12 s).imp fun _ ⟨j1, j0, j2, j3⟩ => ⟨j1, j0, Nat.lt_of_lt_of_le j2 hb.size, (hb.block _ j2).trans j3⟩⟩
set_option maxRecDepth 20000 in
set_option maxHeartbeats 4000000 in
theorem some7_any (es : List ByteArray) (a : Option Addr) (c n : Nat) (w : World) (hn : n ≤ w.heap.size) (hp : slS n w a es) :
  Calls Tryd.prog 11 #[.slice a es.length c] w fun e w' => Below w.heap.size w w' ∧ ∃ v, e = .returned v ∧ w'.ownsRow w.heap.size 9 1 v (smT es).length ((smT es).map .string) := by
 obtain ⟨i0, hi0, hz0, hz1, hz2⟩ := info_parts info_text7
 obtain ⟨N, hN⟩ : ∃ N, es.length = N := ⟨_, rfl⟩
 have HN : Hid (es.length = N) := hN
 rw [hN]
 clear hN
 obtain ⟨z, hz⟩ : ∃ z, w.heap.size = z := ⟨_, rfl⟩
 have HZ : Hid (w.heap.size = z) := hz
 have B0 : Below z w w := Below.refl _ _
 rw [hz]
 have hz' : z ≤ w.heap.size := by omega
 have hnz : n ≤ z := by omega
 clear hz hn
 go_enter Tryd.func11, Tryd.ntmps11
 go_wp2_with fail
 go_loopg [3, 4] (min N 40) (fun gk v i wr => ∃ k : Nat, k + gk = min N 40 ∧ i = .int .i64 k ∧ Below z w wr ∧ z ≤ wr.heap.size ∧ wr.ownsRow z 9 1 v k (((es.take k).map ctT).map .string))
 case atStart => exact ⟨0, by omega, rfl, B0, hz', World.ownsRow_nil _ _ _ _⟩
 case round =>
  clear B0
  obtain ⟨k, hk, rfl, BW, hzw, hown⟩ := hrel
  have hr3 : ∀ b, u3.ownBlock = some b → z ≤ b := fun b hb => (hown.lt b hb).1
  by_cases hlt : k < min N 40
  ·have l0 : (k : Int) < N := by omega
   have l4 : (k : Int) < 40 := by omega
   obtain ⟨f, hf⟩ : ∃ f, es[k]? = some f := ⟨es[k]'(by have := HN.out; omega), List.getElem?_eq_getElem (by have := HN.out; omega)⟩
   obtain ⟨b, o, rfl, hb, c0⟩ := slS_at hp k f hf
   replace c0 := (BW.cell (p := ⟨b, _, none⟩) (by show b < z; omega)).trans c0
   have wk : IntKind.i64.wrap ((k : Int) + 1) = ((k + 1 : Nat) : Int) := by rw [IntKind.wrap_i64]; omega
   have hm : (min (f.size : Int) 3000).toNat = min f.size 3000 := by omega
   obtain ⟨fw, hfw⟩ : ∃ q, f.extract 0 (min f.size 3000) = q := ⟨_, rfl⟩
   have HF : Hid (es[k]? = some f ∧ f.extract 0 (min f.size 3000) = fw) := ⟨hf, hfw⟩
   have hbW : b < wr.heap.size := by omega
   clear hf
   go_wp2_with fail
   refine region_inv_tail 13 (fun S aa W => ∃ x15 x16 x17 x18 x19 x20 x21 x22 x23 x24 x25 x26 x27 : Value, aa = { tmps := #[Value.slice (some { block := b, off := o }) N c, undef, Value.slice none 0 0, u3, Value.int IntKind.i64 ↑k, Value.int IntKind.i64 ↑k, Value.slice (some { block := b, off := o }) N c, Value.int IntKind.i64 ↑N, Value.bool true, Value.bool true, Value.int IntKind.i64 ↑k, Value.bool true, Value.bool true, u13, u14, x15, x16, x17, x18, x19, x20, x21, x22, x23, x24, x25, x26, x27, u28, undef], defers := [] } ∧ SmK7 wr b o N c k f fw u3 S x15 x16 x17 x18 x19 x20 x21 x22 x23 x24 x25 x26 x27 W) (by kernel_rfl) (by kernel_rfl) ?_ ?_ ?_
   ·exact ⟨u15, u16, u17, u18, u19, u20, u21, u22, u23, u24, u25, u26, u27, rfl, ⟨(Below.refl _ wr).drew, nofun, nofun, nofun, nofun, nofun, nofun, nofun, nofun, nofun, nofun, nofun, nofun, nofun⟩⟩
   ·intro i o S aa W hin hi hun hJ hall K hK
    obtain ⟨x15, x16, x17, x18, x19, x20, x21, x22, x23, x24, x25, x26, x27, rfl, h⟩ := hJ
    have hlt : i < 13 := hin
    have hcase : i = 0 ∨ i = 1 ∨ i = 2 ∨ i = 3 ∨ i = 4 ∨ i = 5 ∨ i = 6 ∨ i = 7 ∨ i = 8 ∨ i = 9 ∨ i = 10 ∨ i = 11 ∨ i = 12 := by omega
    rcases hcase with rfl | rfl | rfl | rfl | rfl | rfl | rfl | rfl | rfl | rfl | rfl | rfl | rfl
    all_goals (have ho := (Option.some.inj hi).symm; subst ho; clear hi hlt hin)
    ·go_simp
     exact hK _ _ ⟨_, _, _, _, _, _, _, _, _, _, _, _, _, rfl, { h with f0 := fun _ => rfl }⟩
    ·go_simp
     exact hK _ _ ⟨_, _, _, _, _, _, _, _, _, _, _, _, _, rfl, { h with f1 := fun _ => rfl }⟩
    ·go_simp
     exact hK _ _ ⟨_, _, _, _, _, _, _, _, _, _, _, _, _, rfl, { h with f2 := fun _ => rfl }⟩
    ·have s_1 : S 1 = true := hall ⟨1, .data⟩ (by simp) rfl
     obtain rfl := h.f1 s_1
     have s_2 : S 2 = true := hall ⟨2, .data⟩ (by simp) rfl
     obtain rfl := h.f2 s_2
     go_simp
     exact hK _ _ ⟨_, _, _, _, _, _, _, _, _, _, _, _, _, rfl, { h with f3 := fun _ => rfl }⟩
    ·have s_3 : S 3 = true := hall ⟨3, .data⟩ (by simp) rfl
     obtain rfl := h.f3 s_3
     have cW := (h.e.cell (p := ⟨b, o + k, none⟩) hbW).trans c0
     go_simp
     exact hK _ _ ⟨_, _, _, _, _, _, _, _, _, _, _, _, _, rfl, { h with f4 := fun _ => rfl }⟩
    ·go_simp
     exact hK _ _ ⟨_, _, _, _, _, _, _, _, _, _, _, _, _, rfl, { h with f5 := fun _ => rfl }⟩
    ·go_simp
     exact hK _ _ ⟨_, _, _, _, _, _, _, _, _, _, _, _, _, rfl, { h with f6 := fun _ => rfl }⟩
    ·have s_5 : S 5 = true := hall ⟨5, .data⟩ (by simp) rfl
     obtain rfl := h.f5 s_5
     have s_6 : S 6 = true := hall ⟨6, .data⟩ (by simp) rfl
     obtain rfl := h.f6 s_6
     go_simp
     exact hK _ _ ⟨_, _, _, _, _, _, _, _, _, _, _, _, _, rfl, { h with f7 := fun _ => rfl }⟩
    ·have s_7 : S 7 = true := hall ⟨7, .data⟩ (by simp) rfl
     obtain rfl := h.f7 s_7
     have cW := (h.e.cell (p := ⟨b, o + k, none⟩) hbW).trans c0
     go_simp
     exact hK _ _ ⟨_, _, _, _, _, _, _, _, _, _, _, _, _, rfl, { h with f8 := fun _ => rfl }⟩
    ·have s_8 : S 8 = true := hall ⟨8, .data⟩ (by simp) rfl
     obtain rfl := h.f8 s_8
     go_simp
     exact hK _ _ ⟨_, _, _, _, _, _, _, _, _, _, _, _, _, rfl, { h with f9 := fun _ => rfl }⟩
    ·have s_9 : S 9 = true := hall ⟨9, .data⟩ (by simp) rfl
     obtain rfl := h.f9 s_9
     go_simp
     exact hK _ _ ⟨_, _, _, _, _, _, _, _, _, _, _, _, _, rfl, { h with f10 := fun _ => rfl }⟩
    ·have s_4 : S 4 = true := hall ⟨4, .data⟩ (by simp) rfl
     obtain rfl := h.f4 s_4
     have s_10 : S 10 = true := hall ⟨10, .data⟩ (by simp) rfl
     obtain rfl := h.f10 s_10
     go_simp
     rw [if_pos (by constructor <;> omega)]
     exact hK _ _ ⟨_, _, _, _, _, _, _, _, _, _, _, _, _, rfl, { h with f11 := fun _ => rfl }⟩
    ·have s_11 : S 11 = true := hall ⟨11, .data⟩ (by simp) rfl
     obtain rfl := h.f11 s_11
     go_simp
     have h1 := h.grow ((Below.refl _ W).alloc (Nat.le_refl _) (.cells #[.string fw] 9))
     exact hK _ _ ⟨_, _, _, _, _, _, _, _, _, _, _, _, _, rfl, { h1 with f12 := fun _ => ⟨W.heap.size, rfl, h.e.size, by simp, World.alloc_heap_new W _⟩ }⟩
   ·rintro S aa W hall ⟨x15, x16, x17, x18, x19, x20, x21, x22, x23, x24, x25, x26, x27, rfl, h⟩
    obtain rfl := h.f0 (hall 0 (by decide))
    obtain rfl := h.f1 (hall 1 (by decide))
    obtain rfl := h.f2 (hall 2 (by decide))
    obtain rfl := h.f3 (hall 3 (by decide))
    obtain rfl := h.f4 (hall 4 (by decide))
    obtain rfl := h.f5 (hall 5 (by decide))
    obtain rfl := h.f6 (hall 6 (by decide))
    obtain rfl := h.f7 (hall 7 (by decide))
    obtain rfl := h.f8 (hall 8 (by decide))
    obtain rfl := h.f9 (hall 9 (by decide))
    obtain rfl := h.f10 (hall 10 (by decide))
    obtain rfl := h.f11 (hall 11 (by decide))
    obtain ⟨gg, rfl, hgg, hhg, hcg⟩ := h.f12 (hall 12 (by decide))
    have BWD := h.e
    clear h hall
    simp only [List.drop_succ_cons, List.drop_zero]
    have hown2 := owns_below2 hown BWD
    have hzW : z ≤ W.heap.size := Nat.le_trans hzw BWD.size
    have BW2 := belowStep BW hzw BWD
    have HV : Hid (_ ∧ _) := ⟨hown2, hcg⟩
    clear hown BW BWD hown2 hcg c0
    go_wp2_with (at_builtin; refine wpList_append_where _ rfl _ _ 23 rfl z 9 i0 _ 1 16 Tryd.underlying23 hi0 hz0 hz1 hz2 rfl (by decide) _ k _ rfl HV.out.1 ⟨gg, 0, none⟩ 1 1 [.string fw] rfl rfl ?c1 ?c2 (by unfold maxLen; omega) (by omega) ?c3 (by decide) ?_)
    case c1 =>
     intro j u hj
     rw [Addr.add_lit, Lib.cell_of_heap HV.out.2, Nat.zero_add]
     simpa using hj
    case c2 =>
     intro u hu
     simp only [List.mem_cons, List.not_mem_nil, or_false] at hu
     subst hu
     rfl
    case c3 => omega
    intro v' w6 a2 a3 a4 a5
    have HW : Hid (_ ∧ _) := ⟨a2, a3⟩
    clear a2 a3 a4 a5
    go_wp2
    go_roundg (gk - 1)
    case measure => omega
    case rel =>
     obtain ⟨a2, a3⟩ := HW.out
     refine ⟨k + 1, by omega, by first | rfl | (congr 1; omega), BW2.grown a3 hzW (fun q e => hr3 q e), Nat.le_trans hzW a3.size, ?_⟩
     have e := ct_snoc HF.out.1
     have e2 : ctT f = fw := HF.out.2
     have e3 : List.map Value.string (List.map ctT (es.take k)) = List.take k (List.map (Value.string ∘ ctT) es) := by rw [List.map_map, List.map_take]
     rw [e, e2, List.map_append, e3]
     exact a2
  ·have hk2 : k = min N 40 := by omega
   have he : (es.take k).map ctT = smT es := by
    unfold smT
    congr 1
    rw [hk2]
    by_cases h40 : N ≤ 40
    ·rw [List.take_of_length_le (by have := HN.out; omega), List.take_of_length_le (by have := HN.out; omega)]
    ·rw [show min N 40 = 40 by omega]
   rw [he] at hown
   have hlen : (smT es).length = k := by
    unfold smT
    rw [List.length_map, List.length_take, HN.out, Nat.min_comm]
    exact hk2.symm
   rw [← hlen] at hown
   have HO : Hid _ := hown
   clear hown he hlen
   by_cases hkN : (k : Int) < N
   ·have l4 : ¬ (k : Int) < 40 := by omega
    go_wp2
    go_ret
    exact ⟨BW, _, rfl, HO.out⟩
   ·go_wp2
    go_ret
    exact ⟨BW, _, rfl, HO.out⟩
end Go.Proofs.YtbmapdkcccdmfaaDoor
namespace Go.Proofs.YtbmapdkcccdmfaaDoor
open Go.RowKit Go.Shelf Go.Sort

set_option maxHeartbeats 1000000 in
theorem refersTo_any (s : ByteArray) (w : World) :
  Calls Tryd.prog 33 #[.string s] w fun e w' => e = .returned (.func (.func 56) #[] #[.pointer (some ⟨w.heap.size, 0, none⟩)]) ∧ w' = w.alloc (.cells #[.string s] 9) := by
 go_enter Tryd.func33, Tryd.ntmps33
 go_wp2
 go_ret
 exact ⟨rfl, rfl⟩
set_option maxHeartbeats 1000000 in
theorem lead1_any (d root : ByteArray) (bR : Nat) (w : World) (hR : Bx bR 9 (.string root) w) :
  Calls Tryd.prog 31 #[.string d, .pointer (some ⟨bR, 0, none⟩)] w fun e w' => e = .returned (.bool (decide (d = root))) ∧ Below w.heap.size w w' := by
 have rc := hR.cell
 by_cases h : d = root
 ·subst h
  rw [decide_eq_true rfl]
  go_enter Tryd.func31, Tryd.ntmps31
  go_wp2
  go_ret
  exact ⟨by simp, Below.refl _ _⟩
 ·have hl := ne_list h
  rw [decide_eq_false h]
  go_enter Tryd.func31, Tryd.ntmps31
  go_wp2
  go_ret
  exact ⟨by simp, Below.refl _ _⟩
def AskC (f b : Nat) (ask : ByteArray → Bool) (W : World) : Prop := (∀ args w, (callFunc f args).run Tryd.prog w = .ok (.enter f args) w) ∧ ∀ W' d, Below W.heap.size W W' → Calls Tryd.prog f #[.string d, .pointer (some ⟨b, 0, none⟩)] W' fun e w' => e = .returned (.bool (ask d)) ∧ Below W'.heap.size W' w'
theorem AskC.below {f b : Nat} {ask : ByteArray → Bool} {W W' : World} (h : AskC f b ask W) (hb : Below W.heap.size W W') : AskC f b ask W' :=
 ⟨h.1, fun W2 d h2 => h.2 W2 d (belowStep hb hb.size h2)⟩
theorem ask_root (root : ByteArray) (b : Nat) (W : World) (hB : Bx b 9 (.string root) W) : AskC 31 b (fun d => decide (d = root)) W :=
 ⟨fun args w => by simp [go_sem], fun W' d hb => lead1_any d root b W' ((hb.block b hB.lt).trans hB)⟩
theorem ask_text (s : ByteArray) (b : Nat) (W : World) (hB : Bx b 9 (.string s) W) : AskC 56 b (fun d => memB d (ndD s)) W :=
 ⟨fun args w => by simp [go_sem], fun W' d hb => refers_any s d b W' ((hb.block b hB.lt).trans hB)⟩
def ldR (root : ByteArray) (xs : List ByteArray) : List ByteArray := if rgT root xs = true then ldT (fun d => decide (d = root)) xs else []
def ldE (root : ByteArray) (xs : List ByteArray) : Int := if rgT root xs = true then 0 else 2
set_option maxRecDepth 100000 in
set_option maxHeartbeats 4000000 in
theorem lead_any (root : ByteArray) (xs : List ByteArray) (hxl : xs.length ≤ 1000) (hxs : ∀ x, x ∈ xs → x.size ≤ 65536) (a : Option Addr) (c n : Nat) (w : World) (hn : n ≤ w.heap.size) (hl : Laid w) (hs : slS n w a xs) :
  Calls Tryd.prog 16 #[.string root, .slice a xs.length c] w fun e w' => Below w.heap.size w w' ∧ ∃ v, e = .returned (.tuple #[v, .int .i64 (ldE root xs)]) ∧ w'.ownsRow w.heap.size 9 1 v (ldR root xs).length ((ldR root xs).map .string) := by
 have KR := fun W (hW : Below w.heap.size w W) => areRight_any root xs (by omega) a c n W (Nat.le_trans hn hW.size) (slS_below (hW.mono hn) hs)
 obtain ⟨N, hN⟩ : ∃ N, xs.length = N := ⟨_, rfl⟩
 have HN : Hid (xs.length = N) := hN
 cases hr : rgT root xs with
 | false =>
  have e1 : ldR root xs = [] := by unfold ldR; rw [hr]; rfl
  have e2 : ldE root xs = 2 := by unfold ldE; rw [hr]; rfl
  rw [e1, e2]
  rw [hr] at KR
  rw [hN] at KR ⊢
  clear e1 e2 hr hs hN
  go_enter Tryd.func16, Tryd.ntmps16
  go_wp2_with fail
  have B0 := be_new w (.cells #[.string root] 9)
  refine Calls.mono (KR _ B0) ?_
  rintro e w1 ⟨rfl, B1⟩
  replace B1 := belowStep B0 B0.size B1
  clear B0 KR
  go_wp2
  exact bodyPost_ret (v := .tuple #[.slice none 0 0, .int .i64 2]) (by simp [results, Tryd.results16, go_sem]) rfl ⟨B1, _, rfl, World.ownsRow_nil _ _ _ _⟩
 | true =>
  have e1 : ldR root xs = ldT (fun d => decide (d = root)) xs := by unfold ldR; rw [hr]; rfl
  have e2 : ldE root xs = 0 := by unfold ldE; rw [hr]; rfl
  rw [e1, e2]
  rw [hr] at KR
  rw [hN] at KR ⊢
  obtain ⟨ZS, hZS⟩ : ∃ ZS, ldT (fun d => decide (d = root)) xs = ZS := ⟨_, rfl⟩
  rw [hZS]
  have HZ : Hid (ldT (fun d => decide (d = root)) xs = ZS) := hZS
  clear e1 e2 hr hN hZS
  go_enter Tryd.func16, Tryd.ntmps16
  go_wp2_with fail
  have B0 := be_new w (.cells #[.string root] 9)
  have x0 : Bx w.heap.size 9 (.string root) (w.alloc (.cells #[.string root] 9)) := World.alloc_heap_new w _
  refine Calls.mono (KR _ B0) ?_
  rintro e w1 ⟨rfl, B1⟩
  have x1 : Bx w.heap.size 9 (.string root) w1 := (B1.block _ x0.lt).trans x0
  replace B1 := belowStep B0 B0.size B1
  clear B0 KR x0
  have hb1 := x1.lt
  have HA := ask_root root w.heap.size w1 x1
  obtain ⟨z, hz⟩ : ∃ z, w.heap.size = z := ⟨_, rfl⟩
  have HW : Hid (w.heap.size = z) := hz
  rw [hz] at x1 B1 hb1 HA hn ⊢
  clear hz
  have hN1 : N ≤ 1000 := by have := HN.out; omega
  obtain ⟨i0, hi0, hz0, hz1, hz2⟩ := info_parts info_text7

  go_wp2_with fail
  go_loopg [6, 7, 17] N (fun gk v fv i wr => ∃ (j f b : Nat) (ask : ByteArray → Bool) (td : List ByteArray), j + gk = N ∧ i = .int .i64 (j : Int) ∧ fv = .func (.func f) #[] #[.pointer (some ⟨b, 0, none⟩)] ∧ Below z w wr ∧ z ≤ wr.heap.size ∧ Hid (AskC f b ask wr ∧ td ++ ldT ask (xs.drop j) = ZS ∧ td.length = j) ∧ wr.ownsRow z 9 1 v td.length (td.map .string))
  case atStart => exact ⟨0, _, z, _, [], by omega, rfl, rfl, B1, by omega, ⟨HA, HZ.out, rfl⟩, World.ownsRow_nil _ _ _ _⟩
  case round =>
   obtain ⟨j, f, b, ask, td, hjg, rfl, rfl, BW, hzw, hH, hown⟩ := hrel
   obtain ⟨v6, hv6⟩ : ∃ v, u6 = v := ⟨_, rfl⟩
   rw [hv6] at hown ⊢
   have hr3 : ∀ b, v6.ownBlock = some b → z ≤ b := fun b hb => (hown.lt b hb).1
   by_cases hj : j < N
   ·have l0 : (j : Int) < N := by omega
    obtain ⟨x, hx⟩ : ∃ x, xs[j]? = some x := ⟨xs[j]'(by have := HN.out; omega), List.getElem?_eq_getElem (by have := HN.out; omega)⟩
    obtain ⟨bx, o, rfl, hbx, hc⟩ := slS_at hs j x hx
    have c0 := (BW.cell (p := ⟨bx, o + j, none⟩) (by show bx < z; omega)).trans hc
    have wk : IntKind.i64.wrap ((j : Int) + 1) = ((j + 1 : Nat) : Int) := by rw [IntKind.wrap_i64]; have := HN.out; omega
    have hxz := hxs x (List.mem_of_getElem? hx)
    have hd : xs.drop j = x :: xs.drop (j + 1) := by
     obtain ⟨h, e⟩ := List.getElem?_eq_some_iff.1 hx
     rw [List.drop_eq_getElem_cons h, e]
    have hE := hH.out.1.1
    have hq := hH.out.1.2
    have htd := hH.out.2.1
    have hlen := hH.out.2.2
    rw [hd] at htd
    have KS := sum_one x (by omega) wr (hl.below (by rw [HW.out]; exact BW))
    obtain ⟨s, hsm⟩ : ∃ s, sumOf x = s := ⟨_, rfl⟩
    have htd2 : td ++ (if ask s = true then x :: ldT (fun d => memB d (ndD x)) (xs.drop (j + 1)) else []) = ZS := by rw [← hsm]; exact htd
    rw [hsm] at KS
    have HX : Hid (_ ∧ _ ∧ _) := ⟨htd2, hlen, hown⟩
    clear htd htd2 hlen hH hd hx hc hv6 hown
    go_wp2_with fail
    refine KS.mono ?_
    rintro e w2 ⟨rfl, B2⟩
    have B12 := belowStep BW hzw B2
    go_wp2_with fail
    have KQ := hq w2 s B2
    cases ha : ask s with
    | false =>
     rw [ha] at KQ
     obtain ⟨htd, hlen, hown⟩ := HX.out
     rw [ha, if_neg (by decide), List.append_nil] at htd
     subst htd
     have HO : Hid (wr.ownsRow z 9 1 v6 td.length (td.map .string)) := hown
     clear hq hE hown ha hlen HX HZ
     refine KQ.mono ?_
     rintro e w3 ⟨rfl, B3⟩
     have B13 := belowStep B12 (by have := B2.size; omega) B3
     have hown := owns_below2 (owns_below2 HO.out B2) B3
     have HF : Hid (_ ∧ _) := ⟨B13, hown⟩
     clear B13 B12 hown B2 B3 KQ HO
     go_wp2
     exact bodyPost_ret (v := .tuple #[v6, .int .i64 0]) (by simp [results, Tryd.results16, go_sem]) rfl ⟨by rw [HW.out]; exact HF.out.1, _, rfl, by rw [HW.out]; exact HF.out.2⟩
    | true =>
     rw [ha] at KQ
     obtain ⟨htd, hlen, hown⟩ := HX.out
     rw [ha, if_pos rfl] at htd
     rw [hlen] at hown
     have HO : Hid (_ ∧ _ ∧ _) := ⟨htd, hlen, hown⟩
     clear hq hE hown ha hlen HX HZ htd
     refine KQ.mono ?_
     rintro e w3 ⟨rfl, B3⟩
     have B13 := belowStep B12 (by have := B2.size; omega) B3
     have BD := belowStep B2 B2.size B3
     clear KQ
     go_wp2_with fail
     refine (clone_any x w3 (by omega)).mono ?_
     rintro e w4 ⟨rfl, B4⟩
     replace B13 := belowStep B13 (by have := BD.size; omega) B4
     replace BD := belowStep BD BD.size B4
     have A5 := be_new w4 (.cells #[.string x] 9)
     have B15 := belowStep B13 (by have := BD.size; omega) A5
     have BD5 := belowStep BD BD.size A5
     have hown2 := owns_below2 HO.out.2.2 BD5
     have hcg : (w4.alloc (.cells #[.string x] 9)).heap[w4.heap.size]? = some (.cells #[.string x] 9 (0, 0)) := World.alloc_heap_new w4 _
     have hz4 : z ≤ w4.heap.size := by have := BD.size; omega
     have hzW : z ≤ (w4.alloc (.cells #[.string x] 9)).heap.size := by have := A5.size; omega
     have HV : Hid (_ ∧ _) := ⟨hown2, hcg⟩
     clear hown2 hcg B2 B3 B4 B12 B13 BD BD5
     go_wp2_with (first
      | (at_builtin; refine wpList_append_where _ rfl _ _ 23 rfl z 9 i0 _ 1 16 Tryd.underlying23 hi0 hz0 hz1 hz2 rfl (by decide) _ j _ rfl HV.out.1 ⟨w4.heap.size, 0, none⟩ 1 1 [.string x] rfl rfl ?c1 ?c2 (by unfold maxLen; omega) (by omega) hzW (by decide) ?_))
     case c1 =>
      intro j u hj
      rw [Addr.add_lit, Lib.cell_of_heap HV.out.2, Nat.zero_add]
      simpa using hj
     case c2 =>
      intro u hu
      simp only [List.mem_cons, List.not_mem_nil, or_false] at hu
      subst hu
      rfl
     intro v' w6 a2 a3 a4 a5
     have B16 := B15.grown a3 hzW (fun q e => hr3 q e)
     have hz6 : z ≤ w6.heap.size := Nat.le_trans hzW a3.size
     have HY : Hid (_ ∧ _) := ⟨a2, B16⟩
     clear a2 a3 a4 a5 B15 HV A5 B16
     go_wp2_with fail
     refine (refersTo_any x w6).mono ?_
     rintro e w7 ⟨rfl, hw7⟩
     have A7 : Below w6.heap.size w6 w7 := by rw [hw7]; exact be_new w6 _
     have x7 : Bx w6.heap.size 9 (.string x) w7 := by rw [hw7]; exact World.alloc_heap_new w6 _
     have HH : Hid (_ ∧ _) := ⟨A7, x7⟩
     clear hw7 A7 x7
     go_wp2
     go_roundg (gk - 1)
     case measure => omega
     case rel =>
      obtain ⟨a2, B16⟩ := HY.out
      obtain ⟨A7, x7⟩ := HH.out
      obtain ⟨htd, hlen, hown⟩ := HO.out
      have hl2 : (td ++ [x]).length = j + 1 := by rw [List.length_append, hlen]; rfl
      refine ⟨j + 1, 56, w6.heap.size, _, td ++ [x], by omega, by first | rfl | (congr 1; omega), rfl, belowStep B16 hz6 A7, Nat.le_trans hz6 A7.size, ⟨ask_text x _ w7 x7, ?_, hl2⟩, ?_⟩
      ·rw [List.append_assoc]
       exact htd
      ·rw [hl2, List.map_append]
       exact owns_below2 a2 A7
   ·have hjN : j = N := by omega
    subst hjN
    have l0 : ¬ (j : Int) < j := by omega
    obtain ⟨_, htd, hlen⟩ := hH.out
    rw [List.drop_eq_nil_of_le (by have := HN.out; omega)] at htd
    have htd2 : td = ZS := by rw [← htd]; exact (List.append_nil td).symm
    subst htd2
    have HF : Hid (_ ∧ _) := ⟨BW, hown⟩
    clear hown BW hH htd hlen
    go_wp2
    exact bodyPost_ret (v := .tuple #[v6, .int .i64 0]) (by simp [results, Tryd.results16, go_sem]) rfl ⟨by rw [HW.out]; exact HF.out.1, _, rfl, by rw [HW.out]; exact HF.out.2⟩
end Go.Proofs.YtbmapdkcccdmfaaDoor
namespace Go.Proofs.YtbmapdkcccdmfaaDoor
open Go.RowKit Go.Shelf Go.Sort

theorem own_mono7 {W : World} {z z' : Nat} {e : TypeId} {k : Nat} {v : Value} {n : Nat} {xs : List Value} (h : W.ownsRow z' e k v n xs) (hz : z ≤ z') : W.ownsRow z e k v n xs := by
 refine ⟨h.1, ?_⟩
 rcases h.2 with h1 | ⟨g, cap, cur, h1, h2, h3⟩
 ·exact .inl h1
 ·exact .inr ⟨g, cap, cur, h1, Nat.le_trans hz h2, h3⟩
set_option maxRecDepth 20000 in
set_option maxHeartbeats 1000000 in
theorem four7_any (w : World) :
  Calls Tryd.prog 18 #[] w fun e w' => Below w.heap.size w w' ∧ ∃ b, e = .returned (.slice (some ⟨b, 0, none⟩) 4 4) ∧ w.heap.size ≤ b ∧ slP w'.heap.size w' (some ⟨b, 0, none⟩) four4 := by
 go_enter Tryd.func18, Tryd.ntmps18
 go_wp2
 go_ret
 refine ⟨be_new w _, w.heap.size, rfl, Nat.le_refl _, .inr ⟨w.heap.size, 0, rfl, by simp, ?_⟩⟩
 intro j e he
 have hc := fun k => Lib.cell_of_heap (j := k) (World.alloc_heap_new w (.cells #[.string ⟨#[100, 111]⟩, .string ⟨#[118, 101, 114, 98]⟩, .string ⟨#[100, 111, 103]⟩, .string ⟨#[112, 117, 112, 112, 121]⟩, .string ⟨#[100, 111, 103, 101]⟩, .string ⟨#[99, 111, 105, 110]⟩, .string ⟨#[104, 111, 114, 115, 101]⟩, .string ⟨#[115, 116, 97, 108, 108, 105, 111, 110]⟩] 57))
 match j, he with
 | 0, he => cases he; exact ⟨hc 0, hc 1⟩
 | 1, he => cases he; exact ⟨hc 2, hc 3⟩
 | 2, he => cases he; exact ⟨hc 4, hc 5⟩
 | 3, he => cases he; exact ⟨hc 6, hc 7⟩
 | k + 4, he => cases he

set_option maxRecDepth 20000 in
set_option maxHeartbeats 1000000 in
theorem rprove_own {b : Bool} {es : List Pr} (hb0 : b = true ↔ RightP es) (key : ByteArray) (hkey : key.size ≤ 70368744177664) (a : Option Addr) (c n : Nat) (w : World) (hn : n ≤ w.heap.size) (hs : slP n w a es) :
  Calls Tryd.prog 19 #[.slice a es.length c, .string key] w fun e w' => (∃ v, e = .returned (.tuple #[v, .int .i64 (erS b)]) ∧ w'.ownsRow w.heap.size 9 1 v (tdS b (wayL (kyP key)) es).length ((tdS b (wayL (kyP key)) es).map .string)) ∧ Below w.heap.size w w' := by
 have K1 := rright6_any es a c n w hn hs
 have hlen := tdW_len (kyP key) es hb0
 obtain ⟨xs, hxs⟩ : ∃ xs, tdS b (wayL (kyP key)) es = xs := ⟨_, rfl⟩
 obtain ⟨N, hN⟩ : ∃ N, es.length = N := ⟨_, rfl⟩
 cases b with
 | false =>
  have hnr : ¬ RightP es := fun h => Bool.noConfusion (hb0.2 h)
  have HNR : Hid (¬ RightP es) := hnr
  have e1 : xs = [] := hxs.symm
  have e2 : erS false = 60 := rfl
  rw [hxs, e1, e2, hN] 
  rw [hN] at K1
  clear hxs hlen e1 e2 hb0 hnr hs hN
  go_enter Tryd.func19, Tryd.ntmps19
  go_wp2_with fail
  refine K1.mono ?_
  rintro e w1 ⟨⟨q, rfl, h1⟩, B1⟩
  obtain rfl : q = false := by
   cases q with
   | false => rfl
   | true => exact absurd (h1.1 rfl) HNR.out
  clear h1 K1
  go_wp2
  exact bodyPost_ret (v := .tuple #[.slice none 0 0, .int .i64 60]) (by simp [results, Tryd.results19, go_sem]) rfl ⟨⟨_, rfl, World.ownsRow_nil _ _ _ _⟩, B1⟩
 | true =>
  have hr : RightP es := hb0.1 rfl
  have HR : Hid (RightP es) := hr
  have e2 : erS true = 0 := rfl
  rw [e2]
  by_cases h0 : es.length = 0
  ·have e1 : xs = [] := by
    rw [← hxs]
    unfold tdS wyL
    rw [if_pos rfl, if_pos (by rw [(srt_perm es).length_eq]; exact h0)]
   rw [hxs, e1, h0]
   rw [h0] at K1
   clear hxs hlen e1 e2 hb0 hr hs hN h0
   go_enter Tryd.func19, Tryd.ntmps19
   go_wp2_with fail
   refine K1.mono ?_
   rintro e w1 ⟨⟨q, rfl, h1⟩, B1⟩
   obtain rfl : q = true := h1.2 HR.out
   clear h1 K1
   go_wp2
   exact bodyPost_ret (v := .tuple #[.slice none 0 0, .int .i64 0]) (by simp [results, Tryd.results19, go_sem]) rfl ⟨⟨_, rfl, World.ownsRow_nil _ _ _ _⟩, B1⟩
  ·have KN := fun W hn hp => ws_all (ofOf key) 129 es 0 (by omega) hr (ok_top hr h0) W.heap.size (.slice none 0 0) [] a c n W hn hp (World.ownsRow_nil _ _ _ _) (Nat.le_refl _) (by rw [ws_top hr h0]; simp; omega)
   rw [ws_top hr h0, hxs] at KN
   rw [hxs, hN]
   rw [hN] at K1 KN h0
   have l0 : ((N : Int) == 0) = false := by rw [beq_eq_false_iff_ne]; omega
   have HS : Hid _ := hs
   have HKN : Hid _ := KN
   clear hxs hlen e2 hb0 hr hs hN KN
   go_enter Tryd.func19, Tryd.ntmps19
   go_wp2_with fail
   refine K1.mono ?_
   rintro e w1 ⟨⟨q, rfl, h1⟩, B1⟩
   obtain rfl : q = true := h1.2 HR.out
   clear K1 h1
   have KO := rof_any key hkey w1
   go_wp2_with fail
   refine KO.mono ?_
   rintro e w2' ⟨rfl, B1'⟩
   replace B1 := belowStep B1 B1.size B1'
   clear KO B1'
   have hp1 := slP_below (B1.mono hn) HS.out
   have K2 := HKN.out w2' (Nat.le_trans hn B1.size) (hp1.elim .inl fun ⟨b, o, h1, h2, h3⟩ => .inr ⟨b, o, h1, h2, by simp [Value.ownBlock], h3⟩)
   rw [List.nil_append] at K2
   obtain ⟨G, hG⟩ : ∃ G, GrR w2'.heap.size (.slice none 0 0) xs w2' = G := ⟨_, rfl⟩
   have HG : Hid (GrR w2'.heap.size (.slice none 0 0) xs w2' = G) := hG
   have K3 : Calls Tryd.prog 34 #[.slice none 0 0, .slice a N c, .int .i64 0, .string (ofOf key)] w2' G := by rw [← hG]; exact K2
   clear K2 hG hp1
   go_wp2_with fail
   refine K3.mono ?_
   intro e w2 hg
   rw [← HG.out] at hg
   obtain ⟨v2, rfl, o1, o2, o3⟩ := hg
   obtain ⟨a2, c2, rfl, hsl⟩ := slS_owns o1
   have B2 : Below w2'.heap.size w2' w2 := ⟨o2.os, o2.tape, o2.output, o2.size, fun k hk => o2.block k hk (by simp [Value.ownBlock])⟩
   have BW := belowStep B1 B1.size B2
   have HF : Hid (_ ∧ _) := ⟨own_mono7 o1 B1.size, BW⟩
   clear o1 o2 o3 hsl K3 B2 BW
   go_wp2
   exact bodyPost_ret (v := .tuple #[.slice a2 xs.length c2, .int .i64 0]) (by simp [results, Tryd.results19, go_sem]) rfl ⟨⟨_, rfl, HF.out.1⟩, HF.out.2⟩
end Go.Proofs.YtbmapdkcccdmfaaDoor
namespace Go.Proofs.YtbmapdkcccdmfaaDoor
open Go.RowKit Go.Shelf Go.Sort

theorem nd_enc {x : It} {t : ByteArray} (h : encI x = t) (hE : eE x = 0) (hd : dprI 12 x = false) (hz : t.size ≤ 65536) : ndOf t = rdN x := by
 have := dec_enc hE
 rw [h] at this
 rw [ndOf_one hz this, hd]
 rfl
theorem wk_go {f : Nat} {d p x : ByteArray} {r : List ByteArray} {n : PN} {rr : PR} {rest : ByteArray} (hs : sumOf x = d) (hn : ndOf x = some n) (hp : ¬ p = n.path) (hst : stepTo p n.ss = some (rr, rest)) : wkF (f + 1) (.dig d) p (x :: r) = wkF f rr rest r := by
 have ha : askN d (x :: r) = some n := by
  show (if sumOf x = d then ndOf x else none) = _
  rw [if_pos hs, hn]
 rw [wk_dig f d p x r n ha, wk_win, if_neg hp, hst]
theorem wk_in {f : Nat} {p : ByteArray} {ts : List ByteArray} {n : PN} {rr : PR} {rest : ByteArray} (hp : ¬ p = n.path) (hst : stepTo p n.ss = some (rr, rest)) : wkF (f + 1) (.win n) p ts = wkF f rr rest ts := by
 rw [wk_win, if_neg hp, hst]
theorem wk_at {f : Nat} {p : ByteArray} {ts : List ByteArray} {n : PN} (hp : p = n.path) : wkF (f + 1) (.win n) p ts = (n.val, ts.isEmpty) := by
 rw [wk_win, if_pos hp]
theorem wk_off {f : Nat} {d p x : ByteArray} {r : List ByteArray} {n : PN} (hs : sumOf x = d) (hn : ndOf x = some n) (hp : ¬ p = n.path) (hst : stepTo p n.ss = none) : wkF (f + 1) (.dig d) p (x :: r) = (⟨#[]⟩, r.isEmpty) := by
 have ha : askN d (x :: r) = some n := by
  show (if sumOf x = d then ndOf x else none) = _
  rw [if_pos hs, hn]
 rw [wk_dig f d p x r n ha, wk_win, if_neg hp, hst]
def m6 : PN := .mk ⟨#[]⟩ ⟨#[112, 117, 112, 112, 121]⟩ (.cons ⟨#[6]⟩ (.win (.mk ⟨#[5]⟩ ⟨#[99, 111, 105, 110]⟩ .nil)) .nil)
def m5 : PN := .mk ⟨#[]⟩ ⟨#[]⟩ (.cons ⟨#[7]⟩ (.win m6) .nil)
def m4 : PN := .mk ⟨#[]⟩ ⟨#[118, 101, 114, 98]⟩ (.cons ⟨#[6]⟩ (.win m5) .nil)
def m2' : PN := .mk ⟨#[]⟩ ⟨#[]⟩ (.cons ⟨#[6, 15]⟩ (.dig D1.d) .nil)
def mH : PN := .mk ⟨#[6, 15, 7, 2, 7, 3, 6, 5]⟩ ⟨#[115, 116, 97, 108, 108, 105, 111, 110]⟩ .nil
def m1 : PN := .mk ⟨#[]⟩ ⟨#[]⟩ (.cons ⟨#[4]⟩ (.dig D2.d) (.cons ⟨#[8]⟩ (.win mH) .nil))
def m0 : PN := .mk ⟨#[]⟩ ⟨#[]⟩ (.cons ⟨#[6]⟩ (.dig D3.d) .nil)
theorem k0 : ndOf D4.t = some m0 := by
 rw [nd_enc (x := X0) (by decide +kernel) (by decide +kernel) (by decide +kernel) (by decide +kernel)]
 kernel_rfl
theorem k1 : ndOf D3.t = some m1 := by
 rw [nd_enc (x := X1) (by decide +kernel) (by decide +kernel) (by decide +kernel) (by decide +kernel)]
 kernel_rfl
theorem k2 : ndOf D2.t = some m2' := by
 rw [nd_enc (x := X2) (by decide +kernel) (by decide +kernel) (by decide +kernel) (by decide +kernel)]
 kernel_rfl
theorem k4 : ndOf D1.t = some m4 := by
 rw [nd_enc (x := X4) (by decide +kernel) (by decide +kernel) (by decide +kernel) (by decide +kernel)]
 kernel_rfl
theorem wdog (ts : List ByteArray) : wkF 7 (.dig D4.d) ⟨#[6, 4, 6, 15, 6, 7]⟩ (D4.t :: D3.t :: D2.t :: D1.t :: ts) = (⟨#[112, 117, 112, 112, 121]⟩, ts.isEmpty) := by
 rw [wk_go (n := m0) (rr := .dig D3.d) (rest := ⟨#[4, 6, 15, 6, 7]⟩) D4.sum k0 (by decide) (by kernel_rfl)]
 rw [wk_go (n := m1) (rr := .dig D2.d) (rest := ⟨#[6, 15, 6, 7]⟩) D3.sum k1 (by decide) (by kernel_rfl)]
 rw [wk_go (n := m2') (rr := .dig D1.d) (rest := ⟨#[6, 7]⟩) D2.sum k2 (by decide) (by kernel_rfl)]
 rw [wk_go (n := m4) (rr := .win m5) (rest := ⟨#[7]⟩) D1.sum k4 (by decide) (by kernel_rfl)]
 rw [wk_in (n := m5) (rr := .win m6) (rest := ⟨#[]⟩) (by decide) (by kernel_rfl)]
 rw [wk_at (n := m6) (by decide)]
 rfl
theorem wcat : wkF 7 (.dig D4.d) ⟨#[6, 3, 6, 1, 7, 4]⟩ [D4.t, D3.t] = (⟨#[]⟩, true) := by
 rw [wk_go (n := m0) (rr := .dig D3.d) (rest := ⟨#[3, 6, 1, 7, 4]⟩) D4.sum k0 (by decide) (by kernel_rfl)]
 rw [wk_off (n := m1) D3.sum k1 (by decide) (by kernel_rfl)]
 rfl
def tDog : ByteArray := ⟨#[100, 111, 103]⟩
def tCat : ByteArray := ⟨#[99, 97, 116]⟩
def wDog : List ByteArray := [D4.t, D3.t, D2.t, D1.t]
def wCat : List ByteArray := [D4.t, D3.t]
theorem chk_dog : chkF D4.d tDog wDog = (⟨#[112, 117, 112, 112, 121]⟩, true, 0) := by
 unfold chkF
 have e : ofOf tDog = ⟨#[6, 4, 6, 15, 6, 7]⟩ := by decide +kernel
 have hw : wkF (2 * tDog.size + 1) (.dig D4.d) (ofOf tDog) wDog = (⟨#[112, 117, 112, 112, 121]⟩, true) := by rw [e]; exact wdog []
 rw [hw, if_pos (by decide +kernel), if_neg (by intro h; cases h.1), if_pos rfl]
 rfl
theorem chk_cat : chkF D4.d tCat wCat = (⟨#[]⟩, false, 0) := by
 unfold chkF
 have e : ofOf tCat = ⟨#[6, 3, 6, 1, 7, 4]⟩ := by decide +kernel
 have hw : wkF (2 * tCat.size + 1) (.dig D4.d) (ofOf tCat) wCat = (⟨#[]⟩, true) := by rw [e]; exact wcat
 rw [hw, if_pos (by decide +kernel), if_neg (by intro h; cases h.1), if_pos rfl]
 rfl
theorem chk_more : chkF D4.d tDog (wDog ++ [⟨#[120]⟩]) = (⟨#[]⟩, false, 70) := by
 unfold chkF
 have e : ofOf tDog = ⟨#[6, 4, 6, 15, 6, 7]⟩ := by decide +kernel
 have hw : wkF (2 * tDog.size + 1) (.dig D4.d) (ofOf tDog) (wDog ++ [⟨#[120]⟩]) = (⟨#[112, 117, 112, 112, 121]⟩, false) := by rw [e]; exact wdog [⟨#[120]⟩]
 rw [hw, if_pos (by decide +kernel), if_neg (by intro h; cases h.1), if_neg (by decide)]
theorem srt4 : srt four4 = four4 := only4 (srt_perm _) (srt_sorted _)
theorem rt4 : rtS true four4 = D4.d := by
 unfold rtS
 rw [if_pos rfl, srt4, topB4, D4.sum]
theorem td_dog : tdS true (wayL (kyP tDog)) four4 = wDog := by
 unfold tdS
 rw [if_pos rfl, srt4]
 exact way4
theorem td_cat : tdS true (wayL (kyP tCat)) four4 = wCat := by
 unfold tdS
 rw [if_pos rfl, srt4]
 unfold wyL
 rw [if_neg (by decide), top4]
 have hk : kyP tCat = ⟨#[6, 3, 6, 1, 7, 4]⟩ := by decide +kernel
 rw [hk]
 unfold wayL
 have o1 : ownT X1 = [D3.t] := by
  unfold ownT
  rw [t1, if_neg (by decide +kernel)]
 have w1 : wyN ⟨#[3, 6, 1, 7, 4]⟩ nod1 = [D3.t] := by
  show ownT X1 ++ (if pfx ⟨#[4]⟩ ⟨#[3, 6, 1, 7, 4]⟩ = true then _ else (if pfx ⟨#[8]⟩ ⟨#[3, 6, 1, 7, 4]⟩ = true then _ else [])) = _
  rw [o1, if_neg (by decide +kernel), if_neg (by decide +kernel)]
  rfl
 show eS X0 :: (if pfx ⟨#[6]⟩ ⟨#[6, 3, 6, 1, 7, 4]⟩ = true then wyN (rst ⟨#[6, 3, 6, 1, 7, 4]⟩ ⟨#[6]⟩) nod1 else []) = _
 rw [t0, if_pos (by decide +kernel), show rst ⟨#[6, 3, 6, 1, 7, 4]⟩ ⟨#[6]⟩ = ⟨#[3, 6, 1, 7, 4]⟩ by decide +kernel, w1]
 rfl
end Go.Proofs.YtbmapdkcccdmfaaDoor
namespace Go.Proofs.YtbmapdkcccdmfaaDoor
open Go.RowKit Go.Shelf Go.Sort

def wMore : List ByteArray := wDog ++ [⟨#[120]⟩]
theorem chk_more7 : chkF D4.d tDog wMore = (⟨#[]⟩, false, 70) := chk_more
theorem hb4 : true = true ↔ RightP four4 := ⟨fun _ => right4, fun _ => rfl⟩
theorem owns_cap7 {W : World} {z : Nat} {v : Value} {xs : List ByteArray} (h : W.ownsRow z 9 1 v xs.length (xs.map .string)) : ∃ a c, v = .slice a xs.length c ∧ xs.length ≤ c ∧ slS W.heap.size W a xs := by
 obtain ⟨a, c, rfl, hs⟩ := slS_owns h
 rcases h.2 with ⟨h1, h2⟩ | ⟨g, cap, cur, h1, h2, h3, h4, _⟩
 ·exact ⟨a, c, rfl, by omega, hs⟩
 ·injection h1 with e1 e2 e3
  subst e3
  exact ⟨a, c, rfl, h4, hs⟩
set_option maxRecDepth 20000 in
set_option maxHeartbeats 4000000 in
theorem shown7_any (w : World) (hl : Laid w) :
  Calls Tryd.prog 7 #[] w fun e w' => e = .returned (.bool true) ∧ Below w.heap.size w w' := by
 go_enter Tryd.func7, Tryd.ntmps7
 go_wp2_with fail
 refine (four7_any w).mono ?_
 rintro e w1 ⟨B1, b1, rfl, hb1, hp1⟩
 have KR := rroot_one hb4 (some ⟨b1, 0, none⟩) 4 w1.heap.size w1 (Nat.le_refl _) hp1
 rw [rt4, show erS true = 0 from rfl, show four4.length = 4 from rfl] at KR
 go_wp2_with fail
 refine KR.mono ?_
 rintro e w2 ⟨rfl, B2⟩
 have BW := belowStep B1 B1.size B2
 clear KR hp1 B1 B2
 go_wp2_with fail
 refine (four7_any w2).mono ?_
 rintro e w3 ⟨B3, b3, rfl, hb3, hp3⟩
 have KP := rprove_own hb4 tDog (by decide) (some ⟨b3, 0, none⟩) 4 w3.heap.size w3 (Nat.le_refl _) hp3
 rw [td_dog, show erS true = 0 from rfl, show four4.length = 4 from rfl] at KP
 replace BW := belowStep BW BW.size B3
 have hwz : w.heap.size ≤ w3.heap.size := BW.size
 clear B3 hp3
 go_wp2_with fail
 refine KP.mono ?_
 rintro e w4 ⟨⟨v, rfl, hown⟩, B4⟩
 clear KP
 obtain ⟨a4, c4, rfl, hc4, hs4⟩ := owns_cap7 hown
 replace BW := belowStep BW BW.size B4
 have KC := check_any D4.d tDog wDog (by decide) a4 c4 w4.heap.size hc4 w4 (Nat.le_refl _) (hl.below BW) hs4
 rw [chk_dog, show wDog.length = 4 from rfl] at KC
 dsimp only at KC
 have HO : Hid _ := hown
 have hz3 : w3.heap.size ≤ w4.heap.size := B4.size
 clear hown hs4 B4
 obtain ⟨z3, hz30⟩ : ∃ z, w3.heap.size = z := ⟨_, rfl⟩
 rw [hz30] at HO hz3 hwz
 clear hz30
 rw [show wDog.length = 4 from rfl] at hc4 ⊢
 go_wp2_with fail
 refine KC.mono ?_
 rintro e w5 ⟨rfl, B5⟩
 have hO5 : Hid _ := owns_below HO.out B5
 replace hz3 : z3 ≤ w5.heap.size := Nat.le_trans hz3 B5.size
 replace BW := belowStep BW BW.size B5
 clear KC B5 HO
 go_wp2_with fail
 refine (four7_any w5).mono ?_
 rintro e w6 ⟨B6, b6, rfl, hb6, hp6⟩
 have KP := rprove_own hb4 tCat (by decide) (some ⟨b6, 0, none⟩) 4 w6.heap.size w6 (Nat.le_refl _) hp6
 rw [td_cat, show erS true = 0 from rfl, show four4.length = 4 from rfl] at KP
 have hO6 : Hid _ := owns_below hO5.out B6
 replace hz3 : z3 ≤ w6.heap.size := Nat.le_trans hz3 B6.size
 replace BW := belowStep BW BW.size B6
 clear B6 hp6 hO5
 go_wp2_with fail
 refine KP.mono ?_
 rintro e w7 ⟨⟨v7, rfl, hown7⟩, B7⟩
 clear KP
 obtain ⟨a7, c7, rfl, hc7, hs7⟩ := owns_cap7 hown7
 have hO7 : Hid _ := owns_below hO6.out B7
 replace hz3 : z3 ≤ w7.heap.size := Nat.le_trans hz3 B7.size
 replace BW := belowStep BW BW.size B7
 have KC := check_any D4.d tCat wCat (by decide) a7 c7 w7.heap.size hc7 w7 (Nat.le_refl _) (hl.below BW) hs7
 rw [chk_cat, show wCat.length = 2 from rfl] at KC
 dsimp only at KC
 clear hown7 hs7 B7 hO6
 rw [show wCat.length = 2 from rfl] at hc7 ⊢
 go_wp2_with fail
 refine KC.mono ?_
 rintro e w8 ⟨rfl, B8⟩
 have hO8 : Hid _ := owns_below hO7.out B8
 replace hz3 : z3 ≤ w8.heap.size := Nat.le_trans hz3 B8.size
 replace BW := belowStep BW BW.size B8
 clear KC B8 hO7
 obtain ⟨i0, hi0, hj0, hj1, hj2⟩ := info_parts info_text7
 have A8 := (Below.refl w8.heap.size w8).alloc (Nat.le_refl _) (.cells #[.string ⟨#[120]⟩] 9)
 have hN8 := World.alloc_heap_new w8 (.cells #[.string ⟨#[120]⟩] 9)
 have hO9 : Hid (_ ∧ _ ∧ _) := ⟨owns_below hO8.out A8, hN8, A8⟩
 clear A8 hN8 hO8
 go_wp2_with (at_builtin; refine wpList_append_where _ rfl _ _ 23 rfl z3 9 i0 _ 1 16 Tryd.underlying23 hi0 hj0 hj1 hj2 rfl (by decide) _ 4 _ rfl hO9.out.1 ⟨w8.heap.size, 0, none⟩ 1 1 [.string ⟨#[120]⟩] rfl rfl ?c1 ?c2 (by unfold maxLen; omega) (by omega) ?c3 (by decide) ?_)
 case c1 =>
  intro j u hj
  rw [Addr.add_lit, Lib.cell_of_heap hO9.out.2.1, Nat.zero_add]
  simpa using hj
 case c2 =>
  intro u hu
  simp only [List.mem_cons, List.not_mem_nil, or_false] at hu
  subst hu
  rfl
 case c3 =>
  have := hO9.out.2.2.size
  omega
 intro v' w9 a2 a3 a4 a5
 have hO9' := hO9.out
 have hownM : w9.ownsRow z3 9 1 v' wMore.length (wMore.map .string) := a2
 obtain ⟨a9, c9, rfl, hc9, hs9⟩ := owns_cap7 hownM
 have hA8 := hO9'.2.2
 have BX := belowStep BW BW.size hA8
 have BY : Below w.heap.size w w9 := BX.grown a3 (by have := BX.size; omega) (fun b e => Nat.le_trans hwz (hO9'.1.lt b e).1)
 have KC := check_any D4.d tDog wMore (by decide) a9 c9 w9.heap.size hc9 w9 (Nat.le_refl _) (hl.below BY) hs9
 rw [chk_more7, show wMore.length = 5 from rfl] at KC
 dsimp only at KC
 rw [show wMore.length = 5 from rfl]
 have HB : Hid _ := BY
 clear a2 a3 a4 a5 hO9 hO9' hownM hs9 hA8 BX BY BW
 go_wp2_with fail
 refine KC.mono ?_
 rintro e w10 ⟨rfl, B10⟩
 have BZ := belowStep HB.out HB.out.size B10
 clear KC B10
 go_wp2
 go_ret
 exact ⟨rfl, BZ⟩
end Go.Proofs.YtbmapdkcccdmfaaDoor
namespace Go.Proofs.YtbmapdkcccdmfaaDoor
open Go.RowKit Go.Shelf Go.Sort

theorem smT_len30 (xs : List ByteArray) : (smT xs).length ≤ 40 := by unfold smT; rw [List.length_map, List.length_take]; omega
theorem smT_size30 (xs : List ByteArray) : ∀ x, x ∈ smT xs → x.size ≤ 65536 := fun x hx => by
 unfold smT at hx
 obtain ⟨y, _, rfl⟩ := List.mem_map.1 hx
 unfold ctT
 rw [ByteArray.size_extract]
 omega
theorem ldR_len (root : ByteArray) (xs : List ByteArray) : (ldR root xs).length ≤ xs.length := by
 unfold ldR
 split
 ·exact ldT_len xs _
 ·exact Nat.zero_le _
theorem chk_right {root key : ByteArray} {xs : List ByteArray} (h : (chkF root key xs).2.2 = 0) : rgT root xs = true := by
 unfold chkF at h
 split at h
 ·next h1 => exact h1.2.2
 ·cases h
theorem lead_ok {root key : ByteArray} {xs : List ByteArray} (h : (chkF root key xs).2.2 = 0) : ldR root xs = xs ∧ ldE root xs = 0 := by
 unfold ldR ldE
 rw [chk_right h]
 exact ⟨lead_all h, rfl⟩
set_option maxRecDepth 20000 in
set_option maxHeartbeats 4000000 in
theorem pleads_any (root key : ByteArray) (l : List ByteArray) (a1 : Option Addr) (c1 : Nat) (w : World) (hl : Laid w) (h1 : slS w.heap.size w a1 l) :
  Calls Tryd.prog 6 #[.string root, .string key, .slice a1 l.length c1] w fun e w' => e = .returned (.bool true) ∧ Below w.heap.size w w' := by
 have K1 := fun W (hW : Below w.heap.size w W) => some7_any l a1 c1 w.heap.size W hW.size (slS_below hW h1)
 obtain ⟨N1, hN1⟩ : ∃ N, l.length = N := ⟨_, rfl⟩
 rw [hN1] at K1 ⊢
 obtain ⟨ys, hys⟩ : ∃ q, smT l = q := ⟨_, rfl⟩
 have ly : ys.length ≤ 40 := by rw [← hys]; exact smT_len30 _
 have sy : Hid (∀ x, x ∈ ys → x.size ≤ 65536) := by rw [← hys]; exact smT_size30 _
 rw [hys] at K1
 clear hys hN1 h1
 go_enter Tryd.func6, Tryd.ntmps6
 go_wp2_with fail
 refine (shown7_any w hl).mono ?_
 rintro e w1 ⟨rfl, BW⟩
 go_wp2_with fail
 refine (K1 w1 BW).mono ?_
 rintro e w2 ⟨B2, v2, rfl, o2⟩
 obtain ⟨p, q, rfl, hq, s2⟩ := owns_cap7 o2
 replace BW := belowStep BW BW.size B2
 have C1 := check_any root key ys (by omega) p q w2.heap.size hq w2 (Nat.le_refl _) (hl.below BW) s2
 have S2 : Hid _ := s2
 clear B2 o2 s2 K1
 obtain ⟨n, hn⟩ : ∃ q, ys.length = q := ⟨_, rfl⟩
 have HN : Hid (ys.length = n) := hn
 rw [hn] at C1 hq ly ⊢
 obtain ⟨⟨rv, rb, re⟩, hres⟩ : ∃ q, chkF root key ys = q := ⟨_, rfl⟩
 rw [hres] at C1
 dsimp only at C1
 have HR : Hid (chkF root key ys = (rv, rb, re)) := hres
 clear hn hres
 go_wp2_with fail
 refine Calls.mono C1 ?_
 rintro e w3 ⟨rfl, B3⟩
 have S3 : Hid (slS w3.heap.size w3 p ys) := slS_up (slS_below B3 S2.out) B3.size
 replace BW := belowStep BW BW.size B3
 clear B3 C1 S2
 have KL := lead_any root ys (by have := HN.out; omega) sy.out p q w3.heap.size w3 (Nat.le_refl _) (hl.below BW) S3.out
 have hlen := ldR_len root ys
 obtain ⟨zs, hzs⟩ : ∃ z, ldR root ys = z := ⟨_, rfl⟩
 obtain ⟨f, hf⟩ : ∃ f, ldE root ys = f := ⟨_, rfl⟩
 rw [hzs, hf] at KL
 rw [HN.out] at KL
 rw [hzs, HN.out] at hlen
 have HL : Hid (_ ∧ _) := ⟨hzs, hf⟩
 clear hzs hf
 go_wp2_with fail
 refine Calls.mono KL ?_
 rintro e w4 ⟨B4, v4, rfl, o4⟩
 obtain ⟨p4, q4, rfl, hq4, s4⟩ := owns_cap7 o4
 have S4 : Hid (slS w4.heap.size w4 p ys) := slS_up (slS_below B4 S3.out) B4.size
 have T4 : Hid (slS w4.heap.size w4 p4 zs) := s4
 replace BW := belowStep BW BW.size B4
 clear B4 KL S3 o4 s4
 obtain ⟨m, hm⟩ : ∃ q, zs.length = q := ⟨_, rfl⟩
 have HM : Hid (zs.length = m) := hm
 rw [hm] at hq4 hlen ⊢
 clear hm
 by_cases he : re = 0
 ·subst he
  obtain ⟨h1, h2⟩ := lead_ok (root := root) (key := key) (xs := ys) (by rw [HR.out])
  obtain rfl : zs = ys := HL.out.1.symm.trans h1
  obtain rfl : f = 0 := HL.out.2.symm.trans h2
  have hnm : n = m := HN.out.symm.trans HM.out
  subst hnm
  have KM := same6_any zs zs (by have := HN.out; omega) (by have := HN.out; omega) p p4 q q4 w4.heap.size w4 (Nat.le_refl _) S4.out T4.out
  rw [HN.out, decide_eq_true rfl] at KM
  clear HR HL h1 h2
  go_wp2_with fail
  refine Calls.mono KM ?_
  rintro e w5 ⟨rfl, B5⟩
  replace BW := belowStep BW BW.size B5
  clear KM B5
  go_wp2
  go_ret
  exact ⟨rfl, BW⟩
 ·have lf : (re == 0) = false := by rw [beq_eq_false_iff_ne]; exact he
  have l1 : (m : Int) ≤ n := by omega
  clear he
  go_wp2
  go_ret
  exact ⟨by simp, BW⟩
end Go.Proofs.YtbmapdkcccdmfaaDoor
