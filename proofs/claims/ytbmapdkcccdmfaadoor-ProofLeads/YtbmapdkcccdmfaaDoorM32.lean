/- Lemmas: Pairs of texts in memory; which pairs are right, by the reference. Which pairs are wrong by themselves: isWrong, ContainsFunc. -/
import Derived.Test.YtbmapdkcccdmfaaDoorM1
import Derived.Test.YtbmapdkcccdmfaaDoorM3
import Derived.Test.YtbmapdkcccdmfaaDoorM6
import Derived.Test.YtbmapdkcccdmfaaDoorRows
import Derived.BigQuiet
import Derived.Laws.Closers25
import Derived.Laws.IdiomStrings
namespace Go.Proofs.YtbmapdkcccdmfaaDoor
open Go.RowKit Go.Sort

def prs (W : World) (b o : Nat) (es : List (ByteArray × ByteArray)) : Prop := ∀ j e, es[j]? = some e → W.cell? ⟨b, o + 2 * j, none⟩ = some (.string e.1) ∧ W.cell? ⟨b, o + 2 * j + 1, none⟩ = some (.string e.2)
def slP (n : Nat) (W : World) (a : Option Addr) (es : List (ByteArray × ByteArray)) : Prop := es = [] ∨ ∃ b o, a = some ⟨b, o, none⟩ ∧ b < n ∧ prs W b o es
theorem prs_below {n : Nat} {W W' : World} (hb : Below n W W') {b o : Nat} {es : List (ByteArray × ByteArray)} (h : b < n) (hp : prs W b o es) : prs W' b o es := fun j e he => ⟨(hb.cell (p := ⟨b, _, none⟩) h).trans (hp j e he).1, (hb.cell (p := ⟨b, _, none⟩) h).trans (hp j e he).2⟩
theorem slP_below {n : Nat} {W W' : World} (hb : Below n W W') {a : Option Addr} {es : List (ByteArray × ByteArray)} (hp : slP n W a es) : slP n W' a es := by
 rcases hp with h | ⟨b, o, h1, h2, h3⟩
 ·exact .inl h
 ·exact .inr ⟨b, o, h1, h2, prs_below hb h2 h3⟩
theorem slP_at {n : Nat} {W : World} {a : Option Addr} {es : List (ByteArray × ByteArray)} (hp : slP n W a es) (j : Nat) (e : ByteArray × ByteArray) (he : es[j]? = some e) : ∃ b o, a = some ⟨b, o, none⟩ ∧ b < n ∧ W.cell? ⟨b, o + 2 * j, none⟩ = some (.string e.1) ∧ W.cell? ⟨b, o + 2 * j + 1, none⟩ = some (.string e.2) := by
 rcases hp with h | ⟨b, o, h1, h2, h3⟩
 ·subst h
  cases he
 ·exact ⟨b, o, h1, h2, h3 j e he⟩
def pOk (e : ByteArray × ByteArray) : Bool := decide (1 ≤ e.1.size) && decide (e.1.size ≤ 64) && (decide (1 ≤ e.2.size) && decide (e.2.size ≤ 1000))
def RightP (es : List (ByteArray × ByteArray)) : Prop := es.length ≤ 200 ∧ (∀ (j : Nat) (e : ByteArray × ByteArray), es[j]? = some e → pOk e = true) ∧ ∀ (j k : Nat) (e f : ByteArray × ByteArray), j < k → es[j]? = some e → es[k]? = some f → e.1 ≠ f.1
def RightT (es : List (ByteArray × ByteArray)) (i : Nat) : Prop := (∀ (j : Nat) (e : ByteArray × ByteArray), j < i → es[j]? = some e → pOk e = true) ∧ ∀ (j k : Nat) (e f : ByteArray × ByteArray), j < k → k < i → es[j]? = some e → es[k]? = some f → e.1 ≠ f.1
def RightU (es : List (ByteArray × ByteArray)) (i m : Nat) (f : ByteArray × ByteArray) : Prop := RightT es i ∧ pOk f = true ∧ ∀ (j : Nat) (e : ByteArray × ByteArray), j < m → es[j]? = some e → e.1 ≠ f.1
theorem RightT.step {es : List (ByteArray × ByteArray)} {i : Nat} {f : ByteArray × ByteArray} (hf : es[i]? = some f) (h : RightU es i i f) : RightT es (i + 1) := by
 obtain ⟨⟨h1, h2⟩, h3, h4⟩ := h
 refine ⟨fun j e hj he => ?_, fun j k e g hj hk he hg => ?_⟩
 ·by_cases h : j = i
  ·subst h
   rw [hf] at he
   cases he
   exact h3
  ·exact h1 j e (by omega) he
 ·by_cases h : k = i
  ·subst h
   rw [hf] at hg
   cases hg
   exact h4 j e (by omega) he
  ·exact h2 j k e g hj (by omega) he hg
theorem RightT.all {es : List (ByteArray × ByteArray)} (hl : es.length ≤ 200) (h : RightT es es.length) : RightP es :=
 ⟨hl, fun j e he => h.1 j e (List.getElem?_eq_some_iff.1 he).1 he, fun j k e f hj he hf => h.2 j k e f hj (List.getElem?_eq_some_iff.1 hf).1 he hf⟩
theorem pOk_iff (e : ByteArray × ByteArray) : pOk e = true ↔ 1 ≤ e.1.size ∧ e.1.size ≤ 64 ∧ 1 ≤ e.2.size ∧ e.2.size ≤ 1000 := by
 unfold pOk
 simp only [Bool.and_eq_true, decide_eq_true_eq]
 omega
theorem toList_inj {s t : ByteArray} (h : s.toList = t.toList) : s = t := by
 rw [ByteArray.toList_eq, ByteArray.toList_eq] at h
 have h2 : s.data = t.data := Array.toList_inj.1 h
 cases s
 cases t
 cases h2
 rfl

def RR (es : List (ByteArray × ByteArray)) (e : Ending) : Prop := ∃ b : Bool, e = .returned (.bool b) ∧ (b = true ↔ RightP es)
theorem RR.no {es : List (ByteArray × ByteArray)} (h : ¬ RightP es) : RR es (.returned (.bool false)) := ⟨false, rfl, ⟨fun h' => Bool.noConfusion h', fun h' => absurd h' h⟩⟩
theorem RR.yes {es : List (ByteArray × ByteArray)} (h : RightP es) : RR es (.returned (.bool true)) := ⟨true, rfl, ⟨fun _ => h, fun _ => rfl⟩⟩
theorem right_not {es : List (ByteArray × ByteArray)} {k : Nat} {f : ByteArray × ByteArray} (hf : es[k]? = some f) (h : ¬ pOk f = true) : ¬ RightP es := fun h2 => h (h2.2.1 k f hf)

set_option maxRecDepth 20000 in
set_option maxHeartbeats 2000000 in
theorem rright6_any (es : List (ByteArray × ByteArray)) (a : Option Addr) (c n : Nat) (w : World) (hn : n ≤ w.heap.size) (hp : slP n w a es) :
  Calls Tryd.prog 28 #[.slice a es.length c] w fun e w' => RR es e ∧ Below w.heap.size w w' := by
 by_cases hl : 200 < es.length
 ·have l0 : (200 : Int) < es.length := by omega
  go_enter Tryd.func28, Tryd.ntmps28
  go_wp2
  go_ret
  exact ⟨RR.no (fun h => by have := h.1; omega), Below.refl _ _⟩
 ·have l0 : ¬ (200 : Int) < es.length := by omega
  obtain ⟨N, hN⟩ : ∃ N, es.length = N := ⟨_, rfl⟩
  have HN : Hid (es.length = N) := hN
  rw [hN] at l0 hl ⊢
  clear hN
  go_enter Tryd.func28, Tryd.ntmps28
  go_wp2_with fail
  obtain ⟨z, hz⟩ : ∃ z, w.heap.size = z := ⟨_, rfl⟩
  rw [hz] at hn
  go_loopg [3] N (fun gk i wr => ∃ k : Nat, k + gk = N ∧ i = .int .i64 k ∧ RightT es k ∧ Below z w wr)
  case atStart => exact ⟨0, by omega, rfl, ⟨fun j e h => by omega, fun j k e f h1 h2 => by omega⟩, by rw [← hz]; exact Below.refl _ _⟩
  case round =>
   obtain ⟨k, hk, rfl, hT, BW⟩ := hrel
   have HT : Hid (RightT es k) := hT
   clear hT
   have hwz : z ≤ wr.heap.size := by have := BW.size; omega
   by_cases hlt : k < N
   ·have l1 : (k : Int) < N := by omega
    have hNN := HN.out
    obtain ⟨f, hf⟩ : ∃ f, es[k]? = some f := ⟨es[k]'(by omega), List.getElem?_eq_getElem (by omega)⟩
    obtain ⟨b, o, rfl, hb, c0, c1⟩ := slP_at hp k f hf
    have hbr : b < wr.heap.size := by omega
    replace c0 := (BW.cell (p := ⟨b, _, none⟩) (by show b < z; omega)).trans c0
    replace c1 := (BW.cell (p := ⟨b, _, none⟩) (by show b < z; omega)).trans c1
    obtain ⟨r, hr⟩ : ∃ p, o + 2 * k = p := ⟨_, rfl⟩
    rw [hr] at c0 c1
    have hr2 : o + k * 2 = r := by omega
    have wk : IntKind.i64.wrap ((k : Int) + 1) = ((k + 1 : Nat) : Int) := by rw [IntKind.wrap_i64]; omega
    have hOk := pOk_iff f
    have HOK : Hid _ := hOk
    clear hOk hNN
    obtain ⟨fk, fv⟩ := f
    dsimp only at c0 c1
    have hNo : ¬ (1 ≤ fk.size ∧ fk.size ≤ 64 ∧ 1 ≤ fv.size ∧ fv.size ≤ 1000) → ¬ RightP es := fun h => right_not hf (fun h2 => h (HOK.out.1 h2))
    have HNO : Hid _ := hNo
    clear hNo
    by_cases a1 : fk.size < 1
    ·have m1 : (fk.size : Int) < 1 := by omega
     go_wp2
     go_ret
     exact ⟨RR.no (HNO.out (by omega)), BW⟩
    ·have m1 : ¬ (fk.size : Int) < 1 := by omega
     by_cases a2 : 64 < fk.size
     ·have m2 : (64 : Int) < fk.size := by omega
      go_wp2
      go_ret
      exact ⟨RR.no (HNO.out (by omega)), BW⟩
     ·have m2 : ¬ (64 : Int) < fk.size := by omega
      by_cases a3 : fv.size < 1
      ·have m3 : (fv.size : Int) < 1 := by omega
       go_wp2
       go_ret
       exact ⟨RR.no (HNO.out (by omega)), BW⟩
      ·have m3 : ¬ (fv.size : Int) < 1 := by omega
       by_cases a4 : 1000 < fv.size
       ·have m4 : (1000 : Int) < fv.size := by omega
        go_wp2
        go_ret
        exact ⟨RR.no (HNO.out (by omega)), BW⟩
       ·have m4 : ¬ (1000 : Int) < fv.size := by omega
        have HU : Hid (pOk (fk, fv) = true ∧ es[k]? = some (fk, fv)) := ⟨(pOk_iff (fk, fv)).2 ⟨by show 1 ≤ fk.size; omega, by show fk.size ≤ 64; omega, by show 1 ≤ fv.size; omega, by show fv.size ≤ 1000; omega⟩, hf⟩
        clear HOK HNO hf
        go_wp2_with fail
        obtain ⟨gk0, hgk0⟩ : ∃ q, gk = q := ⟨_, rfl⟩
        go_loopg [4] k (fun gj i wr' => ∃ m : Nat, m + gj = k ∧ i = .int .i64 m ∧ RightU es k m (fk, fv) ∧ Below z w wr')
        case atStart => exact ⟨0, by omega, rfl, ⟨HT.out, HU.out.1, fun j e h => by omega⟩, BW⟩
        case round =>
         obtain ⟨m, hm, rfl, hU, BV⟩ := hrel
         have HV : Hid _ := hU
         clear hU
         have hwv : z ≤ wr.heap.size := by have := BV.size; omega
         by_cases hmk : m < k
         ·have l2 : (m : Int) < k := by omega
          have l3 : (m : Int) < N := by omega
          obtain ⟨g, hg⟩ : ∃ f, es[m]? = some f := ⟨es[m]'(by have := HN.out; omega), List.getElem?_eq_getElem (by have := HN.out; omega)⟩
          obtain ⟨b', o', he', hb', c0', c1'⟩ := slP_at hp m g hg
          injection he' with he'
          injection he' with he1 he2
          subst he1 he2
          have hf2 := HU.out.2
          obtain ⟨b2, o2, he3, _, c2, _⟩ := slP_at hp k _ hf2
          injection he3 with he3
          injection he3 with he4 he5
          subst he4 he5
          have hbv : b < wr.heap.size := by omega
          replace c0' := (BV.cell (p := ⟨b, _, none⟩) (by show b < z; omega)).trans c0'
          replace c2 := (BV.cell (p := ⟨b, _, none⟩) (by show b < z; omega)).trans c2
          obtain ⟨r', hr'⟩ : ∃ p, o + 2 * m = p := ⟨_, rfl⟩
          rw [hr'] at c0'
          rw [hr] at c2
          have hr2' : o + m * 2 = r' := by omega
          have q0 : ∀ d os, (grow (redrawn wr d) os).cell? ⟨b, r', none⟩ = some (.string g.1) := fun d os => ((below_regrown wr d os).cell (p := ⟨b, r', none⟩) hbv).trans c0'
          have q1 : ∀ d os, (grow (redrawn wr d) os).cell? ⟨b, r, none⟩ = some (.string fk) := fun d os => ((below_regrown wr d os).cell (p := ⟨b, r, none⟩) hbv).trans c2
          have wm : IntKind.i64.wrap ((m : Int) + 1) = ((m + 1 : Nat) : Int) := by rw [IntKind.wrap_i64]; omega
          clear c0' c1' c2 hf2
          by_cases hsame : g.1 = fk
          ·have hs : (g.1.toList == fk.toList) = true := by rw [hsame]; exact beq_self_eq_true _
           have HG : Hid (¬ RightP es) := fun h => h.2.2 m k g (fk, fv) hmk hg HU.out.2 hsame
           clear hsame hg
           go_wp2_with fail
           refine wp_region_quiet_below (by kernel_rfl) (by kernel_rfl) ?_
           repeat (quiet_step (fail))
           refine wpQuiet_nil ?_
           intro w8 hw8
           have B8 : Below wr.heap.size wr w8 := by
            obtain ⟨p, rfl⟩ := hw8
            exact below_regrown _ _ _
           clear hw8 q0 q1
           go_wp2
           go_ret
           exact ⟨RR.no HG.out, by rw [hz]; exact belowStep BV hwv B8⟩
          ·have hs : (g.1.toList == fk.toList) = false := by rw [beq_eq_false_iff_ne]; exact fun e => hsame (toList_inj e)
           have HG : Hid (g.1 ≠ fk ∧ es[m]? = some g) := ⟨hsame, hg⟩
           clear hsame hg
           go_wp2_with fail
           refine wp_region_quiet_below (by kernel_rfl) (by kernel_rfl) ?_
           repeat (quiet_step (fail))
           refine wpQuiet_nil ?_
           intro w8 hw8
           have B8 : Below wr.heap.size wr w8 := by
            obtain ⟨p, rfl⟩ := hw8
            exact below_regrown _ _ _
           clear hw8 q0 q1
           go_wp2
           go_roundg (gk - 1)
           case measure => omega
           case rel =>
            obtain ⟨u1, u2, u3⟩ := HV.out
            refine ⟨m + 1, by omega, by first | rfl | (congr 1; omega), ⟨u1, u2, fun j e hj he => ?_⟩, belowStep BV hwv B8⟩
            by_cases hjm : j = m
            ·subst hjm
             rw [HG.out.2] at he
             cases he
             exact HG.out.1
            ·exact u3 j e (by omega) he
         ·have l2 : ¬ (m : Int) < k := by omega
          have hmk2 : m = k := by omega
          go_wp2
          go_roundg (gk0 - 1)
          case measure => omega
          case rel =>
           have hU := HV.out
           rw [hmk2] at hU
           exact ⟨k + 1, by omega, by first | rfl | (congr 1; omega), RightT.step HU.out.2 hU, BV⟩
   ·have l1 : ¬ (k : Int) < N := by omega
    have hk2 : k = N := by omega
    have HR : Hid (RightP es) := RightT.all (by have := HN.out; omega) (by rw [HN.out, ← hk2]; exact HT.out)
    go_wp2
    go_ret
    exact ⟨RR.yes HR.out, BW⟩
end Go.Proofs.YtbmapdkcccdmfaaDoor
namespace Go.Proofs.YtbmapdkcccdmfaaDoor
open Go.RowKit Go.Sort


def IxP (es : List (ByteArray × ByteArray)) (r : Ending) : Prop := ∃ i : Int, r = .returned (.int .i64 i) ∧ decide (0 ≤ i) = !es.all pOk
theorem IxP.none {es : List (ByteArray × ByteArray)} (h : ∀ (j : Nat) (e : ByteArray × ByteArray), es[j]? = some e → pOk e = true) : IxP es (.returned (.int .i64 (-1))) := by
 refine ⟨-1, rfl, ?_⟩
 have : es.all pOk = true := List.all_eq_true.2 fun e he => by
  obtain ⟨j, hj⟩ := List.mem_iff_getElem?.1 he
  exact h j e hj
 rw [this]
 rfl

end Go.Proofs.YtbmapdkcccdmfaaDoor
