/- What the reference's high does at this translation: for all words, whatever the memory. -/
import Derived.Test.YtgapcjdgakamoaaV3
import Derived.Test.YtgapcjdgakamoaaV4
import Derived.OwnWalk
import Derived.Laws.AppendOwn
import Derived.Deep.AppendLies
namespace Go.Proofs.Ytgapcjdgakamoaa
open Go.RowKit Go.Shelf Go.Sort

/-- Bits, told by a function, as a list. -/
def bl (k : Nat) (f : Nat → Bool) : List Value := fl k fun j => Value.bool (f j)
theorem bl_succ (k : Nat) (f : Nat → Bool) : bl (k + 1) f = bl k f ++ [Value.bool (f k)] := by
  simp [bl, fl, List.range_succ]
theorem bl_len (k : Nat) (f : Nat → Bool) : (bl k f).length = k := fl_len _ _
theorem Fw.grown {n N : Nat} {g : Nat → Value} {W W' : World} {r : Option Nat} (k : Fw n N g W) (hg : W.grownBy W' r) (hr : some n ≠ r) : Fw n N g W' :=
  ⟨Nat.lt_of_lt_of_le k.z hg.size, fun j hj => hg.cell (k.c j hj) hr, fun o => by rw [World.frozen?_of_block (hg.block n k.z hr)]; exact k.f o⟩
theorem one_new (w : World) (x : Value) (t : TypeId) : ∀ j u, [x][j]? = some u → (w.alloc (.cells #[x] t)).cell? ((⟨w.heap.size, 0, none⟩ : Addr).add j) = some u := by
  intro j u hj
  match j, hj with
  | 0, hj => simp at hj; subst hj; simp [Addr.add]
theorem owns_lower {w : World} {b b' : Nat} {e : TypeId} {size : Nat} {v : Value} {n : Nat} {xs : List Value} (h : w.ownsRow b e size v n xs) (hb : b' ≤ b) : w.ownsRow b' e size v n xs :=
  ⟨h.1, h.2.imp id fun ⟨g, cap, cur, hv, hg, r⟩ => ⟨g, cap, cur, hv, Nat.le_trans hb hg, r⟩⟩
theorem info_bool : (Try.prog.info? 4).map (fun i => (i.zero, i.size, i.bytes)) = some (some (.bool false), 1, 1) := by kernel_rfl

set_option maxRecDepth 20000 in
set_option maxHeartbeats 2000000 in
theorem rhigh_any (a0 a1 a2 a3 : Int) (ha : Ws a0 a1 a2 a3) (w : World) :
    Calls Try.prog 60 #[.agg #[.int .u64 a0, .int .u64 a1, .int .u64 a2, .int .u64 a3]] w fun e w' =>
      ∃ v, e = .returned v ∧ w'.ownsRow w.heap.size 4 1 v 256 (bl 256 fun j => bitAt (val a0 a1 a2 a3) (255 - j)) ∧ Below w.heap.size w w' := by
  have z0 := zero_bits.1
  obtain ⟨i0, hi, hz0, hz1, hz2⟩ := info_parts info_bool
  obtain ⟨y, hy⟩ : ∃ y, val a0 a1 a2 a3 = y := ⟨_, rfl⟩
  have cB := rbits_any a0 a1 a2 a3 ha
  rw [hy] at cB ⊢
  have CB : Hid (∀ w : World, _) := cB
  clear cB hy
  go_enter Try.func60, Try.ntmps60
  go_wp2_with fail
  refine (CB.out _).mono ?_
  rintro e w1 ⟨rfl, hb1⟩
  have E1 := belowStep (n := w.heap.size) (w := w) (by go_grown) (by (try simp) <;> omega) hb1
  have z1 : w.heap.size < w1.heap.size := by have := hb1.size; simp at this; omega
  clear hb1
  have hst := (Fw.new w1 256 (fun _ => .bool false) 43).run (P := Try.prog) (fun j => .bool (bitAt y j)) (fun _ => rfl)
  go_wp2_with fail
  refine wpOf (fun W => Below w.heap.size w W ∧ Fw w1.heap.size 256 (fun j => .bool (bitAt y j)) W) ⟨?_, ?_⟩ ?_
  · exact below_setCells' E1.size _ _ _ (E1.alloc E1.size _)
  · exact (Fw.new w1 256 (fun _ => .bool false) 43).store _
  rintro V ⟨EV, HV⟩
  clear E1 hst
  generalize w1.heap.size = g at HV z1 ⊢
  clear w1
  go_loopg [4, 5] 256 (fun gk v i wr => gk ≤ 256 ∧ i = .int .i64 ((gk : Int) - 1) ∧ Below w.heap.size w wr ∧ Fw g 256 (fun j => .bool (bitAt y j)) wr ∧ wr.ownsRow (g + 1) 4 1 v (256 - gk) (bl (256 - gk) fun j => bitAt y (255 - j)))
  case atStart => exact ⟨Nat.le_refl _, rfl, EV, HV, World.ownsRow_nil _ _ _ _⟩
  case round =>
    obtain ⟨hk, rfl, EW, HW, hown⟩ := hrel
    cases gk with
    | zero =>
      go_wp2
      refine bodyPost_ret (v := u4) (by simp [results, Try.results60, go_sem]) rfl ⟨u4, rfl, owns_lower hown (by omega), EW⟩
    | succ k =>
      have lc := HW.c k (by omega)
      have e1 : ((k + 1 : Nat) : Int) - 1 = k := by omega
      have hlt : (k : Int) < 256 := by omega
      rw [e1]
      have hgz := HW.z
      go_wp2_with (at_builtin; refine wpList_append_own _ rfl _ _ 49 rfl (g + 1) 4 i0 (.bool false) 1 1 Try.underlying49 hi hz0 hz1 hz2 rfl (by decide) _ _ _ rfl (hown.alloc _) ⟨wr.heap.size, 0, none⟩ 1 1 [.bool (bitAt y k)] rfl rfl ?c1 ?c2 ?c3 ?c4 ?c5 ?_)
      case c1 => exact one_new _ _ _
      case c2 => intro u hu; simp at hu; subst hu; rfl
      case c3 => unfold maxLen; omega
      case c4 => omega
      case c5 => simp; omega
      · intro v' w2 hown' hgrow _
        go_wp2
        go_roundg k
        case measure => omega
        case rel =>
          have hr : ∀ b, u4.ownBlock = some b → g + 1 ≤ b := fun b hb => (hown.lt b hb).1
          refine ⟨by omega, rfl, ?_, ?_, ?_⟩
          · exact (EW.alloc EW.size _).grown hgrow (by have := EW.size; simp; omega) (fun b hb => by have := hr b hb; omega)
          · exact (HW.alloc _).grown hgrow (fun e => by have := hr g e.symm; omega)
          · have e2 : 256 - k = 255 - k + 1 := by omega
            have e3 : 255 - (255 - k) = k := by omega
            rw [e2, bl_succ, e3]
            exact hown'
end Go.Proofs.Ytgapcjdgakamoaa
