/- HeadOne: for any header, two of what a block did, and two branches, the law returns true: two Lights of one header that hold say the same of what the block did, or two texts that are summed up for them are unlike, and have one sum. Its tables are tied to the program's text. No condition. -/
import Derived.Test.YtmefanagpkbjeabDoorCards
import Derived.Test.YtmefanagpkbjeabDoorM1
import Derived.Test.YtmefanagpkbjeabDoorM10
import Derived.Test.YtmefanagpkbjeabDoorM11
import Derived.Test.YtmefanagpkbjeabDoorM12
import Derived.Test.YtmefanagpkbjeabDoorM13
import Derived.Test.YtmefanagpkbjeabDoorM14
import Derived.Test.YtmefanagpkbjeabDoorM15
import Derived.Test.YtmefanagpkbjeabDoorM16
import Derived.Test.YtmefanagpkbjeabDoorM17
import Derived.Test.YtmefanagpkbjeabDoorM18
import Derived.Test.YtmefanagpkbjeabDoorM19
import Derived.Test.YtmefanagpkbjeabDoorM2
import Derived.Test.YtmefanagpkbjeabDoorM20
import Derived.Test.YtmefanagpkbjeabDoorM21
import Derived.Test.YtmefanagpkbjeabDoorM22
import Derived.Test.YtmefanagpkbjeabDoorM23
import Derived.Test.YtmefanagpkbjeabDoorM24
import Derived.Test.YtmefanagpkbjeabDoorM3
import Derived.Test.YtmefanagpkbjeabDoorM4
import Derived.Test.YtmefanagpkbjeabDoorM5
import Derived.Test.YtmefanagpkbjeabDoorM6
import Derived.Test.YtmefanagpkbjeabDoorM7
import Derived.Test.YtmefanagpkbjeabDoorM8
import Derived.Test.YtmefanagpkbjeabDoorM9
import Derived.Test.YtmefanagpkbjeabDoorRows
import Derived.Test.YtmefanagpkbjeabDoorTie
import Derived.Carry
import Derived.Deep.DeepHandedRow
import Derived.JoinedCond
import Derived.Lib.LaidTab
import Derived.SevenTiedAt
import Derived.SizedLaws
import Derived.SliceStrings
namespace Go.Proofs.YtmefanagpkbjeabDoor
open Go.ChangeShapes Go.WideShapes Go.ChangeAt Go.RowKit

theorem headone_laidOut : laidOutB Tryd.prog = true := by kernel_rfl

set_option maxHeartbeats 400000 in
set_option maxRecDepth 100000 in
theorem headone_lifted (os : Os) (started : os.Started) (H : Type) (enc : TypeId × Value → H) :
    ReturnsInHanded {} Tryd.checked os 3 .any (fun w args => (Rows.headOneSpec.pre enc Tryd.prog Tryd.f3 [] false w args ∧ laidMetH Tryd.prog laid3 w) ∧ sizedMet enc Tryd.prog Tryd.f3 (OpenSpec.ofChange Rows.headOneSpec) false w args)
      (Rows.headOneSpec.post enc Tryd.prog Tryd.f3 false true false false) := by
  refine returnsInHanded_of_change_and (C := Tryd.checked) (X := fun w _ => laidMetH Tryd.prog laid3 w) (fun _ _ _ hh h => h.of_heap hh) rowOwn started (by kernel_rfl) Tryd.func3
    (ChangeSpec.witness_shaped (enc := enc) (C := Tryd.checked) (os := os) (X := fun w _ => laidMetH Tryd.prog laid3 w) false (World.doorLaid Tryd.prog 400 os) #[.agg #[.int .u64 0, .int .u64 0, .string ByteArray.empty, .string ByteArray.empty, .string ByteArray.empty], .agg #[.string ByteArray.empty, .string ByteArray.empty, .int .u64 0], .agg #[.string ByteArray.empty, .string ByteArray.empty, .int .u64 0], .slice none 0 0, .slice none 0 0] 8 rfl (World.shaped_of_RefB (by kernel_rfl) (by kernel_rfl)) (by kernel_rfl) (by kernel_rfl) (by kernel_rfl) (door_met os _)) ?_
  intro W base args ds gs before hval0 hW _ _ hL _
  have hval : ∀ (j : Nat) t v, Tryd.f3.params[j]? = some t → args[j]? = some v → Value.okWide Tryd.prog W .any base t v := hval0
  have hW' := hW
  obtain ⟨p, q, hA0, hV, rfl, _, _⟩ := hW
  have hA : DataW.TrodAll enc Tryd.prog W 0 (fun _ => true) true Tryd.f3.params.toList args.toList ds p := hA0
  rw [Tryd.params3] at hA hval
  obtain ⟨v0, v1, v2, v3, v4, d0, d1, d2, d3, d4, p0, p1, p2, p3, p4, rfl, rfl, rfl, h0, h1, h2, h3, h4⟩ := trodAll_five hA
  obtain ⟨rfl, rfl⟩ := trodVars_none hV
  have k0 := h0
  obtain ⟨cs0, fuel0, rfl, f0⟩ := open_top Tryd.underlying24 (hval 0 24 v0 rfl rfl) h0
  have k1 := h1
  obtain ⟨cs1, fuel1, rfl, f1⟩ := open_top Tryd.underlying26 (hval 1 26 v1 rfl rfl) h1
  have k2 := h2
  obtain ⟨cs2, fuel2, rfl, f2⟩ := open_top Tryd.underlying26 (hval 2 26 v2 rfl rfl) h2
  obtain ⟨a3, len3, cap3, rfl⟩ := okWide_slice Tryd.underlying27 (hval 3 27 v3 rfl rfl)
  have k3 := h3
  obtain ⟨fuel3, f3⟩ := h3
  obtain ⟨a4, len4, cap4, rfl⟩ := okWide_slice Tryd.underlying27 (hval 4 27 v4 rfl rfl)
  have k4 := h4
  obtain ⟨fuel4, f4⟩ := h4
  have hl := of_laid hL
  clear hA0 hval0 hval hA
  simp only [List.append_nil] at hW'
  have hlt : ∀ x ∈ (p0 ++ (p1 ++ (p2 ++ (p3 ++ (p4))))), x.block < W.heap.size := fun x hx => by simpa using hW'.lt x (by simpa using hx)
  have hlt0 : ∀ x ∈ p0, x.block < W.heap.size := fun x hx => hlt x (by first | (simpa using hx) | (simp [hx]))
  obtain ⟨s0, u0, p0_, t0, b0, rfl, is0, iu0, _⟩ := hd_open f0
  have hlt1 : ∀ x ∈ p1, x.block < W.heap.size := fun x hx => hlt x (by first | (simpa using hx) | (simp [hx]))
  obtain ⟨p1_, t1, s1, rfl, is1, _⟩ := ex_open f1
  have hlt2 : ∀ x ∈ p2, x.block < W.heap.size := fun x hx => hlt x (by first | (simpa using hx) | (simp [hx]))
  obtain ⟨p2_, t2, s2, rfl, is2, _⟩ := ex_open f2
  have hlt3 : ∀ x ∈ p3, x.block < W.heap.size := fun x hx => hlt x (by simp [hx])
  obtain ⟨es3, rfl, hc3, m3⟩ := open_strs f3 hlt3
  have hlt4 : ∀ x ∈ p4, x.block < W.heap.size := fun x hx => hlt x (by simp [hx])
  obtain ⟨es4, rfl, hc4, m4⟩ := open_strs f4 hlt4
  refine (headone_any s0 u0 p0_ t0 b0 p1_ t1 s1 p2_ t2 s2 es3 a3 cap3 es4 a4 cap4 W hl is0 iu0 is1 is2 m3 m4).mono fun e W' ⟨he, hg⟩ => ?_
  subst he
  refine ⟨_, rfl, _, _, _, [], (p0 ++ (p1 ++ (p2 ++ (p3 ++ (p4))))), [], hW', ?_, ?_, rfl, hg.frame _, fun h => by cases h⟩
  · exact trodAll_mk1 (shut_bool Tryd.underlying4 _)
  · exact trodAll_mk5 (Below.trod headone_laidOut (by kernel_rfl) (of_decide_eq_true (by kernel_rfl)) k0 hg hlt0) (Below.trod headone_laidOut (by kernel_rfl) (of_decide_eq_true (by kernel_rfl)) k1 hg hlt1) (Below.trod headone_laidOut (by kernel_rfl) (of_decide_eq_true (by kernel_rfl)) k2 hg hlt2) (Below.trod headone_laidOut (by kernel_rfl) (of_decide_eq_true (by kernel_rfl)) k3 hg hlt3) (Below.trod headone_laidOut (by kernel_rfl) (of_decide_eq_true (by kernel_rfl)) k4 hg hlt4)

theorem headone_holds : Rows.HeadOneSaid :=
  OpenClaim.holds_of_wide 3 Tryd.f3 rfl rfl rfl rfl rfl rfl rfl ⟨rfl, rfl, rfl, rfl, rfl⟩ rfl rfl rfl rfl rfl (by kernel_rfl) Tryd.func3 (by kernel_rfl)
    (of_decide_eq_true (by kernel_rfl)) (by unfold Func.isWrapper; first | (rw [if_pos (by decide +kernel)]; kernel_rfl) | (rw [if_neg (by decide +kernel)]; exact ⟨rfl, rfl⟩))
    (fun os started H enc _ => headone_lifted os started H enc)

theorem headone_card : Rows.HeadOneCardSaid :=
  Claim7.holds_tied_plain_at .later [] [.data, .data] true Rows.headOneCard.stood.harness false
    headone_holds (fun _ h => by cases h) (by kernel_rfl) (fun _ h => by cases h) headOne_row_tie rfl ⟨rfl, rfl⟩ (by kernel_rfl) rfl
    (fun f fn hf hfn => by
      obtain rfl : f = 3 := Option.some.inj ((show Tryd.prog.funcNamed "pharos/pharoslaw13.HeadOne" = some 3 by kernel_rfl).symm.trans hf) |>.symm
      obtain rfl : fn = Tryd.f3 := (Option.some.inj (Tryd.func3.symm.trans hfn)).symm
      exact ⟨by kernel_rfl, fun j t ht => by
        rw [Tryd.params3] at ht
        have h3 : t = 24 ∨ t = 26 ∨ t = 27 := by
          rcases j with _ | _ | _ | _ | _ | j
          · have e := ht.symm; simp at e; simp [e]
          · have e := ht.symm; simp at e; simp [e]
          · have e := ht.symm; simp at e; simp [e]
          · have e := ht.symm; simp at e; simp [e]
          · have e := ht.symm; simp at e; simp [e]
          · simp at ht
        rcases h3 with rfl | rfl | rfl
        · exact (show Tryd.prog.wantsStandIn 24 = false by kernel_rfl)
        · exact (show Tryd.prog.wantsStandIn 26 = false by kernel_rfl)
        · exact (show Tryd.prog.wantsStandIn 27 = false by kernel_rfl)⟩)
    (by kernel_rfl)
#print axioms headone_card
end Go.Proofs.YtmefanagpkbjeabDoor
