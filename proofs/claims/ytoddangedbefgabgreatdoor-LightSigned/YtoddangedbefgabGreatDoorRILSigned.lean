/- The law LightSigned: a message that is right was signed, by two thirds of the committee if it makes something final. Its tables are tied to the program's text. No condition. -/
import Derived.Test.YtoddangedbefgabGreatDoorCards
import Derived.Test.YtoddangedbefgabGreatDoorM1
import Derived.Test.YtoddangedbefgabGreatDoorM10
import Derived.Test.YtoddangedbefgabGreatDoorM11
import Derived.Test.YtoddangedbefgabGreatDoorM12
import Derived.Test.YtoddangedbefgabGreatDoorM13
import Derived.Test.YtoddangedbefgabGreatDoorM14
import Derived.Test.YtoddangedbefgabGreatDoorM15
import Derived.Test.YtoddangedbefgabGreatDoorM16
import Derived.Test.YtoddangedbefgabGreatDoorM17
import Derived.Test.YtoddangedbefgabGreatDoorM18
import Derived.Test.YtoddangedbefgabGreatDoorM19
import Derived.Test.YtoddangedbefgabGreatDoorM2
import Derived.Test.YtoddangedbefgabGreatDoorM20
import Derived.Test.YtoddangedbefgabGreatDoorM21
import Derived.Test.YtoddangedbefgabGreatDoorM22
import Derived.Test.YtoddangedbefgabGreatDoorM23
import Derived.Test.YtoddangedbefgabGreatDoorM24
import Derived.Test.YtoddangedbefgabGreatDoorM25
import Derived.Test.YtoddangedbefgabGreatDoorM26
import Derived.Test.YtoddangedbefgabGreatDoorM27
import Derived.Test.YtoddangedbefgabGreatDoorM28
import Derived.Test.YtoddangedbefgabGreatDoorM29
import Derived.Test.YtoddangedbefgabGreatDoorM3
import Derived.Test.YtoddangedbefgabGreatDoorM30
import Derived.Test.YtoddangedbefgabGreatDoorM31
import Derived.Test.YtoddangedbefgabGreatDoorM32
import Derived.Test.YtoddangedbefgabGreatDoorM33
import Derived.Test.YtoddangedbefgabGreatDoorM34
import Derived.Test.YtoddangedbefgabGreatDoorM35
import Derived.Test.YtoddangedbefgabGreatDoorM36
import Derived.Test.YtoddangedbefgabGreatDoorM37
import Derived.Test.YtoddangedbefgabGreatDoorM38
import Derived.Test.YtoddangedbefgabGreatDoorM39
import Derived.Test.YtoddangedbefgabGreatDoorM4
import Derived.Test.YtoddangedbefgabGreatDoorM40
import Derived.Test.YtoddangedbefgabGreatDoorM41
import Derived.Test.YtoddangedbefgabGreatDoorM42
import Derived.Test.YtoddangedbefgabGreatDoorM43
import Derived.Test.YtoddangedbefgabGreatDoorM44
import Derived.Test.YtoddangedbefgabGreatDoorM45
import Derived.Test.YtoddangedbefgabGreatDoorM46
import Derived.Test.YtoddangedbefgabGreatDoorM5
import Derived.Test.YtoddangedbefgabGreatDoorM6
import Derived.Test.YtoddangedbefgabGreatDoorM7
import Derived.Test.YtoddangedbefgabGreatDoorM8
import Derived.Test.YtoddangedbefgabGreatDoorM9
import Derived.Test.YtoddangedbefgabGreatDoorRows
import Derived.Test.YtoddangedbefgabGreatDoorTie
import Derived.Carry
import Derived.Deep.DeepHandedRow
import Derived.JoinedCond
import Derived.Lib.LaidTab
import Derived.SevenTiedAt
import Derived.SizedLaws
import Derived.SliceStrings
namespace Go.Proofs.YtoddangedbefgabGreatDoor
open Go.ChangeShapes Go.WideShapes Go.ChangeAt Go.RowKit

theorem lightsigned_laidOut : laidOutB Tryz.prog = true := by kernel_rfl

set_option maxHeartbeats 400000 in
set_option maxRecDepth 100000 in
theorem lightsigned_lifted (os : Os) (started : os.Started) (H : Type) (enc : TypeId × Value → H) :
    ReturnsInHanded {} Tryz.checked os 5 .any (fun w args => (Rows.lightSignedSpec.pre enc Tryz.prog Tryz.f5 [] false w args ∧ laidMetH Tryz.prog laid3 w) ∧ sizedMet enc Tryz.prog Tryz.f5 (OpenSpec.ofChange Rows.lightSignedSpec) false w args)
      (Rows.lightSignedSpec.post enc Tryz.prog Tryz.f5 false true false false) := by
  refine returnsInHanded_of_change_and (C := Tryz.checked) (X := fun w _ => laidMetH Tryz.prog laid3 w) (fun _ _ _ hh h => h.of_heap hh) rowOwn started (by kernel_rfl) Tryz.func5
    (ChangeSpec.witness_shaped (enc := enc) (C := Tryz.checked) (os := os) (X := fun w _ => laidMetH Tryz.prog laid3 w) false (World.doorLaid Tryz.prog 400 os) #[.agg #[.int .u64 0, .int .u64 0, .string ByteArray.empty, .string ByteArray.empty, .string ByteArray.empty, .string ByteArray.empty, .string ByteArray.empty, .int .u64 0, .slice none 0 0, .int .u64 0, .int .u64 0, .string ByteArray.empty, .string ByteArray.empty, .string ByteArray.empty, .string ByteArray.empty, .string ByteArray.empty, .int .u64 0, .slice none 0 0, .slice none 0 0, .string ByteArray.empty, .slice none 0 0, .string ByteArray.empty, .int .u64 0, .int .u64 0, .string ByteArray.empty, .string ByteArray.empty, .string ByteArray.empty, .string ByteArray.empty, .string ByteArray.empty, .int .u64 0, .slice none 0 0, .slice none 0 0, .string ByteArray.empty, .slice none 0 0, .int .u64 0, .int .u64 0, .string ByteArray.empty, .string ByteArray.empty, .string ByteArray.empty, .string ByteArray.empty, .string ByteArray.empty, .int .u64 0, .slice none 0 0, .slice none 0 0, .int .u64 0, .string ByteArray.empty, .int .u64 0, .bool false, .int .i64 0, .int .i64 0, .bool false], .agg #[.int .u64 0, .int .u64 0, .string ByteArray.empty, .string ByteArray.empty, .string ByteArray.empty, .string ByteArray.empty, .string ByteArray.empty, .int .u64 0, .slice none 0 0, .slice none 0 0, .string ByteArray.empty, .slice none 0 0, .int .u64 0, .int .u64 0, .string ByteArray.empty, .string ByteArray.empty, .string ByteArray.empty, .string ByteArray.empty, .string ByteArray.empty, .int .u64 0, .slice none 0 0, .slice none 0 0, .int .u64 0, .string ByteArray.empty, .int .u64 0], .int .u64 0] 8 rfl (World.shaped_of_RefB (by kernel_rfl) (by kernel_rfl)) (by kernel_rfl) (by kernel_rfl) (by kernel_rfl) (door_met os _)) ?_
  intro W base args ds gs before hval0 hW _ hwt hL _
  have hval : ∀ (j : Nat) t v, Tryz.f5.params[j]? = some t → args[j]? = some v → Value.okWide Tryz.prog W .any base t v := hval0
  have hW' := hW
  obtain ⟨p, q, hA0, hV, rfl, _, _⟩ := hW
  have hA : DataW.TrodAll enc Tryz.prog W 0 (fun _ => true) true Tryz.f5.params.toList args.toList ds p := hA0
  rw [Tryz.params5] at hA hval
  obtain ⟨v0, v1, v2, d0, d1, d2, p0, p1, p2, rfl, rfl, rfl, h0, h1, h2⟩ := trodAll_three hA
  obtain ⟨rfl, rfl⟩ := trodVars_none hV
  have k0 := h0
  obtain ⟨cs0, fuel0, rfl, f0⟩ := open_top Tryz.underlying38 (hval 0 38 v0 rfl rfl) h0
  have k1 := h1
  obtain ⟨cs1, fuel1, rfl, f1⟩ := open_top Tryz.underlying33 (hval 1 33 v1 rfl rfl) h1
  obtain ⟨a2, rfl, rfl, rfl, w2⟩ := open_int Tryz.underlying22 (hval 2 22 v2 rfl rfl) h2
  have hl := of_laid hL
  clear hA0 hval0 hval hA
  simp only [List.append_nil] at hW'
  have hlt : ∀ x ∈ (p0 ++ (p1 ++ (([] : List MemPlace)))), x.block < W.heap.size := fun x hx => by simpa using hW'.lt x (by simpa using hx)
  have hlt0 : ∀ x ∈ p0, x.block < W.heap.size := fun x hx => hlt x (by first | (simpa using hx) | (simp [hx]))
  have hw0 : WB 38 d0 := fun n hn => by
    have := List.all_eq_true.1 hwt n (DataW.weights_mem_each (j := 0) (t := 38) (d := d0) (by rw [Tryz.params5]; rfl) rfl n hn)
    simpa using this
  obtain ⟨g0, q0, rfl, ok0, in0, z0⟩ := st_openW f0 hlt0 hw0
  have hlt1 : ∀ x ∈ p1, x.block < W.heap.size := fun x hx => hlt x (by first | (simpa using hx) | (simp [hx]))
  have hw1 : WB 33 d1 := fun n hn => by
    have := List.all_eq_true.1 hwt n (DataW.weights_mem_each (j := 1) (t := 33) (d := d1) (by rw [Tryz.params5]; rfl) rfl n hn)
    simpa using this
  obtain ⟨g1, q1, rfl, ok1, in1, z1⟩ := up_openW f1 hlt1 hw1
  refine (lightsigned_any g0 g1 a2 ok0 ok1 z0 z1 q0 q1 W (hl) in0 in1 (wf64 w2)).mono fun e W' ⟨he, hg⟩ => ?_
  subst he
  refine ⟨_, rfl, _, _, _, [], (p0 ++ (p1 ++ (([] : List MemPlace)))), [], hW', ?_, ?_, rfl, hg.frame _, fun h => by cases h⟩
  · exact trodAll_mk1 (shut_bool Tryz.underlying4 _)
  · exact trodAll_mk3 (Below.trod lightsigned_laidOut (by kernel_rfl) (of_decide_eq_true (by kernel_rfl)) k0 hg hlt0) (Below.trod lightsigned_laidOut (by kernel_rfl) (of_decide_eq_true (by kernel_rfl)) k1 hg hlt1) (shut_int Tryz.underlying22 w2)

theorem lightsigned_holds : Rows.LightSignedSaid :=
  OpenClaim.holds_of_wide 5 Tryz.f5 rfl rfl rfl rfl rfl rfl rfl ⟨rfl, rfl, rfl, rfl, rfl⟩ rfl rfl rfl rfl rfl (by kernel_rfl) Tryz.func5 (by kernel_rfl)
    (of_decide_eq_true (by kernel_rfl)) (by unfold Func.isWrapper; first | (rw [if_pos (by decide +kernel)]; kernel_rfl) | (rw [if_neg (by decide +kernel)]; exact ⟨rfl, rfl⟩))
    (fun os started H enc _ => lightsigned_lifted os started H enc)

theorem lightsigned_card : Rows.LightSignedCardSaid :=
  Claim7.holds_tied_plain_at .later [] [.data, .data, .data, .data, .data, .data, .data] true Rows.lightSignedCard.stood.harness false
    lightsigned_holds (fun _ h => by cases h) (by kernel_rfl) (fun _ h => by cases h) lightSigned_row_tie rfl ⟨rfl, rfl⟩ (by kernel_rfl) rfl
    (fun f fn hf hfn => by
      obtain rfl : f = 5 := Option.some.inj ((show Tryz.prog.funcNamed "pharos/pharoslaw14.LightSigned" = some 5 by kernel_rfl).symm.trans hf) |>.symm
      obtain rfl : fn = Tryz.f5 := (Option.some.inj (Tryz.func5.symm.trans hfn)).symm
      exact ⟨by kernel_rfl, fun j t ht => by
        rw [Tryz.params5] at ht
        have h3 : t = 38 ∨ t = 33 ∨ t = 22 := by
          rcases j with _ | _ | _ | j
          · have e := ht.symm; simp at e; simp [e]
          · have e := ht.symm; simp at e; simp [e]
          · have e := ht.symm; simp at e; simp [e]
          · simp at ht
        rcases h3 with rfl | rfl | rfl
        · exact (show Tryz.prog.wantsStandIn 38 = false by kernel_rfl)
        · exact (show Tryz.prog.wantsStandIn 33 = false by kernel_rfl)
        · exact (show Tryz.prog.wantsStandIn 22 = false by kernel_rfl)⟩)
    (by kernel_rfl)
#print axioms lightsigned_card
end Go.Proofs.YtoddangedbefgabGreatDoor
