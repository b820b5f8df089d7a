/- What stands ahead of an item: head and headOf. -/
import Derived.Test.YteaongogomhooaaQ5
namespace Go.Proofs.Yteaongogomhooaa
open Go.RowKit Go.Sort

theorem conv_one (w : World) (d : Nat) (hd : d < 256) : (convert 44 9 (.slice (some ⟨w.heap.size, 0, none⟩) 1 1)).run Try.prog (w.alloc (.cells #[.int .u8 d] 5)) = .ok (.string ⟨#[UInt8.ofNat d]⟩) (w.alloc (.cells #[.int .u8 d] 5)) := by
  have := conv_new w [UInt8.ofNat d]
  simp only [List.map_cons, List.map_nil, UInt8.toNat_ofNat'] at this
  rw [show ((d % 2 ^ 8 : Nat) : Int) = d by omega] at this
  exact this
/-- A head of so many bytes, from a number on. -/
def hdB (base size : Nat) : ByteArray := if size < 56 then ⟨#[UInt8.ofNat (base + size)]⟩ else ⟨#[UInt8.ofNat (base + 55 + blen size)]⟩ ++ numOf size
def hOf (x : Im) : ByteArray := if x.l then hdB 192 (body x) else if bare x.t then ⟨#[]⟩ else hdB 128 x.t.size

set_option maxRecDepth 20000 in
set_option maxHeartbeats 1000000 in
theorem head_any (base size : Nat) (hb : base ≤ 192) (hs : size < 1000000000000000000) (w : World) :
    Calls Try.prog 42 #[.int .i64 base, .int .i64 size] w fun e w' => e = .returned (.string (hdB base size)) ∧ Below w.heap.size w w' := by
  by_cases h : size < 56
  · have l : (size : Int) < 56 := by omega
    obtain ⟨d, hd⟩ : ∃ d, base + size = d := ⟨_, rfl⟩
    have hh : Hid (hdB base size = ⟨#[UInt8.ofNat d]⟩) := by unfold hdB; rw [if_pos h, hd]; exact rfl
    have w1 : IntKind.i64.wrap ((base : Int) + size) = d := by rw [IntKind.wrap_i64]; omega
    have w2 : (base : Int) + size = d := by omega
    have w3 : IntKind.u8.wrap (d : Int) = d := by rw [IntKind.wrap_u8]; omega
    have w4 : (d : Int) % 256 = d := by omega
    have hcv := conv_one w d (by omega)
    clear hd
    go_enter Try.func42, Try.ntmps42
    go_wp2
    go_ret
    exact ⟨by rw [hh.out]; rfl, (Below.refl _ w).alloc (Nat.le_refl _) _⟩
  · have l : ¬ (size : Int) < 56 := by omega
    have hw : IntKind.u64.wrap (size : Int) = size := by rw [IntKind.wrap_u64]; omega
    have KN : Hid (∀ w : World, _) := fun w : World => number_any size (by omega) w
    have hz : (numOf size).size = blen size := by8_size _ _
    have hm8 := blen_le size 8 (by omega)
    obtain ⟨d, hd⟩ : ∃ d, base + 55 + blen size = d := ⟨_, rfl⟩
    obtain ⟨s, hs'⟩ : ∃ s, numOf size = s := ⟨_, rfl⟩
    obtain ⟨one, hone, hos⟩ : ∃ x : ByteArray, ⟨#[UInt8.ofNat d]⟩ = x ∧ x.size = 1 := ⟨_, rfl, rfl⟩
    have hh : Hid (hdB base size = one ++ s) := by unfold hdB; rw [if_neg h, hd, hone, hs']; exact rfl
    rw [hs'] at KN hz
    have hz' : s.size ≤ 8 := by omega
    have hcv : ∀ w : World, _ := fun w => conv_one w d (by omega)
    rw [hone] at hcv
    have w2 : (base : Int) + 56 - 1 + s.size = d := by omega
    have w1 : IntKind.i64.wrap ((base : Int) + 56 - 1 + s.size) = d := by rw [IntKind.wrap_i64]; omega
    have w3 : IntKind.u8.wrap (d : Int) = d := by rw [IntKind.wrap_u8]; omega
    have w4 : (d : Int) % 256 = d := by omega
    have hsz : (one.size : Int) + s.size ≤ 9 := by omega
    clear hd hone hs' hz
    go_enter Try.func42, Try.ntmps42
    go_wp2_with fail
    refine (KN.out _).mono ?_
    rintro e w1 ⟨rfl, B1⟩
    have hcv1 := hcv w1
    clear hcv
    go_wp2
    go_ret
    exact ⟨by rw [hh.out]; rfl, B1.alloc B1.size _⟩

set_option maxRecDepth 20000 in
set_option maxHeartbeats 2000000 in
theorem headOf_any (x : Im) (htb : tb x < 1000000000000000000) (n : Nat) (w : World) (hn : n ≤ w.heap.size) (hm : inMem n w x) :
    Calls Try.prog 28 #[x.val] w fun e w' => e = .returned (.string (hOf x)) ∧ Below w.heap.size w w' := by
  have KB : ∀ w : World, n ≤ w.heap.size → inMem n w x → Calls Try.prog 38 #[x.val] w fun e w' => e = .returned (.int .i64 (body x)) ∧ Below w.heap.size w w' := fun w hn hm =>
    bodySize_of x htb n (fun j y hy w hn hm => sizeOf_all (cnt y) y (Nat.le_refl _) (by rw [tb_eq] at htb; have := tbs_at x.xs j y hy; omega) n w hn hm) w hn hm
  have hbt := body_tb x htb
  have KH : Hid (∀ w : World, _) := fun w : World => head_any 192 (body x) (by omega) (by omega) w
  rw [tb_eq] at htb
  have KT : Hid (∀ w : World, _) := fun w : World => head_any 128 x.t.size (by omega) (by omega) w
  have KX : Hid (∀ w : World, _) := fun w : World => isBare_any x.t w
  have hO : hOf x = if x.l then hdB 192 (body x) else if bare x.t then ⟨#[]⟩ else hdB 128 x.t.size := rfl
  obtain ⟨r1, hr1⟩ : ∃ b, hdB 192 (body x) = b := ⟨_, rfl⟩
  obtain ⟨r2, hr2⟩ : ∃ b, hdB 128 x.t.size = b := ⟨_, rfl⟩
  rw [hr1] at KH hO
  rw [hr2] at KT hO
  rw [hO]
  obtain ⟨bb, hbb⟩ : ∃ b, body x = b := ⟨_, rfl⟩
  rw [hbb] at KB KH hbt
  clear hbb hr1 hr2 hO
  have KB' : Hid (∀ w : World, _) := KB
  clear KB
  obtain ⟨l, t, a, c, xs⟩ := x
  replace KX : Hid (∀ w : World, Calls Try.prog 37 #[.string t] w fun e w' => e = .returned (.bool (bare t)) ∧ Below w.heap.size w w') := KX
  replace KT : Hid (∀ w : World, Calls Try.prog 42 #[.int .i64 128, .int .i64 t.size] w fun e w' => e = .returned (.string r2) ∧ Below w.heap.size w w') := KT
  replace KH : Hid (∀ w : World, Calls Try.prog 42 #[.int .i64 192, .int .i64 bb] w fun e w' => e = .returned (.string r1) ∧ Below w.heap.size w w') := KH
  show Calls Try.prog 28 #[.agg #[.bool l, .string t, .slice a xs.length c]] w fun e w' => e = .returned (.string (if l then r1 else if bare t then ⟨#[]⟩ else r2)) ∧ Below w.heap.size w w'
  have a0 : Below w.heap.size w (w.alloc (.cells #[.bool l, .string t, .slice a xs.length c] 24)) := (Below.refl _ w).alloc (Nat.le_refl _) _
  have hm1 := inMem_below hn (a0.mono hn) _ hm
  obtain ⟨bt0, hbt0⟩ : ∃ b, bare t = b := ⟨_, rfl⟩
  rw [hbt0] at KX ⊢
  cases l with
  | true =>
    go_enter Try.func28, Try.ntmps28
    go_wp2_with fail
    refine (KB'.out _ (by simp; omega) hm1).mono ?_
    rintro e w2 ⟨rfl, B2⟩
    have C2 := belowStep a0 a0.size B2
    clear B2 a0
    go_wp2_with fail
    refine (KH.out _).mono ?_
    rintro e w3 ⟨rfl, B3⟩
    have C3 := belowStep C2 C2.size B3
    clear B3 C2 KH KB' KX KT
    go_wp2
    go_ret
    exact ⟨rfl, C3⟩
  | false =>
    go_enter Try.func28, Try.ntmps28
    go_wp2_with fail
    refine (KX.out _).mono ?_
    rintro e wx ⟨rfl, BX⟩
    have ax := belowStep a0 a0.size BX
    have x0 : wx.cell? ⟨w.heap.size, 0, none⟩ = some (.bool false) := (BX.cell (p := ⟨w.heap.size, 0, none⟩) (by simp)).trans (by simp [go_sem])
    have x1 : wx.cell? ⟨w.heap.size, 1, none⟩ = some (.string t) := (BX.cell (p := ⟨w.heap.size, 1, none⟩) (by simp)).trans (by simp [go_sem])
    clear BX
    cases bt0 with
    | true =>
      go_wp2
      go_ret
      exact ⟨rfl, ax⟩
    | false =>
      go_wp2_with fail
      refine (KT.out _).mono ?_
      rintro e w3 ⟨rfl, B3⟩
      have C3 := belowStep ax ax.size B3
      clear B3 ax KH KB' KX KT
      go_wp2
      go_ret
      exact ⟨rfl, C3⟩
end Go.Proofs.Yteaongogomhooaa
