/- What the program's first, Bytes, named, From do. No condition. -/
import Derived.Test.YtlcdlegdnibcaaaDoorC8
import Derived.Test.YtlcdlegdnibcaaaDoorBt
namespace Go.Proofs.YtlcdlegdnibcaaaDoor
open Go.RowKit Go.Shelf Go.Sort

def fsN (p : Pt) : Nat := if p = iN then 0 else if p.Y % 2 = 0 then 2 else 3

set_option maxRecDepth 20000 in
set_option maxHeartbeats 4000000 in
theorem first_any (p : Pt) (hp : UT p) (w : World) (hL : Li w) :
    Calls Tryd.prog 35 #[vT p] w fun e w' => e = .returned (.int .u8 (fsN p : Nat)) ∧ Below w.heap.size w w' := by
  have ⟨lz, la, lb, lc, lo⟩ := hL
  have hE := eqlI p
  unfold fsN
  by_cases e1 : p = iN
  · rw [decide_eq_true e1] at hE
    rw [if_pos e1]
    obtain ⟨pX, pY, pI⟩ := p
    simp only [vT] at hE ⊢
    clear e1
    go_enter Tryd.func35, Tryd.ntmps35
    go_wp2_with fail
    go_ret
    exact ⟨rfl, by go_grown⟩
  · rw [decide_eq_false e1] at hE
    rw [if_neg e1]
    obtain ⟨pX, pY, pI⟩ := p
    simp only [vT] at hE ⊢
    clear e1
    by_cases h2 : pY % 2 = 0
    · rw [if_pos h2]
      have h2' : (pY : Int) % 2 = 0 := by omega
      go_enter Tryd.func35, Tryd.ntmps35
      go_wp2_with fail
      go_ret
      exact ⟨rfl, by go_grown⟩
    · rw [if_neg h2]
      have h2' : (pY : Int) % 2 = 1 := by omega
      go_enter Tryd.func35, Tryd.ntmps35
      go_wp2_with fail
      go_ret
      exact ⟨rfl, by go_grown⟩

/-- A point's bytes: the first one, and a number in four. -/
def bvF (f x : Nat) (j : Nat) : Int := if j = 0 then (f : Int) else ((x / 256 ^ (4 - j) % 256 : Nat) : Int)
def txF (f x : Nat) : ByteArray := ⟨(by8 5 (bvF f x)).toArray⟩
theorem fs_lt (p : Pt) : fsN p < 256 := by unfold fsN; split; omega; split <;> omega
theorem bv_bd (f x : Nat) (hf : f < 256) (j : Nat) : 0 ≤ bvF f x j ∧ bvF f x j < 256 := by
  unfold bvF
  split
  · omega
  · have := Nat.mod_lt (x / 256 ^ (4 - j)) (show 0 < 256 by omega)
    omega
theorem tx_size (f x : Nat) : (txF f x).size = 5 := by8_size 5 _
theorem text_of (f x b1 b2 b3 b4 : Nat) (hf : f < 256) (h1 : x / 16777216 % 256 = b1) (h2 : x / 65536 % 256 = b2) (h3 : x / 256 % 256 = b3) (h4 : x % 256 = b4) (W : World) (t : TypeId) :
    (convert 49 9 (.slice (some ⟨W.heap.size, 0, none⟩) 5 5)).run Tryd.prog (W.alloc (.cells #[.int .u8 (f : Int), .int .u8 (b1 : Int), .int .u8 (b2 : Int), .int .u8 (b3 : Int), .int .u8 (b4 : Int)] t)) = .ok (.string (txF f x)) (W.alloc (.cells #[.int .u8 (f : Int), .int .u8 (b1 : Int), .int .u8 (b2 : Int), .int .u8 (b3 : Int), .int .u8 (b4 : Int)] t)) := by
  have hl : (by8 5 (bvF f x)).length = 5 := by8_len 5 _
  have := run_convert_bytes_back (P := Tryd.prog) (W.alloc (.cells #[.int .u8 (f : Int), .int .u8 (b1 : Int), .int .u8 (b2 : Int), .int .u8 (b3 : Int), .int .u8 (b4 : Int)] t)) 49 9 5 ⟨W.heap.size, 0, none⟩ 5 (by8 5 (bvF f x)) Tryd.underlying49 Tryd.underlying5 Tryd.underlying9 (fun j hj => by
    rw [Addr.add_mid, Nat.zero_add, by8_at 5 _ (bv_bd f x hf)]
    rw [hl] at hj
    subst h1 h2 h3 h4
    match j, hj with
    | 0, _ => simp [go_sem, bvF]
    | 1, _ => simp [go_sem, bvF]
    | 2, _ => simp [go_sem, bvF]
    | 3, _ => simp [go_sem, bvF]
    | 4, _ => simp [go_sem, bvF])
  rw [hl] at this
  exact this
def bytV (p : Pt) : Value := if grN p = true then .tuple #[.string (txF (fsN p) p.X), .int .i64 0] else .tuple #[.string ⟨#[]⟩, .int .i64 100]

set_option maxRecDepth 20000 in
set_option maxHeartbeats 4000000 in
theorem bytes_any (p : Pt) (hp : UT p) (w : World) (hL : Li w) :
    Calls Tryd.prog 20 #[vT p] w fun e w' => e = .returned (bytV p) ∧ Below w.heap.size w w' := by
  have C1 := ingroup_any p hp
  have C2 := first_any p hp
  have hf := fs_lt p
  unfold bytV
  cases hg : grN p
  · rw [hg] at C1
    rw [if_neg (by simp)]
    go_enter Tryd.func20, Tryd.ntmps20
    go_wp2_with fail
    refine callsOf (fun W => Below w.heap.size w W ∧ Tb w.heap.size p W ∧ Li W) ⟨by go_grown, Tb.new' w p 24 _ rfl, hL.below (by go_grown)⟩ ?_
    rintro V ⟨BV, hA, LV⟩
    refine (C1 _ LV).mono ?_
    rintro e w1 ⟨rfl, B1⟩
    have BW := belowStep BV BV.size B1
    clear BV hA LV B1
    go_wp2_with fail
    refine bodyPost_ret (v := .tuple #[.string ⟨#[]⟩, .int .i64 100]) (by simp [results, Tryd.results20, go_sem, *]) rfl ⟨rfl, BW⟩
  rw [hg] at C1
  rw [if_pos rfl]
  obtain ⟨f, hf'⟩ : ∃ f, fsN p = f := ⟨_, rfl⟩
  rw [hf'] at C2 hf ⊢
  clear hf'
  go_enter Tryd.func20, Tryd.ntmps20
  go_wp2_with fail
  refine callsOf (fun W => Below w.heap.size w W ∧ Tb w.heap.size p W ∧ Li W) ⟨by go_grown, Tb.new' w p 24 _ rfl, hL.below (by go_grown)⟩ ?_
  rintro V ⟨BV, hA, LV⟩
  refine (C1 _ LV).mono ?_
  rintro e w1 ⟨rfl, B1⟩
  have A1 := hA.below B1
  have LW1 := LV.below B1
  have BW := belowStep BV BV.size B1
  clear BV hA LV B1 V
  go_wp2_with fail
  have c2 := inClassL C2 LW1
  have k0 := cell_regrown A1.a
  have k1 := cell_regrown A1.b
  have k2 := cell_regrown A1.c
  have HV : Hid _ := BW
  obtain ⟨b1, h1⟩ : ∃ b, p.X / 16777216 % 256 = b := ⟨_, rfl⟩
  obtain ⟨b2, h2⟩ : ∃ b, p.X / 65536 % 256 = b := ⟨_, rfl⟩
  obtain ⟨b3, h3⟩ : ∃ b, p.X / 256 % 256 = b := ⟨_, rfl⟩
  obtain ⟨b4, h4⟩ : ∃ b, p.X % 256 = b := ⟨_, rfl⟩
  have e1 : IntKind.u8.wrap ((p.X : Int) / 16777216) = b1 := by rw [IntKind.wrap_u8]; omega
  have e2 : IntKind.u8.wrap ((p.X : Int) / 65536) = b2 := by rw [IntKind.wrap_u8]; omega
  have e3 : IntKind.u8.wrap ((p.X : Int) / 256) = b3 := by rw [IntKind.wrap_u8]; omega
  have e4 : IntKind.u8.wrap (p.X : Int) = b4 := by rw [IntKind.wrap_u8]; omega
  clear A1 LW1 BW C1 C2
  refine region_tail 17 (by kernel_rfl) (by kernel_rfl) ?_
  simp only [List.take_succ_cons, List.take_zero, List.drop_succ_cons, List.drop_zero]
  quiet_step (fail)
  quiet_step (exact c2 _ _)
  iterate 15 (quiet_step (fail))
  refine wpQuiet_nil ?_
  intro w8 hw8
  have B8 : Below w1.heap.size w1 w8 := by
    obtain ⟨p, rfl⟩ := hw8
    exact below_regrown _ _ _
  have BW := belowStep HV.out (HV.out).size B8
  have hcv := text_of f p.X b1 b2 b3 b4 hf h1 h2 h3 h4 w8
  clear hw8 k0 k1 k2 c2 B8 HV h1 h2 h3 h4 e1 e2 e3 e4
  go_wp2_with fail
  refine bodyPost_ret (v := .tuple #[.string (txF f p.X), .int .i64 0]) (by simp [results, Tryd.results20, go_sem, *]) rfl ⟨rfl, BW.alloc BW.size _⟩

end Go.Proofs.YtlcdlegdnibcaaaDoor
