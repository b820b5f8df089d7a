/- What the package pair's Same does. No condition. -/
import Derived.Test.YteknhghmliihhaaDoorJ7
namespace Go.Proofs.YteknhghmliihhaaDoor
open Go.RowKit Go.Shelf Go.Sort

def eqP (p q : P2) : Bool := decide (p.A = q.A) && decide (p.B = q.B)
theorem eqP_iff {p q : P2} : eqP p q = true ↔ p = q := by
  obtain ⟨a, b⟩ := p
  obtain ⟨c, d⟩ := q
  unfold eqP
  simp only [Bool.and_eq_true, decide_eq_true_eq]
  constructor
  · rintro ⟨rfl, rfl⟩; rfl
  · intro h; injection h with h1 h2; exact ⟨h1, h2⟩
def saB (a b c d : Pt) : Bool := (grN a && grN b) && (grN c && grN d)
def saV (a b c d : Pt) : Value := if saB a b c d = true then .tuple #[.bool (eqP (prN a b) (prN c d)), .int .i64 0] else .tuple #[.bool false, .int .i64 100]

theorem eqlP (p q : P2) (W : World) : (binOp .eql 27 (vP p) (vP q)).run Tryd.prog W = .ok (.bool (eqP p q)) W := by
  obtain ⟨a, b⟩ := p
  obtain ⟨c, d⟩ := q
  unfold eqP
  by_cases h1 : a = c
  · by_cases h2 : b = d
    · subst h1 h2; simp [go_sem]
    · subst h1
      have h2' : ¬ (b : Int) = d := by omega
      simp [go_sem, h2, h2']
  · have h1' : ¬ (a : Int) = c := by omega
    simp [go_sem, h1, h1']

set_option maxRecDepth 20000 in
set_option maxHeartbeats 4000000 in
theorem pSame1 (a b c d : Pt) (ua : UT a) (ub : UT b) (h : (grN a && grN b) = false) (w : World) (hL : Lp w) :
    Calls Tryd.prog 13 #[vT a, vT b, vT c, vT d] w fun e w' => e = .returned (.tuple #[.bool false, .int .i64 100]) ∧ Below w.heap.size w w' := by
  have C1 := pPair_any a b ua ub
  unfold prV at C1
  rw [if_neg (by rw [h]; simp)] at C1
  clear h
  go_enter Tryd.func13, Tryd.ntmps13
  go_wp2_with fail
  refine callsOf (fun V => Below w.heap.size w V ∧ Lp V) ⟨by go_grown, (((hL.alloc _).alloc _).alloc _).alloc _⟩ ?_
  rintro V ⟨BV, hLV⟩
  refine (C1 _ hLV).mono ?_
  rintro e w1 ⟨rfl, B1⟩
  have BW := belowStep BV BV.size B1
  clear BV B1 hLV hL C1 V
  go_wp2_with fail
  refine bodyPost_ret (v := .tuple #[.bool false, .int .i64 100]) (by simp [results, Tryd.results13, go_sem, *]) rfl ⟨rfl, ?_⟩
  exact BW.alloc BW.size _

set_option maxRecDepth 20000 in
set_option maxHeartbeats 4000000 in
theorem pSame2 (a b c d : Pt) (ua : UT a) (ub : UT b) (uc : UT c) (ud : UT d) (h : (grN a && grN b) = true) (h' : (grN c && grN d) = false) (w : World) (hL : Lp w) :
    Calls Tryd.prog 13 #[vT a, vT b, vT c, vT d] w fun e w' => e = .returned (.tuple #[.bool false, .int .i64 100]) ∧ Below w.heap.size w w' := by
  have C1 := pPair_any a b ua ub
  have C2 := pPair_any c d uc ud
  unfold prV at C1 C2
  rw [if_pos h] at C1
  rw [if_neg (by rw [h']; simp)] at C2
  obtain ⟨x, hx⟩ : ∃ x, prN a b = x := ⟨_, rfl⟩
  rw [hx] at C1
  clear h h' hx ua ub uc ud
  go_enter Tryd.func13, Tryd.ntmps13
  go_wp2_with fail
  refine callsOf (fun V => Below w.heap.size w V ∧ Tb (w.heap.size + 1 + 1) c V ∧ Tb (w.heap.size + 1 + 1 + 1) d V ∧ Lp V) ⟨by go_grown, (Tb.new' _ c 24 _ (by simp)).alloc _, Tb.new' _ d 24 _ (by simp), (((hL.alloc _).alloc _).alloc _).alloc _⟩ ?_
  rintro V ⟨BV, hC, hD, hLV⟩
  refine (C1 _ hLV).mono ?_
  rintro e w1 ⟨rfl, B1⟩
  have BW := belowStep BV BV.size B1
  have D1 := hC.below B1
  have E1 := hD.below B1
  have L1' := hLV.below B1
  clear BV B1 hLV hL C1 hC hD V
  have ⟨_, ca, cb, cc, cf⟩ := D1
  have ⟨_, da, db, dc, df⟩ := E1
  go_wp2_with fail
  refine callsOf (fun V => Below w.heap.size w V ∧ Pb w1.heap.size x V ∧ Lp V) ⟨BW.alloc BW.size _, Pb.new' _ x 27 _ rfl, L1'.alloc _⟩ ?_
  rintro V ⟨BV, hX, hLV⟩
  refine (C2 _ hLV).mono ?_
  rintro e w2 ⟨rfl, B2⟩
  have BW2 := belowStep BV BV.size B2
  have X2' := hX.below B2
  clear BV B2 hLV BW C2 hX D1 E1 L1' ca cb cc cf da db dc df V
  obtain ⟨xz, xa, xb, xf⟩ := X2'
  go_wp2_with fail
  refine bodyPost_ret (v := .tuple #[.bool false, .int .i64 100]) (by simp [results, Tryd.results13, go_sem, *]) rfl ⟨rfl, ?_⟩
  exact BW2.alloc BW2.size _
set_option maxRecDepth 20000 in
set_option maxHeartbeats 4000000 in
theorem pSame3 (a b c d : Pt) (ua : UT a) (ub : UT b) (uc : UT c) (ud : UT d) (h : (grN a && grN b) = true) (h' : (grN c && grN d) = true) (w : World) (hL : Lp w) :
    Calls Tryd.prog 13 #[vT a, vT b, vT c, vT d] w fun e w' => e = .returned (.tuple #[.bool (eqP (prN a b) (prN c d)), .int .i64 0]) ∧ Below w.heap.size w w' := by
  have C1 := pPair_any a b ua ub
  have C2 := pPair_any c d uc ud
  unfold prV at C1 C2
  rw [if_pos h] at C1
  rw [if_pos h'] at C2
  have hE := eqlP (prN a b) (prN c d)
  obtain ⟨x, hx⟩ : ∃ x, prN a b = x := ⟨_, rfl⟩
  obtain ⟨y, hy⟩ : ∃ x, prN c d = x := ⟨_, rfl⟩
  rw [hx] at C1 hE ⊢
  rw [hy] at C2 hE ⊢
  obtain ⟨r, hr⟩ : ∃ r, eqP x y = r := ⟨_, rfl⟩
  rw [hr] at hE ⊢
  clear h h' hx hy hr ua ub uc ud
  go_enter Tryd.func13, Tryd.ntmps13
  go_wp2_with fail
  refine callsOf (fun V => Below w.heap.size w V ∧ Tb (w.heap.size + 1 + 1) c V ∧ Tb (w.heap.size + 1 + 1 + 1) d V ∧ Lp V) ⟨by go_grown, (Tb.new' _ c 24 _ (by simp)).alloc _, Tb.new' _ d 24 _ (by simp), (((hL.alloc _).alloc _).alloc _).alloc _⟩ ?_
  rintro V ⟨BV, hC, hD, hLV⟩
  refine (C1 _ hLV).mono ?_
  rintro e w1 ⟨rfl, B1⟩
  have BW := belowStep BV BV.size B1
  have D1 := hC.below B1
  have E1 := hD.below B1
  have L1' := hLV.below B1
  clear BV B1 hLV hL C1 hC hD V
  have ⟨_, ca, cb, cc, cf⟩ := D1
  have ⟨_, da, db, dc, df⟩ := E1
  go_wp2_with fail
  refine callsOf (fun V => Below w.heap.size w V ∧ Pb w1.heap.size x V ∧ Lp V) ⟨BW.alloc BW.size _, Pb.new' _ x 27 _ rfl, L1'.alloc _⟩ ?_
  rintro V ⟨BV, hX, hLV⟩
  refine (C2 _ hLV).mono ?_
  rintro e w2 ⟨rfl, B2⟩
  have BW2 := belowStep BV BV.size B2
  have X2' := hX.below B2
  clear BV B2 hLV BW C2 hX D1 E1 L1' ca cb cc cf da db dc df V
  obtain ⟨xz, xa, xb, xf⟩ := X2'
  go_wp2_with fail
  refine bodyPost_ret (v := .tuple #[.bool r, .int .i64 0]) (by simp [results, Tryd.results13, go_sem, *]) rfl ⟨rfl, ?_⟩
  exact BW2.alloc BW2.size _

theorem pSame_any (a b c d : Pt) (ua : UT a) (ub : UT b) (uc : UT c) (ud : UT d) (w : World) (hL : Lp w) :
    Calls Tryd.prog 13 #[vT a, vT b, vT c, vT d] w fun e w' => e = .returned (saV a b c d) ∧ Below w.heap.size w w' := by
  unfold saV saB
  cases h : grN a && grN b
  · rw [if_neg (by simp)]; exact pSame1 a b c d ua ub h w hL
  cases h' : grN c && grN d
  · rw [if_neg (by simp)]; exact pSame2 a b c d ua ub uc ud h h' w hL
  · rw [if_pos (by simp)]; exact pSame3 a b c d ua ub uc ud h h' w hL
end Go.Proofs.YteknhghmliihhaaDoor
