/- Lemmas: A store and a message, part by part; what taking over makes of a store: pure. No condition. -/
import Derived.Test.YtoddangedbefgabGreatDoorM39
namespace Go.Proofs.YtoddangedbefgabGreatDoor
open Go.RowKit Go.Shelf Go.Sort
def st9 (A B C D E : List Value) (h : Bool) (l t : Int) (f : Bool) : List Value := A ++ B ++ C ++ D ++ E ++ [.bool h, .int .i64 l, .int .i64 t, .bool f]
theorem stV_st9 (d : StD) (q : StP) : stV d q = st9 (ltV d.fin q.fin) (ltV d.new q.new) (cmV d.now q.now) (cmV d.nxt q.nxt) (upV d.best q.best) d.has d.last d.this d.forced := rfl
structure L9 (A B C D E : List Value) : Prop where
 a : A.length = 9
 b : B.length = 9
 c : C.length = 2
 d : D.length = 2
 e : E.length = 25
theorem L9_of (d : StD) (q : StP) : L9 (ltV d.fin q.fin) (ltV d.new q.new) (cmV d.now q.now) (cmV d.nxt q.nxt) (upV d.best q.best) := ⟨rfl, rfl, rfl, rfl, rfl⟩
section
variable {A B C D E : List Value} {h : Bool} {l t : Int} {f : Bool}
theorem jaz (H : L9 A B C D E) : (st9 A B C D E h l t f).length = 51 := by
 have := H.a; have := H.b; have := H.c; have := H.d; have := H.e
 simp only [st9, List.length_append, List.length_cons, List.length_nil]
 omega
theorem st9_A (j : Nat) (v : Value) (hv : A[j]? = some v) : (st9 A B C D E h l t f)[0 + j]? = some v := by
 have := jcp (A := []) (B := A) (C := B ++ C ++ D ++ E ++ [.bool h, .int .i64 l, .int .i64 t, .bool f]) j v hv
 simpa [st9, List.append_assoc] using this
theorem st9_B (H : L9 A B C D E) (j : Nat) (v : Value) (hv : B[j]? = some v) : (st9 A B C D E h l t f)[9 + j]? = some v := by
 have := jcp (A := A) (B := B) (C := C ++ D ++ E ++ [.bool h, .int .i64 l, .int .i64 t, .bool f]) j v hv
 rw [H.a] at this
 simpa only [st9, List.append_assoc] using this
theorem st9_D (H : L9 A B C D E) (j : Nat) (v : Value) (hv : D[j]? = some v) : (st9 A B C D E h l t f)[20 + j]? = some v := by
 have := jcp (A := A ++ B ++ C) (B := D) (C := E ++ [.bool h, .int .i64 l, .int .i64 t, .bool f]) j v hv
 rw [List.length_append, List.length_append, H.a, H.b, H.c] at this
 simpa only [st9, List.append_assoc] using this
theorem st9_E (H : L9 A B C D E) (j : Nat) (v : Value) (hv : E[j]? = some v) : (st9 A B C D E h l t f)[22 + j]? = some v := by
 have := jcp (A := A ++ B ++ C ++ D) (B := E) (C := [.bool h, .int .i64 l, .int .i64 t, .bool f]) j v hv
 rw [List.length_append, List.length_append, List.length_append, H.a, H.b, H.c, H.d] at this
 simpa only [st9, List.append_assoc] using this
theorem st9_tail (H : L9 A B C D E) (j : Nat) (v : Value) (hv : [Value.bool h, .int .i64 l, .int .i64 t, .bool f][j]? = some v) : (st9 A B C D E h l t f)[47 + j]? = some v := by
 have := jcp (A := A ++ B ++ C ++ D ++ E) (B := [Value.bool h, .int .i64 l, .int .i64 t, .bool f]) (C := []) j v hv
 rw [List.length_append, List.length_append, List.length_append, List.length_append, H.a, H.b, H.c, H.d, H.e] at this
 simpa only [st9, List.append_assoc, List.append_nil] using this
theorem st9_h (H : L9 A B C D E) : (st9 A B C D E h l t f)[47]? = some (.bool h) := st9_tail H 0 _ rfl
theorem st9_l (H : L9 A B C D E) : (st9 A B C D E h l t f)[48]? = some (.int .i64 l) := st9_tail H 1 _ rfl
theorem st9_t (H : L9 A B C D E) : (st9 A B C D E h l t f)[49]? = some (.int .i64 t) := st9_tail H 2 _ rfl
variable {W : World} {z : Nat} {ty : TypeId}
theorem st9_putA (H : L9 A B C D E) {X : List Value} (hX : X.length = 9) (hb : Bq z ty (st9 A B C D E h l t f).toArray W) : Bq z ty (st9 X B C D E h l t f).toArray (W.setCells z 0 X) := by
 have := jav (b := z) (t := ty) (f := (0, 0)) (B ++ C ++ D ++ E ++ [.bool h, .int .i64 l, .int .i64 t, .bool f]) X A [] W (by rw [hX, H.a]) (by
  have e : [] ++ A ++ (B ++ C ++ D ++ E ++ [Value.bool h, .int .i64 l, .int .i64 t, .bool f]) = st9 A B C D E h l t f := by simp only [st9, List.append_assoc, List.nil_append]
  rw [e]
  exact hb)
 have e : [] ++ X ++ (B ++ C ++ D ++ E ++ [Value.bool h, .int .i64 l, .int .i64 t, .bool f]) = st9 X B C D E h l t f := by simp only [st9, List.append_assoc, List.nil_append]
 rw [e] at this
 exact this
theorem jdp (H : L9 A B C D E) {X : List Value} (hX : X.length = 9) (hb : Bq z ty (st9 A B C D E h l t f).toArray W) : Bq z ty (st9 A X C D E h l t f).toArray (W.setCells z 9 X) := by
 have := jav (b := z) (t := ty) (f := (0, 0)) (C ++ D ++ E ++ [.bool h, .int .i64 l, .int .i64 t, .bool f]) X B A W (by rw [hX, H.b]) (by
  have e : A ++ B ++ (C ++ D ++ E ++ [Value.bool h, .int .i64 l, .int .i64 t, .bool f]) = st9 A B C D E h l t f := by simp only [st9, List.append_assoc]
  rw [e]
  exact hb)
 have e : A ++ X ++ (C ++ D ++ E ++ [Value.bool h, .int .i64 l, .int .i64 t, .bool f]) = st9 A X C D E h l t f := by simp only [st9, List.append_assoc]
 rw [e, H.a] at this
 exact this
theorem st9_putC (H : L9 A B C D E) {X : List Value} (hX : X.length = 2) (hb : Bq z ty (st9 A B C D E h l t f).toArray W) : Bq z ty (st9 A B X D E h l t f).toArray (W.setCells z 18 X) := by
 have := jav (b := z) (t := ty) (f := (0, 0)) (D ++ E ++ [.bool h, .int .i64 l, .int .i64 t, .bool f]) X C (A ++ B) W (by rw [hX, H.c]) (by
  have e : A ++ B ++ C ++ (D ++ E ++ [Value.bool h, .int .i64 l, .int .i64 t, .bool f]) = st9 A B C D E h l t f := by simp only [st9, List.append_assoc]
  rw [e]
  exact hb)
 have e : A ++ B ++ X ++ (D ++ E ++ [Value.bool h, .int .i64 l, .int .i64 t, .bool f]) = st9 A B X D E h l t f := by simp only [st9, List.append_assoc]
 rw [e, List.length_append, H.a, H.b] at this
 exact this
theorem st9_putD (H : L9 A B C D E) {X : List Value} (hX : X.length = 2) (hb : Bq z ty (st9 A B C D E h l t f).toArray W) : Bq z ty (st9 A B C X E h l t f).toArray (W.setCells z 20 X) := by
 have := jav (b := z) (t := ty) (f := (0, 0)) (E ++ [.bool h, .int .i64 l, .int .i64 t, .bool f]) X D (A ++ B ++ C) W (by rw [hX, H.d]) (by
  have e : A ++ B ++ C ++ D ++ (E ++ [Value.bool h, .int .i64 l, .int .i64 t, .bool f]) = st9 A B C D E h l t f := by simp only [st9, List.append_assoc]
  rw [e]
  exact hb)
 have e : A ++ B ++ C ++ X ++ (E ++ [Value.bool h, .int .i64 l, .int .i64 t, .bool f]) = st9 A B C X E h l t f := by simp only [st9, List.append_assoc]
 rw [e, List.length_append, List.length_append, H.a, H.b, H.c] at this
 exact this
theorem jcw (H : L9 A B C D E) {X : List Value} (hX : X.length = 25) (hb : Bq z ty (st9 A B C D E h l t f).toArray W) : Bq z ty (st9 A B C D X h l t f).toArray (W.setCells z 22 X) := by
 have := jav (b := z) (t := ty) (f := (0, 0)) [.bool h, .int .i64 l, .int .i64 t, .bool f] X E (A ++ B ++ C ++ D) W (by rw [hX, H.e]) (by
  have e : A ++ B ++ C ++ D ++ E ++ [Value.bool h, .int .i64 l, .int .i64 t, .bool f] = st9 A B C D E h l t f := by simp only [st9, List.append_assoc]
  rw [e]
  exact hb)
 have e : A ++ B ++ C ++ D ++ X ++ [Value.bool h, .int .i64 l, .int .i64 t, .bool f] = st9 A B C D X h l t f := by simp only [st9, List.append_assoc]
 rw [e, List.length_append, List.length_append, List.length_append, H.a, H.b, H.c, H.d] at this
 exact this
theorem st9_len5 (H : L9 A B C D E) : (A ++ B ++ C ++ D ++ E).length = 47 := by
 rw [List.length_append, List.length_append, List.length_append, List.length_append, H.a, H.b, H.c, H.d, H.e]
theorem jcv (H : L9 A B C D E) (x : Bool) (hb : Bq z ty (st9 A B C D E h l t f).toArray W) : Bq z ty (st9 A B C D E x l t f).toArray (W.setCell ⟨z, 47, none⟩ (.bool x)) := by
 have := jav (b := z) (t := ty) (f := (0, 0)) [.int .i64 l, .int .i64 t, .bool f] [.bool x] [.bool h] (A ++ B ++ C ++ D ++ E) W rfl (by
  have e : A ++ B ++ C ++ D ++ E ++ [Value.bool h] ++ [.int .i64 l, .int .i64 t, .bool f] = st9 A B C D E h l t f := by simp [st9, List.append_assoc]
  rw [e]
  exact hb)
 have e : A ++ B ++ C ++ D ++ E ++ [Value.bool x] ++ [.int .i64 l, .int .i64 t, .bool f] = st9 A B C D E x l t f := by simp [st9, List.append_assoc]
 rw [e, st9_len5 H] at this
 exact this
theorem st9_putl (H : L9 A B C D E) (x : Int) (hb : Bq z ty (st9 A B C D E h l t f).toArray W) : Bq z ty (st9 A B C D E h x t f).toArray (W.setCell ⟨z, 48, none⟩ (.int .i64 x)) := by
 have := jav (b := z) (t := ty) (f := (0, 0)) [.int .i64 t, .bool f] [.int .i64 x] [.int .i64 l] (A ++ B ++ C ++ D ++ E ++ [.bool h]) W rfl (by
  have e : A ++ B ++ C ++ D ++ E ++ [Value.bool h] ++ [.int .i64 l] ++ [.int .i64 t, .bool f] = st9 A B C D E h l t f := by simp [st9, List.append_assoc]
  rw [e]
  exact hb)
 have e : A ++ B ++ C ++ D ++ E ++ [Value.bool h] ++ [.int .i64 x] ++ [.int .i64 t, .bool f] = st9 A B C D E h x t f := by simp [st9, List.append_assoc]
 rw [e, List.length_append, st9_len5 H] at this
 exact this
theorem st9_putt (H : L9 A B C D E) (x : Int) (hb : Bq z ty (st9 A B C D E h l t f).toArray W) : Bq z ty (st9 A B C D E h l x f).toArray (W.setCell ⟨z, 49, none⟩ (.int .i64 x)) := by
 have := jav (b := z) (t := ty) (f := (0, 0)) [.bool f] [.int .i64 x] [.int .i64 t] (A ++ B ++ C ++ D ++ E ++ [.bool h, .int .i64 l]) W rfl (by
  have e : A ++ B ++ C ++ D ++ E ++ [Value.bool h, .int .i64 l] ++ [.int .i64 t] ++ [.bool f] = st9 A B C D E h l t f := by simp [st9, List.append_assoc]
  rw [e]
  exact hb)
 have e : A ++ B ++ C ++ D ++ E ++ [Value.bool h, .int .i64 l] ++ [.int .i64 x] ++ [.bool f] = st9 A B C D E h l x f := by simp [st9, List.append_assoc]
 rw [e, List.length_append, st9_len5 H] at this
 exact this
end
theorem jca (W : World) (a : Addr) (v : Value) : (W.setCell a v).heap.size = W.heap.size := by simp [World.setCell]
theorem jel {A B C D E : List Value} (a : ∀ v ∈ A, v.oneCell' = true) (b : ∀ v ∈ B, v.oneCell' = true) (c : ∀ v ∈ C, v.oneCell' = true) (d : ∀ v ∈ D, v.oneCell' = true) (e : ∀ v ∈ E, v.oneCell' = true) (h : Bool) (l t : Int) (f : Bool) : ∀ v ∈ st9 A B C D E h l t f, v.oneCell' = true := by
 intro v hv
 unfold st9 at hv
 simp only [List.mem_append, List.mem_cons, List.mem_nil_iff, or_false] at hv
 rcases hv with ((((h | h) | h) | h) | h) | rfl | rfl | rfl | rfl
 ·exact a v h
 ·exact b v h
 ·exact c v h
 ·exact d v h
 ·exact e v h
 all_goals rfl
/-! ### A message, part by part -/
/-! ### Taking over -/
def knB (s : StD) : Bool := decide (0 < s.nxt.ks.length)
def tkA (s : StD) (d : UpD) : Bool := !knB s && decide (d.f.s / 64 = s.fin.s / 64)
def tkB (s : StD) (d : UpD) : Bool := knB s && decide (d.f.s / 64 = s.fin.s / 64 + 1)
def tkU (s : StD) (d : UpD) : Bool := decide (s.fin.s < d.f.s)
def tkV (s : StD) (d : UpD) : Bool := tkU s d && decide (s.new.s < d.f.s)
def tkS (s : StD) (d : UpD) : StD where
 fin := if tkU s d = true then d.f else s.fin
 new := if tkV s d = true then d.f else s.new
 now := if tkB s d = true then s.nxt else s.now
 nxt := if (tkA s d || tkB s d) = true then d.c else s.nxt
 best := zUp
 has := false
 last := if tkB s d = true then s.this else s.last
 this := if tkB s d = true then 0 else s.this
 forced := s.forced
def tkP (s : StD) (d : UpD) (p : StP) (q : UpP) : StP where
 fin := if tkU s d = true then q.f else p.fin
 new := if tkV s d = true then q.f else p.new
 now := if tkB s d = true then p.nxt else p.now
 nxt := if (tkA s d || tkB s d) = true then q.c else p.nxt
 best := nU
theorem nU_in (n : Nat) (W : World) : upIn n W zUp nU := ⟨jdj _ _, jdj _ _, jdj _ _, jdj _ _, jdj _ _⟩
theorem tk_in {n : Nat} {W : World} {s : StD} {d : UpD} {p : StP} {q : UpP} (h : stIn n W s p) (g : upIn n W d q) : stIn n W (tkS s d) (tkP s d p q) := by
 obtain ⟨h1, h2, h3, h4, h5⟩ := h
 obtain ⟨g1, g2, g3, g4, g5⟩ := g
 refine ⟨?_, ?_, ?_, ?_, nU_in _ _⟩
 ·show slS n W (if tkU s d = true then q.f else p.fin).a (if tkU s d = true then d.f else s.fin).br
  split <;> assumption
 ·show slS n W (if tkV s d = true then q.f else p.new).a (if tkV s d = true then d.f else s.new).br
  split <;> assumption
 ·show slS n W (if tkB s d = true then p.nxt else p.now).a (if tkB s d = true then s.nxt else s.now).ks
  split <;> assumption
 ·show slS n W (if (tkA s d || tkB s d) = true then q.c else p.nxt).a (if (tkA s d || tkB s d) = true then d.c else s.nxt).ks
  split <;> assumption
theorem tk_sz {s : StD} {d : UpD} (h : szT s) (g : szU d) : szT (tkS s d) := by
 obtain ⟨h1, h2, h3, h4, h5⟩ := h
 obtain ⟨g1, g2, g3, g4, g5⟩ := g
 refine ⟨?_, ?_, ?_, ?_, zT_sz.2.2.2.2⟩
 ·show szL (if tkU s d = true then d.f else s.fin)
  split <;> assumption
 ·show szL (if tkV s d = true then d.f else s.new)
  split <;> assumption
 ·show szC (if tkB s d = true then s.nxt else s.now)
  split <;> assumption
 ·show szC (if (tkA s d || tkB s d) = true then d.c else s.nxt)
  split <;> assumption
theorem stV_tk (s : StD) (d : UpD) (p : StP) (q : UpP) : stV (tkS s d) (tkP s d p q) = st9 (if tkU s d = true then ltV d.f q.f else ltV s.fin p.fin) (if tkV s d = true then ltV d.f q.f else ltV s.new p.new) (if tkB s d = true then cmV s.nxt p.nxt else cmV s.now p.now) (if (tkA s d || tkB s d) = true then cmV d.c q.c else cmV s.nxt p.nxt) (upV zUp nU) false (if tkB s d = true then s.this else s.last) (if tkB s d = true then 0 else s.this) s.forced := by
 rw [stV_st9]
 unfold tkS tkP
 dsimp only
 congr 1
 all_goals (split <;> rfl)
/-! ### What is forced -/
end Go.Proofs.YtoddangedbefgabGreatDoor
