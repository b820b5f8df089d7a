/- Lemmas: A text's blocks, by the reference's and by the program's way: they are the same. Trees of chunks, said plainly: levels, what stands behind, branches, climbing. No condition. The reference's Sum, at this translation. -/
import Derived.Test.YtoddangedbefgabGreatDoorM20
import Derived.Test.YtoddangedbefgabGreatDoorM25
set_option maxRecDepth 20000
set_option maxHeartbeats 2000000
namespace Go.Proofs.YtoddangedbefgabGreatDoor
open Go.RowKit Go.Sort
theorem jfc (t : ByteArray) (a b j : Nat) (hb : b ≤ t.size) (hj : a + j < b) : s_bt (t.extract a b) j = s_bt t (a + j) := by
 have e : t.data.size = t.size := rfl
 unfold s_bt
 rw [ByteArray.data_extract]
 have h1 : j < (t.data.extract a b).size := by rw [Array.size_extract]; omega
 have h2 : a + j < t.data.size := by omega
 simp only [Array.getD, h1, h2, dite_true]
 show (((t.data.extract a b)[j]'h1).toNat : Int) = ((t.data[a + j]'h2).toNat : Int)
 rw [Array.getElem_extract]
theorem jgg (s t : ByteArray) (j : Nat) (hj : j < s.size + t.size) : s_bt (s ++ t) j = if j < s.size then s_bt s j else s_bt t (j - s.size) := by
 unfold s_bt
 rw [ByteArray.data_append]
 have e : s.data.size = s.size := rfl
 have e2 : t.data.size = t.size := rfl
 by_cases h : j < s.size
 ·rw [if_pos h]
  simp [Array.getD, h, e, e2, hj]
 ·rw [if_neg h]
  simp [Array.getD, h, e, e2, hj, Array.getElem_append, show j - s.size < t.size by omega]
theorem bt_zeros (m j : Nat) (hj : j < m) : s_bt ⟨(Lib.repeatL [0] m).toArray⟩ j = 0 := by
 have e : ∀ m, Lib.repeatL ([0] : List UInt8) m = List.replicate m 0 := fun m => by
  induction m with
  | zero => rfl
  | succ m ih => rw [Lib.repeatL, ih]; rfl
 unfold s_bt
 rw [e]
 simp [Array.getD, hj]
theorem bt_len (n j : Nat) (hj : j < 8) : s_bt (lenOf n) j = lbAt n j := by
 have hl : j < (jbk 8 (lbAt n)).length := by rw [jbf]; exact hj
 unfold s_bt
 have e : (jbk 8 (lbAt n)).toArray.getD j 0 = (jbk 8 (lbAt n))[j]'hl := by simp [Array.getD, hl]
 show (((jbk 8 (lbAt n)).toArray.getD j 0).toNat : Int) = lbAt n j
 rw [e, jdr 8 _ (lb_bd n) j hl]
theorem len_size (n : Nat) : (lenOf n).size = 8 := by
 show (jbk 8 _).toArray.size = 8
 rw [List.size_toArray, jbf]
theorem jfu (t : ByteArray) : t.size = 64 * jbp t + t.size % 64 := by unfold jbp; omega
theorem rest_eq (t : ByteArray) : (jfh t).size = t.size % 64 := by
 have := jfu t
 unfold jfh; rw [ByteArray.size_extract]; omega
theorem bt_last (t : ByteArray) (j : Nat) (hj : j < (jby t).size) : s_bt (jby t) j = pAt t (64 * jbp t + j) := by
 have hw := jfu t
 have hr := rest_eq t
 unfold jby at hj ⊢
 rw [fill_size, hr] at hj
 unfold jhg
 obtain ⟨z, hz⟩ : ∃ z, zn (t.size % 64) = z := ⟨_, rfl⟩
 have hpa : ∀ k, pAt t k = if k < t.size then s_bt t k else if k = t.size then 128 else if k < t.size + 1 + z then 0 else lbAt t.size (k - (t.size + 1 + z)) := fun k => by rw [pAt, hz]
 rw [hpa, hr, hz]
 rw [hz] at hj
 have s1 : (⟨#[128]⟩ : ByteArray).size = 1 := rfl
 rw [jgg _ _ j (by rw [ByteArray.size_append, ByteArray.size_append, jga, len_size, s1, hr]; omega), ByteArray.size_append, ByteArray.size_append, jga, s1, hr]
 by_cases h3 : j < t.size % 64 + 1 + z
 ·rw [if_pos h3, jgg _ _ j (by rw [ByteArray.size_append, jga, s1, hr]; omega), ByteArray.size_append, s1, hr]
  by_cases h2 : j < t.size % 64 + 1
  ·rw [if_pos h2, jgg _ _ j (by rw [s1, hr]; omega), hr]
   by_cases h1 : j < t.size % 64
   ·rw [if_pos h1, if_pos (by omega)]
    unfold jfh
    exact jfc t _ _ j (Nat.le_refl _) (by omega)
   ·rw [if_neg h1, if_neg (by omega), if_pos (by omega), show j - t.size % 64 = 0 by omega]
    rfl
  ·rw [if_neg h2, if_neg (by omega), if_neg (by omega), if_pos (by omega)]
   exact bt_zeros z _ (by omega)
 ·rw [if_neg h3, if_neg (by omega), if_neg (by omega), if_neg (by omega), bt_len _ _ (by omega)]
  congr 1
  omega
theorem pN_is (t : ByteArray) : pN t = 64 * (jbp t + (jby t).size / 64) := by
 have hw := jfu t
 have hl := (last_size t).1
 have hr := rest_eq t
 have hs : (jby t).size = t.size % 64 + 1 + zn (t.size % 64) + 8 := by unfold jby; rw [fill_size, hr]
 unfold pN
 omega
def pw (t : ByteArray) (i : Nat) : Nat → Int := jhk fun j => pAt t (64 * i + j)
theorem blk_head (t : ByteArray) (i j : Nat) (hi : i < jbp t) (hj : j < 16) : blk (jei t) i j = pw t i j := by
 have hw := jfu t
 have hz : (jei t).size = 64 * jbp t := by rw [jei, ByteArray.size_extract]; omega
 unfold blk pw
 rw [word_is]
 unfold jhk
 have e : ∀ k, k < 64 → s_bt ((jei t).extract (64 * i) (64 * i + 64)) k = pAt t (64 * i + k) := fun k hk => by
  rw [jfc _ _ _ k (by omega) (by omega)]
  unfold jei
  rw [jfc t 0 _ _ (by omega) (by omega), Nat.zero_add, pAt, if_pos (by omega)]
 rw [e _ (by omega), e _ (by omega), e _ (by omega), e _ (by omega)]
theorem blk_last (t : ByteArray) (i j : Nat) (hi : i < (jby t).size / 64) (hj : j < 16) : blk (jby t) i j = pw t (jbp t + i) j := by
 unfold blk pw
 rw [word_is]
 unfold jhk
 have e : ∀ k, k < 64 → s_bt ((jby t).extract (64 * i) (64 * i + 64)) k = pAt t (64 * (jbp t + i) + k) := fun k hk => by
  rw [jfc _ _ _ k (by omega) (by omega), bt_last t _ (by omega)]
  congr 1
  omega
 rw [e _ (by omega), e _ (by omega), e _ (by omega), e _ (by omega)]
def jff (t : ByteArray) : Nat → Ei
 | 0 => first8
 | k + 1 => jcz (jff t k) (jbb (pw t k))
theorem fold_bls (t x : ByteArray) (n : Nat) : ∀ k, (∀ i, i < k → ∀ j, j < 16 → blk x i j = pw t (n + i) j) → (bls x k).foldl (fun v b => jcz v (jbb b)) (jff t n) = jff t (n + k)
 | 0, _ => rfl
 | k + 1, h => by
  rw [bls_succ, List.foldl_append, fold_bls t x n k (fun i hi => h i (by omega))]
  show jcz (jff t (n + k)) (jbb (blk x k)) = jcz (jff t (n + k)) (jbb (pw t (n + k)))
  rw [spread_ext _ _ (h k (by omega))]
theorem fold_same (t : ByteArray) : jgz (jgk t) = jff t (jbp t + (jby t).size / 64) := by
 unfold jgz jgk
 rw [List.foldl_append]
 have h1 := fold_bls t (jei t) 0 (jbp t) (fun i hi j hj => by rw [Nat.zero_add]; exact blk_head t i j hi hj)
 have h2 := fold_bls t (jby t) (jbp t) ((jby t).size / 64) (fun i hi j hj => blk_last t i j hi hj)
 rw [Nat.zero_add] at h1
 rw [show jff t 0 = first8 from rfl] at h1
 rw [h1, h2]
def z32 : ByteArray := ⟨#[0, 0, 0, 0, 0, 0, 0, 0, 0, 0, 0, 0, 0, 0, 0, 0, 0, 0, 0, 0, 0, 0, 0, 0, 0, 0, 0, 0, 0, 0, 0, 0]⟩
def hs (x y : ByteArray) : ByteArray := jco (x ++ y)
theorem hs_size (x y : ByteArray) : (hs x y).size = 32 := jex _
theorem jdy (x y : ByteArray) : jcm [x, y] = x ++ y := by
 have h : (jcm [x, y]).data.toList = (x ++ y).data.toList := by simp [jcm, Lib.join]
 have h2 : (jcm [x, y]).data = (x ++ y).data := Array.toList_inj.1 h
 cases hj : jcm [x, y]
 cases hk : x ++ y
 rw [hj, hk] at h2
 exact congrArg ByteArray.mk h2
def zr : Nat → ByteArray
 | 0 => z32
 | k + 1 => hs (zr k) (zr k)
def lf (f : Nat → ByteArray) : Nat → Nat → ByteArray
 | 0, i => f i
 | k + 1, i => hs (lf f k (2 * i)) (lf f k (2 * i + 1))
def lvs (xs : List ByteArray) (i : Nat) : ByteArray := xs.getD i z32
def ln (n : Nat) : Nat → Nat
 | 0 => n
 | k + 1 => (ln n k + 1) / 2
theorem jfb (xs : List ByteArray) (h : ∀ x ∈ xs, x.size = 32) (i : Nat) : (lvs xs i).size = 32 := by
 unfold lvs
 rw [List.getD_eq_getElem?_getD]
 cases hx : xs[i]? with
 | none => rfl
 | some x => exact h x (List.mem_of_getElem? hx)
theorem jgv (f : Nat → ByteArray) (h : ∀ i, (f i).size = 32) : ∀ k i, (lf f k i).size = 32
 | 0, i => h i
 | _ + 1, _ => hs_size _ _
theorem zr_size : ∀ k, (zr k).size = 32
 | 0 => rfl
 | _ + 1 => hs_size _ _
def brF (f : Nat → ByteArray) (i : Nat) : Nat → Nat → List ByteArray
 | _, 0 => []
 | k, d + 1 => lf f k (i / 2 ^ k + 1 - 2 * (i / 2 ^ k % 2)) :: brF f i (k + 1) d
theorem brF_len (f : Nat → ByteArray) (i : Nat) : ∀ k d, (brF f i k d).length = d
 | _, 0 => rfl
 | k, d + 1 => by rw [brF, List.length_cons, brF_len f i (k + 1) d]
def clF (i : Nat) : Nat → ByteArray → List ByteArray → ByteArray
 | _, x, [] => x
 | k, x, y :: r => clF i (k + 1) (if i / 2 ^ k % 2 = 0 then hs x y else hs y x) r
theorem clF_snoc (i : Nat) (y : ByteArray) : ∀ (r : List ByteArray) (k : Nat) (x : ByteArray), clF i k x (r ++ [y]) = if i / 2 ^ (k + r.length) % 2 = 0 then hs (clF i k x r) y else hs y (clF i k x r)
 | [], k, x => rfl
 | z :: r, k, x => by
  show clF i (k + 1) _ (r ++ [y]) = _
  rw [clF_snoc i y r (k + 1), List.length_cons, show k + 1 + r.length = k + (r.length + 1) by omega]
  rfl
theorem clF_size (i : Nat) : ∀ (r : List ByteArray) (k : Nat) (x : ByteArray), x.size = 32 → (clF i k x r).size = 32
 | [], _, _, h => h
 | y :: r, k, x, _ => by
  rw [clF]
  split <;> exact clF_size i r (k + 1) _ (hs_size _ _)
def rt8 (xs : List ByteArray) (d : Int) : Bool := decide (0 ≤ d ∧ d ≤ 10 ∧ xs.length ≤ 2 ^ d.toNat ∧ xs.length ≤ 256 ∧ ∀ x ∈ xs, x.size = 32)
theorem jfm (xs : List ByteArray) (d : Int) : rt8 xs d = true ↔ 0 ≤ d ∧ d ≤ 10 ∧ xs.length ≤ 2 ^ d.toNat ∧ xs.length ≤ 256 ∧ ∀ x ∈ xs, x.size = 32 := decide_eq_true_iff
theorem ln_le : ∀ (n k : Nat), ln n k ≤ n
 | _, 0 => Nat.le_refl _
 | n, k + 1 => by
  have := ln_le n k
  show (ln n k + 1) / 2 ≤ n
  omega
theorem pAt_bd (t : ByteArray) (k : Nat) : 0 ≤ pAt t k ∧ pAt t k < 256 := by
 unfold pAt
 split
 ·exact jfl t k
 ·split
  ·decide
  ·split
   ·decide
   ·exact lb_bd _ _
theorem fl_succ' (k : Nat) (f : Nat → Value) : fl (k + 1) f = fl k f ++ [f k] := by simp [fl, List.range_succ]
theorem four_new (w : World) (x y z u : Value) (t : TypeId) : ∀ j v, [x, y, z, u][j]? = some v → (w.alloc (.cells #[x, y, z, u] t)).cell? ((⟨w.heap.size, 0, none⟩ : Addr).add j) = some v := by
 intro j v hj
 match j, hj with
 | 0, hj => simp at hj; subst hj; simp [Addr.add]
 | 1, hj => simp at hj; subst hj; simp [Addr.add]
 | 2, hj => simp at hj; subst hj; simp [Addr.add]
 | 3, hj => simp at hj; subst hj; simp [Addr.add]
theorem owns_below' {w w' : World} {b : Nat} {e : TypeId} {size : Nat} {v : Value} {n : Nat} {xs : List Value} (h : w.ownsRow b e size v n xs) (hb : Below w.heap.size w w') : w'.ownsRow b e size v n xs :=
 h.kept (row := none) ⟨hb.os, hb.tape, hb.output, hb.size, fun k hk _ => hb.block k hk⟩ (by cases v.ownBlock <;> simp)
theorem Fw.grown' {n N : Nat} {g : Nat → Value} {W W' : World} {row : Option Nat} (k : Fw n N g W) (hg : W.grownBy W' row) (hne : some n ≠ row) : Fw n N g W' := by
 have hb : W'.heap[n]? = W.heap[n]? := hg.block n k.z hne
 refine ⟨Nat.lt_of_lt_of_le k.z hg.size, fun j hj => ?_, fun o => ?_⟩
 ·rw [← k.c j hj]; simp only [World.cell?, hb]
 ·rw [← k.f o]; simp only [World.frozen?, hb]
structure JS (V : World) (z m : Nat) (y d0 d1 d2 d3 : Int) (u6 : Value) (S : Nat → Bool) (x28 x29 x30 x31 x32 x33 x34 x35 x36 x37 x38 x39 x40 x41 x42 x43 x44 x45 x46 x47 x48 : Value) (W : World) : Prop where
 e : Below V.heap.size V W
 f0 : S 0 = true → x28 = u6
 f1 : S 1 = true → x29 = .int .i64 (m : Int)
 f2 : S 2 = true → x30 = .pointer (some ⟨z, m, none⟩)
 f3 : S 3 = true → x31 = .int .u32 y
 f4 : S 4 = true → x32 = .int .u32 (y / 16777216)
 f5 : S 5 = true → x33 = .int .u8 d0
 f6 : S 6 = true → x34 = .int .i64 (m : Int)
 f7 : S 7 = true → x35 = .pointer (some ⟨z, m, none⟩)
 f8 : S 8 = true → x36 = .int .u32 y
 f9 : S 9 = true → x37 = .int .u32 (y / 65536)
 f10 : S 10 = true → x38 = .int .u8 d1
 f11 : S 11 = true → x39 = .int .i64 (m : Int)
 f12 : S 12 = true → x40 = .pointer (some ⟨z, m, none⟩)
 f13 : S 13 = true → x41 = .int .u32 y
 f14 : S 14 = true → x42 = .int .u32 (y / 256)
 f15 : S 15 = true → x43 = .int .u8 d2
 f16 : S 16 = true → x44 = .int .i64 (m : Int)
 f17 : S 17 = true → x45 = .pointer (some ⟨z, m, none⟩)
 f18 : S 18 = true → x46 = .int .u32 y
 f19 : S 19 = true → x47 = .int .u8 d3
 f20 : S 20 = true → ∃ q, x48 = .slice (some ⟨q, 0, none⟩) 4 4 ∧ V.heap.size ≤ q ∧ q < W.heap.size ∧ ∀ j u, [Value.int .u8 d0, .int .u8 d1, .int .u8 d2, .int .u8 d3][j]? = some u → W.cell? ((⟨q, 0, none⟩ : Addr).add j) = some u
theorem JS.grow {V : World} {z m : Nat} {y d0 d1 d2 d3 : Int} {u6 : Value} {S : Nat → Bool} {x28 x29 x30 x31 x32 x33 x34 x35 x36 x37 x38 x39 x40 x41 x42 x43 x44 x45 x46 x47 x48 : Value} {W W' : World} (h : JS V z m y d0 d1 d2 d3 u6 S x28 x29 x30 x31 x32 x33 x34 x35 x36 x37 x38 x39 x40 x41 x42 x43 x44 x45 x46 x47 x48 W) (hb : Below W.heap.size W W') : JS V z m y d0 d1 d2 d3 u6 S x28 x29 x30 x31 x32 x33 x34 x35 x36 x37 x38 x39 x40 x41 x42 x43 x44 x45 x46 x47 x48 W' :=
 ⟨jaa h.e h.e.size hb, h.f0, h.f1, h.f2, h.f3, h.f4, h.f5, h.f6, h.f7, h.f8, h.f9, h.f10, h.f11, h.f12, h.f13, h.f14, h.f15, h.f16, h.f17, h.f18, h.f19, fun s => (h.f20 s).imp fun _ ⟨j1, j0, j2, j3⟩ => ⟨j1, j0, Nat.lt_of_lt_of_le j2 hb.size, fun j u hj => (hb.cell (p := Addr.add ⟨_, 0, none⟩ j) (by rw [Addr.add_mid]; exact j2)).trans (j3 j u hj)⟩⟩
theorem jfz (t : ByteArray) (ht : t.size ≤ 100000) (w : World) :
  Calls Tryz.prog 35 #[.string t] w fun e w' => e = .returned (.string (jco t)) ∧ Below w.heap.size w w' := by
 go_enter Tryz.func35, Tryz.ntmps35
 go_wp2_with fail
 have B0 : Below w.heap.size w (w.alloc (.cells first8.l 115)) := (Below.refl _ w).alloc (Nat.le_refl _) _
 have H0 : Fw w.heap.size 8 (fun j => .int .u32 ((jff t 0).at j)) (w.alloc (.cells first8.l 115)) := Fw.lit _ _ rfl rfl
 refine (rpadded_any t ht _).mono ?_
 rintro e w1 ⟨g, cap, rfl, P1, hg, B1⟩
 have H1 := H0.below B1
 have E1 := jaa B0 B0.size B1
 obtain ⟨z, hz⟩ : ∃ z, w.heap.size = z := ⟨_, rfl⟩
 have HZ : Hid (w.heap.size = z) := hz
 have hzg : w.heap.size < g := by simp at hg; omega
 rw [hz] at H1 E1 hzg ⊢
 clear hz B0 H0 B1 hg
 obtain ⟨K, hK⟩ : ∃ K, jbp t + (jby t).size / 64 = K := ⟨_, rfl⟩
 have hpn := pN_is t
 rw [hK] at hpn
 have HS : Hid (jgz (jgk t) = jff t K) := by
  show _ = _
  rw [fold_same, hK]
 have hKb : K ≤ 1600 := by
  have h1 := (last_size t).2
  have h2 : jbp t ≤ 1563 := by unfold jbp; omega
  omega
 rw [hpn] at P1 ⊢
 clear hK hpn
 go_wp2
 go_loopg [5] K (fun gk i wr => ∃ k : Nat, k + gk = K ∧ i = .int .i64 ((64 * k : Nat) : Int) ∧ Below z w wr ∧ Fw z 8 (fun j => .int .u32 ((jff t k).at j)) wr ∧ Bs g (64 * K) cap (fun j => .int .u8 (pAt t j)) wr)
 case atStart => exact ⟨0, by omega, rfl, E1, H1, P1⟩
 case round =>
  clear H1 E1 P1
  obtain ⟨k, hk, rfl, BW, CH, CP⟩ := hrel
  by_cases hlt : k < K
  ·obtain ⟨p, hp⟩ : ∃ p, 64 * k = p := ⟨_, rfl⟩
   obtain ⟨q, hq⟩ : ∃ q, p + 64 = q := ⟨_, rfl⟩
   obtain ⟨u, hu⟩ : ∃ u, jff t k = u := ⟨_, rfl⟩
   have HU : Hid (jff t k = u) := hu
   rw [hp]
   rw [hu] at CH
   have hnc := CP.nc
   have l0 : (p : Int) < 64 * (K : Int) := by omega
   have wq : IntKind.i64.wrap ((p : Int) + 64) = q := by rw [IntKind.wrap_i64]; omega
   have l1 : p ≤ q := by omega
   have l2 : q ≤ 64 * K := by omega
   have l3 : q ≤ cap := by omega
   have l1' : (p : Int) ≤ q := by omega
   have l2' : (q : Int) ≤ 64 * (K : Int) := by omega
   have l3' : (q : Int) ≤ cap := by omega
   have hqp : q - p = 64 := by omega
   have hcp : ¬ cap = p := by omega
   have f0 : wr.cell? ⟨z, 0, none⟩ = some (.int .u32 u.a) := CH.c 0 (by decide)
   have f1 : wr.cell? ⟨z, 1, none⟩ = some (.int .u32 u.b) := CH.c 1 (by decide)
   have f2 : wr.cell? ⟨z, 2, none⟩ = some (.int .u32 u.c) := CH.c 2 (by decide)
   have f3 : wr.cell? ⟨z, 3, none⟩ = some (.int .u32 u.d) := CH.c 3 (by decide)
   have f4 : wr.cell? ⟨z, 4, none⟩ = some (.int .u32 u.e) := CH.c 4 (by decide)
   have f5 : wr.cell? ⟨z, 5, none⟩ = some (.int .u32 u.f) := CH.c 5 (by decide)
   have f6 : wr.cell? ⟨z, 6, none⟩ = some (.int .u32 u.g) := CH.c 6 (by decide)
   have f7 : wr.cell? ⟨z, 7, none⟩ = some (.int .u32 u.h) := CH.c 7 (by decide)
   have KT : ∀ W : World, Below wr.heap.size wr W → Calls Tryz.prog 73 #[.agg u.l, .slice (some ⟨g, p, none⟩) 64 (cap - p)] W fun e w' => e = .returned (.agg (jcz u (jbb (pw t k))).l) ∧ Below W.heap.size W w' := fun W hb => by
    have := z_rtake_any u g p (cap - p) (fun j => pAt t (p + j)) (fun j => pAt_bd t _) W (Nat.lt_of_lt_of_le CP.z hb.size) (fun j hj => (hb.cell (p := ⟨g, p + j, none⟩) CP.z).trans (CP.c (p + j) (by omega)))
    rw [← hp] at this ⊢
    exact this
   obtain ⟨y, hy⟩ : ∃ y, jcz u (jbb (pw t k)) = y := ⟨_, rfl⟩
   rw [hy] at KT
   have HY : Hid (jff t (k + 1) = y) := by
    show jcz (jff t k) (jbb (pw t k)) = y
    rw [hu, hy]
   have HT : Hid (∀ W : World, _) := KT
   have HX : Hid (_ ∧ _ ∧ _) := ⟨BW, CH, CP⟩
   clear hy hu KT BW CH CP
   go_wp2
   have k0 := cell_regrown f0
   have k1 := cell_regrown f1
   have k2 := cell_regrown f2
   have k3 := cell_regrown f3
   have k4 := cell_regrown f4
   have k5 := cell_regrown f5
   have k6 := cell_regrown f6
   have k7 := cell_regrown f7
   have cT : ∀ d os, Calls Tryz.prog 73 #[.agg u.l, .slice (some ⟨g, p, none⟩) 64 (cap - p)] (grow (redrawn wr d) os) fun e w'' => e = .returned (.agg y.l) ∧ ∃ p : Regrown, w'' = grow (redrawn wr p.d) p.os := fun d os => Calls.regrown_of (HT.out _ (below_regrown wr d os))
   refine jar 7 (by kernel_rfl) (by kernel_rfl) ?_
   simp only [List.take_succ_cons, List.take_zero, List.drop_succ_cons, List.drop_zero]
   iterate 6 (quiet_step (fail))
   quiet_step (exact cT _ _)
   refine wpQuiet_nil ?_
   intro w8 hw8
   have hb8 : Below wr.heap.size wr w8 := by
    obtain ⟨p, rfl⟩ := hw8
    exact below_regrown _ _ _
   obtain ⟨BW, CH, CP⟩ := HX.out
   have H8 := CH.below hb8
   have P8 := CP.below hb8
   have G8 := jaa BW (Nat.le_of_lt CH.z) hb8
   clear hw8 hb8 f0 k0 f1 k1 f2 k2 f3 k3 f4 k4 f5 k5 f6 k6 f7 k7 cT HT HX BW CH CP
   have g0 := H8.c 0 (by decide)
   have g1 := H8.c 1 (by decide)
   have g2 := H8.c 2 (by decide)
   have g3 := H8.c 3 (by decide)
   have g4 := H8.c 4 (by decide)
   have g5 := H8.c 5 (by decide)
   have g6 := H8.c 6 (by decide)
   have g7 := H8.c 7 (by decide)
   have gf := H8.f
   have N8 := H8.store (fun j => .int .u32 (y.at j))
   have HN : Hid (_ ∧ _ ∧ _) := ⟨N8, P8, G8⟩
   clear N8 P8 G8 H8
   go_wp2
   go_roundg (gk - 1)
   case measure => omega
   case rel =>
    obtain ⟨N8, P8, G8⟩ := HN.out
    refine (?_ : ∃ k2 : Nat, k2 + (gk - 1) = K ∧ _ = Value.int .i64 ((64 * k2 : Nat) : Int) ∧ Below z w (w8.setCells z 0 (fl 8 fun j => .int .u32 (y.at j))) ∧ Fw z 8 (fun j => .int .u32 ((jff t k2).at j)) (w8.setCells z 0 (fl 8 fun j => .int .u32 (y.at j))) ∧ Bs g (64 * K) cap (fun j => .int .u8 (pAt t j)) (w8.setCells z 0 (fl 8 fun j => .int .u32 (y.at j))))
    refine ⟨k + 1, by omega, by congr 1; omega, jap (Nat.le_refl _) _ _ _ G8, by rw [HY.out]; exact N8, ⟨by rw [jbv]; exact P8.z, P8.nc, fun j hj => (World.cell?_setCells_out z _ 0 w8 ⟨g, j, none⟩ (fun e => absurd e (by dsimp only; omega))).trans (P8.c j hj), fun j hj => by rw [World.cell?_setCells_out z _ 0 w8 ⟨g, j, none⟩ (fun e => absurd e (by dsimp only; omega))]; exact P8.s j hj, fun j hj => by rw [World.frozen?_setCells]; exact P8.fr j hj⟩⟩
  ·have hk2 : k = K := by omega
   subst hk2
   clear hlt
   have l0 : ¬ ((64 * k : Nat) : Int) < 64 * (k : Int) := by omega
   obtain ⟨u, hu⟩ : ∃ u, jff t k = u := ⟨_, rfl⟩
   have HU : Hid (jco t = textOf u) := by
    show _ = _
    rw [jco, HS.out, hu]
   rw [hu] at CH
   clear hu CP
   obtain ⟨i0, hi0, hz0, hz1, hz2⟩ := info_parts jgd
   go_wp2
   go_loopg [6, 7] 8 (fun gk v i wr => ∃ m : Nat, m + gk = 8 ∧ i = .int .i64 m ∧ Below z w wr ∧ Fw z 8 (fun j => .int .u32 (u.at j)) wr ∧ wr.ownsRow (z + 1) 5 1 v (4 * m) (fl (4 * m) fun j => .int .u8 (sbAt u j)))
   case atStart => exact ⟨0, rfl, rfl, BW, CH, World.ownsRow_nil _ _ _ _⟩
   case round =>
    clear BW CH
    obtain ⟨m, hm, rfl, BW, CH, hown⟩ := hrel
    have hr6 : ∀ b, u6.ownBlock = some b → z + 1 ≤ b := fun b hb => (hown.lt b hb).1
    by_cases hlt : m < 8
    ·have l1 : (m : Int) < 8 := by omega
     have c0 := CH.c m hlt
     obtain ⟨y, hy⟩ : ∃ y, u.at m = y := ⟨_, rfl⟩
     rw [hy] at c0
     obtain ⟨d0, hd0⟩ : ∃ d, IntKind.u8.wrap (y / 16777216) = d := ⟨_, rfl⟩
     obtain ⟨d1, hd1⟩ : ∃ d, IntKind.u8.wrap (y / 65536) = d := ⟨_, rfl⟩
     obtain ⟨d2, hd2⟩ : ∃ d, IntKind.u8.wrap (y / 256) = d := ⟨_, rfl⟩
     obtain ⟨d3, hd3⟩ : ∃ d, IntKind.u8.wrap y = d := ⟨_, rfl⟩
     have HD : Hid (sbAt u (4 * m) = d0 ∧ sbAt u (4 * m + 1) = d1 ∧ sbAt u (4 * m + 2) = d2 ∧ sbAt u (4 * m + 3) = d3) := by
      unfold sbAt
      rw [show 4 * m / 4 = m by omega, show (4 * m + 1) / 4 = m by omega, show (4 * m + 2) / 4 = m by omega, show (4 * m + 3) / 4 = m by omega, show 4 * m % 4 = 0 by omega, show (4 * m + 1) % 4 = 1 by omega, show (4 * m + 2) % 4 = 2 by omega, show (4 * m + 3) % 4 = 3 by omega, hy, ← hd0, ← hd1, ← hd2, ← hd3]
      simp only [IntKind.wrap_u8]
      exact ⟨rfl, rfl, rfl, by show y / 1 % 256 = _; rw [Int.ediv_one]⟩
     have hzr := CH.z
     go_wp2
     refine jaw 21 (fun S aa W => ∃ x28 x29 x30 x31 x32 x33 x34 x35 x36 x37 x38 x39 x40 x41 x42 x43 x44 x45 x46 x47 x48 : Value, aa = { tmps := #[Value.string t, undef, Value.string { data := #[] }, Value.pointer (some { block := z, off := 0 }), Value.slice (some { block := g, off := 0 }) (64 * k) cap, Value.int IntKind.i64 (64 * ↑k), u6, Value.int IntKind.i64 ↑m, Value.agg #[Value.int IntKind.u32 1779033703, Value.int IntKind.u32 3144134277, Value.int IntKind.u32 1013904242, Value.int IntKind.u32 2773480762, Value.int IntKind.u32 1359893119, Value.int IntKind.u32 2600822924, Value.int IntKind.u32 528734635, Value.int IntKind.u32 1541459225], Value.string t, Value.slice (some { block := g, off := 0 }) (64 * k) cap, Value.int IntKind.i64 (64 * ↑k), Value.slice (some { block := g, off := 0 }) (64 * k) cap, Value.int IntKind.i64 (64 * ↑k), Value.bool false, u15, u16, u17, u18, u19, u20, u21, u22, u23, Value.int IntKind.i64 ↑m, Value.bool true, u26, u27, x28, x29, x30, x31, x32, x33, x34, x35, x36, x37, x38, x39, x40, x41, x42, x43, x44, x45, x46, x47, x48, u49, undef, undef], defers := [] } ∧ JS wr z m y d0 d1 d2 d3 u6 S x28 x29 x30 x31 x32 x33 x34 x35 x36 x37 x38 x39 x40 x41 x42 x43 x44 x45 x46 x47 x48 W) (by kernel_rfl) (by kernel_rfl) ?_ ?_ ?_
     ·exact ⟨u28, u29, u30, u31, u32, u33, u34, u35, u36, u37, u38, u39, u40, u41, u42, u43, u44, u45, u46, u47, u48, rfl, ⟨(Below.refl _ wr).drew, nofun, nofun, nofun, nofun, nofun, nofun, nofun, nofun, nofun, nofun, nofun, nofun, nofun, nofun, nofun, nofun, nofun, nofun, nofun, nofun, nofun⟩⟩
     ·intro i o S aa W hin hi hun hJ hall K hK
      obtain ⟨x28, x29, x30, x31, x32, x33, x34, x35, x36, x37, x38, x39, x40, x41, x42, x43, x44, x45, x46, x47, x48, rfl, h⟩ := hJ
      have hlt : i < 21 := hin
      have hcase : i = 0 ∨ i = 1 ∨ i = 2 ∨ i = 3 ∨ i = 4 ∨ i = 5 ∨ i = 6 ∨ i = 7 ∨ i = 8 ∨ i = 9 ∨ i = 10 ∨ i = 11 ∨ i = 12 ∨ i = 13 ∨ i = 14 ∨ i = 15 ∨ i = 16 ∨ i = 17 ∨ i = 18 ∨ i = 19 ∨ i = 20 := by omega
      rcases hcase with rfl | rfl | rfl | rfl | rfl | rfl | rfl | rfl | rfl | rfl | rfl | rfl | rfl | rfl | rfl | rfl | rfl | rfl | rfl | rfl | rfl
      all_goals (have ho := (Option.some.inj hi).symm; subst ho; clear hi hlt hin)
      ·go_simp
       exact hK _ _ ⟨_, _, _, _, _, _, _, _, _, _, _, _, _, _, _, _, _, _, _, _, _, rfl, { h with f0 := fun _ => rfl }⟩
      ·go_simp
       exact hK _ _ ⟨_, _, _, _, _, _, _, _, _, _, _, _, _, _, _, _, _, _, _, _, _, rfl, { h with f1 := fun _ => rfl }⟩
      ·have s_1 : S 1 = true := hall ⟨1, .data⟩ (by simp) rfl
       obtain rfl := h.f1 s_1
       go_simp
       exact hK _ _ ⟨_, _, _, _, _, _, _, _, _, _, _, _, _, _, _, _, _, _, _, _, _, rfl, { h with f2 := fun _ => rfl }⟩
      ·have s_2 : S 2 = true := hall ⟨2, .data⟩ (by simp) rfl
       obtain rfl := h.f2 s_2
       have cW := (h.e.cell (p := ⟨z, m, none⟩) hzr).trans c0
       go_simp
       exact hK _ _ ⟨_, _, _, _, _, _, _, _, _, _, _, _, _, _, _, _, _, _, _, _, _, rfl, { h with f3 := fun _ => rfl }⟩
      ·have s_3 : S 3 = true := hall ⟨3, .data⟩ (by simp) rfl
       obtain rfl := h.f3 s_3
       go_simp
       exact hK _ _ ⟨_, _, _, _, _, _, _, _, _, _, _, _, _, _, _, _, _, _, _, _, _, rfl, { h with f4 := fun _ => rfl }⟩
      ·have s_4 : S 4 = true := hall ⟨4, .data⟩ (by simp) rfl
       obtain rfl := h.f4 s_4
       go_simp
       exact hK _ _ ⟨_, _, _, _, _, _, _, _, _, _, _, _, _, _, _, _, _, _, _, _, _, rfl, { h with f5 := fun _ => rfl }⟩
      ·go_simp
       exact hK _ _ ⟨_, _, _, _, _, _, _, _, _, _, _, _, _, _, _, _, _, _, _, _, _, rfl, { h with f6 := fun _ => rfl }⟩
      ·have s_6 : S 6 = true := hall ⟨6, .data⟩ (by simp) rfl
       obtain rfl := h.f6 s_6
       go_simp
       exact hK _ _ ⟨_, _, _, _, _, _, _, _, _, _, _, _, _, _, _, _, _, _, _, _, _, rfl, { h with f7 := fun _ => rfl }⟩
      ·have s_7 : S 7 = true := hall ⟨7, .data⟩ (by simp) rfl
       obtain rfl := h.f7 s_7
       have cW := (h.e.cell (p := ⟨z, m, none⟩) hzr).trans c0
       go_simp
       exact hK _ _ ⟨_, _, _, _, _, _, _, _, _, _, _, _, _, _, _, _, _, _, _, _, _, rfl, { h with f8 := fun _ => rfl }⟩
      ·have s_8 : S 8 = true := hall ⟨8, .data⟩ (by simp) rfl
       obtain rfl := h.f8 s_8
       go_simp
       exact hK _ _ ⟨_, _, _, _, _, _, _, _, _, _, _, _, _, _, _, _, _, _, _, _, _, rfl, { h with f9 := fun _ => rfl }⟩
      ·have s_9 : S 9 = true := hall ⟨9, .data⟩ (by simp) rfl
       obtain rfl := h.f9 s_9
       go_simp
       exact hK _ _ ⟨_, _, _, _, _, _, _, _, _, _, _, _, _, _, _, _, _, _, _, _, _, rfl, { h with f10 := fun _ => rfl }⟩
      ·go_simp
       exact hK _ _ ⟨_, _, _, _, _, _, _, _, _, _, _, _, _, _, _, _, _, _, _, _, _, rfl, { h with f11 := fun _ => rfl }⟩
      ·have s_11 : S 11 = true := hall ⟨11, .data⟩ (by simp) rfl
       obtain rfl := h.f11 s_11
       go_simp
       exact hK _ _ ⟨_, _, _, _, _, _, _, _, _, _, _, _, _, _, _, _, _, _, _, _, _, rfl, { h with f12 := fun _ => rfl }⟩
      ·have s_12 : S 12 = true := hall ⟨12, .data⟩ (by simp) rfl
       obtain rfl := h.f12 s_12
       have cW := (h.e.cell (p := ⟨z, m, none⟩) hzr).trans c0
       go_simp
       exact hK _ _ ⟨_, _, _, _, _, _, _, _, _, _, _, _, _, _, _, _, _, _, _, _, _, rfl, { h with f13 := fun _ => rfl }⟩
      ·have s_13 : S 13 = true := hall ⟨13, .data⟩ (by simp) rfl
       obtain rfl := h.f13 s_13
       go_simp
       exact hK _ _ ⟨_, _, _, _, _, _, _, _, _, _, _, _, _, _, _, _, _, _, _, _, _, rfl, { h with f14 := fun _ => rfl }⟩
      ·have s_14 : S 14 = true := hall ⟨14, .data⟩ (by simp) rfl
       obtain rfl := h.f14 s_14
       go_simp
       exact hK _ _ ⟨_, _, _, _, _, _, _, _, _, _, _, _, _, _, _, _, _, _, _, _, _, rfl, { h with f15 := fun _ => rfl }⟩
      ·go_simp
       exact hK _ _ ⟨_, _, _, _, _, _, _, _, _, _, _, _, _, _, _, _, _, _, _, _, _, rfl, { h with f16 := fun _ => rfl }⟩
      ·have s_16 : S 16 = true := hall ⟨16, .data⟩ (by simp) rfl
       obtain rfl := h.f16 s_16
       go_simp
       exact hK _ _ ⟨_, _, _, _, _, _, _, _, _, _, _, _, _, _, _, _, _, _, _, _, _, rfl, { h with f17 := fun _ => rfl }⟩
      ·have s_17 : S 17 = true := hall ⟨17, .data⟩ (by simp) rfl
       obtain rfl := h.f17 s_17
       have cW := (h.e.cell (p := ⟨z, m, none⟩) hzr).trans c0
       go_simp
       exact hK _ _ ⟨_, _, _, _, _, _, _, _, _, _, _, _, _, _, _, _, _, _, _, _, _, rfl, { h with f18 := fun _ => rfl }⟩
      ·have s_18 : S 18 = true := hall ⟨18, .data⟩ (by simp) rfl
       obtain rfl := h.f18 s_18
       go_simp
       exact hK _ _ ⟨_, _, _, _, _, _, _, _, _, _, _, _, _, _, _, _, _, _, _, _, _, rfl, { h with f19 := fun _ => rfl }⟩
      ·have s_5 : S 5 = true := hall ⟨5, .data⟩ (by simp) rfl
       obtain rfl := h.f5 s_5
       have s_10 : S 10 = true := hall ⟨10, .data⟩ (by simp) rfl
       obtain rfl := h.f10 s_10
       have s_15 : S 15 = true := hall ⟨15, .data⟩ (by simp) rfl
       obtain rfl := h.f15 s_15
       have s_19 : S 19 = true := hall ⟨19, .data⟩ (by simp) rfl
       obtain rfl := h.f19 s_19
       go_simp
       have h1 := h.grow ((Below.refl _ W).alloc (Nat.le_refl _) (.cells #[.int .u8 d0, .int .u8 d1, .int .u8 d2, .int .u8 d3] 5))
       exact hK _ _ ⟨_, _, _, _, _, _, _, _, _, _, _, _, _, _, _, _, _, _, _, _, _, rfl, { h1 with f20 := fun _ => ⟨W.heap.size, rfl, h.e.size, by simp, four_new _ _ _ _ _ _⟩ }⟩
     ·rintro S aa W hall ⟨x28, x29, x30, x31, x32, x33, x34, x35, x36, x37, x38, x39, x40, x41, x42, x43, x44, x45, x46, x47, x48, rfl, h⟩
      obtain rfl := h.f0 (hall 0 (by decide))
      obtain rfl := h.f1 (hall 1 (by decide))
      obtain rfl := h.f2 (hall 2 (by decide))
      obtain rfl := h.f3 (hall 3 (by decide))
      obtain rfl := h.f4 (hall 4 (by decide))
      obtain rfl := h.f5 (hall 5 (by decide))
      obtain rfl := h.f6 (hall 6 (by decide))
      obtain rfl := h.f7 (hall 7 (by decide))
      obtain rfl := h.f8 (hall 8 (by decide))
      obtain rfl := h.f9 (hall 9 (by decide))
      obtain rfl := h.f10 (hall 10 (by decide))
      obtain rfl := h.f11 (hall 11 (by decide))
      obtain rfl := h.f12 (hall 12 (by decide))
      obtain rfl := h.f13 (hall 13 (by decide))
      obtain rfl := h.f14 (hall 14 (by decide))
      obtain rfl := h.f15 (hall 15 (by decide))
      obtain rfl := h.f16 (hall 16 (by decide))
      obtain rfl := h.f17 (hall 17 (by decide))
      obtain rfl := h.f18 (hall 18 (by decide))
      obtain rfl := h.f19 (hall 19 (by decide))
      obtain ⟨gg, rfl, hgg, hhg, hcg⟩ := h.f20 (hall 20 (by decide))
      have BWD := h.e
      clear h hall
      simp only [List.drop_succ_cons, List.drop_zero]
      have hown2 := owns_below' hown BWD
      have hzW : z < W.heap.size := Nat.lt_of_lt_of_le hzr BWD.size
      have BW2 := jaa BW (Nat.le_of_lt hzr) BWD
      have CH2 := CH.below BWD
      have HX : Hid (_ ∧ _) := ⟨BW2, CH2⟩
      clear hown BW BWD CH BW2 CH2 c0
      go_wp2_with (at_builtin; refine wpList_append_own _ rfl _ _ 116 rfl (z + 1) 5 i0 (.int .u8 0) 1 1 Tryz.underlying116 hi0 hz0 hz1 hz2 rfl (by decide) _ _ _ rfl hown2 ⟨gg, 0, none⟩ 4 4 [.int .u8 d0, .int .u8 d1, .int .u8 d2, .int .u8 d3] rfl rfl ?c1 ?c2 ?c3 ?c4 ?c5 ?_)
      case c1 => exact hcg
      case c2 => intro u hu; simp at hu; rcases hu with rfl | rfl | rfl | rfl <;> rfl
      case c3 => unfold maxLen; omega
      case c4 => omega
      case c5 => omega
      ·intro v' w3 hown' hgrow _
       go_wp2
       go_roundg (gk - 1)
       case measure => omega
       case rel =>
        obtain ⟨BW2, CH2⟩ := HX.out
        obtain ⟨e1, e2, e3, e4⟩ := HD.out
        refine ⟨m + 1, by omega, rfl, BW2.grown hgrow (Nat.le_of_lt hzW) (fun b hb => Nat.le_trans (by omega) (hr6 b hb)), CH2.grown' hgrow (fun e => by have := hr6 _ e.symm; omega), ?_⟩
        rw [show 4 * (m + 1) = 4 * m + 1 + 1 + 1 + 1 by omega, fl_succ', fl_succ', fl_succ', fl_succ', e1, e2, e3, e4, List.append_assoc, List.append_assoc, List.append_assoc]
        exact hown'
    ·have hk2 : m = 8 := by omega
     subst hk2
     clear hlt
     rcases hown.2 with ⟨rfl, h0⟩ | ⟨q, cp, cur, rfl, hg1, hg2, hg3, hg4, hg5, hg6⟩
     ·exact absurd h0 (by decide)
     ·have hcv := run_convert_bytes_back (P := Tryz.prog) wr 116 9 5 ⟨q, 0, none⟩ cp (jbk 32 (sbAt u)) Tryz.underlying116 Tryz.underlying5 Tryz.underlying9 (fun j hj => by
       have hj' : j < 32 := by rw [jbf] at hj; exact hj
       rw [jdr _ _ (sb_bd u)]
       exact hown.cells (g := q) rfl j _ (fl_at 32 _ j hj'))
      rw [jbf] at hcv
      clear hown hg2 hg3 hg4 hg5 hg6
      go_wp2
      go_ret
      rw [HZ.out]
      exact ⟨by rw [HU.out]; rfl, BW⟩
end Go.Proofs.YtoddangedbefgabGreatDoor
