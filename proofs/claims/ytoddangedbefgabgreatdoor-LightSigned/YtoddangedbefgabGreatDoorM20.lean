/- Lemmas: The blocks of a text, gone through: what yieldAll, blocks and the function that it hands back do at this translation. What Sum does at this translation: the sum of its parts, one behind the other. Sums reckoned round by round; the sum of parts. -/
import Derived.Test.YtoddangedbefgabGreatDoorM19
import Derived.Test.YtoddangedbefgabGreatDoorM7
set_option maxRecDepth 100000
set_option maxHeartbeats 2000000
namespace Go.Proofs.YtoddangedbefgabGreatDoor
open Go.RowKit Go.Shelf
attribute [local go_sem] Oper.semAt_some
abbrev Bk := Nat → Int
def bEnc (x : Bk) : Array Value := #[.agg (fl 16 fun j => .int .u32 (x j)).toArray]
def blk (t : ByteArray) (i : Nat) : Bk := wordAt (t.extract (64 * i) (64 * i + 64))
def bls (t : ByteArray) (k : Nat) : List Bk := (List.range k).map (blk t)
theorem bls_succ (t : ByteArray) (k : Nat) : bls t (k + 1) = bls t k ++ [blk t k] := by simp [bls, List.range_succ]
theorem bls_len (t : ByteArray) (k : Nat) : (bls t k).length = k := by simp [bls]
def TxtK (bX : Nat) (T : ByteArray) (W W' : World) : Prop := W.cell? ⟨bX, 0, none⟩ = some (.string T) → W'.cell? ⟨bX, 0, none⟩ = some (.string T)
theorem s_grown_of {W W' : World} (h : Below W.heap.size W W') : W.grownBy W' none := ⟨h.os, h.tape, h.output, h.size, fun k hk _ => h.block k hk⟩
theorem TxtK.of_below {bX : Nat} {T : ByteArray} {W W' : World} (h : Below W.heap.size W W') : TxtK bX T W W' := fun hc => (h.cell (p := ⟨bX, 0, none⟩) (block_lt_of_cell hc)).trans hc
theorem TxtK.trans {bX : Nat} {T : ByteArray} {W W' V : World} (h : TxtK bX T W W') (g : TxtK bX T W' V) : TxtK bX T W V := fun hc => g (h hc)
theorem s_room_of_none' {FN : Fence} (hd : FN.depth = none) (k : Nat) : FN.room k := fun d h => by rw [hd] at h; cases h
theorem s_yieldAny {m : Nat} (m' : Nat) {P : Program} {l : Nat} {args : Array Value} {W : World} {R : Ending → World → Prop} (h : YieldAt Fence.wide m P l args W R) : YieldAt Fence.wide m' P l args W R := by
 obtain ⟨fn, tmps, assign, body, hy, hR⟩ := h
 exact ⟨fn, tmps, assign, body, hy, hR.1, fun c cs _ => hR.2 c cs (s_room_of_none' rfl _)⟩
theorem yieldAll_in (n l bX B k N : Nat) (T t : ByteArray) (ht : t.size = 64 * k) (hk : k < 100000000000000000) (J Jx : List Bk → World → Prop) (hJ : AbidesFrom B J)
  (hY : ∀ m pre x W, J pre W → pre.length < N → YieldAt Fence.wide m Tryz.prog l (bEnc x) W fun e W' =>
   (e = .returned (.bool true) ∧ J (pre ++ [x]) W' ∧ TxtK bX T W W') ∨ (e = .returned (.bool false) ∧ Jx (pre ++ [x]) W'))
  (pre : List Bk) (W : World) (h0 : J pre W) (hN : pre.length + k ≤ N) :
  CallsIn Fence.wide n Tryz.prog 128 #[.string t, .func (.yield l) #[] #[]] W fun e W' =>
   (e = .returned (.bool true) ∧ J (pre ++ bls t k) W' ∧ TxtK bX T W W') ∨ (e = .returned (.bool false) ∧ ∃ q, q ≤ k ∧ Jx (pre ++ bls t q) W') := by
 refine callsIn_of_wp Tryz.func128 rfl trivial ?_ rfl
 simp only [Tryz.ntmps128, List.size_toArray, List.length_cons, List.length_nil, Nat.reduceAdd, Nat.reduceSub, Array.replicate_succ, Array.replicate_zero, List.push_toArray, List.append_toArray, List.nil_append, List.cons_append]
 gi_wp2
 gi_loopw [5] (fun i wr => ∃ j : Nat, j ≤ k ∧ i = .int .i64 ((64 * j : Nat) : Int) ∧ J (pre ++ bls t j) wr ∧ TxtK bX T W wr)
  (fun i _ => (64 * k - (intOf i).toNat))
 case atStart => exact ⟨0, by omega, rfl, by simpa [bls] using h0, fun h => h⟩
 case round =>
  obtain ⟨j, hj, rfl, hJs, hkt⟩ := hrel
  by_cases hlt : j < k
  ·obtain ⟨p, hp⟩ : ∃ p, 64 * j = p := ⟨_, rfl⟩
   obtain ⟨q, hq⟩ : ∃ q, p + 64 = q := ⟨_, rfl⟩
   rw [hp]
   have l0 : (p : Int) < t.size := by omega
   have wq : IntKind.i64.wrap ((p : Int) + 64) = q := by rw [IntKind.wrap_i64]; omega
   have l1 : p ≤ q := by omega
   have l2 : q ≤ t.size := by omega
   have l1' : (p : Int) ≤ q := by omega
   have l2' : (q : Int) ≤ t.size := by omega
   gi_wp2_with fail
   have hts : (t.extract p q).size = 64 := by rw [ByteArray.size_extract]; omega
   refine ⟨trivial, fun h => (by cases h), (callsIn_wide.2 (wordsOf_any (t.extract p q) hts wr)).mono ?_⟩
   rintro e w1 ⟨rfl, B1⟩
   have J1 := hJ _ _ _ none hJs (s_grown_of B1) (fun r h => by cases h)
   have hk1 := hkt.trans (TxtK.of_below (bX := bX) (T := T) B1)
   have hx : wordAt (t.extract p q) = blk t j := by rw [blk, hp, hq]
   obtain ⟨fn, tmps, assign, body, hy, hR⟩ := hY (n - 1) _ (blk t j) w1 J1 (by rw [List.length_append, bls_len]; omega)
   unfold bEnc at hy
   clear B1 hJs
   gi_wp2
   refine ⟨fun h => (by cases h), hR.mono ?_⟩
   rintro e W3 (⟨rfl, hJ3, hk3⟩ | ⟨rfl, hJx3⟩)
   ·gi_wp2
    go_roundw
    case rel => exact ⟨j + 1, by omega, by congr 1; omega, by rw [bls_succ, ← List.append_assoc]; exact hJ3, hk1.trans hk3⟩
    case measure => simp [intOf]; omega
   ·gi_wp2
    go_ret
    exact .inr ⟨rfl, j + 1, by omega, by rw [bls_succ, ← List.append_assoc]; exact hJx3⟩
  ·have hjk : j = k := by omega
   subst hjk
   have l0 : ¬ ((64 * j : Nat) : Int) < t.size := by omega
   gi_wp2
   go_ret
   exact .inl ⟨rfl, hJs, hkt⟩
def jbp (t : ByteArray) : Nat := t.size / 64
def jei (t : ByteArray) : ByteArray := t.extract 0 (64 * jbp t)
def jfh (t : ByteArray) : ByteArray := t.extract (64 * jbp t) t.size
def jby (t : ByteArray) : ByteArray := jhg (jfh t) t.size
def jgk (t : ByteArray) : List Bk := bls (jei t) (jbp t) ++ bls (jby t) ((jby t).size / 64)
theorem rest_size (t : ByteArray) : (jfh t).size < 64 := by
 unfold jfh jbp; rw [ByteArray.size_extract]; omega
theorem fill_size (r : ByteArray) (n : Nat) : (jhg r n).size = r.size + 1 + zn r.size + 8 := by
 unfold jhg
 rw [ByteArray.size_append, ByteArray.size_append, ByteArray.size_append, jga]
 rfl
theorem last_size (t : ByteArray) : (jby t).size % 64 = 0 ∧ (jby t).size ≤ 128 := by
 have := rest_size t
 unfold jby
 rw [fill_size]
 unfold zn
 omega
theorem blocks1_in (n l bX B : Nat) (t : ByteArray) (ht : t.size < 1000000000000000000) (J Jx : List Bk → World → Prop) (hJ : AbidesFrom B J)
  (hY : ∀ m pre x W, J pre W → pre.length < (jgk t).length → YieldAt Fence.wide m Tryz.prog l (bEnc x) W fun e W' =>
   (e = .returned (.bool true) ∧ J (pre ++ [x]) W' ∧ TxtK bX t W W') ∨ (e = .returned (.bool false) ∧ Jx (pre ++ [x]) W'))
  (W : World) (hc : W.cell? ⟨bX, 0, none⟩ = some (.string t)) (h0 : J [] W) :
  CallsIn Fence.wide n Tryz.prog 127 #[.func (.yield l) #[] #[], .pointer (some ⟨bX, 0, none⟩)] W fun e W' => (∃ v, e = .returned v) ∧
   ((∃ ys, ys = jgk t ∧ J ys W') ∨ (∃ pre, True ∧ Jx pre W')) := by
 have hz := last_size t
 have hrs := rest_size t
 have hw : 64 * jbp t ≤ t.size := by unfold jbp; omega
 have hal : (jgk t).length = jbp t + (jby t).size / 64 := by unfold jgk; rw [List.length_append, bls_len, bls_len]
 obtain ⟨p, hp⟩ : ∃ p, 64 * jbp t = p := ⟨_, rfl⟩
 have hm : (t.size : Int) % 64 = t.size - p := by unfold jbp at hp; omega
 have hm2 : (t.size : Int).tmod 64 = t.size - p := by rw [Int.tmod_eq_emod_of_nonneg (by omega)]; exact hm
 refine callsIn_of_wp Tryz.func127 rfl trivial ?_ rfl
 simp only [Tryz.ntmps127, List.size_toArray, List.length_cons, List.length_nil, Nat.reduceAdd, Nat.reduceSub, Array.replicate_succ, Array.replicate_zero, List.push_toArray, List.append_toArray, List.nil_append, List.cons_append]
 gi_wp2_with fail
 rw [show t.size - (t.size - p) = p by omega, show (t.size : Int) - ((t.size : Int) - p) = p by omega]
 have hhd : t.extract 0 p = jei t := by rw [jei, hp]
 have hhs : (jei t).size = 64 * jbp t := by rw [jei, ByteArray.size_extract]; omega
 have hrt : t.extract p t.size = jfh t := by rw [jfh, hp]
 refine ⟨trivial, fun h => (by cases h), (yieldAll_in (n - 1) l bX B (jbp t) (jgk t).length t (t.extract 0 p) (by rw [hhd, hhs]) (by unfold jbp; omega) J Jx hJ hY [] W h0 (by rw [hal]; simp)).mono ?_⟩
 rintro e W1 (⟨rfl, hJ1, hK1⟩ | ⟨rfl, q, _, hx⟩)
 ·have hc1 := hK1 hc
  rw [List.nil_append, hhd] at hJ1
  gi_wp2_with fail
  refine wpIn_wide.2 ?_
  have KF : Hid (∀ w : World, _) := fun w : World => filledUp_any (jfh t) t.size hrs (by omega) w
  have HJ : Hid (J (bls (jei t) (jbp t)) W1) := hJ1
  have hpt : p ≤ t.size := by omega
  have hpt' : (p : Int) ≤ t.size := by omega
  clear hJ1 h0
  have k0 := cell_regrown hc1
  have c0 := jae (w := W1) KF.out
  refine jar 7 (by kernel_rfl) (by kernel_rfl) ?_
  simp only [List.take_succ_cons, List.take_zero, List.drop_succ_cons, List.drop_zero]
  iterate 5 (quiet_step (fail))
  quiet_step (exact c0 _ _)
  quiet_step (fail)
  refine wpQuiet_nil ?_
  intro w8 hw8
  have hb8 : Below W1.heap.size W1 w8 := by
   obtain ⟨p, rfl⟩ := hw8
   exact below_regrown _ _ _
  have J8 := hJ _ _ _ none HJ.out (s_grown_of hb8) (fun r h => by cases h)
  have hla : jhg (jfh t) t.size = jby t := rfl
  have hls : (jby t).size = 64 * ((jby t).size / 64) := by omega
  clear hw8 k0 c0 KF
  rw [hla]
  go_wp2_with fail
  refine (callsIn_wide.1 (yieldAll_in 0 l bX B ((jby t).size / 64) (jgk t).length t (jby t) hls (by omega) J Jx hJ hY _ w8 J8 (by rw [hal, bls_len]; omega))).mono ?_
  rintro e W2 (⟨rfl, hJ2, _⟩ | ⟨rfl, q, _, hx⟩)
  ·go_wp2
   go_end0
   exact ⟨⟨_, rfl⟩, .inl ⟨_, rfl, hJ2⟩⟩
  ·go_wp2
   go_end0
   exact ⟨⟨_, rfl⟩, .inr ⟨_, trivial, hx⟩⟩
 ·gi_wp2
  go_end0
  exact ⟨⟨_, rfl⟩, .inr ⟨_, trivial, hx⟩⟩
theorem blocks_stops (n bX : Nat) (t : ByteArray) (ht : t.size < 1000000000000000000) (w : World) (hc : w.cell? ⟨bX, 0, none⟩ = some (.string t)) :
  SeqStopsK Fence.wide n Tryz.prog 127 #[.pointer (some ⟨bX, 0, none⟩)] bEnc (TxtK bX t) (fun ys => ys = jgk t) (fun _ => True) (jgk t).length w := fun l J Jx W hW hJ _ hY h0 => by
 refine (blocks1_in n l bX W.heap.size t ht J Jx hJ (fun m pre x W1 hj hl => s_yieldAny m (hY pre x W1 hj hl)) W ((hW.cell (p := ⟨bX, 0, none⟩) (block_lt_of_cell hc)).trans hc) h0).mono ?_
 rintro e W' ⟨he, ⟨ys, rfl, hj⟩ | ⟨pre, hp, hj⟩⟩
 ·exact ⟨he, .inl ⟨_, rfl, hj⟩⟩
 ·exact ⟨he, .inr ⟨_, hp, hj⟩⟩
theorem blocks_any (t : ByteArray) (w : World) :
  Calls Tryz.prog 111 #[.string t] w fun e w' => e = .returned (.func (.func 127) #[] #[.pointer (some ⟨w.heap.size, 0, none⟩)]) ∧ w' = w.alloc (.cells #[.string t] 9) := by
 go_enter Tryz.func111, Tryz.ntmps111
 go_wp2
 go_ret
 exact ⟨rfl, rfl⟩
end Go.Proofs.YtoddangedbefgabGreatDoor
namespace Go.Proofs.YtoddangedbefgabGreatDoor
open Go.RowKit Go.Shelf Go.Sort
attribute [local go_sem] Oper.semAt_some
def first8 : Ei := ⟨hc 0, hc 1, hc 2, hc 3, hc 4, hc 5, hc 6, hc 7⟩
def jgz (l : List Bk) : Ei := l.foldl (fun v x => jcz v (jbb x)) first8
theorem fold_snoc (l : List Bk) (x : Bk) : jgz (l ++ [x]) = jcz (jgz l) (jbb x) := by simp [jgz, List.foldl_append]
def jco (t : ByteArray) : ByteArray := textOf (jgz (jgk t))
theorem jgp {W W' : World} (h : Below W.heap.size W W') : KeepsOthers W W' :=
 ⟨h.size, fun k o hk _ => by rw [h.block k (Array.getElem?_eq_some_iff.1 hk).1]; exact hk⟩
theorem ko_setCells (b : Nat) : ∀ (vs : List Value) (o : Nat) (W : World), KeepsOthers W (W.setCells b o vs)
 | [], _, W => KeepsOthers.refl W
 | v :: r, o, W => by
  rw [World.setCells]
  exact (KeepsOthers.setCell W ⟨b, o, none⟩ v).trans (ko_setCells b r (o + 1) _)
theorem Fw.own {n N : Nat} {g : Nat → Value} {A C : World} {row : Option Nat} (h : Fw n N g A) (hN : 0 < N) (hg : A.grownBy C row) (hr : ∀ r, row = some r → ∃ o : Obj, A.heap[r]? = some o ∧ o.isCells = false) : Fw n N g C := by
 have hb : C.heap[n]? = A.heap[n]? := by
  refine hg.block n h.z (fun e => ?_)
  obtain ⟨o, ho, hc⟩ := hr n e.symm
  have := h.c 0 hN
  simp only [World.cell?, ho] at this
  cases o <;> simp_all [Obj.isCells]
 refine ⟨Nat.lt_of_lt_of_le h.z hg.size, fun j hj => ?_, fun o => ?_⟩
 ·rw [← h.c j hj]; simp only [World.cell?, hb]
 ·rw [← h.f o]; simp only [World.frozen?, hb]
theorem Laid.own {A C : World} {row : Option Nat} (h : Laid A) (hg : A.grownBy C row) (hr : ∀ r, row = some r → ∃ o : Obj, A.heap[r]? = some o ∧ o.isCells = false) : Laid C := ⟨h.k.own (by decide) hg hr, h.h.own (by decide) hg hr⟩
abbrev z16 : Array Value := #[.int .u32 0, .int .u32 0, .int .u32 0, .int .u32 0, .int .u32 0, .int .u32 0, .int .u32 0, .int .u32 0, .int .u32 0, .int .u32 0, .int .u32 0, .int .u32 0, .int .u32 0, .int .u32 0, .int .u32 0, .int .u32 0]
theorem s_sum_any (v : Value) (t : ByteArray) (ht : t.size < 1000000000000000000) (w : World) (hl : Laid w)
  (hJ : ∀ W : World, Below w.heap.size w W → Calls Tryz.prog 112 #[v, .string ⟨#[]⟩] W fun e w' => e = .returned (.string t) ∧ Below W.heap.size W w') :
  Calls Tryz.prog 80 #[v] w fun e w' => e = .returned (.string (jco t)) ∧ Below w.heap.size w w' := by
 have HJ : Hid (∀ W : World, _) := hJ
 clear hJ
 have c0 := hl.h.c 0 (by decide)
 have c1 := hl.h.c 1 (by decide)
 have c2 := hl.h.c 2 (by decide)
 have c3 := hl.h.c 3 (by decide)
 have c4 := hl.h.c 4 (by decide)
 have c5 := hl.h.c 5 (by decide)
 have c6 := hl.h.c 6 (by decide)
 have c7 := hl.h.c 7 (by decide)
 refine (callsIn_wide (n := 9)).1 ?_
 refine callsIn_of_wp_marks Tryz.func80 rfl trivial ?_ rfl
 refine wpIn_wide.2 ?_
 simp only [Tryz.ntmps80, List.size_toArray, List.length_cons, List.length_nil, Nat.reduceAdd, Nat.reduceSub, Array.replicate_succ, Array.replicate_zero, List.push_toArray, List.append_toArray, List.nil_append, List.cons_append]
 go_wp2_with fail
 have B0 : Below w.heap.size w (w.alloc (.cells first8.l 149)) := (Below.refl _ w).alloc (Nat.le_refl _) _
 have F0 : Fw w.heap.size 8 (fun j => .int .u32 (first8.at j)) (w.alloc (.cells first8.l 149)) := Fw.lit _ _ rfl rfl
 refine (HJ.out _ B0).mono ?_
 rintro e w1 ⟨rfl, B1⟩
 have F1 := F0.below B1
 have BW1 := jaa B0 B0.size B1
 clear B0 F0 B1 HJ c0 c1 c2 c3 c4 c5 c6 c7
 go_wp2_with fail
 refine (blocks_any t w1).mono ?_
 rintro e w2 ⟨rfl, hw2⟩
 have hcx : w2.cell? ⟨w1.heap.size, 0, none⟩ = some (.string t) := by rw [hw2]; simp [go_sem]
 have B2 : Below w1.heap.size w1 w2 := by rw [hw2]; exact (Below.refl _ w1).alloc (Nat.le_refl _) _
 have F2 := F1.below B2
 have BW2 := jaa BW1 BW1.size B2
 have L2 := hl.below BW2
 have hz1 : w.heap.size < w1.heap.size := F1.z
 have h1z : 2 < w.heap.size := hl.k.z
 have h0z : 0 < w.heap.size := hl.h.z
 clear hw2 B2 F1 BW1 hl
 obtain ⟨bX, hbX⟩ : ∃ c, w1.heap.size = c := ⟨_, rfl⟩
 rw [hbX] at hcx hz1 ⊢
 clear hbX
 obtain ⟨z, hz⟩ : ∃ c, w.heap.size = c := ⟨_, rfl⟩
 have HZ : Hid (w.heap.size = z) := hz
 rw [hz] at BW2 F2 hz1 h1z h0z ⊢
 clear hz
 go_wp2_with fail
 have hxz : bX < w2.heap.size := block_lt_of_cell hcx
 refine (wpIn_wide (n := 9)).1 ?_
 refine wpIn_rangeFunc_ownH rfl (by omega) (gf := 127) (lb := #[.pointer (some ⟨bX, 0, none⟩)]) rfl trivial (enters_of Tryz.func127 (by kernel_rfl) rfl)
  (blocks_stops _ bX t ht w2 hcx) (fun h k => TxtK.trans h k) (fun W l o o' hl h1 h2 h3 hx => ((belowK_b (n₀ := bX + 1) hxz W l o o' hl h1 h2 h3).cell (p := ⟨bX, 0, none⟩) (Nat.lt_succ_self _)).trans hx) (Below.refl _ _) (fun _ => rfl)
  (fun pre W => (Fw z 8 (fun j => .int .u32 ((jgz pre).at j)) W ∧ Laid W) ∧ Below z w W ∧ bX < W.heap.size)
  (fun _ _ _ => False)
  (fun s A C row hs hg hr => ⟨⟨hs.1.1.own (by decide) hg (fun r e => (hr r e).2), hs.1.2.own hg (fun r e => (hr r e).2)⟩, hs.2.1.grown hg (Nat.le_of_lt (Nat.lt_trans hz1 hs.2.2)) (fun k e => Nat.le_trans (by omega) (hr k e).1), Nat.lt_of_lt_of_le hs.2.2 hg.size⟩)
  (fun _ _ _ _ _ hs _ _ => hs)
  ⟨⟨F2, L2⟩, BW2, hxz⟩
  (fun x a' W => ∃ Bx, bX < Bx ∧ Fw Bx 16 (fun j => .int .u32 (x j)) W ∧ a' = { tmps := #[v, undef, .string ⟨#[]⟩, .pointer (some ⟨z, 0, none⟩), .pointer (some ⟨Bx, 0, none⟩), .agg #[.int .u32 (hc 0), .int .u32 (hc 1), .int .u32 (hc 2), .int .u32 (hc 3), .int .u32 (hc 4), .int .u32 (hc 5), .int .u32 (hc 6), .int .u32 (hc 7)], v, .string t, .func (.func 127) #[] #[.pointer (some ⟨bX, 0, none⟩)], .agg (fl 16 fun j => .int .u32 (x j)).toArray, undef, undef, undef, undef, undef, undef], defers := [] })
  (fun x a' _ X Y row hs hg hr => by obtain ⟨Bx, h1, h2, h3⟩ := hs; exact ⟨Bx, h1, h2.own (by decide) hg (fun r e => (hr r e).2), h3⟩)
  ?assign ?body ?done ?stop
 case assign =>
  rintro l pre x W K ⟨⟨F3, L3'⟩, B3, hxW⟩ hK
  have Z2 : Fw W.heap.size 16 (fun _ => .int .u32 0) (W.alloc (.cells z16 155)) := Fw.lit _ _ rfl rfl
  have hst := Z2.run (P := Tryz.prog) (fun j => .int .u32 (x j)) (fun _ => rfl)
  have N3 := Z2.store (fun j => .int .u32 (x j))
  have B4 : Below W.heap.size W ((W.alloc (.cells z16 155)).setCells W.heap.size 0 (fl 16 fun j => .int .u32 (x j))) := jap (Nat.le_refl _) _ _ _ ((Below.refl _ W).alloc (Nat.le_refl _) _)
  dsimp only [bEnc]
  obtain ⟨ll, hll⟩ : ∃ l, (fl 16 fun j => .int .u32 (x j)) = l := ⟨_, rfl⟩
  have hlen : ll.length = 16 := by rw [← hll]; exact jcb _ _
  rw [hll] at hst N3 B4 ⊢
  have HH : Hid (_ ∧ _ ∧ _) := ⟨hll, N3, B4⟩
  clear N3 B4 hll Z2
  gi_wp2
  obtain ⟨e1, N3, B4⟩ := HH.out
  exact hK _ _ ((jgp B4).from _) (TxtK.of_below B4) ⟨⟨F3.below B4, L3'.below B4⟩, jaa B3 (Nat.le_of_lt (Nat.lt_trans hz1 hxW)) B4, Nat.lt_of_lt_of_le hxW B4.size⟩ ⟨W.heap.size, hxW, N3, by rw [e1]⟩
 case body =>
  rintro l pre x a' W hl ⟨r, hr⟩ ⟨⟨F3, L3'⟩, B3, hxW⟩ ⟨Bx, hBx, FX, rfl⟩ hlt
  obtain ⟨u, hu⟩ : ∃ u, jgz pre = u := ⟨_, rfl⟩
  have HU : Hid (jgz pre = u) := hu
  rw [hu] at F3
  clear hu
  have f0 : W.cell? ⟨z, 0, none⟩ = some (.int .u32 u.a) := F3.c 0 (by decide)
  have f1 : W.cell? ⟨z, 1, none⟩ = some (.int .u32 u.b) := F3.c 1 (by decide)
  have f2 : W.cell? ⟨z, 2, none⟩ = some (.int .u32 u.c) := F3.c 2 (by decide)
  have f3 : W.cell? ⟨z, 3, none⟩ = some (.int .u32 u.d) := F3.c 3 (by decide)
  have f4 : W.cell? ⟨z, 4, none⟩ = some (.int .u32 u.e) := F3.c 4 (by decide)
  have f5 : W.cell? ⟨z, 5, none⟩ = some (.int .u32 u.f) := F3.c 5 (by decide)
  have f6 : W.cell? ⟨z, 6, none⟩ = some (.int .u32 u.g) := F3.c 6 (by decide)
  have f7 : W.cell? ⟨z, 7, none⟩ = some (.int .u32 u.h) := F3.c 7 (by decide)
  have b0 := FX.c 0 (by decide)
  have b1 := FX.c 1 (by decide)
  have b2 := FX.c 2 (by decide)
  have b3 := FX.c 3 (by decide)
  have b4 := FX.c 4 (by decide)
  have b5 := FX.c 5 (by decide)
  have b6 := FX.c 6 (by decide)
  have b7 := FX.c 7 (by decide)
  have b8 := FX.c 8 (by decide)
  have b9 := FX.c 9 (by decide)
  have b10 := FX.c 10 (by decide)
  have b11 := FX.c 11 (by decide)
  have b12 := FX.c 12 (by decide)
  have b13 := FX.c 13 (by decide)
  have b14 := FX.c 14 (by decide)
  have b15 := FX.c 15 (by decide)
  obtain ⟨A, hA⟩ : ∃ A, (fl 64 fun j => .int .u32 (jbb x j)).toArray = A := ⟨_, rfl⟩
  have hAk : ∀ j, j < 64 → A[j]? = some (.int .u32 (jbb x j)) := fun j hj => by
   rw [← hA]
   simpa using fl_at 64 (fun j => .int .u32 (jbb x j)) j hj
  have KS : Hid (∀ w : World, Calls Tryz.prog 114 #[.agg #[.int .u32 (x 0), .int .u32 (x 1), .int .u32 (x 2), .int .u32 (x 3), .int .u32 (x 4), .int .u32 (x 5), .int .u32 (x 6), .int .u32 (x 7), .int .u32 (x 8), .int .u32 (x 9), .int .u32 (x 10), .int .u32 (x 11), .int .u32 (x 12), .int .u32 (x 13), .int .u32 (x 14), .int .u32 (x 15)]] w fun e w' => e = .returned (.agg A) ∧ Below w.heap.size w w') := fun w => by
   have := spread_any x w
   rw [hA] at this
   exact this
  have KT : Hid (∀ w : World, Laid w → _) := fun (w : World) (hl : Laid w) => takeIn_any u A (jbb x) hAk w hl
  clear hA hAk
  have HX : Hid (_ ∧ _ ∧ _ ∧ _) := ⟨F3, L3', B3, FX⟩
  clear F3 L3' B3 FX
  gi_wp2_with fail
  have k0 := cell_regrown f0
  have k1 := cell_regrown f1
  have k2 := cell_regrown f2
  have k3 := cell_regrown f3
  have k4 := cell_regrown f4
  have k5 := cell_regrown f5
  have k6 := cell_regrown f6
  have k7 := cell_regrown f7
  have kb0 := cell_regrown b0
  have kb1 := cell_regrown b1
  have kb2 := cell_regrown b2
  have kb3 := cell_regrown b3
  have kb4 := cell_regrown b4
  have kb5 := cell_regrown b5
  have kb6 := cell_regrown b6
  have kb7 := cell_regrown b7
  have kb8 := cell_regrown b8
  have kb9 := cell_regrown b9
  have kb10 := cell_regrown b10
  have kb11 := cell_regrown b11
  have kb12 := cell_regrown b12
  have kb13 := cell_regrown b13
  have kb14 := cell_regrown b14
  have kb15 := cell_regrown b15
  have cS := jae (w := W) KS.out
  have cT : ∀ d os, Calls Tryz.prog 113 #[.agg u.l, .agg A] (grow (redrawn W d) os) fun e w'' => e = .returned (.agg (jcz u (jbb x)).l) ∧ ∃ p : Regrown, w'' = grow (redrawn W p.d) p.os := fun d os => Calls.regrown_of (KT.out _ (HX.out.2.1.below (below_regrown W d os)))
  refine jdt l _ 4 (by kernel_rfl) (by kernel_rfl) (by rintro ⟨_, _, h⟩; exact h) (by kernel_rfl) ?_
  simp only [List.take_succ_cons, List.take_zero, List.drop_succ_cons, List.drop_zero]
  iterate 2 (quiet_step (fail))
  quiet_step (exact cS _ _)
  quiet_step (exact cT _ _)
  refine wpQuiet_nil ?_
  intro w8 hw8
  have hb8 : Below W.heap.size W w8 := by
   obtain ⟨p, rfl⟩ := hw8
   exact below_regrown _ _ _
  clear hw8 k0 k1 k2 k3 k4 k5 k6 k7 kb0 kb1 kb2 kb3 kb4 kb5 kb6 kb7 kb8 kb9 kb10 kb11 kb12 kb13 kb14 kb15 f0 f1 f2 f3 f4 f5 f6 f7 b0 b1 b2 b3 b4 b5 b6 b7 b8 b9 b10 b11 b12 b13 b14 b15 cS cT KS KT
  obtain ⟨F3, L3', B3, FX⟩ := HX.out
  have F8 := F3.below hb8
  have g0 := F8.c 0 (by decide)
  have g1 := F8.c 1 (by decide)
  have g2 := F8.c 2 (by decide)
  have g3 := F8.c 3 (by decide)
  have g4 := F8.c 4 (by decide)
  have g5 := F8.c 5 (by decide)
  have g6 := F8.c 6 (by decide)
  have g7 := F8.c 7 (by decide)
  have gf := F8.f
  obtain ⟨y, hy⟩ : ∃ y, jcz u (jbb x) = y := ⟨_, rfl⟩
  have N8 := F8.store (fun j => .int .u32 (y.at j))
  rw [hy]
  have HY : Hid (_ ∧ _ ∧ _) := ⟨hy, N8, hb8⟩
  clear hy N8 hb8 F3 L3' B3 FX F8
  go_wp2
  obtain ⟨F3, L3', B3, FX⟩ := HX.out
  obtain ⟨hy, N8, hb8⟩ := HY.out
  have L8 := L3'.below hb8
  refine (?_ : KeepsFrom _ W (w8.setCells z 0 (fl 8 fun j => .int .u32 (y.at j))) ∧ TxtK bX t W (w8.setCells z 0 (fl 8 fun j => .int .u32 (y.at j))) ∧ (Fw z 8 (fun j => .int .u32 ((jgz (pre ++ [x])).at j)) (w8.setCells z 0 (fl 8 fun j => .int .u32 (y.at j))) ∧ Laid (w8.setCells z 0 (fl 8 fun j => .int .u32 (y.at j)))) ∧ Below z w (w8.setCells z 0 (fl 8 fun j => .int .u32 (y.at j))) ∧ bX < (w8.setCells z 0 (fl 8 fun j => .int .u32 (y.at j))).heap.size)
  refine ⟨((jgp hb8).trans (ko_setCells _ _ _ _)).from _, fun hc => ?_, ⟨?_, L8.k.storeOther z (by omega) _, L8.h.storeOther z (by omega) _⟩, jap (Nat.le_refl _) _ _ _ (jaa B3 (Nat.le_of_lt (Nat.lt_trans hz1 hxW)) hb8), by rw [jbv]; exact Nat.lt_of_lt_of_le hxW hb8.size⟩
  ·rw [World.cell?_setCells_out z _ 0 w8 ⟨bX, 0, none⟩ (fun e => absurd e (by dsimp only; omega))]
   exact TxtK.of_below hb8 hc
  ·rw [fold_snoc, HU.out, hy]
   exact N8
 case done =>
  rintro D ys W hD rfl ⟨⟨F3, L3'⟩, B3, hxW⟩ hK
  obtain ⟨u, hu⟩ : ∃ u, jgz (jgk t) = u := ⟨_, rfl⟩
  have HU : Hid (jgz (jgk t) = u) := hu
  rw [hu] at F3
  clear hu
  have f0 : W.cell? ⟨z, 0, none⟩ = some (.int .u32 u.a) := F3.c 0 (by decide)
  have f1 : W.cell? ⟨z, 1, none⟩ = some (.int .u32 u.b) := F3.c 1 (by decide)
  have f2 : W.cell? ⟨z, 2, none⟩ = some (.int .u32 u.c) := F3.c 2 (by decide)
  have f3 : W.cell? ⟨z, 3, none⟩ = some (.int .u32 u.d) := F3.c 3 (by decide)
  have f4 : W.cell? ⟨z, 4, none⟩ = some (.int .u32 u.e) := F3.c 4 (by decide)
  have f5 : W.cell? ⟨z, 5, none⟩ = some (.int .u32 u.f) := F3.c 5 (by decide)
  have f6 : W.cell? ⟨z, 6, none⟩ = some (.int .u32 u.g) := F3.c 6 (by decide)
  have f7 : W.cell? ⟨z, 7, none⟩ = some (.int .u32 u.h) := F3.c 7 (by decide)
  have KX : Hid (∀ w : World, _) := fun w : World => textOf_any u w
  go_wp2_with fail
  refine (KX.out _).mono ?_
  rintro e w4 ⟨rfl, B4⟩
  have hK4 := (jgp B4).same D _ hK rfl
  have BW4 := jaa B3 (Nat.le_of_lt (Nat.lt_trans hz1 hxW)) B4
  clear KX B4 hK f0 f1 f2 f3 f4 f5 f6 f7
  go_wp2
  have hbP := belowK_b (n₀ := z) (w := w2) (by omega) w4 D _ (.deferred none) hD hK4 rfl rfl
  refine ⟨by simp, .inl ⟨_, _, rfl, run_takeDeferred hK4, ?_⟩⟩
  refine ⟨.string (textOf u), by simp [results, Tryz.results80, go_sem], by rw [jco, HU.out], ?_⟩
  rw [HZ.out]
  exact BW4.trans hbP
 case stop =>
  rintro D c pre W _ _ h _
  exact h.elim
end Go.Proofs.YtoddangedbefgabGreatDoor
namespace Go.Proofs.YtoddangedbefgabGreatDoor
open Go.RowKit Go.Sort
def lit (l : List Int) (j : Nat) : Int := l.getD j 0
def jcm (xs : List ByteArray) : ByteArray := ⟨(Lib.join (xs.map (·.data.toList)) ([] : List UInt8)).toArray⟩
theorem sum_list (bk o c : Nat) (xs : List ByteArray) (w : World) (hl : Laid w) (hcells : ∀ (j : Nat) x, xs[j]? = some x → w.cell? ⟨bk, o + j, none⟩ = some (.string x))
  (hbk : bk < w.heap.size) (hN : xs.length ≤ 140737488355328) (hcap : xs.length ≤ c) (hlen : (Lib.join (xs.map (·.data.toList)) ([] : List UInt8)).length ≤ 140737488355328) :
  Calls Tryz.prog 80 #[.slice (some ⟨bk, o, none⟩) xs.length c] w fun e w' => e = .returned (.string (jco (jcm xs))) ∧ Below w.heap.size w w' := by
 have hz : (jcm xs).size = (Lib.join (xs.map (·.data.toList)) ([] : List UInt8)).length := by simp [jcm, ByteArray.size]
 refine s_sum_any _ (jcm xs) (by rw [hz]; omega) w hl fun W hb => ?_
 exact Tryz.strings_Join bk o c xs ⟨#[]⟩ W (fun j x hx => (hb.cell (p := ⟨bk, o + j, none⟩) hbk).trans (hcells j x hx)) (Nat.lt_of_lt_of_le hbk hb.size) hN hcap hlen
theorem jfj (x y t : ByteArray) (hj : jcm [x, y] = t) (hx : x.size ≤ 1000000) (hy : y.size ≤ 1000000) (g : Nat) (w : World) (hl : Laid w) (hg : g < w.heap.size) (h0 : w.cell? ⟨g, 0, none⟩ = some (.string x)) (h1 : w.cell? ⟨g, 1, none⟩ = some (.string y)) :
  Calls Tryz.prog 80 #[.slice (some ⟨g, 0, none⟩) 2 2] w fun e w' => e = .returned (.string (jco t)) ∧ Below w.heap.size w w' := by
 have hc := sum_list g 0 2 [x, y] w hl (fun j u hu => by
  match j, hu with
  | 0, hu => cases hu; simpa using h0
  | 1, hu => cases hu; simpa using h1) hg (by simp) (by simp) (by simp [Lib.join]; have e1 : x.data.size = x.size := rfl; have e2 : y.data.size = y.size := rfl; omega)
 rw [hj] at hc
 exact hc
theorem jex (t : ByteArray) : (jco t).size = 32 := by
 show (jbk 32 _).toArray.size = 32
 rw [List.size_toArray, jbf]
end Go.Proofs.YtoddangedbefgabGreatDoor
