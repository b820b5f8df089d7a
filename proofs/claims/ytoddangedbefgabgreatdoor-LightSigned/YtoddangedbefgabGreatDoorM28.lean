/- Lemmas: Bytes as chunks: the program's filledUp and Pack, the reference's Pack. Levels of a tree: at, above. Which chunks have a tree: ContainsFunc, haveTree; the reference's right. -/
import Derived.Test.YtoddangedbefgabGreatDoorM27
set_option maxRecDepth 20000
set_option maxHeartbeats 4000000
namespace Go.Proofs.YtoddangedbefgabGreatDoor
open Go.RowKit Go.Shelf Go.Sort Go.Lib
def upAt (m : Nat) (f : Nat → Int) (j : Nat) : Int := if j < m then f j else 0
theorem up_bd (m : Nat) (f : Nat → Int) (hf : ∀ j, 0 ≤ f j ∧ f j < 256) (j : Nat) : 0 ≤ upAt m f j ∧ upAt m f j < 256 := by
 unfold upAt
 split
 ·exact hf j
 ·decide
def ckN (s : ByteArray) (k : Nat) : ByteArray := ⟨(jbk 32 (upAt (s.size - 32 * k) fun j => s_bt s (32 * k + j))).toArray⟩
theorem ck_size (s : ByteArray) (k : Nat) : (ckN s k).size = 32 := jet _ _
def pk (s : ByteArray) : List ByteArray := (List.range ((s.size + 31) / 32)).map (ckN s)
theorem pk_len (s : ByteArray) : (pk s).length = (s.size + 31) / 32 := by simp [pk]
theorem pk_mem (s : ByteArray) : ∀ x ∈ pk s, x.size = 32 := fun x hx => by
 obtain ⟨k, _, rfl⟩ := List.mem_map.1 hx
 exact ck_size s k
theorem jcr {P : Program} {w : World} {ops : Array Oper} {rest : List Oper} {o : Oper} {a : Act} {Q : Exit → Act → World → Prop} (hgd : o.guard = none) (sl x : Operand) (t u : TypeId)
  (ho : o.op = .call { callee := .builtin .append, args := #[sl, x], argTypes := #[t, u] }) (v y v' : Value) (w' : World) (hs : a.eval sl = v) (hx : a.eval x = y)
  (hr : (Builtin.append_ #[t, u] o.type #[v, y]).run P w = .ok v' w') (h : wpList P ops Q rest (a.put o.dst v') w') : wpList P ops Q (o :: rest) a w := by
 refine wpList_plain hgd fun K hK => ?_
 unfold Oper.wp execOp
 simp only [ho, resolve, invoke, builtin, Sem.run_bind, Sem.run_pure, Result.andThen_ok, List.map_toArray, List.map_cons, List.map_nil, hs, hx, hr]
 exact hK _ _ h
theorem run_append_none {P : Program} (w : World) (t u ty e : TypeId) (i : TypeInfo) (ht : P.underlying t = some (.slice e)) (hu : P.underlying u = some .string) (hi : P.info? e = some i) (b : Addr) (n c : Nat) (hc : n ≤ c) (s : ByteArray) (hs : s.size = 0) :
  (Builtin.append_ #[t, u] ty #[.slice (some b) n c, .string s]).run P w = .ok (.slice (some b) n c) w := by
 have hf := run_firstCells_string (P := P) w i.size s
 have h0 : strCells s = [] := List.length_eq_zero_iff.1 (by rw [strCells_length, hs])
 rw [h0, hs] at hf
 have hroom : ¬ c < n := Nat.not_lt.2 hc
 simp [Builtin.append_, run_underlying ht, run_underlying hu, sizeOf, typeInfo, hi, Builtin.lenOf, hs, hroom, hf, storeCells]
theorem filledUp8_any (b o m : Nat) (hm : m ≤ 32) (f : Nat → Int) (hf : ∀ j, 0 ≤ f j ∧ f j < 256) (w : World) (hc : ∀ j, j < m → w.cell? ⟨b, o + j, none⟩ = some (.int .u8 (f j))) :
  Calls Tryz.prog 109 #[.slice (some ⟨b, o, none⟩) m m] w fun e w' => e = .returned (.string ⟨(jbk 32 (upAt m f)).toArray⟩) ∧ Below w.heap.size w w' := by
 obtain ⟨i0, hi0, hz0, hz1, hz2⟩ := info_parts jgd
 have HC : Hid (∀ j, j < m → w.cell? ⟨b, o + j, none⟩ = some (.int .u8 (f j))) := hc
 clear hc
 have l0 : (0 : Int) ≤ m := by omega
 have l1 : (m : Int) ≤ 32 := by omega
 obtain ⟨s, hs⟩ : ∃ s, z32.extract m 32 = s := ⟨_, rfl⟩
 have hsz : s.size = 32 - m := by rw [← hs, ByteArray.size_extract]; show min 32 32 - m = _; omega
 have hsb : ∀ j (h : j < (strCells s).length), (strCells s)[j] = .int .u8 0 := fun j h => by
  rw [strCells_length, hsz] at h
  have e1 : s.data[j]'(by show j < s.size; omega) = 0 := by
   subst hs
   have h2 : m + j < 32 := by omega
   have e2 : ∀ k : Fin 32, z32.data[k.val]'(k.isLt) = 0 := by decide
   simp only [ByteArray.data_extract, Array.getElem_extract]
   exact e2 ⟨m + j, h2⟩
  simp only [strCells, List.getElem_map, Array.getElem_toList, e1]
  rfl
 by_cases h32 : m = 32
 ·subst h32
  have hrun := run_append_none (P := Tryz.prog) w 116 9 116 5 i0 Tryz.underlying116 Tryz.underlying9 hi0 ⟨b, o, none⟩ 32 32 (Nat.le_refl _) s (by omega)
  have hcv := run_convert_bytes_back (P := Tryz.prog) w 116 9 5 ⟨b, o, none⟩ 32 (jbk 32 (upAt 32 f)) Tryz.underlying116 Tryz.underlying5 Tryz.underlying9 (fun j hj => by
   rw [jbf] at hj
   rw [jdr _ _ (up_bd _ _ hf), upAt, if_pos hj, Addr.add_mid]
   exact HC.out j hj)
  rw [jbf] at hcv
  have HX : Hid (_ ∧ _) := ⟨hs, hrun⟩
  clear hrun hsb
  go_enter Tryz.func109, Tryz.ntmps109
  go_wp2_with (at_builtin; refine jcr rfl _ _ 116 9 rfl _ (.string s) _ _ rfl ?c1 HX.out.2 ?_)
  case c1 => exact congrArg Value.string HX.out.1
  go_wp2
  go_ret
  exact ⟨rfl, Below.refl _ _⟩
 ·have hgc := grownCap_ge w 32 m 5
  have hrun := run_append_grow_string (P := Tryz.prog) w 116 9 116 5 i0 (.int .u8 0) Tryz.underlying116 Tryz.underlying9 hi0 hz0 ⟨b, o, none⟩ m m (fl m fun j => .int .u8 (f j)) (by rw [jcb, hz1, Nat.mul_one]) (fun j v hv => by
   obtain ⟨hj, rfl⟩ := fl_get _ _ _ _ hv
   rw [Addr.add_mid]
   exact HC.out j hj) s (by omega) (by omega) (by rw [hz2, hsz, show m + (32 - m) = 32 by omega]; unfold Builtin.nextslicecap; rw [if_pos (show m < 256 by omega)]; split <;> omega)
  rw [hsz, show m + (32 - m) = 32 by omega] at hrun
  obtain ⟨cp, hcp⟩ : ∃ c, grownCap w 32 m 5 = c := ⟨_, rfl⟩
  rw [hcp] at hrun
  obtain ⟨w1, hw1⟩ : ∃ x, w.drew.alloc (.cells ((fl m fun j => .int .u8 (f j)).toArray ++ (strCells s).toArray ++ Builtin.zeroCells (Value.int .u8 0).cells (cp - 32)) 5) = x := ⟨_, rfl⟩
  rw [hw1] at hrun
  have B1 : Below w.heap.size w w1 := by rw [← hw1]; exact (Below.refl _ w).drew.alloc (by simp) _
  have hcv := run_convert_bytes_back (P := Tryz.prog) w1 116 9 5 ⟨w.heap.size, 0, none⟩ cp (jbk 32 (upAt m f)) Tryz.underlying116 Tryz.underlying5 Tryz.underlying9 (fun j hj => by
   rw [jbf] at hj
   rw [jdr _ _ (up_bd _ _ hf), ← hw1, Addr.add_mid]
   have e0 : w.heap.size = w.drew.heap.size := by simp
   rw [e0, Lib.cell_of_heap (World.alloc_heap_new _ _), Nat.zero_add, Array.getElem?_append_left (by simp [jcb, strCells_length, hsz]; omega)]
   by_cases hjm : j < m
   ·rw [Array.getElem?_append_left (by simp [jcb]; exact hjm), upAt, if_pos hjm, List.getElem?_toArray]
    exact fl_at m _ j hjm
   ·have hl : j - m < (strCells s).length := by rw [strCells_length, hsz]; omega
    rw [Array.getElem?_append_right (by simp [jcb]; omega), upAt, if_neg hjm, List.getElem?_toArray]
    simp only [List.size_toArray, jcb]
    rw [List.getElem?_eq_getElem hl, hsb _ hl])
  rw [jbf] at hcv
  have HX : Hid (_ ∧ _) := ⟨hs, hrun⟩
  clear hrun hsb hw1
  go_enter Tryz.func109, Tryz.ntmps109
  go_wp2_with (at_builtin; refine jcr rfl _ _ 116 9 rfl _ (.string s) _ _ rfl ?c1 HX.out.2 ?_)
  case c1 => exact congrArg Value.string HX.out.1
  go_wp2
  go_ret
  exact ⟨rfl, B1⟩
theorem jdm : (Tryz.prog.info? 9).map (fun i => (i.zero, i.size, i.bytes)) = some (some (.string ⟨#[]⟩), 1, 16) := by kernel_rfl
theorem map_snoc {α : Type} (f : Nat → α) (k : Nat) : (List.range (k + 1)).map f = (List.range k).map f ++ [f k] := by simp [List.range_succ]
theorem owns_cap {W : World} {z e n m c : Nat} {a : Option Addr} {xs : List Value} (h : W.ownsRow z e 1 (.slice a m c) n xs) : m ≤ c := by
 rcases h.2 with ⟨h1, _⟩ | ⟨g, cap, cur, h1, _, _, h4, _⟩
 ·cases h1; exact Nat.le_refl _
 ·cases h1; exact h4
theorem pack_any (s : ByteArray) (hs : s.size ≤ 100000) (w : World) :
  Calls Tryz.prog 78 #[.string s] w fun e w' => ∃ a c, e = .returned (.slice a (pk s).length c) ∧ (pk s).length ≤ c ∧ slS w'.heap.size w' a (pk s) ∧ Below w.heap.size w w' := by
 obtain ⟨i0, hi0, hz0, hz1, hz2⟩ := info_parts jdm
 have hge := grownCap_ge w s.size 0 5
 obtain ⟨c0, hc0⟩ : ∃ c, grownCap w s.size 0 5 = c := ⟨_, rfl⟩
 have hcv := run_bytes_of_string (P := Tryz.prog) w 9 116 5 s Tryz.underlying9 Tryz.underlying116 Tryz.underlying5
 rw [hc0] at hcv hge
 have B0 : Bs w.heap.size s.size c0 (fun j => .int .u8 (s_bt s j)) (w.drew.alloc (.cells (bytesRow s c0) 5 ((bytesRow s c0).size, (bytesRow s c0).size + 1))) := bs_bytes s c0 hge w.drew 5 _ (fun j hj => rfl)
 have E0 : Below w.heap.size w (w.drew.alloc (.cells (bytesRow s c0) 5 ((bytesRow s c0).size, (bytesRow s c0).size + 1))) := (Below.refl _ w).drew.alloc (by simp) _
 obtain ⟨w1, hw1⟩ : ∃ w1, w.drew.alloc (.cells (bytesRow s c0) 5 ((bytesRow s c0).size, (bytesRow s c0).size + 1)) = w1 := ⟨_, rfl⟩
 rw [hw1] at hcv B0 E0
 clear hw1 hc0
 obtain ⟨z, hz⟩ : ∃ z, w.heap.size = z := ⟨_, rfl⟩
 rw [hz] at hcv B0 E0 ⊢
 have hzw : z < w1.heap.size := B0.z
 clear hz
 obtain ⟨N, hN⟩ : ∃ N, (s.size + 31) / 32 = N := ⟨_, rfl⟩
 obtain ⟨S, hS⟩ : ∃ S, s.size = S := ⟨_, rfl⟩
 have HS : Hid (_ ∧ _) := ⟨hN, hS⟩
 rw [hS] at hs hcv B0 hge hN
 clear hS
 have q1 : IntKind.i64.wrap ((S : Int) + 32) = (S : Int) + 32 := by rw [IntKind.wrap_i64]; omega
 have q2 : IntKind.i64.wrap ((S : Int) + 32 - 1) = ((S + 31 : Nat) : Int) := by rw [IntKind.wrap_i64]; omega
 have q3 : ((S : Int) + 31) / 32 = (N : Int) := by omega
 have q4 : IntKind.i64.wrap (N : Int) = N := by rw [IntKind.wrap_i64]; omega
 have q5 : (0 : Int) ≤ N := by omega
 go_enter Tryz.func78, Tryz.ntmps78
 go_wp2_with (at_make; refine wpList_make_own _ rfl _ _ 27 rfl w1.heap.size 9 i0 _ 1 Tryz.underlying27 hi0 hz0 hz1 .i64 .i64 _ N rfl (congrArg (Value.int .i64) q3) (by omega) (by rw [hz2]; omega) (by unfold maxLen; omega) (Nat.le_refl _) ?_; intro w2 hown hgr)
 have B2 : Below w1.heap.size w1 w2 := (Below.refl _ w1).grown hgr (Nat.le_refl _) (fun _ e => by cases e)
 have BT := B0.below B2
 have BW0 : Below z w w2 := jaa E0 (Nat.le_of_lt hzw) B2
 have hz2' : z < w2.heap.size := Nat.lt_of_lt_of_le hzw B2.size
 have hgs := B2.size
 clear B2 hgr B0 E0 hcv q1 q2 q3 q4 q5
 obtain ⟨y, hy⟩ : ∃ y, w1.heap.size = y := ⟨_, rfl⟩
 have hzy : z < y := by rw [← hy]; exact hzw
 rw [hy] at hown ⊢
 have hyw2 : y ≤ w2.heap.size := by rw [← hy]; exact hgs
 clear hy hzw hgs
 have HC : Hid (∀ j, j < S → w2.cell? ⟨z, j, none⟩ = some (.int .u8 (s_bt s j))) := BT.c
 clear BT
 go_loopg [4, 5] N (fun gk v i wr => ∃ k : Nat, k + gk = N ∧ i = .int .i64 ((32 * k : Nat) : Int) ∧ Below y w2 wr ∧ y ≤ wr.heap.size ∧ wr.ownsRow y 9 1 v k ((List.range k).map fun j => .string (ckN s j)) ∧ Hid (v ≠ .slice none 0 0))
 case atStart => exact ⟨0, by omega, rfl, Below.refl _ _, hyw2, hown, by intro h; cases h⟩
 case round =>
  clear hown
  obtain ⟨k, hk, rfl, BW, hyw, hown, hnn⟩ := hrel
  have hr3 : ∀ b, u4.ownBlock = some b → y ≤ b := fun b hb => (hown.lt b hb).1
  by_cases hlt : k < N
  ·obtain ⟨q, hq⟩ : ∃ q, 32 * k = q := ⟨_, rfl⟩
   rw [hq]
   obtain ⟨m, hm⟩ : ∃ m, min (q + 32) S = m := ⟨_, rfl⟩
   have l0 : (q : Int) < S := by omega
   have wq : IntKind.i64.wrap ((q : Int) + 32) = ((q + 32 : Nat) : Int) := by rw [IntKind.wrap_i64]; omega
   have hmi : min ((q + 32 : Nat) : Int) S = m := by omega
   have hmi2 : min ((q : Int) + 32) S = m := by omega
   have l1 : (q : Int) ≤ m := by omega
   have l2 : (m : Int) ≤ c0 := by omega
   have l3 : (0 : Int) ≤ q := by omega
   have l4 : q ≤ m := by omega
   have hck : (⟨(jbk 32 (upAt (m - q) fun j => s_bt s (q + j))).toArray⟩ : ByteArray) = ckN s k := by
    unfold ckN
    rw [hq, HS.out.2]
    refine congrArg (fun l : List UInt8 => (⟨l.toArray⟩ : ByteArray)) (by8_ext8 _ _ _ fun j hj => ?_)
    unfold upAt
    by_cases h1 : j < m - q
    ·rw [if_pos h1, if_pos (by omega)]
    ·rw [if_neg h1, if_neg (by omega)]
   have KF := filledUp8_any z q (m - q) (by omega) (fun j => s_bt s (q + j)) (fun j => jfl _ _) wr (fun j hj => (BW.cell (p := ⟨z, q + j, none⟩) hzy).trans (HC.out (q + j) (by omega)))
   rw [hck] at KF
   obtain ⟨x, hx⟩ : ∃ x, ckN s k = x := ⟨_, rfl⟩
   have HX : Hid _ := hx
   rw [hx] at KF
   clear hx hck
   go_wp2_with fail
   refine KF.mono ?_
   rintro e w3 ⟨rfl, B3⟩
   have hown3 := jax hown B3
   have BW3 := jaa BW hyw B3
   have hs3 := B3.size
   clear KF hown BW B3
   go_wp2_with (at_builtin; refine wpList_append_own _ rfl _ _ 27 rfl y 9 i0 (.string ⟨#[]⟩) 1 16 Tryz.underlying27 hi0 hz0 hz1 hz2 rfl (by decide) _ _ _ rfl (jax hown3 ((Below.refl _ w3).alloc (Nat.le_refl _) _)) ⟨w3.heap.size, 0, none⟩ 1 1 [.string x] rfl rfl (jcg _ _ _) (by intro u hu; simp at hu; subst hu; rfl) (by unfold maxLen; omega) (by omega) (by simp; omega) ?_)
   intro v' w4 hown' hgrow hiff
   have HW : Hid (_ ∧ _ ∧ _) := ⟨hown', hgrow, hiff⟩
   clear hown' hgrow hiff
   go_wp2
   go_roundg (gk - 1)
   case measure => omega
   case rel =>
    obtain ⟨hown', hgrow, hiff⟩ := HW.out
    refine ⟨k + 1, by omega, by first | rfl | (congr 1; omega), (BW3.alloc (by omega) _).grown hgrow (by simp; omega) (fun b hb => hr3 b hb), Nat.le_trans (by simp; omega) hgrow.size, ?_, hiff⟩
    rw [map_snoc, HX.out]
    exact hown'
  ·obtain rfl : k = N := by omega
   obtain ⟨q, hq⟩ : ∃ q, 32 * k = q := ⟨_, rfl⟩
   rw [hq]
   have l0 : ¬ (q : Int) < S := by omega
   have hlen : (pk s).length = k := by rw [pk_len]; exact HS.out.1
   have hpk : ((List.range k).map fun j => Value.string (ckN s j)) = (pk s).map .string := by rw [← HS.out.1, pk, List.map_map]; rfl
   rw [hpk, ← hlen] at hown
   obtain ⟨a, c, rfl, hsl⟩ := slS_owns hown
   have hc := owns_cap hown
   have HF : Hid (_ ∧ _ ∧ _) := ⟨hc, hsl, BW0.trans (BW.mono (by omega))⟩
   rw [hlen] at HF ⊢
   clear hown hsl BW BW0 hc
   go_wp2
   go_ret
   exact ⟨a, c, rfl, HF.out⟩
end Go.Proofs.YtoddangedbefgabGreatDoor
namespace Go.Proofs.YtoddangedbefgabGreatDoor
open Go.RowKit Go.Shelf Go.Sort
theorem at_any (xs : List ByteArray) (a : Option Addr) (c : Nat) (y : ByteArray) (i : Nat) (n : Nat) (w : World) (hn : n ≤ w.heap.size) (hp : slS n w a xs) :
  Calls Tryz.prog 126 #[.agg #[.slice a xs.length c, .string y], .int .i64 i] w fun e w' => e = .returned (.string (xs.getD i y)) ∧ Below w.heap.size w w' := by
 obtain ⟨N, hN⟩ : ∃ N, xs.length = N := ⟨_, rfl⟩
 have HN : Hid (xs.length = N) := hN
 rw [hN]
 have A1 : Below w.heap.size w (w.alloc (.cells #[.slice a N c, .string y] 170)) := (Below.refl _ w).alloc (Nat.le_refl _) _
 rw [List.getD_eq_getElem?_getD]
 by_cases hlt : i < N
 ·obtain ⟨x, hx⟩ : ∃ x, xs[i]? = some x := ⟨xs[i]'(by omega), List.getElem?_eq_getElem (by omega)⟩
  obtain ⟨b, o, rfl, hb, c0⟩ := jci hp i x hx
  have hbw : b < w.heap.size := by omega
  have l0 : (i : Int) < N := by omega
  rw [hx]
  go_enter Tryz.func126, Tryz.ntmps126
  go_wp2
  go_ret
  exact ⟨rfl, A1⟩
 ·have l0 : ¬ (i : Int) < N := by omega
  rw [List.getElem?_eq_none (by omega)]
  go_enter Tryz.func126, Tryz.ntmps126
  go_wp2
  go_ret
  exact ⟨rfl, A1⟩
def upL (xs : List ByteArray) (y : ByteArray) : List ByteArray := (List.range ((xs.length + 1) / 2)).map fun j => hs (xs.getD (2 * j) y) (xs.getD (2 * j + 1) y)
def slF (m : Nat) (W : World) (a : Option Addr) (xs : List ByteArray) : Prop := xs = [] ∨ ∃ b o, a = some ⟨b, o, none⟩ ∧ m ≤ b ∧ b < W.heap.size ∧ ∀ j x, xs[j]? = some x → W.cell? ⟨b, o + j, none⟩ = some (.string x)
theorem slF_owns {z : Nat} {v : Value} {xs : List ByteArray} {W : World} (h : W.ownsRow z 9 1 v xs.length (xs.map .string)) : ∃ a c, v = .slice a xs.length c ∧ slF z W a xs := by
 rcases h.2 with ⟨h1, h2⟩ | ⟨g, c, cur, h1, h2, h3, h4, h5, h6, h7⟩
 ·exact ⟨none, 0, by rw [h1, h2], .inl (List.length_eq_zero_iff.1 h2)⟩
 ·refine ⟨_, c, h1, .inr ⟨g, 0, rfl, h2, (Array.getElem?_eq_some_iff.1 h3).1, fun j x hx => ?_⟩⟩
  have hj : j < xs.length := (List.getElem?_eq_some_iff.1 hx).1
  subst h1
  rw [h.cellAt (0 + j) (by omega), Nat.zero_add, List.getElem?_map, hx]
  rfl
theorem slF_mono {m m' : Nat} {W : World} {a : Option Addr} {xs : List ByteArray} (h : slF m W a xs) (hm : m' ≤ m) : slF m' W a xs := by
 rcases h with h | ⟨b, o, h1, h2, h3⟩
 ·exact .inl h
 ·exact .inr ⟨b, o, h1, Nat.le_trans hm h2, h3⟩
def AbR (m : Nat) (xs : List ByteArray) (y : ByteArray) (e : Ending) (w' : World) : Prop := ∃ a c, e = .returned (.agg #[.slice a (upL xs y).length c, .string (hs y y)]) ∧ slF m w' a (upL xs y)
theorem make_str (W : World) (M : Nat) (hM : M ≤ 1000) (B : Nat) (hB : B ≤ W.heap.size) : ∃ w', (Instr.makeSlice 27 (.int .i64 0) (.int .i64 (M : Int))).run Tryz.prog W = .ok (.slice (some ⟨W.heap.size, 0, none⟩) 0 M) w' ∧ w'.ownsRow B 9 1 (.slice (some ⟨W.heap.size, 0, none⟩) 0 M) 0 [] ∧ Below W.heap.size W w' := by
 obtain ⟨i0, hi0, hz0, hz1, hz2⟩ := info_parts jdm
 obtain ⟨w', h1, h2, h3⟩ := run_make_own (P := Tryz.prog) W B 27 9 i0 _ 1 Tryz.underlying27 hi0 hz0 hz1 .i64 .i64 M (by rw [hz2]; omega) (by unfold maxLen; omega) hB
 exact ⟨w', h1, h2, (Below.refl _ W).grown h3 (Nat.le_refl _) (fun _ e => by cases e)⟩
theorem jdg (w : World) (o1 o2 : Obj) : ((w.alloc o1).alloc o2).heap[w.heap.size]? = some o1 ∧ ((w.alloc o1).alloc o2).heap[w.heap.size + 1]? = some o2 := by
 constructor
 ·rw [((Below.refl _ (w.alloc o1)).alloc (Nat.le_refl _) o2).block w.heap.size (by simp)]
  exact World.alloc_heap_new w o1
 ·have h := World.alloc_heap_new (w.alloc o1) o2
  simpa using h
theorem jam {W : World} {b : Nat} {cs : Array Value} {t : TypeId} {f : Nat × Nat} (h : W.heap[b]? = some (.cells cs t f)) (o : Nat) (v : Value) : (W.setCell ⟨b, o, none⟩ v).heap[b]? = some (.cells (cs.setIfInBounds o v) t f) := by
 simp [World.setCell, Array.getElem?_modify, h]
theorem jdf {W : World} {z n : Nat} {v : Value} {xs : List Value} (h : W.ownsRow z 9 1 v n xs) {g : Nat} {cs : Array Value} (hg : W.heap[g]? = some (.cells cs 170 (0, 0))) : v.ownBlock ≠ some g := by
 rcases h.2 with ⟨h1, _⟩ | ⟨b, cap, cur, h1, _, h3, _⟩
 ·rw [h1]
  intro e
  cases e
 ·rw [h1]
  intro e
  cases e
  rw [hg] at h3
  cases h3
theorem getD_size (xs : List ByteArray) (y : ByteArray) (h : ∀ x ∈ xs, x.size = 32) (hy : y.size = 32) (i : Nat) : (xs.getD i y).size = 32 := by
 rw [List.getD_eq_getElem?_getD]
 cases hx : xs[i]? with
 | none => exact hy
 | some x => exact h x (List.mem_of_getElem? hx)
theorem owns_sl2 {W : World} {z p c : Nat} {a : Option Addr} {xs : List ByteArray} (h : W.ownsRow z 9 1 (.slice a xs.length c) xs.length (xs.map .string)) {cs : Array Value} (hp : W.heap[p]? = some (.cells cs 170 (0, 0))) (v1 v2 : Value) :
  slF z ((W.setCell ⟨p, 0, none⟩ v1).setCell ⟨p, 1, none⟩ v2) a xs := by
 have ho := (h.kept (jbc [v1] 0 W) (.inr (jdf h hp))).kept (jbc [v2] 1 _) (.inr (jdf h hp))
 obtain ⟨a', c', e, hs⟩ := slF_owns ho
 cases e
 exact hs
theorem jck {W : World} {z e n : Nat} {v : Value} {xs : List Value} (h : W.ownsRow z e 1 v n xs) : ∃ a c, v = .slice a n c := by
 rcases h.2 with ⟨h1, h2⟩ | ⟨g, c, cur, h1, _⟩
 ·exact ⟨none, 0, by rw [h1, h2]⟩
 ·exact ⟨_, c, h1⟩
structure AbK (V : World) (a : Option Addr) (p N c M : Nat) (y h2 : ByteArray) (S : Nat → Bool) (x3 x5 x6 x7 x8 x9 x10 x11 x12 x13 x14 x15 x16 x17 : Value) (W : World) : Prop where
 e : Below V.heap.size V W
 f0 : S 0 = true → x5 = Value.pointer (some ⟨p, 0, none⟩)
 f1 : S 1 = true → x6 = Value.slice a N c
 f2 : S 2 = true → x7 = Value.int .i64 (N : Int)
 f3 : S 3 = true → x8 = Value.int .i64 ((N : Int) + 1)
 f4 : S 4 = true → x9 = Value.int .i64 (M : Int)
 f5 : S 5 = true → ∃ g, x10 = .slice (some ⟨g, 0, none⟩) 0 M ∧ V.heap.size ≤ g ∧ W.ownsRow V.heap.size 9 1 (.slice (some ⟨g, 0, none⟩) 0 M) 0 []
 f6 : S 6 = true → x11 = Value.pointer (some ⟨p, 1, none⟩)
 f7 : S 7 = true → x12 = Value.string y
 f8 : S 8 = true → x13 = Value.pointer (some ⟨p, 1, none⟩)
 f9 : S 9 = true → x14 = Value.string y
 f10 : S 10 = true → ∃ g, x15 = .slice (some ⟨g, 0, none⟩) 2 2 ∧ V.heap.size ≤ g ∧ g < W.heap.size ∧ W.heap[g]? = some (.cells #[.string y, .string y] 9 (0, 0))
 f11 : S 11 = true → x16 = Value.string h2
 f12 : S 12 = true → ∃ g, x17 = .agg #[.slice (some ⟨g, 0, none⟩) 0 M, .string h2] ∧ V.heap.size ≤ g ∧ W.ownsRow V.heap.size 9 1 (.slice (some ⟨g, 0, none⟩) 0 M) 0 []
 f13 : S 13 = true → ∃ g, x3 = .pointer (some ⟨g, 0, none⟩) ∧ V.heap.size ≤ g ∧ g < W.heap.size ∧ W.heap[g]? = some (.cells #[.slice none 0 0, .string ⟨#[]⟩] 170 (0, 0))
theorem AbK.grow {V : World} {a : Option Addr} {p N c M : Nat} {y h2 : ByteArray} {S : Nat → Bool} {x3 x5 x6 x7 x8 x9 x10 x11 x12 x13 x14 x15 x16 x17 : Value} {W W' : World} (h : AbK V a p N c M y h2 S x3 x5 x6 x7 x8 x9 x10 x11 x12 x13 x14 x15 x16 x17 W) (hb : Below W.heap.size W W') : AbK V a p N c M y h2 S x3 x5 x6 x7 x8 x9 x10 x11 x12 x13 x14 x15 x16 x17 W' :=
 ⟨jaa h.e h.e.size hb, h.f0, h.f1, h.f2, h.f3, h.f4, fun s => (h.f5 s).imp fun _ ⟨j1, j0, j2⟩ => ⟨j1, j0, jax j2 hb⟩, h.f6, h.f7, h.f8, h.f9, fun s => (h.f10 s).imp fun _ ⟨j1, j0, j2, j3⟩ => ⟨j1, j0, Nat.lt_of_lt_of_le j2 hb.size, (hb.block _ j2).trans j3⟩, h.f11, fun s => (h.f12 s).imp fun _ ⟨j1, j0, j2⟩ => ⟨j1, j0, jax j2 hb⟩, fun s => (h.f13 s).imp fun _ ⟨j1, j0, j2, j3⟩ => ⟨j1, j0, Nat.lt_of_lt_of_le j2 hb.size, (hb.block _ j2).trans j3⟩⟩
structure AbL (V : World) (a : Option Addr) (p g13 N c q : Nat) (y X1 X2 X3 : ByteArray) (v : Value) (S : Nat → Bool) (x25 x26 x27 x28 x29 x30 x31 x32 x33 x34 x35 x36 : Value) (W : World) : Prop where
 e : Below V.heap.size V W
 f0 : S 0 = true → x25 = Value.pointer (some ⟨g13, 0, none⟩)
 f1 : S 1 = true → x26 = v
 f2 : S 2 = true → x27 = Value.agg #[.slice a N c, .string y]
 f3 : S 3 = true → x28 = Value.int .i64 (q : Int)
 f4 : S 4 = true → x29 = Value.string X1
 f5 : S 5 = true → x30 = Value.agg #[.slice a N c, .string y]
 f6 : S 6 = true → x31 = Value.int .i64 (q : Int)
 f7 : S 7 = true → x32 = Value.int .i64 (((q + 1 : Nat)) : Int)
 f8 : S 8 = true → x33 = Value.string X2
 f9 : S 9 = true → ∃ g, x34 = .slice (some ⟨g, 0, none⟩) 2 2 ∧ V.heap.size ≤ g ∧ g < W.heap.size ∧ W.heap[g]? = some (.cells #[.string X1, .string X2] 9 (0, 0))
 f10 : S 10 = true → x35 = Value.string X3
 f11 : S 11 = true → ∃ g, x36 = .slice (some ⟨g, 0, none⟩) 1 1 ∧ V.heap.size ≤ g ∧ g < W.heap.size ∧ W.heap[g]? = some (.cells #[.string X3] 9 (0, 0))
theorem AbL.grow {V : World} {a : Option Addr} {p g13 N c q : Nat} {y X1 X2 X3 : ByteArray} {v : Value} {S : Nat → Bool} {x25 x26 x27 x28 x29 x30 x31 x32 x33 x34 x35 x36 : Value} {W W' : World} (h : AbL V a p g13 N c q y X1 X2 X3 v S x25 x26 x27 x28 x29 x30 x31 x32 x33 x34 x35 x36 W) (hb : Below W.heap.size W W') : AbL V a p g13 N c q y X1 X2 X3 v S x25 x26 x27 x28 x29 x30 x31 x32 x33 x34 x35 x36 W' :=
 ⟨jaa h.e h.e.size hb, h.f0, h.f1, h.f2, h.f3, h.f4, h.f5, h.f6, h.f7, h.f8, fun s => (h.f9 s).imp fun _ ⟨j1, j0, j2, j3⟩ => ⟨j1, j0, Nat.lt_of_lt_of_le j2 hb.size, (hb.block _ j2).trans j3⟩, h.f10, fun s => (h.f11 s).imp fun _ ⟨j1, j0, j2, j3⟩ => ⟨j1, j0, Nat.lt_of_lt_of_le j2 hb.size, (hb.block _ j2).trans j3⟩⟩
theorem above_any (xs : List ByteArray) (a : Option Addr) (c : Nat) (y : ByteArray) (n : Nat) (w : World) (hl : Laid w) (hn : n ≤ w.heap.size) (hp : slS n w a xs) (hx : xs.length ≤ 1000) (hy : y.size = 32) (hz : ∀ x ∈ xs, x.size = 32) :
  Calls Tryz.prog 147 #[.agg #[.slice a xs.length c, .string y]] w fun e w' => AbR w.heap.size xs y e w' ∧ Below w.heap.size w w' := by
 obtain ⟨i0, hi0, hz0, hz1, hz2⟩ := info_parts jdm
 obtain ⟨N, hN⟩ : ∃ N, xs.length = N := ⟨_, rfl⟩
 have HN : Hid (xs.length = N) := hN
 have HZ : Hid (∀ x ∈ xs, x.size = 32) := hz
 rw [hN] at hx ⊢
 clear hN hz
 have HS : Hid (∀ (g : Nat) (w : World), _) := fun (g : Nat) (w : World) (hl : Laid w) (hg : g < w.heap.size) h0 h1 => jfj y y _ (jdy _ _) (by omega) (by omega) g w hl hg h0 h1
 obtain ⟨h2, hh2⟩ : ∃ h, jco (y ++ y) = h := ⟨_, rfl⟩
 have HH : Hid _ := hh2
 rw [hh2] at HS
 clear hh2
 have q1 : IntKind.i64.wrap ((N : Int) + 1) = (N : Int) + 1 := by rw [IntKind.wrap_i64]; omega
 obtain ⟨M, hM⟩ : ∃ M, (N + 1) / 2 = M := ⟨_, rfl⟩
 have q2 : ((N : Int) + 1) / 2 = (M : Int) := by omega
 have q3 : ((N : Int) + 1).tdiv 2 = (M : Int) := by rw [Int.tdiv_eq_ediv_of_nonneg (by omega)]; exact q2
 have q4 : IntKind.i64.wrap (M : Int) = M := by rw [IntKind.wrap_i64]; omega
 go_enter Tryz.func147, Tryz.ntmps147
 go_wp2_with fail
 refine wpOf (fun W => Below w.heap.size w W ∧ W.heap[w.heap.size]? = some (.cells #[.slice a N c, .string y] 170 (0, 0)) ∧ W.heap[w.heap.size + 1]? = some (.cells #[.slice none 0 0, .string ⟨#[]⟩] 170 (0, 0))) ⟨((Below.refl _ w).alloc (Nat.le_refl _) _).alloc (by simp) _, (jdg _ _ _).1, (jdg _ _ _).2⟩ ?_
 rintro V ⟨BV, hb0, hb1⟩
 obtain ⟨p, hp0⟩ : ∃ p, w.heap.size = p := ⟨_, rfl⟩
 rw [hp0] at BV hb0 hb1 ⊢
 have HP : Hid _ := hp0
 have hpv : p < V.heap.size := (Array.getElem?_eq_some_iff.1 hb0).1
 have hpv1 : p + 1 < V.heap.size := (Array.getElem?_eq_some_iff.1 hb1).1
 have cl0 : V.cell? ⟨p, 0, none⟩ = some (.slice a N c) := by rw [Lib.cell_of_heap hb0]; rfl
 have cl1 : V.cell? ⟨p, 1, none⟩ = some (.string y) := by rw [Lib.cell_of_heap hb0]; rfl
 have lV : Laid V := hl.below (by rw [hp0]; exact BV)
 have sV : slS n V a xs := jan (BV.mono (by omega)) hp
 clear hp hb0
 have hM2 : M ≤ 1000 := by omega
 refine jaw 14 (fun S aa W => ∃ x3 x5 x6 x7 x8 x9 x10 x11 x12 x13 x14 x15 x16 x17 : Value, aa = { tmps := #[Value.agg #[Value.slice a N c, Value.string y], Value.pointer (some { block := p, off := 0 }), Value.pointer (some { block := p + 1, off := 0 }), x3, undef, x5, x6, x7, x8, x9, x10, x11, x12, x13, x14, x15, x16, x17, undef, undef, undef, undef, undef, undef, undef, undef, undef, undef, undef, undef, undef, undef, undef, undef, undef, undef, undef, undef, undef, undef], defers := [] } ∧ AbK V a p N c M y h2 S x3 x5 x6 x7 x8 x9 x10 x11 x12 x13 x14 x15 x16 x17 W) (by kernel_rfl) (by kernel_rfl) ?_ ?_ ?_
 ·exact ⟨undef, undef, undef, undef, undef, undef, undef, undef, undef, undef, undef, undef, undef, undef, rfl, ⟨(Below.refl _ V).drew, nofun, nofun, nofun, nofun, nofun, nofun, nofun, nofun, nofun, nofun, nofun, nofun, nofun, nofun⟩⟩
 ·intro i o S aa W hin hi hun hJ hall K hK
  obtain ⟨x3, x5, x6, x7, x8, x9, x10, x11, x12, x13, x14, x15, x16, x17, rfl, h⟩ := hJ
  have hlt : i < 14 := hin
  have hcase : i = 0 ∨ i = 1 ∨ i = 2 ∨ i = 3 ∨ i = 4 ∨ i = 5 ∨ i = 6 ∨ i = 7 ∨ i = 8 ∨ i = 9 ∨ i = 10 ∨ i = 11 ∨ i = 12 ∨ i = 13 := by omega
  rcases hcase with rfl | rfl | rfl | rfl | rfl | rfl | rfl | rfl | rfl | rfl | rfl | rfl | rfl | rfl
  all_goals (have ho := (Option.some.inj hi).symm; subst ho; clear hi hlt hin)
  ·go_simp
   exact hK _ _ ⟨_, _, _, _, _, _, _, _, _, _, _, _, _, _, rfl, { h with f0 := fun _ => rfl }⟩
  ·have s_0 : S 0 = true := hall ⟨0, .data⟩ (by simp) rfl
   obtain rfl := h.f0 s_0
   have cW := (h.e.cell (p := ⟨p, 0, none⟩) hpv).trans cl0
   go_simp
   exact hK _ _ ⟨_, _, _, _, _, _, _, _, _, _, _, _, _, _, rfl, { h with f1 := fun _ => rfl }⟩
  ·have s_1 : S 1 = true := hall ⟨1, .data⟩ (by simp) rfl
   obtain rfl := h.f1 s_1
   go_simp
   exact hK _ _ ⟨_, _, _, _, _, _, _, _, _, _, _, _, _, _, rfl, { h with f2 := fun _ => rfl }⟩
  ·have s_2 : S 2 = true := hall ⟨2, .data⟩ (by simp) rfl
   obtain rfl := h.f2 s_2
   go_simp
   exact hK _ _ ⟨_, _, _, _, _, _, _, _, _, _, _, _, _, _, rfl, { h with f3 := fun _ => rfl }⟩
  ·have s_3 : S 3 = true := hall ⟨3, .data⟩ (by simp) rfl
   obtain rfl := h.f3 s_3
   go_simp
   exact hK _ _ ⟨_, _, _, _, _, _, _, _, _, _, _, _, _, _, rfl, { h with f4 := fun _ => rfl }⟩
  ·have s_4 : S 4 = true := hall ⟨4, .data⟩ (by simp) rfl
   obtain rfl := h.f4 s_4
   obtain ⟨w5, hr5, ho5, hb5⟩ := make_str W M hM2 V.heap.size h.e.size; go_simp
   have h1 := h.grow hb5
   exact hK _ _ ⟨_, _, _, _, _, _, _, _, _, _, _, _, _, _, rfl, { h1 with f5 := fun _ => ⟨W.heap.size, rfl, h.e.size, ho5⟩ }⟩
  ·go_simp
   exact hK _ _ ⟨_, _, _, _, _, _, _, _, _, _, _, _, _, _, rfl, { h with f6 := fun _ => rfl }⟩
  ·have s_6 : S 6 = true := hall ⟨6, .data⟩ (by simp) rfl
   obtain rfl := h.f6 s_6
   have cW := (h.e.cell (p := ⟨p, 1, none⟩) hpv).trans cl1
   go_simp
   exact hK _ _ ⟨_, _, _, _, _, _, _, _, _, _, _, _, _, _, rfl, { h with f7 := fun _ => rfl }⟩
  ·go_simp
   exact hK _ _ ⟨_, _, _, _, _, _, _, _, _, _, _, _, _, _, rfl, { h with f8 := fun _ => rfl }⟩
  ·have s_8 : S 8 = true := hall ⟨8, .data⟩ (by simp) rfl
   obtain rfl := h.f8 s_8
   have cW := (h.e.cell (p := ⟨p, 1, none⟩) hpv).trans cl1
   go_simp
   exact hK _ _ ⟨_, _, _, _, _, _, _, _, _, _, _, _, _, _, rfl, { h with f9 := fun _ => rfl }⟩
  ·have s_7 : S 7 = true := hall ⟨7, .data⟩ (by simp) rfl
   obtain rfl := h.f7 s_7
   have s_9 : S 9 = true := hall ⟨9, .data⟩ (by simp) rfl
   obtain rfl := h.f9 s_9
   go_simp
   have h1 := h.grow ((Below.refl _ W).alloc (Nat.le_refl _) (.cells #[.string y, .string y] 9))
   exact hK _ _ ⟨_, _, _, _, _, _, _, _, _, _, _, _, _, _, rfl, { h1 with f10 := fun _ => ⟨W.heap.size, rfl, h.e.size, by simp, World.alloc_heap_new W _⟩ }⟩
  ·have s_10 : S 10 = true := hall ⟨10, .data⟩ (by simp) rfl
   obtain ⟨g10, rfl, hg10, hh10, hc10⟩ := h.f10 s_10
   go_simp
   refine (HS.out g10 W (lV.below h.e) hh10 (by rw [Lib.cell_of_heap hc10]; rfl) (by rw [Lib.cell_of_heap hc10]; rfl)).mono ?_
   rintro e w5 ⟨rfl, hb5⟩
   have h1 := h.grow hb5
   go_simp
   exact hK _ _ ⟨_, _, _, _, _, _, _, _, _, _, _, _, _, _, rfl, { h1 with f11 := fun _ => rfl }⟩
  ·have s_5 : S 5 = true := hall ⟨5, .data⟩ (by simp) rfl
   obtain ⟨g5, rfl, hg5, ho5⟩ := h.f5 s_5
   have s_11 : S 11 = true := hall ⟨11, .data⟩ (by simp) rfl
   obtain rfl := h.f11 s_11
   go_simp
   exact hK _ _ ⟨_, _, _, _, _, _, _, _, _, _, _, _, _, _, rfl, { h with f12 := fun _ => ⟨g5, rfl, hg5, ho5⟩ }⟩
  ·go_simp
   have h1 := h.grow ((Below.refl _ W).alloc (Nat.le_refl _) (.cells #[.slice none 0 0, .string ⟨#[]⟩] 170))
   exact hK _ _ ⟨_, _, _, _, _, _, _, _, _, _, _, _, _, _, rfl, { h1 with f13 := fun _ => ⟨W.heap.size, rfl, h.e.size, by simp, World.alloc_heap_new W _⟩ }⟩
 ·rintro S aa W hall ⟨x3, x5, x6, x7, x8, x9, x10, x11, x12, x13, x14, x15, x16, x17, rfl, h⟩
  obtain rfl := h.f0 (hall 0 (by decide))
  obtain rfl := h.f1 (hall 1 (by decide))
  obtain rfl := h.f2 (hall 2 (by decide))
  obtain rfl := h.f3 (hall 3 (by decide))
  obtain rfl := h.f4 (hall 4 (by decide))
  obtain ⟨g5, rfl, hg5, ho5⟩ := h.f5 (hall 5 (by decide))
  obtain rfl := h.f6 (hall 6 (by decide))
  obtain rfl := h.f7 (hall 7 (by decide))
  obtain rfl := h.f8 (hall 8 (by decide))
  obtain rfl := h.f9 (hall 9 (by decide))
  obtain ⟨g10, rfl, hg10, hh10, hc10⟩ := h.f10 (hall 10 (by decide))
  obtain rfl := h.f11 (hall 11 (by decide))
  obtain ⟨g12, rfl, hg12, ho12⟩ := h.f12 (hall 12 (by decide))
  obtain ⟨g13, rfl, hg13, hh13, hc13⟩ := h.f13 (hall 13 (by decide))
  have BWD := h.e
  clear h hall
  simp only [List.drop_succ_cons, List.drop_zero]
  have fz : ∀ o, W.frozen? ⟨g13, o, none⟩ = false := fun o => by simp [World.frozen?, hc13]
  have d0 : W.cell? ⟨g13, 0, none⟩ = some (.slice none 0 0) := by rw [Lib.cell_of_heap hc13]; rfl
  have d1 : W.cell? ⟨g13, 1, none⟩ = some (.string ⟨#[]⟩) := by rw [Lib.cell_of_heap hc13]; rfl
  have e13 := jam (jam hc13 0 (.slice (some ⟨g12, 0, none⟩) 0 M)) 1 (.string h2)
  have ho := ((ho12.kept (jbc [.slice (some ⟨g12, 0, none⟩) 0 M] 0 W) (.inr (jdf ho12 hc13))).kept (jbc [.string h2] 1 _) (.inr (jdf ho12 hc13)))
  have BU : Below V.heap.size V ((W.setCell ⟨g13, 0, none⟩ (.slice (some ⟨g12, 0, none⟩) 0 M)).setCell ⟨g13, 1, none⟩ (.string h2)) := jap hg13 [.string h2] 1 _ (jap hg13 [.slice (some ⟨g12, 0, none⟩) 0 M] 0 _ BWD)
  go_wp2_with fail
  refine wpOf (fun U => Below V.heap.size V U ∧ U.heap[g13]? = some (.cells #[.slice (some ⟨g12, 0, none⟩) 0 M, .string h2] 170 (0, 0)) ∧ U.ownsRow V.heap.size 9 1 (.slice (some ⟨g12, 0, none⟩) 0 M) 0 []) ⟨BU, e13, ho⟩ ?_
  rintro U ⟨BU, hc13, ho⟩
  clear e13 fz d0 d1 hh13 hh10 hc10 ho12 ho5 BWD hg5 hg12 hg10 HS q1 q2 q3 q4
  obtain ⟨z, hz⟩ : ∃ z, V.heap.size = z := ⟨_, rfl⟩
  rw [hz] at BU ho hpv hpv1 hg13
  have lU : Laid U := lV.below (by rw [hz]; exact BU)
  have sU : slS n U a xs := jan (BU.mono (by have := HP.out; omega)) sV
  replace cl0 := (BU.cell (p := ⟨p, 0, none⟩) hpv).trans cl0
  replace cl1 := (BU.cell (p := ⟨p, 1, none⟩) hpv).trans cl1
  have hzU : z ≤ U.heap.size := by rw [← hz]; exact BU.size
  go_loopg [4] M (fun gk i wr => ∃ (k : Nat) (v : Value), k + gk = M ∧ i = .int .i64 ((2 * k : Nat) : Int) ∧ Below z U wr ∧ z ≤ wr.heap.size ∧ wr.heap[g13]? = some (.cells #[v, .string h2] 170 (0, 0)) ∧ wr.ownsRow z 9 1 v k ((List.range k).map fun j => .string (hs (xs.getD (2 * j) y) (xs.getD (2 * j + 1) y))))
  case atStart => exact ⟨0, _, by omega, rfl, Below.refl _ _, hzU, hc13, ho⟩
  case round =>
   clear hc13 ho
   obtain ⟨k, v, hk, rfl, BW, hzw, hc13, hown⟩ := hrel
   have hr3 : ∀ b, v.ownBlock = some b → z ≤ b := fun b hb => (hown.lt b hb).1
   have m0 := (BW.cell (p := ⟨p, 0, none⟩) hpv).trans cl0
   have m1 := (BW.cell (p := ⟨p, 1, none⟩) hpv).trans cl1
   obtain ⟨q, hq⟩ : ∃ q, 2 * k = q := ⟨_, rfl⟩
   rw [hq]
   by_cases hlt : k < M
   ·have l0 : (q : Int) < N := by omega
    have wq : IntKind.i64.wrap ((q : Int) + 1) = ((q + 1 : Nat) : Int) := by rw [IntKind.wrap_i64]; omega
    have wq2 : IntKind.i64.wrap ((q : Int) + 2) = ((q + 2 : Nat) : Int) := by rw [IntKind.wrap_i64]; omega
    have d0 : wr.cell? ⟨g13, 0, none⟩ = some v := by rw [Lib.cell_of_heap hc13]; rfl
    have lW : Laid wr := hl.below (by rw [HP.out]; exact (BV.trans (BU.mono (by omega))).trans (BW.mono (by omega)))
    have sW : slS n wr a xs := jan (BW.mono (by have := HP.out; omega)) sU
    have hpw : p < wr.heap.size := by omega
    have hgw : g13 < wr.heap.size := (Array.getElem?_eq_some_iff.1 hc13).1
    have s1 : (xs.getD q y).size = 32 := getD_size xs y HZ.out hy q
    have s2 : (xs.getD (q + 1) y).size = 32 := getD_size xs y HZ.out hy (q + 1)
    have KA1 : ∀ W : World, Below wr.heap.size wr W → _ := fun W hB => at_any xs a c y q n W (by have := HP.out; have := hB.size; omega) (jan (hB.mono (by have := HP.out; omega)) sW)
    have KA2 : ∀ W : World, Below wr.heap.size wr W → _ := fun W hB => at_any xs a c y (q + 1) n W (by have := HP.out; have := hB.size; omega) (jan (hB.mono (by have := HP.out; omega)) sW)
    rw [HN.out] at KA1 KA2
    have KS2 : ∀ (g : Nat) (W : World), Below wr.heap.size wr W → _ := fun (g : Nat) (W : World) (hB : Below wr.heap.size wr W) (hg : g < W.heap.size) h0 h1 => jfj (xs.getD q y) (xs.getD (q + 1) y) _ (jdy _ _) (by omega) (by omega) g W (lW.below hB) hg h0 h1
    obtain ⟨X1, hX1⟩ : ∃ x, xs.getD q y = x := ⟨_, rfl⟩
    obtain ⟨X2, hX2⟩ : ∃ x, xs.getD (q + 1) y = x := ⟨_, rfl⟩
    obtain ⟨X3, hX3⟩ : ∃ x, jco (X1 ++ X2) = x := ⟨_, rfl⟩
    rw [hX1, hX2, hX3] at KS2
    rw [hX1] at KA1
    rw [hX2] at KA2
    have HX : Hid (_ ∧ _ ∧ _) := ⟨hX1, hX2, hX3⟩
    have HA : Hid (_ ∧ _ ∧ _) := ⟨KA1, KA2, KS2⟩
    clear hX1 hX2 hX3 s1 s2 KA1 KA2 KS2
    go_wp2_with fail
    refine jaw 12 (fun S aa W => ∃ x25 x26 x27 x28 x29 x30 x31 x32 x33 x34 x35 x36 : Value, aa = { tmps := #[Value.agg #[Value.slice a N c, Value.string y], Value.pointer (some { block := p, off := 0 }), Value.pointer (some { block := p + 1, off := 0 }), Value.pointer (some { block := g13, off := 0 }), Value.int IntKind.i64 ↑q, Value.pointer (some { block := p, off := 0 }), Value.slice a N c, Value.int IntKind.i64 ↑N, Value.int IntKind.i64 (↑N + 1), Value.int IntKind.i64 ↑M, Value.slice (some { block := g5, off := 0 }) 0 M, Value.pointer (some { block := p, off := 1 }), Value.string y, Value.pointer (some { block := p, off := 1 }), Value.string y, Value.slice (some { block := g10, off := 0 }) 2 2, Value.string h2, Value.agg #[Value.slice (some { block := g12, off := 0 }) 0 M, Value.string h2], Value.int IntKind.i64 ↑q, Value.pointer (some { block := p, off := 0 }), Value.slice a N c, Value.int IntKind.i64 ↑N, Value.bool true, u23, u24, x25, x26, x27, x28, x29, x30, x31, x32, x33, x34, x35, x36, u37, u38, undef], defers := [] } ∧ AbL wr a p g13 N c q y X1 X2 X3 v S x25 x26 x27 x28 x29 x30 x31 x32 x33 x34 x35 x36 W) (by kernel_rfl) (by kernel_rfl) ?_ ?_ ?_
    ·exact ⟨u25, u26, u27, u28, u29, u30, u31, u32, u33, u34, u35, u36, rfl, ⟨(Below.refl _ wr).drew, nofun, nofun, nofun, nofun, nofun, nofun, nofun, nofun, nofun, nofun, nofun, nofun⟩⟩
    ·intro i o S aa W hin hi hun hJ hall K hK
     obtain ⟨x25, x26, x27, x28, x29, x30, x31, x32, x33, x34, x35, x36, rfl, h⟩ := hJ
     have hlt : i < 12 := hin
     have hcase : i = 0 ∨ i = 1 ∨ i = 2 ∨ i = 3 ∨ i = 4 ∨ i = 5 ∨ i = 6 ∨ i = 7 ∨ i = 8 ∨ i = 9 ∨ i = 10 ∨ i = 11 := by omega
     rcases hcase with rfl | rfl | rfl | rfl | rfl | rfl | rfl | rfl | rfl | rfl | rfl | rfl
     all_goals (have ho := (Option.some.inj hi).symm; subst ho; clear hi hlt hin)
     ·go_simp
      exact hK _ _ ⟨_, _, _, _, _, _, _, _, _, _, _, _, rfl, { h with f0 := fun _ => rfl }⟩
     ·have s_0 : S 0 = true := hall ⟨0, .data⟩ (by simp) rfl
      obtain rfl := h.f0 s_0
      have cW := (h.e.cell (p := ⟨g13, 0, none⟩) hgw).trans d0
      go_simp
      exact hK _ _ ⟨_, _, _, _, _, _, _, _, _, _, _, _, rfl, { h with f1 := fun _ => rfl }⟩
     ·have cW := (h.e.cell (p := ⟨p, 0, none⟩) hpw).trans m0
      have cW1 := (h.e.cell (p := ⟨p, 1, none⟩) hpw).trans m1
      go_simp
      exact hK _ _ ⟨_, _, _, _, _, _, _, _, _, _, _, _, rfl, { h with f2 := fun _ => rfl }⟩
     ·go_simp
      exact hK _ _ ⟨_, _, _, _, _, _, _, _, _, _, _, _, rfl, { h with f3 := fun _ => rfl }⟩
     ·have s_2 : S 2 = true := hall ⟨2, .data⟩ (by simp) rfl
      obtain rfl := h.f2 s_2
      have s_3 : S 3 = true := hall ⟨3, .data⟩ (by simp) rfl
      obtain rfl := h.f3 s_3
      go_simp
      refine (HA.out.1 W h.e).mono ?_
      rintro e w5 ⟨rfl, hb5⟩
      have h1 := h.grow hb5
      go_simp
      exact hK _ _ ⟨_, _, _, _, _, _, _, _, _, _, _, _, rfl, { h1 with f4 := fun _ => rfl }⟩
     ·have cW := (h.e.cell (p := ⟨p, 0, none⟩) hpw).trans m0
      have cW1 := (h.e.cell (p := ⟨p, 1, none⟩) hpw).trans m1
      go_simp
      exact hK _ _ ⟨_, _, _, _, _, _, _, _, _, _, _, _, rfl, { h with f5 := fun _ => rfl }⟩
     ·go_simp
      exact hK _ _ ⟨_, _, _, _, _, _, _, _, _, _, _, _, rfl, { h with f6 := fun _ => rfl }⟩
     ·have s_6 : S 6 = true := hall ⟨6, .data⟩ (by simp) rfl
      obtain rfl := h.f6 s_6
      go_simp
      exact hK _ _ ⟨_, _, _, _, _, _, _, _, _, _, _, _, rfl, { h with f7 := fun _ => rfl }⟩
     ·have s_5 : S 5 = true := hall ⟨5, .data⟩ (by simp) rfl
      obtain rfl := h.f5 s_5
      have s_7 : S 7 = true := hall ⟨7, .data⟩ (by simp) rfl
      obtain rfl := h.f7 s_7
      go_simp
      refine (HA.out.2.1 W h.e).mono ?_
      rintro e w5 ⟨rfl, hb5⟩
      have h1 := h.grow hb5
      go_simp
      exact hK _ _ ⟨_, _, _, _, _, _, _, _, _, _, _, _, rfl, { h1 with f8 := fun _ => rfl }⟩
     ·have s_4 : S 4 = true := hall ⟨4, .data⟩ (by simp) rfl
      obtain rfl := h.f4 s_4
      have s_8 : S 8 = true := hall ⟨8, .data⟩ (by simp) rfl
      obtain rfl := h.f8 s_8
      go_simp
      have h1 := h.grow ((Below.refl _ W).alloc (Nat.le_refl _) (.cells #[.string X1, .string X2] 9))
      exact hK _ _ ⟨_, _, _, _, _, _, _, _, _, _, _, _, rfl, { h1 with f9 := fun _ => ⟨W.heap.size, rfl, h.e.size, by simp, World.alloc_heap_new W _⟩ }⟩
     ·have s_9 : S 9 = true := hall ⟨9, .data⟩ (by simp) rfl
      obtain ⟨g9, rfl, hg9, hh9, hc9⟩ := h.f9 s_9
      go_simp
      refine (HA.out.2.2 g9 W h.e hh9 (by rw [Lib.cell_of_heap hc9]; rfl) (by rw [Lib.cell_of_heap hc9]; rfl)).mono ?_
      rintro e w5 ⟨rfl, hb5⟩
      have h1 := h.grow hb5
      go_simp
      exact hK _ _ ⟨_, _, _, _, _, _, _, _, _, _, _, _, rfl, { h1 with f10 := fun _ => rfl }⟩
     ·have s_10 : S 10 = true := hall ⟨10, .data⟩ (by simp) rfl
      obtain rfl := h.f10 s_10
      go_simp
      have h1 := h.grow ((Below.refl _ W).alloc (Nat.le_refl _) (.cells #[.string X3] 9))
      exact hK _ _ ⟨_, _, _, _, _, _, _, _, _, _, _, _, rfl, { h1 with f11 := fun _ => ⟨W.heap.size, rfl, h.e.size, by simp, World.alloc_heap_new W _⟩ }⟩
    ·rintro S aa W hall ⟨x25, x26, x27, x28, x29, x30, x31, x32, x33, x34, x35, x36, rfl, h⟩
     obtain rfl := h.f0 (hall 0 (by decide))
     obtain rfl := h.f1 (hall 1 (by decide))
     obtain rfl := h.f2 (hall 2 (by decide))
     obtain rfl := h.f3 (hall 3 (by decide))
     obtain rfl := h.f4 (hall 4 (by decide))
     obtain rfl := h.f5 (hall 5 (by decide))
     obtain rfl := h.f6 (hall 6 (by decide))
     obtain rfl := h.f7 (hall 7 (by decide))
     obtain rfl := h.f8 (hall 8 (by decide))
     obtain ⟨g9, rfl, hg9, hh9, hc9⟩ := h.f9 (hall 9 (by decide))
     obtain rfl := h.f10 (hall 10 (by decide))
     obtain ⟨gg, rfl, hgg, hhg, hcg⟩ := h.f11 (hall 11 (by decide))
     have BWD := h.e
     clear h hall
     simp only [List.drop_succ_cons, List.drop_zero]
     have hown2 := jax hown BWD
     have hzW : z ≤ W.heap.size := Nat.le_trans hzw BWD.size
     have BW2 := jaa BW hzw BWD
     have hc2 := (BWD.block g13 hgw).trans hc13
     have HV : Hid (_ ∧ _ ∧ _) := ⟨hown2, hcg, hc2⟩
     clear hown BW BWD hown2 hcg hc2 d0 m0 m1 lW sW
     go_wp2_with (at_builtin; refine wpList_append_own _ rfl _ _ 27 rfl z 9 i0 (.string ⟨#[]⟩) 1 16 Tryz.underlying27 hi0 hz0 hz1 hz2 rfl (by decide) _ _ _ rfl HV.out.1 ⟨gg, 0, none⟩ 1 1 [.string X3] rfl rfl ?c1 (by intro u hu; simp at hu; subst hu; rfl) (by unfold maxLen; omega) (by omega) hzW ?_)
     case c1 =>
      intro j u hj
      rw [Addr.add_lit, Lib.cell_of_heap HV.out.2.1, Nat.zero_add]
      simpa using hj
     intro v' w6 hown' hgrow hiff
     obtain ⟨a1, c1, rfl⟩ := jck hown'
     have hc3 : w6.heap[g13]? = some (.cells #[x26, .string h2] 170 (0, 0)) := (hgrow.block g13 (Array.getElem?_eq_some_iff.1 HV.out.2.2).1 (fun e => jdf HV.out.1 HV.out.2.2 e.symm)).trans HV.out.2.2
     have fz : ∀ o, w6.frozen? ⟨g13, o, none⟩ = false := fun o => by simp [World.frozen?, hc3]
     have d0 : w6.cell? ⟨g13, 0, none⟩ = some x26 := by rw [Lib.cell_of_heap hc3]; rfl
     have e13 := jam hc3 0 (Value.slice a1 (k + 1) c1)
     have ho := hown'.kept (jbc [.slice a1 (k + 1) c1] 0 w6) (.inr (jdf hown' hc3))
     have BU6 : Below z U (w6.setCell ⟨g13, 0, none⟩ (.slice a1 (k + 1) c1)) := jap (b := g13) hg13 [.slice a1 (k + 1) c1] 0 _ (BW2.grown hgrow hzW (fun b hb => hr3 b hb))
     have hsz6 : z ≤ (w6.setCell ⟨g13, 0, none⟩ (.slice a1 (k + 1) c1)).heap.size := Nat.le_trans (Nat.le_trans hzW hgrow.size) (Nat.le_of_eq (jbv g13 [.slice a1 (k + 1) c1] 0 w6).symm)
     have HW : Hid (_ ∧ _ ∧ _ ∧ _) := ⟨e13, ho, BU6, hsz6⟩
     clear hown' hgrow hiff hc3 e13 ho BU6 hsz6
     go_wp2
     go_roundg (gk - 1)
     case measure => omega
     case rel =>
      obtain ⟨e13, ho, BU6, hsz6⟩ := HW.out
      refine ⟨k + 1, .slice a1 (k + 1) c1, by omega, by first | rfl | (congr 1; omega), BU6, hsz6, e13, ?_⟩
      rw [map_snoc, hq, HX.out.1, HX.out.2.1]
      unfold hs
      rw [HX.out.2.2]
      exact ho
   ·have l0 : ¬ (q : Int) < N := by omega
    have hk2 : k = M := by omega
    have hlen : (upL xs y).length = k := by unfold upL; rw [List.length_map, List.length_range, HN.out, hM, hk2]
    have hup : ((List.range k).map fun j => Value.string (hs (xs.getD (2 * j) y) (xs.getD (2 * j + 1) y))) = (upL xs y).map .string := by
     unfold upL
     rw [HN.out, hM, hk2, List.map_map]
     rfl
    rw [hup, ← hlen] at hown
    obtain ⟨a', c', rfl, hsl⟩ := slS_owns hown
    have BF := (BV.trans (BU.mono (by omega))).trans (BW.mono (by omega))
    rw [hlen] at hc13
    have d0 : wr.cell? ⟨g13, 0, none⟩ = some (.slice a' k c') := by rw [Lib.cell_of_heap hc13]; rfl
    have d1 : wr.cell? ⟨g13, 1, none⟩ = some (.string h2) := by rw [Lib.cell_of_heap hc13]; rfl
    have hbp := (BW.block (p + 1) hpv1).trans ((BU.block (p + 1) hpv1).trans hb1)
    have fz : ∀ o, wr.frozen? ⟨p + 1, o, none⟩ = false := fun o => by simp [World.frozen?, hbp]
    have r0 : wr.cell? ⟨p + 1, 0, none⟩ = some (.slice none 0 0) := by rw [Lib.cell_of_heap hbp]; rfl
    have r1 : wr.cell? ⟨p + 1, 1, none⟩ = some (.string ⟨#[]⟩) := by rw [Lib.cell_of_heap hbp]; rfl
    have e13 := jam (jam hbp 0 (.slice a' k c')) 1 (.string h2)
    have BF2 : Below p w ((wr.setCell ⟨p + 1, 0, none⟩ (.slice a' k c')).setCell ⟨p + 1, 1, none⟩ (.string h2)) := jap (b := p + 1) (by omega) [.string h2] 1 _ (jap (b := p + 1) (by omega) [.slice a' k c'] 0 _ BF)
    have hs2 := owns_sl2 hown (cs := #[.slice none 0 0, .string ⟨#[]⟩]) hbp (.slice a' k c') (.string h2)
    have HF : Hid (_ ∧ _ ∧ _ ∧ _) := ⟨hs2, hlen, BF2, e13⟩
    clear hown hsl BW BU hc13 hup hbp hs2 BF BF2 e13
    subst hk2
    go_wp2
    obtain ⟨hs2, hlen, BF2, e13⟩ := HF.out
    have t0 : ((wr.setCell ⟨p + 1, 0, none⟩ (.slice a' k c')).setCell ⟨p + 1, 1, none⟩ (.string h2)).cell? ⟨p + 1, 0, none⟩ = some (.slice a' k c') := by rw [Lib.cell_of_heap e13]; rfl
    have t1 : ((wr.setCell ⟨p + 1, 0, none⟩ (.slice a' k c')).setCell ⟨p + 1, 1, none⟩ (.string h2)).cell? ⟨p + 1, 1, none⟩ = some (.string h2) := by rw [Lib.cell_of_heap e13]; rfl
    refine bodyPost_ret (v := .agg #[.slice a' k c', .string h2]) (by simp [results, Tryz.results147, go_sem, t0, t1]) rfl ⟨⟨a', c', ?_, slF_mono hs2 (by omega)⟩, BF2⟩
    rw [hlen]
    unfold hs
    rw [HH.out]
end Go.Proofs.YtoddangedbefgabGreatDoor
namespace Go.Proofs.YtoddangedbefgabGreatDoor
open Go.RowKit Go.Shelf Go.Sort
def cOk (x : ByteArray) : Bool := decide (x.size = 32)
theorem notChunk_any (x : ByteArray) (w : World) :
  Calls Tryz.prog 145 #[.string x] w fun r w' => r = .returned (.bool (!cOk x)) ∧ Below w.heap.size w w' := by
 have K := jef x
 have e : decide (x.size = 32) = cOk x := rfl
 rw [e] at K
 obtain ⟨ok, hok⟩ : ∃ q, cOk x = q := ⟨_, rfl⟩
 rw [hok] at K ⊢
 clear hok e
 go_enter Tryz.func145, Tryz.ntmps145
 go_wp2_with fail
 refine (K _).mono ?_
 rintro e w1 ⟨rfl, rfl⟩
 clear K
 go_wp2
 go_ret
 exact ⟨rfl, Below.refl _ _⟩
def IxC (es : List ByteArray) (r : Ending) : Prop := ∃ i : Int, r = .returned (.int .i64 i) ∧ decide (0 ≤ i) = !es.all cOk
theorem IxC.at {es : List ByteArray} {k : Nat} {e : ByteArray} (he : es[k]? = some e) (h : cOk e = false) : IxC es (.returned (.int .i64 (k : Int))) := by
 refine ⟨k, rfl, ?_⟩
 have : es.all cOk = false := List.all_eq_false.2 ⟨e, List.mem_of_getElem? he, by rw [h]; decide⟩
 rw [this]
 exact decide_eq_true (by omega)
theorem IxC.none {es : List ByteArray} (h : ∀ (j : Nat) (e : ByteArray), es[j]? = some e → cOk e = true) : IxC es (.returned (.int .i64 (-1))) := by
 refine ⟨-1, rfl, ?_⟩
 have : es.all cOk = true := List.all_eq_true.2 fun e he => by
  obtain ⟨j, hj⟩ := List.mem_iff_getElem?.1 he
  exact h j e hj
 rw [this]
 rfl
theorem indexFunc_any (es : List ByteArray) (hl : es.length < 1000000) (a : Option Addr) (c n : Nat) (w : World) (hn : n ≤ w.heap.size) (hp : slS n w a es) :
  Calls Tryz.prog 162 #[.slice a es.length c, .func (.func 145) #[] #[]] w fun r w' => IxC es r ∧ Below w.heap.size w w' := by
 obtain ⟨N, hN⟩ : ∃ N, es.length = N := ⟨_, rfl⟩
 have HN : Hid (es.length = N) := hN
 rw [hN] at hl ⊢
 clear hN
 obtain ⟨z, hz⟩ : ∃ z, w.heap.size = z := ⟨_, rfl⟩
 rw [hz] at hn ⊢
 have B0 : Below z w w := by rw [← hz]; exact Below.refl _ _
 have HZ : Hid _ := hz
 clear hz
 go_enter Tryz.func162, Tryz.ntmps162
 go_wp2_with fail
 go_loopg [8] N (fun gk i wr => ∃ k : Nat, k + gk = N ∧ i = .int .i64 k ∧ (∀ (j : Nat) (e : ByteArray), j < k → es[j]? = some e → cOk e = true) ∧ Below z w wr)
 case atStart => exact ⟨0, by omega, rfl, fun j e h => by omega, B0⟩
 case round =>
  obtain ⟨k, hk, rfl, hA, BW⟩ := hrel
  have HA : Hid _ := hA
  clear hA
  have hwz : z ≤ wr.heap.size := by have := BW.size; have := HZ.out; omega
  by_cases hlt : k < N
  ·have l1 : (k : Int) < N := by omega
   obtain ⟨f, hf⟩ : ∃ f, es[k]? = some f := ⟨es[k]'(by have := HN.out; omega), List.getElem?_eq_getElem (by have := HN.out; omega)⟩
   obtain ⟨b, o, rfl, hb, c0⟩ := jci hp k f hf
   replace c0 := (BW.cell (p := ⟨b, _, none⟩) (by show b < z; omega)).trans c0
   obtain ⟨r, hr⟩ : ∃ p, o + k = p := ⟨_, rfl⟩
   rw [hr] at c0
   have wk : IntKind.i64.wrap ((k : Int) + 1) = ((k + 1 : Nat) : Int) := by rw [IntKind.wrap_i64]; omega
   have KW := notChunk_any f
   obtain ⟨ok, hok⟩ : ∃ q, cOk f = q := ⟨_, rfl⟩
   rw [hok] at KW
   have HF : Hid (_ ∧ _) := ⟨hf, hok⟩
   clear hf hok
   go_wp2_with fail
   refine (KW _).mono ?_
   rintro e w3 ⟨rfl, B3⟩
   clear KW c0
   cases ok with
   | false =>
    go_wp2
    go_ret
    exact ⟨IxC.at HF.out.1 HF.out.2, jaa BW hwz B3⟩
   | true =>
    go_wp2
    go_roundg (gk - 1)
    case measure => omega
    case rel =>
     refine ⟨k + 1, by omega, by first | rfl | (congr 1; omega), fun j e hj he => ?_, jaa BW hwz B3⟩
     by_cases hjk : j = k
     ·subst hjk
      rw [HF.out.1] at he
      cases he
      exact HF.out.2
     ·exact HA.out j e (by omega) he
  ·have l1 : ¬ (k : Int) < N := by omega
   go_wp2
   go_ret
   exact ⟨IxC.none fun j e he => HA.out j e (by have := (List.getElem?_eq_some_iff.1 he).1; have := HN.out; omega) he, BW⟩
theorem containsFunc_any (es : List ByteArray) (hl : es.length < 1000000) (a : Option Addr) (c n : Nat) (w : World) (hn : n ≤ w.heap.size) (hp : slS n w a es) :
  Calls Tryz.prog 144 #[.slice a es.length c, .func (.func 145) #[] #[]] w fun r w' => r = .returned (.bool (!es.all cOk)) ∧ Below w.heap.size w w' := by
 have KI := indexFunc_any es hl a c n w hn hp
 obtain ⟨N, hN⟩ : ∃ N, es.length = N := ⟨_, rfl⟩
 rw [hN] at KI ⊢
 go_enter Tryz.func144, Tryz.ntmps144
 go_wp2_with fail
 refine KI.mono ?_
 rintro e w1 ⟨⟨i, rfl, hi⟩, B1⟩
 have HI : Hid _ := hi
 clear hi KI
 go_wp2
 go_ret
 exact ⟨by rw [← HI.out]; rfl, B1⟩
theorem all_cOk (xs : List ByteArray) : xs.all cOk = true ↔ ∀ x ∈ xs, x.size = 32 := by
 rw [List.all_eq_true]
 constructor
 ·intro h x hx
  exact of_decide_eq_true (h x hx)
 ·intro h x hx
  exact decide_eq_true (h x hx)
theorem rt8_no {xs : List ByteArray} {d : Int} (h : ¬ (0 ≤ d ∧ d ≤ 10 ∧ xs.length ≤ 2 ^ d.toNat ∧ xs.length ≤ 256)) : rt8 xs d = false := decide_eq_false fun hh => h ⟨hh.1, hh.2.1, hh.2.2.1, hh.2.2.2.1⟩
theorem rt8_all {xs : List ByteArray} {d : Int} (h : 0 ≤ d ∧ d ≤ 10 ∧ xs.length ≤ 2 ^ d.toNat ∧ xs.length ≤ 256) : rt8 xs d = xs.all cOk := by
 rw [Bool.eq_iff_iff, jfm, all_cOk]
 exact ⟨fun hh => hh.2.2.2.2, fun hh => ⟨h.1, h.2.1, h.2.2.1, h.2.2.2, hh⟩⟩
theorem haveTree_any (xs : List ByteArray) (d : Int) (a : Option Addr) (c n : Nat) (w : World) (hn : n ≤ w.heap.size) (hp : slS n w a xs) :
  Calls Tryz.prog 124 #[.slice a xs.length c, .int .i64 d] w fun r w' => r = .returned (.bool (rt8 xs d)) ∧ Below w.heap.size w w' := by
 obtain ⟨N, hN⟩ : ∃ N, xs.length = N := ⟨_, rfl⟩
 by_cases h0 : d < 0
 ·rw [rt8_no (by omega), hN]
  go_enter Tryz.func124, Tryz.ntmps124
  go_wp2
  go_ret
  exact ⟨rfl, Below.refl _ _⟩
 ·by_cases h1 : 10 < d
  ·rw [rt8_no (by omega), hN]
   go_enter Tryz.func124, Tryz.ntmps124
   go_wp2
   go_ret
   exact ⟨rfl, Below.refl _ _⟩
  ·obtain ⟨k, rfl⟩ : ∃ k : Nat, d = (k : Int) := ⟨d.toNat, by omega⟩
   have hk : k ≤ 10 := by omega
   have hpow : 2 ^ k ≤ 1024 := Nat.pow_le_pow_right (by decide) hk
   have hmin : min k 64 = k := by omega
   obtain ⟨q, hq⟩ : ∃ q, 2 ^ k = q := ⟨_, rfl⟩
   have hqi : (2 : Int) ^ k = (q : Int) := by rw [← hq]; simp
   have wq : IntKind.i64.wrap (q : Int) = q := by rw [IntKind.wrap_i64]; omega
   obtain ⟨m, hm⟩ : ∃ m, min q 256 = m := ⟨_, rfl⟩
   have hmi : min (q : Int) 256 = m := by omega
   by_cases h2 : m < N
   ·rw [rt8_no (by rw [Int.toNat_natCast, hq, hN]; omega), hN]
    have l2 : (m : Int) < N := by omega
    go_enter Tryz.func124, Tryz.ntmps124
    go_wp2
    go_ret
    exact ⟨rfl, Below.refl _ _⟩
   ·have KC := containsFunc_any xs (by omega) a c n w hn hp
    rw [rt8_all (by rw [Int.toNat_natCast, hq, hN]; omega)]
    have l2 : ¬ (m : Int) < N := by omega
    rw [hN] at KC ⊢
    obtain ⟨ok, hok⟩ : ∃ q, xs.all cOk = q := ⟨_, rfl⟩
    rw [hok] at KC ⊢
    clear hok
    go_enter Tryz.func124, Tryz.ntmps124
    go_wp2_with fail
    refine KC.mono ?_
    rintro e w1 ⟨rfl, B1⟩
    clear KC
    go_wp2
    go_ret
    exact ⟨by simp, B1⟩
end Go.Proofs.YtoddangedbefgabGreatDoor
