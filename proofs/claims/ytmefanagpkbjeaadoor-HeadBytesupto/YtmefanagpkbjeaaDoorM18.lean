/- Lemmas: Bytes as chunks: the program's filledUp and Pack, the reference's Pack. -/
import Derived.Test.YtmefanagpkbjeaaDoorM1
import Derived.Test.YtmefanagpkbjeaaDoorM10
import Derived.Test.YtmefanagpkbjeaaDoorM11
import Derived.Test.YtmefanagpkbjeaaDoorM12
import Derived.Test.YtmefanagpkbjeaaDoorM13
import Derived.Test.YtmefanagpkbjeaaDoorM14
import Derived.Test.YtmefanagpkbjeaaDoorM15
import Derived.Test.YtmefanagpkbjeaaDoorM16
import Derived.Test.YtmefanagpkbjeaaDoorM17
import Derived.Test.YtmefanagpkbjeaaDoorM2
import Derived.Test.YtmefanagpkbjeaaDoorM3
import Derived.Test.YtmefanagpkbjeaaDoorM4
import Derived.Test.YtmefanagpkbjeaaDoorM6
import Derived.Test.YtmefanagpkbjeaaDoorM7
import Derived.Test.YtmefanagpkbjeaaDoorM8
import Derived.Test.YtmefanagpkbjeaaDoorM9
import Derived.Test.YtmefanagpkbjeaaDoorRows
import Derived.Lib.AppendStr
namespace Go.Proofs.YtmefanagpkbjeaaDoor
open Go.RowKit Go.Shelf Go.Sort Go.Lib

/-- A byte of a chunk that is filled up; the chunk. -/
def upAt (m : Nat) (f : Nat → Int) (j : Nat) : Int := if j < m then f j else 0
theorem up_bd (m : Nat) (f : Nat → Int) (hf : ∀ j, 0 ≤ f j ∧ f j < 256) (j : Nat) : 0 ≤ upAt m f j ∧ upAt m f j < 256 := by
  unfold upAt
  split
  · exact hf j
  · decide
def ckN (s : ByteArray) (k : Nat) : ByteArray := ⟨(s_by8 32 (upAt (s.size - 32 * k) fun j => s_bt s (32 * k + j))).toArray⟩
theorem ck_size (s : ByteArray) (k : Nat) : (ckN s k).size = 32 := by8_size8 _ _
/-- The chunks of a text. -/
def pk (s : ByteArray) : List ByteArray := (List.range ((s.size + 31) / 32)).map (ckN s)
theorem pk_len (s : ByteArray) : (pk s).length = (s.size + 31) / 32 := by simp [pk]
theorem pk_mem (s : ByteArray) : ∀ x ∈ pk s, x.size = 32 := fun x hx => by
  obtain ⟨k, _, rfl⟩ := List.mem_map.1 hx
  exact ck_size s k
theorem bt_ck (s : ByteArray) (k j : Nat) (hj : j < 32) : s_bt (ckN s k) j = if 32 * k + j < s.size then s_bt s (32 * k + j) else 0 := by
  unfold ckN
  rw [bt_by88 32 _ (up_bd _ _ fun j => s_bt_bd _ _) j hj, upAt]
  by_cases h : 32 * k + j < s.size
  · rw [if_pos h, if_pos (by omega)]
  · rw [if_neg h, if_neg (by omega)]
/-- What an append that is known does. -/
theorem wpList_append_ran {P : Program} {w : World} {ops : Array Oper} {rest : List Oper} {o : Oper} {a : Act} {Q : Exit → Act → World → Prop} (hgd : o.guard = none) (sl x : Operand) (t u : TypeId)
    (ho : o.op = .call { callee := .builtin .append, args := #[sl, x], argTypes := #[t, u] }) (v y v' : Value) (w' : World) (hs : a.eval sl = v) (hx : a.eval x = y)
    (hr : (Builtin.append_ #[t, u] o.type #[v, y]).run P w = .ok v' w') (h : wpList P ops Q rest (a.put o.dst v') w') : wpList P ops Q (o :: rest) a w := by
  refine wpList_plain hgd fun K hK => ?_
  unfold Oper.wp execOp
  simp only [ho, resolve, invoke, builtin, Sem.run_bind, Sem.run_pure, Result.andThen_ok, List.map_toArray, List.map_cons, List.map_nil, hs, hx, hr]
  exact hK _ _ h
/-- Nothing behind a slice leaves it. -/
theorem run_append_none {P : Program} (w : World) (t u ty e : TypeId) (i : TypeInfo) (ht : P.underlying t = some (.slice e)) (hu : P.underlying u = some .string) (hi : P.info? e = some i) (b : Addr) (n c : Nat) (hc : n ≤ c) (s : ByteArray) (hs : s.size = 0) :
    (Builtin.append_ #[t, u] ty #[.slice (some b) n c, .string s]).run P w = .ok (.slice (some b) n c) w := by
  have hf := run_firstCells_string (P := P) w i.size s
  have h0 : strCells s = [] := List.length_eq_zero_iff.1 (by rw [strCells_length, hs])
  rw [h0, hs] at hf
  have hroom : ¬ c < n := Nat.not_lt.2 hc
  simp [Builtin.append_, run_underlying ht, run_underlying hu, sizeOf, typeInfo, hi, Builtin.lenOf, hs, hroom, hf, storeCells]
set_option maxRecDepth 20000 in
set_option maxHeartbeats 1000000 in
theorem filledUp8_any (b o m : Nat) (hm : m ≤ 32) (f : Nat → Int) (hf : ∀ j, 0 ≤ f j ∧ f j < 256) (w : World) (hc : ∀ j, j < m → w.cell? ⟨b, o + j, none⟩ = some (.int .u8 (f j))) :
    Calls Tryd.prog 71 #[.slice (some ⟨b, o, none⟩) m m] w fun e w' => e = .returned (.string ⟨(s_by8 32 (upAt m f)).toArray⟩) ∧ Below w.heap.size w w' := by
  obtain ⟨i0, hi0, hz0, hz1, hz2⟩ := info_parts info_u8'
  have HC : Hid (∀ j, j < m → w.cell? ⟨b, o + j, none⟩ = some (.int .u8 (f j))) := hc
  clear hc
  have l0 : (0 : Int) ≤ m := by omega
  have l1 : (m : Int) ≤ 32 := by omega
  obtain ⟨s, hs⟩ : ∃ s, z32.extract m 32 = s := ⟨_, rfl⟩
  have hsz : s.size = 32 - m := by rw [← hs, ByteArray.size_extract]; show min 32 32 - m = _; omega
  have hsb : ∀ j (h : j < (strCells s).length), (strCells s)[j] = .int .u8 0 := fun j h => by
    rw [strCells_length, hsz] at h
    have e1 : s.data[j]'(by show j < s.size; omega) = 0 := by
      subst hs
      have h2 : m + j < 32 := by omega
      have e2 : ∀ k : Fin 32, z32.data[k.val]'(k.isLt) = 0 := by decide
      simp only [ByteArray.data_extract, Array.getElem_extract]
      exact e2 ⟨m + j, h2⟩
    simp only [strCells, List.getElem_map, Array.getElem_toList, e1]
    rfl
  by_cases h32 : m = 32
  · subst h32
    have hrun := run_append_none (P := Tryd.prog) w 58 9 58 5 i0 Tryd.underlying58 Tryd.underlying9 hi0 ⟨b, o, none⟩ 32 32 (Nat.le_refl _) s (by omega)
    have hcv := run_convert_bytes_back (P := Tryd.prog) w 58 9 5 ⟨b, o, none⟩ 32 (s_by8 32 (upAt 32 f)) Tryd.underlying58 Tryd.underlying5 Tryd.underlying9 (fun j hj => by
      rw [s_by8_len] at hj
      rw [s_by8_at _ _ (up_bd _ _ hf), upAt, if_pos hj, Addr.add_mid]
      exact HC.out j hj)
    rw [s_by8_len] at hcv
    have HX : Hid (_ ∧ _) := ⟨hs, hrun⟩
    clear hrun hsb
    go_enter Tryd.func71, Tryd.ntmps71
    go_wp2_with (at_builtin; refine wpList_append_ran rfl _ _ 58 9 rfl _ (.string s) _ _ rfl ?c1 HX.out.2 ?_)
    case c1 => exact congrArg Value.string HX.out.1
    go_wp2
    go_ret
    exact ⟨rfl, Below.refl _ _⟩
  · have hgc := grownCap_ge w 32 m 5
    have hrun := run_append_grow_string (P := Tryd.prog) w 58 9 58 5 i0 (.int .u8 0) Tryd.underlying58 Tryd.underlying9 hi0 hz0 ⟨b, o, none⟩ m m (fl m fun j => .int .u8 (f j)) (by rw [fl_len, hz1, Nat.mul_one]) (fun j v hv => by
      obtain ⟨hj, rfl⟩ := fl_get _ _ _ _ hv
      rw [Addr.add_mid]
      exact HC.out j hj) s (by omega) (by omega) (by rw [hz2, hsz, show m + (32 - m) = 32 by omega]; unfold Builtin.nextslicecap; rw [if_pos (show m < 256 by omega)]; split <;> omega)
    rw [hsz, show m + (32 - m) = 32 by omega] at hrun
    obtain ⟨cp, hcp⟩ : ∃ c, grownCap w 32 m 5 = c := ⟨_, rfl⟩
    rw [hcp] at hrun
    obtain ⟨w1, hw1⟩ : ∃ x, w.drew.alloc (.cells ((fl m fun j => .int .u8 (f j)).toArray ++ (strCells s).toArray ++ Builtin.zeroCells (Value.int .u8 0).cells (cp - 32)) 5) = x := ⟨_, rfl⟩
    rw [hw1] at hrun
    have B1 : Below w.heap.size w w1 := by rw [← hw1]; exact (Below.refl _ w).drew.alloc (by simp) _
    have hcv := run_convert_bytes_back (P := Tryd.prog) w1 58 9 5 ⟨w.heap.size, 0, none⟩ cp (s_by8 32 (upAt m f)) Tryd.underlying58 Tryd.underlying5 Tryd.underlying9 (fun j hj => by
      rw [s_by8_len] at hj
      rw [s_by8_at _ _ (up_bd _ _ hf), ← hw1, Addr.add_mid]
      have e0 : w.heap.size = w.drew.heap.size := by simp
      rw [e0, Lib.cell_of_heap (World.alloc_heap_new _ _), Nat.zero_add, Array.getElem?_append_left (by simp [fl_len, strCells_length, hsz]; omega)]
      by_cases hjm : j < m
      · rw [Array.getElem?_append_left (by simp [fl_len]; exact hjm), upAt, if_pos hjm, List.getElem?_toArray]
        exact fl_at m _ j hjm
      · have hl : j - m < (strCells s).length := by rw [strCells_length, hsz]; omega
        rw [Array.getElem?_append_right (by simp [fl_len]; omega), upAt, if_neg hjm, List.getElem?_toArray]
        simp only [List.size_toArray, fl_len]
        rw [List.getElem?_eq_getElem hl, hsb _ hl])
    rw [s_by8_len] at hcv
    have HX : Hid (_ ∧ _) := ⟨hs, hrun⟩
    clear hrun hsb hw1
    go_enter Tryd.func71, Tryd.ntmps71
    go_wp2_with (at_builtin; refine wpList_append_ran rfl _ _ 58 9 rfl _ (.string s) _ _ rfl ?c1 HX.out.2 ?_)
    case c1 => exact congrArg Value.string HX.out.1
    go_wp2
    go_ret
    exact ⟨rfl, B1⟩
theorem info_str8 : (Tryd.prog.info? 9).map (fun i => (i.zero, i.size, i.bytes)) = some (some (.string ⟨#[]⟩), 1, 16) := by kernel_rfl
theorem map_snoc {α : Type} (f : Nat → α) (k : Nat) : (List.range (k + 1)).map f = (List.range k).map f ++ [f k] := by simp [List.range_succ]

theorem owns_cap {W : World} {z e n m c : Nat} {a : Option Addr} {xs : List Value} (h : W.ownsRow z e 1 (.slice a m c) n xs) : m ≤ c := by
  rcases h.2 with ⟨h1, _⟩ | ⟨g, cap, cur, h1, _, _, h4, _⟩
  · cases h1; exact Nat.le_refl _
  · cases h1; exact h4
set_option maxRecDepth 20000 in
set_option maxHeartbeats 2000000 in
theorem pack_any (s : ByteArray) (hs : s.size ≤ 100000) (w : World) :
    Calls Tryd.prog 37 #[.string s] w fun e w' => ∃ a c, e = .returned (.slice a (pk s).length c) ∧ (pk s).length ≤ c ∧ slS w'.heap.size w' a (pk s) ∧ Below w.heap.size w w' := by
  obtain ⟨i0, hi0, hz0, hz1, hz2⟩ := info_parts info_str8
  have hge := grownCap_ge w s.size 0 5
  obtain ⟨c0, hc0⟩ : ∃ c, grownCap w s.size 0 5 = c := ⟨_, rfl⟩
  have hcv := run_bytes_of_string (P := Tryd.prog) w 9 58 5 s Tryd.underlying9 Tryd.underlying58 Tryd.underlying5
  rw [hc0] at hcv hge
  have B0 : Bs w.heap.size s.size c0 (fun j => .int .u8 (s_bt s j)) (w.drew.alloc (.cells (bytesRow s c0) 5 ((bytesRow s c0).size, (bytesRow s c0).size + 1))) := bs_bytes s c0 hge w.drew 5 _ (fun j hj => rfl)
  have E0 : Below w.heap.size w (w.drew.alloc (.cells (bytesRow s c0) 5 ((bytesRow s c0).size, (bytesRow s c0).size + 1))) := (Below.refl _ w).drew.alloc (by simp) _
  obtain ⟨w1, hw1⟩ : ∃ w1, w.drew.alloc (.cells (bytesRow s c0) 5 ((bytesRow s c0).size, (bytesRow s c0).size + 1)) = w1 := ⟨_, rfl⟩
  rw [hw1] at hcv B0 E0
  clear hw1 hc0
  obtain ⟨z, hz⟩ : ∃ z, w.heap.size = z := ⟨_, rfl⟩
  rw [hz] at hcv B0 E0 ⊢
  have hzw : z < w1.heap.size := B0.z
  clear hz
  obtain ⟨N, hN⟩ : ∃ N, (s.size + 31) / 32 = N := ⟨_, rfl⟩
  obtain ⟨S, hS⟩ : ∃ S, s.size = S := ⟨_, rfl⟩
  have HS : Hid (_ ∧ _) := ⟨hN, hS⟩
  rw [hS] at hs hcv B0 hge hN
  clear hS
  have q1 : IntKind.i64.wrap ((S : Int) + 32) = (S : Int) + 32 := by rw [IntKind.wrap_i64]; omega
  have q2 : IntKind.i64.wrap ((S : Int) + 32 - 1) = ((S + 31 : Nat) : Int) := by rw [IntKind.wrap_i64]; omega
  have q3 : ((S : Int) + 31) / 32 = (N : Int) := by omega
  have q4 : IntKind.i64.wrap (N : Int) = N := by rw [IntKind.wrap_i64]; omega
  have q5 : (0 : Int) ≤ N := by omega
  go_enter Tryd.func37, Tryd.ntmps37
  go_wp2_with (at_make; refine wpList_make_own _ rfl _ _ 27 rfl w1.heap.size 9 i0 _ 1 Tryd.underlying27 hi0 hz0 hz1 .i64 .i64 _ N rfl (congrArg (Value.int .i64) q3) (by omega) (by rw [hz2]; omega) (by unfold maxLen; omega) (Nat.le_refl _) ?_; intro w2 hown hgr)
  have B2 : Below w1.heap.size w1 w2 := (Below.refl _ w1).grown hgr (Nat.le_refl _) (fun _ e => by cases e)
  have BT := B0.below B2
  have BW0 : Below z w w2 := belowStep E0 (Nat.le_of_lt hzw) B2
  have hz2' : z < w2.heap.size := Nat.lt_of_lt_of_le hzw B2.size
  have hgs := B2.size
  clear B2 hgr B0 E0 hcv q1 q2 q3 q4 q5
  obtain ⟨y, hy⟩ : ∃ y, w1.heap.size = y := ⟨_, rfl⟩
  have hzy : z < y := by rw [← hy]; exact hzw
  rw [hy] at hown ⊢
  have hyw2 : y ≤ w2.heap.size := by rw [← hy]; exact hgs
  clear hy hzw hgs
  have HC : Hid (∀ j, j < S → w2.cell? ⟨z, j, none⟩ = some (.int .u8 (s_bt s j))) := BT.c
  clear BT
  go_loopg [4, 5] N (fun gk v i wr => ∃ k : Nat, k + gk = N ∧ i = .int .i64 ((32 * k : Nat) : Int) ∧ Below y w2 wr ∧ y ≤ wr.heap.size ∧ wr.ownsRow y 9 1 v k ((List.range k).map fun j => .string (ckN s j)) ∧ Hid (v ≠ .slice none 0 0))
  case atStart => exact ⟨0, by omega, rfl, Below.refl _ _, hyw2, hown, by intro h; cases h⟩
  case round =>
    clear hown
    obtain ⟨k, hk, rfl, BW, hyw, hown, hnn⟩ := hrel
    have hr3 : ∀ b, u4.ownBlock = some b → y ≤ b := fun b hb => (hown.lt b hb).1
    by_cases hlt : k < N
    · obtain ⟨q, hq⟩ : ∃ q, 32 * k = q := ⟨_, rfl⟩
      rw [hq]
      obtain ⟨m, hm⟩ : ∃ m, min (q + 32) S = m := ⟨_, rfl⟩
      have l0 : (q : Int) < S := by omega
      have wq : IntKind.i64.wrap ((q : Int) + 32) = ((q + 32 : Nat) : Int) := by rw [IntKind.wrap_i64]; omega
      have hmi : min ((q + 32 : Nat) : Int) S = m := by omega
      have hmi2 : min ((q : Int) + 32) S = m := by omega
      have l1 : (q : Int) ≤ m := by omega
      have l2 : (m : Int) ≤ c0 := by omega
      have l3 : (0 : Int) ≤ q := by omega
      have l4 : q ≤ m := by omega
      have hck : (⟨(s_by8 32 (upAt (m - q) fun j => s_bt s (q + j))).toArray⟩ : ByteArray) = ckN s k := by
        unfold ckN
        rw [hq, HS.out.2]
        refine congrArg (fun l : List UInt8 => (⟨l.toArray⟩ : ByteArray)) (by8_ext8 _ _ _ fun j hj => ?_)
        unfold upAt
        by_cases h1 : j < m - q
        · rw [if_pos h1, if_pos (by omega)]
        · rw [if_neg h1, if_neg (by omega)]
      have KF := filledUp8_any z q (m - q) (by omega) (fun j => s_bt s (q + j)) (fun j => s_bt_bd _ _) wr (fun j hj => (BW.cell (p := ⟨z, q + j, none⟩) hzy).trans (HC.out (q + j) (by omega)))
      rw [hck] at KF
      obtain ⟨x, hx⟩ : ∃ x, ckN s k = x := ⟨_, rfl⟩
      have HX : Hid _ := hx
      rw [hx] at KF
      clear hx hck
      go_wp2_with fail
      refine KF.mono ?_
      rintro e w3 ⟨rfl, B3⟩
      have hown3 := owns_below8 hown B3
      have BW3 := belowStep BW hyw B3
      have hs3 := B3.size
      clear KF hown BW B3
      go_wp2_with (at_builtin; refine wpList_append_own _ rfl _ _ 27 rfl y 9 i0 (.string ⟨#[]⟩) 1 16 Tryd.underlying27 hi0 hz0 hz1 hz2 rfl (by decide) _ _ _ rfl (owns_below8 hown3 ((Below.refl _ w3).alloc (Nat.le_refl _) _)) ⟨w3.heap.size, 0, none⟩ 1 1 [.string x] rfl rfl (one_new' _ _ _) (by intro u hu; simp at hu; subst hu; rfl) (by unfold maxLen; omega) (by omega) (by simp; omega) ?_)
      intro v' w4 hown' hgrow hiff
      have HW : Hid (_ ∧ _ ∧ _) := ⟨hown', hgrow, hiff⟩
      clear hown' hgrow hiff
      go_wp2
      go_roundg (gk - 1)
      case measure => omega
      case rel =>
        obtain ⟨hown', hgrow, hiff⟩ := HW.out
        refine ⟨k + 1, by omega, by first | rfl | (congr 1; omega), (BW3.alloc (by omega) _).grown hgrow (by simp; omega) (fun b hb => hr3 b hb), Nat.le_trans (by simp; omega) hgrow.size, ?_, hiff⟩
        rw [map_snoc, HX.out]
        exact hown'
    · obtain rfl : k = N := by omega
      obtain ⟨q, hq⟩ : ∃ q, 32 * k = q := ⟨_, rfl⟩
      rw [hq]
      have l0 : ¬ (q : Int) < S := by omega
      have hlen : (pk s).length = k := by rw [pk_len]; exact HS.out.1
      have hpk : ((List.range k).map fun j => Value.string (ckN s j)) = (pk s).map .string := by rw [← HS.out.1, pk, List.map_map]; rfl
      rw [hpk, ← hlen] at hown
      obtain ⟨a, c, rfl, hsl⟩ := slS_owns hown
      have hc := owns_cap hown
      have HF : Hid (_ ∧ _ ∧ _) := ⟨hc, hsl, BW0.trans (BW.mono (by omega))⟩
      rw [hlen] at HF ⊢
      clear hown hsl BW BW0 hc
      go_wp2
      go_ret
      exact ⟨a, c, rfl, HF.out⟩

set_option maxRecDepth 20000 in
set_option maxHeartbeats 2000000 in
theorem rpack_any (s : ByteArray) (hs : s.size ≤ 100000) (w : World) :
    Calls Tryd.prog 39 #[.string s] w fun e w' => ∃ a c, e = .returned (.slice a (pk s).length c) ∧ (pk s).length ≤ c ∧ slS w'.heap.size w' a (pk s) ∧ Below w.heap.size w w' := by
  obtain ⟨i0, hi0, hz0, hz1, hz2⟩ := info_parts info_str8
  obtain ⟨y, hy⟩ : ∃ y, w.heap.size = y := ⟨_, rfl⟩
  have hyw2 : y ≤ w.heap.size := by omega
  rw [hy]
  clear hy
  obtain ⟨N, hN⟩ : ∃ N, (s.size + 31) / 32 = N := ⟨_, rfl⟩
  obtain ⟨S, hS⟩ : ∃ S, s.size = S := ⟨_, rfl⟩
  have HS : Hid (_ ∧ _) := ⟨hN, hS⟩
  rw [hS] at hs hN
  go_enter Tryd.func39, Tryd.ntmps39
  go_wp2_with fail
  go_loopg [3, 4] N (fun gk v i wr => ∃ k : Nat, k + gk = N ∧ i = .int .i64 ((32 * k : Nat) : Int) ∧ Below y w wr ∧ y ≤ wr.heap.size ∧ wr.ownsRow y 9 1 v k ((List.range k).map fun j => .string (ckN s j)))
  case atStart => exact ⟨0, by omega, rfl, Below.refl _ _, hyw2, World.ownsRow_nil _ _ _ _⟩
  case round =>
    obtain ⟨k, hk, rfl, BW, hyw, hown⟩ := hrel
    have hr3 : ∀ b, u3.ownBlock = some b → y ≤ b := fun b hb => (hown.lt b hb).1
    by_cases hlt : k < N
    · obtain ⟨q, hq⟩ : ∃ q, 32 * k = q := ⟨_, rfl⟩
      rw [hq]
      obtain ⟨m, hm⟩ : ∃ m, min (q + 32) S = m := ⟨_, rfl⟩
      have l0 : (q : Int) < S := by omega
      have wq : IntKind.i64.wrap ((q : Int) + 32) = ((q + 32 : Nat) : Int) := by rw [IntKind.wrap_i64]; omega
      have hmi : min ((q + 32 : Nat) : Int) S = m := by omega
      have hmi2 : min ((q : Int) + 32) S = m := by omega
      have l1 : (q : Int) ≤ m := by omega
      have l2 : (m : Int) ≤ S := by omega
      have l3 : (0 : Int) ≤ q := by omega
      have l4 : q ≤ m := by omega
      obtain ⟨p, hp⟩ : ∃ p, s.extract q m = p := ⟨_, rfl⟩
      have hpz : p.size = m - q := by rw [← hp, ByteArray.size_extract, hS]; omega
      have hck : p ++ zs (32 - (m - q)) = ckN s k := by
        refine ext_bt8 _ _ (by rw [ByteArray.size_append, hpz, zs_size, ck_size]; omega) fun j hj => ?_
        rw [ByteArray.size_append, hpz, zs_size] at hj
        rw [bt_append _ _ _ (by rw [hpz, zs_size]; exact hj), hpz, bt_ck s k j (by omega), hq, hS]
        by_cases h1 : j < m - q
        · rw [if_pos h1, if_pos (by omega), ← hp, bt_extract s q m j (by omega) (by omega)]
        · rw [if_neg h1, if_neg (by omega)]
          unfold zs
          exact bt_by88 _ _ (fun _ => ⟨by decide, by decide⟩) _ (by omega)
      have KF := noughts_any (32 - (m - q)) (by omega)
      have hsz : ¬ 9223372036854775807 < p.size + (zs (32 - (m - q))).size := by rw [hpz, zs_size]; omega
      have w32 : IntKind.i64.wrap (32 - (p.size : Int)) = ((32 - (m - q) : Nat) : Int) := by rw [IntKind.wrap_i64]; omega
      obtain ⟨d, hd⟩ : ∃ d, 32 - (m - q) = d := ⟨_, rfl⟩
      rw [hd] at KF hsz w32 hck
      obtain ⟨u, hu⟩ : ∃ u, m - q = u := ⟨_, rfl⟩
      rw [hu] at hpz hd
      have w33 : (32 : Int) - u = d := by omega
      obtain ⟨x, hx⟩ : ∃ x, ckN s k = x := ⟨_, rfl⟩
      have HX : Hid _ := hx
      rw [hx] at hck
      have HX2 : Hid _ := hck
      clear hx hck hd
      go_wp2_with fail
      refine (KF _).mono ?_
      rintro e w3 ⟨rfl, B3⟩
      have hown3 := owns_below8 hown B3
      have BW3 := belowStep BW hyw B3
      have hs3 := B3.size
      clear KF hown BW B3
      go_wp2_with (at_builtin; refine wpList_append_own _ rfl _ _ 27 rfl y 9 i0 (.string ⟨#[]⟩) 1 16 Tryd.underlying27 hi0 hz0 hz1 hz2 rfl (by decide) _ _ _ rfl (owns_below8 hown3 ((Below.refl _ w3).alloc (Nat.le_refl _) _)) ⟨w3.heap.size, 0, none⟩ 1 1 [.string (p ++ zs d)] rfl rfl (one_new' _ _ _) (by intro u hu; simp at hu; subst hu; rfl) (by unfold maxLen; omega) (by omega) (by simp; omega) ?_)
      intro v' w4 hown' hgrow hiff
      have HW : Hid (_ ∧ _) := ⟨hown', hgrow⟩
      clear hown' hgrow hiff
      go_wp2
      go_roundg (gk - 1)
      case measure => omega
      case rel =>
        obtain ⟨hown', hgrow⟩ := HW.out
        refine ⟨k + 1, by omega, by first | rfl | (congr 1; omega), (BW3.alloc (by omega) _).grown hgrow (by simp; omega) (fun b hb => hr3 b hb), Nat.le_trans (by simp; omega) hgrow.size, ?_⟩
        rw [map_snoc, HX.out, ← HX2.out]
        exact hown'
    · obtain rfl : k = N := by omega
      obtain ⟨q, hq⟩ : ∃ q, 32 * k = q := ⟨_, rfl⟩
      rw [hq]
      have l0 : ¬ (q : Int) < S := by omega
      have hlen : (pk s).length = k := by rw [pk_len]; exact HS.out.1
      have hpk : ((List.range k).map fun j => Value.string (ckN s j)) = (pk s).map .string := by rw [← HS.out.1, pk, List.map_map]; rfl
      rw [hpk, ← hlen] at hown
      obtain ⟨a, c, rfl, hsl⟩ := slS_owns hown
      have hc := owns_cap hown
      have HF : Hid (_ ∧ _ ∧ _) := ⟨hc, hsl, BW⟩
      rw [hlen] at HF ⊢
      clear hown hsl BW hc
      go_wp2
      go_ret
      exact ⟨a, c, rfl, HF.out⟩
end Go.Proofs.YtmefanagpkbjeaaDoor
