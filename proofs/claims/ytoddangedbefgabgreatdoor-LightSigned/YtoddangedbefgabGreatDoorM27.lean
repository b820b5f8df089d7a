/- Lemmas: Numbers as chunks, noughts, what a chunk is, a root with a length: the program's and the reference's. Slices of texts; Same, of the reference. -/
import Derived.Test.YtoddangedbefgabGreatDoorM26
import Derived.Deep.OwnRows
set_option maxRecDepth 20000
set_option maxHeartbeats 4000000
namespace Go.Proofs.YtoddangedbefgabGreatDoor
open Go.RowKit Go.Sort
theorem by8_self8 (s : ByteArray) : (⟨(jbk s.size (s_bt s)).toArray⟩ : ByteArray) = s := by
 have : (jbk s.size (s_bt s)).toArray = s.data := by
  refine Array.ext (by simp [jbk]) fun i h1 h2 => ?_
  simp only [List.getElem_toArray, jbk, List.getElem_map, List.getElem_range]
  unfold s_bt
  have h3 : i < s.size := h2
  have e : s.data.getD i 0 = s.data[i] := by simp [Array.getD, h3]
  rw [e]
  simp
 rw [this]
theorem by8_ext8 (n : Nat) (f g : Nat → Int) (h : ∀ j, j < n → f j = g j) : jbk n f = jbk n g := by
 unfold jbk
 exact List.map_congr_left fun j hj => by rw [h j (List.mem_range.1 hj)]
theorem jet (n : Nat) (f : Nat → Int) : (⟨(jbk n f).toArray⟩ : ByteArray).size = n := by
 show (jbk n f).toArray.size = n
 rw [List.size_toArray, jbf]
theorem ext_bt8 (s t : ByteArray) (hz : s.size = t.size) (h : ∀ j, j < s.size → s_bt s j = s_bt t j) : s = t := by
 rw [← by8_self8 s, ← by8_self8 t, ← hz, by8_ext8 s.size _ _ h]
theorem bt_by88 (n : Nat) (f : Nat → Int) (hf : ∀ j, 0 ≤ f j ∧ f j < 256) (j : Nat) (hj : j < n) : s_bt ⟨(jbk n f).toArray⟩ j = f j := by
 have hl : j < (jbk n f).length := by rw [jbf]; exact hj
 unfold s_bt
 have e : (jbk n f).toArray.getD j 0 = (jbk n f)[j]'hl := by simp [Array.getD, hl]
 show (((jbk n f).toArray.getD j 0).toNat : Int) = f j
 rw [e, jdr n f hf j hl]
theorem jef (s : ByteArray) (w : World) :
  Calls Tryz.prog 116 #[.string s] w fun e w' => e = .returned (.bool (decide (s.size = 32))) ∧ w' = w := by
 by_cases h : s.size = 32
 ·have h1 : (s.size : Int) = 32 := by omega
  go_enter Tryz.func116, Tryz.ntmps116
  go_wp2
  go_ret
  exact ⟨by simp [h], rfl⟩
 ·have h1 : ¬ (s.size : Int) = 32 := by omega
  go_enter Tryz.func116, Tryz.ntmps116
  go_wp2
  go_ret
  exact ⟨by simp [h]; omega, rfl⟩
def zs (n : Nat) : ByteArray := ⟨(jbk n fun _ => 0).toArray⟩
theorem zs_size (n : Nat) : (zs n).size = n := jet _ _
theorem zs_32 : zs 32 = z32 := by decide +kernel
theorem noughts_any (n : Nat) (hn : n ≤ 100000) (w : World) :
  Calls Tryz.prog 74 #[.int .i64 n] w fun e w' => e = .returned (.string (zs n)) ∧ Below w.heap.size w w' := by
 obtain ⟨i0, hi0, hz0, hz1, hz2⟩ := info_parts jgd
 go_enter Tryz.func74, Tryz.ntmps74
 go_wp2_with (at_make; refine wpList_make_full _ rfl _ _ 116 rfl w.heap.size 5 i0 _ 1 Tryz.underlying116 hi0 hz0 hz1 .i64 .i64 _ _ n rfl rfl rfl rfl (by rw [hz2]; omega) (by unfold maxLen; omega) (Nat.le_refl _) ?_; intro w1 hown hgr)
 have hcv := run_convert_bytes_back (P := Tryz.prog) w1 116 9 5 ⟨w.heap.size, 0, none⟩ n (jbk n fun _ => 0) Tryz.underlying116 Tryz.underlying5 Tryz.underlying9 (fun j hj => by
  rw [jdr _ _ (fun _ => ⟨by decide, by decide⟩)]
  rw [jbf] at hj
  exact hown.cells (g := w.heap.size) rfl j _ (by simp [madeCells, hj, Value.cells, Nat.mod_one]))
 rw [jbf] at hcv
 have B1 : Below w.heap.size w w1 := (Below.refl _ w).grown hgr (Nat.le_refl _) (fun _ e => by cases e)
 clear hown hgr
 rw [hcv]
 go_wp2
 go_ret
 exact ⟨rfl, B1⟩
def nbAt (n : Int) (j : Nat) : Int := if j < 8 then n / 2 ^ (8 * j) % 256 else 0
theorem nb_bd (n : Int) (j : Nat) : 0 ≤ nbAt n j ∧ nbAt n j < 256 := by unfold nbAt; split <;> omega
def jbh (n : Int) : ByteArray := ⟨(jbk 32 (nbAt n)).toArray⟩
theorem jgm (n : Int) : (jbh n).size = 32 := jet _ _
theorem jdo (n : Int) (w : World) :
  Calls Tryz.prog 83 #[.int .u64 n] w fun e w' => e = .returned (.string (jbh n)) ∧ Below w.heap.size w w' := by
 go_enter Tryz.func83, Tryz.ntmps83
 go_wp2
 go_loopg [5] 8 (fun gk i wr => ∃ k : Nat, ∃ h : Nat → Int, k + gk = 8 ∧ i = .int .i64 k ∧ Below w.heap.size w wr ∧ Fw w.heap.size 32 (fun j => .int .u8 (h j)) wr ∧ Hid (∀ j, j < 32 → h j = if j < k then nbAt n j else 0))
 case atStart => exact ⟨0, fun _ => 0, rfl, rfl, by go_grown, Fw.lit _ _ rfl rfl, fun j _ => by rw [if_neg (by omega)]⟩
 case round =>
  obtain ⟨k, h, hk, rfl, EW, CU, hH⟩ := hrel
  have zu := CU.z
  have uf := CU.f
  by_cases hlt : k < 8
  ·obtain ⟨r8, hr8⟩ : ∃ s : Nat, 8 * k = s := ⟨_, rfl⟩
   have hm : IntKind.i64.wrap (8 * (k : Int)) = r8 := by rw [IntKind.wrap_i64]; omega
   have e64 : (r8 : Int) ≤ 64 := by omega
   have e0 : (0 : Int) ≤ r8 := by omega
   have emin : min r8 64 = r8 := by omega
   have l0 : (k : Int) < 8 := by omega
   have l1 : (k : Int) < 32 := by omega
   have n0 := CU.c k (by omega)
   obtain ⟨t, ht⟩ : ∃ t, n / 2 ^ r8 % 256 = t := ⟨_, rfl⟩
   have hu : IntKind.u8.wrap (n / 2 ^ r8) = t := by rw [IntKind.wrap_u8]; exact ht
   have HB : Hid (nbAt n k = t) := by
    show _ = _
    rw [nbAt, if_pos hlt, hr8, ht]
   clear ht hr8
   go_wp2
   go_roundg (gk - 1)
   case measure => omega
   case rel =>
    refine ⟨k + 1, fun j => if j = k then t else h j, by omega, rfl, by go_grown, CU.put k (by omega) (.int .u8 t) (fun j _ => by by_cases e : j = k <;> simp [e]), ?_⟩
    intro j hj
    have hJ := hH.out j hj
    show (if j = k then t else h j) = _
    by_cases e : j = k
    ·rw [if_pos e, e, if_pos (by omega), HB.out]
    rw [if_neg e, hJ]
    by_cases h1 : j < k
    ·rw [if_pos h1, if_pos (by omega)]
    ·rw [if_neg h1, if_neg (by omega)]
  ·have hk2 : k = 8 := by omega
   subst hk2
   clear hlt
   have hcv := Fw.text (nb_bd n) (CU.ext (h := fun j => .int .u8 (nbAt n j)) (fun j hj => by
    show Value.int .u8 _ = .int .u8 _
    rw [hH.out j hj]
    by_cases h8 : j < 8
    ·rw [if_pos h8]
    ·rw [if_neg h8, nbAt, if_neg h8]))
   go_wp2
   go_ret
   exact ⟨rfl, EW⟩
theorem fl_snoc (n : Nat) (g : Nat → Value) : fl (n + 1) g = fl n g ++ [g n] := by simp [fl, List.range_succ]
theorem jax {w w' : World} {b : Nat} {e : TypeId} {size : Nat} {v : Value} {n : Nat} {xs : List Value} (h : w.ownsRow b e size v n xs) (hb : Below w.heap.size w w') : w'.ownsRow b e size v n xs :=
 h.kept (row := none) ⟨hb.os, hb.tape, hb.output, hb.size, fun k hk _ => hb.block k hk⟩ (by cases v.ownBlock <;> simp)
theorem num_parts (n : Int) : (⟨(jbk 8 (nbAt n)).toArray⟩ : ByteArray) ++ zs 24 = jbh n := by
 have hz : (⟨(jbk 8 (nbAt n)).toArray⟩ : ByteArray).size = 8 := jet _ _
 have hz2 := zs_size 24
 refine ext_bt8 _ _ (by rw [ByteArray.size_append, hz, hz2, jgm]) fun j hj => ?_
 rw [ByteArray.size_append, hz, hz2] at hj
 rw [jgg _ _ _ (by rw [hz, hz2]; exact hj), hz]
 unfold jbh
 rw [bt_by88 32 _ (nb_bd n) j hj]
 split
 ·rename_i h
  rw [bt_by88 8 _ (nb_bd n) j h]
 ·rename_i h
  unfold zs
  rw [bt_by88 24 _ (fun _ => ⟨by decide, by decide⟩) _ (by omega), nbAt, if_neg h]
theorem jed (n : Int) (w : World) :
  Calls Tryz.prog 36 #[.int .u64 n] w fun e w' => e = .returned (.string (jbh n)) ∧ Below w.heap.size w w' := by
 obtain ⟨i0, hi0, hz0, hz1, hz2⟩ := info_parts jgd
 obtain ⟨z, hz⟩ : ∃ z, w.heap.size = z := ⟨_, rfl⟩
 have B0 : Below z w w := Below.refl _ _
 have hz' : z ≤ w.heap.size := by omega
 rw [hz]
 clear hz
 go_enter Tryz.func36, Tryz.ntmps36
 go_wp2_with fail
 go_loopg [3, 4] 8 (fun gk v i wr => ∃ k : Nat, k + gk = 8 ∧ i = .int .i64 k ∧ Below z w wr ∧ z ≤ wr.heap.size ∧ wr.ownsRow z 5 1 v k (fl k fun j => .int .u8 (nbAt n j)))
 case atStart => exact ⟨0, rfl, rfl, B0, hz', World.ownsRow_nil _ _ _ _⟩
 case round =>
  clear B0
  obtain ⟨k, hk, rfl, BW, hzw, hown⟩ := hrel
  by_cases hlt : k < 8
  ·obtain ⟨r8, hr8⟩ : ∃ s : Nat, 8 * k = s := ⟨_, rfl⟩
   have hm : IntKind.i64.wrap (8 * (k : Int)) = r8 := by rw [IntKind.wrap_i64]; omega
   have wk : IntKind.i64.wrap ((k : Int) + 1) = ((k + 1 : Nat) : Int) := by rw [IntKind.wrap_i64]; omega
   have e64 : (r8 : Int) ≤ 64 := by omega
   have e0 : (0 : Int) ≤ r8 := by omega
   have emin : min r8 64 = r8 := by omega
   have l0 : (k : Int) < 8 := by omega
   obtain ⟨t, ht⟩ : ∃ t, n / 2 ^ r8 % 256 = t := ⟨_, rfl⟩
   have hu : IntKind.u8.wrap (n / 2 ^ r8) = t := by rw [IntKind.wrap_u8]; exact ht
   have HB : Hid (nbAt n k = t) := by
    show _ = _
    rw [nbAt, if_pos hlt, hr8, ht]
   clear ht hr8
   have hr3 : ∀ b, u3.ownBlock = some b → z ≤ b := fun b hb => (hown.lt b hb).1
   go_wp2_with (at_builtin; refine wpList_append_own _ rfl _ _ 116 rfl z 5 i0 (.int .u8 0) 1 1 Tryz.underlying116 hi0 hz0 hz1 hz2 rfl (by decide) _ _ _ rfl (jax hown ((Below.refl _ wr).alloc (Nat.le_refl _) _)) ⟨wr.heap.size, 0, none⟩ 1 1 [.int .u8 t] rfl rfl (jcg _ _ _) (by intro u hu; simp at hu; subst hu; rfl) (by unfold maxLen; omega) (by omega) (by simp; omega) ?_)
   intro v' w3 hown' hgrow hiff
   have HW : Hid (_ ∧ _) := ⟨hown', hgrow⟩
   clear hown' hgrow hiff
   go_wp2
   go_roundg (gk - 1)
   case measure => omega
   case rel =>
    obtain ⟨hown', hgrow⟩ := HW.out
    refine ⟨k + 1, by omega, by first | rfl | (congr 1; omega), (BW.alloc hzw _).grown hgrow (by simp; omega) (fun b hb => hr3 b hb), Nat.le_trans (by simp; omega) hgrow.size, ?_⟩
    rw [fl_snoc, HB.out]
    exact hown'
  ·obtain rfl : k = 8 := by omega
   have l0 : ¬ ((8 : Nat) : Int) < 8 := by omega
   rcases hown.2 with ⟨_, h0⟩ | ⟨g, cap, cur, rfl, hg1, hg2, hg3, hg4, hg5, hg6⟩
   ·cases h0
   ·have hcv : ∀ d os, (convert 116 9 (.slice (some ⟨g, 0, none⟩) 8 cap)).run Tryz.prog (grow (redrawn wr d) os) = .ok (.string ⟨(jbk 8 (nbAt n)).toArray⟩) (grow (redrawn wr d) os) := fun d os => by
     have hx := run_convert_bytes_back (P := Tryz.prog) (grow (redrawn wr d) os) 116 9 5 ⟨g, 0, none⟩ cap (jbk 8 (nbAt n)) Tryz.underlying116 Tryz.underlying5 Tryz.underlying9 (fun j hj => by
      have hj' : j < 8 := by rw [jbf] at hj; exact hj
      rw [jdr _ _ (nb_bd n)]
      exact (jax hown (below_regrown wr d os)).cells (g := g) rfl j _ (fl_at 8 _ j hj'))
     rwa [jbf] at hx
    have KN := jae (w := wr) (fun W => noughts_any 24 (by omega) W)
    have hsz : ¬ 9223372036854775807 < (⟨(jbk 8 (nbAt n)).toArray⟩ : ByteArray).size + (zs 24).size := by rw [jet, zs_size]; omega
    have HS : Hid _ := num_parts n
    obtain ⟨x, hx⟩ : ∃ x, (⟨(jbk 8 (nbAt n)).toArray⟩ : ByteArray) = x := ⟨_, rfl⟩
    rw [hx] at hcv hsz HS
    clear hx hown hg1 hg2 hg3 hg4 hg5 hg6
    go_wp2_with fail
    refine wp_region_quiet_below (by kernel_rfl) (by kernel_rfl) ?_
    iterate 2 (quiet_step (fail))
    quiet_step (exact KN _ _)
    repeat (quiet_step (fail))
    refine wpQuiet_nil ?_
    intro w8 hw8
    have B8 : Below wr.heap.size wr w8 := by
     obtain ⟨p, rfl⟩ := hw8
     exact below_regrown _ _ _
    have BW8 := jaa BW hzw B8
    clear hw8 KN hcv
    go_wp2
    go_ret
    exact ⟨by rw [← HS.out]; rfl, BW8⟩
end Go.Proofs.YtoddangedbefgabGreatDoor
namespace Go.Proofs.YtoddangedbefgabGreatDoor
open Go.RowKit Go.Shelf Go.Sort
theorem toList_inj {s t : ByteArray} (h : s.toList = t.toList) : s = t := by
 rw [ByteArray.toList_eq, ByteArray.toList_eq] at h
 have h2 : s.data = t.data := Array.toList_inj.1 h
 cases s
 cases t
 cases h2
 rfl
def slS (n : Nat) (W : World) (a : Option Addr) (xs : List ByteArray) : Prop := xs = [] ∨ ∃ b o, a = some ⟨b, o, none⟩ ∧ b < n ∧ ∀ j x, xs[j]? = some x → W.cell? ⟨b, o + j, none⟩ = some (.string x)
theorem jan {n : Nat} {W W' : World} (hb : Below n W W') {a : Option Addr} {xs : List ByteArray} (hp : slS n W a xs) : slS n W' a xs := by
 rcases hp with h | ⟨b, o, h1, h2, h3⟩
 ·exact .inl h
 ·exact .inr ⟨b, o, h1, h2, fun j x hx => (hb.cell (p := ⟨b, _, none⟩) h2).trans (h3 j x hx)⟩
theorem jci {n : Nat} {W : World} {a : Option Addr} {xs : List ByteArray} (hp : slS n W a xs) (j : Nat) (x : ByteArray) (hx : xs[j]? = some x) : ∃ b o, a = some ⟨b, o, none⟩ ∧ b < n ∧ W.cell? ⟨b, o + j, none⟩ = some (.string x) := by
 rcases hp with h | ⟨b, o, h1, h2, h3⟩
 ·subst h
  cases hx
 ·exact ⟨b, o, h1, h2, h3 j x hx⟩
theorem slS_owns {z : Nat} {v : Value} {xs : List ByteArray} {W : World} (h : W.ownsRow z 9 1 v xs.length (xs.map .string)) : ∃ a c, v = .slice a xs.length c ∧ slS W.heap.size W a xs := by
 rcases h.2 with ⟨h1, h2⟩ | ⟨g, c, cur, h1, h2, h3, h4, h5, h6, h7⟩
 ·exact ⟨none, 0, by rw [h1, h2], .inl (List.length_eq_zero_iff.1 h2)⟩
 ·refine ⟨_, c, h1, .inr ⟨g, 0, rfl, (Array.getElem?_eq_some_iff.1 h3).1, fun j x hx => ?_⟩⟩
  have hj : j < xs.length := (List.getElem?_eq_some_iff.1 hx).1
  subst h1
  rw [h.cellAt (0 + j) (by omega), Nat.zero_add, List.getElem?_map, hx]
  rfl
theorem same8_any (xs ys : List ByteArray) (hx : xs.length < 1000000000000000000) (hy : ys.length < 1000000000000000000) (a a' : Option Addr) (c c' n : Nat) (w : World) (hn : n ≤ w.heap.size) (h1 : slS n w a xs) (h2 : slS n w a' ys) :
  Calls Tryz.prog 31 #[.slice a xs.length c, .slice a' ys.length c'] w fun e w' => e = .returned (.bool (decide (xs = ys))) ∧ Below w.heap.size w w' := by
 obtain ⟨N, hN⟩ : ∃ N, xs.length = N := ⟨_, rfl⟩
 obtain ⟨M, hM⟩ : ∃ M, ys.length = M := ⟨_, rfl⟩
 have HN : Hid (xs.length = N ∧ ys.length = M) := ⟨hN, hM⟩
 rw [hN] at hx ⊢
 rw [hM] at hy ⊢
 clear hN hM
 by_cases hne : N = M
 ·subst hne
  obtain ⟨q, hq⟩ : ∃ q, decide (xs = ys) = q := ⟨_, rfl⟩
  have HQ : Hid _ := hq
  rw [hq]
  clear hq
  obtain ⟨z, hz⟩ : ∃ z, w.heap.size = z := ⟨_, rfl⟩
  rw [hz] at hn ⊢
  have B0 : Below z w w := by rw [← hz]; exact Below.refl _ _
  have HZ : Hid _ := hz
  clear hz
  go_enter Tryz.func31, Tryz.ntmps31
  go_wp2_with fail
  go_loopg [5] N (fun gk i wr => ∃ k : Nat, k + gk = N ∧ i = .int .i64 k ∧ Hid (∀ j, j < k → xs[j]? = ys[j]?) ∧ Below z w wr)
  case atStart => exact ⟨0, by omega, rfl, (fun j h => by omega), B0⟩
  case round =>
   obtain ⟨k, hk, rfl, hA, BW⟩ := hrel
   have hwz : z ≤ wr.heap.size := by have := BW.size; have := HZ.out; omega
   by_cases hlt : k < N
   ·have l1 : (k : Int) < N := by omega
    obtain ⟨f, hf⟩ : ∃ f, xs[k]? = some f := ⟨xs[k]'(by have := HN.out; omega), List.getElem?_eq_getElem (by have := HN.out; omega)⟩
    obtain ⟨g, hg⟩ : ∃ f, ys[k]? = some f := ⟨ys[k]'(by have := HN.out; omega), List.getElem?_eq_getElem (by have := HN.out; omega)⟩
    obtain ⟨b, o, rfl, hb, c0⟩ := jci h1 k f hf
    obtain ⟨b', o', rfl, hb', c1⟩ := jci h2 k g hg
    have hbv : b < wr.heap.size := by omega
    have hbv' : b' < wr.heap.size := by omega
    replace c0 := (BW.cell (p := ⟨b, _, none⟩) (by show b < z; omega)).trans c0
    replace c1 := (BW.cell (p := ⟨b', _, none⟩) (by show b' < z; omega)).trans c1
    obtain ⟨r, hr⟩ : ∃ p, o + k = p := ⟨_, rfl⟩
    obtain ⟨r', hr'⟩ : ∃ p, o' + k = p := ⟨_, rfl⟩
    rw [hr] at c0
    rw [hr'] at c1
    have q0 : ∀ d os, (grow (redrawn wr d) os).cell? ⟨b, r, none⟩ = some (.string f) := fun d os => ((below_regrown wr d os).cell (p := ⟨b, r, none⟩) hbv).trans c0
    have q1 : ∀ d os, (grow (redrawn wr d) os).cell? ⟨b', r', none⟩ = some (.string g) := fun d os => ((below_regrown wr d os).cell (p := ⟨b', r', none⟩) hbv').trans c1
    have wk : IntKind.i64.wrap ((k : Int) + 1) = ((k + 1 : Nat) : Int) := by rw [IntKind.wrap_i64]; omega
    clear c0 c1
    by_cases hsame : f = g
    ·have hs : (f.toList == g.toList) = true := by rw [hsame]; exact beq_self_eq_true _
     have HG : Hid (xs[k]? = ys[k]?) := (show xs[k]? = ys[k]? by rw [hf, hg, hsame])
     clear hsame hg hf
     go_wp2_with fail
     refine wp_region_quiet_below (by kernel_rfl) (by kernel_rfl) ?_
     repeat (quiet_step (fail))
     refine wpQuiet_nil ?_
     intro w8 hw8
     have B8 : Below wr.heap.size wr w8 := by
      obtain ⟨p, rfl⟩ := hw8
      exact below_regrown _ _ _
     have BW8 := jaa BW hwz B8
     clear hw8 q0 q1
     go_wp2
     go_roundg (gk - 1)
     case measure => omega
     case rel =>
      refine ⟨k + 1, by omega, by first | rfl | (congr 1; omega), ?_, BW8⟩
      intro j hj
      by_cases e : j = k
      ·subst e
       exact HG.out
      ·exact hA.out j (by omega)
    ·have hs : (f.toList == g.toList) = false := by rw [beq_eq_false_iff_ne]; exact fun e => hsame (toList_inj e)
     have hqf : q = false := by
      rw [← HQ.out]
      refine decide_eq_false fun e => hsame ?_
      rw [e, hg] at hf
      exact (Option.some.inj hf).symm
     have HG : Hid (q = false) := hqf
     clear hqf
     clear hsame hg hf
     go_wp2_with fail
     refine wp_region_quiet_below (by kernel_rfl) (by kernel_rfl) ?_
     repeat (quiet_step (fail))
     refine wpQuiet_nil ?_
     intro w8 hw8
     have B8 : Below wr.heap.size wr w8 := by
      obtain ⟨p, rfl⟩ := hw8
      exact below_regrown _ _ _
     have BW8 := jaa BW hwz B8
     clear hw8 q0 q1
     go_wp2
     go_ret
     exact ⟨by rw [HG.out]; rfl, BW8⟩
   ·have l1 : ¬ (k : Int) < N := by omega
    have hqf : q = true := by
     rw [← HQ.out]
     refine decide_eq_true (List.ext_getElem? fun j => ?_)
     by_cases hj : j < k
     ·exact hA.out j hj
     ·have := HN.out
      rw [List.getElem?_eq_none (by omega), List.getElem?_eq_none (by omega)]
    have HG : Hid (q = true) := hqf
    clear hqf
    go_wp2
    go_ret
    exact ⟨by rw [HG.out]; rfl, BW⟩
 ·have hd : decide (xs = ys) = false := by
   refine decide_eq_false fun e => hne ?_
   have := congrArg List.length e
   have := HN.out
   omega
  rw [hd]
  have hb : ((N : Int) == M) = false := by rw [beq_eq_false_iff_ne]; omega
  go_enter Tryz.func31, Tryz.ntmps31
  go_wp2
  go_ret
  exact ⟨rfl, Below.refl _ _⟩
end Go.Proofs.YtoddangedbefgabGreatDoor
