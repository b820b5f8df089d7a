/- Lemmas: What two lists that prove unlike things have: two texts that are unlike, and have one digest. Pure. The law's some: the first texts. The reference's Prove, with the row that it answers; the law's four pairs. What the ways of the law's four pairs prove: pure. The law's shown. What is proved by texts is not proved by fewer of them, nor with more: pure. ProofShort's walk. -/
import Derived.Test.YtbmapdkcccdmfabDoorM1
import Derived.Test.YtbmapdkcccdmfabDoorM10
import Derived.Test.YtbmapdkcccdmfabDoorM11
import Derived.Test.YtbmapdkcccdmfabDoorM12
import Derived.Test.YtbmapdkcccdmfabDoorM13
import Derived.Test.YtbmapdkcccdmfabDoorM14
import Derived.Test.YtbmapdkcccdmfabDoorM15
import Derived.Test.YtbmapdkcccdmfabDoorM16
import Derived.Test.YtbmapdkcccdmfabDoorM17
import Derived.Test.YtbmapdkcccdmfabDoorM18
import Derived.Test.YtbmapdkcccdmfabDoorM19
import Derived.Test.YtbmapdkcccdmfabDoorM2
import Derived.Test.YtbmapdkcccdmfabDoorM20
import Derived.Test.YtbmapdkcccdmfabDoorM21
import Derived.Test.YtbmapdkcccdmfabDoorM22
import Derived.Test.YtbmapdkcccdmfabDoorM23
import Derived.Test.YtbmapdkcccdmfabDoorM24
import Derived.Test.YtbmapdkcccdmfabDoorM25
import Derived.Test.YtbmapdkcccdmfabDoorM26
import Derived.Test.YtbmapdkcccdmfabDoorM27
import Derived.Test.YtbmapdkcccdmfabDoorM28
import Derived.Test.YtbmapdkcccdmfabDoorM29
import Derived.Test.YtbmapdkcccdmfabDoorM3
import Derived.Test.YtbmapdkcccdmfabDoorM30
import Derived.Test.YtbmapdkcccdmfabDoorM31
import Derived.Test.YtbmapdkcccdmfabDoorM32
import Derived.Test.YtbmapdkcccdmfabDoorM33
import Derived.Test.YtbmapdkcccdmfabDoorM34
import Derived.Test.YtbmapdkcccdmfabDoorM35
import Derived.Test.YtbmapdkcccdmfabDoorM36
import Derived.Test.YtbmapdkcccdmfabDoorM37
import Derived.Test.YtbmapdkcccdmfabDoorM38
import Derived.Test.YtbmapdkcccdmfabDoorM39
import Derived.Test.YtbmapdkcccdmfabDoorM4
import Derived.Test.YtbmapdkcccdmfabDoorM40
import Derived.Test.YtbmapdkcccdmfabDoorM41
import Derived.Test.YtbmapdkcccdmfabDoorM42
import Derived.Test.YtbmapdkcccdmfabDoorM43
import Derived.Test.YtbmapdkcccdmfabDoorM44
import Derived.Test.YtbmapdkcccdmfabDoorM45
import Derived.Test.YtbmapdkcccdmfabDoorM46
import Derived.Test.YtbmapdkcccdmfabDoorM47
import Derived.Test.YtbmapdkcccdmfabDoorM48
import Derived.Test.YtbmapdkcccdmfabDoorM49
import Derived.Test.YtbmapdkcccdmfabDoorM5
import Derived.Test.YtbmapdkcccdmfabDoorM50
import Derived.Test.YtbmapdkcccdmfabDoorM6
import Derived.Test.YtbmapdkcccdmfabDoorM7
import Derived.Test.YtbmapdkcccdmfabDoorM8
import Derived.Test.YtbmapdkcccdmfabDoorM9
import Derived.Test.YtbmapdkcccdmfabDoorRows
namespace Go.Proofs.YtbmapdkcccdmfabDoor
open Go.RowKit Go.Shelf Go.Sort

theorem clB_of {xs : List ByteArray} {x y : ByteArray} (hx : x ∈ xs) (hy : y ∈ xs) (hne : x ≠ y) (hs : sumOf x = sumOf y) : clB xs = true := by
  unfold clB
  rw [List.any_eq_true]
  refine ⟨x, hx, ?_⟩
  rw [List.any_eq_true]
  exact ⟨y, hy, decide_eq_true ⟨hne, hs⟩⟩
/-- What is asked for and is there has that digest. -/
theorem askN_sum {d : ByteArray} {ts : List ByteArray} {n : PN} (h : askN d ts = some n) : ∃ x r, ts = x :: r ∧ sumOf x = d ∧ ndOf x = some n := by
  cases ts with
  | nil => cases h
  | cons x r =>
    have h' : (if sumOf x = d then ndOf x else none) = some n := h
    split at h'
    · next hs => exact ⟨x, r, rfl, hs, h'⟩
    · cases h'
/-- Two walks by one way that both go through come to one thing, or two texts clash. -/
theorem wk_two : ∀ (f : Nat) (to : PR) (p : ByteArray) (l m : List ByteArray), (wkF f to p l).2 = true → (wkF f to p m).2 = true → (wkF f to p l).1 = (wkF f to p m).1 ∨ ∃ x y, x ∈ l ∧ y ∈ m ∧ x ≠ y ∧ sumOf x = sumOf y
  | 0, _, _, _, _, h, _ => by cases h
  | f + 1, .win nd, p, l, m, h1, h2 => by
    rw [wk_win] at h1 h2 ⊢
    rw [wk_win]
    by_cases hp : p = nd.path
    · rw [if_pos hp, if_pos hp]
      exact .inl rfl
    · rw [if_neg hp] at h1 h2 ⊢
      rw [if_neg hp]
      cases hst : stepTo p nd.ss with
      | none => exact .inl rfl
      | some q =>
        rw [hst] at h1 h2
        exact wk_two f q.1 q.2 l m h1 h2
  | f + 1, .dig d, p, l, m, h1, h2 => by
    cases ha : askN d l with
    | none => rw [wk_no f d p l ha] at h1; cases h1
    | some n1 =>
      cases hb : askN d m with
      | none => rw [wk_no f d p m hb] at h2; cases h2
      | some n2 =>
        obtain ⟨x, r, rfl, hx1, hx2⟩ := askN_sum ha
        obtain ⟨y, s, rfl, hy1, hy2⟩ := askN_sum hb
        by_cases hxy : x = y
        · subst hxy
          have hn : n1 = n2 := by rw [hx2] at hy2; exact Option.some.inj hy2
          subst hn
          rw [wk_dig f d p x r n1 ha] at h1 ⊢
          rw [wk_dig f d p x s n1 hb] at h2 ⊢
          have hw : ∀ (l m : List ByteArray), (wkF (f + 1) (.win n1) p l).2 = true → (wkF (f + 1) (.win n1) p m).2 = true → (wkF (f + 1) (.win n1) p l).1 = (wkF (f + 1) (.win n1) p m).1 ∨ ∃ x y, x ∈ l ∧ y ∈ m ∧ x ≠ y ∧ sumOf x = sumOf y := fun l m h1 h2 => by
            rw [wk_win] at h1 h2 ⊢
            rw [wk_win]
            by_cases hp : p = n1.path
            · rw [if_pos hp, if_pos hp]
              exact .inl rfl
            · rw [if_neg hp] at h1 h2 ⊢
              rw [if_neg hp]
              cases hst : stepTo p n1.ss with
              | none => exact .inl rfl
              | some q =>
                rw [hst] at h1 h2
                exact wk_two f q.1 q.2 l m h1 h2
          rcases hw r s h1 h2 with h | ⟨x', y', h3, h4, h5⟩
          · exact .inl h
          · exact .inr ⟨x', y', List.mem_cons_of_mem _ h3, List.mem_cons_of_mem _ h4, h5⟩
        · exact .inr ⟨x, y, List.mem_cons_self .., List.mem_cons_self .., hxy, by rw [hx1, hy1]⟩
/-- No node has the bytes of an empty text. -/
theorem ndOf_80 : ndOf ⟨#[128]⟩ = none := by
  have h : decF 65537 (encI (.mk false ⟨#[]⟩ [])) = some [.mk false ⟨#[]⟩ []] := dec_enc (by decide +kernel)
  have he : encI (.mk false ⟨#[]⟩ []) = ⟨#[128]⟩ := by decide +kernel
  rw [he] at h
  rw [ndOf_one (by decide) h]
  have : rdN (.mk false ⟨#[]⟩ []) = none := rfl
  rw [this]
  split <;> rfl
/-- What Check says where it says OK. -/
theorem chk_ok {root key : ByteArray} {xs : List ByteArray} (h : (chkF root key xs).2.2 = 0) : (xs = [] ∧ root = sumOf ⟨#[128]⟩ ∧ (chkF root key xs).1 = ⟨#[]⟩ ∧ (chkF root key xs).2.1 = false) ∨ (¬ (xs = [] ∧ root = sumOf ⟨#[128]⟩) ∧ (wkF (2 * key.size + 1) (.dig root) (ofOf key) xs).2 = true ∧ (chkF root key xs).1 = (wkF (2 * key.size + 1) (.dig root) (ofOf key) xs).1 ∧ (chkF root key xs).2.1 = decide (0 < (wkF (2 * key.size + 1) (.dig root) (ofOf key) xs).1.size)) := by
  unfold chkF at h ⊢
  split at h
  · next h1 =>
    rw [if_pos h1]
    split at h
    · next h2 =>
      rw [if_pos h2]
      exact .inl ⟨h2.1, h2.2, rfl, rfl⟩
    · next h2 =>
      rw [if_neg h2]
      split at h
      · next h3 =>
        rw [if_pos h3]
        exact .inr ⟨h2, h3, rfl, rfl⟩
      · cases h
  · cases h
/-- Where a walk goes through, its first text has the root's digest, and is a node. -/
theorem wk_first {f : Nat} {d p : ByteArray} {ts : List ByteArray} (h : (wkF (f + 1) (.dig d) p ts).2 = true) : ∃ x r n, ts = x :: r ∧ sumOf x = d ∧ ndOf x = some n := by
  cases ha : askN d ts with
  | none => rw [wk_no f d p ts ha] at h; cases h
  | some n =>
    obtain ⟨x, r, h1, h2, h3⟩ := askN_sum ha
    exact ⟨x, r, n, h1, h2, h3⟩
/-- ProofOnly: what two lists prove of a key is the same, or two texts clash. -/
theorem only_pure (root key : ByteArray) (l m : List ByteArray) (h1 : (chkF root key l).2.2 = 0) (h2 : (chkF root key m).2.2 = 0) (hne : ¬ ((chkF root key l).1 = (chkF root key m).1 ∧ (chkF root key l).2.1 = (chkF root key m).2.1)) : clB (⟨#[128]⟩ :: l ++ m) = true := by
  have h80 : ∀ (x : ByteArray) (n : PN), ndOf x = some n → x ≠ ⟨#[128]⟩ := fun x n h e => by rw [e, ndOf_80] at h; cases h
  rcases chk_ok h1 with ⟨a1, a2, a3, a4⟩ | ⟨_, a2, a3, a4⟩
  · rcases chk_ok h2 with ⟨b1, b2, b3, b4⟩ | ⟨_, b2, b3, b4⟩
    · exact absurd ⟨by rw [a3, b3], by rw [a4, b4]⟩ hne
    · obtain ⟨x, r, n, rfl, c2, c3⟩ := wk_first b2
      exact clB_of (x := ⟨#[128]⟩) (y := x) (by simp) (by simp) (fun e => h80 x n c3 e.symm) (by rw [c2, a2])
  · rcases chk_ok h2 with ⟨b1, b2, b3, b4⟩ | ⟨_, b2, b3, b4⟩
    · obtain ⟨x, r, n, rfl, c2, c3⟩ := wk_first a2
      exact clB_of (x := ⟨#[128]⟩) (y := x) (by simp) (by simp) (fun e => h80 x n c3 e.symm) (by rw [c2, b2])
    · rcases wk_two _ _ _ l m a2 b2 with h | ⟨x, y, d1, d2, d3, d4⟩
      · exact absurd ⟨by rw [a3, b3, h], by rw [a4, b4, h]⟩ hne
      · exact clB_of (x := x) (y := y) (by simp [d1]) (by simp [d2]) d3 d4
end Go.Proofs.YtbmapdkcccdmfabDoor
namespace Go.Proofs.YtbmapdkcccdmfabDoor
open Go.RowKit Go.Shelf Go.Sort

/-- What a law takes of a text, and of texts. -/
def ctT (x : ByteArray) : ByteArray := x.extract 0 (min x.size 3000)
def smT (xs : List ByteArray) : List ByteArray := (xs.take 40).map ctT
theorem ct_snoc {es : List ByteArray} {k : Nat} {e : ByteArray} (he : es[k]? = some e) : (es.take (k + 1)).map ctT = (es.take k).map ctT ++ [ctT e] := by
  rw [List.take_add_one, he]
  simp
theorem info_text7 : (Tryd.prog.info? 9).map (fun i => (i.zero, i.size, i.bytes)) = some (some (.string ⟨#[]⟩), 1, 16) := by kernel_rfl
/-- What holds while a statement runs. -/
structure SmK7 (V : World) (b o N c k : Nat) (f fw : ByteArray) (u3 : Value) (S : Nat → Bool) (x15 x16 x17 x18 x19 x20 x21 x22 x23 x24 x25 x26 x27 : Value) (W : World) : Prop where
  e : Below V.heap.size V W
  f0 : S 0 = true → x15 = u3
  f1 : S 1 = true → x16 = Value.slice (some ⟨b, o, none⟩) N c
  f2 : S 2 = true → x17 = Value.int .i64 (k : Int)
  f3 : S 3 = true → x18 = Value.pointer (some ⟨b, o + k, none⟩)
  f4 : S 4 = true → x19 = Value.string f
  f5 : S 5 = true → x20 = Value.slice (some ⟨b, o, none⟩) N c
  f6 : S 6 = true → x21 = Value.int .i64 (k : Int)
  f7 : S 7 = true → x22 = Value.pointer (some ⟨b, o + k, none⟩)
  f8 : S 8 = true → x23 = Value.string f
  f9 : S 9 = true → x24 = Value.int .i64 (f.size : Int)
  f10 : S 10 = true → x25 = Value.int .i64 (min (f.size : Int) 3000)
  f11 : S 11 = true → x26 = Value.string fw
  f12 : S 12 = true → ∃ g, x27 = .slice (some ⟨g, 0, none⟩) 1 1 ∧ V.heap.size ≤ g ∧ g < W.heap.size ∧ W.heap[g]? = some (.cells #[.string fw] 9 (0, 0))
theorem SmK7.grow {V : World} {b o N c k : Nat} {f fw : ByteArray} {u3 : Value} {S : Nat → Bool} {x15 x16 x17 x18 x19 x20 x21 x22 x23 x24 x25 x26 x27 : Value} {W W' : World} (h : SmK7 V b o N c k f fw u3 S x15 x16 x17 x18 x19 x20 x21 x22 x23 x24 x25 x26 x27 W) (hb : Below W.heap.size W W') : SmK7 V b o N c k f fw u3 S x15 x16 x17 x18 x19 x20 x21 x22 x23 x24 x25 x26 x27 W' :=
  ⟨belowStep h.e h.e.size hb, h.f0, h.f1, h.f2, h.f3, h.f4, h.f5, h.f6, h.f7, h.f8, h.f9, h.f10, h.f11, fun s => (h.f12 s).imp fun _ ⟨j1, j0, j2, j3⟩ => ⟨j1, j0, Nat.lt_of_lt_of_le j2 hb.size, (hb.block _ j2).trans j3⟩⟩
set_option maxRecDepth 20000 in
set_option maxHeartbeats 4000000 in
theorem some7_any (es : List ByteArray) (a : Option Addr) (c n : Nat) (w : World) (hn : n ≤ w.heap.size) (hp : slS n w a es) :
    Calls Tryd.prog 5 #[.slice a es.length c] w fun e w' => Below w.heap.size w w' ∧ ∃ v, e = .returned v ∧ w'.ownsRow w.heap.size 9 1 v (smT es).length ((smT es).map .string) := by
  obtain ⟨i0, hi0, hz0, hz1, hz2⟩ := info_parts info_text7
  obtain ⟨N, hN⟩ : ∃ N, es.length = N := ⟨_, rfl⟩
  have HN : Hid (es.length = N) := hN
  rw [hN]
  clear hN
  obtain ⟨z, hz⟩ : ∃ z, w.heap.size = z := ⟨_, rfl⟩
  have HZ : Hid (w.heap.size = z) := hz
  have B0 : Below z w w := Below.refl _ _
  rw [hz]
  have hz' : z ≤ w.heap.size := by omega
  have hnz : n ≤ z := by omega
  clear hz hn
  go_enter Tryd.func5, Tryd.ntmps5
  go_wp2_with fail
  go_loopg [3, 4] (min N 40) (fun gk v i wr => ∃ k : Nat, k + gk = min N 40 ∧ i = .int .i64 k ∧ Below z w wr ∧ z ≤ wr.heap.size ∧ wr.ownsRow z 9 1 v k (((es.take k).map ctT).map .string))
  case atStart => exact ⟨0, by omega, rfl, B0, hz', World.ownsRow_nil _ _ _ _⟩
  case round =>
    clear B0
    obtain ⟨k, hk, rfl, BW, hzw, hown⟩ := hrel
    have hr3 : ∀ b, u3.ownBlock = some b → z ≤ b := fun b hb => (hown.lt b hb).1
    by_cases hlt : k < min N 40
    · have l0 : (k : Int) < N := by omega
      have l4 : (k : Int) < 40 := by omega
      obtain ⟨f, hf⟩ : ∃ f, es[k]? = some f := ⟨es[k]'(by have := HN.out; omega), List.getElem?_eq_getElem (by have := HN.out; omega)⟩
      obtain ⟨b, o, rfl, hb, c0⟩ := slS_at hp k f hf
      replace c0 := (BW.cell (p := ⟨b, _, none⟩) (by show b < z; omega)).trans c0
      have wk : IntKind.i64.wrap ((k : Int) + 1) = ((k + 1 : Nat) : Int) := by rw [IntKind.wrap_i64]; omega
      have hm : (min (f.size : Int) 3000).toNat = min f.size 3000 := by omega
      obtain ⟨fw, hfw⟩ : ∃ q, f.extract 0 (min f.size 3000) = q := ⟨_, rfl⟩
      have HF : Hid (es[k]? = some f ∧ f.extract 0 (min f.size 3000) = fw) := ⟨hf, hfw⟩
      have hbW : b < wr.heap.size := by omega
      clear hf
      go_wp2_with fail
      refine region_inv_tail 13 (fun S aa W => ∃ x15 x16 x17 x18 x19 x20 x21 x22 x23 x24 x25 x26 x27 : Value, aa = { tmps := #[Value.slice (some { block := b, off := o }) N c, undef, Value.slice none 0 0, u3, Value.int IntKind.i64 ↑k, Value.int IntKind.i64 ↑k, Value.slice (some { block := b, off := o }) N c, Value.int IntKind.i64 ↑N, Value.bool true, Value.bool true, Value.int IntKind.i64 ↑k, Value.bool true, Value.bool true, u13, u14, x15, x16, x17, x18, x19, x20, x21, x22, x23, x24, x25, x26, x27, u28, undef], defers := [] } ∧ SmK7 wr b o N c k f fw u3 S x15 x16 x17 x18 x19 x20 x21 x22 x23 x24 x25 x26 x27 W) (by kernel_rfl) (by kernel_rfl) ?_ ?_ ?_
      · exact ⟨u15, u16, u17, u18, u19, u20, u21, u22, u23, u24, u25, u26, u27, rfl, ⟨(Below.refl _ wr).drew, nofun, nofun, nofun, nofun, nofun, nofun, nofun, nofun, nofun, nofun, nofun, nofun, nofun⟩⟩
      · intro i o S aa W hin hi hun hJ hall K hK
        obtain ⟨x15, x16, x17, x18, x19, x20, x21, x22, x23, x24, x25, x26, x27, rfl, h⟩ := hJ
        have hlt : i < 13 := hin
        have hcase : i = 0 ∨ i = 1 ∨ i = 2 ∨ i = 3 ∨ i = 4 ∨ i = 5 ∨ i = 6 ∨ i = 7 ∨ i = 8 ∨ i = 9 ∨ i = 10 ∨ i = 11 ∨ i = 12 := by omega
        rcases hcase with rfl | rfl | rfl | rfl | rfl | rfl | rfl | rfl | rfl | rfl | rfl | rfl | rfl
        all_goals (have ho := (Option.some.inj hi).symm; subst ho; clear hi hlt hin)
        · go_simp
          exact hK _ _ ⟨_, x16, x17, x18, x19, x20, x21, x22, x23, x24, x25, x26, x27, rfl, ⟨h.e, fun _ => rfl, h.f1, h.f2, h.f3, h.f4, h.f5, h.f6, h.f7, h.f8, h.f9, h.f10, h.f11, h.f12⟩⟩
        · go_simp
          exact hK _ _ ⟨x15, _, x17, x18, x19, x20, x21, x22, x23, x24, x25, x26, x27, rfl, ⟨h.e, h.f0, fun _ => rfl, h.f2, h.f3, h.f4, h.f5, h.f6, h.f7, h.f8, h.f9, h.f10, h.f11, h.f12⟩⟩
        · go_simp
          exact hK _ _ ⟨x15, x16, _, x18, x19, x20, x21, x22, x23, x24, x25, x26, x27, rfl, ⟨h.e, h.f0, h.f1, fun _ => rfl, h.f3, h.f4, h.f5, h.f6, h.f7, h.f8, h.f9, h.f10, h.f11, h.f12⟩⟩
        · have s_1 : S 1 = true := hall ⟨1, .data⟩ (by simp) rfl
          obtain rfl := h.f1 s_1
          have s_2 : S 2 = true := hall ⟨2, .data⟩ (by simp) rfl
          obtain rfl := h.f2 s_2
          go_simp
          exact hK _ _ ⟨x15, _, _, _, x19, x20, x21, x22, x23, x24, x25, x26, x27, rfl, ⟨h.e, h.f0, h.f1, h.f2, fun _ => rfl, h.f4, h.f5, h.f6, h.f7, h.f8, h.f9, h.f10, h.f11, h.f12⟩⟩
        · have s_3 : S 3 = true := hall ⟨3, .data⟩ (by simp) rfl
          obtain rfl := h.f3 s_3
          have cW := (h.e.cell (p := ⟨b, o + k, none⟩) hbW).trans c0
          go_simp
          exact hK _ _ ⟨x15, x16, x17, _, _, x20, x21, x22, x23, x24, x25, x26, x27, rfl, ⟨h.e, h.f0, h.f1, h.f2, h.f3, fun _ => rfl, h.f5, h.f6, h.f7, h.f8, h.f9, h.f10, h.f11, h.f12⟩⟩
        · go_simp
          exact hK _ _ ⟨x15, x16, x17, x18, x19, _, x21, x22, x23, x24, x25, x26, x27, rfl, ⟨h.e, h.f0, h.f1, h.f2, h.f3, h.f4, fun _ => rfl, h.f6, h.f7, h.f8, h.f9, h.f10, h.f11, h.f12⟩⟩
        · go_simp
          exact hK _ _ ⟨x15, x16, x17, x18, x19, x20, _, x22, x23, x24, x25, x26, x27, rfl, ⟨h.e, h.f0, h.f1, h.f2, h.f3, h.f4, h.f5, fun _ => rfl, h.f7, h.f8, h.f9, h.f10, h.f11, h.f12⟩⟩
        · have s_5 : S 5 = true := hall ⟨5, .data⟩ (by simp) rfl
          obtain rfl := h.f5 s_5
          have s_6 : S 6 = true := hall ⟨6, .data⟩ (by simp) rfl
          obtain rfl := h.f6 s_6
          go_simp
          exact hK _ _ ⟨x15, x16, x17, x18, x19, _, _, _, x23, x24, x25, x26, x27, rfl, ⟨h.e, h.f0, h.f1, h.f2, h.f3, h.f4, h.f5, h.f6, fun _ => rfl, h.f8, h.f9, h.f10, h.f11, h.f12⟩⟩
        · have s_7 : S 7 = true := hall ⟨7, .data⟩ (by simp) rfl
          obtain rfl := h.f7 s_7
          have cW := (h.e.cell (p := ⟨b, o + k, none⟩) hbW).trans c0
          go_simp
          exact hK _ _ ⟨x15, x16, x17, x18, x19, x20, x21, _, _, x24, x25, x26, x27, rfl, ⟨h.e, h.f0, h.f1, h.f2, h.f3, h.f4, h.f5, h.f6, h.f7, fun _ => rfl, h.f9, h.f10, h.f11, h.f12⟩⟩
        · have s_8 : S 8 = true := hall ⟨8, .data⟩ (by simp) rfl
          obtain rfl := h.f8 s_8
          go_simp
          exact hK _ _ ⟨x15, x16, x17, x18, x19, x20, x21, x22, _, _, x25, x26, x27, rfl, ⟨h.e, h.f0, h.f1, h.f2, h.f3, h.f4, h.f5, h.f6, h.f7, h.f8, fun _ => rfl, h.f10, h.f11, h.f12⟩⟩
        · have s_9 : S 9 = true := hall ⟨9, .data⟩ (by simp) rfl
          obtain rfl := h.f9 s_9
          go_simp
          exact hK _ _ ⟨x15, x16, x17, x18, x19, x20, x21, x22, x23, _, _, x26, x27, rfl, ⟨h.e, h.f0, h.f1, h.f2, h.f3, h.f4, h.f5, h.f6, h.f7, h.f8, h.f9, fun _ => rfl, h.f11, h.f12⟩⟩
        · have s_4 : S 4 = true := hall ⟨4, .data⟩ (by simp) rfl
          obtain rfl := h.f4 s_4
          have s_10 : S 10 = true := hall ⟨10, .data⟩ (by simp) rfl
          obtain rfl := h.f10 s_10
          go_simp
          rw [if_pos (by constructor <;> omega)]
          exact hK _ _ ⟨x15, x16, x17, x18, _, x20, x21, x22, x23, x24, _, _, x27, rfl, ⟨h.e, h.f0, h.f1, h.f2, h.f3, h.f4, h.f5, h.f6, h.f7, h.f8, h.f9, h.f10, fun _ => rfl, h.f12⟩⟩
        · have s_11 : S 11 = true := hall ⟨11, .data⟩ (by simp) rfl
          obtain rfl := h.f11 s_11
          go_simp
          have h1 := h.grow ((Below.refl _ W).alloc (Nat.le_refl _) (.cells #[.string fw] 9))
          exact hK _ _ ⟨x15, x16, x17, x18, x19, x20, x21, x22, x23, x24, x25, _, _, rfl, ⟨h1.e, h1.f0, h1.f1, h1.f2, h1.f3, h1.f4, h1.f5, h1.f6, h1.f7, h1.f8, h1.f9, h1.f10, h1.f11, fun _ => ⟨W.heap.size, rfl, h.e.size, by simp, World.alloc_heap_new W _⟩⟩⟩
      · rintro S aa W hall ⟨x15, x16, x17, x18, x19, x20, x21, x22, x23, x24, x25, x26, x27, rfl, h⟩
        obtain rfl := h.f0 (hall 0 (by decide))
        obtain rfl := h.f1 (hall 1 (by decide))
        obtain rfl := h.f2 (hall 2 (by decide))
        obtain rfl := h.f3 (hall 3 (by decide))
        obtain rfl := h.f4 (hall 4 (by decide))
        obtain rfl := h.f5 (hall 5 (by decide))
        obtain rfl := h.f6 (hall 6 (by decide))
        obtain rfl := h.f7 (hall 7 (by decide))
        obtain rfl := h.f8 (hall 8 (by decide))
        obtain rfl := h.f9 (hall 9 (by decide))
        obtain rfl := h.f10 (hall 10 (by decide))
        obtain rfl := h.f11 (hall 11 (by decide))
        obtain ⟨gg, rfl, hgg, hhg, hcg⟩ := h.f12 (hall 12 (by decide))
        have BWD := h.e
        clear h hall
        simp only [List.drop_succ_cons, List.drop_zero]
        have hown2 := owns_below2 hown BWD
        have hzW : z ≤ W.heap.size := Nat.le_trans hzw BWD.size
        have BW2 := belowStep BW hzw BWD
        have HV : Hid (_ ∧ _) := ⟨hown2, hcg⟩
        clear hown BW BWD hown2 hcg c0
        go_wp2_with (at_builtin; refine wpList_append_where _ rfl _ _ 22 rfl z 9 i0 _ 1 16 Tryd.underlying22 hi0 hz0 hz1 hz2 rfl (by decide) _ k _ rfl HV.out.1 ⟨gg, 0, none⟩ 1 1 [.string fw] rfl rfl ?c1 ?c2 (by unfold maxLen; omega) (by omega) ?c3 (by decide) ?_)
        case c1 =>
          intro j u hj
          rw [Addr.add_lit, Lib.cell_of_heap HV.out.2, Nat.zero_add]
          simpa using hj
        case c2 =>
          intro u hu
          simp only [List.mem_cons, List.not_mem_nil, or_false] at hu
          subst hu
          rfl
        case c3 => omega
        intro v' w6 a2 a3 a4 a5
        have HW : Hid (_ ∧ _) := ⟨a2, a3⟩
        clear a2 a3 a4 a5
        go_wp2
        go_roundg (gk - 1)
        case measure => omega
        case rel =>
          obtain ⟨a2, a3⟩ := HW.out
          refine ⟨k + 1, by omega, by first | rfl | (congr 1; omega), BW2.grown a3 hzW (fun q e => hr3 q e), Nat.le_trans hzW a3.size, ?_⟩
          have e := ct_snoc HF.out.1
          have e2 : ctT f = fw := HF.out.2
          have e3 : List.map Value.string (List.map ctT (es.take k)) = List.take k (List.map (Value.string ∘ ctT) es) := by rw [List.map_map, List.map_take]
          rw [e, e2, List.map_append, e3]
          exact a2
    · have hk2 : k = min N 40 := by omega
      have he : (es.take k).map ctT = smT es := by
        unfold smT
        congr 1
        rw [hk2]
        by_cases h40 : N ≤ 40
        · rw [List.take_of_length_le (by have := HN.out; omega), List.take_of_length_le (by have := HN.out; omega)]
        · rw [show min N 40 = 40 by omega]
      rw [he] at hown
      have hlen : (smT es).length = k := by
        unfold smT
        rw [List.length_map, List.length_take, HN.out, Nat.min_comm]
        exact hk2.symm
      rw [← hlen] at hown
      have HO : Hid _ := hown
      clear hown he hlen
      by_cases hkN : (k : Int) < N
      · have l4 : ¬ (k : Int) < 40 := by omega
        go_wp2
        go_ret
        exact ⟨BW, _, rfl, HO.out⟩
      · go_wp2
        go_ret
        exact ⟨BW, _, rfl, HO.out⟩
end Go.Proofs.YtbmapdkcccdmfabDoor
namespace Go.Proofs.YtbmapdkcccdmfabDoor
open Go.RowKit Go.Shelf Go.Sort

theorem own_mono7 {W : World} {z z' : Nat} {e : TypeId} {k : Nat} {v : Value} {n : Nat} {xs : List Value} (h : W.ownsRow z' e k v n xs) (hz : z ≤ z') : W.ownsRow z e k v n xs := by
  refine ⟨h.1, ?_⟩
  rcases h.2 with h1 | ⟨g, cap, cur, h1, h2, h3⟩
  · exact .inl h1
  · exact .inr ⟨g, cap, cur, h1, Nat.le_trans hz h2, h3⟩
set_option maxRecDepth 20000 in
set_option maxHeartbeats 1000000 in
theorem four7_any (w : World) :
    Calls Tryd.prog 8 #[] w fun e w' => Below w.heap.size w w' ∧ ∃ b, e = .returned (.slice (some ⟨b, 0, none⟩) 4 4) ∧ w.heap.size ≤ b ∧ slP w'.heap.size w' (some ⟨b, 0, none⟩) four4 := by
  go_enter Tryd.func8, Tryd.ntmps8
  go_wp2
  go_ret
  refine ⟨be_new w _, w.heap.size, rfl, Nat.le_refl _, .inr ⟨w.heap.size, 0, rfl, by simp, ?_⟩⟩
  intro j e he
  have hc := fun k => Lib.cell_of_heap (j := k) (World.alloc_heap_new w (.cells #[.string ⟨#[100, 111]⟩, .string ⟨#[118, 101, 114, 98]⟩, .string ⟨#[100, 111, 103]⟩, .string ⟨#[112, 117, 112, 112, 121]⟩, .string ⟨#[100, 111, 103, 101]⟩, .string ⟨#[99, 111, 105, 110]⟩, .string ⟨#[104, 111, 114, 115, 101]⟩, .string ⟨#[115, 116, 97, 108, 108, 105, 111, 110]⟩] 43))
  match j, he with
  | 0, he => cases he; exact ⟨hc 0, hc 1⟩
  | 1, he => cases he; exact ⟨hc 2, hc 3⟩
  | 2, he => cases he; exact ⟨hc 4, hc 5⟩
  | 3, he => cases he; exact ⟨hc 6, hc 7⟩
  | k + 4, he => cases he

set_option maxRecDepth 20000 in
set_option maxHeartbeats 1000000 in
theorem rprove_own {b : Bool} {es : List Pr} (hb0 : b = true ↔ RightP es) (key : ByteArray) (hkey : key.size ≤ 70368744177664) (a : Option Addr) (c n : Nat) (w : World) (hn : n ≤ w.heap.size) (hs : slP n w a es) :
    Calls Tryd.prog 9 #[.slice a es.length c, .string key] w fun e w' => (∃ v, e = .returned (.tuple #[v, .int .i64 (erS b)]) ∧ w'.ownsRow w.heap.size 9 1 v (tdS b (wayL (kyP key)) es).length ((tdS b (wayL (kyP key)) es).map .string)) ∧ Below w.heap.size w w' := by
  have K1 := rright6_any es a c n w hn hs
  have hlen := tdW_len (kyP key) es hb0
  obtain ⟨xs, hxs⟩ : ∃ xs, tdS b (wayL (kyP key)) es = xs := ⟨_, rfl⟩
  obtain ⟨N, hN⟩ : ∃ N, es.length = N := ⟨_, rfl⟩
  cases b with
  | false =>
    have hnr : ¬ RightP es := fun h => Bool.noConfusion (hb0.2 h)
    have HNR : Hid (¬ RightP es) := hnr
    have e1 : xs = [] := hxs.symm
    have e2 : erS false = 60 := rfl
    rw [hxs, e1, e2, hN] 
    rw [hN] at K1
    clear hxs hlen e1 e2 hb0 hnr hs hN
    go_enter Tryd.func9, Tryd.ntmps9
    go_wp2_with fail
    refine K1.mono ?_
    rintro e w1 ⟨⟨q, rfl, h1⟩, B1⟩
    obtain rfl : q = false := by
      cases q with
      | false => rfl
      | true => exact absurd (h1.1 rfl) HNR.out
    clear h1 K1
    go_wp2
    exact bodyPost_ret (v := .tuple #[.slice none 0 0, .int .i64 60]) (by simp [results, Tryd.results9, go_sem]) rfl ⟨⟨_, rfl, World.ownsRow_nil _ _ _ _⟩, B1⟩
  | true =>
    have hr : RightP es := hb0.1 rfl
    have HR : Hid (RightP es) := hr
    have e2 : erS true = 0 := rfl
    rw [e2]
    by_cases h0 : es.length = 0
    · have e1 : xs = [] := by
        rw [← hxs]
        unfold tdS wyL
        rw [if_pos rfl, if_pos (by rw [(srt_perm es).length_eq]; exact h0)]
      rw [hxs, e1, h0]
      rw [h0] at K1
      clear hxs hlen e1 e2 hb0 hr hs hN h0
      go_enter Tryd.func9, Tryd.ntmps9
      go_wp2_with fail
      refine K1.mono ?_
      rintro e w1 ⟨⟨q, rfl, h1⟩, B1⟩
      obtain rfl : q = true := h1.2 HR.out
      clear h1 K1
      go_wp2
      exact bodyPost_ret (v := .tuple #[.slice none 0 0, .int .i64 0]) (by simp [results, Tryd.results9, go_sem]) rfl ⟨⟨_, rfl, World.ownsRow_nil _ _ _ _⟩, B1⟩
    · have KN := fun W hn hp => ws_all (ofOf key) 129 es 0 (by omega) hr (ok_top hr h0) W.heap.size (.slice none 0 0) [] a c n W hn hp (World.ownsRow_nil _ _ _ _) (Nat.le_refl _) (by rw [ws_top hr h0]; simp; omega)
      rw [ws_top hr h0, hxs] at KN
      rw [hxs, hN]
      rw [hN] at K1 KN h0
      have l0 : ((N : Int) == 0) = false := by rw [beq_eq_false_iff_ne]; omega
      have HS : Hid _ := hs
      have HKN : Hid _ := KN
      clear hxs hlen e2 hb0 hr hs hN KN
      go_enter Tryd.func9, Tryd.ntmps9
      go_wp2_with fail
      refine K1.mono ?_
      rintro e w1 ⟨⟨q, rfl, h1⟩, B1⟩
      obtain rfl : q = true := h1.2 HR.out
      clear K1 h1
      have KO := rof_any key hkey w1
      go_wp2_with fail
      refine KO.mono ?_
      rintro e w2' ⟨rfl, B1'⟩
      replace B1 := belowStep B1 B1.size B1'
      clear KO B1'
      have hp1 := slP_below (B1.mono hn) HS.out
      have K2 := HKN.out w2' (Nat.le_trans hn B1.size) (hp1.elim .inl fun ⟨b, o, h1, h2, h3⟩ => .inr ⟨b, o, h1, h2, by simp [Value.ownBlock], h3⟩)
      rw [List.nil_append] at K2
      obtain ⟨G, hG⟩ : ∃ G, GrR w2'.heap.size (.slice none 0 0) xs w2' = G := ⟨_, rfl⟩
      have HG : Hid (GrR w2'.heap.size (.slice none 0 0) xs w2' = G) := hG
      have K3 : Calls Tryd.prog 17 #[.slice none 0 0, .slice a N c, .int .i64 0, .string (ofOf key)] w2' G := by rw [← hG]; exact K2
      clear K2 hG hp1
      go_wp2_with fail
      refine K3.mono ?_
      intro e w2 hg
      rw [← HG.out] at hg
      obtain ⟨v2, rfl, o1, o2, o3⟩ := hg
      obtain ⟨a2, c2, rfl, hsl⟩ := slS_owns o1
      have B2 : Below w2'.heap.size w2' w2 := ⟨o2.os, o2.tape, o2.output, o2.size, fun k hk => o2.block k hk (by simp [Value.ownBlock])⟩
      have BW := belowStep B1 B1.size B2
      have HF : Hid (_ ∧ _) := ⟨own_mono7 o1 B1.size, BW⟩
      clear o1 o2 o3 hsl K3 B2 BW
      go_wp2
      exact bodyPost_ret (v := .tuple #[.slice a2 xs.length c2, .int .i64 0]) (by simp [results, Tryd.results9, go_sem]) rfl ⟨⟨_, rfl, HF.out.1⟩, HF.out.2⟩
end Go.Proofs.YtbmapdkcccdmfabDoor
namespace Go.Proofs.YtbmapdkcccdmfabDoor
open Go.RowKit Go.Shelf Go.Sort

theorem nd_enc {x : It} {t : ByteArray} (h : encI x = t) (hE : eE x = 0) (hd : dprI 12 x = false) (hz : t.size ≤ 65536) : ndOf t = rdN x := by
  have := dec_enc hE
  rw [h] at this
  rw [ndOf_one hz this, hd]
  rfl
theorem wk_go {f : Nat} {d p x : ByteArray} {r : List ByteArray} {n : PN} {rr : PR} {rest : ByteArray} (hs : sumOf x = d) (hn : ndOf x = some n) (hp : ¬ p = n.path) (hst : stepTo p n.ss = some (rr, rest)) : wkF (f + 1) (.dig d) p (x :: r) = wkF f rr rest r := by
  have ha : askN d (x :: r) = some n := by
    show (if sumOf x = d then ndOf x else none) = _
    rw [if_pos hs, hn]
  rw [wk_dig f d p x r n ha, wk_win, if_neg hp, hst]
theorem wk_in {f : Nat} {p : ByteArray} {ts : List ByteArray} {n : PN} {rr : PR} {rest : ByteArray} (hp : ¬ p = n.path) (hst : stepTo p n.ss = some (rr, rest)) : wkF (f + 1) (.win n) p ts = wkF f rr rest ts := by
  rw [wk_win, if_neg hp, hst]
theorem wk_at {f : Nat} {p : ByteArray} {ts : List ByteArray} {n : PN} (hp : p = n.path) : wkF (f + 1) (.win n) p ts = (n.val, ts.isEmpty) := by
  rw [wk_win, if_pos hp]
theorem wk_off {f : Nat} {d p x : ByteArray} {r : List ByteArray} {n : PN} (hs : sumOf x = d) (hn : ndOf x = some n) (hp : ¬ p = n.path) (hst : stepTo p n.ss = none) : wkF (f + 1) (.dig d) p (x :: r) = (⟨#[]⟩, r.isEmpty) := by
  have ha : askN d (x :: r) = some n := by
    show (if sumOf x = d then ndOf x else none) = _
    rw [if_pos hs, hn]
  rw [wk_dig f d p x r n ha, wk_win, if_neg hp, hst]
def m6 : PN := .mk ⟨#[]⟩ ⟨#[112, 117, 112, 112, 121]⟩ (.cons ⟨#[6]⟩ (.win (.mk ⟨#[5]⟩ ⟨#[99, 111, 105, 110]⟩ .nil)) .nil)
def m5 : PN := .mk ⟨#[]⟩ ⟨#[]⟩ (.cons ⟨#[7]⟩ (.win m6) .nil)
def m4 : PN := .mk ⟨#[]⟩ ⟨#[118, 101, 114, 98]⟩ (.cons ⟨#[6]⟩ (.win m5) .nil)
def m2' : PN := .mk ⟨#[]⟩ ⟨#[]⟩ (.cons ⟨#[6, 15]⟩ (.dig D1.d) .nil)
def mH : PN := .mk ⟨#[6, 15, 7, 2, 7, 3, 6, 5]⟩ ⟨#[115, 116, 97, 108, 108, 105, 111, 110]⟩ .nil
def m1 : PN := .mk ⟨#[]⟩ ⟨#[]⟩ (.cons ⟨#[4]⟩ (.dig D2.d) (.cons ⟨#[8]⟩ (.win mH) .nil))
def m0 : PN := .mk ⟨#[]⟩ ⟨#[]⟩ (.cons ⟨#[6]⟩ (.dig D3.d) .nil)
theorem k0 : ndOf D4.t = some m0 := by
  rw [nd_enc (x := X0) (by decide +kernel) (by decide +kernel) (by decide +kernel) (by decide +kernel)]
  kernel_rfl
theorem k1 : ndOf D3.t = some m1 := by
  rw [nd_enc (x := X1) (by decide +kernel) (by decide +kernel) (by decide +kernel) (by decide +kernel)]
  kernel_rfl
theorem k2 : ndOf D2.t = some m2' := by
  rw [nd_enc (x := X2) (by decide +kernel) (by decide +kernel) (by decide +kernel) (by decide +kernel)]
  kernel_rfl
theorem k4 : ndOf D1.t = some m4 := by
  rw [nd_enc (x := X4) (by decide +kernel) (by decide +kernel) (by decide +kernel) (by decide +kernel)]
  kernel_rfl
theorem wdog (ts : List ByteArray) : wkF 7 (.dig D4.d) ⟨#[6, 4, 6, 15, 6, 7]⟩ (D4.t :: D3.t :: D2.t :: D1.t :: ts) = (⟨#[112, 117, 112, 112, 121]⟩, ts.isEmpty) := by
  rw [wk_go (n := m0) (rr := .dig D3.d) (rest := ⟨#[4, 6, 15, 6, 7]⟩) D4.sum k0 (by decide) (by kernel_rfl)]
  rw [wk_go (n := m1) (rr := .dig D2.d) (rest := ⟨#[6, 15, 6, 7]⟩) D3.sum k1 (by decide) (by kernel_rfl)]
  rw [wk_go (n := m2') (rr := .dig D1.d) (rest := ⟨#[6, 7]⟩) D2.sum k2 (by decide) (by kernel_rfl)]
  rw [wk_go (n := m4) (rr := .win m5) (rest := ⟨#[7]⟩) D1.sum k4 (by decide) (by kernel_rfl)]
  rw [wk_in (n := m5) (rr := .win m6) (rest := ⟨#[]⟩) (by decide) (by kernel_rfl)]
  rw [wk_at (n := m6) (by decide)]
  rfl
theorem wcat : wkF 7 (.dig D4.d) ⟨#[6, 3, 6, 1, 7, 4]⟩ [D4.t, D3.t] = (⟨#[]⟩, true) := by
  rw [wk_go (n := m0) (rr := .dig D3.d) (rest := ⟨#[3, 6, 1, 7, 4]⟩) D4.sum k0 (by decide) (by kernel_rfl)]
  rw [wk_off (n := m1) D3.sum k1 (by decide) (by kernel_rfl)]
  rfl
def tDog : ByteArray := ⟨#[100, 111, 103]⟩
def tCat : ByteArray := ⟨#[99, 97, 116]⟩
def wDog : List ByteArray := [D4.t, D3.t, D2.t, D1.t]
def wCat : List ByteArray := [D4.t, D3.t]
theorem chk_dog : chkF D4.d tDog wDog = (⟨#[112, 117, 112, 112, 121]⟩, true, 0) := by
  unfold chkF
  have e : ofOf tDog = ⟨#[6, 4, 6, 15, 6, 7]⟩ := by decide +kernel
  have hw : wkF (2 * tDog.size + 1) (.dig D4.d) (ofOf tDog) wDog = (⟨#[112, 117, 112, 112, 121]⟩, true) := by rw [e]; exact wdog []
  rw [hw, if_pos (by decide +kernel), if_neg (by intro h; cases h.1), if_pos rfl]
  rfl
theorem chk_cat : chkF D4.d tCat wCat = (⟨#[]⟩, false, 0) := by
  unfold chkF
  have e : ofOf tCat = ⟨#[6, 3, 6, 1, 7, 4]⟩ := by decide +kernel
  have hw : wkF (2 * tCat.size + 1) (.dig D4.d) (ofOf tCat) wCat = (⟨#[]⟩, true) := by rw [e]; exact wcat
  rw [hw, if_pos (by decide +kernel), if_neg (by intro h; cases h.1), if_pos rfl]
  rfl
theorem chk_more : chkF D4.d tDog (wDog ++ [⟨#[120]⟩]) = (⟨#[]⟩, false, 70) := by
  unfold chkF
  have e : ofOf tDog = ⟨#[6, 4, 6, 15, 6, 7]⟩ := by decide +kernel
  have hw : wkF (2 * tDog.size + 1) (.dig D4.d) (ofOf tDog) (wDog ++ [⟨#[120]⟩]) = (⟨#[112, 117, 112, 112, 121]⟩, false) := by rw [e]; exact wdog [⟨#[120]⟩]
  rw [hw, if_pos (by decide +kernel), if_neg (by intro h; cases h.1), if_neg (by decide)]
theorem srt4 : srt four4 = four4 := only4 (srt_perm _) (srt_sorted _)
theorem rt4 : rtS true four4 = D4.d := by
  unfold rtS
  rw [if_pos rfl, srt4, topB4, D4.sum]
theorem td_dog : tdS true (wayL (kyP tDog)) four4 = wDog := by
  unfold tdS
  rw [if_pos rfl, srt4]
  exact way4
theorem td_cat : tdS true (wayL (kyP tCat)) four4 = wCat := by
  unfold tdS
  rw [if_pos rfl, srt4]
  unfold wyL
  rw [if_neg (by decide), top4]
  have hk : kyP tCat = ⟨#[6, 3, 6, 1, 7, 4]⟩ := by decide +kernel
  rw [hk]
  unfold wayL
  have o1 : ownT X1 = [D3.t] := by
    unfold ownT
    rw [t1, if_neg (by decide +kernel)]
  have w1 : wyN ⟨#[3, 6, 1, 7, 4]⟩ nod1 = [D3.t] := by
    show ownT X1 ++ (if pfx ⟨#[4]⟩ ⟨#[3, 6, 1, 7, 4]⟩ = true then _ else (if pfx ⟨#[8]⟩ ⟨#[3, 6, 1, 7, 4]⟩ = true then _ else [])) = _
    rw [o1, if_neg (by decide +kernel), if_neg (by decide +kernel)]
    rfl
  show eS X0 :: (if pfx ⟨#[6]⟩ ⟨#[6, 3, 6, 1, 7, 4]⟩ = true then wyN (rst ⟨#[6, 3, 6, 1, 7, 4]⟩ ⟨#[6]⟩) nod1 else []) = _
  rw [t0, if_pos (by decide +kernel), show rst ⟨#[6, 3, 6, 1, 7, 4]⟩ ⟨#[6]⟩ = ⟨#[3, 6, 1, 7, 4]⟩ by decide +kernel, w1]
  rfl
end Go.Proofs.YtbmapdkcccdmfabDoor
namespace Go.Proofs.YtbmapdkcccdmfabDoor
open Go.RowKit Go.Shelf Go.Sort

def wMore : List ByteArray := wDog ++ [⟨#[120]⟩]
theorem chk_more7 : chkF D4.d tDog wMore = (⟨#[]⟩, false, 70) := chk_more
theorem hb4 : true = true ↔ RightP four4 := ⟨fun _ => right4, fun _ => rfl⟩
theorem owns_cap7 {W : World} {z : Nat} {v : Value} {xs : List ByteArray} (h : W.ownsRow z 9 1 v xs.length (xs.map .string)) : ∃ a c, v = .slice a xs.length c ∧ xs.length ≤ c ∧ slS W.heap.size W a xs := by
  obtain ⟨a, c, rfl, hs⟩ := slS_owns h
  rcases h.2 with ⟨h1, h2⟩ | ⟨g, cap, cur, h1, h2, h3, h4, _⟩
  · exact ⟨a, c, rfl, by omega, hs⟩
  · injection h1 with e1 e2 e3
    subst e3
    exact ⟨a, c, rfl, h4, hs⟩
set_option maxRecDepth 20000 in
set_option maxHeartbeats 4000000 in
theorem shown7_any (w : World) (hl : Laid w) :
    Calls Tryd.prog 4 #[] w fun e w' => e = .returned (.bool true) ∧ Below w.heap.size w w' := by
  go_enter Tryd.func4, Tryd.ntmps4
  go_wp2_with fail
  refine (four7_any w).mono ?_
  rintro e w1 ⟨B1, b1, rfl, hb1, hp1⟩
  have KR := rroot_one hb4 (some ⟨b1, 0, none⟩) 4 w1.heap.size w1 (Nat.le_refl _) hp1
  rw [rt4, show erS true = 0 from rfl, show four4.length = 4 from rfl] at KR
  go_wp2_with fail
  refine KR.mono ?_
  rintro e w2 ⟨rfl, B2⟩
  have BW := belowStep B1 B1.size B2
  clear KR hp1 B1 B2
  go_wp2_with fail
  refine (four7_any w2).mono ?_
  rintro e w3 ⟨B3, b3, rfl, hb3, hp3⟩
  have KP := rprove_own hb4 tDog (by decide) (some ⟨b3, 0, none⟩) 4 w3.heap.size w3 (Nat.le_refl _) hp3
  rw [td_dog, show erS true = 0 from rfl, show four4.length = 4 from rfl] at KP
  replace BW := belowStep BW BW.size B3
  have hwz : w.heap.size ≤ w3.heap.size := BW.size
  clear B3 hp3
  go_wp2_with fail
  refine KP.mono ?_
  rintro e w4 ⟨⟨v, rfl, hown⟩, B4⟩
  clear KP
  obtain ⟨a4, c4, rfl, hc4, hs4⟩ := owns_cap7 hown
  replace BW := belowStep BW BW.size B4
  have KC := check_any D4.d tDog wDog (by decide) a4 c4 w4.heap.size hc4 w4 (Nat.le_refl _) (hl.below BW) hs4
  rw [chk_dog, show wDog.length = 4 from rfl] at KC
  dsimp only at KC
  have HO : Hid _ := hown
  have hz3 : w3.heap.size ≤ w4.heap.size := B4.size
  clear hown hs4 B4
  obtain ⟨z3, hz30⟩ : ∃ z, w3.heap.size = z := ⟨_, rfl⟩
  rw [hz30] at HO hz3 hwz
  clear hz30
  rw [show wDog.length = 4 from rfl] at hc4 ⊢
  go_wp2_with fail
  refine KC.mono ?_
  rintro e w5 ⟨rfl, B5⟩
  have hO5 : Hid _ := owns_below HO.out B5
  replace hz3 : z3 ≤ w5.heap.size := Nat.le_trans hz3 B5.size
  replace BW := belowStep BW BW.size B5
  clear KC B5 HO
  go_wp2_with fail
  refine (four7_any w5).mono ?_
  rintro e w6 ⟨B6, b6, rfl, hb6, hp6⟩
  have KP := rprove_own hb4 tCat (by decide) (some ⟨b6, 0, none⟩) 4 w6.heap.size w6 (Nat.le_refl _) hp6
  rw [td_cat, show erS true = 0 from rfl, show four4.length = 4 from rfl] at KP
  have hO6 : Hid _ := owns_below hO5.out B6
  replace hz3 : z3 ≤ w6.heap.size := Nat.le_trans hz3 B6.size
  replace BW := belowStep BW BW.size B6
  clear B6 hp6 hO5
  go_wp2_with fail
  refine KP.mono ?_
  rintro e w7 ⟨⟨v7, rfl, hown7⟩, B7⟩
  clear KP
  obtain ⟨a7, c7, rfl, hc7, hs7⟩ := owns_cap7 hown7
  have hO7 : Hid _ := owns_below hO6.out B7
  replace hz3 : z3 ≤ w7.heap.size := Nat.le_trans hz3 B7.size
  replace BW := belowStep BW BW.size B7
  have KC := check_any D4.d tCat wCat (by decide) a7 c7 w7.heap.size hc7 w7 (Nat.le_refl _) (hl.below BW) hs7
  rw [chk_cat, show wCat.length = 2 from rfl] at KC
  dsimp only at KC
  clear hown7 hs7 B7 hO6
  rw [show wCat.length = 2 from rfl] at hc7 ⊢
  go_wp2_with fail
  refine KC.mono ?_
  rintro e w8 ⟨rfl, B8⟩
  have hO8 : Hid _ := owns_below hO7.out B8
  replace hz3 : z3 ≤ w8.heap.size := Nat.le_trans hz3 B8.size
  replace BW := belowStep BW BW.size B8
  clear KC B8 hO7
  obtain ⟨i0, hi0, hj0, hj1, hj2⟩ := info_parts info_text7
  have A8 := (Below.refl w8.heap.size w8).alloc (Nat.le_refl _) (.cells #[.string ⟨#[120]⟩] 9)
  have hN8 := World.alloc_heap_new w8 (.cells #[.string ⟨#[120]⟩] 9)
  have hO9 : Hid (_ ∧ _ ∧ _) := ⟨owns_below hO8.out A8, hN8, A8⟩
  clear A8 hN8 hO8
  go_wp2_with (at_builtin; refine wpList_append_where _ rfl _ _ 22 rfl z3 9 i0 _ 1 16 Tryd.underlying22 hi0 hj0 hj1 hj2 rfl (by decide) _ 4 _ rfl hO9.out.1 ⟨w8.heap.size, 0, none⟩ 1 1 [.string ⟨#[120]⟩] rfl rfl ?c1 ?c2 (by unfold maxLen; omega) (by omega) ?c3 (by decide) ?_)
  case c1 =>
    intro j u hj
    rw [Addr.add_lit, Lib.cell_of_heap hO9.out.2.1, Nat.zero_add]
    simpa using hj
  case c2 =>
    intro u hu
    simp only [List.mem_cons, List.not_mem_nil, or_false] at hu
    subst hu
    rfl
  case c3 =>
    have := hO9.out.2.2.size
    omega
  intro v' w9 a2 a3 a4 a5
  have hO9' := hO9.out
  have hownM : w9.ownsRow z3 9 1 v' wMore.length (wMore.map .string) := a2
  obtain ⟨a9, c9, rfl, hc9, hs9⟩ := owns_cap7 hownM
  have hA8 := hO9'.2.2
  have BX := belowStep BW BW.size hA8
  have BY : Below w.heap.size w w9 := BX.grown a3 (by have := BX.size; omega) (fun b e => Nat.le_trans hwz (hO9'.1.lt b e).1)
  have KC := check_any D4.d tDog wMore (by decide) a9 c9 w9.heap.size hc9 w9 (Nat.le_refl _) (hl.below BY) hs9
  rw [chk_more7, show wMore.length = 5 from rfl] at KC
  dsimp only at KC
  rw [show wMore.length = 5 from rfl]
  have HB : Hid _ := BY
  clear a2 a3 a4 a5 hO9 hO9' hownM hs9 hA8 BX BY BW
  go_wp2_with fail
  refine KC.mono ?_
  rintro e w10 ⟨rfl, B10⟩
  have BZ := belowStep HB.out HB.out.size B10
  clear KC B10
  go_wp2
  go_ret
  exact ⟨rfl, BZ⟩
end Go.Proofs.YtbmapdkcccdmfabDoor
namespace Go.Proofs.YtbmapdkcccdmfabDoor
open Go.RowKit Go.Shelf Go.Sort

/-- A walk that has asked for all texts has not asked for all of more. -/
theorem wk_more (us : List ByteArray) (hu : us ≠ []) : ∀ (f : Nat) (to : PR) (path : ByteArray) (ts : List ByteArray), (wkF f to path ts).2 = true → (wkF f to path (ts ++ us)).2 = false
  | 0, _, _, _, h => by cases h
  | f + 1, to, path, ts, h => by
    have key : ∀ (n : PN) (r : List ByteArray), atN to ts = some (n, r) → atN to (ts ++ us) = some (n, r ++ us) := by
      intro n r h
      cases to with
      | win m =>
        have h' : some (m, ts) = some (n, r) := h
        cases h'
        rfl
      | dig d =>
        have h' : (askN d ts).map (fun n => (n, ts.tail)) = some (n, r) := h
        rw [Option.map_eq_some_iff] at h'
        obtain ⟨m, hm, he⟩ := h'
        cases he
        obtain ⟨x, q, rfl, hs, hn⟩ := askN_sum hm
        show (askN d (x :: (q ++ us))).map (fun n => (n, q ++ us)) = _
        have : askN d (x :: (q ++ us)) = some n := by
          show (if sumOf x = d then ndOf x else none) = some n
          rw [if_pos hs, hn]
        rw [this]
        rfl
    have hem : ∀ r : List ByteArray, (r ++ us).isEmpty = false := fun r => by
      cases r with
      | nil => cases us with
        | nil => exact absurd rfl hu
        | cons => rfl
      | cons => rfl
    unfold wkF at h ⊢
    cases ha : atN to ts with
    | none => rw [ha] at h; cases h
    | some p =>
      obtain ⟨n, r⟩ := p
      rw [ha] at h
      rw [key n r ha]
      dsimp only at h ⊢
      split
      · exact hem r
      · next hp =>
        rw [if_neg hp] at h
        cases hst : stepTo path n.ss with
        | none => exact hem r
        | some q =>
          obtain ⟨to', rest⟩ := q
          rw [hst] at h
          exact wk_more us hu f to' rest r h
theorem rgT_parts {root : ByteArray} {xs : List ByteArray} (h : rgT root xs = true) : root.size = 32 ∧ xs.length ≤ 140 ∧ ∀ x, x ∈ xs → x.size ≤ 65536 := by
  unfold rgT at h
  simp only [Bool.and_eq_true, List.all_eq_true, decide_eq_true_eq] at h
  exact h
theorem rgT_of {root : ByteArray} {xs : List ByteArray} (h1 : root.size = 32) (h2 : xs.length ≤ 140) (h3 : ∀ x, x ∈ xs → x.size ≤ 65536) : rgT root xs = true := by
  unfold rgT
  simp only [Bool.and_eq_true, List.all_eq_true, decide_eq_true_eq]
  exact ⟨h1, h2, h3⟩
/-- What is proved by a text or more. -/
theorem chk_wk {root key : ByteArray} {xs : List ByteArray} (hx : xs ≠ []) (h : (chkF root key xs).2.2 = 0) : (0 < key.size ∧ key.size ≤ 64 ∧ rgT root xs = true) ∧ (wkF (2 * key.size + 1) (.dig root) (ofOf key) xs).2 = true := by
  unfold chkF at h
  split at h
  · next hr =>
    refine ⟨hr, ?_⟩
    rw [if_neg (fun h => hx h.1)] at h
    split at h
    · next hw => exact hw
    · cases h
  · cases h
theorem chk_none {root key : ByteArray} {xs : List ByteArray} (hx : xs ≠ []) (hr : 0 < key.size ∧ key.size ≤ 64 ∧ rgT root xs = true) (h : (wkF (2 * key.size + 1) (.dig root) (ofOf key) xs).2 = false) : chkF root key xs = (⟨#[]⟩, false, 70) := by
  unfold chkF
  rw [if_pos hr, if_neg (fun h => hx h.1), if_neg (by rw [h]; decide)]
theorem chk_longer {root key : ByteArray} {xs : List ByteArray} (hx : xs ≠ []) (h : (chkF root key xs).2.2 = 0) (hl : xs.length ≤ 40) (y : ByteArray) (hy : y.size ≤ 3000) : chkF root key (xs ++ [y]) = (⟨#[]⟩, false, 70) := by
  obtain ⟨⟨h1, h2, h3⟩, hw⟩ := chk_wk hx h
  obtain ⟨r1, r2, r3⟩ := rgT_parts h3
  refine chk_none (by simp) ⟨h1, h2, rgT_of r1 (by rw [List.length_append, List.length_singleton]; omega) ?_⟩ (wk_more [y] (by simp) _ _ _ _ hw)
  intro x hx
  rcases List.mem_append.1 hx with hx | hx
  · exact r3 x hx
  · rw [List.mem_singleton] at hx
    rw [hx]
    omega
theorem chk_shorter {root key : ByteArray} {xs : List ByteArray} (hx : 2 ≤ xs.length) (h : (chkF root key xs).2.2 = 0) : chkF root key (xs.take (xs.length - 1)) = (⟨#[]⟩, false, 70) := by
  have hne : xs ≠ [] := by intro he; rw [he] at hx; cases hx
  obtain ⟨⟨h1, h2, h3⟩, hw⟩ := chk_wk hne h
  obtain ⟨r1, r2, r3⟩ := rgT_parts h3
  have hl : (xs.take (xs.length - 1)).length = xs.length - 1 := by rw [List.length_take]; omega
  refine chk_none (by intro he; rw [he] at hl; simp at hl; omega) ⟨h1, h2, rgT_of r1 (by omega) (fun x hx => r3 x (List.mem_of_mem_take hx))⟩ ?_
  cases hc : (wkF (2 * key.size + 1) (.dig root) (ofOf key) (xs.take (xs.length - 1))).2 with
  | false => rfl
  | true =>
    have := wk_more (xs.drop (xs.length - 1)) (by intro he; have := congrArg List.length he; rw [List.length_drop] at this; simp at this; omega) _ _ _ _ hc
    rw [List.take_append_drop, hw] at this
    cases this
end Go.Proofs.YtbmapdkcccdmfabDoor
namespace Go.Proofs.YtbmapdkcccdmfabDoor
open Go.RowKit Go.Shelf Go.Sort

theorem slS_take {n : Nat} {W : World} {a : Option Addr} {xs : List ByteArray} (k : Nat) (h : slS n W a xs) : slS n W a (xs.take k) := by
  rcases h with rfl | ⟨b, o, h1, h2, h3⟩
  · exact .inl (List.take_nil)
  · exact .inr ⟨b, o, h1, h2, fun j x hx => h3 j x (by rw [List.getElem?_take] at hx; split at hx; exact hx; cases hx)⟩
theorem smT_len (xs : List ByteArray) : (smT xs).length ≤ 40 := by unfold smT; rw [List.length_map, List.length_take]; omega
theorem smT_size (xs : List ByteArray) : ∀ x, x ∈ smT xs → x.size ≤ 3000 := fun x hx => by
  unfold smT at hx
  obtain ⟨y, _, rfl⟩ := List.mem_map.1 hx
  unfold ctT
  rw [ByteArray.size_extract]
  omega
theorem wp_append_where7 {P : Program} (w : World) {o : Oper} {a : Act} {K : Act → World → Prop} {Q : Exit → Act → World → Prop} (sl x : Operand) (t : TypeId)
    (ho : o.op = .call { callee := .builtin .append, args := #[sl, x], argTypes := #[t, t] })
    (base : Nat) (e : TypeId) (i : TypeInfo) (z : Value) (size bytes : Nat) (ht : P.underlying t = some (.slice e)) (hi : P.info? e = some i) (hz : i.zero = some z) (hsize : i.size = size) (hby : i.bytes = bytes) (hzs : z.cells.size = size) (hsz : 0 < size)
    (v : Value) (n : Nat) (xs : List Value) (hs : a.eval sl = v) (hown : w.ownsRow base e size v n xs) (ad : Addr) (m c : Nat) (news : List Value) (hx : a.eval x = .slice (some ad) m c) (hl : news.length = m * size)
    (hnews : ∀ j u, news[j]? = some u → w.cell? (ad.add j) = some u) (h1 : ∀ u ∈ news, u.oneCell' = true) (h63 : n + m ≤ maxLen) (hbytes : (n + m) * bytes ≤ 140737488355328) (hbase : base ≤ w.heap.size) (hm : 0 < m)
    (h : ∀ v' w', w'.ownsRow base e size v' (n + m) (xs ++ news) → w.grownBy w' v.ownBlock → v' ≠ .slice none 0 0 → (v'.ownBlock = v.ownBlock ∨ ∃ g, v'.ownBlock = some g ∧ w.heap.size ≤ g) → K (a.put o.dst v') w') : o.wp P a w K Q := by
  obtain ⟨v', w', hr, h2, h3, h4, h5⟩ := append_where (P := P) w base t o.type e i z size bytes ht hi hz hsize hby hzs hsz v n xs hown ad m c news hl hnews h1 h63 hbytes hbase hm
  unfold Oper.wp execOp
  simp only [ho, resolve, invoke, builtin, Sem.run_bind, Sem.run_pure, Result.andThen_ok, List.map_toArray, List.map_cons, List.map_nil, hs, hx, hr]
  exact h v' w' h2 h3 h4 h5
theorem wp_make_own7 {P : Program} (w : World) {o : Oper} {a : Act} {K : Act → World → Prop} {Q : Exit → Act → World → Prop} (l c : Operand) (t : TypeId) (hop : o.op = Op.makeSlice t l c)
    (base : Nat) (e : TypeId) (i : TypeInfo) (z : Value) (size : Nat) (h1 : P.underlying t = some (.slice e)) (h2 : P.info? e = some i) (h3 : i.zero = some z) (h4 : i.size = size)
    (kl kc : IntKind) (n : Nat) (hl : a.eval l = .int kl 0) (hc : a.eval c = .int kc (n : Int)) (b2 : i.bytes * n ≤ 281474976710656) (b3 : n ≤ maxLen) (b4 : base ≤ w.heap.size)
    (hK : ∀ w', w'.ownsRow base e size (.slice (some ⟨w.heap.size, 0, none⟩) 0 n) 0 [] → w.grownBy w' none → K (a.put o.dst (.slice (some ⟨w.heap.size, 0, none⟩) 0 n)) w') : o.wp P a w K Q := by
  obtain ⟨w', hrun, r1, r2⟩ := run_make_own (P := P) w base t e i z size h1 h2 h3 h4 kl kc n b2 b3 b4
  unfold Oper.wp
  simp [execOp, hop, hl, hc, hrun, Result.andThen]
  exact hK w' r1 r2
/-- What holds while the longer list is laid. -/
structure SJ (V : World) (b off q1 M M1 : Nat) (more mm : ByteArray) (ys : List ByteArray) (S : Nat → Bool) (x51 x52 x53 x54 x55 x56 x57 x58 x59 x60 x61 x62 : Value) (W : World) : Prop where
  e : Below V.heap.size V W
  f0 : S 0 = true → x51 = .slice (some ⟨b, off, none⟩) M q1
  f1 : S 1 = true → x52 = .int .i64 (M : Int)
  f2 : S 2 = true → x53 = .int .i64 (M1 : Int)
  f3 : S 3 = true → S 5 = false → W.ownsRow V.heap.size 9 1 x54 0 []
  f4 : S 4 = true → x55 = .slice (some ⟨b, off, none⟩) M q1
  f5 : S 5 = true → W.ownsRow V.heap.size 9 1 x56 M (ys.map .string)
  f6 : S 6 = true → x57 = .string more
  f7 : S 7 = true → x58 = .string more
  f8 : S 8 = true → x59 = .int .i64 (more.size : Int)
  f9 : S 9 = true → x60 = .int .i64 (min (more.size : Int) 3000)
  f10 : S 10 = true → x61 = .string mm
  f11 : S 11 = true → ∃ d, x62 = .slice (some ⟨d, 0, none⟩) 1 1 ∧ Bq d 9 #[.string mm] W ∧ (S 3 = true → S 5 = false → x54.ownBlock ≠ some d) ∧ (S 5 = true → x56.ownBlock ≠ some d)
theorem SJ.grow {V : World} {b off q1 M M1 : Nat} {more mm : ByteArray} {ys : List ByteArray} {S : Nat → Bool} {x51 x52 x53 x54 x55 x56 x57 x58 x59 x60 x61 x62 : Value} {W W' : World} (h : SJ V b off q1 M M1 more mm ys S x51 x52 x53 x54 x55 x56 x57 x58 x59 x60 x61 x62 W) (hb : Below W.heap.size W W') : SJ V b off q1 M M1 more mm ys S x51 x52 x53 x54 x55 x56 x57 x58 x59 x60 x61 x62 W' :=
  ⟨belowStep h.e h.e.size hb, h.f0, h.f1, h.f2, fun s t => owns_below (h.f3 s t) hb, h.f4, fun s => owns_below (h.f5 s) hb, h.f6, h.f7, h.f8, h.f9, h.f10, fun s => (h.f11 s).imp fun _ ⟨k1, k2, k3, k4⟩ => ⟨k1, k2.below hb, k3, k4⟩⟩
set_option maxRecDepth 20000 in
set_option maxHeartbeats 4000000 in
theorem pshort_any (root key : ByteArray) (l : List ByteArray) (a1 : Option Addr) (c1 : Nat) (more : ByteArray) (w : World) (hl : Laid w) (h1 : slS w.heap.size w a1 l) :
    Calls Tryd.prog 3 #[.string root, .string key, .slice a1 l.length c1, .string more] w fun e w' => e = .returned (.bool true) ∧ Below w.heap.size w w' := by
  have K1 := fun W (hW : Below w.heap.size w W) => some7_any l a1 c1 w.heap.size W hW.size (slS_below hW h1)
  obtain ⟨N1, hN1⟩ : ∃ N, l.length = N := ⟨_, rfl⟩
  rw [hN1] at K1 ⊢
  obtain ⟨ys, hys⟩ : ∃ q, smT l = q := ⟨_, rfl⟩
  have ly : ys.length ≤ 40 := by rw [← hys]; exact smT_len _
  have sy : Hid (∀ x, x ∈ ys → x.size ≤ 3000) := by rw [← hys]; exact smT_size _
  rw [hys] at K1
  clear hys hN1 h1
  obtain ⟨i0, hi0, hz0, hz1, hz2⟩ := info_parts info_text7
  go_enter Tryd.func3, Tryd.ntmps3
  go_wp2_with fail
  refine (shown7_any w hl).mono ?_
  rintro e w1 ⟨rfl, BW⟩
  go_wp2_with fail
  refine (K1 w1 BW).mono ?_
  rintro e w2 ⟨B2, v1, rfl, o1⟩
  obtain ⟨p1, q1, rfl, hq1, s1⟩ := owns_cap7 o1
  replace BW := belowStep BW BW.size B2
  have S1 : Hid _ := s1
  clear B2 o1 s1 K1
  have C1 := check_any root key ys (by omega) p1 q1 w2.heap.size hq1 w2 (Nat.le_refl _) (hl.below BW) S1.out
  obtain ⟨⟨rv1, rb1, re1⟩, hr1⟩ : ∃ q, chkF root key ys = q := ⟨_, rfl⟩
  rw [hr1] at C1
  dsimp only at C1
  have HR1 : Hid _ := hr1
  clear hr1
  obtain ⟨M, hM⟩ : ∃ M, ys.length = M := ⟨_, rfl⟩
  have HM : Hid (ys.length = M) := hM
  rw [hM] at C1 hq1 ly ⊢
  clear hM
  go_wp2_with fail
  refine Calls.mono C1 ?_
  rintro e w4 ⟨rfl, B4⟩
  replace BW := belowStep BW BW.size B4
  have T1 : Hid (slS w4.heap.size w4 p1 ys) := slS_up (slS_below B4 S1.out) B4.size
  clear B4 C1 S1
  by_cases he1 : re1 = 0
  · subst he1
    by_cases hM2 : M < 2
    · have hM2' : (M : Int) < 2 := by omega
      go_wp2_with fail
      go_ret
      exact ⟨rfl, BW⟩
    · have hM2' : ¬ (M : Int) < 2 := by omega
      have hM2'' : decide ((M : Int) < 2) = false := decide_eq_false hM2'
      have wM : IntKind.i64.wrap ((M : Int) - 1) = ((M - 1 : Nat) : Int) := by rw [IntKind.wrap_i64]; omega
      have wM2 : IntKind.i64.wrap ((M : Int) + 1) = ((M + 1 : Nat) : Int) := by rw [IntKind.wrap_i64]; omega
      have hsh := chk_shorter (root := root) (key := key) (xs := ys) (by rw [HM.out]; omega) (by rw [HR1.out])
      rw [HM.out] at hsh
      have C2 := check_any root key (ys.take (M - 1)) (by rw [List.length_take, HM.out]; omega) p1 q1 w4.heap.size (by rw [List.length_take, HM.out]; omega) w4 (Nat.le_refl _) (hl.below BW) (slS_take _ T1.out)
      rw [hsh, List.length_take, HM.out, show min (M - 1) M = M - 1 by omega] at C2
      dsimp only at C2
      clear hsh
      obtain ⟨L1, hL1⟩ : ∃ L, M - 1 = L := ⟨_, rfl⟩
      rw [hL1] at C2 wM
      have lc : (L1 : Int) ≤ q1 := by omega
      have lc' : ¬ (q1 : Int) < L1 := by omega
      have HL : Hid (M - 1 = L1) := hL1
      clear hL1
      go_wp2_with fail
      refine Calls.mono C2 ?_
      rintro e w5 ⟨rfl, B5⟩
      replace BW := belowStep BW BW.size B5
      have U1 : Hid (slS w5.heap.size w5 p1 ys) := slS_up (slS_below B5 T1.out) B5.size
      clear B5 C2 T1
      have hlg := fun y hy => chk_longer (root := root) (key := key) (xs := ys) (by intro e; rw [e] at HM; exact absurd HM.out (by simp; omega)) (by rw [HR1.out]) (by rw [HM.out]; exact ly) y hy
      obtain ⟨b, off, rfl, hb, hcl⟩ : ∃ b off, p1 = some ⟨b, off, none⟩ ∧ b < w5.heap.size ∧ ∀ j x, ys[j]? = some x → w5.cell? ⟨b, off + j, none⟩ = some (.string x) := by
        rcases U1.out with e | ⟨b, off, h1, h2, h3⟩
        · rw [e] at HM; exact absurd HM.out (by simp; omega)
        · exact ⟨b, off, h1, h2, h3⟩
      obtain ⟨mm, hmm⟩ : ∃ q, more.extract 0 (min more.size 3000) = q := ⟨_, rfl⟩
      have hms : mm.size ≤ 3000 := by rw [← hmm, ByteArray.size_extract]; omega
      have HW5 : Hid (w.heap.size ≤ w5.heap.size) := BW.size
      obtain ⟨M1, hM1⟩ : ∃ q, M + 1 = q := ⟨_, rfl⟩
      rw [hM1] at wM2
      have hbn1 : (0 : Int) ≤ min (more.size : Int) 3000 := by omega
      have hbn2 : min (more.size : Int) 3000 ≤ (more.size : Int) := by omega
      have hmn : (min (more.size : Int) 3000).toNat = min more.size 3000 := by omega
      have hlg2 := hlg mm hms
      have HG : Hid (_ ∧ _) := ⟨hlg2, hcl⟩
      clear hlg hlg2 hcl U1 hms
      go_wp2_with fail
      refine region_inv_tail 12 (fun S aa W => ∃ x51 x52 x53 x54 x55 x56 x57 x58 x59 x60 x61 x62 : Value, aa = { tmps := #[.string root, .string key, .slice (some ⟨b, off, none⟩) M q1, .string more, undef, undef, undef, undef, .bool false, .bool true, .string rv1, .bool rb1, .int .i64 0, .string ⟨#[]⟩, .bool false, .int .i64 70, undef, undef, undef, undef, .bool true, .slice a1 N1 c1, .slice (some ⟨b, off, none⟩) M q1, .tuple #[.string rv1, .bool rb1, .int .i64 0], .string root, .string key, .slice (some ⟨b, off, none⟩) M q1, .tuple #[.string rv1, .bool rb1, .int .i64 0], .string rv1, .bool rb1, .int .i64 0, .int .i64 0, .bool false, .bool false, .slice (some ⟨b, off, none⟩) M q1, .int .i64 (M : Int), .bool false, .bool false, undef, .tuple #[.string ⟨#[]⟩, .bool false, .int .i64 70], .string root, .string key, .slice (some ⟨b, off, none⟩) M q1, .slice (some ⟨b, off, none⟩) M q1, .int .i64 (M : Int), .int .i64 (L1 : Int), .slice (some ⟨b, off, none⟩) L1 q1, .tuple #[.string ⟨#[]⟩, .bool false, .int .i64 70], .string ⟨#[]⟩, .bool false, .int .i64 70, x51, x52, x53, x54, x55, x56, x57, x58, x59, x60, x61, x62, undef, undef, undef, undef, undef, undef, undef, undef, undef, undef, undef, undef, undef, undef, undef, undef, undef, undef, undef, undef, undef, undef, undef, undef, undef, undef, undef, undef, undef, undef, undef, undef, undef, undef], defers := [] } ∧ SJ w5 b off q1 M M1 more mm ys S x51 x52 x53 x54 x55 x56 x57 x58 x59 x60 x61 x62 W) (by kernel_rfl) (by kernel_rfl) ?_ ?_ ?_
      · exact ⟨undef, undef, undef, undef, undef, undef, undef, undef, undef, undef, undef, undef, rfl, ⟨(Below.refl _ w5).drew, nofun, nofun, nofun, nofun, nofun, nofun, nofun, nofun, nofun, nofun, nofun, nofun⟩⟩
      · intro i o S aa W hin hi hun hJ hall K hK
        obtain ⟨x51, x52, x53, x54, x55, x56, x57, x58, x59, x60, x61, x62, rfl, h⟩ := hJ
        have hlt : i < 12 := hin
        have hcase : i = 0 ∨ i = 1 ∨ i = 2 ∨ i = 3 ∨ i = 4 ∨ i = 5 ∨ i = 6 ∨ i = 7 ∨ i = 8 ∨ i = 9 ∨ i = 10 ∨ i = 11 := by omega
        rcases hcase with rfl | rfl | rfl | rfl | rfl | rfl | rfl | rfl | rfl | rfl | rfl | rfl
        all_goals (have ho := (Option.some.inj hi).symm; subst ho; clear hi hlt hin)
        · go_simp
          exact hK _ _ ⟨_, x52, x53, x54, x55, x56, x57, x58, x59, x60, x61, x62, rfl, ⟨h.e, fun _ => rfl, h.f1, h.f2, h.f3, h.f4, h.f5, h.f6, h.f7, h.f8, h.f9, h.f10, h.f11⟩⟩
        · have s_0 : S 0 = true := hall ⟨0, .data⟩ (by simp) rfl
          obtain rfl := h.f0 s_0
          go_simp
          exact hK _ _ ⟨_, _, x53, x54, x55, x56, x57, x58, x59, x60, x61, x62, rfl, ⟨h.e, h.f0, fun _ => rfl, h.f2, h.f3, h.f4, h.f5, h.f6, h.f7, h.f8, h.f9, h.f10, h.f11⟩⟩
        · have s_1 : S 1 = true := hall ⟨1, .data⟩ (by simp) rfl
          obtain rfl := h.f1 s_1
          go_simp
          exact hK _ _ ⟨x51, _, _, x54, x55, x56, x57, x58, x59, x60, x61, x62, rfl, ⟨h.e, h.f0, h.f1, fun _ => rfl, h.f3, h.f4, h.f5, h.f6, h.f7, h.f8, h.f9, h.f10, h.f11⟩⟩
        · have s_2 : S 2 = true := hall ⟨2, .data⟩ (by simp) rfl
          obtain rfl := h.f2 s_2
          rw [if_pos (by rfl)]
          refine wp_make_own7 W _ _ 22 rfl w5.heap.size 9 i0 (.string ⟨#[]⟩) 1 Tryd.underlying22 hi0 hz0 hz1 .i64 .i64 M1 rfl rfl (by rw [hz2]; omega) (by unfold maxLen; omega) h.e.size ?_
          intro w9 r1 r2
          have h1 := h.grow ((Below.refl _ W).grown r2 (Nat.le_refl _) (fun _ e => by cases e))
          exact hK _ _ ⟨x51, x52, _, _, x55, x56, x57, x58, x59, x60, x61, x62, rfl, ⟨h1.e, h1.f0, h1.f1, h1.f2, fun _ _ => r1, h1.f4, h1.f5, h1.f6, h1.f7, h1.f8, h1.f9, h1.f10, fun s => (h.f11 s).imp fun d ⟨k1, k2, _, k4⟩ => ⟨k1, (h1.f11 s).elim fun d2 ⟨j1, j2, _, _⟩ => by rw [k1] at j1; injection j1 with j1; injection j1 with j1; injection j1 with j1; rw [j1]; exact j2, fun _ _ e => by have e2 : W.heap.size = d := Option.some.inj e; have := k2.lt; omega, k4⟩⟩⟩
        · go_simp
          exact hK _ _ ⟨x51, x52, x53, x54, _, x56, x57, x58, x59, x60, x61, x62, rfl, ⟨h.e, h.f0, h.f1, h.f2, h.f3, fun _ => rfl, h.f5, h.f6, h.f7, h.f8, h.f9, h.f10, h.f11⟩⟩
        · have s_3 : S 3 = true := hall ⟨3, .data⟩ (by simp) rfl
          have s_4 : S 4 = true := hall ⟨4, .data⟩ (by simp) rfl
          obtain rfl := h.f4 s_4
          have ho5 := h.f3 s_3 hun
          rw [if_pos (by rfl)]
          refine wp_append_where7 W _ _ 22 rfl w5.heap.size 9 i0 (.string ⟨#[]⟩) 1 16 Tryd.underlying22 hi0 hz0 hz1 hz2 rfl (by decide) x54 0 [] rfl ho5 ⟨b, off, none⟩ M q1 (ys.map .string) rfl (by rw [List.length_map, HM.out, Nat.mul_one]) ?_ ?_ (by unfold maxLen; omega) (by omega) h.e.size (by omega) ?_
          · intro j u hu
            rw [Addr.add_mid]
            rw [List.getElem?_map] at hu
            cases hxj : ys[j]? with
            | none => rw [hxj] at hu; cases hu
            | some y =>
              rw [hxj] at hu
              cases hu
              exact (h.e.cell (p := ⟨b, off + j, none⟩) (by exact hb)).trans (HG.out.2 j y hxj)
          · intro u hu
            obtain ⟨y, _, rfl⟩ := List.mem_map.1 hu
            rfl
          intro v5 w9 o5 g5 _ hw5
          rw [Nat.zero_add, List.nil_append] at o5
          exact hK _ _ ⟨x51, x52, x53, x54, _, _, x57, x58, x59, x60, x61, x62, rfl, ⟨h.e.grown g5 h.e.size (fun k e => (ho5.lt k e).1), h.f0, h.f1, h.f2, fun _ e => (Bool.noConfusion (show true = false from e)), h.f4, fun _ => o5, h.f6, h.f7, h.f8, h.f9, h.f10, fun s => (h.f11 s).imp fun d ⟨k1, k2, k3, _⟩ => ⟨k1, (g5.block d k2.lt (fun e => k3 s_3 hun e.symm)).trans k2, fun _ e => (Bool.noConfusion (show true = false from e)), fun _ e => hw5.elim (fun q => k3 s_3 hun (q.symm.trans e)) (fun ⟨g, q1, q2⟩ => by rw [q1] at e; injection e with e; have := k2.lt; omega)⟩⟩⟩
        · go_simp
          exact hK _ _ ⟨x51, x52, x53, x54, x55, x56, _, x58, x59, x60, x61, x62, rfl, ⟨h.e, h.f0, h.f1, h.f2, h.f3, h.f4, h.f5, fun _ => rfl, h.f7, h.f8, h.f9, h.f10, h.f11⟩⟩
        · go_simp
          exact hK _ _ ⟨x51, x52, x53, x54, x55, x56, x57, _, x59, x60, x61, x62, rfl, ⟨h.e, h.f0, h.f1, h.f2, h.f3, h.f4, h.f5, h.f6, fun _ => rfl, h.f8, h.f9, h.f10, h.f11⟩⟩
        · have s_7 : S 7 = true := hall ⟨7, .data⟩ (by simp) rfl
          obtain rfl := h.f7 s_7
          go_simp
          exact hK _ _ ⟨x51, x52, x53, x54, x55, x56, x57, _, _, x60, x61, x62, rfl, ⟨h.e, h.f0, h.f1, h.f2, h.f3, h.f4, h.f5, h.f6, h.f7, fun _ => rfl, h.f9, h.f10, h.f11⟩⟩
        · have s_8 : S 8 = true := hall ⟨8, .data⟩ (by simp) rfl
          obtain rfl := h.f8 s_8
          go_simp
          exact hK _ _ ⟨x51, x52, x53, x54, x55, x56, x57, x58, _, _, x61, x62, rfl, ⟨h.e, h.f0, h.f1, h.f2, h.f3, h.f4, h.f5, h.f6, h.f7, h.f8, fun _ => rfl, h.f10, h.f11⟩⟩
        · have s_6 : S 6 = true := hall ⟨6, .data⟩ (by simp) rfl
          have s_9 : S 9 = true := hall ⟨9, .data⟩ (by simp) rfl
          obtain rfl := h.f6 s_6
          obtain rfl := h.f9 s_9
          go_simp
          exact hK _ _ ⟨x51, x52, x53, x54, x55, x56, _, x58, x59, _, _, x62, rfl, ⟨h.e, h.f0, h.f1, h.f2, h.f3, h.f4, h.f5, h.f6, h.f7, h.f8, h.f9, fun _ => rfl, h.f11⟩⟩
        · have s_10 : S 10 = true := hall ⟨10, .data⟩ (by simp) rfl
          obtain rfl := h.f10 s_10
          have h1 := h.grow ((Below.refl _ W).alloc (Nat.le_refl _) (.cells #[.string mm] 9))
          go_simp
          exact hK _ _ ⟨x51, x52, x53, x54, x55, x56, x57, x58, x59, x60, _, _, rfl, ⟨h1.e, h1.f0, h1.f1, h1.f2, h1.f3, h1.f4, h1.f5, h1.f6, h1.f7, h1.f8, h1.f9, h1.f10, fun _ => ⟨W.heap.size, rfl, World.alloc_heap_new W _, fun s t e => by have := ((h.f3 s t).lt _ e).2; omega, fun s e => by have := ((h.f5 s).lt _ e).2; omega⟩⟩⟩
      · rintro S aa W hall ⟨x51, x52, x53, x54, x55, x56, x57, x58, x59, x60, x61, x62, rfl, h⟩
        have o6 := h.f5 (hall 5 (by decide))
        obtain ⟨d, rfl, hd, _, _⟩ := h.f11 (hall 11 (by decide))
        have BWD := h.e
        clear h hall
        replace BW := belowStep BW BW.size BWD
        have hz6 := BWD.size
        simp only [List.drop_succ_cons, List.drop_zero]
        refine wpList_append_list rfl _ _ rfl w5.heap.size x56 rfl M _ o6 [mm] (some ⟨d, 0, none⟩) 1 1 W.heap.size rfl rfl (.inr ⟨d, 0, rfl, hd.lt, fun j x hx => by cases j with | zero => (simp at hx; subst hx; exact hd.cell 0) | succ j => simp at hx⟩) (by omega) (by omega) hz6 ?_
        intro v6 w6 ho6 hg6
        have BW6 : Below w.heap.size w w6 := BW.grown hg6 BW.size (fun k e => Nat.le_trans HW5.out (o6.lt k e).1)
        have hL6 : (ys ++ [mm]).length = M1 := by rw [List.length_append, HM.out]; exact hM1
        obtain ⟨p6, q6, rfl, hq6, s6⟩ := owns_cap7 (W := w6) (z := w5.heap.size) (v := v6) (xs := ys ++ [mm]) (by rw [List.map_append, hL6, ← hM1]; exact ho6)
        have C3 := check_any root key (ys ++ [mm]) (by rw [hL6]; omega) p6 q6 w6.heap.size hq6 w6 (Nat.le_refl _) (hl.below BW6) s6
        rw [HG.out.1, hL6] at C3
        dsimp only at C3
        rw [hL6] at hq6 ⊢
        clear s6 ho6 hg6 o6 hd hM1 hL6 hbn1 hbn2 hmn hmm wM wM2 lc lc' hz6
        go_wp2_with fail
        refine Calls.mono C3 ?_
        rintro e w7 ⟨rfl, B7⟩
        have BW7 := belowStep BW6 BW6.size B7
        go_wp2_with fail
        go_ret
        exact ⟨rfl, BW7⟩
  · have he1' : ((re1 : Int) == 0) = false := by rw [beq_eq_false_iff_ne]; exact he1
    go_wp2_with fail
    go_ret
    exact ⟨rfl, BW⟩
end Go.Proofs.YtbmapdkcccdmfabDoor
