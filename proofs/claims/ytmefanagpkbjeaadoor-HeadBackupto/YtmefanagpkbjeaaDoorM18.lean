/- Lemmas: The item that begins at a place: the reference's take. Items and their bytes, apart from all memory: what stands for an item is read as it was, and what is read is written so again. Bytes read by the reference: Decode. Which items are alike: the reference's Same. -/
import Derived.Test.YtmefanagpkbjeaaDoorM1
import Derived.Test.YtmefanagpkbjeaaDoorM10
import Derived.Test.YtmefanagpkbjeaaDoorM11
import Derived.Test.YtmefanagpkbjeaaDoorM12
import Derived.Test.YtmefanagpkbjeaaDoorM13
import Derived.Test.YtmefanagpkbjeaaDoorM14
import Derived.Test.YtmefanagpkbjeaaDoorM15
import Derived.Test.YtmefanagpkbjeaaDoorM16
import Derived.Test.YtmefanagpkbjeaaDoorM17
import Derived.Test.YtmefanagpkbjeaaDoorM2
import Derived.Test.YtmefanagpkbjeaaDoorM3
import Derived.Test.YtmefanagpkbjeaaDoorM6
import Derived.Test.YtmefanagpkbjeaaDoorM7
import Derived.Test.YtmefanagpkbjeaaDoorM8
import Derived.Test.YtmefanagpkbjeaaDoorM9
import Derived.Test.YtmefanagpkbjeaaDoorRows
namespace Go.Proofs.YtmefanagpkbjeaaDoor
open Go.RowKit Go.Shelf Go.Sort

/-- What take answers. -/
def TkP (w : World) (s : ByteArray) (F p e : Nat) (r : Ending) (w' : World) : Prop := Below w.heap.size w w' ∧
  ((tkR F s p e = none ∧ ∃ x : Im, ∃ n : Int, r = .returned (.tuple #[x.val, .int .i64 n, .bool false])) ∨
    ∃ (x : Im) (t : Nat), tkR F s p e = some (er x, t) ∧ r = .returned (.tuple #[x.val, .int .i64 t, .bool true]) ∧ inP (fun b => w.heap.size ≤ b ∧ b < w'.heap.size) w' x)
theorem msR_none {s : ByteArray} {p : Nat} {f t : Int} {l : Bool} (h : MsR s p f t l false) : s.size ≤ p ∨ itP s p = none := by
  rcases h with h | h
  · exact h.2
  · cases h.1
theorem msR_some {s : ByteArray} {p : Nat} {f t : Int} {l : Bool} (h : MsR s p f t l true) : p < s.size ∧ ∃ f' t' : Nat, f = f' ∧ t = t' ∧ itP s p = some (f', t', l) := by
  rcases h with h | h
  · cases h.1
  · exact h.2

/-- The state of a round: the items so far, and that all is well. -/
structure TSt (N : Nat) (s : ByteArray) (f t bR bX : Nat) (w : World) (k : Nat) (ao : Option Addr) (c : Nat) (ys : List Im) (cl : List Value) (W : World) : Prop where
  cb : comb (one N) (ps (s.extract f t)) = (comb (one N) (ps (s.extract k t))).map (ers ys ++ ·)
  R : ItIn bR zeroI W
  X : ItIn bX (.mk true ⟨#[]⟩ ao c ys) W
  own : W.ownsRow (bX + 1) 70 3 (.slice ao ys.length c) ys.length cl
  held : Held cl ys
  inn : ∀ y, y ∈ ys → inP (fun b => bX < b ∧ b < W.heap.size ∧ some b ≠ (Value.slice ao ys.length c).ownBlock) W y
  bel : Below bR w W
  len : ys.length ≤ k
theorem TSt.snoc {N : Nat} {s : ByteArray} {f t bR bX : Nat} {w : World} {k : Nat} {ao : Option Addr} {c : Nat} {ys : List Im} {cl : List Value} {W W5 W6 : World} (h : TSt N s f t bR bX w k ao c ys cl W) (hRX : bR < bX) (ht : t ≤ s.size)
    (hb : Below W.heap.size W W5) (Y : Im) (hX : inP (fun b => W.heap.size ≤ b ∧ b < W5.heap.size) W5 Y) (k' : Nat) (hk : tkR N s k t = some (er Y, k')) (v' : Value)
    (h2 : W6.ownsRow (bX + 1) 70 3 v' (ys.length + 1) (cl ++ cell3 Y)) (h3 : W5.grownBy W6 (Value.slice ao ys.length c).ownBlock) (h4 : v' ≠ .slice none 0 0) (h5 : v'.ownBlock = (Value.slice ao ys.length c).ownBlock ∨ ∃ g, v'.ownBlock = some g ∧ W5.heap.size ≤ g) :
    ∃ g c', v' = .slice (some ⟨g, 0, none⟩) (ys.length + 1) c' ∧ k < k' ∧ k' ≤ t ∧ TSt N s f t bR bX w k' (some ⟨g, 0, none⟩) c' (ys ++ [Y]) (cl ++ cell3 Y) (W6.setCell ⟨bX, 2, none⟩ v') := by
  obtain ⟨g, c', rfl⟩ : ∃ g c, v' = .slice (some ⟨g, 0, none⟩) (ys.length + 1) c := by
    rcases h2.2 with ⟨h, _⟩ | ⟨g, c, _, h, _⟩
    · exact absurd h h4
    · exact ⟨g, c, h⟩
  obtain ⟨q1, q2, q3⟩ := tk_some ht hk
  refine ⟨g, c', rfl, q1, q2, ?_⟩
  obtain ⟨v, hv⟩ : ∃ v, Value.slice ao ys.length c = v := ⟨_, rfl⟩
  have hown := h.own
  have hinn := h.inn
  rw [hv] at h3 h5 hown hinn
  have h3' : some g = v.ownBlock ∨ W5.heap.size ≤ g := by
    rcases h5 with h5 | ⟨g', e, h5⟩
    · exact .inl h5
    · cases e
      exact .inr h5
  have hgX := h2.lt g rfl
  have hXl := h.X.lt
  have hs5 := hb.size
  have hs6 := h3.size
  have hvl : ∀ k, some k = v.ownBlock → bX + 1 ≤ k ∧ k < W.heap.size := fun k e => hown.lt k e.symm
  have hRl : Rl W5 (W6.setCell ⟨bX, 2, none⟩ (.slice (some ⟨g, 0, none⟩) (ys.length + 1) c')) v bX :=
    Rl.set (W := W6) ⟨h3.os, h3.tape, h3.output, h3.size, fun k h1 h2 _ => h3.block k h1 h2⟩ ⟨bX, 2, none⟩ _ (.inr (.inr rfl))
  have hsz : (W6.setCell ⟨bX, 2, none⟩ (.slice (some ⟨g, 0, none⟩) (ys.length + 1) c')).heap.size = W6.heap.size := by simp [World.setCell]
  refine ⟨?_, ?_, ?_, ?_, h.held.app Y (by rw [hown.1]), ?_, ?_, ?_⟩
  · rw [h.cb, q3, ers_map, ers_map, List.map_append, Option.map_map]
    congr 1
    funext l
    simp
  · exact (hRl.block bR (by omega) (fun e => by have := hvl bR e; omega) (by omega)).trans ((hb.block bR (by omega)).trans h.R)
  · have hX6 : ItIn bX (.mk true ⟨#[]⟩ ao c ys) W6 := (h3.block bX (by omega) (fun e => by have := hvl bX e; omega)).trans ((hb.block bX hXl).trans h.X)
    have := hX6.set2 (a' := some ⟨g, 0, none⟩) (c' := c') (xs' := ys ++ [Y])
    rw [List.length_append] at this
    exact this
  · rw [List.length_append]
    exact h2.kept (row := some bX) ⟨rfl, rfl, rfl, by rw [hsz]; exact Nat.le_refl _, fun k _ hk => Below.heap_setCell _ _ _ _ (fun e => hk (by simp [e]))⟩ (Or.inr (fun e => by injection e with e; have e' : g = bX := e; omega))
  · intro y hy
    rw [hsz, List.length_append]
    rcases List.mem_append.1 hy with h | h
    · refine inP_of ?_ y (hinn y h)
      intro b hb'
      obtain ⟨c1, c2, c3⟩ := hb'
      refine ⟨⟨c1, by omega, ?_⟩, ?_⟩
      · intro e
        injection e with e
        have e' : b = g := e
        rcases h3' with h3' | h3'
        · exact c3 (by rw [e']; exact h3')
        · omega
      · intro k
        exact (World.cell?_of_block (w := W5) (a := ⟨b, k, none⟩) (hRl.block b (by omega) c3 (by omega))).trans (hb.cell (p := ⟨b, k, none⟩) c2)
    · simp at h
      subst h
      refine inP_of ?_ y hX
      intro b hb'
      obtain ⟨c1, c2⟩ := hb'
      refine ⟨⟨by omega, by omega, ?_⟩, ?_⟩
      · intro e
        injection e with e
        have e' : b = g := e
        rcases h3' with h3' | h3'
        · have := hvl g h3'
          omega
        · omega
      · intro k
        exact World.cell?_of_block (w := W5) (a := ⟨b, k, none⟩) (hRl.block b c2 (fun e => by have := hvl b e; omega) (by omega))
  · exact h.bel.trans ((hb.mono (by omega)).trans ⟨hRl.os, hRl.tape, hRl.output, hRl.size, fun k hk => hRl.block k (by omega) (fun e => by have := hvl k e; omega) (by omega)⟩)
  · rw [List.length_append]
    have := h.len
    show ys.length + 1 ≤ k'
    omega

set_option maxRecDepth 20000 in
set_option maxHeartbeats 2000000 in
theorem rtake_of (N : Nat) (s : ByteArray) (p e : Nat) (hN : e - p ≤ N + 1) (hpe : p ≤ e) (he : e ≤ s.size) (hs : s.size < 1000000)
    (IH : ∀ p' e' : Nat, e' - p' ≤ N → p' ≤ e' → e' ≤ s.size → ∀ w : World, Calls Tryd.prog 94 #[.string s, .int .i64 p', .int .i64 e'] w (TkP w s N p' e'))
    (w : World) : Calls Tryd.prog 94 #[.string s, .int .i64 p, .int .i64 e] w (TkP w s (N + 1) p e) := by
  have l0 : (e : Int) ≤ s.size := by omega
  have hz := ext0_size s e he
  have KM := rmeasure_any (s.extract 0 e) p (by omega) (by omega)
  have A1 : Below w.heap.size w (w.alloc (.cells #[.bool false, .string ⟨#[]⟩, .slice none 0 0] 70)) := (Below.refl _ w).alloc (Nat.le_refl _) _
  have hR0 : ItIn w.heap.size zeroI (w.alloc (.cells #[.bool false, .string ⟨#[]⟩, .slice none 0 0] 70)) := World.alloc_heap_new w _
  have HT : Hid (tkR (N + 1) s p e = if e ≤ p then none else match itP (s.extract 0 e) p with
    | none => none
    | some (f, t, l) => (one (N + 1) (if l then 2 else 1, s.extract f t)).map fun x => (x, t)) := rfl
  obtain ⟨u, hu⟩ : ∃ u, s.extract 0 e = u := ⟨_, rfl⟩
  rw [hu] at KM hz HT
  go_enter Tryd.func94, Tryd.ntmps94
  go_wp2_with fail
  refine (KM _).mono ?_
  rintro e1 w1 ⟨⟨f, t, l, ok, rfl, hms⟩, B1⟩
  have hR : ItIn w.heap.size zeroI w1 := (B1.block _ (by simp)).trans hR0
  have BA := belowStep A1 (by simp) B1
  clear A1 hR0 B1 KM hu
  obtain ⟨bR, hbR⟩ : ∃ c, w.heap.size = c := ⟨_, rfl⟩
  have HZ : Hid (w.heap.size = bR) := hbR
  rw [hbR] at hR BA ⊢
  clear hbR
  have d0 : w1.cell? ⟨bR, 0, none⟩ = some (.bool false) := by rw [Lib.cell_of_heap hR]; rfl
  have d1 : w1.cell? ⟨bR, 1, none⟩ = some (.string ⟨#[]⟩) := by rw [Lib.cell_of_heap hR]; rfl
  have d2 : w1.cell? ⟨bR, 2, none⟩ = some (.slice none 0 0) := by rw [Lib.cell_of_heap hR]; rfl
  have f0 := Lib.frozen_of_heap hR 0
  have f1 := Lib.frozen_of_heap hR 1
  have f2 := Lib.frozen_of_heap hR 2
  cases ok with
  | false =>
    have h := msR_none hms
    have HM : Hid (tkR (N + 1) s p e = none) := by
      refine HT.out.trans ?_
      split
      · rfl
      · rcases h with h | h
        · omega
        · rw [h]
    clear h hms HT IH
    go_wp2
    refine bodyPost_ret (v := .tuple #[.agg #[.bool false, .string ⟨#[]⟩, .slice none 0 0], .int .i64 0, .bool false]) (by simp [results, Tryd.results94, go_sem, d0, d1, d2]) rfl ⟨?_, .inl ⟨HM.out, zeroI, 0, rfl⟩⟩
    rw [HZ.out]
    exact below_set (below_set (below_set BA bR 0 (Nat.le_refl _) _) bR 1 (Nat.le_refl _) _) bR 2 (Nat.le_refl _) _
  | true =>
    obtain ⟨hpz, f', t', rfl, rfl, hit⟩ := msR_some hms
    have hb := itP_le hpz hit
    have hft : (f' : Int) ≤ t' := by omega
    have hts : (t' : Int) ≤ s.size := by omega
    have hfs : (f' : Int) ≤ s.size := by omega
    have HT2 : Hid (tkR (N + 1) s p e = (one (N + 1) (if l then 2 else 1, s.extract f' t')).map fun x => (x, t')) := by
      refine HT.out.trans ?_
      rw [if_neg (by omega), hit]
    clear HT hms hit
    cases l with
    | false =>
      go_wp2
      refine bodyPost_ret (v := .tuple #[.agg #[.bool false, .string (s.extract f' t'), .slice none 0 0], .int .i64 t', .bool true]) (by simp [results, Tryd.results94, go_sem, d0, d1, d2]) rfl ⟨?_, .inr ⟨txt (s.extract f' t'), t', HT2.out, rfl, trivial⟩⟩
      rw [HZ.out]
      exact below_set (below_set (below_set BA bR 0 (Nat.le_refl _) _) bR 1 (Nat.le_refl _) _) bR 2 (Nat.le_refl _) _
    | true =>
      have hf1 := hb.2.2.2.2 rfl
      have hfuel : t' - f' ≤ N := by omega
      have hts2 : t' ≤ s.size := by omega
      have hfb : f' ≤ t' := by omega
      have HT3 : Hid (tkR (N + 1) s p e = ((decF (N + 1) (s.extract f' t')).map (It.mk true ⟨#[]⟩)).map fun x => (x, t')) := HT2.out
      clear HT2 hb hpz hz d0 d1 d2 f0 f1 f2
      obtain ⟨i0, hi0, hz0, hz1, hz2⟩ := info_parts info_item
      have hXn : ItIn w1.heap.size (.mk true ⟨#[]⟩ none 0 []) (w1.alloc (.cells #[.bool true, .string ⟨#[]⟩, .slice none 0 0] 70)) := World.alloc_heap_new w1 _
      have hRn : ItIn bR zeroI (w1.alloc (.cells #[.bool true, .string ⟨#[]⟩, .slice none 0 0] 70)) := (Below.heap_alloc _ _ _ hR.lt).trans hR
      have hRX : bR < w1.heap.size := hR.lt
      have hT0 : TSt N s f' t' bR w1.heap.size w f' none 0 [] [] (w1.alloc (.cells #[.bool true, .string ⟨#[]⟩, .slice none 0 0] 70)) :=
        ⟨by cases comb (one N) (ps (s.extract f' t')) <;> rfl, hRn, hXn, World.ownsRow_nil _ _ _ _, nofun, nofun, BA.alloc (by omega) _, Nat.zero_le _⟩
      go_wp2_with fail
      refine wpOf (fun W => TSt N s f' t' bR w1.heap.size w f' none 0 [] [] W) hT0 ?_
      clear hT0 hXn hRn
      obtain ⟨bX, hbX⟩ : ∃ c, w1.heap.size = c := ⟨_, rfl⟩
      rw [hbX] at hRX ⊢
      clear hbX hR BA
      intro w2 hT2
      go_loopg [9] (t' - f') (fun gk fr wr => ∃ (k : Nat) (ao : Option Addr) (c : Nat) (ys : List Im) (cl : List Value), fr = .int .i64 k ∧ f' ≤ k ∧ k + gk = t' ∧ TSt N s f' t' bR bX w k ao c ys cl wr)
      case atStart => exact ⟨f', none, 0, [], [], rfl, Nat.le_refl _, by omega, hT2⟩
      case round =>
        obtain ⟨k, ao, c, ys, cl, rfl, hfk, hk, hT⟩ := hrel
        have hR := hT.R
        have d0 : wr.cell? ⟨bR, 0, none⟩ = some (.bool false) := by rw [Lib.cell_of_heap hR]; rfl
        have d1 : wr.cell? ⟨bR, 1, none⟩ = some (.string ⟨#[]⟩) := by rw [Lib.cell_of_heap hR]; rfl
        have d2 : wr.cell? ⟨bR, 2, none⟩ = some (.slice none 0 0) := by rw [Lib.cell_of_heap hR]; rfl
        have f0 := Lib.frozen_of_heap hR 0
        have f1 := Lib.frozen_of_heap hR 1
        have f2 := Lib.frozen_of_heap hR 2
        have hX := hT.X
        have x0 : wr.cell? ⟨bX, 0, none⟩ = some (.bool true) := by rw [Lib.cell_of_heap hX]; rfl
        have x1 : wr.cell? ⟨bX, 1, none⟩ = some (.string ⟨#[]⟩) := by rw [Lib.cell_of_heap hX]; rfl
        have x2 : wr.cell? ⟨bX, 2, none⟩ = some (.slice ao ys.length c) := by rw [Lib.cell_of_heap hX]; rfl
        have HS : Hid (TSt N s f' t' bR bX w k ao c ys cl wr) := hT
        by_cases hlt : k < t'
        · have l1 : (k : Int) < t' := by omega
          have KT := IH k t' (by omega) (by omega) hts2
          have hRl := hR.lt
          have hXl := hX.lt
          clear hT hR hX
          go_wp2_with fail
          refine (KT _).mono ?_
          rintro e3 w3 ⟨B3, ⟨hn, Y, n3, rfl⟩ | ⟨Y, k', hsome, rfl, hY⟩⟩
          · have e0 := (B3.cell (p := ⟨bR, 0, none⟩) hRl).trans d0
            have e1 := (B3.cell (p := ⟨bR, 1, none⟩) hRl).trans d1
            have e2 := (B3.cell (p := ⟨bR, 2, none⟩) hRl).trans d2
            have hR3 : ItIn bR zeroI w3 := (B3.block _ hRl).trans HS.out.R
            have g0 := Lib.frozen_of_heap hR3 0
            have g1 := Lib.frozen_of_heap hR3 1
            have g2 := Lib.frozen_of_heap hR3 2
            have hb3 := B3.size
            have hRl3 : bR < w3.heap.size := by omega
            obtain ⟨yl, yt, ya, yc, yx⟩ := Y
            have HN : Hid (_ ∧ _) := ⟨hn, B3⟩
            clear hn B3 hR3 d0 d1 d2 f0 f1 f2 x0 x1 x2 KT
            dsimp only [Im.val, Im.l, Im.t, Im.sl, Im.a, Im.xs, Im.c]
            go_wp2
            obtain ⟨hn, B3⟩ := HN.out
            have hT := HS.out
            have hnn := tk_none hts2 hlt hn
            have hcb := hT.cb
            rw [hnn] at hcb
            have hcb' : decF (N + 1) (s.extract f' t') = none := by
              rw [decF_succ, hcb]
              rfl
            refine bodyPost_ret (v := .tuple #[.agg #[.bool false, .string ⟨#[]⟩, .slice none 0 0], .int .i64 0, .bool false]) (by simp [results, Tryd.results94, go_sem, e0, e1, e2, hRl3]) rfl ⟨?_, .inl ⟨by rw [HT3.out, hcb']; rfl, zeroI, 0, rfl⟩⟩
            rw [HZ.out]
            exact (below_set (below_set (below_set (belowStep hT.bel (by omega) B3) bR 0 (Nat.le_refl _) _) bR 1 (Nat.le_refl _) _) bR 2 (Nat.le_refl _) _).alloc (by simp [World.setCell]; omega) _
          · have hb3 := B3.size
            have x3 := (B3.cell (p := ⟨bX, 2, none⟩) hXl).trans x2
            have hX3 : ItIn bX (.mk true ⟨#[]⟩ ao c ys) w3 := (B3.block _ hXl).trans HS.out.X
            have g2 := Lib.frozen_of_heap hX3 2
            have hXl3 : bX < w3.heap.size := by omega
            have hXne : bX ≠ w3.heap.size := by omega
            obtain ⟨yl, yt, ya, yc, yx⟩ := Y
            have HN : Hid (_ ∧ _ ∧ _) := ⟨hsome, B3, hY⟩
            clear hsome B3 hY hX3 d0 d1 d2 f0 f1 f2 x0 x1 x2 KT
            have hlen : ys.length < 1000000 := by have := HS.out.len; omega
            dsimp only [Im.val, Im.l, Im.t, Im.sl, Im.a, Im.xs, Im.c]
            go_wp2_with (at_builtin; refine wpList_append_where _ rfl _ _ 68 rfl (bX + 1) 70 i0 _ 3 48 Tryd.underlying68 hi0 hz0 hz1 hz2 rfl (by decide) _ ys.length cl rfl ?o1 ⟨w3.heap.size + 1, 0, none⟩ 1 1 [.bool yl, .string yt, .slice ya yx.length yc] rfl rfl ?c1 ?c2 (by unfold maxLen; omega) (by omega) ?c3 (by decide) ?_)
            case o1 => exact owns_below HS.out.own ((HN.out.2.1.alloc (by omega) _).alloc (by simp; omega) _)
            case c1 =>
              intro j u hj
              rw [Addr.add_lit, Lib.cell_of_heap (show ((w3.alloc (.cells #[.bool yl, .string yt, .slice ya yx.length yc] 70)).alloc (.cells #[.bool yl, .string yt, .slice ya yx.length yc] 70)).heap[w3.heap.size + 1]? = _ from by have := World.alloc_heap_new (w3.alloc (.cells #[.bool yl, .string yt, .slice ya yx.length yc] 70)) (.cells #[.bool yl, .string yt, .slice ya yx.length yc] 70); rw [World.size_alloc] at this; exact this), Nat.zero_add]
              simpa using hj
            case c2 =>
              intro u hu
              simp only [List.mem_cons, List.not_mem_nil, or_false] at hu
              rcases hu with rfl | rfl | rfl <;> rfl
            case c3 => simp; omega
            intro v' w6 k2 k3 k4 k5
            obtain ⟨hsome, B3, hY⟩ := HN.out
            have B5 : Below wr.heap.size wr ((w3.alloc (.cells #[.bool yl, .string yt, .slice ya yx.length yc] 70)).alloc (.cells #[.bool yl, .string yt, .slice ya yx.length yc] 70)) := (B3.alloc (by omega) _).alloc (by simp; omega) _
            obtain ⟨g, c', rfl, hkk, hkt, hnew⟩ := HS.out.snoc hRX hts2 B5 (.mk yl yt ya yc yx) (inP_of (fun b hb => ⟨⟨hb.1, by simp; omega⟩, fun j => (World.cell?_of_block (w := w3.alloc (.cells #[.bool yl, .string yt, .slice ya yx.length yc] 70)) (a := ⟨b, j, none⟩) (Below.heap_alloc _ _ _ (by simp; omega))).trans (World.cell?_of_block (w := w3) (a := ⟨b, j, none⟩) (Below.heap_alloc _ _ _ hb.2))⟩) _ hY) k' hsome v' k2 k3 k4 (by rw [World.size_alloc, World.size_alloc]; exact k5)
            have hX6 : ItIn bX (.mk true ⟨#[]⟩ ao c ys) w6 := (k3.block bX (by simp; omega) (fun e => by have := HS.out.own.lt bX e.symm; omega)).trans ((B5.block bX hXl).trans HS.out.X)
            have x6 : w6.cell? ⟨bX, 2, none⟩ = some (.slice ao ys.length c) := by rw [Lib.cell_of_heap hX6]; rfl
            have y6 := Lib.frozen_of_heap hX6 2
            have HW : Hid (_ ∧ _) := ⟨hnew, hkt⟩
            clear hsome B3 hY B5 hnew hX6 k2 k3 k4 k5 x3 g2
            go_wp2
            go_roundg (t' - k')
            case measure => omega
            case rel => exact ⟨k', some ⟨g, 0, none⟩, c', _, _, rfl, by omega, by have := HW.out.2; omega, HW.out.1⟩
        · have l1 : ¬ (k : Int) < t' := by omega
          clear hT hR hX
          go_wp2
          have hT := HS.out
          have hk2 : k = t' := by omega
          have hcb := hT.cb
          rw [hk2, ps_none s t' t' (Nat.le_refl _)] at hcb
          have hcb' : decF (N + 1) (s.extract f' t') = some (ers ys) := by
            rw [decF_succ, hcb]
            show some (ers ys ++ []) = _
            rw [List.append_nil]
          refine bodyPost_ret (v := .tuple #[.agg #[.bool true, .string ⟨#[]⟩, .slice ao ys.length c], .int .i64 t', .bool true]) (by simp [results, Tryd.results94, go_sem, d0, d1, d2]) rfl ⟨?_, .inr ⟨.mk true ⟨#[]⟩ ao c ys, t', ?_, rfl, ?_⟩⟩
          · rw [HZ.out]
            exact below_set (below_set (below_set hT.bel bR 0 (Nat.le_refl _) _) bR 1 (Nat.le_refl _) _) bR 2 (Nat.le_refl _) _
          · rw [HT3.out, hcb']
            rfl
          · have hrow : rowP (fun b => bX < b ∧ b < wr.heap.size) wr ao 0 ys := rowP_owned hT.own hT.held hT.inn (fun b hb => ⟨hb.1, hb.2.1⟩) (fun g hg => by have := hT.own.lt g (by rw [hg]; rfl); exact ⟨this.1, this.2⟩)
            refine rowP_of (fun b hb => ⟨⟨by rw [HZ.out]; omega, by simp [World.setCell]; exact hb.2⟩, fun j => ?_⟩) ao 0 ys hrow
            rw [cell_ne _ _ _ _ _ (by show b ≠ bR; omega), cell_ne _ _ _ _ _ (by show b ≠ bR; omega), cell_ne _ _ _ _ _ (by show b ≠ bR; omega)]

set_option maxRecDepth 20000 in
set_option maxHeartbeats 2000000 in
theorem rtake_0 (s : ByteArray) (p e : Nat) (hN : e - p ≤ 0) (hpe : p ≤ e) (he : e ≤ s.size) (hs : s.size < 1000000)
    (w : World) : Calls Tryd.prog 94 #[.string s, .int .i64 p, .int .i64 e] w (TkP w s 0 p e) := by
  have l0 : (e : Int) ≤ s.size := by omega
  have hz := ext0_size s e he
  have KM := rmeasure_any (s.extract 0 e) p (by omega) (by omega)
  have A1 : Below w.heap.size w (w.alloc (.cells #[.bool false, .string ⟨#[]⟩, .slice none 0 0] 70)) := (Below.refl _ w).alloc (Nat.le_refl _) _
  have hR0 : ItIn w.heap.size zeroI (w.alloc (.cells #[.bool false, .string ⟨#[]⟩, .slice none 0 0] 70)) := World.alloc_heap_new w _
  have HT : Hid (tkR 0 s p e = if e ≤ p then none else match itP (s.extract 0 e) p with
    | none => none
    | some (f, t, l) => (one 0 (if l then 2 else 1, s.extract f t)).map fun x => (x, t)) := rfl
  obtain ⟨u, hu⟩ : ∃ u, s.extract 0 e = u := ⟨_, rfl⟩
  rw [hu] at KM hz HT
  go_enter Tryd.func94, Tryd.ntmps94
  go_wp2_with fail
  refine (KM _).mono ?_
  rintro e1 w1 ⟨⟨f, t, l, ok, rfl, hms⟩, B1⟩
  have hR : ItIn w.heap.size zeroI w1 := (B1.block _ (by simp)).trans hR0
  have BA := belowStep A1 (by simp) B1
  clear A1 hR0 B1 KM hu
  obtain ⟨bR, hbR⟩ : ∃ c, w.heap.size = c := ⟨_, rfl⟩
  have HZ : Hid (w.heap.size = bR) := hbR
  rw [hbR] at hR BA ⊢
  clear hbR
  have d0 : w1.cell? ⟨bR, 0, none⟩ = some (.bool false) := by rw [Lib.cell_of_heap hR]; rfl
  have d1 : w1.cell? ⟨bR, 1, none⟩ = some (.string ⟨#[]⟩) := by rw [Lib.cell_of_heap hR]; rfl
  have d2 : w1.cell? ⟨bR, 2, none⟩ = some (.slice none 0 0) := by rw [Lib.cell_of_heap hR]; rfl
  have f0 := Lib.frozen_of_heap hR 0
  have f1 := Lib.frozen_of_heap hR 1
  have f2 := Lib.frozen_of_heap hR 2
  cases ok with
  | false =>
    have h := msR_none hms
    have HM : Hid (tkR 0 s p e = none) := by
      refine HT.out.trans ?_
      split
      · rfl
      · rcases h with h | h
        · omega
        · rw [h]
    clear h hms HT
    go_wp2
    refine bodyPost_ret (v := .tuple #[.agg #[.bool false, .string ⟨#[]⟩, .slice none 0 0], .int .i64 0, .bool false]) (by simp [results, Tryd.results94, go_sem, d0, d1, d2]) rfl ⟨?_, .inl ⟨HM.out, zeroI, 0, rfl⟩⟩
    rw [HZ.out]
    exact below_set (below_set (below_set BA bR 0 (Nat.le_refl _) _) bR 1 (Nat.le_refl _) _) bR 2 (Nat.le_refl _) _
  | true =>
    have := (msR_some hms).1
    omega
theorem rtake_all : ∀ (N : Nat) (s : ByteArray) (p e : Nat), e - p ≤ N → p ≤ e → e ≤ s.size → s.size < 1000000 → ∀ w : World, Calls Tryd.prog 94 #[.string s, .int .i64 p, .int .i64 e] w (TkP w s N p e)
  | 0, s, p, e, h1, h2, h3, h4, w => rtake_0 s p e h1 h2 h3 h4 w
  | N + 1, s, p, e, h1, h2, h3, h4, w => rtake_of N s p e h1 h2 h3 h4 (fun p' e' k1 k2 k3 w' => rtake_all N s p' e' k1 k2 k3 h4 w') w
end Go.Proofs.YtmefanagpkbjeaaDoor
namespace Go.Proofs.YtmefanagpkbjeaaDoor
open Go.RowKit Go.Shelf Go.Sort

mutual
/-- An item's bytes. -/
def encI : It → ByteArray
  | .mk l t xs => if l then hdB 192 (encIs xs).size ++ encIs xs else if bare t then t else hdB 128 t.size ++ t
def encIs : List It → ByteArray
  | [] => ⟨#[]⟩
  | x :: r => encI x ++ encIs r
end
mutual
/-- Is it right? -/
def rgI : It → Bool
  | .mk l t xs => (if l then decide (t.size = 0) else decide (xs.length = 0)) && rgIs xs
def rgIs : List It → Bool
  | [] => true
  | x :: r => rgI x && rgIs r
end
mutual
def cntI : It → Nat
  | .mk _ _ xs => cntIs xs + 1
def cntIs : List It → Nat
  | [] => 0
  | x :: r => cntI x + cntIs r
end
/-- Deeper than so much? -/
def dprI : Nat → It → Bool
  | 0, _ => true
  | m + 1, .mk _ _ xs => xs.any (dprI m)
mutual
theorem cnt_er : ∀ x, cnt x = cntI (er x)
  | .mk l t a c xs => by show cnts xs + 1 = cntIs (ers xs) + 1; rw [cnts_er xs]
theorem cnts_er : ∀ xs, cnts xs = cntIs (ers xs)
  | [] => rfl
  | x :: r => by show cnt x + cnts r = cntI (er x) + cntIs (ers r); rw [cnt_er x, cnts_er r]
end
theorem dpr_er : ∀ (m : Nat) (x : Im), dpr m x = dprI m (er x)
  | 0, _ => rfl
  | m + 1, .mk l t a c xs => by
    show xs.any (dpr m) = (ers xs).any (dprI m)
    rw [ers_map, List.any_map]
    congr 1
    funext y
    exact dpr_er m y
theorem any_deep (m d : Nat) (h : d + m = 13) : ∀ x, (pro d x).any (fun e => decide (12 < e.1)) = dpr m x := by
  induction m generalizing d with
  | zero =>
    intro x
    rw [pro_eq, List.any_cons]
    have : decide (12 < d) = true := decide_eq_true (by omega)
    rw [this, Bool.true_or]
    rfl
  | succ m ih =>
    intro x
    have ihl : ∀ xs, (pros (d + 1) xs).any (fun e => decide (12 < e.1)) = xs.any (dpr m) := by
      intro xs
      induction xs with
      | nil => rfl
      | cons y r ihr =>
        show (pro (d + 1) y ++ pros (d + 1) r).any _ = (dpr m y || r.any (dpr m))
        rw [List.any_append, ih (d + 1) (by omega) y, ihr]
    have : decide (12 < d) = false := decide_eq_false (by omega)
    rw [pro_eq, List.any_cons, this, Bool.false_or, ihl]
    rfl
theorem deep_er (x : Im) : deep x = dprI 12 (er x) := by
  rw [← dpr_er]
  exact any_deep 12 1 rfl x
mutual
theorem rg_er (d : Nat) : ∀ x, (pro d x).all (fun e => rgt e.2) = rgI (er x)
  | .mk l t a c xs => by
    show (rgt (.mk l t a c xs) && (pros (d + 1) xs).all (fun e => rgt e.2)) = ((if l then decide (t.size = 0) else decide ((ers xs).length = 0)) && rgIs (ers xs))
    rw [rgs_er (d + 1) xs, ers_map, List.length_map]
    rfl
theorem rgs_er (d : Nat) : ∀ xs, (pros d xs).all (fun e => rgt e.2) = rgIs (ers xs)
  | [] => rfl
  | x :: r => by
    show (pro d x ++ pros d r).all _ = (rgI (er x) && rgIs (ers r))
    rw [List.all_append, rg_er d x, rgs_er d r]
end
theorem right_er (x : Im) : right x = rgI (er x) := rg_er 1 x

theorem hdB_hsz (b n : Nat) : (hdB b n).size = hsz n := by
  unfold hdB hsz
  split
  · rfl
  · rw [ByteArray.size_append, num_size]
    rfl
mutual
theorem sz_er : ∀ x, rgI (er x) = true → szOf x = (encI (er x)).size
  | .mk l t a c xs, h => by
    have h' : ((if l then decide (t.size = 0) else decide ((ers xs).length = 0)) && rgIs (ers xs)) = true := h
    rw [Bool.and_eq_true] at h'
    have hx := szs_er xs h'.2
    rw [szOf_eq]
    show (if (!l && bare t) = true then t.size else hsz (t.size + szs xs) + (t.size + szs xs)) = (if l then hdB 192 (encIs (ers xs)).size ++ encIs (ers xs) else if bare t then t else hdB 128 t.size ++ t).size
    rw [hx]
    cases l with
    | true =>
      have h0 : t.size = 0 := of_decide_eq_true h'.1
      rw [if_neg (by simp), if_pos rfl, h0, Nat.zero_add, ByteArray.size_append, hdB_hsz]
    | false =>
      have h0 : (ers xs).length = 0 := of_decide_eq_true h'.1
      have h1 : ers xs = [] := List.length_eq_zero_iff.1 h0
      rw [h1]
      have h2 : (encIs []).size = 0 := rfl
      rw [h2, Nat.add_zero]
      cases hb : bare t with
      | true => rw [if_pos (by simp), if_neg (by simp), if_pos rfl]
      | false => rw [if_neg (by simp), if_neg (by simp), if_neg (by simp), ByteArray.size_append, hdB_hsz]
theorem szs_er : ∀ xs, rgIs (ers xs) = true → szs xs = (encIs (ers xs)).size
  | [], _ => rfl
  | x :: r, h => by
    have h' : (rgI (er x) && rgIs (ers r)) = true := h
    rw [Bool.and_eq_true] at h'
    show szOf x + szs r = (encI (er x) ++ encIs (ers r)).size
    rw [ByteArray.size_append, sz_er x h'.1, szs_er r h'.2]
end
theorem cat_go (l : List (Nat × Im)) : ∀ b : ByteArray, l.foldl (fun b e => b ++ hOf e.2 ++ e.2.t) b = b ++ cat l := by
  induction l with
  | nil => intro b; show b = b ++ ⟨#[]⟩; exact (ByteArray.append_empty).symm
  | cons e r ih =>
    intro b
    show r.foldl _ (b ++ hOf e.2 ++ e.2.t) = b ++ r.foldl _ (⟨#[]⟩ ++ hOf e.2 ++ e.2.t)
    rw [ih, ih (⟨#[]⟩ ++ hOf e.2 ++ e.2.t), show ((⟨#[]⟩ : ByteArray) ++ hOf e.2) = hOf e.2 from ByteArray.empty_append]
    simp only [ByteArray.append_assoc]
theorem cat_app (a b : List (Nat × Im)) : cat (a ++ b) = cat a ++ cat b := by
  show (a ++ b).foldl _ _ = _
  rw [List.foldl_append]
  exact cat_go b _
theorem cat_cons (e : Nat × Im) (r : List (Nat × Im)) : cat (e :: r) = hOf e.2 ++ e.2.t ++ cat r := by
  show r.foldl _ (⟨#[]⟩ ++ hOf e.2 ++ e.2.t) = _
  rw [cat_go, show ((⟨#[]⟩ : ByteArray) ++ hOf e.2) = hOf e.2 from ByteArray.empty_append]
theorem size_0 (t : ByteArray) (h : t.size = 0) : t = ⟨#[]⟩ := by
  refine ext_bt _ _ (by rw [h]; rfl) fun j hj => ?_
  omega
mutual
theorem cat_er (d : Nat) : ∀ x, rgI (er x) = true → cat (pro d x) = encI (er x)
  | .mk l t a c xs, h => by
    have h' : ((if l then decide (t.size = 0) else decide ((ers xs).length = 0)) && rgIs (ers xs)) = true := h
    rw [Bool.and_eq_true] at h'
    have hx := szs_er xs h'.2
    have hc := cats_er (d + 1) xs h'.2
    show cat ((d, Im.mk l t a c xs) :: pros (d + 1) xs) = if l then hdB 192 (encIs (ers xs)).size ++ encIs (ers xs) else if bare t then t else hdB 128 t.size ++ t
    rw [cat_cons, hc]
    show (if l then hdB 192 (t.size + szs xs) else if bare t then ⟨#[]⟩ else hdB 128 t.size) ++ t ++ encIs (ers xs) = _
    rw [hx]
    cases l with
    | true =>
      have h0 : t.size = 0 := of_decide_eq_true h'.1
      rw [if_pos rfl, if_pos rfl, h0, Nat.zero_add, size_0 t h0]
      rw [show ∀ q : ByteArray, q ++ ⟨#[]⟩ = q from fun q => ByteArray.append_empty]
    | false =>
      have h0 : (ers xs).length = 0 := of_decide_eq_true h'.1
      have h1 : ers xs = [] := List.length_eq_zero_iff.1 h0
      rw [h1]
      show (if false = true then _ else if bare t then (⟨#[]⟩ : ByteArray) else hdB 128 t.size) ++ t ++ ⟨#[]⟩ = if false = true then _ else if bare t then t else hdB 128 t.size ++ t
      rw [show ∀ q : ByteArray, q ++ ⟨#[]⟩ = q from fun q => ByteArray.append_empty]
      cases bare t with
      | true => exact ByteArray.empty_append
      | false => rfl
theorem cats_er (d : Nat) : ∀ xs, rgIs (ers xs) = true → cat (pros d xs) = encIs (ers xs)
  | [], _ => rfl
  | x :: r, h => by
    have h' : (rgI (er x) && rgIs (ers r)) = true := h
    rw [Bool.and_eq_true] at h'
    show cat (pro d x ++ pros d r) = encI (er x) ++ encIs (ers r)
    rw [cat_app, cat_er d x h'.1, cats_er d r h'.2]
end

/-- What an item comes to, or why not. -/
def eE (x : It) : Int := if dprI 12 x then 41 else if rgI x then (if 65536 < (encI x).size then 42 else 0) else 2
def eS (x : It) : ByteArray := if eE x = 0 then encI x else ⟨#[]⟩
theorem encE_er (x : Im) : encE x = eE (er x) := by
  unfold encE eE
  rw [deep_er, right_er]
  cases hr : rgI (er x) with
  | true => rw [sz_er x hr]
  | false => rfl
theorem eE_0 {x : It} (h : eE x = 0) : dprI 12 x = false ∧ rgI x = true ∧ (encI x).size ≤ 65536 := by
  unfold eE at h
  cases h1 : dprI 12 x with
  | true => rw [h1] at h; simp at h
  | false =>
    cases h2 : rgI x with
    | false => rw [h1, h2] at h; simp at h
    | true =>
      rw [h1, h2] at h
      simp only [Bool.false_eq_true, if_false, if_true] at h
      refine ⟨rfl, rfl, ?_⟩
      split at h
      · cases h
      · omega
theorem encS_er (x : Im) : encS x = eS (er x) := by
  unfold encS eS
  rw [encE_er]
  by_cases h : eE (er x) = 0
  · rw [if_pos h, if_pos h]
    exact cat_er 1 x (eE_0 h).2.1
  · rw [if_neg h, if_neg h]
theorem one_none (F : Nat) (b : ByteArray) : one F (0, b) = none := rfl
theorem one_text (F : Nat) (b : ByteArray) : one F (1, b) = some (.mk false b []) := rfl
theorem one_list (F : Nat) (b : ByteArray) : one F (2, b) = (decF F b).map (It.mk true ⟨#[]⟩) := rfl
theorem ext_size (s : ByteArray) (f t : Nat) (h : t ≤ s.size) : (s.extract f t).size = t - f := by rw [ByteArray.size_extract]; omega
/-- No more items are read than there are bytes. -/
theorem cnt_step (F : Nat) (hF : ∀ s its, decF F s = some its → cntIs its ≤ s.size) (s : ByteArray) (e : Nat) (he : e ≤ s.size) : ∀ (n p : Nat), e - p ≤ n → ∀ its, comb (one F) (ps (s.extract p e)) = some its → cntIs its ≤ e - p
  | n, p, hn, its, h => by
    by_cases hp : e ≤ p
    · rw [ps_none s p e hp] at h
      cases h
      exact Nat.zero_le _
    · rw [ps_itP s p e he (by omega)] at h
      have h0 := ext0_size s e he
      cases hi : itP (s.extract 0 e) p with
      | none => rw [hi] at h; cases h
      | some q =>
        obtain ⟨f, t, l⟩ := q
        have hb := itP_le (by rw [h0]; omega) hi
        rw [h0] at hb
        rw [hi] at h
        dsimp only at h
        rw [comb_cons] at h
        cases ho : one F (if l = true then 2 else 1, s.extract f t) with
        | none => rw [ho] at h; cases h
        | some x =>
          cases hr : comb (one F) (ps (s.extract t e)) with
          | none => rw [ho, hr] at h; cases h
          | some r =>
            rw [ho, hr] at h
            cases h
            match n, hn with
            | 0, hn => omega
            | n + 1, hn =>
              have ih := cnt_step F hF s e he n t (by omega) r hr
              show cntI x + cntIs r ≤ e - p
              cases l with
              | false =>
                cases ho
                show 1 + cntIs r ≤ _
                omega
              | true =>
                have ho' : (decF F (s.extract f t)).map (It.mk true ⟨#[]⟩) = some x := ho
                cases hd : decF F (s.extract f t) with
                | none => rw [hd] at ho'; cases ho'
                | some l =>
                  rw [hd] at ho'
                  cases ho'
                  have h1 := hF _ _ hd
                  rw [ext_size s f t (by omega)] at h1
                  have h2 := hb.2.2.2.2 rfl
                  show cntIs l + 1 + cntIs r ≤ _
                  omega
theorem cnt_dec : ∀ (F : Nat) (s : ByteArray) (its : List It), decF F s = some its → cntIs its ≤ s.size
  | 0, s, its, h => by
    cases h
    exact Nat.zero_le _
  | F + 1, s, its, h => by
    rw [decF_succ] at h
    have := cnt_step F (cnt_dec F) s s.size (Nat.le_refl _) s.size 0 (by omega) its (by rw [ext_all]; exact h)
    exact this
theorem cnt_one {F : Nat} {s : ByteArray} {y : Im} (h : decF F s = some [er y]) : cnt y ≤ s.size := by
  have := cnt_dec F s _ h
  rw [cnt_er]
  exact this
end Go.Proofs.YtmefanagpkbjeaaDoor
namespace Go.Proofs.YtmefanagpkbjeaaDoor
open Go.RowKit Go.Shelf Go.Sort

set_option maxRecDepth 20000 in
set_option maxHeartbeats 2000000 in
theorem rdecode_any (s : ByteArray) (w : World) :
    Calls Tryd.prog 54 #[.string s] w fun r w' => Below w.heap.size w w' ∧ ∃ x e, r = .returned (.tuple #[x.val, .int .i64 e]) ∧ DecR s x e ∧ inMem w'.heap.size w' x := by
  have A1 : Below w.heap.size w (w.alloc (.cells #[.bool false, .string ⟨#[]⟩, .slice none 0 0] 70)) := (Below.refl _ w).alloc (Nat.le_refl _) _
  have hR0 : ItIn w.heap.size zeroI (w.alloc (.cells #[.bool false, .string ⟨#[]⟩, .slice none 0 0] 70)) := World.alloc_heap_new w _
  by_cases h0 : 65536 < s.size
  · have l0 : (65536 : Int) < s.size := by omega
    go_enter Tryd.func54, Tryd.ntmps54
    go_wp2
    refine bodyPost_ret (v := .tuple #[.agg #[.bool false, .string ⟨#[]⟩, .slice none 0 0], .int .i64 42]) (by simp [results, Tryd.results54, go_sem]) rfl ⟨A1, zeroI, 42, rfl, .inl ⟨h0, rfl, rfl⟩, trivial⟩
  · have l0 : ¬ (65536 : Int) < s.size := by omega
    have hs6 : s.size ≤ 65536 := by omega
    have KI := rtake_all 65536 s 0 s.size (by omega) (by omega) (Nat.le_refl _) (by omega)
    go_enter Tryd.func54, Tryd.ntmps54
    go_wp2_with fail
    refine (KI _).mono ?_
    rintro e1 w1 ⟨B1, hcase⟩
    have hR : ItIn w.heap.size zeroI w1 := (B1.block _ (by simp)).trans hR0
    have BA := belowStep A1 (by simp) B1
    rw [World.size_alloc] at hcase
    clear A1 hR0 B1 KI
    obtain ⟨bR, hbR⟩ : ∃ c, w.heap.size = c := ⟨_, rfl⟩
    have HZ : Hid (w.heap.size = bR) := hbR
    rw [hbR] at hR hcase BA ⊢
    clear hbR
    have d0 : w1.cell? ⟨bR, 0, none⟩ = some (.bool false) := by rw [Lib.cell_of_heap hR]; rfl
    have d1 : w1.cell? ⟨bR, 1, none⟩ = some (.string ⟨#[]⟩) := by rw [Lib.cell_of_heap hR]; rfl
    have d2 : w1.cell? ⟨bR, 2, none⟩ = some (.slice none 0 0) := by rw [Lib.cell_of_heap hR]; rfl
    have f0 := Lib.frozen_of_heap hR 0
    have f1 := Lib.frozen_of_heap hR 1
    have f2 := Lib.frozen_of_heap hR 2
    have hRl := hR.lt
    have HR : Hid (ItIn bR zeroI w1) := hR
    have hRne : bR ≠ w1.heap.size := by omega
    rcases hcase with ⟨hn, Y, n3, rfl⟩ | ⟨Y, t, hd, rfl, hin⟩
    · obtain ⟨yl, yt, ya, yc, yx⟩ := Y
      dsimp only [Im.val, Im.l, Im.t, Im.sl, Im.a, Im.xs, Im.c]
      have HN : Hid _ := hn
      clear hn hR
      go_wp2
      refine bodyPost_ret (v := .tuple #[.agg #[.bool false, .string ⟨#[]⟩, .slice none 0 0], .int .i64 40]) (by simp [results, Tryd.results54, go_sem, d0, d1, d2, hRl]) rfl ⟨?_, zeroI, 40, rfl, .inr (.inl ⟨hs6, fun y h => ?_, rfl, rfl⟩), trivial⟩
      · rw [HZ.out]
        exact (below_set (below_set (below_set BA bR 0 (Nat.le_refl _) _) bR 1 (Nat.le_refl _) _) bR 2 (Nat.le_refl _) _).alloc (by simp [World.setCell]; omega) _
      · rw [tk_all, HN.out] at h
        cases h
    · by_cases h1 : t = s.size
      · subst h1
        have hdd := (tk_all _ _ _).2 hd
        have hcy := cnt_one hdd
        have hA2 : Below w1.heap.size w1 (w1.alloc (.cells #[.bool Y.l, .string Y.t, Y.sl] 70)) := (Below.refl _ w1).alloc (Nat.le_refl _) _
        have hym : inMem w1.heap.size (w1.alloc (.cells #[.bool Y.l, .string Y.t, Y.sl] 70)) Y := inMem_below (Nat.le_refl _) hA2 Y (inMem_of (fun b hb => hb.2) Y hin)
        have KD := fun hn hm => rdeep_any 12 Y (by decide) (by omega) w1.heap.size (w1.alloc (.cells #[.bool Y.l, .string Y.t, Y.sl] 70)) hn hm
        have hdp : deep Y = dpr 12 Y := by rw [deep_er, dpr_er]
        rw [← hdp] at KD
        have c2 : ItIn w1.heap.size Y (w1.alloc (.cells #[.bool Y.l, .string Y.t, Y.sl] 70)) := World.alloc_heap_new w1 _
        obtain ⟨dp, hdp2⟩ : ∃ q, deep Y = q := ⟨_, rfl⟩
        rw [hdp2] at KD
        have HX : Hid (_ ∧ _ ∧ _ ∧ _ ∧ _ ∧ _) := ⟨hdd, BA, hin, hdp2, hA2, c2⟩
        clear hdd BA hin hdp hdp2 hd hR hA2 c2 hcy
        obtain ⟨yl, yt, ya, yc, yx⟩ := Y
        dsimp only [Im.val, Im.l, Im.t, Im.sl, Im.a, Im.xs, Im.c] at KD hym ⊢
        go_wp2_with fail
        refine (KD (by simp) hym).mono ?_
        rintro e2 w2 ⟨rfl, B2⟩
        obtain ⟨hdd, BA, hin, hdp2, hA2, c2⟩ := HX.out
        dsimp only [Im.val, Im.l, Im.t, Im.sl, Im.a, Im.xs, Im.c] at hA2 c2
        have BB := belowStep hA2 (by simp) B2
        have e0 := (BB.cell (p := ⟨bR, 0, none⟩) hRl).trans d0
        have e1 := (BB.cell (p := ⟨bR, 1, none⟩) hRl).trans d1
        have e2 := (BB.cell (p := ⟨bR, 2, none⟩) hRl).trans d2
        have hR2 : ItIn bR zeroI w2 := (BB.block _ hRl).trans HR.out
        have g0 := Lib.frozen_of_heap hR2 0
        have g1 := Lib.frozen_of_heap hR2 1
        have g2 := Lib.frozen_of_heap hR2 2
        have c3 : ItIn w1.heap.size (.mk yl yt ya yc yx) w2 := (B2.block _ (by simp)).trans c2
        have m0 : w2.cell? ⟨w1.heap.size, 0, none⟩ = some (.bool yl) := by rw [Lib.cell_of_heap c3]; rfl
        have m1 : w2.cell? ⟨w1.heap.size, 1, none⟩ = some (.string yt) := by rw [Lib.cell_of_heap c3]; rfl
        have m2 : w2.cell? ⟨w1.heap.size, 2, none⟩ = some (.slice ya yx.length yc) := by rw [Lib.cell_of_heap c3]; rfl
        have HY : Hid _ := BB
        clear hdd BA hin hdp2 hA2 c2 BB hR2 c3 B2 d0 d1 d2 f0 f1 f2 KD hym
        have hne2 : w1.heap.size ≠ bR := by omega
        cases dp with
        | true =>
          go_wp2
          obtain ⟨hdd, BA, hin, hdp2, -, -⟩ := HX.out
          refine bodyPost_ret (v := .tuple #[.agg #[.bool false, .string ⟨#[]⟩, .slice none 0 0], .int .i64 41]) (by simp [results, Tryd.results54, go_sem, e0, e1, e2]) rfl ⟨?_, zeroI, 41, rfl, .inr (.inr ⟨hs6, _, hdd, .inl ⟨hdp2, rfl, rfl⟩⟩), trivial⟩
          rw [HZ.out]
          exact below_set (below_set (below_set (belowStep BA (by omega) HY.out) bR 0 (Nat.le_refl _) _) bR 1 (Nat.le_refl _) _) bR 2 (Nat.le_refl _) _
        | false =>
          go_wp2
          obtain ⟨hdd, BA, hin, hdp2, -, -⟩ := HX.out
          refine bodyPost_ret (v := .tuple #[.agg #[.bool yl, .string yt, .slice ya yx.length yc], .int .i64 0]) (by simp [results, Tryd.results54, go_sem, e0, e1, e2]) rfl ⟨?_, .mk yl yt ya yc yx, 0, rfl, .inr (.inr ⟨hs6, _, hdd, .inr ⟨hdp2, rfl, rfl⟩⟩), ?_⟩
          · rw [HZ.out]
            exact below_set (below_set (below_set (belowStep BA (by omega) HY.out) bR 0 (Nat.le_refl _) _) bR 1 (Nat.le_refl _) _) bR 2 (Nat.le_refl _) _
          · refine inMem_of (p := fun b => bR + 1 ≤ b ∧ b < w1.heap.size) (fun b hb => by have := hb.2; have := HY.out.size; simp [World.setCell]; omega) _ (inP_of ?_ _ hin)
            intro b hb
            refine ⟨hb, fun j => ?_⟩
            rw [cell_ne _ _ _ _ _ (by show b ≠ bR; omega), cell_ne _ _ _ _ _ (by show b ≠ bR; omega), cell_ne _ _ _ _ _ (by show b ≠ bR; omega)]
            exact HY.out.cell (p := ⟨b, j, none⟩) hb.2
      · obtain ⟨yl, yt, ya, yc, yx⟩ := Y
        dsimp only [Im.val, Im.l, Im.t, Im.sl, Im.a, Im.xs, Im.c]
        have l1 : ¬ (t : Int) = s.size := by omega
        have l2 : ((t : Int) == s.size) = false := by rw [beq_eq_false_iff_ne]; exact l1
        have HN : Hid _ := hd
        clear hd hR hin
        go_wp2
        refine bodyPost_ret (v := .tuple #[.agg #[.bool false, .string ⟨#[]⟩, .slice none 0 0], .int .i64 40]) (by simp [results, Tryd.results54, go_sem, d0, d1, d2, hRl]) rfl ⟨?_, zeroI, 40, rfl, .inr (.inl ⟨hs6, fun y h => ?_, rfl, rfl⟩), trivial⟩
        · rw [HZ.out]
          exact (below_set (below_set (below_set BA bR 0 (Nat.le_refl _) _) bR 1 (Nat.le_refl _) _) bR 2 (Nat.le_refl _) _).alloc (by simp [World.setCell]; omega) _
        · rw [tk_all, HN.out] at h
          injection h with h
          injection h with _ h
          exact h1 h
end Go.Proofs.YtmefanagpkbjeaaDoor
namespace Go.Proofs.YtmefanagpkbjeaaDoor
open Go.RowKit Go.Shelf Go.Sort

mutual
/-- Are two items alike? -/
def smI : It → It → Bool
  | .mk l t xs, .mk l' t' ys => (decide (l = l') && decide (t = t')) && smIs xs ys
def smIs : List It → List It → Bool
  | [], [] => true
  | x :: r, y :: q => smI x y && smIs r q
  | [], _ :: _ => false
  | _ :: _, [] => false
end
mutual
theorem smI_eq : ∀ a b, smI a b = true → a = b
  | .mk l t xs, .mk l' t' ys, h => by
    have h' : ((decide (l = l') && decide (t = t')) && smIs xs ys) = true := h
    rw [Bool.and_eq_true, Bool.and_eq_true] at h'
    rw [of_decide_eq_true h'.1.1, of_decide_eq_true h'.1.2, smIs_eq xs ys h'.2]
theorem smIs_eq : ∀ a b, smIs a b = true → a = b
  | [], [], _ => rfl
  | x :: r, y :: q, h => by
    have h' : (smI x y && smIs r q) = true := h
    rw [Bool.and_eq_true] at h'
    rw [smI_eq x y h'.1, smIs_eq r q h'.2]
  | [], _ :: _, h => by cases h
  | _ :: _, [], h => by cases h
end
mutual
theorem smI_refl : ∀ a, smI a a = true
  | .mk l t xs => by
    show ((decide (l = l) && decide (t = t)) && smIs xs xs) = true
    rw [decide_eq_true rfl, decide_eq_true rfl, smIs_refl xs]
    rfl
theorem smIs_refl : ∀ a, smIs a a = true
  | [] => rfl
  | x :: r => by
    show (smI x x && smIs r r) = true
    rw [smI_refl x, smIs_refl r]
    rfl
end
theorem smI_comm (a b : It) : smI a b = smI b a := by
  cases h : smI a b with
  | true => rw [smI_eq a b h, smI_refl]
  | false =>
    cases h2 : smI b a with
    | true => rw [smI_eq b a h2, smI_refl] at h; cases h
    | false => rfl
theorem smIs_len : ∀ a b, smIs a b = true → a.length = b.length := fun a b h => by rw [smIs_eq a b h]
/-- Alike so far. -/
theorem sm_take : ∀ (xs ys : List It) (k : Nat) (x y : It), xs[k]? = some x → ys[k]? = some y → smIs (xs.take (k + 1)) (ys.take (k + 1)) = (smIs (xs.take k) (ys.take k) && smI x y)
  | a :: r, b :: q, 0, x, y, h1, h2 => by
    cases h1
    cases h2
    show (smI a b && true) = (true && smI a b)
    rw [Bool.and_true, Bool.true_and]
  | a :: r, b :: q, k + 1, x, y, h1, h2 => by
    show (smI a b && smIs (r.take (k + 1)) (q.take (k + 1))) = ((smI a b && smIs (r.take k) (q.take k)) && smI x y)
    rw [sm_take r q k x y h1 h2, Bool.and_assoc]
  | [], _, _, _, _, h, _ => by cases h
  | _ :: _, [], _, _, _, _, h => by cases h
theorem sm_take_false : ∀ (xs ys : List It) (k : Nat), smIs (xs.take k) (ys.take k) = false → smIs xs ys = false
  | [], [], k, h => by
    have e : ([] : List It).take k = [] := List.take_nil
    rw [e] at h
    cases h
  | a :: r, b :: q, 0, h => by cases h
  | a :: r, b :: q, k + 1, h => by
    have h' : (smI a b && smIs (r.take k) (q.take k)) = false := h
    show (smI a b && smIs r q) = false
    cases hs : smI a b with
    | false => rfl
    | true =>
      rw [hs, Bool.true_and] at h'
      rw [sm_take_false r q k h']
      rfl
  | [], _ :: _, _, _ => rfl
  | _ :: _, [], _, _ => rfl
theorem ers_at (xs : List Im) (k : Nat) (y : Im) (h : xs[k]? = some y) : (ers xs)[k]? = some (er y) := by
  rw [ers_map, List.getElem?_map, h]
  rfl
theorem ers_len (xs : List Im) : (ers xs).length = xs.length := by rw [ers_map, List.length_map]

theorem q_toList_inj {s t : ByteArray} (h : s.toList = t.toList) : s = t := by
  rw [ByteArray.toList_eq, ByteArray.toList_eq] at h
  have h2 : s.data = t.data := Array.toList_inj.1 h
  cases s
  cases t
  cases h2
  rfl

end Go.Proofs.YtmefanagpkbjeaaDoor
