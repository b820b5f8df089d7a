/- The item that begins at a place: the reference's take. -/
import Derived.Test.YteaongogomhooaaQ27
namespace Go.Proofs.Yteaongogomhooaa
open Go.RowKit Go.Shelf Go.Sort

/-- What take answers. -/
def TkP (w : World) (s : ByteArray) (F p e : Nat) (r : Ending) (w' : World) : Prop := Below w.heap.size w w' ∧
  ((tkR F s p e = none ∧ ∃ x : Im, ∃ n : Int, r = .returned (.tuple #[x.val, .int .i64 n, .bool false])) ∨
    ∃ (x : Im) (t : Nat), tkR F s p e = some (er x, t) ∧ r = .returned (.tuple #[x.val, .int .i64 t, .bool true]) ∧ inP (fun b => w.heap.size ≤ b ∧ b < w'.heap.size) w' x)
theorem msR_none {s : ByteArray} {p : Nat} {f t : Int} {l : Bool} (h : MsR s p f t l false) : s.size ≤ p ∨ itP s p = none := by
  rcases h with h | h
  · exact h.2
  · cases h.1
theorem msR_some {s : ByteArray} {p : Nat} {f t : Int} {l : Bool} (h : MsR s p f t l true) : p < s.size ∧ ∃ f' t' : Nat, f = f' ∧ t = t' ∧ itP s p = some (f', t', l) := by
  rcases h with h | h
  · cases h.1
  · exact h.2

/-- The state of a round: the items so far, and that all is well. -/
structure TSt (N : Nat) (s : ByteArray) (f t bR bX : Nat) (w : World) (k : Nat) (ao : Option Addr) (c : Nat) (ys : List Im) (cl : List Value) (W : World) : Prop where
  cb : comb (one N) (ps (s.extract f t)) = (comb (one N) (ps (s.extract k t))).map (ers ys ++ ·)
  R : ItIn bR zeroI W
  X : ItIn bX (.mk true ⟨#[]⟩ ao c ys) W
  own : W.ownsRow (bX + 1) 24 3 (.slice ao ys.length c) ys.length cl
  held : Held cl ys
  inn : ∀ y, y ∈ ys → inP (fun b => bX < b ∧ b < W.heap.size ∧ some b ≠ (Value.slice ao ys.length c).ownBlock) W y
  bel : Below bR w W
  len : ys.length ≤ k
theorem TSt.snoc {N : Nat} {s : ByteArray} {f t bR bX : Nat} {w : World} {k : Nat} {ao : Option Addr} {c : Nat} {ys : List Im} {cl : List Value} {W W5 W6 : World} (h : TSt N s f t bR bX w k ao c ys cl W) (hRX : bR < bX) (ht : t ≤ s.size)
    (hb : Below W.heap.size W W5) (Y : Im) (hX : inP (fun b => W.heap.size ≤ b ∧ b < W5.heap.size) W5 Y) (k' : Nat) (hk : tkR N s k t = some (er Y, k')) (v' : Value)
    (h2 : W6.ownsRow (bX + 1) 24 3 v' (ys.length + 1) (cl ++ cell3 Y)) (h3 : W5.grownBy W6 (Value.slice ao ys.length c).ownBlock) (h4 : v' ≠ .slice none 0 0) (h5 : v'.ownBlock = (Value.slice ao ys.length c).ownBlock ∨ ∃ g, v'.ownBlock = some g ∧ W5.heap.size ≤ g) :
    ∃ g c', v' = .slice (some ⟨g, 0, none⟩) (ys.length + 1) c' ∧ k < k' ∧ k' ≤ t ∧ TSt N s f t bR bX w k' (some ⟨g, 0, none⟩) c' (ys ++ [Y]) (cl ++ cell3 Y) (W6.setCell ⟨bX, 2, none⟩ v') := by
  obtain ⟨g, c', rfl⟩ : ∃ g c, v' = .slice (some ⟨g, 0, none⟩) (ys.length + 1) c := by
    rcases h2.2 with ⟨h, _⟩ | ⟨g, c, _, h, _⟩
    · exact absurd h h4
    · exact ⟨g, c, h⟩
  obtain ⟨q1, q2, q3⟩ := tk_some ht hk
  refine ⟨g, c', rfl, q1, q2, ?_⟩
  obtain ⟨v, hv⟩ : ∃ v, Value.slice ao ys.length c = v := ⟨_, rfl⟩
  have hown := h.own
  have hinn := h.inn
  rw [hv] at h3 h5 hown hinn
  have h3' : some g = v.ownBlock ∨ W5.heap.size ≤ g := by
    rcases h5 with h5 | ⟨g', e, h5⟩
    · exact .inl h5
    · cases e
      exact .inr h5
  have hgX := h2.lt g rfl
  have hXl := h.X.lt
  have hs5 := hb.size
  have hs6 := h3.size
  have hvl : ∀ k, some k = v.ownBlock → bX + 1 ≤ k ∧ k < W.heap.size := fun k e => hown.lt k e.symm
  have hRl : Rl W5 (W6.setCell ⟨bX, 2, none⟩ (.slice (some ⟨g, 0, none⟩) (ys.length + 1) c')) v bX :=
    Rl.set (W := W6) ⟨h3.os, h3.tape, h3.output, h3.size, fun k h1 h2 _ => h3.block k h1 h2⟩ ⟨bX, 2, none⟩ _ (.inr (.inr rfl))
  have hsz : (W6.setCell ⟨bX, 2, none⟩ (.slice (some ⟨g, 0, none⟩) (ys.length + 1) c')).heap.size = W6.heap.size := by simp [World.setCell]
  refine ⟨?_, ?_, ?_, ?_, h.held.app Y (by rw [hown.1]), ?_, ?_, ?_⟩
  · rw [h.cb, q3, ers_map, ers_map, List.map_append, Option.map_map]
    congr 1
    funext l
    simp
  · exact (hRl.block bR (by omega) (fun e => by have := hvl bR e; omega) (by omega)).trans ((hb.block bR (by omega)).trans h.R)
  · have hX6 : ItIn bX (.mk true ⟨#[]⟩ ao c ys) W6 := (h3.block bX (by omega) (fun e => by have := hvl bX e; omega)).trans ((hb.block bX hXl).trans h.X)
    have := hX6.set2 (a' := some ⟨g, 0, none⟩) (c' := c') (xs' := ys ++ [Y])
    rw [List.length_append] at this
    exact this
  · rw [List.length_append]
    exact h2.kept (row := some bX) ⟨rfl, rfl, rfl, by rw [hsz]; exact Nat.le_refl _, fun k _ hk => Below.heap_setCell _ _ _ _ (fun e => hk (by simp [e]))⟩ (Or.inr (fun e => by injection e with e; have e' : g = bX := e; omega))
  · intro y hy
    rw [hsz, List.length_append]
    rcases List.mem_append.1 hy with h | h
    · refine inP_of ?_ y (hinn y h)
      intro b hb'
      obtain ⟨c1, c2, c3⟩ := hb'
      refine ⟨⟨c1, by omega, ?_⟩, ?_⟩
      · intro e
        injection e with e
        have e' : b = g := e
        rcases h3' with h3' | h3'
        · exact c3 (by rw [e']; exact h3')
        · omega
      · intro k
        exact (World.cell?_of_block (w := W5) (a := ⟨b, k, none⟩) (hRl.block b (by omega) c3 (by omega))).trans (hb.cell (p := ⟨b, k, none⟩) c2)
    · simp at h
      subst h
      refine inP_of ?_ y hX
      intro b hb'
      obtain ⟨c1, c2⟩ := hb'
      refine ⟨⟨by omega, by omega, ?_⟩, ?_⟩
      · intro e
        injection e with e
        have e' : b = g := e
        rcases h3' with h3' | h3'
        · have := hvl g h3'
          omega
        · omega
      · intro k
        exact World.cell?_of_block (w := W5) (a := ⟨b, k, none⟩) (hRl.block b c2 (fun e => by have := hvl b e; omega) (by omega))
  · exact h.bel.trans ((hb.mono (by omega)).trans ⟨hRl.os, hRl.tape, hRl.output, hRl.size, fun k hk => hRl.block k (by omega) (fun e => by have := hvl k e; omega) (by omega)⟩)
  · rw [List.length_append]
    have := h.len
    show ys.length + 1 ≤ k'
    omega

set_option maxRecDepth 20000 in
set_option maxHeartbeats 2000000 in
theorem rtake_of (N : Nat) (s : ByteArray) (p e : Nat) (hN : e - p ≤ N + 1) (hpe : p ≤ e) (he : e ≤ s.size) (hs : s.size < 1000000)
    (IH : ∀ p' e' : Nat, e' - p' ≤ N → p' ≤ e' → e' ≤ s.size → ∀ w : World, Calls Try.prog 34 #[.string s, .int .i64 p', .int .i64 e'] w (TkP w s N p' e'))
    (w : World) : Calls Try.prog 34 #[.string s, .int .i64 p, .int .i64 e] w (TkP w s (N + 1) p e) := by
  have l0 : (e : Int) ≤ s.size := by omega
  have hz := ext0_size s e he
  have KM := rmeasure_any (s.extract 0 e) p (by omega) (by omega)
  have A1 : Below w.heap.size w (w.alloc (.cells #[.bool false, .string ⟨#[]⟩, .slice none 0 0] 24)) := (Below.refl _ w).alloc (Nat.le_refl _) _
  have hR0 : ItIn w.heap.size zeroI (w.alloc (.cells #[.bool false, .string ⟨#[]⟩, .slice none 0 0] 24)) := World.alloc_heap_new w _
  have HT : Hid (tkR (N + 1) s p e = if e ≤ p then none else match itP (s.extract 0 e) p with
    | none => none
    | some (f, t, l) => (one (N + 1) (if l then 2 else 1, s.extract f t)).map fun x => (x, t)) := rfl
  obtain ⟨u, hu⟩ : ∃ u, s.extract 0 e = u := ⟨_, rfl⟩
  rw [hu] at KM hz HT
  go_enter Try.func34, Try.ntmps34
  go_wp2_with fail
  refine (KM _).mono ?_
  rintro e1 w1 ⟨⟨f, t, l, ok, rfl, hms⟩, B1⟩
  have hR : ItIn w.heap.size zeroI w1 := (B1.block _ (by simp)).trans hR0
  have BA := belowStep A1 (by simp) B1
  clear A1 hR0 B1 KM hu
  obtain ⟨bR, hbR⟩ : ∃ c, w.heap.size = c := ⟨_, rfl⟩
  have HZ : Hid (w.heap.size = bR) := hbR
  rw [hbR] at hR BA ⊢
  clear hbR
  have d0 : w1.cell? ⟨bR, 0, none⟩ = some (.bool false) := by rw [Lib.cell_of_heap hR]; rfl
  have d1 : w1.cell? ⟨bR, 1, none⟩ = some (.string ⟨#[]⟩) := by rw [Lib.cell_of_heap hR]; rfl
  have d2 : w1.cell? ⟨bR, 2, none⟩ = some (.slice none 0 0) := by rw [Lib.cell_of_heap hR]; rfl
  have f0 := Lib.frozen_of_heap hR 0
  have f1 := Lib.frozen_of_heap hR 1
  have f2 := Lib.frozen_of_heap hR 2
  cases ok with
  | false =>
    have h := msR_none hms
    have HM : Hid (tkR (N + 1) s p e = none) := by
      refine HT.out.trans ?_
      split
      · rfl
      · rcases h with h | h
        · omega
        · rw [h]
    clear h hms HT IH
    go_wp2
    refine bodyPost_ret (v := .tuple #[.agg #[.bool false, .string ⟨#[]⟩, .slice none 0 0], .int .i64 0, .bool false]) (by simp [results, Try.results34, go_sem, d0, d1, d2]) rfl ⟨?_, .inl ⟨HM.out, zeroI, 0, rfl⟩⟩
    rw [HZ.out]
    exact below_set (below_set (below_set BA bR 0 (Nat.le_refl _) _) bR 1 (Nat.le_refl _) _) bR 2 (Nat.le_refl _) _
  | true =>
    obtain ⟨hpz, f', t', rfl, rfl, hit⟩ := msR_some hms
    have hb := itP_le hpz hit
    have hft : (f' : Int) ≤ t' := by omega
    have hts : (t' : Int) ≤ s.size := by omega
    have hfs : (f' : Int) ≤ s.size := by omega
    have HT2 : Hid (tkR (N + 1) s p e = (one (N + 1) (if l then 2 else 1, s.extract f' t')).map fun x => (x, t')) := by
      refine HT.out.trans ?_
      rw [if_neg (by omega), hit]
    clear HT hms hit
    cases l with
    | false =>
      go_wp2
      refine bodyPost_ret (v := .tuple #[.agg #[.bool false, .string (s.extract f' t'), .slice none 0 0], .int .i64 t', .bool true]) (by simp [results, Try.results34, go_sem, d0, d1, d2]) rfl ⟨?_, .inr ⟨txt (s.extract f' t'), t', HT2.out, rfl, trivial⟩⟩
      rw [HZ.out]
      exact below_set (below_set (below_set BA bR 0 (Nat.le_refl _) _) bR 1 (Nat.le_refl _) _) bR 2 (Nat.le_refl _) _
    | true =>
      have hf1 := hb.2.2.2.2 rfl
      have hfuel : t' - f' ≤ N := by omega
      have hts2 : t' ≤ s.size := by omega
      have hfb : f' ≤ t' := by omega
      have HT3 : Hid (tkR (N + 1) s p e = ((decF (N + 1) (s.extract f' t')).map (It.mk true ⟨#[]⟩)).map fun x => (x, t')) := HT2.out
      clear HT2 hb hpz hz d0 d1 d2 f0 f1 f2
      obtain ⟨i0, hi0, hz0, hz1, hz2⟩ := info_parts info_item
      have hXn : ItIn w1.heap.size (.mk true ⟨#[]⟩ none 0 []) (w1.alloc (.cells #[.bool true, .string ⟨#[]⟩, .slice none 0 0] 24)) := World.alloc_heap_new w1 _
      have hRn : ItIn bR zeroI (w1.alloc (.cells #[.bool true, .string ⟨#[]⟩, .slice none 0 0] 24)) := (Below.heap_alloc _ _ _ hR.lt).trans hR
      have hRX : bR < w1.heap.size := hR.lt
      have hT0 : TSt N s f' t' bR w1.heap.size w f' none 0 [] [] (w1.alloc (.cells #[.bool true, .string ⟨#[]⟩, .slice none 0 0] 24)) :=
        ⟨by cases comb (one N) (ps (s.extract f' t')) <;> rfl, hRn, hXn, World.ownsRow_nil _ _ _ _, nofun, nofun, BA.alloc (by omega) _, Nat.zero_le _⟩
      go_wp2_with fail
      refine wpOf (fun W => TSt N s f' t' bR w1.heap.size w f' none 0 [] [] W) hT0 ?_
      clear hT0 hXn hRn
      obtain ⟨bX, hbX⟩ : ∃ c, w1.heap.size = c := ⟨_, rfl⟩
      rw [hbX] at hRX ⊢
      clear hbX hR BA
      intro w2 hT2
      go_loopg [9] (t' - f') (fun gk fr wr => ∃ (k : Nat) (ao : Option Addr) (c : Nat) (ys : List Im) (cl : List Value), fr = .int .i64 k ∧ f' ≤ k ∧ k + gk = t' ∧ TSt N s f' t' bR bX w k ao c ys cl wr)
      case atStart => exact ⟨f', none, 0, [], [], rfl, Nat.le_refl _, by omega, hT2⟩
      case round =>
        obtain ⟨k, ao, c, ys, cl, rfl, hfk, hk, hT⟩ := hrel
        have hR := hT.R
        have d0 : wr.cell? ⟨bR, 0, none⟩ = some (.bool false) := by rw [Lib.cell_of_heap hR]; rfl
        have d1 : wr.cell? ⟨bR, 1, none⟩ = some (.string ⟨#[]⟩) := by rw [Lib.cell_of_heap hR]; rfl
        have d2 : wr.cell? ⟨bR, 2, none⟩ = some (.slice none 0 0) := by rw [Lib.cell_of_heap hR]; rfl
        have f0 := Lib.frozen_of_heap hR 0
        have f1 := Lib.frozen_of_heap hR 1
        have f2 := Lib.frozen_of_heap hR 2
        have hX := hT.X
        have x0 : wr.cell? ⟨bX, 0, none⟩ = some (.bool true) := by rw [Lib.cell_of_heap hX]; rfl
        have x1 : wr.cell? ⟨bX, 1, none⟩ = some (.string ⟨#[]⟩) := by rw [Lib.cell_of_heap hX]; rfl
        have x2 : wr.cell? ⟨bX, 2, none⟩ = some (.slice ao ys.length c) := by rw [Lib.cell_of_heap hX]; rfl
        have HS : Hid (TSt N s f' t' bR bX w k ao c ys cl wr) := hT
        by_cases hlt : k < t'
        · have l1 : (k : Int) < t' := by omega
          have KT := IH k t' (by omega) (by omega) hts2
          have hRl := hR.lt
          have hXl := hX.lt
          clear hT hR hX
          go_wp2_with fail
          refine (KT _).mono ?_
          rintro e3 w3 ⟨B3, ⟨hn, Y, n3, rfl⟩ | ⟨Y, k', hsome, rfl, hY⟩⟩
          · have e0 := (B3.cell (p := ⟨bR, 0, none⟩) hRl).trans d0
            have e1 := (B3.cell (p := ⟨bR, 1, none⟩) hRl).trans d1
            have e2 := (B3.cell (p := ⟨bR, 2, none⟩) hRl).trans d2
            have hR3 : ItIn bR zeroI w3 := (B3.block _ hRl).trans HS.out.R
            have g0 := Lib.frozen_of_heap hR3 0
            have g1 := Lib.frozen_of_heap hR3 1
            have g2 := Lib.frozen_of_heap hR3 2
            have hb3 := B3.size
            have hRl3 : bR < w3.heap.size := by omega
            obtain ⟨yl, yt, ya, yc, yx⟩ := Y
            have HN : Hid (_ ∧ _) := ⟨hn, B3⟩
            clear hn B3 hR3 d0 d1 d2 f0 f1 f2 x0 x1 x2 KT
            dsimp only [Im.val, Im.l, Im.t, Im.sl, Im.a, Im.xs, Im.c]
            go_wp2
            obtain ⟨hn, B3⟩ := HN.out
            have hT := HS.out
            have hnn := tk_none hts2 hlt hn
            have hcb := hT.cb
            rw [hnn] at hcb
            have hcb' : decF (N + 1) (s.extract f' t') = none := by
              rw [decF_succ, hcb]
              rfl
            refine bodyPost_ret (v := .tuple #[.agg #[.bool false, .string ⟨#[]⟩, .slice none 0 0], .int .i64 0, .bool false]) (by simp [results, Try.results34, go_sem, e0, e1, e2, hRl3]) rfl ⟨?_, .inl ⟨by rw [HT3.out, hcb']; rfl, zeroI, 0, rfl⟩⟩
            rw [HZ.out]
            exact (below_set (below_set (below_set (belowStep hT.bel (by omega) B3) bR 0 (Nat.le_refl _) _) bR 1 (Nat.le_refl _) _) bR 2 (Nat.le_refl _) _).alloc (by simp [World.setCell]; omega) _
          · have hb3 := B3.size
            have x3 := (B3.cell (p := ⟨bX, 2, none⟩) hXl).trans x2
            have hX3 : ItIn bX (.mk true ⟨#[]⟩ ao c ys) w3 := (B3.block _ hXl).trans HS.out.X
            have g2 := Lib.frozen_of_heap hX3 2
            have hXl3 : bX < w3.heap.size := by omega
            have hXne : bX ≠ w3.heap.size := by omega
            obtain ⟨yl, yt, ya, yc, yx⟩ := Y
            have HN : Hid (_ ∧ _ ∧ _) := ⟨hsome, B3, hY⟩
            clear hsome B3 hY hX3 d0 d1 d2 f0 f1 f2 x0 x1 x2 KT
            have hlen : ys.length < 1000000 := by have := HS.out.len; omega
            dsimp only [Im.val, Im.l, Im.t, Im.sl, Im.a, Im.xs, Im.c]
            go_wp2_with (at_builtin; refine wpList_append_where _ rfl _ _ 22 rfl (bX + 1) 24 i0 _ 3 48 Try.underlying22 hi0 hz0 hz1 hz2 rfl (by decide) _ ys.length cl rfl ?o1 ⟨w3.heap.size + 1, 0, none⟩ 1 1 [.bool yl, .string yt, .slice ya yx.length yc] rfl rfl ?c1 ?c2 (by unfold maxLen; omega) (by omega) ?c3 (by decide) ?_)
            case o1 => exact owns_below HS.out.own ((HN.out.2.1.alloc (by omega) _).alloc (by simp; omega) _)
            case c1 =>
              intro j u hj
              rw [Addr.add_lit, Lib.cell_of_heap (show ((w3.alloc (.cells #[.bool yl, .string yt, .slice ya yx.length yc] 24)).alloc (.cells #[.bool yl, .string yt, .slice ya yx.length yc] 24)).heap[w3.heap.size + 1]? = _ from by have := World.alloc_heap_new (w3.alloc (.cells #[.bool yl, .string yt, .slice ya yx.length yc] 24)) (.cells #[.bool yl, .string yt, .slice ya yx.length yc] 24); rw [World.size_alloc] at this; exact this), Nat.zero_add]
              simpa using hj
            case c2 =>
              intro u hu
              simp only [List.mem_cons, List.not_mem_nil, or_false] at hu
              rcases hu with rfl | rfl | rfl <;> rfl
            case c3 => simp; omega
            intro v' w6 k2 k3 k4 k5
            obtain ⟨hsome, B3, hY⟩ := HN.out
            have B5 : Below wr.heap.size wr ((w3.alloc (.cells #[.bool yl, .string yt, .slice ya yx.length yc] 24)).alloc (.cells #[.bool yl, .string yt, .slice ya yx.length yc] 24)) := (B3.alloc (by omega) _).alloc (by simp; omega) _
            obtain ⟨g, c', rfl, hkk, hkt, hnew⟩ := HS.out.snoc hRX hts2 B5 (.mk yl yt ya yc yx) (inP_of (fun b hb => ⟨⟨hb.1, by simp; omega⟩, fun j => (World.cell?_of_block (w := w3.alloc (.cells #[.bool yl, .string yt, .slice ya yx.length yc] 24)) (a := ⟨b, j, none⟩) (Below.heap_alloc _ _ _ (by simp; omega))).trans (World.cell?_of_block (w := w3) (a := ⟨b, j, none⟩) (Below.heap_alloc _ _ _ hb.2))⟩) _ hY) k' hsome v' k2 k3 k4 (by rw [World.size_alloc, World.size_alloc]; exact k5)
            have hX6 : ItIn bX (.mk true ⟨#[]⟩ ao c ys) w6 := (k3.block bX (by simp; omega) (fun e => by have := HS.out.own.lt bX e.symm; omega)).trans ((B5.block bX hXl).trans HS.out.X)
            have x6 : w6.cell? ⟨bX, 2, none⟩ = some (.slice ao ys.length c) := by rw [Lib.cell_of_heap hX6]; rfl
            have y6 := Lib.frozen_of_heap hX6 2
            have HW : Hid (_ ∧ _) := ⟨hnew, hkt⟩
            clear hsome B3 hY B5 hnew hX6 k2 k3 k4 k5 x3 g2
            go_wp2
            go_roundg (t' - k')
            case measure => omega
            case rel => exact ⟨k', some ⟨g, 0, none⟩, c', _, _, rfl, by omega, by have := HW.out.2; omega, HW.out.1⟩
        · have l1 : ¬ (k : Int) < t' := by omega
          clear hT hR hX
          go_wp2
          have hT := HS.out
          have hk2 : k = t' := by omega
          have hcb := hT.cb
          rw [hk2, ps_none s t' t' (Nat.le_refl _)] at hcb
          have hcb' : decF (N + 1) (s.extract f' t') = some (ers ys) := by
            rw [decF_succ, hcb]
            show some (ers ys ++ []) = _
            rw [List.append_nil]
          refine bodyPost_ret (v := .tuple #[.agg #[.bool true, .string ⟨#[]⟩, .slice ao ys.length c], .int .i64 t', .bool true]) (by simp [results, Try.results34, go_sem, d0, d1, d2]) rfl ⟨?_, .inr ⟨.mk true ⟨#[]⟩ ao c ys, t', ?_, rfl, ?_⟩⟩
          · rw [HZ.out]
            exact below_set (below_set (below_set hT.bel bR 0 (Nat.le_refl _) _) bR 1 (Nat.le_refl _) _) bR 2 (Nat.le_refl _) _
          · rw [HT3.out, hcb']
            rfl
          · have hrow : rowP (fun b => bX < b ∧ b < wr.heap.size) wr ao 0 ys := rowP_owned hT.own hT.held hT.inn (fun b hb => ⟨hb.1, hb.2.1⟩) (fun g hg => by have := hT.own.lt g (by rw [hg]; rfl); exact ⟨this.1, this.2⟩)
            refine rowP_of (fun b hb => ⟨⟨by rw [HZ.out]; omega, by simp [World.setCell]; exact hb.2⟩, fun j => ?_⟩) ao 0 ys hrow
            rw [cell_ne _ _ _ _ _ (by show b ≠ bR; omega), cell_ne _ _ _ _ _ (by show b ≠ bR; omega), cell_ne _ _ _ _ _ (by show b ≠ bR; omega)]

set_option maxRecDepth 20000 in
set_option maxHeartbeats 2000000 in
theorem rtake_0 (s : ByteArray) (p e : Nat) (hN : e - p ≤ 0) (hpe : p ≤ e) (he : e ≤ s.size) (hs : s.size < 1000000)
    (w : World) : Calls Try.prog 34 #[.string s, .int .i64 p, .int .i64 e] w (TkP w s 0 p e) := by
  have l0 : (e : Int) ≤ s.size := by omega
  have hz := ext0_size s e he
  have KM := rmeasure_any (s.extract 0 e) p (by omega) (by omega)
  have A1 : Below w.heap.size w (w.alloc (.cells #[.bool false, .string ⟨#[]⟩, .slice none 0 0] 24)) := (Below.refl _ w).alloc (Nat.le_refl _) _
  have hR0 : ItIn w.heap.size zeroI (w.alloc (.cells #[.bool false, .string ⟨#[]⟩, .slice none 0 0] 24)) := World.alloc_heap_new w _
  have HT : Hid (tkR 0 s p e = if e ≤ p then none else match itP (s.extract 0 e) p with
    | none => none
    | some (f, t, l) => (one 0 (if l then 2 else 1, s.extract f t)).map fun x => (x, t)) := rfl
  obtain ⟨u, hu⟩ : ∃ u, s.extract 0 e = u := ⟨_, rfl⟩
  rw [hu] at KM hz HT
  go_enter Try.func34, Try.ntmps34
  go_wp2_with fail
  refine (KM _).mono ?_
  rintro e1 w1 ⟨⟨f, t, l, ok, rfl, hms⟩, B1⟩
  have hR : ItIn w.heap.size zeroI w1 := (B1.block _ (by simp)).trans hR0
  have BA := belowStep A1 (by simp) B1
  clear A1 hR0 B1 KM hu
  obtain ⟨bR, hbR⟩ : ∃ c, w.heap.size = c := ⟨_, rfl⟩
  have HZ : Hid (w.heap.size = bR) := hbR
  rw [hbR] at hR BA ⊢
  clear hbR
  have d0 : w1.cell? ⟨bR, 0, none⟩ = some (.bool false) := by rw [Lib.cell_of_heap hR]; rfl
  have d1 : w1.cell? ⟨bR, 1, none⟩ = some (.string ⟨#[]⟩) := by rw [Lib.cell_of_heap hR]; rfl
  have d2 : w1.cell? ⟨bR, 2, none⟩ = some (.slice none 0 0) := by rw [Lib.cell_of_heap hR]; rfl
  have f0 := Lib.frozen_of_heap hR 0
  have f1 := Lib.frozen_of_heap hR 1
  have f2 := Lib.frozen_of_heap hR 2
  cases ok with
  | false =>
    have h := msR_none hms
    have HM : Hid (tkR 0 s p e = none) := by
      refine HT.out.trans ?_
      split
      · rfl
      · rcases h with h | h
        · omega
        · rw [h]
    clear h hms HT
    go_wp2
    refine bodyPost_ret (v := .tuple #[.agg #[.bool false, .string ⟨#[]⟩, .slice none 0 0], .int .i64 0, .bool false]) (by simp [results, Try.results34, go_sem, d0, d1, d2]) rfl ⟨?_, .inl ⟨HM.out, zeroI, 0, rfl⟩⟩
    rw [HZ.out]
    exact below_set (below_set (below_set BA bR 0 (Nat.le_refl _) _) bR 1 (Nat.le_refl _) _) bR 2 (Nat.le_refl _) _
  | true =>
    have := (msR_some hms).1
    omega
theorem rtake_all : ∀ (N : Nat) (s : ByteArray) (p e : Nat), e - p ≤ N → p ≤ e → e ≤ s.size → s.size < 1000000 → ∀ w : World, Calls Try.prog 34 #[.string s, .int .i64 p, .int .i64 e] w (TkP w s N p e)
  | 0, s, p, e, h1, h2, h3, h4, w => rtake_0 s p e h1 h2 h3 h4 w
  | N + 1, s, p, e, h1, h2, h3, h4, w => rtake_of N s p e h1 h2 h3 h4 (fun p' e' k1 k2 k3 w' => rtake_all N s p' e' k1 k2 k3 h4 w') w
end Go.Proofs.Yteaongogomhooaa
