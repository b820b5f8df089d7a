/- The law SszHalves, walked. -/
import Derived.Test.YtmemfdpfbeijeabDoorZ19
import Derived.Test.YtmemfdpfbeijeabDoorZ15
import Derived.Lib.JoinLaws
namespace Go.Proofs.YtmemfdpfbeijeabDoor
open Go.RowKit Go.Shelf Go.Sort

theorem run_append_list (W : World) (ty : TypeId) (z : Nat) (v : Value) (k : Nat) (ys : List Value) (hown : W.ownsRow z 9 1 v k ys) (xs : List ByteArray) (a : Option Addr) (m c n : Nat) (hm : xs.length = m) (hs : slS n W a xs) (hk : k ≤ 1000000) (hl : m ≤ 1000000) (hz : z ≤ W.heap.size) :
    ∃ v' w', (Builtin.append_ #[22, 22] ty #[v, .slice a m c]).run Tryd.prog W = .ok v' w' ∧ w'.ownsRow z 9 1 v' (k + m) (ys ++ xs.map .string) ∧ W.grownBy w' v.ownBlock := by
  obtain ⟨i0, hi0, hz0, hz1, hz2⟩ := info_parts info_str8
  subst hm
  rcases hs with e | ⟨b, off, rfl, hb, hcl⟩
  · subst e
    obtain ⟨a1, c1, rfl⟩ := owns_slice hown
    exact ⟨_, _, run_append_zero W 22 ty 9 i0 Tryd.underlying22 hi0 a1 k c1 (owns_cap hown) a c, by rw [List.map_nil, List.append_nil]; exact hown, ⟨rfl, rfl, rfl, Nat.le_refl _, fun _ _ _ => rfl⟩⟩
  · obtain ⟨v', w', h1, h2, h3, _⟩ := run_append_own (P := Tryd.prog) W z 22 ty 9 i0 (.string ⟨#[]⟩) 1 16 Tryd.underlying22 hi0 hz0 hz1 hz2 rfl (by decide) v k ys hown ⟨b, off, none⟩ xs.length c (xs.map .string) (by rw [List.length_map, Nat.mul_one]) (fun j u hu => by
      rw [Addr.add_mid]
      rw [List.getElem?_map] at hu
      cases hxj : xs[j]? with
      | none => rw [hxj] at hu; cases hu
      | some y =>
        rw [hxj] at hu
        cases hu
        exact hcl j y hxj) (fun u hu => by
      obtain ⟨y, _, rfl⟩ := List.mem_map.1 hu
      rfl) (by unfold maxLen; omega) (by omega) hz
    exact ⟨v', w', h1, h2, h3⟩
theorem step_append {P : Program} {w : World} {o : Oper} {a : Act} {K : Act → World → Prop} {Q : Exit → Act → World → Prop} {ys : Nat → Option Bool} (hgd : o.guard = none) (sl x : Operand) (t u : TypeId)
    (ho : o.op = .call { callee := .builtin .append, args := #[sl, x], argTypes := #[t, u] }) (v y v' : Value) (w' : World) (hs : a.eval sl = v) (hx : a.eval x = y)
    (hr : (Builtin.append_ #[t, u] o.type #[v, y]).run P w = .ok v' w') (h : K (a.put o.dst v') w') : if Region.wanted o ys then o.wp P a w K Q else K (a.put o.dst undef) w := by
  rw [if_pos (by simp [Region.wanted, hgd])]
  unfold Oper.wp execOp
  simp only [ho, resolve, invoke, builtin, Sem.run_bind, Sem.run_pure, Result.andThen_ok, List.map_toArray, List.map_cons, List.map_nil, hs, hx, hr]
  exact h
theorem owns_made {W : World} (B : Nat) {g M : Nat} (hg : B ≤ g) (h : W.heap[g]? = some (.cells (madeCells #[.string ⟨#[]⟩] M) 9 (0, 0))) (hM : M ≤ 100000) : W.ownsRow B 9 1 (.slice (some ⟨g, 0, none⟩) 0 M) 0 [] :=
  ⟨rfl, .inr ⟨g, M, _, rfl, hg, h, Nat.zero_le _, by unfold maxLen; omega, by simp [madeCells], by simp⟩⟩
theorem conv_made (W : World) (g : Nat) (h : W.heap[g]? = some (.cells (madeCells #[.int .u8 0] 32) 5 (0, 0))) : (convert 28 9 (.slice (some ⟨g, 0, none⟩) 32 32)).run Tryd.prog W = .ok (.string z32) W := by
  have hx := run_convert_bytes_back (P := Tryd.prog) W 28 9 5 ⟨g, 0, none⟩ 32 (by8 32 fun _ => 0) Tryd.underlying28 Tryd.underlying5 Tryd.underlying9 (fun j hj => by
    rw [by8_at _ _ (fun _ => ⟨by decide, by decide⟩), Addr.add_mid, Lib.cell_of_heap h]
    rw [by8_len] at hj
    simp [madeCells, hj, Nat.mod_one])
  rw [by8_len] at hx
  have hzz : (⟨(by8 32 fun _ => 0).toArray⟩ : ByteArray) = z32 := zs_32
  rw [hzz] at hx
  exact hx
theorem made_ne (M : Nat) : madeCells #[Value.int .u8 0] 32 ≠ madeCells #[.string ⟨#[]⟩] M := fun e => by
  have h1 := congrArg (fun l : Array Value => l[0]?) e
  have h2 : (madeCells #[Value.int .u8 0] 32)[0]? = some (.int .u8 0) := by simp [madeCells]
  simp only [h2] at h1
  by_cases h : 0 < M
  · have h3 : (madeCells #[Value.string ⟨#[]⟩] M)[0]? = some (.string ⟨#[]⟩) := by simp [madeCells, h]
    rw [h3] at h1
    cases h1
  · have h3 : (madeCells #[Value.string ⟨#[]⟩] M)[0]? = none := by simp [madeCells]; omega
    rw [h3] at h1
    cases h1
theorem one_ne (M : Nat) (zz : ByteArray) (hz : zz.size = 32) (hM : 0 < M) : #[Value.string zz] ≠ madeCells #[.string ⟨#[]⟩] M := fun e => by
  have h1 := congrArg (fun l : Array Value => l[0]?) e
  have h3 : (madeCells #[Value.string ⟨#[]⟩] M)[0]? = some (.string ⟨#[]⟩) := by simp [madeCells, hM]
  simp only [h3] at h1
  injection h1 with h1
  injection h1 with h1
  rw [h1] at hz
  cases hz
theorem lf_take (xs : List ByteArray) (D k : Nat) (hk : k = min xs.length (2 ^ D)) : lf (lvs (xs.take k)) D 0 = lf (lvs xs) D 0 := by
  refine lf_ext _ _ D 0 fun j _ hj => ?_
  rw [Nat.zero_add, Nat.one_mul] at hj
  unfold lvs
  rw [List.getD_eq_getElem?_getD, List.getD_eq_getElem?_getD, List.getElem?_take]
  split
  · rfl
  · rw [List.getElem?_eq_none (by omega)]
theorem lf_drop (xs : List ByteArray) (D k : Nat) (hk : k = min xs.length (2 ^ D)) : lf (lvs (xs.drop k)) D 0 = lf (lvs xs) D 1 := by
  have h := lf_shift (lvs xs) D 1 0
  rw [Nat.add_zero] at h
  rw [← h]
  refine lf_ext _ _ D 0 fun j _ _ => ?_
  unfold lvs
  rw [List.getD_eq_getElem?_getD, List.getD_eq_getElem?_getD, List.getElem?_drop, Nat.one_mul]
  by_cases hx : xs.length ≤ 2 ^ D
  · rw [List.getElem?_eq_none (by omega), List.getElem?_eq_none (by omega)]
  · rw [show k = 2 ^ D by omega]
theorem lf_more (xs : List ByteArray) : lvs (xs ++ [z32]) = lvs xs := by
  funext j
  unfold lvs
  rw [List.getD_eq_getElem?_getD, List.getD_eq_getElem?_getD]
  by_cases h : j < xs.length
  · rw [List.getElem?_append_left h]
  · rw [List.getElem?_append_right (by omega), List.getElem?_eq_none (l := xs) (by omega)]
    by_cases h2 : j - xs.length = 0
    · rw [h2]
      rfl
    · rw [List.getElem?_eq_none (by simp; omega)]
theorem rt_of {xs : List ByteArray} {D : Nat} (h1 : D ≤ 10) (h2 : xs.length ≤ 2 ^ D) (h3 : xs.length ≤ 256) (h4 : ∀ x ∈ xs, x.size = 32) : rt8 xs (D : Int) = true := (rt8_iff _ _).2 ⟨by omega, by omega, by rw [Int.toNat_natCast]; exact h2, h3, h4⟩
theorem root_of {xs : List ByteArray} {D : Nat} (h : rt8 xs (D : Int) = true) : rootV xs (D : Int) = .tuple #[.string (lf (lvs xs) D 0), .int .i64 0] := by
  rw [rootV, if_pos h, Int.toNat_natCast]
theorem slS_take {n : Nat} {W : World} {a : Option Addr} {xs : List ByteArray} (h : slS n W a xs) (k : Nat) : slS n W a (xs.take k) := by
  rcases h with e | ⟨b, o, h1, h2, h3⟩
  · exact .inl (by rw [e]; simp)
  · exact .inr ⟨b, o, h1, h2, fun j x hx => h3 j x (by rw [List.getElem?_take] at hx; split at hx; exact hx; cases hx)⟩
theorem slS_drop {n : Nat} {W : World} {a : Option Addr} {xs : List ByteArray} (h : slS n W a xs) (k : Nat) : slS n W (a.map fun x => x.add k) (xs.drop k) := by
  rcases h with e | ⟨b, o, h1, h2, h3⟩
  · exact .inl (by rw [e]; simp)
  · refine .inr ⟨b, o + k, by rw [h1]; simp [Addr.add], h2, fun j x hx => ?_⟩
    rw [List.getElem?_drop] at hx
    rw [Nat.add_assoc]
    exact h3 (k + j) x hx

/-- What holds while a statement runs. -/
structure HvK (V : World) (xs : List ByteArray) (a : Option Addr) (N c M : Nat) (zz : ByteArray) (S : Nat → Bool) (x60 x61 x62 x63 x64 x65 x66 x67 x68 : Value) (W : World) : Prop where
  e : Below V.heap.size V W
  f0 : S 0 = true → x60 = Value.slice a N c
  f1 : S 1 = true → x61 = Value.int .i64 (N : Int)
  f2 : S 2 = true → x62 = Value.int .i64 (M : Int)
  f3 : S 3 = true → S 5 = false → ∃ g, x63 = .slice (some ⟨g, 0, none⟩) 0 M ∧ V.heap.size ≤ g ∧ W.heap[g]? = some (.cells (madeCells #[.string ⟨#[]⟩] M) 9 (0, 0))
  f4 : S 4 = true → x64 = Value.slice a N c
  f5 : S 5 = true → W.ownsRow V.heap.size 9 1 x65 N (xs.map .string)
  f6 : S 6 = true → ∃ g, x66 = .slice (some ⟨g, 0, none⟩) 32 32 ∧ V.heap.size ≤ g ∧ W.heap[g]? = some (.cells (madeCells #[.int .u8 0] 32) 5 (0, 0))
  f7 : S 7 = true → x67 = Value.string zz
  f8 : S 8 = true → ∃ g, x68 = .slice (some ⟨g, 0, none⟩) 1 1 ∧ V.heap.size ≤ g ∧ W.heap[g]? = some (.cells #[.string zz] 9 (0, 0))
theorem HvK.grow {V : World} {xs : List ByteArray} {a : Option Addr} {N c M : Nat} {zz : ByteArray} {S : Nat → Bool} {x60 x61 x62 x63 x64 x65 x66 x67 x68 : Value} {W W' : World} (h : HvK V xs a N c M zz S x60 x61 x62 x63 x64 x65 x66 x67 x68 W) (hb : Below W.heap.size W W') : HvK V xs a N c M zz S x60 x61 x62 x63 x64 x65 x66 x67 x68 W' :=
  ⟨belowStep h.e h.e.size hb, h.f0, h.f1, h.f2, fun s => fun hq => ((h.f3 s) hq).imp fun _ ⟨j1, j0, j2⟩ => ⟨j1, j0, (hb.block _ (Array.getElem?_eq_some_iff.1 j2).1).trans j2⟩, h.f4, fun s => owns_below8 (h.f5 s) hb, fun s => (h.f6 s).imp fun _ ⟨j1, j0, j2⟩ => ⟨j1, j0, (hb.block _ (Array.getElem?_eq_some_iff.1 j2).1).trans j2⟩, h.f7, fun s => (h.f8 s).imp fun _ ⟨j1, j0, j2⟩ => ⟨j1, j0, (hb.block _ (Array.getElem?_eq_some_iff.1 j2).1).trans j2⟩⟩
set_option maxRecDepth 100000 in
set_option maxHeartbeats 4000000 in
theorem shalves_any (xs : List ByteArray) (a : Option Addr) (c : Nat) (d n : Int) (w : World) (hl : Laid w) (hp : slS w.heap.size w a xs) (hcap : xs.length ≤ c) :
    Calls Tryd.prog 3 #[.slice a xs.length c, .int .i64 d, .int .u64 n] w fun e w' => e = .returned (.bool true) ∧ Below w.heap.size w w' := by
  obtain ⟨i0, hi0, hz0, hz1, hz2⟩ := info_parts info_str8
  obtain ⟨j0, hj0, hy0, hy1, hy2⟩ := info_parts info_u8'
  obtain ⟨N, hN⟩ : ∃ N, xs.length = N := ⟨_, rfl⟩
  have HN : Hid _ := hN
  obtain ⟨zz, hzzz⟩ : ∃ x, z32 = x := ⟨_, rfl⟩
  have hzn : zz.size = 32 := by rw [← hzzz]; rfl
  go_enter Tryd.func3, Tryd.ntmps3
  rw [hN] at hcap ⊢
  go_wp2_with fail
  refine (shown8_any w hl).mono ?_
  rintro e w1 ⟨rfl, B1⟩
  by_cases h0 : d < 0
  · go_wp2
    go_ret
    exact ⟨rfl, B1⟩
  · by_cases h7 : 7 < d
    · go_wp2
      go_ret
      exact ⟨rfl, B1⟩
    · obtain ⟨D, rfl⟩ : ∃ D : Nat, d = (D : Int) := ⟨d.toNat, by omega⟩
      obtain ⟨E, hE⟩ : ∃ E, D + 1 = E := ⟨_, rfl⟩
      have wD : IntKind.i64.wrap ((D : Int) + 1) = (E : Int) := by rw [IntKind.wrap_i64]; omega
      have wD2 : (D : Int) + 1 = (E : Int) := by omega
      have HE : Hid _ := hE
      have hd0 : decide ((D : Int) < 0) = false := decide_eq_false (by omega)
      have hd7 : decide (7 < (D : Int)) = false := decide_eq_false (by omega)
      have KR := root_any xs (E : Int) a c w.heap.size w1 (hl.below B1) B1.size (slS_below B1 hp)
      rw [hN] at KR
      clear hE
      go_wp2_with fail
      refine KR.mono ?_
      rintro e w2 ⟨rfl, B2⟩
      have BW2 := belowStep B1 B1.size B2
      clear KR B1 B2
      by_cases hr : rt8 xs (E : Int) = true
      · obtain ⟨-, -, hpw, h256, h32⟩ := (rt8_iff xs _).1 hr
        rw [Int.toNat_natCast] at hpw
        rw [root_of hr]
        obtain ⟨r, hr0⟩ : ∃ r, lf (lvs xs) E 0 = r := ⟨_, rfl⟩
        rw [hr0]
        obtain ⟨Q, hQ⟩ : ∃ Q, 2 ^ D = Q := ⟨_, rfl⟩
        have hQ2 : 2 ^ E = 2 * Q := by rw [← HE.out, Nat.pow_succ, hQ, Nat.mul_comm]
        have hQ3 : Q ≤ 128 := by rw [← hQ]; exact Nat.pow_le_pow_right (by decide) (by omega : D ≤ 7)
        have hqi : (2 : Int) ^ D = (Q : Int) := by rw [← hQ]; simp
        have wQ : IntKind.i64.wrap (Q : Int) = Q := by rw [IntKind.wrap_i64]; omega
        have wQ2 : IntKind.i64.wrap (2 * (Q : Int)) = ((2 * Q : Nat) : Int) := by rw [IntKind.wrap_i64]; omega
        have hmin : min D 64 = D := by omega
        obtain ⟨k, hk⟩ : ∃ k, min N Q = k := ⟨_, rfl⟩
        have hki : min (N : Int) Q = k := by omega
        have hkN : k ≤ N := by omega
        have lk : (k : Int) ≤ N := by omega
        have lk0 : (0 : Int) ≤ k := by omega
        have lkc : (k : Int) ≤ c := by omega
        have lNc : (N : Int) ≤ c := by omega
        have HQ : Hid (_ ∧ _ ∧ _ ∧ _ ∧ _) := ⟨hQ, hQ2, hr0, hpw, hk⟩
        clear hQ hQ2 hr0 hpw hk
        have h32t : ∀ x ∈ xs.take k, x.size = 32 := fun x hx => h32 x (List.mem_of_mem_take hx)
        have h32d : ∀ x ∈ xs.drop k, x.size = 32 := fun x hx => h32 x (List.mem_of_mem_drop hx)
        have hlt : (xs.take k).length = k := by rw [List.length_take, HN.out]; omega
        have hld : (xs.drop k).length = N - k := by rw [List.length_drop, HN.out]
        have hkk : k = min xs.length (2 ^ D) := by rw [HN.out, HQ.out.1]; exact HQ.out.2.2.2.2.symm
        have hbd : N ≤ 2 * Q := by have := HQ.out.2.2.2.1; rw [HQ.out.2.1, HN.out] at this; exact this
        have hkQ : k ≤ Q := by have := HQ.out.2.2.2.2; omega
        have hNkQ : N - k ≤ Q := by have := HQ.out.2.2.2.2; omega
        have rT := rt_of (xs := xs.take k) (D := D) (by omega) (by rw [hlt, HQ.out.1]; exact hkQ) (by rw [hlt]; omega) h32t
        have rD := rt_of (xs := xs.drop k) (D := D) (by omega) (by rw [hld, HQ.out.1]; exact hNkQ) (by rw [hld]; have := h256; rw [HN.out] at this; omega) h32d
        have vT := root_of rT
        have vD := root_of rD
        rw [lf_take xs D k hkk] at vT
        rw [lf_drop xs D k hkk] at vD
        have hRR : hs (lf (lvs xs) D 0) (lf (lvs xs) D 1) = r := by
          rw [← HQ.out.2.2.1, ← HE.out]
          rfl
        have zT : (lf (lvs xs) D 0).size = 32 := lf_size _ (lvs_size xs h32) _ _
        have zD : (lf (lvs xs) D 1).size = 32 := lf_size _ (lvs_size xs h32) _ _
        obtain ⟨t1, ht1⟩ : ∃ t, lf (lvs xs) D 0 = t := ⟨_, rfl⟩
        obtain ⟨t2, ht2⟩ : ∃ t, lf (lvs xs) D 1 = t := ⟨_, rfl⟩
        rw [ht1] at vT hRR zT
        rw [ht2] at vD hRR zD
        have KT := root_any (xs.take k) (D : Int) a c w.heap.size w2 (hl.below BW2) BW2.size (slS_take (slS_below BW2 hp) k)
        rw [hlt, vT] at KT
        have HVD : Hid (_ ∧ _ ∧ _ ∧ _ ∧ _) := ⟨vD, hRR, zT, zD, hld⟩
        have HB : Hid (_ ∧ _ ∧ _) := ⟨hbd, hkQ, hNkQ⟩
        clear h32t h32d hlt hkk rT rD vT vD hRR zT zD ht1 ht2 hld hbd hkQ hNkQ
        go_wp2_with fail
        refine KT.mono ?_
        rintro e w3 ⟨rfl, B3⟩
        have BW3 := belowStep BW2 BW2.size B3
        clear KT BW2 B3
        by_cases hck : c = k
        · have hNk : Hid (N = k) := by show N = k; omega
          have hck' := hck.symm
          clear hck
          subst hck'
          have KD := root_any (xs.drop k) (D : Int) a 0 w.heap.size w3 (hl.below BW3) BW3.size (.inl (List.eq_nil_of_length_eq_zero (by rw [HVD.out.2.2.2.2]; have := hNk.out; omega)))
          rw [HVD.out.2.2.2.2, HVD.out.1, show N - k = 0 by omega] at KD
          go_wp2_with fail
          refine KD.mono ?_
          rintro e w4 ⟨rfl, B4⟩
          have BW4 := belowStep BW3 BW3.size B4
          clear KD BW3 B4
          obtain ⟨M, hM⟩ : ∃ M, N + 1 = M := ⟨_, rfl⟩
          have wM : IntKind.i64.wrap ((N : Int) + 1) = (M : Int) := by have := h256; rw [HN.out] at this; rw [IntKind.wrap_i64]; omega
          have wM2 : (N : Int) + 1 = (M : Int) := by omega
          have wM3 : IntKind.i64.wrap (M : Int) = (M : Int) := by have := h256; rw [HN.out] at this; rw [IntKind.wrap_i64]; omega
          have hMb : M ≤ 300 := by have := h256; rw [HN.out] at this; omega
          have hNb : N ≤ 300 := by omega
          have hM0 : 0 < M := by omega
          have HSL : Hid (∀ W, Below w4.heap.size w4 W → slS w.heap.size W a xs) := fun W hB => slS_below (BW4.trans (hB.mono BW4.size)) hp
          have HM : Hid _ := hM
          clear hM
          go_wp2_with fail
          refine region_inv_tail 9 (fun S aa W => ∃ x60 x61 x62 x63 x64 x65 x66 x67 x68 : Value, aa = { tmps := #[Value.slice a N k, Value.int IntKind.i64 ↑D, Value.int IntKind.u64 n, undef, undef, undef, Value.bool false, Value.bool true, Value.string r, Value.int IntKind.i64 0, Value.int IntKind.i64 ↑k, Value.string t1, Value.int IntKind.i64 0, Value.string t2, Value.int IntKind.i64 0, undef, undef, undef, undef, undef, undef, Value.bool true, Value.int IntKind.i64 ↑D, Value.bool false, Value.bool false, Value.int IntKind.i64 ↑D, Value.bool false, Value.bool false, undef, Value.tuple #[Value.string r, Value.int IntKind.i64 0], Value.slice a N k, Value.int IntKind.i64 ↑D, Value.int IntKind.i64 ↑E, Value.tuple #[Value.string r, Value.int IntKind.i64 0], Value.string r, Value.int IntKind.i64 0, Value.int IntKind.i64 0, Value.bool false, undef, Value.slice a N k, Value.int IntKind.i64 ↑N, Value.int IntKind.i64 ↑D, Value.int IntKind.i64 ↑Q, Value.int IntKind.i64 ↑k, Value.tuple #[Value.string t1, Value.int IntKind.i64 0], Value.slice a N k, Value.int IntKind.i64 ↑k, Value.slice a k k, Value.int IntKind.i64 ↑D, Value.tuple #[Value.string t1, Value.int IntKind.i64 0], Value.string t1, Value.int IntKind.i64 0, Value.tuple #[Value.string t2, Value.int IntKind.i64 0], Value.slice a N k, Value.int IntKind.i64 ↑k, Value.slice a 0 0, Value.int IntKind.i64 ↑D, Value.tuple #[Value.string t2, Value.int IntKind.i64 0], Value.string t2, Value.int IntKind.i64 0, x60, x61, x62, x63, x64, x65, x66, x67, x68, undef, undef, undef, undef, undef, undef, undef, undef, undef, undef, undef, undef, undef, undef, undef, undef, undef, undef, undef, undef, undef, undef, undef, undef, undef, undef, undef, undef, undef, undef, undef, undef, undef, undef, undef, undef, undef, undef, undef, undef, undef, undef, undef, undef, undef, undef, undef, undef, undef, undef, undef, undef, undef, undef, undef, undef, undef, undef, undef, undef, undef, undef, undef, undef, undef, undef], defers := [] } ∧ HvK w4 xs a N k M zz S x60 x61 x62 x63 x64 x65 x66 x67 x68 W) (by kernel_rfl) (by kernel_rfl) ?_ ?_ ?_
          · exact ⟨undef, undef, undef, undef, undef, undef, undef, undef, undef, rfl, ⟨(Below.refl _ w4).drew, nofun, nofun, nofun, nofun, nofun, nofun, nofun, nofun, nofun⟩⟩
          · intro i o S aa W hin hi hun hJ hall K hK
            obtain ⟨x60, x61, x62, x63, x64, x65, x66, x67, x68, rfl, h⟩ := hJ
            have hlt : i < 9 := hin
            have hcase : i = 0 ∨ i = 1 ∨ i = 2 ∨ i = 3 ∨ i = 4 ∨ i = 5 ∨ i = 6 ∨ i = 7 ∨ i = 8 := by omega
            rcases hcase with rfl | rfl | rfl | rfl | rfl | rfl | rfl | rfl | rfl
            all_goals (have ho := (Option.some.inj hi).symm; subst ho; clear hi hlt hin)
            · go_simp
              exact hK _ _ ⟨_, x61, x62, x63, x64, x65, x66, x67, x68, rfl, ⟨h.e, fun _ => rfl, h.f1, h.f2, h.f3, h.f4, h.f5, h.f6, h.f7, h.f8⟩⟩
            · have s_0 : S 0 = true := hall ⟨0, .data⟩ (by simp) rfl
              obtain rfl := h.f0 s_0
              go_simp
              exact hK _ _ ⟨_, _, x62, x63, x64, x65, x66, x67, x68, rfl, ⟨h.e, h.f0, fun _ => rfl, h.f2, h.f3, h.f4, h.f5, h.f6, h.f7, h.f8⟩⟩
            · have s_1 : S 1 = true := hall ⟨1, .data⟩ (by simp) rfl
              obtain rfl := h.f1 s_1
              go_simp
              exact hK _ _ ⟨x60, _, _, x63, x64, x65, x66, x67, x68, rfl, ⟨h.e, h.f0, h.f1, fun _ => rfl, h.f3, h.f4, h.f5, h.f6, h.f7, h.f8⟩⟩
            · have s_2 : S 2 = true := hall ⟨2, .data⟩ (by simp) rfl
              obtain rfl := h.f2 s_2
              have hr3 := run_make_room (P := Tryd.prog) 22 9 (.string ⟨#[]⟩) 16 Tryd.underlying22 info_str8 rfl .i64 .i64 M (by omega) (by omega) W; go_simp
              have h1 := h.grow ((Below.refl _ W).alloc (Nat.le_refl _) (.cells (madeCells #[.string ⟨#[]⟩] M) 9))
              exact hK _ _ ⟨x60, x61, _, _, x64, x65, x66, x67, x68, rfl, ⟨h1.e, h1.f0, h1.f1, h1.f2, fun _ => fun _ => ⟨W.heap.size, rfl, h.e.size, World.alloc_heap_new W _⟩, h1.f4, h1.f5, h1.f6, h1.f7, h1.f8⟩⟩
            · go_simp
              exact hK _ _ ⟨x60, x61, x62, x63, _, x65, x66, x67, x68, rfl, ⟨h.e, h.f0, h.f1, h.f2, h.f3, fun _ => rfl, h.f5, h.f6, h.f7, h.f8⟩⟩
            · have s_3 : S 3 = true := hall ⟨3, .data⟩ (by simp) rfl
              obtain ⟨g3, rfl, hg3, hc3⟩ := h.f3 s_3 hun
              have s_4 : S 4 = true := hall ⟨4, .data⟩ (by simp) rfl
              obtain rfl := h.f4 s_4
              have own3 := owns_made w4.heap.size hg3 hc3 (by omega)
              obtain ⟨v5, w5, hrun5, ho5, hg5⟩ := run_append_list W 22 w4.heap.size _ 0 [] own3 xs a N k w.heap.size HN.out (HSL.out W h.e) (by omega) (by omega) h.e.size
              rw [Nat.zero_add, List.nil_append] at ho5
              have hno : ∀ (g : Nat) (cs : Array Value) (t : TypeId), W.heap[g]? = some (.cells cs t (0, 0)) → cs ≠ madeCells #[.string ⟨#[]⟩] M → w5.heap[g]? = some (.cells cs t (0, 0)) := fun g cs t hg hne => (hg5.block g (Array.getElem?_eq_some_iff.1 hg).1 (fun e => by cases e; rw [hc3] at hg; cases hg; exact hne rfl)).trans hg
              refine step_append rfl _ _ 22 22 rfl _ _ _ _ rfl rfl hrun5 ?_
              exact hK _ _ ⟨x60, x61, x62, _, _, _, x66, x67, x68, rfl, ⟨h.e.grown hg5 h.e.size (fun b e => by cases e; exact hg3), h.f0, h.f1, h.f2, fun _ hh => by simp [more] at hh, h.f4, fun _ => ho5, fun s6 => (h.f6 s6).imp fun g ⟨j1, j0, j2⟩ => ⟨j1, j0, hno g _ _ j2 (made_ne M)⟩, h.f7, fun s8 => (h.f8 s8).imp fun g ⟨j1, j0, j2⟩ => ⟨j1, j0, hno g _ _ j2 (one_ne M zz hzn (by omega))⟩⟩⟩
            · go_simp
              have h1 := h.grow ((Below.refl _ W).alloc (Nat.le_refl _) (.cells (madeCells #[.int .u8 0] 32) 5))
              exact hK _ _ ⟨x60, x61, x62, x63, x64, x65, _, x67, x68, rfl, ⟨h1.e, h1.f0, h1.f1, h1.f2, h1.f3, h1.f4, h1.f5, fun _ => ⟨W.heap.size, rfl, h.e.size, World.alloc_heap_new W _⟩, h1.f7, h1.f8⟩⟩
            · have s_6 : S 6 = true := hall ⟨6, .data⟩ (by simp) rfl
              obtain ⟨g6, rfl, hg6, hc6⟩ := h.f6 s_6
              have hcv := conv_made W g6 hc6; rw [hzzz] at hcv; go_simp
              exact hK _ _ ⟨x60, x61, x62, x63, x64, x65, _, _, x68, rfl, ⟨h.e, h.f0, h.f1, h.f2, h.f3, h.f4, h.f5, h.f6, fun _ => rfl, h.f8⟩⟩
            · have s_7 : S 7 = true := hall ⟨7, .data⟩ (by simp) rfl
              obtain rfl := h.f7 s_7
              go_simp
              have h1 := h.grow ((Below.refl _ W).alloc (Nat.le_refl _) (.cells #[.string zz] 9))
              exact hK _ _ ⟨x60, x61, x62, x63, x64, x65, x66, _, _, rfl, ⟨h1.e, h1.f0, h1.f1, h1.f2, h1.f3, h1.f4, h1.f5, h1.f6, h1.f7, fun _ => ⟨W.heap.size, rfl, h.e.size, World.alloc_heap_new W _⟩⟩⟩
          · rintro S aa W hall ⟨x60, x61, x62, x63, x64, x65, x66, x67, x68, rfl, h⟩
            obtain rfl := h.f0 (hall 0 (by decide))
            obtain rfl := h.f1 (hall 1 (by decide))
            obtain rfl := h.f2 (hall 2 (by decide))
            obtain rfl := h.f4 (hall 4 (by decide))
            obtain ho5 := h.f5 (hall 5 (by decide))
            obtain ⟨g6, rfl, hg6, hc6⟩ := h.f6 (hall 6 (by decide))
            obtain rfl := h.f7 (hall 7 (by decide))
            obtain ⟨g8, rfl, hg8, hc8⟩ := h.f8 (hall 8 (by decide))
            have BWD := h.e
            clear h hall
            simp only [List.drop_succ_cons, List.drop_zero]
            have hzW := BWD.size
            have BW9 := belowStep BW4 BW4.size BWD
            have HV : Hid (_ ∧ _) := ⟨ho5, hc8⟩
            clear BWD hc6 hc8 ho5
            go_wp2_with (at_builtin; refine wpList_append_own _ rfl _ _ 22 rfl w4.heap.size 9 i0 (.string ⟨#[]⟩) 1 16 Tryd.underlying22 hi0 hz0 hz1 hz2 rfl (by decide) _ _ _ rfl HV.out.1 ⟨g8, 0, none⟩ 1 1 [.string zz] rfl rfl (by intro j u hj; rw [Addr.add_lit, Lib.cell_of_heap HV.out.2, Nat.zero_add]; simpa using hj) (by intro u hu; simp at hu; subst hu; rfl) (by unfold maxLen; omega) (by omega) hzW ?_; intro v9 w9 ho9 hg9 hif9)
            obtain ⟨a9, c9, rfl⟩ := owns_slice ho9
            have hlm : (xs ++ [z32]).length = N + 1 := by rw [List.length_append, HN.out]; rfl
            have hmp : (xs ++ [z32]).map Value.string = xs.map .string ++ [.string zz] := by rw [List.map_append, ← hzzz]; rfl
            rw [← hmp, ← hlm] at ho9
            obtain ⟨a9', c9', e9, hs9⟩ := slS_owns ho9
            obtain ⟨rfl, rfl⟩ : a9 = a9' ∧ c9 = c9' := by rw [hlm] at e9; cases e9; exact ⟨rfl, rfl⟩
            have B9 : Below w4.heap.size W w9 := (Below.refl w4.heap.size W).grown hg9 hzW (fun b hb => (HV.out.1.lt b hb).1)
            have BX : Below w.heap.size w w9 := BW9.trans (B9.mono BW4.size)
            have KM := root_any (xs ++ [z32]) (E : Int) a9 c9 w9.heap.size w9 (hl.below BX) (Nat.le_refl _) hs9
            rw [hlm] at KM
            obtain ⟨sX, gX, hX⟩ : ∃ (s : ByteArray) (g : Int), rootV (xs ++ [z32]) (E : Int) = .tuple #[.string s, .int .i64 g] := by
              unfold rootV
              split
              · exact ⟨_, _, rfl⟩
              · exact ⟨_, _, rfl⟩
            have hXr : ¬ (N = 2 * Q ∨ N = 256) → gX = 0 ∧ sX = r := fun hnf => by
              have hr9 : rt8 (xs ++ [z32]) (E : Int) = true := rt_of (by have := HE.out; omega) (by rw [hlm, HQ.out.2.1]; have := HB.out.1; omega) (by rw [hlm]; have := h256; rw [HN.out] at this; omega) (fun x hx => by
                rcases List.mem_append.1 hx with h | h
                · exact h32 x h
                · simp at h
                  rw [h]
                  rfl)
              have h2 := root_of hr9
              rw [lf_more, HQ.out.2.2.1, hX] at h2
              injection h2 with h2
              simp at h2
              exact ⟨h2.2, h2.1⟩
            rw [hX] at KM
            have HX : Hid (_ → _) := hXr
            have hrz : r.size = 32 := by rw [← HQ.out.2.2.1]; exact lf_size _ (lvs_size xs h32) _ _
            have KX : Hid (∀ W : World, Laid W → _) := fun W hW => mix_any r n W hW
            rw [show mixV r n = .tuple #[.string (hs r (numOf n)), .int .i64 0] from if_pos hrz] at KX
            clear hX hXr hmp e9 ho9 hs9 hg9 hif9 B9 BW9 HV
            refine KM.mono ?_
            rintro e w10 ⟨rfl, B10⟩
            have BY := belowStep BX BX.size B10
            clear KM BX B10
            go_wp2_with fail
            refine (KX.out _ (hl.below BY)).mono ?_
            rintro e w11 ⟨rfl, B11⟩
            have BZ := belowStep BY BY.size B11
            clear KX BY B11
            have KS1 : Hid (∀ (g : Nat) (W : World), _) := fun (g : Nat) (W : World) (hW : Laid W) (hg : g < W.heap.size) h0 h1 => sum_two t1 t2 _ (join_pair _ _) (by have := HVD.out.2.2.1; omega) (by have := HVD.out.2.2.2.1; omega) g W hW hg h0 h1
            have KS2 : Hid (∀ (g : Nat) (W : World), _) := fun (g : Nat) (W : World) (hW : Laid W) (hg : g < W.heap.size) h0 h1 => sum_two r (numOf n) _ (join_pair _ _) (by omega) (by rw [num_size]; omega) g W hW hg h0 h1
            rw [show sumOf (t1 ++ t2) = r from HVD.out.2.1] at KS1
            rw [show sumOf (r ++ numOf n) = hs r (numOf n) from rfl] at KS2
            by_cases f1 : (N : Int) = 2 * (Q : Int)
            · have f1b : ((N : Int) == 2 * (Q : Int)) = true := by rw [beq_iff_eq]; exact f1
              have HF1 : Hid _ := f1
              clear f1
              go_wp2_with fail
              have A1 : Below w11.heap.size w11 (w11.alloc (.cells #[.string t1, .string t2] 9)) := (Below.refl _ w11).alloc (Nat.le_refl _) _
              refine (KS1.out w11.heap.size _ ((hl.below BZ).below A1) (by simp) (by simp [go_sem]) (by simp [go_sem])).mono ?_
              rintro e w12 ⟨rfl, B12⟩
              have C12 := belowStep BZ BZ.size (belowStep A1 A1.size B12)
              go_wp2_with fail
              refine (number_any n _).mono ?_
              rintro e w13 ⟨rfl, B13⟩
              have C13 := belowStep C12 C12.size B13
              go_wp2_with fail
              have A2 : Below w13.heap.size w13 (w13.alloc (.cells #[.string r, .string (numOf n)] 9)) := (Below.refl _ w13).alloc (Nat.le_refl _) _
              refine (KS2.out w13.heap.size _ ((hl.below C13).below A2) (by simp) (by simp [go_sem]) (by simp [go_sem])).mono ?_
              rintro e w14 ⟨rfl, B14⟩
              have C14 := belowStep C13 C13.size (belowStep A2 A2.size B14)
              clear A1 B12 C12 B13 C13 A2 B14 BZ
              go_wp2
              go_ret
              exact ⟨rfl, C14⟩
            · have f1b : ((N : Int) == 2 * (Q : Int)) = false := by rw [beq_eq_false_iff_ne]; exact f1
              by_cases f2 : (N : Int) = 256
              · have f2b : ((N : Int) == 256) = true := by rw [beq_iff_eq]; exact f2
                have HF1 : Hid (_ ∧ _) := ⟨f1, f2⟩
                clear f1 f2
                go_wp2_with fail
                have A1 : Below w11.heap.size w11 (w11.alloc (.cells #[.string t1, .string t2] 9)) := (Below.refl _ w11).alloc (Nat.le_refl _) _
                refine (KS1.out w11.heap.size _ ((hl.below BZ).below A1) (by simp) (by simp [go_sem]) (by simp [go_sem])).mono ?_
                rintro e w12 ⟨rfl, B12⟩
                have C12 := belowStep BZ BZ.size (belowStep A1 A1.size B12)
                go_wp2_with fail
                refine (number_any n _).mono ?_
                rintro e w13 ⟨rfl, B13⟩
                have C13 := belowStep C12 C12.size B13
                go_wp2_with fail
                have A2 : Below w13.heap.size w13 (w13.alloc (.cells #[.string r, .string (numOf n)] 9)) := (Below.refl _ w13).alloc (Nat.le_refl _) _
                refine (KS2.out w13.heap.size _ ((hl.below C13).below A2) (by simp) (by simp [go_sem]) (by simp [go_sem])).mono ?_
                rintro e w14 ⟨rfl, B14⟩
                have C14 := belowStep C13 C13.size (belowStep A2 A2.size B14)
                clear A1 B12 C12 B13 C13 A2 B14 BZ
                go_wp2
                go_ret
                exact ⟨rfl, C14⟩
              · have f2b : ((N : Int) == 256) = false := by rw [beq_eq_false_iff_ne]; exact f2
                obtain ⟨rfl, hsr⟩ := HX.out (by omega)
                have hsr2 := hsr.symm
                subst hsr2
                clear hsr
                have HF1 : Hid (_ ∧ _) := ⟨f1, f2⟩
                clear f1 f2
                go_wp2_with fail
                have A1 : Below w11.heap.size w11 (w11.alloc (.cells #[.string t1, .string t2] 9)) := (Below.refl _ w11).alloc (Nat.le_refl _) _
                refine (KS1.out w11.heap.size _ ((hl.below BZ).below A1) (by simp) (by simp [go_sem]) (by simp [go_sem])).mono ?_
                rintro e w12 ⟨rfl, B12⟩
                have C12 := belowStep BZ BZ.size (belowStep A1 A1.size B12)
                go_wp2_with fail
                refine (number_any n _).mono ?_
                rintro e w13 ⟨rfl, B13⟩
                have C13 := belowStep C12 C12.size B13
                go_wp2_with fail
                have A2 : Below w13.heap.size w13 (w13.alloc (.cells #[.string r, .string (numOf n)] 9)) := (Below.refl _ w13).alloc (Nat.le_refl _) _
                refine (KS2.out w13.heap.size _ ((hl.below C13).below A2) (by simp) (by simp [go_sem]) (by simp [go_sem])).mono ?_
                rintro e w14 ⟨rfl, B14⟩
                have C14 := belowStep C13 C13.size (belowStep A2 A2.size B14)
                clear A1 B12 C12 B13 C13 A2 B14 BZ
                go_wp2
                go_ret
                exact ⟨rfl, C14⟩
        · have hck2 : ¬ (k : Int) = c := by omega
          have hck3 : ¬ k = c := by omega
          have hck4 : k < c := by omega
          have KD := root_any (xs.drop k) (D : Int) (a.map fun x => x.add k) (c - k) w.heap.size w3 (hl.below BW3) BW3.size (slS_drop (slS_below BW3 hp) k)
          rw [HVD.out.2.2.2.2, HVD.out.1] at KD
          go_wp2_with fail
          refine KD.mono ?_
          rintro e w4 ⟨rfl, B4⟩
          have BW4 := belowStep BW3 BW3.size B4
          clear KD BW3 B4
          obtain ⟨M, hM⟩ : ∃ M, N + 1 = M := ⟨_, rfl⟩
          have wM : IntKind.i64.wrap ((N : Int) + 1) = (M : Int) := by have := h256; rw [HN.out] at this; rw [IntKind.wrap_i64]; omega
          have wM2 : (N : Int) + 1 = (M : Int) := by omega
          have wM3 : IntKind.i64.wrap (M : Int) = (M : Int) := by have := h256; rw [HN.out] at this; rw [IntKind.wrap_i64]; omega
          have hMb : M ≤ 300 := by have := h256; rw [HN.out] at this; omega
          have hNb : N ≤ 300 := by omega
          have hM0 : 0 < M := by omega
          have HSL : Hid (∀ W, Below w4.heap.size w4 W → slS w.heap.size W a xs) := fun W hB => slS_below (BW4.trans (hB.mono BW4.size)) hp
          have HM : Hid _ := hM
          clear hM
          go_wp2_with fail
          refine region_inv_tail 9 (fun S aa W => ∃ x60 x61 x62 x63 x64 x65 x66 x67 x68 : Value, aa = { tmps := #[Value.slice a N c, Value.int IntKind.i64 ↑D, Value.int IntKind.u64 n, undef, undef, undef, Value.bool false, Value.bool true, Value.string r, Value.int IntKind.i64 0, Value.int IntKind.i64 ↑k, Value.string t1, Value.int IntKind.i64 0, Value.string t2, Value.int IntKind.i64 0, undef, undef, undef, undef, undef, undef, Value.bool true, Value.int IntKind.i64 ↑D, Value.bool false, Value.bool false, Value.int IntKind.i64 ↑D, Value.bool false, Value.bool false, undef, Value.tuple #[Value.string r, Value.int IntKind.i64 0], Value.slice a N c, Value.int IntKind.i64 ↑D, Value.int IntKind.i64 ↑E, Value.tuple #[Value.string r, Value.int IntKind.i64 0], Value.string r, Value.int IntKind.i64 0, Value.int IntKind.i64 0, Value.bool false, undef, Value.slice a N c, Value.int IntKind.i64 ↑N, Value.int IntKind.i64 ↑D, Value.int IntKind.i64 ↑Q, Value.int IntKind.i64 ↑k, Value.tuple #[Value.string t1, Value.int IntKind.i64 0], Value.slice a N c, Value.int IntKind.i64 ↑k, Value.slice a k c, Value.int IntKind.i64 ↑D, Value.tuple #[Value.string t1, Value.int IntKind.i64 0], Value.string t1, Value.int IntKind.i64 0, Value.tuple #[Value.string t2, Value.int IntKind.i64 0], Value.slice a N c, Value.int IntKind.i64 ↑k, Value.slice (Option.map (fun x => x.add k) a) (N - k) (c - k), Value.int IntKind.i64 ↑D, Value.tuple #[Value.string t2, Value.int IntKind.i64 0], Value.string t2, Value.int IntKind.i64 0, x60, x61, x62, x63, x64, x65, x66, x67, x68, undef, undef, undef, undef, undef, undef, undef, undef, undef, undef, undef, undef, undef, undef, undef, undef, undef, undef, undef, undef, undef, undef, undef, undef, undef, undef, undef, undef, undef, undef, undef, undef, undef, undef, undef, undef, undef, undef, undef, undef, undef, undef, undef, undef, undef, undef, undef, undef, undef, undef, undef, undef, undef, undef, undef, undef, undef, undef, undef, undef, undef, undef, undef, undef, undef, undef], defers := [] } ∧ HvK w4 xs a N c M zz S x60 x61 x62 x63 x64 x65 x66 x67 x68 W) (by kernel_rfl) (by kernel_rfl) ?_ ?_ ?_
          · exact ⟨undef, undef, undef, undef, undef, undef, undef, undef, undef, rfl, ⟨(Below.refl _ w4).drew, nofun, nofun, nofun, nofun, nofun, nofun, nofun, nofun, nofun⟩⟩
          · intro i o S aa W hin hi hun hJ hall K hK
            obtain ⟨x60, x61, x62, x63, x64, x65, x66, x67, x68, rfl, h⟩ := hJ
            have hlt : i < 9 := hin
            have hcase : i = 0 ∨ i = 1 ∨ i = 2 ∨ i = 3 ∨ i = 4 ∨ i = 5 ∨ i = 6 ∨ i = 7 ∨ i = 8 := by omega
            rcases hcase with rfl | rfl | rfl | rfl | rfl | rfl | rfl | rfl | rfl
            all_goals (have ho := (Option.some.inj hi).symm; subst ho; clear hi hlt hin)
            · go_simp
              exact hK _ _ ⟨_, x61, x62, x63, x64, x65, x66, x67, x68, rfl, ⟨h.e, fun _ => rfl, h.f1, h.f2, h.f3, h.f4, h.f5, h.f6, h.f7, h.f8⟩⟩
            · have s_0 : S 0 = true := hall ⟨0, .data⟩ (by simp) rfl
              obtain rfl := h.f0 s_0
              go_simp
              exact hK _ _ ⟨_, _, x62, x63, x64, x65, x66, x67, x68, rfl, ⟨h.e, h.f0, fun _ => rfl, h.f2, h.f3, h.f4, h.f5, h.f6, h.f7, h.f8⟩⟩
            · have s_1 : S 1 = true := hall ⟨1, .data⟩ (by simp) rfl
              obtain rfl := h.f1 s_1
              go_simp
              exact hK _ _ ⟨x60, _, _, x63, x64, x65, x66, x67, x68, rfl, ⟨h.e, h.f0, h.f1, fun _ => rfl, h.f3, h.f4, h.f5, h.f6, h.f7, h.f8⟩⟩
            · have s_2 : S 2 = true := hall ⟨2, .data⟩ (by simp) rfl
              obtain rfl := h.f2 s_2
              have hr3 := run_make_room (P := Tryd.prog) 22 9 (.string ⟨#[]⟩) 16 Tryd.underlying22 info_str8 rfl .i64 .i64 M (by omega) (by omega) W; go_simp
              have h1 := h.grow ((Below.refl _ W).alloc (Nat.le_refl _) (.cells (madeCells #[.string ⟨#[]⟩] M) 9))
              exact hK _ _ ⟨x60, x61, _, _, x64, x65, x66, x67, x68, rfl, ⟨h1.e, h1.f0, h1.f1, h1.f2, fun _ => fun _ => ⟨W.heap.size, rfl, h.e.size, World.alloc_heap_new W _⟩, h1.f4, h1.f5, h1.f6, h1.f7, h1.f8⟩⟩
            · go_simp
              exact hK _ _ ⟨x60, x61, x62, x63, _, x65, x66, x67, x68, rfl, ⟨h.e, h.f0, h.f1, h.f2, h.f3, fun _ => rfl, h.f5, h.f6, h.f7, h.f8⟩⟩
            · have s_3 : S 3 = true := hall ⟨3, .data⟩ (by simp) rfl
              obtain ⟨g3, rfl, hg3, hc3⟩ := h.f3 s_3 hun
              have s_4 : S 4 = true := hall ⟨4, .data⟩ (by simp) rfl
              obtain rfl := h.f4 s_4
              have own3 := owns_made w4.heap.size hg3 hc3 (by omega)
              obtain ⟨v5, w5, hrun5, ho5, hg5⟩ := run_append_list W 22 w4.heap.size _ 0 [] own3 xs a N c w.heap.size HN.out (HSL.out W h.e) (by omega) (by omega) h.e.size
              rw [Nat.zero_add, List.nil_append] at ho5
              have hno : ∀ (g : Nat) (cs : Array Value) (t : TypeId), W.heap[g]? = some (.cells cs t (0, 0)) → cs ≠ madeCells #[.string ⟨#[]⟩] M → w5.heap[g]? = some (.cells cs t (0, 0)) := fun g cs t hg hne => (hg5.block g (Array.getElem?_eq_some_iff.1 hg).1 (fun e => by cases e; rw [hc3] at hg; cases hg; exact hne rfl)).trans hg
              refine step_append rfl _ _ 22 22 rfl _ _ _ _ rfl rfl hrun5 ?_
              exact hK _ _ ⟨x60, x61, x62, _, _, _, x66, x67, x68, rfl, ⟨h.e.grown hg5 h.e.size (fun b e => by cases e; exact hg3), h.f0, h.f1, h.f2, fun _ hh => by simp [more] at hh, h.f4, fun _ => ho5, fun s6 => (h.f6 s6).imp fun g ⟨j1, j0, j2⟩ => ⟨j1, j0, hno g _ _ j2 (made_ne M)⟩, h.f7, fun s8 => (h.f8 s8).imp fun g ⟨j1, j0, j2⟩ => ⟨j1, j0, hno g _ _ j2 (one_ne M zz hzn (by omega))⟩⟩⟩
            · go_simp
              have h1 := h.grow ((Below.refl _ W).alloc (Nat.le_refl _) (.cells (madeCells #[.int .u8 0] 32) 5))
              exact hK _ _ ⟨x60, x61, x62, x63, x64, x65, _, x67, x68, rfl, ⟨h1.e, h1.f0, h1.f1, h1.f2, h1.f3, h1.f4, h1.f5, fun _ => ⟨W.heap.size, rfl, h.e.size, World.alloc_heap_new W _⟩, h1.f7, h1.f8⟩⟩
            · have s_6 : S 6 = true := hall ⟨6, .data⟩ (by simp) rfl
              obtain ⟨g6, rfl, hg6, hc6⟩ := h.f6 s_6
              have hcv := conv_made W g6 hc6; rw [hzzz] at hcv; go_simp
              exact hK _ _ ⟨x60, x61, x62, x63, x64, x65, _, _, x68, rfl, ⟨h.e, h.f0, h.f1, h.f2, h.f3, h.f4, h.f5, h.f6, fun _ => rfl, h.f8⟩⟩
            · have s_7 : S 7 = true := hall ⟨7, .data⟩ (by simp) rfl
              obtain rfl := h.f7 s_7
              go_simp
              have h1 := h.grow ((Below.refl _ W).alloc (Nat.le_refl _) (.cells #[.string zz] 9))
              exact hK _ _ ⟨x60, x61, x62, x63, x64, x65, x66, _, _, rfl, ⟨h1.e, h1.f0, h1.f1, h1.f2, h1.f3, h1.f4, h1.f5, h1.f6, h1.f7, fun _ => ⟨W.heap.size, rfl, h.e.size, World.alloc_heap_new W _⟩⟩⟩
          · rintro S aa W hall ⟨x60, x61, x62, x63, x64, x65, x66, x67, x68, rfl, h⟩
            obtain rfl := h.f0 (hall 0 (by decide))
            obtain rfl := h.f1 (hall 1 (by decide))
            obtain rfl := h.f2 (hall 2 (by decide))
            obtain rfl := h.f4 (hall 4 (by decide))
            obtain ho5 := h.f5 (hall 5 (by decide))
            obtain ⟨g6, rfl, hg6, hc6⟩ := h.f6 (hall 6 (by decide))
            obtain rfl := h.f7 (hall 7 (by decide))
            obtain ⟨g8, rfl, hg8, hc8⟩ := h.f8 (hall 8 (by decide))
            have BWD := h.e
            clear h hall
            simp only [List.drop_succ_cons, List.drop_zero]
            have hzW := BWD.size
            have BW9 := belowStep BW4 BW4.size BWD
            have HV : Hid (_ ∧ _) := ⟨ho5, hc8⟩
            clear BWD hc6 hc8 ho5
            go_wp2_with (at_builtin; refine wpList_append_own _ rfl _ _ 22 rfl w4.heap.size 9 i0 (.string ⟨#[]⟩) 1 16 Tryd.underlying22 hi0 hz0 hz1 hz2 rfl (by decide) _ _ _ rfl HV.out.1 ⟨g8, 0, none⟩ 1 1 [.string zz] rfl rfl (by intro j u hj; rw [Addr.add_lit, Lib.cell_of_heap HV.out.2, Nat.zero_add]; simpa using hj) (by intro u hu; simp at hu; subst hu; rfl) (by unfold maxLen; omega) (by omega) hzW ?_; intro v9 w9 ho9 hg9 hif9)
            obtain ⟨a9, c9, rfl⟩ := owns_slice ho9
            have hlm : (xs ++ [z32]).length = N + 1 := by rw [List.length_append, HN.out]; rfl
            have hmp : (xs ++ [z32]).map Value.string = xs.map .string ++ [.string zz] := by rw [List.map_append, ← hzzz]; rfl
            rw [← hmp, ← hlm] at ho9
            obtain ⟨a9', c9', e9, hs9⟩ := slS_owns ho9
            obtain ⟨rfl, rfl⟩ : a9 = a9' ∧ c9 = c9' := by rw [hlm] at e9; cases e9; exact ⟨rfl, rfl⟩
            have B9 : Below w4.heap.size W w9 := (Below.refl w4.heap.size W).grown hg9 hzW (fun b hb => (HV.out.1.lt b hb).1)
            have BX : Below w.heap.size w w9 := BW9.trans (B9.mono BW4.size)
            have KM := root_any (xs ++ [z32]) (E : Int) a9 c9 w9.heap.size w9 (hl.below BX) (Nat.le_refl _) hs9
            rw [hlm] at KM
            obtain ⟨sX, gX, hX⟩ : ∃ (s : ByteArray) (g : Int), rootV (xs ++ [z32]) (E : Int) = .tuple #[.string s, .int .i64 g] := by
              unfold rootV
              split
              · exact ⟨_, _, rfl⟩
              · exact ⟨_, _, rfl⟩
            have hXr : ¬ (N = 2 * Q ∨ N = 256) → gX = 0 ∧ sX = r := fun hnf => by
              have hr9 : rt8 (xs ++ [z32]) (E : Int) = true := rt_of (by have := HE.out; omega) (by rw [hlm, HQ.out.2.1]; have := HB.out.1; omega) (by rw [hlm]; have := h256; rw [HN.out] at this; omega) (fun x hx => by
                rcases List.mem_append.1 hx with h | h
                · exact h32 x h
                · simp at h
                  rw [h]
                  rfl)
              have h2 := root_of hr9
              rw [lf_more, HQ.out.2.2.1, hX] at h2
              injection h2 with h2
              simp at h2
              exact ⟨h2.2, h2.1⟩
            rw [hX] at KM
            have HX : Hid (_ → _) := hXr
            have hrz : r.size = 32 := by rw [← HQ.out.2.2.1]; exact lf_size _ (lvs_size xs h32) _ _
            have KX : Hid (∀ W : World, Laid W → _) := fun W hW => mix_any r n W hW
            rw [show mixV r n = .tuple #[.string (hs r (numOf n)), .int .i64 0] from if_pos hrz] at KX
            clear hX hXr hmp e9 ho9 hs9 hg9 hif9 B9 BW9 HV
            refine KM.mono ?_
            rintro e w10 ⟨rfl, B10⟩
            have BY := belowStep BX BX.size B10
            clear KM BX B10
            go_wp2_with fail
            refine (KX.out _ (hl.below BY)).mono ?_
            rintro e w11 ⟨rfl, B11⟩
            have BZ := belowStep BY BY.size B11
            clear KX BY B11
            have KS1 : Hid (∀ (g : Nat) (W : World), _) := fun (g : Nat) (W : World) (hW : Laid W) (hg : g < W.heap.size) h0 h1 => sum_two t1 t2 _ (join_pair _ _) (by have := HVD.out.2.2.1; omega) (by have := HVD.out.2.2.2.1; omega) g W hW hg h0 h1
            have KS2 : Hid (∀ (g : Nat) (W : World), _) := fun (g : Nat) (W : World) (hW : Laid W) (hg : g < W.heap.size) h0 h1 => sum_two r (numOf n) _ (join_pair _ _) (by omega) (by rw [num_size]; omega) g W hW hg h0 h1
            rw [show sumOf (t1 ++ t2) = r from HVD.out.2.1] at KS1
            rw [show sumOf (r ++ numOf n) = hs r (numOf n) from rfl] at KS2
            by_cases f1 : (N : Int) = 2 * (Q : Int)
            · have f1b : ((N : Int) == 2 * (Q : Int)) = true := by rw [beq_iff_eq]; exact f1
              have HF1 : Hid _ := f1
              clear f1
              go_wp2_with fail
              have A1 : Below w11.heap.size w11 (w11.alloc (.cells #[.string t1, .string t2] 9)) := (Below.refl _ w11).alloc (Nat.le_refl _) _
              refine (KS1.out w11.heap.size _ ((hl.below BZ).below A1) (by simp) (by simp [go_sem]) (by simp [go_sem])).mono ?_
              rintro e w12 ⟨rfl, B12⟩
              have C12 := belowStep BZ BZ.size (belowStep A1 A1.size B12)
              go_wp2_with fail
              refine (number_any n _).mono ?_
              rintro e w13 ⟨rfl, B13⟩
              have C13 := belowStep C12 C12.size B13
              go_wp2_with fail
              have A2 : Below w13.heap.size w13 (w13.alloc (.cells #[.string r, .string (numOf n)] 9)) := (Below.refl _ w13).alloc (Nat.le_refl _) _
              refine (KS2.out w13.heap.size _ ((hl.below C13).below A2) (by simp) (by simp [go_sem]) (by simp [go_sem])).mono ?_
              rintro e w14 ⟨rfl, B14⟩
              have C14 := belowStep C13 C13.size (belowStep A2 A2.size B14)
              clear A1 B12 C12 B13 C13 A2 B14 BZ
              go_wp2
              go_ret
              exact ⟨rfl, C14⟩
            · have f1b : ((N : Int) == 2 * (Q : Int)) = false := by rw [beq_eq_false_iff_ne]; exact f1
              by_cases f2 : (N : Int) = 256
              · have f2b : ((N : Int) == 256) = true := by rw [beq_iff_eq]; exact f2
                have HF1 : Hid (_ ∧ _) := ⟨f1, f2⟩
                clear f1 f2
                go_wp2_with fail
                have A1 : Below w11.heap.size w11 (w11.alloc (.cells #[.string t1, .string t2] 9)) := (Below.refl _ w11).alloc (Nat.le_refl _) _
                refine (KS1.out w11.heap.size _ ((hl.below BZ).below A1) (by simp) (by simp [go_sem]) (by simp [go_sem])).mono ?_
                rintro e w12 ⟨rfl, B12⟩
                have C12 := belowStep BZ BZ.size (belowStep A1 A1.size B12)
                go_wp2_with fail
                refine (number_any n _).mono ?_
                rintro e w13 ⟨rfl, B13⟩
                have C13 := belowStep C12 C12.size B13
                go_wp2_with fail
                have A2 : Below w13.heap.size w13 (w13.alloc (.cells #[.string r, .string (numOf n)] 9)) := (Below.refl _ w13).alloc (Nat.le_refl _) _
                refine (KS2.out w13.heap.size _ ((hl.below C13).below A2) (by simp) (by simp [go_sem]) (by simp [go_sem])).mono ?_
                rintro e w14 ⟨rfl, B14⟩
                have C14 := belowStep C13 C13.size (belowStep A2 A2.size B14)
                clear A1 B12 C12 B13 C13 A2 B14 BZ
                go_wp2
                go_ret
                exact ⟨rfl, C14⟩
              · have f2b : ((N : Int) == 256) = false := by rw [beq_eq_false_iff_ne]; exact f2
                obtain ⟨rfl, hsr⟩ := HX.out (by omega)
                have hsr2 := hsr.symm
                subst hsr2
                clear hsr
                have HF1 : Hid (_ ∧ _) := ⟨f1, f2⟩
                clear f1 f2
                go_wp2_with fail
                have A1 : Below w11.heap.size w11 (w11.alloc (.cells #[.string t1, .string t2] 9)) := (Below.refl _ w11).alloc (Nat.le_refl _) _
                refine (KS1.out w11.heap.size _ ((hl.below BZ).below A1) (by simp) (by simp [go_sem]) (by simp [go_sem])).mono ?_
                rintro e w12 ⟨rfl, B12⟩
                have C12 := belowStep BZ BZ.size (belowStep A1 A1.size B12)
                go_wp2_with fail
                refine (number_any n _).mono ?_
                rintro e w13 ⟨rfl, B13⟩
                have C13 := belowStep C12 C12.size B13
                go_wp2_with fail
                have A2 : Below w13.heap.size w13 (w13.alloc (.cells #[.string r, .string (numOf n)] 9)) := (Below.refl _ w13).alloc (Nat.le_refl _) _
                refine (KS2.out w13.heap.size _ ((hl.below C13).below A2) (by simp) (by simp [go_sem]) (by simp [go_sem])).mono ?_
                rintro e w14 ⟨rfl, B14⟩
                have C14 := belowStep C13 C13.size (belowStep A2 A2.size B14)
                clear A1 B12 C12 B13 C13 A2 B14 BZ
                go_wp2
                go_ret
                exact ⟨rfl, C14⟩
      · have hrv : rootV xs (E : Int) = .tuple #[.string ⟨#[]⟩, .int .i64 80] := if_neg hr
        rw [hrv]
        clear hrv
        go_wp2
        go_ret
        exact ⟨rfl, BW2⟩
end Go.Proofs.YtmemfdpfbeijeabDoor
