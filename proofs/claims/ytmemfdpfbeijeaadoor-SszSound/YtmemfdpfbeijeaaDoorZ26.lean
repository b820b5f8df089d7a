/- The law SszSound, walked. -/
import Derived.Test.YtmemfdpfbeijeaaDoorZ25
import Derived.Test.YtmemfdpfbeijeaaDoorZ15
namespace Go.Proofs.YtmemfdpfbeijeaaDoor
open Go.RowKit Go.Shelf Go.Sort

theorem run_append_list (W : World) (ty : TypeId) (z : Nat) (v : Value) (k : Nat) (ys : List Value) (hown : W.ownsRow z 9 1 v k ys) (xs : List ByteArray) (a : Option Addr) (m c n : Nat) (hm : xs.length = m) (hs : slS n W a xs) (hk : k ≤ 1000000) (hl : m ≤ 1000000) (hz : z ≤ W.heap.size) :
    ∃ v' w', (Builtin.append_ #[28, 28] ty #[v, .slice a m c]).run Tryd.prog W = .ok v' w' ∧ w'.ownsRow z 9 1 v' (k + m) (ys ++ xs.map .string) ∧ W.grownBy w' v.ownBlock := by
  obtain ⟨i0, hi0, hz0, hz1, hz2⟩ := info_parts info_str8
  subst hm
  rcases hs with e | ⟨b, off, rfl, hb, hcl⟩
  · subst e
    obtain ⟨a1, c1, rfl⟩ := owns_slice hown
    exact ⟨_, _, run_append_zero W 28 ty 9 i0 Tryd.underlying28 hi0 a1 k c1 (owns_cap hown) a c, by rw [List.map_nil, List.append_nil]; exact hown, ⟨rfl, rfl, rfl, Nat.le_refl _, fun _ _ _ => rfl⟩⟩
  · obtain ⟨v', w', h1, h2, h3, _⟩ := run_append_own (P := Tryd.prog) W z 28 ty 9 i0 (.string ⟨#[]⟩) 1 16 Tryd.underlying28 hi0 hz0 hz1 hz2 rfl (by decide) v k ys hown ⟨b, off, none⟩ xs.length c (xs.map .string) (by rw [List.length_map, Nat.mul_one]) (fun j u hu => by
      rw [Addr.add_mid]
      rw [List.getElem?_map] at hu
      cases hxj : xs[j]? with
      | none => rw [hxj] at hu; cases hu
      | some y =>
        rw [hxj] at hu
        cases hu
        exact hcl j y hxj) (fun u hu => by
      obtain ⟨y, _, rfl⟩ := List.mem_map.1 hu
      rfl) (by unfold maxLen; omega) (by omega) hz
    exact ⟨v', w', h1, h2, h3⟩
/-- An append behind a guard that holds. -/
theorem wpList_append_wanted {P : Program} {w : World} {ops : Array Oper} {rest : List Oper} {o : Oper} {a : Act} {Q : Exit → Act → World → Prop} (hw : Region.wanted o (yielded ops a.tmps) = true) (sl x : Operand) (t u : TypeId)
    (ho : o.op = .call { callee := .builtin .append, args := #[sl, x], argTypes := #[t, u] }) (v y v' : Value) (w' : World) (hs : a.eval sl = v) (hx : a.eval x = y)
    (hr : (Builtin.append_ #[t, u] o.type #[v, y]).run P w = .ok v' w') (h : wpList P ops Q rest (a.put o.dst v') w') : wpList P ops Q (o :: rest) a w := by
  refine wpList_step fun K hK => ?_
  rw [if_pos hw]
  unfold Oper.wp execOp
  simp only [ho, resolve, invoke, builtin, Sem.run_bind, Sem.run_pure, Result.andThen_ok, List.map_toArray, List.map_cons, List.map_nil, hs, hx, hr]
  exact hK _ _ h
theorem clB_of {l : List ByteArray} (h : ClashP l) : clB l = true := by
  obtain ⟨s, hs, t, ht, hne, he⟩ := h
  unfold clB
  rw [List.any_eq_true]
  refine ⟨s, hs, ?_⟩
  rw [List.any_eq_true]
  exact ⟨t, ht, decide_eq_true ⟨hne, he⟩⟩
theorem wyF_size (i : Nat) : ∀ (r : List ByteArray) (k : Nat) (x : ByteArray), x.size = 32 → (∀ y ∈ r, y.size = 32) → ∀ s ∈ wyF i k x r, s.size = 64
  | [], _, _, _, _, s, h => by cases h
  | y :: r, k, x, hx, hr, s, h => by
    have hy := hr y List.mem_cons_self
    rw [wyF] at h
    rcases List.mem_cons.1 h with rfl | h'
    · split <;> rw [ByteArray.size_append] <;> omega
    · exact wyF_size i r (k + 1) _ (by split <;> exact hs_size _ _) (fun t ht => hr t (List.mem_cons_of_mem _ ht)) s h'

set_option maxRecDepth 100000 in
set_option maxHeartbeats 4000000 in
theorem ssound_any (xs : List ByteArray) (a : Option Addr) (c : Nat) (d : Int) (leaf : ByteArray) (br : List ByteArray) (a' : Option Addr) (c' : Nat) (i : Int) (w : World) (hl : Laid w) (hp : slS w.heap.size w a xs) (hp' : slS w.heap.size w a' br) (hi2 : i < 9223372036854775808) :
    Calls Tryd.prog 8 #[.slice a xs.length c, .int .i64 d, .string leaf, .slice a' br.length c', .int .i64 i] w fun e w' => e = .returned (.bool true) ∧ Below w.heap.size w w' := by
  obtain ⟨i0, hi0, hz0, hz1, hz2⟩ := info_parts info_u8'
  have KR : ∀ W : World, Below w.heap.size w W → _ := fun W hB => rroot_any xs d a c w.heap.size W hB.size (slS_below hB hp)
  obtain ⟨N, hN⟩ : ∃ N, xs.length = N := ⟨_, rfl⟩
  obtain ⟨N', hN'⟩ : ∃ N, br.length = N := ⟨_, rfl⟩
  rw [hN] at KR ⊢
  rw [hN']
  have HKR : Hid (∀ W : World, _ → _) := KR
  clear KR
  go_enter Tryd.func8, Tryd.ntmps8
  go_wp2_with fail
  refine (shown8_any w hl).mono ?_
  rintro e w1 ⟨rfl, B1⟩
  go_wp2_with fail
  refine (HKR.out _ B1).mono ?_
  rintro e w2 ⟨rfl, B2⟩
  have BW2 := belowStep B1 B1.size B2
  clear B1 B2 HKR
  by_cases hr : rt8 xs d = true
  · obtain ⟨h0, h10, hpw, h256, h32⟩ := (rt8_iff xs d).1 hr
    obtain ⟨D, rfl⟩ : ∃ D : Nat, d = (D : Int) := ⟨d.toNat, by omega⟩
    rw [Int.toNat_natCast] at hpw
    have hrv : rootV xs (D : Int) = .tuple #[.string (lf (lvs xs) D 0), .int .i64 0] := by rw [rootV, if_pos hr, Int.toNat_natCast]
    rw [hrv]
    have HPW : Hid (xs.length ≤ 2 ^ D) := hpw
    obtain ⟨r, hr0⟩ : ∃ r, lf (lvs xs) D 0 = r := ⟨_, rfl⟩
    have HR0 : Hid _ := hr0
    rw [hr0]
    clear hr0 hrv hpw
    by_cases h6 : 6 < (D : Int)
    · go_wp2
      go_ret
      exact ⟨rfl, BW2⟩
    · by_cases hi : i < 0
      · go_wp2
        go_ret
        exact ⟨rfl, BW2⟩
      · obtain ⟨I, rfl⟩ : ∃ I : Nat, i = (I : Int) := ⟨i.toNat, by omega⟩
        by_cases hlb : N' = D
        · subst hlb
          have KC : ∀ W : World, Below w.heap.size w W → _ := fun W hB => check_any leaf br I (by omega) r a' c' w.heap.size W (hl.below hB) hB.size (slS_below hB hp')
          rw [hN'] at KC
          have wI : IntKind.u64.wrap (I : Int) = (I : Int) := by rw [IntKind.wrap_u64]; omega
          have hd6 : decide ((6 : Int) < N') = false := decide_eq_false (by omega)
          have hdI : decide ((I : Int) < 0) = false := decide_eq_false (by omega)
          obtain ⟨ck, hck⟩ : ∃ q, chk leaf br I r = q := ⟨_, rfl⟩
          rw [hck] at KC
          have HKC : Hid (∀ W : World, _ → _) := KC
          have HCK : Hid _ := hck
          clear KC hck
          go_wp2_with fail
          refine (HKC.out _ BW2).mono ?_
          rintro e w3 ⟨rfl, B3⟩
          have BW3 := belowStep BW2 BW2.size B3
          clear BW2 B3 HKC
          cases ck with
          | false =>
            go_wp2
            go_ret
            exact ⟨rfl, BW3⟩
          | true =>
            obtain ⟨g1, g2, g3, g4, g5, g6⟩ := of_decide_eq_true HCK.out
            rw [hN'] at g2
            have hsd := sound xs h32 N' I br 0 leaf (by omega) g2 g3 g5 (by rw [HR0.out]; exact g6)
            rw [Nat.pow_zero, Nat.div_one] at hsd
            have HSD : Hid (leaf = lvs xs I ∨ ClashP (smA xs N' N' ++ wyF I 0 leaf br)) := hsd
            have KW : ∀ W : World, Below w.heap.size w W → _ := fun W hB => rway_any leaf g3 br (by omega) g5 I (by omega) a' c' w.heap.size W hB.size (slS_below hB hp')
            rw [hN'] at KW
            have KSM : ∀ W : World, Below w.heap.size w W → _ := fun W hB => rsums_any xs N' (by omega) HPW.out h32 a c w.heap.size W hB.size (slS_below hB hp)
            rw [hN] at KSM
            have hsm := smA_len xs N' N' (Nat.le_refl _)
            have hp64 : 2 ^ N' ≤ 1024 := Nat.pow_le_pow_right (by decide) (by omega : N' ≤ 10)
            have hwl : (wyF I 0 leaf br).length = N' := by rw [wyF_len]; exact hN'
            have HSZ : Hid (∀ x ∈ smA xs N' N' ++ wyF I 0 leaf br, x.size ≤ 100000) := fun x hx => by
              rcases List.mem_append.1 hx with h | h
              · rw [smA_size xs h32 N' N' x h]; decide
              · rw [wyF_size I br 0 leaf g3 g5 x h]; decide
            rw [Nat.sub_self] at hsm
            have hSL : (smA xs N' N').length ≤ 1024 := by omega
            have HK : Hid (_ ∧ _) := ⟨KW, KSM⟩
            have HWL : Hid (_ ∧ _) := ⟨hwl, hSL⟩
            clear KW KSM hsd g6 hsm hp64 g1 g2 g3 g4 g5 hwl hSL
            go_wp2_with (at_make; refine wpList_make_full _ rfl _ _ 36 rfl w3.heap.size 5 i0 _ 1 Tryd.underlying36 hi0 hz0 hz1 .i64 .i64 _ _ 32 rfl rfl rfl rfl (by rw [hz2]; omega) (by unfold maxLen; omega) (Nat.le_refl _) ?_; intro w4 hown hgr)
            have hcv := run_convert_bytes_back (P := Tryd.prog) w4 36 9 5 ⟨w3.heap.size, 0, none⟩ 32 (by8 32 fun _ => 0) Tryd.underlying36 Tryd.underlying5 Tryd.underlying9 (fun j hj => by
              rw [by8_at _ _ (fun _ => ⟨by decide, by decide⟩)]
              rw [by8_len] at hj
              exact hown.cells (g := w3.heap.size) rfl j _ (by simp [madeCells, hj, Value.cells, Nat.mod_one]))
            rw [by8_len] at hcv
            have B4 : Below w3.heap.size w3 w4 := (Below.refl _ w3).grown hgr (Nat.le_refl _) (fun _ e => by cases e)
            clear hown hgr
            have hzz : (⟨(by8 32 fun _ => 0).toArray⟩ : ByteArray) = z32 := zs_32
            rw [hzz] at hcv
            rw [hcv]
            clear hcv hzz
            have BW4 := belowStep BW3 BW3.size B4
            clear BW3 B4
            by_cases hin : I < N
            · obtain ⟨x, hx⟩ : ∃ x, xs[I]? = some x := ⟨xs[I]'(by omega), List.getElem?_eq_getElem (by omega)⟩
              have hlx : lvs xs I = x := by unfold lvs; rw [List.getD_eq_getElem?_getD, hx]; rfl
              obtain ⟨b, o, rfl, hbb, c0⟩ := slS_at (slS_below BW4 hp) I x hx
              have l0 : (I : Int) < N := by omega
              rw [hlx] at HSD
              clear hlx hx
              go_wp2_with fail
              refine (HK.out.1 _ BW4).mono ?_
              rintro e w5 ⟨⟨a5, c5, rfl, hc5, hs5⟩, B5⟩
              have BW5 := belowStep BW4 BW4.size B5
              rw [HWL.out.1] at hc5 ⊢
              clear BW4 B5
              by_cases hlw : leaf = x
              · subst hlw
                go_wp2
                go_ret
                exact ⟨rfl, BW5⟩
              · have hne : (leaf.toList == x.toList) = false := by rw [beq_eq_false_iff_ne]; exact fun e => hlw (toList_inj e)
                have hcl : ClashP (smA xs N' N' ++ wyF I 0 leaf br) := by
                  rcases HSD.out with h | h
                  · exact absurd h hlw
                  · exact h
                have HCL : Hid _ := hcl
                clear hcl hlw
                go_wp2_with fail
                refine (HK.out.2 _ BW5).mono ?_
                rintro e w6 ⟨⟨v6, rfl, ho6⟩, B6⟩
                have BW6 := belowStep BW5 BW5.size B6
                have hs6 : slS w6.heap.size w6 a5 (wyF I 0 leaf br) := by
                  rcases slS_below B6 hs5 with e | ⟨b', o', k1, k2, k3⟩
                  · exact .inl e
                  · exact .inr ⟨b', o', k1, Nat.lt_of_lt_of_le k2 B6.size, k3⟩
                have hz6 := B6.size
                have hr6 : ∀ b, v6.ownBlock = some b → w5.heap.size ≤ b := fun b hb => (ho6.lt b hb).1
                obtain ⟨v7, w7, hrun7, ho7, hg7⟩ := run_append_list w6 28 w5.heap.size v6 (smA xs N' N').length _ ho6 (wyF I 0 leaf br) a5 N' c5 w6.heap.size HWL.out.1 hs6 (by have := HWL.out.2; omega) (by omega) hz6
                have HR7 : Hid _ := hrun7
                have HO7 : Hid (_ ∧ _) := ⟨ho7, hg7⟩
                clear B6 hs5 hs6 ho6 hrun7 ho7 hg7
                go_wp2_with (at_builtin; refine wpList_append_wanted (by simp [Region.wanted, yielded]) _ _ 28 28 rfl _ _ _ _ rfl rfl HR7.out ?_)
                obtain ⟨ho7, hg7⟩ := HO7.out
                have B67 : Below w5.heap.size w6 w7 := (Below.refl w5.heap.size w6).grown hg7 hz6 (fun b hb => hr6 b hb)
                have BW7 : Below w.heap.size w w7 := BW6.trans (B67.mono BW5.size)
                have hln7 : (smA xs N' N' ++ wyF I 0 leaf br).length = (smA xs N' N').length + N' := by rw [List.length_append, HWL.out.1]
                rw [← List.map_append, ← hln7] at ho7
                obtain ⟨a7, c7, rfl, hs7⟩ := slS_owns ho7
                have KCL := clash_any (smA xs N' N' ++ wyF I 0 leaf br) (by rw [hln7]; have := HWL.out.2; omega) HSZ.out a7 c7 w7.heap.size w7 (Nat.le_refl _) hs7
                rw [clB_of HCL.out] at KCL
                refine KCL.mono ?_
                rintro e w8 ⟨rfl, B8⟩
                have BW8 := belowStep BW7 BW7.size B8
                clear KCL B8 BW7 BW6 BW5 hs7 ho7 hg7 B67 HO7 HR7
                go_wp2
                go_ret
                exact ⟨rfl, BW8⟩
            · have hlx : lvs xs I = z32 := by unfold lvs; rw [List.getD_eq_getElem?_getD, List.getElem?_eq_none (by omega)]; rfl
              have l0 : ¬ (I : Int) < N := by omega
              rw [hlx] at HSD
              obtain ⟨x, hx⟩ : ∃ x, z32 = x := ⟨_, rfl⟩
              rw [hx] at HSD ⊢
              clear hlx hx
              go_wp2_with fail
              refine (HK.out.1 _ BW4).mono ?_
              rintro e w5 ⟨⟨a5, c5, rfl, hc5, hs5⟩, B5⟩
              have BW5 := belowStep BW4 BW4.size B5
              rw [HWL.out.1] at hc5 ⊢
              clear BW4 B5
              by_cases hlw : leaf = x
              · subst hlw
                go_wp2
                go_ret
                exact ⟨rfl, BW5⟩
              · have hne : (leaf.toList == x.toList) = false := by rw [beq_eq_false_iff_ne]; exact fun e => hlw (toList_inj e)
                have hcl : ClashP (smA xs N' N' ++ wyF I 0 leaf br) := by
                  rcases HSD.out with h | h
                  · exact absurd h hlw
                  · exact h
                have HCL : Hid _ := hcl
                clear hcl hlw
                go_wp2_with fail
                refine (HK.out.2 _ BW5).mono ?_
                rintro e w6 ⟨⟨v6, rfl, ho6⟩, B6⟩
                have BW6 := belowStep BW5 BW5.size B6
                have hs6 : slS w6.heap.size w6 a5 (wyF I 0 leaf br) := by
                  rcases slS_below B6 hs5 with e | ⟨b', o', k1, k2, k3⟩
                  · exact .inl e
                  · exact .inr ⟨b', o', k1, Nat.lt_of_lt_of_le k2 B6.size, k3⟩
                have hz6 := B6.size
                have hr6 : ∀ b, v6.ownBlock = some b → w5.heap.size ≤ b := fun b hb => (ho6.lt b hb).1
                obtain ⟨v7, w7, hrun7, ho7, hg7⟩ := run_append_list w6 28 w5.heap.size v6 (smA xs N' N').length _ ho6 (wyF I 0 leaf br) a5 N' c5 w6.heap.size HWL.out.1 hs6 (by have := HWL.out.2; omega) (by omega) hz6
                have HR7 : Hid _ := hrun7
                have HO7 : Hid (_ ∧ _) := ⟨ho7, hg7⟩
                clear B6 hs5 hs6 ho6 hrun7 ho7 hg7
                go_wp2_with (at_builtin; refine wpList_append_wanted (by simp [Region.wanted, yielded]) _ _ 28 28 rfl _ _ _ _ rfl rfl HR7.out ?_)
                obtain ⟨ho7, hg7⟩ := HO7.out
                have B67 : Below w5.heap.size w6 w7 := (Below.refl w5.heap.size w6).grown hg7 hz6 (fun b hb => hr6 b hb)
                have BW7 : Below w.heap.size w w7 := BW6.trans (B67.mono BW5.size)
                have hln7 : (smA xs N' N' ++ wyF I 0 leaf br).length = (smA xs N' N').length + N' := by rw [List.length_append, HWL.out.1]
                rw [← List.map_append, ← hln7] at ho7
                obtain ⟨a7, c7, rfl, hs7⟩ := slS_owns ho7
                have KCL := clash_any (smA xs N' N' ++ wyF I 0 leaf br) (by rw [hln7]; have := HWL.out.2; omega) HSZ.out a7 c7 w7.heap.size w7 (Nat.le_refl _) hs7
                rw [clB_of HCL.out] at KCL
                refine KCL.mono ?_
                rintro e w8 ⟨rfl, B8⟩
                have BW8 := belowStep BW7 BW7.size B8
                clear KCL B8 BW7 BW6 BW5 hs7 ho7 hg7 B67 HO7 HR7
                go_wp2
                go_ret
                exact ⟨rfl, BW8⟩
        · have l0 : ¬ (N' : Int) = D := by omega
          go_wp2
          go_ret
          exact ⟨rfl, BW2⟩
  · have hrv : rootV xs d = .tuple #[.string ⟨#[]⟩, .int .i64 80] := if_neg hr
    rw [hrv]
    clear hrv
    go_wp2
    go_ret
    exact ⟨rfl, BW2⟩
end Go.Proofs.YtmemfdpfbeijeaaDoor
