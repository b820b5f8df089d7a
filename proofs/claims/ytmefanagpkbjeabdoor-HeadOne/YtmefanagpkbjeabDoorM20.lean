/- Lemmas: The reference's Sums. The law SszSound, walked. The roots of headers, and of what a block did. Whether a Light holds. -/
import Derived.Test.YtmefanagpkbjeabDoorM1
import Derived.Test.YtmefanagpkbjeabDoorM10
import Derived.Test.YtmefanagpkbjeabDoorM11
import Derived.Test.YtmefanagpkbjeabDoorM12
import Derived.Test.YtmefanagpkbjeabDoorM13
import Derived.Test.YtmefanagpkbjeabDoorM14
import Derived.Test.YtmefanagpkbjeabDoorM15
import Derived.Test.YtmefanagpkbjeabDoorM16
import Derived.Test.YtmefanagpkbjeabDoorM17
import Derived.Test.YtmefanagpkbjeabDoorM18
import Derived.Test.YtmefanagpkbjeabDoorM19
import Derived.Test.YtmefanagpkbjeabDoorM2
import Derived.Test.YtmefanagpkbjeabDoorM3
import Derived.Test.YtmefanagpkbjeabDoorM4
import Derived.Test.YtmefanagpkbjeabDoorM6
import Derived.Test.YtmefanagpkbjeabDoorM7
import Derived.Test.YtmefanagpkbjeabDoorM8
import Derived.Test.YtmefanagpkbjeabDoorM9
import Derived.Test.YtmefanagpkbjeabDoorRows
namespace Go.Proofs.YtmefanagpkbjeabDoor
open Go.RowKit Go.Shelf Go.Sort

theorem z_append_where {P : Program} (w : World) (base : Nat) (t ty e : TypeId) (i : TypeInfo) (z : Value) (size bytes : Nat) (ht : P.underlying t = some (.slice e)) (hi : P.info? e = some i) (hz : i.zero = some z)
    (hsize : i.size = size) (hby : i.bytes = bytes) (hzs : z.cells.size = size) (hsz : 0 < size)
    (v : Value) (n : Nat) (xs : List Value) (hown : w.ownsRow base e size v n xs)
    (a : Addr) (m c : Nat) (news : List Value) (hl : news.length = m * size) (hnews : ∀ j u, news[j]? = some u → w.cell? (a.add j) = some u) (h1 : ∀ u ∈ news, u.oneCell' = true)
    (h63 : n + m ≤ maxLen) (hbytes : (n + m) * bytes ≤ 140737488355328) (hbase : base ≤ w.heap.size) (hm : 0 < m) :
    ∃ v' w', (Builtin.append_ #[t, t] ty #[v, .slice (some a) m c]).run P w = .ok v' w' ∧ w'.ownsRow base e size v' (n + m) (xs ++ news) ∧ w.grownBy w' v.ownBlock ∧
      v' ≠ .slice none 0 0 ∧ (v'.ownBlock = v.ownBlock ∨ ∃ g, v'.ownBlock = some g ∧ w.heap.size ≤ g) := by
  obtain ⟨v', w', hr, h2, h3, h4⟩ := run_append_own (P := P) w base t ty e i z size bytes ht hi hz hsize hby hzs hsz v n xs hown a m c news hl hnews h1 h63 hbytes hbase
  refine ⟨v', w', hr, h2, h3, fun e => by have := (h4.1 e).2; omega, ?_⟩
  rcases hown.2 with ⟨rfl, rfl⟩ | ⟨g, cap, cur, rfl, hbg, hg, hnc, hcm, hcs, htake⟩
  · have hx : xs = [] := List.eq_nil_of_length_eq_zero (by simpa using hown.1)
    subst hx
    obtain ⟨v2, w2, hr2, k2, -, k4⟩ := run_append_own (P := P) w w.heap.size t ty e i z size bytes ht hi hz hsize hby hzs hsz _ 0 [] (World.ownsRow_nil w w.heap.size e size) a m c news hl hnews h1 h63 hbytes (Nat.le_refl _)
    rw [hr] at hr2
    injection hr2 with e1 e2
    subst e1 e2
    obtain ⟨g, cp, hv⟩ : ∃ g c, v' = .slice (some ⟨g, 0, none⟩) (0 + m) c := by
      rcases k2.2 with ⟨h, _⟩ | ⟨g, c, _, h, _⟩
      · have := (k4.1 h).2
        omega
      · exact ⟨g, c, h⟩
    exact .inr ⟨g, by rw [hv]; rfl, (k2.lt g (by rw [hv]; rfl)).1⟩
  · by_cases hroom : n + m ≤ cap
    · obtain ⟨w2, hr2, -, -⟩ := run_append_fits (P := P) w base t ty e i size ht hi hsize g n cap xs hown a m c news hl hnews h1 hroom
      rw [hr] at hr2
      injection hr2 with e1 e2
      exact .inl (by rw [e1]; rfl)
    · have hr2 := run_append_grow (P := P) w t ty e i z ht hi hz ⟨g, 0, none⟩ n cap xs (by rw [hsize]; exact hown.1) (fun j u hu => hown.cells (g := g) rfl j u hu) a m c news (by rw [hsize]; exact hl) hnews (by omega) (by simp only [maxLen] at h63; omega) (growslice_fits (by omega) (by rw [hby]; omega))
      rw [hr] at hr2
      injection hr2 with e1 e2
      exact .inr ⟨w.heap.size, by rw [e1]; rfl, Nat.le_refl _⟩

theorem z_wpList_append_where {P : Program} (w : World) {ops : Array Oper} {rest : List Oper} {o : Oper} {a : Act} {Q : Exit → Act → World → Prop} (hgd : o.guard = none) (sl x : Operand) (t : TypeId)
    (ho : o.op = .call { callee := .builtin .append, args := #[sl, x], argTypes := #[t, t] })
    (base : Nat) (e : TypeId) (i : TypeInfo) (z : Value) (size bytes : Nat) (ht : P.underlying t = some (.slice e)) (hi : P.info? e = some i) (hz : i.zero = some z) (hsize : i.size = size) (hby : i.bytes = bytes) (hzs : z.cells.size = size) (hsz : 0 < size)
    (v : Value) (n : Nat) (xs : List Value) (hs : a.eval sl = v) (hown : w.ownsRow base e size v n xs) (ad : Addr) (m c : Nat) (news : List Value) (hx : a.eval x = .slice (some ad) m c) (hl : news.length = m * size)
    (hnews : ∀ j u, news[j]? = some u → w.cell? (ad.add j) = some u) (h1 : ∀ u ∈ news, u.oneCell' = true) (h63 : n + m ≤ maxLen) (hbytes : (n + m) * bytes ≤ 140737488355328) (hbase : base ≤ w.heap.size) (hm : 0 < m)
    (h : ∀ v' w', w'.ownsRow base e size v' (n + m) (xs ++ news) → w.grownBy w' v.ownBlock → v' ≠ .slice none 0 0 → (v'.ownBlock = v.ownBlock ∨ ∃ g, v'.ownBlock = some g ∧ w.heap.size ≤ g) → wpList P ops Q rest (a.put o.dst v') w') : wpList P ops Q (o :: rest) a w := by
  refine wpList_plain hgd fun K hK => ?_
  obtain ⟨v', w', hr, h2, h3, h4, h5⟩ := z_append_where (P := P) w base t o.type e i z size bytes ht hi hz hsize hby hzs hsz v n xs hown ad m c news hl hnews h1 h63 hbytes hbase hm
  unfold Oper.wp execOp
  simp only [ho, resolve, invoke, builtin, Sem.run_bind, Sem.run_pure, Result.andThen_ok, List.map_toArray, List.map_cons, List.map_nil, hs, hx, hr]
  exact hK _ _ (h v' w' h2 h3 h4 h5)
theorem smA_len (xs : List ByteArray) (D : Nat) : ∀ k, k ≤ D → (smA xs D k).length + 2 ^ (D - k) = 2 ^ D
  | 0, _ => by simp [smA]
  | k + 1, h => by
    have ih := smA_len xs D k (by omega)
    show (smA xs D k ++ smL xs D k).length + _ = _
    unfold smL
    rw [List.length_append, List.length_map, List.length_range]
    have e : 2 ^ (D - k) = 2 * 2 ^ (D - (k + 1)) := by rw [show D - k = (D - (k + 1)) + 1 by omega, Nat.pow_succ, Nat.mul_comm]
    omega
theorem smA_size (xs : List ByteArray) (h32 : ∀ x ∈ xs, x.size = 32) (D : Nat) : ∀ k, ∀ s ∈ smA xs D k, s.size = 64
  | 0, s, h => by cases h
  | k + 1, s, h => by
    rcases List.mem_append.1 (show s ∈ smA xs D k ++ smL xs D k from h) with h' | h'
    · exact smA_size xs h32 D k s h'
    · obtain ⟨j, _, rfl⟩ := List.mem_map.1 h'
      rw [ByteArray.size_append, lf_size _ (lvs_size xs h32), lf_size _ (lvs_size xs h32)]
def SmR (xs : List ByteArray) (D : Nat) (e : Ending) (w' : World) : Prop := ∃ a c, e = .returned (.slice a (smA xs D D).length c) ∧ (smA xs D D).length ≤ c ∧ (e = .returned (.slice a (smA xs D D).length c) → ∃ z, w'.ownsRow z 9 1 (.slice a (smA xs D D).length c) (smA xs D D).length ((smA xs D D).map .string))
/-- What holds while a statement runs. -/
structure SmK (V : World) (b1 o1 M c' p : Nat) (X1 X2 : ByteArray) (u5 : Value) (S : Nat → Bool) (x24 x25 x26 x27 x28 x29 x30 x31 x32 x33 x34 x35 : Value) (W : World) : Prop where
  e : Below V.heap.size V W
  f0 : S 0 = true → x24 = u5
  f1 : S 1 = true → x25 = Value.slice (some ⟨b1, o1, none⟩) M c'
  f2 : S 2 = true → x26 = Value.int .i64 (p : Int)
  f3 : S 3 = true → x27 = Value.pointer (some ⟨b1, o1 + p, none⟩)
  f4 : S 4 = true → x28 = Value.string X1
  f5 : S 5 = true → x29 = Value.slice (some ⟨b1, o1, none⟩) M c'
  f6 : S 6 = true → x30 = Value.int .i64 (p : Int)
  f7 : S 7 = true → x31 = Value.int .i64 ((p : Int) + 1)
  f8 : S 8 = true → x32 = Value.pointer (some ⟨b1, o1 + (p + 1), none⟩)
  f9 : S 9 = true → x33 = Value.string X2
  f10 : S 10 = true → x34 = Value.string (X1 ++ X2)
  f11 : S 11 = true → ∃ g, x35 = .slice (some ⟨g, 0, none⟩) 1 1 ∧ V.heap.size ≤ g ∧ g < W.heap.size ∧ W.heap[g]? = some (.cells #[.string (X1 ++ X2)] 9 (0, 0))
theorem SmK.grow {V : World} {b1 o1 M c' p : Nat} {X1 X2 : ByteArray} {u5 : Value} {S : Nat → Bool} {x24 x25 x26 x27 x28 x29 x30 x31 x32 x33 x34 x35 : Value} {W W' : World} (h : SmK V b1 o1 M c' p X1 X2 u5 S x24 x25 x26 x27 x28 x29 x30 x31 x32 x33 x34 x35 W) (hb : Below W.heap.size W W') : SmK V b1 o1 M c' p X1 X2 u5 S x24 x25 x26 x27 x28 x29 x30 x31 x32 x33 x34 x35 W' :=
  ⟨belowStep h.e h.e.size hb, h.f0, h.f1, h.f2, h.f3, h.f4, h.f5, h.f6, h.f7, h.f8, h.f9, h.f10, fun s => (h.f11 s).imp fun _ ⟨j1, j0, j2, j3⟩ => ⟨j1, j0, Nat.lt_of_lt_of_le j2 hb.size, (hb.block _ j2).trans j3⟩⟩
set_option maxRecDepth 20000 in
set_option maxHeartbeats 4000000 in
theorem rsums_any (xs : List ByteArray) (D : Nat) (hD : D ≤ 10) (hx : xs.length ≤ 2 ^ D) (h32 : ∀ x ∈ xs, x.size = 32) (a : Option Addr) (c n : Nat) (w : World) (hn : n ≤ w.heap.size) (hp : slS n w a xs) :
    Calls Tryd.prog 18 #[.slice a xs.length c, .int .i64 (D : Int)] w fun e w' => (∃ v, e = .returned v ∧ w'.ownsRow w.heap.size 9 1 v (smA xs D D).length ((smA xs D D).map .string)) ∧ Below w.heap.size w w' := by
  obtain ⟨i0, hi0, hz0, hz1, hz2⟩ := info_parts info_str8
  obtain ⟨N, hN⟩ : ∃ N, xs.length = N := ⟨_, rfl⟩
  have HN : Hid (xs.length = N) := hN
  have HX : Hid (xs.length ≤ 2 ^ D) := hx
  rw [hN]
  have hpow : 2 ^ D ≤ 1024 := Nat.pow_le_pow_right (by decide) hD
  have HPW : Hid (2 ^ D ≤ 1024) := hpow
  obtain ⟨z, hz⟩ : ∃ z, w.heap.size = z := ⟨_, rfl⟩
  have B0 : Below z w w := Below.refl _ _
  have hz' : z ≤ w.heap.size := by omega
  rw [hz] at hn ⊢
  have HZ : Hid (w.heap.size = z) := hz
  clear hz hN hx hpow
  go_enter Tryd.func18, Tryd.ntmps18
  go_wp2_with fail
  go_loopg [5, 6] D (fun gk v i' wr => ∃ k : Nat, k + gk = D ∧ i' = .int .i64 (k : Int) ∧ Below z w wr ∧ z ≤ wr.heap.size ∧ wr.ownsRow z 9 1 v (smA xs D k).length ((smA xs D k).map .string))
  case atStart => exact ⟨0, by omega, rfl, B0, hz', World.ownsRow_nil _ _ _ _⟩
  case round =>
    clear B0 hz'
    obtain ⟨k, hk, rfl, BW, hzw, hown⟩ := hrel
    by_cases hlt : k < D
    · have lk : (k : Int) < D := by omega
      have wk : IntKind.i64.wrap ((k : Int) + 1) = ((k + 1 : Nat) : Int) := by rw [IntKind.wrap_i64]; omega
      have KL := rlevel_any xs D k hD (by omega) HX.out h32 a c n wr (by omega) (slS_below (BW.mono hn) hp)
      rw [HN.out] at KL
      obtain ⟨M, hM⟩ : ∃ M, 2 ^ (D - k) = M := ⟨_, rfl⟩
      have hMe : M % 2 = 0 := by rw [← hM, show D - k = (D - k - 1) + 1 by omega, Nat.pow_succ]; omega
      have hM2 : M ≤ 1024 := by rw [← hM]; exact Nat.pow_le_pow_right (by decide) (by omega : D - k ≤ 10)
      have HM : Hid _ := hM
      have hsl0 := smA_len xs D k (by omega)
      obtain ⟨S, hS⟩ : ∃ S, (smA xs D k).length = S := ⟨_, rfl⟩
      have HS : Hid _ := hS
      have hS2 : S + M ≤ 1024 := by have := HPW.out; rw [hS, hM] at hsl0; omega
      rw [hS] at hown
      obtain ⟨ys, hys⟩ : ∃ ys, (smA xs D k).map Value.string = ys := ⟨_, rfl⟩
      have HYS : Hid _ := hys
      rw [hys] at hown
      obtain ⟨g0, hg0⟩ : ∃ x, gk = x := ⟨_, rfl⟩
      rw [hg0] at hk
      clear hM hS hsl0 hys
      go_wp2_with fail
      refine KL.mono ?_
      rintro e w2 ⟨⟨a', c', rfl, hsl, hslF⟩, B2⟩
      have hlen : (lvA xs D k).length = M := by rw [lvA_len]; exact HM.out
      rw [hlen]
      have BW2 := belowStep BW hzw B2
      have hown2 := owns_below8 hown B2
      have hz2' : z ≤ w2.heap.size := Nat.le_trans hzw B2.size
      have hro : ∀ b, u5.ownBlock = some b → b < wr.heap.size := fun b hb => (hown.lt b hb).2
      clear KL BW B2 hown hlen
      obtain ⟨W0, hW0⟩ : ∃ W0, wr = W0 := ⟨_, rfl⟩
      rw [hW0] at hslF hro
      obtain ⟨y, hy⟩ : ∃ y, W0.heap.size = y := ⟨_, rfl⟩
      rw [hy] at hslF hro
      have hzy : z ≤ y := by rw [← hy, ← hW0]; exact hzw
      clear hW0 hy hzw
      go_wp2_with fail
      go_loopg [5, 8] (M / 2) (fun gk v i' wr => ∃ m : Nat, m + gk = M / 2 ∧ i' = .int .i64 ((2 * m : Nat) : Int) ∧ Below z w wr ∧ z ≤ wr.heap.size ∧ wr.ownsRow z 9 1 v (S + m) (ys ++ (List.range m).map fun t => .string (lf (lvs xs) k (2 * t) ++ lf (lvs xs) k (2 * t + 1))) ∧ slS wr.heap.size wr a' (lvA xs D k) ∧ Hid (∀ b, v.ownBlock = some b → ∀ b' o', a' = some ⟨b', o', none⟩ → b ≠ b'))
      case atStart => exact ⟨0, by omega, rfl, BW2, hz2', by simpa using hown2, hsl, fun b hb b' o' he e => by
        subst e
        have h1 := hro b hb
        rcases hslF with e0 | ⟨b2, o2, e1, e2, _⟩
        · have h2 := lvA_len xs D k
          rw [e0] at h2
          have := Nat.two_pow_pos (D - k)
          simp at h2
          omega
        · rw [he] at e1
          cases e1
          omega⟩
      case round =>
        clear BW2 hz2' hown2 hsl hslF hro
        obtain ⟨m, hm, rfl, BW, hzw, hown, hsl, HAP⟩ := hrel
        obtain ⟨p, hp2⟩ : ∃ p, 2 * m = p := ⟨_, rfl⟩
        have HP2 : Hid (2 * m = p) := hp2
        rw [hp2]
        have hr3 : ∀ b, u5.ownBlock = some b → z ≤ b := fun b hb => (hown.lt b hb).1
        by_cases hmh : m < M / 2
        · have lm : (p : Int) < M := by omega
          have wp1 : IntKind.i64.wrap ((p : Int) + 1) = ((p + 1 : Nat) : Int) := by rw [IntKind.wrap_i64]; omega
          have wp2 : IntKind.i64.wrap ((p : Int) + 2) = ((p + 2 : Nat) : Int) := by rw [IntKind.wrap_i64]; omega
          have lm1 : ((p + 1 : Nat) : Int) < M := by omega
          have lm2 : (p : Int) + 1 < M := by omega
          obtain ⟨b1, o1, ha1, hb1, c1⟩ := slS_at hsl p _ (lvA_at xs D k p (by rw [HM.out]; omega))
          obtain ⟨b2, o2, hbo, -, c2⟩ := slS_at hsl (p + 1) _ (lvA_at xs D k (p + 1) (by rw [HM.out]; omega))
          subst ha1
          obtain ⟨rfl, rfl⟩ : b1 = b2 ∧ o1 = o2 := by cases hbo; exact ⟨rfl, rfl⟩
          have s1 := lf_size (lvs xs) (lvs_size xs h32) k p
          have s2 := lf_size (lvs xs) (lvs_size xs h32) k (p + 1)
          have HLF : Hid (lf (lvs xs) k (2 * m) ++ lf (lvs xs) k (2 * m + 1) = lf (lvs xs) k p ++ lf (lvs xs) k (p + 1)) := by rw [← hp2]; exact rfl
          obtain ⟨X1, hX1⟩ : ∃ x, lf (lvs xs) k p = x := ⟨_, rfl⟩
          obtain ⟨X2, hX2⟩ : ∃ x, lf (lvs xs) k (p + 1) = x := ⟨_, rfl⟩
          rw [hX1] at c1 s1 HLF
          rw [hX2] at c2 s2 HLF
          have z1 : ¬ 9223372036854775807 < X1.size + X2.size := by omega
          have hNB : u5.ownBlock ≠ some b1 := fun e => HAP.out b1 e b1 o1 rfl rfl
          clear hX1 hX2 hp2
          go_wp2_with fail
          refine region_inv_tail 12 (fun S aa W => ∃ x24 x25 x26 x27 x28 x29 x30 x31 x32 x33 x34 x35 : Value, aa = { tmps := #[Value.slice a N c, Value.int IntKind.i64 ↑D, undef, undef, Value.slice none 0 0, u5, Value.int IntKind.i64 ↑k, Value.slice (some { block := b1, off := o1 }) M c', Value.int IntKind.i64 ↑p, Value.int IntKind.i64 ↑k, Value.int IntKind.i64 ↑D, Value.bool true, u12, u13, Value.slice a N c, Value.int IntKind.i64 ↑D, Value.int IntKind.i64 ↑k, Value.slice (some { block := b1, off := o1 }) M c', Value.int IntKind.i64 ↑p, Value.slice (some { block := b1, off := o1 }) M c', Value.int IntKind.i64 ↑M, Value.bool true, u22, u23, x24, x25, x26, x27, x28, x29, x30, x31, x32, x33, x34, x35, u36, undef], defers := [] } ∧ SmK wr b1 o1 M c' p X1 X2 u5 S x24 x25 x26 x27 x28 x29 x30 x31 x32 x33 x34 x35 W) (by kernel_rfl) (by kernel_rfl) ?_ ?_ ?_
          · exact ⟨u24, u25, u26, u27, u28, u29, u30, u31, u32, u33, u34, u35, rfl, ⟨(Below.refl _ wr).drew, nofun, nofun, nofun, nofun, nofun, nofun, nofun, nofun, nofun, nofun, nofun, nofun⟩⟩
          · intro i o S aa W hin hi hun hJ hall K hK
            obtain ⟨x24, x25, x26, x27, x28, x29, x30, x31, x32, x33, x34, x35, rfl, h⟩ := hJ
            have hlt : i < 12 := hin
            have hcase : i = 0 ∨ i = 1 ∨ i = 2 ∨ i = 3 ∨ i = 4 ∨ i = 5 ∨ i = 6 ∨ i = 7 ∨ i = 8 ∨ i = 9 ∨ i = 10 ∨ i = 11 := by omega
            rcases hcase with rfl | rfl | rfl | rfl | rfl | rfl | rfl | rfl | rfl | rfl | rfl | rfl
            all_goals (have ho := (Option.some.inj hi).symm; subst ho; clear hi hlt hin)
            · go_simp
              exact hK _ _ ⟨_, x25, x26, x27, x28, x29, x30, x31, x32, x33, x34, x35, rfl, ⟨h.e, fun _ => rfl, h.f1, h.f2, h.f3, h.f4, h.f5, h.f6, h.f7, h.f8, h.f9, h.f10, h.f11⟩⟩
            · go_simp
              exact hK _ _ ⟨x24, _, x26, x27, x28, x29, x30, x31, x32, x33, x34, x35, rfl, ⟨h.e, h.f0, fun _ => rfl, h.f2, h.f3, h.f4, h.f5, h.f6, h.f7, h.f8, h.f9, h.f10, h.f11⟩⟩
            · go_simp
              exact hK _ _ ⟨x24, x25, _, x27, x28, x29, x30, x31, x32, x33, x34, x35, rfl, ⟨h.e, h.f0, h.f1, fun _ => rfl, h.f3, h.f4, h.f5, h.f6, h.f7, h.f8, h.f9, h.f10, h.f11⟩⟩
            · have s_1 : S 1 = true := hall ⟨1, .data⟩ (by simp) rfl
              obtain rfl := h.f1 s_1
              have s_2 : S 2 = true := hall ⟨2, .data⟩ (by simp) rfl
              obtain rfl := h.f2 s_2
              go_simp
              exact hK _ _ ⟨x24, _, _, _, x28, x29, x30, x31, x32, x33, x34, x35, rfl, ⟨h.e, h.f0, h.f1, h.f2, fun _ => rfl, h.f4, h.f5, h.f6, h.f7, h.f8, h.f9, h.f10, h.f11⟩⟩
            · have s_3 : S 3 = true := hall ⟨3, .data⟩ (by simp) rfl
              obtain rfl := h.f3 s_3
              have cW := (h.e.cell (p := ⟨b1, o1 + p, none⟩) hb1).trans c1
              go_simp
              exact hK _ _ ⟨x24, x25, x26, _, _, x29, x30, x31, x32, x33, x34, x35, rfl, ⟨h.e, h.f0, h.f1, h.f2, h.f3, fun _ => rfl, h.f5, h.f6, h.f7, h.f8, h.f9, h.f10, h.f11⟩⟩
            · go_simp
              exact hK _ _ ⟨x24, x25, x26, x27, x28, _, x30, x31, x32, x33, x34, x35, rfl, ⟨h.e, h.f0, h.f1, h.f2, h.f3, h.f4, fun _ => rfl, h.f6, h.f7, h.f8, h.f9, h.f10, h.f11⟩⟩
            · go_simp
              exact hK _ _ ⟨x24, x25, x26, x27, x28, x29, _, x31, x32, x33, x34, x35, rfl, ⟨h.e, h.f0, h.f1, h.f2, h.f3, h.f4, h.f5, fun _ => rfl, h.f7, h.f8, h.f9, h.f10, h.f11⟩⟩
            · have s_6 : S 6 = true := hall ⟨6, .data⟩ (by simp) rfl
              obtain rfl := h.f6 s_6
              go_simp
              exact hK _ _ ⟨x24, x25, x26, x27, x28, x29, _, _, x32, x33, x34, x35, rfl, ⟨h.e, h.f0, h.f1, h.f2, h.f3, h.f4, h.f5, h.f6, fun _ => rfl, h.f8, h.f9, h.f10, h.f11⟩⟩
            · have s_5 : S 5 = true := hall ⟨5, .data⟩ (by simp) rfl
              obtain rfl := h.f5 s_5
              have s_7 : S 7 = true := hall ⟨7, .data⟩ (by simp) rfl
              obtain rfl := h.f7 s_7
              go_simp
              exact hK _ _ ⟨x24, x25, x26, x27, x28, _, x30, _, _, x33, x34, x35, rfl, ⟨h.e, h.f0, h.f1, h.f2, h.f3, h.f4, h.f5, h.f6, h.f7, fun _ => rfl, h.f9, h.f10, h.f11⟩⟩
            · have s_8 : S 8 = true := hall ⟨8, .data⟩ (by simp) rfl
              obtain rfl := h.f8 s_8
              have cW := (h.e.cell (p := ⟨b1, o1 + (p + 1), none⟩) hb1).trans c2
              go_simp
              exact hK _ _ ⟨x24, x25, x26, x27, x28, x29, x30, x31, _, _, x34, x35, rfl, ⟨h.e, h.f0, h.f1, h.f2, h.f3, h.f4, h.f5, h.f6, h.f7, h.f8, fun _ => rfl, h.f10, h.f11⟩⟩
            · have s_4 : S 4 = true := hall ⟨4, .data⟩ (by simp) rfl
              obtain rfl := h.f4 s_4
              have s_9 : S 9 = true := hall ⟨9, .data⟩ (by simp) rfl
              obtain rfl := h.f9 s_9
              go_simp
              exact hK _ _ ⟨x24, x25, x26, x27, _, x29, x30, x31, x32, _, _, x35, rfl, ⟨h.e, h.f0, h.f1, h.f2, h.f3, h.f4, h.f5, h.f6, h.f7, h.f8, h.f9, fun _ => rfl, h.f11⟩⟩
            · have s_10 : S 10 = true := hall ⟨10, .data⟩ (by simp) rfl
              obtain rfl := h.f10 s_10
              go_simp
              have h1 := h.grow ((Below.refl _ W).alloc (Nat.le_refl _) (.cells #[.string (X1 ++ X2)] 9))
              exact hK _ _ ⟨x24, x25, x26, x27, x28, x29, x30, x31, x32, x33, _, _, rfl, ⟨h1.e, h1.f0, h1.f1, h1.f2, h1.f3, h1.f4, h1.f5, h1.f6, h1.f7, h1.f8, h1.f9, h1.f10, fun _ => ⟨W.heap.size, rfl, h.e.size, by simp, World.alloc_heap_new W _⟩⟩⟩
          · rintro S aa W hall ⟨x24, x25, x26, x27, x28, x29, x30, x31, x32, x33, x34, x35, rfl, h⟩
            obtain rfl := h.f0 (hall 0 (by decide))
            obtain rfl := h.f1 (hall 1 (by decide))
            obtain rfl := h.f2 (hall 2 (by decide))
            obtain rfl := h.f3 (hall 3 (by decide))
            obtain rfl := h.f4 (hall 4 (by decide))
            obtain rfl := h.f5 (hall 5 (by decide))
            obtain rfl := h.f6 (hall 6 (by decide))
            obtain rfl := h.f7 (hall 7 (by decide))
            obtain rfl := h.f8 (hall 8 (by decide))
            obtain rfl := h.f9 (hall 9 (by decide))
            obtain rfl := h.f10 (hall 10 (by decide))
            obtain ⟨gg, rfl, hgg, hhg, hcg⟩ := h.f11 (hall 11 (by decide))
            have BWD := h.e
            clear h hall
            simp only [List.drop_succ_cons, List.drop_zero]
            have hown2 := owns_below8 hown BWD
            have hzW : z ≤ W.heap.size := Nat.le_trans hzw BWD.size
            have BW2 := belowStep BW hzw BWD
            have hbW : b1 < W.heap.size := Nat.lt_of_lt_of_le hb1 BWD.size
            have hsl2 : slS W.heap.size W (some ⟨b1, o1, none⟩) (lvA xs D k) := by
              rcases hsl with e | ⟨b', o', e1, e2, e3⟩
              · exact .inl e
              · exact .inr ⟨b', o', e1, Nat.lt_of_lt_of_le e2 BWD.size, fun j x hx => (BWD.cell (p := ⟨b', o' + j, none⟩) e2).trans (e3 j x hx)⟩
            have HV : Hid (_ ∧ _ ∧ _) := ⟨hown2, hcg, hsl2⟩
            clear hown BW BWD hown2 hcg c1 c2 hsl hsl2
            go_wp2_with (at_builtin; refine z_wpList_append_where _ rfl _ _ 27 rfl z 9 i0 _ 1 16 Tryd.underlying27 hi0 hz0 hz1 hz2 rfl (by decide) _ _ _ rfl HV.out.1 ⟨gg, 0, none⟩ 1 1 [.string (X1 ++ X2)] rfl rfl (by intro j u hj; rw [Addr.add_lit, Lib.cell_of_heap HV.out.2.1, Nat.zero_add]; simpa using hj) (by intro u hu; simp at hu; subst hu; rfl) (by unfold maxLen; omega) (by omega) hzW (by decide) ?_)
            intro v5 w5 hown5 hgrow5 hiff hwh
            have HW : Hid (_ ∧ _ ∧ _) := ⟨hown5, hgrow5, hwh⟩
            clear hown5 hgrow5 hiff hwh
            go_wp2
            go_roundg (gk - 1)
            case measure => omega
            case rel =>
              obtain ⟨hown5, hgrow5, hwh⟩ := HW.out
              refine ⟨m + 1, by omega, by have := HP2.out; first | rfl | (congr 1; omega), BW2.grown hgrow5 hzW (fun b hb => hr3 b hb), Nat.le_trans hzW hgrow5.size, ?_, ?_, ?_⟩
              · rw [map_snoc, HLF.out]
                exact hown5
              · rcases HV.out.2.2 with e | ⟨b', o', e1, e2, e3⟩
                · exact .inl e
                · cases e1
                  exact .inr ⟨_, _, rfl, Nat.lt_of_lt_of_le hbW hgrow5.size, fun j x hx => (World.cell?_of_block (w := W) (hgrow5.block _ hbW (fun e => hNB e.symm))).trans (e3 j x hx)⟩
              · intro b hb b' o' he e
                cases he
                subst e
                rcases hwh with h | ⟨g, h, hg⟩
                · rw [hb] at h
                  exact hNB h.symm
                · rw [hb] at h
                  cases h
                  omega
        · have lm : ¬ (p : Int) < M := by omega
          have hm2 : m = M / 2 := by omega
          have hL : smL xs D k = (List.range m).map fun t => lf (lvs xs) k (2 * t) ++ lf (lvs xs) k (2 * t + 1) := by
            unfold smL
            rw [HM.out, hm2]
          have hln : (smA xs D (k + 1)).length = S + m := by
            show (smA xs D k ++ smL xs D k).length = _
            rw [List.length_append, HS.out, hL, List.length_map, List.length_range]
          have hmp : (smA xs D (k + 1)).map Value.string = ys ++ (List.range m).map fun t => .string (lf (lvs xs) k (2 * t) ++ lf (lvs xs) k (2 * t + 1)) := by
            show (smA xs D k ++ smL xs D k).map Value.string = _
            rw [List.map_append, HYS.out, hL, List.map_map]
            rfl
          rw [← hln, ← hmp] at hown
          have HF : Hid (_ ∧ _ ∧ _) := ⟨hown, BW, hzw⟩
          clear hown BW hsl hmp hln hL
          go_wp2
          go_roundg (g0 - 1)
          case measure => omega
          case rel => exact ⟨k + 1, by omega, by first | rfl | (congr 1; omega), HF.out.2.1, HF.out.2.2, HF.out.1⟩
    · obtain rfl : k = D := by omega
      have lk : ¬ (k : Int) < k := by omega
      have HF : Hid (_ ∧ _) := ⟨hown, BW⟩
      clear hown BW
      go_wp2
      go_ret
      exact ⟨⟨_, rfl, HF.out.1⟩, HF.out.2⟩
end Go.Proofs.YtmefanagpkbjeabDoor
namespace Go.Proofs.YtmefanagpkbjeabDoor
open Go.RowKit Go.Shelf Go.Sort

theorem run_append_list (W : World) (ty : TypeId) (z : Nat) (v : Value) (k : Nat) (ys : List Value) (hown : W.ownsRow z 9 1 v k ys) (xs : List ByteArray) (a : Option Addr) (m c n : Nat) (hm : xs.length = m) (hs : slS n W a xs) (hk : k ≤ 1000000) (hl : m ≤ 1000000) (hz : z ≤ W.heap.size) :
    ∃ v' w', (Builtin.append_ #[27, 27] ty #[v, .slice a m c]).run Tryd.prog W = .ok v' w' ∧ w'.ownsRow z 9 1 v' (k + m) (ys ++ xs.map .string) ∧ W.grownBy w' v.ownBlock := by
  obtain ⟨i0, hi0, hz0, hz1, hz2⟩ := info_parts info_str8
  subst hm
  rcases hs with e | ⟨b, off, rfl, hb, hcl⟩
  · subst e
    obtain ⟨a1, c1, rfl⟩ := owns_slice hown
    exact ⟨_, _, run_append_zero W 27 ty 9 i0 Tryd.underlying27 hi0 a1 k c1 (owns_cap hown) a c, by rw [List.map_nil, List.append_nil]; exact hown, ⟨rfl, rfl, rfl, Nat.le_refl _, fun _ _ _ => rfl⟩⟩
  · obtain ⟨v', w', h1, h2, h3, _⟩ := run_append_own (P := Tryd.prog) W z 27 ty 9 i0 (.string ⟨#[]⟩) 1 16 Tryd.underlying27 hi0 hz0 hz1 hz2 rfl (by decide) v k ys hown ⟨b, off, none⟩ xs.length c (xs.map .string) (by rw [List.length_map, Nat.mul_one]) (fun j u hu => by
      rw [Addr.add_mid]
      rw [List.getElem?_map] at hu
      cases hxj : xs[j]? with
      | none => rw [hxj] at hu; cases hu
      | some y =>
        rw [hxj] at hu
        cases hu
        exact hcl j y hxj) (fun u hu => by
      obtain ⟨y, _, rfl⟩ := List.mem_map.1 hu
      rfl) (by unfold maxLen; omega) (by omega) hz
    exact ⟨v', w', h1, h2, h3⟩
/-- An append behind a guard that holds. -/
theorem wpList_append_wanted {P : Program} {w : World} {ops : Array Oper} {rest : List Oper} {o : Oper} {a : Act} {Q : Exit → Act → World → Prop} (hw : Region.wanted o (yielded ops a.tmps) = true) (sl x : Operand) (t u : TypeId)
    (ho : o.op = .call { callee := .builtin .append, args := #[sl, x], argTypes := #[t, u] }) (v y v' : Value) (w' : World) (hs : a.eval sl = v) (hx : a.eval x = y)
    (hr : (Builtin.append_ #[t, u] o.type #[v, y]).run P w = .ok v' w') (h : wpList P ops Q rest (a.put o.dst v') w') : wpList P ops Q (o :: rest) a w := by
  refine wpList_step fun K hK => ?_
  rw [if_pos hw]
  unfold Oper.wp execOp
  simp only [ho, resolve, invoke, builtin, Sem.run_bind, Sem.run_pure, Result.andThen_ok, List.map_toArray, List.map_cons, List.map_nil, hs, hx, hr]
  exact hK _ _ h
theorem clB_of {l : List ByteArray} (h : ClashP l) : clB l = true := by
  obtain ⟨s, hs, t, ht, hne, he⟩ := h
  unfold clB
  rw [List.any_eq_true]
  refine ⟨s, hs, ?_⟩
  rw [List.any_eq_true]
  exact ⟨t, ht, decide_eq_true ⟨hne, he⟩⟩
theorem wyF_size (i : Nat) : ∀ (r : List ByteArray) (k : Nat) (x : ByteArray), x.size = 32 → (∀ y ∈ r, y.size = 32) → ∀ s ∈ wyF i k x r, s.size = 64
  | [], _, _, _, _, s, h => by cases h
  | y :: r, k, x, hx, hr, s, h => by
    have hy := hr y List.mem_cons_self
    rw [wyF] at h
    rcases List.mem_cons.1 h with rfl | h'
    · split <;> rw [ByteArray.size_append] <;> omega
    · exact wyF_size i r (k + 1) _ (by split <;> exact hs_size _ _) (fun t ht => hr t (List.mem_cons_of_mem _ ht)) s h'

end Go.Proofs.YtmefanagpkbjeabDoor
namespace Go.Proofs.YtmefanagpkbjeabDoor
open Go.RowKit Go.Shelf Go.Sort

/-- What a root of chunks is told as. -/
def rtS (xs : List ByteArray) (d : Nat) : ByteArray := if rt8 xs d = true then lf (lvs xs) d 0 else ⟨#[]⟩
def rtE (xs : List ByteArray) (d : Nat) : Int := if rt8 xs d = true then 0 else 130
def hdC (s u : Int) (p t b : ByteArray) : List ByteArray := [z_numOf s, z_numOf u, p, t, b]
def exC (a r : ByteArray) (n : Int) : List ByteArray := [a, r, z_numOf n]

set_option maxHeartbeats 1000000 in
theorem rootOf_any (xs : List ByteArray) (d : Nat) (a : Option Addr) (c n : Nat) (w : World) (hl : Laid w) (hn : n ≤ w.heap.size) (hp : slS n w a xs) :
    Calls Tryd.prog 19 #[.int .i64 (d : Int), .slice a xs.length c] w fun e w' => e = .returned (.tuple #[.string (rtS xs d), .int .i64 (rtE xs d)]) ∧ Below w.heap.size w w' := by
  have KR := root_any xs d a c n w hl hn hp
  unfold rootV at KR
  obtain ⟨N, hN⟩ : ∃ N, xs.length = N := ⟨_, rfl⟩
  rw [hN] at KR ⊢
  unfold rtS rtE
  cases hr : rt8 xs d with
  | true =>
    rw [hr, if_pos rfl] at KR
    rw [if_pos rfl, if_pos rfl]
    obtain ⟨s, hs⟩ : ∃ s, lf (lvs xs) d 0 = s := ⟨_, rfl⟩
    rw [Int.toNat_natCast, hs] at KR
    rw [hs]
    clear hs hr
    go_enter Tryd.func19, Tryd.ntmps19
    go_wp2_with fail
    refine KR.mono ?_
    rintro e w1 ⟨rfl, B1⟩
    go_wp2
    go_ret2
    exact ⟨rfl, B1⟩
  | false =>
    rw [hr, if_neg (by decide)] at KR
    rw [if_neg (by decide), if_neg (by decide)]
    clear hr
    go_enter Tryd.func19, Tryd.ntmps19
    go_wp2_with fail
    refine KR.mono ?_
    rintro e w1 ⟨rfl, B1⟩
    go_wp2
    go_ret2
    exact ⟨rfl, B1⟩
/-- What holds while a statement runs. -/
structure Mu_root (V : World) (z : Nat) (v2 s u : Int) (n0 n1 v1 p t b : ByteArray) (S : Nat → Bool) (x4 x5 x6 x7 x8 x9 x10 x11 x12 x13 x14 x15 x16 x17 x18 x19 : Value) (W : World) : Prop where
  e : Below V.heap.size V W
  f0 : S 0 = true → x4 = Value.pointer (some ⟨z, 0, none⟩)
  f1 : S 1 = true → x5 = Value.int .u64 s
  f2 : S 2 = true → x6 = Value.string n0
  f3 : S 3 = true → x7 = Value.pointer (some ⟨z, 1, none⟩)
  f4 : S 4 = true → x8 = Value.int .u64 u
  f5 : S 5 = true → x9 = Value.string n1
  f6 : S 6 = true → x10 = Value.pointer (some ⟨z, 2, none⟩)
  f7 : S 7 = true → x11 = Value.string p
  f8 : S 8 = true → x12 = Value.pointer (some ⟨z, 3, none⟩)
  f9 : S 9 = true → x13 = Value.string t
  f10 : S 10 = true → x14 = Value.pointer (some ⟨z, 4, none⟩)
  f11 : S 11 = true → x15 = Value.string b
  f12 : S 12 = true → ∃ g, x16 = .slice (some ⟨g, 0, none⟩) 5 5 ∧ V.heap.size ≤ g ∧ g < W.heap.size ∧ W.heap[g]? = some (.cells #[.string n0, .string n1, .string p, .string t, .string b] 9 (0, 0))
  f13 : S 13 = true → x17 = Value.tuple #[.string v1, .int .i64 v2]
  f14 : S 14 = true → x18 = Value.string v1
  f15 : S 15 = true → x19 = Value.int .i64 v2
theorem Mu_root.grow {V : World} {z : Nat} {v2 s u : Int} {n0 n1 v1 p t b : ByteArray} {S : Nat → Bool} {x4 x5 x6 x7 x8 x9 x10 x11 x12 x13 x14 x15 x16 x17 x18 x19 : Value} {W W' : World} (h : Mu_root V z v2 s u n0 n1 v1 p t b S x4 x5 x6 x7 x8 x9 x10 x11 x12 x13 x14 x15 x16 x17 x18 x19 W) (hb : Below W.heap.size W W') : Mu_root V z v2 s u n0 n1 v1 p t b S x4 x5 x6 x7 x8 x9 x10 x11 x12 x13 x14 x15 x16 x17 x18 x19 W' :=
  ⟨belowStep h.e h.e.size hb, h.f0, h.f1, h.f2, h.f3, h.f4, h.f5, h.f6, h.f7, h.f8, h.f9, h.f10, h.f11, fun s => (h.f12 s).imp fun _ ⟨j1, j0, j2, j3⟩ => ⟨j1, j0, Nat.lt_of_lt_of_le j2 hb.size, (hb.block _ j2).trans j3⟩, h.f13, h.f14, h.f15⟩
set_option maxRecDepth 100000 in
set_option maxHeartbeats 4000000 in
theorem hroot_any (s u : Int) (p t b : ByteArray) (w : World) (hl : Laid w) :
    Calls Tryd.prog 10 #[.agg #[.int .u64 s, .int .u64 u, .string p, .string t, .string b]] w fun e w' => e = .returned (.tuple #[.string (rtS (hdC s u p t b) 3), .int .i64 (rtE (hdC s u p t b) 3)]) ∧ Below w.heap.size w w' := by
  have A0 : Below w.heap.size w (w.alloc (.cells #[.int .u64 s, .int .u64 u, .string p, .string t, .string b] 24)) := (Below.refl _ w).alloc (Nat.le_refl _) _
  have hx : (w.alloc (.cells #[.int .u64 s, .int .u64 u, .string p, .string t, .string b] 24)).heap[w.heap.size]? = some (.cells #[.int .u64 s, .int .u64 u, .string p, .string t, .string b] 24 (0, 0)) := World.alloc_heap_new w _
  obtain ⟨w1, hw1⟩ : ∃ W, w.alloc (.cells #[.int .u64 s, .int .u64 u, .string p, .string t, .string b] 24) = W := ⟨_, rfl⟩
  rw [hw1] at A0 hx
  obtain ⟨z, hz⟩ : ∃ z, w.heap.size = z := ⟨_, rfl⟩
  have HZ : Hid (w.heap.size = z) := hz
  have hzw : z < w1.heap.size := by rw [← hz]; exact (Array.getElem?_eq_some_iff.1 hx).1
  have hl1 := hl.below A0
  rw [hz] at A0 hx
  have KN0 : ∀ w : World, _ := fun w => z_number_any s w
  obtain ⟨n0, hn0⟩ : ∃ x, z_numOf s = x := ⟨_, rfl⟩
  rw [hn0] at KN0
  have KN1 : ∀ w : World, _ := fun w => z_number_any u w
  obtain ⟨n1, hn1⟩ : ∃ x, z_numOf u = x := ⟨_, rfl⟩
  rw [hn1] at KN1
  obtain ⟨v1, hv1⟩ : ∃ v, rtS (hdC s u p t b) 3 = v := ⟨_, rfl⟩
  obtain ⟨v2, hv2⟩ : ∃ v, rtE (hdC s u p t b) 3 = v := ⟨_, rfl⟩
  rw [hv1, hv2]
  have KR : ∀ (g : Nat) (W : World), Laid W → W.heap[g]? = some (.cells #[.string n0, .string n1, .string p, .string t, .string b] 9 (0, 0)) → Calls Tryd.prog 19 #[.int .i64 (3 : Nat), .slice (some ⟨g, 0, none⟩) 5 5] W fun e w' => e = .returned (.tuple #[.string v1, .int .i64 v2]) ∧ Below W.heap.size W w' := fun g W hL hg => by
    have := rootOf_any (hdC s u p t b) 3 (some ⟨g, 0, none⟩) 5 (g + 1) W hL (Array.getElem?_eq_some_iff.1 hg).1 (.inr ⟨_, _, rfl, by omega, fun j x hj => by
      rw [Lib.cell_of_heap hg, Nat.zero_add]
      unfold hdC at hj
      rw [hn0, hn1] at hj
      match j, hj with
      | 0, hj => cases hj; rfl
      | 1, hj => cases hj; rfl
      | 2, hj => cases hj; rfl
      | 3, hj => cases hj; rfl
      | 4, hj => cases hj; rfl
      | j + 5, hj => simp at hj⟩)
    rw [hv1, hv2] at this
    exact this
  have c0 : w1.cell? ⟨z, 0, none⟩ = some (.int .u64 s) := by rw [Lib.cell_of_heap hx]; rfl
  have c1 : w1.cell? ⟨z, 1, none⟩ = some (.int .u64 u) := by rw [Lib.cell_of_heap hx]; rfl
  have c2 : w1.cell? ⟨z, 2, none⟩ = some (.string p) := by rw [Lib.cell_of_heap hx]; rfl
  have c3 : w1.cell? ⟨z, 3, none⟩ = some (.string t) := by rw [Lib.cell_of_heap hx]; rfl
  have c4 : w1.cell? ⟨z, 4, none⟩ = some (.string b) := by rw [Lib.cell_of_heap hx]; rfl
  clear hx hn0 hn1 hv1 hv2
  go_enter Tryd.func10, Tryd.ntmps10
  go_wp2_with fail
  refine region_inv_tail 16 (fun S aa W => ∃ x4 x5 x6 x7 x8 x9 x10 x11 x12 x13 x14 x15 x16 x17 x18 x19 : Value, aa = { tmps := #[Value.agg #[Value.int IntKind.u64 s, Value.int IntKind.u64 u, Value.string p, Value.string t, Value.string b], Value.pointer (some { block := z, off := 0 }), Value.string { data := #[] }, Value.int IntKind.i64 0, x4, x5, x6, x7, x8, x9, x10, x11, x12, x13, x14, x15, x16, x17, x18, x19], defers := [] } ∧ Mu_root w1 z v2 s u n0 n1 v1 p t b S x4 x5 x6 x7 x8 x9 x10 x11 x12 x13 x14 x15 x16 x17 x18 x19 W) (by kernel_rfl) (by kernel_rfl) ?_ ?_ ?_
  · exact ⟨undef, undef, undef, undef, undef, undef, undef, undef, undef, undef, undef, undef, undef, undef, undef, undef, rfl, ⟨(Below.refl _ w1).drew, nofun, nofun, nofun, nofun, nofun, nofun, nofun, nofun, nofun, nofun, nofun, nofun, nofun, nofun, nofun, nofun⟩⟩
  · intro i o S aa W hin hi hun hJ hall K hK
    obtain ⟨x4, x5, x6, x7, x8, x9, x10, x11, x12, x13, x14, x15, x16, x17, x18, x19, rfl, h⟩ := hJ
    have hlt : i < 16 := hin
    have hcase : i = 0 ∨ i = 1 ∨ i = 2 ∨ i = 3 ∨ i = 4 ∨ i = 5 ∨ i = 6 ∨ i = 7 ∨ i = 8 ∨ i = 9 ∨ i = 10 ∨ i = 11 ∨ i = 12 ∨ i = 13 ∨ i = 14 ∨ i = 15 := by omega
    rcases hcase with rfl | rfl | rfl | rfl | rfl | rfl | rfl | rfl | rfl | rfl | rfl | rfl | rfl | rfl | rfl | rfl
    all_goals (have ho := (Option.some.inj hi).symm; subst ho; clear hi hlt hin)
    · go_simp
      exact hK _ _ ⟨_, x5, x6, x7, x8, x9, x10, x11, x12, x13, x14, x15, x16, x17, x18, x19, rfl, ⟨h.e, fun _ => rfl, h.f1, h.f2, h.f3, h.f4, h.f5, h.f6, h.f7, h.f8, h.f9, h.f10, h.f11, h.f12, h.f13, h.f14, h.f15⟩⟩
    · have s_0 : S 0 = true := hall ⟨0, .data⟩ (by simp) rfl
      obtain rfl := h.f0 s_0
      have cW := (h.e.cell (p := ⟨z, 0, none⟩) hzw).trans c0
      go_simp
      exact hK _ _ ⟨_, _, x6, x7, x8, x9, x10, x11, x12, x13, x14, x15, x16, x17, x18, x19, rfl, ⟨h.e, h.f0, fun _ => rfl, h.f2, h.f3, h.f4, h.f5, h.f6, h.f7, h.f8, h.f9, h.f10, h.f11, h.f12, h.f13, h.f14, h.f15⟩⟩
    · have s_1 : S 1 = true := hall ⟨1, .data⟩ (by simp) rfl
      obtain rfl := h.f1 s_1
      go_simp
      refine (KN0 W).mono ?_
      rintro e w5 ⟨rfl, hb5⟩
      have h1 := h.grow hb5
      exact hK _ _ ⟨x4, _, _, x7, x8, x9, x10, x11, x12, x13, x14, x15, x16, x17, x18, x19, rfl, ⟨h1.e, h1.f0, h1.f1, fun _ => rfl, h1.f3, h1.f4, h1.f5, h1.f6, h1.f7, h1.f8, h1.f9, h1.f10, h1.f11, h1.f12, h1.f13, h1.f14, h1.f15⟩⟩
    · go_simp
      exact hK _ _ ⟨x4, x5, x6, _, x8, x9, x10, x11, x12, x13, x14, x15, x16, x17, x18, x19, rfl, ⟨h.e, h.f0, h.f1, h.f2, fun _ => rfl, h.f4, h.f5, h.f6, h.f7, h.f8, h.f9, h.f10, h.f11, h.f12, h.f13, h.f14, h.f15⟩⟩
    · have s_3 : S 3 = true := hall ⟨3, .data⟩ (by simp) rfl
      obtain rfl := h.f3 s_3
      have cW := (h.e.cell (p := ⟨z, 1, none⟩) hzw).trans c1
      go_simp
      exact hK _ _ ⟨x4, x5, x6, _, _, x9, x10, x11, x12, x13, x14, x15, x16, x17, x18, x19, rfl, ⟨h.e, h.f0, h.f1, h.f2, h.f3, fun _ => rfl, h.f5, h.f6, h.f7, h.f8, h.f9, h.f10, h.f11, h.f12, h.f13, h.f14, h.f15⟩⟩
    · have s_4 : S 4 = true := hall ⟨4, .data⟩ (by simp) rfl
      obtain rfl := h.f4 s_4
      go_simp
      refine (KN1 W).mono ?_
      rintro e w5 ⟨rfl, hb5⟩
      have h1 := h.grow hb5
      exact hK _ _ ⟨x4, x5, x6, x7, _, _, x10, x11, x12, x13, x14, x15, x16, x17, x18, x19, rfl, ⟨h1.e, h1.f0, h1.f1, h1.f2, h1.f3, h1.f4, fun _ => rfl, h1.f6, h1.f7, h1.f8, h1.f9, h1.f10, h1.f11, h1.f12, h1.f13, h1.f14, h1.f15⟩⟩
    · go_simp
      exact hK _ _ ⟨x4, x5, x6, x7, x8, x9, _, x11, x12, x13, x14, x15, x16, x17, x18, x19, rfl, ⟨h.e, h.f0, h.f1, h.f2, h.f3, h.f4, h.f5, fun _ => rfl, h.f7, h.f8, h.f9, h.f10, h.f11, h.f12, h.f13, h.f14, h.f15⟩⟩
    · have s_6 : S 6 = true := hall ⟨6, .data⟩ (by simp) rfl
      obtain rfl := h.f6 s_6
      have cW := (h.e.cell (p := ⟨z, 2, none⟩) hzw).trans c2
      go_simp
      exact hK _ _ ⟨x4, x5, x6, x7, x8, x9, _, _, x12, x13, x14, x15, x16, x17, x18, x19, rfl, ⟨h.e, h.f0, h.f1, h.f2, h.f3, h.f4, h.f5, h.f6, fun _ => rfl, h.f8, h.f9, h.f10, h.f11, h.f12, h.f13, h.f14, h.f15⟩⟩
    · go_simp
      exact hK _ _ ⟨x4, x5, x6, x7, x8, x9, x10, x11, _, x13, x14, x15, x16, x17, x18, x19, rfl, ⟨h.e, h.f0, h.f1, h.f2, h.f3, h.f4, h.f5, h.f6, h.f7, fun _ => rfl, h.f9, h.f10, h.f11, h.f12, h.f13, h.f14, h.f15⟩⟩
    · have s_8 : S 8 = true := hall ⟨8, .data⟩ (by simp) rfl
      obtain rfl := h.f8 s_8
      have cW := (h.e.cell (p := ⟨z, 3, none⟩) hzw).trans c3
      go_simp
      exact hK _ _ ⟨x4, x5, x6, x7, x8, x9, x10, x11, _, _, x14, x15, x16, x17, x18, x19, rfl, ⟨h.e, h.f0, h.f1, h.f2, h.f3, h.f4, h.f5, h.f6, h.f7, h.f8, fun _ => rfl, h.f10, h.f11, h.f12, h.f13, h.f14, h.f15⟩⟩
    · go_simp
      exact hK _ _ ⟨x4, x5, x6, x7, x8, x9, x10, x11, x12, x13, _, x15, x16, x17, x18, x19, rfl, ⟨h.e, h.f0, h.f1, h.f2, h.f3, h.f4, h.f5, h.f6, h.f7, h.f8, h.f9, fun _ => rfl, h.f11, h.f12, h.f13, h.f14, h.f15⟩⟩
    · have s_10 : S 10 = true := hall ⟨10, .data⟩ (by simp) rfl
      obtain rfl := h.f10 s_10
      have cW := (h.e.cell (p := ⟨z, 4, none⟩) hzw).trans c4
      go_simp
      exact hK _ _ ⟨x4, x5, x6, x7, x8, x9, x10, x11, x12, x13, _, _, x16, x17, x18, x19, rfl, ⟨h.e, h.f0, h.f1, h.f2, h.f3, h.f4, h.f5, h.f6, h.f7, h.f8, h.f9, h.f10, fun _ => rfl, h.f12, h.f13, h.f14, h.f15⟩⟩
    · have s_2 : S 2 = true := hall ⟨2, .data⟩ (by simp) rfl
      obtain rfl := h.f2 s_2
      have s_5 : S 5 = true := hall ⟨5, .data⟩ (by simp) rfl
      obtain rfl := h.f5 s_5
      have s_7 : S 7 = true := hall ⟨7, .data⟩ (by simp) rfl
      obtain rfl := h.f7 s_7
      have s_9 : S 9 = true := hall ⟨9, .data⟩ (by simp) rfl
      obtain rfl := h.f9 s_9
      have s_11 : S 11 = true := hall ⟨11, .data⟩ (by simp) rfl
      obtain rfl := h.f11 s_11
      go_simp
      have h1 := h.grow ((Below.refl _ W).alloc (Nat.le_refl _) (.cells #[.string n0, .string n1, .string p, .string t, .string b] 9))
      exact hK _ _ ⟨x4, x5, _, x7, x8, _, x10, _, x12, _, x14, _, _, x17, x18, x19, rfl, ⟨h1.e, h1.f0, h1.f1, h1.f2, h1.f3, h1.f4, h1.f5, h1.f6, h1.f7, h1.f8, h1.f9, h1.f10, h1.f11, fun _ => ⟨W.heap.size, rfl, h.e.size, by simp, World.alloc_heap_new W _⟩, h1.f13, h1.f14, h1.f15⟩⟩
    · have s_12 : S 12 = true := hall ⟨12, .data⟩ (by simp) rfl
      obtain ⟨g12, rfl, hg12, hh12, hc12⟩ := h.f12 s_12
      go_simp
      refine (KR g12 W (hl1.below h.e) hc12).mono ?_
      rintro e w5 ⟨rfl, hb5⟩
      have h1 := h.grow hb5
      exact hK _ _ ⟨x4, x5, x6, x7, x8, x9, x10, x11, x12, x13, x14, x15, _, _, x18, x19, rfl, ⟨h1.e, h1.f0, h1.f1, h1.f2, h1.f3, h1.f4, h1.f5, h1.f6, h1.f7, h1.f8, h1.f9, h1.f10, h1.f11, h1.f12, fun _ => rfl, h1.f14, h1.f15⟩⟩
    · have s_13 : S 13 = true := hall ⟨13, .data⟩ (by simp) rfl
      obtain rfl := h.f13 s_13
      go_simp
      exact hK _ _ ⟨x4, x5, x6, x7, x8, x9, x10, x11, x12, x13, x14, x15, x16, _, _, x19, rfl, ⟨h.e, h.f0, h.f1, h.f2, h.f3, h.f4, h.f5, h.f6, h.f7, h.f8, h.f9, h.f10, h.f11, h.f12, h.f13, fun _ => rfl, h.f15⟩⟩
    · have s_13 : S 13 = true := hall ⟨13, .data⟩ (by simp) rfl
      obtain rfl := h.f13 s_13
      go_simp
      exact hK _ _ ⟨x4, x5, x6, x7, x8, x9, x10, x11, x12, x13, x14, x15, x16, _, x18, _, rfl, ⟨h.e, h.f0, h.f1, h.f2, h.f3, h.f4, h.f5, h.f6, h.f7, h.f8, h.f9, h.f10, h.f11, h.f12, h.f13, h.f14, fun _ => rfl⟩⟩
  · rintro S aa W hall ⟨x4, x5, x6, x7, x8, x9, x10, x11, x12, x13, x14, x15, x16, x17, x18, x19, rfl, h⟩
    obtain rfl := h.f0 (hall 0 (by decide))
    obtain rfl := h.f1 (hall 1 (by decide))
    obtain rfl := h.f2 (hall 2 (by decide))
    obtain rfl := h.f3 (hall 3 (by decide))
    obtain rfl := h.f4 (hall 4 (by decide))
    obtain rfl := h.f5 (hall 5 (by decide))
    obtain rfl := h.f6 (hall 6 (by decide))
    obtain rfl := h.f7 (hall 7 (by decide))
    obtain rfl := h.f8 (hall 8 (by decide))
    obtain rfl := h.f9 (hall 9 (by decide))
    obtain rfl := h.f10 (hall 10 (by decide))
    obtain rfl := h.f11 (hall 11 (by decide))
    obtain ⟨gg, rfl, hgg, hhg, hcg⟩ := h.f12 (hall 12 (by decide))
    obtain rfl := h.f13 (hall 13 (by decide))
    obtain rfl := h.f14 (hall 14 (by decide))
    obtain rfl := h.f15 (hall 15 (by decide))
    have BWD := h.e
    clear h hall
    simp only [List.drop_succ_cons, List.drop_zero]
    have B8 := A0.trans (BWD.mono (by omega))
    have HX : Hid _ := B8
    clear B8 BWD A0 hcg hgg hhg
    go_wp2
    go_ret2
    refine ⟨rfl, ?_⟩
    rw [HZ.out]
    exact HX.out
/-- What holds while a statement runs. -/
structure Mu_exec (V : World) (z : Nat) (v2 s : Int) (n0 v1 p t : ByteArray) (S : Nat → Bool) (x4 x5 x6 x7 x8 x9 x10 x11 x12 x13 x14 : Value) (W : World) : Prop where
  e : Below V.heap.size V W
  f0 : S 0 = true → x4 = Value.pointer (some ⟨z, 0, none⟩)
  f1 : S 1 = true → x5 = Value.string p
  f2 : S 2 = true → x6 = Value.pointer (some ⟨z, 1, none⟩)
  f3 : S 3 = true → x7 = Value.string t
  f4 : S 4 = true → x8 = Value.pointer (some ⟨z, 2, none⟩)
  f5 : S 5 = true → x9 = Value.int .u64 s
  f6 : S 6 = true → x10 = Value.string n0
  f7 : S 7 = true → ∃ g, x11 = .slice (some ⟨g, 0, none⟩) 3 3 ∧ V.heap.size ≤ g ∧ g < W.heap.size ∧ W.heap[g]? = some (.cells #[.string p, .string t, .string n0] 9 (0, 0))
  f8 : S 8 = true → x12 = Value.tuple #[.string v1, .int .i64 v2]
  f9 : S 9 = true → x13 = Value.string v1
  f10 : S 10 = true → x14 = Value.int .i64 v2
theorem Mu_exec.grow {V : World} {z : Nat} {v2 s : Int} {n0 v1 p t : ByteArray} {S : Nat → Bool} {x4 x5 x6 x7 x8 x9 x10 x11 x12 x13 x14 : Value} {W W' : World} (h : Mu_exec V z v2 s n0 v1 p t S x4 x5 x6 x7 x8 x9 x10 x11 x12 x13 x14 W) (hb : Below W.heap.size W W') : Mu_exec V z v2 s n0 v1 p t S x4 x5 x6 x7 x8 x9 x10 x11 x12 x13 x14 W' :=
  ⟨belowStep h.e h.e.size hb, h.f0, h.f1, h.f2, h.f3, h.f4, h.f5, h.f6, fun s => (h.f7 s).imp fun _ ⟨j1, j0, j2, j3⟩ => ⟨j1, j0, Nat.lt_of_lt_of_le j2 hb.size, (hb.block _ j2).trans j3⟩, h.f8, h.f9, h.f10⟩
set_option maxRecDepth 100000 in
set_option maxHeartbeats 4000000 in
theorem xroot_any (p t : ByteArray) (s : Int) (w : World) (hl : Laid w) :
    Calls Tryd.prog 13 #[.agg #[.string p, .string t, .int .u64 s]] w fun e w' => e = .returned (.tuple #[.string (rtS (exC p t s) 2), .int .i64 (rtE (exC p t s) 2)]) ∧ Below w.heap.size w w' := by
  have A0 : Below w.heap.size w (w.alloc (.cells #[.string p, .string t, .int .u64 s] 26)) := (Below.refl _ w).alloc (Nat.le_refl _) _
  have hx : (w.alloc (.cells #[.string p, .string t, .int .u64 s] 26)).heap[w.heap.size]? = some (.cells #[.string p, .string t, .int .u64 s] 26 (0, 0)) := World.alloc_heap_new w _
  obtain ⟨w1, hw1⟩ : ∃ W, w.alloc (.cells #[.string p, .string t, .int .u64 s] 26) = W := ⟨_, rfl⟩
  rw [hw1] at A0 hx
  obtain ⟨z, hz⟩ : ∃ z, w.heap.size = z := ⟨_, rfl⟩
  have HZ : Hid (w.heap.size = z) := hz
  have hzw : z < w1.heap.size := by rw [← hz]; exact (Array.getElem?_eq_some_iff.1 hx).1
  have hl1 := hl.below A0
  rw [hz] at A0 hx
  have KN0 : ∀ w : World, _ := fun w => z_number_any s w
  obtain ⟨n0, hn0⟩ : ∃ x, z_numOf s = x := ⟨_, rfl⟩
  rw [hn0] at KN0
  obtain ⟨v1, hv1⟩ : ∃ v, rtS (exC p t s) 2 = v := ⟨_, rfl⟩
  obtain ⟨v2, hv2⟩ : ∃ v, rtE (exC p t s) 2 = v := ⟨_, rfl⟩
  rw [hv1, hv2]
  have KR : ∀ (g : Nat) (W : World), Laid W → W.heap[g]? = some (.cells #[.string p, .string t, .string n0] 9 (0, 0)) → Calls Tryd.prog 19 #[.int .i64 (2 : Nat), .slice (some ⟨g, 0, none⟩) 3 3] W fun e w' => e = .returned (.tuple #[.string v1, .int .i64 v2]) ∧ Below W.heap.size W w' := fun g W hL hg => by
    have := rootOf_any (exC p t s) 2 (some ⟨g, 0, none⟩) 3 (g + 1) W hL (Array.getElem?_eq_some_iff.1 hg).1 (.inr ⟨_, _, rfl, by omega, fun j x hj => by
      rw [Lib.cell_of_heap hg, Nat.zero_add]
      unfold exC at hj
      rw [hn0] at hj
      match j, hj with
      | 0, hj => cases hj; rfl
      | 1, hj => cases hj; rfl
      | 2, hj => cases hj; rfl
      | j + 3, hj => simp at hj⟩)
    rw [hv1, hv2] at this
    exact this
  have c0 : w1.cell? ⟨z, 0, none⟩ = some (.string p) := by rw [Lib.cell_of_heap hx]; rfl
  have c1 : w1.cell? ⟨z, 1, none⟩ = some (.string t) := by rw [Lib.cell_of_heap hx]; rfl
  have c2 : w1.cell? ⟨z, 2, none⟩ = some (.int .u64 s) := by rw [Lib.cell_of_heap hx]; rfl
  clear hx hn0 hv1 hv2
  go_enter Tryd.func13, Tryd.ntmps13
  go_wp2_with fail
  refine region_inv_tail 11 (fun S aa W => ∃ x4 x5 x6 x7 x8 x9 x10 x11 x12 x13 x14 : Value, aa = { tmps := #[Value.agg #[Value.string p, Value.string t, Value.int IntKind.u64 s], Value.pointer (some { block := z, off := 0 }), Value.string { data := #[] }, Value.int IntKind.i64 0, x4, x5, x6, x7, x8, x9, x10, x11, x12, x13, x14], defers := [] } ∧ Mu_exec w1 z v2 s n0 v1 p t S x4 x5 x6 x7 x8 x9 x10 x11 x12 x13 x14 W) (by kernel_rfl) (by kernel_rfl) ?_ ?_ ?_
  · exact ⟨undef, undef, undef, undef, undef, undef, undef, undef, undef, undef, undef, rfl, ⟨(Below.refl _ w1).drew, nofun, nofun, nofun, nofun, nofun, nofun, nofun, nofun, nofun, nofun, nofun⟩⟩
  · intro i o S aa W hin hi hun hJ hall K hK
    obtain ⟨x4, x5, x6, x7, x8, x9, x10, x11, x12, x13, x14, rfl, h⟩ := hJ
    have hlt : i < 11 := hin
    have hcase : i = 0 ∨ i = 1 ∨ i = 2 ∨ i = 3 ∨ i = 4 ∨ i = 5 ∨ i = 6 ∨ i = 7 ∨ i = 8 ∨ i = 9 ∨ i = 10 := by omega
    rcases hcase with rfl | rfl | rfl | rfl | rfl | rfl | rfl | rfl | rfl | rfl | rfl
    all_goals (have ho := (Option.some.inj hi).symm; subst ho; clear hi hlt hin)
    · go_simp
      exact hK _ _ ⟨_, x5, x6, x7, x8, x9, x10, x11, x12, x13, x14, rfl, ⟨h.e, fun _ => rfl, h.f1, h.f2, h.f3, h.f4, h.f5, h.f6, h.f7, h.f8, h.f9, h.f10⟩⟩
    · have s_0 : S 0 = true := hall ⟨0, .data⟩ (by simp) rfl
      obtain rfl := h.f0 s_0
      have cW := (h.e.cell (p := ⟨z, 0, none⟩) hzw).trans c0
      go_simp
      exact hK _ _ ⟨_, _, x6, x7, x8, x9, x10, x11, x12, x13, x14, rfl, ⟨h.e, h.f0, fun _ => rfl, h.f2, h.f3, h.f4, h.f5, h.f6, h.f7, h.f8, h.f9, h.f10⟩⟩
    · go_simp
      exact hK _ _ ⟨x4, x5, _, x7, x8, x9, x10, x11, x12, x13, x14, rfl, ⟨h.e, h.f0, h.f1, fun _ => rfl, h.f3, h.f4, h.f5, h.f6, h.f7, h.f8, h.f9, h.f10⟩⟩
    · have s_2 : S 2 = true := hall ⟨2, .data⟩ (by simp) rfl
      obtain rfl := h.f2 s_2
      have cW := (h.e.cell (p := ⟨z, 1, none⟩) hzw).trans c1
      go_simp
      exact hK _ _ ⟨x4, x5, _, _, x8, x9, x10, x11, x12, x13, x14, rfl, ⟨h.e, h.f0, h.f1, h.f2, fun _ => rfl, h.f4, h.f5, h.f6, h.f7, h.f8, h.f9, h.f10⟩⟩
    · go_simp
      exact hK _ _ ⟨x4, x5, x6, x7, _, x9, x10, x11, x12, x13, x14, rfl, ⟨h.e, h.f0, h.f1, h.f2, h.f3, fun _ => rfl, h.f5, h.f6, h.f7, h.f8, h.f9, h.f10⟩⟩
    · have s_4 : S 4 = true := hall ⟨4, .data⟩ (by simp) rfl
      obtain rfl := h.f4 s_4
      have cW := (h.e.cell (p := ⟨z, 2, none⟩) hzw).trans c2
      go_simp
      exact hK _ _ ⟨x4, x5, x6, x7, _, _, x10, x11, x12, x13, x14, rfl, ⟨h.e, h.f0, h.f1, h.f2, h.f3, h.f4, fun _ => rfl, h.f6, h.f7, h.f8, h.f9, h.f10⟩⟩
    · have s_5 : S 5 = true := hall ⟨5, .data⟩ (by simp) rfl
      obtain rfl := h.f5 s_5
      go_simp
      refine (KN0 W).mono ?_
      rintro e w5 ⟨rfl, hb5⟩
      have h1 := h.grow hb5
      exact hK _ _ ⟨x4, x5, x6, x7, x8, _, _, x11, x12, x13, x14, rfl, ⟨h1.e, h1.f0, h1.f1, h1.f2, h1.f3, h1.f4, h1.f5, fun _ => rfl, h1.f7, h1.f8, h1.f9, h1.f10⟩⟩
    · have s_1 : S 1 = true := hall ⟨1, .data⟩ (by simp) rfl
      obtain rfl := h.f1 s_1
      have s_3 : S 3 = true := hall ⟨3, .data⟩ (by simp) rfl
      obtain rfl := h.f3 s_3
      have s_6 : S 6 = true := hall ⟨6, .data⟩ (by simp) rfl
      obtain rfl := h.f6 s_6
      go_simp
      have h1 := h.grow ((Below.refl _ W).alloc (Nat.le_refl _) (.cells #[.string p, .string t, .string n0] 9))
      exact hK _ _ ⟨x4, _, x6, _, x8, x9, _, _, x12, x13, x14, rfl, ⟨h1.e, h1.f0, h1.f1, h1.f2, h1.f3, h1.f4, h1.f5, h1.f6, fun _ => ⟨W.heap.size, rfl, h.e.size, by simp, World.alloc_heap_new W _⟩, h1.f8, h1.f9, h1.f10⟩⟩
    · have s_7 : S 7 = true := hall ⟨7, .data⟩ (by simp) rfl
      obtain ⟨g7, rfl, hg7, hh7, hc7⟩ := h.f7 s_7
      go_simp
      refine (KR g7 W (hl1.below h.e) hc7).mono ?_
      rintro e w5 ⟨rfl, hb5⟩
      have h1 := h.grow hb5
      exact hK _ _ ⟨x4, x5, x6, x7, x8, x9, x10, _, _, x13, x14, rfl, ⟨h1.e, h1.f0, h1.f1, h1.f2, h1.f3, h1.f4, h1.f5, h1.f6, h1.f7, fun _ => rfl, h1.f9, h1.f10⟩⟩
    · have s_8 : S 8 = true := hall ⟨8, .data⟩ (by simp) rfl
      obtain rfl := h.f8 s_8
      go_simp
      exact hK _ _ ⟨x4, x5, x6, x7, x8, x9, x10, x11, _, _, x14, rfl, ⟨h.e, h.f0, h.f1, h.f2, h.f3, h.f4, h.f5, h.f6, h.f7, h.f8, fun _ => rfl, h.f10⟩⟩
    · have s_8 : S 8 = true := hall ⟨8, .data⟩ (by simp) rfl
      obtain rfl := h.f8 s_8
      go_simp
      exact hK _ _ ⟨x4, x5, x6, x7, x8, x9, x10, x11, _, x13, _, rfl, ⟨h.e, h.f0, h.f1, h.f2, h.f3, h.f4, h.f5, h.f6, h.f7, h.f8, h.f9, fun _ => rfl⟩⟩
  · rintro S aa W hall ⟨x4, x5, x6, x7, x8, x9, x10, x11, x12, x13, x14, rfl, h⟩
    obtain rfl := h.f0 (hall 0 (by decide))
    obtain rfl := h.f1 (hall 1 (by decide))
    obtain rfl := h.f2 (hall 2 (by decide))
    obtain rfl := h.f3 (hall 3 (by decide))
    obtain rfl := h.f4 (hall 4 (by decide))
    obtain rfl := h.f5 (hall 5 (by decide))
    obtain rfl := h.f6 (hall 6 (by decide))
    obtain ⟨gg, rfl, hgg, hhg, hcg⟩ := h.f7 (hall 7 (by decide))
    obtain rfl := h.f8 (hall 8 (by decide))
    obtain rfl := h.f9 (hall 9 (by decide))
    obtain rfl := h.f10 (hall 10 (by decide))
    have BWD := h.e
    clear h hall
    simp only [List.drop_succ_cons, List.drop_zero]
    have B8 := A0.trans (BWD.mono (by omega))
    have HX : Hid _ := B8
    clear B8 BWD A0 hcg hgg hhg
    go_wp2
    go_ret2
    refine ⟨rfl, ?_⟩
    rw [HZ.out]
    exact HX.out
end Go.Proofs.YtmefanagpkbjeabDoor
namespace Go.Proofs.YtmefanagpkbjeabDoor
open Go.RowKit Go.Shelf Go.Sort

/-- Does a Light hold? -/
def hoB (s u m : Int) (p t b ea ra : ByteArray) (br : List ByteArray) : Bool := rt8 (hdC s u p t b) 3 && rt8 (exC ea ra m) 2 && decide (br.length = 2) && chk (rtS (exC ea ra m) 2) br 2 b
set_option maxRecDepth 100000 in
set_option maxHeartbeats 4000000 in
theorem holds_any (s u m : Int) (p t b ea ra : ByteArray) (br : List ByteArray) (a : Option Addr) (c n : Nat) (w : World) (hl : Laid w) (hn : n ≤ w.heap.size) (hp : slS n w a br) :
    Calls Tryd.prog 5 #[.agg #[.int .u64 s, .int .u64 u, .string p, .string t, .string b, .string ea, .string ra, .int .u64 m, .slice a br.length c]] w fun e w' => e = .returned (.bool (hoB s u m p t b ea ra br)) ∧ Below w.heap.size w w' := by
  have HHO : Hid (hoB s u m p t b ea ra br = (rt8 (hdC s u p t b) 3 && rt8 (exC ea ra m) 2 && decide (br.length = 2) && chk (rtS (exC ea ra m) 2) br 2 b)) := rfl
  obtain ⟨ho, hho⟩ : ∃ h, hoB s u m p t b ea ra br = h := ⟨_, rfl⟩
  rw [hho] at HHO ⊢
  obtain ⟨N, hN⟩ : ∃ N, br.length = N := ⟨_, rfl⟩
  have HN : Hid (br.length = N) := hN
  rw [hN] at HHO ⊢
  have A0 : Below w.heap.size w (w.alloc (.cells #[.int .u64 s, .int .u64 u, .string p, .string t, .string b, .string ea, .string ra, .int .u64 m, .slice a N c] 31)) := (Below.refl _ w).alloc (Nat.le_refl _) _
  have hx : (w.alloc (.cells #[.int .u64 s, .int .u64 u, .string p, .string t, .string b, .string ea, .string ra, .int .u64 m, .slice a N c] 31)).heap[w.heap.size]? = some (.cells #[.int .u64 s, .int .u64 u, .string p, .string t, .string b, .string ea, .string ra, .int .u64 m, .slice a N c] 31 (0, 0)) := World.alloc_heap_new w _
  obtain ⟨w1, hw1⟩ : ∃ W, w.alloc (.cells #[.int .u64 s, .int .u64 u, .string p, .string t, .string b, .string ea, .string ra, .int .u64 m, .slice a N c] 31) = W := ⟨_, rfl⟩
  rw [hw1] at A0 hx
  obtain ⟨z, hz⟩ : ∃ z, w.heap.size = z := ⟨_, rfl⟩
  have HZ : Hid (w.heap.size = z) := hz
  have hzw : z < w1.heap.size := by rw [← hz]; exact (Array.getElem?_eq_some_iff.1 hx).1
  have hl1 : ∀ W : World, Below w.heap.size w W → Laid W := fun W hB => hl.below hB
  have KH := fun (W : World) (hB : Below w.heap.size w W) => hroot_any s u p t b W (hl1 W hB)
  have KX := fun (W : World) (hB : Below w.heap.size w W) => xroot_any ea ra m W (hl1 W hB)
  have KC := fun (W : World) (hB : Below w.heap.size w W) => check_any (rtS (exC ea ra m) 2) br 2 (by decide) b a c n W (hl1 W hB) (Nat.le_trans hn hB.size) (slS_below (hB.mono hn) hp)
  rw [hN] at KC
  rw [hz] at A0 hx KH KX KC
  unfold rtE at KH KX
  obtain ⟨v1, hv1⟩ : ∃ v, rtS (hdC s u p t b) 3 = v := ⟨_, rfl⟩
  obtain ⟨v2, hv2⟩ : ∃ v, rtS (exC ea ra m) 2 = v := ⟨_, rfl⟩
  rw [hv1] at KH
  rw [hv2] at KX KC HHO
  obtain ⟨r1, hr1⟩ : ∃ v, rt8 (hdC s u p t b) 3 = v := ⟨_, rfl⟩
  obtain ⟨r2, hr2⟩ : ∃ v, rt8 (exC ea ra m) 2 = v := ⟨_, rfl⟩
  rw [hr1, hr2] at HHO
  rw [show rt8 (hdC s u p t b) ((3 : Nat) : Int) = r1 from hr1] at KH
  rw [show rt8 (exC ea ra m) ((2 : Nat) : Int) = r2 from hr2] at KX
  obtain ⟨x1, hx1⟩ : ∃ v : Int, (if r1 = true then (0 : Int) else 130) = v := ⟨_, rfl⟩
  obtain ⟨x2, hx2⟩ : ∃ v : Int, (if r2 = true then (0 : Int) else 130) = v := ⟨_, rfl⟩
  rw [hx1] at KH
  rw [hx2] at KX
  have HE1 : Hid _ := hx1
  have HE2 : Hid _ := hx2
  obtain ⟨ck, hck⟩ : ∃ v, chk v2 br 2 b = v := ⟨_, rfl⟩
  rw [hck] at KC HHO
  have cs : ∀ W : World, Below w1.heap.size w1 W → ∀ (o : Nat) (v : Value), w1.cell? ⟨z, o, none⟩ = some v → W.cell? ⟨z, o, none⟩ = some v := fun W hB o v h => (hB.cell (p := ⟨z, o, none⟩) hzw).trans h
  have c0 : w1.cell? ⟨z, 0, none⟩ = some (.int .u64 s) := by rw [Lib.cell_of_heap hx]; rfl
  have c1 : w1.cell? ⟨z, 1, none⟩ = some (.int .u64 u) := by rw [Lib.cell_of_heap hx]; rfl
  have c2 : w1.cell? ⟨z, 2, none⟩ = some (.string p) := by rw [Lib.cell_of_heap hx]; rfl
  have c3 : w1.cell? ⟨z, 3, none⟩ = some (.string t) := by rw [Lib.cell_of_heap hx]; rfl
  have c4 : w1.cell? ⟨z, 4, none⟩ = some (.string b) := by rw [Lib.cell_of_heap hx]; rfl
  have c5 : w1.cell? ⟨z, 5, none⟩ = some (.string ea) := by rw [Lib.cell_of_heap hx]; rfl
  have c6 : w1.cell? ⟨z, 6, none⟩ = some (.string ra) := by rw [Lib.cell_of_heap hx]; rfl
  have c7 : w1.cell? ⟨z, 7, none⟩ = some (.int .u64 m) := by rw [Lib.cell_of_heap hx]; rfl
  have c8 : w1.cell? ⟨z, 8, none⟩ = some (.slice a N c) := by rw [Lib.cell_of_heap hx]; rfl
  have HC : Hid (∀ W : World, Below w1.heap.size w1 W → _) := cs
  clear hx hho hN hv1 hv2 hr1 hr2 hck cs hx1 hx2
  go_enter Tryd.func5, Tryd.ntmps5
  go_wp2_with fail
  refine (KH _ A0).mono ?_
  rintro e w2 ⟨rfl, B2⟩
  have BX := belowStep A0 (by omega) B2
  have d4 := HC.out w2 B2 _ _ c4
  have d5 := HC.out w2 B2 _ _ c5
  have d6 := HC.out w2 B2 _ _ c6
  have d7 := HC.out w2 B2 _ _ c7
  have d8 := HC.out w2 B2 _ _ c8
  clear KH c0 c1 c2 c3 A0
  go_wp2_with fail
  refine (KX _ BX).mono ?_
  rintro e w3 ⟨rfl, B3⟩
  have BY := belowStep BX (by have := B2.size; omega) B3
  have B13 := B2.trans (B3.mono B2.size)
  have e4 := HC.out w3 B13 _ _ c4
  have e8 := HC.out w3 B13 _ _ c8
  have KC3 := KC _ BY
  clear KX d4 d5 d6 d7 d8 c4 c5 c6 c7 c8 B2 B3 BX B13 KC
  cases r1 with
  | false =>
    obtain rfl : (130 : Int) = x1 := HE1.out
    obtain rfl : ho = false := HHO.out
    go_wp2
    go_ret
    rw [HZ.out]
    exact ⟨rfl, BY⟩
  | true =>
    obtain rfl : (0 : Int) = x1 := HE1.out
    cases r2 with
    | false =>
      obtain rfl : (130 : Int) = x2 := HE2.out
      obtain rfl : ho = false := HHO.out
      go_wp2
      go_ret
      rw [HZ.out]
      exact ⟨rfl, BY⟩
    | true =>
      obtain rfl : (0 : Int) = x2 := HE2.out
      by_cases h2 : N = 2
      · obtain rfl := h2
        obtain rfl : ho = ck := HHO.out
        go_wp2_with fail
        refine KC3.mono ?_
        rintro e w4 ⟨rfl, B4⟩
        have BZ := belowStep BY (by rw [← HZ.out]; exact BY.size) B4
        clear KC3 B4 BY
        go_wp2
        go_ret
        rw [HZ.out]
        exact ⟨rfl, BZ⟩
      · have l2 : ¬ (N : Int) = 2 := by omega
        have l3 : ((N : Int) == 2) = false := by rw [beq_eq_false_iff_ne]; exact l2
        obtain rfl : ho = false := by rw [HHO.out, decide_eq_false h2]; rfl
        clear KC3
        go_wp2
        go_ret
        rw [HZ.out]
        exact ⟨rfl, BY⟩
end Go.Proofs.YtmefanagpkbjeabDoor
