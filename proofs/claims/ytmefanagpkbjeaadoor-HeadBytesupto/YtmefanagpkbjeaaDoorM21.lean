/- Lemmas: A tree's root: Root. -/
import Derived.Test.YtmefanagpkbjeaaDoorM1
import Derived.Test.YtmefanagpkbjeaaDoorM10
import Derived.Test.YtmefanagpkbjeaaDoorM11
import Derived.Test.YtmefanagpkbjeaaDoorM12
import Derived.Test.YtmefanagpkbjeaaDoorM13
import Derived.Test.YtmefanagpkbjeaaDoorM14
import Derived.Test.YtmefanagpkbjeaaDoorM15
import Derived.Test.YtmefanagpkbjeaaDoorM16
import Derived.Test.YtmefanagpkbjeaaDoorM17
import Derived.Test.YtmefanagpkbjeaaDoorM18
import Derived.Test.YtmefanagpkbjeaaDoorM19
import Derived.Test.YtmefanagpkbjeaaDoorM2
import Derived.Test.YtmefanagpkbjeaaDoorM20
import Derived.Test.YtmefanagpkbjeaaDoorM3
import Derived.Test.YtmefanagpkbjeaaDoorM4
import Derived.Test.YtmefanagpkbjeaaDoorM6
import Derived.Test.YtmefanagpkbjeaaDoorM7
import Derived.Test.YtmefanagpkbjeaaDoorM8
import Derived.Test.YtmefanagpkbjeaaDoorM9
import Derived.Test.YtmefanagpkbjeaaDoorRows
import Derived.Shelf.Pu.Clone
namespace Go.Proofs.YtmefanagpkbjeaaDoor
open Go.RowKit Go.Shelf Go.Sort
attribute [local go_sem] Oper.semAt_some

def z_rc : Ren := ⟨fun k => if k = 25 then 101 else k, fun k => if k = 37 then 58 else if k = 47 then 190 else k, fun k => k⟩
set_option maxRecDepth 100000 in
theorem z_lays_clone : LaysPu.n25 Tryd.prog z_rc where
  mixed := by kernel_rfl
  f25 := by kernel_rfl
  t0 := by kernel_rfl
  a0 := fun w => rfl
  z0 := fun w => rfl
  v0 := fun w => rfl
  i0 := by kernel_rfl
  t3 := by kernel_rfl
  a3 := fun w => rfl
  z3 := fun w => rfl
  v3 := fun w => rfl
  i3 := by kernel_rfl
  t4 := by kernel_rfl
  a4 := fun w => rfl
  z4 := fun w => rfl
  v4 := fun w => rfl
  i4 := by kernel_rfl
  t5 := by kernel_rfl
  a5 := fun w => rfl
  z5 := fun w => rfl
  v5 := fun w => rfl
  i5 := by kernel_rfl
  t9 := by kernel_rfl
  a9 := fun w => rfl
  z9 := fun w => rfl
  v9 := fun w => rfl
  i9 := by kernel_rfl
  t37 := by kernel_rfl
  a37 := fun w => rfl
  z37 := fun w => rfl
  v37 := fun w => rfl
  i37 := by kernel_rfl
  t47 := by kernel_rfl
  a47 := fun w => rfl
  z47 := fun w => rfl
  v47 := fun w => rfl
  i47 := by kernel_rfl
theorem z_clone1_any (s : ByteArray) (w : World) (h : s.size ≤ 281474976710656) : Calls Tryd.prog 101 #[.string s] w fun e w' => e = .returned (.string s) ∧ Below w.heap.size w w' := AnyPu.stringslite_Clone z_lays_clone s w h
set_option maxHeartbeats 1000000 in
theorem z_clone_any (s : ByteArray) (w : World) (h : s.size ≤ 281474976710656) : Calls Tryd.prog 66 #[.string s] w fun e w' => e = .returned (.string s) ∧ Below w.heap.size w w' := by
  have K := fun w => z_clone1_any s w h
  go_enter Tryd.func66, Tryd.ntmps66
  go_wp2_with fail
  refine (K _).mono ?_
  rintro e w1 ⟨rfl, B1⟩
  go_wp2
  go_ret
  exact ⟨rfl, B1⟩

/-- What Root answers. -/
def rootV (xs : List ByteArray) (d : Int) : Value := if rt8 xs d = true then .tuple #[.string (lf (lvs xs) d.toNat 0), .int .i64 0] else .tuple #[.string ⟨#[]⟩, .int .i64 80]

set_option maxRecDepth 100000 in
set_option maxHeartbeats 2000000 in
theorem root_any (xs : List ByteArray) (d : Int) (a : Option Addr) (c n : Nat) (w : World) (hl : Laid w) (hn : n ≤ w.heap.size) (hp : slS n w a xs) :
    Calls Tryd.prog 30 #[.slice a xs.length c, .int .i64 d] w fun e w' => e = .returned (rootV xs d) ∧ Below w.heap.size w w' := by
  have KH := haveTree_any xs d a c n w hn hp
  obtain ⟨ok, hok⟩ : ∃ q, rt8 xs d = q := ⟨_, rfl⟩
  rw [hok] at KH
  have HO : Hid _ := hok
  obtain ⟨N, hN⟩ : ∃ N, xs.length = N := ⟨_, rfl⟩
  rw [hN] at KH ⊢
  refine (callsIn_wide (n := 9)).1 ?_
  refine callsIn_of_wp_marks Tryd.func30 rfl trivial ?_ rfl
  refine wpIn_wide.2 ?_
  simp only [Tryd.ntmps30, List.size_toArray, List.length_cons, List.length_nil, Nat.reduceAdd, Nat.reduceSub, Array.replicate_succ, Array.replicate_zero, List.push_toArray, List.append_toArray, List.nil_append, List.cons_append]
  go_wp2_with fail
  refine KH.mono ?_
  rintro e w1 ⟨rfl, B1⟩
  clear KH hok
  cases ok with
  | false =>
    go_wp2
    refine ⟨.tuple #[.string ⟨#[]⟩, .int .i64 80], by simp [results, Tryd.results30, go_sem], ?_, B1⟩
    rw [rootV, if_neg (by rw [HO.out]; decide)]
  | true =>
    obtain ⟨h0, h10, hpw, h256, h32⟩ := (rt8_iff xs d).1 HO.out
    obtain ⟨D, rfl⟩ : ∃ D : Nat, d = (D : Int) := ⟨d.toNat, by omega⟩
    have hD : D ≤ 10 := by omega
    have HR : Hid (rootV xs (D : Int) = .tuple #[.string (lf (lvs xs) D 0), .int .i64 0]) := by
      show _ = _
      rw [rootV, if_pos HO.out, Int.toNat_natCast]
    clear h0 h10 hpw HO
    go_wp2_with fail
    refine (levels_any a N c (D : Int) _).mono ?_
    rintro e w2 ⟨rfl, hw2⟩
    obtain ⟨p, hp0⟩ : ∃ p, w1.heap.size = p := ⟨_, rfl⟩
    have hF2 : Below p w1 w2 ∧ w2.heap.size = p + 3 ∧ w2.heap[p]? = some (.cells #[.slice none 0 0, .string ⟨#[]⟩] 102 (0, 0)) ∧ w2.heap[p + 1]? = some (.cells #[.slice a N c] 27 (0, 0)) ∧ w2.heap[p + 2]? = some (.cells #[.int .i64 (D : Int)] 3 (0, 0)) := by
      have t2 := alloc_two (w1.alloc (.cells #[.slice none 0 0, .string ⟨#[]⟩] 102)) (.cells #[.slice a N c] 27) (.cells #[.int .i64 (D : Int)] 3)
      have A1 : Below w1.heap.size w1 (w1.alloc (.cells #[.slice none 0 0, .string ⟨#[]⟩] 102)) := (Below.refl _ w1).alloc (Nat.le_refl _) _
      have A2 : Below (w1.heap.size + 1) (w1.alloc (.cells #[.slice none 0 0, .string ⟨#[]⟩] 102)) w2 := by
        rw [hw2]
        exact ((Below.refl _ _).alloc (by simp) _).alloc (by simp) _
      have hsz : (w1.alloc (.cells #[.slice none 0 0, .string ⟨#[]⟩] 102)).heap.size = w1.heap.size + 1 := by simp
      rw [← hw2, hsz, hp0] at t2
      rw [hp0] at A1 A2
      refine ⟨A1.trans (A2.mono (by omega)), by rw [hw2]; simp; omega, (A2.block p (by omega)).trans ?_, t2.1, t2.2⟩
      rw [← hp0]
      exact World.alloc_heap_new w1 _
    obtain ⟨B2, hz2, hb0, hb1, hb2⟩ := hF2
    have hcp : ∀ (W : World) (v1 v2 : Value), W.heap[p]? = some (.cells #[v1, v2] 102 (0, 0)) → W.cell? ⟨p, 0, none⟩ = some v1 ∧ W.cell? ⟨p, 1, none⟩ = some v2 ∧ ∀ o, W.frozen? ⟨p, o, none⟩ = false := fun W v1 v2 h => ⟨by rw [Lib.cell_of_heap h]; rfl, by rw [Lib.cell_of_heap h]; rfl, fun o => by simp [World.frozen?, h]⟩
    have HC : Hid _ := hcp
    have hsz' : (w1.alloc (.cells #[.slice none 0 0, .string ⟨#[]⟩] 102)).heap.size = p + 1 := by simp [hp0]
    rw [hsz', hp0]
    have HP : Hid _ := hp0
    have hl1 := hl.below B1
    have hp1 : slS n w1 a xs := slS_below (B1.mono hn) hp
    have hnp : n ≤ p := by rw [← hp0]; exact Nat.le_trans hn B1.size
    have h1p : 1 < p := by rw [← hp0]; exact hl1.k.z
    clear hw2 hcp hsz' hp0
    go_wp2_with fail
    refine (wpIn_wide (n := 9)).1 ?_
    refine range_to (by omega) (gf := 99) (lb := #[.pointer (some ⟨p + 1, 0, none⟩), .pointer (some ⟨p + 2, 0, none⟩)]) rfl (enters_of Tryd.func99 (by kernel_rfl) rfl) ?_
    intro fn mk W1 hmk BW1 hszW hRc
    rw [hz2] at hmk BW1 hszW hRc ⊢
    have cX : W1.cell? ⟨p + 1, 0, none⟩ = some (.slice a xs.length c) := by rw [hN, BW1.cell (p := ⟨p + 1, 0, none⟩) (by show p + 1 < p + 3; omega), Lib.cell_of_heap hb1]; rfl
    have cY : W1.cell? ⟨p + 2, 0, none⟩ = some (.int .i64 (D : Int)) := by rw [BW1.cell (p := ⟨p + 2, 0, none⟩) (by show p + 2 < p + 3; omega), Lib.cell_of_heap hb2]; rfl
    have BWp : Below p w1 W1 := B2.trans (BW1.mono (by omega))
    have lW1 : Laid W1 := hl1.below (by rw [HP.out]; exact BWp)
    have sW1 : slZ p (p + 1) (p + 4) (p + 5) W1 a xs := by
      rcases slS_below (BWp.mono hnp) hp1 with h | ⟨b, o, k1, k2, k3⟩
      · exact .inl h
      · exact .inr ⟨b, o, k1, by omega, by omega, ⟨by omega, by omega⟩, k3⟩
    have hbW0 := (BW1.block p (by omega)).trans hb0
    refine (levels1_in 8 (p + 4) p (p + 1) (p + 1) (p + 2) xs h256 h32 D hD a c h1p (by omega) (by omega) (by omega) (by omega)
      (fun k W => (Rc (p + 3) (mk .ready none) W ∧ Below p w1 W) ∧ ∃ v1 v2, W.heap[p]? = some (.cells #[v1, v2] 102 (0, 0)) ∧ (0 < k → ∃ a c, v1 = .slice a (lvl xs (k - 1)).length c ∧ v2 = .string (zr (k - 1)) ∧ slZ p (p + 1) (p + 4) (p + 5) W a (lvl xs (k - 1)))) (fun _ _ => False) (p + 5)
      ?hJ ?hY W1 lW1 (by omega) (by omega) cX cY sW1 hszW ⟨⟨hRc, BWp⟩, _, _, hbW0, fun h => absurd h (by omega)⟩).mono ?_
    case hJ =>
      rintro k A C ⟨⟨hr, hB⟩, v1, v2, hv, hx⟩ hk
      have hlt := hr.lt
      refine ⟨⟨⟨(hk.at hr.lt (by omega)).trans hr.1, (hk.at (by omega) (by omega)).trans hr.2⟩, hB.grown hk (by omega) (fun k e => by cases e; omega)⟩, v1, v2, (hk.at (by omega) (by omega)).trans hv, fun h => ?_⟩
      obtain ⟨a, c, e1, e2, hs⟩ := hx h
      exact ⟨a, c, e1, e2, hs.kq hk⟩
    case hY =>
      rintro m k a' c' W ⟨⟨hr, hB⟩, v1, v2, hv, -⟩ hk hsl
      refine yield_to mk hmk hr rfl ?_
      have hA : Below W.heap.size W (W.alloc (.cells #[.slice a' (lvl xs k).length c', .string (zr k)] 102)) := (Below.refl _ W).alloc (Nat.le_refl _) _
      have hlt := hr.lt
      have hn0 := World.alloc_heap_new W (.cells #[.slice a' (lvl xs k).length c', .string (zr k)] 102)
      gi_wp2
      refine ⟨hr.below hA, ?_⟩
      intro U hrU hkU
      obtain ⟨A, hAA⟩ : ∃ A, W.alloc (.cells #[.slice a' (lvl xs k).length c', .string (zr k)] 102) = A := ⟨_, rfl⟩
      have hsz : A.heap.size = W.heap.size + 1 := by rw [← hAA]; simp
      rw [hAA] at hA hn0 hkU
      clear hAA
      have BA : Below p w1 A := hB.trans (hA.mono (by omega))
      have BU := Kq.low BA (by omega) (by omega) hkU
      have hpU : p < U.heap.size := by have := hkU.size; omega
      have hvU := (hkU.at (k := p) (by omega) (by omega)).trans ((hA.block p (by omega)).trans hv)
      have hnU := (hkU.at (k := W.heap.size) (by omega) (by omega)).trans hn0
      have f0 : U.cell? ⟨W.heap.size, 0, none⟩ = some (.slice a' (lvl xs k).length c') := by rw [Lib.cell_of_heap hnU]; rfl
      have f1 : U.cell? ⟨W.heap.size, 1, none⟩ = some (.string (zr k)) := by rw [Lib.cell_of_heap hnU]; rfl
      obtain ⟨t0, t1, tz⟩ := HC.out U v1 v2 hvU
      have KU : Kz p (p + 1) (p + 4) W U := (Kz.below hA).trans ⟨hkU.size, fun b hb _ h => hkU.at hb (by omega)⟩
      have eU := heap_setCell_self (heap_setCell_self hvU 0 (.slice a' (lvl xs k).length c')) 1 (.string (zr k))
      have KU2 := (KU.trans (Kz.set U 0 (.slice a' (lvl xs k).length c') (Nat.le_refl p) (Nat.lt_succ_self p))).trans (Kz.set _ 1 (.string (zr k)) (Nat.le_refl p) (Nat.lt_succ_self p))
      have BU2 : Below p w1 ((U.setCell ⟨p, 0, none⟩ (.slice a' (lvl xs k).length c')).setCell ⟨p, 1, none⟩ (.string (zr k))) := below_setCells' (b := p) (Nat.le_refl _) [.string (zr k)] 1 _ (below_setCells' (b := p) (Nat.le_refl _) [.slice a' (lvl xs k).length c'] 0 _ BU)
      have hrV : Rc (p + 3) (mk .busy none) ((U.setCell ⟨p, 0, none⟩ (.slice a' (lvl xs k).length c')).setCell ⟨p, 1, none⟩ (.string (zr k))) := ⟨((Kq.put _ p 1 _).at (by have := (Kq.put U p 0 (.slice a' (lvl xs k).length c')).size; have := hrU.lt; omega) (by omega)).trans (((Kq.put U p 0 _).at hrU.lt (by omega)).trans hrU.1), ((Kq.put _ p 1 _).at (by have := (Kq.put U p 0 (.slice a' (lvl xs k).length c')).size; have := hrU.lt; omega) (by omega)).trans (((Kq.put U p 0 _).at (by have := hrU.lt; omega) (by omega)).trans hrU.2)⟩
      have hsV := hsl.kz KU2
      have HF : Hid (_ ∧ _ ∧ _ ∧ _ ∧ _) := ⟨eU, KU2, BU2, hrV, hsV⟩
      clear eU KU2 BU2 hrV hsV KU hvU hnU hkU hrU BU BA hA hn0 hB hr hsl hv
      gi_wp2
      obtain ⟨eU, KU2, BU2, hrV, hsV⟩ := HF.out
      refine And.intro hrV ?_
      intro X hrX hkX
      refine ⟨rfl, ⟨⟨hrX, Kq.low BU2 (by have := hrV.lt; omega) (by omega) hkX⟩, .slice a' (lvl xs k).length c', .string (zr k), (hkX.at (by have := hrV.lt; omega) (by omega)).trans eU, a', ⟨c', rfl⟩, rfl, ?_⟩, ?_⟩
      · exact hsV.kz (n0 := p) (n1 := p + 1) (l := p + 4) ⟨hkX.size, fun b hb _ h => hkX.at hb (by omega)⟩
      · exact KU2.trans ⟨hkX.size, fun b hb _ h => hkX.at hb (by omega)⟩
    rintro e W2 ⟨he, ⟨⟨hr, hB⟩, v1, v2, hv, hx⟩ | ⟨_, _, hf⟩⟩
    · obtain ⟨a', c', rfl, rfl, hsl⟩ := hx (by omega)
      refine ⟨he, .inl ⟨hr, ?_⟩⟩
      intro U hdU hkU
      have hlt := hr.lt
      rw [Nat.add_sub_cancel] at hv hsl
      have hvU := (hkU.at (k := p) (by omega) (by omega)).trans hv
      have hsU : slZ p (p + 1) (p + 4) (p + 5) U a' (lvl xs D) := hsl.kz (n0 := p) (n1 := p + 1) (l := p + 4) ⟨hkU.size, fun b hb _ h => hkU.at hb (by omega)⟩
      obtain ⟨t0, t1, tz⟩ := HC.out U _ _ hvU
      have BU := Kq.low hB (by omega) (by omega) hkU
      have KA := at_any (lvl xs D) a' c' (zr D) 0 U.heap.size U (Nat.le_refl _) hsU.slS
      rw [lvl_at] at KA
      have KC : Hid (∀ w : World, _) := fun w : World => z_clone_any (lf (lvs xs) D 0) w (by rw [lf_size _ (lvs_size xs h32)]; decide)
      obtain ⟨r, hr0⟩ : ∃ r, lf (lvs xs) D 0 = r := ⟨_, rfl⟩
      rw [hr0] at KA KC HR
      obtain ⟨M, hM⟩ : ∃ M, (lvl xs D).length = M := ⟨_, rfl⟩
      rw [hM] at t0 KA
      have hdl : p + 3 < U.heap.size := (Array.getElem?_eq_some_iff.1 hdU).1
      clear hr0 hM hr hv hvU hkU hsU hsl hB
      go_wp2_with fail
      refine KA.mono ?_
      rintro e w4 ⟨rfl, B4⟩
      clear KA
      go_wp2_with fail
      refine (KC.out _).mono ?_
      rintro e w5 ⟨rfl, B5⟩
      clear KC
      have B45 := belowStep B4 B4.size B5
      have hd5 := (B45.block (p + 3) hdl).trans hdU
      have BW5 := BU.trans (B45.mono (by omega))
      have hp5 : p ≤ w5.heap.size := by have := B45.size; omega
      clear B4 B5 B45 hdU BU t0 t1 tz
      go_wp2
      refine ⟨by simp, .inl ⟨_, _, rfl, run_takeDeferred hd5, ?_⟩⟩
      refine ⟨.tuple #[.string r, .int .i64 0], by simp [results, Tryd.results30, go_sem], by rw [HR.out], ?_⟩
      exact B1.trans ((below_put BW5 hp5 (by omega) _).mono (by rw [← HP.out]; exact B1.size))
    · exact hf.elim
end Go.Proofs.YtmefanagpkbjeaaDoor
