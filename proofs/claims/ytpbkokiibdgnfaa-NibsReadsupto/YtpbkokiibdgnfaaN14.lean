/- The document's answer: the path whose form bytes are. -/
import Derived.Test.YtpbkokiibdgnfaaN13
import Derived.Test.YtpbkokiibdgnfaaN9
import Derived.BigQuiet
namespace Go.Proofs.Ytpbkokiibdgnfaa
open Go.RowKit Go.Sort

theorem bt_drop (s : ByteArray) (k j : Nat) (hj : k + j < s.size) : bt (s.extract k s.size) j = bt s (k + j) := by
  rw [← bt_get (s.extract k s.size) j (by rw [ByteArray.size_extract]; omega), ← bt_get s (k + j) hj, ByteArray.getElem_extract]
theorem of_drop (s : ByteArray) (k : Nat) (hk : k ≤ 2 * s.size) : (ofOf s).extract k (2 * s.size) = ⟨(by8 (2 * s.size - k) (fun j => half s (k + j))).toArray⟩ := by
  have hz := of_size s
  refine ext_bt _ _ (by rw [ByteArray.size_extract, hz, by8_size]; omega) fun j hj => ?_
  rw [ByteArray.size_extract, hz] at hj
  rw [bt_by8 _ _ (fun j => by have := half_bd s (k + j); omega) j (by omega)]
  have := bt_drop (ofOf s) k j (by omega)
  rw [hz] at this
  rw [this, bt_of _ _ (by omega)]

set_option maxRecDepth 20000 in
set_option maxHeartbeats 4000000 in
theorem rread_any (s : ByteArray) (hs : s.size ≤ 100000000) (w : World) :
    Calls Try.prog 15 #[.string s] w fun e w' => e = .returned (.tuple #[.string (rdS s), .bool (rdL s), .int .i64 (rdE s)]) ∧ Below w.heap.size w w' := by
  have KO : Hid (∀ w : World, _) := fun w : World => rof_any s (by omega) w
  obtain ⟨l, hl⟩ : ∃ l, ofOf s = l := ⟨_, rfl⟩
  have hz : l.size = 2 * s.size := by rw [← hl]; exact of_size s
  rw [hl] at KO
  by_cases h0 : s.size = 0
  · have HO : Hid (rdS s = ⟨#[]⟩ ∧ rdL s = false ∧ rdE s = 50) := by
      have hb : rdGood s = false := by unfold rdGood; rw [decide_eq_false (by omega), Bool.false_and]
      unfold rdS rdL rdE
      rw [hb]
      exact ⟨rfl, rfl, rfl⟩
    have hz0 : l.size = 0 := by omega
    clear hl hz
    go_enter Try.func15, Try.ntmps15
    go_wp2_with fail
    refine (KO.out _).mono ?_
    rintro e w1 ⟨rfl, BW⟩
    clear KO
    go_wp2
    refine bodyPost_ret (v := .tuple #[.string ⟨#[]⟩, .bool false, .int .i64 50]) (by simp [results, Try.results15, go_sem]) rfl ⟨by rw [HO.out.1, HO.out.2.1, HO.out.2.2], BW⟩
  · have h1 : 1 < l.size := by omega
    have h2 : 0 < l.size := by omega
    have l1 : (1 : Int) < l.size := by omega
    have l2 : (0 : Int) < l.size := by omega
    have l3 : ¬ (l.size : Int) = 0 := by omega
    have l4 : ¬ l.size = 0 := by omega
    have l5 : (l.size == 0) = false := by simpa using l4
    have l8 : ((l.size : Int) == 0) = false := by simpa using l4
    have g0 := bt_get l 0 h2
    have g1 := bt_get l 1 h1
    obtain ⟨u, hu⟩ : ∃ u, half s 0 = u := ⟨_, rfl⟩
    obtain ⟨v, hv⟩ : ∃ v, half s 1 = v := ⟨_, rfl⟩
    have hub := half_bd s 0
    have hvb := half_bd s 1
    rw [show bt l 0 = u by rw [← hl, bt_of _ _ (by omega)]; exact hu] at g0
    rw [show bt l 1 = v by rw [← hl, bt_of _ _ (by omega)]; exact hv] at g1
    rw [hu] at hub
    rw [hv] at hvb
    have hgood : rdGood s = (decide (u ≤ 3) && (decide (u % 2 = 1) || decide (v = 0))) := by
      unfold rdGood rgood
      rw [decide_eq_true (by omega), hu, hv, Bool.true_and]
    by_cases hbig : 3 < u
    · have HO : Hid (rdS s = ⟨#[]⟩ ∧ rdL s = false ∧ rdE s = 50) := by
        have hb : rdGood s = false := by rw [hgood]; simp; omega
        unfold rdS rdL rdE
        rw [hb]
        exact ⟨rfl, rfl, rfl⟩
      clear hl hz hu hv hgood
      go_enter Try.func15, Try.ntmps15
      go_wp2_with fail
      refine (KO.out _).mono ?_
      rintro e w1 ⟨rfl, BW⟩
      clear KO
      go_wp2
      refine bodyPost_ret (v := .tuple #[.string ⟨#[]⟩, .bool false, .int .i64 50]) (by simp [results, Try.results15, go_sem]) rfl ⟨by rw [HO.out.1, HO.out.2.1, HO.out.2.2], BW⟩
    · have hu4 : u = 0 ∨ u = 1 ∨ u = 2 ∨ u = 3 := by omega
      rcases hu4 with rfl | rfl | rfl | rfl
      · by_cases hv0 : v = 0
        · subst hv0
          have hb : rdGood s = true := by rw [hgood]; simp
          have HO : Hid (rdS s = l.extract 2 l.size ∧ rdL s = false ∧ rdE s = 0) := by
            unfold rdS rdL rdE rfrom
            rw [hb, hu, hz, ← hl, of_drop s 2 (by omega)]
            exact ⟨rfl, rfl, rfl⟩
          obtain ⟨d, hd⟩ : ∃ d, l.extract 2 l.size = d := ⟨_, rfl⟩
          have l6 : (2 : Int) ≤ l.size := by omega
          have l7 : 2 ≤ l.size := by omega
          rw [hd] at HO
          clear hb
          clear hl hz hu hv hgood
          go_enter Try.func15, Try.ntmps15
          go_wp2_with fail
          refine (KO.out _).mono ?_
          rintro e w1 ⟨rfl, BW⟩
          clear KO
          go_wp2
          go_region
          all_goals go_wp2
          all_goals (refine bodyPost_ret (v := .tuple #[.string d, .bool false, .int .i64 0]) (by simp [results, Try.results15, go_sem]) rfl ⟨by rw [HO.out.1, HO.out.2.1, HO.out.2.2], BW.drew⟩)
        · have hv1 : (v == 0) = false := by simpa using hv0
          have hv2 : (v != 0) = true := by simpa using hv0
          have HO : Hid (rdS s = ⟨#[]⟩ ∧ rdL s = false ∧ rdE s = 50) := by
            have hb : rdGood s = false := by rw [hgood]; simp; omega
            unfold rdS rdL rdE
            rw [hb]
            exact ⟨rfl, rfl, rfl⟩
          clear hl hz hu hv hgood
          go_enter Try.func15, Try.ntmps15
          go_wp2_with fail
          refine (KO.out _).mono ?_
          rintro e w1 ⟨rfl, BW⟩
          clear KO
          go_wp2
          refine bodyPost_ret (v := .tuple #[.string ⟨#[]⟩, .bool false, .int .i64 50]) (by simp [results, Try.results15, go_sem]) rfl ⟨by rw [HO.out.1, HO.out.2.1, HO.out.2.2], BW⟩
      · have hb : rdGood s = true := by rw [hgood]; simp
        have HO : Hid (rdS s = l.extract 1 l.size ∧ rdL s = false ∧ rdE s = 0) := by
          unfold rdS rdL rdE rfrom
          rw [hb, hu, hz, ← hl, of_drop s 1 (by omega)]
          exact ⟨rfl, rfl, rfl⟩
        obtain ⟨d, hd⟩ : ∃ d, l.extract 1 l.size = d := ⟨_, rfl⟩
        have l6 : (1 : Int) ≤ l.size := by omega
        have l7 : 1 ≤ l.size := by omega
        rw [hd] at HO
        clear hb
        clear hl hz hu hv hgood
        go_enter Try.func15, Try.ntmps15
        go_wp2_with fail
        refine (KO.out _).mono ?_
        rintro e w1 ⟨rfl, BW⟩
        clear KO
        go_wp2
        go_region
        all_goals go_wp2
        all_goals (refine bodyPost_ret (v := .tuple #[.string d, .bool false, .int .i64 0]) (by simp [results, Try.results15, go_sem]) rfl ⟨by rw [HO.out.1, HO.out.2.1, HO.out.2.2], BW.drew⟩)
      · by_cases hv0 : v = 0
        · subst hv0
          have hb : rdGood s = true := by rw [hgood]; simp
          have HO : Hid (rdS s = l.extract 2 l.size ∧ rdL s = true ∧ rdE s = 0) := by
            unfold rdS rdL rdE rfrom
            rw [hb, hu, hz, ← hl, of_drop s 2 (by omega)]
            exact ⟨rfl, rfl, rfl⟩
          obtain ⟨d, hd⟩ : ∃ d, l.extract 2 l.size = d := ⟨_, rfl⟩
          have l6 : (2 : Int) ≤ l.size := by omega
          have l7 : 2 ≤ l.size := by omega
          rw [hd] at HO
          clear hb
          clear hl hz hu hv hgood
          go_enter Try.func15, Try.ntmps15
          go_wp2_with fail
          refine (KO.out _).mono ?_
          rintro e w1 ⟨rfl, BW⟩
          clear KO
          go_wp2
          go_region
          all_goals go_wp2
          all_goals (refine bodyPost_ret (v := .tuple #[.string d, .bool true, .int .i64 0]) (by simp [results, Try.results15, go_sem]) rfl ⟨by rw [HO.out.1, HO.out.2.1, HO.out.2.2], BW.drew⟩)
        · have hv1 : (v == 0) = false := by simpa using hv0
          have hv2 : (v != 0) = true := by simpa using hv0
          have HO : Hid (rdS s = ⟨#[]⟩ ∧ rdL s = false ∧ rdE s = 50) := by
            have hb : rdGood s = false := by rw [hgood]; simp; omega
            unfold rdS rdL rdE
            rw [hb]
            exact ⟨rfl, rfl, rfl⟩
          clear hl hz hu hv hgood
          go_enter Try.func15, Try.ntmps15
          go_wp2_with fail
          refine (KO.out _).mono ?_
          rintro e w1 ⟨rfl, BW⟩
          clear KO
          go_wp2
          refine bodyPost_ret (v := .tuple #[.string ⟨#[]⟩, .bool false, .int .i64 50]) (by simp [results, Try.results15, go_sem]) rfl ⟨by rw [HO.out.1, HO.out.2.1, HO.out.2.2], BW⟩
      · have hb : rdGood s = true := by rw [hgood]; simp
        have HO : Hid (rdS s = l.extract 1 l.size ∧ rdL s = true ∧ rdE s = 0) := by
          unfold rdS rdL rdE rfrom
          rw [hb, hu, hz, ← hl, of_drop s 1 (by omega)]
          exact ⟨rfl, rfl, rfl⟩
        obtain ⟨d, hd⟩ : ∃ d, l.extract 1 l.size = d := ⟨_, rfl⟩
        have l6 : (1 : Int) ≤ l.size := by omega
        have l7 : 1 ≤ l.size := by omega
        rw [hd] at HO
        clear hb
        clear hl hz hu hv hgood
        go_enter Try.func15, Try.ntmps15
        go_wp2_with fail
        refine (KO.out _).mono ?_
        rintro e w1 ⟨rfl, BW⟩
        clear KO
        go_wp2
        go_region
        all_goals go_wp2
        all_goals (refine bodyPost_ret (v := .tuple #[.string d, .bool true, .int .i64 0]) (by simp [results, Try.results15, go_sem]) rfl ⟨by rw [HO.out.1, HO.out.2.1, HO.out.2.2], BW.drew⟩)
end Go.Proofs.Ytpbkokiibdgnfaa
