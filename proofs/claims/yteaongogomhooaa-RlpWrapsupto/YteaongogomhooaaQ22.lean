/- RlpNumbers' walk. -/
import Derived.Test.YteaongogomhooaaQ21
namespace Go.Proofs.Yteaongogomhooaa
open Go.RowKit Go.Shelf Go.Sort

set_option maxRecDepth 20000 in
set_option maxHeartbeats 2000000 in
theorem numbers_any (n : Nat) (s : ByteArray) (hn : n < 18446744073709551616) (w : World) : Calls Try.prog 5 #[.int .u64 n, .string s] w fun e w' => e = .returned (.bool true) ∧ Below w.heap.size w w' := by
  have K0 := shown_any
  have K1 := value_any s
  have K2 := rvalue_any s
  have K3 := number_any n hn
  have K4 := value_any (numOf n)
  have K5 := rnumber_any n hn
  have hb := num_back n hn
  rw [hb.1, hb.2] at K4
  have K6 := number_any (vN s) (vN_lt s)
  have hvn := val_num s
  have hve := vE_or s
  obtain ⟨x, hx⟩ : ∃ x, numOf n = x := ⟨_, rfl⟩
  obtain ⟨v, hv⟩ : ∃ v, vN s = v := ⟨_, rfl⟩
  obtain ⟨e, he⟩ : ∃ e, vE s = e := ⟨_, rfl⟩
  rw [hx] at K3 K4 K5
  rw [hv] at K1 K2 K6 hvn
  rw [he] at K1 K2 hvn hve
  clear hx hv he hb
  go_enter Try.func5, Try.ntmps5
  go_wp2_with fail
  refine (K0 _).mono ?_
  rintro e0 w1 ⟨rfl, B1⟩
  go_wp2_with fail
  refine (K1 _).mono ?_
  rintro e0 w2 ⟨rfl, B2⟩
  have BW := belowStep B1 B1.size B2
  go_wp2_with fail
  refine (K2 _).mono ?_
  rintro e0 w3 ⟨rfl, B3⟩
  replace BW := belowStep BW BW.size B3
  go_wp2_with fail
  refine (K3 _).mono ?_
  rintro e0 w4 ⟨rfl, B4⟩
  replace BW := belowStep BW BW.size B4
  go_wp2_with fail
  refine (K4 _).mono ?_
  rintro e0 w5 ⟨rfl, B5⟩
  replace BW := belowStep BW BW.size B5
  clear B1 B2 B3 B4 B5
  rcases hve with rfl | rfl
  · rw [hvn rfl] at K6
    clear hvn
    go_wp2_with fail
    refine (K3 _).mono ?_
    rintro e0 w6 ⟨rfl, B6⟩
    replace BW := belowStep BW BW.size B6
    go_wp2_with fail
    refine (K5 _).mono ?_
    rintro e0 w7 ⟨rfl, B7⟩
    replace BW := belowStep BW BW.size B7
    go_wp2_with fail
    refine (K6 _).mono ?_
    rintro e0 w8 ⟨rfl, B8⟩
    replace BW := belowStep BW BW.size B8
    clear B6 B7 B8 K0 K1 K2 K3 K4 K5 K6
    go_wp2
    go_ret
    exact ⟨rfl, BW⟩
  · clear hvn
    go_wp2_with fail
    refine (K3 _).mono ?_
    rintro e0 w6 ⟨rfl, B6⟩
    replace BW := belowStep BW BW.size B6
    go_wp2_with fail
    refine (K5 _).mono ?_
    rintro e0 w7 ⟨rfl, B7⟩
    replace BW := belowStep BW BW.size B7
    clear B6 B7 K0 K1 K2 K3 K4 K5 K6
    go_wp2
    go_ret
    exact ⟨rfl, BW⟩
end Go.Proofs.Yteaongogomhooaa
