/- Lemmas: TrieRight's walk; pairs opened from a law's arguments. The reference's nodes: a list of 17. The reference's Nodes. -/
import Derived.Test.YtbmapdkcccdmfaaDoorM1
import Derived.Test.YtbmapdkcccdmfaaDoorM10
import Derived.Test.YtbmapdkcccdmfaaDoorM11
import Derived.Test.YtbmapdkcccdmfaaDoorM12
import Derived.Test.YtbmapdkcccdmfaaDoorM13
import Derived.Test.YtbmapdkcccdmfaaDoorM14
import Derived.Test.YtbmapdkcccdmfaaDoorM15
import Derived.Test.YtbmapdkcccdmfaaDoorM16
import Derived.Test.YtbmapdkcccdmfaaDoorM17
import Derived.Test.YtbmapdkcccdmfaaDoorM18
import Derived.Test.YtbmapdkcccdmfaaDoorM19
import Derived.Test.YtbmapdkcccdmfaaDoorM2
import Derived.Test.YtbmapdkcccdmfaaDoorM20
import Derived.Test.YtbmapdkcccdmfaaDoorM21
import Derived.Test.YtbmapdkcccdmfaaDoorM22
import Derived.Test.YtbmapdkcccdmfaaDoorM23
import Derived.Test.YtbmapdkcccdmfaaDoorM24
import Derived.Test.YtbmapdkcccdmfaaDoorM25
import Derived.Test.YtbmapdkcccdmfaaDoorM26
import Derived.Test.YtbmapdkcccdmfaaDoorM3
import Derived.Test.YtbmapdkcccdmfaaDoorM33
import Derived.Test.YtbmapdkcccdmfaaDoorM34
import Derived.Test.YtbmapdkcccdmfaaDoorM35
import Derived.Test.YtbmapdkcccdmfaaDoorM36
import Derived.Test.YtbmapdkcccdmfaaDoorM37
import Derived.Test.YtbmapdkcccdmfaaDoorM38
import Derived.Test.YtbmapdkcccdmfaaDoorM39
import Derived.Test.YtbmapdkcccdmfaaDoorM4
import Derived.Test.YtbmapdkcccdmfaaDoorM40
import Derived.Test.YtbmapdkcccdmfaaDoorM41
import Derived.Test.YtbmapdkcccdmfaaDoorM42
import Derived.Test.YtbmapdkcccdmfaaDoorM43
import Derived.Test.YtbmapdkcccdmfaaDoorM44
import Derived.Test.YtbmapdkcccdmfaaDoorM5
import Derived.Test.YtbmapdkcccdmfaaDoorM6
import Derived.Test.YtbmapdkcccdmfaaDoorM7
import Derived.Test.YtbmapdkcccdmfaaDoorM8
import Derived.Test.YtbmapdkcccdmfaaDoorM9
import Derived.Test.YtbmapdkcccdmfaaDoorRows
import Derived.Test.YtbmapdkcccdmfaaDoorM29
import Derived.Test.YtbmapdkcccdmfaaDoorM30
import Derived.Test.YtbmapdkcccdmfaaDoorM45
import Derived.Test.YtbmapdkcccdmfaaDoorM47
import Derived.Test.YtbmapdkcccdmfaaDoorM48
import Derived.Test.YtbmapdkcccdmfaaDoorM49
import Derived.Deep.SlicePairs
namespace Go.Proofs.YtbmapdkcccdmfaaDoor
open Go.ChangeShapes Go.WideShapes Go.ChangeAt Go.RowKit

theorem cellsPr : Tryd.prog.cellsOf 57 = 2 := by kernel_rfl
theorem cellsSt : Tryd.prog.cellsOf 9 = 1 := by kernel_rfl
/-- Pairs that a law gets: where they lie. -/
theorem open_pairs {H : Type} {enc : TypeId × Value → H} {W : World} {fuel : Nat} {a : Option Addr} {len cap : Nat} {x : DataW H × List MemPlace} (h : DataW.trod enc Tryd.prog W 0 (fun _ => true) true fuel 29 [.slice a len cap] = some x) :
    ∃ es : List Pr, es.length = len ∧ slP W.heap.size W a es := by
  rcases Go.Deep.open_slice_pairs Tryd.underlying29 Tryd.underlying57 cellsPr rfl rfl cellsSt cellsSt h with ⟨hcs, hx⟩ | ⟨a', len', cap', m, n, V0, V1, D0, D1, P0, P1, hcs, _, hle, hm, hmm, hx, hc⟩
  · injection hcs with hcs _
    injection hcs with h1 h2 h3
    exact ⟨[], h2.symm, .inl rfl⟩
  · injection hcs with hcs _
    injection hcs with h1 h2 h3
    subst h1 h2 h3
    rw [if_pos rfl] at hmm
    subst hmm
    by_cases h0 : len = 0
    · subst h0
      exact ⟨[], rfl, .inl rfl⟩
    · have each : ∀ i, i < len → ∃ e : Pr, V0 i = .string e.1 ∧ V1 i = .string e.2 := fun i hi => by
        obtain ⟨_, _, g0, g1⟩ := hc i (by omega)
        obtain ⟨t0, e0, _⟩ := DataW.trod_string Tryd.underlying9 g0
        obtain ⟨t1, e1, _⟩ := DataW.trod_string Tryd.underlying9 g1
        injection e0 with e0 _
        injection e1 with e1 _
        exact ⟨(t0, t1), e0, e1⟩
      obtain ⟨b, off, spot⟩ := a'
      have hspot : spot = none := by simpa [Addr.add] using World.cell?_spot (hc 0 (by omega)).1
      subst hspot
      have hbl : b < W.heap.size := by
        have := (hc 0 (by omega)).1
        rw [add_plain] at this
        exact block_lt_of_cell this
      refine ⟨(List.range len).map fun i => (match V0 i with | .string s => s | _ => ⟨#[]⟩, match V1 i with | .string s => s | _ => ⟨#[]⟩), by simp, .inr ⟨b, off, rfl, hbl, fun j e he => ?_⟩⟩
      rw [List.getElem?_map] at he
      cases hj : (List.range len)[j]? with
      | none => rw [hj] at he; cases he
      | some k =>
        rw [hj] at he
        have hk : j < len ∧ k = j := by
          have h1 := List.getElem?_eq_some_iff.1 hj
          obtain ⟨h2, h3⟩ := h1
          rw [List.getElem_range] at h3
          rw [List.length_range] at h2
          exact ⟨h2, h3.symm⟩
        obtain ⟨hjl, rfl⟩ := hk
        obtain ⟨e', f0, f1⟩ := each k hjl
        obtain ⟨k0, k1, _⟩ := hc k (by omega)
        rw [add_plain] at k0 k1
        rw [f0] at k0
        rw [f1] at k1
        simp only [Option.map_some, f0, f1] at he
        cases he
        exact ⟨by rw [show off + 2 * k = off + k * 2 by omega]; exact k0, by rw [show off + 2 * k + 1 = off + (k * 2 + 1) by omega]; exact k1⟩

open Go.Shelf Go.Sort
end Go.Proofs.YtbmapdkcccdmfaaDoor
namespace Go.Proofs.YtbmapdkcccdmfaaDoor
open Go.RowKit Go.Shelf Go.Sort

theorem range_drop (k : Nat) (hk : k < 16) : (List.range 16).drop k = k :: (List.range 16).drop (k + 1) := by
  rw [List.drop_eq_getElem_cons (by simpa using hk), List.getElem_range]
set_option maxRecDepth 20000 in
set_option maxHeartbeats 2000000 in
theorem nodes_fork (f d : Nat) (hNs : NsC f) (p0 : Pr) (rs : List Pr) (h2 : 1 ≤ rs.length) (hf : 129 ≤ f + 1 + d) (hr : RightP (p0 :: rs)) (hok : Ok d (ents (srt (p0 :: rs)))) (ha : alkV d (enP p0) (rs.map enP) = 0) (zz : Nat) (v : Value) (ts : List ByteArray) (a : Option Addr) (c n : Nat) (w : World) (hn : n ≤ w.heap.size) (hp : slQ v n w a (p0 :: rs)) (hown : w.ownsRow zz 9 1 v ts.length (ts.map .string)) (hzz : zz ≤ w.heap.size) (hlen : ts.length + (nsF (f + 1) d (p0 :: rs)).length < 900000) :
    Calls Tryd.prog 30 #[v, .slice a (p0 :: rs).length c, .int .i64 d] w (GrR zz v (ts ++ nsF (f + 1) d (p0 :: rs)) w) := by
  have hsz : ∀ p ∈ p0 :: rs, p.1.size ≤ 64 := fun p hp => by
    obtain ⟨j, hj⟩ := List.getElem?_of_mem hp
    exact ((pOk_iff p).1 (hr.2.1 j p hj)).2.1
  have hdd : ∀ p ∈ p0 :: rs, d ≤ (ofOf p.1).size := fun p hp => ((Ok_iff d _).1 hok).2.2.1 (enP p) (mem_ents.2 ⟨p, hp, rfl⟩) |>.1
  rw [nsF_fork hr hok h2 ha] at hlen ⊢
  rw [List.length_append] at hlen
  have KT := rtold_any (f + 1) d (p0 :: rs) hf hr hok zz v ts a c n w hn hp.slP hown hzz (by omega)
  have KA := fun W hn hp => alike_any p0 rs hsz hr.1 d hdd a c n W hn hp
  rw [ha] at KA
  have hd128 : d ≤ 128 := by
    have h1 := hdd p0 (by simp)
    have h3 := hsz p0 (by simp)
    have h4 := of_sz p0.1
    omega
  have h1N : 2 ≤ (p0 :: rs).length := by rw [List.length_cons]; omega
  obtain ⟨ps, hps⟩ : ∃ ps, p0 :: rs = ps := ⟨_, rfl⟩
  rw [hps] at KT KA hr hok hp hsz hlen h1N ⊢
  have KH := fun (h : Int) W hn hp => having2_any ps hsz hr.1 d h a c n W hn hp
  have KN := fun (h : Int) (h0 : (hvP d h ps).length ≠ 0) => hNs (hvP d h ps) (d + 1) (by omega) (right_sub hr List.filter_sublist) (by rw [hv_srt hr]; exact hok.going h (by rw [← hv_srt hr, ents_len, (srt_perm _).length_eq]; exact h0)) zz
  obtain ⟨T0, hT0⟩ : ∃ T, tdX d (noF (f + 1) d ps) = T := ⟨_, rfl⟩
  obtain ⟨VL, hVL⟩ : ∃ VL : Nat → List ByteArray, (fun (j : Nat) => if (hvP d (j : Int) ps).length = 0 then [] else nsF f (d + 1) (hvP d (j : Int) ps)) = VL := ⟨_, rfl⟩
  rw [hT0] at KT hlen ⊢
  rw [hVL] at hlen ⊢
  rw [← List.append_assoc]
  obtain ⟨N, hN⟩ : ∃ N, ps.length = N := ⟨_, rfl⟩
  have l1 : ((N : Int) == 1) = false := by rw [beq_eq_false_iff_ne]; omega
  rw [hN] at KT KA KH ⊢
  have HQ : Hid _ := hp
  have HN : Hid _ := NS.refl hown
  obtain ⟨ao, c0, rfl⟩ := (NS.refl hown).slice
  have wd : IntKind.i64.wrap ((d : Int) + 1) = ((d + 1 : Nat) : Int) := by rw [IntKind.wrap_i64]; omega
  obtain ⟨G1, hG1⟩ : ∃ G, GrR zz (.slice ao ts.length c0) (ts ++ T0) w = G := ⟨_, rfl⟩
  have HG1 : Hid (GrR zz (.slice ao ts.length c0) (ts ++ T0) w = G1) := hG1
  obtain ⟨Fs, hFs⟩ : ∃ q, ts ++ T0 ++ (List.range 16).flatMap VL = q := ⟨_, rfl⟩
  have HFs : Hid (ts ++ T0 ++ ((List.range 16).drop 0).flatMap VL = Fs) := hFs
  have hFl : Fs.length < 900000 := by rw [← hFs, List.length_append, List.length_append]; omega
  obtain ⟨G2, hG2⟩ : ∃ G, GrR zz (.slice ao ts.length c0) Fs w = G := ⟨_, rfl⟩
  have HG2 : Hid (GrR zz (.slice ao ts.length c0) Fs w = G2) := hG2
  rw [hG1] at KT
  rw [hFs, hG2]
  have HVL : Hid _ := hVL
  have HKN : Hid _ := KN
  clear hG1 hG2 hFs hT0 hp hown hr hok hsz hdd ha hN hlen h1N hps hVL KN
  go_enter Tryd.func30, Tryd.ntmps30
  go_wp2_with fail
  refine KT.mono ?_
  intro e w1 hg
  rw [← HG1.out] at hg
  obtain ⟨v1, rfl, N1⟩ := NS.next HN.out hg
  obtain ⟨ao1, c1, rfl⟩ := N1.slice
  have hs1 := N1.gr.size
  have hp1 := N1.pairs hn HQ.out
  have HN1 : Hid _ := N1
  have K2 := KA w1 (by omega) hp1.slP
  obtain ⟨Ln, hLn⟩ : ∃ n, (ts ++ T0).length = n := ⟨_, rfl⟩
  have HLn : Hid _ := hLn
  rw [hLn]
  clear N1 hg KT KA hp1 hLn
  go_wp2_with fail
  refine K2.mono ?_
  rintro e w2 ⟨rfl, B2⟩
  have hs2 := B2.size
  have HN2 : Hid _ := HN1.out.below B2
  clear K2 B2
  go_wp2_with fail
  go_loopg [0, 8] 16 (fun gk x0 i wr => ∃ (k L : Nat) (aq : Option Addr) (cq : Nat), k + gk = 16 ∧ x0 = .slice aq L cq ∧ i = .int .i64 k ∧ w.heap.size ≤ wr.heap.size ∧ Hid (∃ tk : List ByteArray, tk.length = L ∧ NS zz (.slice ao ts.length c0) w (.slice aq L cq) tk wr ∧ tk ++ ((List.range 16).drop k).flatMap VL = Fs))
  case atStart => exact ⟨0, Ln, ao1, c1, by omega, rfl, rfl, by omega, ⟨ts ++ T0, HLn.out, by rw [← HLn.out]; exact HN2.out, HFs.out⟩⟩
  case round =>
    obtain ⟨k, L, aq, cq, hk, rfl, rfl, hsr, hI⟩ := hrel
    by_cases hlt : k < 16
    · have l3 : (k : Int) < 16 := by omega
      have wk : IntKind.i64.wrap ((k : Int) + 1) = ((k + 1 : Nat) : Int) := by rw [IntKind.wrap_i64]; omega
      have w8k : IntKind.u8.wrap (k : Int) = (k : Int) := by rw [IntKind.wrap_u8]; omega
      obtain ⟨tk, hL, N3, hF3⟩ := hI.out
      rw [range_drop k hlt, List.flatMap_cons] at hF3
      have hpr := N3.pairs hn HQ.out
      have K1 := KH (k : Int) wr (by omega) hpr.slP
      have HI3 : Hid (_ ∧ _ ∧ _) := ⟨hL, N3, hF3⟩
      have hq2 : ∀ q, (Value.slice aq L cq).ownBlock = some q → q < wr.heap.size := fun q e => (N3.own.lt q e).2
      clear hI hL N3 hF3 hpr
      go_wp2_with fail
      refine K1.mono ?_
      rintro e w3 ⟨B3, a3, c3, rfl, hp3⟩
      have hs3 := B3.size
      obtain ⟨hL, N3, hF3⟩ := HI3.out
      have N4 := N3.below B3
      by_cases hm0 : (hvP d (k : Int) ps).length = 0
      · have hval : VL k = [] := by
          rw [← HVL.out]
          show (if _ then _ else _) = _
          rw [if_pos hm0]
        rw [hval, List.nil_append] at hF3
        have HI4 : Hid (∃ tk : List ByteArray, tk.length = L ∧ NS zz (.slice ao ts.length c0) w (.slice aq L cq) tk w3 ∧ tk ++ ((List.range 16).drop (k + 1)).flatMap VL = Fs) := ⟨tk, hL, N4, hF3⟩
        rw [hm0]
        clear N3 N4 hF3 hL HI3 K1 hp3 B3
        go_wp2
        go_roundg (gk - 1)
        case measure => omega
        case rel => exact ⟨k + 1, L, aq, cq, by omega, rfl, by first | rfl | (congr 1; omega), by omega, HI4.out⟩
      · have hval : VL k = nsF f (d + 1) (hvP d (k : Int) ps) := by
          rw [← HVL.out]
          show (if _ then _ else _) = _
          rw [if_neg hm0]
        have hp3q : slQ (.slice aq L cq) w3.heap.size w3 a3 (hvP d (k : Int) ps) := by
          rcases hp3 with h | ⟨b, o, h1, h2, h3, h4⟩
          · exact .inl h
          · exact .inr ⟨b, o, h1, h3, fun e => by have := hq2 b e.symm; omega, h4⟩
        have hFl3 : tk.length + (VL k).length < 900000 := by
          have := congrArg List.length hF3
          rw [List.length_append, List.length_append] at this
          omega
        rw [hval] at hF3 hFl3
        have ho := N4.own
        have K5 := HKN.out (k : Int) hm0 (.slice aq L cq) tk a3 c3 w3.heap.size w3 (Nat.le_refl _) hp3q ho (by omega) hFl3
        obtain ⟨M, hM⟩ : ∃ M, (hvP d (k : Int) ps).length = M := ⟨_, rfl⟩
        obtain ⟨G5, hG5⟩ : ∃ G, GrR zz (.slice aq L cq) (tk ++ nsF f (d + 1) (hvP d (k : Int) ps)) w3 = G := ⟨_, rfl⟩
        have HG5 : Hid (GrR zz (.slice aq L cq) (tk ++ nsF f (d + 1) (hvP d (k : Int) ps)) w3 = G5) := hG5
        rw [hM] at K5 hm0 ⊢
        rw [hG5] at K5
        have lM : (0 : Int) < M := by omega
        have HI5 : Hid (_ ∧ _) := ⟨N4, hF3⟩
        clear N3 N4 hF3 hL HI3 K1 hp3 B3 hp3q hFl3 ho hG5 hval hM
        go_wp2_with fail
        refine K5.mono ?_
        intro e w6 hg
        rw [← HG5.out] at hg
        obtain ⟨N4, hF3⟩ := HI5.out
        obtain ⟨v6, rfl, N6⟩ := NS.next N4 hg
        obtain ⟨ao6, c6, rfl⟩ := N6.slice
        have hs6 := N6.gr.size
        obtain ⟨L6, hL6⟩ : ∃ n, (tk ++ nsF f (d + 1) (hvP d (k : Int) ps)).length = n := ⟨_, rfl⟩
        rw [hL6] at N6 ⊢
        have HI6 : Hid (∃ tk : List ByteArray, tk.length = L6 ∧ NS zz (.slice ao ts.length c0) w (.slice ao6 L6 c6) tk w6 ∧ tk ++ ((List.range 16).drop (k + 1)).flatMap VL = Fs) := ⟨_, hL6, N6, by rw [List.append_assoc]; exact hF3⟩
        clear N4 hF3 hg N6 hL6 K5 HI5 HG5
        go_wp2
        go_roundg (gk - 1)
        case measure => omega
        case rel => exact ⟨k + 1, L6, ao6, c6, by omega, rfl, by first | rfl | (congr 1; omega), by omega, HI6.out⟩
    · obtain rfl : k = 16 := by omega
      have l3 : ¬ ((16 : Nat) : Int) < 16 := by decide
      obtain ⟨tk, hL, N3, hF3⟩ := hI.out
      rw [List.drop_of_length_le (by simp), List.flatMap_nil, List.append_nil] at hF3
      subst hF3
      have hf2 : G2 (.returned (.slice aq L cq)) wr := by rw [← HG2.out]; exact N3.fin
      have HF : Hid (G2 (.returned (.slice aq L cq)) wr) := hf2
      clear N3 hf2 hL hI
      go_wp2
      exact HF.out
theorem ns_all : ∀ f : Nat, NsC f
  | 0 => fun ps d hf hr hok => by
    have h0 := hok.pos
    have h1 := hok.sz 0 ((ents (srt ps))[0]'(by omega)) (List.getElem?_eq_getElem (by omega))
    omega
  | f + 1 => fun ps d hf hr hok zz v ts a c n w hn hp ho hz hlen => by
    match ps, hr, hok, hp, hlen with
    | [], _, hok, _, _ => exact absurd hok.pos (by rw [ents_len, (srt_perm []).length_eq]; decide)
    | [p0], hr, hok, hp, hlen => exact nodes_leaf f d p0 hf hr hok zz v ts a c n w hn hp ho hz (by omega)
    | p0 :: p1 :: r, hr, hok, hp, hlen =>
      by_cases ha : alkV d (enP p0) ((p1 :: r).map enP) = 0
      · exact nodes_fork f d (ns_all f) p0 (p1 :: r) (by simp) hf hr hok ha zz v ts a c n w hn hp ho hz hlen
      · exact nodes_bridge f d (ns_all f) p0 (p1 :: r) (by simp) hf hr hok _ rfl ha zz v ts a c n w hn hp ho hz hlen
end Go.Proofs.YtbmapdkcccdmfaaDoor
namespace Go.Proofs.YtbmapdkcccdmfaaDoor
open Go.RowKit Go.Shelf Go.Sort

theorem ns_top {es : List Pr} (h0 : es.length ≠ 0) : nsF 129 0 es = tdS true nodesL es := by
  have h' : (srt es).length ≠ 0 := by rw [(srt_perm es).length_eq]; exact h0
  unfold tdS wyL nsF noF tdX
  rw [if_pos (.inl rfl), if_pos rfl, if_neg h']
  rfl
set_option maxRecDepth 20000 in
set_option maxHeartbeats 1000000 in
theorem rnodes_one {b : Bool} {es : List Pr} (hb0 : b = true ↔ RightP es) (a : Option Addr) (c n : Nat) (w : World) (hn : n ≤ w.heap.size) (hs : slP n w a es) :
    Calls Tryd.prog 13 #[.slice a es.length c] w fun e w' => (∃ a' c', e = .returned (.tuple #[.slice a' (tdS b nodesL es).length c', .int .i64 (erS b)]) ∧ slS w'.heap.size w' a' (tdS b nodesL es)) ∧ Below w.heap.size w w' := by
  have K1 := rright6_any es a c n w hn hs
  have hlen := tdN_len es hb0
  obtain ⟨xs, hxs⟩ : ∃ xs, tdS b nodesL es = xs := ⟨_, rfl⟩
  obtain ⟨N, hN⟩ : ∃ N, es.length = N := ⟨_, rfl⟩
  cases b with
  | false =>
    have hnr : ¬ RightP es := fun h => Bool.noConfusion (hb0.2 h)
    have HNR : Hid (¬ RightP es) := hnr
    have e1 : xs = [] := hxs.symm
    have e2 : erS false = 60 := rfl
    rw [hxs, e1, e2, hN] 
    rw [hN] at K1
    clear hxs hlen e1 e2 hb0 hnr hs hN
    go_enter Tryd.func13, Tryd.ntmps13
    go_wp2_with fail
    refine K1.mono ?_
    rintro e w1 ⟨⟨q, rfl, h1⟩, B1⟩
    obtain rfl : q = false := by
      cases q with
      | false => rfl
      | true => exact absurd (h1.1 rfl) HNR.out
    clear h1 K1
    go_wp2
    exact bodyPost_ret (v := .tuple #[.slice none 0 0, .int .i64 60]) (by simp [results, Tryd.results13, go_sem]) rfl ⟨⟨none, 0, rfl, .inl rfl⟩, B1⟩
  | true =>
    have hr : RightP es := hb0.1 rfl
    have HR : Hid (RightP es) := hr
    have e2 : erS true = 0 := rfl
    rw [e2]
    by_cases h0 : es.length = 0
    · have e1 : xs = [] := by
        rw [← hxs]
        unfold tdS wyL
        rw [if_pos rfl, if_pos (by rw [(srt_perm es).length_eq]; exact h0)]
      rw [hxs, e1, h0]
      rw [h0] at K1
      clear hxs hlen e1 e2 hb0 hr hs hN h0
      go_enter Tryd.func13, Tryd.ntmps13
      go_wp2_with fail
      refine K1.mono ?_
      rintro e w1 ⟨⟨q, rfl, h1⟩, B1⟩
      obtain rfl : q = true := h1.2 HR.out
      clear h1 K1
      go_wp2
      exact bodyPost_ret (v := .tuple #[.slice none 0 0, .int .i64 0]) (by simp [results, Tryd.results13, go_sem]) rfl ⟨⟨none, 0, rfl, .inl rfl⟩, B1⟩
    · have KN := fun W hn hp => ns_all 129 es 0 (by omega) hr (ok_top hr h0) W.heap.size (.slice none 0 0) [] a c n W hn hp (World.ownsRow_nil _ _ _ _) (Nat.le_refl _) (by rw [ns_top h0]; simp; omega)
      rw [ns_top h0, hxs] at KN
      rw [hxs, hN]
      rw [hN] at K1 KN h0
      have l0 : ((N : Int) == 0) = false := by rw [beq_eq_false_iff_ne]; omega
      have HS : Hid _ := hs
      have HKN : Hid _ := KN
      clear hxs hlen e2 hb0 hr hs hN KN
      go_enter Tryd.func13, Tryd.ntmps13
      go_wp2_with fail
      refine K1.mono ?_
      rintro e w1 ⟨⟨q, rfl, h1⟩, B1⟩
      obtain rfl : q = true := h1.2 HR.out
      have hp1 := slP_below (B1.mono hn) HS.out
      have K2 := HKN.out w1 (Nat.le_trans hn B1.size) (hp1.elim .inl fun ⟨b, o, h1, h2, h3⟩ => .inr ⟨b, o, h1, h2, by simp [Value.ownBlock], h3⟩)
      rw [List.nil_append] at K2
      obtain ⟨G, hG⟩ : ∃ G, GrR w1.heap.size (.slice none 0 0) xs w1 = G := ⟨_, rfl⟩
      have HG : Hid (GrR w1.heap.size (.slice none 0 0) xs w1 = G) := hG
      have K3 : Calls Tryd.prog 30 #[.slice none 0 0, .slice a N c, .int .i64 0] w1 G := by rw [← hG]; exact K2
      clear h1 K1 K2 hG hp1
      go_wp2_with fail
      refine K3.mono ?_
      intro e w2 hg
      rw [← HG.out] at hg
      obtain ⟨v2, rfl, o1, o2, o3⟩ := hg
      obtain ⟨a2, c2, rfl, hsl⟩ := slS_owns o1
      have B2 : Below w1.heap.size w1 w2 := ⟨o2.os, o2.tape, o2.output, o2.size, fun k hk => o2.block k hk (by simp [Value.ownBlock])⟩
      have BW := belowStep B1 B1.size B2
      have HF : Hid (_ ∧ _) := ⟨hsl, BW⟩
      clear o1 o2 o3 hsl K3 B2 BW
      go_wp2
      exact bodyPost_ret (v := .tuple #[.slice a2 xs.length c2, .int .i64 0]) (by simp [results, Tryd.results13, go_sem]) rfl ⟨⟨a2, c2, rfl, HF.out.1⟩, HF.out.2⟩
end Go.Proofs.YtbmapdkcccdmfaaDoor
