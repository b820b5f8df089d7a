/- Lemmas: The reference's way: a list of 17. The reference's Prove; TrieWays' walk. TrieWays' walk. -/
import Derived.Test.YtfdjiofogohcmaaGreatDoorM1
import Derived.Test.YtfdjiofogohcmaaGreatDoorM10
import Derived.Test.YtfdjiofogohcmaaGreatDoorM11
import Derived.Test.YtfdjiofogohcmaaGreatDoorM12
import Derived.Test.YtfdjiofogohcmaaGreatDoorM13
import Derived.Test.YtfdjiofogohcmaaGreatDoorM14
import Derived.Test.YtfdjiofogohcmaaGreatDoorM15
import Derived.Test.YtfdjiofogohcmaaGreatDoorM16
import Derived.Test.YtfdjiofogohcmaaGreatDoorM17
import Derived.Test.YtfdjiofogohcmaaGreatDoorM18
import Derived.Test.YtfdjiofogohcmaaGreatDoorM19
import Derived.Test.YtfdjiofogohcmaaGreatDoorM2
import Derived.Test.YtfdjiofogohcmaaGreatDoorM20
import Derived.Test.YtfdjiofogohcmaaGreatDoorM21
import Derived.Test.YtfdjiofogohcmaaGreatDoorM22
import Derived.Test.YtfdjiofogohcmaaGreatDoorM23
import Derived.Test.YtfdjiofogohcmaaGreatDoorM24
import Derived.Test.YtfdjiofogohcmaaGreatDoorM25
import Derived.Test.YtfdjiofogohcmaaGreatDoorM26
import Derived.Test.YtfdjiofogohcmaaGreatDoorM27
import Derived.Test.YtfdjiofogohcmaaGreatDoorM28
import Derived.Test.YtfdjiofogohcmaaGreatDoorM29
import Derived.Test.YtfdjiofogohcmaaGreatDoorM3
import Derived.Test.YtfdjiofogohcmaaGreatDoorM30
import Derived.Test.YtfdjiofogohcmaaGreatDoorM31
import Derived.Test.YtfdjiofogohcmaaGreatDoorM32
import Derived.Test.YtfdjiofogohcmaaGreatDoorM33
import Derived.Test.YtfdjiofogohcmaaGreatDoorM34
import Derived.Test.YtfdjiofogohcmaaGreatDoorM35
import Derived.Test.YtfdjiofogohcmaaGreatDoorM36
import Derived.Test.YtfdjiofogohcmaaGreatDoorM37
import Derived.Test.YtfdjiofogohcmaaGreatDoorM38
import Derived.Test.YtfdjiofogohcmaaGreatDoorM39
import Derived.Test.YtfdjiofogohcmaaGreatDoorM4
import Derived.Test.YtfdjiofogohcmaaGreatDoorM40
import Derived.Test.YtfdjiofogohcmaaGreatDoorM41
import Derived.Test.YtfdjiofogohcmaaGreatDoorM42
import Derived.Test.YtfdjiofogohcmaaGreatDoorM43
import Derived.Test.YtfdjiofogohcmaaGreatDoorM5
import Derived.Test.YtfdjiofogohcmaaGreatDoorM6
import Derived.Test.YtfdjiofogohcmaaGreatDoorM7
import Derived.Test.YtfdjiofogohcmaaGreatDoorM8
import Derived.Test.YtfdjiofogohcmaaGreatDoorM9
import Derived.Test.YtfdjiofogohcmaaGreatDoorRows
namespace Go.Proofs.YtfdjiofogohcmaaGreatDoor
open Go.RowKit Go.Shelf Go.Sort
set_option maxRecDepth 20000 in
set_option maxHeartbeats 2000000 in
theorem way_fork (path : ByteArray) (f d : Nat) (hNs : WsC path f) (p0 : Pr) (rs : List Pr) (h2 : 1 ≤ rs.length) (hf : 129 ≤ f + 1 + d) (hr : RightP (p0 :: rs)) (hok : Ok d (ents (srt (p0 :: rs)))) (ha : alkV d (enP p0) (rs.map enP) = 0) (zz : Nat) (v : Value) (ts : List ByteArray) (a : Option Addr) (c n : Nat) (w : World) (hn : n ≤ w.heap.size) (hp : slQ v n w a (p0 :: rs)) (hown : w.ownsRow zz 9 1 v ts.length (ts.map .string)) (hzz : zz ≤ w.heap.size) (hlen : ts.length + (wsF (f + 1) d (p0 :: rs) path).length < 900000) :
    Calls Tryz.prog 33 #[v, .slice a (p0 :: rs).length c, .int .i64 d, .string path] w (GrR zz v (ts ++ wsF (f + 1) d (p0 :: rs) path) w) := by
  have hsz : ∀ p ∈ p0 :: rs, p.1.size ≤ 64 := fun p hp => by
    obtain ⟨j, hj⟩ := List.getElem?_of_mem hp
    exact ((pOk_iff p).1 (hr.2.1 j p hj)).2.1
  have hdd : ∀ p ∈ p0 :: rs, d ≤ (ofOf p.1).size := fun p hp => ((Ok_iff d _).1 hok).2.2.1 (enP p) (mem_ents.2 ⟨p, hp, rfl⟩) |>.1
  rw [wsF_fork hr hok h2 ha path] at hlen ⊢
  rw [List.length_append] at hlen
  have KT := rtold_any (f + 1) d (p0 :: rs) hf hr hok zz v ts a c n w hn hp.slP hown hzz (by omega)
  have KA := fun W hn hp => alike_any p0 rs hsz hr.1 d hdd a c n W hn hp
  rw [ha] at KA
  have hd128 : d ≤ 128 := by
    have h1 := hdd p0 (by simp)
    have h3 := hsz p0 (by simp)
    have h4 := of_sz p0.1
    omega
  have h1N : 2 ≤ (p0 :: rs).length := by rw [List.length_cons]; omega
  obtain ⟨ps, hps⟩ : ∃ ps, p0 :: rs = ps := ⟨_, rfl⟩
  rw [hps] at KT KA hr hok hp hsz hlen h1N ⊢
  have KH := fun (h : Int) W hn hp => having2_any ps hsz hr.1 d h a c n W hn hp
  have KN := fun (h : Int) (h0 : (hvP d h ps).length ≠ 0) => hNs (hvP d h ps) (d + 1) (by omega) (right_sub hr List.filter_sublist) (by rw [hv_srt hr]; exact hok.going h (by rw [← hv_srt hr, ents_len, (srt_perm _).length_eq]; exact h0)) zz
  obtain ⟨T0, hT0⟩ : ∃ T, tdX d (noF (f + 1) d ps) = T := ⟨_, rfl⟩
  rw [hT0] at KT hlen ⊢
  rw [← List.append_assoc]
  obtain ⟨y, hy⟩ : ∃ y, bt path d = y := ⟨_, rfl⟩
  rw [hy] at hlen ⊢
  have HY : Hid (bt path d = y) := hy
  obtain ⟨N, hN⟩ : ∃ N, ps.length = N := ⟨_, rfl⟩
  have l1 : ((N : Int) == 1) = false := by rw [beq_eq_false_iff_ne]; omega
  rw [hN] at KT KA KH ⊢
  have HQ : Hid _ := hp
  have HN : Hid _ := NS.refl hown
  obtain ⟨ao, c0, rfl⟩ := (NS.refl hown).slice
  have wd : IntKind.i64.wrap ((d : Int) + 1) = ((d + 1 : Nat) : Int) := by rw [IntKind.wrap_i64]; omega
  obtain ⟨G1, hG1⟩ : ∃ G, GrR zz (.slice ao ts.length c0) (ts ++ T0) w = G := ⟨_, rfl⟩
  have HG1 : Hid (GrR zz (.slice ao ts.length c0) (ts ++ T0) w = G1) := hG1
  obtain ⟨Fs, hFs⟩ : ∃ z, ts ++ T0 ++ (if d < path.size ∧ (hvP d y ps).length ≠ 0 then wsF f (d + 1) (hvP d y ps) path else []) = z := ⟨_, rfl⟩
  have HFs : Hid (ts ++ T0 ++ (if d < path.size ∧ (hvP d y ps).length ≠ 0 then wsF f (d + 1) (hvP d y ps) path else []) = Fs) := hFs
  have hFl : Fs.length < 900000 := by rw [← hFs, List.length_append, List.length_append]; omega
  obtain ⟨G2, hG2⟩ : ∃ G, GrR zz (.slice ao ts.length c0) Fs w = G := ⟨_, rfl⟩
  have HG2 : Hid (GrR zz (.slice ao ts.length c0) Fs w = G2) := hG2
  rw [hG1] at KT
  rw [hFs, hG2]
  have HKN : Hid _ := KN
  clear hG1 hG2 hFs hT0 hp hown hr hok hsz hdd ha hN hlen h1N hps hy KN
  go_enter Tryz.func33, Tryz.ntmps33
  go_wp2_with fail
  refine KT.mono ?_
  intro e w1 hg
  rw [← HG1.out] at hg
  obtain ⟨v1, rfl, N1⟩ := NS.next HN.out hg
  obtain ⟨ao1, c1, rfl⟩ := N1.slice
  have hs1 := N1.gr.size
  have hp1 := N1.pairs hn HQ.out
  have HN1 : Hid _ := N1
  have K2 := KA w1 (by omega) hp1.slP
  obtain ⟨Ln, hLn⟩ : ∃ n, (ts ++ T0).length = n := ⟨_, rfl⟩
  have HLn : Hid _ := hLn
  rw [hLn]
  clear N1 hg KT KA hp1 hLn
  go_wp2_with fail
  refine K2.mono ?_
  rintro e w2 ⟨rfl, B2⟩
  have hs2 := B2.size
  have HN2 : Hid _ := HN1.out.below B2
  clear K2 B2
  by_cases hd1 : d < path.size
  · have m1 : ¬ (path.size : Int) ≤ d := by omega
    have m2 : (d : Int) < path.size := by omega
    have hyb := bt_get path d hd1
    rw [HY.out] at hyb
    have hpr := HN2.out.pairs hn HQ.out
    have K3 := KH y w2 (by omega) hpr.slP
    have hq2 : ∀ q, (Value.slice ao1 (ts ++ T0).length c1).ownBlock = some q → q < w2.heap.size := fun q e => (HN2.out.own.lt q e).2
    have hq3 : ∀ q, (Value.slice ao1 Ln c1).ownBlock = some q → q < w2.heap.size := fun q e => hq2 q (by rw [HLn.out]; exact e)
    clear hpr hq2
    go_wp2_with fail
    refine K3.mono ?_
    rintro e w3 ⟨B3, a3, c3, rfl, hp3⟩
    have hs3 := B3.size
    have N3 := HN2.out.below B3
    rw [HLn.out] at N3
    by_cases hm0 : (hvP d y ps).length = 0
    · have hFs2 : ts ++ T0 = Fs := by rw [← HFs.out, if_neg (fun h => h.2 hm0), List.append_nil]
      have hf2 : G2 (.returned (.slice ao1 Ln c1)) w3 := by rw [← HG2.out, ← hFs2]; exact N3.fin
      have HF : Hid (G2 (.returned (.slice ao1 Ln c1)) w3) := hf2
      rw [hm0]
      clear N3 hf2 hFs2 K3 hp3 B3
      go_wp2
      exact HF.out
    · have hFs2 : ts ++ T0 ++ wsF f (d + 1) (hvP d y ps) path = Fs := by rw [← HFs.out, if_pos ⟨hd1, hm0⟩]
      have hp3q : slQ (.slice ao1 Ln c1) w3.heap.size w3 a3 (hvP d y ps) := by
        rcases hp3 with h | ⟨b, o, h1, h2, h3, h4⟩
        · exact .inl h
        · exact .inr ⟨b, o, h1, h3, fun e => by have := hq3 b e.symm; omega, h4⟩
      have K5 := HKN.out y hm0 (.slice ao1 Ln c1) (ts ++ T0) a3 c3 w3.heap.size w3 (Nat.le_refl _) hp3q N3.own (by omega) (by
        have := congrArg List.length hFs2
        rw [List.length_append] at this
        omega)
      rw [hFs2] at K5
      obtain ⟨M, hM⟩ : ∃ M, (hvP d y ps).length = M := ⟨_, rfl⟩
      obtain ⟨G5, hG5⟩ : ∃ G, GrR zz (.slice ao1 Ln c1) Fs w3 = G := ⟨_, rfl⟩
      have HG5 : Hid (GrR zz (.slice ao1 Ln c1) Fs w3 = G5) := hG5
      rw [hM] at K5 hm0 ⊢
      rw [hG5] at K5
      have lM : ((M : Int) == 0) = false := by rw [beq_eq_false_iff_ne]; omega
      have HN3 : Hid _ := N3
      clear N3 K3 hp3 B3 hp3q hG5 hM hFs2
      go_wp2_with fail
      refine K5.mono ?_
      intro e w6 hg
      rw [← HG5.out] at hg
      obtain ⟨v6, rfl, N6⟩ := NS.next HN3.out hg
      obtain ⟨ao6, c6, rfl⟩ := N6.slice
      obtain ⟨Ln6, hLn6⟩ : ∃ n, Fs.length = n := ⟨_, rfl⟩
      have hf2 : G2 (.returned (.slice ao6 Ln6 c6)) w6 := by rw [← HG2.out, ← hLn6]; exact N6.fin
      have HF : Hid (G2 (.returned (.slice ao6 Ln6 c6)) w6) := hf2
      rw [hLn6]
      clear N6 hg K5 hf2 hLn6
      go_wp2
      exact HF.out
  · have m1 : (path.size : Int) ≤ d := by omega
    have hFs2 : ts ++ T0 = Fs := by rw [← HFs.out, if_neg (fun h => hd1 h.1), List.append_nil]
    have N3 := HN2.out
    rw [HLn.out] at N3
    have hf2 : G2 (.returned (.slice ao1 Ln c1)) w2 := by rw [← HG2.out, ← hFs2]; exact N3.fin
    have HF : Hid (G2 (.returned (.slice ao1 Ln c1)) w2) := hf2
    clear N3 hf2 hFs2
    go_wp2
    exact HF.out
theorem ws_all (path : ByteArray) : ∀ f : Nat, WsC path f
  | 0 => fun ps d hf hr hok => by
    have h0 := hok.pos
    have h1 := hok.sz 0 ((ents (srt ps))[0]'(by omega)) (List.getElem?_eq_getElem (by omega))
    omega
  | f + 1 => fun ps d hf hr hok zz v ts a c n w hn hp ho hz hlen => by
    match ps, hr, hok, hp, hlen with
    | [], _, hok, _, _ => exact absurd hok.pos (by rw [ents_len, (srt_perm []).length_eq]; decide)
    | [p0], hr, hok, hp, hlen => exact way_leaf path f d p0 hf hr hok zz v ts a c n w hn hp ho hz (by omega)
    | p0 :: p1 :: r, hr, hok, hp, hlen =>
      by_cases ha : alkV d (enP p0) ((p1 :: r).map enP) = 0
      · exact way_fork path f d (ws_all path f) p0 (p1 :: r) (by simp) hf hr hok ha zz v ts a c n w hn hp ho hz hlen
      · exact way_bridge path f d (ws_all path f) p0 (p1 :: r) (by simp) hf hr hok _ rfl ha zz v ts a c n w hn hp ho hz hlen
end Go.Proofs.YtfdjiofogohcmaaGreatDoor
namespace Go.Proofs.YtfdjiofogohcmaaGreatDoor
open Go.RowKit Go.Shelf Go.Sort

/-- What stands behind 128 half bytes leads nowhere. -/
theorem ws_cut (path : ByteArray) : ∀ (f d : Nat) (ps : List Pr), 129 ≤ f + d → RightP ps → Ok d (ents (srt ps)) → wsF f d ps (path.extract 0 128) = wsF f d ps path
  | 0, d, ps, hf, hr, hok => by
    have h0 := hok.pos
    have h1 := hok.sz 0 ((ents (srt ps))[0]'(by omega)) (List.getElem?_eq_getElem (by omega))
    omega
  | f + 1, d, ps, hf, hr, hok => by
    have hsz : (path.extract 0 128).size = min 128 path.size := by rw [ByteArray.size_extract]; omega
    match ps, hr, hok with
    | [], _, hok => exact absurd hok.pos (by rw [ents_len, (srt_perm []).length_eq]; decide)
    | [p0], hr, hok => rw [wsF_one, wsF_one]
    | p0 :: p1 :: r, hr, hok =>
      by_cases ha : alkV d (enP p0) ((p1 :: r).map enP) = 0
      · rw [wsF_fork hr hok (by simp) ha, wsF_fork hr hok (by simp) ha]
        congr 1
        obtain ⟨k1, k2, _, _⟩ := hok.rest (by rw [ents_len, (srt_perm _).length_eq]; simp)
        have hp := k1.pos
        have h1 := k2 0 _ (List.getElem?_eq_getElem (by omega))
        have h3 := (k1.sz 0 _ (List.getElem?_eq_getElem (by omega))).2.1
        by_cases hd : d < path.size
        · have hb : bt (path.extract 0 128) d = bt path d := by
            have e1 := bt_get (path.extract 0 128) d (by omega)
            rw [ByteArray.getElem_extract] at e1
            have e2 := bt_get path (0 + d) (by omega)
            have e3 := e1.symm.trans e2
            rw [Nat.zero_add] at e3
            exact e3
          rw [hb]
          by_cases hm : (hvP d (bt path d) (p0 :: p1 :: r)).length = 0
          · rw [if_neg (fun h => h.2 hm), if_neg (fun h => h.2 hm)]
          · rw [if_pos ⟨by omega, hm⟩, if_pos ⟨hd, hm⟩]
            exact ws_cut path f (d + 1) _ (by omega) (right_sub hr List.filter_sublist) (by rw [hv_srt hr]; exact hok.going _ (by rw [← hv_srt hr, ents_len, (srt_perm _).length_eq]; exact hm))
        · rw [if_neg (fun h => by have := h.1; omega), if_neg (fun h => hd h.1)]
      · obtain ⟨av, hav⟩ : ∃ a, alkV d (enP p0) ((p1 :: r).map enP) = a := ⟨_, rfl⟩
        have h0 : av ≠ 0 := by rw [← hav]; exact ha
        have hok2 := (noF_bridge (f := f) hok (by simp) hav h0).2
        have hda := ((Ok_iff (d + av) _).1 hok2).2.2.1 (enP p0) (mem_ents.2 ⟨p0, by simp, rfl⟩)
        rw [wsF_bridge hok (by simp) hav h0, wsF_bridge hok (by simp) hav h0]
        congr 1
        have he : (path.extract 0 128).extract d (d + av) = path.extract d (d + av) := by
          rw [ByteArray.extract_extract]
          congr 1
          · omega
          · omega
        rw [he, hsz, ws_cut path f (d + av) _ (by omega) hr hok2]
        by_cases hb : d + av ≤ path.size ∧ path.extract d (d + av) = (tl d (enP p0)).extract 0 av
        · rw [if_pos hb, if_pos ⟨by omega, hb.2⟩]
        · rw [if_neg hb, if_neg (fun h => hb ⟨by have := h.1; omega, h.2⟩)]
theorem ky_cut (key : ByteArray) : kyP key = (ofOf key).extract 0 128 := by
  unfold kyP
  have s1 : (key.extract 0 (min key.size 64)).size = min key.size 64 := by rw [ByteArray.size_extract]; omega
  have s2 : ((ofOf key).extract 0 128).size = 2 * min key.size 64 := by rw [ByteArray.size_extract, of_sz]; omega
  refine ext_bt _ _ (by rw [of_sz, s1, s2]) fun j hj => ?_
  rw [of_sz, s1] at hj
  have e1 := bt_get ((ofOf key).extract 0 128) j (by omega)
  rw [ByteArray.getElem_extract] at e1
  have e2 := bt_get (ofOf key) (0 + j) (by rw [of_sz]; omega)
  have e3 := e1.symm.trans e2
  rw [Nat.zero_add] at e3
  rw [e3, of_bt _ j (by omega), of_bt _ j (by omega)]
  have k1 := bt_get (key.extract 0 (min key.size 64)) (j / 2) (by omega)
  rw [ByteArray.getElem_extract] at k1
  have k2 := bt_get key (0 + j / 2) (by omega)
  have k3 := k1.symm.trans k2
  rw [Nat.zero_add] at k3
  rw [k3]
theorem ws_top {es : List Pr} {key : ByteArray} (hr : RightP es) (h0 : es.length ≠ 0) : wsF 129 0 es (ofOf key) = tdS true (wayL (kyP key)) es := by
  have h' : (srt es).length ≠ 0 := by rw [(srt_perm es).length_eq]; exact h0
  rw [← ws_cut (ofOf key) 129 0 es (by omega) hr (ok_top hr h0), ← ky_cut]
  unfold tdS wyL wsF noF tdX
  rw [if_pos (.inl rfl), if_pos rfl, if_neg h']
  have e : (kyP key).extract 0 (kyP key).size = kyP key := ByteArray.extract_zero_size
  rw [e]
  rfl
set_option maxRecDepth 20000 in
set_option maxHeartbeats 1000000 in
theorem rprove_one {b : Bool} {es : List Pr} (hb0 : b = true ↔ RightP es) (key : ByteArray) (hkey : key.size ≤ 70368744177664) (a : Option Addr) (c n : Nat) (w : World) (hn : n ≤ w.heap.size) (hs : slP n w a es) :
    Calls Tryz.prog 16 #[.slice a es.length c, .string key] w fun e w' => (∃ a' c', e = .returned (.tuple #[.slice a' (tdS b (wayL (kyP key)) es).length c', .int .i64 (erS b)]) ∧ slS w'.heap.size w' a' (tdS b (wayL (kyP key)) es)) ∧ Below w.heap.size w w' := by
  have K1 := rright6_any es a c n w hn hs
  have hlen := tdW_len (kyP key) es hb0
  obtain ⟨xs, hxs⟩ : ∃ xs, tdS b (wayL (kyP key)) es = xs := ⟨_, rfl⟩
  obtain ⟨N, hN⟩ : ∃ N, es.length = N := ⟨_, rfl⟩
  cases b with
  | false =>
    have hnr : ¬ RightP es := fun h => Bool.noConfusion (hb0.2 h)
    have HNR : Hid (¬ RightP es) := hnr
    have e1 : xs = [] := hxs.symm
    have e2 : erS false = 60 := rfl
    rw [hxs, e1, e2, hN] 
    rw [hN] at K1
    clear hxs hlen e1 e2 hb0 hnr hs hN
    go_enter Tryz.func16, Tryz.ntmps16
    go_wp2_with fail
    refine K1.mono ?_
    rintro e w1 ⟨⟨q, rfl, h1⟩, B1⟩
    obtain rfl : q = false := by
      cases q with
      | false => rfl
      | true => exact absurd (h1.1 rfl) HNR.out
    clear h1 K1
    go_wp2
    exact bodyPost_ret (v := .tuple #[.slice none 0 0, .int .i64 60]) (by simp [results, Tryz.results16, go_sem]) rfl ⟨⟨none, 0, rfl, .inl rfl⟩, B1⟩
  | true =>
    have hr : RightP es := hb0.1 rfl
    have HR : Hid (RightP es) := hr
    have e2 : erS true = 0 := rfl
    rw [e2]
    by_cases h0 : es.length = 0
    · have e1 : xs = [] := by
        rw [← hxs]
        unfold tdS wyL
        rw [if_pos rfl, if_pos (by rw [(srt_perm es).length_eq]; exact h0)]
      rw [hxs, e1, h0]
      rw [h0] at K1
      clear hxs hlen e1 e2 hb0 hr hs hN h0
      go_enter Tryz.func16, Tryz.ntmps16
      go_wp2_with fail
      refine K1.mono ?_
      rintro e w1 ⟨⟨q, rfl, h1⟩, B1⟩
      obtain rfl : q = true := h1.2 HR.out
      clear h1 K1
      go_wp2
      exact bodyPost_ret (v := .tuple #[.slice none 0 0, .int .i64 0]) (by simp [results, Tryz.results16, go_sem]) rfl ⟨⟨none, 0, rfl, .inl rfl⟩, B1⟩
    · have KN := fun W hn hp => ws_all (ofOf key) 129 es 0 (by omega) hr (ok_top hr h0) W.heap.size (.slice none 0 0) [] a c n W hn hp (World.ownsRow_nil _ _ _ _) (Nat.le_refl _) (by rw [ws_top hr h0]; simp; omega)
      rw [ws_top hr h0, hxs] at KN
      rw [hxs, hN]
      rw [hN] at K1 KN h0
      have l0 : ((N : Int) == 0) = false := by rw [beq_eq_false_iff_ne]; omega
      have HS : Hid _ := hs
      have HKN : Hid _ := KN
      clear hxs hlen e2 hb0 hr hs hN KN
      go_enter Tryz.func16, Tryz.ntmps16
      go_wp2_with fail
      refine K1.mono ?_
      rintro e w1 ⟨⟨q, rfl, h1⟩, B1⟩
      obtain rfl : q = true := h1.2 HR.out
      clear K1 h1
      have KO := rof_any key hkey w1
      go_wp2_with fail
      refine KO.mono ?_
      rintro e w2' ⟨rfl, B1'⟩
      replace B1 := belowStep B1 B1.size B1'
      clear KO B1'
      have hp1 := slP_below (B1.mono hn) HS.out
      have K2 := HKN.out w2' (Nat.le_trans hn B1.size) (hp1.elim .inl fun ⟨b, o, h1, h2, h3⟩ => .inr ⟨b, o, h1, h2, by simp [Value.ownBlock], h3⟩)
      rw [List.nil_append] at K2
      obtain ⟨G, hG⟩ : ∃ G, GrR w2'.heap.size (.slice none 0 0) xs w2' = G := ⟨_, rfl⟩
      have HG : Hid (GrR w2'.heap.size (.slice none 0 0) xs w2' = G) := hG
      have K3 : Calls Tryz.prog 33 #[.slice none 0 0, .slice a N c, .int .i64 0, .string (ofOf key)] w2' G := by rw [← hG]; exact K2
      clear K2 hG hp1
      go_wp2_with fail
      refine K3.mono ?_
      intro e w2 hg
      rw [← HG.out] at hg
      obtain ⟨v2, rfl, o1, o2, o3⟩ := hg
      obtain ⟨a2, c2, rfl, hsl⟩ := slS_owns o1
      have B2 : Below w2'.heap.size w2' w2 := ⟨o2.os, o2.tape, o2.output, o2.size, fun k hk => o2.block k hk (by simp [Value.ownBlock])⟩
      have BW := belowStep B1 B1.size B2
      have HF : Hid (_ ∧ _) := ⟨hsl, BW⟩
      clear o1 o2 o3 hsl K3 B2 BW
      go_wp2
      exact bodyPost_ret (v := .tuple #[.slice a2 xs.length c2, .int .i64 0]) (by simp [results, Tryz.results16, go_sem]) rfl ⟨⟨a2, c2, rfl, HF.out.1⟩, HF.out.2⟩
end Go.Proofs.YtfdjiofogohcmaaGreatDoor
namespace Go.Proofs.YtfdjiofogohcmaaGreatDoor
open Go.RowKit Go.Shelf Go.Sort

set_option maxRecDepth 20000 in
set_option maxHeartbeats 4000000 in
theorem tways_any (es : List Pr) (a : Option Addr) (c : Nat) (key : ByteArray) (hkey : key.size ≤ 1048576) (w : World) (hl : Laid w) (hp : slP w.heap.size w a es) :
    Calls Tryz.prog 5 #[.slice a es.length c, .string key] w fun e w' => e = .returned (.bool true) ∧ Below w.heap.size w w' := by
  go_enter Tryz.func5, Tryz.ntmps5
  go_wp2_with fail
  refine (shown6_any w hl).mono ?_
  rintro e w1 ⟨rfl, B1⟩
  have hl1 := hl.below B1
  have K1 := some_any es a c w1 (slP_up (slP_below B1 hp) B1.size)
  clear hp
  go_wp2_with fail
  refine K1.mono ?_
  rintro e w2 ⟨B2, a2, c2, rfl, hp2⟩
  have B12 := belowStep B1 B1.size B2
  have hl2 := hl1.below B2
  obtain ⟨Ls, hL⟩ : ∃ Ls, smE es = Ls := ⟨_, rfl⟩
  rw [hL] at hp2 ⊢
  clear hL K1 B1 B2
  obtain ⟨q, hq⟩ := right_bool Ls
  have KP := fun W hl hn hs => prove_one hq (List.Perm.refl Ls) key a2 c2 w2.heap.size W hl hn hs
  have KN := fun W hl hn hs => nodes_one hq (List.Perm.refl Ls) a2 c2 w2.heap.size W hl hn hs
  have RP := fun W hn hs => rprove_one hq key (by omega) a2 c2 w2.heap.size W hn hs
  have RN := fun W hn hs => rnodes_one hq a2 c2 w2.heap.size W hn hs
  have hlen := tdW_len (kyP key) Ls hq
  have hlen2 := tdN_len Ls hq
  obtain ⟨n, hn⟩ : ∃ n, Ls.length = n := ⟨_, rfl⟩
  obtain ⟨x, hx⟩ : ∃ x, erS q = x := ⟨_, rfl⟩
  obtain ⟨xs, hxs⟩ : ∃ xs, tdS q (wayL (kyP key)) Ls = xs := ⟨_, rfl⟩
  obtain ⟨ys, hys⟩ : ∃ xs, tdS q nodesL Ls = xs := ⟨_, rfl⟩
  rw [hxs, hx] at KP RP
  rw [hys, hx] at KN RN
  rw [hxs] at hlen
  rw [hys] at hlen2
  have KS := fun a a' c c' n w hn h1 h2 => same6_any xs xs (by omega) (by omega) a a' c c' n w hn h1 h2
  have KS2 := fun a a' c c' n w hn h1 h2 => same6_any ys ys (by omega) (by omega) a a' c c' n w hn h1 h2
  obtain ⟨N, hN⟩ : ∃ y, xs.length = y := ⟨_, rfl⟩
  obtain ⟨M, hM⟩ : ∃ y, ys.length = y := ⟨_, rfl⟩
  rw [decide_eq_true rfl, hN] at KS
  rw [decide_eq_true rfl, hM] at KS2
  rw [hN] at KP RP
  rw [hM] at KN RN
  rw [hn] at KP KN RP RN ⊢
  have HP2 : Hid _ := hp2
  clear hp2 hx hxs hys hq hN hM hn hlen hlen2
  go_wp2_with fail
  refine (KP w2 hl2 (Nat.le_refl _) HP2.out).mono ?_
  rintro e w3 ⟨⟨a3, c3, rfl, s3⟩, B3⟩
  have B13 := belowStep B12 B12.size B3
  have hl3 := hl2.below B3
  have hs23 := B3.size
  have HS3 : Hid _ := s3
  clear KP s3
  go_wp2_with fail
  refine (RP w3 hs23 (slP_below B3 HP2.out)).mono ?_
  rintro e w4 ⟨⟨a4, c4, rfl, s4⟩, B4⟩
  have B14 := belowStep B13 B13.size B4
  have B24 := belowStep B3 hs23 B4
  have hl4 := hl3.below B4
  have hs34 := B4.size
  have HS4 : Hid (_ ∧ _) := ⟨slS_up (slS_below B4 HS3.out) hs34, s4⟩
  clear RP s4 HS3
  go_wp2_with fail
  refine (KN w4 hl4 (by omega) (slP_below B24 HP2.out)).mono ?_
  rintro e w5 ⟨⟨a5, c5, rfl, s5⟩, B5⟩
  have B15 := belowStep B14 B14.size B5
  have B25 := belowStep B24 (by omega) B5
  have hs45 := B5.size
  have HS5 : Hid (_ ∧ _ ∧ _) := ⟨slS_up (slS_below B5 HS4.out.1) hs45, slS_up (slS_below B5 HS4.out.2) hs45, s5⟩
  clear KN s5 HS4
  go_wp2_with fail
  refine (RN w5 (by omega) (slP_below B25 HP2.out)).mono ?_
  rintro e w6 ⟨⟨a6, c6, rfl, s6⟩, B6⟩
  have B16 := belowStep B15 B15.size B6
  have hs56 := B6.size
  have t1 := slS_up (slS_below B6 HS5.out.1) hs56
  have t2 := slS_up (slS_below B6 HS5.out.2.1) hs56
  have t3 := slS_up (slS_below B6 HS5.out.2.2) hs56
  have K8 := KS a3 a4 c3 c4 w6.heap.size w6 (Nat.le_refl _) t1 t2
  have HS6 : Hid (_ ∧ _) := ⟨t3, s6⟩
  clear RN s6 HS5 t1 t2 t3 KS
  go_wp2_with fail
  refine K8.mono ?_
  rintro e w7 ⟨rfl, B7⟩
  have B17 := belowStep B16 B16.size B7
  have hs67 := B7.size
  have K9 := KS2 a5 a6 c5 c6 w7.heap.size w7 (Nat.le_refl _) (slS_up (slS_below B7 HS6.out.1) hs67) (slS_up (slS_below B7 HS6.out.2) hs67)
  clear K8 KS2 HS6
  go_wp2_with fail
  refine K9.mono ?_
  rintro e w8 ⟨rfl, B8⟩
  have BW := belowStep B17 B17.size B8
  clear K9
  go_wp2
  go_ret
  exact ⟨by simp, BW⟩
end Go.Proofs.YtfdjiofogohcmaaGreatDoor
