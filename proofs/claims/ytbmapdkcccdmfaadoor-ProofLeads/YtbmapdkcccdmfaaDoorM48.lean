/- Lemmas: The reference's told. What all nodes tell, half by half. The reference's nodes. What a way tells, as the reference goes it. The reference's way: a leaf, a bridge. The reference's way: a list of 17. The reference's Prove; TrieWays' walk. -/
import Derived.Test.YtbmapdkcccdmfaaDoorM1
import Derived.Test.YtbmapdkcccdmfaaDoorM10
import Derived.Test.YtbmapdkcccdmfaaDoorM11
import Derived.Test.YtbmapdkcccdmfaaDoorM12
import Derived.Test.YtbmapdkcccdmfaaDoorM13
import Derived.Test.YtbmapdkcccdmfaaDoorM14
import Derived.Test.YtbmapdkcccdmfaaDoorM15
import Derived.Test.YtbmapdkcccdmfaaDoorM16
import Derived.Test.YtbmapdkcccdmfaaDoorM17
import Derived.Test.YtbmapdkcccdmfaaDoorM18
import Derived.Test.YtbmapdkcccdmfaaDoorM19
import Derived.Test.YtbmapdkcccdmfaaDoorM2
import Derived.Test.YtbmapdkcccdmfaaDoorM20
import Derived.Test.YtbmapdkcccdmfaaDoorM21
import Derived.Test.YtbmapdkcccdmfaaDoorM22
import Derived.Test.YtbmapdkcccdmfaaDoorM23
import Derived.Test.YtbmapdkcccdmfaaDoorM24
import Derived.Test.YtbmapdkcccdmfaaDoorM25
import Derived.Test.YtbmapdkcccdmfaaDoorM26
import Derived.Test.YtbmapdkcccdmfaaDoorM29
import Derived.Test.YtbmapdkcccdmfaaDoorM3
import Derived.Test.YtbmapdkcccdmfaaDoorM30
import Derived.Test.YtbmapdkcccdmfaaDoorM32
import Derived.Test.YtbmapdkcccdmfaaDoorM33
import Derived.Test.YtbmapdkcccdmfaaDoorM34
import Derived.Test.YtbmapdkcccdmfaaDoorM35
import Derived.Test.YtbmapdkcccdmfaaDoorM36
import Derived.Test.YtbmapdkcccdmfaaDoorM37
import Derived.Test.YtbmapdkcccdmfaaDoorM38
import Derived.Test.YtbmapdkcccdmfaaDoorM39
import Derived.Test.YtbmapdkcccdmfaaDoorM4
import Derived.Test.YtbmapdkcccdmfaaDoorM40
import Derived.Test.YtbmapdkcccdmfaaDoorM41
import Derived.Test.YtbmapdkcccdmfaaDoorM42
import Derived.Test.YtbmapdkcccdmfaaDoorM43
import Derived.Test.YtbmapdkcccdmfaaDoorM44
import Derived.Test.YtbmapdkcccdmfaaDoorM46
import Derived.Test.YtbmapdkcccdmfaaDoorM47
import Derived.Test.YtbmapdkcccdmfaaDoorM5
import Derived.Test.YtbmapdkcccdmfaaDoorM6
import Derived.Test.YtbmapdkcccdmfaaDoorM7
import Derived.Test.YtbmapdkcccdmfaaDoorM8
import Derived.Test.YtbmapdkcccdmfaaDoorM9
import Derived.Test.YtbmapdkcccdmfaaDoorRows
namespace Go.Proofs.YtbmapdkcccdmfaaDoor
open Go.RowKit Go.Shelf Go.Sort

def tdX (d : Nat) (x : It) : List ByteArray := if d = 0 ∨ 32 ≤ (eS x).size then [eS x] else []
def GrR (zz : Nat) (v : Value) (ts : List ByteArray) (W : World) (e : Ending) (W' : World) : Prop := ∃ v', e = .returned v' ∧ W'.ownsRow zz 9 1 v' ts.length (ts.map .string) ∧ W.grownBy W' v.ownBlock ∧ (v'.ownBlock = v.ownBlock ∨ ∃ g, v'.ownBlock = some g ∧ W.heap.size ≤ g)
theorem grown_below {W W' : World} {row : Option Nat} (hb : Below W.heap.size W W') : W.grownBy W' row := ⟨hb.os, hb.tape, hb.output, hb.size, fun k hk _ => hb.block k hk⟩
theorem grown_step {W W1 W2 : World} {row row2 : Option Nat} (h1 : W.grownBy W1 row) (h2 : W1.grownBy W2 row2) (hr : row2 = row ∨ ∃ g, row2 = some g ∧ W.heap.size ≤ g) : W.grownBy W2 row :=
 ⟨h2.os.trans h1.os, h2.tape.trans h1.tape, h2.output.trans h1.output, Nat.le_trans h1.size h2.size, fun k hk hne => (h2.block k (Nat.lt_of_lt_of_le hk h1.size) (by
  rcases hr with e | ⟨g, e, hg⟩
  ·rw [e]; exact hne
  ·rw [e]
   intro e2
   injection e2 with e2
   omega)).trans (h1.block k hk hne)⟩
set_option maxRecDepth 20000 in
set_option maxHeartbeats 1000000 in
theorem rtold_any (f d : Nat) (ps : List Pr) (hf : 129 ≤ f + d) (hr : RightP ps) (hok : Ok d (ents (srt ps))) (zz : Nat) (v : Value) (ts : List ByteArray) (a : Option Addr) (c n : Nat) (w : World) (hn : n ≤ w.heap.size) (hp : slP n w a ps) (hown : w.ownsRow zz 9 1 v ts.length (ts.map .string)) (hzz : zz ≤ w.heap.size) (hl : ts.length < 900000) :
  Calls Tryd.prog 52 #[v, .slice a ps.length c, .int .i64 d] w (GrR zz v (ts ++ tdX d (noF f d ps)) w) := by
 have KB := by_all f ps d hf hr hok a c n w hn hp
 obtain ⟨i0, hi0, hz0, hz1, hz2⟩ := info_parts info_text
 obtain ⟨t, ht⟩ : ∃ t, eS (noF f d ps) = t := ⟨_, rfl⟩
 have htd : tdX d (noF f d ps) = if d = 0 ∨ 32 ≤ t.size then [t] else [] := by unfold tdX; rw [ht]
 rw [htd]
 rw [ht] at KB
 obtain ⟨N, hN⟩ : ∃ N, ps.length = N := ⟨_, rfl⟩
 rw [hN] at KB ⊢
 obtain ⟨ao, c0, rfl⟩ : ∃ ao c0, v = .slice ao ts.length c0 := by
  rcases hown.2 with ⟨h, h0⟩ | ⟨g, c, _, h, _⟩
  ·exact ⟨none, 0, by rw [h, h0]⟩
  ·exact ⟨_, c, h⟩
 have HO : Hid _ := hown
 clear hown htd ht hN hok hr hp
 -- where it is told
 have TOLD : ∀ (w1 : World), Below w.heap.size w w1 → ∀ (v' : Value) (w6 : World), w6.ownsRow zz 9 1 v' (ts.length + 1) (ts.map .string ++ [.string t]) → (w1.alloc (.cells #[.string t] 9)).grownBy w6 (Value.slice ao ts.length c0).ownBlock → (v'.ownBlock = (Value.slice ao ts.length c0).ownBlock ∨ ∃ g, v'.ownBlock = some g ∧ (w1.alloc (.cells #[.string t] 9)).heap.size ≤ g) → GrR zz (.slice ao ts.length c0) (ts ++ [t]) w (.returned v') w6 := by
  intro w1 B1 v' w6 a2 a3 a5
  have A1 := be_new w1 (.cells #[.string t] 9)
  have B2 := belowStep B1 B1.size A1
  refine ⟨v', rfl, ?_, grown_step (grown_below B2) a3 (.inl rfl), ?_⟩
  ·rw [List.length_append, List.map_append]
   exact a2
  ·rcases a5 with e | ⟨g, e, hg⟩
   ·exact .inl e
   ·exact .inr ⟨g, e, Nat.le_trans B2.size hg⟩
 have HT : Hid _ := TOLD
 clear TOLD
 obtain ⟨F, hF⟩ : ∃ F, (if d = 0 ∨ 32 ≤ t.size then [t] else []) = F := ⟨_, rfl⟩
 rw [hF]
 go_enter Tryd.func52, Tryd.ntmps52
 go_wp2_with fail
 refine KB.mono ?_
 rintro e w1 ⟨rfl, B1⟩
 have A1 := be_new w1 (.cells #[.string t] 9)
 have hnew := World.alloc_heap_new w1 (.cells #[.string t] 9)
 have hown2 := owns_below2 (owns_below2 HO.out B1) A1
 have hsz1 := B1.size
 have hsz2 := A1.size
 have HV : Hid (_ ∧ _ ∧ _) := ⟨hown2, hnew, B1⟩
 clear KB A1 hnew hown2
 by_cases h0 : d = 0
 ·subst h0
  obtain rfl : [t] = F := by rw [← hF, if_pos (.inl rfl)]
  clear B1 hF
  go_wp2_with (at_builtin; refine wpList_append_where _ rfl _ _ 23 rfl zz 9 i0 _ 1 16 Tryd.underlying23 hi0 hz0 hz1 hz2 rfl (by decide) _ ts.length (ts.map .string) rfl HV.out.1 ⟨w1.heap.size, 0, none⟩ 1 1 [.string t] rfl rfl ?c1 ?c2 (by unfold maxLen; omega) (by omega) ?c3 (by decide) ?_)
  case c1 =>
   intro j u hj
   rw [Addr.add_lit, Lib.cell_of_heap HV.out.2.1, Nat.zero_add]
   simpa using hj
  case c2 =>
   intro u hu
   simp only [List.mem_cons, List.not_mem_nil, or_false] at hu
   rw [hu]
   rfl
  case c3 => omega
  intro v' w6 a2 a3 a4 a5
  have HW : Hid (_ ∧ _ ∧ _) := ⟨a2, a3, a5⟩
  clear a2 a3 a4 a5
  go_wp2
  go_ret
  exact HT.out w1 HV.out.2.2 v' w6 HW.out.1 HW.out.2.1 (by rw [World.size_alloc]; exact HW.out.2.2)
 ·have l0 : ((d : Int) == 0) = false := by rw [beq_eq_false_iff_ne]; omega
  by_cases h32 : 32 ≤ t.size
  ·obtain rfl : [t] = F := by rw [← hF, if_pos (.inr h32)]
   clear hF
   have l3 : (32 : Int) ≤ t.size := by omega
   clear B1
   go_wp2_with (at_builtin; refine wpList_append_where _ rfl _ _ 23 rfl zz 9 i0 _ 1 16 Tryd.underlying23 hi0 hz0 hz1 hz2 rfl (by decide) _ ts.length (ts.map .string) rfl HV.out.1 ⟨w1.heap.size, 0, none⟩ 1 1 [.string t] rfl rfl ?c1 ?c2 (by unfold maxLen; omega) (by omega) ?c3 (by decide) ?_)
   case c1 =>
    intro j u hj
    rw [Addr.add_lit, Lib.cell_of_heap HV.out.2.1, Nat.zero_add]
    simpa using hj
   case c2 =>
    intro u hu
    simp only [List.mem_cons, List.not_mem_nil, or_false] at hu
    rw [hu]
    rfl
   case c3 => omega
   intro v' w6 a2 a3 a4 a5
   have HW : Hid (_ ∧ _ ∧ _) := ⟨a2, a3, a5⟩
   clear a2 a3 a4 a5
   go_wp2
   go_ret
   exact HT.out w1 HV.out.2.2 v' w6 HW.out.1 HW.out.2.1 (by rw [World.size_alloc]; exact HW.out.2.2)
  ·obtain rfl : [] = F := by rw [← hF, if_neg (by omega)]
   clear hF
   have l3 : ¬ (32 : Int) ≤ t.size := by omega
   go_wp2
   go_ret
   refine ⟨_, rfl, ?_, grown_below B1, .inl rfl⟩
   rw [List.append_nil]
   exact owns_below2 HO.out B1
end Go.Proofs.YtbmapdkcccdmfaaDoor
namespace Go.Proofs.YtbmapdkcccdmfaaDoor
open Go.RowKit Go.Shelf Go.Sort

theorem tdX_own {d : Nat} (h : d ≠ 0) (x : It) : tdX d x = ownT x := by
 unfold tdX ownT
 by_cases h1 : (eS x).size < 32
 ·rw [if_pos h1, if_neg (by omega)]
 ·rw [if_neg h1, if_pos (.inr (by omega))]

end Go.Proofs.YtbmapdkcccdmfaaDoor
namespace Go.Proofs.YtbmapdkcccdmfaaDoor
open Go.RowKit Go.Shelf Go.Sort

def slQ (v : Value) (n : Nat) (W : World) (a : Option Addr) (ps : List Pr) : Prop := ps = [] ∨ ∃ b o, a = some ⟨b, o, none⟩ ∧ b < n ∧ some b ≠ v.ownBlock ∧ prs W b o ps
theorem slQ.slP {v : Value} {n : Nat} {W : World} {a : Option Addr} {ps : List Pr} (h : slQ v n W a ps) : slP n W a ps := h.elim .inl fun ⟨b, o, h1, h2, _, h3⟩ => .inr ⟨b, o, h1, h2, h3⟩
structure NS (zz : Nat) (v : Value) (w : World) (v' : Value) (ts : List ByteArray) (W : World) : Prop where
 own : W.ownsRow zz 9 1 v' ts.length (ts.map .string)
 gr : w.grownBy W v.ownBlock
 wh : v'.ownBlock = v.ownBlock ∨ ∃ g, v'.ownBlock = some g ∧ w.heap.size ≤ g
theorem NS.refl {zz : Nat} {v : Value} {w : World} {ts : List ByteArray} (h : w.ownsRow zz 9 1 v ts.length (ts.map .string)) : NS zz v w v ts w := ⟨h, grown_below (Below.refl _ _), .inl rfl⟩
theorem NS.below {zz : Nat} {v v' : Value} {w W W' : World} {ts : List ByteArray} (h : NS zz v w v' ts W) (hb : Below W.heap.size W W') : NS zz v w v' ts W' := ⟨owns_below2 h.own hb, grown_step h.gr (grown_below (row := v.ownBlock) hb) (.inl rfl), h.wh⟩
theorem NS.next {zz : Nat} {v v' : Value} {w W W' : World} {ts ts' : List ByteArray} {e : Ending} (h : NS zz v w v' ts W) (hg : GrR zz v' ts' W e W') : ∃ v2, e = .returned v2 ∧ NS zz v w v2 ts' W' := by
 obtain ⟨v2, he, h1, h2, h3⟩ := hg
 have hs := h.gr.size
 refine ⟨v2, he, h1, grown_step h.gr h2 h.wh, ?_⟩
 rcases h3 with e3 | ⟨g, e3, hg3⟩
 ·rw [e3]; exact h.wh
 ·exact .inr ⟨g, e3, by omega⟩
theorem NS.fin {zz : Nat} {v v' : Value} {w W : World} {ts : List ByteArray} (h : NS zz v w v' ts W) : GrR zz v ts w (.returned v') W := ⟨v', rfl, h.own, h.gr, h.wh⟩
theorem NS.pairs {zz : Nat} {v v' : Value} {w W : World} {ts : List ByteArray} {n : Nat} {a : Option Addr} {ps : List Pr} (h : NS zz v w v' ts W) (hn : n ≤ w.heap.size) (hp : slQ v n w a ps) : slQ v' n W a ps := by
 rcases hp with hp | ⟨b, o, h1, h2, h3, h4⟩
 ·exact .inl hp
 ·refine .inr ⟨b, o, h1, h2, ?_, fun j e he => ?_⟩
  ·rcases h.wh with e | ⟨g, e, hg⟩
   ·rw [e]; exact h3
   ·rw [e]
    intro e2
    injection e2 with e2
    omega
  ·have := h4 j e he
   have hk : ∀ k, W.cell? ⟨b, k, none⟩ = w.cell? ⟨b, k, none⟩ := fun k => World.cell?_of_block (h.gr.block b (by omega) h3)
   exact ⟨(hk _).trans this.1, (hk _).trans this.2⟩
theorem NS.slice {zz : Nat} {v v' : Value} {w W : World} {ts : List ByteArray} (h : NS zz v w v' ts W) : ∃ ao c0, v' = .slice ao ts.length c0 := by
 rcases h.own.2 with ⟨h1, h0⟩ | ⟨g, c, _, h1, _⟩
 ·exact ⟨none, 0, by rw [h1, h0]⟩
 ·exact ⟨_, c, h1⟩


end Go.Proofs.YtbmapdkcccdmfaaDoor
namespace Go.Proofs.YtbmapdkcccdmfaaDoor
open Go.RowKit Go.Shelf Go.Sort

theorem ext_list (s : ByteArray) (i j : Nat) : (s.extract i j).data.toList = (s.data.toList.drop i).take (j - i) := by
 rw [ByteArray.data_extract, Array.toList_extract, List.extract_eq_take_drop]
theorem rest_list (s : ByteArray) (d : Nat) : (s.extract d s.size).data.toList = s.data.toList.drop d := by
 rw [ext_list, List.take_of_length_le]
 rw [List.length_drop, Array.length_toList]
 show s.data.size - d ≤ s.data.size - d
 omega
theorem pfx_iff (q path : ByteArray) (d : Nat) (hq : 0 < q.size) : pfx q (path.extract d path.size) = decide (d + q.size ≤ path.size ∧ path.extract d (d + q.size) = q) := by
 have hql : q.data.toList.length = q.size := by simp
 have hpl : path.data.toList.length = path.size := by simp
 unfold pfx Lib.hasPrefix
 rw [rest_list]
 have e : (q.data.toList.isPrefixOf (path.data.toList.drop d) = true) ↔ (d + q.size ≤ path.size ∧ path.extract d (d + q.size) = q) := by
  rw [List.isPrefixOf_iff_prefix, List.prefix_iff_eq_take, hql]
  constructor
  ·intro h
   have hlen := congrArg List.length h
   rw [hql, List.length_take, List.length_drop, hpl] at hlen
   refine ⟨by omega, ?_⟩
   have h2 : (path.extract d (d + q.size)).data.toList = q.data.toList := by
    rw [ext_list, show d + q.size - d = q.size by omega]
    exact h.symm
   exact bytes_inj2 h2
  ·rintro ⟨h1, h2⟩
   have h3 := congrArg (fun s : ByteArray => s.data.toList) h2
   rw [ext_list, show d + q.size - d = q.size by omega] at h3
   exact h3.symm
 cases hb : q.data.toList.isPrefixOf (path.data.toList.drop d) with
 | true => exact (decide_eq_true (e.1 hb)).symm
 | false =>
  refine (decide_eq_false fun h => ?_).symm
  rw [e.2 h] at hb
  cases hb
theorem rst_ext (q path : ByteArray) (d : Nat) (h : pfx q (path.extract d path.size) = true) : rst (path.extract d path.size) q = path.extract (d + q.size) path.size := by
 have h' : Lib.hasPrefix (path.extract d path.size).data.toList q.data.toList = true := h
 have e : (rst (path.extract d path.size) q).data.toList = (path.extract (d + q.size) path.size).data.toList := by
  unfold rst Lib.trimPrefix
  rw [if_pos h', rest_list, rest_list, List.drop_drop]
  simp
 exact bytes_inj2 e
def ofL : List (Int × Nd) → Sts
 | [] => .nil
 | k :: r => .cons (oneB k.1) k.2 (ofL r)
def Sts.app : Sts → Sts → Sts
 | .nil, t => t
 | .cons p n r, t => .cons p n (r.app t)
theorem app_nil : ∀ s : Sts, s.app .nil = s
 | .nil => rfl
 | .cons p n r => by show Sts.cons p n (r.app .nil) = _; rw [app_nil r]
theorem snoc_app : ∀ (s : Sts) (p : ByteArray) (n : Nd) (t : Sts), (s.snoc p n).app t = s.app (.cons p n t)
 | .nil, _, _, _ => rfl
 | .cons q m r, p, n, t => by show Sts.cons q m ((r.snoc p n).app t) = _; rw [snoc_app r p n t]; rfl
theorem fold_app : ∀ (ks : List (Int × Nd)) (s : Sts), ks.foldl (fun s k => s.snoc (oneB k.1) k.2) s = s.app (ofL ks)
 | [], s => (app_nil s).symm
 | k :: r, s => by
  rw [List.foldl_cons, fold_app r, snoc_app]
  rfl
theorem fkS_of (ks : List (Int × Nd)) : fkS ks = ofL ks := fold_app ks .nil
theorem one_size (h : Int) : (oneB h).size = 1 := rfl
theorem one_pfx (h : Int) (h0 : 0 ≤ h ∧ h < 16) (path : ByteArray) (d : Nat) : pfx (oneB h) (path.extract d path.size) = decide (d < path.size ∧ bt path d = h) := by
 rw [pfx_iff _ _ _ (by rw [one_size]; decide), one_size]
 refine decide_eq_decide.2 ?_
 constructor
 ·rintro ⟨h1, h2⟩
  refine ⟨by omega, ?_⟩
  have h3 : (path.extract d (d + 1)).size = 1 := by rw [h2]; rfl
  have h4 := bt_get (path.extract d (d + 1)) 0 (by omega)
  rw [ByteArray.getElem_extract] at h4
  have h5 := bt_get path (d + 0) (by omega)
  have h6 : bt (oneB h) 0 = h := by
   show (((UInt8.ofNat h.toNat).toNat : Nat) : Int) = h
   rw [UInt8.toNat_ofNat']
   omega
  have h7 : bt (path.extract d (d + 1)) 0 = bt path d := h4.symm.trans h5
  rw [← h7, h2]
  exact h6
 ·rintro ⟨h1, h2⟩
  refine ⟨by omega, ?_⟩
  have hs : (path.extract d (d + 1)).size = 1 := by rw [ByteArray.size_extract]; omega
  refine ext_bt _ _ (by rw [hs]; rfl) fun j hj => ?_
  obtain rfl : j = 0 := by omega
  have h4 := bt_get (path.extract d (d + 1)) 0 (by omega)
  rw [ByteArray.getElem_extract] at h4
  have h5 := bt_get path (d + 0) (by omega)
  have h6 : bt (oneB h) 0 = h := by
   show (((UInt8.ofNat h.toNat).toNat : Nat) : Int) = h
   rw [UInt8.toNat_ofNat']
   omega
  have h7 : bt (path.extract d (d + 1)) 0 = bt path d := h4.symm.trans h5
  rw [h7, h6]
  exact h2
theorem wyS_half (nd : List Pr → Nd) {d : Nat} {rs : List Pr} (h : Ok d rs) (hl : ∀ (j : Nat) (e : Pr), rs[j]? = some e → d < e.1.size) (path : ByteArray) :
  ∀ (f k : Nat), rs.length ≤ f + k → wyS (path.extract d path.size) (ofL ((pgF d rs f k).map (kdE nd d rs))) = if d < path.size ∧ ((rs.drop k).filter (goes d (bt path d))).length ≠ 0 then wyN (path.extract (d + 1) path.size) (nd ((rs.drop k).filter (goes d (bt path d)))) else []
 | 0, k, hf => by
  rw [List.drop_of_length_le (by omega), if_neg (by simp)]
  rfl
 | f + 1, k, hf => by
  by_cases hk : k < rs.length
  ·obtain ⟨r1, r2⟩ := run_filter h hl k hk
   have hk0 : rs[k]? = some rs[k] := List.getElem?_eq_getElem hk
   have hpos := rn_pos (d := d) hk
   obtain ⟨x, hx⟩ : ∃ x, hfA d rs k = x := ⟨_, rfl⟩
   have hx0 : 0 ≤ x ∧ x < 16 := by rw [← hx, hfA_at hk0]; exact h.hlf k _ d hk0
   simp only [pgF, if_pos hk, List.map_cons]
   rw [hx] at r1 r2 hpos ⊢
   obtain ⟨m, hm⟩ : ∃ m, rn d x (rs.drop k) = m := ⟨_, rfl⟩
   rw [hm] at r1 r2 hpos ⊢
   have e1 : rs.drop k = (rs.drop k).take m ++ rs.drop (k + m) := by rw [← List.drop_drop, List.take_append_drop]
   have hne : ¬ ((rs.drop k).take m).length = 0 := by rw [List.length_take, List.length_drop]; omega
   have hkd : kdE nd d rs (k, m) = (x, nd ((rs.drop k).take m)) := by unfold kdE; rw [hx]
   rw [hkd]
   show (if pfx (oneB x) (path.extract d path.size) = true then wyN (rst (path.extract d path.size) (oneB x)) (nd ((rs.drop k).take m)) else wyS (path.extract d path.size) (ofL ((pgF d rs f (k + m)).map (kdE nd d rs)))) = _
   have hpf := one_pfx x hx0 path d
   by_cases hb : d < path.size ∧ bt path d = x
   ·have hpt : pfx (oneB x) (path.extract d path.size) = true := by rw [hpf]; exact decide_eq_true hb
    rw [if_pos hpt, rst_ext _ _ _ hpt, one_size, hb.2, r1, if_pos ⟨hb.1, hne⟩]
   ·have hpt : ¬ pfx (oneB x) (path.extract d path.size) = true := by rw [hpf, decide_eq_false hb]; decide
    rw [if_neg hpt, wyS_half nd h hl path f (k + m) (by omega)]
    by_cases hd : d < path.size
    ·have hjx : bt path d ≠ x := fun e => hb ⟨hd, e⟩
     have ex : (rs.drop k).filter (goes d (bt path d)) = (rs.drop (k + m)).filter (goes d (bt path d)) := by
      have f1 : ((rs.drop k).take m).filter (goes d (bt path d)) = [] := by
       rw [List.filter_eq_nil_iff]
       intro e he hg
       rw [← r1] at he
       have h1 := (List.mem_filter.1 he).2
       unfold goes at hg h1
       simp only [Bool.and_eq_true, decide_eq_true_eq] at hg h1
       omega
      conv => lhs; rw [e1, List.filter_append, f1, List.nil_append]
     rw [ex]
    ·rw [if_neg (fun h => hd h.1), if_neg (fun h => hd h.1)]
  ·simp only [pgF, if_neg hk, List.map_nil]
   rw [List.drop_of_length_le (by omega), if_neg (by simp)]
   rfl
theorem wyS_fork (nd : List Pr → Nd) {d : Nat} {es : List Pr} (h : Ok d es) (h2 : 2 ≤ es.length) (path : ByteArray) : wyS (path.extract d path.size) (fkN nd d es).ss = if d < path.size ∧ (es.filter (goes d (bt path d))).length ≠ 0 then wyN (path.extract (d + 1) path.size) (nd (es.filter (goes d (bt path d)))) else [] := by
 obtain ⟨k1, k2, _, _⟩ := h.rest h2
 show wyS (path.extract d path.size) (fkS ((pg d (rsE d es) 0).map (kdE nd d (rsE d es)))) = _
 rw [fkS_of]
 have := wyS_half nd k1 k2 path ((rsE d es).length - 0) 0 (by omega)
 show wyS (path.extract d path.size) (ofL ((pgF d (rsE d es) ((rsE d es).length - 0) 0).map (kdE nd d (rsE d es)))) = _
 rw [this, List.drop_zero, goes_rest]

def wsF (f d : Nat) (ps : List Pr) (path : ByteArray) : List ByteArray := tdX d (noF f d ps) ++ wyS (path.extract d path.size) (ndF f d (ents (srt ps))).ss
theorem wsF_all {f d : Nat} (h : d ≠ 0) (ps : List Pr) (path : ByteArray) : wsF f d ps path = wyN (path.extract d path.size) (ndF f d (ents (srt ps))) := by
 unfold wsF noF
 rw [tdX_own h]
 obtain ⟨x, ss⟩ := ndF f d (ents (srt ps))
 rfl
theorem wsF_one (f d : Nat) (p : Pr) (path : ByteArray) : wsF (f + 1) d [p] path = tdX d (noF (f + 1) d [p]) := by
 unfold wsF
 rw [srt_one]
 show _ ++ [] = _
 rw [List.append_nil]
theorem wsF_bridge {f d a : Nat} {p0 : Pr} {rs : List Pr} (hok : Ok d (ents (srt (p0 :: rs)))) (h2 : 1 ≤ rs.length) (ha : alkV d (enP p0) (rs.map enP) = a) (h0 : a ≠ 0) (path : ByteArray) :
  wsF (f + 1) d (p0 :: rs) path = tdX d (noF (f + 1) d (p0 :: rs)) ++ if d + a ≤ path.size ∧ path.extract d (d + a) = (tl d (enP p0)).extract 0 a then wsF f (d + a) (p0 :: rs) path else [] := by
 rw [wsF_all (f := f) (d := d + a) (by omega)]
 unfold wsF
 congr 1
 have hok2 := (noF_bridge (f := f) hok h2 ha h0).2
 obtain ⟨e, e2, r, he⟩ := ent_two (ps := p0 :: rs) (by simp; omega)
 have hp : (enP p0 :: rs.map enP).Perm (ents (srt (p0 :: rs))) := ents_perm (ps := p0 :: rs)
 have hm : enP p0 ∈ ents (srt (p0 :: rs)) := hp.mem_iff.1 (by simp)
 rw [he] at hok hok2 hp hm ⊢
 have hc := alk_is hok (enP p0) (rs.map enP) hp (e := e) (g := (e2 :: r).getLastD e2) rfl (last_at e e2 r)
 rw [ha] at hc
 rw [nd_bridge f d e e2 r a hc.symm h0]
 have hq : (tl d e).extract 0 a = (tl d (enP p0)).extract 0 a := ext_alike hok2 (by simp) hm
 have hs : ((tl d (enP p0)).extract 0 a).size = a := by
  have := ((Ok_iff _ _).1 hok2).2.2.1 (enP p0) hm
  rw [ByteArray.size_extract, tl_size]
  omega
 show (if pfx ((tl d e).extract 0 a) (path.extract d path.size) = true then wyN (rst (path.extract d path.size) ((tl d e).extract 0 a)) (ndF f (d + a) (e :: e2 :: r)) else []) = _
 rw [hq]
 have hpi := pfx_iff ((tl d (enP p0)).extract 0 a) path d (by omega)
 rw [hs] at hpi
 by_cases hb : d + a ≤ path.size ∧ path.extract d (d + a) = (tl d (enP p0)).extract 0 a
 ·have hpt : pfx ((tl d (enP p0)).extract 0 a) (path.extract d path.size) = true := by rw [hpi]; exact decide_eq_true hb
  rw [if_pos hpt, if_pos hb, rst_ext _ _ _ hpt, hs]
 ·rw [if_neg (by rw [hpi, decide_eq_false hb]; decide), if_neg hb]
theorem wsF_fork {f d : Nat} {p0 : Pr} {rs : List Pr} (hr : RightP (p0 :: rs)) (hok : Ok d (ents (srt (p0 :: rs)))) (h2 : 1 ≤ rs.length) (ha : alkV d (enP p0) (rs.map enP) = 0) (path : ByteArray) :
  wsF (f + 1) d (p0 :: rs) path = tdX d (noF (f + 1) d (p0 :: rs)) ++ if d < path.size ∧ (hvP d (bt path d) (p0 :: rs)).length ≠ 0 then wsF f (d + 1) (hvP d (bt path d) (p0 :: rs)) path else [] := by
 unfold wsF
 congr 1
 obtain ⟨e, e2, r, he⟩ := ent_two (ps := p0 :: rs) (by simp; omega)
 have hp : (enP p0 :: rs.map enP).Perm (ents (srt (p0 :: rs))) := ents_perm (ps := p0 :: rs)
 have hfk := wyS_fork (ndF f (d + 1)) hok (by rw [he]; simp) path
 have hndx : ndF (f + 1) d (ents (srt (p0 :: rs))) = fkN (ndF f (d + 1)) d (ents (srt (p0 :: rs))) := by
  rw [he] at hok hp ⊢
  have hc := alk_is hok (enP p0) (rs.map enP) hp (e := e) (g := (e2 :: r).getLastD e2) rfl (last_at e e2 r)
  rw [ha] at hc
  rw [nd_fork f d e e2 r hc.symm]
 rw [hndx, hfk]
 have hv : (hvP d (bt path d) (p0 :: rs)).length = ((ents (srt (p0 :: rs))).filter (goes d (bt path d))).length := by
  rw [← hv_srt hr, ents_len, (srt_perm _).length_eq]
 have hall := wsF_all (f := f) (d := d + 1) (by omega) (hvP d (bt path d) (p0 :: rs)) path
 unfold wsF at hall
 rw [hall, hv, hv_srt hr]
end Go.Proofs.YtbmapdkcccdmfaaDoor
namespace Go.Proofs.YtbmapdkcccdmfaaDoor
open Go.RowKit Go.Shelf Go.Sort

def WsC (path : ByteArray) (f : Nat) : Prop := ∀ (ps : List Pr) (d : Nat), 129 ≤ f + d → RightP ps → Ok d (ents (srt ps)) → ∀ (zz : Nat) (v : Value) (ts : List ByteArray) (a : Option Addr) (c n : Nat) (w : World), n ≤ w.heap.size → slQ v n w a ps → w.ownsRow zz 9 1 v ts.length (ts.map .string) → zz ≤ w.heap.size → ts.length + (wsF f d ps path).length < 900000 →
 Calls Tryd.prog 34 #[v, .slice a ps.length c, .int .i64 d, .string path] w (GrR zz v (ts ++ wsF f d ps path) w)
set_option maxRecDepth 20000 in
set_option maxHeartbeats 1000000 in
theorem way_leaf (path : ByteArray) (f d : Nat) (p0 : Pr) (hf : 129 ≤ f + 1 + d) (hr : RightP [p0]) (hok : Ok d (ents (srt [p0]))) (zz : Nat) (v : Value) (ts : List ByteArray) (a : Option Addr) (c n : Nat) (w : World) (hn : n ≤ w.heap.size) (hp : slQ v n w a [p0]) (hown : w.ownsRow zz 9 1 v ts.length (ts.map .string)) (hzz : zz ≤ w.heap.size) (hlen : ts.length < 900000) :
  Calls Tryd.prog 34 #[v, .slice a 1 c, .int .i64 d, .string path] w (GrR zz v (ts ++ wsF (f + 1) d [p0] path) w) := by
 have KT : Calls Tryd.prog 52 #[v, .slice a 1 c, .int .i64 d] w (GrR zz v (ts ++ tdX d (noF (f + 1) d [p0])) w) := rtold_any (f + 1) d [p0] hf hr hok zz v ts a c n w hn hp.slP hown hzz hlen
 rw [wsF_one]
 obtain ⟨T0, hT0⟩ : ∃ T, tdX d (noF (f + 1) d [p0]) = T := ⟨_, rfl⟩
 rw [hT0] at KT ⊢
 have HN : Hid _ := NS.refl hown
 clear hT0 hp hr hok hown
 obtain ⟨G, hG⟩ : ∃ G, GrR zz v (ts ++ T0) w = G := ⟨_, rfl⟩
 have HG : Hid (GrR zz v (ts ++ T0) w = G) := hG
 rw [hG] at KT ⊢
 clear hG
 go_enter Tryd.func34, Tryd.ntmps34
 go_wp2_with fail
 refine KT.mono ?_
 intro e w1 hg
 rw [← HG.out] at hg
 obtain ⟨v1, rfl, N1⟩ := NS.next HN.out hg
 obtain ⟨ao, c0, rfl⟩ := N1.slice
 obtain ⟨Ln, hLn⟩ : ∃ n, (ts ++ T0).length = n := ⟨_, rfl⟩
 have hf2 : G (.returned (.slice ao Ln c0)) w1 := by rw [← HG.out, ← hLn]; exact N1.fin
 have HF : Hid (G (.returned (.slice ao Ln c0)) w1) := hf2
 rw [hLn]
 clear hf2 hLn
 clear N1 hg KT
 go_wp2
 exact HF.out

set_option maxRecDepth 20000 in
set_option maxHeartbeats 2000000 in
theorem way_bridge (path : ByteArray) (f d : Nat) (hNs : WsC path f) (p0 : Pr) (rs : List Pr) (h2 : 1 ≤ rs.length) (hf : 129 ≤ f + 1 + d) (hr : RightP (p0 :: rs)) (hok : Ok d (ents (srt (p0 :: rs)))) (av : Nat) (ha : alkV d (enP p0) (rs.map enP) = av) (h0 : av ≠ 0) (zz : Nat) (v : Value) (ts : List ByteArray) (a : Option Addr) (c n : Nat) (w : World) (hn : n ≤ w.heap.size) (hp : slQ v n w a (p0 :: rs)) (hown : w.ownsRow zz 9 1 v ts.length (ts.map .string)) (hzz : zz ≤ w.heap.size) (hlen : ts.length + (wsF (f + 1) d (p0 :: rs) path).length < 900000) :
  Calls Tryd.prog 34 #[v, .slice a (p0 :: rs).length c, .int .i64 d, .string path] w (GrR zz v (ts ++ wsF (f + 1) d (p0 :: rs) path) w) := by
 have hsz : ∀ p ∈ p0 :: rs, p.1.size ≤ 64 := fun p hp => by
  obtain ⟨j, hj⟩ := List.getElem?_of_mem hp
  exact ((pOk_iff p).1 (hr.2.1 j p hj)).2.1
 have hdd : ∀ p ∈ p0 :: rs, d ≤ (ofOf p.1).size := fun p hp => ((Ok_iff d _).1 hok).2.2.1 (enP p) (mem_ents.2 ⟨p, hp, rfl⟩) |>.1
 have hok2 := (noF_bridge (f := f) hok h2 ha h0).2
 rw [wsF_bridge hok h2 ha h0 path] at hlen ⊢
 rw [List.length_append] at hlen
 have KT := rtold_any (f + 1) d (p0 :: rs) hf hr hok zz v ts a c n w hn hp.slP hown hzz (by omega)
 have KA := fun W hn hp => alike_any p0 rs hsz hr.1 d hdd a c n W hn hp
 rw [ha] at KA
 obtain ⟨T0, hT0⟩ : ∃ T, tdX d (noF (f + 1) d (p0 :: rs)) = T := ⟨_, rfl⟩
 rw [hT0] at KT hlen ⊢
 have KN := fun v' W hn hp ho hz (hb : d + av ≤ path.size ∧ path.extract d (d + av) = (tl d (enP p0)).extract 0 av) => hNs (p0 :: rs) (d + av) (by omega) hr hok2 zz v' (ts ++ T0) a c n W hn hp ho hz (by rw [if_pos hb] at hlen; rw [List.length_append]; omega)
 rw [← List.append_assoc]
 have hos := of_sz p0.1
 have h64 := hsz p0 (by simp)
 have hda1 : d + av ≤ (ofOf p0.1).size := (((Ok_iff (d + av) _).1 hok2).2.2.1 (enP p0) (mem_ents.2 ⟨p0, by simp, rfl⟩)).1
 have KO := fun w => rof_any p0.1 (by omega) w
 obtain ⟨P, hP⟩ : ∃ P, ofOf p0.1 = P := ⟨_, rfl⟩
 obtain ⟨q, hq⟩ : ∃ q, (tl d (enP p0)).extract 0 av = q := ⟨_, rfl⟩
 have hq2 : P.extract d (d + av) = q := by
  rw [← hP, ← hq]
  show _ = ((ofOf p0.1).extract d (ofOf p0.1).size).extract 0 av
  rw [ByteArray.extract_extract]
  congr 1
  omega
 rw [hP] at KO hda1
 rw [hq] at KN ⊢
 have l2 : (d : Int) ≤ P.size := by omega
 have l3 : ((d + av : Nat) : Int) ≤ P.size := by omega
 have l5 : (d : Int) ≤ ((d + av : Nat) : Int) := by omega
 obtain ⟨b9, o9, hab, hb9, hc9⟩ : ∃ b o, a = some ⟨b, o, none⟩ ∧ b < n ∧ ∀ v' W, NS zz v w v' (ts ++ T0) W → W.cell? ⟨b, o, none⟩ = some (.string p0.1) := by
  rcases hp with h | ⟨b, o, h1, h2, h3, h4⟩
  ·cases h
  ·refine ⟨b, o, h1, h2, fun v' W hNS => ?_⟩
   have := (h4 0 p0 rfl).1
   rw [Nat.mul_zero, Nat.add_zero] at this
   exact (World.cell?_of_block (hNS.gr.block b (by omega) h3)).trans this
 subst hab
 have HC9 : Hid _ := hc9
 obtain ⟨N, hN⟩ : ∃ N, (p0 :: rs).length = N := ⟨_, rfl⟩
 have l1 : ((N : Int) == 1) = false := by rw [beq_eq_false_iff_ne]; rw [← hN, List.length_cons]; omega
 rw [hN] at KT KA KN ⊢
 have HQ : Hid _ := hp
 have HN : Hid _ := NS.refl hown
 obtain ⟨ao, c0, rfl⟩ := (NS.refl hown).slice
 have l4 : (0 : Int) < av := by omega
 have hd128 : d ≤ 128 := by
  have h1 := hdd p0 (by simp)
  have h3 := hsz p0 (by simp)
  have h4 := of_sz p0.1
  omega
 have hav : av ≤ 128 := by
  have h1 := ((Ok_iff (d + av) _).1 hok2).2.2.1 (enP p0) (mem_ents.2 ⟨p0, by simp, rfl⟩)
  omega
 have wa : IntKind.i64.wrap ((d : Int) + av) = ((d + av : Nat) : Int) := by rw [IntKind.wrap_i64]; omega
 obtain ⟨G1, hG1⟩ : ∃ G, GrR zz (.slice ao ts.length c0) (ts ++ T0) w = G := ⟨_, rfl⟩
 have HG1 : Hid (GrR zz (.slice ao ts.length c0) (ts ++ T0) w = G1) := hG1
 obtain ⟨Fs, hF⟩ : ∃ z, ts ++ T0 ++ (if d + av ≤ path.size ∧ path.extract d (d + av) = q then wsF f (d + av) (p0 :: rs) path else []) = z := ⟨_, rfl⟩
 obtain ⟨G2, hG2⟩ : ∃ G, GrR zz (.slice ao ts.length c0) Fs w = G := ⟨_, rfl⟩
 have HG2 : Hid (GrR zz (.slice ao ts.length c0) Fs w = G2) := hG2
 rw [hG1] at KT
 rw [hF, hG2]
 obtain ⟨wsV, hwsV⟩ : ∃ V, wsF f (d + av) (p0 :: rs) path = V := ⟨_, rfl⟩
 rw [hwsV] at KN hF
 obtain ⟨da, hda⟩ : ∃ da, d + av = da := ⟨_, rfl⟩
 rw [hda] at KN wa hq2 l3 l5 hF hda1
 have HF0 : Hid _ := hF
 have HKN : Hid _ := KN
 have hN1 : 1 ≤ N := by rw [← hN, List.length_cons]; omega
 have l7 : (0 : Int) < N := by omega
 clear hG1 hG2 hF hT0 hp hown hr hok hok2 hsz hdd ha hN hlen hda h0 KN hwsV hos h64 hP hq hc9 hda1
 go_enter Tryd.func34, Tryd.ntmps34
 go_wp2_with fail
 refine KT.mono ?_
 intro e w1 hg
 rw [← HG1.out] at hg
 obtain ⟨v1, rfl, N1⟩ := NS.next HN.out hg
 obtain ⟨ao1, c1, rfl⟩ := N1.slice
 obtain ⟨Ln, hLn⟩ : ∃ n, (ts ++ T0).length = n := ⟨_, rfl⟩
 have hLn9 : Hid ((ts ++ T0).length = Ln) := hLn
 rw [hLn] at N1 ⊢
 have hs1 := N1.gr.size
 have hp1 := N1.pairs hn HQ.out
 have HN1 : Hid _ := N1
 have K2 := KA w1 (by omega) hp1.slP
 clear N1 hg KT KA hp1 hLn
 go_wp2_with fail
 refine K2.mono ?_
 rintro e w2 ⟨rfl, B2⟩
 have N2 := HN1.out.below B2
 have hs2 := B2.size
 have c9 := HC9.out _ _ (by rw [← hLn9.out] at N2; exact N2)
 have HN2 : Hid _ := N2
 clear N2 K2 B2
 go_wp2_with fail
 refine (KO _).mono ?_
 rintro e w3 ⟨rfl, B3⟩
 have N3 := HN2.out.below B3
 have hs3 := B3.size
 have HN3 : Hid _ := N3
 clear KO B3 N3 c9 HN2
 by_cases hb1 : path.size < da
 ·have m1 : (path.size : Int) < da := by omega
  have hFs : ts ++ T0 = Fs := by rw [← HF0.out, if_neg (by omega), List.append_nil]
  have hf2 : G2 (.returned (.slice ao1 Ln c1)) w3 := by rw [← HG2.out, ← hFs]; exact HN3.out.fin
  have HF : Hid (G2 (.returned (.slice ao1 Ln c1)) w3) := hf2
  clear hFs hf2
  go_wp2
  exact HF.out
 ·have m1 : ¬ (path.size : Int) < da := by omega
  have m2 : (da : Int) ≤ path.size := by omega
  obtain ⟨pp, hpp⟩ : ∃ p, path.extract d da = p := ⟨_, rfl⟩
  have HPP : Hid _ := hpp
  by_cases hb2 : pp = q
  ·have hs : (pp.toList == q.toList) = true := by rw [hb2]; exact beq_self_eq_true _
   have hbb : da ≤ path.size ∧ path.extract d da = q := ⟨by omega, by rw [HPP.out]; exact hb2⟩
   have hFs : ts ++ T0 ++ wsV = Fs := by rw [← HF0.out, if_pos hbb]
   have K4 := HKN.out (.slice ao1 Ln c1) w3 (by omega) (HN3.out.pairs hn HQ.out) HN3.out.own (by omega) hbb
   rw [hFs] at K4
   obtain ⟨G3, hG3⟩ : ∃ G, GrR zz (.slice ao1 Ln c1) Fs w3 = G := ⟨_, rfl⟩
   have HG3 : Hid (GrR zz (.slice ao1 Ln c1) Fs w3 = G3) := hG3
   rw [hG3] at K4
   clear hG3 hFs hbb hb2
   go_wp2_with fail
   refine K4.mono ?_
   intro e w5 hg
   rw [← HG3.out] at hg
   obtain ⟨v5, rfl, N5⟩ := NS.next HN3.out hg
   obtain ⟨ao5, c5, rfl⟩ := N5.slice
   obtain ⟨Ln5, hLn5⟩ : ∃ n, Fs.length = n := ⟨_, rfl⟩
   have hf2 : G2 (.returned (.slice ao5 Ln5 c5)) w5 := by rw [← HG2.out, ← hLn5]; exact N5.fin
   have HF : Hid (G2 (.returned (.slice ao5 Ln5 c5)) w5) := hf2
   rw [hLn5]
   clear N5 hg K4 hf2 hLn5
   go_wp2
   exact HF.out
  ·have hs : (pp.toList == q.toList) = false := by rw [beq_eq_false_iff_ne]; exact fun e => hb2 (toList_inj e)
   have hFs : ts ++ T0 = Fs := by rw [← HF0.out, if_neg (fun h => hb2 (by rw [← HPP.out]; exact h.2)), List.append_nil]
   have hf2 : G2 (.returned (.slice ao1 Ln c1)) w3 := by rw [← HG2.out, ← hFs]; exact HN3.out.fin
   have HF : Hid (G2 (.returned (.slice ao1 Ln c1)) w3) := hf2
   clear hFs hf2 hb2
   go_wp2
   exact HF.out
end Go.Proofs.YtbmapdkcccdmfaaDoor
namespace Go.Proofs.YtbmapdkcccdmfaaDoor
open Go.RowKit Go.Shelf Go.Sort
set_option maxRecDepth 20000 in
set_option maxHeartbeats 2000000 in
theorem way_fork (path : ByteArray) (f d : Nat) (hNs : WsC path f) (p0 : Pr) (rs : List Pr) (h2 : 1 ≤ rs.length) (hf : 129 ≤ f + 1 + d) (hr : RightP (p0 :: rs)) (hok : Ok d (ents (srt (p0 :: rs)))) (ha : alkV d (enP p0) (rs.map enP) = 0) (zz : Nat) (v : Value) (ts : List ByteArray) (a : Option Addr) (c n : Nat) (w : World) (hn : n ≤ w.heap.size) (hp : slQ v n w a (p0 :: rs)) (hown : w.ownsRow zz 9 1 v ts.length (ts.map .string)) (hzz : zz ≤ w.heap.size) (hlen : ts.length + (wsF (f + 1) d (p0 :: rs) path).length < 900000) :
  Calls Tryd.prog 34 #[v, .slice a (p0 :: rs).length c, .int .i64 d, .string path] w (GrR zz v (ts ++ wsF (f + 1) d (p0 :: rs) path) w) := by
 have hsz : ∀ p ∈ p0 :: rs, p.1.size ≤ 64 := fun p hp => by
  obtain ⟨j, hj⟩ := List.getElem?_of_mem hp
  exact ((pOk_iff p).1 (hr.2.1 j p hj)).2.1
 have hdd : ∀ p ∈ p0 :: rs, d ≤ (ofOf p.1).size := fun p hp => ((Ok_iff d _).1 hok).2.2.1 (enP p) (mem_ents.2 ⟨p, hp, rfl⟩) |>.1
 rw [wsF_fork hr hok h2 ha path] at hlen ⊢
 rw [List.length_append] at hlen
 have KT := rtold_any (f + 1) d (p0 :: rs) hf hr hok zz v ts a c n w hn hp.slP hown hzz (by omega)
 have KA := fun W hn hp => alike_any p0 rs hsz hr.1 d hdd a c n W hn hp
 rw [ha] at KA
 have hd128 : d ≤ 128 := by
  have h1 := hdd p0 (by simp)
  have h3 := hsz p0 (by simp)
  have h4 := of_sz p0.1
  omega
 have h1N : 2 ≤ (p0 :: rs).length := by rw [List.length_cons]; omega
 obtain ⟨ps, hps⟩ : ∃ ps, p0 :: rs = ps := ⟨_, rfl⟩
 rw [hps] at KT KA hr hok hp hsz hlen h1N ⊢
 have KH := fun (h : Int) W hn hp => having2_any ps hsz hr.1 d h a c n W hn hp
 have KN := fun (h : Int) (h0 : (hvP d h ps).length ≠ 0) => hNs (hvP d h ps) (d + 1) (by omega) (right_sub hr List.filter_sublist) (by rw [hv_srt hr]; exact hok.going h (by rw [← hv_srt hr, ents_len, (srt_perm _).length_eq]; exact h0)) zz
 obtain ⟨T0, hT0⟩ : ∃ T, tdX d (noF (f + 1) d ps) = T := ⟨_, rfl⟩
 rw [hT0] at KT hlen ⊢
 rw [← List.append_assoc]
 obtain ⟨y, hy⟩ : ∃ y, bt path d = y := ⟨_, rfl⟩
 rw [hy] at hlen ⊢
 have HY : Hid (bt path d = y) := hy
 obtain ⟨N, hN⟩ : ∃ N, ps.length = N := ⟨_, rfl⟩
 have l1 : ((N : Int) == 1) = false := by rw [beq_eq_false_iff_ne]; omega
 rw [hN] at KT KA KH ⊢
 have HQ : Hid _ := hp
 have HN : Hid _ := NS.refl hown
 obtain ⟨ao, c0, rfl⟩ := (NS.refl hown).slice
 have wd : IntKind.i64.wrap ((d : Int) + 1) = ((d + 1 : Nat) : Int) := by rw [IntKind.wrap_i64]; omega
 obtain ⟨G1, hG1⟩ : ∃ G, GrR zz (.slice ao ts.length c0) (ts ++ T0) w = G := ⟨_, rfl⟩
 have HG1 : Hid (GrR zz (.slice ao ts.length c0) (ts ++ T0) w = G1) := hG1
 obtain ⟨Fs, hFs⟩ : ∃ z, ts ++ T0 ++ (if d < path.size ∧ (hvP d y ps).length ≠ 0 then wsF f (d + 1) (hvP d y ps) path else []) = z := ⟨_, rfl⟩
 have HFs : Hid (ts ++ T0 ++ (if d < path.size ∧ (hvP d y ps).length ≠ 0 then wsF f (d + 1) (hvP d y ps) path else []) = Fs) := hFs
 have hFl : Fs.length < 900000 := by rw [← hFs, List.length_append, List.length_append]; omega
 obtain ⟨G2, hG2⟩ : ∃ G, GrR zz (.slice ao ts.length c0) Fs w = G := ⟨_, rfl⟩
 have HG2 : Hid (GrR zz (.slice ao ts.length c0) Fs w = G2) := hG2
 rw [hG1] at KT
 rw [hFs, hG2]
 have HKN : Hid _ := KN
 clear hG1 hG2 hFs hT0 hp hown hr hok hsz hdd ha hN hlen h1N hps hy KN
 go_enter Tryd.func34, Tryd.ntmps34
 go_wp2_with fail
 refine KT.mono ?_
 intro e w1 hg
 rw [← HG1.out] at hg
 obtain ⟨v1, rfl, N1⟩ := NS.next HN.out hg
 obtain ⟨ao1, c1, rfl⟩ := N1.slice
 have hs1 := N1.gr.size
 have hp1 := N1.pairs hn HQ.out
 have HN1 : Hid _ := N1
 have K2 := KA w1 (by omega) hp1.slP
 obtain ⟨Ln, hLn⟩ : ∃ n, (ts ++ T0).length = n := ⟨_, rfl⟩
 have HLn : Hid _ := hLn
 rw [hLn]
 clear N1 hg KT KA hp1 hLn
 go_wp2_with fail
 refine K2.mono ?_
 rintro e w2 ⟨rfl, B2⟩
 have hs2 := B2.size
 have HN2 : Hid _ := HN1.out.below B2
 clear K2 B2
 by_cases hd1 : d < path.size
 ·have m1 : ¬ (path.size : Int) ≤ d := by omega
  have m2 : (d : Int) < path.size := by omega
  have hyb := bt_get path d hd1
  rw [HY.out] at hyb
  have hpr := HN2.out.pairs hn HQ.out
  have K3 := KH y w2 (by omega) hpr.slP
  have hq2 : ∀ q, (Value.slice ao1 (ts ++ T0).length c1).ownBlock = some q → q < w2.heap.size := fun q e => (HN2.out.own.lt q e).2
  have hq3 : ∀ q, (Value.slice ao1 Ln c1).ownBlock = some q → q < w2.heap.size := fun q e => hq2 q (by rw [HLn.out]; exact e)
  clear hpr hq2
  go_wp2_with fail
  refine K3.mono ?_
  rintro e w3 ⟨B3, a3, c3, rfl, hp3⟩
  have hs3 := B3.size
  have N3 := HN2.out.below B3
  rw [HLn.out] at N3
  by_cases hm0 : (hvP d y ps).length = 0
  ·have hFs2 : ts ++ T0 = Fs := by rw [← HFs.out, if_neg (fun h => h.2 hm0), List.append_nil]
   have hf2 : G2 (.returned (.slice ao1 Ln c1)) w3 := by rw [← HG2.out, ← hFs2]; exact N3.fin
   have HF : Hid (G2 (.returned (.slice ao1 Ln c1)) w3) := hf2
   rw [hm0]
   clear N3 hf2 hFs2 K3 hp3 B3
   go_wp2
   exact HF.out
  ·have hFs2 : ts ++ T0 ++ wsF f (d + 1) (hvP d y ps) path = Fs := by rw [← HFs.out, if_pos ⟨hd1, hm0⟩]
   have hp3q : slQ (.slice ao1 Ln c1) w3.heap.size w3 a3 (hvP d y ps) := by
    rcases hp3 with h | ⟨b, o, h1, h2, h3, h4⟩
    ·exact .inl h
    ·exact .inr ⟨b, o, h1, h3, fun e => by have := hq3 b e.symm; omega, h4⟩
   have K5 := HKN.out y hm0 (.slice ao1 Ln c1) (ts ++ T0) a3 c3 w3.heap.size w3 (Nat.le_refl _) hp3q N3.own (by omega) (by
    have := congrArg List.length hFs2
    rw [List.length_append] at this
    omega)
   rw [hFs2] at K5
   obtain ⟨M, hM⟩ : ∃ M, (hvP d y ps).length = M := ⟨_, rfl⟩
   obtain ⟨G5, hG5⟩ : ∃ G, GrR zz (.slice ao1 Ln c1) Fs w3 = G := ⟨_, rfl⟩
   have HG5 : Hid (GrR zz (.slice ao1 Ln c1) Fs w3 = G5) := hG5
   rw [hM] at K5 hm0 ⊢
   rw [hG5] at K5
   have lM : ((M : Int) == 0) = false := by rw [beq_eq_false_iff_ne]; omega
   have HN3 : Hid _ := N3
   clear N3 K3 hp3 B3 hp3q hG5 hM hFs2
   go_wp2_with fail
   refine K5.mono ?_
   intro e w6 hg
   rw [← HG5.out] at hg
   obtain ⟨v6, rfl, N6⟩ := NS.next HN3.out hg
   obtain ⟨ao6, c6, rfl⟩ := N6.slice
   obtain ⟨Ln6, hLn6⟩ : ∃ n, Fs.length = n := ⟨_, rfl⟩
   have hf2 : G2 (.returned (.slice ao6 Ln6 c6)) w6 := by rw [← HG2.out, ← hLn6]; exact N6.fin
   have HF : Hid (G2 (.returned (.slice ao6 Ln6 c6)) w6) := hf2
   rw [hLn6]
   clear N6 hg K5 hf2 hLn6
   go_wp2
   exact HF.out
 ·have m1 : (path.size : Int) ≤ d := by omega
  have hFs2 : ts ++ T0 = Fs := by rw [← HFs.out, if_neg (fun h => hd1 h.1), List.append_nil]
  have N3 := HN2.out
  rw [HLn.out] at N3
  have hf2 : G2 (.returned (.slice ao1 Ln c1)) w2 := by rw [← HG2.out, ← hFs2]; exact N3.fin
  have HF : Hid (G2 (.returned (.slice ao1 Ln c1)) w2) := hf2
  clear N3 hf2 hFs2
  go_wp2
  exact HF.out
theorem ws_all (path : ByteArray) : ∀ f : Nat, WsC path f
 | 0 => fun ps d hf hr hok => by
  have h0 := hok.pos
  have h1 := hok.sz 0 ((ents (srt ps))[0]'(by omega)) (List.getElem?_eq_getElem (by omega))
  omega
 | f + 1 => fun ps d hf hr hok zz v ts a c n w hn hp ho hz hlen => by
  match ps, hr, hok, hp, hlen with
  | [], _, hok, _, _ => exact absurd hok.pos (by rw [ents_len, (srt_perm []).length_eq]; decide)
  | [p0], hr, hok, hp, hlen => exact way_leaf path f d p0 hf hr hok zz v ts a c n w hn hp ho hz (by omega)
  | p0 :: p1 :: r, hr, hok, hp, hlen =>
   by_cases ha : alkV d (enP p0) ((p1 :: r).map enP) = 0
   ·exact way_fork path f d (ws_all path f) p0 (p1 :: r) (by simp) hf hr hok ha zz v ts a c n w hn hp ho hz hlen
   ·exact way_bridge path f d (ws_all path f) p0 (p1 :: r) (by simp) hf hr hok _ rfl ha zz v ts a c n w hn hp ho hz hlen
end Go.Proofs.YtbmapdkcccdmfaaDoor
namespace Go.Proofs.YtbmapdkcccdmfaaDoor
open Go.RowKit Go.Shelf Go.Sort

theorem ws_cut (path : ByteArray) : ∀ (f d : Nat) (ps : List Pr), 129 ≤ f + d → RightP ps → Ok d (ents (srt ps)) → wsF f d ps (path.extract 0 128) = wsF f d ps path
 | 0, d, ps, hf, hr, hok => by
  have h0 := hok.pos
  have h1 := hok.sz 0 ((ents (srt ps))[0]'(by omega)) (List.getElem?_eq_getElem (by omega))
  omega
 | f + 1, d, ps, hf, hr, hok => by
  have hsz : (path.extract 0 128).size = min 128 path.size := by rw [ByteArray.size_extract]; omega
  match ps, hr, hok with
  | [], _, hok => exact absurd hok.pos (by rw [ents_len, (srt_perm []).length_eq]; decide)
  | [p0], hr, hok => rw [wsF_one, wsF_one]
  | p0 :: p1 :: r, hr, hok =>
   by_cases ha : alkV d (enP p0) ((p1 :: r).map enP) = 0
   ·rw [wsF_fork hr hok (by simp) ha, wsF_fork hr hok (by simp) ha]
    congr 1
    obtain ⟨k1, k2, _, _⟩ := hok.rest (by rw [ents_len, (srt_perm _).length_eq]; simp)
    have hp := k1.pos
    have h1 := k2 0 _ (List.getElem?_eq_getElem (by omega))
    have h3 := (k1.sz 0 _ (List.getElem?_eq_getElem (by omega))).2.1
    by_cases hd : d < path.size
    ·have hb : bt (path.extract 0 128) d = bt path d := by
      have e1 := bt_get (path.extract 0 128) d (by omega)
      rw [ByteArray.getElem_extract] at e1
      have e2 := bt_get path (0 + d) (by omega)
      have e3 := e1.symm.trans e2
      rw [Nat.zero_add] at e3
      exact e3
     rw [hb]
     by_cases hm : (hvP d (bt path d) (p0 :: p1 :: r)).length = 0
     ·rw [if_neg (fun h => h.2 hm), if_neg (fun h => h.2 hm)]
     ·rw [if_pos ⟨by omega, hm⟩, if_pos ⟨hd, hm⟩]
      exact ws_cut path f (d + 1) _ (by omega) (right_sub hr List.filter_sublist) (by rw [hv_srt hr]; exact hok.going _ (by rw [← hv_srt hr, ents_len, (srt_perm _).length_eq]; exact hm))
    ·rw [if_neg (fun h => by have := h.1; omega), if_neg (fun h => hd h.1)]
   ·obtain ⟨av, hav⟩ : ∃ a, alkV d (enP p0) ((p1 :: r).map enP) = a := ⟨_, rfl⟩
    have h0 : av ≠ 0 := by rw [← hav]; exact ha
    have hok2 := (noF_bridge (f := f) hok (by simp) hav h0).2
    have hda := ((Ok_iff (d + av) _).1 hok2).2.2.1 (enP p0) (mem_ents.2 ⟨p0, by simp, rfl⟩)
    rw [wsF_bridge hok (by simp) hav h0, wsF_bridge hok (by simp) hav h0]
    congr 1
    have he : (path.extract 0 128).extract d (d + av) = path.extract d (d + av) := by
     rw [ByteArray.extract_extract]
     congr 1
     ·omega
     ·omega
    rw [he, hsz, ws_cut path f (d + av) _ (by omega) hr hok2]
    by_cases hb : d + av ≤ path.size ∧ path.extract d (d + av) = (tl d (enP p0)).extract 0 av
    ·rw [if_pos hb, if_pos ⟨by omega, hb.2⟩]
    ·rw [if_neg hb, if_neg (fun h => hb ⟨by have := h.1; omega, h.2⟩)]
theorem ky_cut (key : ByteArray) : kyP key = (ofOf key).extract 0 128 := by
 unfold kyP
 have s1 : (key.extract 0 (min key.size 64)).size = min key.size 64 := by rw [ByteArray.size_extract]; omega
 have s2 : ((ofOf key).extract 0 128).size = 2 * min key.size 64 := by rw [ByteArray.size_extract, of_sz]; omega
 refine ext_bt _ _ (by rw [of_sz, s1, s2]) fun j hj => ?_
 rw [of_sz, s1] at hj
 have e1 := bt_get ((ofOf key).extract 0 128) j (by omega)
 rw [ByteArray.getElem_extract] at e1
 have e2 := bt_get (ofOf key) (0 + j) (by rw [of_sz]; omega)
 have e3 := e1.symm.trans e2
 rw [Nat.zero_add] at e3
 rw [e3, of_bt _ j (by omega), of_bt _ j (by omega)]
 have k1 := bt_get (key.extract 0 (min key.size 64)) (j / 2) (by omega)
 rw [ByteArray.getElem_extract] at k1
 have k2 := bt_get key (0 + j / 2) (by omega)
 have k3 := k1.symm.trans k2
 rw [Nat.zero_add] at k3
 rw [k3]
theorem ws_top {es : List Pr} {key : ByteArray} (hr : RightP es) (h0 : es.length ≠ 0) : wsF 129 0 es (ofOf key) = tdS true (wayL (kyP key)) es := by
 have h' : (srt es).length ≠ 0 := by rw [(srt_perm es).length_eq]; exact h0
 rw [← ws_cut (ofOf key) 129 0 es (by omega) hr (ok_top hr h0), ← ky_cut]
 unfold tdS wyL wsF noF tdX
 rw [if_pos (.inl rfl), if_pos rfl, if_neg h']
 have e : (kyP key).extract 0 (kyP key).size = kyP key := ByteArray.extract_zero_size
 rw [e]
 rfl
end Go.Proofs.YtbmapdkcccdmfaaDoor
