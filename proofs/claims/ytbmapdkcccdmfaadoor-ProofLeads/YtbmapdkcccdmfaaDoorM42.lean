/- Lemmas: The reference's Sum, at this translation: for all texts of at most a hundred thousand bytes. The reference's lanes are the program's: byte by byte, or lane by lane. The reference's digest is the program's. -/
import Derived.Test.YtbmapdkcccdmfaaDoorM1
import Derived.Test.YtbmapdkcccdmfaaDoorM2
import Derived.Test.YtbmapdkcccdmfaaDoorM20
import Derived.Test.YtbmapdkcccdmfaaDoorM3
import Derived.Test.YtbmapdkcccdmfaaDoorM36
import Derived.Test.YtbmapdkcccdmfaaDoorM37
import Derived.Test.YtbmapdkcccdmfaaDoorM38
import Derived.Test.YtbmapdkcccdmfaaDoorM4
import Derived.Test.YtbmapdkcccdmfaaDoorM41
import Derived.Test.YtbmapdkcccdmfaaDoorRows
namespace Go.Proofs.YtbmapdkcccdmfaaDoor
open Go.RowKit Go.Sort

def qN (s : ByteArray) : Nat := 136 * (s.size / 136 + 1)
def qAt (s : ByteArray) (k : Nat) : Int := if k < s.size then k_bt s k else if k = s.size then 1 else 0
def qL (s : ByteArray) (k : Nat) : Int := if k = qN s - 1 then bits .xor .u8 (qAt s k) 128 else qAt s k
theorem info_u8' : (Tryd.prog.info? 5).map (fun i => (i.zero, i.size, i.bytes)) = some (some (.int .u8 0), 1, 1) := by kernel_rfl
theorem one_new' (w : World) (x : Value) (t : TypeId) : ∀ j u, [x][j]? = some u → (w.alloc (.cells #[x] t)).cell? ((⟨w.heap.size, 0, none⟩ : Addr).add j) = some u := by
 intro j u hj
 match j, hj with
 | 0, hj => simp at hj; subst hj; simp [Addr.add]
theorem bs_bytes (s : ByteArray) (cap : Nat) (hc : s.size ≤ cap) (w : World) (e : TypeId) (h : Nat → Value) (hh : ∀ j, j < s.size → h j = .int .u8 (k_bt s j)) :
  Bs w.heap.size s.size cap h (w.alloc (.cells (bytesRow s cap) e ((bytesRow s cap).size, (bytesRow s cap).size + 1))) := by
 have hz : (bytesRow s cap).size = cap := by
  have : s.data.size = s.size := rfl
  simp [bytesRow, this]; omega
 refine ⟨by simp, hc, fun j hj => ?_, fun j hj => ?_, fun j hj => ?_⟩
 ·rw [World.cell?_alloc_mark, bytesRow_at s cap j hj, hh j hj]
  unfold k_bt
  have : s.data.getD j 0 = s.data[j]'hj := by
   have hj' : j < s.data.size := hj
   simp only [Array.getD, hj', dite_true]
   rfl
  rw [this]
 ·rw [World.cell?_alloc_mark, Array.getElem?_eq_getElem (by rw [hz]; exact hj)]
  rfl
 ·rw [World.frozen?_alloc_mark, hz]
  simp; omega

structure Rd (g n : Nat) (f : Nat → Value) (W : World) : Prop where
 z : g < W.heap.size
 c : ∀ j, j < n → W.cell? ⟨g, j, none⟩ = some (f j)
theorem Rd.below {g n : Nat} {f : Nat → Value} {W W' : World} (k : Rd g n f W) (hb : Below W.heap.size W W') : Rd g n f W' :=
 ⟨Nat.lt_of_lt_of_le k.z hb.size, fun j hj => (hb.cell (p := ⟨g, j, none⟩) k.z).trans (k.c j hj)⟩

theorem Bs.mark {g n cap : Nat} {f h : Nat → Value} {W : World} (k : Bs g n cap f W) (i : Nat) (hi : i < n) (v : Value) (e : ∀ j, j < n → h j = if j = i then v else f j) : Rd g n h (W.setCell ⟨g, i, none⟩ v) := by
 refine ⟨by simpa [go_sem] using k.z, fun j hj => ?_⟩
 rw [e j hj]
 by_cases q : j = i
 ·subst q
  have := k.c j hj
  simp [go_sem, *]
 ·have := k.c j hj
  simp [go_sem, *]
theorem Rd.setCell {g n : Nat} {f : Nat → Value} {W : World} (k : Rd g n f W) (p : Addr) (hp : p.block ≠ g) (v : Value) : Rd g n f (W.setCell p v) := by
 have hp' : g ≠ p.block := fun e => hp e.symm
 obtain ⟨pb, po, pm⟩ := p
 simp only at hp hp'
 exact ⟨by simpa [go_sem] using k.z, fun j hj => by have := k.c j hj; simp [go_sem, *]⟩
theorem Rd.storeOther {g n : Nat} {f : Nat → Value} {W : World} (k : Rd g n f W) (b : Nat) (hb : b ≠ g) (vs : List Value) : Rd g n f (W.setCells b 0 vs) := by
 have G := grown_setCells (g := b) vs 0 W
 have hk : (W.setCells b 0 vs).heap[g]? = W.heap[g]? := G.block g k.z (fun e => hb (by cases e; rfl))
 exact ⟨Nat.lt_of_lt_of_le k.z G.size, fun j hj => by rw [← k.c j hj]; simp only [World.cell?, hk]⟩

def rblk (g : Nat → Int) (q : Nat → Int) : Nat → Nat → Int
 | 0 => g
 | i + 1 => putAt (rblk g q i) (i / 8) (xr (rblk g q i (i / 8)) (IntKind.u64.wrap (q i * 2 ^ (8 * (i % 8)))))
def rin (s : ByteArray) : Nat → Nat → Int
 | 0 => fun _ => 0
 | n + 1 => roundsOf (rblk (rin s n) (fun i => qL s (136 * n + i)) 136) 24
def rsumOf (s : ByteArray) : ByteArray := ⟨(dg (rin s (s.size / 136 + 1))).toArray⟩
theorem la_round (k : Nat) (f : Nat → Int) (j : Nat) : La (roundOf k f j) := by
 unfold roundOf
 by_cases h : j = 0
 ·rw [if_pos h]; exact xr_la _ _
 ·rw [if_neg h]; exact xr_la _ _
theorem la_rounds (g : Nat → Int) (h : ∀ j, La (g j)) (k j : Nat) : La (roundsOf g k j) := by
 cases k with
 | zero => exact h j
 | succ k => exact la_round _ _ _
theorem la_rblk (g q : Nat → Int) (h : ∀ j, La (g j)) (i j : Nat) : La (rblk g q i j) := by
 induction i with
 | zero => exact h j
 | succ i ih =>
  show La (putAt _ _ _ j)
  unfold putAt
  by_cases e : j = i / 8
  ·rw [if_pos e]; exact xr_la _ _
  ·rw [if_neg e]; exact ih
theorem la_rin (s : ByteArray) (n j : Nat) : La (rin s n j) := by
 induction n generalizing j with
 | zero => exact ⟨Int.le_refl _, by show (0 : Int) < _; decide⟩
 | succ n ih => exact la_rounds _ (fun j => la_rblk _ _ ih _ _) _ _
theorem qL_bd (s : ByteArray) (k : Nat) : 0 ≤ qL s k ∧ qL s k < 256 := by
 have h1 : 0 ≤ qAt s k ∧ qAt s k < 256 := by
  unfold qAt
  by_cases a : k < s.size
  ·rw [if_pos a]; exact k_bt_bd s k
  ·rw [if_neg a]
   by_cases b : k = s.size
   ·rw [if_pos b]; omega
   ·rw [if_neg b]; omega
 unfold qL
 by_cases a : k = qN s - 1
 ·rw [if_pos a]
  have e : bits .xor .u8 (qAt s k) 128 = IntKind.u8.wrap (((BitVec.ofInt 8 (qAt s k)) ^^^ (BitVec.ofInt 8 128)).toNat : Int) := rfl
  rw [e, IntKind.wrap_u8]
  omega
 ·rw [if_neg a]; exact h1
abbrev is25 : Array Value := #[.int .i64 0, .int .i64 0, .int .i64 0, .int .i64 0, .int .i64 0, .int .i64 0, .int .i64 0, .int .i64 0, .int .i64 0, .int .i64 0, .int .i64 0, .int .i64 0, .int .i64 0, .int .i64 0, .int .i64 0, .int .i64 0, .int .i64 0, .int .i64 0, .int .i64 0, .int .i64 0, .int .i64 0, .int .i64 0, .int .i64 0, .int .i64 0, .int .i64 0]

theorem fl_succ' (k : Nat) (f : Nat → Value) : fl (k + 1) f = fl k f ++ [f k] := by simp [fl, List.range_succ]
theorem owns_below' {w w' : World} {b : Nat} {e : TypeId} {size : Nat} {v : Value} {n : Nat} {xs : List Value} (h : w.ownsRow b e size v n xs) (hb : Below w.heap.size w w') : w'.ownsRow b e size v n xs :=
 h.kept (row := none) ⟨hb.os, hb.tape, hb.output, hb.size, fun k hk _ => hb.block k hk⟩ (by cases v.ownBlock <;> simp)
theorem Fw.grown' {n N : Nat} {g : Nat → Value} {W W' : World} {row : Option Nat} (k : Fw n N g W) (hg : W.grownBy W' row) (hne : some n ≠ row) : Fw n N g W' := by
 have hb : W'.heap[n]? = W.heap[n]? := hg.block n k.z hne
 refine ⟨Nat.lt_of_lt_of_le k.z hg.size, fun j hj => ?_, fun o => ?_⟩
 ·rw [← k.c j hj]; simp only [World.cell?, hb]
 ·rw [← k.f o]; simp only [World.frozen?, hb]

set_option maxRecDepth 20000 in
set_option maxHeartbeats 4000000 in
theorem rsum_any (s : ByteArray) (hs : s.size ≤ 100000) (w : World) :
  Calls Tryd.prog 25 #[.string s] w fun e w' => e = .returned (.string (rsumOf s)) ∧ Below w.heap.size w w' := by
 obtain ⟨i0, hi0, hz0, hz1, hz2⟩ := info_parts info_u8'
 have hby : i0.bytes ≤ 64 := by rw [hz2]; decide
 have hge := grownCap_ge w s.size 0 5
 obtain ⟨c0, hc0⟩ : ∃ c, grownCap w s.size 0 5 = c := ⟨_, rfl⟩
 have hcv := run_bytes_of_string (P := Tryd.prog) w 9 24 5 s Tryd.underlying9 Tryd.underlying24 Tryd.underlying5
 rw [hc0] at hcv hge
 have B0 : Bs w.heap.size s.size c0 (fun j => .int .u8 (qAt s j)) (w.drew.alloc (.cells (bytesRow s c0) 5 ((bytesRow s c0).size, (bytesRow s c0).size + 1))) := bs_bytes s c0 hge w.drew 5 _ (fun j hj => by rw [qAt, if_pos hj])
 have E0 : Below w.heap.size w (w.drew.alloc (.cells (bytesRow s c0) 5 ((bytesRow s c0).size, (bytesRow s c0).size + 1))) := (Below.refl _ w).drew.alloc (by simp) _
 obtain ⟨w1, hw1⟩ : ∃ w1, w.drew.alloc (.cells (bytesRow s c0) 5 ((bytesRow s c0).size, (bytesRow s c0).size + 1)) = w1 := ⟨_, rfl⟩
 rw [hw1] at hcv B0 E0
 clear hw1 hc0 hge
 obtain ⟨z, hz⟩ : ∃ z, w.heap.size = z := ⟨_, rfl⟩
 rw [hz] at hcv B0 E0 ⊢
 have hzw : z ≤ w1.heap.size := by rw [← hz] at E0 ⊢; exact E0.size
 clear hz
 go_enter Tryd.func25, Tryd.ntmps25
 go_wp2_with (at_builtin; refine wpList_append_bs rfl _ _ 24 rfl 5 i0 (.int .u8 0) Tryd.underlying24 hi0 hz0 hz1 hby rfl z s.size c0 (fun j => .int .u8 (qAt s j)) rfl (B0.below ((Below.refl _ w1).alloc (Nat.le_refl _) _)) ⟨w1.heap.size, 0, none⟩ 1 1 [.int .u8 1] rfl rfl (one_new' _ _ _) (by intro u hu; simp at hu; subst hu; rfl) ?c4 (by omega) ?_)
 case c4 =>
  intro j u hj
  match j, hj with
  | 0, hj => cases hj; rw [Nat.add_zero, qAt, if_neg (by omega), if_pos rfl]
 intro g cap W1 BB hg hgr
 have E1 : Below z w W1 := (E0.alloc hzw _).grown hgr (by simp; omega) (fun k e => by cases e; exact Nat.le_refl _)
 have hzg : z ≤ g := by
  rcases hg with h | h
  ·rw [h]; exact Nat.le_refl _
  ·(try simp at h); omega
 clear hgr hg B0 E0 hcv
 go_wp2
 obtain ⟨nb, hnb⟩ : ∃ nb, s.size / 136 + 1 = nb := ⟨_, rfl⟩
 obtain ⟨N, hN⟩ : ∃ N, qN s = N := ⟨_, rfl⟩
 have hN136 : N = 136 * nb := by rw [← hN, ← hnb, qN]
 have hNs : s.size + 1 ≤ N ∧ N ≤ s.size + 136 := by omega
 obtain ⟨Z, hZ⟩ : ∃ Z, s.size + 1 + Z = N := ⟨N - (s.size + 1), by omega⟩
 have HN : Hid (qN s = N ∧ s.size / 136 + 1 = nb ∧ N = 136 * nb) := ⟨hN, hnb, hN136⟩
 have hnb8 : nb ≤ 1000 := by omega
 clear hN hN136 hnb
 have hzW : z ≤ W1.heap.size := Nat.le_trans hzg (Nat.le_of_lt BB.z)
 go_loopg [3] Z (fun gk v wr => ∃ k g cap : Nat, k + gk = Z ∧ v = .slice (some ⟨g, 0, none⟩) (s.size + 1 + k) cap ∧ Bs g (s.size + 1 + k) cap (fun j => .int .u8 (qAt s j)) wr ∧ z ≤ g ∧ Below z w wr)
 case atStart => exact ⟨0, g, cap, by omega, rfl, BB, hzg, E1⟩
 case round =>
  clear BB hzg E1 hzW
  obtain ⟨k, g, cap, hk, rfl, BB, hzg, E1⟩ := hrel
  have hzr : z ≤ wr.heap.size := Nat.le_trans hzg (Nat.le_of_lt BB.z)
  obtain ⟨n, hn⟩ : ∃ n, s.size + 1 + k = n := ⟨_, rfl⟩
  have hn1 : n ≤ 100200 := by omega
  rw [hn] at BB ⊢
  by_cases hlt : k < Z
  ·have hm : ¬ (n : Int) % 136 = 0 := by have := HN.out.2.2; omega
   have hmt : (n : Int).tmod 136 = (n : Int) % 136 := Int.tmod_eq_emod_of_nonneg (by omega)
   have HP0 : Hid (qAt s n = 0) := by show _ = _; rw [qAt, if_neg (by omega), if_neg (by omega)]
   go_wp2_with (at_builtin; refine wpList_append_bs rfl _ _ 24 rfl 5 i0 (.int .u8 0) Tryd.underlying24 hi0 hz0 hz1 hby rfl g n cap (fun j => .int .u8 (qAt s j)) rfl (BB.below ((Below.refl _ wr).alloc (Nat.le_refl _) _)) ⟨wr.heap.size, 0, none⟩ 1 1 [.int .u8 0] rfl rfl (one_new' _ _ _) (by intro u hu; simp at hu; subst hu; rfl) ?c4 (by omega) ?_)
   case c4 =>
    intro j u hj
    match j, hj with
    | 0, hj => cases hj; rw [Nat.add_zero, HP0.out]
   intro g2 cap2 W2 B2 hg hgr
   have E2 : Below z w W2 := (E1.alloc hzr _).grown hgr (by simp; omega) (fun k e => by cases e; exact hzg)
   have hzg2 : z ≤ g2 := by
    rcases hg with h | h
    ·rw [h]; exact hzg
    ·(try simp at h); omega
   clear hgr hg BB E1
   go_wp2
   go_roundg (gk - 1)
   case measure => omega
   case rel => exact ⟨k + 1, g2, cap2, by omega, by rw [← hn]; rfl, by rw [show s.size + 1 + (k + 1) = n + 1 by omega]; exact B2, hzg2, E2⟩
  ·have hk2 : k = Z := by omega
   subst hk2
   clear hlt
   have hnN : n = N := by omega
   subst hnN
   have hm : (n : Int) % 136 = 0 := by have := HN.out.2.2; omega
   have hmt : (n : Int).tmod 136 = (n : Int) % 136 := Int.tmod_eq_emod_of_nonneg (by omega)
   obtain ⟨M, hM⟩ : ∃ M : Nat, n - 1 = M := ⟨_, rfl⟩
   have wM : IntKind.i64.wrap ((n : Int) - 1) = M := by rw [IntKind.wrap_i64]; omega
   have lM : (M : Int) < n := by omega
   have n0 := BB.c M (by omega)
   have sf := BB.fr M (by have := BB.nc; omega)
   have sz := BB.z
   obtain ⟨v0, hv0⟩ : ∃ v, qAt s M = v := ⟨_, rfl⟩
   rw [hv0] at n0
   obtain ⟨v1, hv1⟩ : ∃ v, bits .xor .u8 v0 128 = v := ⟨_, rfl⟩
   have RD : Rd g n (fun j => .int .u8 (qL s j)) (wr.setCell ⟨g, M, none⟩ (.int .u8 v1)) := BB.mark M (by omega) _ fun j hj => by
    show Value.int .u8 _ = _
    rw [qL, HN.out.1, hM]
    by_cases e : j = M
    ·rw [if_pos e, if_pos e, e, hv0, hv1]
    ·rw [if_neg e, if_neg e]
   have E2 : Below z w (wr.setCell ⟨g, M, none⟩ (.int .u8 v1)) := E1.setCell (p := ⟨g, M, none⟩) (by exact hzg) _
   have HX : Hid (_ ∧ _) := ⟨RD, E2⟩
   clear RD E2 BB E1 hv0 hM
   go_wp2_with fail
   obtain ⟨RD, E2⟩ := HX.out
   have hzq : z ≤ (wr.setCell ⟨g, M, none⟩ (.int .u8 v1)).heap.size := Nat.le_trans hzg (Nat.le_of_lt RD.z)
   refine (rturns_any _).mono ?_
   rintro e w2 ⟨rfl, B2⟩
   have RD2 := RD.below B2
   have E3 := belowStep E2 hzq B2
   clear RD E2 hzq B2 HX n0 sf sz
   have hzc : z ≤ w2.heap.size := Nat.le_trans hzg (Nat.le_of_lt RD2.z)
   have hgc : g < w2.heap.size := RD2.z
   have Z2 : Fw w2.heap.size 25 (fun _ => .int .i64 0) (w2.alloc (.cells is25 92)) := Fw.lit _ _ rfl rfl
   have hst := Z2.run (P := Tryd.prog) (fun j => .int .i64 (tn j)) (fun _ => rfl)
   have N3 := Z2.store (fun j => .int .i64 (tn j))
   obtain ⟨l, hl⟩ : ∃ l, (fl 25 fun j => .int .i64 (tn j)) = l := ⟨_, rfl⟩
   have hlen : l.length = 25 := by rw [← hl]; exact fl_len _ _
   rw [hl] at hst N3 ⊢
   have hz3 : Hid (((w2.alloc (.cells is25 92)).setCells w2.heap.size 0 l).heap.size = w2.heap.size + 1) := by
    show _ = _
    rw [setCells_size]
    simp
   have R3' : Rd g n (fun j => .int .u8 (qL s j)) ((w2.alloc (.cells is25 92)).setCells w2.heap.size 0 l) := (RD2.below ((Below.refl _ w2).alloc (Nat.le_refl _) _)).storeOther _ (by omega) _
   have E4 : Below z w ((w2.alloc (.cells is25 92)).setCells w2.heap.size 0 l) := below_setCells' hzc _ _ _ (E3.alloc hzc _)
   have H3 : Hid (_ ∧ _ ∧ _ ∧ _) := ⟨R3', N3, E4, hl⟩
   clear R3' N3 E4 Z2 RD2 E3 hl
   go_wp2_with fail
   obtain ⟨R3', N3, E4, hl⟩ := H3.out
   try rw [hz3.out]
   obtain ⟨w3, hw3⟩ : ∃ w3, (w2.alloc (.cells is25 92)).setCells w2.heap.size 0 l = w3 := ⟨_, rfl⟩
   have hz4 := hz3.out
   rw [hw3] at R3' N3 E4 hz4 ⊢
   obtain ⟨c, hc⟩ : ∃ c, w2.heap.size = c := ⟨_, rfl⟩
   rw [hc] at N3 hz4 hzc hgc ⊢
   refine wpOf (fun W => Rd g n (fun j => .int .u8 (qL s j)) W ∧ Fw c 25 (fun j => .int .i64 (tn j)) W ∧ Fw (c + 1) 25 (fun _ => .int .u64 0) W ∧ Below z w W) ⟨R3'.below ((Below.refl _ w3).alloc (Nat.le_refl _) _), N3.alloc _, Fw.lit _ _ hz4 rfl, E4.alloc (by omega) _⟩ ?_
   rintro V ⟨RV, CV, DV, EV⟩
   clear R3' N3 E4 hz4 hw3 hc H3 hz3 hst
   obtain ⟨d, hd⟩ : ∃ d, c + 1 = d := ⟨_, rfl⟩
   rw [hd] at DV ⊢
   have hL2 : Hid (_ ∧ _) := ⟨hl, hlen⟩
   clear hl hlen wM lM
   go_loopg [6] nb (fun gk v wr => ∃ m : Nat, m + gk = nb ∧ v = .int .i64 ((136 * m : Nat) : Int) ∧ Rd g n (fun j => .int .u8 (qL s j)) wr ∧ Fw c 25 (fun j => .int .i64 (tn j)) wr ∧ Fw d 25 (fun j => .int .u64 (rin s m j)) wr ∧ Below z w wr)
   case atStart => exact ⟨0, by omega, rfl, RV, CV, DV, EV⟩
   case round =>
    clear RV CV DV EV
    obtain ⟨m, hm, rfl, RW, CW, DW, EW⟩ := hrel
    obtain ⟨p, hp⟩ : ∃ p, 136 * m = p := ⟨_, rfl⟩
    rw [hp]
    by_cases hlt : m < nb
    ·have hpn : p + 136 ≤ n := by have := HN.out.2.2; omega
     have l0 : (p : Int) < n := by omega
     obtain ⟨G, hG⟩ : ∃ G, rin s m = G := ⟨_, rfl⟩
     have HG : Hid (rin s m = G ∧ 136 * m = p ∧ ∀ j, La (G j)) := ⟨hG, hp, fun j => by rw [← hG]; exact la_rin s m j⟩
     rw [hG] at DW
     clear hG hp
     go_wp2
     go_loopg [7] 136 (fun gk v wr => ∃ i : Nat, ∃ h : Nat → Int, i + gk = 136 ∧ v = .int .i64 i ∧ Rd g n (fun j => .int .u8 (qL s j)) wr ∧ Fw c 25 (fun j => .int .i64 (tn j)) wr ∧ Fw d 25 (fun j => .int .u64 (h j)) wr ∧ Below z w wr ∧ Hid (h = rblk G (fun i => qL s (p + i)) i))
     case atStart => exact ⟨0, G, by omega, rfl, RW, CW, DW, EW, (rfl : _ = _)⟩
     case round =>
      clear RW CW DW EW
      obtain ⟨i, h, hi, rfl, RW, CW, DW, EW, hH⟩ := hrel
      by_cases hli : i < 136
      ·have l1 : (i : Int) < 136 := by omega
       obtain ⟨q, hq, hq17⟩ : ∃ q : Nat, i / 8 = q ∧ q < 17 := ⟨_, rfl, by omega⟩
       obtain ⟨r, hr, hr8⟩ : ∃ r : Nat, i % 8 = r ∧ r < 8 := ⟨_, rfl, by omega⟩
       obtain ⟨e, he⟩ : ∃ e : Nat, 8 * r = e := ⟨_, rfl⟩
       obtain ⟨t, ht⟩ : ∃ t : Nat, p + i = t := ⟨_, rfl⟩
       have a1 : (i : Int).tdiv 8 = q := by rw [Int.tdiv_eq_ediv_of_nonneg (by omega)]; omega
       have a2 : (i : Int).tmod 8 = r := by rw [Int.tmod_eq_emod_of_nonneg (by omega)]; omega
       have a3 : IntKind.i64.wrap (q : Int) = q := by rw [IntKind.wrap_i64]; omega
       have a4 : IntKind.i64.wrap (r : Int) = r := by rw [IntKind.wrap_i64]; omega
       have a5 : IntKind.i64.wrap (8 * (r : Int)) = e := by rw [IntKind.wrap_i64]; omega
       have a6 : IntKind.i64.wrap ((p : Int) + i) = t := by rw [IntKind.wrap_i64]; omega
       have a7 : IntKind.i64.wrap (e : Int) = e := by rw [IntKind.wrap_i64]; omega
       have b1 : (q : Int) < 25 := by omega
       have b2 : (t : Int) < n := by omega
       have b3 : (e : Int) ≤ 64 := by omega
       have b4 : (0 : Int) ≤ e := by omega
       have b5 : min e 64 = e := by omega
       have b6 : ¬ (e : Int) < 0 := by omega
       have m0 := DW.c q (by omega)
       have m1 := RW.c t (by omega)
       obtain ⟨v0, hv0⟩ : ∃ v, h q = v := ⟨_, rfl⟩
       obtain ⟨b0, hb0⟩ : ∃ v, qL s t = v := ⟨_, rfl⟩
       have hbd := qL_bd s t
       rw [hv0] at m0
       rw [hb0] at m1 hbd
       have a8 : IntKind.u64.wrap b0 = b0 := by rw [IntKind.wrap_u64]; omega
       have HV : Hid (rblk G (fun i => qL s (p + i)) (i + 1) = putAt h q (xr v0 (IntKind.u64.wrap (b0 * 2 ^ e)))) := by
        show putAt _ (i / 8) (xr _ (IntKind.u64.wrap (qL s (p + i) * 2 ^ (8 * (i % 8))))) = _
        rw [← hH.out, hq, hr, he, ht, hv0, hb0]
       clear hv0 hb0 hq hr ht he
       go_wp2
       have k0 := cell_regrown m0
       have k1 := cell_regrown m1
       refine region_tail 18 (by kernel_rfl) (by kernel_rfl) ?_
       simp only [List.take_succ_cons, List.take_zero, List.drop_succ_cons, List.drop_zero]
       iterate 18 (quiet_step (fail))
       refine wpQuiet_nil ?_
       intro w8 hw8
       have hb8 : Below wr.heap.size wr w8 := by
        obtain ⟨p, rfl⟩ := hw8
        exact below_regrown _ _ _
       have R8 := RW.below hb8
       have C8 := CW.below hb8
       have D8 := DW.below hb8
       have E8 := belowStep EW (Nat.le_trans hzg (Nat.le_of_lt RW.z)) hb8
       clear hw8 hb8 k0 k1 RW CW DW EW m0 m1
       have n0 := D8.c q (by omega)
       have sf := D8.f
       have sz := D8.z
       go_wp2
       go_roundg (gk - 1)
       case measure => omega
       case rel =>
        refine ⟨i + 1, putAt h q (xr v0 (IntKind.u64.wrap (b0 * 2 ^ e))), by omega, rfl, R8.setCell ⟨d, q, none⟩ (by dsimp only; omega) _, C8.setCell ⟨d, q, none⟩ (by dsimp only; omega) _, D8.put q (by omega) _ (fun j _ => by unfold putAt; by_cases e : j = q <;> simp [e]), E8.setCell (p := ⟨d, q, none⟩) (by dsimp only; omega) _, HV.out.symm⟩
      ·have hi2 : i = 136 := by omega
       subst hi2
       clear hli
       have HL : Hid (∀ j, La (h j)) := fun j => by rw [hH.out]; exact la_rblk _ _ HG.out.2.2 _ _
       go_wp2
       obtain ⟨H, hHH⟩ : ∃ H, h = H := ⟨_, rfl⟩
       rw [hHH] at DW HL hH
       clear hHH h
       go_loopg [8] 24 (fun gk v wr => ∃ k : Nat, k + gk = 24 ∧ v = .int .i64 k ∧ Rd g n (fun j => .int .u8 (qL s j)) wr ∧ Fw c 25 (fun j => .int .i64 (tn j)) wr ∧ Fw d 25 (fun j => .int .u64 (roundsOf H k j)) wr ∧ Below z w wr)
       case atStart => exact ⟨0, by omega, rfl, RW, CW, DW, EW⟩
       case round =>
        clear RW CW DW EW
        obtain ⟨k, hk, rfl, RW, CW, DW, EW⟩ := hrel
        by_cases hlk : k < 24
        ·have l2 : (k : Int) < 24 := by omega
         obtain ⟨F1, hF1⟩ : ∃ F1, roundsOf H k = F1 := ⟨_, rfl⟩
         have HF1 : Hid (roundsOf H k = F1) := hF1
         have KR : Hid (∀ w : World, _) := fun w : World => rround_any F1 (fun j _ => by rw [← hF1]; exact la_rounds H HL.out k j) k hlk w
         rw [hF1] at DW
         have hr1 := DW.range
         have hr2 := CW.range
         obtain ⟨l1, hl1⟩ : ∃ l, (fl 25 fun j => .int .u64 (F1 j)) = l := ⟨_, rfl⟩
         obtain ⟨l3, hl3⟩ : ∃ l, (fl 25 fun j => .int .u64 (roundOf k F1 j)) = l := ⟨_, rfl⟩
         have hlen1 : l1.length = 25 := by rw [← hl1]; exact fl_len _ _
         have hlen2 : l.length = 25 := hL2.out.2
         have hlen3 : l3.length = 25 := by rw [← hl3]; exact fl_len _ _
         rw [hL2.out.1] at hr2 KR
         rw [hl1] at hr1 KR
         rw [hl3] at KR
         have HL3 : Hid (_ = _) := hl3
         clear hF1 hl1 hl3
         go_wp2_with (first | refine wpList_load_mid rfl 94 _ rfl d 0 rfl l1 _ hr1 Tryd.underlying94 rfl (by rw [hlen1]; exact size_rst) ?_ | refine wpList_load_mid rfl 92 _ rfl c 0 rfl l _ hr2 Tryd.underlying92 rfl (by rw [hlen2]; exact size_i25) ?_)
         refine (KR.out _).mono ?_
         rintro e w4 ⟨rfl, B4⟩
         have R4 := RW.below B4
         have C4 := CW.below B4
         have D4 := DW.below B4
         have E4 := belowStep EW (Nat.le_trans hzg (Nat.le_of_lt RW.z)) B4
         clear B4 RW CW DW EW KR hr1 hr2 hlen1 hlen2
         have hst := D4.run (P := Tryd.prog) (fun j => .int .u64 (roundOf k F1 j)) (fun _ => rfl)
         have N4 := D4.store (fun j => .int .u64 (roundOf k F1 j))
         rw [HL3.out] at hst N4
         have q4 : Below z w (w4.setCells d 0 l3) := below_setCells' (by omega) _ _ _ E4
         have H4 : Hid (_ ∧ _ ∧ _ ∧ _) := ⟨R4.storeOther d (by omega) l3, C4.storeOther d (by omega) l3, N4, q4⟩
         clear q4
         clear R4 C4 D4 E4 N4
         go_wp2
         go_roundg (gk - 1)
         case measure => omega
         case rel =>
          obtain ⟨q1, q2, q3, q4⟩ := H4.out
          exact ⟨k + 1, by omega, rfl, q1, q2, by show Fw d 25 (fun j => .int .u64 (roundOf k (roundsOf H k) j)) _; rw [HF1.out]; exact q3, q4⟩
        ·have hk2 : k = 24 := by omega
         subst hk2
         clear hlk
         have ep : Hid (136 * (m + 1) = p + 136) := by have := HG.out.2.1; show _ = _; omega
         have er : Hid (rin s (m + 1) = roundsOf H 24) := by
          show roundsOf (rblk (rin s m) (fun i => qL s (136 * m + i)) 136) 24 = _
          rw [HG.out.1, HG.out.2.1, ← hH.out]
         have wp : IntKind.i64.wrap ((p : Int) + 136) = (p : Int) + 136 := by rw [IntKind.wrap_i64]; omega
         go_wp2
         go_roundg (nb - (m + 1))
         case measure => omega
         case rel => exact ⟨m + 1, by omega, by rw [ep.out]; rfl, RW, CW, by rw [er.out]; exact DW, EW⟩
    ·have hm2 : m = nb := by omega
     subst hm2
     clear hlt
     have hpn : p = n := by have := HN.out.2.2; omega
     rw [hpn]
     clear hp hpn
     obtain ⟨F1, hF1⟩ : ∃ F1, rin s m = F1 := ⟨_, rfl⟩
     have HS : Hid (rsumOf s = ⟨(dg F1).toArray⟩) := by
      show _ = _
      rw [rsumOf, HN.out.2.1, hF1]
     rw [hF1] at DW
     clear hF1
     have hzd : z ≤ wr.heap.size := Nat.le_trans hzg (Nat.le_of_lt RW.z)
     go_wp2
     clear RW CW
     go_loopg [9, 10] 32 (fun gk v i wr => ∃ m : Nat, m + gk = 32 ∧ i = .int .i64 m ∧ Below z w wr ∧ z ≤ wr.heap.size ∧ Fw d 25 (fun j => .int .u64 (F1 j)) wr ∧ wr.ownsRow (d + 1) 5 1 v m (fl m fun j => .int .u8 (dgAt F1 j)))
     case atStart => exact ⟨0, by omega, rfl, EW, hzd, DW, World.ownsRow_nil _ _ _ _⟩
     case round =>
      clear EW hzd DW
      obtain ⟨k, hk, rfl, EW, hzd, DW, hown⟩ := hrel
      have hr9 : ∀ b, u9.ownBlock = some b → d + 1 ≤ b := fun b hb => (hown.lt b hb).1
      by_cases hlt : k < 32
      ·obtain ⟨q, hqk, hq4⟩ : ∃ q : Nat, k / 8 = q ∧ q < 4 := ⟨k / 8, rfl, by omega⟩
       obtain ⟨r, hrk, hr4⟩ : ∃ r : Nat, k % 8 = r ∧ r < 8 := ⟨k % 8, rfl, by omega⟩
       have hq : (k : Int).tdiv 8 = q := by rw [Int.tdiv_eq_ediv_of_nonneg (by omega)]; omega
       have hr : (k : Int).tmod 8 = r := by rw [Int.tmod_eq_emod_of_nonneg (by omega)]; omega
       obtain ⟨e, he⟩ : ∃ s : Nat, 8 * r = s := ⟨_, rfl⟩
       have e64 : (e : Int) ≤ 64 := by omega
       have e0 : (0 : Int) ≤ e := by omega
       have emin : min e 64 = e := by omega
       have hm : IntKind.i64.wrap (8 * (r : Int)) = e := by rw [IntKind.wrap_i64]; omega
       have wq : IntKind.i64.wrap (q : Int) = q := by rw [IntKind.wrap_i64]; omega
       have lq : (q : Int) < 25 := by omega
       have l0 : (k : Int) < 32 := by omega
       have m0 := DW.c q (by omega)
       obtain ⟨v, hv⟩ : ∃ v, F1 q = v := ⟨_, rfl⟩
       rw [hv] at m0
       obtain ⟨t, ht⟩ : ∃ t, v / 2 ^ e % 256 = t := ⟨_, rfl⟩
       have hu : IntKind.u8.wrap (v / 2 ^ e) = t := by rw [IntKind.wrap_u8]; exact ht
       have HB : Hid (dgAt F1 k = t) := by
        show _ = _
        rw [dgAt, hqk, hrk, hv, he, ht]
       clear hqk hrk hv ht he
       go_wp2_with (at_builtin; refine wpList_append_own _ rfl _ _ 24 rfl (d + 1) 5 i0 (.int .u8 0) 1 1 Tryd.underlying24 hi0 hz0 hz1 hz2 rfl (by decide) _ _ _ rfl (owns_below' hown ((Below.refl _ wr).alloc (Nat.le_refl _) _)) ⟨wr.heap.size, 0, none⟩ 1 1 [.int .u8 t] rfl rfl ?c1 ?c2 ?c3 ?c4 ?c5 ?_)
       case c1 => exact one_new' _ _ _
       case c2 => intro u hu; simp at hu; subst hu; rfl
       case c3 => unfold maxLen; omega
       case c4 => have := DW.z; (try simp); omega
       case c5 => have := DW.z; (try simp); omega
       ·intro v' w3 hown' hgrow _
        go_wp2
        go_roundg (gk - 1)
        case measure => omega
        case rel =>
         refine ⟨k + 1, by omega, rfl, (EW.alloc hzd _).grown hgrow (by simp; omega) (fun b hb => Nat.le_trans (by omega) (hr9 b hb)), Nat.le_trans (by simp; omega) hgrow.size, (DW.alloc _).grown' hgrow (fun e => by have := hr9 _ e.symm; omega), ?_⟩
         rw [fl_succ', HB.out]
         exact hown'
      ·have hk2 : k = 32 := by omega
       subst hk2
       clear hlt
       rcases hown.2 with ⟨rfl, h0⟩ | ⟨q, cp, cur, rfl, hg1, hg2, hg3, hg4, hg5, hg6⟩
       ·exact absurd h0 (by decide)
       ·have hcv := run_convert_bytes_back (P := Tryd.prog) wr 24 9 5 ⟨q, 0, none⟩ cp (dg F1) Tryd.underlying24 Tryd.underlying5 Tryd.underlying9 (fun j hj => by
         have hj' : j < 32 := by rw [dg_len] at hj; exact hj
         rw [dg_at]
         exact hown.cells (g := q) rfl j _ (fl_at 32 _ j hj'))
        rw [dg_len] at hcv
        clear hown hg2 hg3 hg4 hg5 hg6
        go_wp2
        go_ret
        exact ⟨by rw [HS.out]; rfl, EW⟩
end Go.Proofs.YtbmapdkcccdmfaaDoor
namespace Go.Proofs.YtbmapdkcccdmfaaDoor
open Go.RowKit Go.Sort

theorem xor_nat64 (x y : Nat) (hx : x < 18446744073709551616) (hy : y < 18446744073709551616) (hz : x ^^^ y < 18446744073709551616) : xr (x : Int) (y : Int) = ((x ^^^ y : Nat) : Int) := by
 have e : xr (x : Int) (y : Int) = IntKind.u64.wrap (((BitVec.ofInt 64 (x : Int)) ^^^ (BitVec.ofInt 64 (y : Int))).toNat : Int) := rfl
 rw [e, BitVec.toNat_xor, k_ofInt_nat64 x hx, k_ofInt_nat64 y hy, IntKind.wrap_u64]
 omega
theorem xor_add (a b i : Nat) (h : a < 2 ^ i) : a ^^^ (2 ^ i * b) = 2 ^ i * b + a := by
 apply Nat.eq_of_testBit_eq
 intro j
 rw [Nat.testBit_xor, Nat.testBit_two_pow_mul_add b h, Nat.testBit_two_pow_mul]
 by_cases hj : j < i
 ·simp [hj, show ¬ i ≤ j by omega]
 ·have : a.testBit j = false := Nat.testBit_lt_two_pow (Nat.lt_of_lt_of_le h (Nat.pow_le_pow_right (by decide) (by omega)))
  simp [hj, this, show i ≤ j by omega]
theorem or_add (a b i : Nat) (h : a < 2 ^ i) : a ||| (2 ^ i * b) = 2 ^ i * b + a := by
 rw [Nat.or_comm, Nat.two_pow_add_eq_or_of_lt h]
def NX (q : Nat → Nat) : Nat → Nat
 | 0 => 0
 | k + 1 => 2 ^ (8 * k) * q k + NX q k
theorem NX_lt (q : Nat → Nat) (hq : ∀ j, q j < 256) (k : Nat) : NX q k < 2 ^ (8 * k) := by
 induction k with
 | zero => exact Nat.one_pos
 | succ k ih =>
  have e : 2 ^ (8 * (k + 1)) = 2 ^ (8 * k) * 256 := by rw [show 8 * (k + 1) = 8 * k + 8 by omega, Nat.pow_add]
  have h1 : 2 ^ (8 * k) * (q k + 1) ≤ 2 ^ (8 * k) * 256 := Nat.mul_le_mul_left _ (by have := hq k; omega)
  rw [Nat.mul_add] at h1
  rw [e, NX]
  omega
theorem NX_bd (q : Nat → Nat) (hq : ∀ j, q j < 256) (k : Nat) (hk : k ≤ 8) : NX q k < 18446744073709551616 :=
 Nat.lt_of_lt_of_le (NX_lt q hq k) (Nat.le_trans (Nat.pow_le_pow_right (by decide) (show 8 * k ≤ 64 by omega)) (by decide))
theorem NX_ext (q p : Nat → Nat) (k : Nat) (h : ∀ j, j < k → q j = p j) : NX q k = NX p k := by
 induction k with
 | zero => rfl
 | succ k ih => rw [NX, NX, ih (fun j hj => h j (by omega)), h k (by omega)]
theorem NX_none (q : Nat → Nat) (m : Nat) : ∀ k, m ≤ k → (∀ j, m ≤ j → j < k → q j = 0) → NX q k = NX q m := by
 intro k
 induction k with
 | zero => intro h _; rw [show m = 0 by omega]
 | succ k ih =>
  intro h hz
  by_cases e : m = k + 1
  ·rw [e]
  ·rw [NX, hz k (by omega) (by omega), Nat.mul_zero, Nat.zero_add, ih (by omega) (fun j a b => hz j a (by omega))]
theorem sh_lt (b k : Nat) (hb : b < 256) (hk : k < 8) : 2 ^ (8 * k) * b < 18446744073709551616 := by
 have h1 : 2 ^ (8 * k) * b < 2 ^ (8 * k) * 256 := Nat.mul_lt_mul_of_pos_left hb (Nat.pow_pos (by decide))
 have h2 : 2 ^ (8 * k) ≤ 2 ^ 56 := Nat.pow_le_pow_right (by decide) (by omega)
 have h3 : (2 : Nat) ^ 56 = 72057594037927936 := by decide
 omega
theorem sh_wrap (b k : Nat) (hb : b < 256) (hk : k < 8) : IntKind.u64.wrap ((b : Int) * 2 ^ (8 * k)) = ((2 ^ (8 * k) * b : Nat) : Int) := by
 have h := sh_lt b k hb hk
 have e : (b : Int) * 2 ^ (8 * k) = ((2 ^ (8 * k) * b : Nat) : Int) := by rw [Int.natCast_mul, Int.natCast_pow, Int.mul_comm]; rfl
 rw [e, IntKind.wrap_u64]
 omega
theorem NX_xor (q : Nat → Nat) (hq : ∀ j, q j < 256) (k : Nat) (hk : k < 8) : xr (NX q k : Int) (IntKind.u64.wrap ((q k : Int) * 2 ^ (8 * k))) = (NX q (k + 1) : Int) := by
 have h := xor_add (NX q k) (q k) (8 * k) (NX_lt q hq k)
 rw [sh_wrap _ _ (hq k) hk, xor_nat64 _ _ (NX_bd q hq k (by omega)) (sh_lt _ _ (hq k) hk) (by rw [h]; exact NX_bd q hq (k + 1) (by omega)), h]
 rfl
theorem NX_or (q : Nat → Nat) (hq : ∀ j, q j < 256) (k : Nat) (hk : k < 8) : bits .or .u64 (NX q k : Int) (IntKind.u64.wrap ((q k : Int) * 2 ^ (8 * k))) = (NX q (k + 1) : Int) := by
 have h := or_add (NX q k) (q k) (8 * k) (NX_lt q hq k)
 rw [sh_wrap _ _ (hq k) hk, k_or_nat64 _ _ (NX_bd q hq k (by omega)) (sh_lt _ _ (hq k) hk), h]
 rfl
theorem laneN_is (t : ByteArray) (k : Nat) (hk : k ≤ 8) : laneN t k = (NX (fun j => (k_bt t j).toNat) k : Int) := by
 have hq : ∀ j, (fun j => (k_bt t j).toNat) j < 256 := fun j => by have := k_bt_bd t j; show (k_bt t j).toNat < 256; omega
 induction k with
 | zero => rfl
 | succ k ih =>
  have hb := k_bt_bd t k
  have e : k_bt t k = (((fun j => (k_bt t j).toNat) k : Nat) : Int) := by show k_bt t k = ((k_bt t k).toNat : Int); omega
  rw [laneN, ih (by omega), e, NX_or _ hq k (by omega)]

theorem putAt_same (g : Nat → Int) (l : Nat) : putAt g l (g l) = g := by
 funext j
 unfold putAt
 by_cases e : j = l
 ·rw [if_pos e, e]
 ·rw [if_neg e]
theorem putAt_twice (g : Nat → Int) (l : Nat) (u v : Int) : putAt (putAt g l u) l v = putAt g l v := by
 funext j
 unfold putAt
 by_cases e : j = l
 ·rw [if_pos e, if_pos e]
 ·rw [if_neg e, if_neg e, if_neg e]
theorem putAt_at (g : Nat → Int) (l : Nat) (v : Int) : putAt g l v l = v := by unfold putAt; rw [if_pos rfl]
theorem xr_zero' (x : Int) (h : La x) : xr x 0 = x := by
 obtain ⟨n, rfl⟩ := Int.eq_ofNat_of_zero_le h.1
 have hn : n < 18446744073709551616 := by have := h.2; omega
 have := xor_nat64 n 0 hn (by decide) (by rw [Nat.xor_zero]; exact hn)
 rw [Nat.xor_zero] at this
 exact this
theorem rblk_lane (G : Nat → Int) (hG : ∀ j, La (G j)) (Q : Nat → Nat) (hQ : ∀ j, Q j < 256) (l k : Nat) (hk : k ≤ 8) :
  rblk G (fun i => (Q i : Int)) (8 * l + k) = putAt (rblk G (fun i => (Q i : Int)) (8 * l)) l (xr (rblk G (fun i => (Q i : Int)) (8 * l) l) (NX (fun j => Q (8 * l + j)) k : Int)) := by
 induction k with
 | zero =>
  rw [show NX (fun j => Q (8 * l + j)) 0 = 0 from rfl]
  show _ = putAt _ l (xr _ 0)
  rw [xr_zero' _ (la_rblk _ _ hG _ _), putAt_same]
  rfl
 | succ k ih =>
  show putAt (rblk G _ (8 * l + k)) ((8 * l + k) / 8) (xr (rblk G _ (8 * l + k) ((8 * l + k) / 8)) (IntKind.u64.wrap ((Q (8 * l + k) : Int) * 2 ^ (8 * ((8 * l + k) % 8))))) = _
  rw [show (8 * l + k) / 8 = l by omega, show (8 * l + k) % 8 = k by omega, ih (by omega), putAt_twice, putAt_at, xr_assoc, NX_xor (fun j => Q (8 * l + j)) (fun j => hQ _) k (by omega)]
end Go.Proofs.YtbmapdkcccdmfaaDoor
namespace Go.Proofs.YtbmapdkcccdmfaaDoor
open Go.RowKit Go.Sort

theorem bt_extract (t : ByteArray) (a b j : Nat) (hb : b ≤ t.size) (hj : a + j < b) : k_bt (t.extract a b) j = k_bt t (a + j) := by
 have e : t.data.size = t.size := rfl
 unfold k_bt
 rw [ByteArray.data_extract]
 have h1 : j < (t.data.extract a b).size := by rw [Array.size_extract]; omega
 have h2 : a + j < t.data.size := by omega
 simp only [Array.getD, h1, h2, dite_true]
 show (((t.data.extract a b)[j]'h1).toNat : Int) = ((t.data[a + j]'h2).toNat : Int)
 rw [Array.getElem_extract]
theorem bt_rem (t : ByteArray) (m j : Nat) (h : 8 * m + j < t.size) : k_bt (remAt t m) j = k_bt t (8 * m + j) := by
 induction m generalizing j with
 | zero => rw [show 8 * 0 + j = j by omega]; rfl
 | succ m ih =>
  have hs := rem_size t m
  rw [remAt, bt_extract _ _ _ _ (Nat.le_refl _) (by omega), ih (8 + j) (by omega), show 8 * m + (8 + j) = 8 * (m + 1) + j by omega]
theorem rblk_ext (G q p : Nat → Int) (k : Nat) (h : ∀ i, i < k → q i = p i) : rblk G q k = rblk G p k := by
 induction k with
 | zero => rfl
 | succ k ih => rw [rblk, rblk, ih (fun i hi => h i (by omega)), h k (by omega)]
theorem qAt_bd (s : ByteArray) (k : Nat) : 0 ≤ qAt s k ∧ qAt s k < 256 := by
 unfold qAt
 by_cases a : k < s.size
 ·rw [if_pos a]; exact k_bt_bd s k
 ·rw [if_neg a]
  by_cases b : k = s.size
  ·rw [if_pos b]; omega
  ·rw [if_neg b]; omega
def Qn (s : ByteArray) (n i : Nat) : Nat := (qAt s (136 * n + i)).toNat
theorem Qn_int (s : ByteArray) (n i : Nat) : (Qn s n i : Int) = qAt s (136 * n + i) := by
 have := qAt_bd s (136 * n + i)
 unfold Qn
 omega
theorem Qn_bd (s : ByteArray) (n i : Nat) : Qn s n i < 256 := by
 have := qAt_bd s (136 * n + i)
 unfold Qn
 omega
theorem same_lane (s : ByteArray) (n l : Nat) (h : 8 * (17 * n + l) + 8 ≤ s.size) : laneN ((remAt s (17 * n + l)).extract 0 8) 8 = (NX (fun j => Qn s n (8 * l + j)) 8 : Int) := by
 have hs := rem_size s (17 * n + l)
 rw [laneN_is _ 8 (by omega), NX_ext _ (fun j => Qn s n (8 * l + j)) 8 fun j hj => ?_]
 show (k_bt _ j).toNat = (qAt s (136 * n + (8 * l + j))).toNat
 rw [bt_extract _ _ _ _ (by omega) (by omega), Nat.zero_add, bt_rem _ _ _ (by omega), qAt, if_pos (by omega), show 8 * (17 * n + l) + j = 136 * n + (8 * l + j) by omega]
theorem same_blk (G : Nat → Int) (hG : ∀ j, La (G j)) (s : ByteArray) (n l : Nat) (h : 8 * (17 * n + l) ≤ s.size) : rblk G (fun i => (Qn s n i : Int)) (8 * l) = blkOf G s n l := by
 induction l with
 | zero => rfl
 | succ l ih => rw [show 8 * (l + 1) = 8 * l + 8 by omega, rblk_lane G hG (Qn s n) (Qn_bd s n) l 8 (by omega), ih (by omega), blkOf, same_lane s n l (by omega)]
theorem in_whole (s : ByteArray) (n : Nat) (h : 136 * (n + 1) ≤ s.size) : rin s (n + 1) = roundsOf (blkOf (rin s n) s n 17) 24 := by
 rw [rin, rblk_ext _ _ (fun i => (Qn s n i : Int)) 136 fun i hi => ?_]
 ·rw [show (136 : Nat) = 8 * 17 by rfl, same_blk _ (la_rin s n) s n 17 (by omega)]
 ·show qL s (136 * n + i) = (Qn s n i : Int)
  rw [Qn_int, qL, if_neg]
  unfold qN
  omega
theorem in_is (s : ByteArray) (n : Nat) (h : 136 * n ≤ s.size) : rin s n = inOf (fun _ => 0) s n := by
 induction n with
 | zero => rfl
 | succ n ih => rw [in_whole s n h, ih (by omega)]; rfl
theorem mark_is (b : Int) (h : b = 0 ∨ b = 1) : IntKind.u64.wrap (bits .xor .u8 b 128 * 2 ^ 56) = xr (IntKind.u64.wrap (b * 2 ^ 56)) 9223372036854775808 := by
 rcases h with rfl | rfl <;> decide
theorem blk_mark (G : Nat → Int) (s : ByteArray) (n : Nat) (h : s.size / 136 = n) : rblk G (fun i => qL s (136 * n + i)) 136 = putAt (rblk G (fun i => (Qn s n i : Int)) 136) 16 (xr (rblk G (fun i => (Qn s n i : Int)) 136 16) 9223372036854775808) := by
 have e1 : rblk G (fun i => qL s (136 * n + i)) 135 = rblk G (fun i => (Qn s n i : Int)) 135 := rblk_ext _ _ _ _ fun i hi => by
  show qL s (136 * n + i) = (Qn s n i : Int)
  rw [Qn_int, qL, if_neg]
  unfold qN
  omega
 have e2 : qL s (136 * n + 135) = bits .xor .u8 (qAt s (136 * n + 135)) 128 := by
  rw [qL, if_pos]
  unfold qN
  omega
 have e3 : qAt s (136 * n + 135) = 0 ∨ qAt s (136 * n + 135) = 1 := by
  unfold qAt
  rw [if_neg (by omega)]
  by_cases b : 136 * n + 135 = s.size
  ·rw [if_pos b]; exact Or.inr rfl
  ·rw [if_neg b]; exact Or.inl rfl
 have e4 : rblk G (fun i => qL s (136 * n + i)) 136 = putAt (rblk G (fun i => qL s (136 * n + i)) 135) 16 (xr (rblk G (fun i => qL s (136 * n + i)) 135 16) (IntKind.u64.wrap (qL s (136 * n + 135) * 2 ^ 56))) := rfl
 have e5 : rblk G (fun i => (Qn s n i : Int)) 136 = putAt (rblk G (fun i => (Qn s n i : Int)) 135) 16 (xr (rblk G (fun i => (Qn s n i : Int)) 135 16) (IntKind.u64.wrap ((Qn s n 135 : Int) * 2 ^ 56))) := rfl
 rw [e4, e5, e1, e2, Qn_int, putAt_twice, putAt_at, xr_assoc, mark_is _ e3]
theorem last_lane (s : ByteArray) (n l : Nat) (hn : s.size / 136 = n) (hl : s.size % 136 / 8 = l) : (NX (fun j => Qn s n (8 * l + j)) 8 : Int) = bits .or .u64 (laneN (remAt s (s.size / 8)) (remAt s (s.size / 8)).size) (IntKind.u64.wrap (1 * 2 ^ (8 * (remAt s (s.size / 8)).size))) := by
 have hr : (remAt s (s.size / 8)).size = s.size % 8 := by rw [rem_size]; omega
 have h8 : s.size % 8 < 8 := by omega
 obtain ⟨r, hr2⟩ : ∃ r, s.size % 8 = r := ⟨_, rfl⟩
 rw [hr, hr2, laneN_is _ r (by omega), NX_ext _ (fun j => Qn s n (8 * l + j)) r fun j hj => ?_]
 ·have e1 : (1 : Int) = (((fun j => Qn s n (8 * l + j)) r : Nat) : Int) := by
   show (1 : Int) = (Qn s n (8 * l + r) : Int)
   rw [Qn_int, qAt, if_neg (by omega), if_pos (by omega)]
  rw [e1, NX_or _ (fun j => Qn_bd s n _) r (by omega), NX_none _ (r + 1) 8 (by omega) fun j a b => ?_]
  show (qAt s (136 * n + (8 * l + j))).toNat = 0
  rw [qAt, if_neg (by omega), if_neg (by omega)]
  rfl
 ·show (k_bt _ j).toNat = (qAt s (136 * n + (8 * l + j))).toNat
  rw [bt_rem _ _ _ (by omega), qAt, if_pos (by omega), show 8 * (s.size / 8) + j = 136 * n + (8 * l + j) by omega]
theorem blk_last (G : Nat → Int) (hG : ∀ j, La (G j)) (s : ByteArray) (n l : Nat) (hn : s.size / 136 = n) (hl : s.size % 136 / 8 = l) (k : Nat) (hk : l < k) (hk2 : k ≤ 17) : rblk G (fun i => (Qn s n i : Int)) (8 * k) = lastOf (blkOf G s n l) (remAt s (s.size / 8)) l := by
 induction k with
 | zero => omega
 | succ k ih =>
  rw [show 8 * (k + 1) = 8 * k + 8 by omega, rblk_lane G hG (Qn s n) (Qn_bd s n) k 8 (by omega)]
  by_cases e : k = l
  ·rw [e, same_blk G hG s n l (by omega), last_lane s n l hn hl]
   rfl
  ·rw [NX_none (fun j => Qn s n (8 * k + j)) 0 8 (by omega) fun j _ b => ?_]
   ·show putAt _ k (xr _ 0) = _
    rw [xr_zero' _ (la_rblk _ _ hG _ _), putAt_same]
    exact ih (by omega) (by omega)
   ·show (qAt s (136 * n + (8 * k + j))).toNat = 0
    rw [qAt, if_neg (by omega), if_neg (by omega)]
    rfl
theorem rin_is (s : ByteArray) : rin s (s.size / 136 + 1) = takeOf (fun _ => 0) s := by
 obtain ⟨n, hn⟩ : ∃ n, s.size / 136 = n := ⟨_, rfl⟩
 obtain ⟨l, hl⟩ : ∃ l, s.size % 136 / 8 = l := ⟨_, rfl⟩
 rw [takeOf, endOf, hn, hl, rin, blk_mark _ s n hn, show rblk (rin s n) (fun i => (Qn s n i : Int)) 136 = rblk (rin s n) (fun i => (Qn s n i : Int)) (8 * 17) from rfl, blk_last _ (la_rin s n) s n l hn hl 17 (by omega) (by omega), in_is s n (by omega)]
theorem rsum_is (s : ByteArray) : rsumOf s = sumOf s := by
 rw [rsumOf, sumOf, rin_is]
end Go.Proofs.YtbmapdkcccdmfaaDoor
