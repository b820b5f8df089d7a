/- Lemmas: RlpBack's walk: an item is read from its bytes as it was; bytes that are read are written so again. What digestOf does at this translation: for all lanes. What laneOf does at this translation: for all texts of at most eight bytes. What takeIn does at this translation: for all texts. What Sum does at this translation: the digest of its parts, one behind the other. The digest of the empty text, reckoned round by round. The law's shown. Nodes in memory; formOf, newNode, standsWithin. -/
import Derived.Test.YtfdjiofogohcmaaGreatDoorM15
import Derived.Test.YtfdjiofogohcmaaGreatDoorM2
import Derived.Test.YtfdjiofogohcmaaGreatDoorM6
import Derived.Laws.IdiomStrings
import Derived.Shelf.Strings.Builder2
import Derived.Shelf.Strings.Builder2Cap
import Derived.Shelf.Strings.BuilderK
import Derived.Shelf.Strings.OnBuilder
namespace Go.Proofs.YtfdjiofogohcmaaGreatDoor
open Go.RowKit Go.Shelf Go.Sort

theorem back_item {x y : Im} {f : Int} (h : encE x = 0) (hd : DecR (encS x) y f) : f = 0 ∧ er y = er x := by
  rw [encE_er] at h
  have hs : encS x = encI (er x) := by rw [encS_er]; unfold eS; rw [if_pos h]
  obtain ⟨h1, h2, h3⟩ := eE_0 h
  have hdec := dec_enc h
  rw [hs] at hd
  rcases hd with ⟨k1, _, _⟩ | ⟨_, k2, _, _⟩ | ⟨_, y', k2, k3⟩
  · omega
  · exact absurd hdec (k2 _)
  · have he : er y' = er x := by
      rw [hdec] at k2
      injection k2 with k2
      injection k2 with k2
      exact k2.symm
    rcases k3 with ⟨k4, _, _⟩ | ⟨k4, rfl, rfl⟩
    · rw [deep_er, he, h1] at k4
      cases k4
    · exact ⟨rfl, he⟩
theorem back_bytes {s : ByteArray} {z : Im} (hd : DecR s z 0) : encE z = 0 ∧ encS z = s := by
  rcases hd with ⟨_, k1, _⟩ | ⟨_, _, k1, _⟩ | ⟨k0, y, k2, k3⟩
  · cases k1
  · cases k1
  · rcases k3 with ⟨_, k4, _⟩ | ⟨k4, _, rfl⟩
    · cases k4
    · obtain ⟨q1, q2⟩ := enc_dec k0 k2
      have h0 : eE (er z) = 0 := by
        unfold eE
        rw [deep_er] at k4
        rw [k4, q2, q1]
        simp only [Bool.false_eq_true, if_false, if_true]
        rw [if_neg (by omega)]
      rw [encE_er, encS_er]
      refine ⟨h0, ?_⟩
      unfold eS
      rw [if_pos h0, q1]
theorem decR_tb {s : ByteArray} {z : Im} {g : Int} (hd : DecR s z g) : tb z < 4000000 := by
  rcases hd with ⟨_, _, rfl⟩ | ⟨_, _, _, rfl⟩ | ⟨k0, y, k2, k3⟩
  · show 9 < _; decide
  · show 9 < _; decide
  · rcases k3 with ⟨_, _, rfl⟩ | ⟨_, _, rfl⟩
    · show 9 < _; decide
    · obtain ⟨q1, q2⟩ := enc_dec k0 k2
      have := tb_enc _ q2
      rw [q1] at this
      rw [tb_er]
      omega
theorem tb_cnt (x : Im) : cnt x ≤ tb x := cnt_tb (cnt x) x (Nat.le_refl _)
/-- An item's box, wherever. -/
theorem it_new (W : World) (x : Im) : ItIn W.heap.size x (W.alloc (.cells #[.bool x.l, .string x.t, x.sl] 47)) := World.alloc_heap_new W _
theorem be_new (W : World) (o : Obj) : Below W.heap.size W (W.alloc o) := (Below.refl _ W).alloc (Nat.le_refl _) _

end Go.Proofs.YtfdjiofogohcmaaGreatDoor
namespace Go.Proofs.YtfdjiofogohcmaaGreatDoor
open Go.RowKit Go.Sort

/-- A byte of the digest, and all of them. -/
def dgAt (f : Nat → Int) (i : Nat) : Int := f (i / 8) / 2 ^ (8 * (i % 8)) % 256
def dg (f : Nat → Int) : List UInt8 := (List.range 32).map fun j => UInt8.ofNat (dgAt f j).toNat
theorem dg_len (f : Nat → Int) : (dg f).length = 32 := by simp [dg]
theorem dg_at (f : Nat → Int) (j : Nat) (hj : j < (dg f).length) : ((dg f)[j].toNat : Int) = dgAt f j := by
  have h : 0 ≤ dgAt f j ∧ dgAt f j < 256 := by unfold dgAt; omega
  simp only [dg, List.getElem_map, List.getElem_range, UInt8.toNat_ofNat']
  omega
theorem Fw.text {n : Nat} {f : Nat → Int} {W : World} (k : Fw n 32 (fun j => .int .u8 (dgAt f j)) W) : (convert 60 9 (.slice (some ⟨n, 0, none⟩) 32 32)).run Tryz.prog W = .ok (.string ⟨(dg f).toArray⟩) W := by
  have := run_convert_bytes_back (P := Tryz.prog) W 60 9 5 ⟨n, 0, none⟩ 32 (dg f) Tryz.underlying60 Tryz.underlying5 Tryz.underlying9 (fun j hj => by
    rw [Addr.add_mid, Nat.zero_add, dg_at]
    exact k.c j (by rw [dg_len] at hj; exact hj))
  rwa [dg_len] at this

set_option maxRecDepth 20000 in
set_option maxHeartbeats 4000000 in
theorem digestOf_any (s : Nat) (f : Nat → Int) (w : World) (hs : Fw s 25 (fun j => .int .u64 (f j)) w) :
    Calls Tryz.prog 43 #[.pointer (some ⟨s, 0, none⟩)] w fun e w' =>
      e = .returned (.string ⟨(dg f).toArray⟩) ∧ Below w.heap.size w w' := by
  have km : IntKind.u64.max = 18446744073709551615 := by decide
  have ks : IntKind.u64.signed = false := rfl
  go_enter Tryz.func43, Tryz.ntmps43
  go_wp2
  have hsz : s ≠ w.heap.size := Nat.ne_of_lt hs.z
  go_loopg [5] 32 (fun gk i wr => ∃ k : Nat, ∃ h : Nat → Int, k + gk = 32 ∧ i = .int .i64 k ∧ Below w.heap.size w wr ∧ Fw s 25 (fun j => .int .u64 (f j)) wr ∧ Fw w.heap.size 32 (fun j => .int .u8 (h j)) wr ∧ Hid (∀ j, j < 32 → h j = if j < k then dgAt f j else 0))
  case atStart => exact ⟨0, fun _ => 0, rfl, rfl, by go_grown, hs.alloc _, Fw.lit _ _ rfl rfl, fun j _ => by rw [if_neg (by omega)]⟩
  case round =>
    clear hs
    obtain ⟨k, h, hk, rfl, EW, CS, CU, hH⟩ := hrel
    have zu := CU.z
    have uf := CU.f
    by_cases hlt : k < 32
    · obtain ⟨q, hqk, hq4⟩ : ∃ q : Nat, k / 8 = q ∧ q < 4 := ⟨k / 8, rfl, by omega⟩
      obtain ⟨r, hrk, hr4⟩ : ∃ r : Nat, k % 8 = r ∧ r < 8 := ⟨k % 8, rfl, by omega⟩
      have hq : (k : Int).tdiv 8 = q := by rw [Int.tdiv_eq_ediv_of_nonneg (by omega)]; omega
      have hr : (k : Int).tmod 8 = r := by rw [Int.tmod_eq_emod_of_nonneg (by omega)]; omega
      obtain ⟨e, he⟩ : ∃ s : Nat, 8 * r = s := ⟨_, rfl⟩
      have e64 : (e : Int) ≤ 64 := by omega
      have e0 : (0 : Int) ≤ e := by omega
      have hm : IntKind.i64.wrap (8 * (r : Int)) = e := by rw [IntKind.wrap_i64]; omega
      have wq : IntKind.i64.wrap (q : Int) = q := by rw [IntKind.wrap_i64]; omega
      have lq : (q : Int) < 25 := by omega
      have l0 : (k : Int) < 32 := by omega
      have m0 := CS.c q (by omega)
      have n0 := CU.c k hlt
      obtain ⟨v, hv⟩ : ∃ v, f q = v := ⟨_, rfl⟩
      rw [hv] at m0
      obtain ⟨t, ht⟩ : ∃ t, v / 2 ^ e % 256 = t := ⟨_, rfl⟩
      have hu : IntKind.u8.wrap (v / 2 ^ e) = t := by rw [IntKind.wrap_u8]; exact ht
      have HB : Hid (dgAt f k = t) := by
        show _ = _
        rw [dgAt, hqk, hrk, hv, he, ht]
      clear hqk hrk hv ht he
      go_wp2
      go_roundg (gk - 1)
      case measure => omega
      case rel =>
        refine ⟨k + 1, fun j => if j = k then t else h j, by omega, rfl, by go_grown, CS.setCell _ (fun e => hsz e.symm) _, CU.put k hlt (.int .u8 t) (fun j _ => by by_cases e : j = k <;> simp [e]), ?_⟩
        intro j hj
        have hJ := hH.out j hj
        show (if j = k then t else h j) = _
        by_cases e : j = k
        · rw [if_pos e, e, if_pos (by omega), HB.out]
        rw [if_neg e, hJ]
        by_cases h1 : j < k
        · rw [if_pos h1, if_pos (by omega)]
        · rw [if_neg h1, if_neg (by omega)]
    · have hk2 : k = 32 := by omega
      subst hk2
      clear hlt
      have hcv := Fw.text (CU.ext (h := fun j => .int .u8 (dgAt f j)) (fun j hj => by show Value.int .u8 _ = .int .u8 _; rw [hH.out j hj, if_pos (by omega)]))
      go_wp2
      go_ret
      exact ⟨rfl, EW⟩
end Go.Proofs.YtfdjiofogohcmaaGreatDoor
namespace Go.Proofs.YtfdjiofogohcmaaGreatDoor
open Go.RowKit Go.Sort

/-- A text's byte. -/
def k_bt (s : ByteArray) (i : Nat) : Int := ((s.data.getD i 0).toNat : Int)
theorem k_bt_get (s : ByteArray) (d : Nat) (h : d < s.size) : ((s[d]'h).toNat : Int) = k_bt s d := by
  have : s.data.getD d 0 = s[d]'h := by
    simp [Array.getD, h]
    rfl
  unfold k_bt
  rw [this]
theorem k_bt_bd (s : ByteArray) (d : Nat) : 0 ≤ k_bt s d ∧ k_bt s d < 256 := by
  unfold k_bt
  have := (s.data.getD d 0).toNat_lt
  omega

/-- The number of the first k bytes, the lowest first, as the program joins it. -/
def laneN (t : ByteArray) : Nat → Int
  | 0 => 0
  | k + 1 => bits .or .u64 (laneN t k) (IntKind.u64.wrap (k_bt t k * 2 ^ (8 * k)))

set_option maxRecDepth 20000 in
set_option maxHeartbeats 4000000 in
theorem laneOf_any (t : ByteArray) (h8 : t.size ≤ 8) (w : World) :
    Calls Tryz.prog 69 #[.string t] w fun e w' =>
      e = .returned (.int .u64 (laneN t t.size)) ∧ Below w.heap.size w w' := by
  have km : IntKind.u64.max = 18446744073709551615 := by decide
  have ks : IntKind.u64.signed = false := rfl
  obtain ⟨m, hm⟩ : ∃ m, t.size = m := ⟨_, rfl⟩
  rw [hm] at h8
  go_enter Tryz.func69, Tryz.ntmps69
  go_wp2
  go_loopg [3, 7] m (fun gk l i wr => ∃ k : Nat, ∃ v : Int, k + gk = m ∧ l = .int .u64 v ∧ i = .int .i64 k ∧ Below w.heap.size w wr ∧ Hid (v = laneN t k))
  case atStart => exact ⟨0, 0, by omega, rfl, rfl, Below.refl _ _, (rfl : (0 : Int) = _)⟩
  case round =>
    obtain ⟨k, v, hk, rfl, rfl, BW, hH⟩ := hrel
    by_cases hlt : k < m
    · have hks : k < t.size := by omega
      have l0 : (k : Int) < m := by omega
      have l0' : (k : Int) < t.size := by omega
      have z0 : (0 : Int) ≤ k := by omega
      obtain ⟨y, hy⟩ : ∃ y, k_bt t k = y := ⟨_, rfl⟩
      have hyb := k_bt_bd t k
      rw [hy] at hyb
      have hu1 : IntKind.u64.wrap (((t[k]'hks).toNat : Nat) : Int) = y := by rw [k_bt_get, hy, IntKind.wrap_u64]; omega
      obtain ⟨e, he⟩ : ∃ e : Nat, 8 * k = e := ⟨_, rfl⟩
      have e64 : (e : Int) ≤ 64 := by omega
      have e0 : (0 : Int) ≤ e := by omega
      have hm8 : IntKind.i64.wrap (8 * (k : Int)) = e := by rw [IntKind.wrap_i64]; omega
      have HV : Hid (k_bt t k = y ∧ 8 * k = e) := ⟨hy, he⟩
      clear hy he
      go_wp2
      go_roundg (gk - 1)
      case measure => omega
      case rel =>
        refine ⟨k + 1, _, by omega, rfl, rfl, BW, ?_⟩
        show _ = laneN t (k + 1)
        rw [laneN, HV.out.1, HV.out.2, ← hH.out]
    · have hk2 : k = m := by omega
      subst hk2
      clear hlt
      go_wp2
      go_ret
      exact ⟨by rw [hm, ← hH.out]; rfl, BW⟩
end Go.Proofs.YtfdjiofogohcmaaGreatDoor
namespace Go.Proofs.YtfdjiofogohcmaaGreatDoor
open Go.RowKit Go.Sort

/-- What is left of a text behind n lanes. -/
def remAt (t : ByteArray) : Nat → ByteArray
  | 0 => t
  | n + 1 => (remAt t n).extract 8 (remAt t n).size
theorem rem_size (t : ByteArray) (n : Nat) : (remAt t n).size = t.size - 8 * n := by
  induction n with
  | zero => rfl
  | succ n ih => rw [remAt, ByteArray.size_extract, ih]; omega

/-- One lane set. -/
def putAt (g : Nat → Int) (l : Nat) (v : Int) (j : Nat) : Int := if j = l then v else g j
/-- The first l lanes of block n joined. -/
def blkOf (g : Nat → Int) (t : ByteArray) (n : Nat) : Nat → Nat → Int
  | 0 => g
  | l + 1 => putAt (blkOf g t n l) l (xr (blkOf g t n l l) (laneN ((remAt t (17 * n + l)).extract 0 8) 8))
/-- The lanes behind n whole blocks. -/
def inOf (f : Nat → Int) (t : ByteArray) : Nat → Nat → Int
  | 0 => f
  | n + 1 => roundsOf (blkOf (inOf f t n) t n 17) 24
/-- The last block's lane with the text's end and the mark, in block n at lane l. -/
def lastOf (g : Nat → Int) (r : ByteArray) (l : Nat) : Nat → Int := putAt g l (xr (g l) (bits .or .u64 (laneN r r.size) (IntKind.u64.wrap (1 * 2 ^ (8 * r.size)))))
def endOf (g : Nat → Int) : Nat → Int := roundsOf (putAt g 16 (xr (g 16) 9223372036854775808)) 24
/-- The lanes behind a text. -/
def takeOf (f : Nat → Int) (t : ByteArray) : Nat → Int :=
  endOf (lastOf (blkOf (inOf f t (t.size / 136)) t (t.size / 136) (t.size % 136 / 8)) (remAt t (t.size / 8)) (t.size % 136 / 8))

set_option maxRecDepth 20000 in
set_option maxHeartbeats 4000000 in
theorem takeIn_any (s : Nat) (f : Nat → Int) (t : ByteArray) (ht : t.size < 9223372036854775808) (w : World) (hs : Fw s 25 (fun j => .int .u64 (f j)) w) (hl : Laid w) (h3 : 4 ≤ s) :
    Calls Tryz.prog 41 #[.pointer (some ⟨s, 0, none⟩), .string t] w fun e w' =>
      e = .returned (.tuple #[]) ∧ Fw s 25 (fun j => .int .u64 (takeOf f t j)) w' ∧ w.grownBy w' (some s) := by
  have km : IntKind.u64.max = 18446744073709551615 := by decide
  have ks : IntKind.u64.signed = false := rfl
  go_enter Tryz.func41, Tryz.ntmps41
  go_wp2
  go_step3
  go_wp2
  go_step3
  go_wp2
  go_loopg [1] (t.size / 136 + 1) (fun gk x wr => ∃ n : Nat, n + gk = t.size / 136 + 1 ∧ 0 < gk ∧ x = .string (remAt t (17 * n)) ∧ w.grownBy wr (some s) ∧ Laid wr ∧ Fw s 25 (fun j => .int .u64 (inOf f t n j)) wr)
  case atStart => exact ⟨0, by omega, by omega, rfl, but_refl s w, hl, hs⟩
  case round =>
    clear hl hs
    obtain ⟨n, hn, hgk, rfl, GW, LW, CS⟩ := hrel
    obtain ⟨g, hg⟩ : ∃ g, inOf f t n = g := ⟨_, rfl⟩
    have HG : Hid (inOf f t n = g) := hg
    have hnt : 136 * n ≤ t.size := by omega
    rw [hg] at CS
    clear hg
    go_wp2
    go_loopg [1, 5] 17 (fun gk x i wr => ∃ l : Nat, ∃ r : ByteArray, ∃ h : Nat → Int, l + gk = 17 ∧ x = .string r ∧ i = .int .i64 l ∧ w.grownBy wr (some s) ∧ Laid wr ∧ Fw s 25 (fun j => .int .u64 (h j)) wr ∧ Hid (r = remAt t (17 * n + l) ∧ h = blkOf g t n l) ∧ r.size + 8 * (17 * n + l) = t.size)
    case atStart => exact ⟨0, _, g, rfl, rfl, rfl, GW, LW, CS, ⟨rfl, rfl⟩, by rw [rem_size]; omega⟩
    case round =>
      clear GW LW CS
      obtain ⟨l, r, h, hl, rfl, rfl, GW, LW, CS, hH, hsz⟩ := hrel
      by_cases hlt : l < 17
      · obtain ⟨m, hm⟩ : ∃ m, r.size = m := ⟨_, rfl⟩
        rw [hm] at hsz
        have l0 : (l : Int) < 17 := by omega
        have l25 : (l : Int) < 25 := by omega
        by_cases h8 : m < 8
        · have m8 : (m : Int) < 8 := by omega
          have m0 := CS.c l (by omega)
          obtain ⟨v, hv⟩ : ∃ q, h l = q := ⟨_, rfl⟩
          rw [hv] at m0
          obtain ⟨e, he⟩ : ∃ e : Nat, 8 * m = e := ⟨_, rfl⟩
          have e64 : (e : Int) ≤ 64 := by omega
          have e0 : (0 : Int) ≤ e := by omega
          have we : IntKind.i64.wrap (8 * (m : Int)) = e := by rw [IntKind.wrap_i64]; omega
          obtain ⟨u, hu⟩ : ∃ u, laneN r m = u := ⟨_, rfl⟩
          have KL : Hid (∀ w : World, Calls Tryz.prog 69 #[.string r] w fun e w' => e = .returned (.int .u64 u) ∧ Below w.heap.size w w') := fun w => by
            have := laneOf_any r (by omega) w
            rw [hm, hu] at this
            exact this
          have HU : Hid (_ ∧ _ ∧ _) := ⟨hv, he, hu⟩
          clear hv he hu
          go_wp2
          have k0 := cell_regrown m0
          have cR := inClass (w := wr) KL.out
          refine region_tail 14 (by kernel_rfl) (by kernel_rfl) ?_
          simp only [List.take_succ_cons, List.take_zero, List.drop_succ_cons, List.drop_zero]
          iterate 6 (quiet_step (fail))
          quiet_step (exact cR _ _)
          iterate 7 (quiet_step (fail))
          refine wpQuiet_nil ?_
          intro w8 hw8
          have hb8 : Below wr.heap.size wr w8 := by
            obtain ⟨p, rfl⟩ := hw8
            exact below_regrown _ _ _
          have S8 := CS.below hb8
          have L8 := LW.below hb8
          have G8 := but_below GW hb8
          clear hw8 hb8 k0 cR KL m0 CS LW GW
          have n0 := S8.c l (by omega)
          have sf := S8.f
          have sz := S8.z
          go_wp2
          refine wpOf (fun W => w.grownBy W (some s) ∧ Laid W ∧ Fw s 25 (fun j => .int .u64 (lastOf h r l j)) W) ⟨but_set G8 _, L8.but (but_set (but_refl s w8) _) h3, S8.put l (by omega) _ (fun j _ => ?_)⟩ ?_
          · obtain ⟨g1, g2, g3⟩ := HU.out
            show Value.int .u64 (lastOf h r l j) = _
            rw [lastOf, putAt]
            by_cases e : j = l
            · rw [if_pos e, if_pos e, g1, hm, g3, g2, Int.one_mul]
            · rw [if_neg e, if_neg e]
          clear S8 L8 G8 n0 sf sz
          rintro V ⟨GV, LV, SV⟩
          obtain ⟨k, hk⟩ : ∃ k, lastOf h r l = k := ⟨_, rfl⟩
          rw [hk] at SV
          have HT : Hid (takeOf f t = endOf k) := by
            obtain ⟨g1, g2⟩ := hH.out
            show _ = _
            rw [takeOf, show t.size / 136 = n by omega, show t.size % 136 / 8 = l by omega, show t.size / 8 = 17 * n + l by omega, HG.out, ← g2, ← g1, hk]
          clear hk HU
          have m1 := SV.c 16 (by decide)
          obtain ⟨v1, hv1⟩ : ∃ q, k 16 = q := ⟨_, rfl⟩
          rw [hv1] at m1
          have HV : Hid (k 16 = v1) := hv1
          clear hv1
          go_wp2
          have k1 := cell_regrown m1
          refine region_tail 6 (by kernel_rfl) (by kernel_rfl) ?_
          simp only [List.take_succ_cons, List.take_zero, List.drop_succ_cons, List.drop_zero]
          iterate 6 (quiet_step (fail))
          refine wpQuiet_nil ?_
          intro w9 hw9
          have hb9 : Below V.heap.size V w9 := by
            obtain ⟨p, rfl⟩ := hw9
            exact below_regrown _ _ _
          have S9 := SV.below hb9
          have L9 := LV.below hb9
          have G9 := but_below GV hb9
          clear hw9 hb9 k1 m1 SV LV GV
          have n0 := S9.c 16 (by decide)
          have sf := S9.f
          have sz := S9.z
          have H9 : Hid (_ ∧ _ ∧ _) := ⟨S9, L9, G9⟩
          clear S9 L9 G9
          go_wp2_with fail
          obtain ⟨S9, L9, G9⟩ := H9.out
          refine (mix_any s (putAt k 16 (xr (k 16) 9223372036854775808)) _ (S9.put 16 (by decide) _ (fun j _ => ?_)) (L9.but (but_set (but_refl s w9) _) h3) h3).mono ?_
          · show Value.int .u64 (putAt k 16 _ j) = _
            rw [putAt]
            by_cases e : j = 16
            · rw [if_pos e, if_pos e, HV.out]
            · rw [if_neg e, if_neg e]
          rintro e wa ⟨rfl, SA, GA⟩
          have GZ := but_trans (but_set G9 _) GA
          clear S9 L9 G9 GA H9 n0 sf sz
          go_wp2
          simp only [Exit.noGoto]
          go_end0
          exact ⟨rfl, by rw [HT.out]; exact SA, GZ⟩
        · have m8 : ¬ (m : Int) < 8 := by omega
          have m8' : (8 : Int) ≤ m := by omega
          have m0 := CS.c l (by omega)
          obtain ⟨v, hv⟩ : ∃ q, h l = q := ⟨_, rfl⟩
          rw [hv] at m0
          obtain ⟨u, hu⟩ : ∃ u, laneN (r.extract 0 8) 8 = u := ⟨_, rfl⟩
          have KL : Hid (∀ w : World, Calls Tryz.prog 69 #[.string (r.extract 0 8)] w fun e w' => e = .returned (.int .u64 u) ∧ Below w.heap.size w w') := fun w => by
            have hsx : (r.extract 0 8).size = 8 := by rw [ByteArray.size_extract, hm]; omega
            have := laneOf_any (r.extract 0 8) (by omega) w
            rw [hsx, hu] at this
            exact this
          have HU : Hid (_ ∧ _) := ⟨hv, hu⟩
          clear hv hu
          go_wp2
          have k0 := cell_regrown m0
          have cR := inClass (w := wr) KL.out
          refine region_tail 10 (by kernel_rfl) (by kernel_rfl) ?_
          simp only [List.take_succ_cons, List.take_zero, List.drop_succ_cons, List.drop_zero]
          iterate 7 (quiet_step (fail))
          quiet_step (exact cR _ _)
          iterate 2 (quiet_step (fail))
          refine wpQuiet_nil ?_
          intro w8 hw8
          have hb8 : Below wr.heap.size wr w8 := by
            obtain ⟨p, rfl⟩ := hw8
            exact below_regrown _ _ _
          have S8 := CS.below hb8
          have L8 := LW.below hb8
          have G8 := but_below GW hb8
          clear hw8 hb8 k0 cR KL m0 CS LW GW
          have n0 := S8.c l (by omega)
          have sf := S8.f
          have sz := S8.z
          go_wp2
          go_roundg (gk - 1)
          case measure => omega
          case rel =>
            obtain ⟨g1, g2⟩ := HU.out
            obtain ⟨g3, g4⟩ := hH.out
            refine ⟨l + 1, r.extract 8 r.size, putAt h l (xr v u), by omega, ?_, rfl, but_set G8 _, L8.but (but_set (but_refl s w8) _) h3, S8.put l (by omega) _ (fun j _ => ?_), ⟨?_, ?_⟩, ?_⟩
            · first | rfl | (rw [hm]; rfl) | (simp [hm])
            · show Value.int .u64 (putAt h l (xr v u) j) = _
              rw [putAt]
              by_cases e : j = l
              · rw [if_pos e, if_pos e]
              · rw [if_neg e, if_neg e]
            · rw [← Nat.add_assoc, remAt, ← g3]
            · rw [blkOf, ← g4, g1, ← g3, g2]
            · rw [ByteArray.size_extract, hm]; omega
      · have hl17 : l = 17 := by omega
        subst hl17
        clear hlt
        go_wp2_with fail
        refine (mix_any s h wr CS LW h3).mono ?_
        rintro e wa ⟨rfl, SA, GA⟩
        have LA := LW.but GA h3
        have GZ := but_trans GW GA
        clear GA GW LW CS
        go_wp2
        go_roundg (t.size / 136 + 1 - (n + 1))
        case measure => omega
        case rel =>
          obtain ⟨g3, g4⟩ := hH.out
          refine ⟨n + 1, by omega, by omega, ?_, GZ, LA, ?_⟩
          · rw [g3, show 17 * (n + 1) = 17 * n + 17 by omega]
          · show Fw s 25 (fun j => .int .u64 (roundsOf (blkOf (inOf f t n) t n 17) 24 j)) _
            rw [HG.out, ← g4]
            exact SA
end Go.Proofs.YtfdjiofogohcmaaGreatDoor
namespace Go.Proofs.YtfdjiofogohcmaaGreatDoor
open Go.RowKit Go.Sort

/-- A text's digest. -/
def sumOf (t : ByteArray) : ByteArray := ⟨(dg (takeOf (fun _ => 0) t)).toArray⟩

theorem but_over {w W V : World} (h : Below w.heap.size w W) (g : W.grownBy V (some w.heap.size)) : Below w.heap.size w V :=
  ⟨g.os.trans h.os, g.tape.trans h.tape, g.output.trans h.output, Nat.le_trans h.size g.size, fun k hk => (g.block k (Nat.lt_of_lt_of_le hk h.size) (fun e => by have := Option.some.inj e; omega)).trans (h.block k hk)⟩

set_option maxRecDepth 20000 in
set_option maxHeartbeats 4000000 in
theorem sum_any (v : Value) (t : ByteArray) (ht : t.size < 9223372036854775808) (w : World) (hl : Laid w)
    (hJ : ∀ W : World, Below w.heap.size w W → Calls Tryz.prog 42 #[v, .string ⟨#[]⟩] W fun e w' => e = .returned (.string t) ∧ Below W.heap.size W w') :
    Calls Tryz.prog 26 #[v] w fun e w' => e = .returned (.string (sumOf t)) ∧ Below w.heap.size w w' := by
  have km : IntKind.u64.max = 18446744073709551615 := by decide
  have ks : IntKind.u64.signed = false := rfl
  have HJ : Hid (∀ W : World, _) := hJ
  clear hJ
  go_enter Tryz.func26, Tryz.ntmps26
  go_wp2_with fail
  have h3 : 4 ≤ w.heap.size := by have := hl.t.p.z; omega
  have B0 : Below w.heap.size w (w.alloc (.cells zs 70)) := (Below.refl _ w).alloc (Nat.le_refl _) _
  have S0 : Fw w.heap.size 25 (fun _ => .int .u64 0) (w.alloc (.cells zs 70)) := Fw.lit _ _ rfl rfl
  refine (HJ.out _ B0).mono ?_
  rintro e w1 ⟨rfl, B1⟩
  have S1 := S0.below B1
  have BW1 := belowStep B0 B0.size B1
  have L1 := hl.below BW1
  clear B0 S0 B1
  go_wp2_with fail
  refine (takeIn_any w.heap.size (fun _ => 0) t ht w1 S1 L1 h3).mono ?_
  rintro e w2 ⟨rfl, S2, G2⟩
  have BW2 : Below w.heap.size w w2 := but_over BW1 G2
  clear S1 L1 BW1 G2
  go_wp2_with fail
  refine (digestOf_any w.heap.size _ w2 S2).mono ?_
  rintro e w3 ⟨rfl, B3⟩
  have BW3 := belowStep BW2 BW2.size B3
  clear BW2 B3 S2
  go_wp2
  go_ret
  exact ⟨rfl, BW3⟩
end Go.Proofs.YtfdjiofogohcmaaGreatDoor
namespace Go.Proofs.YtfdjiofogohcmaaGreatDoor
open Go.RowKit Go.Sort

theorem colOf_ext (g h : Nat → Int) (e : ∀ j, j < 25 → g j = h j) (x : Nat) (hx : x < 5) : colOf g x = colOf h x := by
  unfold colOf
  rw [e x (by omega), e (x + 5) (by omega), e (x + 10) (by omega), e (x + 15) (by omega), e (x + 20) (by omega)]
theorem colsOf_ext (g h : Nat → Int) (e : ∀ j, j < 25 → g j = h j) (j : Nat) (hj : j < 25) : colsOf g j = colsOf h j := by
  unfold colsOf byOf
  rw [e j hj, colOf_ext g h e _ (Nat.mod_lt _ (by decide)), colOf_ext g h e _ (Nat.mod_lt _ (by decide))]
theorem movedOf_ext (g h : Nat → Int) (e : ∀ j, j < 25 → g j = h j) (j : Nat) (hj : j < 25) : movedOf g j = movedOf h j := by
  unfold movedOf
  rw [e (fr j) (fr_bd j hj)]
theorem rowsOf_ext (g h : Nat → Int) (e : ∀ j, j < 25 → g j = h j) (j : Nat) (hj : j < 25) : rowsOf g j = rowsOf h j := by
  unfold rowsOf
  rw [e j hj, e (j / 5 * 5 + (j + 1) % 5) (by omega), e (j / 5 * 5 + (j + 2) % 5) (by omega)]
theorem roundOf_ext (k : Nat) (g h : Nat → Int) (e : ∀ j, j < 25 → g j = h j) (j : Nat) (hj : j < 25) : roundOf k g j = roundOf k h j := by
  have e3 : ∀ j, j < 25 → rowsOf (movedOf (colsOf g)) j = rowsOf (movedOf (colsOf h)) j := fun j hj =>
    rowsOf_ext _ _ (fun j hj => movedOf_ext _ _ (fun j hj => colsOf_ext g h e j hj) j hj) j hj
  unfold roundOf
  rw [e3 0 (by decide), e3 j hj]
theorem roundsOf_ext (g h : Nat → Int) (e : ∀ j, j < 25 → g j = h j) : ∀ (k j : Nat), j < 25 → roundsOf g k j = roundsOf h k j
  | 0, j, hj => e j hj
  | k + 1, j, hj => roundOf_ext k _ _ (fun j hj => roundsOf_ext g h e k j hj) j hj

/-- Lanes as a list. -/
def lit (l : List Int) (j : Nat) : Int := l.getD j 0

def e0 : List Int := [1, 0, 0, 0, 0, 0, 0, 0, 0, 0, 0, 0, 0, 0, 0, 0, 9223372036854775808, 0, 0, 0, 0, 0, 0, 0, 0]
def e1 : List Int := [4398046511105, 17592186044416, 4398046543872, 0, 17592186077184, 8, 52776560230400, 1152921504606846984, 52776558133248, 1152921504608944128, 2, 544, 262144, 514, 262176, 268436480, 68719493120, 1024, 268451840, 68719476736, 2305844108725321728, 2199023255552, 1099511627780, 2305845208236949504, 4]
def e2 : List Int := [3904711243048682726, 1207872589841957126, 3184368193241127169, 12971028319727649889, 10286551402689075458, 1259783720018274, 12214679202016067586, 9224121225299901428, 2992272534782738451, 9800689182623078597, 4611726720294328428, 11685850236297012, 1495365005022904395, 15813382930697286, 6111808659584533265, 124981832595311936, 2684240834651972352, 4912301736543682948, 2488263262048755776, 4778390286886047620, 1163347847091065233, 16868443555924821730, 154580546982776916, 15564660919037354401, 2456770817776948750]
def e3 : List Int := [8289102824591434380, 2650440079073489379, 11459863657423534455, 3078203046191370419, 10243614441579508732, 6715684478468316285, 9021721613749738627, 16323907559936263589, 14712371453287876238, 13207516449244145029, 6716728777335539109, 2516792122779427716, 5461754274945430388, 3341045827627689583, 3296329752392194682, 14297203439033465259, 11493424483223189197, 10504499887245279853, 3308135633588744113, 5098721825536174192, 8664368315221462042, 11716894083276002874, 2098923162028634215, 7303567510403455548, 4883930803803657273]
def e4 : List Int := [9145702616912342758, 16632607361196628137, 5807045512169203855, 6548049296825423573, 2911560703121806936, 12452414146356170408, 431667818003843456, 4945739612319476974, 12460092556240016733, 7658648394962756264, 13350366495830902207, 1953387479264944757, 17420282858972716739, 1215582556029742168, 7692344429658740155, 17977349082556873670, 1858614526669458582, 10964871947398476332, 15514956647893279288, 179932933774914631, 17508529487041048502, 7503018368851633981, 929261442150911620, 2851383533632874710, 7153482467733786193]
def e5 : List Int := [3217695626026700231, 7228520851561084131, 7840336919730310393, 6868346474795808920, 5817928043512098185, 483728965144457366, 2094125954139152251, 13290615271988912878, 6116732081573619054, 12404040371124941288, 5210583702804515577, 6569965374713754428, 9650717987591950737, 1838917144515589093, 6206879949013857101, 13836215650485784034, 2777104299206127432, 9162378715153818446, 2579248593664187030, 4649761399498197408, 4345672674621089333, 17727600499527599874, 15951120162837397783, 1486441073599636038, 7526975559096822753]
def e6 : List Int := [248066060412482913, 10809642231442205384, 5504895099598155415, 2584332703152910123, 10449879252273190592, 13355132533173292400, 16887410369553470650, 1390404604944908871, 10467819199160078225, 12586248386544345989, 13287309445471910499, 9168388512907289048, 10117223767413104261, 15763460986669702239, 10756186891316440689, 4278624213941474887, 14275455272196532991, 18250878328984007816, 4482727192120861170, 9721683024389909677, 9163772564863624264, 8489753604216688595, 816201186782976613, 1144184611068540487, 4128866423754115227]
def e7 : List Int := [18402963122672406245, 17859514631694764789, 14428715717768966649, 457031613351869429, 10894224858909162407, 8575137199002047859, 17809232792270138362, 4808146580191774126, 14627578404221294643, 7601016815347446848, 8500045888007553416, 2044036892383418708, 15900193137531961059, 8052354359019095129, 17216125304898466993, 16993524951797960044, 5609346022144275528, 15760809127494505806, 8446841439649264471, 18088848446523253189, 8270102827973632420, 9423595931552552983, 16228370102390044934, 12045389637071608679, 7056785534201200939]
def e8 : List Int := [12753376061805899333, 2111981560556758208, 13166824882716378987, 12172034681548868104, 16455514320282466043, 3265329870635658802, 5063956176412677616, 15307341599108955523, 17042901249887048594, 15606817482875957131, 12401061165045441397, 14112825205738012444, 7528182654139171963, 679949399121675847, 16110029214220444666, 16075443586991710645, 11809122633193920135, 824682708434772612, 9546558219524207792, 14570838741769169544, 16015354101246307490, 14937681164076894612, 16170554185854218030, 13411014959602602192, 17659497305141992864]
def e9 : List Int := [16607373423488820546, 2151422635867277830, 6572340985991069695, 14653210170250470996, 11791760579977573355, 4065323483469060406, 7283395855969466639, 13325119192580981824, 240953767092294249, 4061085087821419309, 15280882476846897925, 2750505582437592369, 2704748849273168765, 6327325585883090832, 2013544036530064293, 11337392647161457476, 9951477293767922198, 15216922623802272473, 4089965193502969186, 10262383148774694472, 11601735218912882699, 3910853304622802100, 1874362684601583732, 14635665072728267742, 11912924353201045756]
def e10 : List Int := [12443570198016410408, 15073234423324879037, 16538284292177595253, 770694436111563450, 4661629519587471725, 4134871225352118654, 4776995384142827210, 15478826137546518068, 18066846374717646578, 14270287239788042585, 2910516952809473229, 949633455367371438, 5615595303185522976, 12732927536893994306, 1974801021048620803, 8494920415961791039, 4379175404697166052, 779617988408921914, 11515541233266066687, 10851941993204617098, 17521537655693928411, 15329457299099953713, 8642253880621323691, 13248831312752232176, 9167496934457325936]
def e11 : List Int := [2784670699769870044, 12458046501618073558, 14125649387247164462, 2371862000334975945, 17449621713181921370, 18084473122477533316, 10555653529814021168, 1286435700208258660, 7900972333389060382, 13695579594619900831, 14617506584737283108, 16851691067561729428, 8573020770547936416, 15064676017279082892, 17197415585843555401, 15776906507246342037, 9813731578541049216, 12800378173865872612, 15297178561593300238, 11409222445058284577, 15122744860265765604, 5517594499147034503, 7999930204173150732, 15392201373165449930, 12679951944464799674]
def e12 : List Int := [16291156846118844451, 9692757143822035377, 17748466164917623592, 18297723408675364712, 5768111022144358297, 5032647943730211172, 240223639921337555, 3573006762761062315, 4418081664467045005, 14050874540553342331, 10482449059741954494, 13992079101437996990, 2435977504749834253, 10982271880190543118, 11974228964236697225, 15115158931448373871, 12735725188152392398, 7627438592320754813, 272652177933322935, 14245570792134504674, 8744534987003128554, 11356875620725102920, 8928226865784257667, 1524680525473545806, 2896276078172484414]
def e13 : List Int := [6665051101374537130, 5495771786181444414, 12537915500868265617, 17060231565289718284, 15561324751258473602, 7930404497004154902, 8849067938713931991, 6658565175150454632, 5282570462567558459, 11559245968373515903, 16566202011258081367, 674556369021680881, 3345820050997912695, 4671081468424751526, 7757084567577850828, 8502623553496775840, 3955259317059675661, 8106862701908889232, 6703677908344537012, 6580670985836187516, 9403347355581011122, 7905832091148999944, 5292914193962333749, 11887527448341663821, 16621059256266911255]
def e14 : List Int := [10716439878011516281, 15967399425266700355, 12076011584974892592, 16248055671756128434, 10643350871698206347, 10594214463648586357, 7116189751946765041, 7750545512743031734, 18247594507314572309, 7378220163111131807, 14999407657225623861, 7928369854754402115, 17844316675013910964, 15171488774331430663, 7614485196347525793, 11605212344200916950, 15157978784662469348, 11718935584924530645, 5535191362811376685, 14772790920984104005, 10448524766163212306, 4825435813474788858, 17005218769600310333, 13954843883325706830, 4929584870877703474]
def e15 : List Int := [1319998251610336165, 5389285008839651730, 9332282829561635961, 9409139626766683675, 6470951802939581099, 17252944717417249465, 17165277815629499916, 3963403808094557162, 14184007887274758158, 9596262242135920298, 10210589069919534081, 14250294093777783787, 8039572666876461379, 2368146889392807232, 1812659259149163614, 16807801796138206746, 11647457970582845122, 6166919066429959443, 1147388708393040668, 1303057136894895726, 1903883279373033606, 2131164935238924974, 4953436646693238779, 2641527683450144340, 2816144971954173157]
def e16 : List Int := [13881630218582485081, 16617007106358093478, 8370579830314427868, 1713224054433245973, 13627151018451951556, 10871226027031491916, 4699765345504525133, 4286537013572583285, 17310739681736795836, 99398265043109114, 3545503971586557412, 7556410075305792076, 15679693291762405836, 2729857338541306968, 1921741768395976932, 14263894358714132532, 11009055271111244000, 845971141115169140, 13270182711450419347, 17079085579333711468, 10503578552956300308, 6627023678281057244, 5403374185706104778, 6659075922477107110, 8592110512596117136]
def e17 : List Int := [8416411914720361245, 3448560865030073472, 3919536279875559698, 5573607003621883193, 984465805306826053, 15024535068875014392, 3681621266475130062, 9998293171501847344, 14839532389281272683, 533539312507974110, 16824156633091540864, 16389535479321433015, 13782841269213835654, 4122073509668400045, 7683819886385778366, 3592048281988696895, 8681389608761840015, 17598965942532483458, 16560167496673567885, 8777595276064781908, 9594426284182731638, 13108639988284796722, 15254667260581302934, 2433642677842468666, 1064465948127417059]
def e18 : List Int := [534296193886098135, 3695287213502380591, 11532049842336470888, 17974523857070849737, 12954850201481240735, 5716772798672216727, 2583007236467463893, 10427970853733301948, 700439106234402195, 7192762512095310632, 4383158246966191391, 18315691205404178545, 18043931791961935518, 16287759594864535142, 15352249056180256782, 18367201066277418680, 6748360514621293390, 9837915013220625665, 12422998273549796530, 12621865645966804366, 4594662070598184093, 8622633690173154066, 12904333489760771204, 385777527094370260, 6037929239432104378]
def e19 : List Int := [17242234307811427515, 7298945131924620938, 12512959417444303430, 16244176617175768424, 3826401358280227816, 8589395152097341129, 18321848104009695025, 11680515094655873510, 3680928998899718032, 5209258824295493052, 14420353876404795782, 13596398079702832869, 12202387532391994898, 721433745371800063, 9896885544113945439, 6680377346781173919, 5332700740124661618, 13318027231967735991, 16563930016949065197, 220674366890030230, 6699529091897125322, 2739507427232859638, 15711608159680198358, 15839554650221487652, 11575241304029856712]
def e20 : List Int := [16702010266589328720, 11785696339686387325, 16232021429448662837, 4621936354538492110, 16839935569400247044, 3516106972774747115, 11724013555230036502, 7480607343544516906, 14577750021349342573, 2421771942493426498, 8252672638237332873, 8249004131460997133, 778286484670419507, 5467066643722607965, 1760155417958766819, 5539793005320924506, 11397623340431491872, 12864342638065520035, 12083379459737583179, 14892306294104856657, 14623186648705301253, 5128653977437664874, 14734488673449380773, 17399174579470271659, 14787652485258740643]
def e21 : List Int := [16488390307541943305, 17559693018003947265, 9108537271992078214, 10423841811661870631, 3040236185740504183, 857882767517711827, 3492714315419207287, 2789125034051568249, 81920884436605105, 13331759205602966770, 16754353820981313164, 6741055624195280880, 5263857701266955350, 4627132801428790548, 7422782385993692804, 3730241882621406845, 4399100234652493596, 15025317568737056282, 4375033872217880358, 3359671850727625416, 1362862387812853932, 8387689881403993048, 8688947589982045175, 11585555971117405732, 16397411802621700634]
def e22 : List Int := [7468857592912166551, 7509402213287554103, 5920166622310057021, 1245229838719934601, 11412606850931652734, 4778997266118777220, 13503050704312239975, 9078797036224177493, 9046123609337478232, 2279923682132033021, 968663569872637247, 12528780394224896734, 15109038439802043243, 2514154137644936742, 13074992029672084631, 9981334051720804394, 10929166993946436931, 10786302343937411402, 2172383237928275479, 15222838835840319035, 6535328264755286323, 3021073620629705380, 6914764477367934026, 14161662948158972437, 2646073473019538392]
def e23 : List Int := [13219969621820782240, 3226093193424914092, 10846161881167012984, 13470522419822434072, 9395429576182681946, 8530498048516093610, 5651939854162289461, 7915235748700633099, 16590736201521082154, 11443586452577361644, 11578784407731530241, 12555284199035474007, 103191304442796045, 2407050918456829886, 8809156603158525029, 15242461923984447565, 13645658932555888328, 11207932644415108528, 2606492158503956003, 17367323008410274790, 14914538695926853805, 15728690031541589181, 7389391625128953151, 12128506732059288731, 17622300515349969486]
def e24 : List Int := [4333579421379646149, 13836122230913597074, 4262519377828905189, 8116759062988257915, 8406387447366859581, 14671339323370021561, 2243375101132795228, 9371364203318886753, 9347994793612953298, 12814238161780307547, 4391692840257016808, 4309499098775122448, 13438072403645551266, 18018124564071650747, 4323130096954625545, 16970298442240338249, 1971761234120675839, 450719451514497906, 18340686150147091359, 11254645818134300982, 16062291397582171322, 1601982631079003425, 7734681229251997073, 13256946727218518206, 11816912122432958423]

theorem s0 : ∀ j : Fin 25, roundOf 0 (lit e0) j.val = lit e1 j.val := by decide +kernel
theorem s1 : ∀ j : Fin 25, roundOf 1 (lit e1) j.val = lit e2 j.val := by decide +kernel
theorem s2 : ∀ j : Fin 25, roundOf 2 (lit e2) j.val = lit e3 j.val := by decide +kernel
theorem s3 : ∀ j : Fin 25, roundOf 3 (lit e3) j.val = lit e4 j.val := by decide +kernel
theorem s4 : ∀ j : Fin 25, roundOf 4 (lit e4) j.val = lit e5 j.val := by decide +kernel
theorem s5 : ∀ j : Fin 25, roundOf 5 (lit e5) j.val = lit e6 j.val := by decide +kernel
theorem s6 : ∀ j : Fin 25, roundOf 6 (lit e6) j.val = lit e7 j.val := by decide +kernel
theorem s7 : ∀ j : Fin 25, roundOf 7 (lit e7) j.val = lit e8 j.val := by decide +kernel
theorem s8 : ∀ j : Fin 25, roundOf 8 (lit e8) j.val = lit e9 j.val := by decide +kernel
theorem s9 : ∀ j : Fin 25, roundOf 9 (lit e9) j.val = lit e10 j.val := by decide +kernel
theorem s10 : ∀ j : Fin 25, roundOf 10 (lit e10) j.val = lit e11 j.val := by decide +kernel
theorem s11 : ∀ j : Fin 25, roundOf 11 (lit e11) j.val = lit e12 j.val := by decide +kernel
theorem s12 : ∀ j : Fin 25, roundOf 12 (lit e12) j.val = lit e13 j.val := by decide +kernel
theorem s13 : ∀ j : Fin 25, roundOf 13 (lit e13) j.val = lit e14 j.val := by decide +kernel
theorem s14 : ∀ j : Fin 25, roundOf 14 (lit e14) j.val = lit e15 j.val := by decide +kernel
theorem s15 : ∀ j : Fin 25, roundOf 15 (lit e15) j.val = lit e16 j.val := by decide +kernel
theorem s16 : ∀ j : Fin 25, roundOf 16 (lit e16) j.val = lit e17 j.val := by decide +kernel
theorem s17 : ∀ j : Fin 25, roundOf 17 (lit e17) j.val = lit e18 j.val := by decide +kernel
theorem s18 : ∀ j : Fin 25, roundOf 18 (lit e18) j.val = lit e19 j.val := by decide +kernel
theorem s19 : ∀ j : Fin 25, roundOf 19 (lit e19) j.val = lit e20 j.val := by decide +kernel
theorem s20 : ∀ j : Fin 25, roundOf 20 (lit e20) j.val = lit e21 j.val := by decide +kernel
theorem s21 : ∀ j : Fin 25, roundOf 21 (lit e21) j.val = lit e22 j.val := by decide +kernel
theorem s22 : ∀ j : Fin 25, roundOf 22 (lit e22) j.val = lit e23 j.val := by decide +kernel
theorem s23 : ∀ j : Fin 25, roundOf 23 (lit e23) j.val = lit e24 j.val := by decide +kernel

theorem next {k : Nat} {f : Nat → Int} {a b : List Int} (h : ∀ j, j < 25 → roundsOf f k j = lit a j) (s : ∀ j : Fin 25, roundOf k (lit a) j.val = lit b j.val) : ∀ j, j < 25 → roundsOf f (k + 1) j = lit b j :=
  fun j hj => (roundOf_ext k _ _ h j hj).trans (s ⟨j, hj⟩)
theorem all24 (f : Nat → Int) (h : ∀ j, j < 25 → f j = lit e0 j) : ∀ j, j < 25 → roundsOf f 24 j = lit e24 j :=
  (next (next (next (next (next (next (next (next (next (next (next (next (next (next (next (next (next (next (next (next (next (next (next (next (show ∀ j, j < 25 → roundsOf f 0 j = lit e0 j from h) s0) s1) s2) s3) s4) s5) s6) s7) s8) s9) s10) s11) s12) s13) s14) s15) s16) s17) s18) s19) s20) s21) s22) s23)
theorem dg_ext (f g : Nat → Int) (h : ∀ j, j < 25 → f j = g j) : dg f = dg g := by
  unfold dg
  refine List.map_congr_left fun j hj => ?_
  have hj' : j < 32 := List.mem_range.1 hj
  unfold dgAt
  rw [h (j / 8) (by omega)]
theorem start : ∀ j : Fin 25, putAt (lastOf (fun _ => 0) ⟨#[]⟩ 0) 16 (xr (lastOf (fun _ => 0) ⟨#[]⟩ 0 16) 9223372036854775808) j.val = lit e0 j.val := by decide +kernel
theorem dg_lit : dg (lit e24) = [197, 210, 70, 1, 134, 247, 35, 60, 146, 126, 125, 178, 220, 199, 3, 192, 229, 0, 182, 83, 202, 130, 39, 59, 123, 250, 216, 4, 93, 133, 164, 112] := by decide +kernel
theorem sum_none : sumOf ⟨#[]⟩ = ⟨#[197, 210, 70, 1, 134, 247, 35, 60, 146, 126, 125, 178, 220, 199, 3, 192, 229, 0, 182, 83, 202, 130, 39, 59, 123, 250, 216, 4, 93, 133, 164, 112]⟩ := by
  have h : ∀ j, j < 25 → takeOf (fun _ => 0) ⟨#[]⟩ j = lit e24 j := fun j hj => all24 _ (fun j hj => start ⟨j, hj⟩) j hj
  unfold sumOf
  rw [dg_ext _ _ h, dg_lit]
end Go.Proofs.YtfdjiofogohcmaaGreatDoor
namespace Go.Proofs.YtfdjiofogohcmaaGreatDoor
open Go.RowKit Go.Sort

/-- Parts, one behind the other. -/
def joinOf (xs : List ByteArray) : ByteArray := ⟨(Lib.join (xs.map (·.data.toList)) ([] : List UInt8)).toArray⟩

theorem sum_list (bk o c : Nat) (xs : List ByteArray) (w : World) (hl : Laid w) (hcells : ∀ (j : Nat) x, xs[j]? = some x → w.cell? ⟨bk, o + j, none⟩ = some (.string x))
    (hbk : bk < w.heap.size) (hN : xs.length ≤ 140737488355328) (hcap : xs.length ≤ c) (hlen : (Lib.join (xs.map (·.data.toList)) ([] : List UInt8)).length ≤ 140737488355328) :
    Calls Tryz.prog 26 #[.slice (some ⟨bk, o, none⟩) xs.length c] w fun e w' => e = .returned (.string (sumOf (joinOf xs))) ∧ Below w.heap.size w w' := by
  have hz : (joinOf xs).size = (Lib.join (xs.map (·.data.toList)) ([] : List UInt8)).length := by simp [joinOf, ByteArray.size]
  refine sum_any _ (joinOf xs) (by rw [hz]; omega) w hl fun W hb => ?_
  exact Tryz.strings_Join bk o c xs ⟨#[]⟩ W (fun j x hx => (hb.cell (p := ⟨bk, o + j, none⟩) hbk).trans (hcells j x hx)) (Nat.lt_of_lt_of_le hbk hb.size) hN hcap hlen

theorem join_one (x : ByteArray) : joinOf [x] = x := by
  simp [joinOf, Lib.join]
theorem join_none (x : ByteArray) : joinOf [x, ⟨#[]⟩] = x := by
  simp [joinOf, Lib.join]
theorem join_two (x : ByteArray) (p : Nat) (h : p ≤ x.size) : joinOf [x.extract 0 p, x.extract p x.size] = x := by
  have hz : x.data.size = x.size := rfl
  have e : (x.extract 0 p).data.toList ++ (x.extract p x.size).data.toList = x.data.toList := by
    rw [ByteArray.data_extract, ByteArray.data_extract, Array.toList_extract, Array.toList_extract]
    simp only [List.extract_eq_take_drop, List.drop_zero, Nat.sub_zero]
    rw [List.take_of_length_le (l := List.drop p x.data.toList) (by rw [List.length_drop, Array.length_toList]; omega), List.take_append_drop]
  have e2 : Lib.join ([x.extract 0 p, x.extract p x.size].map (·.data.toList)) ([] : List UInt8) = (x.extract 0 p).data.toList ++ (x.extract p x.size).data.toList := by
    simp [Lib.join]
  unfold joinOf
  rw [e2, e]
theorem sum_size (t : ByteArray) : (sumOf t).size = 32 := by
  show (dg _).toArray.size = 32
  rw [List.size_toArray, dg_len]
end Go.Proofs.YtfdjiofogohcmaaGreatDoor
namespace Go.Proofs.YtfdjiofogohcmaaGreatDoor
open Go.RowKit Go.Shelf Go.Sort

mutual
/-- A node: its list, and the steps to those below it. -/
inductive Nd where
  | mk (x : It) (ss : Sts)
inductive Sts where
  | nil
  | cons (p : ByteArray) (n : Nd) (r : Sts)
end
namespace Nd
def x : Nd → It | .mk x _ => x
def ss : Nd → Sts | .mk _ ss => ss
end Nd
def Sts.len : Sts → Nat
  | .nil => 0
  | .cons _ _ r => r.len + 1
/-- What stands for a list in another one. -/
def refI (x : It) : It := if (eS x).size < 32 then x else .mk false (sumOf (eS x)) []
mutual
/-- It lies in memory, in blocks of a kind, from block b on. -/
def ndIn (p : Nat → Prop) (W : World) (b : Nat) : Nd → Prop
  | .mk x ss => ∃ (im : Im) (a : Option Addr) (c : Nat), p b ∧ W.heap[b]? = some (.cells #[.bool im.l, .string im.t, im.sl, .string (eS x), .slice a ss.len c] 50 (0, 0)) ∧ er im = x ∧ inP p W im ∧ stIn (fun q => p q ∧ q < b) W a 0 ss
def stIn (p : Nat → Prop) (W : World) (a : Option Addr) : Nat → Sts → Prop
  | _, .nil => True
  | i, .cons t n r => (∃ b o b', p b ∧ a = some ⟨b, o, none⟩ ∧ W.cell? ⟨b, o + 2 * i, none⟩ = some (.string t) ∧ W.cell? ⟨b, o + 2 * i + 1, none⟩ = some (.pointer (some ⟨b', 0, none⟩)) ∧ ndIn p W b' n) ∧ stIn p W a (i + 1) r
end
mutual
theorem ndIn_of {p q : Nat → Prop} {W W' : World} (hp : ∀ b, p b → q b ∧ W'.heap[b]? = W.heap[b]?) : ∀ (n : Nd) (b : Nat), ndIn p W b n → ndIn q W' b n
  | .mk _ ss, b, ⟨im, a, c, h1, h2, h3, h4, h5⟩ => ⟨im, a, c, (hp b h1).1, (hp b h1).2.trans h2, h3, inP_of (fun b hb => ⟨(hp b hb).1, fun k => World.cell?_of_block (w := W) (a := ⟨b, k, none⟩) (hp b hb).2⟩) im h4, stIn_of (fun q hq => ⟨⟨(hp q hq.1).1, hq.2⟩, (hp q hq.1).2⟩) ss a 0 h5⟩
theorem stIn_of {p q : Nat → Prop} {W W' : World} (hp : ∀ b, p b → q b ∧ W'.heap[b]? = W.heap[b]?) : ∀ (s : Sts) (a : Option Addr) (i : Nat), stIn p W a i s → stIn q W' a i s
  | .nil, _, _, _ => trivial
  | .cons _ n r, a, i, ⟨⟨b, o, b', h1, h2, h3, h4, h5⟩, h6⟩ => ⟨⟨b, o, b', (hp b h1).1, h2, (World.cell?_of_block (w := W) (a := ⟨b, _, none⟩) (hp b h1).2).trans h3, (World.cell?_of_block (w := W) (a := ⟨b, _, none⟩) (hp b h1).2).trans h4, ndIn_of hp n b' h5⟩, stIn_of hp r a (i + 1) h6⟩
end
theorem ndIn_below {p : Nat → Prop} {n : Nat} {W W' : World} (hb : Below n W W') (hp : ∀ b, p b → b < n) (nd : Nd) (b : Nat) (h : ndIn p W b nd) : ndIn p W' b nd := ndIn_of (fun b hb' => ⟨hb', hb.block b (hp b hb')⟩) nd b h
theorem ndIn_mono {p q : Nat → Prop} {W : World} (hp : ∀ b, p b → q b) (nd : Nd) (b : Nat) (h : ndIn p W b nd) : ndIn q W b nd := ndIn_of (fun b hb => ⟨hp b hb, rfl⟩) nd b h

theorem zero_new (w : World) : ItIn w.heap.size zeroI (w.alloc (.cells #[.bool false, .string ⟨#[]⟩, .slice none 0 0] 47)) := World.alloc_heap_new w _

set_option maxRecDepth 20000 in
set_option maxHeartbeats 1000000 in
theorem formOf_any (p : ByteArray) (leaf : Bool) (hp : p.size ≤ 1000) (w : World) :
    Calls Tryz.prog 89 #[.string p, .bool leaf] w fun e w' => e = .returned (txt (fmS p leaf)).val ∧ Below w.heap.size w w' := by
  have KF := fun w => form_any p leaf (by omega) w
  have KT := text_any (fmS p leaf)
  have A0 := be_new w (.cells #[.bool false, .string ⟨#[]⟩, .slice none 0 0] 47)
  have hR0 := zero_new w
  obtain ⟨s, hs⟩ : ∃ s, fmS p leaf = s := ⟨_, rfl⟩
  rw [hs] at KF KT ⊢
  clear hs
  go_enter Tryz.func89, Tryz.ntmps89
  go_wp2_with fail
  refine (KF _).mono ?_
  rintro e w1 ⟨rfl, B1⟩
  go_wp2_with fail
  refine (KT _).mono ?_
  rintro e w2 ⟨rfl, B2⟩
  have B12 := belowStep B1 B1.size B2
  have hR : ItIn w.heap.size zeroI w2 := (B12.block _ (by simp)).trans hR0
  have BW := belowStep A0 A0.size B12
  clear KF KT A0 hR0 B1 B2 B12
  obtain ⟨bR, hbR⟩ : ∃ c, w.heap.size = c := ⟨_, rfl⟩
  have HZ : Hid (w.heap.size = bR) := hbR
  rw [hbR] at hR BW ⊢
  clear hbR
  have d0 : w2.cell? ⟨bR, 0, none⟩ = some (.bool false) := by rw [Lib.cell_of_heap hR]; rfl
  have d1 : w2.cell? ⟨bR, 1, none⟩ = some (.string ⟨#[]⟩) := by rw [Lib.cell_of_heap hR]; rfl
  have d2 : w2.cell? ⟨bR, 2, none⟩ = some (.slice none 0 0) := by rw [Lib.cell_of_heap hR]; rfl
  have f0 := Lib.frozen_of_heap hR 0
  have f1 := Lib.frozen_of_heap hR 1
  have f2 := Lib.frozen_of_heap hR 2
  dsimp only [txt, Im.val, Im.l, Im.t, Im.sl, Im.a, Im.xs, Im.c, List.length_nil]
  go_wp2
  refine bodyPost_ret (v := .agg #[.bool false, .string s, .slice none 0 0]) (by simp [results, Tryz.results89, go_sem, d0, d1, d2]) rfl ⟨rfl, ?_⟩
  rw [HZ.out]
  exact below_set (below_set (below_set BW bR 0 (Nat.le_refl _) _) bR 1 (Nat.le_refl _) _) bR 2 (Nat.le_refl _) _

set_option maxRecDepth 20000 in
set_option maxHeartbeats 1000000 in
theorem newNode_any (xs : List Im) (ss : Sts) (htb : tbs xs < 3000000) (a sa : Option Addr) (c sc n : Nat) (p : Nat → Prop) (w : World) (hn : n ≤ w.heap.size) (hm : rowMem n w a 0 xs) (hp : ∀ b, p b → b < w.heap.size) (hs : stIn p w sa 0 ss) :
    Calls Tryz.prog 88 #[.slice a xs.length c, .slice sa ss.len sc] w fun e w' => Below w.heap.size w w' ∧ ∃ b, e = .returned (.pointer (some ⟨b, 0, none⟩)) ∧ ndIn (fun b => p b ∨ (w.heap.size ≤ b ∧ b < w'.heap.size)) w' b (.mk (.mk true ⟨#[]⟩ (ers xs)) ss) := by
  have hcn : cnts xs < 100000000 := by
    have h1 := tb_cnt (.mk true ⟨#[]⟩ none 0 xs)
    have h2 : tb (.mk true ⟨#[]⟩ none 0 xs) = 0 + 9 + tbs xs := rfl
    have h3 : cnt (.mk true ⟨#[]⟩ none 0 xs) = cnts xs + 1 := rfl
    omega
  have KL := fun w hn hm => list_any xs hcn n a c w hn hm
  have htb' : tbIs (ers xs) < 3000000 := by rw [← tbs_er]; exact htb
  obtain ⟨X, hX⟩ : ∃ q, ers xs = q := ⟨_, rfl⟩
  obtain ⟨N, hN⟩ : ∃ q, xs.length = q := ⟨_, rfl⟩
  obtain ⟨M, hM⟩ : ∃ q, ss.len = q := ⟨_, rfl⟩
  rw [hX] at KL htb' ⊢
  rw [hN] at KL ⊢
  rw [hM]
  have HX : Hid (_ ∧ _ ∧ _) := ⟨hm, hs, hM⟩
  clear hm hs hX hN hM htb
  go_enter Tryz.func88, Tryz.ntmps88
  go_wp2_with fail
  refine (KL _ hn HX.out.1).mono ?_
  rintro e w1 ⟨im, rfl, he1, hin1, B1⟩
  have hml : inMem w1.heap.size w1 im := inMem_of (fun b hb => hb.2) _ hin1
  have KE := fun n w hn hm => encode_any im (by rw [tb_er, he1]; show 0 + 9 + tbIs X < _; omega) n w hn hm
  rw [encE_er, encS_er, he1] at KE
  have hb1 := it_new w1 im
  have A1 := be_new w1 (.cells #[.bool im.l, .string im.t, im.sl] 47)
  obtain ⟨s, hs⟩ : ∃ q, eS (.mk true ⟨#[]⟩ X) = q := ⟨_, rfl⟩
  obtain ⟨g, hg⟩ : ∃ q, eE (.mk true ⟨#[]⟩ X) = q := ⟨_, rfl⟩
  rw [hs, hg] at KE
  have HI : Hid (_ ∧ _ ∧ _ ∧ _) := ⟨he1, hin1, hs, B1⟩
  clear he1 hin1 hs hg KL
  obtain ⟨il, it, ia, ic, ix⟩ := im
  dsimp only [Im.val, Im.l, Im.t, Im.sl, Im.a, Im.xs, Im.c] at KE hb1 A1 ⊢
  go_wp2_with fail
  refine (KE _ _ A1.size (inMem_below (Nat.le_refl _) A1 _ hml)).mono ?_
  rintro e w2 ⟨rfl, B2⟩
  have B12 := belowStep A1 A1.size B2
  have hb2 : ItIn w1.heap.size (.mk il it ia ic ix) w2 := (B2.block _ hb1.lt).trans hb1
  have c0 : w2.cell? ⟨w1.heap.size, 0, none⟩ = some (.bool il) := by rw [Lib.cell_of_heap hb2]; rfl
  have c1 : w2.cell? ⟨w1.heap.size, 1, none⟩ = some (.string it) := by rw [Lib.cell_of_heap hb2]; rfl
  have c2 : w2.cell? ⟨w1.heap.size, 2, none⟩ = some (.slice ia ix.length ic) := by rw [Lib.cell_of_heap hb2]; rfl
  have A2 := be_new w2 (.cells #[.bool il, .string it, .slice ia ix.length ic, .string s, .slice sa M sc] 50)
  have hN2 : (w2.alloc (.cells #[.bool il, .string it, .slice ia ix.length ic, .string s, .slice sa M sc] 50)).heap[w2.heap.size]? = some (.cells #[.bool il, .string it, .slice ia ix.length ic, .string s, .slice sa M sc] 50 (0, 0)) := World.alloc_heap_new w2 _
  have HJ : Hid (_ ∧ _ ∧ _) := ⟨B12, A2, hN2⟩
  clear B12 A2 hN2 hb1 A1 KE hml B2 B1 hb2
  go_wp2
  go_ret
  obtain ⟨he1, hin1, hs, B1⟩ := HI.out
  obtain ⟨B12, A2, hN2⟩ := HJ.out
  have BW1 := belowStep B12 B12.size A2
  have BW := belowStep B1 B1.size BW1
  have hsz1 := B1.size
  have hsz2 := B12.size
  refine ⟨BW, w2.heap.size, rfl, .mk il it ia ic ix, sa, sc, .inr ⟨by omega, by simp⟩, ?_, he1, ?_, ?_⟩
  · rw [hs, HX.out.2.2]
    exact hN2
  · refine inP_of (fun b hb => ⟨.inr ⟨hb.1, by simp; omega⟩, fun k => BW1.cell (p := ⟨b, k, none⟩) hb.2⟩) _ hin1
  · exact stIn_of (fun b hb => ⟨⟨.inl hb, by have := hp b hb; omega⟩, BW.block b (hp b hb)⟩) ss sa 0 HX.out.2.1

set_option maxRecDepth 20000 in
set_option maxHeartbeats 1000000 in
theorem stands_any (nd : Nd) (b : Nat) (p : Nat → Prop) (w : World) (h : ndIn p w b nd) :
    Calls Tryz.prog 57 #[.pointer (some ⟨b, 0, none⟩)] w fun e w' => e = .returned (.bool (decide ((eS nd.x).size < 32))) ∧ Below w.heap.size w w' := by
  obtain ⟨x, ss⟩ := nd
  obtain ⟨im, a, c, h1, h2, h3, h4, h5⟩ := h
  have c3 : w.cell? ⟨b, 3, none⟩ = some (.string (eS x)) := by rw [Lib.cell_of_heap h2]; rfl
  show Calls Tryz.prog 57 #[.pointer (some ⟨b, 0, none⟩)] w fun e w' => e = .returned (.bool (decide ((eS x).size < 32))) ∧ Below w.heap.size w w'
  obtain ⟨s, hs⟩ : ∃ s, eS x = s := ⟨_, rfl⟩
  rw [hs] at c3 ⊢
  clear h1 h2 h3 h4 h5 hs
  have hd : decide ((s.size : Int) < 32) = decide (s.size < 32) := by congr 1; apply propext; omega
  go_enter Tryz.func57, Tryz.ntmps57
  go_wp2
  go_ret
  exact ⟨by rw [← hd]; rfl, Below.refl _ _⟩

end Go.Proofs.YtfdjiofogohcmaaGreatDoor
