/- Lemmas: Heads of items: what is laid ahead of a body is cut off again, and what is cut off was laid ahead. Items and their bytes, there and back. RlpBack's walk: an item is read from its bytes as it was; bytes that are read are written so again. The reference's bytes of an item: right, head, bytesOf, Encode. The reference's bytes of an item: head, bytesOf, Encode. -/
import Derived.Test.YtmefanagpkbjeaaDoorM1
import Derived.Test.YtmefanagpkbjeaaDoorM10
import Derived.Test.YtmefanagpkbjeaaDoorM11
import Derived.Test.YtmefanagpkbjeaaDoorM12
import Derived.Test.YtmefanagpkbjeaaDoorM13
import Derived.Test.YtmefanagpkbjeaaDoorM14
import Derived.Test.YtmefanagpkbjeaaDoorM15
import Derived.Test.YtmefanagpkbjeaaDoorM16
import Derived.Test.YtmefanagpkbjeaaDoorM17
import Derived.Test.YtmefanagpkbjeaaDoorM18
import Derived.Test.YtmefanagpkbjeaaDoorM2
import Derived.Test.YtmefanagpkbjeaaDoorM3
import Derived.Test.YtmefanagpkbjeaaDoorM6
import Derived.Test.YtmefanagpkbjeaaDoorM7
import Derived.Test.YtmefanagpkbjeaaDoorM8
import Derived.Test.YtmefanagpkbjeaaDoorM9
import Derived.Test.YtmefanagpkbjeaaDoorRows
import Derived.Carry
import Derived.ChangeArms
import Derived.ChangeMaps5
import Derived.ChangeSame
import Derived.OpenShut
import Derived.ProofKit
namespace Go.Proofs.YtmefanagpkbjeaaDoor
open Go.RowKit Go.Shelf Go.Sort

theorem app_left (a b : ByteArray) : (a ++ b).extract 0 a.size = a := ByteArray.extract_append_eq_left rfl
theorem app_mid (a b : ByteArray) (i j : Nat) : (a ++ b).extract (a.size + i) (a.size + j) = b.extract i j := ByteArray.extract_append_size_add
theorem app_right (a b : ByteArray) : (a ++ b).extract a.size (a ++ b).size = b := by
  have := app_mid a b 0 b.size
  rw [Nat.add_zero, ByteArray.extract_zero_size] at this
  rw [ByteArray.size_append]
  exact this
theorem join2 (s : ByteArray) (a : Nat) (h : a ≤ s.size) : s.extract 0 a ++ s.extract a s.size = s := by
  rw [← ByteArray.extract_eq_extract_append_extract a (Nat.zero_le _) h, ByteArray.extract_zero_size]
theorem first_byte (s : ByteArray) (h : 0 < s.size) (n : Nat) (hn : bt s 0 = n) : s.extract 0 1 = ⟨#[UInt8.ofNat n]⟩ := by
  have hb := bt_bd s 0
  refine ext_bt _ _ (by rw [ext_size s 0 1 h]; rfl) fun j hj => ?_
  rw [ext_size s 0 1 h] at hj
  obtain rfl : j = 0 := by omega
  rw [bt_ext2 s 0 1 (by omega) h, hn]
  show (n : Int) = ((UInt8.ofNat n).toNat : Int)
  rw [UInt8.toNat_ofNat']
  omega
/-- A head in two parts: its first byte's number above the base, and what stands behind that byte. -/
def hdN (n : Nat) : Nat := if n < 56 then n else 55 + blen n
def hdD (n : Nat) : ByteArray := if n < 56 then ⟨#[]⟩ else numOf n
theorem hdB_parts (b n : Nat) : hdB b n = ⟨#[UInt8.ofNat (b + hdN n)]⟩ ++ hdD n := by
  unfold hdB hdN hdD
  by_cases h : n < 56
  · rw [if_pos h, if_pos h, if_pos h]
    exact (ByteArray.append_empty).symm
  · rw [if_neg h, if_neg h, if_neg h, Nat.add_assoc]
theorem hdN_lt (n : Nat) (hn : n < 18446744073709551616) : hdN n < 64 := by
  unfold hdN
  have := num_8 n hn
  split <;> omega
theorem cutAt_hd (n : Nat) (hn : n < 18446744073709551616) (r : ByteArray) (hr : n ≤ r.size) : cutAt (hdN n) (hdD n ++ r) = some ((hdD n).size, n) := by
  unfold cutAt hdN hdD
  by_cases h : n < 56
  · rw [if_pos h, if_pos h, if_pos h]
    have e : ((⟨#[]⟩ : ByteArray) ++ r) = r := ByteArray.empty_append
    rw [e, if_neg (by omega)]
    rfl
  · rw [if_neg h, if_neg h]
    have h1 : 1 ≤ blen n := by
      have := (blen_zero n).1
      omega
    rw [if_neg (by omega), show 55 + blen n - 55 = (numOf n).size by rw [num_size]; omega, ByteArray.size_append, if_neg (by omega), app_left]
    obtain ⟨q1, q2⟩ := num_back n hn
    rw [q1, q2, if_pos ⟨rfl, by omega, by omega⟩]
theorem bt_one (d : Nat) (r : ByteArray) (hd : d < 256) : bt (⟨#[UInt8.ofNat d]⟩ ++ r) 0 = d := by
  rw [bt_app, if_pos (by show 0 < 1; omega)]
  show ((UInt8.ofNat d).toNat : Int) = d
  rw [UInt8.toNat_ofNat']
  omega
theorem ext_one (d : Nat) (r : ByteArray) : (⟨#[UInt8.ofNat d]⟩ ++ r : ByteArray).extract 1 (⟨#[UInt8.ofNat d]⟩ ++ r : ByteArray).size = r := app_right ⟨#[UInt8.ofNat d]⟩ r
/-- What stands ahead of a body of a kind. -/
def hdK (k : Nat) (b : ByteArray) : ByteArray := if k = 2 then hdB 192 b.size else if bare b then ⟨#[]⟩ else hdB 128 b.size
theorem cut_list (b r : ByteArray) (hb : b.size < 18446744073709551616) : cutK (hdB 192 b.size ++ (b ++ r)) = (2, b, r) := by
  have hk := hdN_lt b.size hb
  rw [hdB_parts, ByteArray.append_assoc]
  unfold cutK
  rw [bt_one _ _ (by omega), ext_one, if_neg (by omega), if_neg (by omega), show (((192 + hdN b.size : Nat) : Int).toNat - 192) = hdN b.size by omega, cutAt_hd b.size hb (b ++ r) (by rw [ByteArray.size_append]; omega)]
  dsimp only
  have e1 : (hdD b.size ++ (b ++ r)).extract (hdD b.size).size ((hdD b.size).size + b.size) = b := by
    have := app_mid (hdD b.size) (b ++ r) 0 b.size
    rw [Nat.add_zero, app_left] at this
    exact this
  have e2 : (hdD b.size ++ (b ++ r)).extract ((hdD b.size).size + b.size) (hdD b.size ++ (b ++ r)).size = r := by
    have := app_mid (hdD b.size) (b ++ r) b.size (b ++ r).size
    rw [app_right] at this
    rw [ByteArray.size_append]
    exact this
  rw [e1, e2]
theorem cut_text (b r : ByteArray) (hb : b.size < 18446744073709551616) (hn : bare b = false) : cutK (hdB 128 b.size ++ (b ++ r)) = (1, b, r) := by
  have hk := hdN_lt b.size hb
  rw [hdB_parts, ByteArray.append_assoc]
  unfold cutK
  rw [bt_one _ _ (by omega), ext_one, if_neg (by omega), if_pos (by omega), show (((128 + hdN b.size : Nat) : Int).toNat - 128) = hdN b.size by omega, cutAt_hd b.size hb (b ++ r) (by rw [ByteArray.size_append]; omega)]
  dsimp only
  have e1 : (hdD b.size ++ (b ++ r)).extract (hdD b.size).size ((hdD b.size).size + b.size) = b := by
    have := app_mid (hdD b.size) (b ++ r) 0 b.size
    rw [Nat.add_zero, app_left] at this
    exact this
  have e2 : (hdD b.size ++ (b ++ r)).extract ((hdD b.size).size + b.size) (hdD b.size ++ (b ++ r)).size = r := by
    have := app_mid (hdD b.size) (b ++ r) b.size (b ++ r).size
    rw [app_right] at this
    rw [ByteArray.size_append]
    exact this
  rw [e1, e2, hn]
  rfl
theorem cut_bare (b r : ByteArray) (hn : bare b = true) : cutK (b ++ r) = (1, b, r) := by
  unfold bare at hn
  rw [Bool.and_eq_true] at hn
  have h1 := of_decide_eq_true hn.1
  have h2 := of_decide_eq_true hn.2
  unfold cutK
  rw [bt_app, if_pos (show 0 < b.size by omega), if_pos h2]
  have e1 := app_left b r
  have e2 := app_right b r
  rw [h1] at e1 e2
  rw [e1, e2]
/-- Whatever is cut off was laid ahead. -/
theorem cutAt_join {k : Nat} {r : ByteArray} {d n : Nat} (h : cutAt k r = some (d, n)) : hdN n = k ∧ hdD n ++ (r.extract d (d + n) ++ r.extract (d + n) r.size) = r ∧ (r.extract d (d + n)).size = n := by
  have hle := cutAt_le h
  have hj : r.extract d (d + n) ++ r.extract (d + n) r.size = r.extract d r.size := (ByteArray.extract_eq_extract_append_extract (d + n) (by omega) hle).symm
  have hz := ext_size r d (d + n) hle
  refine ⟨?_, ?_, by omega⟩
  · unfold cutAt at h
    split at h
    · split at h
      · cases h
      · cases h
        unfold hdN
        rw [if_pos ‹_›]
    · split at h
      · cases h
      · split at h
        · rename_i h1 h2 h3
          cases h
          have hv := val_num _ h3.1
          have hs := congrArg ByteArray.size hv
          rw [num_size, ext_size r 0 _ (by omega)] at hs
          unfold hdN
          rw [if_neg (by omega)]
          omega
        · cases h
  · rw [hj]
    unfold cutAt at h
    split at h
    · split at h
      · cases h
      · cases h
        unfold hdD
        rw [if_pos ‹_›, ByteArray.extract_zero_size]
        exact ByteArray.empty_append
    · split at h
      · cases h
      · split at h
        · rename_i h1 h2 h3
          cases h
          have hv := val_num _ h3.1
          unfold hdD
          rw [if_neg (by omega), hv, join2 r _ (by omega)]
        · cases h
theorem byte_join (s : ByteArray) (h : 0 < s.size) (n : Nat) (hn : bt s 0 = n) : ⟨#[UInt8.ofNat n]⟩ ++ s.extract 1 s.size = s := by
  rw [← first_byte s h n hn]
  exact join2 s 1 h
theorem cutK_join (s : ByteArray) (hp : 0 < s.size) (h : (cutK s).1 ≠ 0) : ((cutK s).1 = 1 ∨ (cutK s).1 = 2) ∧ hdK (cutK s).1 (cutK s).2.1 ++ ((cutK s).2.1 ++ (cutK s).2.2) = s := by
  have hb := bt_bd s 0
  obtain ⟨m, hm⟩ : ∃ m : Nat, bt s 0 = m := ⟨(bt s 0).toNat, by omega⟩
  revert h
  unfold cutK
  split
  · rename_i h1
    intro _
    refine ⟨.inl rfl, ?_⟩
    have hbare : bare (s.extract 0 1) = true := by
      rw [bare_ext s 0 1 hp, decide_eq_true h1]
      rfl
    unfold hdK
    dsimp only
    rw [if_neg (by decide), hbare, if_pos rfl, join2 s 1 hp]
    exact ByteArray.empty_append
  · rename_i h1
    split
    · rename_i h2
      split
      · intro h; exact absurd rfl h
      · rename_i d n hc
        split
        · intro h; exact absurd rfl h
        · rename_i hnb
          intro _
          refine ⟨.inl rfl, ?_⟩
          obtain ⟨q1, q2, q3⟩ := cutAt_join hc
          unfold hdK
          dsimp only
          rw [if_neg (by decide), if_neg hnb, q3, hdB_parts, ByteArray.append_assoc, q2, q1, hm]
          exact byte_join s hp _ (by omega)
    · rename_i h2
      split
      · intro h; exact absurd rfl h
      · rename_i d n hc
        intro _
        refine ⟨.inr rfl, ?_⟩
        obtain ⟨q1, q2, q3⟩ := cutAt_join hc
        unfold hdK
        dsimp only
        rw [if_pos rfl, q3, hdB_parts, ByteArray.append_assoc, q2, q1, hm]
        exact byte_join s hp _ (by omega)
end Go.Proofs.YtmefanagpkbjeaaDoor
namespace Go.Proofs.YtmefanagpkbjeaaDoor
open Go.RowKit Go.Shelf Go.Sort

/-- The kind of an item, and what stands behind its head. -/
def kI : It → Nat | .mk l _ _ => if l then 2 else 1
def bI : It → ByteArray | .mk l t xs => if l then encIs xs else t
theorem encI_eq (x : It) : encI x = hdK (kI x) (bI x) ++ bI x := by
  obtain ⟨l, t, xs⟩ := x
  cases l with
  | true => rfl
  | false =>
    show (if bare t then t else hdB 128 t.size ++ t) = (if bare t then ⟨#[]⟩ else hdB 128 t.size) ++ t
    cases bare t with
    | true => exact (ByteArray.empty_append).symm
    | false => rfl
theorem hdK_pos (k : Nat) (b : ByteArray) : 0 < (hdK k b ++ b).size := by
  unfold hdK
  rw [ByteArray.size_append]
  split
  · rw [hdB_hsz]; unfold hsz; split <;> omega
  · split
    · rename_i h
      unfold bare at h
      rw [Bool.and_eq_true] at h
      have := of_decide_eq_true h.1
      omega
    · rw [hdB_hsz]; unfold hsz; split <;> omega
theorem cutK_hd (k : Nat) (hk : k = 1 ∨ k = 2) (b r : ByteArray) (hb : b.size < 18446744073709551616) : cutK (hdK k b ++ b ++ r) = (k, b, r) := by
  unfold hdK
  rw [ByteArray.append_assoc]
  rcases hk with rfl | rfl
  · rw [if_neg (by decide)]
    cases hn : bare b with
    | true =>
      rw [if_pos rfl, show ((⟨#[]⟩ : ByteArray) ++ (b ++ r)) = b ++ r from ByteArray.empty_append]
      exact cut_bare b r hn
    | false =>
      rw [if_neg (by decide)]
      exact cut_text b r hb hn
  · rw [if_pos rfl]
    exact cut_list b r hb
theorem kI_or (x : It) : kI x = 1 ∨ kI x = 2 := by
  obtain ⟨l, t, xs⟩ := x
  cases l
  · exact .inl rfl
  · exact .inr rfl
theorem ps_enc (x : It) (r : ByteArray) (hb : (bI x).size < 18446744073709551616) : ps (encI x ++ r) = (kI x, bI x) :: ps r := by
  have hc := cutK_hd (kI x) (kI_or x) (bI x) r hb
  have hp := hdK_pos (kI x) (bI x)
  rw [encI_eq, ps_eq, hc, if_neg (by rw [ByteArray.size_append]; omega), if_neg (by have := kI_or x; dsimp only; omega)]
theorem encIs_le : ∀ (xs : List It) (x : It), x ∈ xs → (encI x).size ≤ (encIs xs).size
  | y :: r, x, h => by
    show _ ≤ (encI y ++ encIs r).size
    rw [ByteArray.size_append]
    rcases List.mem_cons.1 h with rfl | h
    · omega
    · have := encIs_le r x h
      omega
theorem bI_le (x : It) : (bI x).size ≤ (encI x).size := by
  rw [encI_eq, ByteArray.size_append]
  omega
theorem rgIs_mem : ∀ (xs : List It) (x : It), rgIs xs = true → x ∈ xs → rgI x = true
  | y :: r, x, h, hx => by
    have h' : (rgI y && rgIs r) = true := h
    rw [Bool.and_eq_true] at h'
    rcases List.mem_cons.1 hx with rfl | hx
    · exact h'.1
    · exact rgIs_mem r x h'.2 hx
theorem dec_list (F : Nat) : ∀ xs : List It, (encIs xs).size < 18446744073709551616 → (∀ x, x ∈ xs → one F (kI x, bI x) = some x) → comb (one F) (ps (encIs xs)) = some xs
  | [], _, _ => by
    show comb (one F) (ps ⟨#[]⟩) = _
    rw [ps_eq, if_pos (show (⟨#[]⟩ : ByteArray).size = 0 from rfl)]
    rfl
  | x :: r, hs, h => by
    have hs' : (encI x ++ encIs r).size < 18446744073709551616 := hs
    rw [ByteArray.size_append] at hs'
    have hb := bI_le x
    show comb (one F) (ps (encI x ++ encIs r)) = _
    rw [ps_enc x _ (by omega), comb_cons, h x (List.mem_cons_self ..), dec_list F r (by omega) (fun y hy => h y (List.mem_cons_of_mem _ hy))]
/-- What stands for an item is read as it was. -/
theorem one_enc : ∀ (m : Nat) (x : It), dprI m x = false → rgI x = true → (encI x).size < 18446744073709551616 → ∀ F, m ≤ F → one F (kI x, bI x) = some x
  | 0, x, h, _, _, _, _ => by cases h
  | m + 1, .mk l t xs, hd, hr, hs, F, hF => by
    have hr' : ((if l then decide (t.size = 0) else decide (xs.length = 0)) && rgIs xs) = true := hr
    rw [Bool.and_eq_true] at hr'
    cases l with
    | false =>
      have h0 : xs.length = 0 := of_decide_eq_true hr'.1
      obtain rfl := List.length_eq_zero_iff.1 h0
      rfl
    | true =>
      have h0 : t.size = 0 := of_decide_eq_true hr'.1
      rw [size_0 t h0]
      have hs' := bI_le (.mk true t xs)
      have hs2 : (encIs xs).size ≤ (encI (.mk true t xs)).size := hs'
      match F, hF with
      | F + 1, hF =>
        have hd' : xs.any (dprI m) = false := hd
        have : decF (F + 1) (encIs xs) = some xs := by
          rw [decF_succ]
          refine dec_list F xs (by omega) fun x hx => ?_
          have hle := encIs_le xs x hx
          refine one_enc m x ?_ (rgIs_mem xs x hr'.2 hx) (by omega) F (by omega)
          have := List.any_eq_false.1 hd' x hx
          simpa using this
        show (decF (F + 1) (encIs xs)).map (It.mk true ⟨#[]⟩) = _
        rw [this]
        rfl
theorem dec_enc {x : It} (h : eE x = 0) : decF 65537 (encI x) = some [x] := by
  obtain ⟨h1, h2, h3⟩ := eE_0 h
  have := dec_list 65536 [x] (by show (encI x ++ ⟨#[]⟩).size < _; rw [ByteArray.size_append]; show (encI x).size + 0 < _; omega) (fun y hy => by
    rw [List.mem_singleton] at hy
    subst hy
    exact one_enc 12 y h1 h2 (by omega) 65536 (by omega))
  rw [decF_succ]
  rw [show encIs [x] = encI x from ByteArray.append_empty] at this
  exact this
/-- What is read is written so again. -/
theorem enc_step (F : Nat) (hF : ∀ s its, s.size < F → decF F s = some its → encIs its = s ∧ rgIs its = true) : ∀ (n : Nat) (s : ByteArray), s.size ≤ n → s.size ≤ F → ∀ its, comb (one F) (ps s) = some its → encIs its = s ∧ rgIs its = true
  | n, s, hn, hsF, its, h => by
    rw [ps_eq] at h
    by_cases h0 : s.size = 0
    · rw [if_pos h0] at h
      cases h
      exact ⟨(size_0 s h0).symm, rfl⟩
    · rw [if_neg h0] at h
      by_cases h1 : (cutK s).1 = 0
      · rw [if_pos h1] at h
        cases h
      · rw [if_neg h1] at h
        obtain ⟨hk, hj⟩ := cutK_join s (by omega) h1
        have hlt := cutK_lt s (by omega) h1
        generalize cutK s = q at h hk hj hlt
        obtain ⟨k, b, r⟩ := q
        dsimp only at h hk hj hlt
        rw [comb_cons] at h
        cases ho : one F (k, b) with
        | none => rw [ho] at h; cases h
        | some x =>
          cases hr : comb (one F) (ps r) with
          | none => rw [ho, hr] at h; cases h
          | some l =>
            rw [ho, hr] at h
            cases h
            match n, hn with
            | 0, hn => omega
            | n + 1, hn =>
              obtain ⟨q1, q2⟩ := enc_step F hF n r (by omega) (by omega) l hr
              have hx : encI x = hdK k b ++ b ∧ rgI x = true := by
                rcases hk with rfl | rfl
                · cases ho
                  exact ⟨encI_eq (.mk false b []), rfl⟩
                · have ho' : (decF F b).map (It.mk true ⟨#[]⟩) = some x := ho
                  cases hd : decF F b with
                  | none => rw [hd] at ho'; cases ho'
                  | some l' =>
                    rw [hd] at ho'
                    cases ho'
                    have hb2 := hlt.2.1 rfl
                    obtain ⟨p1, p2⟩ := hF b l' (by omega) hd
                    refine ⟨?_, ?_⟩
                    · rw [encI_eq]
                      show hdK 2 (encIs l') ++ encIs l' = _
                      rw [p1]
                    · show (true && rgIs l') = true
                      rw [p2]
                      rfl
              refine ⟨?_, ?_⟩
              · show encI x ++ encIs l = s
                rw [hx.1, q1, ByteArray.append_assoc, hj]
              · show (rgI x && rgIs l) = true
                rw [hx.2, q2]
                rfl
theorem enc_all : ∀ (F : Nat) (s : ByteArray) (its : List It), s.size < F → decF F s = some its → encIs its = s ∧ rgIs its = true
  | 0, s, its, h, _ => by omega
  | F + 1, s, its, h, hd => enc_step F (enc_all F) s.size s (Nat.le_refl _) (by omega) its (by rw [decF_succ] at hd; exact hd)
theorem enc_dec {s : ByteArray} {y : It} (hs : s.size ≤ 65536) (h : decF 65537 s = some [y]) : encI y = s ∧ rgI y = true := by
  obtain ⟨h1, h2⟩ := enc_all 65537 s [y] (by omega) h
  rw [show encIs [y] = encI y from ByteArray.append_empty] at h1
  have h3 : (rgI y && true) = true := h2
  rw [Bool.and_true] at h3
  exact ⟨h1, h3⟩
/-- Bytes of an item with more behind them are no one's. -/
theorem dec_more {x : It} (h : eE x = 0) (more : ByteArray) (hm : 0 < more.size) (y : It) : decF 65537 (encI x ++ more) ≠ some [y] := by
  intro hd
  obtain ⟨h1, h2, h3⟩ := eE_0 h
  have hb := bI_le x
  rw [decF_succ, ps_enc x more (by omega), comb_cons] at hd
  cases ho : one 65536 (kI x, bI x) with
  | none => rw [ho] at hd; cases hd
  | some z =>
    cases hr : comb (one 65536) (ps more) with
    | none => rw [ho, hr] at hd; cases hd
    | some l =>
      rw [ho, hr] at hd
      cases hd
      rw [ps_eq, if_neg (by omega)] at hr
      split at hr
      · cases hr
      · rw [comb_cons] at hr
        cases h7 : one 65536 ((cutK more).1, (cutK more).2.1) <;> cases h8 : comb (one 65536) (ps (cutK more).2.2) <;> rw [h7, h8] at hr <;> cases hr
mutual
def tbI : It → Nat
  | .mk _ t xs => t.size + 9 + tbIs xs
def tbIs : List It → Nat
  | [] => 0
  | x :: r => tbI x + tbIs r
end
mutual
theorem tb_er : ∀ x, tb x = tbI (er x)
  | .mk l t a c xs => by show t.size + 9 + tbs xs = t.size + 9 + tbIs (ers xs); rw [tbs_er xs]
theorem tbs_er : ∀ xs, tbs xs = tbIs (ers xs)
  | [] => rfl
  | x :: r => by show tb x + tbs r = tbI (er x) + tbIs (ers r); rw [tb_er x, tbs_er r]
end
mutual
theorem tb_enc : ∀ x, rgI x = true → tbI x ≤ 10 * (encI x).size
  | .mk l t xs, h => by
    have h' : ((if l then decide (t.size = 0) else decide (xs.length = 0)) && rgIs xs) = true := h
    rw [Bool.and_eq_true] at h'
    have hx := tbs_enc xs h'.2
    have hp := hdK_pos (kI (.mk l t xs)) (bI (.mk l t xs))
    rw [encI_eq]
    rw [ByteArray.size_append] at hp ⊢
    cases l with
    | true =>
      have h0 : t.size = 0 := of_decide_eq_true h'.1
      have hh : 0 < (hdK (kI (.mk true t xs)) (bI (.mk true t xs))).size := by
        show 0 < (hdB 192 (encIs xs).size).size
        rw [hdB_hsz]; unfold hsz; split <;> omega
      have e : (bI (.mk true t xs)).size = (encIs xs).size := rfl
      show t.size + 9 + tbIs xs ≤ _
      omega
    | false =>
      have h0 : xs.length = 0 := of_decide_eq_true h'.1
      obtain rfl := List.length_eq_zero_iff.1 h0
      have e : (bI (.mk false t [])).size = t.size := rfl
      show t.size + 9 + 0 ≤ _
      omega
theorem tbs_enc : ∀ xs, rgIs xs = true → tbIs xs ≤ 10 * (encIs xs).size
  | [], _ => Nat.zero_le _
  | x :: r, h => by
    have h' : (rgI x && rgIs r) = true := h
    rw [Bool.and_eq_true] at h'
    have h1 := tb_enc x h'.1
    have h2 := tbs_enc r h'.2
    show tbI x + tbIs r ≤ 10 * (encI x ++ encIs r).size
    rw [ByteArray.size_append]
    omega
end
end Go.Proofs.YtmefanagpkbjeaaDoor
namespace Go.Proofs.YtmefanagpkbjeaaDoor
open Go.RowKit Go.Shelf Go.Sort

theorem back_item {x y : Im} {f : Int} (h : encE x = 0) (hd : DecR (encS x) y f) : f = 0 ∧ er y = er x := by
  rw [encE_er] at h
  have hs : encS x = encI (er x) := by rw [encS_er]; unfold eS; rw [if_pos h]
  obtain ⟨h1, h2, h3⟩ := eE_0 h
  have hdec := dec_enc h
  rw [hs] at hd
  rcases hd with ⟨k1, _, _⟩ | ⟨_, k2, _, _⟩ | ⟨_, y', k2, k3⟩
  · omega
  · exact absurd hdec (k2 _)
  · have he : er y' = er x := by
      rw [hdec] at k2
      injection k2 with k2
      injection k2 with k2
      exact k2.symm
    rcases k3 with ⟨k4, _, _⟩ | ⟨k4, rfl, rfl⟩
    · rw [deep_er, he, h1] at k4
      cases k4
    · exact ⟨rfl, he⟩
theorem back_bytes {s : ByteArray} {z : Im} (hd : DecR s z 0) : encE z = 0 ∧ encS z = s := by
  rcases hd with ⟨_, k1, _⟩ | ⟨_, _, k1, _⟩ | ⟨k0, y, k2, k3⟩
  · cases k1
  · cases k1
  · rcases k3 with ⟨_, k4, _⟩ | ⟨k4, _, rfl⟩
    · cases k4
    · obtain ⟨q1, q2⟩ := enc_dec k0 k2
      have h0 : eE (er z) = 0 := by
        unfold eE
        rw [deep_er] at k4
        rw [k4, q2, q1]
        simp only [Bool.false_eq_true, if_false, if_true]
        rw [if_neg (by omega)]
      rw [encE_er, encS_er]
      refine ⟨h0, ?_⟩
      unfold eS
      rw [if_pos h0, q1]
theorem decR_tb {s : ByteArray} {z : Im} {g : Int} (hd : DecR s z g) : tb z < 10000000 := by
  rcases hd with ⟨_, _, rfl⟩ | ⟨_, _, _, rfl⟩ | ⟨k0, y, k2, k3⟩
  · show 9 < _; decide
  · show 9 < _; decide
  · rcases k3 with ⟨_, _, rfl⟩ | ⟨_, _, rfl⟩
    · show 9 < _; decide
    · obtain ⟨q1, q2⟩ := enc_dec k0 k2
      have := tb_enc _ q2
      rw [q1] at this
      rw [tb_er]
      omega
theorem tb_cnt (x : Im) : cnt x ≤ tb x := cnt_tb (cnt x) x (Nat.le_refl _)
/-- An item's box, wherever. -/
theorem it_new (W : World) (x : Im) : ItIn W.heap.size x (W.alloc (.cells #[.bool x.l, .string x.t, x.sl] 70)) := World.alloc_heap_new W _
theorem be_new (W : World) (o : Obj) : Below W.heap.size W (W.alloc o) := (Below.refl _ W).alloc (Nat.le_refl _) _

end Go.Proofs.YtmefanagpkbjeaaDoor
namespace Go.Proofs.YtmefanagpkbjeaaDoor
open Go.RowKit Go.Shelf Go.Sort

theorem rgIs_take : ∀ (xs : List It) (k : Nat) (x : It), xs[k]? = some x → rgIs (xs.take (k + 1)) = (rgIs (xs.take k) && rgI x)
  | a :: r, 0, x, h => by
    cases h
    show (rgI a && true) = (true && rgI a)
    rw [Bool.and_true, Bool.true_and]
  | a :: r, k + 1, x, h => by
    show (rgI a && rgIs (r.take (k + 1))) = ((rgI a && rgIs (r.take k)) && rgI x)
    rw [rgIs_take r k x h, Bool.and_assoc]
  | [], _, _, h => by cases h
theorem rgIs_false : ∀ (xs : List It) (k : Nat), rgIs (xs.take k) = false → rgIs xs = false
  | [], k, h => by
    have e : ([] : List It).take k = [] := List.take_nil
    rw [e] at h
    cases h
  | a :: r, 0, h => by cases h
  | a :: r, k + 1, h => by
    have h' : (rgI a && rgIs (r.take k)) = false := h
    show (rgI a && rgIs r) = false
    cases hs : rgI a with
    | false => rfl
    | true =>
      rw [hs, Bool.true_and] at h'
      rw [rgIs_false r k h']
      rfl
def rg0 (l : Bool) (t : ByteArray) (xs : List Im) : Bool := if l then decide (t.size = 0) else decide (xs.length = 0)
theorem rgI_mk (l : Bool) (t : ByteArray) (a : Option Addr) (c : Nat) (xs : List Im) : rgI (er (.mk l t a c xs)) = (rg0 l t xs && rgIs (ers xs)) := by
  show ((if l then decide (t.size = 0) else decide ((ers xs).length = 0)) && rgIs (ers xs)) = _
  rw [ers_len]
  rfl

set_option maxRecDepth 20000 in
set_option maxHeartbeats 2000000 in
theorem rright_any : ∀ (M : Nat) (x : Im), cnt x ≤ M → cnt x < 100000000000000000 → ∀ (n : Nat) (w : World), n ≤ w.heap.size → inMem n w x →
    Calls Tryd.prog 90 #[x.val] w fun e w' => e = .returned (.bool (rgI (er x))) ∧ Below w.heap.size w w'
  | 0, x, h, _, _, _, _, _ => by rw [cnt_eq] at h; omega
  | M + 1, x, hM, hcnt, n, w, hn, hm => by
    have IH := fun (j : Nat) (a : Im) (ha : x.xs[j]? = some a) (w : World) hn hm => rright_any M a (by have := cnts_at x.xs j a ha; rw [cnt_eq] at hM; omega) (by have := cnts_at x.xs j a ha; rw [cnt_eq] at hcnt; omega) n w hn hm
    rw [inMem_eq] at hm
    have hl := len_cnts x.xs
    rw [cnt_eq] at hcnt
    obtain ⟨l, t, a, c, xs⟩ := x
    replace hm : rowMem n w a 0 xs := hm
    replace hl : xs.length ≤ cnts xs := hl
    replace hcnt : cnts xs + 1 < 100000000000000000 := hcnt
    have IH' : ∀ (j : Nat) (p : Im), xs[j]? = some p → ∀ w : World, n ≤ w.heap.size → inMem n w p → Calls Tryd.prog 90 #[p.val] w fun e w' => e = .returned (.bool (rgI (er p))) ∧ Below w.heap.size w w' := IH
    clear IH hM
    rw [rgI_mk]
    show Calls Tryd.prog 90 #[.agg #[.bool l, .string t, .slice a xs.length c]] w _
    have A1 : Below w.heap.size w (w.alloc (.cells #[.bool l, .string t, .slice a xs.length c] 70)) := be_new w _
    have hbx : ItIn w.heap.size (.mk l t a c xs) (w.alloc (.cells #[.bool l, .string t, .slice a xs.length c] 70)) := it_new w (.mk l t a c xs)
    have hloop : rg0 l t xs = true → Calls Tryd.prog 90 #[.agg #[.bool l, .string t, .slice a xs.length c]] w fun e w' => e = .returned (.bool (rg0 l t xs && rgIs (ers xs))) ∧ Below w.heap.size w w' := by
      intro hr
      rw [hr, Bool.true_and]
      obtain ⟨N, hN⟩ : ∃ N, xs.length = N := ⟨_, rfl⟩
      unfold rg0 at hr
      rw [hN] at hl A1 hbx hr ⊢
      have HN : Hid (xs.length = N) := hN
      clear hN
      cases l with
      | true =>
        have h0 := empty_list t (of_decide_eq_true hr)
        clear hr
        go_enter Tryd.func90, Tryd.ntmps90
        go_wp2_with fail
        refine wpOf (fun W => Below w.heap.size w W ∧ ItIn w.heap.size (.mk true t a c xs) W) ⟨A1, hbx⟩ ?_
        rintro w1 ⟨B1, hb1⟩
        clear hbx A1
        obtain ⟨z, hz⟩ : ∃ z, w.heap.size = z := ⟨_, rfl⟩
        rw [hz] at B1 hb1 hn ⊢
        go_loopg [3] N (fun gk i wr => ∃ k : Nat, k + gk = N ∧ i = .int .i64 k ∧ rgIs ((ers xs).take k) = true ∧ Below z w wr ∧ ItIn z (.mk true t a c xs) wr)
        case atStart => exact ⟨0, by omega, rfl, rfl, B1, hb1⟩
        case round =>
          obtain ⟨k, hk, rfl, hsm, BW, hbx⟩ := hrel
          have hzr := hbx.lt
          have d2 : wr.cell? ⟨z, 2, none⟩ = some (.slice a N c) := by rw [Lib.cell_of_heap hbx, ← HN.out]; rfl
          have hNN := HN.out
          by_cases hlt : k < N
          · have l1 : (k : Int) < N := by omega
            obtain ⟨p, hp⟩ : ∃ y, xs[k]? = some y := ⟨xs[k]'(by omega), List.getElem?_eq_getElem (by omega)⟩
            obtain ⟨⟨b, o, hb, rfl, c0, c1, c2⟩, hp2⟩ := row_at xs 0 hm k p hp
            have hp3 := inMem_below (by rw [hz]; exact hn) (BW.mono hn) p hp2
            have hbz : b < z := by omega
            replace c0 := (BW.cell (p := ⟨b, _, none⟩) hbz).trans c0
            replace c1 := (BW.cell (p := ⟨b, _, none⟩) hbz).trans c1
            replace c2 := (BW.cell (p := ⟨b, _, none⟩) hbz).trans c2
            obtain ⟨r, hr⟩ : ∃ p, o + 3 * k = p := ⟨_, rfl⟩
            rw [show o + 3 * (0 + k) = r by omega] at c0 c1 c2
            have hr2 : o + k * 3 = r := by omega
            have KS := IH' k p hp
            have hst := rgIs_take (ers xs) k (er p) (ers_at xs k p hp)
            rw [hsm, Bool.true_and] at hst
            obtain ⟨dy, hdy⟩ : ∃ q', rgI (er p) = q' := ⟨_, rfl⟩
            rw [hdy] at KS hst
            have wk : IntKind.i64.wrap ((k : Int) + 1) = ((k + 1 : Nat) : Int) := by rw [IntKind.wrap_i64]; omega
            clear hdy hp2 hNN
            obtain ⟨pl, pt, pa, pc, px⟩ := p
            simp only [Im.l, Im.t, Im.sl, Im.a, Im.xs, Im.c] at c0 c1 c2
            have HX : Hid (_ ∧ _ ∧ _) := ⟨hst, BW, hbx⟩
            clear hst hsm BW hbx
            dsimp only [Im.val, Im.l, Im.t, Im.sl, Im.a, Im.xs, Im.c] at KS
            go_wp2_with fail
            refine (KS _ (by omega) hp3).mono ?_
            rintro e w3 ⟨rfl, B3⟩
            clear KS hp3 c0 c1 c2
            cases dy with
            | false =>
              go_wp2
              go_ret
              refine ⟨?_, by rw [hz]; exact belowStep HX.out.2.1 (by omega) B3⟩
              rw [rgIs_false _ _ HX.out.1]
              rfl
            | true =>
              go_wp2
              go_roundg (gk - 1)
              case measure => omega
              case rel =>
                obtain ⟨hst, BW, hbx⟩ := HX.out
                exact ⟨k + 1, by omega, by first | rfl | (congr 1; omega), hst, belowStep BW (by omega) B3, (B3.block z hzr).trans hbx⟩
          · have hk2 : k = N := by omega
            have l1 : ¬ (k : Int) < N := by omega
            rw [hk2, List.take_of_length_le (by rw [ers_len]; omega)] at hsm
            have HX : Hid _ := hsm
            clear hsm hNN
            go_wp2
            go_ret
            exact ⟨by rw [HX.out]; rfl, BW⟩
      | false =>
        have h0 : N = 0 := of_decide_eq_true hr
        subst h0
        clear hr
        go_enter Tryd.func90, Tryd.ntmps90
        obtain rfl : xs = [] := List.length_eq_zero_iff.1 HN.out
        go_wp2_with fail
        refine wpOf (fun W => Below w.heap.size w W ∧ ItIn w.heap.size (.mk false t a c []) W) ⟨A1, hbx⟩ ?_
        rintro w1 ⟨B1, hb1⟩
        clear hbx A1
        obtain ⟨z, hz⟩ : ∃ z, w.heap.size = z := ⟨_, rfl⟩
        rw [hz] at B1 hb1 hn ⊢
        go_loopg [3] 0 (fun gk i wr => i = .int .i64 0 ∧ Below z w wr ∧ ItIn z (.mk false t a c []) wr)
        case atStart => exact ⟨rfl, B1, hb1⟩
        case round =>
          obtain ⟨rfl, BW, hbx⟩ := hrel
          have d2 : wr.cell? ⟨z, 2, none⟩ = some (.slice a 0 c) := by rw [Lib.cell_of_heap hbx]; rfl
          go_wp2
          go_ret
          exact ⟨rfl, by rw [hz]; exact BW⟩
    cases hr : rg0 l t xs with
    | true => rw [hr] at hloop; exact hloop rfl
    | false =>
      clear hloop hbx
      rw [Bool.false_and]
      unfold rg0 at hr
      cases l with
      | true =>
        have h0 : ¬ t.size = 0 := of_decide_eq_false hr
        have h1 := ne_empty t (by omega)
        clear hr
        go_enter Tryd.func90, Tryd.ntmps90
        go_wp2
        go_ret
        exact ⟨rfl, A1⟩
      | false =>
        have h0 : ¬ xs.length = 0 := of_decide_eq_false hr
        have h1 : (0 : Int) < xs.length := by omega
        clear hr
        go_enter Tryd.func90, Tryd.ntmps90
        go_wp2
        go_ret
        exact ⟨rfl, A1⟩
end Go.Proofs.YtmefanagpkbjeaaDoor
namespace Go.Proofs.YtmefanagpkbjeaaDoor
open Go.RowKit Go.Shelf Go.Sort

set_option maxRecDepth 20000 in
set_option maxHeartbeats 1000000 in
theorem rhead_any (base size : Nat) (hb : base ≤ 192) (hs : size < 1000000000000000000) (w : World) :
    Calls Tryd.prog 124 #[.int .i64 size, .int .u8 base] w fun e w' => e = .returned (.string (hdB base size)) ∧ Below w.heap.size w w' := by
  by_cases h : size < 56
  · have l : (size : Int) < 56 := by omega
    obtain ⟨d, hd⟩ : ∃ d, base + size = d := ⟨_, rfl⟩
    have hh : Hid (hdB base size = ⟨#[UInt8.ofNat d]⟩) := by unfold hdB; rw [if_pos h, hd]; exact rfl
    have w0 : IntKind.u8.wrap (size : Int) = size := by rw [IntKind.wrap_u8]; omega
    have w1 : IntKind.u8.wrap ((base : Int) + size) = d := by rw [IntKind.wrap_u8]; omega
    have w2 : (base : Int) + size = d := by omega
    have w3 : IntKind.u8.wrap (d : Int) = d := by rw [IntKind.wrap_u8]; omega
    have w4 : (d : Int) % 256 = d := by omega
    have w5 : (size : Int) % 256 = size := by omega
    have hcv := conv_one w d (by omega)
    clear hd
    go_enter Tryd.func124, Tryd.ntmps124
    go_wp2
    go_ret
    exact ⟨by rw [hh.out]; rfl, (Below.refl _ w).alloc (Nat.le_refl _) _⟩
  · have l : ¬ (size : Int) < 56 := by omega
    have hw : IntKind.u64.wrap (size : Int) = size := by rw [IntKind.wrap_u64]; omega
    have KN : Hid (∀ w : World, _) := fun w : World => rnumber_any size (by omega) w
    have hz : (numOf size).size = blen size := by8_size _ _
    have hm8 := blen_le size 8 (by omega)
    obtain ⟨d, hd⟩ : ∃ d, base + 55 + blen size = d := ⟨_, rfl⟩
    obtain ⟨s, hs'⟩ : ∃ s, numOf size = s := ⟨_, rfl⟩
    obtain ⟨one, hone, hos⟩ : ∃ x : ByteArray, ⟨#[UInt8.ofNat d]⟩ = x ∧ x.size = 1 := ⟨_, rfl, rfl⟩
    have hh : Hid (hdB base size = one ++ s) := by unfold hdB; rw [if_neg h, hd, hone, hs']; exact rfl
    rw [hs'] at KN hz
    have hz' : s.size ≤ 8 := by omega
    have hcv : ∀ w : World, _ := fun w => conv_one w d (by omega)
    rw [hone] at hcv
    have w0 : IntKind.u8.wrap (s.size : Int) = s.size := by rw [IntKind.wrap_u8]; omega
    have w5 : (s.size : Int) % 256 = s.size := by omega
    have w6 : IntKind.u8.wrap ((base : Int) + 55) = base + 55 := by rw [IntKind.wrap_u8]; omega
    have w7 : ((base : Int) + 55) % 256 = base + 55 := by omega
    have w2 : (base : Int) + 55 + s.size = d := by omega
    have w1 : IntKind.u8.wrap ((base : Int) + 55 + s.size) = d := by rw [IntKind.wrap_u8]; omega
    have w3 : IntKind.u8.wrap (d : Int) = d := by rw [IntKind.wrap_u8]; omega
    have w4 : (d : Int) % 256 = d := by omega
    have hsz : (one.size : Int) + s.size ≤ 9 := by omega
    clear hd hone hs' hz
    go_enter Tryd.func124, Tryd.ntmps124
    go_wp2_with fail
    refine (KN.out _).mono ?_
    rintro e w1 ⟨rfl, B1⟩
    have hcv1 := hcv w1
    clear hcv
    go_wp2
    go_ret
    exact ⟨by rw [hh.out]; rfl, B1.alloc B1.size _⟩
theorem encIs_take : ∀ (xs : List It) (k : Nat) (x : It), xs[k]? = some x → encIs (xs.take (k + 1)) = encIs (xs.take k) ++ encI x
  | a :: r, 0, x, h => by
    cases h
    show encI a ++ ⟨#[]⟩ = ⟨#[]⟩ ++ encI a
    rw [show encI a ++ ⟨#[]⟩ = encI a from ByteArray.append_empty, show (⟨#[]⟩ : ByteArray) ++ encI a = encI a from ByteArray.empty_append]
  | a :: r, k + 1, x, h => by
    show encI a ++ encIs (r.take (k + 1)) = (encI a ++ encIs (r.take k)) ++ encI x
    rw [encIs_take r k x h, ByteArray.append_assoc]
  | [], _, _, h => by cases h
theorem encIs_take_le : ∀ (xs : List It) (k : Nat), (encIs (xs.take k)).size ≤ (encIs xs).size
  | [], k => by
    have e : ([] : List It).take k = [] := List.take_nil
    rw [e]
    exact Nat.le_refl _
  | a :: r, 0 => Nat.zero_le _
  | a :: r, k + 1 => by
    show (encI a ++ encIs (r.take k)).size ≤ (encI a ++ encIs r).size
    rw [ByteArray.size_append, ByteArray.size_append]
    have := encIs_take_le r k
    omega

set_option maxRecDepth 20000 in
set_option maxHeartbeats 2000000 in
theorem rbytes_any : ∀ (M : Nat) (x : Im), cnt x ≤ M → rgI (er x) = true → tb x < 10000000 → ∀ (n : Nat) (w : World), n ≤ w.heap.size → inMem n w x →
    Calls Tryd.prog 91 #[x.val] w fun e w' => e = .returned (.string (encI (er x))) ∧ Below w.heap.size w w'
  | 0, x, h, _, _, _, _, _, _ => by rw [cnt_eq] at h; omega
  | M + 1, x, hM, hrg, htb, n, w, hn, hm => by
    have hsz := sz_er x hrg
    have hst := sz_tb x (by omega)
    have IH := fun (j : Nat) (a : Im) (ha : x.xs[j]? = some a) (hra : rgI (er a) = true) (w : World) hn hm => rbytes_any M a (by have := cnts_at x.xs j a ha; rw [cnt_eq] at hM; omega) hra (by have := tbs_at x.xs j a ha; rw [tb_eq] at htb; omega) n w hn hm
    rw [inMem_eq] at hm
    have hl := len_tbs x.xs
    rw [tb_eq] at htb
    obtain ⟨l, t, a, c, xs⟩ := x
    replace hm : rowMem n w a 0 xs := hm
    replace hl : xs.length ≤ tbs xs := hl
    replace htb : t.size + 9 + tbs xs < 10000000 := htb
    have IH' : ∀ (j : Nat) (p : Im), xs[j]? = some p → rgI (er p) = true → ∀ w : World, n ≤ w.heap.size → inMem n w p → Calls Tryd.prog 91 #[p.val] w fun e w' => e = .returned (.string (encI (er p))) ∧ Below w.heap.size w w' := IH
    clear IH hM
    have hse : (encI (er (.mk l t a c xs))).size < 10000000 := by
      have e : tb (.mk l t a c xs) = t.size + 9 + tbs xs := rfl
      omega
    clear hsz hst
    rw [rgI_mk, Bool.and_eq_true] at hrg
    have A1 : Below w.heap.size w (w.alloc (.cells #[.bool l, .string t, .slice a xs.length c] 70)) := be_new w _
    have hbx : ItIn w.heap.size (.mk l t a c xs) (w.alloc (.cells #[.bool l, .string t, .slice a xs.length c] 70)) := it_new w (.mk l t a c xs)
    cases l with
    | false =>
      show Calls Tryd.prog 91 #[.agg #[.bool false, .string t, .slice a xs.length c]] w fun e w' => e = .returned (.string (if bare t then t else hdB 128 t.size ++ t)) ∧ _
      clear hse
      cases hb : bare t with
      | true =>
        clear hbx
        unfold bare at hb
        rw [Bool.and_eq_true] at hb
        have h1 := of_decide_eq_true hb.1
        have h2 := of_decide_eq_true hb.2
        have l0 : (0 : Int) < t.size := by omega
        have l1 : (t.size : Int) = 1 := by omega
        have g0 := bt_get t 0 (by omega)
        obtain ⟨u, hu⟩ : ∃ u, bt t 0 = u := ⟨_, rfl⟩
        rw [hu] at g0 h2
        clear hb hu
        go_enter Tryd.func91, Tryd.ntmps91
        go_wp2
        go_ret
        exact ⟨rfl, A1⟩
      | false =>
        have KH := fun w => rhead_any 128 t.size (by decide) (by omega) w
        have hhs := hdB_size 128 t.size (by omega)
        obtain ⟨hd, hhd⟩ : ∃ q, hdB 128 t.size = q := ⟨_, rfl⟩
        rw [hhd] at KH hhs ⊢
        have hlen : (hd.size : Int) + t.size ≤ 13000000 := by omega
        have HH : Hid ((if false = true then t else hd ++ t) = hd ++ t) := rfl
        by_cases h1 : t.size = 1
        · have hb2 : ¬ bt t 0 < 128 := fun h => by unfold bare at hb; rw [decide_eq_true h1, decide_eq_true h] at hb; cases hb
          have l0 : (0 : Int) < t.size := by omega
          have l1 : (t.size : Int) = 1 := by omega
          have g0 := bt_get t 0 (by omega)
          obtain ⟨u, hu⟩ : ∃ u, bt t 0 = u := ⟨_, rfl⟩
          rw [hu] at g0 hb2
          clear hb hu
          rw [h1] at KH
          have hq : ¬ 9223372036854775807 < hd.size + 1 := by omega
          go_enter Tryd.func91, Tryd.ntmps91
          go_wp2_with fail
          refine wpOf (fun W => Below w.heap.size w W ∧ ItIn w.heap.size (.mk false t a c xs) W) ⟨A1, hbx⟩ ?_
          rintro w1 ⟨B1, hb1⟩
          clear hbx A1
          obtain ⟨z, hz⟩ : ∃ z, w.heap.size = z := ⟨_, rfl⟩
          rw [hz] at B1 hb1 hn ⊢
          have hzr := hb1.lt
          have G : ∀ (q : Addr) (v : Value), q.block < w1.heap.size → w1.cell? q = some v → ∀ d os, (grow (redrawn w1 d) os).cell? q = some v := fun q v hq hv d os => ((below_regrown w1 d os).cell hq).trans hv
          have q1 := G ⟨z, 1, none⟩ (.string t) hzr (by rw [Lib.cell_of_heap hb1]; rfl)
          have cH : ∀ d os, Calls Tryd.prog 124 #[.int .i64 1, .int .u8 128] (grow (redrawn w1 d) os) fun e w'' => e = .returned (.string hd) ∧ ∃ p : Regrown, w'' = grow (redrawn w1 p.d) p.os := fun d os => Calls.regrown_of (KH _)
          clear G KH
          refine wp_region_quiet_below (by kernel_rfl) (by kernel_rfl) ?_
          iterate 3 (quiet_step (fail))
          quiet_step (exact cH _ _)
          repeat (quiet_step (fail))
          refine wpQuiet_nil ?_
          rintro w3 hw3
          have B3 : Below w1.heap.size w1 w3 := by
            obtain ⟨p, rfl⟩ := hw3
            exact below_regrown _ _ _
          clear hw3 cH q1
          go_wp2
          go_ret
          exact ⟨rfl, belowStep B1 (by omega) B3⟩
        · have l1 : ¬ (t.size : Int) = 1 := by omega
          have l2 : ((t.size : Int) == 1) = false := by rw [beq_eq_false_iff_ne]; exact l1
          have hq : ¬ 9223372036854775807 < hd.size + t.size := by omega
          clear hb
          go_enter Tryd.func91, Tryd.ntmps91
          go_wp2_with fail
          refine wpOf (fun W => Below w.heap.size w W ∧ ItIn w.heap.size (.mk false t a c xs) W) ⟨A1, hbx⟩ ?_
          rintro w1 ⟨B1, hb1⟩
          clear hbx A1
          obtain ⟨z, hz⟩ : ∃ z, w.heap.size = z := ⟨_, rfl⟩
          rw [hz] at B1 hb1 hn ⊢
          have hzr := hb1.lt
          have G : ∀ (q : Addr) (v : Value), q.block < w1.heap.size → w1.cell? q = some v → ∀ d os, (grow (redrawn w1 d) os).cell? q = some v := fun q v hq hv d os => ((below_regrown w1 d os).cell hq).trans hv
          have q1 := G ⟨z, 1, none⟩ (.string t) hzr (by rw [Lib.cell_of_heap hb1]; rfl)
          have cH : ∀ d os, Calls Tryd.prog 124 #[.int .i64 t.size, .int .u8 128] (grow (redrawn w1 d) os) fun e w'' => e = .returned (.string hd) ∧ ∃ p : Regrown, w'' = grow (redrawn w1 p.d) p.os := fun d os => Calls.regrown_of (KH _)
          clear G KH
          refine wp_region_quiet_below (by kernel_rfl) (by kernel_rfl) ?_
          iterate 3 (quiet_step (fail))
          quiet_step (exact cH _ _)
          repeat (quiet_step (fail))
          refine wpQuiet_nil ?_
          rintro w3 hw3
          have B3 : Below w1.heap.size w1 w3 := by
            obtain ⟨p, rfl⟩ := hw3
            exact below_regrown _ _ _
          clear hw3 cH q1
          go_wp2
          go_ret
          exact ⟨rfl, belowStep B1 (by omega) B3⟩
    | true =>
      have ht0 : t.size = 0 := of_decide_eq_true hrg.1
      have KH := fun w => rhead_any 192 (encIs (ers xs)).size (by decide) (by
        have : (encI (er (.mk true t a c xs))).size = (hdB 192 (encIs (ers xs)).size ++ encIs (ers xs)).size := rfl
        rw [ByteArray.size_append] at this
        omega) w
      have hsz : (encIs (ers xs)).size < 10000000 := by
        have : (encI (er (.mk true t a c xs))).size = (hdB 192 (encIs (ers xs)).size ++ encIs (ers xs)).size := rfl
        rw [ByteArray.size_append] at this
        omega
      have hhs := hdB_size 192 (encIs (ers xs)).size (by omega)
      show Calls Tryd.prog 91 #[.agg #[.bool true, .string t, .slice a xs.length c]] w fun e w' => e = .returned (.string (hdB 192 (encIs (ers xs)).size ++ encIs (ers xs))) ∧ _
      obtain ⟨hd, hhd⟩ : ∃ q, hdB 192 (encIs (ers xs)).size = q := ⟨_, rfl⟩
      rw [hhd] at KH hhs ⊢
      clear hhd hse
      obtain ⟨N, hN⟩ : ∃ N, xs.length = N := ⟨_, rfl⟩
      rw [hN] at A1 hbx hl ⊢
      have hrs := hrg.2
      clear hrg
      have HN : Hid (xs.length = N) := hN
      clear hN
      go_enter Tryd.func91, Tryd.ntmps91
      go_wp2_with fail
      refine wpOf (fun W => Below w.heap.size w W ∧ ItIn w.heap.size (.mk true t a c xs) W) ⟨A1, hbx⟩ ?_
      rintro w1 ⟨B1, hb1⟩
      clear hbx A1
      obtain ⟨z, hz⟩ : ∃ z, w.heap.size = z := ⟨_, rfl⟩
      rw [hz] at B1 hb1 hn ⊢
      go_loopg [3, 4] N (fun gk v i wr => ∃ k : Nat, k + gk = N ∧ v = .string (encIs ((ers xs).take k)) ∧ i = .int .i64 k ∧ Below z w wr ∧ ItIn z (.mk true t a c xs) wr)
      case atStart => exact ⟨0, by omega, rfl, rfl, B1, hb1⟩
      case round =>
        obtain ⟨k, hk, rfl, rfl, BW, hbx⟩ := hrel
        have hzr := hbx.lt
        have d2 : wr.cell? ⟨z, 2, none⟩ = some (.slice a N c) := by rw [Lib.cell_of_heap hbx, ← HN.out]; rfl
        have hNN := HN.out
        by_cases hlt : k < N
        · have l1 : (k : Int) < N := by omega
          obtain ⟨p, hp⟩ : ∃ y, xs[k]? = some y := ⟨xs[k]'(by omega), List.getElem?_eq_getElem (by omega)⟩
          obtain ⟨⟨b, o, hb, rfl, c0, c1, c2⟩, hp2⟩ := row_at xs 0 hm k p hp
          have hp3 := inMem_below (by rw [hz]; exact hn) (BW.mono hn) p hp2
          have hbz : b < z := by omega
          replace c0 := (BW.cell (p := ⟨b, _, none⟩) hbz).trans c0
          replace c1 := (BW.cell (p := ⟨b, _, none⟩) hbz).trans c1
          replace c2 := (BW.cell (p := ⟨b, _, none⟩) hbz).trans c2
          obtain ⟨r, hr⟩ : ∃ p, o + 3 * k = p := ⟨_, rfl⟩
          rw [show o + 3 * (0 + k) = r by omega] at c0 c1 c2
          have hr2 : o + k * 3 = r := by omega
          have hpe := ers_at xs k p hp
          have KS := IH' k p hp (rgIs_mem _ _ hrs (List.mem_of_getElem? hpe))
          have hst := encIs_take (ers xs) k (er p) hpe
          have hle := encIs_take_le (ers xs) (k + 1)
          rw [hst, ByteArray.size_append] at hle
          obtain ⟨s1, hs1⟩ : ∃ q, encIs ((ers xs).take k) = q := ⟨_, rfl⟩
          obtain ⟨s2, hs2⟩ : ∃ q, encI (er p) = q := ⟨_, rfl⟩
          rw [hs1, hs2] at hst hle
          rw [hs2] at KS
          rw [hs1]
          have hq : ¬ 9223372036854775807 < s1.size + s2.size := by omega
          have hq2 : (s1.size : Int) + s2.size ≤ 13000000 := by omega
          have wk : IntKind.i64.wrap ((k : Int) + 1) = ((k + 1 : Nat) : Int) := by rw [IntKind.wrap_i64]; omega
          clear hp2 hNN hs1 hs2 hpe hle
          obtain ⟨pl, pt, pa, pc, px⟩ := p
          simp only [Im.l, Im.t, Im.sl, Im.a, Im.xs, Im.c] at c0 c1 c2
          have HX : Hid (_ ∧ _ ∧ _) := ⟨hst, BW, hbx⟩
          clear hst BW hbx
          dsimp only [Im.val, Im.l, Im.t, Im.sl, Im.a, Im.xs, Im.c] at KS
          go_wp2_with fail
          refine (KS _ (by omega) hp3).mono ?_
          rintro e w3 ⟨rfl, B3⟩
          clear KS hp3 c0 c1 c2
          go_wp2
          go_roundg (gk - 1)
          case measure => omega
          case rel =>
            obtain ⟨hst, BW, hbx⟩ := HX.out
            exact ⟨k + 1, by omega, by rw [hst], by first | rfl | (congr 1; omega), belowStep BW (by omega) B3, (B3.block z hzr).trans hbx⟩
        · have hk2 : k = N := by omega
          have l1 : ¬ (k : Int) < N := by omega
          rw [hk2, List.take_of_length_le (by rw [ers_len]; omega)]
          obtain ⟨s1, hs1⟩ : ∃ q, encIs (ers xs) = q := ⟨_, rfl⟩
          rw [hs1] at KH hsz ⊢
          have HS1 : Hid (encIs (ers xs) = s1) := hs1
          clear hs1
          rw [hk2] at l1
          have hq : ¬ 9223372036854775807 < hd.size + s1.size := by omega
          have hq2 : (hd.size : Int) + s1.size ≤ 13000000 := by omega
          clear hNN hbx
          go_wp2_with fail
          refine (KH _).mono ?_
          rintro e w3 ⟨rfl, B3⟩
          clear KH
          go_wp2
          go_ret
          refine ⟨?_, ?_⟩
          · rw [HS1.out]
            rfl
          · rw [hz]
            exact belowStep BW (by omega) B3

set_option maxRecDepth 20000 in
set_option maxHeartbeats 2000000 in
theorem rencode_any (x : Im) (htb : tb x < 10000000) (n : Nat) (w : World) (hn : n ≤ w.heap.size) (hm : inMem n w x) :
    Calls Tryd.prog 45 #[x.val] w fun e w' => e = .returned (.tuple #[.string (encS x), .int .i64 (encE x)]) ∧ Below w.heap.size w w' := by
  have hcx := tb_cnt x
  have KD := fun w hn hm => rdeep_any 12 x (by decide) (by omega) n w hn hm
  have KR := fun w hn hm => rright_any (cnt x) x (Nat.le_refl _) (by omega) n w hn hm
  have KB := fun hr w hn hm => rbytes_any (cnt x) x (Nat.le_refl _) hr htb n w hn hm
  rw [encE_er, encS_er]
  have HE : Hid (eE (er x) = if dprI 12 (er x) then 41 else if rgI (er x) then (if 65536 < (encI (er x)).size then 42 else 0) else 2) := rfl
  have HS : Hid (eS (er x) = if eE (er x) = 0 then encI (er x) else ⟨#[]⟩) := rfl
  rw [dpr_er] at KD
  obtain ⟨dp, hdp⟩ : ∃ q, dprI 12 (er x) = q := ⟨_, rfl⟩
  obtain ⟨rg, hrg⟩ : ∃ q, rgI (er x) = q := ⟨_, rfl⟩
  obtain ⟨s, hs⟩ : ∃ q, encI (er x) = q := ⟨_, rfl⟩
  obtain ⟨E, hE⟩ : ∃ q, eE (er x) = q := ⟨_, rfl⟩
  obtain ⟨S, hS⟩ : ∃ q, eS (er x) = q := ⟨_, rfl⟩
  rw [hdp] at KD HE
  rw [hrg] at KR KB HE
  rw [hs] at KB HE HS
  rw [hE] at HE HS ⊢
  rw [hS] at HS ⊢
  clear hdp hrg hs hE hS hcx htb
  have HM : Hid (∀ W, Below w.heap.size w W → n ≤ W.heap.size ∧ inMem n W x) := fun W hB => ⟨Nat.le_trans hn hB.size, inMem_below hn (hB.mono hn) _ hm⟩
  have hb0 := it_new w x
  have A0 := be_new w (.cells #[.bool x.l, .string x.t, x.sl] 70)
  clear hm
  obtain ⟨xl, xt, xa, xc, xx⟩ := x
  dsimp only [Im.val, Im.l, Im.t, Im.sl, Im.a, Im.xs, Im.c] at KD KR KB hb0 A0 ⊢
  go_enter Tryd.func45, Tryd.ntmps45
  go_wp2_with fail
  refine (KD _ (HM.out _ A0).1 (HM.out _ A0).2).mono ?_
  rintro e w1 ⟨rfl, B1⟩
  have hb1 : ItIn w.heap.size (.mk xl xt xa xc xx) w1 := (B1.block _ hb0.lt).trans hb0
  have BW := belowStep A0 A0.size B1
  clear KD A0 B1 hb0
  cases dp with
  | true =>
    have hE : E = 41 := HE.out
    have hS : S = ⟨#[]⟩ := by rw [HS.out, if_neg (by omega)]
    subst hE hS
    go_wp2
    refine bodyPost_ret (v := .tuple #[.string ⟨#[]⟩, .int .i64 41]) (by simp [results, Tryd.results45, go_sem]) rfl ⟨rfl, BW⟩
  | false =>
    have q0 : w1.cell? ⟨w.heap.size, 0, none⟩ = some (.bool xl) := by rw [Lib.cell_of_heap hb1]; rfl
    have q1 : w1.cell? ⟨w.heap.size, 1, none⟩ = some (.string xt) := by rw [Lib.cell_of_heap hb1]; rfl
    have q2 : w1.cell? ⟨w.heap.size, 2, none⟩ = some (.slice xa xx.length xc) := by rw [Lib.cell_of_heap hb1]; rfl
    go_wp2_with fail
    refine (KR _ (HM.out _ BW).1 (HM.out _ BW).2).mono ?_
    rintro e w2 ⟨rfl, B2⟩
    have hb2 : ItIn w.heap.size (.mk xl xt xa xc xx) w2 := (B2.block _ hb1.lt).trans hb1
    replace BW := belowStep BW BW.size B2
    clear KR B2 hb1 q0 q1 q2
    cases rg with
    | false =>
      have hE : E = 2 := HE.out
      have hS : S = ⟨#[]⟩ := by rw [HS.out, if_neg (by omega)]
      subst hE hS
      go_wp2
      refine bodyPost_ret (v := .tuple #[.string ⟨#[]⟩, .int .i64 2]) (by simp [results, Tryd.results45, go_sem]) rfl ⟨rfl, BW⟩
    | true =>
      have q0 : w2.cell? ⟨w.heap.size, 0, none⟩ = some (.bool xl) := by rw [Lib.cell_of_heap hb2]; rfl
      have q1 : w2.cell? ⟨w.heap.size, 1, none⟩ = some (.string xt) := by rw [Lib.cell_of_heap hb2]; rfl
      have q2 : w2.cell? ⟨w.heap.size, 2, none⟩ = some (.slice xa xx.length xc) := by rw [Lib.cell_of_heap hb2]; rfl
      go_wp2_with fail
      refine (KB trivial _ (HM.out _ BW).1 (HM.out _ BW).2).mono ?_
      rintro e w3 ⟨rfl, B3⟩
      replace BW := belowStep BW BW.size B3
      clear KB B3 hb2 q0 q1 q2
      by_cases hl : 65536 < s.size
      · have l1 : (65536 : Int) < s.size := by omega
        have hE : E = 42 := by rw [HE.out]; simp [hl]
        have hS : S = ⟨#[]⟩ := by rw [HS.out, if_neg (by omega)]
        subst hE hS
        go_wp2
        refine bodyPost_ret (v := .tuple #[.string ⟨#[]⟩, .int .i64 42]) (by simp [results, Tryd.results45, go_sem]) rfl ⟨rfl, BW⟩
      · have l1 : ¬ (65536 : Int) < s.size := by omega
        have hE : E = 0 := by rw [HE.out]; simp [hl]
        have hS : S = s := by rw [HS.out, if_pos hE]
        subst hE hS
        go_wp2
        refine bodyPost_ret (v := .tuple #[.string S, .int .i64 0]) (by simp [results, Tryd.results45, go_sem]) rfl ⟨rfl, BW⟩
end Go.Proofs.YtmefanagpkbjeaaDoor
