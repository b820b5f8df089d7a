/- Lemmas: Heads of items: what is laid ahead of a body is cut off again, and what is cut off was laid ahead. Items and their bytes, there and back. RlpBack's walk: an item is read from its bytes as it was; bytes that are read are written so again. -/
import Derived.Test.YtbpcciifaekffaaGreatDoorM1
import Derived.Test.YtbpcciifaekffaaGreatDoorM15
import Derived.Test.YtbpcciifaekffaaGreatDoorM16
import Derived.Test.YtbpcciifaekffaaGreatDoorM2
import Derived.Test.YtbpcciifaekffaaGreatDoorM3
import Derived.Test.YtbpcciifaekffaaGreatDoorM36
import Derived.Test.YtbpcciifaekffaaGreatDoorM4
import Derived.Test.YtbpcciifaekffaaGreatDoorM5
import Derived.Test.YtbpcciifaekffaaGreatDoorRows
import Derived.Carry
import Derived.ChangeArms
import Derived.ChangeMaps5
import Derived.ChangeSame
import Derived.OpenShut
import Derived.ProofKit
namespace Go.Proofs.YtbpcciifaekffaaGreatDoor
open Go.RowKit Go.Shelf Go.Sort

theorem app_left (a b : ByteArray) : (a ++ b).extract 0 a.size = a := ByteArray.extract_append_eq_left rfl
theorem app_mid (a b : ByteArray) (i j : Nat) : (a ++ b).extract (a.size + i) (a.size + j) = b.extract i j := ByteArray.extract_append_size_add
theorem app_right (a b : ByteArray) : (a ++ b).extract a.size (a ++ b).size = b := by
  have := app_mid a b 0 b.size
  rw [Nat.add_zero, ByteArray.extract_zero_size] at this
  rw [ByteArray.size_append]
  exact this
theorem join2 (s : ByteArray) (a : Nat) (h : a ≤ s.size) : s.extract 0 a ++ s.extract a s.size = s := by
  rw [← ByteArray.extract_eq_extract_append_extract a (Nat.zero_le _) h, ByteArray.extract_zero_size]
theorem first_byte (s : ByteArray) (h : 0 < s.size) (n : Nat) (hn : bt s 0 = n) : s.extract 0 1 = ⟨#[UInt8.ofNat n]⟩ := by
  have hb := bt_bd s 0
  refine ext_bt _ _ (by rw [ext_size s 0 1 h]; rfl) fun j hj => ?_
  rw [ext_size s 0 1 h] at hj
  obtain rfl : j = 0 := by omega
  rw [bt_ext2 s 0 1 (by omega) h, hn]
  show (n : Int) = ((UInt8.ofNat n).toNat : Int)
  rw [UInt8.toNat_ofNat']
  omega
/-- A head in two parts: its first byte's number above the base, and what stands behind that byte. -/
def hdN (n : Nat) : Nat := if n < 56 then n else 55 + blen n
def hdD (n : Nat) : ByteArray := if n < 56 then ⟨#[]⟩ else numOf n
theorem hdB_parts (b n : Nat) : hdB b n = ⟨#[UInt8.ofNat (b + hdN n)]⟩ ++ hdD n := by
  unfold hdB hdN hdD
  by_cases h : n < 56
  · rw [if_pos h, if_pos h, if_pos h]
    exact (ByteArray.append_empty).symm
  · rw [if_neg h, if_neg h, if_neg h, Nat.add_assoc]
theorem hdN_lt (n : Nat) (hn : n < 18446744073709551616) : hdN n < 64 := by
  unfold hdN
  have := num_8 n hn
  split <;> omega
theorem cutAt_hd (n : Nat) (hn : n < 18446744073709551616) (r : ByteArray) (hr : n ≤ r.size) : cutAt (hdN n) (hdD n ++ r) = some ((hdD n).size, n) := by
  unfold cutAt hdN hdD
  by_cases h : n < 56
  · rw [if_pos h, if_pos h, if_pos h]
    have e : ((⟨#[]⟩ : ByteArray) ++ r) = r := ByteArray.empty_append
    rw [e, if_neg (by omega)]
    rfl
  · rw [if_neg h, if_neg h]
    have h1 : 1 ≤ blen n := by
      have := (blen_zero n).1
      omega
    rw [if_neg (by omega), show 55 + blen n - 55 = (numOf n).size by rw [num_size]; omega, ByteArray.size_append, if_neg (by omega), app_left]
    obtain ⟨q1, q2⟩ := num_back n hn
    rw [q1, q2, if_pos ⟨rfl, by omega, by omega⟩]
theorem bt_one (d : Nat) (r : ByteArray) (hd : d < 256) : bt (⟨#[UInt8.ofNat d]⟩ ++ r) 0 = d := by
  rw [bt_app, if_pos (by show 0 < 1; omega)]
  show ((UInt8.ofNat d).toNat : Int) = d
  rw [UInt8.toNat_ofNat']
  omega
theorem ext_one (d : Nat) (r : ByteArray) : (⟨#[UInt8.ofNat d]⟩ ++ r : ByteArray).extract 1 (⟨#[UInt8.ofNat d]⟩ ++ r : ByteArray).size = r := app_right ⟨#[UInt8.ofNat d]⟩ r
/-- What stands ahead of a body of a kind. -/
def hdK (k : Nat) (b : ByteArray) : ByteArray := if k = 2 then hdB 192 b.size else if bare b then ⟨#[]⟩ else hdB 128 b.size
theorem cut_list (b r : ByteArray) (hb : b.size < 18446744073709551616) : cutK (hdB 192 b.size ++ (b ++ r)) = (2, b, r) := by
  have hk := hdN_lt b.size hb
  rw [hdB_parts, ByteArray.append_assoc]
  unfold cutK
  rw [bt_one _ _ (by omega), ext_one, if_neg (by omega), if_neg (by omega), show (((192 + hdN b.size : Nat) : Int).toNat - 192) = hdN b.size by omega, cutAt_hd b.size hb (b ++ r) (by rw [ByteArray.size_append]; omega)]
  dsimp only
  have e1 : (hdD b.size ++ (b ++ r)).extract (hdD b.size).size ((hdD b.size).size + b.size) = b := by
    have := app_mid (hdD b.size) (b ++ r) 0 b.size
    rw [Nat.add_zero, app_left] at this
    exact this
  have e2 : (hdD b.size ++ (b ++ r)).extract ((hdD b.size).size + b.size) (hdD b.size ++ (b ++ r)).size = r := by
    have := app_mid (hdD b.size) (b ++ r) b.size (b ++ r).size
    rw [app_right] at this
    rw [ByteArray.size_append]
    exact this
  rw [e1, e2]
theorem cut_text (b r : ByteArray) (hb : b.size < 18446744073709551616) (hn : bare b = false) : cutK (hdB 128 b.size ++ (b ++ r)) = (1, b, r) := by
  have hk := hdN_lt b.size hb
  rw [hdB_parts, ByteArray.append_assoc]
  unfold cutK
  rw [bt_one _ _ (by omega), ext_one, if_neg (by omega), if_pos (by omega), show (((128 + hdN b.size : Nat) : Int).toNat - 128) = hdN b.size by omega, cutAt_hd b.size hb (b ++ r) (by rw [ByteArray.size_append]; omega)]
  dsimp only
  have e1 : (hdD b.size ++ (b ++ r)).extract (hdD b.size).size ((hdD b.size).size + b.size) = b := by
    have := app_mid (hdD b.size) (b ++ r) 0 b.size
    rw [Nat.add_zero, app_left] at this
    exact this
  have e2 : (hdD b.size ++ (b ++ r)).extract ((hdD b.size).size + b.size) (hdD b.size ++ (b ++ r)).size = r := by
    have := app_mid (hdD b.size) (b ++ r) b.size (b ++ r).size
    rw [app_right] at this
    rw [ByteArray.size_append]
    exact this
  rw [e1, e2, hn]
  rfl
theorem cut_bare (b r : ByteArray) (hn : bare b = true) : cutK (b ++ r) = (1, b, r) := by
  unfold bare at hn
  rw [Bool.and_eq_true] at hn
  have h1 := of_decide_eq_true hn.1
  have h2 := of_decide_eq_true hn.2
  unfold cutK
  rw [bt_app, if_pos (show 0 < b.size by omega), if_pos h2]
  have e1 := app_left b r
  have e2 := app_right b r
  rw [h1] at e1 e2
  rw [e1, e2]
/-- Whatever is cut off was laid ahead. -/
theorem cutAt_join {k : Nat} {r : ByteArray} {d n : Nat} (h : cutAt k r = some (d, n)) : hdN n = k ∧ hdD n ++ (r.extract d (d + n) ++ r.extract (d + n) r.size) = r ∧ (r.extract d (d + n)).size = n := by
  have hle := cutAt_le h
  have hj : r.extract d (d + n) ++ r.extract (d + n) r.size = r.extract d r.size := (ByteArray.extract_eq_extract_append_extract (d + n) (by omega) hle).symm
  have hz := ext_size r d (d + n) hle
  refine ⟨?_, ?_, by omega⟩
  · unfold cutAt at h
    split at h
    · split at h
      · cases h
      · cases h
        unfold hdN
        rw [if_pos ‹_›]
    · split at h
      · cases h
      · split at h
        · rename_i h1 h2 h3
          cases h
          have hv := val_num _ h3.1
          have hs := congrArg ByteArray.size hv
          rw [num_size, ext_size r 0 _ (by omega)] at hs
          unfold hdN
          rw [if_neg (by omega)]
          omega
        · cases h
  · rw [hj]
    unfold cutAt at h
    split at h
    · split at h
      · cases h
      · cases h
        unfold hdD
        rw [if_pos ‹_›, ByteArray.extract_zero_size]
        exact ByteArray.empty_append
    · split at h
      · cases h
      · split at h
        · rename_i h1 h2 h3
          cases h
          have hv := val_num _ h3.1
          unfold hdD
          rw [if_neg (by omega), hv, join2 r _ (by omega)]
        · cases h
theorem byte_join (s : ByteArray) (h : 0 < s.size) (n : Nat) (hn : bt s 0 = n) : ⟨#[UInt8.ofNat n]⟩ ++ s.extract 1 s.size = s := by
  rw [← first_byte s h n hn]
  exact join2 s 1 h
theorem cutK_join (s : ByteArray) (hp : 0 < s.size) (h : (cutK s).1 ≠ 0) : ((cutK s).1 = 1 ∨ (cutK s).1 = 2) ∧ hdK (cutK s).1 (cutK s).2.1 ++ ((cutK s).2.1 ++ (cutK s).2.2) = s := by
  have hb := bt_bd s 0
  obtain ⟨m, hm⟩ : ∃ m : Nat, bt s 0 = m := ⟨(bt s 0).toNat, by omega⟩
  revert h
  unfold cutK
  split
  · rename_i h1
    intro _
    refine ⟨.inl rfl, ?_⟩
    have hbare : bare (s.extract 0 1) = true := by
      rw [bare_ext s 0 1 hp, decide_eq_true h1]
      rfl
    unfold hdK
    dsimp only
    rw [if_neg (by decide), hbare, if_pos rfl, join2 s 1 hp]
    exact ByteArray.empty_append
  · rename_i h1
    split
    · rename_i h2
      split
      · intro h; exact absurd rfl h
      · rename_i d n hc
        split
        · intro h; exact absurd rfl h
        · rename_i hnb
          intro _
          refine ⟨.inl rfl, ?_⟩
          obtain ⟨q1, q2, q3⟩ := cutAt_join hc
          unfold hdK
          dsimp only
          rw [if_neg (by decide), if_neg hnb, q3, hdB_parts, ByteArray.append_assoc, q2, q1, hm]
          exact byte_join s hp _ (by omega)
    · rename_i h2
      split
      · intro h; exact absurd rfl h
      · rename_i d n hc
        intro _
        refine ⟨.inr rfl, ?_⟩
        obtain ⟨q1, q2, q3⟩ := cutAt_join hc
        unfold hdK
        dsimp only
        rw [if_pos rfl, q3, hdB_parts, ByteArray.append_assoc, q2, q1, hm]
        exact byte_join s hp _ (by omega)
end Go.Proofs.YtbpcciifaekffaaGreatDoor
namespace Go.Proofs.YtbpcciifaekffaaGreatDoor
open Go.RowKit Go.Shelf Go.Sort

/-- The kind of an item, and what stands behind its head. -/
def kI : It → Nat | .mk l _ _ => if l then 2 else 1
def bI : It → ByteArray | .mk l t xs => if l then encIs xs else t
theorem encI_eq (x : It) : encI x = hdK (kI x) (bI x) ++ bI x := by
  obtain ⟨l, t, xs⟩ := x
  cases l with
  | true => rfl
  | false =>
    show (if bare t then t else hdB 128 t.size ++ t) = (if bare t then ⟨#[]⟩ else hdB 128 t.size) ++ t
    cases bare t with
    | true => exact (ByteArray.empty_append).symm
    | false => rfl
theorem hdK_pos (k : Nat) (b : ByteArray) : 0 < (hdK k b ++ b).size := by
  unfold hdK
  rw [ByteArray.size_append]
  split
  · rw [hdB_hsz]; unfold hsz; split <;> omega
  · split
    · rename_i h
      unfold bare at h
      rw [Bool.and_eq_true] at h
      have := of_decide_eq_true h.1
      omega
    · rw [hdB_hsz]; unfold hsz; split <;> omega
theorem cutK_hd (k : Nat) (hk : k = 1 ∨ k = 2) (b r : ByteArray) (hb : b.size < 18446744073709551616) : cutK (hdK k b ++ b ++ r) = (k, b, r) := by
  unfold hdK
  rw [ByteArray.append_assoc]
  rcases hk with rfl | rfl
  · rw [if_neg (by decide)]
    cases hn : bare b with
    | true =>
      rw [if_pos rfl, show ((⟨#[]⟩ : ByteArray) ++ (b ++ r)) = b ++ r from ByteArray.empty_append]
      exact cut_bare b r hn
    | false =>
      rw [if_neg (by decide)]
      exact cut_text b r hb hn
  · rw [if_pos rfl]
    exact cut_list b r hb
theorem kI_or (x : It) : kI x = 1 ∨ kI x = 2 := by
  obtain ⟨l, t, xs⟩ := x
  cases l
  · exact .inl rfl
  · exact .inr rfl
theorem ps_enc (x : It) (r : ByteArray) (hb : (bI x).size < 18446744073709551616) : ps (encI x ++ r) = (kI x, bI x) :: ps r := by
  have hc := cutK_hd (kI x) (kI_or x) (bI x) r hb
  have hp := hdK_pos (kI x) (bI x)
  rw [encI_eq, ps_eq, hc, if_neg (by rw [ByteArray.size_append]; omega), if_neg (by have := kI_or x; dsimp only; omega)]
theorem encIs_le : ∀ (xs : List It) (x : It), x ∈ xs → (encI x).size ≤ (encIs xs).size
  | y :: r, x, h => by
    show _ ≤ (encI y ++ encIs r).size
    rw [ByteArray.size_append]
    rcases List.mem_cons.1 h with rfl | h
    · omega
    · have := encIs_le r x h
      omega
theorem bI_le (x : It) : (bI x).size ≤ (encI x).size := by
  rw [encI_eq, ByteArray.size_append]
  omega
theorem rgIs_mem : ∀ (xs : List It) (x : It), rgIs xs = true → x ∈ xs → rgI x = true
  | y :: r, x, h, hx => by
    have h' : (rgI y && rgIs r) = true := h
    rw [Bool.and_eq_true] at h'
    rcases List.mem_cons.1 hx with rfl | hx
    · exact h'.1
    · exact rgIs_mem r x h'.2 hx
theorem dec_list (F : Nat) : ∀ xs : List It, (encIs xs).size < 18446744073709551616 → (∀ x, x ∈ xs → one F (kI x, bI x) = some x) → comb (one F) (ps (encIs xs)) = some xs
  | [], _, _ => by
    show comb (one F) (ps ⟨#[]⟩) = _
    rw [ps_eq, if_pos (show (⟨#[]⟩ : ByteArray).size = 0 from rfl)]
    rfl
  | x :: r, hs, h => by
    have hs' : (encI x ++ encIs r).size < 18446744073709551616 := hs
    rw [ByteArray.size_append] at hs'
    have hb := bI_le x
    show comb (one F) (ps (encI x ++ encIs r)) = _
    rw [ps_enc x _ (by omega), comb_cons, h x (List.mem_cons_self ..), dec_list F r (by omega) (fun y hy => h y (List.mem_cons_of_mem _ hy))]
/-- What stands for an item is read as it was. -/
theorem one_enc : ∀ (m : Nat) (x : It), dprI m x = false → rgI x = true → (encI x).size < 18446744073709551616 → ∀ F, m ≤ F → one F (kI x, bI x) = some x
  | 0, x, h, _, _, _, _ => by cases h
  | m + 1, .mk l t xs, hd, hr, hs, F, hF => by
    have hr' : ((if l then decide (t.size = 0) else decide (xs.length = 0)) && rgIs xs) = true := hr
    rw [Bool.and_eq_true] at hr'
    cases l with
    | false =>
      have h0 : xs.length = 0 := of_decide_eq_true hr'.1
      obtain rfl := List.length_eq_zero_iff.1 h0
      rfl
    | true =>
      have h0 : t.size = 0 := of_decide_eq_true hr'.1
      rw [size_0 t h0]
      have hs' := bI_le (.mk true t xs)
      have hs2 : (encIs xs).size ≤ (encI (.mk true t xs)).size := hs'
      match F, hF with
      | F + 1, hF =>
        have hd' : xs.any (dprI m) = false := hd
        have : decF (F + 1) (encIs xs) = some xs := by
          rw [decF_succ]
          refine dec_list F xs (by omega) fun x hx => ?_
          have hle := encIs_le xs x hx
          refine one_enc m x ?_ (rgIs_mem xs x hr'.2 hx) (by omega) F (by omega)
          have := List.any_eq_false.1 hd' x hx
          simpa using this
        show (decF (F + 1) (encIs xs)).map (It.mk true ⟨#[]⟩) = _
        rw [this]
        rfl
theorem dec_enc {x : It} (h : eE x = 0) : decF 65537 (encI x) = some [x] := by
  obtain ⟨h1, h2, h3⟩ := eE_0 h
  have := dec_list 65536 [x] (by show (encI x ++ ⟨#[]⟩).size < _; rw [ByteArray.size_append]; show (encI x).size + 0 < _; omega) (fun y hy => by
    rw [List.mem_singleton] at hy
    subst hy
    exact one_enc 12 y h1 h2 (by omega) 65536 (by omega))
  rw [decF_succ]
  rw [show encIs [x] = encI x from ByteArray.append_empty] at this
  exact this
/-- What is read is written so again. -/
theorem enc_step (F : Nat) (hF : ∀ s its, s.size < F → decF F s = some its → encIs its = s ∧ rgIs its = true) : ∀ (n : Nat) (s : ByteArray), s.size ≤ n → s.size ≤ F → ∀ its, comb (one F) (ps s) = some its → encIs its = s ∧ rgIs its = true
  | n, s, hn, hsF, its, h => by
    rw [ps_eq] at h
    by_cases h0 : s.size = 0
    · rw [if_pos h0] at h
      cases h
      exact ⟨(size_0 s h0).symm, rfl⟩
    · rw [if_neg h0] at h
      by_cases h1 : (cutK s).1 = 0
      · rw [if_pos h1] at h
        cases h
      · rw [if_neg h1] at h
        obtain ⟨hk, hj⟩ := cutK_join s (by omega) h1
        have hlt := cutK_lt s (by omega) h1
        generalize cutK s = q at h hk hj hlt
        obtain ⟨k, b, r⟩ := q
        dsimp only at h hk hj hlt
        rw [comb_cons] at h
        cases ho : one F (k, b) with
        | none => rw [ho] at h; cases h
        | some x =>
          cases hr : comb (one F) (ps r) with
          | none => rw [ho, hr] at h; cases h
          | some l =>
            rw [ho, hr] at h
            cases h
            match n, hn with
            | 0, hn => omega
            | n + 1, hn =>
              obtain ⟨q1, q2⟩ := enc_step F hF n r (by omega) (by omega) l hr
              have hx : encI x = hdK k b ++ b ∧ rgI x = true := by
                rcases hk with rfl | rfl
                · cases ho
                  exact ⟨encI_eq (.mk false b []), rfl⟩
                · have ho' : (decF F b).map (It.mk true ⟨#[]⟩) = some x := ho
                  cases hd : decF F b with
                  | none => rw [hd] at ho'; cases ho'
                  | some l' =>
                    rw [hd] at ho'
                    cases ho'
                    have hb2 := hlt.2.1 rfl
                    obtain ⟨p1, p2⟩ := hF b l' (by omega) hd
                    refine ⟨?_, ?_⟩
                    · rw [encI_eq]
                      show hdK 2 (encIs l') ++ encIs l' = _
                      rw [p1]
                    · show (true && rgIs l') = true
                      rw [p2]
                      rfl
              refine ⟨?_, ?_⟩
              · show encI x ++ encIs l = s
                rw [hx.1, q1, ByteArray.append_assoc, hj]
              · show (rgI x && rgIs l) = true
                rw [hx.2, q2]
                rfl
theorem enc_all : ∀ (F : Nat) (s : ByteArray) (its : List It), s.size < F → decF F s = some its → encIs its = s ∧ rgIs its = true
  | 0, s, its, h, _ => by omega
  | F + 1, s, its, h, hd => enc_step F (enc_all F) s.size s (Nat.le_refl _) (by omega) its (by rw [decF_succ] at hd; exact hd)
theorem enc_dec {s : ByteArray} {y : It} (hs : s.size ≤ 65536) (h : decF 65537 s = some [y]) : encI y = s ∧ rgI y = true := by
  obtain ⟨h1, h2⟩ := enc_all 65537 s [y] (by omega) h
  rw [show encIs [y] = encI y from ByteArray.append_empty] at h1
  have h3 : (rgI y && true) = true := h2
  rw [Bool.and_true] at h3
  exact ⟨h1, h3⟩
/-- Bytes of an item with more behind them are no one's. -/
theorem dec_more {x : It} (h : eE x = 0) (more : ByteArray) (hm : 0 < more.size) (y : It) : decF 65537 (encI x ++ more) ≠ some [y] := by
  intro hd
  obtain ⟨h1, h2, h3⟩ := eE_0 h
  have hb := bI_le x
  rw [decF_succ, ps_enc x more (by omega), comb_cons] at hd
  cases ho : one 65536 (kI x, bI x) with
  | none => rw [ho] at hd; cases hd
  | some z =>
    cases hr : comb (one 65536) (ps more) with
    | none => rw [ho, hr] at hd; cases hd
    | some l =>
      rw [ho, hr] at hd
      cases hd
      rw [ps_eq, if_neg (by omega)] at hr
      split at hr
      · cases hr
      · rw [comb_cons] at hr
        cases h7 : one 65536 ((cutK more).1, (cutK more).2.1) <;> cases h8 : comb (one 65536) (ps (cutK more).2.2) <;> rw [h7, h8] at hr <;> cases hr
mutual
def tbI : It → Nat
  | .mk _ t xs => t.size + 9 + tbIs xs
def tbIs : List It → Nat
  | [] => 0
  | x :: r => tbI x + tbIs r
end
mutual
theorem tb_er : ∀ x, tb x = tbI (er x)
  | .mk l t a c xs => by show t.size + 9 + tbs xs = t.size + 9 + tbIs (ers xs); rw [tbs_er xs]
theorem tbs_er : ∀ xs, tbs xs = tbIs (ers xs)
  | [] => rfl
  | x :: r => by show tb x + tbs r = tbI (er x) + tbIs (ers r); rw [tb_er x, tbs_er r]
end
mutual
theorem tb_enc : ∀ x, rgI x = true → tbI x ≤ 10 * (encI x).size
  | .mk l t xs, h => by
    have h' : ((if l then decide (t.size = 0) else decide (xs.length = 0)) && rgIs xs) = true := h
    rw [Bool.and_eq_true] at h'
    have hx := tbs_enc xs h'.2
    have hp := hdK_pos (kI (.mk l t xs)) (bI (.mk l t xs))
    rw [encI_eq]
    rw [ByteArray.size_append] at hp ⊢
    cases l with
    | true =>
      have h0 : t.size = 0 := of_decide_eq_true h'.1
      have hh : 0 < (hdK (kI (.mk true t xs)) (bI (.mk true t xs))).size := by
        show 0 < (hdB 192 (encIs xs).size).size
        rw [hdB_hsz]; unfold hsz; split <;> omega
      have e : (bI (.mk true t xs)).size = (encIs xs).size := rfl
      show t.size + 9 + tbIs xs ≤ _
      omega
    | false =>
      have h0 : xs.length = 0 := of_decide_eq_true h'.1
      obtain rfl := List.length_eq_zero_iff.1 h0
      have e : (bI (.mk false t [])).size = t.size := rfl
      show t.size + 9 + 0 ≤ _
      omega
theorem tbs_enc : ∀ xs, rgIs xs = true → tbIs xs ≤ 10 * (encIs xs).size
  | [], _ => Nat.zero_le _
  | x :: r, h => by
    have h' : (rgI x && rgIs r) = true := h
    rw [Bool.and_eq_true] at h'
    have h1 := tb_enc x h'.1
    have h2 := tbs_enc r h'.2
    show tbI x + tbIs r ≤ 10 * (encI x ++ encIs r).size
    rw [ByteArray.size_append]
    omega
end
end Go.Proofs.YtbpcciifaekffaaGreatDoor
namespace Go.Proofs.YtbpcciifaekffaaGreatDoor
open Go.RowKit Go.Shelf Go.Sort

theorem back_item {x y : Im} {f : Int} (h : encE x = 0) (hd : DecR (encS x) y f) : f = 0 ∧ er y = er x := by
  rw [encE_er] at h
  have hs : encS x = encI (er x) := by rw [encS_er]; unfold eS; rw [if_pos h]
  obtain ⟨h1, h2, h3⟩ := eE_0 h
  have hdec := dec_enc h
  rw [hs] at hd
  rcases hd with ⟨k1, _, _⟩ | ⟨_, k2, _, _⟩ | ⟨_, y', k2, k3⟩
  · omega
  · exact absurd hdec (k2 _)
  · have he : er y' = er x := by
      rw [hdec] at k2
      injection k2 with k2
      injection k2 with k2
      exact k2.symm
    rcases k3 with ⟨k4, _, _⟩ | ⟨k4, rfl, rfl⟩
    · rw [deep_er, he, h1] at k4
      cases k4
    · exact ⟨rfl, he⟩
theorem back_bytes {s : ByteArray} {z : Im} (hd : DecR s z 0) : encE z = 0 ∧ encS z = s := by
  rcases hd with ⟨_, k1, _⟩ | ⟨_, _, k1, _⟩ | ⟨k0, y, k2, k3⟩
  · cases k1
  · cases k1
  · rcases k3 with ⟨_, k4, _⟩ | ⟨k4, _, rfl⟩
    · cases k4
    · obtain ⟨q1, q2⟩ := enc_dec k0 k2
      have h0 : eE (er z) = 0 := by
        unfold eE
        rw [deep_er] at k4
        rw [k4, q2, q1]
        simp only [Bool.false_eq_true, if_false, if_true]
        rw [if_neg (by omega)]
      rw [encE_er, encS_er]
      refine ⟨h0, ?_⟩
      unfold eS
      rw [if_pos h0, q1]
theorem decR_tb {s : ByteArray} {z : Im} {g : Int} (hd : DecR s z g) : tb z < 4000000 := by
  rcases hd with ⟨_, _, rfl⟩ | ⟨_, _, _, rfl⟩ | ⟨k0, y, k2, k3⟩
  · show 9 < _; decide
  · show 9 < _; decide
  · rcases k3 with ⟨_, _, rfl⟩ | ⟨_, _, rfl⟩
    · show 9 < _; decide
    · obtain ⟨q1, q2⟩ := enc_dec k0 k2
      have := tb_enc _ q2
      rw [q1] at this
      rw [tb_er]
      omega
theorem tb_cnt (x : Im) : cnt x ≤ tb x := cnt_tb (cnt x) x (Nat.le_refl _)
/-- An item's box, wherever. -/
theorem it_new (W : World) (x : Im) : ItIn W.heap.size x (W.alloc (.cells #[.bool x.l, .string x.t, x.sl] 47)) := World.alloc_heap_new W _
theorem be_new (W : World) (o : Obj) : Below W.heap.size W (W.alloc o) := (Below.refl _ W).alloc (Nat.le_refl _) _

end Go.Proofs.YtbpcciifaekffaaGreatDoor
