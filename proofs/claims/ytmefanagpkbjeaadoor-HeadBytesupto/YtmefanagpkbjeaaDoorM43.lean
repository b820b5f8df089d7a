/- Lemmas: Heads of items: what is laid ahead of a body is cut off again, and what is cut off was laid ahead. Items and their bytes, there and back. RlpBack's walk: an item is read from its bytes as it was; bytes that are read are written so again. The reference's bytes of an item: right, head, bytesOf, Encode. The reference's bytes of an item: head, bytesOf, Encode. Parts of messages: where they lie, what they tell, and which items are such parts'. Numbers and texts as parts of a message: their items, and how they are read. A list of parts: its item. Texts as parts: each, and their item; a part's item, whichever it is. -/
import Derived.Test.YtmefanagpkbjeaaDoorM1
import Derived.Test.YtmefanagpkbjeaaDoorM10
import Derived.Test.YtmefanagpkbjeaaDoorM2
import Derived.Test.YtmefanagpkbjeaaDoorM3
import Derived.Test.YtmefanagpkbjeaaDoorM33
import Derived.Test.YtmefanagpkbjeaaDoorM34
import Derived.Test.YtmefanagpkbjeaaDoorM35
import Derived.Test.YtmefanagpkbjeaaDoorM36
import Derived.Test.YtmefanagpkbjeaaDoorM37
import Derived.Test.YtmefanagpkbjeaaDoorM38
import Derived.Test.YtmefanagpkbjeaaDoorM39
import Derived.Test.YtmefanagpkbjeaaDoorM40
import Derived.Test.YtmefanagpkbjeaaDoorM41
import Derived.Test.YtmefanagpkbjeaaDoorM42
import Derived.Test.YtmefanagpkbjeaaDoorRows
import Derived.Carry
import Derived.ChangeArms
import Derived.ChangeMaps5
import Derived.ChangeSame
import Derived.OpenShut
import Derived.ProofKit
namespace Go.Proofs.YtmefanagpkbjeaaDoor
open Go.RowKit Go.Shelf Go.Sort

theorem app_left (a b : ByteArray) : (a ++ b).extract 0 a.size = a := ByteArray.extract_append_eq_left rfl
theorem app_mid (a b : ByteArray) (i j : Nat) : (a ++ b).extract (a.size + i) (a.size + j) = b.extract i j := ByteArray.extract_append_size_add
theorem app_right (a b : ByteArray) : (a ++ b).extract a.size (a ++ b).size = b := by
  have := app_mid a b 0 b.size
  rw [Nat.add_zero, ByteArray.extract_zero_size] at this
  rw [ByteArray.size_append]
  exact this
theorem join2 (s : ByteArray) (a : Nat) (h : a ≤ s.size) : s.extract 0 a ++ s.extract a s.size = s := by
  rw [← ByteArray.extract_eq_extract_append_extract a (Nat.zero_le _) h, ByteArray.extract_zero_size]
theorem first_byte (s : ByteArray) (h : 0 < s.size) (n : Nat) (hn : bt s 0 = n) : s.extract 0 1 = ⟨#[UInt8.ofNat n]⟩ := by
  have hb := bt_bd s 0
  refine ext_bt _ _ (by rw [ext_size s 0 1 h]; rfl) fun j hj => ?_
  rw [ext_size s 0 1 h] at hj
  obtain rfl : j = 0 := by omega
  rw [bt_ext2 s 0 1 (by omega) h, hn]
  show (n : Int) = ((UInt8.ofNat n).toNat : Int)
  rw [UInt8.toNat_ofNat']
  omega
/-- A head in two parts: its first byte's number above the base, and what stands behind that byte. -/
def hdN (n : Nat) : Nat := if n < 56 then n else 55 + blen n
def hdD (n : Nat) : ByteArray := if n < 56 then ⟨#[]⟩ else numOf n
theorem hdB_parts (b n : Nat) : hdB b n = ⟨#[UInt8.ofNat (b + hdN n)]⟩ ++ hdD n := by
  unfold hdB hdN hdD
  by_cases h : n < 56
  · rw [if_pos h, if_pos h, if_pos h]
    exact (ByteArray.append_empty).symm
  · rw [if_neg h, if_neg h, if_neg h, Nat.add_assoc]
theorem hdN_lt (n : Nat) (hn : n < 18446744073709551616) : hdN n < 64 := by
  unfold hdN
  have := num_8 n hn
  split <;> omega
theorem cutAt_hd (n : Nat) (hn : n < 18446744073709551616) (r : ByteArray) (hr : n ≤ r.size) : cutAt (hdN n) (hdD n ++ r) = some ((hdD n).size, n) := by
  unfold cutAt hdN hdD
  by_cases h : n < 56
  · rw [if_pos h, if_pos h, if_pos h]
    have e : ((⟨#[]⟩ : ByteArray) ++ r) = r := ByteArray.empty_append
    rw [e, if_neg (by omega)]
    rfl
  · rw [if_neg h, if_neg h]
    have h1 : 1 ≤ blen n := by
      have := (blen_zero n).1
      omega
    rw [if_neg (by omega), show 55 + blen n - 55 = (numOf n).size by rw [num_size]; omega, ByteArray.size_append, if_neg (by omega), app_left]
    obtain ⟨q1, q2⟩ := num_back n hn
    rw [q1, q2, if_pos ⟨rfl, by omega, by omega⟩]
theorem bt_one (d : Nat) (r : ByteArray) (hd : d < 256) : bt (⟨#[UInt8.ofNat d]⟩ ++ r) 0 = d := by
  rw [bt_app, if_pos (by show 0 < 1; omega)]
  show ((UInt8.ofNat d).toNat : Int) = d
  rw [UInt8.toNat_ofNat']
  omega
theorem ext_one (d : Nat) (r : ByteArray) : (⟨#[UInt8.ofNat d]⟩ ++ r : ByteArray).extract 1 (⟨#[UInt8.ofNat d]⟩ ++ r : ByteArray).size = r := app_right ⟨#[UInt8.ofNat d]⟩ r
/-- What stands ahead of a body of a kind. -/
def hdK (k : Nat) (b : ByteArray) : ByteArray := if k = 2 then hdB 192 b.size else if bare b then ⟨#[]⟩ else hdB 128 b.size
theorem cut_list (b r : ByteArray) (hb : b.size < 18446744073709551616) : cutK (hdB 192 b.size ++ (b ++ r)) = (2, b, r) := by
  have hk := hdN_lt b.size hb
  rw [hdB_parts, ByteArray.append_assoc]
  unfold cutK
  rw [bt_one _ _ (by omega), ext_one, if_neg (by omega), if_neg (by omega), show (((192 + hdN b.size : Nat) : Int).toNat - 192) = hdN b.size by omega, cutAt_hd b.size hb (b ++ r) (by rw [ByteArray.size_append]; omega)]
  dsimp only
  have e1 : (hdD b.size ++ (b ++ r)).extract (hdD b.size).size ((hdD b.size).size + b.size) = b := by
    have := app_mid (hdD b.size) (b ++ r) 0 b.size
    rw [Nat.add_zero, app_left] at this
    exact this
  have e2 : (hdD b.size ++ (b ++ r)).extract ((hdD b.size).size + b.size) (hdD b.size ++ (b ++ r)).size = r := by
    have := app_mid (hdD b.size) (b ++ r) b.size (b ++ r).size
    rw [app_right] at this
    rw [ByteArray.size_append]
    exact this
  rw [e1, e2]
theorem cut_text (b r : ByteArray) (hb : b.size < 18446744073709551616) (hn : bare b = false) : cutK (hdB 128 b.size ++ (b ++ r)) = (1, b, r) := by
  have hk := hdN_lt b.size hb
  rw [hdB_parts, ByteArray.append_assoc]
  unfold cutK
  rw [bt_one _ _ (by omega), ext_one, if_neg (by omega), if_pos (by omega), show (((128 + hdN b.size : Nat) : Int).toNat - 128) = hdN b.size by omega, cutAt_hd b.size hb (b ++ r) (by rw [ByteArray.size_append]; omega)]
  dsimp only
  have e1 : (hdD b.size ++ (b ++ r)).extract (hdD b.size).size ((hdD b.size).size + b.size) = b := by
    have := app_mid (hdD b.size) (b ++ r) 0 b.size
    rw [Nat.add_zero, app_left] at this
    exact this
  have e2 : (hdD b.size ++ (b ++ r)).extract ((hdD b.size).size + b.size) (hdD b.size ++ (b ++ r)).size = r := by
    have := app_mid (hdD b.size) (b ++ r) b.size (b ++ r).size
    rw [app_right] at this
    rw [ByteArray.size_append]
    exact this
  rw [e1, e2, hn]
  rfl
theorem cut_bare (b r : ByteArray) (hn : bare b = true) : cutK (b ++ r) = (1, b, r) := by
  unfold bare at hn
  rw [Bool.and_eq_true] at hn
  have h1 := of_decide_eq_true hn.1
  have h2 := of_decide_eq_true hn.2
  unfold cutK
  rw [bt_app, if_pos (show 0 < b.size by omega), if_pos h2]
  have e1 := app_left b r
  have e2 := app_right b r
  rw [h1] at e1 e2
  rw [e1, e2]
/-- Whatever is cut off was laid ahead. -/
theorem cutAt_join {k : Nat} {r : ByteArray} {d n : Nat} (h : cutAt k r = some (d, n)) : hdN n = k ∧ hdD n ++ (r.extract d (d + n) ++ r.extract (d + n) r.size) = r ∧ (r.extract d (d + n)).size = n := by
  have hle := cutAt_le h
  have hj : r.extract d (d + n) ++ r.extract (d + n) r.size = r.extract d r.size := (ByteArray.extract_eq_extract_append_extract (d + n) (by omega) hle).symm
  have hz := ext_size r d (d + n) hle
  refine ⟨?_, ?_, by omega⟩
  · unfold cutAt at h
    split at h
    · split at h
      · cases h
      · cases h
        unfold hdN
        rw [if_pos ‹_›]
    · split at h
      · cases h
      · split at h
        · rename_i h1 h2 h3
          cases h
          have hv := val_num _ h3.1
          have hs := congrArg ByteArray.size hv
          rw [num_size, ext_size r 0 _ (by omega)] at hs
          unfold hdN
          rw [if_neg (by omega)]
          omega
        · cases h
  · rw [hj]
    unfold cutAt at h
    split at h
    · split at h
      · cases h
      · cases h
        unfold hdD
        rw [if_pos ‹_›, ByteArray.extract_zero_size]
        exact ByteArray.empty_append
    · split at h
      · cases h
      · split at h
        · rename_i h1 h2 h3
          cases h
          have hv := val_num _ h3.1
          unfold hdD
          rw [if_neg (by omega), hv, join2 r _ (by omega)]
        · cases h
theorem byte_join (s : ByteArray) (h : 0 < s.size) (n : Nat) (hn : bt s 0 = n) : ⟨#[UInt8.ofNat n]⟩ ++ s.extract 1 s.size = s := by
  rw [← first_byte s h n hn]
  exact join2 s 1 h
theorem cutK_join (s : ByteArray) (hp : 0 < s.size) (h : (cutK s).1 ≠ 0) : ((cutK s).1 = 1 ∨ (cutK s).1 = 2) ∧ hdK (cutK s).1 (cutK s).2.1 ++ ((cutK s).2.1 ++ (cutK s).2.2) = s := by
  have hb := bt_bd s 0
  obtain ⟨m, hm⟩ : ∃ m : Nat, bt s 0 = m := ⟨(bt s 0).toNat, by omega⟩
  revert h
  unfold cutK
  split
  · rename_i h1
    intro _
    refine ⟨.inl rfl, ?_⟩
    have hbare : bare (s.extract 0 1) = true := by
      rw [bare_ext s 0 1 hp, decide_eq_true h1]
      rfl
    unfold hdK
    dsimp only
    rw [if_neg (by decide), hbare, if_pos rfl, join2 s 1 hp]
    exact ByteArray.empty_append
  · rename_i h1
    split
    · rename_i h2
      split
      · intro h; exact absurd rfl h
      · rename_i d n hc
        split
        · intro h; exact absurd rfl h
        · rename_i hnb
          intro _
          refine ⟨.inl rfl, ?_⟩
          obtain ⟨q1, q2, q3⟩ := cutAt_join hc
          unfold hdK
          dsimp only
          rw [if_neg (by decide), if_neg hnb, q3, hdB_parts, ByteArray.append_assoc, q2, q1, hm]
          exact byte_join s hp _ (by omega)
    · rename_i h2
      split
      · intro h; exact absurd rfl h
      · rename_i d n hc
        intro _
        refine ⟨.inr rfl, ?_⟩
        obtain ⟨q1, q2, q3⟩ := cutAt_join hc
        unfold hdK
        dsimp only
        rw [if_pos rfl, q3, hdB_parts, ByteArray.append_assoc, q2, q1, hm]
        exact byte_join s hp _ (by omega)
end Go.Proofs.YtmefanagpkbjeaaDoor
namespace Go.Proofs.YtmefanagpkbjeaaDoor
open Go.RowKit Go.Shelf Go.Sort

/-- The kind of an item, and what stands behind its head. -/
def kI : It → Nat | .mk l _ _ => if l then 2 else 1
def bI : It → ByteArray | .mk l t xs => if l then encIs xs else t
theorem encI_eq (x : It) : encI x = hdK (kI x) (bI x) ++ bI x := by
  obtain ⟨l, t, xs⟩ := x
  cases l with
  | true => rfl
  | false =>
    show (if bare t then t else hdB 128 t.size ++ t) = (if bare t then ⟨#[]⟩ else hdB 128 t.size) ++ t
    cases bare t with
    | true => exact (ByteArray.empty_append).symm
    | false => rfl
theorem hdK_pos (k : Nat) (b : ByteArray) : 0 < (hdK k b ++ b).size := by
  unfold hdK
  rw [ByteArray.size_append]
  split
  · rw [hdB_hsz]; unfold hsz; split <;> omega
  · split
    · rename_i h
      unfold bare at h
      rw [Bool.and_eq_true] at h
      have := of_decide_eq_true h.1
      omega
    · rw [hdB_hsz]; unfold hsz; split <;> omega
theorem cutK_hd (k : Nat) (hk : k = 1 ∨ k = 2) (b r : ByteArray) (hb : b.size < 18446744073709551616) : cutK (hdK k b ++ b ++ r) = (k, b, r) := by
  unfold hdK
  rw [ByteArray.append_assoc]
  rcases hk with rfl | rfl
  · rw [if_neg (by decide)]
    cases hn : bare b with
    | true =>
      rw [if_pos rfl, show ((⟨#[]⟩ : ByteArray) ++ (b ++ r)) = b ++ r from ByteArray.empty_append]
      exact cut_bare b r hn
    | false =>
      rw [if_neg (by decide)]
      exact cut_text b r hb hn
  · rw [if_pos rfl]
    exact cut_list b r hb
theorem kI_or (x : It) : kI x = 1 ∨ kI x = 2 := by
  obtain ⟨l, t, xs⟩ := x
  cases l
  · exact .inl rfl
  · exact .inr rfl
theorem ps_enc (x : It) (r : ByteArray) (hb : (bI x).size < 18446744073709551616) : ps (encI x ++ r) = (kI x, bI x) :: ps r := by
  have hc := cutK_hd (kI x) (kI_or x) (bI x) r hb
  have hp := hdK_pos (kI x) (bI x)
  rw [encI_eq, ps_eq, hc, if_neg (by rw [ByteArray.size_append]; omega), if_neg (by have := kI_or x; dsimp only; omega)]
theorem encIs_le : ∀ (xs : List It) (x : It), x ∈ xs → (encI x).size ≤ (encIs xs).size
  | y :: r, x, h => by
    show _ ≤ (encI y ++ encIs r).size
    rw [ByteArray.size_append]
    rcases List.mem_cons.1 h with rfl | h
    · omega
    · have := encIs_le r x h
      omega
theorem bI_le (x : It) : (bI x).size ≤ (encI x).size := by
  rw [encI_eq, ByteArray.size_append]
  omega
theorem rgIs_mem : ∀ (xs : List It) (x : It), rgIs xs = true → x ∈ xs → rgI x = true
  | y :: r, x, h, hx => by
    have h' : (rgI y && rgIs r) = true := h
    rw [Bool.and_eq_true] at h'
    rcases List.mem_cons.1 hx with rfl | hx
    · exact h'.1
    · exact rgIs_mem r x h'.2 hx
theorem dec_list (F : Nat) : ∀ xs : List It, (encIs xs).size < 18446744073709551616 → (∀ x, x ∈ xs → one F (kI x, bI x) = some x) → comb (one F) (ps (encIs xs)) = some xs
  | [], _, _ => by
    show comb (one F) (ps ⟨#[]⟩) = _
    rw [ps_eq, if_pos (show (⟨#[]⟩ : ByteArray).size = 0 from rfl)]
    rfl
  | x :: r, hs, h => by
    have hs' : (encI x ++ encIs r).size < 18446744073709551616 := hs
    rw [ByteArray.size_append] at hs'
    have hb := bI_le x
    show comb (one F) (ps (encI x ++ encIs r)) = _
    rw [ps_enc x _ (by omega), comb_cons, h x (List.mem_cons_self ..), dec_list F r (by omega) (fun y hy => h y (List.mem_cons_of_mem _ hy))]
/-- What stands for an item is read as it was. -/
theorem one_enc : ∀ (m : Nat) (x : It), dprI m x = false → rgI x = true → (encI x).size < 18446744073709551616 → ∀ F, m ≤ F → one F (kI x, bI x) = some x
  | 0, x, h, _, _, _, _ => by cases h
  | m + 1, .mk l t xs, hd, hr, hs, F, hF => by
    have hr' : ((if l then decide (t.size = 0) else decide (xs.length = 0)) && rgIs xs) = true := hr
    rw [Bool.and_eq_true] at hr'
    cases l with
    | false =>
      have h0 : xs.length = 0 := of_decide_eq_true hr'.1
      obtain rfl := List.length_eq_zero_iff.1 h0
      rfl
    | true =>
      have h0 : t.size = 0 := of_decide_eq_true hr'.1
      rw [size_0 t h0]
      have hs' := bI_le (.mk true t xs)
      have hs2 : (encIs xs).size ≤ (encI (.mk true t xs)).size := hs'
      match F, hF with
      | F + 1, hF =>
        have hd' : xs.any (dprI m) = false := hd
        have : decF (F + 1) (encIs xs) = some xs := by
          rw [decF_succ]
          refine dec_list F xs (by omega) fun x hx => ?_
          have hle := encIs_le xs x hx
          refine one_enc m x ?_ (rgIs_mem xs x hr'.2 hx) (by omega) F (by omega)
          have := List.any_eq_false.1 hd' x hx
          simpa using this
        show (decF (F + 1) (encIs xs)).map (It.mk true ⟨#[]⟩) = _
        rw [this]
        rfl
theorem dec_enc {x : It} (h : eE x = 0) : decF 65537 (encI x) = some [x] := by
  obtain ⟨h1, h2, h3⟩ := eE_0 h
  have := dec_list 65536 [x] (by show (encI x ++ ⟨#[]⟩).size < _; rw [ByteArray.size_append]; show (encI x).size + 0 < _; omega) (fun y hy => by
    rw [List.mem_singleton] at hy
    subst hy
    exact one_enc 12 y h1 h2 (by omega) 65536 (by omega))
  rw [decF_succ]
  rw [show encIs [x] = encI x from ByteArray.append_empty] at this
  exact this
/-- What is read is written so again. -/
theorem enc_step (F : Nat) (hF : ∀ s its, s.size < F → decF F s = some its → encIs its = s ∧ rgIs its = true) : ∀ (n : Nat) (s : ByteArray), s.size ≤ n → s.size ≤ F → ∀ its, comb (one F) (ps s) = some its → encIs its = s ∧ rgIs its = true
  | n, s, hn, hsF, its, h => by
    rw [ps_eq] at h
    by_cases h0 : s.size = 0
    · rw [if_pos h0] at h
      cases h
      exact ⟨(size_0 s h0).symm, rfl⟩
    · rw [if_neg h0] at h
      by_cases h1 : (cutK s).1 = 0
      · rw [if_pos h1] at h
        cases h
      · rw [if_neg h1] at h
        obtain ⟨hk, hj⟩ := cutK_join s (by omega) h1
        have hlt := cutK_lt s (by omega) h1
        generalize cutK s = q at h hk hj hlt
        obtain ⟨k, b, r⟩ := q
        dsimp only at h hk hj hlt
        rw [comb_cons] at h
        cases ho : one F (k, b) with
        | none => rw [ho] at h; cases h
        | some x =>
          cases hr : comb (one F) (ps r) with
          | none => rw [ho, hr] at h; cases h
          | some l =>
            rw [ho, hr] at h
            cases h
            match n, hn with
            | 0, hn => omega
            | n + 1, hn =>
              obtain ⟨q1, q2⟩ := enc_step F hF n r (by omega) (by omega) l hr
              have hx : encI x = hdK k b ++ b ∧ rgI x = true := by
                rcases hk with rfl | rfl
                · cases ho
                  exact ⟨encI_eq (.mk false b []), rfl⟩
                · have ho' : (decF F b).map (It.mk true ⟨#[]⟩) = some x := ho
                  cases hd : decF F b with
                  | none => rw [hd] at ho'; cases ho'
                  | some l' =>
                    rw [hd] at ho'
                    cases ho'
                    have hb2 := hlt.2.1 rfl
                    obtain ⟨p1, p2⟩ := hF b l' (by omega) hd
                    refine ⟨?_, ?_⟩
                    · rw [encI_eq]
                      show hdK 2 (encIs l') ++ encIs l' = _
                      rw [p1]
                    · show (true && rgIs l') = true
                      rw [p2]
                      rfl
              refine ⟨?_, ?_⟩
              · show encI x ++ encIs l = s
                rw [hx.1, q1, ByteArray.append_assoc, hj]
              · show (rgI x && rgIs l) = true
                rw [hx.2, q2]
                rfl
theorem enc_all : ∀ (F : Nat) (s : ByteArray) (its : List It), s.size < F → decF F s = some its → encIs its = s ∧ rgIs its = true
  | 0, s, its, h, _ => by omega
  | F + 1, s, its, h, hd => enc_step F (enc_all F) s.size s (Nat.le_refl _) (by omega) its (by rw [decF_succ] at hd; exact hd)
theorem enc_dec {s : ByteArray} {y : It} (hs : s.size ≤ 65536) (h : decF 65537 s = some [y]) : encI y = s ∧ rgI y = true := by
  obtain ⟨h1, h2⟩ := enc_all 65537 s [y] (by omega) h
  rw [show encIs [y] = encI y from ByteArray.append_empty] at h1
  have h3 : (rgI y && true) = true := h2
  rw [Bool.and_true] at h3
  exact ⟨h1, h3⟩
/-- Bytes of an item with more behind them are no one's. -/
theorem dec_more {x : It} (h : eE x = 0) (more : ByteArray) (hm : 0 < more.size) (y : It) : decF 65537 (encI x ++ more) ≠ some [y] := by
  intro hd
  obtain ⟨h1, h2, h3⟩ := eE_0 h
  have hb := bI_le x
  rw [decF_succ, ps_enc x more (by omega), comb_cons] at hd
  cases ho : one 65536 (kI x, bI x) with
  | none => rw [ho] at hd; cases hd
  | some z =>
    cases hr : comb (one 65536) (ps more) with
    | none => rw [ho, hr] at hd; cases hd
    | some l =>
      rw [ho, hr] at hd
      cases hd
      rw [ps_eq, if_neg (by omega)] at hr
      split at hr
      · cases hr
      · rw [comb_cons] at hr
        cases h7 : one 65536 ((cutK more).1, (cutK more).2.1) <;> cases h8 : comb (one 65536) (ps (cutK more).2.2) <;> rw [h7, h8] at hr <;> cases hr
mutual
def tbI : It → Nat
  | .mk _ t xs => t.size + 9 + tbIs xs
def tbIs : List It → Nat
  | [] => 0
  | x :: r => tbI x + tbIs r
end
mutual
theorem tb_er : ∀ x, tb x = tbI (er x)
  | .mk l t a c xs => by show t.size + 9 + tbs xs = t.size + 9 + tbIs (ers xs); rw [tbs_er xs]
theorem tbs_er : ∀ xs, tbs xs = tbIs (ers xs)
  | [] => rfl
  | x :: r => by show tb x + tbs r = tbI (er x) + tbIs (ers r); rw [tb_er x, tbs_er r]
end
mutual
theorem tb_enc : ∀ x, rgI x = true → tbI x ≤ 10 * (encI x).size
  | .mk l t xs, h => by
    have h' : ((if l then decide (t.size = 0) else decide (xs.length = 0)) && rgIs xs) = true := h
    rw [Bool.and_eq_true] at h'
    have hx := tbs_enc xs h'.2
    have hp := hdK_pos (kI (.mk l t xs)) (bI (.mk l t xs))
    rw [encI_eq]
    rw [ByteArray.size_append] at hp ⊢
    cases l with
    | true =>
      have h0 : t.size = 0 := of_decide_eq_true h'.1
      have hh : 0 < (hdK (kI (.mk true t xs)) (bI (.mk true t xs))).size := by
        show 0 < (hdB 192 (encIs xs).size).size
        rw [hdB_hsz]; unfold hsz; split <;> omega
      have e : (bI (.mk true t xs)).size = (encIs xs).size := rfl
      show t.size + 9 + tbIs xs ≤ _
      omega
    | false =>
      have h0 : xs.length = 0 := of_decide_eq_true h'.1
      obtain rfl := List.length_eq_zero_iff.1 h0
      have e : (bI (.mk false t [])).size = t.size := rfl
      show t.size + 9 + 0 ≤ _
      omega
theorem tbs_enc : ∀ xs, rgIs xs = true → tbIs xs ≤ 10 * (encIs xs).size
  | [], _ => Nat.zero_le _
  | x :: r, h => by
    have h' : (rgI x && rgIs r) = true := h
    rw [Bool.and_eq_true] at h'
    have h1 := tb_enc x h'.1
    have h2 := tbs_enc r h'.2
    show tbI x + tbIs r ≤ 10 * (encI x ++ encIs r).size
    rw [ByteArray.size_append]
    omega
end
end Go.Proofs.YtmefanagpkbjeaaDoor
namespace Go.Proofs.YtmefanagpkbjeaaDoor
open Go.RowKit Go.Shelf Go.Sort

theorem back_item {x y : Im} {f : Int} (h : encE x = 0) (hd : DecR (encS x) y f) : f = 0 ∧ er y = er x := by
  rw [encE_er] at h
  have hs : encS x = encI (er x) := by rw [encS_er]; unfold eS; rw [if_pos h]
  obtain ⟨h1, h2, h3⟩ := eE_0 h
  have hdec := dec_enc h
  rw [hs] at hd
  rcases hd with ⟨k1, _, _⟩ | ⟨_, k2, _, _⟩ | ⟨_, y', k2, k3⟩
  · omega
  · exact absurd hdec (k2 _)
  · have he : er y' = er x := by
      rw [hdec] at k2
      injection k2 with k2
      injection k2 with k2
      exact k2.symm
    rcases k3 with ⟨k4, _, _⟩ | ⟨k4, rfl, rfl⟩
    · rw [deep_er, he, h1] at k4
      cases k4
    · exact ⟨rfl, he⟩
theorem back_bytes {s : ByteArray} {z : Im} (hd : DecR s z 0) : encE z = 0 ∧ encS z = s := by
  rcases hd with ⟨_, k1, _⟩ | ⟨_, _, k1, _⟩ | ⟨k0, y, k2, k3⟩
  · cases k1
  · cases k1
  · rcases k3 with ⟨_, k4, _⟩ | ⟨k4, _, rfl⟩
    · cases k4
    · obtain ⟨q1, q2⟩ := enc_dec k0 k2
      have h0 : eE (er z) = 0 := by
        unfold eE
        rw [deep_er] at k4
        rw [k4, q2, q1]
        simp only [Bool.false_eq_true, if_false, if_true]
        rw [if_neg (by omega)]
      rw [encE_er, encS_er]
      refine ⟨h0, ?_⟩
      unfold eS
      rw [if_pos h0, q1]
theorem decR_tb {s : ByteArray} {z : Im} {g : Int} (hd : DecR s z g) : tb z < 10000000 := by
  rcases hd with ⟨_, _, rfl⟩ | ⟨_, _, _, rfl⟩ | ⟨k0, y, k2, k3⟩
  · show 9 < _; decide
  · show 9 < _; decide
  · rcases k3 with ⟨_, _, rfl⟩ | ⟨_, _, rfl⟩
    · show 9 < _; decide
    · obtain ⟨q1, q2⟩ := enc_dec k0 k2
      have := tb_enc _ q2
      rw [q1] at this
      rw [tb_er]
      omega
theorem tb_cnt (x : Im) : cnt x ≤ tb x := cnt_tb (cnt x) x (Nat.le_refl _)
/-- An item's box, wherever. -/
theorem it_new (W : World) (x : Im) : ItIn W.heap.size x (W.alloc (.cells #[.bool x.l, .string x.t, x.sl] 70)) := World.alloc_heap_new W _
theorem be_new (W : World) (o : Obj) : Below W.heap.size W (W.alloc o) := (Below.refl _ W).alloc (Nat.le_refl _) _

end Go.Proofs.YtmefanagpkbjeaaDoor
namespace Go.Proofs.YtmefanagpkbjeaaDoor
open Go.RowKit Go.Shelf Go.Sort

theorem rgIs_take : ∀ (xs : List It) (k : Nat) (x : It), xs[k]? = some x → rgIs (xs.take (k + 1)) = (rgIs (xs.take k) && rgI x)
  | a :: r, 0, x, h => by
    cases h
    show (rgI a && true) = (true && rgI a)
    rw [Bool.and_true, Bool.true_and]
  | a :: r, k + 1, x, h => by
    show (rgI a && rgIs (r.take (k + 1))) = ((rgI a && rgIs (r.take k)) && rgI x)
    rw [rgIs_take r k x h, Bool.and_assoc]
  | [], _, _, h => by cases h
theorem rgIs_false : ∀ (xs : List It) (k : Nat), rgIs (xs.take k) = false → rgIs xs = false
  | [], k, h => by
    have e : ([] : List It).take k = [] := List.take_nil
    rw [e] at h
    cases h
  | a :: r, 0, h => by cases h
  | a :: r, k + 1, h => by
    have h' : (rgI a && rgIs (r.take k)) = false := h
    show (rgI a && rgIs r) = false
    cases hs : rgI a with
    | false => rfl
    | true =>
      rw [hs, Bool.true_and] at h'
      rw [rgIs_false r k h']
      rfl
def rg0 (l : Bool) (t : ByteArray) (xs : List Im) : Bool := if l then decide (t.size = 0) else decide (xs.length = 0)
theorem rgI_mk (l : Bool) (t : ByteArray) (a : Option Addr) (c : Nat) (xs : List Im) : rgI (er (.mk l t a c xs)) = (rg0 l t xs && rgIs (ers xs)) := by
  show ((if l then decide (t.size = 0) else decide ((ers xs).length = 0)) && rgIs (ers xs)) = _
  rw [ers_len]
  rfl

set_option maxRecDepth 20000 in
set_option maxHeartbeats 2000000 in
theorem rright_any : ∀ (M : Nat) (x : Im), cnt x ≤ M → cnt x < 100000000000000000 → ∀ (n : Nat) (w : World), n ≤ w.heap.size → inMem n w x →
    Calls Tryd.prog 90 #[x.val] w fun e w' => e = .returned (.bool (rgI (er x))) ∧ Below w.heap.size w w'
  | 0, x, h, _, _, _, _, _ => by rw [cnt_eq] at h; omega
  | M + 1, x, hM, hcnt, n, w, hn, hm => by
    have IH := fun (j : Nat) (a : Im) (ha : x.xs[j]? = some a) (w : World) hn hm => rright_any M a (by have := cnts_at x.xs j a ha; rw [cnt_eq] at hM; omega) (by have := cnts_at x.xs j a ha; rw [cnt_eq] at hcnt; omega) n w hn hm
    rw [inMem_eq] at hm
    have hl := len_cnts x.xs
    rw [cnt_eq] at hcnt
    obtain ⟨l, t, a, c, xs⟩ := x
    replace hm : rowMem n w a 0 xs := hm
    replace hl : xs.length ≤ cnts xs := hl
    replace hcnt : cnts xs + 1 < 100000000000000000 := hcnt
    have IH' : ∀ (j : Nat) (p : Im), xs[j]? = some p → ∀ w : World, n ≤ w.heap.size → inMem n w p → Calls Tryd.prog 90 #[p.val] w fun e w' => e = .returned (.bool (rgI (er p))) ∧ Below w.heap.size w w' := IH
    clear IH hM
    rw [rgI_mk]
    show Calls Tryd.prog 90 #[.agg #[.bool l, .string t, .slice a xs.length c]] w _
    have A1 : Below w.heap.size w (w.alloc (.cells #[.bool l, .string t, .slice a xs.length c] 70)) := be_new w _
    have hbx : ItIn w.heap.size (.mk l t a c xs) (w.alloc (.cells #[.bool l, .string t, .slice a xs.length c] 70)) := it_new w (.mk l t a c xs)
    have hloop : rg0 l t xs = true → Calls Tryd.prog 90 #[.agg #[.bool l, .string t, .slice a xs.length c]] w fun e w' => e = .returned (.bool (rg0 l t xs && rgIs (ers xs))) ∧ Below w.heap.size w w' := by
      intro hr
      rw [hr, Bool.true_and]
      obtain ⟨N, hN⟩ : ∃ N, xs.length = N := ⟨_, rfl⟩
      unfold rg0 at hr
      rw [hN] at hl A1 hbx hr ⊢
      have HN : Hid (xs.length = N) := hN
      clear hN
      cases l with
      | true =>
        have h0 := empty_list t (of_decide_eq_true hr)
        clear hr
        go_enter Tryd.func90, Tryd.ntmps90
        go_wp2_with fail
        refine wpOf (fun W => Below w.heap.size w W ∧ ItIn w.heap.size (.mk true t a c xs) W) ⟨A1, hbx⟩ ?_
        rintro w1 ⟨B1, hb1⟩
        clear hbx A1
        obtain ⟨z, hz⟩ : ∃ z, w.heap.size = z := ⟨_, rfl⟩
        rw [hz] at B1 hb1 hn ⊢
        go_loopg [3] N (fun gk i wr => ∃ k : Nat, k + gk = N ∧ i = .int .i64 k ∧ rgIs ((ers xs).take k) = true ∧ Below z w wr ∧ ItIn z (.mk true t a c xs) wr)
        case atStart => exact ⟨0, by omega, rfl, rfl, B1, hb1⟩
        case round =>
          obtain ⟨k, hk, rfl, hsm, BW, hbx⟩ := hrel
          have hzr := hbx.lt
          have d2 : wr.cell? ⟨z, 2, none⟩ = some (.slice a N c) := by rw [Lib.cell_of_heap hbx, ← HN.out]; rfl
          have hNN := HN.out
          by_cases hlt : k < N
          · have l1 : (k : Int) < N := by omega
            obtain ⟨p, hp⟩ : ∃ y, xs[k]? = some y := ⟨xs[k]'(by omega), List.getElem?_eq_getElem (by omega)⟩
            obtain ⟨⟨b, o, hb, rfl, c0, c1, c2⟩, hp2⟩ := row_at xs 0 hm k p hp
            have hp3 := inMem_below (by rw [hz]; exact hn) (BW.mono hn) p hp2
            have hbz : b < z := by omega
            replace c0 := (BW.cell (p := ⟨b, _, none⟩) hbz).trans c0
            replace c1 := (BW.cell (p := ⟨b, _, none⟩) hbz).trans c1
            replace c2 := (BW.cell (p := ⟨b, _, none⟩) hbz).trans c2
            obtain ⟨r, hr⟩ : ∃ p, o + 3 * k = p := ⟨_, rfl⟩
            rw [show o + 3 * (0 + k) = r by omega] at c0 c1 c2
            have hr2 : o + k * 3 = r := by omega
            have KS := IH' k p hp
            have hst := rgIs_take (ers xs) k (er p) (ers_at xs k p hp)
            rw [hsm, Bool.true_and] at hst
            obtain ⟨dy, hdy⟩ : ∃ q', rgI (er p) = q' := ⟨_, rfl⟩
            rw [hdy] at KS hst
            have wk : IntKind.i64.wrap ((k : Int) + 1) = ((k + 1 : Nat) : Int) := by rw [IntKind.wrap_i64]; omega
            clear hdy hp2 hNN
            obtain ⟨pl, pt, pa, pc, px⟩ := p
            simp only [Im.l, Im.t, Im.sl, Im.a, Im.xs, Im.c] at c0 c1 c2
            have HX : Hid (_ ∧ _ ∧ _) := ⟨hst, BW, hbx⟩
            clear hst hsm BW hbx
            dsimp only [Im.val, Im.l, Im.t, Im.sl, Im.a, Im.xs, Im.c] at KS
            go_wp2_with fail
            refine (KS _ (by omega) hp3).mono ?_
            rintro e w3 ⟨rfl, B3⟩
            clear KS hp3 c0 c1 c2
            cases dy with
            | false =>
              go_wp2
              go_ret
              refine ⟨?_, by rw [hz]; exact belowStep HX.out.2.1 (by omega) B3⟩
              rw [rgIs_false _ _ HX.out.1]
              rfl
            | true =>
              go_wp2
              go_roundg (gk - 1)
              case measure => omega
              case rel =>
                obtain ⟨hst, BW, hbx⟩ := HX.out
                exact ⟨k + 1, by omega, by first | rfl | (congr 1; omega), hst, belowStep BW (by omega) B3, (B3.block z hzr).trans hbx⟩
          · have hk2 : k = N := by omega
            have l1 : ¬ (k : Int) < N := by omega
            rw [hk2, List.take_of_length_le (by rw [ers_len]; omega)] at hsm
            have HX : Hid _ := hsm
            clear hsm hNN
            go_wp2
            go_ret
            exact ⟨by rw [HX.out]; rfl, BW⟩
      | false =>
        have h0 : N = 0 := of_decide_eq_true hr
        subst h0
        clear hr
        go_enter Tryd.func90, Tryd.ntmps90
        obtain rfl : xs = [] := List.length_eq_zero_iff.1 HN.out
        go_wp2_with fail
        refine wpOf (fun W => Below w.heap.size w W ∧ ItIn w.heap.size (.mk false t a c []) W) ⟨A1, hbx⟩ ?_
        rintro w1 ⟨B1, hb1⟩
        clear hbx A1
        obtain ⟨z, hz⟩ : ∃ z, w.heap.size = z := ⟨_, rfl⟩
        rw [hz] at B1 hb1 hn ⊢
        go_loopg [3] 0 (fun gk i wr => i = .int .i64 0 ∧ Below z w wr ∧ ItIn z (.mk false t a c []) wr)
        case atStart => exact ⟨rfl, B1, hb1⟩
        case round =>
          obtain ⟨rfl, BW, hbx⟩ := hrel
          have d2 : wr.cell? ⟨z, 2, none⟩ = some (.slice a 0 c) := by rw [Lib.cell_of_heap hbx]; rfl
          go_wp2
          go_ret
          exact ⟨rfl, by rw [hz]; exact BW⟩
    cases hr : rg0 l t xs with
    | true => rw [hr] at hloop; exact hloop rfl
    | false =>
      clear hloop hbx
      rw [Bool.false_and]
      unfold rg0 at hr
      cases l with
      | true =>
        have h0 : ¬ t.size = 0 := of_decide_eq_false hr
        have h1 := ne_empty t (by omega)
        clear hr
        go_enter Tryd.func90, Tryd.ntmps90
        go_wp2
        go_ret
        exact ⟨rfl, A1⟩
      | false =>
        have h0 : ¬ xs.length = 0 := of_decide_eq_false hr
        have h1 : (0 : Int) < xs.length := by omega
        clear hr
        go_enter Tryd.func90, Tryd.ntmps90
        go_wp2
        go_ret
        exact ⟨rfl, A1⟩
end Go.Proofs.YtmefanagpkbjeaaDoor
namespace Go.Proofs.YtmefanagpkbjeaaDoor
open Go.RowKit Go.Shelf Go.Sort

set_option maxRecDepth 20000 in
set_option maxHeartbeats 1000000 in
theorem rhead_any (base size : Nat) (hb : base ≤ 192) (hs : size < 1000000000000000000) (w : World) :
    Calls Tryd.prog 124 #[.int .i64 size, .int .u8 base] w fun e w' => e = .returned (.string (hdB base size)) ∧ Below w.heap.size w w' := by
  by_cases h : size < 56
  · have l : (size : Int) < 56 := by omega
    obtain ⟨d, hd⟩ : ∃ d, base + size = d := ⟨_, rfl⟩
    have hh : Hid (hdB base size = ⟨#[UInt8.ofNat d]⟩) := by unfold hdB; rw [if_pos h, hd]; exact rfl
    have w0 : IntKind.u8.wrap (size : Int) = size := by rw [IntKind.wrap_u8]; omega
    have w1 : IntKind.u8.wrap ((base : Int) + size) = d := by rw [IntKind.wrap_u8]; omega
    have w2 : (base : Int) + size = d := by omega
    have w3 : IntKind.u8.wrap (d : Int) = d := by rw [IntKind.wrap_u8]; omega
    have w4 : (d : Int) % 256 = d := by omega
    have w5 : (size : Int) % 256 = size := by omega
    have hcv := conv_one w d (by omega)
    clear hd
    go_enter Tryd.func124, Tryd.ntmps124
    go_wp2
    go_ret
    exact ⟨by rw [hh.out]; rfl, (Below.refl _ w).alloc (Nat.le_refl _) _⟩
  · have l : ¬ (size : Int) < 56 := by omega
    have hw : IntKind.u64.wrap (size : Int) = size := by rw [IntKind.wrap_u64]; omega
    have KN : Hid (∀ w : World, _) := fun w : World => rnumber_any size (by omega) w
    have hz : (numOf size).size = blen size := by8_size _ _
    have hm8 := blen_le size 8 (by omega)
    obtain ⟨d, hd⟩ : ∃ d, base + 55 + blen size = d := ⟨_, rfl⟩
    obtain ⟨s, hs'⟩ : ∃ s, numOf size = s := ⟨_, rfl⟩
    obtain ⟨one, hone, hos⟩ : ∃ x : ByteArray, ⟨#[UInt8.ofNat d]⟩ = x ∧ x.size = 1 := ⟨_, rfl, rfl⟩
    have hh : Hid (hdB base size = one ++ s) := by unfold hdB; rw [if_neg h, hd, hone, hs']; exact rfl
    rw [hs'] at KN hz
    have hz' : s.size ≤ 8 := by omega
    have hcv : ∀ w : World, _ := fun w => conv_one w d (by omega)
    rw [hone] at hcv
    have w0 : IntKind.u8.wrap (s.size : Int) = s.size := by rw [IntKind.wrap_u8]; omega
    have w5 : (s.size : Int) % 256 = s.size := by omega
    have w6 : IntKind.u8.wrap ((base : Int) + 55) = base + 55 := by rw [IntKind.wrap_u8]; omega
    have w7 : ((base : Int) + 55) % 256 = base + 55 := by omega
    have w2 : (base : Int) + 55 + s.size = d := by omega
    have w1 : IntKind.u8.wrap ((base : Int) + 55 + s.size) = d := by rw [IntKind.wrap_u8]; omega
    have w3 : IntKind.u8.wrap (d : Int) = d := by rw [IntKind.wrap_u8]; omega
    have w4 : (d : Int) % 256 = d := by omega
    have hsz : (one.size : Int) + s.size ≤ 9 := by omega
    clear hd hone hs' hz
    go_enter Tryd.func124, Tryd.ntmps124
    go_wp2_with fail
    refine (KN.out _).mono ?_
    rintro e w1 ⟨rfl, B1⟩
    have hcv1 := hcv w1
    clear hcv
    go_wp2
    go_ret
    exact ⟨by rw [hh.out]; rfl, B1.alloc B1.size _⟩
theorem encIs_take : ∀ (xs : List It) (k : Nat) (x : It), xs[k]? = some x → encIs (xs.take (k + 1)) = encIs (xs.take k) ++ encI x
  | a :: r, 0, x, h => by
    cases h
    show encI a ++ ⟨#[]⟩ = ⟨#[]⟩ ++ encI a
    rw [show encI a ++ ⟨#[]⟩ = encI a from ByteArray.append_empty, show (⟨#[]⟩ : ByteArray) ++ encI a = encI a from ByteArray.empty_append]
  | a :: r, k + 1, x, h => by
    show encI a ++ encIs (r.take (k + 1)) = (encI a ++ encIs (r.take k)) ++ encI x
    rw [encIs_take r k x h, ByteArray.append_assoc]
  | [], _, _, h => by cases h
theorem encIs_take_le : ∀ (xs : List It) (k : Nat), (encIs (xs.take k)).size ≤ (encIs xs).size
  | [], k => by
    have e : ([] : List It).take k = [] := List.take_nil
    rw [e]
    exact Nat.le_refl _
  | a :: r, 0 => Nat.zero_le _
  | a :: r, k + 1 => by
    show (encI a ++ encIs (r.take k)).size ≤ (encI a ++ encIs r).size
    rw [ByteArray.size_append, ByteArray.size_append]
    have := encIs_take_le r k
    omega

set_option maxRecDepth 20000 in
set_option maxHeartbeats 2000000 in
theorem rbytes_any : ∀ (M : Nat) (x : Im), cnt x ≤ M → rgI (er x) = true → tb x < 10000000 → ∀ (n : Nat) (w : World), n ≤ w.heap.size → inMem n w x →
    Calls Tryd.prog 91 #[x.val] w fun e w' => e = .returned (.string (encI (er x))) ∧ Below w.heap.size w w'
  | 0, x, h, _, _, _, _, _, _ => by rw [cnt_eq] at h; omega
  | M + 1, x, hM, hrg, htb, n, w, hn, hm => by
    have hsz := sz_er x hrg
    have hst := sz_tb x (by omega)
    have IH := fun (j : Nat) (a : Im) (ha : x.xs[j]? = some a) (hra : rgI (er a) = true) (w : World) hn hm => rbytes_any M a (by have := cnts_at x.xs j a ha; rw [cnt_eq] at hM; omega) hra (by have := tbs_at x.xs j a ha; rw [tb_eq] at htb; omega) n w hn hm
    rw [inMem_eq] at hm
    have hl := len_tbs x.xs
    rw [tb_eq] at htb
    obtain ⟨l, t, a, c, xs⟩ := x
    replace hm : rowMem n w a 0 xs := hm
    replace hl : xs.length ≤ tbs xs := hl
    replace htb : t.size + 9 + tbs xs < 10000000 := htb
    have IH' : ∀ (j : Nat) (p : Im), xs[j]? = some p → rgI (er p) = true → ∀ w : World, n ≤ w.heap.size → inMem n w p → Calls Tryd.prog 91 #[p.val] w fun e w' => e = .returned (.string (encI (er p))) ∧ Below w.heap.size w w' := IH
    clear IH hM
    have hse : (encI (er (.mk l t a c xs))).size < 10000000 := by
      have e : tb (.mk l t a c xs) = t.size + 9 + tbs xs := rfl
      omega
    clear hsz hst
    rw [rgI_mk, Bool.and_eq_true] at hrg
    have A1 : Below w.heap.size w (w.alloc (.cells #[.bool l, .string t, .slice a xs.length c] 70)) := be_new w _
    have hbx : ItIn w.heap.size (.mk l t a c xs) (w.alloc (.cells #[.bool l, .string t, .slice a xs.length c] 70)) := it_new w (.mk l t a c xs)
    cases l with
    | false =>
      show Calls Tryd.prog 91 #[.agg #[.bool false, .string t, .slice a xs.length c]] w fun e w' => e = .returned (.string (if bare t then t else hdB 128 t.size ++ t)) ∧ _
      clear hse
      cases hb : bare t with
      | true =>
        clear hbx
        unfold bare at hb
        rw [Bool.and_eq_true] at hb
        have h1 := of_decide_eq_true hb.1
        have h2 := of_decide_eq_true hb.2
        have l0 : (0 : Int) < t.size := by omega
        have l1 : (t.size : Int) = 1 := by omega
        have g0 := bt_get t 0 (by omega)
        obtain ⟨u, hu⟩ : ∃ u, bt t 0 = u := ⟨_, rfl⟩
        rw [hu] at g0 h2
        clear hb hu
        go_enter Tryd.func91, Tryd.ntmps91
        go_wp2
        go_ret
        exact ⟨rfl, A1⟩
      | false =>
        have KH := fun w => rhead_any 128 t.size (by decide) (by omega) w
        have hhs := hdB_size 128 t.size (by omega)
        obtain ⟨hd, hhd⟩ : ∃ q, hdB 128 t.size = q := ⟨_, rfl⟩
        rw [hhd] at KH hhs ⊢
        have hlen : (hd.size : Int) + t.size ≤ 13000000 := by omega
        have HH : Hid ((if false = true then t else hd ++ t) = hd ++ t) := rfl
        by_cases h1 : t.size = 1
        · have hb2 : ¬ bt t 0 < 128 := fun h => by unfold bare at hb; rw [decide_eq_true h1, decide_eq_true h] at hb; cases hb
          have l0 : (0 : Int) < t.size := by omega
          have l1 : (t.size : Int) = 1 := by omega
          have g0 := bt_get t 0 (by omega)
          obtain ⟨u, hu⟩ : ∃ u, bt t 0 = u := ⟨_, rfl⟩
          rw [hu] at g0 hb2
          clear hb hu
          rw [h1] at KH
          have hq : ¬ 9223372036854775807 < hd.size + 1 := by omega
          go_enter Tryd.func91, Tryd.ntmps91
          go_wp2_with fail
          refine wpOf (fun W => Below w.heap.size w W ∧ ItIn w.heap.size (.mk false t a c xs) W) ⟨A1, hbx⟩ ?_
          rintro w1 ⟨B1, hb1⟩
          clear hbx A1
          obtain ⟨z, hz⟩ : ∃ z, w.heap.size = z := ⟨_, rfl⟩
          rw [hz] at B1 hb1 hn ⊢
          have hzr := hb1.lt
          have G : ∀ (q : Addr) (v : Value), q.block < w1.heap.size → w1.cell? q = some v → ∀ d os, (grow (redrawn w1 d) os).cell? q = some v := fun q v hq hv d os => ((below_regrown w1 d os).cell hq).trans hv
          have q1 := G ⟨z, 1, none⟩ (.string t) hzr (by rw [Lib.cell_of_heap hb1]; rfl)
          have cH : ∀ d os, Calls Tryd.prog 124 #[.int .i64 1, .int .u8 128] (grow (redrawn w1 d) os) fun e w'' => e = .returned (.string hd) ∧ ∃ p : Regrown, w'' = grow (redrawn w1 p.d) p.os := fun d os => Calls.regrown_of (KH _)
          clear G KH
          refine wp_region_quiet_below (by kernel_rfl) (by kernel_rfl) ?_
          iterate 3 (quiet_step (fail))
          quiet_step (exact cH _ _)
          repeat (quiet_step (fail))
          refine wpQuiet_nil ?_
          rintro w3 hw3
          have B3 : Below w1.heap.size w1 w3 := by
            obtain ⟨p, rfl⟩ := hw3
            exact below_regrown _ _ _
          clear hw3 cH q1
          go_wp2
          go_ret
          exact ⟨rfl, belowStep B1 (by omega) B3⟩
        · have l1 : ¬ (t.size : Int) = 1 := by omega
          have l2 : ((t.size : Int) == 1) = false := by rw [beq_eq_false_iff_ne]; exact l1
          have hq : ¬ 9223372036854775807 < hd.size + t.size := by omega
          clear hb
          go_enter Tryd.func91, Tryd.ntmps91
          go_wp2_with fail
          refine wpOf (fun W => Below w.heap.size w W ∧ ItIn w.heap.size (.mk false t a c xs) W) ⟨A1, hbx⟩ ?_
          rintro w1 ⟨B1, hb1⟩
          clear hbx A1
          obtain ⟨z, hz⟩ : ∃ z, w.heap.size = z := ⟨_, rfl⟩
          rw [hz] at B1 hb1 hn ⊢
          have hzr := hb1.lt
          have G : ∀ (q : Addr) (v : Value), q.block < w1.heap.size → w1.cell? q = some v → ∀ d os, (grow (redrawn w1 d) os).cell? q = some v := fun q v hq hv d os => ((below_regrown w1 d os).cell hq).trans hv
          have q1 := G ⟨z, 1, none⟩ (.string t) hzr (by rw [Lib.cell_of_heap hb1]; rfl)
          have cH : ∀ d os, Calls Tryd.prog 124 #[.int .i64 t.size, .int .u8 128] (grow (redrawn w1 d) os) fun e w'' => e = .returned (.string hd) ∧ ∃ p : Regrown, w'' = grow (redrawn w1 p.d) p.os := fun d os => Calls.regrown_of (KH _)
          clear G KH
          refine wp_region_quiet_below (by kernel_rfl) (by kernel_rfl) ?_
          iterate 3 (quiet_step (fail))
          quiet_step (exact cH _ _)
          repeat (quiet_step (fail))
          refine wpQuiet_nil ?_
          rintro w3 hw3
          have B3 : Below w1.heap.size w1 w3 := by
            obtain ⟨p, rfl⟩ := hw3
            exact below_regrown _ _ _
          clear hw3 cH q1
          go_wp2
          go_ret
          exact ⟨rfl, belowStep B1 (by omega) B3⟩
    | true =>
      have ht0 : t.size = 0 := of_decide_eq_true hrg.1
      have KH := fun w => rhead_any 192 (encIs (ers xs)).size (by decide) (by
        have : (encI (er (.mk true t a c xs))).size = (hdB 192 (encIs (ers xs)).size ++ encIs (ers xs)).size := rfl
        rw [ByteArray.size_append] at this
        omega) w
      have hsz : (encIs (ers xs)).size < 10000000 := by
        have : (encI (er (.mk true t a c xs))).size = (hdB 192 (encIs (ers xs)).size ++ encIs (ers xs)).size := rfl
        rw [ByteArray.size_append] at this
        omega
      have hhs := hdB_size 192 (encIs (ers xs)).size (by omega)
      show Calls Tryd.prog 91 #[.agg #[.bool true, .string t, .slice a xs.length c]] w fun e w' => e = .returned (.string (hdB 192 (encIs (ers xs)).size ++ encIs (ers xs))) ∧ _
      obtain ⟨hd, hhd⟩ : ∃ q, hdB 192 (encIs (ers xs)).size = q := ⟨_, rfl⟩
      rw [hhd] at KH hhs ⊢
      clear hhd hse
      obtain ⟨N, hN⟩ : ∃ N, xs.length = N := ⟨_, rfl⟩
      rw [hN] at A1 hbx hl ⊢
      have hrs := hrg.2
      clear hrg
      have HN : Hid (xs.length = N) := hN
      clear hN
      go_enter Tryd.func91, Tryd.ntmps91
      go_wp2_with fail
      refine wpOf (fun W => Below w.heap.size w W ∧ ItIn w.heap.size (.mk true t a c xs) W) ⟨A1, hbx⟩ ?_
      rintro w1 ⟨B1, hb1⟩
      clear hbx A1
      obtain ⟨z, hz⟩ : ∃ z, w.heap.size = z := ⟨_, rfl⟩
      rw [hz] at B1 hb1 hn ⊢
      go_loopg [3, 4] N (fun gk v i wr => ∃ k : Nat, k + gk = N ∧ v = .string (encIs ((ers xs).take k)) ∧ i = .int .i64 k ∧ Below z w wr ∧ ItIn z (.mk true t a c xs) wr)
      case atStart => exact ⟨0, by omega, rfl, rfl, B1, hb1⟩
      case round =>
        obtain ⟨k, hk, rfl, rfl, BW, hbx⟩ := hrel
        have hzr := hbx.lt
        have d2 : wr.cell? ⟨z, 2, none⟩ = some (.slice a N c) := by rw [Lib.cell_of_heap hbx, ← HN.out]; rfl
        have hNN := HN.out
        by_cases hlt : k < N
        · have l1 : (k : Int) < N := by omega
          obtain ⟨p, hp⟩ : ∃ y, xs[k]? = some y := ⟨xs[k]'(by omega), List.getElem?_eq_getElem (by omega)⟩
          obtain ⟨⟨b, o, hb, rfl, c0, c1, c2⟩, hp2⟩ := row_at xs 0 hm k p hp
          have hp3 := inMem_below (by rw [hz]; exact hn) (BW.mono hn) p hp2
          have hbz : b < z := by omega
          replace c0 := (BW.cell (p := ⟨b, _, none⟩) hbz).trans c0
          replace c1 := (BW.cell (p := ⟨b, _, none⟩) hbz).trans c1
          replace c2 := (BW.cell (p := ⟨b, _, none⟩) hbz).trans c2
          obtain ⟨r, hr⟩ : ∃ p, o + 3 * k = p := ⟨_, rfl⟩
          rw [show o + 3 * (0 + k) = r by omega] at c0 c1 c2
          have hr2 : o + k * 3 = r := by omega
          have hpe := ers_at xs k p hp
          have KS := IH' k p hp (rgIs_mem _ _ hrs (List.mem_of_getElem? hpe))
          have hst := encIs_take (ers xs) k (er p) hpe
          have hle := encIs_take_le (ers xs) (k + 1)
          rw [hst, ByteArray.size_append] at hle
          obtain ⟨s1, hs1⟩ : ∃ q, encIs ((ers xs).take k) = q := ⟨_, rfl⟩
          obtain ⟨s2, hs2⟩ : ∃ q, encI (er p) = q := ⟨_, rfl⟩
          rw [hs1, hs2] at hst hle
          rw [hs2] at KS
          rw [hs1]
          have hq : ¬ 9223372036854775807 < s1.size + s2.size := by omega
          have hq2 : (s1.size : Int) + s2.size ≤ 13000000 := by omega
          have wk : IntKind.i64.wrap ((k : Int) + 1) = ((k + 1 : Nat) : Int) := by rw [IntKind.wrap_i64]; omega
          clear hp2 hNN hs1 hs2 hpe hle
          obtain ⟨pl, pt, pa, pc, px⟩ := p
          simp only [Im.l, Im.t, Im.sl, Im.a, Im.xs, Im.c] at c0 c1 c2
          have HX : Hid (_ ∧ _ ∧ _) := ⟨hst, BW, hbx⟩
          clear hst BW hbx
          dsimp only [Im.val, Im.l, Im.t, Im.sl, Im.a, Im.xs, Im.c] at KS
          go_wp2_with fail
          refine (KS _ (by omega) hp3).mono ?_
          rintro e w3 ⟨rfl, B3⟩
          clear KS hp3 c0 c1 c2
          go_wp2
          go_roundg (gk - 1)
          case measure => omega
          case rel =>
            obtain ⟨hst, BW, hbx⟩ := HX.out
            exact ⟨k + 1, by omega, by rw [hst], by first | rfl | (congr 1; omega), belowStep BW (by omega) B3, (B3.block z hzr).trans hbx⟩
        · have hk2 : k = N := by omega
          have l1 : ¬ (k : Int) < N := by omega
          rw [hk2, List.take_of_length_le (by rw [ers_len]; omega)]
          obtain ⟨s1, hs1⟩ : ∃ q, encIs (ers xs) = q := ⟨_, rfl⟩
          rw [hs1] at KH hsz ⊢
          have HS1 : Hid (encIs (ers xs) = s1) := hs1
          clear hs1
          rw [hk2] at l1
          have hq : ¬ 9223372036854775807 < hd.size + s1.size := by omega
          have hq2 : (hd.size : Int) + s1.size ≤ 13000000 := by omega
          clear hNN hbx
          go_wp2_with fail
          refine (KH _).mono ?_
          rintro e w3 ⟨rfl, B3⟩
          clear KH
          go_wp2
          go_ret
          refine ⟨?_, ?_⟩
          · rw [HS1.out]
            rfl
          · rw [hz]
            exact belowStep BW (by omega) B3

set_option maxRecDepth 20000 in
set_option maxHeartbeats 2000000 in
theorem rencode_any (x : Im) (htb : tb x < 10000000) (n : Nat) (w : World) (hn : n ≤ w.heap.size) (hm : inMem n w x) :
    Calls Tryd.prog 45 #[x.val] w fun e w' => e = .returned (.tuple #[.string (encS x), .int .i64 (encE x)]) ∧ Below w.heap.size w w' := by
  have hcx := tb_cnt x
  have KD := fun w hn hm => rdeep_any 12 x (by decide) (by omega) n w hn hm
  have KR := fun w hn hm => rright_any (cnt x) x (Nat.le_refl _) (by omega) n w hn hm
  have KB := fun hr w hn hm => rbytes_any (cnt x) x (Nat.le_refl _) hr htb n w hn hm
  rw [encE_er, encS_er]
  have HE : Hid (eE (er x) = if dprI 12 (er x) then 41 else if rgI (er x) then (if 65536 < (encI (er x)).size then 42 else 0) else 2) := rfl
  have HS : Hid (eS (er x) = if eE (er x) = 0 then encI (er x) else ⟨#[]⟩) := rfl
  rw [dpr_er] at KD
  obtain ⟨dp, hdp⟩ : ∃ q, dprI 12 (er x) = q := ⟨_, rfl⟩
  obtain ⟨rg, hrg⟩ : ∃ q, rgI (er x) = q := ⟨_, rfl⟩
  obtain ⟨s, hs⟩ : ∃ q, encI (er x) = q := ⟨_, rfl⟩
  obtain ⟨E, hE⟩ : ∃ q, eE (er x) = q := ⟨_, rfl⟩
  obtain ⟨S, hS⟩ : ∃ q, eS (er x) = q := ⟨_, rfl⟩
  rw [hdp] at KD HE
  rw [hrg] at KR KB HE
  rw [hs] at KB HE HS
  rw [hE] at HE HS ⊢
  rw [hS] at HS ⊢
  clear hdp hrg hs hE hS hcx htb
  have HM : Hid (∀ W, Below w.heap.size w W → n ≤ W.heap.size ∧ inMem n W x) := fun W hB => ⟨Nat.le_trans hn hB.size, inMem_below hn (hB.mono hn) _ hm⟩
  have hb0 := it_new w x
  have A0 := be_new w (.cells #[.bool x.l, .string x.t, x.sl] 70)
  clear hm
  obtain ⟨xl, xt, xa, xc, xx⟩ := x
  dsimp only [Im.val, Im.l, Im.t, Im.sl, Im.a, Im.xs, Im.c] at KD KR KB hb0 A0 ⊢
  go_enter Tryd.func45, Tryd.ntmps45
  go_wp2_with fail
  refine (KD _ (HM.out _ A0).1 (HM.out _ A0).2).mono ?_
  rintro e w1 ⟨rfl, B1⟩
  have hb1 : ItIn w.heap.size (.mk xl xt xa xc xx) w1 := (B1.block _ hb0.lt).trans hb0
  have BW := belowStep A0 A0.size B1
  clear KD A0 B1 hb0
  cases dp with
  | true =>
    have hE : E = 41 := HE.out
    have hS : S = ⟨#[]⟩ := by rw [HS.out, if_neg (by omega)]
    subst hE hS
    go_wp2
    refine bodyPost_ret (v := .tuple #[.string ⟨#[]⟩, .int .i64 41]) (by simp [results, Tryd.results45, go_sem]) rfl ⟨rfl, BW⟩
  | false =>
    have q0 : w1.cell? ⟨w.heap.size, 0, none⟩ = some (.bool xl) := by rw [Lib.cell_of_heap hb1]; rfl
    have q1 : w1.cell? ⟨w.heap.size, 1, none⟩ = some (.string xt) := by rw [Lib.cell_of_heap hb1]; rfl
    have q2 : w1.cell? ⟨w.heap.size, 2, none⟩ = some (.slice xa xx.length xc) := by rw [Lib.cell_of_heap hb1]; rfl
    go_wp2_with fail
    refine (KR _ (HM.out _ BW).1 (HM.out _ BW).2).mono ?_
    rintro e w2 ⟨rfl, B2⟩
    have hb2 : ItIn w.heap.size (.mk xl xt xa xc xx) w2 := (B2.block _ hb1.lt).trans hb1
    replace BW := belowStep BW BW.size B2
    clear KR B2 hb1 q0 q1 q2
    cases rg with
    | false =>
      have hE : E = 2 := HE.out
      have hS : S = ⟨#[]⟩ := by rw [HS.out, if_neg (by omega)]
      subst hE hS
      go_wp2
      refine bodyPost_ret (v := .tuple #[.string ⟨#[]⟩, .int .i64 2]) (by simp [results, Tryd.results45, go_sem]) rfl ⟨rfl, BW⟩
    | true =>
      have q0 : w2.cell? ⟨w.heap.size, 0, none⟩ = some (.bool xl) := by rw [Lib.cell_of_heap hb2]; rfl
      have q1 : w2.cell? ⟨w.heap.size, 1, none⟩ = some (.string xt) := by rw [Lib.cell_of_heap hb2]; rfl
      have q2 : w2.cell? ⟨w.heap.size, 2, none⟩ = some (.slice xa xx.length xc) := by rw [Lib.cell_of_heap hb2]; rfl
      go_wp2_with fail
      refine (KB trivial _ (HM.out _ BW).1 (HM.out _ BW).2).mono ?_
      rintro e w3 ⟨rfl, B3⟩
      replace BW := belowStep BW BW.size B3
      clear KB B3 hb2 q0 q1 q2
      by_cases hl : 65536 < s.size
      · have l1 : (65536 : Int) < s.size := by omega
        have hE : E = 42 := by rw [HE.out]; simp [hl]
        have hS : S = ⟨#[]⟩ := by rw [HS.out, if_neg (by omega)]
        subst hE hS
        go_wp2
        refine bodyPost_ret (v := .tuple #[.string ⟨#[]⟩, .int .i64 42]) (by simp [results, Tryd.results45, go_sem]) rfl ⟨rfl, BW⟩
      · have l1 : ¬ (65536 : Int) < s.size := by omega
        have hE : E = 0 := by rw [HE.out]; simp [hl]
        have hS : S = s := by rw [HS.out, if_pos hE]
        subst hE hS
        go_wp2
        refine bodyPost_ret (v := .tuple #[.string S, .int .i64 0]) (by simp [results, Tryd.results45, go_sem]) rfl ⟨rfl, BW⟩
end Go.Proofs.YtmefanagpkbjeaaDoor
namespace Go.Proofs.YtmefanagpkbjeaaDoor
open Go.RowKit Go.Shelf Go.Sort

/-- A part of a message: a number, a text, texts, a list of parts; and where it lies. -/
inductive Pt where
  | num (a : Addr)
  | txt (a : Addr)
  | txs (a : Addr)
  | lst (a : Option Addr) (c : Nat) (ps : List Pt)
namespace Pt
def val : Pt → Value
  | num a => .iface 148 (.agg #[.pointer (some a)])
  | txt a => .iface 151 (.agg #[.pointer (some a)])
  | txs a => .iface 143 (.agg #[.pointer (some a)])
  | lst a c ps => .iface 145 (.slice a ps.length c)
end Pt
mutual
/-- The lists of parts lie in blocks of a kind. -/
def skIn (P : Nat → Prop) (W : World) : Pt → Prop
  | .num _ => True
  | .txt _ => True
  | .txs _ => True
  | .lst a _ ps => skRow P W a 0 ps
def skRow (P : Nat → Prop) (W : World) (a : Option Addr) : Nat → List Pt → Prop
  | _, [] => True
  | i, p :: r => (∃ b o, P b ∧ a = some ⟨b, o, none⟩ ∧ W.cell? ⟨b, o + i, none⟩ = some p.val) ∧ skIn P W p ∧ skRow P W a (i + 1) r
end
mutual
/-- Where the numbers, texts, lists of texts of a part lie. -/
def lvP : Pt → List Addr
  | .num a => [a]
  | .txt a => [a]
  | .txs a => [a]
  | .lst _ _ ps => lvPL ps
def lvPL : List Pt → List Addr
  | [] => []
  | p :: r => lvP p ++ lvPL r
end
/-- Texts lie in blocks of a kind. -/
def slP (P : Nat → Prop) (W : World) (a : Option Addr) (ts : List ByteArray) : Prop := ts = [] ∨ ∃ b o, a = some ⟨b, o, none⟩ ∧ P b ∧ ∀ j t, ts[j]? = some t → W.cell? ⟨b, o + j, none⟩ = some (.string t)
def tI (t : ByteArray) : It := .mk false t []
mutual
/-- What a part tells: its item. -/
def dtIs (P : Nat → Prop) (W : World) : Pt → It → Prop
  | .num a, x => ∃ n : Nat, n < 18446744073709551616 ∧ W.cell? a = some (.int .u64 n) ∧ x = tI (numOf n)
  | .txt a, x => ∃ t, W.cell? a = some (.string t) ∧ x = tI t
  | .txs a, x => ∃ s c ts, W.cell? a = some (.slice s ts.length c) ∧ slP P W s ts ∧ x = .mk true ⟨#[]⟩ (ts.map tI)
  | .lst _ _ ps, x => ∃ xs, x = .mk true ⟨#[]⟩ xs ∧ dtAll P W ps xs
def dtAll (P : Nat → Prop) (W : World) : List Pt → List It → Prop
  | [], xs => xs = []
  | p :: r, xs => ∃ y s, xs = y :: s ∧ dtIs P W p y ∧ dtAll P W r s
end
def lI : It → Bool | .mk l _ _ => l
def tOf : It → ByteArray | .mk _ t _ => t
def xsOf : It → List It | .mk _ _ xs => xs
mutual
/-- Is an item such a part's? -/
def rdS : Pt → It → Bool
  | .num _, x => !lI x && decide (vE (tOf x) = 0)
  | .txt _, x => !lI x
  | .txs _, x => lI x && (xsOf x).all (fun y => !lI y)
  | .lst _ _ ps, x => lI x && rdL ps (xsOf x)
def rdL : List Pt → List It → Bool
  | [], xs => xs.isEmpty
  | p :: r, xs => match xs with
    | [] => false
    | y :: s => rdS p y && rdL r s
end

theorem slP_of {P Q : Nat → Prop} {W W' : World} (h : ∀ b, P b → Q b ∧ ∀ k, W'.cell? ⟨b, k, none⟩ = W.cell? ⟨b, k, none⟩) {a : Option Addr} {ts : List ByteArray} (hp : slP P W a ts) : slP Q W' a ts := by
  rcases hp with rfl | ⟨b, o, ha, hb, hc⟩
  · exact .inl rfl
  · exact .inr ⟨b, o, ha, (h b hb).1, fun j t ht => ((h b hb).2 _).trans (hc j t ht)⟩
mutual
theorem skIn_of {P Q : Nat → Prop} {W W' : World} (h : ∀ b, P b → Q b ∧ ∀ k, W'.cell? ⟨b, k, none⟩ = W.cell? ⟨b, k, none⟩) : ∀ p, skIn P W p → skIn Q W' p
  | .num _, _ => trivial
  | .txt _, _ => trivial
  | .txs _, _ => trivial
  | .lst a _ ps, hp => skRow_of h a 0 ps hp
theorem skRow_of {P Q : Nat → Prop} {W W' : World} (h : ∀ b, P b → Q b ∧ ∀ k, W'.cell? ⟨b, k, none⟩ = W.cell? ⟨b, k, none⟩) (a : Option Addr) : ∀ i ps, skRow P W a i ps → skRow Q W' a i ps
  | _, [], _ => trivial
  | i, p :: r, ⟨⟨b, o, h0, h1, h2⟩, h3, h4⟩ => ⟨⟨b, o, (h b h0).1, h1, ((h b h0).2 _).trans h2⟩, skIn_of h p h3, skRow_of h a (i + 1) r h4⟩
end
mutual
theorem dtIs_of {P Q : Nat → Prop} {W W' : World} (h : ∀ b, P b → Q b ∧ ∀ k, W'.cell? ⟨b, k, none⟩ = W.cell? ⟨b, k, none⟩) : ∀ p x, (∀ a, a ∈ lvP p → W'.cell? a = W.cell? a) → dtIs P W p x → dtIs Q W' p x
  | .num a, _, hl, ⟨n, h1, h2, h3⟩ => ⟨n, h1, (hl a (List.mem_singleton.2 rfl)).trans h2, h3⟩
  | .txt a, _, hl, ⟨t, h2, h3⟩ => ⟨t, (hl a (List.mem_singleton.2 rfl)).trans h2, h3⟩
  | .txs a, _, hl, ⟨s, c, ts, h1, h2, h3⟩ => ⟨s, c, ts, (hl a (List.mem_singleton.2 rfl)).trans h1, slP_of h h2, h3⟩
  | .lst _ _ ps, _, hl, ⟨xs, h1, h2⟩ => ⟨xs, h1, dtAll_of h ps xs hl h2⟩
theorem dtAll_of {P Q : Nat → Prop} {W W' : World} (h : ∀ b, P b → Q b ∧ ∀ k, W'.cell? ⟨b, k, none⟩ = W.cell? ⟨b, k, none⟩) : ∀ ps xs, (∀ a, a ∈ lvPL ps → W'.cell? a = W.cell? a) → dtAll P W ps xs → dtAll Q W' ps xs
  | [], _, _, h1 => h1
  | p :: r, _, hl, ⟨y, s, h1, h2, h3⟩ => ⟨y, s, h1, dtIs_of h p y (fun a ha => hl a (List.mem_append_left _ ha)) h2, dtAll_of h r s (fun a ha => hl a (List.mem_append_right _ ha)) h3⟩
end
theorem sk_at {P : Nat → Prop} {W : World} {a : Option Addr} : ∀ (ps : List Pt) (i : Nat), skRow P W a i ps → ∀ (j : Nat) (p : Pt), ps[j]? = some p →
    (∃ b o, P b ∧ a = some ⟨b, o, none⟩ ∧ W.cell? ⟨b, o + (i + j), none⟩ = some p.val) ∧ skIn P W p
  | [], _, _, _, _, h => by cases h
  | q :: r, i, h, 0, p, hp => by
    cases hp
    exact ⟨h.1, h.2.1⟩
  | q :: r, i, h, j + 1, p, hp => by
    have := sk_at r (i + 1) h.2.2 j p hp
    rwa [show i + 1 + j = i + (j + 1) by omega] at this
theorem dt_len {P : Nat → Prop} {W : World} : ∀ (ps : List Pt) (xs : List It), dtAll P W ps xs → xs.length = ps.length
  | [], xs, h => by
    have h : xs = [] := h
    rw [h]
    rfl
  | p :: r, xs, ⟨y, s, h1, _, h3⟩ => by rw [h1, List.length_cons, List.length_cons, dt_len r s h3]
theorem dt_at {P : Nat → Prop} {W : World} : ∀ (ps : List Pt) (xs : List It), dtAll P W ps xs → ∀ (j : Nat) (p : Pt), ps[j]? = some p → ∃ y, xs[j]? = some y ∧ dtIs P W p y
  | [], _, _, _, _, h => by cases h
  | q :: r, xs, ⟨y, s, h1, h2, h3⟩, 0, p, hp => by
    cases hp
    exact ⟨y, by rw [h1]; rfl, h2⟩
  | q :: r, xs, ⟨y, s, h1, h2, h3⟩, j + 1, p, hp => by
    obtain ⟨z, hz, hd⟩ := dt_at r s h3 j p hp
    exact ⟨z, by rw [h1]; exact hz, hd⟩
theorem dt_snoc {P : Nat → Prop} {W : World} : ∀ (ps : List Pt) (xs : List It) (p : Pt) (y : It), dtAll P W ps xs → dtIs P W p y → dtAll P W (ps ++ [p]) (xs ++ [y])
  | [], xs, p, y, h1, h2 => by
    have h1 : xs = [] := h1
    subst h1
    exact ⟨y, [], rfl, h2, rfl⟩
  | q :: r, xs, p, y, ⟨z, s, h1, h3, h4⟩, h2 => ⟨z, s ++ [y], by rw [h1]; rfl, h3, dt_snoc r s p y h4 h2⟩
theorem lv_at : ∀ (ps : List Pt) (j : Nat) (p : Pt), ps[j]? = some p → ∀ a, a ∈ lvP p → a ∈ lvPL ps
  | [], _, _, h, _, _ => by cases h
  | q :: r, 0, p, h, a, ha => by
    cases h
    exact List.mem_append_left _ ha
  | q :: r, j + 1, p, h, a, ha => List.mem_append_right _ (lv_at r j p h a ha)
theorem lv_take : ∀ (ps : List Pt) (k : Nat) (a : Addr), a ∈ lvPL (ps.take k) → a ∈ lvPL ps
  | [], k, a, h => by
    have e : ([] : List Pt).take k = [] := List.take_nil
    rwa [e] at h
  | q :: r, 0, a, h => by cases h
  | q :: r, k + 1, a, h => by
    rcases List.mem_append.1 (show a ∈ lvP q ++ lvPL (r.take k) from h) with h | h
    · exact List.mem_append_left _ h
    · exact List.mem_append_right _ (lv_take r k a h)
theorem lv_snoc : ∀ (ps : List Pt) (p : Pt), lvPL (ps ++ [p]) = lvPL ps ++ lvP p
  | [], p => by
    show lvP p ++ [] = [] ++ lvP p
    simp
  | q :: r, p => by
    show lvP q ++ lvPL (r ++ [p]) = lvP q ++ lvPL r ++ lvP p
    rw [lv_snoc r p, List.append_assoc]
/-- The places of one part are none of those ahead. -/
theorem lv_apart : ∀ (ps : List Pt), (lvPL ps).Nodup → ∀ (k : Nat) (p : Pt), ps[k]? = some p → (lvP p).Nodup ∧ ∀ a, a ∈ lvPL (ps.take k) → a ∉ lvP p
  | [], _, _, _, h => by cases h
  | q :: r, hn, 0, p, h => by
    cases h
    have hn : (lvP q ++ lvPL r).Nodup := hn
    exact ⟨(List.nodup_append.1 hn).1, fun a ha => by cases ha⟩
  | q :: r, hn, k + 1, p, h => by
    have hn : (lvP q ++ lvPL r).Nodup := hn
    obtain ⟨h1, h2, h3⟩ := List.nodup_append.1 hn
    obtain ⟨h4, h5⟩ := lv_apart r h2 k p h
    refine ⟨h4, fun a ha hp => ?_⟩
    rcases List.mem_append.1 (show a ∈ lvP q ++ lvPL (r.take k) from ha) with h6 | h6
    · exact h3 a h6 a (lv_at r k p h a hp) rfl
    · exact h5 a h6 hp
theorem rdL_len : ∀ (ps : List Pt) (xs : List It), rdL ps xs = true → xs.length = ps.length
  | [], [], _ => rfl
  | [], _ :: _, h => by cases h
  | p :: r, [], h => by cases h
  | p :: r, y :: s, h => by
    have h : (rdS p y && rdL r s) = true := h
    rw [Bool.and_eq_true] at h
    rw [List.length_cons, List.length_cons, rdL_len r s h.2]
theorem rdL_take : ∀ (ps : List Pt) (xs : List It), xs.length = ps.length → ∀ (k : Nat) (p : Pt) (y : It), ps[k]? = some p → xs[k]? = some y → rdL (ps.take (k + 1)) (xs.take (k + 1)) = (rdL (ps.take k) (xs.take k) && rdS p y)
  | [], _, _, _, _, _, h, _ => by cases h
  | p :: r, [], h, _, _, _, _, _ => by cases h
  | p :: r, y :: s, h, 0, _, _, h1, h2 => by
    cases h1
    cases h2
    show (rdS p y && true) = (true && rdS p y)
    rw [Bool.and_true, Bool.true_and]
  | p :: r, y :: s, h, k + 1, p', y', h1, h2 => by
    show (rdS p y && rdL (r.take (k + 1)) (s.take (k + 1))) = ((rdS p y && rdL (r.take k) (s.take k)) && rdS p' y')
    rw [rdL_take r s (by simpa using h) k p' y' h1 h2, Bool.and_assoc]
theorem rdL_false : ∀ (ps : List Pt) (xs : List It) (k : Nat), xs.length = ps.length → rdL (ps.take k) (xs.take k) = false → rdL ps xs = false
  | [], _, k, _, h => by
    rename_i xs hl
    have e : ([] : List Pt).take k = [] := List.take_nil
    have : xs = [] := List.length_eq_zero_iff.1 hl
    subst this
    rw [e, List.take_nil] at h
    cases h
  | p :: r, [], k, hl, _ => by cases hl
  | p :: r, y :: s, 0, _, h => by cases h
  | p :: r, y :: s, k + 1, hl, h => by
    have h : (rdS p y && rdL (r.take k) (s.take k)) = false := h
    show (rdS p y && rdL r s) = false
    cases hp : rdS p y with
    | false => rfl
    | true =>
      rw [hp, Bool.true_and] at h
      rw [rdL_false r s k (by simpa using hl) h]
      rfl
theorem rgI_txt {x : It} (h : rgI x = true) (hl : lI x = false) : x = tI (tOf x) := by
  obtain ⟨l, t, xs⟩ := x
  have hl : l = false := hl
  subst hl
  have h : ((if false then decide (t.size = 0) else decide (xs.length = 0)) && rgIs xs) = true := h
  rw [Bool.and_eq_true] at h
  have : xs = [] := List.length_eq_zero_iff.1 (of_decide_eq_true h.1)
  subst this
  rfl
theorem rgI_lst {x : It} (h : rgI x = true) (hl : lI x = true) : x = .mk true ⟨#[]⟩ (xsOf x) ∧ rgIs (xsOf x) = true := by
  obtain ⟨l, t, xs⟩ := x
  have hl : l = true := hl
  subst hl
  have h : ((if true then decide (t.size = 0) else decide (xs.length = 0)) && rgIs xs) = true := h
  rw [Bool.and_eq_true] at h
  have : t = ⟨#[]⟩ := size_0 t (of_decide_eq_true h.1)
  subst this
  exact ⟨rfl, h.2⟩
/-- A block of so many cells. -/
def Ld (q : Nat) (ty : TypeId) (N : Nat) (W : World) : Prop := ∃ cs : Array Value, W.heap[q]? = some (.cells cs ty (0, 0)) ∧ cs.size = N
theorem Ld.lt {q : Nat} {ty : TypeId} {N : Nat} {W : World} (h : Ld q ty N W) : q < W.heap.size := by
  obtain ⟨cs, h, _⟩ := h
  exact (Array.getElem?_eq_some_iff.1 h).1
theorem Ld.fr {q : Nat} {ty : TypeId} {N : Nat} {W : World} (h : Ld q ty N W) (o : Nat) : W.frozen? ⟨q, o, none⟩ = false := by
  obtain ⟨cs, h, _⟩ := h
  exact Lib.frozen_of_heap h o
theorem Ld.has {q : Nat} {ty : TypeId} {N : Nat} {W : World} (h : Ld q ty N W) {o : Nat} (ho : o < N) : ∃ v, W.cell? ⟨q, o, none⟩ = some v := by
  obtain ⟨cs, h, hs⟩ := h
  rw [Lib.cell_of_heap h]
  exact ⟨_, Array.getElem?_eq_getElem (by omega)⟩
theorem Ld.below {q : Nat} {ty : TypeId} {N : Nat} {W W' : World} (h : Ld q ty N W) (hb : Below W.heap.size W W') : Ld q ty N W' := by
  have hl := h.lt
  obtain ⟨cs, h, hs⟩ := h
  exact ⟨cs, (hb.block q hl).trans h, hs⟩
end Go.Proofs.YtmefanagpkbjeaaDoor
namespace Go.Proofs.YtmefanagpkbjeaaDoor
open Go.RowKit Go.Shelf Go.Sort

theorem two_boxes (w : World) (o1 o2 : Obj) : Below w.heap.size w ((w.alloc o1).alloc o2) ∧ ((w.alloc o1).alloc o2).heap[w.heap.size]? = some o1 ∧ ((w.alloc o1).alloc o2).heap[w.heap.size + 1]? = some o2 := by
  refine ⟨((Below.refl _ w).alloc (Nat.le_refl _) _).alloc (by simp) _, (Lib.alloc_old _ _ _ (by simp)).trans (World.alloc_heap_new w _), ?_⟩
  have := World.alloc_heap_new (w.alloc o1) o2
  rwa [World.size_alloc] at this
set_option maxHeartbeats 1000000 in
theorem numItem_any (a : Addr) (n : Nat) (hn : n < 18446744073709551616) (w : World) (hb : a.block < w.heap.size) (ha : w.cell? a = some (.int .u64 n)) :
    Calls Tryd.prog 174 #[.agg #[.pointer (some a)]] w fun e w' => e = .returned (txt (numOf n)).val ∧ Below w.heap.size w w' := by
  have KN := fun w => number_any n hn w
  have KT := fun w => text_any (numOf n) w
  obtain ⟨s, hs⟩ : ∃ s, numOf n = s := ⟨_, rfl⟩
  rw [hs] at KN KT ⊢
  clear hs
  obtain ⟨A1, _, hx⟩ := two_boxes w (.cells #[.pointer (some a)] 148) (.cells #[.bool false, .string ⟨#[]⟩, .slice none 0 0] 70)
  have c0 := (A1.cell hb).trans ha
  go_enter Tryd.func174, Tryd.ntmps174
  go_wp2_with fail
  refine (KN _).mono ?_
  rintro e w1 ⟨rfl, B1⟩
  have hx1 := (B1.block (w.heap.size + 1) (by simp <;> omega)).trans hx
  have A2 := belowStep A1 (by simp <;> omega) B1
  clear A1 B1 hx c0 ha KN
  go_wp2_with fail
  refine (KT _).mono ?_
  rintro e w2 ⟨rfl, B2⟩
  have hx2 := (B2.block (w.heap.size + 1) (by have := (Array.getElem?_eq_some_iff.1 hx1).1; omega)).trans hx1
  have A3 := belowStep A2 A2.size B2
  clear A2 B2 hx1 KT
  have f0 := fun o => Lib.frozen_of_heap hx2 o
  have d0 : w2.cell? ⟨w.heap.size + 1, 0, none⟩ = some (.bool false) := by rw [Lib.cell_of_heap hx2]; rfl
  have d1 : w2.cell? ⟨w.heap.size + 1, 1, none⟩ = some (.string ⟨#[]⟩) := by rw [Lib.cell_of_heap hx2]; rfl
  have d2 : w2.cell? ⟨w.heap.size + 1, 2, none⟩ = some (.slice none 0 0) := by rw [Lib.cell_of_heap hx2]; rfl
  have hz := A3.size
  simp only [txt, Im.val, Im.sl, Im.l, Im.t, Im.a, Im.xs, Im.c, List.length_nil]
  go_wp2
  refine bodyPost_ret (v := .agg #[.bool false, .string s, .slice none 0 0]) (by simp [results, Tryd.results174, go_sem, d0, d1, d2]) rfl ⟨rfl, ?_⟩
  exact below_set (below_set (below_set A3 _ _ (by omega) _) _ _ (by omega) _) _ _ (by omega) _
set_option maxHeartbeats 1000000 in
theorem txtItem_any (a : Addr) (s : ByteArray) (w : World) (hb : a.block < w.heap.size) (ha : w.cell? a = some (.string s)) :
    Calls Tryd.prog 177 #[.agg #[.pointer (some a)]] w fun e w' => e = .returned (txt s).val ∧ Below w.heap.size w w' := by
  have KT := fun w => text_any s w
  obtain ⟨A1, _, hx⟩ := two_boxes w (.cells #[.pointer (some a)] 151) (.cells #[.bool false, .string ⟨#[]⟩, .slice none 0 0] 70)
  have c0 := (A1.cell hb).trans ha
  go_enter Tryd.func177, Tryd.ntmps177
  go_wp2_with fail
  refine (KT _).mono ?_
  rintro e w2 ⟨rfl, B2⟩
  have hx2 := (B2.block (w.heap.size + 1) (by simp <;> omega)).trans hx
  have A3 := belowStep A1 (by simp <;> omega) B2
  clear A1 B2 hx KT c0 ha
  have f0 := fun o => Lib.frozen_of_heap hx2 o
  have d0 : w2.cell? ⟨w.heap.size + 1, 0, none⟩ = some (.bool false) := by rw [Lib.cell_of_heap hx2]; rfl
  have d1 : w2.cell? ⟨w.heap.size + 1, 1, none⟩ = some (.string ⟨#[]⟩) := by rw [Lib.cell_of_heap hx2]; rfl
  have d2 : w2.cell? ⟨w.heap.size + 1, 2, none⟩ = some (.slice none 0 0) := by rw [Lib.cell_of_heap hx2]; rfl
  have hz := A3.size
  simp only [txt, Im.val, Im.sl, Im.l, Im.t, Im.a, Im.xs, Im.c, List.length_nil]
  go_wp2
  refine bodyPost_ret (v := .agg #[.bool false, .string s, .slice none 0 0]) (by simp [results, Tryd.results177, go_sem, d0, d1, d2]) rfl ⟨rfl, ?_⟩
  exact below_set (below_set (below_set A3 _ _ (by omega) _) _ _ (by omega) _) _ _ (by omega) _

set_option maxHeartbeats 1000000 in
theorem numRead_any (q o N : Nat) (ty : TypeId) (ho : o < N) (X : Im) (w : World) (hq : Ld q ty N w) :
    Calls Tryd.prog 175 #[.agg #[.pointer (some ⟨q, o, none⟩)], X.val] w fun e w' => e = .returned (.bool (!X.l && decide (vE X.t = 0))) ∧ ∃ U, Below w.heap.size w U ∧ w' = U.setCell ⟨q, o, none⟩ (.int .u64 (vN X.t)) := by
  obtain ⟨l, t, a, c, xs⟩ := X
  have KV := fun w => value_any t w
  show Calls Tryd.prog 175 #[.agg #[.pointer (some ⟨q, o, none⟩)], .agg #[.bool l, .string t, .slice a xs.length c]] w fun e w' => e = .returned (.bool (!l && decide (vE t = 0))) ∧ ∃ U, Below w.heap.size w U ∧ w' = U.setCell ⟨q, o, none⟩ (.int .u64 (vN t))
  obtain ⟨n, hn⟩ : ∃ n, vN t = n := ⟨_, rfl⟩
  obtain ⟨v, hv⟩ : ∃ v, vE t = v := ⟨_, rfl⟩
  rw [hn, hv] at KV
  rw [hn, hv]
  clear hn hv
  obtain ⟨A1, h0, hx⟩ := two_boxes w (.cells #[.pointer (some ⟨q, o, none⟩)] 148) (.cells #[.bool l, .string t, .slice a xs.length c] 70)
  go_enter Tryd.func175, Tryd.ntmps175
  go_wp2_with fail
  refine (KV _).mono ?_
  rintro e w1 ⟨rfl, B1⟩
  have hql := hq.lt
  have hx1 := (B1.block (w.heap.size + 1) (by simp <;> omega)).trans hx
  have h01 := (B1.block w.heap.size (by simp <;> omega)).trans h0
  have A2 := belowStep A1 (by simp <;> omega) B1
  have hq1 : Ld q ty N w1 := by
    obtain ⟨cs, h, hs⟩ := hq
    exact ⟨cs, (A2.block q hql).trans h, hs⟩
  obtain ⟨u, hu⟩ := hq1.has ho
  have fq := hq1.fr o
  have d0 : w1.cell? ⟨w.heap.size + 1, 0, none⟩ = some (.bool l) := by rw [Lib.cell_of_heap hx1]; rfl
  have e0 : w1.cell? ⟨w.heap.size, 0, none⟩ = some (.pointer (some ⟨q, o, none⟩)) := by rw [Lib.cell_of_heap h01]; rfl
  have n0 : q ≠ w.heap.size := by omega
  have n1 : q ≠ w.heap.size + 1 := by omega
  clear A1 B1 hx h0 KV hq hq1 hx1 h01
  have HX : Hid _ := A2
  clear A2
  cases l with
  | true =>
    go_wp2
    go_ret
    exact ⟨rfl, _, HX.out, rfl⟩
  | false =>
    go_wp2
    go_ret
    refine ⟨?_, _, HX.out, rfl⟩
    by_cases h : v = 0 <;> simp [h]
set_option maxHeartbeats 1000000 in
theorem txtRead_any (q o N : Nat) (ty : TypeId) (ho : o < N) (X : Im) (w : World) (hq : Ld q ty N w) :
    Calls Tryd.prog 178 #[.agg #[.pointer (some ⟨q, o, none⟩)], X.val] w fun e w' => e = .returned (.bool (!X.l)) ∧ ∃ U, Below w.heap.size w U ∧ w' = U.setCell ⟨q, o, none⟩ (.string X.t) := by
  obtain ⟨l, t, a, c, xs⟩ := X
  show Calls Tryd.prog 178 #[.agg #[.pointer (some ⟨q, o, none⟩)], .agg #[.bool l, .string t, .slice a xs.length c]] w fun e w' => e = .returned (.bool (!l)) ∧ ∃ U, Below w.heap.size w U ∧ w' = U.setCell ⟨q, o, none⟩ (.string t)
  obtain ⟨A1, h0, hx⟩ := two_boxes w (.cells #[.pointer (some ⟨q, o, none⟩)] 151) (.cells #[.bool l, .string t, .slice a xs.length c] 70)
  have hql := hq.lt
  have hq1 : Ld q ty N ((w.alloc (.cells #[.pointer (some ⟨q, o, none⟩)] 151)).alloc (.cells #[.bool l, .string t, .slice a xs.length c] 70)) := by
    obtain ⟨cs, h, hs⟩ := hq
    exact ⟨cs, (A1.block q hql).trans h, hs⟩
  obtain ⟨u, hu⟩ := hq1.has ho
  have fq := hq1.fr o
  have n0 : q ≠ w.heap.size := by omega
  have n1 : q ≠ w.heap.size + 1 := by omega
  have HX : Hid _ := A1
  clear A1 hq hq1 h0 hx
  go_enter Tryd.func178, Tryd.ntmps178
  go_wp2
  go_ret
  exact ⟨rfl, _, HX.out, by rw [World.setCell_alloc_past _ _ _ _ (by simp; omega), World.setCell_alloc_past _ _ _ _ hql]⟩
end Go.Proofs.YtmefanagpkbjeaaDoor
namespace Go.Proofs.YtmefanagpkbjeaaDoor
open Go.RowKit Go.Shelf Go.Sort

/-- A part's receiver, its type, and the functions that its item and its reading come to. -/
def rcv : Pt → Value
  | .num a => .agg #[.pointer (some a)]
  | .txt a => .agg #[.pointer (some a)]
  | .txs a => .agg #[.pointer (some a)]
  | .lst a c ps => .slice a ps.length c
def tyP : Pt → TypeId
  | .num _ => 148
  | .txt _ => 151
  | .txs _ => 143
  | .lst _ _ _ => 145
def itF : Pt → Nat
  | .num _ => 174
  | .txt _ => 177
  | .txs _ => 166
  | .lst _ _ _ => 168
def rdF : Pt → Nat
  | .num _ => 175
  | .txt _ => 178
  | .txs _ => 167
  | .lst _ _ _ => 169
theorem val_if (p : Pt) : p.val = .iface (tyP p) (rcv p) := by cases p <;> rfl

/-- What a part's item is. -/
def ItC (n : Nat) (p : Pt) (x : It) : Prop := ∀ w : World, n ≤ w.heap.size → skIn (fun b => b < n) w p → dtIs (fun b => b < n) w p x →
  Calls Tryd.prog (itF p) #[rcv p] w fun e w' => ∃ X : Im, e = .returned X.val ∧ er X = x ∧ inP (fun b => w.heap.size ≤ b ∧ b < w'.heap.size) w' X ∧ Below w.heap.size w w'

set_option maxRecDepth 20000 in
set_option maxHeartbeats 2000000 in
theorem lstItem_of (n : Nat) (a : Option Addr) (c : Nat) (ps : List Pt) (xs : List It) (hc : cntIs xs < 100000000)
    (IH : ∀ (j : Nat) (p : Pt) (x : It), ps[j]? = some p → xs[j]? = some x → ItC n p x) (hlv : ∀ a, a ∈ lvPL ps → a.block < n)
    (w : World) (hn : n ≤ w.heap.size) (hs : skRow (fun b => b < n) w a 0 ps) (hd : dtAll (fun b => b < n) w ps xs) :
    Calls Tryd.prog 168 #[.slice a ps.length c] w fun e w' => ∃ X : Im, e = .returned X.val ∧ er X = .mk true ⟨#[]⟩ xs ∧ inP (fun b => w.heap.size ≤ b ∧ b < w'.heap.size) w' X ∧ Below w.heap.size w w' := by
  obtain ⟨i0, hi0, hz0, hz1, hz2⟩ := info_parts info_item
  have hlx := dt_len ps xs hd
  have hlc : xs.length ≤ cntIs xs := by
    have : ∀ l : List It, l.length ≤ cntIs l := by
      intro l
      induction l with
      | nil => exact Nat.le_refl _
      | cons y r ih =>
        have : 1 ≤ cntI y := by cases y; exact Nat.le_add_left _ _
        show r.length + 1 ≤ cntI y + cntIs r
        omega
    exact this xs
  obtain ⟨N, hN⟩ : ∃ N, ps.length = N := ⟨_, rfl⟩
  rw [hN] at hlx ⊢
  obtain ⟨A0, hx⟩ := And.intro (be_new w (.cells #[.bool false, .string ⟨#[]⟩, .slice none 0 0] 70)) (it_new w zeroI)
  go_enter Tryd.func168, Tryd.ntmps168
  go_wp2_with (at_make; refine wpList_make_full _ rfl _ _ 68 rfl (w.heap.size + 1) 70 i0 _ 3 Tryd.underlying68 hi0 hz0 hz1 .i64 .i64 _ _ N rfl rfl rfl rfl (by rw [hz2]; omega) (by unfold maxLen; omega) (by simp) ?_; intro w1 hown hgr)
  rw [World.size_alloc] at hown
  obtain ⟨z, hz⟩ : ∃ z, w.heap.size + 1 = z := ⟨_, rfl⟩
  have B1 : Below w.heap.size w w1 := A0.trans ((Below.refl _ _).grown hgr (by simp) (fun _ e => by cases e))
  have hx1 : ItIn w.heap.size zeroI w1 := (hgr.block _ (by simp) (by simp)).trans hx
  have HZ : Hid (w.heap.size + 1 = z) := hz
  have hzw : z < w1.heap.size := by
    rcases hown.2 with ⟨h, _⟩ | ⟨g, _, _, h, _, h2, _⟩
    · cases h
    · cases h
      have := (Array.getElem?_eq_some_iff.1 h2).1
      omega
  obtain ⟨y, hy⟩ : ∃ y, w.heap.size = y := ⟨_, rfl⟩
  have HY : Hid (w.heap.size = y) := hy
  rw [hz] at hown ⊢
  rw [hy] at hn B1 hx1 ⊢
  have hyz : y < z := by omega
  clear A0 hx hgr hz hy
  go_loopg [11] N (fun gk i wr => ∃ (k : Nat) (cl : List Value) (ys : List Im), k + gk = N ∧ i = .int .i64 k ∧ wr.ownsRow z 70 3 (.slice (some ⟨z, 0, none⟩) N N) N cl ∧ Held cl ys ∧ ys.length = k ∧ ers ys = xs.take k ∧ (∀ y, y ∈ ys → inP (fun b => z < b ∧ b < wr.heap.size) wr y) ∧ ItIn y zeroI wr ∧ Below y w wr)
  case atStart => exact ⟨0, _, [], by omega, rfl, hown, (fun j y h => by cases h), rfl, rfl, (fun y h => by cases h), hx1, B1⟩
  case round =>
    clear B1 hx1 hown hzw
    obtain ⟨k, cl, ys, hk, rfl, hownr, hheld, hys, hers, hin, hxr, BW⟩ := hrel
    have hzr : z < wr.heap.size := (hownr.lt z rfl).2
    by_cases hlt : k < N
    · have l1 : (k : Int) < N := by omega
      obtain ⟨p, hp⟩ : ∃ p, ps[k]? = some p := ⟨ps[k]'(by omega), List.getElem?_eq_getElem (by omega)⟩
      obtain ⟨x, hx, hdx⟩ := dt_at ps xs hd k p hp
      obtain ⟨⟨b, o, hb, rfl, c0⟩, hsk⟩ := sk_at ps 0 hs k p hp
      have hby : b < y := by omega
      replace c0 := (BW.cell (p := ⟨b, _, none⟩) hby).trans c0
      rw [show o + (0 + k) = o + k by omega, val_if] at c0
      have hcell : ∀ m : Nat, m < n → ∀ j, wr.cell? ⟨m, j, none⟩ = w.cell? ⟨m, j, none⟩ := fun m hm j => BW.cell (p := ⟨m, j, none⟩) (by show m < y; omega)
      have KI := IH k p x hp hx wr (by omega) (skIn_of (fun m hm => ⟨hm, hcell m hm⟩) p hsk) (dtIs_of (fun m hm => ⟨hm, hcell m hm⟩) p x (fun a' ha' => BW.cell (by have := hlv a' (lv_at ps k p hp a' ha'); omega)) hdx)
      have hm : ∀ w : World, (method 330 (tyP p) (rcv p) "pharos/head.item").run Tryd.prog w = .ok (itF p, rcv p) w := fun _ => by cases p <;> kernel_rfl
      have hcf : ∀ (args : Array Value) (w : World), (callFunc (itF p) args).run Tryd.prog w = .ok (.enter (itF p) args) w := fun _ _ => by cases p <;> kernel_rfl
      have wk : IntKind.i64.wrap ((k : Int) + 1) = ((k + 1 : Nat) : Int) := by rw [IntKind.wrap_i64]; omega
      obtain ⟨ty, hty⟩ : ∃ q, tyP p = q := ⟨_, rfl⟩
      obtain ⟨rv, hrv⟩ : ∃ q, rcv p = q := ⟨_, rfl⟩
      obtain ⟨f, hf⟩ : ∃ q, itF p = q := ⟨_, rfl⟩
      rw [hty, hrv] at c0 hm
      rw [hf] at hm hcf KI
      rw [hrv] at KI
      clear hty hrv hf hsk hdx hcell
      go_wp2_with fail
      refine KI.mono ?_
      rintro e w3 ⟨X, rfl, hX, hinX, B3⟩
      have hs3 := B3.size
      have hown3 := owns_below hownr B3
      clear KI c0 hm hcf
      obtain ⟨v0, hv0⟩ : ∃ v, w3.cell? ⟨z, k * 3, none⟩ = some v := by
        rw [hown3.cellAt (k * 3) (by omega)]
        exact ⟨_, List.getElem?_eq_getElem (by rw [hown3.1]; omega)⟩
      obtain ⟨v1, hv1⟩ : ∃ v, w3.cell? ⟨z, k * 3 + 1, none⟩ = some v := by
        rw [hown3.cellAt (k * 3 + 1) (by omega)]
        exact ⟨_, List.getElem?_eq_getElem (by rw [hown3.1]; omega)⟩
      obtain ⟨v2, hv2⟩ : ∃ v, w3.cell? ⟨z, k * 3 + 2, none⟩ = some v := by
        rw [hown3.cellAt (k * 3 + 2) (by omega)]
        exact ⟨_, List.getElem?_eq_getElem (by rw [hown3.1]; omega)⟩
      have g0 := hown3.frozenAt (k * 3)
      have g1 := hown3.frozenAt (k * 3 + 1)
      have g2 := hown3.frozenAt (k * 3 + 2)
      obtain ⟨xl, xt, xa, xc, xx⟩ := X
      have hown4 := (((hown3.stored (k * 3) (.bool xl)).1.stored (k * 3 + 1) (.string xt)).1.stored (k * 3 + 2) (.slice xa xx.length xc)).1
      have HX : Hid (_ ∧ _ ∧ _ ∧ _ ∧ _ ∧ _ ∧ _ ∧ _ ∧ _) := ⟨hown4, hown3.1, B3, BW, hheld, hin, hinX, hers, (B3.block _ (by omega)).trans hxr⟩
      clear hown3 hown4 B3 BW hheld hin hinX hers hxr hownr
      dsimp only [Im.val, Im.sl, Im.l, Im.t, Im.a, Im.xs, Im.c]
      go_wp2
      go_roundg (gk - 1)
      case measure => omega
      case rel =>
        obtain ⟨hown4, hcl, B3, BW, hheld, hin, hinX, hers, hxr⟩ := HX.out
        have hhe := hheld.snoc (.mk xl xt xa xc xx) (by rw [hcl, hys]; omega)
        rw [hys, show 3 * k = k * 3 by omega] at hhe
        simp only [Im.l, Im.t, Im.sl, Im.a, Im.xs, Im.c] at hhe
        refine ⟨k + 1, _, ys ++ [.mk xl xt xa xc xx], by omega, by first | rfl | (congr 1; omega), hown4, hhe, by simp [hys], ?_, ?_, ?_, below_set (below_set (below_set (belowStep BW (by omega) B3) z _ (by omega) _) z _ (by omega) _) z _ (by omega) _⟩
        · rw [ers_map, List.map_append, ← ers_map, hers, List.take_add_one, hx]
          show _ ++ [er (.mk xl xt xa xc xx)] = _ ++ [x]
          rw [hX]
        · intro y' hy'
          rcases List.mem_append.1 hy' with h | h
          · refine inP_of (fun b hb => ⟨⟨hb.1, by simp [World.setCell]; omega⟩, fun j => ?_⟩) y' (hin y' h)
            rw [cell_ne _ _ _ _ _ (by show b ≠ z; omega), cell_ne _ _ _ _ _ (by show b ≠ z; omega), cell_ne _ _ _ _ _ (by show b ≠ z; omega)]
            exact B3.cell (p := ⟨b, j, none⟩) hb.2
          · simp at h
            subst h
            refine inP_of (fun b hb => ⟨⟨by omega, by simp [World.setCell]; omega⟩, fun j => ?_⟩) _ hinX
            rw [cell_ne _ _ _ _ _ (by show b ≠ z; omega), cell_ne _ _ _ _ _ (by show b ≠ z; omega), cell_ne _ _ _ _ _ (by show b ≠ z; omega)]
        · exact (Below.heap_setCell _ _ _ _ (by show y ≠ z; omega)).trans ((Below.heap_setCell _ _ _ _ (by show y ≠ z; omega)).trans ((Below.heap_setCell _ _ _ _ (by show y ≠ z; omega)).trans hxr))
    · have hk2 : k = N := by omega
      have l1 : ¬ (k : Int) < N := by omega
      rw [hk2, List.take_of_length_le (by omega)] at hers
      have hyN : ys.length = N := by omega
      have key : ∀ (r : List Im) (i : Nat), ys.drop i = r → rowP (fun b => z ≤ b ∧ b < wr.heap.size) wr (some ⟨z, 0, none⟩) i r := by
        intro r
        induction r with
        | nil => intro i _; trivial
        | cons y r ih =>
          intro i hi
          have hyi : ys[i]? = some y := by
            have := congrArg (·[0]?) hi
            simpa using this
          have hil := (List.getElem?_eq_some_iff.1 hyi).1
          obtain ⟨e0, e1, e2⟩ := hheld i y hyi
          refine ⟨⟨z, 0, ⟨Nat.le_refl _, hzr⟩, rfl, ?_, ?_, ?_⟩, ?_, ih (i + 1) ?_⟩
          · rw [show 0 + 3 * i = 3 * i by omega, hownr.cellAt _ (by omega)]; exact e0
          · rw [show 0 + 3 * i + 1 = 3 * i + 1 by omega, hownr.cellAt _ (by omega)]; exact e1
          · rw [show 0 + 3 * i + 2 = 3 * i + 2 by omega, hownr.cellAt _ (by omega)]; exact e2
          · exact inP_of (fun b hb => ⟨⟨by omega, hb.2⟩, fun _ => rfl⟩) y (hin y (List.mem_of_getElem? hyi))
          · rw [← List.drop_drop, hi]
            rfl
      have KL := list_any ys (by rw [cnts_er, hers]; exact hc) wr.heap.size (some ⟨z, 0, none⟩) N wr (Nat.le_refl _) (rowMem_of (fun b hb => hb.2) _ _ _ (key ys 0 rfl))
      rw [hyN] at KL
      clear key hownr hheld hin
      go_wp2_with fail
      refine KL.mono ?_
      rintro e w4 ⟨X, rfl, hX, hinX, B4⟩
      have hx4 := (B4.block _ hxr.lt).trans hxr
      have BW4 := belowStep BW (by omega) B4
      have hs4 := B4.size
      have f0 := fun o => Lib.frozen_of_heap hx4 o
      have d0 : w4.cell? ⟨y, 0, none⟩ = some (.bool false) := by rw [Lib.cell_of_heap hx4]; rfl
      have d1 : w4.cell? ⟨y, 1, none⟩ = some (.string ⟨#[]⟩) := by rw [Lib.cell_of_heap hx4]; rfl
      have d2 : w4.cell? ⟨y, 2, none⟩ = some (.slice none 0 0) := by rw [Lib.cell_of_heap hx4]; rfl
      obtain ⟨xl, xt, xa, xc, xx⟩ := X
      rw [hers] at hX
      have HX : Hid (_ ∧ _ ∧ _) := ⟨hX, hinX, BW4⟩
      clear hX hinX BW4 BW B4 hx4 hxr KL hers
      dsimp only [Im.val, Im.sl, Im.l, Im.t, Im.a, Im.xs, Im.c]
      go_wp2
      obtain ⟨hX, hinX, BW4⟩ := HX.out
      refine bodyPost_ret (v := .agg #[.bool xl, .string xt, .slice xa xx.length xc]) (by simp [results, Tryd.results168, go_sem, d0, d1, d2]) rfl ⟨_, rfl, hX, ?_, ?_⟩
      · rw [HY.out]
        refine inP_of (fun b hb => ⟨⟨by omega, by simp [World.setCell]; omega⟩, fun j => ?_⟩) _ hinX
        rw [cell_ne _ _ _ _ _ (by show b ≠ y; omega), cell_ne _ _ _ _ _ (by show b ≠ y; omega), cell_ne _ _ _ _ _ (by show b ≠ y; omega)]
      · rw [HY.out]
        exact below_set (below_set (below_set BW4 y _ (Nat.le_refl _) _) y _ (Nat.le_refl _) _) y _ (Nat.le_refl _) _
end Go.Proofs.YtmefanagpkbjeaaDoor
namespace Go.Proofs.YtmefanagpkbjeaaDoor
open Go.RowKit Go.Shelf Go.Sort

theorem info_part : (Tryd.prog.info? 72).map (fun i => (i.zero, i.size, i.bytes)) = some (some .nilIface, 1, 16) := by kernel_rfl
/-- The parts of a slice of texts. -/
def txP (b o : Nat) : Nat → List Pt
  | 0 => []
  | k + 1 => txP b o k ++ [.txt ⟨b, o + k, none⟩]
theorem txP_len (b o : Nat) : ∀ k, (txP b o k).length = k
  | 0 => rfl
  | k + 1 => by
    show (txP b o k ++ [_]).length = _
    rw [List.length_append, txP_len b o k]
    rfl
theorem txP_lv (b o : Nat) : ∀ k a, a ∈ lvPL (txP b o k) → ∃ j, j < k ∧ a = ⟨b, o + j, none⟩
  | 0, a, h => by cases h
  | k + 1, a, h => by
    rw [show txP b o (k + 1) = txP b o k ++ [.txt ⟨b, o + k, none⟩] from rfl, lv_snoc] at h
    rcases List.mem_append.1 h with h | h
    · obtain ⟨j, hj, e⟩ := txP_lv b o k a h
      exact ⟨j, by omega, e⟩
    · exact ⟨k, by omega, List.mem_singleton.1 h⟩
theorem txP_nodup (b o : Nat) : ∀ k, (lvPL (txP b o k)).Nodup
  | 0 => List.nodup_nil
  | k + 1 => by
    rw [show txP b o (k + 1) = txP b o k ++ [.txt ⟨b, o + k, none⟩] from rfl, lv_snoc]
    refine List.nodup_append.2 ⟨txP_nodup b o k, List.nodup_cons.2 ⟨(fun h => by cases h), List.nodup_nil⟩, fun a ha c hc e => ?_⟩
    obtain ⟨j, hj, rfl⟩ := txP_lv b o k a ha
    obtain rfl := List.mem_singleton.1 hc
    injection e with _ e _
    omega
theorem sk_snoc {P : Nat → Prop} {W : World} {a : Option Addr} : ∀ (ps : List Pt) (i : Nat) (p : Pt), skRow P W a i ps → (∃ b o, P b ∧ a = some ⟨b, o, none⟩ ∧ W.cell? ⟨b, o + (i + ps.length), none⟩ = some p.val) → skIn P W p → skRow P W a i (ps ++ [p])
  | [], i, p, _, h1, h2 => ⟨h1, h2, trivial⟩
  | q :: r, i, p, ⟨h3, h4, h5⟩, h1, h2 => ⟨h3, h4, sk_snoc r (i + 1) p h5 (by rw [show i + 1 + r.length = i + (r.length + 1) by omega]; exact h1) h2⟩

theorem sk_of_row {P : Nat → Prop} {W : World} {z : Nat} (hz : P z) : ∀ (ps : List Pt) (i : Nat), (∀ j p, ps[j]? = some p → W.cell? ⟨z, i + j, none⟩ = some p.val ∧ skIn P W p) → skRow P W (some ⟨z, 0, none⟩) i ps
  | [], _, _ => trivial
  | p :: r, i, h => ⟨⟨z, 0, hz, rfl, by rw [Nat.zero_add]; exact (h 0 p rfl).1⟩, (h 0 p rfl).2, sk_of_row hz r (i + 1) (fun j p' hp => by have := h (j + 1) p' hp; rwa [show i + (j + 1) = i + 1 + j by omega] at this)⟩
theorem txP_at (b o : Nat) : ∀ k j p, (txP b o k)[j]? = some p → j < k ∧ p = .txt ⟨b, o + j, none⟩
  | 0, j, p, h => by cases h
  | k + 1, j, p, h => by
    have h : (txP b o k ++ [.txt ⟨b, o + k, none⟩])[j]? = some p := h
    by_cases hj : j < k
    · rw [List.getElem?_append_left (by rw [txP_len]; exact hj)] at h
      exact ⟨by omega, (txP_at b o k j p h).2⟩
    · rw [List.getElem?_append_right (by rw [txP_len]; omega), txP_len] at h
      have hjk : j = k := by
        have := (List.getElem?_eq_some_iff.1 h).1
        simp at this
        omega
      subst hjk
      rw [Nat.sub_self] at h
      cases h
      exact ⟨by omega, rfl⟩
set_option maxRecDepth 20000 in
set_option maxHeartbeats 2000000 in
theorem each_any (q o : Nat) (s : Option Addr) (K c : Nat) (hK : K < 100000000) (hs : K = 0 ∨ ∃ b p, s = some ⟨b, p, none⟩) (w : World) (hq : q < w.heap.size) (h0 : w.cell? ⟨q, o, none⟩ = some (.slice s K c)) :
    Calls Tryd.prog 165 #[.agg #[.pointer (some ⟨q, o, none⟩)]] w fun e w' => ∃ a, e = .returned (.slice a K K) ∧ ∃ ps, (K = 0 ∧ ps = [] ∨ ∃ b p, s = some ⟨b, p, none⟩ ∧ ps = txP b p K) ∧ skRow (fun b => w.heap.size ≤ b ∧ b < w'.heap.size) w' a 0 ps ∧ Below w.heap.size w w' := by
  obtain ⟨i0, hi0, hz0, hz1, hz2⟩ := info_parts info_part
  have A0 := be_new w (.cells #[.pointer (some ⟨q, o, none⟩)] 143)
  have hx : (w.alloc (.cells #[.pointer (some ⟨q, o, none⟩)] 143)).heap[w.heap.size]? = some (.cells #[.pointer (some ⟨q, o, none⟩)] 143 (0, 0)) := World.alloc_heap_new w _
  have c0 := (A0.cell (p := ⟨q, o, none⟩) hq).trans h0
  go_enter Tryd.func165, Tryd.ntmps165
  go_wp2_with (at_make; refine wpList_make_full _ rfl _ _ 145 rfl (w.heap.size + 1) 72 i0 _ 1 Tryd.underlying145 hi0 hz0 hz1 .i64 .i64 _ _ K rfl rfl rfl rfl (by rw [hz2]; omega) (by unfold maxLen; omega) (by simp) ?_; intro w1 hown hgr)
  rw [World.size_alloc] at hown
  obtain ⟨z, hz⟩ : ∃ z, w.heap.size + 1 = z := ⟨_, rfl⟩
  have B1 : Below w.heap.size w w1 := A0.trans ((Below.refl _ _).grown hgr (by simp) (fun _ e => by cases e))
  have hx1 := (hgr.block w.heap.size (by simp) (by simp)).trans hx
  have HZ : Hid (w.heap.size + 1 = z) := hz
  have c1 := (B1.cell (p := ⟨q, o, none⟩) hq).trans h0
  obtain ⟨y, hy⟩ : ∃ y, w.heap.size = y := ⟨_, rfl⟩
  have HY : Hid (w.heap.size = y) := hy
  rw [hz] at hown ⊢
  rw [hy] at hq B1 hx1 ⊢
  have hyz : y < z := by omega
  clear A0 hx hgr hz hy c0 h0
  go_loopg [13] K (fun gk i wr => ∃ (k : Nat) (cl : List Value), k + gk = K ∧ i = .int .i64 k ∧ wr.ownsRow z 72 1 (.slice (some ⟨z, 0, none⟩) K K) K cl ∧ (∀ j, j < k → ∃ b p, s = some ⟨b, p, none⟩ ∧ cl[j]? = some (Pt.txt ⟨b, p + j, none⟩).val) ∧ Below y w wr ∧ wr.heap[y]? = some (.cells #[.pointer (some ⟨q, o, none⟩)] 143 (0, 0)) ∧ wr.cell? ⟨q, o, none⟩ = some (.slice s K c))
  case atStart => exact ⟨0, _, by omega, rfl, hown, (fun j h => by omega), B1, hx1, c1⟩
  case round =>
    clear B1 hx1 hown c1
    obtain ⟨k, cl, hk, rfl, hownr, hheld, BW, hxr, d0⟩ := hrel
    have hzr : z < wr.heap.size := (hownr.lt z rfl).2
    by_cases hlt : k < K
    · have l1 : (k : Int) < K := by omega
      obtain ⟨b, p, rfl⟩ : ∃ b p, s = some ⟨b, p, none⟩ := by
        rcases hs with h | h
        · omega
        · exact h
      have e0 : wr.cell? ⟨y, 0, none⟩ = some (.pointer (some ⟨q, o, none⟩)) := by rw [Lib.cell_of_heap hxr]; rfl
      have wk : IntKind.i64.wrap ((k : Int) + 1) = ((k + 1 : Nat) : Int) := by rw [IntKind.wrap_i64]; omega
      obtain ⟨v0, hv0⟩ : ∃ v, wr.cell? ⟨z, k, none⟩ = some v := by
        rw [hownr.cellAt k (by omega)]
        exact ⟨_, List.getElem?_eq_getElem (by rw [hownr.1]; omega)⟩
      have g0 := hownr.frozenAt k
      have hown4 := (hownr.stored k (.iface 151 (.agg #[.pointer (some ⟨b, p + k, none⟩)]))).1
      have HX : Hid (_ ∧ _ ∧ _ ∧ _ ∧ _ ∧ _) := ⟨hown4, hownr.1, BW, hheld, hxr, d0⟩
      clear hown4 BW hheld hxr hownr
      go_wp2
      go_roundg (gk - 1)
      case measure => omega
      case rel =>
        obtain ⟨hown4, hcl, BW, hheld, hxr, d0⟩ := HX.out
        refine ⟨k + 1, _, by omega, by first | rfl | (congr 1; omega), hown4, fun j hj => ?_, below_set BW z _ (by omega) _, (Below.heap_setCell _ _ _ _ (by show y ≠ z; omega)).trans hxr, (cell_ne _ _ _ _ _ (by show q ≠ z; omega)).trans d0⟩
        by_cases hjk : j = k
        · subst hjk
          exact ⟨b, p, rfl, by rw [List.getElem?_set_self (by omega)]; rfl⟩
        · obtain ⟨b', p', h1, h2⟩ := hheld j (by omega)
          exact ⟨b', p', h1, by rw [List.getElem?_set_ne (by omega)]; exact h2⟩
    · have hk2 : k = K := by omega
      have l1 : ¬ (k : Int) < K := by omega
      have HX : Hid (_ ∧ _ ∧ _) := ⟨hownr, BW, hheld⟩
      clear hownr BW hheld
      go_wp2
      go_ret
      obtain ⟨hownr, BW, hheld⟩ := HX.out
      rw [HY.out]
      by_cases h0 : K = 0
      · exact ⟨some ⟨z, 0, none⟩, rfl, [], .inl ⟨h0, rfl⟩, trivial, BW⟩
      · obtain ⟨b, p, rfl⟩ : ∃ b p, s = some ⟨b, p, none⟩ := by
          rcases hs with h | h
          · omega
          · exact h
        refine ⟨some ⟨z, 0, none⟩, rfl, txP b p K, .inr ⟨b, p, rfl, rfl⟩, sk_of_row (by omega) _ 0 (fun j u hu => ?_), BW⟩
        obtain ⟨hj, rfl⟩ := txP_at b p K j u hu
        obtain ⟨b', p', h1, h2⟩ := hheld j (by omega)
        injection h1 with h1
        injection h1 with h1 h3
        subst h1 h3
        exact ⟨by rw [Nat.zero_add, hownr.cellAt _ (by omega)]; exact h2, trivial⟩

theorem dt_txP {P : Nat → Prop} {W : World} {b o : Nat} (ts : List ByteArray) (h : ∀ j t, ts[j]? = some t → W.cell? ⟨b, o + j, none⟩ = some (.string t)) : ∀ k, k ≤ ts.length → dtAll P W (txP b o k) ((ts.take k).map tI)
  | 0, _ => rfl
  | k + 1, hk => by
    obtain ⟨t, ht⟩ : ∃ t, ts[k]? = some t := ⟨ts[k]'(by omega), List.getElem?_eq_getElem (by omega)⟩
    rw [List.take_add_one, ht]
    show dtAll P W (txP b o k ++ [.txt ⟨b, o + k, none⟩]) ((ts.take k ++ [t]).map tI)
    rw [List.map_append]
    exact dt_snoc _ _ _ _ (dt_txP ts h k (by omega)) ⟨t, h k t ht, rfl⟩
theorem txt_item (n : Nat) (a : Addr) (ha : a.block < n) (x : It) : ItC n (.txt a) x := by
  rintro w hn _ ⟨t, h1, rfl⟩
  refine (txtItem_any a t w (by omega) h1).mono ?_
  rintro e w' ⟨rfl, hb⟩
  exact ⟨_, rfl, rfl, trivial, hb⟩
theorem num_item (n : Nat) (a : Addr) (ha : a.block < n) (x : It) : ItC n (.num a) x := by
  rintro w hn _ ⟨m, h0, h1, rfl⟩
  refine (numItem_any a m h0 w (by omega) h1).mono ?_
  rintro e w' ⟨rfl, hb⟩
  exact ⟨_, rfl, rfl, trivial, hb⟩
set_option maxRecDepth 20000 in
set_option maxHeartbeats 2000000 in
theorem txs_item (n q o : Nat) (hq : q < n) (x : It) (hc : cntI x < 100000000) : ItC n (.txs ⟨q, o, none⟩) x := by
  rintro w hn _ ⟨s, c, ts, h0, hs, rfl⟩
  replace hc : cntIs (ts.map tI) < 100000000 := by
    have : cntI (.mk true ⟨#[]⟩ (ts.map tI)) = cntIs (ts.map tI) + 1 := rfl
    omega
  have hK : ts.length < 100000000 := by
    have : ∀ l : List ByteArray, l.length ≤ cntIs (l.map tI) := by
      intro l
      induction l with
      | nil => exact Nat.le_refl _
      | cons y r ih =>
        show r.length + 1 ≤ cntI (tI y) + cntIs (r.map tI)
        have : cntI (tI y) = 1 := rfl
        omega
    have := this ts
    omega
  obtain ⟨K, hKe⟩ : ∃ K, ts.length = K := ⟨_, rfl⟩
  have hsK : K = 0 ∨ ∃ b p, s = some ⟨b, p, none⟩ := by
    rcases hs with rfl | ⟨b, p, h, _⟩
    · exact .inl hKe.symm
    · exact .inr ⟨b, p, h⟩
  rw [hKe] at h0 hK
  obtain ⟨A1, hx, hr⟩ := two_boxes w (.cells #[.pointer (some ⟨q, o, none⟩)] 143) (.cells #[.bool false, .string ⟨#[]⟩, .slice none 0 0] 70)
  have KE := each_any q o s K c hK hsK _ (Nat.lt_of_lt_of_le (Nat.lt_of_lt_of_le hq hn) A1.size) ((A1.cell (p := ⟨q, o, none⟩) (by show q < _; omega)).trans h0)
  show Calls Tryd.prog 166 #[.agg #[.pointer (some ⟨q, o, none⟩)]] w _
  go_enter Tryd.func166, Tryd.ntmps166
  go_wp2_with fail
  refine KE.mono ?_
  rintro e w1 ⟨a, rfl, ps, hps, hsk, B1⟩
  have B1' := belowStep A1 A1.size B1
  have hr1 := (B1.block (w.heap.size + 1) (by simp)).trans hr
  have hlen : ps.length = K := by
    rcases hps with ⟨h, rfl⟩ | ⟨b, p, _, rfl⟩
    · exact h.symm
    · exact txP_len _ _ _
  have hn1 := B1'.size
  have hd : dtAll (fun b => b < w1.heap.size) w1 ps (ts.map tI) := by
    rcases hps with ⟨h, rfl⟩ | ⟨b, p, rfl, rfl⟩
    · have : ts = [] := List.length_eq_zero_iff.1 (by omega)
      subst this
      rfl
    · rcases hs with rfl | ⟨b', p', h, hb, hcell⟩
      · have h0 : K = 0 := hKe.symm
        subst h0
        rfl
      · injection h with h
        injection h with h h'
        subst h h'
        have := dt_txP (P := fun b => b < w1.heap.size) (W := w1) (b := b) (o := p) ts (fun j t ht => (B1'.cell (p := ⟨b, p + j, none⟩) (by show b < _; omega)).trans (hcell j t ht)) K (by omega)
        rwa [List.take_of_length_le (by omega)] at this
  have hlv : ∀ a, a ∈ lvPL ps → a.block < w1.heap.size := by
    rcases hps with ⟨h, rfl⟩ | ⟨b, p, rfl, rfl⟩
    · intro a ha; cases ha
    · rcases hs with rfl | ⟨b', p', h, hb, hcell⟩
      · have h0 : K = 0 := hKe.symm
        subst h0
        intro a ha; cases ha
      · injection h with h
        injection h with h h'
        subst h h'
        intro a ha
        obtain ⟨j, _, rfl⟩ := txP_lv _ _ _ a ha
        show b < _
        omega
  have KL := lstItem_of w1.heap.size a K ps (ts.map tI) hc (fun j p x hp _ => by
      rcases hps with ⟨h, rfl⟩ | ⟨b, p', rfl, rfl⟩
      · cases hp
      · obtain ⟨hj, rfl⟩ := txP_at _ _ _ _ _ hp
        exact txt_item _ _ (hlv _ (lv_at _ _ _ hp _ (List.mem_singleton.2 rfl))) x) hlv w1 (Nat.le_refl _)
      (skRow_of (fun b hb => ⟨hb.2, fun _ => rfl⟩) a 0 ps hsk) hd
  rw [hlen] at KL
  clear KE B1 hr hsk hd hlv
  go_wp2_with fail
  refine KL.mono ?_
  rintro e w2 ⟨X, rfl, hX, hinX, B2⟩
  have hr2 := (B2.block (w.heap.size + 1) (by have := (Array.getElem?_eq_some_iff.1 hr1).1; omega)).trans hr1
  have B2' := belowStep B1' B1'.size B2
  have f0 := fun o => Lib.frozen_of_heap hr2 o
  have d0 : w2.cell? ⟨w.heap.size + 1, 0, none⟩ = some (.bool false) := by rw [Lib.cell_of_heap hr2]; rfl
  have d1 : w2.cell? ⟨w.heap.size + 1, 1, none⟩ = some (.string ⟨#[]⟩) := by rw [Lib.cell_of_heap hr2]; rfl
  have d2 : w2.cell? ⟨w.heap.size + 1, 2, none⟩ = some (.slice none 0 0) := by rw [Lib.cell_of_heap hr2]; rfl
  obtain ⟨xl, xt, xa, xc, xx⟩ := X
  have hr1' : w.heap.size + 1 < w1.heap.size := (Array.getElem?_eq_some_iff.1 hr1).1
  have hs2 := B2.size
  have HX : Hid (_ ∧ _ ∧ _ ∧ _) := ⟨hX, hinX, B2', hr1'⟩
  obtain ⟨y, hy⟩ : ∃ y, w.heap.size = y := ⟨_, rfl⟩
  have HY : Hid (w.heap.size = y) := hy
  rw [hy] at f0 d0 d1 d2 ⊢
  clear hX hinX B2' B2 B1' hr1 hr2 KL A1 hx hr1' hy
  dsimp only [Im.val, Im.sl, Im.l, Im.t, Im.a, Im.xs, Im.c]
  go_wp2
  obtain ⟨hX, hinX, B2, hr1⟩ := HX.out
  rw [HY.out] at hr1
  refine bodyPost_ret (v := .agg #[.bool xl, .string xt, .slice xa xx.length xc]) (by simp [results, Tryd.results166, go_sem, d0, d1, d2]) rfl ⟨_, rfl, hX, ?_, ?_⟩
  · rw [HY.out]
    refine inP_of (fun b hb => ⟨⟨by omega, by simp [World.setCell]; omega⟩, fun j => ?_⟩) _ hinX
    rw [cell_ne _ _ _ _ _ (by show b ≠ y + 1; omega), cell_ne _ _ _ _ _ (by show b ≠ y + 1; omega), cell_ne _ _ _ _ _ (by show b ≠ y + 1; omega)]
  · rw [HY.out] at B2 ⊢
    exact below_set (below_set (below_set B2 _ _ (by omega) _) _ _ (by omega) _) _ _ (by omega) _
theorem cntIs_at : ∀ (xs : List It) (j : Nat) (x : It), xs[j]? = some x → cntI x ≤ cntIs xs
  | [], _, _, h => by cases h
  | y :: r, 0, x, h => by cases h; exact Nat.le_add_right _ _
  | y :: r, j + 1, x, h => Nat.le_trans (cntIs_at r j x h) (Nat.le_add_left _ _)
/-- A part's item is what it tells. -/
theorem item_all (n : Nat) : ∀ (M : Nat) (p : Pt), SizeOf.sizeOf p ≤ M → (∀ a, a ∈ lvP p → a.block < n ∧ a.spot = none) → ∀ x, cntI x < 100000000 → ItC n p x
  | _, .num a, _, hl, x, _ => num_item n a (hl a (List.mem_singleton.2 rfl)).1 x
  | _, .txt a, _, hl, x, _ => txt_item n a (hl a (List.mem_singleton.2 rfl)).1 x
  | _, .txs ⟨q, o, s⟩, _, hl, x, hc => by
    obtain ⟨h1, h2⟩ := hl _ (List.mem_singleton.2 rfl)
    have h2 : s = none := h2
    subst h2
    exact txs_item n q o h1 x hc
  | 0, .lst a c ps, h, _, _, _ => by simp at h
  | M + 1, .lst a c ps, h, hl, x, hc => by
    rintro w hn hs ⟨xs, rfl, hd⟩
    have hcs : cntIs xs < 100000000 := by
      have : cntI (.mk true ⟨#[]⟩ xs) = cntIs xs + 1 := rfl
      omega
    refine lstItem_of n a c ps xs hcs (fun j p x hp hx => item_all n M p ?_ (fun a' ha' => hl a' (lv_at ps j p hp a' ha')) x (Nat.lt_of_le_of_lt (cntIs_at xs j x hx) hcs)) (fun a' ha' => (hl a' ha').1) w hn hs hd
    have := List.sizeOf_lt_of_mem (List.mem_of_getElem? hp)
    simp at h
    omega
end Go.Proofs.YtmefanagpkbjeaaDoor
