/- Which chunks have a tree: ContainsFunc, haveTree; the reference's right. -/
import Derived.Test.YtmemfdpfbeijeabDoorZ7
namespace Go.Proofs.YtmemfdpfbeijeabDoor
open Go.RowKit Go.Shelf Go.Sort

def cOk (x : ByteArray) : Bool := decide (x.size = 32)
set_option maxRecDepth 20000 in
set_option maxHeartbeats 1000000 in
theorem notChunk_any (x : ByteArray) (w : World) :
    Calls Tryd.prog 27 #[.string x] w fun r w' => r = .returned (.bool (!cOk x)) ∧ Below w.heap.size w w' := by
  have K := isChunk_any x
  have e : decide (x.size = 32) = cOk x := rfl
  rw [e] at K
  obtain ⟨ok, hok⟩ : ∃ q, cOk x = q := ⟨_, rfl⟩
  rw [hok] at K ⊢
  clear hok e
  go_enter Tryd.func27, Tryd.ntmps27
  go_wp2_with fail
  refine (K _).mono ?_
  rintro e w1 ⟨rfl, rfl⟩
  clear K
  go_wp2
  go_ret
  exact ⟨rfl, Below.refl _ _⟩

/-- What IndexFunc answers. -/
def IxC (es : List ByteArray) (r : Ending) : Prop := ∃ i : Int, r = .returned (.int .i64 i) ∧ decide (0 ≤ i) = !es.all cOk
theorem IxC.at {es : List ByteArray} {k : Nat} {e : ByteArray} (he : es[k]? = some e) (h : cOk e = false) : IxC es (.returned (.int .i64 (k : Int))) := by
  refine ⟨k, rfl, ?_⟩
  have : es.all cOk = false := List.all_eq_false.2 ⟨e, List.mem_of_getElem? he, by rw [h]; decide⟩
  rw [this]
  exact decide_eq_true (by omega)
theorem IxC.none {es : List ByteArray} (h : ∀ (j : Nat) (e : ByteArray), es[j]? = some e → cOk e = true) : IxC es (.returned (.int .i64 (-1))) := by
  refine ⟨-1, rfl, ?_⟩
  have : es.all cOk = true := List.all_eq_true.2 fun e he => by
    obtain ⟨j, hj⟩ := List.mem_iff_getElem?.1 he
    exact h j e hj
  rw [this]
  rfl

set_option maxRecDepth 20000 in
set_option maxHeartbeats 1000000 in
theorem indexFunc_any (es : List ByteArray) (hl : es.length < 1000000) (a : Option Addr) (c n : Nat) (w : World) (hn : n ≤ w.heap.size) (hp : slS n w a es) :
    Calls Tryd.prog 42 #[.slice a es.length c, .func (.func 27) #[] #[]] w fun r w' => IxC es r ∧ Below w.heap.size w w' := by
  obtain ⟨N, hN⟩ : ∃ N, es.length = N := ⟨_, rfl⟩
  have HN : Hid (es.length = N) := hN
  rw [hN] at hl ⊢
  clear hN
  obtain ⟨z, hz⟩ : ∃ z, w.heap.size = z := ⟨_, rfl⟩
  rw [hz] at hn ⊢
  have B0 : Below z w w := by rw [← hz]; exact Below.refl _ _
  have HZ : Hid _ := hz
  clear hz
  go_enter Tryd.func42, Tryd.ntmps42
  go_wp2_with fail
  go_loopg [8] N (fun gk i wr => ∃ k : Nat, k + gk = N ∧ i = .int .i64 k ∧ (∀ (j : Nat) (e : ByteArray), j < k → es[j]? = some e → cOk e = true) ∧ Below z w wr)
  case atStart => exact ⟨0, by omega, rfl, fun j e h => by omega, B0⟩
  case round =>
    obtain ⟨k, hk, rfl, hA, BW⟩ := hrel
    have HA : Hid _ := hA
    clear hA
    have hwz : z ≤ wr.heap.size := by have := BW.size; have := HZ.out; omega
    by_cases hlt : k < N
    · have l1 : (k : Int) < N := by omega
      obtain ⟨f, hf⟩ : ∃ f, es[k]? = some f := ⟨es[k]'(by have := HN.out; omega), List.getElem?_eq_getElem (by have := HN.out; omega)⟩
      obtain ⟨b, o, rfl, hb, c0⟩ := slS_at hp k f hf
      replace c0 := (BW.cell (p := ⟨b, _, none⟩) (by show b < z; omega)).trans c0
      obtain ⟨r, hr⟩ : ∃ p, o + k = p := ⟨_, rfl⟩
      rw [hr] at c0
      have wk : IntKind.i64.wrap ((k : Int) + 1) = ((k + 1 : Nat) : Int) := by rw [IntKind.wrap_i64]; omega
      have KW := notChunk_any f
      obtain ⟨ok, hok⟩ : ∃ q, cOk f = q := ⟨_, rfl⟩
      rw [hok] at KW
      have HF : Hid (_ ∧ _) := ⟨hf, hok⟩
      clear hf hok
      go_wp2_with fail
      refine (KW _).mono ?_
      rintro e w3 ⟨rfl, B3⟩
      clear KW c0
      cases ok with
      | false =>
        go_wp2
        go_ret
        exact ⟨IxC.at HF.out.1 HF.out.2, belowStep BW hwz B3⟩
      | true =>
        go_wp2
        go_roundg (gk - 1)
        case measure => omega
        case rel =>
          refine ⟨k + 1, by omega, by first | rfl | (congr 1; omega), fun j e hj he => ?_, belowStep BW hwz B3⟩
          by_cases hjk : j = k
          · subst hjk
            rw [HF.out.1] at he
            cases he
            exact HF.out.2
          · exact HA.out j e (by omega) he
    · have l1 : ¬ (k : Int) < N := by omega
      go_wp2
      go_ret
      exact ⟨IxC.none fun j e he => HA.out j e (by have := (List.getElem?_eq_some_iff.1 he).1; have := HN.out; omega) he, BW⟩

set_option maxRecDepth 20000 in
set_option maxHeartbeats 1000000 in
theorem containsFunc_any (es : List ByteArray) (hl : es.length < 1000000) (a : Option Addr) (c n : Nat) (w : World) (hn : n ≤ w.heap.size) (hp : slS n w a es) :
    Calls Tryd.prog 26 #[.slice a es.length c, .func (.func 27) #[] #[]] w fun r w' => r = .returned (.bool (!es.all cOk)) ∧ Below w.heap.size w w' := by
  have KI := indexFunc_any es hl a c n w hn hp
  obtain ⟨N, hN⟩ : ∃ N, es.length = N := ⟨_, rfl⟩
  rw [hN] at KI ⊢
  go_enter Tryd.func26, Tryd.ntmps26
  go_wp2_with fail
  refine KI.mono ?_
  rintro e w1 ⟨⟨i, rfl, hi⟩, B1⟩
  have HI : Hid _ := hi
  clear hi KI
  go_wp2
  go_ret
  exact ⟨by rw [← HI.out]; rfl, B1⟩

theorem all_cOk (xs : List ByteArray) : xs.all cOk = true ↔ ∀ x ∈ xs, x.size = 32 := by
  rw [List.all_eq_true]
  constructor
  · intro h x hx
    exact of_decide_eq_true (h x hx)
  · intro h x hx
    exact decide_eq_true (h x hx)
theorem rt8_no {xs : List ByteArray} {d : Int} (h : ¬ (0 ≤ d ∧ d ≤ 10 ∧ xs.length ≤ 2 ^ d.toNat ∧ xs.length ≤ 256)) : rt8 xs d = false := decide_eq_false fun hh => h ⟨hh.1, hh.2.1, hh.2.2.1, hh.2.2.2.1⟩
theorem rt8_all {xs : List ByteArray} {d : Int} (h : 0 ≤ d ∧ d ≤ 10 ∧ xs.length ≤ 2 ^ d.toNat ∧ xs.length ≤ 256) : rt8 xs d = xs.all cOk := by
  rw [Bool.eq_iff_iff, rt8_iff, all_cOk]
  exact ⟨fun hh => hh.2.2.2.2, fun hh => ⟨h.1, h.2.1, h.2.2.1, h.2.2.2, hh⟩⟩

set_option maxRecDepth 20000 in
set_option maxHeartbeats 1000000 in
theorem haveTree_any (xs : List ByteArray) (d : Int) (a : Option Addr) (c n : Nat) (w : World) (hn : n ≤ w.heap.size) (hp : slS n w a xs) :
    Calls Tryd.prog 14 #[.slice a xs.length c, .int .i64 d] w fun r w' => r = .returned (.bool (rt8 xs d)) ∧ Below w.heap.size w w' := by
  obtain ⟨N, hN⟩ : ∃ N, xs.length = N := ⟨_, rfl⟩
  by_cases h0 : d < 0
  · rw [rt8_no (by omega), hN]
    go_enter Tryd.func14, Tryd.ntmps14
    go_wp2
    go_ret
    exact ⟨rfl, Below.refl _ _⟩
  · by_cases h1 : 10 < d
    · rw [rt8_no (by omega), hN]
      go_enter Tryd.func14, Tryd.ntmps14
      go_wp2
      go_ret
      exact ⟨rfl, Below.refl _ _⟩
    · obtain ⟨k, rfl⟩ : ∃ k : Nat, d = (k : Int) := ⟨d.toNat, by omega⟩
      have hk : k ≤ 10 := by omega
      have hpow : 2 ^ k ≤ 1024 := Nat.pow_le_pow_right (by decide) hk
      have hmin : min k 64 = k := by omega
      obtain ⟨q, hq⟩ : ∃ q, 2 ^ k = q := ⟨_, rfl⟩
      have hqi : (2 : Int) ^ k = (q : Int) := by rw [← hq]; simp
      have wq : IntKind.i64.wrap (q : Int) = q := by rw [IntKind.wrap_i64]; omega
      obtain ⟨m, hm⟩ : ∃ m, min q 256 = m := ⟨_, rfl⟩
      have hmi : min (q : Int) 256 = m := by omega
      by_cases h2 : m < N
      · rw [rt8_no (by rw [Int.toNat_natCast, hq, hN]; omega), hN]
        have l2 : (m : Int) < N := by omega
        go_enter Tryd.func14, Tryd.ntmps14
        go_wp2
        go_ret
        exact ⟨rfl, Below.refl _ _⟩
      · have KC := containsFunc_any xs (by omega) a c n w hn hp
        rw [rt8_all (by rw [Int.toNat_natCast, hq, hN]; omega)]
        have l2 : ¬ (m : Int) < N := by omega
        rw [hN] at KC ⊢
        obtain ⟨ok, hok⟩ : ∃ q, xs.all cOk = q := ⟨_, rfl⟩
        rw [hok] at KC ⊢
        clear hok
        go_enter Tryd.func14, Tryd.ntmps14
        go_wp2_with fail
        refine KC.mono ?_
        rintro e w1 ⟨rfl, B1⟩
        clear KC
        go_wp2
        go_ret
        exact ⟨by simp, B1⟩
end Go.Proofs.YtmemfdpfbeijeabDoor
