/- What bytes begin with: cutBody, cut. -/
import Derived.Test.YteaongogomhooaaQ11
namespace Go.Proofs.Yteaongogomhooaa
open Go.RowKit Go.Shelf Go.Sort

/-- Where the body begins behind a head's first byte, and its size. -/
def cutAt (told : Nat) (s : ByteArray) : Option (Nat × Nat) :=
  if told < 56 then (if s.size < told then none else some (0, told))
  else if s.size < told - 55 then none
  else if vE (s.extract 0 (told - 55)) = 0 ∧ 56 ≤ vN (s.extract 0 (told - 55)) ∧ vN (s.extract 0 (told - 55)) ≤ s.size - (told - 55) then some (told - 55, vN (s.extract 0 (told - 55))) else none
def cbR (s : ByteArray) : Option (Nat × Nat) → Value
  | none => .tuple #[.string ⟨#[]⟩, .string ⟨#[]⟩, .bool false]
  | some (d, n) => .tuple #[.string (s.extract d (d + n)), .string (s.extract (d + n) s.size), .bool true]
theorem vE_or (s : ByteArray) : vE s = 0 ∨ vE s = 40 := by
  unfold vE
  split
  · exact .inl rfl
  · exact .inr rfl

set_option maxRecDepth 20000 in
set_option maxHeartbeats 2000000 in
theorem cutBody_any (told : Nat) (s : ByteArray) (ht : told < 64) (hs : s.size < 1000000000000000000) (w : World) :
    Calls Try.prog 50 #[.int .i64 told, .string s] w fun e w' => e = .returned (cbR s (cutAt told s)) ∧ Below w.heap.size w w' := by
  have BW : Below w.heap.size w w := Below.refl _ _
  obtain ⟨co, hco⟩ : ∃ c, cutAt told s = c := ⟨_, rfl⟩
  rw [hco]
  have HE : Hid (co = (if told < 56 then (if s.size < told then none else some (0, told))
    else if s.size < told - 55 then none
    else if vE (s.extract 0 (told - 55)) = 0 ∧ 56 ≤ vN (s.extract 0 (told - 55)) ∧ vN (s.extract 0 (told - 55)) ≤ s.size - (told - 55) then some (told - 55, vN (s.extract 0 (told - 55))) else none)) := hco.symm
  clear hco
  go_enter Try.func50, Try.ntmps50
  by_cases h1 : told < 56
  · have l0 : (told : Int) < 56 := by omega
    by_cases h2 : s.size < told
    · have l1 : (s.size : Int) < told := by omega
      have HO : Hid (co = none) := HE.out.trans (by rw [if_pos h1, if_pos h2])
      go_wp2
      refine bodyPost_ret (v := .tuple #[.string ⟨#[]⟩, .string ⟨#[]⟩, .bool false]) (by simp [results, Try.results50, go_sem]) rfl ⟨by rw [HO.out]; rfl, Below.refl _ _⟩
    · have l1 : ¬ (s.size : Int) < told := by omega
      have HO : Hid (co = some (0, told)) := HE.out.trans (by rw [if_pos h1, if_neg h2])
      go_wp2
      refine wp_region_quiet_below (by kernel_rfl) (by kernel_rfl) ?_
      repeat (quiet_step (fail))
      refine wpQuiet_nil ?_
      intro w8 hw8
      have B8 : Below w.heap.size w w8 := by
        obtain ⟨p, rfl⟩ := hw8
        exact belowStep BW BW.size (below_regrown _ _ _)
      clear hw8 BW
      go_wp2
      refine bodyPost_ret (v := .tuple #[.string (s.extract 0 told), .string (s.extract told s.size), .bool true]) (by simp [results, Try.results50, go_sem]) rfl ⟨by rw [HO.out]; simp [cbR], B8⟩
  · have l0 : ¬ (told : Int) < 56 := by omega
    obtain ⟨d, hd⟩ : ∃ d, told - 55 = d := ⟨_, rfl⟩
    have wd : (told : Int) - 56 + 1 = d := by omega
    have hd8 : d < 9 ∧ 0 < d := by omega
    rw [hd] at HE
    clear hd
    by_cases h2 : s.size < d
    · have l1 : (s.size : Int) < d := by omega
      have HO : Hid (co = none) := HE.out.trans (by rw [if_neg h1, if_pos h2])
      go_wp2
      refine bodyPost_ret (v := .tuple #[.string ⟨#[]⟩, .string ⟨#[]⟩, .bool false]) (by simp [results, Try.results50, go_sem]) rfl ⟨by rw [HO.out]; rfl, Below.refl _ _⟩
    · have l1 : ¬ (s.size : Int) < d := by omega
      have HO : Hid (co = if vE (s.extract 0 d) = 0 ∧ 56 ≤ vN (s.extract 0 d) ∧ vN (s.extract 0 d) ≤ s.size - d then some (d, vN (s.extract 0 d)) else none) := HE.out.trans (by rw [if_neg h1, if_neg h2])
      clear HE
      have KV := value_any (s.extract 0 d)
      have hE := vE_or (s.extract 0 d)
      obtain ⟨v, hv⟩ : ∃ v, vN (s.extract 0 d) = v := ⟨_, rfl⟩
      obtain ⟨e, he⟩ : ∃ e, vE (s.extract 0 d) = e := ⟨_, rfl⟩
      rw [hv, he] at KV HO
      rw [he] at hE
      clear hv he
      go_wp2_with fail
      refine (KV _).mono ?_
      rintro e0 w1 ⟨rfl, B1⟩
      replace BW := B1
      clear B1 KV
      obtain ⟨r, hr⟩ : ∃ r, s.extract d s.size = r := ⟨_, rfl⟩
      have hrs : s.size - d = r.size := by rw [← hr]; simp
      have HR : Hid (r.extract 0 v = s.extract d (d + v) ∧ r.extract v r.size = s.extract (d + v) s.size ∨ r.size < v) := by
        by_cases h : r.size < v
        · exact .inr h
        · refine .inl ⟨?_, ?_⟩
          · rw [← hr, ByteArray.extract_extract]
            congr 1
            omega
          · rw [← hrs, ← hr, ByteArray.extract_extract]
            congr 1
            omega
      rw [hrs] at HO
      have hrb : r.size < 1000000000000000000 := by omega
      rcases hE with rfl | rfl
      · by_cases h3 : v < 56
        · have l3 : (v : Int) < 56 := by omega
          have HN : Hid (co = none) := HO.out.trans (if_neg (fun h => by omega))
          go_wp2
          refine bodyPost_ret (v := .tuple #[.string ⟨#[]⟩, .string ⟨#[]⟩, .bool false]) (by simp [results, Try.results50, go_sem]) rfl ⟨by rw [HN.out]; rfl, BW⟩
        · have l3 : ¬ (v : Int) < 56 := by omega
          by_cases h4 : r.size < v
          · have l4 : (r.size : Int) < v := by omega
            have HN : Hid (co = none) := HO.out.trans (if_neg (fun h => by omega))
            go_wp2
            refine bodyPost_ret (v := .tuple #[.string ⟨#[]⟩, .string ⟨#[]⟩, .bool false]) (by simp [results, Try.results50, go_sem]) rfl ⟨by rw [HN.out]; rfl, BW⟩
          · have l4 : ¬ (r.size : Int) < v := by omega
            have HN : Hid (co = some (d, v)) := HO.out.trans (if_pos ⟨rfl, by omega, by omega⟩)
            go_wp2
            refine wp_region_quiet_below (by kernel_rfl) (by kernel_rfl) ?_
            repeat (quiet_step (fail))
            refine wpQuiet_nil ?_
            intro w8 hw8
            have B8 : Below w.heap.size w w8 := by
              obtain ⟨p, rfl⟩ := hw8
              exact belowStep BW BW.size (below_regrown _ _ _)
            clear hw8 BW
            go_wp2
            obtain ⟨hr1, hr2⟩ := HR.out.resolve_right h4
            refine bodyPost_ret (v := .tuple #[.string (r.extract 0 v), .string (r.extract v r.size), .bool true]) (by simp [results, Try.results50, go_sem]) rfl ⟨by rw [HN.out, hr1, hr2]; rfl, B8⟩
      · have HN : Hid (co = none) := HO.out.trans (if_neg (fun h => by omega))
        go_wp2
        refine bodyPost_ret (v := .tuple #[.string ⟨#[]⟩, .string ⟨#[]⟩, .bool false]) (by simp [results, Try.results50, go_sem]) rfl ⟨by rw [HN.out]; rfl, BW⟩
end Go.Proofs.Yteaongogomhooaa
