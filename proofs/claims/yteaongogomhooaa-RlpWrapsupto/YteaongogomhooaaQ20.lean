/- Is a list's form known? -/
import Derived.Test.YteaongogomhooaaQ19
namespace Go.Proofs.Yteaongogomhooaa
open Go.RowKit Go.Shelf Go.Sort

def catB : ByteArray := ⟨#[99, 97, 116]⟩
def dogB : ByteArray := ⟨#[100, 111, 103]⟩
def shB : ByteArray := ⟨#[200, 131, 99, 97, 116, 131, 100, 111, 103]⟩
theorem er_inv {x : Im} {l : Bool} {t : ByteArray} {xs : List It} (h : er x = .mk l t xs) : ∃ a c ys, x = .mk l t a c ys ∧ ers ys = xs := by
  obtain ⟨l', t', a, c, ys⟩ := x
  injection h with h1 h2 h3
  subst h1 h2
  exact ⟨a, c, ys, rfl, h3⟩
theorem shown_dec : decF 65537 shB = some [.mk true ⟨#[]⟩ [.mk false catB [], .mk false dogB []]] := by kernel_rfl
theorem shown_enc (a a1 a2 : Option Addr) (c c1 c2 : Nat) : encE (.mk true ⟨#[]⟩ a c [.mk false catB a1 c1 [], .mk false dogB a2 c2 []]) = 0 ∧ encS (.mk true ⟨#[]⟩ a c [.mk false catB a1 c1 [], .mk false dogB a2 c2 []]) = shB := ⟨by kernel_rfl, by kernel_rfl⟩
theorem shown_form {x : Im} (h : er x = .mk true ⟨#[]⟩ [.mk false catB [], .mk false dogB []]) : ∃ a c a1 c1 a2 c2, x = .mk true ⟨#[]⟩ a c [.mk false catB a1 c1 [], .mk false dogB a2 c2 []] := by
  obtain ⟨a, c, ys, rfl, h'⟩ := er_inv h
  clear h
  have hl := congrArg List.length h'
  rw [ers_map, List.length_map] at hl
  match ys, hl, h' with
  | [y1, y2], _, h =>
    have e1 : er y1 = .mk false catB [] := by injection h
    have e2 : er y2 = .mk false dogB [] := by injection h with _ h2; injection h2
    obtain ⟨a1, c1, z1, rfl, k1⟩ := er_inv e1
    obtain ⟨a2, c2, z2, rfl, k2⟩ := er_inv e2
    have n1 : z1 = [] := by
      have := congrArg List.length k1
      rw [ers_map, List.length_map] at this
      exact List.length_eq_zero_iff.1 this
    have n2 : z2 = [] := by
      have := congrArg List.length k2
      rw [ers_map, List.length_map] at this
      exact List.length_eq_zero_iff.1 this
    subst n1 n2
    exact ⟨a, c, a1, c1, a2, c2, rfl⟩
theorem shown_read (x : Im) (e : Int) (h : DecR shB x e) : e = 0 ∧ er x = .mk true ⟨#[]⟩ [.mk false catB [], .mk false dogB []] := by
  rcases h with ⟨h, _⟩ | ⟨_, h, _⟩ | ⟨_, y, h, h2⟩
  · exact absurd h (by decide)
  · exact absurd shown_dec (h _)
  · rw [shown_dec] at h
    have hy : er y = .mk true ⟨#[]⟩ [.mk false catB [], .mk false dogB []] := by injection h with h; injection h with h; exact h.symm
    rcases h2 with ⟨hd, _⟩ | ⟨_, h3, h4⟩
    · obtain ⟨a, c, a1, c1, a2, c2, rfl⟩ := shown_form hy
      have : deep (.mk true ⟨#[]⟩ a c [.mk false catB a1 c1 [], .mk false dogB a2 c2 []]) = false := by kernel_rfl
      rw [this] at hd
      cases hd
    · subst h4
      exact ⟨h3, hy⟩

set_option maxRecDepth 20000 in
set_option maxHeartbeats 2000000 in
theorem shown_any (w : World) : Calls Try.prog 9 #[] w fun e w' => e = .returned (.bool true) ∧ Below w.heap.size w w' := by
  have K1 := text_any catB
  have K2 := text_any dogB
  go_enter Try.func9, Try.ntmps9
  go_wp2_with fail
  refine (K1 _).mono ?_
  rintro e w1 ⟨rfl, B1⟩
  dsimp only [txt, Im.val, Im.l, Im.t, Im.sl, Im.a, Im.xs, Im.c, List.length_nil]
  go_wp2_with fail
  refine (K2 _).mono ?_
  rintro e w2 ⟨rfl, B2⟩
  have BW := belowStep B1 B1.size B2
  clear B1 B2 K1 K2
  dsimp only [txt, Im.val, Im.l, Im.t, Im.sl, Im.a, Im.xs, Im.c, List.length_nil]
  go_wp2_with fail
  have A3 : Below w2.heap.size w2 (w2.alloc (.cells #[.bool false, .string catB, .slice none 0 0, .bool false, .string dogB, .slice none 0 0] 24)) := (Below.refl _ w2).alloc (Nat.le_refl _) _
  have hn3 : (w2.alloc (.cells #[.bool false, .string catB, .slice none 0 0, .bool false, .string dogB, .slice none 0 0] 24)).heap[w2.heap.size]? = some (.cells #[.bool false, .string catB, .slice none 0 0, .bool false, .string dogB, .slice none 0 0] 24 (0, 0)) := World.alloc_heap_new w2 _
  have hl : w2.heap.size < (w2.alloc (.cells #[.bool false, .string catB, .slice none 0 0, .bool false, .string dogB, .slice none 0 0] 24)).heap.size := by simp
  have hm : rowMem (w2.alloc (.cells #[.bool false, .string catB, .slice none 0 0, .bool false, .string dogB, .slice none 0 0] 24)).heap.size (w2.alloc (.cells #[.bool false, .string catB, .slice none 0 0, .bool false, .string dogB, .slice none 0 0] 24)) (some ⟨w2.heap.size, 0, none⟩) 0 [txt catB, txt dogB] :=
    ⟨⟨w2.heap.size, 0, hl, rfl, by rw [Lib.cell_of_heap hn3]; rfl, by rw [Lib.cell_of_heap hn3]; rfl, by rw [Lib.cell_of_heap hn3]; rfl⟩, trivial, ⟨w2.heap.size, 0, hl, rfl, by rw [Lib.cell_of_heap hn3]; rfl, by rw [Lib.cell_of_heap hn3]; rfl, by rw [Lib.cell_of_heap hn3]; rfl⟩, trivial, trivial⟩
  have KL := list_any [txt catB, txt dogB] (by decide) _ (some ⟨w2.heap.size, 0, none⟩) 2 _ (Nat.le_refl _) hm
  refine KL.mono ?_
  rintro e w4 ⟨x, rfl, hx, hin, B4⟩
  replace BW := belowStep BW BW.size (belowStep A3 (by simp) B4)
  obtain ⟨a, c, a1, c1, a2, c2, rfl⟩ := shown_form hx
  have hmx : inMem w4.heap.size w4 _ := inMem_of (fun b hb => hb.2) _ hin
  have KE := encode_any (.mk true ⟨#[]⟩ a c [.mk false catB a1 c1 [], .mk false dogB a2 c2 []]) (by show 33 < 4000000; decide) w4.heap.size w4 (Nat.le_refl _) hmx
  rw [(shown_enc a a1 a2 c c1 c2).1, (shown_enc a a1 a2 c c1 c2).2] at KE
  clear A3 hn3 hl hm KL hx hin B4 hmx
  dsimp only [Im.val, Im.l, Im.t, Im.sl, Im.a, Im.xs, Im.c] at KE ⊢
  go_wp2_with fail
  refine KE.mono ?_
  rintro e w5 ⟨rfl, B5⟩
  replace BW := belowStep BW BW.size B5
  have KD := decode_any shB (fun y hy => by
    rw [shown_dec] at hy
    have hy' : er y = .mk true ⟨#[]⟩ [.mk false catB [], .mk false dogB []] := by injection hy with hy; injection hy with hy; exact hy.symm
    obtain ⟨a, c, a1, c1, a2, c2, rfl⟩ := shown_form hy'
    show 3 < _
    decide)
  clear KE B5
  go_wp2_with fail
  refine (KD _).mono ?_
  rintro e w6 ⟨B6, x, er6, rfl, hdec, hin6⟩
  obtain ⟨rfl, hx⟩ := shown_read x er6 hdec
  obtain ⟨a', c', a1', c1', a2', c2', rfl⟩ := shown_form hx
  replace BW := belowStep BW BW.size B6
  clear B6 KD hdec hx hin6
  dsimp only [Im.val, Im.l, Im.t, Im.sl, Im.a, Im.xs, Im.c, List.length_cons, List.length_nil]
  have hsh : shB.toList = [200, 131, 99, 97, 116, 131, 100, 111, 103] := by kernel_rfl
  go_wp2
  go_ret
  exact ⟨rfl, BW.alloc BW.size _⟩
end Go.Proofs.Yteaongogomhooaa
