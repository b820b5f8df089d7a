/- Lemmas: What the package's Apply does. No condition but on sizes that no machine has. -/
import Derived.Test.YtoddangedbefgabGreatDoorM41
import Derived.Test.YtoddangedbefgabGreatDoorM43
set_option maxRecDepth 20000
set_option maxHeartbeats 8000000
namespace Go.Proofs.YtoddangedbefgabGreatDoor
open Go.RowKit Go.Shelf Go.Sort
def apM (s : StD) (d : UpD) : Int := max s.this ((sgN d.bits : Nat) : Int)
def apB (s : StD) (d : UpD) : Bool := !s.has || betR (merN d) (merN s.best)
def apE (s : StD) (d : UpD) : Bool := decide ((max s.last (apM s d)).tdiv 2 < ((sgN d.bits : Nat) : Int))
def apN (s : StD) (d : UpD) : Bool := apE s d && decide (s.new.s < d.l.s)
def apT (s : StD) (d : UpD) : StD where
 fin := s.fin
 new := if apN s d = true then d.l else s.new
 now := s.now
 nxt := s.nxt
 best := if apB s d = true then d else s.best
 has := true
 last := s.last
 this := apM s d
 forced := s.forced
def apP (s : StD) (d : UpD) (p : StP) (q : UpP) : StP where
 fin := p.fin
 new := if apN s d = true then q.l else p.new
 now := p.now
 nxt := p.nxt
 best := if apB s d = true then q else p.best
theorem apT_in {n : Nat} {W : World} {s : StD} {d : UpD} {p : StP} {q : UpP} (h : stIn n W s p) (g : upIn n W d q) : stIn n W (apT s d) (apP s d p q) := by
 refine ⟨h.1, ?_, h.2.2.1, h.2.2.2.1, ?_⟩
 ·show slS n W (if apN s d = true then q.l else p.new).a (if apN s d = true then d.l else s.new).br
  split
  ·exact g.1
  ·exact h.2.1
 ·show upIn n W (if apB s d = true then d else s.best) (if apB s d = true then q else p.best)
  split
  ·exact g
  ·exact h.2.2.2.2
theorem apT_sz {s : StD} {d : UpD} (h : szT s) (g : szU d) : szT (apT s d) := by
 refine ⟨h.1, ?_, h.2.2.1, h.2.2.2.1, ?_⟩
 ·show szL (if apN s d = true then d.l else s.new)
  split
  ·exact g.1
  ·exact h.2.1
 ·show szU (if apB s d = true then d else s.best)
  split
  ·exact g
  ·exact h.2.2.2.2
theorem apT_ok {s : StD} {d : UpD} (h : s.ok) (g : d.ok) : (apT s d).ok := by
 obtain ⟨h1, h2, h3, h4, h5⟩ := h
 have hn := sgN_le d.bits
 refine ⟨h1, ?_, ?_, h4, ?_⟩
 ·show LtD.ok (if apN s d = true then d.l else s.new)
  split
  ·exact g.1
  ·exact h2
 ·show UpD.ok (if apB s d = true then d else s.best)
  split
  ·exact g
  ·exact h3
 ·show -9223372036854775808 ≤ apM s d ∧ apM s d < 9223372036854775808
  unfold apM
  omega
def apS (s : StD) (d : UpD) (now : Nat) : StD := if chE s d now ≠ 0 then s else if fzB (apT s d) d = true then tkS (apT s d) d else apT s d
def apQ (s : StD) (d : UpD) (p : StP) (q : UpP) (now : Nat) : StP := if chE s d now ≠ 0 then p else if fzB (apT s d) d = true then tkP (apT s d) d (apP s d p q) q else apP s d p q
theorem apS_in {n : Nat} {W : World} {s : StD} {d : UpD} {p : StP} {q : UpP} {now : Nat} (h : stIn n W s p) (g : upIn n W d q) : stIn n W (apS s d now) (apQ s d p q now) := by
 unfold apS apQ
 split
 ·exact h
 split
 ·exact tk_in (apT_in h g) g
 ·exact apT_in h g
theorem apS_sz {s : StD} {d : UpD} {now : Nat} (h : szT s) (g : szU d) : szT (apS s d now) := by
 unfold apS
 split
 ·exact h
 split
 ·exact tk_sz (apT_sz h g) g
 ·exact apT_sz h g
theorem apply_no (s : StD) (hs0 : s.ok) (zs : szT s) (d : UpD) (hd : d.ok) (zd : szU d) (p : StP) (q : UpP) (now : Nat) (n : Nat) (w : World) (hL : Ls w) (hn : n ≤ w.heap.size) (hps : stIn n w s p) (hp : upIn n w d q) (he : chE s d now ≠ 0) :
  Calls Tryz.prog 10 #[.agg (stV s p).toArray, .agg (upV d q).toArray, .int .u64 (now : Int)] w fun x w' => (∃ q', x = .returned (.tuple #[.agg (stV s q').toArray, .int .i64 (chE s d now)]) ∧ storG w.heap.size w' s q') ∧ Below w.heap.size w w' := by
 have KC := check_any14 s hs0 zs d hd zd p q now n
 have K1 := fun (W : World) (hB : Below w.heap.size w W) (hs : w.heap.size ≤ W.heap.size) => KC W (hL.below hB) (Nat.le_trans hn hs) (hps.below (hB.mono hn)) (hp.below (hB.mono hn))
 have KD := fun (W : World) (hB : Below w.heap.size w W) (hs : w.heap.size ≤ W.heap.size) => jha s zs p n W (Nat.le_trans hn hs) (hps.below (hB.mono hn))
 have HLn : Hid ((stV s p).length = 51 ∧ (upV d q).length = 25) := show _ from ⟨rfl, rfl⟩
 obtain ⟨E, hE⟩ : ∃ x, chE s d now = x := ⟨_, rfl⟩
 rw [hE] at K1 he ⊢
 obtain ⟨LS, hLS⟩ : ∃ L, stV s p = L := ⟨_, rfl⟩
 obtain ⟨LU, hLU⟩ : ∃ L, upV d q = L := ⟨_, rfl⟩
 rw [hLS] at K1 KD HLn ⊢
 rw [hLU] at K1 HLn ⊢
 clear KC hE hLS hLU hL hn hps hp hs0 hd zs zd
 obtain ⟨B1, xS, xU, xZ, hs⟩ := box3 w (.cells LS.toArray 38) (.cells LU.toArray 33) (.cells zSA 38)
 obtain ⟨z, hz⟩ : ∃ z, w.heap.size = z := ⟨_, rfl⟩
 have HZ : Hid (w.heap.size = z) := hz
 rw [hz] at B1 xS xU xZ hs K1 KD
 have RS := jal xS
 have RU := jal xU
 go_enter Tryz.func10, Tryz.ntmps10
 go_wp2_with (first | (refine wpList_load_mid rfl 38 _ rfl z 0 rfl _ _ RS Tryz.underlying38 rfl (by rw [HLn.out.1]; kernel_rfl) ?_) | (refine jab (by rfl) 38 _ rfl z 0 rfl _ _ RS Tryz.underlying38 rfl (by rw [HLn.out.1]; kernel_rfl) ?_) | (refine wpList_load_mid rfl 33 _ rfl (z + 1) 0 rfl _ _ RU Tryz.underlying33 rfl (by rw [HLn.out.2]; kernel_rfl) ?_) | (refine jab (by rfl) 33 _ rfl (z + 1) 0 rfl _ _ RU Tryz.underlying33 rfl (by rw [HLn.out.2]; kernel_rfl) ?_))
 refine (K1 _ B1 (by omega)).mono ?_
 rintro e V1 ⟨rfl, C⟩
 have xS1 : Bq z 38 LS.toArray V1 := (C.block z (by omega)).trans xS
 have xU1 : Bq (z + 1) 33 LU.toArray V1 := (C.block (z + 1) (by omega)).trans xU
 have xZ1 : Bq (z + 2) 38 _ V1 := (C.block (z + 2) (by omega)).trans xZ
 have BV1 := jaa B1 (by omega) C
 have s1 : z + 3 ≤ V1.heap.size := by have := C.size; omega
 clear C K1 RS RU xS xU xZ hs B1 hz
 have e1 : (E == 0) = false := by rw [beq_eq_false_iff_ne]; exact he
 have e2 : (E != 0) = true := by rw [bne, e1]; rfl
 have RS := jal xS1
 have HY : Hid (_ ∧ _ ∧ _) := ⟨xZ1, BV1, s1⟩
 clear xS1 xU1 xZ1 he
 go_wp2_with (first | (refine wpList_load_mid rfl 38 _ rfl z 0 rfl _ _ RS Tryz.underlying38 rfl (by rw [HLn.out.1]; kernel_rfl) ?_) | (refine jab (by rfl) 38 _ rfl z 0 rfl _ _ RS Tryz.underlying38 rfl (by rw [HLn.out.1]; kernel_rfl) ?_))
 refine (KD _ BV1 (by omega)).mono ?_
 rintro e V2 ⟨⟨q2, rfl, G2⟩, C⟩
 obtain ⟨xZ1, BV1', s1'⟩ := HY.out
 have xZ2 : Bq (z + 2) 38 _ V2 := xZ1.below C
 have BX := jaa BV1 (by omega) C
 have hQ : Hid ((stV s q2).toArray.size = 51) := show _ from rfl
 have hone := jbz s q2
 obtain ⟨F9, hF9⟩ : ∃ F, (stV s q2).toArray = F := ⟨_, rfl⟩
 have HF : Hid (_ ∧ _ ∧ _ ∧ _ ∧ _) := ⟨BX, G2, hF9, jba hone, s1⟩
 rw [hF9] at hQ ⊢
 clear BX G2 hF9 hone BV1 C RS KD xZ1 BV1' s1' s1
 go_wp2_with (refine jao rfl rfl 38 _ _ rfl (z + 2) _ rfl rfl 38 _ xZ2 (by rw [hQ.out]; kernel_rfl) (by rw [hQ.out]; rfl) (by rw [← HF.out.2.2.1]; exact HF.out.2.2.2.1) ?_)
 obtain ⟨BX, G2, hF9, -, s1⟩ := HF.out
 refine bodyPost_ret (jbd rfl _ _ (z + 2) 38 _ (0, 0) _ rfl (Bq.row (show Bq (z + 2) 38 _ _ from xZ2) F9) Tryz.underlying38 rfl (by rw [hQ.out]; kernel_rfl) (.int .i64 E) rfl) rfl ⟨⟨q2, by rw [← hF9], ?_⟩, ?_⟩
 ·exact (G2.keep (by rw [size_setRow]; exact Nat.le_refl _) fun b hb _ => setRow_other _ _ _ _ (by omega)).mono (by have := HZ.out; omega)
 ·rw [HZ.out]
  exact jas BX (by omega) F9
end Go.Proofs.YtoddangedbefgabGreatDoor
