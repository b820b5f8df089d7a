/- Lemmas: Bytes and messages: what is read from what was written, and written of what was read. The law HeadReads, walked. -/
import Derived.Test.YtmefanagpkbjeaaDoorM1
import Derived.Test.YtmefanagpkbjeaaDoorM10
import Derived.Test.YtmefanagpkbjeaaDoorM11
import Derived.Test.YtmefanagpkbjeaaDoorM12
import Derived.Test.YtmefanagpkbjeaaDoorM13
import Derived.Test.YtmefanagpkbjeaaDoorM14
import Derived.Test.YtmefanagpkbjeaaDoorM15
import Derived.Test.YtmefanagpkbjeaaDoorM16
import Derived.Test.YtmefanagpkbjeaaDoorM17
import Derived.Test.YtmefanagpkbjeaaDoorM18
import Derived.Test.YtmefanagpkbjeaaDoorM19
import Derived.Test.YtmefanagpkbjeaaDoorM2
import Derived.Test.YtmefanagpkbjeaaDoorM20
import Derived.Test.YtmefanagpkbjeaaDoorM21
import Derived.Test.YtmefanagpkbjeaaDoorM22
import Derived.Test.YtmefanagpkbjeaaDoorM23
import Derived.Test.YtmefanagpkbjeaaDoorM24
import Derived.Test.YtmefanagpkbjeaaDoorM25
import Derived.Test.YtmefanagpkbjeaaDoorM26
import Derived.Test.YtmefanagpkbjeaaDoorM27
import Derived.Test.YtmefanagpkbjeaaDoorM28
import Derived.Test.YtmefanagpkbjeaaDoorM29
import Derived.Test.YtmefanagpkbjeaaDoorM3
import Derived.Test.YtmefanagpkbjeaaDoorM30
import Derived.Test.YtmefanagpkbjeaaDoorM31
import Derived.Test.YtmefanagpkbjeaaDoorM33
import Derived.Test.YtmefanagpkbjeaaDoorM34
import Derived.Test.YtmefanagpkbjeaaDoorM35
import Derived.Test.YtmefanagpkbjeaaDoorM36
import Derived.Test.YtmefanagpkbjeaaDoorM37
import Derived.Test.YtmefanagpkbjeaaDoorM38
import Derived.Test.YtmefanagpkbjeaaDoorM39
import Derived.Test.YtmefanagpkbjeaaDoorM4
import Derived.Test.YtmefanagpkbjeaaDoorM40
import Derived.Test.YtmefanagpkbjeaaDoorM6
import Derived.Test.YtmefanagpkbjeaaDoorM7
import Derived.Test.YtmefanagpkbjeaaDoorM8
import Derived.Test.YtmefanagpkbjeaaDoorM9
import Derived.Test.YtmefanagpkbjeaaDoorRows
import Derived.Test.YtmefanagpkbjeaaDoorM32
import Derived.Test.YtmefanagpkbjeaaDoorM41
import Derived.Test.YtmefanagpkbjeaaDoorM42
import Derived.Test.YtmefanagpkbjeaaDoorM43
import Derived.Laws.Rows
namespace Go.Proofs.YtmefanagpkbjeaaDoor
open Go.RowKit Go.Shelf Go.Sort

theorem U6_0 : U6 0 := by show 0 < 18446744073709551616; decide
theorem load_wanted {P : Program} {ops : Array Oper} {rest : List Oper} {o : Oper} {a : Act} {w : World} {Q : Exit → Act → World → Prop} (hw : Region.wanted o (yielded ops a.tmps) = true) (ty : TypeId) (x : Operand) (ho : o.op = .load ty x)
    (g : Nat) (hx : a.eval x = .pointer (some ⟨g, 0, none⟩)) (t : TypeId) (cs : Array Value) (fr : Nat × Nat) (d : TypeDesc) (hg : w.heap[g]? = some (.cells cs t fr))
    (hu : P.underlying ty = some d) (hd : (match d with | .struct _ | .array _ _ => true | _ => false) = true) (hi : (P.info? ty).map (·.size) = some cs.size)
    (h : wpList P ops Q rest (a.put o.dst (.agg cs)) w) : wpList P ops Q (o :: rest) a w :=
  wpList_step fun K hK => by
    rw [if_pos hw]
    exact wp_load_row ty x ho g hx t cs fr d hg hu hd hi (hK _ _ h)
theorem stop_load {P : Program} {ops : Array Oper} {rest : List Oper} {o : Oper} {a : Act} {w : World} {Q : Exit → Act → World → Prop} (ty : TypeId) (x : Operand) (_ : o.op = .load ty x) (h : Stp (wpList P ops Q (o :: rest) a w)) : wpList P ops Q (o :: rest) a w := h.out
theorem enc_decD {x : It} (h : eE x = 0) : DecD (eS x) x := by
  obtain ⟨h1, h2, h3⟩ := eE_0 h
  have he : eS x = encI x := by unfold eS; rw [if_pos h]
  rw [he]
  exact ⟨h3, dec_enc h, h1⟩
theorem decD_enc {s : ByteArray} {x : It} (h : DecD s x) : eE x = 0 ∧ eS x = s := by
  obtain ⟨h1, h2, h3⟩ := h
  obtain ⟨k1, k2⟩ := enc_dec h1 h2
  have he : eE x = 0 := by
    unfold eE
    rw [h3, k2, k1]
    simp
    omega
  refine ⟨he, ?_⟩
  unfold eS
  rw [if_pos he]
  exact k1
theorem decD_tb {s : ByteArray} {x : It} (h : DecD s x) : tbI x ≤ 655360 := by
  obtain ⟨h1, h2, h3⟩ := h
  obtain ⟨k1, k2⟩ := enc_dec h1 h2
  have := tb_enc x k2
  rw [k1] at this
  omega
theorem decD_more {x : It} (h : eE x = 0) (more : ByteArray) (hm : 0 < more.size) (y : It) : ¬ DecD (eS x ++ more) y := fun hd => by
  have he : eS x = encI x := by unfold eS; rw [if_pos h]
  rw [he] at hd
  exact dec_more h more hm y hd.2.1
theorem eS_pos {x : It} (h : eE x = 0) : 0 < (eS x).size := by
  have he : eS x = encI x := by unfold eS; rw [if_pos h]
  rw [he, encI_eq]
  exact hdK_pos _ _
theorem decD_less {x : It} (h : eE x = 0) (y : It) : ¬ DecD ((eS x).extract 0 ((eS x).size - 1)) y := fun hd => by
  obtain ⟨h1, h2⟩ := decD_enc hd
  have hp := eS_pos h
  have hj : (eS x).extract 0 ((eS x).size - 1) ++ (eS x).extract ((eS x).size - 1) (eS x).size = eS x := by
    rw [ByteArray.extract_append_extract]
    simp
  have := decD_more h1 ((eS x).extract ((eS x).size - 1) (eS x).size) (by rw [ByteArray.size_extract]; omega) x
  rw [h2, hj] at this
  exact this (enc_decD h)
theorem bt_len6 {s : ByteArray} {d : BtD} {e : Int} (h : BtR s d e) : d.l.br.length < 1000000 ∧ d.c.ks.length < 1000000 ∧ d.br.length < 1000000 := by
  rcases h with ⟨_, _, h⟩ | ⟨_, rfl, _⟩
  · have h := decD_tb h
    have h1 := len_lt d.l
    have h2 := len_cm d.c
    have h3 := len_tsI d.br
    unfold btI at h; rw [tb_lsI] at h
    have h' : 9 + (tbI (ltI d.l) + (tbI (cmI d.c) + (tbI (tsI d.br) + 0))) ≤ 655360 := h
    omega
  · exact ⟨by decide, by decide, by decide⟩
theorem up_len6 {s : ByteArray} {d : UpD} {e : Int} (h : UpR s d e) : d.l.br.length < 1000000 ∧ d.c.ks.length < 1000000 ∧ d.nb.length < 1000000 ∧ d.f.br.length < 1000000 ∧ d.fb.length < 1000000 := by
  rcases h with ⟨_, _, h⟩ | ⟨_, rfl, _⟩
  · have h := decD_tb h
    have h1 := len_lt d.l
    have h2 := len_cm d.c
    have h3 := len_tsI d.nb
    have h4 := len_lt d.f
    have h5 := len_tsI d.fb
    unfold upI at h; rw [tb_lsI] at h
    have h' : 9 + (tbI (ltI d.l) + (tbI (cmI d.c) + (tbI (tsI d.nb) + (tbI (ltI d.f) + (tbI (tsI d.fb) + tbIs [tI (numOf d.bits), tI d.sig, tI (numOf d.slot)]))))) ≤ 655360 := h
    omega
  · exact ⟨by decide, by decide, by decide, by decide, by decide⟩
/-- What was written is read. -/
theorem btR_enc {d d' : BtD} {e : Int} (hd : d.l.ok) (h : eE (btI d) = 0) (hR : BtR (eS (btI d)) d' e) : d' = d ∧ e = 0 := by
  rcases hR with ⟨rfl, h1, h2⟩ | ⟨_, _, h2⟩
  · exact ⟨btI_inj h1 hd (decD_one h2 (enc_decD h)), rfl⟩
  · exact absurd (enc_decD h) (h2 d hd)
theorem upR_enc {d d' : UpD} {e : Int} (hd : d.ok) (h : eE (upI d) = 0) (hR : UpR (eS (upI d)) d' e) : d' = d ∧ e = 0 := by
  rcases hR with ⟨rfl, h1, h2⟩ | ⟨_, _, h2⟩
  · exact ⟨upI_inj h1 hd (decD_one h2 (enc_decD h)), rfl⟩
  · exact absurd (enc_decD h) (h2 d hd)
/-- What was read is right, not great, and is written as it was. -/
theorem btR_ok {s : ByteArray} {d : BtD} {e : Int} (h : BtR s d e) : d.l.ok ∧ tbI (btI d) < 10000000 ∧ (e = 0 → eE (btI d) = 0 ∧ eS (btI d) = s) := by
  rcases h with ⟨rfl, h1, h2⟩ | ⟨rfl, rfl, _⟩
  · exact ⟨h1, by have := decD_tb h2; omega, fun _ => decD_enc h2⟩
  · exact ⟨⟨U6_0, U6_0, U6_0⟩, by decide +kernel, fun h => by cases h⟩
theorem upR_ok {s : ByteArray} {d : UpD} {e : Int} (h : UpR s d e) : d.ok ∧ tbI (upI d) < 10000000 ∧ (e = 0 → eE (upI d) = 0 ∧ eS (upI d) = s) := by
  rcases h with ⟨rfl, h1, h2⟩ | ⟨rfl, rfl, _⟩
  · exact ⟨h1, by have := decD_tb h2; omega, fun _ => decD_enc h2⟩
  · exact ⟨⟨⟨U6_0, U6_0, U6_0⟩, ⟨U6_0, U6_0, U6_0⟩, U6_0, U6_0⟩, by decide +kernel, fun h => by cases h⟩
end Go.Proofs.YtmefanagpkbjeaaDoor
namespace Go.Proofs.YtmefanagpkbjeaaDoor
open Go.RowKit Go.Shelf Go.Sort
set_option maxRecDepth 100000 in
set_option maxHeartbeats 4000000 in
theorem headreads_any (s : ByteArray) (w : World) (hl : Laid w) : Calls Tryd.prog 5 #[.string s] w fun e w' => e = .returned (.bool true) ∧ Below w.heap.size w w' := by
  have KS := fun (W : World) (hB : Below w.heap.size w W) => shown13_any W (hl.below hB)
  have K1 := bootFrom_any s
  have K2 := rbootFrom_any s
  have K3 := from_any s
  have K4 := rfrom_any s
  obtain ⟨z, hz⟩ : ∃ z, w.heap.size = z := ⟨_, rfl⟩
  have HZ : Hid (w.heap.size = z) := hz
  rw [hz] at KS
  clear hz
  go_enter Tryd.func5, Tryd.ntmps5
  have X1 : Below z w w := by rw [← HZ.out]; exact Below.refl _ _
  go_wp2_with fail
  refine (KS _ X1).mono ?_
  rintro e w2 ⟨rfl, B2⟩
  have X2 := belowStep X1 (by rw [HZ.out]; exact Nat.le_refl _) B2
  have y2 : z ≤ w2.heap.size := by have := X2.size; rw [HZ.out] at this; exact this
  clear X1 B2 KS
  go_wp2_with fail
  refine (K1 _).mono ?_
  rintro r v1 ⟨B5, d, e1, pa0, pa1, pa2, pc0, pc1, pc2, hR, rfl, hs0, hs1, hs2⟩
  have v10 := belowStep X2 y2 B5
  have yv1 : z ≤ v1.heap.size := Nat.le_trans y2 B5.size
  have HR1 : Hid (_ ∧ _ ∧ _ ∧ _) := ⟨hR, hs0, hs1, hs2⟩
  have HE1 : Hid (∃ q, d = q) := ⟨_, rfl⟩
  obtain ⟨pN0, hpN0⟩ : ∃ N, d.l.br.length = N := ⟨_, rfl⟩
  obtain ⟨pN1, hpN1⟩ : ∃ N, d.c.ks.length = N := ⟨_, rfl⟩
  obtain ⟨pN2, hpN2⟩ : ∃ N, d.br.length = N := ⟨_, rfl⟩
  have HN1 : Hid (_ ∧ _ ∧ _) := ⟨hpN0, hpN1, hpN2⟩
  obtain ⟨pf0, hpf0⟩ : ∃ v, d.l.s = v := ⟨_, rfl⟩
  obtain ⟨pf1, hpf1⟩ : ∃ v, d.l.u = v := ⟨_, rfl⟩
  obtain ⟨pf2, hpf2⟩ : ∃ v, d.l.p = v := ⟨_, rfl⟩
  obtain ⟨pf3, hpf3⟩ : ∃ v, d.l.t = v := ⟨_, rfl⟩
  obtain ⟨pf4, hpf4⟩ : ∃ v, d.l.b = v := ⟨_, rfl⟩
  obtain ⟨pf5, hpf5⟩ : ∃ v, d.l.ea = v := ⟨_, rfl⟩
  obtain ⟨pf6, hpf6⟩ : ∃ v, d.l.ra = v := ⟨_, rfl⟩
  obtain ⟨pf7, hpf7⟩ : ∃ v, d.l.m = v := ⟨_, rfl⟩
  obtain ⟨pf8, hpf8⟩ : ∃ v, d.c.sm = v := ⟨_, rfl⟩
  simp only [btC, hpN0, hpN1, hpN2, hpf0, hpf1, hpf2, hpf3, hpf4, hpf5, hpf6, hpf7, hpf8]
  have HF1 : Hid (_ ∧ _ ∧ _ ∧ _ ∧ _ ∧ _ ∧ _ ∧ _ ∧ _) := ⟨hpf0, hpf1, hpf2, hpf3, hpf4, hpf5, hpf6, hpf7, hpf8⟩
  clear hpN0 hpN1 hpN2 hpf0 hpf1 hpf2 hpf3 hpf4 hpf5 hpf6 hpf7 hpf8 hR hs0 hs1 hs2 X2 B5 K1 HE1
  obtain ⟨u1, hu1⟩ : ∃ W, (v1.alloc (.cells #[Value.int .u64 0, Value.int .u64 0, Value.string ⟨#[]⟩, Value.string ⟨#[]⟩, Value.string ⟨#[]⟩, Value.string ⟨#[]⟩, Value.string ⟨#[]⟩, Value.int .u64 0, Value.slice none 0 0, Value.slice none 0 0, Value.string ⟨#[]⟩, Value.slice none 0 0] 41)).setRow v1.heap.size #[Value.int .u64 (pf0 : Int), Value.int .u64 (pf1 : Int), Value.string pf2, Value.string pf3, Value.string pf4, Value.string pf5, Value.string pf6, Value.int .u64 (pf7 : Int), Value.slice pa0 pN0 pc0, Value.slice pa1 pN1 pc1, Value.string pf8, Value.slice pa2 pN2 pc2] = W := ⟨_, rfl⟩
  have al1 : Below v1.heap.size v1 u1 := by rw [← hu1]; exact below_setRow (be_new _ _) (Nat.le_refl _) _
  have u10 : Below z w u1 := v10.trans (al1.mono yv1)
  have yu1 : z ≤ u1.heap.size := Nat.le_trans yv1 al1.size
  have hb1 : u1.heap[v1.heap.size]? = some (.cells #[Value.int .u64 (pf0 : Int), Value.int .u64 (pf1 : Int), Value.string pf2, Value.string pf3, Value.string pf4, Value.string pf5, Value.string pf6, Value.int .u64 (pf7 : Int), Value.slice pa0 pN0 pc0, Value.slice pa1 pN1 pc1, Value.string pf8, Value.slice pa2 pN2 pc2] 41 (0, 0)) := by rw [← hu1]; exact setRow_heap _ _ _ _ _ _ (World.alloc_heap_new _ _)
  have hl1 : v1.heap.size < u1.heap.size := by rw [← hu1, setRow_size]; simp
  have HB1 : Hid (∀ W : World, Below u1.heap.size u1 W → W.heap[v1.heap.size]? = some (.cells #[Value.int .u64 (pf0 : Int), Value.int .u64 (pf1 : Int), Value.string pf2, Value.string pf3, Value.string pf4, Value.string pf5, Value.string pf6, Value.int .u64 (pf7 : Int), Value.slice pa0 pN0 pc0, Value.slice pa1 pN1 pc1, Value.string pf8, Value.slice pa2 pN2 pc2] 41 (0, 0))) := fun W hB => (hB.block _ hl1).trans hb1
  have G1 : Below u1.heap.size u1 u1 := Below.refl _ _
  have HA1 : Hid (Below v1.heap.size v1 u1) := al1
  clear hb1 hl1 v10 yv1 al1
  go_wp2_with (refine store_row0 rfl rfl 41 _ _ rfl v1.heap.size #[Value.int .u64 (pf0 : Int), Value.int .u64 (pf1 : Int), Value.string pf2, Value.string pf3, Value.string pf4, Value.string pf5, Value.string pf6, Value.int .u64 (pf7 : Int), Value.slice pa0 pN0 pc0, Value.slice pa1 pN1 pc1, Value.string pf8, Value.slice pa2 pN2 pc2] (by kernel_rfl) (by kernel_rfl) 41 _ (World.alloc_heap_new _ _) (by kernel_rfl) rfl (by simp [Value.oneCell']) ?_)
  first | rw [hu1] | skip
  clear hu1
  generalize (Value.tuple #[Value.agg #[Value.int .u64 (pf0 : Int), Value.int .u64 (pf1 : Int), Value.string pf2, Value.string pf3, Value.string pf4, Value.string pf5, Value.string pf6, Value.int .u64 (pf7 : Int), Value.slice pa0 pN0 pc0, Value.slice pa1 pN1 pc1, Value.string pf8, Value.slice pa2 pN2 pc2], Value.int .i64 e1]) = zt1
  generalize (Value.agg #[Value.int .u64 (pf0 : Int), Value.int .u64 (pf1 : Int), Value.string pf2, Value.string pf3, Value.string pf4, Value.string pf5, Value.string pf6, Value.int .u64 (pf7 : Int), Value.slice pa0 pN0 pc0, Value.slice pa1 pN1 pc1, Value.string pf8, Value.slice pa2 pN2 pc2]) = za1
  refine (K2 _).mono ?_
  rintro r v2 ⟨B5, d2, e2, qa0, qa1, qa2, qc0, qc1, qc2, hR, rfl, hs0, hs1, hs2⟩
  have v20 := belowStep u10 yu1 B5
  have yv2 : z ≤ v2.heap.size := Nat.le_trans yu1 B5.size
  replace G1 := G1.trans (B5.mono G1.size)
  have HR2 : Hid (_ ∧ _ ∧ _ ∧ _) := ⟨hR, hs0, hs1, hs2⟩
  have HE2 : Hid (∃ q, d2 = q) := ⟨_, rfl⟩
  obtain ⟨qN0, hqN0⟩ : ∃ N, d2.l.br.length = N := ⟨_, rfl⟩
  obtain ⟨qN1, hqN1⟩ : ∃ N, d2.c.ks.length = N := ⟨_, rfl⟩
  obtain ⟨qN2, hqN2⟩ : ∃ N, d2.br.length = N := ⟨_, rfl⟩
  have HN2 : Hid (_ ∧ _ ∧ _) := ⟨hqN0, hqN1, hqN2⟩
  obtain ⟨qf0, hqf0⟩ : ∃ v, d2.l.s = v := ⟨_, rfl⟩
  obtain ⟨qf1, hqf1⟩ : ∃ v, d2.l.u = v := ⟨_, rfl⟩
  obtain ⟨qf2, hqf2⟩ : ∃ v, d2.l.p = v := ⟨_, rfl⟩
  obtain ⟨qf3, hqf3⟩ : ∃ v, d2.l.t = v := ⟨_, rfl⟩
  obtain ⟨qf4, hqf4⟩ : ∃ v, d2.l.b = v := ⟨_, rfl⟩
  obtain ⟨qf5, hqf5⟩ : ∃ v, d2.l.ea = v := ⟨_, rfl⟩
  obtain ⟨qf6, hqf6⟩ : ∃ v, d2.l.ra = v := ⟨_, rfl⟩
  obtain ⟨qf7, hqf7⟩ : ∃ v, d2.l.m = v := ⟨_, rfl⟩
  obtain ⟨qf8, hqf8⟩ : ∃ v, d2.c.sm = v := ⟨_, rfl⟩
  simp only [btC, hqN0, hqN1, hqN2, hqf0, hqf1, hqf2, hqf3, hqf4, hqf5, hqf6, hqf7, hqf8]
  have HF2 : Hid (_ ∧ _ ∧ _ ∧ _ ∧ _ ∧ _ ∧ _ ∧ _ ∧ _) := ⟨hqf0, hqf1, hqf2, hqf3, hqf4, hqf5, hqf6, hqf7, hqf8⟩
  clear hqN0 hqN1 hqN2 hqf0 hqf1 hqf2 hqf3 hqf4 hqf5 hqf6 hqf7 hqf8 hR hs0 hs1 hs2 u10 B5 K2 HE2
  obtain ⟨u2, hu2⟩ : ∃ W, (v2.alloc (.cells #[Value.int .u64 0, Value.int .u64 0, Value.string ⟨#[]⟩, Value.string ⟨#[]⟩, Value.string ⟨#[]⟩, Value.string ⟨#[]⟩, Value.string ⟨#[]⟩, Value.int .u64 0, Value.slice none 0 0, Value.slice none 0 0, Value.string ⟨#[]⟩, Value.slice none 0 0] 41)).setRow v2.heap.size #[Value.int .u64 (qf0 : Int), Value.int .u64 (qf1 : Int), Value.string qf2, Value.string qf3, Value.string qf4, Value.string qf5, Value.string qf6, Value.int .u64 (qf7 : Int), Value.slice qa0 qN0 qc0, Value.slice qa1 qN1 qc1, Value.string qf8, Value.slice qa2 qN2 qc2] = W := ⟨_, rfl⟩
  have al2 : Below v2.heap.size v2 u2 := by rw [← hu2]; exact below_setRow (be_new _ _) (Nat.le_refl _) _
  have u20 : Below z w u2 := v20.trans (al2.mono yv2)
  have yu2 : z ≤ u2.heap.size := Nat.le_trans yv2 al2.size
  replace G1 := G1.trans (al2.mono G1.size)
  have hb2 : u2.heap[v2.heap.size]? = some (.cells #[Value.int .u64 (qf0 : Int), Value.int .u64 (qf1 : Int), Value.string qf2, Value.string qf3, Value.string qf4, Value.string qf5, Value.string qf6, Value.int .u64 (qf7 : Int), Value.slice qa0 qN0 qc0, Value.slice qa1 qN1 qc1, Value.string qf8, Value.slice qa2 qN2 qc2] 41 (0, 0)) := by rw [← hu2]; exact setRow_heap _ _ _ _ _ _ (World.alloc_heap_new _ _)
  have hl2 : v2.heap.size < u2.heap.size := by rw [← hu2, setRow_size]; simp
  have HB2 : Hid (∀ W : World, Below u2.heap.size u2 W → W.heap[v2.heap.size]? = some (.cells #[Value.int .u64 (qf0 : Int), Value.int .u64 (qf1 : Int), Value.string qf2, Value.string qf3, Value.string qf4, Value.string qf5, Value.string qf6, Value.int .u64 (qf7 : Int), Value.slice qa0 qN0 qc0, Value.slice qa1 qN1 qc1, Value.string qf8, Value.slice qa2 qN2 qc2] 41 (0, 0))) := fun W hB => (hB.block _ hl2).trans hb2
  have G2 : Below u2.heap.size u2 u2 := Below.refl _ _
  have HA2 : Hid (Below v2.heap.size v2 u2) := al2
  clear hb2 hl2 v20 yv2 al2
  go_wp2_with (refine store_row0 rfl rfl 41 _ _ rfl v2.heap.size #[Value.int .u64 (qf0 : Int), Value.int .u64 (qf1 : Int), Value.string qf2, Value.string qf3, Value.string qf4, Value.string qf5, Value.string qf6, Value.int .u64 (qf7 : Int), Value.slice qa0 qN0 qc0, Value.slice qa1 qN1 qc1, Value.string qf8, Value.slice qa2 qN2 qc2] (by kernel_rfl) (by kernel_rfl) 41 _ (World.alloc_heap_new _ _) (by kernel_rfl) rfl (by simp [Value.oneCell']) ?_)
  first | rw [hu2] | skip
  clear hu2
  generalize (Value.tuple #[Value.agg #[Value.int .u64 (qf0 : Int), Value.int .u64 (qf1 : Int), Value.string qf2, Value.string qf3, Value.string qf4, Value.string qf5, Value.string qf6, Value.int .u64 (qf7 : Int), Value.slice qa0 qN0 qc0, Value.slice qa1 qN1 qc1, Value.string qf8, Value.slice qa2 qN2 qc2], Value.int .i64 e2]) = zt2
  generalize (Value.agg #[Value.int .u64 (qf0 : Int), Value.int .u64 (qf1 : Int), Value.string qf2, Value.string qf3, Value.string qf4, Value.string qf5, Value.string qf6, Value.int .u64 (qf7 : Int), Value.slice qa0 qN0 qc0, Value.slice qa1 qN1 qc1, Value.string qf8, Value.slice qa2 qN2 qc2]) = za2
  refine (K3 _).mono ?_
  rintro r v3 ⟨B5, g, e3, ra0, ra1, ra2, ra3, ra4, rc0, rc1, rc2, rc3, rc4, hR, rfl, hs0, hs1, hs2, hs3, hs4⟩
  have v30 := belowStep u20 yu2 B5
  have yv3 : z ≤ v3.heap.size := Nat.le_trans yu2 B5.size
  replace G1 := G1.trans (B5.mono G1.size)
  replace G2 := G2.trans (B5.mono G2.size)
  have HR3 : Hid (_ ∧ _ ∧ _ ∧ _ ∧ _ ∧ _) := ⟨hR, hs0, hs1, hs2, hs3, hs4⟩
  have HE3 : Hid (∃ q, g = q) := ⟨_, rfl⟩
  obtain ⟨rN0, hrN0⟩ : ∃ N, g.l.br.length = N := ⟨_, rfl⟩
  obtain ⟨rN1, hrN1⟩ : ∃ N, g.c.ks.length = N := ⟨_, rfl⟩
  obtain ⟨rN2, hrN2⟩ : ∃ N, g.nb.length = N := ⟨_, rfl⟩
  obtain ⟨rN3, hrN3⟩ : ∃ N, g.f.br.length = N := ⟨_, rfl⟩
  obtain ⟨rN4, hrN4⟩ : ∃ N, g.fb.length = N := ⟨_, rfl⟩
  have HN3 : Hid (_ ∧ _ ∧ _ ∧ _ ∧ _) := ⟨hrN0, hrN1, hrN2, hrN3, hrN4⟩
  obtain ⟨rf0, hrf0⟩ : ∃ v, g.l.s = v := ⟨_, rfl⟩
  obtain ⟨rf1, hrf1⟩ : ∃ v, g.l.u = v := ⟨_, rfl⟩
  obtain ⟨rf2, hrf2⟩ : ∃ v, g.l.p = v := ⟨_, rfl⟩
  obtain ⟨rf3, hrf3⟩ : ∃ v, g.l.t = v := ⟨_, rfl⟩
  obtain ⟨rf4, hrf4⟩ : ∃ v, g.l.b = v := ⟨_, rfl⟩
  obtain ⟨rf5, hrf5⟩ : ∃ v, g.l.ea = v := ⟨_, rfl⟩
  obtain ⟨rf6, hrf6⟩ : ∃ v, g.l.ra = v := ⟨_, rfl⟩
  obtain ⟨rf7, hrf7⟩ : ∃ v, g.l.m = v := ⟨_, rfl⟩
  obtain ⟨rf8, hrf8⟩ : ∃ v, g.c.sm = v := ⟨_, rfl⟩
  obtain ⟨rf9, hrf9⟩ : ∃ v, g.f.s = v := ⟨_, rfl⟩
  obtain ⟨rf10, hrf10⟩ : ∃ v, g.f.u = v := ⟨_, rfl⟩
  obtain ⟨rf11, hrf11⟩ : ∃ v, g.f.p = v := ⟨_, rfl⟩
  obtain ⟨rf12, hrf12⟩ : ∃ v, g.f.t = v := ⟨_, rfl⟩
  obtain ⟨rf13, hrf13⟩ : ∃ v, g.f.b = v := ⟨_, rfl⟩
  obtain ⟨rf14, hrf14⟩ : ∃ v, g.f.ea = v := ⟨_, rfl⟩
  obtain ⟨rf15, hrf15⟩ : ∃ v, g.f.ra = v := ⟨_, rfl⟩
  obtain ⟨rf16, hrf16⟩ : ∃ v, g.f.m = v := ⟨_, rfl⟩
  obtain ⟨rf17, hrf17⟩ : ∃ v, g.bits = v := ⟨_, rfl⟩
  obtain ⟨rf18, hrf18⟩ : ∃ v, g.sig = v := ⟨_, rfl⟩
  obtain ⟨rf19, hrf19⟩ : ∃ v, g.slot = v := ⟨_, rfl⟩
  simp only [upC, hrN0, hrN1, hrN2, hrN3, hrN4, hrf0, hrf1, hrf2, hrf3, hrf4, hrf5, hrf6, hrf7, hrf8, hrf9, hrf10, hrf11, hrf12, hrf13, hrf14, hrf15, hrf16, hrf17, hrf18, hrf19]
  have HF3 : Hid (_ ∧ _ ∧ _ ∧ _ ∧ _ ∧ _ ∧ _ ∧ _ ∧ _ ∧ _ ∧ _ ∧ _ ∧ _ ∧ _ ∧ _ ∧ _ ∧ _ ∧ _ ∧ _ ∧ _) := ⟨hrf0, hrf1, hrf2, hrf3, hrf4, hrf5, hrf6, hrf7, hrf8, hrf9, hrf10, hrf11, hrf12, hrf13, hrf14, hrf15, hrf16, hrf17, hrf18, hrf19⟩
  clear hrN0 hrN1 hrN2 hrN3 hrN4 hrf0 hrf1 hrf2 hrf3 hrf4 hrf5 hrf6 hrf7 hrf8 hrf9 hrf10 hrf11 hrf12 hrf13 hrf14 hrf15 hrf16 hrf17 hrf18 hrf19 hR hs0 hs1 hs2 hs3 hs4 u20 B5 K3 HE3
  obtain ⟨u3, hu3⟩ : ∃ W, (v3.alloc (.cells #[Value.int .u64 0, Value.int .u64 0, Value.string ⟨#[]⟩, Value.string ⟨#[]⟩, Value.string ⟨#[]⟩, Value.string ⟨#[]⟩, Value.string ⟨#[]⟩, Value.int .u64 0, Value.slice none 0 0, Value.slice none 0 0, Value.string ⟨#[]⟩, Value.slice none 0 0, Value.int .u64 0, Value.int .u64 0, Value.string ⟨#[]⟩, Value.string ⟨#[]⟩, Value.string ⟨#[]⟩, Value.string ⟨#[]⟩, Value.string ⟨#[]⟩, Value.int .u64 0, Value.slice none 0 0, Value.slice none 0 0, Value.int .u64 0, Value.string ⟨#[]⟩, Value.int .u64 0] 43)).setRow v3.heap.size #[Value.int .u64 (rf0 : Int), Value.int .u64 (rf1 : Int), Value.string rf2, Value.string rf3, Value.string rf4, Value.string rf5, Value.string rf6, Value.int .u64 (rf7 : Int), Value.slice ra0 rN0 rc0, Value.slice ra1 rN1 rc1, Value.string rf8, Value.slice ra2 rN2 rc2, Value.int .u64 (rf9 : Int), Value.int .u64 (rf10 : Int), Value.string rf11, Value.string rf12, Value.string rf13, Value.string rf14, Value.string rf15, Value.int .u64 (rf16 : Int), Value.slice ra3 rN3 rc3, Value.slice ra4 rN4 rc4, Value.int .u64 (rf17 : Int), Value.string rf18, Value.int .u64 (rf19 : Int)] = W := ⟨_, rfl⟩
  have al3 : Below v3.heap.size v3 u3 := by rw [← hu3]; exact below_setRow (be_new _ _) (Nat.le_refl _) _
  have u30 : Below z w u3 := v30.trans (al3.mono yv3)
  have yu3 : z ≤ u3.heap.size := Nat.le_trans yv3 al3.size
  replace G1 := G1.trans (al3.mono G1.size)
  replace G2 := G2.trans (al3.mono G2.size)
  have hb3 : u3.heap[v3.heap.size]? = some (.cells #[Value.int .u64 (rf0 : Int), Value.int .u64 (rf1 : Int), Value.string rf2, Value.string rf3, Value.string rf4, Value.string rf5, Value.string rf6, Value.int .u64 (rf7 : Int), Value.slice ra0 rN0 rc0, Value.slice ra1 rN1 rc1, Value.string rf8, Value.slice ra2 rN2 rc2, Value.int .u64 (rf9 : Int), Value.int .u64 (rf10 : Int), Value.string rf11, Value.string rf12, Value.string rf13, Value.string rf14, Value.string rf15, Value.int .u64 (rf16 : Int), Value.slice ra3 rN3 rc3, Value.slice ra4 rN4 rc4, Value.int .u64 (rf17 : Int), Value.string rf18, Value.int .u64 (rf19 : Int)] 43 (0, 0)) := by rw [← hu3]; exact setRow_heap _ _ _ _ _ _ (World.alloc_heap_new _ _)
  have hl3 : v3.heap.size < u3.heap.size := by rw [← hu3, setRow_size]; simp
  have HB3 : Hid (∀ W : World, Below u3.heap.size u3 W → W.heap[v3.heap.size]? = some (.cells #[Value.int .u64 (rf0 : Int), Value.int .u64 (rf1 : Int), Value.string rf2, Value.string rf3, Value.string rf4, Value.string rf5, Value.string rf6, Value.int .u64 (rf7 : Int), Value.slice ra0 rN0 rc0, Value.slice ra1 rN1 rc1, Value.string rf8, Value.slice ra2 rN2 rc2, Value.int .u64 (rf9 : Int), Value.int .u64 (rf10 : Int), Value.string rf11, Value.string rf12, Value.string rf13, Value.string rf14, Value.string rf15, Value.int .u64 (rf16 : Int), Value.slice ra3 rN3 rc3, Value.slice ra4 rN4 rc4, Value.int .u64 (rf17 : Int), Value.string rf18, Value.int .u64 (rf19 : Int)] 43 (0, 0))) := fun W hB => (hB.block _ hl3).trans hb3
  have G3 : Below u3.heap.size u3 u3 := Below.refl _ _
  have HA3 : Hid (Below v3.heap.size v3 u3) := al3
  clear hb3 hl3 v30 yv3 al3
  go_wp2_with (refine store_row0 rfl rfl 43 _ _ rfl v3.heap.size #[Value.int .u64 (rf0 : Int), Value.int .u64 (rf1 : Int), Value.string rf2, Value.string rf3, Value.string rf4, Value.string rf5, Value.string rf6, Value.int .u64 (rf7 : Int), Value.slice ra0 rN0 rc0, Value.slice ra1 rN1 rc1, Value.string rf8, Value.slice ra2 rN2 rc2, Value.int .u64 (rf9 : Int), Value.int .u64 (rf10 : Int), Value.string rf11, Value.string rf12, Value.string rf13, Value.string rf14, Value.string rf15, Value.int .u64 (rf16 : Int), Value.slice ra3 rN3 rc3, Value.slice ra4 rN4 rc4, Value.int .u64 (rf17 : Int), Value.string rf18, Value.int .u64 (rf19 : Int)] (by kernel_rfl) (by kernel_rfl) 43 _ (World.alloc_heap_new _ _) (by kernel_rfl) rfl (by simp [Value.oneCell']) ?_)
  first | rw [hu3] | skip
  clear hu3
  generalize (Value.tuple #[Value.agg #[Value.int .u64 (rf0 : Int), Value.int .u64 (rf1 : Int), Value.string rf2, Value.string rf3, Value.string rf4, Value.string rf5, Value.string rf6, Value.int .u64 (rf7 : Int), Value.slice ra0 rN0 rc0, Value.slice ra1 rN1 rc1, Value.string rf8, Value.slice ra2 rN2 rc2, Value.int .u64 (rf9 : Int), Value.int .u64 (rf10 : Int), Value.string rf11, Value.string rf12, Value.string rf13, Value.string rf14, Value.string rf15, Value.int .u64 (rf16 : Int), Value.slice ra3 rN3 rc3, Value.slice ra4 rN4 rc4, Value.int .u64 (rf17 : Int), Value.string rf18, Value.int .u64 (rf19 : Int)], Value.int .i64 e3]) = zt3
  generalize (Value.agg #[Value.int .u64 (rf0 : Int), Value.int .u64 (rf1 : Int), Value.string rf2, Value.string rf3, Value.string rf4, Value.string rf5, Value.string rf6, Value.int .u64 (rf7 : Int), Value.slice ra0 rN0 rc0, Value.slice ra1 rN1 rc1, Value.string rf8, Value.slice ra2 rN2 rc2, Value.int .u64 (rf9 : Int), Value.int .u64 (rf10 : Int), Value.string rf11, Value.string rf12, Value.string rf13, Value.string rf14, Value.string rf15, Value.int .u64 (rf16 : Int), Value.slice ra3 rN3 rc3, Value.slice ra4 rN4 rc4, Value.int .u64 (rf17 : Int), Value.string rf18, Value.int .u64 (rf19 : Int)]) = za3
  refine (K4 _).mono ?_
  rintro r v4 ⟨B5, g2, e4, sa0, sa1, sa2, sa3, sa4, sc0, sc1, sc2, sc3, sc4, hR, rfl, hs0, hs1, hs2, hs3, hs4⟩
  have v40 := belowStep u30 yu3 B5
  have yv4 : z ≤ v4.heap.size := Nat.le_trans yu3 B5.size
  replace G1 := G1.trans (B5.mono G1.size)
  replace G2 := G2.trans (B5.mono G2.size)
  replace G3 := G3.trans (B5.mono G3.size)
  have HR4 : Hid (_ ∧ _ ∧ _ ∧ _ ∧ _ ∧ _) := ⟨hR, hs0, hs1, hs2, hs3, hs4⟩
  have HE4 : Hid (∃ q, g2 = q) := ⟨_, rfl⟩
  obtain ⟨sN0, hsN0⟩ : ∃ N, g2.l.br.length = N := ⟨_, rfl⟩
  obtain ⟨sN1, hsN1⟩ : ∃ N, g2.c.ks.length = N := ⟨_, rfl⟩
  obtain ⟨sN2, hsN2⟩ : ∃ N, g2.nb.length = N := ⟨_, rfl⟩
  obtain ⟨sN3, hsN3⟩ : ∃ N, g2.f.br.length = N := ⟨_, rfl⟩
  obtain ⟨sN4, hsN4⟩ : ∃ N, g2.fb.length = N := ⟨_, rfl⟩
  have HN4 : Hid (_ ∧ _ ∧ _ ∧ _ ∧ _) := ⟨hsN0, hsN1, hsN2, hsN3, hsN4⟩
  obtain ⟨sf0, hsf0⟩ : ∃ v, g2.l.s = v := ⟨_, rfl⟩
  obtain ⟨sf1, hsf1⟩ : ∃ v, g2.l.u = v := ⟨_, rfl⟩
  obtain ⟨sf2, hsf2⟩ : ∃ v, g2.l.p = v := ⟨_, rfl⟩
  obtain ⟨sf3, hsf3⟩ : ∃ v, g2.l.t = v := ⟨_, rfl⟩
  obtain ⟨sf4, hsf4⟩ : ∃ v, g2.l.b = v := ⟨_, rfl⟩
  obtain ⟨sf5, hsf5⟩ : ∃ v, g2.l.ea = v := ⟨_, rfl⟩
  obtain ⟨sf6, hsf6⟩ : ∃ v, g2.l.ra = v := ⟨_, rfl⟩
  obtain ⟨sf7, hsf7⟩ : ∃ v, g2.l.m = v := ⟨_, rfl⟩
  obtain ⟨sf8, hsf8⟩ : ∃ v, g2.c.sm = v := ⟨_, rfl⟩
  obtain ⟨sf9, hsf9⟩ : ∃ v, g2.f.s = v := ⟨_, rfl⟩
  obtain ⟨sf10, hsf10⟩ : ∃ v, g2.f.u = v := ⟨_, rfl⟩
  obtain ⟨sf11, hsf11⟩ : ∃ v, g2.f.p = v := ⟨_, rfl⟩
  obtain ⟨sf12, hsf12⟩ : ∃ v, g2.f.t = v := ⟨_, rfl⟩
  obtain ⟨sf13, hsf13⟩ : ∃ v, g2.f.b = v := ⟨_, rfl⟩
  obtain ⟨sf14, hsf14⟩ : ∃ v, g2.f.ea = v := ⟨_, rfl⟩
  obtain ⟨sf15, hsf15⟩ : ∃ v, g2.f.ra = v := ⟨_, rfl⟩
  obtain ⟨sf16, hsf16⟩ : ∃ v, g2.f.m = v := ⟨_, rfl⟩
  obtain ⟨sf17, hsf17⟩ : ∃ v, g2.bits = v := ⟨_, rfl⟩
  obtain ⟨sf18, hsf18⟩ : ∃ v, g2.sig = v := ⟨_, rfl⟩
  obtain ⟨sf19, hsf19⟩ : ∃ v, g2.slot = v := ⟨_, rfl⟩
  simp only [upC, hsN0, hsN1, hsN2, hsN3, hsN4, hsf0, hsf1, hsf2, hsf3, hsf4, hsf5, hsf6, hsf7, hsf8, hsf9, hsf10, hsf11, hsf12, hsf13, hsf14, hsf15, hsf16, hsf17, hsf18, hsf19]
  have HF4 : Hid (_ ∧ _ ∧ _ ∧ _ ∧ _ ∧ _ ∧ _ ∧ _ ∧ _ ∧ _ ∧ _ ∧ _ ∧ _ ∧ _ ∧ _ ∧ _ ∧ _ ∧ _ ∧ _ ∧ _) := ⟨hsf0, hsf1, hsf2, hsf3, hsf4, hsf5, hsf6, hsf7, hsf8, hsf9, hsf10, hsf11, hsf12, hsf13, hsf14, hsf15, hsf16, hsf17, hsf18, hsf19⟩
  clear hsN0 hsN1 hsN2 hsN3 hsN4 hsf0 hsf1 hsf2 hsf3 hsf4 hsf5 hsf6 hsf7 hsf8 hsf9 hsf10 hsf11 hsf12 hsf13 hsf14 hsf15 hsf16 hsf17 hsf18 hsf19 hR hs0 hs1 hs2 hs3 hs4 u30 B5 K4 HE4
  obtain ⟨u4, hu4⟩ : ∃ W, (v4.alloc (.cells #[Value.int .u64 0, Value.int .u64 0, Value.string ⟨#[]⟩, Value.string ⟨#[]⟩, Value.string ⟨#[]⟩, Value.string ⟨#[]⟩, Value.string ⟨#[]⟩, Value.int .u64 0, Value.slice none 0 0, Value.slice none 0 0, Value.string ⟨#[]⟩, Value.slice none 0 0, Value.int .u64 0, Value.int .u64 0, Value.string ⟨#[]⟩, Value.string ⟨#[]⟩, Value.string ⟨#[]⟩, Value.string ⟨#[]⟩, Value.string ⟨#[]⟩, Value.int .u64 0, Value.slice none 0 0, Value.slice none 0 0, Value.int .u64 0, Value.string ⟨#[]⟩, Value.int .u64 0] 43)).setRow v4.heap.size #[Value.int .u64 (sf0 : Int), Value.int .u64 (sf1 : Int), Value.string sf2, Value.string sf3, Value.string sf4, Value.string sf5, Value.string sf6, Value.int .u64 (sf7 : Int), Value.slice sa0 sN0 sc0, Value.slice sa1 sN1 sc1, Value.string sf8, Value.slice sa2 sN2 sc2, Value.int .u64 (sf9 : Int), Value.int .u64 (sf10 : Int), Value.string sf11, Value.string sf12, Value.string sf13, Value.string sf14, Value.string sf15, Value.int .u64 (sf16 : Int), Value.slice sa3 sN3 sc3, Value.slice sa4 sN4 sc4, Value.int .u64 (sf17 : Int), Value.string sf18, Value.int .u64 (sf19 : Int)] = W := ⟨_, rfl⟩
  have al4 : Below v4.heap.size v4 u4 := by rw [← hu4]; exact below_setRow (be_new _ _) (Nat.le_refl _) _
  have u40 : Below z w u4 := v40.trans (al4.mono yv4)
  have yu4 : z ≤ u4.heap.size := Nat.le_trans yv4 al4.size
  replace G1 := G1.trans (al4.mono G1.size)
  replace G2 := G2.trans (al4.mono G2.size)
  replace G3 := G3.trans (al4.mono G3.size)
  have hb4 : u4.heap[v4.heap.size]? = some (.cells #[Value.int .u64 (sf0 : Int), Value.int .u64 (sf1 : Int), Value.string sf2, Value.string sf3, Value.string sf4, Value.string sf5, Value.string sf6, Value.int .u64 (sf7 : Int), Value.slice sa0 sN0 sc0, Value.slice sa1 sN1 sc1, Value.string sf8, Value.slice sa2 sN2 sc2, Value.int .u64 (sf9 : Int), Value.int .u64 (sf10 : Int), Value.string sf11, Value.string sf12, Value.string sf13, Value.string sf14, Value.string sf15, Value.int .u64 (sf16 : Int), Value.slice sa3 sN3 sc3, Value.slice sa4 sN4 sc4, Value.int .u64 (sf17 : Int), Value.string sf18, Value.int .u64 (sf19 : Int)] 43 (0, 0)) := by rw [← hu4]; exact setRow_heap _ _ _ _ _ _ (World.alloc_heap_new _ _)
  have hl4 : v4.heap.size < u4.heap.size := by rw [← hu4, setRow_size]; simp
  have HB4 : Hid (∀ W : World, Below u4.heap.size u4 W → W.heap[v4.heap.size]? = some (.cells #[Value.int .u64 (sf0 : Int), Value.int .u64 (sf1 : Int), Value.string sf2, Value.string sf3, Value.string sf4, Value.string sf5, Value.string sf6, Value.int .u64 (sf7 : Int), Value.slice sa0 sN0 sc0, Value.slice sa1 sN1 sc1, Value.string sf8, Value.slice sa2 sN2 sc2, Value.int .u64 (sf9 : Int), Value.int .u64 (sf10 : Int), Value.string sf11, Value.string sf12, Value.string sf13, Value.string sf14, Value.string sf15, Value.int .u64 (sf16 : Int), Value.slice sa3 sN3 sc3, Value.slice sa4 sN4 sc4, Value.int .u64 (sf17 : Int), Value.string sf18, Value.int .u64 (sf19 : Int)] 43 (0, 0))) := fun W hB => (hB.block _ hl4).trans hb4
  have G4 : Below u4.heap.size u4 u4 := Below.refl _ _
  have HA4 : Hid (Below v4.heap.size v4 u4) := al4
  clear hb4 hl4 v40 yv4 al4
  go_wp2_with (first | refine stop_load 41 _ rfl ?_ | refine store_row0 rfl rfl 43 _ _ rfl v4.heap.size #[Value.int .u64 (sf0 : Int), Value.int .u64 (sf1 : Int), Value.string sf2, Value.string sf3, Value.string sf4, Value.string sf5, Value.string sf6, Value.int .u64 (sf7 : Int), Value.slice sa0 sN0 sc0, Value.slice sa1 sN1 sc1, Value.string sf8, Value.slice sa2 sN2 sc2, Value.int .u64 (sf9 : Int), Value.int .u64 (sf10 : Int), Value.string sf11, Value.string sf12, Value.string sf13, Value.string sf14, Value.string sf15, Value.int .u64 (sf16 : Int), Value.slice sa3 sN3 sc3, Value.slice sa4 sN4 sc4, Value.int .u64 (sf17 : Int), Value.string sf18, Value.int .u64 (sf19 : Int)] (by kernel_rfl) (by kernel_rfl) 43 _ (World.alloc_heap_new _ _) (by kernel_rfl) rfl (by simp [Value.oneCell']) ?_)
  first | rw [hu4] | skip
  clear hu4
  generalize (Value.tuple #[Value.agg #[Value.int .u64 (sf0 : Int), Value.int .u64 (sf1 : Int), Value.string sf2, Value.string sf3, Value.string sf4, Value.string sf5, Value.string sf6, Value.int .u64 (sf7 : Int), Value.slice sa0 sN0 sc0, Value.slice sa1 sN1 sc1, Value.string sf8, Value.slice sa2 sN2 sc2, Value.int .u64 (sf9 : Int), Value.int .u64 (sf10 : Int), Value.string sf11, Value.string sf12, Value.string sf13, Value.string sf14, Value.string sf15, Value.int .u64 (sf16 : Int), Value.slice sa3 sN3 sc3, Value.slice sa4 sN4 sc4, Value.int .u64 (sf17 : Int), Value.string sf18, Value.int .u64 (sf19 : Int)], Value.int .i64 e4]) = zt4
  generalize (Value.agg #[Value.int .u64 (sf0 : Int), Value.int .u64 (sf1 : Int), Value.string sf2, Value.string sf3, Value.string sf4, Value.string sf5, Value.string sf6, Value.int .u64 (sf7 : Int), Value.slice sa0 sN0 sc0, Value.slice sa1 sN1 sc1, Value.string sf8, Value.slice sa2 sN2 sc2, Value.int .u64 (sf9 : Int), Value.int .u64 (sf10 : Int), Value.string sf11, Value.string sf12, Value.string sf13, Value.string sf14, Value.string sf15, Value.int .u64 (sf16 : Int), Value.slice sa3 sN3 sc3, Value.slice sa4 sN4 sc4, Value.int .u64 (sf17 : Int), Value.string sf18, Value.int .u64 (sf19 : Int)]) = za4
  have E12 : e2 = e1 := (btR_one HR2.out.1 HR1.out.1).2
  have E34 : e4 = e3 := (upR_one HR4.out.1 HR3.out.1).2
  subst E12 E34
  refine Stp.mk ?_
  have LV : ∀ (v : World) (a : Option Addr) (ts : List ByteArray), slS v.heap.size v a ts → Below v.heap.size v u4 → slS u4.heap.size u4 a ts := fun v a ts h hb => by
    rcases h with h | ⟨b, o, h1, h2, h3⟩
    · exact .inl h
    · exact .inr ⟨b, o, h1, Nat.lt_of_lt_of_le h2 hb.size, fun j x hx => (hb.cell (p := ⟨b, o + j, none⟩) h2).trans (h3 j x hx)⟩
  have K5 : ∀ W : World, Below u4.heap.size u4 W → Calls Tryd.prog 26 #[.agg #[Value.int .u64 (pf0 : Int), Value.int .u64 (pf1 : Int), Value.string pf2, Value.string pf3, Value.string pf4, Value.string pf5, Value.string pf6, Value.int .u64 (pf7 : Int), Value.slice pa0 pN0 pc0, Value.slice pa1 pN1 pc1, Value.string pf8, Value.slice pa2 pN2 pc2], .agg #[Value.int .u64 (qf0 : Int), Value.int .u64 (qf1 : Int), Value.string qf2, Value.string qf3, Value.string qf4, Value.string qf5, Value.string qf6, Value.int .u64 (qf7 : Int), Value.slice qa0 qN0 qc0, Value.slice qa1 qN1 qc1, Value.string qf8, Value.slice qa2 qN2 qc2]] W fun r w' => r = .returned (.bool true) ∧ Below W.heap.size W w' := fun W hB => by
    obtain ⟨h1, s0, s1, s2⟩ := HR1.out
    obtain ⟨h2, t0, t1, t2⟩ := HR2.out
    have Q1 := HA1.out.trans (G1.mono HA1.out.size)
    have Q2 := HA2.out.trans (G2.mono HA2.out.size)
    obtain ⟨rfl, -⟩ := btR_one h2 h1
    obtain ⟨rfl, rfl, rfl⟩ := HN1.out
    obtain ⟨rfl, rfl, rfl⟩ := HN2.out
    obtain ⟨rfl, rfl, rfl, rfl, rfl, rfl, rfl, rfl, rfl⟩ := HF1.out
    obtain ⟨rfl, rfl, rfl, rfl, rfl, rfl, rfl, rfl, rfl⟩ := HF2.out
    exact sameBoot_any d2 pa0 pa1 pa2 qa0 qa1 qa2 pc0 pc1 pc2 qc0 qc1 qc2 u4.heap.size (bt_len6 h1) W hB.size (slS_below hB (LV _ _ _ s0 Q1)) (slS_below hB (LV _ _ _ t0 Q2)) (slS_below hB (LV _ _ _ s1 Q1)) (slS_below hB (LV _ _ _ t1 Q2)) (slS_below hB (LV _ _ _ s2 Q1)) (slS_below hB (LV _ _ _ t2 Q2))
  have K6 : ∀ W : World, Below u4.heap.size u4 W → Calls Tryd.prog 27 #[.agg #[Value.int .u64 (rf0 : Int), Value.int .u64 (rf1 : Int), Value.string rf2, Value.string rf3, Value.string rf4, Value.string rf5, Value.string rf6, Value.int .u64 (rf7 : Int), Value.slice ra0 rN0 rc0, Value.slice ra1 rN1 rc1, Value.string rf8, Value.slice ra2 rN2 rc2, Value.int .u64 (rf9 : Int), Value.int .u64 (rf10 : Int), Value.string rf11, Value.string rf12, Value.string rf13, Value.string rf14, Value.string rf15, Value.int .u64 (rf16 : Int), Value.slice ra3 rN3 rc3, Value.slice ra4 rN4 rc4, Value.int .u64 (rf17 : Int), Value.string rf18, Value.int .u64 (rf19 : Int)], .agg #[Value.int .u64 (sf0 : Int), Value.int .u64 (sf1 : Int), Value.string sf2, Value.string sf3, Value.string sf4, Value.string sf5, Value.string sf6, Value.int .u64 (sf7 : Int), Value.slice sa0 sN0 sc0, Value.slice sa1 sN1 sc1, Value.string sf8, Value.slice sa2 sN2 sc2, Value.int .u64 (sf9 : Int), Value.int .u64 (sf10 : Int), Value.string sf11, Value.string sf12, Value.string sf13, Value.string sf14, Value.string sf15, Value.int .u64 (sf16 : Int), Value.slice sa3 sN3 sc3, Value.slice sa4 sN4 sc4, Value.int .u64 (sf17 : Int), Value.string sf18, Value.int .u64 (sf19 : Int)]] W fun r w' => r = .returned (.bool true) ∧ Below W.heap.size W w' := fun W hB => by
    obtain ⟨h1, s0, s1, s2, s3, s4⟩ := HR3.out
    obtain ⟨h2, t0, t1, t2, t3, t4⟩ := HR4.out
    have Q1 := HA3.out.trans (G3.mono HA3.out.size)
    have Q2 := HA4.out.trans (G4.mono HA4.out.size)
    obtain ⟨rfl, -⟩ := upR_one h2 h1
    obtain ⟨rfl, rfl, rfl, rfl, rfl⟩ := HN3.out
    obtain ⟨rfl, rfl, rfl, rfl, rfl⟩ := HN4.out
    obtain ⟨rfl, rfl, rfl, rfl, rfl, rfl, rfl, rfl, rfl, rfl, rfl, rfl, rfl, rfl, rfl, rfl, rfl, rfl, rfl, rfl⟩ := HF3.out
    obtain ⟨rfl, rfl, rfl, rfl, rfl, rfl, rfl, rfl, rfl, rfl, rfl, rfl, rfl, rfl, rfl, rfl, rfl, rfl, rfl, rfl⟩ := HF4.out
    exact sameUpd_any g2 ra0 ra1 ra2 ra3 ra4 sa0 sa1 sa2 sa3 sa4 rc0 rc1 rc2 rc3 rc4 sc0 sc1 sc2 sc3 sc4 u4.heap.size (up_len6 h1) W hB.size (slS_below hB (LV _ _ _ s0 Q1)) (slS_below hB (LV _ _ _ t0 Q2)) (slS_below hB (LV _ _ _ s1 Q1)) (slS_below hB (LV _ _ _ t1 Q2)) (slS_below hB (LV _ _ _ s2 Q1)) (slS_below hB (LV _ _ _ t2 Q2)) (slS_below hB (LV _ _ _ s3 Q1)) (slS_below hB (LV _ _ _ t3 Q2)) (slS_below hB (LV _ _ _ s4 Q1)) (slS_below hB (LV _ _ _ t4 Q2))
  have gA := HB1.out u4 G1
  have gB := HB2.out u4 G2
  have HG : Hid (_ ∧ _ ∧ _ ∧ _) := ⟨G3, G4, u40, yu4⟩
  have K5a := K5 u4 (Below.refl _ _)
  clear G1 G2 G3 G4 u40 yu4 K5 LV HR1 HR2 HR3 HR4 HN1 HN2 HN3 HN4 HF1 HF2 HF3 HF4 HA1 HA2 HA3 HA4
  go_wp2_with (first | refine load_wanted (by kernel_rfl) 41 (.tmp 4) rfl v1.heap.size (by kernel_rfl) _ _ _ _ gA Tryd.underlying41 rfl (by kernel_rfl) ?_ | refine load_wanted (by kernel_rfl) 41 (.tmp 6) rfl v2.heap.size (by kernel_rfl) _ _ _ _ gB Tryd.underlying41 rfl (by kernel_rfl) ?_)
  refine K5a.mono ?_
  rintro r w6 ⟨rfl, B6⟩
  have gC := HB3.out w6 (HG.out.1.trans (B6.mono HG.out.1.size))
  have gD := HB4.out w6 (HG.out.2.1.trans (B6.mono HG.out.2.1.size))
  have K6a := K6 w6 B6
  have HX : Hid (Below z w w6 ∧ z ≤ w6.heap.size) := ⟨HG.out.2.2.1.trans (B6.mono HG.out.2.2.2), Nat.le_trans HG.out.2.2.2 B6.size⟩
  clear gA gB K5a K6 B6 HG HB1 HB2 HB3 HB4
  go_wp2_with (first | refine load_wanted (by kernel_rfl) 43 (.tmp 8) rfl v3.heap.size (by kernel_rfl) _ _ _ _ gC Tryd.underlying43 rfl (by kernel_rfl) ?_ | refine load_wanted (by kernel_rfl) 43 (.tmp 10) rfl v4.heap.size (by kernel_rfl) _ _ _ _ gD Tryd.underlying43 rfl (by kernel_rfl) ?_)
  refine K6a.mono ?_
  rintro r w7 ⟨rfl, B7⟩
  have HY : Hid (Below z w w7) := HX.out.1.trans (B7.mono HX.out.2)
  clear gC gD K6a B7 HX
  go_wp2
  go_ret
  rw [HZ.out]
  exact ⟨by simp, HY.out⟩
end Go.Proofs.YtmefanagpkbjeaaDoor
