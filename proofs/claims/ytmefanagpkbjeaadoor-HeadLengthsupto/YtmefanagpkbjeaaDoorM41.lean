/- Lemmas: Bytes and messages: what is read from what was written, and written of what was read. -/
import Derived.Test.YtmefanagpkbjeaaDoorM1
import Derived.Test.YtmefanagpkbjeaaDoorM10
import Derived.Test.YtmefanagpkbjeaaDoorM11
import Derived.Test.YtmefanagpkbjeaaDoorM12
import Derived.Test.YtmefanagpkbjeaaDoorM13
import Derived.Test.YtmefanagpkbjeaaDoorM14
import Derived.Test.YtmefanagpkbjeaaDoorM15
import Derived.Test.YtmefanagpkbjeaaDoorM16
import Derived.Test.YtmefanagpkbjeaaDoorM17
import Derived.Test.YtmefanagpkbjeaaDoorM18
import Derived.Test.YtmefanagpkbjeaaDoorM19
import Derived.Test.YtmefanagpkbjeaaDoorM2
import Derived.Test.YtmefanagpkbjeaaDoorM20
import Derived.Test.YtmefanagpkbjeaaDoorM21
import Derived.Test.YtmefanagpkbjeaaDoorM22
import Derived.Test.YtmefanagpkbjeaaDoorM23
import Derived.Test.YtmefanagpkbjeaaDoorM24
import Derived.Test.YtmefanagpkbjeaaDoorM25
import Derived.Test.YtmefanagpkbjeaaDoorM26
import Derived.Test.YtmefanagpkbjeaaDoorM27
import Derived.Test.YtmefanagpkbjeaaDoorM28
import Derived.Test.YtmefanagpkbjeaaDoorM29
import Derived.Test.YtmefanagpkbjeaaDoorM3
import Derived.Test.YtmefanagpkbjeaaDoorM30
import Derived.Test.YtmefanagpkbjeaaDoorM31
import Derived.Test.YtmefanagpkbjeaaDoorM33
import Derived.Test.YtmefanagpkbjeaaDoorM34
import Derived.Test.YtmefanagpkbjeaaDoorM35
import Derived.Test.YtmefanagpkbjeaaDoorM36
import Derived.Test.YtmefanagpkbjeaaDoorM37
import Derived.Test.YtmefanagpkbjeaaDoorM38
import Derived.Test.YtmefanagpkbjeaaDoorM39
import Derived.Test.YtmefanagpkbjeaaDoorM4
import Derived.Test.YtmefanagpkbjeaaDoorM40
import Derived.Test.YtmefanagpkbjeaaDoorM6
import Derived.Test.YtmefanagpkbjeaaDoorM7
import Derived.Test.YtmefanagpkbjeaaDoorM8
import Derived.Test.YtmefanagpkbjeaaDoorM9
import Derived.Test.YtmefanagpkbjeaaDoorRows
import Derived.Laws.Rows
namespace Go.Proofs.YtmefanagpkbjeaaDoor
open Go.RowKit Go.Shelf Go.Sort

theorem U6_0 : U6 0 := by show 0 < 18446744073709551616; decide
theorem load_wanted {P : Program} {ops : Array Oper} {rest : List Oper} {o : Oper} {a : Act} {w : World} {Q : Exit → Act → World → Prop} (hw : Region.wanted o (yielded ops a.tmps) = true) (ty : TypeId) (x : Operand) (ho : o.op = .load ty x)
    (g : Nat) (hx : a.eval x = .pointer (some ⟨g, 0, none⟩)) (t : TypeId) (cs : Array Value) (fr : Nat × Nat) (d : TypeDesc) (hg : w.heap[g]? = some (.cells cs t fr))
    (hu : P.underlying ty = some d) (hd : (match d with | .struct _ | .array _ _ => true | _ => false) = true) (hi : (P.info? ty).map (·.size) = some cs.size)
    (h : wpList P ops Q rest (a.put o.dst (.agg cs)) w) : wpList P ops Q (o :: rest) a w :=
  wpList_step fun K hK => by
    rw [if_pos hw]
    exact wp_load_row ty x ho g hx t cs fr d hg hu hd hi (hK _ _ h)
theorem stop_load {P : Program} {ops : Array Oper} {rest : List Oper} {o : Oper} {a : Act} {w : World} {Q : Exit → Act → World → Prop} (ty : TypeId) (x : Operand) (_ : o.op = .load ty x) (h : Stp (wpList P ops Q (o :: rest) a w)) : wpList P ops Q (o :: rest) a w := h.out
theorem enc_decD {x : It} (h : eE x = 0) : DecD (eS x) x := by
  obtain ⟨h1, h2, h3⟩ := eE_0 h
  have he : eS x = encI x := by unfold eS; rw [if_pos h]
  rw [he]
  exact ⟨h3, dec_enc h, h1⟩
theorem decD_enc {s : ByteArray} {x : It} (h : DecD s x) : eE x = 0 ∧ eS x = s := by
  obtain ⟨h1, h2, h3⟩ := h
  obtain ⟨k1, k2⟩ := enc_dec h1 h2
  have he : eE x = 0 := by
    unfold eE
    rw [h3, k2, k1]
    simp
    omega
  refine ⟨he, ?_⟩
  unfold eS
  rw [if_pos he]
  exact k1
theorem decD_tb {s : ByteArray} {x : It} (h : DecD s x) : tbI x ≤ 655360 := by
  obtain ⟨h1, h2, h3⟩ := h
  obtain ⟨k1, k2⟩ := enc_dec h1 h2
  have := tb_enc x k2
  rw [k1] at this
  omega
theorem decD_more {x : It} (h : eE x = 0) (more : ByteArray) (hm : 0 < more.size) (y : It) : ¬ DecD (eS x ++ more) y := fun hd => by
  have he : eS x = encI x := by unfold eS; rw [if_pos h]
  rw [he] at hd
  exact dec_more h more hm y hd.2.1
theorem eS_pos {x : It} (h : eE x = 0) : 0 < (eS x).size := by
  have he : eS x = encI x := by unfold eS; rw [if_pos h]
  rw [he, encI_eq]
  exact hdK_pos _ _
theorem decD_less {x : It} (h : eE x = 0) (y : It) : ¬ DecD ((eS x).extract 0 ((eS x).size - 1)) y := fun hd => by
  obtain ⟨h1, h2⟩ := decD_enc hd
  have hp := eS_pos h
  have hj : (eS x).extract 0 ((eS x).size - 1) ++ (eS x).extract ((eS x).size - 1) (eS x).size = eS x := by
    rw [ByteArray.extract_append_extract]
    simp
  have := decD_more h1 ((eS x).extract ((eS x).size - 1) (eS x).size) (by rw [ByteArray.size_extract]; omega) x
  rw [h2, hj] at this
  exact this (enc_decD h)
theorem bt_len6 {s : ByteArray} {d : BtD} {e : Int} (h : BtR s d e) : d.l.br.length < 1000000 ∧ d.c.ks.length < 1000000 ∧ d.br.length < 1000000 := by
  rcases h with ⟨_, _, h⟩ | ⟨_, rfl, _⟩
  · have h := decD_tb h
    have h1 := len_lt d.l
    have h2 := len_cm d.c
    have h3 := len_tsI d.br
    unfold btI at h; rw [tb_lsI] at h
    have h' : 9 + (tbI (ltI d.l) + (tbI (cmI d.c) + (tbI (tsI d.br) + 0))) ≤ 655360 := h
    omega
  · exact ⟨by decide, by decide, by decide⟩
theorem up_len6 {s : ByteArray} {d : UpD} {e : Int} (h : UpR s d e) : d.l.br.length < 1000000 ∧ d.c.ks.length < 1000000 ∧ d.nb.length < 1000000 ∧ d.f.br.length < 1000000 ∧ d.fb.length < 1000000 := by
  rcases h with ⟨_, _, h⟩ | ⟨_, rfl, _⟩
  · have h := decD_tb h
    have h1 := len_lt d.l
    have h2 := len_cm d.c
    have h3 := len_tsI d.nb
    have h4 := len_lt d.f
    have h5 := len_tsI d.fb
    unfold upI at h; rw [tb_lsI] at h
    have h' : 9 + (tbI (ltI d.l) + (tbI (cmI d.c) + (tbI (tsI d.nb) + (tbI (ltI d.f) + (tbI (tsI d.fb) + tbIs [tI (numOf d.bits), tI d.sig, tI (numOf d.slot)]))))) ≤ 655360 := h
    omega
  · exact ⟨by decide, by decide, by decide, by decide, by decide⟩
/-- What was written is read. -/
theorem btR_enc {d d' : BtD} {e : Int} (hd : d.l.ok) (h : eE (btI d) = 0) (hR : BtR (eS (btI d)) d' e) : d' = d ∧ e = 0 := by
  rcases hR with ⟨rfl, h1, h2⟩ | ⟨_, _, h2⟩
  · exact ⟨btI_inj h1 hd (decD_one h2 (enc_decD h)), rfl⟩
  · exact absurd (enc_decD h) (h2 d hd)
theorem upR_enc {d d' : UpD} {e : Int} (hd : d.ok) (h : eE (upI d) = 0) (hR : UpR (eS (upI d)) d' e) : d' = d ∧ e = 0 := by
  rcases hR with ⟨rfl, h1, h2⟩ | ⟨_, _, h2⟩
  · exact ⟨upI_inj h1 hd (decD_one h2 (enc_decD h)), rfl⟩
  · exact absurd (enc_decD h) (h2 d hd)
/-- What was read is right, not great, and is written as it was. -/
theorem btR_ok {s : ByteArray} {d : BtD} {e : Int} (h : BtR s d e) : d.l.ok ∧ tbI (btI d) < 10000000 ∧ (e = 0 → eE (btI d) = 0 ∧ eS (btI d) = s) := by
  rcases h with ⟨rfl, h1, h2⟩ | ⟨rfl, rfl, _⟩
  · exact ⟨h1, by have := decD_tb h2; omega, fun _ => decD_enc h2⟩
  · exact ⟨⟨U6_0, U6_0, U6_0⟩, by decide +kernel, fun h => by cases h⟩
theorem upR_ok {s : ByteArray} {d : UpD} {e : Int} (h : UpR s d e) : d.ok ∧ tbI (upI d) < 10000000 ∧ (e = 0 → eE (upI d) = 0 ∧ eS (upI d) = s) := by
  rcases h with ⟨rfl, h1, h2⟩ | ⟨rfl, rfl, _⟩
  · exact ⟨h1, by have := decD_tb h2; omega, fun _ => decD_enc h2⟩
  · exact ⟨⟨⟨U6_0, U6_0, U6_0⟩, ⟨U6_0, U6_0, U6_0⟩, U6_0, U6_0⟩, by decide +kernel, fun h => by cases h⟩
end Go.Proofs.YtmefanagpkbjeaaDoor
