/- Rows of labels and of matchers that come in, opened. -/
import Derived.Test.YtdmnlmohfaafoacGreatDoorLbMem
import Derived.ProofKit
import Derived.Deep.SlicePairs
import Derived.Carry
namespace Go.Proofs.YtdmnlmohfaafoacGreatDoor
open Go.ChangeShapes Go.WideShapes Go.ChangeAt Go.WideMaps Go.WideElems Go.RowKit

theorem Tryz.own : ownKnob Tryz.prog.godebug = none := by kernel_rfl

theorem Tryz.laidOut : laidOutB Tryz.prog = true := by kernel_rfl

set_option maxRecDepth 100000 in
/-- A slice of labels that comes in is a list of labels. -/
theorem open_labels {H : Type} {enc : TypeId × Value → H} {W : World} {a0 : Option Addr} {len cap : Nat} {d : DataW H} {p : List MemPlace}
    (h : DataW.Trod enc Tryz.prog W 0 (fun _ => true) true 30 (.slice a0 len cap) d p) :
    ∃ l : List LB.Lab, len = l.length ∧ LRow W a0 l ∧ l.length ≤ cap ∧ (a0 = none → cap = 0) := by
  obtain ⟨fuel, hf⟩ := h
  rcases Deep.open_slice_pairs Tryz.underlying30 Tryz.underlying54 (by kernel_rfl) rfl rfl (by kernel_rfl) (by kernel_rfl) hf with ⟨hcs, hx⟩ | ⟨a, len', cap', m, nn, V0, V1, D0, D1, P0, P1, hcs, _, hl, hm, hmm, hx, hel⟩
  · simp [Value.cells] at hcs
    obtain ⟨rfl, rfl, rfl⟩ := hcs
    exact ⟨[], rfl, fun i hi => by simp at hi, by simp, fun _ => rfl⟩
  · simp [Value.cells] at hcs
    obtain ⟨rfl, rfl, rfl⟩ := hcs
    simp only [if_true] at hmm
    have hpair : ∀ i, i < len → ∃ x : LB.Lab, V0 i = .string x.1 ∧ V1 i = .string x.2 := fun i hi => by
      obtain ⟨_, _, t0, t1⟩ := hel i (by omega)
      obtain ⟨k0, e0, _⟩ := DataW.trod_string Tryz.underlying9 t0
      obtain ⟨k1, e1, _⟩ := DataW.trod_string Tryz.underlying9 t1
      simp only [List.cons.injEq, and_true] at e0 e1
      exact ⟨(k0, k1), e0, e1⟩
    obtain ⟨X, hX⟩ := Deep.choose_lt hpair
    have hat : ∀ i, i < len → LB.at' ((List.range len).map X) i = X i := fun i hi => by
      simp [LB.at', hi]
    refine ⟨(List.range len).map X, by simp, fun i hi => ?_, by simpa using hl, fun h => by cases h⟩
    have hi : i < len := by simpa using hi
    rw [hat i hi]
    obtain ⟨c0, c1, _, _⟩ := hel i (by omega)
    obtain ⟨e0, e1⟩ := hX i hi
    obtain ⟨b, off, spot⟩ := a
    have hspot : spot = none := by
      have := World.cell?_spot (hel 0 (by omega)).1
      simpa [Addr.add] using this
    subst hspot
    rw [add_plain, e0] at c0
    rw [add_plain, e1] at c1
    exact ⟨b, off, rfl, c0, c1, World.block_lt_of_cell? _ _ c0⟩

theorem wf_i64 {n : Int} (h : (Lit.int .i64 n).wf = true) : -9223372036854775808 ≤ n ∧ n ≤ 9223372036854775807 := by
  have h1 : IntKind.i64.min = -9223372036854775808 := rfl
  have h2 : IntKind.i64.max = 9223372036854775807 := rfl
  simp only [Lit.wf, Bool.and_eq_true, decide_eq_true_eq] at h
  omega

set_option maxRecDepth 100000 in
/-- A slice of matchers that comes in is a list of matchers. -/
theorem open_matchers {H : Type} {enc : TypeId × Value → H} {W : World} {a0 : Option Addr} {len cap : Nat} {d : DataW H} {p : List MemPlace}
    (h : DataW.Trod enc Tryz.prog W 0 (fun _ => true) true 23 (.slice a0 len cap) d p) :
    ∃ l : List LB.Mat, len = l.length ∧ MRow W a0 l ∧ (∀ x ∈ l, -9223372036854775808 ≤ x.op ∧ x.op ≤ 9223372036854775807) ∧ l.length ≤ cap ∧ (a0 = none → cap = 0) := by
  obtain ⟨fuel, hf⟩ := h
  rcases Deep.open_slice Tryz.underlying23 hf with ⟨hcs, hx⟩ | ⟨a, len', cap', m, nn, D, Pl, hcs, _, hl, hm, hmm, hx, hel⟩
  · simp [Value.cells] at hcs
    obtain ⟨rfl, rfl, rfl⟩ := hcs
    exact ⟨[], rfl, fun i hi => by simp at hi, fun x hx => by simp at hx, by simp, fun _ => rfl⟩
  · simp [Value.cells] at hcs
    obtain ⟨rfl, rfl, rfl⟩ := hcs
    simp only [if_true] at hmm
    have ce : Tryz.prog.cellsOf 52 = 3 := by kernel_rfl
    have c0 : Tryz.prog.cellsOf 9 = 1 := by kernel_rfl
    have c1 : Tryz.prog.cellsOf 3 = 1 := by kernel_rfl
    have heach : ∀ i, i < len → ∃ x : LB.Mat, W.cell? (a.add (i * 3)) = some (.string x.nm) ∧ W.cell? (a.add (i * 3 + 1)) = some (.int .i64 x.op) ∧ W.cell? (a.add (i * 3 + 2)) = some (.string x.vl) ∧ -9223372036854775808 ≤ x.op ∧ x.op ≤ 9223372036854775807 := fun i hi => by
      obtain ⟨cs', h1, h2⟩ := hel i (by omega)
      rw [ce] at h1
      obtain ⟨_, hlen, hcell⟩ := World.cells?_some h1
      obtain ⟨xs, k, hk, hxy, _, hxl, hf⟩ := DataW.trod_struct Tryz.underlying52 h2
      match xs, hxl, cs', hlen with
      | [y0, y1, y2], _, [v0, v1, v2], _ =>
        have g0 := hf 0 _ rfl
        have g1 := hf 1 _ rfl
        have g2 := hf 2 _ rfl
        simp [c0, c1] at g0 g1 g2
        obtain ⟨k0, e0, _⟩ := DataW.trod_string Tryz.underlying9 g0
        obtain ⟨k1, e1, _, w1⟩ := DataW.trod_int Tryz.underlying3 g1
        obtain ⟨k2, e2, _⟩ := DataW.trod_string Tryz.underlying9 g2
        simp only [List.cons.injEq, and_true] at e0 e1 e2
        have q0 := hcell 0 (by omega)
        have q1 := hcell 1 (by omega)
        have q2 := hcell 2 (by omega)
        rw [Deep.add_add] at q0 q1 q2
        refine ⟨⟨k0, k1, k2⟩, ?_, ?_, ?_, wf_i64 w1⟩
        · simpa [e0] using q0
        · simpa [e1] using q1
        · simpa [e2] using q2
    have : Inhabited LB.Mat := ⟨⟨ByteArray.empty, 0, ByteArray.empty⟩⟩
    obtain ⟨X, hX⟩ := Deep.choose_lt heach
    have hat : ∀ i, i < len → LB.am ((List.range len).map X) i = X i := fun i hi => by
      simp [LB.am, hi]
    refine ⟨(List.range len).map X, by simp, fun i hi => ?_, fun x hx => ?_, by simpa using hl, fun h => by cases h⟩
    · have hi : i < len := by simpa using hi
      rw [hat i hi]
      obtain ⟨c0, c1, c2, _⟩ := hX i hi
      obtain ⟨b, off, spot⟩ := a
      have hspot : spot = none := by
        have := World.cell?_spot (hX 0 (by omega)).1
        simpa [Addr.add] using this
      subst hspot
      rw [add_plain] at c0 c1 c2
      exact ⟨b, off, rfl, c0, c1, c2, World.block_lt_of_cell? _ _ c0⟩
    · rw [List.mem_map] at hx
      obtain ⟨i, hi, rfl⟩ := hx
      exact (hX i (by simpa using hi)).2.2.2

end Go.Proofs.YtdmnlmohfaafoacGreatDoor
