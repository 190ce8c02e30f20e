/- A row of series that comes in, opened (made by mkhd.py). -/
import Derived.Test.YtdmnlmohfaafoadGreatDoorPHdMem
import Derived.ProofKit
import Derived.Deep.SlicePairs
import Derived.Carry
namespace Go.Proofs.YtdmnlmohfaafoadGreatDoor
open Go.ChangeShapes Go.WideShapes Go.ChangeAt Go.WideMaps Go.WideElems Go.RowKit

theorem Tryz.own : ownKnob Tryz.prog.godebug = none := by kernel_rfl

theorem Tryz.laidOut : laidOutB Tryz.prog = true := by kernel_rfl

theorem wf_i64 {n : Int} (h : (Lit.int .i64 n).wf = true) : -9223372036854775808 ≤ n ∧ n ≤ 9223372036854775807 := by
  have h1 : IntKind.i64.min = -9223372036854775808 := rfl
  have h2 : IntKind.i64.max = 9223372036854775807 := rfl
  simp only [Lit.wf, Bool.and_eq_true, decide_eq_true_eq] at h
  omega

set_option maxRecDepth 100000 in
/-- A slice of labels that comes in is a list of labels. -/
theorem open_labels {H : Type} {enc : TypeId × Value → H} {W : World} {a0 : Option Addr} {len cap : Nat} {d : DataW H} {p : List MemPlace}
    (h : DataW.Trod enc Tryz.prog W 0 (fun _ => true) true 50 (.slice a0 len cap) d p) :
    ∃ l : List LB.Lab, len = l.length ∧ LRow W a0 l := by
  obtain ⟨fuel, hf⟩ := h
  rcases Deep.open_slice_pairs Tryz.underlying50 Tryz.underlying49 (by kernel_rfl) rfl rfl (by kernel_rfl) (by kernel_rfl) hf with ⟨hcs, hx⟩ | ⟨a, len', cap', m, nn, V0, V1, D0, D1, P0, P1, hcs, _, hl, hm, hmm, hx, hel⟩
  · simp [Value.cells] at hcs
    obtain ⟨rfl, rfl, rfl⟩ := hcs
    exact ⟨[], rfl, fun i hi => by simp at hi⟩
  · simp [Value.cells] at hcs
    obtain ⟨rfl, rfl, rfl⟩ := hcs
    simp only [if_true] at hmm
    have hpair : ∀ i, i < len → ∃ x : LB.Lab, V0 i = .string x.1 ∧ V1 i = .string x.2 := fun i hi => by
      obtain ⟨_, _, t0, t1⟩ := hel i (by omega)
      obtain ⟨k0, e0, _⟩ := DataW.trod_string Tryz.underlying9 t0
      obtain ⟨k1, e1, _⟩ := DataW.trod_string Tryz.underlying9 t1
      simp only [List.cons.injEq, and_true] at e0 e1
      exact ⟨(k0, k1), e0, e1⟩
    obtain ⟨X, hX⟩ := Deep.choose_lt hpair
    have hat : ∀ i, i < len → LB.at' ((List.range len).map X) i = X i := fun i hi => by
      simp [LB.at', hi]
    refine ⟨(List.range len).map X, by simp, fun i hi => ?_⟩
    have hi : i < len := by simpa using hi
    rw [hat i hi]
    obtain ⟨c0, c1, _, _⟩ := hel i (by omega)
    obtain ⟨e0, e1⟩ := hX i hi
    obtain ⟨b, off, spot⟩ := a
    have hspot : spot = none := by
      have := World.cell?_spot (hel 0 (by omega)).1
      simpa [Addr.add] using this
    subst hspot
    rw [add_plain, e0] at c0
    rw [add_plain, e1] at c1
    exact ⟨b, off, rfl, c0, c1, World.block_lt_of_cell? _ _ c0⟩

set_option maxRecDepth 100000 in
/-- A slice of samples that comes in is a list of samples. -/
theorem open_samples {H : Type} {enc : TypeId × Value → H} {W : World} {a0 : Option Addr} {len cap : Nat} {d : DataW H} {p : List MemPlace}
    (h : DataW.Trod enc Tryz.prog W 0 (fun _ => true) true 53 (.slice a0 len cap) d p) :
    ∃ l : List CL.Smp, len = l.length ∧ SRow W a0 l ∧ ∀ s ∈ l, CL.Rs s := by
  obtain ⟨fuel, hf⟩ := h
  rcases Deep.open_slice_pairs Tryz.underlying53 Tryz.underlying52 (by kernel_rfl) rfl rfl (by kernel_rfl) (by kernel_rfl) hf with ⟨hcs, hx⟩ | ⟨a, len', cap', m, nn, V0, V1, D0, D1, P0, P1, hcs, _, hl, hm, hmm, hx, hel⟩
  · simp [Value.cells] at hcs
    obtain ⟨rfl, rfl, rfl⟩ := hcs
    exact ⟨[], rfl, fun i hi => by simp at hi, fun s hs => by simp at hs⟩
  · simp [Value.cells] at hcs
    obtain ⟨rfl, rfl, rfl⟩ := hcs
    simp only [if_true] at hmm
    have hpair : ∀ i, i < len → ∃ x : Int × Int, V0 i = .int .i64 x.1 ∧ V1 i = .int .i64 x.2 ∧ (Lit.int .i64 x.1).wf = true ∧ (Lit.int .i64 x.2).wf = true := fun i hi => by
      obtain ⟨_, _, t0, t1⟩ := hel i (by omega)
      obtain ⟨k0, e0, _, w0⟩ := DataW.trod_int Tryz.underlying2 t0
      obtain ⟨k1, e1, _, w1⟩ := DataW.trod_int Tryz.underlying2 t1
      simp only [List.cons.injEq, and_true] at e0 e1
      exact ⟨(k0, k1), e0, e1, w0, w1⟩
    obtain ⟨X, hX⟩ := Deep.choose_lt hpair
    have hat : ∀ i, i < len → CL.at' ((List.range len).map X) i = X i := fun i hi => by
      simp [CL.at', hi]
    refine ⟨(List.range len).map X, by simp, fun i hi => ?_, fun s hs => ?_⟩
    · have hi : i < len := by simpa using hi
      rw [hat i hi]
      obtain ⟨c0, c1, _, _⟩ := hel i (by omega)
      obtain ⟨e0, e1, _, _⟩ := hX i hi
      obtain ⟨b, off, spot⟩ := a
      have hspot : spot = none := by
        have := World.cell?_spot (hel 0 (by omega)).1
        simpa [Addr.add] using this
      subst hspot
      rw [add_plain, e0] at c0
      rw [add_plain, e1] at c1
      exact ⟨b, off, rfl, c0, c1, World.block_lt_of_cell? _ _ c0⟩
    · rw [List.mem_map] at hs
      obtain ⟨i, hi, rfl⟩ := hs
      obtain ⟨_, _, w0, w1⟩ := hX i (by simpa using hi)
      exact ⟨wf_i64 w0, wf_i64 w1⟩

set_option maxRecDepth 100000 in
/-- A slice of series that comes in is a list of series. -/
theorem open_series {H : Type} {enc : TypeId × Value → H} {W : World} {a0 : Option Addr} {len cap : Nat} {d : DataW H} {p : List MemPlace}
    (h : DataW.Trod enc Tryz.prog W 0 (fun _ => true) true 22 (.slice a0 len cap) d p) :
    ∃ l : List Sr, len = l.length ∧ SrRow W a0 l ∧ ∀ i, i < l.length → ∀ s ∈ (atSr l i).2, CL.Rs s := by
  obtain ⟨fuel, hf⟩ := h
  rcases Deep.open_slice Tryz.underlying22 hf with ⟨hcs, hx⟩ | ⟨a, len', cap', m, nn, D, Pl, hcs, _, hl, hm, hmm, hx, hel⟩
  · simp [Value.cells] at hcs
    obtain ⟨rfl, rfl, rfl⟩ := hcs
    exact ⟨[], rfl, fun i hi => by simp at hi, fun i hi => by simp at hi⟩
  · simp [Value.cells] at hcs
    obtain ⟨rfl, rfl, rfl⟩ := hcs
    simp only [if_true] at hmm
    have ce : Tryz.prog.cellsOf 55 = 2 := by kernel_rfl
    have c0 : Tryz.prog.cellsOf 50 = 1 := by kernel_rfl
    have c1 : Tryz.prog.cellsOf 53 = 1 := by kernel_rfl
    have heach : ∀ i, i < len → ∃ x : ((Option Addr × Nat) × (Option Addr × Nat)) × Sr, W.cell? (a.add (i * 2)) = some (.slice x.1.1.1 x.2.1.length x.1.1.2) ∧ W.cell? (a.add (i * 2 + 1)) = some (.slice x.1.2.1 x.2.2.length x.1.2.2) ∧ LRow W x.1.1.1 x.2.1 ∧ SRow W x.1.2.1 x.2.2 ∧ ∀ s ∈ x.2.2, CL.Rs s := fun i hi => by
      obtain ⟨cs', h1, h2⟩ := hel i (by omega)
      rw [ce] at h1
      obtain ⟨_, hlen, hcell⟩ := World.cells?_some h1
      obtain ⟨xs, k, hk, hxy, _, hxl, hf⟩ := DataW.trod_struct Tryz.underlying55 h2
      match xs, hxl, cs', hlen with
      | [y0, y1], _, [v0, v1], _ =>
        have g0 := hf 0 _ rfl
        have g1 := hf 1 _ rfl
        simp [c0, c1] at g0 g1
        have hv0 : ∃ a1 len1 cap1, v0 = .slice a1 len1 cap1 := by
          rcases Deep.open_slice Tryz.underlying50 g0 with ⟨hcs, _⟩ | ⟨a1, len1, cap1, _, _, _, _, hcs, _⟩
          · exact ⟨none, 0, 0, by simpa using hcs⟩
          · exact ⟨some a1, len1, cap1, by simpa using hcs⟩
        have hv1 : ∃ a1 len1 cap1, v1 = .slice a1 len1 cap1 := by
          rcases Deep.open_slice Tryz.underlying53 g1 with ⟨hcs, _⟩ | ⟨a1, len1, cap1, _, _, _, _, hcs, _⟩
          · exact ⟨none, 0, 0, by simpa using hcs⟩
          · exact ⟨some a1, len1, cap1, by simpa using hcs⟩
        obtain ⟨a1, len1, cap1, rfl⟩ := hv0
        obtain ⟨a2, len2, cap2, rfl⟩ := hv1
        obtain ⟨l1, hl1, hS1⟩ := open_labels (enc := enc) (W := W) (a0 := a1) (len := len1) (cap := cap1) ⟨_, by simpa [Value.cells] using g0⟩
        obtain ⟨l2, hl2, hS2, hR2⟩ := open_samples (enc := enc) (W := W) (a0 := a2) (len := len2) (cap := cap2) ⟨_, by simpa [Value.cells] using g1⟩
        subst hl1 hl2
        have q0 := hcell 0 (by omega)
        have q1 := hcell 1 (by omega)
        rw [Deep.add_add] at q0 q1
        refine ⟨(((a1, cap1), (a2, cap2)), (l1, l2)), ?_, ?_, hS1, hS2, hR2⟩
        · simpa using q0
        · simpa using q1
    obtain ⟨X, hX⟩ := Deep.choose_lt heach
    have hat : ∀ i, i < len → atSr ((List.range len).map fun i => (X i).2) i = (X i).2 := fun i hi => by
      simp [atSr, hi]
    refine ⟨(List.range len).map fun i => (X i).2, by simp, fun i hi => ?_, fun i hi => ?_⟩
    · have hi : i < len := by simpa using hi
      rw [hat i hi]
      obtain ⟨c0, c1, hS1, hS2, _⟩ := hX i hi
      obtain ⟨b, off, spot⟩ := a
      have hspot : spot = none := by
        have := World.cell?_spot (hX 0 (by omega)).1
        simpa [Addr.add] using this
      subst hspot
      rw [add_plain] at c0 c1
      exact ⟨b, off, rfl, World.block_lt_of_cell? _ _ c0, (X i).1.1.1, (X i).1.1.2, (X i).1.2.1, (X i).1.2.2, c0, c1, hS1, hS2⟩
    · have hi : i < len := by simpa using hi
      rw [hat i hi]
      exact (hX i hi).2.2.2.2

end Go.Proofs.YtdmnlmohfaafoadGreatDoor

