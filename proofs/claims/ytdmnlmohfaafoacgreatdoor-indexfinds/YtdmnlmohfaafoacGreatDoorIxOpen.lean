/- A row of series' labels that comes in, opened. -/
import Derived.Test.YtdmnlmohfaafoacGreatDoorLbOpen
import Derived.Test.YtdmnlmohfaafoacGreatDoorIxMem
namespace Go.Proofs.YtdmnlmohfaafoacGreatDoor
open Go.ChangeShapes Go.WideShapes Go.ChangeAt Go.WideMaps Go.WideElems Go.RowKit

/-- A slice of slices of labels that comes in is a list of lists of labels. -/
theorem open_labelss {H : Type} {enc : TypeId × Value → H} {W : World} {a0 : Option Addr} {len cap : Nat} {d : DataW H} {p : List MemPlace}
    (h : DataW.Trod enc Tryz.prog W 0 (fun _ => true) true 22 (.slice a0 len cap) d p) :
    ∃ L : List (List LB.Lab), len = L.length ∧ LLRow W a0 L ∧ L.length ≤ cap ∧ (a0 = none → cap = 0) := by
  obtain ⟨fuel, hf⟩ := h
  rcases Deep.open_slice Tryz.underlying22 hf with ⟨hcs, hx⟩ | ⟨a, len', cap', m, nn, D, Pl, hcs, _, hl, hm, hmm, hx, hel⟩
  · simp [Value.cells] at hcs
    obtain ⟨rfl, rfl, rfl⟩ := hcs
    exact ⟨[], rfl, fun i hi => by simp at hi, by simp, fun _ => rfl⟩
  · simp [Value.cells] at hcs
    obtain ⟨rfl, rfl, rfl⟩ := hcs
    simp only [if_true] at hmm
    have ce : Tryz.prog.cellsOf 30 = 1 := by kernel_rfl
    have heach : ∀ i, i < len → ∃ x : (Option Addr × Nat) × List LB.Lab, W.cell? (a.add (i * 1)) = some (.slice x.1.1 x.2.length x.1.2) ∧ LRow W x.1.1 x.2 := fun i hi => by
      obtain ⟨cs', h1, h2⟩ := hel i (by omega)
      rw [ce] at h1
      obtain ⟨_, hlen, hcell⟩ := World.cells?_some h1
      match cs', hlen with
      | [v0], _ =>
        have q0 := hcell 0 (by omega)
        rw [Deep.add_add] at q0
        have hv : ∃ a1 len1 cap1, v0 = .slice a1 len1 cap1 := by
          rcases Deep.open_slice Tryz.underlying30 h2 with ⟨hcs, _⟩ | ⟨a1, len1, cap1, _, _, _, _, hcs, _⟩
          · exact ⟨none, 0, 0, by simpa using hcs⟩
          · exact ⟨some a1, len1, cap1, by simpa using hcs⟩
        obtain ⟨a1, len1, cap1, rfl⟩ := hv
        obtain ⟨l, hl1, hS, _⟩ := open_labels (enc := enc) (W := W) (a0 := a1) (len := len1) (cap := cap1) ⟨_, by simpa [Value.cells] using h2⟩
        refine ⟨((a1, cap1), l), ?_, hS⟩
        subst hl1
        simpa using q0
    obtain ⟨X, hX⟩ := Deep.choose_lt heach
    have hat : ∀ i, i < len → IX.atS ((List.range len).map fun i => (X i).2) i = (X i).2 := fun i hi => by
      simp [IX.atS, hi]
    refine ⟨(List.range len).map fun i => (X i).2, by simp, fun i hi => ?_, by simpa using hl, fun h => by cases h⟩
    have hi : i < len := by simpa using hi
    rw [hat i hi]
    obtain ⟨c0, hS⟩ := hX i hi
    obtain ⟨b, off, spot⟩ := a
    have hspot : spot = none := by
      have := World.cell?_spot (hX 0 (by omega)).1
      simpa [Addr.add] using this
    subst hspot
    rw [add_plain, Nat.mul_one] at c0
    exact ⟨b, off, (X i).1.1, (X i).1.2, rfl, c0, hS, World.block_lt_of_cell? _ _ c0⟩

end Go.Proofs.YtdmnlmohfaafoacGreatDoor
