/- Rows of rows of series that come in, opened. -/
import Derived.Test.YtdmnlmohfaafoaeDoorHdOpen
import Derived.Test.YtdmnlmohfaafoaeDoorHwLaw
namespace Go.Proofs.YtdmnlmohfaafoaeDoor
open Go.ChangeShapes Go.WideShapes Go.ChangeAt Go.WideMaps Go.WideElems Go.RowKit

set_option maxRecDepth 100000 in
theorem open_llseries {H : Type} {enc : TypeId × Value → H} {W : World} {a0 : Option Addr} {len cap : Nat} {d : DataW H} {p : List MemPlace}
    (h : DataW.Trod enc Tryd.prog W 0 (fun _ => true) true 22 (.slice a0 len cap) d p) :
    ∃ l : List (List Sr), len = l.length ∧ LLSr W a0 l := by
  obtain ⟨fuel, hf⟩ := h
  rcases Deep.open_slice Tryd.underlying22 hf with ⟨hcs, hx⟩ | ⟨a, len', cap', m, nn, D, Pl, hcs, _, hl, hm, hmm, hx, hel⟩
  · simp [Value.cells] at hcs
    obtain ⟨rfl, rfl, rfl⟩ := hcs
    exact ⟨[], rfl, fun i hi => by simp at hi⟩
  · simp [Value.cells] at hcs
    obtain ⟨rfl, rfl, rfl⟩ := hcs
    simp only [if_true] at hmm
    have ce : Tryd.prog.cellsOf 27 = 1 := by kernel_rfl
    have heach : ∀ i, i < len → ∃ x : (Option Addr × Nat) × List Sr, W.cell? (a.add (i * 1)) = some (.slice x.1.1 x.2.length x.1.2) ∧ SrRow W x.1.1 x.2 ∧ ∀ k, k < x.2.length → ∀ s ∈ (atSr x.2 k).2, CL.Rs s := fun i hi => by
      obtain ⟨cs', h1, h2⟩ := hel i (by omega)
      rw [ce] at h1
      obtain ⟨_, hlen, hcell⟩ := World.cells?_some h1
      match cs', hlen with
      | [v0], _ =>
        have q0 := hcell 0 (by omega)
        rw [Deep.add_add] at q0
        have hv0 : ∃ a1 len1 cap1, v0 = .slice a1 len1 cap1 := by
          rcases Deep.open_slice Tryd.underlying27 h2 with ⟨hcs, _⟩ | ⟨a1, len1, cap1, _, _, _, _, hcs, _⟩
          · exact ⟨none, 0, 0, by simpa using hcs⟩
          · exact ⟨some a1, len1, cap1, by simpa using hcs⟩
        obtain ⟨a1, len1, cap1, rfl⟩ := hv0
        obtain ⟨l1, hl1, hS1, hR1⟩ := open_series (enc := enc) (W := W) (a0 := a1) (len := len1) (cap := cap1) ⟨_, by simpa [Value.cells] using h2⟩
        subst hl1
        exact ⟨((a1, cap1), l1), by simpa using q0, hS1, hR1⟩
    obtain ⟨X, hX⟩ := Deep.choose_lt heach
    have hat : ∀ i, i < len → ((List.range len).map fun i => (X i).2).getD i [] = (X i).2 := fun i hi => by
      simp [hi]
    refine ⟨(List.range len).map fun i => (X i).2, by simp, fun i hi => ?_⟩
    have hi : i < len := by simpa using hi
    rw [hat i hi]
    obtain ⟨c0, hS1, hR1⟩ := hX i hi
    obtain ⟨b, off, spot⟩ := a
    have hspot : spot = none := by
      have := World.cell?_spot (hX 0 (by omega)).1
      simpa [Addr.add] using this
    subst hspot
    rw [add_plain, Nat.mul_one] at c0
    exact ⟨b, off, rfl, World.block_lt_of_cell? _ _ c0, (X i).1.1, (X i).1.2, c0, hS1, hR1⟩

end Go.Proofs.YtdmnlmohfaafoaeDoor
