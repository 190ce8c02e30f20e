/- Texts and WalPlays' notes that come in, opened. -/
import Derived.Test.YtdmnlmohfaafoadDoorWlLaw
import Derived.ProofKit
import Derived.Deep.SlicePairs
import Derived.Carry
namespace Go.Proofs.YtdmnlmohfaafoadDoor
open Go.ChangeShapes Go.WideShapes Go.ChangeAt Go.WideMaps Go.WideElems Go.RowKit

theorem Tryd.own : ownKnob Tryd.prog.godebug = none := by kernel_rfl

theorem Tryd.laidOut : laidOutB Tryd.prog = true := by kernel_rfl

set_option maxRecDepth 100000 in
/-- A slice of texts that comes in is a list of texts. -/
theorem open_texts {H : Type} {enc : TypeId × Value → H} {W : World} {a0 : Option Addr} {len cap : Nat} {d : DataW H} {p : List MemPlace}
    (h : DataW.Trod enc Tryd.prog W 0 (fun _ => true) true 28 (.slice a0 len cap) d p) :
    ∃ l : List ByteArray, len = l.length ∧ NRow W a0 l := by
  obtain ⟨fuel, hf⟩ := h
  rcases Deep.open_slice Tryd.underlying28 hf with ⟨hcs, hx⟩ | ⟨a, len', cap', m, nn, D, Pl, hcs, _, hl, hm, hmm, hx, hel⟩
  · simp [Value.cells] at hcs
    obtain ⟨rfl, rfl, rfl⟩ := hcs
    exact ⟨[], rfl, fun i hi => by simp at hi⟩
  · simp [Value.cells] at hcs
    obtain ⟨rfl, rfl, rfl⟩ := hcs
    simp only [if_true] at hmm
    have ce : Tryd.prog.cellsOf 9 = 1 := by kernel_rfl
    have heach : ∀ i, i < len → ∃ x : ByteArray, W.cell? (a.add (i * 1)) = some (.string x) := fun i hi => by
      obtain ⟨cs', h1, h2⟩ := hel i (by omega)
      rw [ce] at h1
      obtain ⟨_, hlen, hcell⟩ := World.cells?_some h1
      match cs', hlen with
      | [v0], _ =>
        have q0 := hcell 0 (by omega)
        rw [Deep.add_add] at q0
        obtain ⟨k0, e0, _⟩ := DataW.trod_string Tryd.underlying9 h2
        simp only [List.cons.injEq, and_true] at e0
        exact ⟨k0, by simpa [e0] using q0⟩
    obtain ⟨X, hX⟩ := Deep.choose_lt heach
    have hat : ∀ i, i < len → LB.an ((List.range len).map X) i = X i := fun i hi => by
      simp [LB.an, hi]
    refine ⟨(List.range len).map X, by simp, fun i hi => ?_⟩
    have hi : i < len := by simpa using hi
    rw [hat i hi]
    have c0 := hX i hi
    obtain ⟨b, off, spot⟩ := a
    have hspot : spot = none := by
      have := World.cell?_spot (hX 0 (by omega))
      simpa [Addr.add] using this
    subst hspot
    rw [add_plain, Nat.mul_one] at c0
    exact ⟨b, off, rfl, c0, World.block_lt_of_cell? _ _ c0⟩

set_option maxRecDepth 100000 in
/-- A slice of notes that comes in is a list of notes. -/
theorem open_nls {H : Type} {enc : TypeId × Value → H} {W : World} {a0 : Option Addr} {len cap : Nat} {d : DataW H} {p : List MemPlace}
    (h : DataW.Trod enc Tryd.prog W 0 (fun _ => true) true 22 (.slice a0 len cap) d p) :
    ∃ l : List Nl, len = l.length ∧ NlRow W a0 l := by
  obtain ⟨fuel, hf⟩ := h
  rcases Deep.open_slice Tryd.underlying22 hf with ⟨hcs, hx⟩ | ⟨a, len', cap', m, nn, D, Pl, hcs, _, hl, hm, hmm, hx, hel⟩
  · simp [Value.cells] at hcs
    obtain ⟨rfl, rfl, rfl⟩ := hcs
    exact ⟨[], rfl, fun i hi => by simp at hi⟩
  · simp [Value.cells] at hcs
    obtain ⟨rfl, rfl, rfl⟩ := hcs
    simp only [if_true] at hmm
    have ce : Tryd.prog.cellsOf 36 = 2 := by kernel_rfl
    have c1 : Tryd.prog.cellsOf 3 = 1 := by kernel_rfl
    have c2 : Tryd.prog.cellsOf 28 = 1 := by kernel_rfl
    have heach : ∀ i, i < len → ∃ x : (Option Addr × Nat) × Nl, W.cell? (a.add (i * 2)) = some (.int .i64 x.2.a) ∧ W.cell? (a.add (i * 2 + 1)) = some (.slice x.1.1 x.2.l.length x.1.2) ∧ NRow W x.1.1 x.2.l := fun i hi => by
      obtain ⟨cs', h1, h2⟩ := hel i (by omega)
      rw [ce] at h1
      obtain ⟨_, hlen, hcell⟩ := World.cells?_some h1
      obtain ⟨xs, k, hk, hxy, _, hxl, hf⟩ := DataW.trod_struct Tryd.underlying36 h2
      match xs, hxl, cs', hlen with
      | [y0, y1], _, [v0, v1], _ =>
        have g0 := hf 0 _ rfl
        have g1 := hf 1 _ rfl
        simp [c1, c2] at g0 g1
        obtain ⟨k0, e0, _, _⟩ := DataW.trod_int Tryd.underlying3 g0
        simp only [List.cons.injEq, and_true] at e0
        have hv : ∃ a1 len1 cap1, v1 = .slice a1 len1 cap1 := by
          rcases Deep.open_slice Tryd.underlying28 g1 with ⟨hcs, _⟩ | ⟨a1, len1, cap1, _, _, _, _, hcs, _⟩
          · exact ⟨none, 0, 0, by simpa using hcs⟩
          · exact ⟨some a1, len1, cap1, by simpa using hcs⟩
        obtain ⟨a1, len1, cap1, rfl⟩ := hv
        obtain ⟨l, hl1, hS⟩ := open_texts (enc := enc) (W := W) (a0 := a1) (len := len1) (cap := cap1) ⟨_, by simpa [Value.cells] using g1⟩
        have q0 := hcell 0 (by omega)
        have q1 := hcell 1 (by omega)
        rw [Deep.add_add] at q0 q1
        subst hl1
        refine ⟨((a1, cap1), ⟨k0, l⟩), ?_, ?_, hS⟩
        · simpa [e0] using q0
        · simpa using q1
    have : Inhabited Nl := ⟨nlD⟩
    obtain ⟨X, hX⟩ := Deep.choose_lt heach
    have hat : ∀ i, i < len → atL ((List.range len).map fun i => (X i).2) i = (X i).2 := fun i hi => by
      simp [atL, hi]
    refine ⟨(List.range len).map fun i => (X i).2, by simp, fun i hi => ?_⟩
    have hi : i < len := by simpa using hi
    rw [hat i hi]
    obtain ⟨c0, c1, hS⟩ := hX i hi
    obtain ⟨b, off, spot⟩ := a
    have hspot : spot = none := by
      have := World.cell?_spot (hX 0 (by omega)).1
      simpa [Addr.add] using this
    subst hspot
    rw [add_plain] at c0 c1
    exact ⟨b, off, rfl, c0, World.block_lt_of_cell? _ _ c0, (X i).1.1, (X i).1.2, c1, hS⟩

end Go.Proofs.YtdmnlmohfaafoadDoor
