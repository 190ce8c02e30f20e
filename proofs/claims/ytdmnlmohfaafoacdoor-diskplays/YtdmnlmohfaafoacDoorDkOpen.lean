/- A row of acts that comes in, opened. -/
import Derived.Test.YtdmnlmohfaafoacDoorDkPlay
import Derived.ProofKit
import Derived.Deep.SlicePairs
import Derived.Carry
namespace Go.Proofs.YtdmnlmohfaafoacDoor
open Go.ChangeShapes Go.WideShapes Go.ChangeAt Go.WideMaps Go.WideElems Go.RowKit

theorem Tryd.own : ownKnob Tryd.prog.godebug = none := by kernel_rfl

theorem Tryd.laidOut : laidOutB Tryd.prog = true := by kernel_rfl

theorem wf_i64 {n : Int} (h : (Lit.int .i64 n).wf = true) : -9223372036854775808 ≤ n ∧ n ≤ 9223372036854775807 := by
  have h1 : IntKind.i64.min = -9223372036854775808 := rfl
  have h2 : IntKind.i64.max = 9223372036854775807 := rfl
  simp only [Lit.wf, Bool.and_eq_true, decide_eq_true_eq] at h
  omega

set_option maxRecDepth 100000 in
/-- A slice of acts that comes in is a list of acts. -/
theorem open_acts {H : Type} {enc : TypeId × Value → H} {W : World} {a0 : Option Addr} {len cap : Nat} {d : DataW H} {p : List MemPlace}
    (h : DataW.Trod enc Tryd.prog W 0 (fun _ => true) true 22 (.slice a0 len cap) d p) :
    ∃ l : List Ac, len = l.length ∧ ARow W a0 l ∧ ∀ i, i < l.length → -9223372036854775808 ≤ (atA l i).n ∧ (atA l i).n ≤ 9223372036854775807 := by
  obtain ⟨fuel, hf⟩ := h
  rcases Deep.open_slice Tryd.underlying22 hf with ⟨hcs, hx⟩ | ⟨a, len', cap', m, nn, D, Pl, hcs, _, hl, hm, hmm, hx, hel⟩
  · simp [Value.cells] at hcs
    obtain ⟨rfl, rfl, rfl⟩ := hcs
    exact ⟨[], rfl, fun i hi => by simp at hi, fun i hi => by simp at hi⟩
  · simp [Value.cells] at hcs
    obtain ⟨rfl, rfl, rfl⟩ := hcs
    simp only [if_true] at hmm
    have ce : Tryd.prog.cellsOf 29 = 4 := by kernel_rfl
    have c0 : Tryd.prog.cellsOf 9 = 1 := by kernel_rfl
    have c1 : Tryd.prog.cellsOf 3 = 1 := by kernel_rfl
    have heach : ∀ i, i < len → ∃ x : Ac, W.cell? (a.add (i * 4)) = some (.int .i64 x.a) ∧ W.cell? (a.add (i * 4 + 1)) = some (.int .i64 x.n) ∧ W.cell? (a.add (i * 4 + 2)) = some (.string x.f) ∧ W.cell? (a.add (i * 4 + 3)) = some (.string x.s) ∧ -9223372036854775808 ≤ x.n ∧ x.n ≤ 9223372036854775807 := fun i hi => by
      obtain ⟨cs', h1, h2⟩ := hel i (by omega)
      rw [ce] at h1
      obtain ⟨_, hlen, hcell⟩ := World.cells?_some h1
      obtain ⟨xs, k, hk, hxy, _, hxl, hf⟩ := DataW.trod_struct Tryd.underlying29 h2
      match xs, hxl, cs', hlen with
      | [y0, y1, y2, y3], _, [v0, v1, v2, v3], _ =>
        have g0 := hf 0 _ rfl
        have g1 := hf 1 _ rfl
        have g2 := hf 2 _ rfl
        have g3 := hf 3 _ rfl
        simp [c0, c1] at g0 g1 g2 g3
        obtain ⟨k0, e0, _, _⟩ := DataW.trod_int Tryd.underlying3 g0
        obtain ⟨k1, e1, _, w1⟩ := DataW.trod_int Tryd.underlying3 g1
        obtain ⟨k2, e2, _⟩ := DataW.trod_string Tryd.underlying9 g2
        obtain ⟨k3, e3, _⟩ := DataW.trod_string Tryd.underlying9 g3
        simp only [List.cons.injEq, and_true] at e0 e1 e2 e3
        have q0 := hcell 0 (by omega)
        have q1 := hcell 1 (by omega)
        have q2 := hcell 2 (by omega)
        have q3 := hcell 3 (by omega)
        rw [Deep.add_add] at q0 q1 q2 q3
        refine ⟨⟨k0, k1, k2, k3⟩, ?_, ?_, ?_, ?_, wf_i64 w1⟩
        · simpa [e0] using q0
        · simpa [e1] using q1
        · simpa [e2] using q2
        · simpa [e3] using q3
    have : Inhabited Ac := ⟨acD⟩
    obtain ⟨X, hX⟩ := Deep.choose_lt heach
    have hat : ∀ i, i < len → atA ((List.range len).map X) i = X i := fun i hi => by
      simp [atA, hi]
    refine ⟨(List.range len).map X, by simp, fun i hi => ?_, fun i hi => ?_⟩
    · have hi : i < len := by simpa using hi
      rw [hat i hi]
      obtain ⟨c0, c1, c2, c3, _⟩ := hX i hi
      obtain ⟨b, off, spot⟩ := a
      have hspot : spot = none := by
        have := World.cell?_spot (hX 0 (by omega)).1
        simpa [Addr.add] using this
      subst hspot
      rw [add_plain] at c0 c1 c2 c3
      exact ⟨b, off, rfl, c0, c1, c2, c3, World.block_lt_of_cell? _ _ c0⟩
    · have hi : i < len := by simpa using hi
      rw [hat i hi]
      exact (hX i hi).2.2.2.2

end Go.Proofs.YtdmnlmohfaafoacDoor
