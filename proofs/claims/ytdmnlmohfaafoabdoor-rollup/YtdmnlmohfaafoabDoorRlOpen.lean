/- A row of samples that comes in, opened (for a seat of package roll). -/
import Derived.Test.YtdmnlmohfaafoabDoorRlBase
import Derived.ProofKit
import Derived.Deep.SlicePairs
import Derived.Carry
namespace Go.Proofs.YtdmnlmohfaafoabDoor
open Go.ChangeShapes Go.WideShapes Go.ChangeAt Go.WideMaps Go.WideElems Go.RowKit

theorem Tryd.own : ownKnob Tryd.prog.godebug = none := by kernel_rfl

theorem Tryd.laidOut : laidOutB Tryd.prog = true := by kernel_rfl

theorem wf_i64 {n : Int} (h : (Lit.int .i64 n).wf = true) : -9223372036854775808 ≤ n ∧ n ≤ 9223372036854775807 := by
  have h1 : IntKind.i64.min = -9223372036854775808 := rfl
  have h2 : IntKind.i64.max = 9223372036854775807 := rfl
  simp only [Lit.wf, Bool.and_eq_true, decide_eq_true_eq] at h
  omega

/-- A slice of samples that comes in is a list of samples. -/
theorem open_samples {H : Type} {enc : TypeId × Value → H} {W : World} {a0 : Option Addr} {len cap : Nat} {d : DataW H} {p : List MemPlace}
    (h : DataW.Trod enc Tryd.prog W 0 (fun _ => true) true 22 (.slice a0 len cap) d p) :
    ∃ l : List CL.Smp, len = l.length ∧ SRow W a0 l ∧ (∀ s ∈ l, CL.Rs s) ∧ l.length ≤ cap ∧ (a0 = none → cap = 0) := by
  obtain ⟨fuel, hf⟩ := h
  rcases Deep.open_slice_pairs Tryd.underlying22 Tryd.underlying35 (by kernel_rfl) rfl rfl (by kernel_rfl) (by kernel_rfl) hf with ⟨hcs, hx⟩ | ⟨a, len', cap', m, nn, V0, V1, D0, D1, P0, P1, hcs, _, hl, hm, hmm, hx, hel⟩
  · simp [Value.cells] at hcs
    obtain ⟨rfl, rfl, rfl⟩ := hcs
    exact ⟨[], rfl, fun i hi => by simp at hi, fun s hs => by simp at hs, by simp, fun _ => rfl⟩
  · simp [Value.cells] at hcs
    obtain ⟨rfl, rfl, rfl⟩ := hcs
    simp only [if_true] at hmm
    have hpair : ∀ i, i < len → ∃ x : Int × Int, V0 i = .int .i64 x.1 ∧ V1 i = .int .i64 x.2 ∧ (Lit.int .i64 x.1).wf = true ∧ (Lit.int .i64 x.2).wf = true := fun i hi => by
      obtain ⟨_, _, t0, t1⟩ := hel i (by omega)
      obtain ⟨k0, e0, _, w0⟩ := DataW.trod_int Tryd.underlying2 t0
      obtain ⟨k1, e1, _, w1⟩ := DataW.trod_int Tryd.underlying2 t1
      simp only [List.cons.injEq, and_true] at e0 e1
      exact ⟨(k0, k1), e0, e1, w0, w1⟩
    obtain ⟨X, hX⟩ := Deep.choose_lt hpair
    have hat : ∀ i, i < len → CL.at' ((List.range len).map X) i = X i := fun i hi => by
      simp [CL.at', hi]
    refine ⟨(List.range len).map X, by simp, fun i hi => ?_, fun s hs => ?_, by simpa using hl, fun h => by cases h⟩
    · have hi : i < len := by simpa using hi
      rw [hat i hi]
      obtain ⟨c0, c1, _, _⟩ := hel i (by omega)
      obtain ⟨e0, e1, _, _⟩ := hX i hi
      obtain ⟨b, off, spot⟩ := a
      have hspot : spot = none := by
        have := World.cell?_spot (hel 0 (by omega)).1
        simpa [Addr.add] using this
      subst hspot
      rw [add_plain, e0] at c0
      rw [add_plain, e1] at c1
      exact ⟨b, off, rfl, c0, c1, World.block_lt_of_cell? _ _ c0⟩
    · rw [List.mem_map] at hs
      obtain ⟨i, hi, rfl⟩ := hs
      obtain ⟨_, _, w0, w1⟩ := hX i (by simpa using hi)
      exact ⟨wf_i64 w0, wf_i64 w1⟩

end Go.Proofs.YtdmnlmohfaafoabDoor
