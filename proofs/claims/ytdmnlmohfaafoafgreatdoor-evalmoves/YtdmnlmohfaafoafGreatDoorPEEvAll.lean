/- EvalMoves and EvalParts at every input. -/
import Derived.Test.YtdmnlmohfaafoafGreatDoorPEEvMov
import Derived.Test.YtdmnlmohfaafoafGreatDoorPEEvAsd
import Derived.Test.YtdmnlmohfaafoafGreatDoorPEEwEv
namespace Go.Proofs.YtdmnlmohfaafoafGreatDoor
open Go.RowKit Go.Shelf

set_option maxRecDepth 100000 in
theorem evm_early (ao : Option Addr) (S : List Sr) (cap : Nat) (s : ByteArray) (t d : Int) (w : World) (hS : SrRow w ao S) (h : ¬ (shS S = true ∧ s.size ≤ 300 ∧ (-1073741824 ≤ t ∧ t ≤ 1073741824) ∧ (-1073741824 ≤ d ∧ d ≤ 1073741824))) :
    Calls Tryz.prog 3 #[.slice ao S.length cap, .string s, .int .i64 t, .int .i64 d] w fun e w' => e = .returned (.bool true) ∧ Below w.heap.size w w' := by
  have HSh := hid (shS_any ao S cap w hS)
  have HH := hid h
  clear hS h
  generalize shS S = q at *
  go_enter Tryz.func3, Tryz.ntmps3
  go_wp2_with fail
  refine HSh.out.mono ?_
  rintro e w0 ⟨rfl, rfl⟩
  rcases q with _ | _
  · go_wp2_with fail
    go_ret
    exact ⟨rfl, Below.refl _ _⟩
  by_cases h1 : 300 < (s.size : Int)
  · go_wp2_with fail
    go_ret
    exact ⟨rfl, Below.refl _ _⟩
  by_cases h2 : t < -1073741824
  · go_wp2_with fail
    go_ret
    exact ⟨rfl, Below.refl _ _⟩
  by_cases h3 : 1073741824 < t
  · go_wp2_with fail
    go_ret
    exact ⟨rfl, Below.refl _ _⟩
  by_cases h4 : d < -1073741824
  · go_wp2_with fail
    go_ret
    exact ⟨rfl, Below.refl _ _⟩
  by_cases h5 : 1073741824 < d
  · go_wp2_with fail
    go_ret
    exact ⟨rfl, Below.refl _ _⟩
  exact absurd ⟨rfl, by omega, by omega, by omega⟩ HH.out

theorem evmoves_all (ao : Option Addr) (S : List Sr) (cap : Nat) (s : ByteArray) (t d : Int) (w : World) (hG : Gl w) (hS : SrRow w ao S) (hR : ∀ i, i < S.length → ∀ x ∈ (atSr S i).2, CL.Rs x) :
    Calls Tryz.prog 3 #[.slice ao S.length cap, .string s, .int .i64 t, .int .i64 d] w fun e w' => e = .returned (.bool true) ∧ Below w.heap.size w w' := by
  by_cases h : shS S = true ∧ s.size ≤ 300 ∧ (-1073741824 ≤ t ∧ t ≤ 1073741824) ∧ (-1073741824 ≤ d ∧ d ≤ 1073741824)
  · exact evmoves_any eval_is (asked_is eval_is) ao S cap s t d w hG (SrOut.of_row hS (fun j h => h.elim)) hR h.1 h.2.1 h.2.2.1 h.2.2.2
  · exact evm_early ao S cap s t d w hS h

end Go.Proofs.YtdmnlmohfaafoafGreatDoor

