/- EvalParts at every input. -/
import Derived.Test.YtdmnlmohfaafoaeGreatDoorPEEvPar
import Derived.Test.YtdmnlmohfaafoaeGreatDoorPEEvAsd
import Derived.Test.YtdmnlmohfaafoaeGreatDoorPEEwEv
namespace Go.Proofs.YtdmnlmohfaafoaeGreatDoor
open Go.RowKit Go.Shelf

set_option maxRecDepth 100000 in
theorem evp_early (ao : Option Addr) (S : List Sr) (cap : Nat) (s b : ByteArray) (t : Int) (w : World) (hS : SrRow w ao S) (h : ¬ (shS S = true ∧ s.size ≤ 60 ∧ b.size ≤ 30 ∧ (-1099511627776 ≤ t ∧ t ≤ 1099511627776))) :
    Calls Tryz.prog 4 #[.slice ao S.length cap, .string s, .string b, .int .i64 t] w fun e w' => e = .returned (.bool true) ∧ Below w.heap.size w w' := by
  have HSh := hid (shS_any ao S cap w hS)
  have HH := hid h
  clear hS h
  generalize shS S = q at *
  go_enter Tryz.func4, Tryz.ntmps4
  go_wp2_with fail
  refine HSh.out.mono ?_
  rintro e w0 ⟨rfl, rfl⟩
  rcases q with _ | _
  · go_wp2_with fail
    go_ret
    exact ⟨rfl, Below.refl _ _⟩
  by_cases h1 : 60 < (s.size : Int)
  · go_wp2_with fail
    go_ret
    exact ⟨rfl, Below.refl _ _⟩
  by_cases h2 : 30 < (b.size : Int)
  · go_wp2_with fail
    go_ret
    exact ⟨rfl, Below.refl _ _⟩
  by_cases h3 : t < -1099511627776
  · go_wp2_with fail
    go_ret
    exact ⟨rfl, Below.refl _ _⟩
  by_cases h4 : 1099511627776 < t
  · go_wp2_with fail
    go_ret
    exact ⟨rfl, Below.refl _ _⟩
  exact absurd ⟨rfl, by omega, by omega, by omega⟩ HH.out

theorem evparts_all (ao : Option Addr) (S : List Sr) (cap : Nat) (s b : ByteArray) (t : Int) (w : World) (hG : Gl w) (hS : SrRow w ao S) (hR : ∀ i, i < S.length → ∀ x ∈ (atSr S i).2, CL.Rs x) :
    Calls Tryz.prog 4 #[.slice ao S.length cap, .string s, .string b, .int .i64 t] w fun e w' => e = .returned (.bool true) ∧ Below w.heap.size w w' := by
  by_cases h : shS S = true ∧ s.size ≤ 60 ∧ b.size ≤ 30 ∧ (-1099511627776 ≤ t ∧ t ≤ 1099511627776)
  · exact evparts_any eval_is (asked_is eval_is) ao S cap s b t w hG (SrOut.of_row hS (fun j h => h.elim)) hR h.1 h.2.1 h.2.2.1 h.2.2.2
  · exact evp_early ao S cap s b t w hS h

end Go.Proofs.YtdmnlmohfaafoaeGreatDoor

