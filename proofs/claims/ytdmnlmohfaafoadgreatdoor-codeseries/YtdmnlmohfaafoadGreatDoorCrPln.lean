/- What is read is few, and is written just so, plain. Names no function. -/
import Derived.Test.YtdmnlmohfaafoadGreatDoorCdMem
import Derived.Test.YtdmnlmohfaafoadGreatDoorCdCont
import Derived.Test.YtdmnlmohfaafoadGreatDoorChTxt
namespace Go.Proofs.YtdmnlmohfaafoadGreatDoor
open Go.RowKit

theorem chDE (c : List UInt8) (x : List CL.Smp) (h : chD c = some x) : chE x = c := by
  have := tx_write_read (sb c) x h
  unfold chE
  rw [this, sb_data]

theorem chD_rs {c : List UInt8} {x : List CL.Smp} (h : chD c = some x) : CL.right x = true ∧ x.length ≤ 2000 ∧ ∀ s ∈ x, CL.Rs s := by
  obtain ⟨h1, h2, _⟩ := CL.read_inv _ x h
  exact ⟨h1, ((CL.right_iff x).1 h1).1, h2⟩

/-- What is read of few bytes is few. -/
theorem rAll_few {S r : List UInt8} {l : List (List CD.Lb × List CL.Smp)} (h : CD.rAll chD lbK S = some (l, r)) : l.length ≤ S.length ∧ ∀ x ∈ l, lbK x.1 = true ∧ x.1.length ≤ 8 ∧ chD (chE x.2) = some x.2 := by
  refine ⟨?_, (CD.rAll_inv chDE h).2⟩
  unfold CD.rAll at h
  split at h
  · cases h
  · rename_i n r1 h1
    have hl := rN_len h1
    split at h
    · have h2 := CD.rS_len h
      have h3 := (CD.rS_inv chDE h).2.1
      omega
    · cases h

theorem atSr_map (l : List (List CD.Lb × List CL.Smp)) (i : Nat) (hi : i < l.length) : ∃ x ∈ l, atSr (l.map toSr) i = toSr x := by
  refine ⟨l[i]'hi, List.getElem_mem hi, ?_⟩
  unfold atSr
  rw [List.getD_eq_getElem?_getD, List.getElem?_map, List.getElem?_eq_getElem hi]
  rfl

theorem srFew_of {S r : List UInt8} {l : List (List CD.Lb × List CL.Smp)} (h : CD.rAll chD lbK S = some (l, r)) (hS : S.length ≤ 5000000) : SrFew (l.map toSr) := by
  obtain ⟨h1, h2⟩ := rAll_few h
  refine ⟨by rw [List.length_map]; omega, fun i hi => ?_⟩
  rw [List.length_map] at hi
  obtain ⟨x, hx, e⟩ := atSr_map l i hi
  obtain ⟨_, h4, h5⟩ := h2 x hx
  rw [e]
  refine ⟨?_, by have := (chD_rs h5).2.1; show x.2.length ≤ _; omega⟩
  show (toLab x.1).length ≤ 1000
  unfold toLab
  rw [List.length_map]
  omega

theorem srFew_nil : SrFew [] := ⟨by simp, fun i hi => by simp at hi⟩

theorem SrRow.nil (w : World) (ao : Option Addr) : SrRow w ao [] := fun i hi => by simp at hi

end Go.Proofs.YtdmnlmohfaafoadGreatDoor
