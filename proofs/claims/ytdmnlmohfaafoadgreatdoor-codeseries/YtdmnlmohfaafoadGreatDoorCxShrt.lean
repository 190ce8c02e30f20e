/- Labels of few letters. (made by mkcd.py) -/
import Derived.Test.YtdmnlmohfaafoadGreatDoorCxMem
namespace Go.Proofs.YtdmnlmohfaafoadGreatDoor

/-- Labels that are short. -/
def Shrt (l : List LB.Lab) : Prop := ∀ i, i < l.length → (LB.at' l i).1.size ≤ 2000 ∧ (LB.at' l i).2.size ≤ 2000

theorem Shrt.at {l : List LB.Lab} (h : Shrt l) (i : Nat) (hi : i < l.length) : (LB.at' l i).1.size ≤ 2000 ∧ (LB.at' l i).2.size ≤ 2000 := h i hi

end Go.Proofs.YtdmnlmohfaafoadGreatDoor
