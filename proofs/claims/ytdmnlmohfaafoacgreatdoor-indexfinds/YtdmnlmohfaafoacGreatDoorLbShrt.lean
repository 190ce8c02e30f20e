/- Labels of few letters. -/
import Derived.Test.YtdmnlmohfaafoacGreatDoorLbMem
namespace Go.Proofs.YtdmnlmohfaafoacGreatDoor

/-- Labels that are short. -/
def Shrt (l : List LB.Lab) : Prop := ∀ i, i < l.length → (LB.at' l i).1.size ≤ 60 ∧ (LB.at' l i).2.size ≤ 60

theorem Shrt.at {l : List LB.Lab} (h : Shrt l) (i : Nat) (hi : i < l.length) : (LB.at' l i).1.size ≤ 60 ∧ (LB.at' l i).2.size ≤ 60 := h i hi

end Go.Proofs.YtdmnlmohfaafoacGreatDoor
