/- What sameLabels answers of two lists of the same labels. (made by mkhd.py) -/
import Derived.Test.YtdmnlmohfaafoadGreatDoorPHxRefC
namespace Go.Proofs.YtdmnlmohfaafoadGreatDoor
open Go.RowKit

set_option maxRecDepth 100000 in
set_option maxHeartbeats 800000 in
theorem sameLab_any (ao bo : Option Addr) (a : List LB.Lab) (ca cb : Nat) (w : World) (hA : LRow w ao a) (hB : LRow w bo a) (ha : a.length ≤ 1000) :
    Calls Tryz.prog 44 #[.slice ao a.length ca, .slice bo a.length cb] w fun e w' => e = .returned (.bool true) ∧ Below w.heap.size w w' := by
  have HA := hid hA
  have HBr := hid hB
  clear hA hB
  go_enter Tryz.func44, Tryz.ntmps44
  go_wp2
  go_loopw [5] (fun ti wr => ∃ i : Nat, i ≤ a.length ∧ ti = .int .i64 i ∧ Below w.heap.size w wr) (fun ti _ => a.length - (intOf ti).toNat)
  case atStart => exact ⟨0, by omega, rfl, Below.refl _ _⟩
  case round =>
    obtain ⟨i, hi, rfl, hbel⟩ := hrel
    have HBl := hid hbel
    clear hbel
    by_cases hlt : i < a.length
    · obtain ⟨b1, off, hao, hc0, hc1, hbs⟩ := HA.out i hlt
      subst hao
      have hcell0 := (HBl.out.cell (p := ⟨b1, off + i * 2, none⟩) hbs).trans hc0
      have hcell1 := (HBl.out.cell (p := ⟨b1, off + i * 2 + 1, none⟩) hbs).trans hc1
      obtain ⟨b2, off2, hbo, hd0, hd1, hbs2⟩ := HBr.out i hlt
      subst hbo
      have hdell0 := (HBl.out.cell (p := ⟨b2, off2 + i * 2, none⟩) hbs2).trans hd0
      have hdell1 := (HBl.out.cell (p := ⟨b2, off2 + i * 2 + 1, none⟩) hbs2).trans hd1
      clear hc0 hc1 hd0 hd1
      generalize LB.at' a i = p at *
      obtain ⟨p1, p2⟩ := p
      simp only at hcell0 hcell1 hdell0 hdell1
      have hil : 0 ≤ (i : Int) ∧ (i : Int) < (a.length : Int) := by omega
      have heg := egLab .neq
      have hne : ∀ w, (binOp .neq 49 (.agg #[.string p1, .string p2]) (.agg #[.string p1, .string p2])).run Tryz.prog w = .ok (.bool false) w := fun w => by
        rw [neLab, decide_eq_true rfl]; rfl
      go_wp2_with fail
      go_quiet (fail)
      go_wp2_with fail
      go_roundw
      case rel => exact ⟨i + 1, by omega, by go_num, lbelow_drewN HBl.out _⟩
      case measure => simp [intOf]; omega
    · have he : i = a.length := by omega
      subst he
      go_wp2
      go_ret
      exact ⟨rfl, HBl.out⟩

end Go.Proofs.YtdmnlmohfaafoadGreatDoor

