/- What the laws' sameSeries answers of two rows of the same series. -/
import Derived.Test.YtdmnlmohfaafoadGreatDoorPHdMem
import Derived.Test.YtdmnlmohfaafoadGreatDoorPHxSame
import Derived.Test.YtdmnlmohfaafoadGreatDoorPHcSameL
namespace Go.Proofs.YtdmnlmohfaafoadGreatDoor
open Go.RowKit

theorem drewN_two (w : World) (a b : Nat) : (w.drewN a).drewN b = w.drewN (a + b) := World.drewN_drewN w a b

set_option maxRecDepth 100000 in
theorem labQ_any (ao bo : Option Addr) (a : List LB.Lab) (ca cb : Nat) (w : World) (hA : LRow w ao a) (hB : LRow w bo a) (ha : a.length ≤ 1000) :
    Calls Tryz.prog 44 #[.slice ao a.length ca, .slice bo a.length cb] w fun e w' => e = .returned (.bool true) ∧ ∃ m, w' = w.drewN m := by
  have HA := hid hA
  have HBr := hid hB
  clear hA hB
  go_enter Tryz.func44, Tryz.ntmps44
  go_wp2
  go_loopw [5] (fun ti wr => ∃ i m : Nat, i ≤ a.length ∧ ti = .int .i64 i ∧ wr = w.drewN m) (fun ti _ => a.length - (intOf ti).toNat)
  case atStart => exact ⟨0, 0, by omega, rfl, rfl⟩
  case round =>
    obtain ⟨i, m, hi, rfl, hwr⟩ := hrel
    have HWr := hid hwr
    by_cases hlt : i < a.length
    · obtain ⟨b1, off, hao, hc0, hc1, hbs⟩ := HA.out i hlt
      subst hao
      have hcell0 : wr.cell? ⟨b1, off + i * 2, none⟩ = some (.string (LB.at' a i).1) := by rw [hwr]; exact hc0
      have hcell1 : wr.cell? ⟨b1, off + i * 2 + 1, none⟩ = some (.string (LB.at' a i).2) := by rw [hwr]; exact hc1
      obtain ⟨b2, off2, hbo, hd0, hd1, hbs2⟩ := HBr.out i hlt
      subst hbo
      have hdell0 : wr.cell? ⟨b2, off2 + i * 2, none⟩ = some (.string (LB.at' a i).1) := by rw [hwr]; exact hd0
      have hdell1 : wr.cell? ⟨b2, off2 + i * 2 + 1, none⟩ = some (.string (LB.at' a i).2) := by rw [hwr]; exact hd1
      clear hc0 hc1 hd0 hd1 hwr
      generalize LB.at' a i = p at *
      obtain ⟨p1, p2⟩ := p
      simp only at hcell0 hcell1 hdell0 hdell1
      have hil : 0 ≤ (i : Int) ∧ (i : Int) < (a.length : Int) := by omega
      have heg := egLab .neq
      have hne : ∀ w, (binOp .neq 49 (.agg #[.string p1, .string p2]) (.agg #[.string p1, .string p2])).run Tryz.prog w = .ok (.bool false) w := fun w => by
        rw [neLab, decide_eq_true rfl]; rfl
      go_wp2_with fail
      go_quiet (fail)
      go_wp2_with fail
      go_roundw
      case rel => exact ⟨i + 1, _, by omega, by go_num, by rw [HWr.out, drewN_two]⟩
      case measure => simp [intOf]; omega
    · have he : i = a.length := by omega
      clear hwr
      subst he
      go_wp2
      go_ret
      exact ⟨rfl, _, HWr.out⟩

set_option maxRecDepth 100000 in
theorem smpQ_any (ao bo : Option Addr) (a : List CL.Smp) (ca cb : Nat) (w : World) (hA : SRow w ao a) (hB : SRow w bo a) (ha : a.length ≤ 1000000) :
    Calls Tryz.prog 45 #[.slice ao a.length ca, .slice bo a.length cb] w fun e w' => e = .returned (.bool true) ∧ ∃ m, w' = w.drewN m := by
  have HA := hid hA
  have HBr := hid hB
  clear hA hB
  go_enter Tryz.func45, Tryz.ntmps45
  go_wp2
  go_loopw [5] (fun ti wr => ∃ i m : Nat, i ≤ a.length ∧ ti = .int .i64 i ∧ wr = w.drewN m) (fun ti _ => a.length - (intOf ti).toNat)
  case atStart => exact ⟨0, 0, by omega, rfl, rfl⟩
  case round =>
    obtain ⟨i, m, hi, rfl, hwr⟩ := hrel
    have HWr := hid hwr
    by_cases hlt : i < a.length
    · obtain ⟨b1, off, hao, hc0, hc1, hbs⟩ := HA.out i hlt
      subst hao
      have hcell0 : wr.cell? ⟨b1, off + i * 2, none⟩ = some (.int .i64 (CL.at' a i).1) := by rw [hwr]; exact hc0
      have hcell1 : wr.cell? ⟨b1, off + i * 2 + 1, none⟩ = some (.int .i64 (CL.at' a i).2) := by rw [hwr]; exact hc1
      obtain ⟨b2, off2, hbo, hd0, hd1, hbs2⟩ := HBr.out i hlt
      subst hbo
      have hdell0 : wr.cell? ⟨b2, off2 + i * 2, none⟩ = some (.int .i64 (CL.at' a i).1) := by rw [hwr]; exact hd0
      have hdell1 : wr.cell? ⟨b2, off2 + i * 2 + 1, none⟩ = some (.int .i64 (CL.at' a i).2) := by rw [hwr]; exact hd1
      clear hc0 hc1 hd0 hd1 hwr
      generalize CL.at' a i = p at *
      obtain ⟨p1, p2⟩ := p
      simp only at hcell0 hcell1 hdell0 hdell1
      have hil : 0 ≤ (i : Int) ∧ (i : Int) < (a.length : Int) := by omega
      have heg := egSL
      have hne : ∀ w, (binOp .neq 52 (.agg #[.int .i64 p1, .int .i64 p2]) (.agg #[.int .i64 p1, .int .i64 p2])).run Tryz.prog w = .ok (.bool false) w := fun w => by
        rw [neSL]; simp
      go_wp2_with fail
      go_quiet (fail)
      go_wp2_with fail
      go_roundw
      case rel => exact ⟨i + 1, _, by omega, by go_num, by rw [HWr.out, drewN_two]⟩
      case measure => simp [intOf]; omega
    · have he : i = a.length := by omega
      clear hwr
      subst he
      go_wp2
      go_ret
      exact ⟨rfl, _, HWr.out⟩

theorem LRow.drewN {w : World} {ao : Option Addr} {l : List LB.Lab} (h : LRow w ao l) (n : Nat) : LRow (w.drewN n) ao l := h
theorem SRow.drewN {w : World} {ao : Option Addr} {l : List CL.Smp} (h : SRow w ao l) (n : Nat) : SRow (w.drewN n) ao l := h

set_option maxRecDepth 100000 in
set_option maxHeartbeats 1600000 in
theorem sameSr_any (ao bo : Option Addr) (l : List Sr) (ca cb : Nat) (w : World) (hA : SrRow w ao l) (hB : SrRow w bo l) (hl : SrFew l) :
    Calls Tryz.prog 12 #[.slice ao l.length ca, .slice bo l.length cb] w fun e w' => e = .returned (.bool true) ∧ ∃ m, w' = w.drewN m := by
  have HA := hid hA
  have HBr := hid hB
  have HF := hid hl
  have hl1 := hl.1
  clear hA hB hl
  go_enter Tryz.func12, Tryz.ntmps12
  go_wp2
  go_loopw [5] (fun ti wr => ∃ i m : Nat, i ≤ l.length ∧ ti = .int .i64 i ∧ wr = w.drewN m) (fun ti _ => l.length - (intOf ti).toNat)
  case atStart => exact ⟨0, 0, by omega, rfl, rfl⟩
  case round =>
    obtain ⟨i, m, hi, rfl, hwr⟩ := hrel
    have HWr := hid hwr
    by_cases hlt : i < l.length
    · obtain ⟨b1, off, hao, hbs, lo, lc, so, sc, hc0, hc1, hL1, hS1⟩ := HA.out i hlt
      subst hao
      obtain ⟨b2, off2, hbo, hbs2, lo2, lc2, so2, sc2, hd0, hd1, hL2, hS2⟩ := HBr.out i hlt
      subst hbo
      obtain ⟨hf1, hf2⟩ := HF.out.2 i hlt
      have hcell0 : wr.cell? ⟨b1, off + i * 2, none⟩ = some (.slice lo (atSr l i).1.length lc) := by rw [hwr]; exact hc0
      have hcell1 : wr.cell? ⟨b1, off + i * 2 + 1, none⟩ = some (.slice so (atSr l i).2.length sc) := by rw [hwr]; exact hc1
      have hdell0 : wr.cell? ⟨b2, off2 + i * 2, none⟩ = some (.slice lo2 (atSr l i).1.length lc2) := by rw [hwr]; exact hd0
      have hdell1 : wr.cell? ⟨b2, off2 + i * 2 + 1, none⟩ = some (.slice so2 (atSr l i).2.length sc2) := by rw [hwr]; exact hd1
      have HCL : Hid (∀ n, Calls Tryz.prog 44 #[.slice lo (atSr l i).1.length lc, .slice lo2 (atSr l i).1.length lc2] (wr.drewN n) fun e w' => e = .returned (.bool true) ∧ ∃ m, w' = wr.drewN m) := fun n => by
        refine (labQ_any lo lo2 (atSr l i).1 lc lc2 _ (by rw [hwr]; exact hL1) (by rw [hwr]; exact hL2) hf1).mono ?_
        rintro e w' ⟨h1, m', h2⟩
        exact ⟨h1, _, by rw [h2, drewN_two]⟩
      have HCS : Hid (∀ n, Calls Tryz.prog 45 #[.slice so (atSr l i).2.length sc, .slice so2 (atSr l i).2.length sc2] (wr.drewN n) fun e w' => e = .returned (.bool true) ∧ ∃ m, w' = wr.drewN m) := fun n => by
        refine (smpQ_any so so2 (atSr l i).2 sc sc2 _ (by rw [hwr]; exact hS1) (by rw [hwr]; exact hS2) hf2).mono ?_
        rintro e w' ⟨h1, m', h2⟩
        exact ⟨h1, _, by rw [h2, drewN_two]⟩
      clear hc0 hc1 hd0 hd1 hwr hL1 hS1 hL2 hS2 hf1 hf2
      generalize (atSr l i).1.length = ln at *
      generalize (atSr l i).2.length = sn at *
      have hil : 0 ≤ (i : Int) ∧ (i : Int) < (l.length : Int) := by omega
      go_wp2_with fail
      go_quiet ((first | (go_at_call 44; exact HCL.out _) | (go_at_call 45; exact HCS.out _)))
      go_wp2_with fail
      go_roundw
      case rel => exact ⟨i + 1, _, by omega, by go_num, by rw [HWr.out, drewN_two]⟩
      case measure => simp [intOf]; omega
    · have he : i = l.length := by omega
      clear hwr
      subst he
      go_wp2
      go_ret
      exact ⟨rfl, _, HWr.out⟩

end Go.Proofs.YtdmnlmohfaafoadGreatDoor

