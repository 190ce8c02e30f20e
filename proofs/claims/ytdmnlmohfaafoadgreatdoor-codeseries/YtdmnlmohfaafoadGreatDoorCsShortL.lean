/- What the law's shortSeries answers (of raingaugelaw). -/
import Derived.Test.YtdmnlmohfaafoadGreatDoorCdMem
import Derived.Test.YtdmnlmohfaafoadGreatDoorCxShortL
namespace Go.Proofs.YtdmnlmohfaafoadGreatDoor
open Go.RowKit

def shS (l : List Sr) : Bool := decide (l.length ≤ 20 ∧ ∀ i, i < l.length → shL (atSr l i).1 = true ∧ (atSr l i).2.length ≤ 60)

set_option maxRecDepth 100000 in
theorem shS_any (ao : Option Addr) (l : List Sr) (cap : Nat) (w : World) (hL : SrRow w ao l) :
    Calls Tryz.prog 5 #[.slice ao l.length cap] w fun e w' => e = .returned (.bool (shS l)) ∧ w' = w := by
  generalize hB : shS l = B
  have HB := hid hB
  have HL := hid hL
  clear hB hL
  by_cases hs : l.length ≤ 20
  · have hs1 : ¬ (20 : Int) < (l.length : Int) := by omega
    go_enter Tryz.func5, Tryz.ntmps5
    go_wp2
    go_loopw [3] (fun ti wr => ∃ i : Nat, i ≤ l.length ∧ ti = .int .i64 i ∧ wr = w ∧ ∀ j, j < i → shL (atSr l j).1 = true ∧ (atSr l j).2.length ≤ 60) (fun ti _ => l.length - (intOf ti).toNat)
    case atStart => exact ⟨0, by omega, rfl, rfl, by omega⟩
    case round =>
      obtain ⟨i, hi, rfl, rfl, hok⟩ := hrel
      have HO := hid hok
      clear hok
      by_cases hlt : i < l.length
      · obtain ⟨b, off, hao, hbs, lo, lc, so, sc, hc0, hc1, hL1, hS1⟩ := HL.out i hlt
        subst hao
        have HF : Hid (¬ (shL (atSr l i).1 = true ∧ (atSr l i).2.length ≤ 60) → B = false) := fun h => by
          rw [← HB.out]
          exact decide_eq_false fun h' => h (h'.2 i hlt)
        have HT : Hid (shL (atSr l i).1 = true ∧ (atSr l i).2.length ≤ 60 → ∀ j, j < i + 1 → shL (atSr l j).1 = true ∧ (atSr l j).2.length ≤ 60) := fun h j hj => by
          by_cases he : j = i
          · subst he; exact h
          · exact HO.out j (by omega)
        have HC := hid (shL_any lo (atSr l i).1 lc wr hL1)
        clear hL1 hS1
        generalize (atSr l i).1 = la at *
        generalize (atSr l i).2.length = sn at *
        generalize hq : shL la = q at *
        clear hq
        go_wp2_with fail
        refine HC.out.mono ?_
        rintro e w2 ⟨rfl, rfl⟩
        clear HC
        cases q with
        | false =>
          have HE := hid (HF.out (by simp))
          clear HF HT
          go_wp2_with fail
          go_ret
          exact ⟨ret_bool HE.out.symm, rfl⟩
        | true =>
          by_cases h6 : sn ≤ 60
          · have h6' : ¬ (60 : Int) < (sn : Int) := by omega
            have HT2 := hid (HT.out ⟨rfl, h6⟩)
            clear HF HT h6
            go_wp2_with fail
            go_roundw
            case rel => exact ⟨i + 1, by omega, by go_num, by first | rfl | trivial, HT2.out⟩
            case measure => simp [intOf]; omega
          · have h6' : (60 : Int) < (sn : Int) := by omega
            have HE := hid (HF.out (fun h => h6 h.2))
            clear HF HT h6
            go_wp2_with fail
            go_ret
            exact ⟨ret_bool HE.out.symm, rfl⟩
      · have he : i = l.length := by omega
        have HE : Hid (B = true) := by
          show _ = _
          rw [← HB.out]
          exact decide_eq_true ⟨hs, fun j hj => HO.out j (by omega)⟩
        subst he
        go_wp2
        go_ret
        exact ⟨ret_bool HE.out.symm, rfl⟩
  · have hs1 : (20 : Int) < (l.length : Int) := by omega
    have HE : Hid (B = false) := by
      show _ = _
      rw [← HB.out]
      exact decide_eq_false fun h => hs h.1
    go_enter Tryz.func5, Tryz.ntmps5
    go_wp2
    go_ret
    exact ⟨ret_bool HE.out.symm, rfl⟩

end Go.Proofs.YtdmnlmohfaafoadGreatDoor
