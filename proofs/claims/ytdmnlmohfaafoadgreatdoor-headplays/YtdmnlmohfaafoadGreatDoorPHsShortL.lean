/- What shortLabels and shortMatch answer (of raingaugelaw; LbShort with the other package's name). (made by mkhd.py) What the law's shortSeries answers (of raingaugelaw). -/
import Derived.Test.YtdmnlmohfaafoadGreatDoorPHdMem
namespace Go.Proofs.YtdmnlmohfaafoadGreatDoor
open Go.RowKit

def shL (l : List LB.Lab) : Bool := decide (l.length ≤ 20 ∧ ∀ i, i < l.length → (LB.at' l i).1.size ≤ 60 ∧ (LB.at' l i).2.size ≤ 60)

def shM (l : List LB.Mat) : Bool := decide (l.length ≤ 20 ∧ ∀ i, i < l.length → (LB.am l i).nm.size ≤ 60 ∧ (LB.am l i).vl.size ≤ 60)

set_option maxRecDepth 100000 in
theorem shL_any (ao : Option Addr) (l : List LB.Lab) (cap : Nat) (w : World) (hL : LRow w ao l) :
    Calls Tryz.prog 25 #[.slice ao l.length cap] w fun e w' => e = .returned (.bool (shL l)) ∧ w' = w := by
  generalize hB : shL l = B
  have HB := hid hB
  have HL := hid hL
  clear hB hL
  by_cases hs : l.length ≤ 20
  · have hs1 : ¬ (20 : Int) < (l.length : Int) := by omega
    go_enter Tryz.func25, Tryz.ntmps25
    go_wp2
    go_loopw [3] (fun ti wr => ∃ i : Nat, i ≤ l.length ∧ ti = .int .i64 i ∧ wr = w ∧ ∀ j, j < i → (LB.at' l j).1.size ≤ 60 ∧ (LB.at' l j).2.size ≤ 60) (fun ti _ => l.length - (intOf ti).toNat)
    case atStart => exact ⟨0, by omega, rfl, rfl, by omega⟩
    case round =>
      obtain ⟨i, hi, rfl, rfl, hok⟩ := hrel
      have HO := hid hok
      clear hok
      by_cases hlt : i < l.length
      · obtain ⟨b, off, hao, hc0, hc1, hbs⟩ := HL.out i hlt
        subst hao
        have HF : Hid (¬ ((LB.at' l i).1.size ≤ 60 ∧ (LB.at' l i).2.size ≤ 60) → B = false) := fun h => by
          rw [← HB.out]
          exact decide_eq_false fun h' => h (h'.2 i hlt)
        have HT : Hid (((LB.at' l i).1.size ≤ 60 ∧ (LB.at' l i).2.size ≤ 60) → ∀ j, j < i + 1 → (LB.at' l j).1.size ≤ 60 ∧ (LB.at' l j).2.size ≤ 60) := fun h j hj => by
          by_cases he : j = i
          · subst he; exact h
          · exact HO.out j (by omega)
        generalize (LB.at' l i).1 = N at *
        generalize (LB.at' l i).2 = V at *
        by_cases h1 : (60 : Int) < (N.size : Int)
        · have HE := hid (HF.out (by omega))
          clear HF HT
          go_wp2
          go_ret
          exact ⟨ret_bool HE.out.symm, rfl⟩
        · by_cases h2 : (60 : Int) < (V.size : Int)
          · have HE := hid (HF.out (by omega))
            clear HF HT
            go_wp2
            go_ret
            exact ⟨ret_bool HE.out.symm, rfl⟩
          · have HE := hid (HT.out (by omega))
            clear HF HT
            go_wp2
            go_roundw
            case rel => exact ⟨i + 1, by omega, by go_num, by trivial, HE.out⟩
            case measure => simp [intOf]; omega
      · have he : i = l.length := by omega
        have HS : Hid (B = true) := by
          show _ = _
          rw [← HB.out]
          exact decide_eq_true ⟨hs, fun j hj => HO.out j (by omega)⟩
        subst he
        go_wp2
        go_ret
        exact ⟨ret_bool HS.out.symm, rfl⟩
  · have hs1 : (20 : Int) < (l.length : Int) := by omega
    have HS : Hid (B = false) := by
      show _ = _
      rw [← HB.out]
      exact decide_eq_false fun h => hs h.1
    go_enter Tryz.func25, Tryz.ntmps25
    go_wp2
    go_ret
    exact ⟨ret_bool HS.out.symm, rfl⟩

set_option maxRecDepth 100000 in
theorem shM_any (ao : Option Addr) (l : List LB.Mat) (cap : Nat) (w : World) (hL : MRow w ao l) :
    Calls Tryz.prog 16 #[.slice ao l.length cap] w fun e w' => e = .returned (.bool (shM l)) ∧ w' = w := by
  generalize hB : shM l = B
  have HB := hid hB
  have HL := hid hL
  clear hB hL
  by_cases hs : l.length ≤ 20
  · have hs1 : ¬ (20 : Int) < (l.length : Int) := by omega
    go_enter Tryz.func16, Tryz.ntmps16
    go_wp2
    go_loopw [3] (fun ti wr => ∃ i : Nat, i ≤ l.length ∧ ti = .int .i64 i ∧ wr = w ∧ ∀ j, j < i → (LB.am l j).nm.size ≤ 60 ∧ (LB.am l j).vl.size ≤ 60) (fun ti _ => l.length - (intOf ti).toNat)
    case atStart => exact ⟨0, by omega, rfl, rfl, by omega⟩
    case round =>
      obtain ⟨i, hi, rfl, rfl, hok⟩ := hrel
      have HO := hid hok
      clear hok
      by_cases hlt : i < l.length
      · obtain ⟨b, off, hao, hc0, hc1, hc2, hbs⟩ := HL.out i hlt
        subst hao
        have HF : Hid (¬ ((LB.am l i).nm.size ≤ 60 ∧ (LB.am l i).vl.size ≤ 60) → B = false) := fun h => by
          rw [← HB.out]
          exact decide_eq_false fun h' => h (h'.2 i hlt)
        have HT : Hid (((LB.am l i).nm.size ≤ 60 ∧ (LB.am l i).vl.size ≤ 60) → ∀ j, j < i + 1 → (LB.am l j).nm.size ≤ 60 ∧ (LB.am l j).vl.size ≤ 60) := fun h j hj => by
          by_cases he : j = i
          · subst he; exact h
          · exact HO.out j (by omega)
        generalize (LB.am l i).nm = N at *
        generalize (LB.am l i).vl = V at *
        by_cases h1 : (60 : Int) < (N.size : Int)
        · have HE := hid (HF.out (by omega))
          clear HF HT
          go_wp2
          go_ret
          exact ⟨ret_bool HE.out.symm, rfl⟩
        · by_cases h2 : (60 : Int) < (V.size : Int)
          · have HE := hid (HF.out (by omega))
            clear HF HT
            go_wp2
            go_ret
            exact ⟨ret_bool HE.out.symm, rfl⟩
          · have HE := hid (HT.out (by omega))
            clear HF HT
            go_wp2
            go_roundw
            case rel => exact ⟨i + 1, by omega, by go_num, by trivial, HE.out⟩
            case measure => simp [intOf]; omega
      · have he : i = l.length := by omega
        have HS : Hid (B = true) := by
          show _ = _
          rw [← HB.out]
          exact decide_eq_true ⟨hs, fun j hj => HO.out j (by omega)⟩
        subst he
        go_wp2
        go_ret
        exact ⟨ret_bool HS.out.symm, rfl⟩
  · have hs1 : (20 : Int) < (l.length : Int) := by omega
    have HS : Hid (B = false) := by
      show _ = _
      rw [← HB.out]
      exact decide_eq_false fun h => hs h.1
    go_enter Tryz.func16, Tryz.ntmps16
    go_wp2
    go_ret
    exact ⟨ret_bool HS.out.symm, rfl⟩

end Go.Proofs.YtdmnlmohfaafoadGreatDoor

namespace Go.Proofs.YtdmnlmohfaafoadGreatDoor
open Go.RowKit

def shS (l : List Sr) : Bool := decide (l.length ≤ 20 ∧ ∀ i, i < l.length → shL (atSr l i).1 = true ∧ (atSr l i).2.length ≤ 60)

set_option maxRecDepth 100000 in
theorem shS_any (ao : Option Addr) (l : List Sr) (cap : Nat) (w : World) (hL : SrRow w ao l) :
    Calls Tryz.prog 5 #[.slice ao l.length cap] w fun e w' => e = .returned (.bool (shS l)) ∧ w' = w := by
  generalize hB : shS l = B
  have HB := hid hB
  have HL := hid hL
  clear hB hL
  by_cases hs : l.length ≤ 20
  · have hs1 : ¬ (20 : Int) < (l.length : Int) := by omega
    go_enter Tryz.func5, Tryz.ntmps5
    go_wp2
    go_loopw [3] (fun ti wr => ∃ i : Nat, i ≤ l.length ∧ ti = .int .i64 i ∧ wr = w ∧ ∀ j, j < i → shL (atSr l j).1 = true ∧ (atSr l j).2.length ≤ 60) (fun ti _ => l.length - (intOf ti).toNat)
    case atStart => exact ⟨0, by omega, rfl, rfl, by omega⟩
    case round =>
      obtain ⟨i, hi, rfl, rfl, hok⟩ := hrel
      have HO := hid hok
      clear hok
      by_cases hlt : i < l.length
      · obtain ⟨b, off, hao, hbs, lo, lc, so, sc, hc0, hc1, hL1, hS1⟩ := HL.out i hlt
        subst hao
        have HF : Hid (¬ (shL (atSr l i).1 = true ∧ (atSr l i).2.length ≤ 60) → B = false) := fun h => by
          rw [← HB.out]
          exact decide_eq_false fun h' => h (h'.2 i hlt)
        have HT : Hid (shL (atSr l i).1 = true ∧ (atSr l i).2.length ≤ 60 → ∀ j, j < i + 1 → shL (atSr l j).1 = true ∧ (atSr l j).2.length ≤ 60) := fun h j hj => by
          by_cases he : j = i
          · subst he; exact h
          · exact HO.out j (by omega)
        have HC := hid (shL_any lo (atSr l i).1 lc wr hL1)
        clear hL1 hS1
        generalize (atSr l i).1 = la at *
        generalize (atSr l i).2.length = sn at *
        generalize hq : shL la = q at *
        clear hq
        go_wp2_with fail
        refine HC.out.mono ?_
        rintro e w2 ⟨rfl, rfl⟩
        clear HC
        cases q with
        | false =>
          have HE := hid (HF.out (by simp))
          clear HF HT
          go_wp2_with fail
          go_ret
          exact ⟨ret_bool HE.out.symm, rfl⟩
        | true =>
          by_cases h6 : sn ≤ 60
          · have h6' : ¬ (60 : Int) < (sn : Int) := by omega
            have HT2 := hid (HT.out ⟨rfl, h6⟩)
            clear HF HT h6
            go_wp2_with fail
            go_roundw
            case rel => exact ⟨i + 1, by omega, by go_num, by first | rfl | trivial, HT2.out⟩
            case measure => simp [intOf]; omega
          · have h6' : (60 : Int) < (sn : Int) := by omega
            have HE := hid (HF.out (fun h => h6 h.2))
            clear HF HT h6
            go_wp2_with fail
            go_ret
            exact ⟨ret_bool HE.out.symm, rfl⟩
      · have he : i = l.length := by omega
        have HE : Hid (B = true) := by
          show _ = _
          rw [← HB.out]
          exact decide_eq_true ⟨hs, fun j hj => HO.out j (by omega)⟩
        subst he
        go_wp2
        go_ret
        exact ⟨ret_bool HE.out.symm, rfl⟩
  · have hs1 : (20 : Int) < (l.length : Int) := by omega
    have HE : Hid (B = false) := by
      show _ = _
      rw [← HB.out]
      exact decide_eq_false fun h => hs h.1
    go_enter Tryz.func5, Tryz.ntmps5
    go_wp2
    go_ret
    exact ⟨ret_bool HE.out.symm, rfl⟩

end Go.Proofs.YtdmnlmohfaafoadGreatDoor

