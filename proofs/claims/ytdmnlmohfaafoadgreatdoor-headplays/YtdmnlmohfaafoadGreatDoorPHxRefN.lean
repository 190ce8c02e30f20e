/- Labels of few letters. (made by mkhd.py) What the document's own answer says of names and values: letter, digit, in, Name, Says. (made by mkhd.py) -/
import Derived.Test.YtdmnlmohfaafoadGreatDoorPHdMem
namespace Go.Proofs.YtdmnlmohfaafoadGreatDoor

/-- Labels that are short. -/
def Shrt (l : List LB.Lab) : Prop := ∀ i, i < l.length → (LB.at' l i).1.size ≤ 2000 ∧ (LB.at' l i).2.size ≤ 2000

theorem Shrt.at {l : List LB.Lab} (h : Shrt l) (i : Nat) (hi : i < l.length) : (LB.at' l i).1.size ≤ 2000 ∧ (LB.at' l i).2.size ≤ 2000 := h i hi

end Go.Proofs.YtdmnlmohfaafoadGreatDoor

namespace Go.Proofs.YtdmnlmohfaafoadGreatDoor
open Go.RowKit

set_option maxRecDepth 100000 in
theorem rletter_any (n : Nat) (w : World) :
    Calls Tryz.prog 87 #[.int .u8 n] w fun e w' => e = .returned (.bool (LB.letter n)) ∧ w' = w := by
  generalize hB : LB.letter n = B
  have HB := hid hB
  clear hB
  go_enter Tryz.func87, Tryz.ntmps87
  go_wp2
  all_goals
    go_ret
    refine ⟨ret_bool ?_, rfl⟩
    rw [← HB.out, Bool.eq_iff_iff]
    unfold LB.letter
    simp only [Bool.or_eq_true, decide_eq_true_eq, beq_iff_eq, true_iff]
    omega

set_option maxRecDepth 100000 in
theorem rdigit_any (n : Nat) (w : World) :
    Calls Tryz.prog 88 #[.int .u8 n] w fun e w' => e = .returned (.bool (LB.digit n)) ∧ w' = w := by
  generalize hB : LB.digit n = B
  have HB := hid hB
  clear hB
  go_enter Tryz.func88, Tryz.ntmps88
  go_wp2
  all_goals
    go_ret
    refine ⟨ret_bool ?_, rfl⟩
    rw [← HB.out, Bool.eq_iff_iff]
    unfold LB.digit
    simp only [decide_eq_true_eq, Bool.false_eq_true, false_iff]
    omega

theorem lrin_any (x lo hi : Int) (w : World) :
    Calls Tryz.prog 54 #[.int .i64 x, .int .i64 lo, .int .i64 hi] w fun e w' => e = .returned (.bool (decide (lo ≤ x ∧ x ≤ hi))) ∧ w' = w := by
  by_cases h1 : lo ≤ x
  · have HE : Hid (decide (lo ≤ x ∧ x ≤ hi) = decide (x ≤ hi)) := by show _ = _; simp [h1]
    generalize decide (lo ≤ x ∧ x ≤ hi) = B at *
    go_enter Tryz.func54, Tryz.ntmps54
    go_wp2
    go_ret
    exact ⟨ret_bool HE.out.symm, rfl⟩
  · have HE : Hid (decide (lo ≤ x ∧ x ≤ hi) = false) := by show _ = _; exact decide_eq_false fun h => h1 h.1
    generalize decide (lo ≤ x ∧ x ≤ hi) = B at *
    go_enter Tryz.func54, Tryz.ntmps54
    go_wp2
    go_ret
    exact ⟨ret_bool HE.out.symm, rfl⟩

set_option maxRecDepth 100000 in
theorem rname_any (s : ByteArray) (w : World) (hs : s.size ≤ 2000) :
    Calls Tryz.prog 52 #[.string s] w fun e w' => e = .returned (.bool (LB.name s)) ∧ w' = w := by
  generalize hB : LB.name s = B
  have HB := hid hB
  clear hB
  go_enter Tryz.func52, Tryz.ntmps52
  go_wp2
  go_loopw [6] (fun ti wr => ∃ i : Nat, i ≤ s.size ∧ ti = .int .i64 i ∧ wr = w ∧ ∀ j, j < i → LB.okN j (LB.byt s j) = true) (fun ti _ => s.size - (intOf ti).toNat)
  case atStart => exact ⟨0, by omega, rfl, rfl, by omega⟩
  case round =>
    obtain ⟨i, hi, rfl, rfl, hok⟩ := hrel
    have HO := hid hok
    clear hok
    by_cases hlt : i < s.size
    · obtain ⟨n, hn⟩ : ∃ n : Nat, LB.byt s i = n := ⟨_, rfl⟩
      have hbx : ∀ h, (s[i]'h).toNat = n := fun h => (LB.byt_eq s i h).trans hn
      have HY := hid hn
      clear hn
      have HN : Hid (LB.okN i n = (LB.letter n || (decide (i ≠ 0) && LB.digit n))) := rfl
      have step : ∀ (hk : LB.okN i n = true), Hid (∀ j, j < i + 1 → LB.okN j (LB.byt s j) = true) := fun hk j hj => by
        by_cases he : j = i
        · subst he; rw [HY.out]; exact hk
        · exact HO.out j (by omega)
      have stop : ∀ (hk : LB.okN i n = false), Hid (B = false) := fun hk => by
        show _ = _
        rw [← HB.out]
        refine decide_eq_false fun h => ?_
        have := h.2.2 i hlt
        rw [HY.out, hk] at this
        cases this
      have STEP := hid step
      have STOP := hid stop
      clear step stop
      go_wp2_with fail
      refine (rletter_any n _).mono ?_
      rintro e w' ⟨rfl, rfl⟩
      cases hl : LB.letter n with
      | true =>
        have HS := STEP.out (by rw [HN.out, hl]; rfl)
        clear STEP STOP
        go_wp2_with fail
        go_roundw
        case rel => exact ⟨i + 1, by omega, by go_num, by trivial, HS.out⟩
        case measure => simp [intOf]; omega
      | false =>
        by_cases h0 : i = 0
        · have HS := STOP.out (by rw [HN.out, hl, h0]; rfl)
          clear STEP STOP
          have h0' : (i : Int) = 0 := by omega
          go_wp2_with fail
          go_ret
          exact ⟨ret_bool HS.out.symm, rfl⟩
        · have h0' : ¬ (i : Int) = 0 := by omega
          have HN2 : Hid (LB.okN i n = LB.digit n) := by
            show _ = _
            rw [HN.out, hl, decide_eq_true h0]; rfl
          go_wp2_with fail
          refine (rdigit_any n _).mono ?_
          rintro e w' ⟨rfl, rfl⟩
          cases hd : LB.digit n with
          | true =>
            have HS := STEP.out (by rw [HN2.out, hd])
            clear STEP STOP
            go_wp2_with fail
            go_roundw
            case rel => exact ⟨i + 1, by omega, by go_num, by trivial, HS.out⟩
            case measure => simp [intOf]; omega
          | false =>
            have HS := STOP.out (by rw [HN2.out, hd])
            clear STEP STOP
            go_wp2_with fail
            go_ret
            exact ⟨ret_bool HS.out.symm, rfl⟩
    · have he : i = s.size := by omega
      have HS : Hid (B = decide ((1 : Int) ≤ (s.size : Int) ∧ (s.size : Int) ≤ 24)) := by
        show _ = _
        rw [← HB.out]
        unfold LB.name
        rw [Bool.eq_iff_iff, decide_eq_true_eq, decide_eq_true_eq]
        refine ⟨fun h => by omega, fun h => ⟨by omega, by omega, fun j hj => HO.out j (by omega)⟩⟩
      subst he
      go_wp2_with fail
      refine (lrin_any _ _ _ _).mono ?_
      rintro e w' ⟨rfl, rfl⟩
      rw [← HS.out]
      go_wp2_with fail
      go_ret
      exact ⟨rfl, rfl⟩

set_option maxRecDepth 100000 in
theorem rsays_any (s : ByteArray) (w : World) (hs : s.size ≤ 2000) :
    Calls Tryz.prog 53 #[.string s] w fun e w' => e = .returned (.bool (LB.valu s)) ∧ w' = w := by
  generalize hB : LB.valu s = B
  have HB := hid hB
  clear hB
  go_enter Tryz.func53, Tryz.ntmps53
  go_wp2
  go_loopw [6] (fun ti wr => ∃ i : Nat, i ≤ s.size ∧ ti = .int .i64 i ∧ wr = w ∧ ∀ j, j < i → LB.okV (LB.byt s j) = true) (fun ti _ => s.size - (intOf ti).toNat)
  case atStart => exact ⟨0, by omega, rfl, rfl, by omega⟩
  case round =>
    obtain ⟨i, hi, rfl, rfl, hok⟩ := hrel
    have HO := hid hok
    clear hok
    by_cases hlt : i < s.size
    · obtain ⟨n, hn⟩ : ∃ n : Nat, LB.byt s i = n := ⟨_, rfl⟩
      have hbx : ∀ h, (s[i]'h).toNat = n := fun h => (LB.byt_eq s i h).trans hn
      have hb : n < 256 := by rw [← hn]; exact LB.byt_lt s i
      have HY := hid hn
      clear hn
      have step : ∀ (hk : 32 ≤ n ∧ n ≤ 126 ∧ n ≠ 34 ∧ n ≠ 92), Hid (∀ j, j < i + 1 → LB.okV (LB.byt s j) = true) := fun hk j hj => by
        by_cases he : j = i
        · subst he; rw [HY.out]; exact decide_eq_true hk
        · exact HO.out j (by omega)
      have stop : ∀ (hk : ¬ (32 ≤ n ∧ n ≤ 126 ∧ n ≠ 34 ∧ n ≠ 92)), Hid (B = false) := fun hk => by
        show _ = _
        rw [← HB.out]
        refine decide_eq_false fun h => ?_
        have := h.2 i hlt
        rw [HY.out] at this
        exact hk (of_decide_eq_true this)
      have STEP := hid step
      have STOP := hid stop
      clear step stop
      go_wp2_with fail
      refine (lrin_any _ _ _ _).mono ?_
      rintro e w' ⟨rfl, rfl⟩
      by_cases hk : (32 : Int) ≤ (n : Int) ∧ (n : Int) ≤ 126
      · rw [decide_eq_true hk]
        by_cases h3 : n = 34
        · have h3' : ((n : Int) == 34) = true := by rw [h3]; rfl
          have HS := STOP.out (by omega)
          clear STEP STOP hk h3
          go_wp2_with fail
          go_ret
          exact ⟨ret_bool HS.out.symm, rfl⟩
        · have h3' : ((n : Int) == 34) = false := by rw [beq_eq_false_iff_ne]; omega
          by_cases h4 : n = 92
          · have h4' : ((n : Int) == 92) = true := by rw [h4]; rfl
            have HS := STOP.out (by omega)
            clear STEP STOP hk h3 h4
            go_wp2_with fail
            go_ret
            exact ⟨ret_bool HS.out.symm, rfl⟩
          · have h4' : ((n : Int) == 92) = false := by rw [beq_eq_false_iff_ne]; omega
            have HS := STEP.out (by omega)
            clear STEP STOP hk h3 h4
            go_wp2_with fail
            go_roundw
            case rel => exact ⟨i + 1, by omega, by go_num, by trivial, HS.out⟩
            case measure => simp [intOf]; omega
      · rw [decide_eq_false hk]
        have HS := STOP.out (by omega)
        clear STEP STOP hk
        go_wp2_with fail
        go_ret
        exact ⟨ret_bool HS.out.symm, rfl⟩
    · have he : i = s.size := by omega
      have HS : Hid (B = decide ((s.size : Int) ≤ 24)) := by
        show _ = _
        rw [← HB.out]
        unfold LB.valu
        rw [Bool.eq_iff_iff, decide_eq_true_eq, decide_eq_true_eq]
        refine ⟨fun h => by omega, fun h => ⟨by omega, fun j hj => HO.out j (by omega)⟩⟩
      subst he
      go_wp2_with fail
      go_ret
      exact ⟨ret_bool HS.out.symm, rfl⟩

end Go.Proofs.YtdmnlmohfaafoadGreatDoor

