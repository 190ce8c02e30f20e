/- What label.Name and label.value answer. (made by mkhd.py) -/
import Derived.Test.YtdmnlmohfaafoadGreatDoorPHdMem
namespace Go.Proofs.YtdmnlmohfaafoadGreatDoor
open Go.RowKit

set_option maxRecDepth 100000 in
theorem letter_any (n : Nat) (w : World) :
    Calls Tryz.prog 104 #[.int .u8 n] w fun e w' => e = .returned (.bool (LB.letter n)) ∧ w' = w := by
  generalize hB : LB.letter n = B
  have HB := hid hB
  clear hB
  go_enter Tryz.func104, Tryz.ntmps104
  go_wp2
  all_goals
    go_ret
    refine ⟨ret_bool ?_, rfl⟩
    rw [← HB.out, Bool.eq_iff_iff]
    unfold LB.letter
    simp only [Bool.or_eq_true, decide_eq_true_eq, beq_iff_eq, true_iff]
    omega

set_option maxRecDepth 100000 in
theorem digit_any (n : Nat) (w : World) :
    Calls Tryz.prog 105 #[.int .u8 n] w fun e w' => e = .returned (.bool (LB.digit n)) ∧ w' = w := by
  generalize hB : LB.digit n = B
  have HB := hid hB
  clear hB
  go_enter Tryz.func105, Tryz.ntmps105
  go_wp2
  all_goals
    go_ret
    refine ⟨ret_bool ?_, rfl⟩
    rw [← HB.out, Bool.eq_iff_iff]
    unfold LB.digit
    simp only [decide_eq_true_eq, Bool.false_eq_true, false_iff]
    omega

/-- A text's bytes, laid anew. -/
theorem conv_bytes (s : ByteArray) (w : World) : ∃ cap w1, (convert 9 47 (.string s)).run Tryz.prog w = .ok (.slice (some ⟨w.heap.size, 0, none⟩) s.size cap) w1 ∧ Below w.heap.size w w1 ∧ ∀ j, j < s.size → w1.cell? ⟨w.heap.size, j, none⟩ = some (.int .u8 (LB.byt s j)) := by
  refine ⟨_, _, run_bytes_of_string w 9 47 5 s Tryz.underlying9 Tryz.underlying47 Tryz.underlying5, ?_, ?_⟩
  · exact (lbelow_drewN (Below.refl _ w) 1).alloc (Nat.le_refl _) _
  · intro j hj
    have hj' : j < s.data.size := hj
    have e : LB.byt s j = (s.data[j]'hj').toNat := by rw [← LB.byt_eq s j hj]; rfl
    rw [e]
    rw [show w.heap.size = w.drew.heap.size from rfl, World.cell?_alloc_mark]
    simp only [bytesRow, Array.getElem?_append, Array.size_map]
    rw [if_pos hj', Array.getElem?_map, Array.getElem?_eq_getElem hj']
    rfl

set_option maxRecDepth 100000 in
theorem name_any (s : ByteArray) (w : World) :
    Calls Tryz.prog 69 #[.string s] w fun e w' => e = .returned (.bool (LB.name s)) ∧ Below w.heap.size w w' := by
  generalize hB : LB.name s = B
  have HB := hid hB
  clear hB
  by_cases hs : 1 ≤ s.size ∧ s.size ≤ 24
  · have hs1 : ¬ (s.size : Int) < 1 := by omega
    have hs2 : ¬ (24 : Int) < (s.size : Int) := by omega
    obtain ⟨cap, w1, hconv, hbel, hcell⟩ := conv_bytes s w
    have HBl := hid hbel
    have HC := hid hcell
    clear hbel hcell
    go_enter Tryz.func69, Tryz.ntmps69
    go_wp2
    go_loopw [16] (fun ti wr => ∃ i : Nat, i ≤ s.size ∧ ti = .int .i64 i ∧ wr = w1 ∧ ∀ j, j < i → LB.okN j (LB.byt s j) = true) (fun ti _ => s.size - (intOf ti).toNat)
    case atStart => exact ⟨0, by omega, rfl, rfl, by omega⟩
    case round =>
      obtain ⟨i, hi, rfl, rfl, hok⟩ := hrel
      have HO := hid hok
      clear hok
      by_cases hlt : i < s.size
      · have hc := HC.out i hlt
        have hb := LB.byt_lt s i
        generalize hn : LB.byt s i = n at hc hb
        have HY := hid hn
        clear hn
        have HN : Hid (LB.okN i n = (LB.letter n || (decide (i ≠ 0) && LB.digit n))) := rfl
        go_wp2_with fail
        refine (letter_any n wr).mono ?_
        rintro e w' ⟨rfl, rfl⟩
        have step : ∀ (hk : LB.okN i n = true), Hid (∀ j, j < i + 1 → LB.okN j (LB.byt s j) = true) := fun hk j hj => by
          by_cases he : j = i
          · subst he; rw [HY.out]; exact hk
          · exact HO.out j (by omega)
        have stop : ∀ (hk : LB.okN i n = false), Hid (B = false) := fun hk => by
          show _ = _
          rw [← HB.out]
          refine decide_eq_false fun h => ?_
          have := h.2.2 i hlt
          rw [HY.out, hk] at this
          cases this
        have STEP := hid step
        have STOP := hid stop
        clear step stop
        cases hl : LB.letter n with
        | true =>
          have HS := STEP.out (by rw [HN.out, hl]; rfl)
          clear STEP STOP
          go_wp2_with fail
          go_roundw
          case rel => exact ⟨i + 1, by omega, by go_num, by trivial, HS.out⟩
          case measure => simp [intOf]; omega
        | false =>
          by_cases h0 : i = 0
          · have HS := STOP.out (by rw [HN.out, hl, h0]; rfl)
            clear STEP STOP
            have h0' : (i : Int) = 0 := by omega
            go_wp2_with fail
            go_ret
            exact ⟨ret_bool HS.out.symm, HBl.out⟩
          · have h0' : ¬ (i : Int) = 0 := by omega
            have HN2 : Hid (LB.okN i n = LB.digit n) := by
              show _ = _
              rw [HN.out, hl, decide_eq_true h0]; rfl
            go_wp2_with fail
            refine (digit_any n _).mono ?_
            rintro e w' ⟨rfl, rfl⟩
            cases hd : LB.digit n with
            | true =>
              have HS := STEP.out (by rw [HN2.out, hd])
              clear STEP STOP
              go_wp2_with fail
              go_roundw
              case rel => exact ⟨i + 1, by omega, by go_num, by trivial, HS.out⟩
              case measure => simp [intOf]; omega
            | false =>
              have HS := STOP.out (by rw [HN2.out, hd])
              clear STEP STOP
              go_wp2_with fail
              go_ret
              exact ⟨ret_bool HS.out.symm, HBl.out⟩
      · have he : i = s.size := by omega
        have HS : Hid (B = true) := by
          show _ = _
          rw [← HB.out]
          exact decide_eq_true ⟨hs.1, hs.2, fun j hj => HO.out j (by omega)⟩
        subst he
        go_wp2
        go_ret
        exact ⟨ret_bool HS.out.symm, HBl.out⟩
  · have HS : Hid (B = false) := by
      show _ = _
      rw [← HB.out]
      exact decide_eq_false fun h => hs ⟨h.1, h.2.1⟩
    by_cases hs1 : (s.size : Int) < 1
    · go_enter Tryz.func69, Tryz.ntmps69
      go_wp2
      go_ret
      exact ⟨ret_bool HS.out.symm, Below.refl _ _⟩
    · have hs2 : (24 : Int) < (s.size : Int) := by omega
      go_enter Tryz.func69, Tryz.ntmps69
      go_wp2
      go_ret
      exact ⟨ret_bool HS.out.symm, Below.refl _ _⟩

set_option maxRecDepth 100000 in
theorem lvalue_any (s : ByteArray) (w : World) :
    Calls Tryz.prog 70 #[.string s] w fun e w' => e = .returned (.bool (LB.valu s)) ∧ Below w.heap.size w w' := by
  generalize hB : LB.valu s = B
  have HB := hid hB
  clear hB
  by_cases hs : s.size ≤ 24
  · have hs2 : ¬ (24 : Int) < (s.size : Int) := by omega
    obtain ⟨cap, w1, hconv, hbel, hcell⟩ := conv_bytes s w
    have HBl := hid hbel
    have HC := hid hcell
    clear hbel hcell
    go_enter Tryz.func70, Tryz.ntmps70
    go_wp2
    go_loopw [11] (fun ti wr => ∃ i : Nat, i ≤ s.size ∧ ti = .int .i64 i ∧ wr = w1 ∧ ∀ j, j < i → LB.okV (LB.byt s j) = true) (fun ti _ => s.size - (intOf ti).toNat)
    case atStart => exact ⟨0, by omega, rfl, rfl, by omega⟩
    case round =>
      obtain ⟨i, hi, rfl, rfl, hok⟩ := hrel
      have HO := hid hok
      clear hok
      by_cases hlt : i < s.size
      · have hc := HC.out i hlt
        have hb := LB.byt_lt s i
        generalize hn : LB.byt s i = n at hc hb
        have HY := hid hn
        clear hn
        by_cases hk : 32 ≤ n ∧ n ≤ 126 ∧ n ≠ 34 ∧ n ≠ 92
        · have HS : Hid (∀ j, j < i + 1 → LB.okV (LB.byt s j) = true) := fun j hj => by
            by_cases he : j = i
            · subst he; rw [HY.out]; exact decide_eq_true hk
            · exact HO.out j (by omega)
          have h1 : ¬ (n : Int) < 32 := by omega
          have h2 : ¬ (126 : Int) < n := by omega
          have h3 : ((n : Int) == 34) = false := by rw [beq_eq_false_iff_ne]; omega
          have h4 : ((n : Int) == 92) = false := by rw [beq_eq_false_iff_ne]; omega
          clear hk
          go_wp2_with fail
          go_roundw
          case rel => exact ⟨i + 1, by omega, by go_num, by trivial, HS.out⟩
          case measure => simp [intOf]; omega
        · have HS : Hid (B = false) := by
            show _ = _
            rw [← HB.out]
            refine decide_eq_false fun h => ?_
            have := h.2 i hlt
            rw [HY.out] at this
            exact hk (of_decide_eq_true this)
          by_cases h1 : (n : Int) < 32
          · clear hk
            go_wp2_with fail
            go_ret
            exact ⟨ret_bool HS.out.symm, HBl.out⟩
          · by_cases h2 : (126 : Int) < n
            · clear hk
              go_wp2_with fail
              go_ret
              exact ⟨ret_bool HS.out.symm, HBl.out⟩
            · by_cases h3 : (n : Int) = 34
              · clear hk
                go_wp2_with fail
                go_ret
                exact ⟨ret_bool HS.out.symm, HBl.out⟩
              · have h4 : (n : Int) = 92 := by omega
                clear hk
                go_wp2_with fail
                go_ret
                exact ⟨ret_bool HS.out.symm, HBl.out⟩
      · have he : i = s.size := by omega
        have HS : Hid (B = true) := by
          show _ = _
          rw [← HB.out]
          exact decide_eq_true ⟨hs, fun j hj => HO.out j (by omega)⟩
        subst he
        go_wp2
        go_ret
        exact ⟨ret_bool HS.out.symm, HBl.out⟩
  · have HS : Hid (B = false) := by
      show _ = _
      rw [← HB.out]
      exact decide_eq_false fun h => hs h.1
    have hs2 : (24 : Int) < (s.size : Int) := by omega
    go_enter Tryz.func70, Tryz.ntmps70
    go_wp2
    go_ret
    exact ⟨ret_bool HS.out.symm, Below.refl _ _⟩

end Go.Proofs.YtdmnlmohfaafoadGreatDoor

