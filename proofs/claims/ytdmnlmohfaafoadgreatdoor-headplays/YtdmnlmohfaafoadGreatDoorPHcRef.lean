/- What the document's in and Samples answer (made by mkhd.py) -/
import Derived.Test.YtdmnlmohfaafoadGreatDoorPHdMem
namespace Go.Proofs.YtdmnlmohfaafoadGreatDoor
open Go.RowKit

set_option maxHeartbeats 400000 in
theorem rin_any (n a b : Int) (w : World) :
    Calls Tryz.prog 54 #[.int .i64 n, .int .i64 a, .int .i64 b] w fun e w' => e = .returned (.bool (decide (a ≤ n ∧ n ≤ b))) ∧ w' = w := by
  by_cases h1 : a ≤ n
  · by_cases h2 : n ≤ b
    · rw [decide_eq_true ⟨h1, h2⟩]
      go_enter Tryz.func54, Tryz.ntmps54
      go_wp2
      go_ret
      exact ⟨rfl, rfl⟩
    · rw [decide_eq_false (fun h => h2 h.2)]
      go_enter Tryz.func54, Tryz.ntmps54
      go_wp2
      go_ret
      exact ⟨rfl, rfl⟩
  · rw [decide_eq_false (fun h => h1 h.1)]
    go_enter Tryz.func54, Tryz.ntmps54
    go_wp2
    go_ret
    exact ⟨rfl, rfl⟩

set_option maxRecDepth 100000 in
set_option maxHeartbeats 1600000 in
theorem rsamples_any (ao : Option Addr) (l : List CL.Smp) (cap : Nat) (w : World) (hS : SRow w ao l) (hl : l.length ≤ 140737488351232) :
    Calls Tryz.prog 50 #[.slice ao l.length cap] w fun e w' => e = .returned (.bool (CL.right l)) ∧ Below w.heap.size w w' := by
  have HS := hid hS
  clear hS
  generalize hB : CL.right l = B
  have HB := hid hB
  clear hB
  go_enter Tryz.func50, Tryz.ntmps50
  go_wp2
  go_loopw [7] (fun ti wr => ∃ i : Nat, i ≤ l.length ∧ ti = .int .i64 i ∧ (∀ j, j < i → CL.okAt l j = true) ∧ Below w.heap.size w wr) (fun ti _ => l.length - (intOf ti).toNat)
  case atStart => exact ⟨0, by omega, rfl, by omega, Below.refl _ _⟩
  case round =>
    obtain ⟨i, hi, rfl, hok, hbel⟩ := hrel
    have HO := hid hok
    have HBl := hid hbel
    have hsz := hbel.size
    clear hok hbel
    by_cases hlt : i < l.length
    · obtain ⟨b, off, hao, hc0, hc1, hbs⟩ := HS.out i hlt
      have hbx : Below wr.heap.size wr (wr.alloc (boxS (CL.at' l i).1 (CL.at' l i).2)) := (Below.refl _ _).alloc (Nat.le_refl _) _
      have d0 : (wr.alloc (boxS (CL.at' l i).1 (CL.at' l i).2)).cell? ⟨wr.heap.size, 0, none⟩ = some (.int .i64 (CL.at' l i).1) := by simp
      have HB1 := hid (HBl.out.alloc hsz (boxS (CL.at' l i).1 (CL.at' l i).2))
      have hp0 : i ≠ 0 → (wr.alloc (boxS (CL.at' l i).1 (CL.at' l i).2)).cell? ⟨b, off + (i - 1) * 2, none⟩ = some (.int .i64 (CL.at' l (i - 1)).1) := fun h0 => by
        obtain ⟨b', off', hao', hc0', hc1', hbs'⟩ := HS.out (i - 1) (by omega)
        rw [hao] at hao'
        simp only [Option.some.injEq, Addr.mk.injEq, and_true] at hao'
        obtain ⟨rfl, rfl⟩ := hao'
        exact (HB1.out.cell (p := ⟨b, _, none⟩) hbs').trans hc0'
      subst hao
      have hcell0 := (HBl.out.cell (p := ⟨b, off + i * 2, none⟩) hbs).trans hc0
      have hcell1 := (HBl.out.cell (p := ⟨b, off + i * 2 + 1, none⟩) hbs).trans hc1
      clear hc0 hc1 hbx
      have HOK := hid (CL.okAt_iff l i)
      generalize (CL.at' l i).1 = T at *
      generalize (CL.at' l i).2 = V at *
      have HN : CL.okAt l i = false → Hid (B = false) := fun h => by
        show _ = _
        rw [← HB.out]; exact CL.not_right l i hlt h
      by_cases hin : -1099511627776 ≤ T ∧ T ≤ 1099511627776
      · by_cases h0 : i = 0
        · have HT : Hid (CL.okAt l i = true) := by
            show _ = _
            rw [HOK.out]; exact ⟨hin, .inl h0⟩
          have hdin : decide (-1099511627776 ≤ T ∧ T ≤ 1099511627776) = true := decide_eq_true hin
          have hgt : decide (0 < i) = false := decide_eq_false (by omega)
          clear hp0 HN h0
          go_wp2_with fail
          generalize wr.alloc (.cells #[.int .i64 T, .int .i64 V] 52) = w1 at *
          go_quiet ((go_at_call 54; exact Calls.quiet_of_same (rin_any _ _ _ _)))
          go_wp2_with fail
          go_roundw
          case rel =>
            refine ⟨i + 1, by omega, by go_num, ?_, below_drewN HB1.out _⟩
            intro j hj
            by_cases he : j = i
            · subst he; exact HT.out
            · exact HO.out j (by omega)
          case measure => simp [intOf]; omega
        · have hp1 := hp0 h0
          have hgt : decide (0 < i) = true := decide_eq_true (by omega)
          have hix : ((i : Int) - 1).toNat = i - 1 := by omega
          have hi1 : 0 ≤ (i : Int) - 1 ∧ (i : Int) - 1 < (l.length : Int) := by omega
          have hdin : decide (-1099511627776 ≤ T ∧ T ≤ 1099511627776) = true := decide_eq_true hin
          generalize (CL.at' l (i - 1)).1 = Tp at *
          by_cases hle : T ≤ Tp
          · have HF := HN (by
              rw [← Bool.not_eq_true, HOK.out]
              rintro ⟨_, h | h⟩ <;> omega)
            clear hp0 HN
            go_wp2_with fail
            generalize wr.alloc (.cells #[.int .i64 T, .int .i64 V] 52) = w1 at *
            go_quiet ((go_at_call 54; exact Calls.quiet_of_same (rin_any _ _ _ _)))
            go_wp2_with fail
            go_ret
            exact ⟨ret_bool HF.out.symm, below_drewN HB1.out _⟩
          · have HT : Hid (CL.okAt l i = true) := by
              show _ = _
              rw [HOK.out]; exact ⟨hin, .inr (by omega)⟩
            clear hp0 HN
            go_wp2_with fail
            generalize wr.alloc (.cells #[.int .i64 T, .int .i64 V] 52) = w1 at *
            go_quiet ((go_at_call 54; exact Calls.quiet_of_same (rin_any _ _ _ _)))
            go_wp2_with fail
            go_roundw
            case rel =>
              refine ⟨i + 1, by omega, by go_num, ?_, below_drewN HB1.out _⟩
              intro j hj
              by_cases he : j = i
              · subst he; exact HT.out
              · exact HO.out j (by omega)
            case measure => simp [intOf]; omega
      · have HF := HN (by
          rw [← Bool.not_eq_true, HOK.out]
          rintro ⟨h, _⟩; exact hin h)
        have hdin : decide (-1099511627776 ≤ T ∧ T ≤ 1099511627776) = false := decide_eq_false hin
        clear hp0 HN
        go_wp2_with fail
        generalize wr.alloc (.cells #[.int .i64 T, .int .i64 V] 52) = w1 at *
        go_quiet ((go_at_call 54; exact Calls.quiet_of_same (rin_any _ _ _ _)))
        go_wp2_with fail
        go_ret
        exact ⟨ret_bool HF.out.symm, below_drewN HB1.out _⟩
    · have he : i = l.length := by omega
      have HF : Hid (decide (l.length ≤ 2000) = B) := by
        show _ = _
        rw [← HB.out]
        by_cases h : l.length ≤ 2000
        · rw [decide_eq_true h, CL.right_of l h (fun j hj => HO.out j (by omega))]
        · rw [decide_eq_false h, CL.not_right_len l (by omega)]
      by_cases h : (l.length : Int) ≤ 2000
      · go_wp2_with fail
        go_ret
        refine ⟨ret_bool ?_, HBl.out⟩
        rw [← HF.out]; simp; omega
      · go_wp2_with fail
        go_ret
        refine ⟨ret_bool ?_, HBl.out⟩
        rw [← HF.out]; simp; omega

end Go.Proofs.YtdmnlmohfaafoadGreatDoor

