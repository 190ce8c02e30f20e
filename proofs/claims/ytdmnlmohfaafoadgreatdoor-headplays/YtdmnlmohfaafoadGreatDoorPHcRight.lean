/- What chunk.Right answers (made by mkhd.py) -/
import Derived.Test.YtdmnlmohfaafoadGreatDoorPHdMem
namespace Go.Proofs.YtdmnlmohfaafoadGreatDoor
open Go.RowKit

set_option maxRecDepth 100000 in
set_option maxHeartbeats 800000 in
theorem right_any (ao : Option Addr) (l : List CL.Smp) (cap : Nat) (w : World) (hS : SRow w ao l) (hR : ∀ s ∈ l, CL.Rs s) (hl : l.length ≤ 140737488351232) :
    Calls Tryz.prog 64 #[.slice ao l.length cap] w fun e w' => e = .returned (.bool (CL.right l)) ∧ Below w.heap.size w w' := by
  by_cases hlen : 2000 < l.length
  · have h' : (2000 : Int) < (l.length : Int) := by omega
    rw [CL.not_right_len l hlen]
    go_enter Tryz.func64, Tryz.ntmps64
    go_wp2
    go_ret
    exact ⟨rfl, Below.refl _ _⟩
  · have h' : ¬ (2000 : Int) < (l.length : Int) := by omega
    have HS := hid hS
    have HR := hid hR
    clear hS hR
    generalize hB : CL.right l = B
    have HB := hid hB
    clear hB
    go_enter Tryz.func64, Tryz.ntmps64
    go_wp2
    go_loopw [3, 11] (fun tm ti wr => ∃ i : Nat, i ≤ l.length ∧ ti = .int .i64 i ∧ tm = .int .i64 (if i = 0 then -1099511627776 else (CL.at' l (i - 1)).1 + 1) ∧ (∀ j, j < i → CL.okAt l j = true) ∧ Below w.heap.size w wr) (fun _ ti _ => l.length - (intOf ti).toNat)
    case atStart => exact ⟨0, by omega, rfl, rfl, by omega, Below.refl _ _⟩
    case round =>
      obtain ⟨i, hi, rfl, rfl, hok, hbel⟩ := hrel
      have HO := hid hok
      have HBl := hid hbel
      have hsz := hbel.size
      clear hok hbel
      by_cases hlt : i < l.length
      · obtain ⟨b, off, hao, hc0, hc1, hbs⟩ := HS.out i hlt
        subst hao
        have hcell0 := (HBl.out.cell (p := ⟨b, off + i * 2, none⟩) hbs).trans hc0
        have hcell1 := (HBl.out.cell (p := ⟨b, off + i * 2 + 1, none⟩) hbs).trans hc1
        clear hc0 hc1
        have hrs := HR.out _ (CL.at_mem l i hlt)
        have hokI := CL.okAt_iff l i
        have hlow : -1099511627776 ≤ (if i = 0 then (-1099511627776 : Int) else (CL.at' l (i - 1)).1 + 1) ∧ (i = 0 → (if i = 0 then (-1099511627776 : Int) else (CL.at' l (i - 1)).1 + 1) = -1099511627776) ∧ (i ≠ 0 → (if i = 0 then (-1099511627776 : Int) else (CL.at' l (i - 1)).1 + 1) = (CL.at' l (i - 1)).1 + 1) := by
          by_cases h0 : i = 0
          · rw [if_pos h0]; omega
          · have := (CL.okAt_iff l (i - 1)).1 (HO.out (i - 1) (by omega))
            rw [if_neg h0]; omega
        have HN : Hid (CL.at' l i = CL.at' l (i + 1 - 1)) := rfl
        have HOK : Hid (CL.okAt l i = true ↔ (if i = 0 then (-1099511627776 : Int) else (CL.at' l (i - 1)).1 + 1) ≤ (CL.at' l i).1 ∧ (CL.at' l i).1 ≤ 1099511627776) := by
          show _ ↔ _
          rw [hokI]
          by_cases h0 : i = 0
          · rw [hlow.2.1 h0]; omega
          · rw [hlow.2.2 h0]; omega
        clear hokI hlow
        obtain ⟨⟨hr1, hr2⟩, hr3, hr4⟩ := hrs
        generalize (if i = 0 then (-1099511627776 : Int) else (CL.at' l (i - 1)).1 + 1) = m at *
        by_cases hb1 : (CL.at' l i).1 < m
        · have HF : Hid (B = false) := by
            show _ = _
            rw [← HB.out]
            refine CL.not_right l i hlt ?_
            rw [← Bool.not_eq_true, HOK.out]
            omega
          generalize (CL.at' l i).1 = T at *
          generalize (CL.at' l i).2 = V at *
          go_wp2
          go_ret
          exact ⟨ret_bool HF.out.symm, HBl.out.alloc hsz _⟩
        · by_cases hb2 : 1099511627776 < (CL.at' l i).1
          · have HF : Hid (B = false) := by
              show _ = _
              rw [← HB.out]
              refine CL.not_right l i hlt ?_
              rw [← Bool.not_eq_true, HOK.out]
              omega
            generalize (CL.at' l i).1 = T at *
            generalize (CL.at' l i).2 = V at *
            go_wp2
            go_ret
            exact ⟨ret_bool HF.out.symm, HBl.out.alloc hsz _⟩
          · have HT : Hid (CL.okAt l i = true) := by
              show _ = _
              rw [HOK.out]
              omega
            have HE : Hid ((CL.at' l i).1 = (CL.at' l (i + 1 - 1)).1) := rfl
            generalize (CL.at' l i).1 = T at *
            generalize (CL.at' l i).2 = V at *
            have hw : IntKind.i64.wrap (T + 1) = T + 1 := by rw [IntKind.wrap_i64]; omega
            go_wp2
            go_roundw
            case rel =>
              refine ⟨i + 1, by omega, by go_num, ?_, ?_, HBl.out.alloc hsz _⟩
              · rw [if_neg (by omega), ← HE.out]
              · intro j hj
                by_cases he : j = i
                · subst he; exact HT.out
                · exact HO.out j (by omega)
            case measure => simp [intOf]; omega
      · have he : i = l.length := by omega
        have HF : Hid (B = true) := by
          show _ = _
          rw [← HB.out]
          exact CL.right_of l (by omega) (fun j hj => HO.out j (by omega))
        generalize (if i = 0 then (-1099511627776 : Int) else (CL.at' l (i - 1)).1 + 1) = m at *
        subst he
        go_wp2
        go_ret
        exact ⟨ret_bool HF.out.symm, HBl.out⟩

end Go.Proofs.YtdmnlmohfaafoadGreatDoor

