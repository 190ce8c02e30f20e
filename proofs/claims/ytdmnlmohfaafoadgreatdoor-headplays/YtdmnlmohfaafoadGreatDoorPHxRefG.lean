/- What the document says of Get: Tell. (made by mkhd.py) -/
import Derived.Test.YtdmnlmohfaafoadGreatDoorPHdMem
namespace Go.Proofs.YtdmnlmohfaafoadGreatDoor
open Go.RowKit

set_option maxRecDepth 100000 in
theorem tell_any (ao : Option Addr) (l : List LB.Lab) (cap : Nat) (n : ByteArray) (w : World) (hL : LRow w ao l) (hl : l.length ≤ 140737488351232) :
    Calls Tryz.prog 92 #[.slice ao l.length cap, .string n] w fun e w' => e = .returned (.string (LB.get l n)) ∧ Below w.heap.size w w' := by
  generalize hB : LB.get l n = B
  have HB := hid hB
  have HL := hid hL
  clear hB hL
  go_enter Tryz.func92, Tryz.ntmps92
  go_wp2
  go_loopw [9] (fun ti wr => ∃ i : Nat, i ≤ l.length ∧ ti = .int .i64 i ∧ Below w.heap.size w wr ∧ ∀ j, j < i → (LB.at' l j).1 ≠ n) (fun ti _ => l.length - (intOf ti).toNat)
  case atStart => exact ⟨0, by omega, rfl, Below.refl _ _, by omega⟩
  case round =>
    obtain ⟨i, hi, rfl, hbel, hok⟩ := hrel
    have HO := hid hok
    have HBl := hid hbel
    have hsz := hbel.size
    clear hok hbel
    by_cases hlt : i < l.length
    · obtain ⟨b, off, hao, hc0, hc1, hbs⟩ := HL.out i hlt
      subst hao
      have hcell0 := (HBl.out.cell (p := ⟨b, off + i * 2, none⟩) hbs).trans hc0
      have hcell1 := (HBl.out.cell (p := ⟨b, off + i * 2 + 1, none⟩) hbs).trans hc1
      clear hc0 hc1
      have HA : Hid ((LB.at' l i).1 = n → B = (LB.at' l i).2) := fun h => by rw [← HB.out]; exact LB.get_hit l n i hlt HO.out h
      have HN : Hid ((LB.at' l i).1 ≠ n → ∀ j, j < i + 1 → (LB.at' l j).1 ≠ n) := fun h j hj => by
        by_cases he : j = i
        · subst he; exact h
        · exact HO.out j (by omega)
      generalize hN : (LB.at' l i).1 = N at *
      generalize hV : (LB.at' l i).2 = V at *
      by_cases he : N = n
      · have hq : (N.toList == n.toList) = true := by rw [LB.beq_eq]; exact decide_eq_true he
        have HE := HA.out he
        clear he HA HN hN hV
        have HE := hid HE
        go_wp2
        go_ret
        exact ⟨ret_str HE.out.symm, HBl.out.alloc hsz _⟩
      · have hq : (N.toList == n.toList) = false := by rw [LB.beq_eq]; exact decide_eq_false he
        have HE := hid (HN.out he)
        clear he HA HN hN hV
        go_wp2
        go_roundw
        case rel => exact ⟨i + 1, by omega, by go_num, HBl.out.alloc hsz _, HE.out⟩
        case measure => simp [intOf]; omega
    · have he : i = l.length := by omega
      have HE : Hid (B = ByteArray.empty) := by
        show _ = _
        rw [← HB.out]
        exact LB.get_none l n (fun j hj => HO.out j (by omega))
      subst he
      go_wp2
      go_ret
      exact ⟨ret_str HE.out.symm, HBl.out⟩

end Go.Proofs.YtdmnlmohfaafoadGreatDoor

