/- What the document's own answer says of Right: Labels. (made by mkhd.py) -/
import Derived.Test.YtdmnlmohfaafoadGreatDoorPHxRefN
namespace Go.Proofs.YtdmnlmohfaafoadGreatDoor
open Go.RowKit

theorem nil_strR {s : ByteArray} : s.toList = [] ↔ s = ByteArray.empty := by
  have h : ByteArray.empty.toList = [] := by rw [Lib.toList_data]; rfl
  rw [← h]; exact LB.toList_iff

theorem le_no {m n : ByteArray} (h : Op.bytesLess m.toList n.toList = true) : (Op.bytesLess n.toList m.toList || n.toList == m.toList) = false := by
  rw [Bool.or_eq_false_iff]
  constructor
  · rw [← Bool.not_eq_true]
    intro h2
    have := LB.less_tr _ _ _ h h2
    rw [LB.less_irr] at this; cases this
  · rw [beq_eq_false_iff_ne]
    intro e
    rw [e, LB.less_irr] at h; cases h

theorem le_yes {m n : ByteArray} (h : Op.bytesLess m.toList n.toList = false) : (Op.bytesLess n.toList m.toList || n.toList == m.toList) = true := by
  cases h2 : Op.bytesLess n.toList m.toList with
  | true => rfl
  | false =>
    rw [LB.less_tri _ _ h2 h]; simp

set_option maxRecDepth 100000 in
set_option maxHeartbeats 1600000 in
theorem rlabels_any (ao : Option Addr) (l : List LB.Lab) (cap : Nat) (w : World) (hL : LRow w ao l) (hl : l.length ≤ 2000) (hs : Shrt l) :
    Calls Tryz.prog 29 #[.slice ao l.length cap] w fun e w' => e = .returned (.bool (LB.right l)) ∧ Below w.heap.size w w' := by
  generalize hB : LB.right l = B
  have HB := hid hB
  have HL := hid hL
  have HS := hid hs
  clear hB hL hs
  go_enter Tryz.func29, Tryz.ntmps29
  go_wp2
  go_loopw [7] (fun ti wr => ∃ i : Nat, i ≤ l.length ∧ ti = .int .i64 i ∧ Below w.heap.size w wr ∧ ∀ j, j < i → LB.okL l j) (fun ti _ => l.length - (intOf ti).toNat)
  case atStart => exact ⟨0, by omega, rfl, Below.refl _ _, by omega⟩
  case round =>
    obtain ⟨i, hi, rfl, hbel, hok⟩ := hrel
    have HO := hid hok
    have HBl := hid hbel
    have hsz := hbel.size
    clear hok hbel
    by_cases hlt : i < l.length
    · obtain ⟨b, off, hao, hc0, hc1, hbs⟩ := HL.out i hlt
      subst hao
      have hcell0 := (HBl.out.cell (p := ⟨b, off + i * 2, none⟩) hbs).trans hc0
      have hcell1 := (HBl.out.cell (p := ⟨b, off + i * 2 + 1, none⟩) hbs).trans hc1
      clear hc0 hc1
      have HF : Hid (¬ LB.okL l i → B = false) := fun h => by
        rw [← HB.out]
        exact decide_eq_false fun h' => h (h'.2.2 i hlt)
      have HT : Hid (LB.okL l i → ∀ j, j < i + 1 → LB.okL l j) := fun h j hj => by
        by_cases he : j = i
        · subst he; exact h
        · exact HO.out j (by omega)
      have HK : Hid (LB.okL l i ↔ LB.name (LB.at' l i).1 = true ∧ LB.valu (LB.at' l i).2 = true ∧ (LB.at' l i).2 ≠ ByteArray.empty ∧ (0 < i → LB.lt (LB.at' l (i - 1)).1 (LB.at' l i).1 = true)) := Iff.rfl
      have hsh := HS.out i hlt
      generalize (LB.at' l i).1 = N at *
      generalize (LB.at' l i).2 = V at *
      have HSN : Hid (N.size ≤ 2000) := by show _ ≤ _; omega
      have HSV : Hid (V.size ≤ 2000) := by show _ ≤ _; omega
      clear hsh
      go_wp2_with fail
      have hb1 : Below w.heap.size w (wr.alloc (.cells #[.string N, .string V] 49)) := HBl.out.alloc hsz _
      have x0 : (wr.alloc (.cells #[.string N, .string V] 49)).cell? ⟨wr.heap.size, 0, none⟩ = some (.string N) := by simp
      have x1 : (wr.alloc (.cells #[.string N, .string V] 49)).cell? ⟨wr.heap.size, 1, none⟩ = some (.string V) := by simp
      clear hcell0 hcell1
      generalize wr.alloc (.cells #[.string N, .string V] 49) = w1 at *
      have HB1 := hid hb1
      clear hb1
      cases hn : LB.name N with
      | false =>
        have HE := hid (HF.out (fun h => by have := (HK.out.1 h).1; rw [hn] at this; cases this))
        clear HF HT HK
        go_quiet ((go_at_call 52; exact Calls.quiet_of_same (rname_any _ _ HSN.out)))
        go_wp2_with fail
        go_ret
        exact ⟨ret_bool HE.out.symm, lbelow_drewN HB1.out _⟩
      | true =>
        cases hq : LB.valu V with
        | false =>
          have HE := hid (HF.out (fun h => by have := (HK.out.1 h).2.1; rw [hq] at this; cases this))
          clear HF HT HK
          go_quiet ((first | (go_at_call 52; exact Calls.quiet_of_same (rname_any _ _ HSN.out)) | (go_at_call 53; exact Calls.quiet_of_same (rsays_any _ _ HSV.out))))
          go_wp2_with fail
          go_ret
          exact ⟨ret_bool HE.out.symm, lbelow_drewN HB1.out _⟩
        | true =>
          by_cases hv : V = ByteArray.empty
          · have HE := hid (HF.out (fun h => (HK.out.1 h).2.2.1 hv))
            have hv2 : V.toList.isEmpty = true := by rw [List.isEmpty_iff]; exact nil_strR.2 hv
            clear HF HT HK hv
            go_quiet ((first | (go_at_call 52; exact Calls.quiet_of_same (rname_any _ _ HSN.out)) | (go_at_call 53; exact Calls.quiet_of_same (rsays_any _ _ HSV.out))))
            go_wp2_with fail
            go_ret
            exact ⟨ret_bool HE.out.symm, lbelow_drewN HB1.out _⟩
          · have hv2 : V.toList.isEmpty = false := by rw [← Bool.not_eq_true, List.isEmpty_iff]; exact fun h => hv (nil_strR.1 h)
            have HV := hid hv
            clear hv
            by_cases hi0 : 0 < i
            · have hgt : decide (0 < i) = true := decide_eq_true hi0
              have hix : ((i : Int) - 1).toNat = i - 1 := by omega
              have hi1 : 0 ≤ (i : Int) - 1 ∧ (i : Int) - 1 < (l.length : Int) := by omega
              obtain ⟨b', off', hao', hd0, _, _⟩ := HL.out (i - 1) (by omega)
              simp only [Option.some.injEq, Addr.mk.injEq, and_true] at hao'
              obtain ⟨rfl, rfl⟩ := hao'
              have hdd := (HB1.out.cell (p := ⟨b, off + (i - 1) * 2, none⟩) hbs).trans hd0
              clear hd0
              generalize (LB.at' l (i - 1)).1 = M at *
              cases hm : Op.bytesLess M.toList N.toList with
              | true =>
                have HE := hid (HT.out (HK.out.2 ⟨hn, hq, HV.out, fun _ => hm⟩))
                have hm2 : (Op.bytesLess N.toList M.toList || N.toList == M.toList) = false := le_no hm
                obtain ⟨hm3, hm4⟩ := Bool.or_eq_false_iff.1 hm2
                clear HF HT HK hm2 hm
                go_quiet ((first | (go_at_call 52; exact Calls.quiet_of_same (rname_any _ _ HSN.out)) | (go_at_call 53; exact Calls.quiet_of_same (rsays_any _ _ HSV.out))))
                go_wp2_with fail
                go_roundw
                case rel => exact ⟨i + 1, by omega, by go_num, lbelow_drewN HB1.out _, HE.out⟩
                case measure => simp [intOf]; omega
              | false =>
                have HE := hid (HF.out (fun h => by have := (HK.out.1 h).2.2.2 hi0; rw [LB.lt, hm] at this; cases this))
                have hm2 : (Op.bytesLess N.toList M.toList || N.toList == M.toList) = true := le_yes hm
                clear HF HT HK hm
                go_quiet ((first | (go_at_call 52; exact Calls.quiet_of_same (rname_any _ _ HSN.out)) | (go_at_call 53; exact Calls.quiet_of_same (rsays_any _ _ HSV.out))))
                go_wp2_with fail
                go_ret
                exact ⟨ret_bool HE.out.symm, lbelow_drewN HB1.out _⟩
            · have hgt : decide (0 < i) = false := decide_eq_false hi0
              have HE := hid (HT.out (HK.out.2 ⟨hn, hq, HV.out, fun h => absurd h hi0⟩))
              clear HF HT HK hi0
              go_quiet ((first | (go_at_call 52; exact Calls.quiet_of_same (rname_any _ _ HSN.out)) | (go_at_call 53; exact Calls.quiet_of_same (rsays_any _ _ HSV.out))))
              go_wp2_with fail
              go_roundw
              case rel => exact ⟨i + 1, by omega, by go_num, lbelow_drewN HB1.out _, HE.out⟩
              case measure => simp [intOf]; omega
    · have he : i = l.length := by omega
      have HE : Hid (B = decide ((1 : Int) ≤ (l.length : Int) ∧ (l.length : Int) ≤ 8)) := by
        show _ = _
        rw [← HB.out]
        unfold LB.right
        rw [Bool.eq_iff_iff, decide_eq_true_eq, decide_eq_true_eq]
        refine ⟨fun h => by omega, fun h => ⟨by omega, by omega, fun j hj => HO.out j (by omega)⟩⟩
      subst he
      go_wp2_with fail
      refine (lrin_any _ _ _ _).mono ?_
      rintro e w' ⟨rfl, rfl⟩
      rw [← HE.out]
      go_wp2_with fail
      go_ret
      exact ⟨rfl, HBl.out⟩

end Go.Proofs.YtdmnlmohfaafoadGreatDoor

