/- What label.Right answers. (made by mkhd.py) -/
import Derived.Test.YtdmnlmohfaafoadGreatDoorPHxName
namespace Go.Proofs.YtdmnlmohfaafoadGreatDoor
open Go.RowKit

theorem nil_str {s : ByteArray} : s.toList = [] ↔ s = ByteArray.empty := by
  have h : ByteArray.empty.toList = [] := by rw [Lib.toList_data]; rfl
  rw [← h]; exact LB.toList_iff

set_option maxRecDepth 100000 in
set_option maxHeartbeats 800000 in
theorem lright_any (ao : Option Addr) (l : List LB.Lab) (cap : Nat) (w : World) (hL : LRow w ao l) :
    Calls Tryz.prog 34 #[.slice ao l.length cap] w fun e w' => e = .returned (.bool (LB.right l)) ∧ Below w.heap.size w w' := by
  generalize hB : LB.right l = B
  have HB := hid hB
  have HL := hid hL
  clear hB hL
  by_cases hs : 1 ≤ l.length ∧ l.length ≤ 8
  · have hs1 : ¬ (l.length : Int) < 1 := by omega
    have hs2 : ¬ (8 : Int) < (l.length : Int) := by omega
    go_enter Tryz.func34, Tryz.ntmps34
    go_wp2
    go_loopw [15] (fun ti wr => ∃ i : Nat, i ≤ l.length ∧ ti = .int .i64 i ∧ Below w.heap.size w wr ∧ ∀ j, j < i → LB.okL l j) (fun ti _ => l.length - (intOf ti).toNat)
    case atStart => exact ⟨0, by omega, rfl, Below.refl _ _, by omega⟩
    case round =>
      obtain ⟨i, hi, rfl, hbel, hok⟩ := hrel
      have HO := hid hok
      have HBl := hid hbel
      have hsz := hbel.size
      clear hok hbel
      by_cases hlt : i < l.length
      · obtain ⟨b, off, hao, hc0, hc1, hbs⟩ := HL.out i hlt
        subst hao
        have hcell0 := (HBl.out.cell (p := ⟨b, off + i * 2, none⟩) hbs).trans hc0
        have hcell1 := (HBl.out.cell (p := ⟨b, off + i * 2 + 1, none⟩) hbs).trans hc1
        clear hc0 hc1
        have HF : Hid (¬ LB.okL l i → B = false) := fun h => by
          rw [← HB.out]
          exact decide_eq_false fun h' => h (h'.2.2 i hlt)
        have HT : Hid (LB.okL l i → ∀ j, j < i + 1 → LB.okL l j) := fun h j hj => by
          by_cases he : j = i
          · subst he; exact h
          · exact HO.out j (by omega)
        have HK : Hid (LB.okL l i ↔ LB.name (LB.at' l i).1 = true ∧ LB.valu (LB.at' l i).2 = true ∧ (LB.at' l i).2 ≠ ByteArray.empty ∧ (0 < i → LB.lt (LB.at' l (i - 1)).1 (LB.at' l i).1 = true)) := Iff.rfl
        generalize (LB.at' l i).1 = N at *
        generalize (LB.at' l i).2 = V at *
        go_wp2_with fail
        refine (name_any N _).mono ?_
        rintro e w2 ⟨rfl, hb2⟩
        have HB2 := hid ((HBl.out.alloc hsz (.cells #[.string N, .string V] 49)).trans (hb2.mono (by simp; omega)))
        have hx0 : w2.cell? ⟨wr.heap.size, 0, none⟩ = some (.string N) := (hb2.cell (p := ⟨wr.heap.size, 0, none⟩) (by simp)).trans (by simp)
        have hx1 : w2.cell? ⟨wr.heap.size, 1, none⟩ = some (.string V) := (hb2.cell (p := ⟨wr.heap.size, 1, none⟩) (by simp)).trans (by simp)
        have hs2 := HB2.out.size
        have hw2 : wr.heap.size < w2.heap.size := Nat.lt_of_lt_of_le (by simp) hb2.size
        clear hb2
        cases hn : LB.name N with
        | false =>
          have HE := hid (HF.out (fun h => by have := (HK.out.1 h).1; rw [hn] at this; cases this))
          clear HF HT HK
          go_wp2_with fail
          go_ret
          exact ⟨ret_bool HE.out.symm, HB2.out⟩
        | true =>
          by_cases hv : V = ByteArray.empty
          · have HE := hid (HF.out (fun h => (HK.out.1 h).2.2.1 hv))
            have hv' : V.toList = [] := nil_str.2 hv
            clear HF HT HK hv
            go_wp2_with fail
            go_ret
            exact ⟨ret_bool HE.out.symm, HB2.out⟩
          · have hv' : ¬ V.toList = [] := fun h => hv (nil_str.1 h)
            have hv2 : V.toList.isEmpty = false := by rw [← Bool.not_eq_true, List.isEmpty_iff]; exact hv'
            have HV := hid hv
            clear hv
            go_wp2_with fail
            refine (lvalue_any V _).mono ?_
            rintro e w3 ⟨rfl, hb3⟩
            have HB3 := hid (HB2.out.trans (hb3.mono hs2))
            have hy0 : w3.cell? ⟨wr.heap.size, 0, none⟩ = some (.string N) := (hb3.cell (p := ⟨wr.heap.size, 0, none⟩) hw2).trans hx0
            have hs3 := HB3.out.size
            clear hb3 hx0 hx1
            cases hq : LB.valu V with
            | false =>
              have HE := hid (HF.out (fun h => by have := (HK.out.1 h).2.1; rw [hq] at this; cases this))
              clear HF HT HK
              go_wp2_with fail
              go_ret
              exact ⟨ret_bool HE.out.symm, HB3.out⟩
            | true =>
              clear hv'
              by_cases hi0 : 0 < i
              · have hgt : decide (0 < i) = true := decide_eq_true hi0
                have hix : ((i : Int) - 1).toNat = i - 1 := by omega
                have hi1 : 0 ≤ (i : Int) - 1 ∧ (i : Int) - 1 < (l.length : Int) := by omega
                obtain ⟨b', off', hao', hd0, _, _⟩ := HL.out (i - 1) (by omega)
                simp only [Option.some.injEq, Addr.mk.injEq, and_true] at hao'
                obtain ⟨rfl, rfl⟩ := hao'
                have hdd := (HB3.out.cell (p := ⟨b, off + (i - 1) * 2, none⟩) hbs).trans hd0
                clear hd0
                generalize (LB.at' l (i - 1)).1 = M at *
                cases hm : Op.bytesLess M.toList N.toList with
                | true =>
                  have HE := hid (HT.out (HK.out.2 ⟨hn, hq, HV.out, fun _ => hm⟩))
                  clear HF HT HK
                  go_wp2_with fail
                  go_quiet (fail)
                  go_wp2_with fail
                  go_roundw
                  case rel => exact ⟨i + 1, by omega, by go_num, lbelow_drewN HB3.out _, HE.out⟩
                  case measure => simp [intOf]; omega
                | false =>
                  have HE := hid (HF.out (fun h => by have := (HK.out.1 h).2.2.2 hi0; rw [LB.lt, hm] at this; cases this))
                  clear HF HT HK
                  go_wp2_with fail
                  go_quiet (fail)
                  go_wp2_with fail
                  go_ret
                  exact ⟨ret_bool HE.out.symm, lbelow_drewN HB3.out _⟩
              · have hgt : decide (0 < i) = false := decide_eq_false hi0
                have HE := hid (HT.out (HK.out.2 ⟨hn, hq, HV.out, fun h => absurd h hi0⟩))
                clear HF HT HK hi0
                go_wp2_with fail
                go_quiet (fail)
                go_wp2_with fail
                go_roundw
                case rel => exact ⟨i + 1, by omega, by go_num, lbelow_drewN HB3.out _, HE.out⟩
                case measure => simp [intOf]; omega
      · have he : i = l.length := by omega
        have HS : Hid (B = true) := by
          show _ = _
          rw [← HB.out]
          exact decide_eq_true ⟨hs.1, hs.2, fun j hj => HO.out j (by omega)⟩
        subst he
        go_wp2
        go_ret
        exact ⟨ret_bool HS.out.symm, HBl.out⟩
  · have HS : Hid (B = false) := by
      show _ = _
      rw [← HB.out]
      exact decide_eq_false fun h => hs ⟨h.1, h.2.1⟩
    by_cases hs1 : (l.length : Int) < 1
    · go_enter Tryz.func34, Tryz.ntmps34
      go_wp2
      go_ret
      exact ⟨ret_bool HS.out.symm, Below.refl _ _⟩
    · have hs2 : (8 : Int) < (l.length : Int) := by omega
      go_enter Tryz.func34, Tryz.ntmps34
      go_wp2
      go_ret
      exact ⟨ret_bool HS.out.symm, Below.refl _ _⟩

end Go.Proofs.YtdmnlmohfaafoadGreatDoor

