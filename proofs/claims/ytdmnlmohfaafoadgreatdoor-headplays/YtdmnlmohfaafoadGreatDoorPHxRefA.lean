/- What the document's own answer says of matchers: Asked, Fits. -/
import Derived.Test.YtdmnlmohfaafoadGreatDoorPHxRefN
import Derived.Test.YtdmnlmohfaafoadGreatDoorPHxRefG
namespace Go.Proofs.YtdmnlmohfaafoadGreatDoor
open Go.RowKit

/-- Matchers that are short. -/
def ShrM (l : List LB.Mat) : Prop := ∀ i, i < l.length → (LB.am l i).nm.size ≤ 60 ∧ (LB.am l i).vl.size ≤ 60

theorem all_of {l : List LB.Mat} {p : LB.Mat → Bool} (h : ∀ i, i < l.length → p (LB.am l i) = true) : l.all p = true := by
  rw [List.all_eq_true]
  intro x hx
  obtain ⟨i, hi, rfl⟩ := List.mem_iff_getElem.1 hx
  have := h i hi
  unfold LB.am at this
  rw [List.getD_eq_getElem?_getD, List.getElem?_eq_getElem hi] at this
  simpa using this

theorem not_all {l : List LB.Mat} {p : LB.Mat → Bool} (i : Nat) (hi : i < l.length) (h : p (LB.am l i) = false) : l.all p = false := by
  rw [← Bool.not_eq_true, List.all_eq_true]
  intro h'
  rw [h' _ (LB.am_mem l i hi)] at h
  cases h

set_option maxRecDepth 100000 in
set_option maxHeartbeats 800000 in
theorem rasked_any (ao : Option Addr) (m : List LB.Mat) (cap : Nat) (w : World) (hM : MRow w ao m) (hl : m.length ≤ 1000) (hs : ShrM m) :
    Calls Tryz.prog 17 #[.slice ao m.length cap] w fun e w' => e = .returned (.bool (LB.asked m)) ∧ Below w.heap.size w w' := by
  generalize hB : LB.asked m = B
  have HB := hid hB
  have HM := hid hM
  have HS := hid hs
  clear hB hM hs
  go_enter Tryz.func17, Tryz.ntmps17
  go_wp2
  go_loopw [7] (fun ti wr => ∃ i : Nat, i ≤ m.length ∧ ti = .int .i64 i ∧ Below w.heap.size w wr ∧ ∀ j, j < i → LB.askd (LB.am m j) = true) (fun ti _ => m.length - (intOf ti).toNat)
  case atStart => exact ⟨0, by omega, rfl, Below.refl _ _, by omega⟩
  case round =>
    obtain ⟨i, hi, rfl, hbel, hok⟩ := hrel
    have HO := hid hok
    have HBl := hid hbel
    have hsz := hbel.size
    clear hok hbel
    by_cases hlt : i < m.length
    · obtain ⟨b, off, hao, hc0, hc1, hc2, hbs⟩ := HM.out i hlt
      subst hao
      have hcell0 := (HBl.out.cell (p := ⟨b, off + i * 3, none⟩) hbs).trans hc0
      have hcell1 := (HBl.out.cell (p := ⟨b, off + i * 3 + 1, none⟩) hbs).trans hc1
      have hcell2 := (HBl.out.cell (p := ⟨b, off + i * 3 + 2, none⟩) hbs).trans hc2
      clear hc0 hc1 hc2
      have HF : Hid (LB.askd (LB.am m i) = false → B = false) := fun h => by
        rw [← HB.out, LB.asked, not_all i hlt h, Bool.and_false]
      have HT : Hid (LB.askd (LB.am m i) = true → ∀ j, j < i + 1 → LB.askd (LB.am m j) = true) := fun h j hj => by
        by_cases he : j = i
        · subst he; exact h
        · exact HO.out j (by omega)
      have HK : Hid (LB.askd (LB.am m i) = (LB.name (LB.am m i).nm && LB.valu (LB.am m i).vl && decide (0 ≤ (LB.am m i).op ∧ (LB.am m i).op ≤ 3))) := rfl
      have hsh := HS.out i hlt
      generalize LB.askd (LB.am m i) = A at *
      generalize LB.am m i = x at *
      obtain ⟨nm, op, vl⟩ := x
      simp only at hsh HK hcell0 hcell1 hcell2
      have HSN : Hid (nm.size ≤ 2000) := by show _ ≤ _; omega
      have HSV : Hid (vl.size ≤ 2000) := by show _ ≤ _; omega
      have HB1 := hid (HBl.out.alloc hsz (.cells #[.string nm, .int .i64 op, .string vl] 111))
      clear hsh
      go_wp2_with fail
      refine (rname_any nm _ HSN.out).mono ?_
      rintro e w2 ⟨rfl, rfl⟩
      cases hn : LB.name nm with
      | false =>
        have HE := hid (HF.out (by rw [HK.out, hn]; rfl))
        clear HF HT HK
        go_wp2_with fail
        go_ret
        exact ⟨ret_bool HE.out.symm, HB1.out⟩
      | true =>
        go_wp2_with fail
        refine (rsays_any vl _ HSV.out).mono ?_
        rintro e w2 ⟨rfl, rfl⟩
        cases hv : LB.valu vl with
        | false =>
          have HE := hid (HF.out (by rw [HK.out, hn, hv]; rfl))
          clear HF HT HK
          go_wp2_with fail
          go_ret
          exact ⟨ret_bool HE.out.symm, HB1.out⟩
        | true =>
          go_wp2_with fail
          refine (lrin_any _ _ _ _).mono ?_
          rintro e w2 ⟨rfl, rfl⟩
          by_cases ho : 0 ≤ op ∧ op ≤ 3
          · rw [decide_eq_true ho]
            have HE := hid (HT.out (by rw [HK.out, hn, hv, decide_eq_true ho]; rfl))
            clear HF HT HK ho
            go_wp2_with fail
            go_roundw
            case rel => exact ⟨i + 1, by omega, by go_num, HB1.out, HE.out⟩
            case measure => simp [intOf]; omega
          · rw [decide_eq_false ho]
            have HE := hid (HF.out (by rw [HK.out, hn, hv, decide_eq_false ho]; rfl))
            clear HF HT HK ho
            go_wp2_with fail
            go_ret
            exact ⟨ret_bool HE.out.symm, HB1.out⟩
    · have he : i = m.length := by omega
      have HE : Hid (B = decide ((m.length : Int) ≤ 8)) := by
        show _ = _
        rw [← HB.out, LB.asked, all_of (fun j hj => HO.out j (by omega)), Bool.and_true, Bool.eq_iff_iff, decide_eq_true_eq, decide_eq_true_eq]
        omega
      subst he
      go_wp2_with fail
      go_ret
      exact ⟨ret_bool HE.out.symm, HBl.out⟩

theorem four_ix0 (a b c d : Bool) (w : World) : Sem.run Tryz.prog (Instr.index 159 (.agg #[.bool a, .bool b, .bool c, .bool d]) (.int .i64 0)) w = .ok (.bool a) w := by kernel_rfl

theorem four_ix1 (a b c d : Bool) (w : World) : Sem.run Tryz.prog (Instr.index 159 (.agg #[.bool a, .bool b, .bool c, .bool d]) (.int .i64 1)) w = .ok (.bool b) w := by kernel_rfl

theorem four_ix2 (a b c d : Bool) (w : World) : Sem.run Tryz.prog (Instr.index 159 (.agg #[.bool a, .bool b, .bool c, .bool d]) (.int .i64 2)) w = .ok (.bool c) w := by kernel_rfl

theorem four_ix3 (a b c d : Bool) (w : World) : Sem.run Tryz.prog (Instr.index 159 (.agg #[.bool a, .bool b, .bool c, .bool d]) (.int .i64 3)) w = .ok (.bool d) w := by kernel_rfl

theorem four_pick (a e A : Bool) (n : Int) (h : 0 ≤ n ∧ n ≤ 3) (hA : A = if n = 0 then a else if n = 1 then !a else if n = 2 then e else if n = 3 then !e else false) (w : World) :
    Sem.run Tryz.prog (Instr.index 159 (.agg #[.bool a, .bool (!a), .bool e, .bool (!e)]) (.int .i64 n)) w = .ok (.bool A) w := by
  have h4 : n = 0 ∨ n = 1 ∨ n = 2 ∨ n = 3 := by omega
  rcases h4 with rfl | rfl | rfl | rfl
  · rw [four_ix0, hA]; rfl
  · rw [four_ix1, hA]; rfl
  · rw [four_ix2, hA]; rfl
  · rw [four_ix3, hA]; rfl

set_option maxRecDepth 100000 in
set_option maxHeartbeats 1600000 in
theorem rfits_any (ao mo : Option Addr) (l : List LB.Lab) (m : List LB.Mat) (cl cm : Nat) (w : World) (hL : LRow w ao l) (hM : MRow w mo m) (hl : l.length ≤ 1000) (hm : m.length ≤ 1000) (hop : ∀ i, i < m.length → 0 ≤ (LB.am m i).op ∧ (LB.am m i).op ≤ 3) :
    Calls Tryz.prog 58 #[.slice ao l.length cl, .slice mo m.length cm] w fun e w' => e = .returned (.bool (LB.all l m)) ∧ Below w.heap.size w w' := by
  generalize hB : LB.all l m = B
  have HB := hid hB
  have HM := hid hM
  have HL := hid hL
  have HP := hid hop
  clear hB hM hL hop
  go_enter Tryz.func58, Tryz.ntmps58
  go_wp2
  go_loopw [12] (fun ti wr => ∃ i : Nat, i ≤ m.length ∧ ti = .int .i64 i ∧ Below w.heap.size w wr ∧ ∀ j, j < i → LB.one l (LB.am m j) = true) (fun ti _ => m.length - (intOf ti).toNat)
  case atStart => exact ⟨0, by omega, rfl, Below.refl _ _, by omega⟩
  case round =>
    obtain ⟨i, hi, rfl, hbel, hok⟩ := hrel
    have HO := hid hok
    have HBl := hid hbel
    have hsz := hbel.size
    clear hok hbel
    by_cases hlt : i < m.length
    · obtain ⟨b, off, hao, hc0, hc1, hc2, hbs⟩ := HM.out i hlt
      subst hao
      have hcell0 := (HBl.out.cell (p := ⟨b, off + i * 3, none⟩) hbs).trans hc0
      have hcell1 := (HBl.out.cell (p := ⟨b, off + i * 3 + 1, none⟩) hbs).trans hc1
      have hcell2 := (HBl.out.cell (p := ⟨b, off + i * 3 + 2, none⟩) hbs).trans hc2
      clear hc0 hc1 hc2
      have HF : Hid (LB.one l (LB.am m i) = false → B = false) := fun h => by
        rw [← HB.out, LB.all, not_all i hlt h]
      have HT : Hid (LB.one l (LB.am m i) = true → ∀ j, j < i + 1 → LB.one l (LB.am m j) = true) := fun h j hj => by
        by_cases he : j = i
        · subst he; exact h
        · exact HO.out j (by omega)
      have HK : Hid (LB.one l (LB.am m i) = if (LB.am m i).op = 0 then decide (LB.get l (LB.am m i).nm = (LB.am m i).vl) else if (LB.am m i).op = 1 then !decide (LB.get l (LB.am m i).nm = (LB.am m i).vl) else if (LB.am m i).op = 2 then LB.begins (LB.get l (LB.am m i).nm) (LB.am m i).vl else if (LB.am m i).op = 3 then !LB.begins (LB.get l (LB.am m i).nm) (LB.am m i).vl else false) := rfl
      have hpo := HP.out i hlt
      generalize LB.one l (LB.am m i) = A at *
      generalize LB.am m i = x at *
      obtain ⟨nm, op, vl⟩ := x
      simp only at hpo HK hcell0 hcell1 hcell2
      have hb1 : Below w.heap.size w (wr.alloc (.cells #[.string nm, .int .i64 op, .string vl] 111)) := HBl.out.alloc hsz _
      have HG := hid (tell_any ao l cl nm (wr.alloc (.cells #[.string nm, .int .i64 op, .string vl] 111)) (HL.out.below hb1) (by omega))
      have HB1 := hid hb1
      clear hb1
      generalize LB.get l nm = G at *
      go_wp2_with fail
      refine HG.out.mono ?_
      rintro e w2 ⟨rfl, hb2⟩
      have HB2 := hid (HB1.out.trans (hb2.mono (by simp; omega)))
      have x1 : w2.cell? ⟨wr.heap.size, 1, none⟩ = some (.int .i64 op) := (hb2.cell (p := ⟨wr.heap.size, 1, none⟩) (by simp)).trans (by simp)
      have x2 : w2.cell? ⟨wr.heap.size, 2, none⟩ = some (.string vl) := (hb2.cell (p := ⟨wr.heap.size, 2, none⟩) (by simp)).trans (by simp)
      clear hb2 HG HB1 hcell0 hcell1 hcell2
      by_cases hge : vl.size ≤ G.size
      · have hge1 : decide (vl.size ≤ G.size) = true := decide_eq_true hge
        have hge2 : decide ((vl.size : Int) ≤ (G.size : Int)) = true := decide_eq_true (by omega)
        have hbeg : LB.begins G vl = ((G.extract 0 vl.size).toList == vl.toList) := by
          rw [LB.beq_eq, LB.begins, hge1]; rfl
        have hix := four_pick (G.toList == vl.toList) ((G.extract 0 vl.size).toList == vl.toList) A op hpo (by rw [HK.out, hbeg, LB.beq_eq G vl])
        clear hbeg
        cases A with
        | true =>
          have HE := hid (HT.out rfl)
          clear HT HF HK
          go_wp2_with fail
          go_quiet (fail)
          go_wp2_with fail
          go_roundw
          case rel => exact ⟨i + 1, by omega, by go_num, lbelow_drewN HB2.out _, HE.out⟩
          case measure => simp [intOf]; omega
        | false =>
          have HE := hid (HF.out rfl)
          clear HT HF HK
          go_wp2_with fail
          go_quiet (fail)
          go_wp2_with fail
          go_ret
          exact ⟨ret_bool HE.out.symm, lbelow_drewN HB2.out _⟩
      · have hge1 : decide (vl.size ≤ G.size) = false := decide_eq_false hge
        have hge2 : decide ((vl.size : Int) ≤ (G.size : Int)) = false := decide_eq_false (by omega)
        have hbeg : LB.begins G vl = false := by
          rw [LB.begins, hge1]; rfl
        have hix := four_pick (G.toList == vl.toList) false A op hpo (by rw [HK.out, hbeg, LB.beq_eq G vl])
        have hix2 : ∀ w, Sem.run Tryz.prog (Instr.index 159 (.agg #[.bool (G.toList == vl.toList), .bool (!(G.toList == vl.toList)), .bool false, .bool true]) (.int .i64 op)) w = .ok (.bool A) w := hix
        clear hbeg hix
        cases A with
        | true =>
          have HE := hid (HT.out rfl)
          clear HT HF HK
          go_wp2_with fail
          go_quiet (fail)
          go_wp2_with fail
          go_roundw
          case rel => exact ⟨i + 1, by omega, by go_num, lbelow_drewN HB2.out _, HE.out⟩
          case measure => simp [intOf]; omega
        | false =>
          have HE := hid (HF.out rfl)
          clear HT HF HK
          go_wp2_with fail
          go_quiet (fail)
          go_wp2_with fail
          go_ret
          exact ⟨ret_bool HE.out.symm, lbelow_drewN HB2.out _⟩
    · have he : i = m.length := by omega
      have HE : Hid (B = true) := by
        show _ = _
        rw [← HB.out, LB.all, all_of (fun j hj => HO.out j (by omega))]
      subst he
      go_wp2_with fail
      go_ret
      exact ⟨ret_bool HE.out.symm, HBl.out⟩

end Go.Proofs.YtdmnlmohfaafoadGreatDoor

