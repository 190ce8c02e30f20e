/- raingaugelaw.LabelMatches, walked: which matchers may be, and which labels are as they ask, is the document's. -/
import Derived.Test.YtdmnlmohfaafoabLbAsk
import Derived.Test.YtdmnlmohfaafoabLbRefA
import Derived.Test.YtdmnlmohfaafoabLbShortL
import Derived.Deep.RegionWith
namespace Go.Proofs.Ytdmnlmohfaafoab
open Go.RowKit

theorem shM_lenL {l : List LB.Mat} (h : shM l = true) : l.length ≤ 20 ∧ ShrM l := by
  have h' : l.length ≤ 20 ∧ ∀ i, i < l.length → (LB.am l i).nm.size ≤ 60 ∧ (LB.am l i).vl.size ≤ 60 := of_decide_eq_true h
  exact h'

theorem shL_lenL {l : List LB.Lab} (h : shL l = true) : l.length ≤ 20 := by
  have h' : l.length ≤ 20 ∧ ∀ i, i < l.length → (LB.at' l i).1.size ≤ 60 ∧ (LB.at' l i).2.size ≤ 60 := of_decide_eq_true h
  exact h'.1

theorem asked_memL {l : List LB.Mat} (h : LB.asked l = true) (i : Nat) (hi : i < l.length) : 0 ≤ (LB.am l i).op ∧ (LB.am l i).op ≤ 3 := by
  unfold LB.asked at h
  rw [Bool.and_eq_true, List.all_eq_true] at h
  have := h.2 _ (LB.am_mem l i hi)
  unfold LB.askd at this
  simp only [Bool.and_eq_true, decide_eq_true_eq] at this
  exact this.2

theorem one_op {x : LB.Mat} (h : 0 ≤ x.op ∧ x.op ≤ 3) : ∀ i, i < [x].length → 0 ≤ (LB.am [x] i).op ∧ (LB.am [x] i).op ≤ 3 := by
  intro i hi
  have h0 : i = 0 := by simpa using hi
  subst h0
  exact h

theorem all_one (l : List LB.Lab) (x : LB.Mat) : LB.all l [x] = LB.one l x := by simp [LB.all]

set_option maxRecDepth 100000 in
set_option maxHeartbeats 1600000 in
theorem match_any (ao mo : Option Addr) (l : List LB.Lab) (m : List LB.Mat) (cl cm : Nat) (w : World) (hL : LRow w ao l) (hM : MRow w mo m) (hcm : m.length ≤ cm) :
    Calls Try.prog 5 #[.slice ao l.length cl, .slice mo m.length cm] w fun e w' => e = .returned (.bool true) ∧ Below w.heap.size w w' := by
  have HL := hid hL
  have HM := hid hM
  have H1 := hid (shL_any ao l cl w hL)
  have H2 := hid (shM_any mo m cm w hM)
  clear hL hM
  go_enter Try.func5, Try.ntmps5
  go_wp2_with fail
  refine H1.out.mono ?_
  rintro e w1 ⟨rfl, rfl⟩
  cases h1 : shL l with
  | false =>
    go_wp2_with fail
    go_ret
    exact ⟨rfl, Below.refl _ _⟩
  | true =>
    go_wp2_with fail
    refine H2.out.mono ?_
    rintro e w1 ⟨rfl, rfl⟩
    cases h2 : shM m with
    | false =>
      go_wp2_with fail
      go_ret
      exact ⟨rfl, Below.refl _ _⟩
    | true =>
      have S1 := hid (shL_lenL h1)
      have S2 := hid (shM_lenL h2)
      clear h1 h2 H1 H2
      go_wp2_with fail
      refine (rasked_any mo m cm w1 HM.out (by have := S2.out.1; omega) S2.out.2).mono ?_
      rintro e w2 ⟨rfl, hb2⟩
      have HB2 := hid hb2
      clear hb2
      have HA2 := hid (asked_any mo m cm w2 (HM.out.below HB2.out) (by have := S2.out.1; omega))
      go_wp2_with fail
      refine HA2.out.mono ?_
      rintro e w3 ⟨rfl, hb3⟩
      have HB3 := hid (HB2.out.trans (hb3.mono HB2.out.size))
      clear hb3 HB2 HA2
      cases ha : LB.asked m with
      | false =>
        go_wp2_with fail
        go_ret
        exact ⟨rfl, HB3.out⟩
      | true =>
        have HAM : Hid (∀ i, i < m.length → 0 ≤ (LB.am m i).op ∧ (LB.am m i).op ≤ 3) := fun i hi => asked_memL ha i hi
        clear ha
        have hm20 : m.length ≤ 20 := S2.out.1
        go_wp2_with fail
        go_loopw [6] (fun ti wr => ∃ i : Nat, i ≤ m.length ∧ ti = .int .i64 i ∧ Below w1.heap.size w1 wr) (fun ti _ => m.length - (intOf ti).toNat)
        case atStart => exact ⟨0, by omega, rfl, HB3.out⟩
        case round =>
          obtain ⟨i, hi, rfl, hbel⟩ := hrel
          have HBl := hid hbel
          have hsz := hbel.size
          clear hbel HB3
          by_cases hlt : i < m.length
          · have HOne : Hid (∀ W n1 o1 v1, Below wr.heap.size wr W → Calls Try.prog 31 #[.slice ao l.length cl, .agg #[.string n1, .int .i64 o1, .string v1]] W fun e w' => e = .returned (.bool (LB.one l ⟨n1, o1, v1⟩)) ∧ Below wr.heap.size wr w') := fun W n1 o1 v1 hW =>
              (one_any ao l cl ⟨n1, o1, v1⟩ W (HL.out.below (HBl.out.trans (hW.mono hsz))) (by have := S1.out; omega)).mono fun e w' h => ⟨h.1, hW.trans (h.2.mono hW.size)⟩
            obtain ⟨b, off, hao, hc0, hc1, hc2, hbs⟩ := HM.out i hlt
            subst hao
            have HFit : Hid (∀ W c, Below wr.heap.size wr W → Calls Try.prog 32 #[.slice ao l.length cl, .slice (some ⟨b, off + i * 3, none⟩) 1 c] W fun e w' => e = .returned (.bool (LB.one l (LB.am m i))) ∧ Below wr.heap.size wr w') := fun W c hW => by
              have h := rfits_any ao (some ⟨b, off + i * 3, none⟩) l [LB.am m i] cl c W (HL.out.below (HBl.out.trans (hW.mono hsz))) ((HM.out.below (HBl.out.trans (hW.mono hsz))).slice i hlt) (by have := S1.out; omega) (by simp) (one_op (HAM.out i hlt))
              rw [all_one] at h
              exact h.mono fun e w' h => ⟨h.1, hW.trans (h.2.mono hW.size)⟩
            have hbw : b < wr.heap.size := by omega
            have y0 := (HBl.out.cell (p := ⟨b, off + i * 3, none⟩) hbs).trans hc0
            have y1 := (HBl.out.cell (p := ⟨b, off + i * 3 + 1, none⟩) hbs).trans hc1
            have y2 := (HBl.out.cell (p := ⟨b, off + i * 3 + 2, none⟩) hbs).trans hc2
            clear hc0 hc1 hc2
            generalize LB.am m i = x at *
            obtain ⟨nm, op, vl⟩ := x
            simp only at y0 y1 y2
            have HBd : Hid (Below wr.heap.size wr wr.drew) := below_drewN (Below.refl _ _) 1
            have f1 : (0 : Int) ≤ (i : Int) + 1 ∧ (i : Int) + 1 ≤ (cm : Int) := by omega
            have f3 : ¬ cm = i := by omega
            have f7 : wrap64 ((i : Int) + 1) = (i : Int) + 1 := by unfold wrap64; omega
            have f8 : IntKind.i64.wrap ((i : Int) + 1) = (i : Int) + 1 := by rw [IntKind.wrap_i64]; omega
            have f4 : ((i : Int) + 1).toNat = i + 1 := by omega
            have HF2 : Hid (∀ W c, Below wr.heap.size wr W → Calls Try.prog 32 #[.slice ao l.length cl, .slice (some ⟨b, off + i * 3, none⟩) 1 c] W fun e w' => e = .returned (.bool (LB.one l ⟨nm, op, vl⟩)) ∧ Below wr.heap.size wr w') := HFit.out
            clear HFit
            go_wp2_with fail
            go_region_with (first | (go_at_call 31; refine (HOne.out _ _ _ _ (by first | exact HB6.out | exact HBd.out)).mono ?_; rintro e w6 ⟨rfl, hb6⟩; have HB6 := hid hb6; clear hb6) | (go_at_call 32; refine (HF2.out _ _ (by first | exact HB6.out | exact HBd.out)).mono ?_; rintro e w6 ⟨rfl, hb6⟩; have HB6 := hid hb6; clear hb6))
            all_goals
              simp only [List.getElem_toArray, List.getElem_cons_succ, List.getElem_cons_zero]
              go_frame
              have HB7 := hid (HBl.out.trans (HB6.out.mono hsz))
              clear HB6 HOne HF2
              generalize LB.one l ⟨nm, op, vl⟩ = o at *
              cases o
              · go_wp2_with fail
                go_roundw
                case rel => exact ⟨i + 1, by omega, by go_num, HB7.out⟩
                case measure => simp [intOf]; omega
              · go_wp2_with fail
                go_roundw
                case rel => exact ⟨i + 1, by omega, by go_num, HB7.out⟩
                case measure => simp [intOf]; omega
          · have he : i = m.length := by omega
            subst he
            have HC1 := hid (all_any ao mo l m cl cm wr (HL.out.below HBl.out) (HM.out.below HBl.out) (by have := S1.out; omega) (by omega))
            have HC2 : Hid (∀ W, Below w1.heap.size w1 W → Calls Try.prog 32 #[.slice ao l.length cl, .slice mo m.length cm] W fun e w' => e = .returned (.bool (LB.all l m)) ∧ Below w1.heap.size w1 w') := fun W hW =>
              (rfits_any ao mo l m cl cm W (HL.out.below hW) (HM.out.below hW) (by have := S1.out; omega) (by omega) HAM.out).mono fun e w' h => ⟨h.1, hW.trans (h.2.mono hW.size)⟩
            generalize LB.all l m = A at *
            go_wp2_with fail
            refine HC1.out.mono ?_
            rintro e w4 ⟨rfl, hb4⟩
            have HB4 := hid (HBl.out.trans (hb4.mono hsz))
            clear hb4 HC1
            go_wp2_with fail
            refine (HC2.out _ HB4.out).mono ?_
            rintro e w5 ⟨rfl, hb5⟩
            have HB5 := hid hb5
            clear hb5 HC2
            cases A
            · go_wp2_with fail
              go_ret
              exact ⟨rfl, HB5.out⟩
            · go_wp2_with fail
              go_ret
              exact ⟨rfl, HB5.out⟩

end Go.Proofs.Ytdmnlmohfaafoab
