/- LabelNot: a matcher or its opposite holds, and never both; and more matchers hold of less. -/
import Derived.Test.YtdmnlmohfaafoacLbCalled
import Derived.Test.YtdmnlmohfaafoacLbApp
namespace Go.Proofs.Ytdmnlmohfaafoac
open Go.RowKit

theorem opp_ix0 (w : World) : Sem.run Try.prog (Instr.index 33 (.agg #[.int .i64 1, .int .i64 0, .int .i64 3, .int .i64 2]) (.int .i64 0)) w = .ok (.int .i64 1) w := by kernel_rfl

theorem opp_ix1 (w : World) : Sem.run Try.prog (Instr.index 33 (.agg #[.int .i64 1, .int .i64 0, .int .i64 3, .int .i64 2]) (.int .i64 1)) w = .ok (.int .i64 0) w := by kernel_rfl

theorem opp_ix2 (w : World) : Sem.run Try.prog (Instr.index 33 (.agg #[.int .i64 1, .int .i64 0, .int .i64 3, .int .i64 2]) (.int .i64 2)) w = .ok (.int .i64 3) w := by kernel_rfl

theorem opp_ix3 (w : World) : Sem.run Try.prog (Instr.index 33 (.agg #[.int .i64 1, .int .i64 0, .int .i64 3, .int .i64 2]) (.int .i64 3)) w = .ok (.int .i64 2) w := by kernel_rfl

theorem opp_ix (n : Int) (h : 0 ≤ n ∧ n ≤ 3) (w : World) : Sem.run Try.prog (Instr.index 33 (.agg #[.int .i64 1, .int .i64 0, .int .i64 3, .int .i64 2]) (.int .i64 n)) w = .ok (.int .i64 (LB.opp n)) w := by
  have h4 : n = 0 ∨ n = 1 ∨ n = 2 ∨ n = 3 := by omega
  rcases h4 with rfl | rfl | rfl | rfl
  · exact opp_ix0 w
  · exact opp_ix1 w
  · exact opp_ix2 w
  · exact opp_ix3 w

set_option maxRecDepth 100000 in
set_option maxHeartbeats 1600000 in
theorem not_any (ao mo no : Option Addr) (l : List LB.Lab) (m n : List LB.Mat) (cl cm cn : Nat) (w : World) (hL : LRow w ao l) (hM : MRow w mo m) (hN : MRow w no n) (hcm : mo = none → cm = 0) (hcn : no = none → cn = 0) :
    Calls Try.prog 4 #[.slice ao l.length cl, .slice mo m.length cm, .slice no n.length cn] w fun e w' => e = .returned (.bool true) ∧ Below w.heap.size w w' := by
  have HL := hid hL
  have HM := hid hM
  have HN := hid hN
  have HCM := hid hcm
  have HCN := hid hcn
  clear hcm hcn
  have H1 := hid (shL_any ao l cl w hL)
  have H2 := hid (shM_any mo m cm w hM)
  have H3 := hid (shM_any no n cn w hN)
  clear hL hM hN
  go_enter Try.func4, Try.ntmps4
  go_wp2_with fail
  refine H1.out.mono ?_
  rintro e w1 ⟨rfl, rfl⟩
  cases h1 : shL l with
  | false =>
    go_wp2_with fail
    go_ret
    exact ⟨rfl, Below.refl _ _⟩
  | true =>
    go_wp2_with fail
    refine H2.out.mono ?_
    rintro e w1 ⟨rfl, rfl⟩
    cases h2 : shM m with
    | false =>
      go_wp2_with fail
      go_ret
      exact ⟨rfl, Below.refl _ _⟩
    | true =>
      go_wp2_with fail
      refine H3.out.mono ?_
      rintro e w1 ⟨rfl, rfl⟩
      cases h3 : shM n with
      | false =>
        go_wp2_with fail
        go_ret
        exact ⟨rfl, Below.refl _ _⟩
      | true =>
        have S1 : Hid (l.length ≤ 20) := (of_decide_eq_true (show decide (l.length ≤ 20 ∧ ∀ i, i < l.length → (LB.at' l i).1.size ≤ 60 ∧ (LB.at' l i).2.size ≤ 60) = true from h1)).1
        have S2 := hid (shM_len h2)
        have S3 := hid (shM_len h3)
        clear h1 h2 h3 H1 H2 H3
        go_wp2_with fail
        refine (called_any _).mono ?_
        rintro e w2 ⟨rfl, hb2⟩
        have HB2 := hid hb2
        have HA2 := hid (asked_any mo m cm w2 (HM.out.below hb2) (by have := S2.out; omega))
        clear hb2
        go_wp2_with fail
        refine HA2.out.mono ?_
        rintro e w3 ⟨rfl, hb3⟩
        have HB3 := hid (HB2.out.trans (hb3.mono HB2.out.size))
        clear hb3 HB2 HA2
        cases ha : LB.asked m with
        | false =>
          go_wp2_with fail
          go_ret
          exact ⟨rfl, HB3.out⟩
        | true =>
          have HAM : Hid (∀ i, i < m.length → 0 ≤ (LB.am m i).op ∧ (LB.am m i).op ≤ 3) := fun i hi => asked_mem ha i hi
          clear ha
          have HA3 := hid (asked_any no n cn w3 (HN.out.below HB3.out) (by have := S3.out; omega))
          go_wp2_with fail
          refine HA3.out.mono ?_
          rintro e w4 ⟨rfl, hb4⟩
          have HB4 := hid (HB3.out.trans (hb4.mono HB3.out.size))
          clear hb4 HB3 HA3
          cases ha : LB.asked n with
          | false =>
            go_wp2_with fail
            go_ret
            exact ⟨rfl, HB4.out⟩
          | true =>
            clear ha
            have hm20 : m.length ≤ 20 := S2.out
            go_wp2_with fail
            go_loopw [7] (fun ti wr => ∃ i : Nat, i ≤ m.length ∧ ti = .int .i64 i ∧ Below w1.heap.size w1 wr) (fun ti _ => m.length - (intOf ti).toNat)
            case atStart => exact ⟨0, by omega, rfl, HB4.out⟩
            case round =>
              obtain ⟨i, hi, rfl, hbel⟩ := hrel
              have HBl := hid hbel
              have hsz := hbel.size
              clear hbel HB4
              by_cases hlt : i < m.length
              · obtain ⟨b, off, hao, hc0, hc1, hc2, hbs⟩ := HM.out i hlt
                subst hao
                have hcell0 := (HBl.out.cell (p := ⟨b, off + i * 3, none⟩) hbs).trans hc0
                have hcell1 := (HBl.out.cell (p := ⟨b, off + i * 3 + 1, none⟩) hbs).trans hc1
                have hcell2 := (HBl.out.cell (p := ⟨b, off + i * 3 + 2, none⟩) hbs).trans hc2
                clear hc0 hc1 hc2
                have hop := HAM.out i hlt
                have HO := hid (LB.one_opp l (LB.am m i) hop)
                generalize LB.am m i = x at *
                obtain ⟨nm, op, vl⟩ := x
                simp only at hop hcell0 hcell1 hcell2 HO
                have hix := opp_ix op hop
                clear hop
                go_wp2_with fail
                have hb5 : Below w1.heap.size w1 (wr.alloc (.cells #[.string nm, .int .i64 (LB.opp op), .string vl] 32)) := HBl.out.alloc hsz _
                have x0 : (wr.alloc (.cells #[.string nm, .int .i64 (LB.opp op), .string vl] 32)).cell? ⟨wr.heap.size, 0, none⟩ = some (.string nm) := by simp
                have x1 : (wr.alloc (.cells #[.string nm, .int .i64 (LB.opp op), .string vl] 32)).cell? ⟨wr.heap.size, 1, none⟩ = some (.int .i64 (LB.opp op)) := by simp
                have x2 : (wr.alloc (.cells #[.string nm, .int .i64 (LB.opp op), .string vl] 32)).cell? ⟨wr.heap.size, 2, none⟩ = some (.string vl) := by simp
                have hbr : b < wr.heap.size := by omega
                have hbs5 : b < (wr.alloc (.cells #[.string nm, .int .i64 (LB.opp op), .string vl] 32)).heap.size := by simp; omega
                have y0 : (wr.alloc (.cells #[.string nm, .int .i64 (LB.opp op), .string vl] 32)).cell? ⟨b, off + i * 3, none⟩ = some (.string nm) := (World.cell?_alloc_past _ b _ hbr).trans hcell0
                have y1 : (wr.alloc (.cells #[.string nm, .int .i64 (LB.opp op), .string vl] 32)).cell? ⟨b, off + i * 3 + 1, none⟩ = some (.int .i64 op) := (World.cell?_alloc_past _ b _ hbr).trans hcell1
                have y2 : (wr.alloc (.cells #[.string nm, .int .i64 (LB.opp op), .string vl] 32)).cell? ⟨b, off + i * 3 + 2, none⟩ = some (.string vl) := (World.cell?_alloc_past _ b _ hbr).trans hcell2
                clear hcell0 hcell1 hcell2 hix
                generalize wr.alloc (.cells #[.string nm, .int .i64 (LB.opp op), .string vl] 32) = w5 at *
                have HB5 := hid hb5
                clear hb5
                have hsz5 := HB5.out.size
                have HCx : Hid (∀ W n1 o1 v1, Below w5.heap.size w5 W → Calls Try.prog 15 #[.slice ao l.length cl, .agg #[.string n1, .int .i64 o1, .string v1]] W fun e w' => e = .returned (.bool (LB.one l ⟨n1, o1, v1⟩)) ∧ Below w5.heap.size w5 w') := fun W n1 o1 v1 hW =>
                  (one_any ao l cl ⟨n1, o1, v1⟩ W (HL.out.below (HB5.out.trans (hW.mono hsz5))) (by have := S1.out; omega)).mono fun e w' h => ⟨h.1, hW.trans (h.2.mono hW.size)⟩
                generalize LB.opp op = op' at *
                have HBd : Hid (Below w5.heap.size w5 w5.drew) := below_drewN (Below.refl _ _) 1
                go_region_with (go_at_call 15; refine (HCx.out _ _ _ _ (by first | exact HB6.out | exact HBd.out)).mono ?_; rintro e w6 ⟨rfl, hb6⟩; have q0 := (hb6.cell (p := ⟨b, off + i * 3, none⟩) hbs5).trans y0; have q1 := (hb6.cell (p := ⟨b, off + i * 3 + 1, none⟩) hbs5).trans y1; have q2 := (hb6.cell (p := ⟨b, off + i * 3 + 2, none⟩) hbs5).trans y2; have HB6 := hid hb6; clear hb6)
                all_goals
                  simp only [List.getElem_toArray, List.getElem_cons_succ, List.getElem_cons_zero]
                  go_frame
                  rw [HO.out]
                  have HB7 := hid (HB5.out.trans (HB6.out.mono hsz5))
                  clear HB6 HO HCx
                  generalize LB.one l ⟨nm, op, vl⟩ = o at *
                  cases o
                  · go_wp2_with fail
                    go_roundw
                    case rel => exact ⟨i + 1, by omega, by go_num, HB7.out⟩
                    case measure => simp [intOf]; omega
                  · go_wp2_with fail
                    go_roundw
                    case rel => exact ⟨i + 1, by omega, by go_num, HB7.out⟩
                    case measure => simp [intOf]; omega
              · have he : i = m.length := by omega
                subst he
                obtain ⟨ii, hii, hi'⟩ := Option.map_eq_some_iff.1 Try.info32
                simp only [Prod.mk.injEq] at hi'
                obtain ⟨hz0, hz1, hz2⟩ := hi'
                have HI0 := hid hii
                have HZ0 := hid hz0
                have HZ1 := hid hz1
                have HZ2 := hid hz2
                clear hii hz0 hz1 hz2
                have HO11 := hid (empty_rowM wr)
                have HB11 : Hid (Below wr.heap.size wr (wr.alloc (.cells #[] 32))) := (Below.refl _ _).alloc (Nat.le_refl _) _
                have HMr := hid (HM.out.below HBl.out)
                have HNr := hid (HN.out.below HBl.out)
                have hn20 : n.length ≤ 20 := S3.out
                have HNM : Hid (mo = none → m.length = 0) := fun h => by
                  rcases Nat.eq_zero_or_pos m.length with h0 | h0
                  · exact h0
                  · obtain ⟨b, off, e, _⟩ := HM.out 0 h0
                    rw [h] at e; cases e
                have HNN : Hid (no = none → n.length = 0) := fun h => by
                  rcases Nat.eq_zero_or_pos n.length with h0 | h0
                  · exact h0
                  · obtain ⟨b, off, e, _⟩ := HN.out 0 h0
                    rw [h] at e; cases e
                go_wp2_with (first
                  | (at_builtin; refine wpList_append_src _ rfl (.tmp 58) (.tmp 59) 29 rfl wr.heap.size 32 ii (.agg #[.string ⟨#[]⟩, .int .i64 0, .string ⟨#[]⟩]) 3 40 Try.underlying29 HI0.out HZ0.out HZ1.out HZ2.out rfl (by decide) (.slice (some ⟨wr.heap.size, 0, none⟩) 0 0) 0 [] rfl HO11.out mo m.length cm (mrv m) rfl (mrv_length _) (fun h => ⟨HNM.out h, HCM.out h⟩) (mrow_cells (HMr.out.below HB11.out)) (mrv_one _) (by unfold maxLen; omega) (by omega) HB11.out.size ?_; intro v12 w12 hown12 hgrow12; have HO12 := hid hown12; have HB12 := hid (HB11.out.grown hgrow12 HB11.out.size (fun j hj => (HO11.out.lt j hj).1)); clear hown12 hgrow12)
                  | (at_builtin; refine wpList_append_src _ rfl (.tmp 60) (.tmp 61) 29 rfl wr.heap.size 32 ii (.agg #[.string ⟨#[]⟩, .int .i64 0, .string ⟨#[]⟩]) 3 40 Try.underlying29 HI0.out HZ0.out HZ1.out HZ2.out rfl (by decide) v12 (0 + m.length) ([] ++ mrv m) rfl HO12.out no n.length cn (mrv n) rfl (mrv_length _) (fun h => ⟨HNN.out h, HCN.out h⟩) (mrow_cells (HNr.out.below HB12.out)) (mrv_one _) (by unfold maxLen; omega) (by omega) HB12.out.size ?_; intro v13 w13 hown13 hgrow13; have HO13 := hid (own_bothM hown13); have HB13 := hid (HB12.out.grown hgrow13 HB12.out.size (fun j hj => (HO12.out.lt j hj).1)); clear hown13 hgrow13))
                obtain ⟨a13, c13, hv13, hS13⟩ := MRow.of_own HO13.out
                subst hv13
                have HB14 := hid (HBl.out.trans (HB13.out.mono hsz))
                have HAL : Hid (LB.all l (m ++ n) = (LB.all l m && LB.all l n)) := LB.all_append l m n
                have HA0 : Hid (LB.all l [] = true) := rfl
                have HCa : Hid (∀ W, Below w1.heap.size w1 W → Calls Try.prog 16 #[.slice ao l.length cl, .slice mo m.length cm] W fun e w' => e = .returned (.bool (LB.all l m)) ∧ Below w1.heap.size w1 w') := fun W hW =>
                  (all_any ao mo l m cl cm W (HL.out.below hW) (HM.out.below hW) (by have := S1.out; omega) (by omega)).mono fun e w' h => ⟨h.1, hW.trans (h.2.mono hW.size)⟩
                have HCb : Hid (∀ W, Below w1.heap.size w1 W → Calls Try.prog 16 #[.slice ao l.length cl, .slice no n.length cn] W fun e w' => e = .returned (.bool (LB.all l n)) ∧ Below w1.heap.size w1 w') := fun W hW =>
                  (all_any ao no l n cl cn W (HL.out.below hW) (HN.out.below hW) (by have := S1.out; omega) (by omega)).mono fun e w' h => ⟨h.1, hW.trans (h.2.mono hW.size)⟩
                have HCc : Hid (∀ W, Below w1.heap.size w1 W → Calls Try.prog 16 #[.slice ao l.length cl, .slice none 0 0] W fun e w' => e = .returned (.bool (LB.all l [])) ∧ Below w1.heap.size w1 w') := fun W hW =>
                  (all_any ao none l [] cl 0 W (HL.out.below hW) (fun i hi => by simp at hi) (by have := S1.out; omega) (by simp)).mono fun e w' h => ⟨h.1, hW.trans (h.2.mono hW.size)⟩
                have HC0 := hid (all_any ao a13 l (m ++ n) cl c13 w13 (HL.out.below HB14.out) hS13 (by have := S1.out; omega) (by rw [List.length_append]; omega))
                clear hS13 HO13 HB13 HO12 HB12 HO11 HB11 HMr HNr HNM HNN HI0 HZ0 HZ1 HZ2 HBl HAM
                refine HC0.out.mono ?_
                rintro e w14 ⟨rfl, hb14⟩
                have HB15 := hid (HB14.out.trans (hb14.mono HB14.out.size))
                clear hb14 HB14 HC0
                rw [HAL.out]
                rw [HA0.out] at HCc
                clear HAL HA0
                generalize LB.all l m = A at *
                generalize LB.all l n = B at *
                go_wp2_with fail
                refine (HCa.out _ HB15.out).mono ?_
                rintro e w15 ⟨rfl, hb16⟩
                have HB16 := hid hb16
                clear hb16 HB15
                cases A
                · go_wp2_with fail
                  refine (HCc.out _ HB16.out).mono ?_
                  rintro e w17 ⟨rfl, hb17⟩
                  have HB17 := hid hb17
                  clear hb17
                  go_wp2_with fail
                  go_ret
                  exact ⟨rfl, HB17.out⟩
                · go_wp2_with fail
                  refine (HCb.out _ HB16.out).mono ?_
                  rintro e w17 ⟨rfl, hb17⟩
                  have HB17 := hid hb17
                  clear hb17
                  cases B
                  · go_wp2_with fail
                    refine (HCc.out _ HB17.out).mono ?_
                    rintro e w18 ⟨rfl, hb18⟩
                    have HB18 := hid hb18
                    clear hb18
                    go_wp2_with fail
                    go_ret
                    exact ⟨rfl, HB18.out⟩
                  · go_wp2_with fail
                    refine (HCc.out _ HB17.out).mono ?_
                    rintro e w18 ⟨rfl, hb18⟩
                    have HB18 := hid hb18
                    clear hb18
                    go_wp2_with fail
                    go_ret
                    exact ⟨rfl, HB18.out⟩

end Go.Proofs.Ytdmnlmohfaafoac
