/- The document's Right of a block (made by mkbk.py). -/
import Derived.Test.YtdmnlmohfaafoaeGreatDoorPTBkByt
import Derived.Test.YtdmnlmohfaafoaeGreatDoorPTCxRefL
import Derived.Test.YtdmnlmohfaafoaeGreatDoorPTCxRefC
import Derived.Test.YtdmnlmohfaafoaeGreatDoorPTChRefW
import Derived.Test.YtdmnlmohfaafoaeGreatDoorPTBkQ
import Derived.Deep.CutRange
import Derived.Deep.DeepCutAuto
namespace Go.Proofs.YtdmnlmohfaafoaeGreatDoor
open Go.RowKit

theorem bk_in (x lo hi : Int) (w : World) :
    Calls Tryz.prog 33 #[.int .i64 x, .int .i64 lo, .int .i64 hi] w fun e w' => e = .returned (.bool (decide (lo ≤ x ∧ x ≤ hi))) ∧ w' = w := lrin_any x lo hi w

set_option maxRecDepth 100000 in
set_option maxHeartbeats 3200000 in
theorem rbright_any (ao : Option Addr) (S : List Sr) (cap : Nat) (tp old : Int) (w : World) (hS : SrRow w ao S) (hn : S.length ≤ 100000) (hls : ∀ i, i < S.length → (atSr S i).1.length ≤ 1000 ∧ (atSr S i).2.length ≤ 100000) (hsh : ∀ i, i < S.length → Shrt (atSr S i).1) :
    Calls Tryz.prog 10 #[.agg #[.int .i64 tp, .int .i64 old, .slice ao S.length cap]] w fun e w' => e = .returned (.bool (BK.right tp old S)) ∧ Below w.heap.size w w' := by
  have HS := hid hS
  have HLs := hid hls
  have HSh := hid hsh
  have hb0 : Below w.heap.size w (w.alloc (.cells #[.int .i64 tp, .int .i64 old, .slice ao S.length cap] 25)) := (Below.refl _ w).alloc (Nat.le_refl _) _
  have HA := hid (And.intro hb0 (heap_alloc_new w (.cells #[.int .i64 tp, .int .i64 old, .slice ao S.length cap] 25)))
  clear hS hls hsh hb0
  go_enter Tryz.func10, Tryz.ntmps10
  go_wp2_with fail
  go_loopw [9] (fun ti wr => ∃ i : Nat, i ≤ S.length ∧ ti = .int .i64 i ∧ Below w.heap.size w wr ∧ wr.heap[w.heap.size]? = some (.cells #[.int .i64 tp, .int .i64 old, .slice ao S.length cap] 25) ∧ BK.Ok tp S i) (fun ti _ => S.length - (intOf ti).toNat)
  case atStart => exact ⟨0, Nat.zero_le _, rfl, HA.out.1, HA.out.2, fun k hk => by omega⟩
  case round =>
    clear HA
    obtain ⟨i, hi, rfl, hbel, hbox, hok⟩ := hrel
    have HBl := hid hbel
    have HBox := hid hbox
    have HOk := hid hok
    clear hbel hbox hok
    by_cases hlt : i < S.length
    · obtain ⟨b, off, hao, hbs, lo, lc, so, sc, d0, d1, hLR, hSR⟩ := HS.out i hlt
      subst hao
      have c0 : wr.cell? ⟨b, off + i * 2, none⟩ = some (.slice lo (atSr S i).1.length lc) := (HBl.out.cell (p := ⟨b, _, none⟩) hbs).trans d0
      have c1 : wr.cell? ⟨b, off + i * 2 + 1, none⟩ = some (.slice so (atSr S i).2.length sc) := (HBl.out.cell (p := ⟨b, _, none⟩) hbs).trans d1
      obtain ⟨hl1, hl2⟩ := HLs.out i hlt
      have HLR := hid (hLR.below HBl.out)
      have HSR := hid (hSR.below HBl.out)
      have HShx := hid (HSh.out i hlt)
      have HBad := hid (fun h => BK.right_bad (tp := tp) (old := old) hlt h)
      have HNx := hid (fun h => HOk.out.next (i := i) h)
      have hpv : 0 < i → ∃ lp lpc, w.cell? ⟨b, off + (i - 1) * 2, none⟩ = some (.slice lp (atSr S (i - 1)).1.length lpc) ∧ LRow w lp (atSr S (i - 1)).1 ∧ (atSr S (i - 1)).1.length ≤ 1000 := fun h0 => by
        obtain ⟨b2, off2, e, _, lp, lpc, _, _, e0, _, h3, _⟩ := HS.out (i - 1) (by omega)
        cases e
        exact ⟨lp, lpc, e0, h3, (HLs.out (i - 1) (by omega)).1⟩
      have HPv := hid hpv
      generalize atSr S i = x at *
      have hil : 0 ≤ (i : Int) ∧ (i : Int) < (S.length : Int) := by omega
      have hbx : Below wr.heap.size wr (wr.alloc (.cells #[.slice lo x.1.length lc, .slice so x.2.length sc] 61)) := (Below.refl _ wr).alloc (Nat.le_refl _) _
      have HB1 := hid (HBl.out.trans (hbx.mono HBl.out.size))
      have HX1 := hid (heap_alloc_new wr (.cells #[.slice lo x.1.length lc, .slice so x.2.length sc] 61))
      have HB2 := hid ((hbx.block _ (heap_lt HBox.out)).trans HBox.out)
      have HLR1 := hid (HLR.out.below hbx)
      have HSR1 := hid (HSR.out.below hbx)
      clear d0 d1 hLR hSR hpv hbx
      go_upto_region 5 with fail
      generalize wr.alloc (.cells #[.slice lo x.1.length lc, .slice so x.2.length sc] 61) = w1 at HB1 HX1 HB2 HLR1 HSR1 ⊢
      generalize wr.heap.size = bx at HX1 ⊢
      clear c0 c1 HLR HSR HBox HBl
      have HX : Hid (∀ W, Below w1.heap.size w1 W → W.cell? ⟨bx, 0, none⟩ = some (.slice lo x.1.length lc) ∧ W.cell? ⟨bx, 1, none⟩ = some (.slice so x.2.length sc)) := fun W hW =>
        have h := (hW.block bx (heap_lt HX1.out)).trans HX1.out
        ⟨zcell1 _ _ _ _ h 0 _ rfl, zcell1 _ _ _ _ h 1 _ rfl⟩
      have HB0 : Hid (∀ W, Below w1.heap.size w1 W → W.cell? ⟨w.heap.size, 0, none⟩ = some (.int .i64 tp) ∧ W.cell? ⟨w.heap.size, 2, none⟩ = some (.slice (some ⟨b, off, none⟩) S.length cap)) := fun W hW =>
        have h := (hW.block _ (heap_lt HB2.out)).trans HB2.out
        ⟨zcell1 _ _ _ _ h 0 _ rfl, zcell1 _ _ _ _ h 2 _ rfl⟩
      obtain ⟨R1, hR1⟩ : ∃ R1, LB.right x.1 = R1 := ⟨_, rfl⟩
      obtain ⟨R2, hR2⟩ : ∃ R2, CL.right x.2 = R2 := ⟨_, rfl⟩
      have HLb : Hid (∀ W, Below w1.heap.size w1 W → Calls Tryz.prog 30 #[.slice lo x.1.length lc] W fun e w' => e = .returned (.bool R1) ∧ Below w1.heap.size w1 w') := fun W hW => (rlabels_any lo x.1 lc W (HLR1.out.below hW) (by omega) HShx.out).mono fun e w' h => ⟨by rw [h.1, hR1], hW.trans (h.2.mono hW.size)⟩
      have HSm : Hid (∀ W, Below w1.heap.size w1 W → Calls Tryz.prog 31 #[.slice so x.2.length sc] W fun e w' => e = .returned (.bool R2) ∧ Below w1.heap.size w1 w') := fun W hW => (rsamples_any so x.2 sc W (HSR1.out.below hW) (by omega)).mono fun e w' h => ⟨by rw [h.1, hR2], hW.trans (h.2.mono hW.size)⟩
      have HR1 := hid hR1
      have HR2 := hid hR2
      clear hR1 hR2
      rcases R1 with _ | _
      · have HG := hid (HBad.out (.inl (BK.okS_lab HR1.out)))
        refine wp_region_class (fun W => Below w1.heap.size w1 W) (by kernel_rfl) (by kernel_rfl) (Below.refl _ w1).drew ?_
        refine q_run (.pointer (some ⟨bx, 0, none⟩)) (by kernel_rfl) (fun W hW => by kernel_rfl) ?_
        go_frame
        refine q_load (.slice lo x.1.length lc) (by kernel_rfl) rfl (by kernel_rfl) (fun W hW => bk_ldL _ _ _ _ _ W (HX.out W hW).1) ?_
        go_frame
        refine q_call (.bool false) (by kernel_rfl) (fun W => by kernel_rfl) (HLb.out) ?_
        go_frame
        refine q_run (.bool true) (by kernel_rfl) (fun W hW => by kernel_rfl) ?_
        go_frame
        refine q_run_skip (.bool true) 4 (by kernel_rfl) (fun W hW => by kernel_rfl) (by kernel_rfl) ?_
        simp only [List.drop_succ_cons, List.drop_zero, List.take_succ_cons, List.take_zero, putU]
        go_frame
        refine q_run (.bool true) (by kernel_rfl) (fun W hW => by kernel_rfl) ?_
        go_frame
        refine q_run_skip (.bool true) 2 (by kernel_rfl) (fun W hW => by kernel_rfl) (by kernel_rfl) ?_
        simp only [List.drop_succ_cons, List.drop_zero, List.take_succ_cons, List.take_zero, putU]
        go_frame
        refine q_run (.bool true) (by kernel_rfl) (fun W hW => by kernel_rfl) ?_
        go_frame
        refine q_run_skip (.bool true) 10 (by kernel_rfl) (fun W hW => by kernel_rfl) (by kernel_rfl) ?_
        simp only [List.drop_succ_cons, List.drop_zero, List.take_succ_cons, List.take_zero, putU]
        go_frame
        refine q_run (.bool true) (by kernel_rfl) (fun W hW => by kernel_rfl) ?_
        go_frame
        refine q_run_skip (.bool true) 15 (by kernel_rfl) (fun W hW => by kernel_rfl) (by kernel_rfl) ?_
        simp only [List.drop_succ_cons, List.drop_zero, List.take_succ_cons, List.take_zero, putU]
        go_frame
        refine q_run (.bool true) (by kernel_rfl) (fun W hW => by kernel_rfl) ?_
        go_frame
        refine wpQuiet_nil ?_
        intro w2 hb2
        have HE := hid (HB1.out.trans (hb2.mono HB1.out.size))
        clear hb2
        go_wp2_with fail
        go_ret
        exact ⟨by rw [HG.out]; rfl, HE.out⟩
      · rcases R2 with _ | _
        · have HG := hid (HBad.out (.inl (BK.okS_smp HR2.out)))
          refine wp_region_class (fun W => Below w1.heap.size w1 W) (by kernel_rfl) (by kernel_rfl) (Below.refl _ w1).drew ?_
          refine q_run (.pointer (some ⟨bx, 0, none⟩)) (by kernel_rfl) (fun W hW => by kernel_rfl) ?_
          go_frame
          refine q_load (.slice lo x.1.length lc) (by kernel_rfl) rfl (by kernel_rfl) (fun W hW => bk_ldL _ _ _ _ _ W (HX.out W hW).1) ?_
          go_frame
          refine q_call (.bool true) (by kernel_rfl) (fun W => by kernel_rfl) (HLb.out) ?_
          go_frame
          refine q_run (.bool false) (by kernel_rfl) (fun W hW => by kernel_rfl) ?_
          go_frame
          refine q_run (.bool false) (by kernel_rfl) (fun W hW => by kernel_rfl) ?_
          go_frame
          refine q_run (.pointer (some ⟨bx, 1, none⟩)) (by kernel_rfl) (fun W hW => by kernel_rfl) ?_
          go_frame
          refine q_load (.slice so x.2.length sc) (by kernel_rfl) rfl (by kernel_rfl) (fun W hW => bk_ldS _ _ _ _ _ W (HX.out W hW).2) ?_
          go_frame
          refine q_call (.bool false) (by kernel_rfl) (fun W => by kernel_rfl) (HSm.out) ?_
          go_frame
          refine q_run (.bool true) (by kernel_rfl) (fun W hW => by kernel_rfl) ?_
          go_frame
          refine q_run (.bool true) (by kernel_rfl) (fun W hW => by kernel_rfl) ?_
          go_frame
          refine q_run_skip (.bool true) 2 (by kernel_rfl) (fun W hW => by kernel_rfl) (by kernel_rfl) ?_
          simp only [List.drop_succ_cons, List.drop_zero, List.take_succ_cons, List.take_zero, putU]
          go_frame
          refine q_run (.bool true) (by kernel_rfl) (fun W hW => by kernel_rfl) ?_
          go_frame
          refine q_run_skip (.bool true) 10 (by kernel_rfl) (fun W hW => by kernel_rfl) (by kernel_rfl) ?_
          simp only [List.drop_succ_cons, List.drop_zero, List.take_succ_cons, List.take_zero, putU]
          go_frame
          refine q_run (.bool true) (by kernel_rfl) (fun W hW => by kernel_rfl) ?_
          go_frame
          refine q_run_skip (.bool true) 15 (by kernel_rfl) (fun W hW => by kernel_rfl) (by kernel_rfl) ?_
          simp only [List.drop_succ_cons, List.drop_zero, List.take_succ_cons, List.take_zero, putU]
          go_frame
          refine q_run (.bool true) (by kernel_rfl) (fun W hW => by kernel_rfl) ?_
          go_frame
          refine wpQuiet_nil ?_
          intro w2 hb2
          have HE := hid (HB1.out.trans (hb2.mono HB1.out.size))
          clear hb2
          go_wp2_with fail
          go_ret
          exact ⟨by rw [HG.out]; rfl, HE.out⟩
        · by_cases hpos : 0 < x.2.length
          · have hpz : ¬ (x.2.length : Int) = 0 := by omega
            have hz0 : ((x.2.length : Int) == 0) = false := by simp only [beq_eq_false_iff_ne, ne_eq]; omega
            obtain ⟨b', off', hso, f0, _, hfs⟩ := HSR1.out (x.2.length - 1) (by omega)
            subst hso
            obtain ⟨lt, hlt2⟩ : ∃ lt, (CL.at' x.2 (x.2.length - 1)).1 = lt := ⟨_, rfl⟩
            rw [hlt2] at f0
            have HLt2 := hid hlt2
            have HLt : Hid (∀ W, Below w1.heap.size w1 W → W.cell? ⟨b', off' + (x.2.length - 1) * 2, none⟩ = some (.int .i64 lt)) := fun W hW => (hW.cell (p := ⟨b', _, none⟩) hfs).trans f0
            have hw1 : IntKind.i64.wrap ((x.2.length : Int) - 1) = (x.2.length : Int) - 1 := by rw [IntKind.wrap_i64]; omega
            clear f0 hlt2 hfs
            by_cases hle : lt ≤ tp
            · have hle' : ¬ tp < lt := by omega
              have HOkx := hid (BK.okS_yes HR1.out HR2.out hpos (by rw [HLt2.out]; exact hle))
              by_cases hi0 : i = 0
              · have HI0 : Hid (i = 0) := hi0
                have HNx' := hid (HNx.out HOkx.out (fun h => by omega))
                clear hi0 HPv HNx
                refine wp_region_class (fun W => Below w1.heap.size w1 W) (by kernel_rfl) (by kernel_rfl) (Below.refl _ w1).drew ?_
                refine q_run (.pointer (some ⟨bx, 0, none⟩)) (by kernel_rfl) (fun W hW => by kernel_rfl) ?_
                go_frame
                refine q_load (.slice lo x.1.length lc) (by kernel_rfl) rfl (by kernel_rfl) (fun W hW => bk_ldL _ _ _ _ _ W (HX.out W hW).1) ?_
                go_frame
                refine q_call (.bool true) (by kernel_rfl) (fun W => by kernel_rfl) (HLb.out) ?_
                go_frame
                refine q_run (.bool false) (by kernel_rfl) (fun W hW => by kernel_rfl) ?_
                go_frame
                refine q_run (.bool false) (by kernel_rfl) (fun W hW => by kernel_rfl) ?_
                go_frame
                refine q_run (.pointer (some ⟨bx, 1, none⟩)) (by kernel_rfl) (fun W hW => by kernel_rfl) ?_
                go_frame
                refine q_load (.slice (some ⟨b', off', none⟩) x.2.length sc) (by kernel_rfl) rfl (by kernel_rfl) (fun W hW => bk_ldS _ _ _ _ _ W (HX.out W hW).2) ?_
                go_frame
                refine q_call (.bool true) (by kernel_rfl) (fun W => by kernel_rfl) (HSm.out) ?_
                go_frame
                refine q_run (.bool false) (by kernel_rfl) (fun W hW => by kernel_rfl) ?_
                go_frame
                refine q_run (.bool false) (by kernel_rfl) (fun W hW => by kernel_rfl) ?_
                go_frame
                refine q_run (.bool false) (by kernel_rfl) (fun W hW => by kernel_rfl) ?_
                go_frame
                refine q_run (.int .i64 (x.2.length : Int)) (by kernel_rfl) (fun W hW => by kernel_rfl) ?_
                go_frame
                refine q_run (.bool false) (by kernel_rfl) (fun W hW => by go_simp) ?_
                go_frame
                refine q_run (.bool false) (by kernel_rfl) (fun W hW => by kernel_rfl) ?_
                go_frame
                refine q_run (.bool false) (by kernel_rfl) (fun W hW => by kernel_rfl) ?_
                go_frame
                refine q_run (.pointer (some ⟨bx, 1, none⟩)) (by kernel_rfl) (fun W hW => by kernel_rfl) ?_
                go_frame
                refine q_load (.slice (some ⟨b', off', none⟩) x.2.length sc) (by kernel_rfl) rfl (by kernel_rfl) (fun W hW => bk_ldS _ _ _ _ _ W (HX.out W hW).2) ?_
                go_frame
                refine q_run (.int .i64 (x.2.length : Int)) (by kernel_rfl) (fun W hW => by kernel_rfl) ?_
                go_frame
                refine q_run (.int .i64 ((x.2.length : Int) - 1)) (by kernel_rfl) (fun W hW => by go_simp) ?_
                go_frame
                refine q_index (.pointer (some ⟨b', off' + (x.2.length - 1) * 2, none⟩)) (by kernel_rfl) rfl (by kernel_rfl) (by kernel_rfl) (bk_ix1 b' off' x.2.length sc hpos) ?_
                go_frame
                refine q_run (.pointer (some ⟨b', off' + (x.2.length - 1) * 2, none⟩)) (by kernel_rfl) (fun W hW => by kernel_rfl) ?_
                go_frame
                refine q_load (.int .i64 lt) (by kernel_rfl) rfl (by kernel_rfl) (fun W hW => bk_ld64 _ _ _ W (HLt.out W hW)) ?_
                go_frame
                refine q_run (.pointer (some ⟨w.heap.size, 0, none⟩)) (by kernel_rfl) (fun W hW => by kernel_rfl) ?_
                go_frame
                refine q_load (.int .i64 tp) (by kernel_rfl) rfl (by kernel_rfl) (fun W hW => bk_ld64 _ _ _ W (HB0.out W hW).1) ?_
                go_frame
                refine q_run (.bool false) (by kernel_rfl) (fun W hW => by go_simp) ?_
                go_frame
                refine q_run (.bool false) (by kernel_rfl) (fun W hW => by kernel_rfl) ?_
                go_frame
                refine q_run (.bool false) (by kernel_rfl) (fun W hW => by kernel_rfl) ?_
                go_frame
                refine q_run (.int .i64 (i : Int)) (by kernel_rfl) (fun W hW => by kernel_rfl) ?_
                go_frame
                refine q_run (.bool false) (by kernel_rfl) (fun W hW => by go_simp; exact HI0.out) ?_
                go_frame
                refine q_run_skip (.bool false) 11 (by kernel_rfl) (fun W hW => by kernel_rfl) (by kernel_rfl) ?_
                simp only [List.drop_succ_cons, List.drop_zero, List.take_succ_cons, List.take_zero, putU]
                go_frame
                refine q_run (.bool false) (by kernel_rfl) (fun W hW => by kernel_rfl) ?_
                go_frame
                refine q_run (.bool false) (by kernel_rfl) (fun W hW => by kernel_rfl) ?_
                go_frame
                refine wpQuiet_nil ?_
                intro w2 hb2
                have HE := hid (HB1.out.trans (hb2.mono HB1.out.size))
                have HBx2 := hid ((hb2.block _ (heap_lt HB2.out)).trans HB2.out)
                clear hb2 HX HB0 HLb HSm HLt HI0
                go_wp2_with fail
                go_roundw
                case rel => exact ⟨i + 1, by omega, by go_num, HE.out, HBx2.out, HNx'.out⟩
                case measure => simp [intOf]; omega
              · have hip : 0 < i := by omega
                have hgi : (0 : Int) < (i : Int) := by omega
                obtain ⟨lp, lpc, e0, hLp, hlp⟩ := HPv.out hip
                have HPr : Hid (∀ W, Below w1.heap.size w1 W → W.cell? ⟨b, off + (i - 1) * 2, none⟩ = some (.slice lp (atSr S (i - 1)).1.length lpc)) := fun W hW => ((HB1.out.trans (hW.mono HB1.out.size)).cell (p := ⟨b, _, none⟩) hbs).trans e0
                obtain ⟨cm, hcm⟩ : ∃ cm, LB.cmp (atSr S (i - 1)).1 x.1 = cm := ⟨_, rfl⟩
                have HCm : Hid (∀ W, Below w1.heap.size w1 W → Calls Tryz.prog 32 #[.slice lp (atSr S (i - 1)).1.length lpc, .slice lo x.1.length lc] W fun e w' => e = .returned (.int .i64 cm) ∧ Below w1.heap.size w1 w') := fun W hW => (rcmp_any lp lo (atSr S (i - 1)).1 x.1 lpc lc W (hLp.below (HB1.out.trans (hW.mono HB1.out.size))) (HLR1.out.below hW) hlp (by omega)).mono fun e w' h => ⟨by rw [h.1, hcm], hW.trans (h.2.mono hW.size)⟩
                have hwi : IntKind.i64.wrap ((i : Int) - 1) = (i : Int) - 1 := by rw [IntKind.wrap_i64]; omega
                have HC2 := hid hcm
                clear hcm e0 hLp HPv hi0
                by_cases hcm : cm < 0
                · have hcm' : ¬ 0 ≤ cm := by omega
                  have HNx' := hid (HNx.out HOkx.out (fun _ => by rw [HC2.out]; exact hcm))
                  clear HNx
                  refine wp_region_class (fun W => Below w1.heap.size w1 W) (by kernel_rfl) (by kernel_rfl) (Below.refl _ w1).drew ?_
                  refine q_run (.pointer (some ⟨bx, 0, none⟩)) (by kernel_rfl) (fun W hW => by kernel_rfl) ?_
                  go_frame
                  refine q_load (.slice lo x.1.length lc) (by kernel_rfl) rfl (by kernel_rfl) (fun W hW => bk_ldL _ _ _ _ _ W (HX.out W hW).1) ?_
                  go_frame
                  refine q_call (.bool true) (by kernel_rfl) (fun W => by kernel_rfl) (HLb.out) ?_
                  go_frame
                  refine q_run (.bool false) (by kernel_rfl) (fun W hW => by kernel_rfl) ?_
                  go_frame
                  refine q_run (.bool false) (by kernel_rfl) (fun W hW => by kernel_rfl) ?_
                  go_frame
                  refine q_run (.pointer (some ⟨bx, 1, none⟩)) (by kernel_rfl) (fun W hW => by kernel_rfl) ?_
                  go_frame
                  refine q_load (.slice (some ⟨b', off', none⟩) x.2.length sc) (by kernel_rfl) rfl (by kernel_rfl) (fun W hW => bk_ldS _ _ _ _ _ W (HX.out W hW).2) ?_
                  go_frame
                  refine q_call (.bool true) (by kernel_rfl) (fun W => by kernel_rfl) (HSm.out) ?_
                  go_frame
                  refine q_run (.bool false) (by kernel_rfl) (fun W hW => by kernel_rfl) ?_
                  go_frame
                  refine q_run (.bool false) (by kernel_rfl) (fun W hW => by kernel_rfl) ?_
                  go_frame
                  refine q_run (.bool false) (by kernel_rfl) (fun W hW => by kernel_rfl) ?_
                  go_frame
                  refine q_run (.int .i64 (x.2.length : Int)) (by kernel_rfl) (fun W hW => by kernel_rfl) ?_
                  go_frame
                  refine q_run (.bool false) (by kernel_rfl) (fun W hW => by go_simp) ?_
                  go_frame
                  refine q_run (.bool false) (by kernel_rfl) (fun W hW => by kernel_rfl) ?_
                  go_frame
                  refine q_run (.bool false) (by kernel_rfl) (fun W hW => by kernel_rfl) ?_
                  go_frame
                  refine q_run (.pointer (some ⟨bx, 1, none⟩)) (by kernel_rfl) (fun W hW => by kernel_rfl) ?_
                  go_frame
                  refine q_load (.slice (some ⟨b', off', none⟩) x.2.length sc) (by kernel_rfl) rfl (by kernel_rfl) (fun W hW => bk_ldS _ _ _ _ _ W (HX.out W hW).2) ?_
                  go_frame
                  refine q_run (.int .i64 (x.2.length : Int)) (by kernel_rfl) (fun W hW => by kernel_rfl) ?_
                  go_frame
                  refine q_run (.int .i64 ((x.2.length : Int) - 1)) (by kernel_rfl) (fun W hW => by go_simp) ?_
                  go_frame
                  refine q_index (.pointer (some ⟨b', off' + (x.2.length - 1) * 2, none⟩)) (by kernel_rfl) rfl (by kernel_rfl) (by kernel_rfl) (bk_ix1 b' off' x.2.length sc hpos) ?_
                  go_frame
                  refine q_run (.pointer (some ⟨b', off' + (x.2.length - 1) * 2, none⟩)) (by kernel_rfl) (fun W hW => by kernel_rfl) ?_
                  go_frame
                  refine q_load (.int .i64 lt) (by kernel_rfl) rfl (by kernel_rfl) (fun W hW => bk_ld64 _ _ _ W (HLt.out W hW)) ?_
                  go_frame
                  refine q_run (.pointer (some ⟨w.heap.size, 0, none⟩)) (by kernel_rfl) (fun W hW => by kernel_rfl) ?_
                  go_frame
                  refine q_load (.int .i64 tp) (by kernel_rfl) rfl (by kernel_rfl) (fun W hW => bk_ld64 _ _ _ W (HB0.out W hW).1) ?_
                  go_frame
                  refine q_run (.bool false) (by kernel_rfl) (fun W hW => by go_simp) ?_
                  go_frame
                  refine q_run (.bool false) (by kernel_rfl) (fun W hW => by kernel_rfl) ?_
                  go_frame
                  refine q_run (.bool false) (by kernel_rfl) (fun W hW => by kernel_rfl) ?_
                  go_frame
                  refine q_run (.int .i64 (i : Int)) (by kernel_rfl) (fun W hW => by kernel_rfl) ?_
                  go_frame
                  refine q_run (.bool true) (by kernel_rfl) (fun W hW => by go_simp) ?_
                  go_frame
                  refine q_run (.bool true) (by kernel_rfl) (fun W hW => by kernel_rfl) ?_
                  go_frame
                  refine q_run (.pointer (some ⟨w.heap.size, 2, none⟩)) (by kernel_rfl) (fun W hW => by kernel_rfl) ?_
                  go_frame
                  refine q_load (.slice (some ⟨b, off, none⟩) S.length cap) (by kernel_rfl) rfl (by kernel_rfl) (fun W hW => bk_ldR _ _ _ _ _ W (HB0.out W hW).2) ?_
                  go_frame
                  refine q_run (.int .i64 (i : Int)) (by kernel_rfl) (fun W hW => by kernel_rfl) ?_
                  go_frame
                  refine q_run (.int .i64 ((i : Int) - 1)) (by kernel_rfl) (fun W hW => by go_simp) ?_
                  go_frame
                  refine q_index (.pointer (some ⟨b, off + (i - 1) * 2, none⟩)) (by kernel_rfl) rfl (by kernel_rfl) (by kernel_rfl) (bk_ixS1 b off S.length cap i hlt hip) ?_
                  go_frame
                  refine q_run (.pointer (some ⟨b, off + (i - 1) * 2, none⟩)) (by kernel_rfl) (fun W hW => by kernel_rfl) ?_
                  go_frame
                  refine q_load (.slice lp (atSr S (i - 1)).1.length lpc) (by kernel_rfl) rfl (by kernel_rfl) (fun W hW => bk_ldL _ _ _ _ _ W (HPr.out W hW)) ?_
                  go_frame
                  refine q_run (.pointer (some ⟨bx, 0, none⟩)) (by kernel_rfl) (fun W hW => by kernel_rfl) ?_
                  go_frame
                  refine q_load (.slice lo x.1.length lc) (by kernel_rfl) rfl (by kernel_rfl) (fun W hW => bk_ldL _ _ _ _ _ W (HX.out W hW).1) ?_
                  go_frame
                  refine q_call (.int .i64 cm) (by kernel_rfl) (fun W => by kernel_rfl) (HCm.out) ?_
                  go_frame
                  refine q_run (.bool false) (by kernel_rfl) (fun W hW => by go_simp) ?_
                  go_frame
                  refine q_run (.bool false) (by kernel_rfl) (fun W hW => by kernel_rfl) ?_
                  go_frame
                  refine q_run (.bool false) (by kernel_rfl) (fun W hW => by kernel_rfl) ?_
                  go_frame
                  refine wpQuiet_nil ?_
                  intro w2 hb2
                  have HE := hid (HB1.out.trans (hb2.mono HB1.out.size))
                  have HBx2 := hid ((hb2.block _ (heap_lt HB2.out)).trans HB2.out)
                  clear hb2 HX HB0 HLb HSm HLt HPr HCm hcm hcm'
                  go_wp2_with fail
                  go_roundw
                  case rel => exact ⟨i + 1, by omega, by go_num, HE.out, HBx2.out, HNx'.out⟩
                  case measure => simp [intOf]; omega
                · have hcm' : 0 ≤ cm := by omega
                  have HG := hid (HBad.out (.inr ⟨hip, by rw [HC2.out]; exact hcm⟩))
                  clear HNx
                  refine wp_region_class (fun W => Below w1.heap.size w1 W) (by kernel_rfl) (by kernel_rfl) (Below.refl _ w1).drew ?_
                  refine q_run (.pointer (some ⟨bx, 0, none⟩)) (by kernel_rfl) (fun W hW => by kernel_rfl) ?_
                  go_frame
                  refine q_load (.slice lo x.1.length lc) (by kernel_rfl) rfl (by kernel_rfl) (fun W hW => bk_ldL _ _ _ _ _ W (HX.out W hW).1) ?_
                  go_frame
                  refine q_call (.bool true) (by kernel_rfl) (fun W => by kernel_rfl) (HLb.out) ?_
                  go_frame
                  refine q_run (.bool false) (by kernel_rfl) (fun W hW => by kernel_rfl) ?_
                  go_frame
                  refine q_run (.bool false) (by kernel_rfl) (fun W hW => by kernel_rfl) ?_
                  go_frame
                  refine q_run (.pointer (some ⟨bx, 1, none⟩)) (by kernel_rfl) (fun W hW => by kernel_rfl) ?_
                  go_frame
                  refine q_load (.slice (some ⟨b', off', none⟩) x.2.length sc) (by kernel_rfl) rfl (by kernel_rfl) (fun W hW => bk_ldS _ _ _ _ _ W (HX.out W hW).2) ?_
                  go_frame
                  refine q_call (.bool true) (by kernel_rfl) (fun W => by kernel_rfl) (HSm.out) ?_
                  go_frame
                  refine q_run (.bool false) (by kernel_rfl) (fun W hW => by kernel_rfl) ?_
                  go_frame
                  refine q_run (.bool false) (by kernel_rfl) (fun W hW => by kernel_rfl) ?_
                  go_frame
                  refine q_run (.bool false) (by kernel_rfl) (fun W hW => by kernel_rfl) ?_
                  go_frame
                  refine q_run (.int .i64 (x.2.length : Int)) (by kernel_rfl) (fun W hW => by kernel_rfl) ?_
                  go_frame
                  refine q_run (.bool false) (by kernel_rfl) (fun W hW => by go_simp) ?_
                  go_frame
                  refine q_run (.bool false) (by kernel_rfl) (fun W hW => by kernel_rfl) ?_
                  go_frame
                  refine q_run (.bool false) (by kernel_rfl) (fun W hW => by kernel_rfl) ?_
                  go_frame
                  refine q_run (.pointer (some ⟨bx, 1, none⟩)) (by kernel_rfl) (fun W hW => by kernel_rfl) ?_
                  go_frame
                  refine q_load (.slice (some ⟨b', off', none⟩) x.2.length sc) (by kernel_rfl) rfl (by kernel_rfl) (fun W hW => bk_ldS _ _ _ _ _ W (HX.out W hW).2) ?_
                  go_frame
                  refine q_run (.int .i64 (x.2.length : Int)) (by kernel_rfl) (fun W hW => by kernel_rfl) ?_
                  go_frame
                  refine q_run (.int .i64 ((x.2.length : Int) - 1)) (by kernel_rfl) (fun W hW => by go_simp) ?_
                  go_frame
                  refine q_index (.pointer (some ⟨b', off' + (x.2.length - 1) * 2, none⟩)) (by kernel_rfl) rfl (by kernel_rfl) (by kernel_rfl) (bk_ix1 b' off' x.2.length sc hpos) ?_
                  go_frame
                  refine q_run (.pointer (some ⟨b', off' + (x.2.length - 1) * 2, none⟩)) (by kernel_rfl) (fun W hW => by kernel_rfl) ?_
                  go_frame
                  refine q_load (.int .i64 lt) (by kernel_rfl) rfl (by kernel_rfl) (fun W hW => bk_ld64 _ _ _ W (HLt.out W hW)) ?_
                  go_frame
                  refine q_run (.pointer (some ⟨w.heap.size, 0, none⟩)) (by kernel_rfl) (fun W hW => by kernel_rfl) ?_
                  go_frame
                  refine q_load (.int .i64 tp) (by kernel_rfl) rfl (by kernel_rfl) (fun W hW => bk_ld64 _ _ _ W (HB0.out W hW).1) ?_
                  go_frame
                  refine q_run (.bool false) (by kernel_rfl) (fun W hW => by go_simp) ?_
                  go_frame
                  refine q_run (.bool false) (by kernel_rfl) (fun W hW => by kernel_rfl) ?_
                  go_frame
                  refine q_run (.bool false) (by kernel_rfl) (fun W hW => by kernel_rfl) ?_
                  go_frame
                  refine q_run (.int .i64 (i : Int)) (by kernel_rfl) (fun W hW => by kernel_rfl) ?_
                  go_frame
                  refine q_run (.bool true) (by kernel_rfl) (fun W hW => by go_simp) ?_
                  go_frame
                  refine q_run (.bool true) (by kernel_rfl) (fun W hW => by kernel_rfl) ?_
                  go_frame
                  refine q_run (.pointer (some ⟨w.heap.size, 2, none⟩)) (by kernel_rfl) (fun W hW => by kernel_rfl) ?_
                  go_frame
                  refine q_load (.slice (some ⟨b, off, none⟩) S.length cap) (by kernel_rfl) rfl (by kernel_rfl) (fun W hW => bk_ldR _ _ _ _ _ W (HB0.out W hW).2) ?_
                  go_frame
                  refine q_run (.int .i64 (i : Int)) (by kernel_rfl) (fun W hW => by kernel_rfl) ?_
                  go_frame
                  refine q_run (.int .i64 ((i : Int) - 1)) (by kernel_rfl) (fun W hW => by go_simp) ?_
                  go_frame
                  refine q_index (.pointer (some ⟨b, off + (i - 1) * 2, none⟩)) (by kernel_rfl) rfl (by kernel_rfl) (by kernel_rfl) (bk_ixS1 b off S.length cap i hlt hip) ?_
                  go_frame
                  refine q_run (.pointer (some ⟨b, off + (i - 1) * 2, none⟩)) (by kernel_rfl) (fun W hW => by kernel_rfl) ?_
                  go_frame
                  refine q_load (.slice lp (atSr S (i - 1)).1.length lpc) (by kernel_rfl) rfl (by kernel_rfl) (fun W hW => bk_ldL _ _ _ _ _ W (HPr.out W hW)) ?_
                  go_frame
                  refine q_run (.pointer (some ⟨bx, 0, none⟩)) (by kernel_rfl) (fun W hW => by kernel_rfl) ?_
                  go_frame
                  refine q_load (.slice lo x.1.length lc) (by kernel_rfl) rfl (by kernel_rfl) (fun W hW => bk_ldL _ _ _ _ _ W (HX.out W hW).1) ?_
                  go_frame
                  refine q_call (.int .i64 cm) (by kernel_rfl) (fun W => by kernel_rfl) (HCm.out) ?_
                  go_frame
                  refine q_run (.bool true) (by kernel_rfl) (fun W hW => by go_simp) ?_
                  go_frame
                  refine q_run (.bool true) (by kernel_rfl) (fun W hW => by kernel_rfl) ?_
                  go_frame
                  refine q_run (.bool true) (by kernel_rfl) (fun W hW => by kernel_rfl) ?_
                  go_frame
                  refine wpQuiet_nil ?_
                  intro w2 hb2
                  have HE := hid (HB1.out.trans (hb2.mono HB1.out.size))
                  clear hb2 HX HB0 HLb HSm HLt HPr HCm
                  go_wp2_with fail
                  go_ret
                  exact ⟨by rw [HG.out]; rfl, HE.out⟩
            · have hle' : tp < lt := by omega
              have HG := hid (HBad.out (.inl (BK.okS_late (by rw [HLt2.out]; exact hle'))))
              refine wp_region_class (fun W => Below w1.heap.size w1 W) (by kernel_rfl) (by kernel_rfl) (Below.refl _ w1).drew ?_
              refine q_run (.pointer (some ⟨bx, 0, none⟩)) (by kernel_rfl) (fun W hW => by kernel_rfl) ?_
              go_frame
              refine q_load (.slice lo x.1.length lc) (by kernel_rfl) rfl (by kernel_rfl) (fun W hW => bk_ldL _ _ _ _ _ W (HX.out W hW).1) ?_
              go_frame
              refine q_call (.bool true) (by kernel_rfl) (fun W => by kernel_rfl) (HLb.out) ?_
              go_frame
              refine q_run (.bool false) (by kernel_rfl) (fun W hW => by kernel_rfl) ?_
              go_frame
              refine q_run (.bool false) (by kernel_rfl) (fun W hW => by kernel_rfl) ?_
              go_frame
              refine q_run (.pointer (some ⟨bx, 1, none⟩)) (by kernel_rfl) (fun W hW => by kernel_rfl) ?_
              go_frame
              refine q_load (.slice (some ⟨b', off', none⟩) x.2.length sc) (by kernel_rfl) rfl (by kernel_rfl) (fun W hW => bk_ldS _ _ _ _ _ W (HX.out W hW).2) ?_
              go_frame
              refine q_call (.bool true) (by kernel_rfl) (fun W => by kernel_rfl) (HSm.out) ?_
              go_frame
              refine q_run (.bool false) (by kernel_rfl) (fun W hW => by kernel_rfl) ?_
              go_frame
              refine q_run (.bool false) (by kernel_rfl) (fun W hW => by kernel_rfl) ?_
              go_frame
              refine q_run (.bool false) (by kernel_rfl) (fun W hW => by kernel_rfl) ?_
              go_frame
              refine q_run (.int .i64 (x.2.length : Int)) (by kernel_rfl) (fun W hW => by kernel_rfl) ?_
              go_frame
              refine q_run (.bool false) (by kernel_rfl) (fun W hW => by go_simp) ?_
              go_frame
              refine q_run (.bool false) (by kernel_rfl) (fun W hW => by kernel_rfl) ?_
              go_frame
              refine q_run (.bool false) (by kernel_rfl) (fun W hW => by kernel_rfl) ?_
              go_frame
              refine q_run (.pointer (some ⟨bx, 1, none⟩)) (by kernel_rfl) (fun W hW => by kernel_rfl) ?_
              go_frame
              refine q_load (.slice (some ⟨b', off', none⟩) x.2.length sc) (by kernel_rfl) rfl (by kernel_rfl) (fun W hW => bk_ldS _ _ _ _ _ W (HX.out W hW).2) ?_
              go_frame
              refine q_run (.int .i64 (x.2.length : Int)) (by kernel_rfl) (fun W hW => by kernel_rfl) ?_
              go_frame
              refine q_run (.int .i64 ((x.2.length : Int) - 1)) (by kernel_rfl) (fun W hW => by go_simp) ?_
              go_frame
              refine q_index (.pointer (some ⟨b', off' + (x.2.length - 1) * 2, none⟩)) (by kernel_rfl) rfl (by kernel_rfl) (by kernel_rfl) (bk_ix1 b' off' x.2.length sc hpos) ?_
              go_frame
              refine q_run (.pointer (some ⟨b', off' + (x.2.length - 1) * 2, none⟩)) (by kernel_rfl) (fun W hW => by kernel_rfl) ?_
              go_frame
              refine q_load (.int .i64 lt) (by kernel_rfl) rfl (by kernel_rfl) (fun W hW => bk_ld64 _ _ _ W (HLt.out W hW)) ?_
              go_frame
              refine q_run (.pointer (some ⟨w.heap.size, 0, none⟩)) (by kernel_rfl) (fun W hW => by kernel_rfl) ?_
              go_frame
              refine q_load (.int .i64 tp) (by kernel_rfl) rfl (by kernel_rfl) (fun W hW => bk_ld64 _ _ _ W (HB0.out W hW).1) ?_
              go_frame
              refine q_run (.bool true) (by kernel_rfl) (fun W hW => by go_simp) ?_
              go_frame
              refine q_run (.bool true) (by kernel_rfl) (fun W hW => by kernel_rfl) ?_
              go_frame
              refine q_run_skip (.bool true) 15 (by kernel_rfl) (fun W hW => by kernel_rfl) (by kernel_rfl) ?_
              simp only [List.drop_succ_cons, List.drop_zero, List.take_succ_cons, List.take_zero, putU]
              go_frame
              refine q_run (.bool true) (by kernel_rfl) (fun W hW => by kernel_rfl) ?_
              go_frame
              refine wpQuiet_nil ?_
              intro w2 hb2
              have HE := hid (HB1.out.trans (hb2.mono HB1.out.size))
              clear hb2
              go_wp2_with fail
              go_ret
              exact ⟨by rw [HG.out]; rfl, HE.out⟩
          · have hpz : (x.2.length : Int) = 0 := by omega
            have hz0 : ((x.2.length : Int) == 0) = true := by simp only [beq_iff_eq]; omega
            have HG := hid (HBad.out (.inl (BK.okS_none (by omega))))
            refine wp_region_class (fun W => Below w1.heap.size w1 W) (by kernel_rfl) (by kernel_rfl) (Below.refl _ w1).drew ?_
            refine q_run (.pointer (some ⟨bx, 0, none⟩)) (by kernel_rfl) (fun W hW => by kernel_rfl) ?_
            go_frame
            refine q_load (.slice lo x.1.length lc) (by kernel_rfl) rfl (by kernel_rfl) (fun W hW => bk_ldL _ _ _ _ _ W (HX.out W hW).1) ?_
            go_frame
            refine q_call (.bool true) (by kernel_rfl) (fun W => by kernel_rfl) (HLb.out) ?_
            go_frame
            refine q_run (.bool false) (by kernel_rfl) (fun W hW => by kernel_rfl) ?_
            go_frame
            refine q_run (.bool false) (by kernel_rfl) (fun W hW => by kernel_rfl) ?_
            go_frame
            refine q_run (.pointer (some ⟨bx, 1, none⟩)) (by kernel_rfl) (fun W hW => by kernel_rfl) ?_
            go_frame
            refine q_load (.slice so x.2.length sc) (by kernel_rfl) rfl (by kernel_rfl) (fun W hW => bk_ldS _ _ _ _ _ W (HX.out W hW).2) ?_
            go_frame
            refine q_call (.bool true) (by kernel_rfl) (fun W => by kernel_rfl) (HSm.out) ?_
            go_frame
            refine q_run (.bool false) (by kernel_rfl) (fun W hW => by kernel_rfl) ?_
            go_frame
            refine q_run (.bool false) (by kernel_rfl) (fun W hW => by kernel_rfl) ?_
            go_frame
            refine q_run (.bool false) (by kernel_rfl) (fun W hW => by kernel_rfl) ?_
            go_frame
            refine q_run (.int .i64 (x.2.length : Int)) (by kernel_rfl) (fun W hW => by kernel_rfl) ?_
            go_frame
            refine q_run (.bool true) (by kernel_rfl) (fun W hW => by go_simp) ?_
            go_frame
            refine q_run (.bool true) (by kernel_rfl) (fun W hW => by kernel_rfl) ?_
            go_frame
            refine q_run_skip (.bool true) 10 (by kernel_rfl) (fun W hW => by kernel_rfl) (by kernel_rfl) ?_
            simp only [List.drop_succ_cons, List.drop_zero, List.take_succ_cons, List.take_zero, putU]
            go_frame
            refine q_run (.bool true) (by kernel_rfl) (fun W hW => by kernel_rfl) ?_
            go_frame
            refine q_run_skip (.bool true) 15 (by kernel_rfl) (fun W hW => by kernel_rfl) (by kernel_rfl) ?_
            simp only [List.drop_succ_cons, List.drop_zero, List.take_succ_cons, List.take_zero, putU]
            go_frame
            refine q_run (.bool true) (by kernel_rfl) (fun W hW => by kernel_rfl) ?_
            go_frame
            refine wpQuiet_nil ?_
            intro w2 hb2
            have HE := hid (HB1.out.trans (hb2.mono HB1.out.size))
            clear hb2
            go_wp2_with fail
            go_ret
            exact ⟨by rw [HG.out]; rfl, HE.out⟩
    · have he : i = S.length := by omega
      subst he
      have HSer := hid (BK.ser_ok HOk.out)
      have z0 : wr.cell? ⟨w.heap.size, 0, none⟩ = some (.int .i64 tp) := zcell1 _ _ _ _ HBox.out 0 _ rfl
      have z1 : wr.cell? ⟨w.heap.size, 1, none⟩ = some (.int .i64 old) := zcell1 _ _ _ _ HBox.out 1 _ rfl
      go_wp2_with fail
      refine (bk_in tp (-1099511627776) 1099511627776 wr).mono ?_
      rintro e w2 ⟨rfl, rfl⟩
      by_cases hin : -1099511627776 ≤ tp ∧ tp ≤ 1099511627776
      · rw [decide_eq_true hin]
        have HIn := hid hin
        clear hin
        go_wp2_with fail
        go_ret
        refine ⟨?_, HBl.out⟩
        show Ending.returned (Value.bool (decide (-1 ≤ old))) = _
        unfold BK.right
        rw [HSer.out, decide_eq_true HIn.out]; rfl
      · rw [decide_eq_false hin]
        have HIn := hid hin
        clear hin
        go_wp2_with fail
        go_ret
        refine ⟨?_, HBl.out⟩
        show Ending.returned (Value.bool false) = _
        unfold BK.right
        rw [HSer.out, decide_eq_false HIn.out]; rfl

end Go.Proofs.YtdmnlmohfaafoaeGreatDoor

