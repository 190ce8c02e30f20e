/- What block.Right answers. -/
import Derived.Test.YtdmnlmohfaafoaeDoorPSBkByt
import Derived.Test.YtdmnlmohfaafoaeDoorPSCxRight
import Derived.Test.YtdmnlmohfaafoaeDoorPSChRight
import Derived.Test.YtdmnlmohfaafoaeDoorPSCxCmp
import Derived.Test.YtdmnlmohfaafoaeDoorPSBkQ
import Derived.Deep.CutRange
import Derived.Deep.DeepCutAuto
namespace Go.Proofs.YtdmnlmohfaafoaeDoor
open Go.RowKit

set_option maxRecDepth 100000 in
set_option maxHeartbeats 1600000 in
/-- A series that may be in a block. -/
theorem bfits_any (x : Sr) (lo so : Option Addr) (lc sc : Nat) (tp : Int) (w : World) (hL : LRow w lo x.1) (hS : SRow w so x.2) (hR : ∀ s ∈ x.2, CL.Rs s) (hl : x.2.length ≤ 100000) :
    Calls Tryd.prog 47 #[.agg #[.slice lo x.1.length lc, .slice so x.2.length sc], .int .i64 tp] w fun e w' => e = .returned (.bool (BK.okS tp x)) ∧ Below w.heap.size w w' := by
  have hb0 : Below w.heap.size w (w.alloc (.cells #[.slice lo x.1.length lc, .slice so x.2.length sc] 38)) := (Below.refl _ w).alloc (Nat.le_refl _) _
  have HX0 := hid (heap_alloc_new w (.cells #[.slice lo x.1.length lc, .slice so x.2.length sc] 38))
  have HB0 := hid hb0
  have HL := hid hL
  have HS := hid hS
  have HR := hid hR
  clear hb0 hL hS hR
  by_cases hz : x.2.length = 0
  · have HF := hid (BK.okS_none (tp := tp) hz)
    have hn : ((x.2.length : Int) == 0) = true := by simp [hz]
    have hd : decide ((x.2.length : Int) = 0) = true := by simp [hz]
    generalize x.2.length = n at *
    clear hz
    go_enter Tryd.func47, Tryd.ntmps47
    go_wp2_with fail
    go_ret
    exact ⟨by rw [HF.out]; rfl, HB0.out⟩
  · have hn : ((x.2.length : Int) == 0) = false := by rw [beq_eq_false_iff_ne]; omega
    have hpos : 0 < x.2.length := by omega
    have HP := hid hpos
    obtain ⟨b', off', hso, d0, _, hbs⟩ := HS.out (x.2.length - 1) (by omega)
    subst hso
    have HIx : Hid (∀ W : World, (Instr.indexAt 36 (.slice (some ⟨b', off', none⟩) x.2.length sc) (.int .i64 ((x.2.length : Int) - 1))).run Tryd.prog W = .ok (.pointer (some ⟨b', off' + (x.2.length - 1) * 2, none⟩)) W) := bk_ix1 b' off' x.2.length sc hpos
    go_enter Tryd.func47, Tryd.ntmps47
    go_wp2_with fail
    refine (lright_any lo x.1 lc _ (HL.out.below HB0.out)).mono ?_
    rintro e w1 ⟨rfl, hb1⟩
    have HB1 := hid (HB0.out.trans (hb1.mono HB0.out.size))
    have hX1 := (hb1.block _ (heap_lt HX0.out)).trans HX0.out
    have x0 : w1.cell? ⟨w.heap.size, 0, none⟩ = some (.slice lo x.1.length lc) := zcell1 _ _ _ _ hX1 0 _ rfl
    have x1 : w1.cell? ⟨w.heap.size, 1, none⟩ = some (.slice (some ⟨b', off', none⟩) x.2.length sc) := zcell1 _ _ _ _ hX1 1 _ rfl
    have HX1 := hid hX1
    clear hb1 hX1
    rcases h1 : LB.right x.1 with _ | _
    · have HF := hid (BK.okS_lab (tp := tp) h1)
      clear h1
      go_wp2_with fail
      go_ret
      exact ⟨by rw [HF.out]; rfl, HB1.out⟩
    · have H1 := hid h1
      clear h1
      go_wp2_with fail
      refine (right_any (some ⟨b', off', none⟩) x.2 sc _ (HS.out.below HB1.out) HR.out (by omega)).mono ?_
      rintro e w2 ⟨rfl, hb2⟩
      have HB2 := hid (HB1.out.trans (hb2.mono HB1.out.size))
      have hX2 := (hb2.block _ (heap_lt HX1.out)).trans HX1.out
      have y1 : w2.cell? ⟨w.heap.size, 1, none⟩ = some (.slice (some ⟨b', off', none⟩) x.2.length sc) := zcell1 _ _ _ _ hX2 1 _ rfl
      have yl : w2.cell? ⟨b', off' + (x.2.length - 1) * 2, none⟩ = some (.int .i64 (CL.at' x.2 (x.2.length - 1)).1) := (HB2.out.cell (p := ⟨b', _, none⟩) hbs).trans d0
      clear hb2 hX2 x0 x1 d0
      rcases h2 : CL.right x.2 with _ | _
      · have HF := hid (BK.okS_smp (tp := tp) h2)
        clear h2
        go_wp2_with fail
        go_ret
        exact ⟨by rw [HF.out]; rfl, HB2.out⟩
      · have HE : Hid (BK.okS tp x = decide ((CL.at' x.2 (x.2.length - 1)).1 ≤ tp)) := by
          show _ = _
          unfold BK.okS
          rw [H1.out, h2, decide_eq_true HP.out]
          rfl
        clear h2
        generalize hlt : (CL.at' x.2 (x.2.length - 1)).1 = lt at *
        have e1 : ((x.2.length : Int) - 1) = ((x.2.length - 1 : Nat) : Int) := by omega
        have i1 : 0 ≤ ((x.2.length - 1 : Nat) : Int) ∧ ((x.2.length - 1 : Nat) : Int) < (x.2.length : Int) := by omega
        clear hlt
        go_wp2_with fail
        go_ret
        exact ⟨ret_bool HE.out.symm, HB2.out⟩

set_option maxRecDepth 100000 in
set_option maxHeartbeats 3200000 in
/-- Which blocks may be. -/
theorem bright_any (ao : Option Addr) (S : List Sr) (cap : Nat) (tp old : Int) (w : World) (hS : SrRow w ao S) (hn : S.length ≤ 5000000) (hls : ∀ i, i < S.length → (atSr S i).1.length ≤ 1000 ∧ (atSr S i).2.length ≤ 100000) (hR : ∀ i, i < S.length → ∀ s ∈ (atSr S i).2, CL.Rs s) :
    Calls Tryd.prog 19 #[.agg #[.int .i64 tp, .int .i64 old, .slice ao S.length cap]] w fun e w' => e = .returned (.bool (BK.right tp old S)) ∧ Below w.heap.size w w' := by
  have HS := hid hS
  have HLs := hid hls
  have HR := hid hR
  have hb0 : Below w.heap.size w (w.alloc (.cells #[.int .i64 tp, .int .i64 old, .slice ao S.length cap] 48)) := (Below.refl _ w).alloc (Nat.le_refl _) _
  have HA := hid (And.intro hb0 (heap_alloc_new w (.cells #[.int .i64 tp, .int .i64 old, .slice ao S.length cap] 48)))
  clear hS hls hR hb0
  go_enter Tryd.func19, Tryd.ntmps19
  by_cases h1 : tp < -1099511627776
  · have HF : Hid (BK.right tp old S = false) := by
      show _ = _
      unfold BK.right
      rw [decide_eq_false (show ¬ (-1099511627776 ≤ tp ∧ tp ≤ 1099511627776) by omega)]
      simp
    go_wp2_with fail
    go_ret
    exact ⟨by rw [HF.out]; rfl, HA.out.1⟩
  by_cases h2 : 1099511627776 < tp
  · have HF : Hid (BK.right tp old S = false) := by
      show _ = _
      unfold BK.right
      rw [decide_eq_false (show ¬ (-1099511627776 ≤ tp ∧ tp ≤ 1099511627776) by omega)]
      simp
    go_wp2_with fail
    go_ret
    exact ⟨by rw [HF.out]; rfl, HA.out.1⟩
  by_cases h3 : old < -1
  · have HF : Hid (BK.right tp old S = false) := by
      show _ = _
      unfold BK.right
      rw [decide_eq_false (show ¬ (-1 ≤ old) by omega)]
      simp
    go_wp2_with fail
    go_ret
    exact ⟨by rw [HF.out]; rfl, HA.out.1⟩
  have HE : Hid (BK.right tp old S = BK.ser tp S) := by
    show _ = _
    unfold BK.right
    rw [decide_eq_true (show (-1099511627776 ≤ tp ∧ tp ≤ 1099511627776) by omega), decide_eq_true (show (-1 ≤ old) by omega)]
    simp
  go_wp2_with fail
  clear h1 h2 h3
  go_loopw [21] (fun ti wr => ∃ i : Nat, i ≤ S.length ∧ ti = .int .i64 i ∧ Below w.heap.size w wr ∧ wr.heap[w.heap.size]? = some (.cells #[.int .i64 tp, .int .i64 old, .slice ao S.length cap] 48) ∧ BK.Ok tp S i) (fun ti _ => S.length - (intOf ti).toNat)
  case atStart => exact ⟨0, Nat.zero_le _, rfl, HA.out.1, HA.out.2, fun k hk => by omega⟩
  case round =>
    clear HA
    obtain ⟨i, hi, rfl, hbel, hbox, hok⟩ := hrel
    have HBl := hid hbel
    have HBox := hid hbox
    have HOk := hid hok
    clear hbel hbox hok
    by_cases hlt : i < S.length
    · obtain ⟨b, off, hao, hbs, lo, lc, so, sc, d0, d1, hLR, hSR⟩ := HS.out i hlt
      subst hao
      have c0 : wr.cell? ⟨b, off + i * 2, none⟩ = some (.slice lo (atSr S i).1.length lc) := (HBl.out.cell (p := ⟨b, _, none⟩) hbs).trans d0
      have c1 : wr.cell? ⟨b, off + i * 2 + 1, none⟩ = some (.slice so (atSr S i).2.length sc) := (HBl.out.cell (p := ⟨b, _, none⟩) hbs).trans d1
      obtain ⟨hl1, hl2⟩ := HLs.out i hlt
      have HLR := hid (hLR.below HBl.out)
      have HSR := hid (hSR.below HBl.out)
      have HRx := hid (HR.out i hlt)
      have HBad := hid (fun h => BK.right_bad (tp := tp) (old := old) hlt h)
      have HNx := hid (fun h => HOk.out.next (i := i) h)
      have hpv : 0 < i → ∃ lp lpc, w.cell? ⟨b, off + (i - 1) * 2, none⟩ = some (.slice lp (atSr S (i - 1)).1.length lpc) ∧ LRow w lp (atSr S (i - 1)).1 ∧ (atSr S (i - 1)).1.length ≤ 1000 := fun h0 => by
        obtain ⟨b2, off2, e, _, lp, lpc, _, _, e0, _, h3, _⟩ := HS.out (i - 1) (by omega)
        cases e
        exact ⟨lp, lpc, e0, h3, (HLs.out (i - 1) (by omega)).1⟩
      have HPv := hid hpv
      generalize atSr S i = x at *
      have hil : 0 ≤ (i : Int) ∧ (i : Int) < (S.length : Int) := by omega
      have hbx : Below wr.heap.size wr (wr.alloc (.cells #[.slice lo x.1.length lc, .slice so x.2.length sc] 38)) := (Below.refl _ wr).alloc (Nat.le_refl _) _
      have HB1 := hid (HBl.out.trans (hbx.mono HBl.out.size))
      have HX1 := hid (heap_alloc_new wr (.cells #[.slice lo x.1.length lc, .slice so x.2.length sc] 38))
      have HB2 := hid ((hbx.block _ (heap_lt HBox.out)).trans HBox.out)
      have HLR1 := hid (HLR.out.below hbx)
      have HSR1 := hid (HSR.out.below hbx)
      have z0 : (wr.alloc (.cells #[.slice lo x.1.length lc, .slice so x.2.length sc] 38)).cell? ⟨w.heap.size, 0, none⟩ = some (.int .i64 tp) := zcell1 _ _ _ _ HB2.out 0 _ rfl
      clear hLR hSR hpv hbx HBl HBox d0 d1
      go_wp2_with fail
      generalize wr.alloc (.cells #[.slice lo x.1.length lc, .slice so x.2.length sc] 38) = w1 at *
      generalize wr.heap.size = bx at *
      refine (bfits_any x lo so lc sc tp w1 HLR1.out HSR1.out HRx.out hl2).mono ?_
      rintro e w2 ⟨rfl, hb2⟩
      have HB3 := hid (HB1.out.trans (hb2.mono HB1.out.size))
      have HX3 := hid ((hb2.block _ (heap_lt HX1.out)).trans HX1.out)
      have HO3 := hid ((hb2.block _ (heap_lt HB2.out)).trans HB2.out)
      have HLR3 := hid (HLR1.out.below hb2)
      clear hb2 z0 HB1 HX1 HB2 HLR1 HSR1 HLR HSR c0 c1 HRx
      rcases hf : BK.okS tp x with _ | _
      · have HF := hid (HBad.out (.inl hf))
        clear hf
        go_wp2_with fail
        go_ret
        exact ⟨by rw [HF.out]; rfl, HB3.out⟩
      · have HF := hid hf
        clear hf
        by_cases h0 : i = 0
        · have HN := hid (HNx.out HF.out (fun h => absurd h (by omega)))
          have hg : decide (0 < i) = false := by simp [h0]
          have HI0 := hid h0
          clear h0
          go_upto_region 8 with fail
          refine wp_region_class (fun W => Below w2.heap.size w2 W) (by kernel_rfl) (by kernel_rfl) (Below.refl _ w2).drew ?_
          refine q_run (.int .i64 (i : Int)) (by kernel_rfl) (fun W hW => by kernel_rfl) ?_
          go_frame
          refine q_run (.bool false) (by kernel_rfl) (fun W hW => by go_simp) ?_
          go_frame
          refine q_run_skip (.bool false) 11 (by kernel_rfl) (fun W hW => by kernel_rfl) (by kernel_rfl) ?_
          simp only [List.drop_succ_cons, List.drop_zero, List.take_succ_cons, List.take_zero, putU]
          go_frame
          refine q_run (.bool false) (by kernel_rfl) (fun W hW => by kernel_rfl) ?_
          go_frame
          refine wpQuiet_nil ?_
          intro w4 hb4
          have HB4 := hid (HB3.out.trans (hb4.mono HB3.out.size))
          have HO4 := hid ((hb4.block _ (heap_lt HO3.out)).trans HO3.out)
          clear hb4
          go_wp2_with fail
          go_roundw
          case rel => exact ⟨i + 1, by omega, by go_num, HB4.out, HO4.out, HN.out⟩
          case measure => simp [intOf]; omega
        · have hip : 0 < i := by omega
          obtain ⟨lp, lpc, p0, hLp, hpl⟩ := HPv.out hip
          have HCm0 := hid (fun (W : World) (hW : Below w2.heap.size w2 W) => cmp_any lp lo (atSr S (i - 1)).1 x.1 lpc lc W ((hLp.below HB3.out).below hW) (HLR3.out.below hW) hpl hl1)
          have HPr : Hid (∀ W, Below w2.heap.size w2 W → W.cell? ⟨b, off + (i - 1) * 2, none⟩ = some (.slice lp (atSr S (i - 1)).1.length lpc)) := fun W hW => ((HB3.out.trans (hW.mono HB3.out.size)).cell (p := ⟨b, _, none⟩) hbs).trans p0
          have HO : Hid (∀ W, Below w2.heap.size w2 W → W.cell? ⟨w.heap.size, 2, none⟩ = some (.slice (some ⟨b, off, none⟩) S.length cap)) := fun W hW => zcell1 _ _ _ _ ((hW.block _ (heap_lt HO3.out)).trans HO3.out) 2 _ rfl
          have HXx : Hid (∀ W, Below w2.heap.size w2 W → W.cell? ⟨bx, 0, none⟩ = some (.slice lo x.1.length lc)) := fun W hW => zcell1 _ _ _ _ ((hW.block _ (heap_lt HX3.out)).trans HX3.out) 0 _ rfl
          have hii : 0 < (i : Int) := by omega
          have hwr : IntKind.i64.wrap ((i : Int) - 1) = (i : Int) - 1 := by rw [IntKind.wrap_i64]; omega
          generalize hcm : LB.cmp (atSr S (i - 1)).1 x.1 = cm at *
          have HCm : Hid (∀ W, Below w2.heap.size w2 W → Calls Tryd.prog 14 #[.slice lp (atSr S (i - 1)).1.length lpc, .slice lo x.1.length lc] W fun e w' => e = .returned (.int .i64 cm) ∧ Below w2.heap.size w2 w') := fun W hW => (HCm0.out W hW).mono fun e w' h => ⟨h.1, hW.trans (h.2.mono hW.size)⟩
          clear hcm HCm0 p0 hLp hpl h0
          by_cases hge : 0 ≤ cm
          · have HBd := hid (HBad.out (.inr ⟨hip, by omega⟩))
            go_upto_region 8 with fail
            refine wp_region_class (fun W => Below w2.heap.size w2 W) (by kernel_rfl) (by kernel_rfl) (Below.refl _ w2).drew ?_
            refine q_run (.int .i64 (i : Int)) (by kernel_rfl) (fun W hW => by kernel_rfl) ?_
            go_frame
            refine q_run (.bool true) (by kernel_rfl) (fun W hW => by go_simp) ?_
            go_frame
            refine q_run (.bool true) (by kernel_rfl) (fun W hW => by kernel_rfl) ?_
            go_frame
            refine q_run (.pointer (some ⟨w.heap.size, 2, none⟩)) (by kernel_rfl) (fun W hW => by kernel_rfl) ?_
            go_frame
            refine q_load (.slice (some ⟨b, off, none⟩) S.length cap) (by kernel_rfl) rfl (by kernel_rfl) (fun W hW => bk_ldR _ _ _ _ _ W (HO.out W hW)) ?_
            go_frame
            refine q_run (.int .i64 (i : Int)) (by kernel_rfl) (fun W hW => by kernel_rfl) ?_
            go_frame
            refine q_run (.int .i64 ((i : Int) - 1)) (by kernel_rfl) (fun W hW => by go_simp) ?_
            go_frame
            refine q_index (.pointer (some ⟨b, off + (i - 1) * 2, none⟩)) (by kernel_rfl) rfl (by kernel_rfl) (by kernel_rfl) (bk_ixS1 b off S.length cap i hlt hip) ?_
            go_frame
            refine q_run (.pointer (some ⟨b, off + (i - 1) * 2, none⟩)) (by kernel_rfl) (fun W hW => by kernel_rfl) ?_
            go_frame
            refine q_load (.slice lp (atSr S (i - 1)).1.length lpc) (by kernel_rfl) rfl (by kernel_rfl) (fun W hW => bk_ldL _ _ _ _ _ W (HPr.out W hW)) ?_
            go_frame
            refine q_run (.pointer (some ⟨bx, 0, none⟩)) (by kernel_rfl) (fun W hW => by kernel_rfl) ?_
            go_frame
            refine q_load (.slice lo x.1.length lc) (by kernel_rfl) rfl (by kernel_rfl) (fun W hW => bk_ldL _ _ _ _ _ W (HXx.out W hW)) ?_
            go_frame
            refine q_call (.int .i64 cm) (by kernel_rfl) (fun W => by kernel_rfl) (HCm.out) ?_
            go_frame
            refine q_run (.bool true) (by kernel_rfl) (fun W hW => by go_simp) ?_
            go_frame
            refine q_run (.bool true) (by kernel_rfl) (fun W hW => by kernel_rfl) ?_
            go_frame
            refine wpQuiet_nil ?_
            intro w4 hb4
            have HB4 := hid (HB3.out.trans (hb4.mono HB3.out.size))
            clear hb4 HCm
            go_wp2_with fail
            go_ret
            exact ⟨by rw [HBd.out]; rfl, HB4.out⟩
          · have hge' : ¬ 0 ≤ cm := hge
            have HN := hid (HNx.out HF.out (fun _ => by omega))
            go_upto_region 8 with fail
            refine wp_region_class (fun W => Below w2.heap.size w2 W) (by kernel_rfl) (by kernel_rfl) (Below.refl _ w2).drew ?_
            refine q_run (.int .i64 (i : Int)) (by kernel_rfl) (fun W hW => by kernel_rfl) ?_
            go_frame
            refine q_run (.bool true) (by kernel_rfl) (fun W hW => by go_simp) ?_
            go_frame
            refine q_run (.bool true) (by kernel_rfl) (fun W hW => by kernel_rfl) ?_
            go_frame
            refine q_run (.pointer (some ⟨w.heap.size, 2, none⟩)) (by kernel_rfl) (fun W hW => by kernel_rfl) ?_
            go_frame
            refine q_load (.slice (some ⟨b, off, none⟩) S.length cap) (by kernel_rfl) rfl (by kernel_rfl) (fun W hW => bk_ldR _ _ _ _ _ W (HO.out W hW)) ?_
            go_frame
            refine q_run (.int .i64 (i : Int)) (by kernel_rfl) (fun W hW => by kernel_rfl) ?_
            go_frame
            refine q_run (.int .i64 ((i : Int) - 1)) (by kernel_rfl) (fun W hW => by go_simp) ?_
            go_frame
            refine q_index (.pointer (some ⟨b, off + (i - 1) * 2, none⟩)) (by kernel_rfl) rfl (by kernel_rfl) (by kernel_rfl) (bk_ixS1 b off S.length cap i hlt hip) ?_
            go_frame
            refine q_run (.pointer (some ⟨b, off + (i - 1) * 2, none⟩)) (by kernel_rfl) (fun W hW => by kernel_rfl) ?_
            go_frame
            refine q_load (.slice lp (atSr S (i - 1)).1.length lpc) (by kernel_rfl) rfl (by kernel_rfl) (fun W hW => bk_ldL _ _ _ _ _ W (HPr.out W hW)) ?_
            go_frame
            refine q_run (.pointer (some ⟨bx, 0, none⟩)) (by kernel_rfl) (fun W hW => by kernel_rfl) ?_
            go_frame
            refine q_load (.slice lo x.1.length lc) (by kernel_rfl) rfl (by kernel_rfl) (fun W hW => bk_ldL _ _ _ _ _ W (HXx.out W hW)) ?_
            go_frame
            refine q_call (.int .i64 cm) (by kernel_rfl) (fun W => by kernel_rfl) (HCm.out) ?_
            go_frame
            refine q_run (.bool false) (by kernel_rfl) (fun W hW => by go_simp) ?_
            go_frame
            refine q_run (.bool false) (by kernel_rfl) (fun W hW => by kernel_rfl) ?_
            go_frame
            refine wpQuiet_nil ?_
            intro w4 hb4
            have HB4 := hid (HB3.out.trans (hb4.mono HB3.out.size))
            have HO4 := hid ((hb4.block _ (heap_lt HO3.out)).trans HO3.out)
            clear hb4 HCm
            go_wp2_with fail
            go_roundw
            case rel => exact ⟨i + 1, by omega, by go_num, HB4.out, HO4.out, HN.out⟩
            case measure => simp [intOf]; omega
    · have he : i = S.length := by omega
      have HF : Hid (BK.right tp old S = true) := by
        show _ = _
        rw [HE.out]
        exact BK.ser_ok (he ▸ HOk.out)
      subst he
      go_wp2_with fail
      go_ret
      exact ⟨by rw [HF.out]; rfl, HBl.out⟩

end Go.Proofs.YtdmnlmohfaafoaeDoor

