/- BlockSets, by what block's functions tell. -/
import Derived.Test.YtdmnlmohfaafoaePMBkMs
import Derived.Test.YtdmnlmohfaafoaePMBmGoes
import Derived.Test.YtdmnlmohfaafoaePMBkRefRH
import Derived.Test.YtdmnlmohfaafoaePMHsShortL
import Derived.Test.YtdmnlmohfaafoaePMHsSame
namespace Go.Proofs.Ytdmnlmohfaafoae
open Go.RowKit

theorem shS_limB {l : List Sr} (h : shS l = true) : l.length ≤ 20 ∧ ∀ i, i < l.length → (atSr l i).1.length ≤ 20 ∧ (atSr l i).2.length ≤ 60 ∧ Shrt (atSr l i).1 := by
  unfold shS at h
  have h1 := decide_eq_true_iff.1 h
  refine ⟨h1.1, fun i hi => ?_⟩
  obtain ⟨h2, h3⟩ := h1.2 i hi
  unfold shL at h2
  have h4 := decide_eq_true_iff.1 h2
  exact ⟨h4.1, h3, fun j hj => by have := h4.2 j hj; omega⟩

theorem shM_limB {l : List LB.Mat} (h : shM l = true) : l.length ≤ 20 ∧ ShrM l := by
  unfold shM at h
  have h1 := of_decide_eq_true h
  exact ⟨h1.1, h1.2⟩

theorem ms_in {w : World} {ao : Option Addr} {a : List Sr} (hS : SrRow w ao a) (hC : CapR w ao a) (hG : HD.Good a) (hs : ∀ i, i < a.length → (atSr a i).2.length ≤ 60) {W : World} (k : Below w.heap.size w W) : MsIn W (fun _ => False) ao a := by
  refine ⟨SrOut.of_row (hS.below k) (fun _ h => h.elim), hG.ord, by have := hG.few; omega, fun i hi => ?_, fun i hi => ?_, fun i hi b off e v hv => ?_⟩
  · have := right_len (hG.ok _ (HD.at_mem a i hi)).1
    omega
  · have hok := hG.ok _ (HD.at_mem a i hi)
    exact ⟨hs i hi, hok.2.2.2, CL.rising_of_right _ hok.2.1⟩
  · obtain ⟨b2, off2, e2, hb2, _⟩ := hS i hi
    rw [e] at e2
    cases e2
    exact hC i hi b off e v ((k.cell (p := ⟨b, _, none⟩) hb2).symm.trans hv)

set_option maxRecDepth 100000 in
set_option maxHeartbeats 3200000 in
theorem bsets_any (ao bo go : Option Addr) (a b : List Sr) (gs : List Gn) (ca cb cg : Nat) (w : World) (hA : SrRow w ao a) (hB : SrRow w bo b) (hG : GRow w go gs) (hRa : ∀ i, i < a.length → ∀ x ∈ (atSr a i).2, CL.Rs x) (hRb : ∀ i, i < b.length → ∀ x ∈ (atSr b i).2, CL.Rs x) (hCa : CapR w ao a) (hCb : CapR w bo b)
    (hWo : HD.Good a → gs.length ≤ 10 → (∀ i, i < gs.length → (atG gs i).M.length ≤ 20 ∧ LB.asked (atG gs i).M = true) → ∀ W, Below w.heap.size w W → Calls Try.prog 11 #[.slice ao a.length ca, .slice go gs.length cg] W fun e w' => ∃ ao2 cap2, e = .returned (.slice ao2 (leftG a gs).length cap2) ∧ SrRow w' ao2 (leftG a gs) ∧ Below W.heap.size W w')
    (hMe : HD.Good a → HD.Good b → (∀ i, i < a.length → (atSr a i).2.length ≤ 60) → (∀ i, i < b.length → (atSr b i).2.length ≤ 60) → ∀ W, Below w.heap.size w W → Calls Try.prog 12 #[.slice ao a.length ca, .slice bo b.length cb] W fun e w' => ∃ ao2 cap2, e = .returned (.slice ao2 (HD.jn a b).length cap2) ∧ SrRow w' ao2 (HD.jn a b) ∧ Below W.heap.size W w') :
    Calls Try.prog 3 #[.slice ao a.length ca, .slice bo b.length cb, .slice go gs.length cg] w fun e w' => e = .returned (.bool true) ∧ Below w.heap.size w w' := by
  have HA := hid hA
  have HB := hid hB
  have HG := hid hG
  have HRa := hid hRa
  have HRb := hid hRb
  have HCa := hid hCa
  have HCb := hid hCb
  have HWo := hid hWo
  have HMe := hid hMe
  clear hA hB hG hRa hRb hCa hCb hWo hMe
  go_enter Try.func3, Try.ntmps3
  go_wp2_with fail
  refine (shS_any ao a ca w HA.out).mono ?_
  rintro e w1 ⟨rfl, rfl⟩
  rcases hsa : shS a with _ | _
  · go_wp2_with fail
    go_ret
    exact ⟨rfl, Below.refl _ _⟩
  · obtain ⟨ha20, hal⟩ := shS_limB hsa
    have HAl := hid hal
    clear hsa hal
    go_wp2_with fail
    refine (shS_any bo b cb w1 HB.out).mono ?_
    rintro e w2 ⟨rfl, rfl⟩
    rcases hsb : shS b with _ | _
    · go_wp2_with fail
      go_ret
      exact ⟨rfl, Below.refl _ _⟩
    · obtain ⟨hb20, hbl⟩ := shS_limB hsb
      have HBl := hid hbl
      clear hsb hbl
      by_cases hlong : 10 < gs.length
      · have hl' : (10 : Int) < (gs.length : Int) := by omega
        go_wp2_with fail
        go_ret
        exact ⟨rfl, Below.refl _ _⟩
      · have hl' : ¬ (10 : Int) < (gs.length : Int) := by omega
        have hb0 : Below w2.heap.size w2 ((w2.alloc (.cells #[.int .i64 1099511627776, .int .i64 0, .slice ao a.length ca] 26)).alloc (.cells #[.int .i64 1099511627776, .int .i64 0, .slice bo b.length cb] 26)) := ((Below.refl _ w2).alloc (Nat.le_refl _) _).alloc (by simp) _
        have HB0 := hid hb0
        clear hb0
        have hY3 : ((w2.alloc (.cells #[.int .i64 1099511627776, .int .i64 0, .slice ao a.length ca] 26)).alloc (.cells #[.int .i64 1099511627776, .int .i64 0, .slice bo b.length cb] 26)).heap[w2.heap.size + 1]? = some (.cells #[.int .i64 1099511627776, .int .i64 0, .slice bo b.length cb] 26) := by
          have := heap_alloc_new (w2.alloc (.cells #[.int .i64 1099511627776, .int .i64 0, .slice ao a.length ca] 26)) (.cells #[.int .i64 1099511627776, .int .i64 0, .slice bo b.length cb] 26)
          rwa [show (w2.alloc (.cells #[.int .i64 1099511627776, .int .i64 0, .slice ao a.length ca] 26)).heap.size = w2.heap.size + 1 by simp] at this
        have HY3 := hid hY3
        clear hY3
        go_wp2_with fail
        generalize (w2.alloc (.cells #[.int .i64 1099511627776, .int .i64 0, .slice ao a.length ca] 26)).alloc (.cells #[.int .i64 1099511627776, .int .i64 0, .slice bo b.length cb] 26) = w3 at HB0 HY3 ⊢
        refine (rbright_any ao a ca 1099511627776 0 w3 (HA.out.below HB0.out) (by omega) (fun i hi => by have := HAl.out i hi; omega) (fun i hi => (HAl.out i hi).2.2)).mono ?_
        rintro e w4 ⟨rfl, hb4⟩
        have HB4 := hid (HB0.out.trans (hb4.mono HB0.out.size))
        have hY4 := (hb4.block _ (heap_lt HY3.out)).trans HY3.out
        have m0 : w4.cell? ⟨w2.heap.size + 1, 0, none⟩ = some (.int .i64 1099511627776) := zcell' _ _ _ _ hY4 0 _ rfl
        have m1 : w4.cell? ⟨w2.heap.size + 1, 1, none⟩ = some (.int .i64 0) := zcell' _ _ _ _ hY4 1 _ rfl
        have m2 : w4.cell? ⟨w2.heap.size + 1, 2, none⟩ = some (.slice bo b.length cb) := zcell' _ _ _ _ hY4 2 _ rfl
        clear hb4 hY4 HY3 HB0
        rcases hra : BK.right 1099511627776 0 a with _ | _
        · go_wp2_with fail
          go_ret
          exact ⟨rfl, HB4.out⟩
        · have HGa := hid (right_good hra (by omega) HRa.out)
          clear hra
          go_wp2_with fail
          refine (rbright_any bo b cb 1099511627776 0 w4 (HB.out.below HB4.out) (by omega) (fun i hi => by have := HBl.out i hi; omega) (fun i hi => (HBl.out i hi).2.2)).mono ?_
          rintro e w5 ⟨rfl, hb5⟩
          have HB5 := hid (HB4.out.trans (hb5.mono HB4.out.size))
          clear hb5 HB4 m0 m1 m2
          rcases hrb : BK.right 1099511627776 0 b with _ | _
          · go_wp2_with fail
            go_ret
            exact ⟨rfl, HB5.out⟩
          · have HGb := hid (right_good hrb (by omega) HRb.out)
            clear hrb
            go_wp2_with fail
            go_loopw [9, 10] (fun t9 ti wr => ∃ k : Nat, k ≤ gs.length ∧ ti = .int .i64 k ∧ ∃ aoL capL, t9 = .slice aoL (leftG a (gs.take k)).length capL ∧ SrRow wr aoL (leftG a (gs.take k)) ∧ Below w2.heap.size w2 wr ∧ ∀ i, i < k → (atG gs i).M.length ≤ 20 ∧ LB.asked (atG gs i).M = true) (fun _ ti _ => gs.length - (intOf ti).toNat)
            case atStart => exact ⟨0, Nat.zero_le _, rfl, ao, ca, rfl, HA.out.below HB5.out, HB5.out, fun i hi => by omega⟩
            case round =>
              clear HB5
              obtain ⟨k, hk, rfl, aoL, capL, rfl, hrow, hbel, hask⟩ := hrel
              have HRow := hid hrow
              have HBl2 := hid hbel
              have HAsk := hid hask
              clear hrow hbel hask
              by_cases hlt : k < gs.length
              · obtain ⟨gb, goff, hgo, hgs, mo, mc, d0, d1, d2, hM⟩ := HG.out k hlt
                subst hgo
                have c0 := (HBl2.out.cell (p := ⟨gb, goff + k * 3, none⟩) hgs).trans d0
                have c1 := (HBl2.out.cell (p := ⟨gb, goff + k * 3 + 1, none⟩) hgs).trans d1
                have c2 := (HBl2.out.cell (p := ⟨gb, goff + k * 3 + 2, none⟩) hgs).trans d2
                have HM := hid hM
                have HNx := hid (leftG_next a gs k hlt)
                have HGd := hid (leftG_good HGa.out (gs.take k))
                have hAk : ∀ (h1 : (atG gs k).M.length ≤ 20) (h2 : LB.asked (atG gs k).M = true), ∀ i, i < k + 1 → (atG gs i).M.length ≤ 20 ∧ LB.asked (atG gs i).M = true := fun h1 h2 i hi => by
                  by_cases e : i = k
                  · rw [e]; exact ⟨h1, h2⟩
                  · exact HAsk.out i (by omega)
                have HAk := hid hAk
                clear d0 d1 d2 hM hAk
                generalize atG gs k = g at *
                obtain ⟨gM, gf, gt⟩ := g
                simp only at c0 c1 c2
                generalize leftG a (gs.take k) = SL at *
                have hil : 0 ≤ (k : Int) ∧ (k : Int) < (gs.length : Int) := by omega
                go_wp2_with fail
                refine (shM_any mo gM mc wr (HM.out.below HBl2.out)).mono ?_
                rintro e w6 ⟨rfl, rfl⟩
                rcases hsm : shM gM with _ | _
                · go_wp2_with fail
                  go_ret
                  exact ⟨rfl, HBl2.out⟩
                · obtain ⟨hm20, hms⟩ := shM_limB hsm
                  have HMs := hid hms
                  clear hsm hms
                  go_wp2_with fail
                  refine (rasked_any mo gM mc w6 (HM.out.below HBl2.out) (by omega) HMs.out).mono ?_
                  rintro e w7 ⟨rfl, hb7⟩
                  have HB7 := hid (HBl2.out.trans (hb7.mono HBl2.out.size))
                  have HR7 := hid (HRow.out.below hb7)
                  have e0 := (hb7.cell (p := ⟨gb, goff + k * 3, none⟩) (World.block_lt_of_cell? _ _ c0)).trans c0
                  have e1 := (hb7.cell (p := ⟨gb, goff + k * 3 + 1, none⟩) (World.block_lt_of_cell? _ _ c1)).trans c1
                  have e2 := (hb7.cell (p := ⟨gb, goff + k * 3 + 2, none⟩) (World.block_lt_of_cell? _ _ c2)).trans c2
                  clear hb7 c0 c1 c2 HBl2 HRow
                  rcases hak : LB.asked gM with _ | _
                  · go_wp2_with fail
                    go_ret
                    exact ⟨rfl, HB7.out⟩
                  · have HOp := hid (fun i hi => asked_opB hak i hi)
                    have HAk2 := hid (HAk.out hm20 hak)
                    clear hak HAk
                    go_wp2_with fail
                    refine (goes_any mo gM.length mc gf gt w7).mono ?_
                    rintro e w8 ⟨rfl, rfl⟩
                    have hal : Below w7.heap.size w7 (w7.alloc (.cells #[.slice mo gM.length mc, .int .i64 gf, .int .i64 gt] 31)) := (Below.refl _ w7).alloc (Nat.le_refl _) _
                    have hXg := heap_alloc_new w7 (.cells #[.slice mo gM.length mc, .int .i64 gf, .int .i64 gt] 31)
                    have HB8 := hid (HB7.out.trans (hal.mono HB7.out.size))
                    have HS8 := hid (SrOut.of_row (Z := fun _ => False) (HR7.out.below hal) (fun _ h => h.elim))
                    have HXg := hid hXg
                    clear hal hXg HR7 HB7
                    generalize w7.alloc (.cells #[.slice mo gM.length mc, .int .i64 gf, .int .i64 gt] 31) = w8 at HB8 HS8 HXg ⊢
                    generalize w7.heap.size = bg at HXg ⊢
                    have HPa := hid (part_any aoL SL capL 21 #[.pointer (some ⟨bg, 0, none⟩)] (goG ⟨gM, gf, gt⟩) (fun _ => False) w8 HS8.out (by have := HGd.out.few; omega) (fun i hi => by have h2 := right_le (HGd.out.ok _ (HD.at_mem SL i hi)).2.1; have h1 := right_len (HGd.out.ok _ (HD.at_mem SL i hi)).1; omega) (enters_of Try.func21 (by kernel_rfl) rfl) (fun W hW lo L lc t hLr hLl => goes1_any lo mo L gM lc mc t gf gt bg W ((hW.block bg (heap_lt HXg.out)).trans HXg.out) hLr (HM.out.below (bel2 HB8.out hW)) hLl (by omega) HOp.out))
                    go_wp2_with fail
                    refine HPa.out.mono ?_
                    rintro e w9 ⟨vy, vn, rfl, xy, xn, hpb⟩
                    obtain ⟨aN, cN, eN, hN⟩ := hpb.no.out (fun j hj => hj.elim)
                    obtain ⟨aY, cY, eY, hY⟩ := hpb.yes.out (fun j hj => hj.elim)
                    subst eN eY
                    have HB9 := hid (HB8.out.trans (hpb.no.bel.mono HB8.out.size))
                    have HN9 := hid hN.row
                    clear hpb hN hY HPa HB8 HS8 HXg e0 e1 e2
                    have HNx2 := hid HNx.out.symm
                    clear HNx
                    generalize HD.kp (fun L t => !goG ⟨gM, gf, gt⟩ L t) SL = SN at *
                    generalize HD.kp (goG ⟨gM, gf, gt⟩) SL = SY at *
                    go_wp2_with fail
                    go_roundw
                    case rel =>
                      refine ⟨k + 1, by omega, by go_num, aN, cN, ?_, ?_, HB9.out, HAk2.out⟩
                      · rw [← HNx2.out]
                      · rw [← HNx2.out]; exact HN9.out
                    case measure => simp [intOf]; omega
              · have he : k = gs.length := by omega
                subst he
                rw [List.take_length]
                have HRow2 : Hid (SrRow wr aoL (leftG a gs)) := by have := HRow.out; rwa [List.take_length] at this
                have HW2 := hid (HWo.out HGa.out (by omega) HAsk.out)
                have HM2 := hid (HMe.out HGa.out HGb.out (fun i hi => (HAl.out i hi).2.1) (fun i hi => (HBl.out i hi).2.1))
                have HFw := hid (good_fewB (leftG_good HGa.out gs))
                have HFj := hid (jn_few HGa.out HGb.out)
                clear HRow HWo HMe
                generalize leftG a gs = SL at *
                go_wp2_with fail
                refine (HW2.out wr HBl2.out).mono ?_
                rintro e w6 ⟨a6, c6, rfl, hr6, hb6⟩
                have HB6 := hid (HBl2.out.trans (hb6.mono HBl2.out.size))
                have HSm := hid (sameSr_any a6 aoL SL c6 capL w6 hr6 (HRow2.out.below hb6) HFw.out)
                clear hr6 hb6 HRow2 HBl2 HW2
                go_wp2_with fail
                refine HSm.out.mono ?_
                rintro e w7 ⟨rfl, n7, rfl⟩
                have HB7 := hid (HB6.out.trans (show Below w2.heap.size w6 (w6.drewN n7) from ⟨rfl, rfl, rfl, Nat.le_refl _, fun _ _ => rfl⟩))
                clear HSm HB6
                generalize w6.drewN n7 = w7 at HB7 ⊢
                go_wp2_with fail
                refine (HM2.out w7 HB7.out).mono ?_
                rintro e w8 ⟨a8, c8, rfl, hr8, hb8⟩
                have HB8 := hid (HB7.out.trans (hb8.mono HB7.out.size))
                have HR8 := hid hr8
                have HMs := hid (rmser_any ao bo a b ca cb (fun _ => False) w8 (ms_in HA.out HCa.out HGa.out (fun i hi => (HAl.out i hi).2.1) HB8.out) (ms_in HB.out HCb.out HGb.out (fun i hi => (HBl.out i hi).2.1) HB8.out) (fun _ h => h.elim))
                clear hr8 hb8 HM2 HB7
                generalize HD.jn a b = JJ at *
                go_wp2_with fail
                refine HMs.out.mono ?_
                rintro e w9 ⟨v9, rfl, ys9, hrb9⟩
                obtain ⟨a9, c9, e9, hs9⟩ := hrb9.out (fun _ h => h.elim)
                subst e9
                have HB9 := hid (HB8.out.trans (hrb9.bel.mono HB8.out.size))
                have HSm := hid (sameSr_any a8 a9 JJ c8 c9 w9 (HR8.out.below hrb9.bel) hs9.row HFj.out)
                clear hrb9 hs9 HMs HB8 HR8
                go_wp2_with fail
                refine HSm.out.mono ?_
                rintro e wA ⟨rfl, nA, rfl⟩
                have HBA := hid (HB9.out.trans (show Below w2.heap.size w9 (w9.drewN nA) from ⟨rfl, rfl, rfl, Nat.le_refl _, fun _ _ => rfl⟩))
                clear HSm HB9
                go_wp2_with fail
                go_ret
                exact ⟨rfl, HBA.out⟩

end Go.Proofs.Ytdmnlmohfaafoae

