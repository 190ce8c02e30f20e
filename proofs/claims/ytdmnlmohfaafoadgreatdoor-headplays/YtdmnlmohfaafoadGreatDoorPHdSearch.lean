/- The search among series by their labels. -/
import Derived.Test.YtdmnlmohfaafoadGreatDoorPHdHead
import Derived.Test.YtdmnlmohfaafoadGreatDoorPHxCmp
namespace Go.Proofs.YtdmnlmohfaafoadGreatDoor
open Go.RowKit

theorem come1_any (x : List LB.Lab) (L : List LB.Lab) (lo so ko : Option Addr) (lc sn sc kc : Nat) (w : World) (hL : LRow w lo x) (hK : LRow w ko L) (h1 : x.length ≤ 1000) (h2 : L.length ≤ 1000) :
    Calls Tryz.prog 80 #[.agg #[.slice lo x.length lc, .slice so sn sc], .slice ko L.length kc] w fun e w' => e = .returned (.int .i64 (LB.cmp x L)) ∧ Below w.heap.size w w' := by
  have hbel0 : Below w.heap.size w (w.alloc (.cells #[.slice lo x.length lc, .slice so sn sc] 55)) := (Below.refl _ w).alloc (Nat.le_refl _) _
  have HC := hid (cmp_any lo ko x L lc kc (w.alloc (.cells #[.slice lo x.length lc, .slice so sn sc] 55)) (hL.below hbel0) (hK.below hbel0) h1 h2)
  have HB0 := hid hbel0
  clear hbel0 hL hK
  go_enter Tryz.func80, Tryz.ntmps80
  go_wp2_with fail
  refine HC.out.mono ?_
  rintro e w2 ⟨rfl, hb⟩
  have HB := hid (bel2 HB0.out hb)
  clear hb
  go_wp2_with fail
  go_ret
  exact ⟨rfl, HB.out⟩

set_option maxRecDepth 100000 in
set_option maxHeartbeats 1600000 in
theorem bsearch_any (ao ko : Option Addr) (S : List Sr) (L : List LB.Lab) (cap kc : Nat) (w : World) (hS : SrRow w ao S) (hK : LRow w ko L) (hO : HD.Ord S) (hn : S.length ≤ 1000) (hls : ∀ i, i < S.length → (atSr S i).1.length ≤ 1000) (hl : L.length ≤ 1000) :
    Calls Tryz.prog 79 #[.slice ao S.length cap, .slice ko L.length kc, .func (.func 80) #[] #[]] w fun e w' => e = .returned (.tuple #[.int .i64 (HD.pos S L : Int), .bool (HD.there S L)]) ∧ Below w.heap.size w w' := by
  have HS := hid hS
  have HO := hid hO
  have HLs := hid hls
  have HC : Hid (∀ W, Below w.heap.size w W → ∀ x lo so (lc sn sc : Nat), LRow W lo x → x.length ≤ 1000 → Calls Tryz.prog 80 #[.agg #[.slice lo x.length lc, .slice so sn sc], .slice ko L.length kc] W fun e w' => e = .returned (.int .i64 (LB.cmp x L)) ∧ Below W.heap.size W w') := fun W hW x lo so lc sn sc hx h1 => come1_any x L lo so ko lc sn sc kc W hx (hK.below hW) h1 hl
  have hpl := HD.pos_le S L
  clear hS hO hls hK hl
  go_enter Tryz.func79, Tryz.ntmps79
  go_wp2_with fail
  go_loopw [9, 10] (fun ti tj wr => ∃ i j : Nat, i ≤ j ∧ j ≤ S.length ∧ ti = .int .i64 i ∧ tj = .int .i64 j ∧ (∀ k, k < i → LB.cmp (atSr S k).1 L = -1) ∧ (∀ k, j ≤ k → k < S.length → LB.cmp (atSr S k).1 L ≠ -1) ∧ Below w.heap.size w wr) (fun ti tj _ => (intOf tj).toNat - (intOf ti).toNat)
  case atStart => exact ⟨0, S.length, by omega, by omega, rfl, rfl, fun k hk => by omega, fun k h1 h2 => by omega, Below.refl _ _⟩
  case round =>
    obtain ⟨i, j, hij, hjn, rfl, rfl, h1, h2, hbel⟩ := hrel
    have H1 := hid h1
    have H2 := hid h2
    have HB := hid hbel
    clear h1 h2 hbel
    by_cases hlt : i < j
    · obtain ⟨m, hm⟩ : ∃ m : Nat, m = (i + j) / 2 := ⟨_, rfl⟩
      have hmn : m < S.length := by omega
      obtain ⟨b, off, hao, hbs, lo, lc, so, sc, hc0, hc1, hL, _⟩ := HS.out m hmn
      subst hao
      have e0 : wr.cell? ⟨b, off + m * 2, none⟩ = some (.slice lo (atSr S m).1.length lc) := (HB.out.cell (p := ⟨b, _, none⟩) hbs).trans hc0
      have e1 : wr.cell? ⟨b, off + m * 2 + 1, none⟩ = some (.slice so (atSr S m).2.length sc) := (HB.out.cell (p := ⟨b, _, none⟩) hbs).trans hc1
      have HCm := hid (HC.out wr HB.out (atSr S m).1 lo so lc (atSr S m).2.length sc (hL.below HB.out) (HLs.out m hmn))
      clear hc0 hc1 hL
      generalize hcm : LB.cmp (atSr S m).1 L = cm at *
      have HCmp := hid hcm
      clear hcm
      generalize (atSr S m).1.length = ln at *
      generalize (atSr S m).2.length = sn at *
      have w1 : IntKind.i64.wrap ((i : Int) + j) = (i : Int) + j := by rw [IntKind.wrap_i64]; omega
      have hdiv : ((i : Int) + j) / 2 = (m : Int) := by omega
      have hHm := hid hm
      have hml : 0 ≤ (m : Int) ∧ (m : Int) < (S.length : Int) := by omega
      have hmi : i ≤ m := by omega
      have hmj : m < j := by omega
      clear hm
      go_wp2_with fail
      refine HCm.out.mono ?_
      rintro e w2 ⟨rfl, hb2⟩
      have HB2 := hid (bel2 HB.out hb2)
      clear hb2 HCm
      by_cases hneg : cm < 0
      · go_wp2_with fail
        go_roundw
        case rel =>
          have hc1 : LB.cmp (atSr S m).1 L = -1 := by
            rcases LB.cmp_ord.rng (atSr S m).1 L with h | h | h
            · exact h
            · rw [HCmp.out] at h; omega
            · rw [HCmp.out] at h; omega
          refine ⟨m + 1, j, by omega, hjn, by go_num, rfl, fun k hk => ?_, H2.out, HB2.out⟩
          rcases Nat.lt_or_ge k i with h | h
          · exact H1.out k h
          · rcases Nat.eq_or_lt_of_le (Nat.le_of_lt_succ hk) with h3 | h3
            · rw [h3]; exact hc1
            · have h4 := HD.ord_at HO.out k m h3 hmn
              exact LB.cmp_ord.tr _ _ _ h4 hc1
        case measure => simp [intOf]; omega
      · go_wp2_with fail
        go_roundw
        case rel =>
          have hc1 : LB.cmp (atSr S m).1 L ≠ -1 := fun h => by rw [HCmp.out] at h; omega
          refine ⟨i, m, by omega, by omega, rfl, rfl, H1.out, fun k h3 h4 => ?_, HB2.out⟩
          rcases Nat.eq_or_lt_of_le h3 with h5 | h5
          · rw [← h5]; exact hc1
          · intro h6
            exact hc1 (LB.cmp_ord.tr _ _ _ (HD.ord_at HO.out m k h5 h4) h6)
        case measure => simp [intOf]; omega
    · have he : i = j := by omega
      subst he
      have hpos : i = HD.pos S L := HD.pos_of HO.out L i hjn H1.out H2.out
      have HP := hid hpos
      by_cases hin : i < S.length
      · obtain ⟨b, off, hao, hbs, lo, lc, so, sc, hc0, hc1, hL, _⟩ := HS.out i hin
        subst hao
        have e0 : wr.cell? ⟨b, off + i * 2, none⟩ = some (.slice lo (atSr S i).1.length lc) := (HB.out.cell (p := ⟨b, _, none⟩) hbs).trans hc0
        have e1 : wr.cell? ⟨b, off + i * 2 + 1, none⟩ = some (.slice so (atSr S i).2.length sc) := (HB.out.cell (p := ⟨b, _, none⟩) hbs).trans hc1
        have HCm := hid (HC.out wr HB.out (atSr S i).1 lo so lc (atSr S i).2.length sc (hL.below HB.out) (HLs.out i hin))
        clear hc0 hc1 hL hpos hpl
        generalize hcm : LB.cmp (atSr S i).1 L = cm at *
        have HCmp := hid hcm
        clear hcm
        generalize (atSr S i).1.length = ln at *
        generalize (atSr S i).2.length = sn at *
        have hml : 0 ≤ (i : Int) ∧ (i : Int) < (S.length : Int) := by omega
        go_wp2_with fail
        refine HCm.out.mono ?_
        rintro e w2 ⟨rfl, hb2⟩
        have HB2 := hid (bel2 HB.out hb2)
        clear hb2 HCm
        go_wp2_with fail
        go_ret2
        have ht : HD.there S L = (cm == 0) := by
          unfold HD.there
          rw [← HP.out, HCmp.out, Bool.eq_iff_iff, decide_eq_true_iff, beq_iff_eq]
          exact ⟨fun h => h.2, fun h => ⟨hin, h⟩⟩
        exact ⟨by rw [ht, ← HP.out]; rfl, HB2.out⟩
      · clear hpos hpl
        go_wp2_with fail
        go_ret2
        have ht : HD.there S L = false := by
          unfold HD.there
          rw [← HP.out]
          exact decide_eq_false (fun h => hin h.1)
        exact ⟨by rw [ht, ← HP.out]; rfl, HB.out⟩

end Go.Proofs.YtdmnlmohfaafoadGreatDoor

