/- What the law CodeSeries answers (made by mksl.py). -/
import Derived.Test.YtdmnlmohfaafoadGreatDoorCwRef
import Derived.Test.YtdmnlmohfaafoadGreatDoorCrAll
import Derived.Test.YtdmnlmohfaafoadGreatDoorCrPln
import Derived.Test.YtdmnlmohfaafoadGreatDoorCdRead
import Derived.Test.YtdmnlmohfaafoadGreatDoorCsSame
import Derived.Test.YtdmnlmohfaafoadGreatDoorCsShortL
import Derived.Test.YtdmnlmohfaafoadGreatDoorBtIs
namespace Go.Proofs.YtdmnlmohfaafoadGreatDoor
open Go.RowKit

theorem shS_sh {l : List Sr} (h : shS l = true) (hR : ∀ i, i < l.length → ∀ s ∈ (atSr l i).2, CL.Rs s) : SrSh l ∧ l.length ≤ 20 := by
  have h1 := of_decide_eq_true h
  refine ⟨⟨by omega, fun i hi => ?_⟩, h1.1⟩
  obtain ⟨h2, h3⟩ := h1.2 i hi
  have h4 := of_decide_eq_true h2
  refine ⟨fun j hj => ?_, h4.1, by omega, hR i hi⟩
  have := h4.2 j hj
  omega

/-- Beyond what is held. -/
theorem csl_long (ao : Option Addr) (l : List Sr) (cap : Nat) (s : ByteArray) (w : World) (hR : SrRow w ao l) (h : shS l = false ∨ 1500 < s.size) :
    Calls Tryz.prog 3 #[.slice ao l.length cap, .string s] w fun e w' => e = .returned (.bool true) ∧ Below w.heap.size w w' := by
  have HC := hid (shS_any ao l cap w hR)
  clear hR
  cases hq : shS l with
  | false =>
    rw [hq] at HC
    clear hq h
    go_enter Tryz.func3, Tryz.ntmps3
    go_wp2_with fail
    refine HC.out.mono ?_
    rintro e w1 ⟨rfl, rfl⟩
    go_wp2_with fail
    go_ret
    exact ⟨rfl, Below.refl _ _⟩
  | true =>
    rw [hq] at HC
    have h1 : (1500 : Int) < (s.size : Int) := by
      rcases h with h | h
      · rw [hq] at h; cases h
      · omega
    clear hq h
    go_enter Tryz.func3, Tryz.ntmps3
    go_wp2_with fail
    refine HC.out.mono ?_
    rintro e w1 ⟨rfl, rfl⟩
    go_wp2_with fail
    go_ret
    exact ⟨rfl, Below.refl _ _⟩

set_option maxRecDepth 100000 in
set_option maxHeartbeats 3200000 in
theorem csl_any (ao : Option Addr) (l : List Sr) (cap : Nat) (s : ByteArray) (w : World) (hR : SrRow w ao l) (hRs : ∀ i, i < l.length → ∀ s ∈ (atSr l i).2, CL.Rs s) (hq : shS l = true) (hs : s.size ≤ 1500) (hW : Wids w) (hE : ErrT w) (hF : FineT w) :
    Calls Tryz.prog 3 #[.slice ao l.length cap, .string s] w fun e w' => e = .returned (.bool true) ∧ Below w.heap.size w w' := by
  have hG : 1 < w.heap.size := World.block_lt_of_cell? _ _ (hW 0 (by omega))
  have hGe : 2 < w.heap.size := hE.lt
  obtain ⟨hsh, hl20⟩ := shS_sh hq hRs
  have HC0 := shS_any ao l cap w hR
  rw [hq] at HC0
  have HC0 := hid HC0
  have HC1 := hid (rwser_any ao l cap w hR hsh hF)
  have HR := hid hR
  have HSh := hid hsh
  have HW := hid hW
  have HEr := hid hE
  have hs1 : ¬ (1500 : Int) < (s.size : Int) := by omega
  clear hR hRs hq hsh hW hE hF
  go_enter Tryz.func3, Tryz.ntmps3
  go_wp2_with fail
  refine HC0.out.mono ?_
  rintro e w1 ⟨rfl, rfl⟩
  clear HC0
  go_wp2_with fail
  refine HC1.out.mono ?_
  rintro e w2 ⟨hb2, hend2⟩
  have HB2 := hid hb2
  clear hb2 HC1
  rcases hend2 with ⟨hok, rfl⟩ | ⟨i, hi1, hi2, hi3, rfl⟩
  · have hb3 : Below w1.heap.size w1 (w2.alloc (.cells #[.int .i64 0, .int .i64 (-1)] 26)) := HB2.out.alloc HB2.out.size _
    have HB3 := hid hb3
    have HC2 := hid (cser_any ao l cap (w2.alloc (.cells #[.int .i64 0, .int .i64 (-1)] 26)) (HR.out.below hb3) HSh.out (HW.out.below hb3 hG) (Nat.lt_of_lt_of_le hG hb3.size))
    have HX := hid (heap_alloc_new w2 (.cells #[.int .i64 0, .int .i64 (-1)] 26))
    have HOk := hid hok
    clear hb3 hok
    generalize hZ : sb (CD.wAll chE (l.map srOf)) = Z at *
    have HZ := hid hZ
    clear hZ
    go_wp2_with fail
    refine HC2.out.mono ?_
    rintro e w3 ⟨hb3, hend3⟩
    obtain rfl : e = .returned (.tuple #[.string Z, .nilIface]) := by
      rcases hend3 with ⟨_, k2⟩ | ⟨i, b, k1, _, k2, _⟩
      · rw [HZ.out] at k2
        exact k2
      · rw [HOk.out i k1] at k2; cases k2
    have hx3 := (hb3.block w2.heap.size (by simp)).trans HX.out
    have y0 : w3.cell? ⟨w2.heap.size, 0, none⟩ = some (.int .i64 0) := by simp [World.cell?, hx3]
    have y1 : w3.cell? ⟨w2.heap.size, 1, none⟩ = some (.int .i64 (-1)) := by simp [World.cell?, hx3]
    have HB3b := hid (HB3.out.trans (hb3.mono HB3.out.size))
    have HC3 := hid (is_fine w3)
    clear hend3 hx3 hb3 HC2
    go_wp2_with fail
    refine HC3.out.mono ?_
    rintro e w4 ⟨rfl, hb4⟩
    have HB4 := hid (HB3b.out.trans (hb4.mono HB3b.out.size))
    clear hb4 HC3
    have HC5 := hid (rreads_any s w4 (by omega))
    go_wp2_with fail
    refine HC5.out.mono ?_
    rintro e w5 ⟨hb5, hend5⟩
    have HB5 := hid (HB4.out.trans (hb5.mono HB4.out.size))
    have HC6 := hid (preads_any s w5 (by omega) (HW.out.below HB5.out hG) (Nat.lt_of_lt_of_le hG HB5.out.size))
    clear hb5 HC5
    rcases hend5 with ⟨m, v5, h1, rfl, hO5⟩ | ⟨h1, rfl⟩
    · have HFm := hid (srFew_of h1 (by have hsl : s.data.toList.length = s.size := by rw [Array.length_toList]; rfl
                                       omega))
      have H1 := hid h1
      have HO5 := hid hO5
      obtain ⟨ao5, cap5, hv5, _⟩ := SrRow.of_own hO5
      generalize hmm : (m.map toSr).length = mm at *
      have HMM := hid hmm
      clear h1 hO5 hmm
      subst hv5
      go_wp2_with fail
      refine HC6.out.mono ?_
      rintro e w6 ⟨hb6, hend6⟩
      obtain ⟨v6, rfl, hO6⟩ : ∃ v6, e = .returned (.tuple #[v6, .nilIface]) ∧ SrOwn w6 w5.heap.size v6 (m.map toSr) := by
        rcases hend6 with ⟨m', v6, k1, k2, k3⟩ | ⟨k1, _⟩
        · rw [H1.out] at k1
          simp only [Option.some.injEq, Prod.mk.injEq, and_true] at k1
          subst k1
          exact ⟨v6, k2, k3⟩
        · exact absurd H1.out (k1 m)
      obtain ⟨ao6, cap6, hv6, hr6⟩ := SrRow.of_own hO6
      rw [HMM.out] at hv6
      have HB6 := hid (HB5.out.trans (hb6.mono HB5.out.size))
      have hr5 := (SrRow.of_own (HO5.out.below hb6))
      obtain ⟨ao5', cap5', hv5', hr5⟩ := hr5
      rw [HMM.out] at hv5'
      simp only [Value.slice.injEq, true_and] at hv5'
      obtain ⟨rfl, rfl⟩ := hv5'
      have HR5 := hid hr5
      have HR6 := hid hr6
      have HC7 := hid (bare_nil 0 w6)
      clear hend6 hO6 hr5 hr6 hb6 HC6
      subst hv6
      go_wp2_with fail
      refine HC7.out.mono ?_
      rintro e w7 ⟨rfl, hb7⟩
      have HB7 := hid (HB6.out.trans (hb7.mono HB6.out.size))
      have HC8 := sameSr_any ao6 ao5 (m.map toSr) cap6 cap5 w7 (HR6.out.below hb7) (HR5.out.below hb7) HFm.out
      rw [HMM.out] at HC8
      have HC8 := hid HC8
      clear hb7 HC7
      go_wp2_with fail
      refine HC8.out.mono ?_
      rintro e w8 ⟨rfl, k8, rfl⟩
      go_wp2_with fail
      go_ret
      exact ⟨rfl, lbelow_drewN HB7.out _⟩
    · have H1 := hid h1
      clear h1
      go_wp2_with fail
      refine HC6.out.mono ?_
      rintro e w6 ⟨hb6, hend6⟩
      obtain rfl : e = .returned (.tuple #[.slice none 0 0, .iface 24 (.int .i64 3)]) := by
        rcases hend6 with ⟨m', v6, k1, _⟩ | ⟨_, k2⟩
        · exact absurd k1 (H1.out m')
        · exact k2
      have HB6 := hid (HB5.out.trans (hb6.mono HB5.out.size))
      have HC7 := hid (bare_errno 3 3 w6 (HEr.out.below HB6.out hGe))
      clear hend6 hb6 HC6
      go_wp2_with fail
      refine HC7.out.mono ?_
      rintro e w7 ⟨rfl, hb7⟩
      have HB7 := hid (HB6.out.trans (hb7.mono HB6.out.size))
      have HC8 := hid (sameSr_any none none [] 0 0 w7 (SrRow.nil _ _) (SrRow.nil _ _) srFew_nil)
      clear hb7 HC7
      go_wp2_with fail
      refine HC8.out.mono ?_
      rintro e w8 ⟨rfl, k8, rfl⟩
      go_wp2_with fail
      go_ret
      exact ⟨rfl, lbelow_drewN HB7.out _⟩
  · have hb3 : Below w1.heap.size w1 (w2.alloc (.cells #[.int .i64 1, .int .i64 i] 26)) := HB2.out.alloc HB2.out.size _
    have HB3 := hid hb3
    have HC2 := hid (cser_any ao l cap (w2.alloc (.cells #[.int .i64 1, .int .i64 i] 26)) (HR.out.below hb3) HSh.out (HW.out.below hb3 hG) (Nat.lt_of_lt_of_le hG hb3.size))
    have HX := hid (heap_alloc_new w2 (.cells #[.int .i64 1, .int .i64 i] 26))
    have H2 := hid hi2
    have H3 := hid hi3
    clear hb3 hi2 hi3
    go_wp2_with fail
    refine HC2.out.mono ?_
    rintro e w3 ⟨hb3, hend3⟩
    obtain ⟨b, rfl, hat⟩ : ∃ b, e = .returned (.tuple #[.string ⟨#[]⟩, .iface 89 (.pointer (some ⟨b, 0, none⟩))]) ∧ w3.heap[b]? = some (.cells #[.int .i64 1, .int .i64 i] 90) := by
      rcases hend3 with ⟨k1, _⟩ | ⟨i', b, k1, k2, k3, k4, k5, _⟩
      · have := k1 i hi1
        rw [H3.out] at this; cases this
      · have : i' = i := by
          rcases Nat.lt_trichotomy i' i with h | h | h
          · have := H2.out i' h
            rw [k3] at this; cases this
          · exact h
          · have := k2 i h
            rw [H3.out] at this; cases this
        subst this
        exact ⟨b, k4, k5⟩
    have hx3 := (hb3.block w2.heap.size (by simp)).trans HX.out
    have y0 : w3.cell? ⟨w2.heap.size, 0, none⟩ = some (.int .i64 1) := by simp [World.cell?, hx3]
    have y1 : w3.cell? ⟨w2.heap.size, 1, none⟩ = some (.int .i64 i) := by simp [World.cell?, hx3]
    have HB3b := hid (HB3.out.trans (hb3.mono HB3.out.size))
    have HC3 := hid (is_at 1 i b w3 (HEr.out.below HB3b.out hGe) (by simp [World.cell?, hat]) (by simp [World.cell?, hat]))
    clear hend3 hx3 hb3 HC2 hat
    go_wp2_with fail
    refine HC3.out.mono ?_
    rintro e w4 ⟨rfl, hb4⟩
    have HB4 := hid (HB3b.out.trans (hb4.mono HB3b.out.size))
    clear hb4 HC3
    have HC5 := hid (rreads_any s w4 (by omega))
    go_wp2_with fail
    refine HC5.out.mono ?_
    rintro e w5 ⟨hb5, hend5⟩
    have HB5 := hid (HB4.out.trans (hb5.mono HB4.out.size))
    have HC6 := hid (preads_any s w5 (by omega) (HW.out.below HB5.out hG) (Nat.lt_of_lt_of_le hG HB5.out.size))
    clear hb5 HC5
    rcases hend5 with ⟨m, v5, h1, rfl, hO5⟩ | ⟨h1, rfl⟩
    · have HFm := hid (srFew_of h1 (by have hsl : s.data.toList.length = s.size := by rw [Array.length_toList]; rfl
                                       omega))
      have H1 := hid h1
      have HO5 := hid hO5
      obtain ⟨ao5, cap5, hv5, _⟩ := SrRow.of_own hO5
      generalize hmm : (m.map toSr).length = mm at *
      have HMM := hid hmm
      clear h1 hO5 hmm
      subst hv5
      go_wp2_with fail
      refine HC6.out.mono ?_
      rintro e w6 ⟨hb6, hend6⟩
      obtain ⟨v6, rfl, hO6⟩ : ∃ v6, e = .returned (.tuple #[v6, .nilIface]) ∧ SrOwn w6 w5.heap.size v6 (m.map toSr) := by
        rcases hend6 with ⟨m', v6, k1, k2, k3⟩ | ⟨k1, _⟩
        · rw [H1.out] at k1
          simp only [Option.some.injEq, Prod.mk.injEq, and_true] at k1
          subst k1
          exact ⟨v6, k2, k3⟩
        · exact absurd H1.out (k1 m)
      obtain ⟨ao6, cap6, hv6, hr6⟩ := SrRow.of_own hO6
      rw [HMM.out] at hv6
      have HB6 := hid (HB5.out.trans (hb6.mono HB5.out.size))
      have hr5 := (SrRow.of_own (HO5.out.below hb6))
      obtain ⟨ao5', cap5', hv5', hr5⟩ := hr5
      rw [HMM.out] at hv5'
      simp only [Value.slice.injEq, true_and] at hv5'
      obtain ⟨rfl, rfl⟩ := hv5'
      have HR5 := hid hr5
      have HR6 := hid hr6
      have HC7 := hid (bare_nil 0 w6)
      clear hend6 hO6 hr5 hr6 hb6 HC6
      subst hv6
      go_wp2_with fail
      refine HC7.out.mono ?_
      rintro e w7 ⟨rfl, hb7⟩
      have HB7 := hid (HB6.out.trans (hb7.mono HB6.out.size))
      have HC8 := sameSr_any ao6 ao5 (m.map toSr) cap6 cap5 w7 (HR6.out.below hb7) (HR5.out.below hb7) HFm.out
      rw [HMM.out] at HC8
      have HC8 := hid HC8
      clear hb7 HC7
      go_wp2_with fail
      refine HC8.out.mono ?_
      rintro e w8 ⟨rfl, k8, rfl⟩
      go_wp2_with fail
      go_ret
      exact ⟨rfl, lbelow_drewN HB7.out _⟩
    · have H1 := hid h1
      clear h1
      go_wp2_with fail
      refine HC6.out.mono ?_
      rintro e w6 ⟨hb6, hend6⟩
      obtain rfl : e = .returned (.tuple #[.slice none 0 0, .iface 24 (.int .i64 3)]) := by
        rcases hend6 with ⟨m', v6, k1, _⟩ | ⟨_, k2⟩
        · exact absurd k1 (H1.out m')
        · exact k2
      have HB6 := hid (HB5.out.trans (hb6.mono HB5.out.size))
      have HC7 := hid (bare_errno 3 3 w6 (HEr.out.below HB6.out hGe))
      clear hend6 hb6 HC6
      go_wp2_with fail
      refine HC7.out.mono ?_
      rintro e w7 ⟨rfl, hb7⟩
      have HB7 := hid (HB6.out.trans (hb7.mono HB6.out.size))
      have HC8 := hid (sameSr_any none none [] 0 0 w7 (SrRow.nil _ _) (SrRow.nil _ _) srFew_nil)
      clear hb7 HC7
      go_wp2_with fail
      refine HC8.out.mono ?_
      rintro e w8 ⟨rfl, k8, rfl⟩
      go_wp2_with fail
      go_ret
      exact ⟨rfl, lbelow_drewN HB7.out _⟩

end Go.Proofs.YtdmnlmohfaafoadGreatDoor
