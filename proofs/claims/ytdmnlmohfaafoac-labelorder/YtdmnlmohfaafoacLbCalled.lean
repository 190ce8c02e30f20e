/- The fact that the keep's laws on labels begin with: called answers true. -/
import Derived.Test.YtdmnlmohfaafoacLbRight
import Derived.Test.YtdmnlmohfaafoacLbCmp
import Derived.Test.YtdmnlmohfaafoacLbText
import Derived.Test.YtdmnlmohfaafoacLbAsk
namespace Go.Proofs.Ytdmnlmohfaafoac
open Go.RowKit

abbrev exL : List LB.Lab := [(⟨#[97]⟩, ⟨#[120]⟩), (⟨#[98]⟩, ⟨#[121]⟩)]
abbrev exM : List LB.Mat := [⟨⟨#[97]⟩, 2, ⟨#[120]⟩⟩, ⟨⟨#[99]⟩, 0, ⟨#[]⟩⟩]

theorem ex_right : LB.right exL = true := by
  refine decide_eq_true ⟨by decide, by decide, ?_⟩
  intro i hi
  have h2 : i = 0 ∨ i = 1 := by have : exL.length = 2 := rfl; omega
  have hlt : LB.lt ⟨#[97]⟩ ⟨#[98]⟩ = true := by unfold LB.lt; rw [Lib.toList_data, Lib.toList_data]; decide +kernel
  rcases h2 with rfl | rfl
  · exact ⟨by decide +kernel, by decide +kernel, by decide +kernel, fun h => by omega⟩
  · exact ⟨by decide +kernel, by decide +kernel, by decide +kernel, fun _ => hlt⟩

theorem ex_text : LB.tx exL = [123, 97, 61, 34, 120, 34, 44, 98, 61, 34, 121, 34, 125] := by decide +kernel

theorem ex_all : LB.all exL exM = true := by decide +kernel

theorem ex_cmp : LB.cmp (exL.take 1) exL = -1 := by
  refine LB.cmp_short _ _ (by decide) ?_
  intro j hj
  have h2 : j = 0 := by have : (exL.take 1).length = 1 := rfl; omega
  subst h2
  exact (LB.cL_ord.zero _ _).2 rfl

theorem ex_short : Shrt exL := by
  intro i hi
  have h2 : i = 0 ∨ i = 1 := by have : exL.length = 2 := rfl; omega
  rcases h2 with rfl | rfl <;> exact ⟨by decide +kernel, by decide +kernel⟩

set_option maxRecDepth 100000 in
set_option maxHeartbeats 800000 in
theorem called_any (w : World) : Calls Try.prog 8 #[] w fun e w' => e = .returned (.bool true) ∧ Below w.heap.size w w' := by
  go_enter Try.func8, Try.ntmps8
  go_wp2_with fail
  have hL0 : LRow (w.alloc (.cells #[.string ⟨#[97]⟩, .string ⟨#[120]⟩, .string ⟨#[98]⟩, .string ⟨#[121]⟩] 72)) (some ⟨w.heap.size, 0, none⟩) exL := by
    intro i hi
    have h2 : i = 0 ∨ i = 1 := by have : exL.length = 2 := rfl; omega
    rcases h2 with rfl | rfl
    · exact ⟨w.heap.size, 0, rfl, by simp [LB.at'], by simp [LB.at'], by simp⟩
    · exact ⟨w.heap.size, 0, rfl, by simp [LB.at'], by simp [LB.at'], by simp⟩
  have HB0 := hid ((Below.refl _ w).alloc (Nat.le_refl _) (.cells #[.string ⟨#[97]⟩, .string ⟨#[120]⟩, .string ⟨#[98]⟩, .string ⟨#[121]⟩] 72))
  generalize w.alloc (.cells #[.string ⟨#[97]⟩, .string ⟨#[120]⟩, .string ⟨#[98]⟩, .string ⟨#[121]⟩] 72) = w0 at *
  have HL0 := hid hL0
  clear hL0
  have hr := right_any (some ⟨w.heap.size, 0, none⟩) exL 2 w0 HL0.out
  rw [ex_right] at hr
  refine hr.mono ?_
  rintro e w1 ⟨rfl, hb1⟩
  have HB1 := hid (HB0.out.trans (hb1.mono HB0.out.size))
  have HL1 := hid (HL0.out.below hb1)
  clear hb1 hr
  go_wp2_with fail
  have ht := text_any (some ⟨w.heap.size, 0, none⟩) exL 2 w1 HL1.out (by decide) ex_short
  rw [ex_text] at ht
  refine ht.mono ?_
  rintro e w2 ⟨rfl, hb2⟩
  have HB2 := hid (HB1.out.trans (hb2.mono HB1.out.size))
  have HL2 := hid (HL1.out.below hb2)
  clear hb2 ht
  go_wp2_with fail
  have hb3 : Below w2.heap.size w2 (w2.alloc (.cells #[.string ⟨#[97]⟩, .int .i64 2, .string ⟨#[120]⟩, .string ⟨#[99]⟩, .int .i64 0, .string ⟨#[]⟩] 32)) := (Below.refl _ w2).alloc (Nat.le_refl _) _
  have hM3 : MRow (w2.alloc (.cells #[.string ⟨#[97]⟩, .int .i64 2, .string ⟨#[120]⟩, .string ⟨#[99]⟩, .int .i64 0, .string ⟨#[]⟩] 32)) (some ⟨w2.heap.size, 0, none⟩) exM := by
    intro i hi
    have h2 : i = 0 ∨ i = 1 := by have : exM.length = 2 := rfl; omega
    rcases h2 with rfl | rfl
    · exact ⟨w2.heap.size, 0, rfl, by simp [LB.am], by simp [LB.am], by simp [LB.am], by simp⟩
    · exact ⟨w2.heap.size, 0, rfl, by simp [LB.am], by simp [LB.am], by simp [LB.am], by simp⟩
  have HB3 := hid (HB2.out.trans (hb3.mono HB2.out.size))
  have HL3 := hid (HL2.out.below hb3)
  have HM3 := hid hM3
  clear hb3 hM3
  generalize w2.alloc (.cells #[.string ⟨#[97]⟩, .int .i64 2, .string ⟨#[120]⟩, .string ⟨#[99]⟩, .int .i64 0, .string ⟨#[]⟩] 32) = w3 at *
  have ha := all_any (some ⟨w.heap.size, 0, none⟩) (some ⟨w2.heap.size, 0, none⟩) exL exM 2 2 w3 HL3.out HM3.out (by decide) (by decide)
  rw [ex_all] at ha
  refine ha.mono ?_
  rintro e w4 ⟨rfl, hb4⟩
  have HB4 := hid (HB3.out.trans (hb4.mono HB3.out.size))
  have HL4 := hid (HL3.out.below hb4)
  have HT4 : Hid (LRow w4 (some ⟨w.heap.size, 0, none⟩) (exL.take 1)) := by
    intro i hi
    have h2 : i = 0 := by have : (exL.take 1).length = 1 := rfl; omega
    subst h2
    exact HL4.out 0 (by decide)
  clear hb4 ha
  go_wp2_with fail
  have hc := cmp_any (some ⟨w.heap.size, 0, none⟩) (some ⟨w.heap.size, 0, none⟩) (exL.take 1) exL 2 2 w4 HT4.out HL4.out (by decide) (by decide)
  rw [ex_cmp] at hc
  refine hc.mono ?_
  rintro e w5 ⟨rfl, hb5⟩
  have HB5 := hid (HB4.out.trans (hb5.mono HB4.out.size))
  clear hb5 hc
  go_wp2_with fail
  go_ret
  exact ⟨rfl, HB5.out⟩

end Go.Proofs.Ytdmnlmohfaafoac
