/- raingaugelaw.ChunkSets, walked: what lies between times, and what two come to together, is the document's. -/
import Derived.Test.YtdmnlmohfaafoaaChRefM
import Derived.Test.YtdmnlmohfaafoaaChBetw
namespace Go.Proofs.Ytdmnlmohfaafoaa
open Go.RowKit

set_option maxHeartbeats 400000 in
theorem chs_longA (ao bo : Option Addr) (la lb ca cb : Nat) (f t : Int) (w : World) (h : 60 < la) :
    Calls Try.prog 3 #[.slice ao la ca, .slice bo lb cb, .int .i64 f, .int .i64 t] w fun e w' => e = .returned (.bool true) ∧ w' = w := by
  have h' : (60 : Int) < (la : Int) := by omega
  go_enter Try.func3, Try.ntmps3
  go_wp2
  go_ret
  exact ⟨rfl, rfl⟩

set_option maxHeartbeats 400000 in
theorem chs_longB (ao bo : Option Addr) (la lb ca cb : Nat) (f t : Int) (w : World) (h0 : la ≤ 60) (h : 60 < lb) :
    Calls Try.prog 3 #[.slice ao la ca, .slice bo lb cb, .int .i64 f, .int .i64 t] w fun e w' => e = .returned (.bool true) ∧ w' = w := by
  have h' : (60 : Int) < (lb : Int) := by omega
  have h0' : ¬ (60 : Int) < (la : Int) := by omega
  go_enter Try.func3, Try.ntmps3
  go_wp2
  go_ret
  exact ⟨rfl, rfl⟩

set_option maxRecDepth 100000 in
set_option maxHeartbeats 1600000 in
theorem chs_any (ao bo : Option Addr) (a b : List CL.Smp) (ca cb : Nat) (f t : Int) (w : World) (hA : SRow w ao a) (hB : SRow w bo b) (hca : a.length ≤ ca) (hcb : b.length ≤ cb) (hla : a.length ≤ 60) (hlb : b.length ≤ 60) (hna : ao = none → ca = 0) (hnb : bo = none → cb = 0)
    (hRa : ∀ s ∈ a, CL.Rs s) (hRb : ∀ s ∈ b, CL.Rs s) :
    Calls Try.prog 3 #[.slice ao a.length ca, .slice bo b.length cb, .int .i64 f, .int .i64 t] w fun e w' => e = .returned (.bool true) ∧ Below w.heap.size w w' := by
  have h1 : ¬ (60 : Int) < (a.length : Int) := by omega
  have h2 : ¬ (60 : Int) < (b.length : Int) := by omega
  have HA := hid hA
  have HB := hid hB
  have HRa := hid hRa
  have HRb := hid hRb
  have HNa := hid hna
  have HNb := hid hnb
  have HCa := hid hca
  have HCb := hid hcb
  clear hA hB hRa hRb hna hnb hca hcb
  have HC1 := hid (rsamples_any ao a ca w HA.out (by omega))
  go_enter Try.func3, Try.ntmps3
  go_wp2_with fail
  refine Calls.mono HC1.out ?_
  rintro e w1 ⟨rfl, hb1⟩
  have HB1 := hid hb1
  have hs1 := hb1.size
  clear hb1
  rcases hra : CL.right a with _ | _
  · clear hra
    go_wp2_with fail
    go_ret
    exact ⟨rfl, HB1.out⟩
  · have Hra := hid (CL.rising_of_right a hra)
    clear hra
    have HC2 := hid (rsamples_any bo b cb w1 (HB.out.below HB1.out) (by omega))
    go_wp2_with fail
    refine Calls.mono HC2.out ?_
    rintro e w2 ⟨rfl, hb2⟩
    have HB2 := hid (HB1.out.trans (hb2.mono hs1))
    have hs2 := HB2.out.size
    clear hb2
    rcases hrb : CL.right b with _ | _
    · clear hrb
      go_wp2_with fail
      go_ret
      exact ⟨rfl, HB2.out⟩
    · have Hrb := hid (CL.rising_of_right b hrb)
      clear hrb
      go_wp2_with fail
      refine Calls.mono (between_any ao a ca f t w2 (HA.out.below HB2.out) (by omega)) ?_
      rintro e w3 ⟨v3, rfl, ho3, hb3⟩
      obtain ⟨a3, c3, rfl, hS3⟩ := SRow.of_own ho3
      have HS3 := hid hS3
      have HB3 := hid (HB2.out.trans (hb3.mono hs2))
      have hs3 := HB3.out.size
      clear hb3 ho3 hS3
      go_wp2_with fail
      refine Calls.mono (rbetween_any ao a ca f t w3 (HA.out.below HB3.out) (by omega)) ?_
      rintro e w4 ⟨v4, rfl, ho4, hb4⟩
      obtain ⟨a4, c4, rfl, hS4⟩ := SRow.of_own ho4
      have HS4 := hid hS4
      have HT4 := hid (HS3.out.below hb4)
      have HB4 := hid (HB3.out.trans (hb4.mono hs3))
      have hs4 := HB4.out.size
      clear hb4 ho4 hS4
      have hbl := betw_len f t a
      go_wp2_with fail
      refine Calls.mono (sameL_any a3 a4 (betw f t a) (betw f t a) c3 c4 w4 HT4.out HS4.out (by omega)) ?_
      rintro e w5 ⟨rfl, hb5⟩
      have HB5 := hid (HB4.out.trans (hb5.mono hs4))
      have hs5 := HB5.out.size
      have hdt : decide (betw f t a = betw f t a) = true := decide_eq_true rfl
      rw [hdt]
      clear hb5 hdt
      go_wp2_with fail
      refine Calls.mono (merge_any ao bo a b ca cb w5 (HA.out.below HB5.out) (HB.out.below HB5.out) HCa.out HCb.out hla hlb HNa.out HNb.out) ?_
      rintro e w6 ⟨v6, rfl, ho6, hb6⟩
      obtain ⟨a6, c6, rfl, hS6⟩ := SRow.of_own ho6
      have HS6 := hid hS6
      have HB6 := hid (HB5.out.trans (hb6.mono hs5))
      have hs6 := HB6.out.size
      clear hb6 ho6 hS6
      go_wp2_with fail
      refine Calls.mono (rmerge_any ao bo a b ca cb w6 (HA.out.below HB6.out) (HB.out.below HB6.out) HCa.out HCb.out hla hlb HNa.out HNb.out HRa.out HRb.out Hra.out Hrb.out) ?_
      rintro e w7 ⟨v7, rfl, ho7, hb7⟩
      obtain ⟨a7, c7, rfl, hS7⟩ := SRow.of_own ho7
      have HS7 := hid hS7
      have HT7 := hid (HS6.out.below hb7)
      have HB7 := hid (HB6.out.trans (hb7.mono hs6))
      have hs7 := HB7.out.size
      clear hb7 ho7 hS7
      have hml : (CL.mrg a b).length ≤ 120 := Nat.le_trans (CL.mrg_len a b) (by omega)
      go_wp2_with fail
      refine Calls.mono (sameL_any a6 a7 (CL.mrg a b) (CL.mrg a b) c6 c7 w7 HT7.out HS7.out (by omega)) ?_
      rintro e w8 ⟨rfl, hb8⟩
      have HB8 := hid (HB7.out.trans (hb8.mono hs7))
      have hdt : decide (CL.mrg a b = CL.mrg a b) = true := decide_eq_true rfl
      rw [hdt]
      clear hb8 hdt
      go_wp2_with fail
      go_ret
      exact ⟨rfl, HB8.out⟩

end Go.Proofs.Ytdmnlmohfaafoaa
