/- raingaugelaw.ChunkWrites, walked: which samples may be, and their bytes, is the document's. -/
import Derived.Test.YtdmnlmohfaafoaaDoorChRefW
import Derived.Test.YtdmnlmohfaafoaaDoorBitBare
namespace Go.Proofs.YtdmnlmohfaafoaaDoor
open Go.RowKit

set_option maxHeartbeats 400000 in
theorem chw_long (ao : Option Addr) (len cap : Nat) (w : World) (h : 60 < len) :
    Calls Tryd.prog 6 #[.slice ao len cap] w fun e w' => e = .returned (.bool true) ∧ w' = w := by
  have h' : (60 : Int) < (len : Int) := by omega
  go_enter Tryd.func6, Tryd.ntmps6
  go_wp2
  go_ret
  exact ⟨rfl, rfl⟩

set_option maxRecDepth 100000 in
set_option maxHeartbeats 1600000 in
theorem chw_any (ao : Option Addr) (l : List CL.Smp) (cap : Nat) (w : World) (hlen : l.length ≤ 60) (hS : SRow w ao l) (hR : ∀ s ∈ l, CL.Rs s) (hW : Wids w) (hE : ErrT w) (hG : 0 < w.heap.size) :
    Calls Tryd.prog 6 #[.slice ao l.length cap] w fun e w' => e = .returned (.bool true) ∧ Below w.heap.size w w' := by
  have h' : ¬ (60 : Int) < (l.length : Int) := by omega
  have HS := hid hS
  have HR := hid hR
  have HW := hid hW
  have HE := hid hE
  have hEl := hE.lt
  clear hS hR hW hE
  rcases hr : CL.right l with _ | _
  · have HRt := hid hr
    clear hr
    go_enter Tryd.func6, Tryd.ntmps6
    go_wp2_with fail
    refine (rwrite_bad ao l cap _ HS.out (by omega) HRt.out).mono ?_
    rintro e w1 ⟨rfl, hb1⟩
    have hs1 := hb1.size
    have HB1 := hid hb1
    clear hb1
    go_wp2_with fail
    refine (write_bad ao l cap _ (HS.out.below HB1.out) HR.out (by omega) HRt.out).mono ?_
    rintro e w2 ⟨rfl, hb2⟩
    have HB2 := hid (HB1.out.trans (hb2.mono hs1))
    clear hb2
    have hs2 := HB2.out.size
    go_wp2_with fail
    refine (bare_errno 1 1 _ (HE.out.below HB2.out hEl)).mono ?_
    rintro e w3 ⟨rfl, hb3⟩
    have HB3 := hid (HB2.out.trans (hb3.mono hs2))
    clear hb3
    have hs3 := HB3.out.size
    go_wp2_with fail
    refine (right_any ao l cap _ (HS.out.below HB3.out) HR.out (by omega)).mono ?_
    rintro e w4 ⟨rfl, hb4⟩
    have HB4 := hid (HB3.out.trans (hb4.mono hs3))
    clear hb4
    have hs4 := HB4.out.size
    go_wp2_with fail
    refine (rsamples_any ao l cap _ (HS.out.below HB4.out) (by omega)).mono ?_
    rintro e w5 ⟨rfl, hb5⟩
    have HB5 := hid (HB4.out.trans (hb5.mono hs4))
    clear hb5
    generalize CL.right l = B at *
    go_wp2_with fail
    go_ret
    refine ⟨?_, HB5.out⟩
    cases B <;> rfl
  · have HRt := hid hr
    clear hr
    go_enter Tryd.func6, Tryd.ntmps6
    go_wp2_with fail
    refine (rwrite_ok ao l cap _ HS.out HR.out HRt.out).mono ?_
    rintro e w1 ⟨rfl, hb1⟩
    have hs1 := hb1.size
    have HB1 := hid hb1
    clear hb1
    go_wp2_with fail
    refine (write_ok ao l cap _ (HS.out.below HB1.out) HR.out (HW.out.below HB1.out hG) (by omega) HRt.out).mono ?_
    rintro e w2 ⟨rfl, hb2⟩
    have HB2 := hid (HB1.out.trans (hb2.mono hs1))
    clear hb2
    have hs2 := HB2.out.size
    generalize strOf (BL.pk (CL.chB l)) = sb at *
    go_wp2_with fail
    refine (bare_nil 0 _).mono ?_
    rintro e w3 ⟨rfl, hb3⟩
    have HB3 := hid (HB2.out.trans (hb3.mono hs2))
    clear hb3
    have hs3 := HB3.out.size
    go_wp2_with fail
    refine (right_any ao l cap _ (HS.out.below HB3.out) HR.out (by omega)).mono ?_
    rintro e w4 ⟨rfl, hb4⟩
    have HB4 := hid (HB3.out.trans (hb4.mono hs3))
    clear hb4
    have hs4 := HB4.out.size
    go_wp2_with fail
    refine (rsamples_any ao l cap _ (HS.out.below HB4.out) (by omega)).mono ?_
    rintro e w5 ⟨rfl, hb5⟩
    have HB5 := hid (HB4.out.trans (hb5.mono hs4))
    clear hb5
    generalize CL.right l = B at *
    go_wp2_with fail
    go_ret
    refine ⟨?_, HB5.out⟩
    cases B <;> rfl

end Go.Proofs.YtdmnlmohfaafoaaDoor
