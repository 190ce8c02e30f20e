/- raingaugelaw.ChunkReads, walked: the samples that any bytes are, or that they are none, are the document's. -/
import Derived.Test.YtdmnlmohfaafoaaDoorChRefR
import Derived.Test.YtdmnlmohfaafoaaDoorChSameL
import Derived.Test.YtdmnlmohfaafoaaDoorBitBare
namespace Go.Proofs.YtdmnlmohfaafoaaDoor
open Go.RowKit

set_option maxHeartbeats 400000 in
theorem chr_long (s : ByteArray) (w : World) (h : 300 < s.size) :
    Calls Tryd.prog 7 #[.string s] w fun e w' => e = .returned (.bool true) ∧ w' = w := by
  have h' : (300 : Int) < (s.size : Int) := by omega
  go_enter Tryd.func7, Tryd.ntmps7
  go_wp2
  go_ret
  exact ⟨rfl, rfl⟩

set_option maxRecDepth 100000 in
set_option maxHeartbeats 1600000 in
theorem chr_any (s : ByteArray) (w : World) (hs : s.size ≤ 300) (hW : Wids w) (hE : ErrT w) (hG : 0 < w.heap.size) :
    Calls Tryd.prog 7 #[.string s] w fun e w' => e = .returned (.bool true) ∧ Below w.heap.size w w' := by
  have h' : ¬ (300 : Int) < (s.size : Int) := by omega
  have HW := hid hW
  have HE := hid hE
  have hEl := hE.lt
  have HC := hid (rread_any s w (by omega))
  clear hW hE
  rcases hP : CL.readL (bitsS s) with _ | l
  · have HP := hid hP
    rw [hP] at HC
    clear hP
    go_enter Tryd.func7, Tryd.ntmps7
    go_wp2_with fail
    refine Calls.mono HC.out ?_
    rintro e w1 ⟨rfl, hb1⟩
    have HB1 := hid hb1
    have hs1 := hb1.size
    clear hb1
    have HC2 := hid (read_c s w1 (by omega) (HW.out.below HB1.out hG) (by omega))
    rw [HP.out] at HC2
    go_wp2_with fail
    refine Calls.mono HC2.out ?_
    rintro e w2 ⟨rfl, hb2⟩
    have HB2 := hid (HB1.out.trans (hb2.mono hs1))
    have hs2 := HB2.out.size
    clear hb2
    go_wp2_with fail
    refine (bare_errno 3 3 _ (HE.out.below HB2.out hEl)).mono ?_
    rintro e w3 ⟨rfl, hb3⟩
    have HB3 := hid (HB2.out.trans (hb3.mono hs2))
    have hs3 := HB3.out.size
    clear hb3
    go_wp2_with fail
    refine (sameL_any none none [] [] 0 0 _ (fun i hi => by simp at hi) (fun i hi => by simp at hi) (by simp)).mono ?_
    rintro e w4 ⟨rfl, hb4⟩
    have HB4 := hid (HB3.out.trans (hb4.mono hs3))
    clear hb4
    go_wp2_with fail
    go_ret
    exact ⟨rfl, HB4.out⟩
  · have HP := hid hP
    have hlen := ((CL.right_iff l).1 (CL.read_inv _ _ hP).1).1
    rw [hP] at HC
    clear hP
    go_enter Tryd.func7, Tryd.ntmps7
    go_wp2_with fail
    refine Calls.mono HC.out ?_
    rintro e w1 ⟨v1, rfl, ho1, hb1⟩
    obtain ⟨ao, ca, rfl, hS1⟩ := SRow.of_own ho1
    have HS1 := hid hS1
    have HB1 := hid hb1
    have hs1 := hb1.size
    clear hb1 ho1 hS1
    have HC2 := hid (read_c s w1 (by omega) (HW.out.below HB1.out hG) (by omega))
    rw [HP.out] at HC2
    go_wp2_with fail
    refine Calls.mono HC2.out ?_
    rintro e w2 ⟨v2, rfl, ho2, hb2⟩
    obtain ⟨bo, cb, rfl, hS2⟩ := SRow.of_own ho2
    have HA2 := hid hS2
    have HS2 := hid (HS1.out.below hb2)
    have HB2 := hid (HB1.out.trans (hb2.mono hs1))
    have hs2 := HB2.out.size
    clear hb2 ho2 hS2
    go_wp2_with fail
    refine (bare_nil 0 _).mono ?_
    rintro e w3 ⟨rfl, hb3⟩
    have HA3 := hid (HA2.out.below hb3)
    have HS3 := hid (HS2.out.below hb3)
    have HB3 := hid (HB2.out.trans (hb3.mono hs2))
    have hs3 := HB3.out.size
    clear hb3
    go_wp2_with fail
    refine (sameL_any bo ao l l cb ca _ HA3.out HS3.out (by omega)).mono ?_
    rintro e w4 ⟨rfl, hb4⟩
    have HB4 := hid (HB3.out.trans (hb4.mono hs3))
    have hdt : decide (l = l) = true := decide_eq_true rfl
    clear hb4
    go_wp2_with fail
    go_ret
    exact ⟨rfl, HB4.out⟩

end Go.Proofs.YtdmnlmohfaafoaaDoor
