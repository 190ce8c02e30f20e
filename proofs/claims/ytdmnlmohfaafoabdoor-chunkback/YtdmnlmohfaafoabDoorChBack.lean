/- raingaugekeep.ChunkBack, walked: what samples are written as is these samples; no beginning of it is any; what was read is written just so. -/
import Derived.Test.YtdmnlmohfaafoabDoorChKeep
namespace Go.Proofs.YtdmnlmohfaafoabDoor
open Go.RowKit

set_option maxHeartbeats 400000 in
theorem chb_long (ao : Option Addr) (len cap : Nat) (s : ByteArray) (cut : Int) (w : World) (h : 80 < len ∨ 300 < s.size) :
    Calls Tryd.prog 3 #[.slice ao len cap, .string s, .int .i64 cut] w fun e w' => e = .returned (.bool true) ∧ w' = w := by
  by_cases h1 : 80 < len
  · have h' : (80 : Int) < (len : Int) := by omega
    go_enter Tryd.func3, Tryd.ntmps3
    go_wp2
    go_ret
    exact ⟨rfl, rfl⟩
  · have h' : ¬ (80 : Int) < (len : Int) := by omega
    have h2 : (300 : Int) < (s.size : Int) := by omega
    go_enter Tryd.func3, Tryd.ntmps3
    go_wp2
    go_ret
    exact ⟨rfl, rfl⟩

set_option maxRecDepth 100000 in
set_option maxHeartbeats 1600000 in
theorem chb_any (ao : Option Addr) (l : List CL.Smp) (cap : Nat) (s : ByteArray) (cut : Int) (w : World) (hlen : l.length ≤ 80) (hss : s.size ≤ 300) (hS : SRow w ao l) (hR : ∀ s ∈ l, CL.Rs s) (hW : Wids w) (hG : 0 < w.heap.size) :
    Calls Tryd.prog 3 #[.slice ao l.length cap, .string s, .int .i64 cut] w fun e w' => e = .returned (.bool true) ∧ Below w.heap.size w w' := by
  have h1 : ¬ (80 : Int) < (l.length : Int) := by omega
  have h2 : ¬ (300 : Int) < (s.size : Int) := by omega
  have HS := hid hS
  have HR := hid hR
  have HW := hid hW
  clear hS hR hW
  rcases hP : CL.readL (bitsS s) with _ | m
  · have HP := hid hP
    clear hP
    go_enter Tryd.func3, Tryd.ntmps3
    go_wp2_with fail
    refine (chunked_any w HW.out hG).mono ?_
    rintro e w1 ⟨rfl, hb1⟩
    have HB1 := hid hb1
    have hs1 := hb1.size
    clear hb1
    have HC := hid (read_c s w1 (by omega) (HW.out.below HB1.out hG) (by omega))
    rw [HP.out] at HC
    go_wp2_with fail
    refine Calls.mono HC.out ?_
    rintro e w2 ⟨rfl, hb2⟩
    have HB3 := hid (HB1.out.trans (hb2.mono hs1))
    have hs3 := HB3.out.size
    clear hb2 HC
    generalize w2 = w3 at *
    go_wp2_with fail
    rcases hr : CL.right l with _ | _
    · have HRt := hid hr
      clear hr
      refine (write_bad ao l cap _ (HS.out.below HB3.out) HR.out (by omega) HRt.out).mono ?_
      rintro e w4 ⟨rfl, hb4⟩
      have HB4 := hid (HB3.out.trans (hb4.mono hs3))
      have hs4 := HB4.out.size
      clear hb4
      go_wp2_with fail
      refine (right_any ao l cap _ (HS.out.below HB4.out) HR.out (by omega)).mono ?_
      rintro e w5 ⟨rfl, hb5⟩
      rw [HRt.out]
      have HB5 := hid (HB4.out.trans (hb5.mono hs4))
      clear hb5
      go_wp2_with fail
      go_ret
      exact ⟨rfl, HB5.out⟩
    · have HRt := hid hr
      have HRW := hid (read_of_write l hr HR.out)
      have HCut := hid (read_cut l hr HR.out)
      clear hr
      refine (write_ok ao l cap _ (HS.out.below HB3.out) HR.out (HW.out.below HB3.out hG) (by omega) HRt.out).mono ?_
      rintro e w4 ⟨rfl, hb4⟩
      have hts : (strOf (BL.pk (CL.chB l))).size ≤ 100000 ∧ 1 ≤ (strOf (BL.pk (CL.chB l))).size := by
        have a := CL.chB_len l
        have b := CL.chB_pos l
        rw [str_size, BL.pk_length]; omega
      have HB4 := hid (HB3.out.trans (hb4.mono hs3))
      have hs4 := HB4.out.size
      clear hb4
      generalize strOf (BL.pk (CL.chB l)) = t at *
      have HC2 := hid (read_c t w4 (by omega) (HW.out.below HB4.out hG) (by omega))
      rw [HRW.out] at HC2
      go_wp2_with fail
      refine Calls.mono HC2.out ?_
      rintro e w5 ⟨v5, rfl, ho5, hb5⟩
      obtain ⟨co, capc, rfl, hS5⟩ := SRow.of_own ho5
      have HS5 := hid hS5
      have HB5 := hid (HB4.out.trans (hb5.mono hs4))
      have hs5 := HB5.out.size
      clear hb5 HC2 ho5 hS5
      go_wp2_with fail
      refine (same_any co ao l l capc cap _ HS5.out (HS.out.below HB5.out) (by omega)).mono ?_
      rintro e w6 ⟨rfl, hb6⟩
      have HB6 := hid (HB5.out.trans (hb6.mono hs5))
      have hs6 := HB6.out.size
      have hdt : decide (l = l) = true := decide_eq_true rfl
      clear hb6
      go_wp2_with fail
      refine (pick_any cut t.size _ (by omega) (by omega)).mono ?_
      rintro e w7 ⟨⟨k, hk, rfl⟩, rfl⟩
      have hex : (t.extract 0 k).size ≤ 300000 := by
        simp only [ByteArray.size_extract]; omega
      have HC3 := hid (read_c (t.extract 0 k) w7 (by omega) (HW.out.below HB6.out hG) (by omega))
      rw [HCut.out k hk] at HC3
      go_wp2_with fail
      refine Calls.mono HC3.out ?_
      rintro e w8 ⟨rfl, hb8⟩
      have HB8 := hid (HB6.out.trans (hb8.mono hs6))
      clear hb8 HC3
      go_wp2_with fail
      go_ret
      exact ⟨rfl, HB8.out⟩
  · have HP := hid hP
    have HWR := hid (write_read s m hP)
    obtain ⟨hmr, hmR, _⟩ := CL.read_inv _ _ hP
    have HMr := hid hmr
    have HMR := hid hmR
    clear hP hmr hmR
    go_enter Tryd.func3, Tryd.ntmps3
    go_wp2_with fail
    refine (chunked_any w HW.out hG).mono ?_
    rintro e w1 ⟨rfl, hb1⟩
    have HB1 := hid hb1
    have hs1 := hb1.size
    clear hb1
    have HC := hid (read_c s w1 (by omega) (HW.out.below HB1.out hG) (by omega))
    rw [HP.out] at HC
    go_wp2_with fail
    refine Calls.mono HC.out ?_
    rintro e w2 ⟨v, rfl, ho2, hb2⟩
    obtain ⟨bo, capb, rfl, hS2⟩ := SRow.of_own ho2
    have HS2 := hid hS2
    have HB2 := hid (HB1.out.trans (hb2.mono hs1))
    have hs2 := HB2.out.size
    clear hb2 HC ho2 hS2
    go_wp2_with fail
    refine (write_ok bo m capb _ HS2.out HMR.out (HW.out.below HB2.out hG) (by omega) HMr.out).mono ?_
    rintro e w3 ⟨rfl, hb3⟩
    rw [HWR.out]
    have HB3 := hid (HB2.out.trans (hb3.mono hs2))
    have hs3 := HB3.out.size
    clear hb3
    go_wp2_with fail
    rcases hr : CL.right l with _ | _
    · have HRt := hid hr
      clear hr
      refine (write_bad ao l cap _ (HS.out.below HB3.out) HR.out (by omega) HRt.out).mono ?_
      rintro e w4 ⟨rfl, hb4⟩
      have HB4 := hid (HB3.out.trans (hb4.mono hs3))
      have hs4 := HB4.out.size
      clear hb4
      go_wp2_with fail
      refine (right_any ao l cap _ (HS.out.below HB4.out) HR.out (by omega)).mono ?_
      rintro e w5 ⟨rfl, hb5⟩
      rw [HRt.out]
      have HB5 := hid (HB4.out.trans (hb5.mono hs4))
      clear hb5
      go_wp2_with fail
      go_ret
      exact ⟨rfl, HB5.out⟩
    · have HRt := hid hr
      have HRW := hid (read_of_write l hr HR.out)
      have HCut := hid (read_cut l hr HR.out)
      clear hr
      refine (write_ok ao l cap _ (HS.out.below HB3.out) HR.out (HW.out.below HB3.out hG) (by omega) HRt.out).mono ?_
      rintro e w4 ⟨rfl, hb4⟩
      have hts : (strOf (BL.pk (CL.chB l))).size ≤ 100000 ∧ 1 ≤ (strOf (BL.pk (CL.chB l))).size := by
        have a := CL.chB_len l
        have b := CL.chB_pos l
        rw [str_size, BL.pk_length]; omega
      have HB4 := hid (HB3.out.trans (hb4.mono hs3))
      have hs4 := HB4.out.size
      clear hb4
      generalize strOf (BL.pk (CL.chB l)) = t at *
      have HC2 := hid (read_c t w4 (by omega) (HW.out.below HB4.out hG) (by omega))
      rw [HRW.out] at HC2
      go_wp2_with fail
      refine Calls.mono HC2.out ?_
      rintro e w5 ⟨v5, rfl, ho5, hb5⟩
      obtain ⟨co, capc, rfl, hS5⟩ := SRow.of_own ho5
      have HS5 := hid hS5
      have HB5 := hid (HB4.out.trans (hb5.mono hs4))
      have hs5 := HB5.out.size
      clear hb5 HC2 ho5 hS5
      go_wp2_with fail
      refine (same_any co ao l l capc cap _ HS5.out (HS.out.below HB5.out) (by omega)).mono ?_
      rintro e w6 ⟨rfl, hb6⟩
      have HB6 := hid (HB5.out.trans (hb6.mono hs5))
      have hs6 := HB6.out.size
      have hdt : decide (l = l) = true := decide_eq_true rfl
      clear hb6
      go_wp2_with fail
      refine (pick_any cut t.size _ (by omega) (by omega)).mono ?_
      rintro e w7 ⟨⟨k, hk, rfl⟩, rfl⟩
      have hex : (t.extract 0 k).size ≤ 300000 := by
        simp only [ByteArray.size_extract]; omega
      have HC3 := hid (read_c (t.extract 0 k) w7 (by omega) (HW.out.below HB6.out hG) (by omega))
      rw [HCut.out k hk] at HC3
      go_wp2_with fail
      refine Calls.mono HC3.out ?_
      rintro e w8 ⟨rfl, hb8⟩
      have HB8 := hid (HB6.out.trans (hb8.mono hs6))
      clear hb8 HC3
      go_wp2_with fail
      go_ret
      exact ⟨rfl, HB8.out⟩

end Go.Proofs.YtdmnlmohfaafoabDoor
