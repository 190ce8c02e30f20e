/- What block.Write tells. -/
import Derived.Test.YtdmnlmohfaafoaeDoorPSBpRight
import Derived.Test.YtdmnlmohfaafoaeDoorPSBkByt
import Derived.Test.YtdmnlmohfaafoaeDoorPSCwAll
namespace Go.Proofs.YtdmnlmohfaafoaeDoor
open Go.RowKit

theorem wfr_bel {w W W' : World} {B : Nat} (h : Below w.heap.size w W) (hB : w.heap.size ≤ B) (k : WFr B W W') : Below w.heap.size w W' :=
  h.trans (k.below.mono hB)

set_option maxRecDepth 100000 in
set_option maxHeartbeats 1600000 in
theorem pwblk_any (ao : Option Addr) (S : List Sr) (cap : Nat) (tp old : Int) (w : World) (hS : SrRow w ao S) (hsh : SrSh S) (hW : Wids w) (hG : 4 < w.heap.size) (h1 : -9223372036854775808 ≤ tp ∧ tp ≤ 9223372036854775807) (h2 : -9223372036854775808 ≤ old ∧ old ≤ 9223372036854775807) :
    Calls Tryd.prog 25 #[.agg #[.int .i64 tp, .int .i64 old, .slice ao S.length cap]] w fun e w' => PWBEnd w tp old S e w' := by
  have hb0 : Below w.heap.size w (w.alloc (.cells #[.int .i64 tp, .int .i64 old, .slice ao S.length cap] 48)) := (Below.refl _ w).alloc (Nat.le_refl _) _
  have HX0 := hid (heap_alloc_new w (.cells #[.int .i64 tp, .int .i64 old, .slice ao S.length cap] 48))
  have HS := hid hS
  have HSh := hid hsh
  have HW := hid hW
  have HG := hid hG
  have H12 := hid (And.intro h1 h2)
  have HB0 := hid hb0
  clear hS hsh hW hG h1 h2 hb0
  go_enter Tryd.func25, Tryd.ntmps25
  go_wp2_with fail
  refine (bright_any ao S cap tp old _ (HS.out.below HB0.out) (by have := HSh.out.1; omega) (fun i hi => by have := HSh.out.2 i hi; omega) (fun i hi => (HSh.out.2 i hi).2.2.2)).mono ?_
  rintro e w1 ⟨rfl, hb1⟩
  have HB1 := hid (HB0.out.trans (hb1.mono HB0.out.size))
  have HX1 := hid ((hb1.block _ (heap_lt HX0.out)).trans HX0.out)
  clear hb1 HX0 HB0
  rcases hr : BK.right tp old S with _ | _
  · have HR := hid hr
    clear hr
    go_wp2_with fail
    go_ret2
    exact ⟨HB1.out, .inr ⟨HR.out, rfl⟩⟩
  · have HR := hid hr
    clear hr
    have z2 : w1.cell? ⟨w.heap.size, 2, none⟩ = some (.slice ao S.length cap) := zcell1 _ _ _ _ HX1.out 2 _ rfl
    have HW1 := hid (show Wids w1 from fun i hi => (HB1.out.cell (p := ⟨4, i, none⟩) HG.out).trans (HW.out i hi))
    have HG1 := hid (Nat.lt_of_lt_of_le HG.out HB1.out.size)
    go_wp2_with fail
    refine (cser_any ao S cap w1 (HS.out.below HB1.out) HSh.out HW1.out HG1.out).mono ?_
    rintro e w2 ⟨hb2, hend⟩
    rcases hend with ⟨_, rfl⟩ | ⟨i, _, hi, _, hbad, _⟩
    · have HB2 := hid (HB1.out.trans (hb2.mono HB1.out.size))
      have HX2 := hid ((hb2.block _ (heap_lt HX1.out)).trans HX1.out)
      have hb3 : Below w2.heap.size w2 (w2.alloc (.cells #[.slice none 0 0] 105)) := (Below.refl _ w2).alloc (Nat.le_refl _) _
      have HB3 := hid (HB2.out.trans (hb3.mono HB2.out.size))
      have HX3 := hid ((hb3.block _ (heap_lt HX2.out)).trans HX2.out)
      have HC3 := hid (CWr.new w2)
      have hne : w.heap.size < w2.heap.size := heap_lt HX2.out
      generalize hX : CD.wAll chE (S.map srOf) = X at *
      have hXl : X.length ≤ 300000000 := by
        rw [← hX]
        have h1 := wS_len S HSh.out S.length (Nat.le_refl _)
        have h0 := HSh.out.1
        rw [List.take_of_length_le (by simp)] at h1
        have h2 : CD.wAll chE (S.map srOf) = CD.wN (S.map srOf).length ++ CD.wS chE (S.map srOf) := rfl
        rw [h2, List.length_append, CD.wN_length]
        omega
      have HXe := hid hX
      have z0 : (w2.alloc (.cells #[.slice none 0 0] 105)).cell? ⟨w.heap.size, 0, none⟩ = some (.int .i64 tp) := zcell1 _ _ _ _ HX3.out 0 _ rfl
      clear hb2 hb3 HX1 HB1 z2 HX2 HB2 hX
      go_wp2_with fail
      generalize w2.alloc (.cells #[.slice none 0 0] 105) = w3 at HB3 HX3 HC3 z0 ⊢
      generalize w2.heap.size = B at *
      refine (cnum_any B tp [] w3 HC3.out (by simp) H12.out.1.1 H12.out.1.2).mono ?_
      rintro e w4 ⟨rfl, hc4, hf4⟩
      have HB4 := hid (wfr_bel HB3.out (by omega) hf4)
      have hX4 := hf4.other HX3.out (by decide) (by omega)
      have HC4 := hid hc4
      have HX4 := hid hX4
      have y1 : w4.cell? ⟨w.heap.size, 1, none⟩ = some (.int .i64 old) := zcell1 _ _ _ _ hX4 1 _ rfl
      clear hc4 hf4 hX4 z0 HX3 HB3 HC3
      go_wp2_with fail
      refine (cnum_any B old _ w4 HC4.out (by simp [CD.wN_length]) H12.out.2.1 H12.out.2.2).mono ?_
      rintro e w5 ⟨rfl, hc5, hf5⟩
      have HB5 := hid (wfr_bel HB4.out (by omega) hf5)
      have HC5 : Hid (CWr B w5 (CD.wN tp ++ CD.wN old)) := by rw [List.nil_append] at hc5; exact hc5
      clear hc5 hf5 y1 HX4 HB4 HC4
      go_wp2_with fail
      refine (cbytes_any B _ w5 HC5.out).mono ?_
      rintro e w6 ⟨rfl, hb6⟩
      have HB6 := hid (HB5.out.trans (hb6.mono HB5.out.size))
      clear hb6 HB5 HC5
      have hz : (sb (CD.wN tp ++ CD.wN old)).size + (sb X).size ≤ 9223372036854775807 := by rw [sb_size, sb_size]; simp only [List.length_append, CD.wN_length]; omega
      clear hXl
      go_wp2_with fail
      go_ret2
      refine ⟨HB6.out, .inl ⟨HR.out, ?_⟩⟩
      unfold BK.bytes
      rw [HXe.out]
      have e1 : sb (CD.wN tp ++ CD.wN old) ++ sb X = sb (CD.wN tp ++ (CD.wN old ++ X)) := by
        rw [← sb_append, ← sb_append, ← sb_append, ByteArray.append_assoc]
      rw [← e1]
      rfl
    · rw [BK.right_okS HR.out i hi] at hbad
      cases hbad

end Go.Proofs.YtdmnlmohfaafoaeDoor

