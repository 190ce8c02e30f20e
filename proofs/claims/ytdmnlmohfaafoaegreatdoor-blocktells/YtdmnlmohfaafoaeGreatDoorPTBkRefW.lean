/- The document's WriteBlock. -/
import Derived.Test.YtdmnlmohfaafoaeGreatDoorPTBkRefRC
import Derived.Test.YtdmnlmohfaafoaeGreatDoorPTCwRef
import Derived.Test.YtdmnlmohfaafoaeGreatDoorPTBkByt
import Derived.Deep.CutRange
namespace Go.Proofs.YtdmnlmohfaafoaeGreatDoor
open Go.RowKit

/-- What WriteBlock tells. -/
def RWBEnd (w : World) (tp old : Int) (S : List Sr) (e : Ending) (w' : World) : Prop :=
  Below w.heap.size w w' ∧ ((BK.right tp old S = true ∧ e = .returned (.tuple #[.string (sb (BK.bytes tp old S)), .int .i64 0])) ∨ (BK.right tp old S = false ∧ e = .returned (.tuple #[.string ⟨#[]⟩, .int .i64 1])))

set_option maxRecDepth 100000 in
set_option maxHeartbeats 1600000 in
theorem rwblock_any (ao : Option Addr) (S : List Sr) (cap : Nat) (tp old : Int) (w : World) (hS : SrRow w ao S) (hsh : SrSh S) (hn : S.length ≤ 2000) (hF : FineT w) (h1 : -9223372036854775808 ≤ tp ∧ tp ≤ 9223372036854775807) (h2 : -9223372036854775808 ≤ old ∧ old ≤ 9223372036854775807) :
    Calls Tryz.prog 6 #[.agg #[.int .i64 tp, .int .i64 old, .slice ao S.length cap]] w fun e w' => RWBEnd w tp old S e w' := by
  have hb0 : Below w.heap.size w (w.alloc (.cells #[.int .i64 tp, .int .i64 old, .slice ao S.length cap] 25)) := (Below.refl _ w).alloc (Nat.le_refl _) _
  have HX0 := hid (heap_alloc_new w (.cells #[.int .i64 tp, .int .i64 old, .slice ao S.length cap] 25))
  have HS := hid hS
  have HSh := hid hsh
  have HF := hid hF
  have H12 := hid (And.intro h1 h2)
  have HB0 := hid hb0
  clear hS hsh hF h1 h2 hb0
  go_enter Tryz.func6, Tryz.ntmps6
  go_wp2_with fail
  refine (rbright_any ao S cap tp old _ (HS.out.below HB0.out) (by omega) (fun i hi => by have := HSh.out.2 i hi; omega) (fun i hi => (HSh.out.2 i hi).1)).mono ?_
  rintro e w1 ⟨rfl, hb1⟩
  have HB1 := hid (HB0.out.trans (hb1.mono HB0.out.size))
  have HX1 := hid ((hb1.block _ (heap_lt HX0.out)).trans HX0.out)
  clear hb1 HX0 HB0
  rcases hr : BK.right tp old S with _ | _
  · have HR := hid hr
    clear hr
    go_wp2_with fail
    go_ret2
    exact ⟨HB1.out, .inr ⟨HR.out, rfl⟩⟩
  · have HR := hid hr
    clear hr
    have z2 : w1.cell? ⟨w.heap.size, 2, none⟩ = some (.slice ao S.length cap) := zcell1 _ _ _ _ HX1.out 2 _ rfl
    have HFw := hid (show FineT w1 from ⟨(HB1.out.cell (p := ⟨0, 0, none⟩) (World.block_lt_of_cell? _ _ HF.out.1)).trans HF.out.1, (HB1.out.cell (p := ⟨0, 1, none⟩) (World.block_lt_of_cell? _ _ HF.out.2)).trans HF.out.2⟩)
    go_wp2_with fail
    refine (rwser_any ao S cap w1 (HS.out.below HB1.out) HSh.out HFw.out).mono ?_
    rintro e w2 ⟨hb2, hend⟩
    rcases hend with ⟨_, rfl⟩ | ⟨i, hi, _, hbad, _⟩
    · have HB2 := hid (HB1.out.trans (hb2.mono HB1.out.size))
      have HX2 := hid ((hb2.block _ (heap_lt HX1.out)).trans HX1.out)
      have hb3 : Below w2.heap.size w2 (w2.alloc (.cells #[.int .i64 0, .int .i64 (-1)] 63)) := (Below.refl _ w2).alloc (Nat.le_refl _) _
      have HB3 := hid (HB2.out.trans (hb3.mono HB2.out.size))
      have HX3 := hid ((hb3.block _ (heap_lt HX2.out)).trans HX2.out)
      clear hb2 hb3 HX1 HB1 z2 HX2 HB2
      go_upto_region 4 with fail
      generalize w2.alloc (.cells #[.int .i64 0, .int .i64 (-1)] 63) = w3 at HB3 HX3 ⊢
      have HZ : Hid (∀ W, Below w3.heap.size w3 W → W.cell? ⟨w.heap.size, 0, none⟩ = some (.int .i64 tp) ∧ W.cell? ⟨w.heap.size, 1, none⟩ = some (.int .i64 old)) := fun W hW =>
        have h := (hW.block _ (heap_lt HX3.out)).trans HX3.out
        ⟨zcell1 _ _ _ _ h 0 _ rfl, zcell1 _ _ _ _ h 1 _ rfl⟩
      have HE : Hid (∀ n : Int, -9223372036854775808 ≤ n ∧ n ≤ 9223372036854775807 → ∀ W, Below w3.heap.size w3 W → Calls Tryz.prog 23 #[.int .i64 n] W fun e w' => e = .returned (.string (sb (CD.wN n))) ∧ Below w3.heap.size w3 w') := fun n hn W hW => (reight_any n W hn.1 hn.2).mono fun e w' h => ⟨h.1, hW.trans (h.2.mono hW.size)⟩
      generalize hX : CD.wAll chE (S.map srOf) = X at *
      have hXl : X.length ≤ 300000000 := by
        rw [← hX]
        have h1 := wS_len S HSh.out S.length (Nat.le_refl _)
        rw [List.take_of_length_le (by simp)] at h1
        have h2 : CD.wAll chE (S.map srOf) = CD.wN (S.map srOf).length ++ CD.wS chE (S.map srOf) := rfl
        rw [h2, List.length_append, CD.wN_length]
        omega
      have hz1 : (sb (CD.wN tp)).size + (sb (CD.wN old)).size ≤ 9223372036854775807 := by rw [sb_size, sb_size, CD.wN_length, CD.wN_length]; omega
      have hz2 : (sb (CD.wN tp)).size + (sb (CD.wN old)).size + (sb X).size ≤ 9223372036854775807 := by rw [sb_size, sb_size, sb_size, CD.wN_length, CD.wN_length]; omega
      have HXe := hid hX
      clear hX hXl
      refine wp_region_class (fun W => Below w3.heap.size w3 W) (by kernel_rfl) (by kernel_rfl) (Below.refl _ w3).drew ?_
      refine q_run (.pointer (some ⟨w.heap.size, 0, none⟩)) (by kernel_rfl) (fun W hW => by kernel_rfl) ?_
      go_frame
      refine q_load (.int .i64 tp) (by kernel_rfl) rfl (by kernel_rfl) (fun W hW => bk_ld64 _ _ _ W (HZ.out W hW).1) ?_
      go_frame
      refine q_call (.string (sb (CD.wN tp))) (by kernel_rfl) (fun W => by kernel_rfl) (HE.out tp H12.out.1) ?_
      go_frame
      refine q_run (.pointer (some ⟨w.heap.size, 1, none⟩)) (by kernel_rfl) (fun W hW => by kernel_rfl) ?_
      go_frame
      refine q_load (.int .i64 old) (by kernel_rfl) rfl (by kernel_rfl) (fun W hW => bk_ld64 _ _ _ W (HZ.out W hW).2) ?_
      go_frame
      refine q_call (.string (sb (CD.wN old))) (by kernel_rfl) (fun W => by kernel_rfl) (HE.out old H12.out.2) ?_
      go_frame
      refine q_run (.string (sb (CD.wN tp) ++ sb (CD.wN old))) (by kernel_rfl) (fun W hW => by go_simp) ?_
      go_frame
      refine q_run (.string (sb X)) (by kernel_rfl) (fun W hW => by kernel_rfl) ?_
      go_frame
      refine q_run (.string (sb (CD.wN tp) ++ sb (CD.wN old) ++ sb X)) (by kernel_rfl) (fun W hW => by go_simp) ?_
      go_frame
      refine q_run (.string (sb (CD.wN tp) ++ sb (CD.wN old) ++ sb X)) (by kernel_rfl) (fun W hW => by kernel_rfl) ?_
      go_frame
      refine q_run (.int .i64 0) (by kernel_rfl) (fun W hW => by kernel_rfl) ?_
      go_frame
      refine wpQuiet_nil ?_
      intro w4 hb4
      have HE4 := hid (HB3.out.trans (hb4.mono HB3.out.size))
      clear hb4 HZ HE
      go_wp2_with fail
      go_ret2
      refine ⟨HE4.out, .inl ⟨HR.out, ?_⟩⟩
      unfold BK.bytes
      rw [HXe.out, ← sb_append, ← sb_append, ← ByteArray.append_assoc]
      rfl
    · rw [BK.right_okS HR.out i hi] at hbad
      cases hbad

end Go.Proofs.YtdmnlmohfaafoaeGreatDoor

