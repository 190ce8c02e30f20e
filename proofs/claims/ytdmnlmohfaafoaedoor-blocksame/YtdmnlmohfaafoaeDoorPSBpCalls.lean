/- What block's functions tell, all together: for BlockSame. -/
import Derived.Test.YtdmnlmohfaafoaeDoorPSBkSameC
import Derived.Test.YtdmnlmohfaafoaeDoorPSBpWoC
import Derived.Test.YtdmnlmohfaafoaeDoorPSBpMeC
import Derived.Test.YtdmnlmohfaafoaeDoorPSBpWrite
import Derived.Test.YtdmnlmohfaafoaeDoorPSBpRead
namespace Go.Proofs.YtdmnlmohfaafoaeDoor
open Go.RowKit

theorem good_sh {S : List Sr} (h : HD.Good S) : SrSh S := ⟨by have := h.few; omega, fun i hi => by
  have hok := h.ok _ (HD.at_mem S i hi)
  have h1 := right_len hok.1
  have h2 := right_le hok.2.1
  exact ⟨shrt_right hok.1, by omega, h2, hok.2.2.2⟩⟩

theorem blk_calls (w0 : World) (hW : Wids w0) (hG : 4 < w0.heap.size) : BlkCalls w0 := by
  have wid : ∀ W, Below w0.heap.size w0 W → Wids W ∧ 4 < W.heap.size := fun W k => ⟨fun i hi => (k.cell (p := ⟨4, i, none⟩) hG).trans (hW i hi), Nat.lt_of_lt_of_le hG k.size⟩
  refine ⟨?_, ?_, ?_, ?_⟩
  · rintro v S tp old W _ ⟨ao, cap, rfl, hS, _⟩ hn hl hR
    exact bright_any ao S cap tp old W hS (by omega) (fun i hi => by have := hl i hi; omega) hR
  · rintro v gv S gs W _ ⟨ao, cap, rfl, hS, _⟩ hGd ⟨go, gc, rfl, hGr, _⟩ hg hA
    refine (bwo_any ao go S gs cap gc W hS hGd hGr (by omega) (fun i hi => by have := hA i hi; omega)).mono ?_
    rintro e w' ⟨u, rfl, h1, h2⟩
    exact ⟨u, rfl, RowOk.of_own h1, h2⟩
  · rintro v u S T W _ ⟨ao, cap, rfl, hS, hc, hl, hn⟩ ⟨bo, cap2, rfl, hT, hc2, hl2, hn2⟩ gS gT
    refine (bme_any ao bo S T cap cap2 W hS hT gS gT hc hc2 hl hl2 hn hn2).mono ?_
    rintro e w' ⟨x, rfl, h1, h2⟩
    exact ⟨x, rfl, RowOk.of_own h1, h2⟩
  · rintro v S tp old W kW ⟨ao, cap, rfl, hS, _⟩ hr hGd h20 h1 h2
    have hsh := good_sh hGd
    refine (pwblk_any ao S cap tp old W hS hsh (wid W kW).1 (wid W kW).2 h1 h2).mono ?_
    rintro e w' ⟨hb, ⟨_, rfl⟩ | ⟨h, _⟩⟩
    · refine ⟨sb (BK.bytes tp old S), rfl, hb, fun W' kW' => ?_⟩
      have hlen : (BK.bytes tp old S).length ≤ 5000000 := by
        have := (wAll_len hsh h20).2
        unfold BK.bytes
        rw [List.length_append, List.length_append, CD.wN_length, CD.wN_length]
        omega
      refine (prblk_any (BK.bytes tp old S) W' hlen (wid W' kW').1 (wid W' kW').2).mono ?_
      rintro e w'' ⟨hb2, ⟨tp2, old2, l, u, e1, rfl, hso⟩ | ⟨e1, _⟩⟩
      · rw [rBlk_bytes hsh hr h1 h2] at e1
        simp only [Option.some.injEq, Prod.mk.injEq] at e1
        obtain ⟨rfl, rfl, rfl⟩ := e1
        rw [toSr_srOf] at hso
        exact ⟨u, rfl, RowOk.of_own hso, hb2⟩
      · rw [rBlk_bytes hsh hr h1 h2] at e1
        cases e1
    · rw [hr] at h
      cases h

end Go.Proofs.YtdmnlmohfaafoaeDoor

