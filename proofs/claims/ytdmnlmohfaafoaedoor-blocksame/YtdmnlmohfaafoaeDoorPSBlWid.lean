/- Beside HdOpenC (made by mkbl.py): what the row's condition on the variable widths gives: its seven cells. -/
import Derived.Test.YtdmnlmohfaafoaeDoorPSBitLeaf
import Derived.ProofKit
import Derived.LaidMore
import Derived.OpenShut
import Derived.Stop.Joined
namespace Go.Proofs.YtdmnlmohfaafoaeDoor
open Go.ChangeShapes Go.WideShapes Go.ChangeAt Go.WideMaps Go.WideElems Go.RowKit

theorem Tryd.cells3 : Tryd.prog.cellsOf 3 = 1 := by kernel_rfl
theorem tWids : (Tryd.prog.globals[4]?).map (·.type) = some 228 := by kernel_rfl

theorem lits_of {H : Type} (l : List (DataW H × List MemPlace)) (ns : List Int) (h : l.map (·.1) = ns.map fun n => DataW.lit (.int .i64 n)) (i : Nat) (x : DataW H × List MemPlace) (n : Int) (hx : l[i]? = some x) (hn : ns[i]? = some n) : x.1 = .lit (.int .i64 n) := by
  have h1 : (l.map (·.1))[i]? = some x.1 := by rw [List.getElem?_map, hx]; rfl
  rw [h, List.getElem?_map, hn] at h1
  exact (Option.some.inj h1).symm

theorem wids_list : [(0 : Int), 4, 7, 12, 20, 32, 64] = (List.range 7).map fun i => (BL.wid i : Int) := by decide

/-- WHAT THE CONDITION GIVES THE WALKS. -/
theorem wids_of_laid {W : World} {ps : List MemPlace} (h : DataW.LaidVars Tryd.prog W Rows.blockSameRow.laid ps) : Wids W ∧ 4 < W.heap.size := by
  obtain ⟨g0, t0, cs0, f0, p0, q0, hg0, ht0, hv0, hd0, _, _⟩ := h
  obtain rfl : g0 = 4 := Option.some.inj (hg0.symm.trans (by kernel_rfl))
  obtain rfl := Option.some.inj (tWids.symm.trans ht0)
  obtain ⟨xs, m1, rfl, hx1, hlen, hn7, hel⟩ := DataW.trod_array Tryd.underlying228 hd0
  have hx2 : xs.map (·.1) = [(0 : Int), 4, 7, 12, 20, 32, 64].map fun n => DataW.lit (.int .i64 n) := by
    simp only [Prod.mk.injEq] at hx1
    have := hx1.1
    simp only [Rows.laid_raingauge_bits_widths, DataW.agg.injEq] at this
    exact this.symm
  rw [wids_list] at hx2
  have hcell : Wids W := by
    intro i hi
    have h1 := hel i hi
    rw [Tryd.cells3] at h1
    obtain ⟨x, hx⟩ : ∃ x, xs[i]? = some x := ⟨xs[i]'(by omega), by simp⟩
    rw [hx] at h1
    obtain ⟨k, e1, e2, _⟩ := DataW.trod_int Tryd.underlying3 h1
    have e3 := lits_of xs _ hx2 i x (BL.wid i) hx (by rw [List.getElem?_map, List.getElem?_range hi]; rfl)
    rw [e2] at e3
    have hk : k = BL.wid i := by simpa using e3
    subst hk
    have := World.var?_cell hg0 hv0 i
    rw [this]
    have hd : cs0.toList[i]? = some (.int .i64 (BL.wid i)) := by
      have := congrArg (fun l => l[0]?) e1
      simpa [List.getElem?_take, List.getElem?_drop] using this
    simpa using hd
  refine ⟨hcell, ?_⟩
  have := hcell 0 (by omega)
  have hb := World.block_lt_of_cell? _ _ this
  exact hb

/-- The door's own heap meets the condition. -/
theorem back_door (os : Os) (args : Array Value) : laidMetH Tryd.prog Rows.blockSameRow.laid ((World.doorLaid Tryd.prog 94 os).forCall (fun _ _ => 0) ⟨#[], args, []⟩).memory :=
  laidMetH_of_parts3 (fuel := 8) (laidMet_of_run' 8 (by kernel_rfl) (by kernel_rfl)) (by kernel_rfl) (by kernel_rfl)

theorem back_wids {W : World} (h : laidMetH Tryd.prog Rows.blockSameRow.laid W) : Wids W ∧ 4 < W.heap.size := by
  rw [MakeChecks.laidMetH_plain _ _ _ (by kernel_rfl)] at h
  obtain ⟨ps, h, _⟩ := h
  exact wids_of_laid h

end Go.Proofs.YtdmnlmohfaafoaeDoor

