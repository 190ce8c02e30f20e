/- What the rows' condition on errors.errorType and bits.widths comes to. -/
import Derived.Test.YtdmnlmohfaafoaaDoorBitLaid
import Derived.Test.YtdmnlmohfaafoaaDoorBitBare
import Derived.SevenTiedAt
import Derived.LaidHandle
namespace Go.Proofs.YtdmnlmohfaafoaaDoor
open Go.ChangeShapes Go.WideShapes Go.ChangeAt Go.WideMaps Go.WideElems Go.RowKit

theorem le_oneRow : ((List.range Tryd.prog.types.size).filter fun t => Tryd.prog.rowNamed t [101, 114, 114, 111, 114]) = [49] := by kernel_rfl

/-- The door's own heap meets the condition. -/
theorem le_door (os : Os) (args : Array Value) : laidMetH Tryd.prog Rows.bitsReadRow.laid ((World.doorLaid Tryd.prog 21 os).forCall (fun _ _ => 0) ⟨#[], args, []⟩).memory :=
  laidMetH_of_parts3 (fuel := 8) (laidMet_of_run' 8 (by kernel_rfl) (by kernel_rfl)) (by kernel_rfl) (by kernel_rfl)

theorem le_laid {W : World} (h : laidMetH Tryd.prog Rows.bitsReadRow.laid W) : Wids W ∧ ErrT W := by
  have h' : laidMet Tryd.prog Rows.bitsWriteRow.laid W ∧ handlesMet Tryd.prog (Rows.bitsReadRow.laid.take 1) W := h
  obtain ⟨ps, hv, _⟩ := h'.1
  refine ⟨(wids_of_laid hv).1, ?_⟩
  obtain ⟨name, u, ty, e1, e2, e3, e4, e5⟩ := h'.2 _ (List.mem_cons_self (l := []))
  have en : name = [101, 114, 114, 111, 114] := (Option.some.inj e1).symm
  subst en
  obtain rfl : u = 141 := Option.some.inj (e2.symm.trans (by kernel_rfl))
  have hm : ty ∈ (List.range Tryd.prog.types.size).filter fun t => Tryd.prog.rowNamed t [101, 114, 114, 111, 114] := List.mem_filter.2 ⟨List.mem_range.2 e3, e4⟩
  rw [le_oneRow] at hm
  obtain rfl := List.mem_singleton.1 hm
  have hh : typeHandle Tryd.prog 49 = .pointer (some ⟨3, 49, none⟩) := by kernel_rfl
  rw [hh] at e5
  have hg : Tryd.prog.globalNamed ((Rows.bitsReadRow.laid.take 1).head (by decide)).1 = some 2 := by kernel_rfl
  have := World.var?_cell hg e5 0
  simpa [ErrT] using this

theorem Wids.lt {w : World} (h : Wids w) : 0 < w.heap.size := World.block_lt_of_cell? _ _ (h 0 (by omega))

end Go.Proofs.YtdmnlmohfaafoaaDoor
