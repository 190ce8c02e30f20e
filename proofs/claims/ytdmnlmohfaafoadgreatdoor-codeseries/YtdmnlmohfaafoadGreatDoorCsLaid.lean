/- What CodeSeries' row's condition on errorType, widths and Fine gives. -/
import Derived.Test.YtdmnlmohfaafoadGreatDoorCwRef
import Derived.Test.YtdmnlmohfaafoadGreatDoorBtIs
import Derived.ProofKit
import Derived.LaidMore
import Derived.OpenShut
import Derived.Stop.Joined
import Derived.SevenTiedAt
import Derived.LaidHandle
namespace Go.Proofs.YtdmnlmohfaafoadGreatDoor
open Go.ChangeShapes Go.WideShapes Go.ChangeAt Go.WideMaps Go.WideElems Go.RowKit

theorem Tryz.own : ownKnob Tryz.prog.godebug = none := by kernel_rfl
theorem Tryz.laidOut : laidOutB Tryz.prog = true := by kernel_rfl
theorem Tryz.cells3 : Tryz.prog.cellsOf 3 = 1 := by kernel_rfl
theorem tWids : (Tryz.prog.globals[1]?).map (·.type) = some 170 := by kernel_rfl

theorem lits_of {H : Type} (l : List (DataW H × List MemPlace)) (ns : List Int) (h : l.map (·.1) = ns.map fun n => DataW.lit (.int .i64 n)) (i : Nat) (x : DataW H × List MemPlace) (n : Int) (hx : l[i]? = some x) (hn : ns[i]? = some n) : x.1 = .lit (.int .i64 n) := by
  have h1 : (l.map (·.1))[i]? = some x.1 := by rw [List.getElem?_map, hx]; rfl
  rw [h, List.getElem?_map, hn] at h1
  exact (Option.some.inj h1).symm

theorem wids_list : [(0 : Int), 4, 7, 12, 20, 32, 64] = (List.range 7).map fun i => (BL.wid i : Int) := by decide

theorem wids_of_laid {W : World} {ps : List MemPlace} (h : DataW.LaidVars Tryz.prog W (Rows.codeSeriesRow.laid.drop 1) ps) : Wids W ∧ ∃ qs, DataW.LaidVars Tryz.prog W (Rows.codeSeriesRow.laid.drop 2) qs := by
  obtain ⟨g0, t0, cs0, f0, p0, q0, hg0, ht0, hv0, hd0, hrest, _⟩ := h
  obtain rfl : g0 = 1 := Option.some.inj (hg0.symm.trans (by kernel_rfl))
  obtain rfl := Option.some.inj (tWids.symm.trans ht0)
  obtain ⟨xs, m1, rfl, hx1, hlen, hn7, hel⟩ := DataW.trod_array Tryz.underlying170 hd0
  have hx2 : xs.map (·.1) = [(0 : Int), 4, 7, 12, 20, 32, 64].map fun n => DataW.lit (.int .i64 n) := by
    simp only [Prod.mk.injEq] at hx1
    have := hx1.1
    simp only [Rows.laid_raingauge_bits_widths, DataW.agg.injEq] at this
    exact this.symm
  rw [wids_list] at hx2
  have hcell : Wids W := by
    intro i hi
    have h1 := hel i hi
    rw [Tryz.cells3] at h1
    obtain ⟨x, hx⟩ : ∃ x, xs[i]? = some x := ⟨xs[i]'(by omega), by simp⟩
    rw [hx] at h1
    obtain ⟨k, e1, e2, _⟩ := DataW.trod_int Tryz.underlying3 h1
    have e3 := lits_of xs _ hx2 i x (BL.wid i) hx (by rw [List.getElem?_map, List.getElem?_range hi]; rfl)
    rw [e2] at e3
    have hk : k = BL.wid i := by simpa using e3
    subst hk
    have := World.var?_cell hg0 hv0 i
    rw [this]
    have hd : cs0.toList[i]? = some (.int .i64 (BL.wid i)) := by
      have := congrArg (fun l => l[0]?) e1
      simpa [List.getElem?_take, List.getElem?_drop] using this
    simpa using hd
  exact ⟨hcell, _, hrest⟩

theorem wf_i64 {n : Int} (h : (Lit.int .i64 n).wf = true) : -9223372036854775808 ≤ n ∧ n ≤ 9223372036854775807 := by
  have h1 : IntKind.i64.min = -9223372036854775808 := rfl
  have h2 : IntKind.i64.max = 9223372036854775807 := rfl
  simp only [Lit.wf, Bool.and_eq_true, decide_eq_true_eq] at h
  omega

theorem le_oneRow : ((List.range Tryz.prog.types.size).filter fun t => Tryz.prog.rowNamed t [101, 114, 114, 111, 114]) = [30] := by kernel_rfl

/-- The door's own heap meets the condition. -/
theorem le_door (os : Os) (args : Array Value) : laidMetH Tryz.prog Rows.codeSeriesRow.laid ((World.doorLaid Tryz.prog 26 os).forCall (fun _ _ => 0) ⟨#[], args, []⟩).memory :=
  laidMetH_of_parts3 (fuel := 8) (laidMet_of_run' 8 (by kernel_rfl) (by kernel_rfl)) (by kernel_rfl) (by kernel_rfl)

theorem tFine : (Tryz.prog.globals[0]?).map (·.type) = some 26 := by kernel_rfl

theorem uErr : Tryz.prog.underlying 24 = some (.int .i64) := by kernel_rfl

theorem uInt : Tryz.prog.underlying 3 = some (.int .i64) := by kernel_rfl

theorem fine_of_laid {W : World} {ps : List MemPlace} (h : DataW.LaidVars Tryz.prog W (Rows.codeSeriesRow.laid.drop 2) ps) : FineT W := by
  obtain ⟨g0, t0, cs0, f0, p0, q0, hg0, ht0, hv0, hd0, _, _⟩ := h
  obtain rfl : g0 = 0 := Option.some.inj (hg0.symm.trans (by kernel_rfl))
  obtain rfl := Option.some.inj (tFine.symm.trans ht0)
  obtain ⟨y0, y1, n, e, hlen, h0, h1⟩ := trod_struct2 Tryz.underlying26 hd0
  obtain ⟨k0, a0, b0, _⟩ := DataW.trod_int uErr h0
  obtain ⟨k1, a1, b1, _⟩ := DataW.trod_int uInt h1
  simp only [Prod.mk.injEq] at e
  have e1 := e.1
  simp only [Rows.laid_raingauge_raingaugeref_Fine, DataW.agg.injEq, List.cons.injEq, and_true] at e1
  obtain ⟨e2, e3⟩ := e1
  rw [b0] at e2
  rw [b1] at e3
  have hk0 : (0 : Int) = k0 := by simpa using e2
  have hk1 : (-1 : Int) = k1 := by simpa using e3
  subst hk0 hk1
  have c0 := World.var?_cell hg0 hv0 0
  have c1 := World.var?_cell hg0 hv0 1
  have d0 : cs0.toList[0]? = some (.int .i64 0) := by
    have := congrArg (fun l => l[0]?) a0
    simp [List.getElem?_take] at this
    simpa using this.2
  have d1 : cs0.toList[1]? = some (.int .i64 (-1)) := by
    have := congrArg (fun l => l[0]?) a1
    simp [List.getElem?_take] at this
    simpa using this.2
  refine ⟨?_, ?_⟩
  · rw [c0]; simpa using d0
  · rw [c1]; simpa using d1

theorem le_laid {W : World} (h : laidMetH Tryz.prog Rows.codeSeriesRow.laid W) : (Wids W ∧ ErrT W) ∧ FineT W := by
  have h' : laidMet Tryz.prog (Rows.codeSeriesRow.laid.drop 1) W ∧ handlesMet Tryz.prog (Rows.codeSeriesRow.laid.take 1) W := h
  obtain ⟨ps, hv, _⟩ := h'.1
  obtain ⟨hwd, qs, hrest⟩ := wids_of_laid hv
  refine ⟨⟨hwd, ?_⟩, fine_of_laid hrest⟩
  obtain ⟨name, u, ty, e1, e2, e3, e4, e5⟩ := h'.2 _ (List.mem_cons_self (l := []))
  have en : name = [101, 114, 114, 111, 114] := (Option.some.inj e1).symm
  subst en
  obtain rfl : u = 220 := Option.some.inj (e2.symm.trans (by kernel_rfl))
  have hm : ty ∈ (List.range Tryz.prog.types.size).filter fun t => Tryz.prog.rowNamed t [101, 114, 114, 111, 114] := List.mem_filter.2 ⟨List.mem_range.2 e3, e4⟩
  rw [le_oneRow] at hm
  obtain rfl := List.mem_singleton.1 hm
  have hh : typeHandle Tryz.prog 30 = .pointer (some ⟨4, 30, none⟩) := by kernel_rfl
  rw [hh] at e5
  have hg : Tryz.prog.globalNamed ((Rows.codeSeriesRow.laid.take 1).head (by decide)).1 = some 2 := by kernel_rfl
  have := World.var?_cell hg e5 0
  simpa [ErrT] using this

end Go.Proofs.YtdmnlmohfaafoadGreatDoor
