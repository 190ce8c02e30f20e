/- HeadPlays, proved: for every mark, every list of turns and every number of series that fill the head (beyond 40 turns the law answers true at once, and it passes by turns with more than 20 series, labels or matchers, more than 60 letters, more than 60 samples, or matchers that may not be asked): whatever comes, is cut off, and goes, what is told, what is there, and the mark, is the document's (the law answers true, its arguments read as before). No conditions but the card's own: errors.errorType and raingaugeref.Fine lie as their texts say. -/
import Derived.Test.YtdmnlmohfaafoadGreatDoorPHpLaw
import Derived.Test.YtdmnlmohfaafoadGreatDoorPHpOpen
import Derived.Test.YtdmnlmohfaafoadGreatDoorTie
import Derived.Test.YtdmnlmohfaafoadGreatDoorCards
import Derived.LaidMore
import Derived.OpenShut
import Derived.Stop.Joined
import Derived.SevenTiedAt
import Derived.LaidHandle
namespace Go.Proofs.YtdmnlmohfaafoadGreatDoor
open Go.ChangeShapes Go.WideShapes Go.ChangeAt Go.WideMaps Go.WideElems Go.RowKit

theorem le_oneRow : ((List.range Tryz.prog.types.size).filter fun t => Tryz.prog.rowNamed t [101, 114, 114, 111, 114]) = [30] := by kernel_rfl

/-- The door's own heap meets the condition. -/
theorem le_door (os : Os) (args : Array Value) : laidMetH Tryz.prog Rows.headPlaysRow.laid ((World.doorLaid Tryz.prog 26 os).forCall (fun _ _ => 0) ⟨#[], args, []⟩).memory :=
  laidMetH_of_parts3 (fuel := 8) (laidMet_of_run' 8 (by kernel_rfl) (by kernel_rfl)) (by kernel_rfl) (by kernel_rfl)

theorem tFine : (Tryz.prog.globals[0]?).map (·.type) = some 26 := by kernel_rfl

theorem uErr : Tryz.prog.underlying 24 = some (.int .i64) := by kernel_rfl

theorem uInt : Tryz.prog.underlying 3 = some (.int .i64) := by kernel_rfl

theorem fine_of_laid {W : World} {ps : List MemPlace} (h : DataW.LaidVars Tryz.prog W (Rows.headPlaysRow.laid.drop 1) ps) : FineH W := by
  obtain ⟨g0, t0, cs0, f0, p0, q0, hg0, ht0, hv0, hd0, _, _⟩ := h
  obtain rfl : g0 = 0 := Option.some.inj (hg0.symm.trans (by kernel_rfl))
  obtain rfl := Option.some.inj (tFine.symm.trans ht0)
  obtain ⟨y0, y1, n, e, hlen, h0, h1⟩ := trod_struct2 Tryz.underlying26 hd0
  obtain ⟨k0, a0, b0, _⟩ := DataW.trod_int uErr h0
  obtain ⟨k1, a1, b1, _⟩ := DataW.trod_int uInt h1
  simp only [Prod.mk.injEq] at e
  have e1 := e.1
  simp only [Rows.laid_raingauge_raingaugeref_Fine, DataW.agg.injEq, List.cons.injEq, and_true] at e1
  obtain ⟨e2, e3⟩ := e1
  rw [b0] at e2
  rw [b1] at e3
  have hk0 : (0 : Int) = k0 := by simpa using e2
  have hk1 : (-1 : Int) = k1 := by simpa using e3
  subst hk0 hk1
  have c0 := World.var?_cell hg0 hv0 0
  have c1 := World.var?_cell hg0 hv0 1
  have d0 : cs0.toList[0]? = some (.int .i64 0) := by
    have := congrArg (fun l => l[0]?) a0
    simp [List.getElem?_take] at this
    simpa using this.2
  have d1 : cs0.toList[1]? = some (.int .i64 (-1)) := by
    have := congrArg (fun l => l[0]?) a1
    simp [List.getElem?_take] at this
    simpa using this.2
  refine ⟨?_, ?_⟩
  · rw [c0]; simpa using d0
  · rw [c1]; simpa using d1

theorem le_laid {W : World} (h : laidMetH Tryz.prog Rows.headPlaysRow.laid W) : ErrT W ∧ FineH W := by
  have h' : laidMet Tryz.prog (Rows.headPlaysRow.laid.drop 1) W ∧ handlesMet Tryz.prog (Rows.headPlaysRow.laid.take 1) W := h
  obtain ⟨ps, hv, _⟩ := h'.1
  refine ⟨?_, fine_of_laid hv⟩
  obtain ⟨name, u, ty, e1, e2, e3, e4, e5⟩ := h'.2 _ (List.mem_cons_self (l := []))
  have en : name = [101, 114, 114, 111, 114] := (Option.some.inj e1).symm
  subst en
  obtain rfl : u = 220 := Option.some.inj (e2.symm.trans (by kernel_rfl))
  have hm : ty ∈ (List.range Tryz.prog.types.size).filter fun t => Tryz.prog.rowNamed t [101, 114, 114, 111, 114] := List.mem_filter.2 ⟨List.mem_range.2 e3, e4⟩
  rw [le_oneRow] at hm
  obtain rfl := List.mem_singleton.1 hm
  have hh : typeHandle Tryz.prog 30 = .pointer (some ⟨4, 30, none⟩) := by kernel_rfl
  rw [hh] at e5
  have hg : Tryz.prog.globalNamed ((Rows.headPlaysRow.laid.take 1).head (by decide)).1 = some 2 := by kernel_rfl
  have := World.var?_cell hg e5 0
  simpa [ErrT] using this

set_option maxRecDepth 100000 in
theorem hp_lifted (os : Os) (started : os.Started) (H : Type) (enc : TypeId × Value → H) :
    ReturnsInHanded {} Tryz.checked os 4 .any (fun w args => (Rows.headPlaysSpec.pre enc Tryz.prog Tryz.f4 [] false w args ∧ laidMetH Tryz.prog Rows.headPlaysRow.laid w) ∧ sizedMet enc Tryz.prog Tryz.f4 (OpenSpec.ofChange Rows.headPlaysSpec) false w args)
      (Rows.headPlaysSpec.post enc Tryz.prog Tryz.f4 false true false false) := by
  refine returnsInHanded_of_change_and (C := Tryz.checked) (X := fun w _ => laidMetH Tryz.prog Rows.headPlaysRow.laid w) (fun _ _ _ hh h => h.of_heap hh) Tryz.own started (by kernel_rfl) Tryz.func4
    (ChangeSpec.witness_shaped (enc := enc) (C := Tryz.checked) (os := os) (X := fun w _ => laidMetH Tryz.prog Rows.headPlaysRow.laid w) false (World.doorLaid Tryz.prog 26 os) #[.int .i64 0, .slice none 0 0, .int .i64 0] 8 rfl (World.shaped_of_RefB (by kernel_rfl) (by kernel_rfl)) (by kernel_rfl) (by kernel_rfl) (by kernel_rfl) (le_door os _)) ?_
  intro W base args ds gs before hval0 hW _ _ hL _
  have hval : ∀ (j : Nat) t v, Tryz.f4.params[j]? = some t → args[j]? = some v → Value.okWide Tryz.prog W .any base t v := hval0
  have hW' := hW
  obtain ⟨p, q, hA0, hV, rfl, hfz, hnd⟩ := hW
  have hA : DataW.TrodAll enc Tryz.prog W 0 (fun _ => true) true Tryz.f4.params.toList args.toList ds p := hA0
  rw [Tryz.params4] at hA hval
  obtain ⟨v0, v1, v2, d0, d1, d2, p0, p1, p2, rfl, rfl, rfl, h0, h1, h2⟩ := trodAll_three hA
  obtain ⟨rfl, rfl⟩ := trodVars_none hV
  obtain ⟨hEr, hFi⟩ := le_laid hL
  obtain ⟨n, rfl, rfl, rfl, wn⟩ := open_int Tryz.underlying2 (hval 0 2 v0 rfl rfl) h0
  obtain ⟨m, rfl, rfl, rfl, wm⟩ := open_int Tryz.underlying3 (hval 2 3 v2 rfl rfl) h2
  obtain ⟨a0, len, cap, rfl⟩ := okWide_slice Tryz.underlying41 (hval 1 41 v1 rfl rfl)
  clear hA0 hval0
  simp only [List.append_nil, List.nil_append] at hW'
  have hlt : ∀ x ∈ p1, x.block < W.heap.size := fun x hx => by simpa using hW'.lt x hx
  have hargs : ∀ (W' : World), Below W.heap.size W W' → DataW.Trod enc Tryz.prog W' 0 (fun b => decide (b < W.heap.size)) true 41 (.slice a0 len cap) d1 p1 :=
    fun W' hn => Below.trod Tryz.laidOut (by kernel_rfl) (of_decide_eq_true (by kernel_rfl)) h1 hn hlt
  have fin : ∀ (e : Ending) (W' : World), e = .returned (.bool true) ∧ Below W.heap.size W W' → ∃ v, e = Ending.returned v ∧ Rows.headPlaysSpec.post enc Tryz.checked.prog Tryz.f4 false true false false W #[.int .i64 n, .slice a0 len cap, .int .i64 m] v W' := by
    rintro e W' ⟨rfl, hb⟩
    refine ⟨_, rfl, _, _, _, [], p1, [], hW', ?_, ?_, rfl, hb.frame _, fun h => by cases h⟩
    · exact trodAll_mk1 (shut_bool Tryz.underlying4 true)
    · have := trodAll_mk3 (shut_int Tryz.underlying2 wn) (hargs _ hb) (shut_int Tryz.underlying3 wm)
      simp only [List.append_nil, List.nil_append] at this
      exact this
  obtain ⟨l, hl, hS⟩ := open_turns h1
  subst hl
  exact (plays_any n m a0 l cap W hEr hFi hS).mono fun e W' h => fin e W' h

theorem headPlays_row : Rows.HeadPlaysSaid :=
  OpenClaim.holds_of_wide 4 Tryz.f4 rfl rfl rfl rfl rfl rfl rfl ⟨rfl, rfl, rfl, rfl, rfl⟩ rfl rfl rfl rfl rfl (by kernel_rfl) Tryz.func4 (by kernel_rfl)
    (of_decide_eq_true (by kernel_rfl)) (by unfold Func.isWrapper; first | (rw [if_pos (by decide +kernel)]; kernel_rfl) | (rw [if_neg (by decide +kernel)]; exact ⟨rfl, rfl⟩))
    (fun os started H enc _ => hp_lifted os started H enc)

theorem headPlays_holds : Rows.HeadPlaysCardSaid :=
  Claim7.holds_tied_plain_at .later [] [.handle, .data] true Rows.headPlaysCard.stood.harness Rows.headPlaysCard.stood.looks
    headPlays_row (fun _ h => by cases h) (by kernel_rfl) (fun _ h => by cases h) headPlays_row_tie rfl ⟨rfl, rfl⟩ (by kernel_rfl) rfl
    (fun f fn hf hfn => by
      obtain rfl : f = 4 := Option.some.inj ((show Tryz.prog.funcNamed Rows.headPlaysRow.func = some 4 by kernel_rfl).symm.trans hf) |>.symm
      obtain rfl : fn = Tryz.f4 := (Option.some.inj (Tryz.func4.symm.trans hfn)).symm
      exact ⟨by kernel_rfl, fun j t ht => by
        rw [Tryz.params4] at ht
        have hm : t ∈ [2, 41, 3] := by simpa using Array.mem_of_getElem? ht
        have hall : ([2, 41, 3].all fun u => !Tryz.prog.wantsStandIn u) = true := by kernel_rfl
        exact (show Tryz.prog.wantsStandIn t = false by simpa using List.all_eq_true.1 hall t hm)⟩)
    (by kernel_rfl)
#print axioms headPlays_holds
end Go.Proofs.YtdmnlmohfaafoadGreatDoor

