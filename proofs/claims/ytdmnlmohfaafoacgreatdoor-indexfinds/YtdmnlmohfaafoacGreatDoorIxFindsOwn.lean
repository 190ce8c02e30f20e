/- IndexFinds, proved: for every list of series' labels, every list of matchers and every name: whether an index of them may be made, and at which series it may not; every value that the series say of the name, in order; that each name that is told is said, and names rise; and which series are as the matchers ask, or that they may not be asked, is the document's (the law answers true, its arguments read as before; beyond 30 series, 20 labels or matchers, 60 letters the law answers true at once). No condition but the texts of the variables errors.errorType and raingaugeref.Fine, to which the card ties it. -/
import Derived.Test.YtdmnlmohfaafoacGreatDoorIxFinds
import Derived.Test.YtdmnlmohfaafoacGreatDoorIxOpen
import Derived.Test.YtdmnlmohfaafoacGreatDoorTie
import Derived.Test.YtdmnlmohfaafoacGreatDoorCards
import Derived.LaidMore
import Derived.OpenShut
import Derived.Stop.Joined
import Derived.SevenTiedAt
import Derived.LaidHandle
namespace Go.Proofs.YtdmnlmohfaafoacGreatDoor
open Go.ChangeShapes Go.WideShapes Go.ChangeAt Go.WideMaps Go.WideElems Go.RowKit

theorem le_oneRow : ((List.range Tryz.prog.types.size).filter fun t => Tryz.prog.rowNamed t [101, 114, 114, 111, 114]) = [36] := by kernel_rfl

/-- The door's own heap meets the condition. -/
theorem le_door (os : Os) (args : Array Value) : laidMetH Tryz.prog Rows.indexFindsRow.laid ((World.doorLaid Tryz.prog 21 os).forCall (fun _ _ => 0) ⟨#[], args, []⟩).memory :=
  laidMetH_of_parts3 (fuel := 8) (laidMet_of_run' 8 (by kernel_rfl) (by kernel_rfl)) (by kernel_rfl) (by kernel_rfl)

theorem tFine : (Tryz.prog.globals[0]?).map (·.type) = some 27 := by kernel_rfl

theorem uErr : Tryz.prog.underlying 25 = some (.int .i64) := by kernel_rfl

theorem uInt : Tryz.prog.underlying 3 = some (.int .i64) := by kernel_rfl

theorem fine_of_laid {W : World} {ps : List MemPlace} (h : DataW.LaidVars Tryz.prog W (Rows.indexFindsRow.laid.drop 1) ps) : FineT W := by
  obtain ⟨g0, t0, cs0, f0, p0, q0, hg0, ht0, hv0, hd0, _, _⟩ := h
  obtain rfl : g0 = 0 := Option.some.inj (hg0.symm.trans (by kernel_rfl))
  obtain rfl := Option.some.inj (tFine.symm.trans ht0)
  obtain ⟨y0, y1, n, e, hlen, h0, h1⟩ := trod_struct2 Tryz.underlying27 hd0
  obtain ⟨k0, a0, b0, _⟩ := DataW.trod_int uErr h0
  obtain ⟨k1, a1, b1, _⟩ := DataW.trod_int uInt h1
  simp only [Prod.mk.injEq] at e
  have e1 := e.1
  simp only [Rows.laid_raingauge_raingaugeref_Fine, DataW.agg.injEq, List.cons.injEq, and_true] at e1
  obtain ⟨e2, e3⟩ := e1
  rw [b0] at e2
  rw [b1] at e3
  have hk0 : (0 : Int) = k0 := by simpa using e2
  have hk1 : (-1 : Int) = k1 := by simpa using e3
  subst hk0 hk1
  have c0 := World.var?_cell hg0 hv0 0
  have c1 := World.var?_cell hg0 hv0 1
  have d0 : cs0.toList[0]? = some (.int .i64 0) := by
    have := congrArg (fun l => l[0]?) a0
    simp [List.getElem?_take] at this
    simpa using this.2
  have d1 : cs0.toList[1]? = some (.int .i64 (-1)) := by
    have := congrArg (fun l => l[0]?) a1
    simp [List.getElem?_take] at this
    simpa using this.2
  refine ⟨?_, ?_⟩
  · rw [c0]; simpa using d0
  · rw [c1]; simpa using d1

theorem le_laid {W : World} (h : laidMetH Tryz.prog Rows.indexFindsRow.laid W) : ErrT W ∧ FineT W := by
  have h' : laidMet Tryz.prog (Rows.indexFindsRow.laid.drop 1) W ∧ handlesMet Tryz.prog (Rows.indexFindsRow.laid.take 1) W := h
  obtain ⟨ps, hv, _⟩ := h'.1
  refine ⟨?_, fine_of_laid hv⟩
  obtain ⟨name, u, ty, e1, e2, e3, e4, e5⟩ := h'.2 _ (List.mem_cons_self (l := []))
  have en : name = [101, 114, 114, 111, 114] := (Option.some.inj e1).symm
  subst en
  obtain rfl : u = 134 := Option.some.inj (e2.symm.trans (by kernel_rfl))
  have hm : ty ∈ (List.range Tryz.prog.types.size).filter fun t => Tryz.prog.rowNamed t [101, 114, 114, 111, 114] := List.mem_filter.2 ⟨List.mem_range.2 e3, e4⟩
  rw [le_oneRow] at hm
  obtain rfl := List.mem_singleton.1 hm
  have hh : typeHandle Tryz.prog 36 = .pointer (some ⟨2, 36, none⟩) := by kernel_rfl
  rw [hh] at e5
  have hg : Tryz.prog.globalNamed ((Rows.indexFindsRow.laid.take 1).head (by decide)).1 = some 1 := by kernel_rfl
  have := World.var?_cell hg e5 0
  simpa [ErrT] using this

set_option maxRecDepth 100000 in
theorem if_lifted (os : Os) (started : os.Started) (H : Type) (enc : TypeId × Value → H) :
    ReturnsInHanded {} Tryz.checked os 3 .any (fun w args => (Rows.indexFindsSpec.pre enc Tryz.prog Tryz.f3 [] false w args ∧ laidMetH Tryz.prog Rows.indexFindsRow.laid w) ∧ sizedMet enc Tryz.prog Tryz.f3 (OpenSpec.ofChange Rows.indexFindsSpec) false w args)
      (Rows.indexFindsSpec.post enc Tryz.prog Tryz.f3 false true false false) := by
  refine returnsInHanded_of_change_and (C := Tryz.checked) (X := fun w _ => laidMetH Tryz.prog Rows.indexFindsRow.laid w) (fun _ _ _ hh h => h.of_heap hh) Tryz.own started (by kernel_rfl) Tryz.func3
    (ChangeSpec.witness_shaped (enc := enc) (C := Tryz.checked) (os := os) (X := fun w _ => laidMetH Tryz.prog Rows.indexFindsRow.laid w) false (World.doorLaid Tryz.prog 21 os) #[.slice none 0 0, .slice none 0 0, .string ⟨#[]⟩] 8 rfl (World.shaped_of_RefB (by kernel_rfl) (by kernel_rfl)) (by kernel_rfl) (by kernel_rfl) (by kernel_rfl) (le_door os _)) ?_
  intro W base args ds gs before hval0 hW _ _ hL _
  have hval : ∀ (j : Nat) t v, Tryz.f3.params[j]? = some t → args[j]? = some v → Value.okWide Tryz.prog W .any base t v := hval0
  have hW' := hW
  obtain ⟨p, q, hA0, hV, rfl, hfz, hnd⟩ := hW
  have hA : DataW.TrodAll enc Tryz.prog W 0 (fun _ => true) true Tryz.f3.params.toList args.toList ds p := hA0
  rw [Tryz.params3] at hA hval
  obtain ⟨v0, v1, v2, d0, d1, d2, p0, p1, p2, rfl, rfl, rfl, h0, h1, h2⟩ := trodAll_three hA
  obtain ⟨rfl, rfl⟩ := trodVars_none hV
  obtain ⟨hEr, hFi⟩ := le_laid hL
  obtain ⟨a0, len0, cap0, rfl⟩ := okWide_slice Tryz.underlying22 (hval 0 22 v0 rfl rfl)
  obtain ⟨a1, len1, cap1, rfl⟩ := okWide_slice Tryz.underlying23 (hval 1 23 v1 rfl rfl)
  obtain ⟨x, rfl, rfl, rfl, wx⟩ := Go.ChangeMaps.open_string Tryz.underlying9 (hval 2 9 v2 rfl rfl) h2
  clear hA0 hval0
  simp only [List.append_nil] at hW'
  have hlt : ∀ y ∈ p0 ++ p1, y.block < W.heap.size := fun y hy => by simpa using hW'.lt y hy
  have harg0 : ∀ (W' : World), Below W.heap.size W W' → DataW.Trod enc Tryz.prog W' 0 (fun b => decide (b < W.heap.size)) true 22 (.slice a0 len0 cap0) d0 p0 :=
    fun W' hn => Below.trod Tryz.laidOut (by kernel_rfl) (of_decide_eq_true (by kernel_rfl)) h0 hn (fun y hy => hlt y (by simp [hy]))
  have harg1 : ∀ (W' : World), Below W.heap.size W W' → DataW.Trod enc Tryz.prog W' 0 (fun b => decide (b < W.heap.size)) true 23 (.slice a1 len1 cap1) d1 p1 :=
    fun W' hn => Below.trod Tryz.laidOut (by kernel_rfl) (of_decide_eq_true (by kernel_rfl)) h1 hn (fun y hy => hlt y (by simp [hy]))
  have fin : ∀ (e : Ending) (W' : World), e = .returned (.bool true) ∧ Below W.heap.size W W' → ∃ v, e = Ending.returned v ∧ Rows.indexFindsSpec.post enc Tryz.checked.prog Tryz.f3 false true false false W #[.slice a0 len0 cap0, .slice a1 len1 cap1, .string x] v W' := by
    rintro e W' ⟨rfl, hb⟩
    refine ⟨_, rfl, _, _, _, [], p0 ++ p1, [], hW', ?_, ?_, rfl, hb.frame _, fun h => by cases h⟩
    · exact trodAll_mk1 (shut_bool Tryz.underlying4 true)
    · have := trodAll_mk3 (harg0 _ hb) (harg1 _ hb) (Go.ChangeMaps.shut_string (w := W') (enc := enc) (base := 0) (sp := fun b => decide (b < W.heap.size)) (held := true) Tryz.underlying9 wx)
      rwa [List.append_nil] at this
  obtain ⟨l0, hl0, hS0, _, _⟩ := open_labelss h0
  obtain ⟨l1, hl1, hS1, _, _, _⟩ := open_matchers h1
  subst hl0 hl1
  exact (finds_any a0 a1 l0 l1 cap0 cap1 x W hS0 hS1 wx hEr hFi).mono fun e W' h => fin e W' h

theorem indexFinds_row : Rows.IndexFindsSaid :=
  OpenClaim.holds_of_wide 3 Tryz.f3 rfl rfl rfl rfl rfl rfl rfl ⟨rfl, rfl, rfl, rfl, rfl⟩ rfl rfl rfl rfl rfl (by kernel_rfl) Tryz.func3 (by kernel_rfl)
    (of_decide_eq_true (by kernel_rfl)) (by unfold Func.isWrapper; first | (rw [if_pos (by decide +kernel)]; kernel_rfl) | (rw [if_neg (by decide +kernel)]; exact ⟨rfl, rfl⟩))
    (fun os started H enc _ => if_lifted os started H enc)

theorem indexFinds_holds : Rows.IndexFindsCardSaid :=
  Claim7.holds_tied_plain_at .later [] [.handle, .data] true Rows.indexFindsCard.stood.harness Rows.indexFindsCard.stood.looks
    indexFinds_row (fun _ h => by cases h) (by kernel_rfl) (fun _ h => by cases h) indexFinds_row_tie rfl ⟨rfl, rfl⟩ (by kernel_rfl) rfl
    (fun f fn hf hfn => by
      obtain rfl : f = 3 := Option.some.inj ((show Tryz.prog.funcNamed Rows.indexFindsRow.func = some 3 by kernel_rfl).symm.trans hf) |>.symm
      obtain rfl : fn = Tryz.f3 := (Option.some.inj (Tryz.func3.symm.trans hfn)).symm
      exact ⟨by kernel_rfl, fun j t ht => by
        rw [Tryz.params3] at ht
        have hm : t ∈ [22, 23, 9] := by simpa using Array.mem_of_getElem? ht
        have hall : ([22, 23, 9].all fun u => !Tryz.prog.wantsStandIn u) = true := by kernel_rfl
        exact (show Tryz.prog.wantsStandIn t = false by simpa using List.all_eq_true.1 hall t hm)⟩)
    (by kernel_rfl)
#print axioms indexFinds_holds
end Go.Proofs.YtdmnlmohfaafoacGreatDoor
