/- CodeSeries, proved: for every list of series that is short (at most 20 of them, each of at most 20 labels of at most 60 letters and at most 60 samples) and every text of at most 1500 bytes (beyond that the law answers true at once): the bytes of the series, or the error and its place, and the series that the text is, or that it is none, are the document's (the law answers true, its arguments read as before). No condition but the variables widths', errors.errorType's and raingaugeref.Fine's own text, to which the card ties them. -/
import Derived.Test.YtdmnlmohfaafoadGreatDoorCsLaw
import Derived.Test.YtdmnlmohfaafoadGreatDoorCzOpen
import Derived.Test.YtdmnlmohfaafoadGreatDoorTie
import Derived.Test.YtdmnlmohfaafoadGreatDoorCards
import Derived.SevenTiedAt
namespace Go.Proofs.YtdmnlmohfaafoadGreatDoor
open Go.ChangeShapes Go.WideShapes Go.ChangeAt Go.WideMaps Go.WideElems Go.RowKit

set_option maxRecDepth 100000 in
theorem codeSeries_lifted (os : Os) (started : os.Started) (H : Type) (enc : TypeId × Value → H) :
    ReturnsInHanded {} Tryz.checked os 3 .any (fun w args => (Rows.codeSeriesSpec.pre enc Tryz.prog Tryz.f3 [] false w args ∧ laidMetH Tryz.prog Rows.codeSeriesRow.laid w) ∧ sizedMet enc Tryz.prog Tryz.f3 (OpenSpec.ofChange Rows.codeSeriesSpec) false w args)
      (Rows.codeSeriesSpec.post enc Tryz.prog Tryz.f3 false true false false) := by
  refine returnsInHanded_of_change_and (C := Tryz.checked) (X := fun w _ => laidMetH Tryz.prog Rows.codeSeriesRow.laid w) (fun _ _ _ hh h => h.of_heap hh) Tryz.own started (by kernel_rfl) Tryz.func3
    (ChangeSpec.witness_shaped (enc := enc) (C := Tryz.checked) (os := os) (X := fun w _ => laidMetH Tryz.prog Rows.codeSeriesRow.laid w) false (World.doorLaid Tryz.prog 26 os) #[.slice none 0 0, .string ⟨#[]⟩] 8 rfl (World.shaped_of_RefB (by kernel_rfl) (by kernel_rfl)) (by kernel_rfl) (by kernel_rfl) (by kernel_rfl) (le_door os _)) ?_
  intro W base args ds gs before hval0 hW _ _ hL _
  have hval : ∀ (j : Nat) t v, Tryz.f3.params[j]? = some t → args[j]? = some v → Value.okWide Tryz.prog W .any base t v := hval0
  have hW' := hW
  obtain ⟨p, q, hA0, hV, rfl, hfz, hnd⟩ := hW
  have hA : DataW.TrodAll enc Tryz.prog W 0 (fun _ => true) true Tryz.f3.params.toList args.toList ds p := hA0
  rw [Tryz.params3] at hA hval
  obtain ⟨v0, v1, d0, d1, p0, p1, rfl, rfl, rfl, h0, h1⟩ := trodAll_two hA
  obtain ⟨rfl, rfl⟩ := trodVars_none hV
  obtain ⟨⟨hWd, hEr⟩, hFi⟩ := le_laid hL
  obtain ⟨s, rfl, rfl, rfl, hs⟩ := Go.ChangeMaps.open_string Tryz.underlying9 (hval 1 9 v1 rfl rfl) h1
  obtain ⟨a0, len, cap, rfl⟩ := okWide_slice Tryz.underlying22 (hval 0 22 v0 rfl rfl)
  clear hA0 hval0
  simp only [List.append_nil] at hW'
  have hlt : ∀ x ∈ p0, x.block < W.heap.size := fun x hx => by simpa using hW'.lt x hx
  have hargs : ∀ (W' : World), Below W.heap.size W W' → DataW.Trod enc Tryz.prog W' 0 (fun b => decide (b < W.heap.size)) true 22 (.slice a0 len cap) d0 p0 :=
    fun W' hn => Below.trod Tryz.laidOut (by kernel_rfl) (of_decide_eq_true (by kernel_rfl)) h0 hn hlt
  have fin : ∀ (e : Ending) (W' : World), e = .returned (.bool true) ∧ Below W.heap.size W W' → ∃ v, e = Ending.returned v ∧ Rows.codeSeriesSpec.post enc Tryz.checked.prog Tryz.f3 false true false false W #[.slice a0 len cap, .string s] v W' := by
    rintro e W' ⟨rfl, hb⟩
    refine ⟨_, rfl, _, _, _, [], p0, [], hW', ?_, ?_, rfl, hb.frame _, fun h => by cases h⟩
    · exact trodAll_mk1 (shut_bool Tryz.underlying4 true)
    · have := trodAll_mk2 (hargs _ hb) (Go.ChangeMaps.shut_string Tryz.underlying9 hs)
      simp only [List.append_nil] at this
      exact this
  obtain ⟨l, hl, hS, hR⟩ := open_series h0
  subst hl
  by_cases hlong : shS l = false ∨ 1500 < s.size
  · exact (csl_long a0 l cap s W hS hlong).mono fun e W' h => fin e W' h
  · have hq : shS l = true := by
      cases hq : shS l with
      | true => rfl
      | false => exact absurd (.inl hq) hlong
    have hs5 : s.size ≤ 1500 := by
      by_cases h5 : 1500 < s.size
      · exact absurd (.inr h5) hlong
      · omega
    exact (csl_any a0 l cap s W hS hR hq hs5 hWd hEr hFi).mono fun e W' h => fin e W' h

theorem codeSeries_row : Rows.CodeSeriesSaid :=
  OpenClaim.holds_of_wide 3 Tryz.f3 rfl rfl rfl rfl rfl rfl rfl ⟨rfl, rfl, rfl, rfl, rfl⟩ rfl rfl rfl rfl rfl (by kernel_rfl) Tryz.func3 (by kernel_rfl)
    (of_decide_eq_true (by kernel_rfl)) (by unfold Func.isWrapper; first | (rw [if_pos (by decide +kernel)]; kernel_rfl) | (rw [if_neg (by decide +kernel)]; exact ⟨rfl, rfl⟩))
    (fun os started H enc _ => codeSeries_lifted os started H enc)

theorem codeSeries_holds : Rows.CodeSeriesCardSaid :=
  Claim7.holds_tied_plain_at .later [] [.handle, .data, .data] true Rows.codeSeriesCard.stood.harness Rows.codeSeriesCard.stood.looks
    codeSeries_row (fun _ h => by cases h) (by kernel_rfl) (fun _ h => by cases h) codeSeries_row_tie rfl ⟨rfl, rfl⟩ (by kernel_rfl) rfl
    (fun f fn hf hfn => by
      obtain rfl : f = 3 := Option.some.inj ((show Tryz.prog.funcNamed Rows.codeSeriesRow.func = some 3 by kernel_rfl).symm.trans hf) |>.symm
      obtain rfl : fn = Tryz.f3 := (Option.some.inj (Tryz.func3.symm.trans hfn)).symm
      exact ⟨by kernel_rfl, fun j t ht => by
        rw [Tryz.params3] at ht
        have hm : t ∈ [22, 9] := by simpa using Array.mem_of_getElem? ht
        have hall : ([22, 9].all fun u => !Tryz.prog.wantsStandIn u) = true := by kernel_rfl
        exact (show Tryz.prog.wantsStandIn t = false by simpa using List.all_eq_true.1 hall t hm)⟩)
    (by kernel_rfl)
#print axioms codeSeries_holds
end Go.Proofs.YtdmnlmohfaafoadGreatDoor
