/- RollSame, proved: for every list of samples, span, number of times and place, what comes of narrow spans in wide ones is what comes of the samples in wide ones, of two parts the same as of all, and each sample is counted once in the span in which it lies (the law answers true, its arguments read as before; beyond 60 samples, of spans or times that are not from 1 to 2^20, or of samples that may not be, the law answers true at once). No condition. -/
import Derived.Test.YtdmnlmohfaafoabRlKeep
import Derived.Test.YtdmnlmohfaafoabRlOpen
namespace Go.Proofs.Ytdmnlmohfaafoab
open Go.ChangeShapes Go.WideShapes Go.ChangeAt Go.WideMaps Go.WideElems Go.RowKit

set_option maxRecDepth 100000 in
theorem rs_lifted (os : Os) (started : os.Started) (H : Type) (enc : TypeId × Value → H) :
    ReturnsInHanded {} Try.checked os 3 .any (Rows.rollSameSpec.pre6 enc Try.prog Try.f3 Rows.rollSameRow.domain false) (Rows.rollSameSpec.post enc Try.prog Try.f3 false true false false) := by
  refine returnsInHanded_of_change (C := Try.checked) Try.own started (by kernel_rfl) Try.func3
    (ChangeSpec.witness6 (enc := enc) (C := Try.checked) false ⟨#[], #[.slice none 0 0, .int .i64 0, .int .i64 0, .int .i64 0], []⟩ 8 (by kernel_rfl) (by kernel_rfl) (by kernel_rfl) (by kernel_rfl)) ?_
  intro W base args ds gs before hval0 hW _ _
  have hval : ∀ (j : Nat) t v, Try.f3.params[j]? = some t → args[j]? = some v → Value.okWide Try.prog W .any base t v := hval0
  have hW' := hW
  obtain ⟨p, q, hA0, hV, rfl, hfz, hnd⟩ := hW
  have hA : DataW.TrodAll enc Try.prog W 0 (fun _ => true) true Try.f3.params.toList args.toList ds p := hA0
  rw [Try.params3] at hA hval
  obtain ⟨v0, v1, v2, v3, d0, d1, d2, d3, p0, p1, p2, p3, rfl, rfl, rfl, h0, h1, h2, h3⟩ := trodAll_four hA
  obtain ⟨rfl, rfl⟩ := trodVars_none hV
  obtain ⟨a0, len0, cap0, rfl⟩ := okWide_slice Try.underlying22 (hval 0 22 v0 rfl rfl)
  obtain ⟨s, rfl, rfl, rfl, ws⟩ := open_int Try.underlying2 (hval 1 2 v1 rfl rfl) h1
  obtain ⟨t, rfl, rfl, rfl, wt⟩ := open_int Try.underlying2 (hval 2 2 v2 rfl rfl) h2
  obtain ⟨k, rfl, rfl, rfl, wk⟩ := open_int Try.underlying3 (hval 3 3 v3 rfl rfl) h3
  clear hA0 hval0
  simp only [List.append_nil] at hW'
  have hlt0 : ∀ x ∈ p0, x.block < W.heap.size := fun x hx => by simpa using hW'.lt x (by simp [hx])
  have harg0 : ∀ (W' : World), Below W.heap.size W W' → DataW.Trod enc Try.prog W' 0 (fun b => decide (b < W.heap.size)) true 22 (.slice a0 len0 cap0) d0 p0 :=
    fun W' hn => Below.trod Try.laidOut (by kernel_rfl) (of_decide_eq_true (by kernel_rfl)) h0 hn hlt0
  have hp : p0 ++ ([] ++ ([] ++ [])) = p0 := by simp
  have hW2 := hW'
  rw [← hp] at hW2
  have fin : ∀ (e : Ending) (W' : World), e = .returned (.bool true) ∧ Below W.heap.size W W' → ∃ v, e = Ending.returned v ∧ Rows.rollSameSpec.post enc Try.checked.prog Try.f3 false true false false W #[.slice a0 len0 cap0, .int .i64 s, .int .i64 t, .int .i64 k] v W' := by
    rintro e W' ⟨rfl, hb⟩
    refine ⟨_, rfl, _, _, _, [], p0 ++ ([] ++ ([] ++ [])), [], hW2, ?_, ?_, rfl, hb.frame _, fun h => by cases h⟩
    · exact trodAll_mk1 (shut_bool Try.underlying4 true)
    · exact trodAll_mk4 (harg0 _ hb) (shut_int Try.underlying2 ws) (shut_int Try.underlying2 wt) (shut_int Try.underlying3 wk)
  obtain ⟨l0, hl0, hS0, hR0, hc0, hn0⟩ := open_samples h0
  subst hl0
  by_cases hin : l0.length ≤ 60 ∧ 1 ≤ s ∧ s ≤ 1048576 ∧ 1 ≤ t ∧ t ≤ 1048576
  · exact (rs_any a0 l0 cap0 s t k W hS0 hR0 hc0 hn0 hin.1 hin.2.1 hin.2.2.1 hin.2.2.2.1 hin.2.2.2.2).mono fun e W' h => fin e W' h
  · refine (rs_out a0 l0.length cap0 s t k W hin).mono fun e W' ⟨he, hw⟩ => fin e W' ⟨he, ?_⟩
    rw [hw]; exact Below.refl _ _

theorem rollSame_holds : Rows.RollSameSaid :=
  OpenClaim.holds_of_wide 3 Try.f3 rfl rfl rfl rfl rfl rfl rfl ⟨rfl, rfl, rfl, rfl, rfl⟩ rfl rfl rfl rfl rfl (by kernel_rfl) Try.func3 (by kernel_rfl)
    (of_decide_eq_true (by kernel_rfl)) (by unfold Func.isWrapper; first | (rw [if_pos (by decide +kernel)]; kernel_rfl) | (rw [if_neg (by decide +kernel)]; exact ⟨rfl, rfl⟩))
    (fun os started H enc _ => rs_lifted os started H enc)
#print axioms rollSame_holds
end Go.Proofs.Ytdmnlmohfaafoab
