/- ChunkSets, proved: for every two lists of samples and every two times, what lies between the times, and what the two lists come to together, is the document's (the law answers true, its arguments read as before; of lists beyond 60 samples, or that may not be, the law answers true at once). No condition. -/
import Derived.Test.YtdmnlmohfaafoaaChSets
import Derived.Test.YtdmnlmohfaafoaaChOpen
namespace Go.Proofs.Ytdmnlmohfaafoaa
open Go.ChangeShapes Go.WideShapes Go.ChangeAt Go.WideMaps Go.WideElems Go.RowKit

set_option maxRecDepth 100000 in
theorem chs_lifted (os : Os) (started : os.Started) (H : Type) (enc : TypeId × Value → H) :
    ReturnsInHanded {} Try.checked os 3 .any (Rows.chunkSetsSpec.pre6 enc Try.prog Try.f3 Rows.chunkSetsRow.domain false) (Rows.chunkSetsSpec.post enc Try.prog Try.f3 false true false false) := by
  refine returnsInHanded_of_change (C := Try.checked) Try.own started (by kernel_rfl) Try.func3
    (ChangeSpec.witness6 (enc := enc) (C := Try.checked) false ⟨#[], #[.slice none 0 0, .slice none 0 0, .int .i64 0, .int .i64 0], []⟩ 8 (by kernel_rfl) (by kernel_rfl) (by kernel_rfl) (by kernel_rfl)) ?_
  intro W base args ds gs before hval0 hW _ _
  have hval : ∀ (j : Nat) t v, Try.f3.params[j]? = some t → args[j]? = some v → Value.okWide Try.prog W .any base t v := hval0
  have hW' := hW
  obtain ⟨p, q, hA0, hV, rfl, hfz, hnd⟩ := hW
  have hA : DataW.TrodAll enc Try.prog W 0 (fun _ => true) true Try.f3.params.toList args.toList ds p := hA0
  rw [Try.params3] at hA hval
  obtain ⟨v0, v1, v2, v3, d0, d1, d2, d3, p0, p1, p2, p3, rfl, rfl, rfl, h0, h1, h2, h3⟩ := trodAll_four hA
  obtain ⟨rfl, rfl⟩ := trodVars_none hV
  obtain ⟨a0, len0, cap0, rfl⟩ := okWide_slice Try.underlying22 (hval 0 22 v0 rfl rfl)
  obtain ⟨a1, len1, cap1, rfl⟩ := okWide_slice Try.underlying22 (hval 1 22 v1 rfl rfl)
  obtain ⟨f, rfl, rfl, rfl, wf⟩ := open_int Try.underlying2 (hval 2 2 v2 rfl rfl) h2
  obtain ⟨t, rfl, rfl, rfl, wt⟩ := open_int Try.underlying2 (hval 3 2 v3 rfl rfl) h3
  clear hA0 hval0
  simp only [List.append_nil] at hW'
  have hlt0 : ∀ x ∈ p0, x.block < W.heap.size := fun x hx => by simpa using hW'.lt x (by simp [hx])
  have hlt1 : ∀ x ∈ p1, x.block < W.heap.size := fun x hx => by simpa using hW'.lt x (by simp [hx])
  have harg0 : ∀ (W' : World), Below W.heap.size W W' → DataW.Trod enc Try.prog W' 0 (fun b => decide (b < W.heap.size)) true 22 (.slice a0 len0 cap0) d0 p0 :=
    fun W' hn => Below.trod Try.laidOut (by kernel_rfl) (of_decide_eq_true (by kernel_rfl)) h0 hn hlt0
  have harg1 : ∀ (W' : World), Below W.heap.size W W' → DataW.Trod enc Try.prog W' 0 (fun b => decide (b < W.heap.size)) true 22 (.slice a1 len1 cap1) d1 p1 :=
    fun W' hn => Below.trod Try.laidOut (by kernel_rfl) (of_decide_eq_true (by kernel_rfl)) h1 hn hlt1
  have fin : ∀ (e : Ending) (W' : World), e = .returned (.bool true) ∧ Below W.heap.size W W' → ∃ v, e = Ending.returned v ∧ Rows.chunkSetsSpec.post enc Try.checked.prog Try.f3 false true false false W #[.slice a0 len0 cap0, .slice a1 len1 cap1, .int .i64 f, .int .i64 t] v W' := by
    rintro e W' ⟨rfl, hb⟩
    refine ⟨_, rfl, _, _, _, [], p0 ++ (p1 ++ ([] ++ [])), [], hW', ?_, ?_, rfl, hb.frame _, fun h => by cases h⟩
    · exact trodAll_mk1 (shut_bool Try.underlying4 true)
    · exact trodAll_mk4 (harg0 _ hb) (harg1 _ hb) (shut_int Try.underlying2 wf) (shut_int Try.underlying2 wt)
  obtain ⟨l0, hl0, hS0, hR0, hc0, hn0⟩ := open_samples h0
  obtain ⟨l1, hl1, hS1, hR1, hc1, hn1⟩ := open_samples h1
  subst hl0 hl1
  by_cases hlong : 60 < l0.length
  · refine (chs_longA a0 a1 l0.length l1.length cap0 cap1 f t W hlong).mono fun e W' ⟨he, hw⟩ => fin e W' ⟨he, ?_⟩
    rw [hw]; exact Below.refl _ _
  · by_cases hlong1 : 60 < l1.length
    · refine (chs_longB a0 a1 l0.length l1.length cap0 cap1 f t W (by omega) hlong1).mono fun e W' ⟨he, hw⟩ => fin e W' ⟨he, ?_⟩
      rw [hw]; exact Below.refl _ _
    · exact (chs_any a0 a1 l0 l1 cap0 cap1 f t W hS0 hS1 hc0 hc1 (by omega) (by omega) hn0 hn1 hR0 hR1).mono fun e W' h => fin e W' h

theorem chunkSets_holds : Rows.ChunkSetsSaid :=
  OpenClaim.holds_of_wide 3 Try.f3 rfl rfl rfl rfl rfl rfl rfl ⟨rfl, rfl, rfl, rfl, rfl⟩ rfl rfl rfl rfl rfl (by kernel_rfl) Try.func3 (by kernel_rfl)
    (of_decide_eq_true (by kernel_rfl)) (by unfold Func.isWrapper; first | (rw [if_pos (by decide +kernel)]; kernel_rfl) | (rw [if_neg (by decide +kernel)]; exact ⟨rfl, rfl⟩))
    (fun os started H enc _ => chs_lifted os started H enc)
#print axioms chunkSets_holds
end Go.Proofs.Ytdmnlmohfaafoaa
