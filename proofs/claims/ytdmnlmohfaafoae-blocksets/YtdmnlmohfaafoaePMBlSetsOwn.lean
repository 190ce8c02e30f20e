/- BlockSets, proved: for every two lists of series that are short (at most 20 of them, each of at most 20 labels of at most 60 letters and at most 60 samples) and may be blocks' series, and every list of at most 10 that are gone, whose matchers are short and may be asked (beyond that the law answers true at once): what is left behind what is gone, and what the two come to together, is the document's (the law answers true, its arguments read as before). No condition. -/
import Derived.Test.YtdmnlmohfaafoaePMBkSets
import Derived.Test.YtdmnlmohfaafoaePMBpWo
import Derived.Test.YtdmnlmohfaafoaePMBpMe
import Derived.Test.YtdmnlmohfaafoaePMBkOpen
namespace Go.Proofs.Ytdmnlmohfaafoae
open Go.ChangeShapes Go.WideShapes Go.ChangeAt Go.WideMaps Go.WideElems Go.RowKit

set_option maxRecDepth 100000 in
theorem bls_lifted (os : Os) (started : os.Started) (H : Type) (enc : TypeId × Value → H) :
    ReturnsInHanded {} Try.checked os 3 .any (Rows.blockSetsSpec.pre6 enc Try.prog Try.f3 Rows.blockSetsRow.domain false) (Rows.blockSetsSpec.post enc Try.prog Try.f3 false true false false) := by
  refine returnsInHanded_of_change (C := Try.checked) Try.own started (by kernel_rfl) Try.func3
    (ChangeSpec.witness6 (enc := enc) (C := Try.checked) false ⟨#[], #[.slice none 0 0, .slice none 0 0, .slice none 0 0], []⟩ 8 (by kernel_rfl) (by kernel_rfl) (by kernel_rfl) (by kernel_rfl)) ?_
  intro W base args ds gs before hval0 hW _ _
  have hval : ∀ (j : Nat) t v, Try.f3.params[j]? = some t → args[j]? = some v → Value.okWide Try.prog W .any base t v := hval0
  have hW' := hW
  obtain ⟨p, q, hA0, hV, rfl, hfz, hnd⟩ := hW
  have hA : DataW.TrodAll enc Try.prog W 0 (fun _ => true) true Try.f3.params.toList args.toList ds p := hA0
  rw [Try.params3] at hA hval
  obtain ⟨v0, v1, v2, d0, d1, d2, p0, p1, p2, rfl, rfl, rfl, h0, h1, h2⟩ := trodAll_three hA
  obtain ⟨rfl, rfl⟩ := trodVars_none hV
  obtain ⟨a0, len0, cap0, rfl⟩ := okWide_slice Try.underlying22 (hval 0 22 v0 rfl rfl)
  obtain ⟨a1, len1, cap1, rfl⟩ := okWide_slice Try.underlying22 (hval 1 22 v1 rfl rfl)
  obtain ⟨a2, len2, cap2, rfl⟩ := okWide_slice Try.underlying23 (hval 2 23 v2 rfl rfl)
  clear hA0 hval0
  simp only [List.append_nil] at hW'
  have hlt0 : ∀ x ∈ p0, x.block < W.heap.size := fun x hx => by simpa using hW'.lt x (by simp [hx])
  have hlt1 : ∀ x ∈ p1, x.block < W.heap.size := fun x hx => by simpa using hW'.lt x (by simp [hx])
  have hlt2 : ∀ x ∈ p2, x.block < W.heap.size := fun x hx => by simpa using hW'.lt x (by simp [hx])
  have harg0 : ∀ (W' : World), Below W.heap.size W W' → DataW.Trod enc Try.prog W' 0 (fun b => decide (b < W.heap.size)) true 22 (.slice a0 len0 cap0) d0 p0 :=
    fun W' hn => Below.trod Try.laidOut (by kernel_rfl) (of_decide_eq_true (by kernel_rfl)) h0 hn hlt0
  have harg1 : ∀ (W' : World), Below W.heap.size W W' → DataW.Trod enc Try.prog W' 0 (fun b => decide (b < W.heap.size)) true 22 (.slice a1 len1 cap1) d1 p1 :=
    fun W' hn => Below.trod Try.laidOut (by kernel_rfl) (of_decide_eq_true (by kernel_rfl)) h1 hn hlt1
  have harg2 : ∀ (W' : World), Below W.heap.size W W' → DataW.Trod enc Try.prog W' 0 (fun b => decide (b < W.heap.size)) true 23 (.slice a2 len2 cap2) d2 p2 :=
    fun W' hn => Below.trod Try.laidOut (by kernel_rfl) (of_decide_eq_true (by kernel_rfl)) h2 hn hlt2
  have fin : ∀ (e : Ending) (W' : World), e = .returned (.bool true) ∧ Below W.heap.size W W' → ∃ v, e = Ending.returned v ∧ Rows.blockSetsSpec.post enc Try.checked.prog Try.f3 false true false false W #[.slice a0 len0 cap0, .slice a1 len1 cap1, .slice a2 len2 cap2] v W' := by
    rintro e W' ⟨rfl, hb⟩
    refine ⟨_, rfl, _, _, _, [], p0 ++ (p1 ++ p2), [], hW', ?_, ?_, rfl, hb.frame _, fun h => by cases h⟩
    · exact trodAll_mk1 (shut_bool Try.underlying4 true)
    · exact trodAll_mk3 (harg0 _ hb) (harg1 _ hb) (harg2 _ hb)
  obtain ⟨la, hla, hA1, hRa⟩ := open_seriesC h0
  obtain ⟨lb, hlb, hB1, hRb⟩ := open_seriesC h1
  obtain ⟨gs, hgs, hG1⟩ := open_gones h2
  subst hla hlb hgs
  obtain ⟨_, _, ea, hSa, hCa, hla1, hna⟩ := hA1
  cases ea
  obtain ⟨_, _, eb, hSb, hCb, hlb1, hnb⟩ := hB1
  cases eb
  obtain ⟨_, _, eg, hGr, _, _⟩ := hG1
  cases eg
  have hka : ∀ W', Below W.heap.size W W' → CapR W' a0 la := fun W' k i hi b off e v hv => by
    obtain ⟨b2, off2, e2, hb2, _⟩ := hSa i hi
    rw [e] at e2
    cases e2
    exact hCa i hi b off e v ((k.cell (p := ⟨b, _, none⟩) hb2).symm.trans hv)
  have hkb : ∀ W', Below W.heap.size W W' → CapR W' a1 lb := fun W' k i hi b off e v hv => by
    obtain ⟨b2, off2, e2, hb2, _⟩ := hSb i hi
    rw [e] at e2
    cases e2
    exact hCb i hi b off e v ((k.cell (p := ⟨b, _, none⟩) hb2).symm.trans hv)
  refine (bsets_any a0 a1 a2 la lb gs cap0 cap1 cap2 W hSa hSb hGr hRa hRb hCa hCb ?_ ?_).mono fun e W' h => fin e W' h
  · intro gd hg hM W' k
    refine (bwo_any a0 a2 la gs cap0 cap2 W' (hSa.below k) gd (hGr.below k) (by omega) (fun i hi => by have := hM i hi; omega)).mono ?_
    rintro e w' ⟨v, rfl, hso, hb⟩
    have el : leftG la gs = HD.kp (BK.none' goG gs) la := BK.left_all goG gs la fun x hx => (gd.ok x hx).2.2.1
    rw [el]
    obtain ⟨ao2, cap2, ev, hr⟩ := SrRow.of_own hso
    exact ⟨ao2, cap2, by rw [ev], hr, hb⟩
  · intro ga gb _ _ W' k
    refine (bme_any a0 a1 la lb cap0 cap1 W' (hSa.below k) (hSb.below k) ga gb (hka W' k) (hkb W' k) hla1 hlb1 hna hnb).mono ?_
    rintro e w' ⟨v, rfl, hso, hb⟩
    obtain ⟨ao2, cap2, ev, hr⟩ := SrRow.of_own hso
    exact ⟨ao2, cap2, by rw [ev], hr, hb⟩

theorem blockSets_holds : Rows.BlockSetsSaid :=
  OpenClaim.holds_of_wide 3 Try.f3 rfl rfl rfl rfl rfl rfl rfl ⟨rfl, rfl, rfl, rfl, rfl⟩ rfl rfl rfl rfl rfl (by kernel_rfl) Try.func3 (by kernel_rfl)
    (of_decide_eq_true (by kernel_rfl)) (by unfold Func.isWrapper; first | (rw [if_pos (by decide +kernel)]; kernel_rfl) | (rw [if_neg (by decide +kernel)]; exact ⟨rfl, rfl⟩))
    (fun os started H enc _ => bls_lifted os started H enc)
#print axioms blockSets_holds
end Go.Proofs.Ytdmnlmohfaafoae

