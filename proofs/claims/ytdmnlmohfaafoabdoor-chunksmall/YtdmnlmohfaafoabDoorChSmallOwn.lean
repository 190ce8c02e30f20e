/- ChunkSmall, proved: for every time, step, value and number: fewer than 200 samples at that even step, of one value, if they may be, are written in at most 4 * 70 + 2 bits each + 8 bits (the law answers true, its arguments read as before). No condition but the variable widths' own text, to which the card ties it. -/
import Derived.Test.YtdmnlmohfaafoabDoorChSmall
import Derived.Test.YtdmnlmohfaafoabDoorBitLaid
import Derived.Test.YtdmnlmohfaafoabDoorTie
import Derived.Test.YtdmnlmohfaafoabDoorCards
import Derived.SevenTiedAt
namespace Go.Proofs.YtdmnlmohfaafoabDoor
open Go.ChangeShapes Go.WideShapes Go.ChangeAt Go.WideMaps Go.WideElems Go.RowKit

set_option maxRecDepth 100000 in
theorem chunkSmall_lifted (os : Os) (started : os.Started) (H : Type) (enc : TypeId × Value → H) :
    ReturnsInHanded {} Tryd.checked os 4 .any (fun w args => (Rows.chunkSmallSpec.pre enc Tryd.prog Tryd.f4 [] false w args ∧ laidMetH Tryd.prog Rows.chunkSmallRow.laid w) ∧ sizedMet enc Tryd.prog Tryd.f4 (OpenSpec.ofChange Rows.chunkSmallSpec) false w args)
      (Rows.chunkSmallSpec.post enc Tryd.prog Tryd.f4 false true false false) := by
  refine returnsInHanded_of_change_and (C := Tryd.checked) (X := fun w _ => laidMetH Tryd.prog Rows.chunkSmallRow.laid w) (fun _ _ _ hh h => h.of_heap hh) Tryd.own started (by kernel_rfl) Tryd.func4
    (ChangeSpec.witness_shaped (enc := enc) (C := Tryd.checked) (os := os) (X := fun w _ => laidMetH Tryd.prog Rows.chunkSmallRow.laid w) false (World.doorLaid Tryd.prog 21 os) #[.int .i64 0, .int .i64 0, .int .i64 0, .int .i64 0] 8 rfl (World.shaped_of_RefB (by kernel_rfl) (by kernel_rfl)) (by kernel_rfl) (by kernel_rfl) (by kernel_rfl) (back_door os _)) ?_
  intro W base args ds gs before hval0 hW _ _ hL _
  have hval : ∀ (j : Nat) t v, Tryd.f4.params[j]? = some t → args[j]? = some v → Value.okWide Tryd.prog W .any base t v := hval0
  have hW' := hW
  obtain ⟨p, q, hA0, hV, rfl, hfz, hnd⟩ := hW
  have hA : DataW.TrodAll enc Tryd.prog W 0 (fun _ => true) true Tryd.f4.params.toList args.toList ds p := hA0
  rw [Tryd.params4] at hA hval
  obtain ⟨v0, v1, v2, v3, d0, d1, d2, d3, p0, p1, p2, p3, rfl, rfl, rfl, h0, h1, h2, h3⟩ := trodAll_four hA
  obtain ⟨rfl, rfl⟩ := trodVars_none hV
  obtain ⟨hWd, hG⟩ := back_wids hL
  obtain ⟨f, rfl, rfl, rfl, wf⟩ := open_int Tryd.underlying2 (hval 0 2 v0 rfl rfl) h0
  obtain ⟨s, rfl, rfl, rfl, ws⟩ := open_int Tryd.underlying2 (hval 1 2 v1 rfl rfl) h1
  obtain ⟨v, rfl, rfl, rfl, wv⟩ := open_int Tryd.underlying2 (hval 2 2 v2 rfl rfl) h2
  obtain ⟨n, rfl, rfl, rfl, wn⟩ := open_int Tryd.underlying3 (hval 3 3 v3 rfl rfl) h3
  clear hA0 hval0
  simp only [List.append_nil] at hW'
  have fin : ∀ (e : Ending) (W' : World), e = .returned (.bool true) ∧ Below W.heap.size W W' → ∃ v', e = Ending.returned v' ∧ Rows.chunkSmallSpec.post enc Tryd.checked.prog Tryd.f4 false true false false W #[.int .i64 f, .int .i64 s, .int .i64 v, .int .i64 n] v' W' := by
    rintro e W' ⟨rfl, hb⟩
    refine ⟨_, rfl, _, _, _, [], [], [], hW', ?_, ?_, rfl, hb.frame _, fun h => by cases h⟩
    · exact trodAll_mk1 (shut_bool Tryd.underlying4 true)
    · exact trodAll_mk4 (shut_int Tryd.underlying2 wf) (shut_int Tryd.underlying2 ws) (shut_int Tryd.underlying2 wv) (shut_int Tryd.underlying3 wn)
  obtain ⟨hv1, hv2⟩ := wf_i64 wv
  by_cases hout : f < -1099511627776 ∨ 1099511627776 < f ∨ s < 1 ∨ 1048576 < s
  · refine (chs_out f s v n W hout).mono fun e W' ⟨he, hw⟩ => fin e W' ⟨he, ?_⟩
    rw [hw]; exact Below.refl _ _
  · exact (chs_any f s v n W (by omega) (by omega) (by omega) (by omega) hv1 hv2 hWd hG).mono fun e W' h => fin e W' h

theorem chunkSmall_row : Rows.ChunkSmallSaid :=
  OpenClaim.holds_of_wide 4 Tryd.f4 rfl rfl rfl rfl rfl rfl rfl ⟨rfl, rfl, rfl, rfl, rfl⟩ rfl rfl rfl rfl rfl (by kernel_rfl) Tryd.func4 (by kernel_rfl)
    (of_decide_eq_true (by kernel_rfl)) (by unfold Func.isWrapper; first | (rw [if_pos (by decide +kernel)]; kernel_rfl) | (rw [if_neg (by decide +kernel)]; exact ⟨rfl, rfl⟩))
    (fun os started H enc _ => chunkSmall_lifted os started H enc)

theorem chunkSmall_holds : Rows.ChunkSmallCardSaid :=
  Claim7.holds_tied_plain_at .later [] [.data] true Rows.chunkSmallCard.stood.harness Rows.chunkSmallCard.stood.looks
    chunkSmall_row (fun _ h => by cases h) (by kernel_rfl) (fun _ h => by cases h) chunkSmall_row_tie rfl ⟨rfl, rfl⟩ (by kernel_rfl) rfl
    (fun f fn hf hfn => by
      obtain rfl : f = 4 := Option.some.inj ((show Tryd.prog.funcNamed Rows.chunkSmallRow.func = some 4 by kernel_rfl).symm.trans hf) |>.symm
      obtain rfl : fn = Tryd.f4 := (Option.some.inj (Tryd.func4.symm.trans hfn)).symm
      exact ⟨by kernel_rfl, fun j t ht => by
        rw [Tryd.params4] at ht
        have hm : t ∈ [2, 2, 2, 3] := by simpa using Array.mem_of_getElem? ht
        have hall : ([2, 2, 2, 3].all fun u => !Tryd.prog.wantsStandIn u) = true := by kernel_rfl
        exact (show Tryd.prog.wantsStandIn t = false by simpa using List.all_eq_true.1 hall t hm)⟩)
    (by kernel_rfl)
#print axioms chunkSmall_holds
end Go.Proofs.YtdmnlmohfaafoabDoor
