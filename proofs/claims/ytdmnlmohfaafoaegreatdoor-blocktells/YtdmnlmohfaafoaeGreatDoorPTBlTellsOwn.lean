/- BlockTells, proved: for every list of series that is short (at most 20 of them, each of at most 20 labels of at most 60 letters and at most 60 samples), every two numbers To and Old and every text of at most 1500 bytes (beyond that the law answers true at once): which blocks may be, their bytes, and the block that the text is, or that it is none, are the document's (the law answers true, its arguments read as before). Its conditions: the variables errors.errorType, raingauge/bits.widths and raingauge/raingaugeref.Fine hold what the program's text lays into them, tied by the card. -/
import Derived.Test.YtdmnlmohfaafoaeGreatDoorPTBkTells
import Derived.Test.YtdmnlmohfaafoaeGreatDoorPTBpWrite
import Derived.Test.YtdmnlmohfaafoaeGreatDoorPTBpRead
import Derived.Test.YtdmnlmohfaafoaeGreatDoorPTBlOpen
import Derived.Test.YtdmnlmohfaafoaeGreatDoorTie
import Derived.Test.YtdmnlmohfaafoaeGreatDoorCards
import Derived.SevenTiedAt
namespace Go.Proofs.YtdmnlmohfaafoaeGreatDoor
open Go.ChangeShapes Go.WideShapes Go.ChangeAt Go.WideMaps Go.WideElems Go.RowKit

set_option maxRecDepth 100000 in
theorem blockTells_lifted (os : Os) (started : os.Started) (H : Type) (enc : TypeId × Value → H) :
    ReturnsInHanded {} Tryz.checked os 3 .any (fun w args => (Rows.blockTellsSpec.pre enc Tryz.prog Tryz.f3 [] false w args ∧ laidMetH Tryz.prog Rows.blockTellsRow.laid w) ∧ sizedMet enc Tryz.prog Tryz.f3 (OpenSpec.ofChange Rows.blockTellsSpec) false w args)
      (Rows.blockTellsSpec.post enc Tryz.prog Tryz.f3 false true false false) := by
  refine returnsInHanded_of_change_and (C := Tryz.checked) (X := fun w _ => laidMetH Tryz.prog Rows.blockTellsRow.laid w) (fun _ _ _ hh h => h.of_heap hh) Tryz.own started (by kernel_rfl) Tryz.func3
    (ChangeSpec.witness_shaped (enc := enc) (C := Tryz.checked) (os := os) (X := fun w _ => laidMetH Tryz.prog Rows.blockTellsRow.laid w) false (World.doorLaid Tryz.prog 94 os) #[.slice none 0 0, .int .i64 0, .int .i64 0, .string ⟨#[]⟩] 8 rfl (World.shaped_of_RefB (by kernel_rfl) (by kernel_rfl)) (by kernel_rfl) (by kernel_rfl) (by kernel_rfl) (le_door os _)) ?_
  intro W base args ds gs before hval0 hW _ _ hL _
  have hval : ∀ (j : Nat) t v, Tryz.f3.params[j]? = some t → args[j]? = some v → Value.okWide Tryz.prog W .any base t v := hval0
  have hW' := hW
  obtain ⟨p, q, hA0, hV, rfl, hfz, hnd⟩ := hW
  have hA : DataW.TrodAll enc Tryz.prog W 0 (fun _ => true) true Tryz.f3.params.toList args.toList ds p := hA0
  rw [Tryz.params3] at hA hval
  obtain ⟨v0, v1, v2, v3, d0, d1, d2, d3, p0, p1, p2, p3, rfl, rfl, rfl, h0, h1, h2, h3⟩ := trodAll_four hA
  obtain ⟨rfl, rfl⟩ := trodVars_none hV
  obtain ⟨⟨hWd, hEr⟩, hFi⟩ := le_laid hL
  obtain ⟨tp, rfl, rfl, rfl, wtp⟩ := open_int Tryz.underlying2 (hval 1 2 v1 rfl rfl) h1
  obtain ⟨old, rfl, rfl, rfl, wold⟩ := open_int Tryz.underlying2 (hval 2 2 v2 rfl rfl) h2
  obtain ⟨s, rfl, rfl, rfl, hs⟩ := Go.ChangeMaps.open_string Tryz.underlying9 (hval 3 9 v3 rfl rfl) h3
  obtain ⟨a0, len, cap, rfl⟩ := okWide_slice Tryz.underlying22 (hval 0 22 v0 rfl rfl)
  clear hA0 hval0
  simp only [List.append_nil] at hW'
  have hlt : ∀ x ∈ p0, x.block < W.heap.size := fun x hx => by simpa using hW'.lt x hx
  have hargs : ∀ (W' : World), Below W.heap.size W W' → DataW.Trod enc Tryz.prog W' 0 (fun b => decide (b < W.heap.size)) true 22 (.slice a0 len cap) d0 p0 :=
    fun W' hn => Below.trod Tryz.laidOut (by kernel_rfl) (of_decide_eq_true (by kernel_rfl)) h0 hn hlt
  have fin : ∀ (e : Ending) (W' : World), e = .returned (.bool true) ∧ Below W.heap.size W W' → ∃ v, e = Ending.returned v ∧ Rows.blockTellsSpec.post enc Tryz.checked.prog Tryz.f3 false true false false W #[.slice a0 len cap, .int .i64 tp, .int .i64 old, .string s] v W' := by
    rintro e W' ⟨rfl, hb⟩
    refine ⟨_, rfl, _, _, _, [], p0, [], hW', ?_, ?_, rfl, hb.frame _, fun h => by cases h⟩
    · exact trodAll_mk1 (shut_bool Tryz.underlying4 true)
    · have := trodAll_mk4 (hargs _ hb) (shut_int Tryz.underlying2 wtp) (shut_int Tryz.underlying2 wold) (Go.ChangeMaps.shut_string Tryz.underlying9 hs)
      simp only [List.append_nil] at this
      exact this
  obtain ⟨l, hl, hS, hR⟩ := open_series h0
  subst hl
  have hes : s = sb s.data.toList := (sb_of s).symm
  generalize s.data.toList = sl at hes
  subst hes
  have hG0 : 1 < W.heap.size := World.block_lt_of_cell? _ _ (hWd 0 (by omega))
  have wid : ∀ W', Below W.heap.size W W' → Wids W' ∧ 1 < W'.heap.size := fun W' k => ⟨fun i hi => (k.cell (p := ⟨1, i, none⟩) hG0).trans (hWd i hi), Nat.lt_of_lt_of_le hG0 k.size⟩
  exact (btells_any a0 l cap tp old sl W hS hR hEr hFi (wf_i64 wtp) (wf_i64 wold)
    (fun hq W' k => pwblk_any a0 l cap tp old W' (hS.below k) (bk_sh hq hR).1 (wid W' k).1 (wid W' k).2 (wf_i64 wtp) (wf_i64 wold))
    (fun hq W' k => bright_any a0 l cap tp old W' (hS.below k) (by have := (bk_sh hq hR).2; omega) (fun i hi => by have := (bk_sh hq hR).1.2 i hi; omega) hR)
    (fun hq W' k => (prblk_any sl W' (by omega) (wid W' k).1 (wid W' k).2).mono fun e w' h => h.row)).mono fun e W' h => fin e W' h

theorem blockTells_row : Rows.BlockTellsSaid :=
  OpenClaim.holds_of_wide 3 Tryz.f3 rfl rfl rfl rfl rfl rfl rfl ⟨rfl, rfl, rfl, rfl, rfl⟩ rfl rfl rfl rfl rfl (by kernel_rfl) Tryz.func3 (by kernel_rfl)
    (of_decide_eq_true (by kernel_rfl)) (by unfold Func.isWrapper; first | (rw [if_pos (by decide +kernel)]; kernel_rfl) | (rw [if_neg (by decide +kernel)]; exact ⟨rfl, rfl⟩))
    (fun os started H enc _ => blockTells_lifted os started H enc)

theorem blockTells_holds : Rows.BlockTellsCardSaid :=
  Claim7.holds_tied_plain_at .later [] [.handle, .data, .data] true Rows.blockTellsCard.stood.harness Rows.blockTellsCard.stood.looks
    blockTells_row (fun _ h => by cases h) (by kernel_rfl) (fun _ h => by cases h) blockTells_row_tie rfl ⟨rfl, rfl⟩ (by kernel_rfl) rfl
    (fun f fn hf hfn => by
      obtain rfl : f = 3 := Option.some.inj ((show Tryz.prog.funcNamed Rows.blockTellsRow.func = some 3 by kernel_rfl).symm.trans hf) |>.symm
      obtain rfl : fn = Tryz.f3 := (Option.some.inj (Tryz.func3.symm.trans hfn)).symm
      exact ⟨by kernel_rfl, fun j t ht => by
        rw [Tryz.params3] at ht
        have hm : t ∈ [22, 2, 2, 9] := by simpa using Array.mem_of_getElem? ht
        have hall : ([22, 2, 2, 9].all fun u => !Tryz.prog.wantsStandIn u) = true := by kernel_rfl
        exact (show Tryz.prog.wantsStandIn t = false by simpa using List.all_eq_true.1 hall t hm)⟩)
    (by kernel_rfl)
#print axioms blockTells_holds
end Go.Proofs.YtdmnlmohfaafoaeGreatDoor

