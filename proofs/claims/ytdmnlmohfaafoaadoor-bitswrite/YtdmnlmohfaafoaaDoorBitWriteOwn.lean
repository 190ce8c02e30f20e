/- BitsWrite, proved: for every list of what is written (numbers that are PUT, bits, last bits of numbers) a Writer's bits are the document's, and Zig and Zag are (the law answers true, its arguments read as before). No condition but the variable widths' own text, to which the card ties it. -/
import Derived.Test.YtdmnlmohfaafoaaDoorBitWrite
import Derived.Test.YtdmnlmohfaafoaaDoorBitLaid
import Derived.Test.YtdmnlmohfaafoaaDoorTie
import Derived.Test.YtdmnlmohfaafoaaDoorCards
import Derived.SevenTiedAt
import Derived.Deep.SlicePairs
namespace Go.Proofs.YtdmnlmohfaafoaaDoor
open Go.ChangeShapes Go.WideShapes Go.ChangeAt Go.WideMaps Go.WideElems Go.RowKit


set_option maxRecDepth 100000 in
theorem write_lifted (os : Os) (started : os.Started) (H : Type) (enc : TypeId × Value → H) :
    ReturnsInHanded {} Tryd.checked os 3 .any (fun w args => (Rows.bitsWriteSpec.pre enc Tryd.prog Tryd.f3 [] false w args ∧ laidMetH Tryd.prog Rows.bitsWriteRow.laid w) ∧ sizedMet enc Tryd.prog Tryd.f3 (OpenSpec.ofChange Rows.bitsWriteSpec) false w args)
      (Rows.bitsWriteSpec.post enc Tryd.prog Tryd.f3 false true false false) := by
  refine returnsInHanded_of_change_and (C := Tryd.checked) (X := fun w _ => laidMetH Tryd.prog Rows.bitsWriteRow.laid w) (fun _ _ _ hh h => h.of_heap hh) Tryd.own started (by kernel_rfl) Tryd.func3
    (ChangeSpec.witness_shaped (enc := enc) (C := Tryd.checked) (os := os) (X := fun w _ => laidMetH Tryd.prog Rows.bitsWriteRow.laid w) false (World.doorLaid Tryd.prog 21 os) #[.slice none 0 0, .int .i64 0, .int .u64 0] 8 rfl (World.shaped_of_RefB (by kernel_rfl) (by kernel_rfl)) (by kernel_rfl) (by kernel_rfl) (by kernel_rfl) (back_door os _)) ?_
  intro W base args ds gs before hval0 hW _ _ hL _
  have hval : ∀ (j : Nat) t v, Tryd.f3.params[j]? = some t → args[j]? = some v → Value.okWide Tryd.prog W .any base t v := hval0
  have hW' := hW
  obtain ⟨p, q, hA0, hV, rfl, hfz, hnd⟩ := hW
  have hA : DataW.TrodAll enc Tryd.prog W 0 (fun _ => true) true Tryd.f3.params.toList args.toList ds p := hA0
  rw [Tryd.params3] at hA hval
  obtain ⟨v0, v1, v2, d0, d1, d2, p0, p1, p2, rfl, rfl, rfl, h0, h1, h2⟩ := trodAll_three hA
  obtain ⟨rfl, rfl⟩ := trodVars_none hV
  obtain ⟨hWd, hG⟩ := back_wids hL
  obtain ⟨n, rfl, rfl, rfl, wn⟩ := open_int Tryd.underlying2 (hval 1 2 v1 rfl rfl) h1
  obtain ⟨u, rfl, rfl, rfl, wu⟩ := open_int Tryd.underlying23 (hval 2 23 v2 rfl rfl) h2
  obtain ⟨a0, len, cap, rfl⟩ := okWide_slice Tryd.underlying22 (hval 0 22 v0 rfl rfl)
  have h0k := h0
  obtain ⟨fuel, hf⟩ := h0
  clear hA0 hval0
  simp only [List.append_nil] at hW'
  have hlt : ∀ x ∈ p0, x.block < W.heap.size := fun x hx => by simpa using hW'.lt x hx
  have hargs : ∀ (W' : World), Below W.heap.size W W' → DataW.Trod enc Tryd.prog W' 0 (fun b => decide (b < W.heap.size)) true 22 (.slice a0 len cap) d0 p0 :=
    fun W' hn => Below.trod Tryd.laidOut (by kernel_rfl) (of_decide_eq_true (by kernel_rfl)) h0k hn hlt
  have fin : ∀ (e : Ending) (W' : World), e = .returned (.bool true) ∧ Below W.heap.size W W' → ∃ v, e = Ending.returned v ∧ Rows.bitsWriteSpec.post enc Tryd.checked.prog Tryd.f3 false true false false W #[.slice a0 len cap, .int .i64 n, .int .u64 u] v W' := by
    rintro e W' ⟨rfl, hb⟩
    refine ⟨_, rfl, _, _, _, [], p0, [], hW', ?_, ?_, rfl, hb.frame _, fun h => by cases h⟩
    · exact trodAll_mk1 (shut_bool Tryd.underlying4 true)
    · have := trodAll_mk3 (hargs _ hb) (shut_int Tryd.underlying2 wn) (shut_int Tryd.underlying23 wu)
      simp only [List.append_nil] at this
      exact this
  obtain ⟨hn1, hn2⟩ := wf_i64 wn
  obtain ⟨U, rfl, hU⟩ := wf_u64 wu
  by_cases hlong : 40 < len
  · refine (write_long a0 len cap n U W hlong).mono fun e W' ⟨he, hw⟩ => fin e W' ⟨he, ?_⟩
    rw [hw]; exact Below.refl _ _
  · rcases Deep.open_slice_pairs Tryd.underlying22 Tryd.underlying30 (by kernel_rfl) rfl rfl (by kernel_rfl) (by kernel_rfl) hf with ⟨hcs, hx⟩ | ⟨a, len', cap', m, nn, V0, V1, D0, D1, P0, P1, hcs, _, hl, hm, hmm, hx, hel⟩
    · simp [Value.cells] at hcs
      obtain ⟨rfl, rfl, rfl⟩ := hcs
      exact (write_any none 0 0 (fun _ => 0) (fun _ => 0) n U W (by omega) hWd hG (fun i hi => by omega) (fun i hi => by omega) hn1 hn2 hU).mono fun e W' h => fin e W' h
    · simp [Value.cells] at hcs
      obtain ⟨rfl, rfl, rfl⟩ := hcs
      simp only [if_true] at hmm
      have hpair : ∀ i, i < len → ∃ x : Int × Int, V0 i = .int .i64 x.1 ∧ V1 i = .int .i64 x.2 ∧ (Lit.int .i64 x.1).wf = true ∧ (Lit.int .i64 x.2).wf = true := fun i hi => by
        obtain ⟨_, _, t0, t1⟩ := hel i (by omega)
        obtain ⟨k0, e0, _, w0⟩ := DataW.trod_int Tryd.underlying3 t0
        obtain ⟨k1, e1, _, w1⟩ := DataW.trod_int Tryd.underlying2 t1
        simp only [List.cons.injEq, and_true] at e0 e1
        exact ⟨(k0, k1), e0, e1, w0, w1⟩
      obtain ⟨X, hX⟩ := Deep.choose_lt hpair
      refine (write_any (some a) len cap (fun i => (X i).1) (fun i => (X i).2) n U W (by omega) hWd hG (fun i hi => ?_) (fun i hi => ?_) hn1 hn2 hU).mono fun e W' h => fin e W' h
      · obtain ⟨c0, c1, _, _⟩ := hel i (by omega)
        obtain ⟨e0, e1, _, _⟩ := hX i hi
        obtain ⟨b, off, spot⟩ := a
        have hspot : spot = none := by
          have := World.cell?_spot (hel 0 (by omega)).1
          simpa [Addr.add] using this
        subst hspot
        rw [add_plain, e0] at c0
        rw [add_plain, e1] at c1
        exact ⟨b, off, rfl, c0, c1, World.block_lt_of_cell? _ _ c0⟩
      · obtain ⟨_, _, w0, w1⟩ := hX i hi
        exact ⟨(wf_i64 w0).1, (wf_i64 w0).2, (wf_i64 w1).1, (wf_i64 w1).2⟩

theorem bitsWrite_row : Rows.BitsWriteSaid :=
  OpenClaim.holds_of_wide 3 Tryd.f3 rfl rfl rfl rfl rfl rfl rfl ⟨rfl, rfl, rfl, rfl, rfl⟩ rfl rfl rfl rfl rfl (by kernel_rfl) Tryd.func3 (by kernel_rfl)
    (of_decide_eq_true (by kernel_rfl)) (by unfold Func.isWrapper; first | (rw [if_pos (by decide +kernel)]; kernel_rfl) | (rw [if_neg (by decide +kernel)]; exact ⟨rfl, rfl⟩))
    (fun os started H enc _ => write_lifted os started H enc)

theorem bitsWrite_holds : Rows.BitsWriteCardSaid :=
  Claim7.holds_tied_plain_at .later [] [.data] true Rows.bitsWriteCard.stood.harness true
    bitsWrite_row (fun _ h => by cases h) (by kernel_rfl) (fun _ h => by cases h) bitsWrite_row_tie rfl ⟨rfl, rfl⟩ (by kernel_rfl) rfl
    (fun f fn hf hfn => by
      obtain rfl : f = 3 := Option.some.inj ((show Tryd.prog.funcNamed Rows.bitsWriteRow.func = some 3 by kernel_rfl).symm.trans hf) |>.symm
      obtain rfl : fn = Tryd.f3 := (Option.some.inj (Tryd.func3.symm.trans hfn)).symm
      exact ⟨by kernel_rfl, fun j t ht => by
        rw [Tryd.params3] at ht
        have hm : t ∈ [22, 2, 23] := by simpa using Array.mem_of_getElem? ht
        have hall : ([22, 2, 23].all fun u => !Tryd.prog.wantsStandIn u) = true := by kernel_rfl
        exact (show Tryd.prog.wantsStandIn t = false by simpa using List.all_eq_true.1 hall t hm)⟩)
    (by kernel_rfl)
#print axioms bitsWrite_holds
end Go.Proofs.YtdmnlmohfaafoaaDoor
