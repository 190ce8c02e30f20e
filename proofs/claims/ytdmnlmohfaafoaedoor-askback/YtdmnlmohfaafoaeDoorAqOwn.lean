/- AskBack, proved: for every text (the law answers true at once beyond 600 bytes): if the text is a question, then the question's own text is a question, it asks the same, and it is written just so (the law answers true, its argument reads as before). No condition but the card's own: the variables that the row lays (the tables of strconv, of math/bits and of the package ask) lie as their text says, to which the card ties them. -/
import Derived.Test.YtdmnlmohfaafoaeDoorAqLaw
import Derived.Test.YtdmnlmohfaafoaeDoorTie
import Derived.Test.YtdmnlmohfaafoaeDoorCards
import Derived.ProofKit
import Derived.LaidMore
import Derived.OpenShut
import Derived.Stop.Joined
import Derived.SevenTiedAt
import Derived.LaidHandle
namespace Go.Proofs.YtdmnlmohfaafoaeDoor
open Go.ChangeShapes Go.WideShapes Go.ChangeAt Go.WideMaps Go.WideElems Go.RowKit

theorem Tryd.own : ownKnob Tryd.prog.godebug = none := by kernel_rfl

/-- A variable that lies: its cells, and the rest of the list. -/
theorem lv_cons {P : Program} {W : World} {n : String} {d : DataW Unit} {r : List (String × DataW Unit)} {ps : List MemPlace} {g : Nat} {t : TypeId}
    (hg : P.globalNamed n = some g) (ht : (P.globals[g]?).map (·.type) = some t) (h : DataW.LaidVars P W ((n, d) :: r) ps) :
    (∃ cs fuel p, W.var? P n = some cs ∧ DataW.trod (fun _ => ()) P W 0 (fun _ => true) false fuel t cs.toList = some (d, p)) ∧ g < W.heap.size ∧ ∃ q, DataW.LaidVars P W r q := by
  obtain ⟨g', t', cs, fuel, p, q, hg', ht', hv, hd, hrest, _⟩ := h
  obtain rfl := Option.some.inj (hg.symm.trans hg')
  obtain rfl := Option.some.inj (ht.symm.trans ht')
  refine ⟨⟨cs, fuel, p, hv, hd⟩, ?_, q, hrest⟩
  by_cases hlt : g < W.heap.size
  · exact hlt
  · simp [World.var?, hg, Array.getElem?_eq_none (by omega : W.heap.size ≤ g)] at hv

theorem lv_skip {P : Program} {W : World} {n : String} {d : DataW Unit} {r : List (String × DataW Unit)} {ps : List MemPlace} {g : Nat}
    (hg : P.globalNamed n = some g) (h : DataW.LaidVars P W ((n, d) :: r) ps) : g < W.heap.size ∧ ∃ q, DataW.LaidVars P W r q := by
  have h' := h
  obtain ⟨g', t', cs, fuel, p, q, hg', ht', _⟩ := h'
  obtain rfl := Option.some.inj (hg.symm.trans hg')
  exact (lv_cons hg ht' h).2

def strsData {H : Type} (xs : List ByteArray) : DataW H := .agg (xs.map fun s => .lit (.string s.data.toList))

/-- A table of texts that lies as it was written. -/
theorem gt_of {W : World} {name : String} {g n : Nat} {t e : TypeId} {xs : List ByteArray}
    (ht : Tryd.prog.underlying t = some (.array n e)) (he : Tryd.prog.underlying e = some .string) (hce : Tryd.prog.cellsOf e = 1) (hn : xs.length = n) (hg : Tryd.prog.globalNamed name = some g)
    (h : ∃ cs fuel p, W.var? Tryd.prog name = some cs ∧ DataW.trod (fun _ => ()) Tryd.prog W 0 (fun _ => true) false fuel t cs.toList = some (strsData xs, p)) : GT W g xs := by
  obtain ⟨cs, fuel, p, hv, hd⟩ := h
  obtain ⟨ys, m, rfl, hx, hlen, hy, hel⟩ := DataW.trod_array ht hd
  have hm : ys.map (·.1) = xs.map fun s => (DataW.lit (.string s.data.toList) : DataW Unit) := by
    simp only [Prod.mk.injEq] at hx
    have := hx.1
    simp only [strsData, DataW.agg.injEq] at this
    exact this.symm
  intro i hi
  have h1 := hel i (by omega)
  rw [hce] at h1
  obtain ⟨y, hyi⟩ : ∃ y, ys[i]? = some y := ⟨ys[i]'(by omega), by simp⟩
  rw [hyi] at h1
  obtain ⟨s, e1, e2, _⟩ := DataW.trod_string he h1
  have e3 : (ys.map (·.1))[i]? = some y.1 := by rw [List.getElem?_map, hyi]; rfl
  have e4 : xs[i]? = some (xs.getD i ⟨#[]⟩) := by simp [List.getD, hi]
  rw [hm, List.getElem?_map, e4, e2] at e3
  have e5 : (xs.getD i ⟨#[]⟩).data.toList = s.data.toList := by simpa using e3
  have e6 : xs.getD i ⟨#[]⟩ = s := ByteArray.ext (Array.toList_inj.1 e5)
  rw [World.var?_cell hg hv i, e6]
  have := congrArg (fun l => l[0]?) e1
  simpa [List.getElem?_take, List.getElem?_drop] using this

theorem ab_laid {W : World} (h : laidMetH Tryd.prog Rows.askBackRow.laid W) : Gl W := by
  rw [MakeChecks.laidMetH_plain _ _ _ (by kernel_rfl)] at h
  obtain ⟨ps, h, _⟩ := h
  obtain ⟨s0, q0, h⟩ := lv_skip (g := 10) (by kernel_rfl) h
  obtain ⟨s1, q1, h⟩ := lv_skip (g := 11) (by kernel_rfl) h
  obtain ⟨hp, s2, q2, h⟩ := lv_cons (g := 6) (t := 262) (by kernel_rfl) (by kernel_rfl) h
  obtain ⟨s3, q3, h⟩ := lv_skip (g := 9) (by kernel_rfl) h
  obtain ⟨s4, q4, h⟩ := lv_skip (g := 8) (by kernel_rfl) h
  obtain ⟨ho, s5, q5, h⟩ := lv_cons (g := 0) (t := 173) (by kernel_rfl) (by kernel_rfl) h
  obtain ⟨hw, s6, q6, h⟩ := lv_cons (g := 2) (t := 204) (by kernel_rfl) (by kernel_rfl) h
  obtain ⟨hs, s7, q7, h⟩ := lv_cons (g := 3) (t := 173) (by kernel_rfl) (by kernel_rfl) h
  obtain ⟨hm, s8, _⟩ := lv_cons (g := 5) (t := 250) (by kernel_rfl) (by kernel_rfl) h
  refine ⟨by omega, ?_, ?_, ?_, ?_, ?_⟩
  · exact gt_of (xs := AQ.ops) Tryd.underlying173 Tryd.underlying9 (by kernel_rfl) rfl (by kernel_rfl) ho
  · exact gt_of (xs := AQ.words) Tryd.underlying204 Tryd.underlying9 (by kernel_rfl) rfl (by kernel_rfl) hw
  · exact gt_of (xs := marksB) Tryd.underlying250 Tryd.underlying9 (by kernel_rfl) rfl (by kernel_rfl) hm
  · exact gt_of (xs := signs) Tryd.underlying173 Tryd.underlying9 (by kernel_rfl) rfl (by kernel_rfl) hs
  · obtain ⟨cs, fuel, p, hv, hd⟩ := hp
    unfold Lib.TabIs
    rw [hv, ← Lib.cells_of_tab (zs := Lib.pow10Tab) (k := .u64) Tryd.underlying262 Tryd.underlying223 (by kernel_rfl) (by kernel_rfl) hd]

/-- The door's own heap meets the condition. -/
theorem ab_door (os : Os) (args : Array Value) : laidMetH Tryd.prog Rows.askBackRow.laid ((World.doorLaid Tryd.prog 94 os).forCall (fun _ _ => 0) ⟨#[], args, []⟩).memory :=
  laidMetH_of_parts3 (fuel := 8) (laidMet_of_run' 8 (by kernel_rfl) (by kernel_rfl)) (by kernel_rfl) (by kernel_rfl)

set_option maxRecDepth 100000 in
theorem askBack_lifted (os : Os) (started : os.Started) (H : Type) (enc : TypeId × Value → H) :
    ReturnsInHanded {} Tryd.checked os 5 .any (fun w args => (Rows.askBackSpec.pre enc Tryd.prog Tryd.f5 [] false w args ∧ laidMetH Tryd.prog Rows.askBackRow.laid w) ∧ sizedMet enc Tryd.prog Tryd.f5 (OpenSpec.ofChange Rows.askBackSpec) false w args)
      (Rows.askBackSpec.post enc Tryd.prog Tryd.f5 false true false false) := by
  refine returnsInHanded_of_change_and (C := Tryd.checked) (X := fun w _ => laidMetH Tryd.prog Rows.askBackRow.laid w) (fun _ _ _ hh h => h.of_heap hh) Tryd.own started (by kernel_rfl) Tryd.func5
    (ChangeSpec.witness_shaped (enc := enc) (C := Tryd.checked) (os := os) (X := fun w _ => laidMetH Tryd.prog Rows.askBackRow.laid w) false (World.doorLaid Tryd.prog 94 os) #[.string ⟨#[]⟩] 8 rfl (World.shaped_of_RefB (by kernel_rfl) (by kernel_rfl)) (by kernel_rfl) (by kernel_rfl) (by kernel_rfl) (ab_door os _)) ?_
  intro W base args ds gs before hval0 hW _ _ hL _
  have hval : ∀ (j : Nat) t v, Tryd.f5.params[j]? = some t → args[j]? = some v → Value.okWide Tryd.prog W .any base t v := hval0
  have hW' := hW
  obtain ⟨p, q, hA0, hV, rfl, hfz, hnd⟩ := hW
  have hA : DataW.TrodAll enc Tryd.prog W 0 (fun _ => true) true Tryd.f5.params.toList args.toList ds p := hA0
  rw [Tryd.params5] at hA hval
  obtain ⟨v0, d0, rfl, rfl, h0⟩ := trodAll_one hA
  obtain ⟨rfl, rfl⟩ := trodVars_none hV
  have hG := ab_laid hL
  obtain ⟨s, rfl, rfl, rfl, hs⟩ := Go.ChangeMaps.open_string Tryd.underlying9 (hval 0 9 v0 rfl rfl) h0
  clear hA0 hval0
  simp only [List.append_nil] at hW'
  have fin : ∀ (e : Ending) (W' : World), e = .returned (.bool true) ∧ Below W.heap.size W W' → ∃ v, e = Ending.returned v ∧ Rows.askBackSpec.post enc Tryd.checked.prog Tryd.f5 false true false false W #[.string s] v W' := by
    rintro e W' ⟨rfl, hb⟩
    refine ⟨_, rfl, _, _, _, [], [], [], hW', ?_, ?_, rfl, hb.frame _, fun h => by cases h⟩
    · exact trodAll_mk1 (shut_bool Tryd.underlying4 true)
    · exact trodAll_mk1 (Go.ChangeMaps.shut_string Tryd.underlying9 hs)
  by_cases hlong : 600 < s.size
  · exact (aback_long s W hlong).mono fun e W' h => fin e W' h
  · exact (aback_any s W hG (by omega)).mono fun e W' h => fin e W' h

theorem askBack_row : Rows.AskBackSaid :=
  OpenClaim.holds_of_wide 5 Tryd.f5 rfl rfl rfl rfl rfl rfl rfl ⟨rfl, rfl, rfl, rfl, rfl⟩ rfl rfl rfl rfl rfl (by kernel_rfl) Tryd.func5 (by kernel_rfl)
    (of_decide_eq_true (by kernel_rfl)) (by unfold Func.isWrapper; first | (rw [if_pos (by decide +kernel)]; kernel_rfl) | (rw [if_neg (by decide +kernel)]; exact ⟨rfl, rfl⟩))
    (fun os started H enc _ => askBack_lifted os started H enc)

theorem askBack_holds : Rows.AskBackCardSaid :=
  Claim7.holds_tied_plain_at .later [] [.data, .data, .data, .sentinel, .sentinel, .data, .data, .data, .data] true Rows.askBackCard.stood.harness Rows.askBackCard.stood.looks
    askBack_row (fun _ h => by cases h) (by kernel_rfl) (fun _ h => by cases h) askBack_row_tie rfl ⟨rfl, rfl⟩ (by kernel_rfl) rfl
    (fun f fn hf hfn => by
      obtain rfl : f = 5 := Option.some.inj ((show Tryd.prog.funcNamed Rows.askBackRow.func = some 5 by kernel_rfl).symm.trans hf) |>.symm
      obtain rfl : fn = Tryd.f5 := (Option.some.inj (Tryd.func5.symm.trans hfn)).symm
      exact ⟨by kernel_rfl, fun j t ht => by
        rw [Tryd.params5] at ht
        have hm : t ∈ [9] := by simpa using Array.mem_of_getElem? ht
        have hall : ([9].all fun u => !Tryd.prog.wantsStandIn u) = true := by kernel_rfl
        exact (show Tryd.prog.wantsStandIn t = false by simpa using List.all_eq_true.1 hall t hm)⟩)
    (by kernel_rfl)
#print axioms askBack_holds
end Go.Proofs.YtdmnlmohfaafoaeDoor
