/- EvalParts, proved: for every list of series, every two texts and every time (beyond 20 series, 60 samples of one, 60 and 30 bytes, or a time that is none the law answers true at once): points put together by a label, and then all together, are all put together at once; how many likewise; and points stand in order, each once (the law answers true, its arguments read as before). No condition but that the program started as its own text says. -/
import Derived.Test.YtdmnlmohfaafoaeGreatDoorPEEvAlp
import Derived.Test.YtdmnlmohfaafoaeGreatDoorPEHdOpen
import Derived.Test.YtdmnlmohfaafoaeGreatDoorTie
import Derived.Test.YtdmnlmohfaafoaeGreatDoorCards
import Derived.ProofKit
import Derived.LaidMore
import Derived.OpenShut
import Derived.Stop.Joined
import Derived.SevenTiedAt
import Derived.LaidHandle
namespace Go.Proofs.YtdmnlmohfaafoaeGreatDoor
open Go.ChangeShapes Go.WideShapes Go.ChangeAt Go.WideMaps Go.WideElems Go.RowKit

/-- A variable that lies: its cells, and the rest of the list. -/
theorem lv_cons {P : Program} {W : World} {n : String} {d : DataW Unit} {r : List (String × DataW Unit)} {ps : List MemPlace} {g : Nat} {t : TypeId}
    (hg : P.globalNamed n = some g) (ht : (P.globals[g]?).map (·.type) = some t) (h : DataW.LaidVars P W ((n, d) :: r) ps) :
    (∃ cs fuel p, W.var? P n = some cs ∧ DataW.trod (fun _ => ()) P W 0 (fun _ => true) false fuel t cs.toList = some (d, p)) ∧ g < W.heap.size ∧ ∃ q, DataW.LaidVars P W r q := by
  obtain ⟨g', t', cs, fuel, p, q, hg', ht', hv, hd, hrest, _⟩ := h
  obtain rfl := Option.some.inj (hg.symm.trans hg')
  obtain rfl := Option.some.inj (ht.symm.trans ht')
  refine ⟨⟨cs, fuel, p, hv, hd⟩, ?_, q, hrest⟩
  by_cases hlt : g < W.heap.size
  · exact hlt
  · simp [World.var?, hg, Array.getElem?_eq_none (by omega : W.heap.size ≤ g)] at hv

theorem lv_skip {P : Program} {W : World} {n : String} {d : DataW Unit} {r : List (String × DataW Unit)} {ps : List MemPlace} {g : Nat}
    (hg : P.globalNamed n = some g) (h : DataW.LaidVars P W ((n, d) :: r) ps) : g < W.heap.size ∧ ∃ q, DataW.LaidVars P W r q := by
  have h' := h
  obtain ⟨g', t', cs, fuel, p, q, hg', ht', _⟩ := h'
  obtain rfl := Option.some.inj (hg.symm.trans hg')
  exact (lv_cons hg ht' h).2

def strsData {H : Type} (xs : List ByteArray) : DataW H := .agg (xs.map fun s => .lit (.string s.data.toList))

/-- A table of texts that lies as it was written. -/
theorem gt_of {W : World} {name : String} {g n : Nat} {t e : TypeId} {xs : List ByteArray}
    (ht : Tryz.prog.underlying t = some (.array n e)) (he : Tryz.prog.underlying e = some .string) (hce : Tryz.prog.cellsOf e = 1) (hn : xs.length = n) (hg : Tryz.prog.globalNamed name = some g)
    (h : ∃ cs fuel p, W.var? Tryz.prog name = some cs ∧ DataW.trod (fun _ => ()) Tryz.prog W 0 (fun _ => true) false fuel t cs.toList = some (strsData xs, p)) : GT W g xs := by
  obtain ⟨cs, fuel, p, hv, hd⟩ := h
  obtain ⟨ys, m, rfl, hx, hlen, hy, hel⟩ := DataW.trod_array ht hd
  have hm : ys.map (·.1) = xs.map fun s => (DataW.lit (.string s.data.toList) : DataW Unit) := by
    simp only [Prod.mk.injEq] at hx
    have := hx.1
    simp only [strsData, DataW.agg.injEq] at this
    exact this.symm
  intro i hi
  have h1 := hel i (by omega)
  rw [hce] at h1
  obtain ⟨y, hyi⟩ : ∃ y, ys[i]? = some y := ⟨ys[i]'(by omega), by simp⟩
  rw [hyi] at h1
  obtain ⟨s, e1, e2, _⟩ := DataW.trod_string he h1
  have e3 : (ys.map (·.1))[i]? = some y.1 := by rw [List.getElem?_map, hyi]; rfl
  have e4 : xs[i]? = some (xs.getD i ⟨#[]⟩) := by simp [List.getD, hi]
  rw [hm, List.getElem?_map, e4, e2] at e3
  have e5 : (xs.getD i ⟨#[]⟩).data.toList = s.data.toList := by simpa using e3
  have e6 : xs.getD i ⟨#[]⟩ = s := ByteArray.ext (Array.toList_inj.1 e5)
  rw [World.var?_cell hg hv i, e6]
  have := congrArg (fun l => l[0]?) e1
  simpa [List.getElem?_take, List.getElem?_drop] using this

theorem ev_laid {W : World} (h : laidMetH Tryz.prog Rows.evalPartsRow.laid W) : Gl W := by
  rw [MakeChecks.laidMetH_plain _ _ _ (by kernel_rfl)] at h
  obtain ⟨ps, h, _⟩ := h
  obtain ⟨s0, q0, h⟩ := lv_skip (g := 10) (by kernel_rfl) h
  obtain ⟨s1, q1, h⟩ := lv_skip (g := 11) (by kernel_rfl) h
  obtain ⟨s2, q2, h⟩ := lv_skip (g := 9) (by kernel_rfl) h
  obtain ⟨s3, q3, h⟩ := lv_skip (g := 8) (by kernel_rfl) h
  obtain ⟨s4, q4, h⟩ := lv_skip (g := 7) (by kernel_rfl) h
  obtain ⟨ho, s5, q5, h⟩ := lv_cons (g := 2) (t := 229) (by kernel_rfl) (by kernel_rfl) h
  obtain ⟨hw, s6, q6, h⟩ := lv_cons (g := 5) (t := 286) (by kernel_rfl) (by kernel_rfl) h
  obtain ⟨hm, s7, _⟩ := lv_cons (g := 4) (t := 266) (by kernel_rfl) (by kernel_rfl) h
  refine ⟨by omega, ?_, ?_, ?_⟩
  · exact gt_of (xs := AQ.ops) Tryz.underlying229 Tryz.underlying9 (by kernel_rfl) rfl (by kernel_rfl) ho
  · exact gt_of (xs := AQ.words) Tryz.underlying286 Tryz.underlying9 (by kernel_rfl) rfl (by kernel_rfl) hw
  · exact gt_of (xs := marksB) Tryz.underlying266 Tryz.underlying9 (by kernel_rfl) rfl (by kernel_rfl) hm

/-- The door's own heap meets the condition. -/
theorem ev_door (os : Os) (args : Array Value) : laidMetH Tryz.prog Rows.evalPartsRow.laid ((World.doorLaid Tryz.prog 94 os).forCall (fun _ _ => 0) ⟨#[], args, []⟩).memory :=
  laidMetH_of_parts3 (fuel := 8) (laidMet_of_run' 8 (by kernel_rfl) (by kernel_rfl)) (by kernel_rfl) (by kernel_rfl)

set_option maxRecDepth 100000 in
theorem evalParts_lifted (os : Os) (started : os.Started) (H : Type) (enc : TypeId × Value → H) :
    ReturnsInHanded {} Tryz.checked os 4 .any (fun w args => (Rows.evalPartsSpec.pre enc Tryz.prog Tryz.f4 [] false w args ∧ laidMetH Tryz.prog Rows.evalPartsRow.laid w) ∧ sizedMet enc Tryz.prog Tryz.f4 (OpenSpec.ofChange Rows.evalPartsSpec) false w args)
      (Rows.evalPartsSpec.post enc Tryz.prog Tryz.f4 false true false false) := by
  refine returnsInHanded_of_change_and (C := Tryz.checked) (X := fun w _ => laidMetH Tryz.prog Rows.evalPartsRow.laid w) (fun _ _ _ hh h => h.of_heap hh) Tryz.own started (by kernel_rfl) Tryz.func4
    (ChangeSpec.witness_shaped (enc := enc) (C := Tryz.checked) (os := os) (X := fun w _ => laidMetH Tryz.prog Rows.evalPartsRow.laid w) false (World.doorLaid Tryz.prog 94 os) #[.slice none 0 0, .string ⟨#[]⟩, .string ⟨#[]⟩, .int .i64 0] 8 rfl (World.shaped_of_RefB (by kernel_rfl) (by kernel_rfl)) (by kernel_rfl) (by kernel_rfl) (by kernel_rfl) (ev_door os _)) ?_
  intro W base args ds gs before hval0 hW _ _ hL _
  have hval : ∀ (j : Nat) t v, Tryz.f4.params[j]? = some t → args[j]? = some v → Value.okWide Tryz.prog W .any base t v := hval0
  have hW' := hW
  obtain ⟨p, q, hA0, hV, rfl, hfz, hnd⟩ := hW
  have hA : DataW.TrodAll enc Tryz.prog W 0 (fun _ => true) true Tryz.f4.params.toList args.toList ds p := hA0
  rw [Tryz.params4] at hA hval
  obtain ⟨v0, v1, v2, v3, d0, d1, d2, d3, p0, p1, p2, p3, rfl, rfl, rfl, h0, h1, h2, h3⟩ := trodAll_four hA
  obtain ⟨rfl, rfl⟩ := trodVars_none hV
  have hG := ev_laid hL
  obtain ⟨s, rfl, rfl, rfl, hs⟩ := Go.ChangeMaps.open_string Tryz.underlying9 (hval 1 9 v1 rfl rfl) h1
  obtain ⟨b, rfl, rfl, rfl, hb⟩ := Go.ChangeMaps.open_string Tryz.underlying9 (hval 2 9 v2 rfl rfl) h2
  obtain ⟨t, rfl, rfl, rfl, wt⟩ := open_int Tryz.underlying2 (hval 3 2 v3 rfl rfl) h3
  obtain ⟨a0, len, cap, rfl⟩ := okWide_slice Tryz.underlying22 (hval 0 22 v0 rfl rfl)
  clear hA0 hval0
  simp only [List.append_nil] at hW'
  have hlt : ∀ x ∈ p0, x.block < W.heap.size := fun x hx => by simpa using hW'.lt x hx
  have hargs : ∀ (W' : World), Below W.heap.size W W' → DataW.Trod enc Tryz.prog W' 0 (fun b => decide (b < W.heap.size)) true 22 (.slice a0 len cap) d0 p0 :=
    fun W' hn => Below.trod Tryz.laidOut (by kernel_rfl) (of_decide_eq_true (by kernel_rfl)) h0 hn hlt
  have fin : ∀ (e : Ending) (W' : World), e = .returned (.bool true) ∧ Below W.heap.size W W' → ∃ v, e = Ending.returned v ∧ Rows.evalPartsSpec.post enc Tryz.checked.prog Tryz.f4 false true false false W #[.slice a0 len cap, .string s, .string b, .int .i64 t] v W' := by
    rintro e W' ⟨rfl, hbl⟩
    refine ⟨_, rfl, _, _, _, [], p0, [], hW', ?_, ?_, rfl, hbl.frame _, fun h => by cases h⟩
    · exact trodAll_mk1 (shut_bool Tryz.underlying4 true)
    · have := trodAll_mk4 (hargs _ hbl) (Go.ChangeMaps.shut_string Tryz.underlying9 hs) (Go.ChangeMaps.shut_string Tryz.underlying9 hb) (shut_int Tryz.underlying2 wt)
      simp only [List.append_nil] at this
      exact this
  obtain ⟨l, hl, hS, hR⟩ := open_series h0
  subst hl
  exact (evparts_all a0 l cap s b t W hG hS hR).mono fun e W' h => fin e W' h

theorem evalParts_row : Rows.EvalPartsSaid :=
  OpenClaim.holds_of_wide 4 Tryz.f4 rfl rfl rfl rfl rfl rfl rfl ⟨rfl, rfl, rfl, rfl, rfl⟩ rfl rfl rfl rfl rfl (by kernel_rfl) Tryz.func4 (by kernel_rfl)
    (of_decide_eq_true (by kernel_rfl)) (by unfold Func.isWrapper; first | (rw [if_pos (by decide +kernel)]; kernel_rfl) | (rw [if_neg (by decide +kernel)]; exact ⟨rfl, rfl⟩))
    (fun os started H enc _ => evalParts_lifted os started H enc)

theorem evalParts_holds : Rows.EvalPartsCardSaid :=
  Claim7.holds_tied_plain_at .later [] [.data, .data, .data, .sentinel, .sentinel, .data, .data, .data] true Rows.evalPartsCard.stood.harness Rows.evalPartsCard.stood.looks
    evalParts_row (fun _ h => by cases h) (by kernel_rfl) (fun _ h => by cases h) evalParts_row_tie rfl ⟨rfl, rfl⟩ (by kernel_rfl) rfl
    (fun f fn hf hfn => by
      obtain rfl : f = 4 := Option.some.inj ((show Tryz.prog.funcNamed Rows.evalPartsRow.func = some 4 by kernel_rfl).symm.trans hf) |>.symm
      obtain rfl : fn = Tryz.f4 := (Option.some.inj (Tryz.func4.symm.trans hfn)).symm
      exact ⟨by kernel_rfl, fun j t ht => by
        rw [Tryz.params4] at ht
        have hm : t ∈ [22, 9, 9, 2] := by simpa using Array.mem_of_getElem? ht
        have hall : ([22, 9, 9, 2].all fun u => !Tryz.prog.wantsStandIn u) = true := by kernel_rfl
        exact (show Tryz.prog.wantsStandIn t = false by simpa using List.all_eq_true.1 hall t hm)⟩)
    (by kernel_rfl)
#print axioms evalParts_holds
end Go.Proofs.YtdmnlmohfaafoaeGreatDoor

