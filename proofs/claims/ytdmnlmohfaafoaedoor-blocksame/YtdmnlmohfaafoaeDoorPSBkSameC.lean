/- BlockSame, by what block's functions tell. -/
import Derived.Test.YtdmnlmohfaafoaeDoorPSBkGnC
import Derived.Test.YtdmnlmohfaafoaeDoorPSBkOneC
import Derived.Test.YtdmnlmohfaafoaeDoorPSCsSameK
import Derived.Test.YtdmnlmohfaafoaeDoorPSCsShort
import Derived.Test.YtdmnlmohfaafoaeDoorPSBmPickC
import Derived.Test.YtdmnlmohfaafoaeDoorPSBmAskedC
import Derived.Test.YtdmnlmohfaafoaeDoorPSCdTxt
import Derived.Test.YtdmnlmohfaafoaeDoorPSHrReg
import Derived.Deep.CutRange
import Derived.Deep.DeepCutAuto
namespace Go.Proofs.YtdmnlmohfaafoaeDoor
open Go.RowKit

/-- What may be asked for. -/
def GAsk (gs : List Gn) : Prop := ∀ i, i < gs.length → (atG gs i).M.length ≤ 20 ∧ LB.asked (atG gs i).M = true

/-- What block's functions tell, from a world on. -/
structure BlkCalls (w0 : World) : Prop where
  right : ∀ (v : Value) (S : List Sr) (tp old : Int) (W : World), Below w0.heap.size w0 W → RowOk W v S → S.length ≤ 60 → (∀ i, i < S.length → (atSr S i).1.length ≤ 20 ∧ (atSr S i).2.length ≤ 2000 ∧ Shrt (atSr S i).1) → (∀ i, i < S.length → ∀ x ∈ (atSr S i).2, CL.Rs x) → Calls Tryd.prog 19 #[.agg #[.int .i64 tp, .int .i64 old, v]] W fun e w' => e = .returned (.bool (BK.right tp old S)) ∧ Below W.heap.size W w'
  wo : ∀ (v gv : Value) (S : List Sr) (gs : List Gn) (W : World), Below w0.heap.size w0 W → RowOk W v S → HD.Good S → GOk W gv gs → gs.length ≤ 10 → GAsk gs → Calls Tryd.prog 23 #[v, gv] W fun e w' => ∃ u, e = .returned u ∧ RowOk w' u (HD.kp (BK.none' goG gs) S) ∧ Below W.heap.size W w'
  me : ∀ (v u : Value) (S T : List Sr) (W : World), Below w0.heap.size w0 W → RowOk W v S → RowOk W u T → HD.Good S → HD.Good T → Calls Tryd.prog 24 #[v, u] W fun e w' => ∃ x, e = .returned x ∧ RowOk w' x (HD.jn S T) ∧ Below W.heap.size W w'
  wr : ∀ (v : Value) (S : List Sr) (tp old : Int) (W : World), Below w0.heap.size w0 W → RowOk W v S → BK.right tp old S = true → HD.Good S → S.length ≤ 20 → (-9223372036854775808 ≤ tp ∧ tp ≤ 9223372036854775807) → (-9223372036854775808 ≤ old ∧ old ≤ 9223372036854775807) → Calls Tryd.prog 25 #[.agg #[.int .i64 tp, .int .i64 old, v]] W fun e w' => ∃ s, e = .returned (.tuple #[.string s, .nilIface]) ∧ Below W.heap.size W w' ∧ ∀ W', Below w0.heap.size w0 W' → Calls Tryd.prog 26 #[.string s] W' fun e w'' => ∃ u, e = .returned (.tuple #[.agg #[.int .i64 tp, .int .i64 old, u], .nilIface]) ∧ RowOk w'' u S ∧ Below W'.heap.size W' w''

theorem one_right : BK.right 5 (-1) (oneS ⟨#[97]⟩ 5 1) = true := by decide

theorem one_good : HD.Good (oneS ⟨#[97]⟩ 5 1) := ⟨List.pairwise_singleton _ _, by decide, fun x hx => by
  have : x = ([(⟨#[110]⟩, ⟨#[97]⟩)], [(5, 1)]) := by simpa using hx
  subst this
  refine ⟨by decide, by decide, by decide, fun s hs => ?_⟩
  have : s = (5, 1) := by simpa using hs
  subst this
  unfold CL.Rs
  omega⟩

theorem one_gone : HD.kp (BK.none' goG [⟨[], 5, 5⟩]) (oneS ⟨#[97]⟩ 5 1) = [] := by decide

set_option maxRecDepth 100000 in
set_option maxHeartbeats 1600000 in
theorem blocked_any (w0 w : World) (hb : Below w0.heap.size w0 w) (hB : BlkCalls w0) :
    Calls Tryd.prog 18 #[] w fun e w' => e = .returned (.bool true) ∧ Below w.heap.size w w' := by
  have HB := hid hB
  have Hb := hid hb
  clear hB hb
  go_enter Tryd.func18, Tryd.ntmps18
  go_wp2_with fail
  refine (kone_any ⟨#[97]⟩ 5 1 w).mono ?_
  rintro e w1 ⟨u1, rfl, ho1, hb1⟩
  have hok1 := RowOk.of_own ho1
  obtain ⟨a1, c1, e1, _⟩ := id hok1
  subst e1
  have hal : Below w1.heap.size w1 (w1.alloc (.cells #[.int .i64 5, .int .i64 (-1), .slice a1 (oneS ⟨#[97]⟩ 5 1).length c1] 48)) := (Below.refl _ w1).alloc (Nat.le_refl _) _
  have HB2 := hid (bel2 hb1 hal)
  have HX2 := hid (heap_alloc_new w1 (.cells #[.int .i64 5, .int .i64 (-1), .slice a1 (oneS ⟨#[97]⟩ 5 1).length c1] 48))
  have HK2 := hid (hok1.below hal)
  have HG1 := hid one_good
  have HR1 := hid one_right
  have HN1 := hid one_gone
  have HL1 := hid (show (oneS ⟨#[97]⟩ 5 1).length ≤ 20 by decide)
  clear ho1 hb1 hok1 hal
  generalize hone : oneS ⟨#[97]⟩ 5 1 = S1 at *
  clear hone
  go_wp2_with fail
  generalize w1.alloc (.cells #[.int .i64 5, .int .i64 (-1), .slice a1 S1.length c1] 48) = w2 at HB2 HX2 HK2 ⊢
  generalize w1.heap.size = b1 at HX2 ⊢
  refine (HB.out.wr (.slice a1 S1.length c1) S1 5 (-1) w2 (bel2 Hb.out HB2.out) HK2.out HR1.out HG1.out HL1.out (by omega) (by omega)).mono ?_
  rintro e w3 ⟨s, rfl, hb3, hrd⟩
  have HB3 := hid (bel2 HB2.out hb3)
  have HX3 := hid ((hb3.block _ (heap_lt HX2.out)).trans HX2.out)
  have HK3 := hid (HK2.out.below hb3)
  have HRd := hid hrd
  clear hb3 hrd HB2 HX2 HK2
  go_wp2_with fail
  refine (HRd.out w3 (bel2 Hb.out HB3.out)).mono ?_
  rintro e w4 ⟨u4, rfl, hk4, hb4⟩
  obtain ⟨a4, c4, e4, hr4, _⟩ := id hk4
  subst e4
  have hal4 : Below w4.heap.size w4 (w4.alloc (.cells #[.int .i64 5, .int .i64 (-1), .slice a4 S1.length c4] 48)) := (Below.refl _ w4).alloc (Nat.le_refl _) _
  have HB5 := hid (bel2 (bel2 HB3.out hb4) hal4)
  have HY5 := hid (heap_alloc_new w4 (.cells #[.int .i64 5, .int .i64 (-1), .slice a4 S1.length c4] 48))
  have HX5 := hid ((hal4.block _ (Nat.lt_of_lt_of_le (heap_lt HX3.out) hb4.size)).trans ((hb4.block _ (heap_lt HX3.out)).trans HX3.out))
  have HK5 := hid ((HK3.out.below hb4).below hal4)
  have HR5 := hid (hr4.below hal4)
  have y0 := zcell' _ _ _ _ HY5.out 0 _ rfl
  have y1 := zcell' _ _ _ _ HY5.out 1 _ rfl
  have y2 := zcell' _ _ _ _ HY5.out 2 _ rfl
  have x2 := zcell' _ _ _ _ HX5.out 2 _ rfl
  have hSr1 := HK5.out
  obtain ⟨a1', c1', e1', hr1, _⟩ := hSr1
  simp only [Value.slice.injEq, true_and] at e1'
  obtain ⟨e1', e2'⟩ := e1'
  subst e1' e2'
  have HSm := hid (sameSrK_any a4 a1 S1 c4 c1 _ HR5.out hr1 (good_fewB HG1.out))
  clear hk4 hr4 hb4 hal4 HB3 HX3 HK3 hr1
  go_wp2_with fail
  refine HSm.out.mono ?_
  rintro e w6 ⟨rfl, hb6⟩
  have HB6 := hid (bel2 HB5.out hb6)
  have hX6 := (hb6.block _ (heap_lt HX5.out)).trans HX5.out
  have z2 : w6.cell? ⟨b1, 2, none⟩ = some (.slice a1 S1.length c1) := zcell' _ _ _ _ hX6 2 _ rfl
  have hal6 : Below w6.heap.size w6 (w6.alloc (.cells #[.slice none 0 0, .int .i64 5, .int .i64 5] 53)) := (Below.refl _ w6).alloc (Nat.le_refl _) _
  have HK7 := hid ((HK5.out.below hb6).below hal6)
  have HG7 : Hid (GOk (w6.alloc (.cells #[.slice none 0 0, .int .i64 5, .int .i64 5] 53)) (.slice (some ⟨w6.heap.size, 0, none⟩) 1 1) [⟨[], 5, 5⟩]) := by
    have hX := heap_alloc_new w6 (.cells #[.slice none 0 0, .int .i64 5, .int .i64 5] 53)
    refine ⟨_, 1, rfl, fun i hi => ?_, Nat.le_refl _, fun e => by cases e⟩
    have : i = 0 := by simp at hi; omega
    subst this
    exact ⟨w6.heap.size, 0, rfl, heap_lt hX, none, 0, zcell' _ _ _ _ hX 0 _ rfl, zcell' _ _ _ _ hX 1 _ rfl, zcell' _ _ _ _ hX 2 _ rfl, fun j hj => absurd hj (Nat.not_lt_zero _)⟩
  have HB7 := hid (bel2 HB6.out hal6)
  have HWo := hid (HB.out.wo (.slice a1 S1.length c1) _ S1 [⟨[], 5, 5⟩] _ (bel2 Hb.out HB7.out) HK7.out HG1.out HG7.out (by show 1 ≤ 10; omega) (fun i hi => by
    have h1 : i < 1 := hi
    have : i = 0 := by omega
    subst this
    exact ⟨Nat.zero_le _, by decide⟩))
  rw [HN1.out] at HWo
  clear hb6 hX6 hal6 HSm HB5 HY5 HX5 HK5 HR5 y0 y1 y2 x2 HB6 HG7 HK7
  go_wp2_with fail
  refine HWo.out.mono ?_
  rintro e w8 ⟨u8, rfl, hk8, hb8⟩
  obtain ⟨a8, c8, e8, _⟩ := hk8
  subst e8
  have HB8 := hid (bel2 HB7.out hb8)
  clear hb8 HWo HB7 z2
  go_wp2_with fail
  go_ret
  exact ⟨rfl, HB8.out⟩

/-- Rows of what is gone, cut. -/
theorem GOk.drop {w : World} {go : Option Addr} {gs : List Gn} {gc : Nat} (h : GRow w go gs) (hc : gs.length ≤ gc) (hn : go = none → gc = 0) (k : Nat) (hk : k ≤ gs.length) : GOk w (.slice (if gc = k then go else go.map fun x => x.add (k * 3)) (gs.length - k) (gc - k)) (gs.drop k) := by
  refine ⟨_, gc - k, by rw [List.length_drop], fun i hi => ?_, by rw [List.length_drop]; omega, fun e => ?_⟩
  · rw [List.length_drop] at hi
    obtain ⟨b, off, e, hb, mo, mc, c0, c1, c2, hM⟩ := h (k + i) (by omega)
    have hat : atG (gs.drop k) i = atG gs (k + i) := by
      unfold atG
      rw [List.getD_eq_getElem?_getD, List.getD_eq_getElem?_getD, List.getElem?_drop]
    rw [hat, e, if_neg (by omega)]
    have e3 : off + (k + i) * 3 = off + k * 3 + i * 3 := by omega
    rw [e3] at c0 c1 c2
    exact ⟨b, off + k * 3, by simp [Addr.add], hb, mo, mc, c0, c1, c2, hM⟩
  · by_cases h0 : gc = k
    · omega
    · rw [if_neg h0] at e
      cases go with
      | none => have := hn rfl; omega
      | some x => simp at e

theorem GOk.take {w : World} {go : Option Addr} {gs : List Gn} {gc : Nat} (h : GRow w go gs) (hc : gs.length ≤ gc) (hn : go = none → gc = 0) (k : Nat) (hk : k ≤ gs.length) : GOk w (.slice go k gc) (gs.take k) := by
  refine ⟨go, gc, by rw [List.length_take, Nat.min_eq_left hk], fun i hi => ?_, by rw [List.length_take]; omega, hn⟩
  rw [List.length_take] at hi
  obtain ⟨b, off, e, hb, mo, mc, c0, c1, c2, hM⟩ := h i (by omega)
  have hat : atG (gs.take k) i = atG gs i := by
    unfold atG
    rw [List.getD_eq_getElem?_getD, List.getD_eq_getElem?_getD, List.getElem?_take, if_pos (by omega)]
  rw [hat]
  exact ⟨b, off, e, hb, mo, mc, c0, c1, c2, hM⟩

theorem sl_lo (go : Option Addr) (n gc k : Nat) (h : k ≤ n) (hc : n ≤ gc) (_hm : gc ≤ 9223372036854775807) (w : World) : (Instr.sliceAt 46 (.slice go n gc) (some (.int .i64 k)) none none).run Tryd.prog w = .ok (.slice (if gc = k then go else go.map fun x => x.add (k * 3)) (n - k) (gc - k)) w := by
  have hs : (Tryd.prog.info? 53).map (·.size) = some 3 := by kernel_rfl
  have h1 : 0 ≤ (k : Int) ∧ (k : Int) ≤ (n : Int) ∧ (n : Int) ≤ (gc : Int) := by omega
  go_simp

theorem sl_hi (go : Option Addr) (n gc k : Nat) (h : k ≤ n) (hc : n ≤ gc) (w : World) : (Instr.sliceAt 46 (.slice go n gc) none (some (.int .i64 k)) none).run Tryd.prog w = .ok (.slice go k gc) w := by
  have hs : (Tryd.prog.info? 53).map (·.size) = some 3 := by kernel_rfl
  have h1 : 0 ≤ (k : Int) ∧ (k : Int) ≤ (gc : Int) := by omega
  go_simp

theorem kshS_lim {l : List Sr} (h : shS l = true) : l.length ≤ 20 ∧ ∀ i, i < l.length → (atSr l i).1.length ≤ 20 ∧ (atSr l i).2.length ≤ 60 ∧ Shrt (atSr l i).1 := by
  unfold shS at h
  have h1 := decide_eq_true_iff.1 h
  refine ⟨h1.1, fun i hi => ?_⟩
  obtain ⟨h2, h3⟩ := h1.2 i hi
  unfold shL at h2
  have h4 := decide_eq_true_iff.1 h2
  exact ⟨h4.1, h3, fun j hj => by have := h4.2 j hj; omega⟩

theorem jn_good {a b : List Sr} (ha : HD.Good a) (hb : HD.Good b) (hn : a.length + b.length ≤ 60) (hs : ∀ u ∈ a, ∀ v ∈ b, u.2.length + v.2.length ≤ 2000) : HD.Good (HD.jn a b) := by
  refine ⟨BK.ord_jn _ a b (Nat.le_refl _) ha.ord hb.ord, by have := jn_len _ a b (Nat.le_refl _); omega, fun x hx => ?_⟩
  rcases (BK.mem_jn _ a b (Nat.le_refl _) ha.ord hb.ord x).1 hx with h | h | ⟨u, hu, v, hv, e1, e2⟩
  · exact ha.ok x h.1
  · exact hb.ok x h.1
  · have hua := ha.ok u hu
    have hvb := hb.ok v hv
    have hru := CL.rising_of_right _ hua.2.1
    have hrv := CL.rising_of_right _ hvb.2.1
    have hlen := CL.mrg_len u.2 v.2
    have hmem : ∀ s ∈ CL.mrg u.2 v.2, s ∈ u.2 ∨ s ∈ v.2 := fun s hs => by
      rcases (CL.mem_mrg u.2 v.2 hru hrv s).1 hs with h | h
      · exact .inr h
      · exact .inl h.1
    rw [e2]
    refine ⟨hua.1, right_mrg hua.2.1 hvb.2.1 (by have := hs u hu v hv; omega), ?_, fun s hs => ?_⟩
    · obtain ⟨s, hs⟩ := List.exists_mem_of_length_pos hvb.2.2.1
      exact List.length_pos_of_mem ((CL.mem_mrg u.2 v.2 hru hrv s).2 (.inl hs))
    · rcases hmem s hs with h | h
      · exact hua.2.2.2 s h
      · exact hvb.2.2.2 s h

/-- What is told where series are cut in two ways. -/
def T15 (a : List Sr) (gs : List Gn) (vA vG : Value) (go : Option Addr) (cg kk : Nat) (_ : Nat → Bool) (i : Nat) (W : World) (v : Value) : Prop := match i with
  | 0 => v = vA
  | 1 => v = vG
  | 2 => v = .int .i64 kk
  | 3 => v = .slice (if cg = kk then go else go.map fun x => x.add (kk * 3)) (gs.length - kk) (cg - kk)
  | 4 => RowOk W v (HD.kp (BK.none' goG (gs.drop kk)) a)
  | 5 => v = vG
  | 6 => v = .int .i64 kk
  | 7 => v = .slice go kk cg
  | 8 => RowOk W v (HD.kp (BK.none' goG gs) a)
  | 9 => RowOk W v (HD.kp (BK.none' goG gs) a)
  | _ => True

theorem T15.below {a : List Sr} {gs : List Gn} {vA vG : Value} {go : Option Addr} {cg kk : Nat} {L L' : Nat → Bool} {W W' : World} (k : Below W.heap.size W W') : ∀ {i : Nat} {v : Value}, T15 a gs vA vG go cg kk L i W v → T15 a gs vA vG go cg kk L' i W' v
  | 0, _, h => h
  | 1, _, h => h
  | 2, _, h => h
  | 3, _, h => h
  | 4, _, h => RowOk.below h k
  | 5, _, h => h
  | 6, _, h => h
  | 7, _, h => h
  | 8, _, h => RowOk.below h k
  | 9, _, h => RowOk.below h k
  | _ + 10, _, _ => trivial

theorem gask_drop {gs : List Gn} (h : GAsk gs) (k : Nat) : GAsk (gs.drop k) := fun i hi => by
  rw [List.length_drop] at hi
  have hat : atG (gs.drop k) i = atG gs (k + i) := by
    unfold atG
    rw [List.getD_eq_getElem?_getD, List.getD_eq_getElem?_getD, List.getElem?_drop]
  rw [hat]
  exact h (k + i) (by omega)

theorem gask_take {gs : List Gn} (h : GAsk gs) (k : Nat) : GAsk (gs.take k) := fun i hi => by
  rw [List.length_take] at hi
  have hat : atG (gs.take k) i = atG gs i := by
    unfold atG
    rw [List.getD_eq_getElem?_getD, List.getD_eq_getElem?_getD, List.getElem?_take, if_pos (by omega)]
  rw [hat]
  exact h i (by omega)

set_option maxRecDepth 100000 in
set_option maxHeartbeats 6400000 in
theorem bsame_any (ao bo go : Option Addr) (a b : List Sr) (gs : List Gn) (ca cb cg : Nat) (at' : Int) (w : World) (hA : RowOk w (.slice ao a.length ca) a) (hB : RowOk w (.slice bo b.length cb) b) (hG : GOk w (.slice go gs.length cg) gs) (hcg : cg ≤ 9223372036854775807) (hRa : ∀ i, i < a.length → ∀ x ∈ (atSr a i).2, CL.Rs x) (hRb : ∀ i, i < b.length → ∀ x ∈ (atSr b i).2, CL.Rs x) (hC : BlkCalls w) :
    Calls Tryd.prog 4 #[.slice ao a.length ca, .slice bo b.length cb, .slice go gs.length cg, .int .i64 at'] w fun e w' => e = .returned (.bool true) ∧ Below w.heap.size w w' := by
  have HA := hid hA
  have HB := hid hB
  have HG := hid hG
  have HRa := hid hRa
  have HRb := hid hRb
  have HC := hid hC
  have hAr : SrRow w ao a := by
    obtain ⟨x, y, e, h, _⟩ := hA
    simp only [Value.slice.injEq, true_and] at e
    rw [e.1]; exact h
  have hBr : SrRow w bo b := by
    obtain ⟨x, y, e, h, _⟩ := hB
    simp only [Value.slice.injEq, true_and] at e
    rw [e.1]; exact h
  have hGr : GRow w go gs ∧ gs.length ≤ cg ∧ (go = none → cg = 0) := by
    obtain ⟨x, y, e, h⟩ := hG
    simp only [Value.slice.injEq, true_and] at e
    rw [e.1, e.2]; exact h
  have HAr := hid hAr
  have HBr := hid hBr
  have HGr := hid hGr
  clear hA hB hG hRa hRb hC hAr hBr hGr
  go_enter Tryd.func4, Tryd.ntmps4
  go_wp2_with fail
  refine (shS_any ao a ca w HAr.out).mono ?_
  rintro e w1 ⟨rfl, rfl⟩
  rcases hsa : shS a with _ | _
  · go_wp2_with fail
    go_ret
    exact ⟨rfl, Below.refl _ _⟩
  · obtain ⟨ha20, hal⟩ := kshS_lim hsa
    have HAl := hid hal
    clear hsa hal
    go_wp2_with fail
    refine (shS_any bo b cb w1 HBr.out).mono ?_
    rintro e w2 ⟨rfl, rfl⟩
    rcases hsb : shS b with _ | _
    · go_wp2_with fail
      go_ret
      exact ⟨rfl, Below.refl _ _⟩
    · obtain ⟨hb20, hbl⟩ := kshS_lim hsb
      have HBl := hid hbl
      clear hsb hbl
      by_cases hlong : 8 < gs.length
      · have hl' : (8 : Int) < (gs.length : Int) := by omega
        go_wp2_with fail
        go_ret
        exact ⟨rfl, Below.refl _ _⟩
      · have hl' : ¬ (8 : Int) < (gs.length : Int) := by omega
        go_wp2_with fail
        refine (blocked_any w2 w2 (Below.refl _ _) HC.out).mono ?_
        rintro e w3 ⟨rfl, hb3⟩
        have hb0 : Below w3.heap.size w3 ((w3.alloc (.cells #[.int .i64 1099511627776, .int .i64 0, .slice ao a.length ca] 48)).alloc (.cells #[.int .i64 1099511627776, .int .i64 0, .slice bo b.length cb] 48)) := ((Below.refl _ w3).alloc (Nat.le_refl _) _).alloc (by simp) _
        have hY4 : ((w3.alloc (.cells #[.int .i64 1099511627776, .int .i64 0, .slice ao a.length ca] 48)).alloc (.cells #[.int .i64 1099511627776, .int .i64 0, .slice bo b.length cb] 48)).heap[w3.heap.size + 1]? = some (.cells #[.int .i64 1099511627776, .int .i64 0, .slice bo b.length cb] 48) := by
          have := heap_alloc_new (w3.alloc (.cells #[.int .i64 1099511627776, .int .i64 0, .slice ao a.length ca] 48)) (.cells #[.int .i64 1099511627776, .int .i64 0, .slice bo b.length cb] 48)
          rwa [show (w3.alloc (.cells #[.int .i64 1099511627776, .int .i64 0, .slice ao a.length ca] 48)).heap.size = w3.heap.size + 1 by simp] at this
        have hX4 : ((w3.alloc (.cells #[.int .i64 1099511627776, .int .i64 0, .slice ao a.length ca] 48)).alloc (.cells #[.int .i64 1099511627776, .int .i64 0, .slice bo b.length cb] 48)).heap[w3.heap.size]? = some (.cells #[.int .i64 1099511627776, .int .i64 0, .slice ao a.length ca] 48) := (Below.heap_alloc _ _ _ (by simp)).trans (heap_alloc_new w3 _)
        have HB4 := hid (bel2 hb3 hb0)
        have HX4 := hid hX4
        have HY4 := hid hY4
        clear hb3 hb0 hX4 hY4
        go_wp2_with fail
        generalize (w3.alloc (.cells #[.int .i64 1099511627776, .int .i64 0, .slice ao a.length ca] 48)).alloc (.cells #[.int .i64 1099511627776, .int .i64 0, .slice bo b.length cb] 48) = w4 at HB4 HX4 HY4 ⊢
        generalize w3.heap.size = b9 at HX4 HY4 ⊢
        refine (HC.out.right (.slice ao a.length ca) a 1099511627776 0 w4 HB4.out (HA.out.below HB4.out) (by omega) (fun i hi => ⟨(HAl.out i hi).1, by have := HAl.out i hi; omega, (HAl.out i hi).2.2⟩) HRa.out).mono ?_
        rintro e w5 ⟨rfl, hb5⟩
        have HB5 := hid (bel2 HB4.out hb5)
        have HX5 := hid ((hb5.block _ (heap_lt HX4.out)).trans HX4.out)
        have hY5 := (hb5.block _ (heap_lt HY4.out)).trans HY4.out
        have m0 : w5.cell? ⟨b9 + 1, 0, none⟩ = some (.int .i64 1099511627776) := zcell' _ _ _ _ hY5 0 _ rfl
        have m1 : w5.cell? ⟨b9 + 1, 1, none⟩ = some (.int .i64 0) := zcell' _ _ _ _ hY5 1 _ rfl
        have m2 : w5.cell? ⟨b9 + 1, 2, none⟩ = some (.slice bo b.length cb) := zcell' _ _ _ _ hY5 2 _ rfl
        clear hb5 hY5 HY4 HX4 HB4
        rcases hra : BK.right 1099511627776 0 a with _ | _
        · go_wp2_with fail
          go_ret
          exact ⟨rfl, HB5.out⟩
        · have HGa := hid (right_good hra (by omega) HRa.out)
          have HRta := hid hra
          clear hra
          go_wp2_with fail
          refine (HC.out.right (.slice bo b.length cb) b 1099511627776 0 w5 HB5.out (HB.out.below HB5.out) (by omega) (fun i hi => ⟨(HBl.out i hi).1, by have := HBl.out i hi; omega, (HBl.out i hi).2.2⟩) HRb.out).mono ?_
          rintro e w6 ⟨rfl, hb6⟩
          have HB6 := hid (bel2 HB5.out hb6)
          have HX6 := hid ((hb6.block _ (heap_lt HX5.out)).trans HX5.out)
          clear hb6 HB5 HX5 m0 m1 m2
          rcases hrb : BK.right 1099511627776 0 b with _ | _
          · go_wp2_with fail
            go_ret
            exact ⟨rfl, HB6.out⟩
          · have HGb := hid (right_good hrb (by omega) HRb.out)
            clear hrb
            go_wp2_with fail
            go_loopw [11] (fun ti wr => ∃ k : Nat, k ≤ gs.length ∧ ti = .int .i64 k ∧ Below w2.heap.size w2 wr ∧ wr.heap[b9]? = some (.cells #[.int .i64 1099511627776, .int .i64 0, .slice ao a.length ca] 48) ∧ ∀ i, i < k → (atG gs i).M.length ≤ 20 ∧ LB.asked (atG gs i).M = true) (fun ti _ => gs.length - (intOf ti).toNat)
            case atStart => exact ⟨0, Nat.zero_le _, rfl, HB6.out, HX6.out, fun i hi => by omega⟩
            case round =>
              clear HB6 HX6
              obtain ⟨k, hk, rfl, hbel, hbx, hask⟩ := hrel
              have HBr2 := hid hbel
              have HXr := hid hbx
              have HAsk := hid hask
              clear hbel hbx hask
              by_cases hlt : k < gs.length
              · obtain ⟨gb, goff, hgo, hgs, mo, mc, d0, d1, d2, hM⟩ := HGr.out.1 k hlt
                subst hgo
                have c0 := (HBr2.out.cell (p := ⟨gb, goff + k * 3, none⟩) hgs).trans d0
                have HM := hid hM
                have hAk : ∀ (h1 : (atG gs k).M.length ≤ 20) (h2 : LB.asked (atG gs k).M = true), ∀ i, i < k + 1 → (atG gs i).M.length ≤ 20 ∧ LB.asked (atG gs i).M = true := fun h1 h2 i hi => by
                  by_cases e : i = k
                  · rw [e]; exact ⟨h1, h2⟩
                  · exact HAsk.out i (by omega)
                have HAk := hid hAk
                clear d0 d1 d2 hM hAk
                generalize (atG gs k).M = gM at *
                have hil : 0 ≤ (k : Int) ∧ (k : Int) < (gs.length : Int) := by omega
                go_wp2_with fail
                refine (shM_any mo gM mc wr (HM.out.below HBr2.out)).mono ?_
                rintro e w7 ⟨rfl, rfl⟩
                rcases hsm : shM gM with _ | _
                · go_wp2_with fail
                  go_ret
                  exact ⟨rfl, HBr2.out⟩
                · have hm20 : gM.length ≤ 20 := (of_decide_eq_true hsm).1
                  clear hsm
                  go_wp2_with fail
                  refine (asked_any mo gM mc w7 (HM.out.below HBr2.out) (by omega)).mono ?_
                  rintro e w8 ⟨rfl, hb8⟩
                  have HB8 := hid (HBr2.out.trans (hb8.mono HBr2.out.size))
                  have HX8 := hid ((hb8.block _ (heap_lt HXr.out)).trans HXr.out)
                  clear hb8 c0 HBr2 HXr
                  rcases hak : LB.asked gM with _ | _
                  · go_wp2_with fail
                    go_ret
                    exact ⟨rfl, HB8.out⟩
                  · have HAk2 := hid (HAk.out hm20 hak)
                    clear hak HAk
                    go_wp2_with fail
                    go_roundw
                    case rel => exact ⟨k + 1, by omega, by go_num, HB8.out, HX8.out, HAk2.out⟩
                    case measure => simp [intOf]; omega
              · have he : k = gs.length := by omega
                subst he
                have HAs : Hid (GAsk gs) := HAsk.out
                have hw1 : IntKind.i64.wrap ((gs.length : Int) + 1) = (gs.length : Int) + 1 := by rw [IntKind.wrap_i64]; omega
                have hcast : ((gs.length : Int) + 1) = ((gs.length + 1 : Nat) : Int) := by omega
                have HPk := hid (fun W => pk_any at' (gs.length + 1) W (by omega) (by omega))
                have hpk := DK.pk_lt at' (n := gs.length + 1) (by omega)
                clear HAsk
                generalize DK.pk at' (gs.length + 1) = kk at *
                have HPk2 : Hid (∀ W, Calls Tryd.prog 22 #[.int .i64 at', .int .i64 ((gs.length : Int) + 1)] W fun e w' => e = .returned (.int .i64 kk) ∧ w' = W) := fun W => by
                  have := HPk.out W
                  rwa [← hcast] at this
                clear HPk hcast
                go_wp2_with fail
                refine (HPk2.out wr).mono ?_
                rintro e w8 ⟨rfl, rfl⟩
                clear HPk2 hw1
                go_wp2_with fail
                refine (HC.out.wo (.slice ao a.length ca) (.slice go gs.length cg) a gs w8 HBr2.out (HA.out.below HBr2.out) HGa.out (HG.out.below HBr2.out) (by omega) HAs.out).mono ?_
                rintro e w9 ⟨u9, rfl, hk9, hb9⟩
                obtain ⟨a9, c9, e9, _⟩ := id hk9
                subst e9
                have HB9 := hid (bel2 HBr2.out hb9)
                have HX9 := hid ((hb9.block _ (heap_lt HXr.out)).trans HXr.out)
                have HK9 := hid hk9
                have HG1 := hid (HD.kp_good (p := BK.none' goG gs) HGa.out)
                clear hk9 hb9 HBr2 HXr
                go_upto_region 15 with fail
                refine TL.wp_told [76, 77, 78, 79, 80, 81, 82, 83, 84, 14] (fun _ W => Below w9.heap.size w9 W) (T15 a gs (.slice ao a.length ca) (.slice go gs.length cg) go cg kk) rfl (by kernel_rfl) (by kernel_rfl) 162 rfl (by kernel_rfl) (Below.refl _ w9).drew (TL.ix_cons ?_ (TL.ix_cons ?_ (TL.ix_cons ?_ (TL.ix_cons ?_ (TL.ix_cons ?_ (TL.ix_cons ?_ (TL.ix_cons ?_ (TL.ix_cons ?_ (TL.ix_cons ?_ (TL.ix_cons ?_ TL.ix_nil)))))))))) ?_
                · intro L a0 W hL hbeh hcl hlike hC hdep
                  exact TL.Does.move (u := .slice ao a.length ca) rfl (hlike.keeps 0 (by kernel_rfl)) ⟨hC, rfl, fun j hj _ ht => ht.below (Below.refl _ _)⟩
                · intro L a0 W hL hbeh hcl hlike hC hdep
                  exact TL.Does.move (u := .slice go gs.length cg) rfl (hlike.keeps 2 (by kernel_rfl)) ⟨hC, rfl, fun j hj _ ht => ht.below (Below.refl _ _)⟩
                · intro L a0 W hL hbeh hcl hlike hC hdep
                  exact TL.Does.move (u := .int .i64 kk) rfl (hlike.keeps 12 (by kernel_rfl)) ⟨hC, rfl, fun j hj _ ht => ht.below (Below.refl _ _)⟩
                · intro L a0 W hL hbeh hcl hlike hC hdep
                  exact TL.Does.val (v := .slice (if cg = kk then go else go.map fun x => x.add (kk * 3)) (gs.length - kk) (cg - kk)) (by unfold execOp; simp only [show a0.eval (.tmp 77) = _ from (hdep 1 (by kernel_rfl)).2, show a0.eval (.tmp 78) = _ from (hdep 2 (by kernel_rfl)).2, Option.map_some, Option.map_none]; simp [sl_lo go gs.length cg kk (by omega) HGr.out.2.1 hcg W]) ⟨hC, rfl, fun j hj _ ht => ht.below (Below.refl _ _)⟩
                · intro L a0 W hL hbeh hcl hlike hC hdep
                  have e0 : a0.eval (.tmp 76) = .slice ao a.length ca := (hdep 0 (by kernel_rfl)).2
                  have e3 : a0.eval (.tmp 79) = .slice (if cg = kk then go else go.map fun x => x.add (kk * 3)) (gs.length - kk) (cg - kk) := (hdep 3 (by kernel_rfl)).2
                  refine TL.Does.call (f := 23) (args := #[a0.eval (.tmp 76), a0.eval (.tmp 79)]) (by kernel_rfl) ?_
                  rw [e0, e3]
                  refine (HC.out.wo _ _ a (gs.drop kk) W (bel2 HB9.out hC) (HA.out.below (bel2 HB9.out hC)) HGa.out (GOk.drop (HGr.out.1.below (bel2 HB9.out hC)) HGr.out.2.1 HGr.out.2.2 kk (by omega)) (by rw [List.length_drop]; omega) (gask_drop HAs.out kk)).mono ?_
                  rintro e W' ⟨u, rfl, hk, hb⟩
                  exact ⟨_, rfl, bel2 hC hb, hk, fun j hj _ ht => ht.below hb⟩
                · intro L a0 W hL hbeh hcl hlike hC hdep
                  exact TL.Does.move (u := .slice go gs.length cg) rfl (hlike.keeps 2 (by kernel_rfl)) ⟨hC, rfl, fun j hj _ ht => ht.below (Below.refl _ _)⟩
                · intro L a0 W hL hbeh hcl hlike hC hdep
                  exact TL.Does.move (u := .int .i64 kk) rfl (hlike.keeps 12 (by kernel_rfl)) ⟨hC, rfl, fun j hj _ ht => ht.below (Below.refl _ _)⟩
                · intro L a0 W hL hbeh hcl hlike hC hdep
                  exact TL.Does.val (v := .slice go kk cg) (by unfold execOp; simp only [show a0.eval (.tmp 81) = _ from (hdep 5 (by kernel_rfl)).2, show a0.eval (.tmp 82) = _ from (hdep 6 (by kernel_rfl)).2, Option.map_some, Option.map_none]; simp [sl_hi go gs.length cg kk (by omega) HGr.out.2.1 W]) ⟨hC, rfl, fun j hj _ ht => ht.below (Below.refl _ _)⟩
                · intro L a0 W hL hbeh hcl hlike hC hdep
                  have hk4 := (hdep 4 (by kernel_rfl)).2
                  obtain ⟨a4, c4, e4, _⟩ := id hk4
                  have e4' : a0.eval (.tmp 80) = .slice a4 (HD.kp (BK.none' goG (gs.drop kk)) a).length c4 := e4
                  have e7 : a0.eval (.tmp 83) = .slice go kk cg := (hdep 7 (by kernel_rfl)).2
                  refine TL.Does.call (f := 23) (args := #[a0.eval (.tmp 80), a0.eval (.tmp 83)]) (by kernel_rfl) ?_
                  rw [e4', e7]
                  rw [e4] at hk4
                  refine (HC.out.wo _ _ (HD.kp (BK.none' goG (gs.drop kk)) a) (gs.take kk) W (bel2 HB9.out hC) hk4 (HD.kp_good HGa.out) (GOk.take (HGr.out.1.below (bel2 HB9.out hC)) HGr.out.2.1 HGr.out.2.2 kk (by omega)) (by rw [List.length_take]; omega) (gask_take HAs.out kk)).mono ?_
                  rintro e W' ⟨u, rfl, hk, hb⟩
                  rw [BK.kp_split] at hk
                  exact ⟨_, rfl, bel2 hC hb, hk, fun j hj _ ht => ht.below hb⟩
                · intro L a0 W hL hbeh hcl hlike hC hdep
                  have hk8 := (hdep 8 (by kernel_rfl)).2
                  exact TL.Does.val (v := a0.eval (.tmp 84)) (by kernel_rfl) ⟨hC, hk8, fun j hj _ ht => ht.below (Below.refl _ _)⟩
                · intro L f W hL hW hT
                  have hk14 : RowOk W (f 14) (HD.kp (BK.none' goG gs) a) := hT 9 (by decide)
                  obtain ⟨a14, c14, e14, hr14, _⟩ := hk14
                  have HBW := hid (bel2 HB9.out hW)
                  have HXW := hid ((hW.block _ (heap_lt HX9.out)).trans HX9.out)
                  have HKW := hid (HK9.out.below hW)
                  have HR14 := hid hr14
                  have HSp := hid (BK.kp_twice (BK.none' goG gs) a)
                  have HJn := hid (BK.kp_jn (BK.none' goG gs) HGa.out HGb.out)
                  have HGB := hid (HD.kp_good (p := BK.none' goG gs) HGb.out)
                  have HSf := hid (BK.jn_self a (fun x hx => CL.rising_of_right _ (HGa.out.ok x hx).2.1))
                  have HJg := hid (jn_good HGa.out HGb.out (by omega) (fun u hu v hv => by
                    obtain ⟨i, hi, rfl⟩ := HD.mem_at hu
                    obtain ⟨j, hj, rfl⟩ := HD.mem_at hv
                    have h1 := HAl.out i hi
                    have h2 := HBl.out j hj
                    omega))
                  have HWo : Hid (∀ (v : Value) (S : List Sr) (W : World), Below w2.heap.size w2 W → RowOk W v S → HD.Good S → Calls Tryd.prog 23 #[v, .slice go gs.length cg] W fun e w' => ∃ u, e = .returned u ∧ RowOk w' u (HD.kp (BK.none' goG gs) S) ∧ Below W.heap.size W w') := fun v S W h1 h2 h3 => HC.out.wo v (.slice go gs.length cg) S gs W h1 h2 h3 (HG.out.below h1) (by omega) HAs.out
                  clear hT hL hr14 HX9 HB9 HK9 hW
                  simp only [TL.puts]
                  rw [e14]
                  go_frame
                  generalize f 76 = g76
                  generalize f 77 = g77
                  generalize f 78 = g78
                  generalize f 79 = g79
                  generalize f 80 = g80
                  generalize f 81 = g81
                  generalize f 82 = g82
                  generalize f 83 = g83
                  generalize f 84 = g84
                  clear e14
                  generalize BK.none' goG gs = pp at *
                  obtain ⟨aL, cL, eL, hrL, _⟩ := id HKW.out
                  simp only [Value.slice.injEq, true_and] at eL
                  obtain ⟨eL1, eL2⟩ := eL
                  subst eL1 eL2
                  have HRL := hid hrL
                  clear hrL
                  have HSm := hid (sameSrK_any a9 a14 (HD.kp pp a) c9 c14 W HRL.out HR14.out (good_fewB HG1.out))
                  go_wp2_with fail
                  refine HSm.out.mono ?_
                  rintro e wA ⟨rfl, hbA⟩
                  have HBA := hid (bel2 HBW.out hbA)
                  have HXA := hid ((hbA.block _ (heap_lt HXW.out)).trans HXW.out)
                  have HKA := hid (HKW.out.below hbA)
                  have HRA := hid (HRL.out.below hbA)
                  clear hbA HSm HBW HXW HKW HRL HR14
                  go_wp2_with fail
                  refine (HWo.out _ (HD.kp pp a) wA HBA.out HKA.out HG1.out).mono ?_
                  rintro e wB ⟨uB, rfl, hkB, hbB⟩
                  rw [HSp.out] at hkB
                  obtain ⟨aB, cB, eB, hrB, _⟩ := hkB
                  subst eB
                  have HBB := hid (bel2 HBA.out hbB)
                  have HXB := hid ((hbB.block _ (heap_lt HXA.out)).trans HXA.out)
                  have HKB := hid (HKA.out.below hbB)
                  have HSm := hid (sameSrK_any aB a9 (HD.kp pp a) cB c9 wB hrB (HRA.out.below hbB) (good_fewB HG1.out))
                  clear hrB hbB HBA HXA HKA HRA
                  go_wp2_with fail
                  refine HSm.out.mono ?_
                  rintro e wC ⟨rfl, hbC⟩
                  have HBC := hid (bel2 HBB.out hbC)
                  have HXC := hid ((hbC.block _ (heap_lt HXB.out)).trans HXB.out)
                  have HKC := hid (HKB.out.below hbC)
                  clear hbC HSm HBB HXB HKB
                  go_wp2_with fail
                  refine (HC.out.me _ _ a a wC HBC.out (HA.out.below HBC.out) (HA.out.below HBC.out) HGa.out HGa.out).mono ?_
                  rintro e wD ⟨uD, rfl, hkD, hbD⟩
                  rw [HSf.out] at hkD
                  obtain ⟨aD, cD, eD, hrD, _⟩ := hkD
                  subst eD
                  have HBD := hid (bel2 HBC.out hbD)
                  have HXD := hid ((hbD.block _ (heap_lt HXC.out)).trans HXC.out)
                  have HKD := hid (HKC.out.below hbD)
                  have HSm := hid (sameSrK_any aD ao a cD ca wD hrD (HAr.out.below HBD.out) (good_fewB HGa.out))
                  clear hrD hbD HBC HXC HKC
                  go_wp2_with fail
                  refine HSm.out.mono ?_
                  rintro e wE ⟨rfl, hbE⟩
                  have HBE := hid (bel2 HBD.out hbE)
                  have HXE := hid ((hbE.block _ (heap_lt HXD.out)).trans HXD.out)
                  have HKE := hid (HKD.out.below hbE)
                  clear hbE HSm HBD HXD HKD
                  go_wp2_with fail
                  refine (HC.out.me _ (.slice none 0 0) a [] wE HBE.out (HA.out.below HBE.out) ⟨none, 0, rfl, fun i hi => by simp at hi, fun i hi => by simp at hi, Nat.le_refl _, fun _ => rfl⟩ HGa.out HD.Good.nil).mono ?_
                  rintro e wF ⟨uF, rfl, hkF, hbF⟩
                  rw [HD.jn_nil] at hkF
                  obtain ⟨aF, cF, eF, hrF, _⟩ := hkF
                  subst eF
                  have HBF := hid (bel2 HBE.out hbF)
                  have HXF := hid ((hbF.block _ (heap_lt HXE.out)).trans HXE.out)
                  have HKF := hid (HKE.out.below hbF)
                  have HSm := hid (sameSrK_any aF ao a cF ca wF hrF (HAr.out.below HBF.out) (good_fewB HGa.out))
                  clear hrF hbF HBE HXE HKE
                  go_wp2_with fail
                  refine HSm.out.mono ?_
                  rintro e wG ⟨rfl, hbG⟩
                  have HBG := hid (bel2 HBF.out hbG)
                  have HXG := hid ((hbG.block _ (heap_lt HXF.out)).trans HXF.out)
                  have HKG := hid (HKF.out.below hbG)
                  clear hbG HSm HBF HXF HKF
                  go_wp2_with fail
                  refine (HC.out.me _ _ a b wG HBG.out (HA.out.below HBG.out) (HB.out.below HBG.out) HGa.out HGb.out).mono ?_
                  rintro e wH ⟨uH, rfl, hkH, hbH⟩
                  obtain ⟨aH, cH, eH, _⟩ := id hkH
                  subst eH
                  have HBH := hid (bel2 HBG.out hbH)
                  have HXH := hid ((hbH.block _ (heap_lt HXG.out)).trans HXG.out)
                  have HKH := hid (HKG.out.below hbH)
                  have HJH := hid hkH
                  clear hkH hbH HBG HXG HKG
                  go_wp2_with fail
                  refine (HWo.out _ (HD.jn a b) wH HBH.out HJH.out HJg.out).mono ?_
                  rintro e wI ⟨uI, rfl, hkI, hbI⟩
                  obtain ⟨aI, cI, eI, hrI, _⟩ := hkI
                  subst eI
                  have HBI := hid (bel2 HBH.out hbI)
                  have HXI := hid ((hbI.block _ (heap_lt HXH.out)).trans HXH.out)
                  have HKI := hid (HKH.out.below hbI)
                  have HRI := hid hrI
                  clear hrI hbI HBH HXH HKH HJH
                  go_wp2_with fail
                  refine (HWo.out _ b wI HBI.out (HB.out.below HBI.out) HGb.out).mono ?_
                  rintro e wJ ⟨uJ, rfl, hkJ, hbJ⟩
                  obtain ⟨aJ, cJ, eJ, _⟩ := id hkJ
                  subst eJ
                  have HBJ := hid (bel2 HBI.out hbJ)
                  have HXJ := hid ((hbJ.block _ (heap_lt HXI.out)).trans HXI.out)
                  have HKJ := hid (HKI.out.below hbJ)
                  have HRJ := hid (HRI.out.below hbJ)
                  have HMJ := hid hkJ
                  clear hkJ hbJ HBI HXI HKI HRI
                  go_wp2_with fail
                  refine (HC.out.me _ _ (HD.kp pp a) (HD.kp pp b) wJ HBJ.out HKJ.out HMJ.out HG1.out HGB.out).mono ?_
                  rintro e wK ⟨uK, rfl, hkK, hbK⟩
                  rw [← HJn.out] at hkK
                  obtain ⟨aK, cK, eK, hrK, _⟩ := hkK
                  subst eK
                  have HBK := hid (bel2 HBJ.out hbK)
                  have HXK := hid ((hbK.block _ (heap_lt HXJ.out)).trans HXJ.out)
                  have HSm := hid (sameSrK_any aI aK (HD.kp pp (HD.jn a b)) cI cK wK (HRJ.out.below hbK) hrK (good_fewB (HD.kp_good HJg.out)))
                  clear hrK hbK HBJ HXJ HKJ HRJ HMJ
                  go_wp2_with fail
                  refine HSm.out.mono ?_
                  rintro e wL ⟨rfl, hbL⟩
                  have HBL := hid (bel2 HBK.out hbL)
                  have hXL := (hbL.block _ (heap_lt HXK.out)).trans HXK.out
                  have HXL := hid hXL
                  have n0 : wL.cell? ⟨b9, 0, none⟩ = some (.int .i64 1099511627776) := zcell' _ _ _ _ hXL 0 _ rfl
                  have n1 : wL.cell? ⟨b9, 1, none⟩ = some (.int .i64 0) := zcell' _ _ _ _ hXL 1 _ rfl
                  have n2 : wL.cell? ⟨b9, 2, none⟩ = some (.slice ao a.length ca) := zcell' _ _ _ _ hXL 2 _ rfl
                  clear hbL HSm HBK HXK hXL HWo HJn HSp HSf HJg HGB HG1
                  go_wp2_with fail
                  refine (HC.out.wr _ a 1099511627776 0 wL HBL.out (HA.out.below HBL.out) HRta.out HGa.out (by omega) (by omega) (by omega)).mono ?_
                  rintro e wM ⟨s, rfl, hbM, hrd⟩
                  have HBM := hid (bel2 HBL.out hbM)
                  have HXM := hid ((hbM.block _ (heap_lt HXL.out)).trans HXL.out)
                  have HRd := hid hrd
                  clear hbM hrd HBL HXL n0 n1 n2
                  go_wp2_with fail
                  refine (HRd.out wM HBM.out).mono ?_
                  rintro e wN ⟨uN, rfl, hkN, hbN⟩
                  obtain ⟨aN, cN, eN, hrN, _⟩ := hkN
                  subst eN
                  have halN : Below wN.heap.size wN (wN.alloc (.cells #[.int .i64 1099511627776, .int .i64 0, .slice aN a.length cN] 48)) := (Below.refl _ wN).alloc (Nat.le_refl _) _
                  have HBN := hid (bel2 (bel2 HBM.out hbN) halN)
                  have hYN := heap_alloc_new wN (.cells #[.int .i64 1099511627776, .int .i64 0, .slice aN a.length cN] 48)
                  have hXN := (halN.block _ (Nat.lt_of_lt_of_le (heap_lt HXM.out) hbN.size)).trans ((hbN.block _ (heap_lt HXM.out)).trans HXM.out)
                  have y0 := zcell' _ _ _ _ hYN 0 _ rfl
                  have y2 := zcell' _ _ _ _ hYN 2 _ rfl
                  have x0 := zcell' _ _ _ _ hXN 0 _ rfl
                  have HSm := hid (sameSrK_any aN ao a cN ca _ (hrN.below halN) (HAr.out.below HBN.out) (good_fewB HGa.out))
                  clear hrN hbN halN hYN hXN HBM HXM HRd
                  go_wp2_with fail
                  refine HSm.out.mono ?_
                  rintro e wO ⟨rfl, hbO⟩
                  have HBO := hid (bel2 HBN.out hbO)
                  clear hbO HSm HBN
                  go_wp2_with fail
                  go_ret
                  exact ⟨rfl, HBO.out⟩

end Go.Proofs.YtdmnlmohfaafoaeDoor

