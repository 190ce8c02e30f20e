/- IndexFinds: which series are as matchers ask, and all that they say, is the document's. -/
import Derived.Test.YtdmnlmohfaafoacGreatDoorIxFindN
import Derived.Test.YtdmnlmohfaafoacGreatDoorIxMid
namespace Go.Proofs.YtdmnlmohfaafoacGreatDoor
open Go.RowKit

/-- The cells of the first k series. -/
def SeL (w : World) (L : List (List LB.Lab)) (k : Nat) (xs : List Value) : Prop :=
  xs.length = k * 2 ∧ ∀ i, i < k → ∃ ai ci, xs[i * 2]? = some (.slice ai (IX.atS L i).length ci) ∧ xs[i * 2 + 1]? = some (.slice none 0 0) ∧ LRow w ai (IX.atS L i)

theorem SeL.snoc {w : World} {L : List (List LB.Lab)} {k : Nat} {xs : List Value} (h : SeL w L k xs) {ai : Option Addr} {ci : Nat} (hr : LRow w ai (IX.atS L k)) : SeL w L (k + 1) (xs ++ [.slice ai (IX.atS L k).length ci, .slice none 0 0]) := by
  refine ⟨by rw [List.length_append, h.1]; simp; omega, fun i hi => ?_⟩
  by_cases e : i = k
  · subst e
    refine ⟨ai, ci, ?_, ?_, hr⟩
    · rw [List.getElem?_append_right (by rw [h.1]; exact Nat.le_refl _), h.1, Nat.sub_self]; rfl
    · rw [List.getElem?_append_right (by rw [h.1]; omega), h.1, show i * 2 + 1 - i * 2 = 1 by omega]; rfl
  · obtain ⟨a1, c1, h1, h2, h3⟩ := h.2 i (by omega)
    refine ⟨a1, c1, ?_, ?_, h3⟩
    · rw [List.getElem?_append_left (by rw [h.1]; omega)]; exact h1
    · rw [List.getElem?_append_left (by rw [h.1]; omega)]; exact h2

theorem SeRow.of_own {w wr : World} {base : Nat} {v : Value} {L : List (List LB.Lab)} {xs : List Value} (h : wr.ownsRow base 33 2 v L.length xs) (hx : SeL w L L.length xs) (hb : Below w.heap.size w wr) : ∃ ao cap, v = .slice ao L.length cap ∧ SeRow wr ao L := by
  have hlt := h.lt
  have h0 := h
  obtain ⟨h1, h2⟩ := h
  rcases h2 with ⟨rfl, hn⟩ | ⟨g, cap, cur, rfl, hg, hh, r⟩
  · refine ⟨none, 0, by rw [hn], fun i hi => by omega⟩
  · refine ⟨some ⟨g, 0, none⟩, cap, rfl, fun i hi => ?_⟩
    obtain ⟨a1, c1, e1, e2, e3⟩ := hx.2 i hi
    refine ⟨g, 0, a1, c1, rfl, ?_, ?_, e3.below hb, (hlt g rfl).2⟩
    · rw [Nat.zero_add, h0.cellAt (i * 2) (by omega)]; exact e1
    · rw [Nat.zero_add, h0.cellAt (i * 2 + 1) (by omega)]; exact e2

theorem Tryz.infoSe : (Tryz.prog.info? 33).map (fun i => (i.zero, i.size, i.bytes)) = some (some (.agg #[.slice none 0 0, .slice none 0 0]), 2, 48) := by kernel_rfl

theorem two_newsV (w : World) (n : Nat) (hn : n = w.heap.size) (a b : Value) (T : TypeId) : ∀ j u, [a, b][j]? = some u → (w.alloc (.cells #[a, b] T)).cell? ((⟨n, 0, none⟩ : Addr).add j) = some u := by
  subst hn
  intro j u hj
  match j, hj with
  | 0, hj => simp at hj; subst hj; simp [Addr.add]
  | 1, hj => simp at hj; subst hj; simp [Addr.add]

theorem two_slc (a b : Option Addr) (n c n' c' : Nat) : ∀ u ∈ [Value.slice a n c, Value.slice b n' c'], u.oneCell' = true := by
  intro u hu
  simp at hu
  rcases hu with rfl | rfl <;> rfl

abbrev boxF (fe fp : Int) : Obj := .cells #[.int .i64 fe, .int .i64 fp] 27

/-- The box, written anew. -/
theorem box_set {w : World} {b : Nat} {fe fp : Int} (h : w.heap[b]? = some (boxF fe fp)) (x y : Int) : ((w.setCell ⟨b, 0, none⟩ (.int .i64 x)).setCell ⟨b, 1, none⟩ (.int .i64 y)).heap[b]? = some (boxF x y) := by
  have h1 := heap_setCell_same w b 0 #[.int .i64 fe, .int .i64 fp] 27 (.int .i64 x) h
  have h2 := heap_setCell_same (w.setCell ⟨b, 0, none⟩ (.int .i64 x)) b 1 _ 27 (.int .i64 y) h1
  simpa using h2

theorem box_grown (w : World) (b : Nat) (x y : Int) : w.grownBy ((w.setCell ⟨b, 0, none⟩ (.int .i64 x)).setCell ⟨b, 1, none⟩ (.int .i64 y)) (some b) :=
  ⟨rfl, rfl, rfl, by simp, fun k _ hk => (Below.heap_setCell _ ⟨b, 1, none⟩ _ k (fun e => hk (by rw [e]))).trans (Below.heap_setCell _ ⟨b, 0, none⟩ _ k (fun e => hk (by rw [e])))⟩

abbrev FineT (w : World) : Prop := w.cell? ⟨0, 0, none⟩ = some (.int .i64 0) ∧ w.cell? ⟨0, 1, none⟩ = some (.int .i64 (-1))

set_option maxRecDepth 100000 in
set_option maxHeartbeats 3200000 in
theorem finds_any (ao mo : Option Addr) (L : List (List LB.Lab)) (m : List LB.Mat) (cl cm : Nat) (nm : ByteArray) (w : World) (hL : LLRow w ao L) (hM : MRow w mo m) (hnm : nm.size ≤ maxLen) (hE : ErrT w) (hFi : FineT w) :
    Calls Tryz.prog 3 #[.slice ao L.length cl, .slice mo m.length cm, .string nm] w fun e w' => e = .returned (.bool true) ∧ Below w.heap.size w w' := by
  have HL := hid hL
  have HM := hid hM
  have HE := hid hE
  have HFi := hid hFi
  have H2 := hid (shM_any mo m cm w hM)
  have hGl : 0 < w.heap.size := World.block_lt_of_cell? _ _ hFi.1
  have hgc0 := hFi.1
  have hgc1 := hFi.2
  clear hL hM hE hFi
  obtain ⟨ii, hii, hi'⟩ := Option.map_eq_some_iff.1 Tryz.infoSe
  simp only [Prod.mk.injEq] at hi'
  obtain ⟨hz0, hz1, hz2⟩ := hi'
  have HI0 := hid hii
  have HZ0 := hid hz0
  have HZ1 := hid hz1
  have HZ2 := hid hz2
  clear hii hz0 hz1 hz2
  go_enter Tryz.func3, Tryz.ntmps3
  by_cases h30 : L.length ≤ 30
  case neg =>
    have h30' : (30 : Int) < (L.length : Int) := by omega
    go_wp2_with fail
    go_ret
    exact ⟨rfl, Below.refl _ _⟩
  have h30' : ¬ (30 : Int) < (L.length : Int) := by omega
  go_wp2_with fail
  refine H2.out.mono ?_
  rintro e w1 ⟨rfl, rfl⟩
  cases h2 : shM m with
  | false =>
    go_wp2_with fail
    go_ret
    exact ⟨rfl, Below.refl _ _⟩
  | true =>
    have HSm := hid (shM_facts h2)
    clear h2 H2
    have hX0 : Hid ((w1.alloc (boxF 0 (-1))).heap[w1.heap.size]? = some (boxF 0 (-1))) := heap_alloc_new w1 _
    have HB0 := hid ((Below.refl w1.heap.size w1).alloc (Nat.le_refl _) (boxF 0 (-1)))
    have hs0 : w1.heap.size + 1 ≤ (w1.alloc (boxF 0 (-1))).heap.size := by simp
    go_wp2_with fail
    go_loopw [8, 9] (fun t8 ti wr => ∃ (k : Nat) (fe fp : Int) (xs : List Value), k ≤ L.length ∧ ti = .int .i64 k ∧ wr.ownsRow (w1.heap.size + 1) 33 2 t8 k xs ∧ SeL w1 L k xs ∧ wr.heap[w1.heap.size]? = some (boxF fe fp) ∧ Fst L k fe fp ∧ (∀ j, j < k → (IX.atS L j).length ≤ 20 ∧ Shrt (IX.atS L j)) ∧ Below w1.heap.size w1 wr ∧ w1.heap.size + 1 ≤ wr.heap.size) (fun _ ti _ => L.length - (intOf ti).toNat)
    case atStart => exact ⟨0, 0, -1, [], Nat.zero_le _, rfl, World.ownsRow_nil _ _ _ _, ⟨rfl, by omega⟩, hX0.out, Fst.start L, by omega, HB0.out, hs0⟩
    case round =>
      obtain ⟨k, fe, fp, xs, hk, rfl, hown, hse, hX, hF, hsh, hbel, hws⟩ := hrel
      have HO := hid hown
      have HSe := hid hse
      have HX := hid hX
      have HF := hid hF
      have HSh := hid hsh
      have HBl := hid hbel
      have hsz := hbel.size
      clear hown hse hX hF hsh hbel hX0 HB0 hs0
      by_cases hlt : k < L.length
      · obtain ⟨b, off, ai, ci, hao, hc, hrow, hbs⟩ := HL.out k hlt
        subst hao
        have hcell := (HBl.out.cell (p := ⟨b, off + k, none⟩) hbs).trans hc
        have HLr := hid hrow
        have HS := hid (shL_any ai (IX.atS L k) ci wr (hrow.below HBl.out))
        clear hc hrow
        go_wp2_with fail
        refine HS.out.mono ?_
        rintro e w2 ⟨rfl, rfl⟩
        cases hs : shL (IX.atS L k) with
        | false =>
          go_wp2_with fail
          go_ret
          exact ⟨rfl, HBl.out⟩
        | true =>
          have HSk := hid (shL_facts hs)
          clear hs HS
          have hg0 := (HBl.out.cell (p := ⟨0, 0, none⟩) hGl).trans hgc0
          have hg1 := (HBl.out.cell (p := ⟨0, 1, none⟩) hGl).trans hgc1
          have hx0 : w2.cell? ⟨w1.heap.size, 0, none⟩ = some (.int .i64 fe) := by simp only [World.cell?, HX.out]; rfl
          have hx1 : w2.cell? ⟨w1.heap.size, 1, none⟩ = some (.int .i64 fp) := by simp only [World.cell?, HX.out]; rfl
          have heg := egF .eql
          by_cases hfine : fe = 0 ∧ fp = -1
          · obtain ⟨rfl, rfl⟩ := hfine
            have heq : ∀ w, (binOp .eql 27 (.agg #[.int .i64 0, .int .i64 (-1)]) (.agg #[.int .i64 0, .int .i64 (-1)])).run Tryz.prog w = .ok (.bool true) w := fun w => by rw [eqF]; rfl
            have HRl := hid (rlabels_any ai (IX.atS L k) ci w2 (HLr.out.below HBl.out) (by have := HSk.out.1; omega) HSk.out.2)
            go_wp2_with fail
            refine HRl.out.mono ?_
            rintro e w5 ⟨rfl, hb5⟩
            have HX5 : Hid (w5.heap[w1.heap.size]? = some (boxF 0 (-1))) := (hb5.block _ (heap_lt HX.out)).trans HX.out
            have hfr0 : w5.frozen? ⟨w1.heap.size, 0, none⟩ = false := by simp [World.frozen?, HX5.out]
            have hfr1 : w5.frozen? ⟨w1.heap.size, 1, none⟩ = false := by simp [World.frozen?, HX5.out]
            have hy0 : w5.cell? ⟨w1.heap.size, 0, none⟩ = some (.int .i64 0) := by simp only [World.cell?, HX5.out]; rfl
            have hy1 : w5.cell? ⟨w1.heap.size, 1, none⟩ = some (.int .i64 (-1)) := by simp only [World.cell?, HX5.out]; rfl
            have hws5 : w1.heap.size + 1 ≤ w5.heap.size := Nat.le_trans hws hb5.size
            have hcell5 : w5.cell? ⟨b, off + k, none⟩ = some (.slice ai (IX.atS L k).length ci) := (hb5.cell (p := ⟨b, off + k, none⟩) (by show b < w2.heap.size; omega)).trans hcell
            have HO5 := hid (own_below HO.out hb5)
            have HB5 := hid (HBl.out.trans (hb5.mono hsz))
            clear hb5 HRl HO HBl HX hcell hx0 hx1 hg0 hg1
            cases hr : LB.right (IX.atS L k) with
            | false =>
              have HF2 := hid (HF.out.bad hr)
              have HX6 := hid (box_set HX5.out 1 k)
              have HG6 := hid (box_grown w5 w1.heap.size 1 k)
              have HO6 := hid (HO5.out.kept HG6.out (.inr (rowN_far HO5.out (by omega))))
              have HB6 := hid (HB5.out.grown HG6.out (by omega) (fun j hj => by cases hj; exact Nat.le_refl _))
              have hcell6 : ((w5.setCell ⟨w1.heap.size, 0, none⟩ (.int .i64 1)).setCell ⟨w1.heap.size, 1, none⟩ (.int .i64 k)).cell? ⟨b, off + k, none⟩ = some (.slice ai (IX.atS L k).length ci) := (World.cell?_of_block (a := ⟨b, off + k, none⟩) (HG6.out.block b (by omega) (fun e => by have := Option.some.inj e; omega))).trans hcell5
              clear hr
              go_wp2_with (at_builtin; refine wpList_append_own _ rfl (.tmp 51) (.tmp 57) 28 rfl (w1.heap.size + 1) 33 ii (.agg #[.slice none 0 0, .slice none 0 0]) 2 48 Tryz.underlying28 HI0.out HZ0.out HZ1.out HZ2.out rfl (by decide) u8 k xs rfl (HO6.out.alloc _) ⟨w5.heap.size, 0, none⟩ 1 1 [.slice ai (IX.atS L k).length ci, .slice none 0 0] rfl rfl (two_newsV ((w5.setCell ⟨w1.heap.size, 0, none⟩ (.int .i64 1)).setCell ⟨w1.heap.size, 1, none⟩ (.int .i64 k)) _ (by simp) _ _ _) (two_slc _ _ _ _ _ _) (by unfold maxLen; omega) (by omega) (by simp; omega) ?_)
              intro v7 w7 hown7 hgrow7 _
              have HO7 := hid hown7
              have HB7 := hid ((HB6.out.alloc HB6.out.size (.cells #[.slice ai (IX.atS L k).length ci, .slice none 0 0] 33)).grown hgrow7 (by simp; omega) (fun j hj => by have := (HO6.out.lt j hj).1; omega))
              have HX7 := hid ((hgrow7.block w1.heap.size (by simp; omega) (fun e => rowN_far HO6.out (by omega) e.symm)).trans ((Below.heap_alloc ((w5.setCell ⟨w1.heap.size, 0, none⟩ (.int .i64 1)).setCell ⟨w1.heap.size, 1, none⟩ (.int .i64 k)) _ _ (heap_lt HX6.out)).trans HX6.out))
              have hws7 : w1.heap.size + 1 ≤ w7.heap.size := by have := hgrow7.size; simp at this; omega
              clear hown7 hgrow7
              go_wp2_with fail
              go_roundw
              case rel => exact ⟨k + 1, _, _, _, by omega, by go_num, HO7.out, HSe.out.snoc (ci := ci) HLr.out, HX7.out, HF2.out, fun j hj => by (by_cases e : j = k; (rw [e]; exact HSk.out); exact HSh.out j (by omega)), HB7.out, hws7⟩
              case measure => simp [intOf]; omega
            | true =>
              have HF2 := hid (HF.out.ok hr)
              clear hr
              go_wp2_with (at_builtin; refine wpList_append_own _ rfl (.tmp 51) (.tmp 57) 28 rfl (w1.heap.size + 1) 33 ii (.agg #[.slice none 0 0, .slice none 0 0]) 2 48 Tryz.underlying28 HI0.out HZ0.out HZ1.out HZ2.out rfl (by decide) u8 k xs rfl (HO5.out.alloc _) ⟨w5.heap.size, 0, none⟩ 1 1 [.slice ai (IX.atS L k).length ci, .slice none 0 0] rfl rfl (two_newsV w5 _ (by simp) _ _ _) (two_slc _ _ _ _ _ _) (by unfold maxLen; omega) (by omega) (by simp; omega) ?_)
              intro v7 w7 hown7 hgrow7 _
              have HO7 := hid hown7
              have HB7 := hid ((HB5.out.alloc HB5.out.size (.cells #[.slice ai (IX.atS L k).length ci, .slice none 0 0] 33)).grown hgrow7 (by simp; omega) (fun j hj => by have := (HO5.out.lt j hj).1; omega))
              have HX7 := hid ((hgrow7.block w1.heap.size (by simp; omega) (fun e => rowN_far HO5.out (by omega) e.symm)).trans ((Below.heap_alloc w5 _ _ (heap_lt HX5.out)).trans HX5.out))
              have hws7 : w1.heap.size + 1 ≤ w7.heap.size := by have := hgrow7.size; simp at this; omega
              clear hown7 hgrow7
              go_wp2_with fail
              go_roundw
              case rel => exact ⟨k + 1, _, _, _, by omega, by go_num, HO7.out, HSe.out.snoc (ci := ci) HLr.out, HX7.out, HF2.out, fun j hj => by (by_cases e : j = k; (rw [e]; exact HSk.out); exact HSh.out j (by omega)), HB7.out, hws7⟩
              case measure => simp [intOf]; omega
          · have heq : ∀ w, (binOp .eql 27 (.agg #[.int .i64 fe, .int .i64 fp]) (.agg #[.int .i64 0, .int .i64 (-1)])).run Tryz.prog w = .ok (.bool false) w := fun w => by
              rw [eqF]
              have : (fe == 0 && fp == -1) = false := by
                rw [Bool.and_eq_false_iff]
                by_cases h1 : fe = 0
                · exact .inr (beq_eq_false_iff_ne.2 fun h2 => hfine ⟨h1, h2⟩)
                · exact .inl (beq_eq_false_iff_ne.2 h1)
              rw [this]
            have HF2 := hid (HF.out.had hfine)
            clear hfine
            go_wp2_with (at_builtin; refine wpList_append_own _ rfl (.tmp 51) (.tmp 57) 28 rfl (w1.heap.size + 1) 33 ii (.agg #[.slice none 0 0, .slice none 0 0]) 2 48 Tryz.underlying28 HI0.out HZ0.out HZ1.out HZ2.out rfl (by decide) u8 k xs rfl (HO.out.alloc _) ⟨w2.heap.size, 0, none⟩ 1 1 [.slice ai (IX.atS L k).length ci, .slice none 0 0] rfl rfl (two_newsV w2 _ (by simp) _ _ _) (two_slc _ _ _ _ _ _) (by unfold maxLen; omega) (by omega) (by simp; omega) ?_)
            intro v7 w7 hown7 hgrow7 _
            have HO7 := hid hown7
            have HB7 := hid ((HBl.out.alloc HBl.out.size (.cells #[.slice ai (IX.atS L k).length ci, .slice none 0 0] 33)).grown hgrow7 (by simp; omega) (fun j hj => by have := (HO.out.lt j hj).1; omega))
            have HX7 := hid ((hgrow7.block w1.heap.size (by simp; omega) (fun e => rowN_far HO.out (by omega) e.symm)).trans ((Below.heap_alloc w2 _ _ (heap_lt HX.out)).trans HX.out))
            have hws7 : w1.heap.size + 1 ≤ w7.heap.size := by have := hgrow7.size; simp at this; omega
            clear hown7 hgrow7
            go_wp2_with fail
            go_roundw
            case rel => exact ⟨k + 1, _, _, _, by omega, by go_num, HO7.out, HSe.out.snoc (ci := ci) HLr.out, HX7.out, HF2.out, fun j hj => by (by_cases e : j = k; (rw [e]; exact HSk.out); exact HSh.out j (by omega)), HB7.out, hws7⟩
            case measure => simp [intOf]; omega
      · have he : k = L.length := by omega
        subst he
        clear hlt hk
        obtain ⟨w0, hw0⟩ : ∃ w0, w0 = w1 := ⟨_, rfl⟩
        subst hw0
        have HNw := hid (new_any ao L cl wr (HL.out.below HBl.out) (by omega))
        obtain ⟨ao8, cap8, he8, hse8⟩ := SeRow.of_own HO.out HSe.out HBl.out
        have HSr := hid hse8
        subst he8
        clear hse8 HO HSe
        go_wp2_with fail
        refine HNw.out.mono ?_
        rintro e w3 ⟨hb3, hend⟩
        have HB3 := hid (HBl.out.trans (hb3.mono hsz))
        have hsz3 := HB3.out.size
        have HX3 : Hid (w3.heap[w0.heap.size]? = some (boxF fe fp)) := (hb3.block _ (by omega)).trans HX.out
        have HSr3 := hid (HSr.out.below hb3)
        clear hb3 HNw HSr HBl HX hws
        have hG : 1 < w0.heap.size := HE.out.lt
        have heg := egF .neq
        rcases hend with ⟨hR, bx, bo, cnt, fo, fi, hcnt, rfl, hI⟩ | ⟨i, ba, hi, hri, hbad, rfl, ha0, ha1, hba⟩
        case inr =>
          obtain ⟨rfl, rfl⟩ := HF.out.at hi hri hbad
          have hx0 : w3.cell? ⟨w0.heap.size, 0, none⟩ = some (.int .i64 1) := by simp only [World.cell?, HX3.out]; rfl
          have hx1 : w3.cell? ⟨w0.heap.size, 1, none⟩ = some (.int .i64 i) := by simp only [World.cell?, HX3.out]; rfl
          have HIs := hid (is_at 1 i ba w3 (HE.out.below HB3.out hG) ha0 ha1)
          have HA0 := hid ha0
          have HA1 := hid ha1
          clear ha0 ha1 hri hbad
          go_wp2_with fail
          refine HIs.out.mono ?_
          rintro e w4 ⟨rfl, hb4⟩
          have hbx : w0.heap.size < w3.heap.size := heap_lt HX3.out
          have hy0 := (hb4.cell (p := ⟨w0.heap.size, 0, none⟩) hbx).trans hx0
          have hy1 := (hb4.cell (p := ⟨w0.heap.size, 1, none⟩) hbx).trans hx1
          have HB4 := hid (HB3.out.trans (hb4.mono hsz3))
          have hg0 := (HB4.out.cell (p := ⟨0, 0, none⟩) hGl).trans hgc0
          have hg1 := (HB4.out.cell (p := ⟨0, 1, none⟩) hGl).trans hgc1
          have hne : ∀ w, (binOp .neq 27 (.agg #[.int .i64 1, .int .i64 i]) (.agg #[.int .i64 0, .int .i64 (-1)])).run Tryz.prog w = .ok (.bool true) w := fun w => by rw [neF]; rfl
          have HIs2 := hid (is_at 1 i ba w4 (HE.out.below HB4.out hG) ((hb4.cell (p := ⟨ba, 0, none⟩) hba).trans HA0.out) ((hb4.cell (p := ⟨ba, 1, none⟩) hba).trans HA1.out))
          have hsz4 := HB4.out.size
          clear hb4 HIs hx0 hx1
          go_wp2_with fail
          refine HIs2.out.mono ?_
          rintro e w5 ⟨rfl, hb5⟩
          have HB5 := hid (HB4.out.trans (hb5.mono hsz4))
          clear hb5 HIs2
          go_wp2_with fail
          go_ret
          exact ⟨rfl, HB5.out⟩
        obtain ⟨rfl, rfl⟩ := HF.out.fine hR
        have HR := hid hR
        have HI := hid hI
        clear hR hI
        have hx0 : w3.cell? ⟨w0.heap.size, 0, none⟩ = some (.int .i64 0) := by simp only [World.cell?, HX3.out]; rfl
        have hx1 : w3.cell? ⟨w0.heap.size, 1, none⟩ = some (.int .i64 (-1)) := by simp only [World.cell?, HX3.out]; rfl
        have HIs := hid (is_fine w3)
        go_wp2_with fail
        refine HIs.out.mono ?_
        rintro e w4 ⟨rfl, hb4⟩
        have hbx : w0.heap.size < w3.heap.size := heap_lt HX3.out
        have hy0 := (hb4.cell (p := ⟨w0.heap.size, 0, none⟩) hbx).trans hx0
        have hy1 := (hb4.cell (p := ⟨w0.heap.size, 1, none⟩) hbx).trans hx1
        have HB4 := hid (HB3.out.trans (hb4.mono hsz3))
        have HI4 := hid (HI.out.below hb4)
        have HSr4 := hid (HSr3.out.below hb4)
        have hg0 := (HB4.out.cell (p := ⟨0, 0, none⟩) hGl).trans hgc0
        have hg1 := (HB4.out.cell (p := ⟨0, 1, none⟩) hGl).trans hgc1
        have hne : ∀ w, (binOp .neq 27 (.agg #[.int .i64 0, .int .i64 (-1)]) (.agg #[.int .i64 0, .int .i64 (-1)])).run Tryz.prog w = .ok (.bool false) w := fun w => by rw [neF]; rfl
        have hsz4 := HB4.out.size
        have HVl := hid (values_any bx L.length cnt bo _ fo fi nm w4 HI4.out hcnt hnm)
        have HLn : Hid (∀ i, i < L.length → (IX.atS L i).length ≤ 1000) := fun i hi => by have := (HSh.out i hi).1; omega
        have HSz : Hid (∀ (n : ByteArray) i, i < L.length → (LB.get (IX.atS L i) n).size ≤ maxLen) := fun n i hi => get_size _ (HSh.out i hi).2 n
        clear hb4 HIs hx0 hx1 HI HSr3 HB3 HX3
        go_wp2_with fail
        refine HVl.out.mono ?_
        rintro e w5 ⟨v5, T5, rfl, hT5, hl5, ho5, hb5⟩
        obtain ⟨ao5, cap5, rfl, hr5⟩ := TRow.of_own ho5
        have HB5 := hid (HB4.out.trans (hb5.mono hsz4))
        have HI5 := hid (HI4.out.below hb5)
        have HSr5 := hid (HSr4.out.below hb5)
        have HT5 := hid hT5
        have HR5 := hid hr5
        have hsz5 := HB5.out.size
        clear hT5 ho5 hb5 hr5 HVl HI4 HSr4 HB4 hy0 hy1 hg0 hg1
        have HRv := hid (rvalues_any ao8 L cap8 nm w5 HSr5.out (by omega) HLn.out (HSz.out nm))
        go_wp2_with fail
        refine HRv.out.mono ?_
        rintro e w6 ⟨v6, T6, rfl, hT6, _, ho6, hb6⟩
        obtain ⟨ao6, cap6, rfl, hr6⟩ := TRow.of_own ho6
        have hTT : T6 = T5 := hT6.unique (HT5.out.congr (said_iff HI5.out HR.out nm))
        subst hTT
        have HB6 := hid (HB5.out.trans (hb6.mono hsz5))
        have HI6 := hid (HI5.out.below hb6)
        have HSr6 := hid (HSr5.out.below hb6)
        have hsz6 := HB6.out.size
        have HSa := hid (sameT_any ao5 ao6 T6 cap5 cap6 w6 (HR5.out.below hb6) hr6 (by omega))
        clear hT6 ho6 hb6 hr6 HRv HI5 HSr5 HB5 HT5 HR5
        go_wp2_with fail
        refine HSa.out.mono ?_
        rintro e w7 ⟨rfl, hb7⟩
        have HB7 := hid (HB6.out.trans (hb7.mono hsz6))
        have HI7 := hid (HI6.out.below hb7)
        have HSr7 := hid (HSr6.out.below hb7)
        have hsz7 := HB7.out.size
        clear hb7 HSa HI6 HSr6 HB6
        have HNm := hid (names_any bx L.length cnt bo _ fo fi w7 HI7.out hcnt)
        go_wp2_with fail
        refine HNm.out.mono ?_
        rintro e w8 ⟨v8, T8, rfl, hT8, hl8, ho8, hb8⟩
        obtain ⟨aon, capn, rfl, hrn⟩ := TRow.of_own ho8
        have HB8 := hid (HB7.out.trans (hb8.mono hsz7))
        have HI8 := hid (HI7.out.below hb8)
        have HSr8 := hid (HSr7.out.below hb8)
        have HT8 := hid hT8
        have HRn := hid hrn
        have hsz8 := HB8.out.size
        clear hT8 ho8 hb8 hrn HNm HI7 HSr7 HB7
        go_wp2_with fail
        go_loopw [13] (fun ti W => ∃ k : Nat, k ≤ T8.length ∧ ti = .int .i64 k ∧ Below w8.heap.size w8 W) (fun ti _ => T8.length - (intOf ti).toNat)
        case atStart => exact ⟨0, Nat.zero_le _, rfl, Below.refl _ _⟩
        case round =>
          obtain ⟨k, hk, rfl, hbel⟩ := hrel
          have HBl := hid hbel
          clear hbel
          by_cases hlt : k < T8.length
          · obtain ⟨b, off, hao, hc, hbs⟩ := HRn.out k hlt
            subst hao
            have hcell := (HBl.out.cell (p := ⟨b, off + k, none⟩) hbs).trans hc
            have hmem : T8.getD k [] ∈ T8 := by
              rw [List.getD_eq_getElem?_getD, List.getElem?_eq_getElem hlt]; exact List.getElem_mem hlt
            have hfo : fo ⟨(T8.getD k []).toArray⟩ ≠ none := (HT8.out.mem _).1 hmem
            obtain ⟨v, hv⟩ := HI8.out.full _ hfo
            have HSd := hid ((said_iff HI8.out HR.out _ v).1 hv)
            clear hc hmem hfo hv
            have hprev : k ≠ 0 → wr.cell? ⟨b, off + (k - 1), none⟩ = some (encStr (T8.getD (k - 1) [])) := fun h0 => by
              obtain ⟨b', off', hao', hc', hbs'⟩ := HRn.out (k - 1) (by omega)
              simp only [Option.some.injEq, Addr.mk.injEq, and_true] at hao'
              obtain ⟨rfl, rfl⟩ := hao'
              exact (HBl.out.cell (p := ⟨b, _, none⟩) hbs').trans hc'
            have hless : k ≠ 0 → Op.bytesLess (T8.getD (k - 1) []) (T8.getD k []) = true := fun h0 => by
              have := HT8.out.less (k - 1) (by omega)
              rwa [show k - 1 + 1 = k by omega] at this
            have HRv2 := hid (rvalues_any ao8 L cap8 ⟨(T8.getD k []).toArray⟩ wr.drew (HSr8.out.below (HBl.out.trans ⟨rfl, rfl, rfl, Nat.le_refl _, fun _ _ => rfl⟩ : Below w8.heap.size w8 wr.drew)) (by omega) HLn.out (HSz.out _))
            have hbr : b < wr.heap.size := Nat.lt_of_lt_of_le hbs HBl.out.size
            have hil : 0 ≤ (k : Int) ∧ (k : Int) < (T8.length : Int) := by omega
            unfold encStr at hcell hprev
            have HQ : Hid (k ≠ 0 → Op.bytesLess (⟨(T8.getD (k - 1) []).toArray⟩ : ByteArray).toList (⟨(T8.getD k []).toArray⟩ : ByteArray).toList = true) := fun h0 => by
              rw [Lib.toList_data, Lib.toList_data]; exact hless h0
            clear hless
            generalize (⟨(T8.getD k []).toArray⟩ : ByteArray) = P1 at *
            generalize (⟨(T8.getD (k - 1) []).toArray⟩ : ByteArray) = P0 at *
            by_cases h0 : k = 0
            · have hgt : decide (0 < k) = false := decide_eq_false (by omega)
              have hgt' : ¬ (0 : Int) < (k : Int) := by omega
              clear hprev HQ h0
              go_wp2_with fail
              refine wp_region_mid (by kernel_rfl) (by kernel_rfl) rfl rfl rfl rfl rfl rfl rfl rfl rfl ?_
              go_wp2_with fail
              refine HRv2.out.mono ?_
              rintro e w30 ⟨v30, T30, rfl, hT30, _, ho30, hb30⟩
              obtain ⟨ao30, cap30, rfl, hr30⟩ := TRow.of_own ho30
              have hne : ¬ T30.length = 0 := by
                have := List.length_pos_of_mem ((hT30.2.2 v).2 HSd.out)
                omega
              have HB30 := hid hb30
              clear hr30 ho30 hT30 hb30
              generalize T30.length = tl at *
              have hnd : ((tl : Int) == 0) = false := beq_eq_false_iff_ne.2 (by omega)
              clear hne
              go_wp2_with fail
              refine MidQ.on ?_
              repeat (go_big_quiet_step (fail))
              refine wpQuiet_nil ?_
              rintro _ ⟨nq, rfl⟩
              refine OnlyN.on ?_
              go_wp2_with fail
              go_roundw
              case rel => exact ⟨k + 1, by omega, by go_num, below_drewN (HBl.out.trans ((⟨rfl, rfl, rfl, Nat.le_refl _, fun _ _ => rfl⟩ : Below wr.heap.size wr wr.drew).trans HB30.out |>.mono HBl.out.size)) nq⟩
              case measure => simp [intOf]; omega
            · have hgt : decide (0 < k) = true := decide_eq_true (by omega)
              have hgt' : (0 : Int) < (k : Int) := by omega
              have hpv := hprev h0
              have hlo := HQ.out h0
              have hil2 : 0 ≤ (k : Int) - 1 ∧ (k : Int) - 1 < (T8.length : Int) := by omega
              clear hprev
              go_wp2_with fail
              refine wp_region_mid (by kernel_rfl) (by kernel_rfl) rfl rfl rfl rfl rfl rfl rfl rfl rfl ?_
              go_wp2_with fail
              refine HRv2.out.mono ?_
              rintro e w30 ⟨v30, T30, rfl, hT30, _, ho30, hb30⟩
              obtain ⟨ao30, cap30, rfl, hr30⟩ := TRow.of_own ho30
              have hne : ¬ T30.length = 0 := by
                have := List.length_pos_of_mem ((hT30.2.2 v).2 HSd.out)
                omega
              have hc30 := (hb30.cell (p := ⟨b, off + k, none⟩) hbr).trans hcell
              have hp30 := (hb30.cell (p := ⟨b, off + (k - 1), none⟩) hbr).trans hpv
              have HB30 := hid hb30
              clear hr30 ho30 hT30 hb30
              generalize T30.length = tl at *
              have hnd : ((tl : Int) == 0) = false := beq_eq_false_iff_ne.2 (by omega)
              clear hne
              go_wp2_with fail
              refine MidQ.on ?_
              repeat (go_big_quiet_step (fail))
              refine wpQuiet_nil ?_
              rintro _ ⟨nq, rfl⟩
              refine OnlyN.on ?_
              go_wp2_with fail
              go_roundw
              case rel => exact ⟨k + 1, by omega, by go_num, below_drewN (HBl.out.trans ((⟨rfl, rfl, rfl, Nat.le_refl _, fun _ _ => rfl⟩ : Below wr.heap.size wr wr.drew).trans HB30.out |>.mono HBl.out.size)) nq⟩
              case measure => simp [intOf]; omega
          · have he : k = T8.length := by omega
            subst he
            clear hlt hk
            have HBw := hid (HB8.out.trans (HBl.out.mono hsz8))
            have hszw := HBw.out.size
            have hm20 : m.length ≤ 20 := HSm.out.1
            have HMt := hid (match_any bx cnt bo fo fi L mo m cm wr (HI8.out.below HBl.out) HR.out (by omega) (HM.out.below HBw.out) (by omega))
            clear HBl HI8 HB8 HT8 HRn HSr8
            go_wp2_with fail
            refine HMt.out.mono ?_
            rintro e w9 ⟨hb9, hend⟩
            have HB9 := hid (HBw.out.trans (hb9.mono hszw))
            have hsz9 := HB9.out.size
            have hAs := rasked_any mo m cm w9 (HM.out.below HB9.out) (by omega) HSm.out.2
            clear hb9 HMt HBw hszw
            rcases hend with ⟨hA, rfl⟩ | ⟨hA, v9, rfl, ho9⟩
            · rw [hA] at hAs
              have HAs := hid hAs
              clear hAs
              go_wp2_with fail
              refine HAs.out.mono ?_
              rintro e w10 ⟨rfl, hb10⟩
              have HB10 := hid (HB9.out.trans (hb10.mono hsz9))
              have hsz10 := HB10.out.size
              have hba := bare_errno 1 1 w10 (HE.out.below HB10.out hG)
              rw [show ((1 : Int) == 1) = true from rfl] at hba
              have HBa := hid hba
              clear hba hb10 HAs
              go_wp2_with fail
              refine HBa.out.mono ?_
              rintro e w11 ⟨rfl, hb11⟩
              have HB11 := hid (HB10.out.trans (hb11.mono hsz10))
              clear hb11 HBa
              go_wp2_with fail
              go_ret
              exact ⟨rfl, HB11.out⟩
            · rw [hA] at hAs
              have HAs := hid hAs
              clear hAs
              obtain ⟨p, hp⟩ : ∃ p : Nat → Bool, p = fun i => LB.all (IX.atS L i) m := ⟨_, rfl⟩
              rw [← hp] at ho9
              obtain ⟨ao9, cap9, rfl, hr9, _⟩ := IRow.of_own' ho9
              have HR9 := hid hr9
              have HP : Hid (∀ i, p i = LB.all (IX.atS L i) m) := fun i => by rw [hp]
              have HOp := hid (asked_op hA)
              clear hA hp ho9 hr9
              go_wp2_with fail
              refine HAs.out.mono ?_
              rintro e w10 ⟨rfl, hb10⟩
              have HB10 := hid (HB9.out.trans (hb10.mono hsz9))
              have hsz10 := HB10.out.size
              have HR10 := hid (HR9.out.below hb10)
              clear hb10 HAs HR9 HB9 hsz9
              go_wp2_with fail
              go_loopw [15, 16] (fun tn ti W => ∃ k : Nat, k ≤ L.length ∧ tn = .int .i64 (IX.idx k p).length ∧ ti = .int .i64 k ∧ Below w10.heap.size w10 W) (fun _ ti _ => L.length - (intOf ti).toNat)
              case atStart => exact ⟨0, Nat.zero_le _, rfl, rfl, Below.refl _ _⟩
              case round =>
                obtain ⟨k, hk, rfl, rfl, hbel⟩ := hrel
                have HBl := hid hbel
                have HBw := hid (HB10.out.trans (hbel.mono hsz10))
                have hszw := hbel.size
                clear hbel
                by_cases hlt : k < L.length
                · obtain ⟨b, off, ai1, ci, hao, hc, hrow, hbs⟩ := HL.out k hlt
                  subst hao
                  have hcell := (HBw.out.cell (p := ⟨b, off + k, none⟩) hbs).trans hc
                  have hll := (HSh.out k hlt).1
                  have hft := rfits_any ai1 mo (IX.atS L k) m ci cm wr (hrow.below HBw.out) (HM.out.below HBw.out) (by omega) (by omega) HOp.out
                  rw [← HP.out k] at hft
                  cases hpk : p k with
                  | false =>
                    rw [hpk] at hft
                    have HFt := hid hft
                    have hout := idx_len_out p k hpk
                    clear hft hc hrow
                    go_wp2_with fail
                    refine HFt.out.mono ?_
                    rintro e w12 ⟨rfl, hb12⟩
                    have HB12 := hid (HBl.out.trans (hb12.mono hszw))
                    clear hb12 HFt
                    go_wp2_with fail
                    go_roundw
                    case rel => exact ⟨k + 1, by omega, by rw [hout], by go_num, HB12.out⟩
                    case measure => simp [intOf]; omega
                  | true =>
                    rw [hpk] at hft
                    have HFt := hid hft
                    have hin := idx_len_in p k hpk
                    have hk30 : (IX.idx k p).length ≤ 30 := by have := IX.idx_len k p; omega
                    obtain ⟨hat, haj⟩ := idx_at p L.length k hlt hpk
                    obtain ⟨b9, off9, hao9, hc9, hbs9⟩ := HR10.out _ hat
                    subst hao9
                    rw [haj] at hc9
                    clear hft hc hrow
                    go_wp2_with fail
                    refine HFt.out.mono ?_
                    rintro e w12 ⟨rfl, hb12⟩
                    have HB12 := hid (HBl.out.trans (hb12.mono hszw))
                    have hc12 := (HB12.out.cell (p := ⟨b9, off9 + (IX.idx k p).length, none⟩) hbs9).trans hc9
                    have hge : ¬ (((IX.idx L.length p).length : Int) ≤ ((IX.idx k p).length : Int)) := by omega
                    have hge2 : decide ((IX.idx L.length p).length ≤ (IX.idx k p).length) = false := decide_eq_false (by omega)
                    clear hb12 HFt
                    go_wp2_with fail
                    go_roundw
                    case rel => exact ⟨k + 1, by omega, by rw [hin]; go_num, by go_num, HB12.out⟩
                    case measure => simp [intOf]; omega
                · have he : k = L.length := by omega
                  subst he
                  clear hlt hk
                  go_wp2_with fail
                  go_ret
                  exact ⟨rfl, HBw.out⟩

end Go.Proofs.YtdmnlmohfaafoacGreatDoor
