/- What less tells: 0 less each point. -/
import Derived.Test.YtdmnlmohfaafoaeGreatDoorPEEwAdd
namespace Go.Proofs.YtdmnlmohfaafoaeGreatDoor
open Go.RowKit Go.Shelf

/-- A row of points, its room as it should be. -/
def PV (w : World) (v : Value) (l : List EV.Pt) : Prop := ∃ po pc, v = .slice po l.length pc ∧ PRow w po l ∧ l.length ≤ pc

theorem PV.below {w w' : World} {v : Value} {l : List EV.Pt} (h : PV w v l) (k : Below w.heap.size w w') : PV w' v l := by
  obtain ⟨po, pc, e, h1, h2⟩ := h
  exact ⟨po, pc, e, h1.below k, h2⟩

theorem PB.pv {w0 W : World} {br : Nat} {v : Value} {al : Bool} {xs : List (Value × Value)} {pts : List EV.Pt} (h : PB w0 W br v al xs pts) : PV W v pts := by
  obtain ⟨po, pc, e, hr⟩ := h.out
  refine ⟨po, pc, e, hr, ?_⟩
  rcases h.row.2 with ⟨h0, hn⟩ | ⟨g, cap, cur, h0, _, _, h3, _⟩
  · omega
  · rw [h0] at e
    simp only [Value.slice.injEq] at e
    omega

/-- How a function that tells a result ends. -/
structure RsEnd (w w' : World) (e : Ending) (al : Bool) (pts : List EV.Pt) : Prop where
  ok : ∃ v, e = .returned (.agg #[v, .bool al]) ∧ PV w' v pts
  low : Below w.heap.size w w'

theorem take_P (l : List EV.Pt) (i : Nat) (h : i < l.length) : l.take (i + 1) = l.take i ++ [atP l i] := by
  rw [List.take_succ_eq_append_getElem h]; simp [atP, h]

def neg' (p : EV.Pt) : EV.Pt := (p.1, CL.W (0 - p.2))

theorem PRow.lab {w : World} {ao : Option Addr} {l : List EV.Pt} (h : PRow w ao l) {i : Nat} (hi : i < l.length) {b off : Nat} (e : ao = some ⟨b, off, none⟩) {lo : Option Addr} {n lc : Nat} (c : w.cell? ⟨b, off + i * 2, none⟩ = some (.slice lo n lc)) : n = (atP l i).1.length ∧ LRow w lo (atP l i).1 := by
  obtain ⟨b', off', e', _, lo', lc', c', _, hL⟩ := h i hi
  rw [e] at e'
  cases e'
  rw [c] at c'
  cases c'
  exact ⟨rfl, hL⟩

set_option maxRecDepth 100000 in
set_option maxHeartbeats 3200000 in
theorem less_any (po : Option Addr) (l : List EV.Pt) (pc : Nat) (al : Bool) (w : World) (hP : PRow w po l) (hl : l.length ≤ 100000) :
    Calls Tryz.prog 142 #[.agg #[.slice po l.length pc, .bool al]] w fun e w' => RsEnd w w' e al (l.map neg') := by
  have HP := hid hP
  clear hP
  go_enter Tryz.func142, Tryz.ntmps142
  go_wp2_with fail
  have h3 := three_new w (.cells #[.slice po l.length pc, .bool al] 140) (.cells #[.slice none 0 0, .bool false] 140) (.cells #[.slice none 0 0, .bool al] 140)
  have hb3 : Below w.heap.size w (((w.alloc (.cells #[.slice po l.length pc, .bool al] 140)).alloc (.cells #[.slice none 0 0, .bool false] 140)).alloc (.cells #[.slice none 0 0, .bool al] 140)) := (((Below.refl _ w).alloc (Nat.le_refl _) _).alloc (by simp) _).alloc (by simp; omega) _
  have hs3 : (((w.alloc (.cells #[.slice po l.length pc, .bool al] 140)).alloc (.cells #[.slice none 0 0, .bool false] 140)).alloc (.cells #[.slice none 0 0, .bool al] 140)).heap.size = w.heap.size + 1 + 1 + 1 := by simp
  generalize ((w.alloc (.cells #[.slice po l.length pc, .bool al] 140)).alloc (.cells #[.slice none 0 0, .bool false] 140)).alloc (.cells #[.slice none 0 0, .bool al] 140) = w3 at *
  refine (adder_any (some ⟨w.heap.size + 1 + 1, 0, none⟩) w3).mono ?_
  rintro e w4 ⟨rfl, h4⟩
  have hb4 : Below w3.heap.size w3 w4 := by rw [h4]; exact (Below.refl _ w3).alloc (Nat.le_refl _) _
  have HPtr : Hid (w4.heap[w3.heap.size]? = some (.cells #[.pointer (some ⟨w.heap.size + 1 + 1, 0, none⟩)] 255)) := by
    show _ = _
    rw [h4]; exact heap_alloc_new w3 _
  have HX := hid ((hb4.block _ (heap_lt h3.1)).trans h3.1)
  have HO := hid ((hb4.block _ (heap_lt h3.2.1)).trans h3.2.1)
  have HPB : Hid (PB w w4 (w.heap.size + 1 + 1) (.slice none 0 0) al [] []) := PB.first (bel2 hb3 hb4) ((hb4.block _ (heap_lt h3.2.2)).trans h3.2.2) (by omega)
  have hpb : w3.heap.size = w.heap.size + 1 + 1 + 1 := hs3
  have hxc : w4.cell? ⟨w.heap.size, 0, none⟩ = some (.slice po l.length pc) := zcell' _ _ _ _ HX.out 0 _ rfl
  generalize w3.heap.size = pb at *
  have h4s := heap_lt HPtr.out
  have hb4s : w.heap.size + 1 + 1 < w4.heap.size := by omega
  clear h3 hb3 hs3 h4 hb4
  generalize hbre : w.heap.size + 1 + 1 = br at *
  generalize hobe : w.heap.size + 1 = ob at *
  have hpne : pb ≠ br := by omega
  have hobr : ob ≠ br := by omega
  have hobg : w.heap.size ≤ ob := by omega
  have hob4 : ob < w4.heap.size := by omega
  clear hbre hobe hpb
  go_wp2_with fail
  go_loopw [14] (fun ti wr => ∃ (i : Nat) (v : Value) (xs : List (Value × Value)), i ≤ l.length ∧ ti = .int .i64 i ∧ PB w wr br v al xs ((l.take i).map neg') ∧ PStep w4 wr br (.slice none 0 0) v) (fun ti _ => l.length - (intOf ti).toNat)
  case atStart => exact ⟨0, _, [], Nat.zero_le _, rfl, HPB.out, PStep.refl _ _ _⟩
  case round =>
    obtain ⟨i, v, xs, hi, rfl, hpb1, hps⟩ := hrel
    have HB1 := hid hpb1
    have HS1 := hid hps
    clear hpb1 hps HPB
    by_cases hlt : i < l.length
    · obtain ⟨b, off, hpo, hbs, lo, lc, hc0, hc1, hL⟩ := HP.out i hlt
      subst hpo
      have c0 := (HB1.out.bel.cell (p := ⟨b, off + i * 2, none⟩) hbs).trans hc0
      have c1 := (HB1.out.bel.cell (p := ⟨b, off + i * 2 + 1, none⟩) hbs).trans hc1
      have hil : 0 ≤ (i : Int) ∧ (i : Int) < (l.length : Int) := by omega
      have HTk := hid (take_P l i hlt)
      have HL := hid hL
      clear hc0 hc1 hL
      go_wp2_with fail
      have hal : Below wr.heap.size wr (wr.alloc (.cells #[.slice lo (atP l i).1.length lc, .int .i64 (atP l i).2] 55)) := (Below.refl _ wr).alloc (Nat.le_refl _) _
      have hptr : wr.heap[pb]? = some (.cells #[.pointer (some ⟨br, 0, none⟩)] 255) := (HS1.out.block pb h4s hpne (by simp [Value.ownBlock])).trans HPtr.out
      have HA := hid (add_any w _ br pb v al xs ((l.take i).map neg') lo (atP l i).1 lc (wrap64 (-(atP l i).2)) (HB1.out.below hal) ((hal.block _ (heap_lt hptr)).trans hptr) (.inl ⟨lo, lc, rfl, HL.out, fun _ _ _ h => h⟩) (by rw [List.length_map, List.length_take]; omega))
      have HAl := hid (PStep.below (br := br) (v := v) hal)
      clear hal hptr
      have HN : Hid (neg' (atP l i) = ((atP l i).1, wrap64 (-(atP l i).2))) := by
        show _ = _
        unfold neg'
        rw [W_wrap64, Int.zero_sub]
      generalize wr.alloc (.cells #[.slice lo (atP l i).1.length lc, .int .i64 (atP l i).2] 55) = w5 at *
      generalize atP l i = p at *
      refine HA.out.mono ?_
      rintro e w6 ⟨rfl, v', hB6, hS6⟩
      have HB6 := hid hB6
      have HS6 := hid (HS1.out.trans (HAl.out.trans hS6))
      clear hB6 hS6 HA HAl
      go_wp2_with fail
      go_roundw
      case rel =>
        refine ⟨i + 1, v', xs ++ [(.slice lo p.1.length lc, .int .i64 (wrap64 (-p.2)))], by omega, by go_num, ?_, HS6.out⟩
        rw [HTk.out, List.map_append, List.map_singleton, HN.out]
        exact HB6.out
      case measure => simp [intOf]; omega
    · have e : i = l.length := by omega
      subst e
      rw [List.take_length] at HB1
      generalize hRe : l.map neg' = R at *
      have HRe := hid hRe
      clear hRe
      obtain ⟨qo, qc, ev, hrow⟩ := HB1.out.out
      subst ev
      have hbr1 := HB1.out.box
      have hob1 := (HS1.out.block ob hob4 hobr (by simp [Value.ownBlock])).trans HO.out
      have x0 : wr.cell? ⟨br, 0, none⟩ = some (.slice qo R.length qc) := zcell' _ _ _ _ hbr1 0 _ rfl
      have x1 : wr.cell? ⟨br, 1, none⟩ = some (.bool al) := zcell' _ _ _ _ hbr1 1 _ rfl
      have y0 : wr.cell? ⟨ob, 0, none⟩ = some (.slice none 0 0) := zcell' _ _ _ _ hob1 0 _ rfl
      have y1 : wr.cell? ⟨ob, 1, none⟩ = some (.bool false) := zcell' _ _ _ _ hob1 1 _ rfl
      have z0 := hfz hob1 0
      have z1 := hfz hob1 1
      have HRow := hid hrow
      have HOb := hid hob1
      have HF := hid (HB1.out.set2 hob1 (by decide) (by decide) (fun e => hobr e.symm) hobg (.slice qo R.length qc) (.bool al))
      clear hbr1 hob1 hrow
      go_wp2_with fail
      refine bodyPost_ret (results_cell_row (P := Tryz.prog) rfl _ _ ob 140 _ (0, 0) _ rfl (ew_set2 HOb.out) Tryz.underlying140 rfl (by kernel_rfl)) rfl ?_
      rw [HRe.out]
      exact ⟨⟨_, rfl, HF.out.pv⟩, HF.out.bel⟩

end Go.Proofs.YtdmnlmohfaafoaeGreatDoor

