/- What together tells: points of the same labels, put together. -/
import Derived.Test.YtdmnlmohfaafoaeGreatDoorPEEwSort
import Derived.Test.YtdmnlmohfaafoaeGreatDoorPEHxOnly
import Derived.Test.YtdmnlmohfaafoaeGreatDoorPEBkQ
namespace Go.Proofs.YtdmnlmohfaafoaeGreatDoor
open Go.RowKit Go.Shelf

/-- The row of points, their labels fewer, on the way. -/
structure Tg (w wr : World) (R i : Nat) (l : List EV.Pt) (ns : List ByteArray) : Prop where
  bel : Below w.heap.size w wr
  ge : w.heap.size ≤ R
  row : ∃ cs : Array Value, wr.heap[R]? = some (.cells cs 55) ∧ cs.size = l.length * 2 ∧ ∀ j, j < i → ∃ lo lc, cs[j * 2]? = some (.slice lo (LB.only (atP l j).1 ns).length lc) ∧ cs[j * 2 + 1]? = some (.int .i64 (atP l j).2) ∧ OwnLb wr w.heap.size (.slice lo (LB.only (atP l j).1 ns).length lc) (LB.only (atP l j).1 ns)

theorem Tg.below {w wr wr' : World} {R i : Nat} {l : List EV.Pt} {ns : List ByteArray} (h : Tg w wr R i l ns) (k : Below wr.heap.size wr wr') : Tg w wr' R i l ns := by
  obtain ⟨cs, h1, h2, h3⟩ := h.row
  refine ⟨bel2 h.bel k, h.ge, cs, (k.block _ (heap_lt h1)).trans h1, h2, fun j hj => ?_⟩
  obtain ⟨lo, lc, a, b, c⟩ := h3 j hj
  exact ⟨lo, lc, a, b, row_kept c fun g _ hg => k.block g (heap_lt hg)⟩

theorem Tg.put {w wr : World} {R i : Nat} {l : List EV.Pt} {ns : List ByteArray} (h : Tg w wr R i l ns) (hi : i < l.length) {lo : Option Addr} {lc : Nat} (hL : OwnLb wr w.heap.size (.slice lo (LB.only (atP l i).1 ns).length lc) (LB.only (atP l i).1 ns)) :
    (∃ u0 u1, wr.cell? ⟨R, i * 2, none⟩ = some u0 ∧ wr.cell? ⟨R, i * 2 + 1, none⟩ = some u1 ∧ wr.frozen? ⟨R, i * 2, none⟩ = false ∧ wr.frozen? ⟨R, i * 2 + 1, none⟩ = false) ∧ Tg w ((wr.setCell ⟨R, i * 2, none⟩ (.slice lo (LB.only (atP l i).1 ns).length lc)).setCell ⟨R, i * 2 + 1, none⟩ (.int .i64 (atP l i).2)) R (i + 1) l ns := by
  obtain ⟨cs, h1, h2, h3⟩ := h.row
  have e0 : i * 2 < cs.size := by omega
  have e1 : i * 2 + 1 < cs.size := by omega
  have hk : ∀ {v : Value} {x : List LB.Lab}, OwnLb wr w.heap.size v x → OwnLb ((wr.setCell ⟨R, i * 2, none⟩ (.slice lo (LB.only (atP l i).1 ns).length lc)).setCell ⟨R, i * 2 + 1, none⟩ (.int .i64 (atP l i).2)) w.heap.size v x := fun hv => by
    have k1 := own_kind hv h1 (by decide)
    exact own_set (own_set hv k1 _ _) k1 _ _
  refine ⟨⟨cs[i * 2], cs[i * 2 + 1], zcell' _ _ _ _ h1 _ _ (by simp), zcell' _ _ _ _ h1 _ _ (by simp), hfz h1 _, hfz h1 _⟩, (h.bel.setCell (p := ⟨R, i * 2, none⟩) h.ge _).setCell (p := ⟨R, i * 2 + 1, none⟩) h.ge _, h.ge, (cs.setIfInBounds (i * 2) (.slice lo (LB.only (atP l i).1 ns).length lc)).setIfInBounds (i * 2 + 1) (.int .i64 (atP l i).2), heap_setCell_same _ _ _ _ _ _ (heap_setCell_same _ _ _ _ _ _ h1), by simp [h2], fun j hj => ?_⟩
  by_cases e : j = i
  · subst e
    refine ⟨lo, lc, ?_, ?_, hk hL⟩
    · rw [Array.getElem?_setIfInBounds_ne (by omega), Array.getElem?_setIfInBounds_self_of_lt e0]
    · rw [Array.getElem?_setIfInBounds_self_of_lt (by simpa using e1)]
  · obtain ⟨lo', lc', a, b, c⟩ := h3 j (by omega)
    refine ⟨lo', lc', ?_, ?_, hk c⟩
    · rw [Array.getElem?_setIfInBounds_ne (by omega), Array.getElem?_setIfInBounds_ne (by omega)]; exact a
    · rw [Array.getElem?_setIfInBounds_ne (by omega), Array.getElem?_setIfInBounds_ne (by omega)]; exact b

theorem LRow_own {wr : World} {base : Nat} {lo : Option Addr} {n lc : Nat} {x : List LB.Lab} (h : OwnLb wr base (.slice lo n lc) x) : LRow wr lo x := by
  obtain ⟨lo', lc', e, r⟩ := LRow.of_own h
  cases e
  exact r

/-- .. as what the sort asks. -/
theorem Tg.pes {w wr : World} {R : Nat} {l : List EV.Pt} {ns : List ByteArray} (h : Tg w wr R l.length l ns) (hl : ∀ j, j < l.length → (LB.only (atP l j).1 ns).length ≤ 1000) : ∃ d : Array (PE wr R), d.size = l.length ∧ d.toList.map ptOf = l.map (fun p => (LB.only p.1 ns, p.2)) ∧ (∀ i (hi : i < d.size), wr.cell? ⟨R, i * 2, none⟩ = some (.slice d[i].lo d[i].L.length d[i].lc) ∧ wr.cell? ⟨R, i * 2 + 1, none⟩ = some (.int .i64 d[i].v)) ∧ (∀ o, wr.frozen? ⟨R, o, none⟩ = false) ∧ R < wr.heap.size := by
  obtain ⟨cs, h1, h2, h3⟩ := h.row
  have key : ∀ j : Fin l.length, ∃ x : PE wr R, wr.cell? ⟨R, j.val * 2, none⟩ = some (.slice x.lo x.L.length x.lc) ∧ wr.cell? ⟨R, j.val * 2 + 1, none⟩ = some (.int .i64 x.v) ∧ ptOf x = (LB.only (atP l j.val).1 ns, (atP l j.val).2) := fun j => by
    obtain ⟨lo, lc, a, b, c⟩ := h3 j.val j.isLt
    refine ⟨⟨lo, lc, LB.only (atP l j.val).1 ns, (atP l j.val).2, LRow_own c, fun ad e _ => ?_, hl j.val j.isLt⟩, zcell' _ _ _ _ h1 _ _ a, zcell' _ _ _ _ h1 _ _ b, rfl⟩
    intro e2
    exact own_kind c h1 (by decide) (by rw [e, ← e2]; rfl)
  refine ⟨Array.ofFn fun j => Classical.choose (key j), by simp, ?_, fun i hi => ?_, fun o => hfz h1 o, heap_lt h1⟩
  · apply List.ext_getElem
    · simp
    · intro i hi hi2
      have hi' : i < l.length := by simpa using hi2
      have e : atP l i = l[i] := by simp [atP, hi']
      simp only [List.getElem_map, Array.getElem_toList, Array.getElem_ofFn]
      rw [(Classical.choose_spec (key ⟨i, hi'⟩)).2.2, e]
  · simp only [Array.getElem_ofFn]
    have hi' : i < l.length := by simpa using hi
    exact ⟨(Classical.choose_spec (key ⟨i, hi'⟩)).1, (Classical.choose_spec (key ⟨i, hi'⟩)).2.1⟩

theorem pt_store (b k : Nat) (u0 u1 : Value) (ao : Option Addr) (n c : Nat) (x : Int) (w : World) (c0 : w.cell? ⟨b, k, none⟩ = some u0) (c1 : w.cell? ⟨b, k + 1, none⟩ = some u1) (f0 : w.frozen? ⟨b, k, none⟩ = false) (f1 : w.frozen? ⟨b, k + 1, none⟩ = false) : (Instr.storeAt 55 (.pointer (some ⟨b, k, none⟩)) (.agg #[.slice ao n c, .int .i64 x])).run Tryz.prog w = .ok () ((w.setCell ⟨b, k, none⟩ (.slice ao n c)).setCell ⟨b, k + 1, none⟩ (.int .i64 x)) := by
  have hs : (Tryz.prog.info? 55).map (·.size) = some 2 := by kernel_rfl
  go_simp

/-- Labels stay where a result's box is set. -/
theorem lrow_setRes {W : World} {lo so : Option Addr} {L : List LB.Lab} {ob n k o : Nat} {b : Bool} {u : Value} (h : LRow W lo L) (hob : W.heap[ob]? = some (.cells #[.slice so n k, .bool b] 140)) : LRow (W.setCell ⟨ob, o, none⟩ u) lo L := fun i hi => by
  obtain ⟨b', off, e, c0, c1, hb⟩ := h i hi
  have hne : b' ≠ ob := fun e2 => by
    subst e2
    simp only [World.cell?, hob] at c0
    rcases Nat.lt_or_ge (off + i * 2) 2 with hlt | hge
    · rcases (by omega : off + i * 2 = 0 ∨ off + i * 2 = 1) with e3 | e3 <;> rw [e3] at c0 <;> simp at c0
    · rw [Array.getElem?_eq_none (by simpa using hge)] at c0
      simp at c0
  exact ⟨b', off, e, (World.cell?_of_block (a := ⟨b', _, none⟩) (Below.heap_setCell W ⟨ob, o, none⟩ u b' hne)).trans c0, (World.cell?_of_block (a := ⟨b', _, none⟩) (Below.heap_setCell W ⟨ob, o, none⟩ u b' hne)).trans c1, by rw [set_size]; exact hb⟩

/-- The points, where the result is put into another box. -/
theorem PB.pvSet {w0 W : World} {br ob n k n' k' : Nat} {so so' : Option Addr} {b b' : Bool} {v : Value} {al : Bool} {xs : List (Value × Value)} {pts : List EV.Pt} (h : PB w0 W br v al xs pts) (hob : W.heap[ob]? = some (.cells #[.slice so n k, .bool b] 140)) : PV ((W.setCell ⟨ob, 0, none⟩ (.slice so' n' k')).setCell ⟨ob, 1, none⟩ (.bool b')) v pts := by
  have hob1 : (W.setCell ⟨ob, 0, none⟩ (.slice so' n' k')).heap[ob]? = some (.cells #[.slice so' n' k', .bool b] 140) := heap_setCell_same _ _ 0 _ _ _ hob
  have hk := own_kind h.row hob (by decide)
  have hrow := own_set (own_set h.row hk 0 (.slice so' n' k')) hk 1 (.bool b')
  obtain ⟨po, pc, ev⟩ := own_slice h.row
  subst ev
  refine ⟨po, pc, rfl, fun i hi => ?_, ?_⟩
  · rcases hrow.2 with ⟨h0, hn⟩ | ⟨g, cap, cur, h0, hg, hc, _⟩
    · omega
    · cases h0
      obtain ⟨q1, q2⟩ := flat_get xs i (by rw [h.len]; exact hi)
      have c := hrow.cells (g := g) rfl
      have c1 := c _ _ q1
      have c2 := c _ _ q2
      rw [Addr.add_lit, Nat.zero_add] at c1 c2
      obtain ⟨lo, lc, e, r⟩ := (h.labs i hi).read h.bel
      exact ⟨g, 0, rfl, heap_lt hc, lo, lc, by rw [Nat.zero_add, c1, e], by rw [Nat.zero_add, c2, h.vals i hi], lrow_setRes (lrow_setRes r hob) hob1⟩
  · rcases h.row.2 with ⟨h0, hn⟩ | ⟨g, cap, cur, h0, _, _, h3, _⟩
    · omega
    · cases h0; exact h3

theorem prow_take {w : World} {ao : Option Addr} {l : List EV.Pt} (h : PRow w ao l) (j : Nat) : PRow w ao (l.take j) := fun i hi => by
  rw [List.length_take] at hi
  have e : atP (l.take j) i = atP l i := by
    unfold atP
    rw [List.getD_eq_getElem?_getD, List.getD_eq_getElem?_getD, List.getElem?_take, if_pos (by omega)]
  rw [e]
  exact h i (by omega)

theorem prow_drop {w : World} {b off : Nat} {l : List EV.Pt} (h : PRow w (some ⟨b, off, none⟩) l) (j : Nat) : PRow w (some ⟨b, off + j * 2, none⟩) (l.drop j) := fun i hi => by
  rw [List.length_drop] at hi
  have e : atP (l.drop j) i = atP l (j + i) := by
    unfold atP
    rw [List.getD_eq_getElem?_getD, List.getD_eq_getElem?_getD, List.getElem?_drop]
  obtain ⟨b', off', e', hb, lo, lc, c0, c1, hL⟩ := h (j + i) (by omega)
  cases e'
  rw [e]
  refine ⟨b, off + j * 2, rfl, hb, lo, lc, ?_, ?_, hL⟩
  · rw [show off + j * 2 + i * 2 = off + (j + i) * 2 by omega]; exact c0
  · rw [show off + j * 2 + i * 2 + 1 = off + (j + i) * 2 + 1 by omega]; exact c1

theorem prow_nil {w : World} {ao : Option Addr} : PRow w ao [] := fun i hi => by simp at hi

/-- What stands behind a group is behind it. -/
theorem grp_rest {p : EV.Pt} {r : List EV.Pt} {j : Nat} (h1 : 1 ≤ j) (hj : j ≤ (p :: r).length) (hs : (p :: r).Pairwise (fun a b => LB.cmp b.1 a.1 ≠ -1)) (he : j = (p :: r).length ∨ LB.cmp p.1 (atP (p :: r) j).1 ≠ 0) : ∀ q ∈ (p :: r).drop j, LB.cmp p.1 q.1 = -1 := by
  intro q hq
  obtain ⟨k, hk, rfl⟩ := List.getElem_of_mem hq
  rw [List.length_drop] at hk
  rw [List.getElem_drop]
  have hpw := List.pairwise_iff_getElem.1 hs
  rcases he with he | he
  · omega
  · have hlt : j < (p :: r).length := by omega
    have ea : atP (p :: r) j = (p :: r)[j] := by unfold atP; rw [List.getD_eq_getElem?_getD, List.getElem?_eq_getElem hlt]; rfl
    rw [ea] at he
    have h0 := hpw 0 j (by simp) hlt (by omega)
    have hpj : LB.cmp p.1 ((p :: r)[j]).1 = -1 := by
      rcases EV.cmp3 p.1 ((p :: r)[j]).1 with e | e | e
      · exact e
      · exact absurd e he
      · exact absurd (EV.cmp_gt e) h0
    by_cases hk0 : k = 0
    · subst hk0; exact hpj
    · have h1 := hpw j (j + k) hlt (by omega) (by omega)
      rcases EV.cmp3 ((p :: r)[j]).1 ((p :: r)[j + k]).1 with e | e | e
      · exact LB.cmp_ord.tr _ _ _ hpj e
      · rw [← EV.cmp_eq e]; exact hpj
      · exact absurd (EV.cmp_gt e) h1

theorem grp_step {c : Int} (h1 : 8 ≤ c) (h2 : c ≤ 11) {acc r : List EV.Pt} {p : EV.Pt} {j : Nat} (hj1 : 1 ≤ j) (hj : j ≤ (p :: r).length) (hl : (p :: r).length ≤ 1000) (hacc : ∀ x ∈ acc, ∀ q ∈ p :: r, LB.cmp x.1 q.1 = -1) (hsame : ∀ k, k < j → (atP (p :: r) k).1 = p.1) : EV.puts c acc (p :: r) = EV.puts c (acc ++ [(p.1, EV.fv c (((p :: r).take j).map (·.2)))]) ((p :: r).drop j) := by
  obtain ⟨i, rfl⟩ : ∃ i, j = i + 1 := ⟨j - 1, by omega⟩
  have e : (p :: r).take (i + 1) = p :: r.take i := rfl
  rw [e]
  rw [← EV.puts_round h1 h2 acc p (r.take i) (by rw [List.length_take]; simp at hl; omega) (fun x hx => hacc x hx p (by simp)) (fun q hq => ?_), ← EV.puts_append, ← e, List.take_append_drop]
  obtain ⟨k, hk, rfl⟩ := List.getElem_of_mem hq
  rw [List.length_take] at hk
  have := hsame (k + 1) (by omega)
  rw [List.getElem_take]
  rw [atP_cons] at this
  rw [← this]
  congr 1
  simp [atP, show k < r.length by omega]

theorem grp_acc {acc r : List EV.Pt} {p : EV.Pt} {j : Nat} {x : Int} (h : ∀ y ∈ acc, ∀ q ∈ p :: r, LB.cmp y.1 q.1 = -1) (h2 : ∀ q ∈ (p :: r).drop j, LB.cmp p.1 q.1 = -1) : ∀ y ∈ acc ++ [(p.1, x)], ∀ q ∈ (p :: r).drop j, LB.cmp y.1 q.1 = -1 := fun y hy q hq => by
  rcases List.mem_append.1 hy with hy | hy
  · exact h y hy q (List.mem_of_mem_drop hq)
  · rw [List.mem_singleton.1 hy]; exact h2 q hq

theorem pt_ix0 (b off n c : Nat) (h : 1 ≤ n) (w : World) : (Instr.indexAt 49 (.slice (some ⟨b, off, none⟩) n c) (.int .i64 0)).run Tryz.prog w = .ok (.pointer (some ⟨b, off, none⟩)) w := by
  have h0 : (0 : Int) < (n : Int) := by omega
  go_simp
  intro e
  omega

set_option maxRecDepth 100000 in
set_option maxHeartbeats 6400000 in
theorem tog_any (c : Int) (po no : Option Addr) (l : List EV.Pt) (ns : List ByteArray) (pc nc : Nat) (w : World) (hc : 8 ≤ c ∧ c ≤ 11) (hP : PRow w po l) (hN : NRow w no ns) (hl : l.length ≤ 1000) (hf : ∀ j, j < l.length → (atP l j).1.length ≤ 1000) (hn : ns.length ≤ 1000) :
    Calls Tryz.prog 143 #[.int .i64 c, .slice po l.length pc, .slice no ns.length nc] w fun e w' => RsEnd w w' e false (EV.grp c ns l) := by
  have HP := hid hP
  have HN := hid hN
  have HFw := hid hf
  clear hP hN hf
  obtain ⟨ii, hii, hz0, hz1, hz2⟩ := pt_info
  have hmk := run_makeSlice (P := Tryz.prog) (w := w.alloc (.cells #[.slice none 0 0, .bool false] 140)) 49 55 ii _ Tryz.underlying49 hii hz0 .i64 .i64 l.length l.length (by omega) (Int.le_refl _) (by rw [hz1]; omega) (by rw [hz2]; omega) (by omega)
  simp only [Int.toNat_natCast, Value.cells] at hmk
  have hsz0 : (w.alloc (.cells #[.slice none 0 0, .bool false] 140)).heap.size = w.heap.size + 1 := by simp
  rw [hsz0] at hmk
  have HT0 : Hid (Tg w ((w.alloc (.cells #[.slice none 0 0, .bool false] 140)).alloc (.cells (madeCells #[.slice none 0 0, .int .i64 0] (l.length * ii.size)) 55)) (w.heap.size + 1) 0 l ns) := by
    refine ⟨((Below.refl _ w).alloc (Nat.le_refl _) _).alloc (by simp) _, by omega, madeCells #[.slice none 0 0, .int .i64 0] (l.length * ii.size), ?_, by rw [size_madeCells, hz1], fun j hj => by omega⟩
    have := heap_alloc_new (w.alloc (.cells #[.slice none 0 0, .bool false] 140)) (.cells (madeCells #[.slice none 0 0, .int .i64 0] (l.length * ii.size)) 55)
    rwa [hsz0] at this
  have HO0 : Hid (((w.alloc (.cells #[.slice none 0 0, .bool false] 140)).alloc (.cells (madeCells #[.slice none 0 0, .int .i64 0] (l.length * ii.size)) 55)).heap[w.heap.size]? = some (.cells #[.slice none 0 0, .bool false] 140)) := by
    show _ = _
    rw [Below.heap_alloc _ _ _ (by simp)]
    exact heap_alloc_new w _
  clear hii hz0 hz1 hz2 hsz0
  go_enter Tryz.func143, Tryz.ntmps143
  go_wp2_with fail
  generalize (w.alloc (.cells #[.slice none 0 0, .bool false] 140)).alloc (.cells (madeCells #[.slice none 0 0, .int .i64 0] (l.length * ii.size)) 55) = w1 at *
  generalize hRe : w.heap.size + 1 = R at *
  have hRne : w.heap.size ≠ R := by omega
  clear hRe hmk
  go_loopw [18] (fun ti wr => ∃ i : Nat, i ≤ l.length ∧ ti = .int .i64 i ∧ Tg w wr R i l ns ∧ wr.heap[w.heap.size]? = some (.cells #[.slice none 0 0, .bool false] 140)) (fun ti _ => l.length - (intOf ti).toNat)
  case atStart => exact ⟨0, Nat.zero_le _, rfl, HT0.out, HO0.out⟩
  case round =>
    obtain ⟨i, hi, rfl, ht, ho⟩ := hrel
    have HT := hid ht
    have HO := hid ho
    clear ht ho HT0 HO0
    by_cases hlt : i < l.length
    · obtain ⟨b, off, hpo, hbs, lo, lc, hc0, hc1, hL⟩ := HP.out i hlt
      subst hpo
      have c0 := (HT.out.bel.cell (p := ⟨b, off + i * 2, none⟩) hbs).trans hc0
      have c1 := (HT.out.bel.cell (p := ⟨b, off + i * 2 + 1, none⟩) hbs).trans hc1
      have hil : 0 ≤ (i : Int) ∧ (i : Int) < (l.length : Int) := by omega
      have hfi := HFw.out i hlt
      have hal : Below wr.heap.size wr (wr.alloc (.cells #[.slice lo (atP l i).1.length lc, .int .i64 (atP l i).2] 55)) := (Below.refl _ wr).alloc (Nat.le_refl _) _
      have HX := hid (heap_alloc_new wr (.cells #[.slice lo (atP l i).1.length lc, .int .i64 (atP l i).2] 55))
      have HT1 := hid (HT.out.below hal)
      have HO1 := hid ((hal.block _ (heap_lt HO.out)).trans HO.out)
      have HL := hid hL
      have HRx : Hid (R ≠ wr.heap.size) := fun e => by
        obtain ⟨cs, h1, _⟩ := HT.out.row
        have := heap_lt h1
        omega
      clear hc0 hc1 hL hal HT HO
      go_wp2_with fail
      generalize wr.alloc (.cells #[.slice lo (atP l i).1.length lc, .int .i64 (atP l i).2] 55) = W1 at *
      generalize wr.heap.size = bq at *
      have HC0 : Hid (∀ W : World, W.heap[bq]? = some (.cells #[.slice lo (atP l i).1.length lc, .int .i64 (atP l i).2] 55) → W.cell? ⟨bq, 0, none⟩ = some (.slice lo (atP l i).1.length lc) ∧ W.cell? ⟨bq, 1, none⟩ = some (.int .i64 (atP l i).2)) := fun W hW => ⟨zcell' _ _ _ _ hW 0 _ rfl, zcell' _ _ _ _ hW 1 _ rfl⟩
      have hdr : Below W1.heap.size W1 W1.drew := (Below.refl _ W1).drew
      have HX1 := hid (show W1.drew.heap[bq]? = some (.cells #[.slice lo (atP l i).1.length lc, .int .i64 (atP l i).2] 55) from HX.out)
      have HT2 := hid (HT1.out.below hdr)
      have HO2 := hid (show W1.drew.heap[w.heap.size]? = some (.cells #[.slice none 0 0, .bool false] 140) from HO1.out)
      clear hdr HT1 HO1 HX
      refine wp_region_take (fun W => W.heap[bq]? = some (.cells #[.slice lo (atP l i).1.length lc, .int .i64 (atP l i).2] 55)) [0, 1, 2, 3, 4, 6, 7] [5, 8, 9, 10] (by kernel_rfl) (by kernel_rfl) ?_
      simp only [List.filterMap_cons, List.filterMap_nil, List.getElem?_toArray, List.getElem?_cons_zero, List.getElem?_cons_succ]
      refine takes.on (v := .slice (some ⟨R, 0, none⟩) l.length l.length) (YC.move rfl (by kernel_rfl)) ?_
      refine takes.on (v := .int .i64 (i : Int)) (YC.move rfl (by kernel_rfl)) ?_
      refine takes.on (YC.field rfl (by kernel_rfl) (fun W => pt_fa0 W bq 0)) ?_
      refine takes.on (YC.load rfl (by kernel_rfl) fun W hW => pt_loadL bq 0 lo _ lc W (HC0.out W hW).1) ?_
      refine takes.on (v := .slice no ns.length nc) (YC.move rfl (by kernel_rfl)) ?_
      refine takes.on (YC.field rfl (by kernel_rfl) (fun W => pt_fa1 W bq 0)) ?_
      refine takes.on (YC.load rfl (by kernel_rfl) fun W hW => pt_loadV bq 1 _ W (HC0.out W hW).2) ?_
      refine takes.off (C := fun W => W.heap[bq]? = some (.cells #[.slice lo (atP l i).1.length lc, .int .i64 (atP l i).2] 55)) HX1.out ?_
      go_frame
      go_wp2_with fail
      refine (only_any lo no (atP l i).1 ns lc nc W1.drew (HL.out.below HT2.out.bel) (HN.out.below HT2.out.bel) hfi hn).mono ?_
      rintro e w3 ⟨v3, rfl, hown3, hb3⟩
      obtain ⟨ro, rc, ev⟩ := own_slice hown3
      subst ev
      have HT3 := hid (HT2.out.below hb3)
      have HX3 := hid ((hb3.block _ (heap_lt HX1.out)).trans HX1.out)
      have HO3 := hid ((hb3.block _ (heap_lt HO2.out)).trans HO2.out)
      have hOwn := row_low hown3 HT2.out.bel.size
      obtain ⟨⟨u0, u1, k0, k1, k2, k3⟩, hput⟩ := HT3.out.put hlt hOwn
      have HPut := hid hput
      clear hown3 hb3 hOwn hput HT2 HO2 HX1
      generalize (LB.only (atP l i).1 ns).length = m at *
      go_wp2_with fail
      refine SeqQ.on (C := fun W => W.heap[bq]? = some (.cells #[.slice lo (atP l i).1.length lc, .int .i64 (atP l i).2] 55)) HX3.out ?_
      go_wp2_with fail
      refine SeqQ.on (C := fun W => W.heap[bq]? = some (.cells #[.slice lo (atP l i).1.length lc, .int .i64 (atP l i).2] 55)) HX3.out ?_
      go_wp2_with fail
      refine SeqQ.on (C := fun W => W.heap[bq]? = some (.cells #[.slice lo (atP l i).1.length lc, .int .i64 (atP l i).2] 55)) HX3.out ?_
      go_wp2_with fail
      refine SeqQ.done (C := fun W => W.heap[bq]? = some (.cells #[.slice lo (atP l i).1.length lc, .int .i64 (atP l i).2] 55)) (((Below.heap_setCell _ ⟨R, _, none⟩ _ bq (fun e => HRx.out e.symm)).trans (Below.heap_setCell _ ⟨R, _, none⟩ _ bq (fun e => HRx.out e.symm))).trans HX3.out) ?_
      go_wp2_with fail
      go_roundw
      case rel => exact ⟨i + 1, by omega, by go_num, HPut.out, ((Below.heap_setCell _ ⟨R, _, none⟩ _ _ hRne).trans (Below.heap_setCell _ ⟨R, _, none⟩ _ _ hRne)).trans HO3.out⟩
      case measure => simp [intOf]; omega
    · have e : i = l.length := by omega
      subst e
      obtain ⟨d, hds, hdl, hdc, hdf, hdR⟩ := HT.out.pes (fun j hj => Nat.le_trans (List.length_filter_le _ _) (HFw.out j hj))
      have hS := sortP_any wr R l.length d hdc hdf hdR (by omega)
      rw [hds] at hS
      have HS := hid hS
      clear hS hdc hdf hdR
      go_wp2_with fail
      refine HS.out.mono ?_
      rintro e w3 ⟨rfl, L2, hperm, hsort, hrow, hbut⟩
      have hB3 : Below w.heap.size w w3 := ⟨hbut.1.trans HT.out.bel.os, hbut.2.1.trans HT.out.bel.tape, hbut.2.2.1.trans HT.out.bel.output, Nat.le_trans HT.out.bel.size hbut.2.2.2.1, fun j hj => (hbut.2.2.2.2 j (Nat.lt_of_lt_of_le hj HT.out.bel.size) (by have := HT.out.ge; omega)).trans (HT.out.bel.block j hj)⟩
      have HB3 := hid hB3
      have HO3 := hid ((hbut.2.2.2.2 _ (heap_lt HO.out) hRne).trans HO.out)
      rw [hdl] at hperm
      have hlen : L2.length = l.length := by rw [hperm.length_eq, List.length_map]
      have HRes : Hid (EV.grp c ns l = EV.puts c [] L2) := by
        show _ = _
        rw [EV.grp_puts]
        exact EV.puts_perm c hperm.symm []
      have HL2 : Hid (∀ p ∈ L2, p.1.length ≤ 1000) := fun p hp => by
        obtain ⟨q, hq, rfl⟩ := List.mem_map.1 (hperm.subset hp)
        obtain ⟨k, hk, rfl⟩ := List.getElem_of_mem hq
        refine Nat.le_trans (List.length_filter_le _ _) ?_
        have := HFw.out k hk
        rwa [show atP l k = l[k] by simp [atP, hk]] at this
      have HSo := hid hsort
      have HRw := hid hrow
      have hl2 : L2.length ≤ 1000 := by omega
      rw [← hlen]
      clear hB3 hperm hsort hrow hbut hlen HT HO HS hdl hds
      generalize hRes : EV.grp c ns l = Res at *
      have HGr := hid hRes
      clear hRes
      go_wp2_with fail
      have hal : Below w3.heap.size w3 (w3.alloc (.cells #[.slice none 0 0, .bool false] 140)) := (Below.refl _ w3).alloc (Nat.le_refl _) _
      have HR4 := hid (heap_alloc_new w3 (.cells #[.slice none 0 0, .bool false] 140))
      have HA4 := hid hal
      clear hal
      generalize w3.alloc (.cells #[.slice none 0 0, .bool false] 140) = w4 at *
      refine (adder_any (some ⟨w3.heap.size, 0, none⟩) w4).mono ?_
      rintro e w5 ⟨rfl, h5⟩
      have hal : Below w4.heap.size w4 w5 := by rw [h5]; exact (Below.refl _ w4).alloc (Nat.le_refl _) _
      have HPt : Hid (w5.heap[w4.heap.size]? = some (.cells #[.pointer (some ⟨w3.heap.size, 0, none⟩)] 255)) := by
        show _ = _
        rw [h5]; exact heap_alloc_new w4 _
      have HPB : Hid (PB w3 w5 w3.heap.size (.slice none 0 0) false [] []) := PB.first (bel2 HA4.out hal) ((hal.block _ (heap_lt HR4.out)).trans HR4.out) (Nat.le_refl _)
      have HO5 := hid ((hal.block _ (Nat.lt_of_lt_of_le (heap_lt HO3.out) HA4.out.size)).trans ((HA4.out.block _ (heap_lt HO3.out)).trans HO3.out))
      have hobr : w.heap.size ≠ w3.heap.size := by have := heap_lt HO3.out; omega
      have hpne : w4.heap.size ≠ w3.heap.size := by have := heap_lt HR4.out; omega
      clear hal h5 HR4 HA4 HO3
      generalize w4.heap.size = pb at *
      have hpb5 := heap_lt HPt.out
      have hob5 := heap_lt HO5.out
      generalize hbre : w3.heap.size = br at *
      have HBr := hid hbre
      clear hbre
      go_wp2_with fail
      go_loopw [7] (fun t7 wr => ∃ (rest acc : List EV.Pt) (A : Option Addr) (cap : Nat) (v : Value) (xs : List (Value × Value)), t7 = .slice A rest.length cap ∧ rest.length ≤ cap ∧ PRow w3 A rest ∧ (∀ p ∈ rest, p.1.length ≤ 1000) ∧ rest.Pairwise (fun a b => LB.cmp b.1 a.1 ≠ -1) ∧ (∀ x ∈ acc, ∀ p ∈ rest, LB.cmp x.1 p.1 = -1) ∧ EV.puts c acc rest = Res ∧ acc.length + rest.length ≤ 1000 ∧ PB w3 wr br v false xs acc ∧ PStep w5 wr br (.slice none 0 0) v) (fun t7 _ => lenV t7)
      case atStart => exact ⟨L2, [], _, _, _, [], rfl, Nat.le_refl _, HRw.out, HL2.out, HSo.out, fun x hx => (by cases hx), HRes.out.symm, by simpa using hl2, HPB.out, PStep.refl _ _ _⟩
      case round =>
        obtain ⟨rest, acc, A, cap, v, xs, rfl, hcap, hrow, hfew, hsort, hacc, htot, hlen, hpb, hps⟩ := hrel
        have HRw2 := hid hrow
        have HFe := hid hfew
        have HSo2 := hid hsort
        have HAc := hid hacc
        have HTt := hid htot
        have HB1 := hid hpb
        have HS1 := hid hps
        clear hrow hfew hsort hacc htot hpb hps HRw HL2 HSo HPB HRes
        rcases rest with _ | ⟨p, r⟩
        · have HE : Hid (acc = Res) := HTt.out
          obtain ⟨qo, qc, ev, hrow⟩ := HB1.out.out
          subst ev
          have hbr1 := HB1.out.box
          have hob1 := (HS1.out.block _ hob5 hobr (by simp [Value.ownBlock])).trans HO5.out
          have x0 : wr.cell? ⟨br, 0, none⟩ = some (.slice qo acc.length qc) := zcell' _ _ _ _ hbr1 0 _ rfl
          have x1 : wr.cell? ⟨br, 1, none⟩ = some (.bool false) := zcell' _ _ _ _ hbr1 1 _ rfl
          have y0 : wr.cell? ⟨w.heap.size, 0, none⟩ = some (.slice none 0 0) := zcell' _ _ _ _ hob1 0 _ rfl
          have y1 : wr.cell? ⟨w.heap.size, 1, none⟩ = some (.bool false) := zcell' _ _ _ _ hob1 1 _ rfl
          have z0 := hfz hob1 0
          have z1 := hfz hob1 1
          have HOb := hid hob1
          have HV := hid (HB1.out.pvSet (so' := qo) (n' := acc.length) (k' := qc) (b' := false) hob1)
          have HBel := hid (((HB3.out.trans (HB1.out.bel.mono HB3.out.size)).setCell (p := ⟨w.heap.size, 0, none⟩) (Nat.le_refl _) (.slice qo acc.length qc)).setCell (p := ⟨w.heap.size, 1, none⟩) (Nat.le_refl _) (.bool false))
          clear hbr1 hob1 hrow
          go_wp2_with fail
          refine bodyPost_ret (results_cell_row (P := Tryz.prog) rfl _ _ w.heap.size 140 _ (0, 0) _ rfl (ew_set2 HOb.out) Tryz.underlying140 rfl (by kernel_rfl)) rfl ?_
          rw [HGr.out, ← HE.out]
          exact ⟨⟨_, rfl, HV.out⟩, HBel.out⟩
        · obtain ⟨b0, o0, hA, hb0, lo, lc, hc0, hc1, hL⟩ := HRw2.out 0 (by simp)
          subst hA
          rw [atP_zero] at hc0 hc1 hL
          simp only [Nat.zero_mul, Nat.add_zero] at hc0 hc1
          have hN1 : 1 ≤ (p :: r).length := by simp
          have HLp := hid hL
          have hfp := HFe.out p (by simp)
          generalize hNe : (p :: r).length = N at *
          have HNe := hid hNe
          clear hNe hL
          have hN0 : 0 < (N : Int) := by omega
          have hN2 : N ≤ 1000 := by omega
          go_wp2_with fail
          go_loopw [12] (fun tn wq => ∃ j : Nat, 1 ≤ j ∧ j ≤ N ∧ tn = .int .i64 j ∧ (∀ k, k < j → (atP (p :: r) k).1 = p.1) ∧ Below wr.heap.size wr wq) (fun tn _ => N - (intOf tn).toNat)
          case atStart => exact ⟨1, Nat.le_refl _, hN1, rfl, fun k hk => (by rw [show k = 0 by omega, atP_zero]), Below.refl _ _⟩
          case round =>
            obtain ⟨j, hj1, hjN, rfl, hsame, hbq⟩ := hrel
            have HSm := hid hsame
            have HBq := hid hbq
            have HB2 := hid (HB1.out.below hbq)
            have HS2 := hid (HS1.out.trans (PStep.below (br := br) (v := v) hbq))
            clear hsame hbq
            by_cases hlt : j < N
            · have hlt' : decide ((j : Int) < (N : Int)) = true := decide_eq_true (by omega)
              obtain ⟨b1, o1, hA1, hb1, lo1, lc1, d0, d1, hL1⟩ := HRw2.out j (by rw [HNe.out]; exact hlt)
              cases hA1
              have hfj := HFe.out (atP (p :: r) j) (by
                have hh : j < (p :: r).length := by rw [HNe.out]; exact hlt
                rw [show atP (p :: r) j = (p :: r)[j] by unfold atP; rw [List.getD_eq_getElem?_getD, List.getElem?_eq_getElem hh]; rfl]
                exact List.getElem_mem hh)
              have HSm1 : Hid (LB.cmp p.1 (atP (p :: r) j).1 = 0 → ∀ k, k < j + 1 → (atP (p :: r) k).1 = p.1) := fun h k hk => by
                by_cases e : k = j
                · subst e; exact (EV.cmp_eq h).symm
                · exact HSm.out k (by omega)
              have HSt1 : Hid (LB.cmp p.1 (atP (p :: r) j).1 ≠ 0 → j = (p :: r).length ∨ LB.cmp p.1 (atP (p :: r) j).1 ≠ 0) := fun h => .inr h
              have HCa : Hid (∀ W, Below w3.heap.size w3 W → W.cell? ⟨b0, o0, none⟩ = some (.slice lo p.1.length lc) ∧ W.cell? ⟨b0, o0 + 1, none⟩ = some (.int .i64 p.2)) := fun W hW => ⟨(hW.cell (p := ⟨b0, o0, none⟩) hb0).trans hc0, (hW.cell (p := ⟨b0, o0 + 1, none⟩) hb0).trans hc1⟩
              have HCb : Hid (∀ W, Below w3.heap.size w3 W → W.cell? ⟨b0, o0 + j * 2, none⟩ = some (.slice lo1 (atP (p :: r) j).1.length lc1) ∧ W.cell? ⟨b0, o0 + j * 2 + 1, none⟩ = some (.int .i64 (atP (p :: r) j).2)) := fun W hW => ⟨(hW.cell (p := ⟨b0, o0 + j * 2, none⟩) hb0).trans d0, (hW.cell (p := ⟨b0, o0 + j * 2 + 1, none⟩) hb0).trans d1⟩
              have HCm : Hid (∀ W, Below w3.heap.size w3 W → Calls Tryz.prog 181 #[.agg #[.slice lo p.1.length lc, .int .i64 p.2], .agg #[.slice lo1 (atP (p :: r) j).1.length lc1, .int .i64 (atP (p :: r) j).2]] W fun e w' => e = .returned (.int .i64 (LB.cmp p.1 (atP (p :: r) j).1)) ∧ Below W.heap.size W w') := fun W hW => pcmp_any lo lo1 p.1 (atP (p :: r) j).1 lc lc1 p.2 (atP (p :: r) j).2 W (HLp.out.below hW) (hL1.below hW) hfp hfj
              clear d0 d1 hL1
              have HBw := hid HB2.out.bel
              generalize hcm : LB.cmp p.1 (atP (p :: r) j).1 = cm at *
              generalize hqe : atP (p :: r) j = q at *
              have HQe := hid hqe
              have HCmE := hid hcm
              clear hqe hcm
              go_wp2_with fail
              refine wp_region_class (fun W => Below wr.heap.size wr W) (by kernel_rfl) (by kernel_rfl) (Below.refl _ wr).drew ?_
              refine q_run (.int .i64 (j : Int)) (by kernel_rfl) (fun W _ => by kernel_rfl) ?_
              go_frame
              refine q_run (.slice (some ⟨b0, o0, none⟩) N cap) (by kernel_rfl) (fun W _ => by kernel_rfl) ?_
              go_frame
              refine q_run (.int .i64 (N : Int)) (by kernel_rfl) (fun W _ => by kernel_rfl) ?_
              go_frame
              refine q_run (.bool true) (by kernel_rfl) (fun W _ => by unfold execOp; go_simp) ?_
              go_frame
              refine q_run (.bool true) (by kernel_rfl) (fun W _ => by kernel_rfl) ?_
              go_frame
              refine q_run (.slice (some ⟨b0, o0, none⟩) N cap) (by kernel_rfl) (fun W _ => by kernel_rfl) ?_
              go_frame
              refine q_index (.pointer (some ⟨b0, o0, none⟩)) (by kernel_rfl) rfl (by kernel_rfl) (by kernel_rfl) (pt_ix0 b0 o0 N cap hN1) ?_
              go_frame
              refine q_load (.agg #[.slice lo p.1.length lc, .int .i64 p.2]) (by kernel_rfl) rfl (by kernel_rfl) (fun W hW => pt_load2 b0 o0 lo p.1.length lc p.2 W (HCa.out W (bel2 HBw.out hW)).1 (HCa.out W (bel2 HBw.out hW)).2) ?_
              go_frame
              refine q_run (.slice (some ⟨b0, o0, none⟩) N cap) (by kernel_rfl) (fun W _ => by kernel_rfl) ?_
              go_frame
              refine q_run (.int .i64 (j : Int)) (by kernel_rfl) (fun W _ => by kernel_rfl) ?_
              go_frame
              refine q_index (.pointer (some ⟨b0, o0 + j * 2, none⟩)) (by kernel_rfl) rfl (by kernel_rfl) (by kernel_rfl) (pt_index b0 o0 N cap j hlt) ?_
              go_frame
              refine q_load (.agg #[.slice lo1 q.1.length lc1, .int .i64 q.2]) (by kernel_rfl) rfl (by kernel_rfl) (fun W hW => pt_load2 b0 (o0 + j * 2) lo1 q.1.length lc1 q.2 W (HCb.out W (bel2 HBw.out hW)).1 (HCb.out W (bel2 HBw.out hW)).2) ?_
              go_frame
              refine q_call (.int .i64 cm) (by kernel_rfl) (fun W => by kernel_rfl) (fun W hW => (HCm.out W (bel2 HBw.out hW)).mono fun e w' h => ⟨h.1, bel2 hW h.2⟩) ?_
              go_frame
              refine q_run (.bool (cm == 0)) (by kernel_rfl) (fun W _ => by kernel_rfl) ?_
              go_frame
              refine q_run (.bool (cm == 0)) (by kernel_rfl) (fun W _ => by kernel_rfl) ?_
              go_frame
              refine wpQuiet_nil ?_
              intro w4 hb4
              have HB4 := hid (HB2.out.below hb4)
              have HS4 := hid (HS2.out.trans (PStep.below (br := br) (v := v) hb4))
              have HBq4 := hid (bel2 HBq.out hb4)
              clear hb4 HB2 HS2 HCm HBw HBq HCb
              by_cases hz : cm = 0
              · have hz' : (cm == 0) = true := by rw [hz]; rfl
                have HSm2 := hid (HSm1.out hz)
                clear hz
                go_wp2_with fail
                go_roundw
                case rel => exact ⟨j + 1, by omega, by omega, by go_num, HSm2.out, HBq4.out⟩
                case measure => simp [intOf]; omega
              · have hz' : (cm == 0) = false := by rw [beq_eq_false_iff_ne]; exact hz
                have HStop : Hid (j = (p :: r).length ∨ LB.cmp p.1 (atP (p :: r) j).1 ≠ 0) := .inr (by rw [HQe.out, HCmE.out]; exact hz)
                clear hz HSm1 HSt1
                have HTail := hid (grp_rest hj1 (by rw [HNe.out]; exact hjN) HSo2.out HStop.out)
                have HStep := hid (grp_step hc.1 hc.2 hj1 (by rw [HNe.out]; exact hjN) (by rw [HNe.out]; exact hN2) HAc.out HSm.out)
                have htl : ((p :: r).take j).length = j := by rw [List.length_take, HNe.out]; omega
                have hdl : ((p :: r).drop j).length = N - j := by rw [List.length_drop, HNe.out]
                have HCp : Hid (∀ W, Below w3.heap.size w3 W → W.cell? ⟨b0, o0, none⟩ = some (.slice lo p.1.length lc)) := fun W hW => (hW.cell (p := ⟨b0, o0, none⟩) hb0).trans hc0
                have HPv := fun W (hW : Below w3.heap.size w3 W) => hid (ptVals_any (some ⟨b0, o0, none⟩) ((p :: r).take j) cap W ((prow_take HRw2.out j).below hW) (by omega))
                rw [htl] at HPv
                have hjn : 0 ≤ (j : Int) ∧ (j : Int) ≤ (N : Int) := by omega
                have hjc : (j : Int) ≤ (cap : Int) := by omega
                have hjc2 : j ≤ cap := by omega
                have hNc : N ≤ cap := hcap
                go_wp2_with fail
                have hdr : Below w4.heap.size w4 w4.drew := (Below.refl _ w4).drew
                have HB5 := hid (HB4.out.below hdr)
                have HS5 := hid (HS4.out.trans (PStep.below (br := br) (v := v) hdr))
                clear hdr HB4 HS4
                refine wp_region_take (fun W => Below w3.heap.size w3 W) [0, 1, 2, 3, 4, 5, 6, 7, 8] [9, 10, 11] (by kernel_rfl) (by kernel_rfl) ?_
                simp only [List.filterMap_cons, List.filterMap_nil, List.getElem?_toArray, List.getElem?_cons_zero, List.getElem?_cons_succ]
                refine takes.on (v := .func (.func 175) #[] #[.pointer (some ⟨pb, 0, none⟩)]) (YC.move rfl (by kernel_rfl)) ?_
                refine takes.on (v := .slice (some ⟨b0, o0, none⟩) N cap) (YC.move rfl (by kernel_rfl)) ?_
                refine takes.on (YC.indexP rfl (by kernel_rfl) (by kernel_rfl) (pt_ix0 b0 o0 N cap hN1)) ?_
                refine takes.on (YC.field rfl (by kernel_rfl) (fun W => pt_fa0 W b0 o0)) ?_
                refine takes.on (YC.load rfl (by kernel_rfl) fun W hW => pt_loadL b0 o0 lo _ lc W (HCp.out W hW)) ?_
                refine takes.on (v := .int .i64 c) (YC.move rfl (by kernel_rfl)) ?_
                refine takes.on (v := .slice (some ⟨b0, o0, none⟩) N cap) (YC.move rfl (by kernel_rfl)) ?_
                refine takes.on (v := .int .i64 (j : Int)) (YC.move rfl (by kernel_rfl)) ?_
                refine takes.on (v := .slice (some ⟨b0, o0, none⟩) j cap) (fun W _ => .inl (by unfold execOp; go_simp)) ?_
                refine takes.off (C := fun W => Below w3.heap.size w3 W) HB5.out.bel ?_
                go_frame
                go_wp2_with fail
                refine (HPv _ HB5.out.bel).out.mono ?_
                rintro e w6 ⟨vo, vc, rfl, hVR, hb6⟩
                have HB6 := hid (HB5.out.below hb6)
                have HS6 := hid (HS5.out.trans (PStep.below (br := br) (v := v) hb6))
                have HVR := hid hVR
                have hvl : (((p :: r).take j).map (·.2)).length = j := by rw [List.length_map, htl]
                have HFo := hid (fold_any c vo (((p :: r).take j).map (·.2)) vc w6 hVR (by omega) (by omega) (by omega))
                rw [hvl] at HFo
                clear hVR hb6 HB5 HS5 HPv
                go_wp2_with fail
                refine SeqQ.on (C := fun W => Below w3.heap.size w3 W) HB6.out.bel ?_
                go_wp2_with fail
                refine HFo.out.mono ?_
                rintro e w7 ⟨rfl, hb7⟩
                have HB7 := hid (HB6.out.below hb7)
                have HS7 := hid (HS6.out.trans (PStep.below (br := br) (v := v) hb7))
                clear hb7 HB6 HS6 HFo
                generalize EV.fv c (((p :: r).take j).map (·.2)) = fvv at *
                have hptr := (HS7.out.block pb hpb5 hpne (by simp [Value.ownBlock])).trans HPt.out
                have HAd := hid (add_any w3 w7 br pb v false xs acc lo p.1 lc fvv HB7.out hptr (.inl ⟨lo, lc, rfl, HLp.out, fun _ _ _ h => h⟩) (by omega))
                clear hptr
                go_wp2_with fail
                refine SeqQ.on (C := fun W => Below w3.heap.size w3 W) HB7.out.bel ?_
                go_wp2_with fail
                refine HAd.out.mono ?_
                rintro e w8 ⟨rfl, v8, hB8, hS8⟩
                have HB8 := hid hB8
                have HS8 := hid (HS7.out.trans hS8)
                clear hB8 hS8 HAd HB7 HS7
                go_wp2_with fail
                refine SeqQ.done (C := fun W => Below w3.heap.size w3 W) HB8.out.bel ?_
                go_wp2_with fail
                refine ⟨?rel, ?measure⟩
                case rel => exact ⟨(p :: r).drop j, acc ++ [(p.1, fvv)], some ⟨b0, o0 + j * 2, none⟩, cap - j, v8, _, by rw [hdl], by rw [hdl]; omega, prow_drop HRw2.out j, fun q hq => HFe.out q (List.mem_of_mem_drop hq), List.Pairwise.sublist (List.drop_sublist j _) HSo2.out, grp_acc HAc.out HTail.out, HStep.out.symm.trans HTt.out, by rw [List.length_append, hdl]; simp; omega, HB8.out, HS8.out⟩
                case measure => simp [lenV]; omega
            · have hjN2 : j = N := by omega
              have hlt' : decide ((j : Int) < (N : Int)) = false := decide_eq_false (by omega)
              have hge' : ¬ (j : Int) < (N : Int) := by omega
              have HStop : Hid (j = (p :: r).length ∨ LB.cmp p.1 (atP (p :: r) j).1 ≠ 0) := .inl (by rw [HNe.out]; exact hjN2)
              have HJ := hid hjN2
              clear hjN2
              go_wp2_with fail
              refine wp_region_class (fun W => Below wr.heap.size wr W) (by kernel_rfl) (by kernel_rfl) (Below.refl _ wr).drew ?_
              refine q_run (.int .i64 (j : Int)) (by kernel_rfl) (fun W _ => by kernel_rfl) ?_
              go_frame
              refine q_run (.slice (some ⟨b0, o0, none⟩) N cap) (by kernel_rfl) (fun W _ => by kernel_rfl) ?_
              go_frame
              refine q_run (.int .i64 (N : Int)) (by kernel_rfl) (fun W _ => by kernel_rfl) ?_
              go_frame
              refine q_run (.bool false) (by kernel_rfl) (fun W _ => by unfold execOp; go_simp) ?_
              go_frame
              refine q_run_skip (.bool false) 9 (by kernel_rfl) (fun W _ => by kernel_rfl) (by kernel_rfl) ?_
              simp only [List.take_succ_cons, List.take_zero, List.drop_succ_cons, List.drop_zero, putU]
              go_frame
              refine q_run (.bool false) (by kernel_rfl) (fun W _ => by kernel_rfl) ?_
              go_frame
              refine wpQuiet_nil ?_
              intro w4 hb4
              have HB4 := hid (HB2.out.below hb4)
              have HS4 := hid (HS2.out.trans (PStep.below (br := br) (v := v) hb4))
              clear hb4 HB2 HS2 HBq
              have HTail := hid (grp_rest hj1 (by rw [HNe.out]; exact hjN) HSo2.out HStop.out)
              have HStep := hid (grp_step hc.1 hc.2 hj1 (by rw [HNe.out]; exact hjN) (by rw [HNe.out]; exact hN2) HAc.out HSm.out)
              have htl : ((p :: r).take j).length = j := by rw [List.length_take, HNe.out]; omega
              have hdl : ((p :: r).drop j).length = N - j := by rw [List.length_drop, HNe.out]
              have HCp : Hid (∀ W, Below w3.heap.size w3 W → W.cell? ⟨b0, o0, none⟩ = some (.slice lo p.1.length lc)) := fun W hW => (hW.cell (p := ⟨b0, o0, none⟩) hb0).trans hc0
              have HPv := fun W (hW : Below w3.heap.size w3 W) => hid (ptVals_any (some ⟨b0, o0, none⟩) ((p :: r).take j) cap W ((prow_take HRw2.out j).below hW) (by omega))
              rw [htl] at HPv
              have hjn : 0 ≤ (j : Int) ∧ (j : Int) ≤ (N : Int) := by omega
              have hjc : (j : Int) ≤ (cap : Int) := by omega
              have hjc2 : j ≤ cap := by omega
              have hNc : N ≤ cap := hcap
              go_wp2_with fail
              have hdr : Below w4.heap.size w4 w4.drew := (Below.refl _ w4).drew
              have HB5 := hid (HB4.out.below hdr)
              have HS5 := hid (HS4.out.trans (PStep.below (br := br) (v := v) hdr))
              clear hdr HB4 HS4
              refine wp_region_take (fun W => Below w3.heap.size w3 W) [0, 1, 2, 3, 4, 5, 6, 7, 8] [9, 10, 11] (by kernel_rfl) (by kernel_rfl) ?_
              simp only [List.filterMap_cons, List.filterMap_nil, List.getElem?_toArray, List.getElem?_cons_zero, List.getElem?_cons_succ]
              refine takes.on (v := .func (.func 175) #[] #[.pointer (some ⟨pb, 0, none⟩)]) (YC.move rfl (by kernel_rfl)) ?_
              refine takes.on (v := .slice (some ⟨b0, o0, none⟩) N cap) (YC.move rfl (by kernel_rfl)) ?_
              refine takes.on (YC.indexP rfl (by kernel_rfl) (by kernel_rfl) (pt_ix0 b0 o0 N cap hN1)) ?_
              refine takes.on (YC.field rfl (by kernel_rfl) (fun W => pt_fa0 W b0 o0)) ?_
              refine takes.on (YC.load rfl (by kernel_rfl) fun W hW => pt_loadL b0 o0 lo _ lc W (HCp.out W hW)) ?_
              refine takes.on (v := .int .i64 c) (YC.move rfl (by kernel_rfl)) ?_
              refine takes.on (v := .slice (some ⟨b0, o0, none⟩) N cap) (YC.move rfl (by kernel_rfl)) ?_
              refine takes.on (v := .int .i64 (j : Int)) (YC.move rfl (by kernel_rfl)) ?_
              refine takes.on (v := .slice (some ⟨b0, o0, none⟩) j cap) (fun W _ => .inl (by unfold execOp; go_simp)) ?_
              refine takes.off (C := fun W => Below w3.heap.size w3 W) HB5.out.bel ?_
              go_frame
              go_wp2_with fail
              refine (HPv _ HB5.out.bel).out.mono ?_
              rintro e w6 ⟨vo, vc, rfl, hVR, hb6⟩
              have HB6 := hid (HB5.out.below hb6)
              have HS6 := hid (HS5.out.trans (PStep.below (br := br) (v := v) hb6))
              have HVR := hid hVR
              have hvl : (((p :: r).take j).map (·.2)).length = j := by rw [List.length_map, htl]
              have HFo := hid (fold_any c vo (((p :: r).take j).map (·.2)) vc w6 hVR (by omega) (by omega) (by omega))
              rw [hvl] at HFo
              clear hVR hb6 HB5 HS5 HPv
              go_wp2_with fail
              refine SeqQ.on (C := fun W => Below w3.heap.size w3 W) HB6.out.bel ?_
              go_wp2_with fail
              refine HFo.out.mono ?_
              rintro e w7 ⟨rfl, hb7⟩
              have HB7 := hid (HB6.out.below hb7)
              have HS7 := hid (HS6.out.trans (PStep.below (br := br) (v := v) hb7))
              clear hb7 HB6 HS6 HFo
              generalize EV.fv c (((p :: r).take j).map (·.2)) = fvv at *
              have hptr := (HS7.out.block pb hpb5 hpne (by simp [Value.ownBlock])).trans HPt.out
              have HAd := hid (add_any w3 w7 br pb v false xs acc lo p.1 lc fvv HB7.out hptr (.inl ⟨lo, lc, rfl, HLp.out, fun _ _ _ h => h⟩) (by omega))
              clear hptr
              go_wp2_with fail
              refine SeqQ.on (C := fun W => Below w3.heap.size w3 W) HB7.out.bel ?_
              go_wp2_with fail
              refine HAd.out.mono ?_
              rintro e w8 ⟨rfl, v8, hB8, hS8⟩
              have HB8 := hid hB8
              have HS8 := hid (HS7.out.trans hS8)
              clear hB8 hS8 HAd HB7 HS7
              go_wp2_with fail
              refine SeqQ.done (C := fun W => Below w3.heap.size w3 W) HB8.out.bel ?_
              go_wp2_with fail
              refine ⟨?rel, ?measure⟩
              case rel => exact ⟨(p :: r).drop j, acc ++ [(p.1, fvv)], _, cap - j, v8, _, by rw [hdl], by rw [hdl]; omega, by rw [List.drop_eq_nil_of_le (by rw [HNe.out]; have := HJ.out; omega)]; exact prow_nil, fun q hq => HFe.out q (List.mem_of_mem_drop hq), List.Pairwise.sublist (List.drop_sublist j _) HSo2.out, grp_acc HAc.out HTail.out, HStep.out.symm.trans HTt.out, by rw [List.length_append, hdl]; simp; omega, HB8.out, HS8.out⟩
              case measure => simp [lenV]; omega

end Go.Proofs.YtdmnlmohfaafoaeGreatDoor

