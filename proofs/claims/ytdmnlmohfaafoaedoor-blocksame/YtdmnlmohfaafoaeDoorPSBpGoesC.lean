/- What block.goes tells: which samples of a series are gone. -/
import Derived.Test.YtdmnlmohfaafoaeDoorPSBkGnC
import Derived.Test.YtdmnlmohfaafoaeDoorPSHxAskC
import Derived.OwnWalk
namespace Go.Proofs.YtdmnlmohfaafoaeDoor
open Go.RowKit Go.Shelf

/-- What is gone, as a value. -/
abbrev gv (x : Gn) (mo : Option Addr) (mc : Nat) : Value := .agg #[.slice mo x.M.length mc, .int .i64 x.fr, .int .i64 x.tt]

theorem atG_mem (l : List Gn) (i : Nat) (h : i < l.length) : atG l i ∈ l := by
  unfold atG
  rw [List.getD_eq_getElem?_getD, List.getElem?_eq_getElem h]
  exact List.getElem_mem h

/-- The cells of a row of what is gone. -/
def GCel (w : World) (ao : Option Addr) (l : List Gn) : Prop := ∀ i, i < l.length → ∃ b off, ao = some ⟨b, off, none⟩ ∧ b < w.heap.size ∧ ∃ mo mc, w.cell? ⟨b, off + i * 3, none⟩ = some (.slice mo (atG l i).M.length mc) ∧ w.cell? ⟨b, off + i * 3 + 1, none⟩ = some (.int .i64 (atG l i).fr) ∧ w.cell? ⟨b, off + i * 3 + 2, none⟩ = some (.int .i64 (atG l i).tt)

theorem GRow.cel {w : World} {ao : Option Addr} {l : List Gn} (h : GRow w ao l) : GCel w ao l := fun i hi => by
  obtain ⟨b, off, h1, h2, mo, mc, h3, h4, h5, _⟩ := h i hi
  exact ⟨b, off, h1, h2, mo, mc, h3, h4, h5⟩

theorem GCel.below {w w' : World} {go : Option Addr} {gs : List Gn} (h : GCel w go gs) (k : Below w.heap.size w w') : GCel w' go gs := fun i hi => by
  obtain ⟨b, off, e, hb, mo, mc, c0, c1, c2⟩ := h i hi
  exact ⟨b, off, e, Nat.lt_of_lt_of_le hb k.size, mo, mc, (k.cell (p := ⟨b, _, none⟩) hb).trans c0, (k.cell (p := ⟨b, _, none⟩) hb).trans c1, (k.cell (p := ⟨b, _, none⟩) hb).trans c2⟩

theorem GCel.but {w w' : World} {go : Option Addr} {gs : List Gn} {g0 : Nat} (h : GCel w go gs) (k : But g0 w w') (hne : ∀ a, go = some a → a.block ≠ g0) : GCel w' go gs := fun i hi => by
  obtain ⟨b, off, e, hb, mo, mc, c0, c1, c2⟩ := h i hi
  have hb' := k.2.2.2.2 b hb (hne _ e)
  exact ⟨b, off, e, Nat.lt_of_lt_of_le hb k.2.2.2.1, mo, mc, (World.cell?_of_block (a := ⟨b, _, none⟩) hb').trans c0, (World.cell?_of_block (a := ⟨b, _, none⟩) hb').trans c1, (World.cell?_of_block (a := ⟨b, _, none⟩) hb').trans c2⟩

set_option maxRecDepth 100000 in
set_option maxHeartbeats 800000 in
theorem indexGone_any (ao : Option Addr) (m : List Gn) (cap g : Nat) (lb : Array Value) (P : Gn → Bool) (w : World) (hM : GCel w ao m) (hl : m.length ≤ 1000)
    (eg : ∀ args w, (callFunc g args).run Tryd.prog w = .ok (.enter g args) w)
    (hcall : ∀ W, Below w.heap.size w W → ∀ x ∈ m, ∀ mo mc, Calls Tryd.prog g (#[gv x mo mc] ++ lb) W fun e w' => e = .returned (.bool (P x)) ∧ Below W.heap.size W w') :
    Calls Tryd.prog 122 #[.slice ao m.length cap, .func (.func g) #[] lb] w fun e w' => ∃ n : Int, e = .returned (.int .i64 n) ∧ decide (0 ≤ n) = m.any P ∧ Below w.heap.size w w' := by
  generalize hB : m.any P = B
  have HB := hid hB
  have HM := hid hM
  have HCL := hid hcall
  clear hB hM hcall
  go_enter Tryd.func122, Tryd.ntmps122
  go_wp2
  go_loopw [8] (fun ti wr => ∃ i : Nat, i ≤ m.length ∧ ti = .int .i64 i ∧ Below w.heap.size w wr ∧ ∀ j, j < i → P (atG m j) = false) (fun ti _ => m.length - (intOf ti).toNat)
  case atStart => exact ⟨0, by omega, rfl, Below.refl _ _, by omega⟩
  case round =>
    obtain ⟨i, hi, rfl, hbel, hok⟩ := hrel
    have HO := hid hok
    have HBl := hid hbel
    have hsz := hbel.size
    clear hok hbel
    by_cases hlt : i < m.length
    · obtain ⟨b, off, hao, hbs, mo, mc, hc0, hc1, hc2⟩ := HM.out i hlt
      subst hao
      have hcell0 := (HBl.out.cell (p := ⟨b, off + i * 3, none⟩) hbs).trans hc0
      have hcell1 := (HBl.out.cell (p := ⟨b, off + i * 3 + 1, none⟩) hbs).trans hc1
      have hcell2 := (HBl.out.cell (p := ⟨b, off + i * 3 + 2, none⟩) hbs).trans hc2
      clear hc0 hc1 hc2
      have HC := hid (HCL.out wr HBl.out (atG m i) (atG_mem m i hlt) mo mc)
      have HT : Hid (P (atG m i) = true → B = true) := fun h => by
        rw [← HB.out, List.any_eq_true]
        exact ⟨_, atG_mem m i hlt, h⟩
      have HN : Hid (P (atG m i) = false → ∀ j, j < i + 1 → P (atG m j) = false) := fun h j hj => by
        by_cases he : j = i
        · subst he; exact h
        · exact HO.out j (by omega)
      generalize atG m i = x at *
      go_wp2_with fail
      refine HC.out.mono ?_
      rintro e w2 ⟨rfl, hb2⟩
      have HB2 := hid (HBl.out.trans (hb2.mono hsz))
      clear hb2 HC
      cases hp : P x with
      | true =>
        have HE := hid (HT.out hp)
        clear HT HN
        go_wp2_with fail
        go_ret
        refine ⟨i, rfl, ?_, HB2.out⟩
        rw [HE.out]; exact decide_eq_true (by omega)
      | false =>
        have HE := hid (HN.out hp)
        clear HT HN
        go_wp2_with fail
        go_roundw
        case rel => exact ⟨i + 1, by omega, by go_num, HB2.out, HE.out⟩
        case measure => simp [intOf]; omega
    · have he : i = m.length := by omega
      have HE : Hid (B = false) := by
        show _ = _
        rw [← HB.out, List.any_eq_false]
        intro x hx
        obtain ⟨j, hj, rfl⟩ := List.mem_iff_getElem.1 hx
        have := HO.out j (by omega)
        unfold atG at this
        rw [List.getD_eq_getElem?_getD, List.getElem?_eq_getElem hj] at this
        simpa using this
      subst he
      go_wp2
      go_ret
      refine ⟨-1, rfl, ?_, HBl.out⟩
      rw [HE.out]; rfl

set_option maxRecDepth 100000 in
theorem containsGone_any (ao : Option Addr) (m : List Gn) (cap g : Nat) (lb : Array Value) (P : Gn → Bool) (w : World) (hM : GCel w ao m) (hl : m.length ≤ 1000)
    (eg : ∀ args w, (callFunc g args).run Tryd.prog w = .ok (.enter g args) w)
    (hcall : ∀ W, Below w.heap.size w W → ∀ x ∈ m, ∀ mo mc, Calls Tryd.prog g (#[gv x mo mc] ++ lb) W fun e w' => e = .returned (.bool (P x)) ∧ Below W.heap.size W w') :
    Calls Tryd.prog 91 #[.slice ao m.length cap, .func (.func g) #[] lb] w fun e w' => e = .returned (.bool (m.any P)) ∧ Below w.heap.size w w' := by
  have HC := hid (indexGone_any ao m cap g lb P w hM hl eg hcall)
  clear hM hcall eg
  generalize m.any P = B at *
  go_enter Tryd.func91, Tryd.ntmps91
  go_wp2_with fail
  refine HC.out.mono ?_
  rintro e w2 ⟨n, rfl, hn, hb2⟩
  have HB2 := hid hb2
  have HN := hid hn
  clear hb2 hn HC
  go_wp2_with fail
  go_ret
  exact ⟨ret_bool HN.out, HB2.out⟩

/-- At which times. -/
abbrev inG (t : Int) (x : Gn) : Bool := decide (x.fr ≤ t) && decide (t ≤ x.tt)

set_option maxRecDepth 100000 in
theorem goes11_any (x : Gn) (mo : Option Addr) (mc bs : Nat) (t u : Int) (w : World) (hx : w.heap[bs]? = some (.cells #[.int .i64 t, .int .i64 u] 42)) :
    Calls Tryd.prog 92 #[gv x mo mc, .pointer (some ⟨bs, 0, none⟩)] w fun e w' => e = .returned (.bool (inG t x)) ∧ Below w.heap.size w w' := by
  have hb0 : Below w.heap.size w (w.alloc (.cells #[.slice mo x.M.length mc, .int .i64 x.fr, .int .i64 x.tt] 53)) := (Below.refl _ w).alloc (Nat.le_refl _) _
  have c0 : (w.alloc (.cells #[.slice mo x.M.length mc, .int .i64 x.fr, .int .i64 x.tt] 53)).cell? ⟨bs, 0, none⟩ = some (.int .i64 t) := (hb0.cell (p := ⟨bs, 0, none⟩) (heap_lt hx)).trans (zcell' _ _ _ _ hx 0 _ rfl)
  have HB0 := hid hb0
  clear hb0 hx
  obtain ⟨M, fr, tt⟩ := x
  go_enter Tryd.func92, Tryd.ntmps92
  by_cases h1 : fr ≤ t
  · have HE : Hid (inG t ⟨M, fr, tt⟩ = decide (t ≤ tt)) := by show _ = _; unfold inG; rw [decide_eq_true h1]; rfl
    go_wp2_with fail
    go_ret
    exact ⟨ret_bool HE.out.symm, HB0.out⟩
  · have HE : Hid (inG t ⟨M, fr, tt⟩ = false) := by show _ = _; unfold inG; rw [decide_eq_false h1]; rfl
    go_wp2_with fail
    go_ret
    exact ⟨by rw [HE.out]; rfl, HB0.out⟩

set_option maxRecDepth 100000 in
/-- A sample is gone. -/
theorem goes1b_any (ao : Option Addr) (m : List Gn) (cap bx : Nat) (t u : Int) (w : World) (hM : GCel w ao m) (hl : m.length ≤ 1000) (hc : w.cell? ⟨bx, 0, none⟩ = some (.slice ao m.length cap)) (hbx : bx < w.heap.size) :
    Calls Tryd.prog 90 #[.agg #[.int .i64 t, .int .i64 u], .pointer (some ⟨bx, 0, none⟩)] w fun e w' => e = .returned (.bool (m.any (inG t))) ∧ Below w.heap.size w w' := by
  have hb0 : Below w.heap.size w (w.alloc (.cells #[.int .i64 t, .int .i64 u] 42)) := (Below.refl _ w).alloc (Nat.le_refl _) _
  have hX := heap_alloc_new w (.cells #[.int .i64 t, .int .i64 u] 42)
  have HC := hid (containsGone_any ao m cap 92 #[.pointer (some ⟨w.heap.size, 0, none⟩)] (inG t) (w.alloc (.cells #[.int .i64 t, .int .i64 u] 42)) (hM.below hb0) hl (enters_of Tryd.func92 (by kernel_rfl) rfl)
    (fun W hW x _ mo mc => goes11_any x mo mc w.heap.size t u W ((hW.block _ (heap_lt hX)).trans hX)))
  have c0 : (w.alloc (.cells #[.int .i64 t, .int .i64 u] 42)).cell? ⟨bx, 0, none⟩ = some (.slice ao m.length cap) := (hb0.cell (p := ⟨bx, 0, none⟩) hbx).trans hc
  have HB0 := hid hb0
  clear hM hX hb0 hc
  generalize m.any (inG t) = C at *
  go_enter Tryd.func90, Tryd.ntmps90
  go_wp2_with fail
  refine HC.out.mono ?_
  rintro e w2 ⟨rfl, hb2⟩
  have HB2 := hid (bel2 HB0.out hb2)
  clear hb2 HC
  go_wp2_with fail
  go_ret
  exact ⟨rfl, HB2.out⟩

/-- A row of what is gone, of one's own. -/
abbrev gcells (ys : List (Value × Gn)) : List Value := ys.flatMap fun p => [p.1, .int .i64 p.2.fr, .int .i64 p.2.tt]

theorem gcells_length (ys : List (Value × Gn)) : (gcells ys).length = ys.length * 3 := by
  induction ys with
  | nil => rfl
  | cons p ys ih => rw [List.length_cons, Nat.succ_mul, ← ih]; simp [gcells]

theorem gcells_get : ∀ (ys : List (Value × Gn)) (i : Nat) (p : Value × Gn), ys[i]? = some p → (gcells ys)[i * 3]? = some p.1 ∧ (gcells ys)[i * 3 + 1]? = some (.int .i64 p.2.fr) ∧ (gcells ys)[i * 3 + 2]? = some (.int .i64 p.2.tt)
  | [], i, p, h => by simp at h
  | q :: ys, 0, p, h => by
    simp only [List.getElem?_cons_zero, Option.some.injEq] at h
    subst h
    exact ⟨rfl, rfl, rfl⟩
  | q :: ys, i + 1, p, h => by
    rw [List.getElem?_cons_succ] at h
    have := gcells_get ys i p h
    have e : gcells (q :: ys) = q.1 :: .int .i64 q.2.fr :: .int .i64 q.2.tt :: gcells ys := rfl
    rw [e, show (i + 1) * 3 = i * 3 + 1 + 1 + 1 by omega]
    simpa only [List.getElem?_cons_succ] using this

def OwnG (w0 w : World) (base : Nat) (v : Value) (l : List Gn) : Prop :=
  ∃ ys : List (Value × Gn), ys.map (·.2) = l ∧ w.ownsRow base 53 3 v ys.length (gcells ys) ∧ ∀ p ∈ ys, ∃ mo mc, p.1 = .slice mo p.2.M.length mc ∧ MRow w0 mo p.2.M

theorem OwnG.nil (w0 w : World) (base : Nat) : OwnG w0 w base (.slice none 0 0) [] := ⟨[], rfl, ⟨rfl, .inl ⟨rfl, rfl⟩⟩, fun p h => by simp at h⟩

theorem OwnG.below {w0 w w' : World} {base : Nat} {v : Value} {l : List Gn} (h : OwnG w0 w base v l) (k : Below w.heap.size w w') : OwnG w0 w' base v l := by
  obtain ⟨ys, h1, h2, h3⟩ := h
  exact ⟨ys, h1, row_kept h2 fun g _ hg => k.block g (heap_lt hg), h3⟩

theorem OwnG.row {w0 w : World} {base : Nat} {v : Value} {l : List Gn} (h : OwnG w0 w base v l) (k : Below w0.heap.size w0 w) : ∃ ao cap, v = .slice ao l.length cap ∧ GRow w ao l ∧ ∀ a, ao = some a → base ≤ a.block := by
  obtain ⟨ys, h1, h2, h3⟩ := h
  have hlen : ys.length = l.length := by rw [← h1, List.length_map]
  obtain ⟨ao, cap, e⟩ := own_slice h2
  refine ⟨ao, cap, by rw [e, hlen], fun i hi => ?_, fun a ea => (h2.lt a.block (by rw [e, ea]; rfl)).1⟩
  have hi' : i < ys.length := by omega
  obtain ⟨p, hp⟩ : ∃ p, ys[i]? = some p := ⟨_, List.getElem?_eq_getElem hi'⟩
  have hat : atG l i = p.2 := by
    unfold atG
    rw [List.getD_eq_getElem?_getD, ← h1, List.getElem?_map, hp]
    rfl
  obtain ⟨mo, mc, e1, hM⟩ := h3 p (List.mem_of_getElem? hp)
  obtain ⟨g0, g1, g2⟩ := gcells_get ys i p hp
  obtain ⟨g, cap', cur, e2, e3, e4, _⟩ := own_block h2 (by omega)
  have c0 := h2.cells (g := g) e3 _ _ g0
  have c1 := h2.cells (g := g) e3 _ _ g1
  have c2 := h2.cells (g := g) e3 _ _ g2
  rw [Addr.add_lit] at c0 c1 c2
  rw [hat]
  rw [e] at e2
  cases e2
  refine ⟨g, 0, rfl, heap_lt e4, mo, mc, ?_, ?_, ?_, hM.below k⟩
  · rw [c0, e1]
  · rw [Nat.add_assoc, c1]
  · rw [Nat.add_assoc, c2]

theorem Tryd.infoGone : (Tryd.prog.info? 53).map (fun i => (i.zero, i.size, i.bytes)) = some (some (.agg #[.slice none 0 0, .int .i64 0, .int .i64 0]), 3, 40) := by kernel_rfl
theorem Tryd.uGone : Tryd.prog.underlying 46 = some (.slice 53) := by kernel_rfl

theorem three_cells {w : World} {B : Nat} {a b c : Value} {T : TypeId} (h : w.heap[B]? = some (.cells #[a, b, c] T)) : ∀ j u, [a, b, c][j]? = some u → w.cell? ((⟨B, 0, none⟩ : Addr).add j) = some u := by
  intro j u hj
  match j, hj with
  | 0, hj => rw [Addr.add_lit]; exact zcell' _ _ _ _ h 0 _ hj
  | 1, hj => rw [Addr.add_lit]; exact zcell' _ _ _ _ h 1 _ hj
  | 2, hj => rw [Addr.add_lit]; exact zcell' _ _ _ _ h 2 _ hj
  | j + 3, hj => simp at hj

/-- What goes tells: a function that holds what is gone of such labels. -/
def GoEnd (w : World) (l : List Gn) (e : Ending) (w' : World) : Prop :=
  ∃ bx ao cap, e = .returned (.func (.func 90) #[] #[.pointer (some ⟨bx, 0, none⟩)]) ∧ Below w.heap.size w w' ∧ w.heap.size ≤ bx ∧ bx < w'.heap.size ∧ w'.cell? ⟨bx, 0, none⟩ = some (.slice ao l.length cap) ∧ GCel w' ao l ∧ ∀ a, ao = some a → w.heap.size ≤ a.block

set_option maxRecDepth 100000 in
set_option maxHeartbeats 1600000 in
theorem bgoes_any (lo go : Option Addr) (L : List LB.Lab) (gs : List Gn) (lc gc : Nat) (w : World) (hL : LRow w lo L) (hl : L.length ≤ 1000) (hG : GRow w go gs) (hg : gs.length ≤ 1000) (hM : ∀ i, i < gs.length → (atG gs i).M.length ≤ 1000) :
    Calls Tryd.prog 54 #[.slice lo L.length lc, .slice go gs.length gc] w fun e w' => GoEnd w (gs.filter fun g => LB.all L g.M) e w' := by
  obtain ⟨ii, hi, hz0, hz1, hz2⟩ := info_parts Tryd.infoGone
  have HI0 := hid hi
  have HZ0 := hid hz0
  have HZ1 := hid hz1
  have HZ2 := hid hz2
  have HL := hid hL
  have HG := hid hG
  have HM := hid hM
  have hb0 : Below w.heap.size w (w.alloc (.cells #[.slice none 0 0] 46)) := (Below.refl _ w).alloc (Nat.le_refl _) _
  have HA := hid (And.intro hb0 (heap_alloc_new w (.cells #[.slice none 0 0] 46)))
  clear hi hz0 hz1 hz2 hL hG hM hb0
  go_enter Tryd.func54, Tryd.ntmps54
  go_wp2_with fail
  go_loopw [10] (fun ti wr => ∃ i : Nat, i ≤ gs.length ∧ ti = .int .i64 i ∧ Below w.heap.size w wr ∧ ∃ v, wr.heap[w.heap.size]? = some (.cells #[v] 46) ∧ OwnG w wr (w.heap.size + 1) v ((gs.take i).filter fun g => LB.all L g.M)) (fun ti _ => gs.length - (intOf ti).toNat)
  case atStart => exact ⟨0, Nat.zero_le _, rfl, HA.out.1, _, HA.out.2, OwnG.nil _ _ _⟩
  case round =>
    clear HA
    obtain ⟨i, hi, rfl, hbel, v, hbox, hown⟩ := hrel
    have HBl := hid hbel
    have HBox := hid hbox
    have HOw := hid hown
    clear hbel hbox hown
    by_cases hlt : i < gs.length
    · obtain ⟨b, off, hao, hbs, mo, mc, d0, d1, d2, hMR⟩ := HG.out i hlt
      subst hao
      have c0 := (HBl.out.cell (p := ⟨b, off + i * 3, none⟩) hbs).trans d0
      have c1 := (HBl.out.cell (p := ⟨b, off + i * 3 + 1, none⟩) hbs).trans d1
      have c2 := (HBl.out.cell (p := ⟨b, off + i * 3 + 2, none⟩) hbs).trans d2
      have hml := HM.out i hlt
      have HMR := hid hMR
      have HTk : Hid (gs.take (i + 1) = gs.take i ++ [atG gs i]) := by
        show _ = _
        rw [List.take_add_one]
        congr 1
        unfold atG
        rw [List.getD_eq_getElem?_getD, List.getElem?_eq_getElem hlt]; rfl
      generalize atG gs i = x at *
      have hbx : Below wr.heap.size wr (wr.alloc (.cells #[.slice mo x.M.length mc, .int .i64 x.fr, .int .i64 x.tt] 53)) := (Below.refl _ wr).alloc (Nat.le_refl _) _
      have HB1 := hid (bel2 HBl.out hbx)
      have HX1 := hid (heap_alloc_new wr (.cells #[.slice mo x.M.length mc, .int .i64 x.fr, .int .i64 x.tt] 53))
      have HBx1 := hid ((hbx.block _ (heap_lt HBox.out)).trans HBox.out)
      have HOw1 := hid (HOw.out.below hbx)
      have hil : 0 ≤ (i : Int) ∧ (i : Int) < (gs.length : Int) := by omega
      clear hMR d0 d1 d2 hbx HBl HBox HOw
      go_wp2_with fail
      generalize wr.alloc (.cells #[.slice mo x.M.length mc, .int .i64 x.fr, .int .i64 x.tt] 53) = w1 at *
      generalize wr.heap.size = bg at *
      refine (all_any lo mo L x.M lc mc w1 (HL.out.below HB1.out) (HMR.out.below HB1.out) hl hml).mono ?_
      rintro e w2 ⟨rfl, hb2⟩
      have HB2 := hid (bel2 HB1.out hb2)
      have HX2 := hid ((hb2.block _ (heap_lt HX1.out)).trans HX1.out)
      have HBx2 := hid ((hb2.block _ (heap_lt HBx1.out)).trans HBx1.out)
      have HOw2 := hid (HOw1.out.below hb2)
      clear hb2 HB1 HX1 HBx1 HOw1 c0 c1 c2
      rcases ha : LB.all L x.M with _ | _
      · have HF : Hid ((gs.take (i + 1)).filter (fun g => LB.all L g.M) = (gs.take i).filter fun g => LB.all L g.M) := by
          show _ = _
          rw [HTk.out, List.filter_append]
          simp [ha]
        clear ha
        go_wp2_with fail
        go_roundw
        case rel => exact ⟨i + 1, by omega, by go_num, HB2.out, v, HBx2.out, by rw [HF.out]; exact HOw2.out⟩
        case measure => simp [intOf]; omega
      · have HF : Hid ((gs.take (i + 1)).filter (fun g => LB.all L g.M) = ((gs.take i).filter fun g => LB.all L g.M) ++ [x]) := by
          show _ = _
          rw [HTk.out, List.filter_append]
          simp [ha]
        clear ha
        obtain ⟨ys, hy1, hy2, hy3⟩ := HOw2.out
        have hyl : ys.length ≤ 1000 := by
          have : ys.length = ((gs.take i).filter fun g => LB.all L g.M).length := by rw [← hy1, List.length_map]
          have h2 := List.length_filter_le (fun g : Gn => LB.all L g.M) (gs.take i)
          have h3 : (gs.take i).length ≤ gs.length := by rw [List.length_take]; omega
          omega
        have k0 : w2.cell? ⟨w.heap.size, 0, none⟩ = some v := zcell' _ _ _ _ HBx2.out 0 _ rfl
        have g0 := zcell' _ _ _ _ HX2.out 0 _ rfl
        have g1 := zcell' _ _ _ _ HX2.out 1 _ rfl
        have g2 := zcell' _ _ _ _ HX2.out 2 _ rfl
        have hbs3 : Below w2.heap.size w2 (w2.alloc (.cells #[.slice mo x.M.length mc, .int .i64 x.fr, .int .i64 x.tt] 53)) := (Below.refl _ w2).alloc (Nat.le_refl _) _
        have HO3 := hid (row_kept (w' := w2.alloc (.cells #[.slice mo x.M.length mc, .int .i64 x.fr, .int .i64 x.tt] 53)) hy2 fun g _ hg => hbs3.block g (heap_lt hg))
        have HBx3 := hid ((hbs3.block _ (heap_lt HBx2.out)).trans HBx2.out)
        have HN3 := hid (three_cells (heap_alloc_new w2 (.cells #[.slice mo x.M.length mc, .int .i64 x.fr, .int .i64 x.tt] 53)))
        have HB3 := hid (bel2 HB2.out hbs3)
        obtain ⟨va, vc, ev⟩ := own_slice hy2
        subst ev
        have HY1 := hid hy1
        have HY3 := hid hy3
        clear hy1 hy2 hy3 hbs3 HOw2
        go_wp2_with (at_builtin; refine wpList_append_own _ rfl (.tmp 18) (.tmp 20) 46 rfl (w.heap.size + 1) 53 ii (.agg #[.slice none 0 0, .int .i64 0, .int .i64 0]) 3 40 Tryd.uGone HI0.out HZ0.out HZ1.out HZ2.out rfl (by decide) _ ys.length (gcells ys) rfl HO3.out ⟨w2.heap.size, 0, none⟩ 1 1 [.slice mo x.M.length mc, .int .i64 x.fr, .int .i64 x.tt] rfl rfl HN3.out (by simp [Value.oneCell']) (by unfold maxLen; omega) (by omega) (by have := HB3.out.size; have := heap_lt HBx3.out; omega) ?_)
        intro v' w4 hown' hgrow _
        have hnb : ∀ g, (Value.slice va ys.length vc).ownBlock = some g → w.heap.size + 1 ≤ g := fun g e => (HO3.out.lt g e).1
        have hbx4 : w4.heap[w.heap.size]? = some (.cells #[.slice va ys.length vc] 46) := (hgrow.block _ (heap_lt HBx3.out) (fun e => by have := hnb _ e.symm; omega)).trans HBx3.out
        have HB4 := hid (HB3.out.grown hgrow HB3.out.size (fun g e => by have := hnb g e; omega))
        have q0 : w4.cell? ⟨w.heap.size, 0, none⟩ = some (.slice va ys.length vc) := zcell' _ _ _ _ hbx4 0 _ rfl
        have f0 : w4.frozen? ⟨w.heap.size, 0, none⟩ = false := hfz hbx4 0
        have HO5 : Hid (OwnG w (w4.setCell ⟨w.heap.size, 0, none⟩ v') (w.heap.size + 1) v' (((gs.take i).filter fun g => LB.all L g.M) ++ [x])) := by
          refine ⟨ys ++ [(.slice mo x.M.length mc, x)], by rw [List.map_append, HY1.out]; rfl, ?_, fun p hp => ?_⟩
          · have e1 : gcells (ys ++ [(.slice mo x.M.length mc, x)]) = gcells ys ++ [.slice mo x.M.length mc, .int .i64 x.fr, .int .i64 x.tt] := by simp [gcells]
            rw [e1, List.length_append]
            exact ownsRow_setCell_below hown' (a := ⟨w.heap.size, 0, none⟩) (by show w.heap.size < w.heap.size + 1; omega) v'
          · rcases List.mem_append.1 hp with h | h
            · exact HY3.out p h
            · rw [List.mem_singleton] at h
              subst h
              exact ⟨mo, mc, rfl, HMR.out⟩
        have HBx5 := hid (heap_setCell_same w4 w.heap.size 0 _ _ v' hbx4)
        have HB5 := hid (HB4.out.setCell (p := ⟨w.heap.size, 0, none⟩) (Nat.le_refl _) v')
        obtain ⟨va', vc', ev'⟩ := own_slice hown'
        subst ev'
        clear hown' hgrow hbx4 hnb HO3 HBx3 HB3 HN3 HB4
        go_wp2_with fail
        go_roundw
        case rel => exact ⟨i + 1, by omega, by go_num, HB5.out, _, HBx5.out, by rw [HF.out]; exact HO5.out⟩
        case measure => simp [intOf]; omega
    · have he : i = gs.length := by omega
      have hfull : gs.take i = gs := by rw [he]; exact List.take_length
      have HE : Hid (GoEnd w (gs.filter fun g => LB.all L g.M) (.returned (.func (.func 90) #[] #[.pointer (some ⟨w.heap.size, 0, none⟩)])) wr) := by
        have ho := HOw.out
        rw [hfull] at ho
        obtain ⟨ao, cap, e, hr, hfar⟩ := ho.row HBl.out
        exact ⟨w.heap.size, ao, cap, rfl, HBl.out, Nat.le_refl _, heap_lt HBox.out, by rw [zcell' _ _ _ _ HBox.out 0 v rfl, e], hr.cel, fun a ea => by have := hfar a ea; omega⟩
      clear hfull
      subst he
      go_wp2_with fail
      go_ret
      exact HE.out

end Go.Proofs.YtdmnlmohfaafoaeDoor

