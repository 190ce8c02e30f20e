/- How a head lies in memory. Names no function. -/
import Derived.Test.YtdmnlmohfaafoadGreatDoorPHdRow
import Derived.Laws.OwnMore
namespace Go.Proofs.YtdmnlmohfaafoadGreatDoor
open Go.RowKit

/-- All that was there is as it was, but for the blocks Z. -/
structure ZFr (Z : Nat → Prop) (w w' : World) : Prop where
  os : w'.os = w.os
  tape : w'.tape = w.tape
  output : w'.output = w.output
  size : w.heap.size ≤ w'.heap.size
  block : ∀ j, j < w.heap.size → ¬ Z j → w'.heap[j]? = w.heap[j]?

theorem ZFr.refl (Z : Nat → Prop) (w : World) : ZFr Z w w := ⟨rfl, rfl, rfl, Nat.le_refl _, fun _ _ _ => rfl⟩
theorem ZFr.trans {Z : Nat → Prop} {a b c : World} (h : ZFr Z a b) (k : ZFr Z b c) : ZFr Z a c :=
  ⟨k.os.trans h.os, k.tape.trans h.tape, k.output.trans h.output, Nat.le_trans h.size k.size, fun j hj hn => (k.block j (Nat.lt_of_lt_of_le hj h.size) hn).trans (h.block j hj hn)⟩
/-- .. also where the second may turn what was made behind the first. -/
theorem ZFr.trans' {Z Z' : Nat → Prop} {a b c : World} (h : ZFr Z a b) (k : ZFr Z' b c) (hz : ∀ j, j < a.heap.size → Z' j → Z j) : ZFr Z a c :=
  ⟨k.os.trans h.os, k.tape.trans h.tape, k.output.trans h.output, Nat.le_trans h.size k.size, fun j hj hn => (k.block j (Nat.lt_of_lt_of_le hj h.size) (fun e => hn (hz j hj e))).trans (h.block j hj hn)⟩
theorem ZFr.below {Z : Nat → Prop} {w w' : World} (h : Below w.heap.size w w') : ZFr Z w w' := ⟨h.os, h.tape, h.output, h.size, fun j hj _ => h.block j hj⟩
theorem ZFr.low {Z : Nat → Prop} {w w' : World} (h : ZFr Z w w') {B : Nat} (hB : B ≤ w.heap.size) (hz : ∀ j, Z j → B ≤ j) : Below B w w' := ⟨h.os, h.tape, h.output, h.size, fun j hj => h.block j (by omega) (fun e => by have := hz j e; omega)⟩

theorem bel2 {a b c : World} (h : Below a.heap.size a b) (k : Below b.heap.size b c) : Below a.heap.size a c := h.trans (k.mono h.size)

theorem hfz {w : World} {B : Nat} {c : Array Value} {T : TypeId} (h : w.heap[B]? = some (.cells c T)) (j : Nat) : w.frozen? ⟨B, j, none⟩ = false := by simp [World.frozen?, h]

/-- A store elsewhere. -/
theorem own_set {w : World} {base n size : Nat} {e : TypeId} {v : Value} {xs : List Value} (h : w.ownsRow base e size v n xs) {r : Nat} (hr : v.ownBlock ≠ some r) (o : Nat) (u : Value) : (w.setCell ⟨r, o, none⟩ u).ownsRow base e size v n xs := by
  refine ⟨h.1, ?_⟩
  rcases h.2 with h0 | ⟨g, cap, cur, rfl, a1, a2, a3⟩
  · exact .inl h0
  · exact .inr ⟨g, cap, cur, rfl, a1, (Below.heap_setCell w ⟨r, o, none⟩ u g (fun e => hr (congrArg some e))).trans a2, a3⟩

theorem own_far {w : World} {base n size : Nat} {e : TypeId} {v : Value} {xs : List Value} (h : w.ownsRow base e size v n xs) {r : Nat} (hr : r < base) : v.ownBlock ≠ some r := fun e => by have := (h.lt r e).1; omega

/-- What may turn, and what is new. -/
def wid (Z : Nat → Prop) (w w' : World) : Nat → Prop := fun j => Z j ∨ (w.heap.size ≤ j ∧ j < w'.heap.size)

abbrev nilP : Value × Value := (.nilIface, .nilIface)
abbrev flat (xs : List (Value × Value)) : List Value := xs.flatMap fun p => [p.1, p.2]
abbrev atX (xs : List (Value × Value)) (i : Nat) : Value × Value := xs.getD i nilP

theorem flat_length (xs : List (Value × Value)) : (flat xs).length = xs.length * 2 := by
  induction xs with
  | nil => rfl
  | cons s l ih => simp only [flat, List.flatMap_cons, List.length_append, List.length_cons, List.length_nil] at ih ⊢; omega

theorem flat_cons (p : Value × Value) (xs : List (Value × Value)) : flat (p :: xs) = p.1 :: p.2 :: flat xs := rfl
theorem flat_append (a b : List (Value × Value)) : flat (a ++ b) = flat a ++ flat b := by simp [flat]

theorem flat_get (xs : List (Value × Value)) : ∀ i, i < xs.length → (flat xs)[i * 2]? = some (atX xs i).1 ∧ (flat xs)[i * 2 + 1]? = some (atX xs i).2 := by
  induction xs with
  | nil => intro i hi; simp at hi
  | cons s l ih =>
    intro i hi
    match i with
    | 0 => exact ⟨rfl, rfl⟩
    | i + 1 =>
      obtain ⟨h1, h2⟩ := ih i (by simpa using hi)
      have e1 : (i + 1) * 2 = i * 2 + 2 := by omega
      rw [flat_cons, e1]
      exact ⟨h1, h2⟩

theorem flat_set (xs : List (Value × Value)) (u : Value) : ∀ i, (flat xs).set (i * 2 + 1) u = flat (xs.set i ((atX xs i).1, u)) := by
  induction xs with
  | nil => intro i; rfl
  | cons s l ih =>
    intro i
    match i with
    | 0 => rfl
    | i + 1 =>
      have e1 : (i + 1) * 2 + 1 = (i * 2 + 1) + 2 := by omega
      rw [flat_cons, e1]
      show s.1 :: s.2 :: (flat l).set (i * 2 + 1) u = _
      rw [ih i]
      rfl

theorem flat_ins (a b : Value) : ∀ (xs : List (Value × Value)) (i : Nat), i ≤ xs.length → (flat xs).take (i * 2) ++ [a, b] ++ (flat xs).drop (i * 2) = flat (xs.insertIdx i (a, b))
  | xs, 0, _ => rfl
  | [], i + 1, h => by simp at h
  | s :: l, i + 1, h => by
    have e1 : (i + 1) * 2 = i * 2 + 2 := by omega
    rw [flat_cons, e1]
    show s.1 :: s.2 :: ((flat l).take (i * 2) ++ [a, b] ++ (flat l).drop (i * 2)) = _
    rw [flat_ins a b l i (by simpa using h)]
    rfl

theorem atX_mem {xs : List (Value × Value)} {i : Nat} (h : i < xs.length) : atX xs i ∈ xs := by
  unfold atX
  rw [List.getD_eq_getElem?_getD, List.getElem?_eq_getElem h]
  exact List.getElem_mem h

theorem atX_set (xs : List (Value × Value)) (k i : Nat) (p : Value × Value) (hk : k < xs.length) : atX (xs.set k p) i = if i = k then p else atX xs i := by
  unfold atX
  rw [List.getD_eq_getElem?_getD, List.getD_eq_getElem?_getD, List.getElem?_set]
  by_cases h : k = i
  · subst h; rw [if_pos rfl, if_pos rfl, if_pos hk]; rfl
  · rw [if_neg h, if_neg (fun e => h e.symm)]

theorem atX_ins (xs : List (Value × Value)) (k i : Nat) (p : Value × Value) (hk : k ≤ xs.length) : atX (xs.insertIdx k p) i = if i < k then atX xs i else if i = k then p else atX xs (i - 1) := by
  unfold atX
  rw [List.getD_eq_getElem?_getD, List.getD_eq_getElem?_getD, List.getElem?_insertIdx]
  split
  · rfl
  · split
    · rename_i h1 h2; subst h2; rw [if_pos hk]; rfl
    · rw [List.getD_eq_getElem?_getD]

theorem atSr_set (S : List Sr) (k i : Nat) (p : Sr) (hk : k < S.length) : atSr (S.set k p) i = if i = k then p else atSr S i := by
  unfold atSr
  rw [List.getD_eq_getElem?_getD, List.getD_eq_getElem?_getD, List.getElem?_set]
  by_cases h : k = i
  · subst h; rw [if_pos rfl, if_pos rfl, if_pos hk]; rfl
  · rw [if_neg h, if_neg (fun e => h e.symm)]

theorem atSr_ins (S : List Sr) (k i : Nat) (p : Sr) (hk : k ≤ S.length) : atSr (S.insertIdx k p) i = if i < k then atSr S i else if i = k then p else atSr S (i - 1) := by
  unfold atSr
  rw [List.getD_eq_getElem?_getD, List.getD_eq_getElem?_getD, List.getElem?_insertIdx]
  split
  · rfl
  · split
    · rename_i h1 h2; subst h2; rw [if_pos hk]; rfl
    · rw [List.getD_eq_getElem?_getD]

/-- A head's box, its row of series, their rows; no two series have one block of samples. -/
structure HdX (w : World) (hb : Nat) (mark : Int) (S : List Sr) (v : Value) (xs : List (Value × Value)) : Prop where
  box : w.heap[hb]? = some (.cells #[.int .i64 mark, v] 105)
  len : xs.length = S.length
  row : w.ownsRow 0 55 2 v S.length (flat xs)
  labs : ∀ i, i < S.length → OwnLb w 0 (atX xs i).1 (atSr S i).1
  smps : ∀ i, i < S.length → OwnSm w 0 (atX xs i).2 (atSr S i).2
  apart : ∀ i j, i < S.length → j < S.length → i ≠ j → (atX xs i).2.ownBlock ≠ (atX xs j).2.ownBlock

/-- It stays where all blocks of it stay. -/
theorem HdX.below {w w' : World} {hb : Nat} {mark : Int} {S : List Sr} {v : Value} {xs : List (Value × Value)} (h : HdX w hb mark S v xs) (k : Below w.heap.size w w') : HdX w' hb mark S v xs where
  box := (k.block hb (heap_lt h.box)).trans h.box
  len := h.len
  row := row_kept h.row fun g _ hg => k.block g (heap_lt hg)
  labs i hi := row_kept (h.labs i hi) fun g _ hg => k.block g (heap_lt hg)
  smps i hi := row_kept (h.smps i hi) fun g _ hg => k.block g (heap_lt hg)
  apart := h.apart

/-- A head, and the blocks that may turn. -/
def HdI (w : World) (hb : Nat) (Z : Nat → Prop) (mark : Int) (S : List Sr) : Prop :=
  (∃ v xs, HdX w hb mark S v xs ∧ ∀ i, i < S.length → ∀ g, (atX xs i).2.ownBlock = some g → Z g) ∧ Z hb ∧ ∀ j, Z j → j < w.heap.size

theorem HdI.below {w w' : World} {hb : Nat} {Z : Nat → Prop} {mark : Int} {S : List Sr} (h : HdI w hb Z mark S) (k : Below w.heap.size w w') : HdI w' hb Z mark S := by
  obtain ⟨⟨v, xs, h1, h2⟩, h3, h4⟩ := h
  exact ⟨⟨v, xs, h1.below k, h2⟩, h3, fun j hj => Nat.lt_of_lt_of_le (h4 j hj) k.size⟩

/-- A series' cells in the row. -/
theorem HdX.cells {w : World} {hb : Nat} {mark : Int} {S : List Sr} {v : Value} {xs : List (Value × Value)} (h : HdX w hb mark S v xs) (hn : 0 < S.length) : ∃ g cap, v = .slice (some ⟨g, 0, none⟩) S.length cap ∧ g < w.heap.size ∧ ∀ i, i < S.length → w.cell? ⟨g, i * 2, none⟩ = some (atX xs i).1 ∧ w.cell? ⟨g, i * 2 + 1, none⟩ = some (atX xs i).2 := by
  rcases h.row.2 with ⟨_, h0⟩ | ⟨g, cap, cur, h0, _, hc, _⟩
  · omega
  · refine ⟨g, cap, h0, heap_lt hc, fun i hi => ?_⟩
    obtain ⟨q1, q2⟩ := flat_get xs i (by rw [h.len]; exact hi)
    have c := h.row.cells (g := g) (by rw [h0]; rfl)
    have c1 := c _ _ q1
    have c2 := c _ _ q2
    rw [Addr.add_lit, Nat.zero_add] at c1 c2
    exact ⟨c1, c2⟩

/-- A head's series, read. -/
theorem HdX.srow {w : World} {hb : Nat} {mark : Int} {S : List Sr} {v : Value} {xs : List (Value × Value)} (h : HdX w hb mark S v xs) : SrOwn w 0 v S := ⟨xs, h.len, h.row, fun i hi => ⟨h.labs i hi, h.smps i hi⟩⟩

/-- Series that lie there, none of them in Z. -/
def LOut (w : World) (Z : Nat → Prop) (ao : Option Addr) (l : List LB.Lab) : Prop := LRow w ao l ∧ ∀ a, ao = some a → 0 < l.length → ¬ Z a.block
def SOut (w : World) (Z : Nat → Prop) (ao : Option Addr) (l : List CL.Smp) : Prop := SRow w ao l ∧ ∀ a, ao = some a → 0 < l.length → ¬ Z a.block
def SrOut (w : World) (Z : Nat → Prop) (ao : Option Addr) (l : List Sr) : Prop :=
  ∀ i, i < l.length → ∃ b off, ao = some ⟨b, off, none⟩ ∧ b < w.heap.size ∧ ¬ Z b ∧ ∃ lo lc so sc, w.cell? ⟨b, off + i * 2, none⟩ = some (.slice lo (atSr l i).1.length lc) ∧ w.cell? ⟨b, off + i * 2 + 1, none⟩ = some (.slice so (atSr l i).2.length sc) ∧ LOut w Z lo (atSr l i).1 ∧ SOut w Z so (atSr l i).2

theorem SrOut.row {w : World} {Z : Nat → Prop} {ao : Option Addr} {l : List Sr} (h : SrOut w Z ao l) : SrRow w ao l := by
  intro i hi
  obtain ⟨b, off, h1, h2, _, lo, lc, so, sc, h3, h4, h5, h6⟩ := h i hi
  exact ⟨b, off, h1, h2, lo, lc, so, sc, h3, h4, h5.1, h6.1⟩

theorem zcell {Z : Nat → Prop} {w w' : World} (h : ZFr Z w w') {b o : Nat} (hb : b < w.heap.size) (hz : ¬ Z b) : w'.cell? ⟨b, o, none⟩ = w.cell? ⟨b, o, none⟩ := World.cell?_of_block (a := ⟨b, o, none⟩) (h.block b hb hz)

theorem LOut.kept {w w' : World} {Z : Nat → Prop} {ao : Option Addr} {l : List LB.Lab} (h : LOut w Z ao l) (hz : ZFr Z w w') : LOut w' Z ao l := by
  refine ⟨fun i hi => ?_, h.2⟩
  obtain ⟨b, off, h1, h2, h3, h4⟩ := h.1 i hi
  have hn : ¬ Z b := h.2 _ h1 (by omega)
  exact ⟨b, off, h1, (zcell hz h4 hn).trans h2, (zcell hz h4 hn).trans h3, Nat.lt_of_lt_of_le h4 hz.size⟩

theorem SOut.kept {w w' : World} {Z : Nat → Prop} {ao : Option Addr} {l : List CL.Smp} (h : SOut w Z ao l) (hz : ZFr Z w w') : SOut w' Z ao l := by
  refine ⟨fun i hi => ?_, h.2⟩
  obtain ⟨b, off, h1, h2, h3, h4⟩ := h.1 i hi
  have hn : ¬ Z b := h.2 _ h1 (by omega)
  exact ⟨b, off, h1, (zcell hz h4 hn).trans h2, (zcell hz h4 hn).trans h3, Nat.lt_of_lt_of_le h4 hz.size⟩

theorem SrOut.kept {w w' : World} {Z : Nat → Prop} {ao : Option Addr} {l : List Sr} (h : SrOut w Z ao l) (hz : ZFr Z w w') : SrOut w' Z ao l := by
  intro i hi
  obtain ⟨b, off, h1, h2, hn, lo, lc, so, sc, h3, h4, h5, h6⟩ := h i hi
  exact ⟨b, off, h1, Nat.lt_of_lt_of_le h2 hz.size, hn, lo, lc, so, sc, (zcell hz h2 hn).trans h3, (zcell hz h2 hn).trans h4, h5.kept hz, h6.kept hz⟩

/-- Z may grow by what is new. -/
theorem SrOut.wide {w : World} {Z Z' : Nat → Prop} {ao : Option Addr} {l : List Sr} (h : SrOut w Z ao l) (hz : ∀ j, Z' j → Z j ∨ w.heap.size ≤ j) : SrOut w Z' ao l := by
  intro i hi
  obtain ⟨b, off, h1, h2, hn, lo, lc, so, sc, h3, h4, h5, h6⟩ := h i hi
  have key : ∀ j, j < w.heap.size → ¬ Z j → ¬ Z' j := fun j hj hnz e => by
    rcases hz j e with e | e
    · exact hnz e
    · omega
  refine ⟨b, off, h1, h2, key b h2 hn, lo, lc, so, sc, h3, h4, ⟨h5.1, fun a ha h0 => ?_⟩, ⟨h6.1, fun a ha h0 => ?_⟩⟩
  · obtain ⟨b', _, e, _, _, h9⟩ := h5.1 0 h0
    rw [ha] at e; cases e
    exact key _ h9 (h5.2 _ ha h0)
  · obtain ⟨b', _, e, _, _, h9⟩ := h6.1 0 h0
    rw [ha] at e; cases e
    exact key _ h9 (h6.2 _ ha h0)

/-- Rows made where no block of Z is. -/
theorem SrOut.of_own {w : World} {base : Nat} {Z : Nat → Prop} {v : Value} {l : List Sr} (h : SrOwn w base v l) (hz : ∀ j, Z j → j < base) : ∃ ao cap, v = .slice ao l.length cap ∧ SrOut w Z ao l := by
  obtain ⟨xs, h1, h2, h3⟩ := h
  have key : ∀ j, base ≤ j → ¬ Z j := fun j hj e => by have := hz j e; omega
  rcases hb : h2.2 with ⟨h0, hn⟩ | ⟨g, cap, cur, h0, hg, hc, _⟩
  · exact ⟨none, 0, by rw [h0, hn], fun i hi => by omega⟩
  · refine ⟨some ⟨g, 0, none⟩, cap, h0, fun i hi => ⟨g, 0, rfl, heap_lt hc, key g hg, ?_⟩⟩
    obtain ⟨k1, k2⟩ := h3 i hi
    obtain ⟨lo, lc, e1, r1⟩ := LRow.of_own k1
    obtain ⟨so, sc, e2, r2⟩ := SRow.of_own k2
    obtain ⟨q1, q2⟩ := flat_get xs i (by omega)
    have c := h2.cells (g := g) (by rw [h0]; rfl)
    have c1 := c _ _ q1
    have c2 := c _ _ q2
    rw [Addr.add_lit, Nat.zero_add] at c1 c2
    refine ⟨lo, lc, so, sc, ?_, ?_, ⟨r1, fun a ha _ => ?_⟩, ⟨r2, fun a ha _ => ?_⟩⟩
    · rw [Nat.zero_add, c1]; exact congrArg some e1
    · rw [Nat.zero_add, c2]; exact congrArg some e2
    · exact key _ (k1.lt a.block (by rw [e1, ha]; rfl)).1
    · exact key _ (k2.lt a.block (by rw [e2, ha]; rfl)).1

/-- .. and rows that were there ahead of Z. -/
theorem SrOut.of_row {w : World} {Z : Nat → Prop} {ao : Option Addr} {l : List Sr} (h : SrRow w ao l) (hz : ∀ j, Z j → w.heap.size ≤ j) : SrOut w Z ao l := by
  have key : ∀ j, j < w.heap.size → ¬ Z j := fun j hj e => by have := hz j e; omega
  intro i hi
  obtain ⟨b, off, h1, h2, lo, lc, so, sc, h3, h4, h5, h6⟩ := h i hi
  refine ⟨b, off, h1, h2, key b h2, lo, lc, so, sc, h3, h4, ⟨h5, fun a ha h0 => ?_⟩, ⟨h6, fun a ha h0 => ?_⟩⟩
  · obtain ⟨b', _, e, _, _, h9⟩ := h5 0 h0
    rw [ha] at e; cases e
    exact key _ h9
  · obtain ⟨b', _, e, _, _, h9⟩ := h6 0 h0
    rw [ha] at e; cases e
    exact key _ h9

/-- The cells of rows that lie there. -/
theorem lrow_cells {w : World} {ao : Option Addr} {l : List LB.Lab} (h : LRow w ao l) : ∀ ad, ao = some ad → ∀ j u, (lv l)[j]? = some u → w.cell? (ad.add j) = some u := by
  intro ad had j u hj
  have hlt : j < (lv l).length := (List.getElem?_eq_some_iff.1 hj).1
  rw [lv_length] at hlt
  obtain ⟨b, off, e, c0, c1, hbs⟩ := h (j / 2) (by omega)
  rw [had] at e
  obtain rfl := Option.some.inj e
  obtain ⟨g0, g1⟩ := lv_get l (j / 2) (by omega)
  rw [Addr.add_lit]
  rcases Nat.mod_two_eq_zero_or_one j with hp | hp
  · have ej : j / 2 * 2 = j := by omega
    rw [ej] at g0 c0
    rw [g0] at hj
    rw [← hj]; exact c0
  · have ej : j / 2 * 2 + 1 = j := by omega
    rw [Nat.add_assoc, ej] at c1
    rw [ej] at g1
    rw [g1] at hj
    rw [← hj]; exact c1

theorem smp_cells {w : World} {ao : Option Addr} {l : List CL.Smp} (h : SRow w ao l) : ∀ ad, ao = some ad → ∀ j u, (sv l)[j]? = some u → w.cell? (ad.add j) = some u := by
  intro ad had j u hj
  have hlt : j < (sv l).length := (List.getElem?_eq_some_iff.1 hj).1
  rw [sv_length] at hlt
  obtain ⟨b, off, e, c0, c1, hbs⟩ := h (j / 2) (by omega)
  rw [had] at e
  obtain rfl := Option.some.inj e
  obtain ⟨g0, g1⟩ := sv_get l (j / 2) (by omega)
  rw [Addr.add_lit]
  rcases Nat.mod_two_eq_zero_or_one j with hp | hp
  · have ej : j / 2 * 2 = j := by omega
    rw [ej] at g0 c0
    rw [g0] at hj
    rw [← hj]; exact c0
  · have ej : j / 2 * 2 + 1 = j := by omega
    rw [Nat.add_assoc, ej] at c1
    rw [ej] at g1
    rw [g1] at hj
    rw [← hj]; exact c1

theorem lv_one (l : List LB.Lab) : ∀ u ∈ lv l, u.oneCell' = true := by
  intro u hu
  simp only [lv, List.mem_flatMap, List.mem_cons, List.not_mem_nil, or_false] at hu
  obtain ⟨s, _, rfl | rfl⟩ := hu <;> rfl

theorem sv_one (l : List CL.Smp) : ∀ u ∈ sv l, u.oneCell' = true := by
  intro u hu
  simp only [sv, List.mem_flatMap, List.mem_cons, List.not_mem_nil, or_false] at hu
  obtain ⟨s, _, rfl | rfl⟩ := hu <;> rfl

theorem own_one {w : World} {base n size : Nat} {e : TypeId} {v : Value} {xs : List Value} (h : w.ownsRow base e size v n xs) : v.oneCell' = true := by
  obtain ⟨ao, cap, rfl⟩ := own_slice h
  rfl

theorem HdX.one {w : World} {hb : Nat} {mark : Int} {S : List Sr} {v : Value} {xs : List (Value × Value)} (h : HdX w hb mark S v xs) : ∀ u ∈ flat xs, u.oneCell' = true := by
  intro u hu
  obtain ⟨p, hp, hu⟩ := List.mem_flatMap.1 hu
  obtain ⟨i, hi, e⟩ := List.mem_iff_getElem.1 hp
  have e2 : atX xs i = p := by
    unfold atX; rw [List.getD_eq_getElem?_getD, List.getElem?_eq_getElem hi]; exact e
  rw [h.len] at hi
  rcases List.mem_cons.1 hu with rfl | hu
  · rw [← e2]; exact own_one (h.labs i hi)
  · rcases List.mem_cons.1 hu with rfl | hu
    · rw [← e2]; exact own_one (h.smps i hi)
    · cases hu

/-- One series, written down. -/
theorem lit_own {W : World} {base b1 b2 b3 : Nat} {n s : ByteArray} {t v : Int} (h1 : W.heap[b1]? = some (.cells #[.string n, .string s] 49)) (h2 : W.heap[b2]? = some (.cells #[.int .i64 t, .int .i64 v] 52)) (h3 : W.heap[b3]? = some (.cells #[.slice (some ⟨b1, 0, none⟩) 1 1, .slice (some ⟨b2, 0, none⟩) 1 1] 55)) (k1 : base ≤ b1) (k2 : base ≤ b2) (k3 : base ≤ b3) :
    SrOwn W base (.slice (some ⟨b3, 0, none⟩) 1 1) [([(n, s)], [(t, v)])] := by
  have hm : 1 ≤ maxLen := by unfold maxLen; omega
  refine ⟨[(.slice (some ⟨b1, 0, none⟩) 1 1, .slice (some ⟨b2, 0, none⟩) 1 1)], rfl, ⟨rfl, .inr ⟨b3, 1, _, rfl, k3, h3, Nat.le_refl _, hm, rfl, rfl⟩⟩, fun i hi => ?_⟩
  have hi0 : i = 0 := by simp at hi; omega
  subst hi0
  exact ⟨⟨rfl, .inr ⟨b1, 1, _, rfl, k1, h1, Nat.le_refl _, hm, rfl, rfl⟩⟩, ⟨rfl, .inr ⟨b2, 1, _, rfl, k2, h2, Nat.le_refl _, hm, rfl, rfl⟩⟩⟩

/-- Three new blocks, one behind the other. -/
theorem three_new (w : World) (o1 o2 o3 : Obj) : (((w.alloc o1).alloc o2).alloc o3).heap[w.heap.size]? = some o1 ∧ (((w.alloc o1).alloc o2).alloc o3).heap[w.heap.size + 1]? = some o2 ∧ (((w.alloc o1).alloc o2).alloc o3).heap[w.heap.size + 1 + 1]? = some o3 := by
  have e1 : (w.alloc o1).heap.size = w.heap.size + 1 := by simp
  have e2 : ((w.alloc o1).alloc o2).heap.size = w.heap.size + 1 + 1 := by simp
  refine ⟨?_, ?_, ?_⟩
  · rw [Below.heap_alloc _ o3 _ (by omega), Below.heap_alloc _ o2 _ (by omega)]; exact heap_alloc_new w o1
  · rw [Below.heap_alloc _ o3 _ (by omega)]
    have := heap_alloc_new (w.alloc o1) o2
    rwa [e1] at this
  · have := heap_alloc_new ((w.alloc o1).alloc o2) o3
    rwa [e2] at this

end Go.Proofs.YtdmnlmohfaafoadGreatDoor

