/- How series lie in memory: given, and made on the way. Names no function. -/
import Derived.Test.YtdmnlmohfaafoadGreatDoorCdTxt
import Derived.Test.YtdmnlmohfaafoadGreatDoorCxShrt
import Derived.Test.YtdmnlmohfaafoadGreatDoorChSam
namespace Go.Proofs.YtdmnlmohfaafoadGreatDoor
open Go.RowKit

/-- A series: labels, and samples. -/
abbrev Sr := List LB.Lab × List CL.Smp

/-- Labels as two rows of bytes each, and back. -/
def lbOf (l : List LB.Lab) : List CD.Lb := l.map fun p => (p.1.data.toList, p.2.data.toList)
def toLab (l : List CD.Lb) : List LB.Lab := l.map fun p => (sb p.1, sb p.2)

theorem toLab_lbOf (l : List LB.Lab) : toLab (lbOf l) = l := by
  unfold toLab lbOf
  rw [List.map_map]
  conv => rhs; rw [← List.map_id l]
  apply List.map_congr_left
  intro p _
  show (sb p.1.data.toList, sb p.2.data.toList) = p
  rw [sb_of, sb_of]

theorem lbOf_toLab (l : List CD.Lb) : lbOf (toLab l) = l := by
  unfold toLab lbOf
  rw [List.map_map]
  conv => rhs; rw [← List.map_id l]
  apply List.map_congr_left
  intro p _
  show ((sb p.1).data.toList, (sb p.2).data.toList) = p
  rw [sb_data, sb_data]

/-- Chunks as bytes; which labels may be. -/
def chE (l : List CL.Smp) : List UInt8 := (strOf (BL.pk (CL.chB l))).data.toList
def chD (c : List UInt8) : Option (List CL.Smp) := CL.readL (bitsS (sb c))
def lbK (l : List CD.Lb) : Bool := LB.right (toLab l)

theorem lbK_of (l : List LB.Lab) : lbK (lbOf l) = LB.right l := by unfold lbK; rw [toLab_lbOf]

def srOf (x : Sr) : List CD.Lb × List CL.Smp := (lbOf x.1, x.2)
def toSr (x : List CD.Lb × List CL.Smp) : Sr := (toLab x.1, x.2)

def atSr (l : List Sr) (i : Nat) : Sr := l.getD i ([], [])

/-- Series that came in. -/
def SrRow (w : World) (ao : Option Addr) (l : List Sr) : Prop :=
  ∀ i, i < l.length → ∃ b off, ao = some ⟨b, off, none⟩ ∧ b < w.heap.size ∧ ∃ lo lc so sc, w.cell? ⟨b, off + i * 2, none⟩ = some (.slice lo (atSr l i).1.length lc) ∧ w.cell? ⟨b, off + i * 2 + 1, none⟩ = some (.slice so (atSr l i).2.length sc) ∧ LRow w lo (atSr l i).1 ∧ SRow w so (atSr l i).2

theorem SrRow.below {w w' : World} {ao : Option Addr} {l : List Sr} (h : SrRow w ao l) (hb : Below w.heap.size w w') : SrRow w' ao l := by
  intro i hi
  obtain ⟨b, off, h1, h2, lo, lc, so, sc, h3, h4, h5, h6⟩ := h i hi
  exact ⟨b, off, h1, Nat.lt_of_lt_of_le h2 hb.size, lo, lc, so, sc, (hb.cell (p := ⟨b, _, none⟩) h2).trans h3, (hb.cell (p := ⟨b, _, none⟩) h2).trans h4, h5.below hb, h6.below hb⟩

/-- Rows of labels and of samples of one's own. -/
abbrev OwnLb (w : World) (base : Nat) (v : Value) (l : List LB.Lab) : Prop := w.ownsRow base 49 2 v l.length (lv l)
abbrev OwnSm (w : World) (base : Nat) (v : Value) (l : List CL.Smp) : Prop := w.ownsRow base 52 2 v l.length (sv l)

/-- A row stays where each block of its kind stays. -/
theorem row_kept {w w' : World} {base n size : Nat} {e : TypeId} {v : Value} {xs : List Value} (h : w.ownsRow base e size v n xs) (hk : ∀ (g : Nat) (c : Array Value), w.heap[g]? = some (Obj.cells c e) → w'.heap[g]? = w.heap[g]?) : w'.ownsRow base e size v n xs := by
  refine ⟨h.1, ?_⟩
  rcases h.2 with h0 | ⟨g, cap, cur, rfl, a1, a2, a3⟩
  · exact .inl h0
  · exact .inr ⟨g, cap, cur, rfl, a1, (hk g cur a2).trans a2, a3⟩

theorem row_low {w : World} {base base' n size : Nat} {e : TypeId} {v : Value} {xs : List Value} (h : w.ownsRow base e size v n xs) (hb : base' ≤ base) : w.ownsRow base' e size v n xs := by
  refine ⟨h.1, ?_⟩
  rcases h.2 with h0 | ⟨g, cap, cur, rfl, a1, a2⟩
  · exact .inl h0
  · exact .inr ⟨g, cap, cur, rfl, Nat.le_trans hb a1, a2⟩

/-- Series that were made on the way: a row of pairs of rows. -/
def SrOwn (w : World) (base : Nat) (v : Value) (l : List Sr) : Prop :=
  ∃ xs : List (Value × Value), xs.length = l.length ∧ w.ownsRow base 55 2 v l.length (xs.flatMap fun p => [p.1, p.2]) ∧ ∀ i, i < l.length → OwnLb w base (xs.getD i (.nilIface, .nilIface)).1 (atSr l i).1 ∧ OwnSm w base (xs.getD i (.nilIface, .nilIface)).2 (atSr l i).2

theorem SrOwn.nil (w : World) (base : Nat) : SrOwn w base (.slice none 0 0) [] := ⟨[], rfl, ⟨rfl, .inl ⟨rfl, rfl⟩⟩, fun i hi => by simp at hi⟩

/-- They stay where each block of these kinds stays. -/
theorem SrOwn.kept {w w' : World} {base : Nat} {v : Value} {l : List Sr} (h : SrOwn w base v l) (hk : ∀ (g : Nat) (c : Array Value) (e : TypeId), (e = 55 ∨ e = 49 ∨ e = 52) → w.heap[g]? = some (Obj.cells c e) → w'.heap[g]? = w.heap[g]?) : SrOwn w' base v l := by
  obtain ⟨xs, h1, h2, h3⟩ := h
  refine ⟨xs, h1, row_kept h2 (fun g c hg => hk g c _ (.inl rfl) hg), fun i hi => ?_⟩
  obtain ⟨h4, h5⟩ := h3 i hi
  exact ⟨row_kept h4 (fun g c hg => hk g c _ (.inr (.inl rfl)) hg), row_kept h5 (fun g c hg => hk g c _ (.inr (.inr rfl)) hg)⟩

theorem SrOwn.below {w w' : World} {base : Nat} {v : Value} {l : List Sr} (h : SrOwn w base v l) (hb : Below w.heap.size w w') : SrOwn w' base v l := h.kept fun g _ _ _ hg => hb.block g (heap_lt hg)

/-- All that was there is as it was, but for one block. -/
def But (bt : Nat) (w w' : World) : Prop := w'.os = w.os ∧ w'.tape = w.tape ∧ w'.output = w.output ∧ w.heap.size ≤ w'.heap.size ∧ ∀ j, j < w.heap.size → j ≠ bt → w'.heap[j]? = w.heap[j]?

theorem But.refl (bt : Nat) (w : World) : But bt w w := ⟨rfl, rfl, rfl, Nat.le_refl _, fun _ _ _ => rfl⟩

theorem But.trans {bt : Nat} {a b c : World} (h : But bt a b) (k : But bt b c) : But bt a c :=
  ⟨k.1.trans h.1, k.2.1.trans h.2.1, k.2.2.1.trans h.2.2.1, Nat.le_trans h.2.2.2.1 k.2.2.2.1, fun j hj hne => (k.2.2.2.2 j (Nat.lt_of_lt_of_le hj h.2.2.2.1) hne).trans (h.2.2.2.2 j hj hne)⟩

theorem But.below {bt : Nat} {w w' : World} (h : Below w.heap.size w w') : But bt w w' := ⟨h.os, h.tape, h.output, h.size, fun j hj _ => h.block j hj⟩

theorem But.grown {bt : Nat} {w w' : World} (h : w.grownBy w' (some bt)) : But bt w w' := ⟨h.os, h.tape, h.output, h.size, fun j hj hne => h.block j hj (fun e => hne (Option.some.inj e))⟩

/-- A block that was made behind w may turn. -/
theorem But.own {bt : Nat} {a w w' : World} {row : Option Nat} (h : But bt a w) (k : w.grownBy w' row) (hr : ∀ g, row = some g → a.heap.size ≤ g) : But bt a w' :=
  ⟨k.os.trans h.1, k.tape.trans h.2.1, k.output.trans h.2.2.1, Nat.le_trans h.2.2.2.1 k.size, fun j hj hne => (k.block j (Nat.lt_of_lt_of_le hj h.2.2.2.1) (fun e => by have := hr j e.symm; omega)).trans (h.2.2.2.2 j hj hne)⟩

/-- One series more: its row is there, and those of its labels and samples. -/
theorem SrOwn.snoc {w : World} {base : Nat} {v lvv svv : Value} {l : List Sr} {x : Sr} {xs : List (Value × Value)} (hl : xs.length = l.length) (hrow : w.ownsRow base 55 2 v (l.length + 1) ((xs.flatMap fun p => [p.1, p.2]) ++ [lvv, svv]))
    (hall : ∀ i, i < l.length → OwnLb w base (xs.getD i (.nilIface, .nilIface)).1 (atSr l i).1 ∧ OwnSm w base (xs.getD i (.nilIface, .nilIface)).2 (atSr l i).2) (h1 : OwnLb w base lvv x.1) (h2 : OwnSm w base svv x.2) : SrOwn w base v (l ++ [x]) := by
  refine ⟨xs ++ [(lvv, svv)], by rw [List.length_append, List.length_append, hl]; rfl, ?_, fun i hi => ?_⟩
  · have e : ((xs ++ [(lvv, svv)]).flatMap fun p => [p.1, p.2]) = (xs.flatMap fun p => [p.1, p.2]) ++ [lvv, svv] := by simp [List.flatMap_append]
    rw [e, List.length_append]
    exact hrow
  · by_cases hlt : i < l.length
    · have e1 : (xs ++ [(lvv, svv)]).getD i (.nilIface, .nilIface) = xs.getD i (.nilIface, .nilIface) := by
        rw [List.getD_eq_getElem?_getD, List.getD_eq_getElem?_getD, List.getElem?_append_left (by omega)]
      have e2 : atSr (l ++ [x]) i = atSr l i := by
        unfold atSr
        rw [List.getD_eq_getElem?_getD, List.getD_eq_getElem?_getD, List.getElem?_append_left hlt]
      rw [e1, e2]
      exact hall i hlt
    · have hie : i = l.length := by
        rw [List.length_append] at hi
        simp only [List.length_cons, List.length_nil] at hi
        omega
      subst hie
      have e1 : (xs ++ [(lvv, svv)]).getD l.length (.nilIface, .nilIface) = (lvv, svv) := by
        rw [List.getD_eq_getElem?_getD, ← hl, List.getElem?_append_right (Nat.le_refl _)]
        simp
      have e2 : atSr (l ++ [x]) l.length = x := by
        unfold atSr
        rw [List.getD_eq_getElem?_getD, List.getElem?_append_right (Nat.le_refl _)]
        simp
      rw [e1, e2]
      exact ⟨h1, h2⟩

theorem own_slice {w : World} {base n size : Nat} {e : TypeId} {v : Value} {xs : List Value} (h : w.ownsRow base e size v n xs) : ∃ ao cap, v = .slice ao n cap := by
  rcases h.2 with ⟨h0, h1⟩ | ⟨g, cap, cur, h0, _⟩
  · exact ⟨none, 0, by rw [h0, h1]⟩
  · exact ⟨_, cap, h0⟩

theorem Tryz.infoLb : (Tryz.prog.info? 49).map (fun i => (i.zero, i.size, i.bytes)) = some (some (.agg #[.string ⟨#[]⟩, .string ⟨#[]⟩]), 2, 32) := by kernel_rfl

theorem Tryz.infoSr : (Tryz.prog.info? 55).map (fun i => (i.zero, i.size, i.bytes)) = some (some (.agg #[.slice none 0 0, .slice none 0 0]), 2, 48) := by kernel_rfl

theorem zcell' (w : World) (b : Nat) (a : Array Value) (t : TypeId) (h : w.heap[b]? = some (.cells a t)) (i : Nat) (v : Value) (hv : a[i]? = some v) : w.cell? ⟨b, i, none⟩ = some v := by simp [World.cell?, h, hv]

theorem SrOwn.low {w : World} {base base' : Nat} {v : Value} {l : List Sr} (h : SrOwn w base v l) (hb : base' ≤ base) : SrOwn w base' v l := by
  obtain ⟨xs, h1, h2, h3⟩ := h
  exact ⟨xs, h1, row_low h2 hb, fun i hi => ⟨row_low (h3 i hi).1 hb, row_low (h3 i hi).2 hb⟩⟩

/-- Series with few labels and samples each. -/
def SrFew (l : List Sr) : Prop := l.length ≤ 10000000 ∧ ∀ i, i < l.length → (atSr l i).1.length ≤ 1000 ∧ (atSr l i).2.length ≤ 1000000

/-- A row of series that was made, read as one that is there. -/
theorem SrRow.of_own {w : World} {base : Nat} {v : Value} {l : List Sr} (h : SrOwn w base v l) : ∃ ao cap, v = .slice ao l.length cap ∧ SrRow w ao l := by
  obtain ⟨xs, h1, h2, h3⟩ := h
  have hlt := h2.lt
  have h0 := h2
  obtain ⟨ha, hb⟩ := h2
  have hget : ∀ (xs : List (Value × Value)) (i : Nat), i < xs.length → (xs.flatMap fun p => [p.1, p.2])[i * 2]? = some (xs.getD i (.nilIface, .nilIface)).1 ∧ (xs.flatMap fun p => [p.1, p.2])[i * 2 + 1]? = some (xs.getD i (.nilIface, .nilIface)).2 := by
    intro xs
    induction xs with
    | nil => intro i hi; simp at hi
    | cons s l ih =>
      intro i hi
      match i with
      | 0 => exact ⟨rfl, rfl⟩
      | i + 1 =>
        obtain ⟨h1, h2⟩ := ih i (by simpa using hi)
        have e : ((s :: l).flatMap fun p : Value × Value => [p.1, p.2]) = s.1 :: s.2 :: (l.flatMap fun p => [p.1, p.2]) := rfl
        have e1 : (i + 1) * 2 = i * 2 + 2 := by omega
        rw [e, e1]
        exact ⟨h1, h2⟩
  rcases hb with ⟨rfl, hn⟩ | ⟨g, cap, cur, rfl, hg, hh, r⟩
  · exact ⟨none, 0, by rw [hn], fun i hi => by omega⟩
  · refine ⟨some ⟨g, 0, none⟩, cap, rfl, fun i hi => ⟨g, 0, rfl, (hlt g rfl).2, ?_⟩⟩
    obtain ⟨k1, k2⟩ := h3 i hi
    obtain ⟨lo, lc, e1, r1⟩ := LRow.of_own k1
    obtain ⟨so, sc, e2, r2⟩ := SRow.of_own k2
    obtain ⟨q1, q2⟩ := hget xs i (by omega)
    refine ⟨lo, lc, so, sc, ?_, ?_, r1, r2⟩
    · rw [Nat.zero_add, h0.cellAt (i * 2) (by omega), q1, e1]
    · rw [Nat.zero_add, h0.cellAt (i * 2 + 1) (by omega), q2, e2]

end Go.Proofs.YtdmnlmohfaafoadGreatDoor
