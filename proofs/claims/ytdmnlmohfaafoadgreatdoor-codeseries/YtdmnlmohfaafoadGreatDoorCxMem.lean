/- How labels, matchers and names lie in memory (names no function). (made by mkcd.py) -/
import Derived.Test.YtdmnlmohfaafoadGreatDoorLbNum
import Derived.Test.YtdmnlmohfaafoadGreatDoorChWrite
import Derived.WalkKit
import Derived.WalkSpells
import Derived.WalkLawsBesides
import Derived.Handy
import Derived.Laws.BitsAllLaws
import Derived.StillTailTactics
import Derived.BigQuiet
import Derived.Deep.Onto
import Derived.Laws.StructEq
import Derived.Laws.IdiomStrings
namespace Go.Proofs.YtdmnlmohfaafoadGreatDoor
open Go.RowKit

theorem ret_str {a b : ByteArray} (h : a = b) : Ending.returned (.string a) = .returned (.string b) := by rw [h]

theorem lbelow_drewN {B : Nat} {a w : World} (h : Below B a w) (n : Nat) : Below B a (w.drewN n) := ⟨h.os, h.tape, h.output, h.size, h.block⟩

theorem own_heap {w w' : World} {base n size : Nat} {e : TypeId} {v : Value} {xs : List Value} (h : w.ownsRow base e size v n xs) (hh : w'.heap = w.heap) : w'.ownsRow base e size v n xs := by
  unfold World.ownsRow at h ⊢
  rw [hh]; exact h

/-- The labels l lie from ao on. -/
def LRow (w : World) (ao : Option Addr) (l : List LB.Lab) : Prop :=
  ∀ i, i < l.length → ∃ b off, ao = some ⟨b, off, none⟩ ∧ w.cell? ⟨b, off + i * 2, none⟩ = some (.string (LB.at' l i).1) ∧ w.cell? ⟨b, off + i * 2 + 1, none⟩ = some (.string (LB.at' l i).2) ∧ b < w.heap.size

theorem LRow.below {w w' : World} {ao : Option Addr} {l : List LB.Lab} (h : LRow w ao l) (hb : Below w.heap.size w w') : LRow w' ao l := by
  intro i hi
  obtain ⟨b, off, h1, h2, h3, h4⟩ := h i hi
  exact ⟨b, off, h1, (hb.cell (p := ⟨b, _, none⟩) h4).trans h2, (hb.cell (p := ⟨b, _, none⟩) h4).trans h3, Nat.lt_of_lt_of_le h4 hb.size⟩

/-- The matchers m lie from ao on. -/
def MRow (w : World) (ao : Option Addr) (m : List LB.Mat) : Prop :=
  ∀ i, i < m.length → ∃ b off, ao = some ⟨b, off, none⟩ ∧ w.cell? ⟨b, off + i * 3, none⟩ = some (.string (LB.am m i).nm) ∧ w.cell? ⟨b, off + i * 3 + 1, none⟩ = some (.int .i64 (LB.am m i).op) ∧ w.cell? ⟨b, off + i * 3 + 2, none⟩ = some (.string (LB.am m i).vl) ∧ b < w.heap.size

theorem MRow.below {w w' : World} {ao : Option Addr} {l : List LB.Mat} (h : MRow w ao l) (hb : Below w.heap.size w w') : MRow w' ao l := by
  intro i hi
  obtain ⟨b, off, h1, h2, h3, h5, h4⟩ := h i hi
  exact ⟨b, off, h1, (hb.cell (p := ⟨b, _, none⟩) h4).trans h2, (hb.cell (p := ⟨b, _, none⟩) h4).trans h3, (hb.cell (p := ⟨b, _, none⟩) h4).trans h5, Nat.lt_of_lt_of_le h4 hb.size⟩

/-- The texts n lie from ao on. -/
def NRow (w : World) (ao : Option Addr) (n : List ByteArray) : Prop :=
  ∀ i, i < n.length → ∃ b off, ao = some ⟨b, off, none⟩ ∧ w.cell? ⟨b, off + i, none⟩ = some (.string (LB.an n i)) ∧ b < w.heap.size

theorem NRow.below {w w' : World} {ao : Option Addr} {l : List ByteArray} (h : NRow w ao l) (hb : Below w.heap.size w w') : NRow w' ao l := by
  intro i hi
  obtain ⟨b, off, h1, h2, h4⟩ := h i hi
  exact ⟨b, off, h1, (hb.cell (p := ⟨b, _, none⟩) h4).trans h2, Nat.lt_of_lt_of_le h4 hb.size⟩

/-- The cells of labels. -/
def lv (l : List LB.Lab) : List Value := l.flatMap fun s => [.string s.1, .string s.2]

theorem lv_append (a b : List LB.Lab) : lv (a ++ b) = lv a ++ lv b := by simp [lv]

theorem lv_length (l : List LB.Lab) : (lv l).length = l.length * 2 := by
  induction l with
  | nil => rfl
  | cons s l ih => simp only [lv, List.flatMap_cons, List.length_append, List.length_cons, List.length_nil] at ih ⊢; omega

theorem lv_get (l : List LB.Lab) : ∀ i, i < l.length → (lv l)[i * 2]? = some (.string (LB.at' l i).1) ∧ (lv l)[i * 2 + 1]? = some (.string (LB.at' l i).2) := by
  induction l with
  | nil => intro i hi; simp at hi
  | cons s l ih =>
    intro i hi
    match i with
    | 0 => exact ⟨rfl, rfl⟩
    | i + 1 =>
      obtain ⟨h1, h2⟩ := ih i (by simpa using hi)
      have e : lv (s :: l) = .string s.1 :: .string s.2 :: lv l := rfl
      have e1 : (i + 1) * 2 = i * 2 + 2 := by omega
      rw [e, e1, LB.at_cons]
      exact ⟨h1, h2⟩

/-- A row of labels that was made, read as one that is there. -/
theorem LRow.of_own {w : World} {base : Nat} {v : Value} {l : List LB.Lab} (h : w.ownsRow base 49 2 v l.length (lv l)) : ∃ ao cap, v = .slice ao l.length cap ∧ LRow w ao l := by
  have hlt := h.lt
  have h0 := h
  obtain ⟨h1, h2⟩ := h
  rcases h2 with ⟨rfl, hn⟩ | ⟨g, cap, cur, rfl, hg, hh, r⟩
  · refine ⟨none, 0, by rw [hn], fun i hi => by omega⟩
  · refine ⟨some ⟨g, 0, none⟩, cap, rfl, fun i hi => ⟨g, 0, rfl, ?_, ?_, (hlt g rfl).2⟩⟩
    · rw [Nat.zero_add, h0.cellAt (i * 2) (by omega)]; exact (lv_get l i hi).1
    · rw [Nat.zero_add, h0.cellAt (i * 2 + 1) (by omega)]; exact (lv_get l i hi).2

/-- The label i of a row that stands still. -/
theorem LRow.at {w wr : World} {b off : Nat} {l : List LB.Lab} (h : LRow w (some ⟨b, off, none⟩) l) (hb : Below w.heap.size w wr) (i : Nat) (hi : i < l.length) :
    wr.cell? ⟨b, off + i * 2, none⟩ = some (.string (LB.at' l i).1) ∧ wr.cell? ⟨b, off + i * 2 + 1, none⟩ = some (.string (LB.at' l i).2) := by
  obtain ⟨b', off', hao, hc0, hc1, hbs⟩ := h i hi
  simp only [Option.some.injEq, Addr.mk.injEq, and_true] at hao
  obtain ⟨rfl, rfl⟩ := hao
  exact ⟨(hb.cell (p := ⟨b, _, none⟩) hbs).trans hc0, (hb.cell (p := ⟨b, _, none⟩) hbs).trans hc1⟩

theorem LRow.some {w : World} {ao : Option Addr} {l : List LB.Lab} (h : LRow w ao l) (hl : 0 < l.length) : ∃ b off, ao = some ⟨b, off, none⟩ ∧ b < w.heap.size := by
  obtain ⟨b, off, e, _, _, hb⟩ := h 0 hl
  exact ⟨b, off, e, hb⟩

/-- The matchers from i on, as many as are wanted. -/
theorem MRow.slice {w : World} {b off : Nat} {m : List LB.Mat} (h : MRow w (some ⟨b, off, none⟩) m) (i : Nat) (hi : i < m.length) : MRow w (some ⟨b, off + i * 3, none⟩) [LB.am m i] := by
  intro j hj
  have hj0 : j = 0 := by simpa using hj
  subst hj0
  obtain ⟨b', off', hao, hc0, hc1, hc2, hbs⟩ := h i hi
  simp only [Option.some.injEq, Addr.mk.injEq, and_true] at hao
  obtain ⟨rfl, rfl⟩ := hao
  exact ⟨b, off + i * 3, rfl, hc0, hc1, hc2, hbs⟩

end Go.Proofs.YtdmnlmohfaafoadGreatDoor
