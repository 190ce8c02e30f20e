/- Rows of series that are made out of others: their labels and samples lie where they lay, or are new. Names no function. -/
import Derived.Test.YtdmnlmohfaafoadGreatDoorPHdBeh
namespace Go.Proofs.YtdmnlmohfaafoadGreatDoor
open Go.RowKit

def RL (w wr : World) (Z : Nat → Prop) (u : Value) (l : List LB.Lab) : Prop := (∃ lo lc, u = .slice lo l.length lc ∧ LOut w Z lo l) ∨ OwnLb wr w.heap.size u l
def RS (w wr : World) (Z : Nat → Prop) (u : Value) (l : List CL.Smp) : Prop := (∃ so sc, u = .slice so l.length sc ∧ SOut w Z so l) ∨ OwnSm wr w.heap.size u l

structure RB (w wr : World) (Z : Nat → Prop) (v : Value) (xs : List (Value × Value)) (L : List Sr) : Prop where
  len : xs.length = L.length
  row : wr.ownsRow w.heap.size 55 2 v L.length (flat xs)
  bel : Below w.heap.size w wr
  labs : ∀ i, i < L.length → RL w wr Z (atX xs i).1 (atSr L i).1
  smps : ∀ i, i < L.length → RS w wr Z (atX xs i).2 (atSr L i).2

section
variable {w wr wr' : World} {Z : Nat → Prop} {v : Value} {xs : List (Value × Value)} {L : List Sr}

theorem RL.below {u : Value} {l : List LB.Lab} (h : RL w wr Z u l) (k : Below wr.heap.size wr wr') : RL w wr' Z u l := h.imp id fun h => row_kept h fun g _ hg => k.block g (heap_lt hg)
theorem RS.below {u : Value} {l : List CL.Smp} (h : RS w wr Z u l) (k : Below wr.heap.size wr wr') : RS w wr' Z u l := h.imp id fun h => row_kept h fun g _ hg => k.block g (heap_lt hg)
theorem RL.grown {u : Value} {l : List LB.Lab} (h : RL w wr Z u l) {base n : Nat} {ys : List Value} (hv : wr.ownsRow base 55 2 v n ys) (k : wr.grownBy wr' v.ownBlock) : RL w wr' Z u l := h.imp id fun h => kind_grown hv h (by decide) k
theorem RS.grown {u : Value} {l : List CL.Smp} (h : RS w wr Z u l) {base n : Nat} {ys : List Value} (hv : wr.ownsRow base 55 2 v n ys) (k : wr.grownBy wr' v.ownBlock) : RS w wr' Z u l := h.imp id fun h => kind_grown hv h (by decide) k

theorem RL.one {u : Value} {l : List LB.Lab} (h : RL w wr Z u l) : ∃ lo lc, u = .slice lo l.length lc := by
  rcases h with ⟨lo, lc, e, _⟩ | h
  · exact ⟨lo, lc, e⟩
  · exact own_slice h
theorem RS.one {u : Value} {l : List CL.Smp} (h : RS w wr Z u l) : ∃ so sc, u = .slice so l.length sc := by
  rcases h with ⟨so, sc, e, _⟩ | h
  · exact ⟨so, sc, e⟩
  · exact own_slice h

/-- Read, in the world that is there. -/
theorem RL.read {u : Value} {l : List LB.Lab} (h : RL w wr Z u l) (hb : Below w.heap.size w wr) : ∃ lo lc, u = .slice lo l.length lc ∧ LRow wr lo l := by
  rcases h with ⟨lo, lc, e, h⟩ | h
  · exact ⟨lo, lc, e, h.1.below hb⟩
  · exact LRow.of_own h
theorem RS.read {u : Value} {l : List CL.Smp} (h : RS w wr Z u l) (hb : Below w.heap.size w wr) : ∃ so sc, u = .slice so l.length sc ∧ SRow wr so l := by
  rcases h with ⟨so, sc, e, h⟩ | h
  · exact ⟨so, sc, e, h.1.below hb⟩
  · exact SRow.of_own h

theorem RB.nil (w : World) (Z : Nat → Prop) : RB w w Z (.slice none 0 0) [] [] := ⟨rfl, ⟨rfl, .inl ⟨rfl, rfl⟩⟩, Below.refl _ _, fun i hi => by simp at hi, fun i hi => by simp at hi⟩

theorem RB.below (h : RB w wr Z v xs L) (k : Below wr.heap.size wr wr') : RB w wr' Z v xs L :=
  ⟨h.len, row_kept h.row fun g _ hg => k.block g (heap_lt hg), bel2 h.bel k, fun i hi => (h.labs i hi).below k, fun i hi => (h.smps i hi).below k⟩

/-- One more. -/
theorem RB.push (h : RB w wr Z v xs L) {v' a b : Value} {x : Sr} (ha : RL w wr Z a x.1) (hb : RS w wr Z b x.2) (hr : wr'.ownsRow w.heap.size 55 2 v' (L.length + 1) (flat xs ++ [a, b])) (k : wr.grownBy wr' v.ownBlock) : RB w wr' Z v' (xs ++ [(a, b)]) (L ++ [x]) := by
  refine ⟨by rw [List.length_append, List.length_append, h.len]; rfl, ?_, h.bel.grown k h.bel.size (fun j hj => (h.row.lt j hj).1), fun i hi => ?_, fun i hi => ?_⟩
  · rw [List.length_append, flat_append]
    exact hr
  · rw [List.length_append] at hi
    rw [atX_snoc, atSr_snoc L x i hi, h.len]
    by_cases hlt : i < L.length
    · rw [if_pos hlt, if_pos hlt]; exact (h.labs i hlt).grown h.row k
    · rw [if_neg hlt, if_neg hlt, if_pos (by simp only [List.length_cons, List.length_nil] at hi; omega)]; exact ha.grown h.row k
  · rw [List.length_append] at hi
    rw [atX_snoc, atSr_snoc L x i hi, h.len]
    by_cases hlt : i < L.length
    · rw [if_pos hlt, if_pos hlt]; exact (h.smps i hlt).grown h.row k
    · rw [if_neg hlt, if_neg hlt, if_pos (by simp only [List.length_cons, List.length_nil] at hi; omega)]; exact hb.grown h.row k

/-- The row, read; none of it in Z. -/
theorem RB.out (h : RB w wr Z v xs L) (hz : ∀ j, Z j → j < w.heap.size) : ∃ ao cap, v = .slice ao L.length cap ∧ SrOut wr Z ao L := by
  have key : ∀ j, w.heap.size ≤ j → ¬ Z j := fun j hj e => by have := hz j e; omega
  rcases h.row.2 with ⟨h0, hn⟩ | ⟨g, cap, cur, h0, hg, hc, _⟩
  · exact ⟨none, 0, by rw [h0, hn], fun i hi => by omega⟩
  · refine ⟨some ⟨g, 0, none⟩, cap, h0, fun i hi => ⟨g, 0, rfl, heap_lt hc, key g hg, ?_⟩⟩
    obtain ⟨q1, q2⟩ := flat_get xs i (by rw [h.len]; exact hi)
    have c := h.row.cells (g := g) (by rw [h0]; rfl)
    have c1 := c _ _ q1
    have c2 := c _ _ q2
    rw [Addr.add_lit, Nat.zero_add] at c1 c2
    have hl : ∃ lo lc, (atX xs i).1 = .slice lo (atSr L i).1.length lc ∧ LOut wr Z lo (atSr L i).1 := by
      rcases h.labs i hi with ⟨lo, lc, e, h1⟩ | h1
      · exact ⟨lo, lc, e, h1.kept (ZFr.below h.bel)⟩
      · obtain ⟨lo, lc, e, h2⟩ := LRow.of_own h1
        exact ⟨lo, lc, e, h2, fun a ha _ => key _ (h1.lt a.block (by rw [e, ha]; rfl)).1⟩
    have hs : ∃ so sc, (atX xs i).2 = .slice so (atSr L i).2.length sc ∧ SOut wr Z so (atSr L i).2 := by
      rcases h.smps i hi with ⟨lo, lc, e, h1⟩ | h1
      · exact ⟨lo, lc, e, h1.kept (ZFr.below h.bel)⟩
      · obtain ⟨lo, lc, e, h2⟩ := SRow.of_own h1
        exact ⟨lo, lc, e, h2, fun a ha _ => key _ (h1.lt a.block (by rw [e, ha]; rfl)).1⟩
    obtain ⟨lo, lc, e1, r1⟩ := hl
    obtain ⟨so, sc, e2, r2⟩ := hs
    exact ⟨lo, lc, so, sc, by rw [Nat.zero_add, c1, e1], by rw [Nat.zero_add, c2, e2], r1, r2⟩

end

end Go.Proofs.YtdmnlmohfaafoadGreatDoor

