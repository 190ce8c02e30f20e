/- A series of one's own behind others of one's own. -/
import Derived.Test.YtdmnlmohfaafoaeDoorPSBmMemC
namespace Go.Proofs.YtdmnlmohfaafoaeDoor
open Go.RowKit

theorem ser_push {W : World} {base B : Nat} {v lvv svv : Value} {l : List Sr} (x : Sr) (h : SrOwn W base v l) (hL : OwnLb W base lvv x.1) (hS : OwnSm W base svv x.2) (hB : W.heap[B]? = some (.cells #[lvv, svv] 38)) (hl : l.length ≤ 1000000) (hb : base ≤ W.heap.size) :
    ∃ ao cap W', (Builtin.append_ #[27, 27] 27 #[v, .slice (some ⟨B, 0, none⟩) 1 1]).run Tryd.prog W = .ok (.slice ao (l.length + 1) cap) W' ∧ SrOwn W' base (.slice ao (l.length + 1) cap) (l ++ [x]) ∧ Below base W W' ∧ W.grownBy W' v.ownBlock ∧ ((Value.slice ao (l.length + 1) cap).ownBlock = v.ownBlock ∨ (Value.slice ao (l.length + 1) cap).ownBlock = some W.heap.size) := by
  obtain ⟨xs, h1, h2, h3⟩ := h
  obtain ⟨v', W', hrun, k1, k2, k3⟩ := app_ser W base B v lvv svv l.length (flat xs) hB (own_one hL) (own_one hS) h2 hl hb
  obtain ⟨ao, cap, e⟩ := own_slice k1
  subst e
  refine ⟨ao, cap, W', hrun, SrOwn.snoc h1 k1 (fun i hi => ⟨kind_grown h2 (h3 i hi).1 (by decide) k2, kind_grown h2 (h3 i hi).2 (by decide) k2⟩) (kind_grown h2 hL (by decide) k2) (kind_grown h2 hS (by decide) k2), (Below.refl base W).grown k2 hb (fun g e => (h2.lt g e).1), k2, k3⟩

theorem SrOwn.shape {W : World} {base : Nat} {v : Value} {l : List Sr} (h : SrOwn W base v l) : ∃ ao cap, v = .slice ao l.length cap := by
  obtain ⟨xs, _, h2, _⟩ := h
  exact own_slice h2

/-- A row of another kind, where one block of samples may have turned. -/
theorem row_but {W W' : World} {g0 base n size : Nat} {e t : TypeId} {v : Value} {xs : List Value} {c : Array Value} (h : W.ownsRow base e size v n xs) (k : But g0 W W') (hg : W.heap[g0]? = some (.cells c t)) (hne : e ≠ t) : W'.ownsRow base e size v n xs := row_kept h fun g c' hc => by
  refine k.2.2.2.2 g (heap_lt hc) (fun e2 => ?_)
  subst e2
  rw [hg] at hc
  simp only [Option.some.injEq, Obj.cells.injEq] at hc
  exact hne hc.2.1.symm

/-- All below what was there stays where what turns was made behind it. -/
theorem Below.but {w W W' : World} {g0 : Nat} (h : Below w.heap.size w W) (k : But g0 W W') (hg : w.heap.size ≤ g0) : Below w.heap.size w W' :=
  ⟨k.1.trans h.os, k.2.1.trans h.tape, k.2.2.1.trans h.output, Nat.le_trans h.size k.2.2.2.1, fun j hj => (k.2.2.2.2 j (Nat.lt_of_lt_of_le hj h.size) (by omega)).trans (h.block j hj)⟩

end Go.Proofs.YtdmnlmohfaafoaeDoor

