/- EvalMoves, from what Eval and asked tell. -/
import Derived.Test.YtdmnlmohfaafoaeGreatDoorPEEvAsk
import Derived.Test.YtdmnlmohfaafoaeGreatDoorPEBpRightH
import Derived.Test.YtdmnlmohfaafoaeGreatDoorPEHsShort
namespace Go.Proofs.YtdmnlmohfaafoaeGreatDoor
open Go.RowKit Go.Shelf

def AskedIs : Prop := ∀ (W : World), Gl W → Calls Tryz.prog 15 #[] W fun e w' => e = .returned (.bool true) ∧ Below W.heap.size W w'

theorem ord_steps (S : List Sr) (h : ∀ k, 0 < k → k < S.length → LB.cmp (atSr S (k - 1)).1 (atSr S k).1 < 0) : S.Pairwise fun a b => LB.cmp a.1 b.1 = -1 := by
  have e : ∀ i (hi : i < S.length), atSr S i = S[i] := fun i hi => by simp [atSr, hi]
  have one : ∀ k, 0 < k → k < S.length → LB.cmp (atSr S (k - 1)).1 (atSr S k).1 = -1 := fun k h0 hk => by
    rcases LB.cmp_ord.rng (atSr S (k - 1)).1 (atSr S k).1 with r | r | r
    · exact r
    · have := h k h0 hk; omega
    · have := h k h0 hk; omega
  have far : ∀ n i, i + n + 1 < S.length → LB.cmp (atSr S i).1 (atSr S (i + n + 1)).1 = -1 := by
    intro n
    induction n with
    | zero => intro i hi; exact one (i + 1) (by omega) hi
    | succ n ih => intro i hi; exact LB.cmp_ord.tr _ _ _ (ih i (by omega)) (one (i + n + 1 + 1) (by omega) (by omega))
  rw [List.pairwise_iff_getElem]
  intro i j hi hj hij
  have := far (j - i - 1) i (by omega)
  rw [show i + (j - i - 1) + 1 = j by omega, e i hi, e j hj] at this
  exact this

theorem right_ord {tp old : Int} {S : List Sr} (h : BK.right tp old S = true) : S.Pairwise fun a b => LB.cmp a.1 b.1 = -1 := by
  unfold BK.right BK.ser at h
  simp only [Bool.and_eq_true, decide_eq_true_eq] at h
  exact ord_steps S fun k h0 hk => (h.1 k hk).2 h0

theorem mv_take (l : List CL.Smp) (k : Nat) (h : k < l.length) : l.take (k + 1) = l.take k ++ [CL.at' l k] := by
  rw [List.take_succ_eq_append_getElem h]; simp [CL.at', h]

theorem right_lab {tp old : Int} {S : List Sr} (h : BK.right tp old S = true) (k : Nat) (hk : k < S.length) : 0 < (atSr S k).1.length := by
  unfold BK.right BK.ser at h
  simp only [Bool.and_eq_true, decide_eq_true_eq] at h
  have h1 := (h.1 k hk).1
  unfold BK.okS at h1
  simp only [Bool.and_eq_true] at h1
  have := right_len h1.1
  omega

/-- The box of a series that is made, its samples so far. -/
structure MIn (w wr : World) (B : Nat) (vl vs : Value) (l : List CL.Smp) : Prop where
  box : wr.heap[B]? = some (.cells #[vl, vs] 61)
  own : OwnSm wr w.heap.size vs l
  ge : w.heap.size ≤ B
  bel : Below w.heap.size w wr

end Go.Proofs.YtdmnlmohfaafoaeGreatDoor

