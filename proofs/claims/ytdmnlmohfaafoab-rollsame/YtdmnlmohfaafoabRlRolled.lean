/- What raingaugekeep's rolled answers. -/
import Derived.Test.YtdmnlmohfaafoabRlUp
import Derived.Test.YtdmnlmohfaafoabRlSame
namespace Go.Proofs.Ytdmnlmohfaafoab
open Go.RowKit

theorem egBq (x y : Operand) (xs ys : Array Value) (w : World) : (eqGuard .eql 35 x y (.agg xs) (.agg ys)).run Try.prog w = .ok () w := run_eqGuard_agg w .eql 35 x y xs ys (by kernel_rfl)

theorem rolled_up : CL.up 10 [(-1, 5), (1, 2), (9, 4)] = [⟨-10, 1, 5, 5, 5⟩, ⟨0, 2, 6, 2, 4⟩] := by decide

theorem rolled_row (w : World) : SRow (w.alloc (.cells #[.int .i64 (-1), .int .i64 5, .int .i64 1, .int .i64 2, .int .i64 9, .int .i64 4] 37)) (some ⟨w.heap.size, 0, none⟩) [(-1, 5), (1, 2), (9, 4)] := by
  intro i hi
  refine ⟨w.heap.size, 0, rfl, ?_, ?_, by simp⟩
  · match i, hi with
    | 0, _ => simp; rfl
    | 1, _ => simp; rfl
    | 2, _ => simp; rfl
  · match i, hi with
    | 0, _ => simp; rfl
    | 1, _ => simp; rfl
    | 2, _ => simp; rfl

set_option maxRecDepth 100000 in
set_option maxHeartbeats 800000 in
theorem rolled_any (w : World) : Calls Try.prog 6 #[] w fun e w' => e = .returned (.bool true) ∧ Below w.heap.size w w' := by
  have HU : Hid (Calls Try.prog 8 #[.slice (some ⟨w.heap.size, 0, none⟩) 3 3, .int .i64 10] (w.alloc (.cells #[.int .i64 (-1), .int .i64 5, .int .i64 1, .int .i64 2, .int .i64 9, .int .i64 4] 37)) fun e w' => ∃ v, e = .returned (.tuple #[v, .nilIface]) ∧ w'.ownsRow _ 35 5 v (CL.up 10 [(-1, 5), (1, 2), (9, 4)]).length (bv (CL.up 10 [(-1, 5), (1, 2), (9, 4)])) ∧ Below _ _ w') := up_ok _ [(-1, 5), (1, 2), (9, 4)] 3 10 _ (rolled_row w) (by decide) (by decide) (by decide)
  rw [rolled_up] at HU
  go_enter Try.func6, Try.ntmps6
  go_wp2_with fail
  refine Calls.mono HU.out ?_
  rintro e w1 ⟨v, rfl, hown, hb⟩
  obtain ⟨ao, cap, rfl, hS, _, _⟩ := BRow.of_own hown
  obtain ⟨b, off, rfl, ⟨c0, _⟩, _⟩ := hS 0 (by decide)
  obtain ⟨d0, d1, d2, d3, d4⟩ := hS.at (Below.refl _ _) 1 (by decide)
  have HB := hid (((Below.refl w.heap.size w).alloc (Nat.le_refl _) _).trans (hb.mono (by simp)))
  have e0 : atB [⟨-10, 1, 5, 5, 5⟩, ⟨0, 2, 6, 2, 4⟩] 0 = ⟨-10, 1, 5, 5, 5⟩ := rfl
  have e1 : atB [⟨-10, 1, 5, 5, 5⟩, ⟨0, 2, 6, 2, 4⟩] 1 = ⟨0, 2, 6, 2, 4⟩ := rfl
  rw [e0] at c0
  rw [e1] at d0 d1 d2 d3 d4
  simp only [Nat.zero_mul, Nat.one_mul, Nat.add_zero] at c0 d0 d1 d2 d3 d4
  have hgd := egBq
  have heq : ∀ w, (binOp .eql 35 (aggB ⟨0, 2, 6, 2, 4⟩) (aggB ⟨0, 2, 6, 2, 4⟩)).run Try.prog w = .ok (.bool true) w := fun w => by
    rw [run_eql_struct, eqB_run]; rfl
  clear hb hown hS e0 e1
  go_wp2_with fail
  go_ret
  exact ⟨rfl, HB.out⟩

end Go.Proofs.Ytdmnlmohfaafoab
