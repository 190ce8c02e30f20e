/- What the laws' sameSamples answers (made by mkhd.py) -/
import Derived.Test.YtdmnlmohfaafoadGreatDoorPHdMem
namespace Go.Proofs.YtdmnlmohfaafoadGreatDoor
open Go.RowKit

theorem below_drewN'L {B : Nat} {a w : World} (h : Below B a w) (n : Nat) : Below B a (w.drewN n) := ⟨h.os, h.tape, h.output, h.size, h.block⟩

theorem list_ne_atL (a b : List CL.Smp) (i : Nat) (h : CL.at' a i ≠ CL.at' b i) : decide (a = b) = false := by
  rw [decide_eq_false_iff_not]
  intro e; subst e; exact h rfl

theorem list_eq_atL (a b : List CL.Smp) (hl : a.length = b.length) (h : ∀ i, i < a.length → CL.at' a i = CL.at' b i) : decide (a = b) = true := by
  rw [decide_eq_true_iff]
  apply List.ext_getElem hl
  intro i h1 h2
  have := h i h1
  simpa [CL.at', h1, h2] using this

theorem neSL (a b c d : Int) (w : World) : (binOp .neq 52 (.agg #[.int .i64 a, .int .i64 b]) (.agg #[.int .i64 c, .int .i64 d])).run Tryz.prog w = .ok (.bool (!(a == c && b == d))) w := by
  rw [run_neq_struct, run_equalIn_struct w 9999 52 _ _ (by kernel_rfl) (by kernel_rfl)]
  have hp0 : ∀ w, (part 2 #[Value.int .i64 a, Value.int .i64 b] 0).run Tryz.prog w = .ok (.int .i64 a) w := fun w => by kernel_rfl
  have hp1 : ∀ w, (part 2 #[Value.int .i64 a, Value.int .i64 b] 1).run Tryz.prog w = .ok (.int .i64 b) w := fun w => by kernel_rfl
  have hq0 : ∀ w, (part 2 #[Value.int .i64 c, Value.int .i64 d] 0).run Tryz.prog w = .ok (.int .i64 c) w := fun w => by kernel_rfl
  have hq1 : ∀ w, (part 2 #[Value.int .i64 c, Value.int .i64 d] 1).run Tryz.prog w = .ok (.int .i64 d) w := fun w => by kernel_rfl
  have he : ∀ (x y : Int) w, (Op.equalIn 9999 2 (.int .i64 x) (.int .i64 y)).run Tryz.prog w = .ok (x == y) w := fun x y w => run_equalIn_int w 9998 2 .i64 .i64 x y Tryz.underlying2
  simp only [Program.fieldsOf, Tryz.underlying52, Op.eqFields, Sem.run_bind, Sem.run_ite, hp0, hp1, hq0, hq1, he, Result.andThen_ok, Sem.run_pure]
  by_cases h1 : a = c <;> by_cases h2 : b = d <;> simp [h1, h2]

theorem egSL (x y : Operand) (xs ys : Array Value) (w : World) : (eqGuard .neq 52 x y (.agg xs) (.agg ys)).run Tryz.prog w = .ok () w := run_eqGuard_agg w .neq 52 x y xs ys (by kernel_rfl)

end Go.Proofs.YtdmnlmohfaafoadGreatDoor

