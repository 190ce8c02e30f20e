/- What the document's own answer says of the order: Compare. (made by mkcd.py) -/
import Derived.Test.YtdmnlmohfaafoadDoorCxRefL
namespace Go.Proofs.YtdmnlmohfaafoadDoor
open Go.RowKit

theorem eqLab (a b c d : ByteArray) (w : World) : (binOp .eql 103 (.agg #[.string a, .string b]) (.agg #[.string c, .string d])).run Tryd.prog w = .ok (.bool (decide ((a, b) = (c, d)))) w := by
  rw [run_eql_struct, run_equalIn_struct w 9999 103 _ _ (by kernel_rfl) (by kernel_rfl)]
  have hp0 : ∀ w, (part 9 #[Value.string a, Value.string b] 0).run Tryd.prog w = .ok (.string a) w := fun w => by kernel_rfl
  have hp1 : ∀ w, (part 9 #[Value.string a, Value.string b] 1).run Tryd.prog w = .ok (.string b) w := fun w => by kernel_rfl
  have hq0 : ∀ w, (part 9 #[Value.string c, Value.string d] 0).run Tryd.prog w = .ok (.string c) w := fun w => by kernel_rfl
  have hq1 : ∀ w, (part 9 #[Value.string c, Value.string d] 1).run Tryd.prog w = .ok (.string d) w := fun w => by kernel_rfl
  have he : ∀ (x y : ByteArray) w, (Op.equalIn 9999 9 (.string x) (.string y)).run Tryd.prog w = .ok (x.toList == y.toList) w := fun x y w => run_equalIn_string w 9998 9 x y Tryd.underlying9
  simp only [Program.fieldsOf, Tryd.underlying103, Op.eqFields, Sem.run_bind, Sem.run_ite, hp0, hp1, hq0, hq1, he, Result.andThen_ok, Sem.run_pure, LB.beq_eq]
  by_cases h1 : a = c <;> by_cases h2 : b = d <;> simp [h1, h2]

theorem neLab (a b c d : ByteArray) (w : World) : (binOp .neq 103 (.agg #[.string a, .string b]) (.agg #[.string c, .string d])).run Tryd.prog w = .ok (.bool (!decide ((a, b) = (c, d)))) w := by
  rw [run_neq_struct, run_equalIn_struct w 9999 103 _ _ (by kernel_rfl) (by kernel_rfl)]
  have hp0 : ∀ w, (part 9 #[Value.string a, Value.string b] 0).run Tryd.prog w = .ok (.string a) w := fun w => by kernel_rfl
  have hp1 : ∀ w, (part 9 #[Value.string a, Value.string b] 1).run Tryd.prog w = .ok (.string b) w := fun w => by kernel_rfl
  have hq0 : ∀ w, (part 9 #[Value.string c, Value.string d] 0).run Tryd.prog w = .ok (.string c) w := fun w => by kernel_rfl
  have hq1 : ∀ w, (part 9 #[Value.string c, Value.string d] 1).run Tryd.prog w = .ok (.string d) w := fun w => by kernel_rfl
  have he : ∀ (x y : ByteArray) w, (Op.equalIn 9999 9 (.string x) (.string y)).run Tryd.prog w = .ok (x.toList == y.toList) w := fun x y w => run_equalIn_string w 9998 9 x y Tryd.underlying9
  simp only [Program.fieldsOf, Tryd.underlying103, Op.eqFields, Sem.run_bind, Sem.run_ite, hp0, hp1, hq0, hq1, he, Result.andThen_ok, Sem.run_pure, LB.beq_eq]
  by_cases h1 : a = c <;> by_cases h2 : b = d <;> simp [h1, h2]

theorem egLab (o : BinOp) (x y : Operand) (xs ys : Array Value) (w : World) : (eqGuard o 103 x y (.agg xs) (.agg ys)).run Tryd.prog w = .ok () w := run_eqGuard_agg w o 103 x y xs ys (by kernel_rfl)

theorem cL_lt1 {p q : LB.Lab} (h : Op.bytesLess p.1.toList q.1.toList = true) : LB.cL p q = -1 := by
  have : LB.cB p.1 q.1 = -1 := by unfold LB.cB; rw [if_pos h]
  unfold LB.cL
  rw [if_neg (by omega), this]

theorem cL_lt2 {p q : LB.Lab} (h0 : p.1 = q.1) (h : Op.bytesLess p.2.toList q.2.toList = true) : LB.cL p q = -1 := by
  unfold LB.cL
  rw [if_pos ((LB.cB_ord.zero _ _).2 h0)]
  unfold LB.cB
  rw [if_pos h]

theorem cL_gt1 {p q : LB.Lab} (h : Op.bytesLess p.1.toList q.1.toList = false) (h0 : p.1 ≠ q.1) : LB.cL p q = 1 := by
  have : LB.cB p.1 q.1 = 1 := by unfold LB.cB; rw [if_neg (by rw [LB.lt, h]; decide), if_neg h0]
  unfold LB.cL
  rw [if_neg (by omega), this]

theorem cL_gt2 {p q : LB.Lab} (h0 : p.1 = q.1) (h : Op.bytesLess p.2.toList q.2.toList = false) (hne : p ≠ q) : LB.cL p q = 1 := by
  unfold LB.cL
  rw [if_pos ((LB.cB_ord.zero _ _).2 h0)]
  unfold LB.cB
  rw [if_neg (by rw [LB.lt, h]; decide), if_neg (fun h2 => hne (Prod.ext h0 h2))]

end Go.Proofs.YtdmnlmohfaafoadDoor
