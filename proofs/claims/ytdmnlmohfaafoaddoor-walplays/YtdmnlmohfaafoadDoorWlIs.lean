/- errors.Is at an Errno, walked through its own text; wal.unlessMissing. -/
import Derived.Test.YtdmnlmohfaafoadDoorDkFn
import Derived.LaidEql
import Derived.Stop.Asserts
import Derived.RowKitTokens
namespace Go.Proofs.YtdmnlmohfaafoadDoor
open Go.RowKit Go.Extern.Stop Go.Stop Go.Extern

theorem is_typeOf (v : Value) (w : World) : (ReflectliteType.typeOf #[.iface 34 v]).run Tryd.prog w = .ok (.iface 180 (.agg #[.pointer (some ⟨3, 34, none⟩)])) w := by kernel_rfl
/-- What (rtype).Comparable answers. -/
def isCmp : Array Value → Sem Value := ReflectliteType.method fun t => do Rtype.noPackHeld "Comparable" t; pure (.bool (← typeInfo t).comparable)
theorem is_comparable (w : World) : (isCmp #[.agg #[.pointer (some ⟨3, 34, none⟩)]]).run Tryd.prog w = .ok (.bool true) w := by kernel_rfl
theorem is_method (v : Value) (w : World) : (Go.method 355 180 v "Comparable").run Tryd.prog w = .ok (180, v) w := by kernel_rfl
theorem is_noIs (v : Value) (xT : TypeId) (w : World) : (Instr.typeAssert (.iface 34 v) xT 225 true).run Tryd.prog w = .ok (.tuple #[.nilIface, .bool false]) w := run_typeAssert_lacksB Tryd.underlying225 (by kernel_rfl) (by kernel_rfl) v xT w
theorem is_noUnwrap (v : Value) (xT : TypeId) (w : World) : (Instr.typeAssert (.iface 34 v) xT 175 true).run Tryd.prog w = .ok (.tuple #[.nilIface, .bool false]) w := run_typeAssert_lacksB Tryd.underlying175 (by kernel_rfl) (by kernel_rfl) v xT w
theorem is_noUnwraps (v : Value) (xT : TypeId) (w : World) : (Instr.typeAssert (.iface 34 v) xT 188 true).run Tryd.prog w = .ok (.tuple #[.nilIface, .bool false]) w := run_typeAssert_lacksB Tryd.underlying188 (by kernel_rfl) (by kernel_rfl) v xT w
theorem is_comp : (Tryd.prog.info? 34).map (·.comparable) = some true := by kernel_rfl

theorem equalIn_errno (d : Nat) (a b : Int) (w : World) : (Op.equalIn (d + 2) 30 (.iface 34 (.int .i64 a)) (.iface 34 (.int .i64 b))).run Tryd.prog w = .ok (a == b) w := by
  obtain ⟨i, hinfo, hcomp⟩ := Option.map_eq_some_iff.1 is_comp
  simp [Op.equalIn, run_underlying Tryd.underlying30, run_underlying Tryd.underlying34, typeInfo, hinfo, hcomp]

/-- Two errors of one kind of numbers, held against each other. -/
theorem eql_errno (a b : Int) (w : World) : (binOp .eql 30 (.iface 34 (.int .i64 a)) (.iface 34 (.int .i64 b))).run Tryd.prog w = .ok (.bool (a == b)) w := by
  simp only [binOp]
  simp [Op.equal, Op.maxDepth, equalIn_errno 9998 a b w]

set_option maxRecDepth 100000 in
theorem is_errno (a b : Int) (w : World) :
    Calls Tryd.prog 112 #[.iface 34 (.int .i64 a), .iface 34 (.int .i64 b)] w fun e w' => e = .returned (.bool (a == b)) ∧ w' = w := by
  have h8 := @run_callFunc_extern Tryd.prog 116 _ ReflectliteType.typeOf Tryd.func116 (by kernel_rfl) (by kernel_rfl) (by kernel_rfl) (by kernel_rfl)
  have h32 := @run_callFunc_extern Tryd.prog 180 _ isCmp Tryd.func180 (by kernel_rfl) (by kernel_rfl) (by kernel_rfl) (by kernel_rfl)
  have tT := is_typeOf
  have cT := is_comparable
  have mR := is_method
  have n1 := is_noIs
  have n2 := is_noUnwrap
  have n3 := is_noUnwraps
  have heq := eql_errno a b
  cases hab : (a == b) with
  | true =>
    rw [hab] at heq
    go_enter Tryd.func112, Tryd.ntmps112
    go_wp2
    refine wp_loop_rounds 1 ?_
    rw [rounds_succ]
    go_wp2
    go_ret
    exact ⟨rfl, rfl⟩
  | false =>
    rw [hab] at heq
    go_enter Tryd.func112, Tryd.ntmps112
    go_wp2
    refine wp_loop_rounds 1 ?_
    rw [rounds_succ]
    go_wp2
    go_ret
    exact ⟨rfl, rfl⟩

theorem is_nil (b : Int) (w : World) :
    Calls Tryd.prog 112 #[.nilIface, .iface 34 (.int .i64 b)] w fun e w' => e = .returned (.bool false) ∧ w' = w := by
  have hn := run_eql_iface_nil_left (P := Tryd.prog) w 34 (.int .i64 b) Tryd.underlying30
  go_enter Tryd.func112, Tryd.ntmps112
  go_wp2
  go_ret
  exact ⟨rfl, rfl⟩

/-- What unlessMissing makes of an error. -/
def bearC (c : Int) : Int := if c = 7 then 0 else c

theorem er_zero : er 0 = .nilIface := by unfold er; rw [if_pos rfl]
theorem er_non {c : Int} (h : c ≠ 0) : er c = .iface 34 (.int .i64 c) := by unfold er; rw [if_neg h]

theorem unless_any (c : Int) (w : World) :
    Calls Tryd.prog 70 #[er c] w fun e w' => e = .returned (er (bearC c)) ∧ w' = w := by
  by_cases h0 : c = 0
  · subst h0
    have e1 : er (bearC 0) = .nilIface := er_zero
    rw [e1, er_zero]
    go_enter Tryd.func70, Tryd.ntmps70
    go_wp2_with fail
    refine (is_nil 7 w).mono ?_
    rintro en w1 ⟨rfl, rfl⟩
    go_wp2
    go_ret
    exact ⟨rfl, rfl⟩
  · by_cases h7 : c = 7
    · subst h7
      have e1 : er (bearC 7) = .nilIface := er_zero
      rw [e1, er_non (by omega)]
      go_enter Tryd.func70, Tryd.ntmps70
      go_wp2_with fail
      refine (is_errno 7 7 w).mono ?_
      rintro en w1 ⟨rfl, rfl⟩
      go_wp2
      go_ret
      exact ⟨rfl, rfl⟩
    · have e1 : er (bearC c) = .iface 34 (.int .i64 c) := by unfold bearC; rw [if_neg h7, er_non h0]
      have hb : (c == 7) = false := by simpa using h7
      rw [e1, er_non h0]
      go_enter Tryd.func70, Tryd.ntmps70
      go_wp2_with fail
      refine (is_errno c 7 w).mono ?_
      rw [hb]
      rintro en w1 ⟨rfl, rfl⟩
      go_wp2
      go_ret
      exact ⟨rfl, rfl⟩

end Go.Proofs.YtdmnlmohfaafoadDoor
