/- errors.Is at an Errno, walked through its own text; wal.unlessMissing. -/
import Derived.Test.YtmooabganbafpabDoorDkFn
import Derived.LaidEql
import Derived.Stop.Asserts
import Derived.RowKitTokens
namespace Go.Proofs.YtmooabganbafpabDoor
open Go.RowKit Go.Extern.Stop Go.Stop Go.Extern

theorem is_typeOf (v : Value) (w : World) : (ReflectliteType.typeOf #[.iface 34 v]).run Tryd.prog w = .ok (.iface 133 (.agg #[.pointer (some ⟨1, 34, none⟩)])) w := by kernel_rfl
/-- What (rtype).Comparable answers. -/
def isCmp : Array Value → Sem Value := ReflectliteType.method fun t => do Rtype.noPackHeld "Comparable" t; pure (.bool (← typeInfo t).comparable)
theorem is_comparable (w : World) : (isCmp #[.agg #[.pointer (some ⟨1, 34, none⟩)]]).run Tryd.prog w = .ok (.bool true) w := by kernel_rfl
theorem is_method (v : Value) (w : World) : (Go.method 299 133 v "Comparable").run Tryd.prog w = .ok (121, v) w := by kernel_rfl
theorem is_noIs (v : Value) (xT : TypeId) (w : World) : (Instr.typeAssert (.iface 34 v) xT 165 true).run Tryd.prog w = .ok (.tuple #[.nilIface, .bool false]) w := run_typeAssert_lacksB Tryd.underlying165 (by kernel_rfl) (by kernel_rfl) v xT w
theorem is_noUnwrap (v : Value) (xT : TypeId) (w : World) : (Instr.typeAssert (.iface 34 v) xT 118 true).run Tryd.prog w = .ok (.tuple #[.nilIface, .bool false]) w := run_typeAssert_lacksB Tryd.underlying118 (by kernel_rfl) (by kernel_rfl) v xT w
theorem is_noUnwraps (v : Value) (xT : TypeId) (w : World) : (Instr.typeAssert (.iface 34 v) xT 141 true).run Tryd.prog w = .ok (.tuple #[.nilIface, .bool false]) w := run_typeAssert_lacksB Tryd.underlying141 (by kernel_rfl) (by kernel_rfl) v xT w
theorem is_comp : (Tryd.prog.info? 34).map (·.comparable) = some true := by kernel_rfl

theorem equalIn_errno (d : Nat) (a b : Int) (w : World) : (Op.equalIn (d + 2) 32 (.iface 34 (.int .i64 a)) (.iface 34 (.int .i64 b))).run Tryd.prog w = .ok (a == b) w := by
  obtain ⟨i, hinfo, hcomp⟩ := Option.map_eq_some_iff.1 is_comp
  simp [Op.equalIn, run_underlying Tryd.underlying32, run_underlying Tryd.underlying34, typeInfo, hinfo, hcomp]

/-- Two errors of one kind of numbers, held against each other. -/
theorem eql_errno (a b : Int) (w : World) : (binOp .eql 32 (.iface 34 (.int .i64 a)) (.iface 34 (.int .i64 b))).run Tryd.prog w = .ok (.bool (a == b)) w := by
  simp only [binOp]
  simp [Op.equal, Op.maxDepth, equalIn_errno 9998 a b w]

set_option maxRecDepth 100000 in
theorem is_errno (a b : Int) (w : World) :
    Calls Tryd.prog 66 #[.iface 34 (.int .i64 a), .iface 34 (.int .i64 b)] w fun e w' => e = .returned (.bool (a == b)) ∧ w' = w := by
  have h8 := @run_callFunc_extern Tryd.prog 71 _ ReflectliteType.typeOf Tryd.func71 (by kernel_rfl) (by kernel_rfl) (by kernel_rfl) (by kernel_rfl)
  have h32 := @run_callFunc_extern Tryd.prog 121 _ isCmp Tryd.func121 (by kernel_rfl) (by kernel_rfl) (by kernel_rfl) (by kernel_rfl)
  have tT := is_typeOf
  have cT := is_comparable
  have mR := is_method
  have n1 := is_noIs
  have n2 := is_noUnwrap
  have n3 := is_noUnwraps
  have heq := eql_errno a b
  cases hab : (a == b) with
  | true =>
    rw [hab] at heq
    go_enter Tryd.func66, Tryd.ntmps66
    go_wp2
    refine wp_loop_rounds 1 ?_
    rw [rounds_succ]
    go_wp2
    go_ret
    exact ⟨rfl, rfl⟩
  | false =>
    rw [hab] at heq
    go_enter Tryd.func66, Tryd.ntmps66
    go_wp2
    refine wp_loop_rounds 1 ?_
    rw [rounds_succ]
    go_wp2
    go_ret
    exact ⟨rfl, rfl⟩

theorem is_nil (b : Int) (w : World) :
    Calls Tryd.prog 66 #[.nilIface, .iface 34 (.int .i64 b)] w fun e w' => e = .returned (.bool false) ∧ w' = w := by
  have hn := run_eql_iface_nil_left (P := Tryd.prog) w 34 (.int .i64 b) Tryd.underlying32
  go_enter Tryd.func66, Tryd.ntmps66
  go_wp2
  go_ret
  exact ⟨rfl, rfl⟩

/-- What unlessMissing makes of an error. -/
def bearC (c : Int) : Int := if c = 7 then 0 else c

theorem er_zero : er 0 = .nilIface := by unfold er; rw [if_pos rfl]
theorem er_non {c : Int} (h : c ≠ 0) : er c = .iface 34 (.int .i64 c) := by unfold er; rw [if_neg h]

theorem unless_any (c : Int) (w : World) :
    Calls Tryd.prog 55 #[er c] w fun e w' => e = .returned (er (bearC c)) ∧ w' = w := by
  by_cases h0 : c = 0
  · subst h0
    have e1 : er (bearC 0) = .nilIface := er_zero
    rw [e1, er_zero]
    go_enter Tryd.func55, Tryd.ntmps55
    go_wp2_with fail
    refine (is_nil 7 w).mono ?_
    rintro en w1 ⟨rfl, rfl⟩
    go_wp2
    go_ret
    exact ⟨rfl, rfl⟩
  · by_cases h7 : c = 7
    · subst h7
      have e1 : er (bearC 7) = .nilIface := er_zero
      rw [e1, er_non (by omega)]
      go_enter Tryd.func55, Tryd.ntmps55
      go_wp2_with fail
      refine (is_errno 7 7 w).mono ?_
      rintro en w1 ⟨rfl, rfl⟩
      go_wp2
      go_ret
      exact ⟨rfl, rfl⟩
    · have e1 : er (bearC c) = .iface 34 (.int .i64 c) := by unfold bearC; rw [if_neg h7, er_non h0]
      have hb : (c == 7) = false := by simpa using h7
      rw [e1, er_non h0]
      go_enter Tryd.func55, Tryd.ntmps55
      go_wp2_with fail
      refine (is_errno c 7 w).mono ?_
      rw [hb]
      rintro en w1 ⟨rfl, rfl⟩
      go_wp2
      go_ret
      exact ⟨rfl, rfl⟩

end Go.Proofs.YtmooabganbafpabDoor
