/- What sameBuckets of the laws by the document answers. -/
import Derived.Test.YtdmnlmohfaafoabDoorRlMem
namespace Go.Proofs.YtdmnlmohfaafoabDoor
open Go.RowKit

theorem list_ne_atB (a b : List CL.Bkt) (i : Nat) (h : atB a i ≠ atB b i) : decide (a = b) = false := by
  rw [decide_eq_false_iff_not]
  intro e; subst e; exact h rfl

theorem list_eq_atB (a b : List CL.Bkt) (hl : a.length = b.length) (h : ∀ i, i < a.length → atB a i = atB b i) : decide (a = b) = true := by
  rw [decide_eq_true_iff]
  apply List.ext_getElem hl
  intro i h1 h2
  have := h i h1
  simpa [atB, h1, h2] using this

theorem eqB_run (x y : CL.Bkt) (w : World) : (Op.equalIn 10000 72 (aggB x) (aggB y)).run Tryd.prog w = .ok (decide (x = y)) w := by
  rw [run_equalIn_struct w 9999 72 _ _ (by kernel_rfl) (by kernel_rfl)]
  obtain ⟨a, b, c, d, e⟩ := x
  obtain ⟨a', b', c', d', e'⟩ := y
  have hp0 : ∀ (a b c d e : Int) w, (part 2 #[Value.int .i64 a, Value.int .i64 b, Value.int .i64 c, Value.int .i64 d, Value.int .i64 e] 0).run Tryd.prog w = .ok (.int .i64 a) w := fun a b c d e w => by kernel_rfl
  have hp1 : ∀ (a b c d e : Int) w, (part 2 #[Value.int .i64 a, Value.int .i64 b, Value.int .i64 c, Value.int .i64 d, Value.int .i64 e] 1).run Tryd.prog w = .ok (.int .i64 b) w := fun a b c d e w => by kernel_rfl
  have hp2 : ∀ (a b c d e : Int) w, (part 2 #[Value.int .i64 a, Value.int .i64 b, Value.int .i64 c, Value.int .i64 d, Value.int .i64 e] 2).run Tryd.prog w = .ok (.int .i64 c) w := fun a b c d e w => by kernel_rfl
  have hp3 : ∀ (a b c d e : Int) w, (part 2 #[Value.int .i64 a, Value.int .i64 b, Value.int .i64 c, Value.int .i64 d, Value.int .i64 e] 3).run Tryd.prog w = .ok (.int .i64 d) w := fun a b c d e w => by kernel_rfl
  have hp4 : ∀ (a b c d e : Int) w, (part 2 #[Value.int .i64 a, Value.int .i64 b, Value.int .i64 c, Value.int .i64 d, Value.int .i64 e] 4).run Tryd.prog w = .ok (.int .i64 e) w := fun a b c d e w => by kernel_rfl
  have he : ∀ (x y : Int) w, (Op.equalIn 9999 2 (.int .i64 x) (.int .i64 y)).run Tryd.prog w = .ok (x == y) w := fun x y w => run_equalIn_int w 9998 2 .i64 .i64 x y Tryd.underlying2
  simp only [Program.fieldsOf, Tryd.underlying72, Op.eqFields, Sem.run_bind, Sem.run_ite, hp0, hp1, hp2, hp3, hp4, he, Result.andThen_ok, Sem.run_pure]
  by_cases h1 : a = a' <;> by_cases h2 : b = b' <;> by_cases h3 : c = c' <;> by_cases h4 : d = d' <;> by_cases h5 : e = e' <;> simp [h1, h2, h3, h4, h5]

theorem neB (x y : CL.Bkt) (w : World) : (binOp .neq 72 (aggB x) (aggB y)).run Tryd.prog w = .ok (.bool (!decide (x = y))) w := by
  rw [run_neq_struct, eqB_run]; rfl

theorem egB (x y : Operand) (xs ys : Array Value) (w : World) : (eqGuard .neq 72 x y (.agg xs) (.agg ys)).run Tryd.prog w = .ok () w := run_eqGuard_agg w .neq 72 x y xs ys (by kernel_rfl)

set_option maxRecDepth 100000 in
set_option maxHeartbeats 1600000 in
theorem sameB_any (ao bo : Option Addr) (a b : List CL.Bkt) (ca cb' : Nat) (w : World) (hA : BRow w ao a) (hB : BRow w bo b) (hl : a.length ≤ 140737488351232) :
    Calls Tryd.prog 16 #[.slice ao a.length ca, .slice bo b.length cb'] w fun e w' => e = .returned (.bool (decide (a = b))) ∧ Below w.heap.size w w' := by
  by_cases hne : a.length = b.length
  · have HA := hid hA
    have HB := hid hB
    have HL := hid hne
    have hLt : (a.length : Int) ≤ b.length ∧ (b.length : Int) ≤ a.length := by omega
    have hnb : ((a.length : Int) != (b.length : Int)) = false := by simp [hne]
    clear hA hB hne
    generalize hD : decide (a = b) = D
    have HD := hid hD
    clear hD
    go_enter Tryd.func16, Tryd.ntmps16
    go_wp2_with fail
    go_loopw [5] (fun ti wr => ∃ i : Nat, i ≤ a.length ∧ ti = .int .i64 i ∧ (∀ j, j < i → atB a j = atB b j) ∧ Below w.heap.size w wr) (fun ti _ => a.length - (intOf ti).toNat)
    case atStart => exact ⟨0, by omega, rfl, by omega, Below.refl _ _⟩
    case round =>
      obtain ⟨i, hi, rfl, heq, hbel⟩ := hrel
      have HE := hid heq
      have HBl := hid hbel
      clear heq hbel
      by_cases hlt : i < a.length
      · obtain ⟨b1, o1, e1, c, hb1⟩ := HA.out i hlt
        obtain ⟨b2, o2, e2, d, hb2⟩ := HB.out i (by rw [← HL.out]; exact hlt)
        subst e1 e2
        obtain ⟨c0, c1, c2, c3, c4⟩ := c.kept (HBl.out.block b1 hb1)
        obtain ⟨d0, d1, d2, d3, d4⟩ := d.kept (HBl.out.block b2 hb2)
        clear c d
        have HNE := hid (list_ne_atB a b i)
        have HQ : Hid (atB a i = atB b i → ∀ j, j < i + 1 → atB a j = atB b j) := fun h j hj => by
          by_cases he : j = i
          · subst he; exact h
          · exact HE.out j (by omega)
        generalize atB a i = x at *
        generalize atB b i = y at *
        have hi2 : (i : Int) < (b.length : Int) := by omega
        have hgd := egB
        by_cases hxy : x = y
        · have hne2 : ∀ w, (binOp .neq 72 (aggB x) (aggB y)).run Tryd.prog w = .ok (.bool false) w := fun w => by
            rw [neB]; simp [hxy]
          have HEi := hid hxy
          clear hxy
          go_wp2_with fail
          go_quiet (fail)
          go_wp2_with fail
          refine ⟨⟨i + 1, by omega, by go_num, HQ.out HEi.out, below_drewN HBl.out _⟩, ?_⟩
          simp [intOf]; omega
        · have hne2 : ∀ w, (binOp .neq 72 (aggB x) (aggB y)).run Tryd.prog w = .ok (.bool true) w := fun w => by
            rw [neB]; simp [hxy]
          have HF : Hid (D = false) := by
            show _ = _
            rw [← HD.out]
            exact HNE.out hxy
          clear hxy
          go_wp2_with fail
          go_quiet (fail)
          go_wp2_with fail
          go_ret
          exact ⟨ret_bool HF.out.symm, below_drewN HBl.out _⟩
      · have he : i = a.length := by omega
        have HT : Hid (D = true) := by
          show _ = _
          rw [← HD.out]
          exact list_eq_atB a b HL.out (fun j hj => HE.out j (by omega))
        subst he
        go_wp2_with fail
        go_ret
        exact ⟨ret_bool HT.out.symm, HBl.out⟩
  · have hnb : ((a.length : Int) != (b.length : Int)) = true := by simp; omega
    have HF : Hid (decide (a = b) = false) := by
      show _ = _
      rw [decide_eq_false_iff_not]; intro e; exact hne (by rw [e])
    clear hne
    go_enter Tryd.func16, Tryd.ntmps16
    go_wp2_with fail
    go_ret
    exact ⟨ret_bool HF.out.symm, Below.refl _ _⟩

end Go.Proofs.YtdmnlmohfaafoabDoor
