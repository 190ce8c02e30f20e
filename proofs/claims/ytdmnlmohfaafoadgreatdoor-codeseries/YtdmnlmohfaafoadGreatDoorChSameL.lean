/- What sameSamples answers (package raingaugelaw's). -/
import Derived.Test.YtdmnlmohfaafoadGreatDoorChSam
import Derived.Laws.StructEq
namespace Go.Proofs.YtdmnlmohfaafoadGreatDoor
open Go.RowKit

theorem below_drewN'L {B : Nat} {a w : World} (h : Below B a w) (n : Nat) : Below B a (w.drewN n) := ⟨h.os, h.tape, h.output, h.size, h.block⟩

theorem list_ne_atL (a b : List CL.Smp) (i : Nat) (h : CL.at' a i ≠ CL.at' b i) : decide (a = b) = false := by
  rw [decide_eq_false_iff_not]
  intro e; subst e; exact h rfl
theorem list_eq_atL (a b : List CL.Smp) (hl : a.length = b.length) (h : ∀ i, i < a.length → CL.at' a i = CL.at' b i) : decide (a = b) = true := by
  rw [decide_eq_true_iff]
  apply List.ext_getElem hl
  intro i h1 h2
  have := h i h1
  simpa [CL.at', h1, h2] using this

theorem neSL (a b c d : Int) (w : World) : (binOp .neq 52 (.agg #[.int .i64 a, .int .i64 b]) (.agg #[.int .i64 c, .int .i64 d])).run Tryz.prog w = .ok (.bool (!(a == c && b == d))) w := by
  rw [run_neq_struct, run_equalIn_struct w 9999 52 _ _ (by kernel_rfl) (by kernel_rfl)]
  have hp0 : ∀ w, (part 2 #[Value.int .i64 a, Value.int .i64 b] 0).run Tryz.prog w = .ok (.int .i64 a) w := fun w => by kernel_rfl
  have hp1 : ∀ w, (part 2 #[Value.int .i64 a, Value.int .i64 b] 1).run Tryz.prog w = .ok (.int .i64 b) w := fun w => by kernel_rfl
  have hq0 : ∀ w, (part 2 #[Value.int .i64 c, Value.int .i64 d] 0).run Tryz.prog w = .ok (.int .i64 c) w := fun w => by kernel_rfl
  have hq1 : ∀ w, (part 2 #[Value.int .i64 c, Value.int .i64 d] 1).run Tryz.prog w = .ok (.int .i64 d) w := fun w => by kernel_rfl
  have he : ∀ (x y : Int) w, (Op.equalIn 9999 2 (.int .i64 x) (.int .i64 y)).run Tryz.prog w = .ok (x == y) w := fun x y w => run_equalIn_int w 9998 2 .i64 .i64 x y Tryz.underlying2
  simp only [Program.fieldsOf, Tryz.underlying52, Op.eqFields, Sem.run_bind, Sem.run_ite, hp0, hp1, hq0, hq1, he, Result.andThen_ok, Sem.run_pure]
  by_cases h1 : a = c <;> by_cases h2 : b = d <;> simp [h1, h2]

theorem egSL (x y : Operand) (xs ys : Array Value) (w : World) : (eqGuard .neq 52 x y (.agg xs) (.agg ys)).run Tryz.prog w = .ok () w := run_eqGuard_agg w .neq 52 x y xs ys (by kernel_rfl)

set_option maxRecDepth 100000 in
set_option maxHeartbeats 1600000 in
theorem sameL_any (ao bo : Option Addr) (a b : List CL.Smp) (ca cb : Nat) (w : World) (hA : SRow w ao a) (hB : SRow w bo b) (hl : a.length ≤ 140737488351232) :
    Calls Tryz.prog 45 #[.slice ao a.length ca, .slice bo b.length cb] w fun e w' => e = .returned (.bool (decide (a = b))) ∧ Below w.heap.size w w' := by
  by_cases hne : a.length = b.length
  · have HA := hid hA
    have HB := hid hB
    have HL := hid hne
    have hLt : (a.length : Int) ≤ b.length ∧ (b.length : Int) ≤ a.length := by omega
    have hnb : ((a.length : Int) != (b.length : Int)) = false := by simp [hne]
    clear hA hB hne
    generalize hD : decide (a = b) = D
    have HD := hid hD
    clear hD
    go_enter Tryz.func45, Tryz.ntmps45
    go_wp2_with fail
    go_loopw [5] (fun ti wr => ∃ i : Nat, i ≤ a.length ∧ ti = .int .i64 i ∧ (∀ j, j < i → CL.at' a j = CL.at' b j) ∧ Below w.heap.size w wr) (fun ti _ => a.length - (intOf ti).toNat)
    case atStart => exact ⟨0, by omega, rfl, by omega, Below.refl _ _⟩
    case round =>
      obtain ⟨i, hi, rfl, heq, hbel⟩ := hrel
      have HE := hid heq
      have HBl := hid hbel
      clear heq hbel
      by_cases hlt : i < a.length
      · obtain ⟨b1, o1, e1, c0, c1, hb1⟩ := HA.out i hlt
        obtain ⟨b2, o2, e2, d0, d1, hb2⟩ := HB.out i (by rw [← HL.out]; exact hlt)
        subst e1 e2
        have c0 := (HBl.out.cell (p := ⟨b1, _, none⟩) hb1).trans c0
        have c1 := (HBl.out.cell (p := ⟨b1, _, none⟩) hb1).trans c1
        have d0 := (HBl.out.cell (p := ⟨b2, _, none⟩) hb2).trans d0
        have d1 := (HBl.out.cell (p := ⟨b2, _, none⟩) hb2).trans d1
        have HNE := hid (list_ne_atL a b i)
        have HQ : Hid (CL.at' a i = CL.at' b i → ∀ j, j < i + 1 → CL.at' a j = CL.at' b j) := fun h j hj => by
          by_cases he : j = i
          · subst he; exact h
          · exact HE.out j (by omega)
        generalize CL.at' a i = x at *
        generalize CL.at' b i = y at *
        have hi2 : (i : Int) < (b.length : Int) := by omega
        obtain ⟨x1, x2⟩ := x
        obtain ⟨y1, y2⟩ := y
        simp only at c0 c1 d0 d1
        have hgd := egSL
        by_cases hxy : x1 = y1 ∧ x2 = y2
        · have hne2 : ∀ w, (binOp .neq 52 (.agg #[.int .i64 x1, .int .i64 x2]) (.agg #[.int .i64 y1, .int .i64 y2])).run Tryz.prog w = .ok (.bool false) w := fun w => by
            rw [neSL]; simp [hxy.1, hxy.2]
          have HEi : Hid ((x1, x2) = (y1, y2)) := by show _ = _; rw [hxy.1, hxy.2]
          clear hxy
          go_wp2_with fail
          go_quiet (fail)
          go_wp2_with fail
          refine ⟨⟨i + 1, by omega, by go_num, HQ.out HEi.out, below_drewN'L HBl.out _⟩, ?_⟩
          simp [intOf]; omega
        · have hne2 : ∀ w, (binOp .neq 52 (.agg #[.int .i64 x1, .int .i64 x2]) (.agg #[.int .i64 y1, .int .i64 y2])).run Tryz.prog w = .ok (.bool true) w := fun w => by
            rw [neSL]
            by_cases h1 : x1 = y1 <;> by_cases h2 : x2 = y2 <;> simp_all
          have HF : Hid (D = false) := by
            show _ = _
            rw [← HD.out]
            refine HNE.out (fun e => hxy ?_)
            simpa using e
          clear hxy
          go_wp2_with fail
          go_quiet (fail)
          go_wp2_with fail
          go_ret
          exact ⟨ret_bool HF.out.symm, below_drewN'L HBl.out _⟩
      · have he : i = a.length := by omega
        have HT : Hid (D = true) := by
          show _ = _
          rw [← HD.out]
          exact list_eq_atL a b HL.out (fun j hj => HE.out j (by omega))
        subst he
        go_wp2_with fail
        go_ret
        exact ⟨ret_bool HT.out.symm, HBl.out⟩
  · have hnb : ((a.length : Int) != (b.length : Int)) = true := by simp; omega
    have HF : Hid (decide (a = b) = false) := by
      show _ = _
      rw [decide_eq_false_iff_not]; intro e; exact hne (by rw [e])
    clear hne
    go_enter Tryz.func45, Tryz.ntmps45
    go_wp2_with fail
    go_ret
    exact ⟨ret_bool HF.out.symm, Below.refl _ _⟩

end Go.Proofs.YtdmnlmohfaafoadGreatDoor
