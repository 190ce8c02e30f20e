/- What the document's own answer says of the order: Compare. (made by mkhd.py) -/
import Derived.Test.YtdmnlmohfaafoadGreatDoorPHxRefL
namespace Go.Proofs.YtdmnlmohfaafoadGreatDoor
open Go.RowKit

theorem eqLab (a b c d : ByteArray) (w : World) : (binOp .eql 49 (.agg #[.string a, .string b]) (.agg #[.string c, .string d])).run Tryz.prog w = .ok (.bool (decide ((a, b) = (c, d)))) w := by
  rw [run_eql_struct, run_equalIn_struct w 9999 49 _ _ (by kernel_rfl) (by kernel_rfl)]
  have hp0 : ∀ w, (part 9 #[Value.string a, Value.string b] 0).run Tryz.prog w = .ok (.string a) w := fun w => by kernel_rfl
  have hp1 : ∀ w, (part 9 #[Value.string a, Value.string b] 1).run Tryz.prog w = .ok (.string b) w := fun w => by kernel_rfl
  have hq0 : ∀ w, (part 9 #[Value.string c, Value.string d] 0).run Tryz.prog w = .ok (.string c) w := fun w => by kernel_rfl
  have hq1 : ∀ w, (part 9 #[Value.string c, Value.string d] 1).run Tryz.prog w = .ok (.string d) w := fun w => by kernel_rfl
  have he : ∀ (x y : ByteArray) w, (Op.equalIn 9999 9 (.string x) (.string y)).run Tryz.prog w = .ok (x.toList == y.toList) w := fun x y w => run_equalIn_string w 9998 9 x y Tryz.underlying9
  simp only [Program.fieldsOf, Tryz.underlying49, Op.eqFields, Sem.run_bind, Sem.run_ite, hp0, hp1, hq0, hq1, he, Result.andThen_ok, Sem.run_pure, LB.beq_eq]
  by_cases h1 : a = c <;> by_cases h2 : b = d <;> simp [h1, h2]

theorem neLab (a b c d : ByteArray) (w : World) : (binOp .neq 49 (.agg #[.string a, .string b]) (.agg #[.string c, .string d])).run Tryz.prog w = .ok (.bool (!decide ((a, b) = (c, d)))) w := by
  rw [run_neq_struct, run_equalIn_struct w 9999 49 _ _ (by kernel_rfl) (by kernel_rfl)]
  have hp0 : ∀ w, (part 9 #[Value.string a, Value.string b] 0).run Tryz.prog w = .ok (.string a) w := fun w => by kernel_rfl
  have hp1 : ∀ w, (part 9 #[Value.string a, Value.string b] 1).run Tryz.prog w = .ok (.string b) w := fun w => by kernel_rfl
  have hq0 : ∀ w, (part 9 #[Value.string c, Value.string d] 0).run Tryz.prog w = .ok (.string c) w := fun w => by kernel_rfl
  have hq1 : ∀ w, (part 9 #[Value.string c, Value.string d] 1).run Tryz.prog w = .ok (.string d) w := fun w => by kernel_rfl
  have he : ∀ (x y : ByteArray) w, (Op.equalIn 9999 9 (.string x) (.string y)).run Tryz.prog w = .ok (x.toList == y.toList) w := fun x y w => run_equalIn_string w 9998 9 x y Tryz.underlying9
  simp only [Program.fieldsOf, Tryz.underlying49, Op.eqFields, Sem.run_bind, Sem.run_ite, hp0, hp1, hq0, hq1, he, Result.andThen_ok, Sem.run_pure, LB.beq_eq]
  by_cases h1 : a = c <;> by_cases h2 : b = d <;> simp [h1, h2]

theorem egLab (o : BinOp) (x y : Operand) (xs ys : Array Value) (w : World) : (eqGuard o 49 x y (.agg xs) (.agg ys)).run Tryz.prog w = .ok () w := run_eqGuard_agg w o 49 x y xs ys (by kernel_rfl)

theorem cL_lt1 {p q : LB.Lab} (h : Op.bytesLess p.1.toList q.1.toList = true) : LB.cL p q = -1 := by
  have : LB.cB p.1 q.1 = -1 := by unfold LB.cB; rw [if_pos h]
  unfold LB.cL
  rw [if_neg (by omega), this]

theorem cL_lt2 {p q : LB.Lab} (h0 : p.1 = q.1) (h : Op.bytesLess p.2.toList q.2.toList = true) : LB.cL p q = -1 := by
  unfold LB.cL
  rw [if_pos ((LB.cB_ord.zero _ _).2 h0)]
  unfold LB.cB
  rw [if_pos h]

theorem cL_gt1 {p q : LB.Lab} (h : Op.bytesLess p.1.toList q.1.toList = false) (h0 : p.1 ≠ q.1) : LB.cL p q = 1 := by
  have : LB.cB p.1 q.1 = 1 := by unfold LB.cB; rw [if_neg (by rw [LB.lt, h]; decide), if_neg h0]
  unfold LB.cL
  rw [if_neg (by omega), this]

theorem cL_gt2 {p q : LB.Lab} (h0 : p.1 = q.1) (h : Op.bytesLess p.2.toList q.2.toList = false) (hne : p ≠ q) : LB.cL p q = 1 := by
  unfold LB.cL
  rw [if_pos ((LB.cB_ord.zero _ _).2 h0)]
  unfold LB.cB
  rw [if_neg (by rw [LB.lt, h]; decide), if_neg (fun h2 => hne (Prod.ext h0 h2))]

set_option maxRecDepth 100000 in
set_option maxHeartbeats 1600000 in
theorem rcmp_any (ao bo : Option Addr) (a b : List LB.Lab) (ca cb : Nat) (w : World) (hA : LRow w ao a) (hB : LRow w bo b) (ha : a.length ≤ 1000) (hb : b.length ≤ 1000) :
    Calls Tryz.prog 84 #[.slice ao a.length ca, .slice bo b.length cb] w fun e w' => e = .returned (.int .i64 (LB.cmp a b)) ∧ Below w.heap.size w w' := by
  generalize hC : LB.cmp a b = C
  have HC := hid hC
  have HA := hid hA
  have HBr := hid hB
  clear hC hA hB
  go_enter Tryz.func84, Tryz.ntmps84
  go_wp2
  go_loopw [5] (fun ti wr => ∃ i : Nat, i ≤ a.length ∧ i ≤ b.length ∧ ti = .int .i64 i ∧ Below w.heap.size w wr ∧ ∀ j, j < i → LB.cL (LB.at' a j) (LB.at' b j) = 0) (fun ti _ => a.length - (intOf ti).toNat)
  case atStart => exact ⟨0, by omega, by omega, rfl, Below.refl _ _, by omega⟩
  case round =>
    obtain ⟨i, hi, hib, rfl, hbel, hok⟩ := hrel
    have HO := hid hok
    have HBl := hid hbel
    clear hok hbel
    by_cases hlt : i < a.length
    · have hq1 : ((i : Int) == (a.length : Int)) = false := by rw [beq_eq_false_iff_ne]; omega
      have hq1' : (i == a.length) = false := by rw [beq_eq_false_iff_ne]; omega
      by_cases hlb : i < b.length
      · have hq2 : ((i : Int) == (b.length : Int)) = false := by rw [beq_eq_false_iff_ne]; omega
        have hq2' : (i == b.length) = false := by rw [beq_eq_false_iff_ne]; omega
        obtain ⟨b1, off, hao, hc0, hc1, hbs⟩ := HA.out i hlt
        subst hao
        have hcell0 := (HBl.out.cell (p := ⟨b1, off + i * 2, none⟩) hbs).trans hc0
        have hcell1 := (HBl.out.cell (p := ⟨b1, off + i * 2 + 1, none⟩) hbs).trans hc1
        obtain ⟨b2, off2, hbo, hd0, hd1, hbs2⟩ := HBr.out i hlb
        subst hbo
        have hdell0 := (HBl.out.cell (p := ⟨b2, off2 + i * 2, none⟩) hbs2).trans hd0
        have hdell1 := (HBl.out.cell (p := ⟨b2, off2 + i * 2 + 1, none⟩) hbs2).trans hd1
        clear hc0 hc1 hd0 hd1
        have HS : Hid (LB.cL (LB.at' a i) (LB.at' b i) ≠ 0 → C = LB.cL (LB.at' a i) (LB.at' b i)) := fun h => by rw [← HC.out]; exact LB.cmp_at a b i hlt hlb HO.out h
        have HN : Hid (LB.cL (LB.at' a i) (LB.at' b i) = 0 → ∀ j, j < i + 1 → LB.cL (LB.at' a j) (LB.at' b j) = 0) := fun h j hj => by
          by_cases he : j = i
          · subst he; exact h
          · exact HO.out j (by omega)
        generalize LB.at' a i = p at *
        generalize LB.at' b i = q at *
        obtain ⟨p1, p2⟩ := p
        obtain ⟨q1, q2⟩ := q
        simp only at hcell0 hcell1 hdell0 hdell1
        have hil : 0 ≤ (i : Int) ∧ (i : Int) < (a.length : Int) := by omega
        have hjl : 0 ≤ (i : Int) ∧ (i : Int) < (b.length : Int) := by omega
        have heg := egLab .eql
        by_cases hpq : ((p1, p2) : LB.Lab) = (q1, q2)
        · have heq : ∀ w, (binOp .eql 49 (.agg #[.string p1, .string p2]) (.agg #[.string q1, .string q2])).run Tryz.prog w = .ok (.bool true) w := fun w => by
            rw [eqLab, decide_eq_true hpq]
          have HE := hid (HN.out ((LB.cL_ord.zero _ _).2 hpq))
          clear HS HN hpq
          go_wp2_with fail
          go_quiet (fail)
          go_wp2_with fail
          go_roundw
          case rel => exact ⟨i + 1, by omega, by omega, by go_num, lbelow_drewN HBl.out _, HE.out⟩
          case measure => simp [intOf]; omega
        · have heq : ∀ w, (binOp .eql 49 (.agg #[.string p1, .string p2]) (.agg #[.string q1, .string q2])).run Tryz.prog w = .ok (.bool false) w := fun w => by
            rw [eqLab, decide_eq_false hpq]
          by_cases h1 : Op.bytesLess p1.toList q1.toList = true
          · have hv := cL_lt1 (p := (p1, p2)) (q := (q1, q2)) h1
            have HE := hid (HS.out (by omega))
            rw [hv] at HE
            clear HS HN hpq hv
            go_wp2_with fail
            go_quiet (fail)
            go_wp2_with fail
            go_quiet (fail)
            go_wp2_with fail
            go_ret
            exact ⟨ret_int HE.out.symm, lbelow_drewN (lbelow_drewN HBl.out _) _⟩
          · have h1' : Op.bytesLess p1.toList q1.toList = false := by simpa using h1
            clear h1
            by_cases h0 : p1 = q1
            · have h0' : (p1.toList == q1.toList) = true := by rw [LB.beq_eq]; exact decide_eq_true h0
              by_cases h2 : Op.bytesLess p2.toList q2.toList = true
              · have hv := cL_lt2 (p := (p1, p2)) (q := (q1, q2)) h0 h2
                have HE := hid (HS.out (by omega))
                rw [hv] at HE
                clear HS HN hpq hv h0
                go_wp2_with fail
                go_quiet (fail)
                go_wp2_with fail
                go_quiet (fail)
                go_wp2_with fail
                go_ret
                exact ⟨ret_int HE.out.symm, lbelow_drewN (lbelow_drewN HBl.out _) _⟩
              · have h2' : Op.bytesLess p2.toList q2.toList = false := by simpa using h2
                clear h2
                have hv := cL_gt2 (p := (p1, p2)) (q := (q1, q2)) h0 h2' hpq
                have HE := hid (HS.out (by omega))
                rw [hv] at HE
                clear HS HN hpq hv h0
                go_wp2_with fail
                go_quiet (fail)
                go_wp2_with fail
                go_quiet (fail)
                go_wp2_with fail
                go_ret
                exact ⟨ret_int HE.out.symm, lbelow_drewN (lbelow_drewN HBl.out _) _⟩
            · have h0' : (p1.toList == q1.toList) = false := by rw [LB.beq_eq]; exact decide_eq_false h0
              have hv := cL_gt1 (p := (p1, p2)) (q := (q1, q2)) h1' h0
              have HE := hid (HS.out (by omega))
              rw [hv] at HE
              clear HS HN hpq hv h0
              go_wp2_with fail
              go_quiet (fail)
              go_wp2_with fail
              go_quiet (fail)
              go_wp2_with fail
              go_ret
              exact ⟨ret_int HE.out.symm, lbelow_drewN (lbelow_drewN HBl.out _) _⟩
      · have he : i = b.length := by omega
        have hq2 : ((i : Int) == (b.length : Int)) = true := by rw [he]; simp
        have hq2' : (i == b.length) = true := by rw [he]; simp
        have HE : Hid (C = 1) := by
          show _ = _
          rw [← HC.out]
          exact LB.cmp_long a b i hlt he HO.out
        clear he
        go_wp2_with fail
        go_ret
        exact ⟨ret_int HE.out.symm, HBl.out⟩
    · have he : i = a.length := by omega
      by_cases hlb : i < b.length
      · have hq2 : ((a.length : Int) == (b.length : Int)) = false := by rw [beq_eq_false_iff_ne]; omega
        have hq2' : (a.length == b.length) = false := by rw [beq_eq_false_iff_ne]; omega
        have HE : Hid (C = -1) := by
          show _ = _
          rw [← HC.out]
          exact LB.cmp_short a b (by omega) (fun j hj => HO.out j (by omega))
        subst he
        go_wp2_with fail
        go_ret
        exact ⟨ret_int HE.out.symm, HBl.out⟩
      · have hq2 : ((a.length : Int) == (b.length : Int)) = true := by rw [beq_iff_eq]; omega
        have hq2' : (a.length == b.length) = true := by rw [beq_iff_eq]; omega
        have HE : Hid (C = 0) := by
          show _ = _
          rw [← HC.out]
          exact LB.cmp_same a b (by omega) (fun j hj => HO.out j (by omega))
        subst he
        go_wp2_with fail
        go_ret
        exact ⟨ret_int HE.out.symm, HBl.out⟩

end Go.Proofs.YtdmnlmohfaafoadGreatDoor

