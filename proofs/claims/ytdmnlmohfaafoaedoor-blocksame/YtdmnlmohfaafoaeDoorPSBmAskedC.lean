/- label.Asked (made by mkbk.py) -/
import Derived.Test.YtdmnlmohfaafoaeDoorPSHxAskC
namespace Go.Proofs.YtdmnlmohfaafoaeDoor
open Go.RowKit

set_option maxRecDepth 100000 in
theorem asked1_any (x : LB.Mat) (w : World) : Calls Tryd.prog 48 #[mv x] w fun e w' => e = .returned (.bool (!LB.askd x)) ∧ Below w.heap.size w w' := by
  have HE : Hid (LB.askd x = (LB.name x.nm && LB.valu x.vl && decide (0 ≤ x.op ∧ x.op ≤ 3))) := rfl
  generalize LB.askd x = B at *
  obtain ⟨nm, op, vl⟩ := x
  simp only at HE
  go_enter Tryd.func48, Tryd.ntmps48
  go_wp2_with fail
  refine (name_any nm _).mono ?_
  rintro e w2 ⟨rfl, hb2⟩
  have HB2 := hid (((Below.refl _ w).alloc (Nat.le_refl _) (.cells #[.string nm, .int .i64 op, .string vl] 93)).trans (hb2.mono (by simp)))
  have hx1 : w2.cell? ⟨w.heap.size, 1, none⟩ = some (.int .i64 op) := (hb2.cell (p := ⟨w.heap.size, 1, none⟩) (by simp)).trans (by simp)
  have hx2 : w2.cell? ⟨w.heap.size, 2, none⟩ = some (.string vl) := (hb2.cell (p := ⟨w.heap.size, 2, none⟩) (by simp)).trans (by simp)
  have hs2 := HB2.out.size
  have hw2 : w.heap.size < w2.heap.size := Nat.lt_of_lt_of_le (by simp) hb2.size
  clear hb2
  cases hn : LB.name nm with
  | false =>
    have HF : Hid (B = false) := by show _ = _; rw [HE.out, hn]; rfl
    go_wp2_with fail
    go_ret
    exact ⟨ret_bool (by rw [HF.out]; rfl), HB2.out⟩
  | true =>
    go_wp2_with fail
    refine (lvalue_any vl _).mono ?_
    rintro e w3 ⟨rfl, hb3⟩
    have HB3 := hid (HB2.out.trans (hb3.mono hs2))
    have hy1 : w3.cell? ⟨w.heap.size, 1, none⟩ = some (.int .i64 op) := (hb3.cell (p := ⟨w.heap.size, 1, none⟩) hw2).trans hx1
    clear hb3 hx1 hx2
    cases hv : LB.valu vl with
    | false =>
      have HF : Hid (B = false) := by show _ = _; rw [HE.out, hn, hv]; rfl
      go_wp2_with fail
      go_ret
      exact ⟨ret_bool (by rw [HF.out]; rfl), HB3.out⟩
    | true =>
      have HF : Hid (B = decide (0 ≤ op ∧ op ≤ 3)) := by show _ = _; rw [HE.out, hn, hv]; rfl
      by_cases h1 : op < 0
      · have HG : Hid (B = false) := by show _ = _; rw [HF.out]; exact decide_eq_false (by omega)
        go_wp2_with fail
        go_ret
        exact ⟨ret_bool (by rw [HG.out]; rfl), HB3.out⟩
      · by_cases h2 : 3 < op
        · have HG : Hid (B = false) := by show _ = _; rw [HF.out]; exact decide_eq_false (by omega)
          go_wp2_with fail
          go_ret
          exact ⟨ret_bool (by rw [HG.out]; rfl), HB3.out⟩
        · have HG : Hid (B = true) := by show _ = _; rw [HF.out]; exact decide_eq_true (by omega)
          go_wp2_with fail
          go_ret
          exact ⟨ret_bool (by rw [HG.out, decide_eq_false (by omega), decide_eq_false (by omega)]; rfl), HB3.out⟩

set_option maxRecDepth 100000 in
theorem asked_any (ao : Option Addr) (m : List LB.Mat) (cap : Nat) (w : World) (hM : MRow w ao m) (hl : m.length ≤ 1000) :
    Calls Tryd.prog 21 #[.slice ao m.length cap] w fun e w' => e = .returned (.bool (LB.asked m)) ∧ Below w.heap.size w w' := by
  by_cases h8 : m.length ≤ 8
  · have h8' : (m.length : Int) ≤ 8 := by omega
    have HE : Hid (LB.asked m = !m.any fun x => !LB.askd x) := by
      show _ = _
      rw [any_not, LB.asked, decide_eq_true h8]; rfl
    have HC := hid (containsFunc_any ao m cap 48 #[] (fun x => !LB.askd x) w hM hl (enters_of Tryd.func48 (by kernel_rfl) rfl) (fun W _ x _ => asked1_any x W))
    clear hM h8
    generalize LB.asked m = B at *
    generalize (m.any fun x => !LB.askd x) = C at *
    go_enter Tryd.func21, Tryd.ntmps21
    go_wp2_with fail
    refine HC.out.mono ?_
    rintro e w2 ⟨rfl, hb2⟩
    have HB2 := hid hb2
    clear hb2 HC
    go_wp2_with fail
    go_ret
    exact ⟨ret_bool HE.out.symm, HB2.out⟩
  · have h8' : ¬ (m.length : Int) ≤ 8 := by omega
    have HE : Hid (LB.asked m = false) := by
      show _ = _
      rw [LB.asked, decide_eq_false h8]; rfl
    clear hM h8
    generalize LB.asked m = B at *
    go_enter Tryd.func21, Tryd.ntmps21
    go_wp2_with fail
    go_ret
    exact ⟨ret_bool HE.out.symm, Below.refl _ _⟩

end Go.Proofs.YtdmnlmohfaafoaeDoor

