/- label.Asked (made by mkaq.py out of LbAsk) -/
import Derived.Test.YtdmnlmohfaafoaeDoorLbName
import Derived.Shelf.Abstract
namespace Go.Proofs.YtdmnlmohfaafoaeDoor
open Go.RowKit Go.Shelf

abbrev mv (x : LB.Mat) : Value := .agg #[.string x.nm, .int .i64 x.op, .string x.vl]

set_option maxRecDepth 100000 in
set_option maxHeartbeats 800000 in
theorem indexFunc_any (ao : Option Addr) (m : List LB.Mat) (cap g : Nat) (lb : Array Value) (P : LB.Mat → Bool) (w : World) (hM : MRow w ao m) (hl : m.length ≤ 1000)
    (eg : ∀ args w, (callFunc g args).run Tryd.prog w = .ok (.enter g args) w)
    (hcall : ∀ W, Below w.heap.size w W → ∀ x ∈ m, Calls Tryd.prog g (#[mv x] ++ lb) W fun e w' => e = .returned (.bool (P x)) ∧ Below W.heap.size W w') :
    Calls Tryd.prog 88 #[.slice ao m.length cap, .func (.func g) #[] lb] w fun e w' => ∃ n : Int, e = .returned (.int .i64 n) ∧ decide (0 ≤ n) = m.any P ∧ Below w.heap.size w w' := by
  generalize hB : m.any P = B
  have HB := hid hB
  have HM := hid hM
  have HCL := hid hcall
  clear hB hM hcall
  go_enter Tryd.func88, Tryd.ntmps88
  go_wp2
  go_loopw [8] (fun ti wr => ∃ i : Nat, i ≤ m.length ∧ ti = .int .i64 i ∧ Below w.heap.size w wr ∧ ∀ j, j < i → P (LB.am m j) = false) (fun ti _ => m.length - (intOf ti).toNat)
  case atStart => exact ⟨0, by omega, rfl, Below.refl _ _, by omega⟩
  case round =>
    obtain ⟨i, hi, rfl, hbel, hok⟩ := hrel
    have HO := hid hok
    have HBl := hid hbel
    have hsz := hbel.size
    clear hok hbel
    by_cases hlt : i < m.length
    · obtain ⟨b, off, hao, hc0, hc1, hc2, hbs⟩ := HM.out i hlt
      subst hao
      have hcell0 := (HBl.out.cell (p := ⟨b, off + i * 3, none⟩) hbs).trans hc0
      have hcell1 := (HBl.out.cell (p := ⟨b, off + i * 3 + 1, none⟩) hbs).trans hc1
      have hcell2 := (HBl.out.cell (p := ⟨b, off + i * 3 + 2, none⟩) hbs).trans hc2
      clear hc0 hc1 hc2
      have HC := hid (HCL.out wr HBl.out (LB.am m i) (LB.am_mem m i hlt))
      have HT : Hid (P (LB.am m i) = true → B = true) := fun h => by
        rw [← HB.out, List.any_eq_true]
        exact ⟨_, LB.am_mem m i hlt, h⟩
      have HN : Hid (P (LB.am m i) = false → ∀ j, j < i + 1 → P (LB.am m j) = false) := fun h j hj => by
        by_cases he : j = i
        · subst he; exact h
        · exact HO.out j (by omega)
      generalize LB.am m i = x at *
      obtain ⟨nm, op, vl⟩ := x
      go_wp2_with fail
      refine HC.out.mono ?_
      rintro e w2 ⟨rfl, hb2⟩
      have HB2 := hid (HBl.out.trans (hb2.mono hsz))
      clear hb2 HC
      cases hp : P ⟨nm, op, vl⟩ with
      | true =>
        have HE := hid (HT.out hp)
        clear HT HN
        go_wp2_with fail
        go_ret
        refine ⟨i, rfl, ?_, HB2.out⟩
        rw [HE.out]; exact decide_eq_true (by omega)
      | false =>
        have HE := hid (HN.out hp)
        clear HT HN
        go_wp2_with fail
        go_roundw
        case rel => exact ⟨i + 1, by omega, by go_num, HB2.out, HE.out⟩
        case measure => simp [intOf]; omega
    · have he : i = m.length := by omega
      have HE : Hid (B = false) := by
        show _ = _
        rw [← HB.out, List.any_eq_false]
        intro x hx
        obtain ⟨j, hj, rfl⟩ := List.mem_iff_getElem.1 hx
        have := HO.out j (by omega)
        unfold LB.am at this
        rw [List.getD_eq_getElem?_getD, List.getElem?_eq_getElem hj] at this
        simpa using this
      subst he
      go_wp2
      go_ret
      refine ⟨-1, rfl, ?_, HBl.out⟩
      rw [HE.out]; rfl

set_option maxRecDepth 100000 in
theorem containsFunc_any (ao : Option Addr) (m : List LB.Mat) (cap g : Nat) (lb : Array Value) (P : LB.Mat → Bool) (w : World) (hM : MRow w ao m) (hl : m.length ≤ 1000)
    (eg : ∀ args w, (callFunc g args).run Tryd.prog w = .ok (.enter g args) w)
    (hcall : ∀ W, Below w.heap.size w W → ∀ x ∈ m, Calls Tryd.prog g (#[mv x] ++ lb) W fun e w' => e = .returned (.bool (P x)) ∧ Below W.heap.size W w') :
    Calls Tryd.prog 51 #[.slice ao m.length cap, .func (.func g) #[] lb] w fun e w' => e = .returned (.bool (m.any P)) ∧ Below w.heap.size w w' := by
  have HC := hid (indexFunc_any ao m cap g lb P w hM hl eg hcall)
  clear hM hcall eg
  generalize m.any P = B at *
  go_enter Tryd.func51, Tryd.ntmps51
  go_wp2_with fail
  refine HC.out.mono ?_
  rintro e w2 ⟨n, rfl, hn, hb2⟩
  have HB2 := hid hb2
  have HN := hid hn
  clear hb2 hn HC
  go_wp2_with fail
  go_ret
  exact ⟨ret_bool HN.out, HB2.out⟩

set_option maxRecDepth 100000 in
theorem asked1_any (x : LB.Mat) (w : World) : Calls Tryd.prog 48 #[mv x] w fun e w' => e = .returned (.bool (!LB.askd x)) ∧ Below w.heap.size w w' := by
  have HE : Hid (LB.askd x = (LB.name x.nm && LB.valu x.vl && decide (0 ≤ x.op ∧ x.op ≤ 3))) := rfl
  generalize LB.askd x = B at *
  obtain ⟨nm, op, vl⟩ := x
  simp only at HE
  go_enter Tryd.func48, Tryd.ntmps48
  go_wp2_with fail
  refine (name_any nm _).mono ?_
  rintro e w2 ⟨rfl, hb2⟩
  have HB2 := hid (((Below.refl _ w).alloc (Nat.le_refl _) (.cells #[.string nm, .int .i64 op, .string vl] 93)).trans (hb2.mono (by simp)))
  have hx1 : w2.cell? ⟨w.heap.size, 1, none⟩ = some (.int .i64 op) := (hb2.cell (p := ⟨w.heap.size, 1, none⟩) (by simp)).trans (by simp)
  have hx2 : w2.cell? ⟨w.heap.size, 2, none⟩ = some (.string vl) := (hb2.cell (p := ⟨w.heap.size, 2, none⟩) (by simp)).trans (by simp)
  have hs2 := HB2.out.size
  have hw2 : w.heap.size < w2.heap.size := Nat.lt_of_lt_of_le (by simp) hb2.size
  clear hb2
  cases hn : LB.name nm with
  | false =>
    have HF : Hid (B = false) := by show _ = _; rw [HE.out, hn]; rfl
    go_wp2_with fail
    go_ret
    exact ⟨ret_bool (by rw [HF.out]; rfl), HB2.out⟩
  | true =>
    go_wp2_with fail
    refine (value_any vl _).mono ?_
    rintro e w3 ⟨rfl, hb3⟩
    have HB3 := hid (HB2.out.trans (hb3.mono hs2))
    have hy1 : w3.cell? ⟨w.heap.size, 1, none⟩ = some (.int .i64 op) := (hb3.cell (p := ⟨w.heap.size, 1, none⟩) hw2).trans hx1
    clear hb3 hx1 hx2
    cases hv : LB.valu vl with
    | false =>
      have HF : Hid (B = false) := by show _ = _; rw [HE.out, hn, hv]; rfl
      go_wp2_with fail
      go_ret
      exact ⟨ret_bool (by rw [HF.out]; rfl), HB3.out⟩
    | true =>
      have HF : Hid (B = decide (0 ≤ op ∧ op ≤ 3)) := by show _ = _; rw [HE.out, hn, hv]; rfl
      by_cases h1 : op < 0
      · have HG : Hid (B = false) := by show _ = _; rw [HF.out]; exact decide_eq_false (by omega)
        go_wp2_with fail
        go_ret
        exact ⟨ret_bool (by rw [HG.out]; rfl), HB3.out⟩
      · by_cases h2 : 3 < op
        · have HG : Hid (B = false) := by show _ = _; rw [HF.out]; exact decide_eq_false (by omega)
          go_wp2_with fail
          go_ret
          exact ⟨ret_bool (by rw [HG.out]; rfl), HB3.out⟩
        · have HG : Hid (B = true) := by show _ = _; rw [HF.out]; exact decide_eq_true (by omega)
          go_wp2_with fail
          go_ret
          exact ⟨ret_bool (by rw [HG.out, decide_eq_false (by omega), decide_eq_false (by omega)]; rfl), HB3.out⟩

theorem any_not {α : Type} (l : List α) (p : α → Bool) : (!l.any fun x => !p x) = l.all p := by
  induction l with
  | nil => rfl
  | cons x l ih => simp only [List.any_cons, List.all_cons, Bool.not_or, Bool.not_not, ih]

set_option maxRecDepth 100000 in
theorem asked_any (ao : Option Addr) (m : List LB.Mat) (cap : Nat) (w : World) (hM : MRow w ao m) (hl : m.length ≤ 1000) :
    Calls Tryd.prog 21 #[.slice ao m.length cap] w fun e w' => e = .returned (.bool (LB.asked m)) ∧ Below w.heap.size w w' := by
  by_cases h8 : m.length ≤ 8
  · have h8' : (m.length : Int) ≤ 8 := by omega
    have HE : Hid (LB.asked m = !m.any fun x => !LB.askd x) := by
      show _ = _
      rw [any_not, LB.asked, decide_eq_true h8]; rfl
    have HC := hid (containsFunc_any ao m cap 48 #[] (fun x => !LB.askd x) w hM hl (enters_of Tryd.func48 (by kernel_rfl) rfl) (fun W _ x _ => asked1_any x W))
    clear hM h8
    generalize LB.asked m = B at *
    generalize (m.any fun x => !LB.askd x) = C at *
    go_enter Tryd.func21, Tryd.ntmps21
    go_wp2_with fail
    refine HC.out.mono ?_
    rintro e w2 ⟨rfl, hb2⟩
    have HB2 := hid hb2
    clear hb2 HC
    go_wp2_with fail
    go_ret
    exact ⟨ret_bool HE.out.symm, HB2.out⟩
  · have h8' : ¬ (m.length : Int) ≤ 8 := by omega
    have HE : Hid (LB.asked m = false) := by
      show _ = _
      rw [LB.asked, decide_eq_false h8]; rfl
    clear hM h8
    generalize LB.asked m = B at *
    go_enter Tryd.func21, Tryd.ntmps21
    go_wp2_with fail
    go_ret
    exact ⟨ret_bool HE.out.symm, Below.refl _ _⟩

end Go.Proofs.YtdmnlmohfaafoaeDoor
