/- What label.Get answers. (made by mkhd.py) What label.Asked, One and All answer. -/
import Derived.Test.YtdmnlmohfaafoadGreatDoorPHdMem
import Derived.Test.YtdmnlmohfaafoadGreatDoorPHxName
import Derived.Shelf.Abstract
namespace Go.Proofs.YtdmnlmohfaafoadGreatDoor
open Go.RowKit

set_option maxRecDepth 100000 in
theorem lget_any (ao : Option Addr) (l : List LB.Lab) (cap : Nat) (n : ByteArray) (w : World) (hL : LRow w ao l) (hl : l.length ≤ 140737488351232) :
    Calls Tryz.prog 156 #[.slice ao l.length cap, .string n] w fun e w' => e = .returned (.string (LB.get l n)) ∧ Below w.heap.size w w' := by
  generalize hB : LB.get l n = B
  have HB := hid hB
  have HL := hid hL
  clear hB hL
  go_enter Tryz.func156, Tryz.ntmps156
  go_wp2
  go_loopw [9] (fun ti wr => ∃ i : Nat, i ≤ l.length ∧ ti = .int .i64 i ∧ Below w.heap.size w wr ∧ ∀ j, j < i → (LB.at' l j).1 ≠ n) (fun ti _ => l.length - (intOf ti).toNat)
  case atStart => exact ⟨0, by omega, rfl, Below.refl _ _, by omega⟩
  case round =>
    obtain ⟨i, hi, rfl, hbel, hok⟩ := hrel
    have HO := hid hok
    have HBl := hid hbel
    have hsz := hbel.size
    clear hok hbel
    by_cases hlt : i < l.length
    · obtain ⟨b, off, hao, hc0, hc1, hbs⟩ := HL.out i hlt
      subst hao
      have hcell0 := (HBl.out.cell (p := ⟨b, off + i * 2, none⟩) hbs).trans hc0
      have hcell1 := (HBl.out.cell (p := ⟨b, off + i * 2 + 1, none⟩) hbs).trans hc1
      clear hc0 hc1
      have HA : Hid ((LB.at' l i).1 = n → B = (LB.at' l i).2) := fun h => by rw [← HB.out]; exact LB.get_hit l n i hlt HO.out h
      have HN : Hid ((LB.at' l i).1 ≠ n → ∀ j, j < i + 1 → (LB.at' l j).1 ≠ n) := fun h j hj => by
        by_cases he : j = i
        · subst he; exact h
        · exact HO.out j (by omega)
      generalize hN : (LB.at' l i).1 = N at *
      generalize hV : (LB.at' l i).2 = V at *
      by_cases he : N = n
      · have hq : (N.toList == n.toList) = true := by rw [LB.beq_eq]; exact decide_eq_true he
        have HE := HA.out he
        clear he HA HN hN hV
        have HE := hid HE
        go_wp2
        go_ret
        exact ⟨ret_str HE.out.symm, HBl.out.alloc hsz _⟩
      · have hq : (N.toList == n.toList) = false := by rw [LB.beq_eq]; exact decide_eq_false he
        have HE := hid (HN.out he)
        clear he HA HN hN hV
        go_wp2
        go_roundw
        case rel => exact ⟨i + 1, by omega, by go_num, HBl.out.alloc hsz _, HE.out⟩
        case measure => simp [intOf]; omega
    · have he : i = l.length := by omega
      have HE : Hid (B = ByteArray.empty) := by
        show _ = _
        rw [← HB.out]
        exact LB.get_none l n (fun j hj => HO.out j (by omega))
      subst he
      go_wp2
      go_ret
      exact ⟨ret_str HE.out.symm, HBl.out⟩

end Go.Proofs.YtdmnlmohfaafoadGreatDoor

namespace Go.Proofs.YtdmnlmohfaafoadGreatDoor
open Go.RowKit Go.Shelf

abbrev mv (x : LB.Mat) : Value := .agg #[.string x.nm, .int .i64 x.op, .string x.vl]

set_option maxRecDepth 100000 in
set_option maxHeartbeats 800000 in
theorem indexFunc_any (ao : Option Addr) (m : List LB.Mat) (cap g : Nat) (lb : Array Value) (P : LB.Mat → Bool) (w : World) (hM : MRow w ao m) (hl : m.length ≤ 1000)
    (eg : ∀ args w, (callFunc g args).run Tryz.prog w = .ok (.enter g args) w)
    (hcall : ∀ W, Below w.heap.size w W → ∀ x ∈ m, Calls Tryz.prog g (#[mv x] ++ lb) W fun e w' => e = .returned (.bool (P x)) ∧ Below W.heap.size W w') :
    Calls Tryz.prog 157 #[.slice ao m.length cap, .func (.func g) #[] lb] w fun e w' => ∃ n : Int, e = .returned (.int .i64 n) ∧ decide (0 ≤ n) = m.any P ∧ Below w.heap.size w w' := by
  generalize hB : m.any P = B
  have HB := hid hB
  have HM := hid hM
  have HCL := hid hcall
  clear hB hM hcall
  go_enter Tryz.func157, Tryz.ntmps157
  go_wp2
  go_loopw [8] (fun ti wr => ∃ i : Nat, i ≤ m.length ∧ ti = .int .i64 i ∧ Below w.heap.size w wr ∧ ∀ j, j < i → P (LB.am m j) = false) (fun ti _ => m.length - (intOf ti).toNat)
  case atStart => exact ⟨0, by omega, rfl, Below.refl _ _, by omega⟩
  case round =>
    obtain ⟨i, hi, rfl, hbel, hok⟩ := hrel
    have HO := hid hok
    have HBl := hid hbel
    have hsz := hbel.size
    clear hok hbel
    by_cases hlt : i < m.length
    · obtain ⟨b, off, hao, hc0, hc1, hc2, hbs⟩ := HM.out i hlt
      subst hao
      have hcell0 := (HBl.out.cell (p := ⟨b, off + i * 3, none⟩) hbs).trans hc0
      have hcell1 := (HBl.out.cell (p := ⟨b, off + i * 3 + 1, none⟩) hbs).trans hc1
      have hcell2 := (HBl.out.cell (p := ⟨b, off + i * 3 + 2, none⟩) hbs).trans hc2
      clear hc0 hc1 hc2
      have HC := hid (HCL.out wr HBl.out (LB.am m i) (LB.am_mem m i hlt))
      have HT : Hid (P (LB.am m i) = true → B = true) := fun h => by
        rw [← HB.out, List.any_eq_true]
        exact ⟨_, LB.am_mem m i hlt, h⟩
      have HN : Hid (P (LB.am m i) = false → ∀ j, j < i + 1 → P (LB.am m j) = false) := fun h j hj => by
        by_cases he : j = i
        · subst he; exact h
        · exact HO.out j (by omega)
      generalize LB.am m i = x at *
      obtain ⟨nm, op, vl⟩ := x
      go_wp2_with fail
      refine HC.out.mono ?_
      rintro e w2 ⟨rfl, hb2⟩
      have HB2 := hid (HBl.out.trans (hb2.mono hsz))
      clear hb2 HC
      cases hp : P ⟨nm, op, vl⟩ with
      | true =>
        have HE := hid (HT.out hp)
        clear HT HN
        go_wp2_with fail
        go_ret
        refine ⟨i, rfl, ?_, HB2.out⟩
        rw [HE.out]; exact decide_eq_true (by omega)
      | false =>
        have HE := hid (HN.out hp)
        clear HT HN
        go_wp2_with fail
        go_roundw
        case rel => exact ⟨i + 1, by omega, by go_num, HB2.out, HE.out⟩
        case measure => simp [intOf]; omega
    · have he : i = m.length := by omega
      have HE : Hid (B = false) := by
        show _ = _
        rw [← HB.out, List.any_eq_false]
        intro x hx
        obtain ⟨j, hj, rfl⟩ := List.mem_iff_getElem.1 hx
        have := HO.out j (by omega)
        unfold LB.am at this
        rw [List.getD_eq_getElem?_getD, List.getElem?_eq_getElem hj] at this
        simpa using this
      subst he
      go_wp2
      go_ret
      refine ⟨-1, rfl, ?_, HBl.out⟩
      rw [HE.out]; rfl

set_option maxRecDepth 100000 in
theorem containsFunc_any (ao : Option Addr) (m : List LB.Mat) (cap g : Nat) (lb : Array Value) (P : LB.Mat → Bool) (w : World) (hM : MRow w ao m) (hl : m.length ≤ 1000)
    (eg : ∀ args w, (callFunc g args).run Tryz.prog w = .ok (.enter g args) w)
    (hcall : ∀ W, Below w.heap.size w W → ∀ x ∈ m, Calls Tryz.prog g (#[mv x] ++ lb) W fun e w' => e = .returned (.bool (P x)) ∧ Below W.heap.size W w') :
    Calls Tryz.prog 125 #[.slice ao m.length cap, .func (.func g) #[] lb] w fun e w' => e = .returned (.bool (m.any P)) ∧ Below w.heap.size w w' := by
  have HC := hid (indexFunc_any ao m cap g lb P w hM hl eg hcall)
  clear hM hcall eg
  generalize m.any P = B at *
  go_enter Tryz.func125, Tryz.ntmps125
  go_wp2_with fail
  refine HC.out.mono ?_
  rintro e w2 ⟨n, rfl, hn, hb2⟩
  have HB2 := hid hb2
  have HN := hid hn
  clear hb2 hn HC
  go_wp2_with fail
  go_ret
  exact ⟨ret_bool HN.out, HB2.out⟩

theorem any_not {α : Type} (l : List α) (p : α → Bool) : (!l.any fun x => !p x) = l.all p := by
  induction l with
  | nil => rfl
  | cons x l ih => simp only [List.any_cons, List.all_cons, Bool.not_or, Bool.not_not, ih]

set_option maxRecDepth 100000 in
theorem prefix0_any (v x : ByteArray) (w : World) : Calls Tryz.prog 160 #[.string v, .string x] w fun e w' => e = .returned (.bool (LB.begins v x)) ∧ w' = w := by
  by_cases h : x.size ≤ v.size
  · have h' : (x.size : Int) ≤ (v.size : Int) := by omega
    have HE : Hid (LB.begins v x = ((v.extract 0 x.size).toList == x.toList)) := by
      show _ = _
      rw [LB.beq_eq, LB.begins, decide_eq_true h]; rfl
    generalize LB.begins v x = B at *
    go_enter Tryz.func160, Tryz.ntmps160
    go_wp2_with fail
    go_ret
    exact ⟨ret_bool HE.out.symm, rfl⟩
  · have h' : ¬ (x.size : Int) ≤ (v.size : Int) := by omega
    have HE : Hid (LB.begins v x = false) := by
      show _ = _
      rw [LB.begins, decide_eq_false h]; rfl
    generalize LB.begins v x = B at *
    go_enter Tryz.func160, Tryz.ntmps160
    go_wp2_with fail
    go_ret
    exact ⟨ret_bool HE.out.symm, rfl⟩

theorem prefix_any (v x : ByteArray) (w : World) : Calls Tryz.prog 127 #[.string v, .string x] w fun e w' => e = .returned (.bool (LB.begins v x)) ∧ w' = w := by
  go_enter Tryz.func127, Tryz.ntmps127
  go_wp2_with fail
  refine (prefix0_any v x _).mono ?_
  rintro e w2 ⟨rfl, rfl⟩
  go_wp2_with fail
  go_ret
  exact ⟨rfl, rfl⟩

set_option maxRecDepth 100000 in
theorem one_any (ao : Option Addr) (l : List LB.Lab) (cap : Nat) (x : LB.Mat) (w : World) (hL : LRow w ao l) (hl : l.length ≤ 1000) :
    Calls Tryz.prog 124 #[.slice ao l.length cap, mv x] w fun e w' => e = .returned (.bool (LB.one l x)) ∧ Below w.heap.size w w' := by
  have HE : Hid (LB.one l x = if x.op = 0 then decide (LB.get l x.nm = x.vl) else if x.op = 1 then !decide (LB.get l x.nm = x.vl) else if x.op = 2 then LB.begins (LB.get l x.nm) x.vl else if x.op = 3 then !LB.begins (LB.get l x.nm) x.vl else false) := rfl
  generalize LB.one l x = B at *
  obtain ⟨nm, op, vl⟩ := x
  simp only at HE
  have hG := lget_any ao l cap nm (w.alloc (.cells #[.string nm, .int .i64 op, .string vl] 111)) (hL.below ((Below.refl _ w).alloc (Nat.le_refl _) _)) (by omega)
  have HG := hid hG
  clear hG hL
  generalize LB.get l nm = G at *
  have hbe := LB.beq_eq G vl
  go_enter Tryz.func124, Tryz.ntmps124
  go_wp2_with fail
  refine HG.out.mono ?_
  rintro e w2 ⟨rfl, hb2⟩
  have HB2 := hid (((Below.refl _ w).alloc (Nat.le_refl _) (.cells #[.string nm, .int .i64 op, .string vl] 111)).trans (hb2.mono (by simp)))
  have hx1 : w2.cell? ⟨w.heap.size, 1, none⟩ = some (.int .i64 op) := (hb2.cell (p := ⟨w.heap.size, 1, none⟩) (by simp)).trans (by simp)
  have hx2 : w2.cell? ⟨w.heap.size, 2, none⟩ = some (.string vl) := (hb2.cell (p := ⟨w.heap.size, 2, none⟩) (by simp)).trans (by simp)
  clear hb2 HG
  have HBE := hid hbe
  clear hbe
  by_cases h0 : op = 0
  · subst h0
    have HF : Hid (B = (G.toList == vl.toList)) := by show _ = _; rw [HE.out, if_pos rfl, HBE.out]
    go_wp2_with fail
    go_ret
    exact ⟨ret_bool HF.out.symm, HB2.out⟩
  · have h0' : (op == 0) = false := by rw [beq_eq_false_iff_ne]; exact h0
    by_cases h1 : op = 1
    · subst h1
      have HF : Hid (B = !(G.toList == vl.toList)) := by show _ = _; rw [HE.out, if_neg (by omega), if_pos rfl, HBE.out]
      go_wp2_with fail
      go_ret
      exact ⟨ret_bool HF.out.symm, HB2.out⟩
    · have h1' : (op == 1) = false := by rw [beq_eq_false_iff_ne]; exact h1
      by_cases h2 : op = 2
      · subst h2
        have HF : Hid (B = LB.begins G vl) := by show _ = _; rw [HE.out, if_neg (by omega), if_neg (by omega), if_pos rfl]
        go_wp2_with fail
        refine (prefix_any G vl _).mono ?_
        rintro e w3 ⟨rfl, rfl⟩
        go_wp2_with fail
        go_ret
        exact ⟨ret_bool HF.out.symm, HB2.out⟩
      · have h2' : (op == 2) = false := by rw [beq_eq_false_iff_ne]; exact h2
        by_cases h3 : op = 3
        · subst h3
          have HF : Hid (B = !LB.begins G vl) := by show _ = _; rw [HE.out, if_neg (by omega), if_neg (by omega), if_neg (by omega), if_pos rfl]
          go_wp2_with fail
          refine (prefix_any G vl _).mono ?_
          rintro e w3 ⟨rfl, rfl⟩
          go_wp2_with fail
          go_ret
          exact ⟨ret_bool HF.out.symm, HB2.out⟩
        · have h3' : (op == 3) = false := by rw [beq_eq_false_iff_ne]; exact h3
          have HF : Hid (B = false) := by show _ = _; rw [HE.out, if_neg h0, if_neg h1, if_neg h2, if_neg h3]
          clear h0 h1 h2 h3
          go_wp2_with fail
          go_ret
          exact ⟨ret_bool HF.out.symm, HB2.out⟩

set_option maxRecDepth 100000 in
theorem all1_any (ao : Option Addr) (l : List LB.Lab) (cap B : Nat) (x : LB.Mat) (w : World) (hL : LRow w ao l) (hl : l.length ≤ 1000) (hc : w.cell? ⟨B, 0, none⟩ = some (.slice ao l.length cap)) (hB : B < w.heap.size) :
    Calls Tryz.prog 123 #[mv x, .pointer (some ⟨B, 0, none⟩)] w fun e w' => e = .returned (.bool (!LB.one l x)) ∧ Below w.heap.size w w' := by
  have HC := hid (one_any ao l cap x (w.alloc (.cells #[.string x.nm, .int .i64 x.op, .string x.vl] 111)) (hL.below ((Below.refl _ w).alloc (Nat.le_refl _) _)) hl)
  clear hL
  generalize LB.one l x = C at *
  obtain ⟨nm, op, vl⟩ := x
  go_enter Tryz.func123, Tryz.ntmps123
  go_wp2_with fail
  refine HC.out.mono ?_
  rintro e w2 ⟨rfl, hb2⟩
  have HB2 := hid (((Below.refl _ w).alloc (Nat.le_refl _) (.cells #[.string nm, .int .i64 op, .string vl] 111)).trans (hb2.mono (by simp)))
  clear hb2 HC
  go_wp2_with fail
  go_ret
  exact ⟨rfl, HB2.out⟩

set_option maxRecDepth 100000 in
theorem all_any (ao mo : Option Addr) (l : List LB.Lab) (m : List LB.Mat) (cl cm : Nat) (w : World) (hL : LRow w ao l) (hM : MRow w mo m) (hl : l.length ≤ 1000) (hm : m.length ≤ 1000) :
    Calls Tryz.prog 89 #[.slice ao l.length cl, .slice mo m.length cm] w fun e w' => e = .returned (.bool (LB.all l m)) ∧ Below w.heap.size w w' := by
  have HE : Hid (LB.all l m = !m.any fun x => !LB.one l x) := by
    show _ = _
    rw [any_not]; rfl
  have hb1 : Below w.heap.size w (w.alloc (.cells #[.slice ao l.length cl] 50)) := (Below.refl _ w).alloc (Nat.le_refl _) _
  have HC := hid (containsFunc_any mo m cm 123 #[.pointer (some ⟨w.heap.size, 0, none⟩)] (fun x => !LB.one l x) (w.alloc (.cells #[.slice ao l.length cl] 50)) (hM.below hb1) hm (enters_of Tryz.func123 (by kernel_rfl) rfl)
    (fun W hW x _ => all1_any ao l cl w.heap.size x W ((hL.below hb1).below hW) hl ((hW.cell (p := ⟨w.heap.size, 0, none⟩) (by simp)).trans (by simp)) (Nat.lt_of_lt_of_le (by simp) hW.size)))
  clear hL hM
  have HB1 := hid hb1
  clear hb1
  generalize LB.all l m = B at *
  generalize (m.any fun x => !LB.one l x) = C at *
  go_enter Tryz.func89, Tryz.ntmps89
  go_wp2_with fail
  refine HC.out.mono ?_
  rintro e w2 ⟨rfl, hb2⟩
  have HB2 := hid (HB1.out.trans (hb2.mono HB1.out.size))
  clear hb2 HC
  go_wp2_with fail
  go_ret
  exact ⟨ret_bool HE.out.symm, HB2.out⟩

end Go.Proofs.YtdmnlmohfaafoadGreatDoor

