/- What sameTexts of either package answers (made by mkwl.py). -/
import Derived.Test.YtdmnlmohfaafoadDoorLbMem
import Derived.Deep.QuietTactic
namespace Go.Proofs.YtdmnlmohfaafoadDoor
open Go.RowKit

set_option maxRecDepth 100000 in
set_option maxHeartbeats 800000 in
theorem sameKT_any (ao bo : Option Addr) (A B : List ByteArray) (ca cb : Nat) (w : World) (hA : NRow w ao A) (hB : NRow w bo B) (ha : A.length ≤ 1000000) (_hb : B.length ≤ 1000000) :
    Calls Tryd.prog 19 #[.slice ao A.length ca, .slice bo B.length cb] w fun e w' => e = .returned (.bool (decide (A = B))) ∧ ∃ n, w' = w.drewN n := by
  have HA := hid hA
  have HBr := hid hB
  clear hA hB
  by_cases hl : A.length = B.length
  · have hl' : ¬ ((A.length : Int) ≠ (B.length : Int)) := by omega
    have HL1 := hid (Nat.le_of_eq hl)
    have hle : A.length ≤ B.length := by omega
    have hleb : B.length ≤ A.length := by omega
    have HE1 : Hid ((∀ j, j < A.length → LB.an A j = LB.an B j) → A = B) := fun h => by
      refine List.ext_getElem hl fun i h1 h2 => ?_
      have := h i h1
      unfold LB.an at this
      rw [List.getD_eq_getElem?_getD, List.getElem?_eq_getElem h1, List.getD_eq_getElem?_getD, List.getElem?_eq_getElem h2] at this
      exact this
    have HE2 : Hid (∀ i, LB.an A i ≠ LB.an B i → A ≠ B) := fun i h e => h (by rw [e])
    generalize hq0 : decide (A = B) = q at *
    have HQ0 := hid hq0
    clear hq0
    go_enter Tryd.func19, Tryd.ntmps19
    go_wp2
    go_loopw [5] (fun ti wr => ∃ i : Nat, i ≤ A.length ∧ ti = .int .i64 i ∧ (∀ j, j < i → LB.an A j = LB.an B j) ∧ ∃ n, wr = w.drewN n) (fun ti _ => A.length - (intOf ti).toNat)
    case atStart => exact ⟨0, by omega, rfl, by omega, 0, rfl⟩
    case round =>
      obtain ⟨i, hi, rfl, hok, n, hn⟩ := hrel
      have HN := hid hn
      have HOK := hid hok
      clear hok
      by_cases hlt : i < A.length
      · obtain ⟨b1, off, hao, hc0, hbs⟩ := HA.out i hlt
        subst hao
        obtain ⟨b2, off2, hbo, hd0, hbs2⟩ := HBr.out i (by omega)
        subst hbo
        have hcell0 : wr.cell? ⟨b1, off + i, none⟩ = some (.string (LB.an A i)) := by rw [hn]; exact hc0
        have hdell0 : wr.cell? ⟨b2, off2 + i, none⟩ = some (.string (LB.an B i)) := by rw [hn]; exact hd0
        have HS : Hid (LB.an A i = LB.an B i → ∀ j, j < i + 1 → LB.an A j = LB.an B j) := fun h j hj => by
          by_cases he : j = i
          · rw [he]; exact h
          · exact HOK.out j (by omega)
        have HD : Hid (LB.an A i ≠ LB.an B i → q = false) := fun h => by rw [← HQ0.out]; exact decide_eq_false (HE2.out i h)
        clear hc0 hd0 hn
        generalize LB.an A i = x at *
        generalize LB.an B i = y at *
        have hil : 0 ≤ (i : Int) ∧ (i : Int) < (A.length : Int) := by omega
        have hil2 : 0 ≤ (i : Int) ∧ (i : Int) < (B.length : Int) := by omega
        by_cases hxy : x = y
        · have HS2 := hid (HS.out hxy)
          subst hxy
          have hq : (x.toList == x.toList) = true := by simp
          clear HS HD
          go_wp2_with fail
          go_quiet (fail)
          go_wp2_with fail
          go_roundw
          case rel => exact ⟨i + 1, by omega, by go_num, HS2.out, _, by rw [HN.out, World.drewN_drewN]⟩
          case measure => simp [intOf]; omega
        · have HD2 := hid (HD.out hxy)
          have hq : (x.toList == y.toList) = false := by rw [LB.beq_eq]; exact decide_eq_false hxy
          clear HS HD
          go_wp2_with fail
          go_quiet (fail)
          go_wp2_with fail
          go_ret
          exact ⟨ret_bool HD2.out.symm, _, by rw [HN.out, World.drewN_drewN]⟩
      · have he : i = A.length := by omega
        have HT : Hid (q = true) := by
          show _ = _
          rw [← HQ0.out]
          exact decide_eq_true (HE1.out fun j hj => HOK.out j (by omega))
        subst he
        clear hn
        go_wp2
        go_ret
        exact ⟨ret_bool HT.out.symm, n, HN.out⟩
  · have hl' : (A.length : Int) ≠ (B.length : Int) := by omega
    have HQ : Hid (decide (A = B) = false) := decide_eq_false fun e => hl (by rw [e])
    generalize decide (A = B) = q at *
    go_enter Tryd.func19, Tryd.ntmps19
    go_wp2
    go_ret
    exact ⟨ret_bool HQ.out.symm, 0, rfl⟩

set_option maxRecDepth 100000 in
set_option maxHeartbeats 800000 in
theorem sameLT_any (ao bo : Option Addr) (A B : List ByteArray) (ca cb : Nat) (w : World) (hA : NRow w ao A) (hB : NRow w bo B) (ha : A.length ≤ 1000000) (_hb : B.length ≤ 1000000) :
    Calls Tryd.prog 12 #[.slice ao A.length ca, .slice bo B.length cb] w fun e w' => e = .returned (.bool (decide (A = B))) ∧ ∃ n, w' = w.drewN n := by
  have HA := hid hA
  have HBr := hid hB
  clear hA hB
  by_cases hl : A.length = B.length
  · have hl' : ¬ ((A.length : Int) ≠ (B.length : Int)) := by omega
    have HL1 := hid (Nat.le_of_eq hl)
    have hle : A.length ≤ B.length := by omega
    have hleb : B.length ≤ A.length := by omega
    have HE1 : Hid ((∀ j, j < A.length → LB.an A j = LB.an B j) → A = B) := fun h => by
      refine List.ext_getElem hl fun i h1 h2 => ?_
      have := h i h1
      unfold LB.an at this
      rw [List.getD_eq_getElem?_getD, List.getElem?_eq_getElem h1, List.getD_eq_getElem?_getD, List.getElem?_eq_getElem h2] at this
      exact this
    have HE2 : Hid (∀ i, LB.an A i ≠ LB.an B i → A ≠ B) := fun i h e => h (by rw [e])
    generalize hq0 : decide (A = B) = q at *
    have HQ0 := hid hq0
    clear hq0
    go_enter Tryd.func12, Tryd.ntmps12
    go_wp2
    go_loopw [5] (fun ti wr => ∃ i : Nat, i ≤ A.length ∧ ti = .int .i64 i ∧ (∀ j, j < i → LB.an A j = LB.an B j) ∧ ∃ n, wr = w.drewN n) (fun ti _ => A.length - (intOf ti).toNat)
    case atStart => exact ⟨0, by omega, rfl, by omega, 0, rfl⟩
    case round =>
      obtain ⟨i, hi, rfl, hok, n, hn⟩ := hrel
      have HN := hid hn
      have HOK := hid hok
      clear hok
      by_cases hlt : i < A.length
      · obtain ⟨b1, off, hao, hc0, hbs⟩ := HA.out i hlt
        subst hao
        obtain ⟨b2, off2, hbo, hd0, hbs2⟩ := HBr.out i (by omega)
        subst hbo
        have hcell0 : wr.cell? ⟨b1, off + i, none⟩ = some (.string (LB.an A i)) := by rw [hn]; exact hc0
        have hdell0 : wr.cell? ⟨b2, off2 + i, none⟩ = some (.string (LB.an B i)) := by rw [hn]; exact hd0
        have HS : Hid (LB.an A i = LB.an B i → ∀ j, j < i + 1 → LB.an A j = LB.an B j) := fun h j hj => by
          by_cases he : j = i
          · rw [he]; exact h
          · exact HOK.out j (by omega)
        have HD : Hid (LB.an A i ≠ LB.an B i → q = false) := fun h => by rw [← HQ0.out]; exact decide_eq_false (HE2.out i h)
        clear hc0 hd0 hn
        generalize LB.an A i = x at *
        generalize LB.an B i = y at *
        have hil : 0 ≤ (i : Int) ∧ (i : Int) < (A.length : Int) := by omega
        have hil2 : 0 ≤ (i : Int) ∧ (i : Int) < (B.length : Int) := by omega
        by_cases hxy : x = y
        · have HS2 := hid (HS.out hxy)
          subst hxy
          have hq : (x.toList == x.toList) = true := by simp
          clear HS HD
          go_wp2_with fail
          go_quiet (fail)
          go_wp2_with fail
          go_roundw
          case rel => exact ⟨i + 1, by omega, by go_num, HS2.out, _, by rw [HN.out, World.drewN_drewN]⟩
          case measure => simp [intOf]; omega
        · have HD2 := hid (HD.out hxy)
          have hq : (x.toList == y.toList) = false := by rw [LB.beq_eq]; exact decide_eq_false hxy
          clear HS HD
          go_wp2_with fail
          go_quiet (fail)
          go_wp2_with fail
          go_ret
          exact ⟨ret_bool HD2.out.symm, _, by rw [HN.out, World.drewN_drewN]⟩
      · have he : i = A.length := by omega
        have HT : Hid (q = true) := by
          show _ = _
          rw [← HQ0.out]
          exact decide_eq_true (HE1.out fun j hj => HOK.out j (by omega))
        subst he
        clear hn
        go_wp2
        go_ret
        exact ⟨ret_bool HT.out.symm, n, HN.out⟩
  · have hl' : (A.length : Int) ≠ (B.length : Int) := by omega
    have HQ : Hid (decide (A = B) = false) := decide_eq_false fun e => hl (by rw [e])
    generalize decide (A = B) = q at *
    go_enter Tryd.func12, Tryd.ntmps12
    go_wp2
    go_ret
    exact ⟨ret_bool HQ.out.symm, 0, rfl⟩

end Go.Proofs.YtdmnlmohfaafoadDoor
