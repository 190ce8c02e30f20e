/- What label.Compare answers. (made by mkhd.py) -/
import Derived.Test.YtdmnlmohfaafoadGreatDoorPHdMem
namespace Go.Proofs.YtdmnlmohfaafoadGreatDoor
open Go.RowKit

theorem nan_any (x : ByteArray) (w : World) : Calls Tryz.prog 143 #[.string x] w fun e w' => e = .returned (.bool false) ∧ w' = w := by
  go_enter Tryz.func143, Tryz.ntmps143
  go_wp2
  go_ret
  exact ⟨rfl, rfl⟩

set_option maxRecDepth 100000 in
theorem compare_any (x y : ByteArray) (w : World) : Calls Tryz.prog 116 #[.string x, .string y] w fun e w' => e = .returned (.int .i64 (LB.cB x y)) ∧ w' = w := by
  have hbe := LB.beq_eq x y
  by_cases h1 : Op.bytesLess x.toList y.toList = true
  · have HE : Hid (LB.cB x y = -1) := by unfold LB.cB; rw [if_pos h1]; rfl
    clear hbe
    go_enter Tryz.func116, Tryz.ntmps116
    go_wp2_with (go_at_call 143; refine (nan_any _ _).mono ?_; rintro e w' ⟨rfl, rfl⟩)
    go_ret
    exact ⟨ret_int HE.out.symm, rfl⟩
  · by_cases h2 : x = y
    · have HE : Hid (LB.cB x y = 0) := by unfold LB.cB; rw [if_neg h1, if_pos h2]; rfl
      have h3 : (x.toList == y.toList) = true := by rw [hbe, decide_eq_true h2]
      clear hbe h2
      go_enter Tryz.func116, Tryz.ntmps116
      go_wp2_with (go_at_call 143; refine (nan_any _ _).mono ?_; rintro e w' ⟨rfl, rfl⟩)
      go_ret
      exact ⟨ret_int HE.out.symm, rfl⟩
    · have HE : Hid (LB.cB x y = 1) := by unfold LB.cB; rw [if_neg h1, if_neg h2]; rfl
      have h4 : (x.toList == y.toList) = false := by rw [hbe, decide_eq_false h2]
      clear hbe h2
      go_enter Tryz.func116, Tryz.ntmps116
      go_wp2_with (go_at_call 143; refine (nan_any _ _).mono ?_; rintro e w' ⟨rfl, rfl⟩)
      go_ret
      exact ⟨ret_int HE.out.symm, rfl⟩

set_option maxRecDepth 100000 in
theorem or_any (b cap : Nat) (p q : Int) (w : World) (h0 : w.cell? ⟨b, 0, none⟩ = some (.int .i64 p)) (h1 : w.cell? ⟨b, 1, none⟩ = some (.int .i64 q)) :
    Calls Tryz.prog 115 #[.slice (some ⟨b, 0, none⟩) 2 cap] w fun e w' => e = .returned (.int .i64 (if p = 0 then q else p)) ∧ w' = w := by
  generalize hB : (if p = 0 then q else p) = B
  have HB := hid hB
  clear hB
  have H0 := hid h0
  have H1 := hid h1
  clear h0 h1
  go_enter Tryz.func115, Tryz.ntmps115
  go_wp2
  go_loopw [8] (fun ti wr => ∃ i : Nat, i ≤ 2 ∧ ti = .int .i64 i ∧ wr = w ∧ (0 < i → p = 0) ∧ (1 < i → q = 0)) (fun ti _ => 2 - (intOf ti).toNat)
  case atStart => exact ⟨0, by omega, rfl, rfl, by omega, by omega⟩
  case round =>
    obtain ⟨i, hi, rfl, rfl, hp, hq⟩ := hrel
    have HP := hid hp
    have HQ := hid hq
    clear hp hq
    have h3 : i = 0 ∨ i = 1 ∨ i = 2 := by omega
    rcases h3 with rfl | rfl | rfl
    · have h0 := H0.out
      by_cases hz : p = 0
      · have hz' : (p == 0) = true := by rw [hz]; rfl
        have HZ := hid hz
        clear hz
        go_wp2
        go_roundw
        case rel => exact ⟨1, by omega, by go_num, by trivial, fun _ => HZ.out, by omega⟩
        case measure => simp [intOf]
      · have hz' : (p == 0) = false := by rw [beq_eq_false_iff_ne]; exact hz
        have HZ : Hid (B = p) := by show _ = _; rw [← HB.out, if_neg hz]
        clear hz
        go_wp2
        go_ret
        exact ⟨ret_int HZ.out.symm, rfl⟩
    · have h1 := H1.out
      have HPP := hid (HP.out (by omega))
      by_cases hz : q = 0
      · have hz' : (q == 0) = true := by rw [hz]; rfl
        have HZ := hid hz
        clear hz
        go_wp2
        go_roundw
        case rel => exact ⟨2, by omega, by go_num, by trivial, fun _ => HPP.out, fun _ => HZ.out⟩
        case measure => simp [intOf]
      · have hz' : (q == 0) = false := by rw [beq_eq_false_iff_ne]; exact hz
        have HZ : Hid (B = q) := by show _ = _; rw [← HB.out, if_pos HPP.out]
        clear hz
        go_wp2
        go_ret
        exact ⟨ret_int HZ.out.symm, rfl⟩
    · have HZ : Hid (B = 0) := by show _ = _; rw [← HB.out, if_pos (HP.out (by omega))]; exact HQ.out (by omega)
      go_wp2
      go_ret
      exact ⟨ret_int HZ.out.symm, rfl⟩

set_option maxRecDepth 100000 in
set_option maxHeartbeats 800000 in
theorem cmp1_any (p q : LB.Lab) (w : World) :
    Calls Tryz.prog 114 #[.agg #[.string p.1, .string p.2], .agg #[.string q.1, .string q.2]] w fun e w' => e = .returned (.int .i64 (LB.cL p q)) ∧ Below w.heap.size w w' := by
  have HE : Hid (LB.cL p q = if LB.cB p.1 q.1 = 0 then LB.cB p.2 q.2 else LB.cB p.1 q.1) := rfl
  generalize LB.cL p q = B at *
  obtain ⟨p1, p2⟩ := p
  obtain ⟨q1, q2⟩ := q
  go_enter Tryz.func114, Tryz.ntmps114
  go_wp2_with fail
  have hb : Below w.heap.size w ((w.alloc (.cells #[.string p1, .string p2] 49)).alloc (.cells #[.string q1, .string q2] 49)) := ((Below.refl _ w).alloc (Nat.le_refl _) _).alloc (by simp) _
  have c0 : ((w.alloc (.cells #[.string p1, .string p2] 49)).alloc (.cells #[.string q1, .string q2] 49)).cell? ⟨w.heap.size, 0, none⟩ = some (.string p1) := by simp
  have c1 : ((w.alloc (.cells #[.string p1, .string p2] 49)).alloc (.cells #[.string q1, .string q2] 49)).cell? ⟨w.heap.size, 1, none⟩ = some (.string p2) := by simp
  have c2 : ((w.alloc (.cells #[.string p1, .string p2] 49)).alloc (.cells #[.string q1, .string q2] 49)).cell? ⟨w.heap.size + 1, 0, none⟩ = some (.string q1) := by simp
  have c3 : ((w.alloc (.cells #[.string p1, .string p2] 49)).alloc (.cells #[.string q1, .string q2] 49)).cell? ⟨w.heap.size + 1, 1, none⟩ = some (.string q2) := by simp
  have HB := hid hb
  have hsz := hb.size
  clear hb
  generalize (w.alloc (.cells #[.string p1, .string p2] 49)).alloc (.cells #[.string q1, .string q2] 49) = w3 at *
  refine wp_region_still_tail 10 (by kernel_rfl) (by kernel_rfl) ?_
  simp only [List.take_succ_cons, List.take_zero, List.drop_succ_cons, List.drop_zero]
  iterate 4 still_step
  still_call (compare_any _ _ _)
  iterate 4 still_step
  still_call (compare_any _ _ _)
  refine wpStill_nil ?_
  go_wp2_with fail
  refine (or_any w3.heap.size 2 (LB.cB p1 q1) (LB.cB p2 q2) _ (by simp) (by simp)).mono ?_
  rintro e w' ⟨rfl, rfl⟩
  rw [← HE.out]
  go_wp2_with fail
  go_ret
  exact ⟨rfl, lbelow_drewN (HB.out.alloc hsz _) 1⟩

set_option maxRecDepth 100000 in
set_option maxHeartbeats 800000 in
theorem compareFunc_any (ao bo : Option Addr) (a b : List LB.Lab) (ca cb : Nat) (w : World) (hA : LRow w ao a) (hB : LRow w bo b) (ha : a.length ≤ 1000) (hb : b.length ≤ 1000) :
    Calls Tryz.prog 113 #[.slice ao a.length ca, .slice bo b.length cb, .func (.func 114) #[] #[]] w fun e w' => e = .returned (.int .i64 (LB.cmp a b)) ∧ Below w.heap.size w w' := by
  generalize hC : LB.cmp a b = C
  have HC := hid hC
  have HA := hid hA
  have HBr := hid hB
  clear hC hA hB
  go_enter Tryz.func113, Tryz.ntmps113
  go_wp2
  go_loopw [13] (fun ti wr => ∃ i : Nat, i ≤ a.length ∧ i ≤ b.length ∧ ti = .int .i64 i ∧ Below w.heap.size w wr ∧ ∀ j, j < i → LB.cL (LB.at' a j) (LB.at' b j) = 0) (fun ti _ => a.length - (intOf ti).toNat)
  case atStart => exact ⟨0, by omega, by omega, rfl, Below.refl _ _, by omega⟩
  case round =>
    obtain ⟨i, hi, hib, rfl, hbel, hok⟩ := hrel
    have HO := hid hok
    have HBl := hid hbel
    have hsz := hbel.size
    clear hok hbel
    by_cases hlt : i < a.length
    · obtain ⟨b1, off, hao, hc0, hc1, hbs⟩ := HA.out i hlt
      subst hao
      have hcell0 := (HBl.out.cell (p := ⟨b1, off + i * 2, none⟩) hbs).trans hc0
      have hcell1 := (HBl.out.cell (p := ⟨b1, off + i * 2 + 1, none⟩) hbs).trans hc1
      clear hc0 hc1
      by_cases hlb : i < b.length
      · obtain ⟨b2, off2, hbo, hd0, hd1, hbs2⟩ := HBr.out i hlb
        subst hbo
        have hb2 : b2 < wr.heap.size := by omega
        have hdell0 := (HBl.out.cell (p := ⟨b2, off2 + i * 2, none⟩) hbs2).trans hd0
        have hdell1 := (HBl.out.cell (p := ⟨b2, off2 + i * 2 + 1, none⟩) hbs2).trans hd1
        clear hd0 hd1
        have HS : Hid (LB.cL (LB.at' a i) (LB.at' b i) ≠ 0 → C = LB.cL (LB.at' a i) (LB.at' b i)) := fun h => by rw [← HC.out]; exact LB.cmp_at a b i hlt hlb HO.out h
        have HN : Hid (LB.cL (LB.at' a i) (LB.at' b i) = 0 → ∀ j, j < i + 1 → LB.cL (LB.at' a j) (LB.at' b j) = 0) := fun h j hj => by
          by_cases he : j = i
          · subst he; exact h
          · exact HO.out j (by omega)
        have hcall := fun W => cmp1_any (LB.at' a i) (LB.at' b i) W
        generalize LB.cL (LB.at' a i) (LB.at' b i) = c at *
        generalize LB.at' a i = p at *
        generalize LB.at' b i = q at *
        have HCL := hid hcall
        clear hcall
        obtain ⟨p1, p2⟩ := p
        obtain ⟨q1, q2⟩ := q
        have hlb' : ¬ (b.length : Int) ≤ (i : Int) := by omega
        go_wp2_with fail
        refine (HCL.out _).mono ?_
        rintro e w' ⟨rfl, hb'⟩
        have HB1 := hid ((((HBl.out.alloc hsz _).alloc (by simp; omega) _)).trans (hb'.mono (by simp; omega)))
        clear hb' HCL
        by_cases hz : c = 0
        · have hz' : (c == 0) = true := by rw [hz]; rfl
          have HNN := hid (HN.out hz)
          clear hz HS HN
          go_wp2_with fail
          go_roundw
          case rel => exact ⟨i + 1, by omega, by omega, by go_num, HB1.out, HNN.out⟩
          case measure => simp [intOf]; omega
        · have hz' : (c == 0) = false := by rw [beq_eq_false_iff_ne]; exact hz
          have HSS := hid (HS.out hz)
          clear hz HS HN
          go_wp2_with fail
          go_ret
          exact ⟨ret_int HSS.out.symm, HB1.out⟩
      · have hlb' : (b.length : Int) ≤ (i : Int) := by omega
        have HS : Hid (C = 1) := by
          show _ = _
          rw [← HC.out]
          exact LB.cmp_long a b i hlt (by omega) HO.out
        generalize LB.at' a i = p at *
        obtain ⟨p1, p2⟩ := p
        go_wp2_with fail
        go_ret
        exact ⟨ret_int HS.out.symm, HBl.out.alloc hsz _⟩
    · have he : i = a.length := by omega
      by_cases hlb : a.length < b.length
      · have hlb' : (a.length : Int) < (b.length : Int) := by omega
        have HS : Hid (C = -1) := by
          show _ = _
          rw [← HC.out]
          exact LB.cmp_short a b hlb (fun j hj => HO.out j (by omega))
        subst he
        go_wp2
        go_ret
        exact ⟨ret_int HS.out.symm, HBl.out⟩
      · have hlb' : ¬ (a.length : Int) < (b.length : Int) := by omega
        have HS : Hid (C = 0) := by
          show _ = _
          rw [← HC.out]
          exact LB.cmp_same a b (by omega) (fun j hj => HO.out j (by omega))
        subst he
        go_wp2
        go_ret
        exact ⟨ret_int HS.out.symm, HBl.out⟩

set_option maxRecDepth 100000 in
theorem cmp_any (ao bo : Option Addr) (a b : List LB.Lab) (ca cb : Nat) (w : World) (hA : LRow w ao a) (hB : LRow w bo b) (ha : a.length ≤ 1000) (hb : b.length ≤ 1000) :
    Calls Tryz.prog 81 #[.slice ao a.length ca, .slice bo b.length cb] w fun e w' => e = .returned (.int .i64 (LB.cmp a b)) ∧ Below w.heap.size w w' := by
  have HC := hid (compareFunc_any ao bo a b ca cb w hA hB ha hb)
  clear hA hB
  go_enter Tryz.func81, Tryz.ntmps81
  go_wp2_with fail
  refine HC.out.mono ?_
  rintro e w' ⟨rfl, hb'⟩
  have HB := hid hb'
  clear hb' HC
  go_wp2_with fail
  go_ret
  exact ⟨rfl, HB.out⟩

end Go.Proofs.YtdmnlmohfaafoadGreatDoor

