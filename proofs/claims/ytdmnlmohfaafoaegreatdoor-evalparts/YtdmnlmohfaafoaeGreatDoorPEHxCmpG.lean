/- What label.Compare leaves: it draws, and makes blocks, and nothing else (made by mkev.py). -/
import Derived.Test.YtdmnlmohfaafoaeGreatDoorPEHxCmp
import Derived.Sort.Grow
namespace Go.Proofs.YtdmnlmohfaafoaeGreatDoor
open Go.RowKit

structure Gr (B : Nat) (w w' : World) : Prop where
  bel : Below B w w'
  dr : w.drawn ≤ w'.drawn

theorem Gr.refl (B : Nat) (w : World) : Gr B w w := ⟨Below.refl B w, Nat.le_refl _⟩
theorem Gr.alloc {B : Nat} {w w' : World} (h : Gr B w w') (hB : B ≤ w'.heap.size) (o : Obj) : Gr B w (w'.alloc o) := ⟨h.bel.alloc hB o, h.dr⟩
theorem Gr.size {B : Nat} {w w' : World} (h : Gr B w w') : w.heap.size ≤ w'.heap.size := h.bel.size
theorem Gr.cell {B : Nat} {w w' : World} (h : Gr B w w') {p : Addr} (hp : p.block < B) : w'.cell? p = w.cell? p := h.bel.cell hp
theorem Gr.trans {B : Nat} {a b c : World} (h : Gr B a b) (k : Gr B b c) : Gr B a c := ⟨h.bel.trans k.bel, Nat.le_trans h.dr k.dr⟩
theorem Gr.mono {B B' : Nat} {w w' : World} (h : Gr B w w') (hb : B' ≤ B) : Gr B' w w' := ⟨h.bel.mono hb, h.dr⟩
theorem lgr_drewN {B : Nat} {a w : World} (h : Gr B a w) (n : Nat) : Gr B a (w.drewN n) := ⟨lbelow_drewN h.bel n, Nat.le_trans h.dr (Nat.le_add_right _ _)⟩

theorem Gr.grow {w w' : World} (h : Gr w.heap.size w w') : ∃ q os', w' = Go.Sort.grow (w.drewN q) os' := by
  obtain ⟨⟨h1, h2, h3, h4, h5⟩, h6⟩ := h
  refine ⟨w'.drawn - w.drawn, w'.heap.extract w.heap.size w'.heap.size, ?_⟩
  obtain ⟨hp, tp, dr, os, out⟩ := w
  obtain ⟨hp', tp', dr', os', out'⟩ := w'
  simp only at h1 h2 h3 h4 h5 h6
  subst h1 h2 h3
  unfold Go.Sort.grow World.drewN
  simp only [World.mk.injEq, and_true, true_and]
  refine ⟨?_, by omega⟩
  apply Array.ext
  · simp; omega
  · intro k hk hk2
    by_cases hl : k < hp.size
    · rw [Array.getElem_append_left hl]
      have := h5 k hl
      rw [Array.getElem?_eq_getElem hk, Array.getElem?_eq_getElem hl] at this
      exact Option.some.inj this
    · rw [Array.getElem_append_right (by omega)]
      simp only [Array.getElem_extract]
      congr 1
      omega

set_option maxRecDepth 100000 in
set_option maxHeartbeats 800000 in
theorem gcmp1_any (p q : LB.Lab) (w : World) :
    Calls Tryz.prog 53 #[.agg #[.string p.1, .string p.2], .agg #[.string q.1, .string q.2]] w fun e w' => e = .returned (.int .i64 (LB.cL p q)) ∧ Gr w.heap.size w w' := by
  have HE : Hid (LB.cL p q = if LB.cB p.1 q.1 = 0 then LB.cB p.2 q.2 else LB.cB p.1 q.1) := rfl
  generalize LB.cL p q = B at *
  obtain ⟨p1, p2⟩ := p
  obtain ⟨q1, q2⟩ := q
  go_enter Tryz.func53, Tryz.ntmps53
  go_wp2_with fail
  have hb : Gr w.heap.size w ((w.alloc (.cells #[.string p1, .string p2] 105)).alloc (.cells #[.string q1, .string q2] 105)) := ((Gr.refl _ w).alloc (Nat.le_refl _) _).alloc (by simp) _
  have c0 : ((w.alloc (.cells #[.string p1, .string p2] 105)).alloc (.cells #[.string q1, .string q2] 105)).cell? ⟨w.heap.size, 0, none⟩ = some (.string p1) := by simp
  have c1 : ((w.alloc (.cells #[.string p1, .string p2] 105)).alloc (.cells #[.string q1, .string q2] 105)).cell? ⟨w.heap.size, 1, none⟩ = some (.string p2) := by simp
  have c2 : ((w.alloc (.cells #[.string p1, .string p2] 105)).alloc (.cells #[.string q1, .string q2] 105)).cell? ⟨w.heap.size + 1, 0, none⟩ = some (.string q1) := by simp
  have c3 : ((w.alloc (.cells #[.string p1, .string p2] 105)).alloc (.cells #[.string q1, .string q2] 105)).cell? ⟨w.heap.size + 1, 1, none⟩ = some (.string q2) := by simp
  have HB := hid hb
  have hsz := hb.size
  clear hb
  generalize (w.alloc (.cells #[.string p1, .string p2] 105)).alloc (.cells #[.string q1, .string q2] 105) = w3 at *
  refine wp_region_still_tail 10 (by kernel_rfl) (by kernel_rfl) ?_
  simp only [List.take_succ_cons, List.take_zero, List.drop_succ_cons, List.drop_zero]
  iterate 4 still_step
  still_call (compare_any _ _ _)
  iterate 4 still_step
  still_call (compare_any _ _ _)
  refine wpStill_nil ?_
  go_wp2_with fail
  refine (or_any w3.heap.size 2 (LB.cB p1 q1) (LB.cB p2 q2) _ (by simp) (by simp)).mono ?_
  rintro e w' ⟨rfl, rfl⟩
  rw [← HE.out]
  go_wp2_with fail
  go_ret
  exact ⟨rfl, lgr_drewN (HB.out.alloc hsz _) 1⟩

set_option maxRecDepth 100000 in
set_option maxHeartbeats 800000 in
theorem gcompareFunc_any (ao bo : Option Addr) (a b : List LB.Lab) (ca cb : Nat) (w : World) (hA : LRow w ao a) (hB : LRow w bo b) (ha : a.length ≤ 1000) (hb : b.length ≤ 1000) :
    Calls Tryz.prog 52 #[.slice ao a.length ca, .slice bo b.length cb, .func (.func 53) #[] #[]] w fun e w' => e = .returned (.int .i64 (LB.cmp a b)) ∧ Gr w.heap.size w w' := by
  generalize hC : LB.cmp a b = C
  have HC := hid hC
  have HA := hid hA
  have HBr := hid hB
  clear hC hA hB
  go_enter Tryz.func52, Tryz.ntmps52
  go_wp2
  go_loopw [13] (fun ti wr => ∃ i : Nat, i ≤ a.length ∧ i ≤ b.length ∧ ti = .int .i64 i ∧ Gr w.heap.size w wr ∧ ∀ j, j < i → LB.cL (LB.at' a j) (LB.at' b j) = 0) (fun ti _ => a.length - (intOf ti).toNat)
  case atStart => exact ⟨0, by omega, by omega, rfl, Gr.refl _ _, by omega⟩
  case round =>
    obtain ⟨i, hi, hib, rfl, hbel, hok⟩ := hrel
    have HO := hid hok
    have HBl := hid hbel
    have hsz := hbel.size
    clear hok hbel
    by_cases hlt : i < a.length
    · obtain ⟨b1, off, hao, hc0, hc1, hbs⟩ := HA.out i hlt
      subst hao
      have hcell0 := (HBl.out.cell (p := ⟨b1, off + i * 2, none⟩) hbs).trans hc0
      have hcell1 := (HBl.out.cell (p := ⟨b1, off + i * 2 + 1, none⟩) hbs).trans hc1
      clear hc0 hc1
      by_cases hlb : i < b.length
      · obtain ⟨b2, off2, hbo, hd0, hd1, hbs2⟩ := HBr.out i hlb
        subst hbo
        have hb2 : b2 < wr.heap.size := by omega
        have hdell0 := (HBl.out.cell (p := ⟨b2, off2 + i * 2, none⟩) hbs2).trans hd0
        have hdell1 := (HBl.out.cell (p := ⟨b2, off2 + i * 2 + 1, none⟩) hbs2).trans hd1
        clear hd0 hd1
        have HS : Hid (LB.cL (LB.at' a i) (LB.at' b i) ≠ 0 → C = LB.cL (LB.at' a i) (LB.at' b i)) := fun h => by rw [← HC.out]; exact LB.cmp_at a b i hlt hlb HO.out h
        have HN : Hid (LB.cL (LB.at' a i) (LB.at' b i) = 0 → ∀ j, j < i + 1 → LB.cL (LB.at' a j) (LB.at' b j) = 0) := fun h j hj => by
          by_cases he : j = i
          · subst he; exact h
          · exact HO.out j (by omega)
        have hcall := fun W => gcmp1_any (LB.at' a i) (LB.at' b i) W
        generalize LB.cL (LB.at' a i) (LB.at' b i) = c at *
        generalize LB.at' a i = p at *
        generalize LB.at' b i = q at *
        have HCL := hid hcall
        clear hcall
        obtain ⟨p1, p2⟩ := p
        obtain ⟨q1, q2⟩ := q
        have hlb' : ¬ (b.length : Int) ≤ (i : Int) := by omega
        go_wp2_with fail
        refine (HCL.out _).mono ?_
        rintro e w' ⟨rfl, hb'⟩
        have HB1 := hid ((((HBl.out.alloc hsz _).alloc (by simp; omega) _)).trans (hb'.mono (by simp; omega)))
        clear hb' HCL
        by_cases hz : c = 0
        · have hz' : (c == 0) = true := by rw [hz]; rfl
          have HNN := hid (HN.out hz)
          clear hz HS HN
          go_wp2_with fail
          go_roundw
          case rel => exact ⟨i + 1, by omega, by omega, by go_num, HB1.out, HNN.out⟩
          case measure => simp [intOf]; omega
        · have hz' : (c == 0) = false := by rw [beq_eq_false_iff_ne]; exact hz
          have HSS := hid (HS.out hz)
          clear hz HS HN
          go_wp2_with fail
          go_ret
          exact ⟨ret_int HSS.out.symm, HB1.out⟩
      · have hlb' : (b.length : Int) ≤ (i : Int) := by omega
        have HS : Hid (C = 1) := by
          show _ = _
          rw [← HC.out]
          exact LB.cmp_long a b i hlt (by omega) HO.out
        generalize LB.at' a i = p at *
        obtain ⟨p1, p2⟩ := p
        go_wp2_with fail
        go_ret
        exact ⟨ret_int HS.out.symm, HBl.out.alloc hsz _⟩
    · have he : i = a.length := by omega
      by_cases hlb : a.length < b.length
      · have hlb' : (a.length : Int) < (b.length : Int) := by omega
        have HS : Hid (C = -1) := by
          show _ = _
          rw [← HC.out]
          exact LB.cmp_short a b hlb (fun j hj => HO.out j (by omega))
        subst he
        go_wp2
        go_ret
        exact ⟨ret_int HS.out.symm, HBl.out⟩
      · have hlb' : ¬ (a.length : Int) < (b.length : Int) := by omega
        have HS : Hid (C = 0) := by
          show _ = _
          rw [← HC.out]
          exact LB.cmp_same a b (by omega) (fun j hj => HO.out j (by omega))
        subst he
        go_wp2
        go_ret
        exact ⟨ret_int HS.out.symm, HBl.out⟩

set_option maxRecDepth 100000 in
theorem gcmp_any (ao bo : Option Addr) (a b : List LB.Lab) (ca cb : Nat) (w : World) (hA : LRow w ao a) (hB : LRow w bo b) (ha : a.length ≤ 1000) (hb : b.length ≤ 1000) :
    Calls Tryz.prog 20 #[.slice ao a.length ca, .slice bo b.length cb] w fun e w' => e = .returned (.int .i64 (LB.cmp a b)) ∧ Gr w.heap.size w w' := by
  have HC := hid (gcompareFunc_any ao bo a b ca cb w hA hB ha hb)
  clear hA hB
  go_enter Tryz.func20, Tryz.ntmps20
  go_wp2_with fail
  refine HC.out.mono ?_
  rintro e w' ⟨rfl, hb'⟩
  have HB := hid hb'
  clear hb' HC
  go_wp2_with fail
  go_ret
  exact ⟨rfl, HB.out⟩

end Go.Proofs.YtdmnlmohfaafoaeGreatDoor

