/- What raingaugekeep's sameSeries answers of two rows of the same series. -/
import Derived.Test.YtdmnlmohfaafoaeDoorPSCdMem
import Derived.Test.YtdmnlmohfaafoaeDoorPSCxCmp
import Derived.Test.YtdmnlmohfaafoaeDoorPSChSame
import Derived.Test.YtdmnlmohfaafoaeDoorPSCsReg
namespace Go.Proofs.YtdmnlmohfaafoaeDoor
open Go.RowKit

theorem cmp_self (a : List LB.Lab) : LB.cmp a a = 0 := LB.cmp_same a a rfl (fun _ _ => (LB.cL_ord.zero _ _).2 rfl)

set_option maxRecDepth 100000 in
theorem smpK_any (ao bo : Option Addr) (a : List CL.Smp) (ca cb : Nat) (w : World) (hA : SRow w ao a) (hB : SRow w bo a) (ha : a.length ≤ 1000000) :
    Calls Tryd.prog 39 #[.slice ao a.length ca, .slice bo a.length cb] w fun e w' => e = .returned (.bool true) ∧ Below w.heap.size w w' := by
  have h := same_any ao bo a a ca cb w hA hB (by omega)
  rw [decide_eq_true rfl] at h
  exact h

theorem sr_index (b off n c i : Nat) (h : i < n) (w : World) : (Instr.indexAt 27 (.slice (some ⟨b, off, none⟩) n c) (.int .i64 (i : Int))).run Tryd.prog w = .ok (.pointer (some ⟨b, off + i * 2, none⟩)) w := by
  rw [run_indexAt_slice (P := Tryd.prog) w 27 ⟨b, off, none⟩ n c .i64 (i : Int) (by kernel_rfl), if_pos (by omega)]
  have hs : (sizeOf (Tryd.prog.elem 27)).run Tryd.prog w = .ok 2 w := by kernel_rfl
  have e : (⟨b, off, none⟩ : Addr).add (i * 2) = ⟨b, off + i * 2, none⟩ := by
    unfold Addr.add
    by_cases h0 : i * 2 = 0
    · rw [h0]; simp
    · simp [h0]
  rw [hs]
  show Result.ok (Value.pointer (some ((⟨b, off, none⟩ : Addr).add (i * 2)))) w = _
  rw [e]

theorem sr_loadL (b k : Nat) (ao : Option Addr) (n c : Nat) (w : World) (h : w.cell? ⟨b, k, none⟩ = some (.slice ao n c)) : (Instr.loadAt 35 (.pointer (some ⟨b, k, none⟩))).run Tryd.prog w = .ok (.slice ao n c) w := by
  have hs : (Tryd.prog.info? 35).map (·.size) = some 1 := by kernel_rfl
  go_simp

theorem sr_loadS (b k : Nat) (ao : Option Addr) (n c : Nat) (w : World) (h : w.cell? ⟨b, k, none⟩ = some (.slice ao n c)) : (Instr.loadAt 36 (.pointer (some ⟨b, k, none⟩))).run Tryd.prog w = .ok (.slice ao n c) w := by
  have hs : (Tryd.prog.info? 36).map (·.size) = some 1 := by kernel_rfl
  go_simp

set_option maxRecDepth 100000 in
set_option maxHeartbeats 3200000 in
theorem sameSrK_any (ao bo : Option Addr) (l : List Sr) (ca cb : Nat) (w : World) (hA : SrRow w ao l) (hB : SrRow w bo l) (hl : SrFew l) :
    Calls Tryd.prog 11 #[.slice ao l.length ca, .slice bo l.length cb] w fun e w' => e = .returned (.bool true) ∧ Below w.heap.size w w' := by
  have HA := hid hA
  have HBr := hid hB
  have HF := hid hl
  have hl1 := hl.1
  clear hA hB hl
  go_enter Tryd.func11, Tryd.ntmps11
  go_wp2
  go_loopw [5] (fun ti wr => ∃ i : Nat, i ≤ l.length ∧ ti = .int .i64 i ∧ Below w.heap.size w wr) (fun ti _ => l.length - (intOf ti).toNat)
  case atStart => exact ⟨0, by omega, rfl, Below.refl _ _⟩
  case round =>
    obtain ⟨i, hi, rfl, hbel⟩ := hrel
    have HBl := hid hbel
    have hsz := hbel.size
    by_cases hlt : i < l.length
    · obtain ⟨b1, off, hao, hbs, lo, lc, so, sc, hc0, hc1, hL1, hS1⟩ := HA.out i hlt
      subst hao
      obtain ⟨b2, off2, hbo, hbs2, lo2, lc2, so2, sc2, hd0, hd1, hL2, hS2⟩ := HBr.out i hlt
      subst hbo
      obtain ⟨hf1, hf2⟩ := HF.out.2 i hlt
      have HCell : Hid (∀ W : World, Below w.heap.size w W → W.cell? ⟨b1, off + i * 2, none⟩ = some (.slice lo (atSr l i).1.length lc) ∧ W.cell? ⟨b2, off2 + i * 2, none⟩ = some (.slice lo2 (atSr l i).1.length lc2) ∧ W.cell? ⟨b1, off + i * 2 + 1, none⟩ = some (.slice so (atSr l i).2.length sc) ∧ W.cell? ⟨b2, off2 + i * 2 + 1, none⟩ = some (.slice so2 (atSr l i).2.length sc2)) := fun W hb => ⟨(hb.cell (p := ⟨b1, off + i * 2, none⟩) hbs).trans hc0, (hb.cell (p := ⟨b2, off2 + i * 2, none⟩) hbs2).trans hd0, (hb.cell (p := ⟨b1, off + i * 2 + 1, none⟩) hbs).trans hc1, (hb.cell (p := ⟨b2, off2 + i * 2 + 1, none⟩) hbs2).trans hd1⟩
      have HCL : Hid (∀ W, Below w.heap.size w W → Calls Tryd.prog 14 #[.slice lo (atSr l i).1.length lc, .slice lo2 (atSr l i).1.length lc2] W fun e w' => e = .returned (.int .i64 0) ∧ Below w.heap.size w w') := fun W hb => by
        have h := cmp_any lo lo2 (atSr l i).1 (atSr l i).1 lc lc2 W (hL1.below hb) (hL2.below hb) hf1 hf1
        rw [cmp_self] at h
        exact h.mono (fun e w' ⟨h1, h2⟩ => ⟨h1, hb.trans (h2.mono hb.size)⟩)
      have HCS : Hid (∀ W, Below w.heap.size w W → Calls Tryd.prog 39 #[.slice so (atSr l i).2.length sc, .slice so2 (atSr l i).2.length sc2] W fun e w' => e = .returned (.bool true) ∧ Below w.heap.size w w') := fun W hb =>
        (smpK_any so so2 (atSr l i).2 sc sc2 W (hS1.below hb) (hS2.below hb) hf2).mono (fun e w' ⟨h1, h2⟩ => ⟨h1, hb.trans (h2.mono hb.size)⟩)
      clear hc0 hc1 hd0 hd1 hL1 hS1 hL2 hS2 hf1 hf2 hbel
      generalize (atSr l i).1.length = ln at *
      generalize (atSr l i).2.length = sn at *
      go_wp2_with fail
      refine wp_region_class (fun W => Below w.heap.size w W) (by kernel_rfl) (by kernel_rfl) HBl.out.drew ?_
      refine q_run (.slice (some ⟨b1, off, none⟩) l.length ca) (by kernel_rfl) (fun W _ => by kernel_rfl) ?_
      go_frame
      refine q_run (.int .i64 (i : Int)) (by kernel_rfl) (fun W _ => by kernel_rfl) ?_
      go_frame
      refine q_index (.pointer (some ⟨b1, off + i * 2, none⟩)) (by kernel_rfl) rfl (by kernel_rfl) (by kernel_rfl) (sr_index b1 off l.length ca i hlt) ?_
      go_frame
      refine q_run (.pointer (some ⟨b1, off + i * 2, none⟩)) (by kernel_rfl) (fun W _ => by kernel_rfl) ?_
      go_frame
      refine q_load (.slice lo ln lc) (by kernel_rfl) rfl (by kernel_rfl) (fun W hW => sr_loadL b1 (off + i * 2) lo ln lc W (HCell.out W hW).1) ?_
      go_frame
      refine q_run (.slice (some ⟨b2, off2, none⟩) l.length cb) (by kernel_rfl) (fun W _ => by kernel_rfl) ?_
      go_frame
      refine q_run (.int .i64 (i : Int)) (by kernel_rfl) (fun W _ => by kernel_rfl) ?_
      go_frame
      refine q_index (.pointer (some ⟨b2, off2 + i * 2, none⟩)) (by kernel_rfl) rfl (by kernel_rfl) (by kernel_rfl) (sr_index b2 off2 l.length cb i hlt) ?_
      go_frame
      refine q_run (.pointer (some ⟨b2, off2 + i * 2, none⟩)) (by kernel_rfl) (fun W _ => by kernel_rfl) ?_
      go_frame
      refine q_load (.slice lo2 ln lc2) (by kernel_rfl) rfl (by kernel_rfl) (fun W hW => sr_loadL b2 (off2 + i * 2) lo2 ln lc2 W (HCell.out W hW).2.1) ?_
      go_frame
      refine q_call (.int .i64 0) (by kernel_rfl) (fun W => by kernel_rfl) (fun W hW => HCL.out W hW) ?_
      go_frame
      refine q_run (.bool false) (by kernel_rfl) (fun W _ => by kernel_rfl) ?_
      go_frame
      refine q_run (.bool false) (by kernel_rfl) (fun W _ => by kernel_rfl) ?_
      go_frame
      refine q_run (.slice (some ⟨b1, off, none⟩) l.length ca) (by kernel_rfl) (fun W _ => by kernel_rfl) ?_
      go_frame
      refine q_run (.int .i64 (i : Int)) (by kernel_rfl) (fun W _ => by kernel_rfl) ?_
      go_frame
      refine q_index (.pointer (some ⟨b1, off + i * 2, none⟩)) (by kernel_rfl) rfl (by kernel_rfl) (by kernel_rfl) (sr_index b1 off l.length ca i hlt) ?_
      go_frame
      refine q_run (.pointer (some ⟨b1, off + i * 2 + 1, none⟩)) (by kernel_rfl) (fun W _ => by kernel_rfl) ?_
      go_frame
      refine q_load (.slice so sn sc) (by kernel_rfl) rfl (by kernel_rfl) (fun W hW => sr_loadS b1 (off + i * 2 + 1) so sn sc W (HCell.out W hW).2.2.1) ?_
      go_frame
      refine q_run (.slice (some ⟨b2, off2, none⟩) l.length cb) (by kernel_rfl) (fun W _ => by kernel_rfl) ?_
      go_frame
      refine q_run (.int .i64 (i : Int)) (by kernel_rfl) (fun W _ => by kernel_rfl) ?_
      go_frame
      refine q_index (.pointer (some ⟨b2, off2 + i * 2, none⟩)) (by kernel_rfl) rfl (by kernel_rfl) (by kernel_rfl) (sr_index b2 off2 l.length cb i hlt) ?_
      go_frame
      refine q_run (.pointer (some ⟨b2, off2 + i * 2 + 1, none⟩)) (by kernel_rfl) (fun W _ => by kernel_rfl) ?_
      go_frame
      refine q_load (.slice so2 sn sc2) (by kernel_rfl) rfl (by kernel_rfl) (fun W hW => sr_loadS b2 (off2 + i * 2 + 1) so2 sn sc2 W (HCell.out W hW).2.2.2) ?_
      go_frame
      refine q_call (.bool true) (by kernel_rfl) (fun W => by kernel_rfl) (fun W hW => HCS.out W hW) ?_
      go_frame
      refine q_run (.bool false) (by kernel_rfl) (fun W _ => by kernel_rfl) ?_
      go_frame
      refine q_run (.bool false) (by kernel_rfl) (fun W _ => by kernel_rfl) ?_
      go_frame
      refine wpQuiet_nil ?_
      intro w5 hb5
      have HB5 := hid hb5
      clear hb5
      go_wp2_with fail
      go_roundw
      case rel => exact ⟨i + 1, by omega, by go_num, HB5.out⟩
      case measure => simp [intOf]; omega
    · have he : i = l.length := by omega
      clear hbel
      subst he
      go_wp2
      go_ret
      exact ⟨rfl, HBl.out⟩

end Go.Proofs.YtdmnlmohfaafoaeDoor

