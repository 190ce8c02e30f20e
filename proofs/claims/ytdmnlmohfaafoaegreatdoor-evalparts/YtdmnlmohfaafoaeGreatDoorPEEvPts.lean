/- Points in memory; the laws' samePoints of the same points. -/
import Derived.Test.YtdmnlmohfaafoaeGreatDoorPEHdMem
import Derived.Test.YtdmnlmohfaafoaeGreatDoorPEHxCmp
import Derived.Test.YtdmnlmohfaafoaeGreatDoorPEBkQ
import Derived.Test.YtdmnlmohfaafoaeGreatDoorPEAqOk
namespace Go.Proofs.YtdmnlmohfaafoaeGreatDoor
open Go.RowKit

def atP (l : List EV.Pt) (i : Nat) : EV.Pt := l.getD i ([], 0)

/-- Points that lie there. -/
def PRow (w : World) (ao : Option Addr) (l : List EV.Pt) : Prop :=
  ∀ i, i < l.length → ∃ b off, ao = some ⟨b, off, none⟩ ∧ b < w.heap.size ∧ ∃ lo lc, w.cell? ⟨b, off + i * 2, none⟩ = some (.slice lo (atP l i).1.length lc) ∧ w.cell? ⟨b, off + i * 2 + 1, none⟩ = some (.int .i64 (atP l i).2) ∧ LRow w lo (atP l i).1

theorem PRow.below {w w' : World} {ao : Option Addr} {l : List EV.Pt} (h : PRow w ao l) (k : Below w.heap.size w w') : PRow w' ao l := fun i hi => by
  obtain ⟨b, off, e, hb, lo, lc, c0, c1, hL⟩ := h i hi
  exact ⟨b, off, e, Nat.lt_of_lt_of_le hb k.size, lo, lc, (k.cell (p := ⟨b, _, none⟩) hb).trans c0, (k.cell (p := ⟨b, _, none⟩) hb).trans c1, hL.below k⟩

def PFew (l : List EV.Pt) : Prop := l.length ≤ 10000000 ∧ ∀ i, i < l.length → (atP l i).1.length ≤ 1000

theorem pt_index (b off n c i : Nat) (h : i < n) (w : World) : (Instr.indexAt 49 (.slice (some ⟨b, off, none⟩) n c) (.int .i64 (i : Int))).run Tryz.prog w = .ok (.pointer (some ⟨b, off + i * 2, none⟩)) w := by
  rw [run_indexAt_slice (P := Tryz.prog) w 49 ⟨b, off, none⟩ n c .i64 (i : Int) (by kernel_rfl), if_pos (by omega)]
  have hs : (sizeOf (Tryz.prog.elem 49)).run Tryz.prog w = .ok 2 w := by kernel_rfl
  have e : (⟨b, off, none⟩ : Addr).add (i * 2) = ⟨b, off + i * 2, none⟩ := by
    unfold Addr.add
    by_cases h0 : i * 2 = 0
    · rw [h0]; simp
    · simp [h0]
  rw [hs]
  show Result.ok (Value.pointer (some ((⟨b, off, none⟩ : Addr).add (i * 2)))) w = _
  rw [e]

theorem pt_loadL (b k : Nat) (ao : Option Addr) (n c : Nat) (w : World) (h : w.cell? ⟨b, k, none⟩ = some (.slice ao n c)) : (Instr.loadAt 53 (.pointer (some ⟨b, k, none⟩))).run Tryz.prog w = .ok (.slice ao n c) w := by
  have hs : (Tryz.prog.info? 53).map (·.size) = some 1 := by kernel_rfl
  go_simp

theorem pt_loadV (b k : Nat) (n : Int) (w : World) (h : w.cell? ⟨b, k, none⟩ = some (.int .i64 n)) : (Instr.loadAt 2 (.pointer (some ⟨b, k, none⟩))).run Tryz.prog w = .ok (.int .i64 n) w := by
  have hs : (Tryz.prog.info? 2).map (·.size) = some 1 := by kernel_rfl
  go_simp

set_option maxRecDepth 100000 in
set_option maxHeartbeats 3200000 in
theorem samePts_any (ao bo : Option Addr) (l : List EV.Pt) (ca cb : Nat) (w : World) (hA : PRow w ao l) (hB : PRow w bo l) (hl : PFew l) :
    Calls Tryz.prog 19 #[.slice ao l.length ca, .slice bo l.length cb] w fun e w' => e = .returned (.bool true) ∧ Below w.heap.size w w' := by
  have HA := hid hA
  have HBr := hid hB
  have HF := hid hl
  have hl1 := hl.1
  clear hA hB hl
  go_enter Tryz.func19, Tryz.ntmps19
  go_wp2
  go_loopw [5] (fun ti wr => ∃ i : Nat, i ≤ l.length ∧ ti = .int .i64 i ∧ Below w.heap.size w wr) (fun ti _ => l.length - (intOf ti).toNat)
  case atStart => exact ⟨0, by omega, rfl, Below.refl _ _⟩
  case round =>
    obtain ⟨i, hi, rfl, hbel⟩ := hrel
    have HBl := hid hbel
    have hsz := hbel.size
    by_cases hlt : i < l.length
    · obtain ⟨b1, off, hao, hbs, lo, lc, hc0, hc1, hL1⟩ := HA.out i hlt
      subst hao
      obtain ⟨b2, off2, hbo, hbs2, lo2, lc2, hd0, hd1, hL2⟩ := HBr.out i hlt
      subst hbo
      have hf1 := HF.out.2 i hlt
      have HCell : Hid (∀ W : World, Below w.heap.size w W → W.cell? ⟨b1, off + i * 2, none⟩ = some (.slice lo (atP l i).1.length lc) ∧ W.cell? ⟨b2, off2 + i * 2, none⟩ = some (.slice lo2 (atP l i).1.length lc2) ∧ W.cell? ⟨b1, off + i * 2 + 1, none⟩ = some (.int .i64 (atP l i).2) ∧ W.cell? ⟨b2, off2 + i * 2 + 1, none⟩ = some (.int .i64 (atP l i).2)) := fun W hb => ⟨(hb.cell (p := ⟨b1, _, none⟩) hbs).trans hc0, (hb.cell (p := ⟨b2, _, none⟩) hbs2).trans hd0, (hb.cell (p := ⟨b1, _, none⟩) hbs).trans hc1, (hb.cell (p := ⟨b2, _, none⟩) hbs2).trans hd1⟩
      have HCL : Hid (∀ W, Below w.heap.size w W → Calls Tryz.prog 20 #[.slice lo (atP l i).1.length lc, .slice lo2 (atP l i).1.length lc2] W fun e w' => e = .returned (.int .i64 0) ∧ Below w.heap.size w w') := fun W hb => by
        have h := cmp_any lo lo2 (atP l i).1 (atP l i).1 lc lc2 W (hL1.below hb) (hL2.below hb) hf1 hf1
        rw [EV.cmp_self] at h
        exact h.mono (fun e w' ⟨h1, h2⟩ => ⟨h1, hb.trans (h2.mono hb.size)⟩)
      clear hc0 hc1 hd0 hd1 hL1 hL2 hf1 hbel
      generalize (atP l i).1.length = ln at *
      generalize (atP l i).2 = vn at *
      go_wp2_with fail
      refine wp_region_class (fun W => Below w.heap.size w W) (by kernel_rfl) (by kernel_rfl) HBl.out.drew ?_
      refine q_run (.slice (some ⟨b1, off, none⟩) l.length ca) (by kernel_rfl) (fun W _ => by kernel_rfl) ?_
      go_frame
      refine q_run (.int .i64 (i : Int)) (by kernel_rfl) (fun W _ => by kernel_rfl) ?_
      go_frame
      refine q_index (.pointer (some ⟨b1, off + i * 2, none⟩)) (by kernel_rfl) rfl (by kernel_rfl) (by kernel_rfl) (pt_index b1 off l.length ca i hlt) ?_
      go_frame
      refine q_run (.pointer (some ⟨b1, off + i * 2 + 1, none⟩)) (by kernel_rfl) (fun W _ => by kernel_rfl) ?_
      go_frame
      refine q_load (.int .i64 vn) (by kernel_rfl) rfl (by kernel_rfl) (fun W hW => pt_loadV b1 (off + i * 2 + 1) vn W (HCell.out W hW).2.2.1) ?_
      go_frame
      refine q_run (.slice (some ⟨b2, off2, none⟩) l.length cb) (by kernel_rfl) (fun W _ => by kernel_rfl) ?_
      go_frame
      refine q_run (.int .i64 (i : Int)) (by kernel_rfl) (fun W _ => by kernel_rfl) ?_
      go_frame
      refine q_index (.pointer (some ⟨b2, off2 + i * 2, none⟩)) (by kernel_rfl) rfl (by kernel_rfl) (by kernel_rfl) (pt_index b2 off2 l.length cb i hlt) ?_
      go_frame
      refine q_run (.pointer (some ⟨b2, off2 + i * 2 + 1, none⟩)) (by kernel_rfl) (fun W _ => by kernel_rfl) ?_
      go_frame
      refine q_load (.int .i64 vn) (by kernel_rfl) rfl (by kernel_rfl) (fun W hW => pt_loadV b2 (off2 + i * 2 + 1) vn W (HCell.out W hW).2.2.2) ?_
      go_frame
      refine q_run (.bool false) (by kernel_rfl) (fun W _ => by unfold execOp; go_simp) ?_
      go_frame
      refine q_run (.bool false) (by kernel_rfl) (fun W _ => by kernel_rfl) ?_
      go_frame
      refine q_run (.slice (some ⟨b1, off, none⟩) l.length ca) (by kernel_rfl) (fun W _ => by kernel_rfl) ?_
      go_frame
      refine q_run (.int .i64 (i : Int)) (by kernel_rfl) (fun W _ => by kernel_rfl) ?_
      go_frame
      refine q_index (.pointer (some ⟨b1, off + i * 2, none⟩)) (by kernel_rfl) rfl (by kernel_rfl) (by kernel_rfl) (pt_index b1 off l.length ca i hlt) ?_
      go_frame
      refine q_run (.pointer (some ⟨b1, off + i * 2, none⟩)) (by kernel_rfl) (fun W _ => by kernel_rfl) ?_
      go_frame
      refine q_load (.slice lo ln lc) (by kernel_rfl) rfl (by kernel_rfl) (fun W hW => pt_loadL b1 (off + i * 2) lo ln lc W (HCell.out W hW).1) ?_
      go_frame
      refine q_run (.slice (some ⟨b2, off2, none⟩) l.length cb) (by kernel_rfl) (fun W _ => by kernel_rfl) ?_
      go_frame
      refine q_run (.int .i64 (i : Int)) (by kernel_rfl) (fun W _ => by kernel_rfl) ?_
      go_frame
      refine q_index (.pointer (some ⟨b2, off2 + i * 2, none⟩)) (by kernel_rfl) rfl (by kernel_rfl) (by kernel_rfl) (pt_index b2 off2 l.length cb i hlt) ?_
      go_frame
      refine q_run (.pointer (some ⟨b2, off2 + i * 2, none⟩)) (by kernel_rfl) (fun W _ => by kernel_rfl) ?_
      go_frame
      refine q_load (.slice lo2 ln lc2) (by kernel_rfl) rfl (by kernel_rfl) (fun W hW => pt_loadL b2 (off2 + i * 2) lo2 ln lc2 W (HCell.out W hW).2.1) ?_
      go_frame
      refine q_call (.int .i64 0) (by kernel_rfl) (fun W => by kernel_rfl) (fun W hW => HCL.out W hW) ?_
      go_frame
      refine q_run (.bool false) (by kernel_rfl) (fun W _ => by kernel_rfl) ?_
      go_frame
      refine q_run (.bool false) (by kernel_rfl) (fun W _ => by kernel_rfl) ?_
      go_frame
      refine wpQuiet_nil ?_
      intro w5 hb5
      have HB5 := hid hb5
      clear hb5
      go_wp2_with fail
      go_roundw
      case rel => exact ⟨i + 1, by omega, by go_num, HB5.out⟩
      case measure => simp [intOf]; omega
    · have he : i = l.length := by omega
      clear hbel
      subst he
      go_wp2
      go_ret
      exact ⟨rfl, HBl.out⟩

end Go.Proofs.YtdmnlmohfaafoaeGreatDoor

