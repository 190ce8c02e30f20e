/- How samples lie in memory; what chunk.Right answers; what a track does. -/
import Derived.Test.YtdmnlmohfaafoadGreatDoorBitLeaf
import Derived.Test.YtdmnlmohfaafoadGreatDoorChNum
import Derived.StillTailTactics
import Derived.BigQuiet
namespace Go.Proofs.YtdmnlmohfaafoadGreatDoor
open Go.RowKit

theorem W_wrap (n : Int) : IntKind.i64.wrap n = CL.W n := by rw [IntKind.wrap_i64]; unfold CL.W; omega
theorem W_wrap64 (n : Int) : wrap64 n = CL.W n := by unfold wrap64 CL.W; rfl

/-- The samples l lie from ao on. -/
def SRow (w : World) (ao : Option Addr) (l : List CL.Smp) : Prop :=
  ∀ i, i < l.length → ∃ b off, ao = some ⟨b, off, none⟩ ∧ w.cell? ⟨b, off + i * 2, none⟩ = some (.int .i64 (CL.at' l i).1) ∧ w.cell? ⟨b, off + i * 2 + 1, none⟩ = some (.int .i64 (CL.at' l i).2) ∧ b < w.heap.size

theorem SRow.below {w w' : World} {ao : Option Addr} {l : List CL.Smp} (h : SRow w ao l) (hb : Below w.heap.size w w') : SRow w' ao l := by
  intro i hi
  obtain ⟨b, off, h1, h2, h3, h4⟩ := h i hi
  exact ⟨b, off, h1, (hb.cell (p := ⟨b, _, none⟩) h4).trans h2, (hb.cell (p := ⟨b, _, none⟩) h4).trans h3, Nat.lt_of_lt_of_le h4 hb.size⟩

/-- The object behind a sample of one's own. -/
abbrev boxS (a b : Int) : Obj := .cells #[.int .i64 a, .int .i64 b] 52

set_option maxRecDepth 100000 in
set_option maxHeartbeats 800000 in
theorem right_any (ao : Option Addr) (l : List CL.Smp) (cap : Nat) (w : World) (hS : SRow w ao l) (hR : ∀ s ∈ l, CL.Rs s) (hl : l.length ≤ 140737488351232) :
    Calls Tryz.prog 64 #[.slice ao l.length cap] w fun e w' => e = .returned (.bool (CL.right l)) ∧ Below w.heap.size w w' := by
  by_cases hlen : 2000 < l.length
  · have h' : (2000 : Int) < (l.length : Int) := by omega
    rw [CL.not_right_len l hlen]
    go_enter Tryz.func64, Tryz.ntmps64
    go_wp2
    go_ret
    exact ⟨rfl, Below.refl _ _⟩
  · have h' : ¬ (2000 : Int) < (l.length : Int) := by omega
    have HS := hid hS
    have HR := hid hR
    clear hS hR
    generalize hB : CL.right l = B
    have HB := hid hB
    clear hB
    go_enter Tryz.func64, Tryz.ntmps64
    go_wp2
    go_loopw [3, 11] (fun tm ti wr => ∃ i : Nat, i ≤ l.length ∧ ti = .int .i64 i ∧ tm = .int .i64 (if i = 0 then -1099511627776 else (CL.at' l (i - 1)).1 + 1) ∧ (∀ j, j < i → CL.okAt l j = true) ∧ Below w.heap.size w wr) (fun _ ti _ => l.length - (intOf ti).toNat)
    case atStart => exact ⟨0, by omega, rfl, rfl, by omega, Below.refl _ _⟩
    case round =>
      obtain ⟨i, hi, rfl, rfl, hok, hbel⟩ := hrel
      have HO := hid hok
      have HBl := hid hbel
      have hsz := hbel.size
      clear hok hbel
      by_cases hlt : i < l.length
      · obtain ⟨b, off, hao, hc0, hc1, hbs⟩ := HS.out i hlt
        subst hao
        have hcell0 := (HBl.out.cell (p := ⟨b, off + i * 2, none⟩) hbs).trans hc0
        have hcell1 := (HBl.out.cell (p := ⟨b, off + i * 2 + 1, none⟩) hbs).trans hc1
        clear hc0 hc1
        have hrs := HR.out _ (CL.at_mem l i hlt)
        have hokI := CL.okAt_iff l i
        have hlow : -1099511627776 ≤ (if i = 0 then (-1099511627776 : Int) else (CL.at' l (i - 1)).1 + 1) ∧ (i = 0 → (if i = 0 then (-1099511627776 : Int) else (CL.at' l (i - 1)).1 + 1) = -1099511627776) ∧ (i ≠ 0 → (if i = 0 then (-1099511627776 : Int) else (CL.at' l (i - 1)).1 + 1) = (CL.at' l (i - 1)).1 + 1) := by
          by_cases h0 : i = 0
          · rw [if_pos h0]; omega
          · have := (CL.okAt_iff l (i - 1)).1 (HO.out (i - 1) (by omega))
            rw [if_neg h0]; omega
        have HN : Hid (CL.at' l i = CL.at' l (i + 1 - 1)) := rfl
        have HOK : Hid (CL.okAt l i = true ↔ (if i = 0 then (-1099511627776 : Int) else (CL.at' l (i - 1)).1 + 1) ≤ (CL.at' l i).1 ∧ (CL.at' l i).1 ≤ 1099511627776) := by
          show _ ↔ _
          rw [hokI]
          by_cases h0 : i = 0
          · rw [hlow.2.1 h0]; omega
          · rw [hlow.2.2 h0]; omega
        clear hokI hlow
        obtain ⟨⟨hr1, hr2⟩, hr3, hr4⟩ := hrs
        generalize (if i = 0 then (-1099511627776 : Int) else (CL.at' l (i - 1)).1 + 1) = m at *
        by_cases hb1 : (CL.at' l i).1 < m
        · have HF : Hid (B = false) := by
            show _ = _
            rw [← HB.out]
            refine CL.not_right l i hlt ?_
            rw [← Bool.not_eq_true, HOK.out]
            omega
          generalize (CL.at' l i).1 = T at *
          generalize (CL.at' l i).2 = V at *
          go_wp2
          go_ret
          exact ⟨ret_bool HF.out.symm, HBl.out.alloc hsz _⟩
        · by_cases hb2 : 1099511627776 < (CL.at' l i).1
          · have HF : Hid (B = false) := by
              show _ = _
              rw [← HB.out]
              refine CL.not_right l i hlt ?_
              rw [← Bool.not_eq_true, HOK.out]
              omega
            generalize (CL.at' l i).1 = T at *
            generalize (CL.at' l i).2 = V at *
            go_wp2
            go_ret
            exact ⟨ret_bool HF.out.symm, HBl.out.alloc hsz _⟩
          · have HT : Hid (CL.okAt l i = true) := by
              show _ = _
              rw [HOK.out]
              omega
            have HE : Hid ((CL.at' l i).1 = (CL.at' l (i + 1 - 1)).1) := rfl
            generalize (CL.at' l i).1 = T at *
            generalize (CL.at' l i).2 = V at *
            have hw : IntKind.i64.wrap (T + 1) = T + 1 := by rw [IntKind.wrap_i64]; omega
            go_wp2
            go_roundw
            case rel =>
              refine ⟨i + 1, by omega, by go_num, ?_, ?_, HBl.out.alloc hsz _⟩
              · rw [if_neg (by omega), ← HE.out]
              · intro j hj
                by_cases he : j = i
                · subst he; exact HT.out
                · exact HO.out j (by omega)
            case measure => simp [intOf]; omega
      · have he : i = l.length := by omega
        have HF : Hid (B = true) := by
          show _ = _
          rw [← HB.out]
          exact CL.right_of l (by omega) (fun j hj => HO.out j (by omega))
        generalize (if i = 0 then (-1099511627776 : Int) else (CL.at' l (i - 1)).1 + 1) = m at *
        subst he
        go_wp2
        go_ret
        exact ⟨ret_bool HF.out.symm, HBl.out⟩

/-- A track in block B: the sample ahead, what is taken away, whether it has begun. -/
def TInv (B : Nat) (w : World) (a : CL.Smp) (st : Int) (bg : Bool) : Prop :=
  w.heap[B]? = some (.cells #[.int .i64 a.1, .int .i64 a.2, .int .i64 st, .bool bg] 129 (0, 0))

theorem TInv.cells {B : Nat} {w : World} {a : CL.Smp} {st : Int} {bg : Bool} (h : TInv B w a st bg) :
    w.cell? ⟨B, 0, none⟩ = some (.int .i64 a.1) ∧ w.cell? ⟨B, 1, none⟩ = some (.int .i64 a.2) ∧ w.cell? ⟨B, 2, none⟩ = some (.int .i64 st) ∧ w.cell? ⟨B, 3, none⟩ = some (.bool bg) ∧
    w.frozen? ⟨B, 0, none⟩ = false ∧ w.frozen? ⟨B, 1, none⟩ = false ∧ w.frozen? ⟨B, 2, none⟩ = false ∧ w.frozen? ⟨B, 3, none⟩ = false ∧ B < w.heap.size := by
  unfold TInv at h
  have hlt : B < w.heap.size := by
    rcases Nat.lt_or_ge B w.heap.size with h' | h'
    · exact h'
    · rw [Array.getElem?_eq_none h'] at h; cases h
  refine ⟨?_, ?_, ?_, ?_, ?_, ?_, ?_, ?_, hlt⟩ <;> simp only [World.cell?, World.frozen?, h] <;> rfl

theorem TInv.new (w : World) : TInv w.heap.size (w.alloc (.cells #[.int .i64 0, .int .i64 0, .int .i64 0, .bool false] 129)) (0, 0) 0 false := heap_alloc_new w _

/-- w' is w, but for block B, and what is new. -/
structure Ext (B : Nat) (w w' : World) : Prop where
  os : w'.os = w.os
  tape : w'.tape = w.tape
  output : w'.output = w.output
  size : w.heap.size ≤ w'.heap.size
  block : ∀ k, k < w.heap.size → k ≠ B → w'.heap[k]? = w.heap[k]?

theorem Ext.below {B C : Nat} {w w' : World} (h : Ext B w w') (hC : C ≤ B) (hs : C ≤ w.heap.size) : Below C w w' :=
  ⟨h.os, h.tape, h.output, h.size, fun k hk => h.block k (by omega) (by omega)⟩

set_option maxRecDepth 100000 in
set_option maxHeartbeats 800000 in
theorem less_any (B : Nat) (a : CL.Smp) (st : Int) (bg : Bool) (s : CL.Smp) (w : World) (hT : TInv B w a st bg) :
    Calls Tryz.prog 66 #[.pointer (some ⟨B, 0, none⟩), .agg #[.int .i64 s.1, .int .i64 s.2]] w fun e w' =>
      e = .returned (.tuple #[.int .i64 (CL.W (CL.W (s.1 - a.1) - st)), .int .i64 (CL.W (s.2 - a.2))]) ∧ Below w.heap.size w w' := by
  obtain ⟨s1, s2⟩ := s
  obtain ⟨a1, a2⟩ := a
  have hb : Below w.heap.size w (w.alloc (boxS s1 s2)) := (Below.refl _ _).alloc (Nat.le_refl _) _
  obtain ⟨c0, c1, c2, c3, _, _, _, _, hlt⟩ := hT.cells
  have c0 := (hb.cell (p := ⟨B, 0, none⟩) hlt).trans c0
  have c1 := (hb.cell (p := ⟨B, 1, none⟩) hlt).trans c1
  have c2 := (hb.cell (p := ⟨B, 2, none⟩) hlt).trans c2
  have d0 : (w.alloc (boxS s1 s2)).cell? ⟨w.heap.size, 0, none⟩ = some (.int .i64 s1) := by simp
  have d1 : (w.alloc (boxS s1 s2)).cell? ⟨w.heap.size, 1, none⟩ = some (.int .i64 s2) := by simp
  have HB := hid hb
  simp only at c0 c1 ⊢
  clear hT hb
  go_enter Tryz.func66, Tryz.ntmps66
  go_wp2
  generalize w.alloc (boxS s1 s2) = w1 at *
  refine wp_region_still_lit (by kernel_rfl) (by kernel_rfl) ?_
  iterate 23 still_step
  refine wpStill_nil ?_
  go_wp2
  go_ret2
  refine ⟨?_, HB.out.drew⟩
  simp only [W_wrap]
  rfl

set_option maxRecDepth 100000 in
set_option maxHeartbeats 800000 in
theorem more_any (B : Nat) (a : CL.Smp) (st : Int) (bg : Bool) (d v : Int) (w : World) (hT : TInv B w a st bg) :
    Calls Tryz.prog 167 #[.pointer (some ⟨B, 0, none⟩), .int .i64 d, .int .i64 v] w fun e w' =>
      e = .returned (.agg #[.int .i64 (CL.W (CL.W (a.1 + st) + d)), .int .i64 (CL.W (a.2 + v))]) ∧ Below w.heap.size w w' := by
  obtain ⟨a1, a2⟩ := a
  have hb : Below w.heap.size w (w.alloc (boxS 0 0)) := (Below.refl _ _).alloc (Nat.le_refl _) _
  obtain ⟨c0, c1, c2, c3, _, _, _, _, hlt⟩ := hT.cells
  have c0 := (hb.cell (p := ⟨B, 0, none⟩) hlt).trans c0
  have c1 := (hb.cell (p := ⟨B, 1, none⟩) hlt).trans c1
  have c2 := (hb.cell (p := ⟨B, 2, none⟩) hlt).trans c2
  have d0 : (w.alloc (boxS 0 0)).cell? ⟨w.heap.size, 0, none⟩ = some (.int .i64 0) := by simp
  have d1 : (w.alloc (boxS 0 0)).cell? ⟨w.heap.size, 1, none⟩ = some (.int .i64 0) := by simp
  have f0 : (w.alloc (boxS 0 0)).frozen? ⟨w.heap.size, 0, none⟩ = false := by simp
  have f1 : (w.alloc (boxS 0 0)).frozen? ⟨w.heap.size, 1, none⟩ = false := by simp
  have HB := hid hb
  have HH := hid (heap_alloc_new w (boxS 0 0))
  simp only at c0 c1 ⊢
  clear hT hb
  go_enter Tryz.func167, Tryz.ntmps167
  go_wp2
  generalize w.alloc (boxS 0 0) = w1 at *
  refine wp_region_still_tail 20 (by kernel_rfl) (by kernel_rfl) ?_
  iterate 20 still_step
  refine wpStill_nil ?_
  go_wp2
  refine bodyPost_ret (results_cell_row (P := Tryz.prog) rfl _ _ w.heap.size 52 _ (0, 0) _ rfl (heap_setCell_same _ _ 1 _ _ _ (heap_setCell_same _ _ 0 _ _ _ HH.out)) Tryz.underlying52 rfl (by kernel_rfl)) rfl ?_
  refine ⟨?_, ((HB.out.setCell (p := ⟨w.heap.size, 0, none⟩) (Nat.le_refl _) _).setCell (p := ⟨w.heap.size, 1, none⟩) (Nat.le_refl _) _).drew⟩
  simp only [W_wrap64]
  rfl

theorem Ext.of_alloc {B : Nat} (w : World) (o : Obj) : Ext B w (w.alloc o) :=
  ⟨rfl, rfl, rfl, by simp, fun k hk _ => Below.heap_alloc w o k hk⟩
theorem Ext.setOwn {B : Nat} {a w : World} (h : Ext B a w) (o : Nat) (u : Value) : Ext B a (w.setCell ⟨B, o, none⟩ u) :=
  ⟨h.os, h.tape, h.output, by simpa using h.size, fun k hk hB => (Below.heap_setCell w ⟨B, o, none⟩ u k hB).trans (h.block k hk hB)⟩
theorem Ext.refl (B : Nat) (w : World) : Ext B w w := ⟨rfl, rfl, rfl, Nat.le_refl _, fun _ _ _ => rfl⟩
theorem Ext.alloc {B : Nat} {a w : World} (h : Ext B a w) (o : Obj) : Ext B a (w.alloc o) :=
  ⟨h.os, h.tape, h.output, by simp; exact Nat.le_succ_of_le h.size, fun k hk hB => (Below.heap_alloc w o k (Nat.lt_of_lt_of_le hk h.size)).trans (h.block k hk hB)⟩
theorem Ext.drew {B : Nat} {a w : World} (h : Ext B a w) : Ext B a w.drew := ⟨h.os, h.tape, h.output, h.size, h.block⟩

set_option maxRecDepth 100000 in
set_option maxHeartbeats 800000 in
theorem pass_any (B : Nat) (a : CL.Smp) (st : Int) (bg : Bool) (s : CL.Smp) (w : World) (hT : TInv B w a st bg) :
    Calls Tryz.prog 67 #[.pointer (some ⟨B, 0, none⟩), .agg #[.int .i64 s.1, .int .i64 s.2]] w fun e w' =>
      e = .returned (.tuple #[]) ∧ TInv B w' s (if bg then CL.W (s.1 - a.1) else st) true ∧ Ext B w w' := by
  obtain ⟨s1, s2⟩ := s
  obtain ⟨a1, a2⟩ := a
  have hb : Below w.heap.size w (w.alloc (boxS s1 s2)) := (Below.refl _ _).alloc (Nat.le_refl _) _
  have hlt := hT.cells.2.2.2.2.2.2.2.2
  have hT1 : TInv B (w.alloc (boxS s1 s2)) (a1, a2) st bg := (hb.block B hlt).trans hT
  obtain ⟨c0, c1, c2, c3, f0, f1, f2, f3, hlt1⟩ := hT1.cells
  have d0 : (w.alloc (boxS s1 s2)).cell? ⟨w.heap.size, 0, none⟩ = some (.int .i64 s1) := by simp
  have d1 : (w.alloc (boxS s1 s2)).cell? ⟨w.heap.size, 1, none⟩ = some (.int .i64 s2) := by simp
  have HE := hid (Ext.of_alloc (B := B) w (boxS s1 s2))
  have HT := hid hT1
  have HT0 := hid hT
  have hne : B ≠ w.heap.size := by omega
  simp only at c0 c1 ⊢
  clear hT hT1
  cases bg
  · rw [if_neg (by simp)]
    have c0 := (hb.cell (p := ⟨B, 0, none⟩) hlt).symm.trans c0
    have c1 := (hb.cell (p := ⟨B, 1, none⟩) hlt).symm.trans c1
    have c2 := (hb.cell (p := ⟨B, 2, none⟩) hlt).symm.trans c2
    have c3 := (hb.cell (p := ⟨B, 3, none⟩) hlt).symm.trans c3
    have f0 := (hb.frozen (p := ⟨B, 0, none⟩) hlt).symm.trans f0
    have f1 := (hb.frozen (p := ⟨B, 1, none⟩) hlt).symm.trans f1
    have f2 := (hb.frozen (p := ⟨B, 2, none⟩) hlt).symm.trans f2
    have f3 := (hb.frozen (p := ⟨B, 3, none⟩) hlt).symm.trans f3
    clear hb
    go_enter Tryz.func67, Tryz.ntmps67
    go_wp2
    go_end0
    refine ⟨rfl, ?_, (((Ext.refl B w).setOwn 0 _).setOwn 1 _ |>.setOwn 3 _).alloc _⟩
    refine (Below.heap_alloc _ _ B (by simpa using hlt)).trans ?_
    exact heap_setCell_same _ _ 3 _ _ _ (heap_setCell_same _ _ 1 _ _ _ (heap_setCell_same _ _ 0 _ _ _ HT0.out))
  · rw [if_pos (by simp)]
    clear hb
    go_enter Tryz.func67, Tryz.ntmps67
    go_wp2
    generalize w.alloc (boxS s1 s2) = w1 at *
    refine wp_region_still_tail 11 (by kernel_rfl) (by kernel_rfl) ?_
    iterate 11 still_step
    refine wpStill_nil ?_
    go_wp2
    go_end0
    refine ⟨rfl, ?_, (((HE.out.setOwn 2 _).setOwn 0 _).setOwn 1 _ |>.setOwn 3 _).drew⟩
    rw [← W_wrap64]
    exact heap_setCell_same _ _ 3 _ _ _ (heap_setCell_same _ _ 1 _ _ _ (heap_setCell_same _ _ 0 _ _ _ (heap_setCell_same _ _ 2 _ _ _ HT.out)))

end Go.Proofs.YtdmnlmohfaafoadGreatDoor
