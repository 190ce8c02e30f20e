/- What index.New answers. -/
import Derived.Test.YtdmnlmohfaafoacGreatDoorIxNote
import Derived.Test.YtdmnlmohfaafoacGreatDoorLbRight
namespace Go.Proofs.YtdmnlmohfaafoacGreatDoor
open Go.RowKit Go.Maps

abbrev IxR (w : World) (bx N cnt : Nat) (Sd : ByteArray → ByteArray → List Int) (bo : Nat) (fo : ByteArray → Option Nat) (fi : ByteArray → ByteArray → Option Value) : Prop := IdxR Tryz.prog 9 w bx N cnt Sd bo fo fi

/-- What New leaves: an index, or an error at the first labels that may not be. -/
def NewEnd (L : List (List LB.Lab)) (w : World) (e : Ending) (w' : World) : Prop :=
  Below w.heap.size w w' ∧
  (((∀ l ∈ L, LB.right l = true) ∧ ∃ bx bo cnt fo fi, cnt ≤ 100000 ∧ e = .returned (.tuple #[.pointer (some ⟨bx, 0, none⟩), .nilIface]) ∧ IxR w' bx L.length cnt (IX.nums L L.length) bo fo fi) ∨
   ∃ i ba, i < L.length ∧ (∀ j, j < i → LB.right (IX.atS L j) = true) ∧ LB.right (IX.atS L i) = false ∧ e = .returned (.tuple #[.pointer none, .iface 60 (.pointer (some ⟨ba, 0, none⟩))]) ∧
     w'.cell? ⟨ba, 0, none⟩ = some (.int .i64 1) ∧ w'.cell? ⟨ba, 1, none⟩ = some (.int .i64 i) ∧ ba < w'.heap.size)

theorem sd_step (L : List (List LB.Lab)) (k j : Nat) (hr : LB.right (IX.atS L k) = true) (hj : j < (IX.atS L k).length) : updS (IX.sd L k j) (LB.at' (IX.atS L k) j).1 (LB.at' (IX.atS L k) j).2 k = IX.sd L k (j + 1) := by
  funext n v
  by_cases e : n = (LB.at' (IX.atS L k) j).1 ∧ v = (LB.at' (IX.atS L k) j).2
  · obtain ⟨rfl, rfl⟩ := e
    rw [updS_same, IX.sd_same L k j hr hj]
  · rw [updS_other _ _ _ _ _ _ e, IX.sd_other L k j hj n v e]

theorem right_size (l : List LB.Lab) (h : LB.right l = true) (j : Nat) (hj : j < l.length) : (LB.at' l j).1.size ≤ maxLen ∧ (LB.at' l j).2.size ≤ maxLen := by
  have := (of_decide_eq_true h).2.2 j hj
  have h1 := (of_decide_eq_true this.1).2.1
  have h2 := (of_decide_eq_true this.2.1).1
  unfold maxLen
  omega

theorem right_len (l : List LB.Lab) (h : LB.right l = true) : l.length ≤ 8 := (of_decide_eq_true h).2.1

set_option maxRecDepth 100000 in
set_option maxHeartbeats 1600000 in
theorem new_any (ao : Option Addr) (L : List (List LB.Lab)) (cap : Nat) (w : World) (hL : LLRow w ao L) (hl : L.length ≤ 1000) :
    Calls Tryz.prog 7 #[.slice ao L.length cap] w fun e w' => NewEnd L w e w' := by
  have HL := hid hL
  clear hL
  have hmm := @run_makeMap Tryz.prog
  go_enter Tryz.func7, Tryz.ntmps7
  have HI0 : Hid (IxW ((w.alloc (.map #[] 0)).alloc (.cells #[.int .i64 L.length, .map (some w.heap.size)] 59)) w.heap.size (w.heap.size + 2) 0 (IX.sd L 0 0) (fun _ => none) fun _ _ => none) := by
    show IxW _ _ _ _ _ _ _
    rw [IX.sd_start]
    exact IdxW.start _ ((MapF.made w Tryz.prog 9).alloc _) (by omega) (by simp)
  have HB0 := hid (((Below.refl w.heap.size w).alloc (Nat.le_refl _) (.map #[] 0)).alloc (by simp) (.cells #[.int .i64 L.length, .map (some w.heap.size)] 59))
  have HX0 : Hid (((w.alloc (.map #[] 0)).alloc (.cells #[.int .i64 L.length, .map (some w.heap.size)] 59)).heap[w.heap.size + 1]? = some (.cells #[.int .i64 L.length, .map (some w.heap.size)] 59)) := by
    show _ = _
    have h := heap_alloc_new (w.alloc (.map #[] 0)) (.cells #[.int .i64 L.length, .map (some w.heap.size)] 59)
    simpa using h
  go_wp2_with fail
  go_loopw [16] (fun ti wr => ∃ (k cnt : Nat) (fo : ByteArray → Option Nat) (fi : ByteArray → ByteArray → Option Value), k ≤ L.length ∧ ti = .int .i64 k ∧ IxW wr w.heap.size (w.heap.size + 2) cnt (IX.sd L k 0) fo fi ∧ Full fo fi ∧ cnt ≤ 16 * k ∧ Below w.heap.size w wr ∧ wr.heap[w.heap.size + 1]? = some (.cells #[.int .i64 L.length, .map (some w.heap.size)] 59) ∧ ∀ j, j < k → LB.right (IX.atS L j) = true) (fun ti _ => L.length - (intOf ti).toNat)
  case atStart => exact ⟨0, 0, _, _, Nat.zero_le _, rfl, HI0.out, fun m hm => absurd rfl hm, by omega, HB0.out, HX0.out, by omega⟩
  case round =>
    obtain ⟨k, cnt, fo, fi, hk, rfl, hI, hF, hcnt, hbel, hX, hR⟩ := hrel
    have HI := hid hI
    have HF := hid hF
    have HBl := hid hbel
    have HX := hid hX
    have HR := hid hR
    have hsz := hbel.size
    clear hI hF hbel hX hR HI0 HB0 HX0
    by_cases hlt : k < L.length
    · obtain ⟨b, off, ai, ci, hao, hc, hrow, hbs⟩ := HL.out k hlt
      subst hao
      have hcell := (HBl.out.cell (p := ⟨b, off + k, none⟩) hbs).trans hc
      have HLr := hid hrow
      clear hc hrow
      have HRt := hid (right_any ai (IX.atS L k) ci wr (HLr.out.below HBl.out))
      generalize hl0 : IX.atS L k = l0 at *
      have HL0 := hid hl0
      clear hl0
      go_wp2_with fail
      refine HRt.out.mono ?_
      rintro e w1 ⟨rfl, hb1⟩
      have HB1 := hid (HBl.out.trans (hb1.mono hsz))
      have hs1 := Nat.le_trans hsz hb1.size
      have hws1 : wr.heap.size ≤ w1.heap.size := hb1.size
      have HI1 : Hid (IxW w1 w.heap.size (w.heap.size + 2) cnt (IX.sd L k 0) fo fi) := HI.out.kept hb1.size (fun j hj _ => hb1.block j hj)
      have HX1 : Hid (w1.heap[w.heap.size + 1]? = some (.cells #[.int .i64 L.length, .map (some w.heap.size)] 59)) := (hb1.block _ (heap_lt HX.out)).trans HX.out
      have HLr1 := hid (HLr.out.below HBl.out |>.below hb1)
      clear hb1 HRt HI HX HBl
      cases hr : LB.right l0 with
      | false =>
        have HRf := hid hr
        clear hr
        go_wp2_with fail
        go_ret2
        refine ⟨HB1.out.alloc hs1 _, .inr ⟨k, w1.heap.size, hlt, HR.out, by rw [HL0.out]; exact HRf.out, rfl, by simp, by simp, by simp⟩⟩
      | true =>
        have HRl := hid (right_len l0 hr)
        have HRs := hid (right_size l0 hr)
        have HRt := hid hr
        clear hr
        go_wp2_with fail
        go_loopw [30] (fun ti wq => ∃ (j cnt : Nat) (fo : ByteArray → Option Nat) (fi : ByteArray → ByteArray → Option Value), j ≤ l0.length ∧ ti = .int .i64 j ∧ IxW wq w.heap.size (w.heap.size + 2) cnt (IX.sd L k j) fo fi ∧ Full fo fi ∧ cnt ≤ 16 * k + 2 * j ∧ Below w.heap.size w wq ∧ wq.heap[w.heap.size + 1]? = some (.cells #[.int .i64 L.length, .map (some w.heap.size)] 59)) (fun ti _ => l0.length - (intOf ti).toNat)
        case atStart => exact ⟨0, cnt, fo, fi, Nat.zero_le _, rfl, HI1.out, HF.out, by omega, HB1.out, HX1.out⟩
        case round =>
          obtain ⟨j, cnt, fo, fi, hj, rfl, hI, hF, hcnt, hbel, hX⟩ := hrel
          have HI := hid hI
          have HF := hid hF
          have HBl := hid hbel
          have HX := hid hX
          have hsz := hbel.size
          have hl8 := HRl.out
          clear hI hF hbel hX HI1 HB1 HX1 hs1
          by_cases hlj : j < l0.length
          · obtain ⟨b1, off1, hai, hc0, hc1, hbs1⟩ := HLr.out j hlj
            subst hai
            have hcell0 := (HBl.out.cell (p := ⟨b1, off1 + j * 2, none⟩) hbs1).trans hc0
            have hcell1 := (HBl.out.cell (p := ⟨b1, off1 + j * 2 + 1, none⟩) hbs1).trans hc1
            have HSt := hid (sd_step L k j (by rw [HL0.out]; exact HRt.out) (by rw [HL0.out]; exact hlj))
            rw [HL0.out] at HSt
            have HZ := hid (HRs.out j hlj)
            clear hc0 hc1
            generalize LB.at' l0 j = one at *
            obtain ⟨nm, vl⟩ := one
            simp only at hcell0 hcell1
            have HX2 : Hid ((wr.alloc (.cells #[.string nm, .string vl] 54)).heap[w.heap.size + 1]? = some (.cells #[.int .i64 L.length, .map (some w.heap.size)] 59)) := (Below.heap_alloc wr _ _ (heap_lt HX.out)).trans HX.out
            have hx1 : (wr.alloc (.cells #[.string nm, .string vl] 54)).cell? ⟨w.heap.size + 1, 1, none⟩ = some (.map (some w.heap.size)) := by
              simp only [World.cell?, HX2.out]; rfl
            have HC := hid (note_any (w.heap.size + 1) w.heap.size (w.heap.size + 2) cnt (IX.sd L k j) fo fi nm vl k (wr.alloc (.cells #[.string nm, .string vl] 54)) (HI.out.alloc _) HF.out hx1 HZ.out.1 HZ.out.2 (by omega))
            clear hx1
            go_wp2_with fail
            refine HC.out.mono ?_
            rintro e w5 ⟨rfl, ⟨fo5, fi5, hI5, hF5⟩, hN5⟩
            have HI5 := hid hI5
            have HF5 := hid hF5
            have HN5 := hid hN5
            clear hI5 hF5 hN5 HC
            go_wp2_with fail
            go_roundw
            case rel =>
              refine ⟨j + 1, cnt + 2, fo5, fi5, by omega, by go_num, by rw [← HSt.out]; exact HI5.out, HF5.out, by omega, NFr.below (HBl.out.alloc hsz _) HN5.out (Nat.le_refl _) (by omega), (HN5.out.block _ (by omega) (by omega)).trans HX2.out⟩
            case measure => simp [intOf]; omega
          · have HI2 : Hid (IxW wr w.heap.size (w.heap.size + 2) cnt (IX.sd L (k + 1) 0) fo fi) := by
              show IxW _ _ _ _ _ _ _
              rw [← IX.sd_next L k j (by rw [HL0.out]; omega)]
              exact HI.out
            have HR2 : Hid (∀ j, j < k + 1 → LB.right (IX.atS L j) = true) := fun i hi => by
              by_cases e : i = k
              · rw [e, HL0.out]; exact HRt.out
              · exact HR.out i (by omega)
            go_wp2_with fail
            go_roundw
            case rel => exact ⟨k + 1, cnt, fo, fi, by omega, by go_num, HI2.out, HF.out, by omega, HBl.out, HX.out, HR2.out⟩
            case measure => simp [intOf]; omega
    · have he : k = L.length := by omega
      subst he
      go_wp2_with fail
      go_ret2
      refine ⟨HBl.out, .inl ⟨fun l hl => ?_, w.heap.size + 1, w.heap.size, cnt, fo, fi, by omega, rfl, ?_⟩⟩
      · obtain ⟨i, hi, rfl⟩ := List.mem_iff_getElem.1 hl
        rw [← IX.atS_eq L i hi]; exact HR.out i hi
      · rw [← IX.sd_zero]
        refine IdxW.read HI.out HF.out (heap_lt HX.out) ?_ ?_
        · simp only [World.cell?, HX.out]; rfl
        · simp only [World.cell?, HX.out]; rfl

end Go.Proofs.YtdmnlmohfaafoacGreatDoor
