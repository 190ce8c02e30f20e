/- What Bit, Len, Bytes and Put do to a bits.Writer. -/
import Derived.Test.YtdmnlmohfaafoadGreatDoorBitWr
import Derived.Laws.BytesArg
namespace Go.Proofs.YtdmnlmohfaafoadGreatDoor
open Go.RowKit

theorem bitsOf_one (b : Bool) : BL.bitsOf (b.toNat) 1 = [b] := by cases b <;> rfl

set_option maxHeartbeats 400000 in
theorem wbit_any (B : Nat) (b : Bool) (bs : List Bool) (w : World) (hWI : WInv B w bs) (hb : bs.length ≤ 1000000000) :
    Calls Tryz.prog 102 #[.pointer (some ⟨B, 0, none⟩), .bool b] w fun e w' =>
      e = .returned (.tuple #[]) ∧ WInv B w' (bs ++ [b]) ∧ WFr B w w' := by
  cases b
  · have H : Hid (Calls Tryz.prog 103 #[.pointer (some ⟨B, 0, none⟩), .int .u64 0, .int .i64 1] w fun e w' => e = .returned (.tuple #[]) ∧ WInv B w' (bs ++ [false]) ∧ WFr B w w') :=
      wbits_any B 0 1 bs w hWI (by omega) hb (by omega) (by omega)
    clear hWI
    go_enter Tryz.func102, Tryz.ntmps102
    go_wp2_with (go_at_call 103; refine H.out.mono ?_; rintro e w' ⟨rfl, hi, hl⟩)
    go_end0
    exact ⟨rfl, by assumption, by assumption⟩
  · have H : Hid (Calls Tryz.prog 103 #[.pointer (some ⟨B, 0, none⟩), .int .u64 1, .int .i64 1] w fun e w' => e = .returned (.tuple #[]) ∧ WInv B w' (bs ++ [true]) ∧ WFr B w w') :=
      wbits_any B 1 1 bs w hWI (by omega) hb (by omega) (by omega)
    clear hWI
    go_enter Tryz.func102, Tryz.ntmps102
    go_wp2_with (go_at_call 103; refine H.out.mono ?_; rintro e w' ⟨rfl, hi, hl⟩)
    go_end0
    exact ⟨rfl, by assumption, by assumption⟩

/-- A text of these bytes. -/
def strOf (l : List Nat) : ByteArray := ⟨(l.map UInt8.ofNat).toArray⟩

theorem strOfNums_eq (l : List Nat) : strOfNums (l.map fun n : Nat => (n : Int)) = strOf l := by
  unfold strOfNums strOf
  simp

set_option maxHeartbeats 400000 in
theorem wbytes_any (B : Nat) (bs : List Bool) (w : World) (hWI : WInv B w bs) :
    Calls Tryz.prog 68 #[.pointer (some ⟨B, 0, none⟩)] w fun e w' => e = .returned (.string (strOf (BL.pk bs))) ∧ w' = w := by
  obtain ⟨v, hv0, hf0, hv1, hf1, hown, hB⟩ := hWI
  obtain ⟨hlen, hcase⟩ := hown
  have hown : w.ownsRow (B + 1) 5 1 v (BL.pk bs).length (bv (BL.pk bs)) := ⟨hlen, hcase⟩
  rcases hcase with ⟨rfl, h0⟩ | ⟨g, cap, cur, rfl, hg, hh, hn, hcap, hsz, htake⟩
  · have hcv := run_convert_bytes_nil (P := Tryz.prog) w 47 5 Tryz.underlying47 Tryz.underlying5 0 0 9 Tryz.underlying9
    have e : BL.pk bs = [] := List.eq_nil_of_length_eq_zero h0
    rw [e]
    clear hown h0 hlen e
    go_enter Tryz.func68, Tryz.ntmps68
    go_wp2
    go_ret
    exact ⟨rfl, rfl⟩
  · have hcv := run_convert_bytes_arg (P := Tryz.prog) w 47 5 Tryz.underlying47 Tryz.underlying5 g 0 (BL.pk bs).length cap ((BL.pk bs).map fun n : Nat => (n : Int)) (by simp)
      (fun i hi => by
        rw [Nat.zero_add, hown.cellAt i (by omega)]
        simp [bv, hi]) 9 Tryz.underlying9
    rw [strOfNums_eq] at hcv
    clear hown hlen hh hsz htake
    go_enter Tryz.func68, Tryz.ntmps68
    go_wp2
    go_ret
    exact ⟨rfl, rfl⟩

theorem Wids.below {B : Nat} {w w' : World} (h : Wids w) (hb : Below B w w') (hB : 1 < B) : Wids w' := fun i hi => (hb.cell hB).trans (h i hi)

set_option maxRecDepth 100000 in
set_option maxHeartbeats 800000 in
theorem put_any (B : Nat) (n : Int) (bs : List Bool) (w : World) (hWI : WInv B w bs) (hW : Wids w) (hG : 1 < B) (hb : bs.length ≤ 900000000) (h1 : -9223372036854775808 ≤ n) (h2 : n ≤ 9223372036854775807) :
    Calls Tryz.prog 65 #[.pointer (some ⟨B, 0, none⟩), .int .i64 n] w fun e w' =>
      e = .returned (.tuple #[]) ∧ WInv B w' (bs ++ BL.putL (BL.zig n)) ∧ WFr B w w' := by
  have hz := BL.zig_lt n h1 h2
  generalize hu : BL.zig n = u at *
  have HU : Hid (BL.zig n = u) := hu
  clear hu
  have hnl := BL.nar_le u
  generalize ha : BL.nar u = a at *
  have HA : Hid (BL.nar u = a) := ha
  clear ha
  have HW : Hid (Wids w) := hW
  have HI : Hid (WInv B w bs) := hWI
  clear hW hWI
  go_enter Tryz.func65, Tryz.ntmps65
  go_wp2_with (first | (go_at_call 100; refine (zig_any n _ h1 h2).mono ?_; rintro e w' ⟨rfl, rfl⟩; rw [HU.out]) | (go_at_call 101; refine (nar_any u _ HW.out hz).mono ?_; rintro e w' ⟨rfl, rfl⟩; rw [HA.out]))
  go_loopw [11] (fun t wr => ∃ j : Nat, j ≤ a ∧ t = .int .i64 j ∧ WInv B wr (bs ++ List.replicate j true) ∧ WFr B w' wr) (fun t _ => a - (intOf t).toNat)
  case atStart => exact ⟨0, Nat.zero_le _, rfl, by simpa using HI.out, WFr.refl _ _⟩
  case round =>
    obtain ⟨j, hj, rfl, hinv, hbel⟩ := hrel
    by_cases hlt : j < a
    · have HI1 := hid hinv
      have hbl : (bs ++ List.replicate j true).length ≤ 1000000000 := by simp; omega
      have HB := hid hbel
      clear hinv hbel
      go_wp2_with (go_at_call 102; refine (wbit_any B true _ _ HI1.out hbl).mono ?_; rintro e w2 ⟨rfl, hi, hl⟩; have HI2 := hid hi; have HL2 := hid hl; clear hi hl)
      go_roundw
      case rel =>
        refine ⟨j + 1, by omega, by go_num, ?_, HB.out.trans HL2.out⟩
        have := HI2.out
        rw [List.append_assoc] at this
        rw [List.replicate_succ']
        exact this
      case measure => simp [intOf]; omega
    · have he : j = a := by omega
      subst he
      have HB := hid hbel
      have HWr : Hid (Wids wr) := Wids.below HW.out hbel.below hG
      by_cases h6 : j < 6
      · have HI1 := hid hinv
        have hbl0 : (bs ++ List.replicate j true).length ≤ 1000000000 := by simp; omega
        clear hinv hbel
        have hbl : (bs ++ List.replicate j true ++ [false]).length ≤ 1000000000 := by simp; omega
        go_wp2_with (first | (go_at_call 102; refine (wbit_any B false _ _ HI1.out hbl0).mono ?_; rintro e w2 ⟨rfl, hi, hl⟩; have hc := Wids.below HWr.out hl.below hG j (by omega); have HI2 := hid hi; have HL2 := hid hl; clear hi hl) | (go_at_call 103; refine (wbits_any B u _ _ _ HI2.out hz hbl ?_ ?_).mono ?_; (have := BL.wid_le j; omega); (have := BL.wid_le j; omega); rintro e w3 ⟨rfl, hi, hl⟩))
        go_end0
        refine ⟨rfl, ?_, HB.out.trans (HL2.out.trans hl)⟩
        unfold BL.putL BL.headL
        rw [HA.out, if_pos h6]
        have e1 : (min ((BL.wid j : Nat) : Int) 64).toNat = BL.wid j := by have := BL.wid_le j; omega
        rw [e1] at hi
        simpa using hi
      · have h6' : j = 6 := by omega
        subst h6'
        have hc : wr.cell? ⟨1, 6, none⟩ = some (.int .i64 64) := HWr.out 6 (by omega)
        have HI2 := hid hinv
        have hbl : (bs ++ List.replicate 6 true).length ≤ 1000000000 := by simp; omega
        clear hinv hbel
        go_wp2_with (go_at_call 103; refine (wbits_any B u _ _ _ HI2.out hz hbl (by omega) (by omega)).mono ?_; rintro e w3 ⟨rfl, hi, hl⟩)
        go_end0
        refine ⟨rfl, ?_, HB.out.trans hl⟩
        unfold BL.putL BL.headL
        rw [HA.out, if_neg (by omega), show BL.wid 6 = 64 from rfl]
        simpa using hi

theorem WInv.new (w : World) : WInv w.heap.size (w.alloc (.cells #[.slice none 0 0, .int .i64 0] 125)) [] := by
  refine ⟨.slice none 0 0, by simp, by simp, by simp, by simp, ?_, by simp⟩
  exact World.ownsRow_nil _ _ _ _

theorem Wids.alloc {w : World} (h : Wids w) (hG : 1 < w.heap.size) (o : Obj) : Wids (w.alloc o) := fun i hi => by
  rw [World.cell?_alloc_past _ _ _ hG]; exact h i hi

end Go.Proofs.YtdmnlmohfaafoadGreatDoor
