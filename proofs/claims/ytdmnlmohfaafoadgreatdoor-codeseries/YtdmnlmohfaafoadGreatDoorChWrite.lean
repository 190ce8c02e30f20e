/- What chunk.Write answers. -/
import Derived.Test.YtdmnlmohfaafoadGreatDoorBitPut
import Derived.Test.YtdmnlmohfaafoadGreatDoorChRight
namespace Go.Proofs.YtdmnlmohfaafoadGreatDoor
open Go.RowKit

theorem ownsRow_kept_all' {base : Nat} {e : TypeId} {size : Nat} {v : Value} {n : Nat} {xs : List Value} {w w' : World} (h : w.ownsRow base e size v n xs) (hb : ∀ k, v.ownBlock = some k → w'.heap[k]? = w.heap[k]?) : w'.ownsRow base e size v n xs := by
  obtain ⟨h1, h2⟩ := h
  refine ⟨h1, ?_⟩
  rcases h2 with h2 | ⟨g, cap, cur, rfl, hg, hh, r⟩
  · exact .inl h2
  · refine .inr ⟨g, cap, cur, rfl, hg, ?_, r⟩
    rw [hb g rfl]; exact hh

/-- A Writer stays where its own block and its bytes' stay. -/
theorem WInv.ext {B T : Nat} {w w' : World} {bs : List Bool} (h : WInv B w bs) (hb : Ext T w w') (hT : ∀ c fr, w.heap[T]? ≠ some (.cells c 5 fr)) (hBT : B ≠ T) : WInv B w' bs := by
  obtain ⟨v, h0, f0, h1, f1, ho, hB⟩ := h
  have hbb := hb.block B hB hBT
  refine ⟨v, (World.cell?_of_block (a := ⟨B, 0, none⟩) hbb).trans h0, (World.frozen?_of_block (a := ⟨B, 0, none⟩) hbb).trans f0, (World.cell?_of_block (a := ⟨B, 1, none⟩) hbb).trans h1, (World.frozen?_of_block (a := ⟨B, 1, none⟩) hbb).trans f1, ?_, Nat.lt_of_lt_of_le hB hb.size⟩
  refine ownsRow_kept_all' ho fun k hk => ?_
  obtain ⟨cur, fr, hc⟩ := row_block_any ho k hk
  refine hb.block k (ho.lt k hk).2 (fun e => ?_)
  subst e
  exact hT cur fr hc

theorem Ext.of_below {T : Nat} {w w' : World} (h : Below w.heap.size w w') : Ext T w w' := ⟨h.os, h.tape, h.output, h.size, fun k hk _ => h.block k hk⟩

theorem TInv.not8 {T : Nat} {w : World} {a : CL.Smp} {st : Int} {bg : Bool} (h : TInv T w a st bg) : Not8 w T := by
  intro c fr hc
  rw [h] at hc
  simp at hc

theorem TInv.wfr {T B : Nat} {w w' : World} {a : CL.Smp} {st : Int} {bg : Bool} (h : TInv T w a st bg) (hf : WFr B w w') (hne : T ≠ B) : TInv T w' a st bg :=
  (hf.block T h.cells.2.2.2.2.2.2.2.2 hne h.not8).trans h
theorem TInv.kept {T : Nat} {w w' : World} {a : CL.Smp} {st : Int} {bg : Bool} (h : TInv T w a st bg) (hf : Below w.heap.size w w') : TInv T w' a st bg :=
  (hf.block T h.cells.2.2.2.2.2.2.2.2).trans h

/-- A sample of one's own in block X. -/
def BoxS (X : Nat) (w : World) (s : CL.Smp) : Prop := w.heap[X]? = some (boxS s.1 s.2)
theorem heap_lt {w : World} {k : Nat} {o : Obj} (h : w.heap[k]? = some o) : k < w.heap.size := by
  rcases Nat.lt_or_ge k w.heap.size with h' | h'
  · exact h'
  · rw [Array.getElem?_eq_none h'] at h; cases h
theorem BoxS.new (w : World) (s : CL.Smp) : BoxS w.heap.size (w.alloc (boxS s.1 s.2)) s := heap_alloc_new w _
theorem BoxS.kept {X : Nat} {w w' : World} {s : CL.Smp} (h : BoxS X w s) (hf : Below w.heap.size w w') : BoxS X w' s := (hf.block X (heap_lt h)).trans h
theorem BoxS.wfr {X B : Nat} {w w' : World} {s : CL.Smp} (h : BoxS X w s) (hf : WFr B w w') (hne : X ≠ B) : BoxS X w' s :=
  (hf.block X (heap_lt h) hne (fun c fr hc => by rw [h] at hc; simp at hc)).trans h
theorem BoxS.cells {X : Nat} {w : World} {s : CL.Smp} (h : BoxS X w s) : w.cell? ⟨X, 0, none⟩ = some (.int .i64 s.1) ∧ w.cell? ⟨X, 1, none⟩ = some (.int .i64 s.2) := by
  unfold BoxS at h
  constructor <;> simp only [World.cell?, h] <;> rfl

theorem stp_next (l : List CL.Smp) (k : Nat) : (if decide (0 < k) then CL.W ((CL.at' l k).1 - (CL.ahead l k).1) else CL.stp l k) = CL.stp l (k + 1) := by
  unfold CL.stp CL.ahead
  by_cases h : k = 0
  · subst h; simp
  · have h0 : 0 < k := by omega
    simp only [h0, decide_true, if_true]
    rw [if_neg h, if_neg (by omega), show k + 1 - 1 = k by omega, show k + 1 - 2 = k - 1 by omega]

theorem ahead_next (l : List CL.Smp) (k : Nat) : CL.at' l k = CL.ahead l (k + 1) := by
  unfold CL.ahead
  rw [if_neg (by omega), show k + 1 - 1 = k by omega]

set_option maxRecDepth 100000 in
set_option maxHeartbeats 800000 in
theorem write_bad (ao : Option Addr) (l : List CL.Smp) (cap : Nat) (w : World) (hS : SRow w ao l) (hR : ∀ s ∈ l, CL.Rs s) (hl : l.length ≤ 140737488351232) (hr : CL.right l = false) :
    Calls Tryz.prog 33 #[.slice ao l.length cap] w fun e w' => e = .returned (.tuple #[.string ⟨#[]⟩, .iface 24 (.int .i64 1)]) ∧ Below w.heap.size w w' := by
  have HC := hid (right_any ao l cap w hS hR hl)
  rw [hr] at HC
  clear hS hR hr
  go_enter Tryz.func33, Tryz.ntmps33
  go_wp2_with fail
  refine Calls.mono HC.out ?_
  rintro e w1 ⟨rfl, hb⟩
  go_wp2_with fail
  go_ret2
  exact ⟨rfl, hb⟩

set_option maxRecDepth 100000 in
set_option maxHeartbeats 1600000 in
theorem write_ok (ao : Option Addr) (l : List CL.Smp) (cap : Nat) (w : World) (hS : SRow w ao l) (hR : ∀ s ∈ l, CL.Rs s) (hW : Wids w) (hG : 1 < w.heap.size) (hr : CL.right l = true) :
    Calls Tryz.prog 33 #[.slice ao l.length cap] w fun e w' => e = .returned (.tuple #[.string (strOf (BL.pk (CL.chB l))), .nilIface]) ∧ Below w.heap.size w w' := by
  have hl := ((CL.right_iff l).1 hr).1
  have HC := hid (right_any ao l cap w hS hR (by omega))
  rw [hr] at HC
  have HW := hid hW
  have HS := hid hS
  have HR := hid hR
  clear hS hR hr hW
  go_enter Tryz.func33, Tryz.ntmps33
  go_wp2_with fail
  refine Calls.mono HC.out ?_
  rintro e w1 ⟨rfl, hb⟩
  have hs1 := hb.size
  have HB1 := hid hb
  have HW1 := hid (HW.out.below hb hG)
  clear hb
  go_wp2_with fail
  refine (put_any w1.heap.size (l.length : Int) [] _ (WInv.new w1) (HW1.out.alloc (by omega) _) (by omega) (by simp) (by omega) (by omega)).mono ?_
  rintro e w2 ⟨rfl, hi, hf⟩
  have hs2 : w1.heap.size + 1 ≤ w2.heap.size := by have := hf.below.size; simpa using this
  have HB2 := hid ((HB1.out.alloc hs1 _).trans (hf.below.mono hs1))
  have HW2 := hid ((HW1.out.alloc (by omega) _).below hf.below (by omega))
  have HI2 := hid hi
  clear hi hf
  go_wp2_with fail
  go_loopw [19] (fun ti wr => ∃ k : Nat, k ≤ l.length ∧ ti = .int .i64 k ∧ WInv w1.heap.size wr (BL.putL (BL.zig l.length) ++ CL.seg l 0 k) ∧ TInv w2.heap.size wr (CL.ahead l k) (CL.stp l k) (decide (0 < k)) ∧ Below w.heap.size w wr ∧ Wids wr) (fun ti _ => l.length - (intOf ti).toNat)
  case atStart =>
    refine ⟨0, by omega, rfl, ?_, TInv.new w2, HB2.out.alloc (by omega) _, HW2.out.alloc (by omega) _⟩
    have := HI2.out.ext (T := w2.heap.size) (Ext.of_below ((Below.refl _ w2).alloc (Nat.le_refl _) (.cells #[.int .i64 0, .int .i64 0, .int .i64 0, .bool false] 129))) (fun c fr hc => by rw [Array.getElem?_eq_none (Nat.le_refl _)] at hc; cases hc) (by omega)
    simpa [CL.seg] using this
  case round =>
    obtain ⟨k, hk, rfl, hinv, hti, hbel, hwid⟩ := hrel
    have HV := hid hinv
    have HT := hid hti
    have HB := hid hbel
    have HWr := hid hwid
    have hsz := hbel.size
    have htl := hti.cells.2.2.2.2.2.2.2.2
    have hvl : w1.heap.size < wr.heap.size := by obtain ⟨_, _, _, _, _, _, h⟩ := hinv; exact h
    clear hinv hti hbel hwid
    by_cases hlt : k < l.length
    · obtain ⟨b, off, hao, hc0, hc1, hbs⟩ := HS.out k hlt
      subst hao
      have hcell0 := (HB.out.cell (p := ⟨b, off + k * 2, none⟩) hbs).trans hc0
      have hcell1 := (HB.out.cell (p := ⟨b, off + k * 2 + 1, none⟩) hbs).trans hc1
      clear hc0 hc1
      have hn1 := CL.num_range1 l k
      have hn2 := CL.num_range2 l k
      have HN1 : Hid (CL.W (CL.W ((CL.at' l k).1 - (CL.ahead l k).1) - CL.stp l k) = CL.num1 l k) := rfl
      have HN2 : Hid (CL.W ((CL.at' l k).2 - (CL.ahead l k).2) = CL.num2 l k) := rfl
      have HA := hid (ahead_next l k)
      have HSt := hid (stp_next l k)
      have HSg := hid (CL.seg_succ l k 0)
      have hlen : (BL.putL (BL.zig l.length) ++ CL.seg l 0 k).length ≤ 300000 := by
        have h1 := (BL.putL_bounds (BL.zig l.length)).2.1
        have h2 := CL.seg_len l k 0
        rw [List.length_append]; omega
      have hlen2 : (BL.putL (BL.zig l.length) ++ CL.seg l 0 k ++ BL.putL (BL.zig (CL.num1 l k))).length ≤ 400000 := by
        have h1 := (BL.putL_bounds (BL.zig (CL.num1 l k))).2.1
        rw [List.length_append]; omega
      generalize CL.at' l k = s at *
      generalize hp1 : CL.num1 l k = n1 at *
      generalize hp2 : CL.num2 l k = n2 at *
      have HP1 := hid hp1
      have HP2 := hid hp2
      clear hp1 hp2
      have HX := hid (BoxS.new wr s)
      have hbx : Below wr.heap.size wr (wr.alloc (boxS s.1 s.2)) := (Below.refl _ _).alloc (Nat.le_refl _) _
      have HV1 := hid (HV.out.ext (T := wr.heap.size) (Ext.of_below hbx) (fun c fr hc => by rw [Array.getElem?_eq_none (Nat.le_refl _)] at hc; cases hc) (by omega))
      have HT1 := hid (HT.out.kept hbx)
      have HB1' := hid (HB.out.alloc hsz (boxS s.1 s.2))
      have HW1' := hid (HWr.out.alloc (by omega) (boxS s.1 s.2))
      clear hbx
      go_wp2_with fail
      refine (less_any w2.heap.size _ _ _ s _ HT1.out).mono ?_
      rintro e w3 ⟨rfl, hb3⟩
      rw [HN1.out, HN2.out]
      have hs3 : wr.heap.size + 1 ≤ w3.heap.size := by have := hb3.size; simpa using this
      have HX3 := hid (HX.out.kept hb3)
      have HV3 := hid (HV1.out.ext (T := (wr.alloc (boxS s.1 s.2)).heap.size) (Ext.of_below hb3) (fun c fr hc => by rw [Array.getElem?_eq_none (Nat.le_refl _)] at hc; cases hc) (by go_size))
      have HT3 := hid (HT1.out.kept hb3)
      have HB3 := hid (HB1'.out.trans (hb3.mono (by go_size)))
      have HW3 := hid (HW1'.out.below hb3 (by go_size))
      clear hb3
      go_wp2_with fail
      refine (put_any w1.heap.size n1 _ _ HV3.out HW3.out (by omega) (by omega) hn1.1 hn1.2).mono ?_
      rintro e w4 ⟨rfl, hi4, hf4⟩
      have hs4 := hf4.below.size
      have HX4 := hid (HX3.out.wfr hf4 (by omega))
      have HV4 := hid hi4
      have HT4 := hid (HT3.out.wfr hf4 (by omega))
      have HB4 := hid (HB3.out.trans (hf4.below.mono hs1))
      have HW4 := hid (HW3.out.below hf4.below (by omega))
      clear hi4 hf4
      go_wp2_with fail
      refine (put_any w1.heap.size n2 _ _ HV4.out HW4.out (by omega) (by omega) hn2.1 hn2.2).mono ?_
      rintro e w5 ⟨rfl, hi5, hf5⟩
      have hs5 := hf5.below.size
      have hX5 := HX4.out.wfr hf5 (by omega)
      obtain ⟨x0, x1⟩ := hX5.cells
      have HV5 := hid hi5
      have HT5 := hid (HT4.out.wfr hf5 (by omega))
      have HB5 := hid (HB4.out.trans (hf5.below.mono hs1))
      have HW5 := hid (HW4.out.below hf5.below (by omega))
      clear hi5 hf5 hX5
      go_wp2_with fail
      refine (pass_any w2.heap.size _ _ _ s _ HT5.out).mono ?_
      rintro e w6 ⟨rfl, ht6, he6⟩
      have HV6 := hid (HV5.out.ext he6 HT5.out.not8 (by omega))
      have HT6 := hid ht6
      have HB6 := hid (HB5.out.trans (he6.below (by omega) (by omega)))
      have HW6 := hid (HW5.out.below (he6.below (C := w.heap.size) (by omega) (by omega)) hG)
      clear ht6 he6
      go_wp2_with fail
      go_roundw
      case rel =>
        refine ⟨k + 1, by omega, by go_num, ?_, ?_, HB6.out, HW6.out⟩
        · rw [HSg.out, Nat.zero_add]
          unfold CL.pairB
          rw [HP1.out, HP2.out]
          have := HV6.out
          simpa [List.append_assoc] using this
        · have := HT6.out
          rw [HSt.out] at this
          rw [← HA.out]
          simpa using this
      case measure => simp [intOf]; omega
    · have he : k = l.length := by omega
      subst he
      go_wp2_with fail
      refine (wbytes_any w1.heap.size _ _ HV.out).mono ?_
      rintro e w3 ⟨rfl, rfl⟩
      go_wp2_with fail
      go_ret2
      exact ⟨rfl, HB.out⟩

end Go.Proofs.YtdmnlmohfaafoadGreatDoor
