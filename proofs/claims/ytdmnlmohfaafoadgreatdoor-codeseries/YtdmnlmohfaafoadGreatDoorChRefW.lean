/- What the document's Samples and WriteChunk answer. -/
import Derived.Test.YtdmnlmohfaafoadGreatDoorBitRefB
import Derived.Test.YtdmnlmohfaafoadGreatDoorBitRefP
import Derived.Test.YtdmnlmohfaafoadGreatDoorChWrite
namespace Go.Proofs.YtdmnlmohfaafoadGreatDoor
open Go.RowKit

theorem below_drewN {B : Nat} {a w : World} (h : Below B a w) (n : Nat) : Below B a (w.drewN n) := ⟨h.os, h.tape, h.output, h.size, h.block⟩

set_option maxHeartbeats 400000 in
theorem rin_any (n a b : Int) (w : World) :
    Calls Tryz.prog 54 #[.int .i64 n, .int .i64 a, .int .i64 b] w fun e w' => e = .returned (.bool (decide (a ≤ n ∧ n ≤ b))) ∧ w' = w := by
  by_cases h1 : a ≤ n
  · by_cases h2 : n ≤ b
    · rw [decide_eq_true ⟨h1, h2⟩]
      go_enter Tryz.func54, Tryz.ntmps54
      go_wp2
      go_ret
      exact ⟨rfl, rfl⟩
    · rw [decide_eq_false (fun h => h2 h.2)]
      go_enter Tryz.func54, Tryz.ntmps54
      go_wp2
      go_ret
      exact ⟨rfl, rfl⟩
  · rw [decide_eq_false (fun h => h1 h.1)]
    go_enter Tryz.func54, Tryz.ntmps54
    go_wp2
    go_ret
    exact ⟨rfl, rfl⟩

set_option maxRecDepth 100000 in
set_option maxHeartbeats 1600000 in
theorem rsamples_any (ao : Option Addr) (l : List CL.Smp) (cap : Nat) (w : World) (hS : SRow w ao l) (hl : l.length ≤ 140737488351232) :
    Calls Tryz.prog 50 #[.slice ao l.length cap] w fun e w' => e = .returned (.bool (CL.right l)) ∧ Below w.heap.size w w' := by
  have HS := hid hS
  clear hS
  generalize hB : CL.right l = B
  have HB := hid hB
  clear hB
  go_enter Tryz.func50, Tryz.ntmps50
  go_wp2
  go_loopw [7] (fun ti wr => ∃ i : Nat, i ≤ l.length ∧ ti = .int .i64 i ∧ (∀ j, j < i → CL.okAt l j = true) ∧ Below w.heap.size w wr) (fun ti _ => l.length - (intOf ti).toNat)
  case atStart => exact ⟨0, by omega, rfl, by omega, Below.refl _ _⟩
  case round =>
    obtain ⟨i, hi, rfl, hok, hbel⟩ := hrel
    have HO := hid hok
    have HBl := hid hbel
    have hsz := hbel.size
    clear hok hbel
    by_cases hlt : i < l.length
    · obtain ⟨b, off, hao, hc0, hc1, hbs⟩ := HS.out i hlt
      have hbx : Below wr.heap.size wr (wr.alloc (boxS (CL.at' l i).1 (CL.at' l i).2)) := (Below.refl _ _).alloc (Nat.le_refl _) _
      have d0 : (wr.alloc (boxS (CL.at' l i).1 (CL.at' l i).2)).cell? ⟨wr.heap.size, 0, none⟩ = some (.int .i64 (CL.at' l i).1) := by simp
      have HB1 := hid (HBl.out.alloc hsz (boxS (CL.at' l i).1 (CL.at' l i).2))
      have hp0 : i ≠ 0 → (wr.alloc (boxS (CL.at' l i).1 (CL.at' l i).2)).cell? ⟨b, off + (i - 1) * 2, none⟩ = some (.int .i64 (CL.at' l (i - 1)).1) := fun h0 => by
        obtain ⟨b', off', hao', hc0', hc1', hbs'⟩ := HS.out (i - 1) (by omega)
        rw [hao] at hao'
        simp only [Option.some.injEq, Addr.mk.injEq, and_true] at hao'
        obtain ⟨rfl, rfl⟩ := hao'
        exact (HB1.out.cell (p := ⟨b, _, none⟩) hbs').trans hc0'
      subst hao
      have hcell0 := (HBl.out.cell (p := ⟨b, off + i * 2, none⟩) hbs).trans hc0
      have hcell1 := (HBl.out.cell (p := ⟨b, off + i * 2 + 1, none⟩) hbs).trans hc1
      clear hc0 hc1 hbx
      have HOK := hid (CL.okAt_iff l i)
      generalize (CL.at' l i).1 = T at *
      generalize (CL.at' l i).2 = V at *
      have HN : CL.okAt l i = false → Hid (B = false) := fun h => by
        show _ = _
        rw [← HB.out]; exact CL.not_right l i hlt h
      by_cases hin : -1099511627776 ≤ T ∧ T ≤ 1099511627776
      · by_cases h0 : i = 0
        · have HT : Hid (CL.okAt l i = true) := by
            show _ = _
            rw [HOK.out]; exact ⟨hin, .inl h0⟩
          have hdin : decide (-1099511627776 ≤ T ∧ T ≤ 1099511627776) = true := decide_eq_true hin
          have hgt : decide (0 < i) = false := decide_eq_false (by omega)
          clear hp0 HN h0
          go_wp2_with fail
          generalize wr.alloc (.cells #[.int .i64 T, .int .i64 V] 52) = w1 at *
          go_quiet ((go_at_call 54; exact Calls.quiet_of_same (rin_any _ _ _ _)))
          go_wp2_with fail
          go_roundw
          case rel =>
            refine ⟨i + 1, by omega, by go_num, ?_, below_drewN HB1.out _⟩
            intro j hj
            by_cases he : j = i
            · subst he; exact HT.out
            · exact HO.out j (by omega)
          case measure => simp [intOf]; omega
        · have hp1 := hp0 h0
          have hgt : decide (0 < i) = true := decide_eq_true (by omega)
          have hix : ((i : Int) - 1).toNat = i - 1 := by omega
          have hi1 : 0 ≤ (i : Int) - 1 ∧ (i : Int) - 1 < (l.length : Int) := by omega
          have hdin : decide (-1099511627776 ≤ T ∧ T ≤ 1099511627776) = true := decide_eq_true hin
          generalize (CL.at' l (i - 1)).1 = Tp at *
          by_cases hle : T ≤ Tp
          · have HF := HN (by
              rw [← Bool.not_eq_true, HOK.out]
              rintro ⟨_, h | h⟩ <;> omega)
            clear hp0 HN
            go_wp2_with fail
            generalize wr.alloc (.cells #[.int .i64 T, .int .i64 V] 52) = w1 at *
            go_quiet ((go_at_call 54; exact Calls.quiet_of_same (rin_any _ _ _ _)))
            go_wp2_with fail
            go_ret
            exact ⟨ret_bool HF.out.symm, below_drewN HB1.out _⟩
          · have HT : Hid (CL.okAt l i = true) := by
              show _ = _
              rw [HOK.out]; exact ⟨hin, .inr (by omega)⟩
            clear hp0 HN
            go_wp2_with fail
            generalize wr.alloc (.cells #[.int .i64 T, .int .i64 V] 52) = w1 at *
            go_quiet ((go_at_call 54; exact Calls.quiet_of_same (rin_any _ _ _ _)))
            go_wp2_with fail
            go_roundw
            case rel =>
              refine ⟨i + 1, by omega, by go_num, ?_, below_drewN HB1.out _⟩
              intro j hj
              by_cases he : j = i
              · subst he; exact HT.out
              · exact HO.out j (by omega)
            case measure => simp [intOf]; omega
      · have HF := HN (by
          rw [← Bool.not_eq_true, HOK.out]
          rintro ⟨h, _⟩; exact hin h)
        have hdin : decide (-1099511627776 ≤ T ∧ T ≤ 1099511627776) = false := decide_eq_false hin
        clear hp0 HN
        go_wp2_with fail
        generalize wr.alloc (.cells #[.int .i64 T, .int .i64 V] 52) = w1 at *
        go_quiet ((go_at_call 54; exact Calls.quiet_of_same (rin_any _ _ _ _)))
        go_wp2_with fail
        go_ret
        exact ⟨ret_bool HF.out.symm, below_drewN HB1.out _⟩
    · have he : i = l.length := by omega
      have HF : Hid (decide (l.length ≤ 2000) = B) := by
        show _ = _
        rw [← HB.out]
        by_cases h : l.length ≤ 2000
        · rw [decide_eq_true h, CL.right_of l h (fun j hj => HO.out j (by omega))]
        · rw [decide_eq_false h, CL.not_right_len l (by omega)]
      by_cases h : (l.length : Int) ≤ 2000
      · go_wp2_with fail
        go_ret
        refine ⟨ret_bool ?_, HBl.out⟩
        rw [← HF.out]; simp; omega
      · go_wp2_with fail
        go_ret
        refine ⟨ret_bool ?_, HBl.out⟩
        rw [← HF.out]; simp; omega

set_option maxRecDepth 100000 in
set_option maxHeartbeats 800000 in
theorem rwrite_bad (ao : Option Addr) (l : List CL.Smp) (cap : Nat) (w : World) (hS : SRow w ao l) (hl : l.length ≤ 140737488351232) (hr : CL.right l = false) :
    Calls Tryz.prog 28 #[.slice ao l.length cap] w fun e w' => e = .returned (.tuple #[.string ⟨#[]⟩, .int .i64 1]) ∧ Below w.heap.size w w' := by
  have HC := hid (rsamples_any ao l cap w hS hl)
  rw [hr] at HC
  clear hS hr
  go_enter Tryz.func28, Tryz.ntmps28
  go_wp2_with fail
  refine Calls.mono HC.out ?_
  rintro e w1 ⟨rfl, hb⟩
  go_wp2_with fail
  go_ret2
  exact ⟨rfl, hb⟩

theorem ltS_nil : ltS [] = ⟨#[]⟩ := rfl

/-- The sample i of a row that stands still. -/
theorem SRow.at {w wr : World} {b off : Nat} {l : List CL.Smp} (h : SRow w (some ⟨b, off, none⟩) l) (hb : Below w.heap.size w wr) (i : Nat) (hi : i < l.length) :
    wr.cell? ⟨b, off + i * 2, none⟩ = some (.int .i64 (CL.at' l i).1) ∧ wr.cell? ⟨b, off + i * 2 + 1, none⟩ = some (.int .i64 (CL.at' l i).2) := by
  obtain ⟨b', off', hao, hc0, hc1, hbs⟩ := h i hi
  simp only [Option.some.injEq, Addr.mk.injEq, and_true] at hao
  obtain ⟨rfl, rfl⟩ := hao
  exact ⟨(hb.cell (p := ⟨b, _, none⟩) hbs).trans hc0, (hb.cell (p := ⟨b, _, none⟩) hbs).trans hc1⟩

set_option maxRecDepth 100000 in
set_option maxHeartbeats 1600000 in
theorem rwrite_ok (ao : Option Addr) (l : List CL.Smp) (cap : Nat) (w : World) (hS : SRow w ao l) (hR : ∀ s ∈ l, CL.Rs s) (hr : CL.right l = true) :
    Calls Tryz.prog 28 #[.slice ao l.length cap] w fun e w' => e = .returned (.tuple #[.string (strOf (BL.pk (CL.chB l))), .int .i64 0]) ∧ Below w.heap.size w w' := by
  have hl := ((CL.right_iff l).1 hr).1
  have HC := hid (rsamples_any ao l cap w hS (by omega))
  rw [hr] at HC
  have HS := hid hS
  have HR := hid hR
  clear hS hR hr
  go_enter Tryz.func28, Tryz.ntmps28
  go_wp2_with fail
  refine Calls.mono HC.out ?_
  rintro e w1 ⟨rfl, hb⟩
  have hs1 := hb.size
  have HB1 := hid hb
  clear hb
  go_wp2_with fail
  rw [← ltS_nil]
  refine (rput_any [] (l.length : Int) _ (by simp) (by omega) (by omega)).mono ?_
  rintro e w2 ⟨rfl, hb2⟩
  have HB2 := hid (HB1.out.trans (hb2.mono hs1))
  have hs2 := HB2.out.size
  clear hb2
  go_wp2_with fail
  go_loopw [4, 18] (fun tb ti wr => ∃ k : Nat, k ≤ l.length ∧ ti = .int .i64 k ∧ tb = .string (ltS (BL.putL (BL.zig l.length) ++ CL.seg l 0 k)) ∧ Below w.heap.size w wr) (fun _ ti _ => l.length - (intOf ti).toNat)
  case atStart => exact ⟨0, by omega, rfl, by simp [CL.seg], HB2.out⟩
  case round =>
    obtain ⟨k, hk, rfl, rfl, hbel⟩ := hrel
    have HB := hid hbel
    have hsz := hbel.size
    clear hbel
    by_cases hlt : k < l.length
    · obtain ⟨b, off, hao, _, _, _⟩ := HS.out k hlt
      subst hao
      have hbx : Below w.heap.size w (wr.alloc (boxS (CL.at' l k).1 (CL.at' l k).2)) := HB.out.alloc hsz _
      have HBX := hid hbx
      have d0 : (wr.alloc (boxS (CL.at' l k).1 (CL.at' l k).2)).cell? ⟨wr.heap.size, 0, none⟩ = some (.int .i64 (CL.at' l k).1) := by simp
      have d1 : (wr.alloc (boxS (CL.at' l k).1 (CL.at' l k).2)).cell? ⟨wr.heap.size, 1, none⟩ = some (.int .i64 (CL.at' l k).2) := by simp
      obtain ⟨hcell0, hcell1⟩ := HS.out.at HB.out k hlt
      have hrs := HR.out _ (CL.at_mem l k hlt)
      have hn1 := CL.num_range1 l k
      have hn2 := CL.num_range2 l k
      have HSg := hid (CL.seg_succ l k 0)
      have hlen : (BL.putL (BL.zig l.length) ++ CL.seg l 0 k).length ≤ 300000 := by
        have h1 := (BL.putL_bounds (BL.zig l.length)).2.1
        have h2 := CL.seg_len l k 0
        rw [List.length_append]; omega
      have hlen2 : (BL.putL (BL.zig l.length) ++ CL.seg l 0 k ++ BL.putL (BL.zig (CL.num1 l k))).length ≤ 400000 := by
        have h1 := (BL.putL_bounds (BL.zig (CL.num1 l k))).2.1
        rw [List.length_append]; omega
      generalize hbs : BL.putL (BL.zig l.length) ++ CL.seg l 0 k = bs at *
      have HBS := hid hbs
      clear hbs
      by_cases h0 : k = 0
      · have hgt : ¬ (0 : Int) < (k : Int) := by omega
        have hgt1 : ¬ (1 : Int) < (k : Int) := by omega
        have HN1 : Hid ((CL.at' l k).1 = CL.num1 l k) := by
          show _ = _
          unfold CL.num1 CL.ahead CL.stp
          rw [if_pos h0, if_pos (by omega)]
          obtain ⟨⟨h1, h2⟩, _⟩ := hrs
          unfold CL.W; simp only []; omega
        have HN2 : Hid ((CL.at' l k).2 = CL.num2 l k) := by
          show _ = _
          unfold CL.num2 CL.ahead
          rw [if_pos h0]
          obtain ⟨_, h1, h2⟩ := hrs
          unfold CL.W; simp only []; omega
        generalize hp1 : CL.num1 l k = n1 at *
        generalize hp2 : CL.num2 l k = n2 at *
        have HP1 := hid hp1
        have HP2 := hid hp2
        clear hp1 hp2
        obtain ⟨⟨hr1, hr2⟩, hr3, hr4⟩ := hrs
        generalize (CL.at' l k).1 = T at *
        generalize (CL.at' l k).2 = V at *
        clear h0
        go_wp2_with fail
        generalize wr.alloc (.cells #[.int .i64 T, .int .i64 V] 52) = w3 at *
        go_quiet (fail)
        go_wp2_with fail
        rw [HN1.out]
        refine (rput_any bs n1 _ (by omega) hn1.1 hn1.2).mono ?_
        rintro e w4 ⟨rfl, hb4⟩
        have HB4 := hid ((below_drewN HBX.out _).trans (hb4.mono HBX.out.size))
        clear hb4
        have HB4s := HB4.out.size
        go_wp2_with fail
        rw [HN2.out]
        refine (rput_any _ n2 _ (by omega) hn2.1 hn2.2).mono ?_
        rintro e w5 ⟨rfl, hb5⟩
        have HB5 := hid (HB4.out.trans (hb5.mono HB4s))
        clear hb5
        go_wp2_with fail
        go_roundw
        case rel =>
          refine ⟨k + 1, by omega, by go_num, ?_, HB5.out⟩
          rw [HSg.out, Nat.zero_add, ← HBS.out]
          unfold CL.pairB
          rw [HP1.out, HP2.out]
          simp only [List.append_assoc]
        case measure => simp [intOf]; omega
      · have hgt : (0 : Int) < (k : Int) := by omega
        have hix : ((k : Int) - 1).toNat = k - 1 := by omega
        have hi1 : 0 ≤ (k : Int) - 1 ∧ (k : Int) - 1 < (l.length : Int) := by omega
        obtain ⟨p0, p1⟩ := HS.out.at hbx (k - 1) (by omega)
        by_cases h1 : k = 1
        · have hgt1 : ¬ (1 : Int) < (k : Int) := by omega
          have HN1 : Hid (wrap64 (wrap64 ((CL.at' l k).1 - (CL.at' l (k - 1)).1)) = CL.num1 l k) := by
            show _ = _
            unfold CL.num1 CL.ahead CL.stp
            rw [if_neg h0, if_pos (by omega), W_wrap64, W_wrap64, Int.sub_zero]
          have HN2 : Hid (wrap64 ((CL.at' l k).2 - (CL.at' l (k - 1)).2) = CL.num2 l k) := by
            show _ = _
            unfold CL.num2 CL.ahead
            rw [if_neg h0, W_wrap64]
          generalize hp1 : CL.num1 l k = n1 at *
          generalize hp2 : CL.num2 l k = n2 at *
          have HP1 := hid hp1
          have HP2 := hid hp2
          clear hp1 hp2
          clear hrs h1 h0
          generalize (CL.at' l k).1 = T at *
          generalize (CL.at' l k).2 = V at *
          generalize (CL.at' l (k - 1)).1 = T1 at *
          generalize (CL.at' l (k - 1)).2 = V1 at *
          go_wp2_with fail
          generalize wr.alloc (.cells #[.int .i64 T, .int .i64 V] 52) = w3 at *
          go_quiet (fail)
          go_wp2_with fail
          rw [HN1.out]
          refine (rput_any bs n1 _ (by omega) hn1.1 hn1.2).mono ?_
          rintro e w4 ⟨rfl, hb4⟩
          have HB4 := hid ((below_drewN HBX.out _).trans (hb4.mono HBX.out.size))
          clear hb4
          have HB4s := HB4.out.size
          go_wp2_with fail
          rw [HN2.out]
          refine (rput_any _ n2 _ (by omega) hn2.1 hn2.2).mono ?_
          rintro e w5 ⟨rfl, hb5⟩
          have HB5 := hid (HB4.out.trans (hb5.mono HB4s))
          clear hb5
          go_wp2_with fail
          go_roundw
          case rel =>
            refine ⟨k + 1, by omega, by go_num, ?_, HB5.out⟩
            rw [HSg.out, Nat.zero_add, ← HBS.out]
            unfold CL.pairB
            rw [HP1.out, HP2.out]
            simp only [List.append_assoc]
          case measure => simp [intOf]; omega
        · have hgt1 : (1 : Int) < (k : Int) := by omega
          have hix2 : ((k : Int) - 2).toNat = k - 2 := by omega
          have hi2 : 0 ≤ (k : Int) - 2 ∧ (k : Int) - 2 < (l.length : Int) := by omega
          obtain ⟨q0, q1⟩ := HS.out.at hbx (k - 2) (by omega)
          have HN1 : Hid (wrap64 (wrap64 ((CL.at' l k).1 - (CL.at' l (k - 1)).1) - wrap64 ((CL.at' l (k - 1)).1 - (CL.at' l (k - 2)).1)) = CL.num1 l k) := by
            show _ = _
            unfold CL.num1 CL.ahead CL.stp
            rw [if_neg h0, if_neg (by omega)]
            simp only [W_wrap64]
          have HN2 : Hid (wrap64 ((CL.at' l k).2 - (CL.at' l (k - 1)).2) = CL.num2 l k) := by
            show _ = _
            unfold CL.num2 CL.ahead
            rw [if_neg h0, W_wrap64]
          generalize hp1 : CL.num1 l k = n1 at *
          generalize hp2 : CL.num2 l k = n2 at *
          have HP1 := hid hp1
          have HP2 := hid hp2
          clear hp1 hp2
          clear hrs
          generalize (CL.at' l k).1 = T at *
          generalize (CL.at' l k).2 = V at *
          generalize (CL.at' l (k - 1)).1 = T1 at *
          generalize (CL.at' l (k - 1)).2 = V1 at *
          generalize (CL.at' l (k - 2)).1 = T2 at *
          generalize (CL.at' l (k - 2)).2 = V2 at *
          go_wp2_with fail
          generalize wr.alloc (.cells #[.int .i64 T, .int .i64 V] 52) = w3 at *
          go_quiet (fail)
          go_wp2_with fail
          go_quiet (fail)
          go_wp2_with fail
          rw [HN1.out]
          refine (rput_any bs n1 _ (by omega) hn1.1 hn1.2).mono ?_
          rintro e w4 ⟨rfl, hb4⟩
          have HB4 := hid ((below_drewN HBX.out _).trans (hb4.mono HBX.out.size))
          clear hb4
          have HB4s := HB4.out.size
          go_wp2_with fail
          rw [HN2.out]
          refine (rput_any _ n2 _ (by omega) hn2.1 hn2.2).mono ?_
          rintro e w5 ⟨rfl, hb5⟩
          have HB5 := hid (HB4.out.trans (hb5.mono HB4s))
          clear hb5
          go_wp2_with fail
          go_roundw
          case rel =>
            refine ⟨k + 1, by omega, by go_num, ?_, HB5.out⟩
            rw [HSg.out, Nat.zero_add, ← HBS.out]
            unfold CL.pairB
            rw [HP1.out, HP2.out]
            simp only [List.append_assoc]
          case measure => simp [intOf]; omega
    · have he : k = l.length := by omega
      subst he
      have hlen : (CL.chB l).length ≤ 1000000000 := by have := CL.chB_len l; omega
      go_wp2_with fail
      refine (rbytes_any (CL.chB l) _ hlen).mono ?_
      rintro e w3 ⟨rfl, hb3⟩
      have HB3 := hid (HB.out.trans (hb3.mono hsz))
      clear hb3
      go_wp2_with fail
      go_ret2
      exact ⟨rfl, HB3.out⟩

end Go.Proofs.YtdmnlmohfaafoadGreatDoor
