/- What the document's own answer says of bits: Bytes. -/
import Derived.Test.YtdmnlmohfaafoadGreatDoorBitRefP
namespace Go.Proofs.YtdmnlmohfaafoadGreatDoor
open Go.RowKit

theorem bitsOf_true : BL.bitsOf 1 1 = [true] := rfl
theorem bitsOf_false : BL.bitsOf 0 1 = [false] := rfl

theorem pk_f0 (c : List Bool) (h : c.length % 8 = 0) : BL.pk (c ++ [false]) = BL.pk c ++ [0] := by
  have := BL.pk_step0 c 0 1 (by omega) (by omega) h
  rw [bitsOf_false] at this
  rw [this]
  simp

theorem pk_t0 (c : List Bool) (h : c.length % 8 = 0) : BL.pk (c ++ [true]) = (BL.pk c ++ [0]).set (BL.pk c).length 128 := by
  have := BL.pk_step0 c 1 1 (by omega) (by omega) h
  rw [bitsOf_true, h] at this
  exact this

theorem pk_f (c : List Bool) (h : c.length % 8 ≠ 0) : BL.pk (c ++ [false]) = BL.pk c := by
  have := BL.pk_step c 0 1 (by omega) (by omega) h
  rw [bitsOf_false] at this
  rw [this]
  apply List.ext_getElem?
  intro j
  rw [List.getElem?_set]
  by_cases hj : (BL.pk c).length - 1 = j
  · rw [if_pos hj, hj]
    have hl : j < (BL.pk c).length := by have := BL.pk_length c; omega
    rw [if_pos hl]
    simp [hl]
  · rw [if_neg hj]

theorem byte_low (c : List Bool) : BL.byteAt c (c.length / 8) % 2 ^ (8 - c.length % 8) = 0 := by
  apply Nat.eq_of_testBit_eq
  intro t
  rw [Nat.testBit_mod_two_pow, BL.byteAt_testBit, Nat.zero_testBit]
  by_cases h : t < 8 - c.length % 8
  · rw [BL.get_ge c _ (by omega)]; simp
  · simp [h]

theorem pk_t (c : List Bool) (h : c.length % 8 ≠ 0) (b : Nat) (hb : (BL.pk c)[(BL.pk c).length - 1]? = some b) :
    BL.pk (c ++ [true]) = (BL.pk c).set ((BL.pk c).length - 1) (b + 2 ^ (7 - c.length % 8)) ∧ b + 2 ^ (7 - c.length % 8) < 256 := by
  have hs := BL.pk_step c 1 1 (by omega) (by omega) h
  rw [bitsOf_true, hb] at hs
  have hl := BL.pk_length c
  have hb2 : b = BL.byteAt c (c.length / 8) := by
    have := BL.pk_get c ((BL.pk c).length - 1) (by omega)
    rw [hb] at this
    have e : (BL.pk c).length - 1 = c.length / 8 := by omega
    rw [e] at this
    exact Option.some.inj this
  have h1 := byte_low c
  rw [← hb2] at h1
  have hlt : 2 ^ (7 - c.length % 8) < 2 ^ (8 - c.length % 8) := Nat.pow_lt_pow_right (by omega) (by omega)
  have hj := nat_join (8 - c.length % 8) b (2 ^ (7 - c.length % 8)) h1 hlt
  have e2 : (1 % 2 ^ 1 * 2 ^ (8 - c.length % 8 - 1)) = 2 ^ (7 - c.length % 8) := by
    have : 8 - c.length % 8 - 1 = 7 - c.length % 8 := by omega
    rw [this]; simp
  rw [e2] at hs
  simp only [Option.getD_some] at hs
  rw [hj] at hs
  refine ⟨hs, ?_⟩
  have hb3 : b < 2 ^ 8 := by rw [hb2]; exact BL.byteAt_lt _ _
  have h4 := Nat.or_lt_two_pow hb3 (show 2 ^ (7 - c.length % 8) < 2 ^ 8 from Nat.pow_lt_pow_right (by omega) (by omega))
  rw [hj] at h4
  exact h4

theorem add_num (b s : Nat) (hs : s ≤ 7) (h : b + 2 ^ s < 256) : ((b : Int) + 2 ^ min s 8) % 256 = ((b + 2 ^ s : Nat) : Int) := by
  have hm : min s 8 = s := by omega
  have e : ((b : Int) + 2 ^ s) = ((b + 2 ^ s : Nat) : Int) := by simp
  rw [hm, e]
  generalize b + 2 ^ s = z at *
  omega

theorem take_bit (bs : List Bool) (j : Nat) (h : j < bs.length) : bs.take (j + 1) = bs.take j ++ [bs[j]] := List.take_succ_eq_append_getElem h

theorem lt_at (bs : List Bool) (j : Nat) (h : j < bs.length) (hh : j < (ltS bs).size) : ((ltS bs)[j]'hh).toNat = if bs[j] then 49 else 48 := by
  show ((lt bs).toArray[j]'(by simp [lt_length]; exact h)).toNat = _
  simp only [List.getElem_toArray, lt, List.getElem_map]
  split <;> rfl

set_option maxRecDepth 100000 in
set_option maxHeartbeats 1600000 in
theorem rbytes_any (bs : List Bool) (w : World) (hb : bs.length ≤ 1000000000) :
    Calls Tryz.prog 63 #[.string (ltS bs)] w fun e w' => e = .returned (.string (strOf (BL.pk bs))) ∧ Below w.heap.size w w' := by
  obtain ⟨i, hi, hz0, hz1, hz2⟩ := info_parts Tryz.info5
  have hsz := ltS_size bs
  have HSZ := hid hsz
  go_enter Tryz.func63, Tryz.ntmps63
  go_wp2
  go_loopw [3, 7] (fun tv tj wr => ∃ j : Nat, j ≤ bs.length ∧ tj = .int .i64 j ∧ wr.ownsRow w.heap.size 5 1 tv (BL.pk (bs.take j)).length (bv (BL.pk (bs.take j))) ∧ Below w.heap.size w wr) (fun _ tj _ => bs.length - (intOf tj).toNat)
  case atStart => exact ⟨0, by omega, rfl, (by have e : BL.pk (List.take 0 bs) = [] := by rw [List.take_zero]; rfl
                                               rw [e]; exact World.ownsRow_nil _ _ _ _), Below.refl _ _⟩
  case round =>
    obtain ⟨j, hj, rfl, hown, hbel⟩ := hrel
    by_cases hlt : j < bs.length
    · have hT := take_bit bs j hlt
      have hbx := lt_at bs j hlt
      have hcl : (bs.take j).length = j := by rw [List.length_take]; omega
      generalize bs[j] = b at *
      generalize hc : bs.take j = c at *
      have HT := hid hT
      have hpl := BL.pk_length c
      rw [hcl] at hpl
      have HPL := hid hpl
      have HCL := hid hcl
      have hjn : (j : Int) < (bs.length : Int) := by omega
      clear hT hc hcl hpl hsz
      have hjs : j < (ltS bs).size := by rw [HSZ.out]; exact hlt
      cases b
      · simp only [Bool.false_eq_true, if_false] at hbx
        by_cases hz : j % 8 = 0
        · have hzb : (((j : Int) % 8) == 0) = true := by rw [beq_iff_eq]; omega
          have HZ := hid hz
          clear hz
          have HE := hid (pk_f0 c (by rw [HCL.out]; exact HZ.out))
          have hpl1 : (BL.pk c).length ≤ 1000000000 := by rw [HPL.out]; omega
          have HB := hid hbel
          go_wp2_with (at_builtin; refine wpList_append_own _ rfl (.tmp 13) (.tmp 14) 47 rfl w.heap.size 5 i (.int .u8 0) 1 1 Tryz.underlying47 hi hz0 hz1 hz2 rfl (by decide) _ (BL.pk c).length _ rfl (hown.alloc _) ⟨wr.heap.size, 0, none⟩ 1 1 [.int .u8 0] rfl rfl (one_news wr _ _) (one_u8 0) (by unfold maxLen; omega) (by omega) (by have := HB.out.size; simp; omega) ?_)
          intro v' w1 hown' hgrow _
          have HO := hid hown'
          have HB1 := hid ((hbel.alloc hbel.size (.cells #[.int .u8 0] 5)).grown hgrow (by have := hbel.size; simp; omega) (fun k hk => (hown.lt k hk).1))
          clear hown' hgrow hown hbel
          go_wp2
          go_roundw
          case rel =>
            refine ⟨j + 1, by omega, by go_num, ?_, HB1.out⟩
            rw [HT.out, HE.out]
            have := HO.out
            simpa [bv] using this
          case measure => simp [intOf]; omega
        · have hzb : (((j : Int) % 8) == 0) = false := by rw [beq_eq_false_iff_ne]; omega
          have HE := hid (pk_f c (by rw [HCL.out]; exact hz))
          have HO := hid hown
          have HB := hid hbel
          clear hown hbel
          go_wp2
          go_roundw
          case rel =>
            refine ⟨j + 1, by omega, by go_num, ?_, HB.out⟩
            rw [HT.out, HE.out]; exact HO.out
          case measure => simp [intOf]; omega
      · simp only [if_true] at hbx
        by_cases hz : j % 8 = 0
        · have hzb : (((j : Int) % 8) == 0) = true := by rw [beq_iff_eq]; omega
          have HZ := hid hz
          have hzi : (j : Int) % 8 ≤ 0 := by omega
          have HE := hid (pk_t0 c (by rw [HCL.out]; exact HZ.out))
          have hpl1 : (BL.pk c).length ≤ 1000000000 := by rw [HPL.out]; omega
          have HPM : Hid ((BL.pk c).length = j / 8) := by show _ = _; rw [HPL.out]; omega
          clear hz
          have HB := hid hbel
          go_wp2_with (at_builtin; refine wpList_append_own _ rfl (.tmp 13) (.tmp 14) 47 rfl w.heap.size 5 i (.int .u8 0) 1 1 Tryz.underlying47 hi hz0 hz1 hz2 rfl (by decide) _ (BL.pk c).length _ rfl (hown.alloc _) ⟨wr.heap.size, 0, none⟩ 1 1 [.int .u8 0] rfl rfl (one_news wr _ _) (one_u8 0) (by unfold maxLen; omega) (by omega) (by have := HB.out.size; simp; omega) ?_)
          intro v' w1 hown' hgrow _
          have HB1 := hid ((hbel.alloc hbel.size (.cells #[.int .u8 0] 5)).grown hgrow (by have := hbel.size; simp; omega) (fun k hk => (hown.lt k hk).1))
          have hex : ∃ g cap, v' = .slice (some ⟨g, 0, none⟩) ((BL.pk c).length + 1) cap := by
            obtain ⟨_, hcase⟩ := hown'
            rcases hcase with ⟨_, h0⟩ | ⟨g', cap', cur', h, _⟩
            · omega
            · exact ⟨g', cap', h⟩
          obtain ⟨g, cap, rfl⟩ := hex
          rw [HPM.out] at hown'
          have hg : w.heap.size ≤ g := (hown'.lt g rfl).1
          have hcell : w1.cell? ⟨g, j / 8, none⟩ = some (.int .u8 0) := by
            rw [hown'.cellAt (j / 8) (by omega)]; simp [bv, HPM.out]
          have hfrz := hown'.frozenAt (j / 8)
          have hidx : 0 ≤ (j : Int) / 8 ∧ (j : Int) / 8 < ((BL.pk c).length : Int) + 1 := by have := HPM.out; omega
          have hwrap : IntKind.i64.wrap ((j : Int) / 8) = (j : Int) / 8 := by rw [IntKind.wrap_i64]; omega
          have htn : ((j : Int) / 8).toNat = j / 8 := by omega
          have htm : (j : Int).tmod 8 = (j : Int) % 8 := Int.tmod_eq_emod_of_nonneg (by omega)
          have hin : IntKind.i64.wrap (7 - (j : Int) % 8) = ((7 : Nat) : Int) := by rw [IntKind.wrap_i64]; omega
          have HO := hid hown'
          clear hown' hgrow hown hbel
          go_wp2_with fail
          refine wp_region_still_tail 11 (by kernel_rfl) (by kernel_rfl) ?_
          simp only [List.take_succ_cons, List.take_zero, List.drop_succ_cons, List.drop_zero]
          iterate 11 still_step
          refine wpStill_nil ?_
          go_wp2
          go_roundw
          case rel =>
            refine ⟨j + 1, by omega, by go_num, ?_, (HB1.out.setCell (p := ⟨g, j / 8, none⟩) hg _).drew⟩
            have hst := (HO.out.stored (j / 8) (.int .u8 128)).1
            have e : bv (BL.pk c ++ [0]) = bv (BL.pk c) ++ [.int .u8 0] := by simp [bv]
            rw [HT.out, HE.out, List.length_set, List.length_append, HPM.out, ← bv_set, e]
            exact hst
          case measure => simp [intOf]; omega
        · have hzb : (((j : Int) % 8) == 0) = false := by rw [beq_eq_false_iff_ne]; omega
          obtain ⟨hlen, hcase⟩ := hown
          have hown : wr.ownsRow w.heap.size 5 1 u3 (BL.pk c).length (bv (BL.pk c)) := ⟨hlen, hcase⟩
          rcases hcase with ⟨_, h0⟩ | ⟨g, cap, cur, rfl, hg, hh, hn, hcap, hsz2, htake⟩
          · have := HPL.out; omega
          have hpm : (BL.pk c).length = j / 8 + 1 := by have := HPL.out; omega
          have HPM := hid hpm
          obtain ⟨b, hbm⟩ : ∃ b : Nat, (BL.pk c)[j / 8]? = some b := ⟨(BL.pk c)[j / 8]'(by omega), by simp⟩
          have hb256 := pk_byte_lt c _ b hbm
          have HE := hid (pk_t c (by rw [HCL.out]; exact hz) b (by rw [hpm, Nat.add_sub_cancel]; exact hbm))
          rw [hpm] at hown
          have hcell : wr.cell? ⟨g, j / 8, none⟩ = some (.int .u8 b) := by
            rw [hown.cellAt (j / 8) (by omega)]; simp [bv, hbm]
          have hfrz := hown.frozenAt (j / 8)
          have hidx : 0 ≤ (j : Int) / 8 ∧ (j : Int) / 8 < ((BL.pk c).length : Int) := ⟨by omega, by omega⟩
          have hwrap : IntKind.i64.wrap ((j : Int) / 8) = (j : Int) / 8 := by rw [IntKind.wrap_i64]; omega
          have htn : ((j : Int) / 8).toNat = j / 8 := by omega
          have htm : (j : Int).tmod 8 = (j : Int) % 8 := Int.tmod_eq_emod_of_nonneg (by omega)
          obtain ⟨s, hs⟩ : ∃ s : Nat, s = 7 - j % 8 := ⟨_, rfl⟩
          have hin : IntKind.i64.wrap (7 - (j : Int) % 8) = s := by rw [IntKind.wrap_i64]; omega
          have HS := hid hs
          clear hs
          have HO := hid hown
          have HB := hid hbel
          clear hown hbel hlen hh hn hcap hsz2 htake hbm hpm
          go_wp2_with fail
          refine wp_region_still_tail 11 (by kernel_rfl) (by kernel_rfl) ?_
          simp only [List.take_succ_cons, List.take_zero, List.drop_succ_cons, List.drop_zero]
          iterate 11 still_step
          refine wpStill_nil ?_
          go_wp2
          go_roundw
          case rel =>
            have hS := HS.out
            have hE := HE.out
            rw [HCL.out, ← hS, HPM.out, Nat.add_sub_cancel] at hE
            refine ⟨j + 1, by omega, by go_num, ?_, (HB.out.setCell (p := ⟨g, j / 8, none⟩) hg _).drew⟩
            have hv := add_num b s (by omega) hE.2
            rw [hv, HT.out, hE.1, List.length_set, HPM.out, ← bv_set]
            exact (HO.out.stored (j / 8) _).1
          case measure => simp [intOf]; omega
    · have he : j = bs.length := by omega
      subst he
      have HB := hid hbel
      have hpk : bs.take bs.length = bs := List.take_of_length_le (Nat.le_refl _)
      rw [hpk] at hown
      obtain ⟨hlen, hcase⟩ := hown
      have hown : wr.ownsRow w.heap.size 5 1 u3 (BL.pk bs).length (bv (BL.pk bs)) := ⟨hlen, hcase⟩
      rcases hcase with ⟨rfl, h0⟩ | ⟨g, cap, cur, rfl, hg, hh, hn, hcap, hsz2, htake⟩
      · have hcv := run_convert_bytes_nil (P := Tryz.prog) wr 47 5 Tryz.underlying47 Tryz.underlying5 0 0 9 Tryz.underlying9
        have e : BL.pk bs = [] := List.eq_nil_of_length_eq_zero h0
        have HE := hid e
        clear hown h0 hlen e hbel hpk hsz
        go_wp2
        go_ret
        exact ⟨by rw [HE.out]; rfl, HB.out⟩
      · have hcv := run_convert_bytes_arg (P := Tryz.prog) wr 47 5 Tryz.underlying47 Tryz.underlying5 g 0 (BL.pk bs).length cap ((BL.pk bs).map fun n : Nat => (n : Int)) (by simp)
          (fun i hi => by
            rw [Nat.zero_add, hown.cellAt i (by omega)]
            simp [bv, hi]) 9 Tryz.underlying9
        rw [strOfNums_eq] at hcv
        clear hown hlen hh hsz2 htake hbel hpk hsz
        go_wp2
        go_ret
        exact ⟨rfl, HB.out⟩

end Go.Proofs.YtdmnlmohfaafoadGreatDoor
