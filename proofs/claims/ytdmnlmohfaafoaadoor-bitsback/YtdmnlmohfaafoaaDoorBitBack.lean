/- raingaugekeep.BitsBack, walked: numbers that are put one behind the other are got one behind the other. -/
import Derived.Test.YtdmnlmohfaafoaaDoorBitGet
namespace Go.Proofs.YtdmnlmohfaafoaaDoor
open Go.RowKit

def putAll (l : List Int) : List Bool := l.flatMap fun z => BL.putL (BL.zig z)

theorem putAll_take (zs : List Int) (k : Nat) (h : k < zs.length) : putAll (zs.take (k + 1)) = putAll (zs.take k) ++ BL.putL (BL.zig (zs.getD k 0)) := by
  have e : zs.getD k 0 = zs[k] := by simp [h]
  unfold putAll
  rw [List.take_succ_eq_append_getElem h, e, List.flatMap_append]
  simp only [List.flatMap_cons, List.flatMap_nil, List.append_nil]

theorem putAll_drop (zs : List Int) (k : Nat) (h : k < zs.length) : putAll (zs.drop k) = BL.putL (BL.zig (zs.getD k 0)) ++ putAll (zs.drop (k + 1)) := by
  have e : zs.getD k 0 = zs[k] := by simp [h]
  unfold putAll
  rw [List.drop_eq_getElem_cons h, e]
  simp only [List.flatMap_cons]

theorem putAll_length (zs : List Int) : (putAll zs).length ≤ 70 * zs.length := by
  induction zs with
  | nil => simp [putAll]
  | cons z zs ih =>
    have := (BL.putL_bounds (BL.zig z)).2.1
    simp only [putAll, List.flatMap_cons, List.length_append, List.length_cons] at ih ⊢
    omega

theorem bitsS_strOf (bs : List Bool) : bitsS (strOf (BL.pk bs)) = bs ++ List.replicate (8 * ((bs.length + 7) / 8) - bs.length) false := by
  rw [← BL.bitsB_pk]
  unfold bitsS strOf
  congr 1
  simp only [List.map_map]
  conv => rhs; rw [← List.map_id (BL.pk bs)]
  apply List.map_congr_left
  intro x hx
  have := BL.pk_lt bs x hx
  simp [UInt8.toNat_ofNat', Nat.mod_eq_of_lt this]

theorem strOf_size (l : List Nat) : (strOf l).size = l.length := by simp [strOf, ByteArray.size]

set_option maxRecDepth 100000 in
set_option maxHeartbeats 1600000 in
theorem bitwise_any (w : World) (hW : Wids w) (hG : 0 < w.heap.size) :
    Calls Tryd.prog 28 #[] w fun e w' => e = .returned (.bool true) ∧ Below w.heap.size w w' := by
  have HW1 := hid (hW.alloc hG (.cells #[.slice none 0 0, .int .i64 0] 27))
  have HI1 := hid (WInv.new w)
  have HB1 := hid ((Below.refl w.heap.size w).alloc (Nat.le_refl _) (.cells #[.slice none 0 0, .int .i64 0] 27))
  clear hW
  go_enter Tryd.func28, Tryd.ntmps28
  go_wp2_with fail
  refine (put_any w.heap.size 0 [] _ HI1.out HW1.out hG (by simp) (by omega) (by omega)).mono ?_
  rintro e w2 ⟨rfl, hi, hb0⟩
  have hb := hb0.below
  have HI2 := hid hi
  have HW2 := hid (HW1.out.below hb hG)
  have HB2 := hid (HB1.out.trans hb)
  clear hi hb hb0
  go_wp2_with fail
  refine (put_any w.heap.size (-1) _ _ HI2.out HW2.out hG (by decide) (by omega) (by omega)).mono ?_
  rintro e w3 ⟨rfl, hi, hb0⟩
  have hb := hb0.below
  have HI3 := hid hi
  have HW3 := hid (HW2.out.below hb hG)
  have HB3 := hid (HB2.out.trans hb)
  clear hi hb hb0
  go_wp2_with fail
  refine (put_any w.heap.size 9 _ _ HI3.out HW3.out hG (by decide) (by omega) (by omega)).mono ?_
  rintro e w4 ⟨rfl, hi, hb0⟩
  have hb := hb0.below
  have HI4 := hid hi
  have HB4 := hid (HB3.out.trans hb)
  clear hi hb hb0
  generalize hbs : ((([] : List Bool) ++ BL.putL (BL.zig 0)) ++ BL.putL (BL.zig (-1))) ++ BL.putL (BL.zig 9) = bs at *
  have hl : bs.length = 17 := by rw [← hbs]; decide
  have hl2 : (BL.pk bs).length = 3 := by rw [BL.pk_length, hl]
  have hlb : ((bs.length : Int) == 17) = true := by rw [hl]; rfl
  have hsz : ((((strOf (BL.pk bs)).size : Nat) : Int) == 3) = true := by rw [strOf_size, hl2]; rfl
  clear hbs hl hl2
  go_wp2_with fail
  refine (wlen_any w.heap.size bs _ HI4.out).mono ?_
  rintro e w5 ⟨rfl, rfl⟩
  go_wp2_with fail
  refine (wbytes_any w.heap.size bs _ HI4.out).mono ?_
  rintro e w6 ⟨rfl, rfl⟩
  go_wp2_with fail
  go_ret
  exact ⟨rfl, HB4.out⟩

/-- What the test on the room that a number takes comes to: which way each part goes. -/
theorem room_cases (z : Int) (c d : List Bool) (hd : d.length = c.length + (BL.putL (BL.zig z)).length) :
    ((z == 0) = true ∧ -8 < z ∧ z < 8 ∧ (((d.length : Int) - (c.length : Int)) != 1) = false ∧ d.length ≤ c.length + 6) ∨
    ((z == 0) = false ∧ -8 < z ∧ z < 8 ∧ d.length ≤ c.length + 6) ∨ ((z == 0) = false ∧ ¬ -8 < z) ∨ ((z == 0) = false ∧ -8 < z ∧ ¬ z < 8) := by
  obtain ⟨_, _, h0, h16⟩ := BL.putL_bounds (BL.zig z)
  by_cases hz : z = 0
  · subst hz
    have := h0 rfl
    refine .inl ⟨rfl, by omega, by omega, ?_, by omega⟩
    rw [hd, this]; simp; omega
  · have hzb : (z == 0) = false := by rw [beq_eq_false_iff_ne]; exact hz
    by_cases h1 : -8 < z
    · by_cases h2 : z < 8
      · have h3 : BL.zig z < 16 := by unfold BL.zig; split <;> omega
        have := h16 h3
        exact .inr (.inl ⟨hzb, h1, h2, by omega⟩)
      · exact .inr (.inr (.inr ⟨hzb, h1, h2⟩))
    · exact .inr (.inr (.inl ⟨hzb, h1⟩))

theorem zagzig_any (z : Int) (w : World) (h1 : -9223372036854775808 ≤ z) (h2 : z ≤ 9223372036854775807) :
    Calls Tryd.prog 18 #[.int .u64 (BL.zig z)] w fun e w' => e = .returned (.int .i64 z) ∧ w' = w := by
  have := zag_any (BL.zig z) w (BL.zig_lt z h1 h2)
  rw [BL.zag_zig] at this
  exact this

set_option maxHeartbeats 400000 in
theorem back_long (ao : Option Addr) (len cap : Nat) (w : World) (h : 60 < len) :
    Calls Tryd.prog 5 #[.slice ao len cap] w fun e w' => e = .returned (.bool true) ∧ w' = w := by
  have h' : (60 : Int) < (len : Int) := by omega
  go_enter Tryd.func5, Tryd.ntmps5
  go_wp2
  go_ret
  exact ⟨rfl, rfl⟩

set_option maxRecDepth 100000 in
set_option maxHeartbeats 3200000 in
theorem back_any (ao : Option Addr) (len cap : Nat) (zs : List Int) (w : World) (hlen : len ≤ 60) (hzl : zs.length = len) (hW : Wids w) (hG : 0 < w.heap.size)
    (hc : ∀ i, i < len → ∃ b off, ao = some ⟨b, off, none⟩ ∧ w.cell? ⟨b, off + i, none⟩ = some (.int .i64 (zs.getD i 0)) ∧ b < w.heap.size)
    (hr : ∀ i, -9223372036854775808 ≤ zs.getD i 0 ∧ zs.getD i 0 ≤ 9223372036854775807) :
    Calls Tryd.prog 5 #[.slice ao len cap] w fun e w' => e = .returned (.bool true) ∧ Below w.heap.size w w' := by
  have h' : ¬ (60 : Int) < (len : Int) := by omega
  have HL := hid hzl
  have HW := hid hW
  have HC := hid hc
  have HR := hid hr
  clear hzl hW hc hr
  go_enter Tryd.func5, Tryd.ntmps5
  go_wp2_with fail
  refine (bitwise_any w HW.out hG).mono ?_
  rintro e w1 ⟨rfl, hb1⟩
  have hs1 := hb1.size
  have HB1 := hid hb1
  have HW1 := hid (HW.out.below hb1 hG)
  clear hb1
  go_wp2_with fail
  go_loopw [4] (fun ti wr => ∃ k : Nat, k ≤ len ∧ ti = .int .i64 k ∧ WInv w1.heap.size wr (putAll (zs.take k)) ∧ Below w.heap.size w wr ∧ Wids wr) (fun ti _ => len - (intOf ti).toNat)
  case atStart =>
    refine ⟨0, by omega, rfl, ?_, HB1.out.alloc hs1 _, HW1.out.alloc (by omega) _⟩
    exact WInv.new w1
  case round =>
    obtain ⟨k, hk, rfl, hinv, hbel, hwid⟩ := hrel
    have HV := hid hinv
    have HB := hid hbel
    have HWr := hid hwid
    clear hinv hbel hwid
    by_cases hlt : k < len
    · obtain ⟨b, off, hao, hcell0, hbs⟩ := HC.out k hlt
      subst hao
      have hcell := (HB.out.cell (p := ⟨b, off + k, none⟩) hbs).trans hcell0
      have hz := HR.out k
      have HS := hid (putAll_take zs k (by rw [HL.out]; exact hlt))
      have hPl : (putAll (zs.take k)).length ≤ 10000 := by
        have h1 := putAll_length (zs.take k)
        have h2 : (zs.take k).length ≤ k := List.length_take_le _ _
        omega
      generalize zs.getD k 0 = z at *
      generalize putAll (zs.take k) = c at *
      clear hcell0
      have hpb := BL.putL_bounds (BL.zig z)
      generalize hd : c ++ BL.putL (BL.zig z) = d at *
      have hdl : d.length = c.length + (BL.putL (BL.zig z)).length := by rw [← hd, List.length_append]
      have hcs := room_cases z c d hdl
      have hd1 : c.length + 1 ≤ d.length := by omega
      have hd2 : d.length ≤ c.length + 70 := by omega
      have HD := hid hd
      clear hd hdl hpb
      obtain ⟨hz1, hz2⟩ := hz
      rcases hcs with ⟨q1, q2, q3, q4, q5⟩ | ⟨q1, q2, q3, q5⟩ | ⟨q1, q2⟩ | ⟨q1, q2, q3⟩
      all_goals
        go_wp2_with fail
        refine (wlen_any w1.heap.size c _ HV.out).mono ?_
        rintro e w2 ⟨rfl, rfl⟩
        go_wp2_with fail
        refine (put_any w1.heap.size z c _ HV.out HWr.out (by omega) (by omega) hz1 hz2).mono ?_
        rintro e w3 ⟨rfl, hi, hb0⟩
        have hb := hb0.below
        rw [HD.out] at hi
        have hcell3 := (hb.cell (p := ⟨b, off + k, none⟩) (by show b < w1.heap.size; omega)).trans hcell
        have HI3 := hid hi
        have HB3 := hid hb
        have HW3 := hid (HWr.out.below hb (by omega))
        clear hi hb hb0
        go_wp2_with fail
        refine (wlen_any w1.heap.size d _ HI3.out).mono ?_
        rintro e w4 ⟨rfl, rfl⟩
        go_wp2_with fail
        refine wp_region_still_lit (by kernel_rfl) (by kernel_rfl) ?_
        iterate 4 still_step
        still_call (zig_any _ _ hz1 hz2)
        still_call (zagzig_any _ _ hz1 hz2)
        iterate 5 still_step
        refine wpStill_nil ?_
        go_wp2
        go_roundw
        case rel =>
          refine ⟨k + 1, by omega, by go_num, ?_, (HB.out.trans (HB3.out.mono (by omega))).drew, HW3.out⟩
          rw [HS.out]; exact HI3.out
        case measure => simp [intOf]; omega
    · have he : k = len := by omega
      subst he
      have HV2 : Hid (WInv w1.heap.size wr (putAll zs)) := by
        have := HV.out
        rw [List.take_of_length_le (by rw [HL.out]; omega)] at this
        exact this
      have hPl : (putAll zs).length ≤ 10000 := by
        have h1 := putAll_length zs
        have h2 := HL.out
        omega
      have hss : (strOf (BL.pk (putAll zs))).size ≤ 140737488351232 := by rw [strOf_size, BL.pk_length]; omega
      have HBS := hid (bitsS_strOf (putAll zs))
      have hszw : w.heap.size ≤ wr.heap.size := HB.out.size
      generalize hpad : List.replicate (8 * (((putAll zs).length + 7) / 8) - (putAll zs).length) false = pad at *
      have hp8 : pad.length < 8 := by rw [← hpad, List.length_replicate]; omega
      have HPV : Hid (BL.val pad = 0) := by show _ = _; rw [← hpad]; exact BL.val_zeros _
      clear hpad
      go_wp2_with fail
      refine (wbytes_any w1.heap.size (putAll zs) _ HV2.out).mono ?_
      rintro e w2 ⟨rfl, rfl⟩
      generalize strOf (BL.pk (putAll zs)) = s at *
      go_wp2_with fail
      refine (from_any s _).mono ?_
      rintro e w3 ⟨rfl, rfl⟩
      go_wp2_with fail
      go_loopw [7] (fun ti wq => ∃ k' p : Nat, k' ≤ k ∧ ti = .int .i64 k' ∧ RInv w2.heap.size wq s p ∧ (bitsS s).drop p = putAll (zs.drop k') ++ pad ∧ Below w.heap.size w wq ∧ Wids wq) (fun ti _ => k - (intOf ti).toNat)
      case atStart =>
        refine ⟨0, 0, by omega, rfl, RInv.new s w2, ?_, HB.out.alloc hszw _, HWr.out.alloc (by omega) _⟩
        exact HBS.out
      case round =>
        obtain ⟨j, p, hj, rfl, hri, hdr, hbl, hwd⟩ := hrel
        have HRI := hid hri
        have HDR := hid hdr
        have HBL := hid hbl
        have HWD := hid hwd
        clear hri hdr hbl hwd
        by_cases hlt2 : j < k
        · obtain ⟨b, off, hao, hcell0, hbs⟩ := HC.out j hlt2
          subst hao
          have hcell := (HBL.out.cell (p := ⟨b, off + j, none⟩) hbs).trans hcell0
          obtain ⟨hz1, hz2⟩ := HR.out j
          have hdj := putAll_drop zs j (by rw [HL.out]; exact hlt2)
          have HG := hid (get_any w2.heap.size s p wr HRI.out hss HWD.out (by omega))
          have hge : BL.getL ((bitsS s).drop p) = some (BL.zig (zs.getD j 0), putAll (zs.drop (j + 1)) ++ pad) := by
            rw [HDR.out, hdj, List.append_assoc, BL.getL_putL _ (BL.zig_lt _ hz1 hz2)]
          rw [hge] at HG
          clear hdj hge hcell0
          generalize zs.getD j 0 = z at *
          go_wp2_with fail
          refine Calls.mono HG.out ?_
          rintro e w4 ⟨rfl, p', hri4, ho4, hdr4⟩
          rw [BL.zag_zig]
          have hcell4 := (World.cell?_of_block (w := wr) (a := ⟨b, off + j, none⟩) (ho4.block b (by omega))).trans hcell
          have HRI4 := hid hri4
          have HDR4 := hid hdr4
          have HBL4 := hid (HBL.out.trans (ho4.below hszw))
          have HWD4 := hid (HWD.out.only ho4 (by omega))
          clear hri4 ho4 hdr4
          go_wp2
          go_roundw
          case rel => exact ⟨j + 1, p', by omega, by go_num, HRI4.out, HDR4.out, HBL4.out, HWD4.out⟩
          case measure => simp [intOf]; omega
        · have he : j = k := by omega
          subst he
          have hdp : (bitsS s).drop p = pad := by
            rw [HDR.out, List.drop_of_length_le (by rw [HL.out]; omega)]; rfl
          have hln := drop_len HRI.out hdp
          have hep : 8 * (s.size : Int) - p = (pad.length : Int) := by omega
          have HEP := hid hep
          have HVZ : Hid (BL.val (((bitsS s).drop p).take pad.length) = 0) := by
            show _ = _
            rw [hdp, List.take_of_length_le (Nat.le_refl _)]; exact HPV.out
          clear hdp hep
          go_wp2_with fail
          refine (left_any w2.heap.size s p _ HRI.out hss).mono ?_
          rintro e w4 ⟨rfl, rfl⟩
          rw [HEP.out]
          go_wp2_with fail
          refine (rbits_any w2.heap.size s p pad.length _ HRI.out.drew hss (by omega) (by omega)).mono ?_
          rintro e w5 ⟨rfl, hri5, ho5⟩
          rw [HVZ.out]
          have HB5 := hid (HBL.out.drew.trans (ho5.below hszw))
          clear hri5 ho5
          go_wp2
          go_ret
          exact ⟨rfl, HB5.out⟩

end Go.Proofs.YtdmnlmohfaafoaaDoor
