/- What Get reads: the number that stands next, or that there is none. -/
import Derived.Test.YtdmnlmohfaafoadGreatDoorBitRd
import Derived.LaidEql
namespace Go.Proofs.YtdmnlmohfaafoadGreatDoor
open Go.RowKit

theorem rbit_one (R : Nat) (s : ByteArray) (q : Nat) (b : Bool) (r : List Bool) (w : World) (hRI : RInv R w s q) (hs : s.size ≤ 140737488351232) (hd : (bitsS s).drop q = b :: r) :
    Calls Tryz.prog 169 #[.pointer (some ⟨R, 0, none⟩), .int .i64 1] w fun e w' =>
      e = .returned (.tuple #[.int .u64 (b.toNat : Nat), .nilIface]) ∧ RInv R w' s (q + 1) ∧ Only R w w' := by
  have hl : ((bitsS s).drop q).length = r.length + 1 := by rw [hd]; rfl
  rw [List.length_drop, bitsS_length] at hl
  have := rbits_any R s q 1 w hRI hs (by omega) (by omega)
  rw [hd] at this
  refine this.mono ?_
  rintro e w' ⟨rfl, h⟩
  refine ⟨?_, h⟩
  simp [BL.val]

theorem rbit_none (R : Nat) (s : ByteArray) (q : Nat) (w : World) (hRI : RInv R w s q) (hs : s.size ≤ 140737488351232) (hd : (bitsS s).drop q = []) :
    Calls Tryz.prog 169 #[.pointer (some ⟨R, 0, none⟩), .int .i64 1] w fun e w' => e = .returned (.tuple #[.int .u64 0, .iface 24 (.int .i64 3)]) ∧ w' = w.drew := by
  have hl : ((bitsS s).drop q).length = 0 := by rw [hd]; rfl
  rw [List.length_drop, bitsS_length] at hl
  exact rbits_few R s q 1 w hRI hs (by omega) (by omega)

theorem drop_succ {b : Bool} {r l : List Bool} {q : Nat} (h : l.drop q = b :: r) : l.drop (q + 1) = r := by
  rw [← List.drop_drop, h]; rfl

/-- What place tells. -/
def PlcEnd (R : Nat) (s : ByteArray) (w : World) (e : Ending) (w' : World) : Option (Nat × List Bool) → Prop
  | none => e = .returned (.tuple #[.int .i64 0, .iface 24 (.int .i64 3)]) ∧ ∃ p, RInv R w' s p ∧ Only R w w'
  | some (i, r) => e = .returned (.tuple #[.int .i64 i, .nilIface]) ∧ ∃ p, RInv R w' s p ∧ Only R w w' ∧ (bitsS s).drop p = r

theorem plc_false (k : Nat) (r : List Bool) : BL.plc (k + 1) (false :: r) = some (0, r) := rfl
theorem plc_true (k : Nat) (r : List Bool) : BL.plc (k + 1) (true :: r) = (BL.plc k r).map fun x => (x.1 + 1, x.2) := rfl

set_option maxRecDepth 100000 in
set_option maxHeartbeats 1600000 in
theorem place_any (R : Nat) (s : ByteArray) (p : Nat) (w : World) (hRI : RInv R w s p) (hs : s.size ≤ 140737488351232) :
    Calls Tryz.prog 173 #[.pointer (some ⟨R, 0, none⟩)] w fun e w' => PlcEnd R s w e w' (BL.plc 6 ((bitsS s).drop p)) := by
  have HI := hid hRI
  clear hRI
  generalize hP : BL.plc 6 ((bitsS s).drop p) = P
  have HP := hid hP
  clear hP
  go_enter Tryz.func173, Tryz.ntmps173
  go_wp2
  go_loopw [4] (fun t wr => ∃ a q : Nat, a ≤ 6 ∧ t = .int .i64 a ∧ RInv R wr s q ∧ Only R w wr ∧ P = (BL.plc (6 - a) ((bitsS s).drop q)).map fun x => (x.1 + a, x.2)) (fun t _ => 6 - (intOf t).toNat)
  case atStart =>
    refine ⟨0, p, by omega, rfl, HI.out, Only.refl _ _, ?_⟩
    rw [← HP.out]; simp
  case round =>
    obtain ⟨a, q, ha, rfl, hinv, honly, hrel⟩ := hrel
    have HV := hid hinv
    have HO := hid honly
    have HR := hid hrel
    clear hinv honly hrel
    by_cases h6 : a < 6
    · obtain ⟨k, hk⟩ : ∃ k, 6 - a = k + 1 := ⟨5 - a, by omega⟩
      have HK := hid hk
      clear hk
      rcases hd : (bitsS s).drop q with _ | ⟨b, r⟩
      · have HD := hid hd
        clear hd
        go_wp2_with (go_at_call 169; refine (rbit_none R s q _ HV.out hs HD.out).mono ?_; rintro e w' ⟨rfl, rfl⟩)
        go_ret2
        have := HR.out
        rw [HK.out, HD.out] at this
        have e : BL.plc (k + 1) [] = none := rfl
        rw [e] at this
        simp only [Option.map_none] at this
        rw [this]
        exact ⟨rfl, q, HV.out.drew, HO.out.drew⟩
      · have HD := hid hd
        clear hd
        cases b
        · go_wp2_with (go_at_call 169; refine (rbit_one R s q _ _ _ HV.out hs HD.out).mono ?_; rintro e w' ⟨rfl, hi, ho⟩; have HI2 := hid hi; have HO2 := hid ho; clear hi ho)
          go_ret2
          have := HR.out
          rw [HK.out, HD.out, plc_false] at this
          rw [this]
          refine ⟨by simp, q + 1, HI2.out, HO.out.trans HO2.out, drop_succ HD.out⟩
        · go_wp2_with (go_at_call 169; refine (rbit_one R s q _ _ _ HV.out hs HD.out).mono ?_; rintro e w' ⟨rfl, hi, ho⟩; have HI2 := hid hi; have HO2 := hid ho; clear hi ho)
          go_roundw
          case rel =>
            refine ⟨a + 1, q + 1, by omega, by go_num, HI2.out, HO.out.trans HO2.out, ?_⟩
            have := HR.out
            have hk := HK.out
            rw [hk, HD.out, plc_true] at this
            rw [this, drop_succ HD.out, show 6 - (a + 1) = k by omega, Option.map_map]
            congr 1
            funext x
            simp [Nat.add_assoc, Nat.add_comm 1 a]
          case measure => simp [intOf]; omega
    · have he : a = 6 := by omega
      subst he
      go_wp2
      go_ret2
      have := HR.out
      rw [show 6 - 6 = 0 from rfl] at this
      have e : BL.plc 0 ((bitsS s).drop q) = some (0, (bitsS s).drop q) := by unfold BL.plc; rfl
      rw [e] at this
      rw [this]
      refine ⟨by simp, q, HV.out, HO.out, rfl⟩

theorem plc_le : ∀ (k : Nat) (b : List Bool) (i : Nat) (r : List Bool), BL.plc k b = some (i, r) → i ≤ k
  | 0, b, i, r, h => by simp [BL.plc] at h; omega
  | k + 1, [], i, r, h => by simp [BL.plc] at h
  | k + 1, false :: b, i, r, h => by simp [BL.plc] at h; omega
  | k + 1, true :: b, i, r, h => by
    rw [plc_true] at h
    rcases hx : BL.plc k b with _ | ⟨j, r'⟩
    · rw [hx] at h; simp at h
    · rw [hx] at h
      simp at h
      have := plc_le k b j r' hx
      omega

theorem drop_len {R : Nat} {w : World} {s : ByteArray} {p : Nat} {r : List Bool} (h : RInv R w s p) (hd : (bitsS s).drop p = r) : r.length + p = 8 * s.size := by
  have h1 := h.2.2.2.2
  have h2 : ((bitsS s).drop p).length = r.length := by rw [hd]
  rw [List.length_drop, bitsS_length] at h2
  omega

/-- What Get tells. -/
def GetEnd (R : Nat) (s : ByteArray) (w : World) (e : Ending) (w' : World) : Option (Nat × List Bool) → Prop
  | none => e = .returned (.tuple #[.int .i64 0, .iface 24 (.int .i64 3)]) ∧ ∃ p, RInv R w' s p ∧ Only R w w'
  | some (u, r) => e = .returned (.tuple #[.int .i64 (BL.zag u), .nilIface]) ∧ ∃ p, RInv R w' s p ∧ Only R w w' ∧ (bitsS s).drop p = r

set_option maxRecDepth 100000 in
set_option maxHeartbeats 1600000 in
theorem get_any (R : Nat) (s : ByteArray) (p : Nat) (w : World) (hRI : RInv R w s p) (hs : s.size ≤ 140737488351232) (hW : Wids w) (hG : 1 < R) :
    Calls Tryz.prog 166 #[.pointer (some ⟨R, 0, none⟩)] w fun e w' => GetEnd R s w e w' (BL.getL ((bitsS s).drop p)) := by
  have HC := hid (place_any R s p w hRI hs)
  have HW := hid hW
  clear hRI hW
  rcases hP : BL.plc 6 ((bitsS s).drop p) with _ | ⟨i, r⟩
  · have hg : BL.getL ((bitsS s).drop p) = none := by unfold BL.getL; rw [hP]
    rw [hg]
    rw [hP] at HC
    clear hP hg
    go_enter Tryz.func166, Tryz.ntmps166
    go_wp2_with (go_at_call 173; refine Calls.mono HC.out ?_; rintro e w' ⟨rfl, p', hi, ho⟩)
    go_ret2
    exact ⟨rfl, p', hi, ho⟩
  · have hi6 := plc_le 6 _ _ _ hP
    have hg : BL.getL ((bitsS s).drop p) = if r.length < BL.wid i then none else if BL.nar (BL.val (r.take (BL.wid i))) = i then some (BL.val (r.take (BL.wid i)), r.drop (BL.wid i)) else none := by unfold BL.getL; rw [hP]
    rw [hg]
    rw [hP] at HC
    clear hP hg
    have hwl := BL.wid_le i
    by_cases hfew : r.length < BL.wid i
    · rw [if_pos hfew]
      go_enter Tryz.func166, Tryz.ntmps166
      go_wp2_with fail
      refine Calls.mono HC.out ?_
      rintro e w' ⟨rfl, p', hi, ho, hd⟩
      have hc := (Wids.only HW.out ho hG) i (by omega)
      have hl := drop_len hi hd
      have HI := hid hi
      have HO := hid ho
      clear hi ho hd
      go_wp2_with fail
      refine (rbits_few R s p' (BL.wid i) _ HI.out hs hwl (by omega)).mono ?_
      rintro e w2 ⟨rfl, rfl⟩
      go_wp2_with fail
      go_ret2
      exact ⟨rfl, p', HI.out.drew, HO.out.drew⟩
    · rw [if_neg hfew]
      have hvl : BL.val (r.take (BL.wid i)) < 18446744073709551616 := by
        have h1 := BL.val_lt (r.take (BL.wid i))
        have h2 : (r.take (BL.wid i)).length ≤ BL.wid i := List.length_take_le _ _
        have h3 : 2 ^ (r.take (BL.wid i)).length ≤ 2 ^ 64 := Nat.pow_le_pow_right (by omega) (by omega)
        omega
      generalize hu : BL.val (r.take (BL.wid i)) = u at *
      have HU := hid hu
      clear hu
      by_cases hn : BL.nar u = i
      · rw [if_pos hn]
        have hne : ((BL.nar u : Int) != (i : Int)) = false := by simp [hn]
        clear hn
        go_enter Tryz.func166, Tryz.ntmps166
        go_wp2_with fail
        refine Calls.mono HC.out ?_
        rintro e w' ⟨rfl, p', hi, ho, hd⟩
        have hc := (Wids.only HW.out ho hG) i (by omega)
        have hl := drop_len hi hd
        have HI := hid hi
        have HO := hid ho
        have HD := hid hd
        clear hi ho hd
        go_wp2_with fail
        refine (rbits_any R s p' (BL.wid i) _ HI.out hs hwl (by omega)).mono ?_
        rintro e w2 ⟨rfl, hi2, ho2⟩
        rw [HD.out, HU.out]
        have HN := hid (nar_any u w2 (Wids.only (Wids.only HW.out HO.out hG) ho2 hG) hvl)
        have HI2 := hid hi2
        have HO2 := hid ho2
        have HD2 := hid (show (bitsS s).drop (p' + BL.wid i) = r.drop (BL.wid i) by rw [← List.drop_drop, HD.out])
        clear hi2 ho2
        go_wp2_with fail
        refine Calls.mono HN.out ?_
        rintro e w3 ⟨rfl, rfl⟩
        go_wp2_with fail
        refine (zag_any u _ hvl).mono ?_
        rintro e w4 ⟨rfl, rfl⟩
        go_wp2_with fail
        go_ret2
        exact ⟨rfl, p' + BL.wid i, HI2.out, HO.out.trans HO2.out, HD2.out⟩
      · rw [if_neg hn]
        have hne : ((BL.nar u : Int) != (i : Int)) = true := by simp; omega
        clear hn
        go_enter Tryz.func166, Tryz.ntmps166
        go_wp2_with fail
        refine Calls.mono HC.out ?_
        rintro e w' ⟨rfl, p', hi, ho, hd⟩
        have hc := (Wids.only HW.out ho hG) i (by omega)
        have hl := drop_len hi hd
        have HI := hid hi
        have HO := hid ho
        have HD := hid hd
        clear hi ho hd
        go_wp2_with fail
        refine (rbits_any R s p' (BL.wid i) _ HI.out hs hwl (by omega)).mono ?_
        rintro e w2 ⟨rfl, hi2, ho2⟩
        rw [HD.out, HU.out]
        have HN := hid (nar_any u w2 (Wids.only (Wids.only HW.out HO.out hG) ho2 hG) hvl)
        have HI2 := hid hi2
        have HO2 := hid ho2
        have HD2 := hid (show (bitsS s).drop (p' + BL.wid i) = r.drop (BL.wid i) by rw [← List.drop_drop, HD.out])
        clear hi2 ho2
        go_wp2_with fail
        refine Calls.mono HN.out ?_
        rintro e w3 ⟨rfl, rfl⟩
        go_wp2_with fail
        go_ret2
        exact ⟨rfl, p' + BL.wid i, HI2.out, HO.out.trans HO2.out⟩

end Go.Proofs.YtdmnlmohfaafoadGreatDoor
