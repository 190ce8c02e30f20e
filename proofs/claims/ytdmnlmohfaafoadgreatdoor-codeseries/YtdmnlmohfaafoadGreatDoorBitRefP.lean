/- What the document's own answer says of bits: Put and Bytes. -/
import Derived.Test.YtdmnlmohfaafoadGreatDoorBitRef
namespace Go.Proofs.YtdmnlmohfaafoadGreatDoor
open Go.RowKit

theorem repeat_ones (c : Nat) : (⟨(Lib.repeatL [49] c).toArray⟩ : ByteArray) = ltS (List.replicate c true) := by
  unfold ltS
  congr 2
  induction c with
  | zero => rfl
  | succ c ih => rw [Lib.repeatL, ih]; simp [lt, List.replicate_succ]

theorem shl_wid (j : Nat) (hj : j < 6) : IntKind.u64.wrap (2 ^ min (BL.wid j) 64) = 2 ^ BL.wid j := by
  have h : j = 0 ∨ j = 1 ∨ j = 2 ∨ j = 3 ∨ j = 4 ∨ j = 5 := by omega
  rcases h with rfl | rfl | rfl | rfl | rfl | rfl <;> rfl

theorem pow_cast_le (u j : Nat) (h : ¬ u < 2 ^ j) : (2 : Int) ^ j ≤ (u : Int) := by
  have e : (2 : Int) ^ j = ((2 ^ j : Nat) : Int) := by simp
  rw [e]; omega
theorem pow_cast_lt (u j : Nat) (h : u < 2 ^ j) : (u : Int) < (2 : Int) ^ j := by
  have e : (2 : Int) ^ j = ((2 ^ j : Nat) : Int) := by simp
  rw [e]; omega

set_option maxRecDepth 100000 in
set_option maxHeartbeats 800000 in
theorem rput_any (bs : List Bool) (n : Int) (w : World) (hb : bs.length ≤ 900000000) (h1 : -9223372036854775808 ≤ n) (h2 : n ≤ 9223372036854775807) :
    Calls Tryz.prog 62 #[.string (ltS bs), .int .i64 n] w fun e w' =>
      e = .returned (.string (ltS (bs ++ BL.putL (BL.zig n)))) ∧ Below w.heap.size w w' := by
  have hz := BL.zig_lt n h1 h2
  generalize hu : BL.zig n = u at *
  have HU := hid hu
  clear hu
  have HF := hid (BL.fits_wid u hz)
  have hnl := BL.nar_le u
  have HNB := hid (BL.nar_below u)
  generalize ha : BL.nar u = a at *
  have HA := hid ha
  clear ha
  go_enter Tryz.func62, Tryz.ntmps62
  go_wp2_with fail
  refine (rzig_any n _ h1 h2).mono ?_
  rintro e w' ⟨rfl, rfl⟩
  rw [HU.out]
  go_wp2_with fail
  go_loopw [6] (fun t wr => wr = w' ∧ ∃ j : Nat, j ≤ a ∧ t = .int .i64 j) (fun t _ => a - (intOf t).toNat)
  case atStart => exact ⟨rfl, 0, by omega, rfl⟩
  case round =>
    obtain ⟨rfl, j, hj, rfl⟩ := hrel
    by_cases hlt : j < a
    · have h6 : (j : Int) < 6 := by omega
      have hsw := shl_wid j (by omega)
      have hge := pow_cast_le u _ (HNB.out j hlt)
      go_wp2_with fail
      refine (size_any j _ (by omega)).mono ?_
      rintro e w2 ⟨rfl, rfl⟩
      go_wp2_with fail
      go_roundw
      case rel => exact ⟨trivial, j + 1, by omega, by go_num⟩
      case measure => simp [intOf]; omega
    · have he : j = a := by omega
      subst he
      have hsz1 : ¬ 9223372036854775807 < (ltS bs).size + (ltS (List.replicate j true)).size := by rw [ltS_size, ltS_size, List.length_replicate]; omega
      by_cases hj6 : j < 6
      · have h6 : (j : Int) < 6 := by omega
        have hwl := BL.wid_le j
        have hsz2 : ¬ 9223372036854775807 < (ltS bs).size + (ltS (List.replicate j true)).size + 1 := by rw [ltS_size, ltS_size, List.length_replicate]; omega
        have hge : (u : Int) < IntKind.u64.wrap (2 ^ BL.wid j) := by
          have := shl_wid j hj6
          rw [show min (BL.wid j) 64 = BL.wid j by omega] at this
          rw [this]; exact pow_cast_lt u _ HF.out
        go_wp2_with fail
        refine (size_any j _ (by omega)).mono ?_
        rintro e w2 ⟨rfl, rfl⟩
        go_wp2_with fail
        refine (Tryz.strings_Repeat ⟨#[49]⟩ j _ (by omega) (by show 1 * j ≤ _; omega)).mono ?_
        rintro e w3 ⟨rfl, hb3⟩
        have hs3 := hb3.size
        have HB3 := hid hb3
        clear hb3
        rw [show (⟨#[49]⟩ : ByteArray).data.toList = [49] from rfl, repeat_ones]
        go_wp2_with fail
        refine (size_any j _ (by omega)).mono ?_
        rintro e w4 ⟨rfl, rfl⟩
        go_wp2_with fail
        rw [show ltS bs ++ ltS (List.replicate j true) ++ ⟨#[48]⟩ = ltS (bs ++ List.replicate j true ++ [false]) by rw [ltS_append]; exact ltS_append _ [false]]
        refine (radd_any (bs ++ List.replicate j true ++ [false]) u (BL.wid j) _ hz (by simp; omega) (by omega) (by omega)).mono ?_
        rintro e w5 ⟨rfl, hb5⟩
        have HB5 := hid hb5
        clear hb5
        rw [show (min ((BL.wid j : Nat) : Int) 64).toNat = BL.wid j by omega]
        go_wp2_with fail
        go_ret
        refine ⟨?_, HB3.out.trans (HB5.out.mono hs3)⟩
        unfold BL.putL BL.headL
        rw [HA.out, if_pos hj6]
        simp only [List.append_assoc]
        rfl
      · have h6 : j = 6 := by omega
        subst h6
        have hsz3 : ¬ 9223372036854775807 < (ltS bs).size + (ltS [true, true, true, true, true, true]).size := hsz1
        clear hsz1
        go_wp2_with fail
        refine (Tryz.strings_Repeat ⟨#[49]⟩ 6 _ (by omega) (by decide)).mono ?_
        rintro e w3 ⟨rfl, hb3⟩
        have hs3 := hb3.size
        have HB3 := hid hb3
        clear hb3
        rw [show (⟨#[49]⟩ : ByteArray).data.toList = [49] from rfl, repeat_ones]
        go_wp2_with fail
        refine (size_any 6 _ (by omega)).mono ?_
        rintro e w4 ⟨rfl, rfl⟩
        go_wp2_with fail
        rw [ltS_append]
        refine (radd_any (bs ++ List.replicate 6 true) u 64 _ hz (by simp; omega) (by omega) (by omega)).mono ?_
        rintro e w5 ⟨rfl, hb5⟩
        have HB5 := hid hb5
        clear hb5
        go_wp2_with fail
        go_ret
        refine ⟨?_, HB3.out.trans (HB5.out.mono hs3)⟩
        unfold BL.putL BL.headL
        rw [HA.out, if_neg (by omega), List.append_nil]
        rfl

end Go.Proofs.YtdmnlmohfaafoadGreatDoor
