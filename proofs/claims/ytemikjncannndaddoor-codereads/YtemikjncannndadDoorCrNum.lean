/- What a code.Reader's Number, Size and Text tell. -/
import Derived.Test.YtemikjncannndadDoorCrRd
namespace Go.Proofs.YtemikjncannndadDoor
open Go.RowKit

theorem or_byte (x : Int) (b : Nat) (hx : x % 256 = 0) (hb : b < 256) : bits BinOp.or IntKind.i64 x (b : Int) = CL.W (x + b) := by
  obtain ⟨Y, hY⟩ : ∃ Y : Nat, (x % 18446744073709551616).toNat = Y * 256 := ⟨(x % 18446744073709551616).toNat / 256, by omega⟩
  have h1 : (BitVec.ofInt 64 x).toNat = Y * 256 := by
    rw [BitVec.toNat_ofInt, ← hY]
    rfl
  have h2 : (BitVec.ofInt 64 (b : Int)).toNat = b := by
    rw [BitVec.ofInt_natCast, BitVec.toNat_ofNat]; exact Nat.mod_eq_of_lt (by omega)
  show IntKind.i64.wrap ((BitVec.ofInt 64 x ||| BitVec.ofInt 64 (b : Int)).toNat : Int) = _
  rw [BitVec.toNat_or, h1, h2, IntKind.wrap_i64]
  have e2 : Y * 256 ||| b = Y * 256 + b := by
    have := Nat.shiftLeft_add_eq_or_of_lt (i := 8) (b := b) (by omega) Y
    rw [Nat.shiftLeft_eq] at this
    exact this.symm
  rw [e2]
  unfold CL.W
  omega

theorem num_step (V b : Nat) (hb : b < 256) : bits BinOp.or IntKind.i64 (IntKind.i64.wrap (CL.W V * 256)) (b : Int) = CL.W ((V * 256 + b : Nat) : Int) := by
  rw [or_byte _ b (by rw [IntKind.wrap_i64]; omega) hb, IntKind.wrap_i64]
  unfold CL.W
  omega

theorem tN_tK (S : List UInt8) (bad : Bool) : (tN S bad).2.1 = (tK S bad 8).2.1 ∧ (tN S bad).2.2 = (tK S bad 8).2.2 ∧ (((tK S bad 8).2.2 = true ∧ (tN S bad).1 = 0) ∨ ((tK S bad 8).2.2 = false ∧ (tK S bad 8).1.length = 8 ∧ (tN S bad).1 = CL.W (CD.v8 (tK S bad 8).1))) := by
  unfold tN tK CD.rN
  cases bad with
  | true => exact ⟨rfl, rfl, .inl ⟨rfl, rfl⟩⟩
  | false =>
    simp only [Bool.false_eq_true, if_false]
    by_cases h : S.length < 8
    · rw [if_pos h, if_pos h]
      exact ⟨rfl, rfl, .inl ⟨rfl, rfl⟩⟩
    · rw [if_neg h, if_neg h]
      exact ⟨rfl, rfl, .inr ⟨rfl, by rw [List.length_take]; omega, rfl⟩⟩

set_option maxRecDepth 100000 in
theorem pnum_any (br : Nat) (S : List UInt8) (bad : Bool) (w : World) (h : RdI w br S bad) (hS : S.length ≤ 1000000000) :
    Calls Tryd.prog 21 #[.pointer (some ⟨br, 0, none⟩)] w fun e w' => e = .returned (.int .i64 (tN S bad).1) ∧ RdI w' br (tN S bad).2.1 (tN S bad).2.2 ∧ w.grownBy w' (some br) := by
  have HC := hid (take_any br S bad 8 w h hS (by omega))
  obtain ⟨h1, h2, h3⟩ := tN_tK S bad
  rw [h1, h2]
  clear h h1 h2
  generalize (tN S bad).1 = n at *
  generalize tK S bad 8 = O at *
  obtain ⟨T, R, b⟩ := O
  simp only at h3 HC ⊢
  go_enter Tryd.func21, Tryd.ntmps21
  go_wp2_with fail
  refine HC.out.mono ?_
  rintro e w1 ⟨rfl, hI, hG⟩
  have HI := hid hI
  have HG := hid hG
  have HC2 := hid (bad_any br R b w1 hI)
  clear hI hG HC
  go_wp2_with fail
  refine HC2.out.mono ?_
  rintro e w2 ⟨rfl, rfl⟩
  clear HC2
  rcases h3 with ⟨rfl, rfl⟩ | ⟨rfl, hT, hn⟩
  · go_wp2_with fail
    go_ret
    exact ⟨rfl, HI.out, HG.out⟩
  · have HN := hid hn
    clear hn
    go_wp2_with fail
    go_loopw [4, 5, 10] (fun t4 _ ti wr => ∃ (i : Nat) (z : Int), i ≤ 8 ∧ ti = .int .i64 i ∧ t4 = .int .i64 z ∧ z = CL.W (CD.v8 (T.take i)) ∧ wr = w2) (fun _ _ ti _ => 8 - (intOf ti).toNat)
    case atStart => exact ⟨0, 0, by omega, rfl, rfl, by simp [CD.v8, CL.W], rfl⟩
    case round =>
      obtain ⟨i, z, hi, rfl, rfl, hz, rfl⟩ := hrel
      by_cases hlt : i < 8
      · have hix := sb_index T i (by omega)
        have HS := hid (v8_take T i (by omega))
        have hb := UInt8.toNat_lt (T[i]'(by omega))
        generalize (T[i]'(by omega)).toNat = x at *
        have hor := num_step (CD.v8 (T.take i)) x hb
        rw [← hz, ← HS.out] at hor
        have hzr := CL.W_range (CD.v8 (T.take i))
        rw [← hz] at hzr
        clear hz hT
        have HOr := hid hor
        clear hor
        go_wp2_with fail
        refine ⟨⟨i + 1, _, by omega, by go_num, rfl, ?_, by first | rfl | trivial⟩, by simp [intOf]; omega⟩
        rw [W_wrap64, ← W_wrap, HOr.out]
      · have he : i = 8 := by omega
        subst he
        have HZ := hid hz
        have HTk : Hid (T.take 8 = T) := List.take_of_length_le (by omega)
        clear hz hT
        go_wp2_with fail
        go_ret
        refine ⟨ret_int ?_, HI.out, HG.out⟩
        rw [HN.out, HZ.out, HTk.out]

/-- What Size tells, and leaves. -/
def tZ (S : List UInt8) (bad : Bool) (most : Nat) : Int × List UInt8 × Bool :=
  if (tN S bad).2.2 = false ∧ 0 ≤ (tN S bad).1 ∧ (tN S bad).1 ≤ most then ((tN S bad).1, (tN S bad).2.1, false) else (0, (tN S bad).2.1, true)

theorem tN_zero (S : List UInt8) (bad : Bool) (h : (tN S bad).2.2 = true) : (tN S bad).1 = 0 := by
  obtain ⟨_, h2, h3⟩ := tN_tK S bad
  rcases h3 with ⟨_, h3⟩ | ⟨h3, _⟩
  · exact h3
  · rw [h2, h3] at h; cases h

set_option maxRecDepth 100000 in
theorem psize_any (br : Nat) (S : List UInt8) (bad : Bool) (most : Nat) (w : World) (h : RdI w br S bad) (hS : S.length ≤ 1000000000) (_hm : most ≤ 1000000000) :
    Calls Tryd.prog 25 #[.pointer (some ⟨br, 0, none⟩), .int .i64 most] w fun e w' => e = .returned (.int .i64 (tZ S bad most).1) ∧ RdI w' br (tZ S bad most).2.1 (tZ S bad most).2.2 ∧ w.grownBy w' (some br) := by
  have HC := hid (pnum_any br S bad w h hS)
  have HE : Hid (tZ S bad most = if (tN S bad).2.2 = false ∧ 0 ≤ (tN S bad).1 ∧ (tN S bad).1 ≤ most then ((tN S bad).1, (tN S bad).2.1, false) else (0, (tN S bad).2.1, true)) := rfl
  have hzero := tN_zero S bad
  clear h
  generalize tZ S bad most = O at *
  generalize tN S bad = Q at *
  obtain ⟨n, R, b⟩ := Q
  simp only at HE HC hzero
  go_enter Tryd.func25, Tryd.ntmps25
  go_wp2_with fail
  refine HC.out.mono ?_
  rintro e w1 ⟨rfl, hI, hG⟩
  have HI := hid hI
  have HG := hid hG
  obtain ⟨c0, c1, f0, f1⟩ := hI.c
  have HC2 := hid (bad_any br R b w1 hI)
  clear hI hG HC
  go_wp2_with fail
  refine HC2.out.mono ?_
  rintro e w2 ⟨rfl, rfl⟩
  clear HC2
  cases b with
  | true =>
    have HE2 : Hid (O = (0, R, true)) := by
      show _ = _
      rw [HE.out, if_neg (by rintro ⟨h, _⟩; cases h)]
    clear HE hzero
    go_wp2_with fail
    go_ret
    rw [HE2.out]
    exact ⟨rfl, HI.out, HG.out⟩
  | false =>
    have HQ : Hid (RdI (w2.setCell ⟨br, 1, none⟩ (.bool true)) br R true ∧ w.grownBy (w2.setCell ⟨br, 1, none⟩ (.bool true)) (some br)) := ⟨HI.out.s1 true, HG.out.trans (tgrown _ _ _ _)⟩
    clear hzero
    by_cases hr : 0 ≤ n ∧ n ≤ most
    · have hr1 : ¬ n < 0 := by omega
      have hr2 : ¬ (most : Int) < n := by omega
      have HE2 : Hid (O = (n, R, false)) := by
        show _ = _
        rw [HE.out, if_pos ⟨rfl, hr.1, hr.2⟩]
      clear HE hr
      go_wp2_with fail
      go_ret
      rw [HE2.out]
      exact ⟨rfl, HI.out, HG.out⟩
    · have HE2 : Hid (O = (0, R, true)) := by
        show _ = _
        rw [HE.out, if_neg (fun h => hr h.2)]
      clear HE
      by_cases h0 : n < 0
      · clear hr
        go_wp2_with fail
        go_ret
        rw [HE2.out]
        exact ⟨rfl, HQ.out⟩
      · have hr2 : (most : Int) < n := by omega
        clear hr
        go_wp2_with fail
        go_ret
        rw [HE2.out]
        exact ⟨rfl, HQ.out⟩

theorem tT_tZ (S : List UInt8) (bad : Bool) : ∃ k : Nat, (tZ S bad (leftN S bad)).1 = k ∧ k ≤ S.length ∧ tT S bad = tK (tZ S bad (leftN S bad)).2.1 (tZ S bad (leftN S bad)).2.2 k := by
  unfold tZ tT
  have hl := tN_len S bad
  cases bad with
  | true => exact ⟨0, by rw [tN_bad]; rfl, by omega, by rw [tN_bad]; rfl⟩
  | false =>
    have hlf : leftN S false = S.length := rfl
    rw [hlf]
    generalize tN S false = O at *
    obtain ⟨n, R, b⟩ := O
    simp only at hl ⊢
    cases b with
    | true =>
      rw [if_neg (by rintro ⟨h, _⟩; cases h), if_neg (by rintro ⟨h, _⟩; cases h)]
      exact ⟨0, rfl, by omega, rfl⟩
    | false =>
      by_cases h0 : 0 ≤ n
      · by_cases h1 : n ≤ R.length
        · rw [if_pos ⟨rfl, h0, by omega⟩, if_pos ⟨rfl, h0, h1⟩]
          refine ⟨n.toNat, by show n = _; omega, by omega, ?_⟩
          unfold tK
          rw [if_neg (by simp), if_neg (by show ¬ R.length < n.toNat; omega)]
        · rw [if_neg (show ¬ (false = false ∧ 0 ≤ n ∧ n ≤ (R.length : Int)) from fun h => h1 h.2.2)]
          by_cases h2 : n ≤ (S.length : Int)
          · rw [if_pos ⟨rfl, h0, h2⟩]
            refine ⟨n.toNat, by show n = _; omega, by omega, ?_⟩
            unfold tK
            rw [if_neg (by simp), if_pos (by show R.length < n.toNat; omega)]
          · rw [if_neg (fun h => h2 h.2.2)]
            exact ⟨0, rfl, by omega, rfl⟩
      · rw [if_neg (fun h => h0 h.2.1), if_neg (fun h => h0 h.2.1)]
        exact ⟨0, rfl, by omega, rfl⟩

theorem tZ_len (S : List UInt8) (bad : Bool) (most : Nat) : (tZ S bad most).2.1.length ≤ S.length := by
  unfold tZ
  have := tN_len S bad
  split <;> exact this

set_option maxRecDepth 100000 in
theorem ptxt_any (br : Nat) (S : List UInt8) (bad : Bool) (w : World) (h : RdI w br S bad) (hS : S.length ≤ 1000000000) :
    Calls Tryd.prog 23 #[.pointer (some ⟨br, 0, none⟩)] w fun e w' => e = .returned (.string (sb (tT S bad).1)) ∧ RdI w' br (tT S bad).2.1 (tT S bad).2.2 ∧ w.grownBy w' (some br) := by
  obtain ⟨k, hk1, hk2, hk3⟩ := tT_tZ S bad
  have hlf : leftN S bad ≤ 1000000000 := by unfold leftN; split <;> omega
  have HC1 := hid (rest_any br S bad w h)
  have HC2 := hid (psize_any br S bad (leftN S bad) w h hS hlf)
  have hzl := tZ_len S bad (leftN S bad)
  rw [hk1] at HC2
  rw [hk3]
  clear h hk1 hk3
  generalize leftN S bad = lf at *
  generalize tZ S bad lf = O at *
  obtain ⟨n, R, b⟩ := O
  simp only at HC2 hzl ⊢
  have htl : (tK R b k).1.length ≤ 1000000000 := by
    unfold tK
    split
    · simp
    · split
      · simp
      · show (R.take k).length ≤ _
        rw [List.length_take]
        omega
  have HTL := hid htl
  clear htl
  go_enter Tryd.func23, Tryd.ntmps23
  go_wp2_with fail
  refine HC1.out.mono ?_
  rintro e w1 ⟨rfl, rfl⟩
  clear HC1
  go_wp2_with fail
  refine HC2.out.mono ?_
  rintro e w2 ⟨rfl, hI, hG⟩
  have HC3 := hid (take_any br R b k w2 hI (by omega) (by omega))
  have HG := hid hG
  clear hI hG HC2
  generalize hO : tK R b k = O at *
  obtain ⟨T, R', b'⟩ := O
  simp only at HC3 HTL
  have HO := hid hO
  clear hO
  go_wp2_with fail
  refine HC3.out.mono ?_
  rintro e w3 ⟨rfl, hI, hG⟩
  have HC4 := hid (clone_any (sb T) w3 (by rw [sb_size]; have := HTL.out; omega))
  have HI := hid hI
  have HG3 := hid (HG.out.trans hG)
  clear hI hG HC3
  go_wp2_with fail
  refine HC4.out.mono ?_
  rintro e w4 ⟨rfl, hb⟩
  have HB := hid hb
  clear hb
  go_wp2_with fail
  go_ret
  rw [HO.out]
  refine ⟨rfl, HI.out.below HB.out, HG3.out.trans ⟨HB.out.os, HB.out.tape, HB.out.output, HB.out.size, fun j hj _ => HB.out.block j hj⟩⟩

end Go.Proofs.YtemikjncannndadDoor
