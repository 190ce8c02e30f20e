/- A code.Reader in memory; what its methods tell, and what code.ReadSeries tells. -/
import Derived.Test.YtdmnlmohfaafoadGreatDoorCdMem
import Derived.Test.YtdmnlmohfaafoadGreatDoorCdCont
import Derived.Test.YtdmnlmohfaafoadGreatDoorShelfC
import Derived.Test.YtdmnlmohfaafoadGreatDoorCxRight
import Derived.Test.YtdmnlmohfaafoadGreatDoorChRead
namespace Go.Proofs.YtdmnlmohfaafoadGreatDoor
open Go.RowKit

/-- A Reader in block br: what is left, and whether it is bad. -/
def RdI (w : World) (br : Nat) (S : List UInt8) (bad : Bool) : Prop := w.heap[br]? = some (.cells #[.string (sb S), .bool bad] 141)

theorem RdI.c {w : World} {br : Nat} {S : List UInt8} {bad : Bool} (h : RdI w br S bad) : w.cell? ⟨br, 0, none⟩ = some (.string (sb S)) ∧ w.cell? ⟨br, 1, none⟩ = some (.bool bad) ∧ w.frozen? ⟨br, 0, none⟩ = false ∧ w.frozen? ⟨br, 1, none⟩ = false := by
  have h' : w.heap[br]? = some (.cells #[.string (sb S), .bool bad] 141) := h
  refine ⟨?_, ?_, ?_, ?_⟩ <;> simp [World.cell?, World.frozen?, h']

theorem RdI.s0 {w : World} {br : Nat} {S : List UInt8} {bad : Bool} (h : RdI w br S bad) (S' : List UInt8) : RdI (w.setCell ⟨br, 0, none⟩ (.string (sb S'))) br S' bad := by
  show _ = _
  rw [heap_setCell_same w br 0 _ _ _ h]; rfl

theorem RdI.s1 {w : World} {br : Nat} {S : List UInt8} {bad : Bool} (h : RdI w br S bad) (b : Bool) : RdI (w.setCell ⟨br, 1, none⟩ (.bool b)) br S b := by
  show _ = _
  rw [heap_setCell_same w br 1 _ _ _ h]; rfl

theorem RdI.below {w w' : World} {br : Nat} {S : List UInt8} {bad : Bool} (h : RdI w br S bad) (hb : Below w.heap.size w w') : RdI w' br S bad := (hb.block br (heap_lt h)).trans h

theorem bad_any (br : Nat) (S : List UInt8) (bad : Bool) (w : World) (h : RdI w br S bad) :
    Calls Tryz.prog 78 #[.pointer (some ⟨br, 0, none⟩)] w fun e w' => e = .returned (.bool bad) ∧ w' = w := by
  obtain ⟨c0, c1, f0, f1⟩ := h.c
  clear h
  go_enter Tryz.func78, Tryz.ntmps78
  go_wp2_with fail
  go_ret
  exact ⟨rfl, rfl⟩

/-- How many bytes may still be taken. -/
def leftN (S : List UInt8) (bad : Bool) : Nat := if bad then 0 else S.length

theorem rest_any (br : Nat) (S : List UInt8) (bad : Bool) (w : World) (h : RdI w br S bad) :
    Calls Tryz.prog 76 #[.pointer (some ⟨br, 0, none⟩)] w fun e w' => e = .returned (.int .i64 (leftN S bad)) ∧ w' = w := by
  obtain ⟨c0, c1, f0, f1⟩ := h.c
  have HC := hid (bad_any br S bad w h)
  have HZ := hid (sb_size S)
  clear h
  go_enter Tryz.func76, Tryz.ntmps76
  go_wp2_with fail
  refine HC.out.mono ?_
  rintro e w1 ⟨rfl, rfl⟩
  cases bad with
  | true =>
    go_wp2_with fail
    go_ret
    exact ⟨rfl, rfl⟩
  | false =>
    go_wp2_with fail
    go_ret
    exact ⟨ret_int (by rw [HZ.out]; rfl), rfl⟩

theorem done_any (br : Nat) (S : List UInt8) (bad : Bool) (w : World) (h : RdI w br S bad) :
    Calls Tryz.prog 42 #[.pointer (some ⟨br, 0, none⟩)] w fun e w' => e = .returned (.bool (!bad && decide (S = []))) ∧ w' = w := by
  have HC := hid (bad_any br S bad w h)
  have HC2 := hid (rest_any br S bad w h)
  clear h
  go_enter Tryz.func42, Tryz.ntmps42
  go_wp2_with fail
  refine HC.out.mono ?_
  rintro e w1 ⟨rfl, rfl⟩
  cases bad with
  | true =>
    go_wp2_with fail
    go_ret
    exact ⟨rfl, rfl⟩
  | false =>
    go_wp2_with fail
    refine HC2.out.mono ?_
    rintro e w1 ⟨rfl, rfl⟩
    go_wp2_with fail
    go_ret
    refine ⟨ret_bool ?_, rfl⟩
    cases S with
    | nil => rfl
    | cons x S =>
      simp [leftN]
      try omega

/-- What take tells, and leaves. -/
def tK (S : List UInt8) (bad : Bool) (k : Nat) : List UInt8 × List UInt8 × Bool := if bad then ([], S, true) else if S.length < k then ([], S, true) else (S.take k, S.drop k, false)

set_option maxRecDepth 100000 in
theorem take_any (br : Nat) (S : List UInt8) (bad : Bool) (k : Nat) (w : World) (h : RdI w br S bad) (_hS : S.length ≤ 1000000000) (_hk : k ≤ 1000000000) :
    Calls Tryz.prog 138 #[.pointer (some ⟨br, 0, none⟩), .int .i64 k] w fun e w' => e = .returned (.string (sb (tK S bad k).1)) ∧ RdI w' br (tK S bad k).2.1 (tK S bad k).2.2 ∧ w.grownBy w' (some br) := by
  obtain ⟨c0, c1, f0, f1⟩ := h.c
  have HC := hid (bad_any br S bad w h)
  have hz := sb_size S
  have HI := hid h
  clear h
  cases bad with
  | true =>
    go_enter Tryz.func138, Tryz.ntmps138
    go_wp2_with fail
    refine HC.out.mono ?_
    rintro e w1 ⟨rfl, rfl⟩
    go_wp2_with fail
    go_ret
    exact ⟨rfl, HI.out, World.grownBy.refl _ _⟩
  | false =>
    by_cases hlt : S.length < k
    · have hlt' : ((sb S).size : Int) < (k : Int) := by omega
      have HE : Hid (tK S false k = ([], S, true)) := by
        show _ = _
        unfold tK
        rw [if_neg (by decide), if_pos hlt]
      have HQ : Hid (RdI (w.setCell ⟨br, 1, none⟩ (.bool true)) br S true) := HI.out.s1 true
      generalize tK S false k = O at *
      clear hz
      go_enter Tryz.func138, Tryz.ntmps138
      go_wp2_with fail
      refine HC.out.mono ?_
      rintro e w1 ⟨rfl, rfl⟩
      go_wp2_with fail
      go_ret
      rw [HE.out]
      exact ⟨rfl, HQ.out, tgrown _ _ _ _⟩
    · have hlt' : ¬ ((sb S).size : Int) < (k : Int) := by omega
      have hkz : k ≤ (sb S).size := by omega
      have hx1 := sb_take S k
      have hx2 := sb_drop S k (by omega)
      have HE : Hid (tK S false k = (S.take k, S.drop k, false)) := by
        show _ = _
        unfold tK
        rw [if_neg (by decide), if_neg hlt]
      have HQ : Hid (RdI (w.setCell ⟨br, 0, none⟩ (.string (sb (S.drop k)))) br (S.drop k) false) := HI.out.s0 _
      generalize tK S false k = O at *
      clear hz
      go_enter Tryz.func138, Tryz.ntmps138
      go_wp2_with fail
      refine HC.out.mono ?_
      rintro e w1 ⟨rfl, rfl⟩
      go_wp2_with fail
      go_ret
      rw [HE.out]
      exact ⟨rfl, HQ.out, tgrown _ _ _ _⟩

theorem or_byte (x : Int) (b : Nat) (hx : x % 256 = 0) (hb : b < 256) : bits BinOp.or IntKind.i64 x (b : Int) = CL.W (x + b) := by
  obtain ⟨Y, hY⟩ : ∃ Y : Nat, (x % 18446744073709551616).toNat = Y * 256 := ⟨(x % 18446744073709551616).toNat / 256, by omega⟩
  have h1 : (BitVec.ofInt 64 x).toNat = Y * 256 := by
    rw [BitVec.toNat_ofInt, ← hY]
    rfl
  have h2 : (BitVec.ofInt 64 (b : Int)).toNat = b := by
    rw [BitVec.ofInt_natCast, BitVec.toNat_ofNat]; exact Nat.mod_eq_of_lt (by omega)
  show IntKind.i64.wrap ((BitVec.ofInt 64 x ||| BitVec.ofInt 64 (b : Int)).toNat : Int) = _
  rw [BitVec.toNat_or, h1, h2, IntKind.wrap_i64]
  have e2 : Y * 256 ||| b = Y * 256 + b := by
    have := Nat.shiftLeft_add_eq_or_of_lt (i := 8) (b := b) (by omega) Y
    rw [Nat.shiftLeft_eq] at this
    exact this.symm
  rw [e2]
  unfold CL.W
  omega

theorem num_step (V b : Nat) (hb : b < 256) : bits BinOp.or IntKind.i64 (IntKind.i64.wrap (CL.W V * 256)) (b : Int) = CL.W ((V * 256 + b : Nat) : Int) := by
  rw [or_byte _ b (by rw [IntKind.wrap_i64]; omega) hb, IntKind.wrap_i64]
  unfold CL.W
  omega

theorem tN_tK (S : List UInt8) (bad : Bool) : (tN S bad).2.1 = (tK S bad 8).2.1 ∧ (tN S bad).2.2 = (tK S bad 8).2.2 ∧ (((tK S bad 8).2.2 = true ∧ (tN S bad).1 = 0) ∨ ((tK S bad 8).2.2 = false ∧ (tK S bad 8).1.length = 8 ∧ (tN S bad).1 = CL.W (CD.v8 (tK S bad 8).1))) := by
  unfold tN tK CD.rN
  cases bad with
  | true => exact ⟨rfl, rfl, .inl ⟨rfl, rfl⟩⟩
  | false =>
    simp only [Bool.false_eq_true, if_false]
    by_cases h : S.length < 8
    · rw [if_pos h, if_pos h]
      exact ⟨rfl, rfl, .inl ⟨rfl, rfl⟩⟩
    · rw [if_neg h, if_neg h]
      exact ⟨rfl, rfl, .inr ⟨rfl, by rw [List.length_take]; omega, rfl⟩⟩

set_option maxRecDepth 100000 in
theorem pnum_any (br : Nat) (S : List UInt8) (bad : Bool) (w : World) (h : RdI w br S bad) (hS : S.length ≤ 1000000000) :
    Calls Tryz.prog 109 #[.pointer (some ⟨br, 0, none⟩)] w fun e w' => e = .returned (.int .i64 (tN S bad).1) ∧ RdI w' br (tN S bad).2.1 (tN S bad).2.2 ∧ w.grownBy w' (some br) := by
  have HC := hid (take_any br S bad 8 w h hS (by omega))
  obtain ⟨h1, h2, h3⟩ := tN_tK S bad
  rw [h1, h2]
  clear h h1 h2
  generalize (tN S bad).1 = n at *
  generalize tK S bad 8 = O at *
  obtain ⟨T, R, b⟩ := O
  simp only at h3 HC ⊢
  go_enter Tryz.func109, Tryz.ntmps109
  go_wp2_with fail
  refine HC.out.mono ?_
  rintro e w1 ⟨rfl, hI, hG⟩
  have HI := hid hI
  have HG := hid hG
  have HC2 := hid (bad_any br R b w1 hI)
  clear hI hG HC
  go_wp2_with fail
  refine HC2.out.mono ?_
  rintro e w2 ⟨rfl, rfl⟩
  clear HC2
  rcases h3 with ⟨rfl, rfl⟩ | ⟨rfl, hT, hn⟩
  · go_wp2_with fail
    go_ret
    exact ⟨rfl, HI.out, HG.out⟩
  · have HN := hid hn
    clear hn
    go_wp2_with fail
    go_loopw [4, 5, 10] (fun t4 _ ti wr => ∃ (i : Nat) (z : Int), i ≤ 8 ∧ ti = .int .i64 i ∧ t4 = .int .i64 z ∧ z = CL.W (CD.v8 (T.take i)) ∧ wr = w2) (fun _ _ ti _ => 8 - (intOf ti).toNat)
    case atStart => exact ⟨0, 0, by omega, rfl, rfl, by simp [CD.v8, CL.W], rfl⟩
    case round =>
      obtain ⟨i, z, hi, rfl, rfl, hz, rfl⟩ := hrel
      by_cases hlt : i < 8
      · have hix := sb_index T i (by omega)
        have HS := hid (v8_take T i (by omega))
        have hb := UInt8.toNat_lt (T[i]'(by omega))
        generalize (T[i]'(by omega)).toNat = x at *
        have hor := num_step (CD.v8 (T.take i)) x hb
        rw [← hz, ← HS.out] at hor
        have hzr := CL.W_range (CD.v8 (T.take i))
        rw [← hz] at hzr
        clear hz hT
        have HOr := hid hor
        clear hor
        go_wp2_with fail
        refine ⟨⟨i + 1, _, by omega, by go_num, rfl, ?_, by first | rfl | trivial⟩, by simp [intOf]; omega⟩
        rw [W_wrap64, ← W_wrap, HOr.out]
      · have he : i = 8 := by omega
        subst he
        have HZ := hid hz
        have HTk : Hid (T.take 8 = T) := List.take_of_length_le (by omega)
        clear hz hT
        go_wp2_with fail
        go_ret
        refine ⟨ret_int ?_, HI.out, HG.out⟩
        rw [HN.out, HZ.out, HTk.out]

/-- What Size tells, and leaves. -/
def tZ (S : List UInt8) (bad : Bool) (most : Nat) : Int × List UInt8 × Bool :=
  if (tN S bad).2.2 = false ∧ 0 ≤ (tN S bad).1 ∧ (tN S bad).1 ≤ most then ((tN S bad).1, (tN S bad).2.1, false) else (0, (tN S bad).2.1, true)

theorem tN_zero (S : List UInt8) (bad : Bool) (h : (tN S bad).2.2 = true) : (tN S bad).1 = 0 := by
  obtain ⟨_, h2, h3⟩ := tN_tK S bad
  rcases h3 with ⟨_, h3⟩ | ⟨h3, _⟩
  · exact h3
  · rw [h2, h3] at h; cases h

set_option maxRecDepth 100000 in
theorem psize_any (br : Nat) (S : List UInt8) (bad : Bool) (most : Nat) (w : World) (h : RdI w br S bad) (hS : S.length ≤ 1000000000) (_hm : most ≤ 1000000000) :
    Calls Tryz.prog 75 #[.pointer (some ⟨br, 0, none⟩), .int .i64 most] w fun e w' => e = .returned (.int .i64 (tZ S bad most).1) ∧ RdI w' br (tZ S bad most).2.1 (tZ S bad most).2.2 ∧ w.grownBy w' (some br) := by
  have HC := hid (pnum_any br S bad w h hS)
  have HE : Hid (tZ S bad most = if (tN S bad).2.2 = false ∧ 0 ≤ (tN S bad).1 ∧ (tN S bad).1 ≤ most then ((tN S bad).1, (tN S bad).2.1, false) else (0, (tN S bad).2.1, true)) := rfl
  have hzero := tN_zero S bad
  clear h
  generalize tZ S bad most = O at *
  generalize tN S bad = Q at *
  obtain ⟨n, R, b⟩ := Q
  simp only at HE HC hzero
  go_enter Tryz.func75, Tryz.ntmps75
  go_wp2_with fail
  refine HC.out.mono ?_
  rintro e w1 ⟨rfl, hI, hG⟩
  have HI := hid hI
  have HG := hid hG
  obtain ⟨c0, c1, f0, f1⟩ := hI.c
  have HC2 := hid (bad_any br R b w1 hI)
  clear hI hG HC
  go_wp2_with fail
  refine HC2.out.mono ?_
  rintro e w2 ⟨rfl, rfl⟩
  clear HC2
  cases b with
  | true =>
    have HE2 : Hid (O = (0, R, true)) := by
      show _ = _
      rw [HE.out, if_neg (by rintro ⟨h, _⟩; cases h)]
    clear HE hzero
    go_wp2_with fail
    go_ret
    rw [HE2.out]
    exact ⟨rfl, HI.out, HG.out⟩
  | false =>
    have HQ : Hid (RdI (w2.setCell ⟨br, 1, none⟩ (.bool true)) br R true ∧ w.grownBy (w2.setCell ⟨br, 1, none⟩ (.bool true)) (some br)) := ⟨HI.out.s1 true, HG.out.trans (tgrown _ _ _ _)⟩
    clear hzero
    by_cases hr : 0 ≤ n ∧ n ≤ most
    · have hr1 : ¬ n < 0 := by omega
      have hr2 : ¬ (most : Int) < n := by omega
      have HE2 : Hid (O = (n, R, false)) := by
        show _ = _
        rw [HE.out, if_pos ⟨rfl, hr.1, hr.2⟩]
      clear HE hr
      go_wp2_with fail
      go_ret
      rw [HE2.out]
      exact ⟨rfl, HI.out, HG.out⟩
    · have HE2 : Hid (O = (0, R, true)) := by
        show _ = _
        rw [HE.out, if_neg (fun h => hr h.2)]
      clear HE
      by_cases h0 : n < 0
      · clear hr
        go_wp2_with fail
        go_ret
        rw [HE2.out]
        exact ⟨rfl, HQ.out⟩
      · have hr2 : (most : Int) < n := by omega
        clear hr
        go_wp2_with fail
        go_ret
        rw [HE2.out]
        exact ⟨rfl, HQ.out⟩

theorem tT_tZ (S : List UInt8) (bad : Bool) : ∃ k : Nat, (tZ S bad (leftN S bad)).1 = k ∧ k ≤ S.length ∧ tT S bad = tK (tZ S bad (leftN S bad)).2.1 (tZ S bad (leftN S bad)).2.2 k := by
  unfold tZ tT
  have hl := tN_len S bad
  cases bad with
  | true => exact ⟨0, by rw [tN_bad]; rfl, by omega, by rw [tN_bad]; rfl⟩
  | false =>
    have hlf : leftN S false = S.length := rfl
    rw [hlf]
    generalize tN S false = O at *
    obtain ⟨n, R, b⟩ := O
    simp only at hl ⊢
    cases b with
    | true =>
      rw [if_neg (by rintro ⟨h, _⟩; cases h), if_neg (by rintro ⟨h, _⟩; cases h)]
      exact ⟨0, rfl, by omega, rfl⟩
    | false =>
      by_cases h0 : 0 ≤ n
      · by_cases h1 : n ≤ R.length
        · rw [if_pos ⟨rfl, h0, by omega⟩, if_pos ⟨rfl, h0, h1⟩]
          refine ⟨n.toNat, by show n = _; omega, by omega, ?_⟩
          unfold tK
          rw [if_neg (by simp), if_neg (by show ¬ R.length < n.toNat; omega)]
        · rw [if_neg (show ¬ (false = false ∧ 0 ≤ n ∧ n ≤ (R.length : Int)) from fun h => h1 h.2.2)]
          by_cases h2 : n ≤ (S.length : Int)
          · rw [if_pos ⟨rfl, h0, h2⟩]
            refine ⟨n.toNat, by show n = _; omega, by omega, ?_⟩
            unfold tK
            rw [if_neg (by simp), if_pos (by show R.length < n.toNat; omega)]
          · rw [if_neg (fun h => h2 h.2.2)]
            exact ⟨0, rfl, by omega, rfl⟩
      · rw [if_neg (fun h => h0 h.2.1), if_neg (fun h => h0 h.2.1)]
        exact ⟨0, rfl, by omega, rfl⟩

theorem tZ_len (S : List UInt8) (bad : Bool) (most : Nat) : (tZ S bad most).2.1.length ≤ S.length := by
  unfold tZ
  have := tN_len S bad
  split <;> exact this

set_option maxRecDepth 100000 in
theorem ptxt_any (br : Nat) (S : List UInt8) (bad : Bool) (w : World) (h : RdI w br S bad) (hS : S.length ≤ 1000000000) :
    Calls Tryz.prog 111 #[.pointer (some ⟨br, 0, none⟩)] w fun e w' => e = .returned (.string (sb (tT S bad).1)) ∧ RdI w' br (tT S bad).2.1 (tT S bad).2.2 ∧ w.grownBy w' (some br) := by
  obtain ⟨k, hk1, hk2, hk3⟩ := tT_tZ S bad
  have hlf : leftN S bad ≤ 1000000000 := by unfold leftN; split <;> omega
  have HC1 := hid (rest_any br S bad w h)
  have HC2 := hid (psize_any br S bad (leftN S bad) w h hS hlf)
  have hzl := tZ_len S bad (leftN S bad)
  rw [hk1] at HC2
  rw [hk3]
  clear h hk1 hk3
  generalize leftN S bad = lf at *
  generalize tZ S bad lf = O at *
  obtain ⟨n, R, b⟩ := O
  simp only at HC2 hzl ⊢
  have htl : (tK R b k).1.length ≤ 1000000000 := by
    unfold tK
    split
    · simp
    · split
      · simp
      · show (R.take k).length ≤ _
        rw [List.length_take]
        omega
  have HTL := hid htl
  clear htl
  go_enter Tryz.func111, Tryz.ntmps111
  go_wp2_with fail
  refine HC1.out.mono ?_
  rintro e w1 ⟨rfl, rfl⟩
  clear HC1
  go_wp2_with fail
  refine HC2.out.mono ?_
  rintro e w2 ⟨rfl, hI, hG⟩
  have HC3 := hid (take_any br R b k w2 hI (by omega) (by omega))
  have HG := hid hG
  clear hI hG HC2
  generalize hO : tK R b k = O at *
  obtain ⟨T, R', b'⟩ := O
  simp only at HC3 HTL
  have HO := hid hO
  clear hO
  go_wp2_with fail
  refine HC3.out.mono ?_
  rintro e w3 ⟨rfl, hI, hG⟩
  have HC4 := hid (clone_any (sb T) w3 (by rw [sb_size]; have := HTL.out; omega))
  have HI := hid hI
  have HG3 := hid (HG.out.trans hG)
  clear hI hG HC3
  go_wp2_with fail
  refine HC4.out.mono ?_
  rintro e w4 ⟨rfl, hb⟩
  have HB := hid hb
  clear hb
  go_wp2_with fail
  go_ret
  rw [HO.out]
  refine ⟨rfl, HI.out.below HB.out, HG3.out.trans ⟨HB.out.os, HB.out.tape, HB.out.output, HB.out.size, fun j hj _ => HB.out.block j hj⟩⟩

/-- Labels, read. -/
def rLs (S : List UInt8) : Option (List CD.Lb × List UInt8) := match CD.rN S with
  | none => none
  | some (k, r1) => if 0 ≤ k ∧ k ≤ 8 then (match CD.rL k.toNat r1 with
      | none => none
      | some (l, r2) => if lbK l then some (l, r2) else none) else none

theorem rLs_none1 {S : List UInt8} (h : CD.rN S = none) : rLs S = none := by unfold rLs; rw [h]

theorem rLs_none2 {S r1 : List UInt8} {k : Int} (h : CD.rN S = some (k, r1)) (hk : ¬ (0 ≤ k ∧ k ≤ 8)) : rLs S = none := by
  unfold rLs
  rw [h]
  dsimp only
  rw [if_neg hk]

theorem rLs_none3 {S r1 : List UInt8} {k : Nat} (h : CD.rN S = some ((k : Int), r1)) (h2 : CD.rL k r1 = none) : rLs S = none := by
  have e : ((k : Int)).toNat = k := by omega
  unfold rLs
  rw [h]
  dsimp only
  rw [e, h2]
  split <;> rfl

theorem rLs_none4 {S r1 r2 : List UInt8} {k : Nat} {l : List CD.Lb} (h : CD.rN S = some ((k : Int), r1)) (h2 : CD.rL k r1 = some (l, r2)) (h3 : lbK l = false) : rLs S = none := by
  have e : ((k : Int)).toNat = k := by omega
  unfold rLs
  rw [h]
  dsimp only
  rw [e, h2]
  dsimp only
  rw [h3]
  split <;> rfl

theorem rLs_ok {S r1 r2 : List UInt8} {k : Nat} {l : List CD.Lb} (hk : k ≤ 8) (h : CD.rN S = some ((k : Int), r1)) (h2 : CD.rL k r1 = some (l, r2)) (h3 : lbK l = true) : rLs S = some (l, r2) := by
  have e : ((k : Int)).toNat = k := by omega
  unfold rLs
  rw [h]
  dsimp only
  rw [if_pos (by omega), e, h2]
  dsimp only
  rw [if_pos h3]

/-- A Reader's block is of no other kind. -/
theorem rd_ne {w : World} {br g : Nat} {S : List UInt8} {bad : Bool} {c : Array Value} {e : TypeId} (ht : RdI w br S bad) (hg : w.heap[g]? = some (Obj.cells c e)) (hgb : g = br) (he : 141 ≠ e) : False := by
  subst hgb
  have ht' : w.heap[g]? = some (.cells #[.string (sb S), .bool bad] 141) := ht
  rw [ht'] at hg
  have := Option.some.inj hg
  simp only [Obj.cells.injEq] at this
  exact he this.2.1

/-- A text is taken, told by what it is. -/
theorem tT_is (S : List UInt8) (bad : Bool) : ∃ a R b, tT S bad = (a, R, b) ∧ R.length ≤ S.length ∧ a.length ≤ S.length ∧ ((b = false ∧ bad = false ∧ CD.rT S = some (a, R)) ∨ (b = true ∧ a = [] ∧ (bad = true ∨ CD.rT S = none))) := by
  cases bad with
  | true => exact ⟨_, _, _, tT_bad S, Nat.le_refl _, by simp, .inr ⟨rfl, rfl, .inl rfl⟩⟩
  | false =>
    cases hr : CD.rT S with
    | none =>
      obtain ⟨S', h1, h2⟩ := tT_none hr
      exact ⟨_, _, _, h1, h2, by simp, .inr ⟨rfl, rfl, .inr rfl⟩⟩
    | some p =>
      obtain ⟨t, r⟩ := p
      have h2 := CD.rT_len hr
      exact ⟨t, r, false, tT_some hr, by omega, by omega, .inl ⟨rfl, rfl, rfl⟩⟩

/-- A number from 0 to so much, told by what it is. -/
theorem tZ_is (S : List UInt8) (most : Nat) : ∃ (k : Nat) (R : List UInt8) (b : Bool), tZ S false most = ((k : Int), R, b) ∧ k ≤ most ∧ R.length ≤ S.length ∧ ((b = false ∧ CD.rN S = some ((k : Int), R)) ∨ (b = true ∧ k = 0 ∧ (CD.rN S = none ∨ ∃ n r, CD.rN S = some (n, r) ∧ ¬ (0 ≤ n ∧ n ≤ (most : Int))))) := by
  unfold tZ
  cases hr : CD.rN S with
  | none =>
    rw [tN_none hr, if_neg (by rintro ⟨h, _⟩; cases h)]
    exact ⟨0, S, true, rfl, by omega, Nat.le_refl _, .inr ⟨rfl, rfl, .inl rfl⟩⟩
  | some p =>
    obtain ⟨n, r⟩ := p
    have hl := rN_len hr
    rw [tN_some hr]
    by_cases h : 0 ≤ n ∧ n ≤ (most : Int)
    · obtain ⟨k, rfl⟩ : ∃ k : Nat, n = k := ⟨n.toNat, by omega⟩
      rw [if_pos ⟨rfl, h.1, h.2⟩]
      exact ⟨k, r, false, rfl, by omega, by omega, .inl ⟨rfl, rfl⟩⟩
    · rw [if_neg (fun h' => h h'.2)]
      exact ⟨0, r, true, rfl, by omega, by omega, .inr ⟨rfl, rfl, .inr ⟨n, r, rfl, h⟩⟩⟩

/-- What Labels tells. -/
def LabEnd (w : World) (br : Nat) (S : List UInt8) (e : Ending) (w' : World) : Prop :=
  But br w w' ∧ ((∃ l r v, rLs S = some (l, r) ∧ e = .returned v ∧ RdI w' br r false ∧ OwnLb w' w.heap.size v (toLab l) ∧ r.length ≤ S.length) ∨ (rLs S = none ∧ e = .returned (.slice none 0 0) ∧ ∃ S', RdI w' br S' true ∧ S'.length ≤ S.length))

set_option maxRecDepth 100000 in
set_option maxHeartbeats 800000 in
theorem plabels_any (br : Nat) (S : List UInt8) (w : World) (h : RdI w br S false) (hS : S.length ≤ 5000000) :
    Calls Tryz.prog 110 #[.pointer (some ⟨br, 0, none⟩)] w fun e w' => LabEnd w br S e w' := by
  have HC := psize_any br S false 8 w h (by omega) (by omega)
  obtain ⟨k, R, b, hZ, hk8, hRl, hst0⟩ := tZ_is S 8
  rw [hZ] at HC
  have HC := hid HC
  have hbr := heap_lt h
  have hst : (b = false ∧ CD.rN S = some ((k : Int), R)) ∨ (b = true ∧ k = 0 ∧ rLs S = none) := by
    rcases hst0 with h0 | ⟨h1, h2, h3⟩
    · exact .inl h0
    · refine .inr ⟨h1, h2, ?_⟩
      rcases h3 with h3 | ⟨n, r, h3, h4⟩
      · exact rLs_none1 h3
      · exact rLs_none2 h3 h4
  have HSt0 := hid hst
  obtain ⟨ii, hii, hz0, hz1, hz2⟩ := info_parts Tryz.infoLb
  have HI0 := hid hii
  have HZ0 := hid hz0
  have HZ1 := hid hz1
  have HZ2 := hid hz2
  clear h hst hst0 hZ hii hz0 hz1 hz2
  simp only at HC
  go_enter Tryz.func110, Tryz.ntmps110
  go_wp2_with fail
  refine HC.out.mono ?_
  rintro e w1 ⟨rfl, hI, hG⟩
  have HI1 := hid hI
  have HG1 := hid hG
  clear hI hG HC
  go_wp2_with fail
  go_loopw [3, 4, 7] (fun t3 _ t7 wr => ∃ (j : Nat) (Sj : List UInt8) (bj : Bool) (la : List CD.Lb) (laM : List LB.Lab), t7 = .int .i64 j ∧ RdI wr br Sj bj ∧ But br w wr ∧ Sj.length ≤ S.length ∧ OwnLb wr w.heap.size t3 laM ∧ laM.length = j ∧ j ≤ k ∧ ((bj = false ∧ laM = toLab la ∧ CD.rN S = some ((k : Int), R) ∧ CD.ContL k R la (k - j) Sj) ∨ (bj = true ∧ rLs S = none))) (fun _ _ t7 _ => k - (intOf t7).toNat)
  case atStart =>
    refine ⟨0, R, b, [], [], rfl, HI1.out, But.grown HG1.out, hRl, ⟨rfl, .inl ⟨rfl, rfl⟩⟩, rfl, by omega, ?_⟩
    rcases HSt0.out with ⟨h1, h2⟩ | ⟨h1, _, h2⟩
    · exact .inl ⟨h1, rfl, h2, CD.ContL.start _ _⟩
    · exact .inr ⟨h1, h2⟩
  case round =>
    obtain ⟨j, Sj, bj, la, laM, rfl, hIj, hBj, hSj, hOj, hlj, hjk, hstj⟩ := hrel
    have HIj := hid hIj
    have HBj := hid hBj
    have HOj := hid hOj
    have HStj := hid hstj
    have hszj := hBj.2.2.2.1
    clear hIj hBj hOj hstj HSt0 HI1 HG1
    by_cases hlt : j < k
    · have HC1 := ptxt_any br Sj bj wr HIj.out (by omega)
      obtain ⟨a1, S4, b4, hE4, hl4, _, hs4⟩ := tT_is Sj bj
      rw [hE4] at HC1
      have HC1 := hid HC1
      have HS4 := hid hs4
      clear hE4 hs4
      go_wp2_with fail
      refine HC1.out.mono ?_
      rintro e w4 ⟨rfl, hI4, hG4⟩
      dsimp only at hI4 ⊢
      have hO4 : OwnLb w4 w.heap.size u3 laM := row_kept HOj.out (fun g c hg => hG4.block g (heap_lt hg) (fun e => rd_ne HIj.out hg (Option.some.inj e) (by decide)))
      have HB4 := hid (HBj.out.trans (But.grown hG4))
      have HC2 := ptxt_any br S4 b4 w4 hI4 (by omega)
      obtain ⟨a2, S5, b5, hE5, hl5, _, hs5⟩ := tT_is S4 b4
      rw [hE5] at HC2
      have HC2 := hid HC2
      have HS5 := hid hs5
      have HI4 := hid hI4
      have HO4 := hid hO4
      clear hI4 hG4 hE5 hs5 hO4 HC1
      go_wp2_with fail
      refine HC2.out.mono ?_
      rintro e w5 ⟨rfl, hI5, hG5⟩
      dsimp only at hI5 ⊢
      have hO5 : OwnLb w5 w.heap.size u3 laM := row_kept HO4.out (fun g c hg => hG5.block g (heap_lt hg) (fun e => rd_ne HI4.out hg (Option.some.inj e) (by decide)))
      have HB5 := hid (HB4.out.trans (But.grown hG5))
      have HI5 := hid hI5
      have HO5 := hid hO5
      have hsz5 := HB5.out.2.2.2.1
      obtain ⟨lva, lvc, hlvv⟩ := own_slice hO5
      rw [hlj] at hlvv
      clear hI5 hG5 hO5 HC2
      subst hlvv
      go_wp2_with (at_builtin; refine wpList_append_own _ rfl (.tmp 11) (.tmp 16) 50 rfl w.heap.size 49 ii (.agg #[.string ⟨#[]⟩, .string ⟨#[]⟩]) 2 32 Tryz.underlying50 HI0.out HZ0.out HZ1.out HZ2.out rfl (by decide) (.slice lva j lvc) laM.length (lv laM) rfl (World.ownsRow.alloc HO5.out _) ⟨w5.heap.size, 0, none⟩ 1 1 [.string (sb a1), .string (sb a2)] rfl rfl (two_news w5 _ _ 49) (by intro u hu; simp at hu; rcases hu with rfl | rfl <;> rfl) (by unfold maxLen; omega) (by omega) (by simp; omega) ?_)
      intro v7 w7 ho7 hg7 _
      have hO7 : OwnLb w7 w.heap.size v7 (laM ++ [(sb a1, sb a2)]) := by
        show World.ownsRow _ _ _ _ _ _ _
        rw [List.length_append, lv_append, hlj]
        exact ho7
      have hrow7 : ∀ g, (Value.slice lva j lvc).ownBlock = some g → w.heap.size ≤ g := fun g hg => (World.ownsRow.lt HO5.out g hg).1
      have hb5 : Below w5.heap.size w5 (w5.alloc (.cells #[.string (sb a1), .string (sb a2)] 49)) := (Below.refl _ w5).alloc (Nat.le_refl _) _
      have hI7 : RdI w7 br S5 b5 := (hg7.block br (by have := hb5.size; omega) (fun e => by have := hrow7 br e.symm; omega)).trans ((hb5.block br (by omega)).trans HI5.out)
      have hB7 : But br w w7 := (HB5.out.trans (But.below hb5)).own hg7 hrow7
      have HQ : Hid (RdI w7 br S5 b5 ∧ But br w w7 ∧ OwnLb w7 w.heap.size v7 (laM ++ [(sb a1, sb a2)])) := ⟨hI7, hB7, hO7⟩
      have HSt2 : Hid ((b5 = false ∧ laM ++ [(sb a1, sb a2)] = toLab (la ++ [(a1, a2)]) ∧ CD.rN S = some ((k : Int), R) ∧ CD.ContL k R (la ++ [(a1, a2)]) (k - (j + 1)) S5) ∨ (b5 = true ∧ rLs S = none)) := by
        have hm : k - j = (k - (j + 1)) + 1 := by omega
        rcases HStj.out with ⟨h1, h2, h3, h4⟩ | ⟨h1, h2⟩
        · rw [hm] at h4
          rcases HS5.out with ⟨h5, h6, h7⟩ | ⟨h5, _, h6⟩
          · refine .inl ⟨h5, by rw [h2]; simp [toLab], h3, ?_⟩
            rcases HS4.out with ⟨_, _, h8⟩ | ⟨h8, _⟩
            · exact h4.next h8 h7
            · rw [h6] at h8; cases h8
          · refine .inr ⟨h5, rLs_none3 h3 (h4.fail ?_)⟩
            rcases HS4.out with ⟨h8, _, h9⟩ | ⟨_, _, h9⟩
            · rcases h6 with h6 | h6
              · rw [h8] at h6; cases h6
              · exact .inr ⟨_, _, h9, h6⟩
            · rcases h9 with h9 | h9
              · rw [h1] at h9; cases h9
              · exact .inl h9
        · refine .inr ⟨?_, h2⟩
          rcases HS5.out with ⟨_, h6, _⟩ | ⟨h5, _⟩
          · rcases HS4.out with ⟨_, h8, _⟩ | ⟨h8, _⟩
            · rw [h1] at h8; cases h8
            · rw [h6] at h8; cases h8
          · exact h5
      obtain ⟨a7, c7, hv7⟩ := own_slice hO7
      have hv8 : v7 = .slice a7 (j + 1) c7 := by rw [hv7, List.length_append, hlj]; rfl
      have hS5 : S5.length ≤ S.length := by omega
      clear hv7 ho7 hg7 hO7 hrow7 hb5 hI7 hB7 HO5 HI5 HB5 HS5 HS4 HStj
      subst hv8
      go_wp2_with fail
      go_roundw
      case rel => exact ⟨j + 1, S5, b5, la ++ [(a1, a2)], laM ++ [(sb a1, sb a2)], by go_num, HQ.out.1, HQ.out.2.1, hS5, HQ.out.2.2, by rw [List.length_append, hlj]; rfl, by omega, HSt2.out⟩
      case measure => simp [intOf]; omega
    · have hk0 : k - j = 0 := by omega
      have HK0 := hid hk0
      clear hk0 hlj
      have HC1 := hid (bad_any br Sj bj wr HIj.out)
      obtain ⟨lva, lvc, hlvv⟩ := own_slice HOj.out
      go_wp2_with fail
      refine HC1.out.mono ?_
      rintro e w4 ⟨rfl, rfl⟩
      clear HC1
      cases bj with
      | true =>
        have HNo : Hid (rLs S = none) := by
          rcases HStj.out with ⟨h1, _⟩ | ⟨_, h1⟩
          · cases h1
          · exact h1
        clear HStj
        go_wp2_with fail
        go_ret
        exact ⟨HBj.out, .inr ⟨HNo.out, rfl, Sj, HIj.out, hSj⟩⟩
      | false =>
        obtain ⟨h2, h3, h4⟩ : laM = toLab la ∧ CD.rN S = some ((k : Int), R) ∧ CD.rL k R = some (la, Sj) := by
          rcases HStj.out with ⟨_, h2, h3, h4⟩ | ⟨h1, _⟩
          · rw [HK0.out] at h4
            exact ⟨h2, h3, h4.done⟩
          · cases h1
        obtain ⟨lo, lc, hv, hLR⟩ := LRow.of_own HOj.out
        have HC2 := hid (lright_any lo laM lc w4 hLR)
        have hrk : LB.right laM = lbK la := by rw [h2]; rfl
        have H2 := hid h2
        have H3 := hid h3
        have H4 := hid h4
        rw [hrk] at HC2
        obtain ⟨c0, c1, f0, f1⟩ := HIj.out.c
        clear h2 h3 h4 HStj hlvv hLR hrk
        subst hv
        go_wp2_with fail
        refine HC2.out.mono ?_
        rintro e w5 ⟨rfl, hb5⟩
        have HI5 := hid (HIj.out.below hb5)
        have HB5 := hid (HBj.out.trans (But.below (bt := br) hb5))
        have HO5 := hid (row_kept HOj.out (fun g c hg => hb5.block g (heap_lt hg)))
        obtain ⟨d0, d1, g0, g1⟩ := HI5.out.c
        clear hb5 HC2
        cases hq : lbK la with
        | true =>
          have HR := hid (rLs_ok hk8 H3.out H4.out hq)
          clear hq
          go_wp2_with fail
          go_ret
          refine ⟨HB5.out, .inl ⟨la, Sj, _, HR.out, rfl, HI5.out, ?_, hSj⟩⟩
          rw [← H2.out]
          exact HO5.out
        | false =>
          have HR := hid (rLs_none4 H3.out H4.out hq)
          have HQ : Hid (RdI (w5.setCell ⟨br, 1, none⟩ (.bool true)) br Sj true) := HI5.out.s1 true
          clear hq
          go_wp2_with fail
          go_ret
          exact ⟨HB5.out.trans (But.grown (tgrown _ _ _ _)), .inr ⟨HR.out, rfl, Sj, HQ.out, hSj⟩⟩

theorem rLs_inv {S R1 : List UInt8} {la : List CD.Lb} (h : rLs S = some (la, R1)) : ∃ (k : Int) (r1 : List UInt8), CD.rN S = some (k, r1) ∧ (0 ≤ k ∧ k ≤ 8) ∧ CD.rL k.toNat r1 = some (la, R1) ∧ lbK la = true := by
  unfold rLs at h
  split at h
  · cases h
  · rename_i k r1 h1
    split at h
    · rename_i hk
      split at h
      · cases h
      · rename_i l r2 h2
        split at h
        · rename_i hok
          simp only [Option.some.injEq, Prod.mk.injEq] at h
          obtain ⟨rfl, rfl⟩ := h
          exact ⟨k, r1, h1, hk, h2, hok⟩
        · cases h
    · cases h

theorem one_ok {S R1 R2 c : List UInt8} {la : List CD.Lb} {x : List CL.Smp} (h : rLs S = some (la, R1)) (h2 : CD.rT R1 = some (c, R2)) (h3 : chD c = some x) : CD.rOne chD lbK S = some ((la, x), R2) := by
  obtain ⟨k, r1, a1, a2, a3, a4⟩ := rLs_inv h
  exact CD.rOne_ok a1 a2 rfl a3 h2 a4 h3

theorem one_no1 {S : List UInt8} (h : rLs S = none) : CD.rOne chD lbK S = none := by
  unfold rLs at h
  split at h
  · rename_i h1
    exact CD.rOne_none1 h1
  · rename_i k r1 h1
    split at h
    · split at h
      · rename_i h2
        exact CD.rOne_none3 h1 rfl h2
      · rename_i l r2 h2
        split at h
        · cases h
        · rename_i hok
          exact CD.rOne_none4 h1 rfl h2 (.inr (.inl (by simpa using hok)))
    · rename_i hk
      exact CD.rOne_none2 h1 hk

theorem one_no2 {S R1 : List UInt8} {la : List CD.Lb} (h : rLs S = some (la, R1)) (h2 : CD.rT R1 = none ∨ ∃ c r3, CD.rT R1 = some (c, r3) ∧ chD c = none) : CD.rOne chD lbK S = none := by
  obtain ⟨k, r1, a1, a2, a3, a4⟩ := rLs_inv h
  exact CD.rOne_none4 a1 rfl a3 (h2.elim .inl (fun h => .inr (.inr h)))

theorem Wids.but {br : Nat} {w w' : World} (h : Wids w) (hb : But br w w') (hG : 1 < w.heap.size) (hne : 1 ≠ br) : Wids w' := fun i hi => by
  have e := hb.2.2.2.2 1 hG hne
  have h0 := h i hi
  exact (World.cell?_of_block (w := w) e).trans h0

/-- What one tells. -/
def OneEnd (w : World) (br : Nat) (S : List UInt8) (e : Ending) (w' : World) : Prop :=
  But br w w' ∧ ((∃ x r lvv svv, CD.rOne chD lbK S = some (x, r) ∧ e = .returned (.agg #[lvv, svv]) ∧ RdI w' br r false ∧ OwnLb w' w.heap.size lvv (toLab x.1) ∧ OwnSm w' w.heap.size svv x.2 ∧ r.length ≤ S.length) ∨ (CD.rOne chD lbK S = none ∧ e = .returned (.agg #[.slice none 0 0, .slice none 0 0]) ∧ ∃ S', RdI w' br S' true ∧ S'.length ≤ S.length))

theorem but_box {br : Nat} {w w1 : World} {bx : Nat} (h : But br w w1) (hx : w.heap.size ≤ bx) (u0 u1 : Value) : But br w ((w1.setCell ⟨bx, 0, none⟩ u0).setCell ⟨bx, 1, none⟩ u1) :=
  (h.own (tgrown w1 bx 0 u0) (fun g hg => by cases hg; exact hx)).own (tgrown _ bx 1 u1) (fun g hg => by cases hg; exact hx)

theorem rd_box {br bx : Nat} {w1 : World} {S : List UInt8} {b : Bool} (h : RdI w1 br S b) (hx : br ≠ bx) (u0 u1 : Value) : RdI ((w1.setCell ⟨bx, 0, none⟩ u0).setCell ⟨bx, 1, none⟩ u1) br S b :=
  (Below.heap_setCell _ ⟨bx, 1, none⟩ u1 br hx).trans ((Below.heap_setCell _ ⟨bx, 0, none⟩ u0 br hx).trans h)

theorem row_box {w : World} {bx base n size : Nat} {e T : TypeId} {v : Value} {xs : List Value} {a : Array Value} (h : w.ownsRow base e size v n xs) (hX : w.heap[bx]? = some (.cells a T)) (hne : e ≠ T) (u0 u1 : Value) : ((w.setCell ⟨bx, 0, none⟩ u0).setCell ⟨bx, 1, none⟩ u1).ownsRow base e size v n xs := row_kept h fun g c hg => by
  have hgb : g ≠ bx := fun e2 => by
    subst e2
    rw [hX] at hg
    have := Option.some.inj hg
    simp only [Obj.cells.injEq] at this
    exact hne this.2.1.symm
  exact (Below.heap_setCell _ ⟨bx, 1, none⟩ u1 g hgb).trans (Below.heap_setCell _ ⟨bx, 0, none⟩ u0 g hgb)

set_option maxRecDepth 100000 in
set_option maxHeartbeats 800000 in
theorem pone_any (br : Nat) (S : List UInt8) (w : World) (h : RdI w br S false) (hS : S.length ≤ 5000000) (hW : Wids w) (hG : 1 < w.heap.size) (hGb : 1 ≠ br) :
    Calls Tryz.prog 77 #[.pointer (some ⟨br, 0, none⟩)] w fun e w' => OneEnd w br S e w' := by
  have hb0 : Below w.heap.size w (w.alloc (.cells #[.slice none 0 0, .slice none 0 0] 55)) := (Below.refl _ w).alloc (Nat.le_refl _) _
  have hbr := heap_lt h
  have HC := hid (plabels_any br S _ (h.below hb0) hS)
  have HX0 := hid (heap_alloc_new w (.cells #[.slice none 0 0, .slice none 0 0] 55))
  have HB0 : Hid (But br w (w.alloc (.cells #[.slice none 0 0, .slice none 0 0] 55))) := But.below hb0
  have HW := hid hW
  clear h hb0 hW
  go_enter Tryz.func77, Tryz.ntmps77
  go_wp2_with fail
  refine HC.out.mono ?_
  rintro e w1 ⟨hBut, hend⟩
  have hX1 := (hBut.2.2.2.2 w.heap.size (by simp) (by omega)).trans HX0.out
  have HX1 := hid hX1
  have HB1 := hid (HB0.out.trans hBut)
  have hsz1 := heap_lt hX1
  clear hBut hX1 HC HX0 HB0
  obtain ⟨R1, b1, lo, ln, lc, rfl, hI1, hl1, hst1⟩ : ∃ R1 b1 lo ln lc, e = .returned (.slice lo ln lc) ∧ RdI w1 br R1 b1 ∧ R1.length ≤ S.length ∧ ((b1 = false ∧ ∃ la, rLs S = some (la, R1) ∧ OwnLb w1 w.heap.size (.slice lo ln lc) (toLab la)) ∨ (b1 = true ∧ CD.rOne chD lbK S = none)) := by
    rcases hend with ⟨la, r, v, h1, rfl, h3, h4, h5⟩ | ⟨h1, rfl, S', h3, h4⟩
    · obtain ⟨va, vc, hv⟩ := own_slice h4
      refine ⟨r, false, va, _, vc, by rw [hv], h3, h5, .inl ⟨rfl, la, h1, ?_⟩⟩
      rw [← hv]
      exact row_low h4 (by simp)
    · exact ⟨S', true, none, 0, 0, rfl, h3, h4, .inr ⟨rfl, one_no1 h1⟩⟩
  have HC2 := ptxt_any br R1 b1 w1 hI1 (by omega)
  obtain ⟨c, R2, b2, hE2, hl2, hc2, hs2⟩ := tT_is R1 b1
  rw [hE2] at HC2
  have HC2 := hid HC2
  have hst2 : (b2 = false ∧ ∃ la, rLs S = some (la, R1) ∧ OwnLb w1 w.heap.size (.slice lo ln lc) (toLab la) ∧ CD.rT R1 = some (c, R2)) ∨ (b2 = true ∧ CD.rOne chD lbK S = none) := by
    rcases hs2 with ⟨h1, h2, h3⟩ | ⟨h1, _, h2⟩
    · rcases hst1 with ⟨_, la, h4, h5⟩ | ⟨h4, _⟩
      · exact .inl ⟨h1, la, h4, h5, h3⟩
      · rw [h2] at h4; cases h4
    · refine .inr ⟨h1, ?_⟩
      rcases hst1 with ⟨h4, la, h5, _⟩ | ⟨_, h4⟩
      · rcases h2 with h2 | h2
        · rw [h4] at h2; cases h2
        · exact one_no2 h5 (.inl h2)
      · exact h4
  have HSt := hid hst2
  have HI1 := hid hI1
  clear hend hI1 hst1 hE2 hs2 hst2
  go_wp2_with fail
  refine HC2.out.mono ?_
  rintro e w2 ⟨rfl, hI2, hG2⟩
  dsimp only at hI2 ⊢
  have hX2 := (hG2.block w.heap.size hsz1 (fun e => by have := Option.some.inj e; omega)).trans HX1.out
  have HX2 := hid hX2
  have HB2 := hid (HB1.out.trans (But.grown hG2))
  have hsz2 := heap_lt hX2
  have HI2 := hid hI2
  have HK2 : Hid (∀ (g : Nat) (cc : Array Value), w1.heap[g]? = some (Obj.cells cc 49) → w2.heap[g]? = w1.heap[g]?) := fun g cc hg => hG2.block g (heap_lt hg) (fun e => rd_ne HI1.out hg (Option.some.inj e) (by decide))
  have HC3 := hid (bad_any br R2 b2 w2 hI2)
  have x0 := zcell' _ w.heap.size _ _ hX2 0 _ rfl
  have x1 := zcell' _ w.heap.size _ _ hX2 1 _ rfl
  have xf0 : w2.frozen? ⟨w.heap.size, 0, none⟩ = false := by simp [World.frozen?, hX2]
  have xf1 : w2.frozen? ⟨w.heap.size, 1, none⟩ = false := by simp [World.frozen?, hX2]
  clear hI2 hG2 hX2 HC2
  go_wp2_with fail
  refine HC3.out.mono ?_
  rintro e w3 ⟨rfl, rfl⟩
  clear HC3
  cases b2 with
  | true =>
    have HNo : Hid (CD.rOne chD lbK S = none) := by
      rcases HSt.out with ⟨h1, _⟩ | ⟨_, h1⟩
      · cases h1
      · exact h1
    clear HSt
    go_wp2_with fail
    refine bodyPost_ret (results_cell_row (P := Tryz.prog) rfl _ _ w.heap.size 55 _ (0, 0) _ rfl (heap_setCell_same _ _ 1 _ _ _ (heap_setCell_same _ _ 0 _ _ _ HX2.out)) Tryz.underlying55 rfl (by kernel_rfl)) rfl ?_
    exact ⟨but_box HB2.out (Nat.le_refl _) _ _, .inr ⟨HNo.out, rfl, R2, rd_box HI2.out (by omega) _ _, by omega⟩⟩
  | false =>
    obtain ⟨la, h1, h2, h3⟩ : ∃ la, rLs S = some (la, R1) ∧ OwnLb w1 w.heap.size (.slice lo ln lc) (toLab la) ∧ CD.rT R1 = some (c, R2) := by
      rcases HSt.out with ⟨_, h1⟩ | ⟨h1, _⟩
      · exact h1
      · cases h1
    have HL1 := hid h1
    have HO2 := hid (row_kept h2 HK2.out)
    have HL3 := hid h3
    have HRd := hid (read_c (sb c) w3 (by rw [sb_size]; omega) (HW.out.but HB2.out hG hGb) (Nat.lt_of_lt_of_le hG HB2.out.2.2.2.1))
    clear h1 h2 h3 HSt HK2 HX1 HB1 HI1
    go_wp2_with fail
    refine HRd.out.mono ?_
    intro e w4 hrd
    obtain ⟨sva, svn, svc, ev, rfl, hb4, hsv⟩ : ∃ sva svn svc ev, e = .returned (.tuple #[.slice sva svn svc, ev]) ∧ Below w3.heap.size w3 w4 ∧ ((ev = .nilIface ∧ ∃ l, chD c = some l ∧ OwnSm w4 w3.heap.size (.slice sva svn svc) l) ∨ (ev = .iface 24 (.int .i64 3) ∧ chD c = none)) := by
      unfold chD
      cases hr : CL.readL (bitsS (sb c)) with
      | none =>
        rw [hr] at hrd
        obtain ⟨h1, h2⟩ := hrd
        exact ⟨none, 0, 0, _, h1, h2, .inr ⟨rfl, rfl⟩⟩
      | some l =>
        rw [hr] at hrd
        obtain ⟨v, h1, h2, h3⟩ := hrd
        obtain ⟨va', vc', hv⟩ := own_slice h2
        rw [hv] at h1 h2
        exact ⟨_, _, _, _, h1, h3, .inl ⟨rfl, l, rfl, h2⟩⟩
    have hX4 := (hb4.block w.heap.size hsz2).trans HX2.out
    have hI4 := HI2.out.below hb4
    have HB4 := hid (HB2.out.trans (But.below (bt := br) hb4))
    have HO4 := hid (row_kept HO2.out (fun g cc hg => hb4.block g (heap_lt hg)))
    have y0 := zcell' _ w.heap.size _ _ hX4 0 _ rfl
    have y1 := zcell' _ w.heap.size _ _ hX4 1 _ rfl
    have yf0 : w4.frozen? ⟨w.heap.size, 0, none⟩ = false := by simp [World.frozen?, hX4]
    have yf1 : w4.frozen? ⟨w.heap.size, 1, none⟩ = false := by simp [World.frozen?, hX4]
    obtain ⟨d0, d1, g0, g1⟩ := hI4.c
    have HX4 := hid hX4
    have HI4 := hid hI4
    clear hrd hb4 hX4 hI4 HRd x0 x1 xf0 xf1 HX2 HB2 HI2 HO2
    rcases hsv with ⟨rfl, l, hl, hO⟩ | ⟨rfl, hl⟩
    · have HR := hid (one_ok HL1.out HL3.out hl)
      have HO := hid hO
      clear hl hO
      go_wp2_with fail
      refine bodyPost_ret (results_cell_row (P := Tryz.prog) rfl _ _ w.heap.size 55 _ (0, 0) _ rfl (heap_setCell_same _ _ 1 _ _ _ (heap_setCell_same _ _ 0 _ _ _ HX4.out)) Tryz.underlying55 rfl (by kernel_rfl)) rfl ?_
      refine ⟨but_box HB4.out (Nat.le_refl _) _ _, .inl ⟨(la, l), R2, _, _, HR.out, rfl, rd_box HI4.out (by omega) _ _, ?_, ?_, by omega⟩⟩
      · exact row_box HO4.out HX4.out (by decide) _ _
      · exact row_box (row_low HO.out (by omega)) HX4.out (by decide) _ _
    · have HR := hid (one_no2 HL1.out (.inr ⟨_, _, HL3.out, hl⟩))
      have HQ : Hid (RdI (w4.setCell ⟨br, 1, none⟩ (.bool true)) br R2 true) := HI4.out.s1 true
      have HBq : Hid (But br w (w4.setCell ⟨br, 1, none⟩ (.bool true))) := HB4.out.trans (But.grown (tgrown _ _ _ _))
      have HXq : Hid ((w4.setCell ⟨br, 1, none⟩ (.bool true)).heap[w.heap.size]? = some (.cells #[.slice none 0 0, .slice none 0 0] 55)) := (Below.heap_setCell w4 ⟨br, 1, none⟩ _ w.heap.size (by show w.heap.size ≠ br; omega)).trans HX4.out
      clear hl
      go_wp2_with fail
      refine bodyPost_ret (results_cell_row (P := Tryz.prog) rfl _ _ w.heap.size 55 _ (0, 0) _ rfl (heap_setCell_same _ _ 1 _ _ _ (heap_setCell_same _ _ 0 _ _ _ HXq.out)) Tryz.underlying55 rfl (by kernel_rfl)) rfl ?_
      exact ⟨but_box HBq.out (Nat.le_refl _) _ _, .inr ⟨HR.out, rfl, R2, rd_box HQ.out (by omega) _ _, by omega⟩⟩

/-- What Series tells of a Reader that was not bad. -/
def PSerEnd (w : World) (br : Nat) (S : List UInt8) (e : Ending) (w' : World) : Prop :=
  But br w w' ∧ ((∃ l r v, CD.rAll chD lbK S = some (l, r) ∧ e = .returned v ∧ RdI w' br r false ∧ SrOwn w' w.heap.size v (l.map toSr) ∧ r.length ≤ S.length) ∨ (CD.rAll chD lbK S = none ∧ e = .returned (.slice none 0 0) ∧ ∃ S', RdI w' br S' true ∧ S'.length ≤ S.length))

theorem SrOwn.rd {br : Nat} {w w' : World} {base : Nat} {v : Value} {l : List Sr} {S : List UInt8} {bad : Bool} (h : SrOwn w base v l) (ht : RdI w br S bad) (hb : But br w w') : SrOwn w' base v l := h.kept fun g c e he hg => by
  refine hb.2.2.2.2 g (heap_lt hg) (fun e2 => rd_ne ht hg e2 (fun e3 => ?_))
  rw [← e3] at he
  revert he
  decide

set_option maxRecDepth 100000 in
theorem pser_bad (br : Nat) (S : List UInt8) (w : World) (h : RdI w br S true) (hS : S.length ≤ 5000000) :
    Calls Tryz.prog 41 #[.pointer (some ⟨br, 0, none⟩)] w fun e w' => e = .returned (.slice none 0 0) ∧ RdI w' br S true ∧ But br w w' := by
  have HC1 := hid (rest_any br S true w h)
  have HC2 := psize_any br S true 0 w h (by omega) (by omega)
  have e0 : tZ S true 0 = (0, S, true) := by unfold tZ; rw [tN_bad, if_neg (by rintro ⟨h, _⟩; cases h)]
  rw [e0] at HC2
  have HC2 := hid HC2
  clear h e0
  go_enter Tryz.func41, Tryz.ntmps41
  go_wp2_with fail
  refine HC1.out.mono ?_
  rintro e w1 ⟨rfl, rfl⟩
  clear HC1
  go_wp2_with fail
  refine HC2.out.mono ?_
  rintro e w2 ⟨rfl, hI, hG⟩
  have HI := hid hI
  have HG := hid hG
  clear hI hG HC2
  go_wp2_with fail
  refine wp_loop_rounds 1 ?_
  rw [rounds_succ]
  go_wp2_with fail
  go_ret
  exact ⟨rfl, HI.out, But.grown HG.out⟩

set_option maxRecDepth 100000 in
set_option maxHeartbeats 800000 in
theorem pser_any (br : Nat) (S : List UInt8) (w : World) (h : RdI w br S false) (hS : S.length ≤ 5000000) (hW : Wids w) (hG : 1 < w.heap.size) (hGb : 1 ≠ br) :
    Calls Tryz.prog 41 #[.pointer (some ⟨br, 0, none⟩)] w fun e w' => PSerEnd w br S e w' := by
  have HC1 := rest_any br S false w h
  have hlf : leftN S false = S.length := rfl
  rw [hlf] at HC1
  have HC1 := hid HC1
  have HC2 := psize_any br S false S.length w h (by omega) (by omega)
  obtain ⟨k, R, b, hZ, hk8, hRl, hst0⟩ := tZ_is S S.length
  rw [hZ] at HC2
  have HC2 := hid HC2
  have hbr := heap_lt h
  have hst : (b = false ∧ CD.rAll chD lbK S = CD.rS chD lbK k R) ∨ (b = true ∧ k = 0 ∧ CD.rAll chD lbK S = none) := by
    unfold CD.rAll
    rcases hst0 with ⟨h1, h2⟩ | ⟨h1, h2, h3⟩
    · refine .inl ⟨h1, ?_⟩
      rw [h2]
      dsimp only
      have e : ((k : Int)).toNat = k := by omega
      rw [if_pos (by omega), e]
    · refine .inr ⟨h1, h2, ?_⟩
      rcases h3 with h3 | ⟨n, r, h3, h4⟩
      · rw [h3]
      · rw [h3]
        dsimp only
        have hl := rN_len h3
        by_cases hn0 : 0 ≤ n
        · rw [if_pos hn0]
          exact CD.rS_many (by omega)
        · rw [if_neg hn0]
  have HSt0 := hid hst
  obtain ⟨ii, hii, hz0, hz1, hz2⟩ := info_parts Tryz.infoSr
  have HI0 := hid hii
  have HZ0 := hid hz0
  have HZ1 := hid hz1
  have HZ2 := hid hz2
  have HW := hid hW
  clear h hst hst0 hZ hii hz0 hz1 hz2 hlf hW
  simp only at HC2
  go_enter Tryz.func41, Tryz.ntmps41
  go_wp2_with fail
  refine HC1.out.mono ?_
  rintro e w1 ⟨rfl, rfl⟩
  clear HC1
  go_wp2_with fail
  refine HC2.out.mono ?_
  rintro e w2 ⟨rfl, hI, hG2⟩
  have HI1 := hid hI
  have HG1 := hid hG2
  clear hI hG2 HC2
  go_wp2_with fail
  go_loopw [3, 4, 9] (fun t3 _ t9 wr => ∃ (i : Nat) (Si : List UInt8) (bi : Bool), t9 = .int .i64 i ∧ RdI wr br Si bi ∧ But br w1 wr ∧ Si.length ≤ S.length ∧ i ≤ k ∧ ((bi = false ∧ ∃ L : List (List CD.Lb × List CL.Smp), L.length = i ∧ CD.rAll chD lbK S = CD.rS chD lbK k R ∧ CD.ContS chD lbK k R L (k - i) Si ∧ SrOwn wr w1.heap.size t3 (L.map toSr)) ∨ (bi = true ∧ t3 = .slice none 0 0 ∧ i = k ∧ CD.rAll chD lbK S = none))) (fun _ _ t9 _ => k - (intOf t9).toNat)
  case atStart =>
    refine ⟨0, R, b, rfl, HI1.out, But.grown HG1.out, hRl, by omega, ?_⟩
    rcases HSt0.out with ⟨h1, h2⟩ | ⟨h1, h2, h3⟩
    · exact .inl ⟨h1, [], rfl, h2, CD.ContS.start _ _, SrOwn.nil _ _⟩
    · exact .inr ⟨h1, rfl, h2.symm, h3⟩
  case round =>
    obtain ⟨i, Si, bi, rfl, hIi, hBi, hSi, hik, hsti⟩ := hrel
    have HIi := hid hIi
    have HBi := hid hBi
    have hszi := hBi.2.2.2.1
    have HSti := hid hsti
    clear hIi hBi hsti HSt0 HI1 HG1
    by_cases hlt : i < k
    · obtain ⟨L, hL1, hL2, hL3, hL4⟩ : ∃ L : List (List CD.Lb × List CL.Smp), L.length = i ∧ CD.rAll chD lbK S = CD.rS chD lbK k R ∧ CD.ContS chD lbK k R L (k - i) Si ∧ SrOwn wr w1.heap.size u3 (L.map toSr) := by
        rcases HSti.out with ⟨_, h1⟩ | ⟨_, _, h1, _⟩
        · exact h1
        · omega
      have hbi : bi = false := by
        rcases HSti.out with ⟨h1, _⟩ | ⟨_, _, h1, _⟩
        · exact h1
        · omega
      subst hbi
      have HL2 := hid hL2
      have hm : k - i = (k - (i + 1)) + 1 := by omega
      rw [hm] at hL3
      have HL3 := hid hL3
      have HL4 := hid hL4
      have HL1 := hid hL1
      obtain ⟨xs, hxs1, hxs2, hxs3⟩ := hL4
      have hlm : (L.map toSr).length = i := by rw [List.length_map, hL1]
      rw [hlm] at hxs1 hxs2 hxs3
      have HP1 := hid hxs1
      have HP2 := hid hxs2
      have HP3 := hid hxs3
      obtain ⟨va, vc, hv3⟩ := own_slice hxs2
      have HC := hid (pone_any br Si wr HIi.out (by omega) (HW.out.but HBi.out hG hGb) (Nat.lt_of_lt_of_le hG hszi) hGb)
      clear HSti hL1 hL2 hL3 hxs1 hxs2 hxs3 hm hlm
      subst hv3
      go_wp2_with fail
      refine HC.out.mono ?_
      rintro e w4 ⟨hB4, hend⟩
      clear HC
      rcases hend with ⟨⟨la, l⟩, r, lvv, svv, h1, rfl, h3, h4, h5, h6⟩ | ⟨h1, rfl, S', h3, h4⟩
      · obtain ⟨lva, lvc, hlv⟩ := own_slice h4
        obtain ⟨sva, svc, hsv⟩ := own_slice h5
        obtain ⟨ln, hln⟩ : ∃ ln, (toLab la).length = ln := ⟨_, rfl⟩
        obtain ⟨sn, hsn⟩ : ∃ sn, l.length = sn := ⟨_, rfl⟩
        rw [hln] at hlv
        rw [hsn] at hsv
        have h4' := h4
        have h5' := h5
        have HO4 := hid h4'
        have HO5 := hid h5'
        have HR1 := hid h1
        have hb5 : Below w4.heap.size w4 (w4.alloc (.cells #[lvv, svv] 55)) := (Below.refl _ w4).alloc (Nat.le_refl _) _
        have hI5 := h3.below hb5
        have hx5 := heap_alloc_new w4 (.cells #[lvv, svv] 55)
        have hB5 : But br wr (w4.alloc (.cells #[lvv, svv] 55)) := hB4.trans (But.below hb5)
        have hLb5 : OwnLb (w4.alloc (.cells #[lvv, svv] 55)) w1.heap.size lvv (toLab la) := row_low (row_kept h4 (fun g c hg => hb5.block g (heap_lt hg))) (by omega)
        have hSm5 : OwnSm (w4.alloc (.cells #[lvv, svv] 55)) w1.heap.size svv l := row_low (row_kept h5 (fun g c hg => hb5.block g (heap_lt hg))) (by omega)
        have hrow5 : (w4.alloc (.cells #[lvv, svv] 55)).ownsRow w1.heap.size 55 2 (.slice va i vc) i (xs.flatMap fun p => [p.1, p.2]) := row_kept HP2.out (fun g c hg => hB5.2.2.2.2 g (heap_lt hg) (fun e2 => rd_ne HIi.out hg e2 (by decide)))
        have hall5 : ∀ i', i' < i → OwnLb (w4.alloc (.cells #[lvv, svv] 55)) w1.heap.size (xs.getD i' (.nilIface, .nilIface)).1 (atSr (L.map toSr) i').1 ∧ OwnSm (w4.alloc (.cells #[lvv, svv] 55)) w1.heap.size (xs.getD i' (.nilIface, .nilIface)).2 (atSr (L.map toSr) i').2 := fun i' hi' => ⟨row_kept (HP3.out i' hi').1 (fun g c hg => hB5.2.2.2.2 g (heap_lt hg) (fun e2 => rd_ne HIi.out hg e2 (by decide))), row_kept (HP3.out i' hi').2 (fun g c hg => hB5.2.2.2.2 g (heap_lt hg) (fun e2 => rd_ne HIi.out hg e2 (by decide)))⟩
        have hcb := hid (bad_any br r false _ hI5)
        have y0 : (w4.alloc (.cells #[lvv, svv] 55)).cell? ⟨w4.heap.size, 0, none⟩ = some lvv := zcell' _ w4.heap.size _ _ hx5 0 _ rfl
        have y1 : (w4.alloc (.cells #[lvv, svv] 55)).cell? ⟨w4.heap.size, 1, none⟩ = some svv := zcell' _ w4.heap.size _ _ hx5 1 _ rfl
        have HI5 := hid hI5
        have HB5 := hid (HBi.out.trans hB5)
        have HLb5 := hid hLb5
        have HSm5 := hid hSm5
        have HRw5 := hid hrow5
        have HAl5 := hid hall5
        have hsz5 : w1.heap.size ≤ (w4.alloc (.cells #[lvv, svv] 55)).heap.size := HB5.out.2.2.2.1
        clear hI5 hB5 hLb5 hSm5 hrow5 hall5 h1 h3 h4 h5 h4' h5' hb5 hx5 HO4 HO5 hB4 HP2 HP3
        clear hln hsn
        subst hlv hsv
        go_wp2_with fail
        generalize w4.alloc (.cells #[.slice lva ln lvc, .slice sva sn svc] 55) = w5 at *
        generalize w4.heap.size = bx at *
        refine hcb.out.mono ?_
        rintro e w6 ⟨rfl, rfl⟩
        clear hcb
        go_wp2_with (at_builtin; refine wpList_append_own _ rfl (.tmp 15) (.tmp 17) 22 rfl w1.heap.size 55 ii (.agg #[.slice none 0 0, .slice none 0 0]) 2 48 Tryz.underlying22 HI0.out HZ0.out HZ1.out HZ2.out rfl (by decide) (.slice va i vc) i (xs.flatMap fun p => [p.1, p.2]) rfl (World.ownsRow.alloc HRw5.out _) ⟨w6.heap.size, 0, none⟩ 1 1 [.slice lva ln lvc, .slice sva sn svc] rfl rfl (two_news w6 _ _ 55) (by intro u hu; simp at hu; rcases hu with rfl | rfl <;> rfl) (by unfold maxLen; omega) (by omega) (by simp; omega) ?_)
        intro v7 w7 ho7 hg7 _
        have hrw : ∀ g, (Value.slice va i vc).ownBlock = some g → w1.heap.size ≤ g ∧ ∃ c', w6.heap[g]? = some (Obj.cells c' 55) := fun g hg => by
          refine ⟨(World.ownsRow.lt HRw5.out g hg).1, ?_⟩
          rcases HRw5.out.2 with ⟨h1, _⟩ | ⟨g', cap, cur, h1, _, h2, _⟩
          · rw [h1] at hg; cases hg
          · rw [h1] at hg
            have : g' = g := Option.some.inj hg
            subst this
            exact ⟨cur, h2⟩
        have hb6 : Below w6.heap.size w6 (w6.alloc (.cells #[.slice lva ln lvc, .slice sva sn svc] 55)) := (Below.refl _ _).alloc (Nat.le_refl _) _
        have hI7 : RdI w7 br r false := (hg7.block br (Nat.lt_of_lt_of_le (heap_lt HI5.out) hb6.size) (fun e => by
          obtain ⟨_, c', h1⟩ := hrw br e.symm
          exact rd_ne HI5.out h1 rfl (by decide))).trans ((hb6.block br (heap_lt HI5.out)).trans HI5.out)
        have hB7 : But br w1 w7 := (HB5.out.trans (But.below hb6)).own hg7 (fun g hg => (hrw g hg).1)
        have hcur : ∀ (g : Nat) (c : Array Value) (e : TypeId), e ≠ 55 → w6.heap[g]? = some (Obj.cells c e) → w7.heap[g]? = w6.heap[g]? := fun g c e he hg => by
          refine (hg7.block g (Nat.lt_of_lt_of_le (heap_lt hg) hb6.size) (fun e2 => ?_)).trans (hb6.block g (heap_lt hg))
          obtain ⟨_, c', h1⟩ := hrw g e2.symm
          rw [hg] at h1
          have := Option.some.inj h1
          simp only [Obj.cells.injEq] at this
          exact he this.2.1
        have hSO7 : SrOwn w7 w1.heap.size v7 (L.map toSr ++ [toSr (la, l)]) := by
          have hlm : (L.map toSr).length = i := by rw [List.length_map, HL1.out]
          refine SrOwn.snoc (by rw [hlm]; exact HP1.out) (by rw [hlm]; exact ho7) (fun i' hi' => ?_) ?_ ?_
          · obtain ⟨h1, h2⟩ := HAl5.out i' (by rw [hlm] at hi'; exact hi')
            exact ⟨row_kept h1 (fun g c hg => hcur g c _ (by decide) hg), row_kept h2 (fun g c hg => hcur g c _ (by decide) hg)⟩
          · exact row_kept HLb5.out (fun g c hg => hcur g c _ (by decide) hg)
          · exact row_kept HSm5.out (fun g c hg => hcur g c _ (by decide) hg)
        obtain ⟨a7, c7, hv7⟩ := own_slice ho7
        have HQ : Hid (RdI w7 br r false ∧ But br w1 w7 ∧ SrOwn w7 w1.heap.size v7 ((L ++ [(la, l)]).map toSr)) := ⟨hI7, hB7, by rw [List.map_append]; exact hSO7⟩
        have hrl : r.length ≤ S.length := by omega
        clear ho7 hg7 hrw hb6 hI7 hB7 hcur hSO7 HI5 HB5 HLb5 HSm5 HRw5 HAl5 y0 y1
        subst hv7
        go_wp2_with fail
        go_roundw
        case rel => exact ⟨i + 1, r, false, by go_num, HQ.out.1, HQ.out.2.1, hrl, by omega, .inl ⟨rfl, L ++ [(la, l)], by rw [List.length_append, HL1.out]; rfl, HL2.out, HL3.out.next HR1.out, HQ.out.2.2⟩⟩
        case measure => simp [intOf]; omega
      · have hb5 : Below w4.heap.size w4 (w4.alloc (.cells #[.slice none 0 0, .slice none 0 0] 55)) := (Below.refl _ w4).alloc (Nat.le_refl _) _
        have HI5 := hid (h3.below hb5)
        have HB5 := hid (HBi.out.trans (hB4.trans (But.below (bt := br) hb5)))
        have HCb := hid (bad_any br S' true _ HI5.out)
        have HNo : Hid (CD.rAll chD lbK S = none) := by
          show _ = _
          rw [HL2.out]
          exact HL3.out.fail h1
        clear hb5 h3 hB4 h1
        go_wp2_with fail
        refine HCb.out.mono ?_
        rintro e w6 ⟨rfl, rfl⟩
        go_wp2_with fail
        go_ret
        exact ⟨HB5.out, .inr ⟨HNo.out, rfl, S', HI5.out, by omega⟩⟩
    · have hk0 : k - i = 0 := by omega
      rcases HSti.out with ⟨hbi, L, hL1, hL2, hL3, hL4⟩ | ⟨hbi, hv, _, hNo⟩
      · subst hbi
        rw [hk0] at hL3
        have HE : Hid (CD.rAll chD lbK S = some (L, Si)) := by
          show _ = _
          rw [hL2]
          exact hL3.done
        have HSO := hid hL4
        obtain ⟨xs, hxs1, hxs2, _⟩ := hL4
        obtain ⟨va, vc, hv3⟩ := own_slice hxs2
        rw [List.length_map, hL1] at hv3
        clear hL1 hL2 hL3 hxs1 hxs2 HSti hk0
        subst hv3
        go_wp2_with fail
        go_ret
        exact ⟨HBi.out, .inl ⟨L, Si, _, HE.out, rfl, HIi.out, HSO.out, hSi⟩⟩
      · subst hbi hv
        have HNo := hid hNo
        clear HSti hNo hk0
        go_wp2_with fail
        go_ret
        exact ⟨HBi.out, .inr ⟨HNo.out, rfl, Si, HIi.out, hSi⟩⟩

theorem cfrom_any (s : ByteArray) (w : World) :
    Calls Tryz.prog 40 #[.string s] w fun e w' => e = .returned (.pointer (some ⟨w.heap.size, 0, none⟩)) ∧ w' = w.alloc (.cells #[.string s, .bool false] 141) := by
  go_enter Tryz.func40, Tryz.ntmps40
  go_wp2_with fail
  go_ret
  exact ⟨rfl, rfl⟩

theorem RdI.new (s : ByteArray) (w : World) : RdI (w.alloc (.cells #[.string s, .bool false] 141)) w.heap.size s.data.toList false := by
  show _ = _
  rw [sb_of]
  exact heap_alloc_new w _

/-- What ReadSeries tells. -/
def PRdEnd (w : World) (s : List UInt8) (e : Ending) (w' : World) : Prop :=
  Below w.heap.size w w' ∧ ((∃ l v, CD.rAll chD lbK s = some (l, []) ∧ e = .returned (.tuple #[v, .nilIface]) ∧ SrOwn w' w.heap.size v (l.map toSr)) ∨ ((∀ l, CD.rAll chD lbK s ≠ some (l, [])) ∧ e = .returned (.tuple #[.slice none 0 0, .iface 24 (.int .i64 3)])))

set_option maxRecDepth 100000 in
theorem preads_any (s : ByteArray) (w : World) (hs : s.size ≤ 5000000) (hW : Wids w) (hG : 1 < w.heap.size) :
    Calls Tryz.prog 10 #[.string s] w fun e w' => PRdEnd w s.data.toList e w' := by
  have hl : s.data.toList.length = s.size := by rw [Array.length_toList]; rfl
  have hI0 := RdI.new s w
  have hb0 : Below w.heap.size w (w.alloc (.cells #[.string s, .bool false] 141)) := (Below.refl _ w).alloc (Nat.le_refl _) _
  have HC := hid (pser_any w.heap.size s.data.toList _ hI0 (by omega) (hW.alloc hG _) (Nat.lt_of_lt_of_le hG hb0.size) (by omega))
  have HF := hid (cfrom_any s w)
  have HB0 := hid hb0
  clear hI0 hb0 hl hW
  generalize s.data.toList = L at *
  go_enter Tryz.func10, Tryz.ntmps10
  go_wp2_with fail
  refine HF.out.mono ?_
  rintro e w1 ⟨rfl, rfl⟩
  go_wp2_with fail
  refine HC.out.mono ?_
  rintro e w1 ⟨hBut, hend⟩
  have hB1 : Below w.heap.size w w1 := by
    refine ⟨hBut.1.trans HB0.out.os, hBut.2.1.trans HB0.out.tape, hBut.2.2.1.trans HB0.out.output, Nat.le_trans HB0.out.size hBut.2.2.2.1, fun j hj => ?_⟩
    exact (hBut.2.2.2.2 j (Nat.lt_of_lt_of_le hj HB0.out.size) (by omega)).trans (HB0.out.block j hj)
  have HB1 := hid hB1
  clear hB1 hBut HC HF
  rcases hend with ⟨l, r, v, h1, rfl, h3, h4, _⟩ | ⟨h1, rfl, S', h3, _⟩
  · have HD := done_any w.heap.size r false w1 h3
    have h5 : SrOwn w1 w.heap.size v (l.map toSr) := h4.low (by simp)
    obtain ⟨xs, hx1, hx2, _⟩ := h4
    obtain ⟨va, vc, hv⟩ := own_slice hx2
    rw [List.length_map] at hv
    have HE := hid h1
    have HS := hid h5
    clear h3 h5 h1 hx1 hx2
    subst hv
    cases r with
    | nil =>
      have e0 : (!false && decide (([] : List UInt8) = [])) = true := by simp
      rw [e0] at HD
      have HD := hid HD
      clear e0
      go_wp2_with fail
      refine HD.out.mono ?_
      rintro e w2 ⟨rfl, rfl⟩
      go_wp2_with fail
      go_ret2
      exact ⟨HB1.out, .inl ⟨l, _, HE.out, rfl, HS.out⟩⟩
    | cons x r =>
      have e0 : (!false && decide (x :: r = [])) = false := by simp
      rw [e0] at HD
      have HD := hid HD
      clear e0
      go_wp2_with fail
      refine HD.out.mono ?_
      rintro e w2 ⟨rfl, rfl⟩
      go_wp2_with fail
      go_ret2
      exact ⟨HB1.out, .inr ⟨(fun l' h => by rw [HE.out] at h; cases h), rfl⟩⟩
  · have HD := done_any w.heap.size S' true w1 h3
    simp only [Bool.not_true, Bool.false_and] at HD
    have HD := hid HD
    have HE := hid h1
    clear h3 h1
    go_wp2_with fail
    refine HD.out.mono ?_
    rintro e w2 ⟨rfl, rfl⟩
    go_wp2_with fail
    go_ret2
    exact ⟨HB1.out, .inr ⟨(fun l h => by rw [HE.out] at h; cases h), rfl⟩⟩

end Go.Proofs.YtdmnlmohfaafoadGreatDoor
