/- The document's numbers and texts as bytes: eight, text; what a Taker takes: Number, Text. -/
import Derived.Test.YtdmnlmohfaafoadGreatDoorCdTxt
import Derived.Test.YtdmnlmohfaafoadGreatDoorCxRefN
namespace Go.Proofs.YtdmnlmohfaafoadGreatDoor
open Go.RowKit

theorem conv_one (W : World) (b : Nat) (x : UInt8) (h : W.cell? ⟨b, 0, none⟩ = some (.int .u8 (x.toNat : Int))) : (convert 47 9 (.slice (some ⟨b, 0, none⟩) 1 1)).run Tryz.prog W = .ok (.string (sb [x])) W := by
  have := run_convert_bytes_back (P := Tryz.prog) W 47 9 5 ⟨b, 0, none⟩ 1 [x] Tryz.underlying47 Tryz.underlying5 Tryz.underlying9 (fun j hj => by
    have hj0 : j = 0 := by simpa using hj
    subst hj0
    rw [Addr.add_lit]
    simp only [List.getElem_cons_zero]
    rw [Nat.zero_add, h])
  exact this

theorem b8_step (U : Nat) (i : Nat) (hi : i < 8) : (CD.b8 U).drop (7 - i) = UInt8.ofNat (U / 256 ^ i) :: (CD.b8 U).drop (8 - i) := by
  match i, hi with
  | 0, _ => simp [CD.b8]
  | 1, _ => simp [CD.b8]
  | 2, _ => simp [CD.b8]
  | 3, _ => simp [CD.b8]
  | 4, _ => simp [CD.b8]
  | 5, _ => simp [CD.b8]
  | 6, _ => simp [CD.b8]
  | 7, _ => simp [CD.b8]

set_option maxRecDepth 100000 in
theorem reight_any (n : Int) (w : World) (_h1 : -9223372036854775808 ≤ n) (_h2 : n ≤ 9223372036854775807) :
    Calls Tryz.prog 27 #[.int .i64 n] w fun e w' => e = .returned (.string (sb (CD.wN n))) ∧ Below w.heap.size w w' := by
  obtain ⟨U, hU, hUl, hUd⟩ : ∃ U : Nat, IntKind.u64.wrap n = (U : Int) ∧ U < 18446744073709551616 ∧ (n % 18446744073709551616).toNat = U := ⟨(n % 18446744073709551616).toNat, by rw [IntKind.wrap_u64]; omega, by omega, rfl⟩
  have HW : Hid (CD.wN n = CD.b8 U) := by
    show CD.b8 _ = _
    rw [hUd]
  generalize CD.wN n = X at *
  clear hUd
  go_enter Tryz.func27, Tryz.ntmps27
  go_wp2_with fail
  go_loopw [3, 4, 7] (fun t3 t4 ti wr => ∃ (i V : Nat), i ≤ 8 ∧ ti = .int .i64 i ∧ t3 = .string (sb ((CD.b8 U).drop (8 - i))) ∧ t4 = .int .u64 V ∧ V = U / 256 ^ i ∧ V < 18446744073709551616 ∧ Below w.heap.size w wr) (fun _ _ ti _ => 8 - (intOf ti).toNat)
  case atStart => exact ⟨0, U, by omega, rfl, rfl, rfl, by simp, by omega, Below.refl _ _⟩
  case round =>
    obtain ⟨i, V, hi, rfl, rfl, rfl, hV, hVl, hbel⟩ := hrel
    have HV := hid hV
    have HBl := hid hbel
    have hsz := hbel.size
    clear hV hbel
    by_cases hlt : i < 8
    · have HS := hid (b8_step U i hlt)
      have hx : ((UInt8.ofNat V).toNat : Int) = (V : Int) % 256 := by rw [UInt8.toNat_ofNat']; omega
      have hcv : ∀ (W : World) (b : Nat), W.cell? ⟨b, 0, none⟩ = some (.int .u8 ((V : Int) % 256)) → (convert 47 9 (.slice (some ⟨b, 0, none⟩) 1 1)).run Tryz.prog W = .ok (.string (sb [UInt8.ofNat V])) W := fun W b h => conv_one W b _ (by rw [hx]; exact h)
      clear hx
      have hL : ((CD.b8 U).drop (8 - i)).length ≤ 8 := by rw [List.length_drop, CD.b8_length]; omega
      have hno : ¬ 9223372036854775807 < (sb [UInt8.ofNat V]).size + (sb ((CD.b8 U).drop (8 - i))).size := by
        rw [sb_size, sb_size]
        simp only [List.length_cons, List.length_nil]
        omega
      clear hL
      generalize (CD.b8 U).drop (8 - i) = L at *
      go_wp2_with fail
      go_roundw
      case rel =>
        have e8 : 8 - (i + 1) = 7 - i := by omega
        have e9 : V / 256 = U / 256 ^ (i + 1) := by rw [HV.out, Nat.pow_succ, Nat.div_div_eq_div_mul]
        refine ⟨i + 1, V / 256, by omega, by go_num, ?_, by go_num, e9, by omega, HBl.out.alloc hsz _⟩
        rw [e8, HS.out, ← HV.out, sb_append]
        rfl
      case measure => simp [intOf]; omega
    · have he : i = 8 := by omega
      subst he
      go_wp2_with fail
      go_ret
      refine ⟨ret_str ?_, HBl.out⟩
      rw [HW.out]
      rfl

theorem rtext_any (s : ByteArray) (w : World) (hs : s.size ≤ 1000000) :
    Calls Tryz.prog 30 #[.string s] w fun e w' => e = .returned (.string (sb (CD.wT s.data.toList))) ∧ Below w.heap.size w w' := by
  have hl : s.data.toList.length = s.size := by rw [Array.length_toList]; rfl
  have HE : Hid (sb (CD.wN (s.size : Int)) ++ s = sb (CD.wT s.data.toList)) := by
    show _ = _
    unfold CD.wT
    rw [hl, ← sb_append, sb_of]
  have hno : ¬ 9223372036854775807 < (sb (CD.wN (s.size : Int))).size + s.size := by
    rw [sb_size, CD.wN_length]
    omega
  have HC := hid (reight_any (s.size : Int) w (by omega) (by omega))
  clear hl
  generalize sb (CD.wN (s.size : Int)) = A at *
  go_enter Tryz.func30, Tryz.ntmps30
  go_wp2_with fail
  refine HC.out.mono ?_
  rintro e w1 ⟨rfl, hb⟩
  have HB := hid hb
  clear hb
  go_wp2_with fail
  go_ret
  exact ⟨ret_str HE.out, HB.out⟩

/-- A Taker in block bt: what is left, and whether it is bad. -/
def TkI (w : World) (bt : Nat) (S : List UInt8) (bad : Bool) : Prop := w.heap[bt]? = some (.cells #[.string (sb S), .bool bad] 97)

theorem TkI.c {w : World} {bt : Nat} {S : List UInt8} {bad : Bool} (h : TkI w bt S bad) : w.cell? ⟨bt, 0, none⟩ = some (.string (sb S)) ∧ w.cell? ⟨bt, 1, none⟩ = some (.bool bad) ∧ w.frozen? ⟨bt, 0, none⟩ = false ∧ w.frozen? ⟨bt, 1, none⟩ = false := by
  have h' : w.heap[bt]? = some (.cells #[.string (sb S), .bool bad] 97) := h
  refine ⟨?_, ?_, ?_, ?_⟩ <;> simp [World.cell?, World.frozen?, h']

theorem TkI.s0 {w : World} {bt : Nat} {S : List UInt8} {bad : Bool} (h : TkI w bt S bad) (S' : List UInt8) : TkI (w.setCell ⟨bt, 0, none⟩ (.string (sb S'))) bt S' bad := by
  show _ = _
  rw [heap_setCell_same w bt 0 _ _ _ h]; rfl

theorem TkI.s1 {w : World} {bt : Nat} {S : List UInt8} {bad : Bool} (h : TkI w bt S bad) (b : Bool) : TkI (w.setCell ⟨bt, 1, none⟩ (.bool b)) bt S b := by
  show _ = _
  rw [heap_setCell_same w bt 1 _ _ _ h]; rfl

set_option maxRecDepth 100000 in
theorem rnum_any (bt : Nat) (S : List UInt8) (bad : Bool) (w : World) (h : TkI w bt S bad) (hS : S.length ≤ 1000000) :
    Calls Tryz.prog 72 #[.pointer (some ⟨bt, 0, none⟩)] w fun e w' => e = .returned (.int .i64 (tN S bad).1) ∧ TkI w' bt (tN S bad).2.1 (tN S bad).2.2 ∧ w.grownBy w' (some bt) := by
  obtain ⟨c0, c1, f0, f1⟩ := h.c
  have hz : (sb S).size = S.length := sb_size S
  have HT := hid h
  clear h
  cases bad with
  | true =>
    have HQ : Hid (TkI (w.setCell ⟨bt, 1, none⟩ (.bool true)) bt S true) := HT.out.s1 true
    go_enter Tryz.func72, Tryz.ntmps72
    go_wp2_with fail
    go_ret
    exact ⟨rfl, HQ.out, tgrown _ _ _ _⟩
  | false =>
    by_cases h8 : S.length < 8
    · have h8' : ((sb S).size : Int) < 8 := by omega
      have HQ : Hid (TkI (w.setCell ⟨bt, 1, none⟩ (.bool true)) bt S true) := HT.out.s1 true
      have HE : Hid (tN S false = (0, S, true)) := by
        show _ = _
        unfold tN CD.rN
        rw [if_neg (by decide), if_pos h8]
      generalize tN S false = O at *
      clear hz
      go_enter Tryz.func72, Tryz.ntmps72
      go_wp2_with fail
      go_ret
      rw [HE.out]
      exact ⟨rfl, HQ.out, tgrown _ _ _ _⟩
    · have h8' : ¬ ((sb S).size : Int) < 8 := by omega
      have h88 : 8 ≤ (sb S).size := by omega
      have hxr := sb_drop S 8 (by omega)
      have HQ : Hid (TkI (w.setCell ⟨bt, 0, none⟩ (.string (sb (S.drop 8)))) bt (S.drop 8) false) := HT.out.s0 _
      have HE : Hid (tN S false = (CL.W (CD.v8 (S.take 8)), S.drop 8, false)) := by
        show _ = _
        unfold tN CD.rN
        rw [if_neg (by decide), if_neg h8]
      generalize tN S false = O at *
      clear hz
      go_enter Tryz.func72, Tryz.ntmps72
      go_wp2_with fail
      go_loopw [3, 20] (fun t3 ti wr => ∃ (i V : Nat), i ≤ 8 ∧ ti = .int .i64 i ∧ t3 = .int .u64 V ∧ V = CD.v8 (S.take i) ∧ wr = w) (fun _ ti _ => 8 - (intOf ti).toNat)
      case atStart => exact ⟨0, 0, by omega, rfl, rfl, by simp [CD.v8], rfl⟩
      case round =>
        obtain ⟨i, V, hi, rfl, rfl, hV, rfl⟩ := hrel
        by_cases hlt : i < 8
        · have hix := sb_index S i (by omega)
          have hvl := v8_lt (S.take i)
          have hln : (S.take i).length = i := by rw [List.length_take]; omega
          rw [hln, ← hV] at hvl
          have hv7 : V < 72057594037927936 := by
            have : 256 ^ i ≤ 256 ^ 7 := Nat.pow_le_pow_right (by omega) (by omega)
            omega
          have HS := hid (v8_take S i (by omega))
          have HV := hid hV
          have hb := UInt8.toNat_lt (S[i]'(by omega))
          generalize (S[i]'(by omega)).toNat = b at *
          clear hvl hln hV
          go_wp2_with fail
          go_roundw
          case rel => exact ⟨i + 1, V * 256 + b, by omega, by go_num, by go_num, by rw [HS.out, ← HV.out], by first | rfl | trivial⟩
          case measure => simp [intOf]; omega
        · have he : i = 8 := by omega
          subst he
          have HV := hid hV
          clear hV
          go_wp2_with fail
          go_ret
          rw [HE.out]
          refine ⟨ret_int ?_, HQ.out, tgrown _ _ _ _⟩
          rw [HV.out]
          unfold wrap64 CL.W
          rfl

set_option maxRecDepth 100000 in
theorem rtxt_any (bt : Nat) (S : List UInt8) (bad : Bool) (w : World) (h : TkI w bt S bad) (hS : S.length ≤ 1000000) :
    Calls Tryz.prog 73 #[.pointer (some ⟨bt, 0, none⟩)] w fun e w' => e = .returned (.string (sb (tT S bad).1)) ∧ TkI w' bt (tT S bad).2.1 (tT S bad).2.2 ∧ w.grownBy w' (some bt) := by
  have HC := hid (rnum_any bt S bad w h hS)
  have hlen := tN_len S bad
  have HE : Hid (tT S bad = if (tN S bad).2.2 = false ∧ 0 ≤ (tN S bad).1 ∧ (tN S bad).1 ≤ (tN S bad).2.1.length then ((tN S bad).2.1.take (tN S bad).1.toNat, (tN S bad).2.1.drop (tN S bad).1.toNat, false) else ([], (tN S bad).2.1, true)) := rfl
  clear h
  generalize tT S bad = O at *
  generalize hO : tN S bad = Q at *
  obtain ⟨n, R, b⟩ := Q
  simp only at HE HC hlen
  clear hO
  go_enter Tryz.func73, Tryz.ntmps73
  go_wp2_with fail
  refine HC.out.mono ?_
  rintro e w1 ⟨rfl, hT, hG⟩
  obtain ⟨c0, c1, f0, f1⟩ := hT.c
  have HT := hid hT
  have HG := hid hG
  have hz : (sb R).size = R.length := sb_size R
  clear hT hG HC
  have HBad : Hid (TkI (w1.setCell ⟨bt, 1, none⟩ (.bool true)) bt R true ∧ w.grownBy (w1.setCell ⟨bt, 1, none⟩ (.bool true)) (some bt)) := ⟨HT.out.s1 true, HG.out.trans (tgrown _ _ _ _)⟩
  cases b with
  | true =>
    have HE2 : Hid (O = ([], R, true)) := by
      show _ = _
      rw [HE.out, if_neg (by simp)]
    clear HE hz
    go_wp2_with fail
    go_ret
    rw [HE2.out]
    exact ⟨rfl, HBad.out⟩
  | false =>
    by_cases hr : 0 ≤ n ∧ n ≤ R.length
    · have hr' : 0 ≤ n ∧ n ≤ ((sb R).size : Int) := by omega
      obtain ⟨k, rfl⟩ : ∃ k : Nat, n = k := ⟨n.toNat, by omega⟩
      have hkn : ((k : Int)).toNat = k := by omega
      have HE2 : Hid (O = (R.take k, R.drop k, false)) := by
        show _ = _
        rw [HE.out, if_pos ⟨rfl, hr⟩, hkn]
      have hkz : k ≤ (sb R).size := by omega
      have hx1 := sb_take R k
      have hx2 := sb_drop R k (by omega)
      have HQ : Hid (TkI (w1.setCell ⟨bt, 0, none⟩ (.string (sb (R.drop k)))) bt (R.drop k) false ∧ w.grownBy (w1.setCell ⟨bt, 0, none⟩ (.string (sb (R.drop k)))) (some bt)) := ⟨HT.out.s0 _, HG.out.trans (tgrown _ _ _ _)⟩
      clear HE hz hr HBad
      go_wp2_with fail
      refine (lrin_any (k : Int) 0 ((sb R).size : Int) w1).mono ?_
      rintro e w2 ⟨rfl, rfl⟩
      rw [decide_eq_true hr']
      clear hr'
      go_wp2_with fail
      go_ret
      rw [HE2.out]
      exact ⟨rfl, HQ.out⟩
    · have hr' : ¬ (0 ≤ n ∧ n ≤ ((sb R).size : Int)) := by omega
      have HE2 : Hid (O = ([], R, true)) := by
        show _ = _
        rw [HE.out, if_neg (fun h => hr h.2)]
      clear HE hz hr
      go_wp2_with fail
      refine (lrin_any n 0 ((sb R).size : Int) w1).mono ?_
      rintro e w2 ⟨rfl, rfl⟩
      rw [decide_eq_false hr']
      clear hr'
      go_wp2_with fail
      go_ret
      rw [HE2.out]
      exact ⟨rfl, HBad.out⟩

end Go.Proofs.YtdmnlmohfaafoadGreatDoor
