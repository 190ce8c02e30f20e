/- The document's numbers and texts as bytes: eight, text; what a Taker takes: Number, Text. -/
import Derived.Test.YtemikjncannndadDoorCdNum
import Derived.Test.YtemikjncannndadDoorCxRefN
namespace Go.Proofs.YtemikjncannndadDoor
open Go.RowKit

/-- Bytes as a text. -/
def sb (l : List UInt8) : ByteArray := ⟨l.toArray⟩

theorem sb_size (l : List UInt8) : (sb l).size = l.length := by show l.toArray.size = _; simp

theorem sb_data (l : List UInt8) : (sb l).data.toList = l := by simp [sb]

theorem sb_of (s : ByteArray) : sb s.data.toList = s := by cases s; simp [sb]

theorem sb_append (a b : List UInt8) : sb a ++ sb b = sb (a ++ b) := by
  have h : ∀ x y : ByteArray, x.data.toList = y.data.toList → x = y := fun x y h => by
    cases x; cases y; simp at h; rw [h]
  apply h
  simp [sb]

theorem conv_one (W : World) (b : Nat) (x : UInt8) (h : W.cell? ⟨b, 0, none⟩ = some (.int .u8 (x.toNat : Int))) : (convert 80 9 (.slice (some ⟨b, 0, none⟩) 1 1)).run Tryd.prog W = .ok (.string (sb [x])) W := by
  have := run_convert_bytes_back (P := Tryd.prog) W 80 9 5 ⟨b, 0, none⟩ 1 [x] Tryd.underlying80 Tryd.underlying5 Tryd.underlying9 (fun j hj => by
    have hj0 : j = 0 := by simpa using hj
    subst hj0
    rw [Addr.add_lit]
    simp only [List.getElem_cons_zero]
    rw [Nat.zero_add, h])
  exact this

theorem b8_step (U : Nat) (i : Nat) (hi : i < 8) : (CD.b8 U).drop (7 - i) = UInt8.ofNat (U / 256 ^ i) :: (CD.b8 U).drop (8 - i) := by
  match i, hi with
  | 0, _ => simp [CD.b8]
  | 1, _ => simp [CD.b8]
  | 2, _ => simp [CD.b8]
  | 3, _ => simp [CD.b8]
  | 4, _ => simp [CD.b8]
  | 5, _ => simp [CD.b8]
  | 6, _ => simp [CD.b8]
  | 7, _ => simp [CD.b8]

/-- A Taker in block bt: what is left, and whether it is bad. -/
def TkI (w : World) (bt : Nat) (S : List UInt8) (bad : Bool) : Prop := w.heap[bt]? = some (.cells #[.string (sb S), .bool bad] 55)

theorem TkI.c {w : World} {bt : Nat} {S : List UInt8} {bad : Bool} (h : TkI w bt S bad) : w.cell? ⟨bt, 0, none⟩ = some (.string (sb S)) ∧ w.cell? ⟨bt, 1, none⟩ = some (.bool bad) ∧ w.frozen? ⟨bt, 0, none⟩ = false ∧ w.frozen? ⟨bt, 1, none⟩ = false := by
  have h' : w.heap[bt]? = some (.cells #[.string (sb S), .bool bad] 55) := h
  refine ⟨?_, ?_, ?_, ?_⟩ <;> simp [World.cell?, World.frozen?, h']

theorem TkI.s0 {w : World} {bt : Nat} {S : List UInt8} {bad : Bool} (h : TkI w bt S bad) (S' : List UInt8) : TkI (w.setCell ⟨bt, 0, none⟩ (.string (sb S'))) bt S' bad := by
  show _ = _
  rw [heap_setCell_same w bt 0 _ _ _ h]; rfl

theorem TkI.s1 {w : World} {bt : Nat} {S : List UInt8} {bad : Bool} (h : TkI w bt S bad) (b : Bool) : TkI (w.setCell ⟨bt, 1, none⟩ (.bool b)) bt S b := by
  show _ = _
  rw [heap_setCell_same w bt 1 _ _ _ h]; rfl

theorem tgrown (w : World) (b o : Nat) (u : Value) : w.grownBy (w.setCell ⟨b, o, none⟩ u) (some b) := ⟨rfl, rfl, rfl, by simp, fun k _ hk => Below.heap_setCell w ⟨b, o, none⟩ u k (fun e => hk (by rw [e]))⟩

/-- A number is taken. -/
def tN (S : List UInt8) (bad : Bool) : Int × List UInt8 × Bool := if bad then (0, S, true) else match CD.rN S with
  | none => (0, S, true)
  | some (n, r) => (n, r, false)

theorem sb_drop (S : List UInt8) (k : Nat) (_h : k ≤ S.length) : (sb S).extract k (sb S).size = sb (S.drop k) := by
  have h0 : ∀ x y : ByteArray, x.data.toList = y.data.toList → x = y := fun x y h => by
    cases x; cases y; simp at h; rw [h]
  apply h0
  rw [ByteArray.data_extract, Array.toList_extract, List.extract_eq_take_drop, sb_data, sb_data, sb_size, List.take_of_length_le (by rw [List.length_drop]; omega)]

theorem sb_take (S : List UInt8) (k : Nat) : (sb S).extract 0 k = sb (S.take k) := by
  have h0 : ∀ x y : ByteArray, x.data.toList = y.data.toList → x = y := fun x y h => by
    cases x; cases y; simp at h; rw [h]
  apply h0
  rw [ByteArray.data_extract, Array.toList_extract, List.extract_eq_take_drop, sb_data, sb_data, List.drop_zero, Nat.sub_zero]

theorem v8_take (S : List UInt8) (i : Nat) (h : i < S.length) : CD.v8 (S.take (i + 1)) = CD.v8 (S.take i) * 256 + (S[i]'h).toNat := by
  have e : S.take (i + 1) = S.take i ++ [S[i]'h] := by rw [List.take_add_one, List.getElem?_eq_getElem h]; rfl
  rw [e]
  unfold CD.v8
  rw [List.foldl_append]
  rfl

theorem v8_lt (l : List UInt8) : CD.v8 l < 256 ^ l.length := by
  unfold CD.v8
  have key : ∀ (l : List UInt8) (a : Nat), l.foldl (fun a b => a * 256 + b.toNat) a < (a + 1) * 256 ^ l.length := by
    intro l
    induction l with
    | nil => intro a; simp
    | cons x l ih =>
      intro a
      have h1 := ih (a * 256 + x.toNat)
      have hx := UInt8.toNat_lt x
      simp only [List.foldl_cons, List.length_cons]
      have h2 : (a * 256 + x.toNat + 1) * 256 ^ l.length ≤ (a + 1) * 256 * 256 ^ l.length := Nat.mul_le_mul_right _ (by omega)
      have h3 : (a + 1) * 256 ^ (l.length + 1) = (a + 1) * 256 * 256 ^ l.length := by rw [Nat.pow_succ, Nat.mul_comm (256 ^ l.length), ← Nat.mul_assoc]
      omega
  have := key l 0
  simpa using this

theorem sb_index (S : List UInt8) (i : Nat) (h : i < S.length) (W : World) : (Instr.index 9 (.string (sb S)) (.int .i64 (i : Int))).run Tryd.prog W = .ok (.int .u8 ((S[i]'h).toNat : Int)) W := by
  have hz := sb_size S
  rw [run_index_string W 9 (sb S) .i64 (i : Int) Tryd.underlying9, dif_pos ⟨by omega, by omega⟩]
  congr 3

set_option maxRecDepth 100000 in
theorem rnum_any (bt : Nat) (S : List UInt8) (bad : Bool) (w : World) (h : TkI w bt S bad) (hS : S.length ≤ 1000000) :
    Calls Tryd.prog 22 #[.pointer (some ⟨bt, 0, none⟩)] w fun e w' => e = .returned (.int .i64 (tN S bad).1) ∧ TkI w' bt (tN S bad).2.1 (tN S bad).2.2 ∧ w.grownBy w' (some bt) := by
  obtain ⟨c0, c1, f0, f1⟩ := h.c
  have hz : (sb S).size = S.length := sb_size S
  have HT := hid h
  clear h
  cases bad with
  | true =>
    have HQ : Hid (TkI (w.setCell ⟨bt, 1, none⟩ (.bool true)) bt S true) := HT.out.s1 true
    go_enter Tryd.func22, Tryd.ntmps22
    go_wp2_with fail
    go_ret
    exact ⟨rfl, HQ.out, tgrown _ _ _ _⟩
  | false =>
    by_cases h8 : S.length < 8
    · have h8' : ((sb S).size : Int) < 8 := by omega
      have HQ : Hid (TkI (w.setCell ⟨bt, 1, none⟩ (.bool true)) bt S true) := HT.out.s1 true
      have HE : Hid (tN S false = (0, S, true)) := by
        show _ = _
        unfold tN CD.rN
        rw [if_neg (by decide), if_pos h8]
      generalize tN S false = O at *
      clear hz
      go_enter Tryd.func22, Tryd.ntmps22
      go_wp2_with fail
      go_ret
      rw [HE.out]
      exact ⟨rfl, HQ.out, tgrown _ _ _ _⟩
    · have h8' : ¬ ((sb S).size : Int) < 8 := by omega
      have h88 : 8 ≤ (sb S).size := by omega
      have hxr := sb_drop S 8 (by omega)
      have HQ : Hid (TkI (w.setCell ⟨bt, 0, none⟩ (.string (sb (S.drop 8)))) bt (S.drop 8) false) := HT.out.s0 _
      have HE : Hid (tN S false = (CL.W (CD.v8 (S.take 8)), S.drop 8, false)) := by
        show _ = _
        unfold tN CD.rN
        rw [if_neg (by decide), if_neg h8]
      generalize tN S false = O at *
      clear hz
      go_enter Tryd.func22, Tryd.ntmps22
      go_wp2_with fail
      go_loopw [3, 20] (fun t3 ti wr => ∃ (i V : Nat), i ≤ 8 ∧ ti = .int .i64 i ∧ t3 = .int .u64 V ∧ V = CD.v8 (S.take i) ∧ wr = w) (fun _ ti _ => 8 - (intOf ti).toNat)
      case atStart => exact ⟨0, 0, by omega, rfl, rfl, by simp [CD.v8], rfl⟩
      case round =>
        obtain ⟨i, V, hi, rfl, rfl, hV, rfl⟩ := hrel
        by_cases hlt : i < 8
        · have hix := sb_index S i (by omega)
          have hvl := v8_lt (S.take i)
          have hln : (S.take i).length = i := by rw [List.length_take]; omega
          rw [hln, ← hV] at hvl
          have hv7 : V < 72057594037927936 := by
            have : 256 ^ i ≤ 256 ^ 7 := Nat.pow_le_pow_right (by omega) (by omega)
            omega
          have HS := hid (v8_take S i (by omega))
          have HV := hid hV
          have hb := UInt8.toNat_lt (S[i]'(by omega))
          generalize (S[i]'(by omega)).toNat = b at *
          clear hvl hln hV
          go_wp2_with fail
          go_roundw
          case rel => exact ⟨i + 1, V * 256 + b, by omega, by go_num, by go_num, by rw [HS.out, ← HV.out], by first | rfl | trivial⟩
          case measure => simp [intOf]; omega
        · have he : i = 8 := by omega
          subst he
          have HV := hid hV
          clear hV
          go_wp2_with fail
          go_ret
          rw [HE.out]
          refine ⟨ret_int ?_, HQ.out, tgrown _ _ _ _⟩
          rw [HV.out]
          unfold wrap64 CL.W
          rfl

/-- A text is taken. -/
def tT (S : List UInt8) (bad : Bool) : List UInt8 × List UInt8 × Bool :=
  if (tN S bad).2.2 = false ∧ 0 ≤ (tN S bad).1 ∧ (tN S bad).1 ≤ (tN S bad).2.1.length then ((tN S bad).2.1.take (tN S bad).1.toNat, (tN S bad).2.1.drop (tN S bad).1.toNat, false) else ([], (tN S bad).2.1, true)

theorem tN_len (S : List UInt8) (bad : Bool) : (tN S bad).2.1.length ≤ S.length := by
  unfold tN
  split
  · exact Nat.le_refl _
  · split
    · exact Nat.le_refl _
    · rename_i n r h
      unfold CD.rN at h
      split at h
      · cases h
      · simp only [Option.some.injEq, Prod.mk.injEq] at h
        rw [← h.2]
        show (S.drop 8).length ≤ _
        rw [List.length_drop]
        omega

theorem grown_two {a b c : World} {row : Option Nat} (h : a.grownBy b row) (k : b.grownBy c row) : a.grownBy c row := h.trans k

set_option maxRecDepth 100000 in
theorem rtxt_any (bt : Nat) (S : List UInt8) (bad : Bool) (w : World) (h : TkI w bt S bad) (hS : S.length ≤ 1000000) :
    Calls Tryd.prog 24 #[.pointer (some ⟨bt, 0, none⟩)] w fun e w' => e = .returned (.string (sb (tT S bad).1)) ∧ TkI w' bt (tT S bad).2.1 (tT S bad).2.2 ∧ w.grownBy w' (some bt) := by
  have HC := hid (rnum_any bt S bad w h hS)
  have hlen := tN_len S bad
  have HE : Hid (tT S bad = if (tN S bad).2.2 = false ∧ 0 ≤ (tN S bad).1 ∧ (tN S bad).1 ≤ (tN S bad).2.1.length then ((tN S bad).2.1.take (tN S bad).1.toNat, (tN S bad).2.1.drop (tN S bad).1.toNat, false) else ([], (tN S bad).2.1, true)) := rfl
  clear h
  generalize tT S bad = O at *
  generalize hO : tN S bad = Q at *
  obtain ⟨n, R, b⟩ := Q
  simp only at HE HC hlen
  clear hO
  go_enter Tryd.func24, Tryd.ntmps24
  go_wp2_with fail
  refine HC.out.mono ?_
  rintro e w1 ⟨rfl, hT, hG⟩
  obtain ⟨c0, c1, f0, f1⟩ := hT.c
  have HT := hid hT
  have HG := hid hG
  have hz : (sb R).size = R.length := sb_size R
  clear hT hG HC
  have HBad : Hid (TkI (w1.setCell ⟨bt, 1, none⟩ (.bool true)) bt R true ∧ w.grownBy (w1.setCell ⟨bt, 1, none⟩ (.bool true)) (some bt)) := ⟨HT.out.s1 true, HG.out.trans (tgrown _ _ _ _)⟩
  cases b with
  | true =>
    have HE2 : Hid (O = ([], R, true)) := by
      show _ = _
      rw [HE.out, if_neg (by simp)]
    clear HE hz
    go_wp2_with fail
    go_ret
    rw [HE2.out]
    exact ⟨rfl, HBad.out⟩
  | false =>
    by_cases hr : 0 ≤ n ∧ n ≤ R.length
    · have hr' : 0 ≤ n ∧ n ≤ ((sb R).size : Int) := by omega
      obtain ⟨k, rfl⟩ : ∃ k : Nat, n = k := ⟨n.toNat, by omega⟩
      have hkn : ((k : Int)).toNat = k := by omega
      have HE2 : Hid (O = (R.take k, R.drop k, false)) := by
        show _ = _
        rw [HE.out, if_pos ⟨rfl, hr⟩, hkn]
      have hkz : k ≤ (sb R).size := by omega
      have hx1 := sb_take R k
      have hx2 := sb_drop R k (by omega)
      have HQ : Hid (TkI (w1.setCell ⟨bt, 0, none⟩ (.string (sb (R.drop k)))) bt (R.drop k) false ∧ w.grownBy (w1.setCell ⟨bt, 0, none⟩ (.string (sb (R.drop k)))) (some bt)) := ⟨HT.out.s0 _, HG.out.trans (tgrown _ _ _ _)⟩
      clear HE hz hr HBad
      go_wp2_with fail
      refine (lrin_any (k : Int) 0 ((sb R).size : Int) w1).mono ?_
      rintro e w2 ⟨rfl, rfl⟩
      rw [decide_eq_true hr']
      clear hr'
      go_wp2_with fail
      go_ret
      rw [HE2.out]
      exact ⟨rfl, HQ.out⟩
    · have hr' : ¬ (0 ≤ n ∧ n ≤ ((sb R).size : Int)) := by omega
      have HE2 : Hid (O = ([], R, true)) := by
        show _ = _
        rw [HE.out, if_neg (fun h => hr h.2)]
      clear HE hz hr
      go_wp2_with fail
      refine (lrin_any n 0 ((sb R).size : Int) w1).mono ?_
      rintro e w2 ⟨rfl, rfl⟩
      rw [decide_eq_false hr']
      clear hr'
      go_wp2_with fail
      go_ret
      rw [HE2.out]
      exact ⟨rfl, HBad.out⟩

end Go.Proofs.YtemikjncannndadDoor
