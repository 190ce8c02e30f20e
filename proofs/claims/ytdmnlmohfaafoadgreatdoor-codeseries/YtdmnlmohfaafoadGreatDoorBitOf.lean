/- What the document's own answer says of bits: Of (the bits of bytes, as letters). -/
import Derived.Test.YtdmnlmohfaafoadGreatDoorBitRd
import Derived.Test.YtdmnlmohfaafoadGreatDoorBitRef
import Derived.Test.YtdmnlmohfaafoadGreatDoorShelfW
namespace Go.Proofs.YtdmnlmohfaafoadGreatDoor
open Go.RowKit

theorem take_letter (bs : List Bool) (m : Nat) (h : m < bs.length) : lt (bs.take (m + 1)) = lt (bs.take m) ++ [if bs[m]?.getD false then 49 else 48] := by
  rw [List.take_succ_eq_append_getElem h, lt_append]
  simp [lt, h]

theorem bit_letter (s : ByteArray) (j m : Nat) (hj : j < s.size) (hm : m < 8) : ((bitsS s)[8 * j + m]?.getD false) = ((s[j]'hj).toNat.testBit (7 - m)) := by
  unfold bitsS
  rw [BL.bitsB_get]
  have e1 : (8 * j + m) / 8 = j := by omega
  have e2 : (8 * j + m) % 8 = m := by omega
  rw [e1, e2]
  simp [hj]
  rfl

theorem letter_num (b k : Nat) (hb : b < 256) :
    (48 + bits BinOp.and IntKind.u8 ((b : Int) / 2 ^ k) 1) % 256 = (((if b.testBit k then 49 else 48 : UInt8).toNat : Nat) : Int) := by
  have e : ((b : Int) / 2 ^ k) = ((b / 2 ^ k : Nat) : Int) := by simp
  have hl : b / 2 ^ k < 256 := Nat.lt_of_le_of_lt (Nat.div_le_self _ _) hb
  have h1 := u8_and_nat (b / 2 ^ k) 1 hl (by omega)
  rw [e]
  rw [show ((1 : Nat) : Int) = 1 from rfl] at h1
  rw [h1, Nat.and_one_is_mod, ← Nat.toNat_testBit]
  cases b.testBit k <;> rfl

set_option maxRecDepth 100000 in
set_option maxHeartbeats 1600000 in
theorem of_any (s : ByteArray) (w : World) (hs : s.size ≤ 2000) :
    Calls Tryz.prog 108 #[.string s] w fun e w' => e = .returned (.string (ltS (bitsS s))) ∧ Below w.heap.size w w' := by
  have hbl := bitsS_length s
  have HBL := hid hbl
  clear hbl
  go_enter Tryz.func108, Tryz.ntmps108
  go_wp2
  go_loopw [8] (fun t wr => ∃ j : Nat, j ≤ s.size ∧ t = .int .i64 j ∧ Lib.IsBuilder 77 5 w.heap.size w.heap.size (Lib.byteCells (lt ((bitsS s).take (8 * j)))) wr ∧ Below w.heap.size w wr) (fun t _ => s.size - (intOf t).toNat)
  case atStart => exact ⟨0, by omega, rfl, Lib.fresh_isBuilder _ _ w, (Below.refl _ _).alloc (Nat.le_refl _) _⟩
  case round =>
    obtain ⟨j, hj, rfl, hib, hbel⟩ := hrel
    have HIB := hid hib
    have HB := hid hbel
    clear hib hbel
    by_cases hlt : j < s.size
    · obtain ⟨b, hb⟩ : ∃ b : Nat, (s[j]'hlt).toNat = b := ⟨_, rfl⟩
      have hb8 : b < 256 := by rw [← hb]; exact (s[j]'hlt).toNat_lt
      have hbx : ∀ h, (s[j]'h).toNat = b := fun _ => hb
      have HBI : Hid (∀ m, m < 8 → ((bitsS s)[8 * j + m]?.getD false) = b.testBit (7 - m)) := fun m hm => by rw [bit_letter s j m hlt hm, hb]
      clear hb
      go_wp2
      go_loopw [5] (fun t wq => ∃ m : Nat, m ≤ 8 ∧ t = .int .i64 (7 - (m : Int)) ∧ Lib.IsBuilder 77 5 w.heap.size w.heap.size (Lib.byteCells (lt ((bitsS s).take (8 * j + m)))) wq ∧ Below w.heap.size w wq) (fun t _ => (intOf t + 1).toNat)
      case atStart => exact ⟨0, by omega, rfl, HIB.out, HB.out⟩
      case round =>
        obtain ⟨m, hm, rfl, hib, hbel⟩ := hrel
        have HIB2 := hid hib
        have HB2 := hid hbel
        clear hib hbel
        by_cases hm8 : m < 8
        · have hm7 : (m : Int) ≤ 7 := by omega
          have HT := hid (take_letter (bitsS s) (8 * j + m) (by rw [HBL.out]; omega))
          have HLN := hid (letter_num b (7 - m) hb8)
          have hlen : (Lib.byteCells (lt ((bitsS s).take (8 * j + m)))).length + 1 ≤ 140737488355328 := by
            rw [Lib.byteCells_length, lt_length, List.length_take]; omega
          go_wp2_with fail
          rw [HLN.out]
          refine (Tryz.Builder_WriteByte w.heap.size w.heap.size _ _ _ HIB2.out hlen HB2.out.size).mono ?_
          rintro e w2 ⟨rfl, hba, hb2⟩
          have HIB3 : Hid (Lib.IsBuilder 77 5 w.heap.size w.heap.size (Lib.byteCells (lt ((bitsS s).take (8 * j + (m + 1))))) w2) := by
            refine .inr ?_
            rw [← Nat.add_assoc, HT.out, HBI.out m hm8]
            simpa [Lib.byteCells] using hba
          have HB3 := hid (HB2.out.trans hb2)
          clear hba hb2
          go_wp2_with fail
          go_roundw
          case rel => exact ⟨m + 1, by omega, by rw [show (7 : Int) - (m : Int) - 1 = 7 - ((m + 1 : Nat) : Int) by omega], HIB3.out, HB3.out⟩
          case measure => simp [intOf]; omega
        · have he : m = 8 := by omega
          subst he
          go_wp2
          go_roundw
          case rel => exact ⟨j + 1, by omega, by go_num, HIB2.out, HB2.out⟩
          case measure => simp [intOf]; omega
    · have he : j = s.size := by omega
      subst he
      have HF : Hid ((bitsS s).take (8 * s.size) = bitsS s) := List.take_of_length_le (by rw [HBL.out]; omega)
      go_wp2_with fail
      refine (Tryz.Builder_String_any w.heap.size w.heap.size _ _ HIB.out HB.out.size).mono ?_
      rintro e w2 ⟨rfl, hb2⟩
      have HB2 := hid (HB.out.trans hb2)
      clear hb2
      rw [HF.out]
      go_wp2_with fail
      go_ret
      exact ⟨rfl, HB2.out⟩

end Go.Proofs.YtdmnlmohfaafoadGreatDoor
