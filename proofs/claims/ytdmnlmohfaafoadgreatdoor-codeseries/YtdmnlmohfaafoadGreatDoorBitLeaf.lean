/- What the small functions of package bits answer: last, fits, Zig, Zag, narrowest, and the table of widths. -/
import Derived.Test.YtdmnlmohfaafoadGreatDoorRows
import Derived.Test.YtdmnlmohfaafoadGreatDoorBitNum
import Derived.WalkKit
import Derived.WalkSpells
import Derived.WalkLawsBesides
import Derived.Handy
import Derived.Laws.BitsAllLaws
namespace Go.Proofs.YtdmnlmohfaafoadGreatDoor
open Go.RowKit

/-- The variable widths lies as its text says. -/
def Wids (w : World) : Prop := ∀ i, i < 7 → w.cell? ⟨1, i, none⟩ = some (.int .i64 (BL.wid i))

theorem hid {p : Prop} (h : p) : Hid p := h
theorem ret_int {k : IntKind} {a b : Int} (h : a = b) : Ending.returned (.int k a) = .returned (.int k b) := by rw [h]
theorem ret_bool {a b : Bool} (h : a = b) : Ending.returned (.bool a) = .returned (.bool b) := by rw [h]

theorem i64_not_any (n : Int) (h1 : -9223372036854775808 ≤ n) (h2 : n ≤ 9223372036854775807) : bits .xor .i64 (-1) n = -1 - n := by
  show IntKind.i64.wrap ((BitVec.ofInt 64 (-1) ^^^ BitVec.ofInt 64 n).toNat : Int) = _
  have e1 : BitVec.ofInt 64 (-1) = BitVec.allOnes 64 := by decide
  have e2 : ((BitVec.ofInt 64 n).toNat : Int) = n % 18446744073709551616 := by
    rw [BitVec.toNat_ofInt]; omega
  rw [e1, BitVec.allOnes_xor, BitVec.toNat_not, IntKind.wrap_i64]
  have e3 : (BitVec.ofInt 64 n).toNat < 18446744073709551616 := (BitVec.ofInt 64 n).isLt
  omega

theorem last_num (u k : Nat) (hu : u < 18446744073709551616) (hk : k ≤ 64) :
    bits BinOp.and IntKind.u64 (u : Int) (IntKind.u64.wrap (IntKind.u64.wrap (2 ^ k) - 1)) = ((u % 2 ^ k : Nat) : Int) := by
  have e1 : ((2 : Int) ^ k) = ((2 ^ k : Nat) : Int) := by simp
  have hp : 2 ^ k ≤ 2 ^ 64 := Nat.pow_le_pow_right (by omega) hk
  have hpos : 0 < 2 ^ k := Nat.two_pow_pos k
  rw [e1, IntKind.wrap_u64, IntKind.wrap_u64]
  have e2 : (((2 ^ k : Nat) : Int) % 18446744073709551616 - 1) % 18446744073709551616 = ((2 ^ k - 1 : Nat) : Int) := by
    generalize 2 ^ k = p at *
    omega
  rw [e2, u64_and_nat u _ hu (by omega), Nat.and_two_pow_sub_one_eq_mod]

set_option maxHeartbeats 400000 in
theorem last_any (u k : Nat) (w : World) (hu : u < 18446744073709551616) (hk : k ≤ 64) :
    Calls Tryz.prog 131 #[.int .u64 u, .int .i64 k] w fun e w' => e = .returned (.int .u64 ((u % 2 ^ k : Nat) : Int)) ∧ w' = w := by
  have H : Hid (bits BinOp.and IntKind.u64 (u : Int) (IntKind.u64.wrap (IntKind.u64.wrap (2 ^ k) - 1)) = ((u % 2 ^ k : Nat) : Int)) := last_num u k hu hk
  go_enter Tryz.func131, Tryz.ntmps131
  go_wp2
  go_ret
  exact ⟨ret_int H.out, rfl⟩

theorem last_int (u k : Int) (w : World) (hu0 : 0 ≤ u) (hu : u < 18446744073709551616) (hk0 : 0 ≤ k) (hk : k ≤ 64) :
    Calls Tryz.prog 131 #[.int .u64 u, .int .i64 k] w fun e w' => e = .returned (.int .u64 (u % 2 ^ k.toNat)) ∧ w' = w := by
  obtain ⟨a, rfl⟩ := Int.eq_ofNat_of_zero_le hu0
  obtain ⟨b, rfl⟩ := Int.eq_ofNat_of_zero_le hk0
  refine (last_any a b w (by omega) (by omega)).mono ?_
  rintro e w' ⟨rfl, rfl⟩
  exact ⟨ret_int (by simp), rfl⟩

theorem div_zero_iff (u p : Nat) (hp : 0 < p) : (((u : Int) / (p : Int)) == 0) = decide (u < p) := by
  rw [Bool.eq_iff_iff]
  simp only [beq_iff_eq, decide_eq_true_eq]
  have e : (u : Int) / (p : Int) = ((u / p : Nat) : Int) := by simp
  rw [e]
  constructor
  · intro h
    have h0 : u / p = 0 := by omega
    rcases Nat.div_eq_zero_iff.1 h0 with h | h <;> omega
  · intro h
    rw [Nat.div_eq_of_lt h]; rfl

set_option maxHeartbeats 400000 in
theorem fits_any (u k : Nat) (w : World) (hk : k ≤ 64) :
    Calls Tryz.prog 130 #[.int .u64 u, .int .i64 k] w fun e w' => e = .returned (.bool (decide (u < 2 ^ k))) ∧ w' = w := by
  have H : Hid (((u : Int) / 2 ^ k == 0) = decide (u < 2 ^ k)) := by
    show _ = _
    have := div_zero_iff u (2 ^ k) (Nat.two_pow_pos k)
    simpa using this
  go_enter Tryz.func130, Tryz.ntmps130
  go_wp2
  go_ret
  exact ⟨ret_bool H.out, rfl⟩

theorem zig_num (n : Int) (h1 : -9223372036854775808 ≤ n) (h2 : n < 0) :
    IntKind.u64.wrap (IntKind.u64.wrap (2 * IntKind.u64.wrap (bits BinOp.xor IntKind.i64 (-1) n)) + 1) = (BL.zig n : Int) := by
  rw [i64_not_any n h1 (by omega)]
  simp only [IntKind.wrap_u64, BL.zig, if_pos h2]
  omega

set_option maxHeartbeats 400000 in
theorem zig_any (n : Int) (w : World) (h1 : -9223372036854775808 ≤ n) (h2 : n ≤ 9223372036854775807) :
    Calls Tryz.prog 100 #[.int .i64 n] w fun e w' => e = .returned (.int .u64 (BL.zig n)) ∧ w' = w := by
  have hs : IntKind.i64.signed = true := rfl
  by_cases h : n < 0
  · have H : Hid (IntKind.u64.wrap (IntKind.u64.wrap (2 * IntKind.u64.wrap (bits BinOp.xor IntKind.i64 (-1) n)) + 1) = (BL.zig n : Int)) := zig_num n h1 h
    go_enter Tryz.func100, Tryz.ntmps100
    go_wp2
    go_ret
    exact ⟨ret_int H.out, rfl⟩
  · have H : Hid (2 * n = (BL.zig n : Int)) := by show _ = _; unfold BL.zig; rw [if_neg h]; omega
    go_enter Tryz.func100, Tryz.ntmps100
    go_wp2
    go_ret
    exact ⟨ret_int H.out, rfl⟩

set_option maxHeartbeats 400000 in
theorem zag_any (u : Nat) (w : World) (hu : u < 18446744073709551616) :
    Calls Tryz.prog 174 #[.int .u64 u] w fun e w' => e = .returned (.int .i64 (BL.zag u)) ∧ w' = w := by
  have hs : IntKind.i64.signed = true := rfl
  by_cases h : u % 2 = 1
  · have H : Hid (bits BinOp.xor IntKind.i64 (-1) ((u : Int) / 2) = BL.zag u) := by
      show _ = _
      rw [i64_not_any _ (by omega) (by omega)]; unfold BL.zag; rw [if_pos h]; omega
    have hb : (((u : Int) % 2) == 1) = true := by rw [beq_iff_eq]; omega
    clear h
    go_enter Tryz.func174, Tryz.ntmps174
    go_wp2
    go_ret
    exact ⟨ret_int H.out, rfl⟩
  · have H : Hid ((u : Int) / 2 = BL.zag u) := by show _ = _; unfold BL.zag; rw [if_neg h]; omega
    have hb : (((u : Int) % 2) == 1) = false := by rw [beq_eq_false_iff_ne]; omega
    clear h
    go_enter Tryz.func174, Tryz.ntmps174
    go_wp2
    go_ret
    exact ⟨ret_int H.out, rfl⟩

set_option maxHeartbeats 400000 in
theorem nar_any (u : Nat) (w : World) (hw : Wids w) (hu : u < 18446744073709551616) :
    Calls Tryz.prog 101 #[.int .u64 u] w fun e w' => e = .returned (.int .i64 (BL.nar u)) ∧ w' = w := by
  have hle := BL.nar_le u
  have HF : Hid (u < 2 ^ BL.wid (BL.nar u)) := BL.fits_wid u hu
  go_enter Tryz.func101, Tryz.ntmps101
  go_wp2
  go_loop [3] (fun t => ∃ k : Nat, k ≤ BL.nar u ∧ t = .int .i64 k) (fun t => BL.nar u - (intOf t).toNat)
  case atStart => exact ⟨0, Nat.zero_le _, rfl⟩
  case round =>
    obtain ⟨k, hk, rfl⟩ := hrel
    have hc := hw k (by omega)
    have hwl := BL.wid_le k
    by_cases hlt : k < BL.nar u
    · have hd : decide (u < 2 ^ BL.wid k) = false := decide_eq_false (BL.nar_below u k hlt)
      go_wp2_with (go_at_call 130; refine (fits_any _ _ _ hwl).mono ?_; rintro e w' ⟨rfl, rfl⟩)
      go_round
      case rel => exact ⟨k + 1, by omega, by go_num⟩
      case measure => simp [intOf]; omega
    · have he : k = BL.nar u := by omega
      subst he
      have hd : decide (u < 2 ^ BL.wid (BL.nar u)) = true := decide_eq_true HF.out
      go_wp2_with (go_at_call 130; refine (fits_any _ _ _ hwl).mono ?_; rintro e w' ⟨rfl, rfl⟩)
      go_ret
      exact ⟨rfl, rfl⟩

end Go.Proofs.YtdmnlmohfaafoadGreatDoor
