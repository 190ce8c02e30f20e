/- What the document's own answer (package raingaugeref) says of bits: Zig, Zag, size, Add, Put, Bytes. -/
import Derived.Test.YtdmnlmohfaafoadGreatDoorBitPut
import Derived.Test.YtdmnlmohfaafoadGreatDoorShelf
namespace Go.Proofs.YtdmnlmohfaafoadGreatDoor
open Go.RowKit

/-- Bits as letters. -/
def lt (l : List Bool) : List UInt8 := l.map fun b => if b then 49 else 48
def ltS (l : List Bool) : ByteArray := ⟨(lt l).toArray⟩

theorem lt_append (a b : List Bool) : lt (a ++ b) = lt a ++ lt b := by simp [lt]
theorem lt_length (a : List Bool) : (lt a).length = a.length := by simp [lt]
theorem ltS_size (a : List Bool) : (ltS a).size = a.length := by simp [ltS, ByteArray.size, lt]

theorem rzig_num (n : Int) (h1 : -9223372036854775808 ≤ n) (h2 : n < 0) :
    IntKind.u64.wrap (IntKind.u64.wrap (IntKind.u64.wrap (-IntKind.u64.wrap n) * 2) - 1) = (BL.zig n : Int) := by
  simp only [IntKind.wrap_u64, BL.zig, if_pos h2]
  omega

set_option maxHeartbeats 400000 in
theorem rzig_any (n : Int) (w : World) (h1 : -9223372036854775808 ≤ n) (h2 : n ≤ 9223372036854775807) :
    Calls Tryz.prog 96 #[.int .i64 n] w fun e w' => e = .returned (.int .u64 (BL.zig n)) ∧ w' = w := by
  by_cases h : n < 0
  · have H := hid (rzig_num n h1 h)
    go_enter Tryz.func96, Tryz.ntmps96
    go_wp2
    go_ret
    exact ⟨ret_int H.out, rfl⟩
  · have H : Hid (n * 2 = (BL.zig n : Int)) := by show _ = _; unfold BL.zig; rw [if_neg h]; omega
    go_enter Tryz.func96, Tryz.ntmps96
    go_wp2
    go_ret
    exact ⟨ret_int H.out, rfl⟩

set_option maxHeartbeats 400000 in
theorem rzag_any (u : Nat) (w : World) (hu : u < 18446744073709551616) :
    Calls Tryz.prog 135 #[.int .u64 u] w fun e w' => e = .returned (.int .i64 (BL.zag u)) ∧ w' = w := by
  by_cases h : u % 2 = 1
  · have hb : (((u : Int) % 2) == 1) = true := by rw [beq_iff_eq]; omega
    have H : Hid (-((u : Int) / 2) - 1 = BL.zag u) := by show _ = _; unfold BL.zag; rw [if_pos h]; omega
    clear h
    go_enter Tryz.func135, Tryz.ntmps135
    go_wp2
    go_ret
    exact ⟨ret_int H.out, rfl⟩
  · have H : Hid ((u : Int) / 2 = BL.zag u) := by show _ = _; unfold BL.zag; rw [if_neg h]; omega
    have hb : (((u : Int) % 2) == 1) = false := by rw [beq_eq_false_iff_ne]; omega
    clear h
    go_enter Tryz.func135, Tryz.ntmps135
    go_wp2
    go_ret
    exact ⟨ret_int H.out, rfl⟩

theorem size_ix0 (w : World) : Sem.run Tryz.prog (Instr.index 170 (.agg #[.int .i64 0, .int .i64 4, .int .i64 7, .int .i64 12, .int .i64 20, .int .i64 32, .int .i64 64]) (.int .i64 0)) w = .ok (.int .i64 0) w := by kernel_rfl
theorem size_ix1 (w : World) : Sem.run Tryz.prog (Instr.index 170 (.agg #[.int .i64 0, .int .i64 4, .int .i64 7, .int .i64 12, .int .i64 20, .int .i64 32, .int .i64 64]) (.int .i64 1)) w = .ok (.int .i64 4) w := by kernel_rfl
theorem size_ix2 (w : World) : Sem.run Tryz.prog (Instr.index 170 (.agg #[.int .i64 0, .int .i64 4, .int .i64 7, .int .i64 12, .int .i64 20, .int .i64 32, .int .i64 64]) (.int .i64 2)) w = .ok (.int .i64 7) w := by kernel_rfl
theorem size_ix3 (w : World) : Sem.run Tryz.prog (Instr.index 170 (.agg #[.int .i64 0, .int .i64 4, .int .i64 7, .int .i64 12, .int .i64 20, .int .i64 32, .int .i64 64]) (.int .i64 3)) w = .ok (.int .i64 12) w := by kernel_rfl
theorem size_ix4 (w : World) : Sem.run Tryz.prog (Instr.index 170 (.agg #[.int .i64 0, .int .i64 4, .int .i64 7, .int .i64 12, .int .i64 20, .int .i64 32, .int .i64 64]) (.int .i64 4)) w = .ok (.int .i64 20) w := by kernel_rfl
theorem size_ix5 (w : World) : Sem.run Tryz.prog (Instr.index 170 (.agg #[.int .i64 0, .int .i64 4, .int .i64 7, .int .i64 12, .int .i64 20, .int .i64 32, .int .i64 64]) (.int .i64 5)) w = .ok (.int .i64 32) w := by kernel_rfl
theorem size_ix6 (w : World) : Sem.run Tryz.prog (Instr.index 170 (.agg #[.int .i64 0, .int .i64 4, .int .i64 7, .int .i64 12, .int .i64 20, .int .i64 32, .int .i64 64]) (.int .i64 6)) w = .ok (.int .i64 64) w := by kernel_rfl

set_option maxRecDepth 100000 in
set_option maxHeartbeats 400000 in
theorem size_any (i : Nat) (w : World) (hi : i < 7) :
    Calls Tryz.prog 97 #[.int .i64 i] w fun e w' => e = .returned (.int .i64 (BL.wid i)) ∧ w' = w := by
  have h : i = 0 ∨ i = 1 ∨ i = 2 ∨ i = 3 ∨ i = 4 ∨ i = 5 ∨ i = 6 := by omega
  rcases h with rfl | rfl | rfl | rfl | rfl | rfl | rfl
  · have hix := size_ix0 w
    go_enter Tryz.func97, Tryz.ntmps97
    go_wp2
    go_ret
    exact ⟨rfl, rfl⟩
  · have hix := size_ix1 w
    go_enter Tryz.func97, Tryz.ntmps97
    go_wp2
    go_ret
    exact ⟨rfl, rfl⟩
  · have hix := size_ix2 w
    go_enter Tryz.func97, Tryz.ntmps97
    go_wp2
    go_ret
    exact ⟨rfl, rfl⟩
  · have hix := size_ix3 w
    go_enter Tryz.func97, Tryz.ntmps97
    go_wp2
    go_ret
    exact ⟨rfl, rfl⟩
  · have hix := size_ix4 w
    go_enter Tryz.func97, Tryz.ntmps97
    go_wp2
    go_ret
    exact ⟨rfl, rfl⟩
  · have hix := size_ix5 w
    go_enter Tryz.func97, Tryz.ntmps97
    go_wp2
    go_ret
    exact ⟨rfl, rfl⟩
  · have hix := size_ix6 w
    go_enter Tryz.func97, Tryz.ntmps97
    go_wp2
    go_ret
    exact ⟨rfl, rfl⟩

theorem ltS_append (a b : List Bool) : ltS a ++ ltS b = ltS (a ++ b) := by
  apply ByteArray.ext
  simp [ltS, lt_append]

theorem digit_str (x : Nat) (b : Bool) (h : x % 2 = b.toNat) : strOfNums [48 + (x : Int) % 2] = ltS [b] := by
  have e : (48 + (x : Int) % 2).toNat = 48 + b.toNat := by omega
  unfold strOfNums ltS lt
  simp only [List.map_cons, List.map_nil, e]
  cases b <;> rfl

theorem div_bit (u j : Nat) : u / 2 ^ j % 2 = (u.testBit j).toNat := by
  rw [Nat.toNat_testBit]

set_option maxRecDepth 100000 in
set_option maxHeartbeats 400000 in
theorem radd_any (bs : List Bool) (u : Nat) (k : Int) (w : World) (hu : u < 18446744073709551616) (hb : bs.length ≤ 1000000000) (hk1 : -9223372036854775808 ≤ k) (hk2 : k ≤ 9223372036854775807) :
    Calls Tryz.prog 99 #[.string (ltS bs), .int .u64 u, .int .i64 k] w fun e w' =>
      e = .returned (.string (ltS (bs ++ BL.bitsOf u (min k 64).toNat))) ∧ Below w.heap.size w w' := by
  obtain ⟨K, hK⟩ : ∃ K : Nat, max (min k 64) 0 = (K : Int) := ⟨(max (min k 64) 0).toNat, by omega⟩
  have hK64 : K ≤ 64 := by omega
  have HK : Hid ((min k 64).toNat = K) := by show _ = _; omega
  go_enter Tryz.func99, Tryz.ntmps99
  go_wp2
  go_loopw [1, 7, 11] (fun tu ts tj wr => ∃ j x : Nat, j ≤ K ∧ x = u / 2 ^ j ∧ tu = .int .u64 x ∧ ts = .string (ltS (BL.bitsOf u j)) ∧ tj = .int .i64 j ∧ Below w.heap.size w wr) (fun _ _ tj _ => K - (intOf tj).toNat)
  case atStart => exact ⟨0, u, by omega, by simp, rfl, rfl, rfl, Below.refl _ _⟩
  case round =>
    obtain ⟨j, x, hj, hx, rfl, rfl, rfl, hbel⟩ := hrel
    have hxl : x < 18446744073709551616 := by
      have := Nat.div_le_self u (2 ^ j)
      rw [hx]; omega
    have HX := hid hx
    have HB := hid hbel
    clear hx hbel
    have hsz : ¬ 9223372036854775807 < (ltS bs).size + (ltS (BL.bitsOf u j)).size := by rw [ltS_size, ltS_size, BL.bitsOf_length]; omega
    by_cases hlt : j < K
    · have hcv := run_convert_bytes_arg (P := Tryz.prog) (wr.alloc (.cells #[.int .u8 (48 + (x : Int) % 2)] 5)) 47 5 Tryz.underlying47 Tryz.underlying5 wr.heap.size 0 1 1 [48 + (x : Int) % 2] rfl
        (fun i hi => by
          have e : i = 0 := by omega
          subst e; simp) 9 Tryz.underlying9
      rw [digit_str x (u.testBit j) (by rw [HX.out, div_bit])] at hcv
      have hsz2 : ¬ 9223372036854775807 < (ltS [u.testBit j]).size + (ltS (BL.bitsOf u j)).size := by rw [ltS_size, ltS_size, BL.bitsOf_length]; simp; omega
      generalize hbj : u.testBit j = b at *
      have HBJ := hid hbj
      clear hbj
      go_wp2
      go_roundw
      case rel =>
        refine ⟨j + 1, x / 2, by omega, by rw [HX.out, Nat.div_div_eq_div_mul, ← Nat.pow_succ], by simp, ?_, by go_num, HB.out.alloc HB.out.size _⟩
        rw [ltS_append, BL.bitsOf, HBJ.out]; rfl
      case measure => simp [intOf]; omega
    · have he : j = K := by omega
      subst he
      go_wp2
      go_ret
      refine ⟨?_, HB.out⟩
      rw [HK.out, ← ltS_append]; rfl

end Go.Proofs.YtdmnlmohfaafoadGreatDoor
