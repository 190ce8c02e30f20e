/- What raingaugekeep's pick answers, as a number. -/
import Derived.Test.YtdmnlmohfaafoadDoorDkNum
import Derived.Test.YtdmnlmohfaafoadDoorLbMem
namespace Go.Proofs.YtdmnlmohfaafoadDoor
open Go.RowKit

/-- A number below n, by another one. -/
def DK.pk (a : Int) (n : Nat) : Nat := (a % 18446744073709551616).toNat % n

theorem DK.pk_lt (a : Int) {n : Nat} (h : 0 < n) : DK.pk a n < n := Nat.mod_lt _ h

set_option maxRecDepth 100000 in
set_option maxHeartbeats 400000 in
theorem pk_any (a : Int) (n : Nat) (w : World) (hn : 0 < n) (hn2 : n ≤ 1000000) :
    Calls Tryd.prog 16 #[.int .i64 a, .int .i64 n] w fun e w' => e = .returned (.int .i64 (DK.pk a n)) ∧ w' = w := by
  obtain ⟨U, hU, hUd⟩ : ∃ U : Nat, IntKind.u64.wrap a = (U : Int) ∧ U = (a % 18446744073709551616).toNat := ⟨(a % 18446744073709551616).toNat, by rw [IntKind.wrap_u64]; omega, rfl⟩
  have HUd := hid hUd
  have hUl : U < 18446744073709551616 := by rw [IntKind.wrap_u64] at hU; omega
  have hn3 : IntKind.u64.wrap (n : Int) = n := by rw [IntKind.wrap_u64]; omega
  have hml : (U : Int) % n < n := Int.emod_lt_of_pos _ (by omega)
  have hm0 : 0 ≤ (U : Int) % n := Int.emod_nonneg _ (by omega)
  have hm : IntKind.i64.wrap ((U : Int) % n) = (U : Int) % n := by rw [IntKind.wrap_i64]; omega
  clear hUd
  go_enter Tryd.func16, Tryd.ntmps16
  go_wp2
  go_ret
  refine ⟨ret_int ?_, rfl⟩
  unfold DK.pk
  rw [← HUd.out]
  simp

end Go.Proofs.YtdmnlmohfaafoadDoor
