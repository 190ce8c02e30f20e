/- What raingaugekeep's pick answers (made by mkrl.py). -/
import Derived.Test.YtdmnlmohfaafoabRlBase
import Derived.WalkKit
import Derived.WalkSpells
import Derived.WalkLawsBesides
import Derived.Handy
import Derived.Laws.BitsAllLaws
import Derived.StillTailTactics
import Derived.BigQuiet
import Derived.Deep.Onto
import Derived.Laws.StructEq
namespace Go.Proofs.Ytdmnlmohfaafoab
open Go.RowKit


set_option maxHeartbeats 400000 in
theorem pick_any (a : Int) (n : Nat) (w : World) (hn : 0 < n) (hn2 : n ≤ 1000000) :
    Calls Try.prog 11 #[.int .i64 a, .int .i64 n] w fun e w' => (∃ k : Nat, k < n ∧ e = .returned (.int .i64 k)) ∧ w' = w := by
  obtain ⟨U, hU⟩ : ∃ U : Nat, IntKind.u64.wrap a = (U : Int) := ⟨(a % 18446744073709551616).toNat, by rw [IntKind.wrap_u64]; omega⟩
  have hUl : U < 18446744073709551616 := by rw [IntKind.wrap_u64] at hU; omega
  have hn3 : IntKind.u64.wrap (n : Int) = n := by rw [IntKind.wrap_u64]; omega
  have hml : (U : Int) % n < n := Int.emod_lt_of_pos _ (by omega)
  have hm0 : 0 ≤ (U : Int) % n := Int.emod_nonneg _ (by omega)
  have hm : IntKind.i64.wrap ((U : Int) % n) = (U : Int) % n := by rw [IntKind.wrap_i64]; omega
  go_enter Try.func11, Try.ntmps11
  go_wp2
  go_ret
  refine ⟨⟨U % n, Nat.mod_lt _ hn, ret_int ?_⟩, rfl⟩
  simp

end Go.Proofs.Ytdmnlmohfaafoab
