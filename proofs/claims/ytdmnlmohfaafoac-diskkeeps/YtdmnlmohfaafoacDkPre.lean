/- What strings.HasPrefix answers (made by mkdk.py). Never imported beside LbAsk. -/
import Derived.Test.YtdmnlmohfaafoacLbMem
namespace Go.Proofs.Ytdmnlmohfaafoac
open Go.RowKit

set_option maxRecDepth 100000 in
theorem prefix0_any (v x : ByteArray) (w : World) : Calls Try.prog 71 #[.string v, .string x] w fun e w' => e = .returned (.bool (LB.begins v x)) ∧ w' = w := by
  by_cases h : x.size ≤ v.size
  · have h' : (x.size : Int) ≤ (v.size : Int) := by omega
    have HE : Hid (LB.begins v x = ((v.extract 0 x.size).toList == x.toList)) := by
      show _ = _
      rw [LB.beq_eq, LB.begins, decide_eq_true h]; rfl
    generalize LB.begins v x = B at *
    go_enter Try.func71, Try.ntmps71
    go_wp2_with fail
    go_ret
    exact ⟨ret_bool HE.out.symm, rfl⟩
  · have h' : ¬ (x.size : Int) ≤ (v.size : Int) := by omega
    have HE : Hid (LB.begins v x = false) := by
      show _ = _
      rw [LB.begins, decide_eq_false h]; rfl
    generalize LB.begins v x = B at *
    go_enter Try.func71, Try.ntmps71
    go_wp2_with fail
    go_ret
    exact ⟨ret_bool HE.out.symm, rfl⟩

theorem prefix_any (v x : ByteArray) (w : World) : Calls Try.prog 37 #[.string v, .string x] w fun e w' => e = .returned (.bool (LB.begins v x)) ∧ w' = w := by
  go_enter Try.func37, Try.ntmps37
  go_wp2_with fail
  refine (prefix0_any v x _).mono ?_
  rintro e w2 ⟨rfl, rfl⟩
  go_wp2_with fail
  go_ret
  exact ⟨rfl, rfl⟩

end Go.Proofs.Ytdmnlmohfaafoac
