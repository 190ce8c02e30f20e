/- What roll.Floor, roll.multiples and its closure answer. -/
import Derived.Test.YtdmnlmohfaafoabDoorRlMem
namespace Go.Proofs.YtdmnlmohfaafoabDoor
open Go.RowKit

theorem rem_flr (t span : Int) (hs : 1 ≤ span) : -span < t.tmod span ∧ t.tmod span < span ∧ (t.tmod span < 0 → t - (t.tmod span + span) = CL.flr t span) ∧ (¬ t.tmod span < 0 → t - t.tmod span = CL.flr t span) := by
  have h1 := Int.emod_nonneg t (b := span) (by omega)
  have h2 := Int.emod_lt_of_pos t (b := span) (by omega)
  have e : t.tmod span = t % span - _ := Int.tmod_eq_emod (a := t) (b := span)
  have habs : (span.natAbs : Int) = span := by omega
  unfold CL.flr
  by_cases hc : 0 ≤ t ∨ span ∣ t
  · rw [if_pos hc] at e; omega
  · rw [if_neg hc, habs] at e
    have : t % span ≠ 0 := fun h => hc (.inr (Int.dvd_of_emod_eq_zero h))
    omega

set_option maxHeartbeats 400000 in
theorem floor_any (t span : Int) (w : World) (hs : 1 ≤ span ∧ span ≤ 1099511627776) (ht : -9007199254740992 ≤ t ∧ t ≤ 9007199254740992) :
    Calls Tryd.prog 19 #[.int .i64 t, .int .i64 span] w fun e w' => e = .returned (.int .i64 (CL.flr t span)) ∧ w' = w := by
  obtain ⟨r1, r2, r3, r4⟩ := rem_flr t span hs.1
  have h1 : ¬ span < 1 := by omega
  have h0 : span ≠ 0 := by omega
  generalize CL.flr t span = F at *
  generalize hr : t.tmod span = r at *
  have hw : IntKind.i64.wrap r = r := by rw [IntKind.wrap_i64]; omega
  by_cases hn : r < 0
  · have HF := hid (r3 hn)
    have hw1 : IntKind.i64.wrap (r + span) = r + span := by rw [IntKind.wrap_i64]; omega
    have hw2 : IntKind.i64.wrap (t - (r + span)) = t - (r + span) := by rw [IntKind.wrap_i64]; omega
    clear r3 r4
    go_enter Tryd.func19, Tryd.ntmps19
    go_wp2
    go_ret
    exact ⟨ret_int HF.out, rfl⟩
  · have HF := hid (r4 hn)
    have hw2 : IntKind.i64.wrap (t - r) = t - r := by rw [IntKind.wrap_i64]; omega
    clear r3 r4
    go_enter Tryd.func19, Tryd.ntmps19
    go_wp2
    go_ret
    exact ⟨ret_int HF.out, rfl⟩

set_option maxHeartbeats 400000 in
theorem multiples_any (m : Int) (w : World) :
    Calls Tryd.prog 31 #[.int .i64 m] w fun e w' => e = .returned (.func (.func 45) #[] #[.pointer (some ⟨w.heap.size, 0, none⟩)]) ∧ w' = w.alloc (.cells #[.int .i64 m] 2) := by
  go_enter Tryd.func31, Tryd.ntmps31
  go_wp2
  go_ret
  exact ⟨rfl, rfl⟩

set_option maxHeartbeats 400000 in
theorem mayBe_any (span m : Int) (B : Nat) (w : World) (hm : 1 ≤ m ∧ m ≤ 1099511627776) (hc : w.cell? ⟨B, 0, none⟩ = some (.int .i64 m)) :
    Calls Tryd.prog 45 #[.int .i64 span, .pointer (some ⟨B, 0, none⟩)] w fun e w' => e = .returned (.bool (decide (1 ≤ span ∧ span ≤ 1099511627776 ∧ span % m = 0))) ∧ w' = w := by
  have h0 : m ≠ 0 := by omega
  by_cases h1 : 1 ≤ span
  · by_cases h2 : span ≤ 1099511627776
    · have HD : Hid ((span % m == 0) = decide (1 ≤ span ∧ span ≤ 1099511627776 ∧ span % m = 0)) := by
        show _ = _
        rw [Bool.eq_iff_iff]; simp [h1, h2]
      generalize decide (1 ≤ span ∧ span ≤ 1099511627776 ∧ span % m = 0) = D at *
      go_enter Tryd.func45, Tryd.ntmps45
      go_wp2
      go_ret
      exact ⟨ret_bool HD.out, rfl⟩
    · have HD : decide (1 ≤ span ∧ span ≤ 1099511627776 ∧ span % m = 0) = false := by simp [h2]
      rw [HD]
      clear HD
      go_enter Tryd.func45, Tryd.ntmps45
      go_wp2
      go_ret
      exact ⟨rfl, rfl⟩
  · have HD : decide (1 ≤ span ∧ span ≤ 1099511627776 ∧ span % m = 0) = false := by simp [h1]
    rw [HD]
    clear HD
    go_enter Tryd.func45, Tryd.ntmps45
    go_wp2
    go_ret
    exact ⟨rfl, rfl⟩

end Go.Proofs.YtdmnlmohfaafoabDoor
