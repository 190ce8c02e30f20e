/- The document's Goes (made by mkbk.py) -/
import Derived.Test.YtdmnlmohfaafoaePMBrPart
import Derived.Test.YtdmnlmohfaafoaePMHxRefA
import Derived.Test.YtdmnlmohfaafoaePMHcRef
namespace Go.Proofs.Ytdmnlmohfaafoae
open Go.RowKit

theorem goes_any (mo : Option Addr) (ml mc : Nat) (fr tt : Int) (w : World) :
    Calls Try.prog 9 #[.agg #[.slice mo ml mc, .int .i64 fr, .int .i64 tt]] w fun e w' => e = .returned (.func (.func 21) #[] #[.pointer (some ⟨w.heap.size, 0, none⟩)]) ∧ w' = w.alloc (.cells #[.slice mo ml mc, .int .i64 fr, .int .i64 tt] 31) := by
  go_enter Try.func9, Try.ntmps9
  go_wp2
  go_ret
  exact ⟨rfl, rfl⟩

set_option maxRecDepth 100000 in
theorem goes1_any (lo mo : Option Addr) (L : List LB.Lab) (m : List LB.Mat) (lc mc : Nat) (t fr tt : Int) (B : Nat) (w : World) (h : w.heap[B]? = some (.cells #[.slice mo m.length mc, .int .i64 fr, .int .i64 tt] 31)) (hL : LRow w lo L) (hM : MRow w mo m) (hl : L.length ≤ 1000) (hm : m.length ≤ 1000) (hop : ∀ i, i < m.length → 0 ≤ (LB.am m i).op ∧ (LB.am m i).op ≤ 3) :
    Calls Try.prog 21 #[.slice lo L.length lc, .int .i64 t, .pointer (some ⟨B, 0, none⟩)] w fun e w' => e = .returned (.bool (goP m (fun s => decide (fr ≤ s) && decide (s ≤ tt)) L t)) ∧ Below w.heap.size w w' := by
  have h0 : w.cell? ⟨B, 0, none⟩ = some (.slice mo m.length mc) := zcell' _ _ _ _ h 0 _ rfl
  have h1 : w.cell? ⟨B, 1, none⟩ = some (.int .i64 fr) := zcell' _ _ _ _ h 1 _ rfl
  have h2 : w.cell? ⟨B, 2, none⟩ = some (.int .i64 tt) := zcell' _ _ _ _ h 2 _ rfl
  have HC := hid (rfits_any lo mo L m lc mc w hL hM hl hm hop)
  clear h hL hM hop
  go_enter Try.func21, Try.ntmps21
  go_wp2_with fail
  refine (rin_any t fr tt w).mono ?_
  rintro e w' ⟨rfl, rfl⟩
  by_cases hin : fr ≤ t ∧ t ≤ tt
  · rw [decide_eq_true hin]
    go_wp2_with fail
    refine HC.out.mono ?_
    rintro e w2 ⟨rfl, hb2⟩
    have HB := hid hb2
    clear hb2
    go_wp2_with fail
    go_ret
    refine ⟨?_, HB.out⟩
    show Ending.returned (Value.bool (LB.all L m)) = Ending.returned (Value.bool (LB.all L m && (decide (fr ≤ t) && decide (t ≤ tt))))
    rw [decide_eq_true hin.1, decide_eq_true hin.2]; simp
  · rw [decide_eq_false hin]
    have HI := hid hin
    clear hin
    go_wp2_with fail
    go_ret
    refine ⟨?_, Below.refl _ _⟩
    have : (decide (fr ≤ t) && decide (t ≤ tt)) = false := by
      rw [Bool.and_eq_false_iff]
      by_cases h3 : fr ≤ t
      · exact .inr (decide_eq_false fun h4 => HI.out ⟨h3, h4⟩)
      · exact .inl (decide_eq_false h3)
    show Ending.returned (Value.bool false) = Ending.returned (Value.bool (LB.all L m && (decide (fr ≤ t) && decide (t ≤ tt))))
    rw [this]; simp

end Go.Proofs.Ytdmnlmohfaafoae

