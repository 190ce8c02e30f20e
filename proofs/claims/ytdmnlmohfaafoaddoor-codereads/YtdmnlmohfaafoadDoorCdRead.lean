/- A Taker that is bad takes no series; what the document's ReadSeries tells. -/
import Derived.Test.YtdmnlmohfaafoadDoorCdTake
namespace Go.Proofs.YtdmnlmohfaafoadDoor
open Go.RowKit

set_option maxRecDepth 100000 in
theorem rser_bad (bt : Nat) (S : List UInt8) (w : World) (h : TkI w bt S true) (hS : S.length ≤ 2000) :
    Calls Tryd.prog 28 #[.pointer (some ⟨bt, 0, none⟩)] w fun e w' => e = .returned (.slice none 0 0) ∧ TkI w' bt S true ∧ But bt w w' := by
  have HC := rnum_any bt S true w h (by omega)
  rw [tN_bad] at HC
  have HC := hid HC
  clear h
  go_enter Tryd.func28, Tryd.ntmps28
  go_wp2_with fail
  refine HC.out.mono ?_
  rintro e w1 ⟨rfl, hT, hG⟩
  dsimp only at hT ⊢
  obtain ⟨c0, c1, f0, f1⟩ := hT.c
  have HT := hid hT
  have HB := hid (But.grown hG)
  have hz : (sb S).size = S.length := sb_size S
  have HIn := lrin_any 0 0 (S.length : Int) w1
  rw [decide_eq_true (by omega)] at HIn
  have HIn := hid HIn
  clear hT hG HC
  go_wp2_with fail
  refine HIn.out.mono ?_
  rintro e w2 ⟨rfl, rfl⟩
  clear HIn
  go_wp2_with fail
  refine wp_loop_rounds 1 ?_
  rw [rounds_succ]
  go_wp2_with fail
  go_ret
  exact ⟨rfl, HT.out, HB.out⟩

/-- What ReadSeries tells. -/
def RRdEnd (w : World) (s : List UInt8) (e : Ending) (w' : World) : Prop :=
  Below w.heap.size w w' ∧ ((∃ l v, CD.rAll chD lbK s = some (l, []) ∧ e = .returned (.tuple #[v, .int .i64 0]) ∧ SrOwn w' w.heap.size v (l.map toSr)) ∨ ((∀ l, CD.rAll chD lbK s ≠ some (l, [])) ∧ e = .returned (.tuple #[.slice none 0 0, .int .i64 3])))

end Go.Proofs.YtdmnlmohfaafoadDoor
