/- A code.Reader in memory; what its Bad, rest, Done, take, Number, Size and Text tell. -/
import Derived.Test.YtemikjncannndadDoorCdTake
import Derived.Test.YtemikjncannndadDoorShelfC
namespace Go.Proofs.YtemikjncannndadDoor
open Go.RowKit

/-- A Reader in block br: what is left, and whether it is bad. -/
def RdI (w : World) (br : Nat) (S : List UInt8) (bad : Bool) : Prop := w.heap[br]? = some (.cells #[.string (sb S), .bool bad] 90)

theorem RdI.c {w : World} {br : Nat} {S : List UInt8} {bad : Bool} (h : RdI w br S bad) : w.cell? ⟨br, 0, none⟩ = some (.string (sb S)) ∧ w.cell? ⟨br, 1, none⟩ = some (.bool bad) ∧ w.frozen? ⟨br, 0, none⟩ = false ∧ w.frozen? ⟨br, 1, none⟩ = false := by
  have h' : w.heap[br]? = some (.cells #[.string (sb S), .bool bad] 90) := h
  refine ⟨?_, ?_, ?_, ?_⟩ <;> simp [World.cell?, World.frozen?, h']

theorem RdI.s0 {w : World} {br : Nat} {S : List UInt8} {bad : Bool} (h : RdI w br S bad) (S' : List UInt8) : RdI (w.setCell ⟨br, 0, none⟩ (.string (sb S'))) br S' bad := by
  show _ = _
  rw [heap_setCell_same w br 0 _ _ _ h]; rfl

theorem RdI.s1 {w : World} {br : Nat} {S : List UInt8} {bad : Bool} (h : RdI w br S bad) (b : Bool) : RdI (w.setCell ⟨br, 1, none⟩ (.bool b)) br S b := by
  show _ = _
  rw [heap_setCell_same w br 1 _ _ _ h]; rfl

theorem RdI.below {w w' : World} {br : Nat} {S : List UInt8} {bad : Bool} (h : RdI w br S bad) (hb : Below w.heap.size w w') : RdI w' br S bad := (hb.block br (heap_lt h)).trans h

theorem bad_any (br : Nat) (S : List UInt8) (bad : Bool) (w : World) (h : RdI w br S bad) :
    Calls Tryd.prog 29 #[.pointer (some ⟨br, 0, none⟩)] w fun e w' => e = .returned (.bool bad) ∧ w' = w := by
  obtain ⟨c0, c1, f0, f1⟩ := h.c
  clear h
  go_enter Tryd.func29, Tryd.ntmps29
  go_wp2_with fail
  go_ret
  exact ⟨rfl, rfl⟩

/-- How many bytes may still be taken. -/
def leftN (S : List UInt8) (bad : Bool) : Nat := if bad then 0 else S.length

theorem rest_any (br : Nat) (S : List UInt8) (bad : Bool) (w : World) (h : RdI w br S bad) :
    Calls Tryd.prog 51 #[.pointer (some ⟨br, 0, none⟩)] w fun e w' => e = .returned (.int .i64 (leftN S bad)) ∧ w' = w := by
  obtain ⟨c0, c1, f0, f1⟩ := h.c
  have HC := hid (bad_any br S bad w h)
  have HZ := hid (sb_size S)
  clear h
  go_enter Tryd.func51, Tryd.ntmps51
  go_wp2_with fail
  refine HC.out.mono ?_
  rintro e w1 ⟨rfl, rfl⟩
  cases bad with
  | true =>
    go_wp2_with fail
    go_ret
    exact ⟨rfl, rfl⟩
  | false =>
    go_wp2_with fail
    go_ret
    exact ⟨ret_int (by rw [HZ.out]; rfl), rfl⟩

theorem done_any (br : Nat) (S : List UInt8) (bad : Bool) (w : World) (h : RdI w br S bad) :
    Calls Tryd.prog 30 #[.pointer (some ⟨br, 0, none⟩)] w fun e w' => e = .returned (.bool (!bad && decide (S = []))) ∧ w' = w := by
  have HC := hid (bad_any br S bad w h)
  have HC2 := hid (rest_any br S bad w h)
  clear h
  go_enter Tryd.func30, Tryd.ntmps30
  go_wp2_with fail
  refine HC.out.mono ?_
  rintro e w1 ⟨rfl, rfl⟩
  cases bad with
  | true =>
    go_wp2_with fail
    go_ret
    exact ⟨rfl, rfl⟩
  | false =>
    go_wp2_with fail
    refine HC2.out.mono ?_
    rintro e w1 ⟨rfl, rfl⟩
    go_wp2_with fail
    go_ret
    refine ⟨ret_bool ?_, rfl⟩
    cases S with
    | nil => rfl
    | cons x S =>
      simp [leftN]
      try omega

/-- What take tells, and leaves. -/
def tK (S : List UInt8) (bad : Bool) (k : Nat) : List UInt8 × List UInt8 × Bool := if bad then ([], S, true) else if S.length < k then ([], S, true) else (S.take k, S.drop k, false)

set_option maxRecDepth 100000 in
theorem take_any (br : Nat) (S : List UInt8) (bad : Bool) (k : Nat) (w : World) (h : RdI w br S bad) (_hS : S.length ≤ 1000000000) (_hk : k ≤ 1000000000) :
    Calls Tryd.prog 50 #[.pointer (some ⟨br, 0, none⟩), .int .i64 k] w fun e w' => e = .returned (.string (sb (tK S bad k).1)) ∧ RdI w' br (tK S bad k).2.1 (tK S bad k).2.2 ∧ w.grownBy w' (some br) := by
  obtain ⟨c0, c1, f0, f1⟩ := h.c
  have HC := hid (bad_any br S bad w h)
  have hz := sb_size S
  have HI := hid h
  clear h
  cases bad with
  | true =>
    go_enter Tryd.func50, Tryd.ntmps50
    go_wp2_with fail
    refine HC.out.mono ?_
    rintro e w1 ⟨rfl, rfl⟩
    go_wp2_with fail
    go_ret
    exact ⟨rfl, HI.out, World.grownBy.refl _ _⟩
  | false =>
    by_cases hlt : S.length < k
    · have hlt' : ((sb S).size : Int) < (k : Int) := by omega
      have HE : Hid (tK S false k = ([], S, true)) := by
        show _ = _
        unfold tK
        rw [if_neg (by decide), if_pos hlt]
      have HQ : Hid (RdI (w.setCell ⟨br, 1, none⟩ (.bool true)) br S true) := HI.out.s1 true
      generalize tK S false k = O at *
      clear hz
      go_enter Tryd.func50, Tryd.ntmps50
      go_wp2_with fail
      refine HC.out.mono ?_
      rintro e w1 ⟨rfl, rfl⟩
      go_wp2_with fail
      go_ret
      rw [HE.out]
      exact ⟨rfl, HQ.out, tgrown _ _ _ _⟩
    · have hlt' : ¬ ((sb S).size : Int) < (k : Int) := by omega
      have hkz : k ≤ (sb S).size := by omega
      have hx1 := sb_take S k
      have hx2 := sb_drop S k (by omega)
      have HE : Hid (tK S false k = (S.take k, S.drop k, false)) := by
        show _ = _
        unfold tK
        rw [if_neg (by decide), if_neg hlt]
      have HQ : Hid (RdI (w.setCell ⟨br, 0, none⟩ (.string (sb (S.drop k)))) br (S.drop k) false) := HI.out.s0 _
      generalize tK S false k = O at *
      clear hz
      go_enter Tryd.func50, Tryd.ntmps50
      go_wp2_with fail
      refine HC.out.mono ?_
      rintro e w1 ⟨rfl, rfl⟩
      go_wp2_with fail
      go_ret
      rw [HE.out]
      exact ⟨rfl, HQ.out, tgrown _ _ _ _⟩

end Go.Proofs.YtemikjncannndadDoor
