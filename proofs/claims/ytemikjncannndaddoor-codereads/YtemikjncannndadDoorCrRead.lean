/- What code.From and code.ReadSeries tell. -/
import Derived.Test.YtemikjncannndadDoorCrSer
namespace Go.Proofs.YtemikjncannndadDoor
open Go.RowKit

theorem cfrom_any (s : ByteArray) (w : World) :
    Calls Tryd.prog 20 #[.string s] w fun e w' => e = .returned (.pointer (some ⟨w.heap.size, 0, none⟩)) ∧ w' = w.alloc (.cells #[.string s, .bool false] 90) := by
  go_enter Tryd.func20, Tryd.ntmps20
  go_wp2_with fail
  go_ret
  exact ⟨rfl, rfl⟩

theorem RdI.new (s : ByteArray) (w : World) : RdI (w.alloc (.cells #[.string s, .bool false] 90)) w.heap.size s.data.toList false := by
  show _ = _
  rw [sb_of]
  exact heap_alloc_new w _

/-- What ReadSeries tells. -/
def PRdEnd (w : World) (s : List UInt8) (e : Ending) (w' : World) : Prop :=
  Below w.heap.size w w' ∧ ((∃ l v, CD.rAll chD lbK s = some (l, []) ∧ e = .returned (.tuple #[v, .nilIface]) ∧ SrOwn w' w.heap.size v (l.map toSr)) ∨ ((∀ l, CD.rAll chD lbK s ≠ some (l, [])) ∧ e = .returned (.tuple #[.slice none 0 0, .iface 34 (.int .i64 3)])))

set_option maxRecDepth 100000 in
theorem preads_any (s : ByteArray) (w : World) (hs : s.size ≤ 5000000) (hW : Wids w) (hG : 1 < w.heap.size) :
    Calls Tryd.prog 33 #[.string s] w fun e w' => PRdEnd w s.data.toList e w' := by
  have hl : s.data.toList.length = s.size := by rw [Array.length_toList]; rfl
  have hI0 := RdI.new s w
  have hb0 : Below w.heap.size w (w.alloc (.cells #[.string s, .bool false] 90)) := (Below.refl _ w).alloc (Nat.le_refl _) _
  have HC := hid (pser_any w.heap.size s.data.toList _ hI0 (by omega) (hW.alloc hG _) (Nat.lt_of_lt_of_le hG hb0.size) (by omega))
  have HF := hid (cfrom_any s w)
  have HB0 := hid hb0
  clear hI0 hb0 hl hW
  generalize s.data.toList = L at *
  go_enter Tryd.func33, Tryd.ntmps33
  go_wp2_with fail
  refine HF.out.mono ?_
  rintro e w1 ⟨rfl, rfl⟩
  go_wp2_with fail
  refine HC.out.mono ?_
  rintro e w1 ⟨hBut, hend⟩
  have hB1 : Below w.heap.size w w1 := by
    refine ⟨hBut.1.trans HB0.out.os, hBut.2.1.trans HB0.out.tape, hBut.2.2.1.trans HB0.out.output, Nat.le_trans HB0.out.size hBut.2.2.2.1, fun j hj => ?_⟩
    exact (hBut.2.2.2.2 j (Nat.lt_of_lt_of_le hj HB0.out.size) (by omega)).trans (HB0.out.block j hj)
  have HB1 := hid hB1
  clear hB1 hBut HC HF
  rcases hend with ⟨l, r, v, h1, rfl, h3, h4, _⟩ | ⟨h1, rfl, S', h3, _⟩
  · have HD := done_any w.heap.size r false w1 h3
    have h5 : SrOwn w1 w.heap.size v (l.map toSr) := h4.low (by simp)
    obtain ⟨xs, hx1, hx2, _⟩ := h4
    obtain ⟨va, vc, hv⟩ := own_slice hx2
    rw [List.length_map] at hv
    have HE := hid h1
    have HS := hid h5
    clear h3 h5 h1 hx1 hx2
    subst hv
    cases r with
    | nil =>
      have e0 : (!false && decide (([] : List UInt8) = [])) = true := by simp
      rw [e0] at HD
      have HD := hid HD
      clear e0
      go_wp2_with fail
      refine HD.out.mono ?_
      rintro e w2 ⟨rfl, rfl⟩
      go_wp2_with fail
      go_ret2
      exact ⟨HB1.out, .inl ⟨l, _, HE.out, rfl, HS.out⟩⟩
    | cons x r =>
      have e0 : (!false && decide (x :: r = [])) = false := by simp
      rw [e0] at HD
      have HD := hid HD
      clear e0
      go_wp2_with fail
      refine HD.out.mono ?_
      rintro e w2 ⟨rfl, rfl⟩
      go_wp2_with fail
      go_ret2
      exact ⟨HB1.out, .inr ⟨(fun l' h => by rw [HE.out] at h; cases h), rfl⟩⟩
  · have HD := done_any w.heap.size S' true w1 h3
    simp only [Bool.not_true, Bool.false_and] at HD
    have HD := hid HD
    have HE := hid h1
    clear h3 h1
    go_wp2_with fail
    refine HD.out.mono ?_
    rintro e w2 ⟨rfl, rfl⟩
    go_wp2_with fail
    go_ret2
    exact ⟨HB1.out, .inr ⟨(fun l h => by rw [HE.out] at h; cases h), rfl⟩⟩

end Go.Proofs.YtemikjncannndadDoor
