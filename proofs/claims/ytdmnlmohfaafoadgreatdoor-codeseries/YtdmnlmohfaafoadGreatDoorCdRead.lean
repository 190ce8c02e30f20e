/- A Taker that is bad takes no series; what the document's ReadSeries tells. -/
import Derived.Test.YtdmnlmohfaafoadGreatDoorCdTake
namespace Go.Proofs.YtdmnlmohfaafoadGreatDoor
open Go.RowKit

set_option maxRecDepth 100000 in
theorem rser_bad (bt : Nat) (S : List UInt8) (w : World) (h : TkI w bt S true) (hS : S.length ≤ 2000) :
    Calls Tryz.prog 39 #[.pointer (some ⟨bt, 0, none⟩)] w fun e w' => e = .returned (.slice none 0 0) ∧ TkI w' bt S true ∧ But bt w w' := by
  have HC := rnum_any bt S true w h (by omega)
  rw [tN_bad] at HC
  have HC := hid HC
  clear h
  go_enter Tryz.func39, Tryz.ntmps39
  go_wp2_with fail
  refine HC.out.mono ?_
  rintro e w1 ⟨rfl, hT, hG⟩
  dsimp only at hT ⊢
  obtain ⟨c0, c1, f0, f1⟩ := hT.c
  have HT := hid hT
  have HB := hid (But.grown hG)
  have hz : (sb S).size = S.length := sb_size S
  have HIn := lrin_any 0 0 (S.length : Int) w1
  rw [decide_eq_true (by omega)] at HIn
  have HIn := hid HIn
  clear hT hG HC
  go_wp2_with fail
  refine HIn.out.mono ?_
  rintro e w2 ⟨rfl, rfl⟩
  clear HIn
  go_wp2_with fail
  refine wp_loop_rounds 1 ?_
  rw [rounds_succ]
  go_wp2_with fail
  go_ret
  exact ⟨rfl, HT.out, HB.out⟩

/-- What ReadSeries tells. -/
def RRdEnd (w : World) (s : List UInt8) (e : Ending) (w' : World) : Prop :=
  Below w.heap.size w w' ∧ ((∃ l v, CD.rAll chD lbK s = some (l, []) ∧ e = .returned (.tuple #[v, .int .i64 0]) ∧ SrOwn w' w.heap.size v (l.map toSr)) ∨ ((∀ l, CD.rAll chD lbK s ≠ some (l, [])) ∧ e = .returned (.tuple #[.slice none 0 0, .int .i64 3])))

set_option maxRecDepth 100000 in
theorem rreads_any (s : ByteArray) (w : World) (hs : s.size ≤ 2000) :
    Calls Tryz.prog 9 #[.string s] w fun e w' => RRdEnd w s.data.toList e w' := by
  have hl : s.data.toList.length = s.size := by rw [Array.length_toList]; rfl
  have hT0 : TkI (w.alloc (.cells #[.string s, .bool false] 97)) w.heap.size s.data.toList false := by
    show _ = _
    rw [sb_of]
    exact heap_alloc_new w _
  have hb0 : Below w.heap.size w (w.alloc (.cells #[.string s, .bool false] 97)) := (Below.refl _ w).alloc (Nat.le_refl _) _
  have HC := hid (rser_any w.heap.size s.data.toList _ hT0 (by omega))
  have HB0 := hid hb0
  clear hT0 hb0 hl
  generalize s.data.toList = L at *
  go_enter Tryz.func9, Tryz.ntmps9
  go_wp2_with fail
  refine HC.out.mono ?_
  rintro e w1 ⟨hBut, hend⟩
  have hB1 : Below w.heap.size w w1 := by
    refine ⟨hBut.1.trans HB0.out.os, hBut.2.1.trans HB0.out.tape, hBut.2.2.1.trans HB0.out.output, Nat.le_trans HB0.out.size hBut.2.2.2.1, fun j hj => ?_⟩
    exact (hBut.2.2.2.2 j (Nat.lt_of_lt_of_le hj HB0.out.size) (by omega)).trans (HB0.out.block j hj)
  have HB1 := hid hB1
  clear hB1 hBut HC
  rcases hend with ⟨l, r, v, h1, rfl, h3, h4⟩ | ⟨h1, rfl, S', h3, _⟩
  · obtain ⟨c0, c1, f0, f1⟩ := h3.c
    have h5 : SrOwn w1 w.heap.size v (l.map toSr) := h4.low (by simp)
    obtain ⟨xs, hx1, hx2, _⟩ := h4
    obtain ⟨va, vc, hv⟩ := own_slice hx2
    rw [List.length_map] at hv
    have HE := hid h1
    have HS := hid h5
    have hrl : (sb r).toList = r := by rw [Lib.toList_data, sb_data]
    clear h3 h5 h1 hx1 hx2
    subst hv
    cases r with
    | nil =>
      have hq : ((sb ([] : List UInt8)).toList == ([] : List UInt8)) = true := by rw [hrl]; rfl
      go_wp2_with fail
      go_ret2
      exact ⟨HB1.out, .inl ⟨l, _, HE.out, rfl, HS.out⟩⟩
    | cons x r =>
      have hq : ((sb (x :: r)).toList == ([] : List UInt8)) = false := by rw [hrl]; rfl
      go_wp2_with fail
      go_ret2
      exact ⟨HB1.out, .inr ⟨(fun l' h => by rw [HE.out] at h; cases h), rfl⟩⟩
  · obtain ⟨c0, c1, f0, f1⟩ := h3.c
    have HE := hid h1
    clear h3 h1
    go_wp2_with fail
    go_ret2
    exact ⟨HB1.out, .inr ⟨(fun l h => by rw [HE.out] at h; cases h), rfl⟩⟩

end Go.Proofs.YtdmnlmohfaafoadGreatDoor
