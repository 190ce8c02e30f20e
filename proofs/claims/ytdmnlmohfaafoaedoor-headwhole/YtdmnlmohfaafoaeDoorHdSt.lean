/- A head within a law: all that was there ahead of it stays. Names no function. -/
import Derived.Test.YtdmnlmohfaafoaeDoorHdApp
namespace Go.Proofs.YtdmnlmohfaafoaeDoor
open Go.RowKit

structure HSt (w0 w : World) (hb : Nat) (Z : Nat → Prop) (mark : Int) (S : List Sr) : Prop where
  hd : HdI w hb Z mark S
  bel : Below w0.heap.size w0 w
  low : ∀ j, Z j → w0.heap.size ≤ j

section
variable {w0 w w' : World} {hb : Nat} {Z : Nat → Prop} {mark mark' : Int} {S S' : List Sr}

theorem HSt.below (h : HSt w0 w hb Z mark S) (k : Below w.heap.size w w') : HSt w0 w' hb Z mark S := ⟨h.hd.below k, bel2 h.bel k, h.low⟩

theorem HSt.step (h : HSt w0 w hb Z mark S) (hI : HdI w' hb (wid Z w w') mark' S') (hf : ZFr Z w w') : HSt w0 w' hb (wid Z w w') mark' S' :=
  ⟨hI, h.bel.trans (hf.low h.bel.size h.low), fun j hj => by
    rcases hj with e | e
    · exact h.low j e
    · exact Nat.le_trans h.bel.size e.1⟩

/-- What lay ahead of all lies out of it. -/
theorem HSt.old (h : HSt w0 w hb Z mark S) {ao : Option Addr} {l : List Sr} (hl : SrRow w0 ao l) : SrOut w Z ao l := by
  have h1 : SrOut w0 (fun j => w0.heap.size ≤ j) ao l := SrOut.of_row hl (fun _ hj => hj)
  have h2 : SrOut w (fun j => w0.heap.size ≤ j) ao l := h1.kept ⟨h.bel.os, h.bel.tape, h.bel.output, h.bel.size, fun j hj _ => h.bel.block j hj⟩
  exact h2.wide fun j hj => .inl (h.low j hj)

theorem HSt.box (h : HSt w0 w hb Z mark S) : ∃ v, w.heap[hb]? = some (.cells #[.int .i64 mark, v] 73) := by
  obtain ⟨⟨v, xs, hX, _⟩, _⟩ := h.hd
  exact ⟨v, hX.box⟩

theorem HSt.zlt (h : HSt w0 w hb Z mark S) : ∀ j, Z j → j < w.heap.size := h.hd.2.2

end

theorem HSt.new (mark : Int) (w : World) : HSt w (w.alloc (.cells #[.int .i64 mark, .slice none 0 0] 73)) w.heap.size (fun j => w.heap.size ≤ j ∧ j < w.heap.size + 1) mark [] :=
  ⟨HdI.new mark w, (Below.refl _ w).alloc (Nat.le_refl _) _, fun _ hj => hj.1⟩

end Go.Proofs.YtdmnlmohfaafoaeDoor
