/- Acts of a disk, in memory, and what is kept while they are played on both sides. -/
import Derived.Test.YtdmnlmohfaafoacDoorDkDo
import Derived.Test.YtdmnlmohfaafoacDoorDkStart
import Derived.Test.YtdmnlmohfaafoacDoorDkList
import Derived.Test.YtdmnlmohfaafoacDoorDkRch
import Derived.Test.YtdmnlmohfaafoacDoorDkRst
import Derived.Test.YtdmnlmohfaafoacDoorDkBare
namespace Go.Proofs.YtdmnlmohfaafoacDoor
open Go.RowKit Go.Maps

/-- An act: what, a number, a name, a text. -/
structure Ac where
  a : Int
  n : Int
  f : ByteArray
  s : ByteArray

def acD : Ac := ⟨0, 0, ByteArray.empty, ByteArray.empty⟩
def atA (L : List Ac) (i : Nat) : Ac := L.getD i acD

/-- The acts L lie from ao on. -/
def ARow (w : World) (ao : Option Addr) (L : List Ac) : Prop :=
  ∀ i, i < L.length → ∃ b off, ao = some ⟨b, off, none⟩ ∧ w.cell? ⟨b, off + i * 4, none⟩ = some (.int .i64 (atA L i).a) ∧ w.cell? ⟨b, off + i * 4 + 1, none⟩ = some (.int .i64 (atA L i).n) ∧
    w.cell? ⟨b, off + i * 4 + 2, none⟩ = some (.string (atA L i).f) ∧ w.cell? ⟨b, off + i * 4 + 3, none⟩ = some (.string (atA L i).s) ∧ b < w.heap.size

/-- Both sides hold the same files, and lie apart. -/
structure PlayI (w : World) (bd br bm cnt c2 : Nat) (X : Nat → Prop) (D E : DK.M) (p q : Int) (W : World) : Prop where
  dk : Dk W X bd cnt D p
  rf : RfA W br bm c2 E q
  sep : ∀ j, X j → j ≠ br ∧ j ≠ bm ∧ w.heap.size ≤ j
  lo : w.heap.size ≤ br ∧ w.heap.size ≤ bm
  bel : Below w.heap.size w W

section
variable {w W W' : World} {bd br bm cnt c2 : Nat} {X : Nat → Prop} {D E : DK.M} {p q : Int}

theorem Dk.below (h : Dk W X bd cnt D p) (hb : Below W.heap.size W W') : Dk W' X bd cnt D p := by
  obtain ⟨mo, fp, fv, e, l, h⟩ := h
  exact ⟨mo, fp, fv, e, l, h.below hb⟩

theorem Dk.kept (h : Dk W X bd cnt D p) (hg : ∀ j, X j → j < W.heap.size → W'.heap[j]? = W.heap[j]?) : Dk W' X bd cnt D p := by
  obtain ⟨mo, fp, fv, e, l, h⟩ := h
  exact ⟨mo, fp, fv, e, l, h.kept hg⟩

theorem Dk.mono (h : Dk W X bd cnt D p) {cnt' : Nat} (hc : cnt ≤ cnt') : Dk W X bd cnt' D p := by
  obtain ⟨mo, fp, fv, e, l, h⟩ := h
  exact ⟨mo, fp, fv, e, l, h.mono hc⟩

theorem PlayI.below (h : PlayI w bd br bm cnt c2 X D E p q W) (hb : Below W.heap.size W W') : PlayI w bd br bm cnt c2 X D E p q W' :=
  ⟨h.dk.below hb, h.rf.below hb, h.sep, h.lo, h.bel.trans (hb.mono h.bel.size)⟩

theorem PlayI.mono (h : PlayI w bd br bm cnt c2 X D E p q W) {cnt' c2' : Nat} (hc : cnt ≤ cnt') (hc2 : c2 ≤ c2') : PlayI w bd br bm cnt' c2' X D E p q W :=
  ⟨h.dk.mono hc, h.rf.mono hc2, h.sep, h.lo, h.bel⟩

/-- The program's side has gone on. -/
theorem PlayI.left {cnt' : Nat} {D' : DK.M} {p' : Int} (h : PlayI w bd br bm cnt c2 X D E p q W) (hd : DkEnd W X bd cnt' D' p' W') : ∃ X', PlayI w bd br bm cnt' c2 X' D' E p' q W' := by
  obtain ⟨X', h1, h2, h3⟩ := hd
  have hl := h.rf.lt
  refine ⟨X', h1, h.rf.kept (h2.block br hl.1 (fun e => (h.sep br e).1 rfl)) (h2.block bm hl.2 (fun e => (h.sep bm e).2.1 rfl)), fun j hj => ?_, h.lo, h.bel.trans (h2.toBelow (fun j hj => (h.sep j hj).2.2) h.bel.size)⟩
  rcases h3 j hj with h4 | h4
  · exact h.sep j h4
  · have := h.bel.size
    exact ⟨by omega, by omega, by omega⟩

/-- The document's side has gone on. -/
theorem PlayI.right {c2' : Nat} {E' : DK.M} {q' : Int} (h : PlayI w bd br bm cnt c2 X D E p q W) (hr : RfA W' br bm c2' E' q') (hx : RFr br bm W W') : PlayI w bd br bm cnt c2' X D E' p q' W' :=
  ⟨h.dk.kept fun j hj hjl => hx.block j hjl (fun e => e.elim (h.sep j hj).1 (h.sep j hj).2.1), hr, h.sep, h.lo, h.bel.trans (hx.toBelow (fun _ hj => hj.elim (fun e => e ▸ h.lo.1) (fun e => e ▸ h.lo.2)) h.bel.size)⟩

/-- .. with a new map. -/
theorem PlayI.right' {bo : Nat} {E' : DK.M} {q' : Int} (h : PlayI w bd br bm cnt c2 X D E p q W) (hXl : ∀ j, X j → j < W.heap.size) (hbo : W.heap.size ≤ bo) (hr : RfA W' br bo c2 E' q') (hx : XFr (fun j => j = br) W W') : PlayI w bd br bo cnt c2 X D E' p q' W' := by
  have hs := h.bel.size
  refine ⟨h.dk.kept fun j hj hjl => hx.block j hjl (fun e => (h.sep j hj).1 e), hr, fun j hj => ⟨(h.sep j hj).1, ?_, (h.sep j hj).2.2⟩, ⟨h.lo.1, by omega⟩, h.bel.trans (hx.toBelow (fun j hj => by rw [hj]; exact h.lo.1) hs)⟩
  have := hXl j hj
  omega

/-- The blocks are there. -/
theorem PlayI.narrow (h : PlayI w bd br bm cnt c2 X D E p q W) : PlayI w bd br bm cnt c2 (fun j => X j ∧ j < W.heap.size) D E p q W := by
  obtain ⟨mo, fp, fv, e, l, hd⟩ := h.dk
  exact ⟨⟨mo, fp, fv, e, l, hd.narrow⟩, h.rf, fun j hj => h.sep j hj.1, h.lo, h.bel⟩

end

/-- .. while an act lies in a box of its own. -/
structure PlayB (w : World) (bd br bm cnt c2 : Nat) (X : Nat → Prop) (D E : DK.M) (p q : Int) (bx : Nat) (o : Obj) (W : World) : Prop where
  pl : PlayI w bd br bm cnt c2 X D E p q W
  box : W.heap[bx]? = some o
  off : ¬ X bx ∧ bx ≠ br ∧ bx ≠ bm

section
variable {w W W' : World} {bd br bm cnt c2 bx : Nat} {X : Nat → Prop} {D E : DK.M} {p q : Int} {o : Obj}

theorem PlayB.made (h : PlayI w bd br bm cnt c2 X D E p q W) (o : Obj) : PlayB w bd br bm cnt c2 (fun j => X j ∧ j < W.heap.size) D E p q W.heap.size o (W.alloc o) where
  pl := h.narrow.below ((Below.refl _ _).alloc (Nat.le_refl _) o)
  box := heap_alloc_new W o
  off := ⟨fun h => by omega, by have := h.rf.lt; omega, by have := h.rf.lt; omega⟩

theorem PlayB.below (h : PlayB w bd br bm cnt c2 X D E p q bx o W) (hb : Below W.heap.size W W') : PlayB w bd br bm cnt c2 X D E p q bx o W' :=
  ⟨h.pl.below hb, (hb.block bx (heap_lt h.box)).trans h.box, h.off⟩

theorem PlayB.mono (h : PlayB w bd br bm cnt c2 X D E p q bx o W) {cnt' c2' : Nat} (hc : cnt ≤ cnt') (hc2 : c2 ≤ c2') : PlayB w bd br bm cnt' c2' X D E p q bx o W := ⟨h.pl.mono hc hc2, h.box, h.off⟩

theorem PlayB.drew (h : PlayB w bd br bm cnt c2 X D E p q bx o W) : PlayB w bd br bm cnt c2 X D E p q bx o W.drew := h.below ⟨rfl, rfl, rfl, Nat.le_refl _, fun _ _ => rfl⟩

theorem PlayB.left {cnt' : Nat} {D' : DK.M} {p' : Int} (h : PlayB w bd br bm cnt c2 X D E p q bx o W) (hd : DkEnd W X bd cnt' D' p' W') : ∃ X', PlayB w bd br bm cnt' c2 X' D' E p' q bx o W' := by
  obtain ⟨X', h1, h2, h3⟩ := hd
  have hl := h.pl.rf.lt
  have hs := h.pl.bel.size
  have hbx := heap_lt h.box
  refine ⟨X', ⟨h1, h.pl.rf.kept (h2.block br hl.1 (fun e => (h.pl.sep br e).1 rfl)) (h2.block bm hl.2 (fun e => (h.pl.sep bm e).2.1 rfl)), fun j hj => ?_, h.pl.lo, h.pl.bel.trans (h2.toBelow (fun j hj => (h.pl.sep j hj).2.2) hs)⟩, (h2.block bx hbx h.off.1).trans h.box, fun e => ?_, h.off.2⟩
  · rcases h3 j hj with h4 | h4
    · exact h.pl.sep j h4
    · exact ⟨by omega, by omega, by omega⟩
  · rcases h3 bx e with h4 | h4
    · exact h.off.1 h4
    · omega

theorem PlayB.right {c2' : Nat} {E' : DK.M} {q' : Int} (h : PlayB w bd br bm cnt c2 X D E p q bx o W) (hr : RfA W' br bm c2' E' q') (hx : RFr br bm W W') : PlayB w bd br bm cnt c2' X D E' p q' bx o W' :=
  ⟨h.pl.right hr hx, (hx.block bx (heap_lt h.box) (fun e => e.elim h.off.2.1 h.off.2.2)).trans h.box, h.off⟩

theorem PlayB.narrow (h : PlayB w bd br bm cnt c2 X D E p q bx o W) : PlayB w bd br bm cnt c2 (fun j => X j ∧ j < W.heap.size) D E p q bx o W := ⟨h.pl.narrow, h.box, fun e => h.off.1 e.1, h.off.2⟩

theorem PlayB.right' {bo : Nat} {E' : DK.M} {q' : Int} (h : PlayB w bd br bm cnt c2 X D E p q bx o W) (hbo : W.heap.size ≤ bo) (hr : RfA W' br bo c2 E' q') (hx : XFr (fun j => j = br) W W') : ∃ X', PlayB w bd br bo cnt c2 X' D E' p q' bx o W' := by
  have hbx := heap_lt h.box
  exact ⟨_, h.narrow.pl.right' (fun j hj => hj.2) hbo hr hx, (hx.block bx hbx h.off.2.1).trans h.box, fun e => h.off.1 e.1, h.off.2.1, by omega⟩

/-- Both sides have gone on alike. -/
theorem PlayB.both {a : Nat} {n s : ByteArray} {W1 W2 : World} {X1 : Nat → Prop} (h1 : PlayB w bd br bm (cnt + 1) c2 X1 (DK.aftD a D p n s) D (DK.aftP a D p n s) p bx o W1) (h2 : RfA W2 br bm (c2 + 1) (DK.aftD a D p n s) (DK.aftP a D p n s)) (hx : RFr br bm W1 W2) :
    PlayB w bd br bm (cnt + 1) (c2 + 1) X1 (DK.aftD a D p n s) (DK.aftD a D p n s) (DK.aftP a D p n s) (DK.aftP a D p n s) bx o W2 := h1.right h2 hx

end

/-- An error is told as the document tells it. -/
theorem bare_er (c : Int) (w : World) (hE : ErrT w) : Calls Tryd.prog 5 #[er c, .int .i64 c] w fun e w' => e = .returned (.bool true) ∧ Below w.heap.size w w' := by
  unfold er
  by_cases h : c = 0
  · rw [if_pos h, h]
    refine (bare_nil 0 w).mono ?_
    rintro e w' ⟨rfl, hb⟩
    exact ⟨rfl, hb⟩
  · rw [if_neg h]
    refine (bare_errno c c w hE).mono ?_
    rintro e w' ⟨rfl, hb⟩
    exact ⟨by simp, hb⟩

end Go.Proofs.YtdmnlmohfaafoacDoor
