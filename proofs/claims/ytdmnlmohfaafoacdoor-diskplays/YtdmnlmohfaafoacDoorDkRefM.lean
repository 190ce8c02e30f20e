/- How the document's disk lies in memory: a map by names, of files. Names no function. -/
import Derived.Test.YtdmnlmohfaafoacDoorDkMem
namespace Go.Proofs.YtdmnlmohfaafoacDoor
open Go.Maps Go.RowKit

/-- How many are safe, as the document tells it. -/
def sfe (f : DK.Fl) : Int := if f.k then f.s else -1

/-- A file as the document has it. -/
abbrev rV (f : DK.Fl) : Value := .agg #[.string f.b, .int .i64 (sfe f)]

abbrev rF (D : DK.M) : ByteArray → Option Value := fun n => (D n).map rV

theorem rF_put (D : DK.M) (n : ByteArray) (f : DK.Fl) : rF (DK.put D n f) = upd (rF D) n (rV f) := by
  funext m
  unfold rF DK.put upd
  by_cases h : m = n
  · rw [if_pos h, if_pos h]; rfl
  · rw [if_neg h, if_neg h]

theorem rF_del (D : DK.M) (n : ByteArray) : rF (DK.del D n) = cutF (rF D) n := by
  funext m
  unfold rF DK.del cutF
  by_cases h : m = n
  · rw [if_pos h, if_pos h]; rfl
  · rw [if_neg h, if_neg h]

theorem rF_none {D : DK.M} {n : ByteArray} (h : D n = none) : rF D n = none := by unfold rF; rw [h]; rfl
theorem rF_some {D : DK.M} {n : ByteArray} {f : DK.Fl} (h : D n = some f) : rF D n = some (rV f) := by unfold rF; rw [h]; rfl

/-- The document's disk in block br, its map in block bm. -/
structure RfI (P : Program) (w : World) (br bm cnt : Nat) (D : DK.M) (p : Int) : Prop where
  dsk : w.heap[br]? = some (.cells #[.map (some bm), .int .i64 p] 40)
  map : MapF P 9 w bm cnt (rF D)

section
variable {P : Program} {w w' : World} {br bm cnt : Nat} {D : DK.M} {p : Int}

theorem RfI.kept (h : RfI P w br bm cnt D p) (h1 : w'.heap[br]? = w.heap[br]?) (h2 : w'.heap[bm]? = w.heap[bm]?) : RfI P w' br bm cnt D p := ⟨h1.trans h.dsk, h.map.block h2⟩

theorem RfI.lt (h : RfI P w br bm cnt D p) : br < w.heap.size ∧ bm < w.heap.size := ⟨heap_lt h.dsk, h.map.lt⟩

theorem RfI.below (h : RfI P w br bm cnt D p) (hb : Below w.heap.size w w') : RfI P w' br bm cnt D p := h.kept (hb.block _ h.lt.1) (hb.block _ h.lt.2)

theorem RfI.mono (h : RfI P w br bm cnt D p) {cnt' : Nat} (hc : cnt ≤ cnt') : RfI P w br bm cnt' D p := ⟨h.dsk, h.map.mono hc⟩

theorem RfI.c0 (h : RfI P w br bm cnt D p) : w.cell? ⟨br, 0, none⟩ = some (.map (some bm)) := by simp [World.cell?, h.dsk]
theorem RfI.c1 (h : RfI P w br bm cnt D p) : w.cell? ⟨br, 1, none⟩ = some (.int .i64 p) := by simp [World.cell?, h.dsk]
theorem RfI.fr (h : RfI P w br bm cnt D p) (o : Nat) : w.frozen? ⟨br, o, none⟩ = false := by simp [World.frozen?, h.dsk]

theorem RfI.ne (h : RfI P w br bm cnt D p) : br ≠ bm := fun e => by
  subst e
  obtain ⟨es, clock, hb⟩ := h.map.isMap
  rw [h.dsk] at hb; cases hb

/-- Its power is another one. -/
theorem RfI.power (h : RfI P w br bm cnt D p) (p' : Int) : RfI P (w.setCell ⟨br, 1, none⟩ (.int .i64 p')) br bm cnt D p' := by
  refine ⟨?_, h.map.block (Below.heap_setCell w _ _ bm (fun e => h.ne e.symm))⟩
  rw [heap_setCell_same w br 1 _ _ _ h.dsk]; rfl

/-- Its map is written. -/
theorem RfI.remap (h : RfI P w br bm cnt D p) {cnt' : Nat} {D' : DK.M} (hg : w.grownBy w' (some bm)) (hM : MapF P 9 w' bm cnt' (rF D')) : RfI P w' br bm cnt' D' p :=
  ⟨(hg.block br h.lt.1 (fun e => h.ne (Option.some.inj e))).trans h.dsk, hM⟩

end

/-- All is as it was but the blocks br and bm. -/
abbrev RFr (br bm : Nat) (w w' : World) : Prop := XFr (fun j => j = br ∨ j = bm) w w'

end Go.Proofs.YtdmnlmohfaafoacDoor
