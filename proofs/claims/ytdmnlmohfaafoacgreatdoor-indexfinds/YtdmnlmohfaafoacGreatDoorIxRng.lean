/- A map keyed by texts, or nil, gone through. Names no function. -/
import Derived.Test.YtdmnlmohfaafoacGreatDoorIxMap
import Derived.Laws.IdiomRangeMap
namespace Go.Proofs.YtdmnlmohfaafoacGreatDoor
open Go.Maps Go.RowKit

/-- A map that says f, or none at all. -/
def MapO (P : Program) (k : TypeId) (w : World) (mo : Option Nat) (n : Nat) (f : ByteArray → Option Value) : Prop :=
  match mo with
  | none => f = fun _ => none
  | some b => MapF P k w b n f

/-- Under way through it. -/
def RngO (P : Program) (k : TypeId) (w : World) (mo : Option Nat) (r n : Nat) (f : ByteArray → Option Value) (ks : List ByteArray) (cnt : Nat) : Prop :=
  match mo with
  | none => (∃ a b c, w.heap[r]? = some (.mapIter none a b c)) ∧ ks = [] ∧ (f = fun _ => none) ∧ cnt = 0
  | some b => RngF P k w b r n f ks cnt

/-- How many are still to come. -/
def leftO (w : World) (mo : Option Nat) (r : Nat) : Nat :=
  match mo with
  | none => 0
  | some b => w.rangeLeft b r

section
variable {P : Program} {k : TypeId} {w : World} {mo : Option Nat} {r n cnt : Nat} {f : ByteArray → Option Value} {ks : List ByteArray}

theorem MapO.block {w' : World} (h : MapO P k w mo n f) (hb : ∀ b, mo = some b → w'.heap[b]? = w.heap[b]?) : MapO P k w' mo n f := by
  cases mo with
  | none => exact h
  | some b => exact MapF.block h (hb b rfl)

theorem MapO.range {t e : TypeId} (h : MapO P k w mo n f) (hks : P.underlying k = some .string) (ht : P.underlying t = some (.map k e)) :
    ∃ w' cnt, (Instr.range t (.map mo)).run P w = .ok (.pointer (some ⟨w.heap.size, 0, none⟩)) w' ∧ RngO P k w' mo w.heap.size n f [] cnt ∧ w.grownBy w' none ∧ w'.heap.size = w.heap.size + 1 := by
  cases mo with
  | none => exact ⟨_, 0, run_range_nilMap w t k e ht, ⟨⟨_, _, _, heap_alloc_new w _⟩, rfl, h, rfl⟩, World.grownBy_alloc w _ none, by simp⟩
  | some b =>
    obtain ⟨D, h1, h2⟩ := h
    obtain ⟨w', hrun, h3, h4, h5⟩ := h1.range (string_keyed hks) ht
    exact ⟨w', _, hrun, ⟨D, _, h3, h2, CollF.start h2⟩, h4, h5⟩

theorem RngO.kept {w' : World} {row : Option Nat} (h : RngO P k w mo r n f ks cnt) (hg : w.grownBy w' row) (hb' : ∀ b, mo = some b → some b ≠ row) (hr' : some r ≠ row) : RngO P k w' mo r n f ks cnt := by
  cases mo with
  | none =>
    obtain ⟨⟨a, b, c, hr⟩, h2⟩ := h
    exact ⟨⟨a, b, c, (hg.block r (heap_lt hr) hr').trans hr⟩, h2⟩
  | some b => exact RngF.kept h hg (hb' b rfl) hr'

theorem RngO.alloc (h : RngO P k w mo r n f ks cnt) (o : Obj) : RngO P k (w.alloc o) mo r n f ks cnt := h.kept (World.grownBy_alloc w o none) (by simp) (by simp)

theorem RngO.iter (h : RngO P k w mo r n f ks cnt) : ∃ i s c d, w.heap[r]? = some (.mapIter i s c d) := by
  cases mo with
  | none =>
    obtain ⟨⟨a, b, c, hr⟩, _⟩ := h
    exact ⟨_, _, _, _, hr⟩
  | some b => exact RngF.iter h

theorem RngO.left (h : RngO P k w mo r n f ks cnt) : leftO w mo r = cnt := by
  cases mo with
  | none => exact h.2.2.2.symm
  | some b => exact RngF.left h

/-- The step. -/
theorem wpList_next_o {ops : Array Oper} {rest : List Oper} {o : Oper} {a : Act} {Q : Exit → Act → World → Prop}
    (hg : o.guard = none) (it : Operand) (hop : o.op = Op.next it false) (k : TypeId) (hks : P.underlying k = some .string) (mo : Option Nat) (r n : Nat) (f : ByteArray → Option Value) (ks : List ByteArray) (cnt : Nat)
    (hit : a.eval it = .pointer (some ⟨r, 0, none⟩)) (h : RngO P k w mo r n f ks cnt)
    (hDone : ks.Nodup → (∀ s, s ∈ ks ↔ f s ≠ none) → wpList P ops Q rest (a.put o.dst (.tuple #[.bool false])) w)
    (hMore : ∀ (s : ByteArray) (v : Value) (w' : World) (cnt' : Nat), s.size ≤ maxLen → f s = some v → s ∉ ks → RngO P k w' mo r n f (ks ++ [s]) cnt' → cnt' < cnt →
      w.grownBy w' (some r) → w'.heap.size = w.heap.size → (Instr.entry (.pointer (some ⟨r, 0, none⟩))).run P w' = .ok (.tuple #[.string s, v]) w' → wpList P ops Q rest (a.put o.dst (.tuple #[.bool true, .string s, v])) w') :
    wpList P ops Q (o :: rest) a w := by
  cases mo with
  | some b => exact wpList_next_f hg it hop k hks b r n f ks cnt hit h hDone hMore
  | none =>
    obtain ⟨⟨x, y, z, hr⟩, rfl, hf, _⟩ := h
    refine wpList_plain hg fun K' hK' => ?_
    have hrun : (Instr.next (.pointer (some ⟨r, 0, none⟩)) false o.type).run P w = .ok (.tuple #[.bool false]) w := by
      simp only [Instr.next, getObj, Sem.run_bind, Sem.run, hr, Result.andThen]
      rfl
    unfold Oper.wp
    simp [execOp, hop, hit, hrun, Result.andThen]
    exact hK' _ _ (hDone List.nodup_nil fun s => by rw [hf]; simp)

end

end Go.Proofs.YtdmnlmohfaafoacGreatDoor
