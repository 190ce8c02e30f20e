/- How samples lie in memory (names no function; made by mkrl.py). -/
import Derived.Test.YtdmnlmohfaafoabDoorRows
import Derived.Test.YtdmnlmohfaafoabDoorChNum
import Derived.WalkKit
import Derived.WalkSpells
import Derived.WalkLawsBesides
import Derived.Handy
import Derived.Laws.BitsAllLaws
import Derived.StillTailTactics
import Derived.BigQuiet
import Derived.Deep.Onto
import Derived.Laws.StructEq
namespace Go.Proofs.YtdmnlmohfaafoabDoor
open Go.RowKit


theorem hid {p : Prop} (h : p) : Hid p := h

theorem ret_int {k : IntKind} {a b : Int} (h : a = b) : Ending.returned (.int k a) = .returned (.int k b) := by rw [h]

theorem ret_bool {a b : Bool} (h : a = b) : Ending.returned (.bool a) = .returned (.bool b) := by rw [h]

theorem W_wrap (n : Int) : IntKind.i64.wrap n = CL.W n := by rw [IntKind.wrap_i64]; unfold CL.W; omega

theorem W_wrap64 (n : Int) : wrap64 n = CL.W n := by unfold wrap64 CL.W; rfl

/-- The samples l lie from ao on. -/
def SRow (w : World) (ao : Option Addr) (l : List CL.Smp) : Prop :=
  ∀ i, i < l.length → ∃ b off, ao = some ⟨b, off, none⟩ ∧ w.cell? ⟨b, off + i * 2, none⟩ = some (.int .i64 (CL.at' l i).1) ∧ w.cell? ⟨b, off + i * 2 + 1, none⟩ = some (.int .i64 (CL.at' l i).2) ∧ b < w.heap.size

theorem SRow.below {w w' : World} {ao : Option Addr} {l : List CL.Smp} (h : SRow w ao l) (hb : Below w.heap.size w w') : SRow w' ao l := by
  intro i hi
  obtain ⟨b, off, h1, h2, h3, h4⟩ := h i hi
  exact ⟨b, off, h1, (hb.cell (p := ⟨b, _, none⟩) h4).trans h2, (hb.cell (p := ⟨b, _, none⟩) h4).trans h3, Nat.lt_of_lt_of_le h4 hb.size⟩

/-- The object behind a sample of one's own. -/
abbrev boxS (a b : Int) : Obj := .cells #[.int .i64 a, .int .i64 b] 35

theorem ownsRow_kept_all' {base : Nat} {e : TypeId} {size : Nat} {v : Value} {n : Nat} {xs : List Value} {w w' : World} (h : w.ownsRow base e size v n xs) (hb : ∀ k, v.ownBlock = some k → w'.heap[k]? = w.heap[k]?) : w'.ownsRow base e size v n xs := by
  obtain ⟨h1, h2⟩ := h
  refine ⟨h1, ?_⟩
  rcases h2 with h2 | ⟨g, cap, cur, rfl, hg, hh, r⟩
  · exact .inl h2
  · refine .inr ⟨g, cap, cur, rfl, hg, ?_, r⟩
    rw [hb g rfl]; exact hh

theorem heap_lt {w : World} {k : Nat} {o : Obj} (h : w.heap[k]? = some o) : k < w.heap.size := by
  rcases Nat.lt_or_ge k w.heap.size with h' | h'
  · exact h'
  · rw [Array.getElem?_eq_none h'] at h; cases h

/-- The cells of samples. -/
def sv (l : List CL.Smp) : List Value := l.flatMap fun s => [.int .i64 s.1, .int .i64 s.2]

theorem sv_append (a b : List CL.Smp) : sv (a ++ b) = sv a ++ sv b := by simp [sv]

theorem sv_length (l : List CL.Smp) : (sv l).length = l.length * 2 := by
  induction l with
  | nil => rfl
  | cons s l ih => simp only [sv, List.flatMap_cons, List.length_append, List.length_cons, List.length_nil] at ih ⊢; omega

theorem sv_get (l : List CL.Smp) : ∀ i, i < l.length → (sv l)[i * 2]? = some (.int .i64 (CL.at' l i).1) ∧ (sv l)[i * 2 + 1]? = some (.int .i64 (CL.at' l i).2) := by
  induction l with
  | nil => intro i hi; simp at hi
  | cons s l ih =>
    intro i hi
    match i with
    | 0 => exact ⟨rfl, rfl⟩
    | i + 1 =>
      obtain ⟨h1, h2⟩ := ih i (by simpa using hi)
      have e : sv (s :: l) = .int .i64 s.1 :: .int .i64 s.2 :: sv l := rfl
      have e1 : (i + 1) * 2 = i * 2 + 2 := by omega
      have e2 : CL.at' (s :: l) (i + 1) = CL.at' l i := rfl
      rw [e, e1, e2]
      exact ⟨h1, h2⟩

/-- A row of samples that was made, read as one that is there. -/
theorem SRow.of_own {w : World} {base : Nat} {v : Value} {l : List CL.Smp} (h : w.ownsRow base 35 2 v l.length (sv l)) : ∃ ao cap, v = .slice ao l.length cap ∧ SRow w ao l := by
  have hlt := h.lt
  have h0 := h
  obtain ⟨h1, h2⟩ := h
  rcases h2 with ⟨rfl, hn⟩ | ⟨g, cap, cur, rfl, hg, hh, r⟩
  · refine ⟨none, 0, by rw [hn], fun i hi => by omega⟩
  · refine ⟨some ⟨g, 0, none⟩, cap, rfl, fun i hi => ⟨g, 0, rfl, ?_, ?_, (hlt g rfl).2⟩⟩
    · rw [Nat.zero_add, h0.cellAt (i * 2) (by omega)]; exact (sv_get l i hi).1
    · rw [Nat.zero_add, h0.cellAt (i * 2 + 1) (by omega)]; exact (sv_get l i hi).2

theorem below_drewN {B : Nat} {a w : World} (h : Below B a w) (n : Nat) : Below B a (w.drewN n) := ⟨h.os, h.tape, h.output, h.size, h.block⟩

/-- The sample i of a row that stands still. -/
theorem SRow.at {w wr : World} {b off : Nat} {l : List CL.Smp} (h : SRow w (some ⟨b, off, none⟩) l) (hb : Below w.heap.size w wr) (i : Nat) (hi : i < l.length) :
    wr.cell? ⟨b, off + i * 2, none⟩ = some (.int .i64 (CL.at' l i).1) ∧ wr.cell? ⟨b, off + i * 2 + 1, none⟩ = some (.int .i64 (CL.at' l i).2) := by
  obtain ⟨b', off', hao, hc0, hc1, hbs⟩ := h i hi
  simp only [Option.some.injEq, Addr.mk.injEq, and_true] at hao
  obtain ⟨rfl, rfl⟩ := hao
  exact ⟨(hb.cell (p := ⟨b, _, none⟩) hbs).trans hc0, (hb.cell (p := ⟨b, _, none⟩) hbs).trans hc1⟩

theorem own_heap {w w' : World} {base n size : Nat} {e : TypeId} {v : Value} {xs : List Value} (h : w.ownsRow base e size v n xs) (hh : w'.heap = w.heap) : w'.ownsRow base e size v n xs := by
  unfold World.ownsRow at h ⊢
  rw [hh]; exact h

theorem grown_heap {w1 w2 w' : World} {row : Option Nat} (h : w1.grownBy w' row) (hh : w2.heap = w1.heap) (ho : w2.os = w1.os) (ht : w2.tape = w1.tape) (hu : w2.output = w1.output) : w2.grownBy w' row :=
  ⟨h.os.trans ho.symm, h.tape.trans ht.symm, h.output.trans hu.symm, by rw [hh]; exact h.size, fun k hk hne => by rw [hh] at hk ⊢; exact h.block k hk hne⟩

end Go.Proofs.YtdmnlmohfaafoabDoor
