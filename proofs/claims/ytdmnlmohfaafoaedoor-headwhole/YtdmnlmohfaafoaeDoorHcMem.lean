/- How samples lie in memory; names no function (made by mkhd.py) -/
import Derived.Test.YtdmnlmohfaafoaeDoorRows
import Derived.Test.YtdmnlmohfaafoaeDoorChNum
import Derived.WalkKit
import Derived.WalkSpells
import Derived.WalkLawsBesides
import Derived.Handy
import Derived.Laws.BitsAllLaws
import Derived.StillTailTactics
import Derived.BigQuiet
import Derived.Deep.Onto
import Derived.Laws.StructEq
namespace Go.Proofs.YtdmnlmohfaafoaeDoor
open Go.RowKit

theorem hid {p : Prop} (h : p) : Hid p := h

theorem ret_int {k : IntKind} {a b : Int} (h : a = b) : Ending.returned (.int k a) = .returned (.int k b) := by rw [h]

theorem ret_bool {a b : Bool} (h : a = b) : Ending.returned (.bool a) = .returned (.bool b) := by rw [h]

theorem W_wrap (n : Int) : IntKind.i64.wrap n = CL.W n := by rw [IntKind.wrap_i64]; unfold CL.W; omega

theorem W_wrap64 (n : Int) : wrap64 n = CL.W n := by unfold wrap64 CL.W; rfl

/-- The samples l lie from ao on. -/
def SRow (w : World) (ao : Option Addr) (l : List CL.Smp) : Prop :=
  ∀ i, i < l.length → ∃ b off, ao = some ⟨b, off, none⟩ ∧ w.cell? ⟨b, off + i * 2, none⟩ = some (.int .i64 (CL.at' l i).1) ∧ w.cell? ⟨b, off + i * 2 + 1, none⟩ = some (.int .i64 (CL.at' l i).2) ∧ b < w.heap.size

theorem SRow.below {w w' : World} {ao : Option Addr} {l : List CL.Smp} (h : SRow w ao l) (hb : Below w.heap.size w w') : SRow w' ao l := by
  intro i hi
  obtain ⟨b, off, h1, h2, h3, h4⟩ := h i hi
  exact ⟨b, off, h1, (hb.cell (p := ⟨b, _, none⟩) h4).trans h2, (hb.cell (p := ⟨b, _, none⟩) h4).trans h3, Nat.lt_of_lt_of_le h4 hb.size⟩

/-- The object behind a sample of one's own. -/
abbrev boxS (a b : Int) : Obj := .cells #[.int .i64 a, .int .i64 b] 42

/-- w' is w, but for block B, and what is new. -/
structure Ext (B : Nat) (w w' : World) : Prop where
  os : w'.os = w.os
  tape : w'.tape = w.tape
  output : w'.output = w.output
  size : w.heap.size ≤ w'.heap.size
  block : ∀ k, k < w.heap.size → k ≠ B → w'.heap[k]? = w.heap[k]?

theorem Ext.below {B C : Nat} {w w' : World} (h : Ext B w w') (hC : C ≤ B) (hs : C ≤ w.heap.size) : Below C w w' :=
  ⟨h.os, h.tape, h.output, h.size, fun k hk => h.block k (by omega) (by omega)⟩

theorem Ext.of_alloc {B : Nat} (w : World) (o : Obj) : Ext B w (w.alloc o) :=
  ⟨rfl, rfl, rfl, by simp, fun k hk _ => Below.heap_alloc w o k hk⟩

theorem Ext.setOwn {B : Nat} {a w : World} (h : Ext B a w) (o : Nat) (u : Value) : Ext B a (w.setCell ⟨B, o, none⟩ u) :=
  ⟨h.os, h.tape, h.output, by simpa using h.size, fun k hk hB => (Below.heap_setCell w ⟨B, o, none⟩ u k hB).trans (h.block k hk hB)⟩

theorem Ext.refl (B : Nat) (w : World) : Ext B w w := ⟨rfl, rfl, rfl, Nat.le_refl _, fun _ _ _ => rfl⟩

theorem Ext.alloc {B : Nat} {a w : World} (h : Ext B a w) (o : Obj) : Ext B a (w.alloc o) :=
  ⟨h.os, h.tape, h.output, by simp; exact Nat.le_succ_of_le h.size, fun k hk hB => (Below.heap_alloc w o k (Nat.lt_of_lt_of_le hk h.size)).trans (h.block k hk hB)⟩

theorem Ext.drew {B : Nat} {a w : World} (h : Ext B a w) : Ext B a w.drew := ⟨h.os, h.tape, h.output, h.size, h.block⟩

theorem ownsRow_kept_all' {base : Nat} {e : TypeId} {size : Nat} {v : Value} {n : Nat} {xs : List Value} {w w' : World} (h : w.ownsRow base e size v n xs) (hb : ∀ k, v.ownBlock = some k → w'.heap[k]? = w.heap[k]?) : w'.ownsRow base e size v n xs := by
  obtain ⟨h1, h2⟩ := h
  refine ⟨h1, ?_⟩
  rcases h2 with h2 | ⟨g, cap, cur, rfl, hg, hh, r⟩
  · exact .inl h2
  · refine .inr ⟨g, cap, cur, rfl, hg, ?_, r⟩
    rw [hb g rfl]; exact hh

theorem Ext.of_below {T : Nat} {w w' : World} (h : Below w.heap.size w w') : Ext T w w' := ⟨h.os, h.tape, h.output, h.size, fun k hk _ => h.block k hk⟩

/-- A sample of one's own in block X. -/
def BoxS (X : Nat) (w : World) (s : CL.Smp) : Prop := w.heap[X]? = some (boxS s.1 s.2)

theorem heap_lt {w : World} {k : Nat} {o : Obj} (h : w.heap[k]? = some o) : k < w.heap.size := by
  rcases Nat.lt_or_ge k w.heap.size with h' | h'
  · exact h'
  · rw [Array.getElem?_eq_none h'] at h; cases h

theorem BoxS.new (w : World) (s : CL.Smp) : BoxS w.heap.size (w.alloc (boxS s.1 s.2)) s := heap_alloc_new w _

theorem BoxS.kept {X : Nat} {w w' : World} {s : CL.Smp} (h : BoxS X w s) (hf : Below w.heap.size w w') : BoxS X w' s := (hf.block X (heap_lt h)).trans h

theorem BoxS.cells {X : Nat} {w : World} {s : CL.Smp} (h : BoxS X w s) : w.cell? ⟨X, 0, none⟩ = some (.int .i64 s.1) ∧ w.cell? ⟨X, 1, none⟩ = some (.int .i64 s.2) := by
  unfold BoxS at h
  constructor <;> simp only [World.cell?, h] <;> rfl

/-- The cells of samples. -/
def sv (l : List CL.Smp) : List Value := l.flatMap fun s => [.int .i64 s.1, .int .i64 s.2]

theorem sv_append (a b : List CL.Smp) : sv (a ++ b) = sv a ++ sv b := by simp [sv]

theorem sv_length (l : List CL.Smp) : (sv l).length = l.length * 2 := by
  induction l with
  | nil => rfl
  | cons s l ih => simp only [sv, List.flatMap_cons, List.length_append, List.length_cons, List.length_nil] at ih ⊢; omega

theorem sv_get (l : List CL.Smp) : ∀ i, i < l.length → (sv l)[i * 2]? = some (.int .i64 (CL.at' l i).1) ∧ (sv l)[i * 2 + 1]? = some (.int .i64 (CL.at' l i).2) := by
  induction l with
  | nil => intro i hi; simp at hi
  | cons s l ih =>
    intro i hi
    match i with
    | 0 => exact ⟨rfl, rfl⟩
    | i + 1 =>
      obtain ⟨h1, h2⟩ := ih i (by simpa using hi)
      have e : sv (s :: l) = .int .i64 s.1 :: .int .i64 s.2 :: sv l := rfl
      have e1 : (i + 1) * 2 = i * 2 + 2 := by omega
      have e2 : CL.at' (s :: l) (i + 1) = CL.at' l i := rfl
      rw [e, e1, e2]
      exact ⟨h1, h2⟩

/-- A row of samples that was made, read as one that is there. -/
theorem SRow.of_own {w : World} {base : Nat} {v : Value} {l : List CL.Smp} (h : w.ownsRow base 42 2 v l.length (sv l)) : ∃ ao cap, v = .slice ao l.length cap ∧ SRow w ao l := by
  have hlt := h.lt
  have h0 := h
  obtain ⟨h1, h2⟩ := h
  rcases h2 with ⟨rfl, hn⟩ | ⟨g, cap, cur, rfl, hg, hh, r⟩
  · refine ⟨none, 0, by rw [hn], fun i hi => by omega⟩
  · refine ⟨some ⟨g, 0, none⟩, cap, rfl, fun i hi => ⟨g, 0, rfl, ?_, ?_, (hlt g rfl).2⟩⟩
    · rw [Nat.zero_add, h0.cellAt (i * 2) (by omega)]; exact (sv_get l i hi).1
    · rw [Nat.zero_add, h0.cellAt (i * 2 + 1) (by omega)]; exact (sv_get l i hi).2

theorem Tryd.info42 : (Tryd.prog.info? 42).map (fun i => (i.zero, i.size, i.bytes)) = some (some (.agg #[.int .i64 0, .int .i64 0]), 2, 16) := by kernel_rfl

theorem two_news (w : World) (a b : Value) (T : TypeId) : ∀ j u, [a, b][j]? = some u → (w.alloc (.cells #[a, b] T)).cell? ((⟨w.heap.size, 0, none⟩ : Addr).add j) = some u := by
  intro j u hj
  match j, hj with
  | 0, hj => simp at hj; subst hj; simp [Addr.add]
  | 1, hj => simp at hj; subst hj; simp [Addr.add]

theorem two_news' (w : World) (n : Nat) (hn : n = w.heap.size) (a b : Value) (T : TypeId) : ∀ j u, [a, b][j]? = some u → (w.alloc (.cells #[a, b] T)).cell? ((⟨n, 0, none⟩ : Addr).add j) = some u := by
  subst hn; exact two_news w a b T

theorem two_i64 (a b : Int) : ∀ u ∈ [Value.int .i64 a, Value.int .i64 b], u.oneCell' = true := by
  intro u hu
  simp at hu
  rcases hu with rfl | rfl <;> rfl

theorem Ext.trans {R : Nat} {a b c : World} (h : Ext R a b) (k : Ext R b c) : Ext R a c :=
  ⟨k.os.trans h.os, k.tape.trans h.tape, k.output.trans h.output, Nat.le_trans h.size k.size, fun i hi hR => (k.block i (Nat.lt_of_lt_of_le hi h.size) hR).trans (h.block i hi hR)⟩

theorem Ext.other {R T : Nat} {a b c : World} (h : Ext R a b) (k : Ext T b c) (hT : a.heap.size ≤ T) : Ext R a c :=
  ⟨k.os.trans h.os, k.tape.trans h.tape, k.output.trans h.output, Nat.le_trans h.size k.size, fun i hi hR => (k.block i (Nat.lt_of_lt_of_le hi h.size) (by omega)).trans (h.block i hi hR)⟩

theorem Ext.grown {R : Nat} {a b c : World} {row : Option Nat} (h : Ext R a b) (k : b.grownBy c row) (hr : ∀ i, row = some i → a.heap.size ≤ i) : Ext R a c :=
  ⟨k.os.trans h.os, k.tape.trans h.tape, k.output.trans h.output, Nat.le_trans h.size k.size, fun i hi hR => (k.block i (Nat.lt_of_lt_of_le hi h.size) (fun e => by have := hr i e.symm; omega)).trans (h.block i hi hR)⟩

/-- What stays where a row of one's own is appended to from a sample of one's own. -/
theorem push_keep {w4 w7 : World} {o1 o2 : Obj} {v : Value} {base n : Nat} {xs : List Value} (hown : w4.ownsRow base 42 2 v n xs) (hgrow : ((w4.alloc o1).alloc o2).grownBy w7 v.ownBlock) :
    (∀ k, k < w4.heap.size → v.ownBlock ≠ some k → w7.heap[k]? = w4.heap[k]?) ∧ w7.heap[w4.heap.size]? = some o1 ∧ w4.heap.size + 2 ≤ w7.heap.size := by
  have hs : ((w4.alloc o1).alloc o2).heap.size = w4.heap.size + 2 := by simp
  refine ⟨fun k hk hne => ?_, ?_, by have := hgrow.size; omega⟩
  · refine (hgrow.block k (by omega) (fun e => hne e.symm)).trans ?_
    exact (Below.heap_alloc _ _ k (by simp; omega)).trans (Below.heap_alloc _ _ k hk)
  · refine (hgrow.block w4.heap.size (by omega) (fun e => ?_)).trans ?_
    · have := (hown.lt _ e.symm).2; omega
    · exact (Below.heap_alloc _ _ _ (by simp)).trans (heap_alloc_new w4 o1)

theorem below_drewN {B : Nat} {a w : World} (h : Below B a w) (n : Nat) : Below B a (w.drewN n) := ⟨h.os, h.tape, h.output, h.size, h.block⟩

/-- The sample i of a row that stands still. -/
theorem SRow.at {w wr : World} {b off : Nat} {l : List CL.Smp} (h : SRow w (some ⟨b, off, none⟩) l) (hb : Below w.heap.size w wr) (i : Nat) (hi : i < l.length) :
    wr.cell? ⟨b, off + i * 2, none⟩ = some (.int .i64 (CL.at' l i).1) ∧ wr.cell? ⟨b, off + i * 2 + 1, none⟩ = some (.int .i64 (CL.at' l i).2) := by
  obtain ⟨b', off', hao, hc0, hc1, hbs⟩ := h i hi
  simp only [Option.some.injEq, Addr.mk.injEq, and_true] at hao
  obtain ⟨rfl, rfl⟩ := hao
  exact ⟨(hb.cell (p := ⟨b, _, none⟩) hbs).trans hc0, (hb.cell (p := ⟨b, _, none⟩) hbs).trans hc1⟩

theorem own_form {w : World} {base n : Nat} {v : Value} {xs : List Value} (h : w.ownsRow base 42 2 v n xs) (hn : 0 < n) : ∃ g cap, v = .slice (some ⟨g, 0, none⟩) n cap ∧ n ≤ cap ∧ cap ≤ maxLen := by
  obtain ⟨_, hcase⟩ := h
  rcases hcase with ⟨_, h0⟩ | ⟨g, cap, cur, h, _, _, h1, h2, _⟩
  · omega
  · exact ⟨g, cap, h, h1, h2⟩

end Go.Proofs.YtdmnlmohfaafoaeDoor
