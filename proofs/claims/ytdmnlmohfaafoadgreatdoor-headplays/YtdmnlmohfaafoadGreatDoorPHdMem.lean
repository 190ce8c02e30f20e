/- How samples lie in memory; names no function (made by mkhd.py) How labels, matchers and names lie in memory (names no function). (made by mkhd.py) How series lie in memory: given, and made on the way. Names no function (made by mkhd.py). -/
import Derived.Test.YtdmnlmohfaafoadGreatDoorRows
import Derived.Test.YtdmnlmohfaafoadGreatDoorPChNum
import Derived.WalkKit
import Derived.WalkSpells
import Derived.WalkLawsBesides
import Derived.Handy
import Derived.Laws.BitsAllLaws
import Derived.StillTailTactics
import Derived.BigQuiet
import Derived.Deep.Onto
import Derived.Laws.StructEq
import Derived.Laws.IdiomStrings
namespace Go.Proofs.YtdmnlmohfaafoadGreatDoor
open Go.RowKit

theorem hid {p : Prop} (h : p) : Hid p := h

theorem ret_int {k : IntKind} {a b : Int} (h : a = b) : Ending.returned (.int k a) = .returned (.int k b) := by rw [h]

theorem ret_bool {a b : Bool} (h : a = b) : Ending.returned (.bool a) = .returned (.bool b) := by rw [h]

theorem W_wrap (n : Int) : IntKind.i64.wrap n = CL.W n := by rw [IntKind.wrap_i64]; unfold CL.W; omega

theorem W_wrap64 (n : Int) : wrap64 n = CL.W n := by unfold wrap64 CL.W; rfl

/-- The samples l lie from ao on. -/
def SRow (w : World) (ao : Option Addr) (l : List CL.Smp) : Prop :=
  ∀ i, i < l.length → ∃ b off, ao = some ⟨b, off, none⟩ ∧ w.cell? ⟨b, off + i * 2, none⟩ = some (.int .i64 (CL.at' l i).1) ∧ w.cell? ⟨b, off + i * 2 + 1, none⟩ = some (.int .i64 (CL.at' l i).2) ∧ b < w.heap.size

theorem SRow.below {w w' : World} {ao : Option Addr} {l : List CL.Smp} (h : SRow w ao l) (hb : Below w.heap.size w w') : SRow w' ao l := by
  intro i hi
  obtain ⟨b, off, h1, h2, h3, h4⟩ := h i hi
  exact ⟨b, off, h1, (hb.cell (p := ⟨b, _, none⟩) h4).trans h2, (hb.cell (p := ⟨b, _, none⟩) h4).trans h3, Nat.lt_of_lt_of_le h4 hb.size⟩

/-- The object behind a sample of one's own. -/
abbrev boxS (a b : Int) : Obj := .cells #[.int .i64 a, .int .i64 b] 52

/-- w' is w, but for block B, and what is new. -/
structure Ext (B : Nat) (w w' : World) : Prop where
  os : w'.os = w.os
  tape : w'.tape = w.tape
  output : w'.output = w.output
  size : w.heap.size ≤ w'.heap.size
  block : ∀ k, k < w.heap.size → k ≠ B → w'.heap[k]? = w.heap[k]?

theorem Ext.below {B C : Nat} {w w' : World} (h : Ext B w w') (hC : C ≤ B) (hs : C ≤ w.heap.size) : Below C w w' :=
  ⟨h.os, h.tape, h.output, h.size, fun k hk => h.block k (by omega) (by omega)⟩

theorem Ext.of_alloc {B : Nat} (w : World) (o : Obj) : Ext B w (w.alloc o) :=
  ⟨rfl, rfl, rfl, by simp, fun k hk _ => Below.heap_alloc w o k hk⟩

theorem Ext.setOwn {B : Nat} {a w : World} (h : Ext B a w) (o : Nat) (u : Value) : Ext B a (w.setCell ⟨B, o, none⟩ u) :=
  ⟨h.os, h.tape, h.output, by simpa using h.size, fun k hk hB => (Below.heap_setCell w ⟨B, o, none⟩ u k hB).trans (h.block k hk hB)⟩

theorem Ext.refl (B : Nat) (w : World) : Ext B w w := ⟨rfl, rfl, rfl, Nat.le_refl _, fun _ _ _ => rfl⟩

theorem Ext.alloc {B : Nat} {a w : World} (h : Ext B a w) (o : Obj) : Ext B a (w.alloc o) :=
  ⟨h.os, h.tape, h.output, by simp; exact Nat.le_succ_of_le h.size, fun k hk hB => (Below.heap_alloc w o k (Nat.lt_of_lt_of_le hk h.size)).trans (h.block k hk hB)⟩

theorem Ext.drew {B : Nat} {a w : World} (h : Ext B a w) : Ext B a w.drew := ⟨h.os, h.tape, h.output, h.size, h.block⟩

theorem ownsRow_kept_all' {base : Nat} {e : TypeId} {size : Nat} {v : Value} {n : Nat} {xs : List Value} {w w' : World} (h : w.ownsRow base e size v n xs) (hb : ∀ k, v.ownBlock = some k → w'.heap[k]? = w.heap[k]?) : w'.ownsRow base e size v n xs := by
  obtain ⟨h1, h2⟩ := h
  refine ⟨h1, ?_⟩
  rcases h2 with h2 | ⟨g, cap, cur, rfl, hg, hh, r⟩
  · exact .inl h2
  · refine .inr ⟨g, cap, cur, rfl, hg, ?_, r⟩
    rw [hb g rfl]; exact hh

theorem Ext.of_below {T : Nat} {w w' : World} (h : Below w.heap.size w w') : Ext T w w' := ⟨h.os, h.tape, h.output, h.size, fun k hk _ => h.block k hk⟩

/-- A sample of one's own in block X. -/
def BoxS (X : Nat) (w : World) (s : CL.Smp) : Prop := w.heap[X]? = some (boxS s.1 s.2)

theorem heap_lt {w : World} {k : Nat} {o : Obj} (h : w.heap[k]? = some o) : k < w.heap.size := by
  rcases Nat.lt_or_ge k w.heap.size with h' | h'
  · exact h'
  · rw [Array.getElem?_eq_none h'] at h; cases h

theorem BoxS.new (w : World) (s : CL.Smp) : BoxS w.heap.size (w.alloc (boxS s.1 s.2)) s := heap_alloc_new w _

theorem BoxS.kept {X : Nat} {w w' : World} {s : CL.Smp} (h : BoxS X w s) (hf : Below w.heap.size w w') : BoxS X w' s := (hf.block X (heap_lt h)).trans h

theorem BoxS.cells {X : Nat} {w : World} {s : CL.Smp} (h : BoxS X w s) : w.cell? ⟨X, 0, none⟩ = some (.int .i64 s.1) ∧ w.cell? ⟨X, 1, none⟩ = some (.int .i64 s.2) := by
  unfold BoxS at h
  constructor <;> simp only [World.cell?, h] <;> rfl

/-- The cells of samples. -/
def sv (l : List CL.Smp) : List Value := l.flatMap fun s => [.int .i64 s.1, .int .i64 s.2]

theorem sv_append (a b : List CL.Smp) : sv (a ++ b) = sv a ++ sv b := by simp [sv]

theorem sv_length (l : List CL.Smp) : (sv l).length = l.length * 2 := by
  induction l with
  | nil => rfl
  | cons s l ih => simp only [sv, List.flatMap_cons, List.length_append, List.length_cons, List.length_nil] at ih ⊢; omega

theorem sv_get (l : List CL.Smp) : ∀ i, i < l.length → (sv l)[i * 2]? = some (.int .i64 (CL.at' l i).1) ∧ (sv l)[i * 2 + 1]? = some (.int .i64 (CL.at' l i).2) := by
  induction l with
  | nil => intro i hi; simp at hi
  | cons s l ih =>
    intro i hi
    match i with
    | 0 => exact ⟨rfl, rfl⟩
    | i + 1 =>
      obtain ⟨h1, h2⟩ := ih i (by simpa using hi)
      have e : sv (s :: l) = .int .i64 s.1 :: .int .i64 s.2 :: sv l := rfl
      have e1 : (i + 1) * 2 = i * 2 + 2 := by omega
      have e2 : CL.at' (s :: l) (i + 1) = CL.at' l i := rfl
      rw [e, e1, e2]
      exact ⟨h1, h2⟩

/-- A row of samples that was made, read as one that is there. -/
theorem SRow.of_own {w : World} {base : Nat} {v : Value} {l : List CL.Smp} (h : w.ownsRow base 52 2 v l.length (sv l)) : ∃ ao cap, v = .slice ao l.length cap ∧ SRow w ao l := by
  have hlt := h.lt
  have h0 := h
  obtain ⟨h1, h2⟩ := h
  rcases h2 with ⟨rfl, hn⟩ | ⟨g, cap, cur, rfl, hg, hh, r⟩
  · refine ⟨none, 0, by rw [hn], fun i hi => by omega⟩
  · refine ⟨some ⟨g, 0, none⟩, cap, rfl, fun i hi => ⟨g, 0, rfl, ?_, ?_, (hlt g rfl).2⟩⟩
    · rw [Nat.zero_add, h0.cellAt (i * 2) (by omega)]; exact (sv_get l i hi).1
    · rw [Nat.zero_add, h0.cellAt (i * 2 + 1) (by omega)]; exact (sv_get l i hi).2

theorem Tryz.info52 : (Tryz.prog.info? 52).map (fun i => (i.zero, i.size, i.bytes)) = some (some (.agg #[.int .i64 0, .int .i64 0]), 2, 16) := by kernel_rfl

theorem two_news (w : World) (a b : Value) (T : TypeId) : ∀ j u, [a, b][j]? = some u → (w.alloc (.cells #[a, b] T)).cell? ((⟨w.heap.size, 0, none⟩ : Addr).add j) = some u := by
  intro j u hj
  match j, hj with
  | 0, hj => simp at hj; subst hj; simp [Addr.add]
  | 1, hj => simp at hj; subst hj; simp [Addr.add]

theorem two_news' (w : World) (n : Nat) (hn : n = w.heap.size) (a b : Value) (T : TypeId) : ∀ j u, [a, b][j]? = some u → (w.alloc (.cells #[a, b] T)).cell? ((⟨n, 0, none⟩ : Addr).add j) = some u := by
  subst hn; exact two_news w a b T

theorem two_i64 (a b : Int) : ∀ u ∈ [Value.int .i64 a, Value.int .i64 b], u.oneCell' = true := by
  intro u hu
  simp at hu
  rcases hu with rfl | rfl <;> rfl

theorem Ext.trans {R : Nat} {a b c : World} (h : Ext R a b) (k : Ext R b c) : Ext R a c :=
  ⟨k.os.trans h.os, k.tape.trans h.tape, k.output.trans h.output, Nat.le_trans h.size k.size, fun i hi hR => (k.block i (Nat.lt_of_lt_of_le hi h.size) hR).trans (h.block i hi hR)⟩

theorem Ext.other {R T : Nat} {a b c : World} (h : Ext R a b) (k : Ext T b c) (hT : a.heap.size ≤ T) : Ext R a c :=
  ⟨k.os.trans h.os, k.tape.trans h.tape, k.output.trans h.output, Nat.le_trans h.size k.size, fun i hi hR => (k.block i (Nat.lt_of_lt_of_le hi h.size) (by omega)).trans (h.block i hi hR)⟩

theorem Ext.grown {R : Nat} {a b c : World} {row : Option Nat} (h : Ext R a b) (k : b.grownBy c row) (hr : ∀ i, row = some i → a.heap.size ≤ i) : Ext R a c :=
  ⟨k.os.trans h.os, k.tape.trans h.tape, k.output.trans h.output, Nat.le_trans h.size k.size, fun i hi hR => (k.block i (Nat.lt_of_lt_of_le hi h.size) (fun e => by have := hr i e.symm; omega)).trans (h.block i hi hR)⟩

/-- What stays where a row of one's own is appended to from a sample of one's own. -/
theorem push_keep {w4 w7 : World} {o1 o2 : Obj} {v : Value} {base n : Nat} {xs : List Value} (hown : w4.ownsRow base 52 2 v n xs) (hgrow : ((w4.alloc o1).alloc o2).grownBy w7 v.ownBlock) :
    (∀ k, k < w4.heap.size → v.ownBlock ≠ some k → w7.heap[k]? = w4.heap[k]?) ∧ w7.heap[w4.heap.size]? = some o1 ∧ w4.heap.size + 2 ≤ w7.heap.size := by
  have hs : ((w4.alloc o1).alloc o2).heap.size = w4.heap.size + 2 := by simp
  refine ⟨fun k hk hne => ?_, ?_, by have := hgrow.size; omega⟩
  · refine (hgrow.block k (by omega) (fun e => hne e.symm)).trans ?_
    exact (Below.heap_alloc _ _ k (by simp; omega)).trans (Below.heap_alloc _ _ k hk)
  · refine (hgrow.block w4.heap.size (by omega) (fun e => ?_)).trans ?_
    · have := (hown.lt _ e.symm).2; omega
    · exact (Below.heap_alloc _ _ _ (by simp)).trans (heap_alloc_new w4 o1)

theorem below_drewN {B : Nat} {a w : World} (h : Below B a w) (n : Nat) : Below B a (w.drewN n) := ⟨h.os, h.tape, h.output, h.size, h.block⟩

/-- The sample i of a row that stands still. -/
theorem SRow.at {w wr : World} {b off : Nat} {l : List CL.Smp} (h : SRow w (some ⟨b, off, none⟩) l) (hb : Below w.heap.size w wr) (i : Nat) (hi : i < l.length) :
    wr.cell? ⟨b, off + i * 2, none⟩ = some (.int .i64 (CL.at' l i).1) ∧ wr.cell? ⟨b, off + i * 2 + 1, none⟩ = some (.int .i64 (CL.at' l i).2) := by
  obtain ⟨b', off', hao, hc0, hc1, hbs⟩ := h i hi
  simp only [Option.some.injEq, Addr.mk.injEq, and_true] at hao
  obtain ⟨rfl, rfl⟩ := hao
  exact ⟨(hb.cell (p := ⟨b, _, none⟩) hbs).trans hc0, (hb.cell (p := ⟨b, _, none⟩) hbs).trans hc1⟩

theorem own_form {w : World} {base n : Nat} {v : Value} {xs : List Value} (h : w.ownsRow base 52 2 v n xs) (hn : 0 < n) : ∃ g cap, v = .slice (some ⟨g, 0, none⟩) n cap ∧ n ≤ cap ∧ cap ≤ maxLen := by
  obtain ⟨_, hcase⟩ := h
  rcases hcase with ⟨_, h0⟩ | ⟨g, cap, cur, h, _, _, h1, h2, _⟩
  · omega
  · exact ⟨g, cap, h, h1, h2⟩

end Go.Proofs.YtdmnlmohfaafoadGreatDoor

namespace Go.Proofs.YtdmnlmohfaafoadGreatDoor
open Go.RowKit

theorem ret_str {a b : ByteArray} (h : a = b) : Ending.returned (.string a) = .returned (.string b) := by rw [h]

theorem lbelow_drewN {B : Nat} {a w : World} (h : Below B a w) (n : Nat) : Below B a (w.drewN n) := ⟨h.os, h.tape, h.output, h.size, h.block⟩

theorem own_heap {w w' : World} {base n size : Nat} {e : TypeId} {v : Value} {xs : List Value} (h : w.ownsRow base e size v n xs) (hh : w'.heap = w.heap) : w'.ownsRow base e size v n xs := by
  unfold World.ownsRow at h ⊢
  rw [hh]; exact h

/-- The labels l lie from ao on. -/
def LRow (w : World) (ao : Option Addr) (l : List LB.Lab) : Prop :=
  ∀ i, i < l.length → ∃ b off, ao = some ⟨b, off, none⟩ ∧ w.cell? ⟨b, off + i * 2, none⟩ = some (.string (LB.at' l i).1) ∧ w.cell? ⟨b, off + i * 2 + 1, none⟩ = some (.string (LB.at' l i).2) ∧ b < w.heap.size

theorem LRow.below {w w' : World} {ao : Option Addr} {l : List LB.Lab} (h : LRow w ao l) (hb : Below w.heap.size w w') : LRow w' ao l := by
  intro i hi
  obtain ⟨b, off, h1, h2, h3, h4⟩ := h i hi
  exact ⟨b, off, h1, (hb.cell (p := ⟨b, _, none⟩) h4).trans h2, (hb.cell (p := ⟨b, _, none⟩) h4).trans h3, Nat.lt_of_lt_of_le h4 hb.size⟩

/-- The matchers m lie from ao on. -/
def MRow (w : World) (ao : Option Addr) (m : List LB.Mat) : Prop :=
  ∀ i, i < m.length → ∃ b off, ao = some ⟨b, off, none⟩ ∧ w.cell? ⟨b, off + i * 3, none⟩ = some (.string (LB.am m i).nm) ∧ w.cell? ⟨b, off + i * 3 + 1, none⟩ = some (.int .i64 (LB.am m i).op) ∧ w.cell? ⟨b, off + i * 3 + 2, none⟩ = some (.string (LB.am m i).vl) ∧ b < w.heap.size

theorem MRow.below {w w' : World} {ao : Option Addr} {l : List LB.Mat} (h : MRow w ao l) (hb : Below w.heap.size w w') : MRow w' ao l := by
  intro i hi
  obtain ⟨b, off, h1, h2, h3, h5, h4⟩ := h i hi
  exact ⟨b, off, h1, (hb.cell (p := ⟨b, _, none⟩) h4).trans h2, (hb.cell (p := ⟨b, _, none⟩) h4).trans h3, (hb.cell (p := ⟨b, _, none⟩) h4).trans h5, Nat.lt_of_lt_of_le h4 hb.size⟩

/-- The texts n lie from ao on. -/
def NRow (w : World) (ao : Option Addr) (n : List ByteArray) : Prop :=
  ∀ i, i < n.length → ∃ b off, ao = some ⟨b, off, none⟩ ∧ w.cell? ⟨b, off + i, none⟩ = some (.string (LB.an n i)) ∧ b < w.heap.size

theorem NRow.below {w w' : World} {ao : Option Addr} {l : List ByteArray} (h : NRow w ao l) (hb : Below w.heap.size w w') : NRow w' ao l := by
  intro i hi
  obtain ⟨b, off, h1, h2, h4⟩ := h i hi
  exact ⟨b, off, h1, (hb.cell (p := ⟨b, _, none⟩) h4).trans h2, Nat.lt_of_lt_of_le h4 hb.size⟩

/-- The cells of labels. -/
def lv (l : List LB.Lab) : List Value := l.flatMap fun s => [.string s.1, .string s.2]

theorem lv_append (a b : List LB.Lab) : lv (a ++ b) = lv a ++ lv b := by simp [lv]

theorem lv_length (l : List LB.Lab) : (lv l).length = l.length * 2 := by
  induction l with
  | nil => rfl
  | cons s l ih => simp only [lv, List.flatMap_cons, List.length_append, List.length_cons, List.length_nil] at ih ⊢; omega

theorem lv_get (l : List LB.Lab) : ∀ i, i < l.length → (lv l)[i * 2]? = some (.string (LB.at' l i).1) ∧ (lv l)[i * 2 + 1]? = some (.string (LB.at' l i).2) := by
  induction l with
  | nil => intro i hi; simp at hi
  | cons s l ih =>
    intro i hi
    match i with
    | 0 => exact ⟨rfl, rfl⟩
    | i + 1 =>
      obtain ⟨h1, h2⟩ := ih i (by simpa using hi)
      have e : lv (s :: l) = .string s.1 :: .string s.2 :: lv l := rfl
      have e1 : (i + 1) * 2 = i * 2 + 2 := by omega
      rw [e, e1, LB.at_cons]
      exact ⟨h1, h2⟩

/-- A row of labels that was made, read as one that is there. -/
theorem LRow.of_own {w : World} {base : Nat} {v : Value} {l : List LB.Lab} (h : w.ownsRow base 49 2 v l.length (lv l)) : ∃ ao cap, v = .slice ao l.length cap ∧ LRow w ao l := by
  have hlt := h.lt
  have h0 := h
  obtain ⟨h1, h2⟩ := h
  rcases h2 with ⟨rfl, hn⟩ | ⟨g, cap, cur, rfl, hg, hh, r⟩
  · refine ⟨none, 0, by rw [hn], fun i hi => by omega⟩
  · refine ⟨some ⟨g, 0, none⟩, cap, rfl, fun i hi => ⟨g, 0, rfl, ?_, ?_, (hlt g rfl).2⟩⟩
    · rw [Nat.zero_add, h0.cellAt (i * 2) (by omega)]; exact (lv_get l i hi).1
    · rw [Nat.zero_add, h0.cellAt (i * 2 + 1) (by omega)]; exact (lv_get l i hi).2

/-- The label i of a row that stands still. -/
theorem LRow.at {w wr : World} {b off : Nat} {l : List LB.Lab} (h : LRow w (some ⟨b, off, none⟩) l) (hb : Below w.heap.size w wr) (i : Nat) (hi : i < l.length) :
    wr.cell? ⟨b, off + i * 2, none⟩ = some (.string (LB.at' l i).1) ∧ wr.cell? ⟨b, off + i * 2 + 1, none⟩ = some (.string (LB.at' l i).2) := by
  obtain ⟨b', off', hao, hc0, hc1, hbs⟩ := h i hi
  simp only [Option.some.injEq, Addr.mk.injEq, and_true] at hao
  obtain ⟨rfl, rfl⟩ := hao
  exact ⟨(hb.cell (p := ⟨b, _, none⟩) hbs).trans hc0, (hb.cell (p := ⟨b, _, none⟩) hbs).trans hc1⟩

theorem LRow.some {w : World} {ao : Option Addr} {l : List LB.Lab} (h : LRow w ao l) (hl : 0 < l.length) : ∃ b off, ao = some ⟨b, off, none⟩ ∧ b < w.heap.size := by
  obtain ⟨b, off, e, _, _, hb⟩ := h 0 hl
  exact ⟨b, off, e, hb⟩

/-- The matchers from i on, as many as are wanted. -/
theorem MRow.slice {w : World} {b off : Nat} {m : List LB.Mat} (h : MRow w (some ⟨b, off, none⟩) m) (i : Nat) (hi : i < m.length) : MRow w (some ⟨b, off + i * 3, none⟩) [LB.am m i] := by
  intro j hj
  have hj0 : j = 0 := by simpa using hj
  subst hj0
  obtain ⟨b', off', hao, hc0, hc1, hc2, hbs⟩ := h i hi
  simp only [Option.some.injEq, Addr.mk.injEq, and_true] at hao
  obtain ⟨rfl, rfl⟩ := hao
  exact ⟨b, off + i * 3, rfl, hc0, hc1, hc2, hbs⟩

end Go.Proofs.YtdmnlmohfaafoadGreatDoor

namespace Go.Proofs.YtdmnlmohfaafoadGreatDoor
open Go.RowKit

/-- A series: labels, and samples. -/
abbrev Sr := List LB.Lab × List CL.Smp

def atSr (l : List Sr) (i : Nat) : Sr := l.getD i ([], [])

/-- Series that came in. -/
def SrRow (w : World) (ao : Option Addr) (l : List Sr) : Prop :=
  ∀ i, i < l.length → ∃ b off, ao = some ⟨b, off, none⟩ ∧ b < w.heap.size ∧ ∃ lo lc so sc, w.cell? ⟨b, off + i * 2, none⟩ = some (.slice lo (atSr l i).1.length lc) ∧ w.cell? ⟨b, off + i * 2 + 1, none⟩ = some (.slice so (atSr l i).2.length sc) ∧ LRow w lo (atSr l i).1 ∧ SRow w so (atSr l i).2

theorem SrRow.below {w w' : World} {ao : Option Addr} {l : List Sr} (h : SrRow w ao l) (hb : Below w.heap.size w w') : SrRow w' ao l := by
  intro i hi
  obtain ⟨b, off, h1, h2, lo, lc, so, sc, h3, h4, h5, h6⟩ := h i hi
  exact ⟨b, off, h1, Nat.lt_of_lt_of_le h2 hb.size, lo, lc, so, sc, (hb.cell (p := ⟨b, _, none⟩) h2).trans h3, (hb.cell (p := ⟨b, _, none⟩) h2).trans h4, h5.below hb, h6.below hb⟩

/-- Rows of labels and of samples of one's own. -/
abbrev OwnLb (w : World) (base : Nat) (v : Value) (l : List LB.Lab) : Prop := w.ownsRow base 49 2 v l.length (lv l)
abbrev OwnSm (w : World) (base : Nat) (v : Value) (l : List CL.Smp) : Prop := w.ownsRow base 52 2 v l.length (sv l)

/-- A row stays where each block of its kind stays. -/
theorem row_kept {w w' : World} {base n size : Nat} {e : TypeId} {v : Value} {xs : List Value} (h : w.ownsRow base e size v n xs) (hk : ∀ (g : Nat) (c : Array Value), w.heap[g]? = some (Obj.cells c e) → w'.heap[g]? = w.heap[g]?) : w'.ownsRow base e size v n xs := by
  refine ⟨h.1, ?_⟩
  rcases h.2 with h0 | ⟨g, cap, cur, rfl, a1, a2, a3⟩
  · exact .inl h0
  · exact .inr ⟨g, cap, cur, rfl, a1, (hk g cur a2).trans a2, a3⟩

theorem row_low {w : World} {base base' n size : Nat} {e : TypeId} {v : Value} {xs : List Value} (h : w.ownsRow base e size v n xs) (hb : base' ≤ base) : w.ownsRow base' e size v n xs := by
  refine ⟨h.1, ?_⟩
  rcases h.2 with h0 | ⟨g, cap, cur, rfl, a1, a2⟩
  · exact .inl h0
  · exact .inr ⟨g, cap, cur, rfl, Nat.le_trans hb a1, a2⟩

/-- Series that were made on the way: a row of pairs of rows. -/
def SrOwn (w : World) (base : Nat) (v : Value) (l : List Sr) : Prop :=
  ∃ xs : List (Value × Value), xs.length = l.length ∧ w.ownsRow base 55 2 v l.length (xs.flatMap fun p => [p.1, p.2]) ∧ ∀ i, i < l.length → OwnLb w base (xs.getD i (.nilIface, .nilIface)).1 (atSr l i).1 ∧ OwnSm w base (xs.getD i (.nilIface, .nilIface)).2 (atSr l i).2

theorem SrOwn.nil (w : World) (base : Nat) : SrOwn w base (.slice none 0 0) [] := ⟨[], rfl, ⟨rfl, .inl ⟨rfl, rfl⟩⟩, fun i hi => by simp at hi⟩

/-- They stay where each block of these kinds stays. -/
theorem SrOwn.kept {w w' : World} {base : Nat} {v : Value} {l : List Sr} (h : SrOwn w base v l) (hk : ∀ (g : Nat) (c : Array Value) (e : TypeId), (e = 55 ∨ e = 49 ∨ e = 52) → w.heap[g]? = some (Obj.cells c e) → w'.heap[g]? = w.heap[g]?) : SrOwn w' base v l := by
  obtain ⟨xs, h1, h2, h3⟩ := h
  refine ⟨xs, h1, row_kept h2 (fun g c hg => hk g c _ (.inl rfl) hg), fun i hi => ?_⟩
  obtain ⟨h4, h5⟩ := h3 i hi
  exact ⟨row_kept h4 (fun g c hg => hk g c _ (.inr (.inl rfl)) hg), row_kept h5 (fun g c hg => hk g c _ (.inr (.inr rfl)) hg)⟩

theorem SrOwn.below {w w' : World} {base : Nat} {v : Value} {l : List Sr} (h : SrOwn w base v l) (hb : Below w.heap.size w w') : SrOwn w' base v l := h.kept fun g _ _ _ hg => hb.block g (heap_lt hg)

/-- All that was there is as it was, but for one block. -/
def But (bt : Nat) (w w' : World) : Prop := w'.os = w.os ∧ w'.tape = w.tape ∧ w'.output = w.output ∧ w.heap.size ≤ w'.heap.size ∧ ∀ j, j < w.heap.size → j ≠ bt → w'.heap[j]? = w.heap[j]?

theorem But.refl (bt : Nat) (w : World) : But bt w w := ⟨rfl, rfl, rfl, Nat.le_refl _, fun _ _ _ => rfl⟩

theorem But.trans {bt : Nat} {a b c : World} (h : But bt a b) (k : But bt b c) : But bt a c :=
  ⟨k.1.trans h.1, k.2.1.trans h.2.1, k.2.2.1.trans h.2.2.1, Nat.le_trans h.2.2.2.1 k.2.2.2.1, fun j hj hne => (k.2.2.2.2 j (Nat.lt_of_lt_of_le hj h.2.2.2.1) hne).trans (h.2.2.2.2 j hj hne)⟩

theorem But.below {bt : Nat} {w w' : World} (h : Below w.heap.size w w') : But bt w w' := ⟨h.os, h.tape, h.output, h.size, fun j hj _ => h.block j hj⟩

theorem But.grown {bt : Nat} {w w' : World} (h : w.grownBy w' (some bt)) : But bt w w' := ⟨h.os, h.tape, h.output, h.size, fun j hj hne => h.block j hj (fun e => hne (Option.some.inj e))⟩

/-- A block that was made behind w may turn. -/
theorem But.own {bt : Nat} {a w w' : World} {row : Option Nat} (h : But bt a w) (k : w.grownBy w' row) (hr : ∀ g, row = some g → a.heap.size ≤ g) : But bt a w' :=
  ⟨k.os.trans h.1, k.tape.trans h.2.1, k.output.trans h.2.2.1, Nat.le_trans h.2.2.2.1 k.size, fun j hj hne => (k.block j (Nat.lt_of_lt_of_le hj h.2.2.2.1) (fun e => by have := hr j e.symm; omega)).trans (h.2.2.2.2 j hj hne)⟩

/-- One series more: its row is there, and those of its labels and samples. -/
theorem SrOwn.snoc {w : World} {base : Nat} {v lvv svv : Value} {l : List Sr} {x : Sr} {xs : List (Value × Value)} (hl : xs.length = l.length) (hrow : w.ownsRow base 55 2 v (l.length + 1) ((xs.flatMap fun p => [p.1, p.2]) ++ [lvv, svv]))
    (hall : ∀ i, i < l.length → OwnLb w base (xs.getD i (.nilIface, .nilIface)).1 (atSr l i).1 ∧ OwnSm w base (xs.getD i (.nilIface, .nilIface)).2 (atSr l i).2) (h1 : OwnLb w base lvv x.1) (h2 : OwnSm w base svv x.2) : SrOwn w base v (l ++ [x]) := by
  refine ⟨xs ++ [(lvv, svv)], by rw [List.length_append, List.length_append, hl]; rfl, ?_, fun i hi => ?_⟩
  · have e : ((xs ++ [(lvv, svv)]).flatMap fun p => [p.1, p.2]) = (xs.flatMap fun p => [p.1, p.2]) ++ [lvv, svv] := by simp [List.flatMap_append]
    rw [e, List.length_append]
    exact hrow
  · by_cases hlt : i < l.length
    · have e1 : (xs ++ [(lvv, svv)]).getD i (.nilIface, .nilIface) = xs.getD i (.nilIface, .nilIface) := by
        rw [List.getD_eq_getElem?_getD, List.getD_eq_getElem?_getD, List.getElem?_append_left (by omega)]
      have e2 : atSr (l ++ [x]) i = atSr l i := by
        unfold atSr
        rw [List.getD_eq_getElem?_getD, List.getD_eq_getElem?_getD, List.getElem?_append_left hlt]
      rw [e1, e2]
      exact hall i hlt
    · have hie : i = l.length := by
        rw [List.length_append] at hi
        simp only [List.length_cons, List.length_nil] at hi
        omega
      subst hie
      have e1 : (xs ++ [(lvv, svv)]).getD l.length (.nilIface, .nilIface) = (lvv, svv) := by
        rw [List.getD_eq_getElem?_getD, ← hl, List.getElem?_append_right (Nat.le_refl _)]
        simp
      have e2 : atSr (l ++ [x]) l.length = x := by
        unfold atSr
        rw [List.getD_eq_getElem?_getD, List.getElem?_append_right (Nat.le_refl _)]
        simp
      rw [e1, e2]
      exact ⟨h1, h2⟩

theorem own_slice {w : World} {base n size : Nat} {e : TypeId} {v : Value} {xs : List Value} (h : w.ownsRow base e size v n xs) : ∃ ao cap, v = .slice ao n cap := by
  rcases h.2 with ⟨h0, h1⟩ | ⟨g, cap, cur, h0, _⟩
  · exact ⟨none, 0, by rw [h0, h1]⟩
  · exact ⟨_, cap, h0⟩

theorem Tryz.infoLb : (Tryz.prog.info? 49).map (fun i => (i.zero, i.size, i.bytes)) = some (some (.agg #[.string ⟨#[]⟩, .string ⟨#[]⟩]), 2, 32) := by kernel_rfl

theorem Tryz.infoSr : (Tryz.prog.info? 55).map (fun i => (i.zero, i.size, i.bytes)) = some (some (.agg #[.slice none 0 0, .slice none 0 0]), 2, 48) := by kernel_rfl

theorem zcell' (w : World) (b : Nat) (a : Array Value) (t : TypeId) (h : w.heap[b]? = some (.cells a t)) (i : Nat) (v : Value) (hv : a[i]? = some v) : w.cell? ⟨b, i, none⟩ = some v := by simp [World.cell?, h, hv]

theorem SrOwn.low {w : World} {base base' : Nat} {v : Value} {l : List Sr} (h : SrOwn w base v l) (hb : base' ≤ base) : SrOwn w base' v l := by
  obtain ⟨xs, h1, h2, h3⟩ := h
  exact ⟨xs, h1, row_low h2 hb, fun i hi => ⟨row_low (h3 i hi).1 hb, row_low (h3 i hi).2 hb⟩⟩

/-- Series with few labels and samples each. -/
def SrFew (l : List Sr) : Prop := l.length ≤ 10000000 ∧ ∀ i, i < l.length → (atSr l i).1.length ≤ 1000 ∧ (atSr l i).2.length ≤ 1000000

/-- A row of series that was made, read as one that is there. -/
theorem SrRow.of_own {w : World} {base : Nat} {v : Value} {l : List Sr} (h : SrOwn w base v l) : ∃ ao cap, v = .slice ao l.length cap ∧ SrRow w ao l := by
  obtain ⟨xs, h1, h2, h3⟩ := h
  have hlt := h2.lt
  have h0 := h2
  obtain ⟨ha, hb⟩ := h2
  have hget : ∀ (xs : List (Value × Value)) (i : Nat), i < xs.length → (xs.flatMap fun p => [p.1, p.2])[i * 2]? = some (xs.getD i (.nilIface, .nilIface)).1 ∧ (xs.flatMap fun p => [p.1, p.2])[i * 2 + 1]? = some (xs.getD i (.nilIface, .nilIface)).2 := by
    intro xs
    induction xs with
    | nil => intro i hi; simp at hi
    | cons s l ih =>
      intro i hi
      match i with
      | 0 => exact ⟨rfl, rfl⟩
      | i + 1 =>
        obtain ⟨h1, h2⟩ := ih i (by simpa using hi)
        have e : ((s :: l).flatMap fun p : Value × Value => [p.1, p.2]) = s.1 :: s.2 :: (l.flatMap fun p => [p.1, p.2]) := rfl
        have e1 : (i + 1) * 2 = i * 2 + 2 := by omega
        rw [e, e1]
        exact ⟨h1, h2⟩
  rcases hb with ⟨rfl, hn⟩ | ⟨g, cap, cur, rfl, hg, hh, r⟩
  · exact ⟨none, 0, by rw [hn], fun i hi => by omega⟩
  · refine ⟨some ⟨g, 0, none⟩, cap, rfl, fun i hi => ⟨g, 0, rfl, (hlt g rfl).2, ?_⟩⟩
    obtain ⟨k1, k2⟩ := h3 i hi
    obtain ⟨lo, lc, e1, r1⟩ := LRow.of_own k1
    obtain ⟨so, sc, e2, r2⟩ := SRow.of_own k2
    obtain ⟨q1, q2⟩ := hget xs i (by omega)
    refine ⟨lo, lc, so, sc, ?_, ?_, r1, r2⟩
    · rw [Nat.zero_add, h0.cellAt (i * 2) (by omega), q1, e1]
    · rw [Nat.zero_add, h0.cellAt (i * 2 + 1) (by omega), q2, e2]

end Go.Proofs.YtdmnlmohfaafoadGreatDoor

