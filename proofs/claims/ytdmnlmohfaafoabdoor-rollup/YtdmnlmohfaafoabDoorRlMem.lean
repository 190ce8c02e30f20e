/- How buckets lie in memory. -/
import Derived.Test.YtdmnlmohfaafoabDoorRlBase
import Derived.Test.YtdmnlmohfaafoabDoorRlNum
import Derived.OwnWalk
namespace Go.Proofs.YtdmnlmohfaafoabDoor
open Go.RowKit

/-- A bucket's cells. -/
def cb (b : CL.Bkt) : List Value := [.int .i64 b.st, .int .i64 b.ct, .int .i64 b.sm, .int .i64 b.mn, .int .i64 b.mx]

/-- The cells of buckets. -/
def bv (l : List CL.Bkt) : List Value := l.flatMap cb

theorem bv_append (a b : List CL.Bkt) : bv (a ++ b) = bv a ++ bv b := by simp [bv]

theorem bv_one (b : CL.Bkt) : bv [b] = cb b := by simp [bv]

theorem bv_length (l : List CL.Bkt) : (bv l).length = l.length * 5 := by
  induction l with
  | nil => rfl
  | cons s l ih =>
    have : bv (s :: l) = cb s ++ bv l := rfl
    rw [this, List.length_append, ih, List.length_cons]
    show 5 + _ = _
    omega

/-- A bucket as a value. -/
abbrev aggB (b : CL.Bkt) : Value := .agg #[.int .i64 b.st, .int .i64 b.ct, .int .i64 b.sm, .int .i64 b.mn, .int .i64 b.mx]

/-- The object behind a bucket of one's own. -/
abbrev boxB (b : CL.Bkt) : Obj := .cells #[.int .i64 b.st, .int .i64 b.ct, .int .i64 b.sm, .int .i64 b.mn, .int .i64 b.mx] 72

def atB (l : List CL.Bkt) (i : Nat) : CL.Bkt := l.getD i ⟨0, 0, 0, 0, 0⟩

theorem atB_eq (l : List CL.Bkt) (i : Nat) (h : i < l.length) : atB l i = l[i] := by simp [atB, h]

theorem atB_mem (l : List CL.Bkt) (i : Nat) (h : i < l.length) : atB l i ∈ l := by rw [atB_eq l i h]; exact List.getElem_mem h

/-- The five cells of a bucket from a place on. -/
def Five (w : World) (b off : Nat) (x : CL.Bkt) : Prop :=
  w.cell? ⟨b, off, none⟩ = some (.int .i64 x.st) ∧ w.cell? ⟨b, off + 1, none⟩ = some (.int .i64 x.ct) ∧ w.cell? ⟨b, off + 2, none⟩ = some (.int .i64 x.sm) ∧ w.cell? ⟨b, off + 3, none⟩ = some (.int .i64 x.mn) ∧ w.cell? ⟨b, off + 4, none⟩ = some (.int .i64 x.mx)

theorem Five.kept {w w' : World} {b off : Nat} {x : CL.Bkt} (h : Five w b off x) (hb : w'.heap[b]? = w.heap[b]?) : Five w' b off x := by
  have hc : ∀ o, w'.cell? ⟨b, o, none⟩ = w.cell? ⟨b, o, none⟩ := fun o => by simp only [World.cell?, hb]
  unfold Five
  rw [hc, hc, hc, hc, hc]; exact h

/-- The buckets l lie from ao on. -/
def BRow (w : World) (ao : Option Addr) (l : List CL.Bkt) : Prop :=
  ∀ i, i < l.length → ∃ b off, ao = some ⟨b, off, none⟩ ∧ Five w b (off + i * 5) (atB l i) ∧ b < w.heap.size

theorem BRow.below {w w' : World} {ao : Option Addr} {l : List CL.Bkt} (h : BRow w ao l) (hb : Below w.heap.size w w') : BRow w' ao l := by
  intro i hi
  obtain ⟨b, off, h1, h2, h3⟩ := h i hi
  exact ⟨b, off, h1, h2.kept (hb.block b h3), Nat.lt_of_lt_of_le h3 hb.size⟩

theorem BRow.at {w wr : World} {b off : Nat} {l : List CL.Bkt} (h : BRow w (some ⟨b, off, none⟩) l) (hb : Below w.heap.size w wr) (i : Nat) (hi : i < l.length) : Five wr b (off + i * 5) (atB l i) := by
  obtain ⟨b', off', hao, hc, hbs⟩ := h i hi
  simp only [Option.some.injEq, Addr.mk.injEq, and_true] at hao
  obtain ⟨rfl, rfl⟩ := hao
  exact hc.kept (hb.block b hbs)

theorem bv_get (l : List CL.Bkt) : ∀ i, i < l.length → (bv l)[i * 5]? = some (.int .i64 (atB l i).st) ∧ (bv l)[i * 5 + 1]? = some (.int .i64 (atB l i).ct) ∧ (bv l)[i * 5 + 2]? = some (.int .i64 (atB l i).sm) ∧ (bv l)[i * 5 + 3]? = some (.int .i64 (atB l i).mn) ∧ (bv l)[i * 5 + 4]? = some (.int .i64 (atB l i).mx) := by
  induction l with
  | nil => intro i hi; simp at hi
  | cons s l ih =>
    intro i hi
    match i with
    | 0 => exact ⟨rfl, rfl, rfl, rfl, rfl⟩
    | i + 1 =>
      obtain ⟨h1, h2, h3, h4, h5⟩ := ih i (by simpa using hi)
      have e : bv (s :: l) = .int .i64 s.st :: .int .i64 s.ct :: .int .i64 s.sm :: .int .i64 s.mn :: .int .i64 s.mx :: bv l := rfl
      have e1 : (i + 1) * 5 = i * 5 + 5 := by omega
      have e2 : atB (s :: l) (i + 1) = atB l i := rfl
      rw [e, e1, e2]
      exact ⟨h1, h2, h3, h4, h5⟩

theorem own_five {w : World} {base g cap : Nat} {l : List CL.Bkt} {n : Nat} (hn : n = l.length) (h : w.ownsRow base 72 5 (.slice (some ⟨g, 0, none⟩) n cap) n (bv l)) (i : Nat) (hi : i < l.length) : Five w g (i * 5) (atB l i) := by
  subst hn
  obtain ⟨h1, h2, h3, h4, h5⟩ := bv_get l i hi
  exact ⟨(h.cellAt _ (by omega)).trans h1, (h.cellAt _ (by omega)).trans h2, (h.cellAt _ (by omega)).trans h3, (h.cellAt _ (by omega)).trans h4, (h.cellAt _ (by omega)).trans h5⟩

theorem BRow.of_own {w : World} {base : Nat} {v : Value} {l : List CL.Bkt} (h : w.ownsRow base 72 5 v l.length (bv l)) : ∃ ao cap, v = .slice ao l.length cap ∧ BRow w ao l ∧ l.length ≤ cap ∧ (ao = none → cap = 0) := by
  have hlt := h.lt
  have h0 := h
  obtain ⟨h1, h2⟩ := h
  rcases h2 with ⟨rfl, hn⟩ | ⟨g, cap, cur, rfl, hg, hh, r, _⟩
  · refine ⟨none, 0, by rw [hn], fun i hi => by omega, by omega, fun _ => rfl⟩
  · refine ⟨some ⟨g, 0, none⟩, cap, rfl, fun i hi => ⟨g, 0, rfl, ?_, (hlt g rfl).2⟩, r, fun h => by cases h⟩
    rw [Nat.zero_add]
    exact own_five rfl h0 i hi

theorem Tryd.info72 : (Tryd.prog.info? 72).map (fun i => (i.zero, i.size, i.bytes)) = some (some (.agg #[.int .i64 0, .int .i64 0, .int .i64 0, .int .i64 0, .int .i64 0]), 5, 40) := by kernel_rfl

theorem five_news (w : World) (x : CL.Bkt) : ∀ j u, (cb x)[j]? = some u → (w.alloc (boxB x)).cell? ((⟨w.heap.size, 0, none⟩ : Addr).add j) = some u := by
  intro j u hj
  match j, hj with
  | 0, hj => simp [cb] at hj; subst hj; simp [Addr.add]
  | 1, hj => simp [cb] at hj; subst hj; simp [Addr.add]
  | 2, hj => simp [cb] at hj; subst hj; simp [Addr.add]
  | 3, hj => simp [cb] at hj; subst hj; simp [Addr.add]
  | 4, hj => simp [cb] at hj; subst hj; simp [Addr.add]

theorem cb_i64 (x : CL.Bkt) : ∀ u ∈ cb x, u.oneCell' = true := by
  intro u hu
  simp [cb] at hu
  rcases hu with rfl | rfl | rfl | rfl | rfl <;> rfl

theorem own_formB {w : World} {base n : Nat} {v : Value} {xs : List Value} (h : w.ownsRow base 72 5 v n xs) (hn : 0 < n) : ∃ g cap, v = .slice (some ⟨g, 0, none⟩) n cap ∧ n ≤ cap ∧ cap ≤ maxLen ∧ base ≤ g ∧ g < w.heap.size := by
  have hlt := h.lt
  obtain ⟨_, hcase⟩ := h
  rcases hcase with ⟨_, h0⟩ | ⟨g, cap, cur, h, _, _, h1, h2, _⟩
  · omega
  · subst h
    exact ⟨g, cap, rfl, h1, h2, hlt g rfl⟩

/-- A bucket's cell is written in a row of one's own. -/
theorem own_set {w : World} {base g cap n j : Nat} {xs ys : List Value} {u : Value} (h : w.ownsRow base 72 5 (.slice (some ⟨g, 0, none⟩) n cap) n xs) (e : xs.set j u = ys) : (w.setCell ⟨g, j, none⟩ u).ownsRow base 72 5 (.slice (some ⟨g, 0, none⟩) n cap) n ys ∧ w.grownBy (w.setCell ⟨g, j, none⟩ u) (some g) := by
  subst e; exact h.stored j u

theorem set_tail (A : List Value) (k j : Nat) (hk : A.length = k) (B : List Value) (u : Value) : (A ++ B).set (k + j) u = A ++ B.set j u := by
  subst hk
  rw [List.set_append_right _ _ (by omega)]
  congr 2
  omega

theorem Five.alloc {w : World} {b off : Nat} {x : CL.Bkt} (h : Five w b off x) (hb : b < w.heap.size) (o : Obj) : Five (w.alloc o) b off x := h.kept (Below.heap_alloc w o b hb)

theorem Five.new (w : World) (x : CL.Bkt) : Five (w.alloc (boxB x)) w.heap.size 0 x := by
  unfold Five
  refine ⟨?_, ?_, ?_, ?_, ?_⟩ <;> simp

theorem Five.grown {w w' : World} {b off : Nat} {x : CL.Bkt} {row : Option Nat} (h : Five w b off x) (hb : b < w.heap.size) (hg : w.grownBy w' row) (hne : row ≠ some b) : Five w' b off x := h.kept (hg.block b hb (fun e => hne e.symm))

theorem grown_trans {a b c : World} {row : Option Nat} (h : a.grownBy b row) (k : b.grownBy c row) : a.grownBy c row :=
  ⟨k.os.trans h.os, k.tape.trans h.tape, k.output.trans h.output, Nat.le_trans h.size k.size, fun i hi hR => (k.block i (Nat.lt_of_lt_of_le hi h.size) hR).trans (h.block i hi hR)⟩

theorem grown_drewN {a b : World} {row : Option Nat} (h : a.grownBy b row) (n : Nat) : a.grownBy (b.drewN n) row := ⟨h.os, h.tape, h.output, h.size, h.block⟩

theorem own_drewN {w : World} {base n size : Nat} {e : TypeId} {v : Value} {xs : List Value} (h : w.ownsRow base e size v n xs) (k : Nat) : (w.drewN k).ownsRow base e size v n xs := own_heap h rfl

end Go.Proofs.YtdmnlmohfaafoabDoor
