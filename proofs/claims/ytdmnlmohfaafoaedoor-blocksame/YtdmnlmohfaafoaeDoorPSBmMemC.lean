/- Rows of one's own: append where both what was and what is stay told; copy of elements of many cells. No program in it. Rows of series, without a head (made by mkbk.py) -/
import Derived.Test.YtdmnlmohfaafoaeDoorPSCdMem
import Derived.Deep.AppendSrc
import Derived.Laws.CopyRow
import Derived.Laws.Externs
import Derived.Lib.AppendZerosOnto
import Derived.Lib.Overlaps
import Derived.Test.YtdmnlmohfaafoaeDoorPSHdNumC
import Derived.Laws.OwnMore
import Derived.Shelf.Abstract
namespace Go.Proofs.YtdmnlmohfaafoaeDoor
open Go.RowKit

theorem list_take_three {α : Type} (a b c : List α) (n : Nat) (h : n = a.length + b.length) : (a ++ b ++ c).take n = a ++ b := by
  rw [h, ← List.length_append, List.take_left]

/-- append onto a row of one's own: the row as it was is still there, below. -/
theorem append_both {P : Program} (w : World) (base : Nat) (t ty e : TypeId) (i : TypeInfo) (z : Value) (size bytes : Nat) (ht : P.underlying t = some (.slice e)) (hi : P.info? e = some i) (hz : i.zero = some z)
    (hsize : i.size = size) (hby : i.bytes = bytes) (hzs : z.cells.size = size) (hsz : 0 < size)
    (v : Value) (n : Nat) (xs : List Value) (hown : w.ownsRow base e size v n xs)
    (a : Addr) (m c : Nat) (news : List Value) (hm : 0 < m) (hl : news.length = m * size) (hnews : ∀ j u, news[j]? = some u → w.cell? (a.add j) = some u) (h1 : ∀ u ∈ news, u.oneCell' = true)
    (h63 : n + m ≤ maxLen) (hbytes : (n + m) * bytes ≤ 140737488355328) (hbase : base ≤ w.heap.size) :
    ∃ v' w', (Builtin.append_ #[t, t] ty #[v, .slice (some a) m c]).run P w = .ok v' w' ∧ w'.ownsRow base e size v' (n + m) (xs ++ news) ∧ w'.ownsRow base e size v n xs ∧ w.grownBy w' v.ownBlock ∧
      (v'.ownBlock = v.ownBlock ∨ v'.ownBlock = some w.heap.size) := by
  obtain ⟨v', w', hrun, ho, hg, hnil⟩ := run_append_own (P := P) w base t ty e i z size bytes ht hi hz hsize hby hzs hsz v n xs hown a m c news hl hnews h1 h63 hbytes hbase
  refine ⟨v', w', hrun, ho, ?_⟩
  have hsrc : Src P i.size t (.slice (some a) m c) m news w := Src.ofSlice w ht a m c news (by rw [hsize]; exact hl) hnews h1
  have h63' : ((n + m : Nat) : Int) ≤ 9223372036854775807 := by unfold maxLen at h63; omega
  have hown0 := hown
  rcases hown.2 with ⟨rfl, h0⟩ | ⟨g, cap, cur, rfl, h2, hc, h3, h4, h5, h6⟩
  · subst h0
    have hr := run_append_grow_src (P := P) w t t ty e i z ht hi hz none 0 0 [] (run_firstCells_none w.drew i.size 0 0 0) (.slice (some a) m c) m news hsrc (by omega) h63' (by rw [hby]; exact growslice_fits (by omega) hbytes)
    rw [hr] at hrun
    cases hrun
    exact ⟨⟨hown.1, .inl ⟨rfl, rfl⟩⟩, hg, .inr rfl⟩
  · by_cases hroom : n + m ≤ cap
    · have hfit : n * i.size + news.length ≤ cur.size := by
        rw [hsize, hl, h5, ← Nat.add_mul]
        exact Nat.mul_le_mul_right _ hroom
      have hr := run_append_room (P := P) w t ty e i ht hi g n cap cur hc a m c news (by rw [hsize]; exact hl) hnews h1 hroom hfit
      rw [hr] at hrun
      cases hrun
      refine ⟨⟨hown0.1, .inr ⟨g, cap, _, rfl, h2, setRow_heap w g cur _ e _ hc, h3, h4, ?_, ?_⟩⟩, hg, .inl rfl⟩
      · rw [← h5]
        have : (cur.toList.take (n * i.size) ++ news ++ cur.toList.drop (n * i.size + news.length)).length = cur.size := by
          simp only [List.length_append, List.length_take, List.length_drop, Array.length_toList]
          omega
        simpa using this
      · have hle : n * size ≤ cur.size := by rw [h5]; exact Nat.mul_le_mul_right _ h3
        rw [List.toList_toArray, List.append_assoc, hsize, List.take_append_of_le_length (by rw [List.length_take, Array.length_toList]; omega), List.take_take, Nat.min_self]
        exact h6
    · have hold : (Builtin.firstCells i.size n (.slice (some ⟨g, 0, none⟩) n cap)).run P w.drew = .ok xs.toArray w.drew := by
        rw [hsize]
        exact run_firstCells_some w.drew size n ⟨g, 0, none⟩ n cap xs hown0.1 (fun j u hj => hown0.cells (g := g) rfl j u hj)
      have hr := run_append_grow_src (P := P) w t t ty e i z ht hi hz (some ⟨g, 0, none⟩) n cap xs hold (.slice (some a) m c) m news hsrc (by omega) h63' (by rw [hby]; exact growslice_fits (by omega) hbytes)
      rw [hr] at hrun
      cases hrun
      refine ⟨⟨hown0.1, .inr ⟨g, cap, cur, rfl, h2, ?_, h3, h4, h5, h6⟩⟩, hg, .inr rfl⟩
      exact (Below.heap_alloc w.drew _ g (heap_lt hc)).trans hc

/-- copy of elements of many cells into a row. -/
theorem run_copy_many {P : Program} (w : World) (dT sT ty elem : TypeId) (g o dLen dCap : Nat) (a : Addr) (sLen sCap size : Nat) (cur : Array Value) (t : TypeId) (cs : List Value)
    (hu : P.underlying dT = some (.slice elem)) (hs : (P.info? elem).map (·.size) = some size)
    (hg : w.heap[g]? = some (.cells cur t (0, 0))) (hn : cs.length = Nat.min sLen dLen * size)
    (hsrc : ∀ j v, cs[j]? = some v → w.cell? (a.add j) = some v) (hfit : o + cs.length ≤ cur.size) (h1 : ∀ v ∈ cs, v.oneCell' = true) :
    (Builtin.copy_ #[dT, sT] ty #[.slice (some ⟨g, o, none⟩) dLen dCap, .slice (some a) sLen sCap]).run P w =
      .ok (goInt (Nat.min sLen dLen)) (w.setRow g (cur.toList.take o ++ cs ++ cur.toList.drop (o + cs.length)).toArray) := by
  have hl := run_loadCells_list (P := P) w a cs hsrc
  have hst := run_storeCells_at P g o t cs 0 cur w hg (by simpa using hfit) h1
  cases hq : P.info? elem with
  | none => simp [hq] at hs
  | some i =>
    have hi : i.size = size := by simpa [hq] using hs
    simp [Builtin.copy_, run_underlying hu, Builtin.lenOf, Builtin.firstCells, sizeOf, typeInfo, hq, hi, ← hn, hl, hst]

/-- The operation copy where its run is known by an equation. -/
theorem wpList_copy_eqn {P : Program} (w : World) {ops : Array Oper} {rest : List Oper} {o : Oper} {a : Act} {Q : Exit → Act → World → Prop} (hgd : o.guard = none) (d s : Operand) (t t' : TypeId)
    (ho : o.op = .call { callee := .builtin .copy, args := #[d, s], argTypes := #[t, t'] }) (v u : Value) (hd : a.eval d = v) (hs : a.eval s = u) {v' : Value} {w' : World}
    (hr : (Builtin.copy_ #[t, t'] o.type #[v, u]).run P w = .ok v' w') (h : wpList P ops Q rest (a.put o.dst v') w') : wpList P ops Q (o :: rest) a w :=
  wpList_plain hgd fun _ hK => by
    unfold Oper.wp execOp
    simp only [ho, resolve, invoke, builtin, Sem.run_bind, Sem.run_pure, Result.andThen_ok, List.map_toArray, List.map_cons, List.map_nil, hd, hs, hr]
    exact hK _ _ h

/-- .. and as one step of a region that draws. -/
theorem step_copy_eqn {P : Program} {ops : Array Oper} {o : Oper} {a : Act} {w : World} {K : Act → World → Prop} {Q : Exit → Act → World → Prop} {E : Prop}
    (hg : o.guard = none) (d x : Operand) (dT sT : TypeId) (hop : o.op = Op.call { callee := Callee.builtin Builtin.copy, args := #[d, x], argTypes := #[dT, sT] })
    (v u : Value) (hd : a.eval d = v) (hx : a.eval x = u) {v' : Value} {w' : World} (hr : (Builtin.copy_ #[dT, sT] o.type #[v, u]).run P w = .ok v' w') (hK : K (a.put o.dst v') w') :
    if Region.wanted o (yielded ops a.tmps) = true then Oper.wp P o a w K Q else E := by
  have hw : Region.wanted o (yielded ops a.tmps) = true := by simp [Region.wanted, hg]
  rw [if_pos hw]
  unfold Oper.wp
  simp [execOp, hop, resolve, invoke, builtin, hd, hx, hr, Result.andThen]
  exact hK

/-- append, where its run is known by an equation, as one step of a region that draws. -/
theorem step_append_eqn {P : Program} {ops : Array Oper} {o : Oper} {a : Act} {w : World} {K : Act → World → Prop} {Q : Exit → Act → World → Prop} {E : Prop}
    (hg : o.guard = none) (d x : Operand) (dT sT : TypeId) (hop : o.op = Op.call { callee := Callee.builtin Builtin.append, args := #[d, x], argTypes := #[dT, sT] })
    (v u : Value) (hd : a.eval d = v) (hx : a.eval x = u) {v' : Value} {w' : World} (hr : (Builtin.append_ #[dT, sT] o.type #[v, u]).run P w = .ok v' w') (hK : K (a.put o.dst v') w') :
    if Region.wanted o (yielded ops a.tmps) = true then Oper.wp P o a w K Q else E := by
  have hw : Region.wanted o (yielded ops a.tmps) = true := by simp [Region.wanted, hg]
  rw [if_pos hw]
  unfold Oper.wp
  simp [execOp, hop, resolve, invoke, builtin, hd, hx, hr, Result.andThen]
  exact hK

end Go.Proofs.YtdmnlmohfaafoaeDoor

namespace Go.Proofs.YtdmnlmohfaafoaeDoor
open Go.RowKit

/-- All that was there is as it was, but for the blocks Z. -/
structure ZFr (Z : Nat → Prop) (w w' : World) : Prop where
  os : w'.os = w.os
  tape : w'.tape = w.tape
  output : w'.output = w.output
  size : w.heap.size ≤ w'.heap.size
  block : ∀ j, j < w.heap.size → ¬ Z j → w'.heap[j]? = w.heap[j]?

theorem ZFr.refl (Z : Nat → Prop) (w : World) : ZFr Z w w := ⟨rfl, rfl, rfl, Nat.le_refl _, fun _ _ _ => rfl⟩

theorem ZFr.trans {Z : Nat → Prop} {a b c : World} (h : ZFr Z a b) (k : ZFr Z b c) : ZFr Z a c :=
  ⟨k.os.trans h.os, k.tape.trans h.tape, k.output.trans h.output, Nat.le_trans h.size k.size, fun j hj hn => (k.block j (Nat.lt_of_lt_of_le hj h.size) hn).trans (h.block j hj hn)⟩

/-- .. also where the second may turn what was made behind the first. -/
theorem ZFr.trans' {Z Z' : Nat → Prop} {a b c : World} (h : ZFr Z a b) (k : ZFr Z' b c) (hz : ∀ j, j < a.heap.size → Z' j → Z j) : ZFr Z a c :=
  ⟨k.os.trans h.os, k.tape.trans h.tape, k.output.trans h.output, Nat.le_trans h.size k.size, fun j hj hn => (k.block j (Nat.lt_of_lt_of_le hj h.size) (fun e => hn (hz j hj e))).trans (h.block j hj hn)⟩

theorem ZFr.below {Z : Nat → Prop} {w w' : World} (h : Below w.heap.size w w') : ZFr Z w w' := ⟨h.os, h.tape, h.output, h.size, fun j hj _ => h.block j hj⟩

theorem ZFr.low {Z : Nat → Prop} {w w' : World} (h : ZFr Z w w') {B : Nat} (hB : B ≤ w.heap.size) (hz : ∀ j, Z j → B ≤ j) : Below B w w' := ⟨h.os, h.tape, h.output, h.size, fun j hj => h.block j (by omega) (fun e => by have := hz j e; omega)⟩

theorem bel2 {a b c : World} (h : Below a.heap.size a b) (k : Below b.heap.size b c) : Below a.heap.size a c := h.trans (k.mono h.size)

theorem hfz {w : World} {B : Nat} {c : Array Value} {T : TypeId} (h : w.heap[B]? = some (.cells c T)) (j : Nat) : w.frozen? ⟨B, j, none⟩ = false := by simp [World.frozen?, h]

/-- A store elsewhere. -/
theorem own_set {w : World} {base n size : Nat} {e : TypeId} {v : Value} {xs : List Value} (h : w.ownsRow base e size v n xs) {r : Nat} (hr : v.ownBlock ≠ some r) (o : Nat) (u : Value) : (w.setCell ⟨r, o, none⟩ u).ownsRow base e size v n xs := by
  refine ⟨h.1, ?_⟩
  rcases h.2 with h0 | ⟨g, cap, cur, rfl, a1, a2, a3⟩
  · exact .inl h0
  · exact .inr ⟨g, cap, cur, rfl, a1, (Below.heap_setCell w ⟨r, o, none⟩ u g (fun e => hr (congrArg some e))).trans a2, a3⟩

theorem own_far {w : World} {base n size : Nat} {e : TypeId} {v : Value} {xs : List Value} (h : w.ownsRow base e size v n xs) {r : Nat} (hr : r < base) : v.ownBlock ≠ some r := fun e => by have := (h.lt r e).1; omega

/-- What may turn, and what is new. -/
def wid (Z : Nat → Prop) (w w' : World) : Nat → Prop := fun j => Z j ∨ (w.heap.size ≤ j ∧ j < w'.heap.size)

abbrev nilP : Value × Value := (.nilIface, .nilIface)

abbrev flat (xs : List (Value × Value)) : List Value := xs.flatMap fun p => [p.1, p.2]

abbrev atX (xs : List (Value × Value)) (i : Nat) : Value × Value := xs.getD i nilP

theorem flat_length (xs : List (Value × Value)) : (flat xs).length = xs.length * 2 := by
  induction xs with
  | nil => rfl
  | cons s l ih => simp only [flat, List.flatMap_cons, List.length_append, List.length_cons, List.length_nil] at ih ⊢; omega

theorem flat_cons (p : Value × Value) (xs : List (Value × Value)) : flat (p :: xs) = p.1 :: p.2 :: flat xs := rfl

theorem flat_append (a b : List (Value × Value)) : flat (a ++ b) = flat a ++ flat b := by simp [flat]

theorem flat_get (xs : List (Value × Value)) : ∀ i, i < xs.length → (flat xs)[i * 2]? = some (atX xs i).1 ∧ (flat xs)[i * 2 + 1]? = some (atX xs i).2 := by
  induction xs with
  | nil => intro i hi; simp at hi
  | cons s l ih =>
    intro i hi
    match i with
    | 0 => exact ⟨rfl, rfl⟩
    | i + 1 =>
      obtain ⟨h1, h2⟩ := ih i (by simpa using hi)
      have e1 : (i + 1) * 2 = i * 2 + 2 := by omega
      rw [flat_cons, e1]
      exact ⟨h1, h2⟩

theorem flat_set (xs : List (Value × Value)) (u : Value) : ∀ i, (flat xs).set (i * 2 + 1) u = flat (xs.set i ((atX xs i).1, u)) := by
  induction xs with
  | nil => intro i; rfl
  | cons s l ih =>
    intro i
    match i with
    | 0 => rfl
    | i + 1 =>
      have e1 : (i + 1) * 2 + 1 = (i * 2 + 1) + 2 := by omega
      rw [flat_cons, e1]
      show s.1 :: s.2 :: (flat l).set (i * 2 + 1) u = _
      rw [ih i]
      rfl

theorem atX_mem {xs : List (Value × Value)} {i : Nat} (h : i < xs.length) : atX xs i ∈ xs := by
  unfold atX
  rw [List.getD_eq_getElem?_getD, List.getElem?_eq_getElem h]
  exact List.getElem_mem h

theorem atX_set (xs : List (Value × Value)) (k i : Nat) (p : Value × Value) (hk : k < xs.length) : atX (xs.set k p) i = if i = k then p else atX xs i := by
  unfold atX
  rw [List.getD_eq_getElem?_getD, List.getD_eq_getElem?_getD, List.getElem?_set]
  by_cases h : k = i
  · subst h; rw [if_pos rfl, if_pos rfl, if_pos hk]; rfl
  · rw [if_neg h, if_neg (fun e => h e.symm)]

theorem atSr_set (S : List Sr) (k i : Nat) (p : Sr) (hk : k < S.length) : atSr (S.set k p) i = if i = k then p else atSr S i := by
  unfold atSr
  rw [List.getD_eq_getElem?_getD, List.getD_eq_getElem?_getD, List.getElem?_set]
  by_cases h : k = i
  · subst h; rw [if_pos rfl, if_pos rfl, if_pos hk]; rfl
  · rw [if_neg h, if_neg (fun e => h e.symm)]

/-- Series that lie there, none of them in Z. -/
def LOut (w : World) (Z : Nat → Prop) (ao : Option Addr) (l : List LB.Lab) : Prop := LRow w ao l ∧ ∀ a, ao = some a → 0 < l.length → ¬ Z a.block

def SOut (w : World) (Z : Nat → Prop) (ao : Option Addr) (l : List CL.Smp) : Prop := SRow w ao l ∧ ∀ a, ao = some a → 0 < l.length → ¬ Z a.block

def SrOut (w : World) (Z : Nat → Prop) (ao : Option Addr) (l : List Sr) : Prop :=
  ∀ i, i < l.length → ∃ b off, ao = some ⟨b, off, none⟩ ∧ b < w.heap.size ∧ ¬ Z b ∧ ∃ lo lc so sc, w.cell? ⟨b, off + i * 2, none⟩ = some (.slice lo (atSr l i).1.length lc) ∧ w.cell? ⟨b, off + i * 2 + 1, none⟩ = some (.slice so (atSr l i).2.length sc) ∧ LOut w Z lo (atSr l i).1 ∧ SOut w Z so (atSr l i).2

theorem SrOut.row {w : World} {Z : Nat → Prop} {ao : Option Addr} {l : List Sr} (h : SrOut w Z ao l) : SrRow w ao l := by
  intro i hi
  obtain ⟨b, off, h1, h2, _, lo, lc, so, sc, h3, h4, h5, h6⟩ := h i hi
  exact ⟨b, off, h1, h2, lo, lc, so, sc, h3, h4, h5.1, h6.1⟩

theorem zcell {Z : Nat → Prop} {w w' : World} (h : ZFr Z w w') {b o : Nat} (hb : b < w.heap.size) (hz : ¬ Z b) : w'.cell? ⟨b, o, none⟩ = w.cell? ⟨b, o, none⟩ := World.cell?_of_block (a := ⟨b, o, none⟩) (h.block b hb hz)

theorem LOut.kept {w w' : World} {Z : Nat → Prop} {ao : Option Addr} {l : List LB.Lab} (h : LOut w Z ao l) (hz : ZFr Z w w') : LOut w' Z ao l := by
  refine ⟨fun i hi => ?_, h.2⟩
  obtain ⟨b, off, h1, h2, h3, h4⟩ := h.1 i hi
  have hn : ¬ Z b := h.2 _ h1 (by omega)
  exact ⟨b, off, h1, (zcell hz h4 hn).trans h2, (zcell hz h4 hn).trans h3, Nat.lt_of_lt_of_le h4 hz.size⟩

theorem SOut.kept {w w' : World} {Z : Nat → Prop} {ao : Option Addr} {l : List CL.Smp} (h : SOut w Z ao l) (hz : ZFr Z w w') : SOut w' Z ao l := by
  refine ⟨fun i hi => ?_, h.2⟩
  obtain ⟨b, off, h1, h2, h3, h4⟩ := h.1 i hi
  have hn : ¬ Z b := h.2 _ h1 (by omega)
  exact ⟨b, off, h1, (zcell hz h4 hn).trans h2, (zcell hz h4 hn).trans h3, Nat.lt_of_lt_of_le h4 hz.size⟩

theorem SrOut.kept {w w' : World} {Z : Nat → Prop} {ao : Option Addr} {l : List Sr} (h : SrOut w Z ao l) (hz : ZFr Z w w') : SrOut w' Z ao l := by
  intro i hi
  obtain ⟨b, off, h1, h2, hn, lo, lc, so, sc, h3, h4, h5, h6⟩ := h i hi
  exact ⟨b, off, h1, Nat.lt_of_lt_of_le h2 hz.size, hn, lo, lc, so, sc, (zcell hz h2 hn).trans h3, (zcell hz h2 hn).trans h4, h5.kept hz, h6.kept hz⟩

/-- Z may grow by what is new. -/
theorem SrOut.wide {w : World} {Z Z' : Nat → Prop} {ao : Option Addr} {l : List Sr} (h : SrOut w Z ao l) (hz : ∀ j, Z' j → Z j ∨ w.heap.size ≤ j) : SrOut w Z' ao l := by
  intro i hi
  obtain ⟨b, off, h1, h2, hn, lo, lc, so, sc, h3, h4, h5, h6⟩ := h i hi
  have key : ∀ j, j < w.heap.size → ¬ Z j → ¬ Z' j := fun j hj hnz e => by
    rcases hz j e with e | e
    · exact hnz e
    · omega
  refine ⟨b, off, h1, h2, key b h2 hn, lo, lc, so, sc, h3, h4, ⟨h5.1, fun a ha h0 => ?_⟩, ⟨h6.1, fun a ha h0 => ?_⟩⟩
  · obtain ⟨b', _, e, _, _, h9⟩ := h5.1 0 h0
    rw [ha] at e; cases e
    exact key _ h9 (h5.2 _ ha h0)
  · obtain ⟨b', _, e, _, _, h9⟩ := h6.1 0 h0
    rw [ha] at e; cases e
    exact key _ h9 (h6.2 _ ha h0)

/-- Rows made where no block of Z is. -/
theorem SrOut.of_own {w : World} {base : Nat} {Z : Nat → Prop} {v : Value} {l : List Sr} (h : SrOwn w base v l) (hz : ∀ j, Z j → j < base) : ∃ ao cap, v = .slice ao l.length cap ∧ SrOut w Z ao l := by
  obtain ⟨xs, h1, h2, h3⟩ := h
  have key : ∀ j, base ≤ j → ¬ Z j := fun j hj e => by have := hz j e; omega
  rcases hb : h2.2 with ⟨h0, hn⟩ | ⟨g, cap, cur, h0, hg, hc, _⟩
  · exact ⟨none, 0, by rw [h0, hn], fun i hi => by omega⟩
  · refine ⟨some ⟨g, 0, none⟩, cap, h0, fun i hi => ⟨g, 0, rfl, heap_lt hc, key g hg, ?_⟩⟩
    obtain ⟨k1, k2⟩ := h3 i hi
    obtain ⟨lo, lc, e1, r1⟩ := LRow.of_own k1
    obtain ⟨so, sc, e2, r2⟩ := SRow.of_own k2
    obtain ⟨q1, q2⟩ := flat_get xs i (by omega)
    have c := h2.cells (g := g) (by rw [h0]; rfl)
    have c1 := c _ _ q1
    have c2 := c _ _ q2
    rw [Addr.add_lit, Nat.zero_add] at c1 c2
    refine ⟨lo, lc, so, sc, ?_, ?_, ⟨r1, fun a ha _ => ?_⟩, ⟨r2, fun a ha _ => ?_⟩⟩
    · rw [Nat.zero_add, c1]; exact congrArg some e1
    · rw [Nat.zero_add, c2]; exact congrArg some e2
    · exact key _ (k1.lt a.block (by rw [e1, ha]; rfl)).1
    · exact key _ (k2.lt a.block (by rw [e2, ha]; rfl)).1

/-- .. and rows that were there ahead of Z. -/
theorem SrOut.of_row {w : World} {Z : Nat → Prop} {ao : Option Addr} {l : List Sr} (h : SrRow w ao l) (hz : ∀ j, Z j → w.heap.size ≤ j) : SrOut w Z ao l := by
  have key : ∀ j, j < w.heap.size → ¬ Z j := fun j hj e => by have := hz j e; omega
  intro i hi
  obtain ⟨b, off, h1, h2, lo, lc, so, sc, h3, h4, h5, h6⟩ := h i hi
  refine ⟨b, off, h1, h2, key b h2, lo, lc, so, sc, h3, h4, ⟨h5, fun a ha h0 => ?_⟩, ⟨h6, fun a ha h0 => ?_⟩⟩
  · obtain ⟨b', _, e, _, _, h9⟩ := h5 0 h0
    rw [ha] at e; cases e
    exact key _ h9
  · obtain ⟨b', _, e, _, _, h9⟩ := h6 0 h0
    rw [ha] at e; cases e
    exact key _ h9

/-- The cells of rows that lie there. -/
theorem lrow_cells {w : World} {ao : Option Addr} {l : List LB.Lab} (h : LRow w ao l) : ∀ ad, ao = some ad → ∀ j u, (lv l)[j]? = some u → w.cell? (ad.add j) = some u := by
  intro ad had j u hj
  have hlt : j < (lv l).length := (List.getElem?_eq_some_iff.1 hj).1
  rw [lv_length] at hlt
  obtain ⟨b, off, e, c0, c1, hbs⟩ := h (j / 2) (by omega)
  rw [had] at e
  obtain rfl := Option.some.inj e
  obtain ⟨g0, g1⟩ := lv_get l (j / 2) (by omega)
  rw [Addr.add_lit]
  rcases Nat.mod_two_eq_zero_or_one j with hp | hp
  · have ej : j / 2 * 2 = j := by omega
    rw [ej] at g0 c0
    rw [g0] at hj
    rw [← hj]; exact c0
  · have ej : j / 2 * 2 + 1 = j := by omega
    rw [Nat.add_assoc, ej] at c1
    rw [ej] at g1
    rw [g1] at hj
    rw [← hj]; exact c1

theorem smp_cells {w : World} {ao : Option Addr} {l : List CL.Smp} (h : SRow w ao l) : ∀ ad, ao = some ad → ∀ j u, (sv l)[j]? = some u → w.cell? (ad.add j) = some u := by
  intro ad had j u hj
  have hlt : j < (sv l).length := (List.getElem?_eq_some_iff.1 hj).1
  rw [sv_length] at hlt
  obtain ⟨b, off, e, c0, c1, hbs⟩ := h (j / 2) (by omega)
  rw [had] at e
  obtain rfl := Option.some.inj e
  obtain ⟨g0, g1⟩ := sv_get l (j / 2) (by omega)
  rw [Addr.add_lit]
  rcases Nat.mod_two_eq_zero_or_one j with hp | hp
  · have ej : j / 2 * 2 = j := by omega
    rw [ej] at g0 c0
    rw [g0] at hj
    rw [← hj]; exact c0
  · have ej : j / 2 * 2 + 1 = j := by omega
    rw [Nat.add_assoc, ej] at c1
    rw [ej] at g1
    rw [g1] at hj
    rw [← hj]; exact c1

theorem lv_one (l : List LB.Lab) : ∀ u ∈ lv l, u.oneCell' = true := by
  intro u hu
  simp only [lv, List.mem_flatMap, List.mem_cons, List.not_mem_nil, or_false] at hu
  obtain ⟨s, _, rfl | rfl⟩ := hu <;> rfl

theorem sv_one (l : List CL.Smp) : ∀ u ∈ sv l, u.oneCell' = true := by
  intro u hu
  simp only [sv, List.mem_flatMap, List.mem_cons, List.not_mem_nil, or_false] at hu
  obtain ⟨s, _, rfl | rfl⟩ := hu <;> rfl

theorem own_one {w : World} {base n size : Nat} {e : TypeId} {v : Value} {xs : List Value} (h : w.ownsRow base e size v n xs) : v.oneCell' = true := by
  obtain ⟨ao, cap, rfl⟩ := own_slice h
  rfl

/-- Three new blocks, one behind the other. -/
theorem three_new (w : World) (o1 o2 o3 : Obj) : (((w.alloc o1).alloc o2).alloc o3).heap[w.heap.size]? = some o1 ∧ (((w.alloc o1).alloc o2).alloc o3).heap[w.heap.size + 1]? = some o2 ∧ (((w.alloc o1).alloc o2).alloc o3).heap[w.heap.size + 1 + 1]? = some o3 := by
  have e1 : (w.alloc o1).heap.size = w.heap.size + 1 := by simp
  have e2 : ((w.alloc o1).alloc o2).heap.size = w.heap.size + 1 + 1 := by simp
  refine ⟨?_, ?_, ?_⟩
  · rw [Below.heap_alloc _ o3 _ (by omega), Below.heap_alloc _ o2 _ (by omega)]; exact heap_alloc_new w o1
  · rw [Below.heap_alloc _ o3 _ (by omega)]
    have := heap_alloc_new (w.alloc o1) o2
    rwa [e1] at this
  · have := heap_alloc_new ((w.alloc o1).alloc o2) o3
    rwa [e2] at this

/-- A row of another kind is another block. -/
theorem own_kind {w : World} {base n size g : Nat} {e e' : TypeId} {v : Value} {xs : List Value} {c : Array Value} {fz : Nat × Nat} (h : w.ownsRow base e size v n xs) (hg : w.heap[g]? = some (.cells c e' fz)) (hne : e ≠ e') : v.ownBlock ≠ some g := fun hb => by
  rcases h.2 with ⟨h0, _⟩ | ⟨g', cap, cur, h0, _, a2, _⟩
  · rw [h0] at hb; cases hb
  · rw [h0] at hb
    cases hb
    rw [hg] at a2
    simp only [Option.some.injEq, Obj.cells.injEq] at a2
    exact hne a2.2.1.symm

theorem own_block {w : World} {base n size : Nat} {e : TypeId} {v : Value} {xs : List Value} (h : w.ownsRow base e size v n xs) (hn : 0 < n) : ∃ g cap cur, v = .slice (some ⟨g, 0, none⟩) n cap ∧ v.ownBlock = some g ∧ w.heap[g]? = some (.cells cur e) ∧ n ≤ cap ∧ cur.size = cap * size ∧ cur.toList.take (n * size) = xs := by
  rcases h.2 with ⟨_, h0⟩ | ⟨g, cap, cur, h0, _, a2, a3, _, a4, a5⟩
  · omega
  · exact ⟨g, cap, cur, h0, by rw [h0]; rfl, a2, a3, a4, a5⟩

theorem set_size (w : World) (p : Addr) (u : Value) : (w.setCell p u).heap.size = w.heap.size := by simp [World.setCell]

/-- A block of series grew: rows of another kind stay. -/
theorem kind_grown {W W' : World} {base base' n m : Nat} {v u : Value} {xs ys : List Value} {e : TypeId} (hv : W.ownsRow base 38 2 v n xs) (hu : W.ownsRow base' e 2 u m ys) (hne : e ≠ 38) (k : W.grownBy W' v.ownBlock) : W'.ownsRow base' e 2 u m ys := by
  refine hu.kept k ?_
  rcases hvb : v.ownBlock with _ | g
  · rcases hub : u.ownBlock with _ | g'
    · exact .inl rfl
    · exact .inr (by simp)
  · right
    rcases hv.2 with ⟨e0, _⟩ | ⟨g1, _, c, e0, _, a2, _⟩
    · rw [e0] at hvb; cases hvb
    · rw [e0] at hvb; cases hvb
      exact own_kind hu a2 hne

theorem atX_snoc (xs : List (Value × Value)) (p : Value × Value) (i : Nat) : atX (xs ++ [p]) i = if i < xs.length then atX xs i else if i = xs.length then p else nilP := by
  unfold atX
  rw [List.getD_eq_getElem?_getD, List.getD_eq_getElem?_getD]
  by_cases h : i < xs.length
  · rw [if_pos h, List.getElem?_append_left h]
  · rw [if_neg h, List.getElem?_append_right (by omega)]
    by_cases h2 : i = xs.length
    · rw [if_pos h2, h2, Nat.sub_self]; rfl
    · rw [if_neg h2, List.getElem?_eq_none (by simp; omega)]; rfl

theorem atSr_snoc (S : List Sr) (p : Sr) (i : Nat) (hi : i < S.length + 1) : atSr (S ++ [p]) i = if i < S.length then atSr S i else p := by
  unfold atSr
  rw [List.getD_eq_getElem?_getD, List.getD_eq_getElem?_getD]
  by_cases h : i < S.length
  · rw [if_pos h, List.getElem?_append_left h]
  · have : i = S.length := by omega
    rw [if_neg h, List.getElem?_append_right (by omega), this, Nat.sub_self]; rfl

theorem Tryd.uSms : Tryd.prog.underlying 36 = some (.slice 42) := by kernel_rfl

theorem sm_info : ∃ i, Tryd.prog.info? 42 = some i ∧ i.zero = some (.agg #[.int .i64 0, .int .i64 0]) ∧ i.size = 2 ∧ i.bytes = 16 := by
  have h := Tryd.info42
  cases hq : Tryd.prog.info? 42 with
  | none => rw [hq] at h; cases h
  | some i =>
    rw [hq] at h
    simp only [Option.map_some, Option.some.injEq, Prod.mk.injEq] at h
    exact ⟨i, rfl, h⟩

theorem Tryd.uSrs : Tryd.prog.underlying 27 = some (.slice 38) := by kernel_rfl

theorem sr_info : ∃ i, Tryd.prog.info? 38 = some i ∧ i.zero = some (.agg #[.slice none 0 0, .slice none 0 0]) ∧ i.size = 2 ∧ i.bytes = 48 := by
  have h := Tryd.infoSr
  cases hq : Tryd.prog.info? 38 with
  | none => rw [hq] at h; cases h
  | some i =>
    rw [hq] at h
    simp only [Option.map_some, Option.some.injEq, Prod.mk.injEq] at h
    exact ⟨i, rfl, h⟩

/-- Two cells in a block of their own. -/
theorem two_cells {w : World} {B : Nat} {a b : Value} {T : TypeId} (h : w.heap[B]? = some (.cells #[a, b] T)) : ∀ j u, [a, b][j]? = some u → w.cell? ((⟨B, 0, none⟩ : Addr).add j) = some u := by
  intro j u hj
  match j with
  | 0 => rw [Addr.add_lit]; simp only [List.getElem?_cons_zero, Option.some.injEq] at hj; subst hj; simp [World.cell?, h]
  | 1 => rw [Addr.add_lit]; simp only [List.getElem?_cons_succ, List.getElem?_cons_zero, Option.some.injEq] at hj; subst hj; simp [World.cell?, h]
  | j + 2 => simp at hj

theorem one_two {a b : Value} (ha : a.oneCell' = true) (hb : b.oneCell' = true) : ∀ u ∈ [a, b], u.oneCell' = true := fun u hu => by
  rcases List.mem_cons.1 hu with rfl | hu
  · exact ha
  · rcases List.mem_cons.1 hu with rfl | hu
    · exact hb
    · cases hu

theorem right_len {l : List LB.Lab} (h : LB.right l = true) : 1 ≤ l.length ∧ l.length ≤ 8 := by
  unfold LB.right at h
  have := decide_eq_true_iff.1 h
  exact ⟨this.1, this.2.1⟩

theorem right_le {l : List CL.Smp} (h : CL.right l = true) : l.length ≤ 2000 := ((CL.right_iff l).1 h).1

theorem ld_series (b k : Nat) (ao : Option Addr) (n c : Nat) (w : World) (h : w.cell? ⟨b, k, none⟩ = some (.slice ao n c)) : (Instr.loadAt 27 (.pointer (some ⟨b, k, none⟩))).run Tryd.prog w = .ok (.slice ao n c) w := by
  have hs : (Tryd.prog.info? 27).map (·.size) = some 1 := by kernel_rfl
  go_simp

theorem ld_labels (b k : Nat) (ao : Option Addr) (n c : Nat) (w : World) (h : w.cell? ⟨b, k, none⟩ = some (.slice ao n c)) : (Instr.loadAt 35 (.pointer (some ⟨b, k, none⟩))).run Tryd.prog w = .ok (.slice ao n c) w := by
  have hs : (Tryd.prog.info? 35).map (·.size) = some 1 := by kernel_rfl
  go_simp

/-- One sample at the end of a row of one's own. -/
theorem app_smp (W : World) (base B : Nat) (v : Value) (d : List CL.Smp) (s : CL.Smp) (hB : W.heap[B]? = some (boxS s.1 s.2)) (hv : OwnSm W base v d) (hd : d.length ≤ 1000000) (hb : base ≤ W.heap.size) :
    ∃ v' W', (Builtin.append_ #[36, 36] 36 #[v, .slice (some ⟨B, 0, none⟩) 1 1]).run Tryd.prog W = .ok v' W' ∧ OwnSm W' base v' (d ++ [s]) ∧ W.grownBy W' v.ownBlock ∧ (v'.ownBlock = v.ownBlock ∨ v'.ownBlock = some W.heap.size) := by
  obtain ⟨i, hi, hz, hs, hby⟩ := sm_info
  obtain ⟨v', W', h1, h2, _, h3, h4⟩ := append_both (P := Tryd.prog) W base 36 36 42 i _ 2 16 Tryd.uSms hi hz hs hby rfl (by omega) v d.length (sv d) hv ⟨B, 0, none⟩ 1 1 [.int .i64 s.1, .int .i64 s.2] (by omega) rfl (two_cells hB) (one_two rfl rfl) (by unfold maxLen; omega) (by omega) hb
  refine ⟨v', W', h1, ?_, h3, h4⟩
  show World.ownsRow _ _ _ _ _ _ _
  rw [List.length_append, sv_append]
  exact h2

/-- One series at the end of a row of one's own. -/
theorem app_ser (W : World) (base B : Nat) (v a b : Value) (n : Nat) (xs : List Value) (hB : W.heap[B]? = some (.cells #[a, b] 38)) (ha : a.oneCell' = true) (hb1 : b.oneCell' = true) (hv : W.ownsRow base 38 2 v n xs) (hd : n ≤ 1000000) (hb : base ≤ W.heap.size) :
    ∃ v' W', (Builtin.append_ #[27, 27] 27 #[v, .slice (some ⟨B, 0, none⟩) 1 1]).run Tryd.prog W = .ok v' W' ∧ W'.ownsRow base 38 2 v' (n + 1) (xs ++ [a, b]) ∧ W.grownBy W' v.ownBlock ∧ (v'.ownBlock = v.ownBlock ∨ v'.ownBlock = some W.heap.size) := by
  obtain ⟨i, hi, hz, hs, hby⟩ := sr_info
  obtain ⟨v', W', h1, h2, _, h3, h4⟩ := append_both (P := Tryd.prog) W base 27 27 38 i _ 2 48 Tryd.uSrs hi hz hs hby rfl (by omega) v n xs hv ⟨B, 0, none⟩ 1 1 [a, b] (by omega) rfl (two_cells hB) (one_two ha hb1) (by unfold maxLen; omega) (by omega) hb
  exact ⟨v', W', h1, h2, h3, h4⟩

/-- Two rows of samples of one's own, apart. -/
structure Two (w wr : World) (vo vl : Value) (lo ll : List CL.Smp) : Prop where
  out : OwnSm wr w.heap.size vo lo
  left : OwnSm wr w.heap.size vl ll
  apart : vo.ownBlock = none ∨ vo.ownBlock ≠ vl.ownBlock
  bel : Below w.heap.size w wr

theorem Two.below {w wr wr' : World} {vo vl : Value} {lo ll : List CL.Smp} (h : Two w wr vo vl lo ll) (k : Below wr.heap.size wr wr') : Two w wr' vo vl lo ll :=
  ⟨row_kept h.out fun g _ hg => k.block g (heap_lt hg), row_kept h.left fun g _ hg => k.block g (heap_lt hg), h.apart, bel2 h.bel k⟩

theorem Two.grow1 {w W W' : World} {vo vl v' : Value} {lo ll l' : List CL.Smp} (h : Two w W vo vl lo ll) (h1 : OwnSm W' w.heap.size v' l') (h2 : W.grownBy W' vo.ownBlock) (h3 : v'.ownBlock = vo.ownBlock ∨ v'.ownBlock = some W.heap.size) : Two w W' v' vl l' ll := by
  refine ⟨h1, h.left.kept h2 ?_, ?_, h.bel.grown h2 h.bel.size (fun k hk => (h.out.lt k hk).1)⟩
  · rcases h.apart with e | e
    · rcases hv : vl.ownBlock with _ | g
      · exact .inl rfl
      · rw [e]; exact .inr (by simp)
    · exact .inr (fun e2 => e e2.symm)
  · rcases h3 with e | e
    · rw [e]; exact h.apart
    · right
      rw [e]
      intro e2
      have := (h.left.lt _ e2.symm).2
      omega

theorem Two.grow2 {w W W' : World} {vo vl v' : Value} {lo ll l' : List CL.Smp} (h : Two w W vo vl lo ll) (h1 : OwnSm W' w.heap.size v' l') (h2 : W.grownBy W' vl.ownBlock) (h3 : v'.ownBlock = vl.ownBlock ∨ v'.ownBlock = some W.heap.size) : Two w W' vo v' lo l' := by
  refine ⟨h.out.kept h2 ?_, h1, ?_, h.bel.grown h2 h.bel.size (fun k hk => (h.left.lt k hk).1)⟩
  · rcases h.apart with e | e
    · exact .inl e
    · exact .inr e
  · rcases h3 with e | e
    · rw [e]; exact h.apart
    · rcases hv : vo.ownBlock with _ | g
      · exact .inl rfl
      · right
        rw [e]
        intro e2
        have := (h.out.lt _ (hv.trans e2)).2
        omega

theorem take_smp (l : List CL.Smp) (i : Nat) (h : i < l.length) : l.take (i + 1) = l.take i ++ [CL.at' l i] := (CL.take_nxt l i h).symm

/-- What goes: of series that all matchers hold of, at such times. -/
abbrev goP (m : List LB.Mat) (q : Int → Bool) : List LB.Lab → Int → Bool := fun L t => LB.all L m && q t

abbrev noP (m : List LB.Mat) (q : Int → Bool) : List LB.Lab → Int → Bool := fun L t => !(LB.all L m && q t)

end Go.Proofs.YtdmnlmohfaafoaeDoor

