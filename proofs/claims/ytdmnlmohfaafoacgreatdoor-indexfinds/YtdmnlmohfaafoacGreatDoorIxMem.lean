/- How an index lies in memory: a map by names, of maps by values, of rows of numbers; no two of them in one place. Names no function. -/
import Derived.Test.YtdmnlmohfaafoacGreatDoorIxMap
import Derived.Test.YtdmnlmohfaafoacGreatDoorIxNum
namespace Go.Proofs.YtdmnlmohfaafoacGreatDoor
open Go.Maps Go.RowKit

/-- Numbers as cells. -/
def nv (l : List Int) : List Value := l.map (Value.int .i64)

theorem nv_length (l : List Int) : (nv l).length = l.length := by simp [nv]

theorem nv_append (a b : List Int) : nv (a ++ b) = nv a ++ nv b := by simp [nv]

def ai (l : List Int) (i : Nat) : Int := l.getD i 0

theorem nv_get (l : List Int) (i : Nat) (h : i < l.length) : (nv l)[i]? = some (.int .i64 (ai l i)) := by
  unfold nv ai
  rw [List.getElem?_map, List.getElem?_eq_getElem h, List.getD_eq_getElem?_getD, List.getElem?_eq_getElem h]; rfl

/-- The numbers l lie from ao on. -/
def IRow (w : World) (ao : Option Addr) (l : List Int) : Prop :=
  ∀ i, i < l.length → ∃ b off, ao = some ⟨b, off, none⟩ ∧ w.cell? ⟨b, off + i, none⟩ = some (.int .i64 (ai l i)) ∧ b < w.heap.size

theorem IRow.below {w w' : World} {ao : Option Addr} {l : List Int} (h : IRow w ao l) (hb : Below w.heap.size w w') : IRow w' ao l := by
  intro i hi
  obtain ⟨b, off, h1, h2, h4⟩ := h i hi
  exact ⟨b, off, h1, (hb.cell (p := ⟨b, _, none⟩) h4).trans h2, Nat.lt_of_lt_of_le h4 hb.size⟩

theorem IRow.nil (w : World) (ao : Option Addr) : IRow w ao [] := fun i hi => by simp at hi

/-- A row of numbers that was made, read as one that is there. -/
theorem IRow.of_own {w : World} {base : Nat} {v : Value} {l : List Int} (h : w.ownsRow base 3 1 v l.length (nv l)) : ∃ ao cap, v = .slice ao l.length cap ∧ IRow w ao l := by
  have hlt := h.lt
  have h0 := h
  obtain ⟨h1, h2⟩ := h
  rcases h2 with ⟨rfl, hn⟩ | ⟨g, cap, cur, rfl, hg, hh, r⟩
  · refine ⟨none, 0, by rw [hn], fun i hi => by omega⟩
  · refine ⟨some ⟨g, 0, none⟩, cap, rfl, fun i hi => ⟨g, 0, rfl, ?_, (hlt g rfl).2⟩⟩
    rw [Nat.zero_add, h0.cellAt i (by omega)]; exact nv_get l i hi

/-- .. and its room. -/
theorem IRow.of_own' {w : World} {base : Nat} {v : Value} {l : List Int} (h : w.ownsRow base 3 1 v l.length (nv l)) : ∃ ao cap, v = .slice ao l.length cap ∧ IRow w ao l ∧ l.length ≤ cap := by
  obtain ⟨ao, cap, rfl, hr⟩ := IRow.of_own h
  refine ⟨ao, cap, rfl, hr, ?_⟩
  rcases h.2 with ⟨h1, h0⟩ | ⟨g, cap', cur, h1, _, _, hn, _⟩
  · rw [h0]; exact Nat.zero_le _
  · simp only [Value.slice.injEq] at h1
    omega

/-- A block that is no row of that type is not that row. -/
theorem row_ne_block {w : World} {base n size j : Nat} {e : TypeId} {v : Value} {xs : List Value} {o : Obj} (h : w.ownsRow base e size v n xs) (hj : w.heap[j]? = some o) (ho : ∀ cur, o ≠ .cells cur e (0, 0)) : some j ≠ v.ownBlock := by
  intro e1
  rcases h.2 with ⟨rfl, _⟩ | ⟨g, cap, cur, rfl, _, hg, _⟩
  · cases e1
  · have e2 : j = g := Option.some.inj e1
    subst e2
    rw [hj] at hg
    exact ho cur (Option.some.inj hg)

/-- Series' labels, one behind the other. -/
def LLRow (w : World) (ao : Option Addr) (L : List (List LB.Lab)) : Prop :=
  ∀ i, i < L.length → ∃ b off ai ci, ao = some ⟨b, off, none⟩ ∧ w.cell? ⟨b, off + i, none⟩ = some (.slice ai (IX.atS L i).length ci) ∧ LRow w ai (IX.atS L i) ∧ b < w.heap.size

theorem LLRow.below {w w' : World} {ao : Option Addr} {L : List (List LB.Lab)} (h : LLRow w ao L) (hb : Below w.heap.size w w') : LLRow w' ao L := by
  intro i hi
  obtain ⟨b, off, a1, c1, h1, h2, h3, h4⟩ := h i hi
  exact ⟨b, off, a1, c1, h1, (hb.cell (p := ⟨b, _, none⟩) h4).trans h2, h3.below hb, Nat.lt_of_lt_of_le h4 hb.size⟩

/-- What is said, with one number more. -/
def updS (Sd : ByteArray → ByteArray → List Int) (n v : ByteArray) (x : Int) : ByteArray → ByteArray → List Int := fun n' v' => if n' = n ∧ v' = v then Sd n v ++ [x] else Sd n' v'

theorem updS_same (Sd : ByteArray → ByteArray → List Int) (n v : ByteArray) (x : Int) : updS Sd n v x n v = Sd n v ++ [x] := by unfold updS; rw [if_pos ⟨rfl, rfl⟩]
theorem updS_other (Sd : ByteArray → ByteArray → List Int) (n v n' v' : ByteArray) (x : Int) (h : ¬ (n' = n ∧ v' = v)) : updS Sd n v x n' v' = Sd n' v' := by unfold updS; rw [if_neg h]

/-- The values of a map of maps. -/
abbrev oF (fo : ByteArray → Option Nat) : ByteArray → Option Value := fun n => (fo n).map fun b => Value.map (some b)

def updN (fo : ByteArray → Option Nat) (n : ByteArray) (b : Nat) : ByteArray → Option Nat := fun m => if m = n then some b else fo m

theorem oF_upd (fo : ByteArray → Option Nat) (n : ByteArray) (b : Nat) : oF (updN fo n b) = upd (oF fo) n (.map (some b)) := by
  funext m
  unfold oF updN upd
  by_cases h : m = n
  · rw [if_pos h, if_pos h]; rfl
  · rw [if_neg h, if_neg h]

def updI (fi : ByteArray → ByteArray → Option Value) (n v : ByteArray) (u : Value) : ByteArray → ByteArray → Option Value := fun m => if m = n then upd (fi n) v u else fi m

/-- An index that is being made: bo the outer map's block; all else lies from B on. -/
structure IdxW (P : Program) (k : TypeId) (w : World) (bo B cnt : Nat) (Sd : ByteArray → ByteArray → List Int) (fo : ByteArray → Option Nat) (fi : ByteArray → ByteArray → Option Value) : Prop where
  lo : bo < B
  hB : B ≤ w.heap.size
  out : MapF P k w bo cnt (oF fo)
  inn : ∀ n b, fo n = some b → B ≤ b ∧ MapF P k w b cnt (fi n)
  off : ∀ n, fo n = none → ∀ v, fi n v = none
  inj : ∀ n n' b, fo n = some b → fo n' = some b → n = n'
  no : ∀ n v, fi n v = none → Sd n v = []
  row : ∀ n v sv, fi n v = some sv → Sd n v ≠ [] ∧ (Sd n v).length ≤ cnt ∧ w.ownsRow B 3 1 sv (Sd n v).length (nv (Sd n v))
  sep : ∀ n v n' v' sv sv', fi n v = some sv → fi n' v' = some sv' → sv.ownBlock = sv'.ownBlock → n = n' ∧ v = v'

/-- Each name says something. -/
def Full (fo : ByteArray → Option Nat) (fi : ByteArray → ByteArray → Option Value) : Prop := ∀ n, fo n ≠ none → ∃ v, fi n v ≠ none

section
variable {P : Program} {k : TypeId} {w : World} {bo B cnt : Nat} {Sd : ByteArray → ByteArray → List Int} {fo : ByteArray → Option Nat} {fi : ByteArray → ByteArray → Option Value}

theorem IdxW.start (w : World) (h1 : MapF P k w bo 0 fun _ => none) (h2 : bo < B) (h3 : B ≤ w.heap.size) : IdxW P k w bo B 0 (fun _ _ => []) (fun _ => none) fun _ _ => none where
  lo := h2
  hB := h3
  out := h1
  inn := fun n b h => by cases h
  off := fun _ _ _ => rfl
  inj := fun n n' b h => by cases h
  no := fun _ _ _ => rfl
  row := fun n v sv h => by cases h
  sep := fun n v n' v' sv sv' h => by cases h

/-- Nothing of it is turned. -/
theorem IdxW.kept {w' : World} (h : IdxW P k w bo B cnt Sd fo fi) (hs : w.heap.size ≤ w'.heap.size) (hg : ∀ j, j < w.heap.size → j = bo ∨ B ≤ j → w'.heap[j]? = w.heap[j]?) : IdxW P k w' bo B cnt Sd fo fi where
  lo := h.lo
  hB := Nat.le_trans h.hB hs
  out := h.out.block (hg bo h.out.lt (.inl rfl))
  inn := fun n b hb => ⟨(h.inn n b hb).1, (h.inn n b hb).2.block (hg b (h.inn n b hb).2.lt (.inr (h.inn n b hb).1))⟩
  off := h.off
  inj := h.inj
  no := h.no
  row := fun n v sv hv => by
    obtain ⟨r1, r2, r3⟩ := h.row n v sv hv
    refine ⟨r1, r2, r3.1, ?_⟩
    rcases r3.2 with hn | ⟨g, cap, cur, e, hb, hc, hr⟩
    · exact .inl hn
    · exact .inr ⟨g, cap, cur, e, hb, (hg g (heap_lt hc) (.inr hb)).trans hc, hr⟩
  sep := h.sep

theorem IdxW.mono (h : IdxW P k w bo B cnt Sd fo fi) {cnt' : Nat} (hc : cnt ≤ cnt') : IdxW P k w bo B cnt' Sd fo fi :=
  { h with out := h.out.mono hc, inn := fun n b hb => ⟨(h.inn n b hb).1, (h.inn n b hb).2.mono hc⟩, row := fun n v sv hv => ⟨(h.row n v sv hv).1, Nat.le_trans (h.row n v sv hv).2.1 hc, (h.row n v sv hv).2.2⟩ }

theorem IdxW.alloc (h : IdxW P k w bo B cnt Sd fo fi) (o : Obj) : IdxW P k (w.alloc o) bo B cnt Sd fo fi := h.kept (by simp) fun j hj _ => Below.heap_alloc w o j hj

/-- A row's block is no map's. -/
theorem IdxW.row_map (h : IdxW P k w bo B cnt Sd fo fi) {n v : ByteArray} {sv : Value} (hv : fi n v = some sv) {b m : Nat} {f : ByteArray → Option Value} (hb : MapF P k w b m f) : some b ≠ sv.ownBlock := hb.ne_row (h.row n v sv hv).2.2

theorem IdxW.row_some (h : IdxW P k w bo B cnt Sd fo fi) {n v : ByteArray} {sv : Value} (hv : fi n v = some sv) : ∃ g cap, sv = .slice (some ⟨g, 0, none⟩) (Sd n v).length cap ∧ B ≤ g ∧ g < w.heap.size := by
  obtain ⟨r1, _, r3⟩ := h.row n v sv hv
  rcases r3.2 with ⟨_, h0⟩ | ⟨g, cap, cur, rfl, hb, hc, _⟩
  · exact absurd (List.length_eq_zero_iff.1 h0) r1
  · exact ⟨g, cap, rfl, hb, heap_lt hc⟩

/-- A name more, that says nothing yet. -/
theorem IdxW.create {w2 : World} (h : IdxW P k w bo B cnt Sd fo fi) {n : ByteArray} (hn : fo n = none)
    (h2 : MapF P k w2 bo (cnt + 1) (upd (oF fo) n (.map (some w.heap.size)))) (hg : (w.alloc (.map #[] 0)).grownBy w2 (some bo)) : IdxW P k w2 bo B (cnt + 1) Sd (updN fo n w.heap.size) fi := by
  have hnew : MapF P k (w.alloc (.map #[] 0)) w.heap.size 0 fun _ => none := MapF.made w P k
  have hbo := h.out.lt
  have h1 := (h.alloc (.map #[] 0)).mono (Nat.le_succ cnt)
  refine { lo := h.lo, hB := Nat.le_trans h1.hB hg.size, out := by rw [oF_upd]; exact h2, inn := ?_, off := ?_, inj := ?_, no := h.no, row := ?_, sep := h.sep }
  · intro m b hb
    unfold updN at hb
    by_cases e : m = n
    · rw [if_pos e] at hb
      cases hb
      refine ⟨h.hB, ?_⟩
      have e2 : fi m = fun _ => none := by funext v; rw [e]; exact h.off n hn v
      rw [e2]
      exact (hnew.kept hg (fun e3 => by have := Option.some.inj e3; omega)).mono (Nat.zero_le _)
    · rw [if_neg e] at hb
      have hb2 := h1.inn m b hb
      exact ⟨hb2.1, hb2.2.kept hg (fun e3 => by have := Option.some.inj e3; have := h.lo; omega)⟩
  · intro m hm v
    unfold updN at hm
    by_cases e : m = n
    · rw [if_pos e] at hm; cases hm
    · rw [if_neg e] at hm
      exact h.off m hm v
  · intro m m' b hb hb'
    unfold updN at hb hb'
    by_cases e : m = n
    · by_cases e' : m' = n
      · rw [e, e']
      · rw [if_pos e] at hb
        rw [if_neg e'] at hb'
        cases hb
        have := (h.inn m' _ hb').2.lt
        omega
    · by_cases e' : m' = n
      · rw [if_neg e] at hb
        rw [if_pos e'] at hb'
        cases hb'
        have := (h.inn m _ hb).2.lt
        omega
      · rw [if_neg e] at hb
        rw [if_neg e'] at hb'
        exact h.inj m m' b hb hb'
  · intro m v sv hv
    obtain ⟨r1, r2, r3⟩ := h1.row m v sv hv
    refine ⟨r1, r2, r3.kept hg (.inr fun e => ?_)⟩
    have := (r3.lt bo e).1
    have := h.lo
    omega

/-- A number more of what a name says. -/
theorem IdxW.add {w1 w2 : World} (h : IdxW P k w bo B cnt Sd fo fi) {n v : ByteArray} {b : Nat} (hn : fo n = some b) {v0 v' : Value} (h0 : (fi n v).getD (.slice none 0 0) = v0) {x : Int}
    (hg1 : w.grownBy w1 v0.ownBlock) (hown : w1.ownsRow B 3 1 v' ((Sd n v).length + 1) (nv (Sd n v) ++ [.int .i64 x])) (hloc : v'.ownBlock = v0.ownBlock ∨ ∃ g, v'.ownBlock = some g ∧ w.heap.size ≤ g)
    (h2 : MapF P k w2 b (cnt + 1) (upd (fi n) v v')) (hg2 : w1.grownBy w2 (some b)) : IdxW P k w2 bo B (cnt + 1) (updS Sd n v x) fo (updI fi n v v') := by
  have hbB := (h.inn n b hn).1
  have hbm := (h.inn n b hn).2
  have hbm1 : MapF P k w1 b cnt (fi n) := by
    refine hbm.kept hg1 ?_
    cases hv : fi n v with
    | none => rw [hv] at h0; subst h0; intro e; cases e
    | some sv => rw [hv] at h0; subst h0; exact h.row_map hv hbm
  -- a map's block is not the row that was written
  have hmap0 : ∀ {b' m : Nat} {f : ByteArray → Option Value}, MapF P k w b' m f → some b' ≠ v0.ownBlock := by
    intro b' m f hb'
    cases hv : fi n v with
    | none => rw [hv] at h0; subst h0; intro e; cases e
    | some sv => rw [hv] at h0; subst h0; exact h.row_map hv hb'
  have hother : ∀ m u sv, fi m u = some sv → ¬ (m = n ∧ u = v) → sv.ownBlock ≠ v0.ownBlock := by
    intro m u sv hs hne e
    cases hv : fi n v with
    | none =>
      rw [hv] at h0
      subst h0
      obtain ⟨g, cap, rfl, _⟩ := h.row_some hs
      cases e
    | some sv' =>
      rw [hv] at h0
      subst h0
      exact hne (h.sep m u n v sv _ hs hv e)
  have hv' : ∃ g, v'.ownBlock = some g := by
    rcases hown.2 with ⟨_, hz⟩ | ⟨g, cap, cur, rfl, _⟩
    · omega
    · exact ⟨g, rfl⟩
  have hfar : ∀ m u sv, fi m u = some sv → ¬ (m = n ∧ u = v) → sv.ownBlock ≠ v'.ownBlock := by
    intro m u sv hs hne e
    rcases hloc with h1 | ⟨g, h1, h3⟩
    · exact hother m u sv hs hne (e.trans h1)
    · obtain ⟨g', cap, rfl, _, hlt⟩ := h.row_some hs
      rw [h1] at e
      have e2 : g' = g := Option.some.inj e
      omega
  refine { lo := h.lo, hB := Nat.le_trans h.hB (Nat.le_trans hg1.size hg2.size), out := ?_, inn := ?_, off := ?_, inj := h.inj, no := ?_, row := ?_, sep := ?_ }
  · refine ((h.out.kept hg1 (hmap0 h.out)).kept hg2 ?_).mono (Nat.le_succ _)
    intro e
    have := Option.some.inj e
    have := h.lo
    omega
  · intro m b' hb'
    obtain ⟨i1, i2⟩ := h.inn m b' hb'
    refine ⟨i1, ?_⟩
    unfold updI
    by_cases e : m = n
    · subst e
      have : b' = b := Option.some.inj (hb'.symm.trans hn)
      subst this
      rw [if_pos rfl]; exact h2
    · rw [if_neg e]
      refine ((i2.kept hg1 (hmap0 i2)).kept hg2 ?_).mono (Nat.le_succ _)
      intro e2
      have e3 := Option.some.inj e2
      subst e3
      exact e (h.inj m n b' hb' hn)
  · intro m hm u
    unfold updI
    by_cases e : m = n
    · subst e; rw [hn] at hm; cases hm
    · rw [if_neg e]; exact h.off m hm u
  · intro m u hu
    unfold updI at hu
    by_cases e : m = n
    · subst e
      rw [if_pos rfl] at hu
      by_cases e2 : u = v
      · subst e2; rw [upd_same] at hu; cases hu
      · rw [upd_other _ _ _ _ e2] at hu
        rw [updS_other _ _ _ _ _ _ (fun hh => e2 hh.2)]
        exact h.no m u hu
    · rw [if_neg e] at hu
      rw [updS_other _ _ _ _ _ _ (fun hh => e hh.1)]
      exact h.no m u hu
  · intro m u sv hu
    by_cases e : m = n ∧ u = v
    · obtain ⟨rfl, rfl⟩ := e
      unfold updI at hu
      rw [if_pos rfl, upd_same] at hu
      cases hu
      rw [updS_same]
      refine ⟨by simp, ?_, ?_⟩
      · rw [List.length_append, List.length_singleton]
        cases hv : fi m u with
        | none => rw [h.no m u hv]; simp
        | some sv => have := (h.row m u sv hv).2.1; omega
      · rw [List.length_append, List.length_singleton, nv_append]
        refine hown.kept hg2 (.inr ?_)
        exact fun e => hbm1.ne_row hown e.symm
    · have hu' : fi m u = some sv := by
        unfold updI at hu
        by_cases e1 : m = n
        · subst e1
          rw [if_pos rfl, upd_other _ _ _ _ (fun e2 => e ⟨rfl, e2⟩)] at hu
          exact hu
        · rwa [if_neg e1] at hu
      obtain ⟨r1, r2, r3⟩ := h.row m u sv hu'
      rw [updS_other _ _ _ _ _ _ e]
      have r4 := r3.kept hg1 (.inr (hother m u sv hu' e))
      exact ⟨r1, by omega, r4.kept hg2 (.inr fun e => hbm1.ne_row r4 e.symm)⟩
  · have hcase : ∀ m u sv, updI fi n v v' m u = some sv → (m = n ∧ u = v ∧ sv = v') ∨ (¬ (m = n ∧ u = v) ∧ fi m u = some sv) := by
      intro m u sv hu
      unfold updI at hu
      by_cases e1 : m = n
      · subst e1
        rw [if_pos rfl] at hu
        by_cases e2 : u = v
        · subst e2
          rw [upd_same] at hu
          exact .inl ⟨rfl, rfl, (Option.some.inj hu).symm⟩
        · rw [upd_other _ _ _ _ e2] at hu
          exact .inr ⟨fun hh => e2 hh.2, hu⟩
      · rw [if_neg e1] at hu
        exact .inr ⟨fun hh => e1 hh.1, hu⟩
    intro m u m' u' sv sv' hs hs' e
    rcases hcase m u sv hs with ⟨rfl, rfl, rfl⟩ | ⟨hn1, hf1⟩
    · rcases hcase m' u' sv' hs' with ⟨rfl, rfl, _⟩ | ⟨hn2, hf2⟩
      · exact ⟨rfl, rfl⟩
      · exact absurd e.symm (hfar m' u' sv' hf2 hn2)
    · rcases hcase m' u' sv' hs' with ⟨rfl, rfl, rfl⟩ | ⟨hn2, hf2⟩
      · exact absurd e (hfar m u sv hf1 hn1)
      · exact h.sep m u m' u' sv sv' hf1 hf2 e

/-- What stands at a name and a value, nil where nothing does. -/
theorem IdxW.at (h : IdxW P k w bo B cnt Sd fo fi) {n v : ByteArray} {v0 : Value} (h0 : (fi n v).getD (.slice none 0 0) = v0) : w.ownsRow B 3 1 v0 (Sd n v).length (nv (Sd n v)) ∧ (Sd n v).length ≤ cnt := by
  cases hv : fi n v with
  | none =>
    rw [hv] at h0
    subst h0
    rw [h.no n v hv]
    exact ⟨World.ownsRow_nil _ _ _ _, Nat.zero_le _⟩
  | some sv =>
    rw [hv] at h0
    subst h0
    exact ⟨(h.row n v sv hv).2.2, (h.row n v sv hv).2.1⟩

theorem Full.add (h : Full fo fi) {n v : ByteArray} {v' : Value} {fo' : ByteArray → Option Nat} (hfo : ∀ m, fo' m ≠ none → m = n ∨ fo m ≠ none) : Full fo' (updI fi n v v') := by
  intro m hm
  by_cases e : m = n
  · subst e
    exact ⟨v, by unfold updI; rw [if_pos rfl, upd_same]; simp⟩
  · rcases hfo m hm with h1 | h1
    · exact absurd h1 e
    · obtain ⟨u, hu⟩ := h m h1
      exact ⟨u, by unfold updI; rw [if_neg e]; exact hu⟩

end

/-- All below B but bo is as it was. -/
structure NFr (bo B : Nat) (w w' : World) : Prop where
  os : w'.os = w.os
  tape : w'.tape = w.tape
  output : w'.output = w.output
  size : w.heap.size ≤ w'.heap.size
  block : ∀ j, j < B → j ≠ bo → w'.heap[j]? = w.heap[j]?

theorem NFr.refl (bo B : Nat) (w : World) : NFr bo B w w := ⟨rfl, rfl, rfl, Nat.le_refl _, fun _ _ _ => rfl⟩

theorem NFr.trans {bo B : Nat} {a b c : World} (h : NFr bo B a b) (k : NFr bo B b c) : NFr bo B a c :=
  ⟨k.os.trans h.os, k.tape.trans h.tape, k.output.trans h.output, Nat.le_trans h.size k.size, fun j h1 h2 => (k.block j h1 h2).trans (h.block j h1 h2)⟩

theorem NFr.grown {bo B : Nat} {a w w' : World} {row : Option Nat} (h : NFr bo B a w) (hg : w.grownBy w' row) (hB : B ≤ w.heap.size) (hr : ∀ j, row = some j → j = bo ∨ B ≤ j) : NFr bo B a w' :=
  h.trans ⟨hg.os, hg.tape, hg.output, hg.size, fun j h1 h2 => hg.block j (Nat.lt_of_lt_of_le h1 hB) (fun e => by rcases hr j e.symm with h3 | h3 <;> omega)⟩

theorem NFr.alloc {bo B : Nat} {a w : World} (h : NFr bo B a w) (hB : B ≤ w.heap.size) (o : Obj) : NFr bo B a (w.alloc o) := h.grown (World.grownBy_alloc w o none) hB (fun j hj => by cases hj)

theorem NFr.drewN {bo B : Nat} {a w : World} (h : NFr bo B a w) (n : Nat) : NFr bo B a (w.drewN n) := ⟨h.os, h.tape, h.output, h.size, h.block⟩

theorem NFr.below {bo B B0 : Nat} {a w w' : World} (h : Below B0 a w) (hn : NFr bo B w w') (h1 : B0 ≤ bo) (h2 : B0 ≤ B) : Below B0 a w' :=
  ⟨hn.os.trans h.os, hn.tape.trans h.tape, hn.output.trans h.output, Nat.le_trans h.size hn.size, fun j hj => (hn.block j (by omega) (by omega)).trans (h.block j hj)⟩

/-- An index that is there: bx its block, N how many series, Sd what is said. -/
structure IdxR (P : Program) (k : TypeId) (w : World) (bx N cnt : Nat) (Sd : ByteArray → ByteArray → List Int) (bo : Nat) (fo : ByteArray → Option Nat) (fi : ByteArray → ByteArray → Option Value) : Prop where
  lt : bx < w.heap.size
  c0 : w.cell? ⟨bx, 0, none⟩ = some (.int .i64 N)
  c1 : w.cell? ⟨bx, 1, none⟩ = some (.map (some bo))
  out : MapF P k w bo cnt (oF fo)
  inn : ∀ n b, fo n = some b → MapF P k w b cnt (fi n)
  full : Full fo fi
  off : ∀ n, fo n = none → ∀ v, fi n v = none
  no : ∀ n v, fi n v = none → Sd n v = []
  row : ∀ n v sv, fi n v = some sv → Sd n v ≠ [] ∧ ∃ ao cap, sv = .slice ao (Sd n v).length cap ∧ IRow w ao (Sd n v)

theorem IdxR.below {P : Program} {k : TypeId} {w w' : World} {bx N cnt bo : Nat} {Sd : ByteArray → ByteArray → List Int} {fo : ByteArray → Option Nat} {fi : ByteArray → ByteArray → Option Value} (h : IdxR P k w bx N cnt Sd bo fo fi) (hb : Below w.heap.size w w') : IdxR P k w' bx N cnt Sd bo fo fi where
  lt := Nat.lt_of_lt_of_le h.lt hb.size
  c0 := (hb.cell (p := ⟨bx, 0, none⟩) h.lt).trans h.c0
  c1 := (hb.cell (p := ⟨bx, 1, none⟩) h.lt).trans h.c1
  out := h.out.below hb h.out.lt
  inn := fun n b hn => (h.inn n b hn).below hb (h.inn n b hn).lt
  full := h.full
  off := h.off
  no := h.no
  row := fun n v sv hv => by
    obtain ⟨r1, ao, cap, r2, r3⟩ := h.row n v sv hv
    exact ⟨r1, ao, cap, r2, r3.below hb⟩

theorem IdxW.read {P : Program} {k : TypeId} {w : World} {bx N cnt bo B : Nat} {Sd : ByteArray → ByteArray → List Int} {fo : ByteArray → Option Nat} {fi : ByteArray → ByteArray → Option Value} (h : IdxW P k w bo B cnt Sd fo fi) (hf : Full fo fi) (hbx : bx < w.heap.size)
    (c0 : w.cell? ⟨bx, 0, none⟩ = some (.int .i64 N)) (c1 : w.cell? ⟨bx, 1, none⟩ = some (.map (some bo))) : IdxR P k w bx N cnt Sd bo fo fi where
  lt := hbx
  c0 := c0
  c1 := c1
  out := h.out
  inn := fun n b hn => (h.inn n b hn).2
  full := hf
  off := h.off
  no := h.no
  row := fun n v sv hv => by
    obtain ⟨r1, _, r3⟩ := h.row n v sv hv
    obtain ⟨ao, cap, e, hr⟩ := IRow.of_own r3
    exact ⟨r1, ao, cap, e, hr⟩

/-- At which texts a name says something. -/
theorem IdxR.said {P : Program} {k : TypeId} {w : World} {bx N cnt bo : Nat} {Sd : ByteArray → ByteArray → List Int} {fo : ByteArray → Option Nat} {fi : ByteArray → ByteArray → Option Value} (h : IdxR P k w bx N cnt Sd bo fo fi) (n v : ByteArray) : fi n v ≠ none ↔ Sd n v ≠ [] := by
  constructor
  · intro h1
    cases hv : fi n v with
    | none => exact absurd hv h1
    | some sv => exact (h.row n v sv hv).1
  · intro h1 h2
    exact h1 (h.no n v h2)

end Go.Proofs.YtdmnlmohfaafoacGreatDoor
