/- The document's Append: what is told on its way. -/
import Derived.Test.YtdmnlmohfaafoadGreatDoorPHrMem
import Derived.Test.YtdmnlmohfaafoadGreatDoorPHrReg
import Derived.Test.YtdmnlmohfaafoadGreatDoorPHrFind
import Derived.Test.YtdmnlmohfaafoadGreatDoorPHrSort
import Derived.Test.YtdmnlmohfaafoadGreatDoorPHcRef
import Derived.Test.YtdmnlmohfaafoadGreatDoorPHxRefL
import Derived.Test.YtdmnlmohfaafoadGreatDoorPHdApp
import Derived.Deep.RegionWith
import Derived.Deep.CutBlock
import Derived.Deep.CutRange
import Derived.Deep.DeepCutAuto
namespace Go.Proofs.YtdmnlmohfaafoadGreatDoor
open Go.RowKit

theorem results_cells {P : Program} {fn : Func} {p q : Tmp} {ty ty2 : TypeId} (h : fn.results = #[.cell p ty, .cell q ty2]) (tmps : Array Value) (w : World) (g g2 : Nat) (t t2 : TypeId) (cs cs2 : Array Value) (fr fr2 : Nat × Nat) (d d2 : TypeDesc)
    (hp : tmps.getD p undef = .pointer (some ⟨g, 0, none⟩)) (hg : w.heap[g]? = some (.cells cs t fr)) (hu : P.underlying ty = some d) (hd : (match d with | .struct _ | .array _ _ => true | _ => false) = true) (hi : (P.info? ty).map (·.size) = some cs.size)
    (hp2 : tmps.getD q undef = .pointer (some ⟨g2, 0, none⟩)) (hg2 : w.heap[g2]? = some (.cells cs2 t2 fr2)) (hu2 : P.underlying ty2 = some d2) (hd2 : (match d2 with | .struct _ | .array _ _ => true | _ => false) = true) (hi2 : (P.info? ty2).map (·.size) = some cs2.size) :
    (results fn tmps).run P w = .ok (.tuple #[.agg cs, .agg cs2]) w := by
  have hp' : tmps[p]?.getD undef = .pointer (some ⟨g, 0, none⟩) := by simpa using hp
  have hp2' : tmps[q]?.getD undef = .pointer (some ⟨g2, 0, none⟩) := by simpa using hp2
  simp [results, h, hp', hp2', asAddr, run_loadVar_row w g t ty cs fr d hg hu hd hi, run_loadVar_row w g2 t2 ty2 cs2 fr2 d2 hg2 hu2 hd2 hi2]

theorem results_cell {P : Program} {fn : Func} {p : Tmp} {ty : TypeId} (h : fn.results = #[.cell p ty]) (tmps : Array Value) (w : World) (g : Nat) (t : TypeId) (cs : Array Value) (fr : Nat × Nat) (d : TypeDesc)
    (hp : tmps.getD p undef = .pointer (some ⟨g, 0, none⟩)) (hg : w.heap[g]? = some (.cells cs t fr)) (hu : P.underlying ty = some d) (hd : (match d with | .struct _ | .array _ _ => true | _ => false) = true) (hi : (P.info? ty).map (·.size) = some cs.size) :
    (results fn tmps).run P w = .ok (.agg cs) w := by
  have hp' : tmps[p]?.getD undef = .pointer (some ⟨g, 0, none⟩) := by simpa using hp
  simp [results, h, hp', asAddr, run_loadVar_row w g t ty cs fr d hg hu hd hi]

theorem bare_any (n : Int) (w : World) : Calls Tryz.prog 43 #[.int .i64 n] w fun e w' => e = .returned (.agg #[.int .i64 n, .int .i64 (-1)]) ∧ Below w.heap.size w w' := by
  go_enter Tryz.func43, Tryz.ntmps43
  go_wp2_with fail
  refine bodyPost_ret (results_cell (P := Tryz.prog) rfl _ _ w.heap.size 26 _ (0, 0) _ rfl (heap_alloc_new w _) Tryz.underlying26 rfl (by kernel_rfl)) rfl ?_
  exact ⟨rfl, (Below.refl _ w).alloc (Nat.le_refl _) _⟩

theorem ld_head (b : Nat) (x y : Value) (_hx : x.oneCell' = true) (_hy : y.oneCell' = true) (w : World) (h : w.heap[b]? = some (.cells #[x, y] 45)) : (Instr.loadAt 45 (.pointer (some ⟨b, 0, none⟩))).run Tryz.prog w = .ok (.agg #[x, y]) w := by
  have hs : (Tryz.prog.info? 45).map (·.size) = some 2 := by kernel_rfl
  have c0 : w.cell? ⟨b, 0, none⟩ = some x := zcell' _ _ _ _ h 0 _ rfl
  have c1 : w.cell? ⟨b, 1, none⟩ = some y := zcell' _ _ _ _ h 1 _ rfl
  clear h
  go_simp

theorem st_head (b : Nat) (x y : Value) (uo : Option Addr) (un uc : Nat) (n : Int) (w : World) (h : w.heap[b]? = some (.cells #[x, y] 45)) : (Instr.storeAt 45 (.pointer (some ⟨b, 0, none⟩)) (.agg #[.int .i64 n, .slice uo un uc])).run Tryz.prog w = .ok () ((w.setCell ⟨b, 0, none⟩ (.int .i64 n)).setCell ⟨b, 1, none⟩ (.slice uo un uc)) := by
  have hs : (Tryz.prog.info? 45).map (·.size) = some 2 := by kernel_rfl
  have c0 : w.cell? ⟨b, 0, none⟩ = some x := zcell' _ _ _ _ h 0 _ rfl
  have c1 : w.cell? ⟨b, 1, none⟩ = some y := zcell' _ _ _ _ h 1 _ rfl
  have f0 := hfz h 0
  have f1 := hfz h 1
  clear h
  go_simp

theorem st_fault (b : Nat) (x y : Value) (n k : Int) (w : World) (h : w.heap[b]? = some (.cells #[x, y] 26)) : (Instr.storeAt 26 (.pointer (some ⟨b, 0, none⟩)) (.agg #[.int .i64 n, .int .i64 k])).run Tryz.prog w = .ok () ((w.setCell ⟨b, 0, none⟩ (.int .i64 n)).setCell ⟨b, 1, none⟩ (.int .i64 k)) := by
  have hs : (Tryz.prog.info? 26).map (·.size) = some 2 := by kernel_rfl
  have c0 : w.cell? ⟨b, 0, none⟩ = some x := zcell' _ _ _ _ h 0 _ rfl
  have c1 : w.cell? ⟨b, 1, none⟩ = some y := zcell' _ _ _ _ h 1 _ rfl
  have f0 := hfz h 0
  have f1 := hfz h 1
  clear h
  go_simp

/-- Two cells of one block set. -/
theorem set_two {w : World} {b : Nat} {x y u v : Value} {t : TypeId} (h : w.heap[b]? = some (.cells #[x, y] t)) : ((w.setCell ⟨b, 0, none⟩ u).setCell ⟨b, 1, none⟩ v).heap[b]? = some (.cells #[u, v] t) :=
  heap_setCell_same _ _ 1 _ _ _ (heap_setCell_same _ _ 0 _ _ _ h)

theorem set_two_ne {w : World} {b j : Nat} {u v : Value} (h : j ≠ b) : ((w.setCell ⟨b, 0, none⟩ u).setCell ⟨b, 1, none⟩ v).heap[j]? = w.heap[j]? :=
  (Below.heap_setCell _ ⟨b, 1, none⟩ v j h).trans (Below.heap_setCell _ ⟨b, 0, none⟩ u j h)

/-- append onto an empty row that was just made: a new row. -/
theorem app_fresh {P : Program} (w : World) (base : Nat) (t ty e : TypeId) (i : TypeInfo) (z : Value) (bytes : Nat) (ht : P.underlying t = some (.slice e)) (hi : P.info? e = some i) (hz : i.zero = some z)
    (hsize : i.size = 2) (hby : i.bytes = bytes) (hzs : z.cells.size = 2) (g : Nat) (hg : w.heap[g]? = some (.cells #[] e)) (hgb : base ≤ g)
    (so : Option Addr) (m c : Nat) (news : List Value) (hnone : so = none → m = 0) (hl : news.length = m * 2) (hnews : ∀ a, so = some a → ∀ j u, news[j]? = some u → w.cell? (a.add j) = some u) (h1 : ∀ u ∈ news, u.oneCell' = true)
    (h63 : m ≤ maxLen) (hbytes : m * bytes ≤ 140737488355328) (hbase : base ≤ w.heap.size) :
    ∃ v' w', (Builtin.append_ #[t, t] ty #[.slice (some ⟨g, 0, none⟩) 0 0, .slice so m c]).run P w = .ok v' w' ∧ w'.ownsRow base e 2 v' m news ∧ Below w.heap.size w w' := by
  have hown : w.ownsRow base e 2 (.slice (some ⟨g, 0, none⟩) 0 0) 0 [] := ⟨rfl, .inr ⟨g, 0, #[], rfl, hgb, hg, Nat.le_refl _, Nat.zero_le _, rfl, rfl⟩⟩
  by_cases hm : 0 < m
  · cases so with
    | none => have := hnone rfl; omega
    | some a =>
      obtain ⟨v', w', h2, h3, _, _, _⟩ := run_append_own_at (P := P) w base t ty e i z 2 bytes ht hi hz hsize hby hzs (by decide) _ 0 [] hown a m c news hl (hnews a rfl) h1 (by omega) (by simpa using hbytes) hbase
      have hsrc : Src P i.size t (.slice (some a) m c) m news w := Src.ofSlice w ht a m c news (by rw [hsize]; exact hl) (hnews a rfl) h1
      have hr := run_append_grow_src (P := P) w t t ty e i z ht hi hz (some ⟨g, 0, none⟩) 0 0 [] (run_firstCells_some w.drew i.size 0 ⟨g, 0, none⟩ 0 0 [] (by simp) (fun j u hj => by simp at hj)) (.slice (some a) m c) m news hsrc (by omega) (by unfold maxLen at h63; omega) (by rw [hby]; exact growslice_fits (by omega) (by simpa using hbytes))
      refine ⟨v', w', h2, by simpa using h3, ?_⟩
      rw [hr] at h2
      cases h2
      exact (Below.refl _ w).drew.alloc (Nat.le_refl _) _
  · have hm0 : m = 0 := by omega
    subst hm0
    have hn0 : news = [] := List.eq_nil_of_length_eq_zero (by simpa using hl)
    subst hn0
    have hsrc : Src P i.size t (.slice so 0 c) 0 [] w := by
      cases so with
      | none => exact Src.ofNil w ht c
      | some a => exact Src.ofSlice w ht a 0 c [] (by simp) (fun j u hj => by simp at hj) (fun u hu => by cases hu)
    have hr := run_append_room_src (P := P) w t t ty e i ht hi g 0 0 0 (.slice so 0 c) 0 [] hsrc (by omega) (by simp) (by simp)
    exact ⟨_, _, hr, by simpa [World.setCells] using hown, by simpa [World.setCells] using Below.refl _ w⟩

theorem lb_info : ∃ i, Tryz.prog.info? 49 = some i ∧ i.zero = some (.agg #[.string ⟨#[]⟩, .string ⟨#[]⟩]) ∧ i.size = 2 ∧ i.bytes = 32 := by
  have h : (Tryz.prog.info? 49).map (fun i => (i.zero, i.size, i.bytes)) = some (some (.agg #[.string ⟨#[]⟩, .string ⟨#[]⟩]), 2, 32) := by kernel_rfl
  cases hq : Tryz.prog.info? 49 with
  | none => rw [hq] at h; cases h
  | some i =>
    rw [hq] at h
    simp only [Option.map_some, Option.some.injEq, Prod.mk.injEq] at h
    exact ⟨i, rfl, h⟩

/-- A copy of labels. -/
theorem fresh_l (w : World) (base g : Nat) (lo : Option Addr) (l : List LB.Lab) (c : Nat) (hg : w.heap[g]? = some (.cells #[] 49)) (hgb : base ≤ g) (hL : LRow w lo l) (hl : l.length ≤ 1000000) (hb : base ≤ w.heap.size) :
    ∃ v' w', (Builtin.append_ #[50, 50] 50 #[.slice (some ⟨g, 0, none⟩) 0 0, .slice lo l.length c]).run Tryz.prog w = .ok v' w' ∧ OwnLb w' base v' l ∧ Below w.heap.size w w' := by
  obtain ⟨i, hi, hz, hs, hby⟩ := lb_info
  exact app_fresh (P := Tryz.prog) w base 50 50 49 i _ 32 (by kernel_rfl) hi hz hs hby rfl g hg hgb lo l.length c (lv l) (fun e => by
    by_cases h0 : 0 < l.length
    · obtain ⟨b, off, e2, _⟩ := hL.some h0
      rw [e] at e2; cases e2
    · omega) (lv_length l) (lrow_cells hL) (lv_one l) (by unfold maxLen; omega) (by omega) hb

/-- A copy of samples. -/
theorem fresh_s (w : World) (base g : Nat) (so : Option Addr) (l : List CL.Smp) (c : Nat) (hg : w.heap[g]? = some (.cells #[] 52)) (hgb : base ≤ g) (hS : SRow w so l) (hl : l.length ≤ 1000000) (hb : base ≤ w.heap.size) :
    ∃ v' w', (Builtin.append_ #[53, 53] 53 #[.slice (some ⟨g, 0, none⟩) 0 0, .slice so l.length c]).run Tryz.prog w = .ok v' w' ∧ OwnSm w' base v' l ∧ Below w.heap.size w w' := by
  obtain ⟨i, hi, hz, hs, hby⟩ := sm_info
  exact app_fresh (P := Tryz.prog) w base 53 53 52 i _ 16 Tryz.uSms hi hz hs hby rfl g hg hgb so l.length c (sv l) (fun e => by
    by_cases h0 : 0 < l.length
    · obtain ⟨b, off, e2, _⟩ := hS 0 h0
      rw [e] at e2; cases e2
    · omega) (sv_length l) (smp_cells hS) (sv_one l) (by unfold maxLen; omega) (by omega) hb

/-- A row of series that is there, cell by cell. -/
theorem SrOut.cells {w : World} {Z : Nat → Prop} {ao : Option Addr} {S : List Sr} (h : SrOut w Z ao S) : ∃ xs : List (Value × Value), xs.length = S.length ∧ (∀ a, ao = some a → ∀ j u, (flat xs)[j]? = some u → w.cell? (a.add j) = some u) ∧ (ao = none → S.length = 0) ∧
    (∀ i, i < S.length → ∃ lo lc, (atX xs i).1 = .slice lo (atSr S i).1.length lc ∧ LOut w Z lo (atSr S i).1) ∧ ∀ i, i < S.length → ∃ so sc, (atX xs i).2 = .slice so (atSr S i).2.length sc ∧ SOut w Z so (atSr S i).2 := by
  have key : ∀ i, i < S.length → ∃ p : Value × Value, (∀ a, ao = some a → w.cell? (a.add (i * 2)) = some p.1 ∧ w.cell? (a.add (i * 2 + 1)) = some p.2) ∧ (∃ lo lc, p.1 = .slice lo (atSr S i).1.length lc ∧ LOut w Z lo (atSr S i).1) ∧ ∃ so sc, p.2 = .slice so (atSr S i).2.length sc ∧ SOut w Z so (atSr S i).2 := by
    intro i hi
    obtain ⟨b, off, hao, _, _, lo, lc, so, sc, d0, d1, hL, hS⟩ := h i hi
    refine ⟨(.slice lo (atSr S i).1.length lc, .slice so (atSr S i).2.length sc), fun a ha => ?_, ⟨lo, lc, rfl, hL⟩, ⟨so, sc, rfl, hS⟩⟩
    rw [hao] at ha
    cases ha
    rw [Addr.add_lit, Addr.add_lit]
    exact ⟨d0, d1⟩
  obtain ⟨f, hf⟩ : ∃ f : Nat → Value × Value, ∀ i, i < S.length → (∀ a, ao = some a → w.cell? (a.add (i * 2)) = some (f i).1 ∧ w.cell? (a.add (i * 2 + 1)) = some (f i).2) ∧ (∃ lo lc, (f i).1 = .slice lo (atSr S i).1.length lc ∧ LOut w Z lo (atSr S i).1) ∧ ∃ so sc, (f i).2 = .slice so (atSr S i).2.length sc ∧ SOut w Z so (atSr S i).2 :=
    ⟨fun i => if hi : i < S.length then (key i hi).choose else nilP, fun i hi => by simp only [dif_pos hi]; exact (key i hi).choose_spec⟩
  have hat : ∀ i, i < S.length → atX ((List.range S.length).map f) i = f i := fun i hi => by simp [atX, hi]
  refine ⟨(List.range S.length).map f, by simp, fun a ha j u hj => ?_, fun hn => ?_, fun i hi => by rw [hat i hi]; exact (hf i hi).2.1, fun i hi => by rw [hat i hi]; exact (hf i hi).2.2⟩
  · have hjl : j < S.length * 2 := by
      have := (List.getElem?_eq_some_iff.1 hj).1
      rw [flat_length] at this
      simpa using this
    have hi : j / 2 < S.length := by omega
    obtain ⟨q1, q2⟩ := flat_get ((List.range S.length).map f) (j / 2) (by simpa using hi)
    obtain ⟨c1, c2⟩ := (hf (j / 2) hi).1 a ha
    rw [hat _ hi] at q1 q2
    rcases Nat.mod_two_eq_zero_or_one j with e | e
    · have e2 : j = j / 2 * 2 := by omega
      rw [e2] at hj ⊢
      rw [q1] at hj
      cases hj
      exact c1
    · have e2 : j = j / 2 * 2 + 1 := by omega
      rw [e2] at hj ⊢
      rw [q2] at hj
      cases hj
      exact c2
  · by_cases h0 : 0 < S.length
    · obtain ⟨b, off, hao, _⟩ := h 0 h0
      rw [hn] at hao; cases hao
    · omega

/-- The boxes of Append: the head as it came, and what it tells. -/
structure AIn (w W : World) (m : Int) (vS : Value) : Prop where
  bel : Below w.heap.size w W
  h2 : W.heap[w.heap.size]? = some (.cells #[.int .i64 m, vS] 45)
  r1 : W.heap[w.heap.size + 1]? = some (.cells #[.int .i64 0, .slice none 0 0] 45)
  r2 : W.heap[w.heap.size + 1 + 1]? = some (.cells #[.int .i64 0, .int .i64 0] 26)

theorem AIn.below {w W W' : World} {m : Int} {vS : Value} (h : AIn w W m vS) (k : Below W.heap.size W W') : AIn w W' m vS :=
  ⟨bel2 h.bel k, (k.block _ (heap_lt h.h2)).trans h.h2, (k.block _ (heap_lt h.r1)).trans h.r1, (k.block _ (heap_lt h.r2)).trans h.r2⟩

theorem AIn.new (w : World) (m : Int) (vS : Value) : AIn w (((w.alloc (.cells #[.int .i64 m, vS] 45)).alloc (.cells #[.int .i64 0, .slice none 0 0] 45)).alloc (.cells #[.int .i64 0, .int .i64 0] 26)) m vS := by
  obtain ⟨h1, h2, h3⟩ := three_new w (.cells #[.int .i64 m, vS] 45) (.cells #[.int .i64 0, .slice none 0 0] 45) (.cells #[.int .i64 0, .int .i64 0] 26)
  exact ⟨(((Below.refl _ w).alloc (Nat.le_refl _) _).alloc (by simp) _).alloc (by simp; omega) _, h1, h2, h3⟩

theorem flat_slices {w : World} {Z : Nat → Prop} {xs : List (Value × Value)} {S : List Sr} (hx : xs.length = S.length) (h1 : ∀ i, i < S.length → ∃ lo lc, (atX xs i).1 = .slice lo (atSr S i).1.length lc ∧ LOut w Z lo (atSr S i).1) (h2 : ∀ i, i < S.length → ∃ so sc, (atX xs i).2 = .slice so (atSr S i).2.length sc ∧ SOut w Z so (atSr S i).2) : ∀ u ∈ flat xs, u.oneCell' = true := by
  intro u hu
  obtain ⟨j, hj, e⟩ := List.mem_iff_getElem.1 hu
  rw [flat_length, hx] at hj
  have hi : j / 2 < S.length := by omega
  obtain ⟨q1, q2⟩ := flat_get xs (j / 2) (by omega)
  have hj' : (flat xs)[j]? = some u := by rw [List.getElem?_eq_some_iff]; exact ⟨by rw [flat_length, hx]; exact hj, e⟩
  rcases Nat.mod_two_eq_zero_or_one j with e2 | e2
  · rw [show j = j / 2 * 2 by omega, q1] at hj'
    cases hj'
    obtain ⟨lo, lc, e3, _⟩ := h1 _ hi
    rw [e3]; rfl
  · rw [show j = j / 2 * 2 + 1 by omega, q2] at hj'
    cases hj'
    obtain ⟨lo, lc, e3, _⟩ := h2 _ hi
    rw [e3]; rfl

/-- A box of another kind is written: rows of series stay. -/
theorem RB.setH {w W : World} {Z : Nat → Prop} {v : Value} {xs : List (Value × Value)} {L : List Sr} (h : RB w W Z v xs L) {X : Nat} {c : Array Value} (hX : W.heap[X]? = some (.cells c 45)) (hw : w.heap.size ≤ X) (o : Nat) (u : Value) : RB w (W.setCell ⟨X, o, none⟩ u) Z v xs L :=
  ⟨h.len, own_set h.row (own_kind h.row hX (by decide)) _ _, h.bel.setCell (p := ⟨X, o, none⟩) hw u, fun i hi => (h.labs i hi).imp id fun k => own_set k (own_kind k hX (by decide)) _ _, fun i hi => (h.smps i hi).imp id fun k => own_set k (own_kind k hX (by decide)) _ _⟩

theorem RB.set2 {w W : World} {Z : Nat → Prop} {v : Value} {xs : List (Value × Value)} {L : List Sr} (h : RB w W Z v xs L) {X : Nat} {x y : Value} (hX : W.heap[X]? = some (.cells #[x, y] 45)) (hw : w.heap.size ≤ X) (u1 u2 : Value) : RB w ((W.setCell ⟨X, 0, none⟩ u1).setCell ⟨X, 1, none⟩ u2) Z v xs L :=
  (h.setH hX hw 0 u1).setH (heap_setCell_same _ _ 0 _ _ _ hX) hw 1 u2

theorem RB.setF {w W : World} {Z : Nat → Prop} {v : Value} {xs : List (Value × Value)} {L : List Sr} (h : RB w W Z v xs L) {X : Nat} {c : Array Value} (hX : W.heap[X]? = some (.cells c 26)) (hw : w.heap.size ≤ X) (o : Nat) (u : Value) : RB w (W.setCell ⟨X, o, none⟩ u) Z v xs L :=
  ⟨h.len, own_set h.row (own_kind h.row hX (by decide)) _ _, h.bel.setCell (p := ⟨X, o, none⟩) hw u, fun i hi => (h.labs i hi).imp id fun k => own_set k (own_kind k hX (by decide)) _ _, fun i hi => (h.smps i hi).imp id fun k => own_set k (own_kind k hX (by decide)) _ _⟩

theorem RB.setF2 {w W : World} {Z : Nat → Prop} {v : Value} {xs : List (Value × Value)} {L : List Sr} (h : RB w W Z v xs L) {X : Nat} {x y : Value} (hX : W.heap[X]? = some (.cells #[x, y] 26)) (hw : w.heap.size ≤ X) (u1 u2 : Value) : RB w ((W.setCell ⟨X, 0, none⟩ u1).setCell ⟨X, 1, none⟩ u2) Z v xs L :=
  (h.setF hX hw 0 u1).setF (heap_setCell_same _ _ 0 _ _ _ hX) hw 1 u2

theorem ld_fine (b : Nat) (x y : Int) (w : World) (c0 : w.cell? ⟨b, 0, none⟩ = some (.int .i64 x)) (c1 : w.cell? ⟨b, 1, none⟩ = some (.int .i64 y)) : (Instr.loadAt 26 (.pointer (some ⟨b, 0, none⟩))).run Tryz.prog w = .ok (.agg #[.int .i64 x, .int .i64 y]) w := by
  have hs : (Tryz.prog.info? 26).map (·.size) = some 2 := by kernel_rfl
  go_simp

/-- What is told in the region that makes the new head. -/
def T9 (w : World) (Z : Nat → Prop) (m : Int) (vS : Value) (S : List Sr) (L : Nat → Bool) (i : Nat) (W : World) (v : Value) : Prop := match i with
  | 0 => v = .pointer (some ⟨w.heap.size, 0, none⟩)
  | 1 => v = .int .i64 m
  | 2 => ∃ g, v = .slice (some ⟨g, 0, none⟩) 0 0 ∧ w.heap.size ≤ g ∧ W.heap[g]? = some (.cells #[] 55)
  | 3 => v = .pointer (some ⟨w.heap.size, 1, none⟩)
  | 4 => v = vS
  | 5 => ∃ xs, RB w W Z v xs S
  | 6 => ∃ u xs, v = .agg #[.int .i64 m, u] ∧ RB w W Z u xs S
  | 7 => ∃ X, v = .pointer (some ⟨X, 0, none⟩) ∧ w.heap.size + 1 + 1 < X ∧ ∃ x y, W.heap[X]? = some (.cells #[x, y] 45) ∧ (L 8 = true → x = .int .i64 m ∧ ∃ xs, RB w W Z y xs S)
  | _ => True

theorem T9.below {w W W' : World} {Z : Nat → Prop} {m : Int} {vS : Value} {S : List Sr} {L L' : Nat → Bool} (hL : L' 8 = L 8) (k : Below W.heap.size W W') : ∀ {i : Nat} {v : Value}, T9 w Z m vS S L i W v → T9 w Z m vS S L' i W' v
  | 0, _, h => h
  | 1, _, h => h
  | 2, _, ⟨g, h1, h2, h3⟩ => ⟨g, h1, h2, (k.block g (heap_lt h3)).trans h3⟩
  | 3, _, h => h
  | 4, _, h => h
  | 5, _, ⟨xs, h⟩ => ⟨xs, h.below k⟩
  | 6, _, ⟨u, xs, h1, h2⟩ => ⟨u, xs, h1, h2.below k⟩
  | 7, _, ⟨X, h1, h2, x, y, h3, h4⟩ => ⟨X, h1, h2, x, y, (k.block X (heap_lt h3)).trans h3, fun e => by
      obtain ⟨q1, xs, q2⟩ := h4 (by rw [← hL]; exact e)
      exact ⟨q1, xs, q2.below k⟩⟩
  | _ + 8, _, _ => trivial

/-- The head that is made. -/
structure AOut (w W : World) (Z : Nat → Prop) (m : Int) (vS : Value) (X : Nat) (v : Value) (xs : List (Value × Value)) (Sj : List Sr) : Prop where
  ain : AIn w W m vS
  far : w.heap.size + 1 + 1 < X
  box : W.heap[X]? = some (.cells #[.int .i64 m, v] 45)
  row : RB w W Z v xs Sj

theorem AIn.set2 {w W : World} {m : Int} {vS : Value} (h : AIn w W m vS) {X : Nat} (hX : w.heap.size + 1 + 1 < X) (u1 u2 : Value) : AIn w ((W.setCell ⟨X, 0, none⟩ u1).setCell ⟨X, 1, none⟩ u2) m vS :=
  ⟨(h.bel.setCell (p := ⟨X, 0, none⟩) (by show w.heap.size ≤ X; omega) _).setCell (p := ⟨X, 1, none⟩) (by show w.heap.size ≤ X; omega) _, (set_two_ne (by omega)).trans h.h2, (set_two_ne (by omega)).trans h.r1, (set_two_ne (by omega)).trans h.r2⟩

theorem bs_series (w : World) : (Instr.buildSlice 22 0 #[]).run Tryz.prog w = .ok (.slice (some ⟨w.heap.size, 0, none⟩) 0 0) (w.alloc (.cells #[] 55)) := by
  go_simp
theorem al_head (w : World) : (Instr.alloc 45 true (.tuple #[])).run Tryz.prog w = .ok (.pointer (some ⟨w.heap.size, 0, none⟩)) (w.alloc (.cells #[.int .i64 0, .slice none 0 0] 45)) := by
  go_simp
theorem bd_head (w : World) (n : Int) (uo : Option Addr) (un uc : Nat) : (Instr.build 45 #[(0, .int .i64 n), (1, .slice uo un uc)]).run Tryz.prog w = .ok (.agg #[.int .i64 n, .slice uo un uc]) w := by
  go_simp
theorem fa1_head (w : World) (b : Nat) : (Instr.fieldAt 45 (.pointer (some ⟨b, 0, none⟩)) 1).run Tryz.prog w = .ok (.pointer (some ⟨b, 1, none⟩)) w := by
  go_simp
theorem fa0_head (w : World) (b : Nat) : (Instr.fieldAt 45 (.pointer (some ⟨b, 0, none⟩)) 0).run Tryz.prog w = .ok (.pointer (some ⟨b, 0, none⟩)) w := by
  go_simp

theorem AOut.below {w W W' : World} {Z : Nat → Prop} {m : Int} {vS : Value} {X : Nat} {v : Value} {xs : List (Value × Value)} {Sj : List Sr} (h : AOut w W Z m vS X v xs Sj) (k : Below W.heap.size W W') : AOut w W' Z m vS X v xs Sj :=
  ⟨h.ain.below k, h.far, (k.block _ (heap_lt h.box)).trans h.box, h.row.below k⟩

theorem drawnN_below (w : World) (n : Nat) : Below w.heap.size w (w.drewN n) := ⟨rfl, rfl, rfl, Nat.le_refl _, fun _ _ => rfl⟩

abbrev FineH (w : World) : Prop := w.cell? ⟨0, 0, none⟩ = some (.int .i64 0) ∧ w.cell? ⟨0, 1, none⟩ = some (.int .i64 (-1))

theorem bs_labels (w : World) : (Instr.buildSlice 50 0 #[]).run Tryz.prog w = .ok (.slice (some ⟨w.heap.size, 0, none⟩) 0 0) (w.alloc (.cells #[] 49)) := by
  go_simp
theorem bs_samples (w : World) : (Instr.buildSlice 53 0 #[]).run Tryz.prog w = .ok (.slice (some ⟨w.heap.size, 0, none⟩) 0 0) (w.alloc (.cells #[] 52)) := by
  go_simp
theorem fa0_series (w : World) (b k : Nat) : (Instr.fieldAt 55 (.pointer (some ⟨b, k, none⟩)) 0).run Tryz.prog w = .ok (.pointer (some ⟨b, k, none⟩)) w := by
  go_simp
theorem fa1_series (w : World) (b k : Nat) : (Instr.fieldAt 55 (.pointer (some ⟨b, k, none⟩)) 1).run Tryz.prog w = .ok (.pointer (some ⟨b, k + 1, none⟩)) w := by
  go_simp
theorem bd_series (w : World) (lo so : Option Addr) (ln lc sn sc : Nat) : (Instr.build 55 #[(0, .slice lo ln lc), (1, .slice so sn sc)]).run Tryz.prog w = .ok (.agg #[.slice lo ln lc, .slice so sn sc]) w := by
  go_simp
theorem bs_one (w : World) (lo so : Option Addr) (ln lc sn sc : Nat) : (Instr.buildSlice 22 1 #[(0, .agg #[.slice lo ln lc, .slice so sn sc])]).run Tryz.prog w = .ok (.slice (some ⟨w.heap.size, 0, none⟩) 1 1) (w.alloc (.cells #[.slice lo ln lc, .slice so sn sc] 55)) := by
  go_simp
theorem ld_samples (b k : Nat) (ao : Option Addr) (n c : Nat) (w : World) (h : w.cell? ⟨b, k, none⟩ = some (.slice ao n c)) : (Instr.loadAt 53 (.pointer (some ⟨b, k, none⟩))).run Tryz.prog w = .ok (.slice ao n c) w := by
  have hs : (Tryz.prog.info? 53).map (·.size) = some 1 := by kernel_rfl
  go_simp

/-- What is told in the region that lets a new series come. -/
def T28 (w : World) (Z : Nat → Prop) (m : Int) (X Bx : Nat) (vL l1 s1 : Value) (Sj : List Sr) (x : Sr) (L : Nat → Bool) (i : Nat) (W : World) (v : Value) : Prop := match i with
  | 0 => v = .pointer (some ⟨X, 1, none⟩)
  | 1 => v = vL
  | 2 => ∃ g, v = .slice (some ⟨g, 0, none⟩) 0 0 ∧ w.heap.size ≤ g ∧ W.heap[g]? = some (.cells #[] 49)
  | 3 => v = .pointer (some ⟨Bx, 0, none⟩)
  | 4 => v = l1
  | 5 => OwnLb W w.heap.size v x.1
  | 6 => ∃ g, v = .slice (some ⟨g, 0, none⟩) 0 0 ∧ w.heap.size ≤ g ∧ W.heap[g]? = some (.cells #[] 52)
  | 7 => v = .pointer (some ⟨Bx, 1, none⟩)
  | 8 => v = s1
  | 9 => OwnSm W w.heap.size v x.2
  | 10 => ∃ a b, v = .agg #[a, b] ∧ OwnLb W w.heap.size a x.1 ∧ OwnSm W w.heap.size b x.2
  | 11 => L 12 = false → ∃ g a b, v = .slice (some ⟨g, 0, none⟩) 1 1 ∧ W.heap[g]? = some (.cells #[a, b] 55) ∧ OwnLb W w.heap.size a x.1 ∧ OwnSm W w.heap.size b x.2
  | 12 => L 13 = false → ∃ ys, RB w W Z v ys (Sj ++ [x])
  | 13 => (∃ ys, RB w W Z v ys (Sj.insertIdx (HD.pos Sj x.1) x)) ∧ (L 15 = true → W.heap[X]? = some (.cells #[.int .i64 m, v] 45))
  | 14 => v = .pointer (some ⟨X, 1, none⟩)
  | _ => True

theorem T28.below {w W W' : World} {Z : Nat → Prop} {m : Int} {X Bx : Nat} {vL l1 s1 : Value} {Sj : List Sr} {x : Sr} {L L' : Nat → Bool} (h12 : L' 12 = L 12) (h13 : L' 13 = L 13) (h15 : L' 15 = L 15) (k : Below W.heap.size W W') : ∀ {i : Nat} {v : Value}, T28 w Z m X Bx vL l1 s1 Sj x L i W v → T28 w Z m X Bx vL l1 s1 Sj x L' i W' v
  | 0, _, h => h
  | 1, _, h => h
  | 2, _, ⟨g, h1, h2, h3⟩ => ⟨g, h1, h2, (k.block g (heap_lt h3)).trans h3⟩
  | 3, _, h => h
  | 4, _, h => h
  | 5, _, h => row_kept h fun g _ hg => k.block g (heap_lt hg)
  | 6, _, ⟨g, h1, h2, h3⟩ => ⟨g, h1, h2, (k.block g (heap_lt h3)).trans h3⟩
  | 7, _, h => h
  | 8, _, h => h
  | 9, _, h => row_kept h fun g _ hg => k.block g (heap_lt hg)
  | 10, _, ⟨a, b, h1, h2, h3⟩ => ⟨a, b, h1, row_kept h2 fun g _ hg => k.block g (heap_lt hg), row_kept h3 fun g _ hg => k.block g (heap_lt hg)⟩
  | 11, _, h => fun e => by
      obtain ⟨g, a, b, q1, q2, q3, q4⟩ := h (by rw [← h12]; exact e)
      exact ⟨g, a, b, q1, (k.block g (heap_lt q2)).trans q2, row_kept q3 fun g _ hg => k.block g (heap_lt hg), row_kept q4 fun g _ hg => k.block g (heap_lt hg)⟩
  | 12, _, h => fun e => by
      obtain ⟨ys, q⟩ := h (by rw [← h13]; exact e)
      exact ⟨ys, q.below k⟩
  | 13, _, ⟨⟨ys, q⟩, h⟩ => ⟨⟨ys, q.below k⟩, fun e => by
      have h2 := h (by rw [← h15]; exact e)
      exact (k.block X (heap_lt h2)).trans h2⟩
  | 14, _, h => h
  | _ + 15, _, _ => trivial

/-- What Append tells. -/
def RAEnd (w : World) (Z : Nat → Prop) (m : Int) (S l : List Sr) (e : Ending) (w' : World) : Prop :=
  ∃ ao cap, e = .returned (.tuple #[.agg #[.int .i64 m, .slice ao (HD.app m S l).2.length cap], .agg #[.int .i64 (HD.app m S l).1.1, .int .i64 (HD.app m S l).1.2]]) ∧ SrOut w' Z ao (HD.app m S l).2 ∧ Below w.heap.size w w'


/-- Blocks of other kinds stay. -/
def KFr (E : TypeId → Prop) (W W' : World) : Prop := ∀ (j : Nat) (c : Array Value) (t : TypeId), W.heap[j]? = some (.cells c t) → ¬ E t → W'.heap[j]? = some (.cells c t)

theorem KFr.row {E : TypeId → Prop} {W W' : World} (k : KFr E W W') {base n size : Nat} {e : TypeId} {v : Value} {xs : List Value} (h : W.ownsRow base e size v n xs) (he : ¬ E e) : W'.ownsRow base e size v n xs := row_kept h fun g c hg => (k g c _ hg he).trans hg.symm

theorem KFr.grown {W W' : World} {base n : Nat} {v : Value} {xs : List Value} (hv : W.ownsRow base 55 2 v n xs) (k : W.grownBy W' v.ownBlock) : KFr (fun t => t = 55) W W' := fun j _ _ h ht =>
  (k.block j (heap_lt h) (fun e => own_kind hv h (fun e2 => ht e2.symm) e.symm)).trans h

theorem KFr.sfr {W W' : World} {base n : Nat} {v : Value} {xs : List Value} (hv : W.ownsRow base 55 2 v n xs) (k : SFr (fun j => v.ownBlock = some j) W W') : KFr (fun t => t = 55) W W' := fun j _ _ h ht =>
  (k.block j (heap_lt h) (own_kind hv h (fun e2 => ht e2.symm))).trans h

theorem KFr.set {W : World} {X : Nat} {c : Array Value} {T : TypeId} (h : W.heap[X]? = some (.cells c T)) (o : Nat) (u : Value) : KFr (fun t => t = T) W (W.setCell ⟨X, o, none⟩ u) := fun j c' t hj ht => by
  have hne : j ≠ X := fun e => by
    subst e
    rw [h] at hj
    simp only [Option.some.injEq, Obj.cells.injEq] at hj
    exact ht hj.2.1.symm
  exact (Below.heap_setCell _ ⟨X, o, none⟩ u j hne).trans hj

theorem AIn.kind {w W W' : World} {m : Int} {vS : Value} (h : AIn w W m vS) (k : KFr (fun t => t = 55) W W') (hb : Below w.heap.size w W') : AIn w W' m vS :=
  ⟨hb, k _ _ _ h.h2 (by decide), k _ _ _ h.r1 (by decide), k _ _ _ h.r2 (by decide)⟩

/-- The new series is in the row: what was told of others. -/
theorem T28.kind {w W W' : World} {Z : Nat → Prop} {m : Int} {X Bx : Nat} {vL l1 s1 : Value} {Sj : List Sr} {x : Sr} {E : TypeId → Prop} {L L' : Nat → Bool} (k : KFr E W W') (hE1 : ¬ E 49) (hE2 : ¬ E 52) (h12 : L' 12 = true) : ∀ {i : Nat} {v : Value}, i ≠ 13 → (i = 12 → L' 13 = true) → T28 w Z m X Bx vL l1 s1 Sj x L i W v → T28 w Z m X Bx vL l1 s1 Sj x L' i W' v
  | 0, _, _, _, h => h
  | 1, _, _, _, h => h
  | 2, _, _, _, ⟨g, h1, h2, h3⟩ => ⟨g, h1, h2, k _ _ _ h3 hE1⟩
  | 3, _, _, _, h => h
  | 4, _, _, _, h => h
  | 5, _, _, _, h => KFr.row k h hE1
  | 6, _, _, _, ⟨g, h1, h2, h3⟩ => ⟨g, h1, h2, k _ _ _ h3 hE2⟩
  | 7, _, _, _, h => h
  | 8, _, _, _, h => h
  | 9, _, _, _, h => KFr.row k h hE2
  | 10, _, _, _, ⟨a, b, h1, h2, h3⟩ => ⟨a, b, h1, KFr.row k h2 hE1, KFr.row k h3 hE2⟩
  | 11, _, _, _, _ => fun e => by rw [h12] at e; cases e
  | 12, _, _, h13, _ => fun e => by rw [h13 rfl] at e; cases e
  | 13, _, hne, _, _ => absurd rfl hne
  | 14, _, _, _, h => h
  | _ + 15, _, _, _, _ => trivial

theorem st_series (b k : Nat) (u : Value) (ao : Option Addr) (n c : Nat) (w : World) (c0 : w.cell? ⟨b, k, none⟩ = some u) (f0 : w.frozen? ⟨b, k, none⟩ = false) : (Instr.storeAt 22 (.pointer (some ⟨b, k, none⟩)) (.slice ao n c)).run Tryz.prog w = .ok () (w.setCell ⟨b, k, none⟩ (.slice ao n c)) := by
  have hs : (Tryz.prog.info? 22).map (·.size) = some 1 := by kernel_rfl
  go_simp

theorem st_ser (b k : Nat) (x y : Value) (lo so : Option Addr) (ln lc sn sc : Nat) (w : World) (c0 : w.cell? ⟨b, k, none⟩ = some x) (c1 : w.cell? ⟨b, k + 1, none⟩ = some y) (f0 : w.frozen? ⟨b, k, none⟩ = false) (f1 : w.frozen? ⟨b, k + 1, none⟩ = false) : (Instr.storeAt 55 (.pointer (some ⟨b, k, none⟩)) (.agg #[.slice lo ln lc, .slice so sn sc])).run Tryz.prog w = .ok () ((w.setCell ⟨b, k, none⟩ (.slice lo ln lc)).setCell ⟨b, k + 1, none⟩ (.slice so sn sc)) := by
  have hs : (Tryz.prog.info? 55).map (·.size) = some 2 := by kernel_rfl
  go_simp

theorem ix_series (b k n c : Nat) (w : World) (h : k < n) (_hn : n ≤ 1000000) : (Instr.indexAt 22 (.slice (some ⟨b, 0, none⟩) n c) (.int .i64 k)).run Tryz.prog w = .ok (.pointer (some ⟨b, k * 2, none⟩)) w := by
  have hs : (Tryz.prog.info? 55).map (·.size) = some 2 := by kernel_rfl
  have h1 : 0 ≤ (k : Int) ∧ (k : Int) < (n : Int) := by omega
  go_simp

theorem AIn.set1 {w W : World} {m : Int} {vS : Value} (h : AIn w W m vS) {X : Nat} (hX : w.heap.size + 1 + 1 < X) (o : Nat) (u : Value) : AIn w (W.setCell ⟨X, o, none⟩ u) m vS := by
  have h0 : w.heap.size ≠ X := by omega
  have h1 : w.heap.size + 1 ≠ X := by omega
  have h2 : w.heap.size + 1 + 1 ≠ X := by omega
  exact ⟨h.bel.setCell (p := ⟨X, o, none⟩) (by show w.heap.size ≤ X; omega) _, (Below.heap_setCell _ ⟨X, o, none⟩ u _ h0).trans h.h2, (Below.heap_setCell _ ⟨X, o, none⟩ u _ h1).trans h.r1, (Below.heap_setCell _ ⟨X, o, none⟩ u _ h2).trans h.r2⟩

/-- A series is put in another's place. -/
theorem RB.put {w W : World} {Z : Nat → Prop} {g c k : Nat} {xs : List (Value × Value)} {S : List Sr} (h : RB w W Z (.slice (some ⟨g, 0, none⟩) S.length c) xs S) (hk : k < S.length) {a b : Value} {y : Sr} (ha : RL w W Z a y.1) (hb : RS w W Z b y.2) :
    RB w ((W.setCell ⟨g, k * 2, none⟩ a).setCell ⟨g, k * 2 + 1, none⟩ b) Z (.slice (some ⟨g, 0, none⟩) S.length c) (xs.set k (a, b)) (S.set k y) ∧ KFr (fun t => t = 55) W ((W.setCell ⟨g, k * 2, none⟩ a).setCell ⟨g, k * 2 + 1, none⟩ b) := by
  obtain ⟨g', _, cur, e0, _, hg, _⟩ := own_block h.row (by omega)
  simp only [Value.slice.injEq, Option.some.injEq, Addr.mk.injEq, and_true, true_and] at e0
  obtain ⟨rfl, -⟩ := e0
  have s1 := h.row.stored (k * 2) a
  have s2 := s1.1.stored (k * 2 + 1) b
  have hgw : w.heap.size ≤ g := (h.row.lt g rfl).1
  have k1 : KFr (fun t => t = 55) W (W.setCell ⟨g, k * 2, none⟩ a) := KFr.set hg _ _
  have k2 : KFr (fun t => t = 55) W ((W.setCell ⟨g, k * 2, none⟩ a).setCell ⟨g, k * 2 + 1, none⟩ b) := fun j c' t hj ht => KFr.set (heap_setCell_same _ _ _ _ _ _ hg) _ _ j c' t (k1 j c' t hj ht) ht
  refine ⟨⟨by simp [h.len], ?_, (h.bel.setCell (p := ⟨g, k * 2, none⟩) hgw _).setCell (p := ⟨g, k * 2 + 1, none⟩) hgw _, fun i hi => ?_, fun i hi => ?_⟩, k2⟩
  · have := s2.1
    rw [flat_set2 xs (a, b) k] at this
    rw [List.length_set]
    exact this
  · rw [List.length_set] at hi
    rw [atX_set xs k i _ (by rw [h.len]; exact hk), atSr_set S k i y hk]
    by_cases e : i = k
    · rw [if_pos e, if_pos e]; exact ha.imp id fun q => KFr.row k2 q (by decide)
    · rw [if_neg e, if_neg e]; exact (h.labs i hi).imp id fun q => KFr.row k2 q (by decide)
  · rw [List.length_set] at hi
    rw [atX_set xs k i _ (by rw [h.len]; exact hk), atSr_set S k i y hk]
    by_cases e : i = k
    · rw [if_pos e, if_pos e]; exact hb.imp id fun q => KFr.row k2 q (by decide)
    · rw [if_neg e, if_neg e]; exact (h.smps i hi).imp id fun q => KFr.row k2 q (by decide)

/-- What is told in the region that puts samples behind a series'. -/
def T29 (wc : World) (X Bx g pp : Nat) (vL a1 a2 s1 : Value) (l1 l2 : List CL.Smp) (L : Nat → Bool) (i : Nat) (W : World) (v : Value) : Prop := L 22 = false → match i with
  | 0 => v = .pointer (some ⟨X, 1, none⟩)
  | 1 => v = vL
  | 2 => v = .int .i64 pp
  | 3 => v = .pointer (some ⟨X, 1, none⟩)
  | 4 => v = vL
  | 5 => v = .int .i64 pp
  | 6 => v = .pointer (some ⟨g, pp * 2, none⟩)
  | 7 => v = .pointer (some ⟨g, pp * 2, none⟩)
  | 8 => v = a1
  | 9 => L 16 = false → ∃ b, v = .slice (some ⟨b, 0, none⟩) 0 0 ∧ wc.heap.size ≤ b ∧ W.heap[b]? = some (.cells #[] 52)
  | 10 => v = .pointer (some ⟨X, 1, none⟩)
  | 11 => v = vL
  | 12 => v = .int .i64 pp
  | 13 => v = .pointer (some ⟨g, pp * 2, none⟩)
  | 14 => v = .pointer (some ⟨g, pp * 2 + 1, none⟩)
  | 15 => v = a2
  | 16 => L 19 = false → OwnSm W wc.heap.size v l1
  | 17 => v = .pointer (some ⟨Bx, 1, none⟩)
  | 18 => v = s1
  | 19 => OwnSm W wc.heap.size v (l1 ++ l2)
  | 20 => ∃ u, v = .agg #[a1, u] ∧ OwnSm W wc.heap.size u (l1 ++ l2)
  | 21 => v = .pointer (some ⟨g, pp * 2, none⟩)
  | _ => True

theorem T29.below {wc W W' : World} {X Bx g pp : Nat} {vL a1 a2 s1 : Value} {l1 l2 : List CL.Smp} {L L' : Nat → Bool} (h16 : L' 16 = false → L 16 = false) (h19 : L' 19 = false → L 19 = false) (h22 : L' 22 = L 22) (k : Below W.heap.size W W') : ∀ {i : Nat} {v : Value}, T29 wc X Bx g pp vL a1 a2 s1 l1 l2 L i W v → T29 wc X Bx g pp vL a1 a2 s1 l1 l2 L' i W' v := by
  intro i v h e22
  have h := h (by rw [← h22]; exact e22)
  match i, h with
  | 0, h => exact h
  | 1, h => exact h
  | 2, h => exact h
  | 3, h => exact h
  | 4, h => exact h
  | 5, h => exact h
  | 6, h => exact h
  | 7, h => exact h
  | 8, h => exact h
  | 9, h =>
    intro e
    obtain ⟨b, q1, q2, q3⟩ := h (h16 e)
    exact ⟨b, q1, q2, (k.block b (heap_lt q3)).trans q3⟩
  | 10, h => exact h
  | 11, h => exact h
  | 12, h => exact h
  | 13, h => exact h
  | 14, h => exact h
  | 15, h => exact h
  | 16, h => exact fun e => row_kept (h (h19 e)) fun g _ hg => k.block g (heap_lt hg)
  | 17, h => exact h
  | 18, h => exact h
  | 19, h => exact row_kept h fun g _ hg => k.block g (heap_lt hg)
  | 20, ⟨u, q1, q2⟩ => exact ⟨u, q1, row_kept q2 fun g _ hg => k.block g (heap_lt hg)⟩
  | 21, h => exact h
  | _ + 22, _ => trivial

/-- Behind the second copy. -/
theorem T29.grown {wc W W' : World} {X Bx g pp : Nat} {vL a1 a2 s1 : Value} {l1 l2 : List CL.Smp} {L L' : Nat → Bool} (h16 : L' 16 = true) (h19 : L' 19 = true) (h20 : L 20 = false) (h22 : L' 22 = L 22) : ∀ {i : Nat} {v : Value}, i ≠ 19 → L i = true → T29 wc X Bx g pp vL a1 a2 s1 l1 l2 L i W v → T29 wc X Bx g pp vL a1 a2 s1 l1 l2 L' i W' v := by
  intro i v hi hLi h e22
  have h := h (by rw [← h22]; exact e22)
  match i, h, hi, hLi with
  | 0, h, _, _ => exact h
  | 1, h, _, _ => exact h
  | 2, h, _, _ => exact h
  | 3, h, _, _ => exact h
  | 4, h, _, _ => exact h
  | 5, h, _, _ => exact h
  | 6, h, _, _ => exact h
  | 7, h, _, _ => exact h
  | 8, h, _, _ => exact h
  | 9, _, _, _ => exact fun e => by rw [h16] at e; cases e
  | 10, h, _, _ => exact h
  | 11, h, _, _ => exact h
  | 12, h, _, _ => exact h
  | 13, h, _, _ => exact h
  | 14, h, _, _ => exact h
  | 15, h, _, _ => exact h
  | 16, _, _, _ => exact fun e => by rw [h19] at e; cases e
  | 17, h, _, _ => exact h
  | 18, h, _, _ => exact h
  | 19, _, hi, _ => exact absurd rfl hi
  | 20, _, _, hL => rw [h20] at hL; cases hL
  | 21, h, _, _ => exact h
  | _ + 22, _, _, _ => trivial

end Go.Proofs.YtdmnlmohfaafoadGreatDoor

