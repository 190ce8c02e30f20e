/- Rows of series that are copied, and written (made by mkbk.py) -/
import Derived.Test.YtdmnlmohfaafoaePMBrSort
import Derived.Test.YtdmnlmohfaafoaePMHrReg
import Derived.Deep.RegionWith
import Derived.Deep.CutBlock
import Derived.Deep.CutRange
import Derived.Deep.DeepCutAuto
namespace Go.Proofs.Ytdmnlmohfaafoae
open Go.RowKit

/-- append onto an empty row that was just made: a new row. -/
theorem app_fresh {P : Program} (w : World) (base : Nat) (t ty e : TypeId) (i : TypeInfo) (z : Value) (bytes : Nat) (ht : P.underlying t = some (.slice e)) (hi : P.info? e = some i) (hz : i.zero = some z)
    (hsize : i.size = 2) (hby : i.bytes = bytes) (hzs : z.cells.size = 2) (g : Nat) (hg : w.heap[g]? = some (.cells #[] e)) (hgb : base ≤ g)
    (so : Option Addr) (m c : Nat) (news : List Value) (hnone : so = none → m = 0) (hl : news.length = m * 2) (hnews : ∀ a, so = some a → ∀ j u, news[j]? = some u → w.cell? (a.add j) = some u) (h1 : ∀ u ∈ news, u.oneCell' = true)
    (h63 : m ≤ maxLen) (hbytes : m * bytes ≤ 140737488355328) (hbase : base ≤ w.heap.size) :
    ∃ v' w', (Builtin.append_ #[t, t] ty #[.slice (some ⟨g, 0, none⟩) 0 0, .slice so m c]).run P w = .ok v' w' ∧ w'.ownsRow base e 2 v' m news ∧ Below w.heap.size w w' := by
  have hown : w.ownsRow base e 2 (.slice (some ⟨g, 0, none⟩) 0 0) 0 [] := ⟨rfl, .inr ⟨g, 0, #[], rfl, hgb, hg, Nat.le_refl _, Nat.zero_le _, rfl, rfl⟩⟩
  by_cases hm : 0 < m
  · cases so with
    | none => have := hnone rfl; omega
    | some a =>
      obtain ⟨v', w', h2, h3, _, _, _⟩ := run_append_own_at (P := P) w base t ty e i z 2 bytes ht hi hz hsize hby hzs (by decide) _ 0 [] hown a m c news hl (hnews a rfl) h1 (by omega) (by simpa using hbytes) hbase
      have hsrc : Src P i.size t (.slice (some a) m c) m news w := Src.ofSlice w ht a m c news (by rw [hsize]; exact hl) (hnews a rfl) h1
      have hr := run_append_grow_src (P := P) w t t ty e i z ht hi hz (some ⟨g, 0, none⟩) 0 0 [] (run_firstCells_some w.drew i.size 0 ⟨g, 0, none⟩ 0 0 [] (by simp) (fun j u hj => by simp at hj)) (.slice (some a) m c) m news hsrc (by omega) (by unfold maxLen at h63; omega) (by rw [hby]; exact growslice_fits (by omega) (by simpa using hbytes))
      refine ⟨v', w', h2, by simpa using h3, ?_⟩
      rw [hr] at h2
      cases h2
      exact (Below.refl _ w).drew.alloc (Nat.le_refl _) _
  · have hm0 : m = 0 := by omega
    subst hm0
    have hn0 : news = [] := List.eq_nil_of_length_eq_zero (by simpa using hl)
    subst hn0
    have hsrc : Src P i.size t (.slice so 0 c) 0 [] w := by
      cases so with
      | none => exact Src.ofNil w ht c
      | some a => exact Src.ofSlice w ht a 0 c [] (by simp) (fun j u hj => by simp at hj) (fun u hu => by cases hu)
    have hr := run_append_room_src (P := P) w t t ty e i ht hi g 0 0 0 (.slice so 0 c) 0 [] hsrc (by omega) (by simp) (by simp)
    exact ⟨_, _, hr, by simpa [World.setCells] using hown, by simpa [World.setCells] using Below.refl _ w⟩

/-- A row of series that is there, cell by cell. -/
theorem SrOut.cells {w : World} {Z : Nat → Prop} {ao : Option Addr} {S : List Sr} (h : SrOut w Z ao S) : ∃ xs : List (Value × Value), xs.length = S.length ∧ (∀ a, ao = some a → ∀ j u, (flat xs)[j]? = some u → w.cell? (a.add j) = some u) ∧ (ao = none → S.length = 0) ∧
    (∀ i, i < S.length → ∃ lo lc, (atX xs i).1 = .slice lo (atSr S i).1.length lc ∧ LOut w Z lo (atSr S i).1) ∧ ∀ i, i < S.length → ∃ so sc, (atX xs i).2 = .slice so (atSr S i).2.length sc ∧ SOut w Z so (atSr S i).2 := by
  have key : ∀ i, i < S.length → ∃ p : Value × Value, (∀ a, ao = some a → w.cell? (a.add (i * 2)) = some p.1 ∧ w.cell? (a.add (i * 2 + 1)) = some p.2) ∧ (∃ lo lc, p.1 = .slice lo (atSr S i).1.length lc ∧ LOut w Z lo (atSr S i).1) ∧ ∃ so sc, p.2 = .slice so (atSr S i).2.length sc ∧ SOut w Z so (atSr S i).2 := by
    intro i hi
    obtain ⟨b, off, hao, _, _, lo, lc, so, sc, d0, d1, hL, hS⟩ := h i hi
    refine ⟨(.slice lo (atSr S i).1.length lc, .slice so (atSr S i).2.length sc), fun a ha => ?_, ⟨lo, lc, rfl, hL⟩, ⟨so, sc, rfl, hS⟩⟩
    rw [hao] at ha
    cases ha
    rw [Addr.add_lit, Addr.add_lit]
    exact ⟨d0, d1⟩
  obtain ⟨f, hf⟩ : ∃ f : Nat → Value × Value, ∀ i, i < S.length → (∀ a, ao = some a → w.cell? (a.add (i * 2)) = some (f i).1 ∧ w.cell? (a.add (i * 2 + 1)) = some (f i).2) ∧ (∃ lo lc, (f i).1 = .slice lo (atSr S i).1.length lc ∧ LOut w Z lo (atSr S i).1) ∧ ∃ so sc, (f i).2 = .slice so (atSr S i).2.length sc ∧ SOut w Z so (atSr S i).2 :=
    ⟨fun i => if hi : i < S.length then (key i hi).choose else nilP, fun i hi => by simp only [dif_pos hi]; exact (key i hi).choose_spec⟩
  have hat : ∀ i, i < S.length → atX ((List.range S.length).map f) i = f i := fun i hi => by simp [atX, hi]
  refine ⟨(List.range S.length).map f, by simp, fun a ha j u hj => ?_, fun hn => ?_, fun i hi => by rw [hat i hi]; exact (hf i hi).2.1, fun i hi => by rw [hat i hi]; exact (hf i hi).2.2⟩
  · have hjl : j < S.length * 2 := by
      have := (List.getElem?_eq_some_iff.1 hj).1
      rw [flat_length] at this
      simpa using this
    have hi : j / 2 < S.length := by omega
    obtain ⟨q1, q2⟩ := flat_get ((List.range S.length).map f) (j / 2) (by simpa using hi)
    obtain ⟨c1, c2⟩ := (hf (j / 2) hi).1 a ha
    rw [hat _ hi] at q1 q2
    rcases Nat.mod_two_eq_zero_or_one j with e | e
    · have e2 : j = j / 2 * 2 := by omega
      rw [e2] at hj ⊢
      rw [q1] at hj
      cases hj
      exact c1
    · have e2 : j = j / 2 * 2 + 1 := by omega
      rw [e2] at hj ⊢
      rw [q2] at hj
      cases hj
      exact c2
  · by_cases h0 : 0 < S.length
    · obtain ⟨b, off, hao, _⟩ := h 0 h0
      rw [hn] at hao; cases hao
    · omega

theorem flat_slices {w : World} {Z : Nat → Prop} {xs : List (Value × Value)} {S : List Sr} (hx : xs.length = S.length) (h1 : ∀ i, i < S.length → ∃ lo lc, (atX xs i).1 = .slice lo (atSr S i).1.length lc ∧ LOut w Z lo (atSr S i).1) (h2 : ∀ i, i < S.length → ∃ so sc, (atX xs i).2 = .slice so (atSr S i).2.length sc ∧ SOut w Z so (atSr S i).2) : ∀ u ∈ flat xs, u.oneCell' = true := by
  intro u hu
  obtain ⟨j, hj, e⟩ := List.mem_iff_getElem.1 hu
  rw [flat_length, hx] at hj
  have hi : j / 2 < S.length := by omega
  obtain ⟨q1, q2⟩ := flat_get xs (j / 2) (by omega)
  have hj' : (flat xs)[j]? = some u := by rw [List.getElem?_eq_some_iff]; exact ⟨by rw [flat_length, hx]; exact hj, e⟩
  rcases Nat.mod_two_eq_zero_or_one j with e2 | e2
  · rw [show j = j / 2 * 2 by omega, q1] at hj'
    cases hj'
    obtain ⟨lo, lc, e3, _⟩ := h1 _ hi
    rw [e3]; rfl
  · rw [show j = j / 2 * 2 + 1 by omega, q2] at hj'
    cases hj'
    obtain ⟨lo, lc, e3, _⟩ := h2 _ hi
    rw [e3]; rfl

theorem bs_series (w : World) : (Instr.buildSlice 22 0 #[]).run Try.prog w = .ok (.slice (some ⟨w.heap.size, 0, none⟩) 0 0) (w.alloc (.cells #[] 44)) := by
  go_simp

theorem fa0_series (w : World) (b k : Nat) : (Instr.fieldAt 44 (.pointer (some ⟨b, k, none⟩)) 0).run Try.prog w = .ok (.pointer (some ⟨b, k, none⟩)) w := by
  go_simp

theorem fa1_series (w : World) (b k : Nat) : (Instr.fieldAt 44 (.pointer (some ⟨b, k, none⟩)) 1).run Try.prog w = .ok (.pointer (some ⟨b, k + 1, none⟩)) w := by
  go_simp

theorem bd_series (w : World) (lo so : Option Addr) (ln lc sn sc : Nat) : (Instr.build 44 #[(0, .slice lo ln lc), (1, .slice so sn sc)]).run Try.prog w = .ok (.agg #[.slice lo ln lc, .slice so sn sc]) w := by
  go_simp

theorem bs_one (w : World) (lo so : Option Addr) (ln lc sn sc : Nat) : (Instr.buildSlice 22 1 #[(0, .agg #[.slice lo ln lc, .slice so sn sc])]).run Try.prog w = .ok (.slice (some ⟨w.heap.size, 0, none⟩) 1 1) (w.alloc (.cells #[.slice lo ln lc, .slice so sn sc] 44)) := by
  go_simp

theorem ld_samples (b k : Nat) (ao : Option Addr) (n c : Nat) (w : World) (h : w.cell? ⟨b, k, none⟩ = some (.slice ao n c)) : (Instr.loadAt 42 (.pointer (some ⟨b, k, none⟩))).run Try.prog w = .ok (.slice ao n c) w := by
  have hs : (Try.prog.info? 42).map (·.size) = some 1 := by kernel_rfl
  go_simp

/-- Blocks of other kinds stay. -/
def KFr (E : TypeId → Prop) (W W' : World) : Prop := ∀ (j : Nat) (c : Array Value) (t : TypeId), W.heap[j]? = some (.cells c t) → ¬ E t → W'.heap[j]? = some (.cells c t)

theorem KFr.row {E : TypeId → Prop} {W W' : World} (k : KFr E W W') {base n size : Nat} {e : TypeId} {v : Value} {xs : List Value} (h : W.ownsRow base e size v n xs) (he : ¬ E e) : W'.ownsRow base e size v n xs := row_kept h fun g c hg => (k g c _ hg he).trans hg.symm

theorem KFr.grown {W W' : World} {base n : Nat} {v : Value} {xs : List Value} (hv : W.ownsRow base 44 2 v n xs) (k : W.grownBy W' v.ownBlock) : KFr (fun t => t = 44) W W' := fun j _ _ h ht =>
  (k.block j (heap_lt h) (fun e => own_kind hv h (fun e2 => ht e2.symm) e.symm)).trans h

theorem KFr.sfr {W W' : World} {base n : Nat} {v : Value} {xs : List Value} (hv : W.ownsRow base 44 2 v n xs) (k : SFr (fun j => v.ownBlock = some j) W W') : KFr (fun t => t = 44) W W' := fun j _ _ h ht =>
  (k.block j (heap_lt h) (own_kind hv h (fun e2 => ht e2.symm))).trans h

theorem KFr.set {W : World} {X : Nat} {c : Array Value} {T : TypeId} (h : W.heap[X]? = some (.cells c T)) (o : Nat) (u : Value) : KFr (fun t => t = T) W (W.setCell ⟨X, o, none⟩ u) := fun j c' t hj ht => by
  have hne : j ≠ X := fun e => by
    subst e
    rw [h] at hj
    simp only [Option.some.injEq, Obj.cells.injEq] at hj
    exact ht hj.2.1.symm
  exact (Below.heap_setCell _ ⟨X, o, none⟩ u j hne).trans hj

theorem st_ser (b k : Nat) (x y : Value) (lo so : Option Addr) (ln lc sn sc : Nat) (w : World) (c0 : w.cell? ⟨b, k, none⟩ = some x) (c1 : w.cell? ⟨b, k + 1, none⟩ = some y) (f0 : w.frozen? ⟨b, k, none⟩ = false) (f1 : w.frozen? ⟨b, k + 1, none⟩ = false) : (Instr.storeAt 44 (.pointer (some ⟨b, k, none⟩)) (.agg #[.slice lo ln lc, .slice so sn sc])).run Try.prog w = .ok () ((w.setCell ⟨b, k, none⟩ (.slice lo ln lc)).setCell ⟨b, k + 1, none⟩ (.slice so sn sc)) := by
  have hs : (Try.prog.info? 44).map (·.size) = some 2 := by kernel_rfl
  go_simp

theorem ix_series (b k n c : Nat) (w : World) (h : k < n) (_hn : n ≤ 1000000) : (Instr.indexAt 22 (.slice (some ⟨b, 0, none⟩) n c) (.int .i64 k)).run Try.prog w = .ok (.pointer (some ⟨b, k * 2, none⟩)) w := by
  have hs : (Try.prog.info? 44).map (·.size) = some 2 := by kernel_rfl
  have h1 : 0 ≤ (k : Int) ∧ (k : Int) < (n : Int) := by omega
  go_simp

/-- A series is put in another's place. -/
theorem RB.put {w W : World} {Z : Nat → Prop} {g c k : Nat} {xs : List (Value × Value)} {S : List Sr} (h : RB w W Z (.slice (some ⟨g, 0, none⟩) S.length c) xs S) (hk : k < S.length) {a b : Value} {y : Sr} (ha : RL w W Z a y.1) (hb : RS w W Z b y.2) :
    RB w ((W.setCell ⟨g, k * 2, none⟩ a).setCell ⟨g, k * 2 + 1, none⟩ b) Z (.slice (some ⟨g, 0, none⟩) S.length c) (xs.set k (a, b)) (S.set k y) ∧ KFr (fun t => t = 44) W ((W.setCell ⟨g, k * 2, none⟩ a).setCell ⟨g, k * 2 + 1, none⟩ b) := by
  obtain ⟨g', _, cur, e0, _, hg, _⟩ := own_block h.row (by omega)
  simp only [Value.slice.injEq, Option.some.injEq, Addr.mk.injEq, and_true, true_and] at e0
  obtain ⟨rfl, -⟩ := e0
  have s1 := h.row.stored (k * 2) a
  have s2 := s1.1.stored (k * 2 + 1) b
  have hgw : w.heap.size ≤ g := (h.row.lt g rfl).1
  have k1 : KFr (fun t => t = 44) W (W.setCell ⟨g, k * 2, none⟩ a) := KFr.set hg _ _
  have k2 : KFr (fun t => t = 44) W ((W.setCell ⟨g, k * 2, none⟩ a).setCell ⟨g, k * 2 + 1, none⟩ b) := fun j c' t hj ht => KFr.set (heap_setCell_same _ _ _ _ _ _ hg) _ _ j c' t (k1 j c' t hj ht) ht
  refine ⟨⟨by simp [h.len], ?_, (h.bel.setCell (p := ⟨g, k * 2, none⟩) hgw _).setCell (p := ⟨g, k * 2 + 1, none⟩) hgw _, fun i hi => ?_, fun i hi => ?_⟩, k2⟩
  · have := s2.1
    rw [flat_set2 xs (a, b) k] at this
    rw [List.length_set]
    exact this
  · rw [List.length_set] at hi
    rw [atX_set xs k i _ (by rw [h.len]; exact hk), atSr_set S k i y hk]
    by_cases e : i = k
    · rw [if_pos e, if_pos e]; exact ha.imp id fun q => KFr.row k2 q (by decide)
    · rw [if_neg e, if_neg e]; exact (h.labs i hi).imp id fun q => KFr.row k2 q (by decide)
  · rw [List.length_set] at hi
    rw [atX_set xs k i _ (by rw [h.len]; exact hk), atSr_set S k i y hk]
    by_cases e : i = k
    · rw [if_pos e, if_pos e]; exact hb.imp id fun q => KFr.row k2 q (by decide)
    · rw [if_neg e, if_neg e]; exact (h.smps i hi).imp id fun q => KFr.row k2 q (by decide)

end Go.Proofs.Ytdmnlmohfaafoae

