/- What a head is in memory behind a series that came: plain steps. Names no function. -/
import Derived.Test.YtdmnlmohfaafoadGreatDoorPHdHead
namespace Go.Proofs.YtdmnlmohfaafoadGreatDoor
open Go.RowKit

/-- A row of another kind is another block. -/
theorem own_kind {w : World} {base n size g : Nat} {e e' : TypeId} {v : Value} {xs : List Value} {c : Array Value} {fz : Nat × Nat} (h : w.ownsRow base e size v n xs) (hg : w.heap[g]? = some (.cells c e' fz)) (hne : e ≠ e') : v.ownBlock ≠ some g := fun hb => by
  rcases h.2 with ⟨h0, _⟩ | ⟨g', cap, cur, h0, _, a2, _⟩
  · rw [h0] at hb; cases hb
  · rw [h0] at hb
    cases hb
    rw [hg] at a2
    simp only [Option.some.injEq, Obj.cells.injEq] at a2
    exact hne a2.2.1.symm

theorem own_block {w : World} {base n size : Nat} {e : TypeId} {v : Value} {xs : List Value} (h : w.ownsRow base e size v n xs) (hn : 0 < n) : ∃ g cap cur, v = .slice (some ⟨g, 0, none⟩) n cap ∧ v.ownBlock = some g ∧ w.heap[g]? = some (.cells cur e) ∧ n ≤ cap ∧ cur.size = cap * size ∧ cur.toList.take (n * size) = xs := by
  rcases h.2 with ⟨_, h0⟩ | ⟨g, cap, cur, h0, _, a2, a3, _, a4, a5⟩
  · omega
  · exact ⟨g, cap, cur, h0, by rw [h0]; rfl, a2, a3, a4, a5⟩

/-- u, of m samples, is no longer than what lies in its block. -/
def Und (u : Value) (m : Nat) (xs : List (Value × Value)) (S : List Sr) : Prop := ∀ i, i < S.length → ∀ g, u.ownBlock = some g → (atX xs i).2.ownBlock = some g → m ≤ (atSr S i).2.length

/-- What one that comes leaves: frames. -/
structure StepFr (nb : Nat) (S S' : List Sr) (v v' : Value) (xs xs' : List (Value × Value)) (w w' : World) : Prop where
  os : w'.os = w.os
  tape : w'.tape = w.tape
  output : w'.output = w.output
  size : w.heap.size ≤ w'.heap.size
  block : ∀ j, j < w.heap.size → j ≠ nb → v.ownBlock ≠ some j → (∀ i, i < S.length → (atX xs i).2.ownBlock ≠ some j) → w'.heap[j]? = w.heap[j]?
  row : v'.ownBlock = v.ownBlock ∨ ∃ g, v'.ownBlock = some g ∧ w.heap.size ≤ g
  smps : ∀ i, i < S'.length → (∃ k, k < S.length ∧ (atX xs' i).2.ownBlock = (atX xs k).2.ownBlock) ∨ ∃ g, (atX xs' i).2.ownBlock = some g ∧ w.heap.size ≤ g
  keeps : ∀ u m ys, w.ownsRow 0 52 2 u m ys → Und u m xs S → w'.ownsRow 0 52 2 u m ys ∧ Und u m xs' S'

theorem set_size (w : World) (p : Addr) (u : Value) : (w.setCell p u).heap.size = w.heap.size := by simp [World.setCell]

section
variable {w W : World} {nb g cap : Nat} {mark : Int} {S : List Sr} {v : Value} {xs : List (Value × Value)}

/-- Samples behind a series' own. -/
theorem HdX.follow (h : HdX w nb mark S v xs) {k : Nat} (hk : k < S.length) (hv : v = .slice (some ⟨g, 0, none⟩) S.length cap) {u' : Value} {l : List CL.Smp}
    (h1 : OwnSm W 0 u' ((atSr S k).2 ++ l)) (h2 : OwnSm W 0 (atX xs k).2 (atSr S k).2) (h3 : w.grownBy W (atX xs k).2.ownBlock) (h4 : u'.ownBlock = (atX xs k).2.ownBlock ∨ u'.ownBlock = some w.heap.size) (hy : 0 < (atSr S k).2.length) :
    HdX (W.setCell ⟨g, k * 2 + 1, none⟩ u') nb mark (S.set k ((atSr S k).1, (atSr S k).2 ++ l)) v (xs.set k ((atX xs k).1, u')) ∧ StepFr nb S (S.set k ((atSr S k).1, (atSr S k).2 ++ l)) v v xs (xs.set k ((atX xs k).1, u')) w (W.setCell ⟨g, k * 2 + 1, none⟩ u') := by
  have hkx : k < xs.length := by rw [h.len]; exact hk
  obtain ⟨g0, cap0, cr, e0, e1, hgr, _, _, _⟩ := own_block h.row (by omega)
  rw [hv] at e0; cases e0
  obtain ⟨gu, cu, cur, d0, d1, hgu, d3, d4, d5⟩ := own_block (h.smps k hk) hy
  have hgne : g ≠ gu := fun e => own_kind (h.smps k hk) hgr (by decide) (by rw [d1, e])
  have hbne : nb ≠ gu := fun e => own_kind (h.smps k hk) h.box (by decide) (by rw [d1, e])
  have hbg : nb ≠ g := fun e => own_kind h.row h.box (by decide) (by rw [e1, e])
  have hgw : g < w.heap.size := heap_lt hgr
  have hWg : W.heap[g]? = some (.cells cr 55) := (h3.block g hgw (by rw [d1]; exact fun e => hgne (Option.some.inj e))).trans hgr
  have hWrow : W.ownsRow 0 55 2 v S.length (flat xs) := h.row.kept h3 (.inr (by rw [d1, e1]; exact fun e => hgne (Option.some.inj e)))
  have hst := (hv ▸ hWrow : W.ownsRow 0 55 2 (.slice (some ⟨g, 0, none⟩) S.length cap) S.length (flat xs)).stored (k * 2 + 1) u'
  have hnog : ∀ {e : TypeId} {u : Value} {m : Nat} {ys : List Value}, W.ownsRow 0 e 2 u m ys → e ≠ 55 → (W.setCell ⟨g, k * 2 + 1, none⟩ u').ownsRow 0 e 2 u m ys := fun hh hne => own_set hh (own_kind hh hWg hne) _ _
  have hsm : ∀ i, i < S.length → i ≠ k → OwnSm W 0 (atX xs i).2 (atSr S i).2 := fun i hi hik => (h.smps i hi).kept h3 (.inr (h.apart i k hi hk hik))
  have hlb : ∀ i, i < S.length → OwnLb W 0 (atX xs i).1 (atSr S i).1 := fun i hi => (h.labs i hi).kept h3 (.inr (by rw [d1]; exact own_kind (h.labs i hi) hgu (by decide)))
  have hu'new : ∀ i, i < S.length → i ≠ k → (atX xs i).2.ownBlock ≠ u'.ownBlock := fun i hi hik => by
    rcases h4 with e | e
    · rw [e]; exact h.apart i k hi hk hik
    · rw [e]
      intro e2
      have := ((h.smps i hi).lt _ e2).2
      omega
  refine ⟨⟨?_, by rw [List.length_set, List.length_set]; exact h.len, ?_, fun i hi => ?_, fun i hi => ?_, fun i j hi hj hij => ?_⟩, ⟨h3.os, h3.tape, h3.output, by rw [set_size]; exact h3.size, fun j hj h5 h6 h7 => ?_, .inl rfl, fun i hi => ?_, fun u m ys h5 h6 => ?_⟩⟩
  · exact (Below.heap_setCell W ⟨g, k * 2 + 1, none⟩ u' nb hbg).trans ((h3.block nb (heap_lt h.box) (by rw [d1]; exact fun e => hbne (Option.some.inj e))).trans h.box)
  · rw [List.length_set, ← flat_set xs u' k, hv]
    exact hst.1
  · rw [List.length_set] at hi
    rw [atX_set _ _ _ _ hkx, atSr_set _ _ _ _ hk]
    by_cases e : i = k
    · rw [if_pos e, if_pos e]
      show OwnLb _ 0 (atX xs k).1 (atSr S k).1
      exact hnog (hlb k hk) (by decide)
    · rw [if_neg e, if_neg e]
      exact hnog (hlb i hi) (by decide)
  · rw [List.length_set] at hi
    rw [atX_set _ _ _ _ hkx, atSr_set _ _ _ _ hk]
    by_cases e : i = k
    · rw [if_pos e, if_pos e]
      exact hnog h1 (by decide)
    · rw [if_neg e, if_neg e]
      exact hnog (hsm i hi e) (by decide)
  · rw [List.length_set] at hi hj
    rw [atX_set _ _ _ _ hkx, atX_set _ _ _ _ hkx]
    by_cases e : i = k
    · rw [if_pos e, if_neg (by omega)]
      exact fun e2 => hu'new j hj (by omega) e2.symm
    · rw [if_neg e]
      by_cases e2 : j = k
      · rw [if_pos e2]; exact hu'new i hi e
      · rw [if_neg e2]; exact h.apart i j hi hj hij
  · rw [Below.heap_setCell W ⟨g, k * 2 + 1, none⟩ u' j (fun e => h6 (by rw [e1, e]))]
    exact h3.block j hj (fun e => h7 k hk e.symm)
  · rw [List.length_set] at hi
    rw [atX_set _ _ _ _ hkx]
    by_cases e : i = k
    · rw [if_pos e]
      rcases h4 with e2 | e2
      · exact .inl ⟨k, hk, e2⟩
      · exact .inr ⟨_, e2, Nat.le_refl _⟩
    · rw [if_neg e]; exact .inl ⟨i, hi, rfl⟩
  · have hW : W.ownsRow 0 52 2 u m ys := by
      by_cases e : u.ownBlock = some gu
      · -- it lies in the block that grew: a beginning of it
        have hm := h6 k hk gu e d1
        rcases h5.2 with ⟨e3, _⟩ | ⟨gg, cc, cw, e3, _, a2, a3, a4, a5, a6⟩
        · rw [e3] at e; cases e
        · rw [e3] at e; cases e
          rw [hgu] at a2
          simp only [Option.some.injEq, Obj.cells.injEq] at a2
          obtain ⟨rfl, _, _⟩ := a2
          obtain ⟨gu2, cu2, cur2, f0, f1, f2, f3, f4, f5⟩ := own_block h2 hy
          rw [d0] at f0; cases f0
          refine ⟨h5.1, .inr ⟨_, cc, cur2, e3, Nat.zero_le _, f2, a3, a4, by rw [f4, ← d4, a5], ?_⟩⟩
          rw [← a6]
          have t1 : cur.toList.take (m * 2) = (cur.toList.take ((atSr S k).2.length * 2)).take (m * 2) := by rw [List.take_take]; congr 1; omega
          have t2 : cur2.toList.take (m * 2) = (cur2.toList.take ((atSr S k).2.length * 2)).take (m * 2) := by rw [List.take_take]; congr 1; omega
          rw [t1, t2, d5, f5]
      · exact h5.kept h3 (.inr (by rw [d1]; exact e))
    refine ⟨hnog hW (by decide), fun i hi gg a1 a2 => ?_⟩
    rw [List.length_set] at hi
    rw [atX_set _ _ _ _ hkx] at a2
    rw [atSr_set _ _ _ _ hk]
    by_cases e : i = k
    · rw [if_pos e] at a2 ⊢
      rcases h4 with e2 | e2
      · have := h6 k hk gg a1 (by rw [← e2]; exact a2)
        simp only [List.length_append]; omega
      · have e4 : gg = w.heap.size := by
          have : u'.ownBlock = some gg := a2
          rw [e2] at this; cases this; rfl
        have := (h5.lt gg a1).2
        omega
    · rw [if_neg e] at a2 ⊢
      exact h6 i hi gg a1 a2

/-- A new series, at its place. -/
theorem HdX.insert (h : HdX w nb mark S v xs) {k : Nat} (hk : k ≤ S.length) {W2 W3 : World} {vl vs v' : Value} {x : Sr} (hb : Below w.heap.size w W2) (h1 : OwnLb W2 w.heap.size vl x.1) (h2 : OwnSm W2 w.heap.size vs x.2)
    (h3 : W3.ownsRow 0 55 2 v' (S.length + 1) ((flat xs).take (k * 2) ++ [vl, vs] ++ (flat xs).drop (k * 2))) (h4 : W2.grownBy W3 v.ownBlock) (h5 : v'.ownBlock = v.ownBlock ∨ v'.ownBlock = some W2.heap.size) (hx : 0 < x.2.length) :
    HdX (W3.setCell ⟨nb, 1, none⟩ v') nb mark (S.insertIdx k x) v' (xs.insertIdx k (vl, vs)) ∧ StepFr nb S (S.insertIdx k x) v v' xs (xs.insertIdx k (vl, vs)) w (W3.setCell ⟨nb, 1, none⟩ v') := by
  have hkx : k ≤ xs.length := by rw [h.len]; exact hk
  have hnbw : nb < w.heap.size := heap_lt h.box
  have hvne : v.ownBlock ≠ some nb := own_kind h.row h.box (by decide)
  have hW3b : W3.heap[nb]? = some (.cells #[.int .i64 mark, v] 105) := (h4.block nb (Nat.lt_of_lt_of_le hnbw hb.size) (fun e => hvne e.symm)).trans ((hb.block nb hnbw).trans h.box)
  have hlen : (S.insertIdx k x).length = S.length + 1 := by rw [List.length_insertIdx, if_pos hk]
  have hlenx : (xs.insertIdx k (vl, vs)).length = S.length + 1 := by rw [List.length_insertIdx, if_pos hkx, h.len]
  -- rows of another kind than series go through
  have thr : ∀ {e : TypeId} {u : Value} {m base : Nat} {ys : List Value}, W2.ownsRow base e 2 u m ys → e ≠ 55 → e ≠ 105 → (W3.setCell ⟨nb, 1, none⟩ v').ownsRow base e 2 u m ys := fun {e u m base ys} hh hne hne2 => by
    have h6 : W3.ownsRow base e 2 u m ys := by
      refine hh.kept h4 ?_
      rcases hv : v.ownBlock with _ | g
      · rcases hu : u.ownBlock with _ | g'
        · exact .inl rfl
        · exact .inr (by simp)
      · refine .inr ?_
        have hg : ∃ c, w.heap[g]? = some (.cells c 55) := by
          rcases h.row.2 with ⟨e0, _⟩ | ⟨g1, _, c, e0, _, a2, _⟩
          · rw [e0] at hv; cases hv
          · rw [e0] at hv; cases hv; exact ⟨c, a2⟩
        obtain ⟨c, hc⟩ := hg
        exact own_kind hh ((hb.block g (heap_lt hc)).trans hc) hne
    exact own_set h6 (own_kind h6 hW3b hne2) _ _
  have up : ∀ {e : TypeId} {u : Value} {m base : Nat} {ys : List Value}, w.ownsRow base e 2 u m ys → W2.ownsRow base e 2 u m ys := fun hh => row_kept hh fun g _ hg => hb.block g (heap_lt hg)
  have hvs : ∃ g, vs.ownBlock = some g ∧ w.heap.size ≤ g := by
    obtain ⟨g, _, _, _, e, _⟩ := own_block h2 hx
    exact ⟨g, e, (h2.lt g e).1⟩
  have hfar : ∀ i, i < S.length → (atX xs i).2.ownBlock ≠ vs.ownBlock := fun i hi e => by
    obtain ⟨g, e2, e3⟩ := hvs
    rw [e2] at e
    have := ((h.smps i hi).lt g e).2
    omega
  refine ⟨⟨?_, by rw [hlen, hlenx], ?_, fun i hi => ?_, fun i hi => ?_, fun i j hi hj hij => ?_⟩, ⟨h4.os.trans hb.os, h4.tape.trans hb.tape, h4.output.trans hb.output, by rw [set_size]; exact Nat.le_trans hb.size h4.size, fun j hj h6 h7 h8 => ?_, ?_, fun i hi => ?_, fun u m ys h6 h7 => ?_⟩⟩
  · exact heap_setCell_same W3 nb 1 _ _ v' hW3b
  · rw [hlen, ← flat_ins vl vs xs k hkx]
    exact own_set h3 (own_kind h3 hW3b (by decide)) _ _
  · rw [hlen] at hi
    rw [atX_ins _ _ _ _ hkx, atSr_ins _ _ _ _ hk]
    by_cases e : i < k
    · rw [if_pos e, if_pos e]; exact thr (up (h.labs i (by omega))) (by decide) (by decide)
    · rw [if_neg e, if_neg e]
      by_cases e2 : i = k
      · rw [if_pos e2, if_pos e2]; exact thr (row_low h1 (Nat.zero_le _)) (by decide) (by decide)
      · rw [if_neg e2, if_neg e2]; exact thr (up (h.labs (i - 1) (by omega))) (by decide) (by decide)
  · rw [hlen] at hi
    rw [atX_ins _ _ _ _ hkx, atSr_ins _ _ _ _ hk]
    by_cases e : i < k
    · rw [if_pos e, if_pos e]; exact thr (up (h.smps i (by omega))) (by decide) (by decide)
    · rw [if_neg e, if_neg e]
      by_cases e2 : i = k
      · rw [if_pos e2, if_pos e2]; exact thr (row_low h2 (Nat.zero_le _)) (by decide) (by decide)
      · rw [if_neg e2, if_neg e2]; exact thr (up (h.smps (i - 1) (by omega))) (by decide) (by decide)
  · rw [hlen] at hi hj
    rw [atX_ins _ _ _ _ hkx, atX_ins _ _ _ _ hkx]
    by_cases a1 : i < k
    · rw [if_pos a1]
      by_cases b1 : j < k
      · rw [if_pos b1]; exact h.apart i j (by omega) (by omega) hij
      · rw [if_neg b1]
        by_cases b2 : j = k
        · rw [if_pos b2]; exact hfar i (by omega)
        · rw [if_neg b2]; exact h.apart i (j - 1) (by omega) (by omega) (by omega)
    · rw [if_neg a1]
      by_cases a2 : i = k
      · rw [if_pos a2]
        by_cases b1 : j < k
        · rw [if_pos b1]; exact fun e => hfar j (by omega) e.symm
        · rw [if_neg b1, if_neg (by omega)]; exact fun e => hfar (j - 1) (by omega) e.symm
      · rw [if_neg a2]
        by_cases b1 : j < k
        · rw [if_pos b1]; exact h.apart (i - 1) j (by omega) (by omega) (by omega)
        · rw [if_neg b1]
          by_cases b2 : j = k
          · rw [if_pos b2]; exact hfar (i - 1) (by omega)
          · rw [if_neg b2]; exact h.apart (i - 1) (j - 1) (by omega) (by omega) (by omega)
  · rw [Below.heap_setCell W3 ⟨nb, 1, none⟩ v' j h6]
    exact (h4.block j (Nat.lt_of_lt_of_le hj hb.size) (fun e => h7 e.symm)).trans (hb.block j hj)
  · rcases h5 with e | e
    · exact .inl e
    · exact .inr ⟨_, e, hb.size⟩
  · rw [hlen] at hi
    rw [atX_ins _ _ _ _ hkx]
    by_cases a1 : i < k
    · rw [if_pos a1]; exact .inl ⟨i, by omega, rfl⟩
    · rw [if_neg a1]
      by_cases a2 : i = k
      · rw [if_pos a2]; exact .inr hvs
      · rw [if_neg a2]; exact .inl ⟨i - 1, by omega, rfl⟩
  · refine ⟨thr (up h6) (by decide) (by decide), fun i hi g a1 a2 => ?_⟩
    rw [hlen] at hi
    rw [atX_ins _ _ _ _ hkx] at a2
    rw [atSr_ins _ _ _ _ hk]
    by_cases b1 : i < k
    · rw [if_pos b1] at a2 ⊢; exact h7 i (by omega) g a1 a2
    · rw [if_neg b1] at a2 ⊢
      by_cases b2 : i = k
      · rw [if_pos b2] at a2
        obtain ⟨g2, e2, e3⟩ := hvs
        have : vs.ownBlock = some g := a2
        rw [e2] at this; cases this
        have := (h6.lt g a1).2
        omega
      · rw [if_neg b2] at a2 ⊢; exact h7 (i - 1) (by omega) g a1 a2

end

end Go.Proofs.YtdmnlmohfaafoadGreatDoor

