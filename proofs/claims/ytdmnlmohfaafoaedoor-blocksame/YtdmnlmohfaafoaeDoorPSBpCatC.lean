/- slices.Concat of two rows of series. -/
import Derived.Test.YtdmnlmohfaafoaeDoorPSBmMemC
import Derived.Test.YtdmnlmohfaafoaeDoorPSHcMergeC
import Derived.Lib.AppendZerosOnto
import Derived.Laws.AppendOwnNone
import Derived.OwnWalk
namespace Go.Proofs.YtdmnlmohfaafoaeDoor
open Go.RowKit Go.Lib

theorem SrOut.cellsP {w : World} {Z : Nat → Prop} {ao : Option Addr} {S : List Sr} (h : SrOut w Z ao S) : ∃ xs : List (Value × Value), xs.length = S.length ∧ (∀ a, ao = some a → ∀ j u, (flat xs)[j]? = some u → w.cell? (a.add j) = some u) ∧ (ao = none → S.length = 0) ∧
    (∀ i, i < S.length → ∃ lo lc, (atX xs i).1 = .slice lo (atSr S i).1.length lc ∧ LOut w Z lo (atSr S i).1) ∧ ∀ i, i < S.length → ∃ so sc, (atX xs i).2 = .slice so (atSr S i).2.length sc ∧ SOut w Z so (atSr S i).2 := by
  have key : ∀ i, i < S.length → ∃ p : Value × Value, (∀ a, ao = some a → w.cell? (a.add (i * 2)) = some p.1 ∧ w.cell? (a.add (i * 2 + 1)) = some p.2) ∧ (∃ lo lc, p.1 = .slice lo (atSr S i).1.length lc ∧ LOut w Z lo (atSr S i).1) ∧ ∃ so sc, p.2 = .slice so (atSr S i).2.length sc ∧ SOut w Z so (atSr S i).2 := by
    intro i hi
    obtain ⟨b, off, hao, _, _, lo, lc, so, sc, d0, d1, hL, hS⟩ := h i hi
    refine ⟨(.slice lo (atSr S i).1.length lc, .slice so (atSr S i).2.length sc), fun a ha => ?_, ⟨lo, lc, rfl, hL⟩, ⟨so, sc, rfl, hS⟩⟩
    rw [hao] at ha
    cases ha
    rw [Addr.add_lit, Addr.add_lit]
    exact ⟨d0, d1⟩
  obtain ⟨f, hf⟩ : ∃ f : Nat → Value × Value, ∀ i, i < S.length → (∀ a, ao = some a → w.cell? (a.add (i * 2)) = some (f i).1 ∧ w.cell? (a.add (i * 2 + 1)) = some (f i).2) ∧ (∃ lo lc, (f i).1 = .slice lo (atSr S i).1.length lc ∧ LOut w Z lo (atSr S i).1) ∧ ∃ so sc, (f i).2 = .slice so (atSr S i).2.length sc ∧ SOut w Z so (atSr S i).2 :=
    ⟨fun i => if hi : i < S.length then (key i hi).choose else nilP, fun i hi => by simp only [dif_pos hi]; exact (key i hi).choose_spec⟩
  have hat : ∀ i, i < S.length → atX ((List.range S.length).map f) i = f i := fun i hi => by simp [atX, hi]
  refine ⟨(List.range S.length).map f, by simp, fun a ha j u hj => ?_, fun hn => ?_, fun i hi => by rw [hat i hi]; exact (hf i hi).2.1, fun i hi => by rw [hat i hi]; exact (hf i hi).2.2⟩
  · have hjl : j < S.length * 2 := by
      have := (List.getElem?_eq_some_iff.1 hj).1
      rw [flat_length] at this
      simpa using this
    have hi : j / 2 < S.length := by omega
    obtain ⟨q1, q2⟩ := flat_get ((List.range S.length).map f) (j / 2) (by simpa using hi)
    obtain ⟨c1, c2⟩ := (hf (j / 2) hi).1 a ha
    rw [hat _ hi] at q1 q2
    rcases Nat.mod_two_eq_zero_or_one j with e | e
    · have e2 : j = j / 2 * 2 := by omega
      rw [e2] at hj ⊢
      rw [q1] at hj
      cases hj
      exact c1
    · have e2 : j = j / 2 * 2 + 1 := by omega
      rw [e2] at hj ⊢
      rw [q2] at hj
      cases hj
      exact c2
  · by_cases h0 : 0 < S.length
    · obtain ⟨b, off, hao, _⟩ := h 0 h0
      rw [hn] at hao; cases hao
    · omega

theorem flat_slicesP {w : World} {Z : Nat → Prop} {xs : List (Value × Value)} {S : List Sr} (hx : xs.length = S.length) (h1 : ∀ i, i < S.length → ∃ lo lc, (atX xs i).1 = .slice lo (atSr S i).1.length lc ∧ LOut w Z lo (atSr S i).1) (h2 : ∀ i, i < S.length → ∃ so sc, (atX xs i).2 = .slice so (atSr S i).2.length sc ∧ SOut w Z so (atSr S i).2) : ∀ u ∈ flat xs, u.oneCell' = true := by
  intro u hu
  obtain ⟨j, hj, e⟩ := List.mem_iff_getElem.1 hu
  rw [flat_length, hx] at hj
  have hi : j / 2 < S.length := by omega
  obtain ⟨q1, q2⟩ := flat_get xs (j / 2) (by omega)
  have hj' : (flat xs)[j]? = some u := by rw [List.getElem?_eq_some_iff]; exact ⟨by rw [flat_length, hx]; exact hj, e⟩
  rcases Nat.mod_two_eq_zero_or_one j with e2 | e2
  · rw [show j = j / 2 * 2 by omega, q1] at hj'
    cases hj'
    obtain ⟨lo, lc, e3, _⟩ := h1 _ hi
    rw [e3]; rfl
  · rw [show j = j / 2 * 2 + 1 by omega, q2] at hj'
    cases hj'
    obtain ⟨lo, lc, e3, _⟩ := h2 _ hi
    rw [e3]; rfl

theorem uIntC : Tryd.prog.underlying 3 = some (.int .i64) := by kernel_rfl

set_option maxRecDepth 100000 in
set_option maxHeartbeats 1600000 in
/-- slices.Grow of no row. -/
theorem grow_nil (n : Nat) (w : World) (hn : n ≤ 1000) :
    Calls Tryd.prog 93 #[.slice none 0 0, .int .i64 n] w fun e w' => ∃ ao cap, e = .returned (.slice ao 0 cap) ∧ w'.ownsRow w.heap.size 38 2 (.slice ao 0 cap) 0 [] ∧ Below w.heap.size w w' := by
  by_cases h0 : n = 0
  · subst h0
    go_enter Tryd.func93, Tryd.ntmps93
    go_wp2
    go_ret
    exact ⟨none, 0, rfl, ⟨rfl, .inl ⟨rfl, rfl⟩⟩, Below.refl _ _⟩
  · obtain ⟨i0, hi0, hz0, hzs, hzb⟩ := sr_info
    obtain ⟨G, hG⟩ : ∃ G, G = grownCap w n 0 38 := ⟨_, rfl⟩
    have hGn : n ≤ G := by rw [hG]; exact grownCap_ge w _ _ _
    have hGm : G ≤ maxLen := by rw [hG]; exact grownCap_le_maxLen w _ _ _ (by unfold maxLen; omega)
    have hrz := Lib.run_append_grow_zeros (P := Tryd.prog) w 27 3 27 38 i0 _ .i64 .i64 Tryd.uSrs uIntC hi0 hz0 none 0 0 [] (run_firstCells_none w.drew i0.size 0 0 0) n (by omega) (by omega) (by omega) (by omega) (by rw [hzb]; omega) (by rw [hzb]; exact growslice_fits (by omega) (by omega))
    rw [Nat.zero_add, ← hG] at hrz
    generalize hcs : (([] : List Value).toArray ++ Builtin.zeroCells (Value.agg #[.slice none 0 0, .slice none 0 0]).cells n ++ Builtin.zeroCells (Value.agg #[.slice none 0 0, .slice none 0 0]).cells (G - n)) = cs at hrz
    have HE : Hid ((w.drew.alloc (.cells cs 38)).ownsRow w.heap.size 38 2 (.slice (some ⟨w.heap.size, 0, none⟩) 0 G) 0 [] ∧ Below w.heap.size w (w.drew.alloc (.cells cs 38))) := by
      refine ⟨⟨rfl, .inr ⟨w.heap.size, G, cs, rfl, Nat.le_refl _, heap_alloc_new w.drew _, Nat.zero_le _, hGm, ?_, by simp⟩⟩, ((Below.refl w.heap.size w).drew).alloc (Nat.le_refl _) _⟩
      rw [← hcs]
      simp only [Array.size_append, List.size_toArray, List.length_nil, size_zeroCells]
      show 0 + n * 2 + (G - n) * 2 = G * 2
      omega
    have hn1 : 0 < (n : Int) := by omega
    have hw1 : IntKind.i64.wrap (n : Int) = (n : Int) := by rw [IntKind.wrap_i64]; omega
    clear hcs hGm hG
    go_enter Tryd.func93, Tryd.ntmps93
    go_wp2_with (at_builtin; refine Lib.wpList_append_run _ rfl _ _ _ _ rfl _ _ rfl rfl _ _ hrz ?_)
    go_wp2_with fail
    go_ret
    exact ⟨_, _, rfl, HE.out.1, HE.out.2⟩

/-- A row whose series lie where they lay. -/
def RowIn (w W : World) (ao : Option Addr) (l : List Sr) : Prop := ∀ i, i < l.length → ∃ b off, ao = some ⟨b, off, none⟩ ∧ b < W.heap.size ∧ ∃ lo lc so sc, W.cell? ⟨b, off + i * 2, none⟩ = some (.slice lo (atSr l i).1.length lc) ∧ W.cell? ⟨b, off + i * 2 + 1, none⟩ = some (.slice so (atSr l i).2.length sc) ∧ LRow w lo (atSr l i).1 ∧ SRow w so (atSr l i).2

/-- A row of series out of two. -/
theorem cat_row {w W : World} {base n : Nat} {v : Value} {xa xb : List (Value × Value)} {a b : List Sr} (ha : xa.length = a.length) (hb : xb.length = b.length) (hn : n = a.length + b.length) (h : W.ownsRow base 38 2 v n (flat xa ++ flat xb))
    (a1 : ∀ i, i < a.length → ∃ lo lc, (atX xa i).1 = .slice lo (atSr a i).1.length lc ∧ LOut w (fun _ => False) lo (atSr a i).1) (a2 : ∀ i, i < a.length → ∃ so sc, (atX xa i).2 = .slice so (atSr a i).2.length sc ∧ SOut w (fun _ => False) so (atSr a i).2)
    (b1 : ∀ i, i < b.length → ∃ lo lc, (atX xb i).1 = .slice lo (atSr b i).1.length lc ∧ LOut w (fun _ => False) lo (atSr b i).1) (b2 : ∀ i, i < b.length → ∃ so sc, (atX xb i).2 = .slice so (atSr b i).2.length sc ∧ SOut w (fun _ => False) so (atSr b i).2) :
    ∃ ro rc, v = .slice ro (a ++ b).length rc ∧ RowIn w W ro (a ++ b) ∧ ∀ ad, ro = some ad → base ≤ ad.block := by
  subst hn
  obtain ⟨ro, rc, e⟩ := own_slice h
  refine ⟨ro, rc, by rw [e, List.length_append], fun i hi => ?_, fun ad ea => (h.lt ad.block (by rw [e, ea]; rfl)).1⟩
  rw [← flat_append] at h
  have hi' : i < (xa ++ xb).length := by rw [List.length_append] at hi ⊢; omega
  have hpos : 0 < a.length + b.length := by rw [List.length_append] at hi; omega
  obtain ⟨g, cap, cur, e2, e3, hg, _⟩ := own_block h hpos
  obtain ⟨f0, f1⟩ := flat_get (xa ++ xb) i hi'
  have c0 := h.cells (g := g) e3 _ _ f0
  have c1 := h.cells (g := g) e3 _ _ f1
  rw [Addr.add_lit] at c0 c1
  rw [e] at e2
  cases e2
  have key : ∃ lo lc so sc, atX (xa ++ xb) i = (.slice lo (atSr (a ++ b) i).1.length lc, .slice so (atSr (a ++ b) i).2.length sc) ∧ LRow w lo (atSr (a ++ b) i).1 ∧ SRow w so (atSr (a ++ b) i).2 := by
    by_cases hlt : i < a.length
    · have q1 : atX (xa ++ xb) i = atX xa i := by
        unfold atX
        rw [List.getD_eq_getElem?_getD, List.getD_eq_getElem?_getD, List.getElem?_append_left (by omega)]
      have q2 : atSr (a ++ b) i = atSr a i := by
        unfold atSr
        rw [List.getD_eq_getElem?_getD, List.getD_eq_getElem?_getD, List.getElem?_append_left hlt]
      obtain ⟨lo, lc, r1, r2⟩ := a1 i hlt
      obtain ⟨so, sc, r3, r4⟩ := a2 i hlt
      rw [q1, q2]
      exact ⟨lo, lc, so, sc, by rw [← r1, ← r3], r2.1, r4.1⟩
    · have q1 : atX (xa ++ xb) i = atX xb (i - a.length) := by
        unfold atX
        rw [List.getD_eq_getElem?_getD, List.getD_eq_getElem?_getD, List.getElem?_append_right (by omega), ha]
      have q2 : atSr (a ++ b) i = atSr b (i - a.length) := by
        unfold atSr
        rw [List.getD_eq_getElem?_getD, List.getD_eq_getElem?_getD, List.getElem?_append_right (by omega)]
      have hlt2 : i - a.length < b.length := by rw [List.length_append] at hi; omega
      obtain ⟨lo, lc, r1, r2⟩ := b1 _ hlt2
      obtain ⟨so, sc, r3, r4⟩ := b2 _ hlt2
      rw [q1, q2]
      exact ⟨lo, lc, so, sc, by rw [← r1, ← r3], r2.1, r4.1⟩
  obtain ⟨lo, lc, so, sc, r1, r2, r3⟩ := key
  rw [r1] at c0 c1
  refine ⟨g, 0, rfl, heap_lt hg, lo, lc, so, sc, c0, ?_, r2, r3⟩
  rw [Nat.add_assoc]
  exact c1

set_option maxRecDepth 100000 in
set_option maxHeartbeats 3200000 in
theorem concat_any (ao bo : Option Addr) (a b : List Sr) (ca cb B : Nat) (w0 w : World) (hk0 : Below w0.heap.size w0 w) (hA : SrRow w0 ao a) (hB : SrRow w0 bo b) (hna : ao = none → ca = 0) (hnb : bo = none → cb = 0) (hla : a.length ≤ 400) (hlb : b.length ≤ 400) (hX : w.heap[B]? = some (.cells #[.slice ao a.length ca, .slice bo b.length cb] 27)) :
    Calls Tryd.prog 56 #[.slice (some ⟨B, 0, none⟩) 2 2] w fun e w' => ∃ ro rc, e = .returned (.slice ro (a ++ b).length rc) ∧ RowIn w0 w' ro (a ++ b) ∧ (∀ ad, ro = some ad → w.heap.size ≤ ad.block) ∧ Below w.heap.size w w' := by
  have HK0 := hid hk0
  obtain ⟨xa, xa1, xa2, xa3, xa4, xa5⟩ := (SrOut.of_row (Z := fun _ => False) hA (fun _ h => h.elim)).cellsP
  obtain ⟨xb, xb1, xb2, xb3, xb4, xb5⟩ := (SrOut.of_row (Z := fun _ => False) hB (fun _ h => h.elim)).cellsP
  obtain ⟨i0, hi0, hz0, hzs, hzb⟩ := sr_info
  have HI := hid (And.intro hi0 (And.intro hz0 (And.intro hzs hzb)))
  have k0 : w.cell? ⟨B, 0, none⟩ = some (.slice ao a.length ca) := zcell' _ _ _ _ hX 0 _ rfl
  have k1 : w.cell? ⟨B, 1, none⟩ = some (.slice bo b.length cb) := zcell' _ _ _ _ hX 1 _ rfl
  have HX := hid hX
  have HNa := hid (show ao = none → a.length = 0 ∧ ca = 0 from fun e => ⟨xa3 e, hna e⟩)
  have HNb := hid (show bo = none → b.length = 0 ∧ cb = 0 from fun e => ⟨xb3 e, hnb e⟩)
  have HCa := hid xa2
  have HCb := hid xb2
  have HOa := hid (flat_slicesP xa1 xa4 xa5)
  have HOb := hid (flat_slicesP xb1 xb4 xb5)
  have HEnd := hid (fun (W : World) (base : Nat) (v : Value) (h : W.ownsRow base 38 2 v (a.length + b.length) (flat xa ++ flat xb)) => cat_row xa1 xb1 rfl h xa4 xa5 xb4 xb5)
  have hfa : (flat xa).length = a.length * 2 := by rw [flat_length, xa1]
  have hfb : (flat xb).length = b.length * 2 := by rw [flat_length, xb1]
  have HFa := hid hfa
  have HFb := hid hfb
  have HBa := hid (show ∀ ad, ao = some ad → 0 < a.length → ad.block < w0.heap.size from fun ad e h => by
    obtain ⟨b', off, e', hb, _⟩ := hA 0 h
    rw [e] at e'
    cases e'
    exact hb)
  have HBb := hid (show ∀ ad, bo = some ad → 0 < b.length → ad.block < w0.heap.size from fun ad e h => by
    obtain ⟨b', off, e', hb, _⟩ := hB 0 h
    rw [e] at e'
    cases e'
    exact hb)
  clear hk0 hA hB hna hnb hi0 hz0 hzs hzb xa1 xa2 xa3 xa4 xa5 xb1 xb2 xb3 xb4 xb5 hfa hfb hX
  generalize a.length = na at *
  generalize b.length = nb at *
  go_enter Tryd.func56, Tryd.ntmps56
  have n1 : ¬ (na : Int) < 0 := by omega
  have n2 : ¬ (na : Int) + (nb : Int) < 0 := by omega
  have n3 : IntKind.i64.wrap (na : Int) = (na : Int) := by rw [IntKind.wrap_i64]; omega
  have n4 : IntKind.i64.wrap ((na : Int) + (nb : Int)) = (na : Int) + (nb : Int) := by rw [IntKind.wrap_i64]; omega
  go_wp2_with fail
  refine wp_loop_rounds 3 ?_
  rw [rounds_succ]
  go_wp2_with fail
  rw [rounds_succ]
  go_wp2_with fail
  rw [rounds_succ]
  go_wp2_with fail
  have hgr := grow_nil (na + nb) w (by omega)
  rw [Int.natCast_add] at hgr
  refine hgr.mono ?_
  rintro e w1 ⟨ro, rc, rfl, ho1, hb1⟩
  have q0 : w1.cell? ⟨B, 0, none⟩ = some (.slice ao na ca) := (hb1.cell (p := ⟨B, 0, none⟩) (heap_lt HX.out)).trans k0
  have q1 : w1.cell? ⟨B, 1, none⟩ = some (.slice bo nb cb) := (hb1.cell (p := ⟨B, 1, none⟩) (heap_lt HX.out)).trans k1
  have HB1 := hid hb1
  have HO1 := hid ho1
  have HC1 : Hid (∀ ad, ao = some ad → ∀ j u, (flat xa)[j]? = some u → w1.cell? (ad.add j) = some u) := fun ad e j u hj => by
    have hpos : 0 < na := by
      have := (List.getElem?_eq_some_iff.1 hj).1
      rw [HFa.out] at this
      omega
    have hbk : (ad.add j).block = ad.block := by unfold Addr.add; split <;> rfl
    exact (World.cell?_of_block (a := ad.add j) (by rw [hbk]; exact (bel2 HK0.out HB1.out).block _ (HBa.out ad e hpos))).trans (HCa.out ad e j u hj)
  clear hgr hb1 ho1 k0 k1 n1 n2 n3 n4
  go_wp2_with fail
  refine wp_loop_rounds 3 ?_
  rw [rounds_succ]
  go_wp2_with (at_builtin; refine wpList_append_src _ rfl (.tmp 31) (.tmp 32) 27 rfl w.heap.size 38 i0 (.agg #[.slice none 0 0, .slice none 0 0]) 2 48 Tryd.uSrs HI.out.1 HI.out.2.1 HI.out.2.2.1 HI.out.2.2.2 rfl (by decide) _ 0 [] rfl HO1.out ao na ca (flat xa) rfl HFa.out HNa.out HC1.out HOa.out (by unfold maxLen; omega) (by omega) HB1.out.size ?_)
  intro v2 w2 ho2 hg2
  have hfar : ∀ g, (Value.slice ro 0 rc).ownBlock = some g → w.heap.size ≤ g := fun g e => (HO1.out.lt g e).1
  have HB2 := hid (HB1.out.grown hg2 HB1.out.size hfar)
  have HO2 := hid ho2
  have hBw := heap_lt HX.out
  have r1 : w2.cell? ⟨B, 1, none⟩ = some (.slice bo nb cb) := (HB2.out.cell (p := ⟨B, 1, none⟩) hBw).trans (zcell' _ _ _ _ HX.out 1 _ rfl)
  have HC2 : Hid (∀ ad, bo = some ad → ∀ j u, (flat xb)[j]? = some u → w2.cell? (ad.add j) = some u) := fun ad e j u hj => by
    have hpos : 0 < nb := by
      have := (List.getElem?_eq_some_iff.1 hj).1
      rw [HFb.out] at this
      omega
    have hbk : (ad.add j).block = ad.block := by unfold Addr.add; split <;> rfl
    exact (World.cell?_of_block (a := ad.add j) (by rw [hbk]; exact (bel2 HK0.out HB2.out).block _ (HBb.out ad e hpos))).trans (HCb.out ad e j u hj)
  obtain ⟨va, vc, ev⟩ := own_slice ho2
  subst ev
  clear hg2 ho2 hfar HC1 HO1 HB1 q0 q1
  go_wp2_with fail
  rw [rounds_succ]
  go_wp2_with (at_builtin; refine wpList_append_src _ rfl (.tmp 31) (.tmp 32) 27 rfl w.heap.size 38 i0 (.agg #[.slice none 0 0, .slice none 0 0]) 2 48 Tryd.uSrs HI.out.1 HI.out.2.1 HI.out.2.2.1 HI.out.2.2.2 rfl (by decide) _ na (flat xa) rfl HO2.out bo nb cb (flat xb) rfl HFb.out HNb.out HC2.out HOb.out (by unfold maxLen; omega) (by omega) HB2.out.size ?_)
  intro v3 w3 ho3 hg3
  have HB3 := hid (HB2.out.grown hg3 HB2.out.size (fun g e => (HO2.out.lt g e).1))
  have HE3 := hid (HEnd.out w3 _ _ ho3)
  obtain ⟨vb, vd, ev⟩ := own_slice ho3
  subst ev
  clear hg3 ho3 HC2 HO2 HB2 r1
  go_wp2_with fail
  rw [rounds_succ]
  go_wp2_with fail
  go_ret
  obtain ⟨ro', rc', e1, e2, e3⟩ := HE3.out
  exact ⟨ro', rc', by rw [← e1]; rfl, e2, e3, HB3.out⟩

end Go.Proofs.YtdmnlmohfaafoaeDoor

