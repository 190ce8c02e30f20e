/- What roll.gather does with a row of buckets of one's own. -/
import Derived.Test.YtdmnlmohfaafoabDoorRlMem
import Derived.Deep.RegionLaw
import Derived.Laws.AppendOwnNone
namespace Go.Proofs.YtdmnlmohfaafoabDoor
open Go.RowKit

theorem own_sliceB {w : World} {base n : Nat} {v : Value} {xs : List Value} (h : w.ownsRow base 72 5 v n xs) : ∃ ao cap, v = .slice ao n cap := by
  rcases h.2 with ⟨h, hn⟩ | ⟨g, cap, cur, h, _⟩
  · exact ⟨none, 0, by rw [h, hn]⟩
  · exact ⟨_, _, h⟩

theorem grown_box {w w' : World} {o : Obj} {row : Option Nat} (h : (w.alloc o).grownBy w' row) : w.grownBy w' row := grown_trans (World.grownBy_alloc w o row) h

theorem grown_box2 {w w' : World} {o o2 : Obj} {row : Option Nat} (h : ((w.alloc o).alloc o2).grownBy w' row) : w.grownBy w' row := grown_box (grown_box h)

/-- A row of one's own whose last bucket is y, and a bucket of one's own. -/
def GSt (w0 : World) (base g cap : Nat) (L : List CL.Bkt) (x : CL.Bkt) (B : Nat) (w : World) (y : CL.Bkt) : Prop :=
  w.ownsRow base 72 5 (.slice (some ⟨g, 0, none⟩) (L.length + 1) cap) (L.length + 1) (bv (L ++ [y])) ∧ Five w B 0 x ∧ w0.grownBy w (some g) ∧ B < w.heap.size ∧ g ≠ B

theorem GSt.drewN {w0 w : World} {base g cap B : Nat} {L : List CL.Bkt} {x y : CL.Bkt} (h : GSt w0 base g cap L x B w y) (n : Nat) : GSt w0 base g cap L x B (w.drewN n) y :=
  ⟨own_drewN h.1 n, h.2.1.kept rfl, grown_drewN h.2.2.1 n, h.2.2.2.1, h.2.2.2.2⟩

theorem GSt.drew {w0 w : World} {base g cap B : Nat} {L : List CL.Bkt} {x y : CL.Bkt} (h : GSt w0 base g cap L x B w y) : GSt w0 base g cap L x B w.drew y := h.drewN 1

theorem GSt.set {w0 w : World} {base g cap B : Nat} {L : List CL.Bkt} {x y z : CL.Bkt} (h : GSt w0 base g cap L x B w y) (j : Nat) (u : Value) (e : (cb y).set j u = cb z) : GSt w0 base g cap L x B (w.setCell ⟨g, L.length * 5 + j, none⟩ u) z := by
  obtain ⟨h1, h2, h3, h4, h5⟩ := h
  have s := own_set (ys := bv (L ++ [z])) (j := L.length * 5 + j) (u := u) h1 (by
    rw [bv_append, bv_append, bv_one, bv_one, set_tail _ _ _ (bv_length L), e])
  exact ⟨s.1, h2.grown h4 s.2 (fun e => h5 (Option.some.inj e)), grown_trans h3 s.2, by simpa using h4, h5⟩

theorem GSt.cells {w0 w : World} {base g cap B : Nat} {L : List CL.Bkt} {x y : CL.Bkt} (h : GSt w0 base g cap L x B w y) : Five w g (L.length * 5) y ∧ Five w B 0 x ∧ ∀ j, w.frozen? ⟨g, j, none⟩ = false := by
  refine ⟨?_, h.2.1, fun j => h.1.frozenAt j⟩
  have := own_five (l := L ++ [y]) (by simp) h.1 L.length (by simp)
  have e : atB (L ++ [y]) L.length = y := by simp [atB]
  rwa [e] at this

set_option maxRecDepth 100000 in
set_option maxHeartbeats 1600000 in
theorem gather_any (v : Value) (base : Nat) (l : List CL.Bkt) (x : CL.Bkt) (w : World) (hown : w.ownsRow base 72 5 v l.length (bv l)) (hl : l.length ≤ 1000) (hbase : base ≤ w.heap.size) :
    Calls Tryd.prog 32 #[v, aggB x] w fun e w' => ∃ v', e = .returned v' ∧ w'.ownsRow base 72 5 v' (CL.gath l x).length (bv (CL.gath l x)) ∧ w.grownBy w' v.ownBlock := by
  obtain ⟨ii, hi, hi'⟩ := Option.map_eq_some_iff.1 Tryd.info72
  simp only [Prod.mk.injEq] at hi'
  obtain ⟨hz0, hz1, hz2⟩ := hi'
  have HI0 := hid hi
  have HZ0 := hid hz0
  have HZ1 := hid hz1
  have HZ2 := hid hz2
  clear hi hz0 hz1 hz2
  rcases l.eq_nil_or_concat with rfl | ⟨L, c, rfl⟩
  · have HO := hid hown
    obtain ⟨ao, cap, rfl⟩ := own_sliceB hown
    clear hown
    go_enter Tryd.func32, Tryd.ntmps32
    go_wp2_with fail
    go_quiet (fail)
    generalize hw1 : w.alloc (.cells #[.int .i64 x.st, .int .i64 x.ct, .int .i64 x.sm, .int .i64 x.mn, .int .i64 x.mx] 72) = w1
    have HW : Hid (w.grownBy w1 (Value.slice ao 0 cap).ownBlock) := by
      show World.grownBy _ _ _
      rw [← hw1]; exact World.grownBy_alloc w _ _
    have HO1 : Hid (w1.ownsRow base 72 5 (.slice ao 0 cap) 0 []) := by
      show World.ownsRow _ _ _ _ _ _ _
      rw [← hw1]; exact HO.out.alloc _
    obtain ⟨d0, d1, d2, d3, d4⟩ := Five.new w x
    have hs1 : w.heap.size + 1 ≤ w1.heap.size := by rw [← hw1]; simp
    rw [show w.alloc (boxB x) = w1 from hw1] at d0 d1 d2 d3 d4
    clear hw1 HO
    go_wp2_with (at_builtin; refine wpList_append_own _ rfl (.tmp 21) (.tmp 23) 37 rfl base 72 ii (.agg #[.int .i64 0, .int .i64 0, .int .i64 0, .int .i64 0, .int .i64 0]) 5 40 Tryd.underlying37 HI0.out HZ0.out HZ1.out HZ2.out rfl (by decide) _ 0 [] rfl ((own_drewN HO1.out nq).alloc _) ⟨w1.heap.size, 0, none⟩ 1 1 (cb x) rfl rfl (five_news (w1.drewN nq) x) (cb_i64 x) (by unfold maxLen; omega) (by omega) (by simp; omega) ?_; intro v7 w7 hown7 hgrow7 _; have HO7 := hid hown7; have HG7 := hid (grown_trans (grown_drewN HW.out nq) (grown_box hgrow7)); clear hown7 hgrow7)
    go_ret
    exact ⟨_, rfl, HO7.out, HG7.out⟩
  · rw [List.concat_eq_append] at hown hl ⊢
    have hn : (L ++ [c]).length = L.length + 1 := by simp
    rw [hn] at hown hl
    obtain ⟨g, cap, rfl, hc1, hc2, hg1, hg2⟩ := own_formB hown (by omega)
    have hF := own_five (by simp) hown L.length (by simp)
    have ha : atB (L ++ [c]) L.length = c := by simp [atB]
    rw [ha] at hF
    have HO1 := hid (hown.alloc (boxB x))
    obtain ⟨f0, f1, f2, f3, f4⟩ := hF.alloc hg2 (boxB x)
    obtain ⟨d0, d1, d2, d3, d4⟩ := Five.new w x
    have hgn : g ≠ w.heap.size := by omega
    have hz : ((L.length : Int) + 1 == 0) = false := by simp; omega
    have hwL : IntKind.i64.wrap (L.length : Int) = L.length := by rw [IntKind.wrap_i64]; omega
    clear hown hF ha
    have hs1 : w.heap.size + 1 ≤ (w.alloc (boxB x)).heap.size := by simp
    have HW : Hid (w.grownBy (w.alloc (boxB x)) (some g)) := World.grownBy_alloc w _ _
    by_cases he : c.st = x.st
    · have hne : (c.st != x.st) = false := by simp [he]
      go_enter Tryd.func32, Tryd.ntmps32
      go_wp2_with fail
      generalize w.alloc (.cells #[.int .i64 x.st, .int .i64 x.ct, .int .i64 x.sm, .int .i64 x.mn, .int .i64 x.mx] 72) = w1 at *
      go_quiet (fail)
      have HG1 : Hid (GSt w base g cap L x w.heap.size w1 c) := ⟨HO1.out, ⟨d0, d1, d2, d3, d4⟩, HW.out, by omega, hgn⟩
      go_wp2_with fail
      have HG2 := hid (HG1.out.drewN nq)
      clear f0 f1 f2 f3 f4 d0 d1 d2 d3 d4 HO1 HW hs1 HG1 hc1 hc2 hg1 hgn
      generalize w.heap.size = B at *
      generalize w1.drewN nq = w2 at *
      obtain ⟨⟨f0, f1, f2, f3, f4⟩, ⟨d0, d1, d2, d3, d4⟩, fz⟩ := HG2.out.cells
      refine wp_region_still_tail 9 (by kernel_rfl) (by kernel_rfl) ?_
      simp only [List.take_succ_cons, List.take_zero, List.drop_succ_cons, List.drop_zero]
      iterate 9 still_step
      refine wpStill_nil ?_
      go_wp2_with fail
      have HG3 : Hid (GSt w base g cap L x B (w2.setCell ⟨g, L.length * 5 + 1, none⟩ (.int .i64 (wrap64 (c.ct + x.ct)))).drew ⟨c.st, wrap64 (c.ct + x.ct), c.sm, c.mn, c.mx⟩) := hid ((HG2.out.set (z := ⟨c.st, wrap64 (c.ct + x.ct), c.sm, c.mn, c.mx⟩) 1 (.int .i64 (wrap64 (c.ct + x.ct))) rfl).drew)
      clear HG2 f0 f1 f2 f3 f4 d0 d1 d2 d3 d4 fz
      generalize (w2.setCell ⟨g, L.length * 5 + 1, none⟩ (.int .i64 (wrap64 (c.ct + x.ct)))).drew = w3 at *
      obtain ⟨⟨f0, f1, f2, f3, f4⟩, ⟨d0, d1, d2, d3, d4⟩, fz⟩ := HG3.out.cells
      simp only at f0 f1 f2 f3 f4
      refine wp_region_still_tail 9 (by kernel_rfl) (by kernel_rfl) ?_
      simp only [List.take_succ_cons, List.take_zero, List.drop_succ_cons, List.drop_zero]
      iterate 9 still_step
      refine wpStill_nil ?_
      go_wp2_with fail
      have HG4 : Hid (GSt w base g cap L x B (w3.setCell ⟨g, L.length * 5 + 2, none⟩ (.int .i64 (wrap64 (c.sm + x.sm)))).drew ⟨c.st, wrap64 (c.ct + x.ct), wrap64 (c.sm + x.sm), c.mn, c.mx⟩) := hid ((HG3.out.set (z := ⟨c.st, wrap64 (c.ct + x.ct), wrap64 (c.sm + x.sm), c.mn, c.mx⟩) 2 (.int .i64 (wrap64 (c.sm + x.sm))) rfl).drew)
      clear HG3 f0 f1 f2 f3 f4 d0 d1 d2 d3 d4 fz
      generalize (w3.setCell ⟨g, L.length * 5 + 2, none⟩ (.int .i64 (wrap64 (c.sm + x.sm)))).drew = w4 at *
      obtain ⟨⟨f0, f1, f2, f3, f4⟩, ⟨d0, d1, d2, d3, d4⟩, fz⟩ := HG4.out.cells
      simp only at f0 f1 f2 f3 f4
      refine wp_region_still_tail 10 (by kernel_rfl) (by kernel_rfl) ?_
      simp only [List.take_succ_cons, List.take_zero, List.drop_succ_cons, List.drop_zero]
      iterate 10 still_step
      refine wpStill_nil ?_
      have hmn : (if x.mn < c.mn then x.mn else c.mn) = min c.mn x.mn := by split <;> omega
      rw [hmn]
      clear hmn
      generalize hMN : min c.mn x.mn = MN
      have HMN := hid hMN
      clear hMN
      go_wp2_with fail
      have HG5 : Hid (GSt w base g cap L x B (w4.setCell ⟨g, L.length * 5 + 3, none⟩ (.int .i64 MN)).drew ⟨c.st, wrap64 (c.ct + x.ct), wrap64 (c.sm + x.sm), MN, c.mx⟩) := hid ((HG4.out.set (z := ⟨c.st, wrap64 (c.ct + x.ct), wrap64 (c.sm + x.sm), MN, c.mx⟩) 3 (.int .i64 MN) rfl).drew)
      clear HG4 f0 f1 f2 f3 f4 d0 d1 d2 d3 d4 fz
      generalize (w4.setCell ⟨g, L.length * 5 + 3, none⟩ (.int .i64 MN)).drew = w5 at *
      obtain ⟨⟨f0, f1, f2, f3, f4⟩, ⟨d0, d1, d2, d3, d4⟩, fz⟩ := HG5.out.cells
      simp only at f0 f1 f2 f3 f4
      refine wp_region_still_tail 10 (by kernel_rfl) (by kernel_rfl) ?_
      simp only [List.take_succ_cons, List.take_zero, List.drop_succ_cons, List.drop_zero]
      iterate 10 still_step
      refine wpStill_nil ?_
      have hmx : (if c.mx < x.mx then x.mx else c.mx) = max c.mx x.mx := by split <;> omega
      rw [hmx]
      clear hmx
      generalize hMX : max c.mx x.mx = MX
      have HMX := hid hMX
      clear hMX
      go_wp2_with fail
      go_ret
      have HG6 : Hid (GSt w base g cap L x B (w5.setCell ⟨g, L.length * 5 + 4, none⟩ (.int .i64 MX)).drew ⟨c.st, wrap64 (c.ct + x.ct), wrap64 (c.sm + x.sm), MN, MX⟩) := hid ((HG5.out.set (z := ⟨c.st, wrap64 (c.ct + x.ct), wrap64 (c.sm + x.sm), MN, MX⟩) 4 (.int .i64 MX) rfl).drew)
      refine ⟨_, rfl, ?_, HG6.out.2.2.1⟩
      rw [CL.gath_snoc, if_pos he]
      have e2 : (L ++ [CL.put c x]).length = L.length + 1 := by simp
      have e3 : CL.put c x = ⟨c.st, wrap64 (c.ct + x.ct), wrap64 (c.sm + x.sm), MN, MX⟩ := by
        rw [W_wrap64, W_wrap64, ← HMN.out, ← HMX.out]; rfl
      rw [e2, e3]
      exact HG6.out.1
    · have hne : (c.st != x.st) = true := by simp [he]
      go_enter Tryd.func32, Tryd.ntmps32
      go_wp2_with fail
      generalize w.alloc (.cells #[.int .i64 x.st, .int .i64 x.ct, .int .i64 x.sm, .int .i64 x.mn, .int .i64 x.mx] 72) = w1 at *
      go_quiet (fail)
      go_wp2_with (at_builtin; refine wpList_append_own _ rfl (.tmp 21) (.tmp 23) 37 rfl base 72 ii (.agg #[.int .i64 0, .int .i64 0, .int .i64 0, .int .i64 0, .int .i64 0]) 5 40 Tryd.underlying37 HI0.out HZ0.out HZ1.out HZ2.out rfl (by decide) _ (L.length + 1) (bv (L ++ [c])) rfl ((own_drewN HO1.out nq).alloc _) ⟨w1.heap.size, 0, none⟩ 1 1 (cb x) rfl rfl (five_news (w1.drewN nq) x) (cb_i64 x) (by unfold maxLen; omega) (by omega) (by simp; omega) ?_; intro v7 w7 hown7 hgrow7 _; have HO7 := hid hown7; have HG7 := hid (grown_trans (grown_drewN HW.out nq) (grown_box hgrow7)); clear hown7 hgrow7)
      go_ret
      refine ⟨_, rfl, ?_, HG7.out⟩
      rw [CL.gath_snoc, if_neg he]
      have e2 : L ++ [c, x] = (L ++ [c]) ++ [x] := by simp
      rw [e2, bv_append, bv_one, List.length_append, hn]
      exact HO7.out

end Go.Proofs.YtdmnlmohfaafoabDoor
