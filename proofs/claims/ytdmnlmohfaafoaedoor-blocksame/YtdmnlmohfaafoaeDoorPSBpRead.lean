/- What block.Read tells. -/
import Derived.Test.YtdmnlmohfaafoaeDoorPSBpRight
import Derived.Test.YtdmnlmohfaafoaeDoorPSBkByt
import Derived.Test.YtdmnlmohfaafoaeDoorPSCrAll
namespace Go.Proofs.YtdmnlmohfaafoaeDoor
open Go.RowKit

theorem psrown_set {W : World} {base b o : Nat} {v u : Value} {l : List Sr} {c : Array Value} (h : SrOwn W base v l) (hb : W.heap[b]? = some (.cells c 48)) : SrOwn (W.setCell ⟨b, o, none⟩ u) base v l := h.kept fun g c e he hg => by
  have hne : g ≠ b := fun e2 => by
    subst e2
    rw [hb] at hg
    simp only [Option.some.injEq, Obj.cells.injEq] at hg
    rw [← hg.2.1] at he
    revert he
    decide
  exact Below.heap_setCell _ ⟨b, o, none⟩ _ _ hne

theorem psrown_three {W : World} {base b : Nat} {v x y z p q s : Value} {l : List Sr} (h : SrOwn W base v l) (hb : W.heap[b]? = some (.cells #[x, y, z] 48)) : SrOwn (((W.setCell ⟨b, 0, none⟩ p).setCell ⟨b, 1, none⟩ q).setCell ⟨b, 2, none⟩ s) base v l :=
  psrown_set (psrown_set (psrown_set h hb) (heap_setCell_same _ _ 0 _ _ _ hb)) (heap_setCell_same _ _ 1 _ _ _ (heap_setCell_same _ _ 0 _ _ _ hb))

/-- On the way: what is told, the Reader, the block so far, and all that was there. -/
structure PdB (w W : World) (bb : Nat) (x y z : Value) (S : List UInt8) (bad : Bool) : Prop where
  res : W.heap[w.heap.size]? = some (.cells #[.int .i64 0, .int .i64 0, .slice none 0 0] 48)
  tk : RdI W (w.heap.size + 1) S bad
  box : W.heap[bb]? = some (.cells #[x, y, z] 48)
  far : w.heap.size + 1 < bb
  bel : Below w.heap.size w W

theorem PdB.but {w W W' : World} {bb : Nat} {x y z : Value} {S S' : List UInt8} {bad bad' : Bool} (h : PdB w W bb x y z S bad) (hb : But (w.heap.size + 1) W W') (ht : RdI W' (w.heap.size + 1) S' bad') : PdB w W' bb x y z S' bad' :=
  ⟨(hb.2.2.2.2 _ (heap_lt h.res) (by omega)).trans h.res, ht, (hb.2.2.2.2 _ (heap_lt h.box) (by have := h.far; omega)).trans h.box, h.far, ⟨hb.1.trans h.bel.os, hb.2.1.trans h.bel.tape, hb.2.2.1.trans h.bel.output, Nat.le_trans h.bel.size hb.2.2.2.1, fun j hj => (hb.2.2.2.2 j (Nat.lt_of_lt_of_le hj h.bel.size) (by omega)).trans (h.bel.block j hj)⟩⟩

theorem PdB.put {w W : World} {bb : Nat} {x y z x' y' z' : Value} {S : List UInt8} {bad : Bool} {o : Nat} {u : Value} (h : PdB w W bb x y z S bad) (e : (#[x, y, z] : Array Value).setIfInBounds o u = #[x', y', z']) : PdB w (W.setCell ⟨bb, o, none⟩ u) bb x' y' z' S bad := by
  have hf := h.far
  have h0 : w.heap.size ≠ bb := by omega
  have h1 : w.heap.size + 1 ≠ bb := by omega
  exact ⟨(Below.heap_setCell _ ⟨bb, o, none⟩ _ _ h0).trans h.res, (Below.heap_setCell _ ⟨bb, o, none⟩ _ _ h1).trans h.tk, by rw [← e]; exact heap_setCell_same _ _ o _ _ _ h.box, hf, h.bel.setCell (p := ⟨bb, o, none⟩) (by show w.heap.size ≤ bb; omega) _⟩

/-- Series that were read, and their numbers. -/
theorem read_rs {S r : List UInt8} {l : List (List CD.Lb × List CL.Smp)} (h : CD.rAll chD lbK S = some (l, r)) (hS : S.length ≤ 5000000) : (l.map toSr).length ≤ 5000000 ∧ ∀ i, i < (l.map toSr).length → ((atSr (l.map toSr) i).1.length ≤ 1000 ∧ (atSr (l.map toSr) i).2.length ≤ 100000) ∧ ∀ s ∈ (atSr (l.map toSr) i).2, CL.Rs s := by
  obtain ⟨h1, h2⟩ := rAll_few h
  refine ⟨by rw [List.length_map]; omega, fun i hi => ?_⟩
  rw [List.length_map] at hi
  obtain ⟨x, hx, e⟩ := atSr_map l i hi
  obtain ⟨h3, h4, h5⟩ := h2 x hx
  have h6 := chD_rs h5
  rw [e]
  have h7 : LB.right (toLab x.1) = true := h3
  have h8 := (of_decide_eq_true h7).2.1
  exact ⟨⟨by show (toLab x.1).length ≤ 1000; omega, by show x.2.length ≤ 100000; omega⟩, h6.2.2⟩

set_option maxRecDepth 100000 in
set_option maxHeartbeats 1600000 in
theorem prblk_any (s : List UInt8) (w : World) (hs : s.length ≤ 5000000) (hW : Wids w) (hG : 4 < w.heap.size) :
    Calls Tryd.prog 26 #[.string (sb s)] w fun e w' => PRBOwn w s e w' := by
  have hb1 : Below w.heap.size w ((w.alloc (.cells #[.int .i64 0, .int .i64 0, .slice none 0 0] 48)).alloc (.cells #[.string (sb s), .bool false] 155)) := ((Below.refl _ w).alloc (Nat.le_refl _) _).alloc (by simp) _
  have hsz : (w.alloc (.cells #[.int .i64 0, .int .i64 0, .slice none 0 0] 48)).heap.size = w.heap.size + 1 := by simp
  have hT1 : RdI ((w.alloc (.cells #[.int .i64 0, .int .i64 0, .slice none 0 0] 48)).alloc (.cells #[.string (sb s), .bool false] 155)) (w.heap.size + 1) s false := by
    have := heap_alloc_new (w.alloc (.cells #[.int .i64 0, .int .i64 0, .slice none 0 0] 48)) (.cells #[.string (sb s), .bool false] 155)
    rw [hsz] at this
    exact this
  have hR1 : ((w.alloc (.cells #[.int .i64 0, .int .i64 0, .slice none 0 0] 48)).alloc (.cells #[.string (sb s), .bool false] 155)).heap[w.heap.size]? = some (.cells #[.int .i64 0, .int .i64 0, .slice none 0 0] 48) := (Below.heap_alloc _ _ _ (by omega)).trans (heap_alloc_new w _)
  have HB1 := hid hb1
  have HT1 := hid hT1
  have HR1 := hid hR1
  have HF := hid (cfrom_any (sb s) (w.alloc (.cells #[.int .i64 0, .int .i64 0, .slice none 0 0] 48)))
  have HWd := hid hW
  have HGd := hid hG
  clear hb1 hT1 hR1 hW hG
  go_enter Tryd.func26, Tryd.ntmps26
  go_wp2_with fail
  refine HF.out.mono ?_
  rintro e w0 ⟨rfl, rfl⟩
  rw [hsz]
  clear HF hsz
  generalize (w.alloc (.cells #[.int .i64 0, .int .i64 0, .slice none 0 0] 48)).alloc (.cells #[.string (sb s), .bool false] 155) = w1 at HB1 HT1 HR1 ⊢
  have HD1 : Hid (PdB w (w1.alloc (.cells #[.int .i64 0, .int .i64 0, .slice none 0 0] 48)) w1.heap.size (.int .i64 0) (.int .i64 0) (.slice none 0 0) s false) := by
    have hal : Below w1.heap.size w1 (w1.alloc (.cells #[.int .i64 0, .int .i64 0, .slice none 0 0] 48)) := (Below.refl _ w1).alloc (Nat.le_refl _) _
    exact ⟨(hal.block _ (heap_lt HR1.out)).trans HR1.out, (hal.block _ (heap_lt HT1.out)).trans HT1.out, heap_alloc_new w1 _, heap_lt HT1.out, HB1.out.trans (hal.mono HB1.out.size)⟩
  clear HB1 HT1 HR1
  go_wp2_with fail
  generalize w1.alloc (.cells #[.int .i64 0, .int .i64 0, .slice none 0 0] 48) = w2 at HD1 ⊢
  generalize w1.heap.size = bb at HD1 ⊢
  refine (pnum_any (w.heap.size + 1) s false w2 HD1.out.tk (by omega)).mono ?_
  rintro e w3 ⟨rfl, hT2, hG2⟩
  obtain ⟨n1, S1, b1, hN1, hl1, hr1, hr1', hc1⟩ := tN_form s false
  rw [hN1] at hT2 ⊢
  dsimp only at hT2 ⊢
  have HD2 := hid (HD1.out.but (But.grown hG2) hT2)
  have HC1 : Hid ((b1 = false ∧ CD.rN s = some (n1, S1)) ∨ (b1 = true ∧ CD.rN s = none)) := by
    rcases hc1 with ⟨h1, _, h2⟩ | ⟨h1, h2⟩
    · exact .inl ⟨h1, h2⟩
    · rcases h2 with h2 | h2
      · cases h2
      · exact .inr ⟨h1, h2⟩
  clear hN1 hT2 hG2 HD1 hc1
  have q0 : w3.cell? ⟨bb, 0, none⟩ = some (.int .i64 0) := zcell1 _ _ _ _ HD2.out.box 0 _ rfl
  have f0 : w3.frozen? ⟨bb, 0, none⟩ = false := by have := HD2.out.box; simp [World.frozen?, this]
  have HD3 : Hid (PdB w (w3.setCell ⟨bb, 0, none⟩ (.int .i64 n1)) bb (.int .i64 n1) (.int .i64 0) (.slice none 0 0) S1 b1) := HD2.out.put rfl
  clear HD2
  go_wp2_with fail
  generalize w3.setCell ⟨bb, 0, none⟩ (.int .i64 n1) = w3' at HD3 ⊢
  clear q0 f0
  refine (pnum_any (w.heap.size + 1) S1 b1 w3' HD3.out.tk (by omega)).mono ?_
  rintro e w4 ⟨rfl, hT4, hG4⟩
  obtain ⟨n2, S2, b2, hN2, hl2, hr2, hr2', hc2⟩ := tN_form S1 b1
  rw [hN2] at hT4 ⊢
  dsimp only at hT4 ⊢
  have HD4 := hid (HD3.out.but (But.grown hG4) hT4)
  have HC2 := hid hc2
  clear hN2 hT4 hG4 HD3 hc2
  have q1 : w4.cell? ⟨bb, 1, none⟩ = some (.int .i64 0) := zcell1 _ _ _ _ HD4.out.box 1 _ rfl
  have f1 : w4.frozen? ⟨bb, 1, none⟩ = false := by have := HD4.out.box; simp [World.frozen?, this]
  have HD5 : Hid (PdB w (w4.setCell ⟨bb, 1, none⟩ (.int .i64 n2)) bb (.int .i64 n1) (.int .i64 n2) (.slice none 0 0) S2 b2) := HD4.out.put rfl
  clear HD4
  go_wp2_with fail
  generalize w4.setCell ⟨bb, 1, none⟩ (.int .i64 n2) = w5 at HD5 ⊢
  clear q1 f1
  have HW5 := hid (show Wids w5 from fun i hi => (HD5.out.bel.cell (p := ⟨4, i, none⟩) HGd.out).trans (HWd.out i hi))
  have HG5 := hid (Nat.lt_of_lt_of_le HGd.out HD5.out.bel.size)
  have HSer : Hid (Calls Tryd.prog 62 #[.pointer (some ⟨w.heap.size + 1, 0, none⟩)] w5 fun e w6 => ∃ ao ln cap, e = .returned (.slice ao ln cap) ∧ ∃ S3 b3, RdI w6 (w.heap.size + 1) S3 b3 ∧ But (w.heap.size + 1) w5 w6 ∧ ((b3 = false ∧ b2 = false ∧ ∃ l, CD.rAll chD lbK S2 = some (l, S3) ∧ SrOwn w6 w5.heap.size (.slice ao ln cap) (l.map toSr)) ∨ (b3 = true ∧ (b2 = true ∨ CD.rAll chD lbK S2 = none)))) := by
    rcases b2 with _ | _
    · refine (pser_any (w.heap.size + 1) S2 w5 HD5.out.tk (by omega) HW5.out HG5.out (by have := HGd.out; omega)).mono ?_
      rintro e w6 ⟨hbut, ⟨l, r, v, h1, rfl, h3, h4, _⟩ | ⟨h1, rfl, S', h3, _⟩⟩
      · obtain ⟨ao, cap, ev⟩ := own_slice h4.choose_spec.2.1
        exact ⟨ao, (l.map toSr).length, cap, by rw [ev], r, false, h3, hbut, .inl ⟨rfl, rfl, l, h1, by rw [← ev]; exact h4⟩⟩
      · exact ⟨none, 0, 0, rfl, S', true, h3, hbut, .inr ⟨rfl, .inr h1⟩⟩
    · refine (pser_bad (w.heap.size + 1) S2 w5 HD5.out.tk (by omega)).mono ?_
      rintro e w6 ⟨rfl, h3, hbut⟩
      exact ⟨none, 0, 0, rfl, S2, true, h3, hbut, .inr ⟨rfl, .inl rfl⟩⟩
  refine HSer.out.mono ?_
  rintro e w6 ⟨ao, ln, cap, rfl, S3, b3, hT6, hbut, hc3⟩
  have HD6 := hid (HD5.out.but hbut hT6)
  have hw5 := HD5.out.bel.size
  have HC3 := hid hc3
  clear hT6 hbut HSer HD5 hc3 HW5 HG5
  have q2 : w6.cell? ⟨bb, 2, none⟩ = some (.slice none 0 0) := zcell1 _ _ _ _ HD6.out.box 2 _ rfl
  have f2 : w6.frozen? ⟨bb, 2, none⟩ = false := by have := HD6.out.box; simp [World.frozen?, this]
  have HD7 : Hid (PdB w (w6.setCell ⟨bb, 2, none⟩ (.slice ao ln cap)) bb (.int .i64 n1) (.int .i64 n2) (.slice ao ln cap) S3 b3) := HD6.out.put rfl
  have HC7 : Hid ((b3 = false ∧ b2 = false ∧ ∃ l, CD.rAll chD lbK S2 = some (l, S3) ∧ SrOwn (w6.setCell ⟨bb, 2, none⟩ (.slice ao ln cap)) w.heap.size (.slice ao ln cap) (l.map toSr)) ∨ (b3 = true ∧ (b2 = true ∨ CD.rAll chD lbK S2 = none))) := by
    rcases HC3.out with ⟨h1, h2, l, h3, h4⟩ | h
    · exact .inl ⟨h1, h2, l, h3, psrown_set (h4.low hw5) HD6.out.box⟩
    · exact .inr h
  clear HD6 HC3
  go_wp2_with fail
  generalize w6.setCell ⟨bb, 2, none⟩ (.slice ao ln cap) = w7 at HD7 HC7 ⊢
  clear q2 f2
  refine (done_any (w.heap.size + 1) S3 b3 w7 HD7.out.tk).mono ?_
  rintro e w7' ⟨rfl, rfl⟩
  have m0 : w7'.cell? ⟨bb, 0, none⟩ = some (.int .i64 n1) := zcell1 _ _ _ _ HD7.out.box 0 _ rfl
  have m1 : w7'.cell? ⟨bb, 1, none⟩ = some (.int .i64 n2) := zcell1 _ _ _ _ HD7.out.box 1 _ rfl
  have m2 : w7'.cell? ⟨bb, 2, none⟩ = some (.slice ao ln cap) := zcell1 _ _ _ _ HD7.out.box 2 _ rfl
  have r0 : w7'.cell? ⟨w.heap.size, 0, none⟩ = some (.int .i64 0) := zcell1 _ _ _ _ HD7.out.res 0 _ rfl
  have r1 : w7'.cell? ⟨w.heap.size, 1, none⟩ = some (.int .i64 0) := zcell1 _ _ _ _ HD7.out.res 1 _ rfl
  have r2 : w7'.cell? ⟨w.heap.size, 2, none⟩ = some (.slice none 0 0) := zcell1 _ _ _ _ HD7.out.res 2 _ rfl
  have g0 : w7'.frozen? ⟨w.heap.size, 0, none⟩ = false := by have := HD7.out.res; simp [World.frozen?, this]
  have g1 : w7'.frozen? ⟨w.heap.size, 1, none⟩ = false := by have := HD7.out.res; simp [World.frozen?, this]
  have g2 : w7'.frozen? ⟨w.heap.size, 2, none⟩ = false := by have := HD7.out.res; simp [World.frozen?, this]
  rcases b3 with _ | _
  · obtain ⟨_, hb2, l, hrA, hOwn⟩ | ⟨h, _⟩ := HC7.out
    · have HBk := hid (rBlk_some HC1.out HC2.out hb2 hrA)
      obtain ⟨hlm, hli⟩ := read_rs hrA (by omega)
      obtain ⟨vo, vc, ev, hSr⟩ := SrRow.of_own hOwn
      simp only [Value.slice.injEq] at ev
      obtain ⟨e1, e2, e3⟩ := ev
      subst e1 e2 e3
      have HOwn := hid hOwn
      have HRt := hid (bright_any ao (l.map toSr) cap n1 n2 w7' hSr hlm (fun i hi => (hli i hi).1) (fun i hi => (hli i hi).2))
      clear hSr hOwn hrA hli HC7 HC1 HC2 hb2 hlm
      generalize hLL : l.map toSr = LL at *
      have HLL := hid hLL
      clear hLL
      rcases S3 with _ | ⟨x, S3⟩
      · have e0 : (!false && decide (([] : List UInt8) = [])) = true := by simp
        rw [e0]
        go_wp2_with fail
        refine HRt.out.mono ?_
        rintro e w8 ⟨rfl, hb8⟩
        have HE8 := hid (HD7.out.bel.trans (hb8.mono HD7.out.bel.size))
        have hR8 := (hb8.block _ (heap_lt HD7.out.res)).trans HD7.out.res
        have hX8 := (hb8.block _ (heap_lt HD7.out.box)).trans HD7.out.box
        have HR8 := hid hR8
        have k0 : w8.cell? ⟨bb, 0, none⟩ = some (.int .i64 n1) := zcell1 _ _ _ _ hX8 0 _ rfl
        have k1 : w8.cell? ⟨bb, 1, none⟩ = some (.int .i64 n2) := zcell1 _ _ _ _ hX8 1 _ rfl
        have k2 : w8.cell? ⟨bb, 2, none⟩ = some (.slice ao LL.length cap) := zcell1 _ _ _ _ hX8 2 _ rfl
        have t0 : w8.cell? ⟨w.heap.size, 0, none⟩ = some (.int .i64 0) := zcell1 _ _ _ _ hR8 0 _ rfl
        have t1 : w8.cell? ⟨w.heap.size, 1, none⟩ = some (.int .i64 0) := zcell1 _ _ _ _ hR8 1 _ rfl
        have t2 : w8.cell? ⟨w.heap.size, 2, none⟩ = some (.slice none 0 0) := zcell1 _ _ _ _ hR8 2 _ rfl
        have y0 : w8.frozen? ⟨w.heap.size, 0, none⟩ = false := by simp [World.frozen?, hR8]
        have y1 : w8.frozen? ⟨w.heap.size, 1, none⟩ = false := by simp [World.frozen?, hR8]
        have y2 : w8.frozen? ⟨w.heap.size, 2, none⟩ = false := by simp [World.frozen?, hR8]
        have HOw8 := hid (HOwn.out.below hb8)
        clear hb8 hR8 hX8 HRt HD7 m0 m1 m2 r0 r1 r2 g0 g1 g2 e0
        rcases hrt : BK.right n1 n2 LL with _ | _
        · have HN := hid (show rBlk s = none by rw [HBk.out, if_neg (by simp [hrt])])
          clear hrt
          go_wp2_with fail
          refine bodyPost_ret (results_cell_one (P := Tryd.prog) rfl _ _ w.heap.size 48 _ (0, 0) _ rfl (set_three HR8.out) Tryd.underlying48 rfl (by kernel_rfl)) rfl ?_
          exact ⟨bel_three HE8.out, .inr ⟨HN.out, rfl⟩⟩
        · have HY := hid (show rBlk s = some (n1, n2, l) by rw [HBk.out, if_pos (by simp [hrt])])
          clear hrt
          go_wp2_with fail
          refine bodyPost_ret (results_cell_one (P := Tryd.prog) rfl _ _ w.heap.size 48 _ (0, 0) _ rfl (set_three HR8.out) Tryd.underlying48 rfl (by kernel_rfl)) rfl ?_
          exact ⟨bel_three HE8.out, .inl ⟨n1, n2, l, _, HY.out, rfl, by rw [HLL.out]; exact psrown_three HOw8.out HR8.out⟩⟩
      · have e0 : (!false && decide (x :: S3 = [])) = false := by simp
        rw [e0]
        have HN := hid (show rBlk s = none by rw [HBk.out, if_neg (by simp)])
        have HR8 := hid HD7.out.res
        have HE8 := hid HD7.out.bel
        clear HD7 HRt e0
        go_wp2_with fail
        refine bodyPost_ret (results_cell_one (P := Tryd.prog) rfl _ _ w.heap.size 48 _ (0, 0) _ rfl (set_three HR8.out) Tryd.underlying48 rfl (by kernel_rfl)) rfl ?_
        exact ⟨bel_three HE8.out, .inr ⟨HN.out, rfl⟩⟩
    · cases h
  · obtain ⟨h, _⟩ | ⟨_, hbad⟩ := HC7.out
    · cases h
    · have HN := hid (rBlk_none HC1.out HC2.out hbad)
      have HR8 := hid HD7.out.res
      have HE8 := hid HD7.out.bel
      simp only [Bool.not_true, Bool.false_and]
      clear HD7 HC7 hbad HC1 HC2
      go_wp2_with fail
      refine bodyPost_ret (results_cell_one (P := Tryd.prog) rfl _ _ w.heap.size 48 _ (0, 0) _ rfl (set_three HR8.out) Tryd.underlying48 rfl (by kernel_rfl)) rfl ?_
      exact ⟨bel_three HE8.out, .inr ⟨HN.out, rfl⟩⟩

end Go.Proofs.YtdmnlmohfaafoaeDoor

