/- The document's ReadBlock. -/
import Derived.Test.YtdmnlmohfaafoaeGreatDoorPTBkRefRC
import Derived.Test.YtdmnlmohfaafoaeGreatDoorPTCdTake
import Derived.Test.YtdmnlmohfaafoaeGreatDoorPTBkByt
import Derived.Deep.CutRange
namespace Go.Proofs.YtdmnlmohfaafoaeGreatDoor
open Go.RowKit

set_option maxRecDepth 100000 in
/-- Series of a Taker that is bad: none. -/
theorem rser_bad (bt : Nat) (S : List UInt8) (w : World) (h : TkI w bt S true) (hS : S.length ≤ 2000) :
    Calls Tryz.prog 35 #[.pointer (some ⟨bt, 0, none⟩)] w fun e w' => e = .returned (.slice none 0 0) ∧ TkI w' bt S true ∧ But bt w w' := by
  have HC := hid (rnum_any bt S true w h (by omega))
  clear h
  go_enter Tryz.func35, Tryz.ntmps35
  go_wp2_with fail
  refine HC.out.mono ?_
  rintro e w1 ⟨rfl, hT, hG⟩
  have hN : tN S true = (0, S, true) := rfl
  rw [hN] at hT ⊢
  dsimp only at hT ⊢
  obtain ⟨c0, c1, f0, f1⟩ := hT.c
  have HT := hid hT
  have HBut := hid (But.grown hG)
  have hz : (sb S).size = S.length := sb_size S
  have h0 : decide ((0 : Int) ≤ 0 ∧ (0 : Int) ≤ (S.length : Int)) = true := decide_eq_true ⟨by omega, by omega⟩
  clear hT hG HC hN
  go_wp2_with fail
  refine (lrin_any 0 0 ((sb S).size : Int) w1).mono ?_
  rintro e w2 ⟨rfl, rfl⟩
  rw [hz, h0]
  clear h0
  go_wp2_with fail
  refine wp_loop_rounds 1 ?_
  rw [rounds_succ]
  go_wp2
  go_ret
  exact ⟨rfl, HT.out, HBut.out⟩

/-- What ReadBlock tells. -/
def RRBEnd (w : World) (s : List UInt8) (e : Ending) (w' : World) : Prop :=
  Below w.heap.size w w' ∧ ((∃ tp old l v, rBlk s = some (tp, old, l) ∧ e = .returned (.tuple #[.agg #[.int .i64 tp, .int .i64 old, v], .int .i64 0]) ∧ SrOwn w' w.heap.size v (l.map toSr)) ∨ (rBlk s = none ∧ e = .returned (.tuple #[.agg #[.int .i64 0, .int .i64 0, .slice none 0 0], .int .i64 3])))

theorem srown_set {W : World} {base b o : Nat} {v u : Value} {l : List Sr} {c : Array Value} (h : SrOwn W base v l) (hb : W.heap[b]? = some (.cells c 25)) : SrOwn (W.setCell ⟨b, o, none⟩ u) base v l := h.kept fun g c e he hg => by
  have hne : g ≠ b := fun e2 => by
    subst e2
    rw [hb] at hg
    simp only [Option.some.injEq, Obj.cells.injEq] at hg
    rw [← hg.2.1] at he
    revert he
    decide
  exact Below.heap_setCell _ ⟨b, o, none⟩ _ _ hne

theorem srown_three {W : World} {base b : Nat} {v x y z p q s : Value} {l : List Sr} (h : SrOwn W base v l) (hb : W.heap[b]? = some (.cells #[x, y, z] 25)) : SrOwn (((W.setCell ⟨b, 0, none⟩ p).setCell ⟨b, 1, none⟩ q).setCell ⟨b, 2, none⟩ s) base v l :=
  srown_set (srown_set (srown_set h hb) (heap_setCell_same _ _ 0 _ _ _ hb)) (heap_setCell_same _ _ 1 _ _ _ (heap_setCell_same _ _ 0 _ _ _ hb))

/-- On the way: what is told, the Taker, the block so far, and all that was there. -/
structure RdB (w W : World) (bb : Nat) (x y z : Value) (S : List UInt8) (bad : Bool) : Prop where
  res : W.heap[w.heap.size]? = some (.cells #[.int .i64 0, .int .i64 0, .slice none 0 0] 25)
  tk : TkI W (w.heap.size + 1) S bad
  box : W.heap[bb]? = some (.cells #[x, y, z] 25)
  far : w.heap.size + 1 < bb
  bel : Below w.heap.size w W

theorem RdB.but {w W W' : World} {bb : Nat} {x y z : Value} {S S' : List UInt8} {bad bad' : Bool} (h : RdB w W bb x y z S bad) (hb : But (w.heap.size + 1) W W') (ht : TkI W' (w.heap.size + 1) S' bad') : RdB w W' bb x y z S' bad' :=
  ⟨(hb.2.2.2.2 _ (heap_lt h.res) (by omega)).trans h.res, ht, (hb.2.2.2.2 _ (heap_lt h.box) (by have := h.far; omega)).trans h.box, h.far, ⟨hb.1.trans h.bel.os, hb.2.1.trans h.bel.tape, hb.2.2.1.trans h.bel.output, Nat.le_trans h.bel.size hb.2.2.2.1, fun j hj => (hb.2.2.2.2 j (Nat.lt_of_lt_of_le hj h.bel.size) (by omega)).trans (h.bel.block j hj)⟩⟩

set_option maxRecDepth 100000 in
set_option maxHeartbeats 1600000 in
theorem rrblock_any (s : List UInt8) (w : World) (hs : s.length ≤ 2000) :
    Calls Tryz.prog 11 #[.string (sb s)] w fun e w' => RRBEnd w s e w' := by
  have hb1 : Below w.heap.size w ((w.alloc (.cells #[.int .i64 0, .int .i64 0, .slice none 0 0] 25)).alloc (.cells #[.string (sb s), .bool false] 82)) := ((Below.refl _ w).alloc (Nat.le_refl _) _).alloc (by simp) _
  have hsz : (w.alloc (.cells #[.int .i64 0, .int .i64 0, .slice none 0 0] 25)).heap.size = w.heap.size + 1 := by simp
  have hT1 : TkI ((w.alloc (.cells #[.int .i64 0, .int .i64 0, .slice none 0 0] 25)).alloc (.cells #[.string (sb s), .bool false] 82)) (w.heap.size + 1) s false := by
    have := heap_alloc_new (w.alloc (.cells #[.int .i64 0, .int .i64 0, .slice none 0 0] 25)) (.cells #[.string (sb s), .bool false] 82)
    rw [hsz] at this
    exact this
  have hR1 : ((w.alloc (.cells #[.int .i64 0, .int .i64 0, .slice none 0 0] 25)).alloc (.cells #[.string (sb s), .bool false] 82)).heap[w.heap.size]? = some (.cells #[.int .i64 0, .int .i64 0, .slice none 0 0] 25) := (Below.heap_alloc _ _ _ (by omega)).trans (heap_alloc_new w _)
  have HB1 := hid hb1
  have HT1 := hid hT1
  have HR1 := hid hR1
  clear hb1 hsz hT1 hR1
  go_enter Tryz.func11, Tryz.ntmps11
  go_wp2_with fail
  generalize (w.alloc (.cells #[.int .i64 0, .int .i64 0, .slice none 0 0] 25)).alloc (.cells #[.string (sb s), .bool false] 82) = w1 at HB1 HT1 HR1 ⊢
  refine (rnum_any (w.heap.size + 1) s false w1 HT1.out (by omega)).mono ?_
  rintro e w2 ⟨rfl, hT2, hG2⟩
  obtain ⟨n1, S1, b1, hN1, hl1, hr1, hr1', hc1⟩ := tN_form s false
  rw [hN1] at hT2 ⊢
  dsimp only at hT2 ⊢
  have hbt := heap_lt HT1.out
  have hD2 : Below w.heap.size w w2 ∧ w2.heap[w.heap.size]? = some (.cells #[.int .i64 0, .int .i64 0, .slice none 0 0] 25) := by
    have k := But.grown hG2
    exact ⟨⟨k.1.trans HB1.out.os, k.2.1.trans HB1.out.tape, k.2.2.1.trans HB1.out.output, Nat.le_trans HB1.out.size k.2.2.2.1, fun j hj => (k.2.2.2.2 j (Nat.lt_of_lt_of_le hj HB1.out.size) (by omega)).trans (HB1.out.block j hj)⟩, (k.2.2.2.2 _ (heap_lt HR1.out) (by omega)).trans HR1.out⟩
  have hal : Below w2.heap.size w2 (w2.alloc (.cells #[.int .i64 n1, .int .i64 0, .slice none 0 0] 25)) := (Below.refl _ w2).alloc (Nat.le_refl _) _
  have HD3 : Hid (RdB w (w2.alloc (.cells #[.int .i64 n1, .int .i64 0, .slice none 0 0] 25)) w2.heap.size (.int .i64 n1) (.int .i64 0) (.slice none 0 0) S1 b1) :=
    ⟨(hal.block _ (heap_lt hD2.2)).trans hD2.2, (hal.block _ (heap_lt hT2)).trans hT2, heap_alloc_new w2 _, heap_lt hT2, hD2.1.trans (hal.mono hD2.1.size)⟩
  have HC1 : Hid ((b1 = false ∧ CD.rN s = some (n1, S1)) ∨ (b1 = true ∧ CD.rN s = none)) := by
    rcases hc1 with ⟨h1, _, h2⟩ | ⟨h1, h2⟩
    · exact .inl ⟨h1, h2⟩
    · rcases h2 with h2 | h2
      · cases h2
      · exact .inr ⟨h1, h2⟩
  clear hN1 hT2 hG2 hD2 hal HB1 HT1 HR1 hc1 hbt
  go_wp2_with fail
  generalize w2.alloc (.cells #[.int .i64 n1, .int .i64 0, .slice none 0 0] 25) = w3 at HD3 ⊢
  generalize w2.heap.size = bb at HD3 ⊢
  refine (rnum_any (w.heap.size + 1) S1 b1 w3 HD3.out.tk (by omega)).mono ?_
  rintro e w4 ⟨rfl, hT4, hG4⟩
  obtain ⟨n2, S2, b2, hN2, hl2, hr2, hr2', hc2⟩ := tN_form S1 b1
  rw [hN2] at hT4 ⊢
  dsimp only at hT4 ⊢
  have HD4 := hid (HD3.out.but (But.grown hG4) hT4)
  have HC2 := hid hc2
  clear hN2 hT4 hG4 HD3 hc2
  have q1 : w4.cell? ⟨bb, 1, none⟩ = some (.int .i64 0) := zcell1 _ _ _ _ HD4.out.box 1 _ rfl
  have f1 : w4.frozen? ⟨bb, 1, none⟩ = false := by have := HD4.out.box; simp [World.frozen?, this]
  have HD5 : Hid (RdB w (w4.setCell ⟨bb, 1, none⟩ (.int .i64 n2)) bb (.int .i64 n1) (.int .i64 n2) (.slice none 0 0) S2 b2) := by
    have hf := HD4.out.far
    have h0 : w.heap.size ≠ bb := by omega
    have h1 : w.heap.size + 1 ≠ bb := by omega
    exact ⟨(Below.heap_setCell _ ⟨bb, 1, none⟩ _ _ h0).trans HD4.out.res, (Below.heap_setCell _ ⟨bb, 1, none⟩ _ _ h1).trans HD4.out.tk, heap_setCell_same _ _ 1 _ _ _ HD4.out.box, hf, HD4.out.bel.setCell (p := ⟨bb, 1, none⟩) (by show w.heap.size ≤ bb; omega) _⟩
  clear HD4
  go_wp2_with fail
  generalize w4.setCell ⟨bb, 1, none⟩ (.int .i64 n2) = w5 at HD5 ⊢
  clear q1 f1
  have HSer : Hid (Calls Tryz.prog 35 #[.pointer (some ⟨w.heap.size + 1, 0, none⟩)] w5 fun e w6 => ∃ ao ln cap, e = .returned (.slice ao ln cap) ∧ ∃ S3 b3, TkI w6 (w.heap.size + 1) S3 b3 ∧ But (w.heap.size + 1) w5 w6 ∧ ((b3 = false ∧ b2 = false ∧ ∃ l, CD.rAll chD lbK S2 = some (l, S3) ∧ SrOwn w6 w5.heap.size (.slice ao ln cap) (l.map toSr)) ∨ (b3 = true ∧ (b2 = true ∨ CD.rAll chD lbK S2 = none)))) := by
    rcases b2 with _ | _
    · refine (rser_any (w.heap.size + 1) S2 w5 HD5.out.tk (by omega)).mono ?_
      rintro e w6 ⟨hbut, ⟨l, r, v, h1, rfl, h3, h4⟩ | ⟨h1, rfl, S', h3, _⟩⟩
      · obtain ⟨ao, cap, ev⟩ := own_slice h4.choose_spec.2.1
        exact ⟨ao, (l.map toSr).length, cap, by rw [ev], r, false, h3, hbut, .inl ⟨rfl, rfl, l, h1, by rw [← ev]; exact h4⟩⟩
      · exact ⟨none, 0, 0, rfl, S', true, h3, hbut, .inr ⟨rfl, .inr h1⟩⟩
    · refine (rser_bad (w.heap.size + 1) S2 w5 HD5.out.tk (by omega)).mono ?_
      rintro e w6 ⟨rfl, h3, hbut⟩
      exact ⟨none, 0, 0, rfl, S2, true, h3, hbut, .inr ⟨rfl, .inl rfl⟩⟩
  refine HSer.out.mono ?_
  rintro e w6 ⟨ao, ln, cap, rfl, S3, b3, hT6, hbut, hc3⟩
  have HD6 := hid (HD5.out.but hbut hT6)
  have hw5 := HD5.out.bel.size
  have HC3 := hid hc3
  clear hT6 hbut HSer HD5 hc3
  have q2 : w6.cell? ⟨bb, 2, none⟩ = some (.slice none 0 0) := zcell1 _ _ _ _ HD6.out.box 2 _ rfl
  have f2 : w6.frozen? ⟨bb, 2, none⟩ = false := by have := HD6.out.box; simp [World.frozen?, this]
  have HD7 : Hid (RdB w (w6.setCell ⟨bb, 2, none⟩ (.slice ao ln cap)) bb (.int .i64 n1) (.int .i64 n2) (.slice ao ln cap) S3 b3) := by
    have hf := HD6.out.far
    have h0 : w.heap.size ≠ bb := by omega
    have h1 : w.heap.size + 1 ≠ bb := by omega
    exact ⟨(Below.heap_setCell _ ⟨bb, 2, none⟩ _ _ h0).trans HD6.out.res, (Below.heap_setCell _ ⟨bb, 2, none⟩ _ _ h1).trans HD6.out.tk, heap_setCell_same _ _ 2 _ _ _ HD6.out.box, hf, HD6.out.bel.setCell (p := ⟨bb, 2, none⟩) (by show w.heap.size ≤ bb; omega) _⟩
  have HC7 : Hid ((b3 = false ∧ b2 = false ∧ ∃ l, CD.rAll chD lbK S2 = some (l, S3) ∧ SrOwn (w6.setCell ⟨bb, 2, none⟩ (.slice ao ln cap)) w.heap.size (.slice ao ln cap) (l.map toSr)) ∨ (b3 = true ∧ (b2 = true ∨ CD.rAll chD lbK S2 = none))) := by
    rcases HC3.out with ⟨h1, h2, l, h3, h4⟩ | h
    · refine .inl ⟨h1, h2, l, h3, (h4.low hw5).kept fun g c e he hg => ?_⟩
      have hne : g ≠ bb := fun e2 => by
        subst e2
        rw [HD6.out.box] at hg
        simp only [Option.some.injEq, Obj.cells.injEq] at hg
        rw [← hg.2.1] at he
        revert he
        decide
      exact Below.heap_setCell _ ⟨bb, 2, none⟩ _ _ hne
    · exact .inr h
  clear HD6 HC3
  go_upto_region 5 with fail
  generalize w6.setCell ⟨bb, 2, none⟩ (.slice ao ln cap) = w7 at HD7 HC7 ⊢
  obtain ⟨c0, c1, _, _⟩ := HD7.out.tk.c
  have m0 : w7.cell? ⟨bb, 0, none⟩ = some (.int .i64 n1) := zcell1 _ _ _ _ HD7.out.box 0 _ rfl
  have m1 : w7.cell? ⟨bb, 1, none⟩ = some (.int .i64 n2) := zcell1 _ _ _ _ HD7.out.box 1 _ rfl
  have m2 : w7.cell? ⟨bb, 2, none⟩ = some (.slice ao ln cap) := zcell1 _ _ _ _ HD7.out.box 2 _ rfl
  have r0 : w7.cell? ⟨w.heap.size, 0, none⟩ = some (.int .i64 0) := zcell1 _ _ _ _ HD7.out.res 0 _ rfl
  have r1 : w7.cell? ⟨w.heap.size, 1, none⟩ = some (.int .i64 0) := zcell1 _ _ _ _ HD7.out.res 1 _ rfl
  have r2 : w7.cell? ⟨w.heap.size, 2, none⟩ = some (.slice none 0 0) := zcell1 _ _ _ _ HD7.out.res 2 _ rfl
  have g0 : w7.frozen? ⟨w.heap.size, 0, none⟩ = false := by have := HD7.out.res; simp [World.frozen?, this]
  have g1 : w7.frozen? ⟨w.heap.size, 1, none⟩ = false := by have := HD7.out.res; simp [World.frozen?, this]
  have g2 : w7.frozen? ⟨w.heap.size, 2, none⟩ = false := by have := HD7.out.res; simp [World.frozen?, this]
  clear q2 f2
  rcases b3 with _ | _
  · obtain ⟨_, hb2, l, hrA, hOwn⟩ | ⟨h, _⟩ := HC7.out
    · have HBk := hid (rBlk_some HC1.out HC2.out hb2 hrA)
      obtain ⟨hlm, hli⟩ := read_lim hrA (by omega)
      obtain ⟨vo, vc, ev, hSr⟩ := SrRow.of_own hOwn
      simp only [Value.slice.injEq] at ev
      obtain ⟨e1, e2, e3⟩ := ev
      subst e1 e2 e3
      have HOwn := hid hOwn
      have hrl : (sb S3).toList = S3 := by rw [Lib.toList_data, sb_data]
      have HRt := hid (rbright_any ao (l.map toSr) cap n1 n2 w7 hSr (by omega) (fun i hi => ⟨(hli i hi).1, (hli i hi).2.1⟩) (fun i hi => (hli i hi).2.2))
      clear hSr hOwn hrA hli HC7 HC1 HC2 hb2 hlm
      generalize hLL : l.map toSr = LL at *
      have HLL := hid hLL
      clear hLL
      rcases S3 with _ | ⟨x, S3⟩
      · have hq : ((sb ([] : List UInt8)).toList == ([] : List UInt8)) = true := by rw [hrl]; rfl
        go_wp2_with fail
        refine HRt.out.mono ?_
        rintro e w8 ⟨rfl, hb8⟩
        have HE8 := hid (HD7.out.bel.trans (hb8.mono HD7.out.bel.size))
        have hR8 := (hb8.block _ (heap_lt HD7.out.res)).trans HD7.out.res
        have hX8 := (hb8.block _ (heap_lt HD7.out.box)).trans HD7.out.box
        have HR8 := hid hR8
        have k0 : w8.cell? ⟨bb, 0, none⟩ = some (.int .i64 n1) := zcell1 _ _ _ _ hX8 0 _ rfl
        have k1 : w8.cell? ⟨bb, 1, none⟩ = some (.int .i64 n2) := zcell1 _ _ _ _ hX8 1 _ rfl
        have k2 : w8.cell? ⟨bb, 2, none⟩ = some (.slice ao LL.length cap) := zcell1 _ _ _ _ hX8 2 _ rfl
        have t0 : w8.cell? ⟨w.heap.size, 0, none⟩ = some (.int .i64 0) := zcell1 _ _ _ _ hR8 0 _ rfl
        have t1 : w8.cell? ⟨w.heap.size, 1, none⟩ = some (.int .i64 0) := zcell1 _ _ _ _ hR8 1 _ rfl
        have t2 : w8.cell? ⟨w.heap.size, 2, none⟩ = some (.slice none 0 0) := zcell1 _ _ _ _ hR8 2 _ rfl
        have y0 : w8.frozen? ⟨w.heap.size, 0, none⟩ = false := by simp [World.frozen?, hR8]
        have y1 : w8.frozen? ⟨w.heap.size, 1, none⟩ = false := by simp [World.frozen?, hR8]
        have y2 : w8.frozen? ⟨w.heap.size, 2, none⟩ = false := by simp [World.frozen?, hR8]
        have HOw8 := hid (HOwn.out.below hb8)
        clear hb8 hR8 hX8 HRt HD7 m0 m1 m2 r0 r1 r2 g0 g1 g2 c0 c1
        rcases hrt : BK.right n1 n2 LL with _ | _
        · have HN := hid (show rBlk s = none by rw [HBk.out, if_neg (by simp [hrt])])
          clear hrt
          go_wp2_with fail
          refine bodyPost_ret (results_cell_one (P := Tryz.prog) rfl _ _ w.heap.size 25 _ (0, 0) _ rfl (set_three HR8.out) Tryz.underlying25 rfl (by kernel_rfl)) rfl ?_
          exact ⟨bel_three HE8.out, .inr ⟨HN.out, rfl⟩⟩
        · have HY := hid (show rBlk s = some (n1, n2, l) by rw [HBk.out, if_pos (by simp [hrt])])
          clear hrt
          go_wp2_with fail
          refine bodyPost_ret (results_cell_one (P := Tryz.prog) rfl _ _ w.heap.size 25 _ (0, 0) _ rfl (set_three HR8.out) Tryz.underlying25 rfl (by kernel_rfl)) rfl ?_
          exact ⟨bel_three HE8.out, .inl ⟨n1, n2, l, _, HY.out, rfl, by rw [HLL.out]; exact srown_three HOw8.out HR8.out⟩⟩
      · have hq : ((sb (x :: S3)).toList == ([] : List UInt8)) = false := by rw [hrl]; rfl
        have HN := hid (show rBlk s = none by rw [HBk.out, if_neg (by simp)])
        have HR8 := hid HD7.out.res
        have HE8 := hid HD7.out.bel
        clear HD7 HRt
        go_wp2_with fail
        refine bodyPost_ret (results_cell_one (P := Tryz.prog) rfl _ _ w.heap.size 25 _ (0, 0) _ rfl (set_three HR8.out) Tryz.underlying25 rfl (by kernel_rfl)) rfl ?_
        exact ⟨bel_three HE8.out, .inr ⟨HN.out, rfl⟩⟩
    · cases h
  · obtain ⟨h, _⟩ | ⟨_, hbad⟩ := HC7.out
    · cases h
    · have HN := hid (rBlk_none HC1.out HC2.out hbad)
      have HR8 := hid HD7.out.res
      have HE8 := hid HD7.out.bel
      clear HD7 HC7 hbad HC1 HC2
      go_wp2_with fail
      refine bodyPost_ret (results_cell_one (P := Tryz.prog) rfl _ _ w.heap.size 25 _ (0, 0) _ rfl (set_three HR8.out) Tryz.underlying25 rfl (by kernel_rfl)) rfl ?_
      exact ⟨bel_three HE8.out, .inr ⟨HN.out, rfl⟩⟩

end Go.Proofs.YtdmnlmohfaafoaeGreatDoor

