/- What a code.Reader's one tells: a series. -/
import Derived.Test.YtemikjncannndadDoorCrLab
import Derived.Test.YtemikjncannndadDoorChRead
namespace Go.Proofs.YtemikjncannndadDoor
open Go.RowKit

theorem rLs_inv {S R1 : List UInt8} {la : List CD.Lb} (h : rLs S = some (la, R1)) : ∃ (k : Int) (r1 : List UInt8), CD.rN S = some (k, r1) ∧ (0 ≤ k ∧ k ≤ 8) ∧ CD.rL k.toNat r1 = some (la, R1) ∧ lbK la = true := by
  unfold rLs at h
  split at h
  · cases h
  · rename_i k r1 h1
    split at h
    · rename_i hk
      split at h
      · cases h
      · rename_i l r2 h2
        split at h
        · rename_i hok
          simp only [Option.some.injEq, Prod.mk.injEq] at h
          obtain ⟨rfl, rfl⟩ := h
          exact ⟨k, r1, h1, hk, h2, hok⟩
        · cases h
    · cases h

theorem one_ok {S R1 R2 c : List UInt8} {la : List CD.Lb} {x : List CL.Smp} (h : rLs S = some (la, R1)) (h2 : CD.rT R1 = some (c, R2)) (h3 : chD c = some x) : CD.rOne chD lbK S = some ((la, x), R2) := by
  obtain ⟨k, r1, a1, a2, a3, a4⟩ := rLs_inv h
  exact CD.rOne_ok a1 a2 rfl a3 h2 a4 h3

theorem one_no1 {S : List UInt8} (h : rLs S = none) : CD.rOne chD lbK S = none := by
  unfold rLs at h
  split at h
  · rename_i h1
    exact CD.rOne_none1 h1
  · rename_i k r1 h1
    split at h
    · split at h
      · rename_i h2
        exact CD.rOne_none3 h1 rfl h2
      · rename_i l r2 h2
        split at h
        · cases h
        · rename_i hok
          exact CD.rOne_none4 h1 rfl h2 (.inr (.inl (by simpa using hok)))
    · rename_i hk
      exact CD.rOne_none2 h1 hk

theorem one_no2 {S R1 : List UInt8} {la : List CD.Lb} (h : rLs S = some (la, R1)) (h2 : CD.rT R1 = none ∨ ∃ c r3, CD.rT R1 = some (c, r3) ∧ chD c = none) : CD.rOne chD lbK S = none := by
  obtain ⟨k, r1, a1, a2, a3, a4⟩ := rLs_inv h
  exact CD.rOne_none4 a1 rfl a3 (h2.elim .inl (fun h => .inr (.inr h)))

theorem Wids.but {br : Nat} {w w' : World} (h : Wids w) (hb : But br w w') (hG : 1 < w.heap.size) (hne : 1 ≠ br) : Wids w' := fun i hi => by
  have e := hb.2.2.2.2 1 hG hne
  have h0 := h i hi
  exact (World.cell?_of_block (w := w) e).trans h0

/-- What one tells. -/
def OneEnd (w : World) (br : Nat) (S : List UInt8) (e : Ending) (w' : World) : Prop :=
  But br w w' ∧ ((∃ x r lvv svv, CD.rOne chD lbK S = some (x, r) ∧ e = .returned (.agg #[lvv, svv]) ∧ RdI w' br r false ∧ OwnLb w' w.heap.size lvv (toLab x.1) ∧ OwnSm w' w.heap.size svv x.2 ∧ r.length ≤ S.length) ∨ (CD.rOne chD lbK S = none ∧ e = .returned (.agg #[.slice none 0 0, .slice none 0 0]) ∧ ∃ S', RdI w' br S' true ∧ S'.length ≤ S.length))

theorem but_box {br : Nat} {w w1 : World} {bx : Nat} (h : But br w w1) (hx : w.heap.size ≤ bx) (u0 u1 : Value) : But br w ((w1.setCell ⟨bx, 0, none⟩ u0).setCell ⟨bx, 1, none⟩ u1) :=
  (h.own (tgrown w1 bx 0 u0) (fun g hg => by cases hg; exact hx)).own (tgrown _ bx 1 u1) (fun g hg => by cases hg; exact hx)

theorem rd_box {br bx : Nat} {w1 : World} {S : List UInt8} {b : Bool} (h : RdI w1 br S b) (hx : br ≠ bx) (u0 u1 : Value) : RdI ((w1.setCell ⟨bx, 0, none⟩ u0).setCell ⟨bx, 1, none⟩ u1) br S b :=
  (Below.heap_setCell _ ⟨bx, 1, none⟩ u1 br hx).trans ((Below.heap_setCell _ ⟨bx, 0, none⟩ u0 br hx).trans h)

theorem row_box {w : World} {bx base n size : Nat} {e T : TypeId} {v : Value} {xs : List Value} {a : Array Value} (h : w.ownsRow base e size v n xs) (hX : w.heap[bx]? = some (.cells a T)) (hne : e ≠ T) (u0 u1 : Value) : ((w.setCell ⟨bx, 0, none⟩ u0).setCell ⟨bx, 1, none⟩ u1).ownsRow base e size v n xs := row_kept h fun g c hg => by
  have hgb : g ≠ bx := fun e2 => by
    subst e2
    rw [hX] at hg
    have := Option.some.inj hg
    simp only [Obj.cells.injEq] at this
    exact hne this.2.1.symm
  exact (Below.heap_setCell _ ⟨bx, 1, none⟩ u1 g hgb).trans (Below.heap_setCell _ ⟨bx, 0, none⟩ u0 g hgb)

set_option maxRecDepth 100000 in
set_option maxHeartbeats 800000 in
theorem pone_any (br : Nat) (S : List UInt8) (w : World) (h : RdI w br S false) (hS : S.length ≤ 5000000) (hW : Wids w) (hG : 1 < w.heap.size) (hGb : 1 ≠ br) :
    Calls Tryd.prog 56 #[.pointer (some ⟨br, 0, none⟩)] w fun e w' => OneEnd w br S e w' := by
  have hb0 : Below w.heap.size w (w.alloc (.cells #[.slice none 0 0, .slice none 0 0] 99)) := (Below.refl _ w).alloc (Nat.le_refl _) _
  have hbr := heap_lt h
  have HC := hid (plabels_any br S _ (h.below hb0) hS)
  have HX0 := hid (heap_alloc_new w (.cells #[.slice none 0 0, .slice none 0 0] 99))
  have HB0 : Hid (But br w (w.alloc (.cells #[.slice none 0 0, .slice none 0 0] 99))) := But.below hb0
  have HW := hid hW
  clear h hb0 hW
  go_enter Tryd.func56, Tryd.ntmps56
  go_wp2_with fail
  refine HC.out.mono ?_
  rintro e w1 ⟨hBut, hend⟩
  have hX1 := (hBut.2.2.2.2 w.heap.size (by simp) (by omega)).trans HX0.out
  have HX1 := hid hX1
  have HB1 := hid (HB0.out.trans hBut)
  have hsz1 := heap_lt hX1
  clear hBut hX1 HC HX0 HB0
  obtain ⟨R1, b1, lo, ln, lc, rfl, hI1, hl1, hst1⟩ : ∃ R1 b1 lo ln lc, e = .returned (.slice lo ln lc) ∧ RdI w1 br R1 b1 ∧ R1.length ≤ S.length ∧ ((b1 = false ∧ ∃ la, rLs S = some (la, R1) ∧ OwnLb w1 w.heap.size (.slice lo ln lc) (toLab la)) ∨ (b1 = true ∧ CD.rOne chD lbK S = none)) := by
    rcases hend with ⟨la, r, v, h1, rfl, h3, h4, h5⟩ | ⟨h1, rfl, S', h3, h4⟩
    · obtain ⟨va, vc, hv⟩ := own_slice h4
      refine ⟨r, false, va, _, vc, by rw [hv], h3, h5, .inl ⟨rfl, la, h1, ?_⟩⟩
      rw [← hv]
      exact row_low h4 (by simp)
    · exact ⟨S', true, none, 0, 0, rfl, h3, h4, .inr ⟨rfl, one_no1 h1⟩⟩
  have HC2 := ptxt_any br R1 b1 w1 hI1 (by omega)
  obtain ⟨c, R2, b2, hE2, hl2, hc2, hs2⟩ := tT_is R1 b1
  rw [hE2] at HC2
  have HC2 := hid HC2
  have hst2 : (b2 = false ∧ ∃ la, rLs S = some (la, R1) ∧ OwnLb w1 w.heap.size (.slice lo ln lc) (toLab la) ∧ CD.rT R1 = some (c, R2)) ∨ (b2 = true ∧ CD.rOne chD lbK S = none) := by
    rcases hs2 with ⟨h1, h2, h3⟩ | ⟨h1, _, h2⟩
    · rcases hst1 with ⟨_, la, h4, h5⟩ | ⟨h4, _⟩
      · exact .inl ⟨h1, la, h4, h5, h3⟩
      · rw [h2] at h4; cases h4
    · refine .inr ⟨h1, ?_⟩
      rcases hst1 with ⟨h4, la, h5, _⟩ | ⟨_, h4⟩
      · rcases h2 with h2 | h2
        · rw [h4] at h2; cases h2
        · exact one_no2 h5 (.inl h2)
      · exact h4
  have HSt := hid hst2
  have HI1 := hid hI1
  clear hend hI1 hst1 hE2 hs2 hst2
  go_wp2_with fail
  refine HC2.out.mono ?_
  rintro e w2 ⟨rfl, hI2, hG2⟩
  dsimp only at hI2 ⊢
  have hX2 := (hG2.block w.heap.size hsz1 (fun e => by have := Option.some.inj e; omega)).trans HX1.out
  have HX2 := hid hX2
  have HB2 := hid (HB1.out.trans (But.grown hG2))
  have hsz2 := heap_lt hX2
  have HI2 := hid hI2
  have HK2 : Hid (∀ (g : Nat) (cc : Array Value), w1.heap[g]? = some (Obj.cells cc 103) → w2.heap[g]? = w1.heap[g]?) := fun g cc hg => hG2.block g (heap_lt hg) (fun e => rd_ne HI1.out hg (Option.some.inj e) (by decide))
  have HC3 := hid (bad_any br R2 b2 w2 hI2)
  have x0 := zcell' _ w.heap.size _ _ hX2 0 _ rfl
  have x1 := zcell' _ w.heap.size _ _ hX2 1 _ rfl
  have xf0 : w2.frozen? ⟨w.heap.size, 0, none⟩ = false := by simp [World.frozen?, hX2]
  have xf1 : w2.frozen? ⟨w.heap.size, 1, none⟩ = false := by simp [World.frozen?, hX2]
  clear hI2 hG2 hX2 HC2
  go_wp2_with fail
  refine HC3.out.mono ?_
  rintro e w3 ⟨rfl, rfl⟩
  clear HC3
  cases b2 with
  | true =>
    have HNo : Hid (CD.rOne chD lbK S = none) := by
      rcases HSt.out with ⟨h1, _⟩ | ⟨_, h1⟩
      · cases h1
      · exact h1
    clear HSt
    go_wp2_with fail
    refine bodyPost_ret (results_cell_row (P := Tryd.prog) rfl _ _ w.heap.size 99 _ (0, 0) _ rfl (heap_setCell_same _ _ 1 _ _ _ (heap_setCell_same _ _ 0 _ _ _ HX2.out)) Tryd.underlying99 rfl (by kernel_rfl)) rfl ?_
    exact ⟨but_box HB2.out (Nat.le_refl _) _ _, .inr ⟨HNo.out, rfl, R2, rd_box HI2.out (by omega) _ _, by omega⟩⟩
  | false =>
    obtain ⟨la, h1, h2, h3⟩ : ∃ la, rLs S = some (la, R1) ∧ OwnLb w1 w.heap.size (.slice lo ln lc) (toLab la) ∧ CD.rT R1 = some (c, R2) := by
      rcases HSt.out with ⟨_, h1⟩ | ⟨h1, _⟩
      · exact h1
      · cases h1
    have HL1 := hid h1
    have HO2 := hid (row_kept h2 HK2.out)
    have HL3 := hid h3
    have HRd := hid (read_c (sb c) w3 (by rw [sb_size]; omega) (HW.out.but HB2.out hG hGb) (Nat.lt_of_lt_of_le hG HB2.out.2.2.2.1))
    clear h1 h2 h3 HSt HK2 HX1 HB1 HI1
    go_wp2_with fail
    refine HRd.out.mono ?_
    intro e w4 hrd
    obtain ⟨sva, svn, svc, ev, rfl, hb4, hsv⟩ : ∃ sva svn svc ev, e = .returned (.tuple #[.slice sva svn svc, ev]) ∧ Below w3.heap.size w3 w4 ∧ ((ev = .nilIface ∧ ∃ l, chD c = some l ∧ OwnSm w4 w3.heap.size (.slice sva svn svc) l) ∨ (ev = .iface 34 (.int .i64 3) ∧ chD c = none)) := by
      unfold chD
      cases hr : CL.readL (bitsS (sb c)) with
      | none =>
        rw [hr] at hrd
        obtain ⟨h1, h2⟩ := hrd
        exact ⟨none, 0, 0, _, h1, h2, .inr ⟨rfl, rfl⟩⟩
      | some l =>
        rw [hr] at hrd
        obtain ⟨v, h1, h2, h3⟩ := hrd
        obtain ⟨va', vc', hv⟩ := own_slice h2
        rw [hv] at h1 h2
        exact ⟨_, _, _, _, h1, h3, .inl ⟨rfl, l, rfl, h2⟩⟩
    have hX4 := (hb4.block w.heap.size hsz2).trans HX2.out
    have hI4 := HI2.out.below hb4
    have HB4 := hid (HB2.out.trans (But.below (bt := br) hb4))
    have HO4 := hid (row_kept HO2.out (fun g cc hg => hb4.block g (heap_lt hg)))
    have y0 := zcell' _ w.heap.size _ _ hX4 0 _ rfl
    have y1 := zcell' _ w.heap.size _ _ hX4 1 _ rfl
    have yf0 : w4.frozen? ⟨w.heap.size, 0, none⟩ = false := by simp [World.frozen?, hX4]
    have yf1 : w4.frozen? ⟨w.heap.size, 1, none⟩ = false := by simp [World.frozen?, hX4]
    obtain ⟨d0, d1, g0, g1⟩ := hI4.c
    have HX4 := hid hX4
    have HI4 := hid hI4
    clear hrd hb4 hX4 hI4 HRd x0 x1 xf0 xf1 HX2 HB2 HI2 HO2
    rcases hsv with ⟨rfl, l, hl, hO⟩ | ⟨rfl, hl⟩
    · have HR := hid (one_ok HL1.out HL3.out hl)
      have HO := hid hO
      clear hl hO
      go_wp2_with fail
      refine bodyPost_ret (results_cell_row (P := Tryd.prog) rfl _ _ w.heap.size 99 _ (0, 0) _ rfl (heap_setCell_same _ _ 1 _ _ _ (heap_setCell_same _ _ 0 _ _ _ HX4.out)) Tryd.underlying99 rfl (by kernel_rfl)) rfl ?_
      refine ⟨but_box HB4.out (Nat.le_refl _) _ _, .inl ⟨(la, l), R2, _, _, HR.out, rfl, rd_box HI4.out (by omega) _ _, ?_, ?_, by omega⟩⟩
      · exact row_box HO4.out HX4.out (by decide) _ _
      · exact row_box (row_low HO.out (by omega)) HX4.out (by decide) _ _
    · have HR := hid (one_no2 HL1.out (.inr ⟨_, _, HL3.out, hl⟩))
      have HQ : Hid (RdI (w4.setCell ⟨br, 1, none⟩ (.bool true)) br R2 true) := HI4.out.s1 true
      have HBq : Hid (But br w (w4.setCell ⟨br, 1, none⟩ (.bool true))) := HB4.out.trans (But.grown (tgrown _ _ _ _))
      have HXq : Hid ((w4.setCell ⟨br, 1, none⟩ (.bool true)).heap[w.heap.size]? = some (.cells #[.slice none 0 0, .slice none 0 0] 99)) := (Below.heap_setCell w4 ⟨br, 1, none⟩ _ w.heap.size (by show w.heap.size ≠ br; omega)).trans HX4.out
      clear hl
      go_wp2_with fail
      refine bodyPost_ret (results_cell_row (P := Tryd.prog) rfl _ _ w.heap.size 99 _ (0, 0) _ rfl (heap_setCell_same _ _ 1 _ _ _ (heap_setCell_same _ _ 0 _ _ _ HXq.out)) Tryd.underlying99 rfl (by kernel_rfl)) rfl ?_
      exact ⟨but_box HBq.out (Nat.le_refl _) _ _, .inr ⟨HR.out, rfl, R2, rd_box HQ.out (by omega) _ _, by omega⟩⟩

end Go.Proofs.YtemikjncannndadDoor
