/- What a code.Reader's Series, and code.ReadSeries, tell. -/
import Derived.Test.YtemikjncannndadDoorCrOne
import Derived.Test.YtemikjncannndadDoorCdRead
namespace Go.Proofs.YtemikjncannndadDoor
open Go.RowKit

/-- What Series tells of a Reader that was not bad. -/
def PSerEnd (w : World) (br : Nat) (S : List UInt8) (e : Ending) (w' : World) : Prop :=
  But br w w' ∧ ((∃ l r v, CD.rAll chD lbK S = some (l, r) ∧ e = .returned v ∧ RdI w' br r false ∧ SrOwn w' w.heap.size v (l.map toSr) ∧ r.length ≤ S.length) ∨ (CD.rAll chD lbK S = none ∧ e = .returned (.slice none 0 0) ∧ ∃ S', RdI w' br S' true ∧ S'.length ≤ S.length))

theorem SrOwn.rd {br : Nat} {w w' : World} {base : Nat} {v : Value} {l : List Sr} {S : List UInt8} {bad : Bool} (h : SrOwn w base v l) (ht : RdI w br S bad) (hb : But br w w') : SrOwn w' base v l := h.kept fun g c e he hg => by
  refine hb.2.2.2.2 g (heap_lt hg) (fun e2 => rd_ne ht hg e2 (fun e3 => ?_))
  rw [← e3] at he
  revert he
  decide

set_option maxRecDepth 100000 in
theorem pser_bad (br : Nat) (S : List UInt8) (w : World) (h : RdI w br S true) (hS : S.length ≤ 5000000) :
    Calls Tryd.prog 27 #[.pointer (some ⟨br, 0, none⟩)] w fun e w' => e = .returned (.slice none 0 0) ∧ RdI w' br S true ∧ But br w w' := by
  have HC1 := hid (rest_any br S true w h)
  have HC2 := psize_any br S true 0 w h (by omega) (by omega)
  have e0 : tZ S true 0 = (0, S, true) := by unfold tZ; rw [tN_bad, if_neg (by rintro ⟨h, _⟩; cases h)]
  rw [e0] at HC2
  have HC2 := hid HC2
  clear h e0
  go_enter Tryd.func27, Tryd.ntmps27
  go_wp2_with fail
  refine HC1.out.mono ?_
  rintro e w1 ⟨rfl, rfl⟩
  clear HC1
  go_wp2_with fail
  refine HC2.out.mono ?_
  rintro e w2 ⟨rfl, hI, hG⟩
  have HI := hid hI
  have HG := hid hG
  clear hI hG HC2
  go_wp2_with fail
  refine wp_loop_rounds 1 ?_
  rw [rounds_succ]
  go_wp2_with fail
  go_ret
  exact ⟨rfl, HI.out, But.grown HG.out⟩

set_option maxRecDepth 100000 in
set_option maxHeartbeats 800000 in
theorem pser_any (br : Nat) (S : List UInt8) (w : World) (h : RdI w br S false) (hS : S.length ≤ 5000000) (hW : Wids w) (hG : 1 < w.heap.size) (hGb : 1 ≠ br) :
    Calls Tryd.prog 27 #[.pointer (some ⟨br, 0, none⟩)] w fun e w' => PSerEnd w br S e w' := by
  have HC1 := rest_any br S false w h
  have hlf : leftN S false = S.length := rfl
  rw [hlf] at HC1
  have HC1 := hid HC1
  have HC2 := psize_any br S false S.length w h (by omega) (by omega)
  obtain ⟨k, R, b, hZ, hk8, hRl, hst0⟩ := tZ_is S S.length
  rw [hZ] at HC2
  have HC2 := hid HC2
  have hbr := heap_lt h
  have hst : (b = false ∧ CD.rAll chD lbK S = CD.rS chD lbK k R) ∨ (b = true ∧ k = 0 ∧ CD.rAll chD lbK S = none) := by
    unfold CD.rAll
    rcases hst0 with ⟨h1, h2⟩ | ⟨h1, h2, h3⟩
    · refine .inl ⟨h1, ?_⟩
      rw [h2]
      dsimp only
      have e : ((k : Int)).toNat = k := by omega
      rw [if_pos (by omega), e]
    · refine .inr ⟨h1, h2, ?_⟩
      rcases h3 with h3 | ⟨n, r, h3, h4⟩
      · rw [h3]
      · rw [h3]
        dsimp only
        have hl := rN_len h3
        by_cases hn0 : 0 ≤ n
        · rw [if_pos hn0]
          exact CD.rS_many (by omega)
        · rw [if_neg hn0]
  have HSt0 := hid hst
  obtain ⟨ii, hii, hz0, hz1, hz2⟩ := info_parts Tryd.infoSr
  have HI0 := hid hii
  have HZ0 := hid hz0
  have HZ1 := hid hz1
  have HZ2 := hid hz2
  have HW := hid hW
  clear h hst hst0 hZ hii hz0 hz1 hz2 hlf hW
  simp only at HC2
  go_enter Tryd.func27, Tryd.ntmps27
  go_wp2_with fail
  refine HC1.out.mono ?_
  rintro e w1 ⟨rfl, rfl⟩
  clear HC1
  go_wp2_with fail
  refine HC2.out.mono ?_
  rintro e w2 ⟨rfl, hI, hG2⟩
  have HI1 := hid hI
  have HG1 := hid hG2
  clear hI hG2 HC2
  go_wp2_with fail
  go_loopw [3, 4, 9] (fun t3 _ t9 wr => ∃ (i : Nat) (Si : List UInt8) (bi : Bool), t9 = .int .i64 i ∧ RdI wr br Si bi ∧ But br w1 wr ∧ Si.length ≤ S.length ∧ i ≤ k ∧ ((bi = false ∧ ∃ L : List (List CD.Lb × List CL.Smp), L.length = i ∧ CD.rAll chD lbK S = CD.rS chD lbK k R ∧ CD.ContS chD lbK k R L (k - i) Si ∧ SrOwn wr w1.heap.size t3 (L.map toSr)) ∨ (bi = true ∧ t3 = .slice none 0 0 ∧ i = k ∧ CD.rAll chD lbK S = none))) (fun _ _ t9 _ => k - (intOf t9).toNat)
  case atStart =>
    refine ⟨0, R, b, rfl, HI1.out, But.grown HG1.out, hRl, by omega, ?_⟩
    rcases HSt0.out with ⟨h1, h2⟩ | ⟨h1, h2, h3⟩
    · exact .inl ⟨h1, [], rfl, h2, CD.ContS.start _ _, SrOwn.nil _ _⟩
    · exact .inr ⟨h1, rfl, h2.symm, h3⟩
  case round =>
    obtain ⟨i, Si, bi, rfl, hIi, hBi, hSi, hik, hsti⟩ := hrel
    have HIi := hid hIi
    have HBi := hid hBi
    have hszi := hBi.2.2.2.1
    have HSti := hid hsti
    clear hIi hBi hsti HSt0 HI1 HG1
    by_cases hlt : i < k
    · obtain ⟨L, hL1, hL2, hL3, hL4⟩ : ∃ L : List (List CD.Lb × List CL.Smp), L.length = i ∧ CD.rAll chD lbK S = CD.rS chD lbK k R ∧ CD.ContS chD lbK k R L (k - i) Si ∧ SrOwn wr w1.heap.size u3 (L.map toSr) := by
        rcases HSti.out with ⟨_, h1⟩ | ⟨_, _, h1, _⟩
        · exact h1
        · omega
      have hbi : bi = false := by
        rcases HSti.out with ⟨h1, _⟩ | ⟨_, _, h1, _⟩
        · exact h1
        · omega
      subst hbi
      have HL2 := hid hL2
      have hm : k - i = (k - (i + 1)) + 1 := by omega
      rw [hm] at hL3
      have HL3 := hid hL3
      have HL4 := hid hL4
      have HL1 := hid hL1
      obtain ⟨xs, hxs1, hxs2, hxs3⟩ := hL4
      have hlm : (L.map toSr).length = i := by rw [List.length_map, hL1]
      rw [hlm] at hxs1 hxs2 hxs3
      have HP1 := hid hxs1
      have HP2 := hid hxs2
      have HP3 := hid hxs3
      obtain ⟨va, vc, hv3⟩ := own_slice hxs2
      have HC := hid (pone_any br Si wr HIi.out (by omega) (HW.out.but HBi.out hG hGb) (Nat.lt_of_lt_of_le hG hszi) hGb)
      clear HSti hL1 hL2 hL3 hxs1 hxs2 hxs3 hm hlm
      subst hv3
      go_wp2_with fail
      refine HC.out.mono ?_
      rintro e w4 ⟨hB4, hend⟩
      clear HC
      rcases hend with ⟨⟨la, l⟩, r, lvv, svv, h1, rfl, h3, h4, h5, h6⟩ | ⟨h1, rfl, S', h3, h4⟩
      · obtain ⟨lva, lvc, hlv⟩ := own_slice h4
        obtain ⟨sva, svc, hsv⟩ := own_slice h5
        obtain ⟨ln, hln⟩ : ∃ ln, (toLab la).length = ln := ⟨_, rfl⟩
        obtain ⟨sn, hsn⟩ : ∃ sn, l.length = sn := ⟨_, rfl⟩
        rw [hln] at hlv
        rw [hsn] at hsv
        have h4' := h4
        have h5' := h5
        have HO4 := hid h4'
        have HO5 := hid h5'
        have HR1 := hid h1
        have hb5 : Below w4.heap.size w4 (w4.alloc (.cells #[lvv, svv] 99)) := (Below.refl _ w4).alloc (Nat.le_refl _) _
        have hI5 := h3.below hb5
        have hx5 := heap_alloc_new w4 (.cells #[lvv, svv] 99)
        have hB5 : But br wr (w4.alloc (.cells #[lvv, svv] 99)) := hB4.trans (But.below hb5)
        have hLb5 : OwnLb (w4.alloc (.cells #[lvv, svv] 99)) w1.heap.size lvv (toLab la) := row_low (row_kept h4 (fun g c hg => hb5.block g (heap_lt hg))) (by omega)
        have hSm5 : OwnSm (w4.alloc (.cells #[lvv, svv] 99)) w1.heap.size svv l := row_low (row_kept h5 (fun g c hg => hb5.block g (heap_lt hg))) (by omega)
        have hrow5 : (w4.alloc (.cells #[lvv, svv] 99)).ownsRow w1.heap.size 99 2 (.slice va i vc) i (xs.flatMap fun p => [p.1, p.2]) := row_kept HP2.out (fun g c hg => hB5.2.2.2.2 g (heap_lt hg) (fun e2 => rd_ne HIi.out hg e2 (by decide)))
        have hall5 : ∀ i', i' < i → OwnLb (w4.alloc (.cells #[lvv, svv] 99)) w1.heap.size (xs.getD i' (.nilIface, .nilIface)).1 (atSr (L.map toSr) i').1 ∧ OwnSm (w4.alloc (.cells #[lvv, svv] 99)) w1.heap.size (xs.getD i' (.nilIface, .nilIface)).2 (atSr (L.map toSr) i').2 := fun i' hi' => ⟨row_kept (HP3.out i' hi').1 (fun g c hg => hB5.2.2.2.2 g (heap_lt hg) (fun e2 => rd_ne HIi.out hg e2 (by decide))), row_kept (HP3.out i' hi').2 (fun g c hg => hB5.2.2.2.2 g (heap_lt hg) (fun e2 => rd_ne HIi.out hg e2 (by decide)))⟩
        have hcb := hid (bad_any br r false _ hI5)
        have y0 : (w4.alloc (.cells #[lvv, svv] 99)).cell? ⟨w4.heap.size, 0, none⟩ = some lvv := zcell' _ w4.heap.size _ _ hx5 0 _ rfl
        have y1 : (w4.alloc (.cells #[lvv, svv] 99)).cell? ⟨w4.heap.size, 1, none⟩ = some svv := zcell' _ w4.heap.size _ _ hx5 1 _ rfl
        have HI5 := hid hI5
        have HB5 := hid (HBi.out.trans hB5)
        have HLb5 := hid hLb5
        have HSm5 := hid hSm5
        have HRw5 := hid hrow5
        have HAl5 := hid hall5
        have hsz5 : w1.heap.size ≤ (w4.alloc (.cells #[lvv, svv] 99)).heap.size := HB5.out.2.2.2.1
        clear hI5 hB5 hLb5 hSm5 hrow5 hall5 h1 h3 h4 h5 h4' h5' hb5 hx5 HO4 HO5 hB4 HP2 HP3
        clear hln hsn
        subst hlv hsv
        go_wp2_with fail
        generalize w4.alloc (.cells #[.slice lva ln lvc, .slice sva sn svc] 99) = w5 at *
        generalize w4.heap.size = bx at *
        refine hcb.out.mono ?_
        rintro e w6 ⟨rfl, rfl⟩
        clear hcb
        go_wp2_with (at_builtin; refine wpList_append_own _ rfl (.tmp 15) (.tmp 17) 61 rfl w1.heap.size 99 ii (.agg #[.slice none 0 0, .slice none 0 0]) 2 48 Tryd.underlying61 HI0.out HZ0.out HZ1.out HZ2.out rfl (by decide) (.slice va i vc) i (xs.flatMap fun p => [p.1, p.2]) rfl (World.ownsRow.alloc HRw5.out _) ⟨w6.heap.size, 0, none⟩ 1 1 [.slice lva ln lvc, .slice sva sn svc] rfl rfl (two_news w6 _ _ 99) (by intro u hu; simp at hu; rcases hu with rfl | rfl <;> rfl) (by unfold maxLen; omega) (by omega) (by simp; omega) ?_)
        intro v7 w7 ho7 hg7 _
        have hrw : ∀ g, (Value.slice va i vc).ownBlock = some g → w1.heap.size ≤ g ∧ ∃ c', w6.heap[g]? = some (Obj.cells c' 99) := fun g hg => by
          refine ⟨(World.ownsRow.lt HRw5.out g hg).1, ?_⟩
          rcases HRw5.out.2 with ⟨h1, _⟩ | ⟨g', cap, cur, h1, _, h2, _⟩
          · rw [h1] at hg; cases hg
          · rw [h1] at hg
            have : g' = g := Option.some.inj hg
            subst this
            exact ⟨cur, h2⟩
        have hb6 : Below w6.heap.size w6 (w6.alloc (.cells #[.slice lva ln lvc, .slice sva sn svc] 99)) := (Below.refl _ _).alloc (Nat.le_refl _) _
        have hI7 : RdI w7 br r false := (hg7.block br (Nat.lt_of_lt_of_le (heap_lt HI5.out) hb6.size) (fun e => by
          obtain ⟨_, c', h1⟩ := hrw br e.symm
          exact rd_ne HI5.out h1 rfl (by decide))).trans ((hb6.block br (heap_lt HI5.out)).trans HI5.out)
        have hB7 : But br w1 w7 := (HB5.out.trans (But.below hb6)).own hg7 (fun g hg => (hrw g hg).1)
        have hcur : ∀ (g : Nat) (c : Array Value) (e : TypeId), e ≠ 99 → w6.heap[g]? = some (Obj.cells c e) → w7.heap[g]? = w6.heap[g]? := fun g c e he hg => by
          refine (hg7.block g (Nat.lt_of_lt_of_le (heap_lt hg) hb6.size) (fun e2 => ?_)).trans (hb6.block g (heap_lt hg))
          obtain ⟨_, c', h1⟩ := hrw g e2.symm
          rw [hg] at h1
          have := Option.some.inj h1
          simp only [Obj.cells.injEq] at this
          exact he this.2.1
        have hSO7 : SrOwn w7 w1.heap.size v7 (L.map toSr ++ [toSr (la, l)]) := by
          have hlm : (L.map toSr).length = i := by rw [List.length_map, HL1.out]
          refine SrOwn.snoc (by rw [hlm]; exact HP1.out) (by rw [hlm]; exact ho7) (fun i' hi' => ?_) ?_ ?_
          · obtain ⟨h1, h2⟩ := HAl5.out i' (by rw [hlm] at hi'; exact hi')
            exact ⟨row_kept h1 (fun g c hg => hcur g c _ (by decide) hg), row_kept h2 (fun g c hg => hcur g c _ (by decide) hg)⟩
          · exact row_kept HLb5.out (fun g c hg => hcur g c _ (by decide) hg)
          · exact row_kept HSm5.out (fun g c hg => hcur g c _ (by decide) hg)
        obtain ⟨a7, c7, hv7⟩ := own_slice ho7
        have HQ : Hid (RdI w7 br r false ∧ But br w1 w7 ∧ SrOwn w7 w1.heap.size v7 ((L ++ [(la, l)]).map toSr)) := ⟨hI7, hB7, by rw [List.map_append]; exact hSO7⟩
        have hrl : r.length ≤ S.length := by omega
        clear ho7 hg7 hrw hb6 hI7 hB7 hcur hSO7 HI5 HB5 HLb5 HSm5 HRw5 HAl5 y0 y1
        subst hv7
        go_wp2_with fail
        go_roundw
        case rel => exact ⟨i + 1, r, false, by go_num, HQ.out.1, HQ.out.2.1, hrl, by omega, .inl ⟨rfl, L ++ [(la, l)], by rw [List.length_append, HL1.out]; rfl, HL2.out, HL3.out.next HR1.out, HQ.out.2.2⟩⟩
        case measure => simp [intOf]; omega
      · have hb5 : Below w4.heap.size w4 (w4.alloc (.cells #[.slice none 0 0, .slice none 0 0] 99)) := (Below.refl _ w4).alloc (Nat.le_refl _) _
        have HI5 := hid (h3.below hb5)
        have HB5 := hid (HBi.out.trans (hB4.trans (But.below (bt := br) hb5)))
        have HCb := hid (bad_any br S' true _ HI5.out)
        have HNo : Hid (CD.rAll chD lbK S = none) := by
          show _ = _
          rw [HL2.out]
          exact HL3.out.fail h1
        clear hb5 h3 hB4 h1
        go_wp2_with fail
        refine HCb.out.mono ?_
        rintro e w6 ⟨rfl, rfl⟩
        go_wp2_with fail
        go_ret
        exact ⟨HB5.out, .inr ⟨HNo.out, rfl, S', HI5.out, by omega⟩⟩
    · have hk0 : k - i = 0 := by omega
      rcases HSti.out with ⟨hbi, L, hL1, hL2, hL3, hL4⟩ | ⟨hbi, hv, _, hNo⟩
      · subst hbi
        rw [hk0] at hL3
        have HE : Hid (CD.rAll chD lbK S = some (L, Si)) := by
          show _ = _
          rw [hL2]
          exact hL3.done
        have HSO := hid hL4
        obtain ⟨xs, hxs1, hxs2, _⟩ := hL4
        obtain ⟨va, vc, hv3⟩ := own_slice hxs2
        rw [List.length_map, hL1] at hv3
        clear hL1 hL2 hL3 hxs1 hxs2 HSti hk0
        subst hv3
        go_wp2_with fail
        go_ret
        exact ⟨HBi.out, .inl ⟨L, Si, _, HE.out, rfl, HIi.out, HSO.out, hSi⟩⟩
      · subst hbi hv
        have HNo := hid hNo
        clear HSti hNo hk0
        go_wp2_with fail
        go_ret
        exact ⟨HBi.out, .inr ⟨HNo.out, rfl, Si, HIi.out, hSi⟩⟩

end Go.Proofs.YtemikjncannndadDoor
