/- What a Taker's Series takes. -/
import Derived.Test.YtdmnlmohfaafoadGreatDoorCdMem
import Derived.Test.YtdmnlmohfaafoadGreatDoorCdRef
import Derived.Test.YtdmnlmohfaafoadGreatDoorCdCont
import Derived.Test.YtdmnlmohfaafoadGreatDoorCxRefL
import Derived.Test.YtdmnlmohfaafoadGreatDoorChRefR
namespace Go.Proofs.YtdmnlmohfaafoadGreatDoor
open Go.RowKit

theorem SrOwn.but {bt : Nat} {w w' : World} {base : Nat} {v : Value} {l : List Sr} {S : List UInt8} {bad : Bool} (h : SrOwn w base v l) (ht : TkI w bt S bad) (hb : But bt w w') : SrOwn w' base v l := h.kept fun g c e he hg => by
  refine hb.2.2.2.2 g (heap_lt hg) (fun e2 => ?_)
  subst e2
  have ht' : w.heap[g]? = some (.cells #[.string (sb S), .bool bad] 97) := ht
  rw [ht'] at hg
  have h2 : (97 : TypeId) = e := by
    have := Option.some.inj hg
    simp only [Obj.cells.injEq] at this
    exact this.2.1
  rw [← h2] at he
  revert he
  decide

/-- What Series tells of a Taker that was not bad. -/
def RSerEnd (w : World) (bt : Nat) (S : List UInt8) (e : Ending) (w' : World) : Prop :=
  But bt w w' ∧ ((∃ l r v, CD.rAll chD lbK S = some (l, r) ∧ e = .returned v ∧ TkI w' bt r false ∧ SrOwn w' w.heap.size v (l.map toSr)) ∨ (CD.rAll chD lbK S = none ∧ e = .returned (.slice none 0 0) ∧ ∃ S', TkI w' bt S' true ∧ S'.length ≤ S.length))

/-- What holds at the head of the loop over series. -/
def SerI (w : World) (bt : Nat) (S : List UInt8) (n : Int) (R : List UInt8) (i : Nat) (v : Value) (wr : World) : Prop :=
  ∃ (Si : List UInt8) (bi : Bool) (m : Nat) (xs : List Value), TkI wr bt Si bi ∧ But bt w wr ∧ Si.length ≤ S.length ∧ i ≤ S.length + 1 ∧ m ≤ i ∧ wr.ownsRow w.heap.size 55 2 v m xs ∧
    ((bi = false ∧ ∃ L : List (List CD.Lb × List CL.Smp), (i : Int) ≤ n ∧ n ≤ S.length ∧ L.length = i ∧ CD.rAll chD lbK S = CD.rS chD lbK n.toNat R ∧ CD.ContS chD lbK n.toNat R L (n.toNat - i) Si ∧ SrOwn wr w.heap.size v (L.map toSr)) ∨ (bi = true ∧ CD.rAll chD lbK S = none))

/-- Labels that were read are no longer than what they were read of. -/
theorem shrt_read {k : Nat} {R Sj : List UInt8} {la : List CD.Lb} (h : CD.rL k R = some (la, Sj)) (hR : R.length ≤ 2000) : Shrt (toLab la) := by
  obtain ⟨h1, _⟩ := CD.rL_inv h
  have hwl : ∀ (q : List CD.Lb) (x : CD.Lb), x ∈ q → x.1.length ≤ (CD.wL q).length ∧ x.2.length ≤ (CD.wL q).length := by
    intro q
    induction q with
    | nil => intro x hx; cases hx
    | cons y q ih =>
      intro x hx
      have e : (CD.wL (y :: q)).length = 8 + y.1.length + (8 + y.2.length) + (CD.wL q).length := by
        simp only [CD.wL, List.length_append, CD.wT_length]
        omega
      rw [e]
      rcases List.mem_cons.1 hx with h10 | h10
      · rw [h10]; omega
      · have := ih x h10; omega
  have hl : (CD.wL la).length ≤ 2000 := by
    have := congrArg List.length h1
    rw [List.length_append] at this
    omega
  intro i hi
  have hi' : i < la.length := by simpa [toLab] using hi
  have e : LB.at' (toLab la) i = (sb (la[i]'hi').1, sb (la[i]'hi').2) := by
    unfold LB.at' toLab
    rw [List.getD_eq_getElem?_getD, List.getElem?_map, List.getElem?_eq_getElem hi']
    rfl
  rw [e]
  have := hwl la (la[i]'hi') (List.getElem_mem hi')
  dsimp only
  rw [sb_size, sb_size]
  omega

/-- A Taker's block is of no other kind. -/
theorem tk_ne {w : World} {bt g : Nat} {S : List UInt8} {bad : Bool} {c : Array Value} {e : TypeId} (ht : TkI w bt S bad) (hg : w.heap[g]? = some (Obj.cells c e)) (hgb : g = bt) (he : 97 ≠ e) : False := by
  subst hgb
  have ht' : w.heap[g]? = some (.cells #[.string (sb S), .bool bad] 97) := ht
  rw [ht'] at hg
  have := Option.some.inj hg
  simp only [Obj.cells.injEq] at this
  exact he this.2.1

set_option maxRecDepth 100000 in
set_option maxHeartbeats 1600000 in
theorem rser_any (bt : Nat) (S : List UInt8) (w : World) (h : TkI w bt S false) (hS : S.length ≤ 2000) :
    Calls Tryz.prog 39 #[.pointer (some ⟨bt, 0, none⟩)] w fun e w' => RSerEnd w bt S e w' := by
  have HC := hid (rnum_any bt S false w h (by omega))
  have HT0 := hid h
  have hbt := heap_lt h
  clear h
  go_enter Tryz.func39, Tryz.ntmps39
  go_wp2_with fail
  refine HC.out.mono ?_
  rintro e w1 ⟨rfl, hT, hG⟩
  obtain ⟨n, R, b1, hN, hR, hn1, hn2⟩ : ∃ n R b1, tN S false = (n, R, b1) ∧ R.length ≤ S.length ∧ -9223372036854775808 ≤ n ∧ n ≤ 9223372036854775807 := by
    cases hr : CD.rN S with
    | none => exact ⟨0, S, true, tN_none hr, Nat.le_refl _, by omega, by omega⟩
    | some p =>
      obtain ⟨n, r⟩ := p
      have := CD.rN_inv hr
      have h2 := rN_len hr
      exact ⟨n, r, false, tN_some hr, by omega, this.2.1, this.2.2⟩
  rw [hN] at hT ⊢
  dsimp only at hT ⊢
  obtain ⟨c0, c1, f0, f1⟩ := hT.c
  have HT := hid hT
  have HG := hid hG
  have HN := hid hN
  have hz : (sb R).size = R.length := sb_size R
  have HBut := hid (But.grown HG.out)
  have hRS : (b1 = true ∧ n = 0 ∧ R = S ∧ CD.rAll chD lbK S = none) ∨ (b1 = false ∧ CD.rAll chD lbK S = if 0 ≤ n then CD.rS chD lbK n.toNat R else none) := by
    cases hr : CD.rN S with
    | none =>
      have h1 := tN_none hr
      rw [hN] at h1
      simp only [Prod.mk.injEq] at h1
      refine .inl ⟨h1.2.2, h1.1, h1.2.1, ?_⟩
      unfold CD.rAll
      rw [hr]
    | some p =>
      obtain ⟨n', r⟩ := p
      have h1 := tN_some hr
      rw [hN] at h1
      simp only [Prod.mk.injEq] at h1
      obtain ⟨rfl, rfl, rfl⟩ := h1
      refine .inr ⟨rfl, ?_⟩
      unfold CD.rAll
      rw [hr]
  have hcase : ∃ W, SerI w bt S n R 0 (.slice none 0 0) W ∧ ((0 ≤ n ∧ n ≤ (R.length : Int) ∧ W = w1) ∨ (¬ (0 ≤ n ∧ n ≤ (R.length : Int)) ∧ W = w1.setCell ⟨bt, 1, none⟩ (.bool true))) := by
    by_cases hr : 0 ≤ n ∧ n ≤ (R.length : Int)
    · refine ⟨w1, ⟨R, b1, 0, [], HT.out, HBut.out, hR, by omega, by omega, ⟨rfl, .inl ⟨rfl, rfl⟩⟩, ?_⟩, .inl ⟨hr.1, hr.2, rfl⟩⟩
      rcases hRS with ⟨h1, _, _, h2⟩ | ⟨h1, h2⟩
      · exact .inr ⟨h1, h2⟩
      · refine .inl ⟨h1, [], by omega, by omega, rfl, by rw [h2, if_pos hr.1], CD.ContS.start _ _, SrOwn.nil _ _⟩
    · refine ⟨_, ⟨R, true, 0, [], HT.out.s1 true, HBut.out.trans (But.grown (tgrown _ _ _ _)), hR, by omega, by omega, ⟨rfl, .inl ⟨rfl, rfl⟩⟩, .inr ⟨rfl, ?_⟩⟩, .inr ⟨hr, rfl⟩⟩
      rcases hRS with ⟨_, h1, h2, h3⟩ | ⟨_, h2⟩
      · exact h3
      · rw [h2]
        by_cases hn0 : 0 ≤ n
        · rw [if_pos hn0]
          exact CD.rS_many (by omega)
        · rw [if_neg hn0]
  obtain ⟨W0, hI0, hW0⟩ := hcase
  have HI0 := hid hI0
  clear hT hG HC hN hRS hI0 HBut
  have key : ∀ W : World, W = W0 → Hid (SerI w bt S n R 0 (.slice none 0 0) W) := fun W hW => by rw [hW]; exact HI0.out
  have HIn := lrin_any n 0 (R.length : Int) w1
  obtain ⟨q, hq⟩ : ∃ q, decide (0 ≤ n ∧ n ≤ (R.length : Int)) = q := ⟨_, rfl⟩
  rw [hq] at HIn
  have HIn := hid HIn
  have hW1 : (q = true ∧ W0 = w1) ∨ (q = false ∧ W0 = w1.setCell ⟨bt, 1, none⟩ (.bool true)) := by
    rcases hW0 with ⟨g1, g2, g3⟩ | ⟨g1, g3⟩
    · exact .inl ⟨by rw [← hq]; exact decide_eq_true ⟨g1, g2⟩, g3⟩
    · exact .inr ⟨by rw [← hq]; exact decide_eq_false g1, g3⟩
  have HW1 := hid hW1
  clear hW0 hq hW1
  go_upto_if 21 with (first | (refine HIn.out.mono ?_; rintro e w2 ⟨rfl, rfl⟩) | fail)
  go_cut [] (fun wx => wx = W0)
  case first =>
    rcases HW1.out with ⟨rfl, g3⟩ | ⟨rfl, g3⟩
    · go_wp2_with fail
      go_meet
      case rel => exact g3.symm
    · go_wp2_with fail
      go_meet
      case rel => exact g3.symm
  case rest =>
    have HI1 := key _ hcut
    clear key HI0 HW1 hcut HT HG HN c0 c1 f0 f1
    go_wp2_with fail
    go_loopw [3, 5] (fun t3 t5 wr => ∃ i : Nat, t5 = .int .i64 i ∧ SerI w bt S n R i t3 wr) (fun _ t5 _ => S.length + 2 - (intOf t5).toNat)
    case atStart => exact ⟨0, rfl, HI1.out⟩
    case round =>
      obtain ⟨i, rfl, Si, bi, m, xs, hT, hBut, hSl, hil, hmi, hrow, hst⟩ := hrel
      obtain ⟨c0, c1, f0, f1⟩ := hT.c
      have HT := hid hT
      have HBt := hid hBut
      have HRow := hid hrow
      obtain ⟨va, vc, hv3⟩ := own_slice hrow
      have hszr := hBut.2.2.2.1
      clear hT hBut hrow HI1
      cases bi with
      | true =>
        have HNo : Hid (CD.rAll chD lbK S = none) := by
          rcases hst with ⟨h1, _⟩ | ⟨_, h1⟩
          · cases h1
          · exact h1
        clear hst
        subst hv3
        by_cases hin : (i : Int) < n
        · go_wp2_with fail
          go_ret
          exact ⟨HBt.out, .inr ⟨HNo.out, rfl, _, HT.out, hSl⟩⟩
        · go_wp2_with fail
          go_ret
          exact ⟨HBt.out, .inr ⟨HNo.out, rfl, _, HT.out, hSl⟩⟩
      | false =>
        obtain ⟨L, hL1, hL2, hL3, hL4, hL5, hL6⟩ : ∃ L : List (List CD.Lb × List CL.Smp), (i : Int) ≤ n ∧ n ≤ S.length ∧ L.length = i ∧ CD.rAll chD lbK S = CD.rS chD lbK n.toNat R ∧ CD.ContS chD lbK n.toNat R L (n.toNat - i) Si ∧ SrOwn wr w.heap.size u3 (L.map toSr) := by
          rcases hst with ⟨_, h1⟩ | ⟨h1, _⟩
          · exact h1
          · cases h1
        have HA := hid hL4
        have HCo := hid hL5
        have HSO := hid hL6
        have HL3 := hid hL3
        clear hst hL3 hL4 hL5 hL6
        by_cases hin : (i : Int) < n
        · subst hv3
          generalize wr = wo at *
          have hb1 : Below wo.heap.size wo (wo.alloc (.cells #[.slice none 0 0, .slice none 0 0] 55)) := (Below.refl _ wo).alloc (Nat.le_refl _) _
          have hT1 : TkI (wo.alloc (.cells #[.slice none 0 0, .slice none 0 0] 55)) bt Si false := (hb1.block bt (heap_lt HT.out)).trans HT.out
          have hx1 := heap_alloc_new wo (.cells #[.slice none 0 0, .slice none 0 0] 55)
          have HC1 := hid (rnum_any bt Si false _ hT1 (by omega))
          have HBt1 := hid (HBt.out.trans (But.below hb1))
          have HBw1 : Hid (But bt wo (wo.alloc (.cells #[.slice none 0 0, .slice none 0 0] 55))) := But.below hb1
          have HX1 := hid hx1
          have hne : wo.heap.size ≠ bt := by have := heap_lt HT.out; omega
          clear hb1 hT1 hx1
          go_wp2_with fail
          refine HC1.out.mono ?_
          rintro e w2 ⟨rfl, hT2, hG2⟩
          obtain ⟨k, R1, b2, hN1, hR1, hk1, hk2, hkn⟩ : ∃ k R1 b2, tN Si false = (k, R1, b2) ∧ R1.length ≤ Si.length ∧ -9223372036854775808 ≤ k ∧ k ≤ 9223372036854775807 ∧ ((b2 = true ∧ k = 0 ∧ CD.rOne chD lbK Si = none) ∨ (b2 = false ∧ CD.rN Si = some (k, R1))) := by
            cases hr : CD.rN Si with
            | none => exact ⟨0, Si, true, tN_none hr, Nat.le_refl _, by omega, by omega, .inl ⟨rfl, rfl, CD.rOne_none1 hr⟩⟩
            | some p =>
              obtain ⟨n', r⟩ := p
              have h1 := CD.rN_inv hr
              have h2 := rN_len hr
              exact ⟨n', r, false, tN_some hr, by omega, h1.2.1, h1.2.2, .inr ⟨rfl, rfl⟩⟩
          rw [hN1] at hT2 ⊢
          dsimp only at hT2 ⊢
          obtain ⟨g0, g1, g2, g3⟩ := hT2.c
          have HT2 := hid hT2
          have HKN := hid hkn
          have HBt2 := hid (HBt1.out.trans (But.grown hG2))
          have HBw := hid (HBw1.out.trans (But.grown hG2))
          have hx2 := (hG2.block wo.heap.size (by simp) (fun e => hne (Option.some.inj e))).trans HX1.out
          have HX2 := hid hx2
          have hsz2 : wo.heap.size + 1 ≤ w2.heap.size := by have := hG2.size; simp at this; omega
          have HIn := lrin_any k 0 8 w2
          obtain ⟨q, hq⟩ : ∃ q, decide (0 ≤ k ∧ k ≤ (8 : Int)) = q := ⟨_, rfl⟩
          rw [hq] at HIn
          have HIn := hid HIn
          have HQ := hid hq
          clear hT2 hG2 hN1 HC1 hkn hq hx2 c0 c1 f0 f1
          have hb0 : But bt wo w2 := HBw.out
          generalize hbx : wo.heap.size = bx at *
          go_upto_if 41 with (first | (refine HIn.out.mono ?_; rintro e w3 ⟨rfl, rfl⟩) | fail)
          go_cut [] (fun wx => ∃ b3 : Bool, TkI wx bt R1 b3 ∧ But bt wo wx ∧ wx.heap[bx]? = some (.cells #[.slice none 0 0, .slice none 0 0] 55) ∧ ((b3 = false ∧ 0 ≤ k ∧ k ≤ 8 ∧ CD.rN Si = some (k, R1)) ∨ (b3 = true ∧ CD.rOne chD lbK Si = none)))
          case first =>
            cases q with
            | true =>
              have hkk := of_decide_eq_true HQ.out
              go_wp2_with fail
              go_meet
              case rel =>
                refine ⟨b2, HT2.out, hb0, HX2.out, ?_⟩
                rcases HKN.out with ⟨h1, _, h2⟩ | ⟨h1, h2⟩
                · exact .inr ⟨h1, h2⟩
                · exact .inl ⟨h1, hkk.1, hkk.2, h2⟩
            | false =>
              have hkk := of_decide_eq_false HQ.out
              have HKK := hid hkk
              clear hkk
              go_wp2_with fail
              go_meet
              case rel =>
                refine ⟨true, HT2.out.s1 true, hb0.trans (But.grown (tgrown _ _ _ _)), (Below.heap_setCell _ ⟨bt, 1, none⟩ _ bx hne).trans HX2.out, .inr ⟨rfl, ?_⟩⟩
                rcases HKN.out with ⟨_, _, h2⟩ | ⟨_, h2⟩
                · exact h2
                · exact CD.rOne_none2 h2 HKK.out
          case rest =>
            obtain ⟨b3, hT3, hB3, hX3, hk3⟩ := hcut
            have HT3 := hid hT3
            have HB3 := hid hB3
            have HX3 := hid hX3
            have HK3 := hid hk3
            have hsz3 := heap_lt hX3
            clear hT3 hB3 hX3 hk3 hb0 HX2 HT2 HIn HQ HKN g0 g1 g2 g3 HBt2 HX1 HBt1
            go_upto_block 2 with fail
            go_cut [] (fun wx => ∃ (Sj : List UInt8) (bj : Bool) (la : List CD.Lb) (laM : List LB.Lab) (lvv : Value), TkI wx bt Sj bj ∧ But bt wo wx ∧ Sj.length ≤ R1.length ∧ wx.heap[bx]? = some (.cells #[lvv, .slice none 0 0] 55) ∧ OwnLb wx (bx + 1) lvv laM ∧ laM.length ≤ 8 ∧ ((bj = false ∧ laM = toLab la ∧ 0 ≤ k ∧ k ≤ 8 ∧ CD.rN Si = some (k, R1) ∧ CD.rL k.toNat R1 = some (la, Sj)) ∨ (bj = true ∧ CD.rOne chD lbK Si = none)))
            case first =>
              obtain ⟨ii, hii, hz0, hz1, hz2⟩ := info_parts Tryz.infoLb
              have HI0 := hid hii
              have HZ0 := hid hz0
              have HZ1 := hid hz1
              have HZ2 := hid hz2
              clear hii hz0 hz1 hz2
              go_wp2_with fail
              go_loopw [8] (fun t8 wq => ∃ (j : Nat) (Sj : List UInt8) (bj : Bool) (la : List CD.Lb) (laM : List LB.Lab) (lvv : Value), t8 = .int .i64 j ∧ TkI wq bt Sj bj ∧ But bt wo wq ∧ Sj.length ≤ R1.length ∧ wq.heap[bx]? = some (.cells #[lvv, .slice none 0 0] 55) ∧ OwnLb wq (bx + 1) lvv laM ∧ laM.length = j ∧ j ≤ 8 ∧ ((bj = false ∧ laM = toLab la ∧ (j : Int) ≤ k ∧ 0 ≤ k ∧ k ≤ 8 ∧ CD.rN Si = some (k, R1) ∧ CD.ContL k.toNat R1 la (k.toNat - j) Sj) ∨ (bj = true ∧ CD.rOne chD lbK Si = none))) (fun t8 _ => 9 - (intOf t8).toNat)
              case atStart =>
                refine ⟨0, R1, b3, [], [], .slice none 0 0, rfl, HT3.out, HB3.out, Nat.le_refl _, HX3.out, ⟨rfl, .inl ⟨rfl, rfl⟩⟩, rfl, by omega, ?_⟩
                rcases HK3.out with ⟨h1, h2, h3, h4⟩ | h1
                · exact .inl ⟨h1, rfl, by omega, h2, h3, h4, CD.ContL.start _ _⟩
                · exact .inr h1
              case round =>
                obtain ⟨j, Sj, bj, la, laM, lvv, rfl, hTj, hBj, hSj, hXj, hOj, hlj, hj8, hstj⟩ := hrel
                obtain ⟨g0, g1, g2, g3⟩ := hTj.c
                have x0 := zcell' _ bx _ _ hXj 0 _ rfl
                have HTj := hid hTj
                have HBj := hid hBj
                have HXj := hid hXj
                have HOj := hid hOj
                have HSt := hid hstj
                have hszj := heap_lt hXj
                have hR1 : R1.length ≤ 2000 := by omega
                clear hTj hBj hXj hOj hstj
                by_cases hgo : (j : Int) < k ∧ bj = false
                · obtain ⟨hjk, rfl⟩ := hgo
                  obtain ⟨ha1, ha2, ha3, ha4, ha5, ha6⟩ : laM = toLab la ∧ (j : Int) ≤ k ∧ 0 ≤ k ∧ k ≤ 8 ∧ CD.rN Si = some (k, R1) ∧ CD.ContL k.toNat R1 la (k.toNat - j) Sj := by
                    rcases HSt.out with ⟨_, h1⟩ | ⟨h1, _⟩
                    · exact h1
                    · cases h1
                  have hm : ∃ m', k.toNat - j = m' + 1 ∧ k.toNat - (j + 1) = m' := ⟨k.toNat - j - 1, by omega, by omega⟩
                  obtain ⟨m', hm1, hm2⟩ := hm
                  rw [hm1] at ha6
                  have HA1 := hid ha1
                  have HA5 := hid ha5
                  have HCL := hid ha6
                  have HC1 := hid (rtxt_any bt Sj false _ HTj.out (by omega))
                  clear ha1 ha5 ha6 HSt
                  go_wp2_with fail
                  refine HC1.out.mono ?_
                  rintro e w4 ⟨rfl, hT4, hG4⟩
                  obtain ⟨a1, S4, b4, hE4, hl4, hs4⟩ : ∃ a1 S4 b4, tT Sj false = (a1, S4, b4) ∧ S4.length ≤ Sj.length ∧ ((b4 = false ∧ CD.rT Sj = some (a1, S4)) ∨ (b4 = true ∧ CD.rT Sj = none)) := by
                    cases hr : CD.rT Sj with
                    | none =>
                      obtain ⟨S', h1, h2⟩ := tT_none hr
                      exact ⟨_, _, _, h1, h2, .inr ⟨rfl, rfl⟩⟩
                    | some p =>
                      obtain ⟨t, r⟩ := p
                      have h2 := CD.rT_len hr
                      exact ⟨t, r, false, tT_some hr, by omega, .inl ⟨rfl, rfl⟩⟩
                  rw [hE4] at hT4 ⊢
                  dsimp only at hT4 ⊢
                  have HT4 := hid hT4
                  have hX4 := (hG4.block bx hszj (fun e => hne (Option.some.inj e))).trans HXj.out
                  have hO4 : OwnLb w4 (bx + 1) lvv laM := row_kept HOj.out (fun g c hg => hG4.block g (heap_lt hg) (fun e => tk_ne HTj.out hg (Option.some.inj e) (by decide)))
                  have HB4 := hid (HBj.out.trans (But.grown hG4))
                  have HS4 := hid hs4
                  have HC2 := hid (rtxt_any bt S4 b4 _ hT4 (by omega))
                  have HX4 := hid hX4
                  have HO4 := hid hO4
                  have hsz4 := heap_lt hX4
                  clear hT4 hG4 hE4 hs4 hX4 hO4 HC1
                  go_wp2_with fail
                  refine HC2.out.mono ?_
                  rintro e w5 ⟨rfl, hT5, hG5⟩
                  obtain ⟨a2, S5, b5, hE5, hl5, hs5⟩ : ∃ a2 S5 b5, tT S4 b4 = (a2, S5, b5) ∧ S5.length ≤ S4.length ∧ ((b5 = false ∧ b4 = false ∧ CD.rT S4 = some (a2, S5)) ∨ (b5 = true ∧ (b4 = true ∨ CD.rT S4 = none))) := by
                    cases b4 with
                    | true => exact ⟨_, _, _, tT_bad S4, Nat.le_refl _, .inr ⟨rfl, .inl rfl⟩⟩
                    | false =>
                      cases hr : CD.rT S4 with
                      | none =>
                        obtain ⟨S', h1, h2⟩ := tT_none hr
                        exact ⟨_, _, _, h1, h2, .inr ⟨rfl, .inr rfl⟩⟩
                      | some p =>
                        obtain ⟨t, r⟩ := p
                        have h2 := CD.rT_len hr
                        exact ⟨t, r, false, tT_some hr, by omega, .inl ⟨rfl, rfl, rfl⟩⟩
                  rw [hE5] at hT5 ⊢
                  dsimp only at hT5 ⊢
                  have hX5 := (hG5.block bx hsz4 (fun e => hne (Option.some.inj e))).trans HX4.out
                  have hO5 : OwnLb w5 (bx + 1) lvv laM := row_kept HO4.out (fun g c hg => hG5.block g (heap_lt hg) (fun e => tk_ne HT4.out hg (Option.some.inj e) (by decide)))
                  have y0 : w5.cell? ⟨bx, 0, none⟩ = some lvv := zcell' _ bx _ _ hX5 0 _ rfl
                  have y0f : w5.frozen? ⟨bx, 0, none⟩ = false := by simp [World.frozen?, hX5]
                  have HB5 := hid (HB4.out.trans (But.grown hG5))
                  have HS5 := hid hs5
                  have HT5 := hid hT5
                  have HX5 := hid hX5
                  have HO5 := hid hO5
                  have hsz5 := heap_lt hX5
                  obtain ⟨lva, lvc, hlvv⟩ := own_slice hO5
                  rw [hlj] at hlvv
                  clear hT5 hG5 hE5 hs5 hX5 hO5 HC2 x0 g0 g1 g2 g3
                  subst hlvv
                  go_wp2_with (at_builtin; refine wpList_append_own _ rfl (.tmp 62) (.tmp 66) 50 rfl (bx + 1) 49 ii (.agg #[.string ⟨#[]⟩, .string ⟨#[]⟩]) 2 32 Tryz.underlying50 HI0.out HZ0.out HZ1.out HZ2.out rfl (by decide) (.slice lva j lvc) laM.length (lv laM) rfl (World.ownsRow.alloc HO5.out _) ⟨w5.heap.size, 0, none⟩ 1 1 [.string (sb a1), .string (sb a2)] rfl rfl (two_news w5 _ _ 49) (by intro u hu; simp at hu; rcases hu with rfl | rfl <;> rfl) (by unfold maxLen; omega) (by omega) (by simp; omega) ?_)
                  intro v7 w7 ho7 hg7 _
                  have hO7 : OwnLb w7 (bx + 1) v7 (laM ++ [(sb a1, sb a2)]) := by
                    show World.ownsRow _ _ _ _ _ _ _
                    rw [List.length_append, lv_append, hlj]
                    exact ho7
                  have hrow7 : ∀ g, (Value.slice lva j lvc).ownBlock = some g → bx + 1 ≤ g := fun g hg => (World.ownsRow.lt HO5.out g hg).1
                  have hb5 : Below w5.heap.size w5 (w5.alloc (.cells #[.string (sb a1), .string (sb a2)] 49)) := (Below.refl _ w5).alloc (Nat.le_refl _) _
                  have hbtx : bt < bx := by rw [← hbx]; exact heap_lt HT.out
                  have hX7 : w7.heap[bx]? = some (.cells #[.slice lva j lvc, .slice none 0 0] 55) := (hg7.block bx (Nat.lt_of_lt_of_le hsz5 hb5.size) (fun e => by have := hrow7 bx e.symm; omega)).trans ((hb5.block bx hsz5).trans HX5.out)
                  have hT7 : TkI w7 bt S5 b5 := (hg7.block bt (by have := hb5.size; omega) (fun e => by have := hrow7 bt e.symm; omega)).trans ((hb5.block bt (by omega)).trans HT5.out)
                  have hB7 : But bt wo w7 := (HB5.out.trans (But.below hb5)).own hg7 (fun g hg => by have := hrow7 g hg; omega)
                  have z0 := zcell' _ bx _ _ hX7 0 _ rfl
                  have z0f : w7.frozen? ⟨bx, 0, none⟩ = false := by simp [World.frozen?, hX7]
                  have HQ : Hid (TkI (w7.setCell ⟨bx, 0, none⟩ v7) bt S5 b5 ∧ But bt wo (w7.setCell ⟨bx, 0, none⟩ v7) ∧ (w7.setCell ⟨bx, 0, none⟩ v7).heap[bx]? = some (.cells #[v7, .slice none 0 0] 55) ∧ OwnLb (w7.setCell ⟨bx, 0, none⟩ v7) (bx + 1) v7 (laM ++ [(sb a1, sb a2)])) := by
                    refine ⟨(Below.heap_setCell w7 ⟨bx, 0, none⟩ v7 bt (by show bt ≠ bx; omega)).trans hT7, hB7.own (tgrown w7 bx 0 v7) (fun g hg => by cases hg; omega), ?_, ownsRow_setCell_below hO7 (a := ⟨bx, 0, none⟩) (by show bx < bx + 1; omega) v7⟩
                    rw [heap_setCell_same w7 bx 0 _ _ _ hX7]; rfl
                  have HSt2 : Hid ((b5 = false ∧ laM ++ [(sb a1, sb a2)] = toLab (la ++ [(a1, a2)]) ∧ ((j + 1 : Nat) : Int) ≤ k ∧ 0 ≤ k ∧ k ≤ 8 ∧ CD.rN Si = some (k, R1) ∧ CD.ContL k.toNat R1 (la ++ [(a1, a2)]) (k.toNat - (j + 1)) S5) ∨ (b5 = true ∧ CD.rOne chD lbK Si = none)) := by
                    rcases HS5.out with ⟨h1, h2, h3⟩ | ⟨h1, h2⟩
                    · refine .inl ⟨h1, ?_, by omega, ha3, ha4, HA5.out, ?_⟩
                      · rw [HA1.out]; simp [toLab]
                      · rw [hm2]
                        rcases HS4.out with ⟨_, h4⟩ | ⟨h4, _⟩
                        · exact HCL.out.next h4 h3
                        · rw [h2] at h4; cases h4
                    · refine .inr ⟨h1, CD.rOne_none3 HA5.out rfl (HCL.out.fail ?_)⟩
                      rcases HS4.out with ⟨h4, h5⟩ | ⟨_, h5⟩
                      · rcases h2 with h2 | h2
                        · rw [h4] at h2; cases h2
                        · exact .inr ⟨_, _, h5, h2⟩
                      · exact .inl h5
                  obtain ⟨a7, c7, hv7⟩ := own_slice hO7
                  have hv8 : v7 = .slice a7 (j + 1) c7 := by rw [hv7, List.length_append, hlj]; rfl
                  clear hv7
                  subst hv8
                  have hS5 : S5.length ≤ R1.length := by omega
                  clear ho7 hg7 hO7 hrow7 hb5 hX7 hT7 hB7 HO5 HX5 HT5 HB5 HS5 HS4 HCL HA1 HA5
                  go_wp2_with fail
                  go_roundw
                  case rel => exact ⟨j + 1, S5, b5, la ++ [(a1, a2)], laM ++ [(sb a1, sb a2)], _, by go_num, HQ.out.1, HQ.out.2.1, hS5, HQ.out.2.2.1, HQ.out.2.2.2, by rw [List.length_append, hlj]; rfl, by omega, HSt2.out⟩
                  case measure => simp [intOf]; omega
                · have HEx : Hid ((bj = false ∧ laM = toLab la ∧ 0 ≤ k ∧ k ≤ 8 ∧ CD.rN Si = some (k, R1) ∧ CD.rL k.toNat R1 = some (la, Sj)) ∨ (bj = true ∧ CD.rOne chD lbK Si = none)) := by
                    rcases HSt.out with ⟨h1, h2, h3, h4, h5, h6, h7⟩ | h1
                    · have hk0 : k.toNat - j = 0 := by
                        have : ¬ (j : Int) < k := fun h => hgo ⟨h, h1⟩
                        omega
                      rw [hk0] at h7
                      exact .inl ⟨h1, h2, h4, h5, h6, h7.done⟩
                    · exact .inr h1
                  have HExT : Hid (bj = true → CD.rOne chD lbK Si = none) := fun h => by
                    rcases HEx.out with ⟨h1, _⟩ | ⟨_, h1⟩
                    · rw [h] at h1; cases h1
                    · exact h1
                  have HExF : Hid (bj = false → laM = toLab la ∧ 0 ≤ k ∧ k ≤ 8 ∧ CD.rN Si = some (k, R1) ∧ CD.rL k.toNat R1 = some (la, Sj)) := fun h => by
                    rcases HEx.out with ⟨_, h1⟩ | ⟨h1, _⟩
                    · exact h1
                    · rw [h] at h1; cases h1
                  clear HEx
                  cases bj with
                  | true =>
                    have HR := hid (HExT.out rfl)
                    clear HExT HExF
                    by_cases hjk : (j : Int) < k
                    · go_wp2_with fail
                      go_meet
                      case rel => exact ⟨Sj, true, la, laM, lvv, HTj.out, HBj.out, hSj, HXj.out, HOj.out, by omega, .inr ⟨rfl, HR.out⟩⟩
                    · go_wp2_with fail
                      go_meet
                      case rel => exact ⟨Sj, true, la, laM, lvv, HTj.out, HBj.out, hSj, HXj.out, HOj.out, by omega, .inr ⟨rfl, HR.out⟩⟩
                  | false =>
                    have HR := hid (HExF.out rfl)
                    have hjk : ¬ (j : Int) < k := fun h => hgo ⟨h, rfl⟩
                    clear HExT HExF hgo
                    go_wp2_with fail
                    go_meet
                    case rel => exact ⟨Sj, false, la, laM, lvv, HTj.out, HBj.out, hSj, HXj.out, HOj.out, by omega, .inl ⟨rfl, HR.out⟩⟩
            case rest =>
              obtain ⟨Sj, bj, la, laM, lvv, hTj, hBj, hSj, hXj, hOj, hl8, hst⟩ := hcut
              have hR1 : R1.length ≤ 2000 := by omega
              have hbtx : bt < bx := by rw [← hbx]; exact heap_lt HT.out
              obtain ⟨c, S6, b6, hE6, hl6, hc6, hs6⟩ : ∃ c S6 b6, tT Sj bj = (c, S6, b6) ∧ S6.length ≤ Sj.length ∧ c.length ≤ 2000 ∧ ((b6 = false ∧ bj = false ∧ CD.rT Sj = some (c, S6)) ∨ (b6 = true ∧ CD.rOne chD lbK Si = none)) := by
                rcases hst with ⟨h1, h2, h3, h4, h5, h6⟩ | ⟨h1, h2⟩
                · subst h1
                  cases hr : CD.rT Sj with
                  | none =>
                    obtain ⟨S', h7, h8⟩ := tT_none hr
                    exact ⟨_, _, _, h7, h8, by simp, .inr ⟨rfl, CD.rOne_none4 h5 rfl h6 (.inl hr)⟩⟩
                  | some p =>
                    obtain ⟨t, r⟩ := p
                    have h7 := CD.rT_len hr
                    exact ⟨t, r, false, tT_some hr, by omega, by omega, .inl ⟨rfl, rfl, rfl⟩⟩
                · subst h1
                  exact ⟨_, _, _, tT_bad Sj, Nat.le_refl _, by simp, .inr ⟨rfl, h2⟩⟩
              have HC6 := rtxt_any bt Sj bj wc hTj (by omega)
              rw [hE6] at HC6
              have HC6 := hid HC6
              have HTj := hid hTj
              have HBj := hid hBj
              have HXj := hid hXj
              have HOj := hid hOj
              have HSt := hid hst
              have HS6 := hid hs6
              have hszj := heap_lt hXj
              clear hTj hBj hXj hOj hst hs6 hE6
              go_wp2_with fail
              refine HC6.out.mono ?_
              rintro e w6 ⟨rfl, hT6, hG6⟩
              dsimp only at hT6 ⊢
              have hX6 := (hG6.block bx hszj (fun e => hne (Option.some.inj e))).trans HXj.out
              have hO6 : OwnLb w6 (bx + 1) lvv laM := row_kept HOj.out (fun g c hg => hG6.block g (heap_lt hg) (fun e => tk_ne HTj.out hg (Option.some.inj e) (by decide)))
              have HB6 := hid (HBj.out.trans (But.grown hG6))
              have HT6 := hid hT6
              have HX6 := hid hX6
              have HO6 := hid hO6
              have hsz6 := heap_lt hX6
              have hcz : (sb c).size ≤ 2000 := by rw [sb_size]; exact hc6
              have HRd := hid (rread_any (sb c) w6 hcz)
              clear hT6 hG6 hX6 hO6 HC6 hcz
              go_wp2_with fail
              refine HRd.out.mono ?_
              intro e w7 hrd
              obtain ⟨sva, svn, svc, ev, rfl, hb7, hsv⟩ : ∃ sva svn svc ev, e = .returned (.tuple #[.slice sva svn svc, .int .i64 ev]) ∧ Below w6.heap.size w6 w7 ∧ ((ev = 0 ∧ ∃ l, chD c = some l ∧ OwnSm w7 w6.heap.size (.slice sva svn svc) l) ∨ (ev = 3 ∧ chD c = none)) := by
                unfold chD
                cases hr : CL.readL (bitsS (sb c)) with
                | none =>
                  rw [hr] at hrd
                  obtain ⟨h1, h2⟩ := hrd
                  exact ⟨none, 0, 0, 3, h1, h2, .inr ⟨rfl, rfl⟩⟩
                | some l =>
                  rw [hr] at hrd
                  obtain ⟨v, h1, h2, h3⟩ := hrd
                  obtain ⟨va', vc', hv⟩ := own_slice h2
                  rw [hv] at h1 h2
                  exact ⟨_, _, _, 0, h1, h3, .inl ⟨rfl, l, rfl, h2⟩⟩
              have hX7 := (hb7.block bx hsz6).trans HX6.out
              have s1 := zcell' _ bx _ _ hX7 1 _ rfl
              have s1f : w7.frozen? ⟨bx, 1, none⟩ = false := by simp [World.frozen?, hX7]
              have HS7 := hid hsv
              have HX7 := hid hX7
              have HB7 := hid hb7
              clear hrd hb7 hsv hX7 HRd
              go_upto_region 20 with fail
              have hX8 : (w7.setCell ⟨bx, 1, none⟩ (.slice sva svn svc)).heap[bx]? = some (.cells #[lvv, .slice sva svn svc] 55) := by
                rw [heap_setCell_same w7 bx 1 _ _ _ HX7.out]; rfl
              have hT8 : TkI (w7.setCell ⟨bx, 1, none⟩ (.slice sva svn svc)) bt S6 b6 := (Below.heap_setCell w7 ⟨bx, 1, none⟩ _ bt (by show bt ≠ bx; omega)).trans ((HB7.out.block bt (heap_lt HT6.out)).trans HT6.out)
              have hB8 : But bt wo (w7.setCell ⟨bx, 1, none⟩ (.slice sva svn svc)) := (HB6.out.trans (But.below HB7.out)).own (tgrown w7 bx 1 _) (fun g hg => by cases hg; omega)
              have hO8 : OwnLb (w7.setCell ⟨bx, 1, none⟩ (.slice sva svn svc)) (bx + 1) lvv laM := ownsRow_setCell_below (row_kept HO6.out (fun g c hg => HB7.out.block g (heap_lt hg))) (a := ⟨bx, 1, none⟩) (by show bx < bx + 1; omega) _
              have hS8 : (ev = 0 ∧ ∃ l, chD c = some l ∧ OwnSm (w7.setCell ⟨bx, 1, none⟩ (.slice sva svn svc)) (bx + 1) (.slice sva svn svc) l) ∨ (ev = 3 ∧ chD c = none) := by
                rcases HS7.out with ⟨h1, l, h2, h3⟩ | h1
                · exact .inl ⟨h1, l, h2, ownsRow_setCell_below (row_low h3 (by omega)) (a := ⟨bx, 1, none⟩) (by show bx < bx + 1; omega) _⟩
                · exact .inr h1
              generalize w7.setCell ⟨bx, 1, none⟩ (.slice sva svn svc) = w8 at *
              obtain ⟨lva, lvc, hlvv⟩ := own_slice hO8
              subst hlvv
              have y0 := zcell' _ bx _ _ hX8 0 _ rfl
              have y1 := zcell' _ bx _ _ hX8 1 _ rfl
              obtain ⟨t0, t1, t2, t3⟩ := hT8.c
              have HX8 := hid hX8
              have HT8 := hid hT8
              have HB8 := hid hB8
              have HO8 := hid hO8
              have HS8 := hid hS8
              clear hX8 hT8 hB8 hO8 hS8 HS7 HX7 HB7 HT6 HX6 HO6 HB6 s1 s1f
              have HOne : Hid (b6 = false → LB.right laM = true → ∀ l, chD c = some l → CD.rOne chD lbK Si = some ((la, l), S6) ∧ laM = toLab la) := fun h1 h2 l h3 => by
                rcases HS6.out with ⟨_, h5, h6⟩ | ⟨h5, _⟩
                · rcases HSt.out with ⟨_, h8, h9, h10, h11, h12⟩ | ⟨h8, _⟩
                  · refine ⟨CD.rOne_ok h11 ⟨h9, h10⟩ rfl h12 h6 ?_ h3, h8⟩
                    unfold lbK
                    rw [← h8]; exact h2
                  · rw [h5] at h8; cases h8
                · rw [h1] at h5; cases h5
              have HNoL : Hid (b6 = false → (LB.right laM = false ∨ chD c = none) → CD.rOne chD lbK Si = none) := fun h1 h2 => by
                rcases HS6.out with ⟨_, h5, h6⟩ | ⟨h5, _⟩
                · rcases HSt.out with ⟨_, h8, h9, h10, h11, h12⟩ | ⟨h8, _⟩
                  · refine CD.rOne_none4 h11 rfl h12 (.inr ?_)
                    rcases h2 with h2 | h2
                    · left
                      unfold lbK
                      rw [← h8]; exact h2
                    · exact .inr ⟨c, S6, h6, h2⟩
                  · rw [h5] at h8; cases h8
                · rw [h1] at h5; cases h5
              have HNoB : Hid (b6 = true → CD.rOne chD lbK Si = none) := fun h1 => by
                rcases HS6.out with ⟨h5, _⟩ | ⟨_, h5⟩
                · rw [h1] at h5; cases h5
                · exact h5
              have hSh : b6 = false → Shrt laM := fun h1 => by
                rcases HS6.out with ⟨_, h5, _⟩ | ⟨h5, _⟩
                · rcases HSt.out with ⟨_, h8, _, _, _, h12⟩ | ⟨h8, _⟩
                  · rw [h8]
                    exact shrt_read h12 hR1
                  · rw [h5] at h8; cases h8
                · rw [h1] at h5; cases h5
              have HSh := hid hSh
              clear hSh HSt HS6
              go_cut [89] (fun s89 wx => ∃ q : Bool, s89 = .bool q ∧ Below w8.heap.size w8 wx ∧ (q = true → CD.rOne chD lbK Si = none) ∧ (q = false → b6 = false ∧ ∃ l, CD.rOne chD lbK Si = some ((la, l), S6) ∧ laM = toLab la ∧ OwnSm w8 (bx + 1) (.slice sva svn svc) l))
              case first =>
                cases b6 with
                | true =>
                  have HR := hid (HNoB.out rfl)
                  clear HNoB HNoL HOne HSh
                  go_wp2_with fail
                  go_meet
                  case rel => exact ⟨true, rfl, Below.refl _ _, fun _ => HR.out, fun h => by cases h⟩
                | false =>
                  obtain ⟨lo', lc', hlo', hLR⟩ := LRow.of_own HO8.out
                  have hlo2 := Value.slice.inj hlo'
                  obtain ⟨rfl, _, rfl⟩ := hlo2
                  have HLab := hid (rlabels_any lva laM lvc w8 hLR (by omega) (HSh.out rfl))
                  have HN1 : Hid (LB.right laM = false ∨ chD c = none → CD.rOne chD lbK Si = none) := HNoL.out rfl
                  have HO1 : Hid (LB.right laM = true → ∀ l, chD c = some l → CD.rOne chD lbK Si = some ((la, l), S6) ∧ laM = toLab la) := HOne.out rfl
                  clear HNoB HNoL HOne HSh hlo' hLR
                  go_wp2_with fail
                  refine HLab.out.mono ?_
                  rintro e w9 ⟨rfl, hb9⟩
                  have HB9 := hid hb9
                  clear hb9 HLab
                  cases hlr : LB.right laM with
                  | false =>
                    have HR := hid (HN1.out (.inl hlr))
                    clear HN1 HO1
                    go_wp2_with fail
                    go_meet
                    case rel => exact ⟨true, rfl, HB9.out, fun _ => HR.out, fun h => by cases h⟩
                  | true =>
                    rcases HS8.out with ⟨rfl, l, hl1, hl2⟩ | ⟨rfl, hl1⟩
                    · have HR := hid (HO1.out hlr l hl1)
                      have HSm := hid hl2
                      clear HN1 HO1 hl2 hl1
                      go_wp2_with fail
                      go_meet
                      case rel => exact ⟨false, rfl, HB9.out, (fun h => by cases h), fun _ => ⟨by first | rfl | trivial, l, HR.out.1, HR.out.2, HSm.out⟩⟩
                    · have HR := hid (HN1.out (.inr hl1))
                      clear HN1 HO1
                      go_wp2_with fail
                      go_meet
                      case rel => exact ⟨true, rfl, HB9.out, fun _ => HR.out, fun h => by cases h⟩
              case rest =>
                obtain ⟨q, rfl, hb9, hqT, hqF⟩ := hcut
                obtain ⟨i8, hi8, hw0, hw1', hw2⟩ := info_parts Tryz.infoSr
                have HJ0 := hid hi8
                have HJ1 := hid hw0
                have HJ2 := hid hw1'
                have HJ3 := hid hw2
                clear hi8 hw0 hw1' hw2 y0 y1 t0 t1 t2 t3
                have hX9 := (hb9.block bx (heap_lt HX8.out)).trans HX8.out
                have hT9 : TkI wc bt S6 b6 := (hb9.block bt (heap_lt HT8.out)).trans HT8.out
                have hB9 := HB8.out.trans (But.below (bt := bt) hb9)
                have hO9 : OwnLb wc (bx + 1) (.slice lva laM.length lvc) laM := row_kept HO8.out (fun g c hg => hb9.block g (heap_lt hg))
                have hrow9 : ∀ (n' : Nat) (ys : List Value), wo.ownsRow w.heap.size 55 2 (.slice va m vc) n' ys → wc.ownsRow w.heap.size 55 2 (.slice va m vc) n' ys := fun n' ys h => row_kept h (fun g c hg => hB9.2.2.2.2 g (heap_lt hg) (fun e => tk_ne HT.out hg e (by decide)))
                have hwb : w.heap.size ≤ bx := by rw [← hbx]; exact HBt.out.2.2.2.1
                cases q with
                | true =>
                  have HR := hid (hqT rfl)
                  have HRw := hid (hrow9 m xs HRow.out)
                  have hNo : CD.rAll chD lbK S = none := by
                    rw [HA.out]
                    obtain ⟨m', hm'⟩ : ∃ m', n.toNat - i = m' + 1 := ⟨n.toNat - i - 1, by omega⟩
                    have h1 := HCo.out
                    rw [hm'] at h1
                    exact h1.fail HR.out
                  have HNo := hid hNo
                  have hT10 : TkI (wc.setCell ⟨bt, 1, none⟩ (.bool true)) bt S6 true := hT9.s1 true
                  have hX10 : (wc.setCell ⟨bt, 1, none⟩ (.bool true)).heap[bx]? = some (.cells #[.slice lva laM.length lvc, .slice sva svn svc] 55) := (Below.heap_setCell wc ⟨bt, 1, none⟩ _ bx hne).trans hX9
                  have hB10 : But bt wo (wc.setCell ⟨bt, 1, none⟩ (.bool true)) := hB9.trans (But.grown (tgrown _ _ _ _))
                  have hR10 : (wc.setCell ⟨bt, 1, none⟩ (.bool true)).ownsRow w.heap.size 55 2 (.slice va m vc) m xs := row_kept HRw.out (fun g c hg => Below.heap_setCell wc ⟨bt, 1, none⟩ _ g (fun e => tk_ne hT9 hg e (by decide)))
                  obtain ⟨t0, t1, t2, t3⟩ := hT9.c
                  have y0 := zcell' _ bx _ _ hX10 0 _ rfl
                  have y1 := zcell' _ bx _ _ hX10 1 _ rfl
                  have HT10 := hid hT10
                  have HX10 := hid hX10
                  have HB10 := hid hB10
                  have HR10 := hid hR10
                  have hszc : bx < wc.heap.size := heap_lt hX9
                  clear hT10 hX10 hB10 hR10 hX9 hT9 hB9 hO9 hrow9 hb9 hqT hqF hNo HRw HX8 HT8 HB8 HO8 HS8
                  go_wp2_with (at_builtin; refine wpList_append_own _ rfl (.tmp 93) (.tmp 95) 22 rfl w.heap.size 55 i8 (.agg #[.slice none 0 0, .slice none 0 0]) 2 48 Tryz.underlying22 HJ0.out HJ1.out HJ2.out HJ3.out rfl (by decide) (.slice va m vc) m (xs) rfl (World.ownsRow.alloc HR10.out _) ⟨wc.heap.size, 0, none⟩ 1 1 [.slice lva laM.length lvc, .slice sva svn svc] rfl rfl (two_news' (wc.setCell ⟨bt, 1, none⟩ (.bool true)) wc.heap.size (by simp) _ _ 55) (by intro u hu; simp at hu; rcases hu with rfl | rfl <;> rfl) (by unfold maxLen; omega) (by omega) (by simp; omega) ?_)
                  intro v11 w11 ho11 hg11 _
                  have hrw : ∀ g, (Value.slice va m vc).ownBlock = some g → w.heap.size ≤ g ∧ ∃ c, (wc.setCell ⟨bt, 1, none⟩ (.bool true)).heap[g]? = some (Obj.cells c 55) := fun g hg => by
                    refine ⟨(World.ownsRow.lt HR10.out g hg).1, ?_⟩
                    rcases HR10.out.2 with ⟨h1, _⟩ | ⟨g', cap, cur, h1, _, h2, _⟩
                    · rw [h1] at hg; cases hg
                    · rw [h1] at hg
                      have : g' = g := Option.some.inj hg
                      subst this
                      exact ⟨cur, h2⟩
                  have hb11 : Below (wc.setCell ⟨bt, 1, none⟩ (.bool true)).heap.size (wc.setCell ⟨bt, 1, none⟩ (.bool true)) ((wc.setCell ⟨bt, 1, none⟩ (.bool true)).alloc (.cells #[.slice lva laM.length lvc, .slice sva svn svc] 55)) := (Below.refl _ _).alloc (Nat.le_refl _) _
                  have hT11 : TkI w11 bt S6 true := (hg11.block bt (Nat.lt_of_lt_of_le (heap_lt HT10.out) hb11.size) (fun e => by
                    obtain ⟨_, c', h1⟩ := hrw bt e.symm
                    exact tk_ne HT10.out h1 rfl (by decide))).trans ((hb11.block bt (heap_lt HT10.out)).trans HT10.out)
                  have hB11 : But bt w w11 := ((HBt.out.trans HB10.out).trans (But.below hb11)).own hg11 (fun g hg => (hrw g hg).1)
                  obtain ⟨a11, c11, hv11⟩ := own_slice ho11
                  have HQ : Hid (SerI w bt S n R (i + 1) v11 w11) := ⟨S6, true, m + 1, _, hT11, hB11, by omega, by omega, by omega, ho11, .inr ⟨rfl, HNo.out⟩⟩
                  subst hv11
                  clear ho11 hg11 hrw hb11 hT11 hB11
                  go_wp2_with fail
                  go_roundw
                  case rel => exact ⟨i + 1, by go_num, HQ.out⟩
                  case measure => simp [intOf]; omega
                | false =>
                  obtain ⟨hb6, l, hl1, hl2, hl3⟩ := hqF rfl
                  subst hb6
                  have hSO9 : SrOwn wc w.heap.size (.slice va m vc) (L.map toSr) := HSO.out.but HT.out hB9
                  obtain ⟨ps, hp1, hp2, hp3⟩ := hSO9
                  have hmL : m = (L.map toSr).length := by
                    obtain ⟨q1, q2, q3⟩ := own_slice hp2
                    exact (Value.slice.inj q3).2.1
                  rw [← hmL] at hp2
                  obtain ⟨ys, hys⟩ : ∃ ys, ys = ps.flatMap fun p => [p.1, p.2] := ⟨_, rfl⟩
                  rw [← hys] at hp2
                  have HYS := hid hys
                  clear hys
                  have hSm9 : OwnSm wc (bx + 1) (.slice sva svn svc) l := row_kept hl3 (fun g c hg => hb9.block g (heap_lt hg))
                  obtain ⟨t0, t1, t2, t3⟩ := hT9.c
                  have y0 := zcell' _ bx _ _ hX9 0 _ rfl
                  have y1 := zcell' _ bx _ _ hX9 1 _ rfl
                  have HT10 := hid hT9
                  have HB10 := hid hB9
                  have HR10 := hid hp2
                  have HP3 := hid hp3
                  have HP1 := hid hp1
                  have HO10 := hid hO9
                  have HSm10 := hid hSm9
                  have HL1 := hid hl1
                  have HL2 := hid hl2
                  have HmL := hid hmL
                  have hszc : bx < wc.heap.size := heap_lt hX9
                  clear hX9 hT9 hB9 hO9 hrow9 hb9 hqT hqF hl1 hl2 hl3 hp1 hp2 hp3 hmL hSm9 HX8 HT8 HB8 HO8 HS8
                  go_wp2_with (at_builtin; refine wpList_append_own _ rfl (.tmp 93) (.tmp 95) 22 rfl w.heap.size 55 i8 (.agg #[.slice none 0 0, .slice none 0 0]) 2 48 Tryz.underlying22 HJ0.out HJ1.out HJ2.out HJ3.out rfl (by decide) (.slice va m vc) m ys rfl (World.ownsRow.alloc HR10.out _) ⟨wc.heap.size, 0, none⟩ 1 1 [.slice lva laM.length lvc, .slice sva svn svc] rfl rfl (two_news wc _ _ 55) (by intro u hu; simp at hu; rcases hu with rfl | rfl <;> rfl) (by unfold maxLen; omega) (by omega) (by simp; omega) ?_)
                  intro v11 w11 ho11 hg11 _
                  have hrw : ∀ g, (Value.slice va m vc).ownBlock = some g → w.heap.size ≤ g ∧ ∃ c, (wc).heap[g]? = some (Obj.cells c 55) := fun g hg => by
                    refine ⟨(World.ownsRow.lt HR10.out g hg).1, ?_⟩
                    rcases HR10.out.2 with ⟨h1, _⟩ | ⟨g', cap, cur, h1, _, h2, _⟩
                    · rw [h1] at hg; cases hg
                    · rw [h1] at hg
                      have : g' = g := Option.some.inj hg
                      subst this
                      exact ⟨cur, h2⟩
                  have hb11 : Below (wc).heap.size (wc) ((wc).alloc (.cells #[.slice lva laM.length lvc, .slice sva svn svc] 55)) := (Below.refl _ _).alloc (Nat.le_refl _) _
                  have hT11 : TkI w11 bt S6 false := (hg11.block bt (Nat.lt_of_lt_of_le (heap_lt HT10.out) hb11.size) (fun e => by
                    obtain ⟨_, c', h1⟩ := hrw bt e.symm
                    exact tk_ne HT10.out h1 rfl (by decide))).trans ((hb11.block bt (heap_lt HT10.out)).trans HT10.out)
                  have hB11 : But bt w w11 := ((HBt.out.trans HB10.out).trans (But.below hb11)).own hg11 (fun g hg => (hrw g hg).1)
                  have hcur : ∀ (g : Nat) (c : Array Value) (e : TypeId), e ≠ 55 → wc.heap[g]? = some (Obj.cells c e) → w11.heap[g]? = wc.heap[g]? := fun g c e he hg => by
                    refine (hg11.block g (Nat.lt_of_lt_of_le (heap_lt hg) hb11.size) (fun e2 => ?_)).trans (hb11.block g (heap_lt hg))
                    obtain ⟨_, c', h1⟩ := hrw g e2.symm
                    rw [hg] at h1
                    have := Option.some.inj h1
                    simp only [Obj.cells.injEq] at this
                    exact he this.2.1
                  have hSO11 : SrOwn w11 w.heap.size v11 (L.map toSr ++ [toSr (la, l)]) := by
                    have h0 := ho11
                    rw [HYS.out, HmL.out] at h0
                    refine SrOwn.snoc HP1.out h0 (fun i' hi' => ?_) ?_ ?_
                    · obtain ⟨h1, h2⟩ := HP3.out i' hi'
                      exact ⟨row_kept h1 (fun g c hg => hcur g c _ (by decide) hg), row_kept h2 (fun g c hg => hcur g c _ (by decide) hg)⟩
                    · have h1 : OwnLb w11 w.heap.size (.slice lva laM.length lvc) laM := row_low (row_kept HO10.out (fun g c hg => hcur g c _ (by decide) hg)) (by omega)
                      rw [HL2.out] at h1 ⊢
                      exact h1
                    · exact row_low (row_kept HSm10.out (fun g c hg => hcur g c _ (by decide) hg)) (by omega)
                  have hCo2 : CD.ContS chD lbK n.toNat R (L ++ [(la, l)]) (n.toNat - (i + 1)) S6 := by
                    obtain ⟨m', hm1, hm2⟩ : ∃ m', n.toNat - i = m' + 1 ∧ n.toNat - (i + 1) = m' := ⟨n.toNat - i - 1, by omega, by omega⟩
                    have h1 := HCo.out
                    rw [hm1] at h1
                    rw [hm2]
                    exact h1.next HL1.out
                  obtain ⟨a11, c11, hv11⟩ := own_slice ho11
                  have HQ : Hid (SerI w bt S n R (i + 1) v11 w11) := by
                    refine ⟨S6, false, m + 1, _, hT11, hB11, by omega, by omega, by omega, ho11, .inl ⟨rfl, L ++ [(la, l)], by omega, hL2, by rw [List.length_append, HL3.out]; rfl, HA.out, hCo2, ?_⟩⟩
                    rw [List.map_append]
                    exact hSO11
                  subst hv11
                  clear ho11 hg11 hrw hb11 hT11 hB11 hSO11 hCo2 hcur
                  go_wp2_with fail
                  go_roundw
                  case rel => exact ⟨i + 1, by go_num, HQ.out⟩
                  case measure => simp [intOf]; omega
        · have hie : n.toNat - i = 0 := by omega
          have HE : Hid (CD.rAll chD lbK S = some (L, Si)) := by
            show _ = _
            have h1 := HCo.out
            rw [hie] at h1
            rw [HA.out]
            exact h1.done
          clear hie
          subst hv3
          go_wp2_with fail
          go_ret
          exact ⟨HBt.out, .inl ⟨L, Si, _, HE.out, rfl, HT.out, HSO.out⟩⟩

end Go.Proofs.YtdmnlmohfaafoadGreatDoor
