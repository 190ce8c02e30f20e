/- IndexSets: what is asked together is asked together. -/
import Derived.Test.YtdmnlmohfaafoacIxInts
import Derived.Test.YtdmnlmohfaafoacLbApp
namespace Go.Proofs.Ytdmnlmohfaafoac
open Go.RowKit

theorem asked_append (a b : List LB.Mat) (h : a.length + b.length ≤ 8) : LB.asked (a ++ b) = (LB.asked a && LB.asked b) := by
  unfold LB.asked
  rw [List.length_append, decide_eq_true h, decide_eq_true (by omega : a.length ≤ 8), decide_eq_true (by omega : b.length ≤ 8), List.all_append]
  simp

abbrev fnd (L : List (List LB.Lab)) (m : List LB.Mat) : List Int := IX.idx L.length fun i => LB.all (IX.atS L i) m

theorem fnd_and (L : List (List LB.Lab)) (a b : List LB.Mat) : IX.sift IX.kAnd (fnd L a) (fnd L b) = fnd L (a ++ b) := by
  rw [IX.and_idx]
  exact IX.idx_congr _ _ _ fun i _ => (LB.all_append _ a b).symm

theorem fnd_and' (L : List (List LB.Lab)) (a b : List LB.Mat) : IX.sift IX.kAnd (fnd L b) (fnd L a) = fnd L (a ++ b) := by
  rw [IX.and_idx]
  exact IX.idx_congr _ _ _ fun i _ => by rw [LB.all_append, Bool.and_comm]

theorem fnd_parts (L : List (List LB.Lab)) (a b : List LB.Mat) : IX.sift IX.kOr (fnd L (a ++ b)) (IX.sift IX.kNot (fnd L a) (fnd L b)) = fnd L a := by
  rw [IX.not_idx, IX.or_idx]
  refine IX.idx_congr _ _ _ fun i _ => ?_
  rw [LB.all_append]
  cases LB.all (IX.atS L i) a <;> cases LB.all (IX.atS L i) b <;> rfl

theorem fnd_all (L : List (List LB.Lab)) (a : List LB.Mat) : IX.sift IX.kOr (fnd L a) (fnd L []) = fnd L [] := by
  rw [IX.or_idx]
  refine IX.idx_congr _ _ _ fun i _ => ?_
  simp [LB.all]

theorem fnd_none (L : List (List LB.Lab)) : IX.sift IX.kNot (fnd L []) (fnd L []) = [] := by
  rw [IX.not_idx]
  refine IX.rise_ext (IX.rise_idx _ _) List.Pairwise.nil fun x => ?_
  rw [IX.mem_idx]
  simp

theorem fnd_len (L : List (List LB.Lab)) : (fnd L []).length = L.length := by
  have e : fnd L [] = IX.idx L.length fun _ => true := IX.idx_congr _ _ _ fun i _ => by simp [LB.all]
  rw [e, idx_all_len]

theorem fnd_has (L : List (List LB.Lab)) (m : List LB.Mat) (i : Nat) (h : i < L.length) : decide ((i : Int) ∈ fnd L m) = LB.all (IX.atS L i) m := by
  have := IX.mem_idx' L.length (fun i => LB.all (IX.atS L i) m) i
  cases hb : LB.all (IX.atS L i) m
  · rw [decide_eq_false_iff_not, this, hb]; simp
  · rw [decide_eq_true_iff, this, hb]; exact ⟨h, rfl⟩

/-- What Match tells, its two values apart. -/
theorem MatchEnd.vals {L : List (List LB.Lab)} {m : List LB.Mat} {w : World} {e : Ending} {w' : World} (h : MatchEnd L m w e w') :
    Below w.heap.size w w' ∧ ∃ v er, e = .returned (.tuple #[v, er]) ∧ ((LB.asked m = false ∧ v = .slice none 0 0 ∧ er = .iface 92 (.int .i64 1)) ∨ (LB.asked m = true ∧ er = .nilIface ∧ ∃ ao cap, v = .slice ao (fnd L m).length cap ∧ IRow w' ao (fnd L m) ∧ (fnd L m).length ≤ cap)) := by
  obtain ⟨h1, ⟨h2, h3⟩ | ⟨h2, v, h3, h4⟩⟩ := h
  · exact ⟨h1, _, _, h3, .inl ⟨h2, rfl, rfl⟩⟩
  · exact ⟨h1, _, _, h3, .inr ⟨h2, rfl, IRow.of_own' h4⟩⟩

theorem mrow_none {w : World} {mo : Option Addr} {m : List LB.Mat} (h : MRow w mo m) (hn : mo = none) : m.length = 0 := by
  by_cases h0 : m.length = 0
  · exact h0
  · obtain ⟨b, off, e, _⟩ := h 0 (by omega)
    rw [hn] at e; cases e

set_option maxRecDepth 100000 in
set_option maxHeartbeats 3200000 in
theorem sets_any (ao mo no : Option Addr) (L : List (List LB.Lab)) (m n : List LB.Mat) (cl cm cn : Nat) (w : World) (hL : LLRow w ao L) (hM : MRow w mo m) (hN : MRow w no n) (hcm : mo = none → cm = 0) (hcn : no = none → cn = 0) :
    Calls Try.prog 5 #[.slice ao L.length cl, .slice mo m.length cm, .slice no n.length cn] w fun e w' => e = .returned (.bool true) ∧ Below w.heap.size w w' := by
  have HL := hid hL
  have HM := hid hM
  have HN := hid hN
  have HCM := hid hcm
  have HCN := hid hcn
  have H2 := hid (shM_any mo m cm w hM)
  have H3 := hid (shM_any no n cn w hN)
  clear hcm hcn hL hM hN
  go_enter Try.func5, Try.ntmps5
  by_cases h30 : L.length ≤ 30
  case neg =>
    have h30' : (30 : Int) < (L.length : Int) := by omega
    go_wp2_with fail
    go_ret
    exact ⟨rfl, Below.refl _ _⟩
  have h30' : ¬ (30 : Int) < (L.length : Int) := by omega
  go_wp2_with fail
  refine H2.out.mono ?_
  rintro e w1 ⟨rfl, rfl⟩
  cases h2 : shM m with
  | false =>
    go_wp2_with fail
    go_ret
    exact ⟨rfl, Below.refl _ _⟩
  | true =>
    go_wp2_with fail
    refine H3.out.mono ?_
    rintro e w1 ⟨rfl, rfl⟩
    cases h3 : shM n with
    | false =>
      go_wp2_with fail
      go_ret
      exact ⟨rfl, Below.refl _ _⟩
    | true =>
      have S2 := shM_len h2
      have S3 := shM_len h3
      clear h2 h3 H2 H3
      by_cases h8 : m.length + n.length ≤ 8
      case neg =>
        have h8' : (8 : Int) < (m.length : Int) + (n.length : Int) := by omega
        go_wp2_with fail
        go_ret
        exact ⟨rfl, Below.refl _ _⟩
      have h8' : ¬ (8 : Int) < (m.length : Int) + (n.length : Int) := by omega
      go_wp2_with fail
      go_loopw [7] (fun ti wr => ∃ k : Nat, k ≤ L.length ∧ ti = .int .i64 k ∧ wr = w1) (fun ti _ => L.length - (intOf ti).toNat)
      case atStart => exact ⟨0, Nat.zero_le _, rfl, rfl⟩
      case round =>
        obtain ⟨k, hk, rfl, rfl⟩ := hrel
        by_cases hlt : k < L.length
        · obtain ⟨b, off, ai, ci, hao, hc, hrow, hbs⟩ := HL.out k hlt
          subst hao
          have HS := hid (shL_any ai (IX.atS L k) ci wr hrow)
          clear hrow
          go_wp2_with fail
          refine HS.out.mono ?_
          rintro e w2 ⟨rfl, rfl⟩
          cases hs : shL (IX.atS L k) with
          | false =>
            go_wp2_with fail
            go_ret
            exact ⟨rfl, Below.refl _ _⟩
          | true =>
            go_wp2_with fail
            go_roundw
            case rel => exact ⟨k + 1, by omega, by go_num, by trivial⟩
            case measure => simp [intOf]; omega
        · have he : k = L.length := by omega
          subst he
          clear hlt hk
          obtain ⟨w0, hw0⟩ : ∃ w0, w0 = wr := ⟨_, rfl⟩
          subst hw0
          go_wp2_with fail
          refine (indexed_any _).mono ?_
          rintro e w2 ⟨rfl, hb2⟩
          have HB2 := hid hb2
          have HNw := hid (new_any ao L cl w2 (HL.out.below hb2) (by omega))
          clear hb2
          go_wp2_with fail
          refine HNw.out.mono ?_
          rintro e w3 ⟨hb3, hend⟩
          have HB3 := hid (HB2.out.trans (hb3.mono HB2.out.size))
          have hsz3 := HB3.out.size
          clear hb3 HNw HB2
          rcases hend with ⟨hR, bx, bo, cnt, fo, fi, _, rfl, hI⟩ | ⟨i, ba, _, _, _, rfl, _, _, _⟩
          case inr =>
            go_wp2_with fail
            go_ret
            exact ⟨rfl, HB3.out⟩
          have HR := hid hR
          have HI := hid hI
          clear hR hI
          have HMa := hid (match_any bx cnt bo fo fi L mo m cm w3 HI.out HR.out (by omega) (HM.out.below HB3.out) (by omega))
          go_wp2_with fail
          refine HMa.out.mono ?_
          intro e w4 hend
          obtain ⟨hb4, v4, er4, rfl, hd4⟩ := hend.vals
          have HD4 := hid hd4
          have HB4 := hid (HB3.out.trans (hb4.mono hsz3))
          have HI4 := hid (HI.out.below hb4)
          have hsz4 := HB4.out.size
          clear hend hb4 hd4 HMa HI HB3
          have HMb := hid (match_any bx cnt bo fo fi L no n cn w4 HI4.out HR.out (by omega) (HN.out.below HB4.out) (by omega))
          go_wp2_with fail
          refine HMb.out.mono ?_
          intro e w5 hend
          obtain ⟨hb5, v5, er5, rfl, hd5⟩ := hend.vals
          have HD5 := hid hd5
          have HB45 := hid hb5
          have HB5 := hid (HB4.out.trans (hb5.mono hsz4))
          have HI5 := hid (HI4.out.below hb5)
          have hsz5 := HB5.out.size
          clear hend hb5 hd5 HMb HI4 HB4
          have HNM := hid (mrow_none HM.out)
          have HNN := hid (mrow_none HN.out)
          have HO6 := hid (empty_rowM w5)
          have HB56 := hid ((Below.refl w5.heap.size w5).alloc (Nat.le_refl _) (.cells #[] 32))
          have HMr := hid (HM.out.below HB5.out)
          have HNr := hid (HN.out.below HB5.out)
          obtain ⟨ii, hii, hi'⟩ := Option.map_eq_some_iff.1 Try.info32
          simp only [Prod.mk.injEq] at hi'
          obtain ⟨hz0, hz1, hz2⟩ := hi'
          have HI0 := hid hii
          have HZ0 := hid hz0
          have HZ1 := hid hz1
          have HZ2 := hid hz2
          clear hii hz0 hz1 hz2
          go_wp2_with (first
            | (at_builtin; refine wpList_append_src _ rfl (.tmp 81) (.tmp 82) 29 rfl w5.heap.size 32 ii (.agg #[.string ⟨#[]⟩, .int .i64 0, .string ⟨#[]⟩]) 3 40 Try.underlying29 HI0.out HZ0.out HZ1.out HZ2.out rfl (by decide) (.slice (some ⟨w5.heap.size, 0, none⟩) 0 0) 0 [] rfl HO6.out mo m.length cm (mrv m) rfl (mrv_length _) (fun h => ⟨HNM.out h, HCM.out h⟩) (mrow_cells (HMr.out.below HB56.out)) (mrv_one _) (by unfold maxLen; omega) (by omega) HB56.out.size ?_; intro v7 w7 hown7 hgrow7; have HO7 := hid hown7; have HB57 := hid (HB56.out.grown hgrow7 HB56.out.size (fun j hj => (HO6.out.lt j hj).1)); clear hown7 hgrow7)
            | (at_builtin; refine wpList_append_src _ rfl (.tmp 83) (.tmp 84) 29 rfl w5.heap.size 32 ii (.agg #[.string ⟨#[]⟩, .int .i64 0, .string ⟨#[]⟩]) 3 40 Try.underlying29 HI0.out HZ0.out HZ1.out HZ2.out rfl (by decide) v7 (0 + m.length) ([] ++ mrv m) rfl HO7.out no n.length cn (mrv n) rfl (mrv_length _) (fun h => ⟨HNN.out h, HCN.out h⟩) (mrow_cells (HNr.out.below HB57.out)) (mrv_one _) (by unfold maxLen; omega) (by omega) HB57.out.size ?_; intro v8 w8 hown8 hgrow8; have HO8 := hid (own_bothM hown8); have HB58 := hid (HB57.out.grown hgrow8 HB57.out.size (fun j hj => (HO7.out.lt j hj).1)); clear hown8 hgrow8))
          obtain ⟨ao8, cap8, rfl, hr8⟩ := MRow.of_own HO8.out
          have HB8 := hid (HB5.out.trans (HB58.out.mono hsz5))
          have hsz8 := HB8.out.size
          have HI8 := hid (HI5.out.below HB58.out)
          have HMc := hid (match_any bx cnt bo fo fi L ao8 (m ++ n) cap8 w8 HI8.out HR.out (by omega) hr8 (by rw [List.length_append]; omega))
          clear hr8 HO6 HO7 HO8 HB56 HB57 HMr HNr HNM HNN HI0 HZ0 HZ1 HZ2 HI5
          go_wp2_with fail
          refine HMc.out.mono ?_
          intro e w9 hend
          obtain ⟨hb9, v9, er9, rfl, hd9⟩ := hend.vals
          have HD9 := hid hd9
          have HB59 := hid (HB58.out.trans (hb9.mono HB58.out.size))
          have HB9 := hid (HB8.out.trans (hb9.mono hsz8))
          have HI9 := hid (HI8.out.below hb9)
          have hsz9 := HB9.out.size
          clear hend hb9 hd9 HMc HI8 HB8 HB58
          have HMd := hid (match_any bx cnt bo fo fi L none [] 0 w9 HI9.out HR.out (by omega) (fun i hi => by simp at hi) (by simp))
          go_wp2_with fail
          refine HMd.out.mono ?_
          intro e w10 hend
          obtain ⟨hb10, v10, er10, rfl, hd10⟩ := hend.vals
          have HD10 := hid hd10
          have HB510 := hid (HB59.out.trans (hb10.mono HB59.out.size))
          have HB910 := hid hb10
          have HB10 := hid (HB9.out.trans (hb10.mono hsz9))
          have hsz10 := HB10.out.size
          clear hend hb10 hd10 HMd HI9 HB9 HB59
          have HAp := hid (asked_append m n h8)
          rcases HD4.out with ⟨ha4, rfl, rfl⟩ | ⟨ha4, rfl, ao4, cap4, rfl, hr4, hc4⟩
          · rcases HD9.out with ⟨ha9, rfl, rfl⟩ | ⟨ha9, _⟩
            · clear ha4 ha9
              go_wp2_with fail
              go_ret
              exact ⟨rfl, HB10.out⟩
            · rw [HAp.out, ha4] at ha9; cases ha9
          rcases HD5.out with ⟨ha5, rfl, rfl⟩ | ⟨ha5, rfl, ao5, cap5, rfl, hr5, hc5⟩
          · rcases HD9.out with ⟨ha9, rfl, rfl⟩ | ⟨ha9, _⟩
            · clear ha4 ha5 ha9 hr4 hc4
              go_wp2_with fail
              go_ret
              exact ⟨rfl, HB10.out⟩
            · rw [HAp.out, ha4, ha5] at ha9; cases ha9
          rcases HD9.out with ⟨ha9, _⟩ | ⟨ha9, rfl, ao9, cap9, rfl, hr9, hc9⟩
          · rw [HAp.out, ha4, ha5] at ha9; cases ha9
          rcases HD10.out with ⟨ha10, _⟩ | ⟨ha10, rfl, ao10, cap10, rfl, hr10, hc10⟩
          · cases ha10
          have HrA := hid (hr4.below (HB45.out.trans (HB510.out.mono HB45.out.size)))
          have HrB := hid (hr5.below HB510.out)
          have HrC := hid (hr9.below HB910.out)
          have HrD := hid hr10
          have lA : (fnd L m).length ≤ L.length := IX.idx_len _ _
          have lB : (fnd L n).length ≤ L.length := IX.idx_len _ _
          have lC : (fnd L (m ++ n)).length ≤ L.length := IX.idx_len _ _
          have lD : (fnd L []).length ≤ L.length := IX.idx_len _ _
          have E1 := hid (fnd_and L m n)
          have E2 := hid (fnd_and' L m n)
          have E3 := hid (fnd_parts L m n)
          have E4 := hid (fnd_all L m)
          have E5 := hid (fnd_none L)
          have E6 := hid (fnd_len L)
          have E7 := hid (fnd_has L m)
          clear ha4 ha5 ha9 ha10 hr4 hr5 hr9 hr10 HD4 HD5 HD9 HD10 HAp HB45 HB510 HB910
          generalize fnd L m = A at *
          generalize fnd L n = B at *
          generalize fnd L (m ++ n) = C at *
          generalize fnd L [] = D at *
          have lN : (IX.sift IX.kNot A B).length ≤ 100 := by
            have := IX.sift_len IX.kNot A B
            omega
          rw [E6.out]
          have HC11 := hid (and_any ao4 ao5 A B cap4 cap5 w10 HrA.out HrB.out hc4 hc5 (by omega) (by omega))
          rw [E1.out] at HC11
          go_wp2_with fail
          refine HC11.out.mono ?_
          rintro e w11 ⟨v11, rfl, ho11, hb11⟩
          obtain ⟨ao11, cap11, rfl, hr11, _⟩ := IRow.of_own' ho11
          have HBa := hid hb11
          have HC12 := hid (sameI_any ao11 ao9 C cap11 cap9 w11 hr11 (HrC.out.below hb11) (by omega))
          clear ho11 hb11 hr11 HC11
          go_wp2_with fail
          refine HC12.out.mono ?_
          rintro e w12 ⟨rfl, hb12⟩
          have HBb := hid (HBa.out.trans (hb12.mono HBa.out.size))
          clear hb12 HC12 HBa
          have HC13 := hid (and_any ao5 ao4 B A cap5 cap4 w12 (HrB.out.below HBb.out) (HrA.out.below HBb.out) hc5 hc4 (by omega) (by omega))
          rw [E2.out] at HC13
          go_wp2_with fail
          refine HC13.out.mono ?_
          rintro e w13 ⟨v13, rfl, ho13, hb13⟩
          obtain ⟨ao13, cap13, rfl, hr13, _⟩ := IRow.of_own' ho13
          have HBc := hid (HBb.out.trans (hb13.mono HBb.out.size))
          have HC14 := hid (sameI_any ao13 ao9 C cap13 cap9 w13 hr13 (HrC.out.below HBc.out) (by omega))
          clear ho13 hb13 hr13 HC13 HBb
          go_wp2_with fail
          refine HC14.out.mono ?_
          rintro e w14 ⟨rfl, hb14⟩
          have HBd := hid (HBc.out.trans (hb14.mono HBc.out.size))
          clear hb14 HC14 HBc
          have HC15 := hid (not_any ao4 ao5 A B cap4 cap5 w14 (HrA.out.below HBd.out) (HrB.out.below HBd.out) hc4 hc5 (by omega) (by omega))
          go_wp2_with fail
          refine HC15.out.mono ?_
          rintro e w15 ⟨v15, rfl, ho15, hb15⟩
          obtain ⟨ao15, cap15, rfl, hr15, hc15⟩ := IRow.of_own' ho15
          have HBe := hid (HBd.out.trans (hb15.mono HBd.out.size))
          have HC16 := hid (or_any ao9 ao15 C _ cap9 cap15 w15 (HrC.out.below HBe.out) hr15 hc9 hc15 (by omega) (by omega))
          rw [E3.out] at HC16
          clear ho15 hb15 hr15 HC15 HBd
          go_wp2_with fail
          refine HC16.out.mono ?_
          rintro e w16 ⟨v16, rfl, ho16, hb16⟩
          obtain ⟨ao16, cap16, rfl, hr16, _⟩ := IRow.of_own' ho16
          have HBf := hid (HBe.out.trans (hb16.mono HBe.out.size))
          have HC17 := hid (sameI_any ao16 ao4 A cap16 cap4 w16 hr16 (HrA.out.below HBf.out) (by omega))
          clear ho16 hb16 hr16 HC16 HBe
          go_wp2_with fail
          refine HC17.out.mono ?_
          rintro e w17 ⟨rfl, hb17⟩
          have HBg := hid (HBf.out.trans (hb17.mono HBf.out.size))
          clear hb17 HC17 HBf
          have HC18 := hid (or_any ao4 ao10 A D cap4 cap10 w17 (HrA.out.below HBg.out) (HrD.out.below HBg.out) hc4 hc10 (by omega) (by omega))
          rw [E4.out, E6.out] at HC18
          go_wp2_with fail
          refine HC18.out.mono ?_
          rintro e w18 ⟨v18, rfl, ho18, hb18⟩
          obtain ⟨ao18, cap18, rfl, hr18, _⟩ := IRow.of_own' ho18
          have HBh := hid (HBg.out.trans (hb18.mono HBg.out.size))
          have HC19 := hid (sameI_any ao18 ao10 D cap18 cap10 w18 hr18 (HrD.out.below HBh.out) (by omega))
          rw [E6.out] at HC19 ⊢
          clear ho18 hb18 hr18 HC18 HBg
          go_wp2_with fail
          refine HC19.out.mono ?_
          rintro e w19 ⟨rfl, hb19⟩
          have HBi := hid (HBh.out.trans (hb19.mono HBh.out.size))
          clear hb19 HC19 HBh
          have HC20 := hid (not_any ao10 ao10 D D cap10 cap10 w19 (HrD.out.below HBi.out) (HrD.out.below HBi.out) hc10 hc10 (by omega) (by omega))
          rw [E5.out, E6.out] at HC20
          go_wp2_with fail
          refine HC20.out.mono ?_
          rintro e w20 ⟨v20, rfl, ho20, hb20⟩
          obtain ⟨ao20, cap20, rfl, hr20, _⟩ := IRow.of_own' ho20
          have HBj := hid (HBi.out.trans (hb20.mono HBi.out.size))
          have HBk := hid (HB10.out.trans (HBj.out.mono hsz10))
          clear ho20 hb20 hr20 HC20 HBi
          simp only [List.length_nil]
          go_wp2_with fail
          go_loopw [18] (fun ti W => ∃ k : Nat, k ≤ L.length ∧ ti = .int .i64 k ∧ Below w0.heap.size w0 W ∧ Below w10.heap.size w10 W) (fun ti _ => L.length - (intOf ti).toNat)
          case atStart => exact ⟨0, Nat.zero_le _, rfl, HBk.out, HBj.out⟩
          case round =>
            obtain ⟨k, hk, rfl, hbel, hbel2⟩ := hrel
            have HBl := hid hbel
            have HBm := hid hbel2
            clear hbel hbel2 HBk HBj
            by_cases hlt : k < L.length
            · obtain ⟨b, off, ai, ci, hao, hc, hrow, hbs⟩ := HL.out k hlt
              subst hao
              have hcell := (HBl.out.cell (p := ⟨b, off + k, none⟩) hbs).trans hc
              have HLr := hid hrow
              have HRl := right_len _ (HR.out _ (IX.atS_mem L k hlt))
              clear hc hrow
              have HCt : Hid (∀ W, Below wr.heap.size wr W → Calls Try.prog 24 #[.slice ao4 A.length cap4, .int .i64 k] W fun e w' => e = .returned (.bool (LB.all (IX.atS L k) m)) ∧ w' = W) := fun W hW => by
                rw [← E7.out k hlt]
                exact containsI_any ao4 A cap4 k W (HrA.out.below (HBm.out.trans (hW.mono HBm.out.size))) (by omega)
              have HAl : Hid (∀ W, Below wr.heap.size wr W → Calls Try.prog 16 #[.slice ai (IX.atS L k).length ci, .slice mo m.length cm] W fun e w' => e = .returned (.bool (LB.all (IX.atS L k) m)) ∧ Below W.heap.size W w') := fun W hW =>
                all_any ai mo (IX.atS L k) m ci cm W (HLr.out.below (HBl.out.trans (hW.mono HBl.out.size))) (HM.out.below (HBl.out.trans (hW.mono HBl.out.size))) (by omega) (by omega)
              have HBd : Hid (Below wr.heap.size wr wr.drew) := (Below.refl _ _).drew
              have hil : 0 ≤ (k : Int) ∧ (k : Int) < (L.length : Int) := by omega
              generalize LB.all (IX.atS L k) m = Q at *
              go_wp2_with fail
              go_region_with (first
                | (go_at_call 24; refine (HCt.out _ (by first | exact HBd.out | exact HBw.out)).mono ?_; rintro e w31 ⟨rfl, rfl⟩)
                | (go_at_call 16; refine (HAl.out _ HBd.out).mono ?_; rintro e w30 ⟨rfl, hb30⟩; have HBw := hid (HBd.out.trans (hb30.mono HBd.out.size)); clear hb30))
              all_goals
                simp only [List.getElem_toArray, List.getElem_cons_succ, List.getElem_cons_zero]
                go_frame
                go_wp2_with fail
                go_roundw
                case rel => exact ⟨k + 1, by omega, by go_num, HBl.out.trans (HBw.out.mono HBl.out.size), HBm.out.trans (HBw.out.mono HBm.out.size)⟩
                case measure => simp [intOf]; omega
            · have he : k = L.length := by omega
              subst he
              go_wp2_with fail
              go_ret
              exact ⟨rfl, HBl.out⟩

end Go.Proofs.Ytdmnlmohfaafoac
