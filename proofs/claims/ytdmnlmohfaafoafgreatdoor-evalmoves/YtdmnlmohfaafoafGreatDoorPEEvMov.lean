/- EvalMoves, from what Eval and asked tell. -/
import Derived.Test.YtdmnlmohfaafoafGreatDoorPEEvAsk
import Derived.Test.YtdmnlmohfaafoafGreatDoorPEBpRightH
import Derived.Test.YtdmnlmohfaafoafGreatDoorPEHsShort
namespace Go.Proofs.YtdmnlmohfaafoafGreatDoor
open Go.RowKit Go.Shelf

def AskedIs : Prop := ∀ (W : World), Gl W → Calls Tryz.prog 5 #[] W fun e w' => e = .returned (.bool true) ∧ Below W.heap.size W w'

theorem ord_steps (S : List Sr) (h : ∀ k, 0 < k → k < S.length → LB.cmp (atSr S (k - 1)).1 (atSr S k).1 < 0) : S.Pairwise fun a b => LB.cmp a.1 b.1 = -1 := by
  have e : ∀ i (hi : i < S.length), atSr S i = S[i] := fun i hi => by simp [atSr, hi]
  have one : ∀ k, 0 < k → k < S.length → LB.cmp (atSr S (k - 1)).1 (atSr S k).1 = -1 := fun k h0 hk => by
    rcases LB.cmp_ord.rng (atSr S (k - 1)).1 (atSr S k).1 with r | r | r
    · exact r
    · have := h k h0 hk; omega
    · have := h k h0 hk; omega
  have far : ∀ n i, i + n + 1 < S.length → LB.cmp (atSr S i).1 (atSr S (i + n + 1)).1 = -1 := by
    intro n
    induction n with
    | zero => intro i hi; exact one (i + 1) (by omega) hi
    | succ n ih => intro i hi; exact LB.cmp_ord.tr _ _ _ (ih i (by omega)) (one (i + n + 1 + 1) (by omega) (by omega))
  rw [List.pairwise_iff_getElem]
  intro i j hi hj hij
  have := far (j - i - 1) i (by omega)
  rw [show i + (j - i - 1) + 1 = j by omega, e i hi, e j hj] at this
  exact this

theorem right_ord {tp old : Int} {S : List Sr} (h : BK.right tp old S = true) : S.Pairwise fun a b => LB.cmp a.1 b.1 = -1 := by
  unfold BK.right BK.ser at h
  simp only [Bool.and_eq_true, decide_eq_true_eq] at h
  exact ord_steps S fun k h0 hk => (h.1 k hk).2 h0

theorem mv_take (l : List CL.Smp) (k : Nat) (h : k < l.length) : l.take (k + 1) = l.take k ++ [CL.at' l k] := by
  rw [List.take_succ_eq_append_getElem h]; simp [CL.at', h]

theorem right_lab {tp old : Int} {S : List Sr} (h : BK.right tp old S = true) (k : Nat) (hk : k < S.length) : 0 < (atSr S k).1.length := by
  unfold BK.right BK.ser at h
  simp only [Bool.and_eq_true, decide_eq_true_eq] at h
  have h1 := (h.1 k hk).1
  unfold BK.okS at h1
  simp only [Bool.and_eq_true] at h1
  have := right_len h1.1
  omega

/-- The box of a series that is made, its samples so far. -/
structure MIn (w wr : World) (B : Nat) (vl vs : Value) (l : List CL.Smp) : Prop where
  box : wr.heap[B]? = some (.cells #[vl, vs] 31)
  own : OwnSm wr w.heap.size vs l
  ge : w.heap.size ≤ B
  bel : Below w.heap.size w wr

set_option maxRecDepth 100000 in
set_option maxHeartbeats 6400000 in
theorem evmoves_any (hE : EvalIs) (hD : AskedIs) (ao : Option Addr) (S : List Sr) (cap : Nat) (s : ByteArray) (t d : Int) (w : World) (hG : Gl w) (hS : SrOut w NoZ ao S) (hR : ∀ i, i < S.length → ∀ x ∈ (atSr S i).2, CL.Rs x) (hq : shS S = true) (hs : s.size ≤ 300) (ht : -1073741824 ≤ t ∧ t ≤ 1073741824) (hd : -1073741824 ≤ d ∧ d ≤ 1073741824) :
    Calls Tryz.prog 3 #[.slice ao S.length cap, .string s, .int .i64 t, .int .i64 d] w fun e w' => e = .returned (.bool true) ∧ Below w.heap.size w w' := by
  have HE := hid hE
  have HD := hid hD
  have HS := hid hS
  have HG := hid hG
  have HR := hid hR
  have HSh := hid (shS_any ao S cap w hS.row)
  rw [hq] at HSh
  have HQ := hid hq
  have hs' : ¬ 300 < (s.size : Int) := by omega
  have ht1 : ¬ t < -1073741824 := by omega
  have ht2 : ¬ 1073741824 < t := by omega
  have hd1 : ¬ d < -1073741824 := by omega
  have hd2 : ¬ 1073741824 < d := by omega
  have HT := hid ht
  have HDD := hid hd
  clear hE hD hS hG hR hq ht hd
  go_enter Tryz.func3, Tryz.ntmps3
  go_wp2_with fail
  refine HSh.out.mono ?_
  rintro e w0 ⟨rfl, rfl⟩
  go_wp2_with fail
  refine (HD.out w0 HG.out).mono ?_
  rintro e w1 ⟨rfl, hb1⟩
  have HB1 := hid hb1
  clear hb1 HSh
  go_wp2_with fail
  have hfew : S.length ≤ 20 ∧ ∀ i, i < S.length → (atSr S i).1.length ≤ 20 ∧ (atSr S i).2.length ≤ 60 := by
    have h := HQ.out
    unfold shS at h
    have h := of_decide_eq_true h
    refine ⟨h.1, fun i hi => ⟨?_, (h.2 i hi).2⟩⟩
    have h1 := (h.2 i hi).1
    unfold shL at h1
    exact (of_decide_eq_true h1).1
  have HFew := hid hfew
  have hn20 := hfew.1
  clear hfew
  refine (bright_any ao S cap 1099511627776 0 w1 (HS.out.row.below HB1.out) (by omega) (fun i hi => by have := HFew.out.2 i hi; omega) HR.out).mono ?_
  rintro e w2 ⟨rfl, hb2⟩
  have HB2 := hid (HB1.out.trans (hb2.mono HB1.out.size))
  clear hb2 HB1
  rcases hr : BK.right 1099511627776 0 S with _ | _
  · clear hr
    go_wp2_with fail
    go_ret
    exact ⟨rfl, HB2.out⟩
  · have HRt := hid hr
    clear hr
    go_wp2_with fail
    go_loopw [9, 10] (fun tv ti wr => ∃ (i : Nat) (xs : List (Value × Value)), i ≤ S.length ∧ ti = .int .i64 i ∧ RB w0 wr NoZ tv xs (EV.later d (S.take i)) ∧ ∀ k, k < i → ∀ x ∈ (atSr S k).2, -1073741824 ≤ x.1 ∧ x.1 ≤ 1073741824) (fun _ ti _ => S.length - (intOf ti).toNat)
    case atStart => exact ⟨0, [], Nat.zero_le _, rfl, (RB.nil w0 NoZ).below HB2.out, fun k hk => by omega⟩
    case round =>
      obtain ⟨i, xs, hi, rfl, hrb, htm⟩ := hrel
      have HRB := hid hrb
      have HTm := hid htm
      clear hrb htm
      by_cases hlt : i < S.length
      · obtain ⟨b, off, hao, hbs, hbz, lo, lc, so, sc, d0, d1, hLO, hSO⟩ := HS.out i hlt
        subst hao
        have c0 : wr.cell? ⟨b, off + i * 2, none⟩ = some (.slice lo (atSr S i).1.length lc) := (HRB.out.bel.cell (p := ⟨b, _, none⟩) hbs).trans d0
        obtain ⟨hl1, hl2⟩ := HFew.out.2 i hlt
        have HLO := hid hLO
        have HSO := hid hSO
        have HD1 := hid d1
        have hil : 0 ≤ (i : Int) ∧ (i : Int) < (S.length : Int) := by omega
        clear hLO hSO d0 d1
        go_wp2_with fail
        have HM0 : Hid (MIn wr (wr.alloc (.cells #[.slice lo (atSr S i).1.length lc, .slice none 0 0] 31)) wr.heap.size (.slice lo (atSr S i).1.length lc) (.slice none 0 0) []) := ⟨heap_alloc_new wr _, ⟨rfl, .inl ⟨rfl, rfl⟩⟩, Nat.le_refl _, (Below.refl _ wr).alloc (Nat.le_refl _) _⟩
        obtain ⟨w5, hw5⟩ : ∃ w5, w5 = wr := ⟨_, rfl⟩
        subst hw5
        generalize World.alloc _ _ = w6 at HM0 ⊢
        clear c0
        go_loopw [12] (fun ti w2 => ∃ (k : Nat) (vs : Value), k ≤ (atSr S i).2.length ∧ ti = .int .i64 k ∧ MIn w5 w2 w5.heap.size (.slice lo (atSr S i).1.length lc) vs (((atSr S i).2.take k).map fun s => (s.1 + d, s.2)) ∧ ∀ x ∈ (atSr S i).2.take k, -1073741824 ≤ x.1 ∧ x.1 ≤ 1073741824) (fun ti _ => (atSr S i).2.length - (intOf ti).toNat)
        case atStart => exact ⟨0, _, Nat.zero_le _, rfl, HM0.out, fun x hx => by simp at hx⟩
        case round =>
          clear HM0
          obtain ⟨k, vs, hk, rfl, hmi, hbd⟩ := hrel
          have HMI := hid hmi
          have HBd := hid hbd
          clear hmi hbd
          have hbw := bel2 HRB.out.bel HMI.out.bel
          have c1 : wr.cell? ⟨b, off + i * 2 + 1, none⟩ = some (.slice so (atSr S i).2.length sc) := (hbw.cell (p := ⟨b, _, none⟩) hbs).trans HD1.out
          by_cases hkl : k < (atSr S i).2.length
          · obtain ⟨b', off', hso, e0', e1', hbs'⟩ := HSO.out.1 k hkl
            subst hso
            have e0 : wr.cell? ⟨b', off' + k * 2, none⟩ = some (.int .i64 (CL.at' (atSr S i).2 k).1) := (hbw.cell (p := ⟨b', _, none⟩) hbs').trans e0'
            have e1 : wr.cell? ⟨b', off' + k * 2 + 1, none⟩ = some (.int .i64 (CL.at' (atSr S i).2 k).2) := (hbw.cell (p := ⟨b', _, none⟩) hbs').trans e1'
            have hkk : 0 ≤ (k : Int) ∧ (k : Int) < ((atSr S i).2.length : Int) := by omega
            clear e0' e1' hbw
            have HTk := hid (mv_take (atSr S i).2 k hkl)
            have hkl60 : (((atSr S i).2.take k).map fun s => (s.1 + d, s.2)).length ≤ 60 := by rw [List.length_map, List.length_take]; omega
            generalize CL.at' (atSr S i).2 k = sm at *
            obtain ⟨st, sx⟩ := sm
            simp only at e0 e1
            have hBw := heap_lt HMI.out.box
            have HB1 := hid ((bel2 HRB.out.bel HMI.out.bel).alloc (bel2 HRB.out.bel HMI.out.bel).size (.cells #[.int .i64 st, .int .i64 sx] 33))
            by_cases hlo : st < -1073741824
            · go_wp2_with fail
              go_ret
              exact ⟨rfl, HB1.out⟩
            · by_cases hhi : 1073741824 < st
              · go_wp2_with fail
                go_ret
                exact ⟨rfl, HB1.out⟩
              · have hst : -1073741824 ≤ st ∧ st ≤ 1073741824 := by omega
                have hdd := HDD.out
                have hww : IntKind.i64.wrap (st + d) = st + d := by rw [IntKind.wrap_i64]; omega
                go_upto_region 19 with fail
                have hal : Below wr.heap.size wr (wr.alloc (.cells #[.int .i64 (st + d), .int .i64 sx] 33)) := (Below.refl _ wr).alloc (Nat.le_refl _) _
                have hn := heap_alloc_new wr (.cells #[.int .i64 (st + d), .int .i64 sx] 33)
                have HMA : Hid (MIn w5 (wr.alloc (.cells #[.int .i64 (st + d), .int .i64 sx] 33)) w5.heap.size (.slice lo (atSr S i).1.length lc) vs (((atSr S i).2.take k).map fun s => (s.1 + d, s.2))) := ⟨(hal.block _ hBw).trans HMI.out.box, row_kept HMI.out.own fun g _ hg => hal.block g (heap_lt hg), HMI.out.ge, bel2 HMI.out.bel hal⟩
                have HNA := hid hn
                clear hal hn
                generalize wr.alloc (.cells #[.int .i64 (st + d), .int .i64 sx] 33) = wA at *
                generalize hLe : ((atSr S i).2.take k).map (fun s => (s.1 + d, s.2)) = l at *
                have HLe := hid hLe
                clear hLe
                have hal : Below wA.heap.size wA (wA.alloc (.cells #[.int .i64 (st + d), .int .i64 sx] 33)) := (Below.refl _ wA).alloc (Nat.le_refl _) _
                obtain ⟨v', wC, hrun, p1, p2, p3⟩ := app_smp (wA.alloc (.cells #[.int .i64 (st + d), .int .i64 sx] 33)) w5.heap.size wA.heap.size vs l (st + d, sx) (heap_alloc_new wA _) (row_kept HMA.out.own fun g _ hg => hal.block g (heap_lt hg)) (by omega) (Nat.le_trans HMA.out.bel.size hal.size)
                obtain ⟨va, vc, ev⟩ := own_slice HMA.out.own
                obtain ⟨va', vc', ev'⟩ := own_slice p1
                have hbB := (hal.block _ (heap_lt HMA.out.box)).trans HMA.out.box
                have hbC : wC.heap[w5.heap.size]? = some (.cells #[.slice lo (atSr S i).1.length lc, vs] 31) := (p2.block _ (heap_lt hbB) (fun e => own_kind (row_kept HMA.out.own fun g _ hg => hal.block g (heap_lt hg)) hbB (by decide) e.symm)).trans hbB
                have HBC := hid hbC
                have HBelC := hid ((bel2 HMA.out.bel hal).grown p2 (Nat.le_trans HMA.out.bel.size hal.size) (fun j hj => (HMA.out.own.lt j hj).1))
                have HP1 := hid p1
                subst ev'
                subst ev
                have b1 : wA.cell? ⟨w5.heap.size, 1, none⟩ = some (.slice va l.length vc) := zcell' _ _ _ _ HMA.out.box 1 _ rfl
                have s0 : wA.cell? ⟨wr.heap.size, 0, none⟩ = some (.int .i64 (st + d)) := zcell' _ _ _ _ HNA.out 0 _ rfl
                have s1 : wA.cell? ⟨wr.heap.size, 1, none⟩ = some (.int .i64 sx) := zcell' _ _ _ _ HNA.out 1 _ rfl
                have c1' : wC.cell? ⟨w5.heap.size, 1, none⟩ = some (.slice va l.length vc) := zcell' _ _ _ _ hbC 1 _ rfl
                have cz := hfz hbC 1
                clear p1 p2 p3 hal hbB hbC
                go_wp2_with (at_builtin; refine Lib.wpList_append_run _ rfl _ _ _ _ rfl _ _ rfl rfl _ _ hrun ?_)
                go_roundw
                case rel =>
                  refine ⟨k + 1, .slice va' (l.length + 1) vc', by omega, by go_num, ?_, ?_⟩
                  · rw [HTk.out, List.map_append, HLe.out, show l.length + 1 = (l ++ [(st + d, sx)]).length by simp]
                    exact ⟨heap_setCell_same wC w5.heap.size 1 _ _ _ HBC.out, own_set HP1.out (own_kind HP1.out HBC.out (by decide)) 1 _, HMA.out.ge, HBelC.out.setCell (p := ⟨w5.heap.size, 1, none⟩) (Nat.le_refl _) _⟩
                  · intro x hx
                    rw [HTk.out] at hx
                    rcases List.mem_append.1 hx with hx | hx
                    · exact HBd.out x hx
                    · rw [List.mem_singleton.1 hx]; exact hst
                case measure => simp [intOf]; omega
          · have hke : k = (atSr S i).2.length := by omega
            have HLt : Hid (EV.later d (S.take (i + 1)) = EV.later d (S.take i) ++ [((atSr S i).1, (atSr S i).2.map fun s => (s.1 + d, s.2))]) := later_take d S i hlt
            have HTm2 : Hid (∀ k, k < i + 1 → ∀ x ∈ (atSr S k).2, -1073741824 ≤ x.1 ∧ x.1 ≤ 1073741824) := fun k' hk' x hx => by
              by_cases e : k' = i
              · subst e
                refine HBd.out x ?_
                rw [hke, List.take_length]
                exact hx
              · exact HTm.out k' (by omega) x hx
            rw [hke, List.take_length] at HMI
            have hll : (EV.later d (S.take i)).length ≤ 1000 := by unfold EV.later; rw [List.length_map, List.length_take]; omega
            generalize (atSr S i).2.map (fun s => (s.1 + d, s.2)) = fl at *
            generalize EV.later d (S.take i) = le at *
            obtain ⟨va, vc, ev⟩ := own_slice HMI.out.own
            subst ev
            have b0 : wr.cell? ⟨w5.heap.size, 0, none⟩ = some (.slice lo (atSr S i).1.length lc) := zcell' _ _ _ _ HMI.out.box 0 _ rfl
            have b1 : wr.cell? ⟨w5.heap.size, 1, none⟩ = some (.slice va fl.length vc) := zcell' _ _ _ _ HMI.out.box 1 _ rfl
            have hR2 := HRB.out.below HMI.out.bel
            have hkb : Below wr.heap.size wr (wr.alloc (.cells #[.slice lo (atSr S i).1.length lc, .slice va fl.length vc] 31)) := (Below.refl _ wr).alloc (Nat.le_refl _) _
            have hR3 := hR2.below hkb
            have hO3 : OwnSm (wr.alloc (.cells #[.slice lo (atSr S i).1.length lc, .slice va fl.length vc] 31)) w0.heap.size (.slice va fl.length vc) fl := row_low (row_kept HMI.out.own fun g _ hg => hkb.block g (heap_lt hg)) HRB.out.bel.size
            obtain ⟨v4, w4, hrun, q1, q2, _⟩ := app_ser (wr.alloc (.cells #[.slice lo (atSr S i).1.length lc, .slice va fl.length vc] 31)) w0.heap.size wr.heap.size u9 (.slice lo (atSr S i).1.length lc) (.slice va fl.length vc) _ _ (heap_alloc_new wr _) rfl rfl hR3.row (by omega) (hR3.bel.size)
            have hG := (hR3.push (x := ((atSr S i).1, fl)) (.inl ⟨lo, lc, rfl, HLO.out⟩) (.inr hO3) q1 q2)
            rw [← HLt.out] at hG
            have HG2 := hid hG
            obtain ⟨a5, c5, e5⟩ := own_slice hR2.row
            obtain ⟨a7, c7, e7⟩ := own_slice q1
            clear q1 q2 hR3 hO3 hkb hR2 hG
            subst e7
            rw [e5] at hrun
            subst e5
            go_wp2_with (at_builtin; refine Lib.wpList_append_run _ rfl _ _ _ _ rfl _ _ rfl rfl _ _ hrun ?_)
            go_roundw
            case rel => exact ⟨i + 1, _, by omega, by go_num, HG2.out, HTm2.out⟩
            case measure => simp [intOf]; omega
      · have e : i = S.length := by omega
        subst e
        rw [List.take_length] at HRB
        have HAs : Hid (Askd S) := ⟨by omega, fun k hk => by have := HFew.out.2 k hk; omega, fun k hk => right_lab HRt.out k hk, right_ord HRt.out⟩
        obtain ⟨ao2, cap2, hv9, hS9⟩ := HRB.out.out (fun j hj => hj.elim)
        have hlen : (EV.later d S).length = S.length := List.length_map _
        have HLn := hid hlen
        have HS9 := hid hS9
        have HBl := hid HRB.out.bel
        clear hS9 hlen HRB HTm
        subst hv9
        rw [HLn.out]
        go_wp2_with fail
        refine (asks_any HE.out ao S cap s t wr (HG.out.below HBl.out) (HS.out.below0 HBl.out) HAs.out (by omega) (by have := HT.out; omega)).mono ?_
        intro e w3 hA1
        have HEv := hid (fun q => EV.ev_later d S q t)
        have HA2 := hid (fun (W : World) (hb : Below wr.heap.size wr W) => asks_any HE.out ao2 (EV.later d S) cap2 s (t + d) W ((HG.out.below HBl.out).below hb) (HS9.out.below0 hb) (HAs.out.later d) (by omega) (by have := HT.out; have := HDD.out; omega))
        rw [HLn.out] at HA2
        rcases hP : AQ.parse s.data.toList with ⟨q, r⟩ | ⟨c, p⟩
        · have htd : -2147483648 ≤ t + d ∧ t + d ≤ 2147483648 := by have := HT.out; have := HDD.out; omega
          have HPp := hid hP
          rcases hV : EV.ev q t S with _ | ⟨al, pts⟩
          · obtain ⟨p1, c1, h1⟩ := hA1.bad q r hP hV
            subst h1
            have HB3 := hid hA1.low
            have HVv := hid hV
            clear hA1 hP hV
            go_wp2_with fail
            refine (HA2.out w3 HB3.out).mono ?_
            intro e w4 hA4
            obtain ⟨p2, c2, h4⟩ := hA4.bad q r HPp.out (by rw [HEv.out q]; exact HVv.out)
            subst h4
            have HB4 := hid (HB3.out.trans (hA4.low.mono HB3.out.size))
            clear hA4
            go_wp2_with fail
            refine (samePts_any p1 p2 [] c1 c2 w4 (fun k hk => by simp at hk) (fun k hk => by simp at hk) ⟨by simp, fun k hk => by simp at hk⟩).mono ?_
            rintro e w5 ⟨rfl, hb5⟩
            have HB5 := hid (HB4.out.trans (hb5.mono HB4.out.size))
            clear hb5
            go_wp2_with fail
            go_ret
            exact ⟨rfl, HBl.out.trans (HB5.out.mono HBl.out.size)⟩
          · obtain ⟨p1, c1, h1, hr1, hf1⟩ := hA1.ok q r al pts hP hV
            subst h1
            have HB3 := hid hA1.low
            have HVv := hid hV
            have HR1 := hid hr1
            have HF1 := hid hf1
            clear hA1 hP hV hr1 hf1
            go_wp2_with fail
            refine (HA2.out w3 HB3.out).mono ?_
            intro e w4 hA4
            obtain ⟨p2, c2, h4, hr4, _⟩ := hA4.ok q r al pts HPp.out (by rw [HEv.out q]; exact HVv.out)
            subst h4
            have HB4 := hid (HB3.out.trans (hA4.low.mono HB3.out.size))
            have HR4 := hid hr4
            have HR14 := hid (HR1.out.below hA4.low)
            clear hA4 hr4
            go_wp2_with fail
            refine (samePts_any p1 p2 pts c1 c2 w4 HR14.out HR4.out HF1.out).mono ?_
            rintro e w5 ⟨rfl, hb5⟩
            have HB5 := hid (HB4.out.trans (hb5.mono HB4.out.size))
            clear hb5
            go_wp2_with fail
            go_ret
            exact ⟨rfl, HBl.out.trans (HB5.out.mono HBl.out.size)⟩
        · have h1 := hA1.no c p hP
          subst h1
          have HB3 := hid hA1.low
          have HPp := hid hP
          have htd : -2147483648 ≤ t + d ∧ t + d ≤ 2147483648 := by have := HT.out; have := HDD.out; omega
          clear hA1 hP
          go_wp2_with fail
          refine (HA2.out w3 HB3.out).mono ?_
          intro e w4 hA4
          have h4 := hA4.no c p HPp.out
          subst h4
          have HB4 := hid (HB3.out.trans (hA4.low.mono HB3.out.size))
          clear hA4
          go_wp2_with fail
          refine (samePts_any none none [] 0 0 w4 (fun k hk => by simp at hk) (fun k hk => by simp at hk) ⟨by simp, fun k hk => by simp at hk⟩).mono ?_
          rintro e w5 ⟨rfl, hb5⟩
          have HB5 := hid (HB4.out.trans (hb5.mono HB4.out.size))
          clear hb5
          go_wp2_with fail
          go_ret
          exact ⟨rfl, HBl.out.trans (HB5.out.mono HBl.out.size)⟩

end Go.Proofs.YtdmnlmohfaafoafGreatDoor

