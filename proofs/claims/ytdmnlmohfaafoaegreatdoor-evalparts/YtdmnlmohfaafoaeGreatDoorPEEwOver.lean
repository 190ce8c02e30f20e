/- What asker.over tells: what each series comes to over a span. -/
import Derived.Test.YtdmnlmohfaafoaeGreatDoorPEEwTell
import Derived.Test.YtdmnlmohfaafoaeGreatDoorPEEwTog
namespace Go.Proofs.YtdmnlmohfaafoaeGreatDoor
open Go.RowKit Go.Shelf

theorem ew_results {P : Program} {fn : Func} {p u : Tmp} {ty : TypeId} (h : fn.results = #[.cell p ty, .tmp u]) (tmps : Array Value) (w : World) (g : Nat) (t : TypeId) (cs : Array Value) (fr : Nat × Nat) (d : TypeDesc)
    (hp : tmps.getD p undef = .pointer (some ⟨g, 0, none⟩)) (hg : w.heap[g]? = some (.cells cs t fr)) (hu : P.underlying ty = some d) (hd : (match d with | .struct _ | .array _ _ => true | _ => false) = true) (hi : (P.info? ty).map (·.size) = some cs.size) :
    (results fn tmps).run P w = .ok (.tuple #[.agg cs, tmps.getD u undef]) w := by
  have hp' : tmps[p]?.getD undef = .pointer (some ⟨g, 0, none⟩) := by simpa using hp
  simp [results, h, hp', asAddr, run_loadVar_row w g t ty cs fr d hg hu hd hi]

/-- How a part of a question ends: points, or an error. -/
structure PtEnd (w w' : World) (e : Ending) (R : Option (Bool × List EV.Pt)) : Prop where
  ok : ∀ al pts, R = some (al, pts) → ∃ v, e = .returned (.tuple #[.agg #[v, .bool al], .nilIface]) ∧ PV w' v pts
  bad : R = none → ∃ t u, e = .returned (.tuple #[.agg #[.slice none 0 0, .bool false], .iface t u])
  low : Below w.heap.size w w'

/-- A question's box. -/
def QBox (W : World) (B : Nat) (c n sp : Int) (mv bv lv rv : Value) : Prop := W.heap[B]? = some (.cells #[.int .i64 c, .int .i64 n, mv, .int .i64 sp, bv, lv, rv] 184)

theorem QBox.below {W W' : World} {B : Nat} {c n sp : Int} {mv bv lv rv : Value} (h : QBox W B c n sp mv bv lv rv) (k : Below W.heap.size W W') : QBox W' B c n sp mv bv lv rv := (k.block _ (heap_lt h)).trans h

theorem qb_fa (w : World) (b k : Nat) (hk : k < 7) : (Instr.fieldAt 184 (.pointer (some ⟨b, 0, none⟩)) k).run Tryz.prog w = .ok (.pointer (some ⟨b, k, none⟩)) w := by
  rcases (by omega : k = 0 ∨ k = 1 ∨ k = 2 ∨ k = 3 ∨ k = 4 ∨ k = 5 ∨ k = 6) with rfl | rfl | rfl | rfl | rfl | rfl | rfl <;> go_simp
theorem qb_ldM (b : Nat) (ao : Option Addr) (n c : Nat) (w : World) (h : w.cell? ⟨b, 2, none⟩ = some (.slice ao n c)) : (Instr.loadAt 45 (.pointer (some ⟨b, 2, none⟩))).run Tryz.prog w = .ok (.slice ao n c) w := by
  have hs : (Tryz.prog.info? 45).map (·.size) = some 1 := by kernel_rfl
  go_simp
theorem qb_ldC (b k : Nat) (c : Int) (w : World) (h : w.cell? ⟨b, k, none⟩ = some (.int .i64 c)) : (Instr.loadAt 3 (.pointer (some ⟨b, k, none⟩))).run Tryz.prog w = .ok (.int .i64 c) w := by
  have hs : (Tryz.prog.info? 3).map (·.size) = some 1 := by kernel_rfl
  go_simp

theorem sr_fa0 (w : World) (b : Nat) : (Instr.fieldAt 61 (.pointer (some ⟨b, 0, none⟩)) 0).run Tryz.prog w = .ok (.pointer (some ⟨b, 0, none⟩)) w := by
  go_simp
theorem sr_fa1 (w : World) (b : Nat) : (Instr.fieldAt 61 (.pointer (some ⟨b, 0, none⟩)) 1).run Tryz.prog w = .ok (.pointer (some ⟨b, 1, none⟩)) w := by
  go_simp
theorem sr_ldS (b k : Nat) (ao : Option Addr) (n c : Nat) (w : World) (h : w.cell? ⟨b, k, none⟩ = some (.slice ao n c)) : (Instr.loadAt 59 (.pointer (some ⟨b, k, none⟩))).run Tryz.prog w = .ok (.slice ao n c) w := by
  have hs : (Tryz.prog.info? 59).map (·.size) = some 1 := by kernel_rfl
  go_simp

theorem src_facts {S : List Sr} (h : Askd S) (m : List LB.Mat) (f t : Int) (i : Nat) (hi : i < (EV.src S m f t).length) : 0 < (atSr (EV.src S m f t) i).1.length ∧ (atSr (EV.src S m f t) i).1.length ≤ 1000 ∧ 0 < (atSr (EV.src S m f t) i).2.length ∧ (atSr (EV.src S m f t) i).2.length ≤ 2000 := by
  have e : atSr (EV.src S m f t) i = (EV.src S m f t)[i] := by unfold atSr; rw [List.getD_eq_getElem?_getD, List.getElem?_eq_getElem hi]; rfl
  rw [e]
  have hm := List.getElem_mem hi
  generalize (EV.src S m f t)[i] = x at *
  unfold EV.src at hm
  obtain ⟨y, hy, he⟩ := List.mem_filterMap.1 hm
  obtain ⟨k, hk, rfl⟩ := List.getElem_of_mem hy
  have ey : atSr S k = S[k] := by unfold atSr; rw [List.getD_eq_getElem?_getD, List.getElem?_eq_getElem hk]; rfl
  have h1 := h.each k hk
  have h2 := h.lab k hk
  rw [ey] at h1 h2
  split at he
  · rename_i hh
    cases he
    exact ⟨h2, h1.1, hh.1, Nat.le_trans (List.length_filter_le _ _) h1.2⟩
  · cases he

/-- A point of a series. -/
def ptS (c : Int) (x : Sr) : EV.Pt := (x.1, EV.over c x.2)
theorem pick_eq (c : Int) (m : List LB.Mat) (sp t : Int) (S : List Sr) : EV.pick c m sp t S = (EV.src S m (t - sp + 1) t).map (ptS c) := rfl

theorem take_S (l : List Sr) (i : Nat) (h : i < l.length) : l.take (i + 1) = l.take i ++ [atSr l i] := by
  rw [List.take_succ_eq_append_getElem h]; simp [atSr, h]

set_option maxRecDepth 100000 in
set_option maxHeartbeats 6400000 in
theorem over_any (ba bx B : Nat) (t left c n sp : Int) (mv bv lv rv : Value) (m : List LB.Mat) (ao : Option Addr) (S : List Sr) (cap : Nat) (w : World) (hA : AkI w ba bx t left) (hQ : QBox w B c n sp mv bv lv rv) (hM : OwnM w 0 mv m) (hm : m.length ≤ 1000) (hbx : w.cell? ⟨bx, 0, none⟩ = some (.slice ao S.length cap)) (hS : SrOut w NoZ ao S) (hK : Askd S) (hc : 2 ≤ c ∧ c ≤ 7) (hsp : 1 ≤ sp ∧ sp ≤ 1099511627776) (ht : -1099511627776 ≤ t ∧ t ≤ 1099511627776) :
    Calls Tryz.prog 108 #[.pointer (some ⟨ba, 0, none⟩), .pointer (some ⟨B, 0, none⟩)] w fun e w' => PtEnd w w' e (some (false, EV.pick c m sp t S)) := by
  obtain ⟨mo, mc, em⟩ := own_slice hM
  subst em
  have hal : Below w.heap.size w (w.alloc (.cells #[.slice none 0 0, .bool false] 140)) := (Below.refl _ w).alloc (Nat.le_refl _) _
  have HB0 := hid hal
  have HO0 := hid (heap_alloc_new w (.cells #[.slice none 0 0, .bool false] 140))
  have HA := hid hA
  have HQ := hid hQ
  have HM := hid hM
  have HX := hid hbx
  have HS := hid hS
  have HK := hid hK
  have HC := hid hc
  clear hA hQ hM hbx hS hK hal
  have hw1 : IntKind.i64.wrap (sp - 1) = sp - 1 := by rw [IntKind.wrap_i64]; omega
  have hw2 : IntKind.i64.wrap (t - (sp - 1)) = t - sp + 1 := by rw [IntKind.wrap_i64]; omega
  go_enter Tryz.func108, Tryz.ntmps108
  go_wp2_with fail
  generalize w.alloc (.cells #[.slice none 0 0, .bool false] 140) = w1 at *
  have hdr : Below w1.heap.size w1 w1.drew := (Below.refl _ w1).drew
  have HB1 := hid (bel2 HB0.out hdr)
  have HA1 := hid (HA.out.below HB1.out)
  have HQ1 := hid (HQ.out.below HB1.out)
  have HO1 := hid ((hdr.block _ (heap_lt HO0.out)).trans HO0.out)
  clear hdr HB0 HO0
  refine wp_region_ph (fun W => AkI W ba bx t left ∧ QBox W B c n sp (.slice mo m.length mc) bv lv rv) [([0, 1, 2, 3, 4, 5, 6, 7, 8, 9, 10, 11, 12, 13, 14], [15]), ([16, 17, 18, 19, 20], [])] (by kernel_rfl) (by kernel_rfl) ?_
  simp only [PhQ, phOps, List.map_cons, List.map_nil, List.filterMap_cons, List.filterMap_nil, List.getElem?_toArray, List.getElem?_cons_zero, List.getElem?_cons_succ]
  refine takes.on (v := .pointer (some ⟨ba, 0, none⟩)) (YC.move rfl (by kernel_rfl)) ?_
  refine takes.on (v := .pointer (some ⟨B, 0, none⟩)) (YC.move rfl (by kernel_rfl)) ?_
  refine takes.on (v := .pointer (some ⟨B, 0, none⟩)) (fun W _ => .inl (by kernel_rfl)) ?_
  refine takes.on (YC.field rfl (by kernel_rfl) (fun W => qb_fa W B 2 (by decide))) ?_
  refine takes.on (YC.load rfl (by kernel_rfl) fun W hW => qb_ldM B mo m.length mc W (zcell' _ _ _ _ hW.2 2 _ rfl)) ?_
  refine takes.on (v := .pointer (some ⟨ba, 0, none⟩)) (YC.move rfl (by kernel_rfl)) ?_
  refine takes.on (v := .pointer (some ⟨ba, 0, none⟩)) (fun W _ => .inl (by kernel_rfl)) ?_
  refine takes.on (YC.field rfl (by kernel_rfl) (fun W => ak_fa0 W ba)) ?_
  refine takes.on (YC.load rfl (by kernel_rfl) fun W hW => ak_ldT ba bx t left W hW.1) ?_
  refine takes.on (v := .pointer (some ⟨B, 0, none⟩)) (YC.move rfl (by kernel_rfl)) ?_
  refine takes.on (v := .pointer (some ⟨B, 0, none⟩)) (fun W _ => .inl (by kernel_rfl)) ?_
  refine takes.on (YC.field rfl (by kernel_rfl) (fun W => qb_fa W B 3 (by decide))) ?_
  refine takes.on (YC.load rfl (by kernel_rfl) fun W hW => pt_loadV B 3 sp W (zcell' _ _ _ _ hW.2 3 _ rfl)) ?_
  refine takes.on (v := .int .i64 (sp - 1)) (fun W _ => .inl (by unfold execOp; go_simp)) ?_
  refine takes.on (v := .int .i64 (t - sp + 1)) (fun W _ => .inl (by unfold execOp; go_simp)) ?_
  refine PhQ.off (C := fun W => AkI W ba bx t left ∧ QBox W B c n sp (.slice mo m.length mc) bv lv rv) ⟨HA1.out, HQ1.out⟩ ?_
  go_frame
  go_wp2_with fail
  have hx1 : w1.drew.cell? ⟨bx, 0, none⟩ = some (.slice ao S.length cap) := (HB1.out.cell (p := ⟨bx, 0, none⟩) (World.block_lt_of_cell? _ _ HX.out)).trans HX.out
  refine (tell_any ba bx t left (t - sp + 1) (.slice mo m.length mc) m ao S cap w1.drew HA1.out (krow_kept HM.out fun g _ hg => HB1.out.block g (heap_lt hg)) hm hx1 (HS.out.below0 HB1.out) HK.out).mono ?_
  rintro e w2 ⟨so, sc, rfl, hSo, hb2⟩
  have HB2 := hid (bel2 HB1.out hb2)
  have HA2 := hid (HA1.out.below hb2)
  have HQ2 := hid (HQ1.out.below hb2)
  have HO2 := hid ((hb2.block _ (heap_lt HO1.out)).trans HO1.out)
  have HSo := hid hSo
  have HSrc := hid (fun i hi => src_facts HK.out m (t - sp + 1) t i hi)
  have HLn : Hid ((EV.src S m (t - sp + 1) t).length ≤ 1000) := Nat.le_trans (src_len _ _ _ _) HK.out.few
  have HPk : Hid (EV.pick c m sp t S = (EV.src S m (t - sp + 1) t).map (ptS c)) := pick_eq c m sp t S
  have hO2 := heap_lt HO2.out
  clear hx1 hSo hb2 HB1 HA1 HQ1 HO1
  generalize hRes : EV.pick c m sp t S = Res at *
  have HRes := hid hRes
  clear hRes
  generalize EV.src S m (t - sp + 1) t = T at *
  have hTl := HLn.out
  go_wp2_with fail
  refine PhQ.next (C := fun W => AkI W ba bx t left ∧ QBox W B c n sp (.slice mo m.length mc) bv lv rv) ⟨HA2.out, HQ2.out⟩ ?_
  refine takes.on (v := .tuple #[.slice so T.length sc, .nilIface]) (fun W _ => .inl (by kernel_rfl)) ?_
  refine takes.on (v := .slice so T.length sc) (fun W _ => .inl (by kernel_rfl)) ?_
  refine takes.on (v := .nilIface) (fun W _ => .inl (by kernel_rfl)) ?_
  refine takes.on (v := .slice so T.length sc) (fun W _ => .inl (by kernel_rfl)) ?_
  refine takes.on (v := .nilIface) (fun W _ => .inl (by kernel_rfl)) ?_
  refine PhQ.over (C := fun W => AkI W ba bx t left ∧ QBox W B c n sp (.slice mo m.length mc) bv lv rv) ⟨HA2.out, HQ2.out⟩ ?_
  go_frame
  go_wp2_with fail
  have hal : Below w2.heap.size w2 (w2.alloc (.cells #[.slice none 0 0, .bool false] 140)) := (Below.refl _ w2).alloc (Nat.le_refl _) _
  have HR4 := hid (heap_alloc_new w2 (.cells #[.slice none 0 0, .bool false] 140))
  have HA4 := hid hal
  clear hal
  generalize w2.alloc (.cells #[.slice none 0 0, .bool false] 140) = w4 at *
  refine (adder_any (some ⟨w2.heap.size, 0, none⟩) w4).mono ?_
  rintro e w5 ⟨rfl, h5⟩
  have hal : Below w4.heap.size w4 w5 := by rw [h5]; exact (Below.refl _ w4).alloc (Nat.le_refl _) _
  have HPt : Hid (w5.heap[w4.heap.size]? = some (.cells #[.pointer (some ⟨w2.heap.size, 0, none⟩)] 255)) := by
    show _ = _
    rw [h5]; exact heap_alloc_new w4 _
  have HB25 := hid (bel2 HA4.out hal)
  have HPB : Hid (PB w2 w5 w2.heap.size (.slice none 0 0) false [] []) := PB.first HB25.out ((hal.block _ (heap_lt HR4.out)).trans HR4.out) (Nat.le_refl _)
  have HO5 := hid ((HB25.out.block _ hO2).trans HO2.out)
  have HQ5 := hid (HQ2.out.below HB25.out)
  have hobr : w.heap.size ≠ w2.heap.size := by omega
  have hpne : w4.heap.size ≠ w2.heap.size := by have := heap_lt HR4.out; omega
  have hBne : B ≠ w2.heap.size := by have := heap_lt HQ2.out; omega
  clear hal h5 HR4 HA4 HO2
  generalize w4.heap.size = pb at *
  have hpb5 := heap_lt HPt.out
  have hob5 := heap_lt HO5.out
  have hB5 := heap_lt HQ5.out
  generalize hbre : w2.heap.size = br at *
  have HBr := hid hbre
  clear hbre
  go_wp2_with fail
  go_loopw [38] (fun ti wr => ∃ (i : Nat) (v : Value) (xs : List (Value × Value)), i ≤ T.length ∧ ti = .int .i64 i ∧ PB w2 wr br v false xs ((T.take i).map (ptS c)) ∧ PStep w5 wr br (.slice none 0 0) v) (fun ti _ => T.length - (intOf ti).toNat)
  case atStart => exact ⟨0, _, [], Nat.zero_le _, rfl, HPB.out, PStep.refl _ _ _⟩
  case round =>
    obtain ⟨i, v, xs, hi, rfl, hpb1, hps⟩ := hrel
    have HB1 := hid hpb1
    have HS1 := hid hps
    clear hpb1 hps HPB
    by_cases hlt : i < T.length
    · obtain ⟨b, off, hao, hbs, hbz, lo, lc, tq, tc, d0, d1, hLO, hSO⟩ := HSo.out i hlt
      subst hao
      have hbs' : b < w2.heap.size := hbs
      have c0 := (HB1.out.bel.cell (p := ⟨b, off + i * 2, none⟩) hbs').trans d0
      have c1 := (HB1.out.bel.cell (p := ⟨b, off + i * 2 + 1, none⟩) hbs').trans d1
      obtain ⟨f1, f2, f3, f4⟩ := HSrc.out i hlt
      have hil : 0 ≤ (i : Int) ∧ (i : Int) < (T.length : Int) := by omega
      have HTk := hid (take_S T i hlt)
      have HLO := hid hLO.1
      have HSO := hid hSO.1
      have HLen : Hid (((T.take i).map (ptS c)).length ≤ 1000) := by
        show _ ≤ _
        rw [List.length_map, List.length_take]; omega
      have HPS : Hid (ptS c (atSr T i) = ((atSr T i).1, EV.fv c ((atSr T i).2.map (·.2)))) := by
        show _ = _
        unfold ptS
        rw [EV.over_fv HC.out.1 HC.out.2]
      generalize hPt : (T.take i).map (ptS c) = pts at *
      generalize atSr T i = x at *
      have HPt2 := hid hPt
      clear hPt d0 d1 hLO hSO
      have hal : Below wr.heap.size wr (wr.alloc (.cells #[.slice lo x.1.length lc, .slice tq x.2.length tc] 61)) := (Below.refl _ wr).alloc (Nat.le_refl _) _
      have HX2 := hid (heap_alloc_new wr (.cells #[.slice lo x.1.length lc, .slice tq x.2.length tc] 61))
      have HB2b := hid (HB1.out.below hal)
      have HS2 := hid (HS1.out.trans (PStep.below (br := br) (v := v) hal))
      have hf3 : 0 < (x.2.length : Int) := by omega
      clear hal HB1 HS1
      go_wp2_with fail
      generalize wr.alloc (.cells #[.slice lo x.1.length lc, .slice tq x.2.length tc] 61) = W1 at *
      generalize wr.heap.size = bq at *
      have hdr : Below W1.heap.size W1 W1.drew := (Below.refl _ W1).drew
      have HB3 := hid (HB2b.out.below hdr)
      have HS3 := hid (HS2.out.trans (PStep.below (br := br) (v := v) hdr))
      have HX3 := hid ((hdr.block _ (heap_lt HX2.out)).trans HX2.out)
      have hQ3 := (HS3.out.block B hB5 hBne (by simp [Value.ownBlock])).trans HQ5.out
      have HQ3 : Hid (QBox W1.drew B c n sp (.slice mo m.length mc) bv lv rv) := hQ3
      clear hdr HB2b HS2 HX2 hQ3
      refine wp_region_ph (fun W => W.heap[bq]? = some (.cells #[.slice lo x.1.length lc, .slice tq x.2.length tc] 61) ∧ QBox W B c n sp (.slice mo m.length mc) bv lv rv) [([0, 1, 2, 4, 5, 6, 7, 8, 9], [3, 10, 11, 12])] (by kernel_rfl) (by kernel_rfl) ?_
      simp only [PhQ, phOps, List.map_cons, List.map_nil, List.filterMap_cons, List.filterMap_nil, List.getElem?_toArray, List.getElem?_cons_zero, List.getElem?_cons_succ]
      refine takes.on (v := .func (.func 175) #[] #[.pointer (some ⟨pb, 0, none⟩)]) (YC.move rfl (by kernel_rfl)) ?_
      refine takes.on (YC.field rfl (by kernel_rfl) (fun W => sr_fa0 W bq)) ?_
      refine takes.on (YC.load rfl (by kernel_rfl) fun W hW => pt_loadL bq 0 lo _ lc W (zcell' _ _ _ _ hW.1 0 _ rfl)) ?_
      refine takes.on (v := .pointer (some ⟨B, 0, none⟩)) (YC.move rfl (by kernel_rfl)) ?_
      refine takes.on (v := .pointer (some ⟨B, 0, none⟩)) (fun W _ => .inl (by kernel_rfl)) ?_
      refine takes.on (YC.field rfl (by kernel_rfl) (fun W => qb_fa W B 0 (by decide))) ?_
      refine takes.on (YC.load rfl (by kernel_rfl) fun W hW => qb_ldC B 0 c W (zcell' _ _ _ _ hW.2 0 _ rfl)) ?_
      refine takes.on (YC.field rfl (by kernel_rfl) (fun W => sr_fa1 W bq)) ?_
      refine takes.on (YC.load rfl (by kernel_rfl) fun W hW => sr_ldS bq 1 tq _ tc W (zcell' _ _ _ _ hW.1 1 _ rfl)) ?_
      refine PhQ.off (C := fun W => W.heap[bq]? = some (.cells #[.slice lo x.1.length lc, .slice tq x.2.length tc] 61) ∧ QBox W B c n sp (.slice mo m.length mc) bv lv rv) ⟨HX3.out, HQ3.out⟩ ?_
      go_frame
      go_wp2_with fail
      refine (cloneL_row lo x.1 lc W1.drew (HLO.out.below HB3.out.bel) f1 (by omega)).mono ?_
      rintro e w6 ⟨v6, rfl, ho6, hb6⟩
      obtain ⟨l6, c6, e6⟩ := own_slice ho6
      subst e6
      have HB6 := hid (HB3.out.below hb6)
      have HS6 := hid (HS3.out.trans (PStep.below (br := br) (v := v) hb6))
      have HX6 := hid ((hb6.block _ (heap_lt HX3.out)).trans HX3.out)
      have HQ6 := hid (HQ3.out.below hb6)
      have HO6 : Hid (OwnLb w6 w2.heap.size (.slice l6 x.1.length c6) x.1) := row_low ho6 HB3.out.bel.size
      clear ho6 hb6 HB3 HS3 HX3 HQ3
      go_wp2_with fail
      refine SeqQ.on (C := fun W => W.heap[bq]? = some (.cells #[.slice lo x.1.length lc, .slice tq x.2.length tc] 61) ∧ QBox W B c n sp (.slice mo m.length mc) bv lv rv) ⟨HX6.out, HQ6.out⟩ ?_
      go_wp2_with fail
      refine (smpVals_any tq x.2 tc w6 (HSO.out.below HB6.out.bel) (by omega)).mono ?_
      rintro e w7 ⟨vo, vc, rfl, hVR, hb7⟩
      have HB7 := hid (HB6.out.below hb7)
      have HS7 := hid (HS6.out.trans (PStep.below (br := br) (v := v) hb7))
      have HX7 := hid ((hb7.block _ (heap_lt HX6.out)).trans HX6.out)
      have HQ7 := hid (HQ6.out.below hb7)
      have HO7 : Hid (OwnLb w7 w2.heap.size (.slice l6 x.1.length c6) x.1) := row_kept HO6.out fun g _ hg => hb7.block g (heap_lt hg)
      have hvl : (x.2.map (·.2)).length = x.2.length := List.length_map _
      have HFo := hid (fold_any c vo (x.2.map (·.2)) vc w7 hVR (by omega) (by omega) (by omega))
      rw [hvl] at HFo
      clear hVR hb7 HB6 HS6 HX6 HQ6 HO6
      go_wp2_with fail
      refine SeqQ.on (C := fun W => W.heap[bq]? = some (.cells #[.slice lo x.1.length lc, .slice tq x.2.length tc] 61) ∧ QBox W B c n sp (.slice mo m.length mc) bv lv rv) ⟨HX7.out, HQ7.out⟩ ?_
      go_wp2_with fail
      refine HFo.out.mono ?_
      rintro e w8 ⟨rfl, hb8⟩
      have HB8 := hid (HB7.out.below hb8)
      have HS8 := hid (HS7.out.trans (PStep.below (br := br) (v := v) hb8))
      have HX8 := hid ((hb8.block _ (heap_lt HX7.out)).trans HX7.out)
      have HQ8 := hid (HQ7.out.below hb8)
      have HO8 : Hid (OwnLb w8 w2.heap.size (.slice l6 x.1.length c6) x.1) := row_kept HO7.out fun g _ hg => hb8.block g (heap_lt hg)
      clear hb8 HFo HB7 HS7 HX7 HQ7 HO7
      generalize EV.fv c (x.2.map (·.2)) = fvv at *
      have hptr := (HS8.out.block pb hpb5 hpne (by simp [Value.ownBlock])).trans HPt.out
      have HAd := hid (add_any w2 w8 br pb v false xs pts l6 x.1 c6 fvv HB8.out hptr (.inr HO8.out) (by have := HLen.out; omega))
      have hbqn : bq ≠ br := fun e => by
        have h1 := HX8.out
        rw [e, HB8.out.box] at h1
        simp at h1
      clear hptr
      go_wp2_with fail
      refine SeqQ.on (C := fun W => W.heap[bq]? = some (.cells #[.slice lo x.1.length lc, .slice tq x.2.length tc] 61) ∧ QBox W B c n sp (.slice mo m.length mc) bv lv rv) ⟨HX8.out, HQ8.out⟩ ?_
      go_wp2_with fail
      refine HAd.out.mono ?_
      rintro e w9 ⟨rfl, v9, hB9, hS9⟩
      have HB9 := hid hB9
      have HS9 := hid (HS8.out.trans hS9)
      have HX9 := hid ((hS9.block bq (heap_lt HX8.out) hbqn (own_kind HB8.out.row HX8.out (by decide))).trans HX8.out)
      have HQ9 : Hid (QBox w9 B c n sp (.slice mo m.length mc) bv lv rv) := (hS9.block B (heap_lt HQ8.out) hBne (own_kind HB8.out.row HQ8.out (by decide))).trans HQ8.out
      clear hB9 hS9 HAd HB8 HS8 HX8 HQ8
      go_wp2_with fail
      refine PhQ.done (C := fun W => W.heap[bq]? = some (.cells #[.slice lo x.1.length lc, .slice tq x.2.length tc] 61) ∧ QBox W B c n sp (.slice mo m.length mc) bv lv rv) ⟨HX9.out, HQ9.out⟩ ?_
      go_wp2_with fail
      go_roundw
      case rel =>
        refine ⟨i + 1, v9, xs ++ [(.slice l6 x.1.length c6, .int .i64 fvv)], by omega, by go_num, ?_, HS9.out⟩
        rw [HTk.out, List.map_append, List.map_singleton, HPt2.out, HPS.out]
        exact HB9.out
      case measure => simp [intOf]; omega
    · have e : i = T.length := by omega
      subst e
      rw [List.take_length, ← HPk.out] at HB1
      obtain ⟨qo, qc, ev, hrow⟩ := HB1.out.out
      subst ev
      have hbr1 := HB1.out.box
      have hob1 := (HS1.out.block _ hob5 hobr (by simp [Value.ownBlock])).trans HO5.out
      have x0 : wr.cell? ⟨br, 0, none⟩ = some (.slice qo Res.length qc) := zcell' _ _ _ _ hbr1 0 _ rfl
      have x1 : wr.cell? ⟨br, 1, none⟩ = some (.bool false) := zcell' _ _ _ _ hbr1 1 _ rfl
      have y0 : wr.cell? ⟨w.heap.size, 0, none⟩ = some (.slice none 0 0) := zcell' _ _ _ _ hob1 0 _ rfl
      have y1 : wr.cell? ⟨w.heap.size, 1, none⟩ = some (.bool false) := zcell' _ _ _ _ hob1 1 _ rfl
      have z0 := hfz hob1 0
      have z1 := hfz hob1 1
      have HOb := hid hob1
      have HV := hid (HB1.out.pvSet (so' := qo) (n' := Res.length) (k' := qc) (b' := false) hob1)
      have HBel := hid (((HB2.out.trans (HB1.out.bel.mono HB2.out.size)).setCell (p := ⟨w.heap.size, 0, none⟩) (Nat.le_refl _) (.slice qo Res.length qc)).setCell (p := ⟨w.heap.size, 1, none⟩) (Nat.le_refl _) (.bool false))
      clear hbr1 hob1 hrow
      go_wp2_with fail
      refine bodyPost_ret (ew_results (P := Tryz.prog) rfl _ _ w.heap.size 140 _ (0, 0) _ rfl (ew_set2 HOb.out) Tryz.underlying140 rfl (by kernel_rfl)) rfl ?_
      rw [HRes.out]
      exact ⟨fun al pts e => (by cases e; exact ⟨_, rfl, HV.out⟩), fun e => (by cases e), HBel.out⟩

end Go.Proofs.YtdmnlmohfaafoaeGreatDoor

