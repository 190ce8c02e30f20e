/- What asker.ofOne and asker.ofTwo tell, from what their parts tell. -/
import Derived.Test.YtdmnlmohfaafoaeGreatDoorPEEwFew
namespace Go.Proofs.YtdmnlmohfaafoaeGreatDoor
open Go.RowKit Go.Shelf

/-- How a part of a question ends: points, or an error; the asker's count has gone down. -/
structure QEnd (W w' : World) (e : Ending) (ba bx : Nat) (t low : Int) (R : Option (Bool × List EV.Pt)) : Prop where
  ok : ∀ al pts, R = some (al, pts) → ∃ v, e = .returned (.tuple #[.agg #[v, .bool al], .nilIface]) ∧ PV w' v pts
  bad : R = none → ∃ t u, e = .returned (.tuple #[.agg #[.slice none 0 0, .bool false], .iface t u])
  but : But ba W w'
  ak : ∃ left, low ≤ left ∧ left ≤ 33554432 ∧ AkI w' ba bx t left

def PartIs (w0 : World) (ba bx : Nat) (t : Int) (S : List Sr) (q : AQ.Q) : Prop := ∀ (vq : Value) (W : World) (deep left : Int), AskT w0 vq q → Below w0.heap.size w0 W → AkI W ba bx t left → (AQ.parts q : Int) ≤ left ∧ left ≤ 33554432 → (AQ.parts q : Int) ≤ deep ∧ deep ≤ 131072 →
  Calls Tryz.prog 78 #[.pointer (some ⟨ba, 0, none⟩), vq, .int .i64 deep] W fun e w' => QEnd W w' e ba bx t (left - AQ.parts q) (EV.ev q t S)

/-- What was there stays where the asker's box was made behind it. -/
theorem But.low {ba : Nat} {w0 W w' : World} (h : Below w0.heap.size w0 W) (k : But ba W w') (hb : w0.heap.size ≤ ba) : Below w0.heap.size w0 w' :=
  ⟨k.1.trans h.os, k.2.1.trans h.tape, k.2.2.1.trans h.output, Nat.le_trans h.size k.2.2.2.1, fun j hj => (k.2.2.2.2 j (Nat.lt_of_lt_of_le hj h.size) (by omega)).trans (h.block j hj)⟩

theorem But.blk {ba g : Nat} {W w' : World} {c : Array Value} {T : TypeId} (k : But ba W w') (hg : W.heap[g]? = some (.cells c T)) (hne : g ≠ ba) : w'.heap[g]? = some (.cells c T) := (k.2.2.2.2 g (heap_lt hg) hne).trans hg

/-- Where two blocks turn, one of them new. -/
theorem But.two {ba g : Nat} {W W1 w' : World} (h : But ba W W1) (k : But g W1 w') (hg : W.heap.size ≤ g) : But ba W w' :=
  ⟨k.1.trans h.1, k.2.1.trans h.2.1, k.2.2.1.trans h.2.2.1, Nat.le_trans h.2.2.2.1 k.2.2.2.1, fun j hj hne => (k.2.2.2.2 j (Nat.lt_of_lt_of_le hj h.2.2.2.1) (by omega)).trans (h.2.2.2.2 j hj hne)⟩

theorem AkI.noPt {W : World} {ba bx : Nat} {t left : Int} (_ : AkI W ba bx t left) : NoPt #[.int .i64 t, .func (.func 79) #[] #[.pointer (some ⟨bx, 0, none⟩)], .int .i64 left] := noPt_ak _ _ _ rfl (fun _ h => by cases h) (fun _ _ _ h => by cases h)

theorem rs_load (b : Nat) (ao : Option Addr) (n c : Nat) (al : Bool) (w : World) (h : w.heap[b]? = some (.cells #[.slice ao n c, .bool al] 140)) : (Instr.loadAt 140 (.pointer (some ⟨b, 0, none⟩))).run Tryz.prog w = .ok (.agg #[.slice ao n c, .bool al]) w := by
  have h0 : w.cell? ⟨b, 0, none⟩ = some (.slice ao n c) := zcell' _ _ _ _ h 0 _ rfl
  have h1 : w.cell? ⟨b, 0 + 1, none⟩ = some (.bool al) := zcell' _ _ _ _ h 1 _ rfl
  have hs : (Tryz.prog.info? 140).map (·.size) = some 2 := by kernel_rfl
  go_simp
theorem qb_ldN (b : Nat) (ao : Option Addr) (n c : Nat) (w : World) (h : w.cell? ⟨b, 4, none⟩ = some (.slice ao n c)) : (Instr.loadAt 182 (.pointer (some ⟨b, 4, none⟩))).run Tryz.prog w = .ok (.slice ao n c) w := by
  have hs : (Tryz.prog.info? 182).map (·.size) = some 1 := by kernel_rfl
  go_simp

theorem nrow_own {w : World} {no : Option Addr} {n nc : Nat} {l : List ByteArray} (h : OwnX w 0 (.slice no n nc) l) : n = l.length ∧ NRow w no l := by
  have hn : n = l.length := by
    obtain ⟨ao, cap, e⟩ := own_slice h
    cases e
    rfl
  refine ⟨hn, fun i hi => ?_⟩
  rcases h.2 with ⟨_, h0⟩ | ⟨g, c, cur, h0, h1, h2, h3⟩
  · omega
  · cases h0
    refine ⟨g, 0, rfl, ?_, heap_lt h2⟩
    rw [Nat.zero_add, h.cellAt i (by omega)]
    simp [LB.an, hi]

/-- What ofOne is to tell. -/
def oneR (c : Int) (nm : List ByteArray) (A : Option (Bool × List EV.Pt)) : Option (Bool × List EV.Pt) := if c = 12 then A.map fun a => (a.1, a.2.map neg') else A.bind fun a => if a.1 then none else some (false, EV.grp c nm a.2)

set_option maxRecDepth 100000 in
set_option maxHeartbeats 6400000 in
theorem ofOne_any (w0 : World) (ba bx B : Nat) (t deep left c n sp : Int) (mv bv lv rv : Value) (nm : List ByteArray) (S : List Sr) (l : AQ.Q) (W : World) (hba : w0.heap.size ≤ ba) (hB : Below w0.heap.size w0 W) (hA : AkI W ba bx t left) (hQ : QBox w0 B c n sp mv bv lv rv) (hN : OwnX w0 0 bv nm) (hn : nm.length ≤ 1000) (hl : AskT w0 lv l) (hP : PartIs w0 ba bx t S l) (hc : 8 ≤ c ∧ c ≤ 12) (hf : ∀ R, EV.ev l t S = some R → EvFew R) (hlf : (AQ.parts l : Int) ≤ left ∧ left ≤ 33554432) (hdp : (AQ.parts l : Int) ≤ deep ∧ deep ≤ 131072) :
    Calls Tryz.prog 109 #[.pointer (some ⟨ba, 0, none⟩), .pointer (some ⟨B, 0, none⟩), .int .i64 deep] W fun e w' => QEnd W w' e ba bx t (left - AQ.parts l) (oneR c nm (EV.ev l t S)) := by
  obtain ⟨la, el⟩ := hl.ptr
  subst el
  obtain ⟨no, nc, en⟩ := own_slice hN
  subst en
  have hal : Below W.heap.size W (W.alloc (.cells #[.slice none 0 0, .bool false] 140)) := (Below.refl _ W).alloc (Nat.le_refl _) _
  have HB0 := hid (bel2 hB hal)
  have HO0 := hid (heap_alloc_new W (.cells #[.slice none 0 0, .bool false] 140))
  have HA0 := hid (hA.below hal)
  have HAl := hid hal
  have hbaW := heap_lt hA
  have HQ := hid hQ
  have HN := hid hN
  have HL := hid hl
  have HP := hid hP
  have HF := hid hf
  have hBw := heap_lt hQ
  have q5 : (W.alloc (.cells #[.slice none 0 0, .bool false] 140)).cell? ⟨B, 5, none⟩ = some (.pointer la) := (HB0.out.cell (p := ⟨B, 5, none⟩) hBw).trans (zcell' _ _ _ _ hQ 5 _ rfl)
  generalize hLp : AQ.parts l = lp at *
  have HLp := hid hLp
  clear hA hQ hN hl hP hf hal hB hLp
  go_enter Tryz.func109, Tryz.ntmps109
  go_wp2_with fail
  generalize W.alloc (.cells #[.slice none 0 0, .bool false] 140) = W1 at *
  have HC := hid (HP.out (.pointer la) W1 deep left HL.out HB0.out HA0.out (by rw [HLp.out]; exact hlf) (by rw [HLp.out]; exact hdp))
  rw [HLp.out] at HC
  refine HC.out.mono ?_
  intro e w2 hE
  have hb2 := hE.but
  have HBt := hid hb2
  have hneo : W.heap.size ≠ ba := by omega
  have HO2 := hid (hb2.blk HO0.out hneo)
  have HB2 := hid (But.low HB0.out hb2 hba)
  have HK := hid hE.ak
  have HButW := hid ((But.below (bt := ba) HAl.out).trans hb2)
  have hsz2 : W.heap.size < w2.heap.size := heap_lt HO2.out
  rcases hv : EV.ev l t S with _ | ⟨al, pts⟩
  · obtain ⟨tt, u, rfl⟩ := hE.bad hv
    have HR : Hid (oneR c nm none = none) := by
      show _ = _
      unfold oneR
      split <;> rfl
    have HV := hid hv
    clear hE hb2 hv HC
    have hal : Below w2.heap.size w2 (w2.alloc (.cells #[.slice none 0 0, .bool false] 140)) := (Below.refl _ w2).alloc (Nat.le_refl _) _
    have HAl2 := hid hal
    clear hal
    go_upto_region 2 with fail
    generalize w2.alloc (.cells #[.slice none 0 0, .bool false] 140) = w3 at *
    have hO3 := (HAl2.out.block _ (heap_lt HO2.out)).trans HO2.out
    have HO3 := hid hO3
    have y0 : w3.cell? ⟨W.heap.size, 0, none⟩ = some (.slice none 0 0) := zcell' _ _ _ _ hO3 0 _ rfl
    have y1 : w3.cell? ⟨W.heap.size, 1, none⟩ = some (.bool false) := zcell' _ _ _ _ hO3 1 _ rfl
    have z0 := hfz hO3 0
    have z1 := hfz hO3 1
    have HBu := hid ((HButW.out.trans (But.below HAl2.out)).two (but_set2 w3 W.heap.size (.slice none 0 0) (.bool false)) (Nat.le_refl _))
    have HAk : Hid (∃ lf, left - lp ≤ lf ∧ lf ≤ 33554432 ∧ AkI ((w3.setCell ⟨W.heap.size, 0, none⟩ (.slice none 0 0)).setCell ⟨W.heap.size, 1, none⟩ (.bool false)) ba bx t lf) := by
      obtain ⟨lf, h1, h2, h3⟩ := HK.out
      exact ⟨lf, h1, h2, (but_set2 _ W.heap.size _ _).blk (h3.below HAl2.out) (fun e => hneo e.symm)⟩
    clear hO3
    go_wp2_with fail
    refine bodyPost_ret (ew_results (P := Tryz.prog) rfl _ _ W.heap.size 140 _ (0, 0) _ rfl (ew_set2 HO3.out) Tryz.underlying140 rfl (by kernel_rfl)) rfl ?_
    rw [HV.out, HR.out]
    exact ⟨fun _ _ e => (by cases e), fun _ => ⟨_, _, rfl⟩, HBu.out, HAk.out⟩
  · obtain ⟨v, rfl, hpv⟩ := hE.ok al pts hv
    have HFw := hid (HF.out _ hv)
    have HV := hid hv
    obtain ⟨po, pc, ev, hpr, hpc⟩ := hpv
    subst ev
    have HPR := hid hpr
    clear hE hb2 hv HC hpr
    have hal : Below w2.heap.size w2 (w2.alloc (.cells #[.slice po pts.length pc, .bool al] 140)) := (Below.refl _ w2).alloc (Nat.le_refl _) _
    have HAl2 := hid hal
    have HX3 := hid (heap_alloc_new w2 (.cells #[.slice po pts.length pc, .bool al] 140))
    clear hal
    go_upto_region 2 with fail
    generalize w2.alloc (.cells #[.slice po pts.length pc, .bool al] 140) = w3 at *
    have hO3 := (HAl2.out.block _ (heap_lt HO2.out)).trans HO2.out
    have HO3 := hid hO3
    have HB3 := hid (bel2 HB2.out HAl2.out)
    have HPR3 := hid (HPR.out.below HAl2.out)
    have HBt3 := hid (HButW.out.trans (But.below (bt := ba) HAl2.out))
    have HK3 : Hid (∃ lf, left - lp ≤ lf ∧ lf ≤ 33554432 ∧ AkI w3 ba bx t lf) := by
      obtain ⟨lf, h1, h2, h3⟩ := HK.out
      exact ⟨lf, h1, h2, h3.below HAl2.out⟩
    have hQ3 : QBox w3 B c n sp mv (.slice no nm.length nc) (.pointer la) rv := HQ.out.below HB3.out
    have HQ3 := hid hQ3
    have hneb : w2.heap.size ≠ W.heap.size := by omega
    clear hO3 HAl2 HPR HButW HK HBt HB2 HO2
    generalize hbye : w2.heap.size = bo at *
    clear hbye
    have q0 : w3.cell? ⟨B, 0, none⟩ = some (.int .i64 c) := zcell' _ _ _ _ hQ3 0 _ rfl
    clear hQ3
    by_cases h12 : c = 12
    · subst h12
      have HR : Hid (oneR 12 nm (some (al, pts)) = some (al, pts.map neg')) := rfl
      have x0 : w3.cell? ⟨bo, 0, none⟩ = some (.slice po pts.length pc) := zcell' _ _ _ _ HX3.out 0 _ rfl
      have x1 : w3.cell? ⟨bo, 1, none⟩ = some (.bool al) := zcell' _ _ _ _ HX3.out 1 _ rfl
      go_wp2_with fail
      refine (less_any po pts pc al w3 HPR3.out (by have := HFw.out.len; simp only at this; omega)).mono ?_
      intro e w4 hE4
      obtain ⟨v4, rfl, hpv4⟩ := hE4.ok
      have HPV4 := hid hpv4
      obtain ⟨ao4, ac4, ev4, _, _⟩ := hpv4
      have hl4 := hE4.low
      subst ev4
      have hO4 := (hl4.block _ (heap_lt HO3.out)).trans HO3.out
      have HO4 := hid hO4
      have y0 : w4.cell? ⟨W.heap.size, 0, none⟩ = some (.slice none 0 0) := zcell' _ _ _ _ hO4 0 _ rfl
      have y1 : w4.cell? ⟨W.heap.size, 1, none⟩ = some (.bool false) := zcell' _ _ _ _ hO4 1 _ rfl
      have z0 := hfz hO4 0
      have z1 := hfz hO4 1
      have HBu := hid ((HBt3.out.trans (But.below hl4)).two (but_set2 w4 W.heap.size (.slice ao4 (pts.map neg').length ac4) (.bool al)) (Nat.le_refl _))
      have HAk : Hid (∃ lf, left - lp ≤ lf ∧ lf ≤ 33554432 ∧ AkI ((w4.setCell ⟨W.heap.size, 0, none⟩ (.slice ao4 (pts.map neg').length ac4)).setCell ⟨W.heap.size, 1, none⟩ (.bool al)) ba bx t lf) := by
        obtain ⟨lf, h1, h2, h3⟩ := HK3.out
        exact ⟨lf, h1, h2, (but_set2 _ W.heap.size _ _).blk (h3.below hl4) (fun e => hneo e.symm)⟩
      have HPV5 := hid (pv_but HPV4.out hO4 (noPt_rs _ _ _ _) (but_set2 w4 W.heap.size (.slice ao4 (pts.map neg').length ac4) (.bool al)))
      generalize (pts.map neg').length = ln at *
      clear hE4 hl4 hO4
      go_wp2_with fail
      refine bodyPost_ret (ew_results (P := Tryz.prog) rfl _ _ W.heap.size 140 _ (0, 0) _ rfl (ew_set2 HO4.out) Tryz.underlying140 rfl (by kernel_rfl)) rfl ?_
      rw [HV.out, HR.out]
      exact ⟨fun _ _ e => (by cases e; exact ⟨_, rfl, HPV5.out⟩), fun e => (by cases e), HBu.out, HAk.out⟩
    · have h12' : (c == 12) = false := by rw [beq_eq_false_iff_ne]; exact h12
      rcases al with _ | _
      · have HR : Hid (oneR c nm (some (false, pts)) = some (false, EV.grp c nm pts)) := by
          show _ = _
          unfold oneR
          rw [if_neg h12]; rfl
        have hdr : Below w3.heap.size w3 w3.drew := (Below.refl _ w3).drew
        have HB4 := hid (bel2 HB3.out hdr)
        have HQ4 := hid (HQ3.out.below hdr)
        have HX4 := hid ((hdr.block _ (heap_lt HX3.out)).trans HX3.out)
        have HO4 := hid ((hdr.block _ (heap_lt HO3.out)).trans HO3.out)
        have HPR4 := hid (HPR3.out.below hdr)
        have HBt4 := hid (HBt3.out.trans (But.below (bt := ba) hdr))
        have HK4 : Hid (∃ lf, left - lp ≤ lf ∧ lf ≤ 33554432 ∧ AkI w3.drew ba bx t lf) := by
          obtain ⟨lf, h1, h2, h3⟩ := HK3.out
          exact ⟨lf, h1, h2, h3.below hdr⟩
        have HNr := hid ((nrow_own HN.out).2.below HB4.out)
        have hBo : B ≠ W.heap.size := fun e => by have := HB0.out.size; omega
        have x1 : w3.cell? ⟨bo, 1, none⟩ = some (.bool false) := zcell' _ _ _ _ HX3.out 1 _ rfl
        have hfl := HFw.out.len
        simp only at hfl
        have hc11 : 8 ≤ c ∧ c ≤ 11 := by omega
        clear hdr HB3 HQ3 HO3 HPR3 HBt3 HK3 h12
        go_wp2_with fail
        refine wp_region_ph (fun W => QBox W B c n sp mv (.slice no nm.length nc) (.pointer la) rv ∧ W.heap[bo]? = some (.cells #[.slice po pts.length pc, .bool false] 140)) [([0, 1, 2, 3, 4, 5, 6, 7, 8, 9], [10, 11, 12])] (by kernel_rfl) (by kernel_rfl) ?_
        simp only [PhQ, phOps, List.map_cons, List.map_nil, List.filterMap_cons, List.filterMap_nil, List.getElem?_toArray, List.getElem?_cons_zero, List.getElem?_cons_succ]
        refine takes.on (v := .pointer (some ⟨B, 0, none⟩)) (YC.move rfl (by kernel_rfl)) ?_
        refine takes.on (v := .pointer (some ⟨B, 0, none⟩)) (fun W _ => .inl (by kernel_rfl)) ?_
        refine takes.on (YC.field rfl (by kernel_rfl) (fun W => qb_fa W B 0 (by decide))) ?_
        refine takes.on (YC.load rfl (by kernel_rfl) fun W hW => qb_ldC B 0 c W (zcell' _ _ _ _ hW.1 0 _ rfl)) ?_
        refine takes.on (YC.field rfl (by kernel_rfl) (fun W => ew_fa0 W bo 0)) ?_
        refine takes.on (YC.load rfl (by kernel_rfl) fun W hW => ew_ldR bo 0 po pts.length pc W (zcell' _ _ _ _ hW.2 0 _ rfl)) ?_
        refine takes.on (v := .pointer (some ⟨B, 0, none⟩)) (YC.move rfl (by kernel_rfl)) ?_
        refine takes.on (v := .pointer (some ⟨B, 0, none⟩)) (fun W _ => .inl (by kernel_rfl)) ?_
        refine takes.on (YC.field rfl (by kernel_rfl) (fun W => qb_fa W B 4 (by decide))) ?_
        refine takes.on (YC.load rfl (by kernel_rfl) fun W hW => qb_ldN B no nm.length nc W (zcell' _ _ _ _ hW.1 4 _ rfl)) ?_
        refine PhQ.off (C := fun W => QBox W B c n sp mv (.slice no nm.length nc) (.pointer la) rv ∧ W.heap[bo]? = some (.cells #[.slice po pts.length pc, .bool false] 140)) ⟨HQ4.out, HX4.out⟩ ?_
        go_frame
        go_wp2_with fail
        refine (tog_any c po no pts nm pc nc w3.drew hc11 HPR4.out HNr.out hfl (fun j hj => HFw.out.lab _ (atP_mem hj)) hn).mono ?_
        intro e w4 hE4
        obtain ⟨v4, rfl, hpv4⟩ := hE4.ok
        have HPV4 := hid hpv4
        obtain ⟨ao4, ac4, ev4, _, _⟩ := hpv4
        have hl4 := hE4.low
        subst ev4
        have hO5 := (hl4.block _ (heap_lt HO4.out)).trans HO4.out
        have HO5 := hid hO5
        have y0 : w4.cell? ⟨W.heap.size, 0, none⟩ = some (.slice none 0 0) := zcell' _ _ _ _ hO5 0 _ rfl
        have y1 : w4.cell? ⟨W.heap.size, 1, none⟩ = some (.bool false) := zcell' _ _ _ _ hO5 1 _ rfl
        have z0 := hfz hO5 0
        have z1 := hfz hO5 1
        have HBu := hid ((HBt4.out.trans (But.below hl4)).two (but_set2 w4 W.heap.size (.slice ao4 (EV.grp c nm pts).length ac4) (.bool false)) (Nat.le_refl _))
        have HAk : Hid (∃ lf, left - lp ≤ lf ∧ lf ≤ 33554432 ∧ AkI ((w4.setCell ⟨W.heap.size, 0, none⟩ (.slice ao4 (EV.grp c nm pts).length ac4)).setCell ⟨W.heap.size, 1, none⟩ (.bool false)) ba bx t lf) := by
          obtain ⟨lf, h1, h2, h3⟩ := HK4.out
          exact ⟨lf, h1, h2, (but_set2 _ W.heap.size _ _).blk (h3.below hl4) (fun e => hneo e.symm)⟩
        have HPV5 := hid (pv_but HPV4.out hO5 (noPt_rs _ _ _ _) (but_set2 w4 W.heap.size (.slice ao4 (EV.grp c nm pts).length ac4) (.bool false)))
        have HC5 := hid (And.intro (HQ4.out.below hl4) ((hl4.block _ (heap_lt HX4.out)).trans HX4.out))
        have HC6 : Hid (QBox ((w4.setCell ⟨W.heap.size, 0, none⟩ (.slice ao4 (EV.grp c nm pts).length ac4)).setCell ⟨W.heap.size, 1, none⟩ (.bool false)) B c n sp mv (.slice no nm.length nc) (.pointer la) rv ∧ ((w4.setCell ⟨W.heap.size, 0, none⟩ (.slice ao4 (EV.grp c nm pts).length ac4)).setCell ⟨W.heap.size, 1, none⟩ (.bool false)).heap[bo]? = some (.cells #[.slice po pts.length pc, .bool false] 140)) := ⟨(but_set2 _ W.heap.size _ _).blk HC5.out.1 hBo, (but_set2 _ W.heap.size _ _).blk HC5.out.2 hneb⟩
        generalize (EV.grp c nm pts).length = ln at *
        clear hE4 hl4 hO5 HQ4 HX4 HO4
        go_wp2_with fail
        refine SeqQ.on (C := fun W => QBox W B c n sp mv (.slice no nm.length nc) (.pointer la) rv ∧ W.heap[bo]? = some (.cells #[.slice po pts.length pc, .bool false] 140)) HC5.out ?_
        go_wp2_with fail
        refine SeqQ.on (C := fun W => QBox W B c n sp mv (.slice no nm.length nc) (.pointer la) rv ∧ W.heap[bo]? = some (.cells #[.slice po pts.length pc, .bool false] 140)) HC6.out ?_
        go_wp2_with fail
        refine PhQ.done (C := fun W => QBox W B c n sp mv (.slice no nm.length nc) (.pointer la) rv ∧ W.heap[bo]? = some (.cells #[.slice po pts.length pc, .bool false] 140)) HC6.out ?_
        go_wp2_with fail
        refine bodyPost_ret (ew_results (P := Tryz.prog) rfl _ _ W.heap.size 140 _ (0, 0) _ rfl (ew_set2 HO5.out) Tryz.underlying140 rfl (by kernel_rfl)) rfl ?_
        rw [HV.out, HR.out]
        exact ⟨fun _ _ e => (by cases e; exact ⟨_, rfl, HPV5.out⟩), fun e => (by cases e), HBu.out, HAk.out⟩
      · have HR : Hid (oneR c nm (some (true, pts)) = none) := by
          show _ = _
          unfold oneR
          rw [if_neg h12]; rfl
        have x1 : w3.cell? ⟨bo, 1, none⟩ = some (.bool true) := zcell' _ _ _ _ HX3.out 1 _ rfl
        have y0 : w3.cell? ⟨W.heap.size, 0, none⟩ = some (.slice none 0 0) := zcell' _ _ _ _ HO3.out 0 _ rfl
        have y1 : w3.cell? ⟨W.heap.size, 1, none⟩ = some (.bool false) := zcell' _ _ _ _ HO3.out 1 _ rfl
        have z0 := hfz HO3.out 0
        have z1 := hfz HO3.out 1
        have HBu := hid (HBt3.out.two (but_set2 w3 W.heap.size (.slice none 0 0) (.bool false)) (Nat.le_refl _))
        have HAk : Hid (∃ lf, left - lp ≤ lf ∧ lf ≤ 33554432 ∧ AkI ((w3.setCell ⟨W.heap.size, 0, none⟩ (.slice none 0 0)).setCell ⟨W.heap.size, 1, none⟩ (.bool false)) ba bx t lf) := by
          obtain ⟨lf, h1, h2, h3⟩ := HK3.out
          exact ⟨lf, h1, h2, (but_set2 _ W.heap.size _ _).blk h3 (fun e => hneo e.symm)⟩
        clear h12
        go_wp2_with fail
        refine bodyPost_ret (ew_results (P := Tryz.prog) rfl _ _ W.heap.size 140 _ (0, 0) _ rfl (ew_set2 HO3.out) Tryz.underlying140 rfl (by kernel_rfl)) rfl ?_
        rw [HV.out, HR.out]
        exact ⟨fun _ _ e => (by cases e), fun _ => ⟨_, _, rfl⟩, HBu.out, HAk.out⟩

set_option maxRecDepth 100000 in
set_option maxHeartbeats 6400000 in
theorem ofTwo_any (w0 : World) (ba bx B : Nat) (t deep left c n sp : Int) (mv bv lv rv : Value) (S : List Sr) (l r : AQ.Q) (W : World) (hba : w0.heap.size ≤ ba) (hB : Below w0.heap.size w0 W) (hA : AkI W ba bx t left) (hQ : QBox w0 B c n sp mv bv lv rv) (hl : AskT w0 lv l) (hr : AskT w0 rv r) (hP : PartIs w0 ba bx t S l) (hP2 : PartIs w0 ba bx t S r) (hc : 13 ≤ c ∧ c ≤ 16) (hf : ∀ R, EV.ev l t S = some R → EvFew R) (hf2 : ∀ R, EV.ev r t S = some R → EvFew R) (hlf : (AQ.parts l : Int) + AQ.parts r ≤ left ∧ left ≤ 33554432) (hdp : (AQ.parts l : Int) + AQ.parts r ≤ deep ∧ deep ≤ 131072) :
    Calls Tryz.prog 110 #[.pointer (some ⟨ba, 0, none⟩), .pointer (some ⟨B, 0, none⟩), .int .i64 deep] W fun e w' => QEnd W w' e ba bx t (left - AQ.parts l - AQ.parts r) ((EV.ev l t S).bind fun a => (EV.ev r t S).map fun b => EV.both c a b) := by
  obtain ⟨la, el⟩ := hl.ptr
  subst el
  obtain ⟨ra, er⟩ := hr.ptr
  subst er
  have hal : Below W.heap.size W (W.alloc (.cells #[.slice none 0 0, .bool false] 140)) := (Below.refl _ W).alloc (Nat.le_refl _) _
  have HB0 := hid (bel2 hB hal)
  have HO0 := hid (heap_alloc_new W (.cells #[.slice none 0 0, .bool false] 140))
  have HA0 := hid (hA.below hal)
  have HAl := hid hal
  have hbaW := heap_lt hA
  have HQ := hid hQ
  have HL := hid hl
  have HRt := hid hr
  have HP := hid hP
  have HP2 := hid hP2
  have HF := hid hf
  have HF2 := hid hf2
  have hBw := heap_lt hQ
  have q5 : (W.alloc (.cells #[.slice none 0 0, .bool false] 140)).cell? ⟨B, 5, none⟩ = some (.pointer la) := (HB0.out.cell (p := ⟨B, 5, none⟩) hBw).trans (zcell' _ _ _ _ hQ 5 _ rfl)
  generalize hLp : AQ.parts l = lp at *
  generalize hRp : AQ.parts r = rp at *
  have HLp := hid hLp
  have HRp := hid hRp
  have hBo : B ≠ W.heap.size := fun e => by have := HB0.out.size; have := hB.size; omega
  clear hA hQ hl hr hP hP2 hf hf2 hal hB hLp hRp
  go_enter Tryz.func110, Tryz.ntmps110
  go_wp2_with fail
  generalize W.alloc (.cells #[.slice none 0 0, .bool false] 140) = W1 at *
  have HC := hid (HP.out (.pointer la) W1 deep left HL.out HB0.out HA0.out (by rw [HLp.out]; omega) (by rw [HLp.out]; omega))
  rw [HLp.out] at HC
  refine HC.out.mono ?_
  intro e w2 hE
  have hb2 := hE.but
  have hneo : W.heap.size ≠ ba := by omega
  have HO2 := hid (hb2.blk HO0.out hneo)
  have HB2 := hid (But.low HB0.out hb2 hba)
  have HK := hid hE.ak
  have HButW := hid ((But.below (bt := ba) HAl.out).trans hb2)
  have hsz2 : W.heap.size < w2.heap.size := heap_lt HO2.out
  rcases hv : EV.ev l t S with _ | ⟨al, pts⟩
  · obtain ⟨tt, u, rfl⟩ := hE.bad hv
    have HV := hid hv
    clear hE hb2 hv HC
    have hal : Below w2.heap.size w2 (w2.alloc (.cells #[.slice none 0 0, .bool false] 140)) := (Below.refl _ w2).alloc (Nat.le_refl _) _
    have HAl2 := hid hal
    clear hal
    go_upto_region 2 with fail
    generalize w2.alloc (.cells #[.slice none 0 0, .bool false] 140) = w3 at *
    have hO3 := (HAl2.out.block _ (heap_lt HO2.out)).trans HO2.out
    have HO3 := hid hO3
    have y0 : w3.cell? ⟨W.heap.size, 0, none⟩ = some (.slice none 0 0) := zcell' _ _ _ _ hO3 0 _ rfl
    have y1 : w3.cell? ⟨W.heap.size, 1, none⟩ = some (.bool false) := zcell' _ _ _ _ hO3 1 _ rfl
    have z0 := hfz hO3 0
    have z1 := hfz hO3 1
    have HBu := hid ((HButW.out.trans (But.below HAl2.out)).two (but_set2 w3 W.heap.size (.slice none 0 0) (.bool false)) (Nat.le_refl _))
    have HAk : Hid (∃ lf, left - lp - rp ≤ lf ∧ lf ≤ 33554432 ∧ AkI ((w3.setCell ⟨W.heap.size, 0, none⟩ (.slice none 0 0)).setCell ⟨W.heap.size, 1, none⟩ (.bool false)) ba bx t lf) := by
      obtain ⟨lf, h1, h2, h3⟩ := HK.out
      exact ⟨lf, by omega, h2, (but_set2 _ W.heap.size _ _).blk (h3.below HAl2.out) (fun e => hneo e.symm)⟩
    clear hO3
    go_wp2_with fail
    refine bodyPost_ret (ew_results (P := Tryz.prog) rfl _ _ W.heap.size 140 _ (0, 0) _ rfl (ew_set2 HO3.out) Tryz.underlying140 rfl (by kernel_rfl)) rfl ?_
    rw [HV.out]
    exact ⟨fun _ _ e => (by cases e), fun _ => ⟨_, _, rfl⟩, HBu.out, HAk.out⟩
  · obtain ⟨v, rfl, hpv⟩ := hE.ok al pts hv
    have HFw := hid (HF.out _ hv)
    have HV := hid hv
    have HPV := hid hpv
    obtain ⟨po, pc, ev, _, hpc⟩ := hpv
    subst ev
    clear hE hb2 hv HC
    have hal : Below w2.heap.size w2 (w2.alloc (.cells #[.slice po pts.length pc, .bool al] 140)) := (Below.refl _ w2).alloc (Nat.le_refl _) _
    have HAl2 := hid hal
    have HX3 := hid (heap_alloc_new w2 (.cells #[.slice po pts.length pc, .bool al] 140))
    clear hal
    go_upto_region 2 with fail
    generalize w2.alloc (.cells #[.slice po pts.length pc, .bool al] 140) = w3 at *
    have HO3 := hid ((HAl2.out.block _ (heap_lt HO2.out)).trans HO2.out)
    have HB3 := hid (bel2 HB2.out HAl2.out)
    have HPV3 := hid (HPV.out.below HAl2.out)
    have HBt3 := hid (HButW.out.trans (But.below (bt := ba) HAl2.out))
    obtain ⟨lf, hlf1, hlf2, hAk3⟩ := HK.out
    have HA3 := hid (hAk3.below HAl2.out)
    have hneb : w2.heap.size ≠ W.heap.size := by omega
    have hboa : w2.heap.size ≠ ba := by omega
    have q6 : w3.cell? ⟨B, 6, none⟩ = some (.pointer ra) := (HB3.out.cell (p := ⟨B, 6, none⟩) hBw).trans (zcell' _ _ _ _ HQ.out 6 _ rfl)
    clear HAl2 HPV HButW HK HB2 HO2 hAk3
    generalize hbye : w2.heap.size = bo at *
    have hbog : W.heap.size ≤ bo := by omega
    clear hbye
    have HC2 := hid (HP2.out (.pointer ra) w3 deep lf HRt.out HB3.out HA3.out (by rw [HRp.out]; omega) (by rw [HRp.out]; omega))
    rw [HRp.out] at HC2
    go_wp2_with fail
    refine HC2.out.mono ?_
    intro e w4 hE4
    have hb4 := hE4.but
    have HO4 := hid (hb4.blk HO3.out hneo)
    have HB4 := hid (But.low HB3.out hb4 hba)
    have HX4 := hid (hb4.blk HX3.out hboa)
    have HK4 := hid hE4.ak
    have HBt4 := hid (HBt3.out.trans hb4)
    have HPV4 := hid (pv_but HPV3.out HA3.out HA3.out.noPt hb4)
    have hsz4 : bo < w4.heap.size := heap_lt HX4.out
    rcases hu : EV.ev r t S with _ | ⟨al2, pts2⟩
    · obtain ⟨tt, u, rfl⟩ := hE4.bad hu
      have HU := hid hu
      clear hE4 hb4 hu HC2
      have hal : Below w4.heap.size w4 (w4.alloc (.cells #[.slice none 0 0, .bool false] 140)) := (Below.refl _ w4).alloc (Nat.le_refl _) _
      have HAl2 := hid hal
      clear hal
      go_upto_region 5 with fail
      generalize w4.alloc (.cells #[.slice none 0 0, .bool false] 140) = w5 at *
      have hO5 := (HAl2.out.block _ (heap_lt HO4.out)).trans HO4.out
      have HO5 := hid hO5
      have y0 : w5.cell? ⟨W.heap.size, 0, none⟩ = some (.slice none 0 0) := zcell' _ _ _ _ hO5 0 _ rfl
      have y1 : w5.cell? ⟨W.heap.size, 1, none⟩ = some (.bool false) := zcell' _ _ _ _ hO5 1 _ rfl
      have z0 := hfz hO5 0
      have z1 := hfz hO5 1
      have HBu := hid ((HBt4.out.trans (But.below HAl2.out)).two (but_set2 w5 W.heap.size (.slice none 0 0) (.bool false)) (Nat.le_refl _))
      have HAk : Hid (∃ lf, left - lp - rp ≤ lf ∧ lf ≤ 33554432 ∧ AkI ((w5.setCell ⟨W.heap.size, 0, none⟩ (.slice none 0 0)).setCell ⟨W.heap.size, 1, none⟩ (.bool false)) ba bx t lf) := by
        obtain ⟨lf', h1, h2, h3⟩ := HK4.out
        exact ⟨lf', by omega, h2, (but_set2 _ W.heap.size _ _).blk (h3.below HAl2.out) (fun e => hneo e.symm)⟩
      clear hO5
      go_wp2_with fail
      refine bodyPost_ret (ew_results (P := Tryz.prog) rfl _ _ W.heap.size 140 _ (0, 0) _ rfl (ew_set2 HO5.out) Tryz.underlying140 rfl (by kernel_rfl)) rfl ?_
      rw [HV.out, HU.out]
      exact ⟨fun _ _ e => (by cases e), fun _ => ⟨_, _, rfl⟩, HBu.out, HAk.out⟩
    · obtain ⟨v2, rfl, hpv2⟩ := hE4.ok al2 pts2 hu
      have HFw2 := hid (HF2.out _ hu)
      have HU := hid hu
      have HPV2 := hid hpv2
      obtain ⟨po2, pc2, ev2, _, hpc2⟩ := hpv2
      subst ev2
      clear hE4 hb4 hu HC2
      have hal : Below w4.heap.size w4 (w4.alloc (.cells #[.slice po2 pts2.length pc2, .bool al2] 140)) := (Below.refl _ w4).alloc (Nat.le_refl _) _
      have HAl2 := hid hal
      have HY5 := hid (heap_alloc_new w4 (.cells #[.slice po2 pts2.length pc2, .bool al2] 140))
      clear hal
      go_upto_region 5 with fail
      generalize w4.alloc (.cells #[.slice po2 pts2.length pc2, .bool al2] 140) = w5 at *
      have hdr : Below w5.heap.size w5 w5.drew := (Below.refl _ w5).drew
      have hb45 := bel2 HAl2.out hdr
      have HO5 := hid ((hb45.block _ (heap_lt HO4.out)).trans HO4.out)
      have HB5 := hid (bel2 HB4.out hb45)
      have HPV5 := hid (HPV4.out.below hb45)
      have HPW5 := hid (HPV2.out.below hb45)
      have HBt5 := hid (HBt4.out.trans (But.below (bt := ba) hb45))
      have HX5 := hid ((hb45.block _ (heap_lt HX4.out)).trans HX4.out)
      have HY6 := hid ((hdr.block _ (heap_lt HY5.out)).trans HY5.out)
      have HK5 : Hid (∃ lf, left - lp - rp ≤ lf ∧ lf ≤ 33554432 ∧ AkI w5.drew ba bx t lf) := by
        obtain ⟨lf', h1, h2, h3⟩ := HK4.out
        exact ⟨lf', by omega, h2, h3.below hb45⟩
      have HQ5 := hid (HQ.out.below HB5.out)
      have hneb2 : w4.heap.size ≠ W.heap.size := by omega
      clear hdr hb45 HAl2 HO4 HB4 HPV4 HPV2 HBt4 HX4 HY5 HK4
      generalize hbye : w4.heap.size = bp at *
      clear hbye
      go_wp2_with fail
      refine wp_region_ph (fun W => QBox W B c n sp mv bv (.pointer la) (.pointer ra) ∧ W.heap[bo]? = some (.cells #[.slice po pts.length pc, .bool al] 140) ∧ W.heap[bp]? = some (.cells #[.slice po2 pts2.length pc2, .bool al2] 140)) [([0, 1, 2, 3, 4, 5], [6, 7, 8])] (by kernel_rfl) (by kernel_rfl) ?_
      simp only [PhQ, phOps, List.map_cons, List.map_nil, List.filterMap_cons, List.filterMap_nil, List.getElem?_toArray, List.getElem?_cons_zero, List.getElem?_cons_succ]
      refine takes.on (v := .pointer (some ⟨B, 0, none⟩)) (YC.move rfl (by kernel_rfl)) ?_
      refine takes.on (v := .pointer (some ⟨B, 0, none⟩)) (fun W _ => .inl (by kernel_rfl)) ?_
      refine takes.on (YC.field rfl (by kernel_rfl) (fun W => qb_fa W B 0 (by decide))) ?_
      refine takes.on (YC.load rfl (by kernel_rfl) fun W hW => qb_ldC B 0 c W (zcell' _ _ _ _ hW.1 0 _ rfl)) ?_
      refine takes.on (YC.load rfl (by kernel_rfl) fun W hW => rs_load bo po pts.length pc al W hW.2.1) ?_
      refine takes.on (YC.load rfl (by kernel_rfl) fun W hW => rs_load bp po2 pts2.length pc2 al2 W hW.2.2) ?_
      refine PhQ.off (C := fun W => QBox W B c n sp mv bv (.pointer la) (.pointer ra) ∧ W.heap[bo]? = some (.cells #[.slice po pts.length pc, .bool al] 140) ∧ W.heap[bp]? = some (.cells #[.slice po2 pts2.length pc2, .bool al2] 140)) ⟨HQ5.out, HX5.out, HY6.out⟩ ?_
      go_frame
      go_wp2_with fail
      obtain ⟨_, _, e1, hr1, hc1⟩ := HPV5.out
      cases e1
      obtain ⟨_, _, e2, hr2, hc2⟩ := HPW5.out
      cases e2
      refine (both_any c po po2 pts pts2 pc pc2 al al2 w5.drew hc hr1 hr2 hc1 hc2 HFw.out.lab HFw2.out.lab HFw.out.len HFw2.out.len).mono ?_
      intro e w6 hE6
      obtain ⟨v6, rfl, hpv6⟩ := hE6.ok
      have HPV6 := hid hpv6
      obtain ⟨ao6, ac6, ev6, _, _⟩ := hpv6
      have hl6 := hE6.low
      subst ev6
      have hO6 := (hl6.block _ (heap_lt HO5.out)).trans HO5.out
      have HO6 := hid hO6
      have y0 : w6.cell? ⟨W.heap.size, 0, none⟩ = some (.slice none 0 0) := zcell' _ _ _ _ hO6 0 _ rfl
      have y1 : w6.cell? ⟨W.heap.size, 1, none⟩ = some (.bool false) := zcell' _ _ _ _ hO6 1 _ rfl
      have z0 := hfz hO6 0
      have z1 := hfz hO6 1
      have HR : Hid (((some (al, pts) : Option (Bool × List EV.Pt)).bind fun a => (some (al2, pts2)).map fun b => EV.both c a b) = some (al && al2, (EV.both c (al, pts) (al2, pts2)).2)) := rfl
      have HC5 := hid (show QBox w6 B c n sp mv bv (.pointer la) (.pointer ra) ∧ w6.heap[bo]? = some (.cells #[.slice po pts.length pc, .bool al] 140) ∧ w6.heap[bp]? = some (.cells #[.slice po2 pts2.length pc2, .bool al2] 140) from ⟨HQ5.out.below hl6, (hl6.block _ (heap_lt HX5.out)).trans HX5.out, (hl6.block _ (heap_lt HY6.out)).trans HY6.out⟩)
      generalize (EV.both c (al, pts) (al2, pts2)).2 = BB at *
      have HBu := hid ((HBt5.out.trans (But.below hl6)).two (but_set2 w6 W.heap.size (.slice ao6 BB.length ac6) (.bool (al && al2))) (Nat.le_refl _))
      have HAk : Hid (∃ lf, left - lp - rp ≤ lf ∧ lf ≤ 33554432 ∧ AkI ((w6.setCell ⟨W.heap.size, 0, none⟩ (.slice ao6 BB.length ac6)).setCell ⟨W.heap.size, 1, none⟩ (.bool (al && al2))) ba bx t lf) := by
        obtain ⟨lf', h1, h2, h3⟩ := HK5.out
        exact ⟨lf', h1, h2, (but_set2 _ W.heap.size _ _).blk (h3.below hl6) (fun e => hneo e.symm)⟩
      have HPV7 := hid (pv_but HPV6.out hO6 (noPt_rs _ _ _ _) (but_set2 w6 W.heap.size (.slice ao6 BB.length ac6) (.bool (al && al2))))
      have HC6 : Hid (QBox ((w6.setCell ⟨W.heap.size, 0, none⟩ (.slice ao6 BB.length ac6)).setCell ⟨W.heap.size, 1, none⟩ (.bool (al && al2))) B c n sp mv bv (.pointer la) (.pointer ra) ∧ ((w6.setCell ⟨W.heap.size, 0, none⟩ (.slice ao6 BB.length ac6)).setCell ⟨W.heap.size, 1, none⟩ (.bool (al && al2))).heap[bo]? = some (.cells #[.slice po pts.length pc, .bool al] 140) ∧ ((w6.setCell ⟨W.heap.size, 0, none⟩ (.slice ao6 BB.length ac6)).setCell ⟨W.heap.size, 1, none⟩ (.bool (al && al2))).heap[bp]? = some (.cells #[.slice po2 pts2.length pc2, .bool al2] 140)) := ⟨(but_set2 _ W.heap.size _ _).blk HC5.out.1 hBo, (but_set2 _ W.heap.size _ _).blk HC5.out.2.1 hneb, (but_set2 _ W.heap.size _ _).blk HC5.out.2.2 hneb2⟩
      clear hE6 hl6 hO6 HQ5 HX5 HY6 HO5
      generalize (al && al2) = alr at *
      go_wp2_with fail
      refine SeqQ.on (C := fun W => QBox W B c n sp mv bv (.pointer la) (.pointer ra) ∧ W.heap[bo]? = some (.cells #[.slice po pts.length pc, .bool al] 140) ∧ W.heap[bp]? = some (.cells #[.slice po2 pts2.length pc2, .bool al2] 140)) HC5.out ?_
      go_wp2_with fail
      refine SeqQ.on (C := fun W => QBox W B c n sp mv bv (.pointer la) (.pointer ra) ∧ W.heap[bo]? = some (.cells #[.slice po pts.length pc, .bool al] 140) ∧ W.heap[bp]? = some (.cells #[.slice po2 pts2.length pc2, .bool al2] 140)) HC6.out ?_
      go_wp2_with fail
      refine PhQ.done (C := fun W => QBox W B c n sp mv bv (.pointer la) (.pointer ra) ∧ W.heap[bo]? = some (.cells #[.slice po pts.length pc, .bool al] 140) ∧ W.heap[bp]? = some (.cells #[.slice po2 pts2.length pc2, .bool al2] 140)) HC6.out ?_
      go_wp2_with fail
      refine bodyPost_ret (ew_results (P := Tryz.prog) rfl _ _ W.heap.size 140 _ (0, 0) _ rfl (ew_set2 HO6.out) Tryz.underlying140 rfl (by kernel_rfl)) rfl ?_
      rw [HV.out, HU.out, HR.out]
      exact ⟨fun _ _ e => (by cases e; exact ⟨_, rfl, HPV7.out⟩), fun e => (by cases e), HBu.out, HAk.out⟩

end Go.Proofs.YtdmnlmohfaafoaeGreatDoor

