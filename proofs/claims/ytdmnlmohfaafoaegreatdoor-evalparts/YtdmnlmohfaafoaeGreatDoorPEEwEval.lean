/- What eval.Eval tells. -/
import Derived.Test.YtdmnlmohfaafoaeGreatDoorPEEwPart
namespace Go.Proofs.YtdmnlmohfaafoaeGreatDoor
open Go.RowKit Go.Shelf

theorem ak_set {W : World} {ba bx : Nat} {t left : Int} (h : AkI W ba bx t left) (left' : Int) : AkI (W.setCell ⟨ba, 2, none⟩ (.int .i64 left')) ba bx t left' := heap_setCell_same W ba 2 _ _ _ h

/-- What a callee that changes nothing but the asker's box tells, put into the result's box. -/
structure InBox (W w : World) (ob ba bx : Nat) (t low : Int) : Prop where
  box : w.heap[ob]? = some (.cells #[.slice none 0 0, .bool false] 140)
  but : But ba W w
  ak : ∃ left, low ≤ left ∧ left ≤ 33554432 ∧ AkI w ba bx t left
  ge : W.heap.size ≤ ob
  ne : ob ≠ ba

theorem InBox.low {W w : World} {ob ba bx : Nat} {t low low' : Int} (h : InBox W w ob ba bx t low) (hl : low' ≤ low) : InBox W w ob ba bx t low' := by
  obtain ⟨left, h1, h2, h3⟩ := h.ak
  exact ⟨h.box, h.but, ⟨left, by omega, h2, h3⟩, h.ge, h.ne⟩
theorem InBox.below {W w w' : World} {ob ba bx : Nat} {t low : Int} (h : InBox W w ob ba bx t low) (k : Below w.heap.size w w') : InBox W w' ob ba bx t low := by
  obtain ⟨left, h1, h2, h3⟩ := h.ak
  exact ⟨(k.block _ (heap_lt h.box)).trans h.box, h.but.trans (But.below k), ⟨left, h1, h2, h3.below k⟩, h.ge, h.ne⟩
theorem InBox.but' {W w w' : World} {ob ba bx : Nat} {t low low' : Int} (h : InBox W w ob ba bx t low) (k : But ba w w') (hk : ∃ left, low' ≤ left ∧ left ≤ 33554432 ∧ AkI w' ba bx t left) : InBox W w' ob ba bx t low' :=
  ⟨k.blk h.box h.ne, h.but.trans k, hk, h.ge, h.ne⟩

theorem InBox.okEnd {W w : World} {ob ba bx : Nat} {t low : Int} (h : InBox W w ob ba bx t low) {ao : Option Addr} {c : Nat} {al : Bool} {pts : List EV.Pt} (hp : PV w (.slice ao pts.length c) pts) :
    QEnd W ((w.setCell ⟨ob, 0, none⟩ (.slice ao pts.length c)).setCell ⟨ob, 1, none⟩ (.bool al)) (.returned (.tuple #[.agg #[.slice ao pts.length c, .bool al], .nilIface])) ba bx t low (some (al, pts)) := by
  obtain ⟨left, h1, h2, h3⟩ := h.ak
  exact ⟨fun _ _ e => (by cases e; exact ⟨_, rfl, pv_but hp h.box (noPt_rs _ _ _ _) (but_set2 w ob _ _)⟩), fun e => (by cases e), h.but.two (but_set2 w ob _ _) h.ge, left, h1, h2, (but_set2 w ob _ _).blk h3 (fun e => h.ne e.symm)⟩

theorem InBox.badEnd {W w : World} {ob ba bx : Nat} {t low : Int} (h : InBox W w ob ba bx t low) {ty : TypeId} {u : Value} :
    QEnd W ((w.setCell ⟨ob, 0, none⟩ (.slice none 0 0)).setCell ⟨ob, 1, none⟩ (.bool false)) (.returned (.tuple #[.agg #[.slice none 0 0, .bool false], .iface ty u])) ba bx t low none := by
  obtain ⟨left, h1, h2, h3⟩ := h.ak
  exact ⟨fun _ _ e => (by cases e), fun _ => ⟨_, _, rfl⟩, h.but.two (but_set2 w ob _ _) h.ge, left, h1, h2, (but_set2 w ob _ _).blk h3 (fun e => h.ne e.symm)⟩

/-- The beginning of part: the count goes down, the code is asked. -/
structure PIn (w0 W w : World) (B ba bx : Nat) (t left c n sp : Int) (mv bv lv rv : Value) : Prop where
  inb : InBox W w W.heap.size ba bx t (left - 1)
  ak : AkI w ba bx t (left - 1)
  q : QBox w B c n sp mv bv lv rv
  bel : Below w0.heap.size w0 w

theorem pin_of {w0 W : World} {B ba bx : Nat} {t left c n sp : Int} {mv bv lv rv : Value} (hba : w0.heap.size ≤ ba) (hB : Below w0.heap.size w0 W) (hA : AkI W ba bx t left) (hQ : QBox w0 B c n sp mv bv lv rv) (hl : 1 ≤ left ∧ left ≤ 33554432) : PIn w0 W ((W.alloc (.cells #[.slice none 0 0, .bool false] 140)).setCell ⟨ba, 2, none⟩ (.int .i64 (left - 1))) B ba bx t left c n sp mv bv lv rv := by
  have hal : Below W.heap.size W (W.alloc (.cells #[.slice none 0 0, .bool false] 140)) := (Below.refl _ W).alloc (Nat.le_refl _) _
  have hbaW := heap_lt hA
  have hak := ak_set (hA.below hal) (left - 1)
  have hb1 := but_set (W.alloc (.cells #[.slice none 0 0, .bool false] 140)) ba 2 (.int .i64 (left - 1))
  have hbel : Below w0.heap.size w0 ((W.alloc (.cells #[.slice none 0 0, .bool false] 140)).setCell ⟨ba, 2, none⟩ (.int .i64 (left - 1))) := But.low (bel2 hB hal) hb1 hba
  exact ⟨⟨hb1.blk (heap_alloc_new W _) (by omega), (But.below hal).trans hb1, ⟨left - 1, by omega, by omega, hak⟩, Nat.le_refl _, by omega⟩, hak, hQ.below hbel, hbel⟩

set_option maxRecDepth 100000 in
set_option maxHeartbeats 6400000 in
theorem partNum (w0 : World) (ba bx B : Nat) (t deep left n sp : Int) (mv bv lv rv : Value) (_S : List Sr) (W : World) (hba : w0.heap.size ≤ ba) (hB : Below w0.heap.size w0 W) (hA : AkI W ba bx t left) (hQ : QBox w0 B 1 n sp mv bv lv rv) (hlf : 1 ≤ left ∧ left ≤ 33554432) (hdp : 1 ≤ deep ∧ deep ≤ 131072) :
    Calls Tryz.prog 78 #[.pointer (some ⟨ba, 0, none⟩), .pointer (some ⟨B, 0, none⟩), .int .i64 deep] W fun e w' => QEnd W w' e ba bx t (left - 1) (some (true, [([], n)])) := by
  have hal : Below W.heap.size W (W.alloc (.cells #[.slice none 0 0, .bool false] 140)) := (Below.refl _ W).alloc (Nat.le_refl _) _
  have HPI := hid (pin_of hba hB hA hQ (by omega))
  have hA1 := hA.below hal
  have a2 : (W.alloc (.cells #[.slice none 0 0, .bool false] 140)).cell? ⟨ba, 2, none⟩ = some (.int .i64 left) := zcell' _ _ _ _ hA1 2 _ rfl
  have az := hfz hA1 2
  have hwl : IntKind.i64.wrap (left - 1) = left - 1 := by rw [IntKind.wrap_i64]; omega
  have hwl2 : wrap64 (left - 1) = left - 1 := by rw [W_wrap64, CL.W_id _ (by omega) (by omega)]
  have hwd2 : wrap64 (deep - 1) = deep - 1 := by rw [W_wrap64, CL.W_id _ (by omega) (by omega)]
  have HBW := hid hB
  clear hA hQ hal hA1 hB
  go_enter Tryz.func78, Tryz.ntmps78
  go_upto_region 2 with fail
  generalize (W.alloc (.cells #[.slice none 0 0, .bool false] 140)).setCell ⟨ba, 2, none⟩ (.int .i64 (left - 1)) = w1 at *
  clear a2 az
  have a2 : w1.cell? ⟨ba, 2, none⟩ = some (.int .i64 (left - 1)) := zcell' _ _ _ _ HPI.out.ak 2 _ rfl
  have q0 : w1.cell? ⟨B, 0, none⟩ = some (.int .i64 1) := zcell' _ _ _ _ HPI.out.q 0 _ rfl
  have hl0 : ¬ left - 1 < 0 := by omega
  have hd0 : ¬ deep < 1 := by omega
  have q1 : w1.cell? ⟨B, 1, none⟩ = some (.int .i64 n) := zcell' _ _ _ _ HPI.out.q 1 _ rfl
  have hal : Below w1.heap.size w1 (w1.alloc (.cells #[.slice none 0 0, .int .i64 n] 55)) := (Below.refl _ w1).alloc (Nat.le_refl _) _
  have HIn := hid (HPI.out.inb.below hal)
  have hO := HIn.out.box
  have HO := hid hO
  have y0 : (w1.alloc (.cells #[.slice none 0 0, .int .i64 n] 55)).cell? ⟨W.heap.size, 0, none⟩ = some (.slice none 0 0) := zcell' _ _ _ _ hO 0 _ rfl
  have y1 : (w1.alloc (.cells #[.slice none 0 0, .int .i64 n] 55)).cell? ⟨W.heap.size, 1, none⟩ = some (.bool false) := zcell' _ _ _ _ hO 1 _ rfl
  have z0 := hfz hO 0
  have z1 := hfz hO 1
  have y2 : ((w1.alloc (.cells #[.slice none 0 0, .int .i64 n] 55)).setCell ⟨W.heap.size, 0, none⟩ (.slice (some ⟨w1.heap.size, 0, none⟩) 1 1)).cell? ⟨W.heap.size, 1, none⟩ = some (.bool false) := zcell' _ _ _ _ (heap_setCell_same _ _ 0 _ _ _ hO) 1 _ rfl
  have z2 := hfz (heap_setCell_same (w1.alloc (.cells #[.slice none 0 0, .int .i64 n] 55)) W.heap.size 0 _ _ (.slice (some ⟨w1.heap.size, 0, none⟩) 1 1) hO) 1
  have HPV : Hid (PV (w1.alloc (.cells #[.slice none 0 0, .int .i64 n] 55)) (.slice (some ⟨w1.heap.size, 0, none⟩) 1 1) [([], n)]) := by
    have hn := heap_alloc_new w1 (.cells #[.slice none 0 0, .int .i64 n] 55)
    refine ⟨_, _, rfl, fun k hk => ?_, Nat.le_refl _⟩
    have hk0 : k = 0 := by simp at hk; exact hk
    subst hk0
    exact ⟨w1.heap.size, 0, rfl, heap_lt hn, none, 0, zcell' _ _ _ _ hn 0 _ rfl, zcell' _ _ _ _ hn 1 _ rfl, fun j hj => absurd hj (Nat.not_lt_zero j)⟩
  clear hO hal
  go_wp2_with fail
  refine bodyPost_ret (ew_results (P := Tryz.prog) rfl _ _ W.heap.size 140 _ (0, 0) _ rfl (ew_set2 HO.out) Tryz.underlying140 rfl (by kernel_rfl)) rfl ?_
  exact HIn.out.okEnd (pts := [([], n)]) HPV.out

set_option maxRecDepth 100000 in
set_option maxHeartbeats 6400000 in
theorem partOver (w0 : World) (ba bx B : Nat) (t deep left c n sp : Int) (mv bv lv rv : Value) (S : List Sr) (m : List LB.Mat) (ao : Option Addr) (cap : Nat) (W : World) (hba : w0.heap.size ≤ ba) (hB : Below w0.heap.size w0 W) (hA : AkI W ba bx t left) (hQ : QBox w0 B c n sp mv bv lv rv) (hM : OwnM w0 0 mv m) (hm : m.length ≤ 1000) (hbx : w0.cell? ⟨bx, 0, none⟩ = some (.slice ao S.length cap)) (hS : SrOut w0 NoZ ao S) (hK : Askd S) (hc : 2 ≤ c ∧ c ≤ 7) (hsp : 1 ≤ sp ∧ sp ≤ 1099511627776) (ht : -1099511627776 ≤ t ∧ t ≤ 1099511627776) (hlf : 1 ≤ left ∧ left ≤ 33554432) (hdp : 1 ≤ deep ∧ deep ≤ 131072) :
    Calls Tryz.prog 78 #[.pointer (some ⟨ba, 0, none⟩), .pointer (some ⟨B, 0, none⟩), .int .i64 deep] W fun e w' => QEnd W w' e ba bx t (left - 1) (some (false, EV.pick c m sp t S)) := by
  have hal : Below W.heap.size W (W.alloc (.cells #[.slice none 0 0, .bool false] 140)) := (Below.refl _ W).alloc (Nat.le_refl _) _
  have HPI := hid (pin_of hba hB hA hQ (by omega))
  have hA1 := hA.below hal
  have a2 : (W.alloc (.cells #[.slice none 0 0, .bool false] 140)).cell? ⟨ba, 2, none⟩ = some (.int .i64 left) := zcell' _ _ _ _ hA1 2 _ rfl
  have az := hfz hA1 2
  have hwl : IntKind.i64.wrap (left - 1) = left - 1 := by rw [IntKind.wrap_i64]; omega
  have hwl2 : wrap64 (left - 1) = left - 1 := by rw [W_wrap64, CL.W_id _ (by omega) (by omega)]
  have hwd2 : wrap64 (deep - 1) = deep - 1 := by rw [W_wrap64, CL.W_id _ (by omega) (by omega)]
  have HBW := hid hB
  have HM := hid hM
  have HX := hid hbx
  have HS := hid hS
  have HK := hid hK
  have h1 : (c == 1) = false := by rw [beq_eq_false_iff_ne]; omega
  have h2 : 2 ≤ c := hc.1
  have h3 : c ≤ 7 := hc.2
  clear hM hbx hS hK
  clear hA hQ hal hA1 hB
  go_enter Tryz.func78, Tryz.ntmps78
  go_upto_region 2 with fail
  generalize (W.alloc (.cells #[.slice none 0 0, .bool false] 140)).setCell ⟨ba, 2, none⟩ (.int .i64 (left - 1)) = w1 at *
  clear a2 az
  have a2 : w1.cell? ⟨ba, 2, none⟩ = some (.int .i64 (left - 1)) := zcell' _ _ _ _ HPI.out.ak 2 _ rfl
  have q0 : w1.cell? ⟨B, 0, none⟩ = some (.int .i64 c) := zcell' _ _ _ _ HPI.out.q 0 _ rfl
  have hl0 : ¬ left - 1 < 0 := by omega
  have hd0 : ¬ deep < 1 := by omega
  go_wp2_with fail
  have hbx1 : w1.cell? ⟨bx, 0, none⟩ = some (.slice ao S.length cap) := (HPI.out.bel.cell (p := ⟨bx, 0, none⟩) (World.block_lt_of_cell? _ _ HX.out)).trans HX.out
  refine (over_any ba bx B t (left - 1) c n sp mv bv lv rv m ao S cap w1 HPI.out.ak HPI.out.q (krow_kept HM.out fun g _ hg => HPI.out.bel.block g (heap_lt hg)) hm hbx1 (HS.out.below0 HPI.out.bel) HK.out hc hsp ht).mono ?_
  intro e w2 hE
  obtain ⟨v, rfl, hpv⟩ := hE.ok _ _ rfl
  have HIn := hid (HPI.out.inb.below hE.low)
  have HPV := hid hpv
  obtain ⟨po, pc, ev, _, _⟩ := hpv
  subst ev
  clear hE hbx1
  generalize hRe : EV.pick c m sp t S = Res at *
  have HRe := hid hRe
  clear hRe
  have hO := HIn.out.box
  have HO := hid hO
  have y0 : w2.cell? ⟨W.heap.size, 0, none⟩ = some (.slice none 0 0) := zcell' _ _ _ _ hO 0 _ rfl
  have y1 : w2.cell? ⟨W.heap.size, 1, none⟩ = some (.bool false) := zcell' _ _ _ _ hO 1 _ rfl
  have z0 := hfz hO 0
  have z1 := hfz hO 1
  clear hO
  go_wp2_with fail
  refine bodyPost_ret (ew_results (P := Tryz.prog) rfl _ _ W.heap.size 140 _ (0, 0) _ rfl (ew_set2 HO.out) Tryz.underlying140 rfl (by kernel_rfl)) rfl ?_
  rw [HRe.out]
  exact HIn.out.okEnd HPV.out

set_option maxRecDepth 100000 in
set_option maxHeartbeats 6400000 in
theorem partOne (w0 : World) (ba bx B : Nat) (t deep left c n sp : Int) (mv bv lv rv : Value) (S : List Sr) (nm : List ByteArray) (l : AQ.Q) (W : World) (hba : w0.heap.size ≤ ba) (hB : Below w0.heap.size w0 W) (hA : AkI W ba bx t left) (hQ : QBox w0 B c n sp mv bv lv rv) (hN : OwnX w0 0 bv nm) (hn : nm.length ≤ 1000) (hl : AskT w0 lv l) (hP : PartIs w0 ba bx t S l) (hc : 8 ≤ c ∧ c ≤ 12) (hf : ∀ R, EV.ev l t S = some R → EvFew R) (hlf : 1 + (AQ.parts l : Int) ≤ left ∧ left ≤ 33554432) (hdp : 1 + (AQ.parts l : Int) ≤ deep ∧ deep ≤ 131072) :
    Calls Tryz.prog 78 #[.pointer (some ⟨ba, 0, none⟩), .pointer (some ⟨B, 0, none⟩), .int .i64 deep] W fun e w' => QEnd W w' e ba bx t (left - 1 - AQ.parts l) (oneR c nm (EV.ev l t S)) := by
  have hal : Below W.heap.size W (W.alloc (.cells #[.slice none 0 0, .bool false] 140)) := (Below.refl _ W).alloc (Nat.le_refl _) _
  have HPI := hid (pin_of hba hB hA hQ (by omega))
  have hA1 := hA.below hal
  have a2 : (W.alloc (.cells #[.slice none 0 0, .bool false] 140)).cell? ⟨ba, 2, none⟩ = some (.int .i64 left) := zcell' _ _ _ _ hA1 2 _ rfl
  have az := hfz hA1 2
  have hwl : IntKind.i64.wrap (left - 1) = left - 1 := by rw [IntKind.wrap_i64]; omega
  have hwl2 : wrap64 (left - 1) = left - 1 := by rw [W_wrap64, CL.W_id _ (by omega) (by omega)]
  have hwd2 : wrap64 (deep - 1) = deep - 1 := by rw [W_wrap64, CL.W_id _ (by omega) (by omega)]
  have HBW := hid hB
  have HQ0 := hid hQ
  have HN := hid hN
  have HL := hid hl
  have HP := hid hP
  have HF := hid hf
  have h1 : (c == 1) = false := by rw [beq_eq_false_iff_ne]; omega
  have h2 : 2 ≤ c := by omega
  have h3 : ¬ c ≤ 7 := by omega
  have h4 : 8 ≤ c := hc.1
  have h5 : c ≤ 12 := hc.2
  clear hN hl hP hf
  clear hA hQ hal hA1 hB
  go_enter Tryz.func78, Tryz.ntmps78
  go_upto_region 2 with fail
  generalize (W.alloc (.cells #[.slice none 0 0, .bool false] 140)).setCell ⟨ba, 2, none⟩ (.int .i64 (left - 1)) = w1 at *
  clear a2 az
  have a2 : w1.cell? ⟨ba, 2, none⟩ = some (.int .i64 (left - 1)) := zcell' _ _ _ _ HPI.out.ak 2 _ rfl
  have q0 : w1.cell? ⟨B, 0, none⟩ = some (.int .i64 c) := zcell' _ _ _ _ HPI.out.q 0 _ rfl
  have hl0 : ¬ left - 1 < 0 := by omega
  have hd0 : ¬ deep < 1 := by omega
  have HCl := hid (ofOne_any w0 ba bx B t (deep - 1) (left - 1) c n sp mv bv lv rv nm S l w1 hba HPI.out.bel HPI.out.ak HQ0.out HN.out hn HL.out HP.out hc HF.out (by omega) (by omega))
  have HIb := hid HPI.out.inb
  generalize hRe : oneR c nm (EV.ev l t S) = Res at *
  have HRe := hid hRe
  clear hRe
  go_wp2_with fail
  refine HCl.out.mono ?_
  intro e w2 hE
  have HIn := hid (HIb.out.but' hE.but hE.ak)
  rcases hr : Res with _ | ⟨al, pts⟩
  · obtain ⟨ty, u, rfl⟩ := hE.bad hr
    have HRr := hid hr
    clear hE hr HCl
    have hO := HIn.out.box
    have HO := hid hO
    have y0 : w2.cell? ⟨W.heap.size, 0, none⟩ = some (.slice none 0 0) := zcell' _ _ _ _ hO 0 _ rfl
    have y1 : w2.cell? ⟨W.heap.size, 1, none⟩ = some (.bool false) := zcell' _ _ _ _ hO 1 _ rfl
    have z0 := hfz hO 0
    have z1 := hfz hO 1
    clear hO
    go_wp2_with fail
    refine bodyPost_ret (ew_results (P := Tryz.prog) rfl _ _ W.heap.size 140 _ (0, 0) _ rfl (ew_set2 HO.out) Tryz.underlying140 rfl (by kernel_rfl)) rfl ?_
    rw [HRe.out, HRr.out]
    exact HIn.out.badEnd
  · obtain ⟨v, rfl, hpv⟩ := hE.ok al pts hr
    have HRr := hid hr
    have HPV := hid hpv
    obtain ⟨po, pc, ev, _, _⟩ := hpv
    subst ev
    clear hE hr HCl
    have hO := HIn.out.box
    have HO := hid hO
    have y0 : w2.cell? ⟨W.heap.size, 0, none⟩ = some (.slice none 0 0) := zcell' _ _ _ _ hO 0 _ rfl
    have y1 : w2.cell? ⟨W.heap.size, 1, none⟩ = some (.bool false) := zcell' _ _ _ _ hO 1 _ rfl
    have z0 := hfz hO 0
    have z1 := hfz hO 1
    clear hO
    go_wp2_with fail
    refine bodyPost_ret (ew_results (P := Tryz.prog) rfl _ _ W.heap.size 140 _ (0, 0) _ rfl (ew_set2 HO.out) Tryz.underlying140 rfl (by kernel_rfl)) rfl ?_
    rw [HRe.out, HRr.out]
    exact HIn.out.okEnd HPV.out

set_option maxRecDepth 100000 in
set_option maxHeartbeats 6400000 in
theorem partTwo (w0 : World) (ba bx B : Nat) (t deep left c n sp : Int) (mv bv lv rv : Value) (S : List Sr) (l r : AQ.Q) (W : World) (hba : w0.heap.size ≤ ba) (hB : Below w0.heap.size w0 W) (hA : AkI W ba bx t left) (hQ : QBox w0 B c n sp mv bv lv rv) (hl : AskT w0 lv l) (hr : AskT w0 rv r) (hP : PartIs w0 ba bx t S l) (hP2 : PartIs w0 ba bx t S r) (hc : 13 ≤ c ∧ c ≤ 16) (hf : ∀ R, EV.ev l t S = some R → EvFew R) (hf2 : ∀ R, EV.ev r t S = some R → EvFew R) (hlf : 1 + (AQ.parts l : Int) + AQ.parts r ≤ left ∧ left ≤ 33554432) (hdp : 1 + (AQ.parts l : Int) + AQ.parts r ≤ deep ∧ deep ≤ 131072) :
    Calls Tryz.prog 78 #[.pointer (some ⟨ba, 0, none⟩), .pointer (some ⟨B, 0, none⟩), .int .i64 deep] W fun e w' => QEnd W w' e ba bx t (left - 1 - AQ.parts l - AQ.parts r) ((EV.ev l t S).bind fun a => (EV.ev r t S).map fun b => EV.both c a b) := by
  have hal : Below W.heap.size W (W.alloc (.cells #[.slice none 0 0, .bool false] 140)) := (Below.refl _ W).alloc (Nat.le_refl _) _
  have HPI := hid (pin_of hba hB hA hQ (by omega))
  have hA1 := hA.below hal
  have a2 : (W.alloc (.cells #[.slice none 0 0, .bool false] 140)).cell? ⟨ba, 2, none⟩ = some (.int .i64 left) := zcell' _ _ _ _ hA1 2 _ rfl
  have az := hfz hA1 2
  have hwl : IntKind.i64.wrap (left - 1) = left - 1 := by rw [IntKind.wrap_i64]; omega
  have hwl2 : wrap64 (left - 1) = left - 1 := by rw [W_wrap64, CL.W_id _ (by omega) (by omega)]
  have hwd2 : wrap64 (deep - 1) = deep - 1 := by rw [W_wrap64, CL.W_id _ (by omega) (by omega)]
  have HBW := hid hB
  have HQ0 := hid hQ
  have HL := hid hl
  have HRt := hid hr
  have HP := hid hP
  have HP2 := hid hP2
  have HF := hid hf
  have HF2 := hid hf2
  have h1 : (c == 1) = false := by rw [beq_eq_false_iff_ne]; omega
  have h2 : 2 ≤ c := by omega
  have h3 : ¬ c ≤ 7 := by omega
  have h4 : 8 ≤ c := by omega
  have h5 : ¬ c ≤ 12 := by omega
  have h6 : 13 ≤ c := hc.1
  have h7 : c ≤ 16 := hc.2
  clear hl hr hP hP2 hf hf2
  clear hA hQ hal hA1 hB
  go_enter Tryz.func78, Tryz.ntmps78
  go_upto_region 2 with fail
  generalize (W.alloc (.cells #[.slice none 0 0, .bool false] 140)).setCell ⟨ba, 2, none⟩ (.int .i64 (left - 1)) = w1 at *
  clear a2 az
  have a2 : w1.cell? ⟨ba, 2, none⟩ = some (.int .i64 (left - 1)) := zcell' _ _ _ _ HPI.out.ak 2 _ rfl
  have q0 : w1.cell? ⟨B, 0, none⟩ = some (.int .i64 c) := zcell' _ _ _ _ HPI.out.q 0 _ rfl
  have hl0 : ¬ left - 1 < 0 := by omega
  have hd0 : ¬ deep < 1 := by omega
  have HCl := hid (ofTwo_any w0 ba bx B t (deep - 1) (left - 1) c n sp mv bv lv rv S l r w1 hba HPI.out.bel HPI.out.ak HQ0.out HL.out HRt.out HP.out HP2.out hc HF.out HF2.out (by omega) (by omega))
  have HIb := hid HPI.out.inb
  generalize hRe : ((EV.ev l t S).bind fun a => (EV.ev r t S).map fun b => EV.both c a b) = Res at *
  have HRe := hid hRe
  clear hRe
  go_wp2_with fail
  refine HCl.out.mono ?_
  intro e w2 hE
  have HIn := hid (HIb.out.but' hE.but hE.ak)
  rcases hr : Res with _ | ⟨al, pts⟩
  · obtain ⟨ty, u, rfl⟩ := hE.bad hr
    have HRr := hid hr
    clear hE hr HCl
    have hO := HIn.out.box
    have HO := hid hO
    have y0 : w2.cell? ⟨W.heap.size, 0, none⟩ = some (.slice none 0 0) := zcell' _ _ _ _ hO 0 _ rfl
    have y1 : w2.cell? ⟨W.heap.size, 1, none⟩ = some (.bool false) := zcell' _ _ _ _ hO 1 _ rfl
    have z0 := hfz hO 0
    have z1 := hfz hO 1
    clear hO
    go_wp2_with fail
    refine bodyPost_ret (ew_results (P := Tryz.prog) rfl _ _ W.heap.size 140 _ (0, 0) _ rfl (ew_set2 HO.out) Tryz.underlying140 rfl (by kernel_rfl)) rfl ?_
    rw [HRe.out, HRr.out]
    exact HIn.out.badEnd
  · obtain ⟨v, rfl, hpv⟩ := hE.ok al pts hr
    have HRr := hid hr
    have HPV := hid hpv
    obtain ⟨po, pc, ev, _, _⟩ := hpv
    subst ev
    clear hE hr HCl
    have hO := HIn.out.box
    have HO := hid hO
    have y0 : w2.cell? ⟨W.heap.size, 0, none⟩ = some (.slice none 0 0) := zcell' _ _ _ _ hO 0 _ rfl
    have y1 : w2.cell? ⟨W.heap.size, 1, none⟩ = some (.bool false) := zcell' _ _ _ _ hO 1 _ rfl
    have z0 := hfz hO 0
    have z1 := hfz hO 1
    clear hO
    go_wp2_with fail
    refine bodyPost_ret (ew_results (P := Tryz.prog) rfl _ _ W.heap.size 140 _ (0, 0) _ rfl (ew_set2 HO.out) Tryz.underlying140 rfl (by kernel_rfl)) rfl ?_
    rw [HRe.out, HRr.out]
    exact HIn.out.okEnd HPV.out

end Go.Proofs.YtdmnlmohfaafoaeGreatDoor

