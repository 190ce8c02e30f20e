/- What block.Without tells. -/
import Derived.Test.YtdmnlmohfaafoaeDoorPSBpGoesC
import Derived.Test.YtdmnlmohfaafoaeDoorPSBpCopyC
import Derived.Test.YtdmnlmohfaafoaeDoorPSBpDelC
import Derived.Test.YtdmnlmohfaafoaeDoorPSBpPushC
import Derived.Test.YtdmnlmohfaafoaeDoorPSHrReg
namespace Go.Proofs.YtdmnlmohfaafoaeDoor
open Go.RowKit Go.Shelf

theorem any_gone (L : List LB.Lab) (gs : List Gn) (t : Int) : ((gs.filter fun g => LB.all L g.M).any (inG t)) = !BK.none' goG gs L t := by
  unfold BK.none'
  rw [List.any_filter]
  induction gs with
  | nil => rfl
  | cons g gs ih =>
    rw [List.any_cons, List.all_cons, ih, Bool.not_and, Bool.not_not]

theorem bk_ldSm (b k : Nat) (ao : Option Addr) (n c : Nat) (w : World) (h : w.cell? ⟨b, k, none⟩ = some (.slice ao n c)) : (Instr.loadAt 36 (.pointer (some ⟨b, k, none⟩))).run Tryd.prog w = .ok (.slice ao n c) w := by
  have hs : (Tryd.prog.info? 36).map (·.size) = some 1 := by kernel_rfl
  go_simp

/-- What stays of a series. -/
theorem kp_at {p : List LB.Lab → Int → Bool} {S : List Sr} {i : Nat} (h : i < S.length) : HD.kp p (S.take (i + 1)) = HD.kp p (S.take i) ++ (if 0 < ((atSr S i).2.filter fun s => p (atSr S i).1 s.1).length then [((atSr S i).1, (atSr S i).2.filter fun s => p (atSr S i).1 s.1)] else []) := HD.kp_snoc p S i h

theorem kpw_len (p : List LB.Lab → Int → Bool) (S : List Sr) : (HD.kp p S).length ≤ S.length := by
  unfold HD.kp
  refine Nat.le_trans (List.length_filter_le _ _) ?_
  rw [List.length_map]
  exact Nat.le_refl _

theorem bk_fa0 (w : World) (b k : Nat) : (Instr.fieldAt 38 (.pointer (some ⟨b, k, none⟩)) 0).run Tryd.prog w = .ok (.pointer (some ⟨b, k, none⟩)) w := by
  go_simp
theorem bk_fa1 (w : World) (b k : Nat) : (Instr.fieldAt 38 (.pointer (some ⟨b, k, none⟩)) 1).run Tryd.prog w = .ok (.pointer (some ⟨b, k + 1, none⟩)) w := by
  go_simp
theorem bk_stSm (b k : Nat) (u : Value) (ao : Option Addr) (n c : Nat) (w : World) (c0 : w.cell? ⟨b, k, none⟩ = some u) (f0 : w.frozen? ⟨b, k, none⟩ = false) : (Instr.storeAt 36 (.pointer (some ⟨b, k, none⟩)) (.slice ao n c)).run Tryd.prog w = .ok () (w.setCell ⟨b, k, none⟩ (.slice ao n c)) := by
  have hs : (Tryd.prog.info? 36).map (·.size) = some 1 := by kernel_rfl
  go_simp

/-- The function that tells what is gone, on the way. -/
def GoIn (w3 : World) (l : List Gn) (v : Value) (W : World) : Prop :=
  ∃ bf fo fc, v = .func (.func 90) #[] #[.pointer (some ⟨bf, 0, none⟩)] ∧ w3.heap.size ≤ bf ∧ bf < W.heap.size ∧ W.cell? ⟨bf, 0, none⟩ = some (.slice fo l.length fc) ∧ GCel W fo l ∧ ∀ a, fo = some a → w3.heap.size ≤ a.block

/-- What is gone is taken out. -/
def AftD (w3 : World) (g0 B1 : Nat) (v : Value) (F : List CL.Smp) (W : World) : Prop := ∃ W4, Below w3.heap.size w3 W4 ∧ But g0 W4 W ∧ OwnSm W B1 v F

/-- left.Samples = slices.DeleteFunc(left.Samples, goes(one.Labels, gone)), operation by operation. -/
def T6 (w3 : World) (bx bY : Nat) (vS vL vG vF : Value) (l : List Gn) (L : Nat → Bool) (i : Nat) (W : World) (v : Value) : Prop := L 8 = false → match i with
  | 0 => v = .pointer (some ⟨bY, 1, none⟩)
  | 1 => v = vS
  | 2 => v = .pointer (some ⟨bx, 0, none⟩)
  | 3 => v = vL
  | 4 => v = vG
  | 5 => L 6 = false → GoIn w3 l v W
  | 6 => v = vF
  | 7 => v = .pointer (some ⟨bY, 1, none⟩)
  | _ => True

theorem T6.to {w3 W W' : World} {bx bY : Nat} {vS vL vG vF : Value} {l : List Gn} {L L' : Nat → Bool} (h8 : L' 8 = L 8) : ∀ {i : Nat} {v : Value}, (i = 5 → L' 6 = true ∨ (L' 6 = L 6 ∧ W' = W)) → T6 w3 bx bY vS vL vG vF l L i W v → T6 w3 bx bY vS vL vG vF l L' i W' v := by
  intro i v k h e8
  have h := h (by rw [← h8]; exact e8)
  match i, h with
  | 0, h => exact h
  | 1, h => exact h
  | 2, h => exact h
  | 3, h => exact h
  | 4, h => exact h
  | 5, h =>
    intro e6
    rcases k rfl with k | ⟨k1, k2⟩
    · rw [k] at e6; cases e6
    · subst k2
      exact h (by rw [← k1]; exact e6)
  | 6, h => exact h
  | 7, h => exact h
  | _ + 8, _ => trivial

set_option maxRecDepth 100000 in
set_option maxHeartbeats 3200000 in
theorem bwo_any (ao go : Option Addr) (S : List Sr) (gs : List Gn) (ca cg : Nat) (w : World) (hS : SrRow w ao S) (hGd : HD.Good S) (hG : GRow w go gs) (hg : gs.length ≤ 1000) (hM : ∀ i, i < gs.length → (atG gs i).M.length ≤ 1000) :
    Calls Tryd.prog 23 #[.slice ao S.length ca, .slice go gs.length cg] w fun e w' => ∃ v, e = .returned v ∧ SrOwn w' w.heap.size v (HD.kp (BK.none' goG gs) S) ∧ Below w.heap.size w w' := by
  have HS := hid hS
  have HGd := hid hGd
  have HG := hid hG
  have HM := hid hM
  have hn60 := hGd.few
  clear hS hGd hG hM
  go_enter Tryd.func23, Tryd.ntmps23
  go_wp2_with fail
  go_loopw [5, 11] (fun t5 ti wr => ∃ i : Nat, i ≤ S.length ∧ ti = .int .i64 i ∧ Below w.heap.size w wr ∧ SrOwn wr w.heap.size t5 (HD.kp (BK.none' goG gs) (S.take i))) (fun _ ti _ => S.length - (intOf ti).toNat)
  case atStart => exact ⟨0, Nat.zero_le _, rfl, Below.refl _ _, SrOwn.nil _ _⟩
  case round =>
    obtain ⟨i, hi, rfl, hbel, hown⟩ := hrel
    have HBl := hid hbel
    have HOw := hid hown
    obtain ⟨va, vc, ev⟩ := hown.shape
    subst ev
    clear hbel hown
    by_cases hlt : i < S.length
    · obtain ⟨b, off, hao, hbs, lo, lc, so, sc, d0, d1, hLR, hSR⟩ := HS.out i hlt
      subst hao
      have c0 : wr.cell? ⟨b, off + i * 2, none⟩ = some (.slice lo (atSr S i).1.length lc) := (HBl.out.cell (p := ⟨b, _, none⟩) hbs).trans d0
      have c1 : wr.cell? ⟨b, off + i * 2 + 1, none⟩ = some (.slice so (atSr S i).2.length sc) := (HBl.out.cell (p := ⟨b, _, none⟩) hbs).trans d1
      have hok := HGd.out.ok _ (HD.at_mem S i hlt)
      have HKp := hid (kp_at (p := BK.none' goG gs) hlt)
      have hl1 := right_len hok.1
      have hl2 := right_le hok.2.1
      have hl3 := hok.2.2.1
      have hll : (HD.kp (BK.none' goG gs) (S.take i)).length ≤ 1000 := Nat.le_trans (kpw_len _ _) (by rw [List.length_take]; omega)
      generalize HD.kp (BK.none' goG gs) (S.take i) = l at *
      generalize atSr S i = x at *
      have hil : 0 ≤ (i : Int) ∧ (i : Int) < (S.length : Int) := by omega
      have hbx : Below wr.heap.size wr (wr.alloc (.cells #[.slice lo x.1.length lc, .slice so x.2.length sc] 38)) := (Below.refl _ wr).alloc (Nat.le_refl _) _
      have HW1 := hid hbx
      have HX1 := hid (heap_alloc_new wr (.cells #[.slice lo x.1.length lc, .slice so x.2.length sc] 38))
      have HLR := hid hLR
      have HSR := hid hSR
      clear hbx hok hLR hSR d0 d1
      go_wp2_with fail
      generalize wr.alloc (.cells #[.slice lo x.1.length lc, .slice so x.2.length sc] 38) = w1 at *
      have HB1 := hid (bel2 HBl.out HW1.out)
      refine (copied_any x lo so lc sc w1 (HLR.out.below HB1.out) (HSR.out.below HB1.out) (by omega) hl3 (by omega) (by omega)).mono ?_
      rintro e w2 ⟨vl, vs, rfl, hvl, hvs, hb2⟩
      obtain ⟨la, lcc, el⟩ := own_slice hvl
      obtain ⟨g0, sc2, cur, es, hg0, hc0, _⟩ := own_block hvs hl3
      subst el
      subst es
      have hbxw : wr.heap.size < w1.heap.size := heap_lt HX1.out
      have hg1 := (hvs.lt g0 rfl).1
      have hg2 := heap_lt hc0
      have hal : Below w2.heap.size w2 (w2.alloc (.cells #[.slice la x.1.length lcc, .slice (some ⟨g0, 0, none⟩) x.2.length sc2] 38)) := (Below.refl _ w2).alloc (Nat.le_refl _) _
      have HW3 := hid (bel2 (bel2 HW1.out hb2) hal)
      have HX3 := hid ((hal.block _ (Nat.lt_of_lt_of_le hbxw hb2.size)).trans ((hb2.block _ hbxw).trans HX1.out))
      have HY3 := hid (heap_alloc_new w2 (.cells #[.slice la x.1.length lcc, .slice (some ⟨g0, 0, none⟩) x.2.length sc2] 38))
      have HL3 : Hid (OwnLb (w2.alloc (.cells #[.slice la x.1.length lcc, .slice (some ⟨g0, 0, none⟩) x.2.length sc2] 38)) w1.heap.size (.slice la x.1.length lcc) x.1) := row_kept hvl fun g _ hg => hal.block g (heap_lt hg)
      have HS3 : Hid (OwnSm (w2.alloc (.cells #[.slice la x.1.length lcc, .slice (some ⟨g0, 0, none⟩) x.2.length sc2] 38)) w1.heap.size (.slice (some ⟨g0, 0, none⟩) x.2.length sc2) x.2) := row_kept hvs fun g _ hg => hal.block g (heap_lt hg)
      have HG3 := hid ((hal.block _ hg2).trans hc0)
      have hby1 : w1.heap.size ≤ w2.heap.size := hb2.size
      clear hvl hvs hb2 hal hc0 hg0 HW1 HX1 HB1 c0 c1
      go_wp2_with fail
      generalize w2.alloc (.cells #[.slice la x.1.length lcc, .slice (some ⟨g0, 0, none⟩) x.2.length sc2] 38) = w3 at *
      generalize w2.heap.size = bY at *
      generalize w1.heap.size = B1 at *
      generalize hbxe : wr.heap.size = bx at *
      have x0 : w3.cell? ⟨bx, 0, none⟩ = some (.slice lo x.1.length lc) := zcell' _ _ _ _ HX3.out 0 _ rfl
      have y1 : w3.cell? ⟨bY, 1, none⟩ = some (.slice (some ⟨g0, 0, none⟩) x.2.length sc2) := zcell' _ _ _ _ HY3.out 1 _ rfl
      have hbxY : bx < bY := by omega
      have hg0Y : g0 ≠ bY := by omega
      have hg0x : g0 ≠ bx := by omega
      have hg0b : bx ≤ g0 := by omega
      have hB1x : w.heap.size ≤ B1 := by have := HBl.out.size; omega
      have HB3 := hid (bel2 HBl.out (show Below wr.heap.size wr w3 by rw [hbxe]; exact HW3.out))
      have hfe : (fun s : CL.Smp => !(gs.filter fun g => LB.all x.1 g.M).any (inG s.1)) = fun s => BK.none' goG gs x.1 s.1 := funext fun s => by rw [any_gone, Bool.not_not]
      have HFe := hid hfe
      have HGl := hid (show (gs.filter fun g => LB.all x.1 g.M).length ≤ 1000 from Nat.le_trans (List.length_filter_le _ _) hg)
      have HGoes : Hid (∀ W, Below w3.heap.size w3 W → Calls Tryd.prog 54 #[.slice lo x.1.length lc, .slice go gs.length cg] W fun e w' => GoEnd W (gs.filter fun g => LB.all x.1 g.M) e w') := fun W hW => bgoes_any lo go x.1 gs lc cg W ((HLR.out.below HB3.out).below hW) (by omega) ((HG.out.below HB3.out).below hW) hg HM.out
      generalize hF : x.2.filter (fun s => BK.none' goG gs x.1 s.1) = F at *
      generalize gs.filter (fun g => LB.all x.1 g.M) = gl at *
      clear hbxw hg1 hg2 hby1 hfe
      refine TL.wp_told [17, 18, 19, 20, 21, 22, 23, 24] (fun L W => (L 8 = false → (L 6 = false → Below w3.heap.size w3 W) ∧ (L 6 = true → AftD w3 g0 B1 (.slice (some ⟨g0, 0, none⟩) F.length sc2) F W)) ∧ (L 8 = true → ∃ W0, AftD w3 g0 B1 (.slice (some ⟨g0, 0, none⟩) F.length sc2) F W0 ∧ W = W0.setCell ⟨bY, 1, none⟩ (.slice (some ⟨g0, 0, none⟩) F.length sc2))) (T6 w3 bx bY (.slice (some ⟨g0, 0, none⟩) x.2.length sc2) (.slice lo x.1.length lc) (.slice go gs.length cg) (.slice (some ⟨g0, 0, none⟩) F.length sc2) gl) rfl (by kernel_rfl) (by kernel_rfl) 35 rfl (by kernel_rfl) ⟨fun _ => ⟨fun _ => (Below.refl _ w3).drew, fun e => (by cases e)⟩, fun e => (by cases e)⟩ (TL.ix_cons ?_ (TL.ix_cons ?_ (TL.ix_cons ?_ (TL.ix_cons ?_ (TL.ix_cons ?_ (TL.ix_cons ?_ (TL.ix_cons ?_ (TL.ix_cons ?_ (TL.ix_cons ?_ TL.ix_nil))))))))) ?_
      · intro L a W hL hbeh hcl hlike hC hdep
        have h8 : L 8 = false := TL.undone hcl 9 8 0 (by kernel_rfl) hL
        exact TL.Does.field rfl (hlike.keeps 8 (by kernel_rfl)) (bk_fa1 W bY 0) ⟨⟨fun _ => hC.1 h8, fun e => (by have e' : L 8 = true := e; rw [h8] at e'; cases e')⟩, fun _ => rfl, fun j hj _ ht => ht.to rfl fun _ => .inr ⟨rfl, rfl⟩⟩
      · intro L a W hL hbeh hcl hlike hC hdep
        have h8 : L 8 = false := TL.undone hcl 9 8 1 (by kernel_rfl) hL
        have h6 : L 6 = false := TL.undone hcl 9 6 1 (by kernel_rfl) hL
        have hb := (hC.1 h8).1 h6
        exact TL.Does.load rfl ((hdep 0 (by kernel_rfl)).2 h8) (bk_ldSm bY 1 _ _ _ W ((hb.cell (p := ⟨bY, 1, none⟩) (heap_lt HY3.out)).trans y1)) ⟨⟨fun _ => hC.1 h8, fun e => (by have e' : L 8 = true := e; rw [h8] at e'; cases e')⟩, fun _ => rfl, fun j hj _ ht => ht.to rfl fun _ => .inr ⟨rfl, rfl⟩⟩
      · intro L a W hL hbeh hcl hlike hC hdep
        have h8 : L 8 = false := TL.undone hcl 9 8 2 (by kernel_rfl) hL
        exact TL.Does.field rfl (hlike.keeps 7 (by kernel_rfl)) (bk_fa0 W bx 0) ⟨⟨fun _ => hC.1 h8, fun e => (by have e' : L 8 = true := e; rw [h8] at e'; cases e')⟩, fun _ => rfl, fun j hj _ ht => ht.to rfl fun _ => .inr ⟨rfl, rfl⟩⟩
      · intro L a W hL hbeh hcl hlike hC hdep
        have h8 : L 8 = false := TL.undone hcl 9 8 3 (by kernel_rfl) hL
        have h6 : L 6 = false := TL.undone hcl 9 6 3 (by kernel_rfl) hL
        have hb := (hC.1 h8).1 h6
        exact TL.Does.load rfl ((hdep 2 (by kernel_rfl)).2 h8) (ld_labels bx 0 _ _ _ W ((hb.cell (p := ⟨bx, 0, none⟩) (heap_lt HX3.out)).trans x0)) ⟨⟨fun _ => hC.1 h8, fun e => (by have e' : L 8 = true := e; rw [h8] at e'; cases e')⟩, fun _ => rfl, fun j hj _ ht => ht.to rfl fun _ => .inr ⟨rfl, rfl⟩⟩
      · intro L a W hL hbeh hcl hlike hC hdep
        have h8 : L 8 = false := TL.undone hcl 9 8 4 (by kernel_rfl) hL
        exact TL.Does.move (u := .slice go gs.length cg) rfl (hlike.keeps 1 (by kernel_rfl)) ⟨⟨fun _ => hC.1 h8, fun e => (by have e' : L 8 = true := e; rw [h8] at e'; cases e')⟩, fun _ => rfl, fun j hj _ ht => ht.to rfl fun _ => .inr ⟨rfl, rfl⟩⟩
      · intro L a W hL hbeh hcl hlike hC hdep
        have h8 : L 8 = false := TL.undone hcl 9 8 5 (by kernel_rfl) hL
        have h6 : L 6 = false := TL.undone hcl 9 6 5 (by kernel_rfl) hL
        have hb := (hC.1 h8).1 h6
        have e3 : a.eval (.tmp 20) = .slice lo x.1.length lc := (hdep 3 (by kernel_rfl)).2 h8
        have e4 : a.eval (.tmp 21) = .slice go gs.length cg := (hdep 4 (by kernel_rfl)).2 h8
        refine TL.Does.call (f := 54) (args := #[a.eval (.tmp 20), a.eval (.tmp 21)]) (by kernel_rfl) ?_
        rw [e3, e4]
        refine (HGoes.out W hb).mono ?_
        rintro e W' ⟨bf, fo, fc, rfl, hb2, hbf1, hbf2, hcf, hGC, hfar⟩
        exact ⟨_, rfl, ⟨fun _ => ⟨fun _ => bel2 hb hb2, fun e => (by have e' : L 6 = true := e; rw [h6] at e'; cases e')⟩, fun e => (by have e' : L 8 = true := e; rw [h8] at e'; cases e')⟩, fun _ _ => ⟨bf, fo, fc, rfl, Nat.le_trans hb.size hbf1, hbf2, hcf, hGC, fun a ea => Nat.le_trans hb.size (hfar a ea)⟩, fun j hj _ ht => ht.to rfl fun e => absurd e hj⟩
      · intro L a W hL hbeh hcl hlike hC hdep
        have h8 : L 8 = false := TL.undone hcl 9 8 6 (by kernel_rfl) hL
        have h6 : L 6 = false := hL
        have hb := (hC.1 h8).1 h6
        have e1 : a.eval (.tmp 18) = .slice (some ⟨g0, 0, none⟩) x.2.length sc2 := (hdep 1 (by kernel_rfl)).2 h8
        obtain ⟨bf, fo, fc, e5, hbf1, hbf2, hcf, hGC, hfar⟩ := (hdep 5 (by kernel_rfl)).2 h8 h6
        have e5' : a.eval (.tmp 22) = .func (.func 90) #[] #[.pointer (some ⟨bf, 0, none⟩)] := e5
        refine TL.Does.call (f := 53) (args := #[a.eval (.tmp 18), a.eval (.tmp 22)]) (by kernel_rfl) ?_
        rw [e1, e5']
        have hgw := heap_lt HG3.out
        have hdl := delSmp_any g0 sc2 B1 90 #[.pointer (some ⟨bf, 0, none⟩)] x.2 (fun s => gl.any (inG s.1)) W (row_kept HS3.out fun g _ hg => hb.block g (heap_lt hg)) hl3 (by omega) (enters_of Tryd.func90 (by kernel_rfl) rfl)
          (fun W2 hW s _ => goes1b_any fo gl fc bf s.1 s.2 W2 (hGC.but hW fun a ea => by have := hfar a ea; omega) HGl.out ((World.cell?_of_block (a := ⟨bf, 0, none⟩) (hW.2.2.2.2 bf hbf2 (by omega))).trans hcf) (Nat.lt_of_lt_of_le hbf2 hW.2.2.2.1))
        rw [HFe.out, hF] at hdl
        refine hdl.mono ?_
        rintro e W' ⟨rfl, ho5, hbt⟩
        exact ⟨_, rfl, ⟨fun _ => ⟨fun e => (by simp [TL.upd] at e), fun _ => ⟨W, hb, hbt, ho5⟩⟩, fun e => (by have e' : L 8 = true := e; rw [h8] at e'; cases e')⟩, fun _ => rfl, fun j hj _ ht => T6.to (L' := TL.upd L 6) (L := L) rfl (fun _ => .inl rfl) ht⟩
      · intro L a W hL hbeh hcl hlike hC hdep
        have h8 : L 8 = false := TL.undone hcl 9 8 7 (by kernel_rfl) hL
        exact TL.Does.field rfl (hlike.keeps 8 (by kernel_rfl)) (bk_fa1 W bY 0) ⟨⟨fun _ => hC.1 h8, fun e => (by have e' : L 8 = true := e; rw [h8] at e'; cases e')⟩, fun _ => rfl, fun j hj _ ht => ht.to rfl fun _ => .inr ⟨rfl, rfl⟩⟩
      · intro L a W hL hbeh hcl hlike hC hdep
        have h8 : L 8 = false := hL
        obtain ⟨h6, e6⟩ := hdep 6 (by kernel_rfl)
        have hA := (hC.1 h8).2 h6
        have hA2 := hA
        obtain ⟨W4, k1, k2, k3⟩ := hA
        have hY4 := (k1.block _ (heap_lt HY3.out)).trans HY3.out
        have hY5 := (k2.2.2.2.2 bY (heap_lt hY4) (fun e => hg0Y e.symm)).trans hY4
        exact TL.Does.store rfl ((hdep 7 (by kernel_rfl)).2 h8) (e6 h8) (bk_stSm bY 1 _ _ _ _ W (zcell' _ _ _ _ hY5 1 _ rfl) (hfz hY5 1)) ⟨⟨fun e => (by simp [TL.upd] at e), fun _ => ⟨W, hA2, rfl⟩⟩, fun e => (by simp [TL.upd] at e), fun j hj _ _ e => (by simp [TL.upd] at e)⟩
      · intro L f W hL hC hT
        obtain ⟨W0, ⟨W4, k1, k2, k3⟩, rfl⟩ := hC.2 (hL 8 (by decide))
        clear hT hL hC HGoes
        simp only [TL.puts]
        go_frame
        generalize f 17 = g17
        generalize f 18 = g18
        generalize f 19 = g19
        generalize f 20 = g20
        generalize f 21 = g21
        generalize f 22 = g22
        generalize f 23 = g23
        generalize f 24 = g24
        have hY4 := (k1.block _ (heap_lt HY3.out)).trans HY3.out
        have hY0 := (k2.2.2.2.2 bY (heap_lt hY4) (fun e => hg0Y e.symm)).trans hY4
        have hG4 := (k1.block _ (heap_lt HG3.out)).trans HG3.out
        have hW4 : Below wr.heap.size wr W4 := by
          refine (show Below wr.heap.size wr w3 by rw [hbxe]; exact HW3.out).trans (k1.mono ?_)
          have := HW3.out.size
          exact this
        have HW5 : Hid (Below wr.heap.size wr (W0.setCell ⟨bY, 1, none⟩ (.slice (some ⟨g0, 0, none⟩) F.length sc2))) := (Below.but hW4 k2 (by omega)).setCell (p := ⟨bY, 1, none⟩) (by show wr.heap.size ≤ bY; omega) _
        have HL5 : Hid (OwnLb (W0.setCell ⟨bY, 1, none⟩ (.slice (some ⟨g0, 0, none⟩) F.length sc2)) B1 (.slice la x.1.length lcc) x.1) := by
          have h1 := row_but (row_kept HL3.out fun g _ hg => k1.block g (heap_lt hg)) k2 hG4 (by decide)
          exact own_set h1 (own_kind h1 hY0 (by decide)) 1 _
        have HS5 : Hid (OwnSm (W0.setCell ⟨bY, 1, none⟩ (.slice (some ⟨g0, 0, none⟩) F.length sc2)) B1 (.slice (some ⟨g0, 0, none⟩) F.length sc2) F) := own_set k3 (own_kind k3 hY0 (by decide)) 1 _
        have HY5 := hid (heap_setCell_same W0 bY 1 _ _ (.slice (some ⟨g0, 0, none⟩) F.length sc2) hY0)
        clear hY4 hY0 hG4 hW4 k1 k2 k3 HW3 HX3 HY3 HL3 HS3 HG3 HB3 x0 y1
        generalize W0.setCell ⟨bY, 1, none⟩ (.slice (some ⟨g0, 0, none⟩) F.length sc2) = W5 at *
        have y0 : W5.cell? ⟨bY, 0, none⟩ = some (.slice la x.1.length lcc) := zcell' _ _ _ _ HY5.out 0 _ rfl
        have y1 : W5.cell? ⟨bY, 1, none⟩ = some (.slice (some ⟨g0, 0, none⟩) F.length sc2) := zcell' _ _ _ _ HY5.out 1 _ rfl
        by_cases hpos : 0 < F.length
        · have hp' : 0 < (F.length : Int) := by omega
          have HKp2 : Hid (HD.kp (BK.none' goG gs) (S.take (i + 1)) = l ++ [(x.1, F)]) := by
            show _ = _
            rw [HKp.out, if_pos hpos]
          have hal : Below W5.heap.size W5 (W5.alloc (.cells #[.slice la x.1.length lcc, .slice (some ⟨g0, 0, none⟩) F.length sc2] 38)) := (Below.refl _ W5).alloc (Nat.le_refl _) _
          have hws := Nat.le_trans HBl.out.size (Nat.le_trans HW5.out.size hal.size)
          obtain ⟨pa, pc, W7, hrun, hso, hb7, _⟩ := ser_push (x.1, F) ((HOw.out.below HW5.out).below hal) (row_low (row_kept HL5.out fun g _ hg => hal.block g (heap_lt hg)) hB1x) (row_low (row_kept HS5.out fun g _ hg => hal.block g (heap_lt hg)) hB1x) (heap_alloc_new W5 _) (by omega) hws
          have HSo := hid hso
          have HB7 := hid (((bel2 HBl.out (bel2 HW5.out hal))).trans hb7)
          clear hso hb7 hal hws HKp
          go_wp2_with (at_builtin; refine Lib.wpList_append_run _ rfl _ _ _ _ rfl _ _ rfl rfl _ _ hrun ?_)
          go_wp2_with fail
          go_roundw
          case rel => exact ⟨i + 1, by omega, by go_num, HB7.out, by rw [HKp2.out]; exact HSo.out⟩
          case measure => simp [intOf]; omega
        · have hp' : ¬ 0 < (F.length : Int) := by omega
          have HKp2 : Hid (HD.kp (BK.none' goG gs) (S.take (i + 1)) = l) := by
            show _ = _
            rw [HKp.out, if_neg hpos, List.append_nil]
          have HB7 := hid (bel2 HBl.out HW5.out)
          have HSo := hid (HOw.out.below HW5.out)
          clear HKp
          go_wp2_with fail
          go_roundw
          case rel => exact ⟨i + 1, by omega, by go_num, HB7.out, by rw [HKp2.out]; exact HSo.out⟩
          case measure => simp [intOf]; omega
    · have he : i = S.length := by omega
      have hfull : S.take i = S := by rw [he]; exact List.take_length
      have HSo : Hid (SrOwn wr w.heap.size (.slice va (HD.kp (BK.none' goG gs) (S.take i)).length vc) (HD.kp (BK.none' goG gs) S)) := by
        have := HOw.out
        rw [hfull] at this ⊢
        exact this
      subst he
      go_wp2_with fail
      go_ret
      exact ⟨_, rfl, HSo.out, HBl.out⟩

end Go.Proofs.YtdmnlmohfaafoaeDoor

