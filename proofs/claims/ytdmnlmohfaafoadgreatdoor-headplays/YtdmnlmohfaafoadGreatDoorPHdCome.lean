/- come: one series comes. -/
import Derived.Test.YtdmnlmohfaafoadGreatDoorPHdStep
import Derived.Test.YtdmnlmohfaafoadGreatDoorPHdFn
import Derived.Test.YtdmnlmohfaafoadGreatDoorPHdSearch
import Derived.Test.YtdmnlmohfaafoadGreatDoorPHdFollow
import Derived.Test.YtdmnlmohfaafoadGreatDoorPHdIns
import Derived.Test.YtdmnlmohfaafoadGreatDoorPHcRight
import Derived.Test.YtdmnlmohfaafoadGreatDoorPHxRight
import Derived.Test.YtdmnlmohfaafoadGreatDoorPHrReg
import Derived.Deep.DeepCutAuto
namespace Go.Proofs.YtdmnlmohfaafoadGreatDoor
open Go.RowKit

theorem StepFr.left {nb : Nat} {S S' : List Sr} {v v' : Value} {xs xs' : List (Value × Value)} {w w1 w' : World} (h : Below w.heap.size w w1) (k : StepFr nb S S' v v' xs xs' w1 w') : StepFr nb S S' v v' xs xs' w w' where
  os := k.os.trans h.os
  tape := k.tape.trans h.tape
  output := k.output.trans h.output
  size := Nat.le_trans h.size k.size
  block j hj h1 h2 h3 := (k.block j (Nat.lt_of_lt_of_le hj h.size) h1 h2 h3).trans (h.block j hj)
  row := by
    rcases k.row with e | ⟨g, e, hg⟩
    · exact .inl e
    · exact .inr ⟨g, e, Nat.le_trans h.size hg⟩
  smps i hi := by
    rcases k.smps i hi with e | ⟨g, e, hg⟩
    · exact .inl e
    · exact .inr ⟨g, e, Nat.le_trans h.size hg⟩
  keeps u m ys h1 h2 := k.keeps u m ys (row_kept h1 fun g _ hg => h.block g (heap_lt hg)) h2

def ComeEnd (nb : Nat) (mark : Int) (S : List Sr) (v : Value) (xs : List (Value × Value)) (x : Sr) (w : World) (e : Ending) (w' : World) : Prop :=
  if HD.err mark S x = 0 then e = .returned (.int .i64 0) ∧ ∃ v' xs', HdX w' nb mark (HD.nxt S x) v' xs' ∧ StepFr nb S (HD.nxt S x) v v' xs xs' w w'
  else e = .returned (.int .i64 (HD.err mark S x)) ∧ Below w.heap.size w w'

theorem ComeEnd.bad {nb : Nat} {mark : Int} {S : List Sr} {v : Value} {xs : List (Value × Value)} {x : Sr} {w w' : World} {e : Ending} {n : Int} (h : HD.err mark S x = n) (hn : n ≠ 0) (he : e = .returned (.int .i64 n)) (hb : Below w.heap.size w w') : ComeEnd nb mark S v xs x w e w' := by
  unfold ComeEnd
  rw [h, if_neg hn]
  exact ⟨he, hb⟩

theorem err_arg {mark : Int} {S : List Sr} {x : Sr} (h : LB.right x.1 = false ∨ CL.right x.2 = false ∨ x.2.length = 0) : HD.err mark S x = 1 := by
  unfold HD.err; rw [if_pos h]

theorem err_mark {mark : Int} {S : List Sr} {x : Sr} (h1 : LB.right x.1 = true) (h2 : CL.right x.2 = true) (h3 : 0 < x.2.length) (h4 : HD.firstT x ≤ mark) : HD.err mark S x = 10 := by
  unfold HD.err; rw [if_neg (by rw [h1, h2]; rintro (h | h | h) <;> first | cases h | omega), if_pos h4]

theorem err_there {mark : Int} {S : List Sr} {x : Sr} (h1 : LB.right x.1 = true) (h2 : CL.right x.2 = true) (h3 : 0 < x.2.length) (h4 : ¬ HD.firstT x ≤ mark) (h5 : HD.there S x.1 = true) : HD.err mark S x = if HD.firstT x ≤ HD.lastT (atSr S (HD.pos S x.1)) then 10 else if 2000 < (atSr S (HD.pos S x.1)).2.length + x.2.length then 12 else 0 := by
  unfold HD.err; rw [if_neg (by rw [h1, h2]; rintro (h | h | h) <;> first | cases h | omega), if_neg h4, if_pos h5]

theorem err_new {mark : Int} {S : List Sr} {x : Sr} (h1 : LB.right x.1 = true) (h2 : CL.right x.2 = true) (h3 : 0 < x.2.length) (h4 : ¬ HD.firstT x ≤ mark) (h5 : HD.there S x.1 = false) : HD.err mark S x = if 60 ≤ S.length then 12 else 0 := by
  unfold HD.err; rw [if_neg (by rw [h1, h2]; rintro (h | h | h) <;> first | cases h | omega), if_neg h4, if_neg (by rw [h5]; decide)]

theorem right_len {l : List LB.Lab} (h : LB.right l = true) : 1 ≤ l.length ∧ l.length ≤ 8 := by
  unfold LB.right at h
  have := decide_eq_true_iff.1 h
  exact ⟨this.1, this.2.1⟩

theorem right_le {l : List CL.Smp} (h : CL.right l = true) : l.length ≤ 2000 := ((CL.right_iff l).1 h).1

theorem ld_series (b k : Nat) (ao : Option Addr) (n c : Nat) (w : World) (h : w.cell? ⟨b, k, none⟩ = some (.slice ao n c)) : (Instr.loadAt 22 (.pointer (some ⟨b, k, none⟩))).run Tryz.prog w = .ok (.slice ao n c) w := by
  have hs : (Tryz.prog.info? 22).map (·.size) = some 1 := by kernel_rfl
  go_simp

theorem ld_labels (b k : Nat) (ao : Option Addr) (n c : Nat) (w : World) (h : w.cell? ⟨b, k, none⟩ = some (.slice ao n c)) : (Instr.loadAt 50 (.pointer (some ⟨b, k, none⟩))).run Tryz.prog w = .ok (.slice ao n c) w := by
  have hs : (Tryz.prog.info? 50).map (·.size) = some 1 := by kernel_rfl
  go_simp

set_option maxRecDepth 100000 in
set_option maxHeartbeats 3200000 in
theorem come_any (nb : Nat) (mark : Int) (S : List Sr) (v : Value) (xs : List (Value × Value)) (x : Sr) (lo so : Option Addr) (lc sc : Nat) (w : World) (hX : HdX w nb mark S v xs) (hG : HD.Good S) (hL : LRow w lo x.1) (hS : SRow w so x.2) (hR : ∀ s ∈ x.2, CL.Rs s) (hl1 : x.1.length ≤ 1000) (hl2 : x.2.length ≤ 1000) :
    Calls Tryz.prog 48 #[.pointer (some ⟨nb, 0, none⟩), srV lo x.1.length lc so x.2.length sc] w fun e w' => ComeEnd nb mark S v xs x w e w' := by
  have hbel0 : Below w.heap.size w (w.alloc (.cells #[.slice lo x.1.length lc, .slice so x.2.length sc] 55)) := (Below.refl _ w).alloc (Nat.le_refl _) _
  have hbox : (w.alloc (.cells #[.slice lo x.1.length lc, .slice so x.2.length sc] 55)).heap[w.heap.size]? = some (.cells #[.slice lo x.1.length lc, .slice so x.2.length sc] 55) := heap_alloc_new w _
  have HX := hid hX
  have HGd := hid hG
  have HL := hid hL
  have HS := hid hS
  have HR := hid hR
  clear hX hG hL hS hR
  go_enter Tryz.func48, Tryz.ntmps48
  go_wp2_with fail
  refine (lright_any lo x.1 lc _ (HL.out.below hbel0)).mono ?_
  rintro e w1 ⟨rfl, hb1⟩
  have HB1 := hid (bel2 hbel0 hb1)
  have HBx := hid ((hb1.block w.heap.size (heap_lt hbox)).trans hbox)
  have c1 : w1.cell? ⟨w.heap.size, 1, none⟩ = some (.slice so x.2.length sc) := zcell' _ _ _ _ HBx.out 1 _ rfl
  clear hb1 hbel0 hbox
  rcases hrl : LB.right x.1 with _ | _
  · go_wp2_with fail
    go_ret
    exact ComeEnd.bad (err_arg (.inl hrl)) (by decide) rfl HB1.out
  · have HRL := hid hrl
    clear hrl
    go_wp2_with fail
    refine (right_any so x.2 sc _ (HS.out.below HB1.out) HR.out (by omega)).mono ?_
    rintro e w2 ⟨rfl, hb2⟩
    have HB2 := hid (bel2 HB1.out hb2)
    have HBx2 := hid ((hb2.block w.heap.size (heap_lt HBx.out)).trans HBx.out)
    have c2 : w2.cell? ⟨w.heap.size, 1, none⟩ = some (.slice so x.2.length sc) := zcell' _ _ _ _ HBx2.out 1 _ rfl
    clear hb2 HB1 HBx c1
    rcases hrs : CL.right x.2 with _ | _
    · go_wp2_with fail
      go_ret
      exact ComeEnd.bad (err_arg (.inr (.inl hrs))) (by decide) rfl HB2.out
    · have HRS := hid hrs
      clear hrs
      by_cases h0 : x.2.length = 0
      · have h0' : ((x.2.length : Int) == 0) = true := by rw [h0]; rfl
        have HZ := hid h0
        clear h0
        go_wp2_with fail
        go_ret
        exact ComeEnd.bad (err_arg (.inr (.inr HZ.out))) (by decide) rfl HB2.out
      · have h0' : ((x.2.length : Int) == 0) = false := by
          simp only [beq_eq_false_iff_ne, ne_eq]
          omega
        have hpos : 0 < x.2.length := by omega
        clear h0
        obtain ⟨b, off, hso, d0, _, hbs⟩ := HS.out 0 hpos
        subst hso
        have e0 : w2.cell? ⟨b, off, none⟩ = some (.int .i64 (HD.firstT x)) := by
          have := (HB2.out.cell (p := ⟨b, off + 0 * 2, none⟩) hbs).trans d0
          simpa [HD.firstT] using this
        have hX2 := HX.out.below HB2.out
        have cm : w2.cell? ⟨nb, 0, none⟩ = some (.int .i64 mark) := zcell' _ _ _ _ hX2.box 0 _ rfl
        have HX2 := hid hX2
        clear d0 hX2
        generalize hft : HD.firstT x = ft at *
        have HFt := hid hft
        clear hft
        have hpi : (0 : Int) < (x.2.length : Int) := by omega
        go_wp2_with fail
        go_quiet (fail)
        by_cases hmk : ft ≤ mark
        · go_wp2_with fail
          go_ret
          exact ComeEnd.bad (err_mark HRL.out HRS.out hpos (by rw [HFt.out]; exact hmk)) (by decide) rfl (lbelow_drewN HB2.out _)
        · go_wp2_with fail
          have hB3 : Below w.heap.size w (w2.drewN nq) := lbelow_drewN HB2.out _
          have hX3 : HdX (w2.drewN nq) nb mark S v xs := HX.out.below hB3
          have hbx3 : (w2.drewN nq).heap[w.heap.size]? = some (.cells #[.slice lo x.1.length lc, .slice (some ⟨b, off, none⟩) x.2.length sc] 55) := HBx2.out
          generalize w2.drewN nq = w3 at *
          obtain ⟨ao, cap, hva, hSr⟩ := SrRow.of_own hX3.srow
          have HVa := hid hva
          have HC : Hid (∀ W, Below w3.heap.size w3 W → Calls Tryz.prog 79 #[.slice ao S.length cap, .slice lo x.1.length lc, .func (.func 80) #[] #[]] W fun e w' => e = .returned (.tuple #[.int .i64 (HD.pos S x.1 : Int), .bool (HD.there S x.1)]) ∧ Below W.heap.size W w') := fun W hW =>
            bsearch_any ao lo S x.1 cap lc W (hSr.below hW) ((HL.out.below hB3).below hW) HGd.out.ord (by have := HGd.out.few; omega) (fun i hi => by have := right_len (HGd.out.ok _ (HD.at_mem S i hi)).1; omega) hl1
          have m0 : w3.cell? ⟨nb, 1, none⟩ = some (.slice ao S.length cap) := by rw [← hva]; exact zcell' _ _ _ _ hX3.box 1 _ rfl
          have m1 : w3.cell? ⟨w.heap.size, 0, none⟩ = some (.slice lo x.1.length lc) := zcell' _ _ _ _ hbx3 0 _ rfl
          have HB3 := hid hB3
          have HX3 := hid hX3
          have HBx3 := hid hbx3
          clear hB3 hX3 hbx3 hSr hva HX2 HBx2 HB2 c2 cm e0
          have hnbw : nb < w3.heap.size := heap_lt HX3.out.box
          have hbxw : w.heap.size < w3.heap.size := heap_lt HBx3.out
          have HCell : Hid (∀ W, Below w3.heap.size w3 W → W.cell? ⟨nb, 1, none⟩ = some (.slice ao S.length cap) ∧ W.cell? ⟨w.heap.size, 0, none⟩ = some (.slice lo x.1.length lc)) := fun W hW => ⟨(hW.cell (p := ⟨nb, 1, none⟩) hnbw).trans m0, (hW.cell (p := ⟨w.heap.size, 0, none⟩) hbxw).trans m1⟩
          refine wp_region_class (fun W => Below w3.heap.size w3 W) (by kernel_rfl) (by kernel_rfl) (Below.refl _ w3).drew ?_
          refine q_run (.pointer (some ⟨nb, 0, none⟩)) (by kernel_rfl) (fun W _ => by kernel_rfl) ?_
          go_frame
          refine q_run (.pointer (some ⟨nb, 0, none⟩)) (by kernel_rfl) (fun W _ => by kernel_rfl) ?_
          go_frame
          refine q_run (.pointer (some ⟨nb, 1, none⟩)) (by kernel_rfl) (fun W _ => by kernel_rfl) ?_
          go_frame
          refine q_load (.slice ao S.length cap) (by kernel_rfl) rfl (by kernel_rfl) (fun W hW => ld_series nb 1 ao S.length cap W (HCell.out W hW).1) ?_
          go_frame
          refine q_run (.pointer (some ⟨w.heap.size, 0, none⟩)) (by kernel_rfl) (fun W _ => by kernel_rfl) ?_
          go_frame
          refine q_load (.slice lo x.1.length lc) (by kernel_rfl) rfl (by kernel_rfl) (fun W hW => ld_labels w.heap.size 0 lo x.1.length lc W (HCell.out W hW).2) ?_
          go_frame
          refine q_call (.tuple #[.int .i64 (HD.pos S x.1 : Int), .bool (HD.there S x.1)]) (by kernel_rfl) (fun W => by kernel_rfl) (fun W hW => (HC.out W hW).mono fun e w' h => ⟨h.1, bel2 hW h.2⟩) ?_
          go_frame
          refine q_run (.tuple #[.int .i64 (HD.pos S x.1 : Int), .bool (HD.there S x.1)]) (by kernel_rfl) (fun W _ => by kernel_rfl) ?_
          go_frame
          refine q_run (.int .i64 (HD.pos S x.1 : Int)) (by kernel_rfl) (fun W _ => by kernel_rfl) ?_
          go_frame
          refine q_run (.bool (HD.there S x.1)) (by kernel_rfl) (fun W _ => by kernel_rfl) ?_
          go_frame
          refine q_run (.int .i64 (HD.pos S x.1 : Int)) (by kernel_rfl) (fun W _ => by kernel_rfl) ?_
          go_frame
          refine q_run (.bool (HD.there S x.1)) (by kernel_rfl) (fun W _ => by kernel_rfl) ?_
          go_frame
          refine wpQuiet_nil ?_
          intro w4 hb4
          have HB4 := hid (bel2 HB3.out hb4)
          have HX4 := hid (HX3.out.below hb4)
          have HBx4 := hid ((hb4.block w.heap.size hbxw).trans HBx3.out)
          clear hb4 HC HCell m0 m1 HB3 HX3 HBx3 hnbw
          have m0 : w4.cell? ⟨nb, 1, none⟩ = some (.slice ao S.length cap) := by rw [← HVa.out]; exact zcell' _ _ _ _ HX4.out.box 1 _ rfl
          have mf : w4.frozen? ⟨nb, 1, none⟩ = false := hfz HX4.out.box 1
          have m1 : w4.cell? ⟨w.heap.size, 0, none⟩ = some (.slice lo x.1.length lc) := zcell' _ _ _ _ HBx4.out 0 _ rfl
          have m2 : w4.cell? ⟨w.heap.size, 1, none⟩ = some (.slice (some ⟨b, off, none⟩) x.2.length sc) := zcell' _ _ _ _ HBx4.out 1 _ rfl
          rcases hth : HD.there S x.1 with _ | _
          · have HTh := hid hth
            clear hth
            by_cases hfull : 60 ≤ S.length
            · have hf' : (60 : Int) ≤ (S.length : Int) := by omega
              go_wp2_with fail
              go_ret
              exact ComeEnd.bad (by rw [err_new HRL.out HRS.out hpos (by rw [HFt.out]; omega) HTh.out, if_pos hfull]) (by decide) rfl HB4.out
            · have hf' : ¬ (60 : Int) ≤ (S.length : Int) := by omega
              have HCC : Hid (∀ W, Below w.heap.size w W → Calls Tryz.prog 60 #[srV lo x.1.length lc (some ⟨b, off, none⟩) x.2.length sc] W fun e w' => ∃ vl vs, e = .returned (.agg #[vl, vs]) ∧ OwnLb w' W.heap.size vl x.1 ∧ OwnSm w' W.heap.size vs x.2 ∧ Below W.heap.size W w') := fun W hW =>
                copied_any x lo (some ⟨b, off, none⟩) lc sc W (HL.out.below hW) (HS.out.below hW) (right_len HRL.out).1 hpos (by omega) (by omega)
              have HI : Hid (∀ (W5 : World) (a c : Value), Below w4.heap.size w4 W5 → a.oneCell' = true → c.oneCell' = true → Calls Tryz.prog insF #[.slice ao S.length cap, .int .i64 (HD.pos S x.1), .slice (some ⟨W5.heap.size, 0, none⟩) 1 1] (W5.alloc (.cells #[a, c] 55)) fun e w' => ∃ v', e = .returned v' ∧ w'.ownsRow 0 55 2 v' (S.length + 1) (insV (flat xs) (HD.pos S x.1) a c) ∧ (W5.alloc (.cells #[a, c] 55)).grownBy w' v.ownBlock ∧ (v'.ownBlock = v.ownBlock ∨ v'.ownBlock = some (W5.alloc (.cells #[a, c] 55)).heap.size)) := fun W5 a c hW ha hc => by
                have hrow : (W5.alloc (.cells #[a, c] 55)).ownsRow 0 55 2 v S.length (flat xs) := (HX4.out.below (hW.alloc hW.size _)).row
                have hne : v.ownBlock ≠ some W5.heap.size := fun e => by
                  have := (HX4.out.row.lt _ e).2
                  have := hW.size
                  omega
                have := ins_any 0 S.length (HD.pos S x.1) W5.heap.size 1 v a c (flat xs) (W5.alloc (.cells #[a, c] 55)) hrow (HD.pos_le S x.1) (heap_alloc_new W5 _) hne ha hc HX4.out.one (by omega) (Nat.zero_le _)
                rw [HVa.out] at this ⊢
                exact this
              have hnbw : nb < w4.heap.size := heap_lt HX4.out.box
              have hvnb : v.ownBlock ≠ some nb := own_kind HX4.out.row HX4.out.box (by decide)
              have HNb := hid hvnb
              clear hvnb
              go_wp2_with fail
              go_region_with (first
                | (go_at_call 60; refine (HCC.out _ (by exact HB4.out.drew)).mono ?_; rintro en w5 ⟨vl, vs, rfl, o1, o2, hb5⟩; obtain ⟨al, cl, el⟩ := own_slice o1; obtain ⟨asm, csm, es⟩ := own_slice o2; subst el; subst es; have y0 := (hb5.cell (p := ⟨nb, 1, none⟩) hnbw).trans m0; have y1 := (World.cell?_of_block (a := ⟨nb, 1, none⟩) (Below.heap_alloc w5 (.cells #[.slice al x.1.length cl, .slice asm x.2.length csm] 55) nb (Nat.lt_of_lt_of_le hnbw hb5.size))).trans y0; have HO1 := hid o1; have HO2 := hid o2; have HB5 := hid hb5; clear o1 o2 hb5)
                | (go_at_call 83; refine (HI.out w5 _ _ (by exact bel2 (Below.refl _ w4).drew HB5.out) rfl rfl).mono ?_; rintro en w6 ⟨v6, rfl, o6, g6, k6⟩; obtain ⟨a6, c6, e6⟩ := own_slice o6; subst e6; have hb6 := ((g6.block nb (Nat.lt_of_lt_of_le (Nat.lt_of_lt_of_le hnbw HB5.out.size) (World.grownBy_alloc w5 _ none).size) (fun e => HNb.out e.symm)).trans (Below.heap_alloc w5 _ nb (Nat.lt_of_lt_of_le hnbw HB5.out.size))).trans ((HB5.out.block nb hnbw).trans HX4.out.box); have z0 := zcell' _ _ _ _ hb6 1 _ rfl; have z1 := hfz hb6 1; have HO6 := hid o6; have HG6 := hid g6; have HK6 := hid k6; clear o6 g6 k6 hb6))
              all_goals go_wp2_with fail
              all_goals go_ret
              all_goals
                unfold ComeEnd
                have hnx : HD.nxt S x = S.insertIdx (HD.pos S x.1) x := by
                  unfold HD.nxt
                  rw [if_neg (by rw [HTh.out]; decide)]
                rw [err_new HRL.out HRS.out hpos (by rw [HFt.out]; omega) HTh.out, if_neg hfull, if_pos rfl, hnx]
                have hb7 : Below w4.heap.size w4 w5 := bel2 (Below.refl _ w4).drew HB5.out
                have hst := HX4.out.insert (k := HD.pos S x.1) (x := x) (HD.pos_le S x.1) (hb7.alloc hb7.size _) (HO1.out.alloc _) (HO2.out.alloc _) HO6.out HG6.out HK6.out hpos
                exact ⟨rfl, _, _, hst.1, hst.2.left HB4.out⟩
          · have HTh := hid hth
            clear hth
            obtain ⟨hpl, hpc⟩ := decide_eq_true_iff.1 HTh.out
            have hk0 : 0 ≤ (HD.pos S x.1 : Int) ∧ (HD.pos S x.1 : Int) < (S.length : Int) := by omega
            have HPc := hid hpc
            clear hpc
            generalize hpk : HD.pos S x.1 = k at *
            have HPk := hid hpk
            clear hpk
            obtain ⟨g, cap2, cr, e0, e1, hgr, _, _, _⟩ := own_block HX4.out.row (by omega)
            have ea := HVa.out
            rw [e0] at ea
            simp only [Value.slice.injEq, true_and] at ea
            obtain ⟨ea1, ea2⟩ := ea
            subst ea1 ea2
            have hcr : cr[k * 2 + 1]? = some (atX xs k).2 := by
              have := HX4.out.row.cells (g := g) e1 _ _ (flat_get xs k (by rw [HX4.out.len]; exact hpl)).2
              rw [Addr.add_lit, Nat.zero_add] at this
              simpa [World.cell?, hgr] using this
            have hoky := HGd.out.ok _ (HD.at_mem S k hpl)
            have HF := hid (follow_any g k (atX xs k).2 (atSr S k).2 x.2 (some ⟨b, off, none⟩) sc cr w4.drew hgr hcr (own_heap (HX4.out.smps k hpl) rfl) hoky.2.2.1 (HS.out.below HB4.out.drew) hpos (right_le hoky.2.1) (by omega))
            have herr := err_there (mark := mark) HRL.out HRS.out hpos (by rw [HFt.out]; omega) HTh.out
            have HE := hid herr
            have HE0 := hid e0
            have hnx : HD.nxt S x = S.set k ((atSr S k).1, (atSr S k).2 ++ x.2) := by
              unfold HD.nxt
              rw [if_pos HTh.out, HPk.out]
            have HNx := hid hnx
            have hy := hoky.2.2.1
            clear e0 hgr hcr hoky herr hnx e1
            have HEr : Hid (HD.err mark S x = folC (atSr S k).2 x.2) := by
              show _ = _
              rw [HE.out, HPk.out]
              rfl
            clear HE
            generalize hfc : folC (atSr S k).2 x.2 = fc at *
            have HFc := hid hfc
            clear hfc
            go_wp2_with fail
            go_region_with (go_at_call 82; refine HF.out.mono ?_; rintro en w5 hend; obtain ⟨hen, hend1, hend2⟩ := hend.code; rw [HFc.out] at hen hend1 hend2; subst hen; have HE1 := hid hend1; have HE2 := hid hend2; clear hend hend1 hend2 HF)
            all_goals go_wp2_with fail
            all_goals go_ret
            all_goals
              unfold ComeEnd
              rw [HEr.out]
              by_cases hz : fc = 0
              · rw [if_pos hz]
                obtain ⟨u', W, k1, k2, k3, k4, k5⟩ := HE2.out hz
                have hst := (HX4.out.below ((Below.refl _ w4).drew)).follow (W := W) (l := x.2) hpl HE0.out k1 k2 k3 k4 hy
                rw [HNx.out, k5]
                exact ⟨by rw [hz]; rfl, v, _, hst.1, hst.2.left HB4.out.drew⟩
              · rw [if_neg hz]
                exact ⟨rfl, bel2 HB4.out.drew (HE1.out hz)⟩

end Go.Proofs.YtdmnlmohfaafoadGreatDoor

