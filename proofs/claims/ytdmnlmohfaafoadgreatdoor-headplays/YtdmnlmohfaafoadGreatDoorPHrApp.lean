/- The document's Append. -/
import Derived.Test.YtdmnlmohfaafoadGreatDoorPHrAppL
namespace Go.Proofs.YtdmnlmohfaafoadGreatDoor
open Go.RowKit

set_option maxRecDepth 100000 in
set_option maxHeartbeats 6400000 in
theorem rapp_any (ao lo : Option Addr) (S l : List Sr) (cap lc : Nat) (m : Int) (Z : Nat → Prop) (w : World) (hS : SrOut w Z ao S) (hG : HD.Good S) (hL : SrOut w Z lo l) (hl : l.length ≤ 1000) (hls : ∀ i, i < l.length → (atSr l i).1.length ≤ 1000 ∧ (atSr l i).2.length ≤ 1000) (hR : ∀ x ∈ l, ∀ s ∈ x.2, CL.Rs s) (hsh : ∀ i, i < l.length → Shrt (atSr l i).1) (hz : ∀ j, Z j → j < w.heap.size) (hF : FineH w) :
    Calls Tryz.prog 15 #[.agg #[.int .i64 m, .slice ao S.length cap], .slice lo l.length lc] w (RAEnd w Z m S l) := by
  have HS := hid hS
  have HG := hid hG
  have HL := hid hL
  have HLs := hid hls
  have HR := hid hR
  have HSh := hid hsh
  have HZ := hid hz
  have HA0 := hid (AIn.new w m (.slice ao S.length cap))
  have HF := hid hF
  clear hS hG hL hls hR hsh hz hF
  go_enter Tryz.func15, Tryz.ntmps15
  go_wp2_with fail
  go_loopw [6, 16] (fun tn ti wr => ∃ i : Nat, i ≤ l.length ∧ ti = .int .i64 i ∧ tn = .int .i64 (HD.total (l.take i)) ∧ HD.total (l.take i) ≤ 40 ∧ AIn w wr m (.slice ao S.length cap)) (fun _ ti _ => l.length - (intOf ti).toNat)
  case atStart => exact ⟨0, Nat.zero_le _, rfl, rfl, by simp [HD.total], HA0.out⟩
  case round =>
    clear HA0
    obtain ⟨i, hi, rfl, rfl, htot, hA⟩ := hrel
    have HA := hid hA
    clear hA
    by_cases hlt : i < l.length
    · obtain ⟨b, off, hao, hbs, hbz, lo1, lc1, so1, sc1, d0, d1, _, _⟩ := HL.out i hlt
      subst hao
      have c0 : wr.cell? ⟨b, off + i * 2, none⟩ = some (.slice lo1 (atSr l i).1.length lc1) := (HA.out.bel.cell (p := ⟨b, _, none⟩) hbs).trans d0
      have c1 : wr.cell? ⟨b, off + i * 2 + 1, none⟩ = some (.slice so1 (atSr l i).2.length sc1) := (HA.out.bel.cell (p := ⟨b, _, none⟩) hbs).trans d1
      obtain ⟨hl1, hl2⟩ := HLs.out i hlt
      have HT := hid (HD.total_take l i hlt)
      have hil : 0 ≤ (i : Int) ∧ (i : Int) < (l.length : Int) := by omega
      generalize HD.total (l.take i) = tt at *
      clear d0 d1
      by_cases hmany : 40 < tt + (atSr l i).2.length
      · have hm2 : (40 : Int) < (tt : Int) + ((atSr l i).2.length : Int) := by omega
        have HMany : Hid (HD.app m S l = ((4, -1), S)) := by
          show _ = _
          unfold HD.app
          rw [if_pos (Nat.lt_of_lt_of_le (by rw [HT.out]; exact hmany) (HD.total_le l (i + 1)))]
        have HA1 := hid (HA.out.below ((Below.refl _ wr).alloc (Nat.le_refl _) (.cells #[.slice lo1 (atSr l i).1.length lc1, .slice so1 (atSr l i).2.length sc1] 55)))
        go_wp2_with fail
        generalize wr.alloc (.cells #[.slice lo1 (atSr l i).1.length lc1, .slice so1 (atSr l i).2.length sc1] 55) = w1 at HA1 ⊢
        refine TL.wp_told [27, 28] (fun L W => Below w.heap.size w W ∧ W.heap[w.heap.size]? = some (.cells #[.int .i64 m, .slice ao S.length cap] 45) ∧ (∃ x y, W.heap[w.heap.size + 1]? = some (.cells #[x, y] 45) ∧ (L 2 = true → x = .int .i64 m ∧ y = .slice ao S.length cap)) ∧ (∃ x y, W.heap[w.heap.size + 1 + 1]? = some (.cells #[x, y] 26) ∧ (L 3 = true → x = .int .i64 4 ∧ y = .int .i64 (-1))))
          (fun L i W v => match i with | 0 => v = .agg #[.int .i64 m, .slice ao S.length cap] | 1 => v = .agg #[.int .i64 4, .int .i64 (-1)] | _ => True) rfl (by kernel_rfl) (by kernel_rfl) 177 rfl (by kernel_rfl) ?_ (TL.ix_cons ?_ (TL.ix_cons ?_ (TL.ix_cons ?_ (TL.ix_cons ?_ TL.ix_nil)))) ?_
        · exact ⟨HA1.out.bel.drew, HA1.out.h2, ⟨_, _, HA1.out.r1, fun h => by cases h⟩, ⟨_, _, HA1.out.r2, fun h => by cases h⟩⟩
        · intro L a W hL hbeh hcl hlike hC hdep
          obtain ⟨k1, k2, k3, k4⟩ := hC
          refine TL.Does.load rfl (hlike.keeps 2 (by kernel_rfl)) (ld_head _ _ _ rfl rfl W k2) ⟨⟨k1, k2, k3, k4⟩, rfl, fun j hj _ ht => ht⟩
        · intro L a W hL hbeh hcl hlike hC hdep
          obtain ⟨k1, k2, ⟨x3, y3, k3, q3⟩, ⟨x4, y4, k4, q4⟩⟩ := hC
          refine TL.Does.call (f := 43) (args := #[.int .i64 4]) (by kernel_rfl) ((bare_any 4 W).mono ?_)
          rintro e W' ⟨rfl, hb⟩
          exact ⟨_, rfl, ⟨bel2 k1 hb, (hb.block _ (heap_lt k2)).trans k2, ⟨x3, y3, (hb.block _ (heap_lt k3)).trans k3, q3⟩, ⟨x4, y4, (hb.block _ (heap_lt k4)).trans k4, q4⟩⟩, rfl, fun j hj _ ht => ht⟩
        · intro L a W hL hbeh hcl hlike hC hdep
          obtain ⟨k1, k2, ⟨x3, y3, k3, q3⟩, ⟨x4, y4, k4, q4⟩⟩ := hC
          have h0 := (hdep 0 (by kernel_rfl)).2
          refine TL.Does.store rfl (hlike.keeps 4 (by kernel_rfl)) h0 (st_head _ _ _ _ _ _ _ W k3) ⟨⟨?_, ?_, ⟨_, _, set_two k3, fun _ => ⟨rfl, rfl⟩⟩, ⟨x4, y4, ?_, q4⟩⟩, trivial, fun j hj _ ht => ht⟩
          · exact (k1.setCell (p := ⟨_, 0, none⟩) (by show w.heap.size ≤ w.heap.size + 1; omega) _).setCell (p := ⟨_, 1, none⟩) (by show w.heap.size ≤ w.heap.size + 1; omega) _
          · rw [set_two_ne (by omega)]; exact k2
          · rw [set_two_ne (by omega)]; exact k4
        · intro L a W hL hbeh hcl hlike hC hdep
          obtain ⟨k1, k2, ⟨x3, y3, k3, q3⟩, ⟨x4, y4, k4, q4⟩⟩ := hC
          have h0 := (hdep 1 (by kernel_rfl)).2
          refine TL.Does.store rfl (hlike.keeps 5 (by kernel_rfl)) h0 (st_fault _ _ _ _ _ W k4) ⟨⟨?_, ?_, ⟨x3, y3, ?_, q3⟩, ⟨_, _, set_two k4, fun _ => ⟨rfl, rfl⟩⟩⟩, trivial, fun j hj _ ht => ht⟩
          · exact (k1.setCell (p := ⟨_, 0, none⟩) (by show w.heap.size ≤ w.heap.size + 1 + 1; omega) _).setCell (p := ⟨_, 1, none⟩) (by show w.heap.size ≤ w.heap.size + 1 + 1; omega) _
          · rw [set_two_ne (by omega)]; exact k2
          · rw [set_two_ne (by omega)]; exact k3
        · intro L f W hL hC hT
          obtain ⟨k1, k2, ⟨x3, y3, k3, q3⟩, ⟨x4, y4, k4, q4⟩⟩ := hC
          obtain ⟨rfl, rfl⟩ := q3 (hL 2 (by decide))
          obtain ⟨rfl, rfl⟩ := q4 (hL 3 (by decide))
          clear hT hL
          simp only [TL.puts]
          go_frame
          have HK := hid (And.intro k1 (And.intro k3 k4))
          clear k1 k2 k3 k4
          go_wp2_with fail
          refine bodyPost_ret (results_cells (P := Tryz.prog) rfl _ _ (w.heap.size + 1) (w.heap.size + 1 + 1) 45 26 _ _ (0, 0) (0, 0) _ _ rfl HK.out.2.1 Tryz.underlying45 rfl (by kernel_rfl) rfl HK.out.2.2 Tryz.underlying26 rfl (by kernel_rfl)) rfl ?_
          refine ⟨ao, cap, ?_, ?_, HK.out.1⟩
          · rw [HMany.out]
          · rw [HMany.out]; exact SrOut.kept HS.out (ZFr.below HK.out.1)
      · have hm2 : ¬ (40 : Int) < (tt : Int) + ((atSr l i).2.length : Int) := by omega
        have HA1 := hid (HA.out.below ((Below.refl _ wr).alloc (Nat.le_refl _) (.cells #[.slice lo1 (atSr l i).1.length lc1, .slice so1 (atSr l i).2.length sc1] 55)))
        go_wp2_with fail
        go_roundw
        case rel => exact ⟨i + 1, by omega, by go_num, by rw [HT.out]; go_num, by rw [HT.out]; omega, HA1.out⟩
        case measure => simp [intOf]; omega
    · have he : i = l.length := by omega
      subst he
      rw [List.take_length] at htot
      generalize HD.total (List.take l.length l) = tl0
      have z0 : wr.cell? ⟨w.heap.size, 0, none⟩ = some (.int .i64 m) := zcell' _ _ _ _ HA.out.h2 0 _ rfl
      have z1 : wr.cell? ⟨w.heap.size, 1, none⟩ = some (.slice ao S.length cap) := zcell' _ _ _ _ HA.out.h2 1 _ rfl
      obtain ⟨xs0, x1, x2, x3, x4, x5⟩ := SrOut.cells HS.out
      have hS60 := HG.out.few
      have HX1 := hid x1
      have HX2 := hid x2
      have HX4 := hid x4
      have HX5 := hid x5
      clear x1 x2 x4 x5 z0 z1
      go_wp2_with fail
      refine TL.wp_told [30, 31, 32, 33, 34, 35, 36, 9] (fun _ W => AIn w W m (.slice ao S.length cap)) (T9 w Z m (.slice ao S.length cap) S) rfl (by kernel_rfl) (by kernel_rfl) 177 rfl (by kernel_rfl) (HA.out.below (Below.refl _ wr).drew) (TL.ix_cons ?_ (TL.ix_cons ?_ (TL.ix_cons ?_ (TL.ix_cons ?_ (TL.ix_cons ?_ (TL.ix_cons ?_ (TL.ix_cons ?_ (TL.ix_cons ?_ (TL.ix_cons ?_ TL.ix_nil))))))))) ?_
      · intro L a W hL hbeh hcl hlike hC hdep
        exact TL.Does.field rfl (hlike.keeps 2 (by kernel_rfl)) (fa0_head W _) ⟨hC, rfl, fun j hj _ ht => ht.below rfl (Below.refl _ _)⟩
      · intro L a W hL hbeh hcl hlike hC hdep
        exact TL.Does.load rfl (hdep 0 (by kernel_rfl)).2 (ld_int _ _ _ W (zcell' _ _ _ _ hC.h2 0 _ rfl)) ⟨hC, rfl, fun j hj _ ht => ht.below rfl (Below.refl _ _)⟩
      · intro L a W hL hbeh hcl hlike hC hdep
        have hb : Below W.heap.size W (W.alloc (.cells #[] 55)) := (Below.refl _ W).alloc (Nat.le_refl _) _
        exact TL.Does.bslice rfl (ps := #[]) (by simp) (bs_series W) ⟨hC.below hb, ⟨W.heap.size, rfl, hC.bel.size, heap_alloc_new W _⟩, fun j hj _ ht => ht.below rfl hb⟩
      · intro L a W hL hbeh hcl hlike hC hdep
        exact TL.Does.field rfl (hlike.keeps 2 (by kernel_rfl)) (fa1_head W _) ⟨hC, rfl, fun j hj _ ht => ht.below rfl (Below.refl _ _)⟩
      · intro L a W hL hbeh hcl hlike hC hdep
        exact TL.Does.load rfl (hdep 3 (by kernel_rfl)).2 (ld_series _ _ _ _ _ W (zcell' _ _ _ _ hC.h2 1 _ rfl)) ⟨hC, rfl, fun j hj _ ht => ht.below rfl (Below.refl _ _)⟩
      · intro L a W hL hbeh hcl hlike hC hdep
        obtain ⟨g, e2, hgb, hg⟩ := (hdep 2 (by kernel_rfl)).2
        obtain ⟨ti, ht, htz, hts, htb⟩ := sr_info
        obtain ⟨v', W', hr, hown, hb⟩ := app_fresh (P := Tryz.prog) W w.heap.size 22 22 55 ti _ 48 Tryz.uSrs ht htz hts htb rfl g hg hgb ao S.length cap (flat xs0) x3 (by rw [flat_length, HX1.out]) (fun ad had j u hu => (hC.bel.cell (World.block_lt_of_cell? _ _ (HX2.out ad had j u hu))).trans (HX2.out ad had j u hu)) (flat_slices HX1.out HX4.out HX5.out) (by unfold maxLen; omega) (by omega) hC.bel.size
        exact TL.Does.append rfl e2 (hdep 4 (by kernel_rfl)).2 hr ⟨hC.below hb, ⟨xs0, HX1.out, hown, bel2 hC.bel hb, fun i hi => .inl (HX4.out i hi), fun i hi => .inl (HX5.out i hi)⟩, fun j hj _ ht => ht.below rfl hb⟩
      · intro L a W hL hbeh hcl hlike hC hdep
        obtain ⟨xs, hRB⟩ := (hdep 5 (by kernel_rfl)).2
        have e1 := (hdep 1 (by kernel_rfl)).2
        obtain ⟨uo, uc, e5⟩ := own_slice hRB.row
        refine TL.Does.build rfl (ps := #[(0, .int .i64 m), (1, .slice uo S.length uc)]) ?_ (bd_head W m uo S.length uc) ⟨hC, ⟨_, xs, rfl, ?_⟩, fun j hj _ ht => ht.below rfl (Below.refl _ _)⟩
        · have e1' : a.eval (.tmp 31) = .int .i64 m := e1
          have e5' : a.eval (.tmp 35) = .slice uo S.length uc := e5
          simp [e1', e5']
        · rw [e5] at hRB; exact hRB
      · intro L a W hL hbeh hcl hlike hC hdep
        have hb : Below W.heap.size W (W.alloc (.cells #[.int .i64 0, .slice none 0 0] 45)) := (Below.refl _ W).alloc (Nat.le_refl _) _
        exact TL.Does.alloc rfl (al_head W) ⟨hC.below hb, ⟨W.heap.size, rfl, heap_lt hC.r2, _, _, heap_alloc_new W _, fun h8 => by
          have h9 := hbeh 8 _ rfl (by kernel_rfl)
          simp [TL.upd, h9] at h8⟩, fun j hj _ ht => ht.below rfl hb⟩
      · intro L a W hL hbeh hcl hlike hC hdep
        obtain ⟨X, e7, hX, x, y, hbx, _⟩ := (hdep 7 (by kernel_rfl)).2
        obtain ⟨u, xs, e6, hRB⟩ := (hdep 6 (by kernel_rfl)).2
        obtain ⟨uo, uc, rfl⟩ := own_slice hRB.row
        have hwX : w.heap.size ≤ X := by omega
        refine TL.Does.store rfl e7 e6 (st_head _ _ _ _ _ _ _ W hbx) ⟨hC.set2 hX _ _, trivial, fun j hj hLj ht => ?_⟩
        match j, ht with
        | 0, ht => exact ht
        | 1, ht => exact ht
        | 2, ⟨g, h1, h2, h3⟩ => exact ⟨g, h1, h2, (set_two_ne (fun e => by subst e; rw [h3] at hbx; simp at hbx)).trans h3⟩
        | 3, ht => exact ht
        | 4, ht => exact ht
        | 5, ⟨ys, h⟩ => exact ⟨ys, h.set2 hbx hwX _ _⟩
        | 6, ⟨z, ys, h1, h⟩ => exact ⟨z, ys, h1, h.set2 hbx hwX _ _⟩
        | 7, _ => exact ⟨X, e7, hX, _, _, set_two hbx, fun _ => ⟨rfl, xs, hRB.set2 hbx hwX _ _⟩⟩
        | _ + 8, _ => trivial
      · intro L f W hL hC hT
        obtain ⟨X, e9, hX, x, y, hbx, hq⟩ := hT 7 (by decide)
        obtain ⟨rfl, xs, hRB⟩ := hq (hL 8 (by decide))
        have e9' : f 9 = .pointer (some ⟨X, 0, none⟩) := e9
        have HO := hid (AOut.mk (Z := Z) hC hX hbx hRB)
        clear hT hL hC hbx hRB hq e9
        simp only [TL.puts]
        rw [e9']
        go_frame
        generalize f 30 = f30
        generalize f 31 = f31
        generalize f 32 = f32
        generalize f 33 = f33
        generalize f 34 = f34
        generalize f 35 = f35
        generalize f 36 = f36
        clear e9'
        go_wp2_with fail
        have HO0 := hid (show ∃ (Sj : List Sr) (v : Value) (ys : List (Value × Value)), AOut w W Z m (.slice ao S.length cap) X v ys Sj ∧ HD.Good Sj ∧ HD.run m S l 0 = HD.run m Sj (l.drop 0) 0 from ⟨S, y, xs, HO.out, HG.out, rfl⟩)
        clear HO HX1 HX2 HX4 HX5 x3 HA
        go_loopw [39] (fun ti wr => ∃ i : Nat, i ≤ l.length ∧ ti = .int .i64 i ∧ ∃ (Sj : List Sr) (v : Value) (ys : List (Value × Value)), AOut w wr Z m (.slice ao S.length cap) X v ys Sj ∧ HD.Good Sj ∧ HD.run m S l 0 = HD.run m Sj (l.drop i) i) (fun ti _ => l.length - (intOf ti).toNat)
        case atStart => exact ⟨0, Nat.zero_le _, rfl, HO0.out⟩
        case round =>
          clear HO0
          obtain ⟨i, hi, rfl, Sj, v, ys, hO, hGj, hrun⟩ := hrel
          have HO := hid hO
          have HGj := hid hGj
          have HRun := hid hrun
          clear hO hGj hrun
          by_cases hlt : i < l.length
          · obtain ⟨b, off, hao, hbs, hbz, lo1, lc1, so1, sc1, d0, d1, hLO, hSO⟩ := HL.out i hlt
            subst hao
            have c0 : wr.cell? ⟨b, off + i * 2, none⟩ = some (.slice lo1 (atSr l i).1.length lc1) := (HO.out.ain.bel.cell (p := ⟨b, _, none⟩) hbs).trans d0
            have c1 : wr.cell? ⟨b, off + i * 2 + 1, none⟩ = some (.slice so1 (atSr l i).2.length sc1) := (HO.out.ain.bel.cell (p := ⟨b, _, none⟩) hbs).trans d1
            obtain ⟨hl1, hl2⟩ := HLs.out i hlt
            have HLO := hid hLO
            have HSO := hid hSO
            have HShx := hid (HSh.out i hlt)
            have hil : 0 ≤ (i : Int) ∧ (i : Int) < (l.length : Int) := by omega
            clear d0 d1 hLO hSO
            have HRn := hid (HD.run_drop m Sj l i hlt)
            have HRx := hid (HR.out (atSr l i) (HD.at_mem l i hlt))
            generalize atSr l i = x at *
            obtain ⟨vo, vc, rfl, hSj⟩ := HO.out.row.out HZ.out
            have hbel : Below wr.heap.size wr (wr.alloc (.cells #[.slice lo1 x.1.length lc1, .slice so1 x.2.length sc1] 55)) := (Below.refl _ wr).alloc (Nat.le_refl _) _
            have HO1 := hid (HO.out.below hbel)
            have HBx := hid (heap_alloc_new wr (.cells #[.slice lo1 x.1.length lc1, .slice so1 x.2.length sc1] 55))
            have k0 : (wr.alloc (.cells #[.slice lo1 x.1.length lc1, .slice so1 x.2.length sc1] 55)).cell? ⟨X, 1, none⟩ = some (.slice vo Sj.length vc) := zcell' _ _ _ _ HO1.out.box 1 _ rfl
            have hjn := HGj.out.few
            have HCf := hid (find_any vo lo1 Sj x.1 vc lc1 _ (SrRow.below hSj.row hbel) (HLO.out.1.below HO1.out.ain.bel) HGj.out.ord (by omega) (fun k hk => by have := right_len (HGj.out.ok _ (HD.at_mem Sj k hk)).1; omega) hl1)
            clear hbel hSj
            go_wp2_with fail
            refine HCf.out.mono ?_
            rintro e w2 ⟨rfl, hb2⟩
            have HO2 := hid (HO1.out.below hb2)
            have HB2 := hid ((hb2.block _ (heap_lt HBx.out)).trans HBx.out)
            clear hb2 HO1 HBx HCf k0 c0 c1
            obtain ⟨kk, hkk⟩ : ∃ kk, fnd Sj x.1 = kk := ⟨_, rfl⟩
            rw [hkk]
            have HKk := hid hkk
            clear hkk
            go_upto_block 4 with fail
            go_cut [13] (fun t13 wx => t13 = .int .i64 (HD.err m Sj x) ∧ AOut w wx Z m (.slice ao S.length cap) X (.slice vo Sj.length vc) ys Sj ∧ wx.heap[wr.heap.size]? = some (.cells #[.slice lo1 x.1.length lc1, .slice so1 x.2.length sc1] 55))
            case first =>
              have p0 : w2.cell? ⟨wr.heap.size, 0, none⟩ = some (.slice lo1 x.1.length lc1) := zcell' _ _ _ _ HB2.out 0 _ rfl
              have p1 : w2.cell? ⟨wr.heap.size, 1, none⟩ = some (.slice so1 x.2.length sc1) := zcell' _ _ _ _ HB2.out 1 _ rfl
              have HC3 := hid (rlabels_any lo1 x.1 lc1 w2 (HLO.out.1.below HO2.out.ain.bel) (by omega) HShx.out)
              go_wp2_with fail
              refine HC3.out.mono ?_
              rintro e w3 ⟨rfl, hb3⟩
              have HO3 := hid (HO2.out.below hb3)
              have HB3 := hid ((hb3.block _ (heap_lt HB2.out)).trans HB2.out)
              have p2 : w3.cell? ⟨wr.heap.size, 1, none⟩ = some (.slice so1 x.2.length sc1) := zcell' _ _ _ _ HB3.out 1 _ rfl
              clear hb3 HC3 p0 p1 HO2 HB2
              rcases hrl : LB.right x.1 with _ | _
              · have HG1 : Hid (HD.err m Sj x = 1) := err_arg (.inl hrl)
                go_wp2_with fail
                go_meet
                case rel => exact ⟨by rw [HG1.out], HO3.out, HB3.out⟩
              · have HRl := hid hrl
                clear hrl
                have HC4 := hid (rsamples_any so1 x.2 sc1 w3 (HSO.out.1.below HO3.out.ain.bel) (by omega))
                go_wp2_with fail
                refine HC4.out.mono ?_
                rintro e w4 ⟨rfl, hb4⟩
                have HO4 := hid (HO3.out.below hb4)
                have HB4 := hid ((hb4.block _ (heap_lt HB3.out)).trans HB3.out)
                have p3 : w4.cell? ⟨wr.heap.size, 1, none⟩ = some (.slice so1 x.2.length sc1) := zcell' _ _ _ _ HB4.out 1 _ rfl
                clear hb4 HC4 p2 HO3 HB3
                rcases hrs : CL.right x.2 with _ | _
                · have HG1 : Hid (HD.err m Sj x = 1) := err_arg (.inr (.inl hrs))
                  go_wp2_with fail
                  go_meet
                  case rel => exact ⟨by rw [HG1.out], HO4.out, HB4.out⟩
                · have HRs := hid hrs
                  clear hrs
                  by_cases hpos : 0 < x.2.length
                  · have hpz : ¬ (x.2.length : Int) = 0 := by omega
                    obtain ⟨b', off', hso, g0, g1, hbs'⟩ := HSO.out.1 0 hpos
                    subst hso
                    have r0 : w4.cell? ⟨b', off', none⟩ = some (.int .i64 (HD.firstT x)) := by
                      have := (HO4.out.ain.bel.cell (p := ⟨b', off' + 0 * 2, none⟩) hbs').trans g0
                      simpa [HD.firstT] using this
                    have m0 : w4.cell? ⟨w.heap.size, 0, none⟩ = some (.int .i64 m) := zcell' _ _ _ _ HO4.out.ain.h2 0 _ rfl
                    have h1l : (1 : Int) ≤ (x.2.length : Int) := by omega
                    clear g0 g1
                    go_upto_region 17 with fail
                    by_cases hmk : HD.firstT x ≤ m
                    · have HG1 : Hid (HD.err m Sj x = 10) := err_mark HRl.out HRs.out hpos hmk
                      go_quiet (fail)
                      have HO5 := hid (HO4.out.below (drawnN_below w4 nq))
                      go_wp2_with fail
                      go_meet
                      case rel => exact ⟨by rw [HG1.out], HO5.out, HB4.out⟩
                    · go_quiet (fail)
                      have HO5 := hid (HO4.out.below (drawnN_below w4 nq))
                      have HB5 : Hid ((w4.drewN nq).heap[wr.heap.size]? = some (.cells #[.slice lo1 x.1.length lc1, .slice (some ⟨b', off', none⟩) x.2.length sc1] 55)) := HB4.out
                      have r5 : (w4.drewN nq).cell? ⟨b', off', none⟩ = some (.int .i64 (HD.firstT x)) := r0
                      have p5 : (w4.drewN nq).cell? ⟨wr.heap.size, 1, none⟩ = some (.slice (some ⟨b', off', none⟩) x.2.length sc1) := p3
                      clear r0 p3 m0 HO4 HB4
                      generalize w4.drewN nq = w5 at *
                      have k5 : w5.cell? ⟨X, 1, none⟩ = some (.slice vo Sj.length vc) := zcell' _ _ _ _ HO5.out.box 1 _ rfl
                      rcases hth : HD.there Sj x.1 with _ | _
                      · have hkn : kk = -1 := by rw [← HKk.out]; unfold fnd; rw [if_neg (by rw [hth]; decide)]
                        subst hkn
                        have HEn := hid (err_new (mark := m) HRl.out HRs.out hpos hmk hth)
                        clear hth
                        by_cases hfull : 60 ≤ Sj.length
                        · have hf2 : (60 : Int) ≤ (Sj.length : Int) := by omega
                          go_wp2_with fail
                          go_meet
                          case rel => exact ⟨by rw [HEn.out, if_pos hfull], HO5.out, HB5.out⟩
                        · have hf2 : ¬ (60 : Int) ≤ (Sj.length : Int) := by omega
                          go_upto_region 21 with fail
                          go_quiet (fail)
                          go_upto_region 23 with fail
                          go_quiet (fail)
                          go_wp2_with fail
                          go_meet
                          case rel => exact ⟨by rw [HEn.out, if_neg hfull], HO5.out.below (drawnN_below w5 _), HB5.out⟩
                      · have HEt := hid (err_there (mark := m) HRl.out HRs.out hpos hmk hth)
                        have hkp : kk = (HD.pos Sj x.1 : Int) := by rw [← HKk.out]; unfold fnd; rw [if_pos hth]
                        have hpl : HD.pos Sj x.1 < Sj.length := (decide_eq_true_iff.1 hth).1
                        clear hth HKk
                        generalize HD.pos Sj x.1 = pp at *
                        subst hkp
                        obtain ⟨vo', vc', ev, hSj5⟩ := HO5.out.row.out HZ.out
                        obtain ⟨g, gf, hvo, hgs, _, lo2, lc2, so2, sc2, e0, e1, _, hSO2⟩ := hSj5 pp hpl
                        simp only [Value.slice.injEq, true_and] at ev
                        obtain ⟨ev1, ev2⟩ := ev
                        have hok := HGj.out.ok _ (HD.at_mem Sj pp hpl)
                        have hq2 := right_le hok.2.1
                        obtain ⟨q, hq⟩ : ∃ q, (atSr Sj pp).2.length = q + 1 := ⟨(atSr Sj pp).2.length - 1, by have := hok.2.2.1; omega⟩
                        obtain ⟨b2, off2, hso2, t0, _, _⟩ := hSO2.1 q (by omega)
                        have l5 : w5.cell? ⟨b2, off2 + q * 2, none⟩ = some (.int .i64 (HD.lastT (atSr Sj pp))) := by rw [t0]; unfold HD.lastT; rw [hq]; rfl
                        have e5 : w5.cell? ⟨g, gf + pp * 2 + 1, none⟩ = some (.slice (some ⟨b2, off2, none⟩) (q + 1) sc2) := by rw [e1, hq, hso2]
                        have e4 : w5.cell? ⟨g, gf + pp * 2, none⟩ = some (.slice lo2 (atSr Sj pp).1.length lc2) := e0
                        rw [ev1, hvo] at k5 ⊢
                        have hpi : 0 ≤ (pp : Int) ∧ (pp : Int) < (Sj.length : Int) := by omega
                        have HQ := hid hq
                        have hq3 : q + 1 ≤ 2000 := by omega
                        clear hSj5 t0 e0 e1 hSO2 hok hq hq2 ev1 ev2
                        by_cases hord : HD.firstT x ≤ HD.lastT (atSr Sj pp)
                        · go_upto_region 21 with fail
                          go_quiet (fail)
                          go_wp2_with fail
                          go_meet
                          case rel => exact ⟨by rw [HEt.out, if_pos hord], HO5.out.below (drawnN_below w5 _), HB5.out⟩
                        · by_cases hbig : 2000 < (atSr Sj pp).2.length + x.2.length
                          · have hb2 : (2000 : Int) < (q : Int) + 1 + (x.2.length : Int) := by have := HQ.out; omega
                            go_upto_region 21 with fail
                            go_quiet (fail)
                            go_upto_region 23 with fail
                            go_quiet (fail)
                            go_wp2_with fail
                            go_meet
                            case rel => exact ⟨by rw [HEt.out, if_neg (by omega), if_pos (by omega)], HO5.out.below (drawnN_below w5 _), HB5.out⟩
                          · have hb2 : ¬ (2000 : Int) < (q : Int) + 1 + (x.2.length : Int) := by have := HQ.out; omega
                            go_upto_region 21 with fail
                            go_quiet (fail)
                            go_upto_region 23 with fail
                            go_quiet (fail)
                            go_wp2_with fail
                            go_meet
                            case rel => exact ⟨by rw [HEt.out, if_neg (by omega), if_neg (by omega)], HO5.out.below (drawnN_below w5 _), HB5.out⟩
                  · have hpz : (x.2.length : Int) = 0 := by omega
                    have HG1 : Hid (HD.err m Sj x = 1) := err_arg (.inr (.inr (by omega)))
                    go_wp2_with fail
                    go_meet
                    case rel => exact ⟨by rw [HG1.out], HO4.out, HB4.out⟩
            case rest =>
              obtain ⟨rfl, hOc, hBc⟩ := hcut
              have HOc := hid hOc
              have HBc := hid hBc
              obtain ⟨en, hen⟩ : ∃ en, HD.err m Sj x = en := ⟨_, rfl⟩
              rw [hen]
              have HEn := hid hen
              clear hen hOc hBc HO2 HB2 HO
              by_cases herr : en = 0
              · subst herr
                obtain ⟨hRl, hRs, hpos, hmk, hcase⟩ := HD.err_ok HEn.out
                rcases hcase with ⟨hth, hord, hbig⟩ | ⟨hth, hfew⟩
                · have hkp : kk = (HD.pos Sj x.1 : Int) := by rw [← HKk.out]; unfold fnd; rw [if_pos hth]
                  have hpl : HD.pos Sj x.1 < Sj.length := (decide_eq_true_iff.1 hth).1
                  have HNx : Hid (HD.nxt Sj x = Sj.set (HD.pos Sj x.1) ((atSr Sj (HD.pos Sj x.1)).1, (atSr Sj (HD.pos Sj x.1)).2 ++ x.2)) := by
                    show _ = _
                    unfold HD.nxt
                    rw [if_pos hth]
                  clear hth HKk hord
                  generalize HD.pos Sj x.1 = pp at *
                  subst hkp
                  have hjn := HGj.out.few
                  have hpi : ¬ (pp : Int) < 0 := by omega
                  obtain ⟨g, gc, cur, e1, _, hgc, _⟩ := own_block HOc.out.row.row (by omega)
                  simp only [Value.slice.injEq, true_and] at e1
                  obtain ⟨e1, e2⟩ := e1
                  subst e1
                  subst e2
                  obtain ⟨lo2, lc2, ex1⟩ := (HOc.out.row.labs pp hpl).one
                  obtain ⟨so2, sc2, ex2, hS2⟩ := (HOc.out.row.smps pp hpl).read HOc.out.row.bel
                  obtain ⟨q1, q2⟩ := flat_get ys pp (by rw [HOc.out.row.len]; exact hpl)
                  have c1 := HOc.out.row.row.cells (g := g) rfl _ _ q1
                  have c2 := HOc.out.row.row.cells (g := g) rfl _ _ q2
                  rw [Addr.add_lit, Nat.zero_add] at c1 c2
                  rw [ex1] at c1
                  rw [ex2] at c2
                  have hgs : g < wc.heap.size := heap_lt hgc
                  have HCx := hid (And.intro c1 c2)
                  have HS2 := hid hS2
                  have HE1 := hid ex1
                  have HGc := hid hgc
                  obtain ⟨b1, off1, hso1, _⟩ := HSO.out.1 0 hpos
                  subst hso1
                  clear c1 c2 q1 q2 ex1 ex2 hS2 hgc
                  go_upto_region 29 with fail
                  refine TL.wp_told [152, 153, 154, 155, 156, 157, 158, 159, 160, 161, 162, 163, 164, 165, 166, 167, 168, 169, 170, 171, 172, 173] (fun L W => (L 22 = false → Below wc.heap.size wc W) ∧ (L 22 = true → ∃ zs, AOut w W Z m (.slice ao S.length cap) X (.slice (some ⟨g, 0, none⟩) Sj.length vc) zs (HD.nxt Sj x)))
                    (T29 wc X wr.heap.size g pp (.slice (some ⟨g, 0, none⟩) Sj.length vc) (.slice lo2 (atSr Sj pp).1.length lc2) (.slice so2 (atSr Sj pp).2.length sc2) (.slice (some ⟨b1, off1, none⟩) x.2.length sc1) (atSr Sj pp).2 x.2) rfl (by kernel_rfl) (by kernel_rfl) 177 rfl (by kernel_rfl) ⟨fun _ => (Below.refl _ wc).drew, fun e => (by cases e)⟩ (TL.ix_cons ?_ (TL.ix_cons ?_ (TL.ix_cons ?_ (TL.ix_cons ?_ (TL.ix_cons ?_ (TL.ix_cons ?_ (TL.ix_cons ?_ (TL.ix_cons ?_ (TL.ix_cons ?_ (TL.ix_cons ?_ (TL.ix_cons ?_ (TL.ix_cons ?_ (TL.ix_cons ?_ (TL.ix_cons ?_ (TL.ix_cons ?_ (TL.ix_cons ?_ (TL.ix_cons ?_ (TL.ix_cons ?_ (TL.ix_cons ?_ (TL.ix_cons ?_ (TL.ix_cons ?_ (TL.ix_cons ?_ (TL.ix_cons ?_ TL.ix_nil))))))))))))))))))))))) ?_
                  · intro L a W hL hbeh hcl hlike hC hdep
                    have h22 : L 22 = false := TL.undone hcl 12 22 0 (by kernel_rfl) hL
                    have hb := hC.1 h22
                    exact TL.Does.field rfl (hlike.keeps 9 (by kernel_rfl)) (fa1_head W _) ⟨⟨fun _ => hb, fun e => (by have e' : L 22 = true := e; rw [h22] at e'; cases e')⟩, fun _ => rfl, fun j hj _ ht => ht.below id id rfl (Below.refl _ _)⟩
                  · intro L a W hL hbeh hcl hlike hC hdep
                    have h22 : L 22 = false := TL.undone hcl 12 22 1 (by kernel_rfl) hL
                    have hb := hC.1 h22
                    exact TL.Does.load rfl ((hdep 0 (by kernel_rfl)).2 h22) (ld_series _ _ _ _ _ W ((hb.cell (p := ⟨X, 1, none⟩) (heap_lt HOc.out.box)).trans (zcell' _ _ _ _ HOc.out.box 1 _ rfl))) ⟨⟨fun _ => hb, fun e => (by have e' : L 22 = true := e; rw [h22] at e'; cases e')⟩, fun _ => rfl, fun j hj _ ht => ht.below id id rfl (Below.refl _ _)⟩
                  · intro L a W hL hbeh hcl hlike hC hdep
                    have h22 : L 22 = false := TL.undone hcl 12 22 2 (by kernel_rfl) hL
                    have hb := hC.1 h22
                    exact TL.Does.move (u := .int .i64 pp) rfl (hlike.keeps 12 (by kernel_rfl)) ⟨⟨fun _ => hb, fun e => (by have e' : L 22 = true := e; rw [h22] at e'; cases e')⟩, fun _ => rfl, fun j hj _ ht => ht.below id id rfl (Below.refl _ _)⟩
                  · intro L a W hL hbeh hcl hlike hC hdep
                    have h22 : L 22 = false := TL.undone hcl 12 22 3 (by kernel_rfl) hL
                    have hb := hC.1 h22
                    exact TL.Does.field rfl (hlike.keeps 9 (by kernel_rfl)) (fa1_head W _) ⟨⟨fun _ => hb, fun e => (by have e' : L 22 = true := e; rw [h22] at e'; cases e')⟩, fun _ => rfl, fun j hj _ ht => ht.below id id rfl (Below.refl _ _)⟩
                  · intro L a W hL hbeh hcl hlike hC hdep
                    have h22 : L 22 = false := TL.undone hcl 12 22 4 (by kernel_rfl) hL
                    have hb := hC.1 h22
                    exact TL.Does.load rfl ((hdep 3 (by kernel_rfl)).2 h22) (ld_series _ _ _ _ _ W ((hb.cell (p := ⟨X, 1, none⟩) (heap_lt HOc.out.box)).trans (zcell' _ _ _ _ HOc.out.box 1 _ rfl))) ⟨⟨fun _ => hb, fun e => (by have e' : L 22 = true := e; rw [h22] at e'; cases e')⟩, fun _ => rfl, fun j hj _ ht => ht.below id id rfl (Below.refl _ _)⟩
                  · intro L a W hL hbeh hcl hlike hC hdep
                    have h22 : L 22 = false := TL.undone hcl 12 22 5 (by kernel_rfl) hL
                    have hb := hC.1 h22
                    exact TL.Does.move (u := .int .i64 pp) rfl (hlike.keeps 12 (by kernel_rfl)) ⟨⟨fun _ => hb, fun e => (by have e' : L 22 = true := e; rw [h22] at e'; cases e')⟩, fun _ => rfl, fun j hj _ ht => ht.below id id rfl (Below.refl _ _)⟩
                  · intro L a W hL hbeh hcl hlike hC hdep
                    have h22 : L 22 = false := TL.undone hcl 12 22 6 (by kernel_rfl) hL
                    have hb := hC.1 h22
                    exact TL.Does.index rfl ((hdep 4 (by kernel_rfl)).2 h22) ((hdep 5 (by kernel_rfl)).2 h22) (ix_series g pp Sj.length vc W hpl (by omega)) ⟨⟨fun _ => hb, fun e => (by have e' : L 22 = true := e; rw [h22] at e'; cases e')⟩, fun _ => rfl, fun j hj _ ht => ht.below id id rfl (Below.refl _ _)⟩
                  · intro L a W hL hbeh hcl hlike hC hdep
                    have h22 : L 22 = false := TL.undone hcl 12 22 7 (by kernel_rfl) hL
                    have hb := hC.1 h22
                    exact TL.Does.field rfl ((hdep 6 (by kernel_rfl)).2 h22) (fa0_series W g (pp * 2)) ⟨⟨fun _ => hb, fun e => (by have e' : L 22 = true := e; rw [h22] at e'; cases e')⟩, fun _ => rfl, fun j hj _ ht => ht.below id id rfl (Below.refl _ _)⟩
                  · intro L a W hL hbeh hcl hlike hC hdep
                    have h22 : L 22 = false := TL.undone hcl 12 22 8 (by kernel_rfl) hL
                    have hb := hC.1 h22
                    exact TL.Does.load rfl ((hdep 7 (by kernel_rfl)).2 h22) (ld_labels _ _ _ _ _ W ((hb.cell (p := ⟨g, pp * 2, none⟩) hgs).trans HCx.out.1)) ⟨⟨fun _ => hb, fun e => (by have e' : L 22 = true := e; rw [h22] at e'; cases e')⟩, fun _ => rfl, fun j hj _ ht => ht.below id id rfl (Below.refl _ _)⟩
                  · intro L a W hL hbeh hcl hlike hC hdep
                    have h22 : L 22 = false := TL.undone hcl 12 22 9 (by kernel_rfl) hL
                    have hb := hC.1 h22
                    have hb2 : Below W.heap.size W (W.alloc (.cells #[] 52)) := (Below.refl _ W).alloc (Nat.le_refl _) _
                    exact TL.Does.bslice rfl (ps := #[]) (by simp) (bs_samples W) ⟨⟨fun _ => bel2 hb hb2, fun e => (by have e' : L 22 = true := e; rw [h22] at e'; cases e')⟩, fun _ _ => ⟨W.heap.size, rfl, hb.size, heap_alloc_new W _⟩, fun j hj _ ht => ht.below id id rfl hb2⟩
                  · intro L a W hL hbeh hcl hlike hC hdep
                    have h22 : L 22 = false := TL.undone hcl 12 22 10 (by kernel_rfl) hL
                    have hb := hC.1 h22
                    exact TL.Does.field rfl (hlike.keeps 9 (by kernel_rfl)) (fa1_head W _) ⟨⟨fun _ => hb, fun e => (by have e' : L 22 = true := e; rw [h22] at e'; cases e')⟩, fun _ => rfl, fun j hj _ ht => ht.below id id rfl (Below.refl _ _)⟩
                  · intro L a W hL hbeh hcl hlike hC hdep
                    have h22 : L 22 = false := TL.undone hcl 12 22 11 (by kernel_rfl) hL
                    have hb := hC.1 h22
                    exact TL.Does.load rfl ((hdep 10 (by kernel_rfl)).2 h22) (ld_series _ _ _ _ _ W ((hb.cell (p := ⟨X, 1, none⟩) (heap_lt HOc.out.box)).trans (zcell' _ _ _ _ HOc.out.box 1 _ rfl))) ⟨⟨fun _ => hb, fun e => (by have e' : L 22 = true := e; rw [h22] at e'; cases e')⟩, fun _ => rfl, fun j hj _ ht => ht.below id id rfl (Below.refl _ _)⟩
                  · intro L a W hL hbeh hcl hlike hC hdep
                    have h22 : L 22 = false := TL.undone hcl 12 22 12 (by kernel_rfl) hL
                    have hb := hC.1 h22
                    exact TL.Does.move (u := .int .i64 pp) rfl (hlike.keeps 12 (by kernel_rfl)) ⟨⟨fun _ => hb, fun e => (by have e' : L 22 = true := e; rw [h22] at e'; cases e')⟩, fun _ => rfl, fun j hj _ ht => ht.below id id rfl (Below.refl _ _)⟩
                  · intro L a W hL hbeh hcl hlike hC hdep
                    have h22 : L 22 = false := TL.undone hcl 12 22 13 (by kernel_rfl) hL
                    have hb := hC.1 h22
                    exact TL.Does.index rfl ((hdep 11 (by kernel_rfl)).2 h22) ((hdep 12 (by kernel_rfl)).2 h22) (ix_series g pp Sj.length vc W hpl (by omega)) ⟨⟨fun _ => hb, fun e => (by have e' : L 22 = true := e; rw [h22] at e'; cases e')⟩, fun _ => rfl, fun j hj _ ht => ht.below id id rfl (Below.refl _ _)⟩
                  · intro L a W hL hbeh hcl hlike hC hdep
                    have h22 : L 22 = false := TL.undone hcl 12 22 14 (by kernel_rfl) hL
                    have hb := hC.1 h22
                    exact TL.Does.field rfl ((hdep 13 (by kernel_rfl)).2 h22) (fa1_series W g (pp * 2)) ⟨⟨fun _ => hb, fun e => (by have e' : L 22 = true := e; rw [h22] at e'; cases e')⟩, fun _ => rfl, fun j hj _ ht => ht.below id id rfl (Below.refl _ _)⟩
                  · intro L a W hL hbeh hcl hlike hC hdep
                    have h22 : L 22 = false := TL.undone hcl 12 22 15 (by kernel_rfl) hL
                    have hb := hC.1 h22
                    exact TL.Does.load rfl ((hdep 14 (by kernel_rfl)).2 h22) (ld_samples _ _ _ _ _ W ((hb.cell (p := ⟨g, pp * 2 + 1, none⟩) hgs).trans HCx.out.2)) ⟨⟨fun _ => hb, fun e => (by have e' : L 22 = true := e; rw [h22] at e'; cases e')⟩, fun _ => rfl, fun j hj _ ht => ht.below id id rfl (Below.refl _ _)⟩
                  · intro L a W hL hbeh hcl hlike hC hdep
                    have h22 : L 22 = false := TL.undone hcl 12 22 16 (by kernel_rfl) hL
                    have hb := hC.1 h22
                    obtain ⟨b, e9, hgb, hg9⟩ := ((hdep 9 (by kernel_rfl)).2 h22) hL
                    obtain ⟨v', W', hr, hown, hb2⟩ := fresh_s W wc.heap.size b so2 (atSr Sj pp).2 sc2 hg9 hgb (HS2.out.below hb) (by omega) hb.size
                    exact TL.Does.append rfl e9 ((hdep 15 (by kernel_rfl)).2 h22) hr ⟨⟨fun _ => bel2 hb hb2, fun e => (by have e' : L 22 = true := e; rw [h22] at e'; cases e')⟩, fun _ _ => hown, fun j hj _ ht => T29.below (L := L) (L' := TL.upd L 16) (fun e => (by simp [TL.upd] at e)) id rfl hb2 ht⟩
                  · intro L a W hL hbeh hcl hlike hC hdep
                    have h22 : L 22 = false := TL.undone hcl 12 22 17 (by kernel_rfl) hL
                    have hb := hC.1 h22
                    exact TL.Does.field rfl (hlike.keeps 11 (by kernel_rfl)) (fa1_series W _ _) ⟨⟨fun _ => hb, fun e => (by have e' : L 22 = true := e; rw [h22] at e'; cases e')⟩, fun _ => rfl, fun j hj _ ht => ht.below id id rfl (Below.refl _ _)⟩
                  · intro L a W hL hbeh hcl hlike hC hdep
                    have h22 : L 22 = false := TL.undone hcl 12 22 18 (by kernel_rfl) hL
                    have hb := hC.1 h22
                    exact TL.Does.load rfl ((hdep 17 (by kernel_rfl)).2 h22) (ld_samples _ _ _ _ _ W ((hb.cell (p := ⟨wr.heap.size, 1, none⟩) (heap_lt HBc.out)).trans (zcell' _ _ _ _ HBc.out 1 _ rfl))) ⟨⟨fun _ => hb, fun e => (by have e' : L 22 = true := e; rw [h22] at e'; cases e')⟩, fun _ => rfl, fun j hj _ ht => ht.below id id rfl (Below.refl _ _)⟩
                  · intro L a W hL hbeh hcl hlike hC hdep
                    have h22 : L 22 = false := TL.undone hcl 12 22 19 (by kernel_rfl) hL
                    have hb := hC.1 h22
                    have o16 := ((hdep 16 (by kernel_rfl)).2 h22) hL
                    obtain ⟨ua, uc, e16⟩ := own_slice o16
                    have e16' : a.eval (.tmp 168) = .slice ua (atSr Sj pp).2.length uc := e16
                    rw [e16] at o16
                    obtain ⟨si, hsi, hsz, hss, hsb⟩ := sm_info
                    obtain ⟨v', W', hr, hown, _, hgr, _⟩ := append_both (P := Tryz.prog) W wc.heap.size 53 53 52 si _ 2 16 Tryz.uSms hsi hsz hss hsb rfl (by omega) (.slice ua (atSr Sj pp).2.length uc) (atSr Sj pp).2.length (sv (atSr Sj pp).2) o16 ⟨b1, off1, none⟩ x.2.length sc1 (sv x.2) hpos (sv_length x.2) (smp_cells (HSO.out.1.below (bel2 HOc.out.ain.bel hb)) _ rfl) (sv_one x.2) (by unfold maxLen; omega) (by omega) hb.size
                    have hb2 : Below wc.heap.size wc W' := hb.grown hgr hb.size (fun k hk => (o16.lt k hk).1)
                    have h16 : L 16 = true := (hdep 16 (by kernel_rfl)).1
                    have h20 := hbeh 20 _ rfl (by kernel_rfl)
                    exact TL.Does.append rfl e16' ((hdep 18 (by kernel_rfl)).2 h22) hr ⟨⟨fun _ => hb2, fun e => (by have e' : L 22 = true := e; rw [h22] at e'; cases e')⟩, fun _ => (by show World.ownsRow _ _ _ _ _ _ _; rw [List.length_append, sv_append]; exact hown), fun j hj hLj ht => T29.grown (L' := TL.upd L 19) h16 (by simp [TL.upd]) h20 rfl hj hLj ht⟩
                  · intro L a W hL hbeh hcl hlike hC hdep
                    have h22 : L 22 = false := TL.undone hcl 12 22 20 (by kernel_rfl) hL
                    have hb := hC.1 h22
                    have o19 := ((hdep 19 (by kernel_rfl)).2 h22)
                    obtain ⟨ua, uc, e19⟩ := own_slice o19
                    have e8 := ((hdep 8 (by kernel_rfl)).2 h22)
                    have e19' : a.eval (.tmp 171) = .slice ua ((atSr Sj pp).2 ++ x.2).length uc := e19
                    have e8' : a.eval (.tmp 160) = .slice lo2 (atSr Sj pp).1.length lc2 := e8
                    refine TL.Does.build rfl (ps := #[(0, .slice lo2 (atSr Sj pp).1.length lc2), (1, .slice ua ((atSr Sj pp).2 ++ x.2).length uc)]) (by simp [e8', e19']) (bd_series W _ _ _ _ _ _) ⟨⟨fun _ => hb, fun e => (by have e' : L 22 = true := e; rw [h22] at e'; cases e')⟩, fun _ => ⟨_, rfl, ?_⟩, fun j hj _ ht => ht.below id id rfl (Below.refl _ _)⟩
                    rw [e19] at o19; exact o19
                  · intro L a W hL hbeh hcl hlike hC hdep
                    have h22 : L 22 = false := TL.undone hcl 12 22 21 (by kernel_rfl) hL
                    have hb := hC.1 h22
                    exact TL.Does.index rfl ((hdep 1 (by kernel_rfl)).2 h22) ((hdep 2 (by kernel_rfl)).2 h22) (ix_series g pp Sj.length vc W hpl (by omega)) ⟨⟨fun _ => hb, fun e => (by have e' : L 22 = true := e; rw [h22] at e'; cases e')⟩, fun _ => rfl, fun j hj _ ht => ht.below id id rfl (Below.refl _ _)⟩
                  · intro L a W hL hbeh hcl hlike hC hdep
                    have h22 : L 22 = false := hL
                    have hb := hC.1 h22
                    obtain ⟨u, e20, o20⟩ := ((hdep 20 (by kernel_rfl)).2 h22)
                    obtain ⟨ua, uc, rfl⟩ := own_slice o20
                    have hrow := HOc.out.row.below hb
                    have hgW := (hb.block g hgs).trans HGc.out
                    obtain ⟨hRB, kf⟩ := hrow.put (k := pp) hpl (a := .slice lo2 (atSr Sj pp).1.length lc2) (b := .slice ua ((atSr Sj pp).2 ++ x.2).length uc) (y := ((atSr Sj pp).1, (atSr Sj pp).2 ++ x.2)) (by rw [← HE1.out]; exact hrow.labs pp hpl) (.inr (row_low o20 HOc.out.ain.bel.size))
                    have hO : AOut w ((W.setCell ⟨g, pp * 2, none⟩ (.slice lo2 (atSr Sj pp).1.length lc2)).setCell ⟨g, pp * 2 + 1, none⟩ (.slice ua ((atSr Sj pp).2 ++ x.2).length uc)) Z m (.slice ao S.length cap) X (.slice (some ⟨g, 0, none⟩) Sj.length vc) (ys.set pp (.slice lo2 (atSr Sj pp).1.length lc2, .slice ua ((atSr Sj pp).2 ++ x.2).length uc)) (HD.nxt Sj x) := by
                      rw [HNx.out]
                      exact ⟨(HOc.out.ain.below hb).kind kf hRB.bel, HOc.out.far, kf _ _ _ ((hb.block _ (heap_lt HOc.out.box)).trans HOc.out.box) (by decide), hRB⟩
                    exact TL.Does.store rfl ((hdep 21 (by kernel_rfl)).2 h22) e20 (st_ser g (pp * 2) _ _ _ _ _ _ _ _ W ((hb.cell (p := ⟨g, pp * 2, none⟩) hgs).trans HCx.out.1) ((hb.cell (p := ⟨g, pp * 2 + 1, none⟩) hgs).trans HCx.out.2) (hfz hgW _) (hfz hgW _)) ⟨⟨fun e => (by simp [TL.upd] at e), fun _ => ⟨_, hO⟩⟩, fun _ => trivial, fun j hj _ _ e => (by simp [TL.upd] at e)⟩
                  · intro L f W hL hC hT
                    have HOn := hid (hC.2 (hL 22 (by decide)))
                    clear hT hL hC HOc HBc HNx HCx HS2 HE1 HGc
                    simp only [TL.puts]
                    go_frame
                    generalize f 152 = g152
                    generalize f 153 = g153
                    generalize f 154 = g154
                    generalize f 155 = g155
                    generalize f 156 = g156
                    generalize f 157 = g157
                    generalize f 158 = g158
                    generalize f 159 = g159
                    generalize f 160 = g160
                    generalize f 161 = g161
                    generalize f 162 = g162
                    generalize f 163 = g163
                    generalize f 164 = g164
                    generalize f 165 = g165
                    generalize f 166 = g166
                    generalize f 167 = g167
                    generalize f 168 = g168
                    generalize f 169 = g169
                    generalize f 170 = g170
                    generalize f 171 = g171
                    generalize f 172 = g172
                    generalize f 173 = g173
                    go_wp2_with fail
                    go_roundw
                    case rel =>
                      obtain ⟨zs2, hO2⟩ := HOn.out
                      exact ⟨i + 1, by omega, by go_num, HD.nxt Sj x, _, zs2, hO2, HD.nxt_good HGj.out HEn.out HRx.out, by rw [HRun.out, HRn.out, if_pos HEn.out]⟩
                    case measure => simp [intOf]; omega
                · have hkn : kk = -1 := by rw [← HKk.out]; unfold fnd; rw [if_neg (by rw [hth]; decide)]
                  subst hkn
                  have HNx : Hid (HD.nxt Sj x = Sj.insertIdx (HD.pos Sj x.1) x) := by
                    show _ = _
                    unfold HD.nxt
                    rw [if_neg (by rw [hth]; decide)]
                  have HTh := hid hth
                  clear hth HKk
                  go_upto_region 28 with fail
                  refine TL.wp_told [137, 138, 139, 140, 141, 142, 143, 144, 145, 146, 147, 148, 149, 150, 151] (fun L W => AIn w W m (.slice ao S.length cap) ∧ (L 12 = false → W.heap[wr.heap.size]? = some (.cells #[.slice lo1 x.1.length lc1, .slice so1 x.2.length sc1] 55) ∧ RB w W Z (.slice vo Sj.length vc) ys Sj) ∧ ∃ y, W.heap[X]? = some (.cells #[.int .i64 m, y] 45) ∧ (L 15 = false → y = .slice vo Sj.length vc))
                    (T28 w Z m X wr.heap.size (.slice vo Sj.length vc) (.slice lo1 x.1.length lc1) (.slice so1 x.2.length sc1) Sj x) rfl (by kernel_rfl) (by kernel_rfl) 177 rfl (by kernel_rfl) ?_ (TL.ix_cons ?_ (TL.ix_cons ?_ (TL.ix_cons ?_ (TL.ix_cons ?_ (TL.ix_cons ?_ (TL.ix_cons ?_ (TL.ix_cons ?_ (TL.ix_cons ?_ (TL.ix_cons ?_ (TL.ix_cons ?_ (TL.ix_cons ?_ (TL.ix_cons ?_ (TL.ix_cons ?_ (TL.ix_cons ?_ (TL.ix_cons ?_ (TL.ix_cons ?_ TL.ix_nil)))))))))))))))) ?_
                  · exact ⟨HOc.out.ain.below (Below.refl _ wc).drew, fun _ => ⟨HBc.out, HOc.out.row.below (Below.refl _ wc).drew⟩, ⟨_, HOc.out.box, fun _ => rfl⟩⟩
                  · intro L a W hL hbeh hcl hlike hC hdep
                    exact TL.Does.field rfl (hlike.keeps 9 (by kernel_rfl)) (fa1_head W _) ⟨hC, rfl, fun j hj _ ht => ht.below rfl rfl rfl (Below.refl _ _)⟩
                  · intro L a W hL hbeh hcl hlike hC hdep
                    obtain ⟨k1, k2, y, k3, k4⟩ := hC
                    have h12 := hbeh 12 _ rfl (by kernel_rfl)
                    have h15 := hbeh 15 _ rfl (by kernel_rfl)
                    obtain rfl := k4 h15
                    exact TL.Does.load rfl (hdep 0 (by kernel_rfl)).2 (ld_series _ _ _ _ _ W (zcell' _ _ _ _ k3 1 _ rfl)) ⟨⟨k1, k2, _, k3, k4⟩, rfl, fun j hj _ ht => ht.below rfl rfl rfl (Below.refl _ _)⟩
                  · intro L a W hL hbeh hcl hlike hC hdep
                    obtain ⟨k1, k2, y, k3, k4⟩ := hC
                    have hb : Below W.heap.size W (W.alloc (.cells #[] 49)) := (Below.refl _ W).alloc (Nat.le_refl _) _
                    exact TL.Does.bslice rfl (ps := #[]) (by simp) (bs_labels W) ⟨⟨k1.below hb, fun e => ⟨(hb.block _ (heap_lt (k2 e).1)).trans (k2 e).1, (k2 e).2.below hb⟩, y, (hb.block _ (heap_lt k3)).trans k3, k4⟩, ⟨W.heap.size, rfl, k1.bel.size, heap_alloc_new W _⟩, fun j hj _ ht => ht.below rfl rfl rfl hb⟩
                  · intro L a W hL hbeh hcl hlike hC hdep
                    exact TL.Does.field rfl (hlike.keeps 11 (by kernel_rfl)) (fa0_series W _ _) ⟨hC, rfl, fun j hj _ ht => ht.below rfl rfl rfl (Below.refl _ _)⟩
                  · intro L a W hL hbeh hcl hlike hC hdep
                    obtain ⟨k1, k2, y, k3, k4⟩ := hC
                    have h12 : L 12 = false := by
                      rcases hq : L 12 with _ | _
                      · rfl
                      · have q := hcl 5 _ rfl (hcl 10 _ rfl (hcl 11 _ rfl (hcl 12 _ rfl hq 11 (by kernel_rfl)) 10 (by kernel_rfl)) 5 (by kernel_rfl)) 4 (by kernel_rfl)
                        have q' : L 4 = false := hL
                        rw [q'] at q
                        cases q
                    have hb := Below.refl W.heap.size W
                    exact TL.Does.load rfl (hdep 3 (by kernel_rfl)).2 (ld_labels _ _ _ _ _ W (zcell' _ _ _ _ (k2 h12).1 0 _ rfl)) ⟨⟨k1.below hb, fun e => ⟨(hb.block _ (heap_lt (k2 e).1)).trans (k2 e).1, (k2 e).2.below hb⟩, y, (hb.block _ (heap_lt k3)).trans k3, k4⟩, rfl, fun j hj _ ht => ht.below rfl rfl rfl hb⟩
                  · intro L a W hL hbeh hcl hlike hC hdep
                    obtain ⟨k1, k2, y, k3, k4⟩ := hC
                    obtain ⟨g, e2, hgb, hg⟩ := (hdep 2 (by kernel_rfl)).2
                    obtain ⟨v', W', hr, hown, hb⟩ := fresh_l W w.heap.size g lo1 x.1 lc1 hg hgb (HLO.out.1.below k1.bel) (by omega) k1.bel.size
                    exact TL.Does.append rfl e2 (hdep 4 (by kernel_rfl)).2 hr ⟨⟨k1.below hb, fun e => ⟨(hb.block _ (heap_lt (k2 e).1)).trans (k2 e).1, (k2 e).2.below hb⟩, y, (hb.block _ (heap_lt k3)).trans k3, k4⟩, hown, fun j hj _ ht => ht.below rfl rfl rfl hb⟩
                  · intro L a W hL hbeh hcl hlike hC hdep
                    obtain ⟨k1, k2, y, k3, k4⟩ := hC
                    have hb : Below W.heap.size W (W.alloc (.cells #[] 52)) := (Below.refl _ W).alloc (Nat.le_refl _) _
                    exact TL.Does.bslice rfl (ps := #[]) (by simp) (bs_samples W) ⟨⟨k1.below hb, fun e => ⟨(hb.block _ (heap_lt (k2 e).1)).trans (k2 e).1, (k2 e).2.below hb⟩, y, (hb.block _ (heap_lt k3)).trans k3, k4⟩, ⟨W.heap.size, rfl, k1.bel.size, heap_alloc_new W _⟩, fun j hj _ ht => ht.below rfl rfl rfl hb⟩
                  · intro L a W hL hbeh hcl hlike hC hdep
                    exact TL.Does.field rfl (hlike.keeps 11 (by kernel_rfl)) (fa1_series W _ _) ⟨hC, rfl, fun j hj _ ht => ht.below rfl rfl rfl (Below.refl _ _)⟩
                  · intro L a W hL hbeh hcl hlike hC hdep
                    obtain ⟨k1, k2, y, k3, k4⟩ := hC
                    have h12 : L 12 = false := by
                      rcases hq : L 12 with _ | _
                      · rfl
                      · have q := hcl 9 _ rfl (hcl 10 _ rfl (hcl 11 _ rfl (hcl 12 _ rfl hq 11 (by kernel_rfl)) 10 (by kernel_rfl)) 9 (by kernel_rfl)) 8 (by kernel_rfl)
                        have q' : L 8 = false := hL
                        rw [q'] at q
                        cases q
                    have hb := Below.refl W.heap.size W
                    exact TL.Does.load rfl (hdep 7 (by kernel_rfl)).2 (ld_samples _ _ _ _ _ W (zcell' _ _ _ _ (k2 h12).1 1 _ rfl)) ⟨⟨k1.below hb, fun e => ⟨(hb.block _ (heap_lt (k2 e).1)).trans (k2 e).1, (k2 e).2.below hb⟩, y, (hb.block _ (heap_lt k3)).trans k3, k4⟩, rfl, fun j hj _ ht => ht.below rfl rfl rfl hb⟩
                  · intro L a W hL hbeh hcl hlike hC hdep
                    obtain ⟨k1, k2, y, k3, k4⟩ := hC
                    obtain ⟨g, e2, hgb, hg⟩ := (hdep 6 (by kernel_rfl)).2
                    obtain ⟨v', W', hr, hown, hb⟩ := fresh_s W w.heap.size g so1 x.2 sc1 hg hgb (HSO.out.1.below k1.bel) (by omega) k1.bel.size
                    exact TL.Does.append rfl e2 (hdep 8 (by kernel_rfl)).2 hr ⟨⟨k1.below hb, fun e => ⟨(hb.block _ (heap_lt (k2 e).1)).trans (k2 e).1, (k2 e).2.below hb⟩, y, (hb.block _ (heap_lt k3)).trans k3, k4⟩, hown, fun j hj _ ht => ht.below rfl rfl rfl hb⟩
                  · intro L a W hL hbeh hcl hlike hC hdep
                    obtain ⟨k1, k2, y, k3, k4⟩ := hC
                    have o5 := (hdep 5 (by kernel_rfl)).2
                    have o9 := (hdep 9 (by kernel_rfl)).2
                    obtain ⟨ua, uc, e5⟩ := own_slice o5
                    obtain ⟨va, vc', e9⟩ := own_slice o9
                    have e5' : a.eval (.tmp 142) = .slice ua x.1.length uc := e5
                    have e9' : a.eval (.tmp 146) = .slice va x.2.length vc' := e9
                    have hb := Below.refl W.heap.size W
                    refine TL.Does.build rfl (ps := #[(0, .slice ua x.1.length uc), (1, .slice va x.2.length vc')]) (by simp [e5', e9']) (bd_series W _ _ _ _ _ _) ⟨⟨k1.below hb, fun e => ⟨(hb.block _ (heap_lt (k2 e).1)).trans (k2 e).1, (k2 e).2.below hb⟩, y, (hb.block _ (heap_lt k3)).trans k3, k4⟩, ⟨_, _, rfl, ?_, ?_⟩, fun j hj _ ht => ht.below rfl rfl rfl hb⟩
                    · rw [e5] at o5; exact o5
                    · rw [e9] at o9; exact o9
                  · intro L a W hL hbeh hcl hlike hC hdep
                    obtain ⟨k1, k2, y, k3, k4⟩ := hC
                    obtain ⟨ua, ub, e10, o5, o9⟩ := (hdep 10 (by kernel_rfl)).2
                    obtain ⟨xa, xc, rfl⟩ := own_slice o5
                    obtain ⟨za, zc, rfl⟩ := own_slice o9
                    have e10' : a.eval (.tmp 147) = .agg #[.slice xa x.1.length xc, .slice za x.2.length zc] := e10
                    have hb : Below W.heap.size W (W.alloc (.cells #[.slice xa x.1.length xc, .slice za x.2.length zc] 55)) := (Below.refl _ W).alloc (Nat.le_refl _) _
                    exact TL.Does.bslice rfl (ps := #[(0, .agg #[.slice xa x.1.length xc, .slice za x.2.length zc])]) (by simp [e10']) (bs_one W _ _ _ _ _ _) ⟨⟨k1.below hb, fun e => ⟨(hb.block _ (heap_lt (k2 e).1)).trans (k2 e).1, (k2 e).2.below hb⟩, y, (hb.block _ (heap_lt k3)).trans k3, k4⟩, fun _ => ⟨W.heap.size, _, _, rfl, heap_alloc_new W _, row_kept o5 fun g _ hg => hb.block g (heap_lt hg), row_kept o9 fun g _ hg => hb.block g (heap_lt hg)⟩, fun j hj _ ht => ht.below rfl rfl rfl hb⟩
                  · intro L a W hL hbeh hcl hlike hC hdep
                    obtain ⟨k1, k2, y, k3, k4⟩ := hC
                    obtain ⟨kb, kr⟩ := k2 hL
                    obtain ⟨g, ua, ub, e11, hg, o5, o9⟩ := (hdep 11 (by kernel_rfl)).2 hL
                    obtain ⟨xa, xc, e5⟩ := own_slice o5
                    obtain ⟨za, zc, e9⟩ := own_slice o9
                    have hjn := HGj.out.few
                    obtain ⟨v', W', hr, hown, hgr, _⟩ := app_ser W w.heap.size g _ ua ub Sj.length _ hg (by rw [e5]; rfl) (by rw [e9]; rfl) kr.row (by omega) k1.bel.size
                    have kf := KFr.grown kr.row hgr
                    have hRB := kr.push (x := x) (.inr o5) (.inr o9) hown hgr
                    have h13 := hbeh 13 _ rfl (by kernel_rfl)
                    exact TL.Does.append rfl (hdep 1 (by kernel_rfl)).2 e11 hr ⟨⟨k1.kind kf hRB.bel, fun e => (by simp [TL.upd] at e), y, kf _ _ _ k3 (by decide), k4⟩, fun _ => ⟨_, hRB⟩, fun j hj hLj ht => T28.kind (L' := TL.upd L 12) kf (by decide) (by decide) (by simp [TL.upd]) (fun e => by rw [e, h13] at hLj; cases hLj) (fun e => absurd e hj) ht⟩
                  · intro L a W hL hbeh hcl hlike hC hdep
                    obtain ⟨k1, k2, y, k3, k4⟩ := hC
                    obtain ⟨hL12, ht12⟩ := hdep 12 (by kernel_rfl)
                    obtain ⟨zs, hRB⟩ := ht12 hL
                    have h15 := hbeh 15 _ rfl (by kernel_rfl)
                    have hjn := HGj.out.few
                    refine TL.Does.call (f := 51) (args := #[a.eval (.tmp 149)]) (by kernel_rfl) ((sorted_any w Z _ zs Sj x W hRB HGj.out.ord HTh.out (fun k hk => ?_) (by omega)).mono ?_)
                    · rw [atSr_snoc Sj x k hk]
                      by_cases hkl : k < Sj.length
                      · rw [if_pos hkl]
                        have := right_len (HGj.out.ok _ (HD.at_mem Sj k hkl)).1
                        omega
                      · rw [if_neg hkl]; exact hl1
                    · rintro e W' ⟨rfl, ⟨zs', hRB'⟩, hfr⟩
                      have kf := KFr.sfr hRB.row hfr
                      exact ⟨_, rfl, ⟨k1.kind kf hRB'.bel, fun e => (by have e' : L 12 = false := e; rw [hL12] at e'; cases e'), y, kf _ _ _ k3 (by decide), k4⟩, ⟨⟨zs', hRB'⟩, fun e => (by have e' : L 15 = true := e; rw [h15] at e'; cases e')⟩, fun j hj hLj ht => T28.kind (L' := TL.upd L 13) kf (by decide) (by decide) hL12 hj (fun _ => by simp [TL.upd]) ht⟩
                  · intro L a W hL hbeh hcl hlike hC hdep
                    exact TL.Does.field rfl (hlike.keeps 9 (by kernel_rfl)) (fa1_head W _) ⟨hC, rfl, fun j hj _ ht => ht.below rfl rfl rfl (Below.refl _ _)⟩
                  · intro L a W hL hbeh hcl hlike hC hdep
                    obtain ⟨k1, k2, y, k3, k4⟩ := hC
                    obtain ⟨hL13, ⟨zs, hRB⟩, _⟩ := hdep 13 (by kernel_rfl)
                    have e14 := (hdep 14 (by kernel_rfl)).2
                    have hL12 : L 12 = true := hcl 13 _ rfl hL13 12 (by kernel_rfl)
                    obtain ⟨ua, uc, e13⟩ := own_slice hRB.row
                    have e13' : a.eval (.tmp 150) = .slice ua (Sj.insertIdx (HD.pos Sj x.1) x).length uc := e13
                    have hfar := HOc.out.far
                    have kf := KFr.set k3 1 (.slice ua (Sj.insertIdx (HD.pos Sj x.1) x).length uc)
                    refine TL.Does.store rfl e14 e13' (st_series X 1 y ua _ uc W (zcell' _ _ _ _ k3 1 _ rfl) (hfz k3 1)) ⟨⟨k1.set1 hfar 1 _, fun e => (by have e' : L 12 = false := e; rw [hL12] at e'; cases e'), _, heap_setCell_same _ _ 1 _ _ _ k3, fun e => (by simp [TL.upd] at e)⟩, trivial, fun j hj hLj ht => ?_⟩
                    by_cases h13 : j = 13
                    · subst h13
                      refine ⟨⟨zs, hRB.setH k3 (by omega) 1 _⟩, fun _ => ?_⟩
                      rw [e13]
                      exact heap_setCell_same _ _ 1 _ _ _ k3
                    · exact T28.kind (L' := TL.upd L 15) kf (by decide) (by decide) hL12 h13 (fun _ => hL13) ht
                  · intro L f W hL hC hT
                    obtain ⟨k1, k2, y, k3, k4⟩ := hC
                    obtain ⟨⟨zs, hRB⟩, hbx⟩ := hT 13 (by decide)
                    have HOn := hid (show ∃ v zs, AOut w W Z m (.slice ao S.length cap) X v zs (HD.nxt Sj x) from ⟨_, zs, by rw [HNx.out]; exact AOut.mk k1 HOc.out.far (hbx (hL 15 (by decide))) hRB⟩)
                    clear hT hL k1 k2 k3 k4 hRB hbx HOc HBc HNx HTh
                    simp only [TL.puts]
                    go_frame
                    generalize f 137 = f37
                    generalize f 138 = f38
                    generalize f 139 = f39
                    generalize f 140 = f40
                    generalize f 141 = f41
                    generalize f 142 = f42
                    generalize f 143 = f43
                    generalize f 144 = f44
                    generalize f 145 = f45
                    generalize f 146 = f46
                    generalize f 147 = f47
                    generalize f 148 = f48
                    generalize f 149 = f49
                    generalize f 150 = f50
                    generalize f 151 = f51
                    go_wp2_with fail
                    go_roundw
                    case rel =>
                      obtain ⟨v2, zs2, hO2⟩ := HOn.out
                      exact ⟨i + 1, by omega, by go_num, HD.nxt Sj x, v2, zs2, hO2, HD.nxt_good HGj.out HEn.out HRx.out, by rw [HRun.out, HRn.out, if_pos HEn.out]⟩
                    case measure => simp [intOf]; omega
              · have HApp : Hid (HD.app m S l = ((en, (i : Int)), S)) := by
                  show _ = _
                  unfold HD.app
                  rw [if_neg (by omega), HRun.out, HRn.out, if_neg (by rw [HEn.out]; exact herr), HEn.out]
                have m0 : wc.cell? ⟨w.heap.size, 0, none⟩ = some (.int .i64 m) := zcell' _ _ _ _ HOc.out.ain.h2 0 _ rfl
                have m1 : wc.cell? ⟨w.heap.size, 1, none⟩ = some (.slice ao S.length cap) := zcell' _ _ _ _ HOc.out.ain.h2 1 _ rfl
                have a0 : wc.cell? ⟨w.heap.size + 1, 0, none⟩ = some (.int .i64 0) := zcell' _ _ _ _ HOc.out.ain.r1 0 _ rfl
                have a1 : wc.cell? ⟨w.heap.size + 1, 1, none⟩ = some (.slice none 0 0) := zcell' _ _ _ _ HOc.out.ain.r1 1 _ rfl
                have b0 : wc.cell? ⟨w.heap.size + 1 + 1, 0, none⟩ = some (.int .i64 0) := zcell' _ _ _ _ HOc.out.ain.r2 0 _ rfl
                have b1 : wc.cell? ⟨w.heap.size + 1 + 1, 1, none⟩ = some (.int .i64 0) := zcell' _ _ _ _ HOc.out.ain.r2 1 _ rfl
                have fa0 := hfz HOc.out.ain.r1 0
                have fa1 := hfz HOc.out.ain.r1 1
                have fb0 := hfz HOc.out.ain.r2 0
                have fb1 := hfz HOc.out.ain.r2 1
                go_wp2_with fail
                refine bodyPost_ret (results_cells (P := Tryz.prog) rfl _ _ (w.heap.size + 1) (w.heap.size + 1 + 1) 45 26 _ _ (0, 0) (0, 0) _ _ rfl ((set_two_ne (by omega)).trans (set_two HOc.out.ain.r1)) Tryz.underlying45 rfl (by kernel_rfl) rfl (set_two ((set_two_ne (by omega)).trans HOc.out.ain.r2)) Tryz.underlying26 rfl (by kernel_rfl)) rfl ?_
                have hbl := (((HOc.out.ain.bel.setCell (p := ⟨w.heap.size + 1, 0, none⟩) (by show w.heap.size ≤ w.heap.size + 1; omega) (.int .i64 m)).setCell (p := ⟨w.heap.size + 1, 1, none⟩) (by show w.heap.size ≤ w.heap.size + 1; omega) (.slice ao S.length cap)).setCell (p := ⟨w.heap.size + 1 + 1, 0, none⟩) (by show w.heap.size ≤ w.heap.size + 1 + 1; omega) (.int .i64 en)).setCell (p := ⟨w.heap.size + 1 + 1, 1, none⟩) (by show w.heap.size ≤ w.heap.size + 1 + 1; omega) (.int .i64 (i : Int))
                exact ⟨ao, cap, by rw [HApp.out], by rw [HApp.out]; exact SrOut.kept HS.out (ZFr.below hbl), hbl⟩
          · have he : i = l.length := by omega
            subst he
            have HApp : Hid (HD.app m S l = ((0, -1), Sj)) := by
              show _ = _
              unfold HD.app
              rw [if_neg (by omega), HRun.out, List.drop_of_length_le (Nat.le_refl _)]
              rfl
            go_upto_region 31 with fail
            obtain ⟨vo, vc, rfl⟩ := own_slice HO.out.row.row
            refine TL.wp_told [175, 176] (fun L W => RB w W Z (.slice vo Sj.length vc) ys Sj ∧ W.heap[X]? = some (.cells #[.int .i64 m, .slice vo Sj.length vc] 45) ∧ (∃ x y, W.heap[w.heap.size + 1]? = some (.cells #[x, y] 45) ∧ (L 2 = true → x = .int .i64 m ∧ y = .slice vo Sj.length vc)) ∧ (∃ x y, W.heap[w.heap.size + 1 + 1]? = some (.cells #[x, y] 26) ∧ (L 3 = true → x = .int .i64 0 ∧ y = .int .i64 (-1))))
              (fun L i W v => match i with | 0 => v = .agg #[.int .i64 m, .slice vo Sj.length vc] | 1 => v = .agg #[.int .i64 0, .int .i64 (-1)] | _ => True) rfl (by kernel_rfl) (by kernel_rfl) 177 rfl (by kernel_rfl) ?_ (TL.ix_cons ?_ (TL.ix_cons ?_ (TL.ix_cons ?_ (TL.ix_cons ?_ TL.ix_nil)))) ?_
            · exact ⟨HO.out.row.below (Below.refl _ wr).drew, HO.out.box, ⟨_, _, HO.out.ain.r1, fun h => by cases h⟩, ⟨_, _, HO.out.ain.r2, fun h => by cases h⟩⟩
            · intro L a W hL hbeh hcl hlike hC hdep
              obtain ⟨k1, k2, k3, k4⟩ := hC
              exact TL.Does.load rfl (hlike.keeps 9 (by kernel_rfl)) (ld_head _ _ _ rfl rfl W k2) ⟨⟨k1, k2, k3, k4⟩, rfl, fun j hj _ ht => ht⟩
            · intro L a W hL hbeh hcl hlike hC hdep
              obtain ⟨k1, k2, k3, k4⟩ := hC
              have hg := World.block_lt_of_cell? _ _ HF.out.1
              exact TL.Does.load rfl rfl (ld_fine _ 0 (-1) W ((k1.bel.cell (p := ⟨0, 0, none⟩) hg).trans HF.out.1) ((k1.bel.cell (p := ⟨0, 1, none⟩) hg).trans HF.out.2)) ⟨⟨k1, k2, k3, k4⟩, rfl, fun j hj _ ht => ht⟩
            · intro L a W hL hbeh hcl hlike hC hdep
              obtain ⟨k1, k2, ⟨x3, y3, k3, q3⟩, ⟨x4, y4, k4, q4⟩⟩ := hC
              have h0 := (hdep 0 (by kernel_rfl)).2
              have hfar := HO.out.far
              exact TL.Does.store rfl (hlike.keeps 4 (by kernel_rfl)) h0 (st_head _ _ _ _ _ _ _ W k3) ⟨⟨k1.set2 k3 (by omega) _ _, (set_two_ne (by omega)).trans k2, ⟨_, _, set_two k3, fun _ => ⟨rfl, rfl⟩⟩, ⟨x4, y4, (set_two_ne (by omega)).trans k4, q4⟩⟩, trivial, fun j hj _ ht => ht⟩
            · intro L a W hL hbeh hcl hlike hC hdep
              obtain ⟨k1, k2, ⟨x3, y3, k3, q3⟩, ⟨x4, y4, k4, q4⟩⟩ := hC
              have h0 := (hdep 1 (by kernel_rfl)).2
              have hfar := HO.out.far
              exact TL.Does.store rfl (hlike.keeps 5 (by kernel_rfl)) h0 (st_fault _ _ _ _ _ W k4) ⟨⟨k1.setF2 k4 (by omega) _ _, (set_two_ne (by omega)).trans k2, ⟨x3, y3, (set_two_ne (by omega)).trans k3, q3⟩, ⟨_, _, set_two k4, fun _ => ⟨rfl, rfl⟩⟩⟩, trivial, fun j hj _ ht => ht⟩
            · intro L f W hL hC hT
              obtain ⟨k1, k2, ⟨x3, y3, k3, q3⟩, ⟨x4, y4, k4, q4⟩⟩ := hC
              obtain ⟨rfl, rfl⟩ := q3 (hL 2 (by decide))
              obtain ⟨rfl, rfl⟩ := q4 (hL 3 (by decide))
              clear hT hL
              simp only [TL.puts]
              go_frame
              have HK := hid (And.intro k1 (And.intro k3 k4))
              clear k1 k2 k3 k4 q3 q4
              go_wp2_with fail
              refine bodyPost_ret (results_cells (P := Tryz.prog) rfl _ _ (w.heap.size + 1) (w.heap.size + 1 + 1) 45 26 _ _ (0, 0) (0, 0) _ _ rfl HK.out.2.1 Tryz.underlying45 rfl (by kernel_rfl) rfl HK.out.2.2 Tryz.underlying26 rfl (by kernel_rfl)) rfl ?_
              obtain ⟨ao2, cap2, e2, h2⟩ := HK.out.1.out HZ.out
              simp only [Value.slice.injEq, true_and] at e2
              obtain ⟨rfl, rfl⟩ := e2
              exact ⟨vo, vc, by rw [HApp.out], by rw [HApp.out]; exact h2, HK.out.1.bel⟩

end Go.Proofs.YtdmnlmohfaafoadGreatDoor

