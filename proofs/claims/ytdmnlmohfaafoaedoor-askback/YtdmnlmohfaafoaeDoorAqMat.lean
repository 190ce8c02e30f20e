/- The program's parser: matchers, names. -/
import Derived.Test.YtdmnlmohfaafoaeDoorAqSome
namespace Go.Proofs.YtdmnlmohfaafoaeDoor
open Go.RowKit Go.Shelf

theorem asked_one {n v : ByteArray} {o : Int} (hn : LB.name n = true) (ho : 0 ≤ o ∧ o < 4) : LB.asked [⟨n, o, v⟩] = LB.valu v := by
  unfold LB.asked LB.askd
  simp [hn]
  omega

set_option maxRecDepth 100000 in
set_option maxHeartbeats 1600000 in
theorem pmat_any {bt : Nat} (bp : Nat) (l : List AQ.Tok) (w : World) (h : Pr w bp bt l) (hf : AQ.FitL l) :
    Calls Tryd.prog 112 #[.pointer (some ⟨bp, 0, none⟩)] w fun e w' => PEnd VM w w' bp bt e (AQ.matR l) := by
  have hbel : Below w.heap.size w (w.alloc (.cells #[.string ⟨#[]⟩, .int .i64 0, .string ⟨#[]⟩] 93)) := (Below.refl _ w).alloc (Nat.le_refl _) _
  have HP := hid (h.below hbel)
  have HO := hid (Own1.of (br := bp) hbel)
  have HX := hid (heap_alloc_new w (.cells #[.string ⟨#[]⟩, .int .i64 0, .string ⟨#[]⟩] 93))
  have HLow : Hid (bp < w.heap.size ∧ bt < w.heap.size ∧ 12 ≤ w.heap.size) := ⟨h.low.1, h.low.2, h.gl.size⟩
  have HF := hid hf
  clear h hf hbel
  go_enter Tryd.func112, Tryd.ntmps112
  go_wp2_with fail
  generalize w.alloc (.cells #[.string ⟨#[]⟩, .int .i64 0, .string ⟨#[]⟩] 93) = w0 at *
  have hRB : ∀ c p, AQ.matR l = .bad c p → ∀ e w', Thr w w' bp e c p → PEnd VM w w' bp bt e (AQ.matR l) := fun c p h e w' ht => PEnd.mkBad h ht
  have HRB := hid hRB
  clear hRB
  refine (pname_any bp l w0 HP.out).mono ?_
  intro e w1 hE
  rcases hR : AQ.nameR l with ⟨n, r⟩ | ⟨c, p⟩
  rotate_left
  · have HR := hid (show AQ.matR l = .bad c p by unfold AQ.matR; rw [hR]; rfl)
    have hT := (hE.bad c p hR).from HO.out
    have HT := hid hT
    obtain ⟨B, rfl, _, _⟩ := hT
    clear hR hE
    go_wp2_with fail
    exact ⟨rfl, PEnd.mkBad HR.out HT.out⟩
  obtain ⟨v, rfl, rfl, hp1, ho1⟩ := hE.ok n r hR
  obtain ⟨hn1, hg1, _⟩ := AQ.nameR_inv hR
  have HN1 := hid hn1
  have HG1 := hid hg1
  have HR1 := hid hR
  have HP1 := hid hp1
  have HO1 := hid (HO.out.trans ho1)
  have HX1 := hid (ho1.block HX.out (by have := HLow.out.1; omega))
  clear hE hR hp1 ho1 hn1 hg1 HP HO HX
  go_wp2_with fail
  refine (pop_any bp r w1 HP1.out).mono ?_
  intro e w2 hE
  rcases hR : AQ.opR r with ⟨o, r2⟩ | ⟨c, p⟩
  rotate_left
  · have HR := hid (show AQ.matR l = .bad c p by unfold AQ.matR; rw [HR1.out]; show (AQ.opR r).andThen _ = _; rw [hR]; rfl)
    have hT := (hE.bad c p hR).from HO1.out
    have HT := hid hT
    obtain ⟨B, rfl, _, _⟩ := hT
    clear hR hE
    go_wp2_with fail
    exact ⟨rfl, PEnd.mkBad HR.out HT.out⟩
  obtain ⟨v, rfl, rfl, hp2, ho2⟩ := hE.ok o r2 hR
  obtain ⟨ho0, ho4, hg2, _⟩ := AQ.opR_inv hR
  have HOp : Hid (0 ≤ o ∧ o < 4) := ⟨ho0, ho4⟩
  have HG2 := hid (HG1.out.trans hg2)
  have HR2 := hid hR
  have HP2 := hid hp2
  have HO2 := hid (HO1.out.trans ho2)
  have HX2 := hid (ho2.block HX1.out (by have := HLow.out.1; omega))
  clear hE hR hp2 ho2 ho0 ho4 hg2 HP1 HO1 HX1
  go_wp2_with fail
  refine (needK_any bp r2 2 (by decide) w2 HP2.out).mono ?_
  intro e w3 hE
  rcases hR : AQ.needK 2 r2 with ⟨t, r3⟩ | ⟨c, p⟩
  rotate_left
  · have HR := hid (show AQ.matR l = .bad c p by unfold AQ.matR; rw [HR1.out]; show (AQ.opR r).andThen _ = _; rw [HR2.out]; show (AQ.needK 2 r2).andThen _ = _; rw [hR]; rfl)
    have hT := (hE.bad c p hR).from HO2.out
    have HT := hid hT
    obtain ⟨B, rfl, _, _⟩ := hT
    clear hR hE
    go_wp2_with fail
    exact ⟨rfl, PEnd.mkBad HR.out HT.out⟩
  obtain ⟨v, rfl, rfl, hp3, ho3⟩ := hE.ok t r3 hR
  obtain ⟨⟨htm, htk⟩, _⟩ := AQ.needK_inv (by decide) hR
  have ht2 : 2 ≤ t.said.size := by
    have h1 := ((HF.out.go HG2.out) t htm).2.1 htk
    have h2 : t.said.data.toList.length = t.said.size := by simp
    omega
  have htb : t.said.size ≤ 1000000000 := by
    have h1 := ((HF.out.go HG2.out) t htm).2.2
    have h2 : t.said.data.toList.length = t.said.size := by simp
    omega
  have HRv := hid (show AQ.matR l = if LB.valu (AQ.valOf t) then .ok ⟨n, o, AQ.valOf t⟩ r3 else .bad 4 t.place by unfold AQ.matR; rw [HR1.out]; show (AQ.opR r).andThen _ = _; rw [HR2.out]; show (AQ.needK 2 r2).andThen _ = _; rw [hR]; rfl)
  have hal : Below w3.heap.size w3 (w3.alloc (.cells #[.int .i64 t.kind, .string t.said, .int .i64 t.place] 166)) := (Below.refl _ w3).alloc (Nat.le_refl _) _
  have HP4 := hid (hp3.below hal)
  have HO4 := hid ((HO2.out.trans ho3).trans (Own1.of (br := bp) hal))
  have hx3 := ho3.block HX2.out (by have := HLow.out.1; omega)
  have HX4 := hid ((hal.block _ (heap_lt hx3)).trans hx3)
  have HT4 := hid (heap_alloc_new w3 (.cells #[.int .i64 t.kind, .string t.said, .int .i64 t.place] 166))
  have HNe : Hid (w.heap.size < w3.heap.size) := heap_lt hx3
  clear hE hR hp3 ho3 htm htk hal hx3 HP2 HO2 HX2 HR1 HR2 HG1 HG2
  go_upto_region 4 with fail
  generalize w3.alloc (.cells #[.int .i64 t.kind, .string t.said, .int .i64 t.place] 166) = w4 at *
  generalize w3.heap.size = b3 at *
  have x1 := kcell _ _ _ _ HT4.out 1 _ rfl
  have hw1 : IntKind.i64.wrap ((t.said.size : Int) - 1) = (t.said.size : Int) - 1 := by rw [IntKind.wrap_i64]; omega
  go_upto_region 5 with fail
  have HV : Hid (AQ.valOf t = t.said.extract 1 (t.said.size - 1)) := rfl
  generalize hvv : t.said.extract 1 (t.said.size - 1) = vv at *
  clear hvv
  have hal : Below w4.heap.size w4 (w4.alloc (.cells #[.string n, .int .i64 o, .string vv] 93)) := (Below.refl _ w4).alloc (Nat.le_refl _) _
  have HP5 := hid (HP4.out.below hal)
  have HO5 := hid (HO4.out.trans (Own1.of (br := bp) hal))
  have HX5 := hid ((hal.block _ (heap_lt HX4.out)).trans HX4.out)
  have HT5 := hid ((hal.block _ (heap_lt HT4.out)).trans HT4.out)
  have HM5 := hid (heap_alloc_new w4 (.cells #[.string n, .int .i64 o, .string vv] 93))
  have HNe5 : Hid (w.heap.size < w4.heap.size) := heap_lt HX4.out
  clear hal HP4 HO4 HX4 HT4 hw1 x1
  generalize w4.alloc (.cells #[.string n, .int .i64 o, .string vv] 93) = w5 at *
  generalize w4.heap.size = b4 at *
  have m0 := kcell _ _ _ _ HM5.out 0 _ rfl
  have m1 := kcell _ _ _ _ HM5.out 1 _ rfl
  have m2 := kcell _ _ _ _ HM5.out 2 _ rfl
  have hal : Below w5.heap.size w5 (w5.alloc (.cells #[.string n, .int .i64 o, .string vv] 93)) := (Below.refl _ w5).alloc (Nat.le_refl _) _
  have hrow : MRow (w5.alloc (.cells #[.string n, .int .i64 o, .string vv] 93)) (some ⟨w5.heap.size, 0, none⟩) [⟨n, o, vv⟩] := by
    intro i hi
    have : i = 0 := by simpa using hi
    subst this
    have hh := heap_alloc_new w5 (.cells #[.string n, .int .i64 o, .string vv] 93)
    exact ⟨_, _, rfl, kcell _ _ _ _ hh 0 _ rfl, kcell _ _ _ _ hh 1 _ rfl, kcell _ _ _ _ hh 2 _ rfl, heap_lt hh⟩
  have HA := hid (asked_any (some ⟨w5.heap.size, 0, none⟩) [⟨n, o, vv⟩] 1 _ hrow (by simp))
  have HAs := hid (asked_one (v := vv) HN1.out HOp.out)
  have HP6 := hid (HP5.out.below hal)
  have HO6 := hid (HO5.out.trans (Own1.of (br := bp) hal))
  have HX6 := hid ((hal.block _ (heap_lt HX5.out)).trans HX5.out)
  have HT6 := hid ((hal.block _ (heap_lt HT5.out)).trans HT5.out)
  have HM6 := hid ((hal.block _ (heap_lt HM5.out)).trans HM5.out)
  clear hal hrow
  go_wp2_with fail
  refine HA.out.mono ?_
  rintro e w7 ⟨rfl, hb7⟩
  have HP7 := hid (HP6.out.below hb7)
  have HO7 := hid (HO6.out.trans (Own1.of (br := bp) hb7))
  have HX7 := hid ((hb7.block _ (heap_lt HX6.out)).trans HX6.out)
  have hT7 := (hb7.block _ (heap_lt HT6.out)).trans HT6.out
  have hM7 := (hb7.block _ (heap_lt HM6.out)).trans HM6.out
  have p2 := kcell _ _ _ _ hT7 2 _ rfl
  have q0 := kcell _ _ _ _ hM7 0 _ rfl
  have q1 := kcell _ _ _ _ hM7 1 _ rfl
  have q2 := kcell _ _ _ _ hM7 2 _ rfl
  rw [HAs.out]
  clear hb7 hT7 hM7 HA m0 m1 m2
  rcases hv : LB.valu vv with _ | _
  · have HR := hid (show AQ.matR l = .bad 4 t.place by rw [HRv.out, HV.out, hv]; rfl)
    clear hv
    go_wp2_with fail
    refine (wrong_any 4 t.place w7).mono ?_
    rintro e w8 ⟨rfl, rfl⟩
    go_wp2_with fail
    exact ⟨rfl, PEnd.mkBad HR.out ⟨_, rfl, heap_alloc_new w7 _, HO7.out.trans (Own1.of ((Below.refl _ w7).alloc (Nat.le_refl _) _))⟩⟩
  · have HR := hid (show AQ.matR l = .ok ⟨n, o, vv⟩ r3 by rw [HRv.out, HV.out, hv]; rfl)
    have y0 := kcell _ _ _ _ HX7.out 0 _ rfl
    have y1 := kcell _ _ _ _ HX7.out 1 _ rfl
    have y2 := kcell _ _ _ _ HX7.out 2 _ rfl
    have g0 := kfz HX7.out 0
    have g1 := kfz HX7.out 1
    have g2 := kfz HX7.out 2
    clear hv
    go_wp2_with fail
    refine bodyPost_ret (results_cell_row (P := Tryd.prog) rfl _ _ w.heap.size 93 _ (0, 0) _ rfl (heap_setCell_same _ _ 2 _ _ _ (heap_setCell_same _ _ 1 _ _ _ (heap_setCell_same _ _ 0 _ _ _ HX7.out))) Tryd.underlying93 rfl (by kernel_rfl)) rfl ?_
    have hl := HLow.out
    have h1 : w.heap.size ≠ bp := by omega
    have h2 : w.heap.size ≠ bt := by omega
    exact PEnd.mkOk HR.out rfl (((HP7.out.put h1 h2 hl.2.2 _ _).put h1 h2 hl.2.2 _ _).put h1 h2 hl.2.2 _ _) (((HO7.out.put (Nat.le_refl _) _ _).put (Nat.le_refl _) _ _).put (Nat.le_refl _) _ _)

end Go.Proofs.YtdmnlmohfaafoaeDoor
