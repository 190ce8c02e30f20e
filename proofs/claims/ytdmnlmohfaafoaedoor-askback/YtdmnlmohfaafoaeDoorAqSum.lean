/- The program's parser: PROD, SUM, by what ONE tells (made by mkaqs.py). -/
import Derived.Test.YtdmnlmohfaafoaeDoorAqTree
namespace Go.Proofs.YtdmnlmohfaafoaeDoor
open Go.RowKit Go.Shelf

set_option maxRecDepth 100000 in
set_option maxHeartbeats 1600000 in
theorem pprod_any {bt : Nat} (bp : Nat) (n : Int) (one : List AQ.Tok → AQ.Res AQ.Q) (hb : QK 131 bp bt n (one)) (hgo : ∀ l q r, AQ.FitL l → (one) l = .ok q r → AQ.Goes l r) : QK 106 bp bt n (AQ.prodR one) := by
  intro w l h hf
  have HP := hid h
  have HF := hid hf
  have HB := hid hb
  have HGo := hid hgo
  clear h hf hb hgo
  go_enter Tryd.func106, Tryd.ntmps106
  go_wp2_with fail
  refine (HB.out w l HP.out HF.out).mono ?_
  intro e w1 hE
  rcases hR : (one) l with ⟨q, r⟩ | ⟨x, p⟩
  rotate_left
  · have HR := hid (show AQ.prodR one l = .bad x p by unfold AQ.prodR; rw [hR]; rfl)
    have hT := hE.bad x p hR
    have HT := hid hT
    obtain ⟨B, rfl, _, _⟩ := hT
    clear hR hE
    go_wp2_with fail
    exact ⟨rfl, PEnd.mkBad HR.out HT.out⟩
  obtain ⟨v, rfl, hv, hp1, ho1⟩ := hE.ok q r hR
  obtain ⟨a1, ea1⟩ := hv.ptr
  subst ea1
  have HS := hid (show AQ.prodR one l = AQ.chainR (one) ⟨#[42]⟩ ⟨#[47]⟩ 15 (r.length + 1) r q by unfold AQ.prodR; rw [hR]; rfl)
  have HF1 := hid (HF.out.go (HGo.out l q r HF.out hR))
  have HV1 := hid hv
  have HP1 := hid hp1
  have HO1 := hid ho1
  clear hE hR hv hp1 ho1 HP HF
  go_wp2_with fail
  go_loopw [5, 10, 19] (fun t5 _ _ wr => ∃ (f : Nat) (l' : List AQ.Tok) (q : AQ.Q) (a : Option Addr), t5 = .pointer a ∧ Pr wr bp bt l' ∧ Own1 bp w wr ∧ AskT wr (.pointer a) q ∧ AQ.FitL l' ∧ l'.length + 1 ≤ f ∧ AQ.prodR one l = AQ.chainR (one) ⟨#[42]⟩ ⟨#[47]⟩ 15 f l' q) (fun _ _ _ wr => prL bp wr)
  case atStart => exact ⟨_, r, q, a1, rfl, HP1.out, HO1.out, HV1.out, HF1.out, Nat.le_refl _, HS.out⟩
  case round =>
    clear HP1 HO1 HV1 HF1 HS
    obtain ⟨f, l', q', a, rfl, hp, ho, hv, hfl, hfu, heq⟩ := hrel
    obtain ⟨g, rfl⟩ : ∃ g, f = g + 1 := ⟨f - 1, by omega⟩
    have HPr := hid hp
    have HOr := hid ho
    have HVr := hid hv
    have HFl := hid hfl
    have HFu := hid hfu
    have HEq := hid (heq.trans (show AQ.chainR (one) ⟨#[42]⟩ ⟨#[47]⟩ 15 (g + 1) l' q' = if AQ.has ⟨#[42]⟩ l' then ((one) l'.tail).andThen fun b r => AQ.chainR (one) ⟨#[42]⟩ ⟨#[47]⟩ 15 g r (.mk 15 0 [] 0 [] q' b) else if AQ.has ⟨#[47]⟩ l' then ((one) l'.tail).andThen fun b r => AQ.chainR (one) ⟨#[42]⟩ ⟨#[47]⟩ 15 g r (.mk 16 0 [] 0 [] q' b) else .ok q' l' from rfl))
    have HMe := hid (prL_of hp)
    clear hp ho hv hfl hfu heq
    go_wp2_with fail
    refine (take_any bp l' ⟨#[42]⟩ (by decide) wr HPr.out).mono ?_
    rintro e w2 ⟨rfl, hj2, ho2⟩
    rcases hs : AQ.has ⟨#[42]⟩ l' with _ | _
    rotate_left
    · have hj := (show Pr w2 bp bt l'.tail by unfold tookL at hj2; rw [hs] at hj2; exact hj2)
      have HEq3 := hid (show AQ.prodR one l = ((one) l'.tail).andThen fun b r => AQ.chainR (one) ⟨#[42]⟩ ⟨#[47]⟩ 15 g r (.mk 15 0 [] 0 [] q' b) by rw [HEq.out, hs]; rfl)
      obtain ⟨hg2, hn2⟩ := AQ.has_goes (x := ⟨#[42]⟩) (by decide) hs
      have HF3 := hid (HFl.out.go hg2)
      have HN3 := hid hn2
      have HV3 := hid (HVr.out.own HPr.out ho2)
      have HP3 := hid hj
      have HO3 := hid (HOr.out.trans ho2)
      clear hs hj2 ho2 hj hg2 hn2
      go_wp2_with fail
      refine (HB.out w2 l'.tail HP3.out HF3.out).mono ?_
      intro e w4 hE
      rcases hR : (one) l'.tail with ⟨b, r4⟩ | ⟨x, p⟩
      rotate_left
      · have HR := hid (show AQ.prodR one l = .bad x p by rw [HEq3.out, hR]; rfl)
        have hT := (hE.bad x p hR).from HO3.out
        have HT := hid hT
        obtain ⟨B, rfl, _, _⟩ := hT
        clear hR hE
        go_wp2_with fail
        exact ⟨rfl, PEnd.mkBad HR.out HT.out⟩
      obtain ⟨v, rfl, hv, hp4, ho4⟩ := hE.ok b r4 hR
      obtain ⟨a4, ea4⟩ := hv.ptr
      subst ea4
      have HEq4 := hid (show AQ.prodR one l = AQ.chainR (one) ⟨#[42]⟩ ⟨#[47]⟩ 15 g r4 (.mk 15 0 [] 0 [] q' b) by rw [HEq3.out, hR]; rfl)
      have hgo4 := HGo.out l'.tail b r4 HF3.out hR
      have HF4 := hid (HF3.out.go hgo4)
      have HL4 := hid (show r4.length ≤ l'.tail.length from hgo4.suf.length_le)
      have hal : Below w4.heap.size w4 (w4.alloc (.cells #[.int .i64 15, .int .i64 0, .slice none 0 0, .int .i64 0, .slice none 0 0, .pointer a, .pointer a4] 112)) := (Below.refl _ w4).alloc (Nat.le_refl _) _
      have HA := hid (ask_new (w := w4) 15 0 0 (ownM_nil w4) (ownX_nil w4) (HV3.out.own HP3.out ho4) hv)
      have HP5 := hid (hp4.below hal)
      have HO5 := hid ((HO3.out.trans ho4).trans (Own1.of (br := bp) hal))
      have HM5 := hid (show prL bp (w4.alloc (.cells #[.int .i64 15, .int .i64 0, .slice none 0 0, .int .i64 0, .slice none 0 0, .pointer a, .pointer a4] 112)) < prL bp wr by
        have h1 := HMe.out
        have h2 := prL_of HP5.out
        have h3 := HN3.out
        have h4 := HL4.out
        rw [h1, h2]
        omega)
      clear hE hR hv hp4 ho4 hal hgo4
      go_wp2_with fail
      refine ⟨?rel, ?measure⟩
      case rel =>
        refine ⟨g, r4, _, _, rfl, HP5.out, HO5.out, HA.out, HF4.out, ?_, HEq4.out⟩
        have h1 := HFu.out
        have h2 := HN3.out
        have h3 := HL4.out
        omega
      case measure => exact HM5.out
    have hj := (show Pr w2 bp bt l' by unfold tookL at hj2; rw [hs] at hj2; exact hj2)
    have HEq2 := hid (show AQ.prodR one l = if AQ.has ⟨#[47]⟩ l' then ((one) l'.tail).andThen fun b r => AQ.chainR (one) ⟨#[42]⟩ ⟨#[47]⟩ 15 g r (.mk 16 0 [] 0 [] q' b) else .ok q' l' by rw [HEq.out, hs]; rfl)
    have HV2 := hid (HVr.out.own HPr.out ho2)
    have HP2 := hid hj
    have HO2 := hid (HOr.out.trans ho2)
    clear hs hj2 ho2 hj HEq HVr HPr HOr
    go_wp2_with fail
    refine (take_any bp l' ⟨#[47]⟩ (by decide) w2 HP2.out).mono ?_
    rintro e w2y ⟨rfl, hj2, ho2⟩
    rcases hs : AQ.has ⟨#[47]⟩ l' with _ | _
    · have HR := hid (show AQ.prodR one l = .ok q' l' by rw [HEq2.out, hs]; rfl)
      have hj := (show Pr w2y bp bt l' by unfold tookL at hj2; rw [hs] at hj2; exact hj2)
      have HV3 := hid (HV2.out.own HP2.out ho2)
      have HP3 := hid hj
      have HO3 := hid (HO2.out.trans ho2)
      clear hs hj2 ho2 hj
      go_wp2_with fail
      go_ret
      exact PEnd.mkOk HR.out HV3.out HP3.out HO3.out
    · have hj := (show Pr w2y bp bt l'.tail by unfold tookL at hj2; rw [hs] at hj2; exact hj2)
      have HEq3 := hid (show AQ.prodR one l = ((one) l'.tail).andThen fun b r => AQ.chainR (one) ⟨#[42]⟩ ⟨#[47]⟩ 15 g r (.mk 16 0 [] 0 [] q' b) by rw [HEq2.out, hs]; rfl)
      obtain ⟨hg2, hn2⟩ := AQ.has_goes (x := ⟨#[47]⟩) (by decide) hs
      have HF3 := hid (HFl.out.go hg2)
      have HN3 := hid hn2
      have HV3 := hid (HV2.out.own HP2.out ho2)
      have HP3 := hid hj
      have HO3 := hid (HO2.out.trans ho2)
      clear hs hj2 ho2 hj hg2 hn2
      go_wp2_with fail
      refine (HB.out w2y l'.tail HP3.out HF3.out).mono ?_
      intro e w4 hE
      rcases hR : (one) l'.tail with ⟨b, r4⟩ | ⟨x, p⟩
      rotate_left
      · have HR := hid (show AQ.prodR one l = .bad x p by rw [HEq3.out, hR]; rfl)
        have hT := (hE.bad x p hR).from HO3.out
        have HT := hid hT
        obtain ⟨B, rfl, _, _⟩ := hT
        clear hR hE
        go_wp2_with fail
        exact ⟨rfl, PEnd.mkBad HR.out HT.out⟩
      obtain ⟨v, rfl, hv, hp4, ho4⟩ := hE.ok b r4 hR
      obtain ⟨a4, ea4⟩ := hv.ptr
      subst ea4
      have HEq4 := hid (show AQ.prodR one l = AQ.chainR (one) ⟨#[42]⟩ ⟨#[47]⟩ 15 g r4 (.mk 16 0 [] 0 [] q' b) by rw [HEq3.out, hR]; rfl)
      have hgo4 := HGo.out l'.tail b r4 HF3.out hR
      have HF4 := hid (HF3.out.go hgo4)
      have HL4 := hid (show r4.length ≤ l'.tail.length from hgo4.suf.length_le)
      have hal : Below w4.heap.size w4 (w4.alloc (.cells #[.int .i64 16, .int .i64 0, .slice none 0 0, .int .i64 0, .slice none 0 0, .pointer a, .pointer a4] 112)) := (Below.refl _ w4).alloc (Nat.le_refl _) _
      have HA := hid (ask_new (w := w4) 16 0 0 (ownM_nil w4) (ownX_nil w4) (HV3.out.own HP3.out ho4) hv)
      have HP5 := hid (hp4.below hal)
      have HO5 := hid ((HO3.out.trans ho4).trans (Own1.of (br := bp) hal))
      have HM5 := hid (show prL bp (w4.alloc (.cells #[.int .i64 16, .int .i64 0, .slice none 0 0, .int .i64 0, .slice none 0 0, .pointer a, .pointer a4] 112)) < prL bp wr by
        have h1 := HMe.out
        have h2 := prL_of HP5.out
        have h3 := HN3.out
        have h4 := HL4.out
        rw [h1, h2]
        omega)
      clear hE hR hv hp4 ho4 hal hgo4
      go_wp2_with fail
      refine ⟨?rel, ?measure⟩
      case rel =>
        refine ⟨g, r4, _, _, rfl, HP5.out, HO5.out, HA.out, HF4.out, ?_, HEq4.out⟩
        have h1 := HFu.out
        have h2 := HN3.out
        have h3 := HL4.out
        omega
      case measure => exact HM5.out

set_option maxRecDepth 100000 in
set_option maxHeartbeats 1600000 in
theorem psum_any {bt : Nat} (bp : Nat) (n : Int) (one : List AQ.Tok → AQ.Res AQ.Q) (hb : QK 106 bp bt n (AQ.prodR one)) (hgo : ∀ l q r, AQ.FitL l → (AQ.prodR one) l = .ok q r → AQ.Goes l r) : QK 66 bp bt n (AQ.sumR one) := by
  intro w l h hf
  have HP := hid h
  have HF := hid hf
  have HB := hid hb
  have HGo := hid hgo
  clear h hf hb hgo
  go_enter Tryd.func66, Tryd.ntmps66
  go_wp2_with fail
  refine (HB.out w l HP.out HF.out).mono ?_
  intro e w1 hE
  rcases hR : (AQ.prodR one) l with ⟨q, r⟩ | ⟨x, p⟩
  rotate_left
  · have HR := hid (show AQ.sumR one l = .bad x p by unfold AQ.sumR; rw [hR]; rfl)
    have hT := hE.bad x p hR
    have HT := hid hT
    obtain ⟨B, rfl, _, _⟩ := hT
    clear hR hE
    go_wp2_with fail
    exact ⟨rfl, PEnd.mkBad HR.out HT.out⟩
  obtain ⟨v, rfl, hv, hp1, ho1⟩ := hE.ok q r hR
  obtain ⟨a1, ea1⟩ := hv.ptr
  subst ea1
  have HS := hid (show AQ.sumR one l = AQ.chainR (AQ.prodR one) ⟨#[43]⟩ ⟨#[45]⟩ 13 (r.length + 1) r q by unfold AQ.sumR; rw [hR]; rfl)
  have HF1 := hid (HF.out.go (HGo.out l q r HF.out hR))
  have HV1 := hid hv
  have HP1 := hid hp1
  have HO1 := hid ho1
  clear hE hR hv hp1 ho1 HP HF
  go_wp2_with fail
  go_loopw [5, 10, 19] (fun t5 _ _ wr => ∃ (f : Nat) (l' : List AQ.Tok) (q : AQ.Q) (a : Option Addr), t5 = .pointer a ∧ Pr wr bp bt l' ∧ Own1 bp w wr ∧ AskT wr (.pointer a) q ∧ AQ.FitL l' ∧ l'.length + 1 ≤ f ∧ AQ.sumR one l = AQ.chainR (AQ.prodR one) ⟨#[43]⟩ ⟨#[45]⟩ 13 f l' q) (fun _ _ _ wr => prL bp wr)
  case atStart => exact ⟨_, r, q, a1, rfl, HP1.out, HO1.out, HV1.out, HF1.out, Nat.le_refl _, HS.out⟩
  case round =>
    clear HP1 HO1 HV1 HF1 HS
    obtain ⟨f, l', q', a, rfl, hp, ho, hv, hfl, hfu, heq⟩ := hrel
    obtain ⟨g, rfl⟩ : ∃ g, f = g + 1 := ⟨f - 1, by omega⟩
    have HPr := hid hp
    have HOr := hid ho
    have HVr := hid hv
    have HFl := hid hfl
    have HFu := hid hfu
    have HEq := hid (heq.trans (show AQ.chainR (AQ.prodR one) ⟨#[43]⟩ ⟨#[45]⟩ 13 (g + 1) l' q' = if AQ.has ⟨#[43]⟩ l' then ((AQ.prodR one) l'.tail).andThen fun b r => AQ.chainR (AQ.prodR one) ⟨#[43]⟩ ⟨#[45]⟩ 13 g r (.mk 13 0 [] 0 [] q' b) else if AQ.has ⟨#[45]⟩ l' then ((AQ.prodR one) l'.tail).andThen fun b r => AQ.chainR (AQ.prodR one) ⟨#[43]⟩ ⟨#[45]⟩ 13 g r (.mk 14 0 [] 0 [] q' b) else .ok q' l' from rfl))
    have HMe := hid (prL_of hp)
    clear hp ho hv hfl hfu heq
    go_wp2_with fail
    refine (take_any bp l' ⟨#[43]⟩ (by decide) wr HPr.out).mono ?_
    rintro e w2 ⟨rfl, hj2, ho2⟩
    rcases hs : AQ.has ⟨#[43]⟩ l' with _ | _
    rotate_left
    · have hj := (show Pr w2 bp bt l'.tail by unfold tookL at hj2; rw [hs] at hj2; exact hj2)
      have HEq3 := hid (show AQ.sumR one l = ((AQ.prodR one) l'.tail).andThen fun b r => AQ.chainR (AQ.prodR one) ⟨#[43]⟩ ⟨#[45]⟩ 13 g r (.mk 13 0 [] 0 [] q' b) by rw [HEq.out, hs]; rfl)
      obtain ⟨hg2, hn2⟩ := AQ.has_goes (x := ⟨#[43]⟩) (by decide) hs
      have HF3 := hid (HFl.out.go hg2)
      have HN3 := hid hn2
      have HV3 := hid (HVr.out.own HPr.out ho2)
      have HP3 := hid hj
      have HO3 := hid (HOr.out.trans ho2)
      clear hs hj2 ho2 hj hg2 hn2
      go_wp2_with fail
      refine (HB.out w2 l'.tail HP3.out HF3.out).mono ?_
      intro e w4 hE
      rcases hR : (AQ.prodR one) l'.tail with ⟨b, r4⟩ | ⟨x, p⟩
      rotate_left
      · have HR := hid (show AQ.sumR one l = .bad x p by rw [HEq3.out, hR]; rfl)
        have hT := (hE.bad x p hR).from HO3.out
        have HT := hid hT
        obtain ⟨B, rfl, _, _⟩ := hT
        clear hR hE
        go_wp2_with fail
        exact ⟨rfl, PEnd.mkBad HR.out HT.out⟩
      obtain ⟨v, rfl, hv, hp4, ho4⟩ := hE.ok b r4 hR
      obtain ⟨a4, ea4⟩ := hv.ptr
      subst ea4
      have HEq4 := hid (show AQ.sumR one l = AQ.chainR (AQ.prodR one) ⟨#[43]⟩ ⟨#[45]⟩ 13 g r4 (.mk 13 0 [] 0 [] q' b) by rw [HEq3.out, hR]; rfl)
      have hgo4 := HGo.out l'.tail b r4 HF3.out hR
      have HF4 := hid (HF3.out.go hgo4)
      have HL4 := hid (show r4.length ≤ l'.tail.length from hgo4.suf.length_le)
      have hal : Below w4.heap.size w4 (w4.alloc (.cells #[.int .i64 13, .int .i64 0, .slice none 0 0, .int .i64 0, .slice none 0 0, .pointer a, .pointer a4] 112)) := (Below.refl _ w4).alloc (Nat.le_refl _) _
      have HA := hid (ask_new (w := w4) 13 0 0 (ownM_nil w4) (ownX_nil w4) (HV3.out.own HP3.out ho4) hv)
      have HP5 := hid (hp4.below hal)
      have HO5 := hid ((HO3.out.trans ho4).trans (Own1.of (br := bp) hal))
      have HM5 := hid (show prL bp (w4.alloc (.cells #[.int .i64 13, .int .i64 0, .slice none 0 0, .int .i64 0, .slice none 0 0, .pointer a, .pointer a4] 112)) < prL bp wr by
        have h1 := HMe.out
        have h2 := prL_of HP5.out
        have h3 := HN3.out
        have h4 := HL4.out
        rw [h1, h2]
        omega)
      clear hE hR hv hp4 ho4 hal hgo4
      go_wp2_with fail
      refine ⟨?rel, ?measure⟩
      case rel =>
        refine ⟨g, r4, _, _, rfl, HP5.out, HO5.out, HA.out, HF4.out, ?_, HEq4.out⟩
        have h1 := HFu.out
        have h2 := HN3.out
        have h3 := HL4.out
        omega
      case measure => exact HM5.out
    have hj := (show Pr w2 bp bt l' by unfold tookL at hj2; rw [hs] at hj2; exact hj2)
    have HEq2 := hid (show AQ.sumR one l = if AQ.has ⟨#[45]⟩ l' then ((AQ.prodR one) l'.tail).andThen fun b r => AQ.chainR (AQ.prodR one) ⟨#[43]⟩ ⟨#[45]⟩ 13 g r (.mk 14 0 [] 0 [] q' b) else .ok q' l' by rw [HEq.out, hs]; rfl)
    have HV2 := hid (HVr.out.own HPr.out ho2)
    have HP2 := hid hj
    have HO2 := hid (HOr.out.trans ho2)
    clear hs hj2 ho2 hj HEq HVr HPr HOr
    go_wp2_with fail
    refine (take_any bp l' ⟨#[45]⟩ (by decide) w2 HP2.out).mono ?_
    rintro e w2y ⟨rfl, hj2, ho2⟩
    rcases hs : AQ.has ⟨#[45]⟩ l' with _ | _
    · have HR := hid (show AQ.sumR one l = .ok q' l' by rw [HEq2.out, hs]; rfl)
      have hj := (show Pr w2y bp bt l' by unfold tookL at hj2; rw [hs] at hj2; exact hj2)
      have HV3 := hid (HV2.out.own HP2.out ho2)
      have HP3 := hid hj
      have HO3 := hid (HO2.out.trans ho2)
      clear hs hj2 ho2 hj
      go_wp2_with fail
      go_ret
      exact PEnd.mkOk HR.out HV3.out HP3.out HO3.out
    · have hj := (show Pr w2y bp bt l'.tail by unfold tookL at hj2; rw [hs] at hj2; exact hj2)
      have HEq3 := hid (show AQ.sumR one l = ((AQ.prodR one) l'.tail).andThen fun b r => AQ.chainR (AQ.prodR one) ⟨#[43]⟩ ⟨#[45]⟩ 13 g r (.mk 14 0 [] 0 [] q' b) by rw [HEq2.out, hs]; rfl)
      obtain ⟨hg2, hn2⟩ := AQ.has_goes (x := ⟨#[45]⟩) (by decide) hs
      have HF3 := hid (HFl.out.go hg2)
      have HN3 := hid hn2
      have HV3 := hid (HV2.out.own HP2.out ho2)
      have HP3 := hid hj
      have HO3 := hid (HO2.out.trans ho2)
      clear hs hj2 ho2 hj hg2 hn2
      go_wp2_with fail
      refine (HB.out w2y l'.tail HP3.out HF3.out).mono ?_
      intro e w4 hE
      rcases hR : (AQ.prodR one) l'.tail with ⟨b, r4⟩ | ⟨x, p⟩
      rotate_left
      · have HR := hid (show AQ.sumR one l = .bad x p by rw [HEq3.out, hR]; rfl)
        have hT := (hE.bad x p hR).from HO3.out
        have HT := hid hT
        obtain ⟨B, rfl, _, _⟩ := hT
        clear hR hE
        go_wp2_with fail
        exact ⟨rfl, PEnd.mkBad HR.out HT.out⟩
      obtain ⟨v, rfl, hv, hp4, ho4⟩ := hE.ok b r4 hR
      obtain ⟨a4, ea4⟩ := hv.ptr
      subst ea4
      have HEq4 := hid (show AQ.sumR one l = AQ.chainR (AQ.prodR one) ⟨#[43]⟩ ⟨#[45]⟩ 13 g r4 (.mk 14 0 [] 0 [] q' b) by rw [HEq3.out, hR]; rfl)
      have hgo4 := HGo.out l'.tail b r4 HF3.out hR
      have HF4 := hid (HF3.out.go hgo4)
      have HL4 := hid (show r4.length ≤ l'.tail.length from hgo4.suf.length_le)
      have hal : Below w4.heap.size w4 (w4.alloc (.cells #[.int .i64 14, .int .i64 0, .slice none 0 0, .int .i64 0, .slice none 0 0, .pointer a, .pointer a4] 112)) := (Below.refl _ w4).alloc (Nat.le_refl _) _
      have HA := hid (ask_new (w := w4) 14 0 0 (ownM_nil w4) (ownX_nil w4) (HV3.out.own HP3.out ho4) hv)
      have HP5 := hid (hp4.below hal)
      have HO5 := hid ((HO3.out.trans ho4).trans (Own1.of (br := bp) hal))
      have HM5 := hid (show prL bp (w4.alloc (.cells #[.int .i64 14, .int .i64 0, .slice none 0 0, .int .i64 0, .slice none 0 0, .pointer a, .pointer a4] 112)) < prL bp wr by
        have h1 := HMe.out
        have h2 := prL_of HP5.out
        have h3 := HN3.out
        have h4 := HL4.out
        rw [h1, h2]
        omega)
      clear hE hR hv hp4 ho4 hal hgo4
      go_wp2_with fail
      refine ⟨?rel, ?measure⟩
      case rel =>
        refine ⟨g, r4, _, _, rfl, HP5.out, HO5.out, HA.out, HF4.out, ?_, HEq4.out⟩
        have h1 := HFu.out
        have h2 := HN3.out
        have h3 := HL4.out
        omega
      case measure => exact HM5.out

end Go.Proofs.YtdmnlmohfaafoaeDoor
