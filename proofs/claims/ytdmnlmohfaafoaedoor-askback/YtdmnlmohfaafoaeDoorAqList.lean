/- The program's parser: rows of matchers, rows of names. -/
import Derived.Test.YtdmnlmohfaafoaeDoorAqMat
namespace Go.Proofs.YtdmnlmohfaafoaeDoor
open Go.RowKit Go.Shelf

/-- How much a parser in memory has to read yet. -/
def prL (bp : Nat) (w : World) : Nat := match w.cell? ⟨bp, 0, none⟩ with
  | some (.slice _ n _) => n
  | _ => 0

theorem prL_of {w : World} {bp bt : Nat} {l : List AQ.Tok} (h : Pr w bp bt l) : prL bp w = l.length := by
  obtain ⟨off, cap, h⟩ := h
  have c0 : w.cell? ⟨bp, 0, none⟩ = some (.slice (some ⟨bt, off, none⟩) l.length cap) := kcell _ _ _ _ h.box 0 _ rfl
  unfold prL
  rw [c0]

/-- Matchers that are told. -/
abbrev VL : World → Value → List LB.Mat → Prop := fun w v m => OwnM w 0 v m
abbrev VN : World → Value → List ByteArray → Prop := fun w v m => OwnX w 0 v m

set_option maxRecDepth 100000 in
set_option maxHeartbeats 1600000 in
theorem psome_any {bt : Nat} (bp : Nat) (l : List AQ.Tok) (w : World) (h : Pr w bp bt l) (hf : AQ.FitL l) :
    Calls Tryd.prog 71 #[.pointer (some ⟨bp, 0, none⟩)] w fun e w' => PEnd VL w w' bp bt e (AQ.someR l) := by
  have HP := hid h
  have HF := hid hf
  have HLow : Hid (bp < w.heap.size ∧ bt < w.heap.size ∧ 12 ≤ w.heap.size) := ⟨h.low.1, h.low.2, h.gl.size⟩
  have hTM : (93 : TypeId) ≠ 163 := by decide
  have HTM := hid hTM
  clear h hf hTM
  go_enter Tryd.func71, Tryd.ntmps71
  go_wp2_with fail
  refine (need_any bp l ⟨#[123]⟩ (by decide) w HP.out).mono ?_
  intro e w1 hE
  rcases hR : AQ.need ⟨#[123]⟩ l with ⟨u, r⟩ | ⟨c, p⟩
  rotate_left
  · have HR := hid (show AQ.someR l = .bad c p by unfold AQ.someR; rw [hR]; rfl)
    have hT := hE.bad c p hR
    have HT := hid hT
    obtain ⟨B, rfl, _, _⟩ := hT
    clear hR hE
    go_wp2_with fail
    exact ⟨rfl, PEnd.mkBad HR.out HT.out⟩
  obtain ⟨v, rfl, rfl, hp1, ho1⟩ := hE.ok u r hR
  have HS := hid (show AQ.someR l = if AQ.has ⟨#[125]⟩ r then .ok [] r.tail else AQ.loopM 9 r [] by unfold AQ.someR; rw [hR]; rfl)
  have HFr := hid (HF.out.go (AQ.need_inv (by decide) hR).1)
  have HI1 : Hid (RwI 93 3 w w1 bp bt (.slice none 0 0) 0 [] r) := ⟨⟨rfl, .inl ⟨rfl, rfl⟩⟩, hp1, ho1⟩
  clear hR hE hp1 ho1 HP HF
  go_wp2_with fail
  refine (take_any bp r ⟨#[125]⟩ (by decide) w1 HI1.out.pr).mono ?_
  rintro e w2 ⟨rfl, hj2, ho2⟩
  rcases hs : AQ.has ⟨#[125]⟩ r with _ | _
  rotate_left
  · have HR := hid (show AQ.someR l = .ok [] r.tail by rw [HS.out, hs]; rfl)
    have hj := (show Pr w2 bp bt r.tail by unfold tookL at hj2; rw [hs] at hj2; exact hj2)
    have HI2 := hid (HI1.out.step HTM.out ho2 hj)
    clear hs hj2 ho2 hj HI1
    go_wp2_with fail
    go_ret
    exact PEnd.mkOk HR.out (row_zero HI2.out.row) HI2.out.pr HI2.out.own
  have HS2 := hid (show AQ.someR l = AQ.loopM 9 r [] by rw [HS.out, hs]; rfl)
  have hj := (show Pr w2 bp bt r by unfold tookL at hj2; rw [hs] at hj2; exact hj2)
  have HI2 := hid (HI1.out.step HTM.out ho2 hj)
  have hF2 := tokF2
  clear hs hj2 ho2 hj HI1 HS
  go_wp2_with fail
  go_loopw [3] (fun t3 wr => ∃ (f : Nat) (l' : List AQ.Tok) (out : List LB.Mat), RwI 93 3 w wr bp bt t3 out.length (mcells out) l' ∧ AQ.FitL l' ∧ f + out.length = 9 ∧ out.length ≤ 8 ∧ AQ.someR l = AQ.loopM f l' out) (fun _ wr => prL bp wr)
  case atStart => exact ⟨9, r, [], HI2.out, HFr.out, rfl, by simp, HS2.out⟩
  case round =>
    clear HI2 HFr HS2
    obtain ⟨f, l', out, hI, hfl, hfu, ho8, heq⟩ := hrel
    obtain ⟨va, vc, ev⟩ := kown_slice hI.row
    subst ev
    obtain ⟨g, rfl⟩ : ∃ g, f = g + 1 := ⟨f - 1, by omega⟩
    have HI := hid hI
    have HFl := hid hfl
    have HFu := hid hfu
    have HO8 := hid ho8
    have HEq := hid (heq.trans (show AQ.loopM (g + 1) l' out = if out.length = 8 then .bad 4 (AQ.hd l').place else (AQ.matR l').andThen fun m r => if AQ.has ⟨#[44]⟩ r then AQ.loopM g r.tail (out ++ [m]) else (AQ.need ⟨#[125]⟩ r).andThen fun _ r' => .ok (out ++ [m]) r' from rfl))
    have HMe := hid (prL_of hI.pr)
    clear hI hfl hfu heq
    by_cases h8 : out.length = 8
    · have h8' : ((out.length : Int) == 8) = true := by rw [h8]; rfl
      have HR := hid (show AQ.someR l = .bad 4 (AQ.hd l').place by rw [HEq.out, if_pos h8])
      have hF2' := tokF2 (AQ.hd l').kind (AQ.hd l').place (AQ.hd l').said
      clear h8 hF2 ho8
      go_wp2_with fail
      refine (here_any bp l' wr HI.out.pr).mono ?_
      rintro e w3 ⟨rfl, hb3⟩
      have HO3 := hid (HI.out.own.trans (Own1.of (br := bp) hb3))
      clear hb3
      go_wp2_with fail
      refine (wrong_any 4 (AQ.hd l').place w3).mono ?_
      rintro e w4 ⟨rfl, rfl⟩
      go_wp2_with fail
      exact ⟨rfl, PEnd.mkBad HR.out ⟨_, rfl, heap_alloc_new w3 _, HO3.out.trans (Own1.of ((Below.refl _ w3).alloc (Nat.le_refl _) _))⟩⟩
    · have h8' : ((out.length : Int) == 8) = false := by rw [beq_eq_false_iff_ne]; omega
      have HEq2 := hid (show AQ.someR l = (AQ.matR l').andThen fun m r => if AQ.has ⟨#[44]⟩ r then AQ.loopM g r.tail (out ++ [m]) else (AQ.need ⟨#[125]⟩ r).andThen fun _ r' => .ok (out ++ [m]) r' by rw [HEq.out, if_neg h8])
      have HN8 := hid h8
      clear h8 hF2 HEq ho8
      go_wp2_with fail
      refine (pmat_any bp l' wr HI.out.pr HFl.out).mono ?_
      intro e w3 hE
      rcases hR : AQ.matR l' with ⟨m, r⟩ | ⟨c, p⟩
      rotate_left
      · have HR := hid (show AQ.someR l = .bad c p by rw [HEq2.out, hR]; rfl)
        have hT := (hE.bad c p hR).from HI.out.own
        have HT := hid hT
        obtain ⟨B, rfl, _, _⟩ := hT
        clear hR hE
        go_wp2_with fail
        exact ⟨rfl, PEnd.mkBad HR.out HT.out⟩
      obtain ⟨v, rfl, rfl, hp3, ho3⟩ := hE.ok m r hR
      obtain ⟨_, hg3, hn3⟩ := AQ.matR_inv hR
      have HEq3 := hid (show AQ.someR l = if AQ.has ⟨#[44]⟩ r then AQ.loopM g r.tail (out ++ [m]) else (AQ.need ⟨#[125]⟩ r).andThen fun _ r' => .ok (out ++ [m]) r' by rw [HEq2.out, hR]; rfl)
      have HF3 := hid (HFl.out.go hg3)
      have HN3 := hid hn3
      have hI3 := HI.out.step HTM.out ho3 hp3
      obtain ⟨nm, op, vl⟩ := m
      simp only at *
      have hal : Below w3.heap.size w3 (w3.alloc (.cells #[.string nm, .int .i64 op, .string vl] 93)) := (Below.refl _ w3).alloc (Nat.le_refl _) _
      have HI4 := hid (hI3.below HTM.out hal)
      have HN4 := hid (kthree (heap_alloc_new w3 (.cells #[.string nm, .int .i64 op, .string vl] 93)))
      obtain ⟨ii, hi, hz0, hz1, hz2⟩ := info_parts Tryd.infoMat
      have HInf := hid (And.intro hi (And.intro hz0 (And.intro hz1 hz2)))
      have hsz4 := HI4.out.own.size
      clear hR hE hp3 ho3 hg3 hn3 hI3 hal hi hz0 hz1 hz2 HEq2 HI HFl
      go_wp2_with (at_builtin; refine wpList_append_own _ rfl (.tmp 17) (.tmp 20) 51 rfl w.heap.size 93 ii (.agg #[.string ⟨#[]⟩, .int .i64 0, .string ⟨#[]⟩]) 3 40 Tryd.uMat HInf.out.1 HInf.out.2.1 HInf.out.2.2.1 HInf.out.2.2.2 rfl (by decide) _ out.length (mcells out) rfl HI4.out.row ⟨w3.heap.size, 0, none⟩ 1 1 [.string nm, .int .i64 op, .string vl] rfl rfl HN4.out (by simp [Value.oneCell']) (by have := HO8.out; unfold maxLen; omega) (by have := HO8.out; omega) hsz4 ?_)
      intro v' w5 hown' hgrow _
      have e1 : mcells (out ++ [⟨nm, op, vl⟩]) = mcells out ++ [.string nm, .int .i64 op, .string vl] := by simp [mcells]
      have hI5 : RwI 93 3 w w5 bp bt v' (out ++ [(⟨nm, op, vl⟩ : LB.Mat)]).length (mcells (out ++ [(⟨nm, op, vl⟩ : LB.Mat)])) r := by
        refine HI4.out.grown HLow.out ?_ hgrow.size ⟨hgrow.os, hgrow.tape, hgrow.output⟩ fun q hq hn => hgrow.block q hq (fun e => hn e.symm)
        rw [e1, List.length_append]
        exact hown'
      obtain ⟨va', vc', ev'⟩ := kown_slice hown'
      subst ev'
      have HI5 := hid hI5
      have hln : (out ++ [(⟨nm, op, vl⟩ : LB.Mat)]).length = out.length + 1 := by simp
      have HLn := hid hln
      generalize (out ++ [(⟨nm, op, vl⟩ : LB.Mat)]) = out' at *
      clear hown' hgrow hI5 HI4 HN4 e1 hln
      go_wp2_with fail
      refine (take_any bp r ⟨#[44]⟩ (by decide) w5 HI5.out.pr).mono ?_
      rintro e w6 ⟨rfl, hj6, ho6⟩
      rcases hs : AQ.has ⟨#[44]⟩ r with _ | _
      · have HEq4 := hid (show AQ.someR l = (AQ.need ⟨#[125]⟩ r).andThen fun _ r' => .ok out' r' by rw [HEq3.out, hs]; rfl)
        have hj := (show Pr w6 bp bt r by unfold tookL at hj6; rw [hs] at hj6; exact hj6)
        have HI6 := hid (HI5.out.step HTM.out ho6 hj)
        clear hs hj6 ho6 hj HI5
        go_wp2_with fail
        refine (need_any bp r ⟨#[125]⟩ (by decide) w6 HI6.out.pr).mono ?_
        intro e w7 hE
        rcases hR : AQ.need ⟨#[125]⟩ r with ⟨u, r7⟩ | ⟨c, p⟩
        · obtain ⟨v, rfl, rfl, hp7, ho7⟩ := hE.ok u r7 hR
          have HR := hid (show AQ.someR l = .ok out' r7 by rw [HEq4.out, hR]; rfl)
          have HI7 := hid (HI6.out.step HTM.out ho7 hp7)
          clear hR hE hp7 ho7 HI6
          go_wp2_with fail
          go_ret
          exact PEnd.mkOk HR.out (row_zero (by have := HI7.out.row; rw [HLn.out] at this; show World.ownsRow _ _ _ _ _ _ _; rw [HLn.out]; exact this)) HI7.out.pr HI7.out.own
        · have HR := hid (show AQ.someR l = .bad c p by rw [HEq4.out, hR]; rfl)
          have hT := (hE.bad c p hR).from HI6.out.own
          have HT := hid hT
          obtain ⟨B, rfl, _, _⟩ := hT
          clear hR hE
          go_wp2_with fail
          exact ⟨rfl, PEnd.mkBad HR.out HT.out⟩
      · have HEq4 := hid (show AQ.someR l = AQ.loopM g r.tail out' by rw [HEq3.out, hs]; rfl)
        have hj := (show Pr w6 bp bt r.tail by unfold tookL at hj6; rw [hs] at hj6; exact hj6)
        have HI6 := hid (HI5.out.step HTM.out ho6 hj)
        obtain ⟨hg6, hn6⟩ := AQ.has_goes (x := ⟨#[44]⟩) (by decide) hs
        have HF6 := hid (HF3.out.go hg6)
        have HM6 := hid (show prL bp w6 < prL bp wr by
          have h1 := HMe.out
          have h2 := prL_of HI6.out.pr
          have h3 := HN3.out
          rw [h1, h2]
          omega)
        clear hs hj6 ho6 hj HI5 hg6 hn6
        go_wp2_with fail
        refine ⟨?rel, ?measure⟩
        case rel =>
          refine ⟨g, r.tail, out', ?_, HF6.out, ?_, ?_, HEq4.out⟩
          · have := HI6.out; rw [HLn.out] at this ⊢; exact this
          · have h1 := HFu.out
            have h2 := HLn.out
            omega
          · have h1 := HFu.out
            have h2 := HLn.out
            have h3 := HN8.out
            have h4 := HO8.out
            omega
        case measure => exact HM6.out

set_option maxRecDepth 100000 in
set_option maxHeartbeats 1600000 in
theorem pnames_any {bt : Nat} (bp : Nat) (l : List AQ.Tok) (w : World) (h : Pr w bp bt l) (hf : AQ.FitL l) :
    Calls Tryd.prog 176 #[.pointer (some ⟨bp, 0, none⟩)] w fun e w' => PEnd VN w w' bp bt e (AQ.namesR l) := by
  have HP := hid h
  have HF := hid hf
  have HLow : Hid (bp < w.heap.size ∧ bt < w.heap.size ∧ 12 ≤ w.heap.size) := ⟨h.low.1, h.low.2, h.gl.size⟩
  have hTM : (9 : TypeId) ≠ 163 := by decide
  have HTM := hid hTM
  clear h hf hTM
  go_enter Tryd.func176, Tryd.ntmps176
  go_wp2_with fail
  refine (need_any bp l ⟨#[40]⟩ (by decide) w HP.out).mono ?_
  intro e w1 hE
  rcases hR : AQ.need ⟨#[40]⟩ l with ⟨u, r⟩ | ⟨c, p⟩
  rotate_left
  · have HR := hid (show AQ.namesR l = .bad c p by unfold AQ.namesR; rw [hR]; rfl)
    have hT := hE.bad c p hR
    have HT := hid hT
    obtain ⟨B, rfl, _, _⟩ := hT
    clear hR hE
    go_wp2_with fail
    exact ⟨rfl, PEnd.mkBad HR.out HT.out⟩
  obtain ⟨v, rfl, rfl, hp1, ho1⟩ := hE.ok u r hR
  have HS2 := hid (show AQ.namesR l = AQ.loopN 9 r [] by unfold AQ.namesR; rw [hR]; rfl)
  have HFr := hid (HF.out.go (AQ.need_inv (by decide) hR).1)
  have HI2 : Hid (RwI 9 1 w w1 bp bt (.slice none 0 0) 0 [] r) := ⟨⟨rfl, .inl ⟨rfl, rfl⟩⟩, hp1, ho1⟩
  clear hR hE hp1 ho1 HP HF
  go_wp2_with fail
  go_loopw [3, 4, 5] (fun t3 _ _ wr => ∃ (f : Nat) (l' : List AQ.Tok) (out : List ByteArray), RwI 9 1 w wr bp bt t3 out.length (out.map Value.string) l' ∧ AQ.FitL l' ∧ f + out.length = 9 ∧ out.length ≤ 8 ∧ AQ.namesR l = AQ.loopN f l' out) (fun _ _ _ wr => prL bp wr)
  case atStart => exact ⟨9, r, [], HI2.out, HFr.out, rfl, by simp, HS2.out⟩
  case round =>
    clear HI2 HFr HS2
    obtain ⟨f, l', out, hI, hfl, hfu, ho8, heq⟩ := hrel
    obtain ⟨va, vc, ev⟩ := kown_slice hI.row
    subst ev
    obtain ⟨g, rfl⟩ : ∃ g, f = g + 1 := ⟨f - 1, by omega⟩
    have HI := hid hI
    have HFl := hid hfl
    have HFu := hid hfu
    have HO8 := hid ho8
    have HEq := hid (heq.trans (show AQ.loopN (g + 1) l' out = (AQ.nameR l').andThen fun n r => if out.length = 8 then .bad 4 (AQ.hd l').place else if AQ.has ⟨#[44]⟩ r then AQ.loopN g r.tail (out ++ [n]) else (AQ.need ⟨#[41]⟩ r).andThen fun _ r' => .ok (out ++ [n]) r' from rfl))
    have HMe := hid (prL_of hI.pr)
    clear hI hfl hfu heq ho8
    go_wp2_with fail
    refine (here_any bp l' wr HI.out.pr).mono ?_
    rintro e w2 ⟨rfl, hb2⟩
    have hal : Below w2.heap.size w2 (w2.alloc (.cells #[.int .i64 (AQ.hd l').kind, .string (AQ.hd l').said, .int .i64 (AQ.hd l').place] 166)) := (Below.refl _ w2).alloc (Nat.le_refl _) _
    have HI2 := hid ((HI.out.below HTM.out hb2).below HTM.out hal)
    have HX2 := hid (heap_alloc_new w2 (.cells #[.int .i64 (AQ.hd l').kind, .string (AQ.hd l').said, .int .i64 (AQ.hd l').place] 166))
    have HNb : Hid (w2.heap.size ≠ bp) := by have := (HI.out.pr.below hb2).low.1; show _ ≠ _; omega
    clear hb2 hal HI
    go_upto_region 4 with fail
    generalize w2.alloc (.cells #[.int .i64 (AQ.hd l').kind, .string (AQ.hd l').said, .int .i64 (AQ.hd l').place] 166) = w2' at *
    generalize w2.heap.size = bx at *
    go_wp2_with fail
    refine (pname_any bp l' w2' HI2.out.pr).mono ?_
    intro e w3 hE
    rcases hR : AQ.nameR l' with ⟨n, r⟩ | ⟨c, p⟩
    rotate_left
    · have HR := hid (show AQ.namesR l = .bad c p by rw [HEq.out, hR]; rfl)
      have hT := (hE.bad c p hR).from HI2.out.own
      have HT := hid hT
      obtain ⟨B, rfl, _, _⟩ := hT
      clear hR hE
      go_wp2_with fail
      exact ⟨rfl, PEnd.mkBad HR.out HT.out⟩
    obtain ⟨v, rfl, rfl, hp3, ho3⟩ := hE.ok n r hR
    obtain ⟨_, hg3, hn3⟩ := AQ.nameR_inv hR
    have HEq3 := hid (show AQ.namesR l = if out.length = 8 then .bad 4 (AQ.hd l').place else if AQ.has ⟨#[44]⟩ r then AQ.loopN g r.tail (out ++ [n]) else (AQ.need ⟨#[41]⟩ r).andThen fun _ r' => .ok (out ++ [n]) r' by rw [HEq.out, hR]; rfl)
    have HF3 := hid (HFl.out.go hg3)
    have HN3 := hid hn3
    have HI3 := hid (HI2.out.step HTM.out ho3 hp3)
    have hx3 := ho3.block HX2.out HNb.out
    have z2 := kcell _ _ _ _ hx3 2 _ rfl
    clear hR hE hp3 ho3 hg3 hn3 hx3 HX2 HNb HEq HI2
    by_cases h8 : out.length = 8
    · have h8' : ((out.length : Int) == 8) = true := by rw [h8]; rfl
      have HR := hid (show AQ.namesR l = .bad 4 (AQ.hd l').place by rw [HEq3.out, if_pos h8])
      clear h8
      go_wp2_with fail
      refine (wrong_any 4 (AQ.hd l').place w3).mono ?_
      rintro e w4 ⟨rfl, rfl⟩
      go_wp2_with fail
      exact ⟨rfl, PEnd.mkBad HR.out ⟨_, rfl, heap_alloc_new w3 _, HI3.out.own.trans (Own1.of ((Below.refl _ w3).alloc (Nat.le_refl _) _))⟩⟩
    · have h8' : ((out.length : Int) == 8) = false := by rw [beq_eq_false_iff_ne]; omega
      have HEq4 := hid (show AQ.namesR l = if AQ.has ⟨#[44]⟩ r then AQ.loopN g r.tail (out ++ [n]) else (AQ.need ⟨#[41]⟩ r).andThen fun _ r' => .ok (out ++ [n]) r' by rw [HEq3.out, if_neg h8])
      have HN8 := hid h8
      have hal : Below w3.heap.size w3 (w3.alloc (.cells #[.string n] 9)) := (Below.refl _ w3).alloc (Nat.le_refl _) _
      have HI4 := hid (HI3.out.below HTM.out hal)
      have HN4 := hid (kone (heap_alloc_new w3 (.cells #[.string n] 9)))
      obtain ⟨ii, hi, hz0, hz1, hz2⟩ := info_parts Tryd.infoStr
      have HInf := hid (And.intro hi (And.intro hz0 (And.intro hz1 hz2)))
      have hsz4 := HI4.out.own.size
      clear h8 hal hi hz0 hz1 hz2 HEq3 HI3 HFl z2
      go_wp2_with (at_builtin; refine wpList_append_own _ rfl (.tmp 19) (.tmp 21) 110 rfl w.heap.size 9 ii (.string ⟨#[]⟩) 1 16 Tryd.uStrs HInf.out.1 HInf.out.2.1 HInf.out.2.2.1 HInf.out.2.2.2 rfl (by decide) _ out.length (out.map Value.string) rfl HI4.out.row ⟨w3.heap.size, 0, none⟩ 1 1 [.string n] rfl rfl HN4.out (by simp [Value.oneCell']) (by have := HO8.out; unfold maxLen; omega) (by have := HO8.out; omega) hsz4 ?_)
      intro v' w5 hown' hgrow _
      have e1 : (out ++ [n]).map Value.string = out.map Value.string ++ [.string n] := by simp
      have hI5 : RwI 9 1 w w5 bp bt v' (out ++ [n]).length ((out ++ [n]).map Value.string) r := by
        refine HI4.out.grown HLow.out ?_ hgrow.size ⟨hgrow.os, hgrow.tape, hgrow.output⟩ fun q hq hn => hgrow.block q hq (fun e => hn e.symm)
        rw [e1, List.length_append]
        exact hown'
      obtain ⟨va', vc', ev'⟩ := kown_slice hown'
      subst ev'
      have HI5 := hid hI5
      have hln : (out ++ [n]).length = out.length + 1 := by simp
      have HLn := hid hln
      generalize (out ++ [n]) = out' at *
      clear hown' hgrow hI5 HI4 HN4 e1 hln
      go_wp2_with fail
      refine (take_any bp r ⟨#[44]⟩ (by decide) w5 HI5.out.pr).mono ?_
      rintro e w6 ⟨rfl, hj6, ho6⟩
      rcases hs : AQ.has ⟨#[44]⟩ r with _ | _
      · have HEq5 := hid (show AQ.namesR l = (AQ.need ⟨#[41]⟩ r).andThen fun _ r' => .ok out' r' by rw [HEq4.out, hs]; rfl)
        have hj := (show Pr w6 bp bt r by unfold tookL at hj6; rw [hs] at hj6; exact hj6)
        have HI6 := hid (HI5.out.step HTM.out ho6 hj)
        clear hs hj6 ho6 hj HI5
        go_wp2_with fail
        refine (need_any bp r ⟨#[41]⟩ (by decide) w6 HI6.out.pr).mono ?_
        intro e w7 hE
        rcases hR : AQ.need ⟨#[41]⟩ r with ⟨u, r7⟩ | ⟨c, p⟩
        · obtain ⟨v, rfl, rfl, hp7, ho7⟩ := hE.ok u r7 hR
          have HR := hid (show AQ.namesR l = .ok out' r7 by rw [HEq5.out, hR]; rfl)
          have HI7 := hid (HI6.out.step HTM.out ho7 hp7)
          clear hR hE hp7 ho7 HI6
          go_wp2_with fail
          go_ret
          exact PEnd.mkOk HR.out (row_zero (by have := HI7.out.row; rw [HLn.out] at this; show World.ownsRow _ _ _ _ _ _ _; rw [HLn.out]; exact this)) HI7.out.pr HI7.out.own
        · have HR := hid (show AQ.namesR l = .bad c p by rw [HEq5.out, hR]; rfl)
          have hT := (hE.bad c p hR).from HI6.out.own
          have HT := hid hT
          obtain ⟨B, rfl, _, _⟩ := hT
          clear hR hE
          go_wp2_with fail
          exact ⟨rfl, PEnd.mkBad HR.out HT.out⟩
      · have HEq5 := hid (show AQ.namesR l = AQ.loopN g r.tail out' by rw [HEq4.out, hs]; rfl)
        have hj := (show Pr w6 bp bt r.tail by unfold tookL at hj6; rw [hs] at hj6; exact hj6)
        have HI6 := hid (HI5.out.step HTM.out ho6 hj)
        obtain ⟨hg6, hn6⟩ := AQ.has_goes (x := ⟨#[44]⟩) (by decide) hs
        have HF6 := hid (HF3.out.go hg6)
        have HM6 := hid (show prL bp w6 < prL bp wr by
          have h1 := HMe.out
          have h2 := prL_of HI6.out.pr
          have h3 := HN3.out
          rw [h1, h2]
          omega)
        clear hs hj6 ho6 hj HI5 hg6 hn6
        go_wp2_with fail
        refine ⟨?rel, ?measure⟩
        case rel =>
          refine ⟨g, r.tail, out', ?_, HF6.out, ?_, ?_, HEq5.out⟩
          · have := HI6.out; rw [HLn.out] at this ⊢; exact this
          · have h1 := HFu.out
            have h2 := HLn.out
            omega
          · have h1 := HFu.out
            have h2 := HLn.out
            have h3 := HN8.out
            have h4 := HO8.out
            omega
        case measure => exact HM6.out

end Go.Proofs.YtdmnlmohfaafoaeDoor
