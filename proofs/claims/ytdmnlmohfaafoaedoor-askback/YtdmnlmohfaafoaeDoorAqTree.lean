/- The program's parser: questions in memory; OVER, PROD, SUM. -/
import Derived.Test.YtdmnlmohfaafoaeDoorAqList
namespace Go.Proofs.YtdmnlmohfaafoaeDoor
open Go.RowKit Go.Shelf

/-- A question in memory. -/
def AskT (w : World) : Value → AQ.Q → Prop
  | v, .none => v = .pointer none
  | v, .mk c n m sp nm l r => ∃ B mv bv lv rv, v = .pointer (some ⟨B, 0, none⟩) ∧ w.heap[B]? = some (.cells #[.int .i64 c, .int .i64 n, mv, .int .i64 sp, bv, lv, rv] 112) ∧ OwnM w 0 mv m ∧ OwnX w 0 bv nm ∧ AskT w lv l ∧ AskT w rv r

theorem AskT.ptr {w : World} {v : Value} {q : AQ.Q} (h : AskT w v q) : ∃ a, v = .pointer a := by
  cases q with
  | none => exact ⟨none, h⟩
  | mk c n m sp nm l r =>
    obtain ⟨B, _, _, _, _, e, _⟩ := h
    exact ⟨_, e⟩

theorem AskT.kept {w w' : World} (hk : ∀ (g : Nat) (c : Array Value) (T : TypeId), w.heap[g]? = some (.cells c T) → T ≠ 163 → w'.heap[g]? = w.heap[g]?) : ∀ (q : AQ.Q) (v : Value), AskT w v q → AskT w' v q
  | .none, _, h => h
  | .mk c n m sp nm l r, v, h => by
    obtain ⟨B, mv, bv, lv, rv, e, hb, hm, hx, hl, hr⟩ := h
    exact ⟨B, mv, bv, lv, rv, e, (hk B _ _ hb (by decide)).trans hb, krow_kept hm fun g c hg => hk g c _ hg (by decide), krow_kept hx fun g c hg => hk g c _ hg (by decide), AskT.kept hk l lv hl, AskT.kept hk r rv hr⟩

theorem AskT.own {w w' : World} {bp bt : Nat} {l : List AQ.Tok} {v : Value} {q : AQ.Q} (h : AskT w v q) (hp : Pr w bp bt l) (k : Own1 bp w w') : AskT w' v q :=
  AskT.kept (fun g _ _ hg hT => k.2.2.2.2 g (heap_lt hg) (hp.kind hg hT)) q v h
theorem AskT.below {w w' : World} {v : Value} {q : AQ.Q} (h : AskT w v q) (k : Below w.heap.size w w') : AskT w' v q :=
  AskT.kept (fun g _ _ hg _ => k.block g (heap_lt hg)) q v h

abbrev VQ : World → Value → AQ.Q → Prop := fun w v q => AskT w v q

/-- A new question of one's own. -/
theorem ask_new {w : World} (c n sp : Int) {m : List LB.Mat} {nm : List ByteArray} {l r : AQ.Q} {mv bv lv rv : Value} (hm : OwnM w 0 mv m) (hb : OwnX w 0 bv nm) (hl : AskT w lv l) (hr : AskT w rv r) :
    AskT (w.alloc (.cells #[.int .i64 c, .int .i64 n, mv, .int .i64 sp, bv, lv, rv] 112)) (.pointer (some ⟨w.heap.size, 0, none⟩)) (.mk c n m sp nm l r) := by
  have hal : Below w.heap.size w (w.alloc (.cells #[.int .i64 c, .int .i64 n, mv, .int .i64 sp, bv, lv, rv] 112)) := (Below.refl _ w).alloc (Nat.le_refl _) _
  exact ⟨w.heap.size, mv, bv, lv, rv, rfl, heap_alloc_new w _, krow_kept hm fun g _ hg => hal.block g (heap_lt hg), krow_kept hb fun g _ hg => hal.block g (heap_lt hg), hl.below hal, hr.below hal⟩

theorem ownX_nil (w : World) : OwnX w 0 (.slice none 0 0) [] := ⟨rfl, .inl ⟨rfl, rfl⟩⟩
theorem ownM_nil (w : World) : OwnM w 0 (.slice none 0 0) [] := ⟨rfl, .inl ⟨rfl, rfl⟩⟩
theorem ask_none (w : World) : AskT w (.pointer none) .none := rfl

/-- What a method that tells a question does, at a depth. -/
def QK (f : Nat) (bp bt : Nat) (n : Int) (F : List AQ.Tok → AQ.Res AQ.Q) : Prop := ∀ W l', Pr W bp bt l' → AQ.FitL l' → Calls Tryd.prog f #[.pointer (some ⟨bp, 0, none⟩), .int .i64 n] W fun e w' => PEnd VQ W w' bp bt e (F l')

set_option maxRecDepth 100000 in
set_option maxHeartbeats 1600000 in
theorem pover_any {bt : Nat} (bp : Nat) (c : Int) : QK 160 bp bt c (AQ.overR c) := by
  intro w l h hf
  have HP := hid h
  have HF := hid hf
  clear h hf
  go_enter Tryd.func160, Tryd.ntmps160
  go_wp2_with fail
  refine (needK_any bp l 0 (by decide) w HP.out).mono ?_
  intro e w1 hE
  rcases hR : AQ.needK 0 l with ⟨t, r1⟩ | ⟨x, p⟩
  rotate_left
  · have HR := hid (show AQ.overR c l = .bad x p by unfold AQ.overR; rw [hR]; rfl)
    have hT := hE.bad x p hR
    have HT := hid hT
    obtain ⟨B, rfl, _, _⟩ := hT
    clear hR hE
    go_wp2_with fail
    exact ⟨rfl, PEnd.mkBad HR.out HT.out⟩
  obtain ⟨v, rfl, rfl, hp1, ho1⟩ := hE.ok t r1 hR
  have HE1 := hid (show AQ.overR c l = (AQ.need ⟨#[40]⟩ r1).andThen fun _ r2 => (AQ.someR r2).andThen fun m r3 => (AQ.need ⟨#[91]⟩ r3).andThen fun _ r4 => (AQ.spanR r4).andThen fun n r5 => (AQ.need ⟨#[93]⟩ r5).andThen fun _ r6 => (AQ.need ⟨#[41]⟩ r6).andThen fun _ r7 => .ok (.mk c 0 m n [] .none .none) r7 by unfold AQ.overR; rw [hR]; rfl)
  have HF1 := hid (HF.out.go (AQ.needK_inv (by decide) hR).2.1)
  have HP1 := hid hp1
  have HO1 := hid ho1
  clear hE hR hp1 ho1 HP HF
  go_wp2_with fail
  refine (need_any bp r1 ⟨#[40]⟩ (by decide) w1 HP1.out).mono ?_
  intro e w2 hE
  rcases hR : AQ.need ⟨#[40]⟩ r1 with ⟨u, r2⟩ | ⟨x, p⟩
  rotate_left
  · have HR := hid (show AQ.overR c l = .bad x p by rw [HE1.out, hR]; rfl)
    have hT := (hE.bad x p hR).from HO1.out
    have HT := hid hT
    obtain ⟨B, rfl, _, _⟩ := hT
    clear hR hE
    go_wp2_with fail
    exact ⟨rfl, PEnd.mkBad HR.out HT.out⟩
  obtain ⟨v, rfl, rfl, hp2, ho2⟩ := hE.ok u r2 hR
  have HE2 := hid (show AQ.overR c l = (AQ.someR r2).andThen fun m r3 => (AQ.need ⟨#[91]⟩ r3).andThen fun _ r4 => (AQ.spanR r4).andThen fun n r5 => (AQ.need ⟨#[93]⟩ r5).andThen fun _ r6 => (AQ.need ⟨#[41]⟩ r6).andThen fun _ r7 => .ok (.mk c 0 m n [] .none .none) r7 by rw [HE1.out, hR]; rfl)
  have HF2 := hid (HF1.out.go (AQ.need_inv (by decide) hR).1)
  have HP2 := hid hp2
  have HO2 := hid (HO1.out.trans ho2)
  clear hE hR hp2 ho2 HP1 HF1 HO1 HE1
  go_wp2_with fail
  refine (psome_any bp r2 w2 HP2.out HF2.out).mono ?_
  intro e w3 hE
  rcases hR : AQ.someR r2 with ⟨m, r3⟩ | ⟨x, p⟩
  rotate_left
  · have HR := hid (show AQ.overR c l = .bad x p by rw [HE2.out, hR]; rfl)
    have hT := (hE.bad x p hR).from HO2.out
    have HT := hid hT
    obtain ⟨B, rfl, _, _⟩ := hT
    clear hR hE
    go_wp2_with fail
    exact ⟨rfl, PEnd.mkBad HR.out HT.out⟩
  obtain ⟨v, rfl, hv, hp3, ho3⟩ := hE.ok m r3 hR
  obtain ⟨va, vc, ev⟩ := kown_slice hv
  subst ev
  have HE3 := hid (show AQ.overR c l = (AQ.need ⟨#[91]⟩ r3).andThen fun _ r4 => (AQ.spanR r4).andThen fun n r5 => (AQ.need ⟨#[93]⟩ r5).andThen fun _ r6 => (AQ.need ⟨#[41]⟩ r6).andThen fun _ r7 => .ok (.mk c 0 m n [] .none .none) r7 by rw [HE2.out, hR]; rfl)
  have HF3 := hid (HF2.out.go (AQ.someR_inv hR).2.1)
  have HP3 := hid hp3
  have HO3 := hid (HO2.out.trans ho3)
  have HV3 := hid hv
  clear hE hR hp3 ho3 hv HP2 HF2 HO2 HE2
  go_wp2_with fail
  refine (need_any bp r3 ⟨#[91]⟩ (by decide) w3 HP3.out).mono ?_
  intro e w4 hE
  rcases hR : AQ.need ⟨#[91]⟩ r3 with ⟨u, r4⟩ | ⟨x, p⟩
  rotate_left
  · have HR := hid (show AQ.overR c l = .bad x p by rw [HE3.out, hR]; rfl)
    have hT := (hE.bad x p hR).from HO3.out
    have HT := hid hT
    obtain ⟨B, rfl, _, _⟩ := hT
    clear hR hE
    go_wp2_with fail
    exact ⟨rfl, PEnd.mkBad HR.out HT.out⟩
  obtain ⟨v, rfl, rfl, hp4, ho4⟩ := hE.ok u r4 hR
  have HE4 := hid (show AQ.overR c l = (AQ.spanR r4).andThen fun n r5 => (AQ.need ⟨#[93]⟩ r5).andThen fun _ r6 => (AQ.need ⟨#[41]⟩ r6).andThen fun _ r7 => .ok (.mk c 0 m n [] .none .none) r7 by rw [HE3.out, hR]; rfl)
  have HF4 := hid (HF3.out.go (AQ.need_inv (by decide) hR).1)
  have HV4 := hid (show OwnM w4 0 (.slice va m.length vc) m from krow_kept HV3.out fun g _ hg => ho4.2.2.2.2 g (heap_lt hg) (HP3.out.kind hg (by decide)))
  have HP4 := hid hp4
  have HO4 := hid (HO3.out.trans ho4)
  clear hE hR hp4 ho4 HP3 HF3 HO3 HE3 HV3
  go_wp2_with fail
  refine (pspan_any bp r4 w4 HP4.out HF4.out).mono ?_
  intro e w5 hE
  rcases hR : AQ.spanR r4 with ⟨n, r5⟩ | ⟨x, p⟩
  rotate_left
  · have HR := hid (show AQ.overR c l = .bad x p by rw [HE4.out, hR]; rfl)
    have hT := (hE.bad x p hR).from HO4.out
    have HT := hid hT
    obtain ⟨B, rfl, _, _⟩ := hT
    clear hR hE
    go_wp2_with fail
    exact ⟨rfl, PEnd.mkBad HR.out HT.out⟩
  obtain ⟨v, rfl, rfl, hp5, ho5⟩ := hE.ok n r5 hR
  have HE5 := hid (show AQ.overR c l = (AQ.need ⟨#[93]⟩ r5).andThen fun _ r6 => (AQ.need ⟨#[41]⟩ r6).andThen fun _ r7 => .ok (.mk c 0 m n [] .none .none) r7 by rw [HE4.out, hR]; rfl)
  have HV5 := hid (show OwnM w5 0 (.slice va m.length vc) m from krow_kept HV4.out fun g _ hg => ho5.2.2.2.2 g (heap_lt hg) (HP4.out.kind hg (by decide)))
  have HP5 := hid hp5
  have HO5 := hid (HO4.out.trans ho5)
  clear hE hR hp5 ho5 HP4 HF4 HO4 HE4 HV4
  go_wp2_with fail
  refine (need_any bp r5 ⟨#[93]⟩ (by decide) w5 HP5.out).mono ?_
  intro e w6 hE
  rcases hR : AQ.need ⟨#[93]⟩ r5 with ⟨u, r6⟩ | ⟨x, p⟩
  rotate_left
  · have HR := hid (show AQ.overR c l = .bad x p by rw [HE5.out, hR]; rfl)
    have hT := (hE.bad x p hR).from HO5.out
    have HT := hid hT
    obtain ⟨B, rfl, _, _⟩ := hT
    clear hR hE
    go_wp2_with fail
    exact ⟨rfl, PEnd.mkBad HR.out HT.out⟩
  obtain ⟨v, rfl, rfl, hp6, ho6⟩ := hE.ok u r6 hR
  have HE6 := hid (show AQ.overR c l = (AQ.need ⟨#[41]⟩ r6).andThen fun _ r7 => .ok (.mk c 0 m n [] .none .none) r7 by rw [HE5.out, hR]; rfl)
  have HV6 := hid (show OwnM w6 0 (.slice va m.length vc) m from krow_kept HV5.out fun g _ hg => ho6.2.2.2.2 g (heap_lt hg) (HP5.out.kind hg (by decide)))
  have HP6 := hid hp6
  have HO6 := hid (HO5.out.trans ho6)
  clear hE hR hp6 ho6 HP5 HO5 HE5 HV5
  go_wp2_with fail
  refine (need_any bp r6 ⟨#[41]⟩ (by decide) w6 HP6.out).mono ?_
  intro e w7 hE
  rcases hR : AQ.need ⟨#[41]⟩ r6 with ⟨u, r7⟩ | ⟨x, p⟩
  rotate_left
  · have HR := hid (show AQ.overR c l = .bad x p by rw [HE6.out, hR]; rfl)
    have hT := (hE.bad x p hR).from HO6.out
    have HT := hid hT
    obtain ⟨B, rfl, _, _⟩ := hT
    clear hR hE
    go_wp2_with fail
    exact ⟨rfl, PEnd.mkBad HR.out HT.out⟩
  obtain ⟨v, rfl, rfl, hp7, ho7⟩ := hE.ok u r7 hR
  have HE7 := hid (show AQ.overR c l = .ok (.mk c 0 m n [] .none .none) r7 by rw [HE6.out, hR]; rfl)
  have hv7 : OwnM w7 0 (.slice va m.length vc) m := krow_kept HV6.out fun g _ hg => ho7.2.2.2.2 g (heap_lt hg) (HP6.out.kind hg (by decide))
  have hal : Below w7.heap.size w7 (w7.alloc (.cells #[.int .i64 c, .int .i64 0, .slice va m.length vc, .int .i64 n, .slice none 0 0, .pointer none, .pointer none] 112)) := (Below.refl _ w7).alloc (Nat.le_refl _) _
  have HA := hid (ask_new (w := w7) c 0 n hv7 (ownX_nil w7) (ask_none w7) (ask_none w7))
  have HP8 := hid (hp7.below hal)
  have HO8 := hid ((HO6.out.trans ho7).trans (Own1.of (br := bp) hal))
  clear hE hR hp7 ho7 hv7 hal HP6 HO6 HE6 HV6
  go_wp2_with fail
  go_ret
  exact PEnd.mkOk HE7.out HA.out HP8.out HO8.out

end Go.Proofs.YtdmnlmohfaafoaeDoor
