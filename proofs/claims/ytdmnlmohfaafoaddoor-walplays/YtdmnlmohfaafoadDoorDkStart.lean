/- What the disk's Start does. -/
import Derived.Test.YtdmnlmohfaafoadDoorDkKeep
import Derived.Maps.RangeWalk
namespace Go.Proofs.YtdmnlmohfaafoadDoor
open Go.RowKit Go.Maps

section
variable {w : World} {X : Nat → Prop} {bd cnt : Nat} {D : DK.M} {p : Int} {mo : Option Nat} {fp : ByteArray → Option Nat} {fv : ByteArray → Value} {e : Bool} {l : Int}

/-- Under way in Start: what is still to come is as it was, all else as it is to be. -/
def StartMid (w : World) (X : Nat → Prop) (bd cnt bm r : Nat) (D : DK.M) (c : Int) (e : Bool) (l : Int) (left : ByteArray → Bool) (cn : Nat) (W : World) : Prop :=
  ∃ X' D' fp' fv', DkA W X' bd cnt D' (-1) (some bm) fp' fv' e l ∧ RngX Tryd.prog 9 W bm r cnt (pF fp') left cn ∧ XFr X w W ∧ (∀ j, X' j → X j ∨ w.heap.size ≤ j) ∧ ¬ X' r ∧ ∀ s, D' s = if left s then D s else DK.start D c s

theorem StartMid.done {bm r cn : Nat} {c : Int} {left : ByteArray → Bool} {W : World} (h : StartMid w X bd cnt bm r D c e l left cn W) (hl : ∀ s, left s = false) : DkEnd w X bd cnt (DK.start D c) (-1) W := by
  obtain ⟨X', D', fp', fv', h1, h2, h3, h4, h5, h6⟩ := h
  have e1 : D' = DK.start D c := by
    funext s
    rw [h6, hl]; rfl
  subst e1
  exact ⟨X', ⟨_, _, _, _, _, h1⟩, h3, h4⟩

theorem pF_some {fp : ByteArray → Option Nat} {s : ByteArray} {v : Value} (h : pF fp s = some v) : ∃ q, fp s = some q ∧ v = .pointer (some ⟨q, 0, none⟩) := by
  unfold pF at h
  cases hf : fp s with
  | none => rw [hf] at h; cases h
  | some q => rw [hf] at h; exact ⟨q, rfl, (Option.some.inj h).symm⟩

/-- A file has come, and stays. -/
theorem StartMid.stays {bm r cn q : Nat} {c : Int} {left : ByteArray → Bool} {W4 w5 : World} {X' : Nat → Prop} {D' : DK.M} {fp' : ByteArray → Option Nat} {fv' : ByteArray → Value} {s : ByteArray} {f : DK.Fl}
    (h4 : RngX Tryd.prog 9 W4 bm r cnt (pF fp') (strike left s) cn) (hD4 : DkA W4 X' bd cnt D' (-1) (some bm) fp' fv' e l) (hx : XFr X w W4) (hsub : ∀ j, X' j → X j ∨ w.heap.size ≤ j) (hr : ¬ X' r) (hD' : ∀ s, D' s = if left s then D s else DK.start D c s)
    (hq : fp' s = some q) (hl : left s = true) (hf : D' s = some f) (hst : DK.stay f c = true) (hk : KeepEnd W4 X' bd cnt D' (-1) (some bm) fp' fv' e l s q (DK.keepB f c.toNat) w5) : StartMid w X bd cnt bm r D c e l (strike left s) cn w5 := by
  obtain ⟨⟨v', k1⟩, k2, k3⟩ := hk
  obtain ⟨b1, b2, b3, b4⟩ := hD4.files.body s q f hq hf
  obtain ⟨es, clock, hbm⟩ := h4.map.isMap
  obtain ⟨i1, i2, i3, i4, hit⟩ := h4.iter
  have hbq : bm ≠ q := fun e1 => by subst e1; rw [hbm] at b2; cases b2
  have hrq : r ≠ q := fun e1 => by subst e1; rw [hit] at b2; cases b2
  have hws := hx.size
  refine ⟨_, _, fp', _, k1, h4.block (k3 bm h4.map.lt hbq (by intro c h1; rw [hbm] at h1; cases h1)) (k3 r h4.lt hrq (by intro c h1; rw [hit] at h1; cases h1)), hx.trans k2 hsub, ?_, ?_, ?_⟩
  · rintro j (hj | hj)
    · exact hsub j hj
    · exact .inr (by omega)
  · rintro (hj | hj)
    · exact hr hj
    · have := h4.lt; omega
  · intro t
    by_cases et : t = s
    · subst et
      have hDt : D t = some f := by rw [← hf, hD' t, hl]; rfl
      have hsk : strike left t t = false := by unfold strike; simp
      rw [DK.put_same, hsk, DK.start_some hDt, if_pos hst]; rfl
    · rw [DK.put_other _ _ _ _ et, hD' t]
      have hsk : strike left s t = left t := by unfold strike; simp [et]
      rw [hsk]

/-- A file has come, and goes. -/
theorem StartMid.goes {bm r cn q : Nat} {c : Int} {left : ByteArray → Bool} {W4 w5 : World} {X' : Nat → Prop} {D' : DK.M} {fp' : ByteArray → Option Nat} {fv' : ByteArray → Value} {s : ByteArray} {f : DK.Fl}
    (hD4 : DkA W4 X' bd cnt D' (-1) (some bm) fp' fv' e l) (hx : XFr X w W4) (hsub : ∀ j, X' j → X j ∨ w.heap.size ≤ j) (hr : ¬ X' r) (hD' : ∀ s, D' s = if left s then D s else DK.start D c s)
    (hq : fp' s = some q) (hl : left s = true) (hf : D' s = some f) (hst : DK.stay f c = false) (h5 : RngX Tryd.prog 9 w5 bm r cnt (cutF (pF fp') s) (strike (strike left s) s) cn) (hg : W4.grownBy w5 (some bm)) : StartMid w X bd cnt bm r D c e l (strike left s) cn w5 := by
  rw [strike_twice, ← pF_cut] at h5
  obtain ⟨m1, m2⟩ := hD4.map bm rfl
  refine ⟨X', DK.del D' s, cutN fp' s, fv', hD4.remap rfl hg h5.map (hD4.files.cut s), h5, hx.trans (XFr.grown (X := X') hg (fun j hj => by cases hj; exact .inl m1)) hsub, hsub, hr, ?_⟩
  intro t
  by_cases et : t = s
  · subst et
    have hDt : D t = some f := by rw [← hf, hD' t, hl]; rfl
    have hsk : strike left t t = false := by unfold strike; simp
    rw [DK.del_same, hsk, DK.start_some hDt, hst]; rfl
  · rw [DK.del_other _ _ _ et, hD' t]
    have hsk : strike left s t = left t := by unfold strike; simp [et]
    rw [hsk]

set_option maxRecDepth 100000 in
set_option maxHeartbeats 800000 in
theorem start_some_any {bm : Nat} (h : DkA w X bd cnt D p (some bm) fp fv e l) (c : Int) (hc0 : -9223372036854775808 ≤ c) (hc1 : c ≤ 9223372036854775807) (hF : DK.Fine 1000000000 D) :
    Calls Tryd.prog 18 #[.pointer (some ⟨bd, 0, none⟩), .int .i64 c] w fun en w' => en = .returned (.tuple #[]) ∧ DkEnd w X bd cnt (DK.start D c) (-1) w' := by
  have HC := hid (cut_any h (-1) (by omega))
  have HF := hid hF
  have HXd := hid h.xd
  clear h hF
  go_enter Tryd.func18, Tryd.ntmps18
  go_wp2_with fail
  refine HC.out.mono ?_
  rintro en w1 ⟨rfl, ⟨e1, l1, h1⟩, hg1⟩
  have c0 := h1.c0
  have H1 := hid h1
  have HM := hid (h1.map bm rfl)
  have HX1 := hid (ChEnd.fr (X := X) hg1 h1.xd)
  clear h1 hg1 HC
  go_wp2_with (at_range; refine wpList_range_x rfl (.tmp 13) 24 rfl 9 86 Tryd.underlying9 Tryd.underlying24 bm cnt (pF fp) rfl HM.out.2 ?_)
  intro w3 cn left hrg hleft hcn hg3 hsz3
  have hr3 := hrg.lt
  have HS : Hid (StartMid w X bd cnt bm w1.heap.size D c e1 l1 left cn w3) := by
    refine ⟨fun j => X j ∧ j < w1.heap.size, D, fp, fv, ?_, hrg, HX1.out.trans (XFr.grown (X := X) hg3 (fun j hj => by cases hj)) (fun j hj => .inl hj), fun j hj => .inl hj.1, fun hj => by omega, ?_⟩
    · exact H1.out.narrow.kept fun j _ hj => hg3.block j hj (by simp)
    · intro s
      rw [hleft s]
      cases hf : fp s with
      | none =>
        have hn : D s = none := (H1.out.files.no s).1 hf
        rw [DK.start_none hn, hn]; rfl
      | some q =>
        rfl
  have hrw : w.heap.size ≤ w1.heap.size := HX1.out.size
  clear hrg hleft hcn hg3 hsz3 hr3 HM H1 HX1
  generalize w1.heap.size = r at *
  go_wp2_with fail
  go_loopw [15] (fun _ W => ∃ left' cn', StartMid w X bd cnt bm r D c e1 l1 left' cn' W) (fun _ W => W.rangeLeft bm r)
  case atStart => exact ⟨left, cn, HS.out⟩
  case round =>
    obtain ⟨lf, cf, X', D', fp', fv', hDk, hRg, hx, hsub, hr, hD'⟩ := hrel
    have HDk := hid hDk
    have HRg := hid hRg
    have HXf := hid hx
    have HSub := hid hsub
    have HR := hid hr
    have HD' := hid hD'
    have HSM : Hid (StartMid w X bd cnt bm r D c e1 l1 lf cf wr) := ⟨X', D', fp', fv', hDk, hRg, hx, hsub, hr, hD'⟩
    have HL0 := hid hRg.left_eq
    clear hDk hRg hx hsub hr hD' HS
    go_wp2_with (at_next; refine wpList_next_x rfl (.tmp 14) rfl 9 Tryd.underlying9 bm r cnt (pF fp') lf cf rfl HRg.out ?_ ?_)
    · intro hall
      have HQ := hid (HSM.out.done hall)
      go_wp2
      go_end0
      exact ⟨rfl, HQ.out⟩
    · intro s v w4 c4 hs q hq hv hls hrg4 hlt4 hg4 hsz4 hen
      subst hv
      obtain ⟨f, hf⟩ := HDk.out.files.hasF hq
      have HRr := HR.out
      have H4 : Hid (DkA w4 X' bd cnt D' (-1) (some bm) fp' fv' e1 l1) := HDk.out.kept fun j hj hjl => hg4.block j hjl (fun e2 => HRr (Option.some.inj e2 ▸ hj))
      have HX4 : Hid (XFr X w w4) := HXf.out.trans (XFr.grown (X := fun j => j = r) hg4 (fun j hj => by cases hj; exact .inl rfl)) (fun j hj => .inr (by subst hj; exact hrw))
      obtain ⟨b1, b2, b3, b4⟩ := H4.out.files.body s q f hq hf
      have hcq := zcell _ q _ _ b2 2 _ rfl
      have c04 := H4.out.c0
      have hDs : D s = some f := by rw [← hf, HD'.out s, hls]; rfl
      obtain ⟨_, hfb, hfs, _⟩ := HF.out s f hDs
      have HR4 := hid hrg4
      have HFs := hid hf
      have HK : Hid (∀ x : Int, x = (c.toNat : Int) → Calls Tryd.prog 49 #[.pointer (some ⟨q, 0, none⟩), .int .i64 x] w4 fun en w' => en = .returned (.tuple #[]) ∧ KeepEnd w4 X' bd cnt D' (-1) (some bm) fp' fv' e1 l1 s q (DK.keepB f c.toNat) w') := by
        rintro x rfl
        exact keep_any H4.out hq hf hfs hfb c.toNat (by omega)
      have HQs := hid hq
      have HLs := hid hls
      clear b1 b2 b3 b4 hrg4 hg4 hsz4 hf hDs hfb hfs hq hls HDk HXf HRg
      by_cases hst : DK.stay f c = true
      · cases hk : f.k with
        | true =>
          rw [hk] at hcq
          go_wp2_with fail
          all_goals
            refine (HK.out _ (by omega)).mono ?_
            rintro en w5 ⟨rfl, hke⟩
            have HSt := hid (StartMid.stays HR4.out H4.out HX4.out HSub.out HR.out HD'.out HQs.out HLs.out HFs.out hst hke)
            clear hke
            have HL5 : Hid (w5.rangeLeft bm r = c4) := by
              obtain ⟨_, _, _, _, _, h2, _⟩ := HSt.out
              exact h2.left_eq
            go_wp2_with fail
            go_roundw
            case rel => exact ⟨_, _, HSt.out⟩
            case measure => rw [HL5.out, HL0.out]; exact hlt4
        | false =>
          rw [hk] at hcq
          have hpos : 0 < c := by
            unfold DK.stay at hst
            rw [hk] at hst
            simp at hst
            omega
          go_wp2_with fail
          all_goals
            refine (HK.out _ (by omega)).mono ?_
            rintro en w5 ⟨rfl, hke⟩
            have HSt := hid (StartMid.stays HR4.out H4.out HX4.out HSub.out HR.out HD'.out HQs.out HLs.out HFs.out hst hke)
            clear hke
            have HL5 : Hid (w5.rangeLeft bm r = c4) := by
              obtain ⟨_, _, _, _, _, h2, _⟩ := HSt.out
              exact h2.left_eq
            go_wp2_with fail
            go_roundw
            case rel => exact ⟨_, _, HSt.out⟩
            case measure => rw [HL5.out, HL0.out]; exact hlt4
      · have hst' : DK.stay f c = false := by simpa using hst
        have hk : f.k = false := by
          unfold DK.stay at hst'
          simp at hst'
          exact hst'.1
        have hneg : ¬ (0 < c) := by
          unfold DK.stay at hst'
          simp at hst'
          omega
        rw [hk] at hcq
        obtain ⟨w5, c5, hrun, hrg5, hle5, hg5, _⟩ := HR4.out.drop Tryd.underlying9 Tryd.underlying24 hs 0
        have hdel : ∀ ty, (Builtin.delete_ #[24, 9] ty #[.map (some bm), .string s]).run Tryd.prog w4 = .ok (.tuple #[]) w5 := fun ty => hrun
        have HSt := hid (StartMid.goes H4.out HX4.out HSub.out HR.out HD'.out HQs.out HLs.out HFs.out hst' hrg5 hg5)
        have HL5 := hid hrg5.left_eq
        clear hrun hrg5 hg5 hst hst'
        go_wp2_with fail
        go_roundw
        case rel => exact ⟨_, _, HSt.out⟩
        case measure => rw [HL5.out, HL0.out]; omega

set_option maxRecDepth 100000 in
theorem start_none_any (h : DkA w X bd cnt D p none fp fv e l) (c : Int) :
    Calls Tryd.prog 18 #[.pointer (some ⟨bd, 0, none⟩), .int .i64 c] w fun en w' => en = .returned (.tuple #[]) ∧ DkEnd w X bd cnt (DK.start D c) (-1) w' := by
  have HC := hid (cut_any h (-1) (by omega))
  clear h
  go_enter Tryd.func18, Tryd.ntmps18
  go_wp2_with fail
  refine HC.out.mono ?_
  rintro en w1 ⟨rfl, ⟨e1, l1, h1⟩, hg1⟩
  have c0 := h1.c0
  have HQ : Hid (DkEnd w X bd cnt (DK.start D c) (-1) (w1.alloc (.mapIter none 0 #[] 0))) := by
    have hD : DK.start D c = D := by
      funext s
      have hn : D s = none := (h1.files.no s).1 (h1.nomap rfl s)
      rw [DK.start_none hn, hn]
    rw [hD]
    exact ⟨X, ⟨_, _, _, _, _, h1.below ((Below.refl _ _).alloc (Nat.le_refl _) _)⟩, (ChEnd.fr hg1 h1.xd).trans (XFr.alloc X _ _) (fun j hj => .inl hj), fun j hj => .inl hj⟩
  have hrn := run_range_nilMap w1 24 9 86 Tryd.underlying24
  clear h1 hg1 HC
  have hnx := run_next_nilMap (P := Tryd.prog) w1
  go_wp2_with fail
  refine wp_loop_rounds 1 ?_
  rw [rounds_succ]
  go_wp2
  go_end0
  exact ⟨rfl, HQ.out⟩

theorem start_any (h : DkA w X bd cnt D p mo fp fv e l) (c : Int) (hc0 : -9223372036854775808 ≤ c) (hc1 : c ≤ 9223372036854775807) (hF : DK.Fine 1000000000 D) :
    Calls Tryd.prog 18 #[.pointer (some ⟨bd, 0, none⟩), .int .i64 c] w fun en w' => en = .returned (.tuple #[]) ∧ DkEnd w X bd cnt (DK.start D c) (-1) w' := by
  cases mo with
  | none => exact start_none_any h c
  | some bm => exact start_some_any h c hc0 hc1 hF

end

end Go.Proofs.YtdmnlmohfaafoadDoor
