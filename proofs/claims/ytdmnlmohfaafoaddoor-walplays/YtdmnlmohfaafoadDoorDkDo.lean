/- What the disk's Sync, Move, Remove and Read do. -/
import Derived.Test.YtdmnlmohfaafoadDoorDkAdd
namespace Go.Proofs.YtdmnlmohfaafoadDoor
open Go.RowKit Go.Maps

/-- What a change answers and leaves: 0 Append, 1 Sync, 2 Move, 3 Remove. -/
def MetEnd (a : Nat) (w : World) (X : Nat → Prop) (bd cnt : Nat) (D : DK.M) (p : Int) (n s : ByteArray) (en : Ending) (w' : World) : Prop :=
  en = .returned (er (DK.code a D p n s)) ∧ DkEnd w X bd (cnt + 1) (DK.aftD a D p n s) (DK.aftP a D p n s) w'

section
variable {w : World} {X : Nat → Prop} {bd cnt : Nat} {D : DK.M} {p : Int} {mo : Option Nat} {fp : ByteArray → Option Nat} {fv : ByteArray → Value} {e : Bool} {l : Int}

/-- An error: nothing is done. -/
theorem MetEnd.err {a : Nat} {n s : ByteArray} {c : Int} (h : DkA w X bd cnt D p mo fp fv e l) (hc : DK.code a D p n s = c) (h0 : c ≠ 0) : MetEnd a w X bd cnt D p n s (.returned (.iface 34 (.int .i64 c))) w := by
  refine ⟨?_, X, ⟨mo, fp, fv, e, l, ?_⟩, XFr.refl _ _, fun j hj => .inl hj⟩
  · rw [hc]; unfold er; rw [if_neg h0]
  · unfold DK.aftD DK.aftP
    rw [if_neg (by rw [hc]; exact h0), if_neg (by rw [hc]; exact h0)]
    exact h.mono (Nat.le_succ _)

theorem MetEnd.ok {a : Nat} {n s : ByteArray} {w' : World} (hc : DK.code a D p n s = 0) (h : DkEnd w X bd (cnt + 1) (DK.next a D n s) (DK.dec p) w') : MetEnd a w X bd cnt D p n s (.returned .nilIface) w' := by
  refine ⟨?_, ?_⟩
  · rw [hc]; rfl
  · unfold DK.aftD DK.aftP
    rw [if_pos hc, if_pos hc]
    exact h

/-- The disk's power, and its block alone, have turned. -/
theorem ChEnd.fr {w' : World} (h : w.grownBy w' (some bd)) (hx : X bd) : XFr X w w' := XFr.grown h (fun j hj => by cases hj; exact .inl hx)

set_option maxRecDepth 100000 in
theorem append_any (h : DkA w X bd cnt D p mo fp fv e l) (n s : ByteArray) (hn : n.size ≤ maxLen) (hc : cnt < 1000000) (hF : DK.Fine 100000000 D) (hs : s.size ≤ 100000000) :
    Calls Tryd.prog 44 #[.pointer (some ⟨bd, 0, none⟩), .string n, .string s] w fun en w' => MetEnd 0 w X bd cnt D p n s en w' := by
  have HI := hid h
  have HC := hid (change_any h)
  have HF := hid hF
  clear h hF
  go_enter Tryd.func44, Tryd.ntmps44
  go_wp2_with fail
  refine (named_any n w).mono ?_
  rintro en w1 ⟨rfl, rfl⟩
  cases hnm : DK.named n with
  | false =>
    have HQ := hid (MetEnd.err HI.out (DK.code_arg (a := 0) (s := s) (.inl ⟨rfl, hnm⟩)) (by omega))
    go_wp2
    go_ret
    exact HQ.out
  | true =>
    go_wp2_with fail
    refine HC.out.mono ?_
    rintro en w2 (⟨hp, rfl, rfl⟩ | ⟨hp, rfl, ⟨e2, l2, h2⟩, hg2⟩)
    · subst hp
      have HQ := hid (MetEnd.err HI.out (DK.code_off (a := 0) (s := s) (fun _ => hnm) (by omega) (by omega)) (by omega))
      go_wp2
      go_ret
      exact HQ.out
    · have HX2 := hid (ChEnd.fr hg2 h2.xd)
      have HM := hid (made_any h2 n hn hc)
      have HP := hid hp
      clear h2 hg2 hp HC
      go_wp2_with fail
      refine HM.out.mono ?_
      rintro en w3 ⟨q, X3, mo3, fp3, fv3, e3, l3, rfl, hq, h3, hx3, hsub3⟩
      have hD3 : DK.put D n ((D n).getD DK.new) n = some ((D n).getD DK.new) := DK.put_same _ _ _
      obtain ⟨b1, b2, b3, b4⟩ := h3.files.body n q _ hq hD3
      have hc0 := zcell _ q _ _ b2 0 (fv3 n) rfl
      have H3 := hid h3
      have HR3 := hid b3
      have HX3 := hid hx3
      have HS3 := hid hsub3
      have HD3 := hid hD3
      have HQq := hid hq
      have hsz : ((D n).getD DK.new).b.size ≤ 100000000 := (DK.getD_fine HF.out n).1
      clear h3 hx3 hsub3 b1 b2 b3 b4 hD3 HM hq
      have HXX := hid (HX2.out.trans (HX3.out) (fun j hj => .inl hj))
      have hsz23 := HX3.out.size
      have hsz12 := HX2.out.size
      go_wp2_with (at_builtin; refine wpList_append_row rfl (.tmp 25) (.tmp 26) rfl (fv3 n) _ s rfl rfl HR3.out (by omega) ?_)
      intro v5 w5 hr5 hg5 hl5
      obtain ⟨a5, k5, c5, rfl⟩ : ∃ (ao : Option Addr) (k c : Nat), v5 = .slice ao k c := by
        obtain ⟨ao, cap, h0, _⟩ := hr5.shape
        exact ⟨ao, _, cap, h0⟩
      obtain ⟨hc5, hf5, h5, hx5⟩ := DkI.setRow H3.out HQq.out HD3.out hr5 hg5 hl5
      rw [DK.put_put] at h5
      have HQ : Hid (MetEnd 0 w1 X bd cnt D p n s (.returned .nilIface) (w5.setCell ⟨q, 0, none⟩ (.slice a5 k5 c5))) := by
        refine MetEnd.ok (DK.code_ok (fun _ => hnm) (by omega) (by omega) HP.out) ⟨_, ⟨mo3, fp3, _, e3, l3, h5⟩, ?_, ?_⟩
        · exact HXX.out.trans hx5 (fun j hj => by rcases HS3.out j hj with h1 | h1
                                                  · exact .inl h1
                                                  · exact .inr (by omega))
        · rintro j (hj | hj)
          · rcases HS3.out j hj with h1 | h1
            · exact .inl h1
            · exact .inr (by omega)
          · exact .inr (by omega)
      clear h5 hx5 hr5 hg5 hl5
      go_wp2
      go_ret
      exact HQ.out

set_option maxRecDepth 100000 in
theorem read_any (h : DkA w X bd cnt D p mo fp fv e l) (n : ByteArray) (hn : n.size ≤ maxLen) :
    Calls Tryd.prog 36 #[.pointer (some ⟨bd, 0, none⟩), .string n] w fun en w' =>
      ((D n = none ∧ en = .returned (.tuple #[.string ByteArray.empty, .iface 34 (.int .i64 7)])) ∨ ∃ f, D n = some f ∧ en = .returned (.tuple #[.string f.b, .nilIface])) ∧ w' = w := by
  have HF := hid (find_any h n hn)
  have HI := hid h
  clear h
  go_enter Tryd.func36, Tryd.ntmps36
  go_wp2_with fail
  refine HF.out.mono ?_
  rintro en w1 ⟨⟨hf, rfl⟩ | ⟨q, hf, rfl⟩, rfl⟩
  · go_wp2
    go_ret2
    exact ⟨.inl ⟨(HI.out.files.no n).1 hf, rfl⟩, rfl⟩
  · obtain ⟨f, hD⟩ := HI.out.files.hasF hf
    obtain ⟨b1, b2, b3, b4⟩ := HI.out.files.body n q f hf hD
    have hc0 := zcell _ q _ _ b2 0 (fv n) rfl
    have hcv := b3.text (P := Tryd.prog) (src := 80) (dst := 9) Tryd.underlying80 Tryd.underlying5 Tryd.underlying9
    clear b1 b2 b3 b4 HF
    go_wp2
    go_ret2
    exact ⟨.inr ⟨f, hD, rfl⟩, rfl⟩

set_option maxRecDepth 100000 in
theorem sync_any (h : DkA w X bd cnt D p mo fp fv e l) (n : ByteArray) (hn : n.size ≤ maxLen) :
    Calls Tryd.prog 45 #[.pointer (some ⟨bd, 0, none⟩), .string n] w fun en w' => MetEnd 1 w X bd cnt D p n ByteArray.empty en w' := by
  have HT := hid (take_any h n hn)
  have HI := hid h
  clear h
  go_enter Tryd.func45, Tryd.ntmps45
  go_wp2_with fail
  refine HT.out.mono ?_
  rintro en w1 (⟨hf, rfl, rfl⟩ | ⟨hf, hp, rfl, rfl⟩ | ⟨q, hf, hp, rfl, ⟨e1, l1, h1⟩, hg1⟩)
  · go_wp2
    go_ret
    exact MetEnd.err HI.out (DK.code_missing (by omega) (by omega) ((HI.out.files.no n).1 hf)) (by omega)
  · go_wp2
    go_ret
    subst hp
    exact MetEnd.err HI.out (DK.code_off (by omega) (by omega) (fun _ hD => hf ((HI.out.files.no n).2 hD))) (by omega)
  · obtain ⟨f, hD⟩ := HI.out.files.hasF hf
    obtain ⟨b1, b2, b3, b4⟩ := h1.files.body n q f hf hD
    have H1 := hid h1
    have HG := hid hg1
    have HB := hid b2
    have HR := hid b3
    have hc0 := zcell _ q _ _ b2 0 (fv n) rfl
    have hc1 := zcell _ q _ _ b2 1 _ rfl
    have hc2 := zcell _ q _ _ b2 2 _ rfl
    have hf1 := zfrozen _ q _ _ b2 1
    have hf2 := zfrozen _ q _ _ b2 2
    obtain ⟨ao, cap, hv, _⟩ := b3.shape
    have HV := hid hv
    rw [hv] at hc0
    have HE : Hid (DkEnd w X bd (cnt + 1) (DK.next 1 D n ByteArray.empty) (DK.dec p) ((w1.setCell ⟨q, 1, none⟩ (.int .i64 f.b.size)).setCell ⟨q, 2, none⟩ (.bool true))) := by
      have hqb : ∀ j, j ≠ q → ((w1.setCell ⟨q, 1, none⟩ (.int .i64 f.b.size)).setCell ⟨q, 2, none⟩ (.bool true)).heap[j]? = w1.heap[j]? := fun j hj => (Below.heap_setCell _ ⟨q, 2, none⟩ _ j hj).trans (Below.heap_setCell w1 ⟨q, 1, none⟩ _ j hj)
      have hset := (h1.set (w' := (w1.setCell ⟨q, 1, none⟩ (.int .i64 f.b.size)).setCell ⟨q, 2, none⟩ (.bool true)) (f' := ⟨f.b, f.b.size, true⟩) (v' := fv n) hf (by simp) (fun j _ hj _ => hqb j hj) (by rw [heap_setCell_same _ q 2 _ _ _ (heap_setCell_same w1 q 1 _ _ _ b2)]; rfl)
        (b3.block fun g hg => hqb g (fun e2 => by
          subst e2
          obtain ⟨cur, hc⟩ := b3.at hg
          rw [b2] at hc
          simp at hc)) (fun g hg => .inl hg)).mono (Nat.le_succ _)
      refine ⟨fun j => X j ∨ w1.heap.size ≤ j, ⟨mo, fp, putV fv n (fv n), e1, l1, ?_⟩, (ChEnd.fr hg1 h1.xd).trans ((XFr.setCell w1 ⟨q, 1, none⟩ _ (X := X) b1).trans (XFr.setCell _ ⟨q, 2, none⟩ _ (X := X) b1) (fun j hj => .inl hj)) (fun j hj => .inl hj), ?_⟩
      · unfold DK.next
        rw [hD]
        exact hset
      · rintro j (hj | hj)
        · exact .inl hj
        · exact .inr (Nat.le_trans hg1.size hj)
    have HQ := hid (MetEnd.ok (DK.code_ok (a := 1) (s := ByteArray.empty) (by omega) (by omega) (fun _ h0 => by rw [hD] at h0; cases h0) hp) HE.out)
    clear h1 hg1 b1 b2 b3 b4 hv HT
    go_wp2
    go_ret
    exact HQ.out

set_option maxRecDepth 100000 in
theorem remove_any (h : DkA w X bd cnt D p mo fp fv e l) (n : ByteArray) (hn : n.size ≤ maxLen) :
    Calls Tryd.prog 71 #[.pointer (some ⟨bd, 0, none⟩), .string n] w fun en w' => MetEnd 3 w X bd cnt D p n ByteArray.empty en w' := by
  have HT := hid (take_any h n hn)
  have HI := hid h
  clear h
  go_enter Tryd.func71, Tryd.ntmps71
  go_wp2_with fail
  refine HT.out.mono ?_
  rintro en w1 (⟨hf, rfl, rfl⟩ | ⟨hf, hp, rfl, rfl⟩ | ⟨q, hf, hp, rfl, ⟨e1, l1, h1⟩, hg1⟩)
  · go_wp2
    go_ret
    exact MetEnd.err HI.out (DK.code_missing (by omega) (by omega) ((HI.out.files.no n).1 hf)) (by omega)
  · go_wp2
    go_ret
    subst hp
    exact MetEnd.err HI.out (DK.code_off (by omega) (by omega) (fun _ hD => hf ((HI.out.files.no n).2 hD))) (by omega)
  · obtain ⟨f, hD⟩ := HI.out.files.hasF hf
    cases mo with
    | none => rw [h1.nomap rfl n] at hf; cases hf
    | some bm =>
      have c0 := h1.c0
      obtain ⟨m1, m2⟩ := h1.map bm rfl
      obtain ⟨w2, hrun, hM, hg2, _⟩ := m2.drop Tryd.underlying9 Tryd.underlying24 hn 0
      have hdel : ∀ ty, (Builtin.delete_ #[24, 9] ty #[.map (some bm), .string n]).run Tryd.prog w1 = .ok (.tuple #[]) w2 := fun ty => hrun
      rw [← pF_cut] at hM
      have HQ : Hid (MetEnd 3 w X bd cnt D p n ByteArray.empty (.returned .nilIface) w2) := by
        refine MetEnd.ok (DK.code_ok (a := 3) (by omega) (by omega) (fun _ h0 => by rw [hD] at h0; cases h0) hp) ⟨X, ⟨some bm, _, _, e1, l1, (h1.remap rfl hg2 hM (h1.files.cut n)).mono (Nat.le_succ _)⟩, (ChEnd.fr hg1 h1.xd).trans (XFr.grown (X := X) hg2 (fun j hj => by cases hj; exact .inl m1)) (fun j hj => .inl hj), fun j hj => .inl hj⟩
      clear h1 hg1 m1 m2 hM hg2 HT hrun
      go_wp2
      go_ret
      exact HQ.out

set_option maxRecDepth 100000 in
theorem move_any (h : DkA w X bd cnt D p mo fp fv e l) (n to : ByteArray) (hn : n.size ≤ maxLen) (ht : to.size ≤ maxLen) (hc : cnt < 1000000) :
    Calls Tryd.prog 80 #[.pointer (some ⟨bd, 0, none⟩), .string n, .string to] w fun en w' => MetEnd 2 w X bd cnt D p n to en w' := by
  have HT := hid (take_any h n hn)
  have HI := hid h
  clear h
  go_enter Tryd.func80, Tryd.ntmps80
  go_wp2_with fail
  refine (named_any to w).mono ?_
  rintro en w0 ⟨rfl, rfl⟩
  cases hnm : DK.named to with
  | false =>
    have HQ := hid (MetEnd.err HI.out (DK.code_arg (a := 2) (n := n) (.inr ⟨rfl, hnm⟩)) (by omega))
    go_wp2
    go_ret
    exact HQ.out
  | true =>
    go_wp2_with fail
    refine HT.out.mono ?_
    rintro en w1 (⟨hf, rfl, rfl⟩ | ⟨hf, hp, rfl, rfl⟩ | ⟨q, hf, hp, rfl, ⟨e1, l1, h1⟩, hg1⟩)
    · go_wp2
      go_ret
      exact MetEnd.err HI.out (DK.code_missing (by omega) (fun _ => hnm) ((HI.out.files.no n).1 hf)) (by omega)
    · go_wp2
      go_ret
      subst hp
      exact MetEnd.err HI.out (DK.code_off (by omega) (fun _ => hnm) (fun _ hD => hf ((HI.out.files.no n).2 hD))) (by omega)
    · obtain ⟨f, hD⟩ := HI.out.files.hasF hf
      cases mo with
      | none => rw [h1.nomap rfl n] at hf; cases hf
      | some bm =>
        have c0 := h1.c0
        obtain ⟨m1, m2⟩ := h1.map bm rfl
        obtain ⟨w2, hrun, hM, hg2, _⟩ := m2.drop Tryd.underlying9 Tryd.underlying24 hn 0
        have hdel : ∀ ty, (Builtin.delete_ #[24, 9] ty #[.map (some bm), .string n]).run Tryd.prog w1 = .ok (.tuple #[]) w2 := fun ty => hrun
        rw [← pF_cut] at hM
        have h2 := h1.remap rfl hg2 hM (h1.files.cut n)
        have c02 := h2.c0
        obtain ⟨w3, hrun3, hM3, hg3⟩ := hM.store Tryd.underlying9 Tryd.underlying24 (by unfold maxLen; omega) ht (.pointer (some ⟨q, 0, none⟩))
        rw [← pF_put] at hM3
        have hg13 := hg2.trans hg3
        have HQ : Hid (MetEnd 2 w0 X bd cnt D p n to (.returned .nilIface) w3) := by
          refine MetEnd.ok (DK.code_ok (a := 2) (by omega) (fun _ => hnm) (fun _ h0 => by rw [hD] at h0; cases h0) hp) ⟨X, ⟨some bm, putN (cutN fp n) to q, putV fv to (fv n), e1, l1, ?_⟩, (ChEnd.fr hg1 h1.xd).trans (XFr.grown (X := X) hg13 (fun j hj => by cases hj; exact .inl m1)) (fun j hj => .inl hj), fun j hj => .inl hj⟩
          unfold DK.next
          rw [hD]
          exact h1.remap rfl hg13 hM3 (h1.files.move hf hD)
        clear h1 h2 hg1 m1 m2 hM hg2 HT hrun hM3 hg3 hg13
        go_wp2
        go_ret
        exact HQ.out

end

end Go.Proofs.YtdmnlmohfaafoadDoor
