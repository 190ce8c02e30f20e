/- What the document's Change does. -/
import Derived.Test.YtdmnlmohfaafoacDoorDkRef
import Derived.Deep.RegionWith
namespace Go.Proofs.YtdmnlmohfaafoacDoor
open Go.RowKit Go.Maps

section
variable {w : World} {br bm cnt : Nat} {D : DK.M} {p : Int}

/-- A file is written. -/
theorem rput_end {W w' : World} {n : ByteArray} {f' : DK.Fl} (h : RfA W br bm cnt D p) (hx : RFr br bm w W) (hM : MapF Tryd.prog 9 w' bm (cnt + 1) (upd (rF D) n (rV f'))) (hg : W.drew.grownBy w' (some bm)) : RfA w' br bm (cnt + 1) (DK.put D n f') p ∧ RFr br bm w w' := by
  have hg' : W.grownBy w' (some bm) := ⟨hg.os, hg.tape, hg.output, hg.size, hg.block⟩
  refine ⟨h.remap hg' (by rw [rF_put]; exact hM), hx.trans (XFr.grown (X := fun j => j = br ∨ j = bm) hg' (fun j hj => by cases hj; exact .inl (.inr rfl))) (fun j hj => .inl hj)⟩

/-- The box in which a file was laid. -/
structure BoxF (w W : World) (br bm bx : Nat) (b0 : ByteArray) (s0 : Int) : Prop where
  ne : bx ≠ br ∧ bx ≠ bm
  at' : W.heap[bx]? = some (.cells #[.string b0, .int .i64 s0] 48)
  fr : RFr br bm w W
  lt : w.heap.size ≤ bx

theorem BoxF.made (h : RfA w br bm cnt D p) (b0 : ByteArray) (s0 : Int) : BoxF w (w.alloc (.cells #[.string b0, .int .i64 s0] 48)) br bm w.heap.size b0 s0 where
  ne := by have := h.lt; omega
  at' := heap_alloc_new w _
  fr := XFr.alloc _ _ _
  lt := Nat.le_refl _

theorem BoxF.power {W : World} {bx : Nat} {b0 : ByteArray} {s0 : Int} (h : BoxF w W br bm bx b0 s0) (u : Value) : BoxF w (W.setCell ⟨br, 1, none⟩ u) br bm bx b0 s0 where
  ne := h.ne
  at' := (Below.heap_setCell W ⟨br, 1, none⟩ u bx h.ne.1).trans h.at'
  fr := h.fr.trans (XFr.setCell W ⟨br, 1, none⟩ u (X := fun j => j = br ∨ j = bm) (.inl rfl)) (fun _ hj => .inl hj)
  lt := h.lt

theorem BoxF.sets {W : World} {bx : Nat} {b0 : ByteArray} {s0 : Int} (h : BoxF w W br bm bx b0 s0) (s1 : Int) : BoxF w (W.setCell ⟨bx, 1, none⟩ (.int .i64 s1)) br bm bx b0 s1 where
  ne := h.ne
  at' := by rw [heap_setCell_same W bx 1 _ _ _ h.at']; rfl
  fr := h.fr.trans (XFr.setCell W ⟨bx, 1, none⟩ _ (X := fun j => j = bx) rfl) (fun j hj => .inr (by rw [hj]; exact h.lt))
  lt := h.lt

theorem RfI.box {W : World} {bx : Nat} (h : RfA W br bm cnt D p) (h1 : bx ≠ br ∧ bx ≠ bm) (u : Value) : RfA (W.setCell ⟨bx, 1, none⟩ u) br bm cnt D p :=
  h.kept (Below.heap_setCell W ⟨bx, 1, none⟩ u br (fun e => h1.1 e.symm)) (Below.heap_setCell W ⟨bx, 1, none⟩ u bm (fun e => h1.2 e.symm))

theorem zcell' (w : World) (b : Nat) (a : Array Value) (t : TypeId) (h : w.heap[b]? = some (.cells a t)) (i : Nat) (v : Value) (hv : a[i]? = some v) : w.cell? ⟨b, i, none⟩ = some v := by simp [World.cell?, h, hv]

theorem zfrozen' (w : World) (b : Nat) (a : Array Value) (t : TypeId) (h : w.heap[b]? = some (.cells a t)) (i : Nat) : w.frozen? ⟨b, i, none⟩ = false := by simp [World.frozen?, h]

/- The walks, written by mkrch.py. -/

set_option maxRecDepth 100000 in
set_option maxHeartbeats 1600000 in
theorem rchange0_any (h : RfA w br bm cnt D p) (n s : ByteArray) (hn : n.size ≤ maxLen) (hF : DK.Fine 100000000 D) (hs : s.size ≤ 100000000) (hp2 : p ≤ 9223372036854775807) (hc : cnt < 1000000) :
    Calls Tryd.prog 7 #[.pointer (some ⟨br, 0, none⟩), .int .i64 0, .string n, .string s] w fun en w' => RchEnd 0 w br bm cnt D p n s en w' := by
  have hL := h.look (W := w) n hn rfl
  have c0 := h.c0
  have HI := hid h
  have HF := hid hF
  clear h hF
  generalize hfv : ((D n).map rV).getD (.agg #[.string ⟨#[]⟩, .int .i64 0]) = fvv at hL
  generalize hok : (D n).isSome = ok at hL
  obtain ⟨b0, s0, rfl⟩ : ∃ b0 s0, fvv = .agg #[.string b0, .int .i64 s0] := by
    rw [← hfv]
    cases D n with
    | none => exact ⟨_, _, rfl⟩
    | some f => exact ⟨_, _, rfl⟩
  have HFV := hid hfv
  have HOK := hid hok
  have HI1 := hid (HI.out.below (w' := w.alloc (.cells #[.string b0, .int .i64 s0] 48)) ((Below.refl _ _).alloc (Nat.le_refl _) _))
  have c1 := HI1.out.c1
  have c01 := HI1.out.c0
  have f1 := HI1.out.fr 1
  have HBX := hid (BoxF.made HI.out b0 s0)
  clear hfv hok HI
  go_enter Tryd.func7, Tryd.ntmps7
  go_wp2_with fail
  generalize w.alloc (.cells #[.string b0, .int .i64 s0] 48) = w1 at *
  generalize w.heap.size = bx at *
  refine (dkin_any n w1).mono ?_
  rintro en w1' ⟨rfl, rfl⟩
  cases hnm : DK.named n with
  | false =>
    have HQ := hid (RchEnd.err (w := w) (DK.code_arg (a := 0) (n := n) (s := s) (.inl ⟨rfl, hnm⟩)) (by omega) HI1.out HBX.out.fr)
    go_wp2
    go_ret
    exact HQ.out
  | true =>
    cases hDn : D n with
    | none =>
      have hok : ok = false := by have := HOK.out; rw [hDn] at this; exact this.symm
      have hb0 : b0 = ⟨#[]⟩ := by have := HFV.out; rw [hDn] at this; simp at this; exact this.1.symm
      subst hok
      have HB0 := hid hb0
      have hsz : b0.size ≤ 100000000 := by rw [hb0]; exact Nat.zero_le _
      clear hb0
      have hcat : ¬ 9223372036854775807 < b0.size + s.size := by omega
      by_cases hp0 : p = 0
      · subst hp0
        have HQ := hid (RchEnd.err (w := w) (DK.code_off (a := 0) (s := s) (fun _ => hnm) (by omega) (by omega)) (by omega) HI1.out HBX.out.fr)
        go_wp2
        go_ret
        exact HQ.out
      · by_cases hpos : 0 < p
        · have hwr : IntKind.i64.wrap (p - 1) = p - 1 := by rw [IntKind.wrap_i64]; omega
          have hwr' : wrap64 (p - 1) = p - 1 := by unfold wrap64; omega
          have HI2 : Hid (RfA (w1'.setCell ⟨br, 1, none⟩ (.int .i64 (p - 1))) br bm cnt D (DK.dec p)) := HI1.out.dec hpos
          have HB2 : Hid (BoxF w (w1'.setCell ⟨br, 1, none⟩ (.int .i64 (p - 1))) br bm bx b0 s0) := HBX.out.power _
          have k0 := zcell' _ _ _ _ HB2.out.at' 0 _ rfl
          have k1 := zcell' _ _ _ _ HB2.out.at' 1 _ rfl
          have k2 := zfrozen' _ _ _ _ HB2.out.at' 1
          have HI3 : Hid (RfA ((w1'.setCell ⟨br, 1, none⟩ (.int .i64 (p - 1))).setCell ⟨bx, 1, none⟩ (.int .i64 (-1))) br bm cnt D (DK.dec p)) := HI2.out.box HB2.out.ne _
          have HB3 : Hid (BoxF w ((w1'.setCell ⟨br, 1, none⟩ (.int .i64 (p - 1))).setCell ⟨bx, 1, none⟩ (.int .i64 (-1))) br bm bx b0 (-1)) := HB2.out.sets _
          have m0 := HI3.out.c0
          have l0 := zcell' _ _ _ _ HB3.out.at' 0 _ rfl
          have l1 := zcell' _ _ _ _ HB3.out.at' 1 _ rfl
          obtain ⟨w9, hrun, hM, hg⟩ := MapF.store (w := ((w1'.setCell ⟨br, 1, none⟩ (.int .i64 (p - 1))).setCell ⟨bx, 1, none⟩ (.int .i64 (-1))).drew) (HI3.out.map.block rfl) Tryd.underlying9 Tryd.underlying38 (by unfold maxLen; omega) hn (.agg #[.string (b0 ++ s), .int .i64 (-1)])
          have HV : Hid (.agg #[.string (b0 ++ s), .int .i64 (-1)] = rV (DK.gr D n s)) := by
            show _ = _
            unfold rV DK.gr sfe
            rw [hDn, HB0.out]
            rfl
          rw [HV.out] at hM
          have HE := hid (rput_end HI3.out HB3.out.fr hM hg)
          have HQ : Hid (RchEnd 0 w br bm cnt D p n s (.returned (.int .i64 0)) w9) := RchEnd.ok (DK.code_ok (a := 0) (s := s) (fun _ => hnm) (by omega) (by omega) hp0) HE.out.1 HE.out.2
          clear hM hg HE HV HI3 HB3 HI2 HB2 HFV HOK HF HBX HI1
          go_wp2_with fail
          go_region
          all_goals
            go_wp2
            go_ret
            exact HQ.out
        · have HI2 : Hid (RfA w1' br bm cnt D (DK.dec p)) := by
            show RfI _ _ _ _ _ _ _
            rw [dec_neg hpos]; exact HI1.out
          have HB2 : Hid (BoxF w w1' br bm bx b0 s0) := HBX.out
          have k0 := zcell' _ _ _ _ HB2.out.at' 0 _ rfl
          have k1 := zcell' _ _ _ _ HB2.out.at' 1 _ rfl
          have k2 := zfrozen' _ _ _ _ HB2.out.at' 1
          have HI3 : Hid (RfA (w1'.setCell ⟨bx, 1, none⟩ (.int .i64 (-1))) br bm cnt D (DK.dec p)) := HI2.out.box HB2.out.ne _
          have HB3 : Hid (BoxF w (w1'.setCell ⟨bx, 1, none⟩ (.int .i64 (-1))) br bm bx b0 (-1)) := HB2.out.sets _
          have m0 := HI3.out.c0
          have l0 := zcell' _ _ _ _ HB3.out.at' 0 _ rfl
          have l1 := zcell' _ _ _ _ HB3.out.at' 1 _ rfl
          obtain ⟨w9, hrun, hM, hg⟩ := MapF.store (w := (w1'.setCell ⟨bx, 1, none⟩ (.int .i64 (-1))).drew) (HI3.out.map.block rfl) Tryd.underlying9 Tryd.underlying38 (by unfold maxLen; omega) hn (.agg #[.string (b0 ++ s), .int .i64 (-1)])
          have HV : Hid (.agg #[.string (b0 ++ s), .int .i64 (-1)] = rV (DK.gr D n s)) := by
            show _ = _
            unfold rV DK.gr sfe
            rw [hDn, HB0.out]
            rfl
          rw [HV.out] at hM
          have HE := hid (rput_end HI3.out HB3.out.fr hM hg)
          have HQ : Hid (RchEnd 0 w br bm cnt D p n s (.returned (.int .i64 0)) w9) := RchEnd.ok (DK.code_ok (a := 0) (s := s) (fun _ => hnm) (by omega) (by omega) hp0) HE.out.1 HE.out.2
          clear hM hg HE HV HI3 HB3 HI2 HB2 HFV HOK HF HBX HI1
          go_wp2_with fail
          go_region
          all_goals
            go_wp2
            go_ret
            exact HQ.out
    | some f =>
      have hok : ok = true := by have := HOK.out; rw [hDn] at this; exact this.symm
      have hb0 : b0 = f.b := by have := HFV.out; rw [hDn] at this; simp at this; exact this.1.symm
      have hs0 : s0 = sfe f := by have := HFV.out; rw [hDn] at this; simp at this; exact this.2.symm
      have hsz : f.b.size ≤ 100000000 := (HF.out n f hDn).2.1
      rw [← hb0] at hsz
      subst hok
      have HB0 := hid hb0
      have HS0 := hid hs0
      clear hb0 hs0
      have hcat : ¬ 9223372036854775807 < b0.size + s.size := by omega
      by_cases hp0 : p = 0
      · subst hp0
        have HQ := hid (RchEnd.err (w := w) (DK.code_off (a := 0) (s := s) (fun _ => hnm) (by omega) (by omega)) (by omega) HI1.out HBX.out.fr)
        go_wp2
        go_ret
        exact HQ.out
      · by_cases hpos : 0 < p
        · have hwr : IntKind.i64.wrap (p - 1) = p - 1 := by rw [IntKind.wrap_i64]; omega
          have hwr' : wrap64 (p - 1) = p - 1 := by unfold wrap64; omega
          have HI2 : Hid (RfA (w1'.setCell ⟨br, 1, none⟩ (.int .i64 (p - 1))) br bm cnt D (DK.dec p)) := HI1.out.dec hpos
          have HB2 : Hid (BoxF w (w1'.setCell ⟨br, 1, none⟩ (.int .i64 (p - 1))) br bm bx b0 s0) := HBX.out.power _
          have k0 := zcell' _ _ _ _ HB2.out.at' 0 _ rfl
          have k1 := zcell' _ _ _ _ HB2.out.at' 1 _ rfl
          have k2 := zfrozen' _ _ _ _ HB2.out.at' 1
          have HI3 := HI2
          have HB3 := HB2
          have m0 := HI3.out.c0
          have l0 := zcell' _ _ _ _ HB3.out.at' 0 _ rfl
          have l1 := zcell' _ _ _ _ HB3.out.at' 1 _ rfl
          obtain ⟨w9, hrun, hM, hg⟩ := MapF.store (w := (w1'.setCell ⟨br, 1, none⟩ (.int .i64 (p - 1))).drew) (HI3.out.map.block rfl) Tryd.underlying9 Tryd.underlying38 (by unfold maxLen; omega) hn (.agg #[.string (b0 ++ s), .int .i64 s0])
          have HV : Hid (.agg #[.string (b0 ++ s), .int .i64 s0] = rV (DK.gr D n s)) := by
            show _ = _
            unfold rV DK.gr sfe
            rw [hDn, HB0.out, HS0.out]
            rfl
          rw [HV.out] at hM
          have HE := hid (rput_end HI3.out HB3.out.fr hM hg)
          have HQ : Hid (RchEnd 0 w br bm cnt D p n s (.returned (.int .i64 0)) w9) := RchEnd.ok (DK.code_ok (a := 0) (s := s) (fun _ => hnm) (by omega) (by omega) hp0) HE.out.1 HE.out.2
          clear hM hg HE HV HI3 HB3 HI2 HB2 HFV HOK HF HBX HI1
          go_wp2_with fail
          go_region
          all_goals
            go_wp2
            go_ret
            exact HQ.out
        · have HI2 : Hid (RfA w1' br bm cnt D (DK.dec p)) := by
            show RfI _ _ _ _ _ _ _
            rw [dec_neg hpos]; exact HI1.out
          have HB2 : Hid (BoxF w w1' br bm bx b0 s0) := HBX.out
          have k0 := zcell' _ _ _ _ HB2.out.at' 0 _ rfl
          have k1 := zcell' _ _ _ _ HB2.out.at' 1 _ rfl
          have k2 := zfrozen' _ _ _ _ HB2.out.at' 1
          have HI3 := HI2
          have HB3 := HB2
          have m0 := HI3.out.c0
          have l0 := zcell' _ _ _ _ HB3.out.at' 0 _ rfl
          have l1 := zcell' _ _ _ _ HB3.out.at' 1 _ rfl
          obtain ⟨w9, hrun, hM, hg⟩ := MapF.store (w := w1'.drew) (HI3.out.map.block rfl) Tryd.underlying9 Tryd.underlying38 (by unfold maxLen; omega) hn (.agg #[.string (b0 ++ s), .int .i64 s0])
          have HV : Hid (.agg #[.string (b0 ++ s), .int .i64 s0] = rV (DK.gr D n s)) := by
            show _ = _
            unfold rV DK.gr sfe
            rw [hDn, HB0.out, HS0.out]
            rfl
          rw [HV.out] at hM
          have HE := hid (rput_end HI3.out HB3.out.fr hM hg)
          have HQ : Hid (RchEnd 0 w br bm cnt D p n s (.returned (.int .i64 0)) w9) := RchEnd.ok (DK.code_ok (a := 0) (s := s) (fun _ => hnm) (by omega) (by omega) hp0) HE.out.1 HE.out.2
          clear hM hg HE HV HI3 HB3 HI2 HB2 HFV HOK HF HBX HI1
          go_wp2_with fail
          go_region
          all_goals
            go_wp2
            go_ret
            exact HQ.out

set_option maxRecDepth 100000 in
set_option maxHeartbeats 1600000 in
theorem rchange1_any (h : RfA w br bm cnt D p) (n s : ByteArray) (hn : n.size ≤ maxLen) (hF : DK.Fine 100000000 D) (_hs : s.size ≤ 100000000) (hp2 : p ≤ 9223372036854775807) (hc : cnt < 1000000) :
    Calls Tryd.prog 7 #[.pointer (some ⟨br, 0, none⟩), .int .i64 1, .string n, .string s] w fun en w' => RchEnd 1 w br bm cnt D p n s en w' := by
  have hL := h.look (W := w) n hn rfl
  have c0 := h.c0
  have HI := hid h
  have HF := hid hF
  clear h hF
  generalize hfv : ((D n).map rV).getD (.agg #[.string ⟨#[]⟩, .int .i64 0]) = fvv at hL
  generalize hok : (D n).isSome = ok at hL
  obtain ⟨b0, s0, rfl⟩ : ∃ b0 s0, fvv = .agg #[.string b0, .int .i64 s0] := by
    rw [← hfv]
    cases D n with
    | none => exact ⟨_, _, rfl⟩
    | some f => exact ⟨_, _, rfl⟩
  have HFV := hid hfv
  have HOK := hid hok
  have HI1 := hid (HI.out.below (w' := w.alloc (.cells #[.string b0, .int .i64 s0] 48)) ((Below.refl _ _).alloc (Nat.le_refl _) _))
  have c1 := HI1.out.c1
  have c01 := HI1.out.c0
  have f1 := HI1.out.fr 1
  have HBX := hid (BoxF.made HI.out b0 s0)
  clear hfv hok HI
  cases hDn : D n with
  | none =>
    have hok : ok = false := by have := HOK.out; rw [hDn] at this; exact this.symm
    have hb0 : b0 = ⟨#[]⟩ := by have := HFV.out; rw [hDn] at this; simp at this; exact this.1.symm
    subst hok
    have HB0 := hid hb0
    clear hb0
    have HQ := hid (RchEnd.err (w := w) (DK.code_missing (a := 1) (s := s) (by omega) (by omega) hDn) (by omega) HI1.out HBX.out.fr)
    go_enter Tryd.func7, Tryd.ntmps7
    go_wp2
    go_ret
    exact HQ.out
  | some f =>
    have hok : ok = true := by have := HOK.out; rw [hDn] at this; exact this.symm
    have hb0 : b0 = f.b := by have := HFV.out; rw [hDn] at this; simp at this; exact this.1.symm
    have hs0 : s0 = sfe f := by have := HFV.out; rw [hDn] at this; simp at this; exact this.2.symm
    have hsz : f.b.size ≤ 100000000 := (HF.out n f hDn).2.1
    rw [← hb0] at hsz
    subst hok
    have HB0 := hid hb0
    have HS0 := hid hs0
    clear hb0 hs0
    by_cases hp0 : p = 0
    · subst hp0
      have HQ := hid (RchEnd.err (w := w) (DK.code_off (a := 1) (s := s) (by omega) (by omega) (fun _ h0 => by rw [hDn] at h0; cases h0)) (by omega) HI1.out HBX.out.fr)
      go_enter Tryd.func7, Tryd.ntmps7
      go_wp2
      go_ret
      exact HQ.out
    · by_cases hpos : 0 < p
      · have hwr : IntKind.i64.wrap (p - 1) = p - 1 := by rw [IntKind.wrap_i64]; omega
        have hwr' : wrap64 (p - 1) = p - 1 := by unfold wrap64; omega
        have HI2 : Hid (RfA ((w.alloc (.cells #[.string b0, .int .i64 s0] 48)).setCell ⟨br, 1, none⟩ (.int .i64 (p - 1))) br bm cnt D (DK.dec p)) := HI1.out.dec hpos
        have HB2 : Hid (BoxF w ((w.alloc (.cells #[.string b0, .int .i64 s0] 48)).setCell ⟨br, 1, none⟩ (.int .i64 (p - 1))) br bm w.heap.size b0 s0) := HBX.out.power _
        have k0 := zcell' _ _ _ _ HB2.out.at' 0 _ rfl
        have k1 := zcell' _ _ _ _ HB2.out.at' 1 _ rfl
        have k2 := zfrozen' _ _ _ _ HB2.out.at' 1
        have HI3 := HI2
        have HB3 := HB2
        have m0 := HI3.out.c0
        have l0 := zcell' _ _ _ _ HB3.out.at' 0 _ rfl
        have l1 := zcell' _ _ _ _ HB3.out.at' 1 _ rfl
        obtain ⟨w9, hrun, hM, hg⟩ := MapF.store (w := ((w.alloc (.cells #[.string b0, .int .i64 s0] 48)).setCell ⟨br, 1, none⟩ (.int .i64 (p - 1))).drew) (HI3.out.map.block rfl) Tryd.underlying9 Tryd.underlying38 (by unfold maxLen; omega) hn (.agg #[.string b0, .int .i64 b0.size])
        have HV : Hid (.agg #[.string b0, .int .i64 b0.size] = rV (⟨f.b, f.b.size, true⟩)) := by
          show _ = _
          rw [HB0.out]
          rfl
        rw [HV.out] at hM
        have HE := hid (rput_end HI3.out HB3.out.fr hM hg)
        have HQ : Hid (RchEnd 1 w br bm cnt D p n s (.returned (.int .i64 0)) w9) := RchEnd.ok (DK.code_ok (a := 1) (s := s) (by omega) (by omega) (fun _ h0 => by rw [hDn] at h0; cases h0) hp0) (by unfold DK.next; rw [hDn]; exact HE.out.1) HE.out.2
        clear hM hg HE HV HI3 HB3 HI2 HB2 HFV HOK HF HBX HI1
        go_enter Tryd.func7, Tryd.ntmps7
        go_wp2_with fail
        go_region
        all_goals
          go_wp2
          go_ret
          exact HQ.out
      · have HI2 : Hid (RfA (w.alloc (.cells #[.string b0, .int .i64 s0] 48)) br bm cnt D (DK.dec p)) := by
          show RfI _ _ _ _ _ _ _
          rw [dec_neg hpos]; exact HI1.out
        have HB2 : Hid (BoxF w (w.alloc (.cells #[.string b0, .int .i64 s0] 48)) br bm w.heap.size b0 s0) := HBX.out
        have k0 := zcell' _ _ _ _ HB2.out.at' 0 _ rfl
        have k1 := zcell' _ _ _ _ HB2.out.at' 1 _ rfl
        have k2 := zfrozen' _ _ _ _ HB2.out.at' 1
        have HI3 := HI2
        have HB3 := HB2
        have m0 := HI3.out.c0
        have l0 := zcell' _ _ _ _ HB3.out.at' 0 _ rfl
        have l1 := zcell' _ _ _ _ HB3.out.at' 1 _ rfl
        obtain ⟨w9, hrun, hM, hg⟩ := MapF.store (w := (w.alloc (.cells #[.string b0, .int .i64 s0] 48)).drew) (HI3.out.map.block rfl) Tryd.underlying9 Tryd.underlying38 (by unfold maxLen; omega) hn (.agg #[.string b0, .int .i64 b0.size])
        have HV : Hid (.agg #[.string b0, .int .i64 b0.size] = rV (⟨f.b, f.b.size, true⟩)) := by
          show _ = _
          rw [HB0.out]
          rfl
        rw [HV.out] at hM
        have HE := hid (rput_end HI3.out HB3.out.fr hM hg)
        have HQ : Hid (RchEnd 1 w br bm cnt D p n s (.returned (.int .i64 0)) w9) := RchEnd.ok (DK.code_ok (a := 1) (s := s) (by omega) (by omega) (fun _ h0 => by rw [hDn] at h0; cases h0) hp0) (by unfold DK.next; rw [hDn]; exact HE.out.1) HE.out.2
        clear hM hg HE HV HI3 HB3 HI2 HB2 HFV HOK HF HBX HI1
        go_enter Tryd.func7, Tryd.ntmps7
        go_wp2_with fail
        go_region
        all_goals
          go_wp2
          go_ret
          exact HQ.out

set_option maxRecDepth 100000 in
set_option maxHeartbeats 1600000 in
theorem rchange2_any (h : RfA w br bm cnt D p) (n s : ByteArray) (hn : n.size ≤ maxLen) (hF : DK.Fine 100000000 D) (_hs : s.size ≤ 100000000) (hp2 : p ≤ 9223372036854775807) (hc : cnt < 1000000) (hns : s.size ≤ maxLen) :
    Calls Tryd.prog 7 #[.pointer (some ⟨br, 0, none⟩), .int .i64 2, .string n, .string s] w fun en w' => RchEnd 2 w br bm cnt D p n s en w' := by
  have hL := h.look (W := w) n hn rfl
  have c0 := h.c0
  have HI := hid h
  have HF := hid hF
  clear h hF
  generalize hfv : ((D n).map rV).getD (.agg #[.string ⟨#[]⟩, .int .i64 0]) = fvv at hL
  generalize hok : (D n).isSome = ok at hL
  obtain ⟨b0, s0, rfl⟩ : ∃ b0 s0, fvv = .agg #[.string b0, .int .i64 s0] := by
    rw [← hfv]
    cases D n with
    | none => exact ⟨_, _, rfl⟩
    | some f => exact ⟨_, _, rfl⟩
  have HFV := hid hfv
  have HOK := hid hok
  have HI1 := hid (HI.out.below (w' := w.alloc (.cells #[.string b0, .int .i64 s0] 48)) ((Below.refl _ _).alloc (Nat.le_refl _) _))
  have c1 := HI1.out.c1
  have c01 := HI1.out.c0
  have f1 := HI1.out.fr 1
  have HBX := hid (BoxF.made HI.out b0 s0)
  clear hfv hok HI
  go_enter Tryd.func7, Tryd.ntmps7
  go_wp2_with fail
  generalize w.alloc (.cells #[.string b0, .int .i64 s0] 48) = w1 at *
  generalize w.heap.size = bx at *
  refine (dkin_any s w1).mono ?_
  rintro en w1' ⟨rfl, rfl⟩
  cases hnm : DK.named s with
  | false =>
    have HQ := hid (RchEnd.err (w := w) (DK.code_arg (a := 2) (n := n) (s := s) (.inr ⟨rfl, hnm⟩)) (by omega) HI1.out HBX.out.fr)
    go_wp2
    go_ret
    exact HQ.out
  | true =>
    cases hDn : D n with
    | none =>
      have hok : ok = false := by have := HOK.out; rw [hDn] at this; exact this.symm
      have hb0 : b0 = ⟨#[]⟩ := by have := HFV.out; rw [hDn] at this; simp at this; exact this.1.symm
      subst hok
      have HB0 := hid hb0
      clear hb0
      have HQ := hid (RchEnd.err (w := w) (DK.code_missing (a := 2) (s := s) (by omega) (fun _ => hnm) hDn) (by omega) HI1.out HBX.out.fr)
      go_wp2
      go_ret
      exact HQ.out
    | some f =>
      have hok : ok = true := by have := HOK.out; rw [hDn] at this; exact this.symm
      have hb0 : b0 = f.b := by have := HFV.out; rw [hDn] at this; simp at this; exact this.1.symm
      have hs0 : s0 = sfe f := by have := HFV.out; rw [hDn] at this; simp at this; exact this.2.symm
      have hsz : f.b.size ≤ 100000000 := (HF.out n f hDn).2.1
      rw [← hb0] at hsz
      subst hok
      have HB0 := hid hb0
      have HS0 := hid hs0
      clear hb0 hs0
      by_cases hp0 : p = 0
      · subst hp0
        have HQ := hid (RchEnd.err (w := w) (DK.code_off (a := 2) (s := s) (by omega) (fun _ => hnm) (fun _ h0 => by rw [hDn] at h0; cases h0)) (by omega) HI1.out HBX.out.fr)
        go_wp2
        go_ret
        exact HQ.out
      · by_cases hpos : 0 < p
        · have hwr : IntKind.i64.wrap (p - 1) = p - 1 := by rw [IntKind.wrap_i64]; omega
          have hwr' : wrap64 (p - 1) = p - 1 := by unfold wrap64; omega
          have HI2 : Hid (RfA (w1'.setCell ⟨br, 1, none⟩ (.int .i64 (p - 1))) br bm cnt D (DK.dec p)) := HI1.out.dec hpos
          have HB2 : Hid (BoxF w (w1'.setCell ⟨br, 1, none⟩ (.int .i64 (p - 1))) br bm bx b0 s0) := HBX.out.power _
          have k0 := zcell' _ _ _ _ HB2.out.at' 0 _ rfl
          have k1 := zcell' _ _ _ _ HB2.out.at' 1 _ rfl
          have k2 := zfrozen' _ _ _ _ HB2.out.at' 1
          have HI3 := HI2
          have HB3 := HB2
          have m0 := HI3.out.c0
          have l0 := zcell' _ _ _ _ HB3.out.at' 0 _ rfl
          have l1 := zcell' _ _ _ _ HB3.out.at' 1 _ rfl
          obtain ⟨w8, hrun, hM8, hg8, _⟩ := MapF.drop HI3.out.map Tryd.underlying9 Tryd.underlying38 hn 0
          have hdel : ∀ ty, (Builtin.delete_ #[38, 9] ty #[.map (some bm), .string n]).run Tryd.prog (w1'.setCell ⟨br, 1, none⟩ (.int .i64 (p - 1))) = .ok (.tuple #[]) w8 := fun ty => hrun
          rw [← rF_del] at hM8
          have HI8 := hid (HI3.out.remap hg8 hM8)
          have hx8 := (hg8.block bx (heap_lt HB3.out.at') (fun e1 => HB3.out.ne.2 (Option.some.inj e1))).trans HB3.out.at'
          have o0 := zcell' _ _ _ _ hx8 0 _ rfl
          have o1 := zcell' _ _ _ _ hx8 1 _ rfl
          have o2 := HI8.out.c0
          obtain ⟨w9, hrun9, hM, hg⟩ := MapF.store (w := w8.drew) (hM8.block rfl) Tryd.underlying9 Tryd.underlying38 (by unfold maxLen; omega) hns (.agg #[.string b0, .int .i64 s0])
          have HV : Hid (.agg #[.string b0, .int .i64 s0] = rV f) := by
            show _ = _
            rw [HB0.out, HS0.out]
          rw [HV.out] at hM
          have HE := hid (rput_end HI8.out (HB3.out.fr.trans (XFr.grown (X := fun j => j = br ∨ j = bm) hg8 (fun j hj => by cases hj; exact .inl (.inr rfl))) (fun j hj => .inl hj)) hM hg)
          have HQ : Hid (RchEnd 2 w br bm cnt D p n s (.returned (.int .i64 0)) w9) := RchEnd.ok (DK.code_ok (a := 2) (s := s) (by omega) (fun _ => hnm) (fun _ h0 => by rw [hDn] at h0; cases h0) hp0) (by unfold DK.next; rw [hDn]; exact HE.out.1) HE.out.2
          clear hM hg HE HV HI3 HB3 HI2 HB2 HFV HOK HF HBX HI1 HI8 hM8 hg8 hx8 hrun
          go_wp2_with fail
          go_region
          all_goals
            go_wp2
            go_ret
            exact HQ.out
        · have HI2 : Hid (RfA w1' br bm cnt D (DK.dec p)) := by
            show RfI _ _ _ _ _ _ _
            rw [dec_neg hpos]; exact HI1.out
          have HB2 : Hid (BoxF w w1' br bm bx b0 s0) := HBX.out
          have k0 := zcell' _ _ _ _ HB2.out.at' 0 _ rfl
          have k1 := zcell' _ _ _ _ HB2.out.at' 1 _ rfl
          have k2 := zfrozen' _ _ _ _ HB2.out.at' 1
          have HI3 := HI2
          have HB3 := HB2
          have m0 := HI3.out.c0
          have l0 := zcell' _ _ _ _ HB3.out.at' 0 _ rfl
          have l1 := zcell' _ _ _ _ HB3.out.at' 1 _ rfl
          obtain ⟨w8, hrun, hM8, hg8, _⟩ := MapF.drop HI3.out.map Tryd.underlying9 Tryd.underlying38 hn 0
          have hdel : ∀ ty, (Builtin.delete_ #[38, 9] ty #[.map (some bm), .string n]).run Tryd.prog w1' = .ok (.tuple #[]) w8 := fun ty => hrun
          rw [← rF_del] at hM8
          have HI8 := hid (HI3.out.remap hg8 hM8)
          have hx8 := (hg8.block bx (heap_lt HB3.out.at') (fun e1 => HB3.out.ne.2 (Option.some.inj e1))).trans HB3.out.at'
          have o0 := zcell' _ _ _ _ hx8 0 _ rfl
          have o1 := zcell' _ _ _ _ hx8 1 _ rfl
          have o2 := HI8.out.c0
          obtain ⟨w9, hrun9, hM, hg⟩ := MapF.store (w := w8.drew) (hM8.block rfl) Tryd.underlying9 Tryd.underlying38 (by unfold maxLen; omega) hns (.agg #[.string b0, .int .i64 s0])
          have HV : Hid (.agg #[.string b0, .int .i64 s0] = rV f) := by
            show _ = _
            rw [HB0.out, HS0.out]
          rw [HV.out] at hM
          have HE := hid (rput_end HI8.out (HB3.out.fr.trans (XFr.grown (X := fun j => j = br ∨ j = bm) hg8 (fun j hj => by cases hj; exact .inl (.inr rfl))) (fun j hj => .inl hj)) hM hg)
          have HQ : Hid (RchEnd 2 w br bm cnt D p n s (.returned (.int .i64 0)) w9) := RchEnd.ok (DK.code_ok (a := 2) (s := s) (by omega) (fun _ => hnm) (fun _ h0 => by rw [hDn] at h0; cases h0) hp0) (by unfold DK.next; rw [hDn]; exact HE.out.1) HE.out.2
          clear hM hg HE HV HI3 HB3 HI2 HB2 HFV HOK HF HBX HI1 HI8 hM8 hg8 hx8 hrun
          go_wp2_with fail
          go_region
          all_goals
            go_wp2
            go_ret
            exact HQ.out

set_option maxRecDepth 100000 in
set_option maxHeartbeats 1600000 in
theorem rchange3_any (h : RfA w br bm cnt D p) (n s : ByteArray) (hn : n.size ≤ maxLen) (hF : DK.Fine 100000000 D) (_hs : s.size ≤ 100000000) (hp2 : p ≤ 9223372036854775807) (_hc : cnt < 1000000) :
    Calls Tryd.prog 7 #[.pointer (some ⟨br, 0, none⟩), .int .i64 3, .string n, .string s] w fun en w' => RchEnd 3 w br bm cnt D p n s en w' := by
  have hL := h.look (W := w) n hn rfl
  have c0 := h.c0
  have HI := hid h
  have HF := hid hF
  clear h hF
  generalize hfv : ((D n).map rV).getD (.agg #[.string ⟨#[]⟩, .int .i64 0]) = fvv at hL
  generalize hok : (D n).isSome = ok at hL
  obtain ⟨b0, s0, rfl⟩ : ∃ b0 s0, fvv = .agg #[.string b0, .int .i64 s0] := by
    rw [← hfv]
    cases D n with
    | none => exact ⟨_, _, rfl⟩
    | some f => exact ⟨_, _, rfl⟩
  have HFV := hid hfv
  have HOK := hid hok
  have HI1 := hid (HI.out.below (w' := w.alloc (.cells #[.string b0, .int .i64 s0] 48)) ((Below.refl _ _).alloc (Nat.le_refl _) _))
  have c1 := HI1.out.c1
  have c01 := HI1.out.c0
  have f1 := HI1.out.fr 1
  have HBX := hid (BoxF.made HI.out b0 s0)
  clear hfv hok HI
  cases hDn : D n with
  | none =>
    have hok : ok = false := by have := HOK.out; rw [hDn] at this; exact this.symm
    have hb0 : b0 = ⟨#[]⟩ := by have := HFV.out; rw [hDn] at this; simp at this; exact this.1.symm
    subst hok
    have HB0 := hid hb0
    clear hb0
    have HQ := hid (RchEnd.err (w := w) (DK.code_missing (a := 3) (s := s) (by omega) (by omega) hDn) (by omega) HI1.out HBX.out.fr)
    go_enter Tryd.func7, Tryd.ntmps7
    go_wp2
    go_ret
    exact HQ.out
  | some f =>
    have hok : ok = true := by have := HOK.out; rw [hDn] at this; exact this.symm
    have hb0 : b0 = f.b := by have := HFV.out; rw [hDn] at this; simp at this; exact this.1.symm
    have hs0 : s0 = sfe f := by have := HFV.out; rw [hDn] at this; simp at this; exact this.2.symm
    have hsz : f.b.size ≤ 100000000 := (HF.out n f hDn).2.1
    rw [← hb0] at hsz
    subst hok
    have HB0 := hid hb0
    have HS0 := hid hs0
    clear hb0 hs0
    by_cases hp0 : p = 0
    · subst hp0
      have HQ := hid (RchEnd.err (w := w) (DK.code_off (a := 3) (s := s) (by omega) (by omega) (fun _ h0 => by rw [hDn] at h0; cases h0)) (by omega) HI1.out HBX.out.fr)
      go_enter Tryd.func7, Tryd.ntmps7
      go_wp2
      go_ret
      exact HQ.out
    · by_cases hpos : 0 < p
      · have hwr : IntKind.i64.wrap (p - 1) = p - 1 := by rw [IntKind.wrap_i64]; omega
        have hwr' : wrap64 (p - 1) = p - 1 := by unfold wrap64; omega
        have HI2 : Hid (RfA ((w.alloc (.cells #[.string b0, .int .i64 s0] 48)).setCell ⟨br, 1, none⟩ (.int .i64 (p - 1))) br bm cnt D (DK.dec p)) := HI1.out.dec hpos
        have HB2 : Hid (BoxF w ((w.alloc (.cells #[.string b0, .int .i64 s0] 48)).setCell ⟨br, 1, none⟩ (.int .i64 (p - 1))) br bm w.heap.size b0 s0) := HBX.out.power _
        have k0 := zcell' _ _ _ _ HB2.out.at' 0 _ rfl
        have k1 := zcell' _ _ _ _ HB2.out.at' 1 _ rfl
        have k2 := zfrozen' _ _ _ _ HB2.out.at' 1
        have HI3 := HI2
        have HB3 := HB2
        have m0 := HI3.out.c0
        have l0 := zcell' _ _ _ _ HB3.out.at' 0 _ rfl
        have l1 := zcell' _ _ _ _ HB3.out.at' 1 _ rfl
        obtain ⟨w9, hrun, hM, hg, _⟩ := MapF.drop HI3.out.map Tryd.underlying9 Tryd.underlying38 hn 0
        have hdel : ∀ ty, (Builtin.delete_ #[38, 9] ty #[.map (some bm), .string n]).run Tryd.prog ((w.alloc (.cells #[.string b0, .int .i64 s0] 48)).setCell ⟨br, 1, none⟩ (.int .i64 (p - 1))) = .ok (.tuple #[]) w9 := fun ty => hrun
        rw [← rF_del] at hM
        have HQ : Hid (RchEnd 3 w br bm cnt D p n s (.returned (.int .i64 0)) w9) := RchEnd.ok (DK.code_ok (a := 3) (s := s) (by omega) (by omega) (fun _ h0 => by rw [hDn] at h0; cases h0) hp0) ((HI3.out.remap hg hM).mono (Nat.le_succ _)) (HB3.out.fr.trans (XFr.grown (X := fun j => j = br ∨ j = bm) hg (fun j hj => by cases hj; exact .inl (.inr rfl))) (fun j hj => .inl hj))
        clear hM hg HI3 HB3 HI2 HB2 HFV HOK HF HBX HI1 hrun
        go_enter Tryd.func7, Tryd.ntmps7
        go_wp2
        go_ret
        exact HQ.out
      · have HI2 : Hid (RfA (w.alloc (.cells #[.string b0, .int .i64 s0] 48)) br bm cnt D (DK.dec p)) := by
          show RfI _ _ _ _ _ _ _
          rw [dec_neg hpos]; exact HI1.out
        have HB2 : Hid (BoxF w (w.alloc (.cells #[.string b0, .int .i64 s0] 48)) br bm w.heap.size b0 s0) := HBX.out
        have k0 := zcell' _ _ _ _ HB2.out.at' 0 _ rfl
        have k1 := zcell' _ _ _ _ HB2.out.at' 1 _ rfl
        have k2 := zfrozen' _ _ _ _ HB2.out.at' 1
        have HI3 := HI2
        have HB3 := HB2
        have m0 := HI3.out.c0
        have l0 := zcell' _ _ _ _ HB3.out.at' 0 _ rfl
        have l1 := zcell' _ _ _ _ HB3.out.at' 1 _ rfl
        obtain ⟨w9, hrun, hM, hg, _⟩ := MapF.drop HI3.out.map Tryd.underlying9 Tryd.underlying38 hn 0
        have hdel : ∀ ty, (Builtin.delete_ #[38, 9] ty #[.map (some bm), .string n]).run Tryd.prog (w.alloc (.cells #[.string b0, .int .i64 s0] 48)) = .ok (.tuple #[]) w9 := fun ty => hrun
        rw [← rF_del] at hM
        have HQ : Hid (RchEnd 3 w br bm cnt D p n s (.returned (.int .i64 0)) w9) := RchEnd.ok (DK.code_ok (a := 3) (s := s) (by omega) (by omega) (fun _ h0 => by rw [hDn] at h0; cases h0) hp0) ((HI3.out.remap hg hM).mono (Nat.le_succ _)) (HB3.out.fr.trans (XFr.grown (X := fun j => j = br ∨ j = bm) hg (fun j hj => by cases hj; exact .inl (.inr rfl))) (fun j hj => .inl hj))
        clear hM hg HI3 HB3 HI2 HB2 HFV HOK HF HBX HI1 hrun
        go_enter Tryd.func7, Tryd.ntmps7
        go_wp2
        go_ret
        exact HQ.out

end

end Go.Proofs.YtdmnlmohfaafoacDoor
