/- What wal.replace and wal.settle do. -/
import Derived.Test.YtdmnlmohfaafoadDoorDkDo
import Derived.Test.YtdmnlmohfaafoadDoorWlNum
import Derived.Test.YtdmnlmohfaafoadDoorWlIs
namespace Go.Proofs.YtdmnlmohfaafoadDoor
open Go.RowKit Go.Maps

/-- The files: the notes, and those that are to take their place. -/
abbrev kpt : ByteArray := ⟨#[119, 97, 108, 47, 107, 101, 112, 116]⟩
abbrev frs : ByteArray := ⟨#[119, 97, 108, 47, 102, 114, 101, 115, 104]⟩

theorem kpt_len : kpt.size ≤ maxLen := by unfold maxLen; decide
theorem frs_len : frs.size ≤ maxLen := by unfold maxLen; decide

/-- What an act answers and leaves. -/
def WEnd (w : World) (X : Nat → Prop) (bd cnt : Nat) (o : WL.Out) (en : Ending) (w' : World) : Prop := en = .returned (er o.1) ∧ DkEnd w X bd cnt o.2.1 o.2.2 w'

theorem DkEnd.trans {w w1 w2 : World} {X X1 : Nat → Prop} {bd cnt : Nat} {D : DK.M} {p : Int} (h : XFr X w w1) (hx : ∀ j, X1 j → X j ∨ w.heap.size ≤ j) (h2 : DkEnd w1 X1 bd cnt D p w2) : DkEnd w X bd cnt D p w2 := by
  obtain ⟨X2, a1, a2, a3⟩ := h2
  refine ⟨X2, a1, h.trans a2 hx, fun j hj => ?_⟩
  rcases a3 j hj with h3 | h3
  · exact hx j h3
  · have := h.size; exact .inr (by omega)

theorem Dk.mono {w : World} {X : Nat → Prop} {bd cnt cnt' : Nat} {D : DK.M} {p : Int} (h : Dk w X bd cnt D p) (hc : cnt ≤ cnt') : Dk w X bd cnt' D p := by
  obtain ⟨mo, fp, fv, e, l, h⟩ := h
  exact ⟨mo, fp, fv, e, l, h.mono hc⟩

theorem DkEnd.mono {w w' : World} {X : Nat → Prop} {bd cnt cnt' : Nat} {D : DK.M} {p : Int} (h : DkEnd w X bd cnt D p w') (hc : cnt ≤ cnt') : DkEnd w X bd cnt' D p w' := by
  obtain ⟨X1, a1, a2, a3⟩ := h
  exact ⟨X1, a1.mono hc, a2, a3⟩

section
variable {w : World} {X : Nat → Prop} {bd cnt N : Nat} {D : DK.M} {p : Int}

set_option maxRecDepth 100000 in
theorem replace_any (h : Dk w X bd cnt D p) (hF : DK.Fine N D) (hN : N ≤ 100000000) (t : ByteArray) (ht : t.size ≤ 100000000) (hc : cnt + 4 ≤ 1000000) :
    Calls Tryd.prog 47 #[.pointer (some ⟨bd, 0, none⟩), .string t] w fun en w' => WEnd w X bd (cnt + 4) (WL.repl kpt frs t D p) en w' := by
  obtain ⟨mo, fp, fv, e, l, h⟩ := h
  have HR := hid (remove_any h frs frs_len)
  have HF := hid hF
  have HO : Hid (WL.repl kpt frs t D p = WL.seq (WL.bear (WL.act 3 frs ByteArray.empty D p)) fun D p => WL.seq (WL.act 0 frs t D p) fun D p => WL.seq (WL.act 1 frs ByteArray.empty D p) fun D p => WL.act 2 frs kpt D p) := rfl
  generalize WL.repl kpt frs t D p = O at *
  clear h hF
  go_enter Tryd.func47, Tryd.ntmps47
  go_wp2_with fail
  refine HR.out.mono ?_
  rintro en w1 ⟨rfl, X1, ⟨mo1, fp1, fv1, e1, l1, h1⟩, x1, s1⟩
  have HF1 : Hid (DK.Fine N (WL.act 3 frs ByteArray.empty D p).2.1) := by
    have := DK.aft_fine (a := 3) (p := p) (n := frs) (s := ByteArray.empty) HF.out
    exact this.mono (by rw [DK.empty_size]; omega)
  have ha : WL.act 3 frs ByteArray.empty D p = (DK.code 3 D p frs ByteArray.empty, DK.aftD 3 D p frs ByteArray.empty, DK.aftP 3 D p frs ByteArray.empty) := rfl
  rw [ha] at HF1 HO
  generalize DK.code 3 D p frs ByteArray.empty = c1 at *
  generalize DK.aftD 3 D p frs ByteArray.empty = D1 at *
  generalize DK.aftP 3 D p frs ByteArray.empty = p1 at *
  have H1 := hid h1
  have X1' := hid x1
  have S1 := hid s1
  clear h1 x1 s1 ha HR HF
  go_wp2_with fail
  refine (unless_any c1 w1).mono ?_
  rintro en w2 ⟨rfl, rfl⟩
  by_cases hb : bearC c1 = 0
  · rw [hb, er_zero]
    have hO1 : O = WL.seq (WL.act 0 frs t D1 p1) fun D p => WL.seq (WL.act 1 frs ByteArray.empty D p) fun D p => WL.act 2 frs kpt D p := by
      rw [HO.out]
      show WL.seq (bearC c1, D1, p1) _ = _
      rw [hb, WL.seq_ok]
    have HO1 := hid hO1
    have HA := hid (append_any H1.out frs t frs_len (by omega) (HF1.out.mono hN) ht)
    clear hO1 HO hb
    go_wp2_with fail
    refine HA.out.mono ?_
    rintro en w3 ⟨rfl, X3, ⟨mo3, fp3, fv3, e3, l3, h3⟩, x3, s3⟩
    have T3 := hid (DkEnd.trans X1'.out S1.out ⟨X3, ⟨mo3, fp3, fv3, e3, l3, h3⟩, x3, s3⟩)
    have ha : WL.act 0 frs t D1 p1 = (DK.code 0 D1 p1 frs t, DK.aftD 0 D1 p1 frs t, DK.aftP 0 D1 p1 frs t) := rfl
    rw [ha] at HO1
    generalize DK.code 0 D1 p1 frs t = c3 at *
    generalize DK.aftD 0 D1 p1 frs t = D3 at *
    generalize DK.aftP 0 D1 p1 frs t = p3 at *
    have H3 := hid h3
    have X3' := hid (X1'.out.trans x3 S1.out)
    have S3 : Hid (∀ j, X3 j → X j ∨ w.heap.size ≤ j) := fun j hj => by
      rcases s3 j hj with h5 | h5
      · exact S1.out j h5
      · have := X1'.out.size; exact .inr (by omega)
    clear h3 x3 s3 ha HA H1 X1' S1 HF1
    by_cases hc3 : c3 = 0
    · subst hc3
      have hO3 : O = WL.seq (WL.act 1 frs ByteArray.empty D3 p3) fun D p => WL.act 2 frs kpt D p := by rw [HO1.out, WL.seq_ok]
      have HO3 := hid hO3
      have HY := hid (sync_any H3.out frs frs_len)
      clear hO3 HO1 T3
      rw [er_zero]
      go_wp2_with fail
      refine HY.out.mono ?_
      rintro en w4 ⟨rfl, X4, ⟨mo4, fp4, fv4, e4, l4, h4⟩, x4, s4⟩
      have T4 := hid (DkEnd.trans X3'.out S3.out ⟨X4, ⟨mo4, fp4, fv4, e4, l4, h4⟩, x4, s4⟩)
      have ha : WL.act 1 frs ByteArray.empty D3 p3 = (DK.code 1 D3 p3 frs ByteArray.empty, DK.aftD 1 D3 p3 frs ByteArray.empty, DK.aftP 1 D3 p3 frs ByteArray.empty) := rfl
      rw [ha] at HO3
      generalize DK.code 1 D3 p3 frs ByteArray.empty = c4 at *
      generalize DK.aftD 1 D3 p3 frs ByteArray.empty = D4 at *
      generalize DK.aftP 1 D3 p3 frs ByteArray.empty = p4 at *
      have H4 := hid h4
      have X4' := hid (X3'.out.trans x4 S3.out)
      have S4 : Hid (∀ j, X4 j → X j ∨ w.heap.size ≤ j) := fun j hj => by
        rcases s4 j hj with h5 | h5
        · exact S3.out j h5
        · have := X3'.out.size; exact .inr (by omega)
      clear h4 x4 s4 ha HY H3 X3' S3
      by_cases hc4 : c4 = 0
      · subst hc4
        have hO4 : O = WL.act 2 frs kpt D4 p4 := by rw [HO3.out, WL.seq_ok]
        have HO4 := hid hO4
        have HM := hid (move_any H4.out frs kpt frs_len kpt_len (by omega))
        clear hO4 HO3 T4
        rw [er_zero]
        go_wp2_with fail
        refine HM.out.mono ?_
        rintro en w5 ⟨rfl, h5⟩
        have HQ : Hid (WEnd w X bd (cnt + 4) O (.returned (er (DK.code 2 D4 p4 frs kpt))) w5) := by
          rw [HO4.out]
          exact ⟨rfl, DkEnd.trans X4'.out S4.out h5⟩
        clear h5
        generalize er (DK.code 2 D4 p4 frs kpt) = v at *
        go_wp2
        go_ret
        exact HQ.out
      · have HQ : Hid (WEnd w X bd (cnt + 4) O (.returned (er c4)) w4) := by
          have e0 : O = (c4, D4, p4) := by rw [HO3.out]; unfold WL.seq; rw [if_neg hc4]
          rw [e0]
          exact ⟨rfl, T4.out.mono (by omega)⟩
        rw [er_non hc4] at HQ ⊢
        go_wp2
        go_ret
        exact HQ.out
    · have HQ : Hid (WEnd w X bd (cnt + 4) O (.returned (er c3)) w3) := by
        have e0 : O = (c3, D3, p3) := by rw [HO1.out]; unfold WL.seq; rw [if_neg hc3]
        rw [e0]
        exact ⟨rfl, T3.out.mono (by omega)⟩
      rw [er_non hc3] at HQ ⊢
      go_wp2
      go_ret
      exact HQ.out
  · have HQ : Hid (WEnd w X bd (cnt + 4) O (.returned (er (bearC c1))) w2) := by
      have e0 : O = (bearC c1, D1, p1) := by
        rw [HO.out]
        show WL.seq (bearC c1, D1, p1) _ = _
        unfold WL.seq
        rw [if_neg hb]
      rw [e0]
      exact ⟨rfl, X1, ⟨mo1, fp1, fv1, e1, l1, H1.out.mono (by omega)⟩, X1'.out, S1.out⟩
    rw [er_non hb] at HQ ⊢
    go_wp2
    go_ret
    exact HQ.out

set_option maxRecDepth 100000 in
theorem settle_any (h : Dk w X bd cnt D p) (hF : DK.Fine N D) (hN : N ≤ 100000000) (t : ByteArray) (n : Nat) (hn : n ≤ t.size) (ht : t.size ≤ 100000000) (hc : cnt + 4 ≤ 1000000) :
    Calls Tryd.prog 39 #[.pointer (some ⟨bd, 0, none⟩), .string t, .int .i64 n] w fun en w' => WEnd w X bd (cnt + 4) (WL.settl kpt frs t n D p) en w' := by
  by_cases hlt : n < t.size
  · have h' : (n : Int) < (t.size : Int) := by omega
    have hz : (t.extract 0 n).size ≤ 100000000 := by rw [ByteArray.size_extract]; omega
    have HR := hid (replace_any h hF hN (t.extract 0 n) hz hc)
    have hO : WL.settl kpt frs t n D p = WL.repl kpt frs (t.extract 0 n) D p := by unfold WL.settl; rw [if_pos hlt]
    rw [hO]
    clear h hF hO hz
    go_enter Tryd.func39, Tryd.ntmps39
    go_wp2_with fail
    refine HR.out.mono ?_
    rintro en w1 ⟨rfl, h1⟩
    have HQ : Hid (WEnd w X bd (cnt + 4) (WL.repl kpt frs (t.extract 0 n) D p) (.returned (er (WL.repl kpt frs (t.extract 0 n) D p).1)) w1) := ⟨rfl, h1⟩
    clear h1 HR
    generalize er (WL.repl kpt frs (t.extract 0 n) D p).1 = v at *
    go_wp2
    go_ret
    exact HQ.out
  · have h' : ¬ (n : Int) < (t.size : Int) := by omega
    have HO : Hid (WL.settl kpt frs t n D p = WL.seq (WL.bear (WL.act 3 frs ByteArray.empty D p)) fun D p => WL.bear (WL.act 1 kpt ByteArray.empty D p)) := by
      show _ = _
      unfold WL.settl; rw [if_neg hlt]
    obtain ⟨mo, fp, fv, e, l, h⟩ := h
    have HR := hid (remove_any h frs frs_len)
    clear h hF hlt
    generalize WL.settl kpt frs t n D p = O at *
    go_enter Tryd.func39, Tryd.ntmps39
    go_wp2_with fail
    refine HR.out.mono ?_
    rintro en w1 ⟨rfl, X1, ⟨mo1, fp1, fv1, e1, l1, h1⟩, x1, s1⟩
    have ha : WL.act 3 frs ByteArray.empty D p = (DK.code 3 D p frs ByteArray.empty, DK.aftD 3 D p frs ByteArray.empty, DK.aftP 3 D p frs ByteArray.empty) := rfl
    rw [ha] at HO
    generalize DK.code 3 D p frs ByteArray.empty = c1 at *
    generalize DK.aftD 3 D p frs ByteArray.empty = D1 at *
    generalize DK.aftP 3 D p frs ByteArray.empty = p1 at *
    have H1 := hid h1
    have X1' := hid x1
    have S1 := hid s1
    clear h1 x1 s1 ha HR
    go_wp2_with fail
    refine (unless_any c1 w1).mono ?_
    rintro en w2 ⟨rfl, rfl⟩
    by_cases hb : bearC c1 = 0
    · rw [hb, er_zero]
      have hO1 : O = WL.bear (WL.act 1 kpt ByteArray.empty D1 p1) := by
        rw [HO.out]
        show WL.seq (bearC c1, D1, p1) _ = _
        rw [hb, WL.seq_ok]
      have HO1 := hid hO1
      have HY := hid (sync_any H1.out kpt kpt_len)
      clear hO1 HO hb
      go_wp2_with fail
      refine HY.out.mono ?_
      rintro en w3 ⟨rfl, h3⟩
      have HQ : Hid (WEnd w X bd (cnt + 4) O (.returned (er (bearC (DK.code 1 D1 p1 kpt ByteArray.empty)))) w3) := by
        rw [HO1.out]
        exact ⟨rfl, (DkEnd.trans X1'.out S1.out h3).mono (by omega)⟩
      clear h3 HO1 HY
      generalize DK.code 1 D1 p1 kpt ByteArray.empty = c3 at *
      go_wp2_with fail
      refine (unless_any c3 w3).mono ?_
      rintro en w4 ⟨rfl, rfl⟩
      generalize er (bearC c3) = v at *
      go_wp2
      go_ret
      exact HQ.out
    · have HQ : Hid (WEnd w X bd (cnt + 4) O (.returned (er (bearC c1))) w2) := by
        have e0 : O = (bearC c1, D1, p1) := by
          rw [HO.out]
          show WL.seq (bearC c1, D1, p1) _ = _
          unfold WL.seq
          rw [if_neg hb]
        rw [e0]
        exact ⟨rfl, X1, ⟨mo1, fp1, fv1, e1, l1, H1.out.mono (by omega)⟩, X1'.out, S1.out⟩
      rw [er_non hb] at HQ ⊢
      go_wp2
      go_ret
      exact HQ.out

end

end Go.Proofs.YtdmnlmohfaafoadDoor
