/- A head within a law: all that was there ahead of it stays. Names no function. The closures of HeadPlays, 'is' of any error that Append tells, and what both sides are in memory. -/
import Derived.Test.YtdmnlmohfaafoadGreatDoorPHdApp
import Derived.Test.YtdmnlmohfaafoadGreatDoorPHrPart
import Derived.Test.YtdmnlmohfaafoadGreatDoorPHdCut
import Derived.Test.YtdmnlmohfaafoadGreatDoorPHIs
import Derived.Test.YtdmnlmohfaafoadGreatDoorPHxRefA
import Derived.Test.YtdmnlmohfaafoadGreatDoorPHsShortL
import Derived.Test.YtdmnlmohfaafoadGreatDoorPHsSame
import Derived.Test.YtdmnlmohfaafoadGreatDoorPHrAppL
namespace Go.Proofs.YtdmnlmohfaafoadGreatDoor
open Go.RowKit

structure HSt (w0 w : World) (hb : Nat) (Z : Nat → Prop) (mark : Int) (S : List Sr) : Prop where
  hd : HdI w hb Z mark S
  bel : Below w0.heap.size w0 w
  low : ∀ j, Z j → w0.heap.size ≤ j

section
variable {w0 w w' : World} {hb : Nat} {Z : Nat → Prop} {mark mark' : Int} {S S' : List Sr}

theorem HSt.below (h : HSt w0 w hb Z mark S) (k : Below w.heap.size w w') : HSt w0 w' hb Z mark S := ⟨h.hd.below k, bel2 h.bel k, h.low⟩

theorem HSt.step (h : HSt w0 w hb Z mark S) (hI : HdI w' hb (wid Z w w') mark' S') (hf : ZFr Z w w') : HSt w0 w' hb (wid Z w w') mark' S' :=
  ⟨hI, h.bel.trans (hf.low h.bel.size h.low), fun j hj => by
    rcases hj with e | e
    · exact h.low j e
    · exact Nat.le_trans h.bel.size e.1⟩

/-- What lay ahead of all lies out of it. -/
theorem HSt.old (h : HSt w0 w hb Z mark S) {ao : Option Addr} {l : List Sr} (hl : SrRow w0 ao l) : SrOut w Z ao l := by
  have h1 : SrOut w0 (fun j => w0.heap.size ≤ j) ao l := SrOut.of_row hl (fun _ hj => hj)
  have h2 : SrOut w (fun j => w0.heap.size ≤ j) ao l := h1.kept ⟨h.bel.os, h.bel.tape, h.bel.output, h.bel.size, fun j hj _ => h.bel.block j hj⟩
  exact h2.wide fun j hj => .inl (h.low j hj)

theorem HSt.box (h : HSt w0 w hb Z mark S) : ∃ v, w.heap[hb]? = some (.cells #[.int .i64 mark, v] 105) := by
  obtain ⟨⟨v, xs, hX, _⟩, _⟩ := h.hd
  exact ⟨v, hX.box⟩

theorem HSt.zlt (h : HSt w0 w hb Z mark S) : ∀ j, Z j → j < w.heap.size := h.hd.2.2

end

theorem HSt.new (mark : Int) (w : World) : HSt w (w.alloc (.cells #[.int .i64 mark, .slice none 0 0] 105)) w.heap.size (fun j => w.heap.size ≤ j ∧ j < w.heap.size + 1) mark [] :=
  ⟨HdI.new mark w, (Below.refl _ w).alloc (Nat.le_refl _) _, fun _ hj => hj.1⟩

end Go.Proofs.YtdmnlmohfaafoadGreatDoor

namespace Go.Proofs.YtdmnlmohfaafoadGreatDoor
open Go.RowKit

theorem plays1_any (lv : Value) (t tm : Int) (B : Nat) (w : World) (h : w.cell? ⟨B, 2, none⟩ = some (.int .i64 tm)) :
    Calls Tryz.prog 19 #[lv, .int .i64 t, .pointer (some ⟨B, 0, none⟩)] w fun e w' => e = .returned (.bool (decide (t ≤ tm))) ∧ Below w.heap.size w w' := by
  go_enter Tryz.func19, Tryz.ntmps19
  go_wp2
  go_ret
  exact ⟨rfl, Below.refl _ _⟩

theorem goes_any (mo : Option Addr) (ml mc : Nat) (fr tt : Int) (w : World) :
    Calls Tryz.prog 21 #[.agg #[.slice mo ml mc, .int .i64 fr, .int .i64 tt]] w fun e w' => e = .returned (.func (.func 57) #[] #[.pointer (some ⟨w.heap.size, 0, none⟩)]) ∧ w' = w.alloc (.cells #[.slice mo ml mc, .int .i64 fr, .int .i64 tt] 61) := by
  go_enter Tryz.func21, Tryz.ntmps21
  go_wp2
  go_ret
  exact ⟨rfl, rfl⟩

set_option maxRecDepth 100000 in
theorem goes1_any (lo mo : Option Addr) (L : List LB.Lab) (m : List LB.Mat) (lc mc : Nat) (t fr tt : Int) (B : Nat) (w : World) (h : w.heap[B]? = some (.cells #[.slice mo m.length mc, .int .i64 fr, .int .i64 tt] 61)) (hL : LRow w lo L) (hM : MRow w mo m) (hl : L.length ≤ 1000) (hm : m.length ≤ 1000) (hop : ∀ i, i < m.length → 0 ≤ (LB.am m i).op ∧ (LB.am m i).op ≤ 3) :
    Calls Tryz.prog 57 #[.slice lo L.length lc, .int .i64 t, .pointer (some ⟨B, 0, none⟩)] w fun e w' => e = .returned (.bool (goP m (fun s => decide (fr ≤ s) && decide (s ≤ tt)) L t)) ∧ Below w.heap.size w w' := by
  have h0 : w.cell? ⟨B, 0, none⟩ = some (.slice mo m.length mc) := zcell' _ _ _ _ h 0 _ rfl
  have h1 : w.cell? ⟨B, 1, none⟩ = some (.int .i64 fr) := zcell' _ _ _ _ h 1 _ rfl
  have h2 : w.cell? ⟨B, 2, none⟩ = some (.int .i64 tt) := zcell' _ _ _ _ h 2 _ rfl
  have HC := hid (rfits_any lo mo L m lc mc w hL hM hl hm hop)
  clear h hL hM hop
  go_enter Tryz.func57, Tryz.ntmps57
  go_wp2_with fail
  refine (rin_any t fr tt w).mono ?_
  rintro e w' ⟨rfl, rfl⟩
  by_cases hin : fr ≤ t ∧ t ≤ tt
  · rw [decide_eq_true hin]
    go_wp2_with fail
    refine HC.out.mono ?_
    rintro e w2 ⟨rfl, hb2⟩
    have HB := hid hb2
    clear hb2
    go_wp2_with fail
    go_ret
    refine ⟨?_, HB.out⟩
    show Ending.returned (Value.bool (LB.all L m)) = Ending.returned (Value.bool (LB.all L m && (decide (fr ≤ t) && decide (t ≤ tt))))
    rw [decide_eq_true hin.1, decide_eq_true hin.2]; simp
  · rw [decide_eq_false hin]
    have HI := hid hin
    clear hin
    go_wp2_with fail
    go_ret
    refine ⟨?_, Below.refl _ _⟩
    have : (decide (fr ≤ t) && decide (t ≤ tt)) = false := by
      rw [Bool.and_eq_false_iff]
      by_cases h3 : fr ≤ t
      · exact .inr (decide_eq_false fun h4 => HI.out ⟨h3, h4⟩)
      · exact .inl (decide_eq_false h3)
    show Ending.returned (Value.bool false) = Ending.returned (Value.bool (LB.all L m && (decide (fr ≤ t) && decide (t ≤ tt))))
    rw [this]; simp

set_option maxRecDepth 100000 in
set_option maxHeartbeats 800000 in
theorem is_errno (n : Int) (w : World) (hE : ErrT w) :
    Calls Tryz.prog 8 #[.iface 24 (.int .i64 n), .agg #[.int .i64 n, .int .i64 (-1)]] w fun e w' => e = .returned (.bool true) ∧ Below w.heap.size w w' := by
  have hB0 := (Below.refl w.heap.size w).alloc (Nat.le_refl _) (.cells #[.int .i64 n, .int .i64 (-1)] 26)
  have HE := hid (hE.below hB0 hE.lt)
  have HB0 := hid hB0
  clear hE hB0
  go_enter Tryz.func8, Tryz.ntmps8
  go_wp2_with fail
  refine (pplace_errno n _ HE.out).mono ?_
  rintro e w' ⟨rfl, hb⟩
  have hc0 : w'.cell? ⟨w.heap.size, 0, none⟩ = some (.int .i64 n) := (hb.cell (p := ⟨w.heap.size, 0, none⟩) (by simp)).trans (by simp)
  have hc1 : w'.cell? ⟨w.heap.size, 1, none⟩ = some (.int .i64 (-1)) := (hb.cell (p := ⟨w.heap.size, 1, none⟩) (by simp)).trans (by simp)
  have HB := hid (HB0.out.trans (hb.mono (by simp)))
  clear hb
  go_wp2_with fail
  go_ret
  exact ⟨rfl, HB.out⟩

/-- What Append tells is what the document tells. -/
theorem is_any (c : Int × Int) (ev : Value) (w : World) (h : ErrAt w c ev) (hE : ErrT w) :
    Calls Tryz.prog 8 #[ev, .agg #[.int .i64 c.1, .int .i64 c.2]] w fun e w' => e = .returned (.bool true) ∧ Below w.heap.size w w' := by
  rcases h with ⟨rfl, rfl⟩ | ⟨rfl, rfl⟩ | ⟨_, _, p, rfl, hp⟩
  · exact is_fine w
  · exact is_errno 4 w hE
  · exact is_at c.1 c.2 p w hE (zcell' _ _ _ _ hp 0 _ rfl) (zcell' _ _ _ _ hp 1 _ rfl)

theorem ErrAt.kind {w w' : World} {c : Int × Int} {ev : Value} {E : TypeId → Prop} (h : ErrAt w c ev) (k : KFr E w w') (hE : ¬ E 90) : ErrAt w' c ev := by
  rcases h with h | h | ⟨h1, h2, p, h3, h4⟩
  · exact .inl h
  · exact .inr (.inl h)
  · exact .inr (.inr ⟨h1, h2, p, h3, k _ _ _ h4 hE⟩)

theorem ErrAt.below {w w' : World} {c : Int × Int} {ev : Value} (h : ErrAt w c ev) (k : Below w.heap.size w w') : ErrAt w' c ev :=
  h.kind (E := fun _ => False) (fun j _ _ hj _ => (k.block j (heap_lt hj)).trans hj) (fun e => e)

theorem ErrAt.one {w : World} {c : Int × Int} {ev : Value} (h : ErrAt w c ev) : ev = .nilIface ∨ ∃ T u, ev = .iface T u := by
  rcases h with ⟨_, h⟩ | ⟨_, h⟩ | ⟨_, _, p, h, _⟩
  · exact .inl h
  · exact .inr ⟨_, _, h⟩
  · exact .inr ⟨_, _, h⟩

theorem SrOut.less {w : World} {Z Z' : Nat → Prop} {ao : Option Addr} {l : List Sr} (h : SrOut w Z ao l) (hz : ∀ j, Z' j → Z j) : SrOut w Z' ao l := h.wide fun j hj => .inl (hz j hj)

theorem ZFr.more {Z Z' : Nat → Prop} {w w' : World} (h : ZFr Z w w') (hz : ∀ j, Z j → Z' j) : ZFr Z' w w' := ⟨h.os, h.tape, h.output, h.size, fun j hj hn => h.block j hj fun e => hn (hz j e)⟩

theorem ZFr.set (Z : Nat → Prop) (w : World) (X o : Nat) (u : Value) (hX : Z X) : ZFr Z w (w.setCell ⟨X, o, none⟩ u) :=
  ⟨rfl, rfl, rfl, by simp [World.setCell], fun j _ hn => Below.heap_setCell w ⟨X, o, none⟩ u j (fun e => hn (by subst e; exact hX))⟩

/-- A box that is no part of a head is written. -/
theorem HSt.put {w0 w : World} {hb : Nat} {Z : Nat → Prop} {m : Int} {S : List Sr} (h : HSt w0 w hb Z m S) {X : Nat} {c : Array Value} {T : TypeId} (hX : w.heap[X]? = some (.cells c T)) (h0 : w0.heap.size ≤ X) (hT : T ≠ 55 ∧ T ≠ 49 ∧ T ≠ 52 ∧ T ≠ 105) (o : Nat) (u : Value) : HSt w0 (w.setCell ⟨X, o, none⟩ u) hb Z m S := by
  obtain ⟨⟨⟨v, xs, hx, hz⟩, hb0, hl⟩, hbel, hlow⟩ := h
  have hne : hb ≠ X := fun e => by
    have := hx.box
    rw [e, hX] at this
    simp only [Option.some.injEq, Obj.cells.injEq] at this
    exact hT.2.2.2 this.2.1
  refine ⟨⟨⟨v, xs, ⟨(Below.heap_setCell _ ⟨X, o, none⟩ u hb hne).trans hx.box, hx.len, own_set hx.row (own_kind hx.row hX (fun e => hT.1 e.symm)) _ _, fun i hi => own_set (hx.labs i hi) (own_kind (hx.labs i hi) hX (fun e => hT.2.1 e.symm)) _ _, fun i hi => own_set (hx.smps i hi) (own_kind (hx.smps i hi) hX (fun e => hT.2.2.1 e.symm)) _ _, hx.apart⟩, hz⟩, hb0, fun j hj => ?_⟩, hbel.setCell (p := ⟨X, o, none⟩) h0 u, hlow⟩
  rw [set_size]; exact hl j hj

/-- Both sides: the head of samples S, the document's of S2; V: boxes that may be written. -/
structure PT (w0 wr : World) (hb Bw : Nat) (Z V : Nat → Prop) (m m2 : Int) (S S2 : List Sr) : Prop where
  st : HSt w0 wr hb Z m S
  box : ∃ ao cap, wr.heap[Bw]? = some (.cells #[.int .i64 m2, .slice ao S2.length cap] 45) ∧ SrOut wr (fun j => Z j ∨ V j) ao S2
  far : ∀ j, V j → w0.heap.size ≤ j ∧ j < wr.heap.size ∧ ¬ Z j
  own : V Bw

structure PS (w0 wr : World) (hb Bw : Nat) (Z : Nat → Prop) (m : Int) (S : List Sr) : Prop where
  pt : PT w0 wr hb Bw Z (fun j => j = Bw) m m S S
  good : HD.Good S

section
variable {w0 wr w' : World} {hb Bw : Nat} {Z V : Nat → Prop} {m m2 : Int} {S S2 : List Sr}

theorem PT.below (h : PT w0 wr hb Bw Z V m m2 S S2) (k : Below wr.heap.size wr w') : PT w0 w' hb Bw Z V m m2 S S2 := by
  obtain ⟨ao, cap, h1, h2⟩ := h.box
  exact ⟨h.st.below k, ⟨ao, cap, (k.block _ (heap_lt h1)).trans h1, h2.kept (ZFr.below k)⟩, fun j hj => ⟨(h.far j hj).1, Nat.lt_of_lt_of_le (h.far j hj).2.1 k.size, (h.far j hj).2.2⟩, h.own⟩

theorem PS.below (h : PS w0 wr hb Bw Z m S) (k : Below wr.heap.size wr w') : PS w0 w' hb Bw Z m S := ⟨h.pt.below k, h.good⟩

theorem PT.zlt (h : PT w0 wr hb Bw Z V m m2 S S2) : ∀ j, (Z j ∨ V j) → j < wr.heap.size := fun j hj => hj.elim (h.st.zlt j) fun e => (h.far j e).2.1

theorem PT.zge (h : PT w0 wr hb Bw Z V m m2 S S2) : ∀ j, (Z j ∨ V j) → w0.heap.size ≤ j := fun j hj => hj.elim (h.st.low j) fun e => (h.far j e).1

/-- The head has changed. -/
theorem PT.head {m' : Int} {S' : List Sr} (h : PT w0 wr hb Bw Z V m m2 S S2) (hI : HdI w' hb (wid Z wr w') m' S') (hf : ZFr Z wr w') : PT w0 w' hb Bw (wid Z wr w') V m' m2 S' S2 := by
  obtain ⟨ao, cap, h1, h2⟩ := h.box
  have hlt := heap_lt h1
  refine ⟨h.st.step hI hf, ⟨ao, cap, (hf.block _ hlt (h.far Bw h.own).2.2).trans h1, ?_⟩, fun j hj => ⟨(h.far j hj).1, Nat.lt_of_lt_of_le (h.far j hj).2.1 hf.size, fun e => ?_⟩, h.own⟩
  · have h3 : SrOut wr (fun j => wid Z wr w' j ∨ V j) ao S2 := h2.wide fun j hj => by
      rcases hj with (e | e) | e
      · exact .inl (.inl e)
      · exact .inr e.1
      · exact .inl (.inr e)
    exact h3.kept (hf.more fun j hj => .inl (.inl hj))
  · rcases e with e | e
    · exact (h.far j hj).2.2 e
    · have := (h.far j hj).2.1
      omega

/-- Series that lie out of it, behind the head's change. -/
theorem PT.out (_h : PT w0 wr hb Bw Z V m m2 S S2) (hf : ZFr Z wr w') {lo : Option Addr} {l : List Sr} (hl : SrOut wr (fun j => Z j ∨ V j) lo l) : SrOut w' (fun j => wid Z wr w' j ∨ V j) lo l := by
  have h3 : SrOut wr (fun j => wid Z wr w' j ∨ V j) lo l := hl.wide fun j hj => by
    rcases hj with (e | e) | e
    · exact .inl (.inl e)
    · exact .inr e.1
    · exact .inl (.inr e)
  exact h3.kept (hf.more fun j hj => .inl (.inl hj))

/-- One more box. -/
theorem PT.add (h : PT w0 wr hb Bw Z V m m2 S S2) (o : Obj) : PT w0 (wr.alloc o) hb Bw Z (fun j => V j ∨ j = wr.heap.size) m m2 S S2 := by
  have k : Below wr.heap.size wr (wr.alloc o) := (Below.refl _ wr).alloc (Nat.le_refl _) _
  obtain ⟨ao, cap, h1, h2⟩ := h.box
  refine ⟨h.st.below k, ⟨ao, cap, (k.block _ (heap_lt h1)).trans h1, ?_⟩, fun j hj => ?_, .inl h.own⟩
  · refine SrOut.kept (h2.wide fun j hj => ?_) (ZFr.below k)
    rcases hj with e | e | e
    · exact .inl (.inl e)
    · exact .inl (.inr e)
    · exact .inr (by omega)
  · rcases hj with e | e
    · exact ⟨(h.far j e).1, Nat.lt_of_lt_of_le (h.far j e).2.1 k.size, (h.far j e).2.2⟩
    · subst e
      exact ⟨h.st.bel.size, by simp, fun e => by have := h.st.zlt _ e; omega⟩

theorem SrOut.add {lo : Option Addr} {l : List Sr} (h : SrOut wr Z lo l) (o : Obj) : SrOut (wr.alloc o) (fun j => Z j ∨ j = wr.heap.size) lo l :=
  SrOut.kept (h.wide fun j hj => hj.elim .inl fun e => .inr (by omega)) (ZFr.below ((Below.refl _ wr).alloc (Nat.le_refl _) _))

theorem PT.less {V' : Nat → Prop} (h : PT w0 wr hb Bw Z V m m2 S S2) (hv : ∀ j, V' j → V j) (ho : V' Bw) : PT w0 wr hb Bw Z V' m m2 S S2 := by
  obtain ⟨ao, cap, h1, h2⟩ := h.box
  exact ⟨h.st, ⟨ao, cap, h1, h2.less fun j hj => hj.imp id (hv j)⟩, fun j hj => h.far j (hv j hj), ho⟩

/-- What lay ahead of all lies out of it. -/
theorem PT.old (h : PT w0 wr hb Bw Z V m m2 S S2) {ao : Option Addr} {l : List Sr} (hl : SrRow w0 ao l) : SrOut wr (fun j => Z j ∨ V j) ao l := by
  have h1 : SrOut w0 (fun j => w0.heap.size ≤ j) ao l := SrOut.of_row hl (fun _ hj => hj)
  have h2 : SrOut wr (fun j => w0.heap.size ≤ j) ao l := h1.kept ⟨h.st.bel.os, h.st.bel.tape, h.st.bel.output, h.st.bel.size, fun j hj _ => h.st.bel.block j hj⟩
  exact h2.less (h.zge)

/-- The document's head is written. -/
theorem PT.put2 {m3 : Int} {S3 : List Sr} {ao : Option Addr} {cap : Nat} (h : PT w0 wr hb Bw Z V m m2 S S2) (hs : SrOut wr (fun j => Z j ∨ V j) ao S3) : PT w0 ((wr.setCell ⟨Bw, 0, none⟩ (.int .i64 m3)).setCell ⟨Bw, 1, none⟩ (.slice ao S3.length cap)) hb Bw Z V m m3 S S3 := by
  obtain ⟨ao0, cap0, h1, _⟩ := h.box
  have hT : (45 : TypeId) ≠ 55 ∧ (45 : TypeId) ≠ 49 ∧ (45 : TypeId) ≠ 52 ∧ (45 : TypeId) ≠ 105 := by decide
  exact ⟨(h.st.put h1 (h.far _ h.own).1 hT 0 _).put (heap_setCell_same _ _ 0 _ _ _ h1) (h.far _ h.own).1 hT 1 _, ⟨ao, cap, set_two h1, (hs.kept (ZFr.set _ wr Bw 0 _ (.inr h.own))).kept (ZFr.set _ _ Bw 1 _ (.inr h.own))⟩, fun j hj => ⟨(h.far j hj).1, by rw [set_size, set_size]; exact (h.far j hj).2.1, (h.far j hj).2.2⟩, h.own⟩

theorem PT.put1 {S3 : List Sr} {ao : Option Addr} {cap : Nat} (h : PT w0 wr hb Bw Z V m m2 S S2) (hs : SrOut wr (fun j => Z j ∨ V j) ao S3) : PT w0 (wr.setCell ⟨Bw, 1, none⟩ (.slice ao S3.length cap)) hb Bw Z V m m2 S S3 := by
  obtain ⟨ao0, cap0, h1, _⟩ := h.box
  have hT : (45 : TypeId) ≠ 55 ∧ (45 : TypeId) ≠ 49 ∧ (45 : TypeId) ≠ 52 ∧ (45 : TypeId) ≠ 105 := by decide
  exact ⟨h.st.put h1 (h.far _ h.own).1 hT 1 _, ⟨ao, cap, heap_setCell_same _ _ 1 _ _ _ h1, hs.kept (ZFr.set _ wr Bw 1 _ (.inr h.own))⟩, fun j hj => ⟨(h.far j hj).1, by rw [set_size]; exact (h.far j hj).2.1, (h.far j hj).2.2⟩, h.own⟩

/-- A fault is written. -/
theorem PT.putF {Bf : Nat} {x y : Value} (h : PT w0 wr hb Bw Z V m m2 S S2) (hV : V Bf) (hB : wr.heap[Bf]? = some (.cells #[x, y] 26)) (o : Nat) (u : Value) : PT w0 (wr.setCell ⟨Bf, o, none⟩ u) hb Bw Z V m m2 S S2 := by
  obtain ⟨ao, cap, h1, h2⟩ := h.box
  have hT : (26 : TypeId) ≠ 55 ∧ (26 : TypeId) ≠ 49 ∧ (26 : TypeId) ≠ 52 ∧ (26 : TypeId) ≠ 105 := by decide
  exact ⟨h.st.put hB (h.far _ hV).1 hT o u, ⟨ao, cap, KFr.set hB o u _ _ _ h1 (by decide), h2.kept (ZFr.set _ wr Bf o u (.inr hV))⟩, fun j hj => ⟨(h.far j hj).1, by rw [set_size]; exact (h.far j hj).2.1, (h.far j hj).2.2⟩, h.own⟩

/-- What both Appends leave, when all is written down. -/
theorem PT.both {Bf : Nat} {m3 : Int} {c : Int × Int} {ev : Value} {S3 : List Sr} {ao : Option Addr} {cap : Nat} {x y : Value} (h : PT w0 wr hb Bw Z V m m2 S S2) (hs : SrOut wr (fun j => Z j ∨ V j) ao S3) (hV : V Bf) (hB : wr.heap[Bf]? = some (.cells #[x, y] 26)) (he : ErrAt wr c ev) :
    PT w0 ((((wr.setCell ⟨Bw, 0, none⟩ (.int .i64 m3)).setCell ⟨Bw, 1, none⟩ (.slice ao S3.length cap)).setCell ⟨Bf, 0, none⟩ (.int .i64 c.1)).setCell ⟨Bf, 1, none⟩ (.int .i64 c.2)) hb Bw Z V m m3 S S3 ∧
    ((((wr.setCell ⟨Bw, 0, none⟩ (.int .i64 m3)).setCell ⟨Bw, 1, none⟩ (.slice ao S3.length cap)).setCell ⟨Bf, 0, none⟩ (.int .i64 c.1)).setCell ⟨Bf, 1, none⟩ (.int .i64 c.2)).heap[Bf]? = some (.cells #[.int .i64 c.1, .int .i64 c.2] 26) ∧
    ErrAt ((((wr.setCell ⟨Bw, 0, none⟩ (.int .i64 m3)).setCell ⟨Bw, 1, none⟩ (.slice ao S3.length cap)).setCell ⟨Bf, 0, none⟩ (.int .i64 c.1)).setCell ⟨Bf, 1, none⟩ (.int .i64 c.2)) c ev := by
  obtain ⟨ao0, cap0, h1, _⟩ := h.box
  have h1' := heap_setCell_same _ _ 0 _ _ (.int .i64 m3) h1
  have hB1 : (wr.setCell ⟨Bw, 0, none⟩ (.int .i64 m3)).heap[Bf]? = some (.cells #[x, y] 26) := KFr.set h1 0 _ _ _ _ hB (by decide)
  have hB2 : ((wr.setCell ⟨Bw, 0, none⟩ (.int .i64 m3)).setCell ⟨Bw, 1, none⟩ (.slice ao S3.length cap)).heap[Bf]? = some (.cells #[x, y] 26) := KFr.set h1' 1 _ _ _ _ hB1 (by decide)
  have hB3 := heap_setCell_same _ _ 0 _ _ (.int .i64 c.1) hB2
  refine ⟨((h.put2 hs).putF hV hB2 0 _).putF hV hB3 1 _, set_two hB2, ?_⟩
  exact (((he.kind (KFr.set h1 0 _) (by decide)).kind (KFr.set h1' 1 _) (by decide)).kind (KFr.set hB2 0 _) (by decide)).kind (KFr.set hB3 1 _) (by decide)

end

theorem FineH.below {w w' : World} (h : FineH w) (k : Below w.heap.size w w') : FineH w' :=
  ⟨(k.cell (p := ⟨0, 0, none⟩) (World.block_lt_of_cell? _ _ h.1)).trans h.1, (k.cell (p := ⟨0, 1, none⟩) (World.block_lt_of_cell? _ _ h.2)).trans h.2⟩

theorem good_few {S : List Sr} (h : HD.Good S) : SrFew S := ⟨by have := h.few; omega, fun i hi => by
  have hok := h.ok _ (HD.at_mem S i hi)
  have h1 := right_len hok.1
  have h2 := right_le hok.2.1
  omega⟩

theorem SB.own {w : World} {base : Nat} {v : Value} {xs : List (Value × Value)} {L : List Sr} (h : SB w base v xs L) : SrOwn w 0 v L := ⟨xs, h.len, row_low h.row (Nat.zero_le _), fun i hi => ⟨h.labs i hi, h.smps i hi⟩⟩

section
variable {P : Program} {o : Oper} {a : Act} {w : World} {Φ : Value → World → Prop}

theorem TL.Does.pick {c x y : Operand} {q : Bool} {u : Value} (ho : o.op = .pick c x y) (hc : a.eval c = .bool q) (hu : (if q then a.eval x else a.eval y) = u) (h : Φ u w) : TL.Does P o a w Φ :=
  .val (v := u) (by unfold execOp; rw [ho]; simp [hc, asBool, hu]) h

theorem TL.Does.un {op : UnOp} {t : TypeId} {x : Operand} {u v : Value} (ho : o.op = .unOp op t x) (hx : a.eval x = u) (hr : (Op.unary op u).run P w = .ok v w) (h : Φ v w) : TL.Does P o a w Φ :=
  .val (by unfold execOp; rw [ho]; simp [hx, hr]) h

theorem TL.Does.bin {op : BinOp} {t t2 : TypeId} {x y : Operand} {u k v : Value} (ho : o.op = .binOp op t x y t2) (hx : a.eval x = u) (hy : a.eval y = k) (hg : (eqGuard op t x y u k).run P w = .ok () w) (hr : (binOp op t u k).run P w = .ok v w) (h : Φ v w) : TL.Does P o a w Φ :=
  .val (by unfold execOp; rw [ho]; simp [hx, hy, hg, hr]) h

theorem TL.Does.extract {x : Operand} {k : Nat} {u v : Value} (ho : o.op = .extract x k) (hx : a.eval x = u) (hr : (Instr.extract u k).run P w = .ok v w) (h : Φ v w) : TL.Does P o a w Φ :=
  .val (by unfold execOp; rw [ho]; simp [hx, hr]) h

/-- One guard alone. -/
theorem TL.guards {l : List Oper} (j : Nat) (q : Bool) (h : (l.all fun o => match o.guard with | none => true | some (k, b) => decide (k = j) && decide (b = q)) = true) {i k : Nat} {b : Bool} {o : Oper} (hi : l[i]? = some o) (hg : o.guard = some (k, b)) : k = j ∧ b = q := by
  have h1 := List.all_eq_true.1 h o (List.mem_of_getElem? hi)
  rw [hg] at h1
  simpa using h1

end

/-- What is told in the region that takes out what the document says is gone. -/
def T32 (Bw bx : Nat) (Z : Nat → Prop) (vR : Value) (vG : Array Value) (S2 : List Sr) (L : Nat → Bool) (i : Nat) (W : World) (v : Value) : Prop := L 10 = false → match i with
  | 0 => v = .pointer (some ⟨Bw, 1, none⟩)
  | 1 => v = vR
  | 2 => v = .pointer (some ⟨bx, 3, none⟩)
  | 3 => v = .agg vG
  | 4 => ∃ B, v = .func (.func 57) #[] #[.pointer (some ⟨B, 0, none⟩)] ∧ W.heap[B]? = some (.cells vG 61)
  | 5 => ∃ vy ao cap, v = .tuple #[vy, .slice ao S2.length cap] ∧ SrOut W Z ao S2
  | 6 => ∃ vy ao cap, v = .tuple #[vy, .slice ao S2.length cap] ∧ SrOut W Z ao S2
  | 8 => ∃ ao cap, v = .slice ao S2.length cap ∧ SrOut W Z ao S2
  | 9 => v = .pointer (some ⟨Bw, 1, none⟩)
  | _ => True

theorem T32.below {Bw bx : Nat} {Z : Nat → Prop} {vR : Value} {vG : Array Value} {S2 : List Sr} {L L' : Nat → Bool} {W W' : World} (h10 : L' 10 = L 10) (k : Below W.heap.size W W') : ∀ {i : Nat} {v : Value}, T32 Bw bx Z vR vG S2 L i W v → T32 Bw bx Z vR vG S2 L' i W' v := by
  intro i v h e10
  have h := h (by rw [← h10]; exact e10)
  match i, h with
  | 0, h => exact h
  | 1, h => exact h
  | 2, h => exact h
  | 3, h => exact h
  | 4, ⟨B, q1, q2⟩ => exact ⟨B, q1, (k.block B (heap_lt q2)).trans q2⟩
  | 5, ⟨vy, ao, cap, q1, q2⟩ => exact ⟨vy, ao, cap, q1, q2.kept (ZFr.below k)⟩
  | 6, ⟨vy, ao, cap, q1, q2⟩ => exact ⟨vy, ao, cap, q1, q2.kept (ZFr.below k)⟩
  | 7, _ => trivial
  | 8, ⟨ao, cap, q1, q2⟩ => exact ⟨ao, cap, q1, q2.kept (ZFr.below k)⟩
  | 9, h => exact h
  | _ + 10, _ => trivial

/-- What is told in the region that holds both sides against each other. -/
def T34 (hb Bw : Nat) (m : Int) (vR : Value) (S : List Sr) (_ : Nat → Bool) (i : Nat) (W : World) (v : Value) : Prop := match i with
  | 0 => v = .pointer (some ⟨hb, 0, none⟩)
  | 1 => v = .int .i64 m
  | 2 => v = .pointer (some ⟨Bw, 0, none⟩)
  | 3 => v = .int .i64 m
  | 4 => v = .bool false
  | 5 => v = .bool false
  | 6 => v = .pointer (some ⟨hb, 0, none⟩)
  | 7 => ∃ ao cap, v = .slice ao S.length cap ∧ SrRow W ao S
  | 8 => v = .pointer (some ⟨Bw, 1, none⟩)
  | 9 => v = vR
  | 10 => v = .bool true
  | 11 => v = .bool false
  | 12 => v = .bool false
  | _ => True

theorem T34.below {hb Bw : Nat} {m : Int} {vR : Value} {S : List Sr} {L L' : Nat → Bool} {W W' : World} (k : Below W.heap.size W W') : ∀ {i : Nat} {v : Value}, T34 hb Bw m vR S L i W v → T34 hb Bw m vR S L' i W' v
  | 0, _, h => h
  | 1, _, h => h
  | 2, _, h => h
  | 3, _, h => h
  | 4, _, h => h
  | 5, _, h => h
  | 6, _, h => h
  | 7, _, ⟨ao, cap, q1, q2⟩ => ⟨ao, cap, q1, q2.below k⟩
  | 8, _, h => h
  | 9, _, h => h
  | 10, _, h => h
  | 11, _, h => h
  | 12, _, h => h
  | _ + 13, _, _ => trivial

theorem ld_gone (b k : Nat) (ao : Option Addr) (n c : Nat) (x y : Int) (w : World) (c0 : w.cell? ⟨b, k, none⟩ = some (.slice ao n c)) (c1 : w.cell? ⟨b, k + 1, none⟩ = some (.int .i64 x)) (c2 : w.cell? ⟨b, k + 2, none⟩ = some (.int .i64 y)) : (Instr.loadAt 61 (.pointer (some ⟨b, k, none⟩))).run Tryz.prog w = .ok (.agg #[.slice ao n c, .int .i64 x, .int .i64 y]) w := by
  have hs : (Tryz.prog.info? 61).map (·.size) = some 3 := by kernel_rfl
  go_simp

theorem fa3_turn (w : World) (b : Nat) : (Instr.fieldAt 63 (.pointer (some ⟨b, 0, none⟩)) 3).run Tryz.prog w = .ok (.pointer (some ⟨b, 3, none⟩)) w := by
  go_simp

theorem neq_self (m : Int) (w : World) : (binOp .neq 2 (.int .i64 m) (.int .i64 m)).run Tryz.prog w = .ok (.bool false) w := by
  go_simp

theorem neq_guard (x y : Operand) (m n : Int) (w : World) : (eqGuard .neq 2 x y (.int .i64 m) (.int .i64 n)).run Tryz.prog w = .ok () w := by
  go_simp

end Go.Proofs.YtdmnlmohfaafoadGreatDoor

