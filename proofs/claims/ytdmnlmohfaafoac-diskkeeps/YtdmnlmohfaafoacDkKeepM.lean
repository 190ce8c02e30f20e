/- DiskKeeps: its acts in memory, and what is kept while they are done: what the disk has, what was written, and what was made safe. -/
import Derived.Test.YtdmnlmohfaafoacDkGrown
import Derived.Test.YtdmnlmohfaafoacDkPick
namespace Go.Proofs.Ytdmnlmohfaafoac
open Go.RowKit Go.Maps

/-- An act: what, which file, which other one, a number. -/
structure Ak where
  a : Int
  f : Int
  t : Int
  n : Int

def akD : Ak := ⟨0, 0, 0, 0⟩
def atK (L : List Ak) (i : Nat) : Ak := L.getD i akD

/-- The acts L lie from ao on. -/
def KRow (w : World) (ao : Option Addr) (L : List Ak) : Prop :=
  ∀ i, i < L.length → ∃ b off, ao = some ⟨b, off, none⟩ ∧ w.cell? ⟨b, off + i * 4, none⟩ = some (.int .i64 (atK L i).a) ∧ w.cell? ⟨b, off + i * 4 + 1, none⟩ = some (.int .i64 (atK L i).f) ∧
    w.cell? ⟨b, off + i * 4 + 2, none⟩ = some (.int .i64 (atK L i).t) ∧ w.cell? ⟨b, off + i * 4 + 3, none⟩ = some (.int .i64 (atK L i).n) ∧ b < w.heap.size

/-- A letter as a text. -/
def lt1 (k : Nat) : ByteArray := ⟨#[UInt8.ofNat (97 + k)]⟩

theorem lt1_size (k : Nat) : (lt1 k).size = 1 := rfl

/-- What was written, as the law notes it. -/
abbrev nF (D : DK.M) : ByteArray → Option Value := fun n => (D n).map fun f => Value.string f.b

theorem nF_put (D : DK.M) (n : ByteArray) (f : DK.Fl) : nF (DK.put D n f) = upd (nF D) n (.string f.b) := by
  funext m
  unfold nF DK.put upd
  by_cases h : m = n
  · rw [if_pos h, if_pos h]; rfl
  · rw [if_neg h, if_neg h]

theorem nF_del (D : DK.M) (n : ByteArray) : nF (DK.del D n) = cutF (nF D) n := by
  funext m
  unfold nF DK.del cutF
  by_cases h : m = n
  · rw [if_pos h, if_pos h]; rfl
  · rw [if_neg h, if_neg h]

/-- What is safe, as the law notes it: a number at each file that has any, nothing elsewhere. -/
def SafeF (D : DK.M) (fs : ByteArray → Option Value) : Prop :=
  ∀ n, (D n = none → fs n = none) ∧ ∀ f, D n = some f → (fs n).getD (.int .i64 0) = .int .i64 f.s

theorem SafeF.none : SafeF (fun _ => none) fun _ => none := fun _ => ⟨fun _ => rfl, fun _ h => by cases h⟩

theorem SafeF.get {D : DK.M} {fs : ByteArray → Option Value} (h : SafeF D fs) (n : ByteArray) : (fs n).getD (.int .i64 0) = .int .i64 ((D n).getD DK.new).s := by
  cases hd : D n with
  | none => rw [(h n).1 hd]; rfl
  | some f => exact (h n).2 f hd

/-- A text more at a file's end. -/
theorem SafeF.grow {D : DK.M} {fs : ByteArray → Option Value} (h : SafeF D fs) (n s : ByteArray) : SafeF (DK.put D n (DK.gr D n s)) fs := by
  intro m
  by_cases e : m = n
  · subst e
    rw [DK.put_same]
    refine ⟨fun h' => (by cases h'), fun f hf => ?_⟩
    cases hf
    exact h.get m
  · rw [DK.put_other _ _ _ _ e]; exact h m

/-- A file is safe as it is noted. -/
theorem SafeF.put {D : DK.M} {fs : ByteArray → Option Value} (h : SafeF D fs) (n : ByteArray) (f : DK.Fl) : SafeF (DK.put D n f) (upd fs n (.int .i64 f.s)) := by
  intro m
  by_cases e : m = n
  · subst e
    rw [DK.put_same, upd_same]
    exact ⟨fun h' => (by cases h'), fun f' hf => (by cases hf; rfl)⟩
  · rw [DK.put_other _ _ _ _ e, upd_other _ _ _ _ e]; exact h m

theorem SafeF.del {D : DK.M} {fs : ByteArray → Option Value} (h : SafeF D fs) (n : ByteArray) : SafeF (DK.del D n) (cutF fs n) := by
  intro m
  by_cases e : m = n
  · subst e
    rw [DK.del_same, cutF_same]
    exact ⟨fun _ => rfl, fun f' hf => (by cases hf)⟩
  · rw [DK.del_other _ _ _ e, cutF_other _ _ _ e]; exact h m

/-- What is there between two acts: the disk, and the two maps, apart. -/
structure KeepI (w : World) (bd bs bn cnt c2 : Nat) (X : Nat → Prop) (D : DK.M) (p : Int) (fs fn : ByteArray → Option Value) (W : World) : Prop where
  dk : Dk W X bd cnt D p
  sf : MapF Try.prog 9 W bs c2 fs
  nw : MapF Try.prog 9 W bn c2 fn
  sep : ∀ j, X j → j ≠ bs ∧ j ≠ bn ∧ w.heap.size ≤ j
  lo : w.heap.size ≤ bs ∧ w.heap.size ≤ bn ∧ bs ≠ bn
  bel : Below w.heap.size w W

section
variable {w W W' : World} {bd bs bn cnt c2 bx : Nat} {X : Nat → Prop} {D : DK.M} {p : Int} {fs fn : ByteArray → Option Value} {o : Obj}

theorem KeepI.below (h : KeepI w bd bs bn cnt c2 X D p fs fn W) (hb : Below W.heap.size W W') : KeepI w bd bs bn cnt c2 X D p fs fn W' :=
  ⟨h.dk.below' hb, h.sf.below hb h.sf.lt, h.nw.below hb h.nw.lt, h.sep, h.lo, h.bel.trans (hb.mono h.bel.size)⟩

theorem KeepI.mono (h : KeepI w bd bs bn cnt c2 X D p fs fn W) {cnt' c2' : Nat} (hc : cnt ≤ cnt') (hc2 : c2 ≤ c2') : KeepI w bd bs bn cnt' c2' X D p fs fn W := by
  obtain ⟨mo, fp, fv, e, l, hd⟩ := h.dk
  exact ⟨⟨mo, fp, fv, e, l, hd.mono hc⟩, h.sf.mono hc2, h.nw.mono hc2, h.sep, h.lo, h.bel⟩

/-- .. while an act lies in a box. -/
structure KeepB (w : World) (bd bs bn cnt c2 : Nat) (X : Nat → Prop) (D : DK.M) (p : Int) (fs fn : ByteArray → Option Value) (bx : Nat) (o : Obj) (W : World) : Prop where
  kp : KeepI w bd bs bn cnt c2 X D p fs fn W
  box : W.heap[bx]? = some o
  off : ¬ X bx ∧ bx ≠ bs ∧ bx ≠ bn

theorem KeepB.made (h : KeepI w bd bs bn cnt c2 X D p fs fn W) (o : Obj) : ∃ X', KeepB w bd bs bn cnt c2 X' D p fs fn W.heap.size o (W.alloc o) := by
  obtain ⟨mo, fp, fv, e, l, hd⟩ := h.dk
  refine ⟨fun j => X j ∧ j < W.heap.size, KeepI.below ⟨⟨mo, fp, fv, e, l, hd.narrow⟩, h.sf, h.nw, fun j hj => h.sep j hj.1, h.lo, h.bel⟩ ((Below.refl _ _).alloc (Nat.le_refl _) o), heap_alloc_new W o, fun h' => by omega, ?_, ?_⟩
  · have := h.sf.lt; omega
  · have := h.nw.lt; omega

theorem KeepB.below (h : KeepB w bd bs bn cnt c2 X D p fs fn bx o W) (hb : Below W.heap.size W W') : KeepB w bd bs bn cnt c2 X D p fs fn bx o W' :=
  ⟨h.kp.below hb, (hb.block bx (heap_lt h.box)).trans h.box, h.off⟩

theorem KeepB.mono (h : KeepB w bd bs bn cnt c2 X D p fs fn bx o W) {cnt' c2' : Nat} (hc : cnt ≤ cnt') (hc2 : c2 ≤ c2') : KeepB w bd bs bn cnt' c2' X D p fs fn bx o W := ⟨h.kp.mono hc hc2, h.box, h.off⟩

/-- The disk has gone on. -/
theorem KeepB.left {cnt' : Nat} {D' : DK.M} {p' : Int} (h : KeepB w bd bs bn cnt c2 X D p fs fn bx o W) (hd : DkEnd W X bd cnt' D' p' W') : ∃ X', KeepB w bd bs bn cnt' c2 X' D' p' fs fn bx o W' := by
  obtain ⟨X', h1, h2, h3⟩ := hd
  have hs := h.kp.bel.size
  have hbx := heap_lt h.box
  have hsl := h.kp.sf.lt
  have hnl := h.kp.nw.lt
  refine ⟨X', ⟨h1, h.kp.sf.block (h2.block bs hsl (fun e => (h.kp.sep bs e).1 rfl)), h.kp.nw.block (h2.block bn hnl (fun e => (h.kp.sep bn e).2.1 rfl)), fun j hj => ?_, h.kp.lo, h.kp.bel.trans (h2.toBelow (fun j hj => (h.kp.sep j hj).2.2) hs)⟩, (h2.block bx hbx h.off.1).trans h.box, fun e => ?_, h.off.2⟩
  · rcases h3 j hj with h4 | h4
    · exact h.kp.sep j h4
    · exact ⟨by omega, by omega, by omega⟩
  · rcases h3 bx e with h4 | h4
    · exact h.off.1 h4
    · omega

theorem Dk.kept' {W W' : World} {X : Nat → Prop} {bd cnt : Nat} {D : DK.M} {p : Int} (h : Dk W X bd cnt D p) (hg : ∀ j, X j → j < W.heap.size → W'.heap[j]? = W.heap[j]?) : Dk W' X bd cnt D p := by
  obtain ⟨mo, fp, fv, e, l, h⟩ := h
  exact ⟨mo, fp, fv, e, l, h.kept hg⟩

/-- What was written is noted. -/
theorem KeepB.noteN {fn' : ByteArray → Option Value} {c3 : Nat} (h : KeepB w bd bs bn cnt c2 X D p fs fn bx o W) (hg : W.grownBy W' (some bn)) (hM : MapF Try.prog 9 W' bn c3 fn') (hc : c2 ≤ c3) : KeepB w bd bs bn cnt c3 X D p fs fn' bx o W' := by
  have hlo := h.kp.lo
  have hs := h.kp.bel.size
  exact ⟨⟨h.kp.dk.kept' fun j hj hjl => hg.block j hjl (fun e => (h.kp.sep j hj).2.1 (Option.some.inj e)), (h.kp.sf.kept hg (fun e => hlo.2.2 (Option.some.inj e))).mono hc, hM, h.kp.sep, hlo, h.kp.bel.grown hg hs (fun j hj => by cases hj; exact hlo.2.1)⟩, (hg.block bx (heap_lt h.box) (fun e => h.off.2.2 (Option.some.inj e))).trans h.box, h.off⟩

/-- What is safe is noted. -/
theorem KeepB.noteS {fs' : ByteArray → Option Value} {c3 : Nat} (h : KeepB w bd bs bn cnt c2 X D p fs fn bx o W) (hg : W.grownBy W' (some bs)) (hM : MapF Try.prog 9 W' bs c3 fs') (hc : c2 ≤ c3) : KeepB w bd bs bn cnt c3 X D p fs' fn bx o W' := by
  have hlo := h.kp.lo
  have hs := h.kp.bel.size
  exact ⟨⟨h.kp.dk.kept' fun j hj hjl => hg.block j hjl (fun e => (h.kp.sep j hj).1 (Option.some.inj e)), hM, (h.kp.nw.kept hg (fun e => hlo.2.2 (Option.some.inj e).symm)).mono hc, h.kp.sep, hlo, h.kp.bel.grown hg hs (fun j hj => by cases hj; exact hlo.1)⟩, (hg.block bx (heap_lt h.box) (fun e => h.off.2.1 (Option.some.inj e))).trans h.box, h.off⟩

/-- What is kept between two acts. -/
def KeepR (w : World) (bd bs bn k : Nat) (W : World) : Prop :=
  ∃ X D p fs, KeepI w bd bs bn k (2 * k) X D p fs (nF D) W ∧ SafeF D fs ∧ DK.Fine (10 * k) D ∧ -1 ≤ p ∧ p ≤ 9223372036854775807

/-- .. behind an act, whose box is there; err: what it answered, on: whether there was power. -/
def KeepC (w : World) (bd bs bn k bx : Nat) (o : Obj) (xa : Int) (on : Bool) (err : Value) (W : World) : Prop :=
  (∃ X D p fs, KeepB w bd bs bn k (2 * k) X D p fs (nF D) bx o W ∧ SafeF D fs ∧ DK.Fine (10 * k) D ∧ -1 ≤ p ∧ p ≤ 9223372036854775807) ∧ ((err = .nilIface ∧ (on = true ∨ xa < 0 ∨ 3 < xa)) ∨ ∃ c : Int, err = .iface 92 (.int .i64 c))

end

end Go.Proofs.Ytdmnlmohfaafoac
