/- What slices.Clone, the file's keep and the disk's Start do. -/
import Derived.Test.YtdmnlmohfaafoadDoorDkDo
import Derived.Deep.RegionWith
namespace Go.Proofs.YtdmnlmohfaafoadDoor
open Go.RowKit Go.Maps

theorem strCells_get (b : ByteArray) (j : Nat) (u : Value) (h : (Lib.strCells b)[j]? = some u) : j < b.size := by
  have := (List.getElem?_eq_some_iff.1 h).1
  rwa [Lib.strCells_length] at this

theorem eqs_some (a : Addr) (m c : Nat) (W : World) : Sem.run Tryd.prog (binOp BinOp.eql 80 (.slice (some a) m c) (.slice none 0 0)) W = .ok (.bool false) W := by kernel_rfl

theorem eqs_none (m c : Nat) (W : World) : Sem.run Tryd.prog (binOp BinOp.eql 80 (.slice none m c) (.slice none 0 0)) W = .ok (.bool true) W := by kernel_rfl

set_option maxRecDepth 100000 in
theorem clone_some (g m c : Nat) (b : ByteArray) (w : World) (hb : b.size = m) (hc : ∀ j u, (Lib.strCells b)[j]? = some u → w.cell? ⟨g, j, none⟩ = some u) (hm : m ≤ 1000000000) (hg : g < w.heap.size) :
    Calls Tryd.prog 85 #[.slice (some ⟨g, 0, none⟩) m c] w fun en w' => ∃ ao k c', en = .returned (.slice ao k c') ∧ w'.ownsRow w.heap.size 5 1 (.slice ao k c') b.size (Lib.strCells b) ∧ Below w.heap.size w w' := by
  obtain ⟨i, hi, hz0, hz1, hz2⟩ := info_parts Tryd.info5
  have heq := eqs_some ⟨g, 0, none⟩ m c
  have HC := hid hc
  have HI0 := hid hi
  have HZ0 := hid hz0
  have HZ1 := hid hz1
  have HZ2 := hid hz2
  have HB := hid hb
  clear hc hi hz0 hz1 hz2 hb
  go_enter Tryd.func85, Tryd.ntmps85
  have HO : Hid ((w.alloc (.cells #[] 5)).ownsRow w.heap.size 5 1 (.slice (some ⟨w.heap.size, 0, none⟩) 0 0) 0 []) := ⟨rfl, .inr ⟨w.heap.size, 0, #[], rfl, Nat.le_refl _, heap_alloc_new w _, Nat.le_refl _, by unfold maxLen; omega, rfl, rfl⟩⟩
  have HN : Hid (∀ j u, (Lib.strCells b)[j]? = some u → (w.alloc (.cells #[] 5)).cell? ((⟨g, 0, none⟩ : Addr).add j) = some u) := fun j u hj => by
    have h1 := HC.out j u hj
    rw [Addr.add_lit, Nat.zero_add]
    exact (World.cell?_of_block (w := w) (w' := w.alloc (.cells #[] 5)) (a := ⟨g, j, none⟩) (Below.heap_alloc w _ g hg)).trans h1
  have HL : Hid ((Lib.strCells b).length = m * 1) := by
    show _ = _
    rw [Lib.strCells_length, HB.out, Nat.mul_one]
  go_wp2_with (at_builtin; refine wpList_append_own _ rfl (.tmp 5) (.tmp 6) 80 rfl w.heap.size 5 i (.int .u8 0) 1 1 Tryd.underlying80 HI0.out HZ0.out HZ1.out HZ2.out rfl (by decide) _ 0 [] rfl HO.out ⟨g, 0, none⟩ m c (Lib.strCells b) rfl HL.out HN.out (Lib.strCells_oneCell b) (by unfold maxLen; omega) (by omega) (by simp) ?_)
  intro v' w1 hown' hgrow _
  have HQ : Hid (w1.ownsRow w.heap.size 5 1 v' b.size (Lib.strCells b) ∧ Below w.heap.size w w1) := by
    refine ⟨?_, ((Below.refl w.heap.size w).alloc (Nat.le_refl _) (.cells #[] 5)).grown hgrow (by simp) (fun j hj => by cases hj; exact Nat.le_refl _)⟩
    rw [HB.out]
    simpa using hown'
  obtain ⟨ao, k, c', rfl⟩ : ∃ (ao : Option Addr) (k c' : Nat), v' = .slice ao k c' := by
    rcases hown'.2 with ⟨h0, _⟩ | ⟨_, _, _, h0, _⟩
    · exact ⟨_, _, _, h0⟩
    · exact ⟨_, _, _, h0⟩
  clear hown' hgrow HO HN HL
  go_wp2
  go_ret
  exact ⟨ao, k, c', rfl, HQ.out.1, HQ.out.2⟩

set_option maxRecDepth 100000 in
theorem clone_none (w : World) :
    Calls Tryd.prog 85 #[.slice none 0 0] w fun en w' => en = .returned (.slice none 0 0) ∧ w' = w := by
  have heq := eqs_none 0 0
  go_enter Tryd.func85, Tryd.ntmps85
  go_wp2
  go_ret
  exact ⟨rfl, rfl⟩

/-- The first z bytes of a row, laid anew. -/
def CutEnd (w : World) (b : ByteArray) (z : Nat) (en : Ending) (w' : World) : Prop :=
  ∃ ao k c', en = .returned (.slice ao k c') ∧ RowB w' (.slice ao k c') (b.extract 0 z) ∧ (∀ g, (Value.slice ao k c').ownBlock = some g → w.heap.size ≤ g) ∧ Below w.heap.size w w'

theorem strCells_extract (b : ByteArray) (z : Nat) : Lib.strCells (b.extract 0 z) = (Lib.strCells b).take z := by
  unfold Lib.strCells
  rw [← List.map_take]
  congr 1
  simp [ByteArray.data_extract]

theorem clone_cut {ao : Option Addr} {cap z : Nat} {b : ByteArray} {w : World} (h : RowB w (.slice ao b.size cap) b) (hz : z ≤ b.size) (hb : b.size ≤ 1000000000) :
    Calls Tryd.prog 85 #[.slice ao z cap] w fun en w' => CutEnd w b z en w' := by
  rcases h.2 with ⟨h0, h1⟩ | ⟨g, cap', cur, h0, _, hc, _⟩
  · simp only [Value.slice.injEq] at h0
    obtain ⟨rfl, _, rfl⟩ := h0
    have hz0 : z = 0 := by omega
    subst hz0
    refine (clone_none w).mono ?_
    rintro en w' ⟨rfl, rfl⟩
    refine ⟨none, 0, 0, rfl, ?_, fun g hg => (by cases hg), Below.refl _ _⟩
    have e1 : (b.extract 0 0).size = 0 := by rw [ByteArray.size_extract]; omega
    show World.ownsRow _ _ _ _ _ _ _
    rw [strCells_extract, e1]
    exact World.ownsRow_nil w' 0 5 1
  · simp only [Value.slice.injEq] at h0
    obtain ⟨rfl, _, rfl⟩ := h0
    have e1 : (b.extract 0 z).size = z := by rw [ByteArray.size_extract]; omega
    refine (clone_some g z cap (b.extract 0 z) w e1 (fun j u hj => ?_) (by omega) (heap_lt hc)).mono ?_
    · rw [strCells_extract, List.getElem?_take] at hj
      split at hj
      · have := h.cells (g := g) rfl j u hj
        rw [Addr.add_lit, Nat.zero_add] at this
        exact this
      · cases hj
    · rintro en w' ⟨ao, k, c', rfl, ho, hbel⟩
      exact ⟨ao, k, c', rfl, ho.mono (Nat.zero_le _), fun g' hg' => (ho.lt g' hg').1, hbel⟩

section
variable {w : World} {X : Nat → Prop} {bd cnt : Nat} {D : DK.M} {p : Int} {mo : Option Nat} {fp : ByteArray → Option Nat} {fv : ByteArray → Value} {e : Bool} {l : Int}

/-- What keep leaves: the file's block and its row alone are turned. -/
def KeepEnd (w : World) (X : Nat → Prop) (bd cnt : Nat) (D : DK.M) (p : Int) (mo : Option Nat) (fp : ByteArray → Option Nat) (fv : ByteArray → Value) (e : Bool) (l : Int) (n : ByteArray) (q : Nat) (f' : DK.Fl) (w' : World) : Prop :=
  (∃ v', DkA w' (fun j => X j ∨ w.heap.size ≤ j) bd cnt (DK.put D n f') p mo fp (putV fv n v') e l) ∧ XFr X w w' ∧ ∀ j, j < w.heap.size → j ≠ q → (∀ c, w.heap[j]? ≠ some (.cells c 5)) → w'.heap[j]? = w.heap[j]?

theorem keep_end {w0 w1 w2 : World} {n : ByteArray} {q z m : Nat} {f : DK.Fl} {v2 v0 : Value} (h : DkA w0 X bd cnt D p mo fp fv e l) (hx0 : XFr X w w0) (hs0 : w0.heap.size = w.heap.size) (hk0 : ∀ j : Nat, w0.heap[j]? = w.heap[j]?) (hq : fp n = some q) (hD : D n = some f) (hz : f.s + z = (DK.keepB f m).s)
    (hk1 : ∀ j, j ≠ q → w1.heap[j]? = w0.heap[j]?) (hx1 : XFr (fun j => j = q) w0 w1) (hb : Below w1.drew.heap.size w1.drew w2) (hq2 : w2.heap[q]? = some (.cells #[v0, .int .i64 ((f.s : Int) + (z : Int)), .bool true] 88)) (hr : RowB w2 v2 (f.b.extract 0 (f.s + z))) (hn : ∀ g, v2.ownBlock = some g → w1.drew.heap.size ≤ g) :
    KeepEnd w X bd cnt D p mo fp fv e l n q (DK.keepB f m) (w2.setCell ⟨q, 0, none⟩ v2) := by
  obtain ⟨b1, b2, b3, b4⟩ := h.files.body n q f hq hD
  have hs1 : w0.heap.size ≤ w1.drew.heap.size := hx1.size
  have hs2 := hb.size
  have hkk : ∀ j, j < w0.heap.size → j ≠ q → (w2.setCell ⟨q, 0, none⟩ v2).heap[j]? = w0.heap[j]? := fun j hj hjq => (Below.heap_setCell w2 ⟨q, 0, none⟩ v2 j hjq).trans ((hb.block j (by omega)).trans (hk1 j hjq))
  have hset := h.set (w' := w2.setCell ⟨q, 0, none⟩ v2) (f' := DK.keepB f m) (v' := v2) hq (by simp; omega) (fun j hj hjq _ => hkk j hj hjq)
    (by rw [heap_setCell_same w2 q 0 _ _ _ hq2, ← hz, Int.natCast_add]; rfl)
    (by
      have e1 : (DK.keepB f m).b = f.b.extract 0 (f.s + z) := by rw [hz]; rfl
      rw [e1]
      exact hr.block fun g hg => Below.heap_setCell w2 ⟨q, 0, none⟩ v2 g (fun e2 => by
        subst e2
        obtain ⟨cur, hc⟩ := hr.at hg
        rw [hq2] at hc
        simp at hc))
    (fun g hg => .inr (by have := hn g hg; omega))
  rw [hs0] at hset
  refine ⟨⟨v2, hset⟩, ?_, ?_⟩
  · have hx2 : XFr (fun j => j = q) w1.drew (w2.setCell ⟨q, 0, none⟩ v2) := (XFr.below hb).trans (XFr.setCell w2 ⟨q, 0, none⟩ v2 (X := fun j => j = q) rfl) (fun j hj => .inl hj)
    have hx12 : XFr (fun j => j = q) w0 w1.drew := ⟨hx1.os, hx1.tape, hx1.output, hx1.size, hx1.block⟩
    exact hx0.trans ((hx12.trans hx2 (fun j hj => .inl hj)).mono (X' := X) (fun j hj => by rw [hj]; exact b1)) (fun j hj => .inl hj)
  · intro j hj hjq _
    rw [hkk j (by omega) hjq, hk0]

set_option maxRecDepth 100000 in
theorem keep_any {n : ByteArray} {q : Nat} {f : DK.Fl} (h : DkA w X bd cnt D p mo fp fv e l) (hq : fp n = some q) (hD : D n = some f) (hs : f.s ≤ f.b.size) (hb : f.b.size ≤ 1000000000) (m : Nat) (_hm : (m : Int) ≤ 9223372036854775807) :
    Calls Tryd.prog 49 #[.pointer (some ⟨q, 0, none⟩), .int .i64 m] w fun en w' => en = .returned (.tuple #[]) ∧ KeepEnd w X bd cnt D p mo fp fv e l n q (DK.keepB f m) w' := by
  obtain ⟨b1, b2, b3, b4⟩ := h.files.body n q f hq hD
  obtain ⟨ao, cap, hv, hcap⟩ := b3.shape
  have hc0 := zcell _ q _ _ b2 0 (fv n) rfl
  have hc1 := zcell _ q _ _ b2 1 _ rfl
  have hc2 := zcell _ q _ _ b2 2 _ rfl
  have hf0 := zfrozen _ q _ _ b2 0
  have hf1 := zfrozen _ q _ _ b2 1
  have hf2 := zfrozen _ q _ _ b2 2
  rw [hv] at hc0
  have HI := hid h
  have HB2 := hid b2
  have HB3 := hid b3
  have HV := hid hv
  obtain ⟨d, hd⟩ : ∃ d : Nat, d = f.b.size - f.s := ⟨_, rfl⟩
  have hw : IntKind.i64.wrap ((f.b.size : Int) - (f.s : Int)) = (d : Int) := by rw [IntKind.wrap_i64]; omega
  have hw' : wrap64 ((f.b.size : Int) - (f.s : Int)) = (d : Int) := by unfold wrap64; omega
  have HD := hid hd
  clear h b1 b2 b3 b4 hd hv
  go_enter Tryd.func49, Tryd.ntmps49
  go_wp2_with fail
  go_quiet (fail)
  have hmin : (if d < m then (d : Int) else (m : Int)) = ((min m d : Nat) : Int) := by split <;> omega
  rw [hmin]
  have HZ : Hid (f.s + min m d = (DK.keepB f m).s) := by
    show _ = _
    unfold DK.keepB
    rw [HD.out]
  have hzle : f.s + min m d ≤ f.b.size := by have := HD.out; omega
  generalize min m d = z at *
  have HI0 : Hid (DkA (w.drewN nq) X bd cnt D p mo fp fv e l) := HI.out.kept fun _ _ _ => rfl
  have HX0 : Hid (XFr X w (w.drewN nq)) := (XFr.refl X w).drewN nq
  have HK0 : Hid (∀ j : Nat, (w.drewN nq).heap[j]? = w.heap[j]?) := fun _ => rfl
  have HS0 : Hid ((w.drewN nq).heap.size = w.heap.size) := rfl
  replace HB2 : Hid ((w.drewN nq).heap[q]? = _) := HB2.out
  replace HB3 : Hid (RowB (w.drewN nq) (fv n) f.b) := HB3.out.block fun _ _ => rfl
  replace hc0 : (w.drewN nq).cell? _ = _ := hc0
  replace hc1 : (w.drewN nq).cell? _ = _ := hc1
  replace hc2 : (w.drewN nq).cell? _ = _ := hc2
  replace hf0 : (w.drewN nq).frozen? _ = _ := hf0
  replace hf1 : (w.drewN nq).frozen? _ = _ := hf1
  replace hf2 : (w.drewN nq).frozen? _ = _ := hf2
  generalize w.drewN nq = w0 at *
  have hws : IntKind.i64.wrap ((f.s : Int) + (z : Int)) = ((f.s + z : Nat) : Int) := by rw [IntKind.wrap_i64]; omega
  have hws' : wrap64 ((f.s : Int) + (z : Int)) = ((f.s + z : Nat) : Int) := by unfold wrap64; omega
  have hb1 : ((w0.setCell ⟨q, 1, none⟩ (.int .i64 ((f.s : Int) + (z : Int)))).setCell ⟨q, 2, none⟩ (.bool true)).heap[q]? = some (.cells #[fv n, .int .i64 ((f.s : Int) + (z : Int)), .bool true] 88) := by
    rw [heap_setCell_same _ q 2 _ _ _ (heap_setCell_same w0 q 1 _ _ _ HB2.out)]; rfl
  have hk1 : Hid (∀ j, j ≠ q → ((w0.setCell ⟨q, 1, none⟩ (.int .i64 ((f.s : Int) + (z : Int)))).setCell ⟨q, 2, none⟩ (.bool true)).heap[j]? = w0.heap[j]?) := fun j hj => (Below.heap_setCell _ ⟨q, 2, none⟩ _ j hj).trans (Below.heap_setCell w0 ⟨q, 1, none⟩ _ j hj)
  have hx1 : Hid (XFr (fun j => j = q) w0 ((w0.setCell ⟨q, 1, none⟩ (.int .i64 ((f.s : Int) + (z : Int)))).setCell ⟨q, 2, none⟩ (.bool true))) := (XFr.setCell w0 ⟨q, 1, none⟩ _ (X := fun j => j = q) rfl).trans (XFr.setCell _ ⟨q, 2, none⟩ _ (X := fun j => j = q) rfl) (fun j hj => .inl hj)
  go_wp2_with fail
  generalize (w0.setCell ⟨q, 1, none⟩ (.int .i64 ((f.s : Int) + (z : Int)))).setCell ⟨q, 2, none⟩ (.bool true) = w1 at *
  have HB1 := hid hb1
  have HR1 : Hid (RowB w1 (fv n) f.b) := HB3.out.block fun g hg => hk1.out g (fun e2 => by
    subst e2
    obtain ⟨cur, hc⟩ := HB3.out.at hg
    rw [HB2.out] at hc
    simp at hc)
  rw [HV.out] at hb1
  have hd0 := zcell _ q _ _ hb1 0 _ rfl
  have hd1 := zcell _ q _ _ hb1 1 _ rfl
  have hg0 := zfrozen _ q _ _ hb1 0
  have HC := hid (clone_cut (w := w1.drew) (z := f.s + z) (HV.out ▸ (HR1.out.block (w' := w1.drew) fun _ _ => rfl)) hzle hb)
  have HBd : Hid (w1.drew.heap[q]? = _) := HB1.out
  clear hb1 hc0 hc1 hc2 hf0 hf1 hf2 hw hw' hws hws' hmin
  have hlo : (0 : Int) ≤ (f.s : Int) + (z : Int) ∧ (f.s : Int) + (z : Int) ≤ (cap : Int) := ⟨by omega, by omega⟩
  have hcn : (((f.s : Int) + (z : Int)).toNat) = f.s + z := by omega
  go_region_with (go_at_call 85; refine HC.out.mono ?_; rintro en w2 ⟨ao2, k2, c2, rfl, hr2, hnew2, hbel2⟩; have hq2 := (hbel2.block q (heap_lt HBd.out)).trans HBd.out; have he0 := zcell _ q _ _ hq2 0 _ rfl; have hh0 := zfrozen _ q _ _ hq2 0; have HQ2 := hid hq2; have HR2 := hid hr2; have HN2 := hid hnew2; have HL2 := hid hbel2; clear hq2 hr2 hnew2 hbel2)
  all_goals
    go_wp2
    go_end0
    exact ⟨rfl, keep_end HI0.out HX0.out HS0.out HK0.out hq hD HZ.out hk1.out hx1.out HL2.out HQ2.out HR2.out HN2.out⟩

end

end Go.Proofs.YtdmnlmohfaafoadDoor
