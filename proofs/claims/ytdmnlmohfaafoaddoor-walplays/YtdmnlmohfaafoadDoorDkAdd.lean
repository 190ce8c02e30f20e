/- What the disk's made and Append do. -/
import Derived.Test.YtdmnlmohfaafoadDoorDkFn
namespace Go.Proofs.YtdmnlmohfaafoadDoor
open Go.RowKit Go.Maps

/-- What is done to a disk: it is one again, and no block but its own has turned. -/
def DkEnd (w : World) (X : Nat → Prop) (bd cnt : Nat) (D : DK.M) (p : Int) (w' : World) : Prop :=
  ∃ X', Dk w' X' bd cnt D p ∧ XFr X w w' ∧ ∀ j, X' j → X j ∨ w.heap.size ≤ j

theorem zcell (w : World) (b : Nat) (a : Array Value) (t : TypeId) (h : w.heap[b]? = some (.cells a t)) (i : Nat) (v : Value) (hv : a[i]? = some v) : w.cell? ⟨b, i, none⟩ = some v := by simp [World.cell?, h, hv]

theorem zfrozen (w : World) (b : Nat) (a : Array Value) (t : TypeId) (h : w.heap[b]? = some (.cells a t)) (i : Nat) : w.frozen? ⟨b, i, none⟩ = false := by simp [World.frozen?, h]

section
variable {w : World} {X : Nat → Prop} {bd cnt : Nat} {D : DK.M} {p : Int} {mo : Option Nat} {fp : ByteArray → Option Nat} {fv : ByteArray → Value} {e : Bool} {l : Int}

/-- The first map. -/
theorem DkI.mapped (h : DkA w X bd cnt D p none fp fv e l) : DkA ((w.setCell ⟨bd, 0, none⟩ (.map (some w.heap.size))).alloc (.map #[] 0)) (fun j => X j ∨ w.heap.size ≤ j) bd cnt D p (some w.heap.size) fp fv e l := by
  have hlt := h.lt
  have hs : (w.setCell ⟨bd, 0, none⟩ (.map (some w.heap.size))).heap.size = w.heap.size := by simp
  have hb0 : (w.setCell ⟨bd, 0, none⟩ (.map (some w.heap.size))).heap[bd]? = some (.cells #[.map (some w.heap.size), .bool e, .int .i64 l] 26) := by
    rw [heap_setCell_same _ bd 0 _ _ _ h.dsk]; rfl
  have hM := MapF.made (w.setCell ⟨bd, 0, none⟩ (.map (some w.heap.size))) Tryd.prog 9
  rw [hs] at hM
  refine { xd := .inl h.xd, dsk := (Below.heap_alloc _ _ bd (by rw [hs]; exact hlt)).trans hb0, pw := h.pw, map := ?_, nomap := fun h0 => (by cases h0), files := ?_ }
  · intro bm hm
    cases hm
    refine ⟨.inr (Nat.le_refl _), ?_⟩
    have e1 : pF fp = fun _ => none := by funext n; unfold pF; rw [h.nomap rfl n]; rfl
    rw [e1]
    exact hM.mono (Nat.zero_le _)
  · refine (h.files.grow (fun _ hj => .inl hj)).but h.dsk (by simp) (by simp) fun j hj hjl hjb => ?_
    exact (Below.heap_alloc _ _ j (by rw [hs]; exact hjl)).trans (Below.heap_setCell _ ⟨bd, 0, none⟩ _ j hjb)

theorem mapped_fr (hx : X bd) : XFr X w ((w.setCell ⟨bd, 0, none⟩ (.map (some w.heap.size))).alloc (.map #[] 0)) :=
  (XFr.setCell w ⟨bd, 0, none⟩ _ hx).trans (XFr.alloc X _ _) (fun _ hj => .inl hj)

/-- A new file. -/
theorem DkI.born {bm : Nat} (h : DkA w X bd cnt D p (some bm) fp fv e l) {n : ByteArray} (hn : fp n = none) (hs : n.size ≤ maxLen) (hc : cnt < maxLen) :
    ∃ w', (Instr.mapUpdate 24 (.map (some bm)) (.string n) (.pointer (some ⟨w.heap.size, 0, none⟩))).run Tryd.prog (w.alloc (.cells #[.slice none 0 0, .int .i64 0, .bool false] 88)) = .ok () w' ∧
      DkA w' (fun j => X j ∨ w.heap.size ≤ j) bd (cnt + 1) (DK.put D n DK.new) p (some bm) (putN fp n w.heap.size) (putV fv n (.slice none 0 0)) e l ∧ (w.alloc (.cells #[.slice none 0 0, .int .i64 0, .bool false] 88)).grownBy w' (some bm) := by
  obtain ⟨m1, m2⟩ := h.map bm rfl
  obtain ⟨es, clock, hb⟩ := m2.isMap
  have hbl := m2.lt
  obtain ⟨w', hrun, hM, hg⟩ := (m2.alloc (.cells #[.slice none 0 0, .int .i64 0, .bool false] 88)).store Tryd.underlying9 Tryd.underlying24 hc hs (.pointer (some ⟨w.heap.size, 0, none⟩))
  have hkeep : ∀ j, j < w.heap.size → j ≠ bm → w'.heap[j]? = w.heap[j]? := fun j hj hne => (hg.block j (by simp; omega) (fun e => hne (Option.some.inj e))).trans (Below.heap_alloc w _ j hj)
  have hdb : bd ≠ bm := fun e1 => by
    subst e1
    rw [h.dsk] at hb; cases hb
  refine ⟨w', hrun, { xd := .inl h.xd, dsk := (hkeep bd h.lt hdb).trans h.dsk, pw := h.pw, map := ?_, nomap := fun h0 => (by cases h0), files := ?_ }, hg⟩
  · intro bm' hm
    cases hm
    refine ⟨.inl m1, ?_⟩
    rw [pF_put]; exact hM
  · refine h.files.born hn ?_ fun j hj hjl hh => hkeep j hjl (fun e1 => ?_)
    · rw [hg.block w.heap.size (by simp) (fun e1 => by have := Option.some.inj e1; omega)]
      exact heap_alloc_new w _
    · subst e1
      rw [hb] at hh
      rcases hh with ⟨c, h1⟩ | ⟨c, h1⟩ <;> cases h1

/-- What made leaves. -/
def MadeEnd (w : World) (X : Nat → Prop) (bd cnt : Nat) (D : DK.M) (p : Int) (n : ByteArray) (en : Ending) (w' : World) : Prop :=
  ∃ q X' mo' fp' fv' e' l', en = .returned (.pointer (some ⟨q, 0, none⟩)) ∧ fp' n = some q ∧ DkA w' X' bd (cnt + 1) (DK.put D n ((D n).getD DK.new)) p mo' fp' fv' e' l' ∧ XFr X w w' ∧ ∀ j, X' j → X j ∨ w.heap.size ≤ j

theorem eqb_some (b : Nat) (W : World) : Sem.run Tryd.prog (binOp BinOp.eql 24 (.map (some b)) (.map none)) W = .ok (.bool false) W := by kernel_rfl

theorem eqb_none (W : World) : Sem.run Tryd.prog (binOp BinOp.eql 24 (.map none) (.map none)) W = .ok (.bool true) W := by kernel_rfl

set_option maxRecDepth 100000 in
theorem made_any (h : DkA w X bd cnt D p mo fp fv e l) (n : ByteArray) (hn : n.size ≤ maxLen) (hc : cnt < 1000000) :
    Calls Tryd.prog 78 #[.pointer (some ⟨bd, 0, none⟩), .string n] w fun en w' => MadeEnd w X bd cnt D p n en w' := by
  have hmm := @run_makeMap Tryd.prog
  cases mo with
  | some bm =>
    have hem := eqb_some bm
    have c0 := h.c0
    have hL := h.look (W := w) n hn (fun _ _ => rfl)
    have HI := hid h
    have hlt := h.lt
    clear h
    cases hf : fp n with
    | some q =>
      rw [hf] at hL
      simp only [Option.map_some] at hL
      go_enter Tryd.func78, Tryd.ntmps78
      go_wp2
      go_ret
      obtain ⟨f, hD⟩ := HI.out.files.hasF hf
      refine ⟨q, X, some bm, fp, fv, e, l, rfl, hf, ?_, XFr.refl _ _, fun j hj => .inl hj⟩
      rw [hD]
      show DkA _ _ _ _ (DK.put D n f) _ _ _ _ _ _
      rw [DK.put_self D n f hD]
      exact HI.out.mono (Nat.le_succ _)
    | none =>
      rw [hf] at hL
      simp only [Option.map_none] at hL
      have hD : D n = none := (HI.out.files.no n).1 hf
      obtain ⟨w', hrun, hN, hg⟩ := HI.out.born hf hn (by unfold maxLen; omega)
      have c0' := hN.c0
      have hL' := hN.look (W := w') n hn (fun _ _ => rfl)
      rw [putN_same] at hL'
      simp only [Option.map_some] at hL'
      have HQ : Hid (MadeEnd w X bd cnt D p n (.returned (.pointer (some ⟨w.heap.size, 0, none⟩))) w') := by
        refine ⟨w.heap.size, _, some bm, putN fp n w.heap.size, putV fv n (.slice none 0 0), e, l, rfl, putN_same _ _ _, ?_, ?_, fun j hj => hj⟩
        · rw [hD]; exact hN
        · exact (XFr.alloc X w _).trans (XFr.grown (X := X) hg (fun j hj => by cases hj; exact .inl (HI.out.map bm rfl).1)) (fun j hj => .inl hj)
      clear hN hg
      go_enter Tryd.func78, Tryd.ntmps78
      go_wp2
      go_ret
      exact HQ.out
  | none =>
    have hem := eqb_none
    have c0 := h.c0
    have f0 := h.fr 0
    have hlt := h.lt
    have hf := h.nomap rfl n
    have hD : D n = none := (h.files.no n).1 hf
    have HF0 := hid (mapped_fr (w := w) h.xd)
    have HM := hid h.mapped
    clear h
    have c0' := HM.out.c0
    have hL := HM.out.look (W := (w.setCell ⟨bd, 0, none⟩ (.map (some w.heap.size))).alloc (.map #[] 0)) n hn (fun _ _ => rfl)
    rw [hf] at hL
    simp only [Option.map_none] at hL
    obtain ⟨w', hrun, hN, hg⟩ := HM.out.born hf hn (by unfold maxLen; omega)
    have hc' := hN.c0
    have hL' := hN.look (W := w') n hn (fun _ _ => rfl)
    rw [putN_same] at hL'
    simp only [Option.map_some] at hL'
    have hsz1 : ((w.setCell ⟨bd, 0, none⟩ (.map (some w.heap.size))).alloc (.map #[] 0)).heap.size = w.heap.size + 1 := by simp
    have HQ : Hid (MadeEnd w X bd cnt D p n (.returned (.pointer (some ⟨w.heap.size + 1, 0, none⟩))) w') := by
      rw [hsz1] at hN
      refine ⟨w.heap.size + 1, fun j => (X j ∨ w.heap.size ≤ j) ∨ w.heap.size + 1 ≤ j, some w.heap.size, putN fp n (w.heap.size + 1), putV fv n (.slice none 0 0), e, l, rfl, putN_same _ _ _, ?_, ?_, ?_⟩
      · rw [hD]; exact hN
      · exact HF0.out.trans ((XFr.alloc (fun j => X j ∨ w.heap.size ≤ j) _ _).trans (XFr.grown (X := fun j => X j ∨ w.heap.size ≤ j) hg (fun j hj => by cases hj; exact .inl (.inr (Nat.le_refl _)))) (fun j hj => .inl hj)) (fun j hj => hj)
      · intro j hj
        rcases hj with hj | hj
        · exact hj
        · exact .inr (by omega)
    clear hN hg
    rw [hsz1] at hrun hL'
    clear hsz1
    go_enter Tryd.func78, Tryd.ntmps78
    go_wp2
    go_ret
    exact HQ.out

/-- A file's row is another one, and its pointer is stored. -/
theorem DkI.setRow {w5 : World} {n : ByteArray} {q : Nat} {f : DK.Fl} {v' : Value} {b' : ByteArray} (h : DkA w X bd cnt D p mo fp fv e l) (hq : fp n = some q) (hD : D n = some f) (hr : RowB w5 v' b') (hg : w.grownBy w5 (fv n).ownBlock) (hl : v'.ownBlock = (fv n).ownBlock ∨ v'.ownBlock = some w.heap.size) :
    w5.cell? ⟨q, 0, none⟩ = some (fv n) ∧ w5.frozen? ⟨q, 0, none⟩ = false ∧ DkA (w5.setCell ⟨q, 0, none⟩ v') (fun j => X j ∨ w.heap.size ≤ j) bd cnt (DK.put D n ⟨b', f.s, f.k⟩) p mo fp (putV fv n v') e l ∧ XFr X w (w5.setCell ⟨q, 0, none⟩ v') := by
  obtain ⟨b1, b2, b3, b4⟩ := h.files.body n q f hq hD
  have hne : some q ≠ (fv n).ownBlock := fun e1 => by
    obtain ⟨cur, hc⟩ := b3.at e1.symm
    rw [b2] at hc
    simp at hc
  have hq5 := (hg.block q (heap_lt b2) hne).trans b2
  have hv'q : ∀ g, v'.ownBlock = some g → g ≠ q := by
    intro g hg' e1
    subst e1
    obtain ⟨cur, hc⟩ := hr.at hg'
    rw [hq5] at hc
    simp at hc
  refine ⟨zcell _ q _ _ hq5 0 _ rfl, zfrozen _ q _ _ hq5 0, h.set (w' := w5.setCell ⟨q, 0, none⟩ v') (f' := ⟨b', f.s, f.k⟩) (v' := v') hq (by simpa using hg.size) ?_ ?_ ?_ ?_, ?_⟩
  · intro j hj hjq hjv
    exact (Below.heap_setCell w5 ⟨q, 0, none⟩ _ j hjq).trans (hg.block j hj (fun e1 => hjv e1.symm))
  · rw [heap_setCell_same w5 q 0 _ _ _ hq5]; rfl
  · exact hr.block fun g hg' => Below.heap_setCell w5 ⟨q, 0, none⟩ _ g (hv'q g hg')
  · intro g hg'
    rcases hl with h1 | h1
    · exact .inl (h1 ▸ hg')
    · rw [h1] at hg'
      exact .inr (Nat.le_of_eq (Option.some.inj hg'))
  · exact (XFr.grown (X := X) hg (fun j hj => .inl (b4 j hj))).trans (XFr.setCell w5 ⟨q, 0, none⟩ v' (X := X) b1) (fun j hj => .inl hj)

theorem Tryd.info5 : (Tryd.prog.info? 5).map (fun i => (i.zero, i.size, i.bytes)) = some (some (.int .u8 0), 1, 1) := by kernel_rfl

/-- A text at a row's end, at the operation. -/
theorem wpList_append_row {ops : Array Oper} {rest : List Oper} {o : Oper} {a : Act} {Q : Exit → Act → World → Prop} (hgd : o.guard = none) (sl x : Operand)
    (ho : o.op = .call { callee := .builtin .append, args := #[sl, x], argTypes := #[80, 9] }) (v : Value) (b s : ByteArray) (hs : a.eval sl = v) (hx : a.eval x = .string s) (hr : RowB w v b) (hb : b.size + s.size ≤ 140737488355328)
    (h : ∀ v' w', RowB w' v' (b ++ s) → w.grownBy w' v.ownBlock → (v'.ownBlock = v.ownBlock ∨ v'.ownBlock = some w.heap.size) → wpList Tryd.prog ops Q rest (a.put o.dst v') w') : wpList Tryd.prog ops Q (o :: rest) a w := by
  obtain ⟨i, hi, hz0, hz1, hz2⟩ := info_parts Tryd.info5
  refine wpList_plain hgd fun K hK => ?_
  obtain ⟨v', w', hrun, h2, h3, h4⟩ := hr.append (P := Tryd.prog) (t := 80) (u := 9) o.type Tryd.underlying80 Tryd.underlying9 hi hz0 hz1 hz2 s hb
  unfold Oper.wp execOp
  simp only [ho, resolve, invoke, builtin, Sem.run_bind, Sem.run_pure, Result.andThen_ok, List.map_toArray, List.map_cons, List.map_nil, hs, hx, hrun]
  exact hK _ _ (h v' w' h2 h3 h4)

end

end Go.Proofs.YtdmnlmohfaafoadDoor
