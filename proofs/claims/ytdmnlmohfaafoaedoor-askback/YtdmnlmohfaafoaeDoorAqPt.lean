/- The program's printer: a strings.Builder in a struct. -/
import Derived.Test.YtdmnlmohfaafoaeDoorAqTree
import Derived.Test.YtdmnlmohfaafoaeDoorShelfT
import Derived.Lib.AppendStr
import Derived.Lib.UnsafeStr
import Derived.Lib.Builder
import Derived.Laws.Externs
namespace Go.Proofs.YtdmnlmohfaafoaeDoor
open Go.RowKit Go.Shelf

/-- A printer in block bq, made behind w0: what is written, and how many parts may still come. -/
structure Pt (w0 w : World) (bq : Nat) (t : List UInt8) (k : Int) : Prop where
  low : Below w0.heap.size w0 w
  old : w0.heap.size ≤ bq
  few : t.length ≤ 1000000000
  box : ∃ p v, (p = .pointer none ∨ p = .pointer (some ⟨bq, 0, none⟩)) ∧ w.heap[bq]? = some (.cells #[p, v, .int .i64 k] 121) ∧ w.ownsRow w0.heap.size 5 1 v t.length (Lib.byteCells t)

theorem row_far {w : World} {base n k : Nat} {v : Value} {T U : TypeId} {xs : List Value} {b : Nat} {c : Array Value} (h : w.ownsRow base T k v n xs) (hb : w.heap[b]? = some (.cells c U)) (hT : T ≠ U) : v.ownBlock ≠ some b := fun e => by
  rcases h.2 with ⟨h0, _⟩ | ⟨g, cap, cur, h0, _, h2, _⟩
  · rw [h0] at e; cases e
  · rw [h0] at e
    have e2 : g = b := by simpa [Value.ownBlock] using e
    subst e2
    rw [h2] at hb
    simp only [Option.some.injEq, Obj.cells.injEq] at hb
    exact hT hb.2.1

theorem Pt.below {w0 w w' : World} {bq : Nat} {t : List UInt8} {k : Int} (h : Pt w0 w bq t k) (hb : Below w.heap.size w w') : Pt w0 w' bq t k := by
  obtain ⟨p, v, hp, hx, hr⟩ := h.box
  refine ⟨h.low.trans ⟨hb.os, hb.tape, hb.output, hb.size, fun j hj => hb.block j (Nat.lt_of_lt_of_le hj h.low.size)⟩, h.old, h.few, p, v, hp, (hb.block _ (heap_lt hx)).trans hx, krow_kept hr fun g _ hg => hb.block g (heap_lt hg)⟩

/-- A store into the printer's own block. -/
theorem Pt.low_set {w0 w : World} {bq : Nat} {t : List UInt8} {k : Int} (h : Pt w0 w bq t k) (o : Nat) (u : Value) : Below w0.heap.size w0 (w.setCell ⟨bq, o, none⟩ u) := h.low.setCell (p := ⟨bq, o, none⟩) h.old u

theorem row_set {w : World} {base n k : Nat} {v : Value} {T U : TypeId} {xs : List Value} {b o : Nat} {c : Array Value} {u : Value} (h : w.ownsRow base T k v n xs) (hb : w.heap[b]? = some (.cells c U)) (hT : T ≠ U) : (w.setCell ⟨b, o, none⟩ u).ownsRow base T k v n xs :=
  krow_kept h fun g cc hg => Below.heap_setCell w ⟨b, o, none⟩ u g (fun e => by
    simp only at e
    subst e
    rw [hb] at hg
    simp only [Option.some.injEq, Obj.cells.injEq] at hg
    exact hT hg.2.1.symm)

theorem below_grown' {w wx wy : World} {v : Value} {T : TypeId} {k n : Nat} {xs : List Value} (h : Below w.heap.size w wx) (hr : wx.ownsRow w.heap.size T k v n xs) (hg : wx.grownBy wy v.ownBlock) : Below w.heap.size w wy :=
  ⟨hg.os.trans h.os, hg.tape.trans h.tape, hg.output.trans h.output, Nat.le_trans h.size hg.size, fun q hq => (hg.block q (Nat.lt_of_lt_of_le hq h.size) (fun e => by have := (hr.lt q e.symm).1; omega)).trans (h.block q hq)⟩

theorem bSize : (Tryd.prog.info? 119).map (·.size) = some 2 := by kernel_rfl
theorem bLies : liesAt Tryd.prog Tryd.prog.depth 121 (3 / Tryd.prog.cellsOf 121) 0 119 1 = true := by kernel_rfl
theorem bU8 : (5 : TypeId) ≠ 121 := by decide

set_option maxRecDepth 100000 in
set_option maxHeartbeats 1000000 in
theorem pcheck_any (w0 : World) (bq : Nat) (t : List UInt8) (k : Int) (w : World) (h : Pt w0 w bq t k) :
    Calls Tryd.prog 113 #[.pointer (some ⟨bq, 0, none⟩)] w fun e w' => e = .returned (.tuple #[]) ∧ Pt w0 w' bq t k ∧ ∃ v, w'.heap[bq]? = some (.cells #[.pointer (some ⟨bq, 0, none⟩), v, .int .i64 k] 121) ∧ w'.ownsRow w0.heap.size 5 1 v t.length (Lib.byteCells t) := by
  have HP := hid h
  obtain ⟨p, v, hp, hx, hr⟩ := h.box
  obtain ⟨j, hj, hjs⟩ := Option.map_eq_some_iff.1 bSize
  rcases hp with rfl | rfl
  · have c0 := kcell _ _ _ _ hx 0 _ rfl
    have f0 := kfz hx 0
    have hsh : w.shape? bq = some (121, 3) := by simp [World.shape?, hx]
    have HN : Hid (Pt w0 (w.setCell ⟨bq, 0, none⟩ (.pointer (some ⟨bq, 0, none⟩))) bq t k ∧ ∃ v, (w.setCell ⟨bq, 0, none⟩ (.pointer (some ⟨bq, 0, none⟩))).heap[bq]? = some (.cells #[.pointer (some ⟨bq, 0, none⟩), v, .int .i64 k] 121) ∧ (w.setCell ⟨bq, 0, none⟩ (.pointer (some ⟨bq, 0, none⟩))).ownsRow w0.heap.size 5 1 v t.length (Lib.byteCells t)) := by
      have h1 := heap_setCell_same w bq 0 _ _ (.pointer (some ⟨bq, 0, none⟩)) hx
      have h2 := row_set (o := 0) (u := .pointer (some ⟨bq, 0, none⟩)) hr hx bU8
      exact ⟨⟨HP.out.low_set 0 _, HP.out.old, HP.out.few, _, v, .inr rfl, h1, h2⟩, v, h1, h2⟩
    clear hr h
    go_enter Tryd.func113, Tryd.ntmps113
    go_wp2
    rw [Lib.run_to_unsafe w ⟨bq, 0, none⟩ Tryd.underlying117 Tryd.underlying174 hj (by rw [hjs]; decide) hsh (Nat.zero_lt_succ 2)]
    simp only [Result.andThen]
    rw [Oper.upon_value]
    go_wp2
    rw [run_callFunc_extern Tryd.func137 (by kernel_rfl) (by kernel_rfl) (by kernel_rfl) (e := Extern.AbiNoEscape.same) (by kernel_rfl)]
    rw [Lib.run_noEscape]
    simp only [Result.andThen]
    rw [Oper.upon_value]
    go_wp2
    rw [Lib.run_from_unsafe w ⟨bq, 0, none⟩ Tryd.underlying174 Tryd.underlying117 hj hsh bLies]
    simp only [Result.andThen]
    rw [Oper.upon_value]
    go_wp2
    go_end0
    exact ⟨rfl, HN.out⟩
  · have c0 := kcell _ _ _ _ hx 0 _ rfl
    have HN : Hid (Pt w0 w bq t k ∧ ∃ v, w.heap[bq]? = some (.cells #[.pointer (some ⟨bq, 0, none⟩), v, .int .i64 k] 121) ∧ w.ownsRow w0.heap.size 5 1 v t.length (Lib.byteCells t)) := ⟨HP.out, v, hx, hr⟩
    clear hr h
    go_enter Tryd.func113, Tryd.ntmps113
    go_wp2
    rw [Lib.run_neq_ptr_same w _ Tryd.underlying117 hj]
    go_wp2
    go_end0
    exact ⟨rfl, HN.out⟩

theorem Tryd.infoU8 : (Tryd.prog.info? 5).map (fun i => (i.zero, i.size, i.bytes)) = some (some (.int .u8 0), 1, 1) := by kernel_rfl
theorem Tryd.uBytes : Tryd.prog.underlying 103 = some (.slice 5) := by kernel_rfl
theorem Tryd.uStr : Tryd.prog.underlying 9 = some .string := by kernel_rfl

/-- Behind an append: the box is as it was, and the row is another one. -/
theorem Pt.grown {w0 w wy : World} {bq : Nat} {t t' : List UInt8} {k : Int} {v v' : Value} {xs : List Value} (h : Pt w0 w bq t k) (hx : w.heap[bq]? = some (.cells #[.pointer (some ⟨bq, 0, none⟩), v, .int .i64 k] 121)) (hr : w.ownsRow w0.heap.size 5 1 v t.length (Lib.byteCells t)) (hg : w.grownBy wy v.ownBlock) (hr' : wy.ownsRow w0.heap.size 5 1 v' t'.length xs) (hxs : xs = Lib.byteCells t') (hf : t'.length ≤ 1000000000) :
    wy.heap[bq]? = some (.cells #[.pointer (some ⟨bq, 0, none⟩), v, .int .i64 k] 121) ∧ Pt w0 (wy.setCell ⟨bq, 1, none⟩ v') bq t' k := by
  subst hxs
  have hb : wy.heap[bq]? = some (.cells #[.pointer (some ⟨bq, 0, none⟩), v, .int .i64 k] 121) := (hg.block bq (heap_lt hx) (fun e => row_far hr hx bU8 e.symm)).trans hx
  refine ⟨hb, (below_grown' h.low hr hg).setCell (p := ⟨bq, 1, none⟩) h.old v', h.old, hf, _, v', .inr rfl, heap_setCell_same wy bq 1 _ _ v' hb, row_set hr' hb bU8⟩

theorem byte_app (t : List UInt8) (c : UInt8) : Lib.byteCells t ++ [.int .u8 (c.toNat : Int)] = Lib.byteCells (t ++ [c]) := by simp [Lib.byteCells]
theorem str_app (t : List UInt8) (s : ByteArray) : Lib.byteCells t ++ Lib.strCells s = Lib.byteCells (t ++ s.data.toList) := by simp [Lib.byteCells, Lib.strCells]

set_option maxRecDepth 100000 in
set_option maxHeartbeats 1000000 in
theorem pbyte_any (w0 : World) (bq : Nat) (t : List UInt8) (k : Int) (c : UInt8) (n : Int) (hn : n = (c.toNat : Int)) (w : World) (h : Pt w0 w bq t k) (hf : t.length + 1 ≤ 1000000000) :
    Calls Tryd.prog 72 #[.pointer (some ⟨bq, 0, none⟩), .int .u8 n] w fun e w' => e = .returned .nilIface ∧ Pt w0 w' bq (t ++ [c]) k := by
  have HC := hid (pcheck_any w0 bq t k w h)
  have HN := hid hn
  have HF := hid hf
  clear h hn hf
  go_enter Tryd.func72, Tryd.ntmps72
  go_wp2_with fail
  refine HC.out.mono ?_
  rintro e w1 ⟨rfl, hp1, v, hx, hr⟩
  obtain ⟨va, vc, ev⟩ := kown_slice hr
  subst ev
  have c1 := kcell _ _ _ _ hx 1 _ rfl
  have hal : Below w1.heap.size w1 (w1.alloc (.cells #[.int .u8 n] 5)) := (Below.refl _ w1).alloc (Nat.le_refl _) _
  have HP2 := hid (hp1.below hal)
  have HX2 := hid ((hal.block _ (heap_lt hx)).trans hx)
  have HR2 : Hid ((w1.alloc (.cells #[.int .u8 n] 5)).ownsRow w0.heap.size 5 1 (.slice va t.length vc) t.length (Lib.byteCells t)) := krow_kept hr fun g _ hg => hal.block g (heap_lt hg)
  have HN2 := hid (kone (heap_alloc_new w1 (.cells #[.int .u8 n] 5)))
  obtain ⟨ii, hi, hz0, hz1, hz2⟩ := info_parts Tryd.infoU8
  have HInf := hid (And.intro hi (And.intro hz0 (And.intro hz1 hz2)))
  have hsz := HP2.out.low.size
  clear hp1 hr hx hal hi hz0 hz1 hz2 HC
  go_wp2_with (at_builtin; refine wpList_append_own _ rfl (.tmp 11) (.tmp 13) 103 rfl w0.heap.size 5 ii (.int .u8 0) 1 1 Tryd.uBytes HInf.out.1 HInf.out.2.1 HInf.out.2.2.1 HInf.out.2.2.2 rfl (by decide) _ t.length (Lib.byteCells t) rfl HR2.out ⟨w1.heap.size, 0, none⟩ 1 1 [.int .u8 n] rfl rfl HN2.out (by simp [Value.oneCell']) (by have := HF.out; unfold maxLen; omega) (by have := HF.out; omega) hsz ?_)
  intro v' w3 hown' hgrow _
  obtain ⟨va', vc', ev'⟩ := kown_slice hown'
  subst ev'
  have hG := HP2.out.grown HX2.out HR2.out hgrow (t' := t ++ [c]) (v' := .slice va' (t.length + 1) vc') (by rw [List.length_append]; exact hown') (by rw [HN.out]; exact byte_app t c) (by have := HF.out; simp; omega)
  have d1 := kcell _ _ _ _ hG.1 1 _ rfl
  have f1 := kfz hG.1 1
  have HG := hid hG.2
  clear hown' hgrow hG HP2 HX2 HR2 HN2
  go_wp2_with fail
  go_ret
  exact ⟨rfl, HG.out⟩

set_option maxRecDepth 100000 in
set_option maxHeartbeats 1000000 in
theorem pstr_any (w0 : World) (bq : Nat) (t : List UInt8) (k : Int) (s : ByteArray) (w : World) (h : Pt w0 w bq t k) (hf : t.length + s.size ≤ 1000000000) :
    Calls Tryd.prog 73 #[.pointer (some ⟨bq, 0, none⟩), .string s] w fun e w' => e = .returned (.tuple #[.int .i64 s.size, .nilIface]) ∧ Pt w0 w' bq (t ++ s.data.toList) k := by
  have HC := hid (pcheck_any w0 bq t k w h)
  have HF := hid hf
  clear h hf
  go_enter Tryd.func73, Tryd.ntmps73
  go_wp2_with fail
  refine HC.out.mono ?_
  rintro e w1 ⟨rfl, hp1, v, hx, hr⟩
  obtain ⟨va, vc, ev⟩ := kown_slice hr
  subst ev
  have c1 := kcell _ _ _ _ hx 1 _ rfl
  have HP2 := hid hp1
  have HX2 := hid hx
  have HR2 := hid hr
  obtain ⟨ii, hi, hz0, hz1, hz2⟩ := info_parts Tryd.infoU8
  have HInf := hid (And.intro hi (And.intro hz0 (And.intro hz1 hz2)))
  have hsz := hp1.low.size
  clear hp1 hr hx hi hz0 hz1 hz2 HC
  go_wp2_with (at_builtin; refine Lib.wpList_append_own_string _ rfl (.tmp 12) (.tmp 13) 103 9 rfl w0.heap.size 5 ii Tryd.uBytes Tryd.uStr HInf.out.1 HInf.out.2.1 HInf.out.2.2.1 HInf.out.2.2.2 _ t.length (Lib.byteCells t) rfl HR2.out s rfl (by have := HF.out; unfold maxLen; omega) (by have := HF.out; omega) hsz ?_)
  intro v' w3 hown' hgrow _
  obtain ⟨va', vc', ev'⟩ := kown_slice hown'
  subst ev'
  have hl : s.data.toList.length = s.size := by simp
  have hG := HP2.out.grown HX2.out HR2.out hgrow (t' := t ++ s.data.toList) (v' := .slice va' (t.length + s.size) vc') (by rw [List.length_append, hl]; exact hown') (str_app t s) (by have := HF.out; rw [List.length_append, hl]; exact this)
  have d1 := kcell _ _ _ _ hG.1 1 _ rfl
  have f1 := kfz hG.1 1
  have HG := hid hG.2
  clear hown' hgrow hG HP2 HX2 HR2 hl
  go_wp2_with fail
  go_ret2
  exact ⟨rfl, HG.out⟩

theorem bCells8 : Tryd.prog.cellsOf 5 = 1 := by kernel_rfl

set_option maxRecDepth 100000 in
set_option maxHeartbeats 1000000 in
theorem pstring_any (w0 : World) (bq : Nat) (t : List UInt8) (k : Int) (w : World) (h : Pt w0 w bq t k) (h0 : t ≠ []) :
    Calls Tryd.prog 68 #[.pointer (some ⟨bq, 0, none⟩)] w fun e w' => e = .returned (.string ⟨t.toArray⟩) ∧ Below w0.heap.size w0 w' := by
  obtain ⟨p, v, _, hx, hr⟩ := h.box
  have hl0 : t.length ≠ 0 := by simpa using h0
  obtain ⟨g, cap, cur, rfl, hbg, hg, hnc, hcm, hcs, htk⟩ : ∃ g cap cur, v = .slice (some ⟨g, 0, none⟩) t.length cap ∧ w0.heap.size ≤ g ∧ w.heap[g]? = some (.cells cur 5) ∧ t.length ≤ cap ∧ cap ≤ maxLen ∧ cur.size = cap * 1 ∧ cur.toList.take (t.length * 1) = Lib.byteCells t := by
    rcases hr.2 with ⟨_, hz⟩ | ⟨g, cap, cur, r⟩
    · exact absurd hz hl0
    · exact ⟨g, cap, cur, r⟩
  have c1 : w.drew.cell? ⟨bq, 1, none⟩ = some (.slice (some ⟨g, 0, none⟩) t.length cap) := by
    have : w.drew.heap[bq]? = some (.cells #[p, .slice (some ⟨g, 0, none⟩) t.length cap, .int .i64 k] 121) := hx
    exact kcell _ _ _ _ this 1 _ rfl
  have hSD : (Builtin.unsafeSliceData_ #[103] 171 #[.slice (some ⟨g, 0, none⟩) t.length cap]).run Tryd.prog w.drew = .ok (.pointer (some ⟨g, 0, none⟩)) w.drew :=
    Lib.run_unsafeSliceData_row _ _ _ _ _ _ (by omega)
  have hUS : (Builtin.unsafeString_ #[171, 3] 9 #[.pointer (some ⟨g, 0, none⟩), .int .i64 t.length]).run Tryd.prog w.drew = .ok (.string ⟨t.toArray⟩) (w.drew.freeze ⟨g, 0, none⟩ t.length) := by
    refine Lib.run_unsafeString_row w.drew 171 3 9 5 Tryd.underlying171 bCells8 g cur.size (by have hg' : w.drew.heap[g]? = some (.cells cur 5) := hg; simp [World.shape?, hg']) t h0 (by omega) (by unfold maxLen at hcm; omega) ?_
    intro j x hx
    exact hr.cells (g := g) rfl j (.int .u8 x.toNat) (by simp [Lib.byteCells, hx])
  have HB := hid (Lib.below_freeze (Below.drew h.low) (p := ⟨g, 0, none⟩) hbg t.length)
  have mixed : Tryd.prog.follows .mixedOrders = true := by kernel_rfl
  clear h hr hx hg htk
  go_enter Tryd.func68, Tryd.ntmps68
  go_wp2
  go_region_o
  all_goals (go_wp2; go_ret; exact ⟨rfl, HB.out⟩)

end Go.Proofs.YtdmnlmohfaafoaeDoor
