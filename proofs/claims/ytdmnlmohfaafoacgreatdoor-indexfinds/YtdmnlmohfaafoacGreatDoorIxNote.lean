/- What (*Index).note leaves. -/
import Derived.Test.YtdmnlmohfaafoacGreatDoorIxMem
import Derived.Deep.RegionLaw
import Derived.Deep.QuietTactic
import Derived.BigQuiet
import Derived.OwnWalk
import Derived.Carry
namespace Go.Proofs.YtdmnlmohfaafoacGreatDoor
open Go.RowKit Go.Maps

/-- append onto a row of one's own, as one step of a region that draws; where the new row lies. -/
theorem step_append_at {P : Program} {ops : Array Oper} {o : Oper} {a : Act} {w : World} {K : Act → World → Prop} {Q : Exit → Act → World → Prop} {E : Prop}
    (hg : o.guard = none) (s x : Operand) (t : TypeId) (ho : o.op = .call { callee := .builtin .append, args := #[s, x], argTypes := #[t, t] })
    (base : Nat) (e : TypeId) (i : TypeInfo) (z : Value) (size bytes : Nat) (ht : P.underlying t = some (.slice e)) (hi : P.info? e = some i) (hz : i.zero = some z)
    (hsize : i.size = size) (hby : i.bytes = bytes) (hzs : z.cells.size = size) (hsz : 0 < size)
    (v : Value) (n : Nat) (xs : List Value) (hs : a.eval s = v) (hown : w.ownsRow base e size v n xs)
    (ad : Addr) (m c : Nat) (news : List Value) (hx : a.eval x = .slice (some ad) m c) (hl : news.length = m * size) (hnews : ∀ j u, news[j]? = some u → w.cell? (ad.add j) = some u) (h1 : ∀ u ∈ news, u.oneCell' = true)
    (h63 : n + m ≤ maxLen) (hbytes : (n + m) * bytes ≤ 140737488355328) (hbase : base ≤ w.heap.size)
    (h : ∀ v' w', w'.ownsRow base e size v' (n + m) (xs ++ news) → w.grownBy w' v.ownBlock → (v'.ownBlock = v.ownBlock ∨ v'.ownBlock = some w.heap.size) → K (a.put o.dst v') w') :
    if Region.wanted o (yielded ops a.tmps) = true then Oper.wp P o a w K Q else E := by
  have hw : Region.wanted o (yielded ops a.tmps) = true := by simp [Region.wanted, hg]
  rw [if_pos hw]
  obtain ⟨v', w', hr, h2, h3, _, h5⟩ := run_append_own_at (P := P) w base t o.type e i z size bytes ht hi hz hsize hby hzs hsz v n xs hown ad m c news hl hnews h1 h63 hbytes hbase
  unfold Oper.wp execOp
  simp only [ho, resolve, invoke, builtin, Sem.run_bind, Sem.run_pure, Result.andThen_ok, List.map_toArray, List.map_cons, List.map_nil, hs, hx, hr]
  exact h v' w' h2 h3 h5

theorem Tryz.info3 : (Tryz.prog.info? 3).map (fun i => (i.zero, i.size, i.bytes)) = some (some (.int .i64 0), 1, 8) := by kernel_rfl

theorem grown_heap {w w' a : World} {row : Option Nat} (h : w.grownBy w' row) (hh : a.heap = w.heap) (ho : a.os = w.os) (ht : a.tape = w.tape) (hu : a.output = w.output) : a.grownBy w' row :=
  ⟨h.os.trans ho.symm, h.tape.trans ht.symm, h.output.trans hu.symm, by rw [hh]; exact h.size, fun k hk hne => by rw [hh] at hk ⊢; exact h.block k hk hne⟩

theorem zeroO (w : World) : (zeroValue 69).run Tryz.prog w = .ok (.map none) w := by kernel_rfl

theorem zeroI (w : World) : (zeroValue 45).run Tryz.prog w = .ok (.slice none 0 0) w := by kernel_rfl

theorem oF_at {fo : ByteArray → Option Nat} {n : ByteArray} {b : Nat} (h : fo n = some b) {z : Value} : (oF fo n).getD z = .map (some b) := by
  show ((fo n).map _).getD z = _
  rw [h]; rfl

theorem oF_no {fo : ByteArray → Option Nat} {n : ByteArray} (h : fo n = none) {z : Value} : (oF fo n).getD z = z := by
  show ((fo n).map _).getD z = _
  rw [h]; rfl

theorem eqm_some (b : Nat) (W : World) : Sem.run Tryz.prog (binOp BinOp.eql 69 (.map (some b)) (.map none)) W = .ok (.bool false) W := by kernel_rfl

theorem eqm_none (W : World) : Sem.run Tryz.prog (binOp BinOp.eql 69 (.map none) (.map none)) W = .ok (.bool true) W := by kernel_rfl

abbrev IxW (w : World) (bo B cnt : Nat) (Sd : ByteArray → ByteArray → List Int) (fo : ByteArray → Option Nat) (fi : ByteArray → ByteArray → Option Value) : Prop := IdxW Tryz.prog 9 w bo B cnt Sd fo fi

/-- What is done to the index by a number more. -/
def NoteEnd (bo B cnt : Nat) (Sd : ByteArray → ByteArray → List Int) (nm vl : ByteArray) (x : Int) (w w' : World) : Prop :=
  (∃ fo' fi', IxW w' bo B (cnt + 2) (updS Sd nm vl x) fo' fi' ∧ Full fo' fi') ∧ NFr bo B w w'

/-- A number appended to what a name says, and stored. -/
theorem note_end {bo B cnt b : Nat} {Sd : ByteArray → ByteArray → List Int} {fo : ByteArray → Option Nat} {fi : ByteArray → ByteArray → Option Value} {nm vl : ByteArray} {x : Int} {w W1 w1 w2 : World} {v0 v1 : Value} (hI : IxW W1 bo B cnt Sd fo fi) (hF : ∀ m, fo m ≠ none → m = nm ∨ ∃ v, fi m v ≠ none) (hn : fo nm = some b) (h0 : (fi nm vl).getD (.slice none 0 0) = v0)
    (hNF : NFr bo B w W1) (hO : w1.ownsRow B 3 1 v1 ((Sd nm vl).length + 1) (nv (Sd nm vl) ++ [.int .i64 x])) (hG : (W1.alloc (.cells #[.int .i64 x] 3)).drew.grownBy w1 v0.ownBlock) (hL : v1.ownBlock = v0.ownBlock ∨ v1.ownBlock = some (W1.alloc (.cells #[.int .i64 x] 3)).drew.heap.size)
    (hM : MapF Tryz.prog 9 w2 b (cnt + 1) (upd (fi nm) vl v1)) (hG2 : w1.grownBy w2 (some b)) : (∃ fo' fi', IxW w2 bo B (cnt + 1) (updS Sd nm vl x) fo' fi' ∧ Full fo' fi') ∧ NFr bo B w w2 := by
  have hg1 : W1.grownBy w1 v0.ownBlock := (World.grownBy_alloc W1 (.cells #[.int .i64 x] 3) v0.ownBlock).trans (show World.grownBy _ _ _ from grown_heap hG rfl rfl rfl rfl)
  have hrow := (hI.at h0).1
  refine ⟨⟨fo, _, hI.add hn h0 hg1 hO (hL.imp id fun h => ⟨_, h, by simp⟩) hM hG2, fun m hm => ?_⟩, ?_⟩
  · by_cases e : m = nm
    · subst e
      exact ⟨vl, by unfold updI; rw [if_pos rfl, upd_same]; simp⟩
    · rcases hF m hm with h1 | ⟨v, hv⟩
      · exact absurd h1 e
      · exact ⟨v, by unfold updI; rw [if_neg e]; exact hv⟩
  · refine (hNF.grown hg1 hI.hB fun j hj => .inr (hrow.lt j hj).1).grown hG2 (Nat.le_trans hI.hB hg1.size) fun j hj => ?_
    cases hj
    exact .inr (hI.inn nm b hn).1

set_option maxRecDepth 100000 in
set_option maxHeartbeats 1600000 in
theorem note_some (bx bo B cnt b : Nat) (Sd : ByteArray → ByteArray → List Int) (fo : ByteArray → Option Nat) (fi : ByteArray → ByteArray → Option Value) (nm vl : ByteArray) (x : Int) (w : World) (hI : IxW w bo B cnt Sd fo fi) (hF : Full fo fi) (hn : fo nm = some b)
    (hc1 : w.cell? ⟨bx, 1, none⟩ = some (.map (some bo))) (hs1 : nm.size ≤ maxLen) (hs2 : vl.size ≤ maxLen) (hcnt : cnt ≤ 1000000) :
    Calls Tryz.prog 21 #[.pointer (some ⟨bx, 0, none⟩), .agg #[.string nm, .string vl], .int .i64 x] w fun e w' => e = .returned (.tuple #[]) ∧ NoteEnd bo B cnt Sd nm vl x w w' := by
  have HI := hid (hI.alloc (.cells #[.string nm, .string vl] 54))
  have HF := hid hF
  have HN := hid hn
  have HNF := hid ((NFr.refl bo B w).alloc hI.hB (.cells #[.string nm, .string vl] 54))
  have hc1' : (w.alloc (.cells #[.string nm, .string vl] 54)).cell? ⟨bx, 1, none⟩ = some (.map (some bo)) := by
    rw [World.cell?_alloc_lt _ _ ⟨bx, 1, none⟩ (World.block_lt_of_cell? _ _ hc1)]; exact hc1
  have hb0 : (w.alloc (.cells #[.string nm, .string vl] 54)).cell? ⟨w.heap.size, 0, none⟩ = some (.string nm) := by simp
  have hb1 : (w.alloc (.cells #[.string nm, .string vl] 54)).cell? ⟨w.heap.size, 1, none⟩ = some (.string vl) := by simp
  have HBB : Hid ((w.alloc (.cells #[.string nm, .string vl] 54)).heap[w.heap.size]? = some (.cells #[.string nm, .string vl] 54)) := heap_alloc_new w _
  clear hI hF hn hc1
  obtain ⟨ii, hii, hi'⟩ := Option.map_eq_some_iff.1 Tryz.info3
  simp only [Prod.mk.injEq] at hi'
  obtain ⟨hz0, hz1, hz2⟩ := hi'
  have HI0 := hid hii
  have HZ0 := hid hz0
  have HZ1 := hid hz1
  have HZ2 := hid hz2
  clear hii hz0 hz1 hz2
  go_enter Tryz.func21, Tryz.ntmps21
  go_wp2_with fail
  generalize w.heap.size = bn at *
  generalize w.alloc (.cells #[.string nm, .string vl] 54) = W at *
  have hL : ∀ n, (Instr.lookup 57 (.map (some bo)) (.string nm) false).run Tryz.prog (W.drewN n) = .ok (.map (some b)) (W.drewN n) := fun n =>
    MapF.look (w := W.drewN n) (HI.out.out.block rfl) Tryz.underlying9 Tryz.underlying57 zeroO hs1 (oF_at HN.out)
  go_quiet (fail)
  clear hL
  have HI1 : Hid (IxW (W.drewN nq) bo B cnt Sd fo fi) := HI.out.kept (Nat.le_refl _) (fun _ _ _ => rfl)
  have HNF1 := hid (HNF.out.drewN nq)
  have HBB1 : Hid ((W.drewN nq).heap[bn]? = some (.cells #[.string nm, .string vl] 54)) := HBB.out
  have hd0 : (W.drewN nq).cell? ⟨bn, 0, none⟩ = some (.string nm) := hb0
  have hd1 : (W.drewN nq).cell? ⟨bn, 1, none⟩ = some (.string vl) := hb1
  clear HI HNF hb0 hb1 hc1' HBB
  generalize W.drewN nq = W1 at *
  have hE := eqm_some b
  go_wp2_with fail
  generalize hv0 : (fi nm vl).getD (.slice none 0 0) = v0
  have HV0 := hid hv0
  have hL : ∀ (o : Obj), (Instr.lookup 69 (.map (some b)) (.string vl) false).run Tryz.prog ((W1.alloc o).drew) = .ok v0 ((W1.alloc o).drew) := fun o =>
    MapF.look (w := (W1.alloc o).drew) (((HI1.out.alloc o).inn nm b HN.out).2.block rfl) Tryz.underlying9 Tryz.underlying69 zeroI hs2 hv0
  have hL0 : (Instr.lookup 69 (.map (some b)) (.string vl) false).run Tryz.prog W1.drew = .ok v0 W1.drew :=
    MapF.look (w := W1.drew) ((HI1.out.inn nm b HN.out).2.block rfl) Tryz.underlying9 Tryz.underlying69 zeroI hs2 hv0
  have HA := hid (HI1.out.at hv0)
  have HMv0 : Hid (some b ≠ v0.ownBlock) := (HI1.out.inn nm b HN.out).2.ne_row (HI1.out.at hv0).1
  have HBn : Hid (some bn ≠ v0.ownBlock) := row_ne_block (HI1.out.at hv0).1 HBB1.out (fun cur h => by simp at h)
  have hbn : bn < W1.heap.size := World.block_lt_of_cell? _ _ hd1
  clear hv0
  go_region_law ((refine step_append_at rfl (.tmp 30) (.tmp 32) 45 rfl B 3 ii (.int .i64 0) 1 8 Tryz.underlying45 HI0.out HZ0.out HZ1.out HZ2.out rfl (by decide) v0 (Sd nm vl).length (nv (Sd nm vl)) (by simp [Act.eval]) (own_heap (HA.out.1.alloc (.cells #[.int .i64 x] 3)) rfl) ⟨W1.heap.size, 0, none⟩ 1 1 [.int .i64 x] (by simp [Act.eval]) rfl (fun j u hj => cell_one_new W1 _ 3 j u hj) (by simp [Value.oneCell']) (by have := HA.out.2; unfold maxLen; omega) (by have := HA.out.2; omega) (by have := HI1.out.hB; simp; omega) ?_; intro v1 w1 hown1 hgrow1 hloc1; have hq1 : w1.cell? ⟨bn, 1, none⟩ = some (.string vl) := (World.cell?_of_block (a := ⟨bn, 1, none⟩) (hgrow1.block bn (by simp; omega) HBn.out)).trans ((World.cell?_alloc_lt _ _ ⟨bn, 1, none⟩ hbn).trans hd1); obtain ⟨w2, hU, hM2, hG2⟩ := MapF.store (w := w1) ((((HI1.out.inn nm b HN.out).2.alloc (.cells #[.int .i64 x] 3)).kept (w' := w1) (show World.grownBy _ _ _ from grown_heap hgrow1 rfl rfl rfl rfl) HMv0.out)) Tryz.underlying9 Tryz.underlying69 (by unfold maxLen; omega) hs2 v1; have HO1 := hid hown1; have HG1 := hid hgrow1; have HL1 := hid hloc1; have HM2 := hid hM2; have HG2 := hid hG2; clear hown1 hgrow1 hloc1 hM2 hG2))
  all_goals
    go_end0
    exact ⟨rfl, ((note_end HI1.out (fun m hm => .inr (HF.out m hm)) HN.out HV0.out HNF1.out HO1.out HG1.out HL1.out HM2.out HG2.out).imp (fun ⟨fo', fi', h1, h2⟩ => ⟨fo', fi', h1.mono (by omega), h2⟩) id)⟩

set_option maxRecDepth 100000 in
set_option maxHeartbeats 1600000 in
theorem note_none (bx bo B cnt : Nat) (Sd : ByteArray → ByteArray → List Int) (fo : ByteArray → Option Nat) (fi : ByteArray → ByteArray → Option Value) (nm vl : ByteArray) (x : Int) (w : World) (hI : IxW w bo B cnt Sd fo fi) (hF : Full fo fi) (hn : fo nm = none)
    (hc1 : w.cell? ⟨bx, 1, none⟩ = some (.map (some bo))) (hs1 : nm.size ≤ maxLen) (hs2 : vl.size ≤ maxLen) (hcnt : cnt ≤ 1000000) :
    Calls Tryz.prog 21 #[.pointer (some ⟨bx, 0, none⟩), .agg #[.string nm, .string vl], .int .i64 x] w fun e w' => e = .returned (.tuple #[]) ∧ NoteEnd bo B cnt Sd nm vl x w w' := by
  have HI := hid (hI.alloc (.cells #[.string nm, .string vl] 54))
  have HF := hid hF
  have HN := hid hn
  have HNF := hid ((NFr.refl bo B w).alloc hI.hB (.cells #[.string nm, .string vl] 54))
  have hc1' : (w.alloc (.cells #[.string nm, .string vl] 54)).cell? ⟨bx, 1, none⟩ = some (.map (some bo)) := by
    rw [World.cell?_alloc_lt _ _ ⟨bx, 1, none⟩ (World.block_lt_of_cell? _ _ hc1)]; exact hc1
  have hb0 : (w.alloc (.cells #[.string nm, .string vl] 54)).cell? ⟨w.heap.size, 0, none⟩ = some (.string nm) := by simp
  have hb1 : (w.alloc (.cells #[.string nm, .string vl] 54)).cell? ⟨w.heap.size, 1, none⟩ = some (.string vl) := by simp
  have HBB : Hid ((w.alloc (.cells #[.string nm, .string vl] 54)).heap[w.heap.size]? = some (.cells #[.string nm, .string vl] 54)) := heap_alloc_new w _
  clear hI hF hn hc1
  obtain ⟨ii, hii, hi'⟩ := Option.map_eq_some_iff.1 Tryz.info3
  simp only [Prod.mk.injEq] at hi'
  obtain ⟨hz0, hz1, hz2⟩ := hi'
  have HI0 := hid hii
  have HZ0 := hid hz0
  have HZ1 := hid hz1
  have HZ2 := hid hz2
  clear hii hz0 hz1 hz2
  go_enter Tryz.func21, Tryz.ntmps21
  go_wp2_with fail
  generalize w.heap.size = bn at *
  generalize w.alloc (.cells #[.string nm, .string vl] 54) = W at *
  have hL : ∀ n, (Instr.lookup 57 (.map (some bo)) (.string nm) false).run Tryz.prog (W.drewN n) = .ok (.map none) (W.drewN n) := fun n =>
    MapF.look (w := W.drewN n) (HI.out.out.block rfl) Tryz.underlying9 Tryz.underlying57 zeroO hs1 (oF_no HN.out)
  go_quiet (fail)
  clear hL
  have HI1 : Hid (IxW (W.drewN nq) bo B cnt Sd fo fi) := HI.out.kept (Nat.le_refl _) (fun _ _ _ => rfl)
  have HNF1 := hid (HNF.out.drewN nq)
  have HBB1 : Hid ((W.drewN nq).heap[bn]? = some (.cells #[.string nm, .string vl] 54)) := HBB.out
  have hd0 : (W.drewN nq).cell? ⟨bn, 0, none⟩ = some (.string nm) := hb0
  have hd1 : (W.drewN nq).cell? ⟨bn, 1, none⟩ = some (.string vl) := hb1
  have hd2 : (W.drewN nq).cell? ⟨bx, 1, none⟩ = some (.map (some bo)) := hc1'
  clear HI HNF hb0 hb1 hc1' HBB
  generalize W.drewN nq = W1 at *
  have hE := eqm_none
  have hmm := @run_makeMap Tryz.prog
  obtain ⟨w3, hU3, hM3, hG3⟩ := MapF.store (w := (W1.alloc (.map #[] 0)).drew) (((HI1.out.alloc (.map #[] 0)).out).block rfl) Tryz.underlying9 Tryz.underlying57 (by unfold maxLen; omega) hs1 (.map (some W1.heap.size))
  have HI3 : Hid (IxW w3 bo B (cnt + 1) Sd (updN fo nm W1.heap.size) fi) := HI1.out.create HN.out hM3 (show World.grownBy _ _ _ from grown_heap hG3 rfl rfl rfl rfl)
  have hbx : bx < W1.heap.size := World.block_lt_of_cell? _ _ hd2
  have hbn : bn < W1.heap.size := World.block_lt_of_cell? _ _ hd1
  have hbo := HI1.out.out.lt
  have hbnbo : bn ≠ bo := fun e => by
    obtain ⟨es, c, he⟩ := HI1.out.out.isMap
    rw [← e, HBB1.out] at he
    cases he
  have HBB3 : Hid (w3.heap[bn]? = some (.cells #[.string nm, .string vl] 54)) := (hG3.block bn (by simp; omega) (fun h => hbnbo (Option.some.inj h))).trans ((Below.heap_alloc W1 (.map #[] 0) bn hbn).trans HBB1.out)
  have HNF3 : Hid (NFr bo B w w3) := (HNF1.out.alloc HI1.out.hB (.map #[] 0)).grown (show World.grownBy _ _ _ from grown_heap hG3 rfl rfl rfl rfl) (by have := HI1.out.hB; simp; omega) (fun j hj => by cases hj; exact .inl rfl)
  have hq1 : w3.cell? ⟨bn, 1, none⟩ = some (.string vl) := by
    have h : w3.heap[bn]? = W1.heap[bn]? := HBB3.out.trans HBB1.out.symm
    exact (World.cell?_of_block (a := ⟨bn, 1, none⟩) h).trans hd1
  have he0 : (W1.alloc (.map #[] 0)).drew.cell? ⟨bn, 0, none⟩ = some (.string nm) := (World.cell?_alloc_lt _ _ ⟨bn, 0, none⟩ hbn).trans hd0
  have he1 : (W1.alloc (.map #[] 0)).drew.cell? ⟨bx, 1, none⟩ = some (.map (some bo)) := (World.cell?_alloc_lt _ _ ⟨bx, 1, none⟩ hbx).trans hd2
  clear hM3 hG3
  go_wp2_with fail
  go_region
  have HN3 : Hid (updN fo nm W1.heap.size nm = some W1.heap.size) := if_pos rfl
  have HF3 : Hid (∀ m, updN fo nm W1.heap.size m ≠ none → m = nm ∨ ∃ v, fi m v ≠ none) := fun m hm => by
    by_cases e : m = nm
    · exact .inl e
    · refine .inr (HF.out m ?_)
      unfold updN at hm
      rwa [if_neg e] at hm
  clear HI1 HNF1 HBB1 hd0 hd1 hd2 hU3 he0 he1 hbx hbo hbn
  have hd1 := hq1
  clear hq1
  generalize updN fo nm W1.heap.size = fo' at *
  generalize W1.heap.size = b at *
  clear hE hmm
  go_wp2_with fail
  generalize hv0 : (fi nm vl).getD (.slice none 0 0) = v0
  have HV0 := hid hv0
  have hL : ∀ (o : Obj), (Instr.lookup 69 (.map (some b)) (.string vl) false).run Tryz.prog ((w3.alloc o).drew) = .ok v0 ((w3.alloc o).drew) := fun o =>
    MapF.look (w := (w3.alloc o).drew) (((HI3.out.alloc o).inn nm b HN3.out).2.block rfl) Tryz.underlying9 Tryz.underlying69 zeroI hs2 hv0
  have hL0 : (Instr.lookup 69 (.map (some b)) (.string vl) false).run Tryz.prog w3.drew = .ok v0 w3.drew :=
    MapF.look (w := w3.drew) ((HI3.out.inn nm b HN3.out).2.block rfl) Tryz.underlying9 Tryz.underlying69 zeroI hs2 hv0
  have HA := hid (HI3.out.at hv0)
  have HMv0 : Hid (some b ≠ v0.ownBlock) := (HI3.out.inn nm b HN3.out).2.ne_row (HI3.out.at hv0).1
  have HBn : Hid (some bn ≠ v0.ownBlock) := row_ne_block (HI3.out.at hv0).1 HBB3.out (fun cur h => by simp at h)
  have hbn : bn < w3.heap.size := World.block_lt_of_cell? _ _ hd1
  clear hv0
  go_region_law ((refine step_append_at rfl (.tmp 30) (.tmp 32) 45 rfl B 3 ii (.int .i64 0) 1 8 Tryz.underlying45 HI0.out HZ0.out HZ1.out HZ2.out rfl (by decide) v0 (Sd nm vl).length (nv (Sd nm vl)) (by simp [Act.eval]) (own_heap (HA.out.1.alloc (.cells #[.int .i64 x] 3)) rfl) ⟨w3.heap.size, 0, none⟩ 1 1 [.int .i64 x] (by simp [Act.eval]) rfl (fun j u hj => cell_one_new w3 _ 3 j u hj) (by simp [Value.oneCell']) (by have := HA.out.2; unfold maxLen; omega) (by have := HA.out.2; omega) (by have := HI3.out.hB; simp; omega) ?_; intro v1 w1 hown1 hgrow1 hloc1; have hq1 : w1.cell? ⟨bn, 1, none⟩ = some (.string vl) := (World.cell?_of_block (a := ⟨bn, 1, none⟩) (hgrow1.block bn (by simp; omega) HBn.out)).trans ((World.cell?_alloc_lt _ _ ⟨bn, 1, none⟩ hbn).trans hd1); obtain ⟨w2, hU, hM2, hG2⟩ := MapF.store (w := w1) ((((HI3.out.inn nm b HN3.out).2.alloc (.cells #[.int .i64 x] 3)).kept (w' := w1) (show World.grownBy _ _ _ from grown_heap hgrow1 rfl rfl rfl rfl) HMv0.out)) Tryz.underlying9 Tryz.underlying69 (by unfold maxLen; omega) hs2 v1; have HO1 := hid hown1; have HG1 := hid hgrow1; have HL1 := hid hloc1; have HM2 := hid hM2; have HG2 := hid hG2; clear hown1 hgrow1 hloc1 hM2 hG2))
  all_goals
    go_end0
    exact ⟨rfl, ((note_end HI3.out HF3.out HN3.out HV0.out HNF3.out HO1.out HG1.out HL1.out HM2.out HG2.out).imp (fun ⟨fo', fi', h1, h2⟩ => ⟨fo', fi', h1.mono (by omega), h2⟩) id)⟩

theorem note_any (bx bo B cnt : Nat) (Sd : ByteArray → ByteArray → List Int) (fo : ByteArray → Option Nat) (fi : ByteArray → ByteArray → Option Value) (nm vl : ByteArray) (x : Int) (w : World) (hI : IxW w bo B cnt Sd fo fi) (hF : Full fo fi)
    (hc1 : w.cell? ⟨bx, 1, none⟩ = some (.map (some bo))) (hs1 : nm.size ≤ maxLen) (hs2 : vl.size ≤ maxLen) (hcnt : cnt ≤ 1000000) :
    Calls Tryz.prog 21 #[.pointer (some ⟨bx, 0, none⟩), .agg #[.string nm, .string vl], .int .i64 x] w fun e w' => e = .returned (.tuple #[]) ∧ NoteEnd bo B cnt Sd nm vl x w w' := by
  cases hn : fo nm with
  | none => exact note_none bx bo B cnt Sd fo fi nm vl x w hI hF hn hc1 hs1 hs2 hcnt
  | some b => exact note_some bx bo B cnt b Sd fo fi nm vl x w hI hF hn hc1 hs1 hs2 hcnt

end Go.Proofs.YtdmnlmohfaafoacGreatDoor
