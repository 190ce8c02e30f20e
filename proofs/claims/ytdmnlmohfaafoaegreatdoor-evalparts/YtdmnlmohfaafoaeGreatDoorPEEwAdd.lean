/- A result in the making: points are added to it, one behind the other. -/
import Derived.Test.YtdmnlmohfaafoaeGreatDoorPEEvSrc
import Derived.Test.YtdmnlmohfaafoaeGreatDoorPEEvPts
import Derived.Test.YtdmnlmohfaafoaeGreatDoorPEHrReg
namespace Go.Proofs.YtdmnlmohfaafoaeGreatDoor
open Go.RowKit Go.Shelf

theorem pt_info : ∃ i, Tryz.prog.info? 55 = some i ∧ i.zero = some (.agg #[.slice none 0 0, .int .i64 0]) ∧ i.size = 2 ∧ i.bytes = 32 := by
  have h : (Tryz.prog.info? 55).map (fun i => (i.zero, i.size, i.bytes)) = some (some (.agg #[.slice none 0 0, .int .i64 0]), 2, 32) := by kernel_rfl
  cases hq : Tryz.prog.info? 55 with
  | none => rw [hq] at h; cases h
  | some i =>
    rw [hq] at h
    simp only [Option.map_some, Option.some.injEq, Prod.mk.injEq] at h
    exact ⟨i, rfl, h⟩

/-- One point at the end of a row of one's own. -/
theorem app_pt (W : World) (base B : Nat) (v a b : Value) (n : Nat) (xs : List Value) (hB : W.heap[B]? = some (.cells #[a, b] 55)) (ha : a.oneCell' = true) (hb1 : b.oneCell' = true) (hv : W.ownsRow base 55 2 v n xs) (hd : n ≤ 1000000) (hb : base ≤ W.heap.size) :
    ∃ v' W', (Builtin.append_ #[49, 49] 49 #[v, .slice (some ⟨B, 0, none⟩) 1 1]).run Tryz.prog W = .ok v' W' ∧ W'.ownsRow base 55 2 v' (n + 1) (xs ++ [a, b]) ∧ W.grownBy W' v.ownBlock ∧ (v'.ownBlock = v.ownBlock ∨ v'.ownBlock = some W.heap.size) := by
  obtain ⟨i, hi, hz, hs, hby⟩ := pt_info
  obtain ⟨v', W', h1, h2, _, h3, h4⟩ := append_both (P := Tryz.prog) W base 49 49 55 i _ 2 32 (by kernel_rfl) hi hz hs hby rfl (by omega) v n xs hv ⟨B, 0, none⟩ 1 1 [a, b] (by omega) rfl (two_cells hB) (one_two ha hb1) (by unfold maxLen; omega) (by omega) hb
  exact ⟨v', W', h1, h2, h3, h4⟩

/-- A block of points grew: rows of another kind stay. -/
theorem pkind_grown {W W' : World} {base base' n m : Nat} {v u : Value} {xs ys : List Value} {e : TypeId} (hv : W.ownsRow base 55 2 v n xs) (hu : W.ownsRow base' e 2 u m ys) (hne : e ≠ 55) (k : W.grownBy W' v.ownBlock) : W'.ownsRow base' e 2 u m ys := by
  refine hu.kept k ?_
  rcases hvb : v.ownBlock with _ | g
  · rcases hub : u.ownBlock with _ | g'
    · exact .inl rfl
    · exact .inr (by simp)
  · right
    rcases hv.2 with ⟨e0, _⟩ | ⟨g1, _, c, e0, _, a2, _⟩
    · rw [e0] at hvb; cases hvb
    · rw [e0] at hvb; cases hvb
      exact own_kind hu a2 hne

/-- A result in the making: its box br, the points so far. -/
structure PB (w0 W : World) (br : Nat) (v : Value) (al : Bool) (xs : List (Value × Value)) (pts : List EV.Pt) : Prop where
  len : xs.length = pts.length
  row : W.ownsRow w0.heap.size 55 2 v pts.length (flat xs)
  bel : Below w0.heap.size w0 W
  box : W.heap[br]? = some (.cells #[v, .bool al] 140)
  brg : w0.heap.size ≤ br
  labs : ∀ i, i < pts.length → RL w0 W NoZ (atX xs i).1 (atP pts i).1
  vals : ∀ i, i < pts.length → (atX xs i).2 = .int .i64 (atP pts i).2

/-- What one more, or several, turn: the box, and the row's block. -/
structure PStep (W W' : World) (br : Nat) (v v' : Value) : Prop where
  size : W.heap.size ≤ W'.heap.size
  block : ∀ g, g < W.heap.size → g ≠ br → v.ownBlock ≠ some g → W'.heap[g]? = W.heap[g]?
  own : v'.ownBlock = v.ownBlock ∨ ∃ g, W.heap.size ≤ g ∧ v'.ownBlock = some g

theorem PStep.refl (W : World) (br : Nat) (v : Value) : PStep W W br v v := ⟨Nat.le_refl _, fun _ _ _ _ => rfl, .inl rfl⟩

theorem PStep.trans {a b c : World} {br : Nat} {u v x : Value} (h : PStep a b br u v) (k : PStep b c br v x) : PStep a c br u x := by
  refine ⟨Nat.le_trans h.size k.size, fun g hg hne hu => ?_, ?_⟩
  · refine (k.block g (Nat.lt_of_lt_of_le hg h.size) hne (fun e => ?_)).trans (h.block g hg hne hu)
    rcases h.own with e2 | ⟨j, hj, e2⟩
    · exact hu (e2.symm.trans e)
    · rw [e2] at e; cases e; omega
  · rcases k.own with e | ⟨j, hj, e⟩
    · rcases h.own with e2 | ⟨i, hi, e2⟩
      · exact .inl (e.trans e2)
      · exact .inr ⟨i, hi, e.trans e2⟩
    · exact .inr ⟨j, Nat.le_trans h.size hj, e⟩

theorem PStep.below {W W' : World} {br : Nat} {v : Value} (h : Below W.heap.size W W') : PStep W W' br v v := ⟨h.size, fun g hg _ _ => h.block g hg, .inl rfl⟩

theorem atP_snoc (l : List EV.Pt) (p : EV.Pt) (i : Nat) (hi : i < l.length + 1) : atP (l ++ [p]) i = if i < l.length then atP l i else p := by
  unfold atP
  rw [List.getD_eq_getElem?_getD, List.getD_eq_getElem?_getD]
  by_cases h : i < l.length
  · rw [if_pos h, List.getElem?_append_left h]
  · rw [if_neg h, List.getElem?_append_right (by omega), show i - l.length = 0 by omega]; rfl

theorem PB.below {w0 W W' : World} {br : Nat} {v : Value} {al : Bool} {xs : List (Value × Value)} {pts : List EV.Pt} (h : PB w0 W br v al xs pts) (k : Below W.heap.size W W') : PB w0 W' br v al xs pts :=
  ⟨h.len, row_kept h.row fun g _ hg => k.block g (heap_lt hg), bel2 h.bel k, (k.block _ (heap_lt h.box)).trans h.box, h.brg, fun i hi => (h.labs i hi).below k, h.vals⟩

theorem PB.first {w0 W : World} {br : Nat} {al : Bool} (hb : Below w0.heap.size w0 W) (hbox : W.heap[br]? = some (.cells #[.slice none 0 0, .bool al] 140)) (hg : w0.heap.size ≤ br) : PB w0 W br (.slice none 0 0) al [] [] :=
  ⟨rfl, ⟨rfl, .inl ⟨rfl, rfl⟩⟩, hb, hbox, hg, fun i hi => by simp at hi, fun i hi => by simp at hi⟩

/-- The points that are there, read. -/
theorem PB.out {w0 W : World} {br : Nat} {v : Value} {al : Bool} {xs : List (Value × Value)} {pts : List EV.Pt} (h : PB w0 W br v al xs pts) : ∃ po pc, v = .slice po pts.length pc ∧ PRow W po pts := by
  rcases h.row.2 with ⟨h0, hn⟩ | ⟨g, cap, cur, h0, hg, hc, _⟩
  · exact ⟨none, 0, by rw [h0, hn], fun i hi => by omega⟩
  · refine ⟨some ⟨g, 0, none⟩, cap, h0, fun i hi => ⟨g, 0, rfl, heap_lt hc, ?_⟩⟩
    obtain ⟨q1, q2⟩ := flat_get xs i (by rw [h.len]; exact hi)
    have c := h.row.cells (g := g) (by rw [h0]; rfl)
    have c1 := c _ _ q1
    have c2 := c _ _ q2
    rw [Addr.add_lit, Nat.zero_add] at c1 c2
    obtain ⟨lo, lc, e, r⟩ := (h.labs i hi).read h.bel
    exact ⟨lo, lc, by rw [Nat.zero_add, c1, e], by rw [Nat.zero_add, c2, h.vals i hi], r⟩

/-- A store elsewhere. -/
theorem PB.set {w0 W : World} {br : Nat} {v : Value} {al : Bool} {xs : List (Value × Value)} {pts : List EV.Pt} (h : PB w0 W br v al xs pts) {g : Nat} {c : Array Value} {T : TypeId} (hg : W.heap[g]? = some (.cells c T)) (h1 : 55 ≠ T) (h2 : 105 ≠ T) (hne : br ≠ g) (hge : w0.heap.size ≤ g) (o : Nat) (u : Value) : PB w0 (W.setCell ⟨g, o, none⟩ u) br v al xs pts := by
  refine ⟨h.len, own_set h.row (own_kind h.row hg h1) o u, h.bel.setCell (p := ⟨g, o, none⟩) hge u, (Below.heap_setCell W ⟨g, o, none⟩ u br hne).trans h.box, h.brg, fun i hi => (h.labs i hi).imp id fun k => own_set k (own_kind k hg h2) o u, h.vals⟩

theorem ew_set2 {w : World} {b : Nat} {x y u v : Value} {t : TypeId} (h : w.heap[b]? = some (.cells #[x, y] t)) : ((w.setCell ⟨b, 0, none⟩ u).setCell ⟨b, 1, none⟩ v).heap[b]? = some (.cells #[u, v] t) :=
  heap_setCell_same _ _ 1 _ _ _ (heap_setCell_same _ _ 0 _ _ _ h)

/-- The result, put into another box. -/
theorem PB.set2 {w0 W : World} {br : Nat} {v : Value} {al : Bool} {xs : List (Value × Value)} {pts : List EV.Pt} (h : PB w0 W br v al xs pts) {g : Nat} {x y : Value} {T : TypeId} (hg : W.heap[g]? = some (.cells #[x, y] T)) (h1 : 55 ≠ T) (h2 : 105 ≠ T) (hne : br ≠ g) (hge : w0.heap.size ≤ g) (u u' : Value) : PB w0 ((W.setCell ⟨g, 0, none⟩ u).setCell ⟨g, 1, none⟩ u') br v al xs pts :=
  (h.set hg h1 h2 hne hge 0 u).set (heap_setCell_same _ _ 0 _ _ _ hg) h1 h2 hne hge 1 u'

theorem adder_any (a : Option Addr) (w : World) :
    Calls Tryz.prog 138 #[.pointer a] w fun e w' => e = .returned (.func (.func 175) #[] #[.pointer (some ⟨w.heap.size, 0, none⟩)]) ∧ w' = w.alloc (.cells #[.pointer a] 255) := by
  go_enter Tryz.func138, Tryz.ntmps138
  go_wp2_with fail
  go_ret
  exact ⟨rfl, rfl⟩

theorem ew_ldP (b : Nat) (a : Option Addr) (w : World) (h : w.heap[b]? = some (.cells #[.pointer a] 255)) : (Instr.loadAt 255 (.pointer (some ⟨b, 0, none⟩))).run Tryz.prog w = .ok (.pointer a) w := by
  have hc : w.cell? ⟨b, 0, none⟩ = some (.pointer a) := zcell' _ _ _ _ h 0 _ rfl
  have hs : (Tryz.prog.info? 255).map (·.size) = some 1 := by kernel_rfl
  go_simp
theorem ew_fa0 (w : World) (b k : Nat) : (Instr.fieldAt 140 (.pointer (some ⟨b, k, none⟩)) 0).run Tryz.prog w = .ok (.pointer (some ⟨b, k, none⟩)) w := by
  go_simp
theorem ew_ldR (b k : Nat) (ao : Option Addr) (n c : Nat) (w : World) (h : w.cell? ⟨b, k, none⟩ = some (.slice ao n c)) : (Instr.loadAt 49 (.pointer (some ⟨b, k, none⟩))).run Tryz.prog w = .ok (.slice ao n c) w := by
  have hs : (Tryz.prog.info? 49).map (·.size) = some 1 := by kernel_rfl
  go_simp
theorem ew_bd (w : World) (lo : Option Addr) (n c : Nat) (v : Int) : (Instr.build 55 #[(0, .slice lo n c), (1, .int .i64 v)]).run Tryz.prog w = .ok (.agg #[.slice lo n c, .int .i64 v]) w := by
  go_simp
theorem ew_bs (w : World) (lo : Option Addr) (n c : Nat) (v : Int) : (Instr.buildSlice 49 1 #[(0, .agg #[.slice lo n c, .int .i64 v])]).run Tryz.prog w = .ok (.slice (some ⟨w.heap.size, 0, none⟩) 1 1) (w.alloc (.cells #[.slice lo n c, .int .i64 v] 55)) := by
  go_simp
theorem ew_stR (b k : Nat) (u : Value) (ao : Option Addr) (n c : Nat) (w : World) (c0 : w.cell? ⟨b, k, none⟩ = some u) (f0 : w.frozen? ⟨b, k, none⟩ = false) : (Instr.storeAt 49 (.pointer (some ⟨b, k, none⟩)) (.slice ao n c)).run Tryz.prog w = .ok () (w.setCell ⟨b, k, none⟩ (.slice ao n c)) := by
  have hs : (Tryz.prog.info? 49).map (·.size) = some 1 := by kernel_rfl
  go_simp

/-- The row behind the append. -/
def AftA (W0 : World) (base : Nat) (v : Value) (n : Nat) (ys : List Value) (W : World) (v' : Value) : Prop :=
  ∃ W1, Below W0.heap.size W0 W1 ∧ W.ownsRow base 55 2 v' (n + 1) ys ∧ W1.grownBy W v.ownBlock ∧ (v'.ownBlock = v.ownBlock ∨ v'.ownBlock = some W1.heap.size)

/-- r.points = append(r.points, Point{l, value}), operation by operation. -/
def TA (W0 : World) (base br : Nat) (v lab val : Value) (n : Nat) (ys : List Value) (L : Nat → Bool) (i : Nat) (W : World) (u : Value) : Prop := L 12 = false → match i with
  | 0 => u = .pointer (some ⟨br, 0, none⟩)
  | 1 => u = .pointer (some ⟨br, 0, none⟩)
  | 2 => u = .pointer (some ⟨br, 0, none⟩)
  | 3 => u = .pointer (some ⟨br, 0, none⟩)
  | 4 => u = v
  | 5 => u = lab
  | 6 => u = val
  | 7 => u = .agg #[lab, val]
  | 8 => L 9 = false → ∃ B, u = .slice (some ⟨B, 0, none⟩) 1 1 ∧ W.heap[B]? = some (.cells #[lab, val] 55)
  | 9 => AftA W0 base v n ys W u
  | 10 => u = .pointer (some ⟨br, 0, none⟩)
  | 11 => u = .pointer (some ⟨br, 0, none⟩)
  | _ => True

theorem TA.to {W0 W W' : World} {base br n : Nat} {v lab val : Value} {ys : List Value} {L L' : Nat → Bool} (h12 : L' 12 = L 12) : ∀ {i : Nat} {u : Value}, (i = 8 → L' 9 = true ∨ (L' 9 = L 9 ∧ ∀ (B : Nat) (c : Array Value) (T : TypeId), W.heap[B]? = some (.cells c T) → W'.heap[B]? = W.heap[B]?)) → (i = 9 → W' = W) → TA W0 base br v lab val n ys L i W u → TA W0 base br v lab val n ys L' i W' u := by
  intro i u k k9 h e12
  have h := h (by rw [← h12]; exact e12)
  match i, h with
  | 0, h => exact h
  | 1, h => exact h
  | 2, h => exact h
  | 3, h => exact h
  | 4, h => exact h
  | 5, h => exact h
  | 6, h => exact h
  | 7, h => exact h
  | 8, h =>
    intro e9
    rcases k rfl with k | ⟨k1, k2⟩
    · rw [k] at e9; cases e9
    · obtain ⟨B, e, hB⟩ := h (by rw [← k1]; exact e9)
      exact ⟨B, e, (k2 _ _ _ hB).trans hB⟩
  | 9, h => rw [k9 rfl]; exact h
  | 10, h => exact h
  | 11, h => exact h
  | _ + 12, _ => trivial

/-- What holds on the way. -/
structure CA (W0 : World) (base br : Nat) (v : Value) (n : Nat) (ys : List Value) (L : Nat → Bool) (W : World) : Prop where
  a : L 9 = false → Below W0.heap.size W0 W
  b : L 9 = true → L 12 = false → ∃ v', AftA W0 base v n ys W v'
  c : L 12 = true → ∃ W2 v', AftA W0 base v n ys W2 v' ∧ W = W2.setCell ⟨br, 0, none⟩ v'

theorem AftA.keep {W0 W : World} {base n : Nat} {v v' : Value} {ys : List Value} (h : AftA W0 base v n ys W v') {g : Nat} (hg : g < W0.heap.size) (hne : v.ownBlock ≠ some g) : W.heap[g]? = W0.heap[g]? := by
  obtain ⟨W1, h1, _, h3, _⟩ := h
  exact (h3.block g (Nat.lt_of_lt_of_le hg h1.size) (fun e => hne e.symm)).trans (h1.block g hg)

theorem CA.keep {W0 W : World} {base br n : Nat} {v : Value} {ys : List Value} {L : Nat → Bool} (h : CA W0 base br v n ys L W) (h12 : L 12 = false) {g : Nat} (hg : g < W0.heap.size) (hne : v.ownBlock ≠ some g) : W.heap[g]? = W0.heap[g]? := by
  rcases h9 : L 9 with _ | _
  · exact (h.a h9).block g hg
  · obtain ⟨v', hv⟩ := h.b h9 h12
    exact hv.keep hg hne

/-- An operation that turns nothing. -/
theorem CA.same {W0 W : World} {base br n : Nat} {v : Value} {ys : List Value} {L : Nat → Bool} (h : CA W0 base br v n ys L W) {i : Nat} (h9 : i ≠ 9) (h12 : i ≠ 12) : CA W0 base br v n ys (TL.upd L i) W := by
  have e9 : TL.upd L i 9 = L 9 := by unfold TL.upd; rw [if_neg (fun e => h9 e.symm)]
  have e12 : TL.upd L i 12 = L 12 := by unfold TL.upd; rw [if_neg (fun e => h12 e.symm)]
  exact ⟨fun e => h.a (e9 ▸ e), fun e e2 => h.b (e9 ▸ e) (e12 ▸ e2), fun e => h.c (e12 ▸ e)⟩

theorem TA.same {W0 W : World} {base br n : Nat} {v lab val : Value} {ys : List Value} {L : Nat → Bool} {k : Nat} (h9 : k ≠ 9) (h12 : k ≠ 12) {i : Nat} {u : Value} (h : TA W0 base br v lab val n ys L i W u) : TA W0 base br v lab val n ys (TL.upd L k) i W u := by
  have e9 : TL.upd L k 9 = L 9 := by unfold TL.upd; rw [if_neg (fun e => h9 e.symm)]
  have e12 : TL.upd L k 12 = L 12 := by unfold TL.upd; rw [if_neg (fun e => h12 e.symm)]
  exact TA.to e12 (fun _ => .inr ⟨e9, fun _ _ _ _ => rfl⟩) (fun _ => rfl) h

set_option maxRecDepth 100000 in
set_option maxHeartbeats 3200000 in
theorem add_any (w0 W0 : World) (br pb : Nat) (v : Value) (al : Bool) (xs : List (Value × Value)) (pts : List EV.Pt) (lo : Option Addr) (L1 : List LB.Lab) (lc : Nat) (x : Int) (h : PB w0 W0 br v al xs pts) (hp : W0.heap[pb]? = some (.cells #[.pointer (some ⟨br, 0, none⟩)] 255)) (hL : RL w0 W0 NoZ (.slice lo L1.length lc) L1) (hn : pts.length ≤ 1000000) :
    Calls Tryz.prog 175 #[.slice lo L1.length lc, .int .i64 x, .pointer (some ⟨pb, 0, none⟩)] W0 fun e w' => e = .returned (.tuple #[]) ∧ ∃ v', PB w0 w' br v' al (xs ++ [(.slice lo L1.length lc, .int .i64 x)]) (pts ++ [(L1, x)]) ∧ PStep W0 w' br v v' := by
  have HH := hid h
  have HP := hid hp
  have HL := hid hL
  obtain ⟨vo, vc, ev⟩ := own_slice h.row
  subst ev
  have hbr := heap_lt h.box
  have hpb := heap_lt hp
  have hne : pb ≠ br := fun e => by
    subst e
    have := hp.symm.trans h.box
    simp at this
  clear h hp hL
  go_enter Tryz.func175, Tryz.ntmps175
  have HW : Hid (Value.ownBlock (.slice vo pts.length vc) ≠ some br ∧ Value.ownBlock (.slice vo pts.length vc) ≠ some pb) := ⟨own_kind HH.out.row HH.out.box (by decide), own_kind HH.out.row HP.out (by decide)⟩
  refine TL.wp_told [5, 6, 7, 8, 9, 10, 11, 12, 13, 14, 15, 16] (CA W0 w0.heap.size br (.slice vo pts.length vc) pts.length (flat xs ++ [.slice lo L1.length lc, .int .i64 x])) (TA W0 w0.heap.size br (.slice vo pts.length vc) (.slice lo L1.length lc) (.int .i64 x) pts.length (flat xs ++ [.slice lo L1.length lc, .int .i64 x])) rfl (by kernel_rfl) (by kernel_rfl) 17 rfl (by kernel_rfl) ⟨fun _ => (Below.refl _ W0).drew, fun e => (by cases e), fun e => (by cases e)⟩ (TL.ix_cons ?_ (TL.ix_cons ?_ (TL.ix_cons ?_ (TL.ix_cons ?_ (TL.ix_cons ?_ (TL.ix_cons ?_ (TL.ix_cons ?_ (TL.ix_cons ?_ (TL.ix_cons ?_ (TL.ix_cons ?_ (TL.ix_cons ?_ (TL.ix_cons ?_ (TL.ix_cons ?_ TL.ix_nil))))))))))))) ?_
  · intro L a W hL hbeh hcl hlike hC hdep
    have h12 : L 12 = false := TL.undone hcl 13 12 0 (by kernel_rfl) hL
    exact TL.Does.load rfl (hlike.keeps 2 (by kernel_rfl)) (ew_ldP pb _ W ((hC.keep h12 hpb HW.out.2).trans HP.out)) ⟨hC.same (by decide) (by decide), fun _ => rfl, fun j hj _ ht => ht.same (by decide) (by decide)⟩
  · intro L a W hL hbeh hcl hlike hC hdep
    have h12 : L 12 = false := TL.undone hcl 13 12 1 (by kernel_rfl) hL
    exact TL.Does.load rfl (hlike.keeps 2 (by kernel_rfl)) (ew_ldP pb _ W ((hC.keep h12 hpb HW.out.2).trans HP.out)) ⟨hC.same (by decide) (by decide), fun _ => rfl, fun j hj _ ht => ht.same (by decide) (by decide)⟩
  · intro L a W hL hbeh hcl hlike hC hdep
    have h12 : L 12 = false := TL.undone hcl 13 12 2 (by kernel_rfl) hL
    refine TL.Does.val (v := .pointer (some ⟨br, 0, none⟩)) (w' := W) ?_ ⟨hC.same (by decide) (by decide), fun _ => rfl, fun j hj _ ht => ht.same (by decide) (by decide)⟩
    have e : a.eval (.tmp 6) = .pointer (some ⟨br, 0, none⟩) := (hdep 1 (by kernel_rfl)).2 h12
    unfold execOp
    dsimp only
    rw [e]
    rfl
  · intro L a W hL hbeh hcl hlike hC hdep
    have h12 : L 12 = false := TL.undone hcl 13 12 3 (by kernel_rfl) hL
    exact TL.Does.field rfl ((hdep 2 (by kernel_rfl)).2 h12) (ew_fa0 W br 0) ⟨hC.same (by decide) (by decide), fun _ => rfl, fun j hj _ ht => ht.same (by decide) (by decide)⟩
  · intro L a W hL hbeh hcl hlike hC hdep
    have h12 : L 12 = false := TL.undone hcl 13 12 4 (by kernel_rfl) hL
    exact TL.Does.load rfl ((hdep 3 (by kernel_rfl)).2 h12) (ew_ldR br 0 _ _ _ W (zcell' _ _ _ _ ((hC.keep h12 hbr HW.out.1).trans HH.out.box) 0 _ rfl)) ⟨hC.same (by decide) (by decide), fun _ => rfl, fun j hj _ ht => ht.same (by decide) (by decide)⟩
  · intro L a W hL hbeh hcl hlike hC hdep
    exact TL.Does.move rfl (hlike.keeps 0 (by kernel_rfl)) ⟨hC.same (by decide) (by decide), fun _ => rfl, fun j hj _ ht => ht.same (by decide) (by decide)⟩
  · intro L a W hL hbeh hcl hlike hC hdep
    exact TL.Does.move rfl (hlike.keeps 1 (by kernel_rfl)) ⟨hC.same (by decide) (by decide), fun _ => rfl, fun j hj _ ht => ht.same (by decide) (by decide)⟩
  · intro L a W hL hbeh hcl hlike hC hdep
    have h12 : L 12 = false := TL.undone hcl 13 12 7 (by kernel_rfl) hL
    have e5 : a.eval (.tmp 10) = .slice lo _ lc := (hdep 5 (by kernel_rfl)).2 h12
    have e6 : a.eval (.tmp 11) = .int .i64 x := (hdep 6 (by kernel_rfl)).2 h12
    exact TL.Does.build rfl (by simp only [List.map_toArray, List.map_cons, List.map_nil, e5, e6]) (ew_bd W lo _ lc x) ⟨hC.same (by decide) (by decide), fun _ => rfl, fun j hj _ ht => ht.same (by decide) (by decide)⟩
  · intro L a W hL hbeh hcl hlike hC hdep
    have h12 : L 12 = false := TL.undone hcl 13 12 8 (by kernel_rfl) hL
    have h9 : L 9 = false := TL.undone hcl 13 9 8 (by kernel_rfl) hL
    have e7 : a.eval (.tmp 12) = .agg #[.slice lo _ lc, .int .i64 x] := (hdep 7 (by kernel_rfl)).2 h12
    have hal := (Below.refl _ W).alloc (Nat.le_refl _) (.cells #[.slice lo L1.length lc, .int .i64 x] 55)
    refine TL.Does.bslice rfl (by simp only [List.map_toArray, List.map_cons, List.map_nil, e7]) (ew_bs W lo _ lc x) ⟨⟨fun _ => bel2 (hC.a h9) hal, fun e => (by have e' : L 9 = true := e; rw [h9] at e'; cases e'), fun e => (by have e' : L 12 = true := e; rw [h12] at e'; cases e')⟩, fun _ _ => ⟨_, rfl, heap_alloc_new W _⟩, fun j hj hjd ht => ht.to rfl (fun e => absurd e hj) (fun e => ?_)⟩
    subst e
    rw [h9] at hjd; cases hjd
  · intro L a W hL hbeh hcl hlike hC hdep
    have h12 : L 12 = false := TL.undone hcl 13 12 9 (by kernel_rfl) hL
    have h9 : L 9 = false := hL
    obtain ⟨B, eB, hB⟩ := (hdep 8 (by kernel_rfl)).2 h12 h9
    have hb := hC.a h9
    obtain ⟨v', W', hrun, q1, q2, q3⟩ := app_pt W w0.heap.size B (.slice vo pts.length vc) (.slice lo L1.length lc) (.int .i64 x) pts.length (flat xs) hB rfl rfl (row_kept HH.out.row fun g _ hg => hb.block g (heap_lt hg)) hn (Nat.le_trans HH.out.bel.size hb.size)
    exact TL.Does.append rfl ((hdep 4 (by kernel_rfl)).2 h12) eB hrun ⟨⟨fun e => (by simp [TL.upd] at e), fun _ _ => ⟨v', W, hb, q1, q2, q3⟩, fun e => (by have e' : L 12 = true := e; rw [h12] at e'; cases e')⟩, fun _ => ⟨W, hb, q1, q2, q3⟩, fun j hj hjd ht => TA.to (L' := TL.upd L 9) (L := L) rfl (fun _ => .inl rfl) (fun e => absurd e hj) ht⟩
  · intro L a W hL hbeh hcl hlike hC hdep
    have h12 : L 12 = false := TL.undone hcl 13 12 10 (by kernel_rfl) hL
    refine TL.Does.val (v := .pointer (some ⟨br, 0, none⟩)) (w' := W) ?_ ⟨hC.same (by decide) (by decide), fun _ => rfl, fun j hj _ ht => ht.same (by decide) (by decide)⟩
    have e : a.eval (.tmp 5) = .pointer (some ⟨br, 0, none⟩) := (hdep 0 (by kernel_rfl)).2 h12
    unfold execOp
    dsimp only
    rw [e]
    rfl
  · intro L a W hL hbeh hcl hlike hC hdep
    have h12 : L 12 = false := TL.undone hcl 13 12 11 (by kernel_rfl) hL
    exact TL.Does.field rfl ((hdep 10 (by kernel_rfl)).2 h12) (ew_fa0 W br 0) ⟨hC.same (by decide) (by decide), fun _ => rfl, fun j hj _ ht => ht.same (by decide) (by decide)⟩
  · intro L a W hL hbeh hcl hlike hC hdep
    have h12 : L 12 = false := hL
    obtain ⟨h9, hA⟩ := hdep 9 (by kernel_rfl)
    have hA := hA h12
    have hA2 := hA
    obtain ⟨W1, _, k2, _, _⟩ := hA2
    obtain ⟨ao, ac, ev⟩ := own_slice k2
    have hb2 := (hA.keep hbr HW.out.1).trans HH.out.box
    rw [ev] at hA
    exact TL.Does.store rfl ((hdep 11 (by kernel_rfl)).2 h12) ev (ew_stR br 0 _ _ _ _ W (zcell' _ _ _ _ hb2 0 _ rfl) (hfz hb2 0)) ⟨⟨fun e => (by have e' : L 9 = false := e; rw [h9] at e'; cases e'), fun _ e => (by simp [TL.upd] at e), fun _ => ⟨W, _, hA, rfl⟩⟩, fun e => (by simp [TL.upd] at e), fun j hj _ _ e => (by simp [TL.upd] at e)⟩
  · intro L f W hL hC hT
    obtain ⟨W2, v', ⟨W1, k1, k2, k3, k4⟩, rfl⟩ := hC.c (hL 12 (by decide))
    have hA : AftA W0 w0.heap.size (.slice vo pts.length vc) pts.length (flat xs ++ [.slice lo L1.length lc, .int .i64 x]) W2 v' := ⟨W1, k1, k2, k3, k4⟩
    have hb2 := (hA.keep hbr HW.out.1).trans HH.out.box
    have hne2 : v'.ownBlock ≠ some br := own_kind k2 hb2 (by decide)
    have hrow1 := row_kept HH.out.row fun g _ hg => k1.block g (heap_lt hg)
    have hlk : ∀ {u : Value} {l : List LB.Lab}, RL w0 W0 NoZ u l → RL w0 (W2.setCell ⟨br, 0, none⟩ v') NoZ u l := fun hu => by
      rcases hu.below k1 with hu | hu
      · exact .inl hu
      · have h2 := pkind_grown hrow1 hu (by decide) k3
        exact .inr (own_set h2 (own_kind h2 hb2 (by decide)) 0 _)
    have HPB : Hid (PB w0 (W2.setCell ⟨br, 0, none⟩ v') br v' al (xs ++ [(.slice lo L1.length lc, .int .i64 x)]) (pts ++ [(L1, x)])) := by
      refine ⟨by rw [List.length_append, List.length_append, HH.out.len]; rfl, ?_, ?_, ?_, HH.out.brg, fun i hi => ?_, fun i hi => ?_⟩
      · rw [List.length_append, flat_append]
        exact own_set k2 hne2 0 _
      · exact ((bel2 HH.out.bel k1).grown k3 (Nat.le_trans HH.out.bel.size k1.size) (fun j hj => (hrow1.lt j hj).1)).setCell (p := ⟨br, 0, none⟩) HH.out.brg _
      · exact heap_setCell_same W2 br 0 _ _ v' hb2
      · rw [List.length_append] at hi
        rw [atX_snoc, atP_snoc pts _ i hi, HH.out.len]
        by_cases hlt : i < pts.length
        · rw [if_pos hlt, if_pos hlt]; exact hlk (HH.out.labs i hlt)
        · rw [if_neg hlt, if_neg hlt, if_pos (by simp only [List.length_cons, List.length_nil] at hi; omega)]; exact hlk HL.out
      · rw [List.length_append] at hi
        rw [atX_snoc, atP_snoc pts _ i hi, HH.out.len]
        by_cases hlt : i < pts.length
        · rw [if_pos hlt, if_pos hlt]; exact HH.out.vals i hlt
        · rw [if_neg hlt, if_neg hlt, if_pos (by simp only [List.length_cons, List.length_nil] at hi; omega)]
    have HPS : Hid (PStep W0 (W2.setCell ⟨br, 0, none⟩ v') br (.slice vo pts.length vc) v') := by
      refine ⟨by rw [set_size]; exact Nat.le_trans k1.size k3.size, fun g hg hgb hgv => (Below.heap_setCell W2 ⟨br, 0, none⟩ v' g hgb).trans (hA.keep hg hgv), ?_⟩
      rcases k4 with e | e
      · exact .inl e
      · exact .inr ⟨_, k1.size, e⟩
    clear hT hL hC
    generalize W2.setCell ⟨br, 0, none⟩ v' = W9 at *
    simp only [TL.puts]
    go_frame
    go_end0
    exact ⟨rfl, v', HPB.out, HPS.out⟩

end Go.Proofs.YtdmnlmohfaafoaeGreatDoor

