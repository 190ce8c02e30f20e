/- The program's reader of tokens, in memory; what its small methods do. -/
import Derived.Test.YtdmnlmohfaafoaeDoorAqOk
import Derived.Test.YtdmnlmohfaafoaeDoorAqAsked
import Derived.OwnWalk
import Derived.Lib.LaidTab
import Derived.Laws.OwnMore
import Derived.Deep.CutRange
import Derived.Deep.CutBlock
import Derived.Deep.DeepCutAuto
namespace Go.Proofs.YtdmnlmohfaafoaeDoor
open Go.RowKit Go.Shelf

namespace AQ
def atT (l : List Tok) (i : Nat) : Tok := l.getD i noTok
theorem hd_at (l : List Tok) : hd l = atT l 0 := by
  unfold hd atT
  cases l <;> rfl
end AQ

theorem kcell (w : World) (b : Nat) (a : Array Value) (t : TypeId) (h : w.heap[b]? = some (.cells a t)) (i : Nat) (v : Value) (hv : a[i]? = some v) : w.cell? ⟨b, i, none⟩ = some v := by simp [World.cell?, h, hv]
theorem kfz {w : World} {B : Nat} {c : Array Value} {T : TypeId} (h : w.heap[B]? = some (.cells c T)) (j : Nat) : w.frozen? ⟨B, j, none⟩ = false := by simp [World.frozen?, h]

/-- A table of texts in a variable. -/
def GT (w : World) (g : Nat) (xs : List ByteArray) : Prop := ∀ i, i < xs.length → w.cell? ⟨g, i, none⟩ = some (.string (xs.getD i ⟨#[]⟩))

def signs : List ByteArray := [⟨#[43]⟩, ⟨#[45]⟩, ⟨#[42]⟩, ⟨#[47]⟩]
def marksB : List ByteArray := AQ.marks.map fun m => ⟨m.toArray⟩

/-- The package's tables, as they were written. -/
structure Gl (w : World) : Prop where
  size : 12 ≤ w.heap.size
  ops : GT w 0 AQ.ops
  words : GT w 2 AQ.words
  marks : GT w 5 marksB
  signs : GT w 3 signs
  pow : Lib.TabIs Tryd.prog w "internal/strconv.uint64pow10" .u64 Lib.pow10Tab

theorem GT.keep {w w' : World} {g : Nat} {xs : List ByteArray} (h : GT w g xs) (k : w'.heap[g]? = w.heap[g]?) : GT w' g xs := fun i hi => (World.cell?_of_block (a := ⟨g, _, none⟩) k).trans (h i hi)

theorem Gl.keep {w w' : World} (h : Gl w) (k : ∀ j, j < 12 → w'.heap[j]? = w.heap[j]?) (hs : w.heap.size ≤ w'.heap.size) : Gl w' :=
  ⟨Nat.le_trans h.size hs, h.ops.keep (k _ (by decide)), h.words.keep (k _ (by decide)), h.marks.keep (k _ (by decide)), h.signs.keep (k _ (by decide)), by
    have hp := h.pow
    unfold Lib.TabIs World.var? at hp ⊢
    have hg : Tryd.prog.globalNamed "internal/strconv.uint64pow10" = some 6 := by kernel_rfl
    rw [hg] at hp ⊢
    rw [← hp]
    have := k 6 (by decide)
    show (match w'.heap[6]? with | some (.cells cs _ _) => some cs | _ => none) = _
    rw [this]
    rfl⟩

theorem Gl.below {w w' : World} (h : Gl w) (k : Below w.heap.size w w') : Gl w' := h.keep (fun j hj => k.block j (Nat.lt_of_lt_of_le hj h.size)) k.size

/-- Tokens in memory. -/
def TRow (w : World) (bt off : Nat) (l : List AQ.Tok) : Prop := ∀ i, i < l.length → w.cell? ⟨bt, off + i * 3, none⟩ = some (.int .i64 (AQ.atT l i).kind) ∧ w.cell? ⟨bt, off + i * 3 + 1, none⟩ = some (.string (AQ.atT l i).said) ∧ w.cell? ⟨bt, off + i * 3 + 2, none⟩ = some (.int .i64 (AQ.atT l i).place)

theorem TRow.tail {w : World} {bt off : Nat} {l : List AQ.Tok} (h : TRow w bt off l) : TRow w bt (off + 3) l.tail := fun i hi => by
  have hi' : i + 1 < l.length := by rw [List.length_tail] at hi; omega
  obtain ⟨a, b, c⟩ := h (i + 1) hi'
  have e : AQ.atT l.tail i = AQ.atT l (i + 1) := by
    unfold AQ.atT
    cases l with
    | nil => simp at hi'
    | cons t r => rfl
  rw [e, show off + 3 + i * 3 = off + (i + 1) * 3 by omega]
  exact ⟨a, b, c⟩

/-- A parser in block bp. -/
structure PrK (w : World) (bp bt off cap : Nat) (l : List AQ.Tok) : Prop where
  box : w.heap[bp]? = some (.cells #[.slice (some ⟨bt, off, none⟩) l.length cap] 163)
  row : TRow w bt off l
  far : bt ≠ bp
  lt : bt < w.heap.size
  room : l.length ≤ cap
  ends : AQ.Ends l
  gl : Gl w
  top : 12 ≤ bp

/-- .. its tokens in block bt. -/
def Pr (w : World) (bp bt : Nat) (l : List AQ.Tok) : Prop := ∃ off cap, PrK w bp bt off cap l

theorem Pr.below {w w' : World} {bp bt : Nat} {l : List AQ.Tok} (h : Pr w bp bt l) (k : Below w.heap.size w w') : Pr w' bp bt l := by
  obtain ⟨off, cap, h⟩ := h
  exact ⟨off, cap, (k.block _ (heap_lt h.box)).trans h.box, fun i hi => by
    obtain ⟨a, b, c⟩ := h.row i hi
    exact ⟨(k.cell (p := ⟨bt, _, none⟩) h.lt).trans a, (k.cell (p := ⟨bt, _, none⟩) h.lt).trans b, (k.cell (p := ⟨bt, _, none⟩) h.lt).trans c⟩, h.far, Nat.lt_of_lt_of_le h.lt k.size, h.room, h.ends, h.gl.below k, h.top⟩

theorem Pr.ends {w : World} {bp bt : Nat} {l : List AQ.Tok} (h : Pr w bp bt l) : AQ.Ends l := by
  obtain ⟨off, cap, h⟩ := h
  exact h.ends
theorem Pr.gl {w : World} {bp bt : Nat} {l : List AQ.Tok} (h : Pr w bp bt l) : Gl w := by
  obtain ⟨off, cap, h⟩ := h
  exact h.gl
theorem Pr.low {w : World} {bp bt : Nat} {l : List AQ.Tok} (h : Pr w bp bt l) : bp < w.heap.size ∧ bt < w.heap.size := by
  obtain ⟨off, cap, h⟩ := h
  exact ⟨heap_lt h.box, h.lt⟩

/-- Only the parser's own block turned. -/
def Own1 (br : Nat) (w w' : World) : Prop := w'.os = w.os ∧ w'.tape = w.tape ∧ w'.output = w.output ∧ w.heap.size ≤ w'.heap.size ∧ ∀ j, j < w.heap.size → j ≠ br → w'.heap[j]? = w.heap[j]?

theorem Own1.refl (br : Nat) (w : World) : Own1 br w w := ⟨rfl, rfl, rfl, Nat.le_refl _, fun _ _ _ => rfl⟩
theorem Own1.trans {br : Nat} {a b c : World} (h : Own1 br a b) (k : Own1 br b c) : Own1 br a c :=
  ⟨k.1.trans h.1, k.2.1.trans h.2.1, k.2.2.1.trans h.2.2.1, Nat.le_trans h.2.2.2.1 k.2.2.2.1, fun j hj hn => (k.2.2.2.2 j (Nat.lt_of_lt_of_le hj h.2.2.2.1) hn).trans (h.2.2.2.2 j hj hn)⟩
theorem Own1.of {br : Nat} {w w' : World} (h : Below w.heap.size w w') : Own1 br w w' := ⟨h.os, h.tape, h.output, h.size, fun j hj _ => h.block j hj⟩
theorem Own1.size {br : Nat} {w w' : World} (h : Own1 br w w') : w.heap.size ≤ w'.heap.size := h.2.2.2.1
theorem Own1.block {br : Nat} {w w' : World} (h : Own1 br w w') {j : Nat} {o : Obj} (hj : w.heap[j]? = some o) (hn : j ≠ br) : w'.heap[j]? = some o := (h.2.2.2.2 j (heap_lt hj) hn).trans hj
theorem Own1.set {br : Nat} (w : World) (o : Nat) (u : Value) : Own1 br w (w.setCell ⟨br, o, none⟩ u) := ⟨rfl, rfl, rfl, by simp [World.setCell], fun j _ hn => Below.heap_setCell w ⟨br, o, none⟩ u j hn⟩

/-- A store into another block, a new one. -/
theorem Pr.put {w : World} {bp bt B : Nat} {l : List AQ.Tok} (h : Pr w bp bt l) (h1 : B ≠ bp) (h2 : B ≠ bt) (h3 : 12 ≤ B) (o : Nat) (u : Value) : Pr (w.setCell ⟨B, o, none⟩ u) bp bt l := by
  have hk : ∀ j, j ≠ B → (w.setCell ⟨B, o, none⟩ u).heap[j]? = w.heap[j]? := fun j hj => Below.heap_setCell w ⟨B, o, none⟩ u j hj
  have hsz : (w.setCell ⟨B, o, none⟩ u).heap.size = w.heap.size := by simp [World.setCell]
  obtain ⟨off, cap, r⟩ := h
  refine ⟨off, cap, (hk _ (fun e => h1 e.symm)).trans r.box, fun i hi => ?_, r.far, by rw [hsz]; exact r.lt, r.room, r.ends, r.gl.keep (fun j hj => hk j (by omega)) (by rw [hsz]; exact Nat.le_refl _), r.top⟩
  obtain ⟨a, b, c⟩ := r.row i hi
  have hb := hk bt (fun e => h2 e.symm)
  exact ⟨(World.cell?_of_block (a := ⟨bt, _, none⟩) hb).trans a, (World.cell?_of_block (a := ⟨bt, _, none⟩) hb).trans b, (World.cell?_of_block (a := ⟨bt, _, none⟩) hb).trans c⟩
theorem Own1.put {bp B : Nat} {w0 w : World} (h : Own1 bp w0 w) (hB : w0.heap.size ≤ B) (o : Nat) (u : Value) : Own1 bp w0 (w.setCell ⟨B, o, none⟩ u) :=
  ⟨h.1, h.2.1, h.2.2.1, by simpa [World.setCell] using h.2.2.2.1, fun j hj hn => (Below.heap_setCell w ⟨B, o, none⟩ u j (fun e => by simp only at e; omega)).trans (h.2.2.2.2 j hj hn)⟩

/-- An error at a place, thrown. -/
def Thr (w w' : World) (bp : Nat) (e : Ending) (c p : Int) : Prop := ∃ B, e = .panicked [{ v := .iface 78 (.pointer (some ⟨B, 0, none⟩)), recovered := false }] ∧ w'.heap[B]? = some (.cells #[.int .i64 c, .int .i64 p] 80) ∧ Own1 bp w w'

theorem Thr.from {w w0 w' : World} {bp : Nat} {e : Ending} {c p : Int} (h : Thr w w' bp e c p) (k : Own1 bp w0 w) : Thr w0 w' bp e c p := by
  obtain ⟨B, a, b, d⟩ := h
  exact ⟨B, a, b, k.trans d⟩

/-- How a method of the parser ends: it tells what was read, or throws what is wrong. -/
structure PEnd {α : Type} (V : World → Value → α → Prop) (w w' : World) (bp bt : Nat) (e : Ending) (R : AQ.Res α) : Prop where
  ok : ∀ a r, R = .ok a r → ∃ v, e = .returned v ∧ V w' v a ∧ Pr w' bp bt r ∧ Own1 bp w w'
  bad : ∀ c p, R = .bad c p → Thr w w' bp e c p

theorem PEnd.mkOk {α : Type} {V : World → Value → α → Prop} {w w' : World} {bp bt : Nat} {R : AQ.Res α} {a : α} {r : List AQ.Tok} {v : Value} (hR : R = .ok a r) (hv : V w' v a) (hp : Pr w' bp bt r) (ho : Own1 bp w w') : PEnd V w w' bp bt (.returned v) R :=
  ⟨fun a' r' e => by rw [hR] at e; cases e; exact ⟨v, rfl, hv, hp, ho⟩, fun c p e => by rw [hR] at e; cases e⟩
theorem PEnd.mkBad {α : Type} {V : World → Value → α → Prop} {w w' : World} {bp bt : Nat} {R : AQ.Res α} {c p : Int} {e : Ending} (hR : R = .bad c p) (h : Thr w w' bp e c p) : PEnd V w w' bp bt e R :=
  ⟨fun a' r' e => (by rw [hR] at e; cases e), fun c' p' e => (by rw [hR] at e; cases e; exact h)⟩

abbrev VU : World → Value → Unit → Prop := fun _ v _ => v = .tuple #[]
abbrev VT : World → Value → AQ.Tok → Prop := fun _ v t => v = .agg #[.int .i64 t.kind, .string t.said, .int .i64 t.place]
abbrev VS : World → Value → ByteArray → Prop := fun _ v s => v = .string s
abbrev VI : World → Value → Int → Prop := fun _ v n => v = .int .i64 n
abbrev VM : World → Value → LB.Mat → Prop := fun _ v m => v = .agg #[.string m.nm, .int .i64 m.op, .string m.vl]

theorem wrong_any (c p : Int) (w : World) :
    Calls Tryd.prog 105 #[.int .i64 c, .int .i64 p] w fun e w' => e = .returned (.pointer (some ⟨w.heap.size, 0, none⟩)) ∧ w' = w.alloc (.cells #[.int .i64 c, .int .i64 p] 80) := by
  go_enter Tryd.func105, Tryd.ntmps105
  go_wp2
  go_ret
  exact ⟨rfl, rfl⟩

theorem tokF0 (k p : Int) (s : ByteArray) (w : World) : (Instr.field 166 (.agg #[.int .i64 k, .string s, .int .i64 p]) 0).run Tryd.prog w = .ok (.int .i64 k) w := by kernel_rfl
theorem tokF1 (k p : Int) (s : ByteArray) (w : World) : (Instr.field 166 (.agg #[.int .i64 k, .string s, .int .i64 p]) 1).run Tryd.prog w = .ok (.string s) w := by kernel_rfl
theorem tokF2 (k p : Int) (s : ByteArray) (w : World) : (Instr.field 166 (.agg #[.int .i64 k, .string s, .int .i64 p]) 2).run Tryd.prog w = .ok (.int .i64 p) w := by kernel_rfl

theorem here_any {bt : Nat} (bp : Nat) (l : List AQ.Tok) (w : World) (h : Pr w bp bt l) :
    Calls Tryd.prog 104 #[.pointer (some ⟨bp, 0, none⟩)] w fun e w' => e = .returned (.agg #[.int .i64 (AQ.hd l).kind, .string (AQ.hd l).said, .int .i64 (AQ.hd l).place]) ∧ Below w.heap.size w w' := by
  have hbel : Below w.heap.size w (w.alloc (.cells #[.int .i64 0, .string ⟨#[]⟩, .int .i64 0] 166)) := (Below.refl _ w).alloc (Nat.le_refl _) _
  have HB := hid hbel
  have HX := hid (heap_alloc_new w (.cells #[.int .i64 0, .string ⟨#[]⟩, .int .i64 0] 166))
  obtain ⟨off, cap, h⟩ := h.below hbel
  have hpos := h.ends.pos
  obtain ⟨t0, t1, t2⟩ := h.row 0 hpos
  rw [← AQ.hd_at, Nat.zero_mul, Nat.add_zero] at t0 t1 t2
  have c0 := kcell _ _ _ _ h.box 0 _ rfl
  have hp' : (0 : Int) < (l.length : Int) := by omega
  clear h hbel
  go_enter Tryd.func104, Tryd.ntmps104
  go_wp2_with fail
  refine bodyPost_ret (results_cell_row (P := Tryd.prog) rfl _ _ w.heap.size 166 _ (0, 0) _ rfl (heap_alloc_new w _) Tryd.underlying166 rfl (by kernel_rfl)) rfl ?_
  exact ⟨rfl, (Below.refl _ w).alloc (Nat.le_refl _) _⟩

/-- The rest, when the first one is taken. -/
theorem PrK.next {w : World} {bp bt off cap : Nat} {l : List AQ.Tok} (h : PrK w bp bt off cap l) (he : AQ.Ends l.tail) {k c' : Nat} (hk : k = l.length - 1) (hc : c' = cap - 1) : Pr (w.setCell ⟨bp, 0, none⟩ (.slice (some ⟨bt, off + 3, none⟩) k c')) bp bt l.tail ∧ Own1 bp w (w.setCell ⟨bp, 0, none⟩ (.slice (some ⟨bt, off + 3, none⟩) k c')) := by
  have ho := Own1.set (br := bp) w 0 (.slice (some ⟨bt, off + 3, none⟩) k c')
  have hl : l.tail.length = k := by rw [List.length_tail, hk]
  have hb := ho.2.2.2.2 bt h.lt h.far
  refine ⟨⟨off + 3, c', ?_, fun i hi => ?_, h.far, Nat.lt_of_lt_of_le h.lt ho.2.2.2.1, by have := h.room; omega, he, h.gl.keep (fun j hj => ho.2.2.2.2 j (Nat.lt_of_lt_of_le hj h.gl.size) (by have := h.top; omega)) ho.2.2.2.1, h.top⟩, ho⟩
  · rw [hl]; exact heap_setCell_same _ _ 0 _ _ _ h.box
  · obtain ⟨x, y, z⟩ := h.row.tail i hi
    exact ⟨(World.cell?_of_block (a := ⟨bt, _, none⟩) hb).trans x, (World.cell?_of_block (a := ⟨bt, _, none⟩) hb).trans y, (World.cell?_of_block (a := ⟨bt, _, none⟩) hb).trans z⟩

def tookL (x : ByteArray) (l : List AQ.Tok) : List AQ.Tok := if AQ.has x l then l.tail else l

set_option maxRecDepth 100000 in
theorem take_any {bt : Nat} (bp : Nat) (l : List AQ.Tok) (x : ByteArray) (hx : x ≠ ⟨#[]⟩) (w : World) (h : Pr w bp bt l) :
    Calls Tryd.prog 107 #[.pointer (some ⟨bp, 0, none⟩), .string x] w fun e w' => e = .returned (.bool (AQ.has x l)) ∧ Pr w' bp bt (tookL x l) ∧ Own1 bp w w' := by
  have HJ := hid h
  have hF1 := tokF1 (AQ.hd l).kind (AQ.hd l).place (AQ.hd l).said
  clear h
  go_enter Tryd.func107, Tryd.ntmps107
  go_wp2_with fail
  refine (here_any bp l w HJ.out).mono ?_
  rintro e w1 ⟨rfl, hb1⟩
  have hJ1 := HJ.out.below hb1
  have HO1 := hid (Own1.of (br := bp) hb1)
  clear hb1 HJ
  have HJ1 := hid hJ1
  rcases hs : AQ.has x l with _ | _
  · have hne : ((AQ.hd l).said.toList == x.toList) = false := by rw [LB.beq_eq]; exact hs
    have HE := hid (show tookL x l = l by unfold tookL; rw [hs]; rfl)
    have HS := hid hs
    clear hs hJ1
    go_wp2_with fail
    go_ret
    exact ⟨by rw [HS.out]; rfl, by rw [HE.out]; exact HJ1.out, HO1.out⟩
  · have hne : ((AQ.hd l).said.toList == x.toList) = true := by rw [LB.beq_eq]; exact hs
    have HE := hid (show tookL x l = l.tail by unfold tookL; rw [hs]; rfl)
    obtain ⟨off, cap, hk⟩ := hJ1
    obtain ⟨g, n⟩ := AQ.has_goes hx hs
    have hr := hk.room
    have hpt := (g.ends hk.ends).pos
    have HN := hid (hk.next (g.ends hk.ends) rfl rfl)
    have c0 := kcell _ _ _ _ hk.box 0 _ rfl
    have f0 := kfz hk.box 0
    have l1 : (1 : Int) ≤ (l.length : Int) := by omega
    have l2 : ¬ cap = 1 := by omega
    have l3 : 1 ≤ cap := by omega
    have HS := hid hs
    clear hs hk g n
    go_wp2_with fail
    go_ret
    exact ⟨by rw [HS.out]; rfl, by rw [HE.out]; exact HN.out.1, HO1.out.trans HN.out.2⟩

set_option maxRecDepth 100000 in
theorem need_any {bt : Nat} (bp : Nat) (l : List AQ.Tok) (x : ByteArray) (hx : x ≠ ⟨#[]⟩) (w : World) (h : Pr w bp bt l) :
    Calls Tryd.prog 111 #[.pointer (some ⟨bp, 0, none⟩), .string x] w fun e w' => PEnd VU w w' bp bt e (AQ.need x l) := by
  have HT := hid (take_any bp l x hx w h)
  have hF2 := tokF2 (AQ.hd l).kind (AQ.hd l).place (AQ.hd l).said
  clear h
  go_enter Tryd.func111, Tryd.ntmps111
  go_wp2_with fail
  refine HT.out.mono ?_
  rintro e w1 ⟨rfl, hj1, ho1⟩
  rcases hs : AQ.has x l with _ | _
  · have HE := hid (show AQ.need x l = .bad 3 (AQ.hd l).place by unfold AQ.need; rw [hs]; rfl)
    have HJ1 := hid (show Pr w1 bp bt l by unfold tookL at hj1; rw [hs] at hj1; exact hj1)
    have HO1 := hid ho1
    clear hs hj1 ho1 HT
    go_wp2_with fail
    refine (here_any bp l w1 HJ1.out).mono ?_
    rintro e w2 ⟨rfl, hb2⟩
    have HO2 := hid (HO1.out.trans (Own1.of (br := bp) hb2))
    clear hb2
    go_wp2_with fail
    refine (wrong_any 3 (AQ.hd l).place w2).mono ?_
    rintro e w3 ⟨rfl, rfl⟩
    go_wp2_with fail
    exact ⟨rfl, PEnd.mkBad HE.out ⟨_, rfl, heap_alloc_new w2 _, HO2.out.trans (Own1.of ((Below.refl _ w2).alloc (Nat.le_refl _) _))⟩⟩
  · have HE := hid (show AQ.need x l = .ok () l.tail by unfold AQ.need; rw [hs]; rfl)
    have HJ1 := hid (show Pr w1 bp bt l.tail by unfold tookL at hj1; rw [hs] at hj1; exact hj1)
    have HO1 := hid ho1
    clear hs hj1 ho1 HT
    go_wp2_with fail
    go_end0
    exact PEnd.mkOk HE.out rfl HJ1.out HO1.out

set_option maxRecDepth 100000 in
theorem needK_any {bt : Nat} (bp : Nat) (l : List AQ.Tok) (k : Int) (hk4 : k ≠ 4) (w : World) (h : Pr w bp bt l) :
    Calls Tryd.prog 136 #[.pointer (some ⟨bp, 0, none⟩), .int .i64 k] w fun e w' => PEnd VT w w' bp bt e (AQ.needK k l) := by
  have hbel : Below w.heap.size w (w.alloc (.cells #[.int .i64 0, .string ⟨#[]⟩, .int .i64 0] 166)) := (Below.refl _ w).alloc (Nat.le_refl _) _
  have HJ := hid (h.below hbel)
  have HO := hid (Own1.of (br := bp) hbel)
  have HX := hid (heap_alloc_new w (.cells #[.int .i64 0, .string ⟨#[]⟩, .int .i64 0] 166))
  have HLow := hid h.low
  clear h hbel
  go_enter Tryd.func136, Tryd.ntmps136
  go_wp2_with fail
  generalize w.alloc (.cells #[.int .i64 0, .string ⟨#[]⟩, .int .i64 0] 166) = w0 at *
  refine (here_any bp l w0 HJ.out).mono ?_
  rintro e w1 ⟨rfl, hb1⟩
  have hal : Below w1.heap.size w1 (w1.alloc (.cells #[.int .i64 (AQ.hd l).kind, .string (AQ.hd l).said, .int .i64 (AQ.hd l).place] 166)) := (Below.refl _ w1).alloc (Nat.le_refl _) _
  have HJ2 := hid ((HJ.out.below hb1).below hal)
  have HO2 := hid ((HO.out.trans (Own1.of (br := bp) hb1)).trans (Own1.of (br := bp) hal))
  have HY2 := hid (hal.block _ (Nat.lt_of_lt_of_le (heap_lt HX.out) hb1.size) |>.trans ((hb1.block _ (heap_lt HX.out)).trans HX.out))
  have HX2 := hid (heap_alloc_new w1 (.cells #[.int .i64 (AQ.hd l).kind, .string (AQ.hd l).said, .int .i64 (AQ.hd l).place] 166))
  have hne : ¬ w1.heap.size = w.heap.size := by have := heap_lt HX.out; have := hb1.size; omega
  have hne' : ¬ w.heap.size = w1.heap.size := fun e => hne e.symm
  have hlow : ¬ w.heap.size = bp := by have := HLow.out.1; omega
  have hlow' : ¬ bp = w.heap.size := by have := HLow.out.1; omega
  have hlo2 : ¬ w1.heap.size = bp := by have := heap_lt HX.out; have := hb1.size; have := HLow.out.1; omega
  have hlo3 : ¬ bp = w1.heap.size := fun e => hlo2 e.symm
  have HL0 : Hid (bp < w.heap.size ∧ bt < w.heap.size) := HLow.out
  clear hb1 hal HJ HO HX HLow
  go_upto_region 2 with fail
  generalize w1.alloc (.cells #[.int .i64 (AQ.hd l).kind, .string (AQ.hd l).said, .int .i64 (AQ.hd l).place] 166) = w2 at *
  generalize w1.heap.size = bx at *
  have x0 := kcell _ _ _ _ HX2.out 0 _ rfl
  have x1 := kcell _ _ _ _ HX2.out 1 _ rfl
  have x2 := kcell _ _ _ _ HX2.out 2 _ rfl
  by_cases hkk : (AQ.hd l).kind = k
  · have hb : ((AQ.hd l).kind != k) = false := by rw [hkk]; simp
    have HE := hid (show AQ.needK k l = .ok (AQ.hd l) l.tail by unfold AQ.needK; rw [if_pos hkk])
    obtain ⟨off, cap, hk⟩ := HJ2.out
    have hen := hk.ends.tail (.inl (by rw [hkk]; exact hk4))
    have hr := hk.room
    have hpt := hen.pos
    rw [List.length_tail] at hpt
    have HN := hid (hk.next hen rfl rfl)
    have c0 := kcell _ _ _ _ hk.box 0 _ rfl
    have f0 := kfz hk.box 0
    have y0 := kcell _ _ _ _ HY2.out 0 _ rfl
    have y1 := kcell _ _ _ _ HY2.out 1 _ rfl
    have y2 := kcell _ _ _ _ HY2.out 2 _ rfl
    have g0 := kfz HY2.out 0
    have g1 := kfz HY2.out 1
    have g2 := kfz HY2.out 2
    have l1 : (1 : Int) ≤ (l.length : Int) := by omega
    have l2 : ¬ cap = 1 := by omega
    have l3 : 1 ≤ cap := by omega
    clear hkk hk hen
    go_wp2_with fail
    have hy3 := (Below.heap_setCell w2 ⟨bp, 0, none⟩ (.slice (some ⟨bt, off + 3, none⟩) (l.length - 1) (cap - 1)) w.heap.size hlow).trans HY2.out
    refine bodyPost_ret (results_cell_row (P := Tryd.prog) rfl _ _ w.heap.size 166 _ (0, 0) _ rfl (heap_setCell_same _ _ 2 _ _ _ (heap_setCell_same _ _ 1 _ _ _ (heap_setCell_same _ _ 0 _ _ _ hy3))) Tryd.underlying166 rfl (by kernel_rfl)) rfl ?_
    have hbt : w.heap.size ≠ bt := by have := HL0.out.2; omega
    have hgn : 12 ≤ w.heap.size := by
      obtain ⟨_, _, r⟩ := HN.out.1
      have h1 := r.top
      have h2 := HL0.out.1
      omega
    exact PEnd.mkOk HE.out rfl (((HN.out.1.put hlow hbt hgn _ _).put hlow hbt hgn _ _).put hlow hbt hgn _ _) ((((HO2.out.trans HN.out.2).put (Nat.le_refl _) _ _).put (Nat.le_refl _) _ _).put (Nat.le_refl _) _ _)
  · have hb : ((AQ.hd l).kind != k) = true := by simpa using hkk
    have HE := hid (show AQ.needK k l = .bad 3 (AQ.hd l).place by unfold AQ.needK; rw [if_neg hkk])
    clear hkk
    go_wp2_with fail
    refine (wrong_any 3 (AQ.hd l).place w2).mono ?_
    rintro e w3 ⟨rfl, rfl⟩
    go_wp2_with fail
    exact ⟨rfl, PEnd.mkBad HE.out ⟨_, rfl, heap_alloc_new w2 _, HO2.out.trans (Own1.of ((Below.refl _ w2).alloc (Nat.le_refl _) _))⟩⟩

set_option maxRecDepth 100000 in
theorem pname_any {bt : Nat} (bp : Nat) (l : List AQ.Tok) (w : World) (h : Pr w bp bt l) :
    Calls Tryd.prog 134 #[.pointer (some ⟨bp, 0, none⟩)] w fun e w' => PEnd VS w w' bp bt e (AQ.nameR l) := by
  have HC := hid (needK_any bp l 0 (by decide) w h)
  clear h
  go_enter Tryd.func134, Tryd.ntmps134
  go_wp2_with fail
  refine HC.out.mono ?_
  intro e w1 hE
  rcases hR : AQ.needK 0 l with ⟨t, r⟩ | ⟨c, p⟩
  · obtain ⟨v, rfl, rfl, hp1, ho1⟩ := hE.ok t r hR
    have HR := hid (show AQ.nameR l = if LB.name t.said then .ok t.said r else .bad 4 t.place by unfold AQ.nameR; rw [hR]; rfl)
    have hal : Below w1.heap.size w1 (w1.alloc (.cells #[.int .i64 t.kind, .string t.said, .int .i64 t.place] 166)) := (Below.refl _ w1).alloc (Nat.le_refl _) _
    have HP2 := hid (hp1.below hal)
    have HO2 := hid (ho1.trans (Own1.of (br := bp) hal))
    have HX2 := hid (heap_alloc_new w1 (.cells #[.int .i64 t.kind, .string t.said, .int .i64 t.place] 166))
    clear hR hE hp1 ho1 hal HC
    go_upto_region 2 with fail
    generalize w1.alloc (.cells #[.int .i64 t.kind, .string t.said, .int .i64 t.place] 166) = w2 at *
    generalize w1.heap.size = bx at *
    have x1 := kcell _ _ _ _ HX2.out 1 _ rfl
    have HN := hid (name_any t.said w2)
    go_wp2_with fail
    refine HN.out.mono ?_
    rintro e w3 ⟨rfl, hb3⟩
    have HP3 := hid (HP2.out.below hb3)
    have HO3 := hid (HO2.out.trans (Own1.of (br := bp) hb3))
    have hx3 := (hb3.block _ (heap_lt HX2.out)).trans HX2.out
    have z1 := kcell _ _ _ _ hx3 1 _ rfl
    have z2 := kcell _ _ _ _ hx3 2 _ rfl
    clear hb3 hx3 HN
    rcases hn : LB.name t.said with _ | _
    · have HR2 := hid (show AQ.nameR l = .bad 4 t.place by rw [HR.out, hn]; rfl)
      clear hn
      go_wp2_with fail
      refine (wrong_any 4 t.place w3).mono ?_
      rintro e w4 ⟨rfl, rfl⟩
      go_wp2_with fail
      exact ⟨rfl, PEnd.mkBad HR2.out ⟨_, rfl, heap_alloc_new w3 _, HO3.out.trans (Own1.of ((Below.refl _ w3).alloc (Nat.le_refl _) _))⟩⟩
    · have HR2 := hid (show AQ.nameR l = .ok t.said r by rw [HR.out, hn]; rfl)
      clear hn
      go_wp2_with fail
      go_ret
      exact PEnd.mkOk HR2.out rfl HP3.out HO3.out
  · have HR := hid (show AQ.nameR l = .bad c p by unfold AQ.nameR; rw [hR]; rfl)
    have hT := hE.bad c p hR
    have HT := hid hT
    obtain ⟨B, rfl, _, _⟩ := hT
    clear hR hE HC
    go_wp2_with fail
    exact ⟨rfl, PEnd.mkBad HR.out HT.out⟩

theorem ops_ix (i : Nat) (hi : i < 4) (w : World) : (Instr.index 173 (.agg #[.string ⟨#[61]⟩, .string ⟨#[33, 61]⟩, .string ⟨#[94, 61]⟩, .string ⟨#[33, 94]⟩]) (.int .i64 i)).run Tryd.prog w = .ok (.string (AQ.ops.getD i ⟨#[]⟩)) w :=
  match i, hi with
  | 0, _ => by kernel_rfl
  | 1, _ => by kernel_rfl
  | 2, _ => by kernel_rfl
  | 3, _ => by kernel_rfl

theorem opFrom_step (l : List AQ.Tok) (i : Nat) (hi : i < 4) : AQ.opFrom l (AQ.ops.drop i) i = if AQ.has (AQ.ops.getD i ⟨#[]⟩) l then .ok i l.tail else AQ.opFrom l (AQ.ops.drop (i + 1)) ((i + 1 : Nat) : Int) :=
  match i, hi with
  | 0, _ => rfl
  | 1, _ => rfl
  | 2, _ => rfl
  | 3, _ => rfl

theorem ops_ne (i : Nat) (hi : i < 4) : AQ.ops.getD i ⟨#[]⟩ ≠ ⟨#[]⟩ :=
  match i, hi with
  | 0, _ => by decide
  | 1, _ => by decide
  | 2, _ => by decide
  | 3, _ => by decide

set_option maxRecDepth 100000 in
theorem pop_any {bt : Nat} (bp : Nat) (l : List AQ.Tok) (w : World) (h : Pr w bp bt l) :
    Calls Tryd.prog 135 #[.pointer (some ⟨bp, 0, none⟩)] w fun e w' => PEnd VI w w' bp bt e (AQ.opR l) := by
  have HP := hid h
  have o0 := h.gl.ops 0 (by decide)
  have o1 := h.gl.ops 1 (by decide)
  have o2 := h.gl.ops 2 (by decide)
  have o3 := h.gl.ops 3 (by decide)
  simp only [AQ.ops, List.getD_cons_zero, List.getD_cons_succ] at o0 o1 o2 o3
  have hF2 := tokF2 (AQ.hd l).kind (AQ.hd l).place (AQ.hd l).said
  clear h
  go_enter Tryd.func135, Tryd.ntmps135
  go_wp2_with fail
  go_loopw [6, 3, 4] (fun ti _ _ wr => ∃ i : Nat, i ≤ 4 ∧ ti = .int .i64 i ∧ Pr wr bp bt l ∧ Own1 bp w wr ∧ AQ.opR l = AQ.opFrom l (AQ.ops.drop i) i) (fun ti _ _ _ => 4 - (intOf ti).toNat)
  case atStart => exact ⟨0, by omega, rfl, HP.out, Own1.refl _ _, rfl⟩
  case round =>
    obtain ⟨i, hi, rfl, hp, ho, heq⟩ := hrel
    have HPi := hid hp
    have HOi := hid ho
    have HEq := hid heq
    clear hp ho heq HP
    by_cases hlt : i < 4
    · have hix := ops_ix i hlt
      have HSt := hid (opFrom_step l i hlt)
      have HTk := hid (take_any bp l (AQ.ops.getD i ⟨#[]⟩) (ops_ne i hlt) wr HPi.out)
      have hil : 0 ≤ (i : Int) ∧ (i : Int) < 4 := by omega
      generalize AQ.ops.getD i ⟨#[]⟩ = ox at *
      go_wp2_with fail
      refine HTk.out.mono ?_
      rintro e w2 ⟨rfl, hj2, ho2⟩
      have HO2 := hid (HOi.out.trans ho2)
      rcases hs : AQ.has ox l with _ | _
      · have HR := hid (show AQ.opR l = AQ.opFrom l (AQ.ops.drop (i + 1)) ((i + 1 : Nat) : Int) by rw [HEq.out, HSt.out, hs]; rfl)
        have HJ2 := hid (show Pr w2 bp bt l by unfold tookL at hj2; rw [hs] at hj2; exact hj2)
        clear hs hj2 ho2 HTk
        go_wp2_with fail
        go_roundw
        case rel => exact ⟨i + 1, by omega, by go_num, HJ2.out, HO2.out, HR.out⟩
        case measure => simp [intOf]; omega
      · have HR := hid (show AQ.opR l = .ok i l.tail by rw [HEq.out, HSt.out, hs]; rfl)
        have HJ2 := hid (show Pr w2 bp bt l.tail by unfold tookL at hj2; rw [hs] at hj2; exact hj2)
        clear hs hj2 ho2 HTk
        go_wp2_with fail
        go_ret
        exact PEnd.mkOk HR.out rfl HJ2.out HO2.out
    · have he : i = 4 := by omega
      have HR := hid (show AQ.opR l = .bad 3 (AQ.hd l).place by rw [HEq.out, he]; rfl)
      have hil : ¬ (i : Int) < 4 := by omega
      clear he
      go_wp2_with fail
      refine (here_any bp l wr HPi.out).mono ?_
      rintro e w2 ⟨rfl, hb2⟩
      have HO2 := hid (HOi.out.trans (Own1.of (br := bp) hb2))
      clear hb2
      go_wp2_with fail
      refine (wrong_any 3 (AQ.hd l).place w2).mono ?_
      rintro e w3 ⟨rfl, rfl⟩
      go_wp2_with fail
      exact ⟨rfl, PEnd.mkBad HR.out ⟨_, rfl, heap_alloc_new w2 _, HO2.out.trans (Own1.of ((Below.refl _ w2).alloc (Nat.le_refl _) _))⟩⟩

end Go.Proofs.YtdmnlmohfaafoaeDoor
