/- How a disk lies in memory: a map by names, of pointers to files, each with a row of bytes of its own. Names no function. -/
import Derived.Test.YtdmnlmohfaafoadDoorDkMap
import Derived.Test.YtdmnlmohfaafoadDoorDkNum
namespace Go.Proofs.YtdmnlmohfaafoadDoor
open Go.Maps Go.RowKit

/-- All that was there is as it was, but for the blocks X. -/
structure XFr (X : Nat → Prop) (w w' : World) : Prop where
  os : w'.os = w.os
  tape : w'.tape = w.tape
  output : w'.output = w.output
  size : w.heap.size ≤ w'.heap.size
  block : ∀ j, j < w.heap.size → ¬ X j → w'.heap[j]? = w.heap[j]?

section
variable {X : Nat → Prop} {a b c w w' : World}

theorem XFr.refl (X : Nat → Prop) (w : World) : XFr X w w := ⟨rfl, rfl, rfl, Nat.le_refl _, fun _ _ _ => rfl⟩

theorem XFr.trans {X' : Nat → Prop} (h : XFr X a b) (k : XFr X' b c) (hx : ∀ j, X' j → X j ∨ a.heap.size ≤ j) : XFr X a c :=
  ⟨k.os.trans h.os, k.tape.trans h.tape, k.output.trans h.output, Nat.le_trans h.size k.size, fun j hj hn => (k.block j (Nat.lt_of_lt_of_le hj h.size) (fun h' => (hx j h').elim hn (by omega))).trans (h.block j hj hn)⟩

theorem XFr.below (h : Below w.heap.size w w') : XFr X w w' := ⟨h.os, h.tape, h.output, h.size, fun j hj _ => h.block j hj⟩

theorem XFr.grown {row : Option Nat} (h : w.grownBy w' row) (hr : ∀ j, row = some j → X j ∨ w.heap.size ≤ j) : XFr X w w' :=
  ⟨h.os, h.tape, h.output, h.size, fun j hj hn => h.block j hj (fun e => (hr j e.symm).elim hn (by omega))⟩

theorem XFr.setCell (w : World) (p : Addr) (u : Value) (hx : X p.block) : XFr X w (w.setCell p u) :=
  ⟨rfl, rfl, rfl, by simp, fun j _ hn => Below.heap_setCell w p u j (fun e => hn (e ▸ hx))⟩

theorem XFr.alloc (X : Nat → Prop) (w : World) (o : Obj) : XFr X w (w.alloc o) := XFr.below ((Below.refl _ _).alloc (Nat.le_refl _) o)

theorem XFr.drewN (h : XFr X a w) (n : Nat) : XFr X a (w.drewN n) := ⟨h.os, h.tape, h.output, h.size, h.block⟩

theorem XFr.mono {X' : Nat → Prop} (h : XFr X a w) (hx : ∀ j, X j → X' j) : XFr X' a w := ⟨h.os, h.tape, h.output, h.size, fun j hj hn => h.block j hj (fun e => hn (hx j e))⟩

/-- What lies below B stays, if X lies from B on. -/
theorem XFr.toBelow {B : Nat} (h : XFr X w w') (hx : ∀ j, X j → B ≤ j) (hB : B ≤ w.heap.size) : Below B w w' :=
  ⟨h.os, h.tape, h.output, h.size, fun j hj => h.block j (Nat.lt_of_lt_of_le hj hB) (fun e => by have := hx j e; omega)⟩

end

/-- A row of bytes. -/
abbrev RowB (w : World) (v : Value) (b : ByteArray) : Prop := w.ownsRow 0 5 1 v b.size (Lib.strCells b)

theorem RowB.at {w : World} {v : Value} {b : ByteArray} (h : RowB w v b) {g : Nat} (hg : v.ownBlock = some g) : ∃ cur, w.heap[g]? = some (.cells cur 5) := by
  rcases h.2 with ⟨rfl, _⟩ | ⟨g', cap, cur, rfl, _, hc, _⟩
  · cases hg
  · have e : g' = g := Option.some.inj hg
    subst e
    exact ⟨cur, hc⟩

theorem RowB.shape {w : World} {v : Value} {b : ByteArray} (h : RowB w v b) : ∃ ao cap, v = .slice ao b.size cap ∧ b.size ≤ cap := by
  rcases h.2 with ⟨h0, hz⟩ | ⟨g, cap, cur, h0, _, _, h2, _⟩
  · exact ⟨none, 0, by rw [h0, hz], by omega⟩
  · exact ⟨_, cap, h0, h2⟩

theorem RowB.block {w w' : World} {v : Value} {b : ByteArray} (h : RowB w v b) (hk : ∀ g, v.ownBlock = some g → w'.heap[g]? = w.heap[g]?) : RowB w' v b := by
  refine ⟨h.1, ?_⟩
  rcases h.2 with h0 | ⟨g, cap, cur, rfl, h1, hc, h2⟩
  · exact .inl h0
  · exact .inr ⟨g, cap, cur, rfl, h1, (hk g rfl).trans hc, h2⟩

/-- Its bytes as a text. -/
theorem RowB.text {P : Program} {w : World} {v : Value} {b : ByteArray} (h : RowB w v b) {src dst : TypeId} (hs : P.underlying src = some (.slice 5)) (he : P.underlying 5 = some (.int .u8)) (hd : P.underlying dst = some .string) :
    (convert src dst v).run P w = .ok (.string b) w := by
  have hl : b.data.toList.length = b.size := by rw [Array.length_toList]; rfl
  have h0 := h
  rcases h.2 with ⟨rfl, hz⟩ | ⟨g, cap, cur, rfl, h1, hc, h2, h3, h4, h5⟩
  · have e : b = ByteArray.empty := by
      cases b with | mk d => 
      have : d.size = 0 := hz
      have : d = #[] := Array.eq_empty_of_size_eq_zero this
      rw [this]; rfl
    subst e
    rw [run_convert_bytes_string w src dst 5 none 0 0 hs he hd]
    simp [Conv.bytesToString]
  · have := run_convert_bytes_back (P := P) w src dst 5 ⟨g, 0, none⟩ cap b.data.toList hs he hd (fun j hj => by
      have hc1 := h0.cells (g := g) rfl j (.int .u8 (b.data.toList[j].toNat : Int)) (by
        unfold Lib.strCells
        rw [List.getElem?_map, List.getElem?_eq_getElem hj]; rfl)
      exact hc1)
    rw [hl] at this
    rw [this]

/-- A text at a row's end. -/
theorem RowB.append {P : Program} {w : World} {v : Value} {b : ByteArray} (h : RowB w v b) {t u : TypeId} (ty : TypeId) {i : TypeInfo} (ht : P.underlying t = some (.slice 5)) (hu : P.underlying u = some .string) (hi : P.info? 5 = some i) (hz : i.zero = some (.int .u8 0)) (hsize : i.size = 1) (hby : i.bytes = 1)
    (s : ByteArray) (hb : b.size + s.size ≤ 140737488355328) :
    ∃ v' w', (Builtin.append_ #[t, u] ty #[v, .string s]).run P w = .ok v' w' ∧ RowB w' v' (b ++ s) ∧ w.grownBy w' v.ownBlock ∧ (v'.ownBlock = v.ownBlock ∨ v'.ownBlock = some w.heap.size) := by
  have h63 : b.size + s.size ≤ maxLen := by unfold maxLen; omega
  obtain ⟨v', w', hrun, hown, hg, hnil⟩ := Lib.run_append_own_string (P := P) w 0 t u ty 5 i ht hu hi hz hsize hby v b.size (Lib.strCells b) h s h63 hb (Nat.zero_le _)
  have hown' : RowB w' v' (b ++ s) := by
    show World.ownsRow _ _ _ _ _ _ _
    rw [ByteArray.size_append]
    have e : Lib.strCells (b ++ s) = Lib.strCells b ++ Lib.strCells s := by
      unfold Lib.strCells
      rw [← List.map_append]
      congr 1
    rw [e]; exact hown
  refine ⟨v', w', hrun, hown', hg, ?_⟩
  rcases h.2 with ⟨rfl, h0⟩ | ⟨g, cap, cur, rfl, h1, hc, h2, h3, h4, h5⟩
  · by_cases hs : s.size = 0
    · exact .inl (by rw [hnil.2 ⟨rfl, hs⟩])
    · have hr := run_append_nil_string (P := P) w t u ty 5 i (.int .u8 0) ht hu hi hz s (by omega) (by omega) (by rw [hby]; omega)
      rw [hr] at hrun
      cases hrun
      exact .inr rfl
  · by_cases hroom : b.size + s.size ≤ cap
    · have hr := Lib.run_append_room_string (P := P) w t u ty 5 i ht hu hi hsize g b.size cap cur hc s hroom (by omega)
      rw [hr] at hrun
      cases hrun
      exact .inl rfl
    · have hr := Lib.run_append_grow_string (P := P) w t u ty 5 i (.int .u8 0) ht hu hi hz ⟨g, 0, none⟩ b.size cap (Lib.strCells b) (by rw [hsize, Lib.strCells_length]; omega) (h.cells (g := g) rfl) s (by omega) (by omega) (by rw [hby]; exact growslice_fits (by omega) (by omega))
      rw [hr] at hrun
      cases hrun
      exact .inr rfl

/-- A map's values: pointers to files. -/
abbrev pF (fp : ByteArray → Option Nat) : ByteArray → Option Value := fun n => (fp n).map fun p => Value.pointer (some ⟨p, 0, none⟩)

def putN (fp : ByteArray → Option Nat) (n : ByteArray) (p : Nat) : ByteArray → Option Nat := fun m => if m = n then some p else fp m
def cutN (fp : ByteArray → Option Nat) (n : ByteArray) : ByteArray → Option Nat := fun m => if m = n then none else fp m
def putV (fv : ByteArray → Value) (n : ByteArray) (v : Value) : ByteArray → Value := fun m => if m = n then v else fv m

theorem putN_same (fp : ByteArray → Option Nat) (n : ByteArray) (p : Nat) : putN fp n p n = some p := by unfold putN; rw [if_pos rfl]
theorem putN_other (fp : ByteArray → Option Nat) (n m : ByteArray) (p : Nat) (h : m ≠ n) : putN fp n p m = fp m := by unfold putN; rw [if_neg h]
theorem cutN_same (fp : ByteArray → Option Nat) (n : ByteArray) : cutN fp n n = none := by unfold cutN; rw [if_pos rfl]
theorem cutN_other (fp : ByteArray → Option Nat) (n m : ByteArray) (h : m ≠ n) : cutN fp n m = fp m := by unfold cutN; rw [if_neg h]
theorem putV_same (fv : ByteArray → Value) (n : ByteArray) (v : Value) : putV fv n v n = v := by unfold putV; rw [if_pos rfl]
theorem putV_other (fv : ByteArray → Value) (n m : ByteArray) (v : Value) (h : m ≠ n) : putV fv n v m = fv m := by unfold putV; rw [if_neg h]

theorem pF_put (fp : ByteArray → Option Nat) (n : ByteArray) (p : Nat) : pF (putN fp n p) = upd (pF fp) n (.pointer (some ⟨p, 0, none⟩)) := by
  funext m
  unfold pF putN upd
  by_cases h : m = n
  · rw [if_pos h, if_pos h]; rfl
  · rw [if_neg h, if_neg h]

theorem pF_cut (fp : ByteArray → Option Nat) (n : ByteArray) : pF (cutN fp n) = cutF (pF fp) n := by
  funext m
  unfold pF cutN cutF
  by_cases h : m = n
  · rw [if_pos h, if_pos h]; rfl
  · rw [if_neg h, if_neg h]

/-- The files: fp their blocks by names, fv the rows of their bytes. -/
structure Files (w : World) (X : Nat → Prop) (D : DK.M) (fp : ByteArray → Option Nat) (fv : ByteArray → Value) : Prop where
  no : ∀ n, fp n = none ↔ D n = none
  inj : ∀ n n' p, fp n = some p → fp n' = some p → n = n'
  body : ∀ n p f, fp n = some p → D n = some f → X p ∧ w.heap[p]? = some (.cells #[fv n, .int .i64 f.s, .bool f.k] 88) ∧ RowB w (fv n) f.b ∧ ∀ g, (fv n).ownBlock = some g → X g
  sep : ∀ n n' g, fp n ≠ none → fp n' ≠ none → (fv n).ownBlock = some g → (fv n').ownBlock = some g → n = n'

/-- A disk in block bd. -/
structure DkI (P : Program) (w : World) (X : Nat → Prop) (bd cnt : Nat) (D : DK.M) (p : Int) (mo : Option Nat) (fp : ByteArray → Option Nat) (fv : ByteArray → Value) (e : Bool) (l : Int) : Prop where
  xd : X bd
  dsk : w.heap[bd]? = some (.cells #[.map mo, .bool e, .int .i64 l] 26)
  pw : (e = true ∧ l = p ∧ 0 ≤ p ∧ p ≤ 9223372036854775807) ∨ (e = false ∧ p = -1)
  map : ∀ bm, mo = some bm → X bm ∧ MapF P 9 w bm cnt (pF fp)
  nomap : mo = none → ∀ n, fp n = none
  files : Files w X D fp fv

section
variable {P : Program} {w w' : World} {X : Nat → Prop} {bd cnt : Nat} {D : DK.M} {p : Int} {mo : Option Nat} {fp : ByteArray → Option Nat} {fv : ByteArray → Value} {e : Bool} {l : Int}

theorem Files.hasF (h : Files w X D fp fv) {n : ByteArray} {q : Nat} (hq : fp n = some q) : ∃ f, D n = some f := by
  cases hd : D n with
  | none => rw [(h.no n).2 hd] at hq; cases hq
  | some f => exact ⟨f, rfl⟩

theorem Files.hasP (h : Files w X D fp fv) {n : ByteArray} {f : DK.Fl} (hq : D n = some f) : ∃ q, fp n = some q := by
  cases hd : fp n with
  | none => rw [(h.no n).1 hd] at hq; cases hq
  | some f => exact ⟨f, rfl⟩

theorem Files.kept (h : Files w X D fp fv) (hg : ∀ j, X j → j < w.heap.size → w'.heap[j]? = w.heap[j]?) : Files w' X D fp fv where
  no := h.no
  inj := h.inj
  body := fun n q f h1 h2 => by
    obtain ⟨b1, b2, b3, b4⟩ := h.body n q f h1 h2
    refine ⟨b1, (hg q b1 (heap_lt b2)).trans b2, b3.block (fun g hgg => ?_), b4⟩
    obtain ⟨cur, hc⟩ := b3.at hgg
    exact hg g (b4 g hgg) (heap_lt hc)
  sep := h.sep

/-- Only one block is turned, and it is no file's and no row's. -/
theorem Files.but (h : Files w X D fp fv) {b : Nat} {o : Obj} (hb : w.heap[b]? = some o) (ho1 : ∀ c, o ≠ .cells c 88) (ho2 : ∀ c, o ≠ .cells c 5) (hg : ∀ j, X j → j < w.heap.size → j ≠ b → w'.heap[j]? = w.heap[j]?) : Files w' X D fp fv where
  no := h.no
  inj := h.inj
  body := fun n q f h1 h2 => by
    obtain ⟨b1, b2, b3, b4⟩ := h.body n q f h1 h2
    have hne : q ≠ b := fun e => by subst e; rw [hb] at b2; exact ho1 _ (Option.some.inj b2)
    refine ⟨b1, (hg q b1 (heap_lt b2) hne).trans b2, b3.block (fun g hgg => ?_), b4⟩
    obtain ⟨cur, hc⟩ := b3.at hgg
    have hne2 : g ≠ b := fun e => by subst e; rw [hb] at hc; exact ho2 _ (Option.some.inj hc)
    exact hg g (b4 g hgg) (heap_lt hc) hne2
  sep := h.sep

theorem Files.grow (h : Files w X D fp fv) {X' : Nat → Prop} (hx : ∀ j, X j → X' j) : Files w X' D fp fv where
  no := h.no
  inj := h.inj
  body := fun n q f h1 h2 => by
    obtain ⟨b1, b2, b3, b4⟩ := h.body n q f h1 h2
    exact ⟨hx _ b1, b2, b3, fun g hgg => hx _ (b4 g hgg)⟩
  sep := h.sep

/-- One file is another one: its block q and its row may be turned, and no other. -/
theorem Files.set (h : Files w X D fp fv) {n : ByteArray} {q : Nat} (hq : fp n = some q) {f' : DK.Fl} {v' : Value}
    (hg : ∀ j, X j → j < w.heap.size → j ≠ q → (fv n).ownBlock ≠ some j → w'.heap[j]? = w.heap[j]?)
    (hb : w'.heap[q]? = some (.cells #[v', .int .i64 f'.s, .bool f'.k] 88)) (hr : RowB w' v' f'.b) (hv : ∀ g, v'.ownBlock = some g → (fv n).ownBlock = some g ∨ w.heap.size ≤ g) :
    Files w' (fun j => X j ∨ w.heap.size ≤ j) (DK.put D n f') fp (putV fv n v') := by
  obtain ⟨f0, hf0⟩ := h.hasF hq
  obtain ⟨a1, a2, a3, a4⟩ := h.body n q f0 hq hf0
  refine { no := ?_, inj := h.inj, body := ?_, sep := ?_ }
  · intro m
    by_cases e : m = n
    · subst e
      rw [DK.put_same, hq]; simp
    · rw [DK.put_other _ _ _ _ e]; exact h.no m
  · intro m q' f h1 h2
    by_cases e : m = n
    · subst e
      rw [DK.put_same] at h2
      cases h2
      have : q' = q := Option.some.inj (h1.symm.trans hq)
      subst this
      rw [putV_same]
      refine ⟨.inl a1, hb, hr, fun g hgg => ?_⟩
      rcases hv g hgg with h5 | h5
      · exact .inl (a4 g h5)
      · exact .inr h5
    · rw [DK.put_other _ _ _ _ e] at h2
      rw [putV_other _ _ _ _ e]
      obtain ⟨b1, b2, b3, b4⟩ := h.body m q' f h1 h2
      have hne : q' ≠ q := fun e2 => by subst e2; exact e (h.inj m n q' h1 hq)
      have hne2 : (fv n).ownBlock ≠ some q' := fun e2 => by
        obtain ⟨cur, hc⟩ := a3.at e2
        rw [b2] at hc
        simp at hc
      refine ⟨.inl b1, (hg q' b1 (heap_lt b2) hne hne2).trans b2, b3.block (fun g hgg => ?_), fun g hgg => .inl (b4 g hgg)⟩
      obtain ⟨cur, hc⟩ := b3.at hgg
      refine hg g (b4 g hgg) (heap_lt hc) (fun e2 => ?_) (fun e2 => ?_)
      · subst e2; rw [a2] at hc; simp at hc
      · exact e (h.sep m n g (by rw [h1]; simp) (by rw [hq]; simp) hgg e2)
  · have hold : ∀ m g, fp m ≠ none → (fv m).ownBlock = some g → g < w.heap.size := by
      intro m g hm hgg
      cases hm' : fp m with
      | none => exact absurd hm' hm
      | some q' =>
        obtain ⟨f, hf⟩ := h.hasF hm'
        obtain ⟨b1, b2, b3, b4⟩ := h.body m q' f hm' hf
        obtain ⟨cur, hc⟩ := b3.at hgg
        exact heap_lt hc
    intro m m' g hm hm' h1 h2
    by_cases e : m = n
    · by_cases e' : m' = n
      · rw [e, e']
      · rw [e, putV_same] at h1
        rw [putV_other _ _ _ _ e'] at h2
        rcases hv g h1 with h5 | h5
        · rw [e]; exact h.sep n m' g (by rw [hq]; simp) hm' h5 h2
        · have := hold m' g hm' h2; omega
    · rw [putV_other _ _ _ _ e] at h1
      by_cases e' : m' = n
      · rw [e', putV_same] at h2
        rcases hv g h2 with h5 | h5
        · rw [e']; exact h.sep m n g hm (by rw [hq]; simp) h1 h5
        · have := hold m g hm h1; omega
      · rw [putV_other _ _ _ _ e'] at h2
        exact h.sep m m' g hm hm' h1 h2

/-- A new file, of which nothing is there yet. -/
theorem Files.born (h : Files w X D fp fv) {n : ByteArray} (hn : fp n = none) (hq : w'.heap[w.heap.size]? = some (.cells #[.slice none 0 0, .int .i64 0, .bool false] 88)) (hg : ∀ j, X j → j < w.heap.size → (∃ c, w.heap[j]? = some (.cells c 88)) ∨ (∃ c, w.heap[j]? = some (.cells c 5)) → w'.heap[j]? = w.heap[j]?) :
    Files w' (fun j => X j ∨ w.heap.size ≤ j) (DK.put D n DK.new) (putN fp n w.heap.size) (putV fv n (.slice none 0 0)) := by
  have hold : ∀ m q, fp m = some q → q < w.heap.size := by
    intro m q hm
    obtain ⟨f, hf⟩ := h.hasF hm
    exact heap_lt (h.body m q f hm hf).2.1
  refine { no := ?_, inj := ?_, body := ?_, sep := ?_ }
  · intro m
    by_cases e : m = n
    · subst e
      rw [DK.put_same, putN_same]; simp
    · rw [DK.put_other _ _ _ _ e, putN_other _ _ _ _ e]; exact h.no m
  · intro m m' q h1 h2
    by_cases e : m = n
    · by_cases e' : m' = n
      · rw [e, e']
      · rw [e, putN_same] at h1
        rw [putN_other _ _ _ _ e'] at h2
        have := hold m' q h2
        have := Option.some.inj h1
        omega
    · rw [putN_other _ _ _ _ e] at h1
      by_cases e' : m' = n
      · rw [e', putN_same] at h2
        have := hold m q h1
        have := Option.some.inj h2
        omega
      · rw [putN_other _ _ _ _ e'] at h2
        exact h.inj m m' q h1 h2
  · intro m q f h1 h2
    by_cases e : m = n
    · subst e
      rw [DK.put_same] at h2
      rw [putN_same] at h1
      cases h1
      cases h2
      rw [putV_same]
      exact ⟨.inr (Nat.le_refl _), hq, World.ownsRow_nil w' 0 5 1, fun g hgg => by cases hgg⟩
    · rw [DK.put_other _ _ _ _ e] at h2
      rw [putN_other _ _ _ _ e] at h1
      rw [putV_other _ _ _ _ e]
      obtain ⟨b1, b2, b3, b4⟩ := h.body m q f h1 h2
      refine ⟨.inl b1, (hg q b1 (heap_lt b2) (.inl ⟨_, b2⟩)).trans b2, b3.block (fun g hgg => ?_), fun g hgg => .inl (b4 g hgg)⟩
      obtain ⟨cur, hc⟩ := b3.at hgg
      exact hg g (b4 g hgg) (heap_lt hc) (.inr ⟨_, hc⟩)
  · intro m m' g hm hm' h1 h2
    by_cases e : m = n
    · rw [e, putV_same] at h1; cases h1
    · rw [putV_other _ _ _ _ e] at h1
      by_cases e' : m' = n
      · rw [e', putV_same] at h2; cases h2
      · rw [putV_other _ _ _ _ e'] at h2
        rw [putN_other _ _ _ _ e] at hm
        rw [putN_other _ _ _ _ e'] at hm'
        exact h.sep m m' g hm hm' h1 h2

/-- A file is gone. -/
theorem Files.cut (h : Files w X D fp fv) (n : ByteArray) : Files w X (DK.del D n) (cutN fp n) fv where
  no := fun m => by
    by_cases e : m = n
    · subst e
      rw [DK.del_same, cutN_same]; simp
    · rw [DK.del_other _ _ _ e, cutN_other _ _ _ e]; exact h.no m
  inj := fun m m' q h1 h2 => by
    by_cases e : m = n
    · subst e; rw [cutN_same] at h1; cases h1
    · by_cases e' : m' = n
      · subst e'; rw [cutN_same] at h2; cases h2
      · rw [cutN_other _ _ _ e] at h1
        rw [cutN_other _ _ _ e'] at h2
        exact h.inj m m' q h1 h2
  body := fun m q f h1 h2 => by
    by_cases e : m = n
    · subst e; rw [cutN_same] at h1; cases h1
    · rw [cutN_other _ _ _ e] at h1
      rw [DK.del_other _ _ _ e] at h2
      exact h.body m q f h1 h2
  sep := fun m m' g hm hm' h1 h2 => by
    have h' : ∀ x, cutN fp n x ≠ none → fp x ≠ none := fun x hx e => hx (by unfold cutN; rw [e]; exact ite_self none)
    exact h.sep m m' g (h' m hm) (h' m' hm') h1 h2

/-- A file is called otherwise. -/
theorem Files.move (h : Files w X D fp fv) {n to : ByteArray} {q : Nat} {f : DK.Fl} (hq : fp n = some q) (hf : D n = some f) :
    Files w X (DK.put (DK.del D n) to f) (putN (cutN fp n) to q) (putV fv to (fv n)) := by
  have hc := h.cut n
  have hfar : ∀ m, cutN fp n m ≠ none → m ≠ n ∧ fp m ≠ none := by
    intro m hm
    by_cases e : m = n
    · subst e; rw [cutN_same] at hm; exact absurd rfl hm
    · rw [cutN_other _ _ _ e] at hm; exact ⟨e, hm⟩
  refine { no := ?_, inj := ?_, body := ?_, sep := ?_ }
  · intro m
    by_cases e : m = to
    · subst e
      rw [DK.put_same, putN_same]; simp
    · rw [DK.put_other _ _ _ _ e, putN_other _ _ _ _ e]; exact hc.no m
  · intro m m' q' h1 h2
    by_cases e : m = to
    · by_cases e' : m' = to
      · rw [e, e']
      · rw [e, putN_same] at h1
        rw [putN_other _ _ _ _ e'] at h2
        have := Option.some.inj h1
        subst this
        obtain ⟨a1, a2⟩ := hfar m' (by rw [h2]; simp)
        rw [cutN_other _ _ _ a1] at h2
        exact absurd (h.inj m' n q h2 hq) a1
    · rw [putN_other _ _ _ _ e] at h1
      by_cases e' : m' = to
      · rw [e', putN_same] at h2
        have := Option.some.inj h2
        subst this
        obtain ⟨a1, a2⟩ := hfar m (by rw [h1]; simp)
        rw [cutN_other _ _ _ a1] at h1
        exact absurd (h.inj m n q h1 hq) a1
      · rw [putN_other _ _ _ _ e'] at h2
        exact hc.inj m m' q' h1 h2
  · intro m q' f' h1 h2
    by_cases e : m = to
    · rw [e, DK.put_same] at h2
      rw [e, putN_same] at h1
      cases h1
      cases h2
      rw [e, putV_same]
      exact h.body n q f hq hf
    · rw [DK.put_other _ _ _ _ e] at h2
      rw [putN_other _ _ _ _ e] at h1
      rw [putV_other _ _ _ _ e]
      exact hc.body m q' f' h1 h2
  · intro m m' g hm hm' h1 h2
    by_cases e : m = to
    · by_cases e' : m' = to
      · rw [e, e']
      · rw [e, putV_same] at h1
        rw [putV_other _ _ _ _ e'] at h2
        rw [putN_other _ _ _ _ e'] at hm'
        obtain ⟨a1, a2⟩ := hfar m' hm'
        exact absurd (h.sep m' n g a2 (by rw [hq]; simp) h2 h1) a1
    · rw [putV_other _ _ _ _ e] at h1
      rw [putN_other _ _ _ _ e] at hm
      obtain ⟨a1, a2⟩ := hfar m hm
      by_cases e' : m' = to
      · rw [e', putV_same] at h2
        exact absurd (h.sep m n g a2 (by rw [hq]; simp) h1 h2) a1
      · rw [putV_other _ _ _ _ e'] at h2
        rw [putN_other _ _ _ _ e'] at hm'
        exact h.sep m m' g a2 (hfar m' hm').2 h1 h2

/-- Nothing of it is turned. -/
theorem DkI.kept (h : DkI P w X bd cnt D p mo fp fv e l) (hg : ∀ j, X j → j < w.heap.size → w'.heap[j]? = w.heap[j]?) : DkI P w' X bd cnt D p mo fp fv e l where
  xd := h.xd
  dsk := (hg bd h.xd (heap_lt h.dsk)).trans h.dsk
  pw := h.pw
  map := fun bm hm => ⟨(h.map bm hm).1, (h.map bm hm).2.block (hg bm (h.map bm hm).1 (h.map bm hm).2.lt)⟩
  nomap := h.nomap
  files := h.files.kept hg

theorem DkI.below (h : DkI P w X bd cnt D p mo fp fv e l) (hb : Below w.heap.size w w') : DkI P w' X bd cnt D p mo fp fv e l := h.kept fun j _ hj => hb.block j hj

theorem DkI.lt (h : DkI P w X bd cnt D p mo fp fv e l) : bd < w.heap.size := heap_lt h.dsk

theorem DkI.mono (h : DkI P w X bd cnt D p mo fp fv e l) {cnt' : Nat} (hc : cnt ≤ cnt') : DkI P w X bd cnt' D p mo fp fv e l :=
  { h with map := fun bm hm => ⟨(h.map bm hm).1, (h.map bm hm).2.mono hc⟩ }

theorem DkI.c0 (h : DkI P w X bd cnt D p mo fp fv e l) : w.cell? ⟨bd, 0, none⟩ = some (.map mo) := by simp [World.cell?, h.dsk]
theorem DkI.c1 (h : DkI P w X bd cnt D p mo fp fv e l) : w.cell? ⟨bd, 1, none⟩ = some (.bool e) := by simp [World.cell?, h.dsk]
theorem DkI.c2 (h : DkI P w X bd cnt D p mo fp fv e l) : w.cell? ⟨bd, 2, none⟩ = some (.int .i64 l) := by simp [World.cell?, h.dsk]
theorem DkI.fr (h : DkI P w X bd cnt D p mo fp fv e l) (o : Nat) : w.frozen? ⟨bd, o, none⟩ = false := by simp [World.frozen?, h.dsk]

/-- The power, and perhaps the map's pointer, are others: the disk's own block is turned alone. -/
theorem DkI.power (h : DkI P w X bd cnt D p mo fp fv e l) {p' : Int} {e' : Bool} {l' : Int} (hd : w'.heap[bd]? = some (.cells #[.map mo, .bool e', .int .i64 l'] 26)) (hg : ∀ j, X j → j < w.heap.size → j ≠ bd → w'.heap[j]? = w.heap[j]?)
    (hp : (e' = true ∧ l' = p' ∧ 0 ≤ p' ∧ p' ≤ 9223372036854775807) ∨ (e' = false ∧ p' = -1)) : DkI P w' X bd cnt D p' mo fp fv e' l' where
  xd := h.xd
  dsk := hd
  pw := hp
  map := fun bm hm => by
    obtain ⟨m1, m2⟩ := h.map bm hm
    have hne : bm ≠ bd := fun e => by
      subst e
      obtain ⟨es, clock, hb⟩ := m2.isMap
      rw [h.dsk] at hb; cases hb
    exact ⟨m1, m2.block (hg bm m1 m2.lt hne)⟩
  nomap := h.nomap
  files := h.files.but h.dsk (by simp) (by simp) hg

/-- The map is another one: files that are there, called otherwise, or gone. -/
theorem DkI.remap (h : DkI P w X bd cnt D p mo fp fv e l) {bm cnt' : Nat} {D' : DK.M} {fp' : ByteArray → Option Nat} {fv' : ByteArray → Value} (hm : mo = some bm) (hg : w.grownBy w' (some bm)) (hM : MapF P 9 w' bm cnt' (pF fp')) (hF : Files w X D' fp' fv') : DkI P w' X bd cnt' D' p mo fp' fv' e l := by
  obtain ⟨m1, m2⟩ := h.map bm hm
  obtain ⟨es, clock, hb⟩ := m2.isMap
  have hne : bd ≠ bm := fun e => by
    subst e
    rw [h.dsk] at hb; cases hb
  refine { xd := h.xd, dsk := (hg.block bd h.lt (fun e => hne (Option.some.inj e))).trans h.dsk, pw := h.pw, map := ?_, nomap := ?_, files := ?_ }
  · intro bm' hm'
    have : bm' = bm := by rw [hm] at hm'; exact (Option.some.inj hm').symm
    subst this
    exact ⟨m1, hM⟩
  · intro h0; rw [hm] at h0; cases h0
  · exact hF.but hb (by simp) (by simp) fun j _ hj hjb => hg.block j hj (fun e => hjb (Option.some.inj e))

/-- One file is another one. -/
theorem DkI.set (h : DkI P w X bd cnt D p mo fp fv e l) {n : ByteArray} {q : Nat} (hq : fp n = some q) {f' : DK.Fl} {v' : Value} (_hsz : w.heap.size ≤ w'.heap.size)
    (hg : ∀ j, j < w.heap.size → j ≠ q → (fv n).ownBlock ≠ some j → w'.heap[j]? = w.heap[j]?)
    (hb : w'.heap[q]? = some (.cells #[v', .int .i64 f'.s, .bool f'.k] 88)) (hr : RowB w' v' f'.b) (hv : ∀ g, v'.ownBlock = some g → (fv n).ownBlock = some g ∨ w.heap.size ≤ g) :
    DkI P w' (fun j => X j ∨ w.heap.size ≤ j) bd cnt (DK.put D n f') p mo fp (putV fv n v') e l := by
  obtain ⟨f0, hf0⟩ := h.files.hasF hq
  obtain ⟨a1, a2, a3, a4⟩ := h.files.body n q f0 hq hf0
  have hkeep : ∀ (j : Nat) (o : Obj), w.heap[j]? = some o → (∀ c, o ≠ Obj.cells c 88) → (∀ c, o ≠ Obj.cells c 5) → w'.heap[j]? = w.heap[j]? := by
    intro j o hj ho1 ho2
    refine hg j (heap_lt hj) (fun e => ?_) (fun e => ?_)
    · subst e; rw [a2] at hj; exact ho1 _ (Option.some.inj hj).symm
    · obtain ⟨cur, hc⟩ := a3.at e
      rw [hc] at hj; exact ho2 _ (Option.some.inj hj).symm
  refine { xd := .inl h.xd, dsk := (hkeep bd _ h.dsk (by simp) (by simp)).trans h.dsk, pw := h.pw, map := ?_, nomap := h.nomap, files := h.files.set hq (fun j _ hj h1 h2 => hg j hj h1 h2) hb hr hv }
  intro bm hm
  obtain ⟨m1, m2⟩ := h.map bm hm
  obtain ⟨es, clock, hbm⟩ := m2.isMap
  exact ⟨.inl m1, m2.block (hkeep bm _ hbm (by simp) (by simp))⟩

/-- Its blocks are there. -/
theorem DkI.narrow (h : DkI P w X bd cnt D p mo fp fv e l) : DkI P w (fun j => X j ∧ j < w.heap.size) bd cnt D p mo fp fv e l where
  xd := ⟨h.xd, h.lt⟩
  dsk := h.dsk
  pw := h.pw
  map := fun bm hm => ⟨⟨(h.map bm hm).1, (h.map bm hm).2.lt⟩, (h.map bm hm).2⟩
  nomap := h.nomap
  files := {
    no := h.files.no
    inj := h.files.inj
    body := fun n q f h1 h2 => by
      obtain ⟨b1, b2, b3, b4⟩ := h.files.body n q f h1 h2
      refine ⟨⟨b1, heap_lt b2⟩, b2, b3, fun g hg => ⟨b4 g hg, ?_⟩⟩
      obtain ⟨cur, hc⟩ := b3.at hg
      exact heap_lt hc
    sep := h.files.sep }

end

end Go.Proofs.YtdmnlmohfaafoadDoor
