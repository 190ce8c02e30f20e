/- How samples lie in memory; what the document's in and Samples, and the law's sameSamples answer (for a program without package bits; made by mkmem.py). -/
import Derived.Test.YtdmnlmohfaafoaaRows
import Derived.Test.YtdmnlmohfaafoaaChNum
import Derived.WalkKit
import Derived.WalkSpells
import Derived.WalkLawsBesides
import Derived.Handy
import Derived.Laws.BitsAllLaws
import Derived.StillTailTactics
import Derived.BigQuiet
import Derived.Deep.Onto
import Derived.Laws.StructEq
namespace Go.Proofs.Ytdmnlmohfaafoaa
open Go.RowKit


theorem hid {p : Prop} (h : p) : Hid p := h

theorem ret_int {k : IntKind} {a b : Int} (h : a = b) : Ending.returned (.int k a) = .returned (.int k b) := by rw [h]

theorem ret_bool {a b : Bool} (h : a = b) : Ending.returned (.bool a) = .returned (.bool b) := by rw [h]

theorem W_wrap (n : Int) : IntKind.i64.wrap n = CL.W n := by rw [IntKind.wrap_i64]; unfold CL.W; omega

theorem W_wrap64 (n : Int) : wrap64 n = CL.W n := by unfold wrap64 CL.W; rfl

/-- The samples l lie from ao on. -/
def SRow (w : World) (ao : Option Addr) (l : List CL.Smp) : Prop :=
  ∀ i, i < l.length → ∃ b off, ao = some ⟨b, off, none⟩ ∧ w.cell? ⟨b, off + i * 2, none⟩ = some (.int .i64 (CL.at' l i).1) ∧ w.cell? ⟨b, off + i * 2 + 1, none⟩ = some (.int .i64 (CL.at' l i).2) ∧ b < w.heap.size

theorem SRow.below {w w' : World} {ao : Option Addr} {l : List CL.Smp} (h : SRow w ao l) (hb : Below w.heap.size w w') : SRow w' ao l := by
  intro i hi
  obtain ⟨b, off, h1, h2, h3, h4⟩ := h i hi
  exact ⟨b, off, h1, (hb.cell (p := ⟨b, _, none⟩) h4).trans h2, (hb.cell (p := ⟨b, _, none⟩) h4).trans h3, Nat.lt_of_lt_of_le h4 hb.size⟩

/-- The object behind a sample of one's own. -/
abbrev boxS (a b : Int) : Obj := .cells #[.int .i64 a, .int .i64 b] 29

/-- w' is w, but for block B, and what is new. -/
structure Ext (B : Nat) (w w' : World) : Prop where
  os : w'.os = w.os
  tape : w'.tape = w.tape
  output : w'.output = w.output
  size : w.heap.size ≤ w'.heap.size
  block : ∀ k, k < w.heap.size → k ≠ B → w'.heap[k]? = w.heap[k]?

theorem Ext.below {B C : Nat} {w w' : World} (h : Ext B w w') (hC : C ≤ B) (hs : C ≤ w.heap.size) : Below C w w' :=
  ⟨h.os, h.tape, h.output, h.size, fun k hk => h.block k (by omega) (by omega)⟩

theorem Ext.of_alloc {B : Nat} (w : World) (o : Obj) : Ext B w (w.alloc o) :=
  ⟨rfl, rfl, rfl, by simp, fun k hk _ => Below.heap_alloc w o k hk⟩

theorem Ext.setOwn {B : Nat} {a w : World} (h : Ext B a w) (o : Nat) (u : Value) : Ext B a (w.setCell ⟨B, o, none⟩ u) :=
  ⟨h.os, h.tape, h.output, by simpa using h.size, fun k hk hB => (Below.heap_setCell w ⟨B, o, none⟩ u k hB).trans (h.block k hk hB)⟩

theorem Ext.refl (B : Nat) (w : World) : Ext B w w := ⟨rfl, rfl, rfl, Nat.le_refl _, fun _ _ _ => rfl⟩

theorem Ext.alloc {B : Nat} {a w : World} (h : Ext B a w) (o : Obj) : Ext B a (w.alloc o) :=
  ⟨h.os, h.tape, h.output, by simp; exact Nat.le_succ_of_le h.size, fun k hk hB => (Below.heap_alloc w o k (Nat.lt_of_lt_of_le hk h.size)).trans (h.block k hk hB)⟩

theorem Ext.drew {B : Nat} {a w : World} (h : Ext B a w) : Ext B a w.drew := ⟨h.os, h.tape, h.output, h.size, h.block⟩

theorem ownsRow_kept_all' {base : Nat} {e : TypeId} {size : Nat} {v : Value} {n : Nat} {xs : List Value} {w w' : World} (h : w.ownsRow base e size v n xs) (hb : ∀ k, v.ownBlock = some k → w'.heap[k]? = w.heap[k]?) : w'.ownsRow base e size v n xs := by
  obtain ⟨h1, h2⟩ := h
  refine ⟨h1, ?_⟩
  rcases h2 with h2 | ⟨g, cap, cur, rfl, hg, hh, r⟩
  · exact .inl h2
  · refine .inr ⟨g, cap, cur, rfl, hg, ?_, r⟩
    rw [hb g rfl]; exact hh

theorem Ext.of_below {T : Nat} {w w' : World} (h : Below w.heap.size w w') : Ext T w w' := ⟨h.os, h.tape, h.output, h.size, fun k hk _ => h.block k hk⟩

/-- A sample of one's own in block X. -/
def BoxS (X : Nat) (w : World) (s : CL.Smp) : Prop := w.heap[X]? = some (boxS s.1 s.2)

theorem heap_lt {w : World} {k : Nat} {o : Obj} (h : w.heap[k]? = some o) : k < w.heap.size := by
  rcases Nat.lt_or_ge k w.heap.size with h' | h'
  · exact h'
  · rw [Array.getElem?_eq_none h'] at h; cases h

theorem BoxS.new (w : World) (s : CL.Smp) : BoxS w.heap.size (w.alloc (boxS s.1 s.2)) s := heap_alloc_new w _

theorem BoxS.kept {X : Nat} {w w' : World} {s : CL.Smp} (h : BoxS X w s) (hf : Below w.heap.size w w') : BoxS X w' s := (hf.block X (heap_lt h)).trans h

theorem BoxS.cells {X : Nat} {w : World} {s : CL.Smp} (h : BoxS X w s) : w.cell? ⟨X, 0, none⟩ = some (.int .i64 s.1) ∧ w.cell? ⟨X, 1, none⟩ = some (.int .i64 s.2) := by
  unfold BoxS at h
  constructor <;> simp only [World.cell?, h] <;> rfl

/-- The cells of samples. -/
def sv (l : List CL.Smp) : List Value := l.flatMap fun s => [.int .i64 s.1, .int .i64 s.2]

theorem sv_append (a b : List CL.Smp) : sv (a ++ b) = sv a ++ sv b := by simp [sv]

theorem sv_length (l : List CL.Smp) : (sv l).length = l.length * 2 := by
  induction l with
  | nil => rfl
  | cons s l ih => simp only [sv, List.flatMap_cons, List.length_append, List.length_cons, List.length_nil] at ih ⊢; omega

theorem sv_get (l : List CL.Smp) : ∀ i, i < l.length → (sv l)[i * 2]? = some (.int .i64 (CL.at' l i).1) ∧ (sv l)[i * 2 + 1]? = some (.int .i64 (CL.at' l i).2) := by
  induction l with
  | nil => intro i hi; simp at hi
  | cons s l ih =>
    intro i hi
    match i with
    | 0 => exact ⟨rfl, rfl⟩
    | i + 1 =>
      obtain ⟨h1, h2⟩ := ih i (by simpa using hi)
      have e : sv (s :: l) = .int .i64 s.1 :: .int .i64 s.2 :: sv l := rfl
      have e1 : (i + 1) * 2 = i * 2 + 2 := by omega
      have e2 : CL.at' (s :: l) (i + 1) = CL.at' l i := rfl
      rw [e, e1, e2]
      exact ⟨h1, h2⟩

/-- A row of samples that was made, read as one that is there. -/
theorem SRow.of_own {w : World} {base : Nat} {v : Value} {l : List CL.Smp} (h : w.ownsRow base 29 2 v l.length (sv l)) : ∃ ao cap, v = .slice ao l.length cap ∧ SRow w ao l := by
  have hlt := h.lt
  have h0 := h
  obtain ⟨h1, h2⟩ := h
  rcases h2 with ⟨rfl, hn⟩ | ⟨g, cap, cur, rfl, hg, hh, r⟩
  · refine ⟨none, 0, by rw [hn], fun i hi => by omega⟩
  · refine ⟨some ⟨g, 0, none⟩, cap, rfl, fun i hi => ⟨g, 0, rfl, ?_, ?_, (hlt g rfl).2⟩⟩
    · rw [Nat.zero_add, h0.cellAt (i * 2) (by omega)]; exact (sv_get l i hi).1
    · rw [Nat.zero_add, h0.cellAt (i * 2 + 1) (by omega)]; exact (sv_get l i hi).2

theorem Try.info29 : (Try.prog.info? 29).map (fun i => (i.zero, i.size, i.bytes)) = some (some (.agg #[.int .i64 0, .int .i64 0]), 2, 16) := by kernel_rfl

theorem two_news (w : World) (a b : Value) (T : TypeId) : ∀ j u, [a, b][j]? = some u → (w.alloc (.cells #[a, b] T)).cell? ((⟨w.heap.size, 0, none⟩ : Addr).add j) = some u := by
  intro j u hj
  match j, hj with
  | 0, hj => simp at hj; subst hj; simp [Addr.add]
  | 1, hj => simp at hj; subst hj; simp [Addr.add]

theorem two_news' (w : World) (n : Nat) (hn : n = w.heap.size) (a b : Value) (T : TypeId) : ∀ j u, [a, b][j]? = some u → (w.alloc (.cells #[a, b] T)).cell? ((⟨n, 0, none⟩ : Addr).add j) = some u := by
  subst hn; exact two_news w a b T

theorem two_i64 (a b : Int) : ∀ u ∈ [Value.int .i64 a, Value.int .i64 b], u.oneCell' = true := by
  intro u hu
  simp at hu
  rcases hu with rfl | rfl <;> rfl

theorem Ext.trans {R : Nat} {a b c : World} (h : Ext R a b) (k : Ext R b c) : Ext R a c :=
  ⟨k.os.trans h.os, k.tape.trans h.tape, k.output.trans h.output, Nat.le_trans h.size k.size, fun i hi hR => (k.block i (Nat.lt_of_lt_of_le hi h.size) hR).trans (h.block i hi hR)⟩

theorem Ext.other {R T : Nat} {a b c : World} (h : Ext R a b) (k : Ext T b c) (hT : a.heap.size ≤ T) : Ext R a c :=
  ⟨k.os.trans h.os, k.tape.trans h.tape, k.output.trans h.output, Nat.le_trans h.size k.size, fun i hi hR => (k.block i (Nat.lt_of_lt_of_le hi h.size) (by omega)).trans (h.block i hi hR)⟩

theorem Ext.grown {R : Nat} {a b c : World} {row : Option Nat} (h : Ext R a b) (k : b.grownBy c row) (hr : ∀ i, row = some i → a.heap.size ≤ i) : Ext R a c :=
  ⟨k.os.trans h.os, k.tape.trans h.tape, k.output.trans h.output, Nat.le_trans h.size k.size, fun i hi hR => (k.block i (Nat.lt_of_lt_of_le hi h.size) (fun e => by have := hr i e.symm; omega)).trans (h.block i hi hR)⟩

/-- What stays where a row of one's own is appended to from a sample of one's own. -/
theorem push_keep {w4 w7 : World} {o1 o2 : Obj} {v : Value} {base n : Nat} {xs : List Value} (hown : w4.ownsRow base 29 2 v n xs) (hgrow : ((w4.alloc o1).alloc o2).grownBy w7 v.ownBlock) :
    (∀ k, k < w4.heap.size → v.ownBlock ≠ some k → w7.heap[k]? = w4.heap[k]?) ∧ w7.heap[w4.heap.size]? = some o1 ∧ w4.heap.size + 2 ≤ w7.heap.size := by
  have hs : ((w4.alloc o1).alloc o2).heap.size = w4.heap.size + 2 := by simp
  refine ⟨fun k hk hne => ?_, ?_, by have := hgrow.size; omega⟩
  · refine (hgrow.block k (by omega) (fun e => hne e.symm)).trans ?_
    exact (Below.heap_alloc _ _ k (by simp; omega)).trans (Below.heap_alloc _ _ k hk)
  · refine (hgrow.block w4.heap.size (by omega) (fun e => ?_)).trans ?_
    · have := (hown.lt _ e.symm).2; omega
    · exact (Below.heap_alloc _ _ _ (by simp)).trans (heap_alloc_new w4 o1)

theorem below_drewN {B : Nat} {a w : World} (h : Below B a w) (n : Nat) : Below B a (w.drewN n) := ⟨h.os, h.tape, h.output, h.size, h.block⟩

set_option maxHeartbeats 400000 in
theorem rin_any (n a b : Int) (w : World) :
    Calls Try.prog 10 #[.int .i64 n, .int .i64 a, .int .i64 b] w fun e w' => e = .returned (.bool (decide (a ≤ n ∧ n ≤ b))) ∧ w' = w := by
  by_cases h1 : a ≤ n
  · by_cases h2 : n ≤ b
    · rw [decide_eq_true ⟨h1, h2⟩]
      go_enter Try.func10, Try.ntmps10
      go_wp2
      go_ret
      exact ⟨rfl, rfl⟩
    · rw [decide_eq_false (fun h => h2 h.2)]
      go_enter Try.func10, Try.ntmps10
      go_wp2
      go_ret
      exact ⟨rfl, rfl⟩
  · rw [decide_eq_false (fun h => h1 h.1)]
    go_enter Try.func10, Try.ntmps10
    go_wp2
    go_ret
    exact ⟨rfl, rfl⟩

set_option maxRecDepth 100000 in
set_option maxHeartbeats 1600000 in
theorem rsamples_any (ao : Option Addr) (l : List CL.Smp) (cap : Nat) (w : World) (hS : SRow w ao l) (hl : l.length ≤ 140737488351232) :
    Calls Try.prog 4 #[.slice ao l.length cap] w fun e w' => e = .returned (.bool (CL.right l)) ∧ Below w.heap.size w w' := by
  have HS := hid hS
  clear hS
  generalize hB : CL.right l = B
  have HB := hid hB
  clear hB
  go_enter Try.func4, Try.ntmps4
  go_wp2
  go_loopw [7] (fun ti wr => ∃ i : Nat, i ≤ l.length ∧ ti = .int .i64 i ∧ (∀ j, j < i → CL.okAt l j = true) ∧ Below w.heap.size w wr) (fun ti _ => l.length - (intOf ti).toNat)
  case atStart => exact ⟨0, by omega, rfl, by omega, Below.refl _ _⟩
  case round =>
    obtain ⟨i, hi, rfl, hok, hbel⟩ := hrel
    have HO := hid hok
    have HBl := hid hbel
    have hsz := hbel.size
    clear hok hbel
    by_cases hlt : i < l.length
    · obtain ⟨b, off, hao, hc0, hc1, hbs⟩ := HS.out i hlt
      have hbx : Below wr.heap.size wr (wr.alloc (boxS (CL.at' l i).1 (CL.at' l i).2)) := (Below.refl _ _).alloc (Nat.le_refl _) _
      have d0 : (wr.alloc (boxS (CL.at' l i).1 (CL.at' l i).2)).cell? ⟨wr.heap.size, 0, none⟩ = some (.int .i64 (CL.at' l i).1) := by simp
      have HB1 := hid (HBl.out.alloc hsz (boxS (CL.at' l i).1 (CL.at' l i).2))
      have hp0 : i ≠ 0 → (wr.alloc (boxS (CL.at' l i).1 (CL.at' l i).2)).cell? ⟨b, off + (i - 1) * 2, none⟩ = some (.int .i64 (CL.at' l (i - 1)).1) := fun h0 => by
        obtain ⟨b', off', hao', hc0', hc1', hbs'⟩ := HS.out (i - 1) (by omega)
        rw [hao] at hao'
        simp only [Option.some.injEq, Addr.mk.injEq, and_true] at hao'
        obtain ⟨rfl, rfl⟩ := hao'
        exact (HB1.out.cell (p := ⟨b, _, none⟩) hbs').trans hc0'
      subst hao
      have hcell0 := (HBl.out.cell (p := ⟨b, off + i * 2, none⟩) hbs).trans hc0
      have hcell1 := (HBl.out.cell (p := ⟨b, off + i * 2 + 1, none⟩) hbs).trans hc1
      clear hc0 hc1 hbx
      have HOK := hid (CL.okAt_iff l i)
      generalize (CL.at' l i).1 = T at *
      generalize (CL.at' l i).2 = V at *
      have HN : CL.okAt l i = false → Hid (B = false) := fun h => by
        show _ = _
        rw [← HB.out]; exact CL.not_right l i hlt h
      by_cases hin : -1099511627776 ≤ T ∧ T ≤ 1099511627776
      · by_cases h0 : i = 0
        · have HT : Hid (CL.okAt l i = true) := by
            show _ = _
            rw [HOK.out]; exact ⟨hin, .inl h0⟩
          have hdin : decide (-1099511627776 ≤ T ∧ T ≤ 1099511627776) = true := decide_eq_true hin
          have hgt : decide (0 < i) = false := decide_eq_false (by omega)
          clear hp0 HN h0
          go_wp2_with fail
          generalize wr.alloc (.cells #[.int .i64 T, .int .i64 V] 29) = w1 at *
          go_quiet ((go_at_call 10; exact Calls.quiet_of_same (rin_any _ _ _ _)))
          go_wp2_with fail
          go_roundw
          case rel =>
            refine ⟨i + 1, by omega, by go_num, ?_, below_drewN HB1.out _⟩
            intro j hj
            by_cases he : j = i
            · subst he; exact HT.out
            · exact HO.out j (by omega)
          case measure => simp [intOf]; omega
        · have hp1 := hp0 h0
          have hgt : decide (0 < i) = true := decide_eq_true (by omega)
          have hix : ((i : Int) - 1).toNat = i - 1 := by omega
          have hi1 : 0 ≤ (i : Int) - 1 ∧ (i : Int) - 1 < (l.length : Int) := by omega
          have hdin : decide (-1099511627776 ≤ T ∧ T ≤ 1099511627776) = true := decide_eq_true hin
          generalize (CL.at' l (i - 1)).1 = Tp at *
          by_cases hle : T ≤ Tp
          · have HF := HN (by
              rw [← Bool.not_eq_true, HOK.out]
              rintro ⟨_, h | h⟩ <;> omega)
            clear hp0 HN
            go_wp2_with fail
            generalize wr.alloc (.cells #[.int .i64 T, .int .i64 V] 29) = w1 at *
            go_quiet ((go_at_call 10; exact Calls.quiet_of_same (rin_any _ _ _ _)))
            go_wp2_with fail
            go_ret
            exact ⟨ret_bool HF.out.symm, below_drewN HB1.out _⟩
          · have HT : Hid (CL.okAt l i = true) := by
              show _ = _
              rw [HOK.out]; exact ⟨hin, .inr (by omega)⟩
            clear hp0 HN
            go_wp2_with fail
            generalize wr.alloc (.cells #[.int .i64 T, .int .i64 V] 29) = w1 at *
            go_quiet ((go_at_call 10; exact Calls.quiet_of_same (rin_any _ _ _ _)))
            go_wp2_with fail
            go_roundw
            case rel =>
              refine ⟨i + 1, by omega, by go_num, ?_, below_drewN HB1.out _⟩
              intro j hj
              by_cases he : j = i
              · subst he; exact HT.out
              · exact HO.out j (by omega)
            case measure => simp [intOf]; omega
      · have HF := HN (by
          rw [← Bool.not_eq_true, HOK.out]
          rintro ⟨h, _⟩; exact hin h)
        have hdin : decide (-1099511627776 ≤ T ∧ T ≤ 1099511627776) = false := decide_eq_false hin
        clear hp0 HN
        go_wp2_with fail
        generalize wr.alloc (.cells #[.int .i64 T, .int .i64 V] 29) = w1 at *
        go_quiet ((go_at_call 10; exact Calls.quiet_of_same (rin_any _ _ _ _)))
        go_wp2_with fail
        go_ret
        exact ⟨ret_bool HF.out.symm, below_drewN HB1.out _⟩
    · have he : i = l.length := by omega
      have HF : Hid (decide (l.length ≤ 2000) = B) := by
        show _ = _
        rw [← HB.out]
        by_cases h : l.length ≤ 2000
        · rw [decide_eq_true h, CL.right_of l h (fun j hj => HO.out j (by omega))]
        · rw [decide_eq_false h, CL.not_right_len l (by omega)]
      by_cases h : (l.length : Int) ≤ 2000
      · go_wp2_with fail
        go_ret
        refine ⟨ret_bool ?_, HBl.out⟩
        rw [← HF.out]; simp; omega
      · go_wp2_with fail
        go_ret
        refine ⟨ret_bool ?_, HBl.out⟩
        rw [← HF.out]; simp; omega

/-- The sample i of a row that stands still. -/
theorem SRow.at {w wr : World} {b off : Nat} {l : List CL.Smp} (h : SRow w (some ⟨b, off, none⟩) l) (hb : Below w.heap.size w wr) (i : Nat) (hi : i < l.length) :
    wr.cell? ⟨b, off + i * 2, none⟩ = some (.int .i64 (CL.at' l i).1) ∧ wr.cell? ⟨b, off + i * 2 + 1, none⟩ = some (.int .i64 (CL.at' l i).2) := by
  obtain ⟨b', off', hao, hc0, hc1, hbs⟩ := h i hi
  simp only [Option.some.injEq, Addr.mk.injEq, and_true] at hao
  obtain ⟨rfl, rfl⟩ := hao
  exact ⟨(hb.cell (p := ⟨b, _, none⟩) hbs).trans hc0, (hb.cell (p := ⟨b, _, none⟩) hbs).trans hc1⟩

theorem own_form {w : World} {base n : Nat} {v : Value} {xs : List Value} (h : w.ownsRow base 29 2 v n xs) (hn : 0 < n) : ∃ g cap, v = .slice (some ⟨g, 0, none⟩) n cap ∧ n ≤ cap ∧ cap ≤ maxLen := by
  obtain ⟨_, hcase⟩ := h
  rcases hcase with ⟨_, h0⟩ | ⟨g, cap, cur, h, _, _, h1, h2, _⟩
  · omega
  · exact ⟨g, cap, h, h1, h2⟩

theorem below_drewN'L {B : Nat} {a w : World} (h : Below B a w) (n : Nat) : Below B a (w.drewN n) := ⟨h.os, h.tape, h.output, h.size, h.block⟩

theorem list_ne_atL (a b : List CL.Smp) (i : Nat) (h : CL.at' a i ≠ CL.at' b i) : decide (a = b) = false := by
  rw [decide_eq_false_iff_not]
  intro e; subst e; exact h rfl

theorem list_eq_atL (a b : List CL.Smp) (hl : a.length = b.length) (h : ∀ i, i < a.length → CL.at' a i = CL.at' b i) : decide (a = b) = true := by
  rw [decide_eq_true_iff]
  apply List.ext_getElem hl
  intro i h1 h2
  have := h i h1
  simpa [CL.at', h1, h2] using this

theorem neSL (a b c d : Int) (w : World) : (binOp .neq 29 (.agg #[.int .i64 a, .int .i64 b]) (.agg #[.int .i64 c, .int .i64 d])).run Try.prog w = .ok (.bool (!(a == c && b == d))) w := by
  rw [run_neq_struct, run_equalIn_struct w 9999 29 _ _ (by kernel_rfl) (by kernel_rfl)]
  have hp0 : ∀ w, (part 2 #[Value.int .i64 a, Value.int .i64 b] 0).run Try.prog w = .ok (.int .i64 a) w := fun w => by kernel_rfl
  have hp1 : ∀ w, (part 2 #[Value.int .i64 a, Value.int .i64 b] 1).run Try.prog w = .ok (.int .i64 b) w := fun w => by kernel_rfl
  have hq0 : ∀ w, (part 2 #[Value.int .i64 c, Value.int .i64 d] 0).run Try.prog w = .ok (.int .i64 c) w := fun w => by kernel_rfl
  have hq1 : ∀ w, (part 2 #[Value.int .i64 c, Value.int .i64 d] 1).run Try.prog w = .ok (.int .i64 d) w := fun w => by kernel_rfl
  have he : ∀ (x y : Int) w, (Op.equalIn 9999 2 (.int .i64 x) (.int .i64 y)).run Try.prog w = .ok (x == y) w := fun x y w => run_equalIn_int w 9998 2 .i64 .i64 x y Try.underlying2
  simp only [Program.fieldsOf, Try.underlying29, Op.eqFields, Sem.run_bind, Sem.run_ite, hp0, hp1, hq0, hq1, he, Result.andThen_ok, Sem.run_pure]
  by_cases h1 : a = c <;> by_cases h2 : b = d <;> simp [h1, h2]

theorem egSL (x y : Operand) (xs ys : Array Value) (w : World) : (eqGuard .neq 29 x y (.agg xs) (.agg ys)).run Try.prog w = .ok () w := run_eqGuard_agg w .neq 29 x y xs ys (by kernel_rfl)

set_option maxRecDepth 100000 in
set_option maxHeartbeats 1600000 in
theorem sameL_any (ao bo : Option Addr) (a b : List CL.Smp) (ca cb : Nat) (w : World) (hA : SRow w ao a) (hB : SRow w bo b) (hl : a.length ≤ 140737488351232) :
    Calls Try.prog 5 #[.slice ao a.length ca, .slice bo b.length cb] w fun e w' => e = .returned (.bool (decide (a = b))) ∧ Below w.heap.size w w' := by
  by_cases hne : a.length = b.length
  · have HA := hid hA
    have HB := hid hB
    have HL := hid hne
    have hLt : (a.length : Int) ≤ b.length ∧ (b.length : Int) ≤ a.length := by omega
    have hnb : ((a.length : Int) != (b.length : Int)) = false := by simp [hne]
    clear hA hB hne
    generalize hD : decide (a = b) = D
    have HD := hid hD
    clear hD
    go_enter Try.func5, Try.ntmps5
    go_wp2_with fail
    go_loopw [5] (fun ti wr => ∃ i : Nat, i ≤ a.length ∧ ti = .int .i64 i ∧ (∀ j, j < i → CL.at' a j = CL.at' b j) ∧ Below w.heap.size w wr) (fun ti _ => a.length - (intOf ti).toNat)
    case atStart => exact ⟨0, by omega, rfl, by omega, Below.refl _ _⟩
    case round =>
      obtain ⟨i, hi, rfl, heq, hbel⟩ := hrel
      have HE := hid heq
      have HBl := hid hbel
      clear heq hbel
      by_cases hlt : i < a.length
      · obtain ⟨b1, o1, e1, c0, c1, hb1⟩ := HA.out i hlt
        obtain ⟨b2, o2, e2, d0, d1, hb2⟩ := HB.out i (by rw [← HL.out]; exact hlt)
        subst e1 e2
        have c0 := (HBl.out.cell (p := ⟨b1, _, none⟩) hb1).trans c0
        have c1 := (HBl.out.cell (p := ⟨b1, _, none⟩) hb1).trans c1
        have d0 := (HBl.out.cell (p := ⟨b2, _, none⟩) hb2).trans d0
        have d1 := (HBl.out.cell (p := ⟨b2, _, none⟩) hb2).trans d1
        have HNE := hid (list_ne_atL a b i)
        have HQ : Hid (CL.at' a i = CL.at' b i → ∀ j, j < i + 1 → CL.at' a j = CL.at' b j) := fun h j hj => by
          by_cases he : j = i
          · subst he; exact h
          · exact HE.out j (by omega)
        generalize CL.at' a i = x at *
        generalize CL.at' b i = y at *
        have hi2 : (i : Int) < (b.length : Int) := by omega
        obtain ⟨x1, x2⟩ := x
        obtain ⟨y1, y2⟩ := y
        simp only at c0 c1 d0 d1
        have hgd := egSL
        by_cases hxy : x1 = y1 ∧ x2 = y2
        · have hne2 : ∀ w, (binOp .neq 29 (.agg #[.int .i64 x1, .int .i64 x2]) (.agg #[.int .i64 y1, .int .i64 y2])).run Try.prog w = .ok (.bool false) w := fun w => by
            rw [neSL]; simp [hxy.1, hxy.2]
          have HEi : Hid ((x1, x2) = (y1, y2)) := by show _ = _; rw [hxy.1, hxy.2]
          clear hxy
          go_wp2_with fail
          go_quiet (fail)
          go_wp2_with fail
          refine ⟨⟨i + 1, by omega, by go_num, HQ.out HEi.out, below_drewN'L HBl.out _⟩, ?_⟩
          simp [intOf]; omega
        · have hne2 : ∀ w, (binOp .neq 29 (.agg #[.int .i64 x1, .int .i64 x2]) (.agg #[.int .i64 y1, .int .i64 y2])).run Try.prog w = .ok (.bool true) w := fun w => by
            rw [neSL]
            by_cases h1 : x1 = y1 <;> by_cases h2 : x2 = y2 <;> simp_all
          have HF : Hid (D = false) := by
            show _ = _
            rw [← HD.out]
            refine HNE.out (fun e => hxy ?_)
            simpa using e
          clear hxy
          go_wp2_with fail
          go_quiet (fail)
          go_wp2_with fail
          go_ret
          exact ⟨ret_bool HF.out.symm, below_drewN'L HBl.out _⟩
      · have he : i = a.length := by omega
        have HT : Hid (D = true) := by
          show _ = _
          rw [← HD.out]
          exact list_eq_atL a b HL.out (fun j hj => HE.out j (by omega))
        subst he
        go_wp2_with fail
        go_ret
        exact ⟨ret_bool HT.out.symm, HBl.out⟩
  · have hnb : ((a.length : Int) != (b.length : Int)) = true := by simp; omega
    have HF : Hid (decide (a = b) = false) := by
      show _ = _
      rw [decide_eq_false_iff_not]; intro e; exact hne (by rw [e])
    clear hne
    go_enter Try.func5, Try.ntmps5
    go_wp2_with fail
    go_ret
    exact ⟨ret_bool HF.out.symm, Below.refl _ _⟩

end Go.Proofs.Ytdmnlmohfaafoaa
