/- sort's stable_func family over any two closures that compare and exchange: swapRange_func, rotate_func. -/
import Derived.WalkKit
import Derived.Test.YtdmnlmohfaafoadGreatDoorPHrSortN
import Derived.Test.YtdmnlmohfaafoadGreatDoorRows
import Derived.Shelf.Abstract
namespace Go.Proofs.YtdmnlmohfaafoadGreatDoor
open Go.RowKit

theorem sthid {p : Prop} (h : p) : Hid p := h

/-- All that was there is as it was, but for the blocks X. -/
structure SFr (X : Nat → Prop) (w w' : World) : Prop where
  os : w'.os = w.os
  tape : w'.tape = w.tape
  output : w'.output = w.output
  size : w.heap.size ≤ w'.heap.size
  block : ∀ j, j < w.heap.size → ¬ X j → w'.heap[j]? = w.heap[j]?

theorem SFr.refl (X : Nat → Prop) (w : World) : SFr X w w := ⟨rfl, rfl, rfl, Nat.le_refl _, fun _ _ _ => rfl⟩
theorem SFr.trans {X : Nat → Prop} {a b c : World} (h : SFr X a b) (k : SFr X b c) : SFr X a c :=
  ⟨k.os.trans h.os, k.tape.trans h.tape, k.output.trans h.output, Nat.le_trans h.size k.size, fun j hj hn => (k.block j (Nat.lt_of_lt_of_le hj h.size) hn).trans (h.block j hj hn)⟩
theorem SFr.below {X : Nat → Prop} {w w' : World} (h : Below w.heap.size w w') : SFr X w w' := ⟨h.os, h.tape, h.output, h.size, fun j hj _ => h.block j hj⟩

/-- Two closures over data d of n places: St tells the data in memory; only the blocks X, which lie below B, may turn. -/
structure Srt {α : Type} (P : Program) (lt : α → α → Bool) (n B : Nat) (X : Nat → Prop) (St : World → (Nat → α) → Prop) (gl : Nat) (lb : Array Value) (gs : Nat) (sb : Array Value) : Prop where
  el : ∀ args w, (callFunc gl args).run P w = .ok (.enter gl args) w
  low : ∀ j, X j → j < B
  kept : ∀ W W' d, St W d → Below W.heap.size W W' → St W' d
  less : ∀ W d (i j : Nat), B ≤ W.heap.size → St W d → i < n → j < n → Calls P gl (#[.int .i64 (i : Int), .int .i64 (j : Int)] ++ lb) W fun e w' => e = .returned (.bool (lt (d i) (d j))) ∧ St w' d ∧ SFr X W w'
  swap : ∀ W d (i j : Nat), B ≤ W.heap.size → St W d → i < n → j < n → ∃ W', (callFunc gs (#[.int .i64 (i : Int), .int .i64 (j : Int)] ++ sb)).run P W = .ok (.value (.tuple #[])) W' ∧ St W' (ST.sw d i j) ∧ SFr X W W'

/-- The closures as they are handed on. -/
abbrev lsV (gl : Nat) (lb : Array Value) (gs : Nat) (sb : Array Value) : Value := .agg #[.func (.func gl) #[] lb, .func (.func gs) #[] sb]

section
variable {α : Type} {lt : α → α → Bool} {n B : Nat} {X : Nat → Prop} {St : World → (Nat → α) → Prop} {gl : Nat} {lb : Array Value} {gs : Nat} {sb : Array Value}

set_option maxRecDepth 100000 in
theorem swapRange_any (S : Srt Tryz.prog lt n B X St gl lb gs sb) (hn : n ≤ 1000000) (a b m : Nat) (d : Nat → α) (w : World) (hB : B ≤ w.heap.size) (hS : St w d) (hab : a + m ≤ b) (hb : b + m ≤ n) :
    Calls Tryz.prog 175 #[lsV gl lb gs sb, .int .i64 a, .int .i64 b, .int .i64 m] w fun e w' => e = .returned (.tuple #[]) ∧ St w' (ST.swR d a b m) ∧ SFr X w w' := by
  have hbox : Below w.heap.size w (w.alloc (.cells #[.func (.func gl) #[] lb, .func (.func gs) #[] sb] 193)) := (Below.refl _ w).alloc (Nat.le_refl _) _
  have HS0 := sthid (S.kept _ _ _ hS hbox)
  have HF0 := sthid (SFr.below (X := X) hbox)
  have HX0 := sthid (heap_alloc_new w (.cells #[.func (.func gl) #[] lb, .func (.func gs) #[] sb] 193))
  have HSr := sthid S
  have hXw : ¬ X w.heap.size := fun h => by have := S.low _ h; omega
  clear hS hbox S
  go_enter Tryz.func175, Tryz.ntmps175
  go_wp2_with fail
  go_loopw [8] (fun ti wr => ∃ i : Nat, i ≤ m ∧ ti = .int .i64 i ∧ St wr (ST.swR d a b i) ∧ SFr X w wr ∧ wr.heap[w.heap.size]? = some (.cells #[.func (.func gl) #[] lb, .func (.func gs) #[] sb] 193)) (fun ti _ => m - (intOf ti).toNat)
  case atStart => exact ⟨0, by omega, rfl, by rw [ST.swR_zero]; exact HS0.out, HF0.out, HX0.out⟩
  case round =>
    obtain ⟨i, hi, rfl, hSt, hfr, hx⟩ := hrel
    have y1 : wr.cell? ⟨w.heap.size, 1, none⟩ = some (.func (.func gs) #[] sb) := by simp [World.cell?, hx]
    have hsz := hfr.size
    have HSt := sthid hSt
    have HFr := sthid hfr
    have HX := sthid hx
    clear hSt hfr hx HS0 HF0 HX0
    by_cases hlt : i < m
    · have HC := sthid (HSr.out.swap wr _ (a + i) (b + i) (by omega) HSt.out (by omega) (by omega))
      have e1 : ((a + i : Nat) : Int) = (a : Int) + i := by omega
      have e2 : ((b + i : Nat) : Int) = (b : Int) + i := by omega
      rw [e1, e2] at HC
      have HN := sthid (ST.swR_succ d a b i (by omega))
      clear e1 e2
      obtain ⟨w2, hrun, h1, h2⟩ := HC.out
      have HS2 := sthid h1
      have HF2 := sthid (HFr.out.trans h2)
      have hsz2 : w.heap.size < wr.heap.size := (Array.getElem?_eq_some_iff.1 HX.out).1
      have HX2 := sthid ((h2.block w.heap.size hsz2 hXw).trans HX.out)
      clear h1 h2 HC
      go_wp2_with fail
      go_roundw
      case rel => exact ⟨i + 1, by omega, by go_num, by rw [HN.out]; exact HS2.out, HF2.out, HX2.out⟩
      case measure => simp [intOf]; omega
    · have he : i = m := by omega
      subst he
      go_wp2_with fail
      go_end0
      exact ⟨rfl, HSt.out, HFr.out⟩

set_option maxRecDepth 100000 in
theorem rotate_any (S : Srt Tryz.prog lt n B X St gl lb gs sb) (hn : n ≤ 1000000) (a m b : Nat) (d : Nat → α) (w : World) (hB : B ≤ w.heap.size) (hS : St w d) (ham : a < m) (hmb : m < b) (hb : b ≤ n) :
    Calls Tryz.prog 171 #[lsV gl lb gs sb, .int .i64 a, .int .i64 m, .int .i64 b] w fun e w' => e = .returned (.tuple #[]) ∧ St w' (ST.rot d a m b) ∧ SFr X w w' := by
  have hbox : Below w.heap.size w (w.alloc (.cells #[.func (.func gl) #[] lb, .func (.func gs) #[] sb] 193)) := (Below.refl _ w).alloc (Nat.le_refl _) _
  have HS0 := sthid (S.kept _ _ _ hS hbox)
  have HF0 := sthid (SFr.below (X := X) hbox)
  have HX0 := sthid (heap_alloc_new w (.cells #[.func (.func gl) #[] lb, .func (.func gs) #[] sb] 193))
  have HSr := sthid S
  have hXw : ¬ X w.heap.size := fun h => by have := S.low _ h; omega
  generalize hT : ST.rot d a m b = T
  have HT := sthid hT
  clear hS hbox S hT
  go_enter Tryz.func171, Tryz.ntmps171
  go_wp2_with fail
  go_loopw [8, 9] (fun ti tj wr => ∃ (i j : Nat) (e : Nat → α), 1 ≤ i ∧ 1 ≤ j ∧ i ≤ m ∧ m + j ≤ n ∧ ti = .int .i64 i ∧ tj = .int .i64 j ∧ ST.rot e (m - i) m (m + j) = T ∧ St wr e ∧ SFr X w wr ∧ wr.heap[w.heap.size]? = some (.cells #[.func (.func gl) #[] lb, .func (.func gs) #[] sb] 193)) (fun ti tj _ => (intOf ti).toNat + (intOf tj).toNat)
  case atStart =>
    refine ⟨m - a, b - m, d, by omega, by omega, by omega, by omega, by go_num, by go_num, ?_, HS0.out, HF0.out, HX0.out⟩
    rw [← HT.out]
    congr 1 <;> omega
  case round =>
    obtain ⟨i, j, e, hi1, hj1, him, hjn, rfl, rfl, hrot, hSt, hfr, hx⟩ := hrel
    have y0 : wr.cell? ⟨w.heap.size, 0, none⟩ = some (.func (.func gl) #[] lb) := by simp [World.cell?, hx]
    have y1 : wr.cell? ⟨w.heap.size, 1, none⟩ = some (.func (.func gs) #[] sb) := by simp [World.cell?, hx]
    have hsz := hfr.size
    have HSt := sthid hSt
    have HFr := sthid hfr
    have HX := sthid hx
    have HR := sthid hrot
    have hsz2 : w.heap.size < wr.heap.size := (Array.getElem?_eq_some_iff.1 hx).1
    clear hSt hfr hx hrot HS0 HF0 HX0
    by_cases hgt : j < i
    · have hne : ((i : Int) != (j : Int)) = true := by simp; omega
      have hg2 : (j : Int) < (i : Int) := by omega
      have HC := sthid (swapRange_any HSr.out hn (m - i) m j e wr (by omega) HSt.out (by omega) (by omega))
      have e1 : ((m - i : Nat) : Int) = (m : Int) - i := by omega
      rw [e1] at HC
      have HN := sthid (ST.rot_left e m i j him hgt)
      clear e1
      go_wp2_with fail
      refine HC.out.mono ?_
      rintro e2 w2 ⟨rfl, h1, h2⟩
      have HS2 := sthid h1
      have HF2 := sthid (HFr.out.trans h2)
      have HX2 := sthid ((h2.block w.heap.size hsz2 hXw).trans HX.out)
      clear h1 h2 HC
      go_wp2_with fail
      go_roundw
      case rel => exact ⟨i - j, j, _, by omega, hj1, by omega, hjn, by go_num, rfl, by rw [← HN.out]; exact HR.out, HS2.out, HF2.out, HX2.out⟩
      case measure => simp [intOf]; omega
    · by_cases hlt : i < j
      · have hne : ((i : Int) != (j : Int)) = true := by simp; omega
        have hg2 : ¬ (j : Int) < (i : Int) := by omega
        have HC := sthid (swapRange_any HSr.out hn (m - i) (m + j - i) i e wr (by omega) HSt.out (by omega) (by omega))
        have e1 : ((m - i : Nat) : Int) = (m : Int) - i := by omega
        have e2 : ((m + j - i : Nat) : Int) = (m : Int) + j - i := by omega
        rw [e1, e2] at HC
        have HN := sthid (ST.rot_right e m i j him hlt)
        clear e1 e2
        go_wp2_with fail
        refine HC.out.mono ?_
        rintro e2 w2 ⟨rfl, h1, h2⟩
        have HS2 := sthid h1
        have HF2 := sthid (HFr.out.trans h2)
        have HX2 := sthid ((h2.block w.heap.size hsz2 hXw).trans HX.out)
        clear h1 h2 HC
        go_wp2_with fail
        go_roundw
        case rel => exact ⟨i, j - i, _, hi1, by omega, him, by omega, rfl, by go_num, by rw [← HN.out]; exact HR.out, HS2.out, HF2.out, HX2.out⟩
        case measure => simp [intOf]; omega
      · have hij : i = j := by omega
        subst hij
        have HC := sthid (swapRange_any HSr.out hn (m - i) m i e wr (by omega) HSt.out (by omega) (by omega))
        have e1 : ((m - i : Nat) : Int) = (m : Int) - i := by omega
        rw [e1] at HC
        have HN := sthid (ST.rot_same e m i him)
        clear e1
        go_wp2_with fail
        refine HC.out.mono ?_
        rintro e2 w2 ⟨rfl, h1, h2⟩
        have HS2 := sthid h1
        have HF2 := sthid (HFr.out.trans h2)
        clear h1 h2 HC
        go_wp2_with fail
        go_end0
        refine ⟨rfl, ?_, HF2.out⟩
        have h3 := HS2.out
        rw [← HN.out, HR.out] at h3
        exact h3

end

end Go.Proofs.YtdmnlmohfaafoadGreatDoor

