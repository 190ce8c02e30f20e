/- sort's insertionSort_func over any two closures that compare and exchange. -/
import Derived.Test.YtdmnlmohfaafoadGreatDoorPStWalk
namespace Go.Proofs.YtdmnlmohfaafoadGreatDoor
open Go.RowKit

section
variable {α : Type} {lt : α → α → Bool} {n B : Nat} {X : Nat → Prop} {St : World → (Nat → α) → Prop} {gl : Nat} {lb : Array Value} {gs : Nat} {sb : Array Value}

theorem rot_down_at (e : Nat → α) (j i : Nat) (_h : j ≤ i) : ST.rot e j i (i + 1) j = e i := by
  unfold ST.rot
  rw [if_pos (by omega)]
  congr 1
  omega

theorem rot_down_ahead (e : Nat → α) (j i k : Nat) (h : k < j) : ST.rot e j i (i + 1) k = e k := by
  unfold ST.rot
  rw [if_neg (by omega), if_neg (by omega)]

set_option maxRecDepth 100000 in
set_option maxHeartbeats 800000 in
theorem insSort_any (S : Srt Tryz.prog lt n B X St gl lb gs sb) (hw : ST.Weak lt) (hn : n ≤ 1000000) (a b : Nat) (d : Nat → α) (w : World) (hB : B ≤ w.heap.size) (hS : St w d) (hab : a ≤ b) (hb : b ≤ n) :
    Calls Tryz.prog 154 #[lsV gl lb gs sb, .int .i64 a, .int .i64 b] w fun e w' => e = .returned (.tuple #[]) ∧ (∃ f, St w' f ∧ ST.Sw a b d f ∧ ST.Asc lt f a b) ∧ SFr X w w' := by
  have hbox : Below w.heap.size w (w.alloc (.cells #[.func (.func gl) #[] lb, .func (.func gs) #[] sb] 193)) := (Below.refl _ w).alloc (Nat.le_refl _) _
  have HS0 := sthid (S.kept _ _ _ hS hbox)
  have HF0 := sthid (SFr.below (X := X) hbox)
  have HX0 := sthid (heap_alloc_new w (.cells #[.func (.func gl) #[] lb, .func (.func gs) #[] sb] 193))
  have HSr := sthid S
  have HWk := sthid hw
  have el := S.el
  have hXw : ¬ X w.heap.size := fun h => by have := S.low _ h; omega
  clear hS hbox S hw
  go_enter Tryz.func154, Tryz.ntmps154
  go_wp2_with fail
  go_loopw [6, 7] (fun ti _ wr => ∃ (i : Nat) (e : Nat → α), a + 1 ≤ i ∧ (i ≤ b ∨ i = a + 1) ∧ ti = .int .i64 i ∧ ST.Sw a b d e ∧ ST.Asc lt e a i ∧ St wr e ∧ SFr X w wr ∧ wr.heap[w.heap.size]? = some (.cells #[.func (.func gl) #[] lb, .func (.func gs) #[] sb] 193)) (fun ti _ _ => b + 1 - (intOf ti).toNat)
  case atStart => exact ⟨a + 1, d, Nat.le_refl _, .inr rfl, by go_num, .refl _, (fun x y hx hxy hy => by omega), HS0.out, HF0.out, HX0.out⟩
  case round =>
    obtain ⟨i, e, hi1, hi2, rfl, hsw, hasc, hSt, hfr, hx⟩ := hrel
    have HSw := sthid hsw
    have HAs := sthid hasc
    have HSt := sthid hSt
    have HFr := sthid hfr
    have HX := sthid hx
    clear hsw hasc hSt hfr hx HS0 HF0 HX0
    by_cases hlt : i < b
    · go_wp2_with fail
      go_loopw [7] (fun tj wq => ∃ (j : Nat), a ≤ j ∧ j ≤ i ∧ tj = .int .i64 j ∧ (j < i → lt (e i) (e j) = true) ∧ ST.Sw a b d (ST.rot e j i (i + 1)) ∧ St wq (ST.rot e j i (i + 1)) ∧ SFr X w wq ∧ wq.heap[w.heap.size]? = some (.cells #[.func (.func gl) #[] lb, .func (.func gs) #[] sb] 193)) (fun tj _ => (intOf tj).toNat)
      case atStart => exact ⟨i, by omega, Nat.le_refl _, rfl, (fun h => by omega), by rw [ST.rot_one]; exact HSw.out, by rw [ST.rot_one]; exact HSt.out, HFr.out, HX.out⟩
      case round =>
        obtain ⟨j, hja, hji, rfl, hjl, hsw, hSt, hfr, hx⟩ := hrel
        have y0 : wr.cell? ⟨w.heap.size, 0, none⟩ = some (.func (.func gl) #[] lb) := by simp [World.cell?, hx]
        have hsz := hfr.size
        have hsz2 : w.heap.size < wr.heap.size := (Array.getElem?_eq_some_iff.1 hx).1
        have HJl := sthid hjl
        have HSw2 := sthid hsw
        have HSt2 := sthid hSt
        have HFr2 := sthid hfr
        have HX2 := sthid hx
        clear hjl hsw hSt hfr hx
        by_cases hgt : a < j
        · have hg1 : (a : Int) < (j : Int) := by omega
          have HC := HSr.out.less wr _ j (j - 1) (by omega) HSt2.out (by omega) (by omega)
          rw [rot_down_at e j i hji, rot_down_ahead e j i (j - 1) (by omega)] at HC
          have e1 : ((j - 1 : Nat) : Int) = (j : Int) - 1 := by omega
          rw [e1] at HC
          have HC := sthid HC
          clear e1
          go_wp2_with fail
          refine HC.out.mono ?_
          rintro en w2 ⟨rfl, h1, h2⟩
          have hx2 := (h2.block w.heap.size hsz2 hXw).trans HX2.out
          have y1 : w2.cell? ⟨w.heap.size, 1, none⟩ = some (.func (.func gs) #[] sb) := by simp [World.cell?, hx2]
          have hsz3 : w.heap.size < w2.heap.size := (Array.getElem?_eq_some_iff.1 hx2).1
          have HS3 := sthid h1
          have HF3 := sthid (HFr2.out.trans h2)
          have HX3 := sthid hx2
          clear h1 h2 hx2 HC
          cases hq : lt (e i) (e (j - 1)) with
          | true =>
            have HQ := sthid hq
            have HC2 := HSr.out.swap w2 _ j (j - 1) (by omega) HS3.out (by omega) (by omega)
            rw [ST.mv_down e j i (by omega) hji] at HC2
            have e1 : ((j - 1 : Nat) : Int) = (j : Int) - 1 := by omega
            rw [e1] at HC2
            have HC2 := sthid HC2
            have HSw3 : Hid (ST.Sw a b d (ST.rot e (j - 1) i (i + 1))) := by
              show ST.Sw _ _ _ _
              rw [← ST.mv_down e j i (by omega) hji]
              exact .step j (j - 1) HSw2.out (by omega) (by omega) (by omega) (by omega)
            clear e1 hq
            obtain ⟨w3, hrun, h1, h2⟩ := HC2.out
            have HS4 := sthid h1
            have HF4 := sthid (HF3.out.trans h2)
            have HX4 := sthid ((h2.block w.heap.size hsz3 hXw).trans HX3.out)
            clear h1 h2 HC2
            go_wp2_with fail
            go_roundw
            case rel => exact ⟨j - 1, by omega, by omega, by go_num, (fun _ => HQ.out), HSw3.out, HS4.out, HF4.out, HX4.out⟩
            case measure => simp [intOf]; omega
          | false =>
            have HAs2 := sthid (ST.ins_down HWk.out HAs.out hja hji (fun _ => hq) HJl.out)
            clear hq
            go_wp2_with fail
            go_roundw
            case rel => exact ⟨i + 1, _, by omega, .inl (by omega), by go_num, HSw2.out, HAs2.out, HS3.out, HF3.out, HX3.out⟩
            case measure => simp [intOf]; omega
        · have hg1 : ¬ (a : Int) < (j : Int) := by omega
          have HAs2 := sthid (ST.ins_down HWk.out HAs.out hja hji (fun h => absurd h hgt) HJl.out)
          go_wp2_with fail
          go_roundw
          case rel => exact ⟨i + 1, _, by omega, .inl (by omega), by go_num, HSw2.out, HAs2.out, HSt2.out, HFr2.out, HX2.out⟩
          case measure => simp [intOf]; omega
    · have HAs2 : Hid (ST.Asc lt e a b) := HAs.out.part (Nat.le_refl _) (by omega)
      go_wp2_with fail
      go_end0
      exact ⟨rfl, ⟨e, HSt.out, HSw.out, HAs2.out⟩, HFr.out⟩

end

end Go.Proofs.YtdmnlmohfaafoadGreatDoor

