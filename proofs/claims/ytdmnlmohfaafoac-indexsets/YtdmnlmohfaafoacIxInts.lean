/- What sameInts answers of the same numbers; slices.Contains over numbers; the fact 'indexed'. -/
import Derived.Test.YtdmnlmohfaafoacIxMatch
namespace Go.Proofs.Ytdmnlmohfaafoac
open Go.RowKit

set_option maxRecDepth 100000 in
set_option maxHeartbeats 800000 in
theorem sameI_any (ao bo : Option Addr) (A : List Int) (ca cb : Nat) (w : World) (hA : IRow w ao A) (hB : IRow w bo A) (ha : A.length ≤ 1000000) :
    Calls Try.prog 20 #[.slice ao A.length ca, .slice bo A.length cb] w fun e w' => e = .returned (.bool true) ∧ Below w.heap.size w w' := by
  have HA := hid hA
  have HBr := hid hB
  clear hA hB
  go_enter Try.func20, Try.ntmps20
  go_wp2
  go_loopw [5] (fun ti wr => ∃ i : Nat, i ≤ A.length ∧ ti = .int .i64 i ∧ Below w.heap.size w wr) (fun ti _ => A.length - (intOf ti).toNat)
  case atStart => exact ⟨0, by omega, rfl, Below.refl _ _⟩
  case round =>
    obtain ⟨i, hi, rfl, hbel⟩ := hrel
    have HBl := hid hbel
    clear hbel
    by_cases hlt : i < A.length
    · obtain ⟨b1, off, hao, hc0, hbs⟩ := HA.out i hlt
      subst hao
      have hcell0 := (HBl.out.cell (p := ⟨b1, off + i, none⟩) hbs).trans hc0
      obtain ⟨b2, off2, hbo, hd0, hbs2⟩ := HBr.out i hlt
      subst hbo
      have hdell0 := (HBl.out.cell (p := ⟨b2, off2 + i, none⟩) hbs2).trans hd0
      clear hc0 hd0
      generalize ai A i = p at *
      have hil : 0 ≤ (i : Int) ∧ (i : Int) < (A.length : Int) := by omega
      go_wp2_with fail
      go_quiet (fail)
      go_wp2_with fail
      go_roundw
      case rel => exact ⟨i + 1, by omega, by go_num, below_drewN HBl.out _⟩
      case measure => simp [intOf]; omega
    · have he : i = A.length := by omega
      subst he
      go_wp2
      go_ret
      exact ⟨rfl, HBl.out⟩

theorem ai_mem (l : List Int) (i : Nat) (h : i < l.length) : ai l i ∈ l := by
  unfold ai
  rw [List.getD_eq_getElem?_getD, List.getElem?_eq_getElem h]
  exact List.getElem_mem h

set_option maxRecDepth 100000 in
theorem indexI_any (ao : Option Addr) (A : List Int) (cap : Nat) (x : Int) (w : World) (hN : IRow w ao A) (hl : A.length ≤ 1000000) :
    Calls Try.prog 59 #[.slice ao A.length cap, .int .i64 x] w fun e w' => ∃ n : Int, e = .returned (.int .i64 n) ∧ decide (0 ≤ n) = decide (x ∈ A) ∧ w' = w := by
  have HN := hid hN
  clear hN
  go_enter Try.func59, Try.ntmps59
  go_wp2
  go_loopw [8] (fun ti wr => ∃ i : Nat, i ≤ A.length ∧ ti = .int .i64 i ∧ wr = w ∧ ∀ j, j < i → ai A j ≠ x) (fun ti _ => A.length - (intOf ti).toNat)
  case atStart => exact ⟨0, by omega, rfl, rfl, by omega⟩
  case round =>
    obtain ⟨i, hi, rfl, rfl, hok⟩ := hrel
    have HO := hid hok
    clear hok
    by_cases hlt : i < A.length
    · obtain ⟨b, off, hao, hc0, hbs⟩ := HN.out i hlt
      subst hao
      have HT : Hid (ai A i = x → x ∈ A) := fun h => by rw [← h]; exact ai_mem A i hlt
      have HF : Hid (ai A i ≠ x → ∀ j, j < i + 1 → ai A j ≠ x) := fun h j hj => by
        by_cases he : j = i
        · subst he; exact h
        · exact HO.out j (by omega)
      generalize ai A i = y at *
      by_cases hy : y = x
      · have hq : (x == y) = true := by rw [beq_iff_eq]; exact hy.symm
        have HE := hid (HT.out hy)
        clear HT HF hy
        go_wp2
        go_ret
        exact ⟨i, rfl, by rw [decide_eq_true HE.out]; exact decide_eq_true (by omega), rfl⟩
      · have hq : (x == y) = false := by rw [beq_eq_false_iff_ne]; exact fun h => hy h.symm
        have HE := hid (HF.out hy)
        clear HT HF hy
        go_wp2
        go_roundw
        case rel => exact ⟨i + 1, by omega, by go_num, by trivial, HE.out⟩
        case measure => simp [intOf]; omega
    · have he : i = A.length := by omega
      have HE : Hid (x ∉ A) := fun hm => by
        obtain ⟨j, hj, e⟩ := List.mem_iff_getElem.1 hm
        refine HO.out j (by omega) ?_
        unfold ai
        rw [List.getD_eq_getElem?_getD, List.getElem?_eq_getElem hj]
        exact e
      subst he
      go_wp2
      go_ret
      exact ⟨-1, rfl, by rw [decide_eq_false HE.out]; rfl, rfl⟩

theorem containsI_any (ao : Option Addr) (A : List Int) (cap : Nat) (x : Int) (w : World) (hN : IRow w ao A) (hl : A.length ≤ 1000000) :
    Calls Try.prog 24 #[.slice ao A.length cap, .int .i64 x] w fun e w' => e = .returned (.bool (decide (x ∈ A))) ∧ w' = w := by
  have HC := hid (indexI_any ao A cap x w hN hl)
  clear hN
  generalize decide (x ∈ A) = B at *
  go_enter Try.func24, Try.ntmps24
  go_wp2_with fail
  refine HC.out.mono ?_
  rintro e w2 ⟨n, rfl, hn, rfl⟩
  have HN := hid hn
  clear hn HC
  go_wp2_with fail
  go_ret
  exact ⟨ret_bool HN.out, rfl⟩

abbrev ixL : List (List LB.Lab) := [[(⟨#[97]⟩, ⟨#[120]⟩)], [(⟨#[98]⟩, ⟨#[121]⟩)]]
abbrev ixM : List LB.Mat := [⟨⟨#[97]⟩, 1, ⟨#[120]⟩⟩]

theorem ix_right : ∀ l ∈ ixL, LB.right l = true := by
  intro l hl
  simp only [ixL, List.mem_cons, List.not_mem_nil, or_false] at hl
  rcases hl with rfl | rfl
  · refine decide_eq_true ⟨by decide, by decide, ?_⟩
    intro i hi
    have h2 : i = 0 := by simpa using hi
    subst h2
    exact ⟨by decide +kernel, by decide +kernel, by decide +kernel, fun h => by omega⟩
  · refine decide_eq_true ⟨by decide, by decide, ?_⟩
    intro i hi
    have h2 : i = 0 := by simpa using hi
    subst h2
    exact ⟨by decide +kernel, by decide +kernel, by decide +kernel, fun h => by omega⟩

theorem ix_asked : LB.asked ixM = true := by decide +kernel

theorem ix_match : (IX.idx ixL.length fun i => LB.all (IX.atS ixL i) ixM) = [1] := by decide +kernel

theorem ix_or : IX.sift IX.kOr [1, 3] [2, 3] = [1, 2, 3] := by
  rw [IX.sift_lt _ _ _ _ _ (by decide), IX.sift_gt _ _ _ _ _ (by decide), IX.sift_eq _ _ _ _ _ rfl, IX.sift]
  rfl

theorem irow_lit1 (w : World) (x : Int) : IRow (w.alloc (.cells #[.int .i64 x] 3)) (some ⟨w.heap.size, 0, none⟩) [x] := by
  intro i hi
  have : i = 0 := by simpa using hi
  subst this
  exact ⟨w.heap.size, 0, rfl, by simp [ai], by simp⟩

theorem irow_lit2 (w : World) (x y : Int) : IRow (w.alloc (.cells #[.int .i64 x, .int .i64 y] 3)) (some ⟨w.heap.size, 0, none⟩) [x, y] := by
  intro i hi
  have hi2 : i < 2 := by simpa using hi
  have : i = 0 ∨ i = 1 := by omega
  rcases this with rfl | rfl
  · exact ⟨w.heap.size, 0, rfl, by simp [ai], by simp⟩
  · exact ⟨w.heap.size, 0, rfl, by simp [ai], by simp⟩

theorem irow_lit3 (w : World) (x y z : Int) : IRow (w.alloc (.cells #[.int .i64 x, .int .i64 y, .int .i64 z] 3)) (some ⟨w.heap.size, 0, none⟩) [x, y, z] := by
  intro i hi
  have hi2 : i < 3 := by simpa using hi
  have : i = 0 ∨ i = 1 ∨ i = 2 := by omega
  rcases this with rfl | rfl | rfl
  · exact ⟨w.heap.size, 0, rfl, by simp [ai], by simp⟩
  · exact ⟨w.heap.size, 0, rfl, by simp [ai], by simp⟩
  · exact ⟨w.heap.size, 0, rfl, by simp [ai], by simp⟩

/-- The two series lie there. -/
theorem ix_row (w : World) : LLRow (((w.alloc (.cells #[.string ⟨#[97]⟩, .string ⟨#[120]⟩] 72)).alloc (.cells #[.string ⟨#[98]⟩, .string ⟨#[121]⟩] 72)).alloc (.cells #[.slice (some ⟨w.heap.size, 0, none⟩) 1 1, .slice (some ⟨w.heap.size + 1, 0, none⟩) 1 1] 22)) (some ⟨w.heap.size + 1 + 1, 0, none⟩) ixL := by
  have h1 : LRow (((w.alloc (.cells #[.string ⟨#[97]⟩, .string ⟨#[120]⟩] 72)).alloc (.cells #[.string ⟨#[98]⟩, .string ⟨#[121]⟩] 72)).alloc (.cells #[.slice (some ⟨w.heap.size, 0, none⟩) 1 1, .slice (some ⟨w.heap.size + 1, 0, none⟩) 1 1] 22)) (some ⟨w.heap.size, 0, none⟩) [(⟨#[97]⟩, ⟨#[120]⟩)] :=
    (lrow_one w ⟨#[97]⟩ ⟨#[120]⟩).below (((Below.refl _ _).alloc (Nat.le_refl _) _).alloc (by simp) _)
  have h2 : LRow (((w.alloc (.cells #[.string ⟨#[97]⟩, .string ⟨#[120]⟩] 72)).alloc (.cells #[.string ⟨#[98]⟩, .string ⟨#[121]⟩] 72)).alloc (.cells #[.slice (some ⟨w.heap.size, 0, none⟩) 1 1, .slice (some ⟨w.heap.size + 1, 0, none⟩) 1 1] 22)) (some ⟨w.heap.size + 1, 0, none⟩) [(⟨#[98]⟩, ⟨#[121]⟩)] := by
    have h := (lrow_one (w.alloc (.cells #[.string ⟨#[97]⟩, .string ⟨#[120]⟩] 72)) ⟨#[98]⟩ ⟨#[121]⟩).below ((Below.refl _ _).alloc (Nat.le_refl _) (.cells #[.slice (some ⟨w.heap.size, 0, none⟩) 1 1, .slice (some ⟨w.heap.size + 1, 0, none⟩) 1 1] 22))
    have e : (w.alloc (.cells #[.string ⟨#[97]⟩, .string ⟨#[120]⟩] 72)).heap.size = w.heap.size + 1 := by simp
    rw [e] at h
    exact h
  have hh := heap_alloc_new ((w.alloc (.cells #[.string ⟨#[97]⟩, .string ⟨#[120]⟩] 72)).alloc (.cells #[.string ⟨#[98]⟩, .string ⟨#[121]⟩] 72)) (.cells #[.slice (some ⟨w.heap.size, 0, none⟩) 1 1, .slice (some ⟨w.heap.size + 1, 0, none⟩) 1 1] 22)
  have e2 : ((w.alloc (.cells #[.string ⟨#[97]⟩, .string ⟨#[120]⟩] 72)).alloc (.cells #[.string ⟨#[98]⟩, .string ⟨#[121]⟩] 72)).heap.size = w.heap.size + 1 + 1 := by simp
  rw [e2] at hh
  intro i hi
  have hi2 : i < 2 := by simpa using hi
  have : i = 0 ∨ i = 1 := by omega
  rcases this with rfl | rfl
  · exact ⟨w.heap.size + 1 + 1, 0, _, 1, rfl, by simp only [World.cell?, hh]; rfl, h1, heap_lt hh⟩
  · exact ⟨w.heap.size + 1 + 1, 0, _, 1, rfl, by simp only [World.cell?, hh]; rfl, h2, heap_lt hh⟩

theorem ix_mrow (w : World) : MRow (w.alloc (.cells #[.string ⟨#[97]⟩, .int .i64 1, .string ⟨#[120]⟩] 32)) (some ⟨w.heap.size, 0, none⟩) ixM := by
  intro i hi
  have : i = 0 := by simpa using hi
  subst this
  exact ⟨w.heap.size, 0, rfl, by simp [LB.am], by simp [LB.am], by simp [LB.am], by simp⟩

set_option maxRecDepth 100000 in
set_option maxHeartbeats 800000 in
theorem indexed_any (w : World) : Calls Try.prog 17 #[] w fun e w' => e = .returned (.bool true) ∧ Below w.heap.size w w' := by
  have HL0 := hid (ix_row w)
  have HB0 := hid ((((Below.refl w.heap.size w).alloc (Nat.le_refl _) (.cells #[.string ⟨#[97]⟩, .string ⟨#[120]⟩] 72)).alloc (by simp) (.cells #[.string ⟨#[98]⟩, .string ⟨#[121]⟩] 72)).alloc (by simp; omega) (.cells #[.slice (some ⟨w.heap.size, 0, none⟩) 1 1, .slice (some ⟨w.heap.size + 1, 0, none⟩) 1 1] 22))
  go_enter Try.func17, Try.ntmps17
  go_wp2_with fail
  refine (new_any (some ⟨w.heap.size + 1 + 1, 0, none⟩) ixL 2 _ HL0.out (by decide)).mono ?_
  rintro e w1 ⟨hb1, hend⟩
  rcases hend with ⟨_, bx, bo, cnt, fo, fi, _, rfl, hI⟩ | ⟨i, ba, hi, _, hbad, _⟩
  case inr =>
    have := ix_right _ (IX.atS_mem ixL i hi)
    rw [hbad] at this
    cases this
  have HI := hid hI
  have HB1 := hid (HB0.out.trans (hb1.mono HB0.out.size))
  clear hI hb1 HL0 HB0
  have hsz1 := HB1.out.size
  have HMr := hid (ix_mrow w1)
  have HB2 := hid (HB1.out.alloc hsz1 (.cells #[.string ⟨#[97]⟩, .int .i64 1, .string ⟨#[120]⟩] 32))
  have HI2 := hid (HI.out.below ((Below.refl w1.heap.size w1).alloc (Nat.le_refl _) (.cells #[.string ⟨#[97]⟩, .int .i64 1, .string ⟨#[120]⟩] 32)))
  go_wp2_with fail
  refine (match_any bx cnt bo fo fi ixL (some ⟨w1.heap.size, 0, none⟩) ixM 1 _ HI2.out ix_right (by decide) HMr.out (by decide)).mono ?_
  rintro e w3 ⟨hb3, hend⟩
  rcases hend with ⟨hbad, _⟩ | ⟨_, v3, rfl, ho3⟩
  · rw [ix_asked] at hbad; cases hbad
  have HB3 := hid (HB2.out.trans (hb3.mono HB2.out.size))
  rw [ix_match] at ho3
  obtain ⟨ao3, cap3, rfl, hr3, hc3⟩ := IRow.of_own' ho3
  have HR3 := hid hr3
  clear ho3 hr3 hb3 HB2 HI2 HMr HI HB1 hc3 hsz1
  have hsz3 := HB3.out.size
  have hb34 := (Below.refl w3.heap.size w3).alloc (Nat.le_refl _) (.cells #[.int .i64 1] 3)
  have HS := hid (sameI_any ao3 (some ⟨w3.heap.size, 0, none⟩) [1] cap3 1 _ (HR3.out.below hb34) (irow_lit1 w3 1) (by decide))
  have HB4 := hid (HB3.out.alloc hsz3 (.cells #[.int .i64 1] 3))
  clear hb34
  go_wp2_with fail
  refine HS.out.mono ?_
  rintro e w5 ⟨rfl, hb5⟩
  have HB5 := hid (HB4.out.trans (hb5.mono HB4.out.size))
  clear hb5 HS HB4 HR3 HB3
  have hsz5 := HB5.out.size
  have HB6 := hid ((HB5.out.alloc hsz5 (.cells #[.int .i64 1, .int .i64 3] 3)).alloc (by simp; omega) (.cells #[.int .i64 2, .int .i64 3] 3))
  have hr61 := (irow_lit2 w5 1 3).below ((Below.refl _ _).alloc (Nat.le_refl _) (.cells #[.int .i64 2, .int .i64 3] 3))
  have hr62 := irow_lit2 (w5.alloc (.cells #[.int .i64 1, .int .i64 3] 3)) 2 3
  have e6 : (w5.alloc (.cells #[.int .i64 1, .int .i64 3] 3)).heap.size = w5.heap.size + 1 := by simp
  rw [e6] at hr62
  have HO := hid (or_any (some ⟨w5.heap.size, 0, none⟩) (some ⟨w5.heap.size + 1, 0, none⟩) [1, 3] [2, 3] 2 2 _ hr61 hr62 (by decide) (by decide) (by decide) (by decide))
  rw [ix_or] at HO
  clear hr61 hr62 e6
  go_wp2_with fail
  refine HO.out.mono ?_
  rintro e w7 ⟨v7, rfl, ho7, hb7⟩
  obtain ⟨ao7, cap7, rfl, hr7, hc7⟩ := IRow.of_own' ho7
  have HB7 := hid (HB6.out.trans (hb7.mono HB6.out.size))
  have hsz7 := HB7.out.size
  have hb78 := (Below.refl w7.heap.size w7).alloc (Nat.le_refl _) (.cells #[.int .i64 1, .int .i64 2, .int .i64 3] 3)
  have HS := hid (sameI_any ao7 (some ⟨w7.heap.size, 0, none⟩) [1, 2, 3] cap7 3 _ (hr7.below hb78) (irow_lit3 w7 1 2 3) (by decide))
  have HB8 := hid (HB7.out.alloc hsz7 (.cells #[.int .i64 1, .int .i64 2, .int .i64 3] 3))
  clear ho7 hb7 hr7 hc7 hb78 HB6 HB7 HO
  go_wp2_with fail
  refine HS.out.mono ?_
  rintro e w9 ⟨rfl, hb9⟩
  have HB9 := hid (HB8.out.trans (hb9.mono HB8.out.size))
  clear hb9 HS HB8
  go_wp2_with fail
  go_ret
  exact ⟨rfl, HB9.out⟩

end Go.Proofs.Ytdmnlmohfaafoac
