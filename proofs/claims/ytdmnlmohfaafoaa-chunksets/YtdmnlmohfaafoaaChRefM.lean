/- What the document's MergeSamples answers. -/
import Derived.Test.YtdmnlmohfaafoaaChMerge
import Derived.Test.YtdmnlmohfaafoaaChLast
import Derived.Test.YtdmnlmohfaafoaaChSort
namespace Go.Proofs.Ytdmnlmohfaafoaa
open Go.RowKit Go.Maps

theorem law64 : Keyed Try.prog 2 := int_keyed Try.underlying2

theorem wf64 {n : Int} (h : -9223372036854775808 ≤ n ∧ n ≤ 9223372036854775807) : (Lit.int .i64 n).wf = true := WalkArith.wf_i64 (by omega)

/-- A slice of one's own, read as one that lies there. -/
theorem own_srow {w : World} {base cap : Nat} {ao : Option Addr} {l : List CL.Smp} (h : w.ownsRow base 29 2 (.slice ao l.length cap) l.length (sv l)) : SRow w ao l := by
  obtain ⟨ao', cap', e, hS⟩ := SRow.of_own h
  simp only [Value.slice.injEq] at e
  rw [e.1]; exact hS

theorem own_slice {w : World} {base n : Nat} {v : Value} {xs : List Value} (h : w.ownsRow base 29 2 v n xs) : ∃ ao cap, v = .slice ao n cap := by
  rcases h.2 with ⟨h, hn⟩ | ⟨g, cap, cur, h, _⟩
  · exact ⟨none, 0, by rw [h, hn]⟩
  · exact ⟨_, _, h⟩

/-- Samples of two lists that lie one behind the other. -/
theorem own_both {w : World} {base : Nat} {v : Value} {a b : List CL.Smp} (h : w.ownsRow base 29 2 v (0 + a.length + b.length) ([] ++ sv a ++ sv b)) :
    ∃ ao n cap, v = .slice ao n cap ∧ Hid (w.ownsRow base 29 2 (.slice ao n cap) (a ++ b).length (sv (a ++ b)) ∧ n = (a ++ b).length) ∧ n ≤ (a ++ b).length ∧ (a ++ b).length ≤ n := by
  obtain ⟨ao, cap, rfl⟩ := own_slice h
  have e : 0 + a.length + b.length = (a ++ b).length := by simp
  rw [e] at h ⊢
  rw [List.nil_append, ← sv_append] at h
  exact ⟨ao, _, cap, rfl, ⟨h, rfl⟩, Nat.le_refl _, Nat.le_refl _⟩

/-- A row of one's own lies behind what is older. -/
theorem row_low {w : World} {base n size : Nat} {e : TypeId} {v : Value} {xs : List Value} (h : w.ownsRow (base + 1) e size v n xs) : some base ≠ v.ownBlock := fun hh => by
  have := (h.lt base hh.symm).1; omega

/-- A variable of one's own that holds a slice. -/
def BoxV (B : Nat) (w : World) (v : Value) : Prop := w.heap[B]? = some (.cells #[v] 22)

theorem BoxV.cell {B : Nat} {w : World} {v : Value} (h : BoxV B w v) : w.cell? ⟨B, 0, none⟩ = some v ∧ w.frozen? ⟨B, 0, none⟩ = false := by
  unfold BoxV at h
  constructor
  · simp only [World.cell?, h]; rfl
  · simp [World.frozen?, h]

theorem BoxV.kept {B : Nat} {w w' : World} {v : Value} {row : Option Nat} (h : BoxV B w v) (hg : w.grownBy w' row) (hne : some B ≠ row) : BoxV B w' v := (hg.block B (heap_lt h) hne).trans h

theorem BoxV.alloc {B : Nat} {w : World} {v : Value} (h : BoxV B w v) (o : Obj) : BoxV B (w.alloc o) v := h.kept (World.grownBy_alloc w o none) (by simp)

theorem BoxV.set {B : Nat} {w : World} {v : Value} (h : BoxV B w v) (u : Value) : BoxV B (w.setCell ⟨B, 0, none⟩ u) u := by
  have := heap_setCell_same w B 0 #[v] 22 u h
  simpa [BoxV] using this

theorem grown_set (w : World) (B : Nat) (u : Value) : w.grownBy (w.setCell ⟨B, 0, none⟩ u) (some B) :=
  ⟨rfl, rfl, rfl, by simp, fun k _ hk => Below.heap_setCell w ⟨B, 0, none⟩ u k (fun e => hk (by rw [e]))⟩

/-- A row of one's own lies behind all that stood when it was begun. -/
theorem row_far {w : World} {base n size k : Nat} {e : TypeId} {v : Value} {xs : List Value} (h : w.ownsRow base e size v n xs) (hk : k < base) : v.ownBlock ≠ some k := fun hh => by
  have := (h.lt k hh).1; omega

theorem own_base {w : World} {base base' n size : Nat} {e : TypeId} {v : Value} {xs : List Value} (h : w.ownsRow base e size v n xs) (hb : base' ≤ base) : w.ownsRow base' e size v n xs := by
  refine ⟨h.1, ?_⟩
  rcases h.2 with h2 | ⟨g, cap, cur, h1, h2, r⟩
  · exact .inl h2
  · exact .inr ⟨g, cap, cur, h1, Nat.le_trans hb h2, r⟩

theorem own_succ {w : World} {base n : Nat} {v : Value} {xs : List Value} (h : w.ownsRow base 29 2 v (n + 1) xs) : ∃ g cap, v = .slice (some ⟨g, 0, none⟩) (n + 1) cap := by
  rcases h.2 with ⟨_, h0⟩ | ⟨g, cap, _, rfl, _⟩
  · omega
  · exact ⟨g, cap, rfl⟩

set_option maxRecDepth 100000 in
set_option maxHeartbeats 3200000 in
theorem rmerge_any (ao bo : Option Addr) (a b : List CL.Smp) (ca cb : Nat) (w : World) (hA : SRow w ao a) (hB : SRow w bo b) (hca : a.length ≤ ca) (hcb : b.length ≤ cb) (hla : a.length ≤ 60) (hlb : b.length ≤ 60) (hna : ao = none → ca = 0) (hnb : bo = none → cb = 0)
    (hRa : ∀ s ∈ a, CL.Rs s) (hRb : ∀ s ∈ b, CL.Rs s) (ha : CL.Rising a) (hb : CL.Rising b) :
    Calls Try.prog 9 #[.slice ao a.length ca, .slice bo b.length cb] w fun e w' => ∃ v, e = .returned v ∧ w'.ownsRow w.heap.size 29 2 v (CL.mrg a b).length (sv (CL.mrg a b)) ∧ Below w.heap.size w w' := by
  have HA := hid hA
  have HB := hid hB
  have HRa := hid hRa
  have HRb := hid hRb
  have Hra := hid ha
  have Hrb := hid hb
  have HNa := hid hna
  have HNb := hid hnb
  clear hA hB hRa hRb ha hb hna hnb
  obtain ⟨ii, hi, hi'⟩ := Option.map_eq_some_iff.1 Try.info29
  simp only [Prod.mk.injEq] at hi'
  obtain ⟨hz0, hz1, hz2⟩ := hi'
  have HI0 := hid hi
  have HZ0 := hid hz0
  have HZ1 := hid hz1
  have HZ2 := hid hz2
  clear hi hz0 hz1 hz2
  have hmm := @run_makeMap Try.prog
  go_enter Try.func9, Try.ntmps9
  have hown0 : ((w.alloc (.map #[] 0)).alloc (.cells #[] 29)).ownsRow (w.heap.size + 1) 29 2 (.slice (some ⟨w.heap.size + 1, 0, none⟩) 0 0) 0 [] := by
    refine ⟨rfl, .inr ⟨w.heap.size + 1, 0, #[], rfl, Nat.le_refl _, ?_, Nat.le_refl _, Nat.zero_le _, rfl, rfl⟩⟩
    have := heap_alloc_new (w.alloc (.map #[] 0)) (.cells #[] 29)
    simpa using this
  have HO0 := hid hown0
  have HM0 := hid ((World.ownsMap_made (H := Unit) w Try.prog 2 (plainElem Try.prog 2)).alloc (.cells #[] 29))
  have HB0 := hid ((((Below.refl w.heap.size w).alloc (Nat.le_refl _) (.map #[] 0))).alloc (by simp) (.cells #[] 29))
  have hs0 : w.heap.size + 1 ≤ ((w.alloc (.map #[] 0)).alloc (.cells #[] 29)).heap.size := by simp
  clear hown0
  go_wp2_with (first
    | (at_builtin; refine wpList_append_src _ rfl (.tmp 12) (.tmp 13) 22 rfl (w.heap.size + 1) 29 ii (.agg #[.int .i64 0, .int .i64 0]) 2 16 Try.underlying22 HI0.out HZ0.out HZ1.out HZ2.out rfl (by decide) (.slice (some ⟨w.heap.size + 1, 0, none⟩) 0 0) 0 [] rfl HO0.out ao a.length ca (sv a) rfl (sv_length _) (fun h => ⟨by have := HNa.out h; omega, HNa.out h⟩) (srow_cells HA.out HB0.out) (sv_i64 _) (by unfold maxLen; omega) (by omega) hs0 ?_; intro v1 w1 hown1 hgrow1; have HO1 := hid hown1; have HB1 := hid (HB0.out.grown hgrow1 HB0.out.size (fun j hj => Nat.le_of_succ_le (HO0.out.lt j hj).1)); have HM1 := hid (HM0.out.kept hgrow1 (row_low HO0.out)); have hs1 := Nat.le_trans hs0 hgrow1.size; clear hown1 hgrow1 hs0)
    | (at_builtin; refine wpList_append_src _ rfl (.tmp 14) (.tmp 15) 22 rfl (w.heap.size + 1) 29 ii (.agg #[.int .i64 0, .int .i64 0]) 2 16 Try.underlying22 HI0.out HZ0.out HZ1.out HZ2.out rfl (by decide) v1 (0 + a.length) ([] ++ sv a) rfl HO1.out bo b.length cb (sv b) rfl (sv_length _) (fun h => ⟨by have := HNb.out h; omega, HNb.out h⟩) (srow_cells HB.out HB1.out) (sv_i64 _) (by unfold maxLen; omega) (by omega) hs1 ?_; intro v2 w2 hown2 hgrow2; have HB2 := hid (HB1.out.grown hgrow2 HB1.out.size (fun j hj => Nat.le_of_succ_le (HO1.out.lt j hj).1)); have HM2 := hid (HM1.out.kept hgrow2 (row_low HO1.out)); have hs2 := Nat.le_trans hs1 hgrow2.size; obtain ⟨a2, n2, c2, hv2, HO2, hn2a, hn2b⟩ := own_both hown2; subst hv2; clear hown2 hgrow2 hs1))
  have HRl : Hid (∀ s ∈ a ++ b, CL.Rs s) := fun s hs => by
    rcases List.mem_append.1 hs with h | h
    · exact HRa.out s h
    · exact HRb.out s h
  have hLl : (a ++ b).length ≤ 120 := by simp; omega
  generalize hL : a ++ b = L at *
  have HL := hid hL
  clear hL
  go_loopw [18] (fun ti wr => ∃ (k : Nat) (D : DataW Unit), k ≤ L.length ∧ ti = .int .i64 k ∧ wr.ownsRow (w.heap.size + 1) 29 2 (.slice a2 n2 c2) L.length (sv L) ∧ wr.ownsMap Try.prog 2 (plainElem Try.prog 2) w.heap.size k D ∧ Tells D (L.take k) ∧ Below w.heap.size w wr ∧ w.heap.size + 1 ≤ wr.heap.size) (fun ti _ => L.length - (intOf ti).toNat)
  case atStart => exact ⟨0, .map [], Nat.zero_le _, rfl, HO2.out.1, HM2.out, Tells.start, HB2.out, hs2⟩
  case round =>
    obtain ⟨k, D, hk, rfl, hown, hmap, htel, hbel, hws⟩ := hrel
    have HO := hid hown
    have HM := hid hmap
    have HT := hid htel
    have HBl := hid hbel
    have hsz := hbel.size
    clear hown hmap htel hbel
    by_cases hlt : k < L.length
    · have hS : SRow wr a2 L := own_srow (by have := HO.out; rw [HO2.out.2] at this; exact this)
      obtain ⟨b0, off, hao, c0, c1, hbs⟩ := hS k hlt
      have HR := hid (HRl.out (CL.at' L k) (by
        have e : CL.at' L k = L[k] := by simp [CL.at', hlt]
        rw [e]; exact List.getElem_mem hlt))
      have HTk : Hid (L.take (k + 1) = L.take k ++ [CL.at' L k]) := by
        show _ = _
        rw [List.take_succ_eq_append_getElem hlt]
        simp [CL.at', hlt]
      clear hS
      subst hao
      generalize CL.at' L k = x at *
      obtain ⟨x1, x2⟩ := x
      simp only at c0 c1
      have hkn : k < n2 := by omega
      go_wp2_with (at_mapUpdate; refine wpList_mapUpdate_own _ rfl _ _ _ 31 rfl 2 2 law64 Try.underlying31 _ w.heap.size k _ rfl (HM.out.alloc _) (by unfold maxLen; omega) _ _ _ rfl rfl (keyOf_int_mk Try.underlying2 (wf64 HR.out.1)) _ [] (plainElem_int Try.underlying2 (wf64 HR.out.2)) ?_; intro w4 hmap4 hgrow4)
      have HG4 := hid hgrow4
      have HM4 := hid hmap4
      clear hmap4 hgrow4
      go_roundw
      case rel =>
        refine ⟨k + 1, _, by omega, by go_num, ?_, HM4.out, ?_, ?_, ?_⟩
        · exact (HO.out.alloc _).kept HG4.out (.inr (row_low HO.out).symm)
        · rw [HTk.out]; exact HT.out.step (x1, x2)
        · exact (HBl.out.alloc hsz _).grown HG4.out (by simp; omega) (fun j hj => by cases hj; exact Nat.le_refl _)
        · have := HG4.out.size
          simp at this; omega
      case measure => simp [intOf]; omega
    · have he : k = L.length := by omega
      subst he
      have HT2 : Hid (Tells D L) := by
        show Tells D L
        have := HT.out
        rwa [List.take_of_length_le (Nat.le_refl _)] at this
      have hDs : Maps.size D ≤ 120 := Nat.le_trans HT2.out.2.1 hLl
      have hB1 : BoxV wr.heap.size (wr.alloc (.cells #[.slice none 0 0] 22)) (.slice none 0 0) := heap_alloc_new wr _
      have HX1 := hid hB1
      have e1 : (wr.alloc (.cells #[.slice none 0 0] 22)).heap.size = wr.heap.size + 1 := by simp
      clear HT hB1
      go_wp2_with (at_range; refine wpList_range_own _ rfl _ 31 rfl 2 2 law64 Try.underlying31 _ w.heap.size L.length _ rfl (HM.out.alloc _) ?_; intro w5 hrg5 hg5 hs5)
      go_frame
      rw [e1] at hrg5 hs5 ⊢
      have hdec : decide (L.length < n2) = false := decide_eq_false (by omega)
      rw [hdec]
      clear hdec
      have HX5 := hid (HX1.out.kept hg5 (by simp))
      have HB5 := hid (((HBl.out.alloc hsz (.cells #[.slice none 0 0] 22))).grown hg5 (by simp; omega) (fun j hj => by cases hj))
      have HR5 := hid hrg5
      have hs5a : wr.heap.size + 1 + 1 ≤ w5.heap.size := by omega
      clear hrg5 hs5 hg5 e1 HX1 HM HBl HO
      generalize wr.heap.size = Bs at *
      go_loopw [9] (fun _ wq => ∃ (left : Lit → Bool) (cnt : Nat) (ss : List CL.Smp) (v : Value), wq.ranges Try.prog 2 (plainElem Try.prog 2) w.heap.size (Bs + 1) L.length D left cnt ∧ ss.length + cnt ≤ Maps.size D ∧ BoxV Bs wq v ∧ wq.ownsRow (Bs + 1 + 1) 29 2 v ss.length (sv ss) ∧ Coll D left ss ∧ Below w.heap.size w wq ∧ Bs + 1 + 1 ≤ wq.heap.size) (fun _ wq => wq.rangeLeft w.heap.size (Bs + 1))
      case atStart => exact ⟨_, _, [], _, HR5.out, by simp, HX5.out, World.ownsRow_nil _ _ _ _, Coll.start D, HB5.out, hs5a⟩
      case round =>
        obtain ⟨left, cnt, ss, v, hrg, hcs, hbox, hown, hcol, hbel, hsq⟩ := hrel
        have HR := hid hrg
        have HX := hid hbox
        have HO := hid hown
        have HC := hid hcol
        have HBl := hid hbel
        have hsz2 := hbel.size
        clear hrg hbox hown hcol hbel
        go_wp2_with (at_next; refine wpList_next_ranges_ii _ rfl _ rfl 2 2 .i64 .i64 law64 Try.underlying2 Try.underlying2 w.heap.size (Bs + 1) L.length _ _ _ rfl HR.out ?_ ?_)
        · intro hc0 hl0
          have HL0 := hid hl0
          have c6 := HX.out.cell.1
          obtain ⟨av, nv, cv, hv, hnv⟩ : ∃ av nv cv, v = .slice av nv cv ∧ nv = ss.length := by
            obtain ⟨av, cv, h⟩ := own_slice HO.out
            exact ⟨av, _, cv, h, rfl⟩
          clear hnv
          subst hv
          have hl62 : ss.length < 4611686018427387904 := by omega
          have HS := hid (sort_any _ _ Bs ss wr HO.out hl62 c6 (heap_lt HX.out) (row_far HO.out (by omega)))
          clear hc0 hl0 hl62
          go_wp2_with fail
          refine HS.out.mono ?_
          rintro e w9 ⟨rfl, l', hp, hs, hown9, hg9⟩
          have c9 := (HX.out.kept hg9 (row_far HO.out (by omega)).symm).cell.1
          have HM9 : Hid (l' = CL.mrg a b) := by
            have hT := HT2.out
            rw [← HL.out] at hT
            exact HC.out.whole HL0.out hT Hra.out Hrb.out hp hs
          have HO9 : Hid (w9.ownsRow w.heap.size 29 2 (.slice av nv cv) (CL.mrg a b).length (sv (CL.mrg a b))) := by
            have h := own_base hown9 (base' := w.heap.size) (by omega)
            rw [← hp.length_eq, HM9.out] at h
            exact h
          have HB9 := hid (HBl.out.grown hg9 hsz2 (fun j hj => by have := (HO.out.lt j hj).1; omega))
          clear hp hs hown9 hg9
          go_wp2_with fail
          go_ret
          exact ⟨_, rfl, HO9.out, HB9.out⟩
        · intro x c w6 cnt6 hwx hwc hlx hat hrg6 hlt6 hg6 hs6 hen
          have HR6 := hid hrg6
          have HC6 := hid (HC.out.step hlx hat)
          have HX6 := hid (HX.out.kept hg6 (by simp))
          have HO6 := hid (HO.out.kept hg6 (.inr (row_far HO.out (by omega))))
          have HB6 := hid (HBl.out.grown hg6 hsz2 (fun j hj => by cases hj; omega))
          have hs6a : Bs + 1 + 1 ≤ w6.heap.size := Nat.le_trans hsq hg6.size
          have c6 := HX6.out.cell.1
          obtain ⟨av, nv, cv, hv, hnv⟩ : ∃ av nv cv, v = .slice av nv cv ∧ nv = ss.length := by
            obtain ⟨av, cv, h⟩ := own_slice HO.out
            exact ⟨av, _, cv, h, rfl⟩
          clear hnv
          subst hv
          clear hrg6 hlx hat hg6 hs6 hwx hwc
          go_wp2_with (at_builtin; refine wpList_append_own _ rfl (.tmp 35) (.tmp 39) 22 rfl (Bs + 1 + 1) 29 ii (.agg #[.int .i64 0, .int .i64 0]) 2 16 Try.underlying22 HI0.out HZ0.out HZ1.out HZ2.out rfl (by decide) _ ss.length (sv ss) rfl (HO6.out.alloc _) ⟨w6.heap.size, 0, none⟩ 1 1 [.int .i64 x, .int .i64 c] rfl rfl (two_news _ _ _ _) (two_i64 _ _) (by unfold maxLen; omega) (by omega) (by simp <;> omega) ?_; intro v7 w7 hown7 hgrow7 _; obtain ⟨g7, cap7, hv7⟩ := own_succ hown7; subst hv7; have HO7 := hid hown7; have HX7 := hid ((HX6.out.alloc _).kept hgrow7 (row_far HO6.out (by omega)).symm); have HR7 := hid ((HR6.out.alloc _).kept hgrow7 (row_far HO6.out (by omega)).symm (row_far HO6.out (by omega)).symm); have HB7 := hid ((HB6.out.alloc (by omega) _).grown hgrow7 (by simp <;> omega) (fun j hj => by have := (HO6.out.lt j hj).1; omega)); have hs7 : Bs + 1 + 1 ≤ w7.heap.size := (by have := hgrow7.size; simp at this; omega); have c7 := HX7.out.cell.1; have f7 := HX7.out.cell.2; clear hown7 hgrow7)
          have HG8 := hid (grown_set w7 Bs (.slice (some ⟨g7, 0, none⟩) (ss.length + 1) cap7))
          have hs8 := HG8.out.size
          have HR8 := hid (HR7.out.kept HG8.out (fun e => by have := Option.some.inj e; omega) (fun e => by have := Option.some.inj e; omega))
          have HRo := hid HR.out.left_eq
          have HR9 := hid HR8.out.left_eq
          go_roundw
          case rel =>
            refine ⟨_, cnt6, ss ++ [(x, c)], _, HR8.out, by simp; omega, HX7.out.set _, ?_, HC6.out, ?_, Nat.le_trans hs7 hs8⟩
            · have := HO7.out.kept HG8.out (.inr (row_far HO7.out (by omega)))
              rw [List.length_append, sv_append]
              exact this
            · exact HB7.out.grown HG8.out (by omega) (fun j hj => by cases hj; omega)
          case measure => rw [HR9.out, HRo.out]; exact hlt6

end Go.Proofs.Ytdmnlmohfaafoaa
