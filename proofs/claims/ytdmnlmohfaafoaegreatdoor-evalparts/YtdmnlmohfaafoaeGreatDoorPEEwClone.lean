/- slices.Clone at labels and matchers. -/
import Derived.Test.YtdmnlmohfaafoaeGreatDoorPEBmMem
import Derived.Test.YtdmnlmohfaafoaeGreatDoorPEAqTreeE
import Derived.OwnWalk
import Derived.Laws.AppendOwnNone
namespace Go.Proofs.YtdmnlmohfaafoaeGreatDoor
open Go.RowKit

theorem eqs_someL (a : Addr) (n c : Nat) (w : World) : (binOp .eql 53 (.slice (some a) n c) (.slice none 0 0)).run Tryz.prog w = .ok (.bool false) w := by kernel_rfl
theorem eqs_noneL (w : World) : (binOp .eql 53 (.slice none 0 0) (.slice none 0 0)).run Tryz.prog w = .ok (.bool true) w := by kernel_rfl
theorem Tryz.infoCL : (Tryz.prog.info? 105).map (fun i => (i.zero, i.size, i.bytes)) = some (some (.agg #[.string ⟨#[]⟩, .string ⟨#[]⟩]), 2, 32) := by kernel_rfl
theorem Tryz.uCL : Tryz.prog.underlying 53 = some (.slice 105) := by kernel_rfl

set_option maxRecDepth 100000 in
/-- slices.Clone at []Label. -/
theorem cloneL (ad : Addr) (m c : Nat) (news : List Value) (w : World) (hl : news.length = m * 2) (hc : ∀ j u, news[j]? = some u → w.cell? (ad.add j) = some u) (hb : ad.block < w.heap.size) (h1 : ∀ u ∈ news, u.oneCell' = true) (hm : m ≤ 1000000) :
    Calls Tryz.prog 139 #[.slice (some ad) m c] w fun en w' => ∃ v', en = .returned v' ∧ w'.ownsRow w.heap.size 105 2 v' m news ∧ Below w.heap.size w w' := by
  obtain ⟨i, hi, hz0, hz1, hz2⟩ := info_parts Tryz.infoCL
  have heq := eqs_someL ad m c
  have HC := hid hc
  have HI0 := hid hi
  have HZ0 := hid hz0
  have HZ1 := hid hz1
  have HZ2 := hid hz2
  have HL := hid hl
  have H1 := hid h1
  clear hc hi hz0 hz1 hz2 hl h1
  go_enter Tryz.func139, Tryz.ntmps139
  have HO : Hid ((w.alloc (.cells #[] 105)).ownsRow w.heap.size 105 2 (.slice (some ⟨w.heap.size, 0, none⟩) 0 0) 0 []) := ⟨rfl, .inr ⟨w.heap.size, 0, #[], rfl, Nat.le_refl _, heap_alloc_new w _, Nat.le_refl _, by unfold maxLen; omega, rfl, rfl⟩⟩
  have HN : Hid (∀ j u, news[j]? = some u → (w.alloc (.cells #[] 105)).cell? (ad.add j) = some u) := fun j u hj => by
    have h1 := HC.out j u hj
    have hbk : (ad.add j).block = ad.block := by unfold Addr.add; split <;> rfl
    exact (World.cell?_of_block (w := w) (w' := w.alloc (.cells #[] 105)) (a := ad.add j) (by rw [hbk]; exact Below.heap_alloc w _ ad.block hb)).trans h1
  go_wp2_with (at_builtin; refine wpList_append_own _ rfl (.tmp 5) (.tmp 6) 53 rfl w.heap.size 105 i (.agg #[.string ⟨#[]⟩, .string ⟨#[]⟩]) 2 32 Tryz.uCL HI0.out HZ0.out HZ1.out HZ2.out rfl (by decide) _ 0 [] rfl HO.out ad m c news rfl HL.out HN.out H1.out (by unfold maxLen; omega) (by omega) (by simp) ?_)
  intro v' w1 hown' hgrow _
  have HQ : Hid (w1.ownsRow w.heap.size 105 2 v' m news ∧ Below w.heap.size w w1) := by
    refine ⟨by simpa using hown', ((Below.refl w.heap.size w).alloc (Nat.le_refl _) (.cells #[] 105)).grown hgrow (by simp) (fun j hj => by cases hj; exact Nat.le_refl _)⟩
  obtain ⟨ao, c', rfl⟩ := own_slice hown'
  clear hown' hgrow HO HN HL
  go_wp2_with fail
  go_ret
  exact ⟨_, rfl, HQ.out.1, HQ.out.2⟩

theorem cloneL_none (w : World) :
    Calls Tryz.prog 139 #[.slice none 0 0] w fun en w' => en = .returned (.slice none 0 0) ∧ w' = w := by
  have heq := eqs_noneL
  go_enter Tryz.func139, Tryz.ntmps139
  go_wp2
  go_ret
  exact ⟨rfl, rfl⟩

theorem eqs_someM (a : Addr) (n c : Nat) (w : World) : (binOp .eql 45 (.slice (some a) n c) (.slice none 0 0)).run Tryz.prog w = .ok (.bool false) w := by kernel_rfl
theorem eqs_noneM (w : World) : (binOp .eql 45 (.slice none 0 0) (.slice none 0 0)).run Tryz.prog w = .ok (.bool true) w := by kernel_rfl
theorem Tryz.infoCM : (Tryz.prog.info? 156).map (fun i => (i.zero, i.size, i.bytes)) = some (some (.agg #[.string ⟨#[]⟩, .int .i64 0, .string ⟨#[]⟩]), 3, 40) := by kernel_rfl
theorem Tryz.uCM : Tryz.prog.underlying 45 = some (.slice 156) := by kernel_rfl

set_option maxRecDepth 100000 in
/-- slices.Clone at []Label. -/
theorem cloneM (ad : Addr) (m c : Nat) (news : List Value) (w : World) (hl : news.length = m * 3) (hc : ∀ j u, news[j]? = some u → w.cell? (ad.add j) = some u) (hb : ad.block < w.heap.size) (h1 : ∀ u ∈ news, u.oneCell' = true) (hm : m ≤ 1000000) :
    Calls Tryz.prog 174 #[.slice (some ad) m c] w fun en w' => ∃ v', en = .returned v' ∧ w'.ownsRow w.heap.size 156 3 v' m news ∧ Below w.heap.size w w' := by
  obtain ⟨i, hi, hz0, hz1, hz2⟩ := info_parts Tryz.infoCM
  have heq := eqs_someM ad m c
  have HC := hid hc
  have HI0 := hid hi
  have HZ0 := hid hz0
  have HZ1 := hid hz1
  have HZ2 := hid hz2
  have HL := hid hl
  have H1 := hid h1
  clear hc hi hz0 hz1 hz2 hl h1
  go_enter Tryz.func174, Tryz.ntmps174
  have HO : Hid ((w.alloc (.cells #[] 156)).ownsRow w.heap.size 156 3 (.slice (some ⟨w.heap.size, 0, none⟩) 0 0) 0 []) := ⟨rfl, .inr ⟨w.heap.size, 0, #[], rfl, Nat.le_refl _, heap_alloc_new w _, Nat.le_refl _, by unfold maxLen; omega, rfl, rfl⟩⟩
  have HN : Hid (∀ j u, news[j]? = some u → (w.alloc (.cells #[] 156)).cell? (ad.add j) = some u) := fun j u hj => by
    have h1 := HC.out j u hj
    have hbk : (ad.add j).block = ad.block := by unfold Addr.add; split <;> rfl
    exact (World.cell?_of_block (w := w) (w' := w.alloc (.cells #[] 156)) (a := ad.add j) (by rw [hbk]; exact Below.heap_alloc w _ ad.block hb)).trans h1
  go_wp2_with (at_builtin; refine wpList_append_own _ rfl (.tmp 5) (.tmp 6) 45 rfl w.heap.size 156 i (.agg #[.string ⟨#[]⟩, .int .i64 0, .string ⟨#[]⟩]) 3 40 Tryz.uCM HI0.out HZ0.out HZ1.out HZ2.out rfl (by decide) _ 0 [] rfl HO.out ad m c news rfl HL.out HN.out H1.out (by unfold maxLen; omega) (by omega) (by simp) ?_)
  intro v' w1 hown' hgrow _
  have HQ : Hid (w1.ownsRow w.heap.size 156 3 v' m news ∧ Below w.heap.size w w1) := by
    refine ⟨by simpa using hown', ((Below.refl w.heap.size w).alloc (Nat.le_refl _) (.cells #[] 156)).grown hgrow (by simp) (fun j hj => by cases hj; exact Nat.le_refl _)⟩
  obtain ⟨ao, c', rfl⟩ := own_slice hown'
  clear hown' hgrow HO HN HL
  go_wp2_with fail
  go_ret
  exact ⟨_, rfl, HQ.out.1, HQ.out.2⟩

theorem cloneM_none (w : World) :
    Calls Tryz.prog 174 #[.slice none 0 0] w fun en w' => en = .returned (.slice none 0 0) ∧ w' = w := by
  have heq := eqs_noneM
  go_enter Tryz.func174, Tryz.ntmps174
  go_wp2
  go_ret
  exact ⟨rfl, rfl⟩

theorem ew_mcells (l : List LB.Mat) (i : Nat) (hi : i < l.length) : (mcells l)[i * 3]? = some (.string (LB.am l i).nm) ∧ (mcells l)[i * 3 + 1]? = some (.int .i64 (LB.am l i).op) ∧ (mcells l)[i * 3 + 2]? = some (.string (LB.am l i).vl) := by
  induction l generalizing i with
  | nil => simp at hi
  | cons t l ih =>
    cases i with
    | zero => exact ⟨rfl, rfl, rfl⟩
    | succ i =>
      obtain ⟨a, b, c⟩ := ih i (by simpa using hi)
      have e : LB.am (t :: l) (i + 1) = LB.am l i := rfl
      have e3 : ∀ k, (mcells (t :: l))[k + 3]? = (mcells l)[k]? := fun k => by simp [mcells]
      rw [e, show (i + 1) * 3 = i * 3 + 3 by omega, e3, show i * 3 + 3 + 1 = (i * 3 + 1) + 3 by omega, e3, show i * 3 + 3 + 2 = (i * 3 + 2) + 3 by omega, e3]
      exact ⟨a, b, c⟩

theorem ew_mrow {w : World} {base : Nat} {ao : Option Addr} {cap : Nat} {l : List LB.Mat} (h : OwnM w base (.slice ao l.length cap) l) : MRow w ao l := fun i hi => by
  rcases h.2 with ⟨_, h0⟩ | ⟨g, c, cur, h0, h1, h2, h3⟩
  · omega
  · cases h0
    obtain ⟨a, b, c⟩ := ew_mcells l i hi
    refine ⟨g, 0, rfl, ?_, ?_, ?_, heap_lt h2⟩
    · rw [Nat.zero_add]; exact (h.cellAt (i * 3) (by omega)).trans a
    · rw [Nat.zero_add]; exact (h.cellAt (i * 3 + 1) (by omega)).trans b
    · rw [Nat.zero_add]; exact (h.cellAt (i * 3 + 2) (by omega)).trans c

theorem cloneL_row (ao : Option Addr) (l : List LB.Lab) (c : Nat) (w : World) (h : LRow w ao l) (h0 : 0 < l.length) (hl : l.length ≤ 1000000) :
    Calls Tryz.prog 139 #[.slice ao l.length c] w fun en w' => ∃ v', en = .returned v' ∧ OwnLb w' w.heap.size v' l ∧ Below w.heap.size w w' := by
  obtain ⟨b, off, e, _, _, hb⟩ := h 0 h0
  subst e
  exact cloneL ⟨b, off, none⟩ l.length c (lv l) w (lv_length l) (lrow_cells h _ rfl) hb (lv_one l) hl

theorem mcells_one (l : List LB.Mat) : ∀ u ∈ mcells l, u.oneCell' = true := by
  intro u hu
  simp only [mcells, List.mem_flatMap, List.mem_cons, List.not_mem_nil, or_false] at hu
  obtain ⟨s, _, rfl | rfl | rfl⟩ := hu <;> rfl

/-- A copy of matchers. -/
theorem cloneM_any (v : Value) (m : List LB.Mat) (w : World) (h : OwnM w 0 v m) (hl : m.length ≤ 1000000) :
    Calls Tryz.prog 174 #[v] w fun en w' => ∃ mo mc, en = .returned (.slice mo m.length mc) ∧ MRow w' mo m ∧ Below w.heap.size w w' := by
  rcases h.2 with ⟨e, hn⟩ | ⟨g, cap, cur, e, _, hg, _⟩
  · subst e
    refine (cloneM_none w).mono ?_
    rintro en w' ⟨rfl, rfl⟩
    have e0 : m = [] := List.eq_nil_of_length_eq_zero hn
    subst e0
    exact ⟨none, 0, rfl, fun i hi => absurd hi (Nat.not_lt_zero i), Below.refl _ _⟩
  · subst e
    refine (cloneM ⟨g, 0, none⟩ m.length cap (mcells m) w h.1 (h.cells (g := g) rfl) (heap_lt hg) (mcells_one m) hl).mono ?_
    rintro en w' ⟨v', rfl, ho, hb⟩
    obtain ⟨mo, mc, ev⟩ := own_slice ho
    subst ev
    exact ⟨mo, mc, rfl, ew_mrow ho, hb⟩

end Go.Proofs.YtdmnlmohfaafoaeGreatDoor

