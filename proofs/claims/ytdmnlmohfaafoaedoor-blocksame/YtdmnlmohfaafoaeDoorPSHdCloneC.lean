/- slices.Clone at labels, samples and series (made by mkhc.py). -/
import Derived.Test.YtdmnlmohfaafoaeDoorPSCdMem
import Derived.OwnWalk
import Derived.Laws.AppendOwnNone
namespace Go.Proofs.YtdmnlmohfaafoaeDoor
open Go.RowKit

theorem eqs_someL (a : Addr) (n c : Nat) (w : World) : (binOp .eql 35 (.slice (some a) n c) (.slice none 0 0)).run Tryd.prog w = .ok (.bool false) w := by kernel_rfl
theorem eqs_noneL (w : World) : (binOp .eql 35 (.slice none 0 0) (.slice none 0 0)).run Tryd.prog w = .ok (.bool true) w := by kernel_rfl
theorem Tryd.infoCL : (Tryd.prog.info? 84).map (fun i => (i.zero, i.size, i.bytes)) = some (some (.agg #[.string ⟨#[]⟩, .string ⟨#[]⟩]), 2, 32) := by kernel_rfl
theorem Tryd.uCL : Tryd.prog.underlying 35 = some (.slice 84) := by kernel_rfl

set_option maxRecDepth 100000 in
/-- slices.Clone at []Label. -/
theorem cloneL (ad : Addr) (m c : Nat) (news : List Value) (w : World) (hl : news.length = m * 2) (hc : ∀ j u, news[j]? = some u → w.cell? (ad.add j) = some u) (hb : ad.block < w.heap.size) (h1 : ∀ u ∈ news, u.oneCell' = true) (hm : m ≤ 1000000) :
    Calls Tryd.prog 55 #[.slice (some ad) m c] w fun en w' => ∃ v', en = .returned v' ∧ w'.ownsRow w.heap.size 84 2 v' m news ∧ Below w.heap.size w w' := by
  obtain ⟨i, hi, hz0, hz1, hz2⟩ := info_parts Tryd.infoCL
  have heq := eqs_someL ad m c
  have HC := hid hc
  have HI0 := hid hi
  have HZ0 := hid hz0
  have HZ1 := hid hz1
  have HZ2 := hid hz2
  have HL := hid hl
  have H1 := hid h1
  clear hc hi hz0 hz1 hz2 hl h1
  go_enter Tryd.func55, Tryd.ntmps55
  have HO : Hid ((w.alloc (.cells #[] 84)).ownsRow w.heap.size 84 2 (.slice (some ⟨w.heap.size, 0, none⟩) 0 0) 0 []) := ⟨rfl, .inr ⟨w.heap.size, 0, #[], rfl, Nat.le_refl _, heap_alloc_new w _, Nat.le_refl _, by unfold maxLen; omega, rfl, rfl⟩⟩
  have HN : Hid (∀ j u, news[j]? = some u → (w.alloc (.cells #[] 84)).cell? (ad.add j) = some u) := fun j u hj => by
    have h1 := HC.out j u hj
    have hbk : (ad.add j).block = ad.block := by unfold Addr.add; split <;> rfl
    exact (World.cell?_of_block (w := w) (w' := w.alloc (.cells #[] 84)) (a := ad.add j) (by rw [hbk]; exact Below.heap_alloc w _ ad.block hb)).trans h1
  go_wp2_with (at_builtin; refine wpList_append_own _ rfl (.tmp 5) (.tmp 6) 35 rfl w.heap.size 84 i (.agg #[.string ⟨#[]⟩, .string ⟨#[]⟩]) 2 32 Tryd.uCL HI0.out HZ0.out HZ1.out HZ2.out rfl (by decide) _ 0 [] rfl HO.out ad m c news rfl HL.out HN.out H1.out (by unfold maxLen; omega) (by omega) (by simp) ?_)
  intro v' w1 hown' hgrow _
  have HQ : Hid (w1.ownsRow w.heap.size 84 2 v' m news ∧ Below w.heap.size w w1) := by
    refine ⟨by simpa using hown', ((Below.refl w.heap.size w).alloc (Nat.le_refl _) (.cells #[] 84)).grown hgrow (by simp) (fun j hj => by cases hj; exact Nat.le_refl _)⟩
  obtain ⟨ao, c', rfl⟩ := own_slice hown'
  clear hown' hgrow HO HN HL
  go_wp2_with fail
  go_ret
  exact ⟨_, rfl, HQ.out.1, HQ.out.2⟩

theorem cloneL_none (w : World) :
    Calls Tryd.prog 55 #[.slice none 0 0] w fun en w' => en = .returned (.slice none 0 0) ∧ w' = w := by
  have heq := eqs_noneL
  go_enter Tryd.func55, Tryd.ntmps55
  go_wp2
  go_ret
  exact ⟨rfl, rfl⟩

theorem eqs_someS (a : Addr) (n c : Nat) (w : World) : (binOp .eql 36 (.slice (some a) n c) (.slice none 0 0)).run Tryd.prog w = .ok (.bool false) w := by kernel_rfl
theorem eqs_noneS (w : World) : (binOp .eql 36 (.slice none 0 0) (.slice none 0 0)).run Tryd.prog w = .ok (.bool true) w := by kernel_rfl
theorem Tryd.infoCS : (Tryd.prog.info? 42).map (fun i => (i.zero, i.size, i.bytes)) = some (some (.agg #[.int .i64 0, .int .i64 0]), 2, 16) := by kernel_rfl
theorem Tryd.uCS : Tryd.prog.underlying 36 = some (.slice 42) := by kernel_rfl

set_option maxRecDepth 100000 in
/-- slices.Clone at []Sample. -/
theorem cloneS (ad : Addr) (m c : Nat) (news : List Value) (w : World) (hl : news.length = m * 2) (hc : ∀ j u, news[j]? = some u → w.cell? (ad.add j) = some u) (hb : ad.block < w.heap.size) (h1 : ∀ u ∈ news, u.oneCell' = true) (hm : m ≤ 1000000) :
    Calls Tryd.prog 76 #[.slice (some ad) m c] w fun en w' => ∃ v', en = .returned v' ∧ w'.ownsRow w.heap.size 42 2 v' m news ∧ Below w.heap.size w w' := by
  obtain ⟨i, hi, hz0, hz1, hz2⟩ := info_parts Tryd.infoCS
  have heq := eqs_someS ad m c
  have HC := hid hc
  have HI0 := hid hi
  have HZ0 := hid hz0
  have HZ1 := hid hz1
  have HZ2 := hid hz2
  have HL := hid hl
  have H1 := hid h1
  clear hc hi hz0 hz1 hz2 hl h1
  go_enter Tryd.func76, Tryd.ntmps76
  have HO : Hid ((w.alloc (.cells #[] 42)).ownsRow w.heap.size 42 2 (.slice (some ⟨w.heap.size, 0, none⟩) 0 0) 0 []) := ⟨rfl, .inr ⟨w.heap.size, 0, #[], rfl, Nat.le_refl _, heap_alloc_new w _, Nat.le_refl _, by unfold maxLen; omega, rfl, rfl⟩⟩
  have HN : Hid (∀ j u, news[j]? = some u → (w.alloc (.cells #[] 42)).cell? (ad.add j) = some u) := fun j u hj => by
    have h1 := HC.out j u hj
    have hbk : (ad.add j).block = ad.block := by unfold Addr.add; split <;> rfl
    exact (World.cell?_of_block (w := w) (w' := w.alloc (.cells #[] 42)) (a := ad.add j) (by rw [hbk]; exact Below.heap_alloc w _ ad.block hb)).trans h1
  go_wp2_with (at_builtin; refine wpList_append_own _ rfl (.tmp 5) (.tmp 6) 36 rfl w.heap.size 42 i (.agg #[.int .i64 0, .int .i64 0]) 2 16 Tryd.uCS HI0.out HZ0.out HZ1.out HZ2.out rfl (by decide) _ 0 [] rfl HO.out ad m c news rfl HL.out HN.out H1.out (by unfold maxLen; omega) (by omega) (by simp) ?_)
  intro v' w1 hown' hgrow _
  have HQ : Hid (w1.ownsRow w.heap.size 42 2 v' m news ∧ Below w.heap.size w w1) := by
    refine ⟨by simpa using hown', ((Below.refl w.heap.size w).alloc (Nat.le_refl _) (.cells #[] 42)).grown hgrow (by simp) (fun j hj => by cases hj; exact Nat.le_refl _)⟩
  obtain ⟨ao, c', rfl⟩ := own_slice hown'
  clear hown' hgrow HO HN HL
  go_wp2_with fail
  go_ret
  exact ⟨_, rfl, HQ.out.1, HQ.out.2⟩

theorem cloneS_none (w : World) :
    Calls Tryd.prog 76 #[.slice none 0 0] w fun en w' => en = .returned (.slice none 0 0) ∧ w' = w := by
  have heq := eqs_noneS
  go_enter Tryd.func76, Tryd.ntmps76
  go_wp2
  go_ret
  exact ⟨rfl, rfl⟩

theorem eqs_someX (a : Addr) (n c : Nat) (w : World) : (binOp .eql 27 (.slice (some a) n c) (.slice none 0 0)).run Tryd.prog w = .ok (.bool false) w := by kernel_rfl
theorem eqs_noneX (w : World) : (binOp .eql 27 (.slice none 0 0) (.slice none 0 0)).run Tryd.prog w = .ok (.bool true) w := by kernel_rfl
theorem Tryd.infoCX : (Tryd.prog.info? 38).map (fun i => (i.zero, i.size, i.bytes)) = some (some (.agg #[.slice none 0 0, .slice none 0 0]), 2, 48) := by kernel_rfl
theorem Tryd.uCX : Tryd.prog.underlying 27 = some (.slice 38) := by kernel_rfl

set_option maxRecDepth 100000 in
/-- slices.Clone at []Series. -/
theorem cloneX (ad : Addr) (m c : Nat) (news : List Value) (w : World) (hl : news.length = m * 2) (hc : ∀ j u, news[j]? = some u → w.cell? (ad.add j) = some u) (hb : ad.block < w.heap.size) (h1 : ∀ u ∈ news, u.oneCell' = true) (hm : m ≤ 1000000) :
    Calls Tryd.prog 37 #[.slice (some ad) m c] w fun en w' => ∃ v', en = .returned v' ∧ w'.ownsRow w.heap.size 38 2 v' m news ∧ Below w.heap.size w w' := by
  obtain ⟨i, hi, hz0, hz1, hz2⟩ := info_parts Tryd.infoCX
  have heq := eqs_someX ad m c
  have HC := hid hc
  have HI0 := hid hi
  have HZ0 := hid hz0
  have HZ1 := hid hz1
  have HZ2 := hid hz2
  have HL := hid hl
  have H1 := hid h1
  clear hc hi hz0 hz1 hz2 hl h1
  go_enter Tryd.func37, Tryd.ntmps37
  have HO : Hid ((w.alloc (.cells #[] 38)).ownsRow w.heap.size 38 2 (.slice (some ⟨w.heap.size, 0, none⟩) 0 0) 0 []) := ⟨rfl, .inr ⟨w.heap.size, 0, #[], rfl, Nat.le_refl _, heap_alloc_new w _, Nat.le_refl _, by unfold maxLen; omega, rfl, rfl⟩⟩
  have HN : Hid (∀ j u, news[j]? = some u → (w.alloc (.cells #[] 38)).cell? (ad.add j) = some u) := fun j u hj => by
    have h1 := HC.out j u hj
    have hbk : (ad.add j).block = ad.block := by unfold Addr.add; split <;> rfl
    exact (World.cell?_of_block (w := w) (w' := w.alloc (.cells #[] 38)) (a := ad.add j) (by rw [hbk]; exact Below.heap_alloc w _ ad.block hb)).trans h1
  go_wp2_with (at_builtin; refine wpList_append_own _ rfl (.tmp 5) (.tmp 6) 27 rfl w.heap.size 38 i (.agg #[.slice none 0 0, .slice none 0 0]) 2 48 Tryd.uCX HI0.out HZ0.out HZ1.out HZ2.out rfl (by decide) _ 0 [] rfl HO.out ad m c news rfl HL.out HN.out H1.out (by unfold maxLen; omega) (by omega) (by simp) ?_)
  intro v' w1 hown' hgrow _
  have HQ : Hid (w1.ownsRow w.heap.size 38 2 v' m news ∧ Below w.heap.size w w1) := by
    refine ⟨by simpa using hown', ((Below.refl w.heap.size w).alloc (Nat.le_refl _) (.cells #[] 38)).grown hgrow (by simp) (fun j hj => by cases hj; exact Nat.le_refl _)⟩
  obtain ⟨ao, c', rfl⟩ := own_slice hown'
  clear hown' hgrow HO HN HL
  go_wp2_with fail
  go_ret
  exact ⟨_, rfl, HQ.out.1, HQ.out.2⟩

theorem cloneX_none (w : World) :
    Calls Tryd.prog 37 #[.slice none 0 0] w fun en w' => en = .returned (.slice none 0 0) ∧ w' = w := by
  have heq := eqs_noneX
  go_enter Tryd.func37, Tryd.ntmps37
  go_wp2
  go_ret
  exact ⟨rfl, rfl⟩

end Go.Proofs.YtdmnlmohfaafoaeDoor

