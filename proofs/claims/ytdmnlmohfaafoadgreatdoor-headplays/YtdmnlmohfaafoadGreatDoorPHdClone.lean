/- slices.Clone at labels, samples and series (made by mkhc.py). -/
import Derived.Test.YtdmnlmohfaafoadGreatDoorPHdMem
import Derived.OwnWalk
import Derived.Laws.AppendOwnNone
namespace Go.Proofs.YtdmnlmohfaafoadGreatDoor
open Go.RowKit

theorem eqs_someL (a : Addr) (n c : Nat) (w : World) : (binOp .eql 50 (.slice (some a) n c) (.slice none 0 0)).run Tryz.prog w = .ok (.bool false) w := by kernel_rfl
theorem eqs_noneL (w : World) : (binOp .eql 50 (.slice none 0 0) (.slice none 0 0)).run Tryz.prog w = .ok (.bool true) w := by kernel_rfl
theorem Tryz.infoCL : (Tryz.prog.info? 49).map (fun i => (i.zero, i.size, i.bytes)) = some (some (.agg #[.string ⟨#[]⟩, .string ⟨#[]⟩]), 2, 32) := by kernel_rfl
theorem Tryz.uCL : Tryz.prog.underlying 50 = some (.slice 49) := by kernel_rfl

set_option maxRecDepth 100000 in
/-- slices.Clone at []Label. -/
theorem cloneL (ad : Addr) (m c : Nat) (news : List Value) (w : World) (hl : news.length = m * 2) (hc : ∀ j u, news[j]? = some u → w.cell? (ad.add j) = some u) (hb : ad.block < w.heap.size) (h1 : ∀ u ∈ news, u.oneCell' = true) (hm : m ≤ 1000000) :
    Calls Tryz.prog 93 #[.slice (some ad) m c] w fun en w' => ∃ v', en = .returned v' ∧ w'.ownsRow w.heap.size 49 2 v' m news ∧ Below w.heap.size w w' := by
  obtain ⟨i, hi, hz0, hz1, hz2⟩ := info_parts Tryz.infoCL
  have heq := eqs_someL ad m c
  have HC := hid hc
  have HI0 := hid hi
  have HZ0 := hid hz0
  have HZ1 := hid hz1
  have HZ2 := hid hz2
  have HL := hid hl
  have H1 := hid h1
  clear hc hi hz0 hz1 hz2 hl h1
  go_enter Tryz.func93, Tryz.ntmps93
  have HO : Hid ((w.alloc (.cells #[] 49)).ownsRow w.heap.size 49 2 (.slice (some ⟨w.heap.size, 0, none⟩) 0 0) 0 []) := ⟨rfl, .inr ⟨w.heap.size, 0, #[], rfl, Nat.le_refl _, heap_alloc_new w _, Nat.le_refl _, by unfold maxLen; omega, rfl, rfl⟩⟩
  have HN : Hid (∀ j u, news[j]? = some u → (w.alloc (.cells #[] 49)).cell? (ad.add j) = some u) := fun j u hj => by
    have h1 := HC.out j u hj
    have hbk : (ad.add j).block = ad.block := by unfold Addr.add; split <;> rfl
    exact (World.cell?_of_block (w := w) (w' := w.alloc (.cells #[] 49)) (a := ad.add j) (by rw [hbk]; exact Below.heap_alloc w _ ad.block hb)).trans h1
  go_wp2_with (at_builtin; refine wpList_append_own _ rfl (.tmp 5) (.tmp 6) 50 rfl w.heap.size 49 i (.agg #[.string ⟨#[]⟩, .string ⟨#[]⟩]) 2 32 Tryz.uCL HI0.out HZ0.out HZ1.out HZ2.out rfl (by decide) _ 0 [] rfl HO.out ad m c news rfl HL.out HN.out H1.out (by unfold maxLen; omega) (by omega) (by simp) ?_)
  intro v' w1 hown' hgrow _
  have HQ : Hid (w1.ownsRow w.heap.size 49 2 v' m news ∧ Below w.heap.size w w1) := by
    refine ⟨by simpa using hown', ((Below.refl w.heap.size w).alloc (Nat.le_refl _) (.cells #[] 49)).grown hgrow (by simp) (fun j hj => by cases hj; exact Nat.le_refl _)⟩
  obtain ⟨ao, c', rfl⟩ := own_slice hown'
  clear hown' hgrow HO HN HL
  go_wp2_with fail
  go_ret
  exact ⟨_, rfl, HQ.out.1, HQ.out.2⟩

theorem cloneL_none (w : World) :
    Calls Tryz.prog 93 #[.slice none 0 0] w fun en w' => en = .returned (.slice none 0 0) ∧ w' = w := by
  have heq := eqs_noneL
  go_enter Tryz.func93, Tryz.ntmps93
  go_wp2
  go_ret
  exact ⟨rfl, rfl⟩

theorem eqs_someS (a : Addr) (n c : Nat) (w : World) : (binOp .eql 53 (.slice (some a) n c) (.slice none 0 0)).run Tryz.prog w = .ok (.bool false) w := by kernel_rfl
theorem eqs_noneS (w : World) : (binOp .eql 53 (.slice none 0 0) (.slice none 0 0)).run Tryz.prog w = .ok (.bool true) w := by kernel_rfl
theorem Tryz.infoCS : (Tryz.prog.info? 52).map (fun i => (i.zero, i.size, i.bytes)) = some (some (.agg #[.int .i64 0, .int .i64 0]), 2, 16) := by kernel_rfl
theorem Tryz.uCS : Tryz.prog.underlying 53 = some (.slice 52) := by kernel_rfl

set_option maxRecDepth 100000 in
/-- slices.Clone at []Sample. -/
theorem cloneS (ad : Addr) (m c : Nat) (news : List Value) (w : World) (hl : news.length = m * 2) (hc : ∀ j u, news[j]? = some u → w.cell? (ad.add j) = some u) (hb : ad.block < w.heap.size) (h1 : ∀ u ∈ news, u.oneCell' = true) (hm : m ≤ 1000000) :
    Calls Tryz.prog 94 #[.slice (some ad) m c] w fun en w' => ∃ v', en = .returned v' ∧ w'.ownsRow w.heap.size 52 2 v' m news ∧ Below w.heap.size w w' := by
  obtain ⟨i, hi, hz0, hz1, hz2⟩ := info_parts Tryz.infoCS
  have heq := eqs_someS ad m c
  have HC := hid hc
  have HI0 := hid hi
  have HZ0 := hid hz0
  have HZ1 := hid hz1
  have HZ2 := hid hz2
  have HL := hid hl
  have H1 := hid h1
  clear hc hi hz0 hz1 hz2 hl h1
  go_enter Tryz.func94, Tryz.ntmps94
  have HO : Hid ((w.alloc (.cells #[] 52)).ownsRow w.heap.size 52 2 (.slice (some ⟨w.heap.size, 0, none⟩) 0 0) 0 []) := ⟨rfl, .inr ⟨w.heap.size, 0, #[], rfl, Nat.le_refl _, heap_alloc_new w _, Nat.le_refl _, by unfold maxLen; omega, rfl, rfl⟩⟩
  have HN : Hid (∀ j u, news[j]? = some u → (w.alloc (.cells #[] 52)).cell? (ad.add j) = some u) := fun j u hj => by
    have h1 := HC.out j u hj
    have hbk : (ad.add j).block = ad.block := by unfold Addr.add; split <;> rfl
    exact (World.cell?_of_block (w := w) (w' := w.alloc (.cells #[] 52)) (a := ad.add j) (by rw [hbk]; exact Below.heap_alloc w _ ad.block hb)).trans h1
  go_wp2_with (at_builtin; refine wpList_append_own _ rfl (.tmp 5) (.tmp 6) 53 rfl w.heap.size 52 i (.agg #[.int .i64 0, .int .i64 0]) 2 16 Tryz.uCS HI0.out HZ0.out HZ1.out HZ2.out rfl (by decide) _ 0 [] rfl HO.out ad m c news rfl HL.out HN.out H1.out (by unfold maxLen; omega) (by omega) (by simp) ?_)
  intro v' w1 hown' hgrow _
  have HQ : Hid (w1.ownsRow w.heap.size 52 2 v' m news ∧ Below w.heap.size w w1) := by
    refine ⟨by simpa using hown', ((Below.refl w.heap.size w).alloc (Nat.le_refl _) (.cells #[] 52)).grown hgrow (by simp) (fun j hj => by cases hj; exact Nat.le_refl _)⟩
  obtain ⟨ao, c', rfl⟩ := own_slice hown'
  clear hown' hgrow HO HN HL
  go_wp2_with fail
  go_ret
  exact ⟨_, rfl, HQ.out.1, HQ.out.2⟩

theorem cloneS_none (w : World) :
    Calls Tryz.prog 94 #[.slice none 0 0] w fun en w' => en = .returned (.slice none 0 0) ∧ w' = w := by
  have heq := eqs_noneS
  go_enter Tryz.func94, Tryz.ntmps94
  go_wp2
  go_ret
  exact ⟨rfl, rfl⟩

theorem eqs_someX (a : Addr) (n c : Nat) (w : World) : (binOp .eql 22 (.slice (some a) n c) (.slice none 0 0)).run Tryz.prog w = .ok (.bool false) w := by kernel_rfl
theorem eqs_noneX (w : World) : (binOp .eql 22 (.slice none 0 0) (.slice none 0 0)).run Tryz.prog w = .ok (.bool true) w := by kernel_rfl
theorem Tryz.infoCX : (Tryz.prog.info? 55).map (fun i => (i.zero, i.size, i.bytes)) = some (some (.agg #[.slice none 0 0, .slice none 0 0]), 2, 48) := by kernel_rfl
theorem Tryz.uCX : Tryz.prog.underlying 22 = some (.slice 55) := by kernel_rfl

set_option maxRecDepth 100000 in
/-- slices.Clone at []Series. -/
theorem cloneX (ad : Addr) (m c : Nat) (news : List Value) (w : World) (hl : news.length = m * 2) (hc : ∀ j u, news[j]? = some u → w.cell? (ad.add j) = some u) (hb : ad.block < w.heap.size) (h1 : ∀ u ∈ news, u.oneCell' = true) (hm : m ≤ 1000000) :
    Calls Tryz.prog 47 #[.slice (some ad) m c] w fun en w' => ∃ v', en = .returned v' ∧ w'.ownsRow w.heap.size 55 2 v' m news ∧ Below w.heap.size w w' := by
  obtain ⟨i, hi, hz0, hz1, hz2⟩ := info_parts Tryz.infoCX
  have heq := eqs_someX ad m c
  have HC := hid hc
  have HI0 := hid hi
  have HZ0 := hid hz0
  have HZ1 := hid hz1
  have HZ2 := hid hz2
  have HL := hid hl
  have H1 := hid h1
  clear hc hi hz0 hz1 hz2 hl h1
  go_enter Tryz.func47, Tryz.ntmps47
  have HO : Hid ((w.alloc (.cells #[] 55)).ownsRow w.heap.size 55 2 (.slice (some ⟨w.heap.size, 0, none⟩) 0 0) 0 []) := ⟨rfl, .inr ⟨w.heap.size, 0, #[], rfl, Nat.le_refl _, heap_alloc_new w _, Nat.le_refl _, by unfold maxLen; omega, rfl, rfl⟩⟩
  have HN : Hid (∀ j u, news[j]? = some u → (w.alloc (.cells #[] 55)).cell? (ad.add j) = some u) := fun j u hj => by
    have h1 := HC.out j u hj
    have hbk : (ad.add j).block = ad.block := by unfold Addr.add; split <;> rfl
    exact (World.cell?_of_block (w := w) (w' := w.alloc (.cells #[] 55)) (a := ad.add j) (by rw [hbk]; exact Below.heap_alloc w _ ad.block hb)).trans h1
  go_wp2_with (at_builtin; refine wpList_append_own _ rfl (.tmp 5) (.tmp 6) 22 rfl w.heap.size 55 i (.agg #[.slice none 0 0, .slice none 0 0]) 2 48 Tryz.uCX HI0.out HZ0.out HZ1.out HZ2.out rfl (by decide) _ 0 [] rfl HO.out ad m c news rfl HL.out HN.out H1.out (by unfold maxLen; omega) (by omega) (by simp) ?_)
  intro v' w1 hown' hgrow _
  have HQ : Hid (w1.ownsRow w.heap.size 55 2 v' m news ∧ Below w.heap.size w w1) := by
    refine ⟨by simpa using hown', ((Below.refl w.heap.size w).alloc (Nat.le_refl _) (.cells #[] 55)).grown hgrow (by simp) (fun j hj => by cases hj; exact Nat.le_refl _)⟩
  obtain ⟨ao, c', rfl⟩ := own_slice hown'
  clear hown' hgrow HO HN HL
  go_wp2_with fail
  go_ret
  exact ⟨_, rfl, HQ.out.1, HQ.out.2⟩

theorem cloneX_none (w : World) :
    Calls Tryz.prog 47 #[.slice none 0 0] w fun en w' => en = .returned (.slice none 0 0) ∧ w' = w := by
  have heq := eqs_noneX
  go_enter Tryz.func47, Tryz.ntmps47
  go_wp2
  go_ret
  exact ⟨rfl, rfl⟩

end Go.Proofs.YtdmnlmohfaafoadGreatDoor

