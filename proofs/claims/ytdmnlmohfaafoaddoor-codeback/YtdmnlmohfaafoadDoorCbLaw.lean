/- What raingaugekeep's coded, and the law CodeBack, answer. -/
import Derived.Test.YtdmnlmohfaafoadDoorCbNum
import Derived.Test.YtdmnlmohfaafoadDoorCrAll
import Derived.Test.YtdmnlmohfaafoadDoorCsSameK
import Derived.Test.YtdmnlmohfaafoadDoorCsShort
import Derived.Test.YtdmnlmohfaafoadDoorShelf
namespace Go.Proofs.YtdmnlmohfaafoadDoor
open Go.RowKit

set_option maxHeartbeats 400000 in
theorem cpick_any (a : Int) (n : Nat) (w : World) (hn : 0 < n) (hn2 : n ≤ 1000000000) :
    Calls Tryd.prog 16 #[.int .i64 a, .int .i64 n] w fun e w' => (∃ k : Nat, k < n ∧ e = .returned (.int .i64 k)) ∧ w' = w := by
  obtain ⟨U, hU⟩ : ∃ U : Nat, IntKind.u64.wrap a = (U : Int) := ⟨(a % 18446744073709551616).toNat, by rw [IntKind.wrap_u64]; omega⟩
  have hUl : U < 18446744073709551616 := by rw [IntKind.wrap_u64] at hU; omega
  have hn3 : IntKind.u64.wrap (n : Int) = n := by rw [IntKind.wrap_u64]; omega
  have hml : (U : Int) % n < n := Int.emod_lt_of_pos _ (by omega)
  have hm0 : 0 ≤ (U : Int) % n := Int.emod_nonneg _ (by omega)
  have hm : IntKind.i64.wrap ((U : Int) % n) = (U : Int) % n := by rw [IntKind.wrap_i64]; omega
  go_enter Tryd.func16, Tryd.ntmps16
  go_wp2
  go_ret
  refine ⟨⟨U % n, Nat.mod_lt _ hn, ret_int ?_⟩, rfl⟩
  simp

/-- The fact's one series. -/
def l1 : List Sr := [([(⟨#[97]⟩, ⟨#[120]⟩)], [(1, 2)])]

theorem l1_sh : SrSh l1 := by
  refine ⟨by decide, fun i hi => ?_⟩
  have hi0 : i = 0 := by simpa [l1] using hi
  subst hi0
  refine ⟨fun j hj => ?_, by decide, by decide, fun s hs => ?_⟩
  · have hj0 : j = 0 := by simpa [l1, atSr] using hj
    subst hj0
    exact ⟨by decide, by decide⟩
  · have : s = (1, 2) := by simpa [l1, atSr] using hs
    subst this
    exact ⟨⟨by decide, by decide⟩, ⟨by decide, by decide⟩⟩

theorem l1_ok : ∀ i, i < l1.length → okS (atSr l1 i) = true := by
  intro i hi
  have hi0 : i = 0 := by simpa [l1] using hi
  subst hi0
  decide

theorem l1_few : SrFew l1 := by
  refine ⟨by decide, fun i hi => ?_⟩
  have hi0 : i = 0 := by simpa [l1] using hi
  subst hi0
  exact ⟨by decide, by decide⟩

theorem no_bytes : sb (CD.wAll chE (([] : List Sr).map srOf)) = ⟨(Lib.repeatL (⟨#[0]⟩ : ByteArray).data.toList 8).toArray⟩ := by kernel_rfl

/-- The fact's row of one series. -/
theorem l1_row {W : World} {a b c : Nat} (h1 : W.heap[a]? = some (.cells #[.string ⟨#[97]⟩, .string ⟨#[120]⟩] 103)) (h2 : W.heap[b]? = some (.cells #[.int .i64 1, .int .i64 2] 109)) (h3 : W.heap[c]? = some (.cells #[.slice (some ⟨a, 0, none⟩) 1 1, .slice (some ⟨b, 0, none⟩) 1 1] 99)) : SrRow W (some ⟨c, 0, none⟩) l1 := by
  intro i hi
  have hi0 : i = 0 := by simpa [l1] using hi
  subst hi0
  refine ⟨_, _, rfl, heap_lt h3, some ⟨a, 0, none⟩, 1, some ⟨b, 0, none⟩, 1, ?_, ?_, ?_, ?_⟩
  · simp [World.cell?, h3, l1, atSr]
  · simp [World.cell?, h3, l1, atSr]
  · intro j hj
    have hj0 : j = 0 := by simpa [l1, atSr] using hj
    subst hj0
    exact ⟨_, _, rfl, by simp [World.cell?, h1, l1, atSr, LB.at'], by simp [World.cell?, h1, l1, atSr, LB.at'], heap_lt h1⟩
  · intro j hj
    have hj0 : j = 0 := by simpa [l1, atSr] using hj
    subst hj0
    exact ⟨_, _, rfl, by simp [World.cell?, h2, l1, atSr, CL.at'], by simp [World.cell?, h2, l1, atSr, CL.at'], heap_lt h2⟩

/-- .. as it is made. -/
theorem l1_made (w : World) (A B D : Obj) (hA : A = .cells #[.string ⟨#[97]⟩, .string ⟨#[120]⟩] 103) (hB : B = .cells #[.int .i64 1, .int .i64 2] 109) (hD : D = .cells #[.slice (some ⟨w.heap.size, 0, none⟩) 1 1, .slice (some ⟨w.heap.size + 1, 0, none⟩) 1 1] 99) :
    SrRow (((w.alloc A).alloc B).alloc D) (some ⟨w.heap.size + 1 + 1, 0, none⟩) l1 ∧ Below w.heap.size w (((w.alloc A).alloc B).alloc D) := by
  subst hA hB hD
  have b1 := (Below.refl w.heap.size w).alloc (Nat.le_refl _) (.cells #[.string ⟨#[97]⟩, .string ⟨#[120]⟩] 103)
  refine ⟨l1_row (a := w.heap.size) (b := w.heap.size + 1) ?_ ?_ ?_, (b1.alloc b1.size _).alloc (by simp; omega) _⟩
  · exact (Below.heap_alloc _ _ _ (by simp; omega)).trans ((Below.heap_alloc _ _ _ (by simp)).trans (heap_alloc_new w _))
  · refine (Below.heap_alloc _ _ _ (by simp)).trans ?_
    have := heap_alloc_new (w.alloc (.cells #[.string ⟨#[97]⟩, .string ⟨#[120]⟩] 103)) (.cells #[.int .i64 1, .int .i64 2] 109)
    simpa using this
  · have := heap_alloc_new ((w.alloc (.cells #[.string ⟨#[97]⟩, .string ⟨#[120]⟩] 103)).alloc (.cells #[.int .i64 1, .int .i64 2] 109)) (.cells #[.slice (some ⟨w.heap.size, 0, none⟩) 1 1, .slice (some ⟨w.heap.size + 1, 0, none⟩) 1 1] 99)
    simpa using this

theorem CSerEnd.good {w : World} {l : List Sr} {e : Ending} {w' : World} (h : CSerEnd w l e w') (hok : ∀ i, i < l.length → okS (atSr l i) = true) : e = .returned (.tuple #[.string (sb (CD.wAll chE (l.map srOf))), .nilIface]) ∧ Below w.heap.size w w' := by
  obtain ⟨h1, h2⟩ := h
  rcases h2 with ⟨_, h3⟩ | ⟨i, b, h3, _, h4, _⟩
  · exact ⟨h3, h1⟩
  · rw [hok i h3] at h4; cases h4

theorem PRdEnd.good {w : World} {S : List UInt8} {e : Ending} {w' : World} {l : List (List CD.Lb × List CL.Smp)} (h : PRdEnd w S e w') (hr : CD.rAll chD lbK S = some (l, [])) : ∃ ao n c, e = .returned (.tuple #[.slice ao n c, .nilIface]) ∧ n = l.length ∧ SrRow w' ao (l.map toSr) ∧ Below w.heap.size w w' := by
  obtain ⟨h1, h2⟩ := h
  rcases h2 with ⟨l', v, h3, h4, h5⟩ | ⟨h3, _⟩
  · rw [hr] at h3
    simp only [Option.some.injEq, Prod.mk.injEq, and_true] at h3
    subst h3
    obtain ⟨ao, c, e1, e2⟩ := SrRow.of_own h5
    rw [List.length_map] at e1
    exact ⟨ao, _, c, by rw [h4, e1], rfl, e2, h1⟩
  · exact absurd hr (h3 l)

set_option maxRecDepth 100000 in
set_option maxHeartbeats 800000 in
theorem coded_any (w : World) (hW : Wids w) :
    Calls Tryd.prog 32 #[] w fun e w' => e = .returned (.bool true) ∧ Below w.heap.size w w' := by
  have hG : 1 < w.heap.size := World.block_lt_of_cell? _ _ (hW 0 (by omega))
  have HW := hid hW
  have HC1 := hid (cser_any none [] 0 w (SrRow.nil _ _) ⟨by simp, fun i hi => by simp at hi⟩ hW hG)
  clear hW
  go_enter Tryd.func32, Tryd.ntmps32
  go_wp2_with fail
  refine HC1.out.mono ?_
  intro e w1 hend
  obtain ⟨rfl, hb1⟩ := hend.good (fun i hi => by simp at hi)
  rw [no_bytes]
  have HRp := hid (Tryd.strings_Repeat ⟨#[0]⟩ 8 w1 (by decide) (by decide))
  have HB1 := hid hb1
  clear hb1 HC1 hend
  generalize (⟨(Lib.repeatL (⟨#[0]⟩ : ByteArray).data.toList 8).toArray⟩ : ByteArray) = Z at *
  go_wp2_with fail
  refine HRp.out.mono ?_
  rintro e w2 ⟨rfl, hb2⟩
  have HB2 := hid (HB1.out.trans (hb2.mono HB1.out.size))
  clear hb2 HRp
  obtain ⟨hrow, hb3⟩ := l1_made w2 _ _ _ rfl rfl rfl
  have HB3 := hid (HB2.out.trans (hb3.mono HB2.out.size))
  have HC2 := cser_any _ l1 1 _ hrow l1_sh (HW.out.below HB3.out hG) (Nat.lt_of_lt_of_le hG HB3.out.size)
  have e1 : l1.length = 1 := rfl
  rw [e1] at HC2
  have HC2 := hid HC2
  have HRow := hid hrow
  clear hrow hb3 e1
  go_wp2_with fail
  generalize ((w2.alloc (.cells #[.string ⟨#[97]⟩, .string ⟨#[120]⟩] 103)).alloc (.cells #[.int .i64 1, .int .i64 2] 109)).alloc (.cells #[.slice (some ⟨w2.heap.size, 0, none⟩) 1 1, .slice (some ⟨w2.heap.size + 1, 0, none⟩) 1 1] 99) = w3 at *
  generalize w2.heap.size + 1 + 1 = c3 at *
  refine HC2.out.mono ?_
  intro e w4 hend
  obtain ⟨rfl, hb4⟩ := hend.good l1_ok
  have hln := wAll_len l1_sh (by decide)
  have hwb := write_back l1_sh l1_ok
  have HB4 := hid (HB3.out.trans (hb4.mono HB3.out.size))
  have HRow4 := hid (HRow.out.below hb4)
  generalize CD.wAll chE (l1.map srOf) = T at *
  have HC3 := preads_any (sb T) w4 (by rw [sb_size]; omega) (HW.out.below HB4.out hG) (Nat.lt_of_lt_of_le hG HB4.out.size)
  rw [sb_data] at HC3
  have HC3 := hid HC3
  have HWB := hid hwb
  clear hend hb4 hln hwb HC2
  go_wp2_with fail
  refine HC3.out.mono ?_
  intro e w5 hend
  obtain ⟨ao, n, c, rfl, hn, hrow, hb5⟩ := hend.good HWB.out
  rw [toSr_srOf] at hrow
  have hn1 : n = 1 := by rw [hn]; rfl
  subst hn1
  have HB5 := hid (HB4.out.trans (hb5.mono HB4.out.size))
  have HC4 := sameSrK_any ao (some ⟨c3, 0, none⟩) l1 c 1 w5 hrow (HRow4.out.below hb5) l1_few
  have e1 : l1.length = 1 := rfl
  rw [e1] at HC4
  have HC4 := hid HC4
  clear hend hn hrow hb5 e1 HC3
  go_wp2_with fail
  refine HC4.out.mono ?_
  rintro e w6 ⟨rfl, hb6⟩
  have HB6 := hid (HB5.out.trans (hb6.mono HB5.out.size))
  clear hb6 HC4
  go_wp2_with fail
  go_ret
  exact ⟨rfl, HB6.out⟩

/-- Beyond what is held. -/
theorem cback_long (ao : Option Addr) (l : List Sr) (cap : Nat) (s : ByteArray) (k : Int) (w : World) (hR : SrRow w ao l) (h : shS l = false ∨ 1500 < s.size) :
    Calls Tryd.prog 6 #[.slice ao l.length cap, .string s, .int .i64 k] w fun e w' => e = .returned (.bool true) ∧ Below w.heap.size w w' := by
  have HC := hid (shS_any ao l cap w hR)
  clear hR
  cases hq : shS l with
  | false =>
    rw [hq] at HC
    clear hq h
    go_enter Tryd.func6, Tryd.ntmps6
    go_wp2_with fail
    refine HC.out.mono ?_
    rintro e w1 ⟨rfl, rfl⟩
    go_wp2_with fail
    go_ret
    exact ⟨rfl, Below.refl _ _⟩
  | true =>
    rw [hq] at HC
    have h1 : (1500 : Int) < (s.size : Int) := by
      rcases h with h | h
      · rw [hq] at h; cases h
      · omega
    clear hq h
    go_enter Tryd.func6, Tryd.ntmps6
    go_wp2_with fail
    refine HC.out.mono ?_
    rintro e w1 ⟨rfl, rfl⟩
    go_wp2_with fail
    go_ret
    exact ⟨rfl, Below.refl _ _⟩

end Go.Proofs.YtdmnlmohfaafoadDoor
