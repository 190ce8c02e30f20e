/- raingaugelaw.LabelTells, walked: which labels may be, their order, how they are written, and which are those of some names, is the document's. -/
import Derived.Test.YtdmnlmohfaafoabLbRight
import Derived.Test.YtdmnlmohfaafoabLbCmp
import Derived.Test.YtdmnlmohfaafoabLbGet
import Derived.Test.YtdmnlmohfaafoabLbRefG
import Derived.Test.YtdmnlmohfaafoabLbSame
import Derived.Test.YtdmnlmohfaafoabLbOnly
import Derived.Test.YtdmnlmohfaafoabLbShortL
namespace Go.Proofs.Ytdmnlmohfaafoab
open Go.RowKit

theorem shL_lenT {l : List LB.Lab} (h : shL l = true) : l.length ≤ 20 ∧ Shrt l := by
  have h' : l.length ≤ 20 ∧ ∀ i, i < l.length → (LB.at' l i).1.size ≤ 60 ∧ (LB.at' l i).2.size ≤ 60 := of_decide_eq_true h
  exact h'

/-- Two texts, laid anew. -/
theorem two_names (w : World) (x : ByteArray) : NRow (w.alloc (.cells #[.string x, .string ⟨#[98]⟩] 9)) (some ⟨w.heap.size, 0, none⟩) [x, ⟨#[98]⟩] := by
  intro i hi
  have h2 : i = 0 ∨ i = 1 := by have : [x, (⟨#[98]⟩ : ByteArray)].length = 2 := rfl; omega
  rcases h2 with rfl | rfl
  · exact ⟨w.heap.size, 0, rfl, by simp [LB.an], by simp⟩
  · exact ⟨w.heap.size, 0, rfl, by simp [LB.an], by simp⟩

set_option maxRecDepth 100000 in
set_option maxHeartbeats 1600000 in
theorem tells_any (ao bo : Option Addr) (a b : List LB.Lab) (ca cb : Nat) (x : ByteArray) (w : World) (hA : LRow w ao a) (hB : LRow w bo b) :
    Calls Try.prog 4 #[.slice ao a.length ca, .slice bo b.length cb, .string x] w fun e w' => e = .returned (.bool true) ∧ Below w.heap.size w w' := by
  have HA := hid hA
  have HB := hid hB
  have H1 := hid (shL_any ao a ca w hA)
  have H2 := hid (shL_any bo b cb w hB)
  clear hA hB
  go_enter Try.func4, Try.ntmps4
  go_wp2_with fail
  refine H1.out.mono ?_
  rintro e w1 ⟨rfl, rfl⟩
  cases h1 : shL a with
  | false =>
    go_wp2_with fail
    go_ret
    exact ⟨rfl, Below.refl _ _⟩
  | true =>
    go_wp2_with fail
    refine H2.out.mono ?_
    rintro e w1 ⟨rfl, rfl⟩
    cases h2 : shL b with
    | false =>
      go_wp2_with fail
      go_ret
      exact ⟨rfl, Below.refl _ _⟩
    | true =>
      have S1 := hid (shL_lenT h1)
      have S2 := hid (shL_lenT h2)
      clear h1 h2 H1 H2
      by_cases hx : x.size ≤ 60
      · have hx' : ¬ (60 : Int) < (x.size : Int) := by omega
        have HX := hid hx
        clear hx
        have C1 : Hid (∀ W, Below w1.heap.size w1 W → Calls Try.prog 15 #[.slice ao a.length ca] W fun e w' => e = .returned (.bool (LB.right a)) ∧ Below w1.heap.size w1 w') := fun W h => (right_any ao a ca W (HA.out.below h)).mono fun e w' k => ⟨k.1, h.trans (k.2.mono h.size)⟩
        have C2 : Hid (∀ W, Below w1.heap.size w1 W → Calls Try.prog 16 #[.slice ao a.length ca] W fun e w' => e = .returned (.bool (LB.right a)) ∧ Below w1.heap.size w1 w') := fun W h => (rlabels_any ao a ca W (HA.out.below h) (by have := S1.out.1; omega) S1.out.2).mono fun e w' k => ⟨k.1, h.trans (k.2.mono h.size)⟩
        have C3 : Hid (∀ W, Below w1.heap.size w1 W → Calls Try.prog 17 #[.slice ao a.length ca, .slice bo b.length cb] W fun e w' => e = .returned (.int .i64 (LB.cmp a b)) ∧ Below w1.heap.size w1 w') := fun W h => (cmp_any ao bo a b ca cb W (HA.out.below h) (HB.out.below h) (by have := S1.out.1; omega) (by have := S2.out.1; omega)).mono fun e w' k => ⟨k.1, h.trans (k.2.mono h.size)⟩
        have C4 : Hid (∀ W, Below w1.heap.size w1 W → Calls Try.prog 18 #[.slice ao a.length ca, .slice bo b.length cb] W fun e w' => e = .returned (.int .i64 (LB.cmp a b)) ∧ Below w1.heap.size w1 w') := fun W h => (rcmp_any ao bo a b ca cb W (HA.out.below h) (HB.out.below h) (by have := S1.out.1; omega) (by have := S2.out.1; omega)).mono fun e w' k => ⟨k.1, h.trans (k.2.mono h.size)⟩
        have C5 : Hid (∀ W, Below w1.heap.size w1 W → Calls Try.prog 19 #[.slice ao a.length ca] W fun e w' => e = .returned (.string ⟨(LB.tx a).toArray⟩) ∧ Below w1.heap.size w1 w') := fun W h => (text_any ao a ca W (HA.out.below h) (by have := S1.out.1; omega) S1.out.2).mono fun e w' k => ⟨k.1, h.trans (k.2.mono h.size)⟩
        have C6 : Hid (∀ W, Below w1.heap.size w1 W → Calls Try.prog 20 #[.slice ao a.length ca] W fun e w' => e = .returned (.string ⟨(LB.tx a).toArray⟩) ∧ Below w1.heap.size w1 w') := fun W h => (rtext_any ao a ca W (HA.out.below h) (by have := S1.out.1; omega) S1.out.2).mono fun e w' k => ⟨k.1, h.trans (k.2.mono h.size)⟩
        have C7 : Hid (∀ W, Below w1.heap.size w1 W → Calls Try.prog 21 #[.slice ao a.length ca, .string x] W fun e w' => e = .returned (.string (LB.get a x)) ∧ Below w1.heap.size w1 w') := fun W h => (get_any ao a ca x W (HA.out.below h) (by have := S1.out.1; omega)).mono fun e w' k => ⟨k.1, h.trans (k.2.mono h.size)⟩
        have C8 : Hid (∀ W, Below w1.heap.size w1 W → Calls Try.prog 22 #[.slice ao a.length ca, .string x] W fun e w' => e = .returned (.string (LB.get a x)) ∧ Below w1.heap.size w1 w') := fun W h => (tell_any ao a ca x W (HA.out.below h) (by have := S1.out.1; omega)).mono fun e w' k => ⟨k.1, h.trans (k.2.mono h.size)⟩
        have C9 : Hid (∀ W, Below w1.heap.size w1 W → Calls Try.prog 23 #[.string x] W fun e w' => e = .returned (.bool (LB.name x)) ∧ Below w1.heap.size w1 w') := fun W h => (name_any x W).mono fun e w' k => ⟨k.1, h.trans (k.2.mono h.size)⟩
        have C10 : Hid (∀ W, Below w1.heap.size w1 W → Calls Try.prog 24 #[.string x] W fun e w' => e = .returned (.bool (LB.name x)) ∧ Below w1.heap.size w1 w') := fun W h => (rname_any x W (by have := HX.out; omega)).mono fun e w' k => ⟨k.1, by rw [k.2]; exact h⟩
        have Rm := LB.cmp_ord.rng a b
        generalize LB.cmp a b = m at *
        generalize LB.right a = ra at *
        generalize (⟨(LB.tx a).toArray⟩ : ByteArray) = t at *
        generalize LB.get a x = g at *
        generalize LB.name x = nx at *
        have hm1 : -1 ≤ m := by omega
        have hm2 : m ≤ 1 := by omega
        clear Rm
        go_wp2_with fail
        refine (C1.out _ (Below.refl _ _)).mono ?_
        rintro e w2 ⟨rfl, hb2⟩
        have B2 := hid hb2
        clear hb2 C1
        go_wp2_with fail
        refine (C2.out _ B2.out).mono ?_
        rintro e w3 ⟨rfl, hb3⟩
        have B3 := hid hb3
        clear hb3 C2 B2
        go_wp2_with fail
        refine (C3.out _ B3.out).mono ?_
        rintro e w4 ⟨rfl, hb4⟩
        have B4 := hid hb4
        clear hb4 C3 B3
        go_wp2_with fail
        refine (C4.out _ B4.out).mono ?_
        rintro e w5 ⟨rfl, hb5⟩
        have B5 := hid hb5
        clear hb5 C4 B4
        go_wp2_with fail
        refine (C5.out _ B5.out).mono ?_
        rintro e w6 ⟨rfl, hb6⟩
        have B6 := hid hb6
        clear hb6 C5 B5
        go_wp2_with fail
        refine (C6.out _ B6.out).mono ?_
        rintro e w7 ⟨rfl, hb7⟩
        have B7 := hid hb7
        clear hb7 C6 B6
        go_wp2_with fail
        refine (C7.out _ B7.out).mono ?_
        rintro e w8 ⟨rfl, hb8⟩
        have B8 := hid hb8
        clear hb8 C7 B7
        go_wp2_with fail
        refine (C8.out _ B8.out).mono ?_
        rintro e w9 ⟨rfl, hb9⟩
        have B9 := hid hb9
        clear hb9 C8 B8
        go_wp2_with fail
        refine (C9.out _ B9.out).mono ?_
        rintro e w10 ⟨rfl, hb10⟩
        have B10 := hid hb10
        clear hb10 C9 B9
        go_wp2_with fail
        refine (C10.out _ B10.out).mono ?_
        rintro e w11 ⟨rfl, hb11⟩
        have B11 := hid hb11
        clear hb11 C10 B10
        have HB12 : Hid (Below w1.heap.size w1 (w11.alloc (.cells #[.string x, .string ⟨#[98]⟩] 9))) := B11.out.alloc B11.out.size _
        have HO1 := hid (only_any ao (some ⟨w11.heap.size, 0, none⟩) a [x, ⟨#[98]⟩] ca 2 (w11.alloc (.cells #[.string x, .string ⟨#[98]⟩] 9)) (HA.out.below HB12.out) (two_names w11 x) (by have := S1.out.1; omega) (by simp))
        go_wp2_with fail
        refine HO1.out.mono ?_
        rintro e w12 ⟨v1, rfl, ho1, hb12⟩
        obtain ⟨a1, c1, hv1, hL1⟩ := LRow.of_own ho1
        subst hv1
        have B12 := hid (HB12.out.trans (hb12.mono HB12.out.size))
        have L1 := hid hL1
        clear ho1 hb12 hL1 HO1 HB12 B11
        have HB13 : Hid (Below w1.heap.size w1 (w12.alloc (.cells #[.string x, .string ⟨#[98]⟩] 9))) := B12.out.alloc B12.out.size _
        have L2 := hid (L1.out.below ((Below.refl _ w12).alloc (Nat.le_refl _) (.cells #[.string x, .string ⟨#[98]⟩] 9)))
        have HO2 := hid (ronly_any ao (some ⟨w12.heap.size, 0, none⟩) a [x, ⟨#[98]⟩] ca 2 (w12.alloc (.cells #[.string x, .string ⟨#[98]⟩] 9)) (HA.out.below HB13.out) (two_names w12 x) (by have := S1.out.1; omega) (by simp))
        have HLN : Hid ((LB.only a [x, ⟨#[98]⟩]).length ≤ 1000) := by
          have h1 := only_len a [x, ⟨#[98]⟩] a.length
          rw [List.take_of_length_le (Nat.le_refl _)] at h1
          have h2 := S1.out.1
          show _ ≤ _
          omega
        generalize LB.only a [x, ⟨#[98]⟩] = K at *
        go_wp2_with fail
        refine HO2.out.mono ?_
        rintro e w13 ⟨v2, rfl, ho2, hb13⟩
        obtain ⟨a2, c2, hv2, hL3⟩ := LRow.of_own ho2
        subst hv2
        have B13 := hid (HB13.out.trans (hb13.mono HB13.out.size))
        have L3 := hid hL3
        have L4 := hid (L2.out.below hb13)
        clear ho2 hb13 hL3 HO2 HB13 B12
        have HS := hid (sameL_any a1 a2 K c1 c2 w13 L4.out L3.out HLN.out)
        go_wp2_with fail
        refine HS.out.mono ?_
        rintro e w14 ⟨rfl, hb14⟩
        have B14 := hid (B13.out.trans (hb14.mono B13.out.size))
        clear hb14 HS
        go_wp2_with fail
        go_ret
        exact ⟨rfl, B14.out⟩
      · have hx' : (60 : Int) < (x.size : Int) := by omega
        clear hx
        go_wp2_with fail
        go_ret
        exact ⟨rfl, Below.refl _ _⟩

end Go.Proofs.Ytdmnlmohfaafoab
