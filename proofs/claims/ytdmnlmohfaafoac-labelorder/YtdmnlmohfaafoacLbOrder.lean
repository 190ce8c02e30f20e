/- LabelOrder: every label list stands in a row with every other one. -/
import Derived.Test.YtdmnlmohfaafoacLbCalled
import Derived.Test.YtdmnlmohfaafoacLbShort
namespace Go.Proofs.Ytdmnlmohfaafoac
open Go.RowKit

theorem sign_any (n : Int) (w : World) (h : n = -1 ∨ n = 0 ∨ n = 1) : Calls Try.prog 9 #[.int .i64 n] w fun e w' => e = .returned (.int .i64 n) ∧ w' = w := by
  rcases h with rfl | rfl | rfl
  · go_enter Try.func9, Try.ntmps9
    go_wp2
    go_ret
    exact ⟨rfl, rfl⟩
  · go_enter Try.func9, Try.ntmps9
    go_wp2
    go_ret
    exact ⟨rfl, rfl⟩
  · go_enter Try.func9, Try.ntmps9
    go_wp2
    go_ret
    exact ⟨rfl, rfl⟩

/-- Short ones, no more than 20. -/
theorem shL_len {l : List LB.Lab} (h : shL l = true) : l.length ≤ 20 ∧ Shrt l := by
  have h' : l.length ≤ 20 ∧ ∀ i, i < l.length → (LB.at' l i).1.size ≤ 60 ∧ (LB.at' l i).2.size ≤ 60 := of_decide_eq_true h
  exact h'

theorem cases9 (m n k : Int) (Rm : m = -1 ∨ m = 0 ∨ m = 1) (Rn : n = -1 ∨ n = 0 ∨ n = 1) (F3 : m = n → k = m) (F4 : m = 0 → k = n) (F5 : n = 0 → k = m) :
    (m = -1 ∧ n = -1 ∧ k = -1) ∨ (m = 0 ∧ n = 0 ∧ k = 0) ∨ (m = 1 ∧ n = 1 ∧ k = 1) ∨ (m = 0 ∧ n = -1 ∧ k = -1) ∨ (m = 0 ∧ n = 1 ∧ k = 1) ∨ (m = -1 ∧ n = 0 ∧ k = -1) ∨ (m = 1 ∧ n = 0 ∧ k = 1) ∨ (m = -1 ∧ n = 1) ∨ (m = 1 ∧ n = -1) := by
  rcases Rm with rfl | rfl | rfl <;> rcases Rn with rfl | rfl | rfl <;> simp_all

theorem cmp_tr (a b c : List LB.Lab) (h : LB.cmp a b = LB.cmp b c) : LB.cmp a c = LB.cmp a b := by
  rcases LB.cmp_ord.rng a b with h1 | h1 | h1
  · rw [h1, LB.cmp_ord.tr a b c h1 (by rw [← h, h1])]
  · rw [(LB.cmp_ord.zero a b).1 h1, ← h, h1, (LB.cmp_ord.zero b b).2 rfl]
  · have e1 := LB.cmp_ord.anti a b
    have e2 := LB.cmp_ord.anti b c
    have e3 := LB.cmp_ord.anti a c
    have := LB.cmp_ord.tr c b a (by omega) (by omega)
    omega

set_option maxRecDepth 100000 in
set_option maxHeartbeats 6400000 in
theorem order_any (ao bo co : Option Addr) (a b c : List LB.Lab) (ca cb cc : Nat) (w : World) (hA : LRow w ao a) (hB : LRow w bo b) (hC : LRow w co c) :
    Calls Try.prog 3 #[.slice ao a.length ca, .slice bo b.length cb, .slice co c.length cc] w fun e w' => e = .returned (.bool true) ∧ Below w.heap.size w w' := by
  have HA := hid hA
  have HB := hid hB
  have HC := hid hC
  have H1 := hid (shL_any ao a ca w hA)
  have H2 := hid (shL_any bo b cb w hB)
  have H3 := hid (shL_any co c cc w hC)
  clear hA hB hC
  go_enter Try.func3, Try.ntmps3
  go_wp2_with fail
  refine H1.out.mono ?_
  rintro e w1 ⟨rfl, rfl⟩
  cases h1 : shL a with
  | false =>
    go_wp2_with fail
    go_ret
    exact ⟨rfl, Below.refl _ _⟩
  | true =>
    go_wp2_with fail
    refine H2.out.mono ?_
    rintro e w1 ⟨rfl, rfl⟩
    cases h2 : shL b with
    | false =>
      go_wp2_with fail
      go_ret
      exact ⟨rfl, Below.refl _ _⟩
    | true =>
      go_wp2_with fail
      refine H3.out.mono ?_
      rintro e w1 ⟨rfl, rfl⟩
      cases h3 : shL c with
      | false =>
        go_wp2_with fail
        go_ret
        exact ⟨rfl, Below.refl _ _⟩
      | true =>
        have S1 := hid (shL_len h1)
        have S2 := hid (shL_len h2)
        have S3 := hid (shL_len h3)
        clear h1 h2 h3 H1 H2 H3
        go_wp2_with fail
        refine (called_any _).mono ?_
        rintro e w2 ⟨rfl, hb2⟩
        have F3 : LB.cmp a b = LB.cmp b c → LB.cmp a c = LB.cmp a b := fun h => cmp_tr a b c h
        have F4 : LB.cmp a b = 0 → LB.cmp a c = LB.cmp b c := fun h => by rw [(LB.cmp_ord.zero _ _).1 h]
        have F5 : LB.cmp b c = 0 → LB.cmp a c = LB.cmp a b := fun h => by rw [(LB.cmp_ord.zero _ _).1 h]
        have F1 := LB.cmp_ord.anti a b
        have F2 : LB.cmp a a = 0 := (LB.cmp_ord.zero a a).2 rfl
        have Rm := LB.cmp_ord.rng a b
        have Rn := LB.cmp_ord.rng b c
        have Rk := LB.cmp_ord.rng a c
        have HT : Hid (LB.right a = true → LB.right b = true → (LB.tx a = LB.tx b ↔ LB.cmp a b = 0)) := LB.tx_inj a b
        have Cab : Hid (∀ W, Below w1.heap.size w1 W → Calls Try.prog 10 #[.slice ao a.length ca, .slice bo b.length cb] W fun e w' => e = .returned (.int .i64 (LB.cmp a b)) ∧ Below W.heap.size W w') := fun W h => cmp_any ao bo a b ca cb W (HA.out.below h) (HB.out.below h) (by have := S1.out.1; omega) (by have := S2.out.1; omega)
        have Cba : Hid (∀ W, Below w1.heap.size w1 W → Calls Try.prog 10 #[.slice bo b.length cb, .slice ao a.length ca] W fun e w' => e = .returned (.int .i64 (LB.cmp b a)) ∧ Below W.heap.size W w') := fun W h => cmp_any bo ao b a cb ca W (HB.out.below h) (HA.out.below h) (by have := S2.out.1; omega) (by have := S1.out.1; omega)
        have Cbc : Hid (∀ W, Below w1.heap.size w1 W → Calls Try.prog 10 #[.slice bo b.length cb, .slice co c.length cc] W fun e w' => e = .returned (.int .i64 (LB.cmp b c)) ∧ Below W.heap.size W w') := fun W h => cmp_any bo co b c cb cc W (HB.out.below h) (HC.out.below h) (by have := S2.out.1; omega) (by have := S3.out.1; omega)
        have Cac : Hid (∀ W, Below w1.heap.size w1 W → Calls Try.prog 10 #[.slice ao a.length ca, .slice co c.length cc] W fun e w' => e = .returned (.int .i64 (LB.cmp a c)) ∧ Below W.heap.size W w') := fun W h => cmp_any ao co a c ca cc W (HA.out.below h) (HC.out.below h) (by have := S1.out.1; omega) (by have := S3.out.1; omega)
        have Caa : Hid (∀ W, Below w1.heap.size w1 W → Calls Try.prog 10 #[.slice ao a.length ca, .slice ao a.length ca] W fun e w' => e = .returned (.int .i64 (LB.cmp a a)) ∧ Below W.heap.size W w') := fun W h => cmp_any ao ao a a ca ca W (HA.out.below h) (HA.out.below h) (by have := S1.out.1; omega) (by have := S1.out.1; omega)
        have Ra : Hid (∀ W, Below w1.heap.size w1 W → Calls Try.prog 11 #[.slice ao a.length ca] W fun e w' => e = .returned (.bool (LB.right a)) ∧ Below W.heap.size W w') := fun W h => right_any ao a ca W (HA.out.below h)
        have Rb : Hid (∀ W, Below w1.heap.size w1 W → Calls Try.prog 11 #[.slice bo b.length cb] W fun e w' => e = .returned (.bool (LB.right b)) ∧ Below W.heap.size W w') := fun W h => right_any bo b cb W (HB.out.below h)
        have Ta : Hid (∀ W, Below w1.heap.size w1 W → Calls Try.prog 12 #[.slice ao a.length ca] W fun e w' => e = .returned (.string ⟨(LB.tx a).toArray⟩) ∧ Below W.heap.size W w') := fun W h => text_any ao a ca W (HA.out.below h) (by have := S1.out.1; omega) S1.out.2
        have Tb : Hid (∀ W, Below w1.heap.size w1 W → Calls Try.prog 12 #[.slice bo b.length cb] W fun e w' => e = .returned (.string ⟨(LB.tx b).toArray⟩) ∧ Below W.heap.size W w') := fun W h => text_any bo b cb W (HB.out.below h) (by have := S2.out.1; omega) S2.out.2
        rw [F1] at Cba
        rw [F2] at Caa
        clear F1 F2 S1 S2 S3 HA HB HC
        generalize LB.cmp a b = m at *
        generalize LB.cmp b c = n at *
        generalize LB.cmp a c = k at *
        generalize LB.tx a = ta at *
        generalize LB.tx b = tb at *
        generalize LB.right a = ra at *
        generalize LB.right b = rb at *
        have hcase := hid (cases9 m n k Rm Rn F3 F4 F5)
        have HRm := hid Rm
        have HRn := hid Rn
        have HRk := hid Rk
        have HB2 := hid hb2
        clear hb2 Rm Rn Rk F3 F4 F5
        go_wp2_with fail
        refine (Cab.out _ HB2.out).mono ?_
        rintro e w3 ⟨rfl, hb3⟩
        have HB3 := hid (HB2.out.trans (hb3.mono HB2.out.size))
        clear hb3 HB2 Cab
        go_wp2_with fail
        refine (sign_any m _ HRm.out).mono ?_
        rintro e w3 ⟨rfl, rfl⟩
        go_wp2_with fail
        refine (Cbc.out _ HB3.out).mono ?_
        rintro e w4 ⟨rfl, hb4⟩
        have HB4 := hid (HB3.out.trans (hb4.mono HB3.out.size))
        clear hb4 HB3 Cbc
        go_wp2_with fail
        refine (sign_any n _ HRn.out).mono ?_
        rintro e w4 ⟨rfl, rfl⟩
        go_wp2_with fail
        refine (Cac.out _ HB4.out).mono ?_
        rintro e w5 ⟨rfl, hb5⟩
        have HB5 := hid (HB4.out.trans (hb5.mono HB4.out.size))
        clear hb5 HB4 Cac
        go_wp2_with fail
        refine (sign_any k _ HRk.out).mono ?_
        rintro e w5 ⟨rfl, rfl⟩
        go_wp2_with fail
        refine (Cba.out _ HB5.out).mono ?_
        rintro e w6 ⟨rfl, hb6⟩
        have HB6 := hid (HB5.out.trans (hb6.mono HB5.out.size))
        clear hb6 HB5 Cba
        go_wp2_with fail
        refine (sign_any (-m) _ (by have := HRm.out; omega)).mono ?_
        rintro e w6 ⟨rfl, rfl⟩
        have HQ : Hid (ra = true → rb = true → (ta == tb) = decide (m = 0)) := fun h1 h2 => by
          have h := HT.out h1 h2
          by_cases hm : m = 0
          · rw [decide_eq_true hm, h.2 hm]; simp
          · rw [decide_eq_false hm, beq_eq_false_iff_ne]; exact fun h3 => hm (h.1 h3)
        clear HRm HRn HRk HT
        rcases hcase.out with ⟨rfl, rfl, rfl⟩ | ⟨rfl, rfl, rfl⟩ | ⟨rfl, rfl, rfl⟩ | ⟨rfl, rfl, rfl⟩ | ⟨rfl, rfl, rfl⟩ | ⟨rfl, rfl, rfl⟩ | ⟨rfl, rfl, rfl⟩ | ⟨rfl, rfl⟩ | ⟨rfl, rfl⟩
        all_goals
          clear hcase
          go_wp2_with fail
          refine (Caa.out _ HB6.out).mono ?_
          rintro e w7 ⟨rfl, hb7⟩
          have HB7 := hid (HB6.out.trans (hb7.mono HB6.out.size))
          clear hb7 HB6 Caa
          go_wp2_with fail
          refine (Ra.out _ HB7.out).mono ?_
          rintro e w8 ⟨rfl, hb8⟩
          have HB8 := hid (HB7.out.trans (hb8.mono HB7.out.size))
          clear hb8 HB7 Ra
          cases ra with
          | false =>
            go_wp2_with fail
            go_ret
            exact ⟨rfl, HB8.out⟩
          | true =>
            go_wp2_with fail
            refine (Rb.out _ HB8.out).mono ?_
            rintro e w9 ⟨rfl, hb9⟩
            have HB9 := hid (HB8.out.trans (hb9.mono HB8.out.size))
            clear hb9 HB8 Rb
            cases rb with
            | false =>
              go_wp2_with fail
              go_ret
              exact ⟨rfl, HB9.out⟩
            | true =>
              go_wp2_with fail
              refine (Ta.out _ HB9.out).mono ?_
              rintro e w10 ⟨rfl, hb10⟩
              have HB10 := hid (HB9.out.trans (hb10.mono HB9.out.size))
              clear hb10 HB9 Ta
              go_wp2_with fail
              refine (Tb.out _ HB10.out).mono ?_
              rintro e w11 ⟨rfl, hb11⟩
              have HB11 := hid (HB10.out.trans (hb11.mono HB10.out.size))
              clear hb11 HB10 Tb
              go_wp2_with fail
              go_ret
              exact ⟨ret_bool (by rw [HQ.out (by trivial) (by trivial)]; rfl), HB11.out⟩

end Go.Proofs.Ytdmnlmohfaafoac
