/- raingaugelaw.RollUp, walked: what samples come to in spans, and in wider ones, and together, is the document's. -/
import Derived.Test.YtdmnlmohfaafoabDoorRlRefU
import Derived.Test.YtdmnlmohfaafoabDoorRlUp
import Derived.Test.YtdmnlmohfaafoabDoorRlMrg
import Derived.Test.YtdmnlmohfaafoabDoorRlSameL
import Derived.Test.YtdmnlmohfaafoabDoorRlBare
import Derived.Laws.AppendOwnNone
namespace Go.Proofs.YtdmnlmohfaafoabDoor
open Go.RowKit

set_option maxRecDepth 100000 in
set_option maxHeartbeats 400000 in
theorem ru_long (ao bo : Option Addr) (la lb ca cb' : Nat) (span times : Int) (w : World) (h : 60 < la ∨ 60 < lb) :
    Calls Tryd.prog 5 #[.slice ao la ca, .slice bo lb cb', .int .i64 span, .int .i64 times] w fun e w' => e = .returned (.bool true) ∧ w' = w := by
  by_cases h1 : 60 < la
  · have h1' : (60 : Int) < (la : Int) := by omega
    clear h
    go_enter Tryd.func5, Tryd.ntmps5
    go_wp2
    go_ret
    exact ⟨rfl, rfl⟩
  · have h1' : ¬ (60 : Int) < (la : Int) := by omega
    have h2' : (60 : Int) < (lb : Int) := by omega
    clear h
    go_enter Tryd.func5, Tryd.ntmps5
    go_wp2
    go_ret
    exact ⟨rfl, rfl⟩

theorem dec_selfL (A : List CL.Bkt) : decide (A = A) = true := decide_eq_true rfl

theorem wpList_wantedB {P : Program} {ops : Array Oper} {Q : Exit → Act → World → Prop} {a : Act} {w : World} {rest : List Oper} {o : Oper} (hw : Region.wanted o (yielded ops a.tmps) = true)
    (h : ∀ K : Act → World → Prop, (∀ a w, wpList P ops Q rest a w → K a w) → o.wp P a w K Q) : wpList P ops Q (o :: rest) a w :=
  wpList_step fun K hK => by rw [if_pos hw]; exact h K hK

/-- append, behind a guard that holds, onto a row of one's own from a slice that is there, or is nil. -/
theorem wpList_append_srcG {P : Program} (w : World) {ops : Array Oper} {rest : List Oper} {o : Oper} {a : Act} {Q : Exit → Act → World → Prop}
    (hg : Region.wanted o (yielded ops a.tmps) = true) (s x : Operand) (t : TypeId) (hop : o.op = Op.call { callee := Callee.builtin Builtin.append, args := #[s, x], argTypes := #[t, t] })
    (base : Nat) (e : TypeId) (i : TypeInfo) (z : Value) (size bytes : Nat) (h1 : P.underlying t = some (.slice e)) (h2 : P.info? e = some i) (h3 : i.zero = some z) (h4 : i.size = size) (h5 : i.bytes = bytes) (h6 : z.cells.size = size) (h7 : 0 < size)
    (v : Value) (k : Nat) (xs : List Value) (hs : a.eval s = v) (hown : w.ownsRow base e size v k xs) (ao : Option Addr) (m c : Nat) (news : List Value) (hx : a.eval x = .slice ao m c) (hn : news.length = m * size)
    (hnone : ao = none → m = 0 ∧ c = 0) (hc : ∀ ad, ao = some ad → ∀ j u, news[j]? = some u → w.cell? (ad.add j) = some u) (h1c : ∀ u ∈ news, u.oneCell' = true) (b1 : k + m ≤ maxLen) (b2 : (k + m) * bytes ≤ 140737488355328) (b3 : base ≤ w.heap.size)
    (hK : ∀ v' w', w'.ownsRow base e size v' (k + m) (xs ++ news) → w.grownBy w' v.ownBlock → wpList P ops Q rest (a.put o.dst v') w') :
    wpList P ops Q (o :: rest) a w := by
  cases ao with
  | some ad => exact wpList_wantedB hg fun K hK' => wp_append_own w s x t hop base e i z size bytes h1 h2 h3 h4 h5 h6 h7 v k xs hs hown ad m c news hx hn (hc ad rfl) h1c b1 b2 b3 (fun v' w' a b _ => hK' _ _ (hK v' w' a b))
  | none =>
    obtain ⟨rfl, rfl⟩ := hnone rfl
    have hnews : news = [] := List.eq_nil_of_length_eq_zero (by simpa using hn)
    subst hnews
    refine wpList_wantedB hg fun K hK' => ?_
    have hrun := run_append_owned_none (P := P) (w := w) base t o.type e i size h1 h2 v k xs hown
    unfold Oper.wp
    simp [execOp, hop, resolve, invoke, builtin, hs, hx, hrun, Result.andThen]
    exact hK' _ _ (hK v w (by simpa using hown) (World.grownBy.refl _ _))

theorem bv_i64 (l : List CL.Bkt) : ∀ u ∈ bv l, u.oneCell' = true := by
  intro u hu
  obtain ⟨b, _, hb⟩ := List.mem_flatMap.1 hu
  exact cb_i64 b u hb

/-- The cells of buckets that lie there. -/
theorem brow_cells {w : World} {ao : Option Addr} {l : List CL.Bkt} (h : BRow w ao l) : ∀ ad, ao = some ad → ∀ j u, (bv l)[j]? = some u → w.cell? (ad.add j) = some u := by
  intro ad had j u hj
  have hlt : j < (bv l).length := (List.getElem?_eq_some_iff.1 hj).1
  rw [bv_length] at hlt
  obtain ⟨b, off, e, ⟨c0, c1, c2, c3, c4⟩, hbs⟩ := h (j / 5) (by omega)
  rw [had] at e
  obtain rfl := Option.some.inj e
  obtain ⟨g0, g1, g2, g3, g4⟩ := bv_get l (j / 5) (by omega)
  rw [Addr.add_lit]
  have hm : j % 5 = 0 ∨ j % 5 = 1 ∨ j % 5 = 2 ∨ j % 5 = 3 ∨ j % 5 = 4 := by omega
  rcases hm with hm | hm | hm | hm | hm
  · have ej : j = j / 5 * 5 := by omega
    rw [← ej] at g0; rw [g0] at hj; rw [← ej] at c0; rw [← hj]; exact c0
  · have ej : j = j / 5 * 5 + 1 := by omega
    have eo : off + j / 5 * 5 + 1 = off + j := by omega
    rw [← ej] at g1; rw [g1] at hj; rw [eo] at c1; rw [← hj]; exact c1
  · have ej : j = j / 5 * 5 + 2 := by omega
    have eo : off + j / 5 * 5 + 2 = off + j := by omega
    rw [← ej] at g2; rw [g2] at hj; rw [eo] at c2; rw [← hj]; exact c2
  · have ej : j = j / 5 * 5 + 3 := by omega
    have eo : off + j / 5 * 5 + 3 = off + j := by omega
    rw [← ej] at g3; rw [g3] at hj; rw [eo] at c3; rw [← hj]; exact c3
  · have ej : j = j / 5 * 5 + 4 := by omega
    have eo : off + j / 5 * 5 + 4 = off + j := by omega
    rw [← ej] at g4; rw [g4] at hj; rw [eo] at c4; rw [← hj]; exact c4

/-- Buckets of two lists that lie one behind the other. -/
theorem own_bothB {w : World} {base : Nat} {v : Value} {a b : List CL.Bkt} (h : w.ownsRow base 72 5 v (0 + a.length + b.length) ([] ++ bv a ++ bv b)) :
    w.ownsRow base 72 5 v (a ++ b).length (bv (a ++ b)) := by
  have e : 0 + a.length + b.length = (a ++ b).length := by simp
  rw [e, List.nil_append, ← bv_append] at h
  exact h

theorem empty_row (w : World) : (w.alloc (.cells #[] 72)).ownsRow w.heap.size 72 5 (.slice (some ⟨w.heap.size, 0, none⟩) 0 0) 0 [] := by
  refine ⟨rfl, .inr ⟨w.heap.size, 0, #[], rfl, Nat.le_refl _, ?_, Nat.le_refl _, Nat.zero_le _, rfl, rfl⟩⟩
  exact heap_alloc_new w (.cells #[] 72)

theorem up_stL (span : Int) (l : List CL.Smp) (hs : 1 ≤ span ∧ span ≤ 1099511627776) (hR : ∀ s ∈ l, -1099511627776 ≤ s.1 ∧ s.1 ≤ 1099511627776) : ∀ b ∈ CL.up span l, -9007199254740992 ≤ b.st ∧ b.st ≤ 9007199254740992 := by
  have key : ∀ (m : List CL.Bkt) (acc : List CL.Bkt), (∀ b ∈ m, -9007199254740992 ≤ b.st ∧ b.st ≤ 9007199254740992) → (∀ b ∈ acc, -9007199254740992 ≤ b.st ∧ b.st ≤ 9007199254740992) → ∀ b ∈ CL.gathL acc m, -9007199254740992 ≤ b.st ∧ b.st ≤ 9007199254740992 := by
    intro m
    induction m with
    | nil => intro acc _ h; exact h
    | cons x m ih =>
      intro acc hm ha
      rw [CL.gathL_cons]
      exact ih _ (fun b hb => hm b (List.mem_cons_of_mem _ hb)) (CL.gath_all _ acc x ha (hm x (by simp)) fun c hc _ => hc)
  refine key _ [] (fun b hb => ?_) (by simp)
  obtain ⟨s, hsm, rfl⟩ := List.mem_map.1 hb
  have h1 := hR s hsm
  have h2 := CL.flr_le s.1 span hs.1
  show -9007199254740992 ≤ CL.flr s.1 span ∧ CL.flr s.1 span ≤ 9007199254740992
  omega

set_option maxRecDepth 100000 in
set_option maxHeartbeats 1600000 in
theorem ru_any (ao bo : Option Addr) (a b : List CL.Smp) (ca cb' : Nat) (span times : Int) (w : World) (hA : SRow w ao a) (hB : SRow w bo b) (hla : a.length ≤ 60) (hlb : b.length ≤ 60) (hE : ErrT w) :
    Calls Tryd.prog 5 #[.slice ao a.length ca, .slice bo b.length cb', .int .i64 span, .int .i64 times] w fun e w' => e = .returned (.bool true) ∧ Below w.heap.size w w' := by
  have h1 : ¬ (60 : Int) < (a.length : Int) := by omega
  have h2 : ¬ (60 : Int) < (b.length : Int) := by omega
  have HA := hid hA
  have HB := hid hB
  have HE := hid hE
  have hEl := hE.lt
  clear hA hB hE
  have HC1 := hid (rsamples_any ao a ca w HA.out (by omega))
  go_enter Tryd.func5, Tryd.ntmps5
  go_wp2_with fail
  refine Calls.mono HC1.out ?_
  rintro e w1 ⟨rfl, hb1⟩
  have HB1 := hid hb1
  have hs1 := hb1.size
  clear hb1 HC1
  rcases hra : CL.right a with _ | _
  · clear hra
    go_wp2_with fail
    go_ret
    exact ⟨rfl, HB1.out⟩
  · have HRa := hid (CL.rising_right a hra).1
    have HQa := hid (CL.rising_right a hra).2
    clear hra
    have HC2 := hid (rsamples_any bo b cb' w1 (HB.out.below HB1.out) (by omega))
    go_wp2_with fail
    refine Calls.mono HC2.out ?_
    rintro e w2 ⟨rfl, hb2⟩
    have HB2 := hid (HB1.out.trans (hb2.mono hs1))
    have hs2 := HB2.out.size
    clear hb2 HC2
    rcases hrb : CL.right b with _ | _
    · clear hrb
      go_wp2_with fail
      go_ret
      exact ⟨rfl, HB2.out⟩
    · have HRb := hid (CL.rising_right b hrb).1
      have HQb := hid (CL.rising_right b hrb).2
      clear hrb
      by_cases hsp : 1 ≤ span ∧ span ≤ 1099511627776
      · go_wp2_with fail
        refine Calls.mono (rup_ok ao a ca span w2 (HA.out.below HB2.out) HQa.out HRa.out (by omega) hsp) ?_
        rintro e w3 ⟨v3, rfl, ho3, hb3⟩
        obtain ⟨a3, c3, rfl, hS3, hc3, hn3⟩ := BRow.of_own ho3
        have HS3 := hid hS3
        have HB3 := hid (HB2.out.trans (hb3.mono hs2))
        have hs3 := HB3.out.size
        have hn3' := hn3
        clear hb3 ho3 hS3 hn3
        have HStA := hid (up_stL span a hsp HQa.out)
        have HRiA := hid (CL.rise_up a span hsp.1 HRa.out)
        have hAl := Nat.le_trans (CL.up_len span a) hla
        have hBl := Nat.le_trans (CL.up_len span b) hlb
        have HStB := hid (up_stL span b hsp HQb.out)
        have HBoth := hid (both_tot span a b hsp.1 (by omega) (by omega) HRa.out HRb.out)
        generalize hX : CL.up span a = X at *
        have HX := hid hX
        clear hX
        go_wp2_with fail
        have HU := hid (up_ok ao a ca span w3 (HA.out.below HB3.out) HQa.out (by omega) hsp)
        rw [HX.out] at HU
        refine Calls.mono HU.out ?_
        rintro e w4 ⟨v4, rfl, ho4, hb4⟩
        obtain ⟨a4, c4, rfl, hS4, hc4, hn4⟩ := BRow.of_own ho4
        have HS4 := hid hS4
        have HT4 := hid (HS3.out.below hb4)
        have HB4 := hid (HB3.out.trans (hb4.mono hs3))
        have hs4 := HB4.out.size
        clear hb4 ho4 hS4 hn4 HU
        go_wp2_with fail
        refine Calls.mono (bare_nil 0 w4) ?_
        rintro e w5 ⟨rfl, hb5⟩
        have HS5 := hid (HS4.out.below hb5)
        have HT5 := hid (HT4.out.below hb5)
        have HB5 := hid (HB4.out.trans (hb5.mono hs4))
        have hs5 := HB5.out.size
        clear hb5
        go_wp2_with fail
        refine Calls.mono (sameB_any a4 a3 X X c4 c3 w5 HS5.out HT5.out (by omega)) ?_
        rintro e w6 ⟨rfl, hb6⟩
        rw [dec_selfL]
        have HS6 := hid (HS5.out.below hb6)
        have HT6 := hid (HT5.out.below hb6)
        have HB6 := hid (HB5.out.trans (hb6.mono hs5))
        have hs6 := HB6.out.size
        clear hb6
        go_wp2_with fail
        refine Calls.mono (rup_ok bo b cb' span w6 (HB.out.below HB6.out) HQb.out HRb.out (by omega) hsp) ?_
        rintro e w7 ⟨v7, rfl, ho7, hb7⟩
        obtain ⟨a7, c7, rfl, hS7, hc7, hn7⟩ := BRow.of_own ho7
        have HS7 := hid hS7
        have HX7 := hid (HS6.out.below hb7)
        have HW7 := hid (HT6.out.below hb7)
        have HB7 := hid (HB6.out.trans (hb7.mono hs6))
        have hs7 := HB7.out.size
        clear hb7 ho7 hS7
        generalize hY : CL.up span b = Y at *
        have HY := hid hY
        clear hY
        go_wp2_with fail
        have HU := hid (up_ok bo b cb' span w7 (HB.out.below HB7.out) HQb.out (by omega) hsp)
        rw [HY.out] at HU
        refine Calls.mono HU.out ?_
        rintro e w8 ⟨v8, rfl, ho8, hb8⟩
        obtain ⟨a8, c8, rfl, hS8, hc8, hn8⟩ := BRow.of_own ho8
        have HS8 := hid hS8
        have HV8 := hid (HS7.out.below hb8)
        have HX8 := hid (HX7.out.below hb8)
        have HW8 := hid (HW7.out.below hb8)
        have HB8 := hid (HB7.out.trans (hb8.mono hs7))
        have hs8 := HB8.out.size
        clear hb8 ho8 hS8 hn8 HU
        go_wp2_with fail
        refine Calls.mono (sameB_any a8 a7 Y Y c8 c7 w8 HS8.out HV8.out (by omega)) ?_
        rintro e w9 ⟨rfl, hb9⟩
        rw [dec_selfL]
        have HS9 := hid (HS8.out.below hb9)
        have HV9 := hid (HV8.out.below hb9)
        have HX9 := hid (HX8.out.below hb9)
        have HW9 := hid (HW8.out.below hb9)
        have HB9 := hid (HB8.out.trans (hb9.mono hs8))
        have hs9 := HB9.out.size
        clear hb9
        go_wp2_with fail
        refine Calls.mono (mergeB_any a4 a8 X Y c4 c8 w9 HX9.out HS9.out hc4 hc8 (by omega) (by omega)) ?_
        rintro e w10 ⟨v10, rfl, ho10, hb10⟩
        obtain ⟨a10, c10, rfl, hS10, _, _⟩ := BRow.of_own ho10
        have HS10 := hid hS10
        have HV10 := hid (HV9.out.below hb10)
        have HX10 := hid (HX9.out.below hb10)
        have HW10 := hid (HW9.out.below hb10)
        have HB10 := hid (HB9.out.trans (hb10.mono hs9))
        have hs10 := HB10.out.size
        clear hb10 ho10 hS10
        have hZl := mrgB_len X Y
        generalize hZ : CL.mrgB X Y = Z at *
        have HZ := hid hZ
        clear hZ
        obtain ⟨ii, hi, hi'⟩ := Option.map_eq_some_iff.1 Tryd.info72
        simp only [Prod.mk.injEq] at hi'
        obtain ⟨hz0, hz1, hz2⟩ := hi'
        have HI0 := hid hi
        have HZ0 := hid hz0
        have HZ1 := hid hz1
        have HZ2 := hid hz2
        clear hi hz0 hz1 hz2
        have HNX := hid hn3'
        have HNY := hid hn7
        have HO11 := hid (empty_row w10)
        have HB11 : Hid (Below w10.heap.size w10 (w10.alloc (.cells #[] 72))) := (Below.refl _ _).alloc (Nat.le_refl _) _
        clear hn3' hn7
        go_wp2_with (first
          | (at_builtin; refine wpList_append_srcG _ (by rfl) (.tmp 94) (.tmp 95) 37 rfl w10.heap.size 72 ii (.agg #[.int .i64 0, .int .i64 0, .int .i64 0, .int .i64 0, .int .i64 0]) 5 40 Tryd.underlying37 HI0.out HZ0.out HZ1.out HZ2.out rfl (by decide) (.slice (some ⟨w10.heap.size, 0, none⟩) 0 0) 0 [] rfl HO11.out a3 X.length c3 (bv X) rfl (bv_length _) (fun h => ⟨by have := HNX.out h; omega, HNX.out h⟩) (brow_cells (HW10.out.below HB11.out)) (bv_i64 _) (by unfold maxLen; omega) (by omega) HB11.out.size ?_; intro v12 w12 hown12 hgrow12; have HO12 := hid hown12; have HB12 := hid (HB11.out.grown hgrow12 HB11.out.size (fun j hj => (HO11.out.lt j hj).1)); clear hown12 hgrow12)
          | (at_builtin; refine wpList_append_srcG _ (by rfl) (.tmp 96) (.tmp 97) 37 rfl w10.heap.size 72 ii (.agg #[.int .i64 0, .int .i64 0, .int .i64 0, .int .i64 0, .int .i64 0]) 5 40 Tryd.underlying37 HI0.out HZ0.out HZ1.out HZ2.out rfl (by decide) v12 (0 + X.length) ([] ++ bv X) rfl HO12.out a7 Y.length c7 (bv Y) rfl (bv_length _) (fun h => ⟨by have := HNY.out h; omega, HNY.out h⟩) (brow_cells (HV10.out.below HB12.out)) (bv_i64 _) (by unfold maxLen; omega) (by omega) HB12.out.size ?_; intro v13 w13 hown13 hgrow13; have HO13 := hid (own_bothB hown13); have HB13 := hid (HB12.out.grown hgrow13 HB12.out.size (fun j hj => (HO12.out.lt j hj).1)); clear hown13 hgrow13))
        obtain ⟨a13, c13, hv13, hS13, _, _⟩ := BRow.of_own HO13.out
        subst hv13
        have HB13w := hid (HB10.out.trans (HB13.out.mono hs10))
        have hs13 := HB13w.out.size
        have HS13 := hid (HS10.out.below HB13.out)
        have HX13 := hid (HX10.out.below HB13.out)
        have HW13 := hid (HW10.out.below HB13.out)
        have hRxy : ∀ c ∈ X ++ Y, -9007199254740992 ≤ c.st ∧ c.st ≤ 9007199254740992 := fun c hc => by
          rcases List.mem_append.1 hc with h | h
          · exact HStA.out c h
          · exact HStB.out c h
        refine Calls.mono (rtog_any a13 (X ++ Y) c13 span w13 hS13 hRxy (by rw [List.length_append]; omega) hsp) ?_
        rintro e w14 ⟨v14, out, rfl, ho14, hb14, hri14, htot14⟩
        have heq := HBoth.out out hri14 htot14
        subst heq
        obtain ⟨a14, c14, rfl, hS14, _, _⟩ := BRow.of_own ho14
        have HS14 := hid hS14
        have HZ14 := hid (HS13.out.below hb14)
        have HX14 := hid (HX13.out.below hb14)
        have HW14 := hid (HW13.out.below hb14)
        have HB14 := hid (HB13w.out.trans (hb14.mono hs13))
        have hs14 := HB14.out.size
        clear hb14 ho14 hS14 hri14 htot14 hS13 hRxy
        go_wp2_with fail
        refine Calls.mono (sameB_any a10 a14 out out c10 c14 w14 HZ14.out HS14.out (by omega)) ?_
        rintro e w15 ⟨rfl, hb15⟩
        rw [dec_selfL]
        have HX15 := hid (HX14.out.below hb15)
        have HW15 := hid (HW14.out.below hb15)
        have HB15 := hid (HB14.out.trans (hb15.mono hs14))
        have hs15 := HB15.out.size
        have HA15 := hid (HA.out.below HB15.out)
        clear hb15
        clear HBoth HS13 HX13 HW13 HB13w hs13 HZ14 HX14 HW14 HS14 HB14 hs14 HO13 HB13 HO12 HB12 HO11 HB11 HNX HNY HS10 HV10 HX10 HW10 HB10 hs10 HS9 HV9 HX9 HW9 HB9 hs9 HS8 HV8 HX8 HW8 HB8 hs8 HS7 HX7 HW7 HB7 hs7 HS6 HT6 HB6 hs6 HS5 HT5 HB5 hs5 HS4 HT4 HB4 hs4 HS3 HB3 hs3 HB2 hs2 HB1 hs1 HI0 HZ0 HZ1 HZ2
        rcases a with _ | ⟨x, a'⟩
        · simp only [List.length_nil] at h1 ⊢
          by_cases hc : 1 ≤ times ∧ times ≤ 1048576 ∧ span ≤ 1048576
          · obtain ⟨t1, t2, t3⟩ := hc
            have hp1 : 1 ≤ span * times := Int.mul_le_mul hsp.1 t1 (by omega) (by omega)
            have hp2 : span * times ≤ 1099511627776 := Int.le_trans (Int.mul_le_mul t3 t2 (by omega) (by omega)) (by decide)
            have hpw0 : wrap64 (span * times) = span * times := by unfold wrap64; omega
            have HPm : Hid (span * times % span = 0) := hid (Int.mul_emod_right span times)
            obtain ⟨wd, hwd⟩ : ∃ wd, wd = span * times := ⟨_, rfl⟩
            have hpw : wrap64 (span * times) = wd := by rw [hpw0, hwd]
            rw [← hwd] at hp1 hp2 HPm
            clear hwd hpw0
            go_wp2_with fail
            go_quiet (fail)
            have HXq : Hid (BRow (w15.drewN nq) a4 X) := HX15.out
            have HWq : Hid (BRow (w15.drewN nq) a3 X) := HW15.out
            have HBq := hid (below_drewN HB15.out nq)
            have hsq : w.heap.size ≤ (w15.drewN nq).heap.size := hs15
            generalize w15.drewN nq = wq at *
            go_wp2_with fail
            refine Calls.mono (wider_ok a4 X c4 span wd wq HXq.out HStA.out (by omega) hsp ⟨hp1, hp2, HPm.out⟩) ?_
            rintro e w16 ⟨v16, rfl, ho16, hb16⟩
            obtain ⟨a16, c16, rfl, hS16, _, _⟩ := BRow.of_own ho16
            have HS16 := hid hS16
            have HW16 := hid (HWq.out.below hb16)
            have HB16 := hid (HBq.out.trans (hb16.mono hsq))
            have hs16 := HB16.out.size
            clear hb16 ho16 hS16
            have HWide := hid (wide_tot wd X hp1 HRiA.out)
            have hVl := wid_len wd X
            generalize CL.wid' wd X = V at *
            go_wp2_with fail
            refine Calls.mono (rtog_any a3 X c3 wd w16 HW16.out HStA.out (by omega) ⟨hp1, hp2⟩) ?_
            rintro e w17 ⟨v17, out17, rfl, ho17, hb17, hri17, htot17⟩
            have heq := HWide.out out17 hri17 htot17
            subst heq
            obtain ⟨a17, c17, rfl, hS17, _, _⟩ := BRow.of_own ho17
            have HS17 := hid hS17
            have HV17 := hid (HS16.out.below hb17)
            have HB17 := hid (HB16.out.trans (hb17.mono hs16))
            have hs17 := HB17.out.size
            clear hb17 ho17 hS17 hri17 htot17 HWide
            go_wp2_with fail
            refine Calls.mono (sameB_any a16 a17 out17 out17 c16 c17 w17 HV17.out HS17.out (by omega)) ?_
            rintro e w18 ⟨rfl, hb18⟩
            rw [dec_selfL]
            have HB18 := hid (HB17.out.trans (hb18.mono hs17))
            have hs18 := HB18.out.size
            clear hb18
            go_wp2_with fail
            refine Calls.mono (wider_bad2 a4 X.length c4 span 0 w18 hsp (by omega)) ?_
            rintro e w19 ⟨rfl, hb19⟩
            have HB19 := hid (HB18.out.trans (hb19.mono hs18))
            have hs19 := HB19.out.size
            clear hb19
            go_wp2_with fail
            refine Calls.mono (bare_errno 1 1 w19 (HE.out.below HB19.out hEl)) ?_
            rintro e w20 ⟨rfl, hb20⟩
            have HB20 := hid (HB19.out.trans (hb20.mono hs19))
            clear hb20
            go_wp2_with fail
            go_ret
            exact ⟨rfl, HB20.out⟩
          · have HPm : Hid (span % span = 0) := hid (Int.emod_self)
            go_wp2_with fail
            go_quiet (fail)
            have HXq : Hid (BRow (w15.drewN nq) a4 X) := HX15.out
            have HWq : Hid (BRow (w15.drewN nq) a3 X) := HW15.out
            have HBq := hid (below_drewN HB15.out nq)
            have hsq : w.heap.size ≤ (w15.drewN nq).heap.size := hs15
            generalize w15.drewN nq = wq at *
            go_wp2_with fail
            all_goals
              refine Calls.mono (wider_ok a4 X c4 span span wq HXq.out HStA.out (by omega) hsp ⟨hsp.1, hsp.2, HPm.out⟩) ?_
              rintro e w16 ⟨v16, rfl, ho16, hb16⟩
              obtain ⟨a16, c16, rfl, hS16, _, _⟩ := BRow.of_own ho16
              have HS16 := hid hS16
              have HW16 := hid (HWq.out.below hb16)
              have HB16 := hid (HBq.out.trans (hb16.mono hsq))
              have hs16 := HB16.out.size
              clear hb16 ho16 hS16
              have HWide := hid (wide_tot span X hsp.1 HRiA.out)
              have hVl := wid_len span X
              generalize CL.wid' span X = V at *
              go_wp2_with fail
              refine Calls.mono (rtog_any a3 X c3 span w16 HW16.out HStA.out (by omega) ⟨hsp.1, hsp.2⟩) ?_
              rintro e w17 ⟨v17, out17, rfl, ho17, hb17, hri17, htot17⟩
              have heq := HWide.out out17 hri17 htot17
              subst heq
              obtain ⟨a17, c17, rfl, hS17, _, _⟩ := BRow.of_own ho17
              have HS17 := hid hS17
              have HV17 := hid (HS16.out.below hb17)
              have HB17 := hid (HB16.out.trans (hb17.mono hs16))
              have hs17 := HB17.out.size
              clear hb17 ho17 hS17 hri17 htot17 HWide
              go_wp2_with fail
              refine Calls.mono (sameB_any a16 a17 out17 out17 c16 c17 w17 HV17.out HS17.out (by omega)) ?_
              rintro e w18 ⟨rfl, hb18⟩
              rw [dec_selfL]
              have HB18 := hid (HB17.out.trans (hb18.mono hs17))
              have hs18 := HB18.out.size
              clear hb18
              go_wp2_with fail
              refine Calls.mono (wider_bad2 a4 X.length c4 span 0 w18 hsp (by omega)) ?_
              rintro e w19 ⟨rfl, hb19⟩
              have HB19 := hid (HB18.out.trans (hb19.mono hs18))
              have hs19 := HB19.out.size
              clear hb19
              go_wp2_with fail
              refine Calls.mono (bare_errno 1 1 w19 (HE.out.below HB19.out hEl)) ?_
              rintro e w20 ⟨rfl, hb20⟩
              have HB20 := hid (HB19.out.trans (hb20.mono hs19))
              clear hb20
              go_wp2_with fail
              go_ret
              exact ⟨rfl, HB20.out⟩
        · obtain ⟨b0, off, hao, hf0, hf1, hbs⟩ := HA15.out 0 (by simp)
          subst hao
          have ea : CL.at' (x :: a') 0 = x := rfl
          rw [ea] at hf0 hf1
          simp only [Nat.zero_mul, Nat.add_zero] at hf0 hf1
          have hl1 : (x :: a').length = a'.length + 1 := rfl
          rw [hl1] at h1 hla ⊢
          have hx := HQa.out x (by simp)
          have hgt : decide (0 < (a'.length : Int) + 1) = true := decide_eq_true (by omega)
          have h1a : (1 : Int) ≤ (a'.length : Int) + 1 := by omega
          have HF1 : Hid (∀ w, Calls Tryd.prog 19 #[.int .i64 x.1, .int .i64 span] w fun e w' => e = .returned (.int .i64 (CL.flr x.1 span)) ∧ w' = w) := fun w => floor_any x.1 span w hsp (by omega)
          have HF2 : Hid (∀ w, Calls Tryd.prog 20 #[.int .i64 x.1, .int .i64 span] w fun e w' => e = .returned (.int .i64 (CL.flr x.1 span)) ∧ w' = w) := fun w => rfloor_any x.1 span w hsp (by omega)
          generalize CL.flr x.1 span = F at *
          generalize x.1 = T at *
          generalize x.2 = V at *
          clear ea hl1
          by_cases hc : 1 ≤ times ∧ times ≤ 1048576 ∧ span ≤ 1048576
          · obtain ⟨t1, t2, t3⟩ := hc
            have hp1 : 1 ≤ span * times := Int.mul_le_mul hsp.1 t1 (by omega) (by omega)
            have hp2 : span * times ≤ 1099511627776 := Int.le_trans (Int.mul_le_mul t3 t2 (by omega) (by omega)) (by decide)
            have hpw0 : wrap64 (span * times) = span * times := by unfold wrap64; omega
            have HPm : Hid (span * times % span = 0) := hid (Int.mul_emod_right span times)
            obtain ⟨wd, hwd⟩ : ∃ wd, wd = span * times := ⟨_, rfl⟩
            have hpw : wrap64 (span * times) = wd := by rw [hpw0, hwd]
            rw [← hwd] at hp1 hp2 HPm
            clear hwd hpw0
            go_wp2_with fail
            go_quiet (first | (go_at_call 19; exact Calls.quiet_of_same (HF1.out _)) | (go_at_call 20; exact Calls.quiet_of_same (HF2.out _)))
            have HXq : Hid (BRow (w15.drewN nq) a4 X) := HX15.out
            have HWq : Hid (BRow (w15.drewN nq) a3 X) := HW15.out
            have HBq := hid (below_drewN HB15.out nq)
            have hsq : w.heap.size ≤ (w15.drewN nq).heap.size := hs15
            generalize w15.drewN nq = wq at *
            go_wp2_with fail
            refine Calls.mono (wider_ok a4 X c4 span wd wq HXq.out HStA.out (by omega) hsp ⟨hp1, hp2, HPm.out⟩) ?_
            rintro e w16 ⟨v16, rfl, ho16, hb16⟩
            obtain ⟨a16, c16, rfl, hS16, _, _⟩ := BRow.of_own ho16
            have HS16 := hid hS16
            have HW16 := hid (HWq.out.below hb16)
            have HB16 := hid (HBq.out.trans (hb16.mono hsq))
            have hs16 := HB16.out.size
            clear hb16 ho16 hS16
            have HWide := hid (wide_tot wd X hp1 HRiA.out)
            have hVl := wid_len wd X
            generalize CL.wid' wd X = V at *
            go_wp2_with fail
            refine Calls.mono (rtog_any a3 X c3 wd w16 HW16.out HStA.out (by omega) ⟨hp1, hp2⟩) ?_
            rintro e w17 ⟨v17, out17, rfl, ho17, hb17, hri17, htot17⟩
            have heq := HWide.out out17 hri17 htot17
            subst heq
            obtain ⟨a17, c17, rfl, hS17, _, _⟩ := BRow.of_own ho17
            have HS17 := hid hS17
            have HV17 := hid (HS16.out.below hb17)
            have HB17 := hid (HB16.out.trans (hb17.mono hs16))
            have hs17 := HB17.out.size
            clear hb17 ho17 hS17 hri17 htot17 HWide
            go_wp2_with fail
            refine Calls.mono (sameB_any a16 a17 out17 out17 c16 c17 w17 HV17.out HS17.out (by omega)) ?_
            rintro e w18 ⟨rfl, hb18⟩
            rw [dec_selfL]
            have HB18 := hid (HB17.out.trans (hb18.mono hs17))
            have hs18 := HB18.out.size
            clear hb18
            go_wp2_with fail
            refine Calls.mono (wider_bad2 a4 X.length c4 span 0 w18 hsp (by omega)) ?_
            rintro e w19 ⟨rfl, hb19⟩
            have HB19 := hid (HB18.out.trans (hb19.mono hs18))
            have hs19 := HB19.out.size
            clear hb19
            go_wp2_with fail
            refine Calls.mono (bare_errno 1 1 w19 (HE.out.below HB19.out hEl)) ?_
            rintro e w20 ⟨rfl, hb20⟩
            have HB20 := hid (HB19.out.trans (hb20.mono hs19))
            clear hb20
            go_wp2_with fail
            go_ret
            exact ⟨rfl, HB20.out⟩
          · have HPm : Hid (span % span = 0) := hid (Int.emod_self)
            go_wp2_with fail
            go_quiet (first | (go_at_call 19; exact Calls.quiet_of_same (HF1.out _)) | (go_at_call 20; exact Calls.quiet_of_same (HF2.out _)))
            have HXq : Hid (BRow (w15.drewN nq) a4 X) := HX15.out
            have HWq : Hid (BRow (w15.drewN nq) a3 X) := HW15.out
            have HBq := hid (below_drewN HB15.out nq)
            have hsq : w.heap.size ≤ (w15.drewN nq).heap.size := hs15
            generalize w15.drewN nq = wq at *
            go_wp2_with fail
            all_goals
              refine Calls.mono (wider_ok a4 X c4 span span wq HXq.out HStA.out (by omega) hsp ⟨hsp.1, hsp.2, HPm.out⟩) ?_
              rintro e w16 ⟨v16, rfl, ho16, hb16⟩
              obtain ⟨a16, c16, rfl, hS16, _, _⟩ := BRow.of_own ho16
              have HS16 := hid hS16
              have HW16 := hid (HWq.out.below hb16)
              have HB16 := hid (HBq.out.trans (hb16.mono hsq))
              have hs16 := HB16.out.size
              clear hb16 ho16 hS16
              have HWide := hid (wide_tot span X hsp.1 HRiA.out)
              have hVl := wid_len span X
              generalize CL.wid' span X = V at *
              go_wp2_with fail
              refine Calls.mono (rtog_any a3 X c3 span w16 HW16.out HStA.out (by omega) ⟨hsp.1, hsp.2⟩) ?_
              rintro e w17 ⟨v17, out17, rfl, ho17, hb17, hri17, htot17⟩
              have heq := HWide.out out17 hri17 htot17
              subst heq
              obtain ⟨a17, c17, rfl, hS17, _, _⟩ := BRow.of_own ho17
              have HS17 := hid hS17
              have HV17 := hid (HS16.out.below hb17)
              have HB17 := hid (HB16.out.trans (hb17.mono hs16))
              have hs17 := HB17.out.size
              clear hb17 ho17 hS17 hri17 htot17 HWide
              go_wp2_with fail
              refine Calls.mono (sameB_any a16 a17 out17 out17 c16 c17 w17 HV17.out HS17.out (by omega)) ?_
              rintro e w18 ⟨rfl, hb18⟩
              rw [dec_selfL]
              have HB18 := hid (HB17.out.trans (hb18.mono hs17))
              have hs18 := HB18.out.size
              clear hb18
              go_wp2_with fail
              refine Calls.mono (wider_bad2 a4 X.length c4 span 0 w18 hsp (by omega)) ?_
              rintro e w19 ⟨rfl, hb19⟩
              have HB19 := hid (HB18.out.trans (hb19.mono hs18))
              have hs19 := HB19.out.size
              clear hb19
              go_wp2_with fail
              refine Calls.mono (bare_errno 1 1 w19 (HE.out.below HB19.out hEl)) ?_
              rintro e w20 ⟨rfl, hb20⟩
              have HB20 := hid (HB19.out.trans (hb20.mono hs19))
              clear hb20
              go_wp2_with fail
              go_ret
              exact ⟨rfl, HB20.out⟩
      · have HU := hid (up_bad ao a.length ca span w2 hsp)
        go_wp2_with fail
        refine Calls.mono (rup_bad ao a.length ca span w2 hsp) ?_
        rintro e w3 ⟨rfl, rfl⟩
        go_wp2_with fail
        refine Calls.mono HU.out ?_
        rintro e w4 ⟨rfl, hb4⟩
        have HB4 := hid (HB2.out.trans (hb4.mono hs2))
        have hs4 := HB4.out.size
        clear hb4 HU
        go_wp2_with fail
        refine Calls.mono (bare_errno 1 1 w4 (HE.out.below HB4.out hEl)) ?_
        rintro e w5 ⟨rfl, hb5⟩
        have HB5 := hid (HB4.out.trans (hb5.mono hs4))
        have hs5 := HB5.out.size
        clear hb5
        have HN5 := hid (sameB_any none none [] [] 0 0 w5 (fun i hi => by simp at hi) (fun i hi => by simp at hi) (by simp))
        rw [dec_selfL] at HN5
        go_wp2_with fail
        refine Calls.mono HN5.out ?_
        rintro e w6 ⟨rfl, hb6⟩
        have HB6 := hid (HB5.out.trans (hb6.mono hs5))
        have hs6 := HB6.out.size
        clear hb6
        go_wp2_with fail
        refine Calls.mono (bare_errno 1 1 w6 (HE.out.below HB6.out hEl)) ?_
        rintro e w7 ⟨rfl, hb7⟩
        have HB7 := hid (HB6.out.trans (hb7.mono hs6))
        have hs7 := HB7.out.size
        clear hb7
        have HN7 := hid (sameB_any none none [] [] 0 0 w7 (fun i hi => by simp at hi) (fun i hi => by simp at hi) (by simp))
        rw [dec_selfL] at HN7
        go_wp2_with fail
        refine Calls.mono HN7.out ?_
        rintro e w8 ⟨rfl, hb8⟩
        have HB8 := hid (HB7.out.trans (hb8.mono hs7))
        clear hb8
        go_wp2_with fail
        go_ret
        exact ⟨rfl, HB8.out⟩

end Go.Proofs.YtdmnlmohfaafoabDoor
