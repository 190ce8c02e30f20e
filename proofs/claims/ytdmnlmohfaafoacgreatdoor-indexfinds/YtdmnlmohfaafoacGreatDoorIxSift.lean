/- What index.sift keeps of two rows that rise; And, Or, Not. -/
import Derived.Test.YtdmnlmohfaafoacGreatDoorIxMem
import Derived.Deep.QuietTactic
import Derived.BigQuiet
import Derived.OwnWalk
import Derived.Shelf.Abstract
namespace Go.Proofs.YtdmnlmohfaafoacGreatDoor
open Go.RowKit Go.Shelf

/-- Numbers behind the first one. -/
theorem irow_tail {w : World} {ao : Option Addr} {x : Int} {l : List Int} {cap : Nat} (h : IRow w ao (x :: l)) (hc : (x :: l).length ≤ cap) :
    ∃ b off A, ao = some ⟨b, off, none⟩ ∧ (if cap = 1 then some ⟨b, off, none⟩ else some ⟨b, off + 1, none⟩) = A ∧ IRow w A l ∧ b < w.heap.size ∧ w.cell? ⟨b, off, none⟩ = some (.int .i64 x) := by
  obtain ⟨b, off, e, hc0, hb0⟩ := h 0 (by simp)
  refine ⟨b, off, _, e, rfl, fun i hi => ?_, hb0, hc0⟩
  obtain ⟨b', off', e', c0, hb⟩ := h (i + 1) (by simpa using hi)
  rw [e] at e'
  simp only [Option.some.injEq, Addr.mk.injEq, and_true] at e'
  obtain ⟨rfl, rfl⟩ := e'
  have hn : cap ≠ 1 := by simp at hc; omega
  refine ⟨b, off + 1, by rw [if_neg hn], ?_, hb⟩
  have : off + 1 + i = off + (i + 1) := by omega
  rw [this]; exact c0

def lenV : Value → Nat
  | .slice _ n _ => n
  | _ => 0

theorem Tryz.infoI : (Tryz.prog.info? 3).map (fun i => (i.zero, i.size, i.bytes)) = some (some (.int .i64 0), 1, 8) := by kernel_rfl

theorem own_one {w : World} {base : Nat} {v : Value} {K : List Int} {x : Int} (h : w.ownsRow base 3 1 v (K.length + 1) (nv K ++ [.int .i64 x])) : w.ownsRow base 3 1 v (K ++ [x]).length (nv (K ++ [x])) := by
  rw [nv_append, List.length_append]
  exact h

set_option maxRecDepth 100000 in
set_option maxHeartbeats 1600000 in
theorem sift_any (g : Nat) (lb : Array Value) (k : Bool → Bool → Bool) (ao bo : Option Addr) (A B : List Int) (ca cb : Nat) (w : World) (hA : IRow w ao A) (hB : IRow w bo B) (hca : A.length ≤ ca) (hcb : B.length ≤ cb) (hla : A.length ≤ 100000) (hlb : B.length ≤ 100000)
    (eg : ∀ args w, (callFunc g args).run Tryz.prog w = .ok (.enter g args) w)
    (hk : ∀ p q W, Calls Tryz.prog g (#[.bool p, .bool q] ++ lb) W fun e w' => e = .returned (.bool (k p q)) ∧ w' = W) :
    Calls Tryz.prog 45 #[.slice ao A.length ca, .slice bo B.length cb, .func (.func g) #[] lb] w fun e w' => ∃ v, e = .returned v ∧ w'.ownsRow w.heap.size 3 1 v (IX.sift k A B).length (nv (IX.sift k A B)) ∧ Below w.heap.size w w' := by
  have HA := hid hA
  have HB := hid hB
  have HK := hid hk
  clear hA hB hk
  obtain ⟨ii, hii, hi'⟩ := Option.map_eq_some_iff.1 Tryz.infoI
  simp only [Prod.mk.injEq] at hi'
  obtain ⟨hz0, hz1, hz2⟩ := hi'
  have HI0 := hid hii
  have HZ0 := hid hz0
  have HZ1 := hid hz1
  have HZ2 := hid hz2
  clear hii hz0 hz1 hz2
  go_enter Tryz.func45, Tryz.ntmps45
  go_wp2_with fail
  go_loopw [0, 1, 7] (fun ta tb tl wr => ∃ (A' B' O : List Int) (ao' bo' : Option Addr) (ca' cb' : Nat), ta = .slice ao' A'.length ca' ∧ tb = .slice bo' B'.length cb' ∧ A'.length ≤ ca' ∧ B'.length ≤ cb' ∧ O.length + A'.length + B'.length ≤ 200000 ∧ IX.sift k A B = O ++ IX.sift k A' B' ∧ IRow w ao' A' ∧ IRow w bo' B' ∧ wr.ownsRow w.heap.size 3 1 tl O.length (nv O) ∧ Below w.heap.size w wr) (fun ta tb _ _ => lenV ta + lenV tb)
  case atStart => exact ⟨A, B, [], ao, bo, ca, cb, rfl, rfl, hca, hcb, by simp; omega, rfl, HA.out, HB.out, World.ownsRow_nil _ _ _ _, Below.refl _ _⟩
  case round =>
    obtain ⟨A', B', O, ao', bo', ca', cb', rfl, rfl, hca', hcb', hdl, hm, hSa, hSb, hown, hbel⟩ := hrel
    have HM := hid hm
    have HSa := hid hSa
    have HSb := hid hSb
    have HO := hid hown
    have HBl := hid hbel
    have hsz := hbel.size
    clear hm hSa hSb hown hbel
    rcases A' with _ | ⟨x, A2⟩
    · rcases B' with _ | ⟨y, B2⟩
      · simp only [List.length_nil] at hca' hcb' hdl ⊢
        have HE : Hid (IX.sift k A B = O) := by
          show _ = _
          rw [HM.out, IX.sift]; simp
        go_wp2_with fail
        go_ret
        exact ⟨_, rfl, by rw [HE.out]; exact HO.out, HBl.out⟩
      · obtain ⟨bb, ob, Ab, rfl, hAb, hSb2, hbs, hcb0⟩ := irow_tail HSb.out hcb'
        have HSb2 := hid hSb2
        have e0 := (HBl.out.cell (p := ⟨bb, ob, none⟩) hbs).trans hcb0
        have hl2 : (y :: B2).length = B2.length + 1 := rfl
        rw [hl2] at hcb' hdl ⊢
        clear hSb2 hl2 hcb0
        have h1b : (1 : Int) ≤ (B2.length : Int) + 1 := by omega
        have hcc2 : 1 ≤ cb' := by omega
        simp only [List.length_nil] at hca' hdl ⊢
        go_wp2_with fail
        go_quiet (fail)
        go_wp2_with fail
        go_quiet (fail)
        go_wp2_with fail
        go_quiet (fail)
        go_wp2_with fail
        refine (HK.out false true _).mono ?_
        rintro e w5 ⟨rfl, hw5⟩
        have HO5 : Hid (w5.ownsRow w.heap.size 3 1 u7 O.length (nv O)) := by rw [hw5]; exact HO.out
        have HB5 : Hid (Below w.heap.size w w5) := by rw [hw5]; exact below_drewN HBl.out _
        have hsz5 : w.heap.size ≤ w5.heap.size := HB5.out.size
        clear hw5 HO HBl hsz
        cases hkk : k false true with
        | true =>
          have HKK := hid hkk
          clear hkk
          go_wp2_with (at_builtin; refine wpList_append_own _ rfl (.tmp 69) (.tmp 71) 45 rfl w.heap.size 3 ii (.int .i64 0) 1 8 Tryz.underlying45 HI0.out HZ0.out HZ1.out HZ2.out rfl (by decide) u7 O.length (nv O) rfl (HO5.out.alloc _) ⟨w5.heap.size, 0, none⟩ 1 1 [.int .i64 y] rfl rfl (cell_one_new _ _ _) (by simp [Value.oneCell']) (by unfold maxLen; omega) (by omega) (by simp; omega) ?_)
          intro v7 w7 hown7 hgrow7 _
          have HO7 := hid (own_one hown7)
          have HB7 := hid ((HB5.out.alloc hsz5 (.cells #[.int .i64 y] 3)).grown hgrow7 (by simp; omega) (fun j hj => (HO5.out.lt j hj).1))
          clear hown7 hgrow7
          go_wp2_with fail
          go_roundw
          case rel => exact ⟨[], B2, O ++ [y], ao', Ab, ca', cb' - 1, rfl, rfl, by first | omega | simpa using hca', by first | omega | simpa using hcb', by first | omega | (simp; omega), by rw [HM.out, IX.sift_b, HKK.out, if_pos rfl, List.append_assoc], HSa.out, HSb2.out, HO7.out, HB7.out⟩
          case measure => simp [lenV] <;> omega
        | false =>
          have HKK := hid hkk
          clear hkk
          go_wp2_with fail
          go_roundw
          case rel => exact ⟨[], B2, O, ao', Ab, ca', cb' - 1, rfl, rfl, by first | omega | simpa using hca', by first | omega | simpa using hcb', by first | omega | (simp; omega), by rw [HM.out, IX.sift_b, HKK.out]; simp, HSa.out, HSb2.out, HO5.out, HB5.out⟩
          case measure => simp [lenV] <;> omega
    · rcases B' with _ | ⟨y, B2⟩
      · obtain ⟨ba, oa, Aa, rfl, hAa, hSa2, has, hca0⟩ := irow_tail HSa.out hca'
        have HSa2 := hid hSa2
        have c0 := (HBl.out.cell (p := ⟨ba, oa, none⟩) has).trans hca0
        have hl1 : (x :: A2).length = A2.length + 1 := rfl
        rw [hl1] at hca' hdl ⊢
        clear hSa2 hl1 hca0
        have h1a : (1 : Int) ≤ (A2.length : Int) + 1 := by omega
        have hcc1 : 1 ≤ ca' := by omega
        simp only [List.length_nil] at hcb' hdl ⊢
        go_wp2_with fail
        go_quiet (fail)
        go_wp2_with fail
        go_quiet (fail)
        go_wp2_with fail
        go_quiet (fail)
        go_wp2_with fail
        refine (HK.out true false _).mono ?_
        rintro e w5 ⟨rfl, hw5⟩
        have HO5 : Hid (w5.ownsRow w.heap.size 3 1 u7 O.length (nv O)) := by rw [hw5]; exact HO.out
        have HB5 : Hid (Below w.heap.size w w5) := by rw [hw5]; exact below_drewN HBl.out _
        have hsz5 : w.heap.size ≤ w5.heap.size := HB5.out.size
        clear hw5 HO HBl hsz
        cases hkk : k true false with
        | true =>
          have HKK := hid hkk
          clear hkk
          go_wp2_with (at_builtin; refine wpList_append_own _ rfl (.tmp 69) (.tmp 71) 45 rfl w.heap.size 3 ii (.int .i64 0) 1 8 Tryz.underlying45 HI0.out HZ0.out HZ1.out HZ2.out rfl (by decide) u7 O.length (nv O) rfl (HO5.out.alloc _) ⟨w5.heap.size, 0, none⟩ 1 1 [.int .i64 x] rfl rfl (cell_one_new _ _ _) (by simp [Value.oneCell']) (by unfold maxLen; omega) (by omega) (by simp; omega) ?_)
          intro v7 w7 hown7 hgrow7 _
          have HO7 := hid (own_one hown7)
          have HB7 := hid ((HB5.out.alloc hsz5 (.cells #[.int .i64 x] 3)).grown hgrow7 (by simp; omega) (fun j hj => (HO5.out.lt j hj).1))
          clear hown7 hgrow7
          go_wp2_with fail
          go_roundw
          case rel => exact ⟨A2, [], O ++ [x], Aa, bo', ca' - 1, cb', rfl, rfl, by first | omega | simpa using hca', by first | omega | simpa using hcb', by first | omega | (simp; omega), by rw [HM.out, IX.sift_a, HKK.out, if_pos rfl, List.append_assoc], HSa2.out, HSb.out, HO7.out, HB7.out⟩
          case measure => simp [lenV] <;> omega
        | false =>
          have HKK := hid hkk
          clear hkk
          go_wp2_with fail
          go_roundw
          case rel => exact ⟨A2, [], O, Aa, bo', ca' - 1, cb', rfl, rfl, by first | omega | simpa using hca', by first | omega | simpa using hcb', by first | omega | (simp; omega), by rw [HM.out, IX.sift_a, HKK.out]; simp, HSa2.out, HSb.out, HO5.out, HB5.out⟩
          case measure => simp [lenV] <;> omega
      · obtain ⟨ba, oa, Aa, rfl, hAa, hSa2, has, hca0⟩ := irow_tail HSa.out hca'
        have HSa2 := hid hSa2
        have c0 := (HBl.out.cell (p := ⟨ba, oa, none⟩) has).trans hca0
        have hl1 : (x :: A2).length = A2.length + 1 := rfl
        rw [hl1] at hca' hdl ⊢
        clear hSa2 hl1 hca0
        have h1a : (1 : Int) ≤ (A2.length : Int) + 1 := by omega
        have hcc1 : 1 ≤ ca' := by omega
        obtain ⟨bb, ob, Ab, rfl, hAb, hSb2, hbs, hcb0⟩ := irow_tail HSb.out hcb'
        have HSb2 := hid hSb2
        have e0 := (HBl.out.cell (p := ⟨bb, ob, none⟩) hbs).trans hcb0
        have hl2 : (y :: B2).length = B2.length + 1 := rfl
        rw [hl2] at hcb' hdl ⊢
        clear hSb2 hl2 hcb0
        have h1b : (1 : Int) ≤ (B2.length : Int) + 1 := by omega
        have hcc2 : 1 ≤ cb' := by omega
        rcases Int.lt_trichotomy x y with hlt | heq | hgt
        · have hd1 : x ≤ y := by omega
          have hd2 : decide (y ≤ x) = false := decide_eq_false (by omega)
          have HLt := hid hlt
          clear hlt
          go_wp2_with fail
          go_quiet (fail)
          go_wp2_with fail
          go_quiet (fail)
          go_wp2_with fail
          go_quiet (fail)
          go_wp2_with fail
          refine (HK.out true false _).mono ?_
          rintro e w5 ⟨rfl, hw5⟩
          have HO5 : Hid (w5.ownsRow w.heap.size 3 1 u7 O.length (nv O)) := by rw [hw5]; exact HO.out
          have HB5 : Hid (Below w.heap.size w w5) := by rw [hw5]; exact below_drewN HBl.out _
          have hsz5 : w.heap.size ≤ w5.heap.size := HB5.out.size
          clear hw5 HO HBl hsz
          cases hkk : k true false with
          | true =>
            have HKK := hid hkk
            clear hkk
            go_wp2_with (at_builtin; refine wpList_append_own _ rfl (.tmp 69) (.tmp 71) 45 rfl w.heap.size 3 ii (.int .i64 0) 1 8 Tryz.underlying45 HI0.out HZ0.out HZ1.out HZ2.out rfl (by decide) u7 O.length (nv O) rfl (HO5.out.alloc _) ⟨w5.heap.size, 0, none⟩ 1 1 [.int .i64 x] rfl rfl (cell_one_new _ _ _) (by simp [Value.oneCell']) (by unfold maxLen; omega) (by omega) (by simp; omega) ?_)
            intro v7 w7 hown7 hgrow7 _
            have HO7 := hid (own_one hown7)
            have HB7 := hid ((HB5.out.alloc hsz5 (.cells #[.int .i64 x] 3)).grown hgrow7 (by simp; omega) (fun j hj => (HO5.out.lt j hj).1))
            clear hown7 hgrow7
            go_wp2_with fail
            go_roundw
            case rel => exact ⟨A2, y :: B2, O ++ [x], Aa, some ⟨bb, ob, none⟩, ca' - 1, cb', rfl, rfl, by first | omega | simpa using hca', by first | omega | simpa using hcb', by first | omega | (simp; omega), by rw [HM.out, IX.sift_lt k _ _ _ _ HLt.out, HKK.out, if_pos rfl, List.append_assoc], HSa2.out, HSb.out, HO7.out, HB7.out⟩
            case measure => simp [lenV] <;> omega
          | false =>
            have HKK := hid hkk
            clear hkk
            go_wp2_with fail
            go_roundw
            case rel => exact ⟨A2, y :: B2, O, Aa, some ⟨bb, ob, none⟩, ca' - 1, cb', rfl, rfl, by first | omega | simpa using hca', by first | omega | simpa using hcb', by first | omega | (simp; omega), by rw [HM.out, IX.sift_lt k _ _ _ _ HLt.out, HKK.out]; simp, HSa2.out, HSb.out, HO5.out, HB5.out⟩
            case measure => simp [lenV] <;> omega
        · have hd1 : x ≤ y := by omega
          have hd2 : y ≤ x := by omega
          have HLt := hid heq
          clear heq
          go_wp2_with fail
          go_quiet (fail)
          go_wp2_with fail
          go_quiet (fail)
          go_wp2_with fail
          go_quiet (fail)
          go_wp2_with fail
          go_quiet (fail)
          go_wp2_with fail
          refine (HK.out true true _).mono ?_
          rintro e w5 ⟨rfl, hw5⟩
          have HO5 : Hid (w5.ownsRow w.heap.size 3 1 u7 O.length (nv O)) := by rw [hw5]; exact HO.out
          have HB5 : Hid (Below w.heap.size w w5) := by rw [hw5]; exact below_drewN HBl.out _
          have hsz5 : w.heap.size ≤ w5.heap.size := HB5.out.size
          clear hw5 HO HBl hsz
          cases hkk : k true true with
          | true =>
            have HKK := hid hkk
            clear hkk
            go_wp2_with (at_builtin; refine wpList_append_own _ rfl (.tmp 69) (.tmp 71) 45 rfl w.heap.size 3 ii (.int .i64 0) 1 8 Tryz.underlying45 HI0.out HZ0.out HZ1.out HZ2.out rfl (by decide) u7 O.length (nv O) rfl (HO5.out.alloc _) ⟨w5.heap.size, 0, none⟩ 1 1 [.int .i64 x] rfl rfl (cell_one_new _ _ _) (by simp [Value.oneCell']) (by unfold maxLen; omega) (by omega) (by simp; omega) ?_)
            intro v7 w7 hown7 hgrow7 _
            have HO7 := hid (own_one hown7)
            have HB7 := hid ((HB5.out.alloc hsz5 (.cells #[.int .i64 x] 3)).grown hgrow7 (by simp; omega) (fun j hj => (HO5.out.lt j hj).1))
            clear hown7 hgrow7
            go_wp2_with fail
            go_roundw
            case rel => exact ⟨A2, B2, O ++ [x], Aa, Ab, ca' - 1, cb' - 1, rfl, rfl, by first | omega | simpa using hca', by first | omega | simpa using hcb', by first | omega | (simp; omega), by rw [HM.out, IX.sift_eq k _ _ _ _ HLt.out, HKK.out, if_pos rfl, List.append_assoc], HSa2.out, HSb2.out, HO7.out, HB7.out⟩
            case measure => simp [lenV] <;> omega
          | false =>
            have HKK := hid hkk
            clear hkk
            go_wp2_with fail
            go_roundw
            case rel => exact ⟨A2, B2, O, Aa, Ab, ca' - 1, cb' - 1, rfl, rfl, by first | omega | simpa using hca', by first | omega | simpa using hcb', by first | omega | (simp; omega), by rw [HM.out, IX.sift_eq k _ _ _ _ HLt.out, HKK.out]; simp, HSa2.out, HSb2.out, HO5.out, HB5.out⟩
            case measure => simp [lenV] <;> omega
        · have hd1 : decide (x ≤ y) = false := decide_eq_false (by omega)
          have hd2 : y ≤ x := by omega
          have HLt := hid hgt
          clear hgt
          go_wp2_with fail
          go_quiet (fail)
          go_wp2_with fail
          go_quiet (fail)
          go_wp2_with fail
          go_quiet (fail)
          go_wp2_with fail
          refine (HK.out false true _).mono ?_
          rintro e w5 ⟨rfl, hw5⟩
          have HO5 : Hid (w5.ownsRow w.heap.size 3 1 u7 O.length (nv O)) := by rw [hw5]; exact HO.out
          have HB5 : Hid (Below w.heap.size w w5) := by rw [hw5]; exact below_drewN HBl.out _
          have hsz5 : w.heap.size ≤ w5.heap.size := HB5.out.size
          clear hw5 HO HBl hsz
          cases hkk : k false true with
          | true =>
            have HKK := hid hkk
            clear hkk
            go_wp2_with (at_builtin; refine wpList_append_own _ rfl (.tmp 69) (.tmp 71) 45 rfl w.heap.size 3 ii (.int .i64 0) 1 8 Tryz.underlying45 HI0.out HZ0.out HZ1.out HZ2.out rfl (by decide) u7 O.length (nv O) rfl (HO5.out.alloc _) ⟨w5.heap.size, 0, none⟩ 1 1 [.int .i64 y] rfl rfl (cell_one_new _ _ _) (by simp [Value.oneCell']) (by unfold maxLen; omega) (by omega) (by simp; omega) ?_)
            intro v7 w7 hown7 hgrow7 _
            have HO7 := hid (own_one hown7)
            have HB7 := hid ((HB5.out.alloc hsz5 (.cells #[.int .i64 y] 3)).grown hgrow7 (by simp; omega) (fun j hj => (HO5.out.lt j hj).1))
            clear hown7 hgrow7
            go_wp2_with fail
            go_roundw
            case rel => exact ⟨x :: A2, B2, O ++ [y], some ⟨ba, oa, none⟩, Ab, ca', cb' - 1, rfl, rfl, by first | omega | simpa using hca', by first | omega | simpa using hcb', by first | omega | (simp; omega), by rw [HM.out, IX.sift_gt k _ _ _ _ HLt.out, HKK.out, if_pos rfl, List.append_assoc], HSa.out, HSb2.out, HO7.out, HB7.out⟩
            case measure => simp [lenV] <;> omega
          | false =>
            have HKK := hid hkk
            clear hkk
            go_wp2_with fail
            go_roundw
            case rel => exact ⟨x :: A2, B2, O, some ⟨ba, oa, none⟩, Ab, ca', cb' - 1, rfl, rfl, by first | omega | simpa using hca', by first | omega | simpa using hcb', by first | omega | (simp; omega), by rw [HM.out, IX.sift_gt k _ _ _ _ HLt.out, HKK.out]; simp, HSa.out, HSb2.out, HO5.out, HB5.out⟩
            case measure => simp [lenV] <;> omega

/-- The three ways of keeping. -/
theorem and1_any (p q : Bool) (W : World) : Calls Tryz.prog 46 (#[.bool p, .bool q] ++ #[]) W fun e w' => e = .returned (.bool (IX.kAnd p q)) ∧ w' = W := by
  cases p <;> cases q <;>
  · go_enter Tryz.func46, Tryz.ntmps46
    go_wp2_with fail
    go_ret
    exact ⟨rfl, rfl⟩

theorem not1_any (p q : Bool) (W : World) : Calls Tryz.prog 62 (#[.bool p, .bool q] ++ #[]) W fun e w' => e = .returned (.bool (IX.kNot p q)) ∧ w' = W := by
  cases p <;> cases q <;>
  · go_enter Tryz.func62, Tryz.ntmps62
    go_wp2_with fail
    go_ret
    exact ⟨rfl, rfl⟩

theorem or1_any (p q : Bool) (W : World) : Calls Tryz.prog 61 (#[.bool p, .bool q] ++ #[]) W fun e w' => e = .returned (.bool (IX.kOr p q)) ∧ w' = W := by
  cases p <;> cases q <;>
  · go_enter Tryz.func61, Tryz.ntmps61
    go_wp2_with fail
    go_ret
    exact ⟨rfl, rfl⟩

/-- What such a call leaves: a new row of numbers. -/
def RowEnd (R : List Int) (w : World) (e : Ending) (w' : World) : Prop := ∃ v, e = .returned v ∧ w'.ownsRow w.heap.size 3 1 v R.length (nv R) ∧ Below w.heap.size w w'

theorem and_any (ao bo : Option Addr) (A B : List Int) (ca cb : Nat) (w : World) (hA : IRow w ao A) (hB : IRow w bo B) (hca : A.length ≤ ca) (hcb : B.length ≤ cb) (hla : A.length ≤ 100000) (hlb : B.length ≤ 100000) :
    Calls Tryz.prog 31 #[.slice ao A.length ca, .slice bo B.length cb] w fun e w' => RowEnd (IX.sift IX.kAnd A B) w e w' := by
  have HC := hid (sift_any 46 #[] IX.kAnd ao bo A B ca cb w hA hB hca hcb hla hlb (enters_of Tryz.func46 (by kernel_rfl) rfl) and1_any)
  clear hA hB
  go_enter Tryz.func31, Tryz.ntmps31
  go_wp2_with fail
  refine HC.out.mono ?_
  rintro e w2 ⟨v, rfl, ho, hb⟩
  have HO := hid ho
  have HB := hid hb
  clear ho hb HC
  go_wp2_with fail
  go_ret
  exact ⟨v, rfl, HO.out, HB.out⟩

theorem or_any (ao bo : Option Addr) (A B : List Int) (ca cb : Nat) (w : World) (hA : IRow w ao A) (hB : IRow w bo B) (hca : A.length ≤ ca) (hcb : B.length ≤ cb) (hla : A.length ≤ 100000) (hlb : B.length ≤ 100000) :
    Calls Tryz.prog 49 #[.slice ao A.length ca, .slice bo B.length cb] w fun e w' => RowEnd (IX.sift IX.kOr A B) w e w' := by
  have HC := hid (sift_any 61 #[] IX.kOr ao bo A B ca cb w hA hB hca hcb hla hlb (enters_of Tryz.func61 (by kernel_rfl) rfl) or1_any)
  clear hA hB
  go_enter Tryz.func49, Tryz.ntmps49
  go_wp2_with fail
  refine HC.out.mono ?_
  rintro e w2 ⟨v, rfl, ho, hb⟩
  have HO := hid ho
  have HB := hid hb
  clear ho hb HC
  go_wp2_with fail
  go_ret
  exact ⟨v, rfl, HO.out, HB.out⟩

theorem not_any (ao bo : Option Addr) (A B : List Int) (ca cb : Nat) (w : World) (hA : IRow w ao A) (hB : IRow w bo B) (hca : A.length ≤ ca) (hcb : B.length ≤ cb) (hla : A.length ≤ 100000) (hlb : B.length ≤ 100000) :
    Calls Tryz.prog 50 #[.slice ao A.length ca, .slice bo B.length cb] w fun e w' => RowEnd (IX.sift IX.kNot A B) w e w' := by
  have HC := hid (sift_any 62 #[] IX.kNot ao bo A B ca cb w hA hB hca hcb hla hlb (enters_of Tryz.func62 (by kernel_rfl) rfl) not1_any)
  clear hA hB
  go_enter Tryz.func50, Tryz.ntmps50
  go_wp2_with fail
  refine HC.out.mono ?_
  rintro e w2 ⟨v, rfl, ho, hb⟩
  have HO := hid ho
  have HB := hid hb
  clear ho hb HC
  go_wp2_with fail
  go_ret
  exact ⟨v, rfl, HO.out, HB.out⟩

end Go.Proofs.YtdmnlmohfaafoacGreatDoor
