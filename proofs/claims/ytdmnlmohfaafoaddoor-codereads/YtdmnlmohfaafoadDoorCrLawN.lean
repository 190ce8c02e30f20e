/- A Reader and a Taker side by side, plain and in memory: what each step tells of both. Names no law. -/
import Derived.Test.YtdmnlmohfaafoadDoorCrAll
import Derived.Test.YtdmnlmohfaafoadDoorCrPln
import Derived.Test.YtdmnlmohfaafoadDoorCdRead
import Derived.Test.YtdmnlmohfaafoadDoorCsSame
namespace Go.Proofs.YtdmnlmohfaafoadDoor
open Go.RowKit

/-- A Reader and a Taker that have read the same. -/
def PairI (w : World) (br bt : Nat) : Prop := ∃ Sp St bad, RdI w br Sp bad ∧ TkI w bt St bad ∧ (bad = false → Sp = St) ∧ Sp.length ≤ 400 ∧ St.length ≤ 400

theorem tN_pair {Sp St : List UInt8} {bad : Bool} (h : bad = false → Sp = St) : ∃ n Rp Rt b, tN Sp bad = (n, Rp, b) ∧ tN St bad = (n, Rt, b) ∧ (b = false → Rp = Rt) ∧ Rp.length ≤ Sp.length ∧ Rt.length ≤ St.length ∧ (b = true → n = 0) ∧ -9223372036854775808 ≤ n ∧ n ≤ 9223372036854775807 := by
  cases bad with
  | true => exact ⟨0, Sp, St, true, tN_bad Sp, tN_bad St, (fun h => by cases h), Nat.le_refl _, Nat.le_refl _, fun _ => rfl, by omega, by omega⟩
  | false =>
    obtain rfl := h rfl
    have hl := tN_len Sp false
    have hz := tN_zero Sp false
    have hr : -9223372036854775808 ≤ (tN Sp false).1 ∧ (tN Sp false).1 ≤ 9223372036854775807 := by
      cases hr : CD.rN Sp with
      | none => rw [tN_none hr]; show -9223372036854775808 ≤ (0 : Int) ∧ (0 : Int) ≤ 9223372036854775807; omega
      | some p =>
        obtain ⟨n, r⟩ := p
        rw [tN_some hr]
        exact (CD.rN_inv hr).2
    exact ⟨(tN Sp false).1, (tN Sp false).2.1, (tN Sp false).2.1, (tN Sp false).2.2, rfl, rfl, fun _ => rfl, hl, hl, hz, hr.1, hr.2⟩

theorem tT_pair {Sp St : List UInt8} {bad : Bool} (h : bad = false → Sp = St) : ∃ a Rp Rt b, tT Sp bad = (a, Rp, b) ∧ tT St bad = (a, Rt, b) ∧ (b = false → Rp = Rt) ∧ Rp.length ≤ Sp.length ∧ Rt.length ≤ St.length := by
  cases bad with
  | true => exact ⟨[], Sp, St, true, tT_bad Sp, tT_bad St, (fun h => by cases h), Nat.le_refl _, Nat.le_refl _⟩
  | false =>
    obtain rfl := h rfl
    obtain ⟨a, R, b, h1, h2, _⟩ := tT_is Sp false
    exact ⟨a, R, R, b, h1, h1, fun _ => rfl, h2, h2⟩

theorem below_by {B k : Nat} {w wr w' : World} (h : Below B w wr) (hg : wr.grownBy w' (some k)) (hk : B ≤ k) (hs : B ≤ wr.heap.size) : Below B w w' := h.grown hg hs (fun j hj => by cases hj; exact hk)

theorem below_but {B k : Nat} {w wr w' : World} (h : Below B w wr) (hb : But k wr w') (hk : B ≤ k) (hs : B ≤ wr.heap.size) : Below B w w' :=
  h.trans ⟨hb.1, hb.2.1, hb.2.2.1, hb.2.2.2.1, fun j hj => hb.2.2.2.2 j (Nat.lt_of_lt_of_le hj hs) (by omega)⟩

theorem TkI.by_rd {w w' : World} {br bt : Nat} {S : List UInt8} {bad : Bool} (h : TkI w bt S bad) (hg : But br w w') (hne : bt ≠ br) : TkI w' bt S bad := (hg.2.2.2.2 bt (heap_lt h) hne).trans h

theorem RdI.by_tk {w w' : World} {br bt : Nat} {S : List UInt8} {bad : Bool} (h : RdI w br S bad) (hg : But bt w w') (hne : br ≠ bt) : RdI w' br S bad := (hg.2.2.2.2 br (heap_lt h) hne).trans h

end Go.Proofs.YtdmnlmohfaafoadDoor
