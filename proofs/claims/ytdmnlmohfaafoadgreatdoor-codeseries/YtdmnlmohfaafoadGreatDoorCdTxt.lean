/- Bytes as texts; what a Taker, and a Reader, takes, plain. -/
import Derived.Test.YtdmnlmohfaafoadGreatDoorCdNum
import Derived.Test.YtdmnlmohfaafoadGreatDoorCxMem
namespace Go.Proofs.YtdmnlmohfaafoadGreatDoor
open Go.RowKit

/-- Bytes as a text. -/
def sb (l : List UInt8) : ByteArray := ⟨l.toArray⟩

theorem sb_size (l : List UInt8) : (sb l).size = l.length := by show l.toArray.size = _; simp

theorem sb_data (l : List UInt8) : (sb l).data.toList = l := by simp [sb]

theorem sb_of (s : ByteArray) : sb s.data.toList = s := by cases s; simp [sb]

theorem sb_append (a b : List UInt8) : sb a ++ sb b = sb (a ++ b) := by
  have h : ∀ x y : ByteArray, x.data.toList = y.data.toList → x = y := fun x y h => by
    cases x; cases y; simp at h; rw [h]
  apply h
  simp [sb]

theorem tgrown (w : World) (b o : Nat) (u : Value) : w.grownBy (w.setCell ⟨b, o, none⟩ u) (some b) := ⟨rfl, rfl, rfl, by simp, fun k _ hk => Below.heap_setCell w ⟨b, o, none⟩ u k (fun e => hk (by rw [e]))⟩

/-- A number is taken. -/
def tN (S : List UInt8) (bad : Bool) : Int × List UInt8 × Bool := if bad then (0, S, true) else match CD.rN S with
  | none => (0, S, true)
  | some (n, r) => (n, r, false)

theorem sb_drop (S : List UInt8) (k : Nat) (_h : k ≤ S.length) : (sb S).extract k (sb S).size = sb (S.drop k) := by
  have h0 : ∀ x y : ByteArray, x.data.toList = y.data.toList → x = y := fun x y h => by
    cases x; cases y; simp at h; rw [h]
  apply h0
  rw [ByteArray.data_extract, Array.toList_extract, List.extract_eq_take_drop, sb_data, sb_data, sb_size, List.take_of_length_le (by rw [List.length_drop]; omega)]

theorem sb_take (S : List UInt8) (k : Nat) : (sb S).extract 0 k = sb (S.take k) := by
  have h0 : ∀ x y : ByteArray, x.data.toList = y.data.toList → x = y := fun x y h => by
    cases x; cases y; simp at h; rw [h]
  apply h0
  rw [ByteArray.data_extract, Array.toList_extract, List.extract_eq_take_drop, sb_data, sb_data, List.drop_zero, Nat.sub_zero]

theorem v8_take (S : List UInt8) (i : Nat) (h : i < S.length) : CD.v8 (S.take (i + 1)) = CD.v8 (S.take i) * 256 + (S[i]'h).toNat := by
  have e : S.take (i + 1) = S.take i ++ [S[i]'h] := by rw [List.take_add_one, List.getElem?_eq_getElem h]; rfl
  rw [e]
  unfold CD.v8
  rw [List.foldl_append]
  rfl

theorem v8_lt (l : List UInt8) : CD.v8 l < 256 ^ l.length := by
  unfold CD.v8
  have key : ∀ (l : List UInt8) (a : Nat), l.foldl (fun a b => a * 256 + b.toNat) a < (a + 1) * 256 ^ l.length := by
    intro l
    induction l with
    | nil => intro a; simp
    | cons x l ih =>
      intro a
      have h1 := ih (a * 256 + x.toNat)
      have hx := UInt8.toNat_lt x
      simp only [List.foldl_cons, List.length_cons]
      have h2 : (a * 256 + x.toNat + 1) * 256 ^ l.length ≤ (a + 1) * 256 * 256 ^ l.length := Nat.mul_le_mul_right _ (by omega)
      have h3 : (a + 1) * 256 ^ (l.length + 1) = (a + 1) * 256 * 256 ^ l.length := by rw [Nat.pow_succ, Nat.mul_comm (256 ^ l.length), ← Nat.mul_assoc]
      omega
  have := key l 0
  simpa using this

theorem sb_index (S : List UInt8) (i : Nat) (h : i < S.length) (W : World) : (Instr.index 9 (.string (sb S)) (.int .i64 (i : Int))).run Tryz.prog W = .ok (.int .u8 ((S[i]'h).toNat : Int)) W := by
  have hz := sb_size S
  rw [run_index_string W 9 (sb S) .i64 (i : Int) Tryz.underlying9, dif_pos ⟨by omega, by omega⟩]
  congr 3

/-- A text is taken. -/
def tT (S : List UInt8) (bad : Bool) : List UInt8 × List UInt8 × Bool :=
  if (tN S bad).2.2 = false ∧ 0 ≤ (tN S bad).1 ∧ (tN S bad).1 ≤ (tN S bad).2.1.length then ((tN S bad).2.1.take (tN S bad).1.toNat, (tN S bad).2.1.drop (tN S bad).1.toNat, false) else ([], (tN S bad).2.1, true)

theorem tN_len (S : List UInt8) (bad : Bool) : (tN S bad).2.1.length ≤ S.length := by
  unfold tN
  split
  · exact Nat.le_refl _
  · split
    · exact Nat.le_refl _
    · rename_i n r h
      unfold CD.rN at h
      split at h
      · cases h
      · simp only [Option.some.injEq, Prod.mk.injEq] at h
        rw [← h.2]
        show (S.drop 8).length ≤ _
        rw [List.length_drop]
        omega

theorem grown_two {a b c : World} {row : Option Nat} (h : a.grownBy b row) (k : b.grownBy c row) : a.grownBy c row := h.trans k

theorem tN_bad (S : List UInt8) : tN S true = (0, S, true) := by unfold tN; rw [if_pos rfl]
theorem tN_none {S : List UInt8} (h : CD.rN S = none) : tN S false = (0, S, true) := by unfold tN; rw [if_neg (by decide), h]
theorem tN_some {S r : List UInt8} {n : Int} (h : CD.rN S = some (n, r)) : tN S false = (n, r, false) := by unfold tN; rw [if_neg (by decide), h]

theorem rN_len {S r : List UInt8} {n : Int} (h : CD.rN S = some (n, r)) : S.length = 8 + r.length := by
  obtain ⟨e, _⟩ := CD.rN_inv h
  rw [e, List.length_append, CD.wN_length]

theorem tT_bad (S : List UInt8) : tT S true = ([], S, true) := by
  unfold tT
  rw [tN_bad, if_neg (by rintro ⟨h, _⟩; cases h)]

theorem tT_some {S t r : List UInt8} (h : CD.rT S = some (t, r)) : tT S false = (t, r, false) := by
  unfold CD.rT at h
  unfold tT
  split at h
  · cases h
  · rename_i n r0 hn
    rw [tN_some hn]
    split at h
    · rename_i hc
      simp only [Option.some.injEq, Prod.mk.injEq] at h
      rw [if_pos ⟨rfl, hc.1, hc.2⟩]
      dsimp only
      rw [h.1, h.2]
    · cases h

theorem tT_none {S : List UInt8} (h : CD.rT S = none) : ∃ S', tT S false = ([], S', true) ∧ S'.length ≤ S.length := by
  unfold CD.rT at h
  unfold tT
  split at h
  · rename_i hn
    rw [tN_none hn, if_neg (by rintro ⟨h, _⟩; cases h)]
    exact ⟨S, rfl, Nat.le_refl _⟩
  · rename_i n r0 hn
    rw [tN_some hn]
    have hl := rN_len hn
    split at h
    · cases h
    · rename_i hc
      rw [if_neg (fun h2 => hc ⟨h2.2.1, h2.2.2⟩)]
      exact ⟨r0, rfl, by omega⟩

end Go.Proofs.YtdmnlmohfaafoadGreatDoor
