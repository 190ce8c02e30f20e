/- Reading labels and series step by step, plain: what was read so far, and what the rest comes to. No program in it. -/
import Derived.Test.YtdmnlmohfaafoadGreatDoorCdNum
namespace Go.Proofs.YtdmnlmohfaafoadGreatDoor
namespace CD

/-- Labels read so far (la), and m that are left of them at s. -/
def ContL (k : Nat) (R : List UInt8) (la : List Lb) (m : Nat) (s : List UInt8) : Prop := rL k R = (rL m s).map fun p => (la ++ p.1, p.2)

theorem ContL.start (k : Nat) (R : List UInt8) : ContL k R [] k R := by
  unfold ContL
  cases rL k R with
  | none => rfl
  | some p => rfl

theorem ContL.done {k : Nat} {R s : List UInt8} {la : List Lb} (h : ContL k R la 0 s) : rL k R = some (la, s) := by
  have h' : rL k R = (rL 0 s).map fun p => (la ++ p.1, p.2) := h
  rw [h']
  show some (la ++ [], s) = _
  rw [List.append_nil]

theorem ContL.next {k m : Nat} {R s a r1 b r2 : List UInt8} {la : List Lb} (h : ContL k R la (m + 1) s) (h1 : rT s = some (a, r1)) (h2 : rT r1 = some (b, r2)) : ContL k R (la ++ [(a, b)]) m r2 := by
  have h' : rL k R = (rL (m + 1) s).map fun p => (la ++ p.1, p.2) := h
  unfold ContL
  rw [h']
  have e : rL (m + 1) s = (rL m r2).map fun p => ((a, b) :: p.1, p.2) := by
    show (match rT s with | none => none | some (a, r1) => match rT r1 with | none => none | some (b, r2) => match rL m r2 with | none => none | some (l, r3) => some ((a, b) :: l, r3)) = _
    rw [h1]
    dsimp only
    rw [h2]
    dsimp only
    cases rL m r2 with
    | none => rfl
    | some p => rfl
  rw [e]
  cases rL m r2 with
  | none => rfl
  | some p => simp

theorem ContL.fail {k m : Nat} {R s : List UInt8} {la : List Lb} (h : ContL k R la (m + 1) s) (h1 : rT s = none ∨ ∃ a r1, rT s = some (a, r1) ∧ rT r1 = none) : rL k R = none := by
  have h' : rL k R = (rL (m + 1) s).map fun p => (la ++ p.1, p.2) := h
  rw [h']
  have e : rL (m + 1) s = none := by
    show (match rT s with | none => none | some (a, r1) => match rT r1 with | none => none | some (b, r2) => match rL m r2 with | none => none | some (l, r3) => some ((a, b) :: l, r3)) = _
    rcases h1 with h1 | ⟨a, r1, h1, h2⟩
    · rw [h1]
    · rw [h1]
      dsimp only
      rw [h2]
  rw [e]
  rfl

section
variable {S : Type} {E : S → List UInt8} {Dc : List UInt8 → Option S} {ok : List Lb → Bool}

/-- Series read so far (L), and m that are left of them at s. -/
def ContS (Dc : List UInt8 → Option S) (ok : List Lb → Bool) (n : Nat) (R : List UInt8) (L : List (List Lb × S)) (m : Nat) (s : List UInt8) : Prop := rS Dc ok n R = (rS Dc ok m s).map fun p => (L ++ p.1, p.2)

theorem ContS.start (n : Nat) (R : List UInt8) : ContS Dc ok n R [] n R := by
  unfold ContS
  cases rS Dc ok n R with
  | none => rfl
  | some p => rfl

theorem ContS.done {n : Nat} {R s : List UInt8} {L : List (List Lb × S)} (h : ContS Dc ok n R L 0 s) : rS Dc ok n R = some (L, s) := by
  have h' : rS Dc ok n R = (rS Dc ok 0 s).map fun p => (L ++ p.1, p.2) := h
  rw [h']
  show some (L ++ [], s) = _
  rw [List.append_nil]

theorem ContS.next {n m : Nat} {R s r : List UInt8} {L : List (List Lb × S)} {x : List Lb × S} (h : ContS Dc ok n R L (m + 1) s) (h1 : rOne Dc ok s = some (x, r)) : ContS Dc ok n R (L ++ [x]) m r := by
  have h' : rS Dc ok n R = (rS Dc ok (m + 1) s).map fun p => (L ++ p.1, p.2) := h
  unfold ContS
  rw [h']
  have e : rS Dc ok (m + 1) s = (rS Dc ok m r).map fun p => (x :: p.1, p.2) := by
    show (match rOne Dc ok s with | none => none | some (x, r) => match rS Dc ok m r with | none => none | some (l, r2) => some (x :: l, r2)) = _
    rw [h1]
    dsimp only
    cases rS Dc ok m r with
    | none => rfl
    | some p => rfl
  rw [e]
  cases rS Dc ok m r with
  | none => rfl
  | some p => simp

theorem ContS.fail {n m : Nat} {R s : List UInt8} {L : List (List Lb × S)} (h : ContS Dc ok n R L (m + 1) s) (h1 : rOne Dc ok s = none) : rS Dc ok n R = none := by
  have h' : rS Dc ok n R = (rS Dc ok (m + 1) s).map fun p => (L ++ p.1, p.2) := h
  rw [h']
  have e : rS Dc ok (m + 1) s = none := by
    show (match rOne Dc ok s with | none => none | some (x, r) => match rS Dc ok m r with | none => none | some (l, r2) => some (x :: l, r2)) = _
    rw [h1]
  rw [e]
  rfl

/-- There are no more series than bytes. -/
theorem rOne_len {s r : List UInt8} {x : List Lb × S} (h : rOne Dc ok s = some (x, r)) : r.length + 8 ≤ s.length := by
  unfold rOne at h
  split at h
  · cases h
  · rename_i k r1 h1
    obtain ⟨e1, _⟩ := rN_inv h1
    have hl1 : s.length = 8 + r1.length := by rw [e1, List.length_append, wN_length]
    split at h
    · split at h
      · cases h
      · rename_i l r2 h2
        obtain ⟨e2, _⟩ := rL_inv h2
        have hl2 : r2.length ≤ r1.length := by rw [e2, List.length_append]; omega
        split at h
        · cases h
        · rename_i c r3 h3
          have hl3 := rT_len h3
          split at h
          · split at h
            · cases h
            · simp only [Option.some.injEq, Prod.mk.injEq] at h
              rw [← h.2]
              omega
          · cases h
    · cases h

theorem rS_len : ∀ {n : Nat} {s : List UInt8} {l : List (List Lb × S)} {r : List UInt8}, rS Dc ok n s = some (l, r) → n + r.length ≤ s.length
  | 0, s, l, r, h => by
    unfold rS at h
    simp only [Option.some.injEq, Prod.mk.injEq] at h
    rw [← h.2]
    omega
  | n + 1, s, l, r, h => by
    unfold rS at h
    split at h
    · cases h
    · rename_i x r1 h1
      split at h
      · cases h
      · rename_i l' r2 h2
        simp only [Option.some.injEq, Prod.mk.injEq] at h
        have h3 := rS_len h2
        have h4 := rOne_len h1
        rw [← h.2]
        omega

/-- More series than bytes are none. -/
theorem rS_many {n : Nat} {s : List UInt8} (h : s.length < n) : rS Dc ok n s = none := by
  cases hr : rS Dc ok n s with
  | none => rfl
  | some p =>
    obtain ⟨l, r⟩ := p
    have := rS_len hr
    omega

/-- Why a series is none. -/
theorem rOne_none1 {s : List UInt8} (h : rN s = none) : rOne Dc ok s = none := by unfold rOne; rw [h]

theorem rOne_none2 {s r1 : List UInt8} {k : Int} (h : rN s = some (k, r1)) (hk : ¬ (0 ≤ k ∧ k ≤ 8)) : rOne Dc ok s = none := by
  unfold rOne
  rw [h]
  dsimp only
  rw [if_neg hk]

theorem rOne_none3 {s r1 : List UInt8} {k : Int} {n : Nat} (h : rN s = some (k, r1)) (hn : k.toNat = n) (h2 : rL n r1 = none) : rOne Dc ok s = none := by
  unfold rOne
  rw [h]
  dsimp only
  rw [hn, h2]
  dsimp only
  split <;> rfl

theorem rOne_none4 {s r1 r2 : List UInt8} {k : Int} {n : Nat} {l : List Lb} (h : rN s = some (k, r1)) (hn : k.toNat = n) (h2 : rL n r1 = some (l, r2)) (h3 : rT r2 = none ∨ ok l = false ∨ ∃ c r3, rT r2 = some (c, r3) ∧ Dc c = none) : rOne Dc ok s = none := by
  unfold rOne
  rw [h]
  dsimp only
  rw [hn, h2]
  dsimp only
  split
  · rcases h3 with h3 | h3 | ⟨c, r3, h3, h4⟩
    · rw [h3]
    · cases hr : rT r2 with
      | none => rfl
      | some p =>
        obtain ⟨c, r3⟩ := p
        dsimp only
        rw [if_neg (by rw [h3]; decide)]
    · rw [h3]
      dsimp only
      split
      · rw [h4]
      · rfl
  · rfl

end

end CD
end Go.Proofs.YtdmnlmohfaafoadGreatDoor
