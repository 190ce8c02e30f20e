/- Numbers, texts, labels and series as bytes, plain: how they are written, what is read, that one is the other's inverse, and that no beginning of what is written is any. What a chunk is stands as a letter. No program in it. -/
import Derived.Test.YtdmnlmohfaafoadGreatDoorLbNum
import Derived.Test.YtdmnlmohfaafoadGreatDoorChNum
namespace Go.Proofs.YtdmnlmohfaafoadGreatDoor
namespace CD

/-- Eight bytes, the greatest first. -/
def b8 (u : Nat) : List UInt8 := [UInt8.ofNat (u / 72057594037927936), UInt8.ofNat (u / 281474976710656), UInt8.ofNat (u / 1099511627776), UInt8.ofNat (u / 4294967296), UInt8.ofNat (u / 16777216), UInt8.ofNat (u / 65536), UInt8.ofNat (u / 256), UInt8.ofNat u]

/-- What bytes are as a number. -/
def v8 (l : List UInt8) : Nat := l.foldl (fun a b => a * 256 + b.toNat) 0

theorem b8_length (u : Nat) : (b8 u).length = 8 := rfl

theorem v8_b8 (u : Nat) (h : u < 18446744073709551616) : v8 (b8 u) = u := by
  simp only [v8, b8, List.foldl_cons, List.foldl_nil, UInt8.toNat_ofNat']
  omega

theorem ofNat_eq {n : Nat} {b : UInt8} (h : n % 256 = b.toNat) : UInt8.ofNat n = b := by
  apply UInt8.toNat_inj.1
  rw [UInt8.toNat_ofNat']
  exact h

theorem b8_v8 : ∀ (l : List UInt8), l.length = 8 → b8 (v8 l) = l ∧ v8 l < 18446744073709551616
  | [a, b, c, d, e, f, g, h], _ => by
    have ha := UInt8.toNat_lt a
    have hb := UInt8.toNat_lt b
    have hc := UInt8.toNat_lt c
    have hd := UInt8.toNat_lt d
    have he := UInt8.toNat_lt e
    have hf := UInt8.toNat_lt f
    have hg := UInt8.toNat_lt g
    have hh := UInt8.toNat_lt h
    have hv : v8 [a, b, c, d, e, f, g, h] = ((((((a.toNat * 256 + b.toNat) * 256 + c.toNat) * 256 + d.toNat) * 256 + e.toNat) * 256 + f.toNat) * 256 + g.toNat) * 256 + h.toNat := by
      simp only [v8, List.foldl_cons, List.foldl_nil]
      omega
    refine ⟨?_, by rw [hv]; omega⟩
    rw [hv]
    unfold b8
    rw [ofNat_eq (b := a) (by omega), ofNat_eq (b := b) (by omega), ofNat_eq (b := c) (by omega), ofNat_eq (b := d) (by omega), ofNat_eq (b := e) (by omega), ofNat_eq (b := f) (by omega), ofNat_eq (b := g) (by omega), ofNat_eq (b := h) (by omega)]

/-- A number, written. -/
def wN (n : Int) : List UInt8 := b8 (n % 18446744073709551616).toNat

/-- A number, read, and what is left. -/
def rN (s : List UInt8) : Option (Int × List UInt8) := if s.length < 8 then none else some (CL.W (v8 (s.take 8)), s.drop 8)

theorem wN_length (n : Int) : (wN n).length = 8 := rfl

theorem rN_wN (n : Int) (h1 : -9223372036854775808 ≤ n) (h2 : n ≤ 9223372036854775807) (r : List UInt8) : rN (wN n ++ r) = some (n, r) := by
  unfold rN
  rw [if_neg (by rw [List.length_append, wN_length]; omega)]
  have e1 : (wN n ++ r).take 8 = wN n := by rw [← wN_length n, List.take_left]
  have e2 : (wN n ++ r).drop 8 = r := by rw [← wN_length n, List.drop_left]
  rw [e1, e2]
  have e3 : v8 (wN n) = (n % 18446744073709551616).toNat := v8_b8 _ (by omega)
  have e4 : CL.W (((n % 18446744073709551616).toNat : Nat) : Int) = n := by
    unfold CL.W
    omega
  rw [e3, e4]

theorem rN_inv {s r : List UInt8} {n : Int} (h : rN s = some (n, r)) : s = wN n ++ r ∧ -9223372036854775808 ≤ n ∧ n ≤ 9223372036854775807 := by
  unfold rN at h
  split at h
  · cases h
  · rename_i hl
    simp only [Option.some.injEq, Prod.mk.injEq] at h
    obtain ⟨h1, h2⟩ := h
    have hlen : (s.take 8).length = 8 := by rw [List.length_take]; omega
    obtain ⟨h3, h4⟩ := b8_v8 (s.take 8) hlen
    have hr := CL.W_range (v8 (s.take 8))
    refine ⟨?_, by omega, by omega⟩
    have h5 : (n % 18446744073709551616).toNat = v8 (s.take 8) := by
      rw [← h1]
      unfold CL.W
      omega
    unfold wN
    rw [h5, h3, ← h2, List.take_append_drop]

theorem rN_more {s r : List UInt8} {n : Int} (h : rN s = some (n, r)) (t : List UInt8) : rN (s ++ t) = some (n, r ++ t) := by
  obtain ⟨h1, h2, h3⟩ := rN_inv h
  rw [h1, List.append_assoc, rN_wN n h2 h3]

/-- A text. -/
def wT (s : List UInt8) : List UInt8 := wN s.length ++ s

def rT (s : List UInt8) : Option (List UInt8 × List UInt8) := match rN s with
  | none => none
  | some (n, r) => if 0 ≤ n ∧ n ≤ r.length then some (r.take n.toNat, r.drop n.toNat) else none

theorem rT_wT (s : List UInt8) (h : s.length ≤ 9223372036854775807) (r : List UInt8) : rT (wT s ++ r) = some (s, r) := by
  unfold rT wT
  rw [List.append_assoc, rN_wN _ (by omega) (by omega)]
  dsimp only
  rw [if_pos (by rw [List.length_append]; omega)]
  have e : ((s.length : Int)).toNat = s.length := by omega
  rw [e, List.take_left, List.drop_left]

theorem rT_inv {s t r : List UInt8} (h : rT s = some (t, r)) : s = wT t ++ r := by
  unfold rT at h
  split at h
  · cases h
  · rename_i n r0 hn
    obtain ⟨h1, h2, h3⟩ := rN_inv hn
    split at h
    · rename_i hc
      have hh := Option.some.inj h
      have e1 : r0.take n.toNat = t := congrArg Prod.fst hh
      have e2 : r0.drop n.toNat = r := congrArg Prod.snd hh
      have e3 : (t.length : Int) = n := by rw [← e1, List.length_take]; omega
      unfold wT
      rw [e3, List.append_assoc, ← e1, ← e2, List.take_append_drop]
      exact h1
    · cases h

theorem rT_len {s t r : List UInt8} (h : rT s = some (t, r)) : s.length = 8 + t.length + r.length := by
  rw [rT_inv h]
  unfold wT
  rw [List.length_append, List.length_append, wN_length]

theorem wT_length (s : List UInt8) : (wT s).length = 8 + s.length := by unfold wT; rw [List.length_append, wN_length]

/-- A label's two texts, as lists. -/
abbrev Lb := List UInt8 × List UInt8

def wL : List Lb → List UInt8
  | [] => []
  | x :: l => wT x.1 ++ (wT x.2 ++ wL l)

def rL : Nat → List UInt8 → Option (List Lb × List UInt8)
  | 0, s => some ([], s)
  | k + 1, s => match rT s with
    | none => none
    | some (a, r1) => match rT r1 with
      | none => none
      | some (b, r2) => match rL k r2 with
        | none => none
        | some (l, r3) => some ((a, b) :: l, r3)

/-- Short enough to be there at all. -/
def Sh (l : List Lb) : Prop := ∀ x ∈ l, x.1.length ≤ 9223372036854775807 ∧ x.2.length ≤ 9223372036854775807

theorem rL_cons {k : Nat} {s a r1 b r2 : List UInt8} {l : List Lb} {r3 : List UInt8} (h1 : rT s = some (a, r1)) (h2 : rT r1 = some (b, r2)) (h3 : rL k r2 = some (l, r3)) : rL (k + 1) s = some ((a, b) :: l, r3) := by
  unfold rL
  rw [h1]
  dsimp only
  rw [h2]
  dsimp only
  rw [h3]

theorem rL_wL (l : List Lb) : Sh l → ∀ r, rL l.length (wL l ++ r) = some (l, r) := by
  induction l with
  | nil => intro _ r; rfl
  | cons x l ih =>
    intro h r
    have h0 := h x (by simp)
    have e : wL (x :: l) ++ r = wT x.1 ++ (wT x.2 ++ (wL l ++ r)) := by simp [wL]
    rw [e, List.length_cons]
    exact rL_cons (rT_wT x.1 h0.1 _) (rT_wT x.2 h0.2 _) (ih (fun y hy => h y (by simp [hy])) r)

theorem rL_inv : ∀ {k : Nat} {s : List UInt8} {l : List Lb} {r : List UInt8}, rL k s = some (l, r) → s = wL l ++ r ∧ l.length = k
  | 0, s, l, r, h => by
    have hh := Option.some.inj h
    have e1 : [] = l := congrArg Prod.fst hh
    have e2 : s = r := congrArg Prod.snd hh
    subst e1 e2
    exact ⟨rfl, rfl⟩
  | k + 1, s, l, r, h => by
    unfold rL at h
    split at h
    · cases h
    · rename_i a r1 h1
      split at h
      · cases h
      · rename_i b r2 h2
        split at h
        · cases h
        · rename_i l' r3 h3
          have hh := Option.some.inj h
          have e1 : (a, b) :: l' = l := congrArg Prod.fst hh
          have e2 : r3 = r := congrArg Prod.snd hh
          obtain ⟨h4, h5⟩ := rL_inv h3
          subst e1 e2
          refine ⟨?_, by rw [List.length_cons, h5]⟩
          rw [rT_inv h1, rT_inv h2, h4]
          simp [wL]

section
variable {S : Type} (E : S → List UInt8) (Dc : List UInt8 → Option S) (ok : List Lb → Bool)

/-- Series: labels, and what stands for samples. -/
def wS : List (List Lb × S) → List UInt8
  | [] => []
  | x :: l => wN x.1.length ++ (wL x.1 ++ (wT (E x.2) ++ wS l))

/-- One series, read. -/
def rOne (s : List UInt8) : Option ((List Lb × S) × List UInt8) := match rN s with
  | none => none
  | some (k, r1) => if 0 ≤ k ∧ k ≤ 8 then
      match rL k.toNat r1 with
      | none => none
      | some (l, r2) => match rT r2 with
        | none => none
        | some (c, r3) => if ok l then (match Dc c with
            | none => none
            | some x => some ((l, x), r3)) else none
    else none

def rS : Nat → List UInt8 → Option (List (List Lb × S) × List UInt8)
  | 0, s => some ([], s)
  | n + 1, s => match rOne Dc ok s with
    | none => none
    | some (x, r) => match rS n r with
      | none => none
      | some (l, r2) => some (x :: l, r2)

/-- All of it. -/
def wAll (l : List (List Lb × S)) : List UInt8 := wN l.length ++ wS E l

def rAll (s : List UInt8) : Option (List (List Lb × S) × List UInt8) := match rN s with
  | none => none
  | some (n, r) => if 0 ≤ n then rS Dc ok n.toNat r else none

variable {E Dc ok}

theorem rOne_inv (hDE : ∀ c x, Dc c = some x → E x = c) {s r : List UInt8} {x : List Lb × S} (h : rOne Dc ok s = some (x, r)) : s = wN x.1.length ++ (wL x.1 ++ (wT (E x.2) ++ r)) ∧ ok x.1 = true ∧ x.1.length ≤ 8 ∧ Dc (E x.2) = some x.2 := by
  unfold rOne at h
  split at h
  · cases h
  · rename_i k r1 h1
    split at h
    · rename_i hk
      split at h
      · cases h
      · rename_i l r2 h2
        split at h
        · cases h
        · rename_i c r3 h3
          split at h
          · rename_i hok
            split at h
            · cases h
            · rename_i y hy
              have hh := Option.some.inj h
              have e1 : (l, y) = x := congrArg Prod.fst hh
              have e2 : r3 = r := congrArg Prod.snd hh
              obtain ⟨h4, h5⟩ := rL_inv h2
              have h6 := hDE c y hy
              subst e1 e2
              obtain ⟨h7, _⟩ := rN_inv h1
              have h8 : (l.length : Int) = k := by rw [h5]; omega
              refine ⟨?_, hok, by show l.length ≤ 8; omega, by show Dc (E y) = some y; rw [h6]; exact hy⟩
              show s = wN l.length ++ (wL l ++ (wT (E y) ++ r3))
              rw [h8, h7, h4, rT_inv h3, h6]
          · cases h
    · cases h

theorem rOne_ok {s r1 r2 r3 c : List UInt8} {k : Int} {n : Nat} {l : List Lb} {x : S} (h1 : rN s = some (k, r1)) (hk : 0 ≤ k ∧ k ≤ 8) (hn : k.toNat = n) (h2 : rL n r1 = some (l, r2)) (h3 : rT r2 = some (c, r3)) (hok : ok l = true) (h4 : Dc c = some x) : rOne Dc ok s = some ((l, x), r3) := by
  unfold rOne
  rw [h1]
  dsimp only
  rw [if_pos hk, hn, h2]
  dsimp only
  rw [h3]
  dsimp only
  rw [if_pos hok, h4]

theorem rOne_w (x : List Lb × S) (hok : ok x.1 = true) (hl : x.1.length ≤ 8) (hs : Sh x.1) (hE : (E x.2).length ≤ 9223372036854775807) (hD : Dc (E x.2) = some x.2) (r : List UInt8) :
    rOne Dc ok (wN x.1.length ++ (wL x.1 ++ (wT (E x.2) ++ r))) = some (x, r) := by
  have e : ((x.1.length : Int)).toNat = x.1.length := by omega
  exact rOne_ok (rN_wN _ (by omega) (by omega) _) (by omega) e (rL_wL x.1 hs _) (rT_wT _ hE _) hok hD

theorem rS_inv (hDE : ∀ c x, Dc c = some x → E x = c) : ∀ {n : Nat} {s : List UInt8} {l : List (List Lb × S)} {r : List UInt8}, rS Dc ok n s = some (l, r) → s = wS E l ++ r ∧ l.length = n ∧ ∀ x ∈ l, ok x.1 = true ∧ x.1.length ≤ 8 ∧ Dc (E x.2) = some x.2
  | 0, s, l, r, h => by
    have hh := Option.some.inj h
    have e1 : [] = l := congrArg Prod.fst hh
    have e2 : s = r := congrArg Prod.snd hh
    subst e1 e2
    exact ⟨rfl, rfl, fun x hx => by cases hx⟩
  | n + 1, s, l, r, h => by
    unfold rS at h
    split at h
    · cases h
    · rename_i x r1 h1
      split at h
      · cases h
      · rename_i l' r2 h2
        have hh := Option.some.inj h
        have e1 : x :: l' = l := congrArg Prod.fst hh
        have e2 : r2 = r := congrArg Prod.snd hh
        obtain ⟨h3, h4, h5⟩ := rS_inv hDE h2
        obtain ⟨h6, h7, h8, h9⟩ := rOne_inv hDE h1
        subst e1 e2
        refine ⟨?_, by rw [List.length_cons, h4], fun y hy => ?_⟩
        · rw [h6, h3]; simp [wS]
        · rcases List.mem_cons.1 hy with h10 | h10
          · rw [h10]; exact ⟨h7, h8, h9⟩
          · exact h5 y h10

/-- What may be written. -/
def Ok (E : S → List UInt8) (Dc : List UInt8 → Option S) (ok : List Lb → Bool) (l : List (List Lb × S)) : Prop := ∀ x ∈ l, ok x.1 = true ∧ x.1.length ≤ 8 ∧ Sh x.1 ∧ (E x.2).length ≤ 9223372036854775807 ∧ Dc (E x.2) = some x.2

theorem rS_cons {n : Nat} {s r : List UInt8} {x : List Lb × S} {l : List (List Lb × S)} {r2 : List UInt8} (h1 : rOne Dc ok s = some (x, r)) (h2 : rS Dc ok n r = some (l, r2)) : rS Dc ok (n + 1) s = some (x :: l, r2) := by
  unfold rS
  rw [h1]
  dsimp only
  rw [h2]

theorem rS_w (l : List (List Lb × S)) : Ok E Dc ok l → ∀ r, rS Dc ok l.length (wS E l ++ r) = some (l, r) := by
  induction l with
  | nil => intro _ r; rfl
  | cons x l ih =>
    intro h r
    obtain ⟨h1, h2, h3, h4, h5⟩ := h x (by simp)
    have e : wS E (x :: l) ++ r = wN x.1.length ++ (wL x.1 ++ (wT (E x.2) ++ (wS E l ++ r))) := by simp [wS]
    rw [e, List.length_cons]
    exact rS_cons (rOne_w x h1 h2 h3 h4 h5 _) (ih (fun y hy => h y (by simp [hy])) r)

theorem rAll_w (l : List (List Lb × S)) (h : Ok E Dc ok l) (hl : l.length ≤ 9223372036854775807) (r : List UInt8) : rAll Dc ok (wAll E l ++ r) = some (l, r) := by
  unfold rAll wAll
  rw [List.append_assoc, rN_wN _ (by omega) (by omega)]
  have e : ((l.length : Int)).toNat = l.length := by omega
  dsimp only
  rw [if_pos (by omega), e, rS_w l h]

theorem rAll_inv (hDE : ∀ c x, Dc c = some x → E x = c) {s : List UInt8} {l : List (List Lb × S)} {r : List UInt8} (h : rAll Dc ok s = some (l, r)) : s = wAll E l ++ r ∧ ∀ x ∈ l, ok x.1 = true ∧ x.1.length ≤ 8 ∧ Dc (E x.2) = some x.2 := by
  unfold rAll at h
  split at h
  · cases h
  · rename_i n r1 h1
    split at h
    · rename_i hn
      obtain ⟨h2, h3, h4⟩ := rS_inv hDE h
      obtain ⟨h5, _, _⟩ := rN_inv h1
      refine ⟨?_, h4⟩
      unfold wAll
      have e : (l.length : Int) = n := by rw [h3]; omega
      rw [e, h5, h2, List.append_assoc]
    · cases h

/-- No beginning of what is written is any. -/
theorem no_part (hDE : ∀ c x, Dc c = some x → E x = c) (l : List (List Lb × S)) (h : Ok E Dc ok l) (hl : l.length ≤ 9223372036854775807) (hB : (wAll E l).length ≤ 9223372036854775807) {k : Nat} (hk : k < (wAll E l).length) {m : List (List Lb × S)} (hm : rAll Dc ok ((wAll E l).take k) = some (m, [])) : False := by
  obtain ⟨h1, h2⟩ := rAll_inv (E := E) hDE hm
  rw [List.append_nil] at h1
  have hlen := congrArg List.length h1
  rw [List.length_take] at hlen
  have hsz : ∀ (q : List (List Lb × S)) (x : List Lb × S), x ∈ q → (wL x.1).length + (E x.2).length ≤ (wS E q).length ∧ q.length ≤ (wS E q).length := by
    intro q
    induction q with
    | nil => intro x hx; cases hx
    | cons y q ih =>
      intro x hx
      have e : (wS E (y :: q)).length = 8 + (wL y.1).length + (8 + (E y.2).length) + (wS E q).length := by
        simp only [wS, List.length_append, wN_length, wT_length]
        omega
      rw [e, List.length_cons]
      have hq : q.length ≤ (wS E q).length := by
        cases q with
        | nil => simp
        | cons z q' => exact (ih z (by simp)).2
      rcases List.mem_cons.1 hx with h10 | h10
      · rw [h10]; omega
      · have := (ih x h10).1; omega
  have hwl : ∀ (q : List Lb) (x : Lb), x ∈ q → x.1.length ≤ (wL q).length ∧ x.2.length ≤ (wL q).length := by
    intro q
    induction q with
    | nil => intro x hx; cases hx
    | cons y q ih =>
      intro x hx
      have e : (wL (y :: q)).length = 8 + y.1.length + (8 + y.2.length) + (wL q).length := by
        simp only [wL, List.length_append, wT_length]
        omega
      rw [e]
      rcases List.mem_cons.1 hx with h10 | h10
      · rw [h10]; omega
      · have := ih x h10; omega
  have hall : (wAll E m).length = 8 + (wS E m).length := by unfold wAll; rw [List.length_append, wN_length]
  have hOk : Ok E Dc ok m := by
    intro x hx
    obtain ⟨a1, a2, a3⟩ := h2 x hx
    have h9 := (hsz m x hx).1
    refine ⟨a1, a2, fun y hy => ?_, by omega, a3⟩
    have := hwl x.1 y hy
    omega
  have hml : m.length ≤ 9223372036854775807 := by
    cases m with
    | nil => simp
    | cons z q => have := (hsz (z :: q) z (by simp)).2; omega
  have h3 := rAll_w m hOk hml ((wAll E l).drop k)
  rw [← h1, List.take_append_drop] at h3
  have h4 := rAll_w l h hl []
  rw [List.append_nil, h3] at h4
  have h5 : (wAll E l).drop k = [] := congrArg Prod.snd (Option.some.inj h4)
  have := congrArg List.length h5
  rw [List.length_drop] at this
  simp at this
  omega

end

end CD
end Go.Proofs.YtdmnlmohfaafoadGreatDoor
