/- Plain facts on bits as lists, their numbers, and how they lie in bytes: no program in it. -/
namespace Go.Proofs.YtdmnlmohfaafoadGreatDoor
namespace BL

/-- The last k bits of u, the greatest first. -/
def bitsOf (u : Nat) : Nat → List Bool
  | 0 => []
  | k + 1 => u.testBit k :: bitsOf u k

/-- What bits are as a number. -/
def val (l : List Bool) : Nat := l.foldl (fun a b => 2 * a + b.toNat) 0

theorem bitsOf_length (u k : Nat) : (bitsOf u k).length = k := by
  induction k with
  | zero => rfl
  | succ k ih => simp [bitsOf, ih]

theorem bitsOf_get (u k i : Nat) : ((bitsOf u k)[i]?.getD false) = (decide (i < k) && u.testBit (k - 1 - i)) := by
  induction k generalizing i with
  | zero => simp [bitsOf]
  | succ k ih =>
    cases i with
    | zero => simp [bitsOf]
    | succ i =>
      have h1 := ih i
      simp only [bitsOf, List.getElem?_cons_succ]
      rw [h1]
      have : k + 1 - 1 - (i + 1) = k - 1 - i := by omega
      rw [this]
      congr 1
      simp

theorem bitsOf_add (u a b : Nat) : bitsOf u (a + b) = bitsOf (u / 2 ^ b) a ++ bitsOf u b := by
  induction a with
  | zero => simp [bitsOf]
  | succ a ih =>
    rw [show a + 1 + b = (a + b) + 1 from by omega]
    simp only [bitsOf, List.cons_append]
    rw [ih, Nat.testBit_div_two_pow]

theorem foldl_val (l : List Bool) (c : Nat) : l.foldl (fun a b => 2 * a + b.toNat) c = c * 2 ^ l.length + val l := by
  induction l generalizing c with
  | nil => simp [val]
  | cons b l ih =>
    simp only [val, List.foldl_cons, List.length_cons]
    rw [ih, ih (2 * 0 + b.toNat), Nat.pow_succ, Nat.add_mul]
    have e : 2 * c * 2 ^ l.length = c * (2 ^ l.length * 2) := by rw [Nat.mul_comm 2 c, Nat.mul_assoc, Nat.mul_comm 2 (2 ^ l.length)]
    rw [e]; simp; omega

theorem val_append (l r : List Bool) : val (l ++ r) = val l * 2 ^ r.length + val r := by
  unfold val
  rw [List.foldl_append, foldl_val r]
  rfl

theorem val_cons (b : Bool) (r : List Bool) : val (b :: r) = b.toNat * 2 ^ r.length + val r := by
  have := val_append [b] r
  simpa [val] using this

theorem val_lt (l : List Bool) : val l < 2 ^ l.length := by
  induction l with
  | nil => simp [val]
  | cons b l ih =>
    rw [val_cons, List.length_cons, Nat.pow_succ]
    cases b <;> simp <;> omega

theorem val_bitsOf (u k : Nat) : val (bitsOf u k) = u % 2 ^ k := by
  induction k with
  | zero => simp [bitsOf, val, Nat.mod_one]
  | succ k ih =>
    rw [bitsOf, val_cons, bitsOf_length, ih]
    have h := Nat.mod_mul (a := 2 ^ k) (b := 2) (x := u)
    rw [Nat.pow_succ, h, Nat.toNat_testBit, Nat.mul_comm (2 ^ k)]
    omega

theorem val_zeros (k : Nat) : val (List.replicate k false) = 0 := by
  induction k with
  | zero => rfl
  | succ k ih => rw [List.replicate_succ, val_cons, ih]; simp

theorem val_testBit (l : List Bool) (t : Nat) : (val l).testBit t = (decide (t < l.length) && (l[l.length - 1 - t]?.getD false)) := by
  induction l with
  | nil => simp [val]
  | cons b l ih =>
    rw [val_cons, Nat.mul_comm, Nat.testBit_two_pow_mul_add _ (val_lt l)]
    by_cases h : t < l.length
    · rw [if_pos h, ih]
      have e : (b :: l).length - 1 - t = (l.length - 1 - t) + 1 := by simp; omega
      rw [e, List.getElem?_cons_succ]
      simp [h]; intro _; omega
    · rw [if_neg h]
      by_cases h2 : t = l.length
      · subst h2; cases b <;> simp
      · have e : ¬ t < (b :: l).length := by simp; omega
        simp only [e, decide_false, Bool.false_and]
        cases b
        · simp
        · have : t - l.length = (t - l.length - 1) + 1 := by omega
          rw [this, Nat.testBit_succ]; simp

/-! ## bytes -/

/-- Byte j of bits, filled up with 0. -/
def byteAt (bs : List Bool) (j : Nat) : Nat := val ((List.range 8).map fun i => bs[8 * j + i]?.getD false)

/-- Bits, eight a byte. -/
def pk (bs : List Bool) : List Nat := (List.range ((bs.length + 7) / 8)).map (byteAt bs)

theorem byteAt_lt (bs : List Bool) (j : Nat) : byteAt bs j < 256 := by
  have := val_lt ((List.range 8).map fun i => bs[8 * j + i]?.getD false)
  simpa [byteAt] using this

theorem byteAt_testBit (bs : List Bool) (j t : Nat) : (byteAt bs j).testBit t = (decide (t < 8) && (bs[8 * j + (7 - t)]?.getD false)) := by
  unfold byteAt
  rw [val_testBit]
  simp only [List.length_map, List.length_range]
  by_cases h : t < 8
  · rw [List.getElem?_map, List.getElem?_range (by omega)]
    simp [h]
  · simp [h]

theorem pk_length (bs : List Bool) : (pk bs).length = (bs.length + 7) / 8 := by simp [pk]

theorem pk_get (bs : List Bool) (j : Nat) (h : j < (bs.length + 7) / 8) : (pk bs)[j]? = some (byteAt bs j) := by
  unfold pk
  rw [List.getElem?_map, List.getElem?_range h]; rfl

theorem pk_lt (bs : List Bool) : ∀ x ∈ pk bs, x < 256 := by
  intro x hx
  simp only [pk, List.mem_map] at hx
  obtain ⟨j, _, rfl⟩ := hx
  exact byteAt_lt bs j

theorem append_get (a b : List Bool) (i : Nat) : ((a ++ b)[i]?.getD false) = if i < a.length then a[i]?.getD false else b[i - a.length]?.getD false := by
  by_cases h : i < a.length
  · rw [List.getElem?_append_left h, if_pos h]
  · rw [List.getElem?_append_right (by omega), if_neg h]

theorem get_ge (a : List Bool) (i : Nat) (h : a.length ≤ i) : (a[i]?.getD false) = false := by
  rw [List.getElem?_eq_none h]; rfl

/-- What a byte becomes when n bits of u come to it, behind 'used' ones. -/
theorem byte_step (bs : List Bool) (u n : Nat) (hn : n ≤ 8 - bs.length % 8) (h0 : 0 < n) :
    byteAt (bs ++ bitsOf u n) (bs.length / 8) = byteAt bs (bs.length / 8) ||| (u % 2 ^ n * 2 ^ (8 - bs.length % 8 - n)) := by
  apply Nat.eq_of_testBit_eq
  intro t
  rw [Nat.testBit_or, byteAt_testBit, byteAt_testBit, append_get, bitsOf_get, Nat.mul_comm (u % 2 ^ n), Nat.testBit_two_pow_mul, Nat.testBit_mod_two_pow]
  by_cases h8 : t < 8
  · by_cases h1 : 8 * (bs.length / 8) + (7 - t) < bs.length
    · rw [if_pos h1]
      have : ¬ (8 - bs.length % 8 - n ≤ t ∧ t - (8 - bs.length % 8 - n) < n) := by omega
      by_cases h2 : 8 - bs.length % 8 - n ≤ t
      · have h3 : ¬ t - (8 - bs.length % 8 - n) < n := by omega
        simp [h3]
      · simp [h2]
    · rw [if_neg h1, get_ge bs _ (by omega)]
      by_cases h2 : 8 - bs.length % 8 - n ≤ t
      · have h3 : t - (8 - bs.length % 8 - n) < n := by omega
        have h4 : 8 * (bs.length / 8) + (7 - t) - bs.length < n := by omega
        have h5 : n - 1 - (8 * (bs.length / 8) + (7 - t) - bs.length) = t - (8 - bs.length % 8 - n) := by omega
        simp [h8, h2, h3, h4, h5]
      · have h4 : ¬ 8 * (bs.length / 8) + (7 - t) - bs.length < n := by omega
        simp [h2, h4]
  · have h2 : ¬ (t - (8 - bs.length % 8 - n) < n) := by omega
    simp [h8, h2]

theorem byte_other (bs r : List Bool) (j : Nat) (h : 8 * j + 8 ≤ bs.length) : byteAt (bs ++ r) j = byteAt bs j := by
  apply Nat.eq_of_testBit_eq
  intro t
  rw [byteAt_testBit, byteAt_testBit, append_get]
  by_cases h8 : t < 8
  · rw [if_pos (by omega)]
  · simp [h8]

theorem byteAt_end (bs : List Bool) (j : Nat) (h : bs.length ≤ 8 * j) : byteAt bs j = 0 := by
  apply Nat.eq_of_testBit_eq
  intro t
  rw [byteAt_testBit, get_ge bs _ (by omega)]
  simp

/-- A round of Bits where the last byte has room. -/
theorem pk_step (bs : List Bool) (u n : Nat) (hn : n ≤ 8 - bs.length % 8) (h0 : 0 < n) (hu : bs.length % 8 ≠ 0) :
    pk (bs ++ bitsOf u n) = (pk bs).set ((pk bs).length - 1) (((pk bs)[(pk bs).length - 1]?.getD 0) ||| (u % 2 ^ n * 2 ^ (8 - bs.length % 8 - n))) := by
  have hl := pk_length bs
  have hl2 := pk_length (bs ++ bitsOf u n)
  rw [List.length_append, bitsOf_length] at hl2
  apply List.ext_getElem?
  intro j
  by_cases hj : j < (bs.length + 7) / 8
  · rw [pk_get _ j (by rw [List.length_append, bitsOf_length]; omega), List.getElem?_set]
    by_cases he : (pk bs).length - 1 = j
    · rw [if_pos he, if_pos (by omega)]
      have e : j = bs.length / 8 := by omega
      rw [he, e, pk_get bs _ (by omega), byte_step bs u n hn h0]
      rfl
    · rw [if_neg he, pk_get bs j hj, byte_other _ _ _ (by omega)]
  · rw [List.getElem?_eq_none (by omega), List.getElem?_eq_none (by simp; omega)]

/-- A round of Bits that begins a byte. -/
theorem pk_step0 (bs : List Bool) (u n : Nat) (hn : n ≤ 8) (h0 : 0 < n) (hu : bs.length % 8 = 0) :
    pk (bs ++ bitsOf u n) = (pk bs ++ [0]).set (pk bs).length (0 ||| (u % 2 ^ n * 2 ^ (8 - bs.length % 8 - n))) := by
  have hl := pk_length bs
  have hl2 := pk_length (bs ++ bitsOf u n)
  rw [List.length_append, bitsOf_length] at hl2
  apply List.ext_getElem?
  intro j
  by_cases hj : j < (bs.length + 7) / 8
  · rw [pk_get _ j (by rw [List.length_append, bitsOf_length]; omega), List.getElem?_set, if_neg (by omega), List.getElem?_append_left (by omega), pk_get bs j hj, byte_other _ _ _ (by omega)]
  · by_cases he : j = (bs.length + 7) / 8
    · rw [pk_get _ j (by rw [List.length_append, bitsOf_length]; omega), List.getElem?_set, if_pos (by omega), if_pos (by simp)]
      have e : j = bs.length / 8 := by omega
      rw [e, byte_step bs u n (by omega) h0, byteAt_end bs _ (by omega)]
    · rw [List.getElem?_eq_none (by omega), List.getElem?_eq_none (by simp; omega)]

/-! ## the bits of bytes -/

def bitsB (l : List Nat) : List Bool := l.flatMap fun b => bitsOf b 8

theorem bitsB_length (l : List Nat) : (bitsB l).length = 8 * l.length := by
  induction l with
  | nil => rfl
  | cons a l ih => simp only [bitsB, List.flatMap_cons, List.length_append, bitsOf_length, List.length_cons] at ih ⊢; omega

theorem bitsB_get (l : List Nat) (i : Nat) : ((bitsB l)[i]?.getD false) = ((l[i / 8]?.getD 0).testBit (7 - i % 8)) := by
  induction l generalizing i with
  | nil => simp [bitsB]
  | cons a l ih =>
    have e : bitsB (a :: l) = bitsOf a 8 ++ bitsB l := rfl
    rw [e, append_get, bitsOf_length]
    by_cases h : i < 8
    · rw [if_pos h, bitsOf_get]
      have e1 : i / 8 = 0 := by omega
      have e2 : 8 - 1 - i = 7 - i % 8 := by omega
      rw [e1, e2]; simp [h]
    · rw [if_neg h, ih]
      have e1 : i / 8 = (i - 8) / 8 + 1 := by omega
      have e2 : (i - 8) % 8 = i % 8 := by omega
      rw [e1, e2]; simp

theorem take_drop_get (l : List Bool) (p n i : Nat) (h : i < n) : (((l.drop p).take n)[i]?.getD false) = (l[p + i]?.getD false) := by
  rw [List.getElem?_take, if_pos h, List.getElem?_drop]

/-- A chunk of a byte is bits of it. -/
theorem chunk_val (l : List Nat) (p n : Nat) (hn : n ≤ 8 - p % 8) (hp : p + n ≤ 8 * l.length) :
    val (((bitsB l).drop p).take n) = (l[p / 8]?.getD 0) / 2 ^ (8 - p % 8 - n) % 2 ^ n := by
  apply Nat.eq_of_testBit_eq
  intro t
  have hlen : (((bitsB l).drop p).take n).length = n := by simp [bitsB_length]; omega
  rw [val_testBit, hlen, Nat.testBit_mod_two_pow, Nat.testBit_div_two_pow]
  by_cases h : t < n
  · rw [take_drop_get _ _ _ _ (by omega), bitsB_get]
    have e1 : (p + (n - 1 - t)) / 8 = p / 8 := by omega
    have e2 : 7 - (p + (n - 1 - t)) % 8 = t + (8 - p % 8 - n) := by omega
    rw [e1, e2]
  · simp [h]

theorem take_add (l : List Bool) (a b : Nat) : l.take (a + b) = l.take a ++ (l.drop a).take b := by
  rw [List.take_add]

theorem val_take_add (l : List Bool) (p k n : Nat) (h : p + k + n ≤ l.length) :
    val ((l.drop p).take (k + n)) = val ((l.drop p).take k) * 2 ^ n + val ((l.drop (p + k)).take n) := by
  have e : (((l.drop p).drop k).take n).length = n := by simp; omega
  rw [take_add, val_append, e, List.drop_drop]

/-- The bits of bits' bytes are these bits, and what fills up. -/
theorem bitsB_pk (bs : List Bool) : bitsB (pk bs) = bs ++ List.replicate (8 * ((bs.length + 7) / 8) - bs.length) false := by
  apply List.ext_getElem
  · rw [bitsB_length, pk_length]; simp; omega
  · intro i h1 h2
    have hg : ∀ (l : List Bool) (h : i < l.length), l[i] = l[i]?.getD false := fun l h => by simp [h]
    rw [hg _ h1, hg _ h2, bitsB_get, append_get]
    rw [bitsB_length, pk_length] at h1
    rw [pk_get bs _ (by omega)]
    show (byteAt bs (i / 8)).testBit (7 - i % 8) = _
    rw [byteAt_testBit]
    have e : 8 * (i / 8) + (7 - (7 - i % 8)) = i := by omega
    rw [e]
    by_cases h : i < bs.length
    · rw [if_pos h]; simp; intro _; omega
    · rw [if_neg h, get_ge bs i (by omega), List.getElem?_replicate]
      split <;> simp

/-! ## numbers that are PUT -/

def wid : Nat → Nat
  | 0 => 0 | 1 => 4 | 2 => 7 | 3 => 12 | 4 => 20 | 5 => 32 | _ => 64

def nar (u : Nat) : Nat :=
  if u < 1 then 0 else if u < 16 then 1 else if u < 128 then 2 else if u < 4096 then 3 else if u < 1048576 then 4 else if u < 4294967296 then 5 else 6

theorem nar_le (u : Nat) : nar u ≤ 6 := by unfold nar; repeat' split <;> try omega

theorem nar_below (u k : Nat) (h : k < nar u) : ¬ u < 2 ^ wid k := by
  have hk : k = 0 ∨ k = 1 ∨ k = 2 ∨ k = 3 ∨ k = 4 ∨ k = 5 := by have := nar_le u; omega
  unfold nar at h
  rcases hk with rfl | rfl | rfl | rfl | rfl | rfl <;> simp only [wid] <;> (repeat' split at h) <;> omega

theorem wid_le (i : Nat) : wid i ≤ 64 := by unfold wid; split <;> omega

def zig (n : Int) : Nat := if n < 0 then (-2 * n - 1).toNat else (2 * n).toNat
def zag (u : Nat) : Int := if u % 2 = 1 then -((u / 2 : Nat) : Int) - 1 else ((u / 2 : Nat) : Int)

theorem zag_zig (n : Int) : zag (zig n) = n := by unfold zag zig; split <;> split <;> omega
theorem zig_lt (n : Int) (h1 : -9223372036854775808 ≤ n) (h2 : n ≤ 9223372036854775807) : zig n < 18446744073709551616 := by unfold zig; split <;> omega

def headL (i : Nat) : List Bool := List.replicate i true ++ (if i < 6 then [false] else [])
def putL (u : Nat) : List Bool := headL (nar u) ++ bitsOf u (wid (nar u))

/-- Which width: the bits 1 that stand ahead (k more may come), and what is left. -/
def plc : Nat → List Bool → Option (Nat × List Bool)
  | 0, b => some (0, b)
  | _ + 1, [] => none
  | _ + 1, false :: r => some (0, r)
  | k + 1, true :: r => (plc k r).map fun x => (x.1 + 1, x.2)

def getL (b : List Bool) : Option (Nat × List Bool) :=
  match plc 6 b with
  | none => none
  | some (i, r) => if r.length < wid i then none else if nar (val (r.take (wid i))) = i then some (val (r.take (wid i)), r.drop (wid i)) else none

theorem plc_head (i : Nat) (h : i ≤ 6) (r : List Bool) : plc 6 (headL i ++ r) = some (i, r) := by
  have : i = 0 ∨ i = 1 ∨ i = 2 ∨ i = 3 ∨ i = 4 ∨ i = 5 ∨ i = 6 := by omega
  rcases this with rfl | rfl | rfl | rfl | rfl | rfl | rfl <;> rfl

theorem fits_wid (u : Nat) (h : u < 18446744073709551616) : u < 2 ^ wid (nar u) := by
  unfold nar
  repeat' split
  all_goals (simp only [wid]; omega)

theorem getL_putL (u : Nat) (h : u < 18446744073709551616) (r : List Bool) : getL (putL u ++ r) = some (u, r) := by
  unfold getL putL
  rw [List.append_assoc, plc_head _ (nar_le u)]
  have hl : (bitsOf u (wid (nar u))).length = wid (nar u) := bitsOf_length _ _
  have e1 : (bitsOf u (wid (nar u)) ++ r).take (wid (nar u)) = bitsOf u (wid (nar u)) := by
    rw [List.take_append_of_le_length (by omega), List.take_of_length_le (by omega)]
  have e2 : (bitsOf u (wid (nar u)) ++ r).drop (wid (nar u)) = r := by
    rw [List.drop_append_of_le_length (by omega), List.drop_of_length_le (by omega)]; rfl
  have e3 : val (bitsOf u (wid (nar u))) = u := by rw [val_bitsOf, Nat.mod_eq_of_lt (fits_wid u h)]
  simp only [e1, e2, e3]
  rw [if_neg (by simp [hl]), if_pos trivial]

theorem headL_length (i : Nat) : (headL i).length = i + (if i < 6 then 1 else 0) := by
  unfold headL; split <;> simp

theorem putL_length (u : Nat) : (putL u).length = nar u + (if nar u < 6 then 1 else 0) + wid (nar u) := by
  unfold putL; rw [List.length_append, headL_length, bitsOf_length]

theorem putL_bounds (u : Nat) : 1 ≤ (putL u).length ∧ (putL u).length ≤ 70 ∧ (u = 0 → (putL u).length = 1) ∧ (u < 16 → (putL u).length ≤ 6) := by
  rw [putL_length]
  have hn := nar_le u
  refine ⟨?_, ?_, ?_, ?_⟩
  · split <;> omega
  · have : nar u = 0 ∨ nar u = 1 ∨ nar u = 2 ∨ nar u = 3 ∨ nar u = 4 ∨ nar u = 5 ∨ nar u = 6 := by omega
    rcases this with h | h | h | h | h | h | h <;> simp [h, wid]
  · intro h; subst h; decide
  · intro h
    by_cases h0 : u < 1
    · have : nar u = 0 := by unfold nar; simp [h0]
      simp [this, wid]
    · have : nar u = 1 := by unfold nar; rw [if_neg h0, if_pos h]
      simp [this, wid]

end BL
end Go.Proofs.YtdmnlmohfaafoadGreatDoor
