/- Plain facts on samples and the bits that they are written in: no program in it. -/
import Derived.Test.YtdmnlmohfaafoadGreatDoorBitNum
namespace Go.Proofs.YtdmnlmohfaafoadGreatDoor
namespace CL
open BL

/-- A sample: its time, its value. -/
abbrev Smp := Int × Int

/-- A number as an int64 keeps it. -/
def W (n : Int) : Int := (n + 9223372036854775808) % 18446744073709551616 - 9223372036854775808

def Rs (s : Smp) : Prop := (-9223372036854775808 ≤ s.1 ∧ s.1 ≤ 9223372036854775807) ∧ (-9223372036854775808 ≤ s.2 ∧ s.2 ≤ 9223372036854775807)

theorem W_range (n : Int) : -9223372036854775808 ≤ W n ∧ W n ≤ 9223372036854775807 := by unfold W; omega
theorem W_id (n : Int) (h1 : -9223372036854775808 ≤ n) (h2 : n ≤ 9223372036854775807) : W n = n := by unfold W; omega

def at' (l : List Smp) (i : Nat) : Smp := l.getD i (0, 0)

/-- The sample ahead of the i-th. -/
def ahead (l : List Smp) (i : Nat) : Smp := if i = 0 then (0, 0) else at' l (i - 1)
/-- What is taken away from the i-th one's step. -/
def stp (l : List Smp) (i : Nat) : Int := if i < 2 then 0 else W ((at' l (i - 1)).1 - (at' l (i - 2)).1)
def num1 (l : List Smp) (i : Nat) : Int := W (W ((at' l i).1 - (ahead l i).1) - stp l i)
def num2 (l : List Smp) (i : Nat) : Int := W ((at' l i).2 - (ahead l i).2)
def pairB (l : List Smp) (i : Nat) : List Bool := putL (zig (num1 l i)) ++ putL (zig (num2 l i))
/-- The bits of n samples from the k-th on. -/
def seg (l : List Smp) (k : Nat) : Nat → List Bool
  | 0 => []
  | n + 1 => pairB l k ++ seg l (k + 1) n
def chB (l : List Smp) : List Bool := putL (zig l.length) ++ seg l 0 l.length

theorem seg_succ (l : List Smp) (n : Nat) : ∀ k, seg l k (n + 1) = seg l k n ++ pairB l (k + n) := by
  induction n with
  | zero => intro k; simp [seg]
  | succ n ih =>
    intro k
    have e : seg l k (n + 1 + 1) = pairB l k ++ seg l (k + 1) (n + 1) := rfl
    rw [e, ih (k + 1), ← List.append_assoc]
    have e2 : k + 1 + n = k + (n + 1) := by omega
    rw [e2]; rfl

theorem seg_len (l : List Smp) (n : Nat) : ∀ k, (seg l k n).length ≤ 140 * n := by
  induction n with
  | zero => intro k; simp [seg]
  | succ n ih =>
    intro k
    have h1 := (putL_bounds (zig (num1 l k))).2.1
    have h2 := (putL_bounds (zig (num2 l k))).2.1
    have h3 := ih (k + 1)
    simp only [seg, pairB, List.length_append]
    omega

theorem chB_len (l : List Smp) : (chB l).length ≤ 70 + 140 * l.length := by
  have h1 := (putL_bounds (zig l.length)).2.1
  have h2 := seg_len l l.length 0
  simp only [chB, List.length_append]
  omega

theorem chB_pos (l : List Smp) : 1 ≤ (chB l).length := by
  have h1 := (putL_bounds (zig l.length)).1
  simp only [chB, List.length_append]
  omega

/-! ## which samples may be -/

def okAt (l : List Smp) (i : Nat) : Bool :=
  decide (-1099511627776 ≤ (at' l i).1) && decide ((at' l i).1 ≤ 1099511627776) && (decide (i = 0) || decide ((at' l (i - 1)).1 < (at' l i).1))
def right (l : List Smp) : Bool := decide (l.length ≤ 2000) && (List.range l.length).all (okAt l)

theorem okAt_iff (l : List Smp) (i : Nat) : okAt l i = true ↔ (-1099511627776 ≤ (at' l i).1 ∧ (at' l i).1 ≤ 1099511627776) ∧ (i = 0 ∨ (at' l (i - 1)).1 < (at' l i).1) := by
  simp [okAt]

theorem right_iff (l : List Smp) : right l = true ↔ l.length ≤ 2000 ∧ ∀ i, i < l.length → okAt l i = true := by
  simp [right, List.all_eq_true, List.mem_range]

theorem right_of (l : List Smp) (h : l.length ≤ 2000) (h2 : ∀ i, i < l.length → okAt l i = true) : right l = true := (right_iff l).2 ⟨h, h2⟩
theorem not_right (l : List Smp) (i : Nat) (h : i < l.length) (h2 : okAt l i = false) : right l = false := by
  rw [← Bool.not_eq_true, right_iff]
  intro hh
  have := hh.2 i h
  rw [h2] at this
  cases this
theorem not_right_len (l : List Smp) (h : 2000 < l.length) : right l = false := by
  rw [← Bool.not_eq_true, right_iff]
  omega

/-! ## reading -/

/-- The sample that two numbers tell behind l. -/
def nxt (l : List Smp) (d v : Int) : Smp := (W (W ((ahead l l.length).1 + stp l l.length) + d), W ((ahead l l.length).2 + v))

def unn : Nat → List Smp → List Bool → Option (List Smp × List Bool)
  | 0, l, b => some (l, b)
  | n + 1, l, b => match getL b with
    | none => none
    | some (u, r) => match getL r with
      | none => none
      | some (v, r2) => unn n (l ++ [nxt l (zag u) (zag v)]) r2

def readL (b : List Bool) : Option (List Smp) :=
  match getL b with
  | none => none
  | some (u, r) => if 0 ≤ zag u ∧ zag u ≤ 2000 then
      match unn (zag u).toNat [] r with
      | none => none
      | some (l, t) => if t.length < 8 ∧ val t = 0 ∧ right l = true then some l else none
    else none

theorem unn_none1 (n : Nat) (l : List Smp) (b : List Bool) (h : getL b = none) : unn (n + 1) l b = none := by
  unfold unn; rw [h]
theorem unn_none2 (n : Nat) (l : List Smp) (b r : List Bool) (u : Nat) (h : getL b = some (u, r)) (h2 : getL r = none) : unn (n + 1) l b = none := by
  unfold unn; rw [h]; simp only []; rw [h2]
theorem unn_some (n : Nat) (l : List Smp) (b r r2 : List Bool) (u v : Nat) (h : getL b = some (u, r)) (h2 : getL r = some (v, r2)) : unn (n + 1) l b = unn n (l ++ [nxt l (zag u) (zag v)]) r2 := by
  conv => lhs; unfold unn
  rw [h]; simp only []; rw [h2]

theorem at_take (L : List Smp) (k i : Nat) (h : i < k) : at' (L.take k) i = at' L i := by
  unfold at'; rw [List.getD_eq_getElem?_getD, List.getElem?_take_of_lt h, ← List.getD_eq_getElem?_getD]

theorem ahead_take (L : List Smp) (k : Nat) : ahead (L.take k) k = ahead L k := by
  unfold ahead
  split
  · rfl
  · exact at_take L k (k - 1) (by omega)

theorem stp_take (L : List Smp) (k : Nat) : stp (L.take k) k = stp L k := by
  unfold stp
  split
  · rfl
  · rw [at_take L k (k - 1) (by omega), at_take L k (k - 2) (by omega)]

theorem take_nxt (L : List Smp) (k : Nat) (h : k < L.length) : L.take k ++ [at' L k] = L.take (k + 1) := by
  rw [List.take_succ_eq_append_getElem h]
  simp [at', h]

theorem at_mem (L : List Smp) (k : Nat) (h : k < L.length) : at' L k ∈ L := by
  have : at' L k = L[k] := by simp [at', h]
  rw [this]; exact List.getElem_mem h

theorem nxt_num (L : List Smp) (k : Nat) (h : k < L.length) (hR : ∀ s ∈ L, Rs s) : nxt (L.take k) (num1 L k) (num2 L k) = at' L k := by
  have hl : (L.take k).length = k := by rw [List.length_take]; omega
  have hr := hR _ (at_mem L k h)
  unfold nxt
  rw [hl, ahead_take, stp_take]
  unfold num1 num2
  generalize at' L k = s at *
  obtain ⟨t, v⟩ := s
  obtain ⟨⟨h1, h2⟩, h3, h4⟩ := hr
  simp only at h1 h2 h3 h4 ⊢
  generalize (ahead L k).1 = a
  generalize (ahead L k).2 = b
  generalize stp L k = c
  unfold W
  rw [Prod.mk.injEq]
  constructor <;> omega

theorem num_range1 (L : List Smp) (k : Nat) : -9223372036854775808 ≤ num1 L k ∧ num1 L k ≤ 9223372036854775807 := W_range _
theorem num_range2 (L : List Smp) (k : Nat) : -9223372036854775808 ≤ num2 L k ∧ num2 L k ≤ 9223372036854775807 := W_range _

theorem get_num (x : Int) (h1 : -9223372036854775808 ≤ x) (h2 : x ≤ 9223372036854775807) (r : List Bool) : getL (putL (zig x) ++ r) = some (zig x, r) := getL_putL _ (zig_lt x h1 h2) r

theorem unn_seg (L : List Smp) (hR : ∀ s ∈ L, Rs s) (r : List Bool) (n : Nat) : ∀ k, k + n = L.length → unn n (L.take k) (seg L k n ++ r) = some (L, r) := by
  induction n with
  | zero => intro k hk; simp only [unn, seg, List.nil_append]; rw [List.take_of_length_le (by omega)]
  | succ n ih =>
    intro k hk
    have e : seg L k (n + 1) ++ r = putL (zig (num1 L k)) ++ (putL (zig (num2 L k)) ++ (seg L (k + 1) n ++ r)) := by
      simp only [seg, pairB, List.append_assoc]
    rw [e]
    unfold unn
    rw [get_num _ (num_range1 L k).1 (num_range1 L k).2]
    simp only []
    rw [get_num _ (num_range2 L k).1 (num_range2 L k).2]
    simp only [zag_zig]
    rw [nxt_num L k (by omega) hR, take_nxt L k (by omega)]
    exact ih (k + 1) (by omega)

theorem zig_zag (u : Nat) : zig (zag u) = u := by unfold zig zag; split <;> split <;> omega
theorem zag_range (u : Nat) (hu : u < 18446744073709551616) : -9223372036854775808 ≤ zag u ∧ zag u ≤ 9223372036854775807 := by unfold zag; split <;> omega

theorem plc_inv : ∀ (k : Nat) (b : List Bool) (i : Nat) (r : List Bool), plc k b = some (i, r) → i ≤ k ∧ b = List.replicate i true ++ (if i < k then [false] else []) ++ r
  | 0, b, i, r, h => by simp [plc] at h; obtain ⟨rfl, rfl⟩ := h; simp
  | k + 1, [], i, r, h => by simp [plc] at h
  | k + 1, false :: b, i, r, h => by simp [plc] at h; obtain ⟨rfl, rfl⟩ := h; simp
  | k + 1, true :: b, i, r, h => by
    have e : plc (k + 1) (true :: b) = (plc k b).map fun x => (x.1 + 1, x.2) := rfl
    rw [e] at h
    rcases hx : plc k b with _ | ⟨j, r'⟩
    · rw [hx] at h; simp at h
    · rw [hx] at h
      simp at h
      obtain ⟨rfl, rfl⟩ := h
      obtain ⟨h1, h2⟩ := plc_inv k b j r' hx
      refine ⟨by omega, ?_⟩
      rw [h2, List.replicate_succ]
      by_cases hj : j < k
      · rw [if_pos hj, if_pos (by omega)]; rfl
      · rw [if_neg hj, if_neg (by omega)]; rfl

theorem bitsOf_val (l : List Bool) : bitsOf (val l) l.length = l := by
  apply List.ext_getElem
  · exact bitsOf_length _ _
  · intro i h1 h2
    have e := bitsOf_get (val l) l.length i
    rw [val_testBit] at e
    have e3 : l.length - 1 - (l.length - 1 - i) = i := by omega
    rw [e3] at e
    simp [h2] at e
    have h4 : l.length - 1 - i < l.length := by omega
    simp [h4] at e
    rw [List.getElem?_eq_getElem h1] at e
    simpa using e

theorem getL_inv (b : List Bool) (u : Nat) (r : List Bool) (h : getL b = some (u, r)) : b = putL u ++ r ∧ u < 18446744073709551616 := by
  unfold getL at h
  rcases hp : plc 6 b with _ | ⟨i, q⟩
  · rw [hp] at h; simp at h
  · rw [hp] at h
    simp only [] at h
    split at h
    · simp at h
    · next hlen =>
      split at h
      · next hn =>
        simp only [Option.some.injEq, Prod.mk.injEq] at h
        obtain ⟨hu, hr⟩ := h
        obtain ⟨hi, hb⟩ := plc_inv 6 b i q hp
        have htl : (q.take (wid i)).length = wid i := by rw [List.length_take]; omega
        have hbv := bitsOf_val (q.take (wid i))
        rw [htl, hu] at hbv
        rw [hu] at hn
        constructor
        · rw [hb]
          unfold putL headL
          rw [hn, hbv, ← hr, List.append_assoc, List.append_assoc, List.append_assoc, List.take_append_drop]
        · have h1 := val_lt (q.take (wid i))
          rw [htl, hu] at h1
          have h2 := wid_le i
          have h3 : 2 ^ wid i ≤ 2 ^ 64 := Nat.pow_le_pow_right (by omega) h2
          omega
      · simp at h

theorem at_app (l : List Smp) (s : Smp) : at' (l ++ [s]) l.length = s := by simp [at']

theorem unn_inv (n : Nat) : ∀ (l : List Smp) (b : List Bool) (L : List Smp) (t : List Bool), unn n l b = some (L, t) → (∀ s ∈ l, Rs s) →
    L.take l.length = l ∧ L.length = l.length + n ∧ b = seg L l.length n ++ t ∧ ∀ s ∈ L, Rs s := by
  induction n with
  | zero =>
    intro l b L t h hR
    simp only [unn, Option.some.injEq, Prod.mk.injEq] at h
    obtain ⟨rfl, rfl⟩ := h
    exact ⟨List.take_of_length_le (Nat.le_refl _), rfl, rfl, hR⟩
  | succ n ih =>
    intro l b L t h hR
    unfold unn at h
    rcases hg : getL b with _ | ⟨u, r⟩
    · rw [hg] at h; simp at h
    · rw [hg] at h
      simp only [] at h
      rcases hg2 : getL r with _ | ⟨v, r2⟩
      · rw [hg2] at h; simp at h
      · rw [hg2] at h
        simp only [] at h
        obtain ⟨hb, hu⟩ := getL_inv b u r hg
        obtain ⟨hb2, hv⟩ := getL_inv r v r2 hg2
        have hzu := zag_range u hu
        have hzv := zag_range v hv
        have hn : Rs (nxt l (zag u) (zag v)) := ⟨W_range _, W_range _⟩
        obtain ⟨h1, h2, h3, h4⟩ := ih _ _ _ _ h (by
          intro s hs
          rcases List.mem_append.1 hs with hs | hs
          · exact hR s hs
          · rw [List.mem_singleton] at hs; rw [hs]; exact hn)
        have hl1 : (l ++ [nxt l (zag u) (zag v)]).length = l.length + 1 := by simp
        rw [hl1] at h1 h2 h3
        have hl : L.take l.length = l := by
          have : (L.take (l.length + 1)).take l.length = l := by rw [h1]; simp
          rw [List.take_take] at this
          rwa [show min l.length (l.length + 1) = l.length by omega] at this
        have hat : at' L l.length = nxt l (zag u) (zag v) := by
          rw [← at_take L (l.length + 1) l.length (by omega), h1, at_app]
        have ha : ahead L l.length = ahead l l.length := by rw [← ahead_take, hl]
        have hst : stp L l.length = stp l l.length := by rw [← stp_take, hl]
        refine ⟨hl, by omega, ?_, h4⟩
        have e1 : num1 L l.length = zag u := by
          unfold num1
          rw [hat, ha, hst]
          unfold nxt
          simp only []
          generalize (ahead l l.length).1 = a
          generalize stp l l.length = c
          unfold W
          omega
        have e2 : num2 L l.length = zag v := by
          unfold num2
          rw [hat, ha]
          unfold nxt
          simp only []
          generalize (ahead l l.length).2 = a
          unfold W
          omega
        simp only [seg, pairB, e1, e2, zig_zag]
        rw [hb, hb2, h3]
        simp

theorem val_zero_inv (l : List Bool) (h : val l = 0) : l = List.replicate l.length false := by
  have h1 := bitsOf_val l
  rw [h] at h1
  have aux : ∀ n, bitsOf 0 n = List.replicate n false := by
    intro n
    induction n with
    | zero => rfl
    | succ n ih => simp [bitsOf, ih, List.replicate_succ]
  rw [aux] at h1
  exact h1.symm

theorem zag_cast (n : Nat) : zag (zig (n : Int)) = n := zag_zig n

/-- What is written is read. -/
theorem read_write (l : List Smp) (hr : right l = true) (hR : ∀ s ∈ l, Rs s) (k : Nat) (hk : k < 8) : readL (chB l ++ List.replicate k false) = some l := by
  have hlen := ((right_iff l).1 hr).1
  unfold readL chB
  rw [List.append_assoc, get_num _ (by omega) (by omega)]
  simp only [zag_cast]
  rw [if_pos (by omega)]
  have hu := unn_seg l hR (List.replicate k false) l.length 0 (by omega)
  simp only [List.take_zero] at hu
  simp only [Int.toNat_natCast, hu]
  rw [if_pos ⟨by simpa using hk, val_zeros k, hr⟩]

/-- What is read is written just so. -/
theorem read_inv (b : List Bool) (l : List Smp) (h : readL b = some l) : right l = true ∧ (∀ s ∈ l, Rs s) ∧ ∃ k, k < 8 ∧ b = chB l ++ List.replicate k false := by
  unfold readL at h
  rcases hg : getL b with _ | ⟨u, r⟩
  · rw [hg] at h; simp at h
  · rw [hg] at h
    simp only [] at h
    split at h
    · next hc =>
      rcases hn : unn (zag u).toNat [] r with _ | ⟨L, t⟩
      · rw [hn] at h; simp at h
      · rw [hn] at h
        simp only [] at h
        split at h
        · next hc2 =>
          simp only [Option.some.injEq] at h
          subst h
          obtain ⟨h1, h2, h3, h4⟩ := unn_inv _ _ _ _ _ hn (by simp)
          obtain ⟨hb, hu⟩ := getL_inv b u r hg
          refine ⟨hc2.2.2, h4, t.length, hc2.1, ?_⟩
          rw [← val_zero_inv t hc2.2.1]
          unfold chB
          simp only [List.length_nil, Nat.zero_add] at h2 h3
          have e : zig ((L.length : Nat) : Int) = u := by
            rw [h2, show (((zag u).toNat : Nat) : Int) = zag u by omega, zig_zag]
          rw [e, hb, h3, h2, List.append_assoc]
        · simp at h
    · simp at h

theorem chB_inj (l l' : List Smp) (r r' : List Bool) (hR : ∀ s ∈ l, Rs s) (hR' : ∀ s ∈ l', Rs s) (hl : l.length ≤ 2000) (hl' : l'.length ≤ 2000) (h : chB l ++ r = chB l' ++ r') : l = l' ∧ r = r' := by
  unfold chB at h
  rw [List.append_assoc, List.append_assoc] at h
  have h1 := get_num (l.length : Int) (by omega) (by omega) (seg l 0 l.length ++ r)
  rw [h, get_num (l'.length : Int) (by omega) (by omega)] at h1
  simp only [Option.some.injEq, Prod.mk.injEq] at h1
  obtain ⟨h2, h3⟩ := h1
  have h4 : ((l'.length : Nat) : Int) = (l.length : Int) := by rw [← zag_cast l'.length, h2, zag_cast]
  have h5 : l'.length = l.length := by omega
  have a := unn_seg l hR r l.length 0 (by omega)
  have b := unn_seg l' hR' r' l'.length 0 (by omega)
  rw [h3, h5] at b
  simp only [List.take_zero] at a b
  rw [a] at b
  simpa using b

/-- No beginning of it is any. -/
theorem read_prefix (l : List Smp) (hr : right l = true) (hR : ∀ s ∈ l, Rs s) (k : Nat) (hk : k < 8) (p q : List Bool) (h : p ++ q = chB l ++ List.replicate k false) (hq : 8 ≤ q.length) : readL p = none := by
  rcases hx : readL p with _ | l'
  · rfl
  · exfalso
    obtain ⟨h1, h2, k', hk', h3⟩ := read_inv p l' hx
    rw [h3, List.append_assoc] at h
    obtain ⟨_, h4⟩ := chB_inj l' l _ _ h2 hR ((right_iff l').1 h1).1 ((right_iff l).1 hr).1 h
    have h5 := congrArg List.length h4
    simp at h5
    omega

theorem num1_bound (l : List Smp) (hr : right l = true) (i : Nat) (h : i < l.length) : -8796093022208 ≤ num1 l i ∧ num1 l i ≤ 8796093022208 := by
  have hr' := ((right_iff l).1 hr).2
  have h0 := (okAt_iff l i).1 (hr' i h)
  unfold num1 ahead stp
  by_cases h1 : i = 0
  · rw [if_pos h1, if_pos (by omega)]; unfold W; simp only []; omega
  · have h2 := (okAt_iff l (i - 1)).1 (hr' (i - 1) (by omega))
    rw [if_neg h1]
    by_cases h3 : i < 2
    · rw [if_pos h3]; unfold W; omega
    · have h4 := (okAt_iff l (i - 2)).1 (hr' (i - 2) (by omega))
      rw [if_neg h3]; unfold W; omega

/-! ## even steps -/

theorem seg_small (l : List Smp) (n : Nat) : ∀ k, (∀ i, k ≤ i → i < k + n → num1 l i = 0 ∧ num2 l i = 0) → (seg l k n).length = 2 * n := by
  induction n with
  | zero => intro k _; rfl
  | succ n ih =>
    intro k h
    obtain ⟨h1, h2⟩ := h k (by omega) (by omega)
    have h3 := ih (k + 1) (fun i a b => h i (by omega) (by omega))
    have e1 := (putL_bounds 0).2.2.1 rfl
    simp only [seg, pairB, List.length_append, h1, h2, h3]
    rw [show zig 0 = 0 from rfl, e1]
    omega

theorem seg_add (l : List Smp) (a : Nat) : ∀ k b, seg l k (a + b) = seg l k a ++ seg l (k + a) b := by
  induction a with
  | zero => intro k b; simp [seg]
  | succ a ih =>
    intro k b
    rw [show a + 1 + b = (a + b) + 1 by omega]
    simp only [seg]
    rw [ih (k + 1) b, List.append_assoc, show k + 1 + a = k + (a + 1) by omega]

theorem even_small (l : List Smp) (from' step value : Int) (n : Nat) (hn : l.length = n)
    (h : ∀ i, i < n → at' l i = (from' + i * step, value)) : (chB l).length ≤ 277 + 2 * n := by
  unfold chB
  rw [List.length_append, hn]
  have hp := (putL_bounds (zig (n : Int))).2.1
  by_cases hn3 : n ≤ 2
  · have hs := seg_len l n 0
    by_cases hn1 : n ≤ 1
    · omega
    · have e : n = 2 := by omega
      subst e
      have z : num2 l 1 = 0 := by
        unfold num2 ahead
        rw [h 1 (by omega), if_neg (by omega), h (1 - 1) (by omega)]
        unfold W; simp only []; omega
      have b1 := (putL_bounds (zig (num1 l 0))).2.1
      have b2 := (putL_bounds (zig (num2 l 0))).2.1
      have b3 := (putL_bounds (zig (num1 l 1))).2.1
      have b4 := (putL_bounds 0).2.2.1 rfl
      simp only [seg, pairB, List.length_append, z]
      rw [show zig 0 = 0 from rfl, b4]
      simp only [List.length_nil, Nat.zero_add]
      omega
  · have z : num2 l 1 = 0 := by
      unfold num2 ahead
      rw [h 1 (by omega), if_neg (by omega), h (1 - 1) (by omega)]
      unfold W; simp only []; omega
    have b1 := (putL_bounds (zig (num1 l 0))).2.1
    have b2 := (putL_bounds (zig (num2 l 0))).2.1
    have b3 := (putL_bounds (zig (num1 l 1))).2.1
    have b4 := (putL_bounds 0).2.2.1 rfl
    have hr := seg_small l (n - 2) 2 (by
      intro i hi1 hi2
      have e1 : (i : Int) * step - ((i - 1 : Nat) : Int) * step = step := by
        rw [← Int.sub_mul, show (i : Int) - ((i - 1 : Nat) : Int) = 1 by omega, Int.one_mul]
      have e2 : ((i - 1 : Nat) : Int) * step - ((i - 2 : Nat) : Int) * step = step := by
        rw [← Int.sub_mul, show ((i - 1 : Nat) : Int) - ((i - 2 : Nat) : Int) = 1 by omega, Int.one_mul]
      unfold num1 num2 ahead stp
      rw [h i (by omega), if_neg (by omega), if_neg (by omega), h (i - 1) (by omega), h (i - 2) (by omega)]
      simp only []
      generalize (i : Int) * step = a at *
      generalize ((i - 1 : Nat) : Int) * step = b at *
      generalize ((i - 2 : Nat) : Int) * step = c at *
      unfold W
      constructor <;> omega)
    have ha := seg_add l 2 0 (n - 2)
    rw [show 2 + (n - 2) = n by omega, Nat.zero_add] at ha
    rw [ha, List.length_append, hr]
    simp only [seg, pairB, List.length_append, z]
    rw [show zig 0 = 0 from rfl, b4]
    simp only [List.length_nil, Nat.zero_add]
    omega

end CL
end Go.Proofs.YtdmnlmohfaafoadGreatDoor
