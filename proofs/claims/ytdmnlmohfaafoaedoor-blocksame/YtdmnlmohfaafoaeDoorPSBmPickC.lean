/- Files that grow, and what of them is safe, plain: what each act makes of them. No program in it. What raingaugekeep's pick answers, as a number. -/
import Derived.Test.YtdmnlmohfaafoaeDoorPSLbNum
import Derived.Lib.AppendStr
import Derived.Test.YtdmnlmohfaafoaeDoorPSCdTxt
namespace Go.Proofs.YtdmnlmohfaafoaeDoor
namespace DK

/-- A file: its bytes, how many of them are safe, and whether any ever were. -/
structure Fl where
  b : ByteArray
  s : Nat
  k : Bool

/-- Files by their names. -/
abbrev M := ByteArray → Option Fl

def put (D : M) (n : ByteArray) (f : Fl) : M := fun m => if m = n then some f else D m
def del (D : M) (n : ByteArray) : M := fun m => if m = n then none else D m

theorem put_same (D : M) (n : ByteArray) (f : Fl) : put D n f n = some f := by unfold put; rw [if_pos rfl]
theorem put_other (D : M) (n m : ByteArray) (f : Fl) (h : m ≠ n) : put D n f m = D m := by unfold put; rw [if_neg h]
theorem del_same (D : M) (n : ByteArray) : del D n n = none := by unfold del; rw [if_pos rfl]
theorem del_other (D : M) (n m : ByteArray) (h : m ≠ n) : del D n m = D m := by unfold del; rw [if_neg h]

theorem put_put (D : M) (n : ByteArray) (f g : Fl) : put (put D n f) n g = put D n g := by
  funext m
  unfold put
  by_cases h : m = n
  · rw [if_pos h, if_pos h]
  · rw [if_neg h, if_neg h, if_neg h]

theorem put_self (D : M) (n : ByteArray) (f : Fl) (h : D n = some f) : put D n f = D := by
  funext m
  unfold put
  by_cases e : m = n
  · rw [if_pos e, e, h]
  · rw [if_neg e]

theorem empty_size : ByteArray.empty.size = 0 := rfl

/-- What a new file is. -/
def new : Fl := ⟨ByteArray.empty, 0, false⟩

/-- All is as it must be: names of 1 to 60 bytes, at most N bytes, of which those that are safe are some. -/
def Fine (N : Nat) (D : M) : Prop := ∀ n f, D n = some f → (1 ≤ n.size ∧ n.size ≤ 60) ∧ f.b.size ≤ N ∧ f.s ≤ f.b.size ∧ (f.k = false → f.s = 0)

theorem Fine.mono {N N' : Nat} {D : M} (h : Fine N D) (hn : N ≤ N') : Fine N' D := fun n f hf => by
  obtain ⟨h1, h2, h3, h4⟩ := h n f hf
  exact ⟨h1, Nat.le_trans h2 hn, h3, h4⟩

theorem Fine.none (N : Nat) : Fine N fun _ => none := fun n f h => by cases h

theorem Fine.put {N : Nat} {D : M} (h : Fine N D) {n : ByteArray} (hn : 1 ≤ n.size ∧ n.size ≤ 60) {f : Fl} (hb : f.b.size ≤ N) (hs : f.s ≤ f.b.size) (hk : f.k = false → f.s = 0) : Fine N (put D n f) := by
  intro m g hg
  by_cases e : m = n
  · subst e
    rw [put_same] at hg
    cases hg
    exact ⟨hn, hb, hs, hk⟩
  · rw [put_other _ _ _ _ e] at hg
    exact h m g hg

theorem Fine.del {N : Nat} {D : M} (h : Fine N D) (n : ByteArray) : Fine N (del D n) := by
  intro m g hg
  by_cases e : m = n
  · subst e; rw [del_same] at hg; cases hg
  · rw [del_other _ _ _ e] at hg
    exact h m g hg

/-- May a file be called so? -/
def named (n : ByteArray) : Bool := decide (1 ≤ n.size ∧ n.size ≤ 60)

theorem named_iff {n : ByteArray} : named n = true ↔ 1 ≤ n.size ∧ n.size ≤ 60 := by unfold named; exact decide_eq_true_iff
theorem named_no {n : ByteArray} : named n = false ↔ ¬ (1 ≤ n.size ∧ n.size ≤ 60) := by unfold named; exact decide_eq_false_iff_not

/-- The power that is left behind a change. -/
def dec (p : Int) : Int := if 0 < p then p - 1 else p

/-- A file, new if it must be, with a text at its end. -/
def gr (D : M) (n s : ByteArray) : Fl := ⟨((D n).getD new).b ++ s, ((D n).getD new).s, ((D n).getD new).k⟩

/-- A file of which m bytes behind the safe ones stay. -/
def keepB (f : Fl) (m : Nat) : Fl := ⟨f.b.extract 0 (f.s + min m (f.b.size - f.s)), f.s + min m (f.b.size - f.s), true⟩

/-- Does a file stay? -/
def stay (f : Fl) (c : Int) : Bool := f.k || decide (1 ≤ c)

/-- Behind a start. -/
def start (D : M) (c : Int) : M := fun n => match D n with
  | none => none
  | some f => if stay f c then some (keepB f c.toNat) else none

theorem start_none {D : M} {c : Int} {n : ByteArray} (h : D n = none) : start D c n = none := by unfold start; rw [h]
theorem start_some {D : M} {c : Int} {n : ByteArray} {f : Fl} (h : D n = some f) : start D c n = if stay f c then some (keepB f c.toNat) else none := by unfold start; rw [h]

theorem keepB_size (f : Fl) (m : Nat) (h : f.s ≤ f.b.size) : (keepB f m).b.size = f.s + min m (f.b.size - f.s) := by
  unfold keepB
  rw [ByteArray.size_extract]
  omega

theorem Fine.start {N : Nat} {D : M} (h : Fine N D) (c : Int) : Fine N (start D c) := by
  intro n g hg
  cases hf : D n with
  | none => rw [start_none hf] at hg; cases hg
  | some f =>
    rw [start_some hf] at hg
    obtain ⟨h1, h2, h3, h4⟩ := h n f hf
    by_cases e : stay f c = true
    · rw [if_pos e] at hg
      cases hg
      have hz := keepB_size f c.toNat h3
      refine ⟨h1, by rw [hz]; omega, ?_, fun h => by cases h⟩
      rw [hz]; exact Nat.le_refl _
    · rw [if_neg e] at hg; cases hg

/-- What a change answers: 0 Append, 1 Sync, 2 Move, 3 Remove. -/
def code (a : Nat) (D : M) (p : Int) (n s : ByteArray) : Int :=
  if (a = 0 ∧ named n = false) ∨ (a = 2 ∧ named s = false) then 1 else if a ≠ 0 ∧ D n = none then 7 else if p = 0 then 14 else 0

/-- What it makes of the files. -/
def next (a : Nat) (D : M) (n s : ByteArray) : M := match a with
  | 0 => put D n (gr D n s)
  | 1 => put D n ⟨((D n).getD new).b, ((D n).getD new).b.size, true⟩
  | 2 => put (del D n) s ((D n).getD new)
  | _ => del D n

def aftD (a : Nat) (D : M) (p : Int) (n s : ByteArray) : M := if code a D p n s = 0 then next a D n s else D
def aftP (a : Nat) (D : M) (p : Int) (n s : ByteArray) : Int := if code a D p n s = 0 then dec p else p

theorem code_cases (a : Nat) (D : M) (p : Int) (n s : ByteArray) : code a D p n s = 0 ∨ code a D p n s = 1 ∨ code a D p n s = 7 ∨ code a D p n s = 14 := by
  unfold code
  split
  · exact .inr (.inl rfl)
  · split
    · exact .inr (.inr (.inl rfl))
    · split
      · exact .inr (.inr (.inr rfl))
      · exact .inl rfl

theorem dec_range {p : Int} (h : -1 ≤ p) (h2 : p ≤ 9223372036854775807) : -1 ≤ dec p ∧ dec p ≤ 9223372036854775807 := by
  unfold dec
  split <;> omega

theorem aftP_range {a : Nat} {D : M} {p : Int} {n s : ByteArray} (h : -1 ≤ p) (h2 : p ≤ 9223372036854775807) : -1 ≤ aftP a D p n s ∧ aftP a D p n s ≤ 9223372036854775807 := by
  unfold aftP
  split
  · exact dec_range h h2
  · exact ⟨h, h2⟩

theorem getD_fine {N : Nat} {D : M} (h : Fine N D) (n : ByteArray) : ((D n).getD new).b.size ≤ N ∧ ((D n).getD new).s ≤ ((D n).getD new).b.size ∧ (((D n).getD new).k = false → ((D n).getD new).s = 0) := by
  cases hf : D n with
  | none => exact ⟨Nat.zero_le _, Nat.le_refl _, fun _ => rfl⟩
  | some f => exact (h n f hf).2

theorem code_zero {a : Nat} {D : M} {p : Int} {n s : ByteArray} (h : code a D p n s = 0) : (a = 0 → 1 ≤ n.size ∧ n.size ≤ 60) ∧ (a = 2 → 1 ≤ s.size ∧ s.size ≤ 60) ∧ (a ≠ 0 → D n ≠ none) ∧ p ≠ 0 := by
  unfold code at h
  split at h
  · cases h
  · rename_i h1
    split at h
    · cases h
    · rename_i h2
      split at h
      · cases h
      · rename_i h3
        refine ⟨fun e => ?_, fun e => ?_, fun e e2 => h2 ⟨e, e2⟩, h3⟩
        · cases hq : named n with
          | true => exact named_iff.1 hq
          | false => exact absurd (.inl ⟨e, hq⟩) h1
        · cases hq : named s with
          | true => exact named_iff.1 hq
          | false => exact absurd (.inr ⟨e, hq⟩) h1

theorem aft_fine {N : Nat} {a : Nat} {D : M} {p : Int} {n s : ByteArray} (h : Fine N D) : Fine (N + s.size) (aftD a D p n s) := by
  unfold aftD
  by_cases hc : code a D p n s = 0
  · rw [if_pos hc]
    obtain ⟨c1, c2, c3, _⟩ := code_zero hc
    have h' := h.mono (Nat.le_add_right N s.size)
    obtain ⟨g1, g2, g3⟩ := getD_fine h n
    match a, c1, c2, c3 with
    | 0, c1, _, _ =>
      refine h'.put (c1 rfl) ?_ ?_ g3
      · show (((D n).getD new).b ++ s).size ≤ _
        rw [ByteArray.size_append]; omega
      · show _ ≤ (((D n).getD new).b ++ s).size
        rw [ByteArray.size_append]
        show ((D n).getD new).s ≤ _
        omega
    | 1, _, _, c3 =>
      cases hf : D n with
      | none => exact absurd hf (c3 (by omega))
      | some f =>
        refine h'.put (h n f hf).1 ?_ (Nat.le_refl _) (fun h => by cases h)
        show ((D n).getD new).b.size ≤ _
        omega
    | 2, _, c2, _ => exact (h'.del n).put (c2 rfl) (by omega) g2 g3
    | a + 3, _, _, _ => exact h'.del n
  · rw [if_neg hc]
    exact h.mono (Nat.le_add_right _ _)

theorem code_missing {D : M} {p : Int} {a : Nat} {n s : ByteArray} (ha : a ≠ 0) (h2 : a = 2 → named s = true) (hD : D n = none) : code a D p n s = 7 := by
  unfold code
  rw [if_neg (by rintro (⟨h, _⟩ | ⟨h, h'⟩)
                 · exact ha h
                 · rw [h2 h] at h'; cases h'), if_pos ⟨ha, hD⟩]

theorem code_off {D : M} {a : Nat} {n s : ByteArray} (h0 : a = 0 → named n = true) (h2 : a = 2 → named s = true) (hD : a ≠ 0 → D n ≠ none) : code a D 0 n s = 14 := by
  unfold code
  rw [if_neg (by rintro (⟨h, h'⟩ | ⟨h, h'⟩)
                 · rw [h0 h] at h'; cases h'
                 · rw [h2 h] at h'; cases h'), if_neg (fun h => hD h.1 h.2), if_pos rfl]

theorem code_ok {D : M} {p : Int} {a : Nat} {n s : ByteArray} (h0 : a = 0 → named n = true) (h2 : a = 2 → named s = true) (hD : a ≠ 0 → D n ≠ none) (hp : p ≠ 0) : code a D p n s = 0 := by
  unfold code
  rw [if_neg (by rintro (⟨h, h'⟩ | ⟨h, h'⟩)
                 · rw [h0 h] at h'; cases h'
                 · rw [h2 h] at h'; cases h'), if_neg (fun h => hD h.1 h.2), if_neg hp]

theorem code_arg {D : M} {p : Int} {a : Nat} {n s : ByteArray} (h : (a = 0 ∧ named n = false) ∨ (a = 2 ∧ named s = false)) : code a D p n s = 1 := by
  unfold code
  rw [if_pos h]

end DK
end Go.Proofs.YtdmnlmohfaafoaeDoor

namespace Go.Proofs.YtdmnlmohfaafoaeDoor
open Go.RowKit

/-- A number below n, by another one. -/
def DK.pk (a : Int) (n : Nat) : Nat := (a % 18446744073709551616).toNat % n

theorem DK.pk_lt (a : Int) {n : Nat} (h : 0 < n) : DK.pk a n < n := Nat.mod_lt _ h

set_option maxRecDepth 100000 in
set_option maxHeartbeats 400000 in
theorem pk_any (a : Int) (n : Nat) (w : World) (hn : 0 < n) (hn2 : n ≤ 1000000) :
    Calls Tryd.prog 22 #[.int .i64 a, .int .i64 n] w fun e w' => e = .returned (.int .i64 (DK.pk a n)) ∧ w' = w := by
  obtain ⟨U, hU, hUd⟩ : ∃ U : Nat, IntKind.u64.wrap a = (U : Int) ∧ U = (a % 18446744073709551616).toNat := ⟨(a % 18446744073709551616).toNat, by rw [IntKind.wrap_u64]; omega, rfl⟩
  have HUd := hid hUd
  have hUl : U < 18446744073709551616 := by rw [IntKind.wrap_u64] at hU; omega
  have hn3 : IntKind.u64.wrap (n : Int) = n := by rw [IntKind.wrap_u64]; omega
  have hml : (U : Int) % n < n := Int.emod_lt_of_pos _ (by omega)
  have hm0 : 0 ≤ (U : Int) % n := Int.emod_nonneg _ (by omega)
  have hm : IntKind.i64.wrap ((U : Int) % n) = (U : Int) % n := by rw [IntKind.wrap_i64]; omega
  clear hUd
  go_enter Tryd.func22, Tryd.ntmps22
  go_wp2
  go_ret
  refine ⟨ret_int ?_, rfl⟩
  unfold DK.pk
  rw [← HUd.out]
  simp

end Go.Proofs.YtdmnlmohfaafoaeDoor

