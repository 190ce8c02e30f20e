/- The program's questions, plain: the tokens of what is printed. Names no function. -/
import Derived.Test.YtdmnlmohfaafoaeDoorAqNum
namespace Go.Proofs.YtdmnlmohfaafoaeDoor
namespace AQ

abbrev Tk := Int × ByteArray

/-- Tokens without their places. -/
def sl (l : List Tok) : List Tk := l.map fun t => (t.kind, t.said)

/-- A text's tokens. -/
inductive Lx : List UInt8 → List Tk → Prop
  | nil : Lx [] []
  | blank {r ts} (h : Lx r ts) : Lx (32 :: r) ts
  | tok {c t ts} (h32 : c ≠ 32) (hn : (lex (c :: t)).2 ≠ 0) (hd : (lex (c :: t)).1 = 1 → (lex (c :: t)).2 ≤ 18) (h : Lx ((c :: t).drop (lex (c :: t)).2) ts) : Lx (c :: t) (((lex (c :: t)).1, ⟨((c :: t).take (lex (c :: t)).2).toArray⟩) :: ts)

theorem Lx.cut {r : List UInt8} {ts : List Tk} (h : Lx r ts) : ∀ (f : Nat) (p : Int) (out : List Tok), r.length < f → out.length + ts.length ≤ 120 → ∃ l p', cutF f r p out = .inl (out ++ l ++ [⟨4, ⟨#[]⟩, p'⟩]) ∧ sl l = ts := by
  induction h with
  | nil =>
    intro f p out hf _
    obtain ⟨g, rfl⟩ : ∃ g, f = g + 1 := ⟨f - 1, by omega⟩
    exact ⟨[], p, by simp [cutF], rfl⟩
  | @blank r ts _ ih =>
    intro f p out hf ho
    obtain ⟨g, rfl⟩ : ∃ g, f = g + 1 := ⟨f - 1, by omega⟩
    obtain ⟨l, p', e1, e2⟩ := ih g (p + 1) out (by simp at hf; omega) ho
    refine ⟨l, p', ?_, e2⟩
    rw [← e1, cutF_cons, if_pos rfl]
  | @tok c t ts h32 hn hd' _ ih =>
    intro f p out hf ho
    obtain ⟨g, rfl⟩ : ∃ g, f = g + 1 := ⟨f - 1, by omega⟩
    simp only [List.length_cons] at ho hf
    obtain ⟨l, p', e1, e2⟩ := ih g (p + (lex (c :: t)).2) (out ++ [⟨(lex (c :: t)).1, ⟨((c :: t).take (lex (c :: t)).2).toArray⟩, p⟩]) (by simp only [List.length_drop, List.length_cons]; omega) (by simp only [List.length_append, List.length_cons, List.length_nil]; omega)
    refine ⟨⟨(lex (c :: t)).1, ⟨((c :: t).take (lex (c :: t)).2).toArray⟩, p⟩ :: l, p', ?_, ?_⟩
    · have h1 : ¬ (((lex (c :: t)).1 = 1 ∧ 18 < (lex (c :: t)).2) ∨ out.length = 120) := by
        rintro (⟨h, h'⟩ | h)
        · have := hd' h; omega
        · omega
      rw [cutF_cons, if_neg h32, if_neg hn, if_neg h1, e1]
      simp
    · show _ :: sl l = _
      rw [e2]

/-- A token stands ahead of a text. -/
theorem Lx.ahead {x R : List UInt8} {ts : List Tk} {k : Int} (h : Lx R ts) (hx : x ≠ []) (h32 : x.head? ≠ some 32) (hl : lex (x ++ R) = (k, x.length)) (hk : k = 1 → x.length ≤ 18) : Lx (x ++ R) ((k, ⟨x.toArray⟩) :: ts) := by
  cases x with
  | nil => exact absurd rfl hx
  | cons c t =>
    have h1 : (lex (c :: (t ++ R))).1 = k := by rw [← List.cons_append, hl]
    have h2 : (lex (c :: (t ++ R))).2 = (c :: t).length := by rw [← List.cons_append, hl]
    have key := Lx.tok (c := c) (t := t ++ R) (ts := ts) (by simpa using h32) (by rw [h2]; simp) (fun e => by rw [h2]; exact hk (h1.symm.trans e)) (by
      rw [h2, ← List.cons_append, List.drop_left]
      exact h)
    rw [h1, h2, ← List.cons_append, List.take_left] at key
    exact key

/-- What does not go on a word or a number. -/
def Sf (R : List UInt8) : Prop := ∀ c t, R = c :: t → isL c = false ∧ isD c = false

theorem Sf.nil : Sf [] := fun _ _ h => by cases h
theorem Sf.cons {c : UInt8} {t : List UInt8} (h : isL c = false ∧ isD c = false) : Sf (c :: t) := fun _ _ e => by cases e; exact h

theorem take_all {p : UInt8 → Bool} : ∀ (x R : List UInt8), (∀ c ∈ x, p c = true) → (∀ c t, R = c :: t → p c = false) → (x ++ R).takeWhile p = x
  | [], R, _, h => by
    cases R with
    | nil => rfl
    | cons c t => simp [h c t rfl]
  | c :: x, R, hx, h => by
    rw [List.cons_append, List.takeWhile_cons, if_pos (hx c (by simp)), take_all x R (fun d hd => hx d (by simp [hd])) h]

theorem lex_word {c : UInt8} {t R : List UInt8} (hc : isL c = true) (ht : ∀ d ∈ t, (isL d || isD d) = true) (hR : Sf R) : lex ((c :: t) ++ R) = (0, (c :: t).length) := by
  show lex (c :: (t ++ R)) = _
  rw [lex_cons, if_pos hc, ← List.cons_append, take_all (c :: t) R (fun d hd => by
    rcases List.mem_cons.1 hd with rfl | h
    · simp [hc]
    · exact ht d h) (fun d u e => by have := hR d u e; simp [this])]

theorem lex_num {c : UInt8} {t R : List UInt8} (hL : isL c = false) (hc : isD c = true) (ht : ∀ d ∈ t, isD d = true) (hR : Sf R) : lex ((c :: t) ++ R) = (1, (c :: t).length) := by
  show lex (c :: (t ++ R)) = _
  rw [lex_cons, if_neg (by rw [hL]; decide), if_pos hc, ← List.cons_append, take_all (c :: t) R (fun d hd => by
    rcases List.mem_cons.1 hd with rfl | h
    · exact hc
    · exact ht d h) (fun d u e => (hR d u e).2)]

theorem index_at : ∀ (v R : List UInt8), (∀ c ∈ v, c ≠ 34) → Lib.indexByte (v ++ 34 :: R) 34 = v.length
  | [], R, _ => by simp [Lib.indexByte]
  | c :: v, R, h => by
    have h1 : (c == 34) = false := by simpa using h c (by simp)
    have ih := index_at v R fun d hd => h d (by simp [hd])
    have h2 : ((v.length : Int) == -1) = false := by simp
    show (if (c == 34) = true then (0 : Int) else if (Lib.indexByte (v ++ 34 :: R) 34 == -1) = true then -1 else Lib.indexByte (v ++ 34 :: R) 34 + 1) = _
    rw [h1, ih, h2]
    simp

theorem lex_text {v R : List UInt8} (hv : ∀ c ∈ v, c ≠ 34) : lex ((34 :: v ++ [34]) ++ R) = (2, (34 :: v ++ [34]).length) := by
  have e : (34 :: v ++ [34]) ++ R = 34 :: (v ++ 34 :: R) := by simp
  rw [e, lex_cons, if_neg (by decide), if_neg (by decide), if_pos rfl]
  unfold quoted
  rw [index_at v R hv, if_neg (by omega)]
  simp

theorem lex_1 {R : List UInt8} : lex (61 :: R) = (3, 1) ∧ lex (123 :: R) = (3, 1) ∧ lex (125 :: R) = (3, 1) ∧ lex (91 :: R) = (3, 1) ∧ lex (93 :: R) = (3, 1) ∧ lex (40 :: R) = (3, 1) ∧ lex (41 :: R) = (3, 1) ∧ lex (44 :: R) = (3, 1) ∧ lex (43 :: R) = (3, 1) ∧ lex (45 :: R) = (3, 1) ∧ lex (42 :: R) = (3, 1) ∧ lex (47 :: R) = (3, 1) := ⟨rfl, rfl, rfl, rfl, rfl, rfl, rfl, rfl, rfl, rfl, rfl, rfl⟩
theorem lex_2 {R : List UInt8} : lex (33 :: 61 :: R) = (3, 2) ∧ lex (94 :: 61 :: R) = (3, 2) ∧ lex (33 :: 94 :: R) = (3, 2) := ⟨rfl, rfl, rfl⟩

abbrev mk1 (c : UInt8) : Tk := (3, ⟨#[c]⟩)

theorem Lx.mark {c : UInt8} {R : List UInt8} {ts : List Tk} (h : Lx R ts) (hc : c ≠ 32) (hl : lex (c :: R) = (3, 1)) : Lx (c :: R) (mk1 c :: ts) :=
  Lx.ahead (x := [c]) h (by simp) (by simpa using hc) hl (by intro e; cases e)

theorem Lx.word {x R : List UInt8} {ts : List Tk} (h : Lx R ts) (hR : Sf R) (hx : ∃ c t, x = c :: t ∧ isL c = true ∧ ∀ d ∈ t, (isL d || isD d) = true) : Lx (x ++ R) ((0, ⟨x.toArray⟩) :: ts) := by
  obtain ⟨c, t, rfl, hc, ht⟩ := hx
  refine h.ahead (by simp) ?_ (lex_word hc ht hR) (by intro e; cases e)
  intro e
  have e2 : c = 32 := by simpa using e
  subst e2
  exact absurd hc (by decide)

theorem Lx.num {x R : List UInt8} {ts : List Tk} (h : Lx R ts) (hR : Sf R) (hx : x ≠ []) (hd : ∀ c ∈ x, isD c = true) (h18 : x.length ≤ 18) : Lx (x ++ R) ((1, ⟨x.toArray⟩) :: ts) := by
  cases x with
  | nil => exact absurd rfl hx
  | cons c t =>
    have hc := hd c (by simp)
    have hn : 48 ≤ c.toNat ∧ c.toNat ≤ 57 := by simpa [isD, LB.digit] using hc
    have hL : isL c = false := by
      unfold isL LB.letter
      simp only [decide_eq_false_iff_not]
      omega
    refine h.ahead (by simp) ?_ (lex_num hL hc (fun d hd' => hd d (by simp [hd'])) hR) (fun _ => h18)
    intro e
    have e2 : c = 32 := by simpa using e
    subst e2
    exact absurd hc (by decide)

theorem Lx.text {v R : List UInt8} {ts : List Tk} (h : Lx R ts) (hv : ∀ c ∈ v, c ≠ 34) : Lx ((34 :: v ++ [34]) ++ R) ((2, ⟨(34 :: v ++ [34]).toArray⟩) :: ts) :=
  h.ahead (by simp) (by simp) (lex_text hv) (by intro e; cases e)

/- Names, values, numbers. -/

theorem at_list (s : ByteArray) (i : Nat) (h : i < s.data.toList.length) : (s.data.toList[i]).toNat = LB.byt s i := by
  unfold LB.byt
  rw [List.getD_eq_getElem?_getD, List.getElem?_eq_getElem h]
  rfl

theorem name_word {s : ByteArray} (h : LB.name s = true) : ∃ c t, s.data.toList = c :: t ∧ isL c = true ∧ ∀ d ∈ t, (isL d || isD d) = true := by
  unfold LB.name at h
  simp only [decide_eq_true_eq] at h
  obtain ⟨h1, h2, h3⟩ := h
  have hsz : s.data.toList.length = s.size := by simp
  cases e : s.data.toList with
  | nil => rw [e] at hsz; simp at hsz; omega
  | cons c t =>
    refine ⟨c, t, rfl, ?_, fun d hd => ?_⟩
    · have h0 := h3 0 (by omega)
      have hb := at_list s 0 (by omega)
      simp only [e, List.getElem_cons_zero] at hb
      unfold LB.okN at h0
      unfold isL
      rw [hb]
      simpa using h0
    · obtain ⟨i, hi, rfl⟩ := List.mem_iff_getElem.1 hd
      have hlen : t.length + 1 = s.size := by rw [← hsz, e]; simp
      have h0 := h3 (i + 1) (by omega)
      have hb := at_list s (i + 1) (by omega)
      simp only [e, List.getElem_cons_succ] at hb
      unfold LB.okN at h0
      unfold isL isD
      rw [hb]
      simpa using h0

theorem valu_no {s : ByteArray} (h : LB.valu s = true) : ∀ c ∈ s.data.toList, c ≠ 34 := by
  intro c hc e
  subst e
  unfold LB.valu at h
  simp only [decide_eq_true_eq] at h
  obtain ⟨i, hi, e⟩ := List.mem_iff_getElem.1 hc
  have hsz : s.data.toList.length = s.size := by simp
  have h0 := h.2 i (by omega)
  have hb := at_list s i hi
  rw [e] at hb
  unfold LB.okV at h0
  rw [← hb] at h0
  exact absurd h0 (by decide)

theorem dec_digits (u : Nat) : (∀ c ∈ Lib.decDigits u, isD c = true) ∧ Lib.decDigits u ≠ [] := by
  induction u using Nat.strongRecOn with
  | ind u ih =>
    rw [Lib.decDigits]
    split
    · rename_i h
      refine ⟨fun c hc => ?_, by simp⟩
      have e : c = UInt8.ofNat (48 + u) := by simpa using hc
      subst e
      unfold isD LB.digit
      have : (UInt8.ofNat (48 + u)).toNat = 48 + u := by rw [UInt8.toNat_ofNat']; omega
      rw [this]
      simp only [decide_eq_true_eq]
      omega
    · rename_i h
      obtain ⟨h1, h2⟩ := ih (u / 10) (by omega)
      refine ⟨fun c hc => ?_, by simp⟩
      rcases List.mem_append.1 hc with hc | hc
      · exact h1 c hc
      · have e : c = UInt8.ofNat (48 + u % 10) := by simpa using hc
        subst e
        unfold isD LB.digit
        have : (UInt8.ofNat (48 + u % 10)).toNat = 48 + u % 10 := by rw [UInt8.toNat_ofNat']; omega
        rw [this]
        simp only [decide_eq_true_eq]
        omega

theorem digs_app : ∀ (x y : List UInt8) (n : Int), digs (x ++ y) n = digs y (digs x n)
  | [], _, _ => rfl
  | _ :: x, y, _ => digs_app x y _

theorem dec_back (u : Nat) : digs (Lib.decDigits u) 0 = u := by
  induction u using Nat.strongRecOn with
  | ind u ih =>
    rw [Lib.decDigits]
    split
    · rename_i h
      have : (UInt8.ofNat (48 + u)).toNat = 48 + u := by rw [UInt8.toNat_ofNat']; omega
      show (0 : Int) * 10 + (((UInt8.ofNat (48 + u)).toNat : Int) - 48) = u
      rw [this]; omega
    · rename_i h
      have : (UInt8.ofNat (48 + u % 10)).toNat = 48 + u % 10 := by rw [UInt8.toNat_ofNat']; omega
      rw [digs_app, ih (u / 10) (by omega)]
      show ((u / 10 : Nat) : Int) * 10 + (((UInt8.ofNat (48 + u % 10)).toNat : Int) - 48) = u
      rw [this]; omega

theorem dec_len : ∀ (k u : Nat), u < 10 ^ (k + 1) → (Lib.decDigits u).length ≤ k + 1
  | 0, u, h => by rw [Lib.decDigits, dif_pos (by omega)]; simp
  | k + 1, u, h => by
    rw [Lib.decDigits]
    split
    · simp
    · have : u / 10 < 10 ^ (k + 1) := by
        rw [Nat.pow_succ] at h; omega
      have := dec_len k (u / 10) this
      simp only [List.length_append, List.length_cons, List.length_nil]
      omega

theorem itoa_of {n : Int} (h : 0 ≤ n) : Lib.itoa n = Lib.decDigits n.toNat := by unfold Lib.itoa; rw [if_neg (by omega)]

theorem itoa_facts {n : Int} (h : 0 ≤ n) (h' : n < 1000000000000000000) : Lib.itoa n ≠ [] ∧ (∀ c ∈ Lib.itoa n, isD c = true) ∧ (Lib.itoa n).length ≤ 18 ∧ digs (Lib.itoa n) 0 = n := by
  rw [itoa_of h]
  refine ⟨(dec_digits _).2, (dec_digits _).1, dec_len 17 _ ?_, ?_⟩
  · have : (10 : Nat) ^ (17 + 1) = 1000000000000000000 := by decide
    omega
  · rw [dec_back]; omega

end AQ
end Go.Proofs.YtdmnlmohfaafoaeDoor
