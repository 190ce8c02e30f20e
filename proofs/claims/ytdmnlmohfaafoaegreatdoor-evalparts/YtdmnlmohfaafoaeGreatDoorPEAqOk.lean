/- Labels and matchers, plain: names, values, the order, the text, what is asked. No program in it. How labels, matchers and names lie in memory (names no function). (made by mkhd.py) The program's questions, plain: tokens, the reader that stops at the first thing that is wrong, and how a question is printed. Names no function. What questions come to, plain: series picked, points put together, the whole and its parts, time that moves. Names no function. The program's questions, plain: the tokens of what is printed. Names no function. The program's questions, plain: what is printed is read as just what it was. Names no function. The program's questions, plain: the tokens of what is printed are read as just what it was. Names no function. The program's questions, plain: what is read may be printed, in no more tokens; and what is printed is read again. Names no function. -/
import Derived.Test.YtdmnlmohfaafoaeGreatDoorRows
import Derived.Lib.Strings
import Derived.Test.YtdmnlmohfaafoaeGreatDoorPEHcMem
import Derived.WalkKit
import Derived.WalkSpells
import Derived.WalkLawsBesides
import Derived.Handy
import Derived.Laws.BitsAllLaws
import Derived.StillTailTactics
import Derived.BigQuiet
import Derived.Deep.Onto
import Derived.Laws.StructEq
import Derived.Laws.IdiomStrings
import Derived.Lib.ItoaNum
import Derived.Lib.Bytealg
import Derived.Lib.Join
import Derived.Test.YtdmnlmohfaafoaeGreatDoorPEChNum
namespace Go.Proofs.YtdmnlmohfaafoaeGreatDoor
namespace LB

/-- A label: what it is called, what it says. -/
abbrev Lab := ByteArray × ByteArray

/-- A matcher. -/
structure Mat where
  nm : ByteArray
  op : Int
  vl : ByteArray

def at' (l : List Lab) (i : Nat) : Lab := l.getD i default
def am (l : List Mat) (i : Nat) : Mat := l.getD i ⟨ByteArray.empty, 0, ByteArray.empty⟩
def an (l : List ByteArray) (i : Nat) : ByteArray := l.getD i ByteArray.empty

/-- The byte i of a text. -/
def byt (s : ByteArray) (i : Nat) : Nat := (s.data.toList.getD i 0).toNat

theorem byt_eq (s : ByteArray) (i : Nat) (h : i < s.size) : (s[i]'h).toNat = byt s i := by
  have h' : i < s.data.toList.length := by simpa using h
  unfold byt
  rw [List.getD_eq_getElem?_getD, List.getElem?_eq_getElem h']
  simp [ByteArray.getElem_eq_getElem_data]

theorem byt_lt (s : ByteArray) (i : Nat) : byt s i < 256 := UInt8.toNat_lt _

theorem toList_inj {x y : ByteArray} (h : x.toList = y.toList) : x = y := by
  rw [Lib.toList_data, Lib.toList_data] at h
  cases x; cases y
  simp only [Array.toList_inj] at h
  rw [h]

theorem toList_iff {x y : ByteArray} : x.toList = y.toList ↔ x = y := ⟨toList_inj, fun h => by rw [h]⟩

theorem beq_eq (x y : ByteArray) : (x.toList == y.toList) = decide (x = y) := by
  by_cases h : x = y
  · subst h; simp
  · rw [decide_eq_false h]
    simp only [beq_eq_false_iff_ne, ne_eq]
    exact fun h' => h (toList_inj h')

abbrev lt (x y : ByteArray) : Bool := Op.bytesLess x.toList y.toList

theorem less_irr : ∀ a : List UInt8, Op.bytesLess a a = false
  | [] => rfl
  | a :: x => by simp [Op.bytesLess, less_irr x]

theorem less_tr : ∀ a b c : List UInt8, Op.bytesLess a b = true → Op.bytesLess b c = true → Op.bytesLess a c = true
  | _, [], _, h, _ => by simp [Op.bytesLess] at h
  | _, _ :: _, [], _, h => by simp [Op.bytesLess] at h
  | [], _ :: _, _ :: _, _, _ => by simp [Op.bytesLess]
  | a :: x, b :: y, c :: z, h1, h2 => by
    simp only [Op.bytesLess, Bool.or_eq_true, decide_eq_true_eq, Bool.and_eq_true, beq_iff_eq] at h1 h2 ⊢
    rcases h1 with h1 | ⟨rfl, h1⟩
    · rcases h2 with h2 | ⟨rfl, h2⟩
      · exact .inl (UInt8.lt_trans h1 h2)
      · exact .inl h1
    · rcases h2 with h2 | ⟨rfl, h2⟩
      · exact .inl h2
      · exact .inr ⟨rfl, less_tr x y z h1 h2⟩

theorem less_tri : ∀ a b : List UInt8, Op.bytesLess a b = false → Op.bytesLess b a = false → a = b
  | [], [], _, _ => rfl
  | [], _ :: _, h, _ => by simp [Op.bytesLess] at h
  | _ :: _, [], _, h => by simp [Op.bytesLess] at h
  | a :: x, b :: y, h1, h2 => by
    simp only [Op.bytesLess, Bool.or_eq_false_iff, decide_eq_false_iff_not, Bool.and_eq_false_imp, beq_iff_eq] at h1 h2
    have e : a = b := UInt8.le_antisymm (UInt8.not_lt.1 h2.1) (UInt8.not_lt.1 h1.1)
    subst e
    rw [less_tri x y (h1.2 rfl) (h2.2 rfl)]

/-- An order told by three numbers. -/
structure Ord3 {α : Type} (c : α → α → Int) : Prop where
  rng : ∀ x y, c x y = -1 ∨ c x y = 0 ∨ c x y = 1
  anti : ∀ x y, c y x = - c x y
  zero : ∀ x y, c x y = 0 ↔ x = y
  tr : ∀ x y z, c x y = -1 → c y z = -1 → c x z = -1

def cB (x y : ByteArray) : Int := if lt x y = true then -1 else if x = y then 0 else 1

theorem cB_ord : Ord3 cB where
  rng x y := by unfold cB; split; · simp
                split <;> simp
  anti x y := by
    unfold cB
    by_cases h1 : lt x y = true
    · have h2 : ¬ lt y x = true := fun h => by have := less_tr _ _ _ h1 h; rw [less_irr] at this; cases this
      have h3 : ¬ y = x := fun h => by subst h; exact Bool.noConfusion ((less_irr y.toList).symm.trans h1)
      rw [if_pos h1, if_neg h2, if_neg h3]; rfl
    · by_cases h2 : x = y
      · subst h2; rw [if_neg h1, if_pos rfl]; rfl
      · by_cases h3 : lt y x = true
        · rw [if_pos h3, if_neg h1, if_neg h2]
        · exact absurd (toList_inj (less_tri _ _ (by simpa using h1) (by simpa using h3))) h2
  zero x y := by
    unfold cB
    by_cases h1 : lt x y = true
    · rw [if_pos h1]
      refine ⟨fun h => by omega, fun h => ?_⟩
      subst h; exact Bool.noConfusion ((less_irr x.toList).symm.trans h1)
    · rw [if_neg h1]
      by_cases h2 : x = y
      · rw [if_pos h2]; simp [h2]
      · rw [if_neg h2]; simp [h2]
  tr x y z h1 h2 := by
    have key : ∀ a b, cB a b = -1 → lt a b = true := fun a b h => by
      unfold cB at h
      by_cases h1 : lt a b = true
      · exact h1
      · rw [if_neg h1] at h; split at h <;> omega
    unfold cB
    rw [if_pos (less_tr _ _ _ (key _ _ h1) (key _ _ h2))]

def cL (p q : Lab) : Int := if cB p.1 q.1 = 0 then cB p.2 q.2 else cB p.1 q.1

theorem cL_ord : Ord3 cL where
  rng p q := by unfold cL; split; · exact cB_ord.rng _ _
                exact cB_ord.rng _ _
  anti p q := by
    unfold cL
    have h1 := cB_ord.anti p.1 q.1
    have h2 := cB_ord.anti p.2 q.2
    by_cases h : cB p.1 q.1 = 0
    · rw [if_pos h, if_pos (by omega), h2]
    · rw [if_neg h, if_neg (by omega), h1]
  zero p q := by
    unfold cL
    have h1 := cB_ord.zero p.1 q.1
    have h2 := cB_ord.zero p.2 q.2
    by_cases h : cB p.1 q.1 = 0
    · rw [if_pos h, h2]
      refine ⟨fun h' => Prod.ext (h1.1 h) h', fun h' => by rw [h']⟩
    · rw [if_neg h]
      refine ⟨fun h' => absurd h' h, fun h' => ?_⟩
      exact absurd (h1.2 (by rw [h'])) h
  tr p q r h1 h2 := by
    unfold cL at h1 h2 ⊢
    by_cases a : cB p.1 q.1 = 0
    · rw [if_pos a] at h1
      have ea := (cB_ord.zero _ _).1 a
      by_cases b : cB q.1 r.1 = 0
      · rw [if_pos b] at h2
        have eb := (cB_ord.zero _ _).1 b
        rw [if_pos ((cB_ord.zero _ _).2 (ea.trans eb))]
        exact cB_ord.tr _ _ _ h1 h2
      · rw [if_neg b] at h2
        rw [ea, if_neg b]; exact h2
    · rw [if_neg a] at h1
      by_cases b : cB q.1 r.1 = 0
      · have eb := (cB_ord.zero _ _).1 b
        rw [← eb, if_neg a]; exact h1
      · rw [if_neg b] at h2
        have := cB_ord.tr _ _ _ h1 h2
        rw [if_neg (by omega)]; exact this

def lx {α : Type} (c : α → α → Int) : List α → List α → Int
  | [], [] => 0
  | [], _ :: _ => -1
  | _ :: _, [] => 1
  | x :: a, y :: b => if c x y = 0 then lx c a b else c x y

theorem lx_ord {α : Type} {c : α → α → Int} (o : Ord3 c) : Ord3 (lx c) where
  rng := by
    intro a
    induction a with
    | nil => intro b; cases b <;> simp [lx]
    | cons x a ih =>
      intro b
      cases b with
      | nil => simp [lx]
      | cons y b =>
        simp only [lx]
        split
        · exact ih b
        · exact o.rng x y
  anti := by
    intro a
    induction a with
    | nil => intro b; cases b <;> simp [lx]
    | cons x a ih =>
      intro b
      cases b with
      | nil => simp [lx]
      | cons y b =>
        simp only [lx]
        have h1 := o.anti x y
        by_cases h : c x y = 0
        · rw [if_pos h, if_pos (by omega), ih b]
        · rw [if_neg h, if_neg (by omega), h1]
  zero := by
    intro a
    induction a with
    | nil => intro b; cases b <;> simp [lx]
    | cons x a ih =>
      intro b
      cases b with
      | nil => simp [lx]
      | cons y b =>
        simp only [lx, List.cons.injEq]
        have h1 := o.zero x y
        by_cases h : c x y = 0
        · rw [if_pos h, ih b]; simp [h1.1 h]
        · rw [if_neg h]
          exact ⟨fun h' => absurd h' h, fun h' => absurd (h1.2 h'.1) h⟩
  tr := by
    intro a
    induction a with
    | nil =>
      intro b d h1 h2
      cases b with
      | nil => simp [lx] at h1
      | cons y b => cases d with
        | nil => simp [lx] at h2
        | cons z d => simp [lx]
    | cons x a ih =>
      intro b d h1 h2
      cases b with
      | nil => simp [lx] at h1
      | cons y b => cases d with
        | nil => simp [lx] at h2
        | cons z d =>
          simp only [lx] at h1 h2 ⊢
          by_cases p : c x y = 0
          · rw [if_pos p] at h1
            have ep := (o.zero _ _).1 p
            subst ep
            by_cases q : c x z = 0
            · rw [if_pos q] at h2 ⊢
              exact ih b d h1 h2
            · rw [if_neg q] at h2 ⊢; exact h2
          · rw [if_neg p] at h1
            by_cases q : c y z = 0
            · have eq := (o.zero _ _).1 q
              subst eq
              rw [if_neg p]; exact h1
            · rw [if_neg q] at h2
              have := o.tr _ _ _ h1 h2
              rw [if_neg (by omega)]; exact this

/-- The order of labels. -/
abbrev cmp (a b : List Lab) : Int := lx cL a b

theorem cmp_ord : Ord3 cmp := lx_ord cL_ord

theorem at_cons (x : Lab) (a : List Lab) (i : Nat) : at' (x :: a) (i + 1) = at' a i := by simp [at']

theorem at_mem (l : List Lab) (i : Nat) (h : i < l.length) : at' l i ∈ l := by
  unfold at'
  rw [List.getD_eq_getElem?_getD, List.getElem?_eq_getElem h]
  exact List.getElem_mem h

theorem am_mem (l : List Mat) (i : Nat) (h : i < l.length) : am l i ∈ l := by
  unfold am
  rw [List.getD_eq_getElem?_getD, List.getElem?_eq_getElem h]
  exact List.getElem_mem h

/-- As long as all are alike, the order is that of the rest. -/
theorem cmp_drop : ∀ (a b : List Lab) (i : Nat), i ≤ a.length → i ≤ b.length → (∀ j, j < i → cL (at' a j) (at' b j) = 0) → cmp a b = cmp (a.drop i) (b.drop i)
  | _, _, 0, _, _, _ => rfl
  | [], _, i + 1, h, _, _ => by simp at h
  | _ :: _, [], i + 1, _, h, _ => by simp at h
  | x :: a, y :: b, i + 1, h1, h2, h => by
    have h0 : cL x y = 0 := h 0 (by omega)
    have ih := cmp_drop a b i (by simpa using h1) (by simpa using h2) (fun j hj => by have := h (j + 1) (by omega); rwa [at_cons, at_cons] at this)
    simp only [List.drop_succ_cons]
    rw [← ih]
    show (if cL x y = 0 then _ else _) = _
    rw [if_pos h0]

theorem drop_at (a : List Lab) (i : Nat) (h : i < a.length) : a.drop i = at' a i :: a.drop (i + 1) := by
  rw [List.drop_eq_getElem_cons h]
  congr 1
  unfold at'
  rw [List.getD_eq_getElem?_getD, List.getElem?_eq_getElem h]
  rfl

theorem cmp_at (a b : List Lab) (i : Nat) (h1 : i < a.length) (h2 : i < b.length) (h : ∀ j, j < i → cL (at' a j) (at' b j) = 0) (hi : cL (at' a i) (at' b i) ≠ 0) : cmp a b = cL (at' a i) (at' b i) := by
  rw [cmp_drop a b i (by omega) (by omega) h, drop_at a i h1, drop_at b i h2]
  show (if _ = 0 then _ else _) = _
  rw [if_neg hi]

theorem cmp_long (a b : List Lab) (i : Nat) (h1 : i < a.length) (h2 : i = b.length) (h : ∀ j, j < i → cL (at' a j) (at' b j) = 0) : cmp a b = 1 := by
  rw [cmp_drop a b i (by omega) (by omega) h, drop_at a i h1, show b.drop i = [] from List.drop_eq_nil_of_le (by omega)]
  rfl

theorem cmp_short (a b : List Lab) (h2 : a.length < b.length) (h : ∀ j, j < a.length → cL (at' a j) (at' b j) = 0) : cmp a b = -1 := by
  rw [cmp_drop a b a.length (by omega) (by omega) h, drop_at b _ h2, List.drop_eq_nil_of_le (by omega)]
  rfl

theorem cmp_same (a b : List Lab) (h2 : a.length = b.length) (h : ∀ j, j < a.length → cL (at' a j) (at' b j) = 0) : cmp a b = 0 := by
  rw [cmp_drop a b a.length (by omega) (by omega) h, List.drop_eq_nil_of_le (by omega), List.drop_eq_nil_of_le (by omega)]
  rfl

def letter (n : Nat) : Bool := decide (65 ≤ n ∧ n ≤ 90 ∨ 97 ≤ n ∧ n ≤ 122 ∨ n = 95)
def digit (n : Nat) : Bool := decide (48 ≤ n ∧ n ≤ 57)
def okN (i n : Nat) : Bool := letter n || (decide (i ≠ 0) && digit n)
def okV (n : Nat) : Bool := decide (32 ≤ n ∧ n ≤ 126 ∧ n ≠ 34 ∧ n ≠ 92)

/-- A name. -/
def name (s : ByteArray) : Bool := decide (1 ≤ s.size ∧ s.size ≤ 24 ∧ ∀ i, i < s.size → okN i (byt s i) = true)
/-- A value. -/
def valu (s : ByteArray) : Bool := decide (s.size ≤ 24 ∧ ∀ i, i < s.size → okV (byt s i) = true)

abbrev okL (l : List Lab) (i : Nat) : Prop := name (at' l i).1 = true ∧ valu (at' l i).2 = true ∧ (at' l i).2 ≠ ByteArray.empty ∧ (0 < i → lt (at' l (i - 1)).1 (at' l i).1 = true)

/-- Labels that may be a series'. -/
def right (l : List Lab) : Bool := decide (1 ≤ l.length ∧ l.length ≤ 8 ∧ ∀ i, i < l.length → okL l i)

/-- What the first label of that name says. -/
def get : List Lab → ByteArray → ByteArray
  | [], _ => ByteArray.empty
  | p :: l, n => if p.1 = n then p.2 else get l n

theorem get_hit : ∀ (l : List Lab) (n : ByteArray) (i : Nat), i < l.length → (∀ j, j < i → (at' l j).1 ≠ n) → (at' l i).1 = n → get l n = (at' l i).2
  | [], _, _, h, _, _ => by simp at h
  | p :: l, n, 0, _, _, h => by
    have h' : p.1 = n := h
    show (if p.1 = n then _ else _) = _
    rw [if_pos h']; rfl
  | p :: l, n, i + 1, h, ha, hi => by
    have h0 : p.1 ≠ n := ha 0 (by omega)
    show (if p.1 = n then _ else _) = _
    rw [if_neg h0, at_cons]
    exact get_hit l n i (by simpa using h) (fun j hj => by have := ha (j + 1) (by omega); rwa [at_cons] at this) (by rwa [at_cons] at hi)

theorem get_none : ∀ (l : List Lab) (n : ByteArray), (∀ j, j < l.length → (at' l j).1 ≠ n) → get l n = ByteArray.empty
  | [], _, _ => rfl
  | p :: l, n, ha => by
    have h0 : p.1 ≠ n := ha 0 (by simp)
    show (if p.1 = n then _ else _) = _
    rw [if_neg h0]
    exact get_none l n (fun j hj => by have := ha (j + 1) (by simpa using hj); rwa [at_cons] at this)

/-- Is it one of them? -/
def hasN (ns : List ByteArray) (x : ByteArray) : Bool := ns.any fun n => decide (n = x)

theorem an_mem (l : List ByteArray) (i : Nat) (h : i < l.length) : an l i ∈ l := by
  unfold an
  rw [List.getD_eq_getElem?_getD, List.getElem?_eq_getElem h]
  exact List.getElem_mem h

theorem hasN_hit (ns : List ByteArray) (x : ByteArray) (i : Nat) (h : i < ns.length) (e : an ns i = x) : hasN ns x = true := by
  unfold hasN
  rw [List.any_eq_true]
  exact ⟨an ns i, an_mem ns i h, decide_eq_true e⟩

theorem hasN_none (ns : List ByteArray) (x : ByteArray) (h : ∀ i, i < ns.length → an ns i ≠ x) : hasN ns x = false := by
  unfold hasN
  rw [List.any_eq_false]
  intro y hy
  obtain ⟨i, hi, rfl⟩ := List.mem_iff_getElem.1 hy
  have := h i hi
  unfold an at this
  rw [List.getD_eq_getElem?_getD, List.getElem?_eq_getElem hi] at this
  simpa using this

/-- Those of some names. -/
def only (l : List Lab) (ns : List ByteArray) : List Lab := l.filter fun p => hasN ns p.1

theorem take_at (l : List Lab) (i : Nat) (h : i < l.length) : l.take (i + 1) = l.take i ++ [at' l i] := by
  rw [List.take_succ_eq_append_getElem h]
  congr 2
  unfold at'
  rw [List.getD_eq_getElem?_getD, List.getElem?_eq_getElem h]
  rfl

theorem only_in (l : List Lab) (ns : List ByteArray) (i : Nat) (h : i < l.length) (hi : hasN ns (at' l i).1 = true) : only (l.take (i + 1)) ns = only (l.take i) ns ++ [at' l i] := by
  rw [take_at l i h]
  simp [only, hi]

theorem only_out (l : List Lab) (ns : List ByteArray) (i : Nat) (h : i < l.length) (hi : hasN ns (at' l i).1 = false) : only (l.take (i + 1)) ns = only (l.take i) ns := by
  rw [take_at l i h]
  simp [only, hi]

/-- A matcher that may be. -/
def askd (m : Mat) : Bool := name m.nm && valu m.vl && decide (0 ≤ m.op ∧ m.op ≤ 3)
def asked (l : List Mat) : Bool := decide (l.length ≤ 8) && l.all askd

/-- Does it begin so? -/
def begins (v x : ByteArray) : Bool := decide (x.size ≤ v.size) && decide (v.extract 0 x.size = x)

def one (l : List Lab) (m : Mat) : Bool :=
  if m.op = 0 then decide (get l m.nm = m.vl)
  else if m.op = 1 then !decide (get l m.nm = m.vl)
  else if m.op = 2 then begins (get l m.nm) m.vl
  else if m.op = 3 then !begins (get l m.nm) m.vl
  else false

def all (l : List Lab) (ms : List Mat) : Bool := ms.all (one l)

/-- A label as it is written. -/
def item (p : Lab) : List UInt8 := p.1.data.toList ++ 61 :: 34 :: (p.2.data.toList ++ [34])

def tb : List Lab → List UInt8
  | [] => [123]
  | p :: l => 123 :: (item p ++ l.flatMap fun q => 44 :: item q)

theorem tb_snoc (l : List Lab) (q : Lab) : tb (l ++ [q]) = tb l ++ ((if l.length = 0 then [] else [44]) ++ item q) := by
  cases l with
  | nil => simp [tb]
  | cons p l => simp [tb]

/-- Labels as they are written. -/
def tx (l : List Lab) : List UInt8 := tb l ++ [125]

theorem split_at (c : UInt8) : ∀ (a b x y : List UInt8), c ∉ a → c ∉ b → a ++ c :: x = b ++ c :: y → a = b ∧ x = y
  | [], [], x, y, _, _, h => by simpa using h
  | [], q :: b, x, y, _, hb, h => by
    simp only [List.nil_append, List.cons_append, List.cons.injEq] at h
    exact absurd (by rw [h.1]; simp) hb
  | p :: a, [], x, y, ha, _, h => by
    simp only [List.nil_append, List.cons_append, List.cons.injEq] at h
    exact absurd (by rw [h.1]; simp) ha
  | p :: a, q :: b, x, y, ha, hb, h => by
    simp only [List.cons_append, List.cons.injEq] at h
    obtain ⟨h1, h2⟩ := split_at c a b x y (fun h' => ha (by simp [h'])) (fun h' => hb (by simp [h'])) h.2
    exact ⟨by rw [h.1, h1], h2⟩

theorem byt_of_mem (s : ByteArray) (c : UInt8) (h : c ∈ s.data.toList) : ∃ i, i < s.size ∧ byt s i = c.toNat := by
  obtain ⟨i, hi, rfl⟩ := List.mem_iff_getElem.1 h
  refine ⟨i, by simpa using hi, ?_⟩
  unfold byt
  rw [List.getD_eq_getElem?_getD, List.getElem?_eq_getElem hi]
  rfl

theorem name_no (s : ByteArray) (h : name s = true) : (61 : UInt8) ∉ s.data.toList := by
  intro hm
  obtain ⟨i, hi, hb⟩ := byt_of_mem s _ hm
  have := (of_decide_eq_true h).2.2 i hi
  rw [hb] at this
  revert this
  simp [okN, letter, digit]

theorem valu_no (s : ByteArray) (h : valu s = true) : (34 : UInt8) ∉ s.data.toList := by
  intro hm
  obtain ⟨i, hi, hb⟩ := byt_of_mem s _ hm
  have := (of_decide_eq_true h).2 i hi
  rw [hb] at this
  revert this
  simp [okV]

theorem item_inj (p q : Lab) (x y : List UInt8) (hp : name p.1 = true ∧ valu p.2 = true) (hq : name q.1 = true ∧ valu q.2 = true) (h : item p ++ x = item q ++ y) : p = q ∧ x = y := by
  unfold item at h
  simp only [List.append_assoc, List.cons_append] at h
  obtain ⟨h1, h2⟩ := split_at 61 _ _ _ _ (name_no _ hp.1) (name_no _ hq.1) h
  simp only [List.cons.injEq, true_and] at h2
  obtain ⟨h3, h4⟩ := split_at 34 _ _ _ _ (valu_no _ hp.2) (valu_no _ hq.2) h2
  exact ⟨Prod.ext (toList_inj (by rw [Lib.toList_data, Lib.toList_data, h1])) (toList_inj (by rw [Lib.toList_data, Lib.toList_data, h3])), by simpa using h4⟩

theorem tail_inj : ∀ (a b : List Lab), (∀ p ∈ a, name p.1 = true ∧ valu p.2 = true) → (∀ p ∈ b, name p.1 = true ∧ valu p.2 = true) → (a.flatMap fun q => 44 :: item q) ++ [125] = (b.flatMap fun q => 44 :: item q) ++ [125] → a = b
  | [], [], _, _, _ => rfl
  | [], q :: b, _, _, h => by simp at h
  | p :: a, [], _, _, h => by simp at h
  | p :: a, q :: b, ha, hb, h => by
    simp only [List.flatMap_cons, List.append_assoc, List.cons_append, List.cons.injEq, true_and] at h
    obtain ⟨h1, h2⟩ := item_inj p q _ _ (ha p (by simp)) (hb q (by simp)) h
    rw [h1, tail_inj a b (fun r hr => ha r (by simp [hr])) (fun r hr => hb r (by simp [hr])) h2]

theorem right_mem (a : List Lab) (h : right a = true) : ∀ p ∈ a, name p.1 = true ∧ valu p.2 = true := by
  intro p hp
  obtain ⟨i, hi, rfl⟩ := List.mem_iff_getElem.1 hp
  have := (of_decide_eq_true h).2.2 i hi
  have e : at' a i = a[i] := by unfold at'; rw [List.getD_eq_getElem?_getD, List.getElem?_eq_getElem hi]; rfl
  rw [← e]
  exact ⟨this.1, this.2.1⟩

/-- Two are written the same just if they are the same. -/
theorem tx_inj (a b : List Lab) (ha : right a = true) (hb : right b = true) : tx a = tx b ↔ cmp a b = 0 := by
  rw [cmp_ord.zero]
  refine ⟨fun h => ?_, fun h => by rw [h]⟩
  have ha' := right_mem a ha
  have hb' := right_mem b hb
  have la : 1 ≤ a.length := (of_decide_eq_true ha).1
  have lb : 1 ≤ b.length := (of_decide_eq_true hb).1
  cases a with
  | nil => simp at la
  | cons p a => cases b with
    | nil => simp at lb
    | cons q b =>
      simp only [tx, tb, List.cons_append, List.append_assoc, List.cons.injEq, true_and] at h
      obtain ⟨h1, h2⟩ := item_inj p q _ _ (ha' p (by simp)) (hb' q (by simp)) h
      rw [h1, tail_inj a b (fun r hr => ha' r (by simp [hr])) (fun r hr => hb' r (by simp [hr])) h2]

/-- The opposite of what is asked. -/
def opp (n : Int) : Int := if n = 0 then 1 else if n = 1 then 0 else if n = 2 then 3 else 2

theorem one_opp (l : List Lab) (m : Mat) (h : 0 ≤ m.op ∧ m.op ≤ 3) : one l { m with op := opp m.op } = !one l m := by
  obtain ⟨nm, op, vl⟩ := m
  have h4 : op = 0 ∨ op = 1 ∨ op = 2 ∨ op = 3 := by simp only at h; omega
  rcases h4 with rfl | rfl | rfl | rfl <;> simp [one, opp]

theorem all_append (l : List Lab) (a b : List Mat) : all l (a ++ b) = (all l a && all l b) := by simp [all]

end LB
end Go.Proofs.YtdmnlmohfaafoaeGreatDoor

namespace Go.Proofs.YtdmnlmohfaafoaeGreatDoor
open Go.RowKit

theorem ret_str {a b : ByteArray} (h : a = b) : Ending.returned (.string a) = .returned (.string b) := by rw [h]

theorem lbelow_drewN {B : Nat} {a w : World} (h : Below B a w) (n : Nat) : Below B a (w.drewN n) := ⟨h.os, h.tape, h.output, h.size, h.block⟩

theorem own_heap {w w' : World} {base n size : Nat} {e : TypeId} {v : Value} {xs : List Value} (h : w.ownsRow base e size v n xs) (hh : w'.heap = w.heap) : w'.ownsRow base e size v n xs := by
  unfold World.ownsRow at h ⊢
  rw [hh]; exact h

/-- The labels l lie from ao on. -/
def LRow (w : World) (ao : Option Addr) (l : List LB.Lab) : Prop :=
  ∀ i, i < l.length → ∃ b off, ao = some ⟨b, off, none⟩ ∧ w.cell? ⟨b, off + i * 2, none⟩ = some (.string (LB.at' l i).1) ∧ w.cell? ⟨b, off + i * 2 + 1, none⟩ = some (.string (LB.at' l i).2) ∧ b < w.heap.size

theorem LRow.below {w w' : World} {ao : Option Addr} {l : List LB.Lab} (h : LRow w ao l) (hb : Below w.heap.size w w') : LRow w' ao l := by
  intro i hi
  obtain ⟨b, off, h1, h2, h3, h4⟩ := h i hi
  exact ⟨b, off, h1, (hb.cell (p := ⟨b, _, none⟩) h4).trans h2, (hb.cell (p := ⟨b, _, none⟩) h4).trans h3, Nat.lt_of_lt_of_le h4 hb.size⟩

/-- The matchers m lie from ao on. -/
def MRow (w : World) (ao : Option Addr) (m : List LB.Mat) : Prop :=
  ∀ i, i < m.length → ∃ b off, ao = some ⟨b, off, none⟩ ∧ w.cell? ⟨b, off + i * 3, none⟩ = some (.string (LB.am m i).nm) ∧ w.cell? ⟨b, off + i * 3 + 1, none⟩ = some (.int .i64 (LB.am m i).op) ∧ w.cell? ⟨b, off + i * 3 + 2, none⟩ = some (.string (LB.am m i).vl) ∧ b < w.heap.size

theorem MRow.below {w w' : World} {ao : Option Addr} {l : List LB.Mat} (h : MRow w ao l) (hb : Below w.heap.size w w') : MRow w' ao l := by
  intro i hi
  obtain ⟨b, off, h1, h2, h3, h5, h4⟩ := h i hi
  exact ⟨b, off, h1, (hb.cell (p := ⟨b, _, none⟩) h4).trans h2, (hb.cell (p := ⟨b, _, none⟩) h4).trans h3, (hb.cell (p := ⟨b, _, none⟩) h4).trans h5, Nat.lt_of_lt_of_le h4 hb.size⟩

/-- The texts n lie from ao on. -/
def NRow (w : World) (ao : Option Addr) (n : List ByteArray) : Prop :=
  ∀ i, i < n.length → ∃ b off, ao = some ⟨b, off, none⟩ ∧ w.cell? ⟨b, off + i, none⟩ = some (.string (LB.an n i)) ∧ b < w.heap.size

theorem NRow.below {w w' : World} {ao : Option Addr} {l : List ByteArray} (h : NRow w ao l) (hb : Below w.heap.size w w') : NRow w' ao l := by
  intro i hi
  obtain ⟨b, off, h1, h2, h4⟩ := h i hi
  exact ⟨b, off, h1, (hb.cell (p := ⟨b, _, none⟩) h4).trans h2, Nat.lt_of_lt_of_le h4 hb.size⟩

/-- The cells of labels. -/
def lv (l : List LB.Lab) : List Value := l.flatMap fun s => [.string s.1, .string s.2]

theorem lv_append (a b : List LB.Lab) : lv (a ++ b) = lv a ++ lv b := by simp [lv]

theorem lv_length (l : List LB.Lab) : (lv l).length = l.length * 2 := by
  induction l with
  | nil => rfl
  | cons s l ih => simp only [lv, List.flatMap_cons, List.length_append, List.length_cons, List.length_nil] at ih ⊢; omega

theorem lv_get (l : List LB.Lab) : ∀ i, i < l.length → (lv l)[i * 2]? = some (.string (LB.at' l i).1) ∧ (lv l)[i * 2 + 1]? = some (.string (LB.at' l i).2) := by
  induction l with
  | nil => intro i hi; simp at hi
  | cons s l ih =>
    intro i hi
    match i with
    | 0 => exact ⟨rfl, rfl⟩
    | i + 1 =>
      obtain ⟨h1, h2⟩ := ih i (by simpa using hi)
      have e : lv (s :: l) = .string s.1 :: .string s.2 :: lv l := rfl
      have e1 : (i + 1) * 2 = i * 2 + 2 := by omega
      rw [e, e1, LB.at_cons]
      exact ⟨h1, h2⟩

/-- A row of labels that was made, read as one that is there. -/
theorem LRow.of_own {w : World} {base : Nat} {v : Value} {l : List LB.Lab} (h : w.ownsRow base 105 2 v l.length (lv l)) : ∃ ao cap, v = .slice ao l.length cap ∧ LRow w ao l := by
  have hlt := h.lt
  have h0 := h
  obtain ⟨h1, h2⟩ := h
  rcases h2 with ⟨rfl, hn⟩ | ⟨g, cap, cur, rfl, hg, hh, r⟩
  · refine ⟨none, 0, by rw [hn], fun i hi => by omega⟩
  · refine ⟨some ⟨g, 0, none⟩, cap, rfl, fun i hi => ⟨g, 0, rfl, ?_, ?_, (hlt g rfl).2⟩⟩
    · rw [Nat.zero_add, h0.cellAt (i * 2) (by omega)]; exact (lv_get l i hi).1
    · rw [Nat.zero_add, h0.cellAt (i * 2 + 1) (by omega)]; exact (lv_get l i hi).2

/-- The label i of a row that stands still. -/
theorem LRow.at {w wr : World} {b off : Nat} {l : List LB.Lab} (h : LRow w (some ⟨b, off, none⟩) l) (hb : Below w.heap.size w wr) (i : Nat) (hi : i < l.length) :
    wr.cell? ⟨b, off + i * 2, none⟩ = some (.string (LB.at' l i).1) ∧ wr.cell? ⟨b, off + i * 2 + 1, none⟩ = some (.string (LB.at' l i).2) := by
  obtain ⟨b', off', hao, hc0, hc1, hbs⟩ := h i hi
  simp only [Option.some.injEq, Addr.mk.injEq, and_true] at hao
  obtain ⟨rfl, rfl⟩ := hao
  exact ⟨(hb.cell (p := ⟨b, _, none⟩) hbs).trans hc0, (hb.cell (p := ⟨b, _, none⟩) hbs).trans hc1⟩

theorem LRow.some {w : World} {ao : Option Addr} {l : List LB.Lab} (h : LRow w ao l) (hl : 0 < l.length) : ∃ b off, ao = some ⟨b, off, none⟩ ∧ b < w.heap.size := by
  obtain ⟨b, off, e, _, _, hb⟩ := h 0 hl
  exact ⟨b, off, e, hb⟩

/-- The matchers from i on, as many as are wanted. -/
theorem MRow.slice {w : World} {b off : Nat} {m : List LB.Mat} (h : MRow w (some ⟨b, off, none⟩) m) (i : Nat) (hi : i < m.length) : MRow w (some ⟨b, off + i * 3, none⟩) [LB.am m i] := by
  intro j hj
  have hj0 : j = 0 := by simpa using hj
  subst hj0
  obtain ⟨b', off', hao, hc0, hc1, hc2, hbs⟩ := h i hi
  simp only [Option.some.injEq, Addr.mk.injEq, and_true] at hao
  obtain ⟨rfl, rfl⟩ := hao
  exact ⟨b, off + i * 3, rfl, hc0, hc1, hc2, hbs⟩

end Go.Proofs.YtdmnlmohfaafoaeGreatDoor

namespace Go.Proofs.YtdmnlmohfaafoaeGreatDoor
namespace AQ

/-- A token: kinds 0 WORD, 1 NUMBER, 2 TEXT, 3 mark, 4 the end. -/
structure Tok where
  kind : Int
  said : ByteArray
  place : Int

/-- A question. -/
inductive Q where
  | none
  | mk (code num : Int) (m : List LB.Mat) (span : Int) (names : List ByteArray) (left right : Q)

/-- What is read, and what is left; or what is wrong, and where. -/
inductive Res (α : Type) where
  | ok (a : α) (l : List Tok)
  | bad (e p : Int)

def Res.andThen {α β : Type} (r : Res α) (f : α → List Tok → Res β) : Res β := match r with
  | .ok a l => f a l
  | .bad e p => .bad e p

def noTok : Tok := ⟨4, ⟨#[]⟩, 0⟩
def hd (l : List Tok) : Tok := l.headD noTok
def has (x : ByteArray) (l : List Tok) : Bool := decide ((hd l).said = x)
def need (x : ByteArray) (l : List Tok) : Res Unit := if has x l then .ok () l.tail else .bad 3 (hd l).place
def needK (k : Int) (l : List Tok) : Res Tok := if (hd l).kind = k then .ok (hd l) l.tail else .bad 3 (hd l).place
def nameR (l : List Tok) : Res ByteArray := (needK 0 l).andThen fun t r => if LB.name t.said then .ok t.said r else .bad 4 t.place

def ops : List ByteArray := [⟨#[61]⟩, ⟨#[33, 61]⟩, ⟨#[94, 61]⟩, ⟨#[33, 94]⟩]
def opFrom (l : List Tok) : List ByteArray → Int → Res Int
  | [], _ => .bad 3 (hd l).place
  | x :: r, i => if has x l then .ok i l.tail else opFrom l r (i + 1)
def opR (l : List Tok) : Res Int := opFrom l ops 0

def valOf (t : Tok) : ByteArray := t.said.extract 1 (t.said.size - 1)
def matR (l : List Tok) : Res LB.Mat := (nameR l).andThen fun n r => (opR r).andThen fun o r' => (needK 2 r').andThen fun t r'' => if LB.valu (valOf t) then .ok ⟨n, o, valOf t⟩ r'' else .bad 4 t.place

def loopM : Nat → List Tok → List LB.Mat → Res (List LB.Mat)
  | 0, _, _ => .bad 0 0
  | f + 1, l, out => if out.length = 8 then .bad 4 (hd l).place else (matR l).andThen fun m r => if has ⟨#[44]⟩ r then loopM f r.tail (out ++ [m]) else (need ⟨#[125]⟩ r).andThen fun _ r' => .ok (out ++ [m]) r'
def someR (l : List Tok) : Res (List LB.Mat) := (need ⟨#[123]⟩ l).andThen fun _ r => if has ⟨#[125]⟩ r then .ok [] r.tail else loopM 9 r []

/-- The number that digits are. -/
def digs : List UInt8 → Int → Int
  | [], n => n
  | c :: r, n => digs r (n * 10 + ((c.toNat : Int) - 48))
def numR (l : List Tok) : Res Int := (needK 1 l).andThen fun t r => .ok (digs t.said.data.toList 0) r
def spanR (l : List Tok) : Res Int := (numR l).andThen fun n r => if 1099511627776 < n then .bad 4 (hd l).place else .ok (max n 1) r

def loopN : Nat → List Tok → List ByteArray → Res (List ByteArray)
  | 0, _, _ => .bad 0 0
  | f + 1, l, out => (nameR l).andThen fun n r => if out.length = 8 then .bad 4 (hd l).place else if has ⟨#[44]⟩ r then loopN f r.tail (out ++ [n]) else (need ⟨#[41]⟩ r).andThen fun _ r' => .ok (out ++ [n]) r'
def namesR (l : List Tok) : Res (List ByteArray) := (need ⟨#[40]⟩ l).andThen fun _ r => loopN 9 r []

def words : List ByteArray := [⟨#[99, 111, 117, 110, 116]⟩, ⟨#[115, 117, 109]⟩, ⟨#[109, 105, 110]⟩, ⟨#[109, 97, 120]⟩, ⟨#[100, 101, 108, 116, 97]⟩, ⟨#[116, 111, 116, 97, 108]⟩, ⟨#[108, 101, 97, 115, 116]⟩, ⟨#[109, 111, 115, 116]⟩, ⟨#[109, 97, 110, 121]⟩]
def codeFrom (s : ByteArray) : List ByteArray → Int → Int
  | [], _ => 0
  | x :: r, i => if x = s then 3 + i else codeFrom s r (i + 1)
def codeOf (s : ByteArray) : Int := codeFrom s words 0

def overR (c : Int) (l : List Tok) : Res Q := (needK 0 l).andThen fun _ r1 => (need ⟨#[40]⟩ r1).andThen fun _ r2 => (someR r2).andThen fun m r3 => (need ⟨#[91]⟩ r3).andThen fun _ r4 => (spanR r4).andThen fun n r5 => (need ⟨#[93]⟩ r5).andThen fun _ r6 => (need ⟨#[41]⟩ r6).andThen fun _ r7 => .ok (.mk c 0 m n [] .none .none) r7
def ofR (sum : List Tok → Res Q) (c : Int) (l : List Tok) : Res Q := (needK 0 l).andThen fun _ r1 => (need ⟨#[40]⟩ r1).andThen fun _ r2 => (sum r2).andThen fun q r3 => (need ⟨#[41]⟩ r3).andThen fun _ r4 => if has ⟨#[98, 121]⟩ r4 then (namesR r4.tail).andThen fun nm r5 => .ok (.mk c 0 [] 0 nm q .none) r5 else .ok (.mk c 0 [] 0 [] q .none) r4

def chainR (below : List Tok → Res Q) (x y : ByteArray) (c : Int) : Nat → List Tok → Q → Res Q
  | 0, _, _ => .bad 0 0
  | f + 1, l, q => if has x l then (below l.tail).andThen fun b r => chainR below x y c f r (.mk c 0 [] 0 [] q b) else if has y l then (below l.tail).andThen fun b r => chainR below x y c f r (.mk (c + 1) 0 [] 0 [] q b) else .ok q l
def prodR (one : List Tok → Res Q) (l : List Tok) : Res Q := (one l).andThen fun q r => chainR one ⟨#[42]⟩ ⟨#[47]⟩ 15 (r.length + 1) r q
def sumR (one : List Tok → Res Q) (l : List Tok) : Res Q := (prodR one l).andThen fun q r => chainR (prodR one) ⟨#[43]⟩ ⟨#[45]⟩ 13 (r.length + 1) r q

/-- ONE, with so many more that it may stand in. -/
def oneR : Nat → List Tok → Res Q
  | 0, l => .bad 4 (hd l).place
  | d + 1, l =>
    if has ⟨#[45]⟩ l then (oneR d l.tail).andThen fun q r => .ok (.mk 12 0 [] 0 [] q .none) r
    else if has ⟨#[40]⟩ l then (sumR (oneR d) l.tail).andThen fun q r => (need ⟨#[41]⟩ r).andThen fun _ r' => .ok q r'
    else if has ⟨#[123]⟩ l then (someR l).andThen fun m r => .ok (.mk 2 0 m 300 [] .none .none) r
    else if (hd l).kind = 1 then (numR l).andThen fun n r => .ok (.mk 1 n [] 0 [] .none .none) r
    else if 3 ≤ codeOf (hd l).said ∧ codeOf (hd l).said ≤ 7 then overR (codeOf (hd l).said) l
    else if 8 ≤ codeOf (hd l).said ∧ codeOf (hd l).said ≤ 11 then ofR (sumR (oneR d)) (codeOf (hd l).said) l
    else .bad 3 (hd l).place

/-- All of it is read. -/
def whole {α : Type} (f : List Tok → Res α) (l : List Tok) : Res α := (f l).andThen fun a r => if (hd r).kind = 4 then .ok a r else .bad 3 (hd r).place

/- Tokens. -/

def marks : List (List UInt8) := [[33, 61], [94, 61], [33, 94], [61], [123], [125], [91], [93], [40], [41], [44], [43], [45], [42], [47]]
/-- How long the mark is that stands there (0: none). -/
def markFrom (r : List UInt8) : List (List UInt8) → Nat
  | [] => 0
  | m :: t => if m.isPrefixOf r then m.length else markFrom r t
def mark (r : List UInt8) : Nat := markFrom r marks

def isL (c : UInt8) : Bool := LB.letter c.toNat
def isD (c : UInt8) : Bool := LB.digit c.toNat
def quoted (t : List UInt8) : Nat := if Lib.indexByte t 34 < 0 then 0 else (Lib.indexByte t 34).toNat + 2

/-- The kind of the token that begins there, and how long it is (0: there is none such). -/
def lex : List UInt8 → Int × Nat
  | [] => (3, 0)
  | c :: t =>
    if isL c then (0, ((c :: t).takeWhile fun x => isL x || isD x).length)
    else if isD c then (1, ((c :: t).takeWhile isD).length)
    else if c = 34 then (2, quoted t)
    else (3, mark (c :: t))

theorem lex_cons (c : UInt8) (t : List UInt8) : lex (c :: t) = if isL c then (0, ((c :: t).takeWhile fun x => isL x || isD x).length) else if isD c then (1, ((c :: t).takeWhile isD).length) else if c = 34 then (2, quoted t) else (3, mark (c :: t)) := rfl

/-- The tokens of what is left, from a place on, behind those that are there already; or what is wrong. -/
def cutF : Nat → List UInt8 → Int → List Tok → List Tok ⊕ (Int × Int)
  | 0, _, _, _ => .inr (0, 0)
  | f + 1, r, p, out => match r with
    | [] => .inl (out ++ [⟨4, ⟨#[]⟩, p⟩])
    | c :: t =>
      if c = 32 then cutF f t (p + 1) out
      else if (lex (c :: t)).2 = 0 then .inr (3, p)
      else if ((lex (c :: t)).1 = 1 ∧ 18 < (lex (c :: t)).2) ∨ out.length = 120 then .inr (4, p)
      else cutF f ((c :: t).drop (lex (c :: t)).2) (p + (lex (c :: t)).2) (out ++ [⟨(lex (c :: t)).1, ⟨((c :: t).take (lex (c :: t)).2).toArray⟩, p⟩])
theorem cutF_cons (f : Nat) (c : UInt8) (t : List UInt8) (p : Int) (out : List Tok) : cutF (f + 1) (c :: t) p out = if c = 32 then cutF f t (p + 1) out else if (lex (c :: t)).2 = 0 then .inr (3, p) else if ((lex (c :: t)).1 = 1 ∧ 18 < (lex (c :: t)).2) ∨ out.length = 120 then .inr (4, p) else cutF f ((c :: t).drop (lex (c :: t)).2) (p + (lex (c :: t)).2) (out ++ [⟨(lex (c :: t)).1, ⟨((c :: t).take (lex (c :: t)).2).toArray⟩, p⟩]) := rfl
def cut (r : List UInt8) : List Tok ⊕ (Int × Int) := cutF (r.length + 1) r 0 []

/-- What a text is. -/
def read {α : Type} (f : List Tok → Res α) (r : List UInt8) : Res α := match cut r with
  | .inl l => whole f l
  | .inr (e, p) => .bad e p
def parse (r : List UInt8) : Res Q := read (sumR (oneR 9)) r
def matchR (r : List UInt8) : Res (List LB.Mat) := read someR r

/- How it is printed. -/

def opT (o : Int) : List UInt8 := if 0 ≤ o ∧ o < 4 then (ops.getD o.toNat ⟨#[]⟩).data.toList else []
def item (m : LB.Mat) : List UInt8 := m.nm.data.toList ++ opT m.op ++ [34] ++ m.vl.data.toList ++ [34]
def itemsT : List LB.Mat → List UInt8
  | [] => []
  | m :: r => item m ++ (r.flatMap fun x => 44 :: item x)
def matT (l : List LB.Mat) : List UInt8 := 123 :: itemsT l ++ [125]

def wgt (c : Int) : Nat := if c = 13 ∨ c = 14 then 0 else if c = 15 ∨ c = 16 then 1 else 2
def Q.code : Q → Int
  | .none => 0
  | .mk c .. => c
def wordT (c : Int) : List UInt8 := (words.getD (c - 3).toNat ⟨#[]⟩).data.toList
def signT (c : Int) : UInt8 := [43, 45, 42, 47].getD (c - 13).toNat 0
def byT (l : List ByteArray) : List UInt8 := if l = [] then [] else [32, 98, 121, 32, 40] ++ Lib.join (l.map (·.data.toList)) [44, 32] ++ [41]

def parT (k : Nat) (q : Q) (t : List UInt8) : List UInt8 := if k ≤ wgt q.code then t else 40 :: t ++ [41]

def txt : Q → List UInt8
  | .none => []
  | .mk c n m sp nm l r =>
    if c = 1 then Lib.itoa n
    else if c = 2 then matT m
    else if 3 ≤ c ∧ c ≤ 7 then wordT c ++ [40] ++ matT m ++ [91] ++ Lib.itoa sp ++ [93, 41]
    else if 8 ≤ c ∧ c ≤ 11 then wordT c ++ [40] ++ parT 0 l (txt l) ++ [41] ++ byT nm
    else if c = 12 then 45 :: parT 2 l (txt l)
    else if 13 ≤ c ∧ c ≤ 16 then parT (wgt c) l (txt l) ++ [32, signT c, 32] ++ parT (wgt c + 1) r (txt r)
    else []
def print (q : Q) : List UInt8 := parT 0 q (txt q)

end AQ
end Go.Proofs.YtdmnlmohfaafoaeGreatDoor

namespace Go.Proofs.YtdmnlmohfaafoaeGreatDoor
namespace EV
open CL (W Smp)

abbrev Sr := List LB.Lab × List Smp
/-- A point: labels, a number. -/
abbrev Pt := List LB.Lab × Int

/-- Points in their order, each once. -/
def Ord (l : List Pt) : Prop := l.Pairwise fun a b => LB.cmp a.1 b.1 = -1

theorem cmp_self (L : List LB.Lab) : LB.cmp L L = 0 := (LB.cmp_ord.zero L L).2 rfl
theorem cmp_gt {a b : List LB.Lab} (h : LB.cmp a b = 1) : LB.cmp b a = -1 := by rw [LB.cmp_ord.anti, h]
theorem cmp_lt {a b : List LB.Lab} (h : LB.cmp a b = -1) : LB.cmp b a = 1 := by rw [LB.cmp_ord.anti, h]; rfl

/-- One more value among points that stand in order. -/
def put (op : Int → Int → Int) : List Pt → Pt → List Pt
  | [], p => [p]
  | x :: r, p => if LB.cmp x.1 p.1 = 0 then (x.1, op x.2 p.2) :: r else if LB.cmp x.1 p.1 = -1 then x :: put op r p else p :: x :: r

theorem put_mem {op : Int → Int → Int} : ∀ {l : List Pt} {p y : Pt}, y ∈ put op l p → y.1 = p.1 ∨ ∃ x ∈ l, y.1 = x.1
  | [], p, y, h => .inl (by rw [List.mem_singleton.1 h])
  | x :: r, p, y, h => by
    unfold put at h
    split at h
    · rcases List.mem_cons.1 h with rfl | h
      · exact .inr ⟨x, List.mem_cons_self .., rfl⟩
      · exact .inr ⟨y, List.mem_cons_of_mem _ h, rfl⟩
    · split at h
      · rcases List.mem_cons.1 h with rfl | h
        · exact .inr ⟨y, List.mem_cons_self .., rfl⟩
        · rcases put_mem h with h | ⟨z, hz, e⟩
          · exact .inl h
          · exact .inr ⟨z, List.mem_cons_of_mem _ hz, e⟩
      · rcases List.mem_cons.1 h with rfl | h
        · exact .inl rfl
        · exact .inr ⟨y, h, rfl⟩

theorem put_ord {op : Int → Int → Int} : ∀ {l : List Pt} (p : Pt), Ord l → Ord (put op l p)
  | [], _, _ => List.pairwise_singleton _ _
  | x :: r, p, h => by
    obtain ⟨h1, h2⟩ := List.pairwise_cons.1 h
    unfold put
    split
    · exact List.pairwise_cons.2 ⟨h1, h2⟩
    · rename_i hne
      split
      · rename_i hlt
        refine List.pairwise_cons.2 ⟨fun y hy => ?_, put_ord p h2⟩
        rcases put_mem hy with e | ⟨z, hz, e⟩
        · rw [e]; exact hlt
        · rw [e]; exact h1 z hz
      · rename_i hnlt
        have hgt : LB.cmp p.1 x.1 = -1 := cmp_gt (by rcases LB.cmp_ord.rng x.1 p.1 with e | e | e; · exact absurd e hnlt
                                                     · exact absurd e hne
                                                     · exact e)
        refine List.pairwise_cons.2 ⟨fun y hy => ?_, h⟩
        rcases List.mem_cons.1 hy with rfl | hy
        · exact hgt
        · exact LB.cmp_ord.tr _ _ _ hgt (h1 y hy)

/-- How numbers are put together: 9 the least, 10 the greatest, else the sum. -/
def opOf (c : Int) (a b : Int) : Int := if c = 9 then min a b else if c = 10 then max a b else W (a + b)

theorem op_comm (c a b : Int) : opOf c a b = opOf c b a := by
  unfold opOf
  split
  · omega
  · split
    · omega
    · rw [Int.add_comm]
theorem W_add (a b : Int) : W (W a + b) = W (a + b) := by unfold W; omega
theorem op_assoc (c a b d : Int) : opOf c (opOf c a b) d = opOf c a (opOf c b d) := by
  unfold opOf
  split
  · omega
  · split
    · omega
    · rw [W_add, Int.add_comm a (W (b + d)), W_add]
      congr 1; omega

def vOf (c : Int) (p : Pt) : Int := if c = 11 then 1 else if c = 8 then W p.2 else p.2
/-- Points together that have the same labels among the named ones. -/
def grp (c : Int) (ns : List ByteArray) (l : List Pt) : List Pt := l.foldl (fun acc p => put (opOf c) acc (LB.only p.1 ns, vOf c p)) []

theorem foldl_ord (c : Int) (ns : List ByteArray) : ∀ (l : List Pt) (acc : List Pt), Ord acc → Ord (l.foldl (fun acc p => put (opOf c) acc (LB.only p.1 ns, vOf c p)) acc)
  | [], _, h => h
  | _ :: r, _, h => foldl_ord c ns r _ (put_ord _ h)
theorem grp_ord (c : Int) (ns : List ByteArray) (l : List Pt) : Ord (grp c ns l) := foldl_ord c ns l [] List.Pairwise.nil

/-- All numbers put together. -/
def all1 (op : Int → Int → Int) : Int → List Int → Int
  | a, [] => a
  | a, b :: r => all1 op (op a b) r
def allV (op : Int → Int → Int) : List Int → Option Int
  | [] => none
  | a :: r => some (all1 op a r)

theorem all1_op (c : Int) : ∀ (r : List Int) (a b : Int), all1 (opOf c) (opOf c a b) r = opOf c a (all1 (opOf c) b r)
  | [], _, _ => rfl
  | d :: r, a, b => by
    unfold all1
    rw [op_assoc, all1_op c r a (opOf c b d)]

def oop (op : Int → Int → Int) : Option Int → Int → Int
  | none, b => b
  | some a, b => op a b

theorem allV_cons (c : Int) (a : Int) (r : List Int) : allV (opOf c) (a :: r) = some (oop (opOf c) (allV (opOf c) r) a) := by
  cases r with
  | nil => rfl
  | cons b r =>
    simp only [allV, all1, oop]
    rw [all1_op, op_comm]

/-- What all numbers come to does not hang on where the new one is put. -/
theorem put_all (c : Int) : ∀ (l : List Pt) (p : Pt), allV (opOf c) ((put (opOf c) l p).map (·.2)) = some (oop (opOf c) (allV (opOf c) (l.map (·.2))) p.2)
  | [], _ => rfl
  | x :: r, p => by
    unfold put
    split
    · simp only [List.map_cons]
      rw [allV_cons, allV_cons]
      cases h : allV (opOf c) (r.map (·.2)) with
      | none => rfl
      | some a => simp only [oop]; rw [op_assoc]
    · split
      · simp only [List.map_cons]
        rw [allV_cons, put_all c r p, allV_cons]
        cases h : allV (opOf c) (r.map (·.2)) with
        | none => simp only [oop]; rw [op_comm]
        | some a => simp only [oop]; rw [op_assoc, op_assoc, op_comm c p.2]
      · simp only [List.map_cons]
        rw [allV_cons, allV_cons]

theorem foldl_all (c : Int) (f : Pt → Pt) : ∀ (l acc : List Pt), allV (opOf c) ((l.foldl (fun acc p => put (opOf c) acc (f p)) acc).map (·.2)) = (l.map fun p => (f p).2).foldl (fun o v => some (oop (opOf c) o v)) (allV (opOf c) (acc.map (·.2)))
  | [], _ => rfl
  | p :: r, acc => by
    simp only [List.foldl_cons, List.map_cons]
    rw [foldl_all c f r, put_all]

theorem foldl_allV (c : Int) : ∀ (l : List Int) (o : Option Int), l.foldl (fun o v => some (oop (opOf c) o v)) o = match o with
    | none => allV (opOf c) l
    | some a => some (all1 (opOf c) a l)
  | [], none => rfl
  | [], some _ => rfl
  | v :: r, none => foldl_allV c r (some v)
  | v :: r, some a => foldl_allV c r (some (opOf c a v))

theorem grp_all (c : Int) (ns : List ByteArray) (l : List Pt) : allV (opOf c) ((grp c ns l).map (·.2)) = allV (opOf c) (l.map (vOf c)) := by
  have := foldl_all c (fun p => (LB.only p.1 ns, vOf c p)) l []
  rw [show allV (opOf c) (([] : List Pt).map (·.2)) = none from rfl, foldl_allV] at this
  exact this

theorem only_nil (L : List LB.Lab) : LB.only L [] = [] := by simp [LB.only, LB.hasN]

/-- What all of them come to, as points. -/
def onePt : Option Int → List Pt
  | none => []
  | some v => [([], v)]

theorem grp_nil (c : Int) (l : List Pt) : grp c [] l = onePt (allV (opOf c) (l.map (vOf c))) := by
  have key : ∀ (l : List Pt) (o : Option Int), l.foldl (fun acc p => put (opOf c) acc (LB.only p.1 [], vOf c p)) (onePt o) = onePt ((l.map (vOf c)).foldl (fun o v => some (oop (opOf c) o v)) o) := by
    intro l
    induction l with
    | nil => intro o; rfl
    | cons p r ih =>
      intro o
      simp only [List.foldl_cons, List.map_cons, only_nil]
      have : put (opOf c) (onePt o) ([], vOf c p) = onePt (some (oop (opOf c) o (vOf c p))) := by
        cases o with
        | none => rfl
        | some a => simp [onePt, put, cmp_self, oop]
      rw [this]
      simpa only [only_nil] using ih (some (oop (opOf c) o (vOf c p)))
  have := key l none
  rw [foldl_allV] at this
  exact this

theorem op_many (a b : Int) : opOf 11 a b = opOf 8 a b := rfl
theorem allV_many (l : List Int) : allV (opOf 11) l = allV (opOf 8) l := rfl

theorem W_W (a : Int) : W (W a) = W a := by unfold W; omega
theorem op_W {c : Int} (hc : c = 8 ∨ c = 11) (a b : Int) : W (opOf c a b) = opOf c a b := by
  unfold opOf
  rw [if_neg (by omega), if_neg (by omega), W_W]
theorem put_W {c : Int} (hc : c = 8 ∨ c = 11) : ∀ {l : List Pt} {p : Pt}, (∀ x ∈ l, W x.2 = x.2) → W p.2 = p.2 → ∀ x ∈ put (opOf c) l p, W x.2 = x.2
  | [], p, _, hp, x, hx => by rw [List.mem_singleton.1 hx]; exact hp
  | y :: r, p, h, hp, x, hx => by
    unfold put at hx
    split at hx
    · rcases List.mem_cons.1 hx with rfl | hx
      · exact op_W hc _ _
      · exact h x (List.mem_cons_of_mem _ hx)
    · split at hx
      · rcases List.mem_cons.1 hx with rfl | hx
        · exact h _ (List.mem_cons_self ..)
        · exact put_W hc (fun z hz => h z (List.mem_cons_of_mem _ hz)) hp x hx
      · rcases List.mem_cons.1 hx with rfl | hx
        · exact hp
        · exact h x hx
theorem vOf_W {c : Int} (hc : c = 8 ∨ c = 11) (p : Pt) : W (vOf c p) = vOf c p := by
  unfold vOf
  rcases hc with rfl | rfl
  · rw [if_neg (by decide), if_pos rfl, W_W]
  · rw [if_pos rfl]; rfl
theorem grp_W {c : Int} (hc : c = 8 ∨ c = 11) (ns : List ByteArray) (l : List Pt) : ∀ x ∈ grp c ns l, W x.2 = x.2 := by
  have key : ∀ (l acc : List Pt), (∀ x ∈ acc, W x.2 = x.2) → ∀ x ∈ l.foldl (fun acc p => put (opOf c) acc (LB.only p.1 ns, vOf c p)) acc, W x.2 = x.2 := by
    intro l
    induction l with
    | nil => intro acc h; exact h
    | cons p r ih => intro acc h; exact ih _ (put_W hc h (vOf_W hc p))
  exact key l [] (fun x hx => by cases hx)

/-- THE WHOLE IS ITS PARTS. -/
theorem parts (c : Int) (hc : c ≠ 11) (ns : List ByteArray) (l : List Pt) : grp c [] (grp c ns l) = grp c [] l := by
  have hv : (grp c ns l).map (vOf c) = (grp c ns l).map (·.2) := List.map_congr_left fun p hp => by
    unfold vOf
    rw [if_neg hc]
    split
    · rename_i h8; exact grp_W (.inl h8) ns l p hp
    · rfl
  rw [grp_nil, grp_nil, hv, grp_all]
theorem parts_many (ns : List ByteArray) (l : List Pt) : grp 8 [] (grp 11 ns l) = grp 11 [] l := by
  have hv : (grp 11 ns l).map (vOf 8) = (grp 11 ns l).map (·.2) := List.map_congr_left fun p hp => by
    unfold vOf
    rw [if_neg (by decide), if_pos rfl]
    exact grp_W (.inr rfl) ns l p hp
  rw [grp_nil, grp_nil, hv, ← allV_many, grp_all]

/-- How many there are. -/
theorem many_all (l : List Pt) (h : 0 < l.length) (hb : l.length ≤ 1000000) : grp 11 [] l = [([], (l.length : Int))] := by
  rw [grp_nil]
  have key : ∀ (r : List Pt) (a : Int), 0 ≤ a → a + r.length ≤ 1000001 → all1 (opOf 11) a (r.map (vOf 11)) = a + r.length := by
    intro r
    induction r with
    | nil => intro a _ _; simp [all1]
    | cons p r ih =>
      intro a h0 h1
      simp only [List.length_cons] at h1
      simp only [List.map_cons, all1, List.length_cons]
      have e : opOf 11 a (vOf 11 p) = a + 1 := by
        have : opOf 11 a (vOf 11 p) = W (a + 1) := rfl
        rw [this, CL.W_id _ (by omega) (by omega)]
      rw [e, ih (a + 1) (by omega) (by omega)]
      omega
  cases l with
  | nil => simp at h
  | cons p r =>
    simp only [List.length_cons] at hb
    simp only [List.map_cons, allV, onePt, List.length_cons]
    rw [show vOf 11 p = 1 from rfl, key r 1 (by omega) (by omega)]
    congr 2
    omega

/- Series, picked. -/

def betw (f t : Int) (l : List Smp) : List Smp := l.filter fun s => decide (f ≤ s.1 ∧ s.1 ≤ t)
/-- What a source of these series tells. -/
def src (S : List Sr) (m : List LB.Mat) (f t : Int) : List Sr := S.filterMap fun x => if 0 < (betw f t x.2).length ∧ LB.all x.1 m = true then some (x.1, betw f t x.2) else none

def lastV (l : List Smp) : Int := (CL.at' l (l.length - 1)).2
/-- What samples come to, by the question's code. -/
def over (c : Int) (l : List Smp) : Int :=
  if c = 2 then lastV l else if c = 3 then l.length else if c = 4 then W ((l.map (·.2)).sum) else if c = 5 then (allV min (l.map (·.2))).getD 0 else if c = 6 then (allV max (l.map (·.2))).getD 0 else W (lastV l - (CL.at' l 0).2)

def pick (c : Int) (m : List LB.Mat) (sp at' : Int) (S : List Sr) : List Pt := (src S m (at' - sp + 1) at').map fun x => (x.1, over c x.2)

/-- All samples so much later. -/
def later (d : Int) (S : List Sr) : List Sr := S.map fun x => (x.1, x.2.map fun s => (s.1 + d, s.2))

theorem betw_later (d f t : Int) (l : List Smp) : betw (f + d) (t + d) (l.map fun s => (s.1 + d, s.2)) = (betw f t l).map fun s => (s.1 + d, s.2) := by
  unfold betw
  rw [List.filter_map]
  congr 1
  apply List.filter_congr
  intro s _
  simp only [Function.comp]
  apply decide_eq_decide.2
  omega

theorem src_later (d : Int) (S : List Sr) (m : List LB.Mat) (f t : Int) : src (later d S) m (f + d) (t + d) = later d (src S m f t) := by
  unfold src later
  induction S with
  | nil => rfl
  | cons x S ih =>
    simp only [List.map_cons, List.filterMap_cons]
    rw [betw_later, List.length_map]
    by_cases h : 0 < (betw f t x.2).length ∧ LB.all x.1 m = true
    · rw [if_pos h, if_pos h]
      simp only [List.map_cons]
      rw [ih]
    · rw [if_neg h, if_neg h]
      exact ih

theorem at_later (d : Int) (l : List Smp) (i : Nat) : (CL.at' (l.map fun s => (s.1 + d, s.2)) i).2 = (CL.at' l i).2 := by
  unfold CL.at'
  rw [List.getD, List.getD, List.getElem?_map]
  cases l[i]? <;> rfl
theorem over_later (c d : Int) (l : List Smp) : over c (l.map fun s => (s.1 + d, s.2)) = over c l := by
  have e : (l.map fun s => (s.1 + d, s.2)).map (·.2) = l.map (·.2) := by rw [List.map_map]; rfl
  unfold over lastV
  rw [at_later, at_later, e, List.length_map]

theorem pick_later (c : Int) (m : List LB.Mat) (sp at' d : Int) (S : List Sr) : pick c m sp (at' + d) (later d S) = pick c m sp at' S := by
  unfold pick
  rw [show at' + d - sp + 1 = (at' - sp + 1) + d by omega, src_later]
  unfold later
  rw [List.map_map]
  apply List.map_congr_left
  intro x _
  simp only [Function.comp, over_later]

theorem pick_ord (c : Int) (m : List LB.Mat) (sp at' : Int) (S : List Sr) (h : S.Pairwise fun a b => LB.cmp a.1 b.1 = -1) : Ord (pick c m sp at' S) := by
  unfold pick src
  induction S with
  | nil => exact List.Pairwise.nil
  | cons x S ih =>
    obtain ⟨h1, h2⟩ := List.pairwise_cons.1 h
    rw [List.filterMap_cons]
    split
    · exact ih h2
    · rename_i y hy
      rw [List.map_cons]
      refine List.pairwise_cons.2 ⟨fun z hz => ?_, ih h2⟩
      obtain ⟨u, hu, rfl⟩ := List.mem_map.1 hz
      obtain ⟨v, hv, hvu⟩ := List.mem_filterMap.1 hu
      have e1 : y.1 = x.1 := by split at hy; · cases hy; rfl
                                · cases hy
      have e2 : u.1 = v.1 := by split at hvu; · cases hvu; rfl
                                · cases hvu
      show LB.cmp y.1 u.1 = -1
      rw [e1, e2]
      exact h1 v hv

/- Two of them. -/

/-- What two numbers come to (by 0: nothing). -/
def two (c a b : Int) : Option Int := if c = 13 then some (W (a + b)) else if c = 14 then some (W (a - b)) else if c = 15 then some (W (a * b)) else if b = 0 then none else some (W (a.tdiv b))

/-- Each two points of the same labels, of two lists in order. -/
def prs (c : Int) : Nat → List Pt → List Pt → List Pt
  | 0, _, _ => []
  | _ + 1, [], _ => []
  | _ + 1, _ :: _, [] => []
  | f + 1, x :: a, y :: b =>
    if LB.cmp x.1 y.1 = 0 then ((two c x.2 y.2).map fun v => (x.1, v)).toList ++ prs c f a b
    else if LB.cmp x.1 y.1 = -1 then prs c f a (y :: b)
    else prs c f (x :: a) b

/-- Of two ALONE, of an ALONE one and each point, of each two points of the same labels. -/
def both (c : Int) (a b : Bool × List Pt) : Bool × List Pt :=
  (a.1 && b.1,
    if a.1 then a.2.flatMap fun x => b.2.flatMap fun y => ((two c x.2 y.2).map fun v => (y.1, v)).toList
    else if b.1 then b.2.flatMap fun y => a.2.flatMap fun x => ((two c x.2 y.2).map fun v => (x.1, v)).toList
    else prs c (a.2.length + b.2.length + 1) a.2 b.2)

/-- What a question comes to (none: ErrArg). -/
def ev : AQ.Q → Int → List Sr → Option (Bool × List Pt)
  | .none, _, _ => none
  | .mk c n m sp ns l r, t, S =>
    if c = 1 then some (true, [([], n)])
    else if c ≤ 7 then some (false, pick c m sp t S)
    else if c ≤ 11 then (ev l t S).bind fun a => if a.1 then none else some (false, grp c ns a.2)
    else if c = 12 then (ev l t S).map fun a => (a.1, a.2.map fun p => (p.1, W (0 - p.2)))
    else (ev l t S).bind fun a => (ev r t S).map fun b => both c a b

/-- TIME IS RELATIVE. -/
theorem ev_later (d : Int) (S : List Sr) : ∀ (q : AQ.Q) (t : Int), ev q (t + d) (later d S) = ev q t S
  | .none, _ => rfl
  | .mk c n m sp ns l r, t => by
    unfold ev
    rw [pick_later, ev_later d S l t, ev_later d S r t]

end EV
end Go.Proofs.YtdmnlmohfaafoaeGreatDoor

namespace Go.Proofs.YtdmnlmohfaafoaeGreatDoor
namespace AQ

abbrev Tk := Int × ByteArray

/-- Tokens without their places. -/
def sl (l : List Tok) : List Tk := l.map fun t => (t.kind, t.said)

/-- A text's tokens. -/
inductive Lx : List UInt8 → List Tk → Prop
  | nil : Lx [] []
  | blank {r ts} (h : Lx r ts) : Lx (32 :: r) ts
  | tok {c t ts} (h32 : c ≠ 32) (hn : (lex (c :: t)).2 ≠ 0) (hd : (lex (c :: t)).1 = 1 → (lex (c :: t)).2 ≤ 18) (h : Lx ((c :: t).drop (lex (c :: t)).2) ts) : Lx (c :: t) (((lex (c :: t)).1, ⟨((c :: t).take (lex (c :: t)).2).toArray⟩) :: ts)

theorem Lx.cut {r : List UInt8} {ts : List Tk} (h : Lx r ts) : ∀ (f : Nat) (p : Int) (out : List Tok), r.length < f → out.length + ts.length ≤ 120 → ∃ l p', cutF f r p out = .inl (out ++ l ++ [⟨4, ⟨#[]⟩, p'⟩]) ∧ sl l = ts := by
  induction h with
  | nil =>
    intro f p out hf _
    obtain ⟨g, rfl⟩ : ∃ g, f = g + 1 := ⟨f - 1, by omega⟩
    exact ⟨[], p, by simp [cutF], rfl⟩
  | @blank r ts _ ih =>
    intro f p out hf ho
    obtain ⟨g, rfl⟩ : ∃ g, f = g + 1 := ⟨f - 1, by omega⟩
    obtain ⟨l, p', e1, e2⟩ := ih g (p + 1) out (by simp at hf; omega) ho
    refine ⟨l, p', ?_, e2⟩
    rw [← e1, cutF_cons, if_pos rfl]
  | @tok c t ts h32 hn hd' _ ih =>
    intro f p out hf ho
    obtain ⟨g, rfl⟩ : ∃ g, f = g + 1 := ⟨f - 1, by omega⟩
    simp only [List.length_cons] at ho hf
    obtain ⟨l, p', e1, e2⟩ := ih g (p + (lex (c :: t)).2) (out ++ [⟨(lex (c :: t)).1, ⟨((c :: t).take (lex (c :: t)).2).toArray⟩, p⟩]) (by simp only [List.length_drop, List.length_cons]; omega) (by simp only [List.length_append, List.length_cons, List.length_nil]; omega)
    refine ⟨⟨(lex (c :: t)).1, ⟨((c :: t).take (lex (c :: t)).2).toArray⟩, p⟩ :: l, p', ?_, ?_⟩
    · have h1 : ¬ (((lex (c :: t)).1 = 1 ∧ 18 < (lex (c :: t)).2) ∨ out.length = 120) := by
        rintro (⟨h, h'⟩ | h)
        · have := hd' h; omega
        · omega
      rw [cutF_cons, if_neg h32, if_neg hn, if_neg h1, e1]
      simp
    · show _ :: sl l = _
      rw [e2]

/-- A token stands ahead of a text. -/
theorem Lx.ahead {x R : List UInt8} {ts : List Tk} {k : Int} (h : Lx R ts) (hx : x ≠ []) (h32 : x.head? ≠ some 32) (hl : lex (x ++ R) = (k, x.length)) (hk : k = 1 → x.length ≤ 18) : Lx (x ++ R) ((k, ⟨x.toArray⟩) :: ts) := by
  cases x with
  | nil => exact absurd rfl hx
  | cons c t =>
    have h1 : (lex (c :: (t ++ R))).1 = k := by rw [← List.cons_append, hl]
    have h2 : (lex (c :: (t ++ R))).2 = (c :: t).length := by rw [← List.cons_append, hl]
    have key := Lx.tok (c := c) (t := t ++ R) (ts := ts) (by simpa using h32) (by rw [h2]; simp) (fun e => by rw [h2]; exact hk (h1.symm.trans e)) (by
      rw [h2, ← List.cons_append, List.drop_left]
      exact h)
    rw [h1, h2, ← List.cons_append, List.take_left] at key
    exact key

/-- What does not go on a word or a number. -/
def Sf (R : List UInt8) : Prop := ∀ c t, R = c :: t → isL c = false ∧ isD c = false

theorem Sf.nil : Sf [] := fun _ _ h => by cases h
theorem Sf.cons {c : UInt8} {t : List UInt8} (h : isL c = false ∧ isD c = false) : Sf (c :: t) := fun _ _ e => by cases e; exact h

theorem take_all {p : UInt8 → Bool} : ∀ (x R : List UInt8), (∀ c ∈ x, p c = true) → (∀ c t, R = c :: t → p c = false) → (x ++ R).takeWhile p = x
  | [], R, _, h => by
    cases R with
    | nil => rfl
    | cons c t => simp [h c t rfl]
  | c :: x, R, hx, h => by
    rw [List.cons_append, List.takeWhile_cons, if_pos (hx c (by simp)), take_all x R (fun d hd => hx d (by simp [hd])) h]

theorem lex_word {c : UInt8} {t R : List UInt8} (hc : isL c = true) (ht : ∀ d ∈ t, (isL d || isD d) = true) (hR : Sf R) : lex ((c :: t) ++ R) = (0, (c :: t).length) := by
  show lex (c :: (t ++ R)) = _
  rw [lex_cons, if_pos hc, ← List.cons_append, take_all (c :: t) R (fun d hd => by
    rcases List.mem_cons.1 hd with rfl | h
    · simp [hc]
    · exact ht d h) (fun d u e => by have := hR d u e; simp [this])]

theorem lex_num {c : UInt8} {t R : List UInt8} (hL : isL c = false) (hc : isD c = true) (ht : ∀ d ∈ t, isD d = true) (hR : Sf R) : lex ((c :: t) ++ R) = (1, (c :: t).length) := by
  show lex (c :: (t ++ R)) = _
  rw [lex_cons, if_neg (by rw [hL]; decide), if_pos hc, ← List.cons_append, take_all (c :: t) R (fun d hd => by
    rcases List.mem_cons.1 hd with rfl | h
    · exact hc
    · exact ht d h) (fun d u e => (hR d u e).2)]

theorem index_at : ∀ (v R : List UInt8), (∀ c ∈ v, c ≠ 34) → Lib.indexByte (v ++ 34 :: R) 34 = v.length
  | [], R, _ => by simp [Lib.indexByte]
  | c :: v, R, h => by
    have h1 : (c == 34) = false := by simpa using h c (by simp)
    have ih := index_at v R fun d hd => h d (by simp [hd])
    have h2 : ((v.length : Int) == -1) = false := by simp
    show (if (c == 34) = true then (0 : Int) else if (Lib.indexByte (v ++ 34 :: R) 34 == -1) = true then -1 else Lib.indexByte (v ++ 34 :: R) 34 + 1) = _
    rw [h1, ih, h2]
    simp

theorem lex_text {v R : List UInt8} (hv : ∀ c ∈ v, c ≠ 34) : lex ((34 :: v ++ [34]) ++ R) = (2, (34 :: v ++ [34]).length) := by
  have e : (34 :: v ++ [34]) ++ R = 34 :: (v ++ 34 :: R) := by simp
  rw [e, lex_cons, if_neg (by decide), if_neg (by decide), if_pos rfl]
  unfold quoted
  rw [index_at v R hv, if_neg (by omega)]
  simp

theorem lex_1 {R : List UInt8} : lex (61 :: R) = (3, 1) ∧ lex (123 :: R) = (3, 1) ∧ lex (125 :: R) = (3, 1) ∧ lex (91 :: R) = (3, 1) ∧ lex (93 :: R) = (3, 1) ∧ lex (40 :: R) = (3, 1) ∧ lex (41 :: R) = (3, 1) ∧ lex (44 :: R) = (3, 1) ∧ lex (43 :: R) = (3, 1) ∧ lex (45 :: R) = (3, 1) ∧ lex (42 :: R) = (3, 1) ∧ lex (47 :: R) = (3, 1) := ⟨rfl, rfl, rfl, rfl, rfl, rfl, rfl, rfl, rfl, rfl, rfl, rfl⟩
theorem lex_2 {R : List UInt8} : lex (33 :: 61 :: R) = (3, 2) ∧ lex (94 :: 61 :: R) = (3, 2) ∧ lex (33 :: 94 :: R) = (3, 2) := ⟨rfl, rfl, rfl⟩

abbrev mk1 (c : UInt8) : Tk := (3, ⟨#[c]⟩)

theorem Lx.mark {c : UInt8} {R : List UInt8} {ts : List Tk} (h : Lx R ts) (hc : c ≠ 32) (hl : lex (c :: R) = (3, 1)) : Lx (c :: R) (mk1 c :: ts) :=
  Lx.ahead (x := [c]) h (by simp) (by simpa using hc) hl (by intro e; cases e)

theorem Lx.word {x R : List UInt8} {ts : List Tk} (h : Lx R ts) (hR : Sf R) (hx : ∃ c t, x = c :: t ∧ isL c = true ∧ ∀ d ∈ t, (isL d || isD d) = true) : Lx (x ++ R) ((0, ⟨x.toArray⟩) :: ts) := by
  obtain ⟨c, t, rfl, hc, ht⟩ := hx
  refine h.ahead (by simp) ?_ (lex_word hc ht hR) (by intro e; cases e)
  intro e
  have e2 : c = 32 := by simpa using e
  subst e2
  exact absurd hc (by decide)

theorem Lx.num {x R : List UInt8} {ts : List Tk} (h : Lx R ts) (hR : Sf R) (hx : x ≠ []) (hd : ∀ c ∈ x, isD c = true) (h18 : x.length ≤ 18) : Lx (x ++ R) ((1, ⟨x.toArray⟩) :: ts) := by
  cases x with
  | nil => exact absurd rfl hx
  | cons c t =>
    have hc := hd c (by simp)
    have hn : 48 ≤ c.toNat ∧ c.toNat ≤ 57 := by simpa [isD, LB.digit] using hc
    have hL : isL c = false := by
      unfold isL LB.letter
      simp only [decide_eq_false_iff_not]
      omega
    refine h.ahead (by simp) ?_ (lex_num hL hc (fun d hd' => hd d (by simp [hd'])) hR) (fun _ => h18)
    intro e
    have e2 : c = 32 := by simpa using e
    subst e2
    exact absurd hc (by decide)

theorem Lx.text {v R : List UInt8} {ts : List Tk} (h : Lx R ts) (hv : ∀ c ∈ v, c ≠ 34) : Lx ((34 :: v ++ [34]) ++ R) ((2, ⟨(34 :: v ++ [34]).toArray⟩) :: ts) :=
  h.ahead (by simp) (by simp) (lex_text hv) (by intro e; cases e)

/- Names, values, numbers. -/

theorem at_list (s : ByteArray) (i : Nat) (h : i < s.data.toList.length) : (s.data.toList[i]).toNat = LB.byt s i := by
  unfold LB.byt
  rw [List.getD_eq_getElem?_getD, List.getElem?_eq_getElem h]
  rfl

theorem name_word {s : ByteArray} (h : LB.name s = true) : ∃ c t, s.data.toList = c :: t ∧ isL c = true ∧ ∀ d ∈ t, (isL d || isD d) = true := by
  unfold LB.name at h
  simp only [decide_eq_true_eq] at h
  obtain ⟨h1, h2, h3⟩ := h
  have hsz : s.data.toList.length = s.size := by simp
  cases e : s.data.toList with
  | nil => rw [e] at hsz; simp at hsz; omega
  | cons c t =>
    refine ⟨c, t, rfl, ?_, fun d hd => ?_⟩
    · have h0 := h3 0 (by omega)
      have hb := at_list s 0 (by omega)
      simp only [e, List.getElem_cons_zero] at hb
      unfold LB.okN at h0
      unfold isL
      rw [hb]
      simpa using h0
    · obtain ⟨i, hi, rfl⟩ := List.mem_iff_getElem.1 hd
      have hlen : t.length + 1 = s.size := by rw [← hsz, e]; simp
      have h0 := h3 (i + 1) (by omega)
      have hb := at_list s (i + 1) (by omega)
      simp only [e, List.getElem_cons_succ] at hb
      unfold LB.okN at h0
      unfold isL isD
      rw [hb]
      simpa using h0

theorem valu_no {s : ByteArray} (h : LB.valu s = true) : ∀ c ∈ s.data.toList, c ≠ 34 := by
  intro c hc e
  subst e
  unfold LB.valu at h
  simp only [decide_eq_true_eq] at h
  obtain ⟨i, hi, e⟩ := List.mem_iff_getElem.1 hc
  have hsz : s.data.toList.length = s.size := by simp
  have h0 := h.2 i (by omega)
  have hb := at_list s i hi
  rw [e] at hb
  unfold LB.okV at h0
  rw [← hb] at h0
  exact absurd h0 (by decide)

theorem dec_digits (u : Nat) : (∀ c ∈ Lib.decDigits u, isD c = true) ∧ Lib.decDigits u ≠ [] := by
  induction u using Nat.strongRecOn with
  | ind u ih =>
    rw [Lib.decDigits]
    split
    · rename_i h
      refine ⟨fun c hc => ?_, by simp⟩
      have e : c = UInt8.ofNat (48 + u) := by simpa using hc
      subst e
      unfold isD LB.digit
      have : (UInt8.ofNat (48 + u)).toNat = 48 + u := by rw [UInt8.toNat_ofNat']; omega
      rw [this]
      simp only [decide_eq_true_eq]
      omega
    · rename_i h
      obtain ⟨h1, h2⟩ := ih (u / 10) (by omega)
      refine ⟨fun c hc => ?_, by simp⟩
      rcases List.mem_append.1 hc with hc | hc
      · exact h1 c hc
      · have e : c = UInt8.ofNat (48 + u % 10) := by simpa using hc
        subst e
        unfold isD LB.digit
        have : (UInt8.ofNat (48 + u % 10)).toNat = 48 + u % 10 := by rw [UInt8.toNat_ofNat']; omega
        rw [this]
        simp only [decide_eq_true_eq]
        omega

theorem digs_app : ∀ (x y : List UInt8) (n : Int), digs (x ++ y) n = digs y (digs x n)
  | [], _, _ => rfl
  | _ :: x, y, _ => digs_app x y _

theorem dec_back (u : Nat) : digs (Lib.decDigits u) 0 = u := by
  induction u using Nat.strongRecOn with
  | ind u ih =>
    rw [Lib.decDigits]
    split
    · rename_i h
      have : (UInt8.ofNat (48 + u)).toNat = 48 + u := by rw [UInt8.toNat_ofNat']; omega
      show (0 : Int) * 10 + (((UInt8.ofNat (48 + u)).toNat : Int) - 48) = u
      rw [this]; omega
    · rename_i h
      have : (UInt8.ofNat (48 + u % 10)).toNat = 48 + u % 10 := by rw [UInt8.toNat_ofNat']; omega
      rw [digs_app, ih (u / 10) (by omega)]
      show ((u / 10 : Nat) : Int) * 10 + (((UInt8.ofNat (48 + u % 10)).toNat : Int) - 48) = u
      rw [this]; omega

theorem dec_len : ∀ (k u : Nat), u < 10 ^ (k + 1) → (Lib.decDigits u).length ≤ k + 1
  | 0, u, h => by rw [Lib.decDigits, dif_pos (by omega)]; simp
  | k + 1, u, h => by
    rw [Lib.decDigits]
    split
    · simp
    · have : u / 10 < 10 ^ (k + 1) := by
        rw [Nat.pow_succ] at h; omega
      have := dec_len k (u / 10) this
      simp only [List.length_append, List.length_cons, List.length_nil]
      omega

theorem itoa_of {n : Int} (h : 0 ≤ n) : Lib.itoa n = Lib.decDigits n.toNat := by unfold Lib.itoa; rw [if_neg (by omega)]

theorem itoa_facts {n : Int} (h : 0 ≤ n) (h' : n < 1000000000000000000) : Lib.itoa n ≠ [] ∧ (∀ c ∈ Lib.itoa n, isD c = true) ∧ (Lib.itoa n).length ≤ 18 ∧ digs (Lib.itoa n) 0 = n := by
  rw [itoa_of h]
  refine ⟨(dec_digits _).2, (dec_digits _).1, dec_len 17 _ ?_, ?_⟩
  · have : (10 : Nat) ^ (17 + 1) = 1000000000000000000 := by decide
    omega
  · rw [dec_back]; omega

end AQ
end Go.Proofs.YtdmnlmohfaafoaeGreatDoor

namespace Go.Proofs.YtdmnlmohfaafoaeGreatDoor
namespace AQ

def matsOk (m : List LB.Mat) : Prop := m.length ≤ 8 ∧ ∀ x ∈ m, LB.name x.nm = true ∧ 0 ≤ x.op ∧ x.op < 4 ∧ LB.valu x.vl = true
def namesOk (l : List ByteArray) : Prop := l.length ≤ 8 ∧ ∀ x ∈ l, LB.name x = true

/-- Where a part stands: bare, or in brackets and one deeper. -/
def Lv (d k e : Nat) (q : Q) : Prop := (k ≤ wgt q.code ∧ e = d) ∨ (wgt q.code < k ∧ e + 1 = d)

/-- Questions that may be told, with so many more that a ONE of them may stand in. -/
inductive OkW : Nat → Q → Prop
  | num (d : Nat) (n : Int) (h : 0 ≤ n) (h' : n < 1000000000000000000) : OkW (d + 1) (.mk 1 n [] 0 [] .none .none)
  | pick (d : Nat) (m : List LB.Mat) (h : matsOk m) : OkW (d + 1) (.mk 2 0 m 300 [] .none .none)
  | over (d : Nat) (c : Int) (m : List LB.Mat) (sp : Int) (hc : 3 ≤ c ∧ c ≤ 7) (h : matsOk m) (hs : 1 ≤ sp ∧ sp ≤ 1099511627776) : OkW (d + 1) (.mk c 0 m sp [] .none .none)
  | of (d e : Nat) (c : Int) (nm : List ByteArray) (q : Q) (hc : 8 ≤ c ∧ c ≤ 11) (hn : namesOk nm) (h : OkW e q) (he : Lv d 0 e q) : OkW (d + 1) (.mk c 0 [] 0 nm q .none)
  | neg (d e : Nat) (q : Q) (h : OkW e q) (he : Lv d 2 e q) : OkW (d + 1) (.mk 12 0 [] 0 [] q .none)
  | sum (d e f : Nat) (c : Int) (l r : Q) (hc : c = 13 ∨ c = 14) (hl : OkW e l) (he : Lv d 0 e l) (hr : OkW f r) (hf : Lv d 1 f r) : OkW d (.mk c 0 [] 0 [] l r)
  | prod (d e f : Nat) (c : Int) (l r : Q) (hc : c = 15 ∨ c = 16) (hl : OkW e l) (he : Lv d 1 e l) (hr : OkW f r) (hf : Lv d 2 f r) : OkW d (.mk c 0 [] 0 [] l r)

def OkP (d k : Nat) (q : Q) : Prop := ∃ e, OkW e q ∧ Lv d k e q

theorem Lv.up {d k e : Nat} {q : Q} (h : Lv d k e q) : Lv (d + 1) k (e + 1) q := by
  rcases h with ⟨h1, h2⟩ | ⟨h1, h2⟩
  · exact .inl ⟨h1, by omega⟩
  · exact .inr ⟨h1, by omega⟩

theorem OkW.up {d : Nat} {q : Q} (h : OkW d q) : OkW (d + 1) q := by
  induction h with
  | num d n h h' => exact .num _ n h h'
  | pick d m h => exact .pick _ m h
  | over d c m sp hc h hs => exact .over _ c m sp hc h hs
  | of d e c nm q hc hn _ he ih => exact .of _ _ c nm q hc hn ih he.up
  | neg d e q _ he ih => exact .neg _ _ q ih he.up
  | sum d e f c l r hc _ he _ hf ihl ihr => exact .sum _ _ _ c l r hc ihl he.up ihr hf.up
  | prod d e f c l r hc _ he _ hf ihl ihr => exact .prod _ _ _ c l r hc ihl he.up ihr hf.up

theorem OkP.less {d k : Nat} {q : Q} (h : OkP d (k + 1) q) : OkP d k q := by
  obtain ⟨e, hw, h | h⟩ := h
  · exact ⟨e, hw, .inl ⟨by omega, h.2⟩⟩
  · by_cases hk : k ≤ wgt q.code
    · exact ⟨e + 1, hw.up, .inl ⟨hk, h.2⟩⟩
    · exact ⟨e, hw, .inr ⟨by omega, h.2⟩⟩
theorem OkP.bare {d : Nat} {q : Q} (h : OkW d q) : OkP d 0 q := ⟨d, h, .inl ⟨Nat.zero_le _, rfl⟩⟩
theorem OkP.w {d : Nat} {q : Q} (h : OkP d 0 q) : OkW d q := by
  obtain ⟨e, hw, h | h⟩ := h
  · rw [← h.2]; exact hw
  · exact absurd h.1 (Nat.not_lt_zero _)
/-- In brackets one deeper it may stand anywhere. -/
theorem OkP.par {d : Nat} {q : Q} (h : OkW d q) (k : Nat) : OkP (d + 1) k q := by
  by_cases hk : k ≤ wgt q.code
  · exact ⟨d + 1, h.up, .inl ⟨hk, rfl⟩⟩
  · exact ⟨d, h, .inr ⟨by omega, rfl⟩⟩

/- The tokens of what is printed. -/

def tkI (m : LB.Mat) : List Tk := [(0, m.nm), (3, ops.getD m.op.toNat ⟨#[]⟩), (2, ⟨(34 :: m.vl.data.toList ++ [34]).toArray⟩)]
def tkIs : List LB.Mat → List Tk
  | [] => []
  | m :: r => tkI m ++ (r.flatMap fun x => mk1 44 :: tkI x)
def tkM (l : List LB.Mat) : List Tk := mk1 123 :: tkIs l ++ [mk1 125]
def tkN (n : Int) : Tk := (1, ⟨(Lib.itoa n).toArray⟩)
def tkNs : List ByteArray → List Tk
  | [] => []
  | x :: r => (0, x) :: (r.flatMap fun y => [mk1 44, (0, y)])
def byW : ByteArray := ⟨#[98, 121]⟩
def tkBy (l : List ByteArray) : List Tk := if l = [] then [] else [(0, byW), mk1 40] ++ tkNs l ++ [mk1 41]
def tkP (k : Nat) (q : Q) (t : List Tk) : List Tk := if k ≤ wgt q.code then t else mk1 40 :: t ++ [mk1 41]
def tkW (c : Int) : Tk := (0, words.getD (c - 3).toNat ⟨#[]⟩)

def tk : Q → List Tk
  | .none => []
  | .mk c n m sp nm l r =>
    if c = 1 then [tkN n]
    else if c = 2 then tkM m
    else if 3 ≤ c ∧ c ≤ 7 then tkW c :: mk1 40 :: tkM m ++ [mk1 91, tkN sp, mk1 93, mk1 41]
    else if 8 ≤ c ∧ c ≤ 11 then tkW c :: mk1 40 :: tkP 0 l (tk l) ++ [mk1 41] ++ tkBy nm
    else if c = 12 then mk1 45 :: tkP 2 l (tk l)
    else if 13 ≤ c ∧ c ≤ 16 then tkP (wgt c) l (tk l) ++ [mk1 (signT c)] ++ tkP (wgt c + 1) r (tk r)
    else []

/- .. are the tokens of the text. -/

theorem sf_mark {R : List UInt8} : Sf (61 :: R) ∧ Sf (33 :: R) ∧ Sf (94 :: R) ∧ Sf (40 :: R) ∧ Sf (41 :: R) ∧ Sf (44 :: R) ∧ Sf (93 :: R) ∧ Sf (32 :: R) ∧ Sf (125 :: R) :=
  ⟨Sf.cons (by decide), Sf.cons (by decide), Sf.cons (by decide), Sf.cons (by decide), Sf.cons (by decide), Sf.cons (by decide), Sf.cons (by decide), Sf.cons (by decide), Sf.cons (by decide)⟩

theorem lx_op {o : Int} (h0 : 0 ≤ o) (h4 : o < 4) {R : List UInt8} {ts : List Tk} (h : Lx R ts) : Lx (opT o ++ R) ((3, ops.getD o.toNat ⟨#[]⟩) :: ts) ∧ Sf (opT o ++ R) := by
  have e : o = 0 ∨ o = 1 ∨ o = 2 ∨ o = 3 := by omega
  rcases e with rfl | rfl | rfl | rfl
  · exact ⟨h.mark (by decide) lex_1.1, sf_mark.1⟩
  · exact ⟨Lx.ahead (x := [33, 61]) h (by simp) (by simp) lex_2.1 (by intro e; cases e), sf_mark.2.1⟩
  · exact ⟨Lx.ahead (x := [94, 61]) h (by simp) (by simp) lex_2.2.1 (by intro e; cases e), sf_mark.2.2.1⟩
  · exact ⟨Lx.ahead (x := [33, 94]) h (by simp) (by simp) lex_2.2.2 (by intro e; cases e), sf_mark.2.1⟩

theorem lx_name {s : ByteArray} (hs : LB.name s = true) {R : List UInt8} {ts : List Tk} (h : Lx R ts) (hR : Sf R) : Lx (s.data.toList ++ R) ((0, s) :: ts) := by
  have := h.word hR (name_word hs)
  simpa using this

theorem lx_item {m : LB.Mat} (hm : LB.name m.nm = true ∧ 0 ≤ m.op ∧ m.op < 4 ∧ LB.valu m.vl = true) {R : List UInt8} {ts : List Tk} (h : Lx R ts) : Lx (item m ++ R) (tkI m ++ ts) := by
  have h1 := h.text (valu_no hm.2.2.2)
  obtain ⟨h2, s2⟩ := lx_op hm.2.1 hm.2.2.1 h1
  have h3 := lx_name hm.1 h2 s2
  have e : item m ++ R = m.nm.data.toList ++ (opT m.op ++ ((34 :: m.vl.data.toList ++ [34]) ++ R)) := by simp [item]
  rw [e]
  exact h3

theorem lx_items : ∀ (l : List LB.Mat), (∀ x ∈ l, LB.name x.nm = true ∧ 0 ≤ x.op ∧ x.op < 4 ∧ LB.valu x.vl = true) → ∀ {R : List UInt8} {ts : List Tk}, Lx R ts → Lx ((l.flatMap fun x => 44 :: item x) ++ R) ((l.flatMap fun x => mk1 44 :: tkI x) ++ ts)
  | [], _, _, _, h => h
  | m :: l, hl, R, ts, h => by
    have h1 := lx_items l (fun x hx => hl x (by simp [hx])) h
    have h2 := (lx_item (hl m (by simp)) h1).mark (c := 44) (by decide) lex_1.2.2.2.2.2.2.2.1
    simpa using h2

theorem lx_mat {l : List LB.Mat} (hl : matsOk l) {R : List UInt8} {ts : List Tk} (h : Lx R ts) : Lx (matT l ++ R) (tkM l ++ ts) := by
  have h0 := h.mark (c := 125) (by decide) lex_1.2.2.1
  have h1 : Lx (itemsT l ++ 125 :: R) (tkIs l ++ mk1 125 :: ts) := by
    cases l with
    | nil => exact h0
    | cons m r =>
      have h2 := lx_items r (fun x hx => hl.2 x (by simp [hx])) h0
      have h3 := lx_item (hl.2 m (by simp)) h2
      simpa [itemsT, tkIs] using h3
  have h2 := h1.mark (c := 123) (by decide) lex_1.2.1
  simpa [matT, tkM] using h2

theorem lx_num {n : Int} (h0 : 0 ≤ n) (h1 : n < 1000000000000000000) {R : List UInt8} {ts : List Tk} (h : Lx R ts) (hR : Sf R) : Lx (Lib.itoa n ++ R) (tkN n :: ts) := by
  obtain ⟨a, b, c, _⟩ := itoa_facts h0 h1
  exact h.num hR a b c

theorem lx_names : ∀ (l : List ByteArray), (∀ x ∈ l, LB.name x = true) → ∀ {R : List UInt8} {ts : List Tk}, Lx R ts → Sf R → Lx (Lib.joinTail [44, 32] (l.map (·.data.toList)) ++ R) ((l.flatMap fun y => [mk1 44, (0, y)]) ++ ts) ∧ Sf (Lib.joinTail [44, 32] (l.map (·.data.toList)) ++ R)
  | [], _, _, _, h, hs => ⟨h, hs⟩
  | x :: l, hl, R, ts, h, hs => by
    obtain ⟨h1, s1⟩ := lx_names l (fun y hy => hl y (by simp [hy])) h hs
    have h2 := (lx_name (hl x (by simp)) h1 s1).blank.mark (c := 44) (by decide) lex_1.2.2.2.2.2.2.2.1
    refine ⟨by simpa [Lib.joinTail] using h2, ?_⟩
    have : Lib.joinTail [44, 32] ((x :: l).map (·.data.toList)) ++ R = 44 :: (32 :: (x.data.toList ++ (Lib.joinTail [44, 32] (l.map (·.data.toList)) ++ R))) := by simp [Lib.joinTail]
    rw [this]
    exact sf_mark.2.2.2.2.2.1

theorem lx_by {l : List ByteArray} (hl : namesOk l) {R : List UInt8} {ts : List Tk} (h : Lx R ts) : Lx (byT l ++ R) (tkBy l ++ ts) ∧ (Sf R → Sf (byT l ++ R)) := by
  unfold byT tkBy
  cases l with
  | nil => exact ⟨h, fun s => s⟩
  | cons x r =>
    rw [if_neg (by simp), if_neg (by simp)]
    have h0 := h.mark (c := 41) (by decide) lex_1.2.2.2.2.2.2.1
    obtain ⟨h1, s1⟩ := lx_names r (fun y hy => hl.2 y (by simp [hy])) h0 sf_mark.2.2.2.2.1
    have h2 := ((lx_name (hl.2 x (by simp)) h1 s1).mark (c := 40) (by decide) lex_1.2.2.2.2.2.1).blank
    have h3 := (h2.word (x := [98, 121]) sf_mark.2.2.2.2.2.2.2.1 ⟨98, [121], rfl, by decide, by decide⟩).blank
    refine ⟨?_, fun _ => sf_mark.2.2.2.2.2.2.2.1⟩
    rw [List.map_cons, Lib.join_cons]
    simpa [tkNs, byW] using h3

theorem lx_par {k : Nat} {q : Q} {R : List UInt8} {ts : List Tk} (h : Lx R ts) (hR : Sf R) (hq : ∀ {R : List UInt8} {ts : List Tk}, Lx R ts → Sf R → Lx (txt q ++ R) (tk q ++ ts)) : Lx (parT k q (txt q) ++ R) (tkP k q (tk q) ++ ts) := by
  unfold parT tkP
  split
  · exact hq h hR
  · have h1 := (hq (h.mark (c := 41) (by decide) lex_1.2.2.2.2.2.2.1) sf_mark.2.2.2.2.1).mark (c := 40) (by decide) lex_1.2.2.2.2.2.1
    simpa using h1

theorem word_at {c : Int} (hc : 3 ≤ c ∧ c ≤ 11) : ∃ d t, wordT c = d :: t ∧ isL d = true ∧ ∀ x ∈ t, (isL x || isD x) = true := by
  have e : c = 3 ∨ c = 4 ∨ c = 5 ∨ c = 6 ∨ c = 7 ∨ c = 8 ∨ c = 9 ∨ c = 10 ∨ c = 11 := by omega
  rcases e with rfl | rfl | rfl | rfl | rfl | rfl | rfl | rfl | rfl <;> exact ⟨_, _, rfl, by decide, by decide⟩

theorem lx_word {c : Int} (hc : 3 ≤ c ∧ c ≤ 11) {R : List UInt8} {ts : List Tk} (h : Lx R ts) (hR : Sf R) : Lx (wordT c ++ R) (tkW c :: ts) := by
  have := h.word hR (word_at hc)
  simpa [wordT, tkW] using this

theorem lx_txt {d : Nat} {q : Q} (hq : OkW d q) : ∀ {R : List UInt8} {ts : List Tk}, Lx R ts → Sf R → Lx (txt q ++ R) (tk q ++ ts) := by
  induction hq with
  | num d n h h' => exact fun hR hs => lx_num h h' hR hs
  | pick d m h => exact fun hR _ => lx_mat h hR
  | over d c m sp hc h hs =>
    intro R ts hR _
    have e1 : txt (.mk c 0 m sp [] .none .none) = wordT c ++ [40] ++ matT m ++ [91] ++ Lib.itoa sp ++ [93, 41] := by
      unfold txt; rw [if_neg (by omega), if_neg (by omega), if_pos hc]
    have e2 : tk (.mk c 0 m sp [] .none .none) = tkW c :: mk1 40 :: tkM m ++ [mk1 91, tkN sp, mk1 93, mk1 41] := by
      unfold tk; rw [if_neg (by omega), if_neg (by omega), if_pos hc]
    have h1 := (hR.mark (c := 41) (by decide) lex_1.2.2.2.2.2.2.1).mark (c := 93) (by decide) lex_1.2.2.2.2.1
    have h2 := (lx_num (n := sp) (by omega) (by omega) h1 sf_mark.2.2.2.2.2.2.1).mark (c := 91) (by decide) lex_1.2.2.2.1
    have h3 := (lx_mat h h2).mark (c := 40) (by decide) lex_1.2.2.2.2.2.1
    have h4 := lx_word (c := c) (by omega) h3 sf_mark.2.2.2.1
    rw [e1, e2]
    simpa using h4
  | of d e c nm q hc hn _ he ih =>
    intro R ts hR hs
    have e1 : txt (.mk c 0 [] 0 nm q .none) = wordT c ++ [40] ++ parT 0 q (txt q) ++ [41] ++ byT nm := by
      conv => lhs; unfold txt
      rw [if_neg (by omega), if_neg (by omega), if_neg (by omega), if_pos hc]
    have e2 : tk (.mk c 0 [] 0 nm q .none) = tkW c :: mk1 40 :: tkP 0 q (tk q) ++ [mk1 41] ++ tkBy nm := by
      conv => lhs; unfold tk
      rw [if_neg (by omega), if_neg (by omega), if_neg (by omega), if_pos hc]
    have h1 := (lx_by hn hR).1.mark (c := 41) (by decide) lex_1.2.2.2.2.2.2.1
    have h2 := (lx_par (k := 0) h1 sf_mark.2.2.2.2.1 ih).mark (c := 40) (by decide) lex_1.2.2.2.2.2.1
    have h3 := lx_word (c := c) (by omega) h2 sf_mark.2.2.2.1
    rw [e1, e2]
    simpa using h3
  | neg d e q _ he ih =>
    intro R ts hR hs
    exact (lx_par (k := 2) hR hs ih).mark (c := 45) (by decide) lex_1.2.2.2.2.2.2.2.2.2.1
  | sum d e f c l r hc _ he _ hf ihl ihr =>
    intro R ts hR hs
    have e1 : txt (.mk c 0 [] 0 [] l r) = parT (wgt c) l (txt l) ++ [32, signT c, 32] ++ parT (wgt c + 1) r (txt r) := by
      conv => lhs; unfold txt
      rw [if_neg (by omega), if_neg (by omega), if_neg (by omega), if_neg (by omega), if_neg (by omega), if_pos (by omega)]
    have e2 : tk (.mk c 0 [] 0 [] l r) = tkP (wgt c) l (tk l) ++ [mk1 (signT c)] ++ tkP (wgt c + 1) r (tk r) := by
      conv => lhs; unfold tk
      rw [if_neg (by omega), if_neg (by omega), if_neg (by omega), if_neg (by omega), if_neg (by omega), if_pos (by omega)]
    have h1 := (lx_par (k := wgt c + 1) hR hs ihr).blank
    have h2 : Lx (signT c :: 32 :: (parT (wgt c + 1) r (txt r) ++ R)) (mk1 (signT c) :: (tkP (wgt c + 1) r (tk r) ++ ts)) := by
      rcases hc with rfl | rfl
      · exact h1.mark (by decide) lex_1.2.2.2.2.2.2.2.2.1
      · exact h1.mark (by decide) lex_1.2.2.2.2.2.2.2.2.2.1
    have h3 := lx_par (k := wgt c) (q := l) h2.blank sf_mark.2.2.2.2.2.2.2.1 ihl
    rw [e1, e2]
    simpa using h3
  | prod d e f c l r hc _ he _ hf ihl ihr =>
    intro R ts hR hs
    have e1 : txt (.mk c 0 [] 0 [] l r) = parT (wgt c) l (txt l) ++ [32, signT c, 32] ++ parT (wgt c + 1) r (txt r) := by
      conv => lhs; unfold txt
      rw [if_neg (by omega), if_neg (by omega), if_neg (by omega), if_neg (by omega), if_neg (by omega), if_pos (by omega)]
    have e2 : tk (.mk c 0 [] 0 [] l r) = tkP (wgt c) l (tk l) ++ [mk1 (signT c)] ++ tkP (wgt c + 1) r (tk r) := by
      conv => lhs; unfold tk
      rw [if_neg (by omega), if_neg (by omega), if_neg (by omega), if_neg (by omega), if_neg (by omega), if_pos (by omega)]
    have h1 := (lx_par (k := wgt c + 1) hR hs ihr).blank
    have h2 : Lx (signT c :: 32 :: (parT (wgt c + 1) r (txt r) ++ R)) (mk1 (signT c) :: (tkP (wgt c + 1) r (tk r) ++ ts)) := by
      rcases hc with rfl | rfl
      · exact h1.mark (by decide) lex_1.2.2.2.2.2.2.2.2.2.2.1
      · exact h1.mark (by decide) lex_1.2.2.2.2.2.2.2.2.2.2.2
    have h3 := lx_par (k := wgt c) (q := l) h2.blank sf_mark.2.2.2.2.2.2.2.1 ihl
    rw [e1, e2]
    simpa using h3

end AQ
end Go.Proofs.YtdmnlmohfaafoaeGreatDoor

namespace Go.Proofs.YtdmnlmohfaafoaeGreatDoor
namespace AQ

theorem sl_cons {l : List Tok} {k : Int} {x : ByteArray} {T : List Tk} (h : sl l = (k, x) :: T) : (hd l).kind = k ∧ (hd l).said = x ∧ sl l.tail = T := by
  cases l with
  | nil => cases h
  | cons t r =>
    simp only [sl, List.map_cons, List.cons.injEq, Prod.mk.injEq] at h
    exact ⟨h.1.1, h.1.2, h.2⟩

theorem sl_len (l : List Tok) : (sl l).length = l.length := List.length_map _

theorem has_of {l : List Tok} {k : Int} {x : ByteArray} {T : List Tk} (h : sl l = (k, x) :: T) (y : ByteArray) : has y l = decide (x = y) := by
  unfold has; rw [(sl_cons h).2.1]
theorem need_of {l : List Tok} {k : Int} {x : ByteArray} {T : List Tk} (h : sl l = (k, x) :: T) : need x l = .ok () l.tail := by
  unfold need; rw [has_of h, decide_eq_true rfl]; rfl
theorem needK_of {l : List Tok} {k : Int} {x : ByteArray} {T : List Tk} (h : sl l = (k, x) :: T) : needK k l = .ok (hd l) l.tail := by
  unfold needK; rw [if_pos (sl_cons h).1]

theorem nameR_of {l : List Tok} {x : ByteArray} {T : List Tk} (h : sl l = (0, x) :: T) (hx : LB.name x = true) : nameR l = .ok x l.tail := by
  unfold nameR
  rw [needK_of h]
  show (if LB.name (hd l).said then Res.ok (hd l).said l.tail else _) = _
  rw [(sl_cons h).2.1, if_pos hx]

theorem opR_of {l : List Tok} {o : Int} {T : List Tk} (h0 : 0 ≤ o) (h4 : o < 4) (h : sl l = (3, ops.getD o.toNat ⟨#[]⟩) :: T) : opR l = .ok o l.tail := by
  have e : o = 0 ∨ o = 1 ∨ o = 2 ∨ o = 3 := by omega
  have hh := has_of h
  unfold opR ops
  simp only [opFrom, hh]
  rcases e with rfl | rfl | rfl | rfl <;> rfl

theorem val_of (v : ByteArray) : (⟨(34 :: v.data.toList ++ [34]).toArray⟩ : ByteArray).extract 1 ((⟨(34 :: v.data.toList ++ [34]).toArray⟩ : ByteArray).size - 1) = v := by
  apply LB.toList_inj
  rw [Lib.toList_data, Lib.toList_data]
  have hs : (⟨(34 :: v.data.toList ++ [34]).toArray⟩ : ByteArray).size = v.data.toList.length + 2 := by
    show (34 :: v.data.toList ++ [34]).toArray.size = _
    simp
  rw [hs]
  simp

theorem matR_of {l : List Tok} {m : LB.Mat} {T : List Tk} (hm : LB.name m.nm = true ∧ 0 ≤ m.op ∧ m.op < 4 ∧ LB.valu m.vl = true) (h : sl l = tkI m ++ T) : ∃ l', matR l = .ok m l' ∧ sl l' = T := by
  have h1 : sl l = (0, m.nm) :: (3, ops.getD m.op.toNat ⟨#[]⟩) :: (2, ⟨(34 :: m.vl.data.toList ++ [34]).toArray⟩) :: T := h
  have h2 := (sl_cons h1).2.2
  have h3 := (sl_cons h2).2.2
  have h4 := (sl_cons h3).2.2
  refine ⟨l.tail.tail.tail, ?_, h4⟩
  unfold matR
  rw [nameR_of h1 hm.1]
  show (opR l.tail).andThen _ = _
  rw [opR_of hm.2.1 hm.2.2.1 h2]
  show (needK 2 l.tail.tail).andThen _ = _
  rw [needK_of h3]
  have e : valOf (hd l.tail.tail) = m.vl := by unfold valOf; rw [(sl_cons h3).2.1]; exact val_of m.vl
  show (if LB.valu (valOf (hd l.tail.tail)) then Res.ok (⟨m.nm, m.op, valOf (hd l.tail.tail)⟩ : LB.Mat) l.tail.tail.tail else _) = _
  rw [e, if_pos hm.2.2.2]

theorem loopM_of : ∀ (r : List LB.Mat) (m : LB.Mat) (f : Nat) (l : List Tok) (out : List LB.Mat) (T : List Tk), (∀ x ∈ m :: r, LB.name x.nm = true ∧ 0 ≤ x.op ∧ x.op < 4 ∧ LB.valu x.vl = true) → out.length + (m :: r).length ≤ 8 → r.length < f → sl l = tkI m ++ (r.flatMap fun x => mk1 44 :: tkI x) ++ mk1 125 :: T → ∃ l', loopM f l out = .ok (out ++ m :: r) l' ∧ sl l' = T
  | r, m, f, l, out, T, hm, hlen, hf, h => by
    obtain ⟨g, rfl⟩ : ∃ g, f = g + 1 := ⟨f - 1, by omega⟩
    simp only [List.length_cons] at hlen
    rw [List.append_assoc] at h
    obtain ⟨l1, e1, s1⟩ := matR_of (hm m (by simp)) h
    have e : loopM (g + 1) l out = if has ⟨#[44]⟩ l1 then loopM g l1.tail (out ++ [m]) else (need ⟨#[125]⟩ l1).andThen fun _ r' => .ok (out ++ [m]) r' := by
      show (if out.length = 8 then _ else (matR l).andThen _) = _
      rw [if_neg (by omega), e1]; rfl
    rw [e]
    match r, hm, hlen, hf, s1 with
    | [], _, _, _, s1 =>
      have s1' : sl l1 = mk1 125 :: T := s1
      rw [has_of s1', if_neg (by decide), need_of s1']
      exact ⟨l1.tail, rfl, (sl_cons s1').2.2⟩
    | x :: r, hm, hlen, hf, s1 =>
      have s1' : sl l1 = mk1 44 :: (tkI x ++ (r.flatMap fun x => mk1 44 :: tkI x) ++ mk1 125 :: T) := by
        rw [s1]; simp
      rw [has_of s1', if_pos (by decide)]
      simp only [List.length_cons] at hlen hf
      obtain ⟨l', e2, s2⟩ := loopM_of r x g l1.tail (out ++ [m]) T (fun y hy => hm y (by simp only [List.mem_cons] at hy ⊢; exact .inr hy)) (by simp only [List.length_append, List.length_cons, List.length_nil]; omega) (by omega) (sl_cons s1').2.2
      exact ⟨l', by rw [e2]; simp, s2⟩

theorem someR_of {l : List Tok} {m : List LB.Mat} {T : List Tk} (hm : matsOk m) (h : sl l = tkM m ++ T) : ∃ l', someR l = .ok m l' ∧ sl l' = T := by
  have h1 : sl l = mk1 123 :: (tkIs m ++ mk1 125 :: T) := by rw [h]; simp [tkM]
  have e : someR l = if has ⟨#[125]⟩ l.tail then .ok [] l.tail.tail else loopM 9 l.tail [] := by
    unfold someR; rw [need_of h1]; rfl
  have h2 := (sl_cons h1).2.2
  rw [e]
  cases m with
  | nil =>
    have h3 : sl l.tail = mk1 125 :: T := h2
    rw [has_of h3, if_pos (by decide)]
    exact ⟨_, rfl, (sl_cons h3).2.2⟩
  | cons x r =>
    have h3 : sl l.tail = tkI x ++ (r.flatMap fun x => mk1 44 :: tkI x) ++ mk1 125 :: T := h2
    have hne : ¬ x.nm = (⟨#[125]⟩ : ByteArray) := fun e => by
      have := (hm.2 x (by simp)).1
      rw [e] at this
      exact absurd this (by decide)
    have h4 : sl l.tail = (0, x.nm) :: ((tkI x).tail ++ (r.flatMap fun x => mk1 44 :: tkI x) ++ mk1 125 :: T) := h3
    rw [has_of h4, if_neg (by simpa using hne)]
    have hl := hm.1
    simp only [List.length_cons] at hl
    exact loopM_of r x 9 l.tail [] T hm.2 (by simpa using hl) (by omega) h3

theorem numR_of {l : List Tok} {n : Int} {T : List Tk} (h0 : 0 ≤ n) (h1 : n < 1000000000000000000) (h : sl l = tkN n :: T) : numR l = .ok n l.tail := by
  unfold numR
  rw [needK_of h]
  show Res.ok (digs (hd l).said.data.toList 0) l.tail = _
  rw [(sl_cons h).2.1]
  have := (itoa_facts h0 h1).2.2.2
  show Res.ok (digs (Lib.itoa n) 0) _ = _
  rw [this]

theorem spanR_of {l : List Tok} {n : Int} {T : List Tk} (h0 : 1 ≤ n) (h1 : n ≤ 1099511627776) (h : sl l = tkN n :: T) : spanR l = .ok n l.tail := by
  unfold spanR
  rw [numR_of (by omega) (by omega) h]
  show (if 1099511627776 < n then _ else Res.ok (max n 1) l.tail) = _
  rw [if_neg (by omega), show max n 1 = n by omega]

theorem loopN_of : ∀ (r : List ByteArray) (x : ByteArray) (f : Nat) (l : List Tok) (out : List ByteArray) (T : List Tk), (∀ y ∈ x :: r, LB.name y = true) → out.length + (x :: r).length ≤ 8 → r.length < f → sl l = (0, x) :: (r.flatMap fun y => [mk1 44, (0, y)]) ++ mk1 41 :: T → ∃ l', loopN f l out = .ok (out ++ x :: r) l' ∧ sl l' = T
  | r, x, f, l, out, T, hx, hlen, hf, h => by
    obtain ⟨g, rfl⟩ : ∃ g, f = g + 1 := ⟨f - 1, by omega⟩
    simp only [List.length_cons] at hlen
    have s1 := (sl_cons h).2.2
    have e : loopN (g + 1) l out = if has ⟨#[44]⟩ l.tail then loopN g l.tail.tail (out ++ [x]) else (need ⟨#[41]⟩ l.tail).andThen fun _ r' => .ok (out ++ [x]) r' := by
      show (nameR l).andThen _ = _
      rw [nameR_of h (hx x (by simp))]
      show (if out.length = 8 then _ else _) = _
      rw [if_neg (by omega)]
    rw [e]
    match r, hx, hlen, hf, s1 with
    | [], _, _, _, s1 =>
      have s1' : sl l.tail = mk1 41 :: T := s1
      rw [has_of s1', if_neg (by decide), need_of s1']
      exact ⟨_, rfl, (sl_cons s1').2.2⟩
    | y :: r, hx, hlen, hf, s1 =>
      have s1' : sl l.tail = mk1 44 :: ((0, y) :: (r.flatMap fun y => [mk1 44, (0, y)]) ++ mk1 41 :: T) := by
        rw [s1]; simp
      rw [has_of s1', if_pos (by decide)]
      simp only [List.length_cons] at hlen hf
      obtain ⟨l', e2, s2⟩ := loopN_of r y g l.tail.tail (out ++ [x]) T (fun z hz => hx z (by simp only [List.mem_cons] at hz ⊢; exact .inr hz)) (by simp only [List.length_append, List.length_cons, List.length_nil]; omega) (by omega) (sl_cons s1').2.2
      exact ⟨l', by rw [e2]; simp, s2⟩

/-- What does not go on a ONE; a PROD. -/
def NB (T : List Tk) : Prop := ∀ k x T', T = (k, x) :: T' → x ≠ byW
def NT (T : List Tk) : Prop := NB T ∧ ∀ k x T', T = (k, x) :: T' → x ≠ ⟨#[42]⟩ ∧ x ≠ ⟨#[47]⟩

theorem NB.cons {k : Int} {x : ByteArray} {T : List Tk} (h : x ≠ byW) : NB ((k, x) :: T) := fun _ _ _ e => by cases e; exact h
theorem NT.cons {k : Int} {x : ByteArray} {T : List Tk} (h : x ≠ byW ∧ x ≠ ⟨#[42]⟩ ∧ x ≠ ⟨#[47]⟩) : NT ((k, x) :: T) := ⟨NB.cons h.1, fun _ _ _ e => by cases e; exact h.2⟩

theorem has_nil {l : List Tok} {T : List Tk} (h : sl l = T) {y : ByteArray} (hy : y ≠ ⟨#[]⟩) (hT : ∀ k x T', T = (k, x) :: T' → x ≠ y) : has y l = false := by
  cases T with
  | nil =>
    have : l = [] := by cases l with
      | nil => rfl
      | cons t r => cases h
    subst this
    unfold has hd noTok
    simpa using fun e => hy e.symm
  | cons a T' =>
    obtain ⟨k, x⟩ := a
    rw [has_of h]
    simpa using hT k x T' rfl

/-- A question's tokens, read as a ONE, a PROD, a SUM. -/
def IsO (d : Nat) (q : Q) (ts : List Tk) : Prop := ∀ (l : List Tok) (T : List Tk), sl l = ts ++ T → NB T → ∃ l', oneR d l = .ok q l' ∧ sl l' = T
def IsP (d : Nat) (q : Q) (ts : List Tk) : Prop := ∀ (l : List Tok) (T : List Tk), sl l = ts ++ T → NB T → ∃ l' f, prodR (oneR d) l = chainR (oneR d) ⟨#[42]⟩ ⟨#[47]⟩ 15 f l' q ∧ sl l' = T ∧ l'.length < f
def IsS (d : Nat) (q : Q) (ts : List Tk) : Prop := ∀ (l : List Tok) (T : List Tk), sl l = ts ++ T → NT T → ∃ l' f, sumR (oneR d) l = chainR (prodR (oneR d)) ⟨#[43]⟩ ⟨#[45]⟩ 13 f l' q ∧ sl l' = T ∧ l'.length < f

theorem IsO.p {d : Nat} {q : Q} {ts : List Tk} (h : IsO d q ts) : IsP d q ts := fun l T hl hT => by
  obtain ⟨l', e, s⟩ := h l T hl hT
  refine ⟨l', l'.length + 1, ?_, s, by omega⟩
  unfold prodR; rw [e]; rfl

theorem IsP.done {d : Nat} {q : Q} {ts : List Tk} (h : IsP d q ts) {l : List Tok} {T : List Tk} (hl : sl l = ts ++ T) (hT : NT T) : ∃ l', prodR (oneR d) l = .ok q l' ∧ sl l' = T := by
  obtain ⟨l', f, e, s, hf⟩ := h l T hl hT.1
  obtain ⟨g, rfl⟩ : ∃ g, f = g + 1 := ⟨f - 1, by omega⟩
  refine ⟨l', ?_, s⟩
  rw [e]
  unfold chainR
  rw [has_nil s (by decide) fun k x T' e => (hT.2 k x T' e).1, has_nil s (by decide) fun k x T' e => (hT.2 k x T' e).2]
  rfl

theorem IsP.s {d : Nat} {q : Q} {ts : List Tk} (h : IsP d q ts) : IsS d q ts := fun l T hl hT => by
  obtain ⟨l', e, s⟩ := h.done hl hT
  refine ⟨l', l'.length + 1, ?_, s, by omega⟩
  unfold sumR; rw [e]; rfl

theorem IsS.done {d : Nat} {q : Q} {ts : List Tk} (h : IsS d q ts) {l : List Tok} {T : List Tk} (hl : sl l = ts ++ T) (hT : NT T) (hT' : ∀ k x T', T = (k, x) :: T' → x ≠ ⟨#[43]⟩ ∧ x ≠ ⟨#[45]⟩) : ∃ l', sumR (oneR d) l = .ok q l' ∧ sl l' = T := by
  obtain ⟨l', f, e, s, hf⟩ := h l T hl hT
  obtain ⟨g, rfl⟩ : ∃ g, f = g + 1 := ⟨f - 1, by omega⟩
  refine ⟨l', ?_, s⟩
  rw [e]
  unfold chainR
  rw [has_nil s (by decide) fun k x T' e => (hT' k x T' e).1, has_nil s (by decide) fun k x T' e => (hT' k x T' e).2]
  rfl

/-- In brackets. -/
theorem IsS.par {d : Nat} {q : Q} {ts : List Tk} (h : IsS d q ts) : IsO (d + 1) q (mk1 40 :: ts ++ [mk1 41]) := fun l T hl _ => by
  have h1 : sl l = mk1 40 :: (ts ++ mk1 41 :: T) := by rw [hl]; simp
  obtain ⟨l', e, s⟩ := h.done (sl_cons h1).2.2 (NT.cons (by decide)) (fun k x T' e => by cases e; decide)
  refine ⟨l'.tail, ?_, (sl_cons s).2.2⟩
  unfold oneR
  rw [has_of h1, if_neg (by decide), has_of h1, if_pos (by decide), e]
  show (need ⟨#[41]⟩ l').andThen _ = _
  rw [need_of s]
  rfl

theorem word_code {c : Int} (hc : 3 ≤ c ∧ c ≤ 11) : codeOf (tkW c).2 = c ∧ (tkW c).2 ≠ ⟨#[45]⟩ ∧ (tkW c).2 ≠ ⟨#[40]⟩ ∧ (tkW c).2 ≠ ⟨#[123]⟩ := by
  have e : c = 3 ∨ c = 4 ∨ c = 5 ∨ c = 6 ∨ c = 7 ∨ c = 8 ∨ c = 9 ∨ c = 10 ∨ c = 11 := by omega
  rcases e with rfl | rfl | rfl | rfl | rfl | rfl | rfl | rfl | rfl <;> decide

theorem oneR_word {d : Nat} {c : Int} (hc : 3 ≤ c ∧ c ≤ 11) {l : List Tok} {T : List Tk} (h : sl l = tkW c :: T) : oneR (d + 1) l = if c ≤ 7 then overR c l else ofR (sumR (oneR d)) c l := by
  obtain ⟨h1, h2, h3, h4⟩ := word_code hc
  have h' : sl l = (0, (tkW c).2) :: T := h
  have hk := (sl_cons h').1
  have hs := (sl_cons h').2.1
  unfold oneR
  rw [has_of h', if_neg (by simpa using h2), has_of h', if_neg (by simpa using h3), has_of h', if_neg (by simpa using h4), hk, if_neg (by decide), hs, h1]
  by_cases h7 : c ≤ 7
  · rw [if_pos ⟨hc.1, h7⟩, if_pos h7]
  · rw [if_neg (by omega), if_pos (by omega), if_neg h7]

/-- What has brackets or not, by what is read of it. -/
theorem lift2 {d e : Nat} {q : Q} (he : Lv d 2 e q) (hO : wgt q.code = 2 → IsO e q (tk q)) (hS : IsS e q (tk q)) : IsO d q (tkP 2 q (tk q)) := by
  have hw : wgt q.code ≤ 2 := by unfold wgt; split; · omega
                                 split <;> omega
  unfold tkP
  rcases he with ⟨h, rfl⟩ | ⟨h, rfl⟩
  · rw [if_pos h]; exact hO (by omega)
  · rw [if_neg (by omega)]; exact hS.par
theorem lift1 {d e : Nat} {q : Q} (he : Lv d 1 e q) (hP : 1 ≤ wgt q.code → IsP e q (tk q)) (hS : IsS e q (tk q)) : IsP d q (tkP 1 q (tk q)) := by
  unfold tkP
  rcases he with ⟨h, rfl⟩ | ⟨h, rfl⟩
  · rw [if_pos h]; exact hP h
  · rw [if_neg (by omega)]; exact hS.par.p
theorem lift0 {d e : Nat} {q : Q} (he : Lv d 0 e q) (hS : IsS e q (tk q)) : IsS d q (tkP 0 q (tk q)) := by
  unfold tkP
  rcases he with ⟨h, rfl⟩ | ⟨h, rfl⟩
  · rw [if_pos h]; exact hS
  · exact absurd h (Nat.not_lt_zero _)

theorem chainR_x {below : List Tok → Res Q} {x y : ByteArray} {c : Int} {f : Nat} {l l' : List Tok} {a b : Q} (hx : has x l = true) (hb : below l.tail = .ok b l') : chainR below x y c (f + 1) l a = chainR below x y c f l' (.mk c 0 [] 0 [] a b) := by
  conv => lhs; unfold chainR
  rw [if_pos hx, hb]; rfl
theorem chainR_y {below : List Tok → Res Q} {x y : ByteArray} {c : Int} {f : Nat} {l l' : List Tok} {a b : Q} (hx : has x l = false) (hy : has y l = true) (hb : below l.tail = .ok b l') : chainR below x y c (f + 1) l a = chainR below x y c f l' (.mk (c + 1) 0 [] 0 [] a b) := by
  conv => lhs; unfold chainR
  rw [if_neg (by rw [hx]; decide), if_pos hy, hb]; rfl

theorem read_tk {d : Nat} {q : Q} (hq : OkW d q) : (wgt q.code = 2 → IsO d q (tk q)) ∧ (1 ≤ wgt q.code → IsP d q (tk q)) ∧ IsS d q (tk q) := by
  have all : ∀ {d : Nat} {q : Q}, IsO d q (tk q) → (wgt q.code = 2 → IsO d q (tk q)) ∧ (1 ≤ wgt q.code → IsP d q (tk q)) ∧ IsS d q (tk q) := fun h => ⟨fun _ => h, fun _ => h.p, h.p.s⟩
  induction hq with
  | num d n h h' =>
    refine all fun l T hl _ => ?_
    have h1 : sl l = tkN n :: T := hl
    have hn : ∀ y : ByteArray, (∀ c t, y.data.toList = c :: t → isD c = false) → has y l = false := fun y hy => by
      rw [has_of h1]
      simp only [decide_eq_false_iff_not]
      intro e
      obtain ⟨a, b, _⟩ := itoa_facts h h'
      have e' : Lib.itoa n = y.data.toList := by rw [← e]
      cases e2 : Lib.itoa n with
      | nil => exact a e2
      | cons c t =>
        have := b c (by rw [e2]; simp)
        rw [hy c t (e'.symm.trans e2)] at this
        cases this
    refine ⟨l.tail, ?_, (sl_cons h1).2.2⟩
    unfold oneR
    rw [hn _ (by intro c t e; cases e; decide), if_neg (by decide), hn _ (by intro c t e; cases e; decide), if_neg (by decide), hn _ (by intro c t e; cases e; decide), if_neg (by decide), if_pos (sl_cons h1).1, numR_of h h' h1]
    rfl
  | pick d m h =>
    refine all fun l T hl _ => ?_
    have h0 : sl l = tkM m ++ T := hl
    have h1 : sl l = mk1 123 :: (tkIs m ++ [mk1 125] ++ T) := h0
    obtain ⟨l', e, s⟩ := someR_of h h0
    refine ⟨l', ?_, s⟩
    unfold oneR
    rw [has_of h1, if_neg (by decide), has_of h1, if_neg (by decide), has_of h1, if_pos (by decide), e]
    rfl
  | over d c m sp hc h hs =>
    have hw : 3 ≤ c ∧ c ≤ 11 := by omega
    refine all fun l T hl _ => ?_
    have e2 : tk (.mk c 0 m sp [] .none .none) = tkW c :: mk1 40 :: tkM m ++ [mk1 91, tkN sp, mk1 93, mk1 41] := by
      unfold tk; rw [if_neg (by omega), if_neg (by omega), if_pos hc]
    rw [e2] at hl
    have h1 : sl l = tkW c :: mk1 40 :: (tkM m ++ (mk1 91 :: tkN sp :: mk1 93 :: mk1 41 :: T)) := by rw [hl]; simp
    have h2 := (sl_cons h1).2.2
    have h3 := (sl_cons h2).2.2
    obtain ⟨l3, e3, h4⟩ := someR_of h h3
    have h5 := (sl_cons h4).2.2
    have h6 := (sl_cons h5).2.2
    have h7 := (sl_cons h6).2.2
    have h8 := (sl_cons h7).2.2
    refine ⟨l3.tail.tail.tail.tail, ?_, h8⟩
    rw [oneR_word hw h1, if_pos hc.2]
    unfold overR
    rw [needK_of h1]
    show (need ⟨#[40]⟩ l.tail).andThen _ = _
    rw [need_of h2]
    show (someR l.tail.tail).andThen _ = _
    rw [e3]
    show (need ⟨#[91]⟩ l3).andThen _ = _
    rw [need_of h4]
    show (spanR l3.tail).andThen _ = _
    rw [spanR_of hs.1 hs.2 h5]
    show (need ⟨#[93]⟩ l3.tail.tail).andThen _ = _
    rw [need_of h6]
    show (need ⟨#[41]⟩ l3.tail.tail.tail).andThen _ = _
    rw [need_of h7]
    rfl
  | of d e c nm q hc hn _ he ih =>
    have hw : 3 ≤ c ∧ c ≤ 11 := by omega
    refine all fun l T hl hT => ?_
    have e2 : tk (.mk c 0 [] 0 nm q .none) = tkW c :: mk1 40 :: tkP 0 q (tk q) ++ [mk1 41] ++ tkBy nm := by
      conv => lhs; unfold tk
      rw [if_neg (by omega), if_neg (by omega), if_neg (by omega), if_pos hc]
    rw [e2] at hl
    have h1 : sl l = tkW c :: mk1 40 :: (tkP 0 q (tk q) ++ (mk1 41 :: (tkBy nm ++ T))) := by rw [hl]; simp
    have h2 := (sl_cons h1).2.2
    have h3 := (sl_cons h2).2.2
    obtain ⟨l3, e3, h4⟩ := (lift0 he ih.2.2).done h3 (NT.cons (by decide)) (fun k x T' e => by cases e; decide)
    have h5 := (sl_cons h4).2.2
    have key : ofR (sumR (oneR d)) c l = if has ⟨#[98, 121]⟩ l3.tail then (namesR l3.tail.tail).andThen fun nm r5 => .ok (.mk c 0 [] 0 nm q .none) r5 else .ok (.mk c 0 [] 0 [] q .none) l3.tail := by
      unfold ofR
      rw [needK_of h1]
      show (need ⟨#[40]⟩ l.tail).andThen _ = _
      rw [need_of h2]
      show (sumR (oneR d) l.tail.tail).andThen _ = _
      rw [e3]
      show (need ⟨#[41]⟩ l3).andThen _ = _
      rw [need_of h4]
      rfl
    rw [oneR_word hw h1, if_neg (by omega), key]
    cases nm with
    | nil =>
      have h6 : sl l3.tail = T := h5
      have h7 : has ⟨#[98, 121]⟩ l3.tail = false := has_nil h6 (by decide) hT
      rw [h7]
      exact ⟨_, rfl, h6⟩
    | cons x r =>
      have h6 : sl l3.tail = (0, byW) :: mk1 40 :: ((0, x) :: (r.flatMap fun y => [mk1 44, (0, y)]) ++ mk1 41 :: T) := by rw [h5]; simp [tkBy, tkNs]
      have h7 := (sl_cons h6).2.2
      have h8 := (sl_cons h7).2.2
      have hl8 := hn.1
      simp only [List.length_cons] at hl8
      obtain ⟨l', e9, s9⟩ := loopN_of r x 9 l3.tail.tail.tail [] T hn.2 (by simpa using hl8) (by omega) h8
      refine ⟨l', ?_, s9⟩
      rw [has_of h6, if_pos (by decide)]
      unfold namesR
      rw [need_of h7]
      show (loopN 9 l3.tail.tail.tail []).andThen _ = _
      rw [e9]
      rfl
  | neg d e q _ he ih =>
    refine all fun l T hl hT => ?_
    have h1 : sl l = mk1 45 :: (tkP 2 q (tk q) ++ T) := hl
    obtain ⟨l', e, s⟩ := lift2 he ih.1 ih.2.2 l.tail T (sl_cons h1).2.2 hT
    refine ⟨l', ?_, s⟩
    unfold oneR
    rw [has_of h1, if_pos (by decide), e]
    rfl
  | sum d e f c l r hc _ he _ hf ihl ihr =>
    have hw : wgt (Q.mk c 0 [] 0 [] l r).code = 0 := by show wgt c = 0; unfold wgt; rw [if_pos hc]
    refine ⟨fun h => by omega, fun h => by omega, fun ll T hl hT => ?_⟩
    have e2 : tk (.mk c 0 [] 0 [] l r) = tkP 0 l (tk l) ++ [mk1 (signT c)] ++ tkP 1 r (tk r) := by
      conv => lhs; unfold tk
      rw [if_neg (by omega), if_neg (by omega), if_neg (by omega), if_neg (by omega), if_neg (by omega), if_pos (by omega), show wgt c = 0 from hw]
    rw [e2, List.append_assoc, List.append_assoc] at hl
    have hsg : (c = 13 ∧ signT c = 43) ∨ (c = 14 ∧ signT c = 45) := by
      rcases hc with rfl | rfl
      · exact .inl ⟨rfl, rfl⟩
      · exact .inr ⟨rfl, rfl⟩
    obtain ⟨l1, f1, e1, s1, hf1⟩ := lift0 he ihl.2.2 ll _ hl (by
      rcases hsg with ⟨_, h⟩ | ⟨_, h⟩ <;> (rw [h]; exact NT.cons (by decide)))
    have s1' : sl l1 = mk1 (signT c) :: (tkP 1 r (tk r) ++ T) := s1
    obtain ⟨l2, e3, s3⟩ := (lift1 hf ihr.2.1 ihr.2.2).done (sl_cons s1').2.2 hT
    obtain ⟨g, rfl⟩ : ∃ g, f1 = g + 1 := ⟨f1 - 1, by omega⟩
    have hlt : l2.length < g := by
      have h1 := sl_len l1
      have h2 := sl_len l2
      rw [s1'] at h1
      rw [s3] at h2
      simp only [List.length_cons, List.length_append] at h1
      omega
    refine ⟨l2, g, ?_, s3, hlt⟩
    rw [e1]
    rcases hsg with ⟨rfl, h⟩ | ⟨rfl, h⟩
    · rw [h] at s1'
      exact chainR_x (by rw [has_of s1']; decide) e3
    · rw [h] at s1'
      exact chainR_y (by rw [has_of s1']; decide) (by rw [has_of s1']; decide) e3
  | prod d e f c l r hc _ he _ hf ihl ihr =>
    have hw : wgt (Q.mk c 0 [] 0 [] l r).code = 1 := by show wgt c = 1; unfold wgt; rw [if_neg (by omega), if_pos hc]
    have key : IsP d (.mk c 0 [] 0 [] l r) (tk (.mk c 0 [] 0 [] l r)) := fun ll T hl hT => by
      have e2 : tk (.mk c 0 [] 0 [] l r) = tkP 1 l (tk l) ++ [mk1 (signT c)] ++ tkP 2 r (tk r) := by
        conv => lhs; unfold tk
        rw [if_neg (by omega), if_neg (by omega), if_neg (by omega), if_neg (by omega), if_neg (by omega), if_pos (by omega), show wgt c = 1 from hw]
      rw [e2, List.append_assoc, List.append_assoc] at hl
      have hsg : (c = 15 ∧ signT c = 42) ∨ (c = 16 ∧ signT c = 47) := by
        rcases hc with rfl | rfl
        · exact .inl ⟨rfl, rfl⟩
        · exact .inr ⟨rfl, rfl⟩
      obtain ⟨l1, f1, e1, s1, hf1⟩ := lift1 he ihl.2.1 ihl.2.2 ll _ hl (by
        rcases hsg with ⟨_, h⟩ | ⟨_, h⟩ <;> (rw [h]; exact NB.cons (by decide)))
      have s1' : sl l1 = mk1 (signT c) :: (tkP 2 r (tk r) ++ T) := s1
      obtain ⟨l2, e3, s3⟩ := lift2 hf ihr.1 ihr.2.2 l1.tail T (sl_cons s1').2.2 hT
      obtain ⟨g, rfl⟩ : ∃ g, f1 = g + 1 := ⟨f1 - 1, by omega⟩
      have hlt : l2.length < g := by
        have h1 := sl_len l1
        have h2 := sl_len l2
        rw [s1'] at h1
        rw [s3] at h2
        simp only [List.length_cons, List.length_append] at h1
        omega
      refine ⟨l2, g, ?_, s3, hlt⟩
      rw [e1]
      rcases hsg with ⟨rfl, h⟩ | ⟨rfl, h⟩
      · rw [h] at s1'
        exact chainR_x (by rw [has_of s1']; decide) e3
      · rw [h] at s1'
        exact chainR_y (by rw [has_of s1']; decide) (by rw [has_of s1']; decide) e3
    exact ⟨fun h => by omega, fun _ => key, key.s⟩

end AQ
end Go.Proofs.YtdmnlmohfaafoaeGreatDoor

namespace Go.Proofs.YtdmnlmohfaafoaeGreatDoor
namespace AQ

/-- The last token is the end. -/
def Ends (l : List Tok) : Prop := ∃ l0 p, l = l0 ++ [⟨4, ⟨#[]⟩, p⟩]

theorem Ends.pos {l : List Tok} (h : Ends l) : 0 < l.length := by
  obtain ⟨l0, p, rfl⟩ := h; simp

theorem Ends.tail {l : List Tok} (h : Ends l) (hk : (hd l).kind ≠ 4 ∨ (hd l).said ≠ ⟨#[]⟩) : Ends l.tail := by
  obtain ⟨l0, p, rfl⟩ := h
  cases l0 with
  | nil => rcases hk with hk | hk <;> exact absurd rfl hk
  | cons t r => exact ⟨r, p, rfl⟩

/-- From here to there. -/
structure Goes (l r : List Tok) : Prop where
  suf : r <:+ l
  ends : Ends l → Ends r

theorem Goes.refl (l : List Tok) : Goes l l := ⟨List.suffix_refl _, fun h => h⟩
theorem Goes.trans {a b c : List Tok} (h : Goes a b) (k : Goes b c) : Goes a c := ⟨k.suf.trans h.suf, fun e => k.ends (h.ends e)⟩

theorem has_goes {x : ByteArray} {l : List Tok} (hx : x ≠ ⟨#[]⟩) (h : has x l = true) : Goes l l.tail ∧ l.tail.length + 1 = l.length := by
  have hs : (hd l).said = x := by simpa [has] using h
  refine ⟨⟨List.tail_suffix _, fun e => e.tail (.inr (by rw [hs]; exact hx))⟩, ?_⟩
  cases l with
  | nil => exact absurd hs (fun e => hx e.symm)
  | cons t r => simp

theorem need_inv {x : ByteArray} {l r : List Tok} {u : Unit} (hx : x ≠ ⟨#[]⟩) (h : need x l = .ok u r) : Goes l r ∧ r.length + 1 = l.length := by
  unfold need at h
  split at h
  · rename_i h1
    cases h
    exact has_goes hx h1
  · cases h

theorem needK_inv {k : Int} {l r : List Tok} {t : Tok} (hk : k ≠ 4) (h : needK k l = .ok t r) : (t ∈ l ∧ t.kind = k) ∧ Goes l r ∧ r.length + 1 = l.length := by
  unfold needK at h
  split at h
  · rename_i h1
    cases h
    cases l with
    | nil => exact absurd h1.symm hk
    | cons t l =>
      refine ⟨⟨by simp [hd], h1⟩, ⟨List.tail_suffix _, fun e => e.tail (.inl (by rw [h1]; exact hk))⟩, by simp⟩
  · cases h

theorem andThen_inv {α β : Type} {x : Res α} {f : α → List Tok → Res β} {b : β} {r : List Tok} (h : x.andThen f = .ok b r) : ∃ a l, x = .ok a l ∧ f a l = .ok b r := by
  cases x with
  | ok a l => exact ⟨a, l, rfl, h⟩
  | bad e p => cases h

theorem nameR_inv {l r : List Tok} {n : ByteArray} (h : nameR l = .ok n r) : LB.name n = true ∧ Goes l r ∧ r.length + 1 = l.length := by
  obtain ⟨t, l1, h1, h2⟩ := andThen_inv h
  obtain ⟨_, hg, hn⟩ := needK_inv (by decide) h1
  split at h2
  · rename_i h3
    cases h2
    exact ⟨h3, hg, hn⟩
  · cases h2

theorem opFrom_inv {l r : List Tok} {o : Int} : ∀ (w : List ByteArray) (i : Int), (∀ x ∈ w, x ≠ ⟨#[]⟩) → opFrom l w i = .ok o r → i ≤ o ∧ o < i + w.length ∧ Goes l r ∧ r.length + 1 = l.length
  | [], _, _, h => by cases h
  | x :: w, i, hw, h => by
    unfold opFrom at h
    split at h
    · rename_i h1
      cases h
      obtain ⟨a, b⟩ := has_goes (hw x (by simp)) h1
      exact ⟨by omega, by simp only [List.length_cons]; omega, a, b⟩
    · obtain ⟨a, b, c⟩ := opFrom_inv w (i + 1) (fun y hy => hw y (by simp [hy])) h
      exact ⟨by omega, by simp only [List.length_cons]; omega, c⟩

theorem opR_inv {l r : List Tok} {o : Int} (h : opR l = .ok o r) : 0 ≤ o ∧ o < 4 ∧ Goes l r ∧ r.length + 1 = l.length := opFrom_inv ops 0 (by decide) h

abbrev matOk (x : LB.Mat) : Prop := LB.name x.nm = true ∧ 0 ≤ x.op ∧ x.op < 4 ∧ LB.valu x.vl = true

theorem matR_inv {l r : List Tok} {m : LB.Mat} (h : matR l = .ok m r) : matOk m ∧ Goes l r ∧ r.length + 3 = l.length := by
  obtain ⟨n, l1, h1, h⟩ := andThen_inv h
  obtain ⟨o, l2, h2, h⟩ := andThen_inv h
  obtain ⟨t, l3, h3, h⟩ := andThen_inv h
  obtain ⟨a1, g1, n1⟩ := nameR_inv h1
  obtain ⟨a2, b2, g2, n2⟩ := opR_inv h2
  obtain ⟨_, g3, n3⟩ := needK_inv (by decide) h3
  split at h
  · rename_i hv
    cases h
    exact ⟨⟨a1, a2, b2, hv⟩, (g1.trans g2).trans g3, by omega⟩
  · cases h

theorem loopM_inv : ∀ (f : Nat) (l : List Tok) (out m : List LB.Mat) (r : List Tok), loopM f l out = .ok m r → (∀ x ∈ out, matOk x) → out.length ≤ 8 → matsOk m ∧ Goes l r ∧ out.length < m.length ∧ 4 * m.length + r.length = l.length + 4 * out.length
  | 0, _, _, _, _, h, _, _ => by cases h
  | f + 1, l, out, m, r, h, ho, h8 => by
    unfold loopM at h
    split at h
    · cases h
    · rename_i hne
      obtain ⟨x, l1, h1, h⟩ := andThen_inv h
      obtain ⟨a1, g1, n1⟩ := matR_inv h1
      have ho' : ∀ y ∈ out ++ [x], matOk y := fun y hy => by
        rcases List.mem_append.1 hy with hy | hy
        · exact ho y hy
        · have : y = x := by simpa using hy
          subst this; exact a1
      have hl' : (out ++ [x]).length = out.length + 1 := by simp
      split at h
      · rename_i h2
        obtain ⟨g2, n2⟩ := has_goes (by decide) h2
        obtain ⟨a, b, c, d⟩ := loopM_inv f l1.tail (out ++ [x]) m r h ho' (by omega)
        exact ⟨a, (g1.trans g2).trans b, by omega, by omega⟩
      · obtain ⟨_, l2, h3, h⟩ := andThen_inv h
        obtain ⟨g3, n3⟩ := need_inv (by decide) h3
        cases h
        exact ⟨⟨by omega, ho'⟩, g1.trans g3, by omega, by omega⟩

theorem tkIs_len : ∀ (x : LB.Mat) (r : List LB.Mat), (tkIs (x :: r)).length + 1 = 4 * (x :: r).length
  | x, r => by
    have : ∀ r : List LB.Mat, (r.flatMap fun x => mk1 44 :: tkI x).length = 4 * r.length := fun r => by
      induction r with
      | nil => rfl
      | cons y r ih => rw [List.flatMap_cons, List.length_append, ih]; simp [tkI]; omega
    show (tkI x ++ _).length + 1 = _
    rw [List.length_append, this]
    simp [tkI]; omega

theorem someR_inv {l r : List Tok} {m : List LB.Mat} (h : someR l = .ok m r) : matsOk m ∧ Goes l r ∧ (tkM m).length + r.length = l.length := by
  obtain ⟨_, l1, h1, h⟩ := andThen_inv h
  obtain ⟨g1, n1⟩ := need_inv (by decide) h1
  split at h
  · rename_i h2
    obtain ⟨g2, n2⟩ := has_goes (by decide) h2
    cases h
    exact ⟨⟨by simp, by simp⟩, g1.trans g2, by simp [tkM, tkIs]; omega⟩
  · obtain ⟨a, b, c, d⟩ := loopM_inv 9 l1 [] m r h (by simp) (by simp)
    refine ⟨a, g1.trans b, ?_⟩
    cases m with
    | nil => simp at c
    | cons x t =>
      have h3 := tkIs_len x t
      simp only [List.length_nil] at d
      unfold tkM
      rw [List.length_append, List.length_cons]
      simp only [List.length_cons, List.length_nil] at *
      omega

/-- Numbers are digits, and few. -/
def FitT (t : Tok) : Prop := (t.kind = 1 → (∀ c ∈ t.said.data.toList, isD c = true) ∧ t.said.data.toList.length ≤ 18 ∧ t.said.data.toList ≠ []) ∧ (t.kind = 2 → 2 ≤ t.said.data.toList.length) ∧ t.said.data.toList.length ≤ 1000000000
def FitL (l : List Tok) : Prop := ∀ t ∈ l, FitT t
theorem FitL.go {l r : List Tok} (h : FitL l) (g : Goes l r) : FitL r := fun t ht => h t (g.suf.mem ht)

theorem digs_bound : ∀ (x : List UInt8) (n : Int), 0 ≤ n → (∀ c ∈ x, isD c = true) → 0 ≤ digs x n ∧ digs x n < (n + 1) * 10 ^ x.length
  | [], n, hn, _ => by simp [digs]; omega
  | c :: x, n, hn, hx => by
    have hc : 48 ≤ c.toNat ∧ c.toNat ≤ 57 := by simpa [isD, LB.digit] using hx c (by simp)
    obtain ⟨a, b⟩ := digs_bound x (n * 10 + ((c.toNat : Int) - 48)) (by omega) fun d hd => hx d (by simp [hd])
    refine ⟨a, Int.lt_of_lt_of_le b ?_⟩
    have e : (n + 1) * (10 : Int) ^ (x.length + 1) = (n + 1) * 10 * 10 ^ x.length := by rw [Int.pow_succ, Int.mul_assoc, Int.mul_comm (10 ^ x.length) 10]
    rw [List.length_cons, e]
    refine Int.mul_le_mul_of_nonneg_right (by omega) ?_
    exact Int.le_of_lt (Int.pow_pos (by decide))

theorem numR_inv {l r : List Tok} {n : Int} (hf : FitL l) (h : numR l = .ok n r) : 0 ≤ n ∧ n < 1000000000000000000 ∧ Goes l r ∧ r.length + 1 = l.length := by
  obtain ⟨t, l1, h1, h⟩ := andThen_inv h
  obtain ⟨⟨ht, hk⟩, g, hn⟩ := needK_inv (by decide) h1
  cases h
  obtain ⟨hd', hl, _⟩ := (hf t ht).1 hk
  obtain ⟨a, b⟩ := digs_bound t.said.data.toList 0 (by omega) hd'
  refine ⟨a, Int.lt_of_lt_of_le b ?_, g, hn⟩
  have : (10 : Nat) ^ t.said.data.toList.length ≤ 10 ^ 18 := Nat.pow_le_pow_right (by omega) hl
  have h3 : ((10 ^ t.said.data.toList.length : Nat) : Int) ≤ ((10 ^ 18 : Nat) : Int) := by exact_mod_cast this
  simpa using h3

theorem spanR_inv {l r : List Tok} {n : Int} (hf : FitL l) (h : spanR l = .ok n r) : 1 ≤ n ∧ n ≤ 1099511627776 ∧ Goes l r ∧ r.length + 1 = l.length := by
  obtain ⟨k, l1, h1, h⟩ := andThen_inv h
  obtain ⟨a, b, g, hn⟩ := numR_inv hf h1
  split at h
  · cases h
  · cases h
    exact ⟨by omega, by omega, g, hn⟩

theorem loopN_inv : ∀ (f : Nat) (l : List Tok) (out m : List ByteArray) (r : List Tok), loopN f l out = .ok m r → (∀ x ∈ out, LB.name x = true) → out.length ≤ 8 → namesOk m ∧ Goes l r ∧ out.length < m.length ∧ 2 * m.length + r.length = l.length + 2 * out.length
  | 0, _, _, _, _, h, _, _ => by cases h
  | f + 1, l, out, m, r, h, ho, h8 => by
    unfold loopN at h
    obtain ⟨x, l1, h1, h⟩ := andThen_inv h
    obtain ⟨a1, g1, n1⟩ := nameR_inv h1
    split at h
    · cases h
    · have ho' : ∀ y ∈ out ++ [x], LB.name y = true := fun y hy => by
        rcases List.mem_append.1 hy with hy | hy
        · exact ho y hy
        · have : y = x := by simpa using hy
          subst this; exact a1
      have hl' : (out ++ [x]).length = out.length + 1 := by simp
      split at h
      · rename_i h2
        obtain ⟨g2, n2⟩ := has_goes (by decide) h2
        obtain ⟨a, b, c, d⟩ := loopN_inv f l1.tail (out ++ [x]) m r h ho' (by omega)
        exact ⟨a, (g1.trans g2).trans b, by omega, by omega⟩
      · obtain ⟨_, l2, h3, h⟩ := andThen_inv h
        obtain ⟨g3, n3⟩ := need_inv (by decide) h3
        cases h
        exact ⟨⟨by omega, ho'⟩, g1.trans g3, by omega, by omega⟩

theorem namesR_inv {l r : List Tok} {m : List ByteArray} (h : namesR l = .ok m r) : namesOk m ∧ Goes l r ∧ (tkBy m).length + r.length = l.length + 1 := by
  obtain ⟨_, l1, h1, h⟩ := andThen_inv h
  obtain ⟨g1, n1⟩ := need_inv (by decide) h1
  obtain ⟨a, b, c, d⟩ := loopN_inv 9 l1 [] m r h (by simp) (by simp)
  refine ⟨a, g1.trans b, ?_⟩
  cases m with
  | nil => simp at c
  | cons x t =>
    have : ∀ r : List ByteArray, (r.flatMap fun y => [mk1 44, ((0 : Int), y)]).length = 2 * r.length := fun r => by
      induction r with
      | nil => rfl
      | cons y r ih => rw [List.flatMap_cons, List.length_append, ih]; simp; omega
    unfold tkBy
    rw [if_neg (by simp)]
    simp only [tkNs, List.length_append, List.length_cons, List.length_nil, this] at *
    omega

def cost (k : Nat) (q : Q) : Nat := (tkP k q (tk q)).length
theorem cost_le (k : Nat) (q : Q) : cost k q ≤ cost (k + 1) q := by
  unfold cost tkP
  split
  · split
    · exact Nat.le_refl _
    · simp; omega
  · rw [if_neg (by omega)]; exact Nat.le_refl _
theorem cost_zero (q : Q) : cost 0 q = (tk q).length := by unfold cost tkP; rw [if_pos (Nat.zero_le _)]
theorem cost_par (k : Nat) (q : Q) : cost k q ≤ (tk q).length + 2 := by
  unfold cost tkP
  split
  · omega
  · simp

/-- What is read of some tokens. -/
structure Told (d k : Nat) (l : List Tok) (q : Q) (r : List Tok) : Prop where
  ok : OkP d k q
  goes : Goes l r
  few : cost k q + r.length ≤ l.length

theorem overR_inv {d : Nat} {c : Int} {l r : List Tok} {q : Q} (hc : 3 ≤ c ∧ c ≤ 7) (hf : FitL l) (h : overR c l = .ok q r) : Told (d + 1) 2 l q r := by
  obtain ⟨_, l1, h1, h⟩ := andThen_inv h
  obtain ⟨_, l2, h2, h⟩ := andThen_inv h
  obtain ⟨m, l3, h3, h⟩ := andThen_inv h
  obtain ⟨_, l4, h4, h⟩ := andThen_inv h
  obtain ⟨n, l5, h5, h⟩ := andThen_inv h
  obtain ⟨_, l6, h6, h⟩ := andThen_inv h
  obtain ⟨_, l7, h7, h⟩ := andThen_inv h
  cases h
  obtain ⟨_, g1, n1⟩ := needK_inv (by decide) h1
  obtain ⟨g2, n2⟩ := need_inv (by decide) h2
  obtain ⟨a3, g3, n3⟩ := someR_inv h3
  obtain ⟨g4, n4⟩ := need_inv (by decide) h4
  have g := ((g1.trans g2).trans g3).trans g4
  obtain ⟨a5, b5, g5, n5⟩ := spanR_inv (hf.go g) h5
  obtain ⟨g6, n6⟩ := need_inv (by decide) h6
  obtain ⟨g7, n7⟩ := need_inv (by decide) h7
  have hw : wgt c = 2 := by unfold wgt; rw [if_neg (by omega), if_neg (by omega)]
  refine ⟨⟨d + 1, .over d c m n hc a3 ⟨a5, b5⟩, .inl ⟨by show 2 ≤ wgt c; omega, rfl⟩⟩, ((g.trans g5).trans g6).trans g7, ?_⟩
  have e2 : tk (.mk c 0 m n [] .none .none) = tkW c :: mk1 40 :: tkM m ++ [mk1 91, tkN n, mk1 93, mk1 41] := by
    unfold tk; rw [if_neg (by omega), if_neg (by omega), if_pos hc]
  unfold cost tkP
  rw [if_pos (by show 2 ≤ wgt c; omega), e2]
  simp only [List.length_append, List.length_cons, List.length_nil]
  omega

theorem ofR_inv {d : Nat} {c : Int} {sum : List Tok → Res Q} (hs : ∀ l q r, FitL l → sum l = .ok q r → Told d 0 l q r) {l r : List Tok} {q : Q} (hc : 8 ≤ c ∧ c ≤ 11) (hf : FitL l) (h : ofR sum c l = .ok q r) : Told (d + 1) 2 l q r := by
  obtain ⟨_, l1, h1, h⟩ := andThen_inv h
  obtain ⟨_, l2, h2, h⟩ := andThen_inv h
  obtain ⟨p, l3, h3, h⟩ := andThen_inv h
  obtain ⟨_, l4, h4, h⟩ := andThen_inv h
  obtain ⟨_, g1, n1⟩ := needK_inv (by decide) h1
  obtain ⟨g2, n2⟩ := need_inv (by decide) h2
  have T := hs l2 p l3 (hf.go (g1.trans g2)) h3
  obtain ⟨g4, n4⟩ := need_inv (by decide) h4
  have g := ((g1.trans g2).trans T.goes).trans g4
  have hT := T.few
  rw [cost_zero] at hT
  obtain ⟨e, hw, hv⟩ := T.ok
  have hw2 : wgt c = 2 := by unfold wgt; rw [if_neg (by omega), if_neg (by omega)]
  have e2 : ∀ nm, tk (.mk c 0 [] 0 nm p .none) = tkW c :: mk1 40 :: tkP 0 p (tk p) ++ [mk1 41] ++ tkBy nm := fun nm => by
    conv => lhs; unfold tk
    rw [if_neg (by omega), if_neg (by omega), if_neg (by omega), if_pos hc]
  have e3 : (tkP 0 p (tk p)).length = (tk p).length := cost_zero p
  split at h
  · rename_i h5
    obtain ⟨g5, n5⟩ := has_goes (by decide) h5
    obtain ⟨nm, l6, h6, h⟩ := andThen_inv h
    cases h
    obtain ⟨a6, g6, n6⟩ := namesR_inv h6
    refine ⟨⟨d + 1, .of d e c nm p hc a6 hw hv, .inl ⟨by show 2 ≤ wgt c; omega, rfl⟩⟩, (g.trans g5).trans g6, ?_⟩
    unfold cost tkP
    rw [if_pos (by show 2 ≤ wgt c; omega), e2]
    simp only [List.length_append, List.length_cons, List.length_nil, e3]
    omega
  · cases h
    refine ⟨⟨d + 1, .of d e c [] p hc ⟨by simp, by simp⟩ hw hv, .inl ⟨by show 2 ≤ wgt c; omega, rfl⟩⟩, g, ?_⟩
    unfold cost tkP
    rw [if_pos (by show 2 ≤ wgt c; omega), e2]
    simp only [List.length_append, List.length_cons, List.length_nil, e3, tkBy, if_true]
    omega

theorem prodC_inv {d : Nat} {one : List Tok → Res Q} (ho : ∀ l q r, FitL l → one l = .ok q r → Told d 2 l q r) {L : List Tok} (hf : FitL L) : ∀ (f : Nat) (l : List Tok) (q q' : Q) (r : List Tok), chainR one ⟨#[42]⟩ ⟨#[47]⟩ 15 f l q = .ok q' r → Told d 1 L q l → Told d 1 L q' r
  | 0, _, _, _, _, h, _ => by cases h
  | f + 1, l, q, q', r, h, T => by
    have step : ∀ c : Int, (c = 15 ∨ c = 16) → ∀ b l', one l.tail = .ok b l' → Goes l l.tail → l.tail.length + 1 = l.length → Told d 1 L (.mk c 0 [] 0 [] q b) l' := fun c hc b l' hb g n => by
      have Tb := ho l.tail b l' ((hf.go T.goes).go g) hb
      obtain ⟨e1, w1, v1⟩ := T.ok
      obtain ⟨e2, w2, v2⟩ := Tb.ok
      have hw : wgt c = 1 := by unfold wgt; rw [if_neg (by omega), if_pos hc]
      refine ⟨⟨d, .prod d e1 e2 c q b hc w1 v1 w2 v2, .inl ⟨by show 1 ≤ wgt c; omega, rfl⟩⟩, (T.goes.trans g).trans Tb.goes, ?_⟩
      have e : tk (.mk c 0 [] 0 [] q b) = tkP 1 q (tk q) ++ [mk1 (signT c)] ++ tkP 2 b (tk b) := by
        conv => lhs; unfold tk
        rw [if_neg (by omega), if_neg (by omega), if_neg (by omega), if_neg (by omega), if_neg (by omega), if_pos (by omega), hw]
      have h1 := T.few
      have h2 := Tb.few
      unfold cost at *
      conv => lhs; unfold tkP
      rw [if_pos (by show 1 ≤ wgt c; omega), e]
      simp only [List.length_append, List.length_cons, List.length_nil]
      omega
    unfold chainR at h
    split at h
    · rename_i h1
      obtain ⟨g, n⟩ := has_goes (by decide) h1
      obtain ⟨b, l', hb, h⟩ := andThen_inv h
      exact prodC_inv ho hf f l' _ q' r h (step 15 (.inl rfl) b l' hb g n)
    · split at h
      · rename_i h1
        obtain ⟨g, n⟩ := has_goes (by decide) h1
        obtain ⟨b, l', hb, h⟩ := andThen_inv h
        exact prodC_inv ho hf f l' _ q' r h (step 16 (.inr rfl) b l' hb g n)
      · cases h
        exact T

theorem prodR_inv {d : Nat} {one : List Tok → Res Q} (ho : ∀ l q r, FitL l → one l = .ok q r → Told d 2 l q r) {l : List Tok} {q : Q} {r : List Tok} (hf : FitL l) (h : prodR one l = .ok q r) : Told d 1 l q r := by
  obtain ⟨p, l1, h1, h⟩ := andThen_inv h
  have T := ho l p l1 hf h1
  have hc : cost 1 p ≤ cost 2 p := cost_le 1 p
  have hw := T.few
  exact prodC_inv ho hf _ _ _ _ _ h ⟨T.ok.less, T.goes, by omega⟩

theorem sumC_inv {d : Nat} {one : List Tok → Res Q} (ho : ∀ l q r, FitL l → one l = .ok q r → Told d 1 l q r) {L : List Tok} (hf : FitL L) : ∀ (f : Nat) (l : List Tok) (q q' : Q) (r : List Tok), chainR one ⟨#[43]⟩ ⟨#[45]⟩ 13 f l q = .ok q' r → Told d 0 L q l → Told d 0 L q' r
  | 0, _, _, _, _, h, _ => by cases h
  | f + 1, l, q, q', r, h, T => by
    have step : ∀ c : Int, (c = 13 ∨ c = 14) → ∀ b l', one l.tail = .ok b l' → Goes l l.tail → l.tail.length + 1 = l.length → Told d 0 L (.mk c 0 [] 0 [] q b) l' := fun c hc b l' hb g n => by
      have Tb := ho l.tail b l' ((hf.go T.goes).go g) hb
      obtain ⟨e1, w1, v1⟩ := T.ok
      obtain ⟨e2, w2, v2⟩ := Tb.ok
      have hw : wgt c = 0 := by unfold wgt; rw [if_pos hc]
      refine ⟨⟨d, .sum d e1 e2 c q b hc w1 v1 w2 v2, .inl ⟨Nat.zero_le _, rfl⟩⟩, (T.goes.trans g).trans Tb.goes, ?_⟩
      have e : tk (.mk c 0 [] 0 [] q b) = tkP 0 q (tk q) ++ [mk1 (signT c)] ++ tkP 1 b (tk b) := by
        conv => lhs; unfold tk
        rw [if_neg (by omega), if_neg (by omega), if_neg (by omega), if_neg (by omega), if_neg (by omega), if_pos (by omega), hw]
      have h1 := T.few
      have h2 := Tb.few
      unfold cost at *
      conv => lhs; unfold tkP
      rw [if_pos (Nat.zero_le _), e]
      simp only [List.length_append, List.length_cons, List.length_nil]
      omega
    unfold chainR at h
    split at h
    · rename_i h1
      obtain ⟨g, n⟩ := has_goes (by decide) h1
      obtain ⟨b, l', hb, h⟩ := andThen_inv h
      exact sumC_inv ho hf f l' _ q' r h (step 13 (.inl rfl) b l' hb g n)
    · split at h
      · rename_i h1
        obtain ⟨g, n⟩ := has_goes (by decide) h1
        obtain ⟨b, l', hb, h⟩ := andThen_inv h
        exact sumC_inv ho hf f l' _ q' r h (step 14 (.inr rfl) b l' hb g n)
      · cases h
        exact T

theorem sumR_inv {d : Nat} {one : List Tok → Res Q} (ho : ∀ l q r, FitL l → one l = .ok q r → Told d 2 l q r) {l : List Tok} {q : Q} {r : List Tok} (hf : FitL l) (h : sumR one l = .ok q r) : Told d 0 l q r := by
  obtain ⟨p, l1, h1, h⟩ := andThen_inv h
  have T := prodR_inv ho hf h1
  have hc : cost 0 p ≤ cost 1 p := cost_le 0 p
  have hw := T.few
  exact sumC_inv (fun l q r hl he => prodR_inv ho hl he) hf _ _ _ _ _ h ⟨T.ok.less, T.goes, by omega⟩

theorem oneR_inv : ∀ (d : Nat) (l : List Tok) (q : Q) (r : List Tok), FitL l → oneR d l = .ok q r → Told d 2 l q r
  | 0, _, _, _, _, h => by cases h
  | d + 1, l, q, r, hf, h => by
    have ih := oneR_inv d
    unfold oneR at h
    split at h
    · rename_i h1
      obtain ⟨g, n⟩ := has_goes (by decide) h1
      obtain ⟨p, l1, hp, h⟩ := andThen_inv h
      cases h
      have T := ih l.tail p r (hf.go g) hp
      obtain ⟨e, w, v⟩ := T.ok
      refine ⟨⟨d + 1, .neg d e p w v, .inl ⟨by show 2 ≤ wgt 12; decide, rfl⟩⟩, g.trans T.goes, ?_⟩
      have h2 := T.few
      have e2 : cost 2 (.mk 12 0 [] 0 [] p .none) = 1 + cost 2 p := by
        show (mk1 45 :: tkP 2 p (tk p)).length = _
        simp [cost]; omega
      omega
    · split at h
      · rename_i h1
        obtain ⟨g, n⟩ := has_goes (by decide) h1
        obtain ⟨p, l1, hp, h⟩ := andThen_inv h
        obtain ⟨_, l2, h2, h⟩ := andThen_inv h
        cases h
        obtain ⟨g2, n2⟩ := need_inv (by decide) h2
        have T := sumR_inv ih (hf.go g) hp
        have hc := cost_par 2 q
        have hw := T.few
        rw [cost_zero] at hw
        exact ⟨OkP.par T.ok.w 2, (g.trans T.goes).trans g2, by omega⟩
      · split at h
        · obtain ⟨m, l1, h1, h⟩ := andThen_inv h
          cases h
          obtain ⟨a, g, n⟩ := someR_inv h1
          refine ⟨⟨d + 1, .pick d m a, .inl ⟨by show 2 ≤ wgt 2; decide, rfl⟩⟩, g, ?_⟩
          show (tkM m).length + _ ≤ _
          omega
        · split at h
          · obtain ⟨k, l1, h1, h⟩ := andThen_inv h
            cases h
            obtain ⟨a, b, g, n⟩ := numR_inv hf h1
            refine ⟨⟨d + 1, .num d k a b, .inl ⟨by show 2 ≤ wgt 1; decide, rfl⟩⟩, g, ?_⟩
            show 1 + _ ≤ _
            omega
          · split at h
            · rename_i hc
              exact overR_inv hc hf h
            · split at h
              · rename_i hc
                exact ofR_inv (fun l q r hl he => sumR_inv ih hl he) hc hf h
              · cases h

/- Tokens. -/

theorem cutF_inv : ∀ (f : Nat) (r : List UInt8) (p : Int) (out l : List Tok), cutF f r p out = .inl l → r.length ≤ 1000000000 → out.length ≤ 120 → FitL out → Ends l ∧ l.length ≤ 121 ∧ FitL l
  | 0, _, _, _, _, h, _, _, _ => by cases h
  | f + 1, [], p, out, l, h, _, ho, hf => by
    have e : l = out ++ [⟨4, ⟨#[]⟩, p⟩] := by cases h; rfl
    subst e
    refine ⟨⟨out, p, rfl⟩, by simp; omega, fun t ht => ?_⟩
    rcases List.mem_append.1 ht with ht | ht
    · exact hf t ht
    · have : t = ⟨4, ⟨#[]⟩, p⟩ := by simpa using ht
      subst this
      exact ⟨fun e => (by cases e), fun e => (by cases e), by simp⟩
  | f + 1, c :: t, p, out, l, h, hr, ho, hf => by
    rw [cutF_cons] at h
    split at h
    · exact cutF_inv f t (p + 1) out l h (by simp only [List.length_cons] at hr; omega) ho hf
    · split at h
      · cases h
      · split at h
        · cases h
        · rename_i h32 h0 hlim
          have hne : ¬ out.length = 120 := fun e => hlim (.inr e)
          refine cutF_inv f _ _ _ l h (by simp only [List.length_drop]; omega) (by simp; omega) fun u hu => ?_
          rcases List.mem_append.1 hu with hu | hu
          · exact hf u hu
          · have e : u = ⟨(lex (c :: t)).1, ⟨((c :: t).take (lex (c :: t)).2).toArray⟩, p⟩ := by simpa using hu
            subst e
            refine ⟨fun hk => ?_, fun hk => ?_, by show ((c :: t).take (lex (c :: t)).2).length ≤ _; rw [List.length_take]; omega⟩
            rotate_left
            · have hk' : (lex (c :: t)).1 = 2 := hk
              have hlen : ∀ (x : List UInt8), 0 ≤ Lib.indexByte x 34 → Lib.indexByte x 34 < x.length := fun x => by
                induction x with
                | nil => intro h; exact absurd h (by decide)
                | cons a x ih =>
                  show 0 ≤ (if (a == 34) = true then (0 : Int) else if (Lib.indexByte x 34 == -1) = true then -1 else Lib.indexByte x 34 + 1) → (if (a == 34) = true then (0 : Int) else if (Lib.indexByte x 34 == -1) = true then -1 else Lib.indexByte x 34 + 1) < _
                  have hg := Lib.indexByte_ge x 34
                  split
                  · intro _; simp only [List.length_cons]; omega
                  · split
                    · intro h; omega
                    · rename_i h1
                      have h2 : Lib.indexByte x 34 ≠ -1 := by simpa using h1
                      intro h
                      have := ih (by omega)
                      simp only [List.length_cons]; omega
              show 2 ≤ ((c :: t).take (lex (c :: t)).2).length
              rw [List.length_take]
              have h02 := h0
              rw [lex_cons] at hk' h02 ⊢
              split at hk'
              · cases hk'
              · split at hk'
                · cases hk'
                · split at hk'
                  · rename_i h1 h2 h3
                    rw [if_neg h1, if_neg h2, if_pos h3] at h02 ⊢
                    simp only [quoted] at h02 ⊢
                    split at h02
                    · exact absurd rfl h02
                    · rename_i h4
                      rw [if_neg h4]
                      have := hlen t (by omega)
                      simp only [List.length_cons]
                      omega
                  · cases hk'
            have hk' : (lex (c :: t)).1 = 1 := hk
            have h18 : ¬ 18 < (lex (c :: t)).2 := fun e => hlim (.inl ⟨hk', e⟩)
            refine ⟨fun d hd' => ?_, by simp; omega, by simpa using h0⟩
            have hd2 : d ∈ (c :: t).take (lex (c :: t)).2 := hd'
            rw [lex_cons] at hk' hd2
            split at hk'
            · cases hk'
            · split at hk'
              · rename_i h1 h2
                rw [if_neg h1, if_pos h2] at hd2
                have : ∀ (x : List UInt8), ∀ d ∈ x.take (x.takeWhile isD).length, isD d = true := fun x => by
                  induction x with
                  | nil => simp
                  | cons a x ih =>
                    rw [List.takeWhile_cons]
                    split
                    · rename_i ha
                      intro d hd'
                      rcases List.mem_cons.1 (by simpa using hd') with rfl | h
                      · exact ha
                      · exact ih d h
                    · simp
                exact this _ d hd2
              · split at hk' <;> cases hk'

theorem cut_inv {r : List UInt8} {l : List Tok} (h : cut r = .inl l) (hr : r.length ≤ 1000000000) : Ends l ∧ l.length ≤ 121 ∧ FitL l := cutF_inv _ r 0 [] l h hr (by simp) (by simp [FitL])

theorem read_inv {α : Type} {f : List Tok → Res α} {r : List UInt8} {a : α} {l' : List Tok} (h : read f r = .ok a l') : ∃ l, cut r = .inl l ∧ f l = .ok a l' := by
  unfold read at h
  split at h
  · rename_i l hl
    obtain ⟨b, l1, h1, h2⟩ := andThen_inv h
    split at h2
    · cases h2
      exact ⟨l, hl, h1⟩
    · cases h2
  · cases h

theorem read_lx {α : Type} {f : List Tok → Res α} {r : List UInt8} {ts : List Tk} {a : α} (h : Lx r ts) (hn : ts.length ≤ 120) (hf : ∀ l T, sl l = ts ++ T → (∃ p, T = [(4, p)] ∧ p = ⟨#[]⟩) → ∃ l', f l = .ok a l' ∧ sl l' = T) : ∃ l', read f r = .ok a l' := by
  obtain ⟨l, p, e, s⟩ := h.cut (r.length + 1) 0 [] (by omega) (by simpa using hn)
  have e' : cut r = .inl (l ++ [⟨4, ⟨#[]⟩, p⟩]) := e
  have s' : sl (l ++ [⟨4, ⟨#[]⟩, p⟩]) = ts ++ [(4, ⟨#[]⟩)] := by
    have : sl (l ++ [⟨4, ⟨#[]⟩, p⟩]) = sl l ++ [(4, ⟨#[]⟩)] := by simp [sl]
    rw [this, s]
  obtain ⟨l', e2, s2⟩ := hf _ _ s' ⟨_, rfl, rfl⟩
  refine ⟨l', ?_⟩
  unfold read
  rw [e']
  show whole f _ = _
  unfold whole
  rw [e2]
  show (if (hd l').kind = 4 then _ else _) = _
  rw [if_pos (sl_cons s2).1]

/-- How many parts a question has. -/
def parts : Q → Nat
  | .none => 0
  | .mk _ _ _ _ _ l r => 1 + parts l + parts r

theorem parts_le {d : Nat} {q : Q} (h : OkW d q) : parts q ≤ (tk q).length := by
  have up : ∀ (k : Nat) (q : Q), (tk q).length ≤ (tkP k q (tk q)).length := fun k q => by
    unfold tkP; split
    · exact Nat.le_refl _
    · simp; omega
  induction h with
  | num d n h h' => exact Nat.le_refl _
  | pick d m h => simp [parts, tk, tkM]
  | over d c m sp hc h hs =>
    have e2 : tk (.mk c 0 m sp [] .none .none) = tkW c :: mk1 40 :: tkM m ++ [mk1 91, tkN sp, mk1 93, mk1 41] := by
      unfold tk; rw [if_neg (by omega), if_neg (by omega), if_pos hc]
    rw [e2]; simp [parts]
  | of d e c nm q hc hn _ he ih =>
    have e2 : tk (.mk c 0 [] 0 nm q .none) = tkW c :: mk1 40 :: tkP 0 q (tk q) ++ [mk1 41] ++ tkBy nm := by
      conv => lhs; unfold tk
      rw [if_neg (by omega), if_neg (by omega), if_neg (by omega), if_pos hc]
    have := up 0 q
    rw [e2]
    simp only [parts, List.length_append, List.length_cons, List.length_nil]
    omega
  | neg d e q _ he ih =>
    have := up 2 q
    show 1 + parts q + 0 ≤ (mk1 45 :: tkP 2 q (tk q)).length
    simp only [List.length_cons]
    omega
  | sum d e f c l r hc _ he _ hf ihl ihr =>
    have e2 : tk (.mk c 0 [] 0 [] l r) = tkP (wgt c) l (tk l) ++ [mk1 (signT c)] ++ tkP (wgt c + 1) r (tk r) := by
      conv => lhs; unfold tk
      rw [if_neg (by omega), if_neg (by omega), if_neg (by omega), if_neg (by omega), if_neg (by omega), if_pos (by omega)]
    have h1 := up (wgt c) l
    have h2 := up (wgt c + 1) r
    rw [e2]
    simp only [parts, List.length_append, List.length_cons, List.length_nil]
    omega
  | prod d e f c l r hc _ he _ hf ihl ihr =>
    have e2 : tk (.mk c 0 [] 0 [] l r) = tkP (wgt c) l (tk l) ++ [mk1 (signT c)] ++ tkP (wgt c + 1) r (tk r) := by
      conv => lhs; unfold tk
      rw [if_neg (by omega), if_neg (by omega), if_neg (by omega), if_neg (by omega), if_neg (by omega), if_pos (by omega)]
    have h1 := up (wgt c) l
    have h2 := up (wgt c + 1) r
    rw [e2]
    simp only [parts, List.length_append, List.length_cons, List.length_nil]
    omega

/- How long it is. -/

theorem name_len {s : ByteArray} (h : LB.name s = true) : s.data.toList.length ≤ 24 := by
  unfold LB.name at h
  simp only [decide_eq_true_eq] at h
  have : s.data.toList.length = s.size := by simp
  omega
theorem valu_len {s : ByteArray} (h : LB.valu s = true) : s.data.toList.length ≤ 24 := by
  unfold LB.valu at h
  simp only [decide_eq_true_eq] at h
  have : s.data.toList.length = s.size := by simp
  omega
theorem item_len {m : LB.Mat} (hm : matOk m) : (item m).length ≤ 60 := by
  have h1 := name_len hm.1
  have h2 := valu_len hm.2.2.2
  have h3 : (opT m.op).length ≤ 2 := by
    have e : m.op = 0 ∨ m.op = 1 ∨ m.op = 2 ∨ m.op = 3 := by omega
    rcases e with e | e | e | e <;> rw [e] <;> decide
  unfold item
  simp only [List.length_append, List.length_cons, List.length_nil]
  omega
theorem mat_len {l : List LB.Mat} (hl : matsOk l) : (matT l).length ≤ 600 := by
  have h : ∀ r : List LB.Mat, (∀ x ∈ r, matOk x) → (r.flatMap fun x => 44 :: item x).length ≤ 61 * r.length := fun r => by
    induction r with
    | nil => intro _; simp
    | cons y r ih =>
      intro hr
      have h1 := ih fun x hx => hr x (by simp [hx])
      have h2 := item_len (hr y (by simp))
      rw [List.flatMap_cons, List.length_append]
      simp only [List.length_cons]
      omega
  cases l with
  | nil => simp [matT, itemsT]
  | cons m r =>
    have h1 := h r fun x hx => hl.2 x (by simp [hx])
    have h2 := item_len (hl.2 m (by simp))
    have h3 := hl.1
    simp only [List.length_cons] at h3
    unfold matT itemsT
    simp only [List.length_append, List.length_cons, List.length_nil]
    omega
theorem by_len {l : List ByteArray} (hl : namesOk l) : (byT l).length ≤ 300 := by
  have h : ∀ r : List ByteArray, (∀ x ∈ r, LB.name x = true) → (Lib.joinTail [44, 32] (r.map (·.data.toList))).length ≤ 26 * r.length := fun r => by
    induction r with
    | nil => intro _; simp [Lib.joinTail]
    | cons y r ih =>
      intro hr
      have h1 := ih fun x hx => hr x (by simp [hx])
      have h2 := name_len (hr y (by simp))
      unfold Lib.joinTail at *
      simp only [List.map_cons, List.flatten_cons, List.length_append, List.length_cons, List.length_nil] at *
      omega
  unfold byT
  cases l with
  | nil => simp
  | cons x r =>
    have h1 := h r fun y hy => hl.2 y (by simp [hy])
    have h2 := name_len (hl.2 x (by simp))
    have h3 := hl.1
    simp only [List.length_cons] at h3
    rw [if_neg (by simp), List.map_cons, Lib.join_cons]
    simp only [List.length_append, List.length_cons, List.length_nil]
    omega
theorem word_len {c : Int} (hc : 3 ≤ c ∧ c ≤ 11) : (wordT c).length ≤ 5 := by
  have e : c = 3 ∨ c = 4 ∨ c = 5 ∨ c = 6 ∨ c = 7 ∨ c = 8 ∨ c = 9 ∨ c = 10 ∨ c = 11 := by omega
  rcases e with rfl | rfl | rfl | rfl | rfl | rfl | rfl | rfl | rfl <;> decide

theorem par_len (k : Nat) (q : Q) (t : List UInt8) : (parT k q t).length ≤ t.length + 2 := by
  unfold parT
  split
  · omega
  · simp

theorem txt_len {d : Nat} {q : Q} (h : OkW d q) : (txt q).length ≤ 1000 * parts q := by
  induction h with
  | num d n h h' =>
    have := (itoa_facts h h').2.2.1
    show (Lib.itoa n).length ≤ 1000 * 1
    omega
  | pick d m h =>
    have := mat_len h
    show (matT m).length ≤ 1000 * 1
    omega
  | over d c m sp hc h hs =>
    have e1 : txt (.mk c 0 m sp [] .none .none) = wordT c ++ [40] ++ matT m ++ [91] ++ Lib.itoa sp ++ [93, 41] := by
      unfold txt; rw [if_neg (by omega), if_neg (by omega), if_pos hc]
    have h1 := mat_len h
    have h2 := (itoa_facts (n := sp) (by omega) (by omega)).2.2.1
    have h3 := word_len (c := c) (by omega)
    rw [e1]
    simp only [parts, List.length_append, List.length_cons, List.length_nil]
    omega
  | of d e c nm q hc hn _ he ih =>
    have e1 : txt (.mk c 0 [] 0 nm q .none) = wordT c ++ [40] ++ parT 0 q (txt q) ++ [41] ++ byT nm := by
      conv => lhs; unfold txt
      rw [if_neg (by omega), if_neg (by omega), if_neg (by omega), if_pos hc]
    have h1 := by_len hn
    have h2 := par_len 0 q (txt q)
    have h3 := word_len (c := c) (by omega)
    rw [e1]
    simp only [parts, List.length_append, List.length_cons, List.length_nil]
    omega
  | neg d e q _ he ih =>
    have h2 := par_len 2 q (txt q)
    show (45 :: parT 2 q (txt q)).length ≤ 1000 * (1 + parts q + 0)
    simp only [List.length_cons]
    omega
  | sum d e f c l r hc _ he _ hf ihl ihr =>
    have e1 : txt (.mk c 0 [] 0 [] l r) = parT (wgt c) l (txt l) ++ [32, signT c, 32] ++ parT (wgt c + 1) r (txt r) := by
      conv => lhs; unfold txt
      rw [if_neg (by omega), if_neg (by omega), if_neg (by omega), if_neg (by omega), if_neg (by omega), if_pos (by omega)]
    have h1 := par_len (wgt c) l (txt l)
    have h2 := par_len (wgt c + 1) r (txt r)
    rw [e1]
    simp only [parts, List.length_append, List.length_cons, List.length_nil]
    omega
  | prod d e f c l r hc _ he _ hf ihl ihr =>
    have e1 : txt (.mk c 0 [] 0 [] l r) = parT (wgt c) l (txt l) ++ [32, signT c, 32] ++ parT (wgt c + 1) r (txt r) := by
      conv => lhs; unfold txt
      rw [if_neg (by omega), if_neg (by omega), if_neg (by omega), if_neg (by omega), if_neg (by omega), if_pos (by omega)]
    have h1 := par_len (wgt c) l (txt l)
    have h2 := par_len (wgt c + 1) r (txt r)
    rw [e1]
    simp only [parts, List.length_append, List.length_cons, List.length_nil]
    omega

/-- What is printed asks just what was asked. -/
theorem parse_back {s : List UInt8} {q : Q} {l : List Tok} (h : parse s = .ok q l) (hs : s.length ≤ 1000000000) : OkW 9 q ∧ (tk q).length ≤ 120 ∧ ∃ l', parse (print q) = .ok q l' := by
  obtain ⟨t, h1, h2⟩ := read_inv h
  obtain ⟨he, hn, hf⟩ := cut_inv h1 hs
  have T := sumR_inv (oneR_inv 9) hf h2
  have hl := (T.goes.ends he).pos
  have hw := T.ok.w
  have hfew := T.few
  rw [cost_zero] at hfew
  have e : print q = txt q := by unfold print parT; rw [if_pos (Nat.zero_le _)]
  refine ⟨hw, by omega, ?_⟩
  have lx : Lx (print q) (tk q) := by
    have := lx_txt hw Lx.nil Sf.nil
    rw [e]; simpa using this
  refine read_lx lx (by omega) fun l T hs hT => ?_
  obtain ⟨p, rfl, rfl⟩ := hT
  exact (read_tk hw).2.2.done hs (NT.cons (by decide)) fun k x T' e => by cases e; decide

theorem match_back {s : List UInt8} {m : List LB.Mat} {l : List Tok} (h : matchR s = .ok m l) (hs : s.length ≤ 1000000000) : matsOk m ∧ ∃ l', matchR (matT m) = .ok m l' := by
  obtain ⟨t, h1, h2⟩ := read_inv h
  obtain ⟨he, hn, hf⟩ := cut_inv h1 hs
  obtain ⟨hm, g, hl⟩ := someR_inv h2
  have hp := (g.ends he).pos
  refine ⟨hm, ?_⟩
  have lx : Lx (matT m) (tkM m) := by
    have := lx_mat hm Lx.nil
    simpa using this
  exact read_lx lx (by omega) fun l T hs _ => someR_of hm hs

end AQ
end Go.Proofs.YtdmnlmohfaafoaeGreatDoor

