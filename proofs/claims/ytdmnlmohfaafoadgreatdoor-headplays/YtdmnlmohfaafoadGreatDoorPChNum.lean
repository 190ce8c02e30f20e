/- Labels and matchers, plain: names, values, the order, the text, what is asked. No program in it. Plain facts on bits as lists, their numbers, and how they lie in bytes: no program in it. Plain facts on samples and the bits that they are written in: no program in it. -/
import Derived.Test.YtdmnlmohfaafoadGreatDoorRows
import Derived.Lib.Strings
namespace Go.Proofs.YtdmnlmohfaafoadGreatDoor
namespace LB

/-- A label: what it is called, what it says. -/
abbrev Lab := ByteArray × ByteArray

/-- A matcher. -/
structure Mat where
  nm : ByteArray
  op : Int
  vl : ByteArray

def at' (l : List Lab) (i : Nat) : Lab := l.getD i default
def am (l : List Mat) (i : Nat) : Mat := l.getD i ⟨ByteArray.empty, 0, ByteArray.empty⟩
def an (l : List ByteArray) (i : Nat) : ByteArray := l.getD i ByteArray.empty

/-- The byte i of a text. -/
def byt (s : ByteArray) (i : Nat) : Nat := (s.data.toList.getD i 0).toNat

theorem byt_eq (s : ByteArray) (i : Nat) (h : i < s.size) : (s[i]'h).toNat = byt s i := by
  have h' : i < s.data.toList.length := by simpa using h
  unfold byt
  rw [List.getD_eq_getElem?_getD, List.getElem?_eq_getElem h']
  simp [ByteArray.getElem_eq_getElem_data]

theorem byt_lt (s : ByteArray) (i : Nat) : byt s i < 256 := UInt8.toNat_lt _

theorem toList_inj {x y : ByteArray} (h : x.toList = y.toList) : x = y := by
  rw [Lib.toList_data, Lib.toList_data] at h
  cases x; cases y
  simp only [Array.toList_inj] at h
  rw [h]

theorem toList_iff {x y : ByteArray} : x.toList = y.toList ↔ x = y := ⟨toList_inj, fun h => by rw [h]⟩

theorem beq_eq (x y : ByteArray) : (x.toList == y.toList) = decide (x = y) := by
  by_cases h : x = y
  · subst h; simp
  · rw [decide_eq_false h]
    simp only [beq_eq_false_iff_ne, ne_eq]
    exact fun h' => h (toList_inj h')

abbrev lt (x y : ByteArray) : Bool := Op.bytesLess x.toList y.toList

theorem less_irr : ∀ a : List UInt8, Op.bytesLess a a = false
  | [] => rfl
  | a :: x => by simp [Op.bytesLess, less_irr x]

theorem less_tr : ∀ a b c : List UInt8, Op.bytesLess a b = true → Op.bytesLess b c = true → Op.bytesLess a c = true
  | _, [], _, h, _ => by simp [Op.bytesLess] at h
  | _, _ :: _, [], _, h => by simp [Op.bytesLess] at h
  | [], _ :: _, _ :: _, _, _ => by simp [Op.bytesLess]
  | a :: x, b :: y, c :: z, h1, h2 => by
    simp only [Op.bytesLess, Bool.or_eq_true, decide_eq_true_eq, Bool.and_eq_true, beq_iff_eq] at h1 h2 ⊢
    rcases h1 with h1 | ⟨rfl, h1⟩
    · rcases h2 with h2 | ⟨rfl, h2⟩
      · exact .inl (UInt8.lt_trans h1 h2)
      · exact .inl h1
    · rcases h2 with h2 | ⟨rfl, h2⟩
      · exact .inl h2
      · exact .inr ⟨rfl, less_tr x y z h1 h2⟩

theorem less_tri : ∀ a b : List UInt8, Op.bytesLess a b = false → Op.bytesLess b a = false → a = b
  | [], [], _, _ => rfl
  | [], _ :: _, h, _ => by simp [Op.bytesLess] at h
  | _ :: _, [], _, h => by simp [Op.bytesLess] at h
  | a :: x, b :: y, h1, h2 => by
    simp only [Op.bytesLess, Bool.or_eq_false_iff, decide_eq_false_iff_not, Bool.and_eq_false_imp, beq_iff_eq] at h1 h2
    have e : a = b := UInt8.le_antisymm (UInt8.not_lt.1 h2.1) (UInt8.not_lt.1 h1.1)
    subst e
    rw [less_tri x y (h1.2 rfl) (h2.2 rfl)]

/-- An order told by three numbers. -/
structure Ord3 {α : Type} (c : α → α → Int) : Prop where
  rng : ∀ x y, c x y = -1 ∨ c x y = 0 ∨ c x y = 1
  anti : ∀ x y, c y x = - c x y
  zero : ∀ x y, c x y = 0 ↔ x = y
  tr : ∀ x y z, c x y = -1 → c y z = -1 → c x z = -1

def cB (x y : ByteArray) : Int := if lt x y = true then -1 else if x = y then 0 else 1

theorem cB_ord : Ord3 cB where
  rng x y := by unfold cB; split; · simp
                split <;> simp
  anti x y := by
    unfold cB
    by_cases h1 : lt x y = true
    · have h2 : ¬ lt y x = true := fun h => by have := less_tr _ _ _ h1 h; rw [less_irr] at this; cases this
      have h3 : ¬ y = x := fun h => by subst h; exact Bool.noConfusion ((less_irr y.toList).symm.trans h1)
      rw [if_pos h1, if_neg h2, if_neg h3]; rfl
    · by_cases h2 : x = y
      · subst h2; rw [if_neg h1, if_pos rfl]; rfl
      · by_cases h3 : lt y x = true
        · rw [if_pos h3, if_neg h1, if_neg h2]
        · exact absurd (toList_inj (less_tri _ _ (by simpa using h1) (by simpa using h3))) h2
  zero x y := by
    unfold cB
    by_cases h1 : lt x y = true
    · rw [if_pos h1]
      refine ⟨fun h => by omega, fun h => ?_⟩
      subst h; exact Bool.noConfusion ((less_irr x.toList).symm.trans h1)
    · rw [if_neg h1]
      by_cases h2 : x = y
      · rw [if_pos h2]; simp [h2]
      · rw [if_neg h2]; simp [h2]
  tr x y z h1 h2 := by
    have key : ∀ a b, cB a b = -1 → lt a b = true := fun a b h => by
      unfold cB at h
      by_cases h1 : lt a b = true
      · exact h1
      · rw [if_neg h1] at h; split at h <;> omega
    unfold cB
    rw [if_pos (less_tr _ _ _ (key _ _ h1) (key _ _ h2))]

def cL (p q : Lab) : Int := if cB p.1 q.1 = 0 then cB p.2 q.2 else cB p.1 q.1

theorem cL_ord : Ord3 cL where
  rng p q := by unfold cL; split; · exact cB_ord.rng _ _
                exact cB_ord.rng _ _
  anti p q := by
    unfold cL
    have h1 := cB_ord.anti p.1 q.1
    have h2 := cB_ord.anti p.2 q.2
    by_cases h : cB p.1 q.1 = 0
    · rw [if_pos h, if_pos (by omega), h2]
    · rw [if_neg h, if_neg (by omega), h1]
  zero p q := by
    unfold cL
    have h1 := cB_ord.zero p.1 q.1
    have h2 := cB_ord.zero p.2 q.2
    by_cases h : cB p.1 q.1 = 0
    · rw [if_pos h, h2]
      refine ⟨fun h' => Prod.ext (h1.1 h) h', fun h' => by rw [h']⟩
    · rw [if_neg h]
      refine ⟨fun h' => absurd h' h, fun h' => ?_⟩
      exact absurd (h1.2 (by rw [h'])) h
  tr p q r h1 h2 := by
    unfold cL at h1 h2 ⊢
    by_cases a : cB p.1 q.1 = 0
    · rw [if_pos a] at h1
      have ea := (cB_ord.zero _ _).1 a
      by_cases b : cB q.1 r.1 = 0
      · rw [if_pos b] at h2
        have eb := (cB_ord.zero _ _).1 b
        rw [if_pos ((cB_ord.zero _ _).2 (ea.trans eb))]
        exact cB_ord.tr _ _ _ h1 h2
      · rw [if_neg b] at h2
        rw [ea, if_neg b]; exact h2
    · rw [if_neg a] at h1
      by_cases b : cB q.1 r.1 = 0
      · have eb := (cB_ord.zero _ _).1 b
        rw [← eb, if_neg a]; exact h1
      · rw [if_neg b] at h2
        have := cB_ord.tr _ _ _ h1 h2
        rw [if_neg (by omega)]; exact this

def lx {α : Type} (c : α → α → Int) : List α → List α → Int
  | [], [] => 0
  | [], _ :: _ => -1
  | _ :: _, [] => 1
  | x :: a, y :: b => if c x y = 0 then lx c a b else c x y

theorem lx_ord {α : Type} {c : α → α → Int} (o : Ord3 c) : Ord3 (lx c) where
  rng := by
    intro a
    induction a with
    | nil => intro b; cases b <;> simp [lx]
    | cons x a ih =>
      intro b
      cases b with
      | nil => simp [lx]
      | cons y b =>
        simp only [lx]
        split
        · exact ih b
        · exact o.rng x y
  anti := by
    intro a
    induction a with
    | nil => intro b; cases b <;> simp [lx]
    | cons x a ih =>
      intro b
      cases b with
      | nil => simp [lx]
      | cons y b =>
        simp only [lx]
        have h1 := o.anti x y
        by_cases h : c x y = 0
        · rw [if_pos h, if_pos (by omega), ih b]
        · rw [if_neg h, if_neg (by omega), h1]
  zero := by
    intro a
    induction a with
    | nil => intro b; cases b <;> simp [lx]
    | cons x a ih =>
      intro b
      cases b with
      | nil => simp [lx]
      | cons y b =>
        simp only [lx, List.cons.injEq]
        have h1 := o.zero x y
        by_cases h : c x y = 0
        · rw [if_pos h, ih b]; simp [h1.1 h]
        · rw [if_neg h]
          exact ⟨fun h' => absurd h' h, fun h' => absurd (h1.2 h'.1) h⟩
  tr := by
    intro a
    induction a with
    | nil =>
      intro b d h1 h2
      cases b with
      | nil => simp [lx] at h1
      | cons y b => cases d with
        | nil => simp [lx] at h2
        | cons z d => simp [lx]
    | cons x a ih =>
      intro b d h1 h2
      cases b with
      | nil => simp [lx] at h1
      | cons y b => cases d with
        | nil => simp [lx] at h2
        | cons z d =>
          simp only [lx] at h1 h2 ⊢
          by_cases p : c x y = 0
          · rw [if_pos p] at h1
            have ep := (o.zero _ _).1 p
            subst ep
            by_cases q : c x z = 0
            · rw [if_pos q] at h2 ⊢
              exact ih b d h1 h2
            · rw [if_neg q] at h2 ⊢; exact h2
          · rw [if_neg p] at h1
            by_cases q : c y z = 0
            · have eq := (o.zero _ _).1 q
              subst eq
              rw [if_neg p]; exact h1
            · rw [if_neg q] at h2
              have := o.tr _ _ _ h1 h2
              rw [if_neg (by omega)]; exact this

/-- The order of labels. -/
abbrev cmp (a b : List Lab) : Int := lx cL a b

theorem cmp_ord : Ord3 cmp := lx_ord cL_ord

theorem at_cons (x : Lab) (a : List Lab) (i : Nat) : at' (x :: a) (i + 1) = at' a i := by simp [at']

theorem at_mem (l : List Lab) (i : Nat) (h : i < l.length) : at' l i ∈ l := by
  unfold at'
  rw [List.getD_eq_getElem?_getD, List.getElem?_eq_getElem h]
  exact List.getElem_mem h

theorem am_mem (l : List Mat) (i : Nat) (h : i < l.length) : am l i ∈ l := by
  unfold am
  rw [List.getD_eq_getElem?_getD, List.getElem?_eq_getElem h]
  exact List.getElem_mem h

/-- As long as all are alike, the order is that of the rest. -/
theorem cmp_drop : ∀ (a b : List Lab) (i : Nat), i ≤ a.length → i ≤ b.length → (∀ j, j < i → cL (at' a j) (at' b j) = 0) → cmp a b = cmp (a.drop i) (b.drop i)
  | _, _, 0, _, _, _ => rfl
  | [], _, i + 1, h, _, _ => by simp at h
  | _ :: _, [], i + 1, _, h, _ => by simp at h
  | x :: a, y :: b, i + 1, h1, h2, h => by
    have h0 : cL x y = 0 := h 0 (by omega)
    have ih := cmp_drop a b i (by simpa using h1) (by simpa using h2) (fun j hj => by have := h (j + 1) (by omega); rwa [at_cons, at_cons] at this)
    simp only [List.drop_succ_cons]
    rw [← ih]
    show (if cL x y = 0 then _ else _) = _
    rw [if_pos h0]

theorem drop_at (a : List Lab) (i : Nat) (h : i < a.length) : a.drop i = at' a i :: a.drop (i + 1) := by
  rw [List.drop_eq_getElem_cons h]
  congr 1
  unfold at'
  rw [List.getD_eq_getElem?_getD, List.getElem?_eq_getElem h]
  rfl

theorem cmp_at (a b : List Lab) (i : Nat) (h1 : i < a.length) (h2 : i < b.length) (h : ∀ j, j < i → cL (at' a j) (at' b j) = 0) (hi : cL (at' a i) (at' b i) ≠ 0) : cmp a b = cL (at' a i) (at' b i) := by
  rw [cmp_drop a b i (by omega) (by omega) h, drop_at a i h1, drop_at b i h2]
  show (if _ = 0 then _ else _) = _
  rw [if_neg hi]

theorem cmp_long (a b : List Lab) (i : Nat) (h1 : i < a.length) (h2 : i = b.length) (h : ∀ j, j < i → cL (at' a j) (at' b j) = 0) : cmp a b = 1 := by
  rw [cmp_drop a b i (by omega) (by omega) h, drop_at a i h1, show b.drop i = [] from List.drop_eq_nil_of_le (by omega)]
  rfl

theorem cmp_short (a b : List Lab) (h2 : a.length < b.length) (h : ∀ j, j < a.length → cL (at' a j) (at' b j) = 0) : cmp a b = -1 := by
  rw [cmp_drop a b a.length (by omega) (by omega) h, drop_at b _ h2, List.drop_eq_nil_of_le (by omega)]
  rfl

theorem cmp_same (a b : List Lab) (h2 : a.length = b.length) (h : ∀ j, j < a.length → cL (at' a j) (at' b j) = 0) : cmp a b = 0 := by
  rw [cmp_drop a b a.length (by omega) (by omega) h, List.drop_eq_nil_of_le (by omega), List.drop_eq_nil_of_le (by omega)]
  rfl

def letter (n : Nat) : Bool := decide (65 ≤ n ∧ n ≤ 90 ∨ 97 ≤ n ∧ n ≤ 122 ∨ n = 95)
def digit (n : Nat) : Bool := decide (48 ≤ n ∧ n ≤ 57)
def okN (i n : Nat) : Bool := letter n || (decide (i ≠ 0) && digit n)
def okV (n : Nat) : Bool := decide (32 ≤ n ∧ n ≤ 126 ∧ n ≠ 34 ∧ n ≠ 92)

/-- A name. -/
def name (s : ByteArray) : Bool := decide (1 ≤ s.size ∧ s.size ≤ 24 ∧ ∀ i, i < s.size → okN i (byt s i) = true)
/-- A value. -/
def valu (s : ByteArray) : Bool := decide (s.size ≤ 24 ∧ ∀ i, i < s.size → okV (byt s i) = true)

abbrev okL (l : List Lab) (i : Nat) : Prop := name (at' l i).1 = true ∧ valu (at' l i).2 = true ∧ (at' l i).2 ≠ ByteArray.empty ∧ (0 < i → lt (at' l (i - 1)).1 (at' l i).1 = true)

/-- Labels that may be a series'. -/
def right (l : List Lab) : Bool := decide (1 ≤ l.length ∧ l.length ≤ 8 ∧ ∀ i, i < l.length → okL l i)

/-- What the first label of that name says. -/
def get : List Lab → ByteArray → ByteArray
  | [], _ => ByteArray.empty
  | p :: l, n => if p.1 = n then p.2 else get l n

theorem get_hit : ∀ (l : List Lab) (n : ByteArray) (i : Nat), i < l.length → (∀ j, j < i → (at' l j).1 ≠ n) → (at' l i).1 = n → get l n = (at' l i).2
  | [], _, _, h, _, _ => by simp at h
  | p :: l, n, 0, _, _, h => by
    have h' : p.1 = n := h
    show (if p.1 = n then _ else _) = _
    rw [if_pos h']; rfl
  | p :: l, n, i + 1, h, ha, hi => by
    have h0 : p.1 ≠ n := ha 0 (by omega)
    show (if p.1 = n then _ else _) = _
    rw [if_neg h0, at_cons]
    exact get_hit l n i (by simpa using h) (fun j hj => by have := ha (j + 1) (by omega); rwa [at_cons] at this) (by rwa [at_cons] at hi)

theorem get_none : ∀ (l : List Lab) (n : ByteArray), (∀ j, j < l.length → (at' l j).1 ≠ n) → get l n = ByteArray.empty
  | [], _, _ => rfl
  | p :: l, n, ha => by
    have h0 : p.1 ≠ n := ha 0 (by simp)
    show (if p.1 = n then _ else _) = _
    rw [if_neg h0]
    exact get_none l n (fun j hj => by have := ha (j + 1) (by simpa using hj); rwa [at_cons] at this)

/-- Is it one of them? -/
def hasN (ns : List ByteArray) (x : ByteArray) : Bool := ns.any fun n => decide (n = x)

theorem an_mem (l : List ByteArray) (i : Nat) (h : i < l.length) : an l i ∈ l := by
  unfold an
  rw [List.getD_eq_getElem?_getD, List.getElem?_eq_getElem h]
  exact List.getElem_mem h

theorem hasN_hit (ns : List ByteArray) (x : ByteArray) (i : Nat) (h : i < ns.length) (e : an ns i = x) : hasN ns x = true := by
  unfold hasN
  rw [List.any_eq_true]
  exact ⟨an ns i, an_mem ns i h, decide_eq_true e⟩

theorem hasN_none (ns : List ByteArray) (x : ByteArray) (h : ∀ i, i < ns.length → an ns i ≠ x) : hasN ns x = false := by
  unfold hasN
  rw [List.any_eq_false]
  intro y hy
  obtain ⟨i, hi, rfl⟩ := List.mem_iff_getElem.1 hy
  have := h i hi
  unfold an at this
  rw [List.getD_eq_getElem?_getD, List.getElem?_eq_getElem hi] at this
  simpa using this

/-- Those of some names. -/
def only (l : List Lab) (ns : List ByteArray) : List Lab := l.filter fun p => hasN ns p.1

theorem take_at (l : List Lab) (i : Nat) (h : i < l.length) : l.take (i + 1) = l.take i ++ [at' l i] := by
  rw [List.take_succ_eq_append_getElem h]
  congr 2
  unfold at'
  rw [List.getD_eq_getElem?_getD, List.getElem?_eq_getElem h]
  rfl

theorem only_in (l : List Lab) (ns : List ByteArray) (i : Nat) (h : i < l.length) (hi : hasN ns (at' l i).1 = true) : only (l.take (i + 1)) ns = only (l.take i) ns ++ [at' l i] := by
  rw [take_at l i h]
  simp [only, hi]

theorem only_out (l : List Lab) (ns : List ByteArray) (i : Nat) (h : i < l.length) (hi : hasN ns (at' l i).1 = false) : only (l.take (i + 1)) ns = only (l.take i) ns := by
  rw [take_at l i h]
  simp [only, hi]

/-- A matcher that may be. -/
def askd (m : Mat) : Bool := name m.nm && valu m.vl && decide (0 ≤ m.op ∧ m.op ≤ 3)
def asked (l : List Mat) : Bool := decide (l.length ≤ 8) && l.all askd

/-- Does it begin so? -/
def begins (v x : ByteArray) : Bool := decide (x.size ≤ v.size) && decide (v.extract 0 x.size = x)

def one (l : List Lab) (m : Mat) : Bool :=
  if m.op = 0 then decide (get l m.nm = m.vl)
  else if m.op = 1 then !decide (get l m.nm = m.vl)
  else if m.op = 2 then begins (get l m.nm) m.vl
  else if m.op = 3 then !begins (get l m.nm) m.vl
  else false

def all (l : List Lab) (ms : List Mat) : Bool := ms.all (one l)

/-- A label as it is written. -/
def item (p : Lab) : List UInt8 := p.1.data.toList ++ 61 :: 34 :: (p.2.data.toList ++ [34])

def tb : List Lab → List UInt8
  | [] => [123]
  | p :: l => 123 :: (item p ++ l.flatMap fun q => 44 :: item q)

theorem tb_snoc (l : List Lab) (q : Lab) : tb (l ++ [q]) = tb l ++ ((if l.length = 0 then [] else [44]) ++ item q) := by
  cases l with
  | nil => simp [tb]
  | cons p l => simp [tb]

/-- Labels as they are written. -/
def tx (l : List Lab) : List UInt8 := tb l ++ [125]

theorem split_at (c : UInt8) : ∀ (a b x y : List UInt8), c ∉ a → c ∉ b → a ++ c :: x = b ++ c :: y → a = b ∧ x = y
  | [], [], x, y, _, _, h => by simpa using h
  | [], q :: b, x, y, _, hb, h => by
    simp only [List.nil_append, List.cons_append, List.cons.injEq] at h
    exact absurd (by rw [h.1]; simp) hb
  | p :: a, [], x, y, ha, _, h => by
    simp only [List.nil_append, List.cons_append, List.cons.injEq] at h
    exact absurd (by rw [h.1]; simp) ha
  | p :: a, q :: b, x, y, ha, hb, h => by
    simp only [List.cons_append, List.cons.injEq] at h
    obtain ⟨h1, h2⟩ := split_at c a b x y (fun h' => ha (by simp [h'])) (fun h' => hb (by simp [h'])) h.2
    exact ⟨by rw [h.1, h1], h2⟩

theorem byt_of_mem (s : ByteArray) (c : UInt8) (h : c ∈ s.data.toList) : ∃ i, i < s.size ∧ byt s i = c.toNat := by
  obtain ⟨i, hi, rfl⟩ := List.mem_iff_getElem.1 h
  refine ⟨i, by simpa using hi, ?_⟩
  unfold byt
  rw [List.getD_eq_getElem?_getD, List.getElem?_eq_getElem hi]
  rfl

theorem name_no (s : ByteArray) (h : name s = true) : (61 : UInt8) ∉ s.data.toList := by
  intro hm
  obtain ⟨i, hi, hb⟩ := byt_of_mem s _ hm
  have := (of_decide_eq_true h).2.2 i hi
  rw [hb] at this
  revert this
  simp [okN, letter, digit]

theorem valu_no (s : ByteArray) (h : valu s = true) : (34 : UInt8) ∉ s.data.toList := by
  intro hm
  obtain ⟨i, hi, hb⟩ := byt_of_mem s _ hm
  have := (of_decide_eq_true h).2 i hi
  rw [hb] at this
  revert this
  simp [okV]

theorem item_inj (p q : Lab) (x y : List UInt8) (hp : name p.1 = true ∧ valu p.2 = true) (hq : name q.1 = true ∧ valu q.2 = true) (h : item p ++ x = item q ++ y) : p = q ∧ x = y := by
  unfold item at h
  simp only [List.append_assoc, List.cons_append] at h
  obtain ⟨h1, h2⟩ := split_at 61 _ _ _ _ (name_no _ hp.1) (name_no _ hq.1) h
  simp only [List.cons.injEq, true_and] at h2
  obtain ⟨h3, h4⟩ := split_at 34 _ _ _ _ (valu_no _ hp.2) (valu_no _ hq.2) h2
  exact ⟨Prod.ext (toList_inj (by rw [Lib.toList_data, Lib.toList_data, h1])) (toList_inj (by rw [Lib.toList_data, Lib.toList_data, h3])), by simpa using h4⟩

theorem tail_inj : ∀ (a b : List Lab), (∀ p ∈ a, name p.1 = true ∧ valu p.2 = true) → (∀ p ∈ b, name p.1 = true ∧ valu p.2 = true) → (a.flatMap fun q => 44 :: item q) ++ [125] = (b.flatMap fun q => 44 :: item q) ++ [125] → a = b
  | [], [], _, _, _ => rfl
  | [], q :: b, _, _, h => by simp at h
  | p :: a, [], _, _, h => by simp at h
  | p :: a, q :: b, ha, hb, h => by
    simp only [List.flatMap_cons, List.append_assoc, List.cons_append, List.cons.injEq, true_and] at h
    obtain ⟨h1, h2⟩ := item_inj p q _ _ (ha p (by simp)) (hb q (by simp)) h
    rw [h1, tail_inj a b (fun r hr => ha r (by simp [hr])) (fun r hr => hb r (by simp [hr])) h2]

theorem right_mem (a : List Lab) (h : right a = true) : ∀ p ∈ a, name p.1 = true ∧ valu p.2 = true := by
  intro p hp
  obtain ⟨i, hi, rfl⟩ := List.mem_iff_getElem.1 hp
  have := (of_decide_eq_true h).2.2 i hi
  have e : at' a i = a[i] := by unfold at'; rw [List.getD_eq_getElem?_getD, List.getElem?_eq_getElem hi]; rfl
  rw [← e]
  exact ⟨this.1, this.2.1⟩

/-- Two are written the same just if they are the same. -/
theorem tx_inj (a b : List Lab) (ha : right a = true) (hb : right b = true) : tx a = tx b ↔ cmp a b = 0 := by
  rw [cmp_ord.zero]
  refine ⟨fun h => ?_, fun h => by rw [h]⟩
  have ha' := right_mem a ha
  have hb' := right_mem b hb
  have la : 1 ≤ a.length := (of_decide_eq_true ha).1
  have lb : 1 ≤ b.length := (of_decide_eq_true hb).1
  cases a with
  | nil => simp at la
  | cons p a => cases b with
    | nil => simp at lb
    | cons q b =>
      simp only [tx, tb, List.cons_append, List.append_assoc, List.cons.injEq, true_and] at h
      obtain ⟨h1, h2⟩ := item_inj p q _ _ (ha' p (by simp)) (hb' q (by simp)) h
      rw [h1, tail_inj a b (fun r hr => ha' r (by simp [hr])) (fun r hr => hb' r (by simp [hr])) h2]

/-- The opposite of what is asked. -/
def opp (n : Int) : Int := if n = 0 then 1 else if n = 1 then 0 else if n = 2 then 3 else 2

theorem one_opp (l : List Lab) (m : Mat) (h : 0 ≤ m.op ∧ m.op ≤ 3) : one l { m with op := opp m.op } = !one l m := by
  obtain ⟨nm, op, vl⟩ := m
  have h4 : op = 0 ∨ op = 1 ∨ op = 2 ∨ op = 3 := by simp only at h; omega
  rcases h4 with rfl | rfl | rfl | rfl <;> simp [one, opp]

theorem all_append (l : List Lab) (a b : List Mat) : all l (a ++ b) = (all l a && all l b) := by simp [all]

end LB
end Go.Proofs.YtdmnlmohfaafoadGreatDoor

namespace Go.Proofs.YtdmnlmohfaafoadGreatDoor
namespace BL

/-- The last k bits of u, the greatest first. -/
def bitsOf (u : Nat) : Nat → List Bool
  | 0 => []
  | k + 1 => u.testBit k :: bitsOf u k

/-- What bits are as a number. -/
def val (l : List Bool) : Nat := l.foldl (fun a b => 2 * a + b.toNat) 0

theorem bitsOf_length (u k : Nat) : (bitsOf u k).length = k := by
  induction k with
  | zero => rfl
  | succ k ih => simp [bitsOf, ih]

theorem bitsOf_get (u k i : Nat) : ((bitsOf u k)[i]?.getD false) = (decide (i < k) && u.testBit (k - 1 - i)) := by
  induction k generalizing i with
  | zero => simp [bitsOf]
  | succ k ih =>
    cases i with
    | zero => simp [bitsOf]
    | succ i =>
      have h1 := ih i
      simp only [bitsOf, List.getElem?_cons_succ]
      rw [h1]
      have : k + 1 - 1 - (i + 1) = k - 1 - i := by omega
      rw [this]
      congr 1
      simp

theorem bitsOf_add (u a b : Nat) : bitsOf u (a + b) = bitsOf (u / 2 ^ b) a ++ bitsOf u b := by
  induction a with
  | zero => simp [bitsOf]
  | succ a ih =>
    rw [show a + 1 + b = (a + b) + 1 from by omega]
    simp only [bitsOf, List.cons_append]
    rw [ih, Nat.testBit_div_two_pow]

theorem foldl_val (l : List Bool) (c : Nat) : l.foldl (fun a b => 2 * a + b.toNat) c = c * 2 ^ l.length + val l := by
  induction l generalizing c with
  | nil => simp [val]
  | cons b l ih =>
    simp only [val, List.foldl_cons, List.length_cons]
    rw [ih, ih (2 * 0 + b.toNat), Nat.pow_succ, Nat.add_mul]
    have e : 2 * c * 2 ^ l.length = c * (2 ^ l.length * 2) := by rw [Nat.mul_comm 2 c, Nat.mul_assoc, Nat.mul_comm 2 (2 ^ l.length)]
    rw [e]; simp; omega

theorem val_append (l r : List Bool) : val (l ++ r) = val l * 2 ^ r.length + val r := by
  unfold val
  rw [List.foldl_append, foldl_val r]
  rfl

theorem val_cons (b : Bool) (r : List Bool) : val (b :: r) = b.toNat * 2 ^ r.length + val r := by
  have := val_append [b] r
  simpa [val] using this

theorem val_lt (l : List Bool) : val l < 2 ^ l.length := by
  induction l with
  | nil => simp [val]
  | cons b l ih =>
    rw [val_cons, List.length_cons, Nat.pow_succ]
    cases b <;> simp <;> omega

theorem val_bitsOf (u k : Nat) : val (bitsOf u k) = u % 2 ^ k := by
  induction k with
  | zero => simp [bitsOf, val, Nat.mod_one]
  | succ k ih =>
    rw [bitsOf, val_cons, bitsOf_length, ih]
    have h := Nat.mod_mul (a := 2 ^ k) (b := 2) (x := u)
    rw [Nat.pow_succ, h, Nat.toNat_testBit, Nat.mul_comm (2 ^ k)]
    omega

theorem val_zeros (k : Nat) : val (List.replicate k false) = 0 := by
  induction k with
  | zero => rfl
  | succ k ih => rw [List.replicate_succ, val_cons, ih]; simp

theorem val_testBit (l : List Bool) (t : Nat) : (val l).testBit t = (decide (t < l.length) && (l[l.length - 1 - t]?.getD false)) := by
  induction l with
  | nil => simp [val]
  | cons b l ih =>
    rw [val_cons, Nat.mul_comm, Nat.testBit_two_pow_mul_add _ (val_lt l)]
    by_cases h : t < l.length
    · rw [if_pos h, ih]
      have e : (b :: l).length - 1 - t = (l.length - 1 - t) + 1 := by simp; omega
      rw [e, List.getElem?_cons_succ]
      simp [h]; intro _; omega
    · rw [if_neg h]
      by_cases h2 : t = l.length
      · subst h2; cases b <;> simp
      · have e : ¬ t < (b :: l).length := by simp; omega
        simp only [e, decide_false, Bool.false_and]
        cases b
        · simp
        · have : t - l.length = (t - l.length - 1) + 1 := by omega
          rw [this, Nat.testBit_succ]; simp

/-! ## bytes -/

/-- Byte j of bits, filled up with 0. -/
def byteAt (bs : List Bool) (j : Nat) : Nat := val ((List.range 8).map fun i => bs[8 * j + i]?.getD false)

/-- Bits, eight a byte. -/
def pk (bs : List Bool) : List Nat := (List.range ((bs.length + 7) / 8)).map (byteAt bs)

theorem byteAt_lt (bs : List Bool) (j : Nat) : byteAt bs j < 256 := by
  have := val_lt ((List.range 8).map fun i => bs[8 * j + i]?.getD false)
  simpa [byteAt] using this

theorem byteAt_testBit (bs : List Bool) (j t : Nat) : (byteAt bs j).testBit t = (decide (t < 8) && (bs[8 * j + (7 - t)]?.getD false)) := by
  unfold byteAt
  rw [val_testBit]
  simp only [List.length_map, List.length_range]
  by_cases h : t < 8
  · rw [List.getElem?_map, List.getElem?_range (by omega)]
    simp [h]
  · simp [h]

theorem pk_length (bs : List Bool) : (pk bs).length = (bs.length + 7) / 8 := by simp [pk]

theorem pk_get (bs : List Bool) (j : Nat) (h : j < (bs.length + 7) / 8) : (pk bs)[j]? = some (byteAt bs j) := by
  unfold pk
  rw [List.getElem?_map, List.getElem?_range h]; rfl

theorem pk_lt (bs : List Bool) : ∀ x ∈ pk bs, x < 256 := by
  intro x hx
  simp only [pk, List.mem_map] at hx
  obtain ⟨j, _, rfl⟩ := hx
  exact byteAt_lt bs j

theorem append_get (a b : List Bool) (i : Nat) : ((a ++ b)[i]?.getD false) = if i < a.length then a[i]?.getD false else b[i - a.length]?.getD false := by
  by_cases h : i < a.length
  · rw [List.getElem?_append_left h, if_pos h]
  · rw [List.getElem?_append_right (by omega), if_neg h]

theorem get_ge (a : List Bool) (i : Nat) (h : a.length ≤ i) : (a[i]?.getD false) = false := by
  rw [List.getElem?_eq_none h]; rfl

/-- What a byte becomes when n bits of u come to it, behind 'used' ones. -/
theorem byte_step (bs : List Bool) (u n : Nat) (hn : n ≤ 8 - bs.length % 8) (h0 : 0 < n) :
    byteAt (bs ++ bitsOf u n) (bs.length / 8) = byteAt bs (bs.length / 8) ||| (u % 2 ^ n * 2 ^ (8 - bs.length % 8 - n)) := by
  apply Nat.eq_of_testBit_eq
  intro t
  rw [Nat.testBit_or, byteAt_testBit, byteAt_testBit, append_get, bitsOf_get, Nat.mul_comm (u % 2 ^ n), Nat.testBit_two_pow_mul, Nat.testBit_mod_two_pow]
  by_cases h8 : t < 8
  · by_cases h1 : 8 * (bs.length / 8) + (7 - t) < bs.length
    · rw [if_pos h1]
      have : ¬ (8 - bs.length % 8 - n ≤ t ∧ t - (8 - bs.length % 8 - n) < n) := by omega
      by_cases h2 : 8 - bs.length % 8 - n ≤ t
      · have h3 : ¬ t - (8 - bs.length % 8 - n) < n := by omega
        simp [h3]
      · simp [h2]
    · rw [if_neg h1, get_ge bs _ (by omega)]
      by_cases h2 : 8 - bs.length % 8 - n ≤ t
      · have h3 : t - (8 - bs.length % 8 - n) < n := by omega
        have h4 : 8 * (bs.length / 8) + (7 - t) - bs.length < n := by omega
        have h5 : n - 1 - (8 * (bs.length / 8) + (7 - t) - bs.length) = t - (8 - bs.length % 8 - n) := by omega
        simp [h8, h2, h3, h4, h5]
      · have h4 : ¬ 8 * (bs.length / 8) + (7 - t) - bs.length < n := by omega
        simp [h2, h4]
  · have h2 : ¬ (t - (8 - bs.length % 8 - n) < n) := by omega
    simp [h8, h2]

theorem byte_other (bs r : List Bool) (j : Nat) (h : 8 * j + 8 ≤ bs.length) : byteAt (bs ++ r) j = byteAt bs j := by
  apply Nat.eq_of_testBit_eq
  intro t
  rw [byteAt_testBit, byteAt_testBit, append_get]
  by_cases h8 : t < 8
  · rw [if_pos (by omega)]
  · simp [h8]

theorem byteAt_end (bs : List Bool) (j : Nat) (h : bs.length ≤ 8 * j) : byteAt bs j = 0 := by
  apply Nat.eq_of_testBit_eq
  intro t
  rw [byteAt_testBit, get_ge bs _ (by omega)]
  simp

/-- A round of Bits where the last byte has room. -/
theorem pk_step (bs : List Bool) (u n : Nat) (hn : n ≤ 8 - bs.length % 8) (h0 : 0 < n) (hu : bs.length % 8 ≠ 0) :
    pk (bs ++ bitsOf u n) = (pk bs).set ((pk bs).length - 1) (((pk bs)[(pk bs).length - 1]?.getD 0) ||| (u % 2 ^ n * 2 ^ (8 - bs.length % 8 - n))) := by
  have hl := pk_length bs
  have hl2 := pk_length (bs ++ bitsOf u n)
  rw [List.length_append, bitsOf_length] at hl2
  apply List.ext_getElem?
  intro j
  by_cases hj : j < (bs.length + 7) / 8
  · rw [pk_get _ j (by rw [List.length_append, bitsOf_length]; omega), List.getElem?_set]
    by_cases he : (pk bs).length - 1 = j
    · rw [if_pos he, if_pos (by omega)]
      have e : j = bs.length / 8 := by omega
      rw [he, e, pk_get bs _ (by omega), byte_step bs u n hn h0]
      rfl
    · rw [if_neg he, pk_get bs j hj, byte_other _ _ _ (by omega)]
  · rw [List.getElem?_eq_none (by omega), List.getElem?_eq_none (by simp; omega)]

/-- A round of Bits that begins a byte. -/
theorem pk_step0 (bs : List Bool) (u n : Nat) (hn : n ≤ 8) (h0 : 0 < n) (hu : bs.length % 8 = 0) :
    pk (bs ++ bitsOf u n) = (pk bs ++ [0]).set (pk bs).length (0 ||| (u % 2 ^ n * 2 ^ (8 - bs.length % 8 - n))) := by
  have hl := pk_length bs
  have hl2 := pk_length (bs ++ bitsOf u n)
  rw [List.length_append, bitsOf_length] at hl2
  apply List.ext_getElem?
  intro j
  by_cases hj : j < (bs.length + 7) / 8
  · rw [pk_get _ j (by rw [List.length_append, bitsOf_length]; omega), List.getElem?_set, if_neg (by omega), List.getElem?_append_left (by omega), pk_get bs j hj, byte_other _ _ _ (by omega)]
  · by_cases he : j = (bs.length + 7) / 8
    · rw [pk_get _ j (by rw [List.length_append, bitsOf_length]; omega), List.getElem?_set, if_pos (by omega), if_pos (by simp)]
      have e : j = bs.length / 8 := by omega
      rw [e, byte_step bs u n (by omega) h0, byteAt_end bs _ (by omega)]
    · rw [List.getElem?_eq_none (by omega), List.getElem?_eq_none (by simp; omega)]

/-! ## the bits of bytes -/

def bitsB (l : List Nat) : List Bool := l.flatMap fun b => bitsOf b 8

theorem bitsB_length (l : List Nat) : (bitsB l).length = 8 * l.length := by
  induction l with
  | nil => rfl
  | cons a l ih => simp only [bitsB, List.flatMap_cons, List.length_append, bitsOf_length, List.length_cons] at ih ⊢; omega

theorem bitsB_get (l : List Nat) (i : Nat) : ((bitsB l)[i]?.getD false) = ((l[i / 8]?.getD 0).testBit (7 - i % 8)) := by
  induction l generalizing i with
  | nil => simp [bitsB]
  | cons a l ih =>
    have e : bitsB (a :: l) = bitsOf a 8 ++ bitsB l := rfl
    rw [e, append_get, bitsOf_length]
    by_cases h : i < 8
    · rw [if_pos h, bitsOf_get]
      have e1 : i / 8 = 0 := by omega
      have e2 : 8 - 1 - i = 7 - i % 8 := by omega
      rw [e1, e2]; simp [h]
    · rw [if_neg h, ih]
      have e1 : i / 8 = (i - 8) / 8 + 1 := by omega
      have e2 : (i - 8) % 8 = i % 8 := by omega
      rw [e1, e2]; simp

theorem take_drop_get (l : List Bool) (p n i : Nat) (h : i < n) : (((l.drop p).take n)[i]?.getD false) = (l[p + i]?.getD false) := by
  rw [List.getElem?_take, if_pos h, List.getElem?_drop]

/-- A chunk of a byte is bits of it. -/
theorem chunk_val (l : List Nat) (p n : Nat) (hn : n ≤ 8 - p % 8) (hp : p + n ≤ 8 * l.length) :
    val (((bitsB l).drop p).take n) = (l[p / 8]?.getD 0) / 2 ^ (8 - p % 8 - n) % 2 ^ n := by
  apply Nat.eq_of_testBit_eq
  intro t
  have hlen : (((bitsB l).drop p).take n).length = n := by simp [bitsB_length]; omega
  rw [val_testBit, hlen, Nat.testBit_mod_two_pow, Nat.testBit_div_two_pow]
  by_cases h : t < n
  · rw [take_drop_get _ _ _ _ (by omega), bitsB_get]
    have e1 : (p + (n - 1 - t)) / 8 = p / 8 := by omega
    have e2 : 7 - (p + (n - 1 - t)) % 8 = t + (8 - p % 8 - n) := by omega
    rw [e1, e2]
  · simp [h]

theorem take_add (l : List Bool) (a b : Nat) : l.take (a + b) = l.take a ++ (l.drop a).take b := by
  rw [List.take_add]

theorem val_take_add (l : List Bool) (p k n : Nat) (h : p + k + n ≤ l.length) :
    val ((l.drop p).take (k + n)) = val ((l.drop p).take k) * 2 ^ n + val ((l.drop (p + k)).take n) := by
  have e : (((l.drop p).drop k).take n).length = n := by simp; omega
  rw [take_add, val_append, e, List.drop_drop]

/-- The bits of bits' bytes are these bits, and what fills up. -/
theorem bitsB_pk (bs : List Bool) : bitsB (pk bs) = bs ++ List.replicate (8 * ((bs.length + 7) / 8) - bs.length) false := by
  apply List.ext_getElem
  · rw [bitsB_length, pk_length]; simp; omega
  · intro i h1 h2
    have hg : ∀ (l : List Bool) (h : i < l.length), l[i] = l[i]?.getD false := fun l h => by simp [h]
    rw [hg _ h1, hg _ h2, bitsB_get, append_get]
    rw [bitsB_length, pk_length] at h1
    rw [pk_get bs _ (by omega)]
    show (byteAt bs (i / 8)).testBit (7 - i % 8) = _
    rw [byteAt_testBit]
    have e : 8 * (i / 8) + (7 - (7 - i % 8)) = i := by omega
    rw [e]
    by_cases h : i < bs.length
    · rw [if_pos h]; simp; intro _; omega
    · rw [if_neg h, get_ge bs i (by omega), List.getElem?_replicate]
      split <;> simp

/-! ## numbers that are PUT -/

def wid : Nat → Nat
  | 0 => 0 | 1 => 4 | 2 => 7 | 3 => 12 | 4 => 20 | 5 => 32 | _ => 64

def nar (u : Nat) : Nat :=
  if u < 1 then 0 else if u < 16 then 1 else if u < 128 then 2 else if u < 4096 then 3 else if u < 1048576 then 4 else if u < 4294967296 then 5 else 6

theorem nar_le (u : Nat) : nar u ≤ 6 := by unfold nar; repeat' split <;> try omega

theorem nar_below (u k : Nat) (h : k < nar u) : ¬ u < 2 ^ wid k := by
  have hk : k = 0 ∨ k = 1 ∨ k = 2 ∨ k = 3 ∨ k = 4 ∨ k = 5 := by have := nar_le u; omega
  unfold nar at h
  rcases hk with rfl | rfl | rfl | rfl | rfl | rfl <;> simp only [wid] <;> (repeat' split at h) <;> omega

theorem wid_le (i : Nat) : wid i ≤ 64 := by unfold wid; split <;> omega

def zig (n : Int) : Nat := if n < 0 then (-2 * n - 1).toNat else (2 * n).toNat
def zag (u : Nat) : Int := if u % 2 = 1 then -((u / 2 : Nat) : Int) - 1 else ((u / 2 : Nat) : Int)

theorem zag_zig (n : Int) : zag (zig n) = n := by unfold zag zig; split <;> split <;> omega
theorem zig_lt (n : Int) (h1 : -9223372036854775808 ≤ n) (h2 : n ≤ 9223372036854775807) : zig n < 18446744073709551616 := by unfold zig; split <;> omega

def headL (i : Nat) : List Bool := List.replicate i true ++ (if i < 6 then [false] else [])
def putL (u : Nat) : List Bool := headL (nar u) ++ bitsOf u (wid (nar u))

/-- Which width: the bits 1 that stand ahead (k more may come), and what is left. -/
def plc : Nat → List Bool → Option (Nat × List Bool)
  | 0, b => some (0, b)
  | _ + 1, [] => none
  | _ + 1, false :: r => some (0, r)
  | k + 1, true :: r => (plc k r).map fun x => (x.1 + 1, x.2)

def getL (b : List Bool) : Option (Nat × List Bool) :=
  match plc 6 b with
  | none => none
  | some (i, r) => if r.length < wid i then none else if nar (val (r.take (wid i))) = i then some (val (r.take (wid i)), r.drop (wid i)) else none

theorem plc_head (i : Nat) (h : i ≤ 6) (r : List Bool) : plc 6 (headL i ++ r) = some (i, r) := by
  have : i = 0 ∨ i = 1 ∨ i = 2 ∨ i = 3 ∨ i = 4 ∨ i = 5 ∨ i = 6 := by omega
  rcases this with rfl | rfl | rfl | rfl | rfl | rfl | rfl <;> rfl

theorem fits_wid (u : Nat) (h : u < 18446744073709551616) : u < 2 ^ wid (nar u) := by
  unfold nar
  repeat' split
  all_goals (simp only [wid]; omega)

theorem getL_putL (u : Nat) (h : u < 18446744073709551616) (r : List Bool) : getL (putL u ++ r) = some (u, r) := by
  unfold getL putL
  rw [List.append_assoc, plc_head _ (nar_le u)]
  have hl : (bitsOf u (wid (nar u))).length = wid (nar u) := bitsOf_length _ _
  have e1 : (bitsOf u (wid (nar u)) ++ r).take (wid (nar u)) = bitsOf u (wid (nar u)) := by
    rw [List.take_append_of_le_length (by omega), List.take_of_length_le (by omega)]
  have e2 : (bitsOf u (wid (nar u)) ++ r).drop (wid (nar u)) = r := by
    rw [List.drop_append_of_le_length (by omega), List.drop_of_length_le (by omega)]; rfl
  have e3 : val (bitsOf u (wid (nar u))) = u := by rw [val_bitsOf, Nat.mod_eq_of_lt (fits_wid u h)]
  simp only [e1, e2, e3]
  rw [if_neg (by simp [hl]), if_pos trivial]

theorem headL_length (i : Nat) : (headL i).length = i + (if i < 6 then 1 else 0) := by
  unfold headL; split <;> simp

theorem putL_length (u : Nat) : (putL u).length = nar u + (if nar u < 6 then 1 else 0) + wid (nar u) := by
  unfold putL; rw [List.length_append, headL_length, bitsOf_length]

theorem putL_bounds (u : Nat) : 1 ≤ (putL u).length ∧ (putL u).length ≤ 70 ∧ (u = 0 → (putL u).length = 1) ∧ (u < 16 → (putL u).length ≤ 6) := by
  rw [putL_length]
  have hn := nar_le u
  refine ⟨?_, ?_, ?_, ?_⟩
  · split <;> omega
  · have : nar u = 0 ∨ nar u = 1 ∨ nar u = 2 ∨ nar u = 3 ∨ nar u = 4 ∨ nar u = 5 ∨ nar u = 6 := by omega
    rcases this with h | h | h | h | h | h | h <;> simp [h, wid]
  · intro h; subst h; decide
  · intro h
    by_cases h0 : u < 1
    · have : nar u = 0 := by unfold nar; simp [h0]
      simp [this, wid]
    · have : nar u = 1 := by unfold nar; rw [if_neg h0, if_pos h]
      simp [this, wid]

end BL
end Go.Proofs.YtdmnlmohfaafoadGreatDoor

namespace Go.Proofs.YtdmnlmohfaafoadGreatDoor
namespace CL
open BL

/-- A sample: its time, its value. -/
abbrev Smp := Int × Int

/-- A number as an int64 keeps it. -/
def W (n : Int) : Int := (n + 9223372036854775808) % 18446744073709551616 - 9223372036854775808

def Rs (s : Smp) : Prop := (-9223372036854775808 ≤ s.1 ∧ s.1 ≤ 9223372036854775807) ∧ (-9223372036854775808 ≤ s.2 ∧ s.2 ≤ 9223372036854775807)

theorem W_range (n : Int) : -9223372036854775808 ≤ W n ∧ W n ≤ 9223372036854775807 := by unfold W; omega
theorem W_id (n : Int) (h1 : -9223372036854775808 ≤ n) (h2 : n ≤ 9223372036854775807) : W n = n := by unfold W; omega

def at' (l : List Smp) (i : Nat) : Smp := l.getD i (0, 0)

/-- The sample ahead of the i-th. -/
def ahead (l : List Smp) (i : Nat) : Smp := if i = 0 then (0, 0) else at' l (i - 1)
/-- What is taken away from the i-th one's step. -/
def stp (l : List Smp) (i : Nat) : Int := if i < 2 then 0 else W ((at' l (i - 1)).1 - (at' l (i - 2)).1)
def num1 (l : List Smp) (i : Nat) : Int := W (W ((at' l i).1 - (ahead l i).1) - stp l i)
def num2 (l : List Smp) (i : Nat) : Int := W ((at' l i).2 - (ahead l i).2)
def pairB (l : List Smp) (i : Nat) : List Bool := putL (zig (num1 l i)) ++ putL (zig (num2 l i))
/-- The bits of n samples from the k-th on. -/
def seg (l : List Smp) (k : Nat) : Nat → List Bool
  | 0 => []
  | n + 1 => pairB l k ++ seg l (k + 1) n
def chB (l : List Smp) : List Bool := putL (zig l.length) ++ seg l 0 l.length

theorem seg_succ (l : List Smp) (n : Nat) : ∀ k, seg l k (n + 1) = seg l k n ++ pairB l (k + n) := by
  induction n with
  | zero => intro k; simp [seg]
  | succ n ih =>
    intro k
    have e : seg l k (n + 1 + 1) = pairB l k ++ seg l (k + 1) (n + 1) := rfl
    rw [e, ih (k + 1), ← List.append_assoc]
    have e2 : k + 1 + n = k + (n + 1) := by omega
    rw [e2]; rfl

theorem seg_len (l : List Smp) (n : Nat) : ∀ k, (seg l k n).length ≤ 140 * n := by
  induction n with
  | zero => intro k; simp [seg]
  | succ n ih =>
    intro k
    have h1 := (putL_bounds (zig (num1 l k))).2.1
    have h2 := (putL_bounds (zig (num2 l k))).2.1
    have h3 := ih (k + 1)
    simp only [seg, pairB, List.length_append]
    omega

theorem chB_len (l : List Smp) : (chB l).length ≤ 70 + 140 * l.length := by
  have h1 := (putL_bounds (zig l.length)).2.1
  have h2 := seg_len l l.length 0
  simp only [chB, List.length_append]
  omega

theorem chB_pos (l : List Smp) : 1 ≤ (chB l).length := by
  have h1 := (putL_bounds (zig l.length)).1
  simp only [chB, List.length_append]
  omega

/-! ## which samples may be -/

def okAt (l : List Smp) (i : Nat) : Bool :=
  decide (-1099511627776 ≤ (at' l i).1) && decide ((at' l i).1 ≤ 1099511627776) && (decide (i = 0) || decide ((at' l (i - 1)).1 < (at' l i).1))
def right (l : List Smp) : Bool := decide (l.length ≤ 2000) && (List.range l.length).all (okAt l)

theorem okAt_iff (l : List Smp) (i : Nat) : okAt l i = true ↔ (-1099511627776 ≤ (at' l i).1 ∧ (at' l i).1 ≤ 1099511627776) ∧ (i = 0 ∨ (at' l (i - 1)).1 < (at' l i).1) := by
  simp [okAt]

theorem right_iff (l : List Smp) : right l = true ↔ l.length ≤ 2000 ∧ ∀ i, i < l.length → okAt l i = true := by
  simp [right, List.all_eq_true, List.mem_range]

theorem right_of (l : List Smp) (h : l.length ≤ 2000) (h2 : ∀ i, i < l.length → okAt l i = true) : right l = true := (right_iff l).2 ⟨h, h2⟩
theorem not_right (l : List Smp) (i : Nat) (h : i < l.length) (h2 : okAt l i = false) : right l = false := by
  rw [← Bool.not_eq_true, right_iff]
  intro hh
  have := hh.2 i h
  rw [h2] at this
  cases this
theorem not_right_len (l : List Smp) (h : 2000 < l.length) : right l = false := by
  rw [← Bool.not_eq_true, right_iff]
  omega

/-! ## reading -/

/-- The sample that two numbers tell behind l. -/
def nxt (l : List Smp) (d v : Int) : Smp := (W (W ((ahead l l.length).1 + stp l l.length) + d), W ((ahead l l.length).2 + v))

def unn : Nat → List Smp → List Bool → Option (List Smp × List Bool)
  | 0, l, b => some (l, b)
  | n + 1, l, b => match getL b with
    | none => none
    | some (u, r) => match getL r with
      | none => none
      | some (v, r2) => unn n (l ++ [nxt l (zag u) (zag v)]) r2

def readL (b : List Bool) : Option (List Smp) :=
  match getL b with
  | none => none
  | some (u, r) => if 0 ≤ zag u ∧ zag u ≤ 2000 then
      match unn (zag u).toNat [] r with
      | none => none
      | some (l, t) => if t.length < 8 ∧ val t = 0 ∧ right l = true then some l else none
    else none

theorem unn_none1 (n : Nat) (l : List Smp) (b : List Bool) (h : getL b = none) : unn (n + 1) l b = none := by
  unfold unn; rw [h]
theorem unn_none2 (n : Nat) (l : List Smp) (b r : List Bool) (u : Nat) (h : getL b = some (u, r)) (h2 : getL r = none) : unn (n + 1) l b = none := by
  unfold unn; rw [h]; simp only []; rw [h2]
theorem unn_some (n : Nat) (l : List Smp) (b r r2 : List Bool) (u v : Nat) (h : getL b = some (u, r)) (h2 : getL r = some (v, r2)) : unn (n + 1) l b = unn n (l ++ [nxt l (zag u) (zag v)]) r2 := by
  conv => lhs; unfold unn
  rw [h]; simp only []; rw [h2]

theorem at_take (L : List Smp) (k i : Nat) (h : i < k) : at' (L.take k) i = at' L i := by
  unfold at'; rw [List.getD_eq_getElem?_getD, List.getElem?_take_of_lt h, ← List.getD_eq_getElem?_getD]

theorem ahead_take (L : List Smp) (k : Nat) : ahead (L.take k) k = ahead L k := by
  unfold ahead
  split
  · rfl
  · exact at_take L k (k - 1) (by omega)

theorem stp_take (L : List Smp) (k : Nat) : stp (L.take k) k = stp L k := by
  unfold stp
  split
  · rfl
  · rw [at_take L k (k - 1) (by omega), at_take L k (k - 2) (by omega)]

theorem take_nxt (L : List Smp) (k : Nat) (h : k < L.length) : L.take k ++ [at' L k] = L.take (k + 1) := by
  rw [List.take_succ_eq_append_getElem h]
  simp [at', h]

theorem at_mem (L : List Smp) (k : Nat) (h : k < L.length) : at' L k ∈ L := by
  have : at' L k = L[k] := by simp [at', h]
  rw [this]; exact List.getElem_mem h

theorem nxt_num (L : List Smp) (k : Nat) (h : k < L.length) (hR : ∀ s ∈ L, Rs s) : nxt (L.take k) (num1 L k) (num2 L k) = at' L k := by
  have hl : (L.take k).length = k := by rw [List.length_take]; omega
  have hr := hR _ (at_mem L k h)
  unfold nxt
  rw [hl, ahead_take, stp_take]
  unfold num1 num2
  generalize at' L k = s at *
  obtain ⟨t, v⟩ := s
  obtain ⟨⟨h1, h2⟩, h3, h4⟩ := hr
  simp only at h1 h2 h3 h4 ⊢
  generalize (ahead L k).1 = a
  generalize (ahead L k).2 = b
  generalize stp L k = c
  unfold W
  rw [Prod.mk.injEq]
  constructor <;> omega

theorem num_range1 (L : List Smp) (k : Nat) : -9223372036854775808 ≤ num1 L k ∧ num1 L k ≤ 9223372036854775807 := W_range _
theorem num_range2 (L : List Smp) (k : Nat) : -9223372036854775808 ≤ num2 L k ∧ num2 L k ≤ 9223372036854775807 := W_range _

theorem get_num (x : Int) (h1 : -9223372036854775808 ≤ x) (h2 : x ≤ 9223372036854775807) (r : List Bool) : getL (putL (zig x) ++ r) = some (zig x, r) := getL_putL _ (zig_lt x h1 h2) r

theorem unn_seg (L : List Smp) (hR : ∀ s ∈ L, Rs s) (r : List Bool) (n : Nat) : ∀ k, k + n = L.length → unn n (L.take k) (seg L k n ++ r) = some (L, r) := by
  induction n with
  | zero => intro k hk; simp only [unn, seg, List.nil_append]; rw [List.take_of_length_le (by omega)]
  | succ n ih =>
    intro k hk
    have e : seg L k (n + 1) ++ r = putL (zig (num1 L k)) ++ (putL (zig (num2 L k)) ++ (seg L (k + 1) n ++ r)) := by
      simp only [seg, pairB, List.append_assoc]
    rw [e]
    unfold unn
    rw [get_num _ (num_range1 L k).1 (num_range1 L k).2]
    simp only []
    rw [get_num _ (num_range2 L k).1 (num_range2 L k).2]
    simp only [zag_zig]
    rw [nxt_num L k (by omega) hR, take_nxt L k (by omega)]
    exact ih (k + 1) (by omega)

theorem zig_zag (u : Nat) : zig (zag u) = u := by unfold zig zag; split <;> split <;> omega
theorem zag_range (u : Nat) (hu : u < 18446744073709551616) : -9223372036854775808 ≤ zag u ∧ zag u ≤ 9223372036854775807 := by unfold zag; split <;> omega

theorem plc_inv : ∀ (k : Nat) (b : List Bool) (i : Nat) (r : List Bool), plc k b = some (i, r) → i ≤ k ∧ b = List.replicate i true ++ (if i < k then [false] else []) ++ r
  | 0, b, i, r, h => by simp [plc] at h; obtain ⟨rfl, rfl⟩ := h; simp
  | k + 1, [], i, r, h => by simp [plc] at h
  | k + 1, false :: b, i, r, h => by simp [plc] at h; obtain ⟨rfl, rfl⟩ := h; simp
  | k + 1, true :: b, i, r, h => by
    have e : plc (k + 1) (true :: b) = (plc k b).map fun x => (x.1 + 1, x.2) := rfl
    rw [e] at h
    rcases hx : plc k b with _ | ⟨j, r'⟩
    · rw [hx] at h; simp at h
    · rw [hx] at h
      simp at h
      obtain ⟨rfl, rfl⟩ := h
      obtain ⟨h1, h2⟩ := plc_inv k b j r' hx
      refine ⟨by omega, ?_⟩
      rw [h2, List.replicate_succ]
      by_cases hj : j < k
      · rw [if_pos hj, if_pos (by omega)]; rfl
      · rw [if_neg hj, if_neg (by omega)]; rfl

theorem bitsOf_val (l : List Bool) : bitsOf (val l) l.length = l := by
  apply List.ext_getElem
  · exact bitsOf_length _ _
  · intro i h1 h2
    have e := bitsOf_get (val l) l.length i
    rw [val_testBit] at e
    have e3 : l.length - 1 - (l.length - 1 - i) = i := by omega
    rw [e3] at e
    simp [h2] at e
    have h4 : l.length - 1 - i < l.length := by omega
    simp [h4] at e
    rw [List.getElem?_eq_getElem h1] at e
    simpa using e

theorem getL_inv (b : List Bool) (u : Nat) (r : List Bool) (h : getL b = some (u, r)) : b = putL u ++ r ∧ u < 18446744073709551616 := by
  unfold getL at h
  rcases hp : plc 6 b with _ | ⟨i, q⟩
  · rw [hp] at h; simp at h
  · rw [hp] at h
    simp only [] at h
    split at h
    · simp at h
    · next hlen =>
      split at h
      · next hn =>
        simp only [Option.some.injEq, Prod.mk.injEq] at h
        obtain ⟨hu, hr⟩ := h
        obtain ⟨hi, hb⟩ := plc_inv 6 b i q hp
        have htl : (q.take (wid i)).length = wid i := by rw [List.length_take]; omega
        have hbv := bitsOf_val (q.take (wid i))
        rw [htl, hu] at hbv
        rw [hu] at hn
        constructor
        · rw [hb]
          unfold putL headL
          rw [hn, hbv, ← hr, List.append_assoc, List.append_assoc, List.append_assoc, List.take_append_drop]
        · have h1 := val_lt (q.take (wid i))
          rw [htl, hu] at h1
          have h2 := wid_le i
          have h3 : 2 ^ wid i ≤ 2 ^ 64 := Nat.pow_le_pow_right (by omega) h2
          omega
      · simp at h

theorem at_app (l : List Smp) (s : Smp) : at' (l ++ [s]) l.length = s := by simp [at']

theorem unn_inv (n : Nat) : ∀ (l : List Smp) (b : List Bool) (L : List Smp) (t : List Bool), unn n l b = some (L, t) → (∀ s ∈ l, Rs s) →
    L.take l.length = l ∧ L.length = l.length + n ∧ b = seg L l.length n ++ t ∧ ∀ s ∈ L, Rs s := by
  induction n with
  | zero =>
    intro l b L t h hR
    simp only [unn, Option.some.injEq, Prod.mk.injEq] at h
    obtain ⟨rfl, rfl⟩ := h
    exact ⟨List.take_of_length_le (Nat.le_refl _), rfl, rfl, hR⟩
  | succ n ih =>
    intro l b L t h hR
    unfold unn at h
    rcases hg : getL b with _ | ⟨u, r⟩
    · rw [hg] at h; simp at h
    · rw [hg] at h
      simp only [] at h
      rcases hg2 : getL r with _ | ⟨v, r2⟩
      · rw [hg2] at h; simp at h
      · rw [hg2] at h
        simp only [] at h
        obtain ⟨hb, hu⟩ := getL_inv b u r hg
        obtain ⟨hb2, hv⟩ := getL_inv r v r2 hg2
        have hzu := zag_range u hu
        have hzv := zag_range v hv
        have hn : Rs (nxt l (zag u) (zag v)) := ⟨W_range _, W_range _⟩
        obtain ⟨h1, h2, h3, h4⟩ := ih _ _ _ _ h (by
          intro s hs
          rcases List.mem_append.1 hs with hs | hs
          · exact hR s hs
          · rw [List.mem_singleton] at hs; rw [hs]; exact hn)
        have hl1 : (l ++ [nxt l (zag u) (zag v)]).length = l.length + 1 := by simp
        rw [hl1] at h1 h2 h3
        have hl : L.take l.length = l := by
          have : (L.take (l.length + 1)).take l.length = l := by rw [h1]; simp
          rw [List.take_take] at this
          rwa [show min l.length (l.length + 1) = l.length by omega] at this
        have hat : at' L l.length = nxt l (zag u) (zag v) := by
          rw [← at_take L (l.length + 1) l.length (by omega), h1, at_app]
        have ha : ahead L l.length = ahead l l.length := by rw [← ahead_take, hl]
        have hst : stp L l.length = stp l l.length := by rw [← stp_take, hl]
        refine ⟨hl, by omega, ?_, h4⟩
        have e1 : num1 L l.length = zag u := by
          unfold num1
          rw [hat, ha, hst]
          unfold nxt
          simp only []
          generalize (ahead l l.length).1 = a
          generalize stp l l.length = c
          unfold W
          omega
        have e2 : num2 L l.length = zag v := by
          unfold num2
          rw [hat, ha]
          unfold nxt
          simp only []
          generalize (ahead l l.length).2 = a
          unfold W
          omega
        simp only [seg, pairB, e1, e2, zig_zag]
        rw [hb, hb2, h3]
        simp

theorem val_zero_inv (l : List Bool) (h : val l = 0) : l = List.replicate l.length false := by
  have h1 := bitsOf_val l
  rw [h] at h1
  have aux : ∀ n, bitsOf 0 n = List.replicate n false := by
    intro n
    induction n with
    | zero => rfl
    | succ n ih => simp [bitsOf, ih, List.replicate_succ]
  rw [aux] at h1
  exact h1.symm

theorem zag_cast (n : Nat) : zag (zig (n : Int)) = n := zag_zig n

/-- What is written is read. -/
theorem read_write (l : List Smp) (hr : right l = true) (hR : ∀ s ∈ l, Rs s) (k : Nat) (hk : k < 8) : readL (chB l ++ List.replicate k false) = some l := by
  have hlen := ((right_iff l).1 hr).1
  unfold readL chB
  rw [List.append_assoc, get_num _ (by omega) (by omega)]
  simp only [zag_cast]
  rw [if_pos (by omega)]
  have hu := unn_seg l hR (List.replicate k false) l.length 0 (by omega)
  simp only [List.take_zero] at hu
  simp only [Int.toNat_natCast, hu]
  rw [if_pos ⟨by simpa using hk, val_zeros k, hr⟩]

/-- What is read is written just so. -/
theorem read_inv (b : List Bool) (l : List Smp) (h : readL b = some l) : right l = true ∧ (∀ s ∈ l, Rs s) ∧ ∃ k, k < 8 ∧ b = chB l ++ List.replicate k false := by
  unfold readL at h
  rcases hg : getL b with _ | ⟨u, r⟩
  · rw [hg] at h; simp at h
  · rw [hg] at h
    simp only [] at h
    split at h
    · next hc =>
      rcases hn : unn (zag u).toNat [] r with _ | ⟨L, t⟩
      · rw [hn] at h; simp at h
      · rw [hn] at h
        simp only [] at h
        split at h
        · next hc2 =>
          simp only [Option.some.injEq] at h
          subst h
          obtain ⟨h1, h2, h3, h4⟩ := unn_inv _ _ _ _ _ hn (by simp)
          obtain ⟨hb, hu⟩ := getL_inv b u r hg
          refine ⟨hc2.2.2, h4, t.length, hc2.1, ?_⟩
          rw [← val_zero_inv t hc2.2.1]
          unfold chB
          simp only [List.length_nil, Nat.zero_add] at h2 h3
          have e : zig ((L.length : Nat) : Int) = u := by
            rw [h2, show (((zag u).toNat : Nat) : Int) = zag u by omega, zig_zag]
          rw [e, hb, h3, h2, List.append_assoc]
        · simp at h
    · simp at h

theorem chB_inj (l l' : List Smp) (r r' : List Bool) (hR : ∀ s ∈ l, Rs s) (hR' : ∀ s ∈ l', Rs s) (hl : l.length ≤ 2000) (hl' : l'.length ≤ 2000) (h : chB l ++ r = chB l' ++ r') : l = l' ∧ r = r' := by
  unfold chB at h
  rw [List.append_assoc, List.append_assoc] at h
  have h1 := get_num (l.length : Int) (by omega) (by omega) (seg l 0 l.length ++ r)
  rw [h, get_num (l'.length : Int) (by omega) (by omega)] at h1
  simp only [Option.some.injEq, Prod.mk.injEq] at h1
  obtain ⟨h2, h3⟩ := h1
  have h4 : ((l'.length : Nat) : Int) = (l.length : Int) := by rw [← zag_cast l'.length, h2, zag_cast]
  have h5 : l'.length = l.length := by omega
  have a := unn_seg l hR r l.length 0 (by omega)
  have b := unn_seg l' hR' r' l'.length 0 (by omega)
  rw [h3, h5] at b
  simp only [List.take_zero] at a b
  rw [a] at b
  simpa using b

/-- No beginning of it is any. -/
theorem read_prefix (l : List Smp) (hr : right l = true) (hR : ∀ s ∈ l, Rs s) (k : Nat) (hk : k < 8) (p q : List Bool) (h : p ++ q = chB l ++ List.replicate k false) (hq : 8 ≤ q.length) : readL p = none := by
  rcases hx : readL p with _ | l'
  · rfl
  · exfalso
    obtain ⟨h1, h2, k', hk', h3⟩ := read_inv p l' hx
    rw [h3, List.append_assoc] at h
    obtain ⟨_, h4⟩ := chB_inj l' l _ _ h2 hR ((right_iff l').1 h1).1 ((right_iff l).1 hr).1 h
    have h5 := congrArg List.length h4
    simp at h5
    omega

theorem num1_bound (l : List Smp) (hr : right l = true) (i : Nat) (h : i < l.length) : -8796093022208 ≤ num1 l i ∧ num1 l i ≤ 8796093022208 := by
  have hr' := ((right_iff l).1 hr).2
  have h0 := (okAt_iff l i).1 (hr' i h)
  unfold num1 ahead stp
  by_cases h1 : i = 0
  · rw [if_pos h1, if_pos (by omega)]; unfold W; simp only []; omega
  · have h2 := (okAt_iff l (i - 1)).1 (hr' (i - 1) (by omega))
    rw [if_neg h1]
    by_cases h3 : i < 2
    · rw [if_pos h3]; unfold W; omega
    · have h4 := (okAt_iff l (i - 2)).1 (hr' (i - 2) (by omega))
      rw [if_neg h3]; unfold W; omega

/-! ## even steps -/

theorem seg_small (l : List Smp) (n : Nat) : ∀ k, (∀ i, k ≤ i → i < k + n → num1 l i = 0 ∧ num2 l i = 0) → (seg l k n).length = 2 * n := by
  induction n with
  | zero => intro k _; rfl
  | succ n ih =>
    intro k h
    obtain ⟨h1, h2⟩ := h k (by omega) (by omega)
    have h3 := ih (k + 1) (fun i a b => h i (by omega) (by omega))
    have e1 := (putL_bounds 0).2.2.1 rfl
    simp only [seg, pairB, List.length_append, h1, h2, h3]
    rw [show zig 0 = 0 from rfl, e1]
    omega

theorem seg_add (l : List Smp) (a : Nat) : ∀ k b, seg l k (a + b) = seg l k a ++ seg l (k + a) b := by
  induction a with
  | zero => intro k b; simp [seg]
  | succ a ih =>
    intro k b
    rw [show a + 1 + b = (a + b) + 1 by omega]
    simp only [seg]
    rw [ih (k + 1) b, List.append_assoc, show k + 1 + a = k + (a + 1) by omega]

theorem even_small (l : List Smp) (from' step value : Int) (n : Nat) (hn : l.length = n)
    (h : ∀ i, i < n → at' l i = (from' + i * step, value)) : (chB l).length ≤ 277 + 2 * n := by
  unfold chB
  rw [List.length_append, hn]
  have hp := (putL_bounds (zig (n : Int))).2.1
  by_cases hn3 : n ≤ 2
  · have hs := seg_len l n 0
    by_cases hn1 : n ≤ 1
    · omega
    · have e : n = 2 := by omega
      subst e
      have z : num2 l 1 = 0 := by
        unfold num2 ahead
        rw [h 1 (by omega), if_neg (by omega), h (1 - 1) (by omega)]
        unfold W; simp only []; omega
      have b1 := (putL_bounds (zig (num1 l 0))).2.1
      have b2 := (putL_bounds (zig (num2 l 0))).2.1
      have b3 := (putL_bounds (zig (num1 l 1))).2.1
      have b4 := (putL_bounds 0).2.2.1 rfl
      simp only [seg, pairB, List.length_append, z]
      rw [show zig 0 = 0 from rfl, b4]
      simp only [List.length_nil, Nat.zero_add]
      omega
  · have z : num2 l 1 = 0 := by
      unfold num2 ahead
      rw [h 1 (by omega), if_neg (by omega), h (1 - 1) (by omega)]
      unfold W; simp only []; omega
    have b1 := (putL_bounds (zig (num1 l 0))).2.1
    have b2 := (putL_bounds (zig (num2 l 0))).2.1
    have b3 := (putL_bounds (zig (num1 l 1))).2.1
    have b4 := (putL_bounds 0).2.2.1 rfl
    have hr := seg_small l (n - 2) 2 (by
      intro i hi1 hi2
      have e1 : (i : Int) * step - ((i - 1 : Nat) : Int) * step = step := by
        rw [← Int.sub_mul, show (i : Int) - ((i - 1 : Nat) : Int) = 1 by omega, Int.one_mul]
      have e2 : ((i - 1 : Nat) : Int) * step - ((i - 2 : Nat) : Int) * step = step := by
        rw [← Int.sub_mul, show ((i - 1 : Nat) : Int) - ((i - 2 : Nat) : Int) = 1 by omega, Int.one_mul]
      unfold num1 num2 ahead stp
      rw [h i (by omega), if_neg (by omega), if_neg (by omega), h (i - 1) (by omega), h (i - 2) (by omega)]
      simp only []
      generalize (i : Int) * step = a at *
      generalize ((i - 1 : Nat) : Int) * step = b at *
      generalize ((i - 2 : Nat) : Int) * step = c at *
      unfold W
      constructor <;> omega)
    have ha := seg_add l 2 0 (n - 2)
    rw [show 2 + (n - 2) = n by omega, Nat.zero_add] at ha
    rw [ha, List.length_append, hr]
    simp only [seg, pairB, List.length_append, z]
    rw [show zig 0 = 0 from rfl, b4]
    simp only [List.length_nil, Nat.zero_add]
    omega

end CL
end Go.Proofs.YtdmnlmohfaafoadGreatDoor

