/- Labels and matchers, plain: names, values, the order, the text, what is asked. No program in it. -/
import Derived.Test.YtdmnlmohfaafoadGreatDoorRows
import Derived.Lib.Strings
namespace Go.Proofs.YtdmnlmohfaafoadGreatDoor
namespace LB

/-- A label: what it is called, what it says. -/
abbrev Lab := ByteArray × ByteArray

/-- A matcher. -/
structure Mat where
  nm : ByteArray
  op : Int
  vl : ByteArray

def at' (l : List Lab) (i : Nat) : Lab := l.getD i default
def am (l : List Mat) (i : Nat) : Mat := l.getD i ⟨ByteArray.empty, 0, ByteArray.empty⟩
def an (l : List ByteArray) (i : Nat) : ByteArray := l.getD i ByteArray.empty

/-- The byte i of a text. -/
def byt (s : ByteArray) (i : Nat) : Nat := (s.data.toList.getD i 0).toNat

theorem byt_eq (s : ByteArray) (i : Nat) (h : i < s.size) : (s[i]'h).toNat = byt s i := by
  have h' : i < s.data.toList.length := by simpa using h
  unfold byt
  rw [List.getD_eq_getElem?_getD, List.getElem?_eq_getElem h']
  simp [ByteArray.getElem_eq_getElem_data]

theorem byt_lt (s : ByteArray) (i : Nat) : byt s i < 256 := UInt8.toNat_lt _

theorem toList_inj {x y : ByteArray} (h : x.toList = y.toList) : x = y := by
  rw [Lib.toList_data, Lib.toList_data] at h
  cases x; cases y
  simp only [Array.toList_inj] at h
  rw [h]

theorem toList_iff {x y : ByteArray} : x.toList = y.toList ↔ x = y := ⟨toList_inj, fun h => by rw [h]⟩

theorem beq_eq (x y : ByteArray) : (x.toList == y.toList) = decide (x = y) := by
  by_cases h : x = y
  · subst h; simp
  · rw [decide_eq_false h]
    simp only [beq_eq_false_iff_ne, ne_eq]
    exact fun h' => h (toList_inj h')

abbrev lt (x y : ByteArray) : Bool := Op.bytesLess x.toList y.toList

theorem less_irr : ∀ a : List UInt8, Op.bytesLess a a = false
  | [] => rfl
  | a :: x => by simp [Op.bytesLess, less_irr x]

theorem less_tr : ∀ a b c : List UInt8, Op.bytesLess a b = true → Op.bytesLess b c = true → Op.bytesLess a c = true
  | _, [], _, h, _ => by simp [Op.bytesLess] at h
  | _, _ :: _, [], _, h => by simp [Op.bytesLess] at h
  | [], _ :: _, _ :: _, _, _ => by simp [Op.bytesLess]
  | a :: x, b :: y, c :: z, h1, h2 => by
    simp only [Op.bytesLess, Bool.or_eq_true, decide_eq_true_eq, Bool.and_eq_true, beq_iff_eq] at h1 h2 ⊢
    rcases h1 with h1 | ⟨rfl, h1⟩
    · rcases h2 with h2 | ⟨rfl, h2⟩
      · exact .inl (UInt8.lt_trans h1 h2)
      · exact .inl h1
    · rcases h2 with h2 | ⟨rfl, h2⟩
      · exact .inl h2
      · exact .inr ⟨rfl, less_tr x y z h1 h2⟩

theorem less_tri : ∀ a b : List UInt8, Op.bytesLess a b = false → Op.bytesLess b a = false → a = b
  | [], [], _, _ => rfl
  | [], _ :: _, h, _ => by simp [Op.bytesLess] at h
  | _ :: _, [], _, h => by simp [Op.bytesLess] at h
  | a :: x, b :: y, h1, h2 => by
    simp only [Op.bytesLess, Bool.or_eq_false_iff, decide_eq_false_iff_not, Bool.and_eq_false_imp, beq_iff_eq] at h1 h2
    have e : a = b := UInt8.le_antisymm (UInt8.not_lt.1 h2.1) (UInt8.not_lt.1 h1.1)
    subst e
    rw [less_tri x y (h1.2 rfl) (h2.2 rfl)]

/-- An order told by three numbers. -/
structure Ord3 {α : Type} (c : α → α → Int) : Prop where
  rng : ∀ x y, c x y = -1 ∨ c x y = 0 ∨ c x y = 1
  anti : ∀ x y, c y x = - c x y
  zero : ∀ x y, c x y = 0 ↔ x = y
  tr : ∀ x y z, c x y = -1 → c y z = -1 → c x z = -1

def cB (x y : ByteArray) : Int := if lt x y = true then -1 else if x = y then 0 else 1

theorem cB_ord : Ord3 cB where
  rng x y := by unfold cB; split; · simp
                split <;> simp
  anti x y := by
    unfold cB
    by_cases h1 : lt x y = true
    · have h2 : ¬ lt y x = true := fun h => by have := less_tr _ _ _ h1 h; rw [less_irr] at this; cases this
      have h3 : ¬ y = x := fun h => by subst h; exact Bool.noConfusion ((less_irr y.toList).symm.trans h1)
      rw [if_pos h1, if_neg h2, if_neg h3]; rfl
    · by_cases h2 : x = y
      · subst h2; rw [if_neg h1, if_pos rfl]; rfl
      · by_cases h3 : lt y x = true
        · rw [if_pos h3, if_neg h1, if_neg h2]
        · exact absurd (toList_inj (less_tri _ _ (by simpa using h1) (by simpa using h3))) h2
  zero x y := by
    unfold cB
    by_cases h1 : lt x y = true
    · rw [if_pos h1]
      refine ⟨fun h => by omega, fun h => ?_⟩
      subst h; exact Bool.noConfusion ((less_irr x.toList).symm.trans h1)
    · rw [if_neg h1]
      by_cases h2 : x = y
      · rw [if_pos h2]; simp [h2]
      · rw [if_neg h2]; simp [h2]
  tr x y z h1 h2 := by
    have key : ∀ a b, cB a b = -1 → lt a b = true := fun a b h => by
      unfold cB at h
      by_cases h1 : lt a b = true
      · exact h1
      · rw [if_neg h1] at h; split at h <;> omega
    unfold cB
    rw [if_pos (less_tr _ _ _ (key _ _ h1) (key _ _ h2))]

def cL (p q : Lab) : Int := if cB p.1 q.1 = 0 then cB p.2 q.2 else cB p.1 q.1

theorem cL_ord : Ord3 cL where
  rng p q := by unfold cL; split; · exact cB_ord.rng _ _
                exact cB_ord.rng _ _
  anti p q := by
    unfold cL
    have h1 := cB_ord.anti p.1 q.1
    have h2 := cB_ord.anti p.2 q.2
    by_cases h : cB p.1 q.1 = 0
    · rw [if_pos h, if_pos (by omega), h2]
    · rw [if_neg h, if_neg (by omega), h1]
  zero p q := by
    unfold cL
    have h1 := cB_ord.zero p.1 q.1
    have h2 := cB_ord.zero p.2 q.2
    by_cases h : cB p.1 q.1 = 0
    · rw [if_pos h, h2]
      refine ⟨fun h' => Prod.ext (h1.1 h) h', fun h' => by rw [h']⟩
    · rw [if_neg h]
      refine ⟨fun h' => absurd h' h, fun h' => ?_⟩
      exact absurd (h1.2 (by rw [h'])) h
  tr p q r h1 h2 := by
    unfold cL at h1 h2 ⊢
    by_cases a : cB p.1 q.1 = 0
    · rw [if_pos a] at h1
      have ea := (cB_ord.zero _ _).1 a
      by_cases b : cB q.1 r.1 = 0
      · rw [if_pos b] at h2
        have eb := (cB_ord.zero _ _).1 b
        rw [if_pos ((cB_ord.zero _ _).2 (ea.trans eb))]
        exact cB_ord.tr _ _ _ h1 h2
      · rw [if_neg b] at h2
        rw [ea, if_neg b]; exact h2
    · rw [if_neg a] at h1
      by_cases b : cB q.1 r.1 = 0
      · have eb := (cB_ord.zero _ _).1 b
        rw [← eb, if_neg a]; exact h1
      · rw [if_neg b] at h2
        have := cB_ord.tr _ _ _ h1 h2
        rw [if_neg (by omega)]; exact this

def lx {α : Type} (c : α → α → Int) : List α → List α → Int
  | [], [] => 0
  | [], _ :: _ => -1
  | _ :: _, [] => 1
  | x :: a, y :: b => if c x y = 0 then lx c a b else c x y

theorem lx_ord {α : Type} {c : α → α → Int} (o : Ord3 c) : Ord3 (lx c) where
  rng := by
    intro a
    induction a with
    | nil => intro b; cases b <;> simp [lx]
    | cons x a ih =>
      intro b
      cases b with
      | nil => simp [lx]
      | cons y b =>
        simp only [lx]
        split
        · exact ih b
        · exact o.rng x y
  anti := by
    intro a
    induction a with
    | nil => intro b; cases b <;> simp [lx]
    | cons x a ih =>
      intro b
      cases b with
      | nil => simp [lx]
      | cons y b =>
        simp only [lx]
        have h1 := o.anti x y
        by_cases h : c x y = 0
        · rw [if_pos h, if_pos (by omega), ih b]
        · rw [if_neg h, if_neg (by omega), h1]
  zero := by
    intro a
    induction a with
    | nil => intro b; cases b <;> simp [lx]
    | cons x a ih =>
      intro b
      cases b with
      | nil => simp [lx]
      | cons y b =>
        simp only [lx, List.cons.injEq]
        have h1 := o.zero x y
        by_cases h : c x y = 0
        · rw [if_pos h, ih b]; simp [h1.1 h]
        · rw [if_neg h]
          exact ⟨fun h' => absurd h' h, fun h' => absurd (h1.2 h'.1) h⟩
  tr := by
    intro a
    induction a with
    | nil =>
      intro b d h1 h2
      cases b with
      | nil => simp [lx] at h1
      | cons y b => cases d with
        | nil => simp [lx] at h2
        | cons z d => simp [lx]
    | cons x a ih =>
      intro b d h1 h2
      cases b with
      | nil => simp [lx] at h1
      | cons y b => cases d with
        | nil => simp [lx] at h2
        | cons z d =>
          simp only [lx] at h1 h2 ⊢
          by_cases p : c x y = 0
          · rw [if_pos p] at h1
            have ep := (o.zero _ _).1 p
            subst ep
            by_cases q : c x z = 0
            · rw [if_pos q] at h2 ⊢
              exact ih b d h1 h2
            · rw [if_neg q] at h2 ⊢; exact h2
          · rw [if_neg p] at h1
            by_cases q : c y z = 0
            · have eq := (o.zero _ _).1 q
              subst eq
              rw [if_neg p]; exact h1
            · rw [if_neg q] at h2
              have := o.tr _ _ _ h1 h2
              rw [if_neg (by omega)]; exact this

/-- The order of labels. -/
abbrev cmp (a b : List Lab) : Int := lx cL a b

theorem cmp_ord : Ord3 cmp := lx_ord cL_ord

theorem at_cons (x : Lab) (a : List Lab) (i : Nat) : at' (x :: a) (i + 1) = at' a i := by simp [at']

theorem at_mem (l : List Lab) (i : Nat) (h : i < l.length) : at' l i ∈ l := by
  unfold at'
  rw [List.getD_eq_getElem?_getD, List.getElem?_eq_getElem h]
  exact List.getElem_mem h

theorem am_mem (l : List Mat) (i : Nat) (h : i < l.length) : am l i ∈ l := by
  unfold am
  rw [List.getD_eq_getElem?_getD, List.getElem?_eq_getElem h]
  exact List.getElem_mem h

/-- As long as all are alike, the order is that of the rest. -/
theorem cmp_drop : ∀ (a b : List Lab) (i : Nat), i ≤ a.length → i ≤ b.length → (∀ j, j < i → cL (at' a j) (at' b j) = 0) → cmp a b = cmp (a.drop i) (b.drop i)
  | _, _, 0, _, _, _ => rfl
  | [], _, i + 1, h, _, _ => by simp at h
  | _ :: _, [], i + 1, _, h, _ => by simp at h
  | x :: a, y :: b, i + 1, h1, h2, h => by
    have h0 : cL x y = 0 := h 0 (by omega)
    have ih := cmp_drop a b i (by simpa using h1) (by simpa using h2) (fun j hj => by have := h (j + 1) (by omega); rwa [at_cons, at_cons] at this)
    simp only [List.drop_succ_cons]
    rw [← ih]
    show (if cL x y = 0 then _ else _) = _
    rw [if_pos h0]

theorem drop_at (a : List Lab) (i : Nat) (h : i < a.length) : a.drop i = at' a i :: a.drop (i + 1) := by
  rw [List.drop_eq_getElem_cons h]
  congr 1
  unfold at'
  rw [List.getD_eq_getElem?_getD, List.getElem?_eq_getElem h]
  rfl

theorem cmp_at (a b : List Lab) (i : Nat) (h1 : i < a.length) (h2 : i < b.length) (h : ∀ j, j < i → cL (at' a j) (at' b j) = 0) (hi : cL (at' a i) (at' b i) ≠ 0) : cmp a b = cL (at' a i) (at' b i) := by
  rw [cmp_drop a b i (by omega) (by omega) h, drop_at a i h1, drop_at b i h2]
  show (if _ = 0 then _ else _) = _
  rw [if_neg hi]

theorem cmp_long (a b : List Lab) (i : Nat) (h1 : i < a.length) (h2 : i = b.length) (h : ∀ j, j < i → cL (at' a j) (at' b j) = 0) : cmp a b = 1 := by
  rw [cmp_drop a b i (by omega) (by omega) h, drop_at a i h1, show b.drop i = [] from List.drop_eq_nil_of_le (by omega)]
  rfl

theorem cmp_short (a b : List Lab) (h2 : a.length < b.length) (h : ∀ j, j < a.length → cL (at' a j) (at' b j) = 0) : cmp a b = -1 := by
  rw [cmp_drop a b a.length (by omega) (by omega) h, drop_at b _ h2, List.drop_eq_nil_of_le (by omega)]
  rfl

theorem cmp_same (a b : List Lab) (h2 : a.length = b.length) (h : ∀ j, j < a.length → cL (at' a j) (at' b j) = 0) : cmp a b = 0 := by
  rw [cmp_drop a b a.length (by omega) (by omega) h, List.drop_eq_nil_of_le (by omega), List.drop_eq_nil_of_le (by omega)]
  rfl

def letter (n : Nat) : Bool := decide (65 ≤ n ∧ n ≤ 90 ∨ 97 ≤ n ∧ n ≤ 122 ∨ n = 95)
def digit (n : Nat) : Bool := decide (48 ≤ n ∧ n ≤ 57)
def okN (i n : Nat) : Bool := letter n || (decide (i ≠ 0) && digit n)
def okV (n : Nat) : Bool := decide (32 ≤ n ∧ n ≤ 126 ∧ n ≠ 34 ∧ n ≠ 92)

/-- A name. -/
def name (s : ByteArray) : Bool := decide (1 ≤ s.size ∧ s.size ≤ 24 ∧ ∀ i, i < s.size → okN i (byt s i) = true)
/-- A value. -/
def valu (s : ByteArray) : Bool := decide (s.size ≤ 24 ∧ ∀ i, i < s.size → okV (byt s i) = true)

abbrev okL (l : List Lab) (i : Nat) : Prop := name (at' l i).1 = true ∧ valu (at' l i).2 = true ∧ (at' l i).2 ≠ ByteArray.empty ∧ (0 < i → lt (at' l (i - 1)).1 (at' l i).1 = true)

/-- Labels that may be a series'. -/
def right (l : List Lab) : Bool := decide (1 ≤ l.length ∧ l.length ≤ 8 ∧ ∀ i, i < l.length → okL l i)

/-- What the first label of that name says. -/
def get : List Lab → ByteArray → ByteArray
  | [], _ => ByteArray.empty
  | p :: l, n => if p.1 = n then p.2 else get l n

theorem get_hit : ∀ (l : List Lab) (n : ByteArray) (i : Nat), i < l.length → (∀ j, j < i → (at' l j).1 ≠ n) → (at' l i).1 = n → get l n = (at' l i).2
  | [], _, _, h, _, _ => by simp at h
  | p :: l, n, 0, _, _, h => by
    have h' : p.1 = n := h
    show (if p.1 = n then _ else _) = _
    rw [if_pos h']; rfl
  | p :: l, n, i + 1, h, ha, hi => by
    have h0 : p.1 ≠ n := ha 0 (by omega)
    show (if p.1 = n then _ else _) = _
    rw [if_neg h0, at_cons]
    exact get_hit l n i (by simpa using h) (fun j hj => by have := ha (j + 1) (by omega); rwa [at_cons] at this) (by rwa [at_cons] at hi)

theorem get_none : ∀ (l : List Lab) (n : ByteArray), (∀ j, j < l.length → (at' l j).1 ≠ n) → get l n = ByteArray.empty
  | [], _, _ => rfl
  | p :: l, n, ha => by
    have h0 : p.1 ≠ n := ha 0 (by simp)
    show (if p.1 = n then _ else _) = _
    rw [if_neg h0]
    exact get_none l n (fun j hj => by have := ha (j + 1) (by simpa using hj); rwa [at_cons] at this)

/-- Is it one of them? -/
def hasN (ns : List ByteArray) (x : ByteArray) : Bool := ns.any fun n => decide (n = x)

theorem an_mem (l : List ByteArray) (i : Nat) (h : i < l.length) : an l i ∈ l := by
  unfold an
  rw [List.getD_eq_getElem?_getD, List.getElem?_eq_getElem h]
  exact List.getElem_mem h

theorem hasN_hit (ns : List ByteArray) (x : ByteArray) (i : Nat) (h : i < ns.length) (e : an ns i = x) : hasN ns x = true := by
  unfold hasN
  rw [List.any_eq_true]
  exact ⟨an ns i, an_mem ns i h, decide_eq_true e⟩

theorem hasN_none (ns : List ByteArray) (x : ByteArray) (h : ∀ i, i < ns.length → an ns i ≠ x) : hasN ns x = false := by
  unfold hasN
  rw [List.any_eq_false]
  intro y hy
  obtain ⟨i, hi, rfl⟩ := List.mem_iff_getElem.1 hy
  have := h i hi
  unfold an at this
  rw [List.getD_eq_getElem?_getD, List.getElem?_eq_getElem hi] at this
  simpa using this

/-- Those of some names. -/
def only (l : List Lab) (ns : List ByteArray) : List Lab := l.filter fun p => hasN ns p.1

theorem take_at (l : List Lab) (i : Nat) (h : i < l.length) : l.take (i + 1) = l.take i ++ [at' l i] := by
  rw [List.take_succ_eq_append_getElem h]
  congr 2
  unfold at'
  rw [List.getD_eq_getElem?_getD, List.getElem?_eq_getElem h]
  rfl

theorem only_in (l : List Lab) (ns : List ByteArray) (i : Nat) (h : i < l.length) (hi : hasN ns (at' l i).1 = true) : only (l.take (i + 1)) ns = only (l.take i) ns ++ [at' l i] := by
  rw [take_at l i h]
  simp [only, hi]

theorem only_out (l : List Lab) (ns : List ByteArray) (i : Nat) (h : i < l.length) (hi : hasN ns (at' l i).1 = false) : only (l.take (i + 1)) ns = only (l.take i) ns := by
  rw [take_at l i h]
  simp [only, hi]

/-- A matcher that may be. -/
def askd (m : Mat) : Bool := name m.nm && valu m.vl && decide (0 ≤ m.op ∧ m.op ≤ 3)
def asked (l : List Mat) : Bool := decide (l.length ≤ 8) && l.all askd

/-- Does it begin so? -/
def begins (v x : ByteArray) : Bool := decide (x.size ≤ v.size) && decide (v.extract 0 x.size = x)

def one (l : List Lab) (m : Mat) : Bool :=
  if m.op = 0 then decide (get l m.nm = m.vl)
  else if m.op = 1 then !decide (get l m.nm = m.vl)
  else if m.op = 2 then begins (get l m.nm) m.vl
  else if m.op = 3 then !begins (get l m.nm) m.vl
  else false

def all (l : List Lab) (ms : List Mat) : Bool := ms.all (one l)

/-- A label as it is written. -/
def item (p : Lab) : List UInt8 := p.1.data.toList ++ 61 :: 34 :: (p.2.data.toList ++ [34])

def tb : List Lab → List UInt8
  | [] => [123]
  | p :: l => 123 :: (item p ++ l.flatMap fun q => 44 :: item q)

theorem tb_snoc (l : List Lab) (q : Lab) : tb (l ++ [q]) = tb l ++ ((if l.length = 0 then [] else [44]) ++ item q) := by
  cases l with
  | nil => simp [tb]
  | cons p l => simp [tb]

/-- Labels as they are written. -/
def tx (l : List Lab) : List UInt8 := tb l ++ [125]

theorem split_at (c : UInt8) : ∀ (a b x y : List UInt8), c ∉ a → c ∉ b → a ++ c :: x = b ++ c :: y → a = b ∧ x = y
  | [], [], x, y, _, _, h => by simpa using h
  | [], q :: b, x, y, _, hb, h => by
    simp only [List.nil_append, List.cons_append, List.cons.injEq] at h
    exact absurd (by rw [h.1]; simp) hb
  | p :: a, [], x, y, ha, _, h => by
    simp only [List.nil_append, List.cons_append, List.cons.injEq] at h
    exact absurd (by rw [h.1]; simp) ha
  | p :: a, q :: b, x, y, ha, hb, h => by
    simp only [List.cons_append, List.cons.injEq] at h
    obtain ⟨h1, h2⟩ := split_at c a b x y (fun h' => ha (by simp [h'])) (fun h' => hb (by simp [h'])) h.2
    exact ⟨by rw [h.1, h1], h2⟩

theorem byt_of_mem (s : ByteArray) (c : UInt8) (h : c ∈ s.data.toList) : ∃ i, i < s.size ∧ byt s i = c.toNat := by
  obtain ⟨i, hi, rfl⟩ := List.mem_iff_getElem.1 h
  refine ⟨i, by simpa using hi, ?_⟩
  unfold byt
  rw [List.getD_eq_getElem?_getD, List.getElem?_eq_getElem hi]
  rfl

theorem name_no (s : ByteArray) (h : name s = true) : (61 : UInt8) ∉ s.data.toList := by
  intro hm
  obtain ⟨i, hi, hb⟩ := byt_of_mem s _ hm
  have := (of_decide_eq_true h).2.2 i hi
  rw [hb] at this
  revert this
  simp [okN, letter, digit]

theorem valu_no (s : ByteArray) (h : valu s = true) : (34 : UInt8) ∉ s.data.toList := by
  intro hm
  obtain ⟨i, hi, hb⟩ := byt_of_mem s _ hm
  have := (of_decide_eq_true h).2 i hi
  rw [hb] at this
  revert this
  simp [okV]

theorem item_inj (p q : Lab) (x y : List UInt8) (hp : name p.1 = true ∧ valu p.2 = true) (hq : name q.1 = true ∧ valu q.2 = true) (h : item p ++ x = item q ++ y) : p = q ∧ x = y := by
  unfold item at h
  simp only [List.append_assoc, List.cons_append] at h
  obtain ⟨h1, h2⟩ := split_at 61 _ _ _ _ (name_no _ hp.1) (name_no _ hq.1) h
  simp only [List.cons.injEq, true_and] at h2
  obtain ⟨h3, h4⟩ := split_at 34 _ _ _ _ (valu_no _ hp.2) (valu_no _ hq.2) h2
  exact ⟨Prod.ext (toList_inj (by rw [Lib.toList_data, Lib.toList_data, h1])) (toList_inj (by rw [Lib.toList_data, Lib.toList_data, h3])), by simpa using h4⟩

theorem tail_inj : ∀ (a b : List Lab), (∀ p ∈ a, name p.1 = true ∧ valu p.2 = true) → (∀ p ∈ b, name p.1 = true ∧ valu p.2 = true) → (a.flatMap fun q => 44 :: item q) ++ [125] = (b.flatMap fun q => 44 :: item q) ++ [125] → a = b
  | [], [], _, _, _ => rfl
  | [], q :: b, _, _, h => by simp at h
  | p :: a, [], _, _, h => by simp at h
  | p :: a, q :: b, ha, hb, h => by
    simp only [List.flatMap_cons, List.append_assoc, List.cons_append, List.cons.injEq, true_and] at h
    obtain ⟨h1, h2⟩ := item_inj p q _ _ (ha p (by simp)) (hb q (by simp)) h
    rw [h1, tail_inj a b (fun r hr => ha r (by simp [hr])) (fun r hr => hb r (by simp [hr])) h2]

theorem right_mem (a : List Lab) (h : right a = true) : ∀ p ∈ a, name p.1 = true ∧ valu p.2 = true := by
  intro p hp
  obtain ⟨i, hi, rfl⟩ := List.mem_iff_getElem.1 hp
  have := (of_decide_eq_true h).2.2 i hi
  have e : at' a i = a[i] := by unfold at'; rw [List.getD_eq_getElem?_getD, List.getElem?_eq_getElem hi]; rfl
  rw [← e]
  exact ⟨this.1, this.2.1⟩

/-- Two are written the same just if they are the same. -/
theorem tx_inj (a b : List Lab) (ha : right a = true) (hb : right b = true) : tx a = tx b ↔ cmp a b = 0 := by
  rw [cmp_ord.zero]
  refine ⟨fun h => ?_, fun h => by rw [h]⟩
  have ha' := right_mem a ha
  have hb' := right_mem b hb
  have la : 1 ≤ a.length := (of_decide_eq_true ha).1
  have lb : 1 ≤ b.length := (of_decide_eq_true hb).1
  cases a with
  | nil => simp at la
  | cons p a => cases b with
    | nil => simp at lb
    | cons q b =>
      simp only [tx, tb, List.cons_append, List.append_assoc, List.cons.injEq, true_and] at h
      obtain ⟨h1, h2⟩ := item_inj p q _ _ (ha' p (by simp)) (hb' q (by simp)) h
      rw [h1, tail_inj a b (fun r hr => ha' r (by simp [hr])) (fun r hr => hb' r (by simp [hr])) h2]

/-- The opposite of what is asked. -/
def opp (n : Int) : Int := if n = 0 then 1 else if n = 1 then 0 else if n = 2 then 3 else 2

theorem one_opp (l : List Lab) (m : Mat) (h : 0 ≤ m.op ∧ m.op ≤ 3) : one l { m with op := opp m.op } = !one l m := by
  obtain ⟨nm, op, vl⟩ := m
  have h4 : op = 0 ∨ op = 1 ∨ op = 2 ∨ op = 3 := by simp only at h; omega
  rcases h4 with rfl | rfl | rfl | rfl <;> simp [one, opp]

theorem all_append (l : List Lab) (a b : List Mat) : all l (a ++ b) = (all l a && all l b) := by simp [all]

end LB
end Go.Proofs.YtdmnlmohfaafoadGreatDoor
