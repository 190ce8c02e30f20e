/- Buckets, plain: where spans begin, what is gathered, what comes of it by its start. No program in it. -/
import Derived.Test.YtdmnlmohfaafoabDoorChNum
namespace Go.Proofs.YtdmnlmohfaafoabDoor
namespace CL

theorem W_add_l (a b : Int) : W (W a + b) = W (a + b) := by unfold W; omega
theorem W_add_r (a b : Int) : W (a + W b) = W (a + b) := by unfold W; omega
theorem W_of (n : Int) : W (W n) = W n := by unfold W; omega

/-- A bucket. -/
structure Bkt where
  st : Int
  ct : Int
  sm : Int
  mn : Int
  mx : Int
  deriving DecidableEq

/-- Where the span of a time begins. -/
def flr (t span : Int) : Int := t - t % span

/-- One bucket taken into another one. -/
def put (a b : Bkt) : Bkt := ⟨a.st, W (a.ct + b.ct), W (a.sm + b.sm), min a.mn b.mn, max a.mx b.mx⟩

theorem put_assoc (a b c : Bkt) : put (put a b) c = put a (put b c) := by
  unfold put
  simp only [W_add_l, W_add_r, Bkt.mk.injEq, true_and, Int.add_assoc]
  omega

theorem put_comm (a b : Bkt) (h : a.st = b.st) : put a b = put b a := by
  unfold put
  simp only [h, Int.add_comm, Bkt.mk.injEq, true_and]
  omega

/-- A bucket taken in: into the last one, if they begin together, else behind it. -/
def gath : List Bkt → Bkt → List Bkt
  | [], b => [b]
  | [c], b => if c.st = b.st then [put c b] else [c, b]
  | c :: d :: l, b => c :: gath (d :: l) b

theorem gath_snoc (l : List Bkt) (c b : Bkt) : gath (l ++ [c]) b = if c.st = b.st then l ++ [put c b] else l ++ [c, b] := by
  induction l with
  | nil => rfl
  | cons x l ih =>
    cases l with
    | nil =>
      show x :: gath [c] b = _
      unfold gath
      split <;> simp
    | cons y l =>
      show x :: gath ((y :: l) ++ [c]) b = _
      rw [ih]
      split <;> simp

theorem gath_new (l : List Bkt) (b : Bkt) (h : ∀ c, l.getLast? = some c → c.st ≠ b.st) : gath l b = l ++ [b] := by
  rcases l.eq_nil_or_concat with rfl | ⟨l', c, rfl⟩
  · rfl
  · rw [List.concat_eq_append] at h ⊢
    rw [gath_snoc, if_neg (h c (by simp))]; simp

def gathL (acc l : List Bkt) : List Bkt := l.foldl gath acc

theorem gathL_nil (acc : List Bkt) : gathL acc [] = acc := rfl
theorem gathL_cons (acc : List Bkt) (b : Bkt) (l : List Bkt) : gathL acc (b :: l) = gathL (gath acc b) l := rfl
theorem gathL_append (acc a b : List Bkt) : gathL acc (a ++ b) = gathL (gathL acc a) b := by unfold gathL; rw [List.foldl_append]
theorem gathL_snoc (acc a : List Bkt) (b : Bkt) : gathL acc (a ++ [b]) = gath (gathL acc a) b := by rw [gathL_append]; rfl

theorem gath_gath (L : List Bkt) (c b : Bkt) (h : c.st = b.st) : gath (gath L c) b = gath L (put c b) := by
  have hp : (put c b).st = c.st := rfl
  rcases L.eq_nil_or_concat with rfl | ⟨l', d, rfl⟩
  · show gath [c] b = _
    unfold gath
    rw [if_pos h]
  · rw [List.concat_eq_append, gath_snoc, gath_snoc, hp]
    by_cases e : d.st = c.st
    · rw [if_pos e, if_pos e, gath_snoc]
      have : (put d c).st = d.st := rfl
      rw [this, if_pos (e.trans h), put_assoc]
    · rw [if_neg e, if_neg e]
      have : l' ++ [d, c] = (l' ++ [d]) ++ [c] := by simp
      rw [this, gath_snoc, if_pos h]; simp

/-- A map of buckets that looks at the start alone. -/
def toSt (f : Int → Int) (b : Bkt) : Bkt := { b with st := f b.st }

theorem toSt_put (f : Int → Int) (a b : Bkt) : toSt f (put a b) = put (toSt f a) (toSt f b) := rfl

theorem gath_map (f : Int → Int) (X l : List Bkt) (b : Bkt) : gathL X ((gath l b).map (toSt f)) = gath (gathL X (l.map (toSt f))) (toSt f b) := by
  rcases l.eq_nil_or_concat with rfl | ⟨l', c, rfl⟩
  · rfl
  · rw [List.concat_eq_append, gath_snoc]
    by_cases e : c.st = b.st
    · rw [if_pos e, List.map_append, List.map_append, List.map_singleton, List.map_singleton, gathL_snoc, gathL_snoc, toSt_put, gath_gath]
      show f c.st = f b.st
      rw [e]
    · rw [if_neg e]
      have : l' ++ [c, b] = (l' ++ [c]) ++ [b] := by simp
      rw [this, List.map_append, List.map_singleton, gathL_snoc]

theorem gathL_map (f : Int → Int) (X : List Bkt) (l : List Bkt) : ∀ acc, gathL X ((gathL acc l).map (toSt f)) = gathL (gathL X (acc.map (toSt f))) (l.map (toSt f)) := by
  induction l with
  | nil => intro acc; rfl
  | cons b l ih =>
    intro acc
    rw [gathL_cons, ih, gath_map, List.map_cons, gathL_cons]

theorem toSt_id (b : Bkt) : toSt id b = b := rfl

theorem map_toSt_id (l : List Bkt) : l.map (toSt id) = l := by
  have : toSt id = id := funext toSt_id
  rw [this, List.map_id]

theorem gathL_gathL (X l acc : List Bkt) : gathL X (gathL acc l) = gathL (gathL X acc) l := by
  have := gathL_map id X l acc
  rwa [map_toSt_id, map_toSt_id, map_toSt_id] at this

/-- Starts rise. -/
def RiseB (l : List Bkt) : Prop := l.Pairwise fun a b => a.st < b.st
/-- Starts don't fall. -/
def Flat (l : List Bkt) : Prop := l.Pairwise fun a b => a.st ≤ b.st

/-- What buckets of one start come to. -/
def oput : Option Bkt → Option Bkt → Option Bkt
  | none, b => b
  | a, none => a
  | some a, some b => some (put a b)

theorem oput_none (a : Option Bkt) : oput a none = a := by cases a <;> rfl

theorem oput_assoc (a b c : Option Bkt) : oput (oput a b) c = oput a (oput b c) := by
  cases a <;> cases b <;> cases c <;> simp [oput, put_assoc]

def one (b : Bkt) (t : Int) : Option Bkt := if b.st = t then some b else none

def tot (l : List Bkt) (t : Int) : Option Bkt := l.foldr (fun b o => oput (one b t) o) none

theorem tot_nil (t : Int) : tot [] t = none := rfl
theorem tot_cons (b : Bkt) (l : List Bkt) (t : Int) : tot (b :: l) t = oput (one b t) (tot l t) := rfl

theorem tot_append (a b : List Bkt) (t : Int) : tot (a ++ b) t = oput (tot a t) (tot b t) := by
  induction a with
  | nil => rfl
  | cons x a ih => rw [List.cons_append, tot_cons, tot_cons, ih, oput_assoc]

theorem tot_one (b : Bkt) (t : Int) : tot [b] t = one b t := by rw [tot_cons, tot_nil, oput_none]

theorem one_put (a b : Bkt) (h : a.st = b.st) (t : Int) : one (put a b) t = oput (one a t) (one b t) := by
  unfold one
  have e : (put a b).st = a.st := rfl
  rw [e, ← h]
  split <;> rfl

theorem tot_gath (l : List Bkt) (b : Bkt) (t : Int) : tot (gath l b) t = oput (tot l t) (one b t) := by
  rcases l.eq_nil_or_concat with rfl | ⟨l', c, rfl⟩
  · show tot [b] t = _
    rw [tot_one, tot_nil]; rfl
  · rw [List.concat_eq_append, gath_snoc]
    by_cases e : c.st = b.st
    · rw [if_pos e, tot_append, tot_append, tot_one, tot_one, one_put c b e, oput_assoc]
    · rw [if_neg e]
      have : l' ++ [c, b] = (l' ++ [c]) ++ [b] := by simp
      rw [this, tot_append, tot_one]

theorem tot_gathL (l : List Bkt) (t : Int) : ∀ acc, tot (gathL acc l) t = oput (tot acc t) (tot l t) := by
  induction l with
  | nil => intro acc; rw [gathL_nil, tot_nil, oput_none]
  | cons b l ih => intro acc; rw [gathL_cons, ih, tot_gath, tot_cons, oput_assoc]

theorem tot_st (l : List Bkt) (t : Int) : ∀ b, tot l t = some b → b.st = t := by
  induction l with
  | nil => intro b h; cases h
  | cons x l ih =>
    intro b h
    rw [tot_cons] at h
    unfold one at h
    split at h
    · rename_i e
      cases h2 : tot l t with
      | none => rw [h2] at h; simp [oput] at h; rw [← h]; exact e
      | some c => rw [h2] at h; simp [oput] at h; rw [← h]; exact e
    · cases h2 : tot l t with
      | none => rw [h2] at h; simp [oput] at h
      | some c => rw [h2] at h; simp [oput] at h; rw [← h]; exact ih c h2

theorem tot_none (l : List Bkt) (t : Int) : tot l t = none ↔ ∀ b ∈ l, b.st ≠ t := by
  induction l with
  | nil => simp [tot_nil]
  | cons x l ih =>
    rw [tot_cons]
    unfold one
    by_cases e : x.st = t
    · rw [if_pos e]
      cases tot l t <;> simp [oput, e]
    · rw [if_neg e]
      have : oput none (tot l t) = tot l t := rfl
      rw [this, ih]
      simp [e]

theorem tot_rise (l : List Bkt) (h : RiseB l) (t : Int) (b : Bkt) : tot l t = some b ↔ b ∈ l ∧ b.st = t := by
  induction l with
  | nil => simp [tot_nil]
  | cons x l ih =>
    obtain ⟨h1, h2⟩ := List.pairwise_cons.1 h
    rw [tot_cons]
    unfold one
    by_cases e : x.st = t
    · rw [if_pos e]
      have hn : tot l t = none := (tot_none l t).2 fun b hb => by have := h1 b hb; omega
      rw [hn]
      constructor
      · intro hh
        have : x = b := by simpa [oput] using hh
        subst this
        exact ⟨by simp, e⟩
      · rintro ⟨hb, he⟩
        rcases List.mem_cons.1 hb with rfl | hb
        · rfl
        · have := h1 b hb; omega
    · rw [if_neg e]
      have : oput none (tot l t) = tot l t := rfl
      rw [this, ih h2]
      constructor
      · rintro ⟨a, c⟩; exact ⟨List.mem_cons_of_mem _ a, c⟩
      · rintro ⟨a, c⟩
        rcases List.mem_cons.1 a with rfl | a
        · exact absurd c e
        · exact ⟨a, c⟩

theorem rise_ext (a : List Bkt) : ∀ b : List Bkt, RiseB a → RiseB b → (∀ x, x ∈ a ↔ x ∈ b) → a = b := by
  induction a with
  | nil =>
    intro b _ _ h
    cases b with
    | nil => rfl
    | cons y b => have := (h y).2 (by simp); simp at this
  | cons x a ih =>
    intro b ha hb h
    cases b with
    | nil => have := (h x).1 (by simp); simp at this
    | cons y b =>
      obtain ⟨a1, a2⟩ := List.pairwise_cons.1 ha
      obtain ⟨b1, b2⟩ := List.pairwise_cons.1 hb
      have hxy : x = y := by
        have h1 := (h x).1 (by simp)
        have h2 := (h y).2 (by simp)
        rcases List.mem_cons.1 h1 with e | h1
        · exact e
        · rcases List.mem_cons.1 h2 with e | h2
          · exact e.symm
          · have := b1 x h1; have := a1 y h2; omega
      subst hxy
      congr 1
      refine ih b a2 b2 fun z => ?_
      constructor
      · intro hz
        rcases List.mem_cons.1 ((h z).1 (List.mem_cons_of_mem _ hz)) with rfl | h'
        · have := a1 z hz; omega
        · exact h'
      · intro hz
        rcases List.mem_cons.1 ((h z).2 (List.mem_cons_of_mem _ hz)) with rfl | h'
        · have := b1 z hz; omega
        · exact h'

/-- Rising buckets are told by what they come to by their starts. -/
theorem eq_of_tot (a b : List Bkt) (ha : RiseB a) (hb : RiseB b) (h : ∀ t, tot a t = tot b t) : a = b := by
  refine rise_ext a b ha hb fun x => ?_
  have h1 := tot_rise a ha x.st x
  have h2 := tot_rise b hb x.st x
  rw [h] at h1
  rw [h1] at h2
  simpa using h2

theorem gath_last (l : List Bkt) (b : Bkt) : ∃ l' c, gath l b = l' ++ [c] ∧ c.st = b.st ∧ (l' = l ∨ ∃ d, l = l' ++ [d] ∧ d.st = b.st) := by
  rcases l.eq_nil_or_concat with rfl | ⟨l', c, rfl⟩
  · exact ⟨[], b, rfl, rfl, .inl rfl⟩
  · rw [List.concat_eq_append, gath_snoc]
    by_cases e : c.st = b.st
    · rw [if_pos e]; exact ⟨l', put c b, rfl, e, .inr ⟨c, rfl, e⟩⟩
    · rw [if_neg e]; exact ⟨l' ++ [c], b, by simp, rfl, .inl rfl⟩

theorem rise_gath (l : List Bkt) (b : Bkt) (h : RiseB l) (hb : ∀ c ∈ l, c.st ≤ b.st) : RiseB (gath l b) ∧ ∀ c ∈ gath l b, c.st ≤ b.st := by
  rcases l.eq_nil_or_concat with rfl | ⟨l', d, rfl⟩
  · refine ⟨List.pairwise_singleton _ _, fun c hc => ?_⟩
    have : c = b := by simpa [gath] using hc
    rw [this]; exact Int.le_refl _
  · rw [List.concat_eq_append] at h hb ⊢
    obtain ⟨h1, h2, h3⟩ := List.pairwise_append.1 h
    rw [gath_snoc]
    by_cases e : d.st = b.st
    · rw [if_pos e]
      constructor
      · refine List.pairwise_append.2 ⟨h1, List.pairwise_singleton _ _, fun x hx y hy => ?_⟩
        have : y = put d b := by simpa using hy
        subst this
        exact h3 x hx d (by simp)
      · intro c hc
        rcases List.mem_append.1 hc with hc | hc
        · exact hb c (List.mem_append_left _ hc)
        · have : c = put d b := by simpa using hc
          subst this
          show d.st ≤ b.st
          omega
    · rw [if_neg e]
      have eq : l' ++ [d, b] = (l' ++ [d]) ++ [b] := by simp
      have hd := hb d (by simp)
      rw [eq]
      constructor
      · refine List.pairwise_append.2 ⟨h, List.pairwise_singleton _ _, fun x hx y hy => ?_⟩
        have : y = b := by simpa using hy
        subst this
        rcases List.mem_append.1 hx with hx | hx
        · have := h3 x hx d (by simp); omega
        · have : x = d := by simpa using hx
          subst this; omega
      · intro c hc
        rcases List.mem_append.1 hc with hc | hc
        · exact hb c hc
        · have : c = b := by simpa using hc
          rw [this]; exact Int.le_refl _

theorem rise_gathL (l : List Bkt) : ∀ acc, RiseB acc → Flat l → (∀ c ∈ acc, ∀ b ∈ l, c.st ≤ b.st) → RiseB (gathL acc l) := by
  induction l with
  | nil => intro acc h _ _; exact h
  | cons b l ih =>
    intro acc h hf hle
    obtain ⟨h1, h2⟩ := List.pairwise_cons.1 hf
    have g := rise_gath acc b h fun c hc => hle c hc b (by simp)
    rw [gathL_cons]
    exact ih _ g.1 h2 fun c hc d hd => by have := g.2 c hc; have := h1 d hd; omega

theorem gathL_rise (l : List Bkt) : ∀ acc, RiseB (acc ++ l) → gathL acc l = acc ++ l := by
  induction l with
  | nil => intro acc _; simp [gathL_nil]
  | cons b l ih =>
    intro acc h
    have hn : gath acc b = acc ++ [b] := gath_new acc b fun c hc => by
      have hm : c ∈ acc := List.mem_of_getLast? hc
      have := (List.pairwise_append.1 h).2.2 c hm b (by simp)
      omega
    have e : acc ++ b :: l = (acc ++ [b]) ++ l := by simp
    rw [gathL_cons, hn, e]
    exact ih _ (by rw [← e]; exact h)

theorem gathL_len (l : List Bkt) : ∀ acc, (gathL acc l).length ≤ acc.length + l.length := by
  induction l with
  | nil => intro acc; simp [gathL_nil]
  | cons b l ih =>
    intro acc
    have h := ih (gath acc b)
    have h2 : (gath acc b).length ≤ acc.length + 1 := by
      rcases acc.eq_nil_or_concat with rfl | ⟨l', c, rfl⟩
      · simp [gath]
      · rw [List.concat_eq_append, gath_snoc]; split <;> simp
    rw [gathL_cons, List.length_cons]; omega

/-- A sample's own bucket. -/
def bk (span : Int) (s : Smp) : Bkt := ⟨flr s.1 span, 1, s.2, s.2, s.2⟩

def up (span : Int) (l : List Smp) : List Bkt := gathL [] (l.map (bk span))

def wid' (wide : Int) (l : List Bkt) : List Bkt := gathL [] (l.map (toSt fun t => flr t wide))

/-- The buckets of two lists, by their starts. -/
def omrg : List Bkt → List Bkt → List Bkt
  | [], b => b
  | a, [] => a
  | x :: a, y :: b => if x.st ≤ y.st then x :: omrg a (y :: b) else y :: omrg (x :: a) b
  termination_by a b => a.length + b.length

theorem omrg_nil (a : List Bkt) : omrg a [] = a := by cases a <;> simp [omrg]
theorem nil_omrg (b : List Bkt) : omrg [] b = b := by simp [omrg]
theorem omrg_cons (x y : Bkt) (a b : List Bkt) : omrg (x :: a) (y :: b) = if x.st ≤ y.st then x :: omrg a (y :: b) else y :: omrg (x :: a) b := by rw [omrg]

theorem omrg_len (a b : List Bkt) : (omrg a b).length = a.length + b.length := by
  fun_induction omrg a b with
  | case1 b => simp
  | case2 a => simp
  | case3 x a y b h ih => simp [ih]; omega
  | case4 x a y b h ih => simp [ih]; omega

theorem mem_omrg (a b : List Bkt) (z : Bkt) : z ∈ omrg a b ↔ z ∈ a ∨ z ∈ b := by
  fun_induction omrg a b with
  | case1 b => simp
  | case2 a => simp
  | case3 x a y b h ih => simp only [List.mem_cons, ih, or_assoc]
  | case4 x a y b h ih =>
    rw [List.mem_cons, ih]
    simp only [List.mem_cons]
    exact or_left_comm

theorem flat_omrg (a b : List Bkt) (ha : Flat a) (hb : Flat b) : Flat (omrg a b) := by
  fun_induction omrg a b with
  | case1 b => exact hb
  | case2 a => exact ha
  | case3 x a y b h ih =>
    obtain ⟨a1, a2⟩ := List.pairwise_cons.1 ha
    obtain ⟨b1, b2⟩ := List.pairwise_cons.1 hb
    refine List.pairwise_cons.2 ⟨fun z hz => ?_, ih a2 hb⟩
    rcases (mem_omrg _ _ _).1 hz with hz | hz
    · exact a1 z hz
    · rcases List.mem_cons.1 hz with rfl | hz
      · exact h
      · have := b1 z hz; omega
  | case4 x a y b h ih =>
    obtain ⟨a1, a2⟩ := List.pairwise_cons.1 ha
    obtain ⟨b1, b2⟩ := List.pairwise_cons.1 hb
    refine List.pairwise_cons.2 ⟨fun z hz => ?_, ih ha b2⟩
    rcases (mem_omrg _ _ _).1 hz with hz | hz
    · rcases List.mem_cons.1 hz with rfl | hz
      · omega
      · have := a1 z hz; omega
    · exact b1 z hz

theorem tot_omrg (a b : List Bkt) (ha : Flat a) (t : Int) : tot (omrg a b) t = oput (tot a t) (tot b t) := by
  fun_induction omrg a b with
  | case1 b => rfl
  | case2 a => rw [tot_nil, oput_none]
  | case3 x a y b h ih =>
    obtain ⟨a1, a2⟩ := List.pairwise_cons.1 ha
    rw [tot_cons, ih a2, tot_cons x a, oput_assoc]
  | case4 x a y b h ih =>
    obtain ⟨a1, a2⟩ := List.pairwise_cons.1 ha
    rw [tot_cons, ih ha, tot_cons y b]
    unfold one
    by_cases e : y.st = t
    · have hn : tot (x :: a) t = none := (tot_none _ _).2 fun z hz => by
        rcases List.mem_cons.1 hz with rfl | hz
        · omega
        · have := a1 z hz; omega
      rw [hn]; rfl
    · rw [if_neg e]; rfl

def mrgB (a b : List Bkt) : List Bkt := gathL [] (omrg a b)

theorem flat_of_rise {l : List Bkt} (h : RiseB l) : Flat l := h.imp fun h => by omega

theorem rise_mrgB (a b : List Bkt) (ha : RiseB a) (hb : RiseB b) : RiseB (mrgB a b) :=
  rise_gathL _ [] List.Pairwise.nil (flat_omrg a b (flat_of_rise ha) (flat_of_rise hb)) (by simp)

theorem tot_mrgB (a b : List Bkt) (ha : RiseB a) (t : Int) : tot (mrgB a b) t = oput (tot a t) (tot b t) := by
  unfold mrgB
  rw [tot_gathL, tot_nil, tot_omrg a b (flat_of_rise ha)]; rfl

theorem oput_comm_tot (a b : List Bkt) (t : Int) : oput (tot a t) (tot b t) = oput (tot b t) (tot a t) := by
  cases ha : tot a t with
  | none => rw [oput_none]; rfl
  | some x =>
    cases hb : tot b t with
    | none => rfl
    | some y =>
      show some (put x y) = some (put y x)
      rw [put_comm x y ((tot_st a t x ha).trans (tot_st b t y hb).symm)]

theorem mrgB_comm (a b : List Bkt) (ha : RiseB a) (hb : RiseB b) : mrgB a b = mrgB b a :=
  eq_of_tot _ _ (rise_mrgB a b ha hb) (rise_mrgB b a hb ha) fun t => by rw [tot_mrgB a b ha, tot_mrgB b a hb, oput_comm_tot]

theorem flr_mod (t span : Int) : flr t span % span = 0 := by
  unfold flr
  rw [Int.sub_emod, Int.emod_emod_of_dvd t (Int.dvd_refl span), Int.sub_self]; rfl

theorem flr_le (t span : Int) (h : 1 ≤ span) : flr t span ≤ t ∧ t - flr t span < span := by
  unfold flr
  have h1 := Int.emod_nonneg t (b := span) (by omega)
  have h2 := Int.emod_lt_of_pos t (b := span) (by omega)
  omega

theorem flr_eq (t span : Int) : flr t span = span * (t / span) := by
  unfold flr
  have := Int.mul_ediv_add_emod t span
  omega

theorem flr_mono (a b span : Int) (h : 1 ≤ span) (hab : a ≤ b) : flr a span ≤ flr b span := by
  rw [flr_eq, flr_eq]
  exact Int.mul_le_mul_of_nonneg_left (Int.ediv_le_ediv (by omega) hab) (by omega)

theorem flr_of_mod (t span : Int) (h : t % span = 0) : flr t span = t := by unfold flr; omega

theorem flr_flr (t span times : Int) (hs : 1 ≤ span) : flr (flr t span) (span * times) = flr t (span * times) := by
  rw [flr_eq _ (span * times), flr_eq t (span * times), flr_eq t span]
  have h1 : span * (t / span) / (span * times) = (t / span) / times := Int.mul_ediv_mul_of_pos _ _ (by omega)
  have h2 : t / (span * times) = (t / span) / times := by rw [Int.ediv_ediv_of_nonneg (by omega)]
  rw [h1, h2]

theorem up_wide (l : List Smp) (span times : Int) (hs : 1 ≤ span) : wid' (span * times) (up span l) = up (span * times) l := by
  unfold wid' up
  rw [gathL_map, List.map_nil, gathL_nil, List.map_map]
  congr 1
  apply List.map_congr_left
  intro s _
  show toSt _ (bk span s) = bk (span * times) s
  unfold toSt bk
  simp only [flr_flr _ _ _ hs]

theorem up_len (span : Int) (l : List Smp) : (up span l).length ≤ l.length := by
  have := gathL_len (l.map (bk span)) []
  simpa [up] using this

theorem flat_bk (l : List Smp) (span : Int) (hs : 1 ≤ span) (hl : l.Pairwise fun x y => x.1 < y.1) : Flat (l.map (bk span)) := by
  unfold Flat
  rw [List.pairwise_map]
  exact hl.imp fun {a b} h => flr_mono a.1 b.1 span hs (by omega)

theorem rise_up (l : List Smp) (span : Int) (hs : 1 ≤ span) (hl : l.Pairwise fun x y => x.1 < y.1) : RiseB (up span l) :=
  rise_gathL _ [] List.Pairwise.nil (flat_bk l span hs hl) (by simp)

theorem tot_up (l : List Smp) (span t : Int) : tot (up span l) t = tot (l.map (bk span)) t := by
  unfold up
  rw [tot_gathL, tot_nil]; rfl

/-- What comes of two parts is what comes of all. -/
theorem up_parts (a b : List Smp) (span : Int) (hs : 1 ≤ span) (hl : (a ++ b).Pairwise fun x y => x.1 < y.1) : mrgB (up span a) (up span b) = up span (a ++ b) := by
  obtain ⟨ha, hb, _⟩ := List.pairwise_append.1 hl
  refine eq_of_tot _ _ (rise_mrgB _ _ (rise_up a span hs ha) (rise_up b span hs hb)) (rise_up _ span hs hl) fun t => ?_
  rw [tot_mrgB _ _ (rise_up a span hs ha), tot_up, tot_up, tot_up, List.map_append, tot_append]

/-- What holds of each bucket of samples. -/
theorem gath_all (P : Bkt → Prop) (l : List Bkt) (b : Bkt) (hl : ∀ c ∈ l, P c) (hb : P b) (hp : ∀ c, P c → c.st = b.st → P (put c b)) : ∀ c ∈ gath l b, P c := by
  rcases l.eq_nil_or_concat with rfl | ⟨l', d, rfl⟩
  · intro c hc
    have : c = b := by simpa [gath] using hc
    rw [this]; exact hb
  · rw [List.concat_eq_append] at hl ⊢
    rw [gath_snoc]
    by_cases e : d.st = b.st
    · rw [if_pos e]
      intro c hc
      rcases List.mem_append.1 hc with hc | hc
      · exact hl c (List.mem_append_left _ hc)
      · have : c = put d b := by simpa using hc
        rw [this]; exact hp d (hl d (by simp)) e
    · rw [if_neg e]
      intro c hc
      have eq : l' ++ [d, b] = (l' ++ [d]) ++ [b] := by simp
      rw [eq] at hc
      rcases List.mem_append.1 hc with hc | hc
      · exact hl c hc
      · have : c = b := by simpa using hc
        rw [this]; exact hb

/-- Counts, added up without a bound. -/
def cts (l : List Bkt) : Int := (l.map Bkt.ct).sum
/-- Sums, added up within 64 bits. -/
def sms (l : List Bkt) : Int := l.foldl (fun n b => W (n + b.sm)) 0

theorem cts_nonneg (l : List Bkt) (h : ∀ c ∈ l, 1 ≤ c.ct) : 0 ≤ cts l ∧ ∀ c ∈ l, c.ct ≤ cts l := by
  induction l with
  | nil => simp [cts]
  | cons x l ih =>
    obtain ⟨h1, h2⟩ := ih fun c hc => h c (List.mem_cons_of_mem _ hc)
    have hx := h x (by simp)
    have e : cts (x :: l) = x.ct + cts l := by simp [cts]
    rw [e]
    refine ⟨by omega, fun c hc => ?_⟩
    rcases List.mem_cons.1 hc with rfl | hc
    · omega
    · have := h2 c hc; omega

/-- Of samples, up to n of them: how many, and each of a span's own. -/
def Fine (span : Int) (l : List Bkt) (n : Nat) : Prop := cts l = n ∧ ∀ c ∈ l, c.st % span = 0 ∧ c.mn ≤ c.mx ∧ 1 ≤ c.ct

theorem fine_gath (span : Int) (l : List Bkt) (n : Nat) (hn : n ≤ 2000) (s : Smp) (h : Fine span l n) : Fine span (gath l (bk span s)) (n + 1) := by
  obtain ⟨h1, h2⟩ := h
  have hb : (bk span s).ct = 1 := rfl
  have hc : ∀ c ∈ l, W (c.ct + (bk span s).ct) = c.ct + 1 := fun c hc => by
    have a := (h2 c hc).2.2
    have b := (cts_nonneg l fun c hc => (h2 c hc).2.2).2 c hc
    rw [hb]; unfold W; omega
  constructor
  · rcases l.eq_nil_or_concat with rfl | ⟨l', d, rfl⟩
    · show cts [bk span s] = _
      have : n = 0 := by have h3 := h1; simp [cts] at h3; omega
      subst this
      simp [cts, hb]
    · rw [List.concat_eq_append] at h1 hc ⊢
      rw [gath_snoc]
      have hd := hc d (by simp)
      have e1 : cts (l' ++ [d]) = cts l' + d.ct := by simp [cts]
      split
      · have e2 : cts (l' ++ [put d (bk span s)]) = cts l' + W (d.ct + (bk span s).ct) := by simp [cts, put]
        rw [e2, hd]; omega
      · have e2 : cts (l' ++ [d, bk span s]) = cts l' + d.ct + 1 := by simp [cts, hb]; omega
        rw [e2]; omega
  · intro c hcm
    rcases l.eq_nil_or_concat with rfl | ⟨l', d, rfl⟩
    · have : c = bk span s := by simpa [gath] using hcm
      subst this
      exact ⟨flr_mod _ _, Int.le_refl _, by rw [hb]; omega⟩
    · rw [List.concat_eq_append] at h2 hc hcm
      rw [gath_snoc] at hcm
      split at hcm
      · rcases List.mem_append.1 hcm with hcm | hcm
        · exact h2 c (List.mem_append_left _ hcm)
        · have : c = put d (bk span s) := by simpa using hcm
          subst this
          obtain ⟨d1, d2, d3⟩ := h2 d (by simp)
          have hd := hc d (by simp)
          refine ⟨d1, ?_, ?_⟩
          · show min d.mn s.2 ≤ max d.mx s.2
            omega
          · show 1 ≤ W (d.ct + (bk span s).ct)
            rw [hd]; omega
      · have eq : l' ++ [d, bk span s] = (l' ++ [d]) ++ [bk span s] := by simp
        rw [eq] at hcm
        rcases List.mem_append.1 hcm with hcm | hcm
        · exact h2 c hcm
        · have : c = bk span s := by simpa using hcm
          subst this
          exact ⟨flr_mod _ _, Int.le_refl _, by rw [hb]; omega⟩

theorem fine_gathL (span : Int) (l : List Smp) : ∀ acc n, n + l.length ≤ 2000 → Fine span acc n → Fine span (gathL acc (l.map (bk span))) (n + l.length) := by
  induction l with
  | nil => intro acc n _ h; exact h
  | cons s l ih =>
    intro acc n hn h
    rw [List.map_cons, gathL_cons]
    have := ih _ (n + 1) (by simp at hn; omega) (fine_gath span acc n (by simp at hn; omega) s h)
    have e : n + 1 + l.length = n + (s :: l).length := by simp; omega
    rw [← e]; exact this

theorem fine_up (span : Int) (l : List Smp) (hl : l.length ≤ 2000) : Fine span (up span l) l.length := by
  have := fine_gathL span l [] 0 (by omega) ⟨rfl, by simp⟩
  simpa [up] using this

theorem sms_snoc (l : List Bkt) (b : Bkt) : sms (l ++ [b]) = W (sms l + b.sm) := by unfold sms; rw [List.foldl_append]; rfl

theorem sms_gath (l : List Bkt) (b : Bkt) : sms (gath l b) = W (sms l + b.sm) := by
  rcases l.eq_nil_or_concat with rfl | ⟨l', c, rfl⟩
  · rfl
  · rw [List.concat_eq_append, gath_snoc]
    split
    · rw [sms_snoc, sms_snoc]
      show W (sms l' + W (c.sm + b.sm)) = _
      rw [W_add_r, W_add_l, Int.add_assoc]
    · have eq : l' ++ [c, b] = (l' ++ [c]) ++ [b] := by simp
      rw [eq, sms_snoc]

/-- Values, added up within 64 bits. -/
def vals (l : List Smp) : Int := l.foldl (fun n s => W (n + s.2)) 0

theorem vals_snoc (l : List Smp) (s : Smp) : vals (l ++ [s]) = W (vals l + s.2) := by unfold vals; rw [List.foldl_append]; rfl

theorem sms_up (span : Int) (l : List Smp) : sms (up span l) = vals l := by
  rcases l.eq_nil_or_concat with rfl | ⟨l', s, rfl⟩
  · rfl
  · rw [List.concat_eq_append]
    have ih := sms_up span l'
    unfold up at ih ⊢
    rw [List.map_append, List.map_singleton, gathL_snoc, sms_gath, vals_snoc, ih]; rfl
  termination_by l.length
  decreasing_by subst_vars; simp

theorem rising_right (l : List Smp) (h : right l = true) : l.Pairwise (fun x y => x.1 < y.1) ∧ ∀ s ∈ l, -1099511627776 ≤ s.1 ∧ s.1 ≤ 1099511627776 := by
  obtain ⟨_, h2⟩ := (right_iff l).1 h
  have hstep : ∀ i, i + 1 < l.length → (at' l i).1 < (at' l (i + 1)).1 := fun i hi => by
    rcases ((okAt_iff l (i + 1)).1 (h2 (i + 1) hi)).2 with h | h
    · omega
    · exact h
  have hlt : ∀ d i, i + d + 1 < l.length → (at' l i).1 < (at' l (i + d + 1)).1 := by
    intro d
    induction d with
    | zero => exact fun i hi => hstep i hi
    | succ d ih =>
      intro i hi
      have a := ih i (by omega)
      have b := hstep (i + d + 1) (by omega)
      have e : i + (d + 1) + 1 = i + d + 1 + 1 := by omega
      rw [e]; omega
  constructor
  · rw [List.pairwise_iff_getElem]
    intro i j hi hj hij
    have := hlt (j - i - 1) i (by omega)
    have e : i + (j - i - 1) + 1 = j := by omega
    rw [e] at this
    simpa [at', hi, hj] using this
  · intro s hs
    obtain ⟨i, hi, rfl⟩ := List.getElem_of_mem hs
    have := ((okAt_iff l i).1 (h2 i hi)).1
    simpa [at', hi] using this

end CL
end Go.Proofs.YtdmnlmohfaafoabDoor
