/- The program's questions, plain: what is read may be printed, in no more tokens; and what is printed is read again. Names no function. -/
import Derived.Test.YtdmnlmohfaafoaeDoorAqPar
namespace Go.Proofs.YtdmnlmohfaafoaeDoor
namespace AQ

/-- The last token is the end. -/
def Ends (l : List Tok) : Prop := ∃ l0 p, l = l0 ++ [⟨4, ⟨#[]⟩, p⟩]

theorem Ends.pos {l : List Tok} (h : Ends l) : 0 < l.length := by
  obtain ⟨l0, p, rfl⟩ := h; simp

theorem Ends.tail {l : List Tok} (h : Ends l) (hk : (hd l).kind ≠ 4 ∨ (hd l).said ≠ ⟨#[]⟩) : Ends l.tail := by
  obtain ⟨l0, p, rfl⟩ := h
  cases l0 with
  | nil => rcases hk with hk | hk <;> exact absurd rfl hk
  | cons t r => exact ⟨r, p, rfl⟩

/-- From here to there. -/
structure Goes (l r : List Tok) : Prop where
  suf : r <:+ l
  ends : Ends l → Ends r

theorem Goes.refl (l : List Tok) : Goes l l := ⟨List.suffix_refl _, fun h => h⟩
theorem Goes.trans {a b c : List Tok} (h : Goes a b) (k : Goes b c) : Goes a c := ⟨k.suf.trans h.suf, fun e => k.ends (h.ends e)⟩

theorem has_goes {x : ByteArray} {l : List Tok} (hx : x ≠ ⟨#[]⟩) (h : has x l = true) : Goes l l.tail ∧ l.tail.length + 1 = l.length := by
  have hs : (hd l).said = x := by simpa [has] using h
  refine ⟨⟨List.tail_suffix _, fun e => e.tail (.inr (by rw [hs]; exact hx))⟩, ?_⟩
  cases l with
  | nil => exact absurd hs (fun e => hx e.symm)
  | cons t r => simp

theorem need_inv {x : ByteArray} {l r : List Tok} {u : Unit} (hx : x ≠ ⟨#[]⟩) (h : need x l = .ok u r) : Goes l r ∧ r.length + 1 = l.length := by
  unfold need at h
  split at h
  · rename_i h1
    cases h
    exact has_goes hx h1
  · cases h

theorem needK_inv {k : Int} {l r : List Tok} {t : Tok} (hk : k ≠ 4) (h : needK k l = .ok t r) : (t ∈ l ∧ t.kind = k) ∧ Goes l r ∧ r.length + 1 = l.length := by
  unfold needK at h
  split at h
  · rename_i h1
    cases h
    cases l with
    | nil => exact absurd h1.symm hk
    | cons t l =>
      refine ⟨⟨by simp [hd], h1⟩, ⟨List.tail_suffix _, fun e => e.tail (.inl (by rw [h1]; exact hk))⟩, by simp⟩
  · cases h

theorem andThen_inv {α β : Type} {x : Res α} {f : α → List Tok → Res β} {b : β} {r : List Tok} (h : x.andThen f = .ok b r) : ∃ a l, x = .ok a l ∧ f a l = .ok b r := by
  cases x with
  | ok a l => exact ⟨a, l, rfl, h⟩
  | bad e p => cases h

theorem nameR_inv {l r : List Tok} {n : ByteArray} (h : nameR l = .ok n r) : LB.name n = true ∧ Goes l r ∧ r.length + 1 = l.length := by
  obtain ⟨t, l1, h1, h2⟩ := andThen_inv h
  obtain ⟨_, hg, hn⟩ := needK_inv (by decide) h1
  split at h2
  · rename_i h3
    cases h2
    exact ⟨h3, hg, hn⟩
  · cases h2

theorem opFrom_inv {l r : List Tok} {o : Int} : ∀ (w : List ByteArray) (i : Int), (∀ x ∈ w, x ≠ ⟨#[]⟩) → opFrom l w i = .ok o r → i ≤ o ∧ o < i + w.length ∧ Goes l r ∧ r.length + 1 = l.length
  | [], _, _, h => by cases h
  | x :: w, i, hw, h => by
    unfold opFrom at h
    split at h
    · rename_i h1
      cases h
      obtain ⟨a, b⟩ := has_goes (hw x (by simp)) h1
      exact ⟨by omega, by simp only [List.length_cons]; omega, a, b⟩
    · obtain ⟨a, b, c⟩ := opFrom_inv w (i + 1) (fun y hy => hw y (by simp [hy])) h
      exact ⟨by omega, by simp only [List.length_cons]; omega, c⟩

theorem opR_inv {l r : List Tok} {o : Int} (h : opR l = .ok o r) : 0 ≤ o ∧ o < 4 ∧ Goes l r ∧ r.length + 1 = l.length := opFrom_inv ops 0 (by decide) h

abbrev matOk (x : LB.Mat) : Prop := LB.name x.nm = true ∧ 0 ≤ x.op ∧ x.op < 4 ∧ LB.valu x.vl = true

theorem matR_inv {l r : List Tok} {m : LB.Mat} (h : matR l = .ok m r) : matOk m ∧ Goes l r ∧ r.length + 3 = l.length := by
  obtain ⟨n, l1, h1, h⟩ := andThen_inv h
  obtain ⟨o, l2, h2, h⟩ := andThen_inv h
  obtain ⟨t, l3, h3, h⟩ := andThen_inv h
  obtain ⟨a1, g1, n1⟩ := nameR_inv h1
  obtain ⟨a2, b2, g2, n2⟩ := opR_inv h2
  obtain ⟨_, g3, n3⟩ := needK_inv (by decide) h3
  split at h
  · rename_i hv
    cases h
    exact ⟨⟨a1, a2, b2, hv⟩, (g1.trans g2).trans g3, by omega⟩
  · cases h

theorem loopM_inv : ∀ (f : Nat) (l : List Tok) (out m : List LB.Mat) (r : List Tok), loopM f l out = .ok m r → (∀ x ∈ out, matOk x) → out.length ≤ 8 → matsOk m ∧ Goes l r ∧ out.length < m.length ∧ 4 * m.length + r.length = l.length + 4 * out.length
  | 0, _, _, _, _, h, _, _ => by cases h
  | f + 1, l, out, m, r, h, ho, h8 => by
    unfold loopM at h
    split at h
    · cases h
    · rename_i hne
      obtain ⟨x, l1, h1, h⟩ := andThen_inv h
      obtain ⟨a1, g1, n1⟩ := matR_inv h1
      have ho' : ∀ y ∈ out ++ [x], matOk y := fun y hy => by
        rcases List.mem_append.1 hy with hy | hy
        · exact ho y hy
        · have : y = x := by simpa using hy
          subst this; exact a1
      have hl' : (out ++ [x]).length = out.length + 1 := by simp
      split at h
      · rename_i h2
        obtain ⟨g2, n2⟩ := has_goes (by decide) h2
        obtain ⟨a, b, c, d⟩ := loopM_inv f l1.tail (out ++ [x]) m r h ho' (by omega)
        exact ⟨a, (g1.trans g2).trans b, by omega, by omega⟩
      · obtain ⟨_, l2, h3, h⟩ := andThen_inv h
        obtain ⟨g3, n3⟩ := need_inv (by decide) h3
        cases h
        exact ⟨⟨by omega, ho'⟩, g1.trans g3, by omega, by omega⟩

theorem tkIs_len : ∀ (x : LB.Mat) (r : List LB.Mat), (tkIs (x :: r)).length + 1 = 4 * (x :: r).length
  | x, r => by
    have : ∀ r : List LB.Mat, (r.flatMap fun x => mk1 44 :: tkI x).length = 4 * r.length := fun r => by
      induction r with
      | nil => rfl
      | cons y r ih => rw [List.flatMap_cons, List.length_append, ih]; simp [tkI]; omega
    show (tkI x ++ _).length + 1 = _
    rw [List.length_append, this]
    simp [tkI]; omega

theorem someR_inv {l r : List Tok} {m : List LB.Mat} (h : someR l = .ok m r) : matsOk m ∧ Goes l r ∧ (tkM m).length + r.length = l.length := by
  obtain ⟨_, l1, h1, h⟩ := andThen_inv h
  obtain ⟨g1, n1⟩ := need_inv (by decide) h1
  split at h
  · rename_i h2
    obtain ⟨g2, n2⟩ := has_goes (by decide) h2
    cases h
    exact ⟨⟨by simp, by simp⟩, g1.trans g2, by simp [tkM, tkIs]; omega⟩
  · obtain ⟨a, b, c, d⟩ := loopM_inv 9 l1 [] m r h (by simp) (by simp)
    refine ⟨a, g1.trans b, ?_⟩
    cases m with
    | nil => simp at c
    | cons x t =>
      have h3 := tkIs_len x t
      simp only [List.length_nil] at d
      unfold tkM
      rw [List.length_append, List.length_cons]
      simp only [List.length_cons, List.length_nil] at *
      omega

/-- Numbers are digits, and few. -/
def FitT (t : Tok) : Prop := (t.kind = 1 → (∀ c ∈ t.said.data.toList, isD c = true) ∧ t.said.data.toList.length ≤ 18 ∧ t.said.data.toList ≠ []) ∧ (t.kind = 2 → 2 ≤ t.said.data.toList.length) ∧ t.said.data.toList.length ≤ 1000000000
def FitL (l : List Tok) : Prop := ∀ t ∈ l, FitT t
theorem FitL.go {l r : List Tok} (h : FitL l) (g : Goes l r) : FitL r := fun t ht => h t (g.suf.mem ht)

theorem digs_bound : ∀ (x : List UInt8) (n : Int), 0 ≤ n → (∀ c ∈ x, isD c = true) → 0 ≤ digs x n ∧ digs x n < (n + 1) * 10 ^ x.length
  | [], n, hn, _ => by simp [digs]; omega
  | c :: x, n, hn, hx => by
    have hc : 48 ≤ c.toNat ∧ c.toNat ≤ 57 := by simpa [isD, LB.digit] using hx c (by simp)
    obtain ⟨a, b⟩ := digs_bound x (n * 10 + ((c.toNat : Int) - 48)) (by omega) fun d hd => hx d (by simp [hd])
    refine ⟨a, Int.lt_of_lt_of_le b ?_⟩
    have e : (n + 1) * (10 : Int) ^ (x.length + 1) = (n + 1) * 10 * 10 ^ x.length := by rw [Int.pow_succ, Int.mul_assoc, Int.mul_comm (10 ^ x.length) 10]
    rw [List.length_cons, e]
    refine Int.mul_le_mul_of_nonneg_right (by omega) ?_
    exact Int.le_of_lt (Int.pow_pos (by decide))

theorem numR_inv {l r : List Tok} {n : Int} (hf : FitL l) (h : numR l = .ok n r) : 0 ≤ n ∧ n < 1000000000000000000 ∧ Goes l r ∧ r.length + 1 = l.length := by
  obtain ⟨t, l1, h1, h⟩ := andThen_inv h
  obtain ⟨⟨ht, hk⟩, g, hn⟩ := needK_inv (by decide) h1
  cases h
  obtain ⟨hd', hl, _⟩ := (hf t ht).1 hk
  obtain ⟨a, b⟩ := digs_bound t.said.data.toList 0 (by omega) hd'
  refine ⟨a, Int.lt_of_lt_of_le b ?_, g, hn⟩
  have : (10 : Nat) ^ t.said.data.toList.length ≤ 10 ^ 18 := Nat.pow_le_pow_right (by omega) hl
  have h3 : ((10 ^ t.said.data.toList.length : Nat) : Int) ≤ ((10 ^ 18 : Nat) : Int) := by exact_mod_cast this
  simpa using h3

theorem spanR_inv {l r : List Tok} {n : Int} (hf : FitL l) (h : spanR l = .ok n r) : 1 ≤ n ∧ n ≤ 1099511627776 ∧ Goes l r ∧ r.length + 1 = l.length := by
  obtain ⟨k, l1, h1, h⟩ := andThen_inv h
  obtain ⟨a, b, g, hn⟩ := numR_inv hf h1
  split at h
  · cases h
  · cases h
    exact ⟨by omega, by omega, g, hn⟩

theorem loopN_inv : ∀ (f : Nat) (l : List Tok) (out m : List ByteArray) (r : List Tok), loopN f l out = .ok m r → (∀ x ∈ out, LB.name x = true) → out.length ≤ 8 → namesOk m ∧ Goes l r ∧ out.length < m.length ∧ 2 * m.length + r.length = l.length + 2 * out.length
  | 0, _, _, _, _, h, _, _ => by cases h
  | f + 1, l, out, m, r, h, ho, h8 => by
    unfold loopN at h
    obtain ⟨x, l1, h1, h⟩ := andThen_inv h
    obtain ⟨a1, g1, n1⟩ := nameR_inv h1
    split at h
    · cases h
    · have ho' : ∀ y ∈ out ++ [x], LB.name y = true := fun y hy => by
        rcases List.mem_append.1 hy with hy | hy
        · exact ho y hy
        · have : y = x := by simpa using hy
          subst this; exact a1
      have hl' : (out ++ [x]).length = out.length + 1 := by simp
      split at h
      · rename_i h2
        obtain ⟨g2, n2⟩ := has_goes (by decide) h2
        obtain ⟨a, b, c, d⟩ := loopN_inv f l1.tail (out ++ [x]) m r h ho' (by omega)
        exact ⟨a, (g1.trans g2).trans b, by omega, by omega⟩
      · obtain ⟨_, l2, h3, h⟩ := andThen_inv h
        obtain ⟨g3, n3⟩ := need_inv (by decide) h3
        cases h
        exact ⟨⟨by omega, ho'⟩, g1.trans g3, by omega, by omega⟩

theorem namesR_inv {l r : List Tok} {m : List ByteArray} (h : namesR l = .ok m r) : namesOk m ∧ Goes l r ∧ (tkBy m).length + r.length = l.length + 1 := by
  obtain ⟨_, l1, h1, h⟩ := andThen_inv h
  obtain ⟨g1, n1⟩ := need_inv (by decide) h1
  obtain ⟨a, b, c, d⟩ := loopN_inv 9 l1 [] m r h (by simp) (by simp)
  refine ⟨a, g1.trans b, ?_⟩
  cases m with
  | nil => simp at c
  | cons x t =>
    have : ∀ r : List ByteArray, (r.flatMap fun y => [mk1 44, ((0 : Int), y)]).length = 2 * r.length := fun r => by
      induction r with
      | nil => rfl
      | cons y r ih => rw [List.flatMap_cons, List.length_append, ih]; simp; omega
    unfold tkBy
    rw [if_neg (by simp)]
    simp only [tkNs, List.length_append, List.length_cons, List.length_nil, this] at *
    omega

def cost (k : Nat) (q : Q) : Nat := (tkP k q (tk q)).length
theorem cost_le (k : Nat) (q : Q) : cost k q ≤ cost (k + 1) q := by
  unfold cost tkP
  split
  · split
    · exact Nat.le_refl _
    · simp; omega
  · rw [if_neg (by omega)]; exact Nat.le_refl _
theorem cost_zero (q : Q) : cost 0 q = (tk q).length := by unfold cost tkP; rw [if_pos (Nat.zero_le _)]
theorem cost_par (k : Nat) (q : Q) : cost k q ≤ (tk q).length + 2 := by
  unfold cost tkP
  split
  · omega
  · simp

/-- What is read of some tokens. -/
structure Told (d k : Nat) (l : List Tok) (q : Q) (r : List Tok) : Prop where
  ok : OkP d k q
  goes : Goes l r
  few : cost k q + r.length ≤ l.length

theorem overR_inv {d : Nat} {c : Int} {l r : List Tok} {q : Q} (hc : 3 ≤ c ∧ c ≤ 7) (hf : FitL l) (h : overR c l = .ok q r) : Told (d + 1) 2 l q r := by
  obtain ⟨_, l1, h1, h⟩ := andThen_inv h
  obtain ⟨_, l2, h2, h⟩ := andThen_inv h
  obtain ⟨m, l3, h3, h⟩ := andThen_inv h
  obtain ⟨_, l4, h4, h⟩ := andThen_inv h
  obtain ⟨n, l5, h5, h⟩ := andThen_inv h
  obtain ⟨_, l6, h6, h⟩ := andThen_inv h
  obtain ⟨_, l7, h7, h⟩ := andThen_inv h
  cases h
  obtain ⟨_, g1, n1⟩ := needK_inv (by decide) h1
  obtain ⟨g2, n2⟩ := need_inv (by decide) h2
  obtain ⟨a3, g3, n3⟩ := someR_inv h3
  obtain ⟨g4, n4⟩ := need_inv (by decide) h4
  have g := ((g1.trans g2).trans g3).trans g4
  obtain ⟨a5, b5, g5, n5⟩ := spanR_inv (hf.go g) h5
  obtain ⟨g6, n6⟩ := need_inv (by decide) h6
  obtain ⟨g7, n7⟩ := need_inv (by decide) h7
  have hw : wgt c = 2 := by unfold wgt; rw [if_neg (by omega), if_neg (by omega)]
  refine ⟨⟨d + 1, .over d c m n hc a3 ⟨a5, b5⟩, .inl ⟨by show 2 ≤ wgt c; omega, rfl⟩⟩, ((g.trans g5).trans g6).trans g7, ?_⟩
  have e2 : tk (.mk c 0 m n [] .none .none) = tkW c :: mk1 40 :: tkM m ++ [mk1 91, tkN n, mk1 93, mk1 41] := by
    unfold tk; rw [if_neg (by omega), if_neg (by omega), if_pos hc]
  unfold cost tkP
  rw [if_pos (by show 2 ≤ wgt c; omega), e2]
  simp only [List.length_append, List.length_cons, List.length_nil]
  omega

theorem ofR_inv {d : Nat} {c : Int} {sum : List Tok → Res Q} (hs : ∀ l q r, FitL l → sum l = .ok q r → Told d 0 l q r) {l r : List Tok} {q : Q} (hc : 8 ≤ c ∧ c ≤ 11) (hf : FitL l) (h : ofR sum c l = .ok q r) : Told (d + 1) 2 l q r := by
  obtain ⟨_, l1, h1, h⟩ := andThen_inv h
  obtain ⟨_, l2, h2, h⟩ := andThen_inv h
  obtain ⟨p, l3, h3, h⟩ := andThen_inv h
  obtain ⟨_, l4, h4, h⟩ := andThen_inv h
  obtain ⟨_, g1, n1⟩ := needK_inv (by decide) h1
  obtain ⟨g2, n2⟩ := need_inv (by decide) h2
  have T := hs l2 p l3 (hf.go (g1.trans g2)) h3
  obtain ⟨g4, n4⟩ := need_inv (by decide) h4
  have g := ((g1.trans g2).trans T.goes).trans g4
  have hT := T.few
  rw [cost_zero] at hT
  obtain ⟨e, hw, hv⟩ := T.ok
  have hw2 : wgt c = 2 := by unfold wgt; rw [if_neg (by omega), if_neg (by omega)]
  have e2 : ∀ nm, tk (.mk c 0 [] 0 nm p .none) = tkW c :: mk1 40 :: tkP 0 p (tk p) ++ [mk1 41] ++ tkBy nm := fun nm => by
    conv => lhs; unfold tk
    rw [if_neg (by omega), if_neg (by omega), if_neg (by omega), if_pos hc]
  have e3 : (tkP 0 p (tk p)).length = (tk p).length := cost_zero p
  split at h
  · rename_i h5
    obtain ⟨g5, n5⟩ := has_goes (by decide) h5
    obtain ⟨nm, l6, h6, h⟩ := andThen_inv h
    cases h
    obtain ⟨a6, g6, n6⟩ := namesR_inv h6
    refine ⟨⟨d + 1, .of d e c nm p hc a6 hw hv, .inl ⟨by show 2 ≤ wgt c; omega, rfl⟩⟩, (g.trans g5).trans g6, ?_⟩
    unfold cost tkP
    rw [if_pos (by show 2 ≤ wgt c; omega), e2]
    simp only [List.length_append, List.length_cons, List.length_nil, e3]
    omega
  · cases h
    refine ⟨⟨d + 1, .of d e c [] p hc ⟨by simp, by simp⟩ hw hv, .inl ⟨by show 2 ≤ wgt c; omega, rfl⟩⟩, g, ?_⟩
    unfold cost tkP
    rw [if_pos (by show 2 ≤ wgt c; omega), e2]
    simp only [List.length_append, List.length_cons, List.length_nil, e3, tkBy, if_true]
    omega

theorem prodC_inv {d : Nat} {one : List Tok → Res Q} (ho : ∀ l q r, FitL l → one l = .ok q r → Told d 2 l q r) {L : List Tok} (hf : FitL L) : ∀ (f : Nat) (l : List Tok) (q q' : Q) (r : List Tok), chainR one ⟨#[42]⟩ ⟨#[47]⟩ 15 f l q = .ok q' r → Told d 1 L q l → Told d 1 L q' r
  | 0, _, _, _, _, h, _ => by cases h
  | f + 1, l, q, q', r, h, T => by
    have step : ∀ c : Int, (c = 15 ∨ c = 16) → ∀ b l', one l.tail = .ok b l' → Goes l l.tail → l.tail.length + 1 = l.length → Told d 1 L (.mk c 0 [] 0 [] q b) l' := fun c hc b l' hb g n => by
      have Tb := ho l.tail b l' ((hf.go T.goes).go g) hb
      obtain ⟨e1, w1, v1⟩ := T.ok
      obtain ⟨e2, w2, v2⟩ := Tb.ok
      have hw : wgt c = 1 := by unfold wgt; rw [if_neg (by omega), if_pos hc]
      refine ⟨⟨d, .prod d e1 e2 c q b hc w1 v1 w2 v2, .inl ⟨by show 1 ≤ wgt c; omega, rfl⟩⟩, (T.goes.trans g).trans Tb.goes, ?_⟩
      have e : tk (.mk c 0 [] 0 [] q b) = tkP 1 q (tk q) ++ [mk1 (signT c)] ++ tkP 2 b (tk b) := by
        conv => lhs; unfold tk
        rw [if_neg (by omega), if_neg (by omega), if_neg (by omega), if_neg (by omega), if_neg (by omega), if_pos (by omega), hw]
      have h1 := T.few
      have h2 := Tb.few
      unfold cost at *
      conv => lhs; unfold tkP
      rw [if_pos (by show 1 ≤ wgt c; omega), e]
      simp only [List.length_append, List.length_cons, List.length_nil]
      omega
    unfold chainR at h
    split at h
    · rename_i h1
      obtain ⟨g, n⟩ := has_goes (by decide) h1
      obtain ⟨b, l', hb, h⟩ := andThen_inv h
      exact prodC_inv ho hf f l' _ q' r h (step 15 (.inl rfl) b l' hb g n)
    · split at h
      · rename_i h1
        obtain ⟨g, n⟩ := has_goes (by decide) h1
        obtain ⟨b, l', hb, h⟩ := andThen_inv h
        exact prodC_inv ho hf f l' _ q' r h (step 16 (.inr rfl) b l' hb g n)
      · cases h
        exact T

theorem prodR_inv {d : Nat} {one : List Tok → Res Q} (ho : ∀ l q r, FitL l → one l = .ok q r → Told d 2 l q r) {l : List Tok} {q : Q} {r : List Tok} (hf : FitL l) (h : prodR one l = .ok q r) : Told d 1 l q r := by
  obtain ⟨p, l1, h1, h⟩ := andThen_inv h
  have T := ho l p l1 hf h1
  have hc : cost 1 p ≤ cost 2 p := cost_le 1 p
  have hw := T.few
  exact prodC_inv ho hf _ _ _ _ _ h ⟨T.ok.less, T.goes, by omega⟩

theorem sumC_inv {d : Nat} {one : List Tok → Res Q} (ho : ∀ l q r, FitL l → one l = .ok q r → Told d 1 l q r) {L : List Tok} (hf : FitL L) : ∀ (f : Nat) (l : List Tok) (q q' : Q) (r : List Tok), chainR one ⟨#[43]⟩ ⟨#[45]⟩ 13 f l q = .ok q' r → Told d 0 L q l → Told d 0 L q' r
  | 0, _, _, _, _, h, _ => by cases h
  | f + 1, l, q, q', r, h, T => by
    have step : ∀ c : Int, (c = 13 ∨ c = 14) → ∀ b l', one l.tail = .ok b l' → Goes l l.tail → l.tail.length + 1 = l.length → Told d 0 L (.mk c 0 [] 0 [] q b) l' := fun c hc b l' hb g n => by
      have Tb := ho l.tail b l' ((hf.go T.goes).go g) hb
      obtain ⟨e1, w1, v1⟩ := T.ok
      obtain ⟨e2, w2, v2⟩ := Tb.ok
      have hw : wgt c = 0 := by unfold wgt; rw [if_pos hc]
      refine ⟨⟨d, .sum d e1 e2 c q b hc w1 v1 w2 v2, .inl ⟨Nat.zero_le _, rfl⟩⟩, (T.goes.trans g).trans Tb.goes, ?_⟩
      have e : tk (.mk c 0 [] 0 [] q b) = tkP 0 q (tk q) ++ [mk1 (signT c)] ++ tkP 1 b (tk b) := by
        conv => lhs; unfold tk
        rw [if_neg (by omega), if_neg (by omega), if_neg (by omega), if_neg (by omega), if_neg (by omega), if_pos (by omega), hw]
      have h1 := T.few
      have h2 := Tb.few
      unfold cost at *
      conv => lhs; unfold tkP
      rw [if_pos (Nat.zero_le _), e]
      simp only [List.length_append, List.length_cons, List.length_nil]
      omega
    unfold chainR at h
    split at h
    · rename_i h1
      obtain ⟨g, n⟩ := has_goes (by decide) h1
      obtain ⟨b, l', hb, h⟩ := andThen_inv h
      exact sumC_inv ho hf f l' _ q' r h (step 13 (.inl rfl) b l' hb g n)
    · split at h
      · rename_i h1
        obtain ⟨g, n⟩ := has_goes (by decide) h1
        obtain ⟨b, l', hb, h⟩ := andThen_inv h
        exact sumC_inv ho hf f l' _ q' r h (step 14 (.inr rfl) b l' hb g n)
      · cases h
        exact T

theorem sumR_inv {d : Nat} {one : List Tok → Res Q} (ho : ∀ l q r, FitL l → one l = .ok q r → Told d 2 l q r) {l : List Tok} {q : Q} {r : List Tok} (hf : FitL l) (h : sumR one l = .ok q r) : Told d 0 l q r := by
  obtain ⟨p, l1, h1, h⟩ := andThen_inv h
  have T := prodR_inv ho hf h1
  have hc : cost 0 p ≤ cost 1 p := cost_le 0 p
  have hw := T.few
  exact sumC_inv (fun l q r hl he => prodR_inv ho hl he) hf _ _ _ _ _ h ⟨T.ok.less, T.goes, by omega⟩

theorem oneR_inv : ∀ (d : Nat) (l : List Tok) (q : Q) (r : List Tok), FitL l → oneR d l = .ok q r → Told d 2 l q r
  | 0, _, _, _, _, h => by cases h
  | d + 1, l, q, r, hf, h => by
    have ih := oneR_inv d
    unfold oneR at h
    split at h
    · rename_i h1
      obtain ⟨g, n⟩ := has_goes (by decide) h1
      obtain ⟨p, l1, hp, h⟩ := andThen_inv h
      cases h
      have T := ih l.tail p r (hf.go g) hp
      obtain ⟨e, w, v⟩ := T.ok
      refine ⟨⟨d + 1, .neg d e p w v, .inl ⟨by show 2 ≤ wgt 12; decide, rfl⟩⟩, g.trans T.goes, ?_⟩
      have h2 := T.few
      have e2 : cost 2 (.mk 12 0 [] 0 [] p .none) = 1 + cost 2 p := by
        show (mk1 45 :: tkP 2 p (tk p)).length = _
        simp [cost]; omega
      omega
    · split at h
      · rename_i h1
        obtain ⟨g, n⟩ := has_goes (by decide) h1
        obtain ⟨p, l1, hp, h⟩ := andThen_inv h
        obtain ⟨_, l2, h2, h⟩ := andThen_inv h
        cases h
        obtain ⟨g2, n2⟩ := need_inv (by decide) h2
        have T := sumR_inv ih (hf.go g) hp
        have hc := cost_par 2 q
        have hw := T.few
        rw [cost_zero] at hw
        exact ⟨OkP.par T.ok.w 2, (g.trans T.goes).trans g2, by omega⟩
      · split at h
        · obtain ⟨m, l1, h1, h⟩ := andThen_inv h
          cases h
          obtain ⟨a, g, n⟩ := someR_inv h1
          refine ⟨⟨d + 1, .pick d m a, .inl ⟨by show 2 ≤ wgt 2; decide, rfl⟩⟩, g, ?_⟩
          show (tkM m).length + _ ≤ _
          omega
        · split at h
          · obtain ⟨k, l1, h1, h⟩ := andThen_inv h
            cases h
            obtain ⟨a, b, g, n⟩ := numR_inv hf h1
            refine ⟨⟨d + 1, .num d k a b, .inl ⟨by show 2 ≤ wgt 1; decide, rfl⟩⟩, g, ?_⟩
            show 1 + _ ≤ _
            omega
          · split at h
            · rename_i hc
              exact overR_inv hc hf h
            · split at h
              · rename_i hc
                exact ofR_inv (fun l q r hl he => sumR_inv ih hl he) hc hf h
              · cases h

/- Tokens. -/

theorem cutF_inv : ∀ (f : Nat) (r : List UInt8) (p : Int) (out l : List Tok), cutF f r p out = .inl l → r.length ≤ 1000000000 → out.length ≤ 120 → FitL out → Ends l ∧ l.length ≤ 121 ∧ FitL l
  | 0, _, _, _, _, h, _, _, _ => by cases h
  | f + 1, [], p, out, l, h, _, ho, hf => by
    have e : l = out ++ [⟨4, ⟨#[]⟩, p⟩] := by cases h; rfl
    subst e
    refine ⟨⟨out, p, rfl⟩, by simp; omega, fun t ht => ?_⟩
    rcases List.mem_append.1 ht with ht | ht
    · exact hf t ht
    · have : t = ⟨4, ⟨#[]⟩, p⟩ := by simpa using ht
      subst this
      exact ⟨fun e => (by cases e), fun e => (by cases e), by simp⟩
  | f + 1, c :: t, p, out, l, h, hr, ho, hf => by
    rw [cutF_cons] at h
    split at h
    · exact cutF_inv f t (p + 1) out l h (by simp only [List.length_cons] at hr; omega) ho hf
    · split at h
      · cases h
      · split at h
        · cases h
        · rename_i h32 h0 hlim
          have hne : ¬ out.length = 120 := fun e => hlim (.inr e)
          refine cutF_inv f _ _ _ l h (by simp only [List.length_drop]; omega) (by simp; omega) fun u hu => ?_
          rcases List.mem_append.1 hu with hu | hu
          · exact hf u hu
          · have e : u = ⟨(lex (c :: t)).1, ⟨((c :: t).take (lex (c :: t)).2).toArray⟩, p⟩ := by simpa using hu
            subst e
            refine ⟨fun hk => ?_, fun hk => ?_, by show ((c :: t).take (lex (c :: t)).2).length ≤ _; rw [List.length_take]; omega⟩
            rotate_left
            · have hk' : (lex (c :: t)).1 = 2 := hk
              have hlen : ∀ (x : List UInt8), 0 ≤ Lib.indexByte x 34 → Lib.indexByte x 34 < x.length := fun x => by
                induction x with
                | nil => intro h; exact absurd h (by decide)
                | cons a x ih =>
                  show 0 ≤ (if (a == 34) = true then (0 : Int) else if (Lib.indexByte x 34 == -1) = true then -1 else Lib.indexByte x 34 + 1) → (if (a == 34) = true then (0 : Int) else if (Lib.indexByte x 34 == -1) = true then -1 else Lib.indexByte x 34 + 1) < _
                  have hg := Lib.indexByte_ge x 34
                  split
                  · intro _; simp only [List.length_cons]; omega
                  · split
                    · intro h; omega
                    · rename_i h1
                      have h2 : Lib.indexByte x 34 ≠ -1 := by simpa using h1
                      intro h
                      have := ih (by omega)
                      simp only [List.length_cons]; omega
              show 2 ≤ ((c :: t).take (lex (c :: t)).2).length
              rw [List.length_take]
              have h02 := h0
              rw [lex_cons] at hk' h02 ⊢
              split at hk'
              · cases hk'
              · split at hk'
                · cases hk'
                · split at hk'
                  · rename_i h1 h2 h3
                    rw [if_neg h1, if_neg h2, if_pos h3] at h02 ⊢
                    simp only [quoted] at h02 ⊢
                    split at h02
                    · exact absurd rfl h02
                    · rename_i h4
                      rw [if_neg h4]
                      have := hlen t (by omega)
                      simp only [List.length_cons]
                      omega
                  · cases hk'
            have hk' : (lex (c :: t)).1 = 1 := hk
            have h18 : ¬ 18 < (lex (c :: t)).2 := fun e => hlim (.inl ⟨hk', e⟩)
            refine ⟨fun d hd' => ?_, by simp; omega, by simpa using h0⟩
            have hd2 : d ∈ (c :: t).take (lex (c :: t)).2 := hd'
            rw [lex_cons] at hk' hd2
            split at hk'
            · cases hk'
            · split at hk'
              · rename_i h1 h2
                rw [if_neg h1, if_pos h2] at hd2
                have : ∀ (x : List UInt8), ∀ d ∈ x.take (x.takeWhile isD).length, isD d = true := fun x => by
                  induction x with
                  | nil => simp
                  | cons a x ih =>
                    rw [List.takeWhile_cons]
                    split
                    · rename_i ha
                      intro d hd'
                      rcases List.mem_cons.1 (by simpa using hd') with rfl | h
                      · exact ha
                      · exact ih d h
                    · simp
                exact this _ d hd2
              · split at hk' <;> cases hk'

theorem cut_inv {r : List UInt8} {l : List Tok} (h : cut r = .inl l) (hr : r.length ≤ 1000000000) : Ends l ∧ l.length ≤ 121 ∧ FitL l := cutF_inv _ r 0 [] l h hr (by simp) (by simp [FitL])

theorem read_inv {α : Type} {f : List Tok → Res α} {r : List UInt8} {a : α} {l' : List Tok} (h : read f r = .ok a l') : ∃ l, cut r = .inl l ∧ f l = .ok a l' := by
  unfold read at h
  split at h
  · rename_i l hl
    obtain ⟨b, l1, h1, h2⟩ := andThen_inv h
    split at h2
    · cases h2
      exact ⟨l, hl, h1⟩
    · cases h2
  · cases h

theorem read_lx {α : Type} {f : List Tok → Res α} {r : List UInt8} {ts : List Tk} {a : α} (h : Lx r ts) (hn : ts.length ≤ 120) (hf : ∀ l T, sl l = ts ++ T → (∃ p, T = [(4, p)] ∧ p = ⟨#[]⟩) → ∃ l', f l = .ok a l' ∧ sl l' = T) : ∃ l', read f r = .ok a l' := by
  obtain ⟨l, p, e, s⟩ := h.cut (r.length + 1) 0 [] (by omega) (by simpa using hn)
  have e' : cut r = .inl (l ++ [⟨4, ⟨#[]⟩, p⟩]) := e
  have s' : sl (l ++ [⟨4, ⟨#[]⟩, p⟩]) = ts ++ [(4, ⟨#[]⟩)] := by
    have : sl (l ++ [⟨4, ⟨#[]⟩, p⟩]) = sl l ++ [(4, ⟨#[]⟩)] := by simp [sl]
    rw [this, s]
  obtain ⟨l', e2, s2⟩ := hf _ _ s' ⟨_, rfl, rfl⟩
  refine ⟨l', ?_⟩
  unfold read
  rw [e']
  show whole f _ = _
  unfold whole
  rw [e2]
  show (if (hd l').kind = 4 then _ else _) = _
  rw [if_pos (sl_cons s2).1]

/-- How many parts a question has. -/
def parts : Q → Nat
  | .none => 0
  | .mk _ _ _ _ _ l r => 1 + parts l + parts r

theorem parts_le {d : Nat} {q : Q} (h : OkW d q) : parts q ≤ (tk q).length := by
  have up : ∀ (k : Nat) (q : Q), (tk q).length ≤ (tkP k q (tk q)).length := fun k q => by
    unfold tkP; split
    · exact Nat.le_refl _
    · simp; omega
  induction h with
  | num d n h h' => exact Nat.le_refl _
  | pick d m h => simp [parts, tk, tkM]
  | over d c m sp hc h hs =>
    have e2 : tk (.mk c 0 m sp [] .none .none) = tkW c :: mk1 40 :: tkM m ++ [mk1 91, tkN sp, mk1 93, mk1 41] := by
      unfold tk; rw [if_neg (by omega), if_neg (by omega), if_pos hc]
    rw [e2]; simp [parts]
  | of d e c nm q hc hn _ he ih =>
    have e2 : tk (.mk c 0 [] 0 nm q .none) = tkW c :: mk1 40 :: tkP 0 q (tk q) ++ [mk1 41] ++ tkBy nm := by
      conv => lhs; unfold tk
      rw [if_neg (by omega), if_neg (by omega), if_neg (by omega), if_pos hc]
    have := up 0 q
    rw [e2]
    simp only [parts, List.length_append, List.length_cons, List.length_nil]
    omega
  | neg d e q _ he ih =>
    have := up 2 q
    show 1 + parts q + 0 ≤ (mk1 45 :: tkP 2 q (tk q)).length
    simp only [List.length_cons]
    omega
  | sum d e f c l r hc _ he _ hf ihl ihr =>
    have e2 : tk (.mk c 0 [] 0 [] l r) = tkP (wgt c) l (tk l) ++ [mk1 (signT c)] ++ tkP (wgt c + 1) r (tk r) := by
      conv => lhs; unfold tk
      rw [if_neg (by omega), if_neg (by omega), if_neg (by omega), if_neg (by omega), if_neg (by omega), if_pos (by omega)]
    have h1 := up (wgt c) l
    have h2 := up (wgt c + 1) r
    rw [e2]
    simp only [parts, List.length_append, List.length_cons, List.length_nil]
    omega
  | prod d e f c l r hc _ he _ hf ihl ihr =>
    have e2 : tk (.mk c 0 [] 0 [] l r) = tkP (wgt c) l (tk l) ++ [mk1 (signT c)] ++ tkP (wgt c + 1) r (tk r) := by
      conv => lhs; unfold tk
      rw [if_neg (by omega), if_neg (by omega), if_neg (by omega), if_neg (by omega), if_neg (by omega), if_pos (by omega)]
    have h1 := up (wgt c) l
    have h2 := up (wgt c + 1) r
    rw [e2]
    simp only [parts, List.length_append, List.length_cons, List.length_nil]
    omega

/- How long it is. -/

theorem name_len {s : ByteArray} (h : LB.name s = true) : s.data.toList.length ≤ 24 := by
  unfold LB.name at h
  simp only [decide_eq_true_eq] at h
  have : s.data.toList.length = s.size := by simp
  omega
theorem valu_len {s : ByteArray} (h : LB.valu s = true) : s.data.toList.length ≤ 24 := by
  unfold LB.valu at h
  simp only [decide_eq_true_eq] at h
  have : s.data.toList.length = s.size := by simp
  omega
theorem item_len {m : LB.Mat} (hm : matOk m) : (item m).length ≤ 60 := by
  have h1 := name_len hm.1
  have h2 := valu_len hm.2.2.2
  have h3 : (opT m.op).length ≤ 2 := by
    have e : m.op = 0 ∨ m.op = 1 ∨ m.op = 2 ∨ m.op = 3 := by omega
    rcases e with e | e | e | e <;> rw [e] <;> decide
  unfold item
  simp only [List.length_append, List.length_cons, List.length_nil]
  omega
theorem mat_len {l : List LB.Mat} (hl : matsOk l) : (matT l).length ≤ 600 := by
  have h : ∀ r : List LB.Mat, (∀ x ∈ r, matOk x) → (r.flatMap fun x => 44 :: item x).length ≤ 61 * r.length := fun r => by
    induction r with
    | nil => intro _; simp
    | cons y r ih =>
      intro hr
      have h1 := ih fun x hx => hr x (by simp [hx])
      have h2 := item_len (hr y (by simp))
      rw [List.flatMap_cons, List.length_append]
      simp only [List.length_cons]
      omega
  cases l with
  | nil => simp [matT, itemsT]
  | cons m r =>
    have h1 := h r fun x hx => hl.2 x (by simp [hx])
    have h2 := item_len (hl.2 m (by simp))
    have h3 := hl.1
    simp only [List.length_cons] at h3
    unfold matT itemsT
    simp only [List.length_append, List.length_cons, List.length_nil]
    omega
theorem by_len {l : List ByteArray} (hl : namesOk l) : (byT l).length ≤ 300 := by
  have h : ∀ r : List ByteArray, (∀ x ∈ r, LB.name x = true) → (Lib.joinTail [44, 32] (r.map (·.data.toList))).length ≤ 26 * r.length := fun r => by
    induction r with
    | nil => intro _; simp [Lib.joinTail]
    | cons y r ih =>
      intro hr
      have h1 := ih fun x hx => hr x (by simp [hx])
      have h2 := name_len (hr y (by simp))
      unfold Lib.joinTail at *
      simp only [List.map_cons, List.flatten_cons, List.length_append, List.length_cons, List.length_nil] at *
      omega
  unfold byT
  cases l with
  | nil => simp
  | cons x r =>
    have h1 := h r fun y hy => hl.2 y (by simp [hy])
    have h2 := name_len (hl.2 x (by simp))
    have h3 := hl.1
    simp only [List.length_cons] at h3
    rw [if_neg (by simp), List.map_cons, Lib.join_cons]
    simp only [List.length_append, List.length_cons, List.length_nil]
    omega
theorem word_len {c : Int} (hc : 3 ≤ c ∧ c ≤ 11) : (wordT c).length ≤ 5 := by
  have e : c = 3 ∨ c = 4 ∨ c = 5 ∨ c = 6 ∨ c = 7 ∨ c = 8 ∨ c = 9 ∨ c = 10 ∨ c = 11 := by omega
  rcases e with rfl | rfl | rfl | rfl | rfl | rfl | rfl | rfl | rfl <;> decide

theorem par_len (k : Nat) (q : Q) (t : List UInt8) : (parT k q t).length ≤ t.length + 2 := by
  unfold parT
  split
  · omega
  · simp

theorem txt_len {d : Nat} {q : Q} (h : OkW d q) : (txt q).length ≤ 1000 * parts q := by
  induction h with
  | num d n h h' =>
    have := (itoa_facts h h').2.2.1
    show (Lib.itoa n).length ≤ 1000 * 1
    omega
  | pick d m h =>
    have := mat_len h
    show (matT m).length ≤ 1000 * 1
    omega
  | over d c m sp hc h hs =>
    have e1 : txt (.mk c 0 m sp [] .none .none) = wordT c ++ [40] ++ matT m ++ [91] ++ Lib.itoa sp ++ [93, 41] := by
      unfold txt; rw [if_neg (by omega), if_neg (by omega), if_pos hc]
    have h1 := mat_len h
    have h2 := (itoa_facts (n := sp) (by omega) (by omega)).2.2.1
    have h3 := word_len (c := c) (by omega)
    rw [e1]
    simp only [parts, List.length_append, List.length_cons, List.length_nil]
    omega
  | of d e c nm q hc hn _ he ih =>
    have e1 : txt (.mk c 0 [] 0 nm q .none) = wordT c ++ [40] ++ parT 0 q (txt q) ++ [41] ++ byT nm := by
      conv => lhs; unfold txt
      rw [if_neg (by omega), if_neg (by omega), if_neg (by omega), if_pos hc]
    have h1 := by_len hn
    have h2 := par_len 0 q (txt q)
    have h3 := word_len (c := c) (by omega)
    rw [e1]
    simp only [parts, List.length_append, List.length_cons, List.length_nil]
    omega
  | neg d e q _ he ih =>
    have h2 := par_len 2 q (txt q)
    show (45 :: parT 2 q (txt q)).length ≤ 1000 * (1 + parts q + 0)
    simp only [List.length_cons]
    omega
  | sum d e f c l r hc _ he _ hf ihl ihr =>
    have e1 : txt (.mk c 0 [] 0 [] l r) = parT (wgt c) l (txt l) ++ [32, signT c, 32] ++ parT (wgt c + 1) r (txt r) := by
      conv => lhs; unfold txt
      rw [if_neg (by omega), if_neg (by omega), if_neg (by omega), if_neg (by omega), if_neg (by omega), if_pos (by omega)]
    have h1 := par_len (wgt c) l (txt l)
    have h2 := par_len (wgt c + 1) r (txt r)
    rw [e1]
    simp only [parts, List.length_append, List.length_cons, List.length_nil]
    omega
  | prod d e f c l r hc _ he _ hf ihl ihr =>
    have e1 : txt (.mk c 0 [] 0 [] l r) = parT (wgt c) l (txt l) ++ [32, signT c, 32] ++ parT (wgt c + 1) r (txt r) := by
      conv => lhs; unfold txt
      rw [if_neg (by omega), if_neg (by omega), if_neg (by omega), if_neg (by omega), if_neg (by omega), if_pos (by omega)]
    have h1 := par_len (wgt c) l (txt l)
    have h2 := par_len (wgt c + 1) r (txt r)
    rw [e1]
    simp only [parts, List.length_append, List.length_cons, List.length_nil]
    omega

/-- What is printed asks just what was asked. -/
theorem parse_back {s : List UInt8} {q : Q} {l : List Tok} (h : parse s = .ok q l) (hs : s.length ≤ 1000000000) : OkW 9 q ∧ (tk q).length ≤ 120 ∧ ∃ l', parse (print q) = .ok q l' := by
  obtain ⟨t, h1, h2⟩ := read_inv h
  obtain ⟨he, hn, hf⟩ := cut_inv h1 hs
  have T := sumR_inv (oneR_inv 9) hf h2
  have hl := (T.goes.ends he).pos
  have hw := T.ok.w
  have hfew := T.few
  rw [cost_zero] at hfew
  have e : print q = txt q := by unfold print parT; rw [if_pos (Nat.zero_le _)]
  refine ⟨hw, by omega, ?_⟩
  have lx : Lx (print q) (tk q) := by
    have := lx_txt hw Lx.nil Sf.nil
    rw [e]; simpa using this
  refine read_lx lx (by omega) fun l T hs hT => ?_
  obtain ⟨p, rfl, rfl⟩ := hT
  exact (read_tk hw).2.2.done hs (NT.cons (by decide)) fun k x T' e => by cases e; decide

theorem match_back {s : List UInt8} {m : List LB.Mat} {l : List Tok} (h : matchR s = .ok m l) (hs : s.length ≤ 1000000000) : matsOk m ∧ ∃ l', matchR (matT m) = .ok m l' := by
  obtain ⟨t, h1, h2⟩ := read_inv h
  obtain ⟨he, hn, hf⟩ := cut_inv h1 hs
  obtain ⟨hm, g, hl⟩ := someR_inv h2
  have hp := (g.ends he).pos
  refine ⟨hm, ?_⟩
  have lx : Lx (matT m) (tkM m) := by
    have := lx_mat hm Lx.nil
    simpa using this
  exact read_lx lx (by omega) fun l T hs _ => someR_of hm hs

end AQ
end Go.Proofs.YtdmnlmohfaafoaeDoor
