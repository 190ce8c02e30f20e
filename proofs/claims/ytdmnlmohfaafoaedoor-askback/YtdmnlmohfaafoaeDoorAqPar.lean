/- The program's questions, plain: the tokens of what is printed are read as just what it was. Names no function. -/
import Derived.Test.YtdmnlmohfaafoaeDoorAqRt
namespace Go.Proofs.YtdmnlmohfaafoaeDoor
namespace AQ

theorem sl_cons {l : List Tok} {k : Int} {x : ByteArray} {T : List Tk} (h : sl l = (k, x) :: T) : (hd l).kind = k ∧ (hd l).said = x ∧ sl l.tail = T := by
  cases l with
  | nil => cases h
  | cons t r =>
    simp only [sl, List.map_cons, List.cons.injEq, Prod.mk.injEq] at h
    exact ⟨h.1.1, h.1.2, h.2⟩

theorem sl_len (l : List Tok) : (sl l).length = l.length := List.length_map _

theorem has_of {l : List Tok} {k : Int} {x : ByteArray} {T : List Tk} (h : sl l = (k, x) :: T) (y : ByteArray) : has y l = decide (x = y) := by
  unfold has; rw [(sl_cons h).2.1]
theorem need_of {l : List Tok} {k : Int} {x : ByteArray} {T : List Tk} (h : sl l = (k, x) :: T) : need x l = .ok () l.tail := by
  unfold need; rw [has_of h, decide_eq_true rfl]; rfl
theorem needK_of {l : List Tok} {k : Int} {x : ByteArray} {T : List Tk} (h : sl l = (k, x) :: T) : needK k l = .ok (hd l) l.tail := by
  unfold needK; rw [if_pos (sl_cons h).1]

theorem nameR_of {l : List Tok} {x : ByteArray} {T : List Tk} (h : sl l = (0, x) :: T) (hx : LB.name x = true) : nameR l = .ok x l.tail := by
  unfold nameR
  rw [needK_of h]
  show (if LB.name (hd l).said then Res.ok (hd l).said l.tail else _) = _
  rw [(sl_cons h).2.1, if_pos hx]

theorem opR_of {l : List Tok} {o : Int} {T : List Tk} (h0 : 0 ≤ o) (h4 : o < 4) (h : sl l = (3, ops.getD o.toNat ⟨#[]⟩) :: T) : opR l = .ok o l.tail := by
  have e : o = 0 ∨ o = 1 ∨ o = 2 ∨ o = 3 := by omega
  have hh := has_of h
  unfold opR ops
  simp only [opFrom, hh]
  rcases e with rfl | rfl | rfl | rfl <;> rfl

theorem val_of (v : ByteArray) : (⟨(34 :: v.data.toList ++ [34]).toArray⟩ : ByteArray).extract 1 ((⟨(34 :: v.data.toList ++ [34]).toArray⟩ : ByteArray).size - 1) = v := by
  apply LB.toList_inj
  rw [Lib.toList_data, Lib.toList_data]
  have hs : (⟨(34 :: v.data.toList ++ [34]).toArray⟩ : ByteArray).size = v.data.toList.length + 2 := by
    show (34 :: v.data.toList ++ [34]).toArray.size = _
    simp
  rw [hs]
  simp

theorem matR_of {l : List Tok} {m : LB.Mat} {T : List Tk} (hm : LB.name m.nm = true ∧ 0 ≤ m.op ∧ m.op < 4 ∧ LB.valu m.vl = true) (h : sl l = tkI m ++ T) : ∃ l', matR l = .ok m l' ∧ sl l' = T := by
  have h1 : sl l = (0, m.nm) :: (3, ops.getD m.op.toNat ⟨#[]⟩) :: (2, ⟨(34 :: m.vl.data.toList ++ [34]).toArray⟩) :: T := h
  have h2 := (sl_cons h1).2.2
  have h3 := (sl_cons h2).2.2
  have h4 := (sl_cons h3).2.2
  refine ⟨l.tail.tail.tail, ?_, h4⟩
  unfold matR
  rw [nameR_of h1 hm.1]
  show (opR l.tail).andThen _ = _
  rw [opR_of hm.2.1 hm.2.2.1 h2]
  show (needK 2 l.tail.tail).andThen _ = _
  rw [needK_of h3]
  have e : valOf (hd l.tail.tail) = m.vl := by unfold valOf; rw [(sl_cons h3).2.1]; exact val_of m.vl
  show (if LB.valu (valOf (hd l.tail.tail)) then Res.ok (⟨m.nm, m.op, valOf (hd l.tail.tail)⟩ : LB.Mat) l.tail.tail.tail else _) = _
  rw [e, if_pos hm.2.2.2]

theorem loopM_of : ∀ (r : List LB.Mat) (m : LB.Mat) (f : Nat) (l : List Tok) (out : List LB.Mat) (T : List Tk), (∀ x ∈ m :: r, LB.name x.nm = true ∧ 0 ≤ x.op ∧ x.op < 4 ∧ LB.valu x.vl = true) → out.length + (m :: r).length ≤ 8 → r.length < f → sl l = tkI m ++ (r.flatMap fun x => mk1 44 :: tkI x) ++ mk1 125 :: T → ∃ l', loopM f l out = .ok (out ++ m :: r) l' ∧ sl l' = T
  | r, m, f, l, out, T, hm, hlen, hf, h => by
    obtain ⟨g, rfl⟩ : ∃ g, f = g + 1 := ⟨f - 1, by omega⟩
    simp only [List.length_cons] at hlen
    rw [List.append_assoc] at h
    obtain ⟨l1, e1, s1⟩ := matR_of (hm m (by simp)) h
    have e : loopM (g + 1) l out = if has ⟨#[44]⟩ l1 then loopM g l1.tail (out ++ [m]) else (need ⟨#[125]⟩ l1).andThen fun _ r' => .ok (out ++ [m]) r' := by
      show (if out.length = 8 then _ else (matR l).andThen _) = _
      rw [if_neg (by omega), e1]; rfl
    rw [e]
    match r, hm, hlen, hf, s1 with
    | [], _, _, _, s1 =>
      have s1' : sl l1 = mk1 125 :: T := s1
      rw [has_of s1', if_neg (by decide), need_of s1']
      exact ⟨l1.tail, rfl, (sl_cons s1').2.2⟩
    | x :: r, hm, hlen, hf, s1 =>
      have s1' : sl l1 = mk1 44 :: (tkI x ++ (r.flatMap fun x => mk1 44 :: tkI x) ++ mk1 125 :: T) := by
        rw [s1]; simp
      rw [has_of s1', if_pos (by decide)]
      simp only [List.length_cons] at hlen hf
      obtain ⟨l', e2, s2⟩ := loopM_of r x g l1.tail (out ++ [m]) T (fun y hy => hm y (by simp only [List.mem_cons] at hy ⊢; exact .inr hy)) (by simp only [List.length_append, List.length_cons, List.length_nil]; omega) (by omega) (sl_cons s1').2.2
      exact ⟨l', by rw [e2]; simp, s2⟩

theorem someR_of {l : List Tok} {m : List LB.Mat} {T : List Tk} (hm : matsOk m) (h : sl l = tkM m ++ T) : ∃ l', someR l = .ok m l' ∧ sl l' = T := by
  have h1 : sl l = mk1 123 :: (tkIs m ++ mk1 125 :: T) := by rw [h]; simp [tkM]
  have e : someR l = if has ⟨#[125]⟩ l.tail then .ok [] l.tail.tail else loopM 9 l.tail [] := by
    unfold someR; rw [need_of h1]; rfl
  have h2 := (sl_cons h1).2.2
  rw [e]
  cases m with
  | nil =>
    have h3 : sl l.tail = mk1 125 :: T := h2
    rw [has_of h3, if_pos (by decide)]
    exact ⟨_, rfl, (sl_cons h3).2.2⟩
  | cons x r =>
    have h3 : sl l.tail = tkI x ++ (r.flatMap fun x => mk1 44 :: tkI x) ++ mk1 125 :: T := h2
    have hne : ¬ x.nm = (⟨#[125]⟩ : ByteArray) := fun e => by
      have := (hm.2 x (by simp)).1
      rw [e] at this
      exact absurd this (by decide)
    have h4 : sl l.tail = (0, x.nm) :: ((tkI x).tail ++ (r.flatMap fun x => mk1 44 :: tkI x) ++ mk1 125 :: T) := h3
    rw [has_of h4, if_neg (by simpa using hne)]
    have hl := hm.1
    simp only [List.length_cons] at hl
    exact loopM_of r x 9 l.tail [] T hm.2 (by simpa using hl) (by omega) h3

theorem numR_of {l : List Tok} {n : Int} {T : List Tk} (h0 : 0 ≤ n) (h1 : n < 1000000000000000000) (h : sl l = tkN n :: T) : numR l = .ok n l.tail := by
  unfold numR
  rw [needK_of h]
  show Res.ok (digs (hd l).said.data.toList 0) l.tail = _
  rw [(sl_cons h).2.1]
  have := (itoa_facts h0 h1).2.2.2
  show Res.ok (digs (Lib.itoa n) 0) _ = _
  rw [this]

theorem spanR_of {l : List Tok} {n : Int} {T : List Tk} (h0 : 1 ≤ n) (h1 : n ≤ 1099511627776) (h : sl l = tkN n :: T) : spanR l = .ok n l.tail := by
  unfold spanR
  rw [numR_of (by omega) (by omega) h]
  show (if 1099511627776 < n then _ else Res.ok (max n 1) l.tail) = _
  rw [if_neg (by omega), show max n 1 = n by omega]

theorem loopN_of : ∀ (r : List ByteArray) (x : ByteArray) (f : Nat) (l : List Tok) (out : List ByteArray) (T : List Tk), (∀ y ∈ x :: r, LB.name y = true) → out.length + (x :: r).length ≤ 8 → r.length < f → sl l = (0, x) :: (r.flatMap fun y => [mk1 44, (0, y)]) ++ mk1 41 :: T → ∃ l', loopN f l out = .ok (out ++ x :: r) l' ∧ sl l' = T
  | r, x, f, l, out, T, hx, hlen, hf, h => by
    obtain ⟨g, rfl⟩ : ∃ g, f = g + 1 := ⟨f - 1, by omega⟩
    simp only [List.length_cons] at hlen
    have s1 := (sl_cons h).2.2
    have e : loopN (g + 1) l out = if has ⟨#[44]⟩ l.tail then loopN g l.tail.tail (out ++ [x]) else (need ⟨#[41]⟩ l.tail).andThen fun _ r' => .ok (out ++ [x]) r' := by
      show (nameR l).andThen _ = _
      rw [nameR_of h (hx x (by simp))]
      show (if out.length = 8 then _ else _) = _
      rw [if_neg (by omega)]
    rw [e]
    match r, hx, hlen, hf, s1 with
    | [], _, _, _, s1 =>
      have s1' : sl l.tail = mk1 41 :: T := s1
      rw [has_of s1', if_neg (by decide), need_of s1']
      exact ⟨_, rfl, (sl_cons s1').2.2⟩
    | y :: r, hx, hlen, hf, s1 =>
      have s1' : sl l.tail = mk1 44 :: ((0, y) :: (r.flatMap fun y => [mk1 44, (0, y)]) ++ mk1 41 :: T) := by
        rw [s1]; simp
      rw [has_of s1', if_pos (by decide)]
      simp only [List.length_cons] at hlen hf
      obtain ⟨l', e2, s2⟩ := loopN_of r y g l.tail.tail (out ++ [x]) T (fun z hz => hx z (by simp only [List.mem_cons] at hz ⊢; exact .inr hz)) (by simp only [List.length_append, List.length_cons, List.length_nil]; omega) (by omega) (sl_cons s1').2.2
      exact ⟨l', by rw [e2]; simp, s2⟩

/-- What does not go on a ONE; a PROD. -/
def NB (T : List Tk) : Prop := ∀ k x T', T = (k, x) :: T' → x ≠ byW
def NT (T : List Tk) : Prop := NB T ∧ ∀ k x T', T = (k, x) :: T' → x ≠ ⟨#[42]⟩ ∧ x ≠ ⟨#[47]⟩

theorem NB.cons {k : Int} {x : ByteArray} {T : List Tk} (h : x ≠ byW) : NB ((k, x) :: T) := fun _ _ _ e => by cases e; exact h
theorem NT.cons {k : Int} {x : ByteArray} {T : List Tk} (h : x ≠ byW ∧ x ≠ ⟨#[42]⟩ ∧ x ≠ ⟨#[47]⟩) : NT ((k, x) :: T) := ⟨NB.cons h.1, fun _ _ _ e => by cases e; exact h.2⟩

theorem has_nil {l : List Tok} {T : List Tk} (h : sl l = T) {y : ByteArray} (hy : y ≠ ⟨#[]⟩) (hT : ∀ k x T', T = (k, x) :: T' → x ≠ y) : has y l = false := by
  cases T with
  | nil =>
    have : l = [] := by cases l with
      | nil => rfl
      | cons t r => cases h
    subst this
    unfold has hd noTok
    simpa using fun e => hy e.symm
  | cons a T' =>
    obtain ⟨k, x⟩ := a
    rw [has_of h]
    simpa using hT k x T' rfl

/-- A question's tokens, read as a ONE, a PROD, a SUM. -/
def IsO (d : Nat) (q : Q) (ts : List Tk) : Prop := ∀ (l : List Tok) (T : List Tk), sl l = ts ++ T → NB T → ∃ l', oneR d l = .ok q l' ∧ sl l' = T
def IsP (d : Nat) (q : Q) (ts : List Tk) : Prop := ∀ (l : List Tok) (T : List Tk), sl l = ts ++ T → NB T → ∃ l' f, prodR (oneR d) l = chainR (oneR d) ⟨#[42]⟩ ⟨#[47]⟩ 15 f l' q ∧ sl l' = T ∧ l'.length < f
def IsS (d : Nat) (q : Q) (ts : List Tk) : Prop := ∀ (l : List Tok) (T : List Tk), sl l = ts ++ T → NT T → ∃ l' f, sumR (oneR d) l = chainR (prodR (oneR d)) ⟨#[43]⟩ ⟨#[45]⟩ 13 f l' q ∧ sl l' = T ∧ l'.length < f

theorem IsO.p {d : Nat} {q : Q} {ts : List Tk} (h : IsO d q ts) : IsP d q ts := fun l T hl hT => by
  obtain ⟨l', e, s⟩ := h l T hl hT
  refine ⟨l', l'.length + 1, ?_, s, by omega⟩
  unfold prodR; rw [e]; rfl

theorem IsP.done {d : Nat} {q : Q} {ts : List Tk} (h : IsP d q ts) {l : List Tok} {T : List Tk} (hl : sl l = ts ++ T) (hT : NT T) : ∃ l', prodR (oneR d) l = .ok q l' ∧ sl l' = T := by
  obtain ⟨l', f, e, s, hf⟩ := h l T hl hT.1
  obtain ⟨g, rfl⟩ : ∃ g, f = g + 1 := ⟨f - 1, by omega⟩
  refine ⟨l', ?_, s⟩
  rw [e]
  unfold chainR
  rw [has_nil s (by decide) fun k x T' e => (hT.2 k x T' e).1, has_nil s (by decide) fun k x T' e => (hT.2 k x T' e).2]
  rfl

theorem IsP.s {d : Nat} {q : Q} {ts : List Tk} (h : IsP d q ts) : IsS d q ts := fun l T hl hT => by
  obtain ⟨l', e, s⟩ := h.done hl hT
  refine ⟨l', l'.length + 1, ?_, s, by omega⟩
  unfold sumR; rw [e]; rfl

theorem IsS.done {d : Nat} {q : Q} {ts : List Tk} (h : IsS d q ts) {l : List Tok} {T : List Tk} (hl : sl l = ts ++ T) (hT : NT T) (hT' : ∀ k x T', T = (k, x) :: T' → x ≠ ⟨#[43]⟩ ∧ x ≠ ⟨#[45]⟩) : ∃ l', sumR (oneR d) l = .ok q l' ∧ sl l' = T := by
  obtain ⟨l', f, e, s, hf⟩ := h l T hl hT
  obtain ⟨g, rfl⟩ : ∃ g, f = g + 1 := ⟨f - 1, by omega⟩
  refine ⟨l', ?_, s⟩
  rw [e]
  unfold chainR
  rw [has_nil s (by decide) fun k x T' e => (hT' k x T' e).1, has_nil s (by decide) fun k x T' e => (hT' k x T' e).2]
  rfl

/-- In brackets. -/
theorem IsS.par {d : Nat} {q : Q} {ts : List Tk} (h : IsS d q ts) : IsO (d + 1) q (mk1 40 :: ts ++ [mk1 41]) := fun l T hl _ => by
  have h1 : sl l = mk1 40 :: (ts ++ mk1 41 :: T) := by rw [hl]; simp
  obtain ⟨l', e, s⟩ := h.done (sl_cons h1).2.2 (NT.cons (by decide)) (fun k x T' e => by cases e; decide)
  refine ⟨l'.tail, ?_, (sl_cons s).2.2⟩
  unfold oneR
  rw [has_of h1, if_neg (by decide), has_of h1, if_pos (by decide), e]
  show (need ⟨#[41]⟩ l').andThen _ = _
  rw [need_of s]
  rfl

theorem word_code {c : Int} (hc : 3 ≤ c ∧ c ≤ 11) : codeOf (tkW c).2 = c ∧ (tkW c).2 ≠ ⟨#[45]⟩ ∧ (tkW c).2 ≠ ⟨#[40]⟩ ∧ (tkW c).2 ≠ ⟨#[123]⟩ := by
  have e : c = 3 ∨ c = 4 ∨ c = 5 ∨ c = 6 ∨ c = 7 ∨ c = 8 ∨ c = 9 ∨ c = 10 ∨ c = 11 := by omega
  rcases e with rfl | rfl | rfl | rfl | rfl | rfl | rfl | rfl | rfl <;> decide

theorem oneR_word {d : Nat} {c : Int} (hc : 3 ≤ c ∧ c ≤ 11) {l : List Tok} {T : List Tk} (h : sl l = tkW c :: T) : oneR (d + 1) l = if c ≤ 7 then overR c l else ofR (sumR (oneR d)) c l := by
  obtain ⟨h1, h2, h3, h4⟩ := word_code hc
  have h' : sl l = (0, (tkW c).2) :: T := h
  have hk := (sl_cons h').1
  have hs := (sl_cons h').2.1
  unfold oneR
  rw [has_of h', if_neg (by simpa using h2), has_of h', if_neg (by simpa using h3), has_of h', if_neg (by simpa using h4), hk, if_neg (by decide), hs, h1]
  by_cases h7 : c ≤ 7
  · rw [if_pos ⟨hc.1, h7⟩, if_pos h7]
  · rw [if_neg (by omega), if_pos (by omega), if_neg h7]

/-- What has brackets or not, by what is read of it. -/
theorem lift2 {d e : Nat} {q : Q} (he : Lv d 2 e q) (hO : wgt q.code = 2 → IsO e q (tk q)) (hS : IsS e q (tk q)) : IsO d q (tkP 2 q (tk q)) := by
  have hw : wgt q.code ≤ 2 := by unfold wgt; split; · omega
                                 split <;> omega
  unfold tkP
  rcases he with ⟨h, rfl⟩ | ⟨h, rfl⟩
  · rw [if_pos h]; exact hO (by omega)
  · rw [if_neg (by omega)]; exact hS.par
theorem lift1 {d e : Nat} {q : Q} (he : Lv d 1 e q) (hP : 1 ≤ wgt q.code → IsP e q (tk q)) (hS : IsS e q (tk q)) : IsP d q (tkP 1 q (tk q)) := by
  unfold tkP
  rcases he with ⟨h, rfl⟩ | ⟨h, rfl⟩
  · rw [if_pos h]; exact hP h
  · rw [if_neg (by omega)]; exact hS.par.p
theorem lift0 {d e : Nat} {q : Q} (he : Lv d 0 e q) (hS : IsS e q (tk q)) : IsS d q (tkP 0 q (tk q)) := by
  unfold tkP
  rcases he with ⟨h, rfl⟩ | ⟨h, rfl⟩
  · rw [if_pos h]; exact hS
  · exact absurd h (Nat.not_lt_zero _)

theorem chainR_x {below : List Tok → Res Q} {x y : ByteArray} {c : Int} {f : Nat} {l l' : List Tok} {a b : Q} (hx : has x l = true) (hb : below l.tail = .ok b l') : chainR below x y c (f + 1) l a = chainR below x y c f l' (.mk c 0 [] 0 [] a b) := by
  conv => lhs; unfold chainR
  rw [if_pos hx, hb]; rfl
theorem chainR_y {below : List Tok → Res Q} {x y : ByteArray} {c : Int} {f : Nat} {l l' : List Tok} {a b : Q} (hx : has x l = false) (hy : has y l = true) (hb : below l.tail = .ok b l') : chainR below x y c (f + 1) l a = chainR below x y c f l' (.mk (c + 1) 0 [] 0 [] a b) := by
  conv => lhs; unfold chainR
  rw [if_neg (by rw [hx]; decide), if_pos hy, hb]; rfl

theorem read_tk {d : Nat} {q : Q} (hq : OkW d q) : (wgt q.code = 2 → IsO d q (tk q)) ∧ (1 ≤ wgt q.code → IsP d q (tk q)) ∧ IsS d q (tk q) := by
  have all : ∀ {d : Nat} {q : Q}, IsO d q (tk q) → (wgt q.code = 2 → IsO d q (tk q)) ∧ (1 ≤ wgt q.code → IsP d q (tk q)) ∧ IsS d q (tk q) := fun h => ⟨fun _ => h, fun _ => h.p, h.p.s⟩
  induction hq with
  | num d n h h' =>
    refine all fun l T hl _ => ?_
    have h1 : sl l = tkN n :: T := hl
    have hn : ∀ y : ByteArray, (∀ c t, y.data.toList = c :: t → isD c = false) → has y l = false := fun y hy => by
      rw [has_of h1]
      simp only [decide_eq_false_iff_not]
      intro e
      obtain ⟨a, b, _⟩ := itoa_facts h h'
      have e' : Lib.itoa n = y.data.toList := by rw [← e]
      cases e2 : Lib.itoa n with
      | nil => exact a e2
      | cons c t =>
        have := b c (by rw [e2]; simp)
        rw [hy c t (e'.symm.trans e2)] at this
        cases this
    refine ⟨l.tail, ?_, (sl_cons h1).2.2⟩
    unfold oneR
    rw [hn _ (by intro c t e; cases e; decide), if_neg (by decide), hn _ (by intro c t e; cases e; decide), if_neg (by decide), hn _ (by intro c t e; cases e; decide), if_neg (by decide), if_pos (sl_cons h1).1, numR_of h h' h1]
    rfl
  | pick d m h =>
    refine all fun l T hl _ => ?_
    have h0 : sl l = tkM m ++ T := hl
    have h1 : sl l = mk1 123 :: (tkIs m ++ [mk1 125] ++ T) := h0
    obtain ⟨l', e, s⟩ := someR_of h h0
    refine ⟨l', ?_, s⟩
    unfold oneR
    rw [has_of h1, if_neg (by decide), has_of h1, if_neg (by decide), has_of h1, if_pos (by decide), e]
    rfl
  | over d c m sp hc h hs =>
    have hw : 3 ≤ c ∧ c ≤ 11 := by omega
    refine all fun l T hl _ => ?_
    have e2 : tk (.mk c 0 m sp [] .none .none) = tkW c :: mk1 40 :: tkM m ++ [mk1 91, tkN sp, mk1 93, mk1 41] := by
      unfold tk; rw [if_neg (by omega), if_neg (by omega), if_pos hc]
    rw [e2] at hl
    have h1 : sl l = tkW c :: mk1 40 :: (tkM m ++ (mk1 91 :: tkN sp :: mk1 93 :: mk1 41 :: T)) := by rw [hl]; simp
    have h2 := (sl_cons h1).2.2
    have h3 := (sl_cons h2).2.2
    obtain ⟨l3, e3, h4⟩ := someR_of h h3
    have h5 := (sl_cons h4).2.2
    have h6 := (sl_cons h5).2.2
    have h7 := (sl_cons h6).2.2
    have h8 := (sl_cons h7).2.2
    refine ⟨l3.tail.tail.tail.tail, ?_, h8⟩
    rw [oneR_word hw h1, if_pos hc.2]
    unfold overR
    rw [needK_of h1]
    show (need ⟨#[40]⟩ l.tail).andThen _ = _
    rw [need_of h2]
    show (someR l.tail.tail).andThen _ = _
    rw [e3]
    show (need ⟨#[91]⟩ l3).andThen _ = _
    rw [need_of h4]
    show (spanR l3.tail).andThen _ = _
    rw [spanR_of hs.1 hs.2 h5]
    show (need ⟨#[93]⟩ l3.tail.tail).andThen _ = _
    rw [need_of h6]
    show (need ⟨#[41]⟩ l3.tail.tail.tail).andThen _ = _
    rw [need_of h7]
    rfl
  | of d e c nm q hc hn _ he ih =>
    have hw : 3 ≤ c ∧ c ≤ 11 := by omega
    refine all fun l T hl hT => ?_
    have e2 : tk (.mk c 0 [] 0 nm q .none) = tkW c :: mk1 40 :: tkP 0 q (tk q) ++ [mk1 41] ++ tkBy nm := by
      conv => lhs; unfold tk
      rw [if_neg (by omega), if_neg (by omega), if_neg (by omega), if_pos hc]
    rw [e2] at hl
    have h1 : sl l = tkW c :: mk1 40 :: (tkP 0 q (tk q) ++ (mk1 41 :: (tkBy nm ++ T))) := by rw [hl]; simp
    have h2 := (sl_cons h1).2.2
    have h3 := (sl_cons h2).2.2
    obtain ⟨l3, e3, h4⟩ := (lift0 he ih.2.2).done h3 (NT.cons (by decide)) (fun k x T' e => by cases e; decide)
    have h5 := (sl_cons h4).2.2
    have key : ofR (sumR (oneR d)) c l = if has ⟨#[98, 121]⟩ l3.tail then (namesR l3.tail.tail).andThen fun nm r5 => .ok (.mk c 0 [] 0 nm q .none) r5 else .ok (.mk c 0 [] 0 [] q .none) l3.tail := by
      unfold ofR
      rw [needK_of h1]
      show (need ⟨#[40]⟩ l.tail).andThen _ = _
      rw [need_of h2]
      show (sumR (oneR d) l.tail.tail).andThen _ = _
      rw [e3]
      show (need ⟨#[41]⟩ l3).andThen _ = _
      rw [need_of h4]
      rfl
    rw [oneR_word hw h1, if_neg (by omega), key]
    cases nm with
    | nil =>
      have h6 : sl l3.tail = T := h5
      have h7 : has ⟨#[98, 121]⟩ l3.tail = false := has_nil h6 (by decide) hT
      rw [h7]
      exact ⟨_, rfl, h6⟩
    | cons x r =>
      have h6 : sl l3.tail = (0, byW) :: mk1 40 :: ((0, x) :: (r.flatMap fun y => [mk1 44, (0, y)]) ++ mk1 41 :: T) := by rw [h5]; simp [tkBy, tkNs]
      have h7 := (sl_cons h6).2.2
      have h8 := (sl_cons h7).2.2
      have hl8 := hn.1
      simp only [List.length_cons] at hl8
      obtain ⟨l', e9, s9⟩ := loopN_of r x 9 l3.tail.tail.tail [] T hn.2 (by simpa using hl8) (by omega) h8
      refine ⟨l', ?_, s9⟩
      rw [has_of h6, if_pos (by decide)]
      unfold namesR
      rw [need_of h7]
      show (loopN 9 l3.tail.tail.tail []).andThen _ = _
      rw [e9]
      rfl
  | neg d e q _ he ih =>
    refine all fun l T hl hT => ?_
    have h1 : sl l = mk1 45 :: (tkP 2 q (tk q) ++ T) := hl
    obtain ⟨l', e, s⟩ := lift2 he ih.1 ih.2.2 l.tail T (sl_cons h1).2.2 hT
    refine ⟨l', ?_, s⟩
    unfold oneR
    rw [has_of h1, if_pos (by decide), e]
    rfl
  | sum d e f c l r hc _ he _ hf ihl ihr =>
    have hw : wgt (Q.mk c 0 [] 0 [] l r).code = 0 := by show wgt c = 0; unfold wgt; rw [if_pos hc]
    refine ⟨fun h => by omega, fun h => by omega, fun ll T hl hT => ?_⟩
    have e2 : tk (.mk c 0 [] 0 [] l r) = tkP 0 l (tk l) ++ [mk1 (signT c)] ++ tkP 1 r (tk r) := by
      conv => lhs; unfold tk
      rw [if_neg (by omega), if_neg (by omega), if_neg (by omega), if_neg (by omega), if_neg (by omega), if_pos (by omega), show wgt c = 0 from hw]
    rw [e2, List.append_assoc, List.append_assoc] at hl
    have hsg : (c = 13 ∧ signT c = 43) ∨ (c = 14 ∧ signT c = 45) := by
      rcases hc with rfl | rfl
      · exact .inl ⟨rfl, rfl⟩
      · exact .inr ⟨rfl, rfl⟩
    obtain ⟨l1, f1, e1, s1, hf1⟩ := lift0 he ihl.2.2 ll _ hl (by
      rcases hsg with ⟨_, h⟩ | ⟨_, h⟩ <;> (rw [h]; exact NT.cons (by decide)))
    have s1' : sl l1 = mk1 (signT c) :: (tkP 1 r (tk r) ++ T) := s1
    obtain ⟨l2, e3, s3⟩ := (lift1 hf ihr.2.1 ihr.2.2).done (sl_cons s1').2.2 hT
    obtain ⟨g, rfl⟩ : ∃ g, f1 = g + 1 := ⟨f1 - 1, by omega⟩
    have hlt : l2.length < g := by
      have h1 := sl_len l1
      have h2 := sl_len l2
      rw [s1'] at h1
      rw [s3] at h2
      simp only [List.length_cons, List.length_append] at h1
      omega
    refine ⟨l2, g, ?_, s3, hlt⟩
    rw [e1]
    rcases hsg with ⟨rfl, h⟩ | ⟨rfl, h⟩
    · rw [h] at s1'
      exact chainR_x (by rw [has_of s1']; decide) e3
    · rw [h] at s1'
      exact chainR_y (by rw [has_of s1']; decide) (by rw [has_of s1']; decide) e3
  | prod d e f c l r hc _ he _ hf ihl ihr =>
    have hw : wgt (Q.mk c 0 [] 0 [] l r).code = 1 := by show wgt c = 1; unfold wgt; rw [if_neg (by omega), if_pos hc]
    have key : IsP d (.mk c 0 [] 0 [] l r) (tk (.mk c 0 [] 0 [] l r)) := fun ll T hl hT => by
      have e2 : tk (.mk c 0 [] 0 [] l r) = tkP 1 l (tk l) ++ [mk1 (signT c)] ++ tkP 2 r (tk r) := by
        conv => lhs; unfold tk
        rw [if_neg (by omega), if_neg (by omega), if_neg (by omega), if_neg (by omega), if_neg (by omega), if_pos (by omega), show wgt c = 1 from hw]
      rw [e2, List.append_assoc, List.append_assoc] at hl
      have hsg : (c = 15 ∧ signT c = 42) ∨ (c = 16 ∧ signT c = 47) := by
        rcases hc with rfl | rfl
        · exact .inl ⟨rfl, rfl⟩
        · exact .inr ⟨rfl, rfl⟩
      obtain ⟨l1, f1, e1, s1, hf1⟩ := lift1 he ihl.2.1 ihl.2.2 ll _ hl (by
        rcases hsg with ⟨_, h⟩ | ⟨_, h⟩ <;> (rw [h]; exact NB.cons (by decide)))
      have s1' : sl l1 = mk1 (signT c) :: (tkP 2 r (tk r) ++ T) := s1
      obtain ⟨l2, e3, s3⟩ := lift2 hf ihr.1 ihr.2.2 l1.tail T (sl_cons s1').2.2 hT
      obtain ⟨g, rfl⟩ : ∃ g, f1 = g + 1 := ⟨f1 - 1, by omega⟩
      have hlt : l2.length < g := by
        have h1 := sl_len l1
        have h2 := sl_len l2
        rw [s1'] at h1
        rw [s3] at h2
        simp only [List.length_cons, List.length_append] at h1
        omega
      refine ⟨l2, g, ?_, s3, hlt⟩
      rw [e1]
      rcases hsg with ⟨rfl, h⟩ | ⟨rfl, h⟩
      · rw [h] at s1'
        exact chainR_x (by rw [has_of s1']; decide) e3
      · rw [h] at s1'
        exact chainR_y (by rw [has_of s1']; decide) (by rw [has_of s1']; decide) e3
    exact ⟨fun h => by omega, fun _ => key, key.s⟩

end AQ
end Go.Proofs.YtdmnlmohfaafoaeDoor
