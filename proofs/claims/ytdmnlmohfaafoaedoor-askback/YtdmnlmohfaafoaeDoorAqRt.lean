/- The program's questions, plain: what is printed is read as just what it was. Names no function. -/
import Derived.Test.YtdmnlmohfaafoaeDoorAqLex
namespace Go.Proofs.YtdmnlmohfaafoaeDoor
namespace AQ

def matsOk (m : List LB.Mat) : Prop := m.length ≤ 8 ∧ ∀ x ∈ m, LB.name x.nm = true ∧ 0 ≤ x.op ∧ x.op < 4 ∧ LB.valu x.vl = true
def namesOk (l : List ByteArray) : Prop := l.length ≤ 8 ∧ ∀ x ∈ l, LB.name x = true

/-- Where a part stands: bare, or in brackets and one deeper. -/
def Lv (d k e : Nat) (q : Q) : Prop := (k ≤ wgt q.code ∧ e = d) ∨ (wgt q.code < k ∧ e + 1 = d)

/-- Questions that may be told, with so many more that a ONE of them may stand in. -/
inductive OkW : Nat → Q → Prop
  | num (d : Nat) (n : Int) (h : 0 ≤ n) (h' : n < 1000000000000000000) : OkW (d + 1) (.mk 1 n [] 0 [] .none .none)
  | pick (d : Nat) (m : List LB.Mat) (h : matsOk m) : OkW (d + 1) (.mk 2 0 m 300 [] .none .none)
  | over (d : Nat) (c : Int) (m : List LB.Mat) (sp : Int) (hc : 3 ≤ c ∧ c ≤ 7) (h : matsOk m) (hs : 1 ≤ sp ∧ sp ≤ 1099511627776) : OkW (d + 1) (.mk c 0 m sp [] .none .none)
  | of (d e : Nat) (c : Int) (nm : List ByteArray) (q : Q) (hc : 8 ≤ c ∧ c ≤ 11) (hn : namesOk nm) (h : OkW e q) (he : Lv d 0 e q) : OkW (d + 1) (.mk c 0 [] 0 nm q .none)
  | neg (d e : Nat) (q : Q) (h : OkW e q) (he : Lv d 2 e q) : OkW (d + 1) (.mk 12 0 [] 0 [] q .none)
  | sum (d e f : Nat) (c : Int) (l r : Q) (hc : c = 13 ∨ c = 14) (hl : OkW e l) (he : Lv d 0 e l) (hr : OkW f r) (hf : Lv d 1 f r) : OkW d (.mk c 0 [] 0 [] l r)
  | prod (d e f : Nat) (c : Int) (l r : Q) (hc : c = 15 ∨ c = 16) (hl : OkW e l) (he : Lv d 1 e l) (hr : OkW f r) (hf : Lv d 2 f r) : OkW d (.mk c 0 [] 0 [] l r)

def OkP (d k : Nat) (q : Q) : Prop := ∃ e, OkW e q ∧ Lv d k e q

theorem Lv.up {d k e : Nat} {q : Q} (h : Lv d k e q) : Lv (d + 1) k (e + 1) q := by
  rcases h with ⟨h1, h2⟩ | ⟨h1, h2⟩
  · exact .inl ⟨h1, by omega⟩
  · exact .inr ⟨h1, by omega⟩

theorem OkW.up {d : Nat} {q : Q} (h : OkW d q) : OkW (d + 1) q := by
  induction h with
  | num d n h h' => exact .num _ n h h'
  | pick d m h => exact .pick _ m h
  | over d c m sp hc h hs => exact .over _ c m sp hc h hs
  | of d e c nm q hc hn _ he ih => exact .of _ _ c nm q hc hn ih he.up
  | neg d e q _ he ih => exact .neg _ _ q ih he.up
  | sum d e f c l r hc _ he _ hf ihl ihr => exact .sum _ _ _ c l r hc ihl he.up ihr hf.up
  | prod d e f c l r hc _ he _ hf ihl ihr => exact .prod _ _ _ c l r hc ihl he.up ihr hf.up

theorem OkP.less {d k : Nat} {q : Q} (h : OkP d (k + 1) q) : OkP d k q := by
  obtain ⟨e, hw, h | h⟩ := h
  · exact ⟨e, hw, .inl ⟨by omega, h.2⟩⟩
  · by_cases hk : k ≤ wgt q.code
    · exact ⟨e + 1, hw.up, .inl ⟨hk, h.2⟩⟩
    · exact ⟨e, hw, .inr ⟨by omega, h.2⟩⟩
theorem OkP.bare {d : Nat} {q : Q} (h : OkW d q) : OkP d 0 q := ⟨d, h, .inl ⟨Nat.zero_le _, rfl⟩⟩
theorem OkP.w {d : Nat} {q : Q} (h : OkP d 0 q) : OkW d q := by
  obtain ⟨e, hw, h | h⟩ := h
  · rw [← h.2]; exact hw
  · exact absurd h.1 (Nat.not_lt_zero _)
/-- In brackets one deeper it may stand anywhere. -/
theorem OkP.par {d : Nat} {q : Q} (h : OkW d q) (k : Nat) : OkP (d + 1) k q := by
  by_cases hk : k ≤ wgt q.code
  · exact ⟨d + 1, h.up, .inl ⟨hk, rfl⟩⟩
  · exact ⟨d, h, .inr ⟨by omega, rfl⟩⟩

/- The tokens of what is printed. -/

def tkI (m : LB.Mat) : List Tk := [(0, m.nm), (3, ops.getD m.op.toNat ⟨#[]⟩), (2, ⟨(34 :: m.vl.data.toList ++ [34]).toArray⟩)]
def tkIs : List LB.Mat → List Tk
  | [] => []
  | m :: r => tkI m ++ (r.flatMap fun x => mk1 44 :: tkI x)
def tkM (l : List LB.Mat) : List Tk := mk1 123 :: tkIs l ++ [mk1 125]
def tkN (n : Int) : Tk := (1, ⟨(Lib.itoa n).toArray⟩)
def tkNs : List ByteArray → List Tk
  | [] => []
  | x :: r => (0, x) :: (r.flatMap fun y => [mk1 44, (0, y)])
def byW : ByteArray := ⟨#[98, 121]⟩
def tkBy (l : List ByteArray) : List Tk := if l = [] then [] else [(0, byW), mk1 40] ++ tkNs l ++ [mk1 41]
def tkP (k : Nat) (q : Q) (t : List Tk) : List Tk := if k ≤ wgt q.code then t else mk1 40 :: t ++ [mk1 41]
def tkW (c : Int) : Tk := (0, words.getD (c - 3).toNat ⟨#[]⟩)

def tk : Q → List Tk
  | .none => []
  | .mk c n m sp nm l r =>
    if c = 1 then [tkN n]
    else if c = 2 then tkM m
    else if 3 ≤ c ∧ c ≤ 7 then tkW c :: mk1 40 :: tkM m ++ [mk1 91, tkN sp, mk1 93, mk1 41]
    else if 8 ≤ c ∧ c ≤ 11 then tkW c :: mk1 40 :: tkP 0 l (tk l) ++ [mk1 41] ++ tkBy nm
    else if c = 12 then mk1 45 :: tkP 2 l (tk l)
    else if 13 ≤ c ∧ c ≤ 16 then tkP (wgt c) l (tk l) ++ [mk1 (signT c)] ++ tkP (wgt c + 1) r (tk r)
    else []

/- .. are the tokens of the text. -/

theorem sf_mark {R : List UInt8} : Sf (61 :: R) ∧ Sf (33 :: R) ∧ Sf (94 :: R) ∧ Sf (40 :: R) ∧ Sf (41 :: R) ∧ Sf (44 :: R) ∧ Sf (93 :: R) ∧ Sf (32 :: R) ∧ Sf (125 :: R) :=
  ⟨Sf.cons (by decide), Sf.cons (by decide), Sf.cons (by decide), Sf.cons (by decide), Sf.cons (by decide), Sf.cons (by decide), Sf.cons (by decide), Sf.cons (by decide), Sf.cons (by decide)⟩

theorem lx_op {o : Int} (h0 : 0 ≤ o) (h4 : o < 4) {R : List UInt8} {ts : List Tk} (h : Lx R ts) : Lx (opT o ++ R) ((3, ops.getD o.toNat ⟨#[]⟩) :: ts) ∧ Sf (opT o ++ R) := by
  have e : o = 0 ∨ o = 1 ∨ o = 2 ∨ o = 3 := by omega
  rcases e with rfl | rfl | rfl | rfl
  · exact ⟨h.mark (by decide) lex_1.1, sf_mark.1⟩
  · exact ⟨Lx.ahead (x := [33, 61]) h (by simp) (by simp) lex_2.1 (by intro e; cases e), sf_mark.2.1⟩
  · exact ⟨Lx.ahead (x := [94, 61]) h (by simp) (by simp) lex_2.2.1 (by intro e; cases e), sf_mark.2.2.1⟩
  · exact ⟨Lx.ahead (x := [33, 94]) h (by simp) (by simp) lex_2.2.2 (by intro e; cases e), sf_mark.2.1⟩

theorem lx_name {s : ByteArray} (hs : LB.name s = true) {R : List UInt8} {ts : List Tk} (h : Lx R ts) (hR : Sf R) : Lx (s.data.toList ++ R) ((0, s) :: ts) := by
  have := h.word hR (name_word hs)
  simpa using this

theorem lx_item {m : LB.Mat} (hm : LB.name m.nm = true ∧ 0 ≤ m.op ∧ m.op < 4 ∧ LB.valu m.vl = true) {R : List UInt8} {ts : List Tk} (h : Lx R ts) : Lx (item m ++ R) (tkI m ++ ts) := by
  have h1 := h.text (valu_no hm.2.2.2)
  obtain ⟨h2, s2⟩ := lx_op hm.2.1 hm.2.2.1 h1
  have h3 := lx_name hm.1 h2 s2
  have e : item m ++ R = m.nm.data.toList ++ (opT m.op ++ ((34 :: m.vl.data.toList ++ [34]) ++ R)) := by simp [item]
  rw [e]
  exact h3

theorem lx_items : ∀ (l : List LB.Mat), (∀ x ∈ l, LB.name x.nm = true ∧ 0 ≤ x.op ∧ x.op < 4 ∧ LB.valu x.vl = true) → ∀ {R : List UInt8} {ts : List Tk}, Lx R ts → Lx ((l.flatMap fun x => 44 :: item x) ++ R) ((l.flatMap fun x => mk1 44 :: tkI x) ++ ts)
  | [], _, _, _, h => h
  | m :: l, hl, R, ts, h => by
    have h1 := lx_items l (fun x hx => hl x (by simp [hx])) h
    have h2 := (lx_item (hl m (by simp)) h1).mark (c := 44) (by decide) lex_1.2.2.2.2.2.2.2.1
    simpa using h2

theorem lx_mat {l : List LB.Mat} (hl : matsOk l) {R : List UInt8} {ts : List Tk} (h : Lx R ts) : Lx (matT l ++ R) (tkM l ++ ts) := by
  have h0 := h.mark (c := 125) (by decide) lex_1.2.2.1
  have h1 : Lx (itemsT l ++ 125 :: R) (tkIs l ++ mk1 125 :: ts) := by
    cases l with
    | nil => exact h0
    | cons m r =>
      have h2 := lx_items r (fun x hx => hl.2 x (by simp [hx])) h0
      have h3 := lx_item (hl.2 m (by simp)) h2
      simpa [itemsT, tkIs] using h3
  have h2 := h1.mark (c := 123) (by decide) lex_1.2.1
  simpa [matT, tkM] using h2

theorem lx_num {n : Int} (h0 : 0 ≤ n) (h1 : n < 1000000000000000000) {R : List UInt8} {ts : List Tk} (h : Lx R ts) (hR : Sf R) : Lx (Lib.itoa n ++ R) (tkN n :: ts) := by
  obtain ⟨a, b, c, _⟩ := itoa_facts h0 h1
  exact h.num hR a b c

theorem lx_names : ∀ (l : List ByteArray), (∀ x ∈ l, LB.name x = true) → ∀ {R : List UInt8} {ts : List Tk}, Lx R ts → Sf R → Lx (Lib.joinTail [44, 32] (l.map (·.data.toList)) ++ R) ((l.flatMap fun y => [mk1 44, (0, y)]) ++ ts) ∧ Sf (Lib.joinTail [44, 32] (l.map (·.data.toList)) ++ R)
  | [], _, _, _, h, hs => ⟨h, hs⟩
  | x :: l, hl, R, ts, h, hs => by
    obtain ⟨h1, s1⟩ := lx_names l (fun y hy => hl y (by simp [hy])) h hs
    have h2 := (lx_name (hl x (by simp)) h1 s1).blank.mark (c := 44) (by decide) lex_1.2.2.2.2.2.2.2.1
    refine ⟨by simpa [Lib.joinTail] using h2, ?_⟩
    have : Lib.joinTail [44, 32] ((x :: l).map (·.data.toList)) ++ R = 44 :: (32 :: (x.data.toList ++ (Lib.joinTail [44, 32] (l.map (·.data.toList)) ++ R))) := by simp [Lib.joinTail]
    rw [this]
    exact sf_mark.2.2.2.2.2.1

theorem lx_by {l : List ByteArray} (hl : namesOk l) {R : List UInt8} {ts : List Tk} (h : Lx R ts) : Lx (byT l ++ R) (tkBy l ++ ts) ∧ (Sf R → Sf (byT l ++ R)) := by
  unfold byT tkBy
  cases l with
  | nil => exact ⟨h, fun s => s⟩
  | cons x r =>
    rw [if_neg (by simp), if_neg (by simp)]
    have h0 := h.mark (c := 41) (by decide) lex_1.2.2.2.2.2.2.1
    obtain ⟨h1, s1⟩ := lx_names r (fun y hy => hl.2 y (by simp [hy])) h0 sf_mark.2.2.2.2.1
    have h2 := ((lx_name (hl.2 x (by simp)) h1 s1).mark (c := 40) (by decide) lex_1.2.2.2.2.2.1).blank
    have h3 := (h2.word (x := [98, 121]) sf_mark.2.2.2.2.2.2.2.1 ⟨98, [121], rfl, by decide, by decide⟩).blank
    refine ⟨?_, fun _ => sf_mark.2.2.2.2.2.2.2.1⟩
    rw [List.map_cons, Lib.join_cons]
    simpa [tkNs, byW] using h3

theorem lx_par {k : Nat} {q : Q} {R : List UInt8} {ts : List Tk} (h : Lx R ts) (hR : Sf R) (hq : ∀ {R : List UInt8} {ts : List Tk}, Lx R ts → Sf R → Lx (txt q ++ R) (tk q ++ ts)) : Lx (parT k q (txt q) ++ R) (tkP k q (tk q) ++ ts) := by
  unfold parT tkP
  split
  · exact hq h hR
  · have h1 := (hq (h.mark (c := 41) (by decide) lex_1.2.2.2.2.2.2.1) sf_mark.2.2.2.2.1).mark (c := 40) (by decide) lex_1.2.2.2.2.2.1
    simpa using h1

theorem word_at {c : Int} (hc : 3 ≤ c ∧ c ≤ 11) : ∃ d t, wordT c = d :: t ∧ isL d = true ∧ ∀ x ∈ t, (isL x || isD x) = true := by
  have e : c = 3 ∨ c = 4 ∨ c = 5 ∨ c = 6 ∨ c = 7 ∨ c = 8 ∨ c = 9 ∨ c = 10 ∨ c = 11 := by omega
  rcases e with rfl | rfl | rfl | rfl | rfl | rfl | rfl | rfl | rfl <;> exact ⟨_, _, rfl, by decide, by decide⟩

theorem lx_word {c : Int} (hc : 3 ≤ c ∧ c ≤ 11) {R : List UInt8} {ts : List Tk} (h : Lx R ts) (hR : Sf R) : Lx (wordT c ++ R) (tkW c :: ts) := by
  have := h.word hR (word_at hc)
  simpa [wordT, tkW] using this

theorem lx_txt {d : Nat} {q : Q} (hq : OkW d q) : ∀ {R : List UInt8} {ts : List Tk}, Lx R ts → Sf R → Lx (txt q ++ R) (tk q ++ ts) := by
  induction hq with
  | num d n h h' => exact fun hR hs => lx_num h h' hR hs
  | pick d m h => exact fun hR _ => lx_mat h hR
  | over d c m sp hc h hs =>
    intro R ts hR _
    have e1 : txt (.mk c 0 m sp [] .none .none) = wordT c ++ [40] ++ matT m ++ [91] ++ Lib.itoa sp ++ [93, 41] := by
      unfold txt; rw [if_neg (by omega), if_neg (by omega), if_pos hc]
    have e2 : tk (.mk c 0 m sp [] .none .none) = tkW c :: mk1 40 :: tkM m ++ [mk1 91, tkN sp, mk1 93, mk1 41] := by
      unfold tk; rw [if_neg (by omega), if_neg (by omega), if_pos hc]
    have h1 := (hR.mark (c := 41) (by decide) lex_1.2.2.2.2.2.2.1).mark (c := 93) (by decide) lex_1.2.2.2.2.1
    have h2 := (lx_num (n := sp) (by omega) (by omega) h1 sf_mark.2.2.2.2.2.2.1).mark (c := 91) (by decide) lex_1.2.2.2.1
    have h3 := (lx_mat h h2).mark (c := 40) (by decide) lex_1.2.2.2.2.2.1
    have h4 := lx_word (c := c) (by omega) h3 sf_mark.2.2.2.1
    rw [e1, e2]
    simpa using h4
  | of d e c nm q hc hn _ he ih =>
    intro R ts hR hs
    have e1 : txt (.mk c 0 [] 0 nm q .none) = wordT c ++ [40] ++ parT 0 q (txt q) ++ [41] ++ byT nm := by
      conv => lhs; unfold txt
      rw [if_neg (by omega), if_neg (by omega), if_neg (by omega), if_pos hc]
    have e2 : tk (.mk c 0 [] 0 nm q .none) = tkW c :: mk1 40 :: tkP 0 q (tk q) ++ [mk1 41] ++ tkBy nm := by
      conv => lhs; unfold tk
      rw [if_neg (by omega), if_neg (by omega), if_neg (by omega), if_pos hc]
    have h1 := (lx_by hn hR).1.mark (c := 41) (by decide) lex_1.2.2.2.2.2.2.1
    have h2 := (lx_par (k := 0) h1 sf_mark.2.2.2.2.1 ih).mark (c := 40) (by decide) lex_1.2.2.2.2.2.1
    have h3 := lx_word (c := c) (by omega) h2 sf_mark.2.2.2.1
    rw [e1, e2]
    simpa using h3
  | neg d e q _ he ih =>
    intro R ts hR hs
    exact (lx_par (k := 2) hR hs ih).mark (c := 45) (by decide) lex_1.2.2.2.2.2.2.2.2.2.1
  | sum d e f c l r hc _ he _ hf ihl ihr =>
    intro R ts hR hs
    have e1 : txt (.mk c 0 [] 0 [] l r) = parT (wgt c) l (txt l) ++ [32, signT c, 32] ++ parT (wgt c + 1) r (txt r) := by
      conv => lhs; unfold txt
      rw [if_neg (by omega), if_neg (by omega), if_neg (by omega), if_neg (by omega), if_neg (by omega), if_pos (by omega)]
    have e2 : tk (.mk c 0 [] 0 [] l r) = tkP (wgt c) l (tk l) ++ [mk1 (signT c)] ++ tkP (wgt c + 1) r (tk r) := by
      conv => lhs; unfold tk
      rw [if_neg (by omega), if_neg (by omega), if_neg (by omega), if_neg (by omega), if_neg (by omega), if_pos (by omega)]
    have h1 := (lx_par (k := wgt c + 1) hR hs ihr).blank
    have h2 : Lx (signT c :: 32 :: (parT (wgt c + 1) r (txt r) ++ R)) (mk1 (signT c) :: (tkP (wgt c + 1) r (tk r) ++ ts)) := by
      rcases hc with rfl | rfl
      · exact h1.mark (by decide) lex_1.2.2.2.2.2.2.2.2.1
      · exact h1.mark (by decide) lex_1.2.2.2.2.2.2.2.2.2.1
    have h3 := lx_par (k := wgt c) (q := l) h2.blank sf_mark.2.2.2.2.2.2.2.1 ihl
    rw [e1, e2]
    simpa using h3
  | prod d e f c l r hc _ he _ hf ihl ihr =>
    intro R ts hR hs
    have e1 : txt (.mk c 0 [] 0 [] l r) = parT (wgt c) l (txt l) ++ [32, signT c, 32] ++ parT (wgt c + 1) r (txt r) := by
      conv => lhs; unfold txt
      rw [if_neg (by omega), if_neg (by omega), if_neg (by omega), if_neg (by omega), if_neg (by omega), if_pos (by omega)]
    have e2 : tk (.mk c 0 [] 0 [] l r) = tkP (wgt c) l (tk l) ++ [mk1 (signT c)] ++ tkP (wgt c + 1) r (tk r) := by
      conv => lhs; unfold tk
      rw [if_neg (by omega), if_neg (by omega), if_neg (by omega), if_neg (by omega), if_neg (by omega), if_pos (by omega)]
    have h1 := (lx_par (k := wgt c + 1) hR hs ihr).blank
    have h2 : Lx (signT c :: 32 :: (parT (wgt c + 1) r (txt r) ++ R)) (mk1 (signT c) :: (tkP (wgt c + 1) r (tk r) ++ ts)) := by
      rcases hc with rfl | rfl
      · exact h1.mark (by decide) lex_1.2.2.2.2.2.2.2.2.2.2.1
      · exact h1.mark (by decide) lex_1.2.2.2.2.2.2.2.2.2.2.2
    have h3 := lx_par (k := wgt c) (q := l) h2.blank sf_mark.2.2.2.2.2.2.2.1 ihl
    rw [e1, e2]
    simpa using h3

end AQ
end Go.Proofs.YtdmnlmohfaafoaeDoor
