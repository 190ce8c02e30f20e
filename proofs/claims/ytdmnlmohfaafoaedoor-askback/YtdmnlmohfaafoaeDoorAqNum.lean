/- The program's questions, plain: tokens, the reader that stops at the first thing that is wrong, and how a question is printed. Names no function. -/
import Derived.Test.YtdmnlmohfaafoaeDoorLbNum
import Derived.Lib.ItoaNum
import Derived.Lib.Bytealg
import Derived.Lib.Join
namespace Go.Proofs.YtdmnlmohfaafoaeDoor
namespace AQ

/-- A token: kinds 0 WORD, 1 NUMBER, 2 TEXT, 3 mark, 4 the end. -/
structure Tok where
  kind : Int
  said : ByteArray
  place : Int

/-- A question. -/
inductive Q where
  | none
  | mk (code num : Int) (m : List LB.Mat) (span : Int) (names : List ByteArray) (left right : Q)

/-- What is read, and what is left; or what is wrong, and where. -/
inductive Res (α : Type) where
  | ok (a : α) (l : List Tok)
  | bad (e p : Int)

def Res.andThen {α β : Type} (r : Res α) (f : α → List Tok → Res β) : Res β := match r with
  | .ok a l => f a l
  | .bad e p => .bad e p

def noTok : Tok := ⟨4, ⟨#[]⟩, 0⟩
def hd (l : List Tok) : Tok := l.headD noTok
def has (x : ByteArray) (l : List Tok) : Bool := decide ((hd l).said = x)
def need (x : ByteArray) (l : List Tok) : Res Unit := if has x l then .ok () l.tail else .bad 3 (hd l).place
def needK (k : Int) (l : List Tok) : Res Tok := if (hd l).kind = k then .ok (hd l) l.tail else .bad 3 (hd l).place
def nameR (l : List Tok) : Res ByteArray := (needK 0 l).andThen fun t r => if LB.name t.said then .ok t.said r else .bad 4 t.place

def ops : List ByteArray := [⟨#[61]⟩, ⟨#[33, 61]⟩, ⟨#[94, 61]⟩, ⟨#[33, 94]⟩]
def opFrom (l : List Tok) : List ByteArray → Int → Res Int
  | [], _ => .bad 3 (hd l).place
  | x :: r, i => if has x l then .ok i l.tail else opFrom l r (i + 1)
def opR (l : List Tok) : Res Int := opFrom l ops 0

def valOf (t : Tok) : ByteArray := t.said.extract 1 (t.said.size - 1)
def matR (l : List Tok) : Res LB.Mat := (nameR l).andThen fun n r => (opR r).andThen fun o r' => (needK 2 r').andThen fun t r'' => if LB.valu (valOf t) then .ok ⟨n, o, valOf t⟩ r'' else .bad 4 t.place

def loopM : Nat → List Tok → List LB.Mat → Res (List LB.Mat)
  | 0, _, _ => .bad 0 0
  | f + 1, l, out => if out.length = 8 then .bad 4 (hd l).place else (matR l).andThen fun m r => if has ⟨#[44]⟩ r then loopM f r.tail (out ++ [m]) else (need ⟨#[125]⟩ r).andThen fun _ r' => .ok (out ++ [m]) r'
def someR (l : List Tok) : Res (List LB.Mat) := (need ⟨#[123]⟩ l).andThen fun _ r => if has ⟨#[125]⟩ r then .ok [] r.tail else loopM 9 r []

/-- The number that digits are. -/
def digs : List UInt8 → Int → Int
  | [], n => n
  | c :: r, n => digs r (n * 10 + ((c.toNat : Int) - 48))
def numR (l : List Tok) : Res Int := (needK 1 l).andThen fun t r => .ok (digs t.said.data.toList 0) r
def spanR (l : List Tok) : Res Int := (numR l).andThen fun n r => if 1099511627776 < n then .bad 4 (hd l).place else .ok (max n 1) r

def loopN : Nat → List Tok → List ByteArray → Res (List ByteArray)
  | 0, _, _ => .bad 0 0
  | f + 1, l, out => (nameR l).andThen fun n r => if out.length = 8 then .bad 4 (hd l).place else if has ⟨#[44]⟩ r then loopN f r.tail (out ++ [n]) else (need ⟨#[41]⟩ r).andThen fun _ r' => .ok (out ++ [n]) r'
def namesR (l : List Tok) : Res (List ByteArray) := (need ⟨#[40]⟩ l).andThen fun _ r => loopN 9 r []

def words : List ByteArray := [⟨#[99, 111, 117, 110, 116]⟩, ⟨#[115, 117, 109]⟩, ⟨#[109, 105, 110]⟩, ⟨#[109, 97, 120]⟩, ⟨#[100, 101, 108, 116, 97]⟩, ⟨#[116, 111, 116, 97, 108]⟩, ⟨#[108, 101, 97, 115, 116]⟩, ⟨#[109, 111, 115, 116]⟩, ⟨#[109, 97, 110, 121]⟩]
def codeFrom (s : ByteArray) : List ByteArray → Int → Int
  | [], _ => 0
  | x :: r, i => if x = s then 3 + i else codeFrom s r (i + 1)
def codeOf (s : ByteArray) : Int := codeFrom s words 0

def overR (c : Int) (l : List Tok) : Res Q := (needK 0 l).andThen fun _ r1 => (need ⟨#[40]⟩ r1).andThen fun _ r2 => (someR r2).andThen fun m r3 => (need ⟨#[91]⟩ r3).andThen fun _ r4 => (spanR r4).andThen fun n r5 => (need ⟨#[93]⟩ r5).andThen fun _ r6 => (need ⟨#[41]⟩ r6).andThen fun _ r7 => .ok (.mk c 0 m n [] .none .none) r7
def ofR (sum : List Tok → Res Q) (c : Int) (l : List Tok) : Res Q := (needK 0 l).andThen fun _ r1 => (need ⟨#[40]⟩ r1).andThen fun _ r2 => (sum r2).andThen fun q r3 => (need ⟨#[41]⟩ r3).andThen fun _ r4 => if has ⟨#[98, 121]⟩ r4 then (namesR r4.tail).andThen fun nm r5 => .ok (.mk c 0 [] 0 nm q .none) r5 else .ok (.mk c 0 [] 0 [] q .none) r4

def chainR (below : List Tok → Res Q) (x y : ByteArray) (c : Int) : Nat → List Tok → Q → Res Q
  | 0, _, _ => .bad 0 0
  | f + 1, l, q => if has x l then (below l.tail).andThen fun b r => chainR below x y c f r (.mk c 0 [] 0 [] q b) else if has y l then (below l.tail).andThen fun b r => chainR below x y c f r (.mk (c + 1) 0 [] 0 [] q b) else .ok q l
def prodR (one : List Tok → Res Q) (l : List Tok) : Res Q := (one l).andThen fun q r => chainR one ⟨#[42]⟩ ⟨#[47]⟩ 15 (r.length + 1) r q
def sumR (one : List Tok → Res Q) (l : List Tok) : Res Q := (prodR one l).andThen fun q r => chainR (prodR one) ⟨#[43]⟩ ⟨#[45]⟩ 13 (r.length + 1) r q

/-- ONE, with so many more that it may stand in. -/
def oneR : Nat → List Tok → Res Q
  | 0, l => .bad 4 (hd l).place
  | d + 1, l =>
    if has ⟨#[45]⟩ l then (oneR d l.tail).andThen fun q r => .ok (.mk 12 0 [] 0 [] q .none) r
    else if has ⟨#[40]⟩ l then (sumR (oneR d) l.tail).andThen fun q r => (need ⟨#[41]⟩ r).andThen fun _ r' => .ok q r'
    else if has ⟨#[123]⟩ l then (someR l).andThen fun m r => .ok (.mk 2 0 m 300 [] .none .none) r
    else if (hd l).kind = 1 then (numR l).andThen fun n r => .ok (.mk 1 n [] 0 [] .none .none) r
    else if 3 ≤ codeOf (hd l).said ∧ codeOf (hd l).said ≤ 7 then overR (codeOf (hd l).said) l
    else if 8 ≤ codeOf (hd l).said ∧ codeOf (hd l).said ≤ 11 then ofR (sumR (oneR d)) (codeOf (hd l).said) l
    else .bad 3 (hd l).place

/-- All of it is read. -/
def whole {α : Type} (f : List Tok → Res α) (l : List Tok) : Res α := (f l).andThen fun a r => if (hd r).kind = 4 then .ok a r else .bad 3 (hd r).place

/- Tokens. -/

def marks : List (List UInt8) := [[33, 61], [94, 61], [33, 94], [61], [123], [125], [91], [93], [40], [41], [44], [43], [45], [42], [47]]
/-- How long the mark is that stands there (0: none). -/
def markFrom (r : List UInt8) : List (List UInt8) → Nat
  | [] => 0
  | m :: t => if m.isPrefixOf r then m.length else markFrom r t
def mark (r : List UInt8) : Nat := markFrom r marks

def isL (c : UInt8) : Bool := LB.letter c.toNat
def isD (c : UInt8) : Bool := LB.digit c.toNat
def quoted (t : List UInt8) : Nat := if Lib.indexByte t 34 < 0 then 0 else (Lib.indexByte t 34).toNat + 2

/-- The kind of the token that begins there, and how long it is (0: there is none such). -/
def lex : List UInt8 → Int × Nat
  | [] => (3, 0)
  | c :: t =>
    if isL c then (0, ((c :: t).takeWhile fun x => isL x || isD x).length)
    else if isD c then (1, ((c :: t).takeWhile isD).length)
    else if c = 34 then (2, quoted t)
    else (3, mark (c :: t))

theorem lex_cons (c : UInt8) (t : List UInt8) : lex (c :: t) = if isL c then (0, ((c :: t).takeWhile fun x => isL x || isD x).length) else if isD c then (1, ((c :: t).takeWhile isD).length) else if c = 34 then (2, quoted t) else (3, mark (c :: t)) := rfl

/-- The tokens of what is left, from a place on, behind those that are there already; or what is wrong. -/
def cutF : Nat → List UInt8 → Int → List Tok → List Tok ⊕ (Int × Int)
  | 0, _, _, _ => .inr (0, 0)
  | f + 1, r, p, out => match r with
    | [] => .inl (out ++ [⟨4, ⟨#[]⟩, p⟩])
    | c :: t =>
      if c = 32 then cutF f t (p + 1) out
      else if (lex (c :: t)).2 = 0 then .inr (3, p)
      else if ((lex (c :: t)).1 = 1 ∧ 18 < (lex (c :: t)).2) ∨ out.length = 120 then .inr (4, p)
      else cutF f ((c :: t).drop (lex (c :: t)).2) (p + (lex (c :: t)).2) (out ++ [⟨(lex (c :: t)).1, ⟨((c :: t).take (lex (c :: t)).2).toArray⟩, p⟩])
theorem cutF_cons (f : Nat) (c : UInt8) (t : List UInt8) (p : Int) (out : List Tok) : cutF (f + 1) (c :: t) p out = if c = 32 then cutF f t (p + 1) out else if (lex (c :: t)).2 = 0 then .inr (3, p) else if ((lex (c :: t)).1 = 1 ∧ 18 < (lex (c :: t)).2) ∨ out.length = 120 then .inr (4, p) else cutF f ((c :: t).drop (lex (c :: t)).2) (p + (lex (c :: t)).2) (out ++ [⟨(lex (c :: t)).1, ⟨((c :: t).take (lex (c :: t)).2).toArray⟩, p⟩]) := rfl
def cut (r : List UInt8) : List Tok ⊕ (Int × Int) := cutF (r.length + 1) r 0 []

/-- What a text is. -/
def read {α : Type} (f : List Tok → Res α) (r : List UInt8) : Res α := match cut r with
  | .inl l => whole f l
  | .inr (e, p) => .bad e p
def parse (r : List UInt8) : Res Q := read (sumR (oneR 9)) r
def matchR (r : List UInt8) : Res (List LB.Mat) := read someR r

/- How it is printed. -/

def opT (o : Int) : List UInt8 := if 0 ≤ o ∧ o < 4 then (ops.getD o.toNat ⟨#[]⟩).data.toList else []
def item (m : LB.Mat) : List UInt8 := m.nm.data.toList ++ opT m.op ++ [34] ++ m.vl.data.toList ++ [34]
def itemsT : List LB.Mat → List UInt8
  | [] => []
  | m :: r => item m ++ (r.flatMap fun x => 44 :: item x)
def matT (l : List LB.Mat) : List UInt8 := 123 :: itemsT l ++ [125]

def wgt (c : Int) : Nat := if c = 13 ∨ c = 14 then 0 else if c = 15 ∨ c = 16 then 1 else 2
def Q.code : Q → Int
  | .none => 0
  | .mk c .. => c
def wordT (c : Int) : List UInt8 := (words.getD (c - 3).toNat ⟨#[]⟩).data.toList
def signT (c : Int) : UInt8 := [43, 45, 42, 47].getD (c - 13).toNat 0
def byT (l : List ByteArray) : List UInt8 := if l = [] then [] else [32, 98, 121, 32, 40] ++ Lib.join (l.map (·.data.toList)) [44, 32] ++ [41]

def parT (k : Nat) (q : Q) (t : List UInt8) : List UInt8 := if k ≤ wgt q.code then t else 40 :: t ++ [41]

def txt : Q → List UInt8
  | .none => []
  | .mk c n m sp nm l r =>
    if c = 1 then Lib.itoa n
    else if c = 2 then matT m
    else if 3 ≤ c ∧ c ≤ 7 then wordT c ++ [40] ++ matT m ++ [91] ++ Lib.itoa sp ++ [93, 41]
    else if 8 ≤ c ∧ c ≤ 11 then wordT c ++ [40] ++ parT 0 l (txt l) ++ [41] ++ byT nm
    else if c = 12 then 45 :: parT 2 l (txt l)
    else if 13 ≤ c ∧ c ≤ 16 then parT (wgt c) l (txt l) ++ [32, signT c, 32] ++ parT (wgt c + 1) r (txt r)
    else []
def print (q : Q) : List UInt8 := parT 0 q (txt q)

end AQ
end Go.Proofs.YtdmnlmohfaafoaeDoor
