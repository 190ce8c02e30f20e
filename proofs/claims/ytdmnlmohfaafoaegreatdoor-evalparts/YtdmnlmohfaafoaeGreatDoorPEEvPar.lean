/- Texts that ask something of matchers that came as a text: what Parse makes of them. Plain; names no function. EvalParts, from what Eval and asked tell. -/
import Derived.Test.YtdmnlmohfaafoaeGreatDoorPEAqOk
import Derived.Test.YtdmnlmohfaafoaeGreatDoorPEEvMov
import Derived.Test.YtdmnlmohfaafoaeGreatDoorPEHxName
import Derived.Test.YtdmnlmohfaafoaeGreatDoorPEEwFew
namespace Go.Proofs.YtdmnlmohfaafoaeGreatDoor
namespace AQ

/-- What a token's letters tell of its kind. -/
def KF (x : Tk) : Prop := (∀ c t, x.2.data.toList = c :: t → isL c = false → isD c = false → c ≠ 34 → x.1 = 3) ∧ (x.1 = 2 → ∃ v, x.2.data.toList = 34 :: v ++ [34])

theorem index_inv : ∀ (t : List UInt8), 0 ≤ Lib.indexByte t 34 → ∃ v R, t = v ++ 34 :: R ∧ Lib.indexByte t 34 = v.length
  | [], h => by simp [Lib.indexByte] at h
  | b :: l, h => by
    by_cases hb : b = 34
    · subst hb
      exact ⟨[], l, rfl, by simp [Lib.indexByte]⟩
    · have hb' : (b == 34) = false := by simpa using hb
      have e : Lib.indexByte (b :: l) 34 = if (Lib.indexByte l 34 == -1) = true then -1 else Lib.indexByte l 34 + 1 := by
        show (if (b == 34) = true then (0 : Int) else _) = _
        rw [hb']; rfl
      rw [e] at h ⊢
      split at h
      · omega
      · rename_i hne
        by_cases h0 : 0 ≤ Lib.indexByte l 34
        · obtain ⟨v, R, e1, e2⟩ := index_inv l h0
          refine ⟨b :: v, R, by rw [e1]; rfl, ?_⟩
          rw [if_neg hne, e2]
          simp
        · exfalso
          have : -1 ≤ Lib.indexByte l 34 := by
            clear h e hne h0
            induction l with
            | nil => simp [Lib.indexByte]
            | cons d l ih =>
              unfold Lib.indexByte
              split
              · omega
              · split <;> omega
          have hm : Lib.indexByte l 34 = -1 := by omega
          rw [hm] at hne
          exact hne rfl

theorem lex_kind (c : UInt8) (t : List UInt8) : (lex (c :: t)).1 = if isL c then 0 else if isD c then 1 else if c = 34 then 2 else 3 := by
  rw [lex_cons]
  split
  · rfl
  · split
    · rfl
    · split <;> rfl

theorem Lx.fit {r : List UInt8} {ts : List Tk} (h : Lx r ts) : ∀ x ∈ ts, KF x := by
  induction h with
  | nil => intro x hx; cases hx
  | blank _ ih => exact ih
  | @tok c t ts h32 hn hd' _ ih =>
    intro x hx
    rcases List.mem_cons.1 hx with rfl | hx
    · refine ⟨fun d u e hL hD h34 => ?_, fun hk => ?_⟩
      · have hdc : d = c := by
          obtain ⟨n, hn'⟩ : ∃ n, (lex (c :: t)).2 = n + 1 := ⟨(lex (c :: t)).2 - 1, by omega⟩
          simp only [hn', List.take_succ_cons] at e
          exact (List.cons.inj e).1.symm
        subst hdc
        show (lex (d :: t)).1 = 3
        rw [lex_kind, hL, hD]
        simp [h34]
      · have hk' : (lex (c :: t)).1 = 2 := hk
        rw [lex_kind] at hk'
        by_cases hL : isL c = true
        · rw [if_pos hL] at hk'; cases hk'
        · rw [if_neg hL] at hk'
          by_cases hD : isD c = true
          · rw [if_pos hD] at hk'; cases hk'
          · rw [if_neg hD] at hk'
            by_cases h34 : c = 34
            · subst h34
              have e : (lex (34 :: t)).2 = quoted t := by rw [lex_cons, if_neg hL, if_neg hD, if_pos rfl]
              rw [e] at hn
              unfold quoted at hn
              by_cases h0 : Lib.indexByte t 34 < 0
              · rw [if_pos h0] at hn; exact absurd rfl hn
              · obtain ⟨v, R, e1, e2⟩ := index_inv t (by omega)
                refine ⟨v, ?_⟩
                have e3 : (lex (34 :: t)).2 = v.length + 2 := by
                  rw [e]; unfold quoted; rw [if_neg h0, e2]; simp
                show (34 :: t).take (lex (34 :: t)).2 = _
                rw [e3, e1]
                show 34 :: List.take (v.length + 1) (v ++ 34 :: R) = _
                have : v ++ 34 :: R = (v ++ [34]) ++ R := by simp
                rw [this, show v.length + 1 = (v ++ [34]).length by simp, List.take_left]
                rfl
            · rw [if_neg h34] at hk'; cases hk'
    · exact ih x hx

/-- Tokens that were cut are the text's. -/
theorem cutF_lx : ∀ (f : Nat) (r : List UInt8) (p : Int) (out l : List Tok), cutF f r p out = .inl l → ∃ l0 p', l = out ++ l0 ++ [⟨4, ⟨#[]⟩, p'⟩] ∧ Lx r (sl l0)
  | 0, _, _, _, _, h => by cases h
  | f + 1, [], p, out, l, h => by
    have : l = out ++ [⟨4, ⟨#[]⟩, p⟩] := by
      have h' : (Sum.inl (out ++ [⟨4, ⟨#[]⟩, p⟩]) : List Tok ⊕ (Int × Int)) = .inl l := h
      exact (Sum.inl.inj h').symm
    exact ⟨[], p, by simp [this], Lx.nil⟩
  | f + 1, c :: t, p, out, l, h => by
    rw [cutF_cons] at h
    by_cases h32 : c = 32
    · rw [if_pos h32] at h
      obtain ⟨l0, p', e, hx⟩ := cutF_lx f t (p + 1) out l h
      exact ⟨l0, p', e, by rw [h32]; exact Lx.blank hx⟩
    · rw [if_neg h32] at h
      by_cases hn : (lex (c :: t)).2 = 0
      · rw [if_pos hn] at h; cases h
      · rw [if_neg hn] at h
        split at h
        · cases h
        · rename_i hb
          obtain ⟨l0, p', e, hx⟩ := cutF_lx f _ _ _ l h
          refine ⟨⟨(lex (c :: t)).1, ⟨((c :: t).take (lex (c :: t)).2).toArray⟩, p⟩ :: l0, p', by rw [e]; simp, ?_⟩
          exact Lx.tok h32 hn (fun e1 => by
            by_cases h18 : 18 < (lex (c :: t)).2
            · exact absurd (.inl ⟨e1, h18⟩) hb
            · omega) hx

theorem read_lx_inv {α : Type} {f : List Tok → Res α} {r : List UInt8} {a : α} {l' : List Tok} (h : read f r = .ok a l') : ∃ l0 p, Lx r (sl l0) ∧ f (l0 ++ [⟨4, ⟨#[]⟩, p⟩]) = .ok a l' ∧ (hd l').kind = 4 := by
  unfold read at h
  split at h
  · rename_i l hl
    obtain ⟨l0, p, e, hx⟩ := cutF_lx _ _ _ _ _ hl
    obtain ⟨b, l1, h1, h2⟩ := andThen_inv h
    split at h2
    · rename_i hk
      cases h2
      refine ⟨l0, p, hx, ?_, hk⟩
      rw [e] at h1
      simpa using h1
    · cases h2
  · cases h

/- What was read, by its tokens. -/

theorem sl_hd {l : List Tok} (h : (hd l).kind ≠ 4) : sl l = ((hd l).kind, (hd l).said) :: sl l.tail := by
  cases l with
  | nil => exact absurd rfl h
  | cons t r => rfl

theorem has_tk {l : List Tok} {c : UInt8} {x : ByteArray} {u : List UInt8} (hf : ∀ y ∈ sl l, KF y ∨ y.1 = 4) (hx : x.data.toList = c :: u) (hc : isL c = false ∧ isD c = false ∧ c ≠ 34) (hk : ∀ y ∈ sl l, y.1 = 4 → y.2 = ⟨#[]⟩) (h : has x l = true) : sl l = (3, x) :: sl l.tail := by
  have hs : (hd l).said = x := by simpa [has] using h
  cases l with
  | nil =>
    exfalso
    have : x = ⟨#[]⟩ := hs.symm
    rw [this] at hx; cases hx
  | cons t r =>
    have hs' : t.said = x := hs
    have hm : (t.kind, t.said) ∈ sl (t :: r) := by simp [sl]
    have h3 : t.kind = 3 := by
      rcases hf _ hm with hK | h4
      · exact hK.1 c u (by rw [hs']; exact hx) hc.1 hc.2.1 hc.2.2
      · exfalso
        have := hk _ hm h4
        rw [show t.said = (⟨#[]⟩ : ByteArray) from this] at hs'
        rw [← hs'] at hx; cases hx
    show (t.kind, t.said) :: sl r = _
    rw [h3, hs']
    rfl

/-- Tokens of a text, the end behind them. -/
def FitK (l : List Tok) : Prop := (∀ y ∈ sl l, KF y ∨ y.1 = 4) ∧ ∀ y ∈ sl l, y.1 = 4 → y.2 = ⟨#[]⟩
theorem FitK.tail {l : List Tok} (h : FitK l) : FitK l.tail := by
  cases l with
  | nil => exact h
  | cons t r => exact ⟨fun y hy => h.1 y (List.mem_cons_of_mem _ hy), fun y hy => h.2 y (List.mem_cons_of_mem _ hy)⟩
theorem FitK.has {l : List Tok} (h : FitK l) (c : UInt8) (hc : isL c = false ∧ isD c = false ∧ c ≠ 34) (hh : AQ.has ⟨#[c]⟩ l = true) : sl l = mk1 c :: sl l.tail :=
  has_tk h.1 rfl hc h.2 hh
theorem FitK.need {l r : List Tok} {u : Unit} (h : FitK l) (c : UInt8) (hc : isL c = false ∧ isD c = false ∧ c ≠ 34) (hh : AQ.need ⟨#[c]⟩ l = .ok u r) : sl l = mk1 c :: sl r ∧ FitK r := by
  unfold AQ.need at hh
  split at hh
  · rename_i h1
    cases hh
    exact ⟨h.has c hc h1, h.tail⟩
  · cases hh
theorem FitK.kind {l r : List Tok} {t : Tok} {k : Int} (h : FitK l) (hk : k ≠ 4) (hh : needK k l = .ok t r) : sl l = (k, t.said) :: sl r ∧ FitK r ∧ (k = 2 → ∃ v, t.said.data.toList = 34 :: v ++ [34]) := by
  unfold needK at hh
  split at hh
  · rename_i h1
    cases hh
    have e := sl_hd (l := l) (by rw [h1]; exact hk)
    rw [h1] at e
    refine ⟨e, h.tail, fun h2 => ?_⟩
    have hm : (k, (hd l).said) ∈ sl l := by rw [e]; exact List.mem_cons_self ..
    rcases h.1 _ hm with hK | h4
    · exact hK.2 h2
    · exact absurd h4 hk
  · cases hh

theorem opFrom_tk {l r : List Tok} {o : Int} (hf : FitK l) : ∀ (w : List ByteArray) (i : Int), (∀ x ∈ w, ∃ c u, x.data.toList = c :: u ∧ isL c = false ∧ isD c = false ∧ c ≠ 34) → opFrom l w i = .ok o r → sl l = (3, w.getD (o - i).toNat ⟨#[]⟩) :: sl r ∧ FitK r ∧ i ≤ o
  | [], _, _, h => by cases h
  | x :: w, i, hw, h => by
    unfold opFrom at h
    split at h
    · rename_i h1
      cases h
      obtain ⟨c, u, e, hc⟩ := hw x (by simp)
      refine ⟨?_, hf.tail, Int.le_refl _⟩
      rw [has_tk hf.1 e hc hf.2 h1]
      simp
    · obtain ⟨a, b, c⟩ := opFrom_tk hf w (i + 1) (fun y hy => hw y (by simp [hy])) h
      refine ⟨?_, b, by omega⟩
      rw [a]
      have e : (o - i).toNat = (o - (i + 1)).toNat + 1 := by omega
      rw [e]
      simp

theorem val_text (s : ByteArray) (v : List UInt8) (h : s.data.toList = 34 :: v ++ [34]) : s = ⟨(34 :: (s.extract 1 (s.size - 1)).data.toList ++ [34]).toArray⟩ := by
  have hs : s = ⟨(34 :: (⟨v.toArray⟩ : ByteArray).data.toList ++ [34]).toArray⟩ := by
    apply ByteArray.ext
    apply Array.toList_inj.1
    rw [h]
  have e : s.extract 1 (s.size - 1) = ⟨v.toArray⟩ := by
    have := val_of ⟨v.toArray⟩
    rw [← hs] at this
    exact this
  rw [e]
  exact hs

theorem matR_tk {l r : List Tok} {m : LB.Mat} (hf : FitK l) (h : matR l = .ok m r) : sl l = tkI m ++ sl r ∧ FitK r := by
  obtain ⟨n, l1, h1, h⟩ := andThen_inv h
  obtain ⟨o, l2, h2, h⟩ := andThen_inv h
  obtain ⟨t, l3, h3, h⟩ := andThen_inv h
  obtain ⟨t0, l0, h0, h1⟩ := andThen_inv h1
  obtain ⟨e0, f0, _⟩ := hf.kind (by decide) h0
  split at h1
  · cases h1
    obtain ⟨e2, f2, _⟩ := opFrom_tk f0 ops 0 (by
      intro x hx
      simp only [ops, List.mem_cons, List.not_mem_nil, or_false] at hx
      rcases hx with rfl | rfl | rfl | rfl
      · exact ⟨61, [], rfl, by decide, by decide, by decide⟩
      · exact ⟨33, [61], rfl, by decide, by decide, by decide⟩
      · exact ⟨94, [61], rfl, by decide, by decide, by decide⟩
      · exact ⟨33, [94], rfl, by decide, by decide, by decide⟩) h2
    obtain ⟨e3, f3, g3⟩ := f2.kind (by decide) h3
    obtain ⟨v, hv⟩ := g3 rfl
    split at h
    · cases h
      refine ⟨?_, f3⟩
      rw [e0, e2, e3]
      unfold tkI
      show _ :: _ :: _ :: _ = _ :: _ :: _ :: _
      rw [Int.sub_zero]
      congr 3
      unfold valOf
      congr 1
      exact val_text t.said v hv
    · cases h
  · cases h1

theorem loopM_tk : ∀ (f : Nat) (l : List Tok) (out m : List LB.Mat) (r : List Tok), FitK l → loopM f l out = .ok m r → ∃ x t, m = out ++ x :: t ∧ sl l = tkI x ++ (t.flatMap fun y => mk1 44 :: tkI y) ++ mk1 125 :: sl r ∧ FitK r
  | 0, _, _, _, _, _, h => by cases h
  | f + 1, l, out, m, r, hf, h => by
    unfold loopM at h
    split at h
    · cases h
    · obtain ⟨x, l1, h1, h⟩ := andThen_inv h
      obtain ⟨e1, f1⟩ := matR_tk hf h1
      split at h
      · rename_i h2
        have e2 := f1.has 44 (by decide) h2
        obtain ⟨y, t, em, e3, f3⟩ := loopM_tk f l1.tail (out ++ [x]) m r f1.tail h
        refine ⟨x, y :: t, by rw [em]; simp, ?_, f3⟩
        rw [e1, e2, e3]
        simp
      · obtain ⟨_, l2, h3, h⟩ := andThen_inv h
        obtain ⟨e3, f3⟩ := f1.need 125 (by decide) h3
        cases h
        exact ⟨x, [], rfl, by rw [e1, e3]; simp, f3⟩

theorem someR_tk {l r : List Tok} {m : List LB.Mat} (hf : FitK l) (h : someR l = .ok m r) : sl l = tkM m ++ sl r ∧ FitK r := by
  obtain ⟨_, l1, h1, h⟩ := andThen_inv h
  obtain ⟨e1, f1⟩ := hf.need 123 (by decide) h1
  split at h
  · rename_i h2
    have e2 := f1.has 125 (by decide) h2
    cases h
    exact ⟨by rw [e1, e2]; simp [tkM, tkIs], f1.tail⟩
  · obtain ⟨x, t, em, e3, f3⟩ := loopM_tk 9 l1 [] m r f1 h
    refine ⟨?_, f3⟩
    rw [e1, e3, em]
    simp [tkM, tkIs]

theorem Lx.no4 {r : List UInt8} {ts : List Tk} (h : Lx r ts) : ∀ y ∈ ts, y.1 ≠ 4 := by
  induction h with
  | nil => intro y hy; cases hy
  | blank _ ih => exact ih
  | @tok c t ts _ _ _ _ ih =>
    intro y hy
    rcases List.mem_cons.1 hy with rfl | hy
    · show (lex (c :: t)).1 ≠ 4
      rw [lex_kind]
      split
      · decide
      · split
        · decide
        · split <;> decide
    · exact ih y hy

/-- A text that Match reads has just the tokens of its matchers. -/
theorem match_lx {s : List UInt8} {m : List LB.Mat} {l : List Tok} (h : matchR s = .ok m l) : Lx s (tkM m) ∧ matsOk m := by
  obtain ⟨l0, p, hx, h1, hk⟩ := read_lx_inv h
  have hf : FitK (l0 ++ [⟨4, ⟨#[]⟩, p⟩]) := by
    have e : sl (l0 ++ [⟨4, ⟨#[]⟩, p⟩]) = sl l0 ++ [(4, ⟨#[]⟩)] := by simp [sl]
    have hno := hx.no4
    refine ⟨fun y hy => ?_, fun y hy h4 => ?_⟩
    · rw [e] at hy
      rcases List.mem_append.1 hy with hy | hy
      · exact .inl (hx.fit y hy)
      · exact .inr (by rw [List.mem_singleton.1 hy])
    · rw [e] at hy
      rcases List.mem_append.1 hy with hy | hy
      · exact absurd h4 (hno y hy)
      · rw [List.mem_singleton.1 hy]
  obtain ⟨e1, _⟩ := someR_tk hf h1
  obtain ⟨hm, g, _⟩ := someR_inv h1
  have he : Ends l := g.ends ⟨l0, p, rfl⟩
  obtain ⟨lz, pz, rfl⟩ := he
  refine ⟨?_, hm⟩
  have e2 : sl (l0 ++ [⟨4, ⟨#[]⟩, p⟩]) = sl l0 ++ [(4, ⟨#[]⟩)] := by simp [sl]
  have hno := hx.no4
  have hz : lz = [] := by
    cases lz with
    | nil => rfl
    | cons t u =>
      exfalso
      rw [e2] at e1
      have e3 : sl ((t :: u) ++ [⟨4, ⟨#[]⟩, pz⟩]) = ((t.kind, t.said) :: sl u) ++ [(4, ⟨#[]⟩)] := by simp [sl]
      rw [e3, ← List.append_assoc] at e1
      have := List.append_inj_left' e1 rfl
      have hm : (t.kind, t.said) ∈ sl l0 := by rw [this]; simp
      exact hno _ hm hk
  subst hz
  rw [e2] at e1
  have := List.append_inj_left' e1 rfl
  rw [← this]
  exact hx

/- A bracket behind a text does not change its tokens. -/

theorem take_app {p : UInt8 → Bool} (hp : p 41 = false) (R : List UInt8) : ∀ (r : List UInt8), (r ++ 41 :: R).takeWhile p = r.takeWhile p
  | [] => by simp [hp]
  | c :: r => by
    rw [List.cons_append, List.takeWhile_cons, List.takeWhile_cons, take_app hp R r]

theorem index_app (R : List UInt8) {t : List UInt8} (h : 0 ≤ Lib.indexByte t 34) : Lib.indexByte (t ++ R) 34 = Lib.indexByte t 34 := by
  have key : ∀ (t : List UInt8), 0 ≤ Lib.indexByte t 34 → Lib.indexByte (t ++ R) 34 = Lib.indexByte t 34 := by
    intro t
    induction t with
    | nil => intro h; simp [Lib.indexByte] at h
    | cons b l ih =>
      intro h
      show (if (b == 34) = true then (0 : Int) else if (Lib.indexByte (l ++ R) 34 == -1) = true then -1 else Lib.indexByte (l ++ R) 34 + 1) = (if (b == 34) = true then (0 : Int) else if (Lib.indexByte l 34 == -1) = true then -1 else Lib.indexByte l 34 + 1)
      by_cases hb : (b == 34) = true
      · rw [if_pos hb, if_pos hb]
      · rw [if_neg hb, if_neg hb]
        have h' : (0 : Int) ≤ if (Lib.indexByte l 34 == -1) = true then -1 else Lib.indexByte l 34 + 1 := by
          have e : Lib.indexByte (b :: l) 34 = (if (b == 34) = true then (0 : Int) else if (Lib.indexByte l 34 == -1) = true then -1 else Lib.indexByte l 34 + 1) := rfl
          rw [e, if_neg hb] at h
          exact h
        by_cases h0 : 0 ≤ Lib.indexByte l 34
        · rw [ih h0]
        · exfalso
          split at h'
          · omega
          · rename_i hne
            have : Lib.indexByte l 34 = -1 := by omega
            rw [this] at hne
            exact hne rfl
  exact key t h

theorem pre_app (m : List UInt8) (hm : 41 ∉ m) (R : List UInt8) : ∀ (r : List UInt8), m.isPrefixOf (r ++ 41 :: R) = m.isPrefixOf r := by
  induction m with
  | nil => intro r; simp
  | cons a m ih =>
    intro r
    have h1 : a ≠ 41 := fun e => hm (by simp [e])
    have h2 : 41 ∉ m := fun e => hm (by simp [e])
    cases r with
    | nil =>
      show (a == 41 && _) = _
      have : (a == 41) = false := by simpa using h1
      rw [this]; rfl
    | cons b r =>
      show (a == b && m.isPrefixOf (r ++ 41 :: R)) = (a == b && m.isPrefixOf r)
      rw [ih h2 r]

theorem mark_app (R r : List UInt8) (h0 : r ≠ []) : mark (r ++ 41 :: R) = mark r := by
  have key : ∀ (ms : List (List UInt8)), (∀ m ∈ ms, 41 ∉ m ∨ m = [41]) → markFrom (r ++ 41 :: R) ms = markFrom r ms := by
    intro ms
    induction ms with
    | nil => intro _; rfl
    | cons m ms ih =>
      intro h
      have e : m.isPrefixOf (r ++ 41 :: R) = m.isPrefixOf r := by
        rcases h m (by simp) with h1 | rfl
        · exact pre_app m h1 R r
        · cases r with
          | nil => exact absurd rfl h0
          | cons b r =>
            show ((41 : UInt8) == b && List.isPrefixOf [] (r ++ 41 :: R)) = ((41 : UInt8) == b && List.isPrefixOf [] r)
            simp
      unfold markFrom
      rw [e, ih fun x hx => h x (by simp [hx])]
  exact key marks (by decide)

theorem lex_app (R : List UInt8) {c : UInt8} {t : List UInt8} (hn : (lex (c :: t)).2 ≠ 0) : lex (c :: t ++ 41 :: R) = lex (c :: t) := by
  rw [List.cons_append, lex_cons, lex_cons, ← List.cons_append, take_app (by decide), take_app (by decide)]
  by_cases hL : isL c = true
  · rw [if_pos hL, if_pos hL]
  · rw [if_neg hL, if_neg hL]
    by_cases hD : isD c = true
    · rw [if_pos hD, if_pos hD]
    · rw [if_neg hD, if_neg hD]
      by_cases h34 : c = 34
      · rw [if_pos h34, if_pos h34]
        rw [lex_cons, if_neg hL, if_neg hD, if_pos h34] at hn
        have h0 : 0 ≤ Lib.indexByte t 34 := by
          by_cases h0 : Lib.indexByte t 34 < 0
          · exfalso
            apply hn
            show quoted t = 0
            unfold quoted
            rw [if_pos h0]
          · omega
        unfold quoted
        rw [index_app _ h0]
      · rw [if_neg h34, if_neg h34]
        rw [mark_app R (c :: t) (by simp)]

theorem lex_leT (c : UInt8) (t : List UInt8) : (lex (c :: t)).2 ≤ (c :: t).length := by
  rw [lex_cons]
  split
  · exact (List.takeWhile_sublist _).length_le
  · split
    · exact (List.takeWhile_sublist _).length_le
    · split
      · show quoted t ≤ _
        unfold quoted
        split
        · omega
        · obtain ⟨v, R, e1, e2⟩ := index_inv t (by omega)
          rw [e2, e1]
          simp
      · show mark (c :: t) ≤ _
        have key : ∀ (ms : List (List UInt8)), markFrom (c :: t) ms ≤ (c :: t).length := by
          intro ms
          induction ms with
          | nil => exact Nat.zero_le _
          | cons m ms ih =>
            unfold markFrom
            split
            · rename_i hp
              exact (List.isPrefixOf_iff_prefix.1 hp).length_le
            · exact ih
        exact key marks

theorem Lx.app {r R : List UInt8} {ts tr : List Tk} (h : Lx r ts) (hR : Lx (41 :: R) tr) : Lx (r ++ 41 :: R) (ts ++ tr) := by
  induction h with
  | nil => exact hR
  | blank _ ih => exact Lx.blank ih
  | @tok c t ts h32 hn hd' _ ih =>
    have e := lex_app R (c := c) (t := t) hn
    have hle := lex_leT c t
    have key := Lx.tok (c := c) (t := t ++ 41 :: R) (ts := ts ++ tr) h32 (by rw [← List.cons_append, e]; exact hn) (by rw [← List.cons_append, e]; exact hd') (by
      rw [← List.cons_append, e, List.drop_append_of_le_length hle]
      exact ih)
    rw [← List.cons_append, e, List.take_append_of_le_length hle] at key
    exact key

theorem Lx.few {r : List UInt8} {ts : List Tk} (h : Lx r ts) : ts.length ≤ r.length := by
  induction h with
  | nil => exact Nat.le_refl _
  | blank _ ih => simp only [List.length_cons]; omega
  | @tok c t ts _ hn _ _ ih =>
    rw [List.length_drop] at ih
    simp only [List.length_cons] at ih ⊢
    omega

/-- A question whose text has its tokens is read. -/
theorem parse_tk {s : List UInt8} {q : Q} (hq : OkW 9 q) (hx : Lx s (tk q)) (hn : s.length ≤ 120) : ∃ l, parse s = .ok q l := by
  refine read_lx hx (Nat.le_trans hx.few hn) fun l T hs hT => ?_
  obtain ⟨p, rfl, rfl⟩ := hT
  exact (read_tk hq).2.2.done hs (NT.cons (by decide)) fun k x T' e => by cases e; decide

def pickQ (m : List LB.Mat) : Q := .mk 2 0 m 300 [] .none .none
def ofQ (c : Int) (ns : List ByteArray) (q : Q) : Q := .mk c 0 [] 0 ns q .none

theorem tk_pick (m : List LB.Mat) : tk (pickQ m) = tkM m := by simp [pickQ, tk]
theorem tk_of {c : Int} (hc : 8 ≤ c ∧ c ≤ 11) (ns : List ByteArray) (q : Q) : tk (ofQ c ns q) = tkW c :: mk1 40 :: tk q ++ [mk1 41] ++ tkBy ns := by
  show (if c = 1 then _ else if c = 2 then _ else if 3 ≤ c ∧ c ≤ 7 then _ else if 8 ≤ c ∧ c ≤ 11 then tkW c :: mk1 40 :: tkP 0 q (tk q) ++ [mk1 41] ++ tkBy ns else _) = _
  rw [if_neg (by omega), if_neg (by omega), if_neg (by omega), if_pos hc]
  have e : tkP 0 q (tk q) = tk q := by unfold tkP; rw [if_pos (Nat.zero_le _)]
  rw [e]

theorem lx_of {c : Int} (hc : 8 ≤ c ∧ c ≤ 11) {R : List UInt8} {ts : List Tk} (h : Lx R ts) : Lx (wordT c ++ 40 :: R) (tkW c :: mk1 40 :: ts) :=
  lx_word ⟨by omega, hc.2⟩ (h.mark (by decide) lex_1.2.2.2.2.2.1) sf_mark.2.2.2.1

/-- What the matchers' text asks, alone; all together; by one name, and then all together. -/
theorem ask_some {s : List UInt8} {m : List LB.Mat} {l : List Tok} (h : matchR s = .ok m l) (hs : s.length ≤ 60) : ∃ l, parse s = .ok (pickQ m) l := by
  obtain ⟨hx, hm⟩ := match_lx h
  exact parse_tk (OkW.pick 8 m hm) (by rw [tk_pick]; exact hx) (by omega)

theorem ask_of {c : Int} (hc : 8 ≤ c ∧ c ≤ 11) {s : List UInt8} {m : List LB.Mat} {l : List Tok} (h : matchR s = .ok m l) (hs : s.length ≤ 60) : ∃ l, parse (wordT c ++ 40 :: s ++ [41]) = .ok (ofQ c [] (pickQ m)) l := by
  obtain ⟨hx, hm⟩ := match_lx h
  have h1 : Lx (s ++ [41]) (tkM m ++ [mk1 41]) := hx.app (Lx.nil.mark (by decide) lex_1.2.2.2.2.2.2.1)
  have h2 := lx_of hc h1
  have hw := word_len (c := c) ⟨by omega, hc.2⟩
  refine parse_tk (OkW.of 8 8 c [] (pickQ m) hc ⟨by simp, by simp⟩ (OkW.pick 7 m hm) (.inl ⟨Nat.zero_le _, rfl⟩)) ?_ (by simp; omega)
  rw [tk_of hc, tk_pick]
  simpa [tkBy] using h2

theorem ask_by {c d : Int} (hc : 8 ≤ c ∧ c ≤ 11) (hd : 8 ≤ d ∧ d ≤ 11) {s : List UInt8} {m : List LB.Mat} {l : List Tok} {n : ByteArray} (hn : LB.name n = true) (h : matchR s = .ok m l) (hs : s.length ≤ 60) :
    ∃ l, parse (wordT c ++ 40 :: (wordT d ++ 40 :: (s ++ 41 :: 32 :: 98 :: 121 :: 32 :: 40 :: (n.data.toList ++ [41, 41])))) = .ok (ofQ c [] (ofQ d [n] (pickQ m))) l := by
  obtain ⟨hx, hm⟩ := match_lx h
  have h0 : Lx [41, 41] [mk1 41, mk1 41] := (Lx.nil.mark (by decide) lex_1.2.2.2.2.2.2.1).mark (by decide) lex_1.2.2.2.2.2.2.1
  have h1 := lx_name hn h0 sf_mark.2.2.2.2.1
  have h2 := Lx.blank (h1.mark (c := 40) (by decide) lex_1.2.2.2.2.2.1)
  have h3 := h2.word (x := [98, 121]) sf_mark.2.2.2.2.2.2.2.1 ⟨98, [121], rfl, by decide, by decide⟩
  have h4 := (Lx.blank h3).mark (c := 41) (by decide) lex_1.2.2.2.2.2.2.1
  have h5 := lx_of hc (lx_of hd (hx.app h4))
  have hwc := word_len (c := c) ⟨by omega, hc.2⟩
  have hwd := word_len (c := d) ⟨by omega, hd.2⟩
  have hnl := name_len hn
  refine parse_tk (OkW.of 8 8 c [] (ofQ d [n] (pickQ m)) hc ⟨by simp, by simp⟩ (OkW.of 7 7 d [n] (pickQ m) hd ⟨by simp, by simpa using hn⟩ (OkW.pick 6 m hm) (.inl ⟨Nat.zero_le _, rfl⟩)) (.inl ⟨Nat.zero_le _, rfl⟩)) ?_ (by simp only [List.length_append, List.length_cons, List.length_nil]; omega)
  rw [tk_of hc, tk_of hd, tk_pick]
  simpa [tkBy, tkNs, byW] using h5

end AQ
end Go.Proofs.YtdmnlmohfaafoaeGreatDoor

namespace Go.Proofs.YtdmnlmohfaafoaeGreatDoor
open Go.RowKit Go.Shelf

theorem ep_cat (x y : ByteArray) (h : x.size + y.size ≤ 1000) (w : World) : (binOp .add 9 (.string x) (.string y)).run Tryz.prog w = .ok (.string (x ++ y)) w := by
  have h' : x.size + y.size ≤ 9223372036854775807 := by omega
  simp [go_sem, h']

theorem cat_data (x y : ByteArray) : (x ++ y).data.toList = x.data.toList ++ y.data.toList := by simp

theorem ez1 : (⟨#[40]⟩ : ByteArray).size = 1 := rfl
theorem ez2 : (⟨#[41]⟩ : ByteArray).size = 1 := rfl
theorem ez3 : (⟨#[41, 32, 98, 121, 32, 40]⟩ : ByteArray).size = 6 := rfl
theorem ez4 : (⟨#[41, 41]⟩ : ByteArray).size = 2 := rfl
theorem ez5 : (⟨#[109, 97, 110, 121, 40]⟩ : ByteArray).size = 5 := rfl
theorem ez6 : (⟨#[116, 111, 116, 97, 108, 40, 109, 97, 110, 121, 40]⟩ : ByteArray).size = 11 := rfl

theorem pt_ixm (b off n c j : Nat) (h1 : 1 ≤ j) (h : j - 1 < n) (w : World) : (Instr.indexAt 49 (.slice (some ⟨b, off, none⟩) n c) (.int .i64 ((j : Int) - 1))).run Tryz.prog w = .ok (.pointer (some ⟨b, off + (j - 1) * 2, none⟩)) w := by
  have e : (j : Int) - 1 = ((j - 1 : Nat) : Int) := by omega
  rw [e]
  exact pt_index b off n c (j - 1) h w

/-- The three words. -/
abbrev ep3 : List ByteArray := [⟨#[116, 111, 116, 97, 108]⟩, ⟨#[108, 101, 97, 115, 116]⟩, ⟨#[109, 111, 115, 116]⟩]
theorem ep3_word (i : Nat) (hi : i < 3) : (ep3.getD i ⟨#[]⟩).data.toList = AQ.wordT (8 + i) ∧ (ep3.getD i ⟨#[]⟩).size ≤ 5 := by
  rcases (by omega : i = 0 ∨ i = 1 ∨ i = 2) with rfl | rfl | rfl <;> exact ⟨by decide, by decide⟩

theorem ev_of (c : Int) (hc : 8 ≤ c ∧ c ≤ 11) (nm : List ByteArray) (q : AQ.Q) (t : Int) (S : List Sr) (l : List EV.Pt) (h : EV.ev q t S = some (false, l)) : EV.ev (AQ.ofQ c nm q) t S = some (false, EV.grp c nm l) := by
  unfold AQ.ofQ
  rw [EV.ev, if_neg (by omega), if_neg (by omega), if_pos (by omega), h]
  rfl
theorem ev_pick (m : List LB.Mat) (t : Int) (S : List Sr) : EV.ev (AQ.pickQ m) t S = some (false, EV.pick 2 m 300 t S) := rfl

set_option maxRecDepth 100000 in
set_option maxHeartbeats 6400000 in
theorem evparts_any (hE : EvalIs) (hD : AskedIs) (ao : Option Addr) (S : List Sr) (cap : Nat) (s b : ByteArray) (t : Int) (w : World) (hG : Gl w) (hS : SrOut w NoZ ao S) (hR : ∀ i, i < S.length → ∀ x ∈ (atSr S i).2, CL.Rs x) (hq : shS S = true) (hs : s.size ≤ 60) (hb : b.size ≤ 30) (ht : -1099511627776 ≤ t ∧ t ≤ 1099511627776) :
    Calls Tryz.prog 4 #[.slice ao S.length cap, .string s, .string b, .int .i64 t] w fun e w' => e = .returned (.bool true) ∧ Below w.heap.size w w' := by
  have HE := hid hE
  have HD := hid hD
  have HS := hid hS
  have HG := hid hG
  have HR := hid hR
  have HSh := hid (shS_any ao S cap w hS.row)
  rw [hq] at HSh
  have HQ := hid hq
  have hs' : ¬ 60 < (s.size : Int) := by omega
  have hb' : ¬ 30 < (b.size : Int) := by omega
  have ht1 : ¬ t < -1099511627776 := by omega
  have ht2 : ¬ 1099511627776 < t := by omega
  have HT := hid ht
  clear hE hD hS hG hR hq ht
  go_enter Tryz.func4, Tryz.ntmps4
  go_wp2_with fail
  refine HSh.out.mono ?_
  rintro e w0 ⟨rfl, rfl⟩
  go_wp2_with fail
  refine (HD.out w0 HG.out).mono ?_
  rintro e w1 ⟨rfl, hb1⟩
  have HB1 := hid hb1
  clear hb1 HSh
  go_wp2_with fail
  have hfew : S.length ≤ 20 ∧ ∀ i, i < S.length → (atSr S i).1.length ≤ 20 ∧ (atSr S i).2.length ≤ 60 := by
    have h := HQ.out
    unfold shS at h
    have h := of_decide_eq_true h
    refine ⟨h.1, fun i hi => ⟨?_, (h.2 i hi).2⟩⟩
    have h1 := (h.2 i hi).1
    unfold shL at h1
    exact (of_decide_eq_true h1).1
  have HFew := hid hfew
  have hn20 := hfew.1
  clear hfew
  refine (bright_any ao S cap 1099511627776 0 w1 (HS.out.row.below HB1.out) (by omega) (fun i hi => by have := HFew.out.2 i hi; omega) HR.out).mono ?_
  rintro e w2 ⟨rfl, hb2⟩
  have HB2 := hid (HB1.out.trans (hb2.mono HB1.out.size))
  clear hb2 HB1
  rcases hr : BK.right 1099511627776 0 S with _ | _
  · clear hr
    go_wp2_with fail
    go_ret
    exact ⟨rfl, HB2.out⟩
  have HAs : Hid (Askd S) := ⟨by omega, fun k hk => by have := HFew.out.2 k hk; omega, fun k hk => right_lab hr k hk, right_ord hr⟩
  clear hr
  go_wp2_with fail
  refine (name_any b w2).mono ?_
  rintro e w3 ⟨rfl, hb3⟩
  have HB3 := hid (HB2.out.trans (hb3.mono HB2.out.size))
  clear hb3 HB2
  rcases hnm : LB.name b with _ | _
  · clear hnm
    go_wp2_with fail
    go_ret
    exact ⟨rfl, HB3.out⟩
  have HNm := hid hnm
  clear hnm
  go_wp2_with fail
  refine (match_any s w3 (HG.out.below HB3.out) (by omega)).mono ?_
  intro e w4 hM
  have HB4 := hid (HB3.out.trans (hM.low.mono HB3.out.size))
  rcases hm : AQ.matchR s.data.toList with ⟨m, r⟩ | ⟨c, p⟩
  rotate_left
  · obtain ⟨B, rfl, _⟩ := hM.bad c p hm
    clear hM hm
    go_wp2_with fail
    go_ret
    exact ⟨rfl, HB4.out⟩
  obtain ⟨v, rfl, hv⟩ := hM.ok m r hm
  have HMm := hid hm
  obtain ⟨mo, mc, ev⟩ := own_slice hv
  subst ev
  clear hM hv hm HB3
  have hsl : s.data.toList.length ≤ 60 := by rw [show s.data.toList.length = s.size by simp]; exact hs
  go_wp2_with fail
  have HPo := hid (EV.pick_ord 2 m 300 t S HAs.out.ord)
  have HFw := hid (pick_few HAs.out 2 m 300 t)
  have HEv0 := hid (ev_pick m t S)
  generalize EV.pick 2 m 300 t S = P at *
  have HEv1 : Hid (∀ c, 8 ≤ c → c ≤ 11 → ∀ nm, EV.ev (AQ.ofQ c nm (AQ.pickQ m)) t S = some (false, EV.grp c nm P)) := fun c h1 h2 nm => ev_of c ⟨h1, h2⟩ nm _ t S P HEv0.out
  have HEv2 : Hid (∀ c d, 8 ≤ c → c ≤ 11 → 8 ≤ d → d ≤ 11 → ∀ nm, EV.ev (AQ.ofQ c [] (AQ.ofQ d nm (AQ.pickQ m))) t S = some (false, EV.grp c [] (EV.grp d nm P))) := fun c d h1 h2 h3 h4 nm => ev_of c ⟨h1, h2⟩ [] _ t S _ (HEv1.out d h3 h4 nm)
  have HAsk : Hid (∀ (W : World) (x : ByteArray), Below w0.heap.size w0 W → x.size ≤ 1000 → Calls Tryz.prog 18 #[.slice ao S.length cap, .string x, .int .i64 t] W fun e w' => AEnd W w' e (AQ.parse x.data.toList) t S) := fun W x hb hx => asks_any HE.out ao S cap x t W (HG.out.below hb) (HS.out.below0 hb) HAs.out (by omega) HT.out
  go_loopw [64] (fun ti wr => ∃ i : Nat, i ≤ 3 ∧ ti = .int .i64 i ∧ Below w0.heap.size w0 wr) (fun ti _ => 3 - (intOf ti).toNat)
  case atStart => exact ⟨0, by omega, rfl, HB4.out⟩
  case round =>
    obtain ⟨i, hi, rfl, hbel⟩ := hrel
    have HBl := hid hbel
    clear hbel HB4
    by_cases hlt : i < 3
    · obtain ⟨kb, hidx, hkd, hks⟩ : ∃ kb : ByteArray, (∀ W, (Instr.index 48 (.agg #[.string ⟨#[116, 111, 116, 97, 108]⟩, .string ⟨#[108, 101, 97, 115, 116]⟩, .string ⟨#[109, 111, 115, 116]⟩]) (.int .i64 (i : Int))).run Tryz.prog W = .ok (.string kb) W) ∧ kb.data.toList = AQ.wordT (8 + i) ∧ kb.size ≤ 5 := by
        refine ⟨ep3.getD i ⟨#[]⟩, fun W => ?_, (ep3_word i hlt).1, (ep3_word i hlt).2⟩
        rcases (by omega : i = 0 ∨ i = 1 ∨ i = 2) with rfl | rfl | rfl <;> kernel_rfl
      have k1 : kb.size + 1 ≤ 9223372036854775807 := by omega
      have k2 : kb.size + 1 + s.size ≤ 9223372036854775807 := by omega
      have k3 : kb.size + 1 + s.size + 1 ≤ 9223372036854775807 := by omega
      have j2 : kb.size + 1 + kb.size ≤ 9223372036854775807 := by omega
      have j3 : kb.size + 1 + kb.size + 1 ≤ 9223372036854775807 := by omega
      have j4 : kb.size + 1 + kb.size + 1 + s.size ≤ 9223372036854775807 := by omega
      have j5 : kb.size + 1 + kb.size + 1 + s.size + 6 ≤ 9223372036854775807 := by omega
      have j6 : kb.size + 1 + kb.size + 1 + s.size + 6 + b.size ≤ 9223372036854775807 := by omega
      have j7 : kb.size + 1 + kb.size + 1 + s.size + 6 + b.size + 2 ≤ 9223372036854775807 := by omega
      have HX1 : Hid ((kb ++ ⟨#[40]⟩ ++ s ++ ⟨#[41]⟩).size ≤ 1000) := by
        show _ ≤ _
        rw [ByteArray.size_append, ByteArray.size_append, ByteArray.size_append, ez1, ez2]; omega
      have HX2 : Hid ((kb ++ ⟨#[40]⟩ ++ kb ++ ⟨#[40]⟩ ++ s ++ ⟨#[41, 32, 98, 121, 32, 40]⟩ ++ b ++ ⟨#[41, 41]⟩).size ≤ 1000) := by
        show _ ≤ _
        rw [ByteArray.size_append, ByteArray.size_append, ByteArray.size_append, ByteArray.size_append, ByteArray.size_append, ByteArray.size_append, ByteArray.size_append, ez1, ez3, ez4]; omega
      have HP1 : Hid (∃ l, AQ.parse (kb ++ ⟨#[40]⟩ ++ s ++ ⟨#[41]⟩).data.toList = .ok (AQ.ofQ (8 + i) [] (AQ.pickQ m)) l) := by
        obtain ⟨l, h⟩ := AQ.ask_of (c := 8 + (i : Int)) (by omega) HMm.out hsl
        refine ⟨l, ?_⟩
        rw [← h, cat_data, cat_data, cat_data, hkd]
        simp
      have HP2 : Hid (∃ l, AQ.parse (kb ++ ⟨#[40]⟩ ++ kb ++ ⟨#[40]⟩ ++ s ++ ⟨#[41, 32, 98, 121, 32, 40]⟩ ++ b ++ ⟨#[41, 41]⟩).data.toList = .ok (AQ.ofQ (8 + i) [] (AQ.ofQ (8 + i) [b] (AQ.pickQ m))) l) := by
        obtain ⟨l, h⟩ := AQ.ask_by (c := 8 + (i : Int)) (d := 8 + (i : Int)) (by omega) (by omega) HNm.out HMm.out hsl
        refine ⟨l, ?_⟩
        rw [← h, cat_data, cat_data, cat_data, cat_data, cat_data, cat_data, cat_data, hkd]
        simp
      have HSame : Hid (EV.grp (8 + i) [] (EV.grp (8 + i) [b] P) = EV.grp (8 + i) [] P) := EV.parts (8 + i) (by omega) [b] P
      have HE1 := hid (HEv1.out (8 + i) (by omega) (by omega) [])
      have HE2 := hid (HEv2.out (8 + i) (8 + i) (by omega) (by omega) (by omega) (by omega) [b])
      rw [HSame.out] at HE2
      clear hkd hks
      generalize EV.grp (8 + i) [] P = G at *
      go_wp2_with fail
      refine (HAsk.out wr _ HBl.out HX1.out).mono ?_
      intro e w5 hA
      obtain ⟨l1, hp1⟩ := HP1.out
      obtain ⟨p1, c1, rfl, hr1, hf1⟩ := hA.ok _ _ _ _ hp1 HE1.out
      have HB5 := hid (HBl.out.trans (hA.low.mono HBl.out.size))
      have HR1 := hid hr1
      have HF1 := hid hf1
      clear hA hr1 hf1 hp1 HP1
      go_wp2_with fail
      refine (HAsk.out w5 _ HB5.out HX2.out).mono ?_
      intro e w6 hA
      obtain ⟨l2, hp2⟩ := HP2.out
      obtain ⟨p2, c2, rfl, hr2, hf2⟩ := hA.ok _ _ _ _ hp2 HE2.out
      have HB6 := hid (HB5.out.trans (hA.low.mono HB5.out.size))
      have HR2 := hid hr2
      have HR1b := hid (HR1.out.below hA.low)
      clear hA hr2 hf2 hp2 HP2 HR1
      go_wp2_with fail
      refine (samePts_any p1 p2 G c1 c2 w6 HR1b.out HR2.out HF1.out).mono ?_
      rintro e w7 ⟨rfl, hb7⟩
      have HB7 := hid (HB6.out.trans (hb7.mono HB6.out.size))
      clear hb7
      go_wp2_with fail
      go_roundw
      case rel => exact ⟨i + 1, by omega, by go_num, HB7.out⟩
      case measure => simp [intOf]; omega
    · have e : i = 3 := by omega
      subst e
      have n1 : 5 + s.size ≤ 9223372036854775807 := by omega
      have n2 : 5 + s.size + 1 ≤ 9223372036854775807 := by omega
      have m1 : 11 + s.size ≤ 9223372036854775807 := by omega
      have m2 : 11 + s.size + 6 ≤ 9223372036854775807 := by omega
      have m3 : 11 + s.size + 6 + b.size ≤ 9223372036854775807 := by omega
      have m4 : 11 + s.size + 6 + b.size + 2 ≤ 9223372036854775807 := by omega
      have HX1 : Hid ((⟨#[109, 97, 110, 121, 40]⟩ ++ s ++ ⟨#[41]⟩ : ByteArray).size ≤ 1000) := by
        show _ ≤ _
        rw [ByteArray.size_append, ByteArray.size_append, ez5, ez2]; omega
      have HX2 : Hid ((⟨#[116, 111, 116, 97, 108, 40, 109, 97, 110, 121, 40]⟩ ++ s ++ ⟨#[41, 32, 98, 121, 32, 40]⟩ ++ b ++ ⟨#[41, 41]⟩ : ByteArray).size ≤ 1000) := by
        show _ ≤ _
        rw [ByteArray.size_append, ByteArray.size_append, ByteArray.size_append, ByteArray.size_append, ez6, ez3, ez4]; omega
      have HP1 : Hid (∃ l, AQ.parse (⟨#[109, 97, 110, 121, 40]⟩ ++ s ++ ⟨#[41]⟩ : ByteArray).data.toList = .ok (AQ.ofQ 11 [] (AQ.pickQ m)) l) := by
        obtain ⟨l, h⟩ := AQ.ask_of (c := 11) (by omega) HMm.out hsl
        refine ⟨l, ?_⟩
        rw [← h, cat_data, cat_data]
        rfl
      have HP2 : Hid (∃ l, AQ.parse (⟨#[116, 111, 116, 97, 108, 40, 109, 97, 110, 121, 40]⟩ ++ s ++ ⟨#[41, 32, 98, 121, 32, 40]⟩ ++ b ++ ⟨#[41, 41]⟩ : ByteArray).data.toList = .ok (AQ.ofQ 8 [] (AQ.ofQ 11 [b] (AQ.pickQ m))) l) := by
        obtain ⟨l, h⟩ := AQ.ask_by (c := 8) (d := 11) (by omega) (by omega) HNm.out HMm.out hsl
        refine ⟨l, ?_⟩
        rw [← h, cat_data, cat_data, cat_data, cat_data]
        simp [AQ.wordT, AQ.words]
      have HP3 := hid (AQ.ask_some HMm.out hsl)
      have HE1 := hid (HEv1.out 11 (by omega) (by omega) [])
      have HE2 := hid (HEv2.out 8 11 (by omega) (by omega) (by omega) (by omega) [b])
      rw [EV.parts_many] at HE2
      have HMa := hid (fun h => EV.many_all P h (by have := HFw.out.len; simp only at this; omega))
      generalize EV.grp 11 [] P = G at *
      go_wp2_with fail
      refine (HAsk.out wr _ HBl.out HX1.out).mono ?_
      intro e w5 hA
      obtain ⟨l1, hp1⟩ := HP1.out
      obtain ⟨p1, c1, rfl, hr1, hf1⟩ := hA.ok _ _ _ _ hp1 HE1.out
      have HB5 := hid (HBl.out.trans (hA.low.mono HBl.out.size))
      have HR1 := hid hr1
      have HF1 := hid hf1
      clear hA hr1 hf1 hp1 HP1
      go_wp2_with fail
      refine (HAsk.out w5 _ HB5.out HX2.out).mono ?_
      intro e w6 hA
      obtain ⟨l2, hp2⟩ := HP2.out
      obtain ⟨p2, c2, rfl, hr2, hf2⟩ := hA.ok _ _ _ _ hp2 HE2.out
      have HB6 := hid (HB5.out.trans (hA.low.mono HB5.out.size))
      have HR2 := hid hr2
      have HR1b := hid (HR1.out.below hA.low)
      clear hA hr2 hf2 hp2 HP2 HR1
      go_wp2_with fail
      refine (HAsk.out w6 s HB6.out (by omega)).mono ?_
      intro e w7 hA
      obtain ⟨l3, hp3⟩ := HP3.out
      obtain ⟨p3, c3, rfl, hr3, hf3⟩ := hA.ok _ _ _ _ hp3 HEv0.out
      have HB7 := hid (HB6.out.trans (hA.low.mono HB6.out.size))
      have HR3 := hid hr3
      have HR1c := hid (HR1b.out.below hA.low)
      have HR2c := hid (HR2.out.below hA.low)
      have hPl := HFw.out.len
      simp only at hPl
      clear hA hr3 hf3 hp3 HP3 HR1b HR2 n1 n2 m1 m2 m3 m4
      go_wp2_with fail
      refine (samePts_any p1 p2 G c1 c2 w7 HR1c.out HR2c.out HF1.out).mono ?_
      rintro e w8 ⟨rfl, hb8⟩
      have HB8 := hid (HB7.out.trans (hb8.mono HB7.out.size))
      have HR8 := hid (HR3.out.below hb8)
      have HR18 := hid (HR1c.out.below hb8)
      clear hb8 HR1c HR2c HR3
      by_cases hpos : 0 < P.length
      · have hG := HMa.out hpos
        subst hG
        have hpos' : 0 < (P.length : Int) := by omega
        obtain ⟨g1, go1, ge1, _, glo, glc, gc0, gc1, _⟩ := HR18.out 0 (by simp)
        subst ge1
        simp only [Nat.zero_mul, Nat.add_zero] at gc1
        have gc1' : w8.cell? ⟨g1, go1 + 1, none⟩ = some (.int .i64 (P.length : Int)) := gc1
        clear gc0 gc1
        go_wp2_with fail
        go_loopw [23] (fun ti wr => ∃ j : Nat, 1 ≤ j ∧ j ≤ P.length + 1 ∧ ti = .int .i64 j ∧ Below w0.heap.size w0 wr ∧ PRow wr p3 P) (fun ti _ => P.length + 1 - (intOf ti).toNat)
        case atStart => exact ⟨1, Nat.le_refl _, by omega, rfl, HB8.out, HR8.out⟩
        case round =>
          obtain ⟨j, hj1, hjP, rfl, hbel, hrow⟩ := hrel
          have HBj := hid hbel
          have HRj := hid hrow
          clear hbel hrow HB8 HR8
          by_cases hlt : j < P.length
          · obtain ⟨b1, o1, e1, hb1, lo, lc, d0, _, hL⟩ := HRj.out (j - 1) (by omega)
            subst e1
            obtain ⟨b2, o2, e2, hb2, lo2, lc2, f0, _, hL2⟩ := HRj.out j hlt
            cases e2
            have hwj : IntKind.i64.wrap ((j : Int) - 1) = (j : Int) - 1 := by rw [IntKind.wrap_i64]; omega
            have hcm : LB.cmp (atP P (j - 1)).1 (atP P j).1 = -1 := by
              have h := List.pairwise_iff_getElem.1 HPo.out (j - 1) j (by omega) hlt (by omega)
              rw [show atP P (j - 1) = P[j - 1] by simp [atP, show j - 1 < P.length by omega], show atP P j = P[j] by simp [atP, hlt]]
              exact h
            have HCl : Hid (∀ W, Below wr.heap.size wr W → W.cell? ⟨b1, o1 + (j - 1) * 2, none⟩ = some (.slice lo (atP P (j - 1)).1.length lc) ∧ W.cell? ⟨b1, o1 + j * 2, none⟩ = some (.slice lo2 (atP P j).1.length lc2)) := fun W hW => ⟨(hW.cell (p := ⟨b1, _, none⟩) hb1).trans d0, (hW.cell (p := ⟨b1, _, none⟩) hb1).trans f0⟩
            have HCm : Hid (∀ W, Below wr.heap.size wr W → Calls Tryz.prog 20 #[.slice lo (atP P (j - 1)).1.length lc, .slice lo2 (atP P j).1.length lc2] W fun e w' => e = .returned (.int .i64 (-1)) ∧ Below wr.heap.size wr w') := fun W hW => by
              have h := cmp_any lo lo2 (atP P (j - 1)).1 (atP P j).1 lc lc2 W (hL.below hW) (hL2.below hW) (HFw.out.lab _ (atP_mem (l := P) (by omega))) (HFw.out.lab _ (atP_mem (l := P) hlt))
              rw [hcm] at h
              exact h.mono fun e w' ⟨h1, h2⟩ => ⟨h1, bel2 hW h2⟩
            clear d0 f0 hL hL2 hcm
            generalize (atP P (j - 1)).1.length = ln1 at *
            generalize (atP P j).1.length = ln2 at *
            go_wp2_with fail
            refine wp_region_class (fun W => Below wr.heap.size wr W) (by kernel_rfl) (by kernel_rfl) (Below.refl _ wr).drew ?_
            refine q_run (.slice (some ⟨b1, o1, none⟩) P.length c3) (by kernel_rfl) (fun W _ => by kernel_rfl) ?_
            go_frame
            refine q_run (.int .i64 (j : Int)) (by kernel_rfl) (fun W _ => by kernel_rfl) ?_
            go_frame
            refine q_run (.int .i64 ((j : Int) - 1)) (by kernel_rfl) (fun W _ => by unfold execOp; go_simp) ?_
            go_frame
            refine q_index (.pointer (some ⟨b1, o1 + (j - 1) * 2, none⟩)) (by kernel_rfl) rfl (by kernel_rfl) (by kernel_rfl) (pt_ixm b1 o1 P.length c3 j hj1 (by omega)) ?_
            go_frame
            refine q_run (.pointer (some ⟨b1, o1 + (j - 1) * 2, none⟩)) (by kernel_rfl) (fun W _ => by kernel_rfl) ?_
            go_frame
            refine q_load (.slice lo ln1 lc) (by kernel_rfl) rfl (by kernel_rfl) (fun W hW => pt_loadL b1 (o1 + (j - 1) * 2) lo ln1 lc W (HCl.out W hW).1) ?_
            go_frame
            refine q_run (.slice (some ⟨b1, o1, none⟩) P.length c3) (by kernel_rfl) (fun W _ => by kernel_rfl) ?_
            go_frame
            refine q_run (.int .i64 (j : Int)) (by kernel_rfl) (fun W _ => by kernel_rfl) ?_
            go_frame
            refine q_index (.pointer (some ⟨b1, o1 + j * 2, none⟩)) (by kernel_rfl) rfl (by kernel_rfl) (by kernel_rfl) (pt_index b1 o1 P.length c3 j hlt) ?_
            go_frame
            refine q_run (.pointer (some ⟨b1, o1 + j * 2, none⟩)) (by kernel_rfl) (fun W _ => by kernel_rfl) ?_
            go_frame
            refine q_load (.slice lo2 ln2 lc2) (by kernel_rfl) rfl (by kernel_rfl) (fun W hW => pt_loadL b1 (o1 + j * 2) lo2 ln2 lc2 W (HCl.out W hW).2) ?_
            go_frame
            refine q_call (.int .i64 (-1)) (by kernel_rfl) (fun W => by kernel_rfl) (fun W hW => HCm.out W hW) ?_
            go_frame
            refine q_run (.bool false) (by kernel_rfl) (fun W _ => by kernel_rfl) ?_
            go_frame
            refine wpQuiet_nil ?_
            intro w9 hb9
            have HB9 := hid (HBj.out.trans (hb9.mono HBj.out.size))
            have HR9 := hid (HRj.out.below hb9)
            clear hb9 HCl HCm
            go_wp2_with fail
            go_roundw
            case rel => exact ⟨j + 1, by omega, by omega, by go_num, HB9.out, HR9.out⟩
            case measure => simp [intOf]; omega
          · go_wp2_with fail
            go_ret
            exact ⟨rfl, HBj.out⟩
      · have hpos' : ¬ 0 < (P.length : Int) := by omega
        go_wp2_with fail
        go_loopw [23] (fun ti wr => ∃ j : Nat, 1 ≤ j ∧ j ≤ P.length + 1 ∧ ti = .int .i64 j ∧ Below w0.heap.size w0 wr ∧ PRow wr p3 P) (fun ti _ => P.length + 1 - (intOf ti).toNat)
        case atStart => exact ⟨1, Nat.le_refl _, by omega, rfl, HB8.out, HR8.out⟩
        case round =>
          obtain ⟨j, hj1, hjP, rfl, hbel, hrow⟩ := hrel
          have HBj := hid hbel
          have HRj := hid hrow
          clear hbel hrow HB8 HR8
          by_cases hlt : j < P.length
          · obtain ⟨b1, o1, e1, hb1, lo, lc, d0, _, hL⟩ := HRj.out (j - 1) (by omega)
            subst e1
            obtain ⟨b2, o2, e2, hb2, lo2, lc2, f0, _, hL2⟩ := HRj.out j hlt
            cases e2
            have hwj : IntKind.i64.wrap ((j : Int) - 1) = (j : Int) - 1 := by rw [IntKind.wrap_i64]; omega
            have hcm : LB.cmp (atP P (j - 1)).1 (atP P j).1 = -1 := by
              have h := List.pairwise_iff_getElem.1 HPo.out (j - 1) j (by omega) hlt (by omega)
              rw [show atP P (j - 1) = P[j - 1] by simp [atP, show j - 1 < P.length by omega], show atP P j = P[j] by simp [atP, hlt]]
              exact h
            have HCl : Hid (∀ W, Below wr.heap.size wr W → W.cell? ⟨b1, o1 + (j - 1) * 2, none⟩ = some (.slice lo (atP P (j - 1)).1.length lc) ∧ W.cell? ⟨b1, o1 + j * 2, none⟩ = some (.slice lo2 (atP P j).1.length lc2)) := fun W hW => ⟨(hW.cell (p := ⟨b1, _, none⟩) hb1).trans d0, (hW.cell (p := ⟨b1, _, none⟩) hb1).trans f0⟩
            have HCm : Hid (∀ W, Below wr.heap.size wr W → Calls Tryz.prog 20 #[.slice lo (atP P (j - 1)).1.length lc, .slice lo2 (atP P j).1.length lc2] W fun e w' => e = .returned (.int .i64 (-1)) ∧ Below wr.heap.size wr w') := fun W hW => by
              have h := cmp_any lo lo2 (atP P (j - 1)).1 (atP P j).1 lc lc2 W (hL.below hW) (hL2.below hW) (HFw.out.lab _ (atP_mem (l := P) (by omega))) (HFw.out.lab _ (atP_mem (l := P) hlt))
              rw [hcm] at h
              exact h.mono fun e w' ⟨h1, h2⟩ => ⟨h1, bel2 hW h2⟩
            clear d0 f0 hL hL2 hcm
            generalize (atP P (j - 1)).1.length = ln1 at *
            generalize (atP P j).1.length = ln2 at *
            go_wp2_with fail
            refine wp_region_class (fun W => Below wr.heap.size wr W) (by kernel_rfl) (by kernel_rfl) (Below.refl _ wr).drew ?_
            refine q_run (.slice (some ⟨b1, o1, none⟩) P.length c3) (by kernel_rfl) (fun W _ => by kernel_rfl) ?_
            go_frame
            refine q_run (.int .i64 (j : Int)) (by kernel_rfl) (fun W _ => by kernel_rfl) ?_
            go_frame
            refine q_run (.int .i64 ((j : Int) - 1)) (by kernel_rfl) (fun W _ => by unfold execOp; go_simp) ?_
            go_frame
            refine q_index (.pointer (some ⟨b1, o1 + (j - 1) * 2, none⟩)) (by kernel_rfl) rfl (by kernel_rfl) (by kernel_rfl) (pt_ixm b1 o1 P.length c3 j hj1 (by omega)) ?_
            go_frame
            refine q_run (.pointer (some ⟨b1, o1 + (j - 1) * 2, none⟩)) (by kernel_rfl) (fun W _ => by kernel_rfl) ?_
            go_frame
            refine q_load (.slice lo ln1 lc) (by kernel_rfl) rfl (by kernel_rfl) (fun W hW => pt_loadL b1 (o1 + (j - 1) * 2) lo ln1 lc W (HCl.out W hW).1) ?_
            go_frame
            refine q_run (.slice (some ⟨b1, o1, none⟩) P.length c3) (by kernel_rfl) (fun W _ => by kernel_rfl) ?_
            go_frame
            refine q_run (.int .i64 (j : Int)) (by kernel_rfl) (fun W _ => by kernel_rfl) ?_
            go_frame
            refine q_index (.pointer (some ⟨b1, o1 + j * 2, none⟩)) (by kernel_rfl) rfl (by kernel_rfl) (by kernel_rfl) (pt_index b1 o1 P.length c3 j hlt) ?_
            go_frame
            refine q_run (.pointer (some ⟨b1, o1 + j * 2, none⟩)) (by kernel_rfl) (fun W _ => by kernel_rfl) ?_
            go_frame
            refine q_load (.slice lo2 ln2 lc2) (by kernel_rfl) rfl (by kernel_rfl) (fun W hW => pt_loadL b1 (o1 + j * 2) lo2 ln2 lc2 W (HCl.out W hW).2) ?_
            go_frame
            refine q_call (.int .i64 (-1)) (by kernel_rfl) (fun W => by kernel_rfl) (fun W hW => HCm.out W hW) ?_
            go_frame
            refine q_run (.bool false) (by kernel_rfl) (fun W _ => by kernel_rfl) ?_
            go_frame
            refine wpQuiet_nil ?_
            intro w9 hb9
            have HB9 := hid (HBj.out.trans (hb9.mono HBj.out.size))
            have HR9 := hid (HRj.out.below hb9)
            clear hb9 HCl HCm
            go_wp2_with fail
            go_roundw
            case rel => exact ⟨j + 1, by omega, by omega, by go_num, HB9.out, HR9.out⟩
            case measure => simp [intOf]; omega
          · go_wp2_with fail
            go_ret
            exact ⟨rfl, HBj.out⟩

end Go.Proofs.YtdmnlmohfaafoaeGreatDoor

