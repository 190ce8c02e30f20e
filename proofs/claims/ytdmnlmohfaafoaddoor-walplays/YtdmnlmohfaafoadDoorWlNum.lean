/- Notes one behind the other, plain: how they lie in a file, what is torn, and what a wal's acts make of its files. No program in it. -/
import Derived.Test.YtdmnlmohfaafoadDoorDkNum
namespace Go.Proofs.YtdmnlmohfaafoadDoor
namespace WL

/-- A note as it lies in a file: how many bytes, in two of them, and these. -/
def enc (s : ByteArray) : ByteArray := ⟨#[UInt8.ofNat (s.size / 256), UInt8.ofNat (s.size % 256)]⟩ ++ s

/-- Notes one behind the other. -/
def joined : List ByteArray → ByteArray
  | [] => ByteArray.empty
  | s :: l => enc s ++ joined l

theorem bext {a b : ByteArray} (h : a.data.toList = b.data.toList) : a = b := by
  cases a; cases b
  simp at h
  rw [h]

theorem data_append (a b : ByteArray) : (a ++ b).data.toList = a.data.toList ++ b.data.toList := by simp

theorem size_data (a : ByteArray) : a.data.toList.length = a.size := by rw [Array.length_toList]; rfl

theorem enc_data (s : ByteArray) : (enc s).data.toList = UInt8.ofNat (s.size / 256) :: UInt8.ofNat (s.size % 256) :: s.data.toList := by
  unfold enc
  rw [data_append]
  rfl

theorem enc_size (s : ByteArray) : (enc s).size = 2 + s.size := by
  rw [← size_data, enc_data, List.length_cons, List.length_cons, size_data]
  omega

theorem joined_append (a b : List ByteArray) : joined (a ++ b) = joined a ++ joined b := by
  induction a with
  | nil => apply bext; rw [data_append]; rfl
  | cons s l ih =>
    show enc s ++ joined (l ++ b) = (enc s ++ joined l) ++ joined b
    rw [ih, ByteArray.append_assoc]

theorem append_empty (a : ByteArray) : a ++ ByteArray.empty = a := by apply bext; rw [data_append]; simp

theorem empty_append (a : ByteArray) : ByteArray.empty ++ a = a := by apply bext; rw [data_append]; simp

theorem joined_one (a : List ByteArray) (s : ByteArray) : joined (a ++ [s]) = joined a ++ enc s := by
  rw [joined_append]
  show joined a ++ (enc s ++ ByteArray.empty) = _
  rw [append_empty]

theorem extract_app (a b : ByteArray) (m : Nat) : (a ++ b).extract 0 (a.size + m) = a ++ b.extract 0 m := by
  apply bext
  have z := size_data a
  have e1 : ((a ++ b).extract 0 (a.size + m)).data.toList = (a.data.toList ++ b.data.toList).take (a.size + m) := by
    rw [ByteArray.data_extract, Array.toList_extract, data_append, List.extract_eq_take_drop, List.drop_zero, Nat.sub_zero]
  have e2 : (b.extract 0 m).data.toList = b.data.toList.take m := by simp [ByteArray.data_extract, Array.toList_extract]
  rw [e1, data_append, e2, ← z, List.take_length_add_append]

theorem extract_rest (a b : ByteArray) : (a ++ b).extract a.size (a.size + b.size) = b := by
  apply bext
  have z := size_data a
  have z2 := size_data b
  rw [ByteArray.data_extract, Array.toList_extract, data_append, List.extract_eq_take_drop, ← z, List.drop_left, ← z2, Nat.add_sub_cancel_left, List.take_length]

/-- How many bytes the next note has. -/
def hdr : List UInt8 → Nat
  | a :: b :: _ => 256 * a.toNat + b.toNat
  | _ => 0

/-- What is no whole note. -/
def Torn (r : ByteArray) : Prop := r.size < 2 + hdr r.data.toList

theorem Torn.empty : Torn ByteArray.empty := by unfold Torn; show 0 < 2 + _; omega

theorem hdr_enc (s : ByteArray) (h : s.size < 65536) (l : List UInt8) : hdr ((enc s).data.toList ++ l) = s.size := by
  rw [enc_data]
  show 256 * (UInt8.ofNat _).toNat + (UInt8.ofNat _).toNat = _
  simp only [UInt8.toNat_ofNat']
  omega

/-- Small ones. -/
def Sm (l : List ByteArray) : Prop := ∀ s ∈ l, s.size < 65536

theorem Sm.append {a b : List ByteArray} (ha : Sm a) (hb : Sm b) : Sm (a ++ b) := fun s hs => (List.mem_append.1 hs).elim (ha s) (hb s)

theorem Sm.one {s : ByteArray} (h : s.size < 65536) : Sm [s] := fun t ht => by rw [List.mem_singleton.1 ht]; exact h

/-- There is one way to read notes. -/
theorem unique : ∀ {a b : List ByteArray} {r r' : ByteArray}, Sm a → Sm b → Torn r → Torn r' → joined a ++ r = joined b ++ r' → a = b ∧ r = r'
  | [], [], r, r', _, _, _, _, h => by
    refine ⟨rfl, ?_⟩
    have := congrArg (fun x => x.data.toList) h
    simp only [data_append] at this
    exact bext (by simpa [joined] using this)
  | [], s :: b, r, r', _, hb, hr, _, h => by
    exfalso
    have hd : r.data.toList = (enc s).data.toList ++ ((joined b).data.toList ++ r'.data.toList) := by
      have := congrArg (fun x => x.data.toList) h
      simp only [data_append, joined] at this
      simpa using this
    have hh := hdr_enc s (hb s (by simp)) ((joined b).data.toList ++ r'.data.toList)
    unfold Torn at hr
    rw [← hd] at hh
    have hl := congrArg List.length hd
    rw [List.length_append, size_data, size_data, enc_size] at hl
    omega
  | s :: a, [], r, r', ha, _, _, hr', h => by
    exfalso
    have hd : r'.data.toList = (enc s).data.toList ++ ((joined a).data.toList ++ r.data.toList) := by
      have := congrArg (fun x => x.data.toList) h
      simp only [data_append, joined] at this
      simpa using this.symm
    have hh := hdr_enc s (ha s (by simp)) ((joined a).data.toList ++ r.data.toList)
    unfold Torn at hr'
    rw [← hd] at hh
    have hl := congrArg List.length hd
    rw [List.length_append, size_data, size_data, enc_size] at hl
    omega
  | s :: a, t :: b, r, r', ha, hb, hr, hr', h => by
    have hd : (enc s).data.toList ++ ((joined a).data.toList ++ r.data.toList) = (enc t).data.toList ++ ((joined b).data.toList ++ r'.data.toList) := by
      have := congrArg (fun x => x.data.toList) h
      simp only [data_append, joined] at this
      simpa using this
    have h1 := hdr_enc s (ha s (by simp)) ((joined a).data.toList ++ r.data.toList)
    have h2 := hdr_enc t (hb t (by simp)) ((joined b).data.toList ++ r'.data.toList)
    rw [hd, h2] at h1
    obtain ⟨e1, e2⟩ := List.append_inj hd (by rw [size_data, size_data, enc_size, enc_size, h1])
    have est : s = t := by
      rw [enc_data, enc_data, h1] at e1
      exact bext (List.cons.inj (List.cons.inj e1).2).2
    have e3 : joined a ++ r = joined b ++ r' := bext (by rw [data_append, data_append]; exact e2)
    obtain ⟨e4, e5⟩ := unique (fun x hx => ha x (by simp [hx])) (fun x hx => hb x (by simp [hx])) hr hr' e3
    exact ⟨by rw [est, e4], e5⟩

/-- A beginning of a note is torn, or all of it. -/
theorem torn_part (s : ByteArray) (hs : s.size < 65536) (m : Nat) (h : m < (enc s).size) : Torn ((enc s).extract 0 m) := by
  unfold Torn
  have hz : ((enc s).extract 0 m).size = m := by rw [ByteArray.size_extract]; omega
  rw [hz]
  by_cases h2 : m < 2
  · omega
  · have hd : ((enc s).extract 0 m).data.toList = ((enc s).data.toList).take m := by
      simp [ByteArray.data_extract, Array.toList_extract]
    rw [enc_size] at h
    rw [hd, enc_data]
    obtain ⟨k, rfl⟩ : ∃ k, m = k + 2 := ⟨m - 2, by omega⟩
    have hh : hdr (List.take (k + 2) (UInt8.ofNat (s.size / 256) :: UInt8.ofNat (s.size % 256) :: s.data.toList)) = s.size := by
      show 256 * (UInt8.ofNat _).toNat + (UInt8.ofNat _).toNat = _
      simp only [UInt8.toNat_ofNat']
      omega
    rw [hh]
    omega

theorem whole_part (s : ByteArray) (m : Nat) (h : (enc s).size ≤ m) : (enc s).extract 0 m = enc s := by
  apply bext
  simp only [ByteArray.data_extract, Array.toList_extract]
  simp
  rw [List.take_of_length_le]
  rw [size_data]; exact h

/-- A whole note at the beginning. -/
theorem cut_note (r : ByteArray) (H : Nat) (hh : hdr r.data.toList = H) (h2 : 2 ≤ r.size) (h : 2 + H ≤ r.size) : (r.extract 2 (2 + H)).size = H ∧ ∃ r', r = enc (r.extract 2 (2 + H)) ++ r' := by
  have hs : (r.extract 2 (2 + H)).size = H := by rw [ByteArray.size_extract]; omega
  refine ⟨hs, ?_⟩
  have hz := size_data r
  have hx : (r.extract 2 (2 + H)).data.toList = (r.data.toList.drop 2).take H := by
    rw [ByteArray.data_extract, Array.toList_extract, List.extract_eq_take_drop, Nat.add_sub_cancel_left]
  have key : ∀ l : List UInt8, r.data.toList = l → ∃ r' : ByteArray, r = enc (r.extract 2 (2 + H)) ++ r' := by
    intro l hl
    match l, hl with
    | [], hl => rw [hl] at hz; simp at hz; omega
    | [a], hl => rw [hl] at hz; simp at hz; omega
    | a :: b :: t, hl =>
      refine ⟨⟨(t.drop H).toArray⟩, bext ?_⟩
      rw [data_append, enc_data, hs, hx, hl]
      rw [hl] at hh
      have hh' : 256 * a.toNat + b.toNat = H := hh
      have hb := UInt8.toNat_lt b
      have ea : UInt8.ofNat (H / 256) = a := by
        have : H / 256 = a.toNat := by omega
        rw [this]; exact UInt8.ofNat_toNat
      have eb : UInt8.ofNat (H % 256) = b := by
        have : H % 256 = b.toNat := by omega
        rw [this]; exact UInt8.ofNat_toNat
      rw [ea, eb]
      simp
  exact key _ rfl

/-- What an act answers, and what it makes of the files and the power. -/
abbrev Out := Int × DK.M × Int

def act (a : Nat) (n s : ByteArray) (D : DK.M) (p : Int) : Out := (DK.code a D p n s, DK.aftD a D p n s, DK.aftP a D p n s)

/-- One behind the other, while no error is told. -/
def seq (r : Out) (f : DK.M → Int → Out) : Out := if r.1 = 0 then f r.2.1 r.2.2 else r

/-- It is right that a file is not there. -/
def bear (r : Out) : Out := (if r.1 = 7 then 0 else r.1, r.2)

/-- One file takes another one's place. -/
def repl (K F t : ByteArray) (D : DK.M) (p : Int) : Out :=
  seq (bear (act 3 F ByteArray.empty D p)) fun D p => seq (act 0 F t D p) fun D p => seq (act 1 F ByteArray.empty D p) fun D p => act 2 F K D p

/-- A note behind the others. -/
def addO (K s : ByteArray) (D : DK.M) (p : Int) : Out := seq (act 0 K (enc s) D p) fun D p => act 1 K ByteArray.empty D p

/-- What is there is made safe; what is torn goes. -/
def settl (K F t : ByteArray) (n : Nat) (D : DK.M) (p : Int) : Out :=
  if n < t.size then repl K F (t.extract 0 n) D p else seq (bear (act 3 F ByteArray.empty D p)) fun D p => bear (act 1 K ByteArray.empty D p)

section
variable {K F : ByteArray}

/-- The notes ns lie in the file K, all of it safe, and there is no other file. -/
structure Set (K F : ByteArray) (D : DK.M) (ns : List ByteArray) : Prop where
  ne : K ≠ F
  nk : DK.named K = true
  nf : DK.named F = true
  oth : ∀ n, n ≠ K → D n = none
  kep : (D K = none ∧ ns = []) ∨ D K = some ⟨joined ns, (joined ns).size, true⟩

/-- The notes ns lie in the file K, and perhaps what is torn behind them; there is perhaps the file F. -/
structure Rdy (K F : ByteArray) (D : DK.M) (ns : List ByteArray) : Prop where
  ne : K ≠ F
  nk : DK.named K = true
  nf : DK.named F = true
  oth : ∀ n, n ≠ K → n ≠ F → D n = none
  kep : (D K = none ∧ ns = []) ∨ ∃ r f, D K = some f ∧ f.b = joined ns ++ r ∧ Torn r

theorem Set.rdy {D : DK.M} {ns : List ByteArray} (h : Set K F D ns) : Rdy K F D ns := ⟨h.ne, h.nk, h.nf, fun n h1 _ => h.oth n h1, by
  rcases h.kep with h1 | h1
  · exact .inl h1
  · exact .inr ⟨ByteArray.empty, _, h1, (append_empty _).symm, Torn.empty⟩⟩

theorem Set.noF {D : DK.M} {ns : List ByteArray} (h : Set K F D ns) : D F = none := h.oth F (fun e => h.ne e.symm)

theorem act_ok {a : Nat} {n s : ByteArray} {D : DK.M} {p : Int} (h0 : a = 0 → DK.named n = true) (h2 : a = 2 → DK.named s = true) (hD : a ≠ 0 → D n ≠ none) (hp : p ≠ 0) : act a n s D p = (0, DK.next a D n s, DK.dec p) := by
  have hc := DK.code_ok (a := a) (p := p) (s := s) h0 h2 hD hp
  unfold act DK.aftD DK.aftP
  rw [hc, if_pos rfl, if_pos rfl]

theorem act_off {a : Nat} {n s : ByteArray} {D : DK.M} (h0 : a = 0 → DK.named n = true) (h2 : a = 2 → DK.named s = true) (hD : a ≠ 0 → D n ≠ none) : act a n s D 0 = (14, D, 0) := by
  have hc := DK.code_off (a := a) (s := s) h0 h2 hD
  unfold act DK.aftD DK.aftP
  rw [hc, if_neg (by omega), if_neg (by omega)]

theorem act_gone {a : Nat} {n s : ByteArray} {D : DK.M} {p : Int} (ha : a ≠ 0) (h2 : a = 2 → DK.named s = true) (hD : D n = none) : act a n s D p = (7, D, p) := by
  have hc := DK.code_missing (a := a) (p := p) (s := s) ha h2 hD
  unfold act DK.aftD DK.aftP
  rw [hc, if_neg (by omega), if_neg (by omega)]

theorem next0_none {D : DK.M} {n s : ByteArray} (h : D n = none) : DK.next 0 D n s = DK.put D n ⟨s, 0, false⟩ := by
  unfold DK.next DK.gr
  rw [h]
  show DK.put D n ⟨ByteArray.empty ++ s, 0, false⟩ = _
  rw [empty_append]

theorem next0_some {D : DK.M} {n s : ByteArray} {f : DK.Fl} (h : D n = some f) : DK.next 0 D n s = DK.put D n ⟨f.b ++ s, f.s, f.k⟩ := by
  unfold DK.next DK.gr
  rw [h]; rfl

theorem next1_some {D : DK.M} {n s : ByteArray} {f : DK.Fl} (h : D n = some f) : DK.next 1 D n s = DK.put D n ⟨f.b, f.b.size, true⟩ := by
  unfold DK.next
  rw [h]; rfl

theorem next2_some {D : DK.M} {n s : ByteArray} {f : DK.Fl} (h : D n = some f) : DK.next 2 D n s = DK.put (DK.del D n) s f := by
  unfold DK.next
  rw [h]; rfl

theorem next3 {D : DK.M} {n s : ByteArray} : DK.next 3 D n s = DK.del D n := rfl

theorem dec_m1 : DK.dec (-1) = -1 := rfl

theorem seq_ok {D : DK.M} {p : Int} {f : DK.M → Int → Out} : seq (0, D, p) f = f D p := by unfold seq; rw [if_pos rfl]
theorem seq_off {D : DK.M} {p : Int} {f : DK.M → Int → Out} : seq (14, D, p) f = (14, D, p) := by unfold seq; rw [if_neg (by omega)]
theorem bear_ok {D : DK.M} {p : Int} : bear (0, D, p) = (0, D, p) := rfl
theorem bear_gone {D : DK.M} {p : Int} : bear (7, D, p) = (0, D, p) := rfl

theorem dec_pos {p : Int} (h : 0 < p) : DK.dec p = p - 1 := by unfold DK.dec; rw [if_pos h]

/-- What takes a place, all with power. -/
theorem repl_on {D : DK.M} {p : Int} (ns : List ByteArray) (ne : K ≠ F) (nk : DK.named K = true) (nf : DK.named F = true) (oth : ∀ n, n ≠ K → n ≠ F → D n = none) (hp : p = -1 ∨ 3 < p ∨ (p = 3 ∧ D F = none)) :
    ∃ D', repl K F (joined ns) D p = (0, D', (repl K F (joined ns) D p).2.2) ∧ Set K F D' ns ∧ (p = -1 → (repl K F (joined ns) D p).2.2 = -1) := by
  have key : ∀ (D1 : DK.M) (q : Int), D1 F = none → (∀ n, n ≠ K → n ≠ F → D1 n = none) → (q = -1 ∨ 2 < q) →
      ∃ D', seq (act 0 F (joined ns) D1 q) (fun D p => seq (act 1 F ByteArray.empty D p) fun D p => act 2 F K D p) = (0, D', DK.dec (DK.dec (DK.dec q))) ∧ Set K F D' ns := by
    intro D1 q h0 ho hq
    have q0 : q ≠ 0 := by omega
    have q1 : DK.dec q ≠ 0 := by unfold DK.dec; split <;> omega
    have q2 : DK.dec (DK.dec q) ≠ 0 := by unfold DK.dec; split <;> (try split) <;> omega
    rw [act_ok (fun _ => nf) (by omega) (by omega) q0, seq_ok, next0_none h0]
    have e1 : DK.put D1 F ⟨joined ns, 0, false⟩ F = some ⟨joined ns, 0, false⟩ := DK.put_same _ _ _
    rw [act_ok (a := 1) (by omega) (by omega) (fun _ => by rw [e1]; simp) q1, seq_ok, next1_some e1, DK.put_put]
    have e2 : DK.put D1 F ⟨joined ns, (joined ns).size, true⟩ F = some ⟨joined ns, (joined ns).size, true⟩ := DK.put_same _ _ _
    rw [act_ok (a := 2) (by omega) (fun _ => nk) (fun _ => by rw [e2]; simp) q2, next2_some e2]
    refine ⟨_, rfl, ne, nk, nf, fun n hn => ?_, .inr (DK.put_same _ _ _)⟩
    rw [DK.put_other _ _ _ _ hn]
    by_cases e : n = F
    · rw [e, DK.del_same]
    · rw [DK.del_other _ _ _ e, DK.put_other _ _ _ _ e]
      exact ho n hn e
  unfold repl
  cases hF : D F with
  | none =>
    rw [act_gone (by omega) (by omega) hF, bear_gone, seq_ok]
    obtain ⟨D', h1, h2⟩ := key D p hF oth (by omega)
    rw [h1]
    exact ⟨D', rfl, h2, fun e => by rw [e]; rfl⟩
  | some f =>
    have hp' : p = -1 ∨ 3 < p := by
      rcases hp with h | h | h
      · exact .inl h
      · exact .inr h
      · rw [hF] at h; cases h.2
    rw [act_ok (a := 3) (by omega) (by omega) (fun _ => by rw [hF]; simp) (by omega), bear_ok, seq_ok, next3]
    obtain ⟨D', h1, h2⟩ := key (DK.del D F) (DK.dec p) (DK.del_same _ _) (fun n h1 h2 => by rw [DK.del_other _ _ _ h2]; exact oth n h1 h2) (by unfold DK.dec; split <;> omega)
    rw [h1]
    exact ⟨D', rfl, h2, fun e => by rw [e]; rfl⟩

/-- Opened anew, with power: the notes are those that are whole. -/
theorem settl_on {D : DK.M} {ns : List ByteArray} (h : Rdy K F D ns) {t : ByteArray} (ht : (D K = none ∧ t = ByteArray.empty) ∨ ∃ f, D K = some f ∧ t = f.b) :
    ∃ D', settl K F t (joined ns).size D (-1) = (0, D', -1) ∧ Set K F D' ns := by
  have hrm : ∃ D1, bear (act 3 F ByteArray.empty D (-1)) = (0, D1, -1) ∧ D1 F = none ∧ D1 K = D K ∧ ∀ n, n ≠ K → D1 n = none := by
    cases hF : D F with
    | none =>
      refine ⟨D, by rw [act_gone (by omega) (by omega) hF, bear_gone], hF, rfl, fun n hn => ?_⟩
      by_cases e : n = F
      · rw [e]; exact hF
      · exact h.oth n hn e
    | some f =>
      refine ⟨DK.del D F, by rw [act_ok (a := 3) (by omega) (by omega) (fun _ => by rw [hF]; simp) (by omega), bear_ok, next3, dec_m1], DK.del_same _ _, DK.del_other _ _ _ h.ne, fun n hn => ?_⟩
      by_cases e : n = F
      · rw [e]; exact DK.del_same _ _
      · rw [DK.del_other _ _ _ e]; exact h.oth n hn e
  obtain ⟨D1, r1, r2, r3, r4⟩ := hrm
  have flat : ∀ f, D K = some f → f.b = joined ns → ∃ D', seq (bear (act 3 F ByteArray.empty D (-1))) (fun D p => bear (act 1 K ByteArray.empty D p)) = (0, D', -1) ∧ Set K F D' ns := by
    intro f hf hb
    rw [r1, seq_ok]
    have hf1 : D1 K = some f := r3.trans hf
    rw [act_ok (a := 1) (by omega) (by omega) (fun _ => by rw [hf1]; simp) (by omega), bear_ok, next1_some hf1, dec_m1, hb]
    refine ⟨_, rfl, h.ne, h.nk, h.nf, fun n hn => ?_, .inr (DK.put_same _ _ _)⟩
    rw [DK.put_other _ _ _ _ hn]; exact r4 n hn
  unfold settl
  rcases h.kep with ⟨h1, rfl⟩ | ⟨r, f, hf, hb, hr⟩
  · have ht0 : t = ByteArray.empty := by
      rcases ht with h2 | ⟨f, h2, _⟩
      · exact h2.2
      · rw [h1] at h2; cases h2
    rw [ht0, if_neg (by show ¬ (0 < 0); omega), r1, seq_ok]
    have hk1 : D1 K = none := r3.trans h1
    rw [act_gone (by omega) (by omega) hk1, bear_gone]
    exact ⟨D1, rfl, h.ne, h.nk, h.nf, r4, .inl ⟨hk1, rfl⟩⟩
  · have ht0 : t = joined ns ++ r := by
      rcases ht with h2 | ⟨g, h2, h3⟩
      · rw [hf] at h2; cases h2.1
      · rw [hf] at h2; cases h2; rw [h3, hb]
    have hts : t.size = (joined ns).size + r.size := by rw [ht0, ByteArray.size_append]
    by_cases hr0 : r.size = 0
    · rw [if_neg (by omega)]
      have : r = ByteArray.empty := bext (by
        have := size_data r
        rw [hr0] at this
        rw [List.eq_nil_of_length_eq_zero this]; rfl)
      exact flat f hf (by rw [hb, this, append_empty])
    · rw [if_pos (by omega)]
      have hx : t.extract 0 (joined ns).size = joined ns := by
        have e := extract_app (joined ns) r 0
        rw [← ht0] at e
        rw [Nat.add_zero] at e
        rw [e]
        have : r.extract 0 0 = ByteArray.empty := by apply bext; simp
        rw [this, append_empty]
      rw [hx]
      obtain ⟨D', e1, e2, e3⟩ := repl_on (p := -1) ns h.ne h.nk h.nf h.oth (.inl rfl)
      rw [e1, e3 rfl]
      exact ⟨D', rfl, e2⟩

/-- Behind a start, what lies there is read: what was safe, and perhaps the next bytes. -/
theorem start_rdy {D : DK.M} {ns : List ByteArray} (h : Set K F D ns) (k : Int) : Rdy K F (DK.start D k) ns := by
  refine ⟨h.ne, h.nk, h.nf, fun n hn _ => DK.start_none (h.oth n hn), ?_⟩
  rcases h.kep with ⟨h1, h2⟩ | h1
  · exact .inl ⟨DK.start_none h1, h2⟩
  · refine .inr ⟨ByteArray.empty, _, (DK.start_some h1).trans (by rw [if_pos (by unfold DK.stay; rfl)]), ?_, Torn.empty⟩
    rw [append_empty]
    unfold DK.keepB
    apply bext
    simp only [ByteArray.data_extract, Array.toList_extract]
    have := size_data (joined ns)
    simp
    rw [List.take_of_length_le]
    rw [this]; omega

/-- A note is added: an error is told just if there is too little power, and then it is there behind a start, or not. -/
theorem add_out {D : DK.M} {ns : List ByteArray} (h : Set K F D ns) {s : ByteArray} (hs : s.size < 65536) {p : Int} (hp : -1 ≤ p) :
    (∃ D' p', addO K s D p = (0, D', p') ∧ Set K F D' (ns ++ [s]) ∧ (p = -1 → p' = -1)) ∨ (p ≠ -1 ∧ ∃ D' p', addO K s D p = (14, D', p') ∧ ∀ k, Rdy K F (DK.start D' k) ns ∨ Rdy K F (DK.start D' k) (ns ++ [s])) := by
  unfold addO
  by_cases h0 : p = 0
  · subst h0
    rw [act_off (fun _ => h.nk) (by omega) (by omega), seq_off]
    exact .inr ⟨by omega, D, 0, rfl, fun k => .inl (start_rdy h k)⟩
  · obtain ⟨f, hf, hfb, hfs⟩ : ∃ f : DK.Fl, DK.next 0 D K (enc s) = DK.put D K f ∧ f.b = joined (ns ++ [s]) ∧ f.s = (joined ns).size := by
      rcases h.kep with ⟨h1, rfl⟩ | h1
      · exact ⟨_, next0_none h1, by rw [joined_one]; exact (empty_append _).symm, rfl⟩
      · exact ⟨_, next0_some h1, (joined_one _ _).symm, rfl⟩
    rw [act_ok (fun _ => h.nk) (by omega) (by omega) h0, seq_ok, hf]
    have e1 : DK.put D K f K = some f := DK.put_same _ _ _
    by_cases h1 : p = 1
    · subst h1
      have : DK.dec 1 = 0 := rfl
      rw [this, act_off (a := 1) (by omega) (by omega) (fun _ => by rw [e1]; simp)]
      refine .inr ⟨by omega, _, 0, rfl, fun k => ?_⟩
      have oth : ∀ n, n ≠ K → n ≠ F → DK.start (DK.put D K f) k n = none := fun n hn _ => DK.start_none (by rw [DK.put_other _ _ _ _ hn]; exact h.oth n hn)
      have hst := DK.start_some (c := k) e1
      by_cases hsy : DK.stay f k = true
      · rw [if_pos hsy] at hst
        have hkb : (DK.keepB f k.toNat).b = joined ns ++ (enc s).extract 0 (min k.toNat (enc s).size) := by
          unfold DK.keepB
          have hsz : f.b.size = (joined ns).size + (enc s).size := by rw [hfb, joined_one, ByteArray.size_append]
          show f.b.extract 0 (f.s + min k.toNat (f.b.size - f.s)) = _
          rw [hfs, hsz, hfb, joined_one]
          have e2 : (joined ns).size + (enc s).size - (joined ns).size = (enc s).size := by omega
          rw [e2, extract_app]
        by_cases hm : (enc s).size ≤ k.toNat
        · refine .inr ⟨h.ne, h.nk, h.nf, oth, .inr ⟨ByteArray.empty, _, hst, ?_, Torn.empty⟩⟩
          rw [hkb, whole_part _ _ (by omega), append_empty, joined_one]
        · exact .inl ⟨h.ne, h.nk, h.nf, oth, .inr ⟨_, _, hst, hkb, torn_part s hs _ (by omega)⟩⟩
      · rw [if_neg hsy] at hst
        refine .inl ⟨h.ne, h.nk, h.nf, oth, .inl ⟨hst, ?_⟩⟩
        rcases h.kep with ⟨_, h2⟩ | h2
        · exact h2
        · exfalso
          have hk : f.k = true := by
            have e3 := next0_some (s := enc s) h2
            rw [hf] at e3
            have := congrFun e3 K
            rw [DK.put_same, DK.put_same] at this
            exact (Option.some.inj this) ▸ rfl
          unfold DK.stay at hsy
          rw [hk] at hsy
          exact hsy rfl
    · have q1 : DK.dec p ≠ 0 := by unfold DK.dec; split <;> omega
      rw [act_ok (a := 1) (by omega) (by omega) (fun _ => by rw [e1]; simp) q1, next1_some e1, DK.put_put]
      refine .inl ⟨_, _, rfl, ⟨h.ne, h.nk, h.nf, fun n hn => ?_, .inr ?_⟩, fun e => by rw [e]; rfl⟩
      · rw [DK.put_other _ _ _ _ hn]; exact h.oth n hn
      · rw [DK.put_same, hfb]

/-- The notes are others: an error is told just if there is too little power, and then they are those of before behind a start. -/
theorem set_out {D : DK.M} {ns : List ByteArray} (h : Set K F D ns) (l : List ByteArray) {p : Int} (hp : -1 ≤ p) :
    (∃ D' p', repl K F (joined l) D p = (0, D', p') ∧ Set K F D' l ∧ (p = -1 → p' = -1)) ∨ (p ≠ -1 ∧ ∃ D' p', repl K F (joined l) D p = (14, D', p') ∧ ∀ k, Rdy K F (DK.start D' k) ns) := by
  by_cases hbig : p = -1 ∨ 3 < p ∨ (p = 3 ∧ D F = none)
  · obtain ⟨D', h1, h2, h3⟩ := repl_on (p := p) l h.ne h.nk h.nf (fun n hn _ => h.oth n hn) hbig
    exact .inl ⟨D', _, h1, h2, h3⟩
  · have hF := h.noF
    have still : ∀ (f : DK.Fl) (k : Int), Rdy K F (DK.start (DK.put D F f) k) ns := by
      intro f k
      obtain ⟨a1, a2, a3, a4, a5⟩ := start_rdy h k
      refine ⟨a1, a2, a3, fun n h1 h2 => ?_, ?_⟩
      · exact DK.start_none (by rw [DK.put_other _ _ _ _ h2]; exact h.oth n h1)
      · have e : DK.start (DK.put D F f) k K = DK.start D k K := by
          unfold DK.start
          rw [DK.put_other _ _ _ _ h.ne]
        rw [e]; exact a5
    unfold repl
    rw [act_gone (by omega) (by omega) hF, bear_gone, seq_ok]
    refine .inr ⟨fun e => hbig (.inl e), ?_⟩
    by_cases h0 : p = 0
    · subst h0
      rw [act_off (fun _ => h.nf) (by omega) (by omega), seq_off]
      exact ⟨_, _, rfl, start_rdy h⟩
    · rw [act_ok (fun _ => h.nf) (by omega) (by omega) h0, seq_ok, next0_none hF]
      have e1 : DK.put D F ⟨joined l, 0, false⟩ F = some ⟨joined l, 0, false⟩ := DK.put_same _ _ _
      by_cases h1 : p = 1
      · subst h1
        have : DK.dec 1 = 0 := rfl
        rw [this, act_off (a := 1) (by omega) (by omega) (fun _ => by rw [e1]; simp), seq_off]
        exact ⟨_, _, rfl, still _⟩
      · have h2 : p = 2 := by
          by_cases h3 : p = 3
          · exact absurd (.inr (.inr ⟨h3, hF⟩)) hbig
          · omega
        subst h2
        have d2 : DK.dec 2 = 1 := rfl
        have d1 : DK.dec 1 = 0 := rfl
        rw [d2, act_ok (a := 1) (by omega) (by omega) (fun _ => by rw [e1]; simp) (by omega), seq_ok, next1_some e1, DK.put_put, d1]
        have e2 : DK.put D F ⟨joined l, (joined l).size, true⟩ F = some ⟨joined l, (joined l).size, true⟩ := DK.put_same _ _ _
        rw [act_off (a := 2) (by omega) (fun _ => h.nk) (fun _ => by rw [e2]; simp)]
        exact ⟨_, _, rfl, still _⟩

end

end WL
end Go.Proofs.YtdmnlmohfaafoadDoor
