/- The program's parser: numbers, spans, matchers, names. -/
import Derived.Test.YtdmnlmohfaafoaeDoorAqMem
import Derived.Test.YtdmnlmohfaafoaeDoorShelfQ
import Derived.Lib.ParseIntB
namespace Go.Proofs.YtdmnlmohfaafoaeDoor
open Go.RowKit Go.Shelf

namespace AQ

theorem parseM_of : ∀ (x : List UInt8) (a : Nat), (∀ c ∈ x, isD c = true) → (a + 1) * 10 ^ x.length ≤ 1000000000000000000 → ∃ u : Nat, Lib.parseUintM (2 ^ 64 - 1) a x = .ok u ∧ (u : Int) = digs x a ∧ u < 1000000000000000000
  | [], a, _, h => ⟨a, rfl, rfl, by simp at h; omega⟩
  | c :: x, a, hx, h => by
    have hc : 48 ≤ c.toNat ∧ c.toNat ≤ 57 := by simpa [isD, LB.digit] using hx c (by simp)
    have hp : 0 < 10 ^ x.length := Nat.pow_pos (by omega)
    have e : (a + 1) * 10 ^ (x.length + 1) = ((a + 1) * 10) * 10 ^ x.length := by rw [Nat.pow_succ, Nat.mul_comm (10 ^ x.length) 10, Nat.mul_assoc]
    rw [List.length_cons, e] at h
    have h2 : (a * 10 + (c.toNat - 48) + 1) * 10 ^ x.length ≤ 1000000000000000000 := Nat.le_trans (Nat.mul_le_mul_right _ (by omega)) h
    have h3 : (a + 1) * 10 ≤ 1000000000000000000 := Nat.le_trans (Nat.le_mul_of_pos_right _ hp) h
    obtain ⟨u, e1, e2, e3⟩ := parseM_of x (a * 10 + (c.toNat - 48)) (fun d hd => hx d (by simp [hd])) h2
    refine ⟨u, ?_, ?_, e3⟩
    · rw [← e1]
      conv => lhs; unfold Lib.parseUintM
      rw [if_pos hc, if_neg (by omega), if_neg (by omega)]
    · rw [e2]
      show digs x _ = digs x _
      congr 1
      omega

theorem parse_num {x : List UInt8} (hx : x ≠ []) (hd : ∀ c ∈ x, isD c = true) (h18 : x.length ≤ 18) : Lib.parseIntB 64 x = .ok (digs x 0) := by
  have hp : (0 + 1) * 10 ^ x.length ≤ 1000000000000000000 := by
    have := Nat.pow_le_pow_right (n := 10) (by omega) h18
    omega
  obtain ⟨u, e1, e2, e3⟩ := parseM_of x 0 hd hp
  cases x with
  | nil => exact absurd rfl hx
  | cons c r =>
    have hc : 48 ≤ c.toNat ∧ c.toNat ≤ 57 := by simpa [isD, LB.digit] using hd c (by simp)
    have h1 : ¬ c.toNat = 43 := by omega
    have h2 : ¬ c.toNat = 45 := by omega
    have e4 : Lib.parseUintB 64 (c :: r) = .ok u := by unfold Lib.parseUintB; rw [if_neg (by simp)]; exact e1
    have h4 : ¬ 2 ^ (64 - 1) ≤ u := by have : (2 : Nat) ^ (64 - 1) = 9223372036854775808 := by decide
                                       omega
    unfold Lib.parseIntB
    simp only [h1, h2, or_self, if_false, e4, not_false_eq_true, true_and, false_and, h4]
    exact congrArg _ e2

end AQ

theorem bytes_below (w : World) (e : TypeId) (t : ByteArray) : Below w.heap.size w (Lib.bytesWorld w e t) := ⟨rfl, rfl, rfl, by rw [Lib.bytesWorld_size]; omega, fun k hk => Lib.bytesWorld_at_old w e t k hk⟩

set_option maxRecDepth 100000 in
theorem pnum_any {bt : Nat} (bp : Nat) (l : List AQ.Tok) (w : World) (h : Pr w bp bt l) (hf : AQ.FitL l) :
    Calls Tryd.prog 158 #[.pointer (some ⟨bp, 0, none⟩)] w fun e w' => PEnd VI w w' bp bt e (AQ.numR l) := by
  have HC := hid (needK_any bp l 1 (by decide) w h)
  have HF := hid hf
  clear h hf
  go_enter Tryd.func158, Tryd.ntmps158
  go_wp2_with fail
  refine HC.out.mono ?_
  intro e w1 hE
  rcases hR : AQ.needK 1 l with ⟨t, r⟩ | ⟨c, p⟩
  · obtain ⟨v, rfl, rfl, hp1, ho1⟩ := hE.ok t r hR
    have HR := hid (show AQ.numR l = .ok (AQ.digs t.said.data.toList 0) r by unfold AQ.numR; rw [hR]; rfl)
    obtain ⟨⟨htm, htk⟩, _⟩ := AQ.needK_inv (by decide) hR
    obtain ⟨hd1, hd2, hd3⟩ := (HF.out t htm).1 htk
    have hsz : t.said.size ≤ 9223372036854775806 := by
      have : t.said.data.toList.length = t.said.size := by simp
      omega
    have HPI := hid (Tryd.strconv_ParseInt_10_at64_ok t.said hsz _ (AQ.parse_num hd3 hd1 hd2) w1)
    have hF1 := tokF1 t.kind t.place t.said
    have HP1 := hid hp1
    have HO1 := hid ho1
    generalize AQ.digs t.said.data.toList 0 = n at *
    clear hR hE hp1 ho1 HC htm htk hd1 hd2 hd3 hsz
    go_wp2_with fail
    refine HPI.out.mono ?_
    rintro e w2 ⟨rfl, hw2⟩
    have hb2 : Below w1.heap.size w1 w2 := by
      rcases hw2 with rfl | ⟨s, rfl⟩
      · exact Below.refl _ _
      · exact bytes_below _ _ _
    have HP2 := hid (HP1.out.below hb2)
    have HO2 := hid (HO1.out.trans (Own1.of (br := bp) hb2))
    clear hw2 hb2 HPI
    go_wp2_with fail
    go_ret
    exact PEnd.mkOk HR.out rfl HP2.out HO2.out
  · have HR := hid (show AQ.numR l = .bad c p by unfold AQ.numR; rw [hR]; rfl)
    have hT := hE.bad c p hR
    have HT := hid hT
    obtain ⟨B, rfl, _, _⟩ := hT
    clear hR hE HC
    go_wp2_with fail
    exact ⟨rfl, PEnd.mkBad HR.out HT.out⟩

set_option maxRecDepth 100000 in
theorem pspan_any {bt : Nat} (bp : Nat) (l : List AQ.Tok) (w : World) (h : Pr w bp bt l) (hf : AQ.FitL l) :
    Calls Tryd.prog 175 #[.pointer (some ⟨bp, 0, none⟩)] w fun e w' => PEnd VI w w' bp bt e (AQ.spanR l) := by
  have HP := hid h
  have HF := hid hf
  clear h hf
  go_enter Tryd.func175, Tryd.ntmps175
  go_wp2_with fail
  refine (here_any bp l w HP.out).mono ?_
  rintro e w1 ⟨rfl, hb1⟩
  have hal : Below w1.heap.size w1 (w1.alloc (.cells #[.int .i64 (AQ.hd l).kind, .string (AQ.hd l).said, .int .i64 (AQ.hd l).place] 166)) := (Below.refl _ w1).alloc (Nat.le_refl _) _
  have HP2 := hid ((HP.out.below hb1).below hal)
  have HO2 := hid ((Own1.of (br := bp) hb1).trans (Own1.of (br := bp) hal))
  have HX2 := hid (heap_alloc_new w1 (.cells #[.int .i64 (AQ.hd l).kind, .string (AQ.hd l).said, .int .i64 (AQ.hd l).place] 166))
  have HNb : Hid (w1.heap.size ≠ bp) := by have := (HP.out.below hb1).low.1; show _ ≠ _; omega
  clear hb1 hal HP
  go_upto_region 2 with fail
  generalize w1.alloc (.cells #[.int .i64 (AQ.hd l).kind, .string (AQ.hd l).said, .int .i64 (AQ.hd l).place] 166) = w2 at *
  generalize w1.heap.size = bx at *
  have HC := hid (pnum_any bp l w2 HP2.out HF.out)
  go_wp2_with fail
  refine HC.out.mono ?_
  intro e w3 hE
  rcases hR : AQ.numR l with ⟨n, r⟩ | ⟨c, p⟩
  · obtain ⟨v, rfl, rfl, hp3, ho3⟩ := hE.ok n r hR
    have HR := hid (show AQ.spanR l = if 1099511627776 < n then .bad 4 (AQ.hd l).place else .ok (max n 1) r by unfold AQ.spanR; rw [hR]; rfl)
    have hx3 := ho3.block HX2.out HNb.out
    have z2 := kcell _ _ _ _ hx3 2 _ rfl
    have HP3 := hid hp3
    have HO3 := hid (HO2.out.trans ho3)
    clear hR hE hp3 ho3 hx3 HC HX2
    by_cases hbig : 1099511627776 < n
    · have HR2 := hid (show AQ.spanR l = .bad 4 (AQ.hd l).place by rw [HR.out, if_pos hbig])
      go_wp2_with fail
      refine (wrong_any 4 (AQ.hd l).place w3).mono ?_
      rintro e w4 ⟨rfl, rfl⟩
      go_wp2_with fail
      exact ⟨rfl, PEnd.mkBad HR2.out ⟨_, rfl, heap_alloc_new w3 _, HO3.out.trans (Own1.of ((Below.refl _ w3).alloc (Nat.le_refl _) _))⟩⟩
    · by_cases h1 : n ≤ 1
      · have HR2 := hid (show AQ.spanR l = .ok 1 r by rw [HR.out, if_neg hbig, show max n 1 = 1 by omega])
        have h1' : max n 1 = 1 := by omega
        go_wp2_with fail
        all_goals go_ret
        all_goals exact PEnd.mkOk HR2.out (by first | rfl | (congr 1; omega)) HP3.out HO3.out
      · have HR2 := hid (show AQ.spanR l = .ok n r by rw [HR.out, if_neg hbig, show max n 1 = n by omega])
        have h1' : max n 1 = n := by omega
        go_wp2_with fail
        all_goals go_ret
        all_goals exact PEnd.mkOk HR2.out (by first | rfl | (congr 1; omega)) HP3.out HO3.out
  · have HR := hid (show AQ.spanR l = .bad c p by unfold AQ.spanR; rw [hR]; rfl)
    have hT := (hE.bad c p hR).from HO2.out
    have HT := hid hT
    obtain ⟨B, rfl, _, _⟩ := hT
    clear hR hE HC
    go_wp2_with fail
    exact ⟨rfl, PEnd.mkBad HR.out HT.out⟩

abbrev mcells (l : List LB.Mat) : List Value := l.flatMap fun m => [.string m.nm, .int .i64 m.op, .string m.vl]

/-- A row of matchers of one's own; of texts. -/
abbrev OwnM (w : World) (base : Nat) (v : Value) (l : List LB.Mat) : Prop := w.ownsRow base 93 3 v l.length (mcells l)
abbrev OwnX (w : World) (base : Nat) (v : Value) (l : List ByteArray) : Prop := w.ownsRow base 9 1 v l.length (l.map Value.string)

theorem krow_kept {w w' : World} {base n size : Nat} {e : TypeId} {v : Value} {xs : List Value} (h : w.ownsRow base e size v n xs) (hk : ∀ (g : Nat) (c : Array Value), w.heap[g]? = some (Obj.cells c e) → w'.heap[g]? = w.heap[g]?) : w'.ownsRow base e size v n xs := by
  rcases h.2 with h0 | ⟨g, cap, cur, h0, h1, h2, h3⟩
  · exact ⟨h.1, .inl h0⟩
  · exact ⟨h.1, .inr ⟨g, cap, cur, h0, h1, (hk g cur h2).trans h2, h3⟩⟩

theorem kown_slice {w : World} {base n size : Nat} {e : TypeId} {v : Value} {xs : List Value} (h : w.ownsRow base e size v n xs) : ∃ ao cap, v = .slice ao n cap := by
  rcases h.2 with ⟨h0, h1⟩ | ⟨g, cap, cur, h0, _⟩
  · exact ⟨none, 0, by rw [h0, h1]⟩
  · exact ⟨_, cap, h0⟩

theorem row_zero {w : World} {base n size : Nat} {e : TypeId} {v : Value} {xs : List Value} (h : w.ownsRow base e size v n xs) : w.ownsRow 0 e size v n xs := by
  rcases h.2 with h0 | ⟨g, cap, cur, h0, _, h2⟩
  · exact ⟨h.1, .inl h0⟩
  · exact ⟨h.1, .inr ⟨g, cap, cur, h0, Nat.zero_le _, h2⟩⟩

/-- The parser's box is of no other kind. -/
theorem Pr.kind {w : World} {bp bt : Nat} {l : List AQ.Tok} (h : Pr w bp bt l) {g : Nat} {c : Array Value} {T : TypeId} (hg : w.heap[g]? = some (.cells c T)) (hT : T ≠ 163) : g ≠ bp := fun e => by
  subst e
  obtain ⟨off, cap, h⟩ := h
  rw [h.box] at hg
  simp only [Option.some.injEq, Obj.cells.injEq] at hg
  exact hT hg.2.1.symm

/-- A row so far, and the parser. -/
structure RwI (T : TypeId) (k : Nat) (w wx : World) (bp bt : Nat) (v : Value) (n : Nat) (xs : List Value) (l : List AQ.Tok) : Prop where
  row : wx.ownsRow w.heap.size T k v n xs
  pr : Pr wx bp bt l
  own : Own1 bp w wx

theorem RwI.step {T : TypeId} {k : Nat} {w wx wy : World} {bp bt : Nat} {v : Value} {n : Nat} {xs : List Value} {l l' : List AQ.Tok} (h : RwI T k w wx bp bt v n xs l) (hT : T ≠ 163) (ho : Own1 bp wx wy) (hr : Pr wy bp bt l') : RwI T k w wy bp bt v n xs l' :=
  ⟨krow_kept h.row fun g _ hg => ho.2.2.2.2 g (heap_lt hg) (h.pr.kind hg hT), hr, h.own.trans ho⟩
theorem RwI.below {T : TypeId} {k : Nat} {w wx wy : World} {bp bt : Nat} {v : Value} {n : Nat} {xs : List Value} {l : List AQ.Tok} (h : RwI T k w wx bp bt v n xs l) (hT : T ≠ 163) (hb : Below wx.heap.size wx wy) : RwI T k w wy bp bt v n xs l := h.step hT (Own1.of hb) (h.pr.below hb)

/-- The row grows. -/
theorem RwI.grown {T : TypeId} {k : Nat} {w wx wy : World} {bp bt : Nat} {v v' : Value} {n n' : Nat} {xs xs' : List Value} {l : List AQ.Tok} (h : RwI T k w wx bp bt v n xs l) (hlow : bp < w.heap.size ∧ bt < w.heap.size ∧ 12 ≤ w.heap.size) (hr : wy.ownsRow w.heap.size T k v' n' xs') (hs : wx.heap.size ≤ wy.heap.size) (ho : wy.os = wx.os ∧ wy.tape = wx.tape ∧ wy.output = wx.output) (hb : ∀ q, q < wx.heap.size → v.ownBlock ≠ some q → wy.heap[q]? = wx.heap[q]?) : RwI T k w wy bp bt v' n' xs' l := by
  have hkeep : ∀ q, q < w.heap.size → wy.heap[q]? = wx.heap[q]? := fun q hq => hb q (Nat.lt_of_lt_of_le hq h.own.size) (fun e => by have := (h.row.lt q e).1; omega)
  obtain ⟨off, cap, r⟩ := h.pr
  refine ⟨hr, ⟨off, cap, (hkeep bp hlow.1).trans r.box, fun i hi => ?_, r.far, Nat.lt_of_lt_of_le r.lt hs, r.room, r.ends, r.gl.keep (fun j hj => hkeep j (by omega)) hs, r.top⟩, ⟨ho.1.trans h.own.1, ho.2.1.trans h.own.2.1, ho.2.2.trans h.own.2.2.1, Nat.le_trans h.own.size hs, fun q hq hn => (hkeep q hq).trans (h.own.2.2.2.2 q hq hn)⟩⟩
  obtain ⟨a, b, c⟩ := r.row i hi
  have hb := hkeep bt hlow.2.1
  exact ⟨(World.cell?_of_block (a := ⟨bt, _, none⟩) hb).trans a, (World.cell?_of_block (a := ⟨bt, _, none⟩) hb).trans b, (World.cell?_of_block (a := ⟨bt, _, none⟩) hb).trans c⟩

theorem kthree {w : World} {B : Nat} {a b c : Value} {T : TypeId} (h : w.heap[B]? = some (.cells #[a, b, c] T)) : ∀ j u, [a, b, c][j]? = some u → w.cell? ((⟨B, 0, none⟩ : Addr).add j) = some u := by
  intro j u hj
  match j, hj with
  | 0, hj => rw [Addr.add_lit]; exact kcell _ _ _ _ h 0 _ hj
  | 1, hj => rw [Addr.add_lit]; exact kcell _ _ _ _ h 1 _ hj
  | 2, hj => rw [Addr.add_lit]; exact kcell _ _ _ _ h 2 _ hj
  | j + 3, hj => simp at hj
theorem kone {w : World} {B : Nat} {a : Value} {T : TypeId} (h : w.heap[B]? = some (.cells #[a] T)) : ∀ j u, [a][j]? = some u → w.cell? ((⟨B, 0, none⟩ : Addr).add j) = some u := by
  intro j u hj
  match j, hj with
  | 0, hj => rw [Addr.add_lit]; exact kcell _ _ _ _ h 0 _ hj
  | j + 1, hj => simp at hj

theorem Tryd.infoMat : (Tryd.prog.info? 93).map (fun i => (i.zero, i.size, i.bytes)) = some (some (.agg #[.string ⟨#[]⟩, .int .i64 0, .string ⟨#[]⟩]), 3, 40) := by kernel_rfl
theorem Tryd.uMat : Tryd.prog.underlying 51 = some (.slice 93) := by kernel_rfl
theorem Tryd.infoStr : (Tryd.prog.info? 9).map (fun i => (i.zero, i.size, i.bytes)) = some (some (.string ⟨#[]⟩), 1, 16) := by kernel_rfl
theorem Tryd.uStrs : Tryd.prog.underlying 110 = some (.slice 9) := by kernel_rfl

end Go.Proofs.YtdmnlmohfaafoaeDoor
