/- The program's tokens. -/
import Derived.Test.YtdmnlmohfaafoaeDoorAqList
namespace Go.Proofs.YtdmnlmohfaafoaeDoor
open Go.RowKit Go.Shelf

namespace AQ

theorem index_lt : ∀ (x : List UInt8), 0 ≤ Lib.indexByte x 34 → Lib.indexByte x 34 < x.length
  | [], h => absurd h (by decide)
  | a :: x, h => by
    have e : Lib.indexByte (a :: x) 34 = if (a == 34) = true then (0 : Int) else if (Lib.indexByte x 34 == -1) = true then -1 else Lib.indexByte x 34 + 1 := rfl
    rw [e] at h ⊢
    have hg := Lib.indexByte_ge x 34
    split
    · simp only [List.length_cons]; omega
    · rename_i h0
      rw [if_neg h0] at h
      split
      · rename_i h1
        rw [if_pos h1] at h
        omega
      · rename_i h1
        rw [if_neg h1] at h
        have h2 : Lib.indexByte x 34 ≠ -1 := by simpa using h1
        have := index_lt x (by omega)
        simp only [List.length_cons]; omega

theorem mark_le (r : List UInt8) : ∀ (m : List (List UInt8)), markFrom r m ≤ r.length
  | [] => Nat.zero_le _
  | x :: t => by
    unfold markFrom
    split
    · rename_i h
      exact (List.isPrefixOf_iff_prefix.1 h).length_le
    · exact mark_le r t

theorem lex_le (r : List UInt8) : (lex r).2 ≤ r.length := by
  cases r with
  | nil => exact Nat.le_refl _
  | cons c t =>
    rw [lex_cons]
    split
    · exact (List.takeWhile_sublist _).length_le
    · split
      · exact (List.takeWhile_sublist _).length_le
      · split
        · show quoted t ≤ _
          unfold quoted
          split
          · exact Nat.zero_le _
          · have := index_lt t (by omega)
            simp only [List.length_cons]
            omega
        · exact mark_le _ _

theorem tw_len {s : ByteArray} {P : Nat → Bool} {i : Nat} (hi : i ≤ s.size) (hb : ∀ j, j < i → P (LB.byt s j) = true) (he : i = s.size ∨ P (LB.byt s i) = false) : (s.data.toList.takeWhile fun c => P c.toNat).length = i := by
  have hl : s.data.toList.length = s.size := by simp
  have key : s.data.toList = s.data.toList.take i ++ s.data.toList.drop i := (List.take_append_drop i _).symm
  have h1 : (s.data.toList.take i ++ s.data.toList.drop i).takeWhile (fun c => P c.toNat) = s.data.toList.take i := by
    refine take_all _ _ (fun c hc => ?_) (fun c t e => ?_)
    · obtain ⟨j, hj, e⟩ := List.mem_iff_getElem.1 hc
      rw [List.length_take] at hj
      have hj2 : j < s.data.toList.length := by omega
      have : s.data.toList[j] = c := by rw [← e, List.getElem_take]
      rw [← this, at_list s j hj2]
      exact hb j (by omega)
    · rcases he with he | he
      · have : s.data.toList.drop i = [] := List.drop_eq_nil_of_le (by omega)
        rw [this] at e
        cases e
      · have hi2 : i < s.data.toList.length := by
          rcases Nat.lt_or_ge i s.data.toList.length with h | h
          · exact h
          · rw [List.drop_eq_nil_of_le h] at e; cases e
        rw [List.drop_eq_getElem_cons hi2] at e
        have e1 : s.data.toList[i] = c := by cases e; rfl
        rw [← e1, at_list s i hi2]
        exact he
  rw [key, h1, List.length_take]
  omega

theorem ext_list (s : ByteArray) (i j : Nat) : (s.extract i j).data.toList = (s.data.toList.take j).drop i := by
  simp [List.drop_take]
theorem ext_drop (s : ByteArray) (i : Nat) : (s.extract i s.size).data.toList = s.data.toList.drop i := by
  rw [ext_list, List.take_of_length_le (by simp)]
theorem ext_take (s : ByteArray) (i n : Nat) : s.extract i (i + n) = ⟨((s.data.toList.drop i).take n).toArray⟩ := by
  apply LB.toList_inj
  rw [Lib.toList_data, Lib.toList_data, ext_list]
  simp [List.drop_take]

end AQ

set_option maxRecDepth 100000 in
theorem qletter_any (n : Nat) (w : World) :
    Calls Tryd.prog 152 #[.int .u8 n] w fun e w' => e = .returned (.bool (LB.letter n)) ∧ w' = w := by
  generalize hB : LB.letter n = B
  have HB := hid hB
  clear hB
  go_enter Tryd.func152, Tryd.ntmps152
  go_wp2
  all_goals
    go_ret
    refine ⟨ret_bool ?_, rfl⟩
    rw [← HB.out, Bool.eq_iff_iff]
    unfold LB.letter
    simp only [Bool.or_eq_true, decide_eq_true_eq, beq_iff_eq, true_iff]
    omega

set_option maxRecDepth 100000 in
theorem qdigit_any (n : Nat) (w : World) :
    Calls Tryd.prog 155 #[.int .u8 n] w fun e w' => e = .returned (.bool (LB.digit n)) ∧ w' = w := by
  generalize hB : LB.digit n = B
  have HB := hid hB
  clear hB
  go_enter Tryd.func155, Tryd.ntmps155
  go_wp2
  all_goals
    go_ret
    refine ⟨ret_bool ?_, rfl⟩
    rw [← HB.out, Bool.eq_iff_iff]
    unfold LB.digit
    simp only [decide_eq_true_eq, Bool.false_eq_true, false_iff]
    omega

set_option maxRecDepth 100000 in
theorem begins1_any (n : Nat) (w : World) :
    Calls Tryd.prog 154 #[.int .u8 n] w fun e w' => e = .returned (.bool (LB.letter n || LB.digit n)) ∧ w' = w := by
  have HL := hid (qletter_any n w)
  have HD := hid (qdigit_any n w)
  go_enter Tryd.func154, Tryd.ntmps154
  go_wp2_with fail
  refine HL.out.mono ?_
  rintro e w1 ⟨rfl, rfl⟩
  rcases hl : LB.letter n with _ | _
  · have HB := hid (show (LB.letter n || LB.digit n) = LB.digit n by rw [hl]; rfl)
    clear hl
    go_wp2_with fail
    refine HD.out.mono ?_
    rintro e w2 ⟨rfl, rfl⟩
    go_wp2_with fail
    go_ret
    exact ⟨by rw [HB.out]; rfl, rfl⟩
  · have HB := hid (show (LB.letter n || LB.digit n) = true by rw [hl]; rfl)
    clear hl
    go_wp2_with fail
    go_ret
    exact ⟨by rw [HB.out]; rfl, rfl⟩

set_option maxRecDepth 100000 in
theorem run_any (s : ByteArray) (g : Nat) (P : Nat → Bool) (w : World) (hs : s.size ≤ 1000000000)
    (eg : ∀ args w, (callFunc g args).run Tryd.prog w = .ok (.enter g args) w)
    (hcall : ∀ (n : Nat) W, Calls Tryd.prog g #[.int .u8 n] W fun e w' => e = .returned (.bool (P n)) ∧ w' = W) :
    Calls Tryd.prog 153 #[.string s, .func (.func g) #[] #[]] w fun e w' => e = .returned (.int .i64 ((s.data.toList.takeWhile fun c => P c.toNat).length : Nat)) ∧ w' = w := by
  have HC := hid hcall
  clear hcall
  go_enter Tryd.func153, Tryd.ntmps153
  go_wp2_with fail
  go_loopw [5] (fun ti wr => wr = w ∧ ∃ i : Nat, i ≤ s.size ∧ ti = .int .i64 i ∧ ∀ j, j < i → P (LB.byt s j) = true) (fun ti _ => s.size - (intOf ti).toNat)
  case atStart => exact ⟨rfl, 0, by omega, rfl, by omega⟩
  case round =>
    obtain ⟨rfl, i, hi, rfl, hok⟩ := hrel
    have HOk := hid hok
    clear hok
    by_cases hlt : i < s.size
    · obtain ⟨n, hn⟩ : ∃ n : Nat, LB.byt s i = n := ⟨_, rfl⟩
      have hbx : ∀ h, (s[i]'h).toNat = n := fun h => (LB.byt_eq s i h).trans hn
      have hil : 0 ≤ (i : Int) ∧ (i : Int) < (s.size : Int) := by omega
      have HCn := hid (HC.out n wr)
      have HN := hid hn
      clear hn
      go_wp2_with fail
      refine HCn.out.mono ?_
      rintro e w2 ⟨rfl, rfl⟩
      rcases hp : P n with _ | _
      · have HR := hid (AQ.tw_len (P := P) hi HOk.out (.inr (by rw [HN.out]; exact hp)))
        clear hp HCn
        go_wp2_with fail
        go_ret
        exact ⟨by rw [HR.out]; rfl, rfl⟩
      · have HOk2 := hid (fun (j : Nat) (hj : j < i + 1) => show P (LB.byt s j) = true from by
          by_cases e : j = i
          · rw [e, HN.out]; exact hp
          · exact HOk.out j (by omega))
        clear hp HCn
        go_wp2_with fail
        go_roundw
        case rel => exact ⟨by trivial, i + 1, by omega, by go_num, HOk2.out⟩
        case measure => simp [intOf]; omega
    · have he : i = s.size := by omega
      have HR := hid (AQ.tw_len (P := P) hi HOk.out (.inl he))
      have hil : ¬ (i : Int) < (s.size : Int) := by omega
      clear he
      go_wp2_with fail
      go_ret
      exact ⟨by rw [HR.out]; rfl, rfl⟩

set_option maxRecDepth 100000 in
theorem quoted_any (s : ByteArray) (w : World) (h1 : 1 ≤ s.size) (hs : s.size ≤ 1000000000) :
    Calls Tryd.prog 156 #[.string s] w fun e w' => e = .returned (.int .i64 (AQ.quoted (s.data.toList.drop 1) : Nat)) ∧ w' = w := by
  have hI := Tryd.strings_IndexByte (s.extract 1 s.size) 34 w
  rw [AQ.ext_drop] at hI
  have HI := hid hI
  have hlt := AQ.index_lt (s.data.toList.drop 1)
  have hge := Lib.indexByte_ge (s.data.toList.drop 1) 34
  have HQ : Hid (AQ.quoted (s.data.toList.drop 1) = if Lib.indexByte (s.data.toList.drop 1) 34 < 0 then 0 else (Lib.indexByte (s.data.toList.drop 1) 34).toNat + 2) := rfl
  have e34 : (34 : Int).toNat.toUInt8 = 34 := rfl
  rw [e34] at HI
  have hll : (s.data.toList.drop 1).length ≤ 1000000000 := by simp; omega
  generalize Lib.indexByte (s.data.toList.drop 1) 34 = x at *
  generalize (s.data.toList.drop 1) = tl at *
  have h1' : (1 : Int) ≤ (s.size : Int) := by omega
  clear hI
  go_enter Tryd.func156, Tryd.ntmps156
  go_wp2_with fail
  refine HI.out.mono ?_
  rintro e w1 ⟨rfl, rfl⟩
  by_cases hx : x < 0
  · have HR := hid (show AQ.quoted tl = 0 by rw [HQ.out, if_pos hx])
    go_wp2_with fail
    go_ret
    exact ⟨by rw [HR.out]; rfl, rfl⟩
  · have HR := hid (show ((AQ.quoted tl : Nat) : Int) = x + 2 by rw [HQ.out, if_neg hx]; omega)
    have hb := hlt (by omega)
    have hw : IntKind.i64.wrap (x + 2) = x + 2 := by rw [IntKind.wrap_i64]; omega
    clear hb hlt
    go_wp2_with fail
    go_ret
    exact ⟨by rw [HR.out]; rfl, rfl⟩

theorem marks_ix (i : Nat) (hi : i < 15) (w : World) : (Instr.index 250 (.agg #[.string ⟨#[33, 61]⟩, .string ⟨#[94, 61]⟩, .string ⟨#[33, 94]⟩, .string ⟨#[61]⟩, .string ⟨#[123]⟩, .string ⟨#[125]⟩, .string ⟨#[91]⟩, .string ⟨#[93]⟩, .string ⟨#[40]⟩, .string ⟨#[41]⟩, .string ⟨#[44]⟩, .string ⟨#[43]⟩, .string ⟨#[45]⟩, .string ⟨#[42]⟩, .string ⟨#[47]⟩]) (.int .i64 i)).run Tryd.prog w = .ok (.string (marksB.getD i ⟨#[]⟩)) w :=
  match i, hi with
  | 0, _ => by kernel_rfl
  | 1, _ => by kernel_rfl
  | 2, _ => by kernel_rfl
  | 3, _ => by kernel_rfl
  | 4, _ => by kernel_rfl
  | 5, _ => by kernel_rfl
  | 6, _ => by kernel_rfl
  | 7, _ => by kernel_rfl
  | 8, _ => by kernel_rfl
  | 9, _ => by kernel_rfl
  | 10, _ => by kernel_rfl
  | 11, _ => by kernel_rfl
  | 12, _ => by kernel_rfl
  | 13, _ => by kernel_rfl
  | 14, _ => by kernel_rfl

theorem marks_step (r : List UInt8) (i : Nat) (hi : i < 15) : AQ.markFrom r (AQ.marks.drop i) = if (marksB.getD i ⟨#[]⟩).data.toList.isPrefixOf r then (marksB.getD i ⟨#[]⟩).size else AQ.markFrom r (AQ.marks.drop (i + 1)) :=
  match i, hi with
  | 0, _ => rfl
  | 1, _ => rfl
  | 2, _ => rfl
  | 3, _ => rfl
  | 4, _ => rfl
  | 5, _ => rfl
  | 6, _ => rfl
  | 7, _ => rfl
  | 8, _ => rfl
  | 9, _ => rfl
  | 10, _ => rfl
  | 11, _ => rfl
  | 12, _ => rfl
  | 13, _ => rfl
  | 14, _ => rfl

set_option maxRecDepth 100000 in
theorem marked_any (s : ByteArray) (w : World) (h : Gl w) :
    Calls Tryd.prog 157 #[.string s] w fun e w' => e = .returned (.int .i64 (AQ.mark s.data.toList : Nat)) ∧ w' = w := by
  have o0 : w.cell? ⟨5, 0, none⟩ = some (.string ⟨#[33, 61]⟩) := h.marks 0 (by decide)
  have o1 : w.cell? ⟨5, 1, none⟩ = some (.string ⟨#[94, 61]⟩) := h.marks 1 (by decide)
  have o2 : w.cell? ⟨5, 2, none⟩ = some (.string ⟨#[33, 94]⟩) := h.marks 2 (by decide)
  have o3 : w.cell? ⟨5, 3, none⟩ = some (.string ⟨#[61]⟩) := h.marks 3 (by decide)
  have o4 : w.cell? ⟨5, 4, none⟩ = some (.string ⟨#[123]⟩) := h.marks 4 (by decide)
  have o5 : w.cell? ⟨5, 5, none⟩ = some (.string ⟨#[125]⟩) := h.marks 5 (by decide)
  have o6 : w.cell? ⟨5, 6, none⟩ = some (.string ⟨#[91]⟩) := h.marks 6 (by decide)
  have o7 : w.cell? ⟨5, 7, none⟩ = some (.string ⟨#[93]⟩) := h.marks 7 (by decide)
  have o8 : w.cell? ⟨5, 8, none⟩ = some (.string ⟨#[40]⟩) := h.marks 8 (by decide)
  have o9 : w.cell? ⟨5, 9, none⟩ = some (.string ⟨#[41]⟩) := h.marks 9 (by decide)
  have o10 : w.cell? ⟨5, 10, none⟩ = some (.string ⟨#[44]⟩) := h.marks 10 (by decide)
  have o11 : w.cell? ⟨5, 11, none⟩ = some (.string ⟨#[43]⟩) := h.marks 11 (by decide)
  have o12 : w.cell? ⟨5, 12, none⟩ = some (.string ⟨#[45]⟩) := h.marks 12 (by decide)
  have o13 : w.cell? ⟨5, 13, none⟩ = some (.string ⟨#[42]⟩) := h.marks 13 (by decide)
  have o14 : w.cell? ⟨5, 14, none⟩ = some (.string ⟨#[47]⟩) := h.marks 14 (by decide)
  clear h
  go_enter Tryd.func157, Tryd.ntmps157
  go_wp2_with fail
  go_loopw [6, 4] (fun ti _ wr => wr = w ∧ ∃ i : Nat, i ≤ 15 ∧ ti = .int .i64 i ∧ AQ.mark s.data.toList = AQ.markFrom s.data.toList (AQ.marks.drop i)) (fun ti _ _ => 15 - (intOf ti).toNat)
  case atStart => exact ⟨rfl, 0, by omega, rfl, rfl⟩
  case round =>
    obtain ⟨rfl, i, hi, rfl, heq⟩ := hrel
    have HEq := hid heq
    clear heq
    by_cases hlt : i < 15
    · have hix := marks_ix i hlt
      have HSt := hid (marks_step s.data.toList i hlt)
      have hil : 0 ≤ (i : Int) ∧ (i : Int) < 15 := by omega
      generalize marksB.getD i ⟨#[]⟩ = ox at *
      have HH := hid (Tryd.strings_HasPrefix s ox wr)
      have HHp : Hid (Lib.hasPrefix s.data.toList ox.data.toList = ox.data.toList.isPrefixOf s.data.toList) := rfl
      go_wp2_with fail
      refine HH.out.mono ?_
      rintro e w2 ⟨rfl, rfl⟩
      rw [HHp.out]
      rcases hs : ox.data.toList.isPrefixOf s.data.toList with _ | _
      · have HR := hid (show AQ.mark s.data.toList = AQ.markFrom s.data.toList (AQ.marks.drop (i + 1)) by rw [HEq.out, HSt.out, hs]; rfl)
        clear hs HH
        go_wp2_with fail
        go_roundw
        case rel => exact ⟨by trivial, i + 1, by omega, by go_num, HR.out⟩
        case measure => simp [intOf]; omega
      · have HR := hid (show AQ.mark s.data.toList = ox.size by rw [HEq.out, HSt.out, hs]; rfl)
        clear hs HH
        go_wp2_with fail
        go_ret
        exact ⟨by rw [HR.out]; rfl, rfl⟩
    · have he : i = 15 := by omega
      have HR := hid (show AQ.mark s.data.toList = 0 by rw [HEq.out, he]; rfl)
      have hil : ¬ (i : Int) < 15 := by omega
      clear he
      go_wp2_with fail
      go_ret
      exact ⟨by rw [HR.out]; rfl, rfl⟩

set_option maxRecDepth 100000 in
set_option maxHeartbeats 800000 in
theorem begins_any (s : ByteArray) (w : World) (h : Gl w) (h1 : 1 ≤ s.size) (hs : s.size ≤ 1000000000) :
    Calls Tryd.prog 130 #[.string s] w fun e w' => e = .returned (.tuple #[.int .i64 (AQ.lex s.data.toList).1, .int .i64 ((AQ.lex s.data.toList).2 : Nat)]) ∧ w' = w := by
  have hlen : s.data.toList.length = s.size := by simp
  obtain ⟨c, tl, hcl⟩ : ∃ c tl, s.data.toList = c :: tl := by
    cases e : s.data.toList with
    | nil => rw [e] at hlen; simp at hlen; omega
    | cons c tl => exact ⟨c, tl, rfl⟩
  have hb0 : LB.byt s 0 = c.toNat := by unfold LB.byt; rw [hcl]; rfl
  have hbx : ∀ h, (s[0]'h).toNat = c.toNat := fun h => (LB.byt_eq s 0 h).trans hb0
  have HLx := hid (show AQ.lex s.data.toList = if AQ.isL c then (0, (s.data.toList.takeWhile fun x => AQ.isL x || AQ.isD x).length) else if AQ.isD c then (1, (s.data.toList.takeWhile AQ.isD).length) else if c = 34 then (2, AQ.quoted (s.data.toList.drop 1)) else (3, AQ.mark s.data.toList) by rw [hcl]; rfl)
  have HRw := hid (run_any s 154 (fun n => LB.letter n || LB.digit n) w hs (enters_of Tryd.func154 (by kernel_rfl) rfl) (fun n W => begins1_any n W))
  have HRd := hid (run_any s 155 LB.digit w hs (enters_of Tryd.func155 (by kernel_rfl) rfl) (fun n W => qdigit_any n W))
  have HQ := hid (quoted_any s w h1 hs)
  have HM := hid (marked_any s w h)
  have HLt := hid (qletter_any c.toNat w)
  have HDg := hid (qdigit_any c.toNat w)
  have HcL : Hid (AQ.isL c = LB.letter c.toNat) := rfl
  have HcD : Hid (AQ.isD c = LB.digit c.toNat) := rfl
  have hp : (0 : Int) < (s.size : Int) := by omega
  have HC34 : Hid (c = 34 ↔ c.toNat = 34) := ⟨fun e => by rw [e]; rfl, fun e => by
    have : c.toNat = (34 : UInt8).toNat := e
    exact UInt8.toNat_inj.1 this⟩
  have e1 : (s.data.toList.takeWhile fun x => AQ.isL x || AQ.isD x).length = (s.data.toList.takeWhile fun x => LB.letter x.toNat || LB.digit x.toNat).length := rfl
  have e2 : (s.data.toList.takeWhile AQ.isD).length = (s.data.toList.takeWhile fun x => LB.digit x.toNat).length := rfl
  rw [e1, e2] at HLx
  clear hlen hcl hb0 e1 e2 h
  generalize (s.data.toList.takeWhile fun x => LB.letter x.toNat || LB.digit x.toNat).length = nw at *
  generalize (s.data.toList.takeWhile fun x => LB.digit x.toNat).length = nd at *
  generalize AQ.quoted (s.data.toList.drop 1) = nq at *
  generalize AQ.mark s.data.toList = nm at *
  generalize AQ.lex s.data.toList = lx at *
  generalize hcn : c.toNat = cn at *
  clear hcn
  go_enter Tryd.func130, Tryd.ntmps130
  go_wp2_with fail
  refine HLt.out.mono ?_
  rintro e w1 ⟨rfl, rfl⟩
  rcases hl : LB.letter cn with _ | _
  rotate_left
  · have HR := hid (show lx = (0, nw) by rw [HLx.out, if_pos (by rw [HcL.out]; exact hl)])
    clear hl
    go_wp2_with fail
    refine HRw.out.mono ?_
    rintro e w2 ⟨rfl, rfl⟩
    go_wp2_with fail
    go_ret2
    exact ⟨by rw [HR.out]; rfl, rfl⟩
  have HL0 := hid hl
  clear hl
  go_wp2_with fail
  refine HDg.out.mono ?_
  rintro e w2 ⟨rfl, rfl⟩
  rcases hl : LB.digit cn with _ | _
  rotate_left
  · have HR := hid (show lx = (1, nd) by rw [HLx.out, if_neg (by rw [HcL.out, HL0.out]; decide), if_pos (by rw [HcD.out]; exact hl)])
    clear hl
    go_wp2_with fail
    refine HRd.out.mono ?_
    rintro e w3 ⟨rfl, rfl⟩
    go_wp2_with fail
    go_ret2
    exact ⟨by rw [HR.out]; rfl, rfl⟩
  have HD0 := hid hl
  clear hl
  by_cases h34 : cn = 34
  · have hb34 : ((cn : Int) == 34) = true := by rw [h34]; rfl
    have HR := hid (show lx = (2, nq) by rw [HLx.out, if_neg (by rw [HcL.out, HL0.out]; decide), if_neg (by rw [HcD.out, HD0.out]; decide), if_pos (HC34.out.2 h34)])
    clear h34
    go_wp2_with fail
    refine HQ.out.mono ?_
    rintro e w3 ⟨rfl, rfl⟩
    go_wp2_with fail
    go_ret2
    exact ⟨by rw [HR.out]; rfl, rfl⟩
  · have hb34 : ((cn : Int) == 34) = false := by rw [beq_eq_false_iff_ne]; omega
    have HR := hid (show lx = (3, nm) by rw [HLx.out, if_neg (by rw [HcL.out, HL0.out]; decide), if_neg (by rw [HcD.out, HD0.out]; decide), if_neg (fun e => h34 (HC34.out.1 e))])
    clear h34
    go_wp2_with fail
    refine HM.out.mono ?_
    rintro e w3 ⟨rfl, rfl⟩
    go_wp2_with fail
    go_ret2
    exact ⟨by rw [HR.out]; rfl, rfl⟩

abbrev tcells (l : List AQ.Tok) : List Value := l.flatMap fun t => [.int .i64 t.kind, .string t.said, .int .i64 t.place]

/-- How cut ends: it tells tokens, in a row of its own, or throws what is wrong. -/
structure CEnd (w w' : World) (e : Ending) (R : List AQ.Tok ⊕ (Int × Int)) : Prop where
  ok : ∀ l, R = .inl l → ∃ v, e = .returned v ∧ w'.ownsRow w.heap.size 166 3 v l.length (tcells l) ∧ Below w.heap.size w w'
  bad : ∀ c p, R = .inr (c, p) → ∃ B, e = .panicked [{ v := .iface 78 (.pointer (some ⟨B, 0, none⟩)), recovered := false }] ∧ w'.heap[B]? = some (.cells #[.int .i64 c, .int .i64 p] 80) ∧ Below w.heap.size w w'

theorem CEnd.mkBad {w w' : World} {R : List AQ.Tok ⊕ (Int × Int)} {c p : Int} {B : Nat} (hR : R = .inr (c, p)) (hB : w'.heap[B]? = some (.cells #[.int .i64 c, .int .i64 p] 80)) (hb : Below w.heap.size w w') : CEnd w w' (.panicked [{ v := .iface 78 (.pointer (some ⟨B, 0, none⟩)), recovered := false }]) R :=
  ⟨fun l e => (by rw [hR] at e; cases e), fun c' p' e => (by rw [hR] at e; cases e; exact ⟨B, rfl, hB, hb⟩)⟩
theorem CEnd.mkOk {w w' : World} {R : List AQ.Tok ⊕ (Int × Int)} {l : List AQ.Tok} {v : Value} (hR : R = .inl l) (hr : w'.ownsRow w.heap.size 166 3 v l.length (tcells l)) (hb : Below w.heap.size w w') : CEnd w w' (.returned v) R :=
  ⟨fun l' e => (by rw [hR] at e; cases e; exact ⟨v, rfl, hr, hb⟩), fun c p e => (by rw [hR] at e; cases e)⟩

theorem Tryd.infoTok : (Tryd.prog.info? 166).map (fun i => (i.zero, i.size, i.bytes)) = some (some (.agg #[.int .i64 0, .string ⟨#[]⟩, .int .i64 0]), 3, 32) := by kernel_rfl
theorem Tryd.uToks : Tryd.prog.underlying 160 = some (.slice 166) := by kernel_rfl

theorem below_grown {w wx wy : World} {v : Value} {T : TypeId} {k n : Nat} {xs : List Value} (h : Below w.heap.size w wx) (hr : wx.ownsRow w.heap.size T k v n xs) (hg : wx.grownBy wy v.ownBlock) : Below w.heap.size w wy :=
  ⟨hg.os.trans h.os, hg.tape.trans h.tape, hg.output.trans h.output, Nat.le_trans h.size hg.size, fun q hq => (hg.block q (Nat.lt_of_lt_of_le hq h.size) (fun e => by have := (hr.lt q e.symm).1; omega)).trans (h.block q hq)⟩

set_option maxRecDepth 100000 in
set_option maxHeartbeats 3200000 in
theorem cut_any (s : ByteArray) (w : World) (h : Gl w) (hs : s.size ≤ 1000000000) :
    Calls Tryd.prog 103 #[.string s] w fun e w' => CEnd w w' e (AQ.cut s.data.toList) := by
  have HG := hid h
  have hlen : s.data.toList.length = s.size := by simp
  have HLen := hid hlen
  have HC0 : Hid (AQ.cut s.data.toList = AQ.cutF (s.data.toList.length + 1) (s.data.toList.drop 0) ((0 : Nat) : Int) []) := rfl
  clear h hlen
  go_enter Tryd.func103, Tryd.ntmps103
  go_wp2_with fail
  go_loopw [3, 4, 5, 6] (fun t3 t4 _ _ wr => ∃ (f i : Nat) (out : List AQ.Tok), t4 = .int .i64 (i : Int) ∧ i ≤ s.size ∧ wr.ownsRow w.heap.size 166 3 t3 out.length (tcells out) ∧ Below w.heap.size w wr ∧ out.length ≤ 120 ∧ s.size < f + i ∧ AQ.cut s.data.toList = AQ.cutF f (s.data.toList.drop i) (i : Int) out) (fun _ t4 _ _ _ => s.size - (intOf t4).toNat)
  case atStart => exact ⟨_, 0, [], rfl, Nat.zero_le _, ⟨rfl, .inl ⟨rfl, rfl⟩⟩, Below.refl _ _, by simp, by have := HLen.out; omega, HC0.out⟩
  case round =>
    clear HC0
    obtain ⟨f, i, out, rfl, hi, hrow, hbel, h120, hfu, heq⟩ := hrel
    obtain ⟨va, vc, ev⟩ := kown_slice hrow
    subst ev
    obtain ⟨g, rfl⟩ : ∃ g, f = g + 1 := ⟨f - 1, by omega⟩
    have HRow := hid hrow
    have HBel := hid hbel
    have HFu := hid hfu
    have HEq := hid heq
    have H120 := hid h120
    clear hrow hbel heq hfu h120
    by_cases hlt : i < s.size
    · obtain ⟨n, hn⟩ : ∃ n : Nat, LB.byt s i = n := ⟨_, rfl⟩
      have hbx : ∀ h, (s[i]'h).toNat = n := fun h => (LB.byt_eq s i h).trans hn
      have hil : 0 ≤ (i : Int) ∧ (i : Int) < (s.size : Int) := by omega
      have hi2 : i < s.data.toList.length := by have := HLen.out; omega
      have hdrop : s.data.toList.drop i = s.data.toList[i] :: s.data.toList.drop (i + 1) := List.drop_eq_getElem_cons hi2
      have hci : (s.data.toList[i]).toNat = n := (AQ.at_list s i hi2).trans hn
      have hst : AQ.cutF (g + 1) (s.data.toList.drop i) (i : Int) out = if s.data.toList[i] = 32 then AQ.cutF g (s.data.toList.drop (i + 1)) ((i : Int) + 1) out else if (AQ.lex (s.data.toList.drop i)).2 = 0 then .inr (3, (i : Int)) else if ((AQ.lex (s.data.toList.drop i)).1 = 1 ∧ 18 < (AQ.lex (s.data.toList.drop i)).2) ∨ out.length = 120 then .inr (4, (i : Int)) else AQ.cutF g ((s.data.toList.drop i).drop (AQ.lex (s.data.toList.drop i)).2) ((i : Int) + (AQ.lex (s.data.toList.drop i)).2) (out ++ [⟨(AQ.lex (s.data.toList.drop i)).1, ⟨((s.data.toList.drop i).take (AQ.lex (s.data.toList.drop i)).2).toArray⟩, (i : Int)⟩]) := by
        rw [hdrop]
        exact AQ.cutF_cons g _ _ _ _
      have HStep := hid (HEq.out.trans hst)
      have hc32 : s.data.toList[i] = 32 ↔ n = 32 := ⟨fun e => by rw [← hci, e]; rfl, fun e => by
        have : (s.data.toList[i]).toNat = (32 : UInt8).toNat := hci.trans e
        exact UInt8.toNat_inj.1 this⟩
      generalize s.data.toList[i] = c at *
      clear hdrop hci hn hi2 HEq hst
      by_cases h32 : n = 32
      · have hb : ((n : Int) == 32) = true := by rw [h32]; rfl
        have hw1 : IntKind.i64.wrap ((i : Int) + 1) = (i : Int) + 1 := by rw [IntKind.wrap_i64]; omega
        have HR := hid (show AQ.cut s.data.toList = AQ.cutF g (s.data.toList.drop (i + 1)) ((i + 1 : Nat) : Int) out by
          rw [HStep.out, if_pos (hc32.2 h32)]; rfl)
        clear h32 hc32
        go_wp2_with fail
        go_roundw
        case rel =>
          refine ⟨g, i + 1, out, by go_num, by omega, HRow.out, HBel.out, H120.out, ?_, HR.out⟩
          have := HFu.out
          omega
        case measure => simp [intOf]; omega
      · have hb : ((n : Int) == 32) = false := by rw [beq_eq_false_iff_ne]; omega
        have HStep2 := hid (HStep.out.trans (if_neg (fun e => h32 (hc32.1 e))))
        have hsz : (s.extract i s.size).size = s.size - i := by
          have h1 : (s.extract i s.size).data.toList.length = (s.extract i s.size).size := by simp
          rw [← h1, AQ.ext_drop, List.length_drop, HLen.out]
        have hB := begins_any (s.extract i s.size) wr (HG.out.below HBel.out) (by omega) (by omega)
        rw [AQ.ext_drop] at hB
        have HB := hid hB
        have hle := AQ.lex_le (s.data.toList.drop i)
        rw [List.length_drop, HLen.out] at hle
        have HTk := hid (AQ.ext_take s i (AQ.lex (s.data.toList.drop i)).2)
        have hil2 : (i : Int) ≤ (s.size : Int) := by omega
        clear h32 hc32 hB hsz HStep
        have HDr : Hid ((s.data.toList.drop i).drop (AQ.lex (s.data.toList.drop i)).2 = s.data.toList.drop (i + (AQ.lex (s.data.toList.drop i)).2)) := List.drop_drop
        generalize hlx : AQ.lex (s.data.toList.drop i) = lx at *
        obtain ⟨kd, sz⟩ := lx
        simp only at *
        generalize ((⟨((s.data.toList.drop i).take sz).toArray⟩ : ByteArray)) = tx at *
        clear hlx
        go_wp2_with fail
        refine HB.out.mono ?_
        rintro e w2 ⟨rfl, rfl⟩
        clear HB
        by_cases hz : sz = 0
        · have hzb : ((sz : Int) == 0) = true := by rw [hz]; rfl
          have HR := hid (show AQ.cut s.data.toList = .inr (3, (i : Int)) by rw [HStep2.out, if_pos hz])
          clear hz
          go_wp2_with fail
          refine (wrong_any 3 (i : Int) w2).mono ?_
          rintro e w3 ⟨rfl, rfl⟩
          go_wp2_with fail
          exact ⟨rfl, CEnd.mkBad HR.out (heap_alloc_new w2 _) (HBel.out.alloc HBel.out.size _)⟩
        have hzb : ((sz : Int) == 0) = false := by rw [beq_eq_false_iff_ne]; omega
        have HStep3 := hid (HStep2.out.trans (if_neg hz))
        have hlow := HBel.out.size
        have hbadR : (kd = 1 ∧ 18 < sz) ∨ out.length = 120 → ∀ (W : World), W = w2 → Calls Tryd.prog 105 #[.int .i64 4, .int .i64 (i : Int)] W fun e w' => e = .returned (.pointer (some ⟨w2.heap.size, 0, none⟩)) ∧ w' = w2.alloc (.cells #[.int .i64 4, .int .i64 (i : Int)] 80) ∧ AQ.cut s.data.toList = .inr (4, (i : Int)) := fun h W e => by
          subst e
          refine (wrong_any 4 (i : Int) W).mono ?_
          rintro e w' ⟨rfl, rfl⟩
          exact ⟨rfl, rfl, by rw [HStep3.out, if_pos h]⟩
        have HBad := hid hbadR
        clear hbadR
        by_cases hk : kd = 1
        · have hkb : (kd == 1) = true := by rw [hk]; rfl
          by_cases h18 : 18 < sz
          · have h18' : 18 < (sz : Int) := by omega
            have HC := hid (HBad.out (.inl ⟨hk, h18⟩) w2 rfl)
            clear hk h18 HBad HStep3 HStep2
            go_wp2_with fail
            refine HC.out.mono ?_
            rintro e w3 ⟨rfl, rfl, hR⟩
            have HR := hid hR
            clear hR
            go_wp2_with fail
            exact ⟨rfl, CEnd.mkBad HR.out (heap_alloc_new w2 _) (HBel.out.alloc HBel.out.size _)⟩
          have h18' : ¬ 18 < (sz : Int) := by omega
          have HOk : Hid (¬ (kd = 1 ∧ 18 < sz)) := fun h => h18 h.2
          clear hk h18
          by_cases h120 : out.length = 120
          · have h120b : ((out.length : Int) == 120) = true := by rw [h120]; rfl
            have HC := hid (HBad.out (.inr h120) w2 rfl)
            clear h120 HBad HStep3 HStep2
            go_wp2_with fail
            refine HC.out.mono ?_
            rintro e w3 ⟨rfl, rfl, hR⟩
            have HR := hid hR
            clear hR
            go_wp2_with fail
            exact ⟨rfl, CEnd.mkBad HR.out (heap_alloc_new w2 _) (HBel.out.alloc HBel.out.size _)⟩
          have h120b : ((out.length : Int) == 120) = false := by rw [beq_eq_false_iff_ne]; omega
          have HR := hid (HStep3.out.trans (if_neg (fun h => h.elim HOk.out h120)))
          have HN120 := hid h120
          clear h120 HBad HStep3 HStep2
          have hw1 : IntKind.i64.wrap ((i : Int) + (sz : Int)) = (i : Int) + (sz : Int) := by rw [IntKind.wrap_i64]; omega
          have hb1 : (i : Int) + (sz : Int) ≤ (s.size : Int) := by omega
          have HCast : Hid ((i : Int) + (sz : Int) = ((i + sz : Nat) : Int)) := by show _ = _; omega
          have hal : Below w2.heap.size w2 (w2.alloc (.cells #[.int .i64 kd, .string tx, .int .i64 (i : Int)] 166)) := (Below.refl _ w2).alloc (Nat.le_refl _) _
          have HRow3 := hid (show (w2.alloc (.cells #[.int .i64 kd, .string tx, .int .i64 (i : Int)] 166)).ownsRow w.heap.size 166 3 (.slice va out.length vc) out.length (tcells out) from krow_kept HRow.out fun g _ hg => hal.block g (heap_lt hg))
          have HBel3 := hid (HBel.out.alloc hlow (.cells #[.int .i64 kd, .string tx, .int .i64 (i : Int)] 166))
          have HN3 := hid (kthree (heap_alloc_new w2 (.cells #[.int .i64 kd, .string tx, .int .i64 (i : Int)] 166)))
          obtain ⟨ii, hii, hz0, hz1, hz2⟩ := info_parts Tryd.infoTok
          have HInf := hid (And.intro hii (And.intro hz0 (And.intro hz1 hz2)))
          have hsz3 := HBel3.out.size
          have hext : s.extract i (i + sz) = tx := HTk.out
          clear hal hii hz0 hz1 hz2
          go_wp2_with (at_builtin; refine wpList_append_own _ rfl (.tmp 43) (.tmp 53) 160 rfl w.heap.size 166 ii (.agg #[.int .i64 0, .string ⟨#[]⟩, .int .i64 0]) 3 32 Tryd.uToks HInf.out.1 HInf.out.2.1 HInf.out.2.2.1 HInf.out.2.2.2 rfl (by decide) _ out.length (tcells out) rfl HRow3.out ⟨w2.heap.size, 0, none⟩ 1 1 [.int .i64 kd, .string tx, .int .i64 (i : Int)] rfl rfl HN3.out (by simp [Value.oneCell']) (by have := H120.out; unfold maxLen; omega) (by have := H120.out; omega) hsz3 ?_)
          intro v' w5 hown' hgrow _
          have HB5 := hid (below_grown HBel3.out HRow3.out hgrow)
          have HO5 : Hid (w5.ownsRow w.heap.size 166 3 v' (out ++ [(⟨kd, tx, (i : Int)⟩ : AQ.Tok)]).length (tcells (out ++ [(⟨kd, tx, (i : Int)⟩ : AQ.Tok)]))) := by
            have e1 : tcells (out ++ [(⟨kd, tx, (i : Int)⟩ : AQ.Tok)]) = tcells out ++ [.int .i64 kd, .string tx, .int .i64 (i : Int)] := by simp [tcells]
            show World.ownsRow _ _ _ _ _ _ _
            rw [e1, List.length_append]
            exact hown'
          have HLn : Hid ((out ++ [(⟨kd, tx, (i : Int)⟩ : AQ.Tok)]).length = out.length + 1) := by show _ = _; simp
          have HR2 := hid (show AQ.cut s.data.toList = AQ.cutF g (s.data.toList.drop (i + sz)) ((i + sz : Nat) : Int) (out ++ [(⟨kd, tx, (i : Int)⟩ : AQ.Tok)]) by
            rw [HR.out, HDr.out, HCast.out])
          obtain ⟨va', vc', ev'⟩ := kown_slice hown'
          subst ev'
          clear hown' hgrow HRow3 HN3 HBel3 hext
          go_wp2_with fail
          go_roundw
          case rel =>
            refine ⟨g, i + sz, out ++ [(⟨kd, tx, (i : Int)⟩ : AQ.Tok)], by go_num, by omega, ?_, HB5.out, ?_, ?_, HR2.out⟩
            · have h1 := HO5.out
              have h2 := HLn.out
              rw [h2] at h1 ⊢
              exact h1
            · have h1 := H120.out
              have h2 := HLn.out
              have h3 := HN120.out
              omega
            · have h1 := HFu.out
              omega
          case measure => simp [intOf]; omega
        have hkb : (kd == 1) = false := by simpa using hk
        have HOk : Hid (¬ (kd = 1 ∧ 18 < sz)) := fun h => hk h.1
        clear hk
        by_cases h120 : out.length = 120
        · have h120b : ((out.length : Int) == 120) = true := by rw [h120]; rfl
          have HC := hid (HBad.out (.inr h120) w2 rfl)
          clear h120 HBad HStep3 HStep2
          go_wp2_with fail
          refine HC.out.mono ?_
          rintro e w3 ⟨rfl, rfl, hR⟩
          have HR := hid hR
          clear hR
          go_wp2_with fail
          exact ⟨rfl, CEnd.mkBad HR.out (heap_alloc_new w2 _) (HBel.out.alloc HBel.out.size _)⟩
        have h120b : ((out.length : Int) == 120) = false := by rw [beq_eq_false_iff_ne]; omega
        have HR := hid (HStep3.out.trans (if_neg (fun h => h.elim HOk.out h120)))
        have HN120 := hid h120
        clear h120 HBad HStep3 HStep2
        have hw1 : IntKind.i64.wrap ((i : Int) + (sz : Int)) = (i : Int) + (sz : Int) := by rw [IntKind.wrap_i64]; omega
        have hb1 : (i : Int) + (sz : Int) ≤ (s.size : Int) := by omega
        have HCast : Hid ((i : Int) + (sz : Int) = ((i + sz : Nat) : Int)) := by show _ = _; omega
        have hal : Below w2.heap.size w2 (w2.alloc (.cells #[.int .i64 kd, .string tx, .int .i64 (i : Int)] 166)) := (Below.refl _ w2).alloc (Nat.le_refl _) _
        have HRow3 := hid (show (w2.alloc (.cells #[.int .i64 kd, .string tx, .int .i64 (i : Int)] 166)).ownsRow w.heap.size 166 3 (.slice va out.length vc) out.length (tcells out) from krow_kept HRow.out fun g _ hg => hal.block g (heap_lt hg))
        have HBel3 := hid (HBel.out.alloc hlow (.cells #[.int .i64 kd, .string tx, .int .i64 (i : Int)] 166))
        have HN3 := hid (kthree (heap_alloc_new w2 (.cells #[.int .i64 kd, .string tx, .int .i64 (i : Int)] 166)))
        obtain ⟨ii, hii, hz0, hz1, hz2⟩ := info_parts Tryd.infoTok
        have HInf := hid (And.intro hii (And.intro hz0 (And.intro hz1 hz2)))
        have hsz3 := HBel3.out.size
        have hext : s.extract i (i + sz) = tx := HTk.out
        clear hal hii hz0 hz1 hz2
        go_wp2_with (at_builtin; refine wpList_append_own _ rfl (.tmp 43) (.tmp 53) 160 rfl w.heap.size 166 ii (.agg #[.int .i64 0, .string ⟨#[]⟩, .int .i64 0]) 3 32 Tryd.uToks HInf.out.1 HInf.out.2.1 HInf.out.2.2.1 HInf.out.2.2.2 rfl (by decide) _ out.length (tcells out) rfl HRow3.out ⟨w2.heap.size, 0, none⟩ 1 1 [.int .i64 kd, .string tx, .int .i64 (i : Int)] rfl rfl HN3.out (by simp [Value.oneCell']) (by have := H120.out; unfold maxLen; omega) (by have := H120.out; omega) hsz3 ?_)
        intro v' w5 hown' hgrow _
        have HB5 := hid (below_grown HBel3.out HRow3.out hgrow)
        have HO5 : Hid (w5.ownsRow w.heap.size 166 3 v' (out ++ [(⟨kd, tx, (i : Int)⟩ : AQ.Tok)]).length (tcells (out ++ [(⟨kd, tx, (i : Int)⟩ : AQ.Tok)]))) := by
          have e1 : tcells (out ++ [(⟨kd, tx, (i : Int)⟩ : AQ.Tok)]) = tcells out ++ [.int .i64 kd, .string tx, .int .i64 (i : Int)] := by simp [tcells]
          show World.ownsRow _ _ _ _ _ _ _
          rw [e1, List.length_append]
          exact hown'
        have HLn : Hid ((out ++ [(⟨kd, tx, (i : Int)⟩ : AQ.Tok)]).length = out.length + 1) := by show _ = _; simp
        have HR2 := hid (show AQ.cut s.data.toList = AQ.cutF g (s.data.toList.drop (i + sz)) ((i + sz : Nat) : Int) (out ++ [(⟨kd, tx, (i : Int)⟩ : AQ.Tok)]) by
          rw [HR.out, HDr.out, HCast.out])
        obtain ⟨va', vc', ev'⟩ := kown_slice hown'
        subst ev'
        clear hown' hgrow HRow3 HN3 HBel3 hext
        go_wp2_with fail
        go_roundw
        case rel =>
          refine ⟨g, i + sz, out ++ [(⟨kd, tx, (i : Int)⟩ : AQ.Tok)], by go_num, by omega, ?_, HB5.out, ?_, ?_, HR2.out⟩
          · have h1 := HO5.out
            have h2 := HLn.out
            rw [h2] at h1 ⊢
            exact h1
          · have h1 := H120.out
            have h2 := HLn.out
            have h3 := HN120.out
            omega
          · have h1 := HFu.out
            omega
        case measure => simp [intOf]; omega
    · have he : i = s.size := by omega
      have HR := hid (show AQ.cut s.data.toList = .inl (out ++ [⟨4, ⟨#[]⟩, (i : Int)⟩]) by
        rw [HEq.out, List.drop_eq_nil_of_le (by have := HLen.out; omega)]; rfl)
      have hil : ¬ (i : Int) < (s.size : Int) := by omega
      have hlow := HBel.out.size
      have hal : Below wr.heap.size wr (wr.alloc (.cells #[.int .i64 4, .string ⟨#[]⟩, .int .i64 (i : Int)] 166)) := (Below.refl _ wr).alloc (Nat.le_refl _) _
      have HRow3 := hid (show (wr.alloc (.cells #[.int .i64 4, .string ⟨#[]⟩, .int .i64 (i : Int)] 166)).ownsRow w.heap.size 166 3 (.slice va out.length vc) out.length (tcells out) from krow_kept HRow.out fun g _ hg => hal.block g (heap_lt hg))
      have HBel3 := hid (HBel.out.alloc hlow (.cells #[.int .i64 4, .string ⟨#[]⟩, .int .i64 (i : Int)] 166))
      have HN3 := hid (kthree (heap_alloc_new wr (.cells #[.int .i64 4, .string ⟨#[]⟩, .int .i64 (i : Int)] 166)))
      obtain ⟨ii, hii, hz0, hz1, hz2⟩ := info_parts Tryd.infoTok
      have HInf := hid (And.intro hii (And.intro hz0 (And.intro hz1 hz2)))
      have hsz3 := HBel3.out.size
      clear he hal hii hz0 hz1 hz2 HEq
      go_wp2_with (at_builtin; refine wpList_append_own _ rfl (.tmp 58) (.tmp 61) 160 rfl w.heap.size 166 ii (.agg #[.int .i64 0, .string ⟨#[]⟩, .int .i64 0]) 3 32 Tryd.uToks HInf.out.1 HInf.out.2.1 HInf.out.2.2.1 HInf.out.2.2.2 rfl (by decide) _ out.length (tcells out) rfl HRow3.out ⟨wr.heap.size, 0, none⟩ 1 1 [.int .i64 4, .string ⟨#[]⟩, .int .i64 (i : Int)] rfl rfl HN3.out (by simp [Value.oneCell']) (by have := H120.out; unfold maxLen; omega) (by have := H120.out; omega) hsz3 ?_)
      intro v' w5 hown' hgrow _
      have HB5 := hid (below_grown HBel3.out HRow3.out hgrow)
      have HO5 : Hid (w5.ownsRow w.heap.size 166 3 v' (out ++ [(⟨4, ⟨#[]⟩, (i : Int)⟩ : AQ.Tok)]).length (tcells (out ++ [(⟨4, ⟨#[]⟩, (i : Int)⟩ : AQ.Tok)]))) := by
        have e1 : tcells (out ++ [(⟨4, ⟨#[]⟩, (i : Int)⟩ : AQ.Tok)]) = tcells out ++ [.int .i64 4, .string ⟨#[]⟩, .int .i64 (i : Int)] := by simp [tcells]
        show World.ownsRow _ _ _ _ _ _ _
        rw [e1, List.length_append]
        exact hown'
      obtain ⟨va', vc', ev'⟩ := kown_slice hown'
      subst ev'
      clear hown' hgrow HRow3 HN3 HBel3
      go_wp2_with fail
      go_ret
      exact CEnd.mkOk HR.out HO5.out HB5.out

end Go.Proofs.YtdmnlmohfaafoaeDoor
