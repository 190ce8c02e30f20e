/- What the disk's small functions do: named, On, change, Cut, find, take. -/
import Derived.Test.YtdmnlmohfaafoadDoorDkMem
namespace Go.Proofs.YtdmnlmohfaafoadDoor
open Go.RowKit Go.Maps

/-- How an error is told. -/
def er (c : Int) : Value := if c = 0 then .nilIface else .iface 34 (.int .i64 c)

abbrev DkA := DkI Tryd.prog

/-- A disk in block bd: X its blocks, at most cnt names ever, D its files, p its power. -/
def Dk (w : World) (X : Nat → Prop) (bd cnt : Nat) (D : DK.M) (p : Int) : Prop := ∃ mo fp fv e l, DkA w X bd cnt D p mo fp fv e l

theorem grown_set (w : World) (b o : Nat) (u : Value) : w.grownBy (w.setCell ⟨b, o, none⟩ u) (some b) := ⟨rfl, rfl, rfl, by simp, fun k _ hk => Below.heap_setCell w ⟨b, o, none⟩ u k (fun e => hk (by rw [e]))⟩

set_option maxRecDepth 100000 in
theorem named_any (n : ByteArray) (w : World) :
    Calls Tryd.prog 76 #[.string n] w fun en w' => en = .returned (.bool (DK.named n)) ∧ w' = w := by
  by_cases h1 : 1 ≤ n.size
  · have hp : (0 : Int) < (n.size : Int) := by omega
    by_cases h2 : n.size ≤ 60
    · have hb : DK.named n = true := DK.named_iff.2 ⟨h1, h2⟩
      have hq : (n.size : Int) ≤ 60 := by omega
      rw [hb]
      go_enter Tryd.func76, Tryd.ntmps76
      go_wp2
      all_goals
        go_ret
        refine ⟨ret_bool ?_, rfl⟩
        first | rfl | simpa using hq | omega
    · have hb : DK.named n = false := DK.named_no.2 (by omega)
      have hq : ¬ (n.size : Int) ≤ 60 := by omega
      rw [hb]
      go_enter Tryd.func76, Tryd.ntmps76
      go_wp2
      all_goals
        go_ret
        refine ⟨ret_bool ?_, rfl⟩
        first | rfl | simpa using hq | omega
  · have hb : DK.named n = false := DK.named_no.2 (by omega)
    have hp : ¬ (0 : Int) < (n.size : Int) := by omega
    rw [hb]
    go_enter Tryd.func76, Tryd.ntmps76
    go_wp2
    all_goals
      go_ret
      refine ⟨ret_bool ?_, rfl⟩
      first | rfl | simpa using hp | omega

section
variable {w : World} {X : Nat → Prop} {bd cnt : Nat} {D : DK.M} {p : Int} {mo : Option Nat} {fp : ByteArray → Option Nat} {fv : ByteArray → Value} {e : Bool} {l : Int}

set_option maxRecDepth 100000 in
theorem on_any (h : DkA w X bd cnt D p mo fp fv e l) :
    Calls Tryd.prog 115 #[.pointer (some ⟨bd, 0, none⟩)] w fun en w' => en = .returned (.bool (decide (p ≠ 0))) ∧ w' = w := by
  have c1 := h.c1
  have c2 := h.c2
  rcases h.pw with ⟨rfl, rfl, h0, _⟩ | ⟨rfl, rfl⟩
  · have hb : decide (l ≠ 0) = decide (0 < l) := by
      by_cases hl : l = 0
      · subst hl; rfl
      · rw [decide_eq_true hl, decide_eq_true (by omega)]
    rw [hb]
    clear h hb h0
    go_enter Tryd.func115, Tryd.ntmps115
    go_wp2
    all_goals
      go_ret
      exact ⟨ret_bool (by simp), rfl⟩
  · clear h
    go_enter Tryd.func115, Tryd.ntmps115
    go_wp2
    all_goals
      go_ret
      exact ⟨ret_bool (by simp), rfl⟩

/-- Behind a change: the disk's own block is turned alone. -/
def ChEnd (w : World) (X : Nat → Prop) (bd cnt : Nat) (D : DK.M) (p : Int) (mo : Option Nat) (fp : ByteArray → Option Nat) (fv : ByteArray → Value) (w' : World) : Prop :=
  (∃ e l, DkA w' X bd cnt D p mo fp fv e l) ∧ w.grownBy w' (some bd)

set_option maxRecDepth 100000 in
theorem change_any (h : DkA w X bd cnt D p mo fp fv e l) :
    Calls Tryd.prog 77 #[.pointer (some ⟨bd, 0, none⟩)] w fun en w' =>
      (p = 0 ∧ en = .returned (.iface 34 (.int .i64 14)) ∧ w' = w) ∨ (p ≠ 0 ∧ en = .returned .nilIface ∧ ChEnd w X bd cnt D (DK.dec p) mo fp fv w') := by
  have HI := hid h
  have hon := on_any h
  have HO := hid hon
  have c1 := h.c1
  have c2 := h.c2
  have f2 := h.fr 2
  have HP := hid h.pw
  clear h hon
  by_cases hp : p = 0
  · subst hp
    go_enter Tryd.func77, Tryd.ntmps77
    go_wp2_with fail
    refine HO.out.mono ?_
    rintro en w' ⟨rfl, rfl⟩
    go_wp2
    go_ret
    simp
  · have hd : decide (p ≠ 0) = true := decide_eq_true hp
    rw [hd] at HO
    cases e with
    | true =>
      obtain ⟨rfl, h0, h1⟩ : l = p ∧ 0 ≤ p ∧ p ≤ 9223372036854775807 := by
        rcases HP.out with ⟨_, h1, h2, h3⟩ | ⟨h1, _⟩
        · exact ⟨h1, h2, h3⟩
        · cases h1
      have hw1 : wrap64 (l - 1) = l - 1 := by unfold wrap64; omega
      have hw2 : IntKind.i64.wrap (l - 1) = l - 1 := by rw [IntKind.wrap_i64]; omega
      have HE : Hid (ChEnd w X bd cnt D (DK.dec l) mo fp fv (w.setCell ⟨bd, 2, none⟩ (.int .i64 (l - 1)))) := by
        refine ⟨⟨true, l - 1, HI.out.power ?_ ?_ (.inl ⟨rfl, ?_, ?_⟩)⟩, grown_set _ _ _ _⟩
        · rw [heap_setCell_same w bd 2 _ _ _ HI.out.dsk]; rfl
        · exact fun j _ _ hj => Below.heap_setCell w ⟨bd, 2, none⟩ _ j hj
        · unfold DK.dec; rw [if_pos (by omega)]
        · unfold DK.dec; rw [if_pos (by omega)]; omega
      clear HP hd
      go_enter Tryd.func77, Tryd.ntmps77
      go_wp2_with fail
      refine HO.out.mono ?_
      rintro en w' ⟨rfl, rfl⟩
      go_wp2
      go_ret
      exact .inr ⟨hp, rfl, HE.out⟩
    | false =>
      have hpm : p = -1 := by
        rcases HP.out with ⟨h1, _⟩ | ⟨_, h1⟩
        · cases h1
        · exact h1
      have HE : Hid (ChEnd w X bd cnt D (DK.dec p) mo fp fv w) := by
        refine ⟨⟨false, l, ?_⟩, World.grownBy.refl _ _⟩
        have e1 : DK.dec p = p := by unfold DK.dec; rw [if_neg (by omega)]
        rw [e1]; exact HI.out
      clear HP hd hpm
      go_enter Tryd.func77, Tryd.ntmps77
      go_wp2_with fail
      refine HO.out.mono ?_
      rintro en w' ⟨rfl, rfl⟩
      go_wp2
      go_ret
      exact .inr ⟨hp, rfl, HE.out⟩

set_option maxRecDepth 100000 in
theorem cut_any (h : DkA w X bd cnt D p mo fp fv e l) (c : Int) (hc : c ≤ 9223372036854775807) :
    Calls Tryd.prog 15 #[.pointer (some ⟨bd, 0, none⟩), .int .i64 c] w fun en w' => en = .returned (.tuple #[]) ∧ ChEnd w X bd cnt D (max c (-1)) mo fp fv w' := by
  have c1 := h.c1
  have c2 := h.c2
  have f1 := h.fr 1
  have f2 := h.fr 2
  have HE : Hid (ChEnd w X bd cnt D (max c (-1)) mo fp fv ((w.setCell ⟨bd, 1, none⟩ (.bool (decide (0 ≤ c)))).setCell ⟨bd, 2, none⟩ (.int .i64 c))) := by
    refine ⟨⟨decide (0 ≤ c), c, h.power ?_ ?_ ?_⟩, (grown_set _ _ _ _).trans (grown_set _ _ _ _)⟩
    · rw [heap_setCell_same _ bd 2 _ _ _ (heap_setCell_same w bd 1 _ _ _ h.dsk)]; rfl
    · exact fun j _ _ hj => (Below.heap_setCell _ ⟨bd, 2, none⟩ _ j hj).trans (Below.heap_setCell w ⟨bd, 1, none⟩ _ j hj)
    · by_cases h0 : 0 ≤ c
      · exact .inl ⟨decide_eq_true h0, by omega, by omega, by omega⟩
      · exact .inr ⟨decide_eq_false h0, by omega⟩
  clear h
  go_enter Tryd.func15, Tryd.ntmps15
  go_wp2
  go_end0
  exact ⟨rfl, HE.out⟩

theorem pF_get (fp : ByteArray → Option Nat) (n : ByteArray) : (pF fp n).getD (.pointer none) = .pointer ((fp n).map fun q => ⟨q, 0, none⟩) := by
  unfold pF
  cases fp n <;> rfl

theorem zeroP (w : World) : (zeroValue 86).run Tryd.prog w = .ok (.pointer none) w := by kernel_rfl

/-- What stands in the map at a name. -/
theorem DkI.look {W : World} (h : DkA w X bd cnt D p mo fp fv e l) (n : ByteArray) (hn : n.size ≤ maxLen) (hW : ∀ bm, mo = some bm → W.heap[bm]? = w.heap[bm]?) :
    (Instr.lookup 24 (.map mo) (.string n) false).run Tryd.prog W = .ok (.pointer ((fp n).map fun q => ⟨q, 0, none⟩)) W := by
  cases hm : mo with
  | none =>
    rw [h.nomap hm n]
    exact Maps.look_nil false (string_keyed Tryd.underlying9) Tryd.underlying24 (zeroP _) (WideMaps.keyOf_string_mk Tryd.underlying9 hn)
  | some bm => exact MapF.look ((h.map bm hm).2.block (hW bm hm)) Tryd.underlying9 Tryd.underlying24 zeroP hn (pF_get fp n)

set_option maxRecDepth 100000 in
theorem find_any (h : DkA w X bd cnt D p mo fp fv e l) (n : ByteArray) (hn : n.size ≤ maxLen) :
    Calls Tryd.prog 69 #[.pointer (some ⟨bd, 0, none⟩), .string n] w fun en w' =>
      ((fp n = none ∧ en = .returned (.tuple #[.pointer none, .iface 34 (.int .i64 7)])) ∨ ∃ q, fp n = some q ∧ en = .returned (.tuple #[.pointer (some ⟨q, 0, none⟩), .nilIface])) ∧ w' = w := by
  have c0 := h.c0
  have hL := h.look (W := w) n hn (fun _ _ => rfl)
  clear h
  cases hf : fp n with
  | none =>
    rw [hf] at hL
    simp only [Option.map_none] at hL
    go_enter Tryd.func69, Tryd.ntmps69
    go_wp2
    go_ret2
    simp
  | some q =>
    rw [hf] at hL
    simp only [Option.map_some] at hL
    go_enter Tryd.func69, Tryd.ntmps69
    go_wp2
    go_ret2
    exact ⟨.inr ⟨q, rfl, rfl⟩, rfl⟩

set_option maxRecDepth 100000 in
theorem take_any (h : DkA w X bd cnt D p mo fp fv e l) (n : ByteArray) (hn : n.size ≤ maxLen) :
    Calls Tryd.prog 79 #[.pointer (some ⟨bd, 0, none⟩), .string n] w fun en w' =>
      (fp n = none ∧ en = .returned (.tuple #[.pointer none, .iface 34 (.int .i64 7)]) ∧ w' = w) ∨
      (fp n ≠ none ∧ p = 0 ∧ en = .returned (.tuple #[.pointer none, .iface 34 (.int .i64 14)]) ∧ w' = w) ∨
      ∃ q, fp n = some q ∧ p ≠ 0 ∧ en = .returned (.tuple #[.pointer (some ⟨q, 0, none⟩), .nilIface]) ∧ ChEnd w X bd cnt D (DK.dec p) mo fp fv w' := by
  have HF := hid (find_any h n hn)
  have HC := hid (change_any h)
  clear h
  go_enter Tryd.func79, Tryd.ntmps79
  go_wp2_with fail
  refine HF.out.mono ?_
  rintro en w1 ⟨⟨hf, rfl⟩ | ⟨q, hf, rfl⟩, rfl⟩
  · go_wp2
    go_ret2
    exact .inl ⟨hf, rfl, rfl⟩
  · go_wp2_with fail
    refine HC.out.mono ?_
    rintro en w2 (⟨hp, rfl, rfl⟩ | ⟨hp, rfl, hE⟩)
    · go_wp2
      go_ret2
      exact .inr (.inl ⟨by rw [hf]; simp, hp, rfl, rfl⟩)
    · have HE := hid hE
      clear hE
      go_wp2
      go_ret2
      exact .inr (.inr ⟨q, hf, hp, rfl, HE.out⟩)

end

end Go.Proofs.YtdmnlmohfaafoadDoor
