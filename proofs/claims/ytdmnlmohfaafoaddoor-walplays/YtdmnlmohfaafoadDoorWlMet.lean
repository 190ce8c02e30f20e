/- What a wal's Down, Add and Set do. -/
import Derived.Test.YtdmnlmohfaafoadDoorWlRep
import Derived.Test.YtdmnlmohfaafoadDoorWlLook
import Derived.Shelf.Abstract
namespace Go.Proofs.YtdmnlmohfaafoadDoor
open Go.RowKit Go.Maps Go.Shelf

/-- A wal in block bw, over a disk in block bd: Z the blocks of both. -/
def Wl (w : World) (Z : Nat → Prop) (bw bd cnt : Nat) (D : DK.M) (p : Int) (dn : Bool) : Prop :=
  ∃ X, Dk w X bd cnt D p ∧ w.heap[bw]? = some (.cells #[.pointer (some ⟨bd, 0, none⟩), .bool dn] 75) ∧ ¬ X bw ∧ Z bw ∧ (∀ j, X j → Z j) ∧ ∀ j, X j → j < w.heap.size

/-- What is done to a wal: it is one again, and no block but its own has turned. -/
def WlEnd (w : World) (Z : Nat → Prop) (bw bd cnt : Nat) (D : DK.M) (p : Int) (dn : Bool) (w' : World) : Prop :=
  ∃ Z', Wl w' Z' bw bd cnt D p dn ∧ XFr Z w w' ∧ ∀ j, Z' j → Z j ∨ w.heap.size ≤ j

theorem Dk.narrow {w : World} {X : Nat → Prop} {bd cnt : Nat} {D : DK.M} {p : Int} (h : Dk w X bd cnt D p) : Dk w (fun j => X j ∧ j < w.heap.size) bd cnt D p := by
  obtain ⟨mo, fp, fv, e, l, h⟩ := h
  exact ⟨mo, fp, fv, e, l, h.narrow⟩

theorem Dk.below {W W' : World} {X : Nat → Prop} {bd cnt : Nat} {D : DK.M} {p : Int} (h : Dk W X bd cnt D p) (hb : Below W.heap.size W W') : Dk W' X bd cnt D p := by
  obtain ⟨mo, fp, fv, e, l, h⟩ := h
  exact ⟨mo, fp, fv, e, l, h.below hb⟩

section
variable {w : World} {Z : Nat → Prop} {bw bd cnt : Nat} {D : DK.M} {p : Int} {dn : Bool}

theorem Wl.below {w' : World} (h : Wl w Z bw bd cnt D p dn) (hb : Below w.heap.size w w') : Wl w' Z bw bd cnt D p dn := by
  obtain ⟨X, h1, h2, h3, h4, h5, h6⟩ := h
  exact ⟨X, h1.below hb, (hb.block bw (heap_lt h2)).trans h2, h3, h4, h5, fun j hj => Nat.lt_of_lt_of_le (h6 j hj) hb.size⟩

theorem Wl.mono {cnt' : Nat} (h : Wl w Z bw bd cnt D p dn) (hc : cnt ≤ cnt') : Wl w Z bw bd cnt' D p dn := by
  obtain ⟨X, h1, h2⟩ := h
  exact ⟨X, h1.mono hc, h2⟩

theorem WlEnd.same {w' : World} (h : Wl w Z bw bd cnt D p dn) (hb : Below w.heap.size w w') {cnt' : Nat} (hc : cnt ≤ cnt') : WlEnd w Z bw bd cnt' D p dn w' :=
  ⟨Z, (h.below hb).mono hc, XFr.below hb, fun _ hj => .inl hj⟩

theorem wl_c0 (h : w.heap[bw]? = some (.cells #[.pointer (some ⟨bd, 0, none⟩), .bool dn] 75)) : w.cell? ⟨bw, 0, none⟩ = some (.pointer (some ⟨bd, 0, none⟩)) ∧ w.cell? ⟨bw, 1, none⟩ = some (.bool dn) ∧ w.frozen? ⟨bw, 1, none⟩ = false := by
  refine ⟨?_, ?_, ?_⟩ <;> simp [World.cell?, World.frozen?, h]

set_option maxRecDepth 100000 in
theorem down_any (h : w.heap[bw]? = some (.cells #[.pointer (some ⟨bd, 0, none⟩), .bool dn] 75)) :
    Calls Tryd.prog 13 #[.pointer (some ⟨bw, 0, none⟩)] w fun e w' => e = .returned (.bool dn) ∧ w' = w := by
  obtain ⟨c0, c1, _⟩ := wl_c0 h
  clear h
  go_enter Tryd.func13, Tryd.ntmps13
  go_wp2
  go_ret
  exact ⟨rfl, rfl⟩

/-- What writing notes answers and leaves: o is what comes of the files, if nothing stands against it. -/
def PutEnd (w : World) (Z : Nat → Prop) (bw bd cnt : Nat) (D : DK.M) (p : Int) (dn : Bool) (big : Bool) (o : WL.Out) (en : Ending) (w' : World) : Prop :=
  (big = true ∧ en = .returned (er 1) ∧ WlEnd w Z bw bd cnt D p dn w') ∨ (big = false ∧ dn = true ∧ en = .returned (er 6) ∧ WlEnd w Z bw bd cnt D p dn w') ∨
  (big = false ∧ dn = false ∧ en = .returned (er o.1) ∧ WlEnd w Z bw bd cnt o.2.1 o.2.2 (decide (o.1 ≠ 0)) w')

theorem big_small {l : List ByteArray} (h : (l.any fun s => decide (60000 < s.size)) = false) : ∀ s ∈ l, s.size ≤ 60000 := by
  intro s hs
  have := List.any_eq_false.1 h s hs
  simp at this
  exact this

set_option maxRecDepth 100000 in
theorem write_any {X : Nat → Prop} (hD : Dk w X bd cnt D p) (hb : w.heap[bw]? = some (.cells #[.pointer (some ⟨bd, 0, none⟩), .bool dn] 75)) (hnx : ¬ X bw) (hzb : Z bw) (hxz : ∀ j, X j → Z j) (hxl : ∀ j, X j → j < w.heap.size) (ao : Option Addr) (l : List ByteArray) (cap g : Nat) (lb : Array Value) (o : WL.Out) (hL : NRow w ao l) (hl : l.length ≤ 100000)
    (eg : ∀ args w, (callFunc g args).run Tryd.prog w = .ok (.enter g args) w)
    (hput : (∀ s ∈ l, s.size ≤ 60000) → ∀ W, Below w.heap.size w W → Calls Tryd.prog g (#[.string (WL.joined l)] ++ lb) W fun en w' => WEnd W X bd (cnt + 4) o en w') :
    Calls Tryd.prog 42 #[.pointer (some ⟨bw, 0, none⟩), .slice ao l.length cap, .func (.func g) #[] lb] w fun en w' => PutEnd w Z bw bd (cnt + 4) D p dn (l.any fun s => decide (60000 < s.size)) o en w' := by
  have HW : Hid (Wl w Z bw bd cnt D p dn) := ⟨X, hD, hb, hnx, hzb, hxz, hxl⟩
  have HC := hid (sContains_any ao l cap w hL hl)
  have HL := hid hL
  have HS := hid (big_small (l := l))
  have HP := hid hput
  have HD := hid hD
  have HB := hid hb
  have HNX := hid hnx
  have HZB := hid hzb
  have HXZ := hid hxz
  have HXL := hid hxl
  have HDn := hid (down_any hb)
  have hbw := heap_lt hb
  clear hL hput hD hb hnx hzb hxz hxl
  generalize (l.any fun s => decide (60000 < s.size)) = big at *
  go_enter Tryd.func42, Tryd.ntmps42
  go_wp2_with fail
  refine HC.out.mono ?_
  rintro en w1 ⟨rfl, rfl⟩
  clear HC
  cases big with
  | true =>
    have HQ : Hid (PutEnd w1 Z bw bd (cnt + 4) D p dn true o (.returned (.iface 34 (.int .i64 1))) w1) := .inl ⟨rfl, by rw [er_non (by omega)], WlEnd.same HW.out (Below.refl _ _) (by omega)⟩
    go_wp2
    go_ret
    exact HQ.out
  | false =>
    have HSm : Hid (∀ s ∈ l, s.size ≤ 60000) := HS.out rfl
    clear HS
    go_wp2_with fail
    refine HDn.out.mono ?_
    rintro en w2 ⟨rfl, rfl⟩
    clear HDn
    cases dn with
    | true =>
      have HQ : Hid (PutEnd w2 Z bw bd (cnt + 4) D p true false o (.returned (.iface 34 (.int .i64 6))) w2) := .inr (.inl ⟨rfl, rfl, by rw [er_non (by omega)], WlEnd.same HW.out (Below.refl _ _) (by omega)⟩)
      go_wp2
      go_ret
      exact HQ.out
    | false =>
      have HJ := hid (joined_any ao l cap w2 HL.out hl HSm.out)
      have HP2 := hid (HP.out HSm.out)
      clear HSm HP HL
      go_wp2_with fail
      refine HJ.out.mono ?_
      rintro en w3 ⟨rfl, hb3⟩
      have HB3 := hid hb3
      have HP3 := hid (HP2.out w3 hb3)
      clear hb3 HJ HP2
      generalize WL.joined l = J at *
      go_wp2_with fail
      refine HP3.out.mono ?_
      rintro en w4 ⟨rfl, X4, hD4, x4, s4⟩
      have hsz3 := HB3.out.size
      have hnx4 : ¬ X4 bw := fun hx => by
        rcases s4 bw hx with h5 | h5
        · exact HNX.out h5
        · omega
      have hb4 : w4.heap[bw]? = some (.cells #[.pointer (some ⟨bd, 0, none⟩), .bool false] 75) := ((x4.block bw (by omega) HNX.out).trans (HB3.out.block bw hbw)).trans HB.out
      obtain ⟨c0, c1, f1⟩ := wl_c0 hb4
      have hx24 : XFr X w2 w4 := (XFr.below HB3.out).trans x4 (fun j hj => .inl hj)
      have key : ∀ b : Bool, Hid (WlEnd w2 Z bw bd (cnt + 4) o.2.1 o.2.2 b (w4.setCell ⟨bw, 1, none⟩ (.bool b))) := fun b => by
        have hg : XFr (fun j => j = bw) w4 (w4.setCell ⟨bw, 1, none⟩ (.bool b)) := XFr.setCell w4 ⟨bw, 1, none⟩ _ rfl
        have hD5 : Dk (w4.setCell ⟨bw, 1, none⟩ (.bool b)) (fun j => X4 j ∧ j < w4.heap.size) bd (cnt + 4) o.2.1 o.2.2 := by
          obtain ⟨mo, fp, fv, e, l', h5⟩ := hD4.narrow
          refine ⟨mo, fp, fv, e, l', h5.kept fun j hj hjl => hg.block j hjl (fun e => hnx4 (e ▸ hj.1))⟩
        refine ⟨fun j => Z j ∨ w2.heap.size ≤ j, ⟨fun j => X4 j ∧ j < w4.heap.size, hD5, ?_, fun hx => hnx4 hx.1, .inl HZB.out, fun j hj => ?_, fun j hj => ?_⟩, ?_, fun j hj => hj⟩
        · rw [heap_setCell_same w4 bw 1 _ _ _ hb4]; rfl
        · rcases s4 j hj.1 with h5 | h5
          · exact .inl (HXZ.out j h5)
          · exact .inr (by omega)
        · have : (w4.setCell ⟨bw, 1, none⟩ (.bool b)).heap.size = w4.heap.size := by simp
          omega
        · exact ((hx24.mono HXZ.out).trans hg (fun j hj => .inl (hj ▸ HZB.out)))
      clear hx24 hD4 x4 s4 hnx4 hb4 HP3 HB3 HD HB HNX HZB HXZ HXL
      by_cases h0 : o.1 = 0
      · have hK := key false
        have HQ : Hid (PutEnd w2 Z bw bd (cnt + 4) D p false false o (.returned .nilIface) (w4.setCell ⟨bw, 1, none⟩ (.bool false))) := by
          refine .inr (.inr ⟨rfl, rfl, by rw [h0, er_zero], ?_⟩)
          rw [decide_eq_false (fun h => h h0)]
          exact hK.out
        rw [h0, er_zero]
        clear hK key
        go_wp2
        go_ret
        exact HQ.out
      · have hK := key true
        have HQ : Hid (PutEnd w2 Z bw bd (cnt + 4) D p false false o (.returned (.iface 34 (.int .i64 o.1))) (w4.setCell ⟨bw, 1, none⟩ (.bool true))) := by
          refine .inr (.inr ⟨rfl, rfl, by rw [er_non h0], ?_⟩)
          rw [decide_eq_true h0]
          exact hK.out
        rw [er_non h0]
        clear hK key
        go_wp2
        go_ret
        exact HQ.out

theorem joined_single (s : ByteArray) : WL.joined [s] = WL.enc s := WL.append_empty _

set_option maxRecDepth 100000 in
theorem add1_any {X : Nat → Prop} {N : Nat} (hD : Dk w X bd cnt D p) (hb : w.heap[bw]? = some (.cells #[.pointer (some ⟨bd, 0, none⟩), .bool dn] 75)) (hnx : ¬ X bw) {bx : Nat} (hbx : w.heap[bx]? = some (.cells #[.pointer (some ⟨bw, 0, none⟩)] 27)) (hnb : ¬ X bx) (hF : DK.Fine N D) (hN : N ≤ 100000000) (s : ByteArray) (hs : s.size ≤ 60000) (hc : cnt + 4 ≤ 1000000) :
    Calls Tryd.prog 43 #[.string (WL.enc s), .pointer (some ⟨bx, 0, none⟩)] w fun en w' => WEnd w X bd (cnt + 4) (WL.addO kpt s D p) en w' := by
  have cb : w.cell? ⟨bx, 0, none⟩ = some (.pointer (some ⟨bw, 0, none⟩)) := by simp [World.cell?, hbx]
  obtain ⟨c0, _, _⟩ := wl_c0 hb
  have HBX := hid hbx
  have HB := hid hb
  have HNX := hid hnx
  have HNB := hid hnb
  obtain ⟨mo, fp, fv, e, l, h⟩ := hD
  have hes : (WL.enc s).size ≤ 100000000 := by rw [WL.enc_size]; omega
  have HA := hid (append_any h kpt (WL.enc s) kpt_len (by omega) (hF.mono hN) hes)
  have HO : Hid (WL.addO kpt s D p = WL.seq (WL.act 0 kpt (WL.enc s) D p) fun D p => WL.act 1 kpt ByteArray.empty D p) := rfl
  clear h hF hbx hb hnx hnb hes
  generalize WL.addO kpt s D p = O at *
  generalize WL.enc s = t at *
  go_enter Tryd.func43, Tryd.ntmps43
  go_wp2_with fail
  refine HA.out.mono ?_
  rintro en w1 ⟨rfl, X1, ⟨mo1, fp1, fv1, e1, l1, h1⟩, x1, s1⟩
  have ha : WL.act 0 kpt t D p = (DK.code 0 D p kpt t, DK.aftD 0 D p kpt t, DK.aftP 0 D p kpt t) := rfl
  rw [ha] at HO
  generalize DK.code 0 D p kpt t = c1 at *
  generalize DK.aftD 0 D p kpt t = D1 at *
  generalize DK.aftP 0 D p kpt t = p1 at *
  have hbx1 := (x1.block bx (heap_lt HBX.out) HNB.out).trans HBX.out
  have hb1 := (x1.block bw (heap_lt HB.out) HNX.out).trans HB.out
  have cb1 : w1.cell? ⟨bx, 0, none⟩ = some (.pointer (some ⟨bw, 0, none⟩)) := by simp [World.cell?, hbx1]
  obtain ⟨c01, _, _⟩ := wl_c0 hb1
  have H1 := hid h1
  have X1' := hid x1
  have S1 := hid s1
  clear h1 x1 s1 ha HA hbx1 hb1 HBX HB HNX HNB
  by_cases hc1 : c1 = 0
  · subst hc1
    have hO1 : O = WL.act 1 kpt ByteArray.empty D1 p1 := by rw [HO.out, WL.seq_ok]
    have HO1 := hid hO1
    have HY := hid (sync_any H1.out kpt kpt_len)
    clear hO1 HO
    rw [er_zero]
    go_wp2_with fail
    refine HY.out.mono ?_
    rintro en w3 ⟨rfl, h3⟩
    have HQ : Hid (WEnd w X bd (cnt + 4) O (.returned (er (DK.code 1 D1 p1 kpt ByteArray.empty))) w3) := by
      rw [HO1.out]
      exact ⟨rfl, (DkEnd.trans X1'.out S1.out h3).mono (by omega)⟩
    clear h3 HY HO1
    generalize er (DK.code 1 D1 p1 kpt ByteArray.empty) = v at *
    go_wp2
    go_ret
    exact HQ.out
  · have HQ : Hid (WEnd w X bd (cnt + 4) O (.returned (er c1)) w1) := by
      have e0 : O = (c1, D1, p1) := by
        rw [HO.out]
        unfold WL.seq
        rw [if_neg hc1]
      rw [e0]
      exact ⟨rfl, X1, ⟨mo1, fp1, fv1, e1, l1, H1.out.mono (by omega)⟩, X1'.out, S1.out⟩
    rw [er_non hc1] at HQ ⊢
    go_wp2
    go_ret
    exact HQ.out

set_option maxRecDepth 100000 in
theorem set1_any {X : Nat → Prop} {N : Nat} (hD : Dk w X bd cnt D p) (hb : w.heap[bw]? = some (.cells #[.pointer (some ⟨bd, 0, none⟩), .bool dn] 75)) {bx : Nat} (hbx : w.heap[bx]? = some (.cells #[.pointer (some ⟨bw, 0, none⟩)] 27)) (hF : DK.Fine N D) (hN : N ≤ 100000000) (t : ByteArray) (ht : t.size ≤ 100000000) (hc : cnt + 4 ≤ 1000000) :
    Calls Tryd.prog 46 #[.string t, .pointer (some ⟨bx, 0, none⟩)] w fun en w' => WEnd w X bd (cnt + 4) (WL.repl kpt frs t D p) en w' := by
  have cb : w.cell? ⟨bx, 0, none⟩ = some (.pointer (some ⟨bw, 0, none⟩)) := by simp [World.cell?, hbx]
  obtain ⟨c0, _, _⟩ := wl_c0 hb
  have HA := hid (replace_any hD hF hN t ht hc)
  clear hD hF hbx hb
  generalize WL.repl kpt frs t D p = O at *
  go_enter Tryd.func46, Tryd.ntmps46
  go_wp2_with fail
  refine HA.out.mono ?_
  rintro en w1 ⟨rfl, h1⟩
  have HQ : Hid (WEnd w X bd (cnt + 4) O (.returned (er O.1)) w1) := ⟨rfl, h1⟩
  clear h1 HA
  generalize er O.1 = v at *
  go_wp2
  go_ret
  exact HQ.out

/-- Ahead of a call two blocks are made: nothing else is otherwise. -/
theorem PutEnd.from {w1 w' : World} {big : Bool} {o : WL.Out} {en : Ending} (hb : Below w.heap.size w w1) (h : PutEnd w1 Z bw bd cnt D p dn big o en w') : PutEnd w Z bw bd cnt D p dn big o en w' := by
  have key : ∀ {D : DK.M} {p : Int} {dn : Bool}, WlEnd w1 Z bw bd cnt D p dn w' → WlEnd w Z bw bd cnt D p dn w' := by
    rintro D p dn ⟨Z', h1, h2, h3⟩
    refine ⟨Z', h1, (XFr.below hb).trans h2 (fun j hj => .inl hj), fun j hj => ?_⟩
    rcases h3 j hj with h4 | h4
    · exact .inl h4
    · have := hb.size; exact .inr (by omega)
  rcases h with ⟨a1, a2, a3⟩ | ⟨a1, a2, a3, a4⟩ | ⟨a1, a2, a3, a4⟩
  · exact .inl ⟨a1, a2, key a3⟩
  · exact .inr (.inl ⟨a1, a2, a3, key a4⟩)
  · exact .inr (.inr ⟨a1, a2, a3, key a4⟩)

set_option maxRecDepth 100000 in
theorem add_any {N : Nat} (h : Wl w Z bw bd cnt D p dn) (hF : DK.Fine N D) (hN : N ≤ 100000000) (s : ByteArray) (hc : cnt + 4 ≤ 1000000) :
    Calls Tryd.prog 10 #[.pointer (some ⟨bw, 0, none⟩), .string s] w fun en w' => PutEnd w Z bw bd (cnt + 4) D p dn (decide (60000 < s.size)) (WL.addO kpt s D p) en w' := by
  obtain ⟨X, hD, hb, hnx, hzb, hxz, hxl⟩ := h
  have hbw := heap_lt hb
  have hB1 : Below w.heap.size w ((w.alloc (.cells #[.pointer (some ⟨bw, 0, none⟩)] 27)).alloc (.cells #[.string s] 9)) := ((Below.refl _ w).alloc (Nat.le_refl _) _).alloc (by simp) _
  have hbx : ((w.alloc (.cells #[.pointer (some ⟨bw, 0, none⟩)] 27)).alloc (.cells #[.string s] 9)).heap[w.heap.size]? = some (.cells #[.pointer (some ⟨bw, 0, none⟩)] 27) := (Below.heap_alloc _ _ _ (by simp)).trans (heap_alloc_new w _)
  have hrow : NRow ((w.alloc (.cells #[.pointer (some ⟨bw, 0, none⟩)] 27)).alloc (.cells #[.string s] 9)) (some ⟨w.heap.size + 1, 0, none⟩) [s] := by
    intro i hi
    have : i = 0 := by simpa using hi
    subst this
    exact ⟨_, _, rfl, by simp [LB.an], by simp⟩
  have e1 : ([s].any fun s => decide (60000 < s.size)) = decide (60000 < s.size) := by simp
  have HM := write_any (Z := Z) (hD.below hB1) ((hB1.block bw hbw).trans hb) hnx hzb hxz (fun j hj => Nat.lt_of_lt_of_le (hxl j hj) hB1.size) (some ⟨w.heap.size + 1, 0, none⟩) [s] 1 43 #[.pointer (some ⟨w.heap.size, 0, none⟩)] (WL.addO kpt s D p) hrow (by simp) (enters_of Tryd.func43 (by kernel_rfl) rfl)
    (fun hsm W hW => by
      rw [joined_single]
      exact add1_any ((hD.below hB1).below hW) ((hW.block bw (Nat.lt_of_lt_of_le hbw hB1.size)).trans ((hB1.block bw hbw).trans hb)) hnx ((hW.block w.heap.size (by simp; omega)).trans hbx) (fun hx => by have := hxl _ hx; omega) hF hN s (hsm s (by simp)) hc)
  rw [e1] at HM
  have HM := hid HM
  have HB1 := hid hB1
  clear hD hb hnx hzb hxz hxl hB1 hbx hrow e1 hF
  generalize WL.addO kpt s D p = O at *
  generalize decide (60000 < s.size) = big at *
  go_enter Tryd.func10, Tryd.ntmps10
  go_wp2_with fail
  refine HM.out.mono ?_
  intro en w1 hQ
  have HQ := hid (PutEnd.from HB1.out hQ)
  have hv : ∃ v, en = .returned v := by
    rcases hQ with ⟨_, h, _⟩ | ⟨_, _, h, _⟩ | ⟨_, _, h, _⟩ <;> exact ⟨_, h⟩
  obtain ⟨v, rfl⟩ := hv
  clear hQ HM
  go_wp2
  go_ret
  exact HQ.out

set_option maxRecDepth 100000 in
theorem set_any {N : Nat} (h : Wl w Z bw bd cnt D p dn) (hF : DK.Fine N D) (hN : N ≤ 100000000) (ao : Option Addr) (l : List ByteArray) (cap : Nat) (hL : NRow w ao l) (hl : l.length ≤ 1000) (hc : cnt + 4 ≤ 1000000) :
    Calls Tryd.prog 11 #[.pointer (some ⟨bw, 0, none⟩), .slice ao l.length cap] w fun en w' => PutEnd w Z bw bd (cnt + 4) D p dn (l.any fun s => decide (60000 < s.size)) (WL.repl kpt frs (WL.joined l) D p) en w' := by
  obtain ⟨X, hD, hb, hnx, hzb, hxz, hxl⟩ := h
  have hbw := heap_lt hb
  have hB1 : Below w.heap.size w (w.alloc (.cells #[.pointer (some ⟨bw, 0, none⟩)] 27)) := (Below.refl _ w).alloc (Nat.le_refl _) _
  have hbx : (w.alloc (.cells #[.pointer (some ⟨bw, 0, none⟩)] 27)).heap[w.heap.size]? = some (.cells #[.pointer (some ⟨bw, 0, none⟩)] 27) := heap_alloc_new w _
  have HM := hid (write_any (Z := Z) (hD.below hB1) ((hB1.block bw hbw).trans hb) hnx hzb hxz (fun j hj => Nat.lt_of_lt_of_le (hxl j hj) hB1.size) ao l cap 46 #[.pointer (some ⟨w.heap.size, 0, none⟩)] (WL.repl kpt frs (WL.joined l) D p) (hL.below hB1) (by omega) (enters_of Tryd.func46 (by kernel_rfl) rfl)
    (fun hsm W hW => set1_any ((hD.below hB1).below hW) ((hW.block bw (Nat.lt_of_lt_of_le hbw hB1.size)).trans ((hB1.block bw hbw).trans hb)) ((hW.block w.heap.size (by simp)).trans hbx) hF hN _ (by
      have := joined_size 60000 l hsm
      have h2 : (60000 + 2) * l.length ≤ 60002 * 1000 := Nat.mul_le_mul_left _ hl
      omega) hc))
  have HB1 := hid hB1
  clear hD hb hnx hzb hxz hxl hB1 hbx hF hL
  generalize WL.repl kpt frs (WL.joined l) D p = O at *
  generalize (l.any fun s => decide (60000 < s.size)) = big at *
  go_enter Tryd.func11, Tryd.ntmps11
  go_wp2_with fail
  refine HM.out.mono ?_
  intro en w1 hQ
  have HQ := hid (PutEnd.from HB1.out hQ)
  have hv : ∃ v, en = .returned v := by
    rcases hQ with ⟨_, h, _⟩ | ⟨_, _, h, _⟩ | ⟨_, _, h, _⟩ <;> exact ⟨_, h⟩
  obtain ⟨v, rfl⟩ := hv
  clear hQ HM
  go_wp2
  go_ret
  exact HQ.out

end

end Go.Proofs.YtdmnlmohfaafoadDoor
