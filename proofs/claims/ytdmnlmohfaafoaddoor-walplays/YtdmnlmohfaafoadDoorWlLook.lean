/- What wal.look does with a closure that keeps each note. -/
import Derived.Test.YtdmnlmohfaafoadDoorWlJoin
import Derived.OneCell
import Derived.Deep.QuietTactic
import Derived.OwnWalk
import Derived.BigQuiet
namespace Go.Proofs.YtdmnlmohfaafoadDoor
open Go.RowKit

/-- Texts as cells. -/
def tv (l : List ByteArray) : List Value := l.map Value.string

theorem tv_length (l : List ByteArray) : (tv l).length = l.length := by simp [tv]

theorem tv_get (l : List ByteArray) (i : Nat) (h : i < l.length) : (tv l)[i]? = some (.string (LB.an l i)) := by
  unfold tv LB.an
  rw [List.getElem?_map, List.getElem?_eq_getElem h, List.getD_eq_getElem?_getD, List.getElem?_eq_getElem h]
  rfl

theorem tv_snoc (l : List ByteArray) (s : ByteArray) : tv l ++ [.string s] = tv (l ++ [s]) := by simp [tv]

/-- A row of texts of one's own. -/
abbrev OwnT (w : World) (base : Nat) (v : Value) (l : List ByteArray) : Prop := w.ownsRow base 9 1 v l.length (tv l)

theorem OwnT.row {w : World} {base : Nat} {v : Value} {l : List ByteArray} (h : OwnT w base v l) : ∃ ao cap, v = .slice ao l.length cap ∧ NRow w ao l ∧ l.length ≤ cap := by
  rcases h.2 with ⟨rfl, h0⟩ | ⟨g, cap, cur, rfl, h1, hc, h2, h3, h4, h5⟩
  · exact ⟨none, 0, by rw [h0], fun i hi => by omega, by omega⟩
  · refine ⟨_, cap, rfl, fun i hi => ⟨g, 0, rfl, ?_, heap_lt hc⟩, h2⟩
    have := h.cells (g := g) rfl i _ (tv_get l i hi)
    have e : (⟨g, 0, none⟩ : Addr).add i = ⟨g, 0 + i, none⟩ := by
      unfold Addr.add
      by_cases h0 : i = 0
      · subst h0; simp
      · simp [h0]
    rw [← e]; exact this

theorem OwnT.below {w w' : World} {base : Nat} {v : Value} {l : List ByteArray} (h : OwnT w base v l) (hb : Below w.heap.size w w') : OwnT w' base v l := by
  refine ⟨h.1, ?_⟩
  rcases h.2 with h0 | ⟨g, cap, cur, rfl, a1, a2, a3⟩
  · exact .inl h0
  · exact .inr ⟨g, cap, cur, rfl, a1, (hb.block g (heap_lt a2)).trans a2, a3⟩

theorem OwnT.snoc {w : World} {base : Nat} {v : Value} {l : List ByteArray} {s : ByteArray} (h : w.ownsRow base 9 1 v (l.length + 1) (tv l ++ [.string s])) : OwnT w base v (l ++ [s]) := by
  rw [tv_snoc] at h
  show World.ownsRow _ _ _ _ _ _ _
  rw [List.length_append]
  exact h

theorem one_news (W : World) (b : Nat) (s : ByteArray) (h : W.cell? ⟨b, 0, none⟩ = some (.string s)) : ∀ (j : Nat) (u : Value), [Value.string s][j]? = some u → W.cell? ((⟨b, 0, none⟩ : Addr).add j) = some u := by
  intro j u hj
  match j, hj with
  | 0, hj =>
    have : Value.string s = u := by simpa using hj
    rw [← this]; exact h
  | j + 1, hj => simp at hj

theorem Tryd.info9 : (Tryd.prog.info? 9).map (fun i => (i.zero, i.size, i.bytes)) = some (some (.string ⟨#[]⟩), 1, 16) := by kernel_rfl

/-- A box, in which a row of texts of one's own lies, that is made behind it. -/
def BoxL (w : World) (bn : Nat) (l : List ByteArray) : Prop := ∃ v, w.heap[bn]? = some (.cells #[v] 28) ∧ OwnT w (bn + 1) v l

theorem BoxL.lt {w : World} {bn : Nat} {l : List ByteArray} (h : BoxL w bn l) : bn < w.heap.size := by
  obtain ⟨v, h1, _⟩ := h
  exact heap_lt h1

set_option maxRecDepth 100000 in
theorem see_any (s : ByteArray) (bn : Nat) (l : List ByteArray) (w : World) (h : BoxL w bn l) (hl : l.length ≤ 100000000) :
    Calls Tryd.prog 38 #[.string s, .pointer (some ⟨bn, 0, none⟩)] w fun e w' => e = .returned (.tuple #[]) ∧ BoxL w' bn (l ++ [s]) ∧ Below bn w w' := by
  obtain ⟨v, hb, hO⟩ := h
  have hlt := heap_lt hb
  obtain ⟨ao, cap, rfl, _, _⟩ := hO.row
  have hc : w.cell? ⟨bn, 0, none⟩ = some (.slice ao l.length cap) := by simp [World.cell?, hb]
  have HO := hid hO
  have HB := hid hb
  obtain ⟨ii, hii, hz0, hz1, hz2⟩ := info_parts Tryd.info9
  have HI0 := hid hii
  have HZ0 := hid hz0
  have HZ1 := hid hz1
  have HZ2 := hid hz2
  clear hii hz0 hz1 hz2 hO hb
  go_enter Tryd.func38, Tryd.ntmps38
  go_wp2_with (at_builtin; refine wpList_append_own _ rfl (.tmp 3) (.tmp 5) 28 rfl (bn + 1) 9 ii (.string ⟨#[]⟩) 1 16 Tryd.underlying28 HI0.out HZ0.out HZ1.out HZ2.out rfl (by decide) _ l.length (tv l) rfl (HO.out.alloc _) ⟨w.heap.size, 0, none⟩ 1 1 [.string s] rfl rfl (one_news _ _ _ (by simp)) (by simp [Value.oneCell']) (by unfold maxLen; omega) (by omega) (by simp; omega) ?_)
  intro v' w7 hown7 hgrow7 _
  have hown8 := OwnT.snoc hown7
  have hB7 : Below (bn + 1) w w7 := ((Below.refl (bn + 1) w).alloc (by omega) (.cells #[.string s] 9)).grown hgrow7 (by simp; omega) (fun j hj => (HO.out.lt j hj).1)
  have hb7 := (hB7.block bn (by omega)).trans HB.out
  have hc7 : w7.cell? ⟨bn, 0, none⟩ = some (.slice ao l.length cap) := by simp [World.cell?, hb7]
  have hf7 : w7.frozen? ⟨bn, 0, none⟩ = false := by simp [World.frozen?, hb7]
  have HQ : Hid (BoxL (w7.setCell ⟨bn, 0, none⟩ v') bn (l ++ [s]) ∧ Below bn w (w7.setCell ⟨bn, 0, none⟩ v')) := by
    refine ⟨⟨v', ?_, ownsRow_setCell_below hown8 (a := ⟨bn, 0, none⟩) (by show bn < bn + 1; omega) v'⟩, ?_⟩
    · rw [heap_setCell_same w7 bn 0 _ _ _ hb7]; rfl
    · have hBn : Below bn w w7 := hB7.mono (by omega)
      exact hBn.setCell (p := ⟨bn, 0, none⟩) (Nat.le_refl _) v'
  obtain ⟨a7, c7, hv7, _, _⟩ := hown8.row
  rw [List.length_append] at hv7
  subst hv7
  clear hown8 hB7 hb7 hown7 hgrow7 HO HB
  go_wp2
  go_end0
  exact ⟨rfl, HQ.out⟩

theorem joined_len : ∀ l : List ByteArray, 2 * l.length ≤ (WL.joined l).size
  | [] => by show 0 ≤ _; omega
  | s :: l => by
    have := joined_len l
    show _ ≤ (WL.enc s ++ WL.joined l).size
    rw [ByteArray.size_append, WL.enc_size, List.length_cons]
    omega

/-- The first two bytes of a text. -/
theorem two_bytes (r : ByteArray) (h : 2 ≤ r.size) : ∃ x0 x1 : Nat, x0 < 256 ∧ x1 < 256 ∧ (∀ W, (Instr.index 9 (.string r) (.int .i64 0)).run Tryd.prog W = .ok (.int .u8 (x0 : Int)) W) ∧
    (∀ W, (Instr.index 9 (.string r) (.int .i64 1)).run Tryd.prog W = .ok (.int .u8 (x1 : Int)) W) ∧ WL.hdr r.data.toList = 256 * x0 + x1 := by
  refine ⟨(r[0]'(by omega)).toNat, (r[1]'(by omega)).toNat, UInt8.toNat_lt _, UInt8.toNat_lt _, fun W => ?_, fun W => ?_, ?_⟩
  · rw [run_index_string W 9 r .i64 0 Tryd.underlying9, dif_pos ⟨by omega, by omega⟩]; rfl
  · rw [run_index_string W 9 r .i64 1 Tryd.underlying9, dif_pos ⟨by omega, by omega⟩]; rfl
  · have hl := WL.size_data r
    have key : ∀ (l : List UInt8) (h0 : 0 < l.length) (h1 : 1 < l.length), WL.hdr l = 256 * (l[0]'h0).toNat + (l[1]'h1).toNat
      | [], h0, _ => by simp at h0
      | [a], _, h1 => by simp at h1
      | a :: b :: t, _, _ => rfl
    exact key r.data.toList (by omega) (by omega)

theorem or_bytes (x0 x1 : Nat) (hx0 : x0 < 256) (hx1 : x1 < 256) : bits BinOp.or IntKind.i64 ((x0 : Int) * 256) (x1 : Int) = ((256 * x0 + x1 : Nat) : Int) := by
  have e : (x0 : Int) * 256 = ((x0 * 256 : Nat) : Int) := by omega
  rw [e]
  have h1 : (BitVec.ofInt 64 ((x0 * 256 : Nat) : Int)).toNat = x0 * 256 := by
    rw [BitVec.ofInt_natCast, BitVec.toNat_ofNat]; exact Nat.mod_eq_of_lt (by omega)
  have h2 : (BitVec.ofInt 64 (x1 : Int)).toNat = x1 := by
    rw [BitVec.ofInt_natCast, BitVec.toNat_ofNat]; exact Nat.mod_eq_of_lt (by omega)
  show IntKind.i64.wrap ((BitVec.ofInt 64 ((x0 * 256 : Nat) : Int) ||| BitVec.ofInt 64 (x1 : Int)).toNat : Int) = _
  rw [BitVec.toNat_or, h1, h2, IntKind.wrap_i64]
  have e2 : x0 * 256 ||| x1 = x0 * 256 + x1 := by
    have := Nat.shiftLeft_add_eq_or_of_lt (i := 8) (b := x1) (by omega) x0
    rw [Nat.shiftLeft_eq] at this
    exact this.symm
  rw [e2]
  omega

theorem BoxL.drewN {w : World} {bn : Nat} {l : List ByteArray} (h : BoxL w bn l) (n : Nat) : BoxL (w.drewN n) bn l := h

set_option maxRecDepth 100000 in
set_option maxHeartbeats 800000 in
theorem look_any (t : ByteArray) (bn : Nat) (w : World) (h : BoxL w bn []) (ht : t.size ≤ 100000000) :
    Calls Tryd.prog 37 #[.string t, .func (.func 38) #[] #[.pointer (some ⟨bn, 0, none⟩)]] w fun e w' =>
      ∃ ns r, t = WL.joined ns ++ r ∧ WL.Sm ns ∧ WL.Torn r ∧ e = .returned (.int .i64 (WL.joined ns).size) ∧ BoxL w' bn ns ∧ Below bn w w' := by
  have H0 := hid h
  clear h
  go_enter Tryd.func37, Tryd.ntmps37
  go_wp2_with fail
  go_loopw [5] (fun t5 wr => ∃ ns r, t = WL.joined ns ++ r ∧ WL.Sm ns ∧ t5 = .int .i64 (WL.joined ns).size ∧ BoxL wr bn ns ∧ Below bn w wr) (fun t5 _ => t.size - (intOf t5).toNat)
  case atStart => exact ⟨[], t, (WL.empty_append t).symm, fun s hs => (by cases hs), rfl, H0.out, Below.refl _ _⟩
  case round =>
    obtain ⟨ns, r, hr, hsm, rfl, hbx, hbel⟩ := hrel
    have hts : t.size = (WL.joined ns).size + r.size := by rw [hr, ByteArray.size_append]
    have hjl := joined_len ns
    have hkt : (WL.joined ns).size ≤ t.size := by omega
    have hxr : t.extract (WL.joined ns).size t.size = r := by
      rw [hts, hr]
      exact WL.extract_rest _ _
    have HR := hid hr
    have HSM := hid hsm
    have HBX := hid hbx
    have HBl := hid hbel
    have HTS := hid hts
    clear hr hsm hbx hbel hts
    by_cases h2 : r.size < 2
    · have h2' : (r.size : Int) < 2 := by omega
      go_wp2_with fail
      go_ret
      exact ⟨ns, r, HR.out, HSM.out, by unfold WL.Torn; omega, rfl, HBX.out, HBl.out⟩
    · obtain ⟨x0, x1, hx0, hx1, hi0, hi1, hh⟩ := two_bytes r (by omega)
      have hor := or_bytes x0 x1 hx0 hx1
      have HH := hid hh
      have hH : 256 * x0 + x1 < 65536 := by omega
      clear hh
      generalize 256 * x0 + x1 = H at *
      have hw : wrap64 (2 + (H : Int)) = ((2 + H : Nat) : Int) := by unfold wrap64; omega
      go_wp2_with fail
      go_quiet (fail)
      first | simp only [hor, hw] | skip
      clear hor hw hi0 hi1 hx0 hx1
      by_cases h3 : r.size < 2 + H
      · have h3' : (r.size : Int) < ((2 + H : Nat) : Int) := by omega
        go_wp2_with fail
        go_ret
        exact ⟨ns, r, HR.out, HSM.out, by unfold WL.Torn; rw [HH.out]; exact h3, rfl, HBX.out.drewN _, below_drewN HBl.out _⟩
      · have h3' : ¬ (r.size : Int) < ((2 + H : Nat) : Int) := by omega
        go_wp2_with fail
        obtain ⟨hs, r', hr'⟩ := WL.cut_note r H HH.out (by omega) (by omega)
        have HRR := hid hr'
        have HN : Hid (WL.joined (ns ++ [r.extract 2 (2 + H)]) = WL.joined ns ++ WL.enc (r.extract 2 (2 + H))) := WL.joined_one _ _
        have HZ : Hid ((WL.joined (ns ++ [r.extract 2 (2 + H)])).size = (WL.joined ns).size + (2 + H)) := by
          show _ = _
          rw [HN.out, ByteArray.size_append, WL.enc_size, hs]
        have HT : Hid (t = WL.joined (ns ++ [r.extract 2 (2 + H)]) ++ r') := by
          show _ = _
          rw [HN.out, ByteArray.append_assoc, ← HRR.out]
          exact HR.out
        have HSM2 : Hid (WL.Sm (ns ++ [r.extract 2 (2 + H)])) := HSM.out.append (WL.Sm.one (by omega))
        have hnl : ns.length ≤ 100000000 := by omega
        clear hr' HN hxr
        generalize r.extract 2 (2 + H) = s at *
        refine (see_any s bn ns _ (HBX.out.drewN nq) hnl).mono ?_
        rintro e w2 ⟨rfl, hbx2, hbel2⟩
        have HBX2 := hid hbx2
        have HBl2 := hid ((below_drewN HBl.out nq).trans hbel2)
        have hnew : (WL.joined ns).size + (2 + H) ≤ t.size := by have := HTS.out; omega
        clear hbx2 hbel2
        go_wp2_with fail
        go_roundw
        case rel =>
          refine ⟨ns ++ [s], r', HT.out, HSM2.out, ?_, HBX2.out, HBl2.out⟩
          rw [HZ.out]
          go_num
        case measure => simp [intOf]; omega

end Go.Proofs.YtdmnlmohfaafoadDoor
