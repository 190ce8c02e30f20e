/- A code.Writer in memory; what its Number, Text, Labels and Bytes do, and what code.Series tells. -/
import Derived.Test.YtdmnlmohfaafoadGreatDoorCdNum
import Derived.Test.YtdmnlmohfaafoadGreatDoorBitWr
import Derived.Test.YtdmnlmohfaafoadGreatDoorChWrite
import Derived.Test.YtdmnlmohfaafoadGreatDoorCxMem
import Derived.Deep.RegionLaw
import Derived.Lib.UnsafeStr
import Derived.OwnWalk
import Derived.Test.YtdmnlmohfaafoadGreatDoorCdTxt
import Derived.Test.YtdmnlmohfaafoadGreatDoorCdMem
import Derived.Test.YtdmnlmohfaafoadGreatDoorCxRight
namespace Go.Proofs.YtdmnlmohfaafoadGreatDoor
open Go.RowKit

/-- A code.Writer in block B, whose bytes are L. -/
def CWr (B : Nat) (w : World) (L : List UInt8) : Prop :=
  ∃ v, w.heap[B]? = some (.cells #[v] 86) ∧ w.ownsRow (B + 1) 5 1 v L.length (Lib.byteCells L)

theorem CWr.lt {B : Nat} {w : World} {L : List UInt8} (h : CWr B w L) : B < w.heap.size := by
  obtain ⟨v, h1, _⟩ := h
  exact heap_lt h1

theorem CWr.new (w : World) : CWr w.heap.size (w.alloc (.cells #[.slice none 0 0] 86)) [] := ⟨_, heap_alloc_new w _, rfl, .inl ⟨rfl, rfl⟩⟩

theorem CWr.kept {B : Nat} {w w' : World} {L : List UInt8} (h : CWr B w L) (hb : Below w.heap.size w w') : CWr B w' L := by
  have hl := h.lt
  obtain ⟨v, h1, h2⟩ := h
  refine ⟨v, (hb.block B hl).trans h1, ownsRow_kept_all' h2 fun k hk => hb.block k ?_⟩
  obtain ⟨cur, fr, hc⟩ := row_block_any h2 k hk
  exact heap_lt hc

theorem cw_cells {B : Nat} {w : World} {v : Value} (h : w.heap[B]? = some (.cells #[v] 86)) : w.cell? ⟨B, 0, none⟩ = some v ∧ w.frozen? ⟨B, 0, none⟩ = false := by
  refine ⟨?_, ?_⟩ <;> simp [World.cell?, World.frozen?, h]

theorem bc_append (a b : List UInt8) : Lib.byteCells (a ++ b) = Lib.byteCells a ++ Lib.byteCells b := by simp [Lib.byteCells]

/-- Whatever is no Writer and no row of bytes stays. -/
theorem WFr.other {B k : Nat} {w w' : World} {c : Array Value} {t : TypeId} {fr : Nat × Nat} (h : WFr B w w') (hk : w.heap[k]? = some (.cells c t fr)) (ht : t ≠ 5) (hB : k ≠ B) : w'.heap[k]? = some (.cells c t fr) :=
  (h.block k (heap_lt hk) hB (fun c' fr' e => by rw [hk] at e; simp only [Option.some.injEq, Obj.cells.injEq] at e; exact ht e.2.1)).trans hk

/-- What lay there ahead of the Writer's block, and in the new world stays. -/
theorem WFr.of_below {B : Nat} {w w' : World} (h : Below w.heap.size w w') (hB : B ≤ w.heap.size) : WFr B w w' :=
  ⟨⟨h.os, h.tape, h.output, h.size, fun j hj => h.block j (Nat.lt_of_lt_of_le hj hB)⟩, fun k hk _ _ => h.block k hk⟩

/-- Bytes behind the last one. -/
theorem cw_push {B : Nat} {w0 wr wm w1 : World} {L N : List UInt8} {v v' : Value} (hv : wr.heap[B]? = some (.cells #[v] 86)) (hown : wr.ownsRow (B + 1) 5 1 v L.length (Lib.byteCells L)) (hfr : WFr B w0 wr)
    (hm : Below wr.heap.size wr wm) (hown' : w1.ownsRow (B + 1) 5 1 v' (L.length + N.length) (Lib.byteCells L ++ Lib.byteCells N)) (hgrow : wm.grownBy w1 v.ownBlock) :
    w1.cell? ⟨B, 0, none⟩ = some v ∧ w1.frozen? ⟨B, 0, none⟩ = false ∧ CWr B (w1.setCell ⟨B, 0, none⟩ v') (L ++ N) ∧ WFr B w0 (w1.setCell ⟨B, 0, none⟩ v') := by
  have hB : B < wr.heap.size := heap_lt hv
  have hBm : B < wm.heap.size := Nat.lt_of_lt_of_le hB hm.size
  have hne : some B ≠ v.ownBlock := fun h => by have := hown.lt B h.symm; omega
  have hblk : w1.heap[B]? = some (.cells #[v] 86) := (hgrow.block B hBm hne).trans ((hm.block B hB).trans hv)
  obtain ⟨c0, f0⟩ := cw_cells hblk
  have hfr1 : WFr B w0 w1 := (hfr.trans (WFr.of_below hm (by omega))).grown hgrow (by omega) (fun k hk => by
    have hk1 := hown.lt k hk
    obtain ⟨cur, fr, hc⟩ := row_block_any hown k hk
    exact ⟨by omega, cur, fr, (hm.block k hk1.2).trans hc⟩)
  refine ⟨c0, f0, ⟨v', ?_, ?_⟩, hfr1.setOwn 0 _⟩
  · rw [heap_setCell_same w1 B 0 _ _ _ hblk]; rfl
  · rw [List.length_append, bc_append]
    exact ownsRow_setCell_below hown' (a := ⟨B, 0, none⟩) (by show B < B + 1; omega) v'

/-- append onto a row of one's own, as one step of a region that draws. -/
theorem step_app_own {P : Program} {ops : Array Oper} {o : Oper} {a : Act} {w : World} {K : Act → World → Prop} {Q : Exit → Act → World → Prop} {E : Prop}
    (hg : o.guard = none) (s x : Operand) (t : TypeId) (ho : o.op = .call { callee := .builtin .append, args := #[s, x], argTypes := #[t, t] })
    (base : Nat) (e : TypeId) (i : TypeInfo) (z : Value) (size bytes : Nat) (ht : P.underlying t = some (.slice e)) (hi : P.info? e = some i) (hz : i.zero = some z)
    (hsize : i.size = size) (hby : i.bytes = bytes) (hzs : z.cells.size = size) (hsz : 0 < size)
    (v : Value) (n : Nat) (xs : List Value) (hs : a.eval s = v) (hown : w.ownsRow base e size v n xs)
    (ad : Addr) (m c : Nat) (news : List Value) (hx : a.eval x = .slice (some ad) m c) (hl : news.length = m * size) (hnews : ∀ j u, news[j]? = some u → w.cell? (ad.add j) = some u) (h1 : ∀ u ∈ news, u.oneCell' = true)
    (h63 : n + m ≤ maxLen) (hbytes : (n + m) * bytes ≤ 140737488355328) (hbase : base ≤ w.heap.size)
    (h : ∀ v' w', w'.ownsRow base e size v' (n + m) (xs ++ news) → w.grownBy w' v.ownBlock → (v' = .slice none 0 0 ↔ v = .slice none 0 0 ∧ m = 0) → K (a.put o.dst v') w') :
    if Region.wanted o (yielded ops a.tmps) = true then Oper.wp P o a w K Q else E := by
  have hw : Region.wanted o (yielded ops a.tmps) = true := by simp [Region.wanted, hg]
  rw [if_pos hw]
  exact wp_append_own w s x t ho base e i z size bytes ht hi hz hsize hby hzs hsz v n xs hs hown ad m c news hx hl hnews h1 h63 hbytes hbase h

theorem own_slice' {w : World} {base n size : Nat} {e : TypeId} {v : Value} {xs : List Value} (h : w.ownsRow base e size v n xs) : ∃ ao cap, v = .slice ao n cap := by
  rcases h.2 with ⟨h0, h1⟩ | ⟨g, cap, cur, h0, _⟩
  · exact ⟨none, 0, by rw [h0, h1]⟩
  · exact ⟨_, cap, h0⟩

theorem grown_hp {a w w' : World} {r : Option Nat} (h : a.grownBy w' r) (h1 : w.heap = a.heap) (h2 : w.os = a.os) (h3 : w.tape = a.tape) (h4 : w.output = a.output) : w.grownBy w' r :=
  ⟨h.os.trans h2.symm, h.tape.trans h3.symm, h.output.trans h4.symm, by rw [h1]; exact h.size, fun k hk hr => by rw [h1] at hk ⊢; exact h.block k hk hr⟩

theorem byte_num (n : Int) (i k s : Nat) (hi : i < 8) (hk : (7 : Int) - i = k) (hs : (8 : Int) * k = s) : ∃ b : UInt8, (CD.wN n).take (i + 1) = (CD.wN n).take i ++ [b] ∧ IntKind.u8.wrap (n / 2 ^ s) = (b.toNat : Int) := by
  have hk' : k = 7 - i := by omega
  have hs' : s = 8 * (7 - i) := by omega
  subst hk' hs'
  clear hk hs
  match i, hi with
  | 0, _ => exact ⟨_, rfl, by rw [IntKind.wrap_u8, UInt8.toNat_ofNat']; omega⟩
  | 1, _ => exact ⟨_, rfl, by rw [IntKind.wrap_u8, UInt8.toNat_ofNat']; omega⟩
  | 2, _ => exact ⟨_, rfl, by rw [IntKind.wrap_u8, UInt8.toNat_ofNat']; omega⟩
  | 3, _ => exact ⟨_, rfl, by rw [IntKind.wrap_u8, UInt8.toNat_ofNat']; omega⟩
  | 4, _ => exact ⟨_, rfl, by rw [IntKind.wrap_u8, UInt8.toNat_ofNat']; omega⟩
  | 5, _ => exact ⟨_, rfl, by rw [IntKind.wrap_u8, UInt8.toNat_ofNat']; omega⟩
  | 6, _ => exact ⟨_, rfl, by rw [IntKind.wrap_u8, UInt8.toNat_ofNat']; omega⟩
  | 7, _ => exact ⟨_, rfl, by rw [IntKind.wrap_u8, UInt8.toNat_ofNat']; omega⟩

set_option maxRecDepth 100000 in
theorem cnum_any (B : Nat) (n : Int) (L : List UInt8) (w : World) (h : CWr B w L) (hL : L.length ≤ 10000000000000) (_h1 : -9223372036854775808 ≤ n) (_h2 : n ≤ 9223372036854775807) :
    Calls Tryz.prog 32 #[.pointer (some ⟨B, 0, none⟩), .int .i64 n] w fun e w' => e = .returned (.tuple #[]) ∧ CWr B w' (L ++ CD.wN n) ∧ WFr B w w' := by
  obtain ⟨ii, hi, hz0, hz1, hz2⟩ := info_parts Tryz.info5
  have HI0 := hid hi
  have HZ0 := hid hz0
  have HZ1 := hid hz1
  have HZ2 := hid hz2
  have HW0 := hid h
  clear hi hz0 hz1 hz2 h
  go_enter Tryz.func32, Tryz.ntmps32
  go_wp2_with fail
  go_loopw [4, 7] (fun _ ti wr => ∃ i : Nat, i ≤ 8 ∧ ti = .int .i64 i ∧ CWr B wr (L ++ (CD.wN n).take i) ∧ WFr B w wr) (fun _ ti _ => 8 - (intOf ti).toNat)
  case atStart => exact ⟨0, by omega, rfl, by simpa using HW0.out, WFr.refl _ _⟩
  case round =>
    obtain ⟨i, hi, rfl, hw, hfr⟩ := hrel
    obtain ⟨v, hv, hown⟩ := hw
    obtain ⟨c0, f0⟩ := cw_cells hv
    obtain ⟨M, hM⟩ : ∃ M, L ++ (CD.wN n).take i = M := ⟨_, rfl⟩
    rw [hM] at hown
    have hMl : M.length ≤ 10000000000008 := by
      rw [← hM, List.length_append, List.length_take]
      omega
    have HM := hid hM
    have HV := hid hv
    have HO := hid hown
    have HF := hid hfr
    have hB := heap_lt hv
    clear hv hown hfr hM HW0
    by_cases hlt : i < 8
    · obtain ⟨k, hk⟩ : ∃ k : Nat, (7 : Int) - i = k := ⟨7 - i, by omega⟩
      obtain ⟨s, hs⟩ : ∃ s : Nat, (8 : Int) * k = s := ⟨8 * k, by omega⟩
      have hk1 : IntKind.i64.wrap (7 - (i : Int)) = k := by rw [IntKind.wrap_i64]; omega
      have hs1 : IntKind.i64.wrap (8 * (k : Int)) = s := by rw [IntKind.wrap_i64]; omega
      have hs2 : s ≤ 56 := by omega
      obtain ⟨b, hb1, hb2⟩ := byte_num n i k s hlt hk hs
      have HB1 := hid hb1
      clear hk hs hb1
      have hbm : Below wr.heap.size wr (wr.alloc (.cells #[.int .u8 (b.toNat : Int)] 5)).drew := ((Below.refl _ wr).alloc (Nat.le_refl _) _).drew
      have HBM := hid hbm
      clear hbm
      go_wp2_with fail
      go_region_law ((refine step_app_own rfl (.tmp 14) (.tmp 21) 47 rfl (B + 1) 5 ii (.int .u8 0) 1 1 Tryz.underlying47 HI0.out HZ0.out HZ1.out HZ2.out rfl (by decide) v M.length (Lib.byteCells M) (by simp [Act.eval]) (own_heap (HO.out.alloc (.cells #[.int .u8 (b.toNat : Int)] 5)) rfl) ⟨wr.heap.size, 0, none⟩ 1 1 [.int .u8 (b.toNat : Int)] (by simp [Act.eval]) rfl (fun j u hj => one_news wr _ 5 j u hj) (one_u8 _) (by unfold maxLen; omega) (by omega) (by simp; omega) ?_; intro v7 w7 hown7 hgrow7 _; obtain ⟨g0, g1, g2, g3⟩ := cw_push (N := [b]) HV.out HO.out HF.out HBM.out hown7 hgrow7; obtain ⟨ao7, cap7, e7⟩ := own_slice' hown7; have HG2 := hid g2; have HG3 := hid g3; clear hown7 hgrow7 g2 g3; subst e7))
      all_goals
        go_wp2_with fail
        go_roundw
        case rel =>
          refine ⟨i + 1, by omega, by go_num, ?_, HG3.out⟩
          rw [HB1.out, ← List.append_assoc, HM.out]
          exact HG2.out
        case measure => simp [intOf]; omega
    · go_wp2_with fail
      go_end0
      have he : i = 8 := by omega
      subst he
      refine ⟨rfl, ⟨v, HV.out, ?_⟩, HF.out⟩
      have e : L ++ CD.wN n = M := HM.out
      rw [e]
      exact HO.out

theorem sb_cells (s : ByteArray) : Lib.strCells s = Lib.byteCells s.data.toList := rfl

set_option maxRecDepth 100000 in
theorem ctext_any (B : Nat) (s : ByteArray) (L : List UInt8) (w : World) (h : CWr B w L) (hL : L.length ≤ 1000000000000) (hs : s.size ≤ 1000000000000) :
    Calls Tryz.prog 36 #[.pointer (some ⟨B, 0, none⟩), .string s] w fun e w' => e = .returned (.tuple #[]) ∧ CWr B w' (L ++ CD.wT s.data.toList) ∧ WFr B w w' := by
  obtain ⟨ii, hi, hz0, hz1, hz2⟩ := info_parts Tryz.info5
  have HI0 := hid hi
  have HZ0 := hid hz0
  have HZ1 := hid hz1
  have HZ2 := hid hz2
  have HC := hid (cnum_any B (s.size : Int) L w h (by omega) (by omega) (by omega))
  clear hi hz0 hz1 hz2 h
  go_enter Tryz.func36, Tryz.ntmps36
  go_wp2_with fail
  refine HC.out.mono ?_
  rintro e w1 ⟨rfl, hw, hfr⟩
  have hl : s.data.toList.length = s.size := by rw [Array.length_toList]; rfl
  have HT : Hid (L ++ CD.wT s.data.toList = (L ++ CD.wN (s.size : Int)) ++ s.data.toList) := by
    show _ = _
    unfold CD.wT
    rw [hl, List.append_assoc]
  generalize hM : L ++ CD.wN (s.size : Int) = M at *
  have hMl : M.length ≤ 1000000000008 := by rw [← hM, List.length_append, CD.wN_length]; omega
  obtain ⟨v, hv, hown⟩ := hw
  obtain ⟨c0, f0⟩ := cw_cells hv
  have HV := hid hv
  have HO := hid hown
  have HF := hid hfr
  have hB := heap_lt hv
  have HL := hid hl
  clear hv hown hfr hM HC hl
  go_wp2_with (at_builtin; refine Lib.wpList_append_own_string w1 rfl (.tmp 14) (.tmp 15) 47 9 rfl (B + 1) 5 ii Tryz.underlying47 Tryz.underlying9 HI0.out HZ0.out HZ1.out HZ2.out v M.length (Lib.byteCells M) rfl HO.out s rfl (by unfold maxLen; omega) (by omega) (by omega) ?_)
  intro v' w2 hown' hgrow _
  obtain ⟨g0, g1, g2, g3⟩ := cw_push (N := s.data.toList) HV.out HO.out HF.out (Below.refl _ _) (by rw [HL.out]; exact hown') hgrow
  obtain ⟨ao7, cap7, e7⟩ := own_slice' hown'
  have HG2 := hid g2
  have HG3 := hid g3
  clear hown' hgrow g2 g3
  subst e7
  go_wp2_with fail
  go_end0
  rw [HT.out]
  exact ⟨rfl, HG2.out, HG3.out⟩

set_option maxRecDepth 100000 in
theorem cbytes_any (B : Nat) (L : List UInt8) (w : World) (h : CWr B w L) :
    Calls Tryz.prog 37 #[.pointer (some ⟨B, 0, none⟩)] w fun e w' => e = .returned (.string (sb L)) ∧ Below w.heap.size w w' := by
  obtain ⟨v, hv, hown⟩ := h
  obtain ⟨c0, f0⟩ := cw_cells hv
  have hcv : (convert 47 9 v).run Tryz.prog w = .ok (.string (sb L)) w := by
    rcases hown.2 with ⟨rfl, hz⟩ | ⟨g, cap, cur, rfl, _⟩
    · have e : L = [] := List.eq_nil_of_length_eq_zero hz
      subst e
      rw [run_convert_bytes_string w 47 9 5 none 0 0 Tryz.underlying47 Tryz.underlying5 Tryz.underlying9]
      simp [Conv.bytesToString, sb]
      rfl
    · have := run_convert_bytes_back (P := Tryz.prog) w 47 9 5 ⟨g, 0, none⟩ cap L Tryz.underlying47 Tryz.underlying5 Tryz.underlying9 (fun j hj => hown.cells (g := g) rfl j (.int .u8 (L[j].toNat : Int)) (by
        unfold Lib.byteCells
        rw [List.getElem?_map, List.getElem?_eq_getElem hj]; rfl))
      exact this
  obtain ⟨ao7, cap7, e7⟩ := own_slice' hown
  clear hown hv
  subst e7
  go_enter Tryz.func37, Tryz.ntmps37
  go_wp2_with fail
  go_ret
  exact ⟨rfl, Below.refl _ _⟩

theorem wL_append : ∀ a b : List CD.Lb, CD.wL (a ++ b) = CD.wL a ++ CD.wL b
  | [], _ => rfl
  | x :: a, b => by
    show CD.wT x.1 ++ (CD.wT x.2 ++ CD.wL (a ++ b)) = CD.wT x.1 ++ (CD.wT x.2 ++ CD.wL a) ++ CD.wL b
    rw [wL_append a b]
    simp

theorem wL_step (l : List LB.Lab) (i : Nat) (hi : i < l.length) : CD.wL ((lbOf l).take (i + 1)) = CD.wL ((lbOf l).take i) ++ (CD.wT (LB.at' l i).1.data.toList ++ CD.wT (LB.at' l i).2.data.toList) := by
  have hi' : i < (lbOf l).length := by simpa [lbOf] using hi
  have e1 : (lbOf l).take (i + 1) = (lbOf l).take i ++ [(lbOf l)[i]'hi'] := by rw [List.take_add_one, List.getElem?_eq_getElem hi']; rfl
  have e2 : (lbOf l)[i]'hi' = ((LB.at' l i).1.data.toList, (LB.at' l i).2.data.toList) := by
    have e3 : LB.at' l i = l[i]'hi := by
      unfold LB.at'
      rw [List.getD_eq_getElem?_getD, List.getElem?_eq_getElem hi]
      rfl
    rw [e3]
    simp [lbOf]
  rw [e1, wL_append, e2]
  show _ = _
  simp [CD.wL]

theorem wL_len (l : List LB.Lab) (h : Shrt l) : ∀ i, i ≤ l.length → (CD.wL ((lbOf l).take i)).length ≤ 4016 * i := by
  intro i
  induction i with
  | zero => intro _; simp [CD.wL]
  | succ i ih =>
    intro hi
    have h1 := ih (by omega)
    have h2 := h i (by omega)
    rw [wL_step l i (by omega), List.length_append, List.length_append, CD.wT_length, CD.wT_length]
    have e1 : (LB.at' l i).1.data.toList.length = (LB.at' l i).1.size := by rw [Array.length_toList]; rfl
    have e2 : (LB.at' l i).2.data.toList.length = (LB.at' l i).2.size := by rw [Array.length_toList]; rfl
    omega

set_option maxRecDepth 100000 in
theorem clabels_any (B : Nat) (ao : Option Addr) (l : List LB.Lab) (cap : Nat) (L : List UInt8) (w0 w : World) (h : CWr B w L) (hR : LRow w0 ao l) (hb0 : Below w0.heap.size w0 w) (hB0 : w0.heap.size ≤ B) (hsh : Shrt l) (hl : l.length ≤ 1000) (hL : L.length ≤ 100000000000) :
    Calls Tryz.prog 35 #[.pointer (some ⟨B, 0, none⟩), .slice ao l.length cap] w fun e w' => e = .returned (.tuple #[]) ∧ CWr B w' (L ++ (CD.wN l.length ++ CD.wL (lbOf l))) ∧ WFr B w w' := by
  have HC := hid (cnum_any B (l.length : Int) L w h (by omega) (by omega) (by omega))
  have hBw := h.lt
  have HLR := hid hR
  have HB0 := hid hb0
  have HSh := hid hsh
  clear h hR hb0 hsh
  go_enter Tryz.func35, Tryz.ntmps35
  go_wp2_with fail
  refine HC.out.mono ?_
  rintro e w1 ⟨rfl, hw, hfr⟩
  have HW1 := hid hw
  have HF1 := hid hfr
  clear hw hfr HC
  go_wp2_with fail
  go_loopw [5, 12] (fun _ ti wr => ∃ i : Nat, i ≤ l.length ∧ ti = .int .i64 i ∧ CWr B wr ((L ++ CD.wN l.length) ++ CD.wL ((lbOf l).take i)) ∧ WFr B w wr) (fun _ ti _ => l.length - (intOf ti).toNat)
  case atStart => exact ⟨0, by omega, rfl, by simpa [CD.wL] using HW1.out, HF1.out⟩
  case round =>
    obtain ⟨i, hi, rfl, hw, hfr⟩ := hrel
    by_cases hlt : i < l.length
    · have hsz := HSh.out i hlt
      have HSt := hid (wL_step l i hlt)
      have hlen := wL_len l HSh.out i hi
      have hbel : Below w0.heap.size w0 wr := HB0.out.trans (⟨hfr.below.os, hfr.below.tape, hfr.below.output, hfr.below.size, fun j hj => hfr.below.block j (Nat.lt_of_lt_of_le hj hB0)⟩)
      obtain ⟨b, off, hao, hc0, hc1, hbs⟩ := HLR.out i hlt
      subst hao
      have hcell0 := (hbel.cell (p := ⟨b, off + i * 2, none⟩) hbs).trans hc0
      have hcell1 := (hbel.cell (p := ⟨b, off + i * 2 + 1, none⟩) hbs).trans hc1
      have e1 : (LB.at' l i).1.data.toList.length = (LB.at' l i).1.size := by rw [Array.length_toList]; rfl
      generalize (LB.at' l i).1 = N at *
      generalize (LB.at' l i).2 = V at *
      obtain ⟨M, hM⟩ : ∃ M, (L ++ CD.wN l.length) ++ CD.wL ((lbOf l).take i) = M := ⟨_, rfl⟩
      have hMl : M.length ≤ 100000000000 + 8 + 4016 * i := by
        rw [← hM, List.length_append, List.length_append, CD.wN_length]
        omega
      rw [hM] at hw
      have HM := hid hM
      have hB := hw.lt
      have hbox : Below wr.heap.size wr (wr.alloc (.cells #[.string N, .string V] 49)) := (Below.refl _ wr).alloc (Nat.le_refl _) _
      have HFA := hid (hfr.trans (WFr.of_below hbox (by omega)))
      have HC1 := hid (ctext_any B N M _ (hw.kept hbox) (by omega) (by omega))
      have HX := hid (heap_alloc_new wr (.cells #[.string N, .string V] 49))
      clear hw hfr hM hbox hc0 hc1 hbel hlen
      go_wp2_with fail
      refine HC1.out.mono ?_
      rintro e w2 ⟨rfl, hw2, hfr2⟩
      have hx2 := hfr2.other HX.out (by decide) (by omega)
      have y1 : w2.cell? ⟨wr.heap.size, 1, none⟩ = some (.string V) := by simp [World.cell?, hx2]
      have hMl2 : (M ++ CD.wT N.data.toList).length ≤ 1000000000000 := by
        rw [List.length_append, CD.wT_length]
        omega
      have HC2 := hid (ctext_any B V _ _ hw2 hMl2 (by omega))
      have HFB := hid (HFA.out.trans hfr2)
      clear hw2 hfr2 HC1 hx2 hMl2
      go_wp2_with fail
      refine HC2.out.mono ?_
      rintro e w3 ⟨rfl, hw3, hfr3⟩
      have HW3 := hid hw3
      have HFC := hid (HFB.out.trans hfr3)
      clear hw3 hfr3 HC2
      go_wp2_with fail
      go_roundw
      case rel =>
        refine ⟨i + 1, by omega, by go_num, ?_, HFC.out⟩
        rw [HSt.out, ← List.append_assoc, HM.out, ← List.append_assoc]
        exact HW3.out
      case measure => simp [intOf]; omega
    · have he : i = l.length := by omega
      have HW := hid hw
      have HF := hid hfr
      have HE := hid he
      clear hw hfr he
      go_wp2_with fail
      go_end0
      refine ⟨rfl, ?_, HF.out⟩
      have h3 := HW.out
      rw [HE.out, List.take_of_length_le (by simp [lbOf]), List.append_assoc] at h3
      exact h3

/-- Whether a series may be. -/
def okS (x : Sr) : Bool := CL.right x.2 && LB.right x.1

/-- Series that are held: few, and short. -/
def SrSh (l : List Sr) : Prop := l.length ≤ 2000 ∧ ∀ i, i < l.length → Shrt (atSr l i).1 ∧ (atSr l i).1.length ≤ 20 ∧ (atSr l i).2.length ≤ 2000 ∧ ∀ s ∈ (atSr l i).2, CL.Rs s

theorem wS_append : ∀ a b : List (List CD.Lb × List CL.Smp), CD.wS chE (a ++ b) = CD.wS chE a ++ CD.wS chE b
  | [], _ => rfl
  | x :: a, b => by
    show CD.wN x.1.length ++ (CD.wL x.1 ++ (CD.wT (chE x.2) ++ CD.wS chE (a ++ b))) = CD.wN x.1.length ++ (CD.wL x.1 ++ (CD.wT (chE x.2) ++ CD.wS chE a)) ++ CD.wS chE b
    rw [wS_append a b]
    simp

theorem wS_step (l : List Sr) (i : Nat) (hi : i < l.length) : CD.wS chE ((l.map srOf).take (i + 1)) = CD.wS chE ((l.map srOf).take i) ++ ((CD.wN (atSr l i).1.length ++ CD.wL (lbOf (atSr l i).1)) ++ CD.wT (chE (atSr l i).2)) := by
  have hi' : i < (l.map srOf).length := by simpa using hi
  have e1 : (l.map srOf).take (i + 1) = (l.map srOf).take i ++ [(l.map srOf)[i]'hi'] := by rw [List.take_add_one, List.getElem?_eq_getElem hi']; rfl
  have e2 : (l.map srOf)[i]'hi' = srOf (atSr l i) := by
    have e3 : atSr l i = l[i]'hi := by
      unfold atSr
      rw [List.getD_eq_getElem?_getD, List.getElem?_eq_getElem hi]
      rfl
    rw [e3]
    simp
  have e4 : (lbOf (atSr l i).1).length = (atSr l i).1.length := by simp [lbOf]
  rw [e1, wS_append, e2]
  show _ ++ (CD.wN (lbOf (atSr l i).1).length ++ (CD.wL (lbOf (atSr l i).1) ++ (CD.wT (chE (atSr l i).2) ++ []))) = _
  rw [e4]
  simp

theorem chE_len (l : List CL.Smp) (h : l.length ≤ 2000) : (strOf (BL.pk (CL.chB l))).size ≤ 35020 := by
  have h1 := CL.chB_len l
  have h2 := BL.pk_length (CL.chB l)
  have e : (strOf (BL.pk (CL.chB l))).size = (BL.pk (CL.chB l)).length := by simp [strOf, ByteArray.size]
  rw [e]
  omega

theorem wS_len (l : List Sr) (h : SrSh l) : ∀ i, i ≤ l.length → (CD.wS chE ((l.map srOf).take i)).length ≤ 120000 * i := by
  intro i
  induction i with
  | zero => intro _; simp [CD.wS]
  | succ i ih =>
    intro hi
    have h1 := ih (by omega)
    obtain ⟨h2, h3, h4, _⟩ := h.2 i (by omega)
    have h5 := chE_len (atSr l i).2 (by omega)
    have h6 := wL_len (atSr l i).1 h2 (atSr l i).1.length (Nat.le_refl _)
    have e0 : (lbOf (atSr l i).1).take (atSr l i).1.length = lbOf (atSr l i).1 := List.take_of_length_le (by simp [lbOf])
    rw [e0] at h6
    have e1 : (chE (atSr l i).2).length = (strOf (BL.pk (CL.chB (atSr l i).2))).size := by unfold chE; rw [Array.length_toList]; rfl
    rw [wS_step l i (by omega)]
    simp only [List.length_append, CD.wT_length, CD.wN_length]
    omega

/-- What code.Series tells. -/
def CSerEnd (w : World) (l : List Sr) (e : Ending) (w' : World) : Prop :=
  Below w.heap.size w w' ∧ (((∀ i, i < l.length → okS (atSr l i) = true) ∧ e = .returned (.tuple #[.string (sb (CD.wAll chE (l.map srOf))), .nilIface])) ∨
    (∃ i b, i < l.length ∧ (∀ j, j < i → okS (atSr l j) = true) ∧ okS (atSr l i) = false ∧ e = .returned (.tuple #[.string ⟨#[]⟩, .iface 89 (.pointer (some ⟨b, 0, none⟩))]) ∧ w'.heap[b]? = some (.cells #[.int .i64 1, .int .i64 i] 90) ∧ w.heap.size ≤ b))

/-- chunk.Write, whatever comes. -/
theorem cwrite_any (ao : Option Addr) (l : List CL.Smp) (cap : Nat) (w : World) (hS : SRow w ao l) (hR : ∀ s ∈ l, CL.Rs s) (hl : l.length ≤ 2000) (hW : Wids w) (hG : 1 < w.heap.size) :
    Calls Tryz.prog 33 #[.slice ao l.length cap] w fun e w' => ∃ t ev, e = .returned (.tuple #[.string t, ev]) ∧ Below w.heap.size w w' ∧ ((CL.right l = true ∧ ev = .nilIface ∧ t = strOf (BL.pk (CL.chB l))) ∨ (CL.right l = false ∧ ev = .iface 24 (.int .i64 1))) := by
  cases hr : CL.right l with
  | true =>
    refine (write_ok ao l cap w hS hR hW hG hr).mono ?_
    rintro e w' ⟨rfl, hb⟩
    exact ⟨_, _, rfl, hb, .inl ⟨rfl, rfl, rfl⟩⟩
  | false =>
    refine (write_bad ao l cap w hS hR (by omega) hr).mono ?_
    rintro e w' ⟨rfl, hb⟩
    exact ⟨_, _, rfl, hb, .inr ⟨rfl, rfl⟩⟩

set_option maxRecDepth 100000 in
set_option maxHeartbeats 800000 in
theorem cser_any (ao : Option Addr) (l : List Sr) (cap : Nat) (w : World) (hS : SrRow w ao l) (hsh : SrSh l) (hW : Wids w) (hG : 1 < w.heap.size) :
    Calls Tryz.prog 7 #[.slice ao l.length cap] w fun e w' => CSerEnd w l e w' := by
  have HS := hid hS
  have HSh := hid hsh
  have HWd := hid hW
  have hl := hsh.1
  have hb0 : Below w.heap.size w (w.alloc (.cells #[.slice none 0 0] 86)) := (Below.refl _ w).alloc (Nat.le_refl _) _
  have HC := hid (cnum_any w.heap.size (l.length : Int) [] _ (CWr.new w) (by simp) (by omega) (by omega))
  have HB0 := hid hb0
  clear hS hsh hW hb0
  go_enter Tryz.func7, Tryz.ntmps7
  go_wp2_with fail
  refine HC.out.mono ?_
  rintro e w1 ⟨rfl, hw, hfr⟩
  have HW1 := hid hw
  have HB1 := hid (HB0.out.trans hfr.below)
  clear hw hfr HC HB0
  go_wp2_with fail
  go_loopw [5, 6, 7, 8, 14] (fun _ _ _ _ ti wr => ∃ i : Nat, i ≤ l.length ∧ ti = .int .i64 i ∧ CWr w.heap.size wr (CD.wN l.length ++ CD.wS chE ((l.map srOf).take i)) ∧ Below w.heap.size w wr ∧ ∀ j, j < i → okS (atSr l j) = true) (fun _ _ _ _ ti _ => l.length - (intOf ti).toNat)
  case atStart => exact ⟨0, by omega, rfl, by simpa [CD.wS] using HW1.out, HB1.out, by omega⟩
  case round =>
    obtain ⟨i, hi, rfl, hw, hbel, hok⟩ := hrel
    have HOk := hid hok
    clear hok HW1 HB1
    by_cases hlt : i < l.length
    · obtain ⟨hs1, hs2, hs3, hs4⟩ := HSh.out.2 i hlt
      have HSt := hid (wS_step l i hlt)
      have hlen := wS_len l HSh.out i hi
      obtain ⟨b, off, hao, hbs, lo, lc, so, sc, hc0, hc1, hLR, hSR⟩ := HS.out i hlt
      subst hao
      have hcell0 := (hbel.cell (p := ⟨b, off + i * 2, none⟩) hbs).trans hc0
      have hcell1 := (hbel.cell (p := ⟨b, off + i * 2 + 1, none⟩) hbs).trans hc1
      obtain ⟨q, hq⟩ : ∃ q, okS (atSr l i) = q := ⟨_, rfl⟩
      have HQ := hid hq
      unfold okS at hq
      have HNx : Hid (okS (atSr l i) = true → ∀ j, j < i + 1 → okS (atSr l j) = true) := fun h j hj => by
        by_cases he : j = i
        · subst he; exact h
        · exact HOk.out j (by omega)
      obtain ⟨M, hM⟩ : ∃ M, CD.wN l.length ++ CD.wS chE ((l.map srOf).take i) = M := ⟨_, rfl⟩
      have hMl : M.length ≤ 8 + 120000 * i := by
        rw [← hM, List.length_append, CD.wN_length]
        omega
      have h6 := wL_len (atSr l i).1 hs1 (atSr l i).1.length (Nat.le_refl _)
      have e0 : (lbOf (atSr l i).1).take (atSr l i).1.length = lbOf (atSr l i).1 := List.take_of_length_le (by simp [lbOf])
      rw [e0] at h6
      have h7 := chE_len (atSr l i).2 (by omega)
      have HCe : Hid (chE (atSr l i).2 = (strOf (BL.pk (CL.chB (atSr l i).2))).data.toList) := rfl
      generalize (atSr l i).1 = la at *
      generalize (atSr l i).2 = sm at *
      rw [hM] at hw
      have HM := hid hM
      have hB := hw.lt
      have hsz := hbel.size
      have hbox : Below wr.heap.size wr (wr.alloc (.cells #[.slice lo la.length lc, .slice so sm.length sc] 55)) := (Below.refl _ wr).alloc (Nat.le_refl _) _
      have hbx := (hbel.alloc hsz (.cells #[.slice lo la.length lc, .slice so sm.length sc] 55))
      have HC1 := hid (cwrite_any so sm sc _ (hSR.below hbx) hs4 hs3 (Wids.below HWd.out hbx hG) (Nat.lt_of_lt_of_le hG hbx.size))
      have HX := hid (heap_alloc_new wr (.cells #[.slice lo la.length lc, .slice so sm.length sc] 55))
      have HW2 := hid (hw.kept hbox)
      have HBx := hid hbx
      have HLR := hid hLR
      have HS1 := hid hs1
      clear hw hM hbox hc0 hc1 hlen hbel hbx hLR hSR hs1 hs4 e0
      go_wp2_with fail
      refine HC1.out.mono ?_
      rintro e w2 ⟨t, ev, rfl, hb2, hev⟩
      have hx2 := (hb2.block wr.heap.size (by simp)).trans HX.out
      have y0 : w2.cell? ⟨wr.heap.size, 0, none⟩ = some (.slice lo la.length lc) := by simp [World.cell?, hx2]
      have HX2 := hid hx2
      have HBx2 := hid (HBx.out.trans (hb2.mono (by simp; omega)))
      have HW3 := hid (HW2.out.kept hb2)
      have hsz2 : wr.heap.size < w2.heap.size := by have := hb2.size; simp at this; omega
      have HC2 := hid (lright_any lo la lc w2 (HLR.out.below HBx2.out))
      clear hb2 hx2 HC1
      have HEnd : Hid (q = false → ∀ w' : World, Below w.heap.size w w' → CSerEnd w l (.returned (.tuple #[.string ⟨#[]⟩, .iface 89 (.pointer (some ⟨w'.heap.size, 0, none⟩))])) (w'.alloc (.cells #[.int .i64 1, .int .i64 i] 90))) := fun hq w' hb' =>
        ⟨hb'.alloc hb'.size _, .inr ⟨i, w'.heap.size, hlt, HOk.out, by rw [HQ.out, hq], rfl, heap_alloc_new w' _, hb'.size⟩⟩
      rcases hev with ⟨hr, rfl, rfl⟩ | ⟨hr, rfl⟩
      · rw [hr] at hq
        have hq' : LB.right la = q := by simpa using hq
        rw [hq'] at HC2
        clear hq hq' hr
        go_wp2_with fail
        refine HC2.out.mono ?_
        rintro e w3 ⟨rfl, hb3⟩
        have HB3 := hid hb3
        clear hb3 HC2
        cases q with
        | false =>
          go_wp2_with fail
          go_ret2
          exact HEnd.out (by trivial) _ (HBx2.out.trans (HB3.out.mono HBx2.out.size))
        | true =>
          have hx3 := (HB3.out.block wr.heap.size hsz2).trans HX2.out
          have y3 : w3.cell? ⟨wr.heap.size, 0, none⟩ = some (.slice lo la.length lc) := by simp [World.cell?, hx3]
          have HBx3 := hid (HBx2.out.trans (HB3.out.mono HBx2.out.size))
          have HC3 := hid (clabels_any w.heap.size lo la lc M w w3 (HW3.out.kept HB3.out) HLR.out HBx3.out (Nat.le_refl _) HS1.out (by omega) (by omega))
          clear hx3
          go_wp2_with fail
          refine HC3.out.mono ?_
          rintro e w4 ⟨rfl, hw4, hf4⟩
          have HBx4 := hid (HBx3.out.trans hf4.below)
          have hl4 : (M ++ (CD.wN la.length ++ CD.wL (lbOf la))).length ≤ 1000000000000 := by
            simp only [List.length_append, CD.wN_length]
            omega
          have HC4 := hid (ctext_any w.heap.size (strOf (BL.pk (CL.chB sm))) _ w4 hw4 hl4 (by omega))
          clear hw4 hf4 hl4 HC3
          go_wp2_with fail
          refine HC4.out.mono ?_
          rintro e w5 ⟨rfl, hw5, hf5⟩
          have HW5 := hid hw5
          have HBx5 := hid (HBx4.out.trans hf5.below)
          clear hw5 hf5 HC4
          go_wp2_with fail
          go_roundw
          case rel =>
            refine ⟨i + 1, by omega, by go_num, ?_, HBx5.out, HNx.out HQ.out⟩
            rw [HSt.out, ← List.append_assoc, HM.out, HCe.out, ← List.append_assoc]
            exact HW5.out
          case measure => simp [intOf]; omega
      · rw [hr] at hq
        have hq' : q = false := by simpa using hq.symm
        clear hq hr HC2
        go_wp2_with fail
        go_ret2
        exact HEnd.out hq' _ HBx2.out
    · have he : i = l.length := by omega
      have HE := hid he
      have HC1 := hid (cbytes_any w.heap.size _ wr hw)
      have HB1 := hid hbel
      clear hw hbel he
      go_wp2_with fail
      refine HC1.out.mono ?_
      rintro e w2 ⟨rfl, hb2⟩
      have HB2 := hid (HB1.out.trans (hb2.mono HB1.out.size))
      clear hb2 HC1
      go_wp2_with fail
      go_ret2
      refine ⟨HB2.out, .inl ⟨fun j hj => HOk.out j (by rw [HE.out]; exact hj), ?_⟩⟩
      have e : CD.wN l.length ++ CD.wS chE ((l.map srOf).take i) = CD.wAll chE (l.map srOf) := by
        rw [HE.out, List.take_of_length_le (by simp)]
        unfold CD.wAll
        rw [List.length_map]
      rw [e]
      rfl

end Go.Proofs.YtdmnlmohfaafoadGreatDoor
