/- What wal.joined answers; slices.ContainsFunc at texts, and the look at how long notes are. -/
import Derived.Test.YtdmnlmohfaafoadDoorWlNum
import Derived.Test.YtdmnlmohfaafoadDoorLbMem
import Derived.Test.YtdmnlmohfaafoadDoorShelfT
namespace Go.Proofs.YtdmnlmohfaafoadDoor
open Go.RowKit

theorem an_take (l : List ByteArray) (i : Nat) (h : i < l.length) : l.take (i + 1) = l.take i ++ [LB.an l i] := by
  unfold LB.an
  rw [List.take_add_one, List.getElem?_eq_getElem h, List.getD_eq_getElem?_getD, List.getElem?_eq_getElem h]
  rfl

theorem an_mem (l : List ByteArray) (i : Nat) (h : i < l.length) : LB.an l i ∈ l := by
  unfold LB.an
  rw [List.getD_eq_getElem?_getD, List.getElem?_eq_getElem h]
  exact List.getElem_mem h

theorem joined_size (M : Nat) : ∀ (l : List ByteArray), (∀ s ∈ l, s.size ≤ M) → (WL.joined l).size ≤ (M + 2) * l.length
  | [], _ => by show 0 ≤ _; omega
  | s :: l, h => by
    have h1 := joined_size M l (fun t ht => h t (by simp [ht]))
    have h2 := h s (by simp)
    show (WL.enc s ++ WL.joined l).size ≤ _
    rw [ByteArray.size_append, WL.enc_size, List.length_cons, Nat.mul_succ]
    omega

theorem enc_cells (a s : ByteArray) (h : s.size < 65536) : Lib.byteCells (a ++ WL.enc s).data.toList = ((Lib.byteCells a.data.toList ++ [.int .u8 ((s.size : Int) / 256)]) ++ [.int .u8 ((s.size : Int) % 256)]) ++ Lib.strCells s := by
  have h1 : ((UInt8.ofNat (s.size / 256)).toNat : Int) = (s.size : Int) / 256 := by
    rw [UInt8.toNat_ofNat']; omega
  have h2 : ((UInt8.ofNat (s.size % 256)).toNat : Int) = (s.size : Int) % 256 := by
    rw [UInt8.toNat_ofNat']; omega
  rw [WL.data_append, WL.enc_data]
  simp only [Lib.byteCells, Lib.strCells, List.map_append, List.map_cons, h1, h2]
  simp

theorem wbuilder_lt {T e : TypeId} {B b : Nat} {bs : List Value} {w : World} (h : Lib.IsBuilderF T e B b bs w) : b < w.heap.size := by
  rcases h with ⟨_, v, hb, _⟩ | ⟨_, v, hb, _⟩ <;> exact heap_lt hb

set_option maxRecDepth 100000 in
set_option maxHeartbeats 800000 in
theorem joined_any (ao : Option Addr) (l : List ByteArray) (cap : Nat) (w : World) (hL : NRow w ao l) (hl : l.length ≤ 100000) (hz : ∀ s ∈ l, s.size ≤ 60000) :
    Calls Tryd.prog 75 #[.slice ao l.length cap] w fun e w' => e = .returned (.string (WL.joined l)) ∧ Below w.heap.size w w' := by
  have HL := hid hL
  have HZ := hid hz
  clear hL hz
  go_enter Tryd.func75, Tryd.ntmps75
  go_wp2_with fail
  go_loopw [8] (fun ti wr => ∃ i : Nat, i ≤ l.length ∧ ti = .int .i64 i ∧ Lib.IsBuilderF 156 5 w.heap.size w.heap.size (Lib.byteCells (WL.joined (l.take i)).data.toList) wr ∧ Below w.heap.size w wr) (fun ti _ => l.length - (intOf ti).toNat)
  case atStart => exact ⟨0, by omega, rfl, Lib.IsBuilderF.of (Lib.fresh_isBuilder _ _ w), (Below.refl _ w).alloc (Nat.le_refl _) _⟩
  case round =>
    obtain ⟨i, hi, rfl, hib, hbel⟩ := hrel
    have HIB := hid hib
    have HBl := hid hbel
    have hsz := hbel.size
    clear hib hbel
    by_cases hlt : i < l.length
    · obtain ⟨b, off, hao, hc0, hbs⟩ := HL.out i hlt
      subst hao
      have hcell0 := (HBl.out.cell (p := ⟨b, off + i, none⟩) hbs).trans hc0
      clear hc0
      have hszS := HZ.out _ (an_mem l i hlt)
      have HJ : Hid (WL.joined (l.take (i + 1)) = WL.joined (l.take i) ++ WL.enc (LB.an l i)) := by
        show _ = _
        rw [an_take l i hlt, WL.joined_one]
      have hlenT : (WL.joined (l.take i)).size ≤ 60002 * i := by
        have := joined_size 60000 (l.take i) (fun s hs => HZ.out s (List.mem_of_mem_take hs))
        rw [List.length_take] at this
        have e : min i l.length = i := by omega
        rw [e] at this; exact this
      generalize LB.an l i = s at *
      have hlen1 : (Lib.byteCells (WL.joined (l.take i)).data.toList).length + 1 ≤ 140737488355328 := by rw [Lib.byteCells_length, WL.size_data]; omega
      go_wp2_with fail
      refine (Tryd.Builder_WriteByte_k w.heap.size w.heap.size _ ((s.size : Int) / 256) _ HIB.out hlen1 hsz).mono ?_
      rintro e w1 ⟨rfl, hb1, hbel1, _⟩
      have HB1 := hid (HBl.out.trans hbel1)
      have HA1 : Hid (Lib.IsBuilderF 156 5 w.heap.size w.heap.size (Lib.byteCells (WL.joined (l.take i)).data.toList ++ [.int .u8 ((s.size : Int) / 256)]) w1) := .inr hb1
      have hs1 := HB1.out.size
      clear hb1 hbel1
      have hlen2 : (Lib.byteCells (WL.joined (l.take i)).data.toList ++ [Value.int .u8 ((s.size : Int) / 256)]).length + 1 ≤ 140737488355328 := by rw [List.length_append, Lib.byteCells_length, WL.size_data]; simp only [List.length_cons, List.length_nil]; omega
      go_wp2_with fail
      refine (Tryd.Builder_WriteByte_k w.heap.size w.heap.size _ ((s.size : Int) % 256) _ HA1.out hlen2 hs1).mono ?_
      rintro e w2 ⟨rfl, hb2, hbel2, _⟩
      have HB2 := hid (HB1.out.trans hbel2)
      have HA2 : Hid (Lib.IsBuilderF 156 5 w.heap.size w.heap.size ((Lib.byteCells (WL.joined (l.take i)).data.toList ++ [.int .u8 ((s.size : Int) / 256)]) ++ [.int .u8 ((s.size : Int) % 256)]) w2) := .inr hb2
      have hs2 := HB2.out.size
      clear hb2 hbel2
      have hlen3 : ((Lib.byteCells (WL.joined (l.take i)).data.toList ++ [Value.int .u8 ((s.size : Int) / 256)]) ++ [Value.int .u8 ((s.size : Int) % 256)]).length + s.size ≤ 140737488355328 := by rw [List.length_append, List.length_append, Lib.byteCells_length, WL.size_data]; simp only [List.length_cons, List.length_nil]; omega
      go_wp2_with fail
      refine (Tryd.Builder_WriteString_k w.heap.size w.heap.size _ s _ HA2.out hlen3 hs2).mono ?_
      rintro e w3 ⟨rfl, hb3, hbel3, _⟩
      have HB3 := hid (HB2.out.trans hbel3)
      have HA3 : Hid (Lib.IsBuilderF 156 5 w.heap.size w.heap.size (Lib.byteCells (WL.joined (l.take (i + 1))).data.toList) w3) := .inr (by
        rw [HJ.out, enc_cells _ s (by omega)]; exact hb3)
      clear hb3 hbel3 hlen3 hlen2 hlen1
      go_wp2_with fail
      go_roundw
      case rel => exact ⟨i + 1, by omega, by go_num, HA3.out, HB3.out⟩
      case measure => simp [intOf]; omega
    · have he : i = l.length := by omega
      subst he
      have e0 : l.take l.length = l := List.take_length
      rw [e0] at HIB
      clear e0
      go_wp2_with fail
      refine (Tryd.Builder_String_k w.heap.size w.heap.size _ _ HIB.out hsz).mono ?_
      rintro e w3 ⟨rfl, _, hbel3, _⟩
      have HB3 := hid (HBl.out.trans hbel3)
      clear hbel3
      go_wp2_with fail
      go_ret
      exact ⟨rfl, HB3.out⟩

set_option maxRecDepth 100000 in
theorem write1_any (s : ByteArray) (w : World) : Calls Tryd.prog 74 #[.string s] w fun e w' => e = .returned (.bool (decide (60000 < s.size))) ∧ w' = w := by
  go_enter Tryd.func74, Tryd.ntmps74
  go_wp2_with fail
  go_ret
  refine ⟨ret_bool ?_, rfl⟩
  by_cases h : 60000 < s.size
  · rw [decide_eq_true h, decide_eq_true (by omega)]
  · rw [decide_eq_false h, decide_eq_false (by omega)]

set_option maxRecDepth 100000 in
set_option maxHeartbeats 800000 in
theorem sIndexFunc_any (ao : Option Addr) (m : List ByteArray) (cap : Nat) (w : World) (hM : NRow w ao m) (hl : m.length ≤ 100000) :
    Calls Tryd.prog 113 #[.slice ao m.length cap, .func (.func 74) #[] #[]] w fun e w' => ∃ n : Int, e = .returned (.int .i64 n) ∧ decide (0 ≤ n) = m.any (fun s => decide (60000 < s.size)) ∧ w' = w := by
  generalize hB : m.any (fun s => decide (60000 < s.size)) = B
  have HB := hid hB
  have HM := hid hM
  clear hB hM
  go_enter Tryd.func113, Tryd.ntmps113
  go_wp2
  go_loopw [8] (fun ti wr => ∃ i : Nat, i ≤ m.length ∧ ti = .int .i64 i ∧ wr = w ∧ ∀ j, j < i → decide (60000 < (LB.an m j).size) = false) (fun ti _ => m.length - (intOf ti).toNat)
  case atStart => exact ⟨0, by omega, rfl, rfl, by omega⟩
  case round =>
    obtain ⟨i, hi, rfl, rfl, hok⟩ := hrel
    have HO := hid hok
    clear hok
    by_cases hlt : i < m.length
    · obtain ⟨b, off, hao, hc0, hbs⟩ := HM.out i hlt
      subst hao
      have HT : Hid (decide (60000 < (LB.an m i).size) = true → B = true) := fun h => by
        rw [← HB.out, List.any_eq_true]
        exact ⟨_, an_mem m i hlt, h⟩
      have HN : Hid (decide (60000 < (LB.an m i).size) = false → ∀ j, j < i + 1 → decide (60000 < (LB.an m j).size) = false) := fun h j hj => by
        by_cases he : j = i
        · subst he; exact h
        · exact HO.out j (by omega)
      have HC := hid (write1_any (LB.an m i) wr)
      generalize decide (60000 < (LB.an m i).size) = P at *
      generalize LB.an m i = x at *
      go_wp2_with fail
      refine HC.out.mono ?_
      rintro e w2 ⟨rfl, rfl⟩
      cases P with
      | true =>
        have HE := hid (HT.out rfl)
        clear HT HN
        go_wp2_with fail
        go_ret
        refine ⟨i, rfl, ?_, rfl⟩
        rw [HE.out]; exact decide_eq_true (by omega)
      | false =>
        have HE := hid (HN.out rfl)
        clear HT HN
        go_wp2_with fail
        go_roundw
        case rel => exact ⟨i + 1, by omega, by go_num, by first | rfl | trivial, HE.out⟩
        case measure => simp [intOf]; omega
    · have he : i = m.length := by omega
      have HE : Hid (B = false) := by
        show _ = _
        rw [← HB.out, List.any_eq_false]
        intro x hx
        obtain ⟨j, hj, rfl⟩ := List.mem_iff_getElem.1 hx
        have := HO.out j (by omega)
        unfold LB.an at this
        rw [List.getD_eq_getElem?_getD, List.getElem?_eq_getElem hj] at this
        simpa using this
      subst he
      go_wp2
      go_ret
      refine ⟨-1, rfl, ?_, rfl⟩
      rw [HE.out]; rfl

set_option maxRecDepth 100000 in
theorem sContains_any (ao : Option Addr) (m : List ByteArray) (cap : Nat) (w : World) (hM : NRow w ao m) (hl : m.length ≤ 100000) :
    Calls Tryd.prog 73 #[.slice ao m.length cap, .func (.func 74) #[] #[]] w fun e w' => e = .returned (.bool (m.any fun s => decide (60000 < s.size))) ∧ w' = w := by
  have HC := hid (sIndexFunc_any ao m cap w hM hl)
  clear hM
  generalize m.any (fun s => decide (60000 < s.size)) = B at *
  go_enter Tryd.func73, Tryd.ntmps73
  go_wp2_with fail
  refine HC.out.mono ?_
  rintro e w2 ⟨n, rfl, hn, rfl⟩
  have HN := hid hn
  clear hn HC
  go_wp2_with fail
  go_ret
  exact ⟨ret_bool HN.out, rfl⟩

end Go.Proofs.YtdmnlmohfaafoadDoor
