/- The program's printing: weights, operators' texts, matchers. -/
import Derived.Test.YtdmnlmohfaafoaeDoorAqPt
import Derived.Test.YtdmnlmohfaafoaeDoorAqTold
namespace Go.Proofs.YtdmnlmohfaafoaeDoor
open Go.RowKit Go.Shelf

set_option maxRecDepth 100000 in
theorem weight_any (c : Int) (w : World) : Calls Tryd.prog 108 #[.int .i64 c] w fun e w' => e = .returned (.int .i64 (AQ.wgt c : Nat)) ∧ w' = w := by
  have HW : Hid (AQ.wgt c = if c = 13 ∨ c = 14 then 0 else if c = 15 ∨ c = 16 then 1 else 2) := rfl
  generalize AQ.wgt c = n at *
  go_enter Tryd.func108, Tryd.ntmps108
  by_cases h13 : c = 13
  · have hb : (c == 13) = true := by rw [h13]; rfl
    have HR := hid (show n = 0 by rw [HW.out, if_pos (.inl h13)])
    clear h13
    go_wp2
    go_ret
    exact ⟨by rw [HR.out]; rfl, rfl⟩
  have hb13 : (c == 13) = false := by simpa using h13
  by_cases h14 : c = 14
  · have hb : (c == 14) = true := by rw [h14]; rfl
    have HR := hid (show n = 0 by rw [HW.out, if_pos (.inr h14)])
    clear h13 h14
    go_wp2
    go_ret
    exact ⟨by rw [HR.out]; rfl, rfl⟩
  have hb14 : (c == 14) = false := by simpa using h14
  by_cases h15 : c = 15
  · have hb : (c == 15) = true := by rw [h15]; rfl
    have HR := hid (show n = 1 by rw [HW.out, if_neg (by omega), if_pos (.inl h15)])
    clear h13 h14 h15
    go_wp2
    go_ret
    exact ⟨by rw [HR.out]; rfl, rfl⟩
  have hb15 : (c == 15) = false := by simpa using h15
  by_cases h16 : c = 16
  · have hb : (c == 16) = true := by rw [h16]; rfl
    have HR := hid (show n = 1 by rw [HW.out, if_neg (by omega), if_pos (.inr h16)])
    clear h13 h14 h15 h16
    go_wp2
    go_ret
    exact ⟨by rw [HR.out]; rfl, rfl⟩
  have hb16 : (c == 16) = false := by simpa using h16
  have HR := hid (show n = 2 by rw [HW.out, if_neg (by omega), if_neg (by omega)])
  clear h13 h14 h15 h16
  go_wp2
  go_ret
  exact ⟨by rw [HR.out]; rfl, rfl⟩

set_option maxRecDepth 100000 in
theorem opText_any (o : Int) (h0 : 0 ≤ o) (h4 : o < 4) (w : World) (h : Gl w) : Calls Tryd.prog 74 #[.int .i64 o] w fun e w' => e = .returned (.string (AQ.ops.getD o.toNat ⟨#[]⟩)) ∧ w' = w := by
  obtain ⟨i, rfl⟩ : ∃ i : Nat, o = i := ⟨o.toNat, by omega⟩
  have hc := h.ops i (by show i < 4; omega)
  have e : ((i : Int)).toNat = i := rfl
  rw [e]
  generalize AQ.ops.getD i ⟨#[]⟩ = ox at *
  have h1 : ¬ (i : Int) < 0 := by omega
  have h2 : ¬ 4 ≤ (i : Int) := by omega
  clear h e
  go_enter Tryd.func74, Tryd.ntmps74
  go_wp2
  go_ret
  exact ⟨rfl, rfl⟩

theorem mcells_at (l : List LB.Mat) (i : Nat) (hi : i < l.length) : (mcells l)[i * 3]? = some (.string (LB.am l i).nm) ∧ (mcells l)[i * 3 + 1]? = some (.int .i64 (LB.am l i).op) ∧ (mcells l)[i * 3 + 2]? = some (.string (LB.am l i).vl) := by
  induction l generalizing i with
  | nil => simp at hi
  | cons t l ih =>
    cases i with
    | zero => exact ⟨rfl, rfl, rfl⟩
    | succ i =>
      obtain ⟨a, b, c⟩ := ih i (by simpa using hi)
      have e : LB.am (t :: l) (i + 1) = LB.am l i := rfl
      have e3 : ∀ k, (mcells (t :: l))[k + 3]? = (mcells l)[k]? := fun k => by simp [mcells]
      rw [e, show (i + 1) * 3 = i * 3 + 3 by omega, e3, show i * 3 + 3 + 1 = (i * 3 + 1) + 3 by omega, e3, show i * 3 + 3 + 2 = (i * 3 + 2) + 3 by omega, e3]
      exact ⟨a, b, c⟩

/-- A row of one's own, to be read. -/
theorem own_mrow {w : World} {base : Nat} {ao : Option Addr} {cap : Nat} {l : List LB.Mat} (h : OwnM w base (.slice ao l.length cap) l) : MRow w ao l := fun i hi => by
  rcases h.2 with ⟨_, h0⟩ | ⟨g, c, cur, h0, h1, h2, h3⟩
  · omega
  · cases h0
    obtain ⟨a, b, c⟩ := mcells_at l i hi
    refine ⟨g, 0, rfl, ?_, ?_, ?_, heap_lt h2⟩
    · rw [Nat.zero_add]; exact (h.cellAt (i * 3) (by omega)).trans a
    · rw [Nat.zero_add]; exact (h.cellAt (i * 3 + 1) (by omega)).trans b
    · rw [Nat.zero_add]; exact (h.cellAt (i * 3 + 2) (by omega)).trans c

theorem ldStr (b o : Nat) (s : ByteArray) (w : World) (h : w.cell? ⟨b, o, none⟩ = some (.string s)) : (Instr.loadAt 9 (.pointer (some ⟨b, o, none⟩))).run Tryd.prog w = .ok (.string s) w := by simp [go_sem, h]
theorem ldInt (b o : Nat) (n : Int) (w : World) (h : w.cell? ⟨b, o, none⟩ = some (.int .i64 n)) : (Instr.loadAt 3 (.pointer (some ⟨b, o, none⟩))).run Tryd.prog w = .ok (.int .i64 n) w := by simp [go_sem, h]
theorem ldI64 (b o : Nat) (n : Int) (w : World) (h : w.cell? ⟨b, o, none⟩ = some (.int .i64 n)) : (Instr.loadAt 2 (.pointer (some ⟨b, o, none⟩))).run Tryd.prog w = .ok (.int .i64 n) w := by simp [go_sem, h]

end Go.Proofs.YtdmnlmohfaafoaeDoor
