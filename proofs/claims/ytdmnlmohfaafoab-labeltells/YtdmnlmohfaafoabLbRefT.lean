/- What the document's own answer says of how labels are written: Text. -/
import Derived.Test.YtdmnlmohfaafoabLbText
namespace Go.Proofs.Ytdmnlmohfaafoab
open Go.RowKit

theorem arr_append (x y : List UInt8) : (⟨x.toArray⟩ : ByteArray) ++ ⟨y.toArray⟩ = ⟨(x ++ y).toArray⟩ := by
  apply LB.toList_inj
  rw [Lib.toList_data, Lib.toList_data]
  simp

theorem arr_item (N V : ByteArray) (x : List UInt8) : (⟨x.toArray⟩ : ByteArray) ++ (N ++ ⟨#[61]⟩ ++ ⟨#[34]⟩ ++ V ++ ⟨#[34]⟩) = ⟨(x ++ LB.item (N, V)).toArray⟩ := by
  apply LB.toList_inj
  rw [Lib.toList_data, Lib.toList_data]
  simp [LB.item]

theorem arr_size (x : List UInt8) : (⟨x.toArray⟩ : ByteArray).size = x.length := by
  show x.toArray.size = _
  simp

set_option maxRecDepth 100000 in
set_option maxHeartbeats 800000 in
theorem rtext_any (ao : Option Addr) (l : List LB.Lab) (cap : Nat) (w : World) (hL : LRow w ao l) (hl : l.length ≤ 1000) (hs : Shrt l) :
    Calls Try.prog 20 #[.slice ao l.length cap] w fun e w' => e = .returned (.string ⟨(LB.tx l).toArray⟩) ∧ Below w.heap.size w w' := by
  have HL := hid hL
  have HS := hid hs
  clear hL hs
  go_enter Try.func20, Try.ntmps20
  go_wp2_with fail
  go_loopw [3, 8] (fun ts ti wr => ∃ i : Nat, i ≤ l.length ∧ ti = .int .i64 i ∧ ts = .string ⟨(LB.tb (l.take i)).toArray⟩ ∧ Below w.heap.size w wr) (fun _ ti _ => l.length - (intOf ti).toNat)
  case atStart => exact ⟨0, by omega, rfl, rfl, Below.refl _ _⟩
  case round =>
    obtain ⟨i, hi, rfl, rfl, hbel⟩ := hrel
    have HBl := hid hbel
    have hsz := hbel.size
    clear hbel
    by_cases hlt : i < l.length
    · obtain ⟨b, off, hao, hc0, hc1, hbs⟩ := HL.out i hlt
      subst hao
      have hcell0 := (HBl.out.cell (p := ⟨b, off + i * 2, none⟩) hbs).trans hc0
      have hcell1 := (HBl.out.cell (p := ⟨b, off + i * 2 + 1, none⟩) hbs).trans hc1
      clear hc0 hc1
      have HTB := hid (tb_take l i hlt)
      have hsh := HS.out i hlt
      have hlenT := tb_len l HS.out i (by omega)
      generalize LB.at' l i = p at *
      obtain ⟨N, V⟩ := p
      simp only at hsh hcell0 hcell1
      generalize hT2 : LB.tb (l.take (i + 1)) = T2 at *
      have HT2 := hid hT2
      clear hT2
      generalize LB.tb (l.take i) = T1 at *
      have hsT : (⟨T1.toArray⟩ : ByteArray).size ≤ 1 + 124 * i := by rw [arr_size]; exact hlenT
      clear hlenT
      by_cases hi0 : 0 < i
      · have hi0' : (0 : Int) < (i : Int) := by omega
        have HEQ : Hid ((⟨T1.toArray⟩ : ByteArray) ++ ⟨#[44]⟩ ++ (N ++ ⟨#[61]⟩ ++ ⟨#[34]⟩ ++ V ++ ⟨#[34]⟩) = ⟨T2.toArray⟩) := by
          show _ = _
          rw [HTB.out, if_neg (by omega), ← List.append_assoc, ← arr_item, ← arr_append]
        generalize (⟨T1.toArray⟩ : ByteArray) = A at *
        go_wp2_with fail
        go_roundw
        case rel => exact ⟨i + 1, by omega, by go_num, by rw [HEQ.out, HT2.out], HBl.out.alloc hsz _⟩
        case measure => simp [intOf]; omega
      · have hi0' : ¬ (0 : Int) < (i : Int) := by omega
        have HEQ : Hid ((⟨T1.toArray⟩ : ByteArray) ++ (N ++ ⟨#[61]⟩ ++ ⟨#[34]⟩ ++ V ++ ⟨#[34]⟩) = ⟨T2.toArray⟩) := by
          show _ = _
          rw [HTB.out, if_pos (by omega), List.nil_append, ← arr_item]
        generalize (⟨T1.toArray⟩ : ByteArray) = A at *
        clear hi0
        go_wp2_with fail
        go_roundw
        case rel => exact ⟨i + 1, by omega, by go_num, by rw [HEQ.out, HT2.out], HBl.out.alloc hsz _⟩
        case measure => simp [intOf]; omega
    · have he : i = l.length := by omega
      subst he
      have hlenT := tb_len l HS.out l.length (by omega)
      have HEQ : Hid ((⟨(LB.tb (l.take l.length)).toArray⟩ : ByteArray) ++ ⟨#[125]⟩ = ⟨(LB.tx l).toArray⟩) := by
        show _ = _
        rw [List.take_of_length_le (Nat.le_refl _), LB.tx, ← arr_append]
      have hsT : (⟨(LB.tb (l.take l.length)).toArray⟩ : ByteArray).size ≤ 1 + 124 * l.length := by rw [arr_size]; exact hlenT
      clear hlenT
      generalize (⟨(LB.tb (l.take l.length)).toArray⟩ : ByteArray) = A at *
      go_wp2_with fail
      go_ret
      exact ⟨ret_str HEQ.out, HBl.out⟩

end Go.Proofs.Ytdmnlmohfaafoab
