/- What label.Text answers. -/
import Derived.Test.YtdmnlmohfaafoacLbShrt
import Derived.Test.YtdmnlmohfaafoacShelfT
namespace Go.Proofs.Ytdmnlmohfaafoac
open Go.RowKit

theorem item_str (n v : ByteArray) : (n ++ ⟨#[61, 34]⟩ ++ v ++ ⟨#[34]⟩ : ByteArray).data.toList = LB.item (n, v) := by
  simp [LB.item]

theorem item_size (n v : ByteArray) : (n ++ ⟨#[61, 34]⟩ ++ v ++ ⟨#[34]⟩ : ByteArray).size = n.size + v.size + 3 := by
  simp only [ByteArray.size_append]
  show n.size + 2 + v.size + 1 = _
  omega

theorem join_cells {T e : TypeId} {B b : Nat} {p : Value} {x : List UInt8} {n v : ByteArray} {w : World} (h : Lib.BuilderAtF T e B b p (Lib.byteCells x ++ Lib.strCells (n ++ ⟨#[61, 34]⟩ ++ v ++ ⟨#[34]⟩ : ByteArray)) w) :
    Lib.BuilderAtF T e B b p (Lib.byteCells (x ++ LB.item (n, v))) w := by
  have e1 : Lib.byteCells (x ++ LB.item (n, v)) = Lib.byteCells x ++ Lib.strCells (n ++ ⟨#[61, 34]⟩ ++ v ++ ⟨#[34]⟩ : ByteArray) := by
    rw [← item_str]
    simp [Lib.byteCells, Lib.strCells]
  rw [e1]; exact h


theorem item_len (p : LB.Lab) (h : p.1.size ≤ 60 ∧ p.2.size ≤ 60) : (LB.item p).length ≤ 123 := by
  have h1 : p.1.data.toList.length = p.1.size := by simp
  have h2 : p.2.data.toList.length = p.2.size := by simp
  unfold LB.item
  simp only [List.length_append, List.length_cons, List.length_nil]
  omega

theorem tb_take (l : List LB.Lab) (i : Nat) (h : i < l.length) : LB.tb (l.take (i + 1)) = LB.tb (l.take i) ++ ((if i = 0 then [] else [44]) ++ LB.item (LB.at' l i)) := by
  rw [LB.take_at l i h, LB.tb_snoc]
  congr 2
  have : (l.take i).length = i := by simp; omega
  rw [this]

theorem tb_len (l : List LB.Lab) (hs : Shrt l) : ∀ i, i ≤ l.length → (LB.tb (l.take i)).length ≤ 1 + 124 * i := by
  intro i
  induction i with
  | zero => intro _; simp [LB.tb]
  | succ i ih =>
    intro hi
    have h1 := ih (by omega)
    have h2 := item_len _ (hs i (by omega))
    rw [tb_take l i (by omega)]
    simp only [List.length_append]
    split <;> simp <;> omega

theorem builder_lt {T e : TypeId} {B b : Nat} {bs : List Value} {w : World} (h : Lib.IsBuilderF T e B b bs w) : b < w.heap.size := by
  rcases h with ⟨_, v, hb, _⟩ | ⟨_, v, hb, _⟩ <;> exact heap_lt hb

/-- The box of a label stays while a builder writes. -/
theorem box_kept {wr w2 : World} {b : Nat} {N V : ByteArray} (hb : b < wr.heap.size) (h : Lib.OthersKept 5 (some b) (wr.alloc (.cells #[.string N, .string V] 72)) w2) :
    w2.cell? ⟨wr.heap.size, 0, none⟩ = some (.string N) ∧ w2.cell? ⟨wr.heap.size, 1, none⟩ = some (.string V) := by
  have hk := h wr.heap.size (.cells #[.string N, .string V] 72) (show (wr.heap.push _)[wr.heap.size]? = _ by simp) (by simp; omega) (by intro c fz e; cases e)
  constructor
  · simp [World.cell?, hk]
  · simp [World.cell?, hk]

set_option maxRecDepth 100000 in
set_option maxHeartbeats 800000 in
theorem text_any (ao : Option Addr) (l : List LB.Lab) (cap : Nat) (w : World) (hL : LRow w ao l) (hl : l.length ≤ 1000) (hs : Shrt l) :
    Calls Try.prog 12 #[.slice ao l.length cap] w fun e w' => e = .returned (.string ⟨(LB.tx l).toArray⟩) ∧ Below w.heap.size w w' := by
  have HL := hid hL
  have HS := hid hs
  clear hL hs
  go_enter Try.func12, Try.ntmps12
  have hlen1 : ([] : List Value).length + 1 ≤ 140737488355328 := by simp
  go_wp2_with fail
  refine (Try.Builder_WriteByte_k w.heap.size w.heap.size [] 123 _ (Lib.IsBuilderF.of (Lib.fresh_isBuilder _ _ w)) hlen1 (by simp)).mono ?_
  rintro e w1 ⟨rfl, hb1, hbel1, _⟩
  have HB1 := hid (((Below.refl _ w).alloc (Nat.le_refl _) (.cells #[.pointer none, .slice none 0 0] 80)).trans hbel1)
  have HA1 : Hid (Lib.IsBuilderF 80 5 w.heap.size w.heap.size (Lib.byteCells (LB.tb [])) w1) := .inr hb1
  clear hb1 hbel1 hlen1
  go_wp2_with fail
  go_loopw [9] (fun ti wr => ∃ i : Nat, i ≤ l.length ∧ ti = .int .i64 i ∧ Lib.IsBuilderF 80 5 w.heap.size w.heap.size (Lib.byteCells (LB.tb (l.take i))) wr ∧ Below w.heap.size w wr) (fun ti _ => l.length - (intOf ti).toNat)
  case atStart => exact ⟨0, by omega, rfl, HA1.out, HB1.out⟩
  case round =>
    obtain ⟨i, hi, rfl, hib, hbel⟩ := hrel
    have HIB := hid hib
    have HBl := hid hbel
    have hsz := hbel.size
    clear hib hbel HA1 HB1
    by_cases hlt : i < l.length
    · obtain ⟨b, off, hao, hc0, hc1, hbs⟩ := HL.out i hlt
      subst hao
      have hcell0 := (HBl.out.cell (p := ⟨b, off + i * 2, none⟩) hbs).trans hc0
      have hcell1 := (HBl.out.cell (p := ⟨b, off + i * 2 + 1, none⟩) hbs).trans hc1
      clear hc0 hc1
      have HTB := hid (tb_take l i hlt)
      have hsh := HS.out i hlt
      have hlenT := tb_len l HS.out i (by omega)
      generalize LB.at' l i = p at *
      obtain ⟨N, V⟩ := p
      simp only at hsh hcell0 hcell1
      have hw0 : w.heap.size < wr.heap.size := builder_lt HIB.out
      by_cases hi0 : 0 < i
      · have hi0' : (0 : Int) < (i : Int) := by omega
        have hlen2 : (Lib.byteCells (LB.tb (l.take i))).length + 1 ≤ 140737488355328 := by rw [Lib.byteCells_length]; omega
        go_wp2_with fail
        refine (Try.Builder_WriteByte_k w.heap.size w.heap.size _ 44 _ (HIB.out.alloc _) hlen2 (by simp; omega)).mono ?_
        rintro e w2 ⟨rfl, hb2, hbel2, hk2⟩
        have HB2 := hid ((HBl.out.alloc hsz (.cells #[.string N, .string V] 72)).trans hbel2)
        obtain ⟨hx0, hx1⟩ := box_kept hw0 hk2
        have HA2 : Hid (Lib.IsBuilderF 80 5 w.heap.size w.heap.size (Lib.byteCells (LB.tb (l.take i) ++ [44])) w2) := .inr (by simpa [Lib.byteCells] using hb2)
        have hs2 := HB2.out.size
        clear hb2 hbel2 hk2 hlen2
        have HEQ : Hid (LB.tb (l.take (i + 1)) = (LB.tb (l.take i) ++ [44]) ++ LB.item (N, V)) := by
          show _ = _
          rw [HTB.out, if_neg (by omega), List.append_assoc]
        have HSZ := hid (item_size N V)
        have hlen3 : (Lib.byteCells (LB.tb (l.take i) ++ [44])).length + (N ++ ⟨#[61, 34]⟩ ++ V ++ ⟨#[34]⟩ : ByteArray).size ≤ 140737488355328 := by
          rw [HSZ.out, Lib.byteCells_length, List.length_append]
          simp only [List.length_cons, List.length_nil]
          omega
        have HLN := hid hlen3
        clear hlen3 hlenT HTB HSZ
        go_wp2_with fail
        refine (Try.Builder_WriteString_k w.heap.size w.heap.size _ _ _ HA2.out HLN.out hs2).mono ?_
        rintro e w3 ⟨rfl, hb3, hbel3, _⟩
        have HB3 := hid (HB2.out.trans hbel3)
        have HA3 : Hid (Lib.IsBuilderF 80 5 w.heap.size w.heap.size (Lib.byteCells (LB.tb (l.take (i + 1)))) w3) := .inr (by rw [HEQ.out]; exact join_cells hb3)
        clear hb3 hbel3 HLN HEQ
        go_wp2_with fail
        go_roundw
        case rel => exact ⟨i + 1, by omega, by go_num, HA3.out, HB3.out⟩
        case measure => simp [intOf]; omega
      · have hi0' : ¬ (0 : Int) < (i : Int) := by omega
        have HEQ : Hid (LB.tb (l.take (i + 1)) = LB.tb (l.take i) ++ LB.item (N, V)) := by
          show _ = _
          rw [HTB.out, if_pos (by omega), List.nil_append]
        have HSZ := hid (item_size N V)
        have hlen3 : (Lib.byteCells (LB.tb (l.take i))).length + (N ++ ⟨#[61, 34]⟩ ++ V ++ ⟨#[34]⟩ : ByteArray).size ≤ 140737488355328 := by
          rw [HSZ.out, Lib.byteCells_length]
          omega
        have HLN := hid hlen3
        clear hlen3 hlenT HTB HSZ hi0
        go_wp2_with fail
        refine (Try.Builder_WriteString_k w.heap.size w.heap.size _ _ _ (HIB.out.alloc _) HLN.out (by simp; omega)).mono ?_
        rintro e w3 ⟨rfl, hb3, hbel3, _⟩
        have HB3 := hid ((HBl.out.alloc hsz (.cells #[.string N, .string V] 72)).trans hbel3)
        have HA3 : Hid (Lib.IsBuilderF 80 5 w.heap.size w.heap.size (Lib.byteCells (LB.tb (l.take (i + 1)))) w3) := .inr (by rw [HEQ.out]; exact join_cells hb3)
        clear hb3 hbel3 HLN HEQ
        go_wp2_with fail
        go_roundw
        case rel => exact ⟨i + 1, by omega, by go_num, HA3.out, HB3.out⟩
        case measure => simp [intOf]; omega
    · have he : i = l.length := by omega
      subst he
      have HTK : Hid (l.take l.length = l) := List.take_of_length_le (Nat.le_refl _)
      have hlenT := tb_len l HS.out l.length (by omega)
      have hlen2 : (Lib.byteCells (LB.tb (l.take l.length))).length + 1 ≤ 140737488355328 := by rw [Lib.byteCells_length]; omega
      have HLN := hid hlen2
      clear hlenT hlen2
      go_wp2_with fail
      refine (Try.Builder_WriteByte_k w.heap.size w.heap.size _ 125 _ HIB.out HLN.out hsz).mono ?_
      rintro e w2 ⟨rfl, hb2, hbel2, _⟩
      have HB2 := hid (HBl.out.trans hbel2)
      have HA2 : Hid (Lib.IsBuilderF 80 5 w.heap.size w.heap.size (Lib.byteCells (LB.tx l)) w2) := .inr (by rw [HTK.out] at hb2; simpa [Lib.byteCells, LB.tx] using hb2)
      have hs2 := HB2.out.size
      clear hb2 hbel2 HLN
      go_wp2_with fail
      refine (Try.Builder_String_k w.heap.size w.heap.size _ _ HA2.out hs2).mono ?_
      rintro e w3 ⟨rfl, _, hbel3, _⟩
      have HB3 := hid (HB2.out.trans hbel3)
      clear hbel3
      go_wp2_with fail
      go_ret
      exact ⟨rfl, HB3.out⟩

end Go.Proofs.Ytdmnlmohfaafoac
