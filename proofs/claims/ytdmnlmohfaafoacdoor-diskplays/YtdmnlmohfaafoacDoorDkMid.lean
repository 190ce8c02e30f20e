/- A region that draws its order: a move, a call that writes, and behind it operations that only read; and sameTexts, which only reads. -/
import Derived.Test.YtdmnlmohfaafoacDoorIxMid
import Derived.Test.YtdmnlmohfaafoacDoorDkTxt
namespace Go.Proofs.YtdmnlmohfaafoacDoor
open Go.RowKit Go.Maps

section
variable {P : Program} {ops : Array Oper} {Q Q' : Exit → Act → World → Prop}

/-- What the kernel reckons of the region. -/
def mid1B (ops : Array Oper) : Bool :=
  let L0 := Array.replicate ops.size false
  let L1 := L0.setIfInBounds 1 true
  let L2 := L1.setIfInBounds 0 true
  Region.noSelect ops && (Region.free .any ops L0 1 && (Region.ready .any ops L0).contains 1) && decide (Region.ready .any ops L1 = [0]) && Region.lexFrom .any ops (ops.size - 2) 2 L2

theorem wp_region_mid10 {id : Nat} {a : Act} {w : World} {o0 o1 : Oper} {rest : List Oper} {x1 : Operand} (hm : P.follows .mixedOrders = true)
    (hB : mid1B (o0 :: o1 :: rest).toArray = true) (e1 : o1.op = .move x1) (g0 : o0.guard = none) (g1 : o1.guard = none)
    (hQ : ∀ c a d v w, Q (.panic c) (Act.put a d v) w → Q (.panic c) a w)
    (h : wpList P (o0 :: o1 :: rest).toArray (MidQ P (o0 :: o1 :: rest).toArray Q rest) [o1, o0] a w.drew) :
    (Code.region id (o0 :: o1 :: rest).toArray true).wp P Q a w := by
  refine wp_region_any hm ?_
  change wpAny _ _ _ _ _ _ _ (World.drew _)
  generalize ho : (o0 :: o1 :: rest).toArray = ops at *
  have hz : ops.size = rest.length + 1 + 1 := by rw [← ho]; simp
  simp only [mid1B, Bool.and_eq_true, decide_eq_true_eq] at hB
  obtain ⟨⟨⟨hs, h1f, h1r⟩, h0⟩, h6⟩ := hB
  have key : ∀ a w, wpList P ops (MidQ P ops Q rest) [] a w → wpAny P .any ops Q rest.length (((Array.replicate ops.size false).setIfInBounds 1 true).setIfInBounds 0 true) a w := by
    intro a w h
    have h' : wpQuiet P ops (fun W => ∃ n, W = w.drewN n) (fun a' => ∀ W, (∃ n, W = w.drewN n) → Q .normal a' W) rest a := h
    refine wpAny_of_quiet (C := fun W => ∃ n, W = w.drewN n) (Q := fun a' => ∀ W, (∃ n, W = w.drewN n) → Q .normal a' W) (fun _ w' hw' h => h w' hw') _ _ _ _ ⟨0, rfl⟩ ?_
    refine wpAnyQ_lex hs rest 2 _ a (fun j => by rw [← ho]; simp [Nat.add_comm 2 j]) ?_ h'
    rw [hz] at h6
    simpa [hz] using h6
  rw [hz]
  rw [← hz]
  have i0 : ops[0]? = some o0 := by rw [← ho]; rfl
  have i1 : ops[1]? = some o1 := by rw [← ho]; rfl
  have go := mid_move (fuel := rest.length + 1) i1 g1 e1 hs h1f h1r hQ (fun a w => mid_one i0 g0 h0 key) h
  rw [← hz] at go
  exact go

theorem wp_region_mid1 {id : Nat} {a : Act} {w : World} {o0 o1 : Oper} {rest : List Oper} {x1 : Operand} (hm : P.follows .mixedOrders = true)
    (hB : mid1B (o0 :: o1 :: rest).toArray = true) (e1 : o1.op = .move x1) (g0 : o0.guard = none) (g1 : o1.guard = none)
    (h : wpList P (o0 :: o1 :: rest).toArray (MidQ P (o0 :: o1 :: rest).toArray (OnlyN Q) rest) [o1, o0] a w.drew) :
    (Code.region id (o0 :: o1 :: rest).toArray true).wp P Q a w :=
  Code.wp_mono (Q := OnlyN Q) (fun e a w h => by obtain ⟨rfl, h⟩ := h; exact h) (wp_region_mid10 hm hB e1 g0 g1 (fun _ _ _ _ _ h => nomatch h.1) h)

end

set_option maxRecDepth 100000 in
set_option maxHeartbeats 800000 in
theorem sameQ_any (ao bo : Option Addr) (A : List (List UInt8)) (ca cb : Nat) (w : World) (hA : TRow w ao A) (hB : TRow w bo A) (ha : A.length ≤ 1000000) :
    Calls Tryd.prog 15 #[.slice ao A.length ca, .slice bo A.length cb] w fun e w' => e = .returned (.bool true) ∧ ∃ n, w' = w.drewN n := by
  have HA := hid hA
  have HBr := hid hB
  clear hA hB
  go_enter Tryd.func15, Tryd.ntmps15
  go_wp2
  go_loopw [5] (fun ti wr => ∃ i : Nat, i ≤ A.length ∧ ti = .int .i64 i ∧ ∃ n, wr = w.drewN n) (fun ti _ => A.length - (intOf ti).toNat)
  case atStart => exact ⟨0, by omega, rfl, 0, rfl⟩
  case round =>
    obtain ⟨i, hi, rfl, n, hn⟩ := hrel
    have HN := hid hn
    by_cases hlt : i < A.length
    · obtain ⟨b1, off, hao, hc0, hbs⟩ := HA.out i hlt
      subst hao
      obtain ⟨b2, off2, hbo, hd0, hbs2⟩ := HBr.out i hlt
      subst hbo
      have hcell0 : wr.cell? ⟨b1, off + i, none⟩ = some (encStr (A.getD i [])) := by rw [hn]; exact hc0
      have hdell0 : wr.cell? ⟨b2, off2 + i, none⟩ = some (encStr (A.getD i [])) := by rw [hn]; exact hd0
      clear hc0 hd0 hn
      unfold encStr at hcell0 hdell0
      generalize (⟨(A.getD i []).toArray⟩ : ByteArray) = p at *
      have hil : 0 ≤ (i : Int) ∧ (i : Int) < (A.length : Int) := by omega
      have hq : (p.toList == p.toList) = true := by simp
      go_wp2_with fail
      go_quiet (fail)
      go_wp2_with fail
      go_roundw
      case rel => exact ⟨i + 1, by omega, by go_num, _, by rw [HN.out, World.drewN_drewN]⟩
      case measure => simp [intOf]; omega
    · have he : i = A.length := by omega
      subst he
      clear hn
      go_wp2
      go_ret
      exact ⟨rfl, n, HN.out⟩

end Go.Proofs.YtdmnlmohfaafoacDoor
