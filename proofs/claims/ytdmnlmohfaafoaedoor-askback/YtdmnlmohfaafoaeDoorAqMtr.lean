/- What ask.Matchers answers (made by mkaqm.py). -/
import Derived.Test.YtdmnlmohfaafoaeDoorAqMts
namespace Go.Proofs.YtdmnlmohfaafoaeDoor
open Go.RowKit Go.Shelf

theorem items_snoc : ∀ (l : List LB.Mat) (m : LB.Mat), AQ.itemsT (l ++ [m]) = AQ.itemsT l ++ ((if l.length = 0 then [] else [44]) ++ AQ.item m)
  | [], m => by simp [AQ.itemsT]
  | x :: l, m => by simp [AQ.itemsT]

theorem sz34 : (⟨#[34]⟩ : ByteArray).size = 1 := rfl
theorem cat_run (x y : Operand) (u k : ByteArray) (w : World) (h : u.size + k.size ≤ 9223372036854775807) : Sem.run Tryd.prog (do let v ← (do eqGuard BinOp.add 9 x y (.string u) (.string k); binOp BinOp.add 9 (.string u) (.string k)); pure (Next.value v)) w = .ok (Next.value (.string (u ++ k))) w := by
  simp [go_sem, eqGuard, h]
theorem sub_run (x y : Operand) (u k : Int) (w : World) : Sem.run Tryd.prog (do let v ← (do eqGuard BinOp.sub 3 x y (.int .i64 u) (.int .i64 k); binOp BinOp.sub 3 (.int .i64 u) (.int .i64 k)); pure (Next.value v)) w = .ok (Next.value (.int .i64 (IntKind.i64.wrap (u - k)))) w := by
  simp [go_sem, eqGuard]
theorem add_run (x y : Operand) (u k : Int) (w : World) : Sem.run Tryd.prog (do let v ← (do eqGuard BinOp.add 3 x y (.int .i64 u) (.int .i64 k); binOp BinOp.add 3 (.int .i64 u) (.int .i64 k)); pure (Next.value v)) w = .ok (Next.value (.int .i64 (IntKind.i64.wrap (u + k)))) w := by
  simp [go_sem, eqGuard]

def mtx (l : List LB.Mat) (i : Nat) : List UInt8 := 123 :: AQ.itemsT (l.take i)

theorem mtx_step (l : List LB.Mat) (i : Nat) (h : i < l.length) : mtx l (i + 1) = mtx l i ++ ((if i = 0 then [] else [44]) ++ AQ.item (LB.am l i)) := by
  have e : l.take (i + 1) = l.take i ++ [LB.am l i] := by
    rw [List.take_add_one]
    congr 1
    unfold LB.am
    rw [List.getD_eq_getElem?_getD, List.getElem?_eq_getElem h]
    rfl
  unfold mtx
  rw [e, items_snoc]
  have : (l.take i).length = i := by simp; omega
  rw [this]
  simp

theorem mtx_len (l : List LB.Mat) (hl : AQ.matsOk l) : ∀ i, i ≤ l.length → (mtx l i).length ≤ 1 + 61 * i := by
  intro i
  induction i with
  | zero => intro _; simp [mtx, AQ.itemsT]
  | succ i ih =>
    intro hi
    have h1 := ih (by omega)
    have h2 := AQ.item_len (hl.2 _ (LB.am_mem l i (by omega)))
    rw [mtx_step l i (by omega)]
    simp only [List.length_append]
    split <;> simp <;> omega

theorem item_txt (m : LB.Mat) (h : 0 ≤ m.op ∧ m.op < 4) : (m.nm ++ AQ.ops.getD m.op.toNat ⟨#[]⟩ ++ ⟨#[34]⟩ ++ m.vl ++ ⟨#[34]⟩ : ByteArray).data.toList = AQ.item m := by
  unfold AQ.item AQ.opT
  rw [if_pos h]
  simp

theorem bld_lt {T e : TypeId} {B b : Nat} {bs : List Value} {w : World} (h : Lib.IsBuilderF T e B b bs w) : b < w.heap.size := by
  rcases h with ⟨_, v, hb, _⟩ | ⟨_, v, hb, _⟩ <;> exact heap_lt hb

theorem bld_heap {T e : TypeId} {B b : Nat} {bs : List Value} {w w' : World} (h : Lib.IsBuilderF T e B b bs w) (hw : w'.heap = w.heap) : Lib.IsBuilderF T e B b bs w' := by
  have key : ∀ p, Lib.BuilderAtF T e B b p bs w → Lib.BuilderAtF T e B b p bs w' := fun p hp => by
    obtain ⟨h1, v, h2, h3, h4⟩ := hp
    refine ⟨h1, v, by rw [hw]; exact h2, ?_, h4⟩
    unfold World.ownsRowF at h3 ⊢
    rw [hw]; exact h3
  rcases h with h | h
  · exact .inl (key _ h)
  · exact .inr (key _ h)

theorem mbox_kept {wr w2 : World} {b : Nat} {N V : ByteArray} {O : Int} (hb : b < wr.heap.size) (h : Lib.OthersKept 5 (some b) (wr.alloc (.cells #[.string N, .int .i64 O, .string V] 93)) w2) :
    w2.heap[wr.heap.size]? = some (.cells #[.string N, .int .i64 O, .string V] 93) :=
  h wr.heap.size (.cells #[.string N, .int .i64 O, .string V] 93) (show (wr.heap.push _)[wr.heap.size]? = _ by simp) (by simp; omega) (by intro c fz e; cases e)

theorem join_item {B b : Nat} {p : Value} {x : List UInt8} {s : ByteArray} {w : World} (h : Lib.BuilderAtF 119 5 B b p (Lib.byteCells x ++ Lib.strCells s) w) :
    Lib.BuilderAtF 119 5 B b p (Lib.byteCells (x ++ s.data.toList)) w := by
  rw [← str_app]; exact h

set_option maxRecDepth 100000 in
set_option maxHeartbeats 1600000 in
theorem mts_any (ao : Option Addr) (l : List LB.Mat) (cap : Nat) (w : World) (hM : MRow w ao l) (hok : AQ.matsOk l) (hG : Gl w) :
    Calls Tryd.prog 31 #[.slice ao l.length cap] w fun e w' => e = .returned (.string ⟨(AQ.matT l).toArray⟩) ∧ Below w.heap.size w w' := by
  have HM := hid hM
  have HOk := hid hok
  have HG := hid hG
  have h8 := hok.1
  clear hM hok hG
  go_enter Tryd.func31, Tryd.ntmps31
  have hlen1 : ([] : List Value).length + 1 ≤ 140737488355328 := by simp
  go_wp2_with fail
  refine (Tryd.Builder_WriteByte_k w.heap.size w.heap.size [] 123 _ (Lib.IsBuilderF.of (Lib.fresh_isBuilder _ _ w)) hlen1 (by simp)).mono ?_
  rintro e w1 ⟨rfl, hb1, hbel1, _⟩
  have HB1 := hid (((Below.refl _ w).alloc (Nat.le_refl _) (.cells #[.pointer none, .slice none 0 0] 119)).trans hbel1)
  have HA1 : Hid (Lib.IsBuilderF 119 5 w.heap.size w.heap.size (Lib.byteCells (mtx l 0)) w1) := .inr hb1
  clear hb1 hbel1 hlen1
  go_wp2_with fail
  go_loopw [9, 4, 5] (fun ti _ _ wr => ∃ i : Nat, i ≤ l.length ∧ ti = .int .i64 i ∧ Lib.IsBuilderF 119 5 w.heap.size w.heap.size (Lib.byteCells (mtx l i)) wr ∧ Below w.heap.size w wr) (fun ti _ _ _ => l.length - (intOf ti).toNat)
  case atStart => exact ⟨0, by omega, rfl, HA1.out, HB1.out⟩
  case round =>
    obtain ⟨i, hi, rfl, hib, hbel⟩ := hrel
    have HIB := hid hib
    have HBl := hid hbel
    have hsz := hbel.size
    clear hib hbel HA1 HB1
    by_cases hlt : i < l.length
    · obtain ⟨b, off, hao, hc0, hc1, hc2, hbs⟩ := HM.out i hlt
      subst hao
      have hcell0 := (HBl.out.cell (p := ⟨b, off + i * 3, none⟩) hbs).trans hc0
      have hcell1 := (HBl.out.cell (p := ⟨b, off + i * 3 + 1, none⟩) hbs).trans hc1
      have hcell2 := (HBl.out.cell (p := ⟨b, off + i * 3 + 2, none⟩) hbs).trans hc2
      clear hc0 hc1 hc2
      have HTB := hid (mtx_step l i hlt)
      have hmo := HOk.out.2 _ (LB.am_mem l i hlt)
      have HLT := hid (mtx_len l HOk.out i (by omega))
      have HIL := hid (AQ.item_len hmo)
      have HIT := hid (item_txt _ ⟨hmo.2.1, hmo.2.2.1⟩)
      have HO4 : Hid (0 ≤ (LB.am l i).op ∧ (LB.am l i).op < 4) := ⟨hmo.2.1, hmo.2.2.1⟩
      generalize LB.am l i = p at *
      obtain ⟨N, O, V⟩ := p
      simp only at hcell0 hcell1 hcell2 hmo HIT HO4
      have hw0 : w.heap.size < wr.heap.size := bld_lt HIB.out
      have hN24 : N.size ≤ 24 := by have := AQ.name_len hmo.1; simpa using this
      have hV24 : V.size ≤ 24 := by have := AQ.valu_len hmo.2.2.2; simpa using this
      have hox : (AQ.ops.getD O.toNat ⟨#[]⟩).size ≤ 2 := by
        have e : O = 0 ∨ O = 1 ∨ O = 2 ∨ O = 3 := by omega
        rcases e with rfl | rfl | rfl | rfl <;> decide
      have HOx := hid (fun W (hW : Gl W) => opText_any O HO4.out.1 HO4.out.2 W hW)
      generalize AQ.ops.getD O.toNat ⟨#[]⟩ = ox at *
      have hnx : ∀ wz : World, wz.heap[wr.heap.size]? = some (.cells #[.string N, .int .i64 O, .string V] 93) → True := fun _ _ => trivial
      clear hmo hnx
      go_upto_if 15 with fail
      generalize hbx : wr.heap.size = bx at *
      go_cut [16] (fun _ wz => wz.heap[bx]? = some (.cells #[.string N, .int .i64 O, .string V] 93) ∧ Lib.IsBuilderF 119 5 w.heap.size w.heap.size (Lib.byteCells (mtx l i ++ if i = 0 then [] else [44])) wz ∧ Below w.heap.size w wz)
      case first =>
        subst hbx
        by_cases hi0 : 0 < i
        · have hi0' : (0 : Int) < (i : Int) := by omega
          have hlen2 : (Lib.byteCells (mtx l i)).length + 1 ≤ 140737488355328 := by rw [Lib.byteCells_length]; have := HLT.out; omega
          have HE := hid (show (if i = 0 then ([] : List UInt8) else [44]) = [44] from if_neg (by omega))
          go_wp2_with fail
          refine (Tryd.Builder_WriteByte_k w.heap.size w.heap.size _ 44 _ (HIB.out.alloc _) hlen2 (by simp; omega)).mono ?_
          rintro e w2 ⟨rfl, hb2, hbel2, hk2⟩
          have HB2 := hid ((HBl.out.alloc hsz (.cells #[.string N, .int .i64 O, .string V] 93)).trans hbel2)
          have HX2 := hid (mbox_kept hw0 hk2)
          have HA2 : Hid (Lib.IsBuilderF 119 5 w.heap.size w.heap.size (Lib.byteCells (mtx l i ++ [44])) w2) := .inr (by simpa [Lib.byteCells] using hb2)
          clear hb2 hbel2 hk2 hlen2
          go_wp2_with fail
          go_meet
          case rel => exact ⟨HX2.out, by rw [HE.out]; exact HA2.out, HB2.out⟩
        · have hi0' : ¬ (0 : Int) < (i : Int) := by omega
          have HE := hid (show (if i = 0 then ([] : List UInt8) else [44]) = [] from if_pos (by omega))
          go_wp2_with fail
          go_meet
          case rel => exact ⟨heap_alloc_new wr _, by rw [HE.out, List.append_nil]; exact HIB.out.alloc _, HBl.out.alloc hsz _⟩
      case rest =>
        obtain ⟨wz, hwz⟩ : ∃ wz, wz = wc := ⟨_, rfl⟩
        subst hwz
        have HXz := hid hcut.1
        have HAd : Hid (Lib.IsBuilderF 119 5 w.heap.size w.heap.size (Lib.byteCells (mtx l i ++ if i = 0 then [] else [44])) wz.drew) := bld_heap hcut.2.1 rfl
        have HBd : Hid (Below w.heap.size w wz.drew) := hcut.2.2.drew
        have HGd := hid (HG.out.below HBd.out)
        have hsd : w.heap.size ≤ wz.drew.heap.size := HBd.out.size
        have y0 : wz.drew.cell? ⟨bx, 0, none⟩ = some (.string N) := kcell wz _ _ _ HXz.out 0 _ rfl
        have y1 : wz.drew.cell? ⟨bx, 1, none⟩ = some (.int .i64 O) := kcell wz _ _ _ HXz.out 1 _ rfl
        have y2 : wz.drew.cell? ⟨bx, 2, none⟩ = some (.string V) := kcell wz _ _ _ HXz.out 2 _ rfl
        have HEQ : Hid (mtx l (i + 1) = (mtx l i ++ if i = 0 then [] else [44]) ++ (N ++ ox ++ ⟨#[34]⟩ ++ V ++ ⟨#[34]⟩ : ByteArray).data.toList) := by
          show _ = _
          rw [HTB.out, HIT.out, List.append_assoc]
        have HLN : Hid ((Lib.byteCells (mtx l i ++ if i = 0 then [] else [44])).length + (N ++ ox ++ ⟨#[34]⟩ ++ V ++ ⟨#[34]⟩ : ByteArray).size ≤ 140737488355328) := by
          show _ ≤ _
          have h1 : (N ++ ox ++ ⟨#[34]⟩ ++ V ++ ⟨#[34]⟩ : ByteArray).size = (N ++ ox ++ ⟨#[34]⟩ ++ V ++ ⟨#[34]⟩ : ByteArray).data.toList.length := by simp only [ByteArray.size, Array.length_toList]
          rw [h1, HIT.out, Lib.byteCells_length, List.length_append]
          have h2 := HLT.out
          have h3 := HIL.out
          split <;> simp <;> omega
        clear hcut HTB HLT HIL HIT HIB HBl hcell0 hcell1 hcell2
        go_upto_region 8 with fail
        refine TL.wp_vals 11 [17, 18, 19, 20, 21, 22, 23, 24, 25, 26, 27, 28] (fun W => W = wz.drew) (fun W => Lib.IsBuilderF 119 5 w.heap.size w.heap.size (Lib.byteCells (mtx l (i + 1))) W ∧ Below w.heap.size w W) [.pointer (some ⟨bx, 0, none⟩), .string N, .pointer (some ⟨bx, 1, none⟩), .int .i64 O, .string ox, .string (N ++ ox), .string (N ++ ox ++ ⟨#[34]⟩), .pointer (some ⟨bx, 2, none⟩), .string V, .string (N ++ ox ++ ⟨#[34]⟩ ++ V), .string (N ++ ox ++ ⟨#[34]⟩ ++ V ++ ⟨#[34]⟩), .tuple #[.int .i64 (N ++ ox ++ ⟨#[34]⟩ ++ V ++ ⟨#[34]⟩ : ByteArray).size, .nilIface]] (by kernel_rfl) (by kernel_rfl) (by kernel_rfl) 32 rfl (by kernel_rfl) (by kernel_rfl) rfl (TL.ix_cons ?_ (TL.ix_cons ?_ (TL.ix_cons ?_ (TL.ix_cons ?_ (TL.ix_cons ?_ (TL.ix_cons ?_ (TL.ix_cons ?_ (TL.ix_cons ?_ (TL.ix_cons ?_ (TL.ix_cons ?_ (TL.ix_cons ?_ (TL.ix_cons ?_ TL.ix_nil)))))))))))) ?_
        · intro a W hlike hC hdep
          refine TL.Does.val (v := .pointer (some ⟨bx, 0, none⟩)) (w' := W) ?_ ⟨hC, rfl⟩
          have e5 : a.eval (.tmp 5) = .pointer (some ⟨bx, 0, none⟩) := hlike.keeps 5 (by kernel_rfl)
          unfold execOp
          dsimp only
          rw [e5]
          first | rfl | exact cat_run _ _ _ _ W (by (try simp only [ByteArray.size_append, sz34]); omega) | exact sub_run _ _ _ _ W | exact add_run _ _ _ _ W
        · intro a W hlike hC hdep
          exact TL.Does.load rfl (hdep 0 (by kernel_rfl)) (ldStr _ _ _ W (by rw [hC]; exact y0)) ⟨hC, rfl⟩
        · intro a W hlike hC hdep
          refine TL.Does.val (v := .pointer (some ⟨bx, 1, none⟩)) (w' := W) ?_ ⟨hC, rfl⟩
          have e5 : a.eval (.tmp 5) = .pointer (some ⟨bx, 0, none⟩) := hlike.keeps 5 (by kernel_rfl)
          unfold execOp
          dsimp only
          rw [e5]
          first | rfl | exact cat_run _ _ _ _ W (by (try simp only [ByteArray.size_append, sz34]); omega) | exact sub_run _ _ _ _ W | exact add_run _ _ _ _ W
        · intro a W hlike hC hdep
          exact TL.Does.load rfl (hdep 2 (by kernel_rfl)) (ldInt _ _ _ W (by rw [hC]; exact y1)) ⟨hC, rfl⟩
        · intro a W hlike hC hdep
          have e20 : a.eval (.tmp 20) = .int .i64 O := hdep 3 (by kernel_rfl)
          refine TL.Does.call (f := 74) (args := #[a.eval (.tmp 20)]) (by kernel_rfl) ?_
          rw [e20]
          refine (HOx.out W (by rw [hC]; exact HGd.out)).mono ?_
          rintro e W' ⟨rfl, rfl⟩
          exact ⟨_, rfl, hC, rfl⟩
        · intro a W hlike hC hdep
          refine TL.Does.val (v := .string (N ++ ox)) (w' := W) ?_ ⟨hC, rfl⟩
          have e18 : a.eval (.tmp 18) = .string N := hdep 1 (by kernel_rfl)
          have e21 : a.eval (.tmp 21) = .string ox := hdep 4 (by kernel_rfl)
          unfold execOp
          dsimp only
          rw [e18, e21]
          first | rfl | exact cat_run _ _ _ _ W (by (try simp only [ByteArray.size_append, sz34]); omega) | exact sub_run _ _ _ _ W | exact add_run _ _ _ _ W
        · intro a W hlike hC hdep
          refine TL.Does.val (v := .string (N ++ ox ++ ⟨#[34]⟩)) (w' := W) ?_ ⟨hC, rfl⟩
          have e22 : a.eval (.tmp 22) = .string (N ++ ox) := hdep 5 (by kernel_rfl)
          unfold execOp
          dsimp only
          rw [e22]
          first | rfl | exact cat_run _ _ _ _ W (by (try simp only [ByteArray.size_append, sz34]); omega) | exact sub_run _ _ _ _ W | exact add_run _ _ _ _ W
        · intro a W hlike hC hdep
          refine TL.Does.val (v := .pointer (some ⟨bx, 2, none⟩)) (w' := W) ?_ ⟨hC, rfl⟩
          have e5 : a.eval (.tmp 5) = .pointer (some ⟨bx, 0, none⟩) := hlike.keeps 5 (by kernel_rfl)
          unfold execOp
          dsimp only
          rw [e5]
          first | rfl | exact cat_run _ _ _ _ W (by (try simp only [ByteArray.size_append, sz34]); omega) | exact sub_run _ _ _ _ W | exact add_run _ _ _ _ W
        · intro a W hlike hC hdep
          exact TL.Does.load rfl (hdep 7 (by kernel_rfl)) (ldStr _ _ _ W (by rw [hC]; exact y2)) ⟨hC, rfl⟩
        · intro a W hlike hC hdep
          refine TL.Does.val (v := .string (N ++ ox ++ ⟨#[34]⟩ ++ V)) (w' := W) ?_ ⟨hC, rfl⟩
          have e23 : a.eval (.tmp 23) = .string (N ++ ox ++ ⟨#[34]⟩) := hdep 6 (by kernel_rfl)
          have e25 : a.eval (.tmp 25) = .string V := hdep 8 (by kernel_rfl)
          unfold execOp
          dsimp only
          rw [e23, e25]
          first | rfl | exact cat_run _ _ _ _ W (by (try simp only [ByteArray.size_append, sz34]); omega) | exact sub_run _ _ _ _ W | exact add_run _ _ _ _ W
        · intro a W hlike hC hdep
          refine TL.Does.val (v := .string (N ++ ox ++ ⟨#[34]⟩ ++ V ++ ⟨#[34]⟩)) (w' := W) ?_ ⟨hC, rfl⟩
          have e26 : a.eval (.tmp 26) = .string (N ++ ox ++ ⟨#[34]⟩ ++ V) := hdep 9 (by kernel_rfl)
          unfold execOp
          dsimp only
          rw [e26]
          first | rfl | exact cat_run _ _ _ _ W (by (try simp only [ByteArray.size_append, sz34]); omega) | exact sub_run _ _ _ _ W | exact add_run _ _ _ _ W
        · intro a W hlike hC hdep
          have e3 : a.eval (.tmp 3) = .pointer (some ⟨w.heap.size, 0, none⟩) := hlike.keeps 3 (by kernel_rfl)
          have e27 : a.eval (.tmp 27) = .string (N ++ ox ++ ⟨#[34]⟩ ++ V ++ ⟨#[34]⟩) := hdep 10 (by kernel_rfl)
          refine TL.Does.call (f := 73) (args := #[a.eval (.tmp 3), a.eval (.tmp 27)]) (by kernel_rfl) ?_
          rw [e3, e27, hC]
          refine (Tryd.Builder_WriteString_k w.heap.size w.heap.size _ _ _ HAd.out HLN.out hsd).mono ?_
          rintro e W' ⟨rfl, hb3, hbel3, _⟩
          exact ⟨_, rfl, ⟨.inr (by rw [HEQ.out]; exact join_item hb3), HBd.out.trans hbel3⟩, rfl⟩
        · intro f W hC
          have HA := hid hC.1
          have HB := hid hC.2
          clear hC
          simp only [TL.puts]
          go_frame
          generalize f 17 = g17
          generalize f 18 = g18
          generalize f 19 = g19
          generalize f 20 = g20
          generalize f 21 = g21
          generalize f 22 = g22
          generalize f 23 = g23
          generalize f 24 = g24
          generalize f 25 = g25
          generalize f 26 = g26
          generalize f 27 = g27
          generalize f 28 = g28
          go_wp2_with fail
          go_roundw
          case rel => exact ⟨i + 1, by omega, by go_num, HA.out, HB.out⟩
          case measure => simp [intOf]; omega
    · have he : i = l.length := by omega
      subst he
      have HTK : Hid (mtx l l.length ++ [125] = AQ.matT l) := by
        show _ = _
        unfold mtx AQ.matT
        rw [List.take_of_length_le (Nat.le_refl _)]
      have hlenT := mtx_len l HOk.out l.length (by omega)
      have hlen2 : (Lib.byteCells (mtx l l.length)).length + 1 ≤ 140737488355328 := by rw [Lib.byteCells_length]; omega
      have HLN := hid hlen2
      clear hlenT hlen2
      go_wp2_with fail
      refine (Tryd.Builder_WriteByte_k w.heap.size w.heap.size _ 125 _ HIB.out HLN.out hsz).mono ?_
      rintro e w2 ⟨rfl, hb2, hbel2, _⟩
      have HB2 := hid (HBl.out.trans hbel2)
      have HA2 : Hid (Lib.IsBuilderF 119 5 w.heap.size w.heap.size (Lib.byteCells (AQ.matT l)) w2) := .inr (by rw [← HTK.out]; simpa [Lib.byteCells] using hb2)
      have hs2 := HB2.out.size
      clear hb2 hbel2 HLN
      go_wp2_with fail
      refine (Tryd.Builder_String_k w.heap.size w.heap.size _ _ HA2.out hs2).mono ?_
      rintro e w3 ⟨rfl, _, hbel3, _⟩
      have HB3 := hid (HB2.out.trans hbel3)
      clear hbel3
      go_wp2_with fail
      go_ret
      exact ⟨rfl, HB3.out⟩

end Go.Proofs.YtdmnlmohfaafoaeDoor
