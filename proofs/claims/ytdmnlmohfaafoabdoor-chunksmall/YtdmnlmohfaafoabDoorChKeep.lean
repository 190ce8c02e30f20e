/- Texts as bits; what raingaugekeep's pick and chunked answer. -/
import Derived.Test.YtdmnlmohfaafoabDoorChRead
import Derived.Test.YtdmnlmohfaafoabDoorChSame
namespace Go.Proofs.YtdmnlmohfaafoabDoor
open Go.RowKit

theorem bitsS_str (bs : List Bool) : bitsS (strOf (BL.pk bs)) = bs ++ List.replicate (8 * ((bs.length + 7) / 8) - bs.length) false := by
  rw [← BL.bitsB_pk]
  unfold bitsS strOf
  congr 1
  simp only [List.map_map]
  conv => rhs; rw [← List.map_id (BL.pk bs)]
  apply List.map_congr_left
  intro x hx
  have := BL.pk_lt bs x hx
  simp [UInt8.toNat_ofNat', Nat.mod_eq_of_lt this]

theorem str_size (l : List Nat) : (strOf l).size = l.length := by simp [strOf, ByteArray.size]

theorem bitsB_inj : ∀ (l l' : List Nat), (∀ x ∈ l, x < 256) → (∀ x ∈ l', x < 256) → BL.bitsB l = BL.bitsB l' → l = l'
  | [], [], _, _, _ => rfl
  | [], b :: l', _, _, h => by have := congrArg List.length h; rw [BL.bitsB_length, BL.bitsB_length] at this; simp at this
  | b :: l, [], _, _, h => by have := congrArg List.length h; rw [BL.bitsB_length, BL.bitsB_length] at this; simp at this
  | b :: l, b' :: l', h1, h2, h => by
    have e : ∀ (x : Nat) (m : List Nat), BL.bitsB (x :: m) = BL.bitsOf x 8 ++ BL.bitsB m := fun x m => rfl
    rw [e, e] at h
    obtain ⟨ha, hb⟩ := List.append_inj h (by rw [BL.bitsOf_length, BL.bitsOf_length])
    have hv := congrArg BL.val ha
    rw [BL.val_bitsOf, BL.val_bitsOf] at hv
    have hb1 := h1 b (List.mem_cons_self)
    have hb2 := h2 b' (List.mem_cons_self)
    have : b = b' := by omega
    rw [this, bitsB_inj l l' (fun x hx => h1 x (List.mem_cons_of_mem _ hx)) (fun x hx => h2 x (List.mem_cons_of_mem _ hx)) hb]

theorem bitsS_inj (s t : ByteArray) (h : bitsS s = bitsS t) : s = t := by
  unfold bitsS at h
  have hs : ∀ (u : ByteArray), ∀ x ∈ u.data.toList.map UInt8.toNat, x < 256 := by
    intro u x hx
    rw [List.mem_map] at hx
    obtain ⟨y, _, rfl⟩ := hx
    exact y.toNat_lt
  have h1 := bitsB_inj _ _ (hs s) (hs t) h
  have h2 : s.data.toList = t.data.toList := by
    apply List.map_inj_right (f := UInt8.toNat) (fun a b hab => UInt8.toNat_inj.1 hab) |>.1 h1
  obtain ⟨⟨a⟩⟩ := s
  obtain ⟨⟨b⟩⟩ := t
  simp at h2
  rw [h2]

/-- What is read is written just so. -/
theorem write_read (s : ByteArray) (m : List CL.Smp) (h : CL.readL (bitsS s) = some m) : strOf (BL.pk (CL.chB m)) = s := by
  obtain ⟨_, _, k, hk, hb⟩ := CL.read_inv _ _ h
  apply bitsS_inj
  rw [bitsS_str, hb]
  have hl := congrArg List.length hb
  rw [bitsS_length, List.length_append, List.length_replicate] at hl
  congr 2
  omega

theorem read_of_write (l : List CL.Smp) (hr : CL.right l = true) (hR : ∀ s ∈ l, CL.Rs s) : CL.readL (bitsS (strOf (BL.pk (CL.chB l)))) = some l := by
  rw [bitsS_str]
  exact CL.read_write l hr hR _ (by omega)

theorem bitsS_extract (s : ByteArray) (k : Nat) (hk : k ≤ s.size) : ∃ q, bitsS s = bitsS (s.extract 0 k) ++ q ∧ q.length = 8 * (s.size - k) := by
  have e : (s.extract 0 k).data.toList = s.data.toList.take k := by
    obtain ⟨⟨l⟩⟩ := s
    simp [ByteArray.extract, ByteArray.copySlice]
  refine ⟨BL.bitsB ((s.data.toList.drop k).map UInt8.toNat), ?_, ?_⟩
  · unfold bitsS
    rw [e]
    unfold BL.bitsB
    rw [← List.flatMap_append, ← List.map_append, List.take_append_drop]
  · rw [BL.bitsB_length, List.length_map, List.length_drop]
    rfl

/-- No beginning of what is written is any. -/
theorem read_cut (l : List CL.Smp) (hr : CL.right l = true) (hR : ∀ s ∈ l, CL.Rs s) (k : Nat) (hk : k < (strOf (BL.pk (CL.chB l))).size) : CL.readL (bitsS ((strOf (BL.pk (CL.chB l))).extract 0 k)) = none := by
  obtain ⟨q, h1, h2⟩ := bitsS_extract (strOf (BL.pk (CL.chB l))) k (by omega)
  rw [bitsS_str] at h1
  exact CL.read_prefix l hr hR _ (by omega) _ q h1.symm (by omega)

set_option maxHeartbeats 400000 in
theorem pick_any (a : Int) (n : Nat) (w : World) (hn : 0 < n) (hn2 : n ≤ 1000000) :
    Calls Tryd.prog 11 #[.int .i64 a, .int .i64 n] w fun e w' => (∃ k : Nat, k < n ∧ e = .returned (.int .i64 k)) ∧ w' = w := by
  obtain ⟨U, hU⟩ : ∃ U : Nat, IntKind.u64.wrap a = (U : Int) := ⟨(a % 18446744073709551616).toNat, by rw [IntKind.wrap_u64]; omega⟩
  have hUl : U < 18446744073709551616 := by rw [IntKind.wrap_u64] at hU; omega
  have hn3 : IntKind.u64.wrap (n : Int) = n := by rw [IntKind.wrap_u64]; omega
  have hml : (U : Int) % n < n := Int.emod_lt_of_pos _ (by omega)
  have hm0 : 0 ≤ (U : Int) % n := Int.emod_nonneg _ (by omega)
  have hm : IntKind.i64.wrap ((U : Int) % n) = (U : Int) % n := by rw [IntKind.wrap_i64]; omega
  go_enter Tryd.func11, Tryd.ntmps11
  go_wp2
  go_ret
  refine ⟨⟨U % n, Nat.mod_lt _ hn, ret_int ?_⟩, rfl⟩
  simp

def l2 : List CL.Smp := [(10, 3), (20, 3)]
def lbad : List CL.Smp := [(2, 0), (1, 0)]
theorem l2_right : CL.right l2 = true := by decide
theorem lbad_right : CL.right lbad = false := by decide
theorem l2_rs : ∀ s ∈ l2, CL.Rs s := by
  intro s hs
  simp [l2] at hs
  rcases hs with rfl | rfl <;> (unfold CL.Rs; simp)
theorem lbad_rs : ∀ s ∈ lbad, CL.Rs s := by
  intro s hs
  simp [lbad] at hs
  rcases hs with rfl | rfl <;> (unfold CL.Rs; simp)

theorem srow_two (w : World) (a b c d : Int) : SRow (w.alloc (.cells #[.int .i64 a, .int .i64 b, .int .i64 c, .int .i64 d] 35)) (some ⟨w.heap.size, 0, none⟩) [(a, b), (c, d)] := by
  intro i hi
  match i, hi with
  | 0, _ => exact ⟨w.heap.size, 0, rfl, by simp [CL.at'], by simp [CL.at'], by simp⟩
  | 1, _ => exact ⟨w.heap.size, 0, rfl, by simp [CL.at'], by simp [CL.at'], by simp⟩

set_option maxRecDepth 100000 in
set_option maxHeartbeats 800000 in
theorem chunked_any (w : World) (hW : Wids w) (hG : 0 < w.heap.size) :
    Calls Tryd.prog 6 #[] w fun e w' => e = .returned (.bool true) ∧ Below w.heap.size w w' := by
  have HS := hid (srow_two w 10 3 20 3)
  have HB0 := hid ((Below.refl w.heap.size w).alloc (Nat.le_refl _) (.cells #[.int .i64 10, .int .i64 3, .int .i64 20, .int .i64 3] 35))
  have HW1 := hid (hW.alloc hG (.cells #[.int .i64 10, .int .i64 3, .int .i64 20, .int .i64 3] 35))
  have HRW := hid (read_of_write l2 l2_right l2_rs)
  have hsz : (strOf (BL.pk (CL.chB l2))).size ≤ 140737488351232 := by
    rw [str_size, BL.pk_length]; have := CL.chB_len l2; simp [l2] at this ⊢; omega
  have HW := hid hW
  clear hW
  go_enter Tryd.func6, Tryd.ntmps6
  go_wp2_with fail
  refine (write_ok (some ⟨w.heap.size, 0, none⟩) l2 2 _ HS.out l2_rs HW1.out (by go_size) l2_right).mono ?_
  rintro e w1 ⟨rfl, hb1⟩
  have HB1 := hid (HB0.out.trans (hb1.mono (by simp)))
  have HS1 := hid (HS.out.below hb1)
  have hs1 := HB1.out.size
  clear hb1
  generalize strOf (BL.pk (CL.chB l2)) = st at *
  have HC := hid (read_c st w1 hsz (HW.out.below HB1.out hG) (by omega))
  rw [HRW.out] at HC
  go_wp2_with fail
  refine Calls.mono HC.out ?_
  rintro e w2 ⟨v, rfl, ho2, hb2⟩
  obtain ⟨ao, cap, rfl, hS2⟩ := SRow.of_own ho2
  have HSm := hid hS2
  have HB2 := hid (HB1.out.trans (hb2.mono hs1))
  have HS2 := hid (HS1.out.below hb2)
  have hs2 := HB2.out.size
  clear ho2 hb2 hS2
  go_wp2_with fail
  refine (same_any ao (some ⟨w.heap.size, 0, none⟩) l2 l2 cap 2 _ HSm.out HS2.out (by simp [l2])).mono ?_
  rintro e w3 ⟨rfl, hb3⟩
  have HB3 := hid (HB2.out.trans (hb3.mono hs2))
  have hs3 := HB3.out.size
  have hdt : decide (l2 = l2) = true := decide_eq_true rfl
  clear hb3
  go_wp2_with fail
  refine (right_any (some ⟨w3.heap.size, 0, none⟩) lbad 2 _ (srow_two w3 2 0 1 0) lbad_rs (by simp [lbad])).mono ?_
  rintro e w4 ⟨rfl, hb4⟩
  have HB4 := hid ((HB3.out.alloc hs3 (.cells #[.int .i64 2, .int .i64 0, .int .i64 1, .int .i64 0] 35)).trans (hb4.mono (by go_size)))
  have hrb := lbad_right
  clear hb4
  go_wp2_with fail
  go_ret
  exact ⟨rfl, HB4.out⟩

end Go.Proofs.YtdmnlmohfaafoabDoor
