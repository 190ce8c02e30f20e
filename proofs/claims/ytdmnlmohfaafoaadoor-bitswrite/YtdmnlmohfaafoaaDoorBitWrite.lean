/- raingaugelaw.BitsWrite, walked: the bits that a Writer has are the document's. -/
import Derived.Test.YtdmnlmohfaafoaaDoorBitRefB
namespace Go.Proofs.YtdmnlmohfaafoaaDoor
open Go.RowKit

theorem ownsRow_kept_all {base : Nat} {e : TypeId} {size : Nat} {v : Value} {n : Nat} {xs : List Value} {w w' : World} (h : w.ownsRow base e size v n xs) (hb : Below w.heap.size w w') : w'.ownsRow base e size v n xs := by
  have hlt := h.lt
  obtain ⟨h1, h2⟩ := h
  refine ⟨h1, ?_⟩
  rcases h2 with h2 | ⟨g, cap, cur, rfl, hg, hh, r⟩
  · exact .inl h2
  · refine .inr ⟨g, cap, cur, rfl, hg, ?_, r⟩
    rw [hb.block g (hlt g rfl).2]; exact hh

theorem WInv.kept {B : Nat} {w w' : World} {bs : List Bool} (h : WInv B w bs) (hb : Below w.heap.size w w') : WInv B w' bs := by
  obtain ⟨v, h0, f0, h1, f1, ho, hB⟩ := h
  exact ⟨v, (hb.cell hB).trans h0, (hb.frozen hB).trans f0, (hb.cell hB).trans h1, (hb.frozen hB).trans f1, ownsRow_kept_all ho hb, Nat.lt_of_lt_of_le hB hb.size⟩

theorem WInv.lt {B : Nat} {w : World} {bs : List Bool} (h : WInv B w bs) : B < w.heap.size := by
  obtain ⟨v, _, _, _, _, _, hB⟩ := h
  exact hB

theorem x_kept {B : Nat} {wr w2 : World} {K N : Int} (h : WFr B (wr.alloc (.cells #[.int .i64 K, .int .i64 N] 30)) w2) (hB : B < wr.heap.size) :
    w2.cell? ⟨wr.heap.size, 0, none⟩ = some (.int .i64 K) ∧ w2.cell? ⟨wr.heap.size, 1, none⟩ = some (.int .i64 N) := by
  have hb := h.block wr.heap.size (by simp) (by omega) (fun c fr => by
    rw [show (wr.alloc (.cells #[.int .i64 K, .int .i64 N] 30)).heap[wr.heap.size]? = some (.cells #[.int .i64 K, .int .i64 N] 30 (0, 0)) from heap_alloc_new wr _]
    simp)
  exact ⟨(World.cell?_of_block (a := ⟨wr.heap.size, 0, none⟩) hb).trans (by simp), (World.cell?_of_block (a := ⟨wr.heap.size, 1, none⟩) hb).trans (by simp)⟩

theorem and_one_i64 (n : Int) : bits BinOp.and IntKind.i64 n 1 = n % 2 := by
  show IntKind.i64.wrap ((BitVec.ofInt 64 n &&& BitVec.ofInt 64 1).toNat : Int) = _
  have e1 : ((BitVec.ofInt 64 n).toNat : Int) = n % 18446744073709551616 := by
    rw [BitVec.toNat_ofInt]; omega
  have e2 : (BitVec.ofInt 64 1).toNat = 1 := by decide
  rw [BitVec.toNat_and, e2, Nat.and_one_is_mod, IntKind.wrap_i64]
  have e3 : (((BitVec.ofInt 64 n).toNat % 2 : Nat) : Int) = n % 2 := by omega
  omega

set_option maxHeartbeats 400000 in
theorem write_long (ao : Option Addr) (len cap : Nat) (n : Int) (u : Nat) (w : World) (h : 40 < len) :
    Calls Tryd.prog 3 #[.slice ao len cap, .int .i64 n, .int .u64 u] w fun e w' => e = .returned (.bool true) ∧ w' = w := by
  have h' : (40 : Int) < (len : Int) := by omega
  go_enter Tryd.func3, Tryd.ntmps3
  go_wp2
  go_ret
  exact ⟨rfl, rfl⟩

set_option maxRecDepth 100000 in
set_option maxHeartbeats 3200000 in
theorem write_any (ao : Option Addr) (len cap : Nat) (ks ns : Nat → Int) (n : Int) (u : Nat) (w : World) (hlen : len ≤ 40) (hW : Wids w) (hG : 0 < w.heap.size)
    (hc : ∀ i, i < len → ∃ b off, ao = some ⟨b, off, none⟩ ∧ w.cell? ⟨b, off + i * 2, none⟩ = some (.int .i64 (ks i)) ∧ w.cell? ⟨b, off + i * 2 + 1, none⟩ = some (.int .i64 (ns i)) ∧ b < w.heap.size)
    (hk : ∀ i, i < len → -9223372036854775808 ≤ ks i ∧ ks i ≤ 9223372036854775807 ∧ -9223372036854775808 ≤ ns i ∧ ns i ≤ 9223372036854775807)
    (hn1 : -9223372036854775808 ≤ n) (hn2 : n ≤ 9223372036854775807) (hu : u < 18446744073709551616) :
    Calls Tryd.prog 3 #[.slice ao len cap, .int .i64 n, .int .u64 u] w fun e w' => e = .returned (.bool true) ∧ Below w.heap.size w w' := by
  have h' : ¬ (40 : Int) < (len : Int) := by omega
  have HW := hid hW
  have HC := hid hc
  have HK := hid hk
  clear hW hc hk
  go_enter Tryd.func3, Tryd.ntmps3
  go_wp2
  go_loopw [8, 9] (fun tb ti wr => ∃ (k : Nat) (bs : List Bool), k ≤ len ∧ ti = .int .i64 k ∧ tb = .string (ltS bs) ∧ bs.length ≤ 70 * k ∧ WInv w.heap.size wr bs ∧ Below w.heap.size w wr ∧ Wids wr) (fun _ ti _ => len - (intOf ti).toNat)
  case atStart => exact ⟨0, [], by omega, rfl, rfl, by simp, WInv.new w, (Below.refl _ _).alloc (Nat.le_refl _) _, HW.out.alloc hG _⟩
  case round =>
    obtain ⟨k, bs, hk, rfl, rfl, hbl, hinv, hbel, hwid⟩ := hrel
    have HV := hid hinv
    have HB := hid hbel
    have HWr := hid hwid
    have hsz := hbel.size
    clear hinv hbel hwid
    by_cases hlt : k < len
    · obtain ⟨b, off, hao, hc0, hc1, hbs⟩ := HC.out k hlt
      obtain ⟨hk1, hk2, hn3, hn4⟩ := HK.out k hlt
      subst hao
      have hcell0 := (HB.out.cell (p := ⟨b, off + k * 2, none⟩) hbs).trans hc0
      have hcell1 := (HB.out.cell (p := ⟨b, off + k * 2 + 1, none⟩) hbs).trans hc1
      generalize ks k = K at *
      generalize ns k = N at *
      clear hc0 hc1
      have hBw : w.heap.size < wr.heap.size := HV.out.lt
      have HV1 := hid (HV.out.kept ((Below.refl wr.heap.size wr).alloc (Nat.le_refl _) (.cells #[.int .i64 K, .int .i64 N] 30)))
      have HB1 := hid (HB.out.alloc hsz (.cells #[.int .i64 K, .int .i64 N] 30))
      have HW1 := hid (HWr.out.alloc (by omega) (.cells #[.int .i64 K, .int .i64 N] 30))
      have hbl9 : bs.length ≤ 10000 := by omega
      obtain ⟨U, hU⟩ : ∃ U : Nat, IntKind.u64.wrap N = (U : Int) := ⟨(N % 18446744073709551616).toNat, by rw [IntKind.wrap_u64]; omega⟩
      have hUl : U < 18446744073709551616 := by rw [IntKind.wrap_u64] at hU; omega
      by_cases hneg : K < 0
      · go_wp2_with fail
        refine (put_any w.heap.size N bs _ HV1.out HW1.out hG (by omega) hn3 hn4).mono ?_
        rintro e w2 ⟨rfl, hi2, hf2⟩
        obtain ⟨hx0, hx1⟩ := x_kept hf2 hBw
        have HV2 := hid hi2
        have HB2 := hid (HB1.out.trans hf2.below)
        have HW2 := hid (HW1.out.below hf2.below hG)
        have hs2 : w.heap.size ≤ w2.heap.size := (HB1.out.trans hf2.below).size
        clear hi2 hf2
        go_wp2_with fail
        refine (rput_any bs N _ (by omega) hn3 hn4).mono ?_
        rintro e w3 ⟨rfl, hb3⟩
        have HV4 := hid (HV2.out.kept hb3)
        have HB4 := hid (HB2.out.trans (hb3.mono hs2))
        have HW4 := hid (HW2.out.below (hb3.mono hs2) hG)
        have hs4 : (ltS (bs ++ BL.putL (BL.zig N))).size = (bs ++ BL.putL (BL.zig N)).length := ltS_size _
        have hl4 : (bs ++ BL.putL (BL.zig N)).length ≤ 70 * (k + 1) := by rw [List.length_append]; have := (BL.putL_bounds (BL.zig N)).2.1; omega
        clear hb3
        generalize bs ++ BL.putL (BL.zig N) = bs4 at *
        go_wp2_with fail
        refine (wlen_any w.heap.size bs4 _ HV4.out).mono ?_
        rintro e w5 ⟨rfl, rfl⟩
        go_wp2_with fail
        go_roundw
        case rel => exact ⟨k + 1, bs4, by omega, by go_num, rfl, hl4, HV4.out, HB4.out, HW4.out⟩
        case measure => simp [intOf]; omega
      · by_cases hz : K = 0
        · have hKb : (K == 0) = true := by rw [beq_iff_eq]; exact hz
          have hand := and_one_i64 N
          clear hz
          by_cases hodd : N % 2 = 1
          · have hob : (N % 2 == 1) = true := by rw [beq_iff_eq]; exact hodd
            have HBO : Hid (BL.bitsOf U 1 = [true]) := by
              show _ = _
              have : U % 2 = 1 := by rw [IntKind.wrap_u64] at hU; omega
              simp [BL.bitsOf, Nat.testBit_zero, this]
            clear hodd
            go_wp2_with fail
            refine (wbit_any w.heap.size true bs _ HV1.out (by omega)).mono ?_
            rintro e w2 ⟨rfl, hi2, hf2⟩
            obtain ⟨hx0, hx1⟩ := x_kept hf2 hBw
            have HV2 := hid hi2
            have HB2 := hid (HB1.out.trans hf2.below)
            have HW2 := hid (HW1.out.below hf2.below hG)
            have hs2 : w.heap.size ≤ w2.heap.size := (HB1.out.trans hf2.below).size
            clear hi2 hf2
            go_wp2_with fail
            refine (radd_any bs U 1 _ hUl (by omega) (by omega) (by omega)).mono ?_
            rintro e w3 ⟨rfl, hb3⟩
            rw [show (min (1 : Int) 64).toNat = 1 from rfl, HBO.out]
            have HV4 := hid (HV2.out.kept hb3)
            have HB4 := hid (HB2.out.trans (hb3.mono hs2))
            have HW4 := hid (HW2.out.below (hb3.mono hs2) hG)
            have hs4 : (ltS (bs ++ [true])).size = (bs ++ [true]).length := ltS_size _
            have hl4 : (bs ++ [true]).length ≤ 70 * (k + 1) := by simp; omega
            clear hb3
            generalize bs ++ [true] = bs4 at *
            go_wp2_with fail
            refine (wlen_any w.heap.size bs4 _ HV4.out).mono ?_
            rintro e w5 ⟨rfl, rfl⟩
            go_wp2_with fail
            go_roundw
            case rel => exact ⟨k + 1, bs4, by omega, by go_num, rfl, hl4, HV4.out, HB4.out, HW4.out⟩
            case measure => simp [intOf]; omega
          · have hob : (N % 2 == 1) = false := by rw [beq_eq_false_iff_ne]; exact hodd
            have HBO : Hid (BL.bitsOf U 1 = [false]) := by
              show _ = _
              have : U % 2 = 0 := by rw [IntKind.wrap_u64] at hU; omega
              simp [BL.bitsOf, Nat.testBit_zero, this]
            clear hodd
            go_wp2_with fail
            refine (wbit_any w.heap.size false bs _ HV1.out (by omega)).mono ?_
            rintro e w2 ⟨rfl, hi2, hf2⟩
            obtain ⟨hx0, hx1⟩ := x_kept hf2 hBw
            have HV2 := hid hi2
            have HB2 := hid (HB1.out.trans hf2.below)
            have HW2 := hid (HW1.out.below hf2.below hG)
            have hs2 : w.heap.size ≤ w2.heap.size := (HB1.out.trans hf2.below).size
            clear hi2 hf2
            go_wp2_with fail
            refine (radd_any bs U 1 _ hUl (by omega) (by omega) (by omega)).mono ?_
            rintro e w3 ⟨rfl, hb3⟩
            rw [show (min (1 : Int) 64).toNat = 1 from rfl, HBO.out]
            have HV4 := hid (HV2.out.kept hb3)
            have HB4 := hid (HB2.out.trans (hb3.mono hs2))
            have HW4 := hid (HW2.out.below (hb3.mono hs2) hG)
            have hs4 : (ltS (bs ++ [false])).size = (bs ++ [false]).length := ltS_size _
            have hl4 : (bs ++ [false]).length ≤ 70 * (k + 1) := by simp; omega
            clear hb3
            generalize bs ++ [false] = bs4 at *
            go_wp2_with fail
            refine (wlen_any w.heap.size bs4 _ HV4.out).mono ?_
            rintro e w5 ⟨rfl, rfl⟩
            go_wp2_with fail
            go_roundw
            case rel => exact ⟨k + 1, bs4, by omega, by go_num, rfl, hl4, HV4.out, HB4.out, HW4.out⟩
            case measure => simp [intOf]; omega
        · have hKb : (K == 0) = false := by rw [beq_eq_false_iff_ne]; exact hz
          clear hz
          go_wp2_with fail
          refine (wbits_any w.heap.size U K bs _ HV1.out hUl (by omega) hk1 hk2).mono ?_
          rintro e w2 ⟨rfl, hi2, hf2⟩
          obtain ⟨hx0, hx1⟩ := x_kept hf2 hBw
          have HV2 := hid hi2
          have HB2 := hid (HB1.out.trans hf2.below)
          have HW2 := hid (HW1.out.below hf2.below hG)
          have hs2 : w.heap.size ≤ w2.heap.size := (HB1.out.trans hf2.below).size
          clear hi2 hf2
          go_wp2_with fail
          refine (radd_any bs U K _ hUl (by omega) hk1 hk2).mono ?_
          rintro e w3 ⟨rfl, hb3⟩
          have HV4 := hid (HV2.out.kept hb3)
          have HB4 := hid (HB2.out.trans (hb3.mono hs2))
          have HW4 := hid (HW2.out.below (hb3.mono hs2) hG)
          have hs4 : (ltS (bs ++ BL.bitsOf U (min K 64).toNat)).size = (bs ++ BL.bitsOf U (min K 64).toNat).length := ltS_size _
          have hl4 : (bs ++ BL.bitsOf U (min K 64).toNat).length ≤ 70 * (k + 1) := by rw [List.length_append, BL.bitsOf_length]; omega
          clear hb3
          generalize bs ++ BL.bitsOf U (min K 64).toNat = bs4 at *
          go_wp2_with fail
          refine (wlen_any w.heap.size bs4 _ HV4.out).mono ?_
          rintro e w5 ⟨rfl, rfl⟩
          go_wp2_with fail
          go_roundw
          case rel => exact ⟨k + 1, bs4, by omega, by go_num, rfl, hl4, HV4.out, HB4.out, HW4.out⟩
          case measure => simp [intOf]; omega
    · have he : k = len := by omega
      subst he
      have hbl9 : bs.length ≤ 10000 := by omega
      go_wp2_with fail
      refine (wbytes_any w.heap.size bs _ HV.out).mono ?_
      rintro e w2 ⟨rfl, rfl⟩
      go_wp2_with fail
      refine (rbytes_any bs _ (by omega)).mono ?_
      rintro e w3 ⟨rfl, hb3⟩
      have HB3 := hid (HB.out.trans (hb3.mono hsz))
      clear hb3
      generalize strOf (BL.pk bs) = sb at *
      go_wp2_with fail
      refine (zig_any n _ hn1 hn2).mono ?_
      rintro e w4 ⟨rfl, rfl⟩
      go_wp2_with fail
      refine (rzig_any n _ hn1 hn2).mono ?_
      rintro e w5 ⟨rfl, rfl⟩
      go_wp2_with fail
      refine (zag_any u _ hu).mono ?_
      rintro e w6 ⟨rfl, rfl⟩
      go_wp2_with fail
      refine (rzag_any u _ hu).mono ?_
      rintro e w7 ⟨rfl, rfl⟩
      go_wp2_with fail
      go_ret
      exact ⟨rfl, HB3.out⟩

end Go.Proofs.YtdmnlmohfaafoaaDoor
