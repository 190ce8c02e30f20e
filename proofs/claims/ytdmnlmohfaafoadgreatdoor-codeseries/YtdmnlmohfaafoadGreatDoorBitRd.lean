/- What a bits.Reader is in memory, and what its methods do to it. -/
import Derived.Test.YtdmnlmohfaafoadGreatDoorBitPut
namespace Go.Proofs.YtdmnlmohfaafoadGreatDoor
open Go.RowKit

/-- The bits of a text. -/
def bitsS (s : ByteArray) : List Bool := BL.bitsB (s.data.toList.map UInt8.toNat)

/-- A Reader in block R, of the text s, of which p bits are read. -/
def RInv (R : Nat) (w : World) (s : ByteArray) (p : Nat) : Prop :=
  w.cell? ⟨R, 0, none⟩ = some (.string s) ∧ w.cell? ⟨R, 1, none⟩ = some (.int .i64 p) ∧ w.frozen? ⟨R, 1, none⟩ = false ∧ R < w.heap.size ∧ p ≤ 8 * s.size

/-- w' is w, but for block R. -/
structure Only (R : Nat) (w w' : World) : Prop where
  os : w'.os = w.os
  tape : w'.tape = w.tape
  output : w'.output = w.output
  size : w'.heap.size = w.heap.size
  block : ∀ k, k ≠ R → w'.heap[k]? = w.heap[k]?

theorem Only.refl (R : Nat) (w : World) : Only R w w := ⟨rfl, rfl, rfl, rfl, fun _ _ => rfl⟩
theorem Only.trans {R : Nat} {a b c : World} (h : Only R a b) (k : Only R b c) : Only R a c :=
  ⟨k.os.trans h.os, k.tape.trans h.tape, k.output.trans h.output, k.size.trans h.size, fun i hi => (k.block i hi).trans (h.block i hi)⟩
theorem Only.drew {R : Nat} {a w : World} (h : Only R a w) : Only R a w.drew := ⟨h.os, h.tape, h.output, h.size, h.block⟩
theorem Only.setCell {R : Nat} {a w : World} (h : Only R a w) (o : Nat) (u : Value) : Only R a (w.setCell ⟨R, o, none⟩ u) :=
  ⟨h.os, h.tape, h.output, by simp [h.size], fun k hk => (Below.heap_setCell w ⟨R, o, none⟩ u k hk).trans (h.block k hk)⟩
theorem Only.below {R B : Nat} {w w' : World} (h : Only R w w') (hB : B ≤ R) : Below B w w' :=
  ⟨h.os, h.tape, h.output, by rw [h.size]; exact Nat.le_refl _, fun k hk => h.block k (by omega)⟩
theorem Wids.only {R : Nat} {w w' : World} (h : Wids w) (hb : Only R w w') (hB : 1 < R) : Wids w' :=
  fun i hi => (World.cell?_of_block (w := w) (hb.block _ (by show 1 ≠ R; omega))).trans (h i hi)

theorem RInv.drew {R : Nat} {w : World} {s : ByteArray} {p : Nat} (h : RInv R w s p) : RInv R w.drew s p := h

theorem RInv.step {R : Nat} {w : World} {s : ByteArray} {p : Nat} (h : RInv R w s p) {z : Int} {q : Nat} (hz : z = q) (hq : q ≤ 8 * s.size) : RInv R (w.setCell ⟨R, 1, none⟩ (.int .i64 z)) s q := by
  obtain ⟨h0, h1, h2, h3, _⟩ := h
  subst hz
  exact ⟨(World.cell?_setCell_other _ _ _ _ (by simp)).trans h0, World.cell?_setCell_same _ _ _ h1, (World.frozen?_setCell _ _ _ _).trans h2, by simpa using h3, hq⟩

set_option maxRecDepth 100000 in
set_option maxHeartbeats 400000 in
theorem left_any (R : Nat) (s : ByteArray) (p : Nat) (w : World) (hRI : RInv R w s p) (hs : s.size ≤ 140737488351232) :
    Calls Tryz.prog 168 #[.pointer (some ⟨R, 0, none⟩)] w fun e w' => e = .returned (.int .i64 (8 * (s.size : Int) - p)) ∧ w' = w.drew := by
  obtain ⟨h0, h1, h2, h3, h4⟩ := hRI
  have hm : IntKind.i64.wrap (8 * (s.size : Int)) = 8 * (s.size : Int) := by rw [IntKind.wrap_i64]; omega
  have hm2 : IntKind.i64.wrap (8 * (s.size : Int) - p) = 8 * (s.size : Int) - p := by rw [IntKind.wrap_i64]; omega
  go_enter Tryz.func168, Tryz.ntmps168
  go_wp2
  refine wp_region_still_lit (by kernel_rfl) (by kernel_rfl) ?_
  iterate 12 still_step
  refine wpStill_nil ?_
  go_wp2
  go_ret
  exact ⟨rfl, rfl⟩

set_option maxHeartbeats 400000 in
theorem from_any (s : ByteArray) (w : World) :
    Calls Tryz.prog 140 #[.string s] w fun e w' => e = .returned (.pointer (some ⟨w.heap.size, 0, none⟩)) ∧ w' = w.alloc (.cells #[.string s, .int .i64 0] 240) := by
  go_enter Tryz.func140, Tryz.ntmps140
  go_wp2
  go_ret
  exact ⟨rfl, rfl⟩

theorem RInv.new (s : ByteArray) (w : World) : RInv w.heap.size (w.alloc (.cells #[.string s, .int .i64 0] 240)) s 0 := by
  refine ⟨by simp, by simp, by simp, by simp, by omega⟩

set_option maxHeartbeats 400000 in
theorem rbits_range (R : Nat) (k : Int) (w : World) (h : k < 0 ∨ 64 < k) :
    Calls Tryz.prog 169 #[.pointer (some ⟨R, 0, none⟩), .int .i64 k] w fun e w' => e = .returned (.tuple #[.int .u64 0, .iface 24 (.int .i64 2)]) ∧ w' = w := by
  rcases h with h | h
  · go_enter Tryz.func169, Tryz.ntmps169
    go_wp2
    go_ret2
    exact ⟨rfl, rfl⟩
  · have h' : ¬ k < 0 := by omega
    go_enter Tryz.func169, Tryz.ntmps169
    go_wp2
    go_ret2
    exact ⟨rfl, rfl⟩

set_option maxHeartbeats 400000 in
theorem rbits_few (R : Nat) (s : ByteArray) (p k : Nat) (w : World) (hRI : RInv R w s p) (hs : s.size ≤ 140737488351232) (hk : k ≤ 64) (hf : 8 * s.size < p + k) :
    Calls Tryz.prog 169 #[.pointer (some ⟨R, 0, none⟩), .int .i64 k] w fun e w' => e = .returned (.tuple #[.int .u64 0, .iface 24 (.int .i64 3)]) ∧ w' = w.drew := by
  have HI := hid hRI
  have hlt : 8 * (s.size : Int) - p < k := by omega
  have h1 : ¬ (k : Int) < 0 := by omega
  have h2 : ¬ (64 : Int) < (k : Int) := by omega
  clear hRI
  go_enter Tryz.func169, Tryz.ntmps169
  go_wp2_with (go_at_call 168; refine (left_any R s p _ HI.out hs).mono ?_; rintro e w' ⟨rfl, rfl⟩)
  go_ret2
  exact ⟨rfl, rfl⟩

theorem or64 (U b n sf : Nat) (hU : U * 2 ^ n + 2 ^ n ≤ 18446744073709551616) :
    bits BinOp.or IntKind.u64 (IntKind.u64.wrap ((U : Int) * 2 ^ n)) ((b : Int) / 2 ^ sf % 2 ^ n) = ((U * 2 ^ n + b / 2 ^ sf % 2 ^ n : Nat) : Int) := by
  have e1 : ((U : Int) * 2 ^ n) = ((U * 2 ^ n : Nat) : Int) := by simp
  have e2 : ((b : Int) / 2 ^ sf % 2 ^ n) = ((b / 2 ^ sf % 2 ^ n : Nat) : Int) := by simp
  have h1 : b / 2 ^ sf % 2 ^ n < 2 ^ n := Nat.mod_lt _ (Nat.two_pow_pos n)
  have h0 : U * 2 ^ n % 2 ^ n = 0 := Nat.mul_mod_left _ _
  have hj := nat_join n (U * 2 ^ n) (b / 2 ^ sf % 2 ^ n) h0 h1
  rw [e1, e2, IntKind.wrap_u64]
  generalize b / 2 ^ sf % 2 ^ n = y at *
  generalize U * 2 ^ n = x at *
  have e3 : ((x : Int) % 18446744073709551616) = x := by omega
  rw [e3, u64_or_nat x y (by omega) (by omega), hj]

theorem or64z (U b n : Nat) (hU : U * 2 ^ n + 2 ^ n ≤ 18446744073709551616) :
    bits BinOp.or IntKind.u64 (IntKind.u64.wrap ((U : Int) * 2 ^ n)) ((b : Int) % 2 ^ n) = ((U * 2 ^ n + b / 2 ^ 0 % 2 ^ n : Nat) : Int) := by
  have := or64 U b n 0 hU
  simpa using this

/-- What comes to the number that is read, a chunk of a byte. -/
theorem read_step (s : ByteArray) (p k l q n U b : Nat) (hq : q + l = p + k) (hk : k ≤ 64) (hl : l ≤ k) (hf : p + k ≤ 8 * s.size) (hn : n ≤ l) (hn8 : n ≤ 8 - q % 8)
    (hU : BL.val (((bitsS s).drop p).take (k - l)) = U) (hqd : q / 8 < s.size) (hb : (s[q / 8]'hqd).toNat = b) :
    BL.val (((bitsS s).drop p).take (k - (l - n))) = U * 2 ^ n + b / 2 ^ (8 - q % 8 - n) % 2 ^ n ∧ U * 2 ^ n + 2 ^ n ≤ 18446744073709551616 := by
  have hlen : (s.data.toList.map UInt8.toNat).length = s.size := by simp
  have e1 : k - (l - n) = (k - l) + n := by omega
  have hbl : (BL.bitsB (s.data.toList.map UInt8.toNat)).length = 8 * s.size := by rw [BL.bitsB_length, hlen]
  have hget : ((s.data.toList.map UInt8.toNat)[q / 8]?.getD 0) = b := by
    rw [← hb]; simp [hqd]; rfl
  constructor
  · unfold bitsS at hU ⊢
    rw [e1, BL.val_take_add _ _ _ _ (by rw [hbl]; omega), hU, show p + (k - l) = q by omega, BL.chunk_val _ q n hn8 (by rw [hlen]; omega), hget]
  · have h1 := BL.val_lt (((bitsS s).drop p).take (k - l))
    rw [hU] at h1
    have h2 : (((bitsS s).drop p).take (k - l)).length ≤ k - l := List.length_take_le _ _
    have h3 : 2 ^ (((bitsS s).drop p).take (k - l)).length ≤ 2 ^ (k - l) := Nat.pow_le_pow_right (by omega) h2
    have h4 : (U + 1) * 2 ^ n ≤ 2 ^ (k - l) * 2 ^ n := Nat.mul_le_mul_right _ (by omega)
    rw [← Nat.pow_add] at h4
    have h5 : 2 ^ (k - l + n) ≤ 2 ^ 64 := Nat.pow_le_pow_right (by omega) (by omega)
    rw [Nat.add_mul, Nat.one_mul] at h4
    omega

theorem bitsS_length (s : ByteArray) : (bitsS s).length = 8 * s.size := by
  unfold bitsS; rw [BL.bitsB_length]; simp

set_option maxRecDepth 100000 in
set_option maxHeartbeats 1600000 in
theorem rbits_any (R : Nat) (s : ByteArray) (p k : Nat) (w : World) (hRI : RInv R w s p) (hs : s.size ≤ 140737488351232) (hk : k ≤ 64) (hf : p + k ≤ 8 * s.size) :
    Calls Tryz.prog 169 #[.pointer (some ⟨R, 0, none⟩), .int .i64 k] w fun e w' =>
      e = .returned (.tuple #[.int .u64 (BL.val (((bitsS s).drop p).take k)), .nilIface]) ∧ RInv R w' s (p + k) ∧ Only R w w' := by
  have HI := hid hRI
  have hlt : ¬ 8 * (s.size : Int) - p < k := by omega
  have h1 : ¬ (k : Int) < 0 := by omega
  have h2 : ¬ (64 : Int) < (k : Int) := by omega
  clear hRI
  go_enter Tryz.func169, Tryz.ntmps169
  go_wp2_with (go_at_call 168; refine (left_any R s p _ HI.out hs).mono ?_; rintro e w' ⟨rfl, rfl⟩)
  go_loopw [6, 7] (fun tu tl wr => ∃ l q : Nat, l ≤ k ∧ q + l = p + k ∧ tl = .int .i64 l ∧ tu = .int .u64 (BL.val (((bitsS s).drop p).take (k - l))) ∧ RInv R wr s q ∧ Only R w wr) (fun _ tl _ => (intOf tl).toNat)
  case atStart => exact ⟨k, p, Nat.le_refl _, rfl, rfl, by simp [BL.val], HI.out, (Only.refl R w).drew⟩
  case round =>
    obtain ⟨l, q, hl, hq, rfl, rfl, hinv, honly⟩ := hrel
    have HQ := hid hq
    have hq1 : q + l ≤ p + k := by omega
    have hq2 : p + k ≤ q + l := by omega
    clear hq
    have HV := hid hinv
    have HO := hid honly
    generalize hU : BL.val (((bitsS s).drop p).take (k - l)) = U at *
    have HU := hid hU
    clear hU
    by_cases hpos : 0 < l
    · obtain ⟨c0, c1, f1, hR, hqs⟩ := hinv
      clear honly
      have hqd : q / 8 < s.size := by omega
      have hqi : 0 ≤ (q : Int) / 8 ∧ (q : Int) / 8 < (s.size : Int) := by omega
      have hwq : IntKind.i64.wrap ((q : Int) / 8) = (q : Int) / 8 := by rw [IntKind.wrap_i64]; omega
      have hin : IntKind.i64.wrap (8 - (q : Int) % 8) = 8 - (q : Int) % 8 := by rw [IntKind.wrap_i64]; omega
      obtain ⟨b, hb⟩ : ∃ b : Nat, (s[q / 8]'hqd).toNat = b := ⟨_, rfl⟩
      have hb8 : b < 256 := by rw [← hb]; exact (s[q / 8]'hqd).toNat_lt
      have hbx : ∀ h, (s[((q : Int) / 8).toNat]'h).toNat = b := by
        intro h
        have e : ((q : Int) / 8).toNat = q / 8 := by omega
        simp only [e]; exact hb
      have hwb : IntKind.u64.wrap (b : Int) = b := by rw [IntKind.wrap_u64]; omega
      by_cases hm : (l : Int) < 8 - (q : Int) % 8
      · obtain ⟨sf, hsf⟩ : ∃ sf : Nat, 8 - (q : Int) % 8 - l = sf := ⟨(8 - (q : Int) % 8 - l).toNat, by omega⟩
        have hsh : IntKind.i64.wrap (8 - (q : Int) % 8 - l) = sf := by rw [IntKind.wrap_i64]; omega
        have HR := hid (read_step s p k l q l U b HQ.out hk hl hf (Nat.le_refl _) (by omega) HU.out hqd hb)
        have HS := hid hsf
        clear hsf
        go_wp2_with fail
        refine wp_region_still_lit (by kernel_rfl) (by kernel_rfl) ?_
        iterate 20 still_step
        still_call (last_int _ _ _ (div_range b (by omega) _).1 (div_range b (by omega) _).2 (by omega) (by omega))
        iterate 2 still_step
        refine wpStill_nil ?_
        go_wp2
        go_roundw
        case rel =>
          have hR1 := HR.out
          have hS := HS.out
          have e1 : l - l = 0 := by omega
          have e2 : 8 - q % 8 - l = sf := by omega
          have e3 : min sf 64 = sf := by omega
          rw [e1, e2] at hR1
          refine ⟨0, p + k, by omega, by omega, rfl, ?_, (HV.out.step (by omega) hf).drew, (HO.out.setCell 1 _).drew⟩
          rw [e3, or64 U b l sf hR1.2, hR1.1]
        case measure => simp [intOf]; omega
      · have hw0 : IntKind.i64.wrap 0 = 0 := rfl
        obtain ⟨n, hn⟩ : ∃ n : Nat, n = 8 - q % 8 := ⟨_, rfl⟩
        have HR := hid (read_step s p k l q n U b HQ.out hk hl hf (by omega) (by omega) HU.out hqd hb)
        have HN := hid hn
        clear hn
        go_wp2_with fail
        refine wp_region_still_lit (by kernel_rfl) (by kernel_rfl) ?_
        iterate 20 still_step
        still_call (last_int _ _ _ (by omega) (by omega) (by omega) (by omega))
        iterate 2 still_step
        refine wpStill_nil ?_
        go_wp2
        go_roundw
        case rel =>
          have hR1 := HR.out
          have hN := HN.out
          have e2 : 8 - q % 8 - n = 0 := by omega
          have e4 : (8 - (q : Int) % 8).toNat = n := by omega
          rw [e2] at hR1
          refine ⟨l - n, q + n, by omega, by omega, by rw [show (l : Int) - (8 - (q : Int) % 8) = ((l - n : Nat) : Int) by omega], ?_, (HV.out.step (by omega) (by omega)).drew, (HO.out.setCell 1 _).drew⟩
          rw [e4, or64z U b n hR1.2, hR1.1]
        case measure => simp [intOf]; omega
    · have hl0 : l = 0 := by omega
      subst hl0
      clear hinv honly
      go_wp2
      go_ret2
      have e : k - 0 = k := rfl
      have hU := HU.out
      have hQ := HQ.out
      have hqe : q = p + k := by omega
      subst hqe
      rw [e] at hU
      rw [hU]
      exact ⟨rfl, HV.out, HO.out⟩

end Go.Proofs.YtdmnlmohfaafoadGreatDoor
