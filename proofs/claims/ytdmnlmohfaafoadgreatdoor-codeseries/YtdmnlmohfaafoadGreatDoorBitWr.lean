/- What a bits.Writer is in memory, and what its method Bits does to it. -/
import Derived.Test.YtdmnlmohfaafoadGreatDoorBitLeaf
import Derived.StillTailTactics
import Derived.BigQuiet
namespace Go.Proofs.YtdmnlmohfaafoadGreatDoor
open Go.RowKit

def bv (l : List Nat) : List Value := l.map fun n : Nat => Value.int .u8 (n : Int)

/-- A Writer in block B, whose bits are bs. -/
def WInv (B : Nat) (w : World) (bs : List Bool) : Prop :=
  ∃ v, w.cell? ⟨B, 0, none⟩ = some v ∧ w.frozen? ⟨B, 0, none⟩ = false ∧ w.cell? ⟨B, 1, none⟩ = some (.int .i64 bs.length) ∧ w.frozen? ⟨B, 1, none⟩ = false ∧
    w.ownsRow (B + 1) 5 1 v (BL.pk bs).length (bv (BL.pk bs)) ∧ B < w.heap.size

/-- Block k holds no row of bytes. -/
def Not8 (w : World) (k : Nat) : Prop := ∀ c fr, w.heap[k]? ≠ some (.cells c 5 fr)

/-- What a Writer in block B leaves as it was: all below B, and all that is no row of bytes, but B. -/
structure WFr (B : Nat) (w w' : World) : Prop where
  below : Below B w w'
  block : ∀ k, k < w.heap.size → k ≠ B → Not8 w k → w'.heap[k]? = w.heap[k]?

theorem WFr.refl (B : Nat) (w : World) : WFr B w w := ⟨Below.refl _ _, fun _ _ _ _ => rfl⟩
theorem WFr.trans {B : Nat} {a b c : World} (h : WFr B a b) (k : WFr B b c) : WFr B a c :=
  ⟨h.below.trans k.below, fun i hi hB hn => by
    have e := h.block i hi hB hn
    exact (k.block i (Nat.lt_of_lt_of_le hi h.below.size) hB (fun c fr => by rw [e]; exact hn c fr)).trans e⟩
theorem WFr.drew {B : Nat} {a w : World} (h : WFr B a w) : WFr B a w.drew := ⟨h.below.drew, h.block⟩
theorem WFr.alloc {B : Nat} {a w : World} (h : WFr B a w) (hB : B ≤ w.heap.size) (o : Obj) : WFr B a (w.alloc o) :=
  ⟨h.below.alloc hB o, fun k hk hB hn => (Below.heap_alloc w o k (Nat.lt_of_lt_of_le hk h.below.size)).trans (h.block k hk hB hn)⟩
theorem WFr.setOwn {B : Nat} {a w : World} (h : WFr B a w) (o : Nat) (u : Value) : WFr B a (w.setCell ⟨B, o, none⟩ u) :=
  ⟨h.below.setCell (Nat.le_refl B) u, fun k hk hB hn => (Below.heap_setCell w ⟨B, o, none⟩ u k hB).trans (h.block k hk hB hn)⟩
theorem WFr.setRow {B g : Nat} {a w : World} {cur : Array Value} {fr : Nat × Nat} (h : WFr B a w) (hg : w.heap[g]? = some (.cells cur 5 fr)) (hB : B ≤ g) (o : Nat) (u : Value) : WFr B a (w.setCell ⟨g, o, none⟩ u) :=
  ⟨h.below.setCell hB u, fun k hk hkB hn => by
    have e := h.block k hk hkB hn
    have hne : k ≠ g := fun he => by subst he; exact hn cur fr (e.symm.trans hg)
    exact (Below.heap_setCell w ⟨g, o, none⟩ u k hne).trans e⟩
theorem WFr.grown {B : Nat} {a w w' : World} {row : Option Nat} (h : WFr B a w) (hg : w.grownBy w' row) (hB : B ≤ w.heap.size) (hr : ∀ k, row = some k → B ≤ k ∧ ∃ cur fr, w.heap[k]? = some (.cells cur 5 fr)) : WFr B a w' :=
  ⟨h.below.grown hg hB (fun k hk => (hr k hk).1), fun k hk hkB hn => by
    have e := h.block k hk hkB hn
    refine (hg.block k (Nat.lt_of_lt_of_le hk h.below.size) ?_).trans e
    intro he
    obtain ⟨_, cur, fr, hc⟩ := hr k he.symm
    exact hn cur fr (e.symm.trans hc)⟩

theorem row_block {w : World} {base n cap g : Nat} {xs : List Value} (h : w.ownsRow base 5 1 (.slice (some ⟨g, 0, none⟩) n cap) n xs) : ∃ cur fr, w.heap[g]? = some (.cells cur 5 fr) := by
  rcases h.2 with ⟨h', _⟩ | ⟨g', cap', cur, h', _, hg, _⟩
  · simp at h'
  · simp only [Value.slice.injEq, Option.some.injEq, Addr.mk.injEq, and_true, true_and] at h'
    obtain ⟨rfl, rfl⟩ := h'
    exact ⟨cur, _, hg⟩

theorem row_block_any {w : World} {base n : Nat} {v : Value} {xs : List Value} (h : w.ownsRow base 5 1 v n xs) (k : Nat) (hk : v.ownBlock = some k) : ∃ cur fr, w.heap[k]? = some (.cells cur 5 fr) := by
  rcases h.2 with ⟨h', _⟩ | ⟨g', cap', cur, h', _, hg, _⟩
  · subst h'; simp [Value.ownBlock] at hk
  · subst h'
    simp only [Value.ownBlock, Option.some.injEq] at hk
    subst hk
    exact ⟨cur, _, hg⟩

theorem Tryz.info5 : (Tryz.prog.info? 5).map (fun i => (i.zero, i.size, i.bytes)) = some (some (.int .u8 0), 1, 1) := by kernel_rfl

theorem or_num (b U n s : Nat) (hb : b < 256) (hns : n + s ≤ 8) :
    bits BinOp.or IntKind.u8 (b : Int) (IntKind.u64.wrap ((U : Int) % 2 ^ n * 2 ^ min s 64) % 256) = ((b ||| (U % 2 ^ n * 2 ^ s) : Nat) : Int) := by
  have hm : min s 64 = s := by omega
  have h1 : U % 2 ^ n < 2 ^ n := Nat.mod_lt _ (Nat.two_pow_pos n)
  have h2 : U % 2 ^ n * 2 ^ s < 2 ^ (n + s) := by rw [Nat.pow_add]; exact Nat.mul_lt_mul_of_pos_right h1 (Nat.two_pow_pos s)
  have h3 : 2 ^ (n + s) ≤ 2 ^ 8 := Nat.pow_le_pow_right (by omega) hns
  have e : ((U : Int) % 2 ^ n * 2 ^ s) = ((U % 2 ^ n * 2 ^ s : Nat) : Int) := by simp
  rw [hm, e, IntKind.wrap_u64]
  generalize U % 2 ^ n * 2 ^ s = z at *
  have e2 : ((z : Int) % 18446744073709551616 % 256) = (z : Int) := by omega
  rw [e2, u8_or_nat b z hb (by omega)]

theorem or_num0 (b U n : Nat) (hb : b < 256) (hn : n ≤ 8) :
    bits BinOp.or IntKind.u8 (b : Int) (IntKind.u64.wrap ((U : Int) % 2 ^ n) % 256) = ((b ||| (U % 2 ^ n * 2 ^ 0) : Nat) : Int) := by
  have := or_num b U n 0 hb (by omega)
  simpa using this

theorem or_num_z (U n s : Nat) (hns : n + s ≤ 8) :
    bits BinOp.or IntKind.u8 0 (IntKind.u64.wrap ((U : Int) % 2 ^ n * 2 ^ min s 64) % 256) = ((0 ||| (U % 2 ^ n * 2 ^ s) : Nat) : Int) := or_num 0 U n s (by omega) hns

theorem or_num0_z (U n : Nat) (hn : n ≤ 8) :
    bits BinOp.or IntKind.u8 0 (IntKind.u64.wrap ((U : Int) % 2 ^ n) % 256) = ((0 ||| (U % 2 ^ n * 2 ^ 0) : Nat) : Int) := or_num0 0 U n (by omega) hn

theorem bits_join (bs c : List Bool) (u x y n K : Nat) (hc : c = bs ++ BL.bitsOf (u / 2 ^ x) (K - x)) (hx : x = n + y) (hK : x ≤ K) :
    c ++ BL.bitsOf (u / 2 ^ y) n = bs ++ BL.bitsOf (u / 2 ^ y) (K - y) := by
  rw [hc, List.append_assoc]
  congr 1
  have e : K - y = (K - x) + n := by omega
  rw [e, BL.bitsOf_add, Nat.div_div_eq_div_mul, ← Nat.pow_add]
  congr 3
  rw [hx, Nat.add_comm]

theorem div_range (u : Nat) (hu : u < 18446744073709551616) (t : Nat) : 0 ≤ (u : Int) / 2 ^ t ∧ (u : Int) / 2 ^ t < 18446744073709551616 := by
  have e : (u : Int) / 2 ^ t = ((u / 2 ^ t : Nat) : Int) := by simp
  have h := Nat.div_le_self u (2 ^ t)
  rw [e]
  generalize u / 2 ^ t = q at *
  omega

theorem bv_set (L : List Nat) (m y : Nat) : (bv L).set m (.int .u8 (y : Int)) = bv (L.set m y) := by
  unfold bv; rw [List.map_set]

theorem bv_length (L : List Nat) : (bv L).length = L.length := by simp [bv]

/-- What a round leaves: a byte turned, the count raised. -/
theorem wr_store {B g m cap y : Nat} {z : Int} {wr w0 : World} {L : List Nat} {c' : List Bool} {v1 : Value}
    (hv0 : wr.cell? ⟨B, 0, none⟩ = some (.slice (some ⟨g, 0, none⟩) (m + 1) cap)) (hf0 : wr.frozen? ⟨B, 0, none⟩ = false)
    (hv1 : wr.cell? ⟨B, 1, none⟩ = some v1) (hf1 : wr.frozen? ⟨B, 1, none⟩ = false)
    (hown : wr.ownsRow (B + 1) 5 1 (.slice (some ⟨g, 0, none⟩) (m + 1) cap) (m + 1) (bv L)) (hB : B < wr.heap.size)
    (hL : BL.pk c' = L.set m y) (hz : z = c'.length) (hbel : WFr B w0 wr) :
    WInv B ((wr.setCell ⟨g, m, none⟩ (.int .u8 (y : Int))).setCell ⟨B, 1, none⟩ (.int .i64 z)).drew c' ∧
      WFr B w0 ((wr.setCell ⟨g, m, none⟩ (.int .u8 (y : Int))).setCell ⟨B, 1, none⟩ (.int .i64 z)).drew := by
  have hgB : B + 1 ≤ g := (hown.lt g rfl).1
  have hlen : L.length = m + 1 := by have := hown.1; rw [bv_length] at this; omega
  have hs := (hown.stored m (.int .u8 (y : Int))).1
  rw [bv_set, ← hL] at hs
  have hn : (BL.pk c').length = m + 1 := by rw [hL, List.length_set, hlen]
  have h0 : (wr.setCell ⟨g, m, none⟩ (.int .u8 (y : Int))).cell? ⟨B, 0, none⟩ = some (.slice (some ⟨g, 0, none⟩) (m + 1) cap) :=
    (World.cell?_of_block (Below.heap_setCell wr ⟨g, m, none⟩ _ B (by show B ≠ g; omega))).trans hv0
  have h1 : (wr.setCell ⟨g, m, none⟩ (.int .u8 (y : Int))).cell? ⟨B, 1, none⟩ = some v1 :=
    (World.cell?_of_block (Below.heap_setCell wr ⟨g, m, none⟩ _ B (by show B ≠ g; omega))).trans hv1
  refine ⟨⟨.slice (some ⟨g, 0, none⟩) (m + 1) cap, ?_, ?_, ?_, ?_, ?_, ?_⟩, ?_⟩
  · show World.cell? (World.setCell _ _ _) _ = _
    rw [World.cell?_setCell_other _ _ _ _ (by simp)]; exact h0
  · show World.frozen? (World.setCell _ _ _) _ = _
    rw [World.frozen?_setCell, World.frozen?_setCell]; exact hf0
  · show World.cell? (World.setCell _ _ _) _ = _
    rw [World.cell?_setCell_same _ _ _ h1, hz]
  · show World.frozen? (World.setCell _ _ _) _ = _
    rw [World.frozen?_setCell, World.frozen?_setCell]; exact hf1
  · rw [hn]
    exact ownsRow_setCell_below hs (a := ⟨B, 1, none⟩) (by show B < B + 1; omega) _
  · simpa using hB
  · obtain ⟨cur, fr, hgb⟩ := row_block hown
    exact ((hbel.setRow hgb (by omega) m _).setOwn 1 _).drew

theorem pk_byte_lt (c : List Bool) (m b : Nat) (h : (BL.pk c)[m]? = some b) : b < 256 := BL.pk_lt c b (List.mem_of_getElem? h)

theorem one_news (w : World) (a : Value) (T : TypeId) : ∀ j u, [a][j]? = some u → (w.alloc (.cells #[a] T)).cell? ((⟨w.heap.size, 0, none⟩ : Addr).add j) = some u := by
  intro j u hj
  match j, hj with
  | 0, hj => simp at hj; subst hj; simp [Addr.add]

theorem one_u8 (n : Int) : ∀ u ∈ [Value.int .u8 n], u.oneCell' = true := by intro u hu; simp at hu; subst hu; rfl

/-- What 'w.bytes = append(w.bytes, 0)' leaves. -/
theorem wr_push {B : Nat} {wr w0 w1 : World} {L : List Nat} {v v' z1 : Value}
    (hv0 : wr.cell? ⟨B, 0, none⟩ = some v) (hf0 : wr.frozen? ⟨B, 0, none⟩ = false) (hv1 : wr.cell? ⟨B, 1, none⟩ = some z1) (hf1 : wr.frozen? ⟨B, 1, none⟩ = false)
    (hown : wr.ownsRow (B + 1) 5 1 v L.length (bv L)) (hB : B < wr.heap.size) (hbel : WFr B w0 wr)
    (hown' : w1.ownsRow (B + 1) 5 1 v' (L.length + 1) (bv L ++ [.int .u8 0])) (hgrow : (wr.alloc (.cells #[.int .u8 0] 5)).grownBy w1 v.ownBlock) :
    ∃ g cap, v' = .slice (some ⟨g, 0, none⟩) (L.length + 1) cap ∧ B + 1 ≤ g ∧ w1.cell? ⟨B, 0, none⟩ = some v ∧ w1.frozen? ⟨B, 0, none⟩ = false ∧
      ∀ w2, w2 = w1.setCell ⟨B, 0, none⟩ (.slice (some ⟨g, 0, none⟩) (L.length + 1) cap) →
        w2.cell? ⟨B, 0, none⟩ = some (.slice (some ⟨g, 0, none⟩) (L.length + 1) cap) ∧ w2.frozen? ⟨B, 0, none⟩ = false ∧ w2.cell? ⟨B, 1, none⟩ = some z1 ∧ w2.frozen? ⟨B, 1, none⟩ = false ∧
        w2.ownsRow (B + 1) 5 1 (.slice (some ⟨g, 0, none⟩) (L.length + 1) cap) (L.length + 1) (bv (L ++ [0])) ∧ B < w2.heap.size ∧ WFr B w0 w2 := by
  have hex : ∃ g cap, v' = .slice (some ⟨g, 0, none⟩) (L.length + 1) cap := by
    obtain ⟨_, hcase⟩ := hown'
    rcases hcase with ⟨_, h0⟩ | ⟨g', cap', cur', h, _⟩
    · omega
    · exact ⟨g', cap', h⟩
  obtain ⟨g, cap, rfl⟩ := hex
  have hgB : B + 1 ≤ g := (hown'.lt g rfl).1
  have hne : some B ≠ v.ownBlock := fun h => by have := hown.lt B h.symm; omega
  have hblk : w1.heap[B]? = wr.heap[B]? := (hgrow.block B (by simp; omega) hne).trans (Below.heap_alloc wr _ B hB)
  have c0 : w1.cell? ⟨B, 0, none⟩ = some v := (World.cell?_of_block (w := wr) hblk).trans hv0
  have c1 : w1.cell? ⟨B, 1, none⟩ = some z1 := (World.cell?_of_block (w := wr) hblk).trans hv1
  have f0 : w1.frozen? ⟨B, 0, none⟩ = false := (World.frozen?_of_block (w := wr) hblk).trans hf0
  have f1 : w1.frozen? ⟨B, 1, none⟩ = false := (World.frozen?_of_block (w := wr) hblk).trans hf1
  have hbel1 : WFr B w0 w1 := (hbel.alloc (by omega) (.cells #[.int .u8 0] 5)).grown hgrow (by simp; omega) (fun k hk => by
    have hk1 := hown.lt k hk
    obtain ⟨cur, fr, hc⟩ := row_block_any hown k hk
    exact ⟨by omega, cur, fr, (Below.heap_alloc wr _ k hk1.2).trans hc⟩)
  have hB1 : B < w1.heap.size := by have := hgrow.size; simp at this; omega
  refine ⟨g, cap, rfl, hgB, c0, f0, ?_⟩
  rintro w2 rfl
  refine ⟨World.cell?_setCell_same _ _ _ c0, (World.frozen?_setCell _ _ _ _).trans f0, (World.cell?_setCell_other _ _ _ _ (by simp)).trans c1, (World.frozen?_setCell _ _ _ _).trans f1, ?_, by simpa using hB1, hbel1.setOwn 0 _⟩
  have := ownsRow_setCell_below hown' (a := ⟨B, 0, none⟩) (by show B < B + 1; omega) (.slice (some ⟨g, 0, none⟩) (L.length + 1) cap)
  simpa [bv] using this

set_option maxRecDepth 100000 in
set_option maxHeartbeats 1600000 in
/-- Bits: the last k bits of u come behind those that are there (k at most 64). -/
theorem wbits_any (B u : Nat) (k : Int) (bs : List Bool) (w : World) (hWI : WInv B w bs) (hu : u < 18446744073709551616) (hb : bs.length ≤ 1000000000) (hk1 : -9223372036854775808 ≤ k) (hk2 : k ≤ 9223372036854775807) :
    Calls Tryz.prog 103 #[.pointer (some ⟨B, 0, none⟩), .int .u64 u, .int .i64 k] w fun e w' =>
      e = .returned (.tuple #[]) ∧ WInv B w' (bs ++ BL.bitsOf u (min k 64).toNat) ∧ WFr B w w' := by
  obtain ⟨i, hi, hz0, hz1, hz2⟩ := info_parts Tryz.info5
  go_enter Tryz.func103, Tryz.ntmps103
  go_wp2
  all_goals
    go_loopw [6] (fun t wr => ∃ x : Int, x ≤ 64 ∧ t = .int .i64 x ∧ x.toNat ≤ (min k 64).toNat ∧ WInv B wr (bs ++ BL.bitsOf (u / 2 ^ x.toNat) ((min k 64).toNat - x.toNat)) ∧ WFr B w wr) (fun t _ => (intOf t).toNat)
    case atStart =>
      refine ⟨_, ?_, rfl, ?_, ?_, WFr.refl _ _⟩
      · omega
      · omega
      · first
          | (have e : (min k 64).toNat - k.toNat = 0 := by omega
             rw [e]; simpa [BL.bitsOf] using hWI)
          | (have e : (min k 64).toNat - (64 : Int).toNat = 0 := by omega
             rw [e]; simpa [BL.bitsOf] using hWI)
    case round =>
      obtain ⟨x, hx, rfl, hxK, hinv, hbel⟩ := hrel
      by_cases hpos : 0 < x
      · obtain ⟨c, hc⟩ : ∃ c : List Bool, c = bs ++ BL.bitsOf (u / 2 ^ x.toNat) ((min k 64).toNat - x.toNat) := ⟨_, rfl⟩
        rw [← hc] at hinv
        have hcl : c.length ≤ 1000000064 := by rw [hc, List.length_append, BL.bitsOf_length]; omega
        have HC : Hid (c = bs ++ BL.bitsOf (u / 2 ^ x.toNat) ((min k 64).toNat - x.toNat)) := hc
        clear hc hWI
        obtain ⟨v, hv0, hf0, hv1, hf1, hown, hB⟩ := hinv
        have hpl := BL.pk_length c
        have hin : IntKind.i64.wrap (8 - (c.length : Int) % 8) = 8 - (c.length : Int) % 8 := by rw [IntKind.wrap_i64]; omega
        by_cases hz : c.length % 8 = 0
        · have hzb : (((c.length : Int) % 8) == 0) = true := by rw [beq_iff_eq]; omega
          have hzi : (c.length : Int) % 8 ≤ 0 := by omega
          have HZ : Hid (c.length % 8 = 0) := hz
          have hpl2 : (BL.pk c).length ≤ 1000000064 := by omega
          clear hz hpl
          by_cases hm : x < 8
          · go_wp2_with (at_builtin; refine wpList_append_own _ rfl (.tmp 26) (.tmp 27) 47 rfl (B + 1) 5 i (.int .u8 0) 1 1 Tryz.underlying47 hi hz0 hz1 hz2 rfl (by decide) v (BL.pk c).length _ rfl (hown.alloc _) ⟨wr.heap.size, 0, none⟩ 1 1 [.int .u8 0] rfl rfl (one_news wr _ _) (one_u8 0) (by unfold maxLen; omega) (by omega) (by simp; omega) ?_)
            intro v' w1 hown' hgrow _
            obtain ⟨g, cap, rfl, hg, c0, f0, hw2⟩ := wr_push hv0 hf0 hv1 hf1 hown hB hbel hown' hgrow
            clear hown' hgrow hown hv0 hf0 hv1 hf1 hB hbel
            have HW : Hid _ := hw2
            clear hw2
            go_wp2_with fail
            generalize hw2e : w1.setCell ⟨B, 0, none⟩ (.slice (some ⟨g, 0, none⟩) ((BL.pk c).length + 1) cap) = w2
            obtain ⟨hv0, hf0, hv1, hf1, hown, hB, hbel⟩ := HW.out w2 hw2e.symm
            clear HW hw2e c0 f0
            generalize hpm : (BL.pk c).length = m at *
            have hcell : w2.cell? ⟨g, m, none⟩ = some (.int .u8 0) := by
              rw [hown.cellAt m (by omega)]; simp [bv, ← hpm]
            have hfrz := hown.frozenAt m
            have hne : ¬ B = g := by omega
            have hne2 : ¬ g = B := by omega
            have hidx : 0 ≤ (m : Int) ∧ (m : Int) < (m : Int) + 1 := ⟨by omega, by omega⟩
            have hwrap2 : IntKind.i64.wrap ((m : Int) + 1 - 1) = m := by rw [IntKind.wrap_i64]; omega
            have hwrap : IntKind.i64.wrap (m : Int) = m := by rw [IntKind.wrap_i64]; omega
            obtain ⟨s, hs⟩ : ∃ s : Nat, 8 - (c.length : Int) % 8 - x = s := ⟨(8 - (c.length : Int) % 8 - x).toNat, by omega⟩
            have hsh : IntKind.i64.wrap (8 - (c.length : Int) % 8 - x) = s := by rw [IntKind.wrap_i64]; omega
            have hz' := HZ.out
            have R := @wr_store B g m cap (0 ||| (u % 2 ^ x.toNat * 2 ^ s)) (↑c.length + x) w2 w (BL.pk c ++ [0]) (c ++ BL.bitsOf u x.toNat) _ hv0 hf0 hv1 hf1 hown hB
              (by rw [BL.pk_step0 c u x.toNat (by omega) (by omega) hz', hpm]
                  have e2 : 8 - c.length % 8 - x.toNat = s := by omega
                  rw [e2])
              (by rw [List.length_append, BL.bitsOf_length]; omega) hbel
            rw [← or_num_z u x.toNat s (by omega)] at R
            have HR : Hid _ := R
            have HJ : Hid (c ++ BL.bitsOf (u / 2 ^ 0) x.toNat = bs ++ BL.bitsOf (u / 2 ^ 0) ((min k 64).toNat - 0)) := bits_join bs c u x.toNat 0 x.toNat _ HC.out (by omega) hxK
            clear hs R hown hz' hpm
            refine wp_region_still_tail 25 (by kernel_rfl) (by kernel_rfl) ?_
            simp only [List.take_succ_cons, List.take_zero, List.drop_succ_cons, List.drop_zero]
            iterate 16 still_step
            still_call (last_int _ _ _ (by omega) (by omega) (by omega) (by omega))
            iterate 8 still_step
            refine wpStill_nil ?_
            go_wp2
            go_roundw
            case rel =>
              refine ⟨0, by omega, rfl, by omega, ?_, HR.out.2⟩
              have := HR.out.1
              rw [show ((0 : Int).toNat) = 0 from rfl, ← HJ.out, Nat.pow_zero, Nat.div_one]
              exact this
            case measure => simp [intOf]; omega
          · go_wp2_with (at_builtin; refine wpList_append_own _ rfl (.tmp 26) (.tmp 27) 47 rfl (B + 1) 5 i (.int .u8 0) 1 1 Tryz.underlying47 hi hz0 hz1 hz2 rfl (by decide) v (BL.pk c).length _ rfl (hown.alloc _) ⟨wr.heap.size, 0, none⟩ 1 1 [.int .u8 0] rfl rfl (one_news wr _ _) (one_u8 0) (by unfold maxLen; omega) (by omega) (by simp; omega) ?_)
            intro v' w1 hown' hgrow _
            obtain ⟨g, cap, rfl, hg, c0, f0, hw2⟩ := wr_push hv0 hf0 hv1 hf1 hown hB hbel hown' hgrow
            clear hown' hgrow hown hv0 hf0 hv1 hf1 hB hbel
            have HW : Hid _ := hw2
            clear hw2
            go_wp2_with fail
            generalize hw2e : w1.setCell ⟨B, 0, none⟩ (.slice (some ⟨g, 0, none⟩) ((BL.pk c).length + 1) cap) = w2
            obtain ⟨hv0, hf0, hv1, hf1, hown, hB, hbel⟩ := HW.out w2 hw2e.symm
            clear HW hw2e c0 f0
            generalize hpm : (BL.pk c).length = m at *
            have hcell : w2.cell? ⟨g, m, none⟩ = some (.int .u8 0) := by
              rw [hown.cellAt m (by omega)]; simp [bv, ← hpm]
            have hfrz := hown.frozenAt m
            have hne : ¬ B = g := by omega
            have hne2 : ¬ g = B := by omega
            have hidx : 0 ≤ (m : Int) ∧ (m : Int) < (m : Int) + 1 := ⟨by omega, by omega⟩
            have hwrap2 : IntKind.i64.wrap ((m : Int) + 1 - 1) = m := by rw [IntKind.wrap_i64]; omega
            have hwrap : IntKind.i64.wrap (m : Int) = m := by rw [IntKind.wrap_i64]; omega
            have hw0 : IntKind.i64.wrap 0 = 0 := rfl
            have hz' := HZ.out
            obtain ⟨n, hn⟩ : ∃ n : Nat, n = 8 - c.length % 8 := ⟨_, rfl⟩
            obtain ⟨y, hy⟩ : ∃ y : Nat, x = n + y := ⟨(x - n).toNat, by omega⟩
            have HN : Hid (n = 8 - c.length % 8) := hn
            have R := @wr_store B g m cap (0 ||| (u / 2 ^ y % 2 ^ n * 2 ^ 0)) (↑c.length + (8 - (c.length : Int) % 8)) w2 w (BL.pk c ++ [0]) (c ++ BL.bitsOf (u / 2 ^ y) n) _ hv0 hf0 hv1 hf1 hown hB
              (by rw [BL.pk_step0 c (u / 2 ^ y) n (by omega) (by omega) hz', hpm]
                  have e2 : 8 - c.length % 8 - n = 0 := by omega
                  rw [e2])
              (by rw [List.length_append, BL.bitsOf_length]; omega) hbel
            rw [← or_num0_z (u / 2 ^ y) n (by omega), show ((u / 2 ^ y : Nat) : Int) = (u : Int) / 2 ^ y by simp] at R
            have HR : Hid _ := R
            have HJ : Hid (c ++ BL.bitsOf (u / 2 ^ y) n = bs ++ BL.bitsOf (u / 2 ^ y) ((min k 64).toNat - y)) := bits_join bs c u x.toNat y n _ HC.out (by omega) hxK
            have HY : Hid (x = n + y) := hy
            clear R hown hn hy hz' hpm
            refine wp_region_still_tail 25 (by kernel_rfl) (by kernel_rfl) ?_
            simp only [List.take_succ_cons, List.take_zero, List.drop_succ_cons, List.drop_zero]
            iterate 16 still_step
            still_call (last_int _ _ _ (div_range u hu _).1 (div_range u hu _).2 (by omega) (by omega))
            iterate 8 still_step
            refine wpStill_nil ?_
            go_wp2
            go_roundw
            case rel =>
              have hY := HY.out
              have hN := HN.out
              have hZ := HZ.out
              have ey : (x - (8 - (c.length : Int) % 8)).toNat = y := by omega
              refine ⟨x - (8 - (c.length : Int) % 8), by omega, rfl, by omega, ?_, ?_⟩
              · rw [ey, ← hN, ← HJ.out]; exact HR.out.1
              · rw [ey, ← hN]; exact HR.out.2
            case measure => simp [intOf]; omega
        · obtain ⟨hlen, hcase⟩ := hown
          have hown : wr.ownsRow (B + 1) 5 1 v (BL.pk c).length (bv (BL.pk c)) := ⟨hlen, hcase⟩
          rcases hcase with ⟨_, h0⟩ | ⟨g, cap, cur, rfl, hg, hh, hn, hcap, hsz, htake⟩
          · omega
          have hzb : (((c.length : Int) % 8) == 0) = false := by rw [beq_eq_false_iff_ne]; omega
          obtain ⟨m, hpm⟩ : ∃ m, (BL.pk c).length = m + 1 := ⟨(BL.pk c).length - 1, by omega⟩
          have hml : m ≤ 1000000064 := by omega
          have HP : Hid ((BL.pk c).length = m + 1) := hpm
          rw [hpm] at hv0 hown
          obtain ⟨b, hbm⟩ : ∃ b : Nat, (BL.pk c)[m]? = some b := ⟨(BL.pk c)[m]'(by omega), by simp⟩
          have hb256 := pk_byte_lt c m b hbm
          have HM : Hid ((BL.pk c)[m]? = some b) := hbm
          have hcell : wr.cell? ⟨g, m, none⟩ = some (.int .u8 b) := by
            rw [hown.cellAt m (by omega)]; simp [bv, hbm]
          have hfrz := hown.frozenAt m
          have hne : ¬ B = g := by omega
          have hne2 : ¬ g = B := by omega
          have hidx : 0 ≤ (m : Int) ∧ (m : Int) < (m : Int) + 1 := ⟨by omega, by omega⟩
          have hwrap2 : IntKind.i64.wrap ((m : Int) + 1 - 1) = m := by rw [IntKind.wrap_i64]; omega
          have hwrap : IntKind.i64.wrap (m : Int) = m := by rw [IntKind.wrap_i64]; omega
          have hz' := hz
          clear hpm hbm hpl hlen hh hn hcap hsz htake hz
          by_cases hm : x < 8 - (c.length : Int) % 8
          · obtain ⟨s, hs⟩ : ∃ s : Nat, 8 - (c.length : Int) % 8 - x = s := ⟨(8 - (c.length : Int) % 8 - x).toNat, by omega⟩
            have hsh : IntKind.i64.wrap (8 - (c.length : Int) % 8 - x) = s := by rw [IntKind.wrap_i64]; omega
            have HS : Hid (8 - (c.length : Int) % 8 - x = s) := hs
            have R := @wr_store B g m cap (b ||| (u % 2 ^ x.toNat * 2 ^ s)) (↑c.length + x) wr w (BL.pk c) (c ++ BL.bitsOf u x.toNat) _ hv0 hf0 hv1 hf1 hown hB
              (by rw [BL.pk_step c u x.toNat (by omega) (by omega) hz']
                  have e1 : (BL.pk c).length - 1 = m := by rw [HP.out]; omega
                  have e2 : 8 - c.length % 8 - x.toNat = s := by omega
                  rw [e1, e2, HM.out]; rfl)
              (by rw [List.length_append, BL.bitsOf_length]; omega) hbel
            rw [← or_num b u x.toNat s hb256 (by omega)] at R
            have HR : Hid _ := R
            have HJ : Hid (c ++ BL.bitsOf (u / 2 ^ 0) x.toNat = bs ++ BL.bitsOf (u / 2 ^ 0) ((min k 64).toNat - 0)) := bits_join bs c u x.toNat 0 x.toNat _ HC.out (by omega) hxK
            clear hs R hown
            go_wp2_with fail
            refine wp_region_still_tail 25 (by kernel_rfl) (by kernel_rfl) ?_
            simp only [List.take_succ_cons, List.take_zero, List.drop_succ_cons, List.drop_zero]
            iterate 16 still_step
            still_call (last_int _ _ _ (by omega) (by omega) (by omega) (by omega))
            iterate 8 still_step
            refine wpStill_nil ?_
            go_wp2
            go_roundw
            case rel =>
              refine ⟨0, by omega, rfl, by omega, ?_, HR.out.2⟩
              have := HR.out.1
              rw [show ((0 : Int).toNat) = 0 from rfl, ← HJ.out, Nat.pow_zero, Nat.div_one]
              exact this
            case measure => simp [intOf]; omega
          · have hw0 : IntKind.i64.wrap 0 = 0 := rfl
            obtain ⟨n, hn⟩ : ∃ n : Nat, n = 8 - c.length % 8 := ⟨_, rfl⟩
            obtain ⟨y, hy⟩ : ∃ y : Nat, x = n + y := ⟨(x - n).toNat, by omega⟩
            have HN : Hid (n = 8 - c.length % 8) := hn
            have R := @wr_store B g m cap (b ||| (u / 2 ^ y % 2 ^ n * 2 ^ 0)) (↑c.length + (8 - (c.length : Int) % 8)) wr w (BL.pk c) (c ++ BL.bitsOf (u / 2 ^ y) n) _ hv0 hf0 hv1 hf1 hown hB
              (by rw [BL.pk_step c (u / 2 ^ y) n (by omega) (by omega) hz']
                  have e1 : (BL.pk c).length - 1 = m := by rw [HP.out]; omega
                  have e2 : 8 - c.length % 8 - n = 0 := by omega
                  rw [e1, e2, HM.out]; rfl)
              (by rw [List.length_append, BL.bitsOf_length]; omega) hbel
            rw [← or_num0 b (u / 2 ^ y) n hb256 (by omega), show ((u / 2 ^ y : Nat) : Int) = (u : Int) / 2 ^ y by simp] at R
            have HR : Hid _ := R
            have HJ : Hid (c ++ BL.bitsOf (u / 2 ^ y) n = bs ++ BL.bitsOf (u / 2 ^ y) ((min k 64).toNat - y)) := bits_join bs c u x.toNat y n _ HC.out (by omega) hxK
            have HY : Hid (x = n + y) := hy
            clear R hown hn hy
            go_wp2_with fail
            refine wp_region_still_tail 25 (by kernel_rfl) (by kernel_rfl) ?_
            simp only [List.take_succ_cons, List.take_zero, List.drop_succ_cons, List.drop_zero]
            iterate 16 still_step
            still_call (last_int _ _ _ (div_range u hu _).1 (div_range u hu _).2 (by omega) (by omega))
            iterate 8 still_step
            refine wpStill_nil ?_
            go_wp2
            go_roundw
            case rel =>
              have hY := HY.out
              have hN := HN.out
              have ey : (x - (8 - (c.length : Int) % 8)).toNat = y := by omega
              refine ⟨x - (8 - (c.length : Int) % 8), by omega, rfl, by omega, ?_, ?_⟩
              · rw [ey, ← hN, ← HJ.out]; exact HR.out.1
              · rw [ey, ← hN]; exact HR.out.2
            case measure => simp [intOf]; omega
      · go_wp2
        go_end0
        have e0 : x.toNat = 0 := by omega
        rw [e0] at hinv
        exact ⟨rfl, by simpa using hinv, hbel⟩

end Go.Proofs.YtdmnlmohfaafoadGreatDoor
