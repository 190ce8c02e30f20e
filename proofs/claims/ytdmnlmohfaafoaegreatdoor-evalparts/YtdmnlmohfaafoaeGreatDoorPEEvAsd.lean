/- The laws' fact asked: a sum, and one less. -/
import Derived.Test.YtdmnlmohfaafoaeGreatDoorPEEvMov
import Derived.Test.YtdmnlmohfaafoaeGreatDoorPEHrReg
namespace Go.Proofs.YtdmnlmohfaafoaeGreatDoor
open Go.RowKit Go.Shelf

/-- A region whose operations only make blocks: each tells what stays told. -/
theorem TL.wp_grow {P : Program} {l : List Oper} {id : Nat} {a0 : Act} {w : World} {Q : Exit → Act → World → Prop} (ds : List Tmp) (R : Nat → World → Value → Prop) (hm : P.follows .mixedOrders = true) (hok : (TL.okB l.toArray && l.all fun o => o.guard.isNone) = true) (hds : TL.dstsB l.toArray ds = true) (n : Nat) (hn : a0.tmps.size = n) (hsz : ds.all (fun d => decide (d < n)) = true)
    (hst : ∀ (i : Nat) (W W' : World) (v : Value), Below W.heap.size W W' → R i W v → R i W' v)
    (hstep : ∀ i o, l[i]? = some o → ∀ a W, TL.Like l.toArray a0 a → Below w.heap.size w W → (∀ j, TL.waits o j = true → R j W (TL.valAt l.toArray a j)) → TL.Does P o a W fun v W' => Below W.heap.size W W' ∧ R i W' (TL.seen o v))
    (hend : ∀ f W, Below w.heap.size w W → (∀ i, i < l.length → R i W (TL.valF l.toArray f i)) → Q .normal (TL.puts f ds a0) W) : (Code.region id l.toArray true).wp P Q a0 w := by
  refine TL.wp_told ds (fun _ W => Below w.heap.size w W) (fun _ i W v => R i W v) hm hok hds n hn hsz (Below.refl _ w).drew ?_ ?_
  · intro i o hi L a W hL hbeh hcl hlike hC hdep
    have h := hstep i o hi a W hlike hC (fun j hj => (hdep j hj).2)
    rcases h with ⟨v, w', e, h⟩ | ⟨w', e, h⟩ | ⟨f, args, w1, e, h⟩
    · exact .inl ⟨v, w', e, bel2 hC h.1, h.2, fun j _ _ ht => hst j _ _ _ h.1 ht⟩
    · exact .inr (.inl ⟨w', e, bel2 hC h.1, h.2, fun j _ _ ht => hst j _ _ _ h.1 ht⟩)
    · exact .inr (.inr ⟨f, args, w1, e, h.mono fun e w' ⟨v, he, h1, h2⟩ => ⟨v, he, bel2 hC h1, h2, fun j _ _ ht => hst j _ _ _ h1 ht⟩⟩)
  · intro L f W hL hC hT
    exact hend f W hC hT

abbrev nN : ByteArray := ⟨#[110]⟩

theorem kone_any (v : ByteArray) (t x : Int) (w : World) :
    Calls Tryz.prog 46 #[.string v, .int .i64 t, .int .i64 x] w fun e w' => ∃ B, e = .returned (.slice (some ⟨B, 0, none⟩) 1 1) ∧ ∃ lo so, w'.heap[B]? = some (.cells #[.slice lo 1 1, .slice so 1 1] 61) ∧ LRow w' lo [(nN, v)] ∧ SRow w' so [(t, x)] ∧ Below w.heap.size w w' := by
  go_enter Tryz.func46, Tryz.ntmps46
  go_wp2_with fail
  go_ret
  obtain ⟨h1, h2, h3⟩ := three_new w (.cells #[.string nN, .string v] 105) (.cells #[.int .i64 t, .int .i64 x] 78) (.cells #[.slice (some ⟨w.heap.size, 0, none⟩) 1 1, .slice (some ⟨w.heap.size + 1, 0, none⟩) 1 1] 61)
  refine ⟨w.heap.size + 1 + 1, rfl, _, _, h3, fun k hk => ?_, fun k hk => ?_, (((Below.refl _ w).alloc (Nat.le_refl _) _).alloc (by simp) _).alloc (by simp; omega) _⟩
  · have hk0 : k = 0 := by simp at hk; exact hk
    subst hk0
    exact ⟨w.heap.size, 0, rfl, zcell' _ _ _ _ h1 0 _ rfl, zcell' _ _ _ _ h1 1 _ rfl, heap_lt h1⟩
  · have hk0 : k = 0 := by simp at hk; exact hk
    subst hk0
    exact ⟨w.heap.size + 1, 0, rfl, zcell' _ _ _ _ h2 0 _ rfl, zcell' _ _ _ _ h2 1 _ rfl, heap_lt h2⟩

theorem asd_parse : ∃ r, AQ.parse [116, 111, 116, 97, 108, 40, 123, 125, 41, 32, 45, 32, 49] = .ok (.mk 14 0 [] 0 [] (.mk 8 0 [] 0 [] (.mk 2 0 [] 300 [] .none .none) .none) (.mk 1 1 [] 0 [] .none .none)) r := ⟨_, rfl⟩

theorem asd_ev : EV.ev (.mk 14 0 [] 0 [] (.mk 8 0 [] 0 [] (.mk 2 0 [] 300 [] .none .none) .none) (.mk 1 1 [] 0 [] .none .none)) 7 [([(nN, ⟨#[97]⟩)], [(5, 3)]), ([(nN, ⟨#[98]⟩)], [(6, 4)])] = some (false, [([], 6)]) := rfl

abbrev asdS : List Sr := [([(nN, ⟨#[97]⟩)], [(5, 3)]), ([(nN, ⟨#[98]⟩)], [(6, 4)])]
abbrev asdQ : AQ.Q := .mk 14 0 [] 0 [] (.mk 8 0 [] 0 [] (.mk 2 0 [] 300 [] .none .none) .none) (.mk 1 1 [] 0 [] .none .none)

theorem asd_cmp : LB.cmp [(nN, ⟨#[97]⟩)] [(nN, ⟨#[98]⟩)] = -1 := by
  have h1 : LB.cB nN nN = 0 := (LB.cB_ord.zero _ _).2 rfl
  have h2 : LB.cB (⟨#[97]⟩ : ByteArray) ⟨#[98]⟩ = -1 := by
    unfold LB.cB
    rw [if_pos]
    unfold LB.lt
    rw [Lib.toList_data, Lib.toList_data]
    rfl
  have h3 : LB.cL (nN, ⟨#[97]⟩) (nN, ⟨#[98]⟩) = -1 := by unfold LB.cL; rw [if_pos h1]; exact h2
  exact (LB.cmp_at _ _ 0 (by decide) (by decide) (fun j hj => by omega) (by rw [show LB.at' [(nN, (⟨#[97]⟩ : ByteArray))] 0 = (nN, ⟨#[97]⟩) from rfl, show LB.at' [(nN, (⟨#[98]⟩ : ByteArray))] 0 = (nN, ⟨#[98]⟩) from rfl, h3]; decide)).trans h3

theorem asd_askd : Askd asdS := by
  refine ⟨by decide, fun i hi => ?_, fun i hi => ?_, ?_⟩
  · rcases (by simp at hi; omega : i = 0 ∨ i = 1) with rfl | rfl <;> decide
  · rcases (by simp at hi; omega : i = 0 ∨ i = 1) with rfl | rfl <;> decide
  · exact List.pairwise_cons.2 ⟨fun y hy => by rw [List.mem_singleton.1 hy]; exact asd_cmp, List.pairwise_singleton _ _⟩

def SerC (W : World) (B : Nat) (v : ByteArray) (s : CL.Smp) : Prop := ∃ lo so, W.heap[B]? = some (.cells #[.slice lo 1 1, .slice so 1 1] 61) ∧ LRow W lo [(nN, v)] ∧ SRow W so [s]
theorem SerC.below {W W' : World} {B : Nat} {v : ByteArray} {s : CL.Smp} (h : SerC W B v s) (k : Below W.heap.size W W') : SerC W' B v s := by
  obtain ⟨lo, so, h1, h2, h3⟩ := h
  exact ⟨lo, so, (k.block _ (heap_lt h1)).trans h1, h2.below k, h3.below k⟩

/-- What each operation tells. -/
def asdR (va : Option Addr) (i : Nat) (W : World) (u : Value) : Prop := match i with
  | 0 => u = .pointer va
  | 1 => ∃ B, u = .slice (some ⟨B, 0, none⟩) 1 1 ∧ SerC W B ⟨#[97]⟩ (5, 3)
  | 2 => ∃ B, u = .pointer (some ⟨B, 0, none⟩) ∧ SerC W B ⟨#[97]⟩ (5, 3)
  | 3 => ∃ lo so, u = .agg #[.slice lo 1 1, .slice so 1 1] ∧ LRow W lo [(nN, ⟨#[97]⟩)] ∧ SRow W so [(5, 3)]
  | 4 => ∃ B, u = .slice (some ⟨B, 0, none⟩) 1 1 ∧ SerC W B ⟨#[98]⟩ (6, 4)
  | 5 => ∃ B, u = .pointer (some ⟨B, 0, none⟩) ∧ SerC W B ⟨#[98]⟩ (6, 4)
  | 6 => ∃ lo so, u = .agg #[.slice lo 1 1, .slice so 1 1] ∧ LRow W lo [(nN, ⟨#[98]⟩)] ∧ SRow W so [(6, 4)]
  | 7 => ∃ B, u = .slice (some ⟨B, 0, none⟩) 2 2 ∧ SrOut W NoZ (some ⟨B, 0, none⟩) asdS
  | 8 => ∃ bx ao cap, u = .func (.func 79) #[] #[.pointer (some ⟨bx, 0, none⟩)] ∧ W.cell? ⟨bx, 0, none⟩ = some (.slice ao 2 cap) ∧ SrOut W NoZ ao asdS
  | 9 => ∃ po pc, u = .tuple #[.slice po 1 pc, .bool false, .nilIface] ∧ PRow W po [([], 6)]
  | 10 => ∃ po pc, u = .tuple #[.slice po 1 pc, .bool false, .nilIface] ∧ PRow W po [([], 6)]
  | 11 => ∃ po pc, u = .slice po 1 pc ∧ PRow W po [([], 6)]
  | 12 => u = .bool false
  | 13 => u = .nilIface
  | 14 => ∃ po pc, u = .slice po 1 pc ∧ PRow W po [([], 6)]
  | 15 => u = .bool false
  | 16 => u = .nilIface
  | _ => True

theorem asdR.st (va : Option Addr) : ∀ (i : Nat) (W W' : World) (v : Value), Below W.heap.size W W' → asdR va i W v → asdR va i W' v := by
  intro i W W' v k h
  match i, h with
  | 0, h => exact h
  | 1, ⟨B, e, h⟩ => exact ⟨B, e, h.below k⟩
  | 2, ⟨B, e, h⟩ => exact ⟨B, e, h.below k⟩
  | 3, ⟨lo, so, e, h1, h2⟩ => exact ⟨lo, so, e, h1.below k, h2.below k⟩
  | 4, ⟨B, e, h⟩ => exact ⟨B, e, h.below k⟩
  | 5, ⟨B, e, h⟩ => exact ⟨B, e, h.below k⟩
  | 6, ⟨lo, so, e, h1, h2⟩ => exact ⟨lo, so, e, h1.below k, h2.below k⟩
  | 7, ⟨B, e, h⟩ => exact ⟨B, e, h.below0 k⟩
  | 8, ⟨bx, ao, cap, e, h1, h2⟩ => exact ⟨bx, ao, cap, e, (k.cell (p := ⟨bx, 0, none⟩) (World.block_lt_of_cell? _ _ h1)).trans h1, h2.below0 k⟩
  | 9, ⟨po, pc, e, h⟩ => exact ⟨po, pc, e, h.below k⟩
  | 10, ⟨po, pc, e, h⟩ => exact ⟨po, pc, e, h.below k⟩
  | 11, ⟨po, pc, e, h⟩ => exact ⟨po, pc, e, h.below k⟩
  | 12, h => exact h
  | 13, h => exact h
  | 14, ⟨po, pc, e, h⟩ => exact ⟨po, pc, e, h.below k⟩
  | 15, h => exact h
  | 16, h => exact h
  | _ + 17, _ => trivial

theorem ser_ix0 (B : Nat) (w : World) : (Instr.indexAt 22 (.slice (some ⟨B, 0, none⟩) 1 1) (.int .i64 0)).run Tryz.prog w = .ok (.pointer (some ⟨B, 0, none⟩)) w := by go_simp
theorem ser_ld (B : Nat) (lo so : Option Addr) (w : World) (h : w.heap[B]? = some (.cells #[.slice lo 1 1, .slice so 1 1] 61)) : (Instr.loadAt 61 (.pointer (some ⟨B, 0, none⟩))).run Tryz.prog w = .ok (.agg #[.slice lo 1 1, .slice so 1 1]) w := by
  have h0 : w.cell? ⟨B, 0, none⟩ = some (.slice lo 1 1) := zcell' _ _ _ _ h 0 _ rfl
  have h1 : w.cell? ⟨B, 0 + 1, none⟩ = some (.slice so 1 1) := zcell' _ _ _ _ h 1 _ rfl
  have hs : (Tryz.prog.info? 61).map (·.size) = some 2 := by kernel_rfl
  go_simp
theorem ser_bs2 (lo so lo2 so2 : Option Addr) (w : World) : (Instr.buildSlice 22 2 #[(0, .agg #[.slice lo 1 1, .slice so 1 1]), (1, .agg #[.slice lo2 1 1, .slice so2 1 1])]).run Tryz.prog w = .ok (.slice (some ⟨w.heap.size, 0, none⟩) 2 2) (w.alloc (.cells #[.slice lo 1 1, .slice so 1 1, .slice lo2 1 1, .slice so2 1 1] 61)) := by go_simp

set_option maxRecDepth 100000 in
set_option maxHeartbeats 3200000 in
theorem asked_is (hE : EvalIs) : AskedIs := by
  intro W hG
  have HE := hid hE
  have HP := hid (parse_any ⟨#[116, 111, 116, 97, 108, 40, 123, 125, 41, 32, 45, 32, 49]⟩ W hG (by decide))
  obtain ⟨r0, hpr⟩ := asd_parse
  have hpr' : AQ.parse (⟨#[116, 111, 116, 97, 108, 40, 123, 125, 41, 32, 45, 32, 49]⟩ : ByteArray).data.toList = .ok asdQ r0 := hpr
  obtain ⟨hOk, hTk, _⟩ := AQ.parse_back hpr (by decide)
  have HOk := hid hOk
  have HPt := hid (Nat.le_trans (AQ.parts_le hOk) hTk)
  rw [hpr'] at HP
  clear hE hG hpr hpr' hOk hTk
  go_enter Tryz.func15, Tryz.ntmps15
  go_wp2_with fail
  refine HP.out.mono ?_
  intro e w1 hR
  obtain ⟨v, rfl, hv⟩ := hR.ok _ _ rfl
  obtain ⟨va, ev⟩ := hv.ptr
  subst ev
  have HT := hid hv
  have HL := hid hR.low
  clear hv hR HP
  go_wp2_with fail
  refine TL.wp_grow [12, 13, 14, 15, 16, 17, 18, 19, 20, 21, 11, 22, 23, 24, 3, 4, 2] (asdR va) rfl (by kernel_rfl) (by kernel_rfl) 43 rfl (by kernel_rfl) (asdR.st va) (TL.ix_cons ?_ (TL.ix_cons ?_ (TL.ix_cons ?_ (TL.ix_cons ?_ (TL.ix_cons ?_ (TL.ix_cons ?_ (TL.ix_cons ?_ (TL.ix_cons ?_ (TL.ix_cons ?_ (TL.ix_cons ?_ (TL.ix_cons ?_ (TL.ix_cons ?_ (TL.ix_cons ?_ (TL.ix_cons ?_ (TL.ix_cons ?_ (TL.ix_cons ?_ (TL.ix_cons ?_ TL.ix_nil))))))))))))))))) ?_
  · intro a W2 hlike hC hdep
    exact TL.Does.move rfl (hlike.keeps 1 (by kernel_rfl)) ⟨Below.refl _ _, rfl⟩
  · intro a W2 hlike hC hdep
    refine TL.Does.call (f := 46) (args := #[.string ⟨#[97]⟩, .int .i64 5, .int .i64 3]) (by kernel_rfl) ?_
    refine (kone_any ⟨#[97]⟩ 5 3 W2).mono ?_
    rintro e w' ⟨B, rfl, lo, so, h1, h2, h3, h4⟩
    exact ⟨_, rfl, h4, B, rfl, lo, so, h1, h2, h3⟩
  · intro a W2 hlike hC hdep
    obtain ⟨B, e, h⟩ := hdep 1 (by kernel_rfl)
    exact TL.Does.index rfl e rfl (ser_ix0 B W2) ⟨Below.refl _ _, B, rfl, h⟩
  · intro a W2 hlike hC hdep
    obtain ⟨B, e, lo, so, h1, h2, h3⟩ := hdep 2 (by kernel_rfl)
    exact TL.Does.load rfl e (ser_ld B lo so W2 h1) ⟨Below.refl _ _, lo, so, rfl, h2, h3⟩
  · intro a W2 hlike hC hdep
    refine TL.Does.call (f := 46) (args := #[.string ⟨#[98]⟩, .int .i64 6, .int .i64 4]) (by kernel_rfl) ?_
    refine (kone_any ⟨#[98]⟩ 6 4 W2).mono ?_
    rintro e w' ⟨B, rfl, lo, so, h1, h2, h3, h4⟩
    exact ⟨_, rfl, h4, B, rfl, lo, so, h1, h2, h3⟩
  · intro a W2 hlike hC hdep
    obtain ⟨B, e, h⟩ := hdep 4 (by kernel_rfl)
    exact TL.Does.index rfl e rfl (ser_ix0 B W2) ⟨Below.refl _ _, B, rfl, h⟩
  · intro a W2 hlike hC hdep
    obtain ⟨B, e, lo, so, h1, h2, h3⟩ := hdep 5 (by kernel_rfl)
    exact TL.Does.load rfl e (ser_ld B lo so W2 h1) ⟨Below.refl _ _, lo, so, rfl, h2, h3⟩
  · intro a W2 hlike hC hdep
    obtain ⟨lo, so, e1, h1, h2⟩ := hdep 3 (by kernel_rfl)
    obtain ⟨lo2, so2, e2, h3, h4⟩ := hdep 6 (by kernel_rfl)
    have e1' : a.eval (.tmp 15) = .agg #[.slice lo 1 1, .slice so 1 1] := e1
    have e2' : a.eval (.tmp 18) = .agg #[.slice lo2 1 1, .slice so2 1 1] := e2
    have hal := (Below.refl _ W2).alloc (Nat.le_refl _) (.cells #[.slice lo 1 1, .slice so 1 1, .slice lo2 1 1, .slice so2 1 1] 61)
    have hn := heap_alloc_new W2 (.cells #[.slice lo 1 1, .slice so 1 1, .slice lo2 1 1, .slice so2 1 1] 61)
    refine TL.Does.bslice rfl (by simp only [List.map_toArray, List.map_cons, List.map_nil, e1', e2']) (ser_bs2 lo so lo2 so2 W2) ⟨hal, _, rfl, fun i hi => ?_⟩
    rcases (by simp at hi; omega : i = 0 ∨ i = 1) with rfl | rfl
    · exact ⟨W2.heap.size, 0, rfl, heap_lt hn, fun h => h, lo, 1, so, 1, zcell' _ _ _ _ hn 0 _ rfl, zcell' _ _ _ _ hn 1 _ rfl, ⟨h1.below hal, fun _ _ _ h => h⟩, ⟨h2.below hal, fun _ _ _ h => h⟩⟩
    · exact ⟨W2.heap.size, 0, rfl, heap_lt hn, fun h => h, lo2, 1, so2, 1, zcell' _ _ _ _ hn 2 _ rfl, zcell' _ _ _ _ hn 3 _ rfl, ⟨h3.below hal, fun _ _ _ h => h⟩, ⟨h4.below hal, fun _ _ _ h => h⟩⟩
  · intro a W2 hlike hC hdep
    obtain ⟨B, e, h⟩ := hdep 7 (by kernel_rfl)
    have e' : a.eval (.tmp 19) = .slice (some ⟨B, 0, none⟩) 2 2 := e
    refine TL.Does.call (f := 45) (args := #[a.eval (.tmp 19)]) (by kernel_rfl) ?_
    rw [e']
    refine (source_any (some ⟨B, 0, none⟩) 2 2 W2).mono ?_
    rintro e w' ⟨rfl, rfl⟩
    have hal := (Below.refl _ W2).alloc (Nat.le_refl _) (.cells #[.slice (some ⟨B, 0, none⟩) 2 2] 22)
    exact ⟨_, rfl, hal, _, _, _, rfl, zcell' _ _ _ _ (heap_alloc_new W2 _) 0 _ rfl, h.below0 hal⟩
  · intro a W2 hlike hC hdep
    obtain ⟨bx, ao, cap, e, h1, h2⟩ := hdep 8 (by kernel_rfl)
    have e0 : a.eval (.tmp 12) = .pointer va := hdep 0 (by kernel_rfl)
    have e8 : a.eval (.tmp 20) = .func (.func 79) #[] #[.pointer (some ⟨bx, 0, none⟩)] := e
    refine TL.Does.call (f := 44) (args := #[a.eval (.tmp 12), .int .i64 7, a.eval (.tmp 20)]) (by kernel_rfl) ?_
    rw [e0, e8]
    refine (HE.out W2 (.pointer va) asdQ 7 bx ao asdS cap (HT.out.below hC) HOk.out HPt.out (by omega) h1 h2 asd_askd).mono ?_
    intro e w' hV
    obtain ⟨po, pc, rfl, h3, _⟩ := hV.ok _ _ asd_ev
    exact ⟨_, rfl, hV.low, po, pc, rfl, h3⟩
  · intro a W2 hlike hC hdep
    obtain ⟨po, pc, e, h⟩ := hdep 9 (by kernel_rfl)
    exact TL.Does.move rfl e ⟨Below.refl _ _, po, pc, rfl, h⟩
  · intro a W2 hlike hC hdep
    obtain ⟨po, pc, e, h⟩ := hdep 10 (by kernel_rfl)
    have e' : a.eval (.tmp 11) = .tuple #[.slice po 1 pc, .bool false, .nilIface] := e
    refine TL.Does.val (v := .slice po 1 pc) (w' := W2) ?_ ⟨Below.refl _ _, po, pc, rfl, h⟩
    unfold execOp
    dsimp only
    rw [e']
    rfl
  · intro a W2 hlike hC hdep
    obtain ⟨po, pc, e, h⟩ := hdep 10 (by kernel_rfl)
    have e' : a.eval (.tmp 11) = .tuple #[.slice po 1 pc, .bool false, .nilIface] := e
    refine TL.Does.val (v := .bool false) (w' := W2) ?_ ⟨Below.refl _ _, rfl⟩
    unfold execOp
    dsimp only
    rw [e']
    rfl
  · intro a W2 hlike hC hdep
    obtain ⟨po, pc, e, h⟩ := hdep 10 (by kernel_rfl)
    have e' : a.eval (.tmp 11) = .tuple #[.slice po 1 pc, .bool false, .nilIface] := e
    refine TL.Does.val (v := .nilIface) (w' := W2) ?_ ⟨Below.refl _ _, rfl⟩
    unfold execOp
    dsimp only
    rw [e']
    rfl
  · intro a W2 hlike hC hdep
    obtain ⟨po, pc, e, h⟩ := hdep 11 (by kernel_rfl)
    have e' : a.eval (.tmp 22) = .slice po 1 pc := e
    refine TL.Does.val (v := .slice po 1 pc) (w' := W2) ?_ ⟨Below.refl _ _, po, pc, rfl, h⟩
    unfold execOp
    dsimp only
    rw [e']
    rfl
  · intro a W2 hlike hC hdep
    have e' : a.eval (.tmp 23) = .bool false := hdep 12 (by kernel_rfl)
    refine TL.Does.val (v := .bool false) (w' := W2) ?_ ⟨Below.refl _ _, rfl⟩
    unfold execOp
    dsimp only
    rw [e']
    rfl
  · intro a W2 hlike hC hdep
    have e' : a.eval (.tmp 24) = .nilIface := hdep 13 (by kernel_rfl)
    refine TL.Does.val (v := .nilIface) (w' := W2) ?_ ⟨Below.refl _ _, rfl⟩
    unfold execOp
    dsimp only
    rw [e']
    rfl
  · intro f W2 hC hT
    obtain ⟨po, pc, e3, hP3⟩ := hT 14 (by decide)
    have e3' : f 3 = .slice po 1 pc := e3
    have e4' : f 4 = .bool false := hT 15 (by decide)
    have e2' : f 2 = .nilIface := hT 16 (by decide)
    obtain ⟨b, off, hpo, hbs, lo, lc, c0, c1, _⟩ := hP3 0 (by simp)
    subst hpo
    have HB := hid (bel2 HL.out hC)
    clear hT
    simp only [TL.puts]
    rw [e3', e4', e2']
    go_frame
    generalize f 12 = g12
    generalize f 13 = g13
    generalize f 14 = g14
    generalize f 15 = g15
    generalize f 16 = g16
    generalize f 17 = g17
    generalize f 18 = g18
    generalize f 19 = g19
    generalize f 20 = g20
    generalize f 21 = g21
    generalize f 11 = g11
    generalize f 22 = g22
    generalize f 23 = g23
    generalize f 24 = g24
    simp only [Nat.zero_mul, Nat.add_zero] at c0 c1
    have c1' : W2.cell? ⟨b, off + 1, none⟩ = some (.int .i64 6) := c1
    clear e3 e3' e4' e2' c0 c1 hP3 hC
    go_wp2_with fail
    go_ret
    exact ⟨rfl, HB.out⟩

end Go.Proofs.YtdmnlmohfaafoaeGreatDoor

