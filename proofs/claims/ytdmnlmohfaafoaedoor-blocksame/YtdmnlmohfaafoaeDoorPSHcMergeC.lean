/- What chunk.Merge answers. (made by mkhd.py) -/
import Derived.Test.YtdmnlmohfaafoaeDoorPSCdMem
import Derived.Test.YtdmnlmohfaafoaeDoorPSChMrg
import Derived.Deep.RegionLaw
import Derived.Laws.AppendOwnNone
import Derived.OwnWalk
namespace Go.Proofs.YtdmnlmohfaafoaeDoor
open Go.RowKit

/-- The sample i of a row that stands still. -/
theorem SRow.atM {w wr : World} {b off : Nat} {l : List CL.Smp} (h : SRow w (some ⟨b, off, none⟩) l) (hb : Below w.heap.size w wr) (i : Nat) (hi : i < l.length) :
    wr.cell? ⟨b, off + i * 2, none⟩ = some (.int .i64 (CL.at' l i).1) ∧ wr.cell? ⟨b, off + i * 2 + 1, none⟩ = some (.int .i64 (CL.at' l i).2) := by
  obtain ⟨b', off', hao, hc0, hc1, hbs⟩ := h i hi
  simp only [Option.some.injEq, Addr.mk.injEq, and_true] at hao
  obtain ⟨rfl, rfl⟩ := hao
  exact ⟨(hb.cell (p := ⟨b, _, none⟩) hbs).trans hc0, (hb.cell (p := ⟨b, _, none⟩) hbs).trans hc1⟩

/-- append onto a row of one's own, as one step of a region that draws. -/
theorem step_append_own {P : Program} {ops : Array Oper} {o : Oper} {a : Act} {w : World} {K : Act → World → Prop} {Q : Exit → Act → World → Prop} {E : Prop}
    (hg : o.guard = none) (s x : Operand) (t : TypeId) (ho : o.op = .call { callee := .builtin .append, args := #[s, x], argTypes := #[t, t] })
    (base : Nat) (e : TypeId) (i : TypeInfo) (z : Value) (size bytes : Nat) (ht : P.underlying t = some (.slice e)) (hi : P.info? e = some i) (hz : i.zero = some z)
    (hsize : i.size = size) (hby : i.bytes = bytes) (hzs : z.cells.size = size) (hsz : 0 < size)
    (v : Value) (n : Nat) (xs : List Value) (hs : a.eval s = v) (hown : w.ownsRow base e size v n xs)
    (ad : Addr) (m c : Nat) (news : List Value) (hx : a.eval x = .slice (some ad) m c) (hl : news.length = m * size) (hnews : ∀ j u, news[j]? = some u → w.cell? (ad.add j) = some u) (h1 : ∀ u ∈ news, u.oneCell' = true)
    (h63 : n + m ≤ maxLen) (hbytes : (n + m) * bytes ≤ 140737488355328) (hbase : base ≤ w.heap.size)
    (h : ∀ v' w', w'.ownsRow base e size v' (n + m) (xs ++ news) → w.grownBy w' v.ownBlock → (v' = .slice none 0 0 ↔ v = .slice none 0 0 ∧ m = 0) → K (a.put o.dst v') w') :
    if Region.wanted o (yielded ops a.tmps) = true then Oper.wp P o a w K Q else E := by
  have hw : Region.wanted o (yielded ops a.tmps) = true := by simp [Region.wanted, hg]
  rw [if_pos hw]
  exact wp_append_own w s x t ho base e i z size bytes ht hi hz hsize hby hzs hsz v n xs hs hown ad m c news hx hl hnews h1 h63 hbytes hbase h

/-- Samples behind the first one. -/
theorem srow_tail {w : World} {ao : Option Addr} {x : CL.Smp} {l : List CL.Smp} {cap : Nat} (h : SRow w ao (x :: l)) (hc : (x :: l).length ≤ cap) :
    ∃ b off A, ao = some ⟨b, off, none⟩ ∧ (if cap = 1 then some ⟨b, off, none⟩ else some ⟨b, off + 2, none⟩) = A ∧ SRow w A l := by
  obtain ⟨b, off, e, _⟩ := h 0 (by simp)
  refine ⟨b, off, _, e, rfl, fun i hi => ?_⟩
  obtain ⟨b', off', e', c0, c1, hb⟩ := h (i + 1) (by simpa using hi)
  rw [e] at e'
  simp only [Option.some.injEq, Addr.mk.injEq, and_true] at e'
  obtain ⟨rfl, rfl⟩ := e'
  have hn : cap ≠ 1 := by simp at hc; omega
  refine ⟨b, off + 2, by rw [if_neg hn], ?_, ?_, hb⟩
  · have : off + 2 + i * 2 = off + (i + 1) * 2 := by omega
    rw [this]; exact c0
  · have : off + 2 + i * 2 + 1 = off + (i + 1) * 2 + 1 := by omega
    rw [this]; exact c1

theorem grown_heap {w1 w2 w' : World} {row : Option Nat} (h : w1.grownBy w' row) (hh : w2.heap = w1.heap) (ho : w2.os = w1.os) (ht : w2.tape = w1.tape) (hu : w2.output = w1.output) : w2.grownBy w' row :=
  ⟨h.os.trans ho.symm, h.tape.trans ht.symm, h.output.trans hu.symm, by rw [hh]; exact h.size, fun k hk hne => by rw [hh] at hk ⊢; exact h.block k hk hne⟩

/-- append onto a row of one's own from a slice that is there, or is nil. -/
theorem wpList_append_src {P : Program} (w : World) {ops : Array Oper} {rest : List Oper} {o : Oper} {a : Act} {Q : Exit → Act → World → Prop}
    (hg : o.guard = none) (s x : Operand) (t : TypeId) (hop : o.op = Op.call { callee := Callee.builtin Builtin.append, args := #[s, x], argTypes := #[t, t] })
    (base : Nat) (e : TypeId) (i : TypeInfo) (z : Value) (size bytes : Nat) (h1 : P.underlying t = some (.slice e)) (h2 : P.info? e = some i) (h3 : i.zero = some z) (h4 : i.size = size) (h5 : i.bytes = bytes) (h6 : z.cells.size = size) (h7 : 0 < size)
    (v : Value) (k : Nat) (xs : List Value) (hs : a.eval s = v) (hown : w.ownsRow base e size v k xs) (ao : Option Addr) (m c : Nat) (news : List Value) (hx : a.eval x = .slice ao m c) (hn : news.length = m * size)
    (hnone : ao = none → m = 0 ∧ c = 0) (hc : ∀ ad, ao = some ad → ∀ j u, news[j]? = some u → w.cell? (ad.add j) = some u) (h1c : ∀ u ∈ news, u.oneCell' = true) (b1 : k + m ≤ maxLen) (b2 : (k + m) * bytes ≤ 140737488355328) (b3 : base ≤ w.heap.size)
    (hK : ∀ v' w', w'.ownsRow base e size v' (k + m) (xs ++ news) → w.grownBy w' v.ownBlock → wpList P ops Q rest (a.put o.dst v') w') :
    wpList P ops Q (o :: rest) a w := by
  cases ao with
  | some ad => exact wpList_append_own w hg s x t hop base e i z size bytes h1 h2 h3 h4 h5 h6 h7 v k xs hs hown ad m c news hx hn (hc ad rfl) h1c b1 b2 b3 (fun v' w' a b _ => hK v' w' a b)
  | none =>
    obtain ⟨rfl, rfl⟩ := hnone rfl
    have hnews : news = [] := List.eq_nil_of_length_eq_zero (by simpa using hn)
    subst hnews
    exact wpList_append_own_none hg s x t hop base e i size h1 h2 v k xs hs hown hx (hK v w (by simpa using hown) (World.grownBy.refl _ _))

theorem sv_i64 (l : List CL.Smp) : ∀ u ∈ sv l, u.oneCell' = true := by
  intro u hu
  simp only [sv, List.mem_flatMap, List.mem_cons, List.not_mem_nil, or_false] at hu
  obtain ⟨s, _, rfl | rfl⟩ := hu <;> rfl

/-- The cells of samples that lie there. -/
theorem srow_cells {w wr : World} {ao : Option Addr} {l : List CL.Smp} (h : SRow w ao l) (hb : Below w.heap.size w wr) : ∀ ad, ao = some ad → ∀ j u, (sv l)[j]? = some u → wr.cell? (ad.add j) = some u := by
  intro ad had j u hj
  have hlt : j < (sv l).length := (List.getElem?_eq_some_iff.1 hj).1
  rw [sv_length] at hlt
  obtain ⟨b, off, e, c0, c1, hbs⟩ := h (j / 2) (by omega)
  rw [had] at e
  obtain rfl := Option.some.inj e
  obtain ⟨g0, g1⟩ := sv_get l (j / 2) (by omega)
  rcases Nat.mod_two_eq_zero_or_one j with hp | hp
  · have ej : j = j / 2 * 2 := by omega
    rw [← ej] at g0
    rw [g0] at hj
    have c0' := (hb.cell (p := ⟨b, _, none⟩) hbs).trans c0
    rw [← ej] at c0'
    rw [← hj, Addr.add_lit]; exact c0'
  · have ej : j = j / 2 * 2 + 1 := by omega
    rw [← ej] at g1
    rw [g1] at hj
    have c1' := (hb.cell (p := ⟨b, _, none⟩) hbs).trans c1
    have e2 : off + j / 2 * 2 + 1 = off + j := by omega
    rw [e2] at c1'
    rw [← hj, Addr.add_lit]; exact c1'

theorem ne_none {p : Prop} [Decidable p] {x y : Addr} {A : Option Addr} (h : (if p then some x else some y) = A) : A ≠ none := by
  subst h; split <;> simp

theorem mrg_tail (a b : List CL.Smp) (h : a = [] ∨ b = []) : CL.mrg a b = a ++ b := by
  rcases h with rfl | rfl
  · rw [CL.mrg]; rfl
  · cases a with
    | nil => rw [CL.mrg]; rfl
    | cons x a => rw [CL.mrg]; simp

def lenV : Value → Nat
  | .slice _ n _ => n
  | _ => 0

set_option maxRecDepth 100000 in
set_option maxHeartbeats 1600000 in
theorem merge_any (ao bo : Option Addr) (a b : List CL.Smp) (ca cb : Nat) (w : World) (hA : SRow w ao a) (hB : SRow w bo b) (hca : a.length ≤ ca) (hcb : b.length ≤ cb) (hla : a.length ≤ 2000) (hlb : b.length ≤ 2000) (hna : ao = none → ca = 0) (hnb : bo = none → cb = 0) :
    Calls Tryd.prog 46 #[.slice ao a.length ca, .slice bo b.length cb] w fun e w' => ∃ v, e = .returned v ∧ w'.ownsRow w.heap.size 42 2 v (CL.mrg a b).length (sv (CL.mrg a b)) ∧ Below w.heap.size w w' := by
  have HA := hid hA
  have HB := hid hB
  clear hA hB
  obtain ⟨ii, hi, hi'⟩ := Option.map_eq_some_iff.1 Tryd.info42
  simp only [Prod.mk.injEq] at hi'
  obtain ⟨hz0, hz1, hz2⟩ := hi'
  have HI0 := hid hi
  have HZ0 := hid hz0
  have HZ1 := hid hz1
  have HZ2 := hid hz2
  clear hi hz0 hz1 hz2
  go_enter Tryd.func46, Tryd.ntmps46
  go_wp2_with (at_make; refine wpList_make_own _ rfl _ _ 36 rfl w.heap.size 42 ii (.agg #[.int .i64 0, .int .i64 0]) 2 Tryd.underlying36 HI0.out HZ0.out HZ1.out .i64 .i64 _ (a.length + b.length) rfl rfl (by omega) (by rw [HZ2.out]; omega) (by unfold maxLen; omega) (Nat.le_refl _) ?_; intro w0 hown0 hgrow0)
  have HO0 := hid hown0
  have HB0 := hid ((Below.refl w.heap.size w).grown hgrow0 (Nat.le_refl _) (fun k hk => by cases hk))
  clear hown0 hgrow0
  go_wp2_with fail
  go_loopw [0, 1, 5] (fun ta tb tl wr => ∃ (a' b' d : List CL.Smp) (ao' bo' : Option Addr) (ca' cb' : Nat), ta = .slice ao' a'.length ca' ∧ tb = .slice bo' b'.length cb' ∧ a'.length ≤ ca' ∧ b'.length ≤ cb' ∧ d.length + a'.length + b'.length ≤ 4000 ∧ CL.mrg a b = d ++ CL.mrg a' b' ∧ SRow w ao' a' ∧ SRow w bo' b' ∧ (ao' = none → ca' = 0) ∧ (bo' = none → cb' = 0) ∧ wr.ownsRow w.heap.size 42 2 tl d.length (sv d) ∧ Below w.heap.size w wr) (fun ta tb _ _ => lenV ta + lenV tb)
  case atStart => exact ⟨a, b, [], ao, bo, ca, cb, rfl, rfl, hca, hcb, by simp; omega, rfl, HA.out, HB.out, hna, hnb, HO0.out, HB0.out⟩
  case round =>
    obtain ⟨a', b', d, ao', bo', ca', cb', rfl, rfl, hca', hcb', hdl, hm, hSa, hSb, hna', hnb', hown, hbel⟩ := hrel
    have HM := hid hm
    have HNa := hid hna'
    have HNb := hid hnb'
    clear hna' hnb'
    have HSa := hid hSa
    have HSb := hid hSb
    have HO := hid hown
    have HBl := hid hbel
    have hsz := hbel.size
    clear hm hSa hSb hown hbel
    rcases a' with _ | ⟨x, a2⟩
    · simp only [List.length_nil] at hca' hdl ⊢
      have HMt := hid (mrg_tail [] b' (.inl rfl))
      go_wp2_with (first | (at_builtin; refine wpList_append_src _ rfl (.tmp 56) (.tmp 57) 36 rfl w.heap.size 42 ii (.agg #[.int .i64 0, .int .i64 0]) 2 16 Tryd.underlying36 HI0.out HZ0.out HZ1.out HZ2.out rfl (by decide) u5 d.length (sv d) rfl HO.out ao' 0 ca' (sv []) rfl (sv_length _) (fun h => ⟨by have := HNa.out h; omega, HNa.out h⟩) (srow_cells HSa.out HBl.out) (sv_i64 _) (by unfold maxLen; omega) (by omega) hsz ?_; intro v7 w7 hown7 hgrow7; have HO7 := hid hown7; have HB7 := hid (HBl.out.grown hgrow7 hsz (fun j hj => (HO.out.lt j hj).1)); clear hown7 hgrow7) | (at_builtin; refine wpList_append_src _ rfl (.tmp 59) (.tmp 60) 36 rfl w.heap.size 42 ii (.agg #[.int .i64 0, .int .i64 0]) 2 16 Tryd.underlying36 HI0.out HZ0.out HZ1.out HZ2.out rfl (by decide) v7 (d.length + 0) (sv d ++ sv []) rfl HO7.out bo' b'.length cb' (sv b') rfl (sv_length _) (fun h => ⟨by have := HNb.out h; omega, HNb.out h⟩) (srow_cells HSb.out HB7.out) (sv_i64 _) (by unfold maxLen; omega) (by omega) HB7.out.size ?_; intro v8 w8 hown8 hgrow8; have HO8 := hid hown8; have HB8 := hid (HB7.out.grown hgrow8 HB7.out.size (fun j hj => (HO7.out.lt j hj).1)); clear hown8 hgrow8))
      go_ret
      refine ⟨_, rfl, ?_, HB8.out⟩
      rw [HM.out, HMt.out, List.length_append, List.length_append, sv_append, sv_append, ← List.append_assoc, ← Nat.add_assoc]
      exact HO8.out
    · rcases b' with _ | ⟨y, b2⟩
      · simp only [List.length_nil, List.length_cons] at hca' hcb' hdl ⊢
        have HMt := hid (mrg_tail (x :: a2) [] (.inr rfl))
        go_wp2_with (first | (at_builtin; refine wpList_append_src _ rfl (.tmp 56) (.tmp 57) 36 rfl w.heap.size 42 ii (.agg #[.int .i64 0, .int .i64 0]) 2 16 Tryd.underlying36 HI0.out HZ0.out HZ1.out HZ2.out rfl (by decide) u5 d.length (sv d) rfl HO.out ao' (a2.length + 1) ca' (sv (x :: a2)) rfl (sv_length _) (fun h => ⟨by have := HNa.out h; omega, HNa.out h⟩) (srow_cells HSa.out HBl.out) (sv_i64 _) (by unfold maxLen; omega) (by omega) hsz ?_; intro v7 w7 hown7 hgrow7; have HO7 := hid hown7; have HB7 := hid (HBl.out.grown hgrow7 hsz (fun j hj => (HO.out.lt j hj).1)); clear hown7 hgrow7) | (at_builtin; refine wpList_append_src _ rfl (.tmp 59) (.tmp 60) 36 rfl w.heap.size 42 ii (.agg #[.int .i64 0, .int .i64 0]) 2 16 Tryd.underlying36 HI0.out HZ0.out HZ1.out HZ2.out rfl (by decide) v7 (d.length + (a2.length + 1)) (sv d ++ sv (x :: a2)) rfl HO7.out bo' 0 cb' (sv []) rfl (sv_length _) (fun h => ⟨by have := HNb.out h; omega, HNb.out h⟩) (srow_cells HSb.out HB7.out) (sv_i64 _) (by unfold maxLen; omega) (by omega) HB7.out.size ?_; intro v8 w8 hown8 hgrow8; have HO8 := hid hown8; have HB8 := hid (HB7.out.grown hgrow8 HB7.out.size (fun j hj => (HO7.out.lt j hj).1)); clear hown8 hgrow8))
        go_ret
        refine ⟨_, rfl, ?_, HB8.out⟩
        rw [HM.out, HMt.out, List.length_append, List.length_append, sv_append, sv_append, ← List.append_assoc, ← Nat.add_assoc]
        exact HO8.out
      · obtain ⟨ba, oa, Aa, rfl, hAa, hSa2⟩ := srow_tail HSa.out hca'
        obtain ⟨bb, ob, Ab, rfl, hAb, hSb2⟩ := srow_tail HSb.out hcb'
        have HSa2 := hid hSa2
        have HSb2 := hid hSb2
        have c0 := (HSa.out.atM HBl.out 0 (by simp)).1
        have c1 := (HSa.out.atM HBl.out 0 (by simp)).2
        have e0 := (HSb.out.atM HBl.out 0 (by simp)).1
        have e1 := (HSb.out.atM HBl.out 0 (by simp)).2
        have ea : CL.at' (x :: a2) 0 = x := rfl
        have eb : CL.at' (y :: b2) 0 = y := rfl
        rw [ea] at c0 c1
        rw [eb] at e0 e1
        simp only [Nat.zero_mul, Nat.add_zero] at c0 c1 e0 e1
        have hl1 : (x :: a2).length = a2.length + 1 := rfl
        have hl2 : (y :: b2).length = b2.length + 1 := rfl
        rw [hl1] at hca' hdl ⊢
        rw [hl2] at hcb' hdl ⊢
        clear hSa2 hSb2 ea eb hl1 hl2
        have h1a : (1 : Int) ≤ (a2.length : Int) + 1 := by omega
        have h1b : (1 : Int) ≤ (b2.length : Int) + 1 := by omega
        have hcc1 : 1 ≤ ca' := by omega
        have hcc2 : 1 ≤ cb' := by omega
        by_cases hlt : x.1 < y.1
        · go_wp2_with fail
          go_quiet (fail)
          go_wp2_with fail
          go_region_law ((refine step_append_own rfl (.tmp 29) (.tmp 33) 36 rfl w.heap.size 42 ii (.agg #[.int .i64 0, .int .i64 0]) 2 16 Tryd.underlying36 HI0.out HZ0.out HZ1.out HZ2.out rfl (by decide) u5 d.length (sv d) (by simp [Act.eval]) (own_heap (HO.out.alloc (boxS x.1 x.2)) rfl) ⟨wr.heap.size, 0, none⟩ 1 1 [.int .i64 x.1, .int .i64 x.2] (by simp [Act.eval]) rfl (fun j u hj => two_news wr _ _ 42 j u hj) (two_i64 _ _) (by unfold maxLen; omega) (by omega) (by simp; omega) ?_; intro v7 w7 hown7 hgrow _))
          have HO7 := hid hown7
          have HB7 := hid (((show Below w.heap.size w (wr.alloc (boxS x.1 x.2)) from HBl.out.alloc hsz _)).grown (w' := w7) (row := u5.ownBlock) (show World.grownBy _ _ _ from grown_heap hgrow rfl rfl rfl rfl) (by simp; omega) (fun j hj => (HO.out.lt j hj).1))
          clear hown7 hgrow
          simp only [List.getElem_toArray, List.getElem_cons_succ, List.getElem_cons_zero]
          go_frame
          go_wp2_with fail
          refine ⟨?rel, ?measure⟩
          case rel =>
            refine ⟨a2, y :: b2, d ++ [x], Aa, some ⟨bb, ob, none⟩, ca' - 1, cb', rfl, rfl, by omega, by simpa using hcb', by simp; omega, ?_, HSa2.out, HSb.out, ?_, HNb.out, ?_, HB7.out⟩
            · rw [HM.out]
              conv => lhs; rw [CL.mrg]
              rw [if_pos hlt]; simp
            · exact fun h => absurd h (ne_none hAa)
            · rw [List.length_append, sv_append]; exact HO7.out
          case measure => simp [lenV]
        · by_cases heq : x.1 = y.1
          · have hq : (x.1 == y.1) = true := by simp [heq]
            have HQ := hid heq
            clear heq
            go_wp2_with fail
            go_quiet (fail)
            go_wp2_with fail
            go_quiet (fail)
            go_wp2_with fail
            go_region_law ((refine step_append_own rfl (.tmp 48) (.tmp 52) 36 rfl w.heap.size 42 ii (.agg #[.int .i64 0, .int .i64 0]) 2 16 Tryd.underlying36 HI0.out HZ0.out HZ1.out HZ2.out rfl (by decide) u5 d.length (sv d) (by simp [Act.eval]) (own_heap (HO.out.alloc (boxS y.1 y.2)) rfl) ⟨wr.heap.size, 0, none⟩ 1 1 [.int .i64 y.1, .int .i64 y.2] (by simp [Act.eval]) rfl (fun j u hj => two_news wr _ _ 42 j u hj) (two_i64 _ _) (by unfold maxLen; omega) (by omega) (by simp; omega) ?_; intro v7 w7 hown7 hgrow _))
            have HO7 := hid hown7
            have HB7 := hid (((show Below w.heap.size w (wr.alloc (boxS y.1 y.2)) from HBl.out.alloc hsz _)).grown (w' := w7) (row := u5.ownBlock) (show World.grownBy _ _ _ from grown_heap hgrow rfl rfl rfl rfl) (by simp; omega) (fun j hj => (HO.out.lt j hj).1))
            clear hown7 hgrow
            simp only [List.getElem_toArray, List.getElem_cons_succ, List.getElem_cons_zero]
            go_frame
            go_wp2_with fail
            refine ⟨?rel, ?measure⟩
            case rel =>
              refine ⟨a2, b2, d ++ [y], Aa, Ab, ca' - 1, cb' - 1, rfl, rfl, by omega, by omega, by simp; omega, ?_, HSa2.out, HSb2.out, ?_, ?_, ?_, HB7.out⟩
              · rw [HM.out]
                conv => lhs; rw [CL.mrg]
                rw [if_neg (Int.not_lt.2 hlt), if_pos HQ.out]; simp
              · exact fun h => absurd h (ne_none hAa)
              · exact fun h => absurd h (ne_none hAb)
              · rw [List.length_append, sv_append]; exact HO7.out
            case measure => simp [lenV]; omega
          · have hq : (x.1 == y.1) = false := by simp [heq]
            have HQ := hid heq
            clear heq
            go_wp2_with fail
            go_quiet (fail)
            go_wp2_with fail
            go_quiet (fail)
            go_wp2_with fail
            go_region_law ((refine step_append_own rfl (.tmp 48) (.tmp 52) 36 rfl w.heap.size 42 ii (.agg #[.int .i64 0, .int .i64 0]) 2 16 Tryd.underlying36 HI0.out HZ0.out HZ1.out HZ2.out rfl (by decide) u5 d.length (sv d) (by simp [Act.eval]) (own_heap (HO.out.alloc (boxS y.1 y.2)) rfl) ⟨wr.heap.size, 0, none⟩ 1 1 [.int .i64 y.1, .int .i64 y.2] (by simp [Act.eval]) rfl (fun j u hj => two_news wr _ _ 42 j u hj) (two_i64 _ _) (by unfold maxLen; omega) (by omega) (by simp; omega) ?_; intro v7 w7 hown7 hgrow _))
            have HO7 := hid hown7
            have HB7 := hid (((show Below w.heap.size w (wr.alloc (boxS y.1 y.2)) from HBl.out.alloc hsz _)).grown (w' := w7) (row := u5.ownBlock) (show World.grownBy _ _ _ from grown_heap hgrow rfl rfl rfl rfl) (by simp; omega) (fun j hj => (HO.out.lt j hj).1))
            clear hown7 hgrow
            simp only [List.getElem_toArray, List.getElem_cons_succ, List.getElem_cons_zero]
            go_frame
            go_wp2_with fail
            refine ⟨?rel, ?measure⟩
            case rel =>
              refine ⟨x :: a2, b2, d ++ [y], some ⟨ba, oa, none⟩, Ab, ca', cb' - 1, rfl, rfl, by simpa using hca', by omega, by simp; omega, ?_, HSa.out, HSb2.out, HNa.out, ?_, ?_, HB7.out⟩
              · rw [HM.out]
                conv => lhs; rw [CL.mrg]
                rw [if_neg (Int.not_lt.2 hlt), if_neg HQ.out]; simp
              · exact fun h => absurd h (ne_none hAb)
              · rw [List.length_append, sv_append]; exact HO7.out
            case measure => simp [lenV]

end Go.Proofs.YtdmnlmohfaafoaeDoor

