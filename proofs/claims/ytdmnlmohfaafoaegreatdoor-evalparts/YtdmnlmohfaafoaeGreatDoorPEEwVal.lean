/- What values come to, and points in order that are put together, plain. Names no function. Rows of numbers: what sum, slices.Min, slices.Max and fold tell of them; two numbers by a sign. -/
import Derived.Test.YtdmnlmohfaafoaeGreatDoorPEAqOk
import Derived.Test.YtdmnlmohfaafoaeGreatDoorPEHdMem
import Derived.Test.YtdmnlmohfaafoaeGreatDoorPEHcMem
import Derived.Test.YtdmnlmohfaafoaeGreatDoorPEEvPts
import Derived.Laws.MakeOwn
namespace Go.Proofs.YtdmnlmohfaafoaeGreatDoor
namespace EV
open CL (W Smp)

def av (l : List Int) (i : Nat) : Int := l.getD i 0
theorem av_eq {l : List Int} {i : Nat} (h : i < l.length) : av l i = l[i] := by simp [av, h]

/-- What values come to, by the question's code. -/
def fv (c : Int) (l : List Int) : Int :=
  if c = 2 then av l (l.length - 1) else if c = 7 then W (av l (l.length - 1) - av l 0) else if c = 4 ∨ c = 8 then W l.sum else if c = 5 ∨ c = 9 then (allV min l).getD 0 else if c = 6 ∨ c = 10 then (allV max l).getD 0 else l.length

theorem av_map (l : List Smp) (i : Nat) : av (l.map (·.2)) i = (CL.at' l i).2 := by
  unfold av CL.at'
  rw [List.getD, List.getD, List.getElem?_map]
  cases l[i]? <;> rfl

theorem over_fv {c : Int} (h1 : 2 ≤ c) (h2 : c ≤ 7) (l : List Smp) : over c l = fv c (l.map (·.2)) := by
  unfold over fv lastV
  rw [av_map, av_map, List.length_map]
  rcases (by omega : c = 2 ∨ c = 3 ∨ c = 4 ∨ c = 5 ∨ c = 6 ∨ c = 7) with rfl | rfl | rfl | rfl | rfl | rfl <;> simp

theorem sum_take (l : List Int) (i : Nat) (h : i < l.length) : W ((l.take (i + 1)).sum) = W (W ((l.take i).sum) + av l i) := by
  rw [List.take_succ_eq_append_getElem h, List.sum_append, av_eq h, W_add]
  simp

theorem all1_snoc (op : Int → Int → Int) : ∀ (r : List Int) (a x : Int), all1 op a (r ++ [x]) = op (all1 op a r) x
  | [], _, _ => rfl
  | b :: r, a, x => all1_snoc op r (op a b) x

theorem all_take (op : Int → Int → Int) (l : List Int) (i : Nat) (h0 : 0 < i) (h : i < l.length) : (allV op (l.take (i + 1))).getD 0 = op ((allV op (l.take i)).getD 0) (av l i) := by
  rw [List.take_succ_eq_append_getElem h, av_eq h]
  cases l with
  | nil => simp at h
  | cons a r =>
    obtain ⟨j, rfl⟩ : ∃ j, i = j + 1 := ⟨i - 1, by omega⟩
    simp only [List.take_succ_cons, List.cons_append, allV, Option.getD_some]
    rw [all1_snoc]

theorem all_one (op : Int → Int → Int) (l : List Int) (h : 0 < l.length) : (allV op (l.take 1)).getD 0 = av l 0 := by
  cases l with
  | nil => simp at h
  | cons a r => simp [allV, all1, av]

/- Points that are put together do not hang on their order. -/

theorem cmp_eq {a b : List LB.Lab} (h : LB.cmp a b = 0) : a = b := (LB.cmp_ord.zero a b).1 h
theorem cmp3 (a b : List LB.Lab) : LB.cmp a b = -1 ∨ LB.cmp a b = 0 ∨ LB.cmp a b = 1 := LB.cmp_ord.rng a b

theorem put_nil (op : Int → Int → Int) (p : Pt) : put op [] p = [p] := rfl
theorem put_eq {op : Int → Int → Int} {x p : Pt} {r : List Pt} (h : LB.cmp x.1 p.1 = 0) : put op (x :: r) p = (x.1, op x.2 p.2) :: r := by rw [put, if_pos h]
theorem put_lt {op : Int → Int → Int} {x p : Pt} {r : List Pt} (h : LB.cmp x.1 p.1 = -1) : put op (x :: r) p = x :: put op r p := by rw [put, if_neg (by omega), if_pos h]
theorem put_gt {op : Int → Int → Int} {x p : Pt} {r : List Pt} (h : LB.cmp x.1 p.1 = 1) : put op (x :: r) p = p :: x :: r := by rw [put, if_neg (by omega), if_neg (by omega)]

theorem put_two (c : Int) (x y : Pt) (r : List Pt) : put (opOf c) (x :: r) y = (if LB.cmp x.1 y.1 = 0 then (x.1, opOf c x.2 y.2) :: r else if LB.cmp x.1 y.1 = -1 then x :: put (opOf c) r y else y :: x :: r) := rfl

theorem put_comm (c : Int) : ∀ (z : List Pt) (x y : Pt), put (opOf c) (put (opOf c) z x) y = put (opOf c) (put (opOf c) z y) x
  | [], x, y => by
    rw [put_nil, put_nil]
    rcases cmp3 x.1 y.1 with h | h | h
    · rw [put_lt h, put_nil, put_gt (cmp_lt h)]
    · have e := cmp_eq h
      rw [put_eq h, put_eq (by rw [e]; exact cmp_self _), e, op_comm]
    · rw [put_gt h, put_lt (cmp_gt h), put_nil]
  | h :: r, x, y => by
    rcases cmp3 h.1 x.1 with hx | hx | hx <;> rcases cmp3 h.1 y.1 with hy | hy | hy
    · rw [put_lt hx, put_lt hy, put_lt hy, put_lt hx, put_comm c r x y]
    · rw [put_lt hx, put_eq hy, put_eq hy, put_lt (x := (h.1, opOf c h.2 y.2)) hx]
    · have hyx : LB.cmp y.1 x.1 = -1 := LB.cmp_ord.tr _ _ _ (cmp_gt hy) hx
      rw [put_lt hx, put_gt hy, put_gt hy, put_lt hyx, put_lt hx]
    · rw [put_eq hx, put_lt hy, put_eq hx, put_lt (x := (h.1, opOf c h.2 x.2)) hy]
    · have ex := cmp_eq hx
      have ey := cmp_eq hy
      rw [put_eq hx, put_eq hy, put_eq (x := (h.1, opOf c h.2 x.2)) hy, put_eq (x := (h.1, opOf c h.2 y.2)) hx]
      simp only
      rw [op_assoc, op_assoc, op_comm c x.2]
    · have hyx : LB.cmp y.1 x.1 = -1 := by rw [← cmp_eq hx]; exact cmp_gt hy
      rw [put_eq hx, put_gt hy, put_gt (x := (h.1, opOf c h.2 x.2)) hy, put_lt hyx, put_eq hx]
    · have hxy : LB.cmp x.1 y.1 = -1 := LB.cmp_ord.tr _ _ _ (cmp_gt hx) hy
      rw [put_gt hx, put_lt hy, put_lt hxy, put_lt hy, put_gt hx]
    · have hxy : LB.cmp x.1 y.1 = -1 := by rw [← cmp_eq hy]; exact cmp_gt hx
      rw [put_gt hx, put_eq hy, put_lt hxy, put_eq hy, put_gt (x := (h.1, opOf c h.2 y.2)) hx]
    · rw [put_gt hx, put_gt hy]
      rcases cmp3 x.1 y.1 with hxy | hxy | hxy
      · rw [put_lt hxy, put_gt hy, put_gt (cmp_lt hxy)]
      · have e := cmp_eq hxy
        rw [put_eq hxy, put_eq (by rw [e]; exact cmp_self _), e, op_comm]
      · rw [put_gt hxy, put_lt (cmp_gt hxy), put_gt hx]

def puts (c : Int) (acc l : List Pt) : List Pt := l.foldl (fun acc p => put (opOf c) acc (p.1, vOf c p)) acc

theorem puts_perm (c : Int) {l l' : List Pt} (h : l.Perm l') (acc : List Pt) : puts c acc l = puts c acc l' := by
  unfold puts
  exact h.foldl_eq' (f := fun acc p => put (opOf c) acc (p.1, vOf c p)) (fun x _ y _ z => put_comm c z _ _) acc

theorem grp_puts (c : Int) (ns : List ByteArray) (l : List Pt) : grp c ns l = puts c [] (l.map fun p => (LB.only p.1 ns, p.2)) := by
  unfold grp puts
  rw [List.foldl_map]
  rfl

/- One round: points of the same labels, all behind those that are there. -/

theorem put_end (op : Int → Int → Int) : ∀ (l : List Pt) (p : Pt), (∀ x ∈ l, LB.cmp x.1 p.1 = -1) → put op l p = l ++ [p]
  | [], _, _ => rfl
  | x :: r, p, h => by
    rw [put_lt (h x (List.mem_cons_self ..)), put_end op r p (fun y hy => h y (List.mem_cons_of_mem _ hy))]
    rfl

theorem put_last (op : Int → Int → Int) (L : List LB.Lab) (a b : Int) : ∀ (l : List Pt), (∀ x ∈ l, LB.cmp x.1 L = -1) → put op (l ++ [(L, a)]) (L, b) = l ++ [(L, op a b)]
  | [], _ => by rw [List.nil_append, put_eq (cmp_self L)]; rfl
  | x :: r, h => by
    rw [List.cons_append, put_lt (h x (List.mem_cons_self ..)), put_last op L a b r (fun y hy => h y (List.mem_cons_of_mem _ hy))]
    rfl

theorem puts_same (c : Int) (L : List LB.Lab) (acc : List Pt) (hacc : ∀ x ∈ acc, LB.cmp x.1 L = -1) : ∀ (g : List Pt) (a : Int), (∀ p ∈ g, p.1 = L) → puts c (acc ++ [(L, a)]) g = acc ++ [(L, all1 (opOf c) a (g.map (vOf c)))]
  | [], _, _ => rfl
  | p :: g, a, h => by
    have e : p.1 = L := h p (List.mem_cons_self ..)
    unfold puts
    rw [List.foldl_cons, e, put_last _ _ _ _ _ hacc]
    exact puts_same c L acc hacc g _ (fun q hq => h q (List.mem_cons_of_mem _ hq))

theorem all1_W : ∀ (l : List Int) (a : Int), all1 (opOf 8) (W a) (l.map W) = W (a + l.sum)
  | [], a => by simp [all1]
  | b :: l, a => by
    have e : opOf 8 (W a) (W b) = W (a + b) := by
      show W (W a + W b) = W (a + b)
      rw [W_add, Int.add_comm, W_add, Int.add_comm]
    simp only [List.map_cons, all1, List.sum_cons]
    rw [e, all1_W l (a + b)]
    congr 1; omega

theorem all1_one : ∀ (l : List Pt) (a : Int), 0 ≤ a → a + l.length ≤ 1000000000 → all1 (opOf 11) a (l.map (vOf 11)) = a + l.length
  | [], a, _, _ => by simp [all1]
  | p :: l, a, h0, h1 => by
    simp only [List.length_cons] at h1
    have e : opOf 11 a (vOf 11 p) = a + 1 := by
      have : opOf 11 a (vOf 11 p) = W (a + 1) := rfl
      rw [this, CL.W_id _ (by omega) (by omega)]
    simp only [List.map_cons, all1, List.length_cons]
    rw [e, all1_one l (a + 1) (by omega) (by omega)]
    omega

/-- What a group comes to. -/
theorem fv_grp {c : Int} (h1 : 8 ≤ c) (h2 : c ≤ 11) (p : Pt) (g : List Pt) (hl : g.length ≤ 100000000) : fv c ((p :: g).map (·.2)) = all1 (opOf c) (vOf c p) (g.map (vOf c)) := by
  rcases (by omega : c = 8 ∨ c = 9 ∨ c = 10 ∨ c = 11) with rfl | rfl | rfl | rfl
  · have e1 : g.map (vOf 8) = (g.map (·.2)).map W := by rw [List.map_map]; rfl
    have e2 : vOf 8 p = W p.2 := rfl
    rw [e1, e2, all1_W]
    simp [fv]
  · have e1 : g.map (vOf 9) = g.map (·.2) := rfl
    have e2 : vOf 9 p = p.2 := rfl
    have e3 : opOf 9 = min := by funext a b; simp [opOf]
    rw [e1, e2, e3]
    simp [fv, allV]
  · have e1 : g.map (vOf 10) = g.map (·.2) := rfl
    have e2 : vOf 10 p = p.2 := rfl
    have e3 : opOf 10 = max := by funext a b; simp [opOf]
    rw [e1, e2, e3]
    simp [fv, allV]
  · rw [show vOf 11 p = 1 from rfl, all1_one g 1 (by omega) (by omega)]
    simp [fv]
    omega

/-- One round of it. -/
theorem puts_round {c : Int} (h1 : 8 ≤ c) (h2 : c ≤ 11) (acc : List Pt) (p : Pt) (g : List Pt) (hl : g.length ≤ 100000000) (hacc : ∀ x ∈ acc, LB.cmp x.1 p.1 = -1) (hg : ∀ q ∈ g, q.1 = p.1) : puts c acc (p :: g) = acc ++ [(p.1, fv c ((p :: g).map (·.2)))] := by
  rw [fv_grp h1 h2 p g hl]
  unfold puts
  rw [List.foldl_cons, put_end _ acc (p.1, vOf c p) hacc]
  exact puts_same c p.1 acc hacc g _ hg

theorem puts_append (c : Int) (acc a b : List Pt) : puts c acc (a ++ b) = puts c (puts c acc a) b := List.foldl_append ..

end EV
end Go.Proofs.YtdmnlmohfaafoaeGreatDoor

namespace Go.Proofs.YtdmnlmohfaafoaeGreatDoor
open Go.RowKit

/-- Numbers that lie there. -/
def VRow (w : World) (ao : Option Addr) (l : List Int) : Prop :=
  ∀ i, i < l.length → ∃ b off, ao = some ⟨b, off, none⟩ ∧ w.cell? ⟨b, off + i, none⟩ = some (.int .i64 (EV.av l i)) ∧ b < w.heap.size

theorem VRow.below {w w' : World} {ao : Option Addr} {l : List Int} (h : VRow w ao l) (k : Below w.heap.size w w') : VRow w' ao l := fun i hi => by
  obtain ⟨b, off, e, c, hb⟩ := h i hi
  exact ⟨b, off, e, (k.cell (p := ⟨b, _, none⟩) hb).trans c, Nat.lt_of_lt_of_le hb k.size⟩

set_option maxRecDepth 100000 in
theorem vsum_any (ao : Option Addr) (l : List Int) (cap : Nat) (w : World) (hV : VRow w ao l) (hl : l.length ≤ 1000000) :
    Calls Tryz.prog 176 #[.slice ao l.length cap] w fun e w' => e = .returned (.int .i64 (CL.W l.sum)) ∧ w' = w := by
  have HV := hid hV
  clear hV
  go_enter Tryz.func176, Tryz.ntmps176
  go_wp2_with fail
  go_loopw [2, 7] (fun ts ti wr => ∃ i : Nat, i ≤ l.length ∧ ti = .int .i64 i ∧ ts = .int .i64 (CL.W (l.take i).sum) ∧ wr = w) (fun _ ti _ => l.length - (intOf ti).toNat)
  case atStart => exact ⟨0, by omega, rfl, rfl, rfl⟩
  case round =>
    obtain ⟨i, hi, rfl, rfl, rfl⟩ := hrel
    by_cases hlt : i < l.length
    · obtain ⟨b, off, hao, hc, hb⟩ := HV.out i hlt
      subst hao
      have HT := hid (EV.sum_take l i hlt)
      have hil : 0 ≤ (i : Int) ∧ (i : Int) < (l.length : Int) := by omega
      generalize CL.W (l.take i).sum = a at *
      generalize EV.av l i = x at *
      go_wp2_with fail
      go_roundw
      case rel =>
        refine ⟨i + 1, by omega, by go_num, ?_, by trivial⟩
        rw [HT.out, W_wrap64]
      case measure => simp [intOf]; omega
    · have e : i = l.length := by omega
      subst e
      rw [List.take_length]
      go_wp2_with fail
      go_ret
      exact ⟨rfl, rfl⟩

theorem if_min (a x : Int) : (if x < a then x else a) = min a x := by split <;> omega
theorem if_max (a x : Int) : (if a < x then x else a) = max a x := by split <;> omega

set_option maxRecDepth 100000 in
theorem vmin_any (ao : Option Addr) (l : List Int) (cap : Nat) (w : World) (hV : VRow w ao l) (h0 : 0 < l.length) (hl : l.length ≤ 1000000) :
    Calls Tryz.prog 177 #[.slice ao l.length cap] w fun e w' => e = .returned (.int .i64 ((EV.allV min l).getD 0)) ∧ w' = w := by
  have HV := hid hV
  clear hV
  obtain ⟨b0, off0, hao0, hc0, _⟩ := HV.out 0 h0
  subst hao0
  rw [Nat.add_zero] at hc0
  have HO := hid (EV.all_one min l h0)
  have hn1 : ¬ (l.length : Int) < 1 := by omega
  have hn2 : 0 < (l.length : Int) := by omega
  go_enter Tryz.func177, Tryz.ntmps177
  go_wp2_with fail
  go_loopw [3, 4] (fun ts ti wr => ∃ i : Nat, 1 ≤ i ∧ i ≤ l.length ∧ ti = .int .i64 i ∧ ts = .int .i64 ((EV.allV min (l.take i)).getD 0) ∧ wr = w) (fun _ ti _ => l.length - (intOf ti).toNat)
  case atStart => exact ⟨1, by omega, by omega, rfl, by rw [HO.out], rfl⟩
  case round =>
    obtain ⟨i, h1, hi, rfl, rfl, rfl⟩ := hrel
    by_cases hlt : i < l.length
    · obtain ⟨b, off, hao, hc, hb⟩ := HV.out i hlt
      cases hao
      have HT := hid (EV.all_take min l i (by omega) hlt)
      have hil : 0 ≤ (i : Int) ∧ (i : Int) < (l.length : Int) := by omega
      generalize (EV.allV min (l.take i)).getD 0 = a at *
      generalize EV.av l i = x at *
      go_wp2_with fail
      go_roundw
      case rel =>
        refine ⟨i + 1, by omega, by omega, by go_num, ?_, by trivial⟩
        rw [HT.out, if_min]
      case measure => simp [intOf]; omega
    · have e : i = l.length := by omega
      subst e
      rw [List.take_length]
      go_wp2_with fail
      go_ret
      exact ⟨rfl, rfl⟩

set_option maxRecDepth 100000 in
theorem vmax_any (ao : Option Addr) (l : List Int) (cap : Nat) (w : World) (hV : VRow w ao l) (h0 : 0 < l.length) (hl : l.length ≤ 1000000) :
    Calls Tryz.prog 178 #[.slice ao l.length cap] w fun e w' => e = .returned (.int .i64 ((EV.allV max l).getD 0)) ∧ w' = w := by
  have HV := hid hV
  clear hV
  obtain ⟨b0, off0, hao0, hc0, _⟩ := HV.out 0 h0
  subst hao0
  rw [Nat.add_zero] at hc0
  have HO := hid (EV.all_one max l h0)
  have hn1 : ¬ (l.length : Int) < 1 := by omega
  have hn2 : 0 < (l.length : Int) := by omega
  go_enter Tryz.func178, Tryz.ntmps178
  go_wp2_with fail
  go_loopw [3, 4] (fun ts ti wr => ∃ i : Nat, 1 ≤ i ∧ i ≤ l.length ∧ ti = .int .i64 i ∧ ts = .int .i64 ((EV.allV max (l.take i)).getD 0) ∧ wr = w) (fun _ ti _ => l.length - (intOf ti).toNat)
  case atStart => exact ⟨1, by omega, by omega, rfl, by rw [HO.out], rfl⟩
  case round =>
    obtain ⟨i, h1, hi, rfl, rfl, rfl⟩ := hrel
    by_cases hlt : i < l.length
    · obtain ⟨b, off, hao, hc, hb⟩ := HV.out i hlt
      cases hao
      have HT := hid (EV.all_take max l i (by omega) hlt)
      have hil : 0 ≤ (i : Int) ∧ (i : Int) < (l.length : Int) := by omega
      generalize (EV.allV max (l.take i)).getD 0 = a at *
      generalize EV.av l i = x at *
      go_wp2_with fail
      go_roundw
      case rel =>
        refine ⟨i + 1, by omega, by omega, by go_num, ?_, by trivial⟩
        rw [HT.out, if_max]
      case measure => simp [intOf]; omega
    · have e : i = l.length := by omega
      subst e
      rw [List.take_length]
      go_wp2_with fail
      go_ret
      exact ⟨rfl, rfl⟩

set_option maxRecDepth 100000 in
theorem arith_any (c a b : Int) (w : World) (hc : 13 ≤ c ∧ c ≤ 16) :
    Calls Tryz.prog 184 #[.int .i64 c, .int .i64 a, .int .i64 b] w fun e w' => e = .returned (.tuple #[.int .i64 ((EV.two c a b).getD 0), .bool (EV.two c a b).isSome]) ∧ w' = w := by
  go_enter Tryz.func184, Tryz.ntmps184
  rcases (by omega : c = 13 ∨ c = 14 ∨ c = 15 ∨ c = 16) with rfl | rfl | rfl | rfl
  · go_wp2_with fail
    go_ret2
    exact ⟨by simp [EV.two, W_wrap64], rfl⟩
  · go_wp2_with fail
    go_ret2
    exact ⟨by simp [EV.two, W_wrap64], rfl⟩
  · go_wp2_with fail
    go_ret2
    exact ⟨by simp [EV.two, W_wrap64], rfl⟩
  · by_cases hb : b = 0
    · subst hb
      go_wp2_with fail
      go_ret2
      exact ⟨by simp [EV.two], rfl⟩
    · go_wp2_with fail
      go_ret2
      exact ⟨by simp [EV.two, hb, W_wrap64], rfl⟩

set_option maxRecDepth 100000 in
theorem fold_any (c : Int) (ao : Option Addr) (l : List Int) (cap : Nat) (w : World) (hV : VRow w ao l) (h0 : 0 < l.length) (hl : l.length ≤ 1000000) (hc : 2 ≤ c ∧ c ≤ 11) :
    Calls Tryz.prog 140 #[.int .i64 c, .slice ao l.length cap] w fun e w' => e = .returned (.int .i64 (EV.fv c l)) ∧ Below w.heap.size w w' := by
  have HV := hid hV
  clear hV
  obtain ⟨b0, off0, hao0, hc0, hb0⟩ := HV.out 0 h0
  subst hao0
  rw [Nat.add_zero] at hc0
  obtain ⟨b1, off1, hao1, hc1, _⟩ := HV.out (l.length - 1) (by omega)
  cases hao1
  have HS := fun W h => hid (vsum_any (some ⟨b0, off0, none⟩) l cap W h hl)
  have HMi := fun W h => hid (vmin_any (some ⟨b0, off0, none⟩) l cap W h h0 hl)
  have HMa := fun W h => hid (vmax_any (some ⟨b0, off0, none⟩) l cap W h h0 hl)
  have HC := hid hc
  have hF : EV.fv c l = if c = 2 then EV.av l (l.length - 1) else if c = 7 then CL.W (EV.av l (l.length - 1) - EV.av l 0) else if c = 4 ∨ c = 8 then CL.W l.sum else if c = 5 ∨ c = 9 then (EV.allV min l).getD 0 else if c = 6 ∨ c = 10 then (EV.allV max l).getD 0 else l.length := rfl
  have HF := hid hF
  clear hF hc
  generalize EV.fv c l = R at *
  generalize EV.av l (l.length - 1) = y at *
  generalize EV.av l 0 = x at *
  generalize CL.W l.sum = sm at *
  generalize (EV.allV min l).getD 0 = mi at *
  generalize (EV.allV max l).getD 0 = ma at *
  have hn1 : 0 < (l.length : Int) := by omega
  have hn2 : 0 ≤ (l.length : Int) - 1 ∧ (l.length : Int) - 1 < l.length := by omega
  have hn3 : ((l.length : Int) - 1).toNat = l.length - 1 := by omega
  go_enter Tryz.func140, Tryz.ntmps140
  go_wp2_with fail
  go_quiet (fail)
  have HB := hid (lbelow_drewN (Below.refl w.heap.size w) nq)
  have HV1 := hid (HV.out.below HB.out)
  generalize w.drewN nq = w1 at *
  clear hc0 hc1
  have hcs := HC.out
  rcases (by omega : c = 2 ∨ c = 3 ∨ c = 4 ∨ c = 5 ∨ c = 6 ∨ c = 7 ∨ c = 8 ∨ c = 9 ∨ c = 10 ∨ c = 11) with rfl | rfl | rfl | rfl | rfl | rfl | rfl | rfl | rfl | rfl
  · go_wp2_with fail
    go_ret
    exact ⟨by rw [HF.out]; simp, HB.out⟩
  · go_wp2_with fail
    go_ret
    exact ⟨by rw [HF.out]; simp, HB.out⟩
  · go_wp2_with fail
    refine (HS w1 HV1.out).out.mono ?_
    rintro e w2 ⟨rfl, rfl⟩
    go_wp2_with fail
    go_ret
    exact ⟨by rw [HF.out]; simp, HB.out⟩
  · go_wp2_with fail
    refine (HMi w1 HV1.out).out.mono ?_
    rintro e w2 ⟨rfl, rfl⟩
    go_wp2_with fail
    go_ret
    exact ⟨by rw [HF.out]; simp, HB.out⟩
  · go_wp2_with fail
    refine (HMa w1 HV1.out).out.mono ?_
    rintro e w2 ⟨rfl, rfl⟩
    go_wp2_with fail
    go_ret
    exact ⟨by rw [HF.out]; simp, HB.out⟩
  · go_wp2_with fail
    go_ret
    exact ⟨by rw [HF.out, ← W_wrap64]; simp, HB.out⟩
  · go_wp2_with fail
    refine (HS w1 HV1.out).out.mono ?_
    rintro e w2 ⟨rfl, rfl⟩
    go_wp2_with fail
    go_ret
    exact ⟨by rw [HF.out]; simp, HB.out⟩
  · go_wp2_with fail
    refine (HMi w1 HV1.out).out.mono ?_
    rintro e w2 ⟨rfl, rfl⟩
    go_wp2_with fail
    go_ret
    exact ⟨by rw [HF.out]; simp, HB.out⟩
  · go_wp2_with fail
    refine (HMa w1 HV1.out).out.mono ?_
    rintro e w2 ⟨rfl, rfl⟩
    go_wp2_with fail
    go_ret
    exact ⟨by rw [HF.out]; simp, HB.out⟩
  · go_wp2_with fail
    go_ret
    exact ⟨by rw [HF.out]; simp, HB.out⟩

theorem hfzv {w : World} {B : Nat} {c : Array Value} {T : TypeId} (h : w.heap[B]? = some (.cells c T)) (j : Nat) : w.frozen? ⟨B, j, none⟩ = false := by simp [World.frozen?, h]

theorem av_pt (l : List EV.Pt) (i : Nat) : EV.av (l.map (·.2)) i = (atP l i).2 := by
  unfold EV.av atP
  rw [List.getD, List.getD, List.getElem?_map]
  cases l[i]? <;> rfl

theorem vl_info : ∃ i, Tryz.prog.info? 2 = some i ∧ i.zero = some (.int .i64 0) ∧ i.size = 1 ∧ i.bytes = 8 := by
  have h : (Tryz.prog.info? 2).map (fun i => (i.zero, i.size, i.bytes)) = some (some (.int .i64 0), 1, 8) := by kernel_rfl
  cases hq : Tryz.prog.info? 2 with
  | none => rw [hq] at h; cases h
  | some i =>
    rw [hq] at h
    simp only [Option.map_some, Option.some.injEq, Prod.mk.injEq] at h
    exact ⟨i, rfl, h⟩

/-- The first ones of a row of numbers are told. -/
def VMk (w : World) (B : Nat) (l : List Int) (i : Nat) : Prop := ∃ cs : Array Value, w.heap[B]? = some (.cells cs 2) ∧ cs.size = l.length ∧ ∀ j, j < i → cs[j]? = some (.int .i64 (EV.av l j))

theorem VMk.below {w w' : World} {B : Nat} {l : List Int} {i : Nat} (h : VMk w B l i) (k : Below w.heap.size w w') : VMk w' B l i := by
  obtain ⟨cs, h1, h2⟩ := h
  exact ⟨cs, (k.block B (heap_lt h1)).trans h1, h2⟩

theorem VMk.put {w : World} {B : Nat} {l : List Int} {i : Nat} (h : VMk w B l i) (hi : i < l.length) : ∃ u, w.cell? ⟨B, i, none⟩ = some u ∧ w.frozen? ⟨B, i, none⟩ = false ∧ VMk (w.setCell ⟨B, i, none⟩ (.int .i64 (EV.av l i))) B l (i + 1) := by
  obtain ⟨cs, h1, h2, h3⟩ := h
  refine ⟨cs[i]'(by omega), zcell' _ _ _ _ h1 i _ (by simp), hfzv h1 i, cs.setIfInBounds i (.int .i64 (EV.av l i)), heap_setCell_same w B i _ _ _ h1, by simp [h2], fun j hj => ?_⟩
  by_cases e : j = i
  · subst e
    rw [Array.getElem?_setIfInBounds_self_of_lt (by omega)]
  · rw [Array.getElem?_setIfInBounds_ne (fun h => e h.symm)]
    exact h3 j (by omega)

theorem VMk.row {w : World} {B : Nat} {l : List Int} {i : Nat} (h : VMk w B l i) (hi : i = l.length) : VRow w (some ⟨B, 0, none⟩) l := by
  obtain ⟨cs, h1, h2, h3⟩ := h
  intro j hj
  exact ⟨B, 0, rfl, by rw [Nat.zero_add]; exact zcell' _ _ _ _ h1 j _ (h3 j (by omega)), heap_lt h1⟩

set_option maxRecDepth 100000 in
set_option maxHeartbeats 1600000 in
theorem smpVals_any (ao : Option Addr) (l : List CL.Smp) (cap : Nat) (w : World) (hS : SRow w ao l) (hl : l.length ≤ 1000000) :
    Calls Tryz.prog 141 #[.slice ao l.length cap] w fun e w' => ∃ vo vc, e = .returned (.slice vo l.length vc) ∧ VRow w' vo (l.map (·.2)) ∧ Below w.heap.size w w' := by
  have HS := hid hS
  clear hS
  obtain ⟨ii, hii, hz0, hz1, hz2⟩ := vl_info
  have hmk := run_makeSlice (P := Tryz.prog) (w := w) 219 2 ii (.int .i64 0) Tryz.underlying219 hii hz0 .i64 .i64 l.length l.length (by omega) (Int.le_refl _) (by rw [hz1]; omega) (by rw [hz2]; omega) (by omega)
  simp only [Int.toNat_natCast] at hmk
  have HV0 : Hid (VMk (w.alloc (.cells (madeCells (Value.int .i64 0).cells (l.length * ii.size)) 2)) w.heap.size (l.map (·.2)) 0) := ⟨_, heap_alloc_new w _, by rw [size_madeCells, hz1, List.length_map, Nat.mul_one], fun j hj => by omega⟩
  have HB0 : Hid (Below w.heap.size w (w.alloc (.cells (madeCells (Value.int .i64 0).cells (l.length * ii.size)) 2))) := (Below.refl _ w).alloc (Nat.le_refl _) _
  generalize w.alloc (.cells (madeCells (Value.int .i64 0).cells (l.length * ii.size)) 2) = w0 at *
  clear hii hz0 hz1 hz2
  go_enter Tryz.func141, Tryz.ntmps141
  go_wp2_with fail
  go_loopw [11] (fun ti wr => ∃ i : Nat, i ≤ l.length ∧ ti = .int .i64 i ∧ VMk wr w.heap.size (l.map (·.2)) i ∧ Below w.heap.size w wr) (fun ti _ => l.length - (intOf ti).toNat)
  case atStart => exact ⟨0, by omega, rfl, HV0.out, HB0.out⟩
  case round =>
    obtain ⟨i, hi, rfl, hV, hbel⟩ := hrel
    have HV := hid hV
    have HBl := hid hbel
    clear hV hbel HV0 HB0 hmk
    by_cases hlt : i < l.length
    · obtain ⟨b, off, hao, hc0, hc1, hbs⟩ := HS.out i hlt
      subst hao
      have c0 := (HBl.out.cell (p := ⟨b, off + i * 2, none⟩) hbs).trans hc0
      have c1 := (HBl.out.cell (p := ⟨b, off + i * 2 + 1, none⟩) hbs).trans hc1
      clear hc0 hc1
      have hil : 0 ≤ (i : Int) ∧ (i : Int) < (l.length : Int) := by omega
      have hbx : Below wr.heap.size wr (wr.alloc (.cells #[.int .i64 (CL.at' l i).1, .int .i64 (CL.at' l i).2] 78)) := (Below.refl _ wr).alloc (Nat.le_refl _) _
      have hV1 := HV.out.below hbx
      have HB1 := hid (HBl.out.trans (hbx.mono HBl.out.size))
      obtain ⟨u, hu, hf, hst⟩ := hV1.put (by rw [List.length_map]; exact hlt)
      rw [EV.av_map] at hst
      have HSt := hid hst
      clear hV1 hbx hst
      go_wp2_with fail
      go_roundw
      case rel => exact ⟨i + 1, by omega, by go_num, HSt.out, HB1.out.setCell (p := ⟨w.heap.size, _, none⟩) (Nat.le_refl _) _⟩
      case measure => simp [intOf]; omega
    · have e : i = l.length := by omega
      subst e
      go_wp2_with fail
      go_ret
      exact ⟨_, _, rfl, HV.out.row (by rw [List.length_map]), HBl.out⟩

set_option maxRecDepth 100000 in
set_option maxHeartbeats 1600000 in
theorem ptVals_any (ao : Option Addr) (l : List EV.Pt) (cap : Nat) (w : World) (hS : PRow w ao l) (hl : l.length ≤ 1000000) :
    Calls Tryz.prog 182 #[.slice ao l.length cap] w fun e w' => ∃ vo vc, e = .returned (.slice vo l.length vc) ∧ VRow w' vo (l.map (·.2)) ∧ Below w.heap.size w w' := by
  have HS := hid hS
  clear hS
  obtain ⟨ii, hii, hz0, hz1, hz2⟩ := vl_info
  have hmk := run_makeSlice (P := Tryz.prog) (w := w) 219 2 ii (.int .i64 0) Tryz.underlying219 hii hz0 .i64 .i64 l.length l.length (by omega) (Int.le_refl _) (by rw [hz1]; omega) (by rw [hz2]; omega) (by omega)
  simp only [Int.toNat_natCast] at hmk
  have HV0 : Hid (VMk (w.alloc (.cells (madeCells (Value.int .i64 0).cells (l.length * ii.size)) 2)) w.heap.size (l.map (·.2)) 0) := ⟨_, heap_alloc_new w _, by rw [size_madeCells, hz1, List.length_map, Nat.mul_one], fun j hj => by omega⟩
  have HB0 : Hid (Below w.heap.size w (w.alloc (.cells (madeCells (Value.int .i64 0).cells (l.length * ii.size)) 2))) := (Below.refl _ w).alloc (Nat.le_refl _) _
  generalize w.alloc (.cells (madeCells (Value.int .i64 0).cells (l.length * ii.size)) 2) = w0 at *
  clear hii hz0 hz1 hz2
  go_enter Tryz.func182, Tryz.ntmps182
  go_wp2_with fail
  go_loopw [11] (fun ti wr => ∃ i : Nat, i ≤ l.length ∧ ti = .int .i64 i ∧ VMk wr w.heap.size (l.map (·.2)) i ∧ Below w.heap.size w wr) (fun ti _ => l.length - (intOf ti).toNat)
  case atStart => exact ⟨0, by omega, rfl, HV0.out, HB0.out⟩
  case round =>
    obtain ⟨i, hi, rfl, hV, hbel⟩ := hrel
    have HV := hid hV
    have HBl := hid hbel
    clear hV hbel HV0 HB0 hmk
    by_cases hlt : i < l.length
    · obtain ⟨b, off, hao, hbs, lo, lc, hc0, hc1, hL⟩ := HS.out i hlt
      subst hao
      have c0 := (HBl.out.cell (p := ⟨b, off + i * 2, none⟩) hbs).trans hc0
      have c1 := (HBl.out.cell (p := ⟨b, off + i * 2 + 1, none⟩) hbs).trans hc1
      clear hc0 hc1 hL
      have hil : 0 ≤ (i : Int) ∧ (i : Int) < (l.length : Int) := by omega
      have hbx : Below wr.heap.size wr (wr.alloc (.cells #[.slice lo (atP l i).1.length lc, .int .i64 (atP l i).2] 55)) := (Below.refl _ wr).alloc (Nat.le_refl _) _
      have hV1 := HV.out.below hbx
      have HB1 := hid (HBl.out.trans (hbx.mono HBl.out.size))
      obtain ⟨u, hu, hf, hst⟩ := hV1.put (by rw [List.length_map]; exact hlt)
      rw [av_pt] at hst
      have HSt := hid hst
      clear hV1 hbx hst
      go_wp2_with fail
      go_roundw
      case rel => exact ⟨i + 1, by omega, by go_num, HSt.out, HB1.out.setCell (p := ⟨w.heap.size, _, none⟩) (Nat.le_refl _) _⟩
      case measure => simp [intOf]; omega
    · have e : i = l.length := by omega
      subst e
      go_wp2_with fail
      go_ret
      exact ⟨_, _, rfl, HV.out.row (by rw [List.length_map]), HBl.out⟩

end Go.Proofs.YtdmnlmohfaafoaeGreatDoor

