/- How many points a question comes to, plain; points that stay where another box is set. -/
import Derived.Test.YtdmnlmohfaafoaeGreatDoorPEEwOver
import Derived.Test.YtdmnlmohfaafoaeGreatDoorPEEwTwo
namespace Go.Proofs.YtdmnlmohfaafoaeGreatDoor
open Go.RowKit Go.Shelf

theorem atP_mem {l : List EV.Pt} {j : Nat} (h : j < l.length) : atP l j ∈ l := by
  rw [show atP l j = l[j] by unfold atP; rw [List.getD_eq_getElem?_getD, List.getElem?_eq_getElem h]; rfl]
  exact List.getElem_mem h

/-- Few points, of few labels each; alone: one at most. -/
structure EvFew (R : Bool × List EV.Pt) : Prop where
  len : R.2.length ≤ 1000
  one : R.1 = true → R.2.length ≤ 1
  lab : ∀ p ∈ R.2, p.1.length ≤ 1000

theorem put_len (op : Int → Int → Int) : ∀ (l : List EV.Pt) (p : EV.Pt), (EV.put op l p).length ≤ l.length + 1
  | [], _ => Nat.le_refl _
  | x :: r, p => by
    unfold EV.put
    split
    · simp
    · split
      · have := put_len op r p
        simp only [List.length_cons]
        omega
      · simp

theorem put_lab (op : Int → Int → Int) (n : Nat) : ∀ (l : List EV.Pt) (p : EV.Pt), (∀ x ∈ l, x.1.length ≤ n) → p.1.length ≤ n → ∀ x ∈ EV.put op l p, x.1.length ≤ n := fun l p h hp x hx => by
  rcases EV.put_mem hx with e | ⟨z, hz, e⟩
  · rw [e]; exact hp
  · rw [e]; exact h z hz

theorem puts_few (c : Int) (n : Nat) : ∀ (l acc : List EV.Pt), (∀ x ∈ acc, x.1.length ≤ n) → (∀ x ∈ l, x.1.length ≤ n) → (EV.puts c acc l).length ≤ acc.length + l.length ∧ ∀ x ∈ EV.puts c acc l, x.1.length ≤ n
  | [], acc, h, _ => ⟨Nat.le_refl _, h⟩
  | p :: r, acc, h, hl => by
    obtain ⟨h1, h2⟩ := puts_few c n r (EV.put (EV.opOf c) acc (p.1, EV.vOf c p)) (put_lab _ n acc _ h (hl p (by simp))) (fun x hx => hl x (by simp [hx]))
    refine ⟨?_, h2⟩
    have := put_len (EV.opOf c) acc (p.1, EV.vOf c p)
    simp only [List.length_cons]
    show (EV.puts c (EV.put (EV.opOf c) acc (p.1, EV.vOf c p)) r).length ≤ _
    omega

theorem grp_few (c : Int) (ns : List ByteArray) (l : List EV.Pt) (hl : ∀ x ∈ l, x.1.length ≤ 1000) : (EV.grp c ns l).length ≤ l.length ∧ ∀ x ∈ EV.grp c ns l, x.1.length ≤ 1000 := by
  rw [EV.grp_puts]
  obtain ⟨h1, h2⟩ := puts_few c 1000 (l.map fun p => (LB.only p.1 ns, p.2)) [] (fun x hx => by cases hx) (fun x hx => by
    obtain ⟨y, hy, rfl⟩ := List.mem_map.1 hx
    exact Nat.le_trans (List.length_filter_le _ _) (hl y hy))
  exact ⟨by simpa using h1, h2⟩

theorem sg_mem {c : Int} {L : List LB.Lab} {a b : Int} {x : EV.Pt} (h : x ∈ sg c L a b) : x.1 = L := by
  unfold sg at h
  cases hq : EV.two c a b with
  | none => rw [hq] at h; cases h
  | some v =>
    rw [hq] at h
    simp at h
    rw [h]

theorem prs_few (c : Int) : ∀ (f : Nat) (a b : List EV.Pt), (∀ x ∈ a, x.1.length ≤ 1000) → (EV.prs c f a b).length ≤ a.length ∧ ∀ x ∈ EV.prs c f a b, x.1.length ≤ 1000
  | 0, _, _, _ => ⟨Nat.zero_le _, fun x hx => by cases hx⟩
  | _ + 1, [], _, _ => ⟨Nat.le_refl _, fun x hx => by cases hx⟩
  | _ + 1, _ :: _, [], _ => ⟨Nat.zero_le _, fun x hx => by cases hx⟩
  | f + 1, x :: a, y :: b, h => by
    unfold EV.prs
    have ha : ∀ z ∈ a, z.1.length ≤ 1000 := fun z hz => h z (by simp [hz])
    split
    · obtain ⟨h1, h2⟩ := prs_few c f a b ha
      refine ⟨?_, fun z hz => ?_⟩
      · have := sg_len c x.1 x.2 y.2
        unfold sg at this
        rw [List.length_append, List.length_cons]
        omega
      · rcases List.mem_append.1 hz with hz | hz
        · rw [sg_mem (c := c) (a := x.2) (b := y.2) hz]; exact h x (by simp)
        · exact h2 z hz
    · split
      · obtain ⟨h1, h2⟩ := prs_few c f a (y :: b) ha
        exact ⟨Nat.le_trans h1 (by simp), h2⟩
      · exact prs_few c f (x :: a) b h

theorem both_few {c : Int} {a b : Bool × List EV.Pt} (ha : EvFew a) (hb : EvFew b) : EvFew (EV.both c a b) := by
  obtain ⟨ax, a⟩ := a
  obtain ⟨ay, b⟩ := b
  have hA : ∀ z ∈ a.flatMap (sgA c b), z.1.length ≤ 1000 := fun z hz => by
    obtain ⟨x, _, hx⟩ := List.mem_flatMap.1 hz
    obtain ⟨y, hy, hz⟩ := List.mem_flatMap.1 hx
    rw [sg_mem hz]; exact hb.lab y hy
  have hB : ∀ z ∈ b.flatMap (sgB c a), z.1.length ≤ 1000 := fun z hz => by
    obtain ⟨x, _, hx⟩ := List.mem_flatMap.1 hz
    obtain ⟨y, hy, hz⟩ := List.mem_flatMap.1 hx
    rw [sg_mem hz]; exact ha.lab y hy
  have e1 : (EV.both c (ax, a) (ay, b)).1 = (ax && ay) := rfl
  have hla := ha.len
  have hlb := hb.len
  refine ⟨?_, fun h => ?_, ?_⟩
  · rw [both_eq]
    split
    · rename_i h
      have h1 := ha.one h
      have h2 := flat_len a (sgA c b) b.length (fun x _ => sgA_len c b x)
      have h3 : a.length * b.length ≤ 1 * 1000 := Nat.mul_le_mul h1 hlb
      omega
    · split
      · rename_i h
        have h1 := hb.one h
        have h2 := flat_len b (sgB c a) a.length (fun x _ => sgB_len c a x)
        have h3 : b.length * a.length ≤ 1 * 1000 := Nat.mul_le_mul h1 hla
        omega
      · exact Nat.le_trans (prs_few c _ a b ha.lab).1 hla
  · rw [e1, Bool.and_eq_true] at h
    rw [both_eq, if_pos h.1]
    have h1 := ha.one h.1
    have h2 := hb.one h.2
    have h3 := flat_len a (sgA c b) b.length (fun x _ => sgA_len c b x)
    have h4 : a.length * b.length ≤ 1 * 1 := Nat.mul_le_mul h1 h2
    simp only at h1 h2
    omega
  · rw [both_eq]
    split
    · exact hA
    · split
      · exact hB
      · exact (prs_few c _ a b ha.lab).2

theorem pick_few {S : List Sr} (h : Askd S) (c : Int) (m : List LB.Mat) (sp t : Int) : EvFew (false, EV.pick c m sp t S) := by
  refine ⟨?_, fun e => (by cases e), fun p hp => ?_⟩
  · rw [pick_eq]
    simp only [List.length_map]
    exact Nat.le_trans (src_len _ _ _ _) h.few
  · rw [pick_eq] at hp
    obtain ⟨x, hx, rfl⟩ := List.mem_map.1 hp
    obtain ⟨k, hk, rfl⟩ := List.getElem_of_mem hx
    have := (src_facts h m (t - sp + 1) t k hk).2.1
    rw [show atSr (EV.src S m (t - sp + 1) t) k = (EV.src S m (t - sp + 1) t)[k] by unfold atSr; rw [List.getD_eq_getElem?_getD, List.getElem?_eq_getElem hk]; rfl] at this
    exact this

theorem ev_few {S : List Sr} (hS : Askd S) (t : Int) {d : Nat} {q : AQ.Q} (h : AQ.OkW d q) : ∀ R, EV.ev q t S = some R → EvFew R := by
  induction h with
  | num d n h h' =>
    intro R e
    cases e
    exact ⟨by simp, fun _ => by simp, fun p hp => by simp at hp; rw [hp]; simp⟩
  | pick d m h =>
    intro R e
    cases e
    exact pick_few hS 2 m 300 t
  | over d c m sp hc h hs =>
    intro R e
    unfold EV.ev at e
    rw [if_neg (by omega), if_pos (by omega)] at e
    cases e
    exact pick_few hS c m sp t
  | of d e' c nm q hc hn hq he ih =>
    intro R e
    unfold EV.ev at e
    rw [if_neg (by omega), if_neg (by omega), if_pos (by omega)] at e
    cases hv : EV.ev q t S with
    | none => rw [hv] at e; cases e
    | some a =>
      rw [hv] at e
      have ha := ih a hv
      simp only [Option.bind_some] at e
      split at e
      · cases e
      · cases e
        obtain ⟨h1, h2⟩ := grp_few c nm a.2 ha.lab
        exact ⟨Nat.le_trans h1 ha.len, fun e => (by cases e), h2⟩
  | neg d e' q hq he ih =>
    intro R e
    unfold EV.ev at e
    rw [if_neg (by omega), if_neg (by omega), if_neg (by omega), if_pos rfl] at e
    cases hv : EV.ev q t S with
    | none => rw [hv] at e; cases e
    | some a =>
      rw [hv] at e
      have ha := ih a hv
      cases e
      refine ⟨by simpa using ha.len, fun h => by simpa using ha.one h, fun p hp => ?_⟩
      obtain ⟨y, hy, rfl⟩ := List.mem_map.1 hp
      exact ha.lab y hy
  | sum d e' f c l r hc hl he hr hf ihl ihr =>
    intro R e
    unfold EV.ev at e
    rw [if_neg (by omega), if_neg (by omega), if_neg (by omega), if_neg (by omega)] at e
    cases hv : EV.ev l t S with
    | none => rw [hv] at e; cases e
    | some a =>
      cases hu : EV.ev r t S with
      | none => rw [hv, hu] at e; cases e
      | some b =>
        rw [hv, hu] at e
        cases e
        exact both_few (ihl a hv) (ihr b hu)
  | prod d e' f c l r hc hl he hr hf ihl ihr =>
    intro R e
    unfold EV.ev at e
    rw [if_neg (by omega), if_neg (by omega), if_neg (by omega), if_neg (by omega)] at e
    cases hv : EV.ev l t S with
    | none => rw [hv] at e; cases e
    | some a =>
      cases hu : EV.ev r t S with
      | none => rw [hv, hu] at e; cases e
      | some b =>
        rw [hv, hu] at e
        cases e
        exact both_few (ihl a hv) (ihr b hu)

/- Points stay where a block that is none of theirs turns. -/

/-- A block that holds no text, and no slice with a number behind it. -/
def NoPt (cs : Array Value) : Prop := (∀ (o : Nat) (s : ByteArray), cs[o]? ≠ some (.string s)) ∧ ∀ (o : Nat) (so : Option Addr) (n c : Nat) (x : Int), cs[o]? = some (.slice so n c) → cs[o + 1]? ≠ some (.int .i64 x)

theorem pv_but {W w' : World} {v : Value} {l : List EV.Pt} {g : Nat} {cs : Array Value} {T : TypeId} (h : PV W v l) (hg : W.heap[g]? = some (.cells cs T)) (hn : NoPt cs) (k : But g W w') : PV w' v l := by
  obtain ⟨po, pc, e, hr, hc⟩ := h
  refine ⟨po, pc, e, fun i hi => ?_, hc⟩
  obtain ⟨b, off, ea, hb, lo, lc, c0, c1, hL⟩ := hr i hi
  have hne : b ≠ g := fun e => by
    subst e
    simp only [World.cell?, hg] at c0 c1
    exact hn.2 _ _ _ _ _ (by simpa using c0) (by simpa using c1)
  have hcell : ∀ (b o : Nat), b < W.heap.size → b ≠ g → w'.cell? ⟨b, o, none⟩ = W.cell? ⟨b, o, none⟩ := fun b o hb hne => World.cell?_of_block (a := ⟨b, o, none⟩) (k.2.2.2.2 b hb hne)
  refine ⟨b, off, ea, Nat.lt_of_lt_of_le hb k.2.2.2.1, lo, lc, (hcell _ _ hb hne).trans c0, (hcell _ _ hb hne).trans c1, fun j hj => ?_⟩
  obtain ⟨b2, off2, e2, d0, d1, hb2⟩ := hL j hj
  have hne2 : b2 ≠ g := fun e => by
    subst e
    simp only [World.cell?, hg] at d0
    exact hn.1 _ _ (by simpa using d0)
  exact ⟨b2, off2, e2, (hcell _ _ hb2 hne2).trans d0, (hcell _ _ hb2 hne2).trans d1, Nat.lt_of_lt_of_le hb2 k.2.2.2.1⟩

theorem noPt_ak (t left : Int) (f : Value) (_hf : f.oneCell' = true) (h1 : ∀ s, f ≠ .string s) (h2 : ∀ a n c, f ≠ .slice a n c) : NoPt #[.int .i64 t, f, .int .i64 left] := by
  refine ⟨fun o s h => ?_, fun o so n c x h => ?_⟩
  · match o with
    | 0 => simp at h
    | 1 => simp at h; exact h1 s h
    | 2 => simp at h
    | o + 3 => simp at h
  · match o with
    | 0 => simp at h
    | 1 => simp at h; exact absurd h (h2 so n c)
    | 2 => simp at h
    | o + 3 => simp at h

theorem noPt_rs (so : Option Addr) (n c : Nat) (b : Bool) : NoPt #[.slice so n c, .bool b] := by
  refine ⟨fun o s h => ?_, fun o so n c x h h2 => ?_⟩
  · match o with
    | 0 => simp at h
    | 1 => simp at h
    | o + 2 => simp at h
  · match o with
    | 0 => simp at h2
    | 1 => simp at h
    | o + 2 => simp at h

theorem but_set (W : World) (g o : Nat) (u : Value) : But g W (W.setCell ⟨g, o, none⟩ u) := ⟨rfl, rfl, rfl, by rw [set_size]; exact Nat.le_refl _, fun j _ hj => Below.heap_setCell W ⟨g, o, none⟩ u j hj⟩
theorem but_set2 (W : World) (g : Nat) (u u' : Value) : But g W ((W.setCell ⟨g, 0, none⟩ u).setCell ⟨g, 1, none⟩ u') := (but_set W g 0 u).trans (but_set _ g 1 u')

end Go.Proofs.YtdmnlmohfaafoaeGreatDoor

