/- A law for regions that draw their order, all of whose operations tell one value each, and of which the last one alone writes. Names no function. -/
import Derived.Test.YtdmnlmohfaafoaeDoorHrReg
namespace Go.Proofs.YtdmnlmohfaafoaeDoor
namespace TL
variable {P : Program}

theorem Does.mono' {o : Oper} {a : Act} {w : World} {Φ Ψ : Value → World → Prop} (h : Does P o a w Φ) (hk : ∀ v w', Φ v w' → Ψ v w') : Does P o a w Ψ := by
  rcases h with ⟨v, w', e, h⟩ | ⟨w', e, h⟩ | ⟨f, args, w1, e, h⟩
  · exact .inl ⟨v, w', e, hk _ _ h⟩
  · exact .inr (.inl ⟨w', e, hk _ _ h⟩)
  · exact .inr (.inr ⟨f, args, w1, e, h.mono fun e w' ⟨v, he, hv⟩ => ⟨v, he, hk _ _ hv⟩⟩)

theorem wp_vals {l : List Oper} {id : Nat} {a0 : Act} {w : World} {Q : Exit → Act → World → Prop} (m : Nat) (ds : List Tmp) (C1 C2 : World → Prop) (vals : List Value) (hm : P.follows .mixedOrders = true) (hok : (okB l.toArray && l.all fun o => o.guard.isNone) = true) (hds : dstsB l.toArray ds = true) (n : Nat) (hn : a0.tmps.size = n) (hsz : ds.all (fun d => decide (d < n)) = true)
    (hreach : (decide (m < l.length) && (List.range l.length).all fun i => reach l l.length m i) = true) (hC : C1 w.drew)
    (hstep : ∀ i o, l[i]? = some o → ∀ a w, Like l.toArray a0 a → C1 w → (∀ j, waits o j = true → valAt l.toArray a j = vals.getD j undef) → Does P o a w fun v w' => (if i = m then C2 w' else C1 w') ∧ seen o v = vals.getD i undef)
    (hend : ∀ f w, C2 w → Q .normal (puts f ds a0) w) : (Code.region id l.toArray true).wp P Q a0 w := by
  simp only [Bool.and_eq_true, decide_eq_true_eq, List.all_eq_true, List.mem_range] at hreach
  refine wp_told ds (fun L W => (L m = false → C1 W) ∧ (L m = true → C2 W)) (fun _ i _ v => v = vals.getD i undef) hm hok hds n hn hsz ⟨fun _ => hC, fun e => by cases e⟩ ?_ ?_
  · intro i o hi L a w hL _ hcl hlike hC hdep
    have hil : i < l.length := by
      rcases Nat.lt_or_ge i l.length with h | h
      · exact h
      · rw [List.getElem?_eq_none h] at hi; cases hi
    have hLm : L m = false := undone hcl l.length m i (hreach.2 i hil) hL
    refine (hstep i o hi a w hlike (hC.1 hLm) fun j hj => (hdep j hj).2).mono' fun v w' hv => ⟨?_, hv.2, fun j _ _ ht => ht⟩
    by_cases e : i = m
    · have h2 := hv.1
      rw [if_pos e] at h2
      refine ⟨fun h => ?_, fun _ => h2⟩
      subst e
      simp [upd] at h
    · have h2 := hv.1
      rw [if_neg e] at h2
      refine ⟨fun _ => h2, fun h => ?_⟩
      have : upd L i m = L m := by simp only [upd]; rw [if_neg (fun h => e h.symm)]
      rw [this, hLm] at h
      cases h
  · intro L f w hL hC _
    exact hend f w (hC.2 (hL m hreach.1))

end TL
end Go.Proofs.YtdmnlmohfaafoaeDoor
