/-
  Lookup: a pack's items are dropped.
-/
import Derived.Test.YtkcefdiiibbflaaLuGet2
namespace Go.Proofs.Ytkcefdiiibbflaa
open Go.RowKit Go.Lib
/-- A table's lists. -/
def TV (R : Nat → Prop) (w : World) (tb : Nat) (vs : List Value) (L : List IT) : Prop :=
  w.heap[tb]? = some (.cells vs.toArray 49 (0, 0)) ∧ vs.length = 256 ∧ (∀ (i : Nat) (v : Value), vs[i]? = some v → OW it6 6 25 0 v (bkL L i) w ∧ v.ownBlock ≠ some tb ∧ ∀ b, v.ownBlock = some b → R b) ∧ ∀ (i j : Nat) (u v : Value) (b : Nat), vs[i]? = some u → vs[j]? = some v → u.ownBlock = some b → v.ownBlock = some b → i = j
section
variable {R p : Nat → Prop} {w w1 : World} {tb j : Nat} {vs : List Value} {L L' : List IT} {v v' : Value}
theorem TV.put (h : TV R w tb vs L) (hR : ∀ i, R i → i < w.heap.size) (hv : vs[j]? = some v) (hG : Gs p w w1) (hp : ∀ i, p i → v.ownBlock = some i ∨ (¬ R i ∧ i ≠ tb)) (hO : OW it6 6 25 0 v' (bkL L' j) w1)
    (hb : v'.ownBlock = v.ownBlock ∨ ∃ b, v'.ownBlock = some b ∧ w.heap.size ≤ b) (hL : ∀ i, i ≠ j → bkL L' i = bkL L i) :
    w1.cell? ⟨tb, j, none⟩ = some v ∧ w1.frozen? ⟨tb, j, none⟩ = false ∧ TV (fun i => R i ∨ v'.ownBlock = some i) (w1.setCell ⟨tb, j, none⟩ v') tb (vs.set j v') L' ∧ Gs (fun i => i = tb) w1 (w1.setCell ⟨tb, j, none⟩ v') := by
  obtain ⟨h1, h2, h3, h4⟩ := h
  have htb := lt_of_block h1
  have hj : j < vs.length := (List.getElem?_eq_some_iff.1 hv).1
  have hvb := (h3 j v hv).2
  have k1 : w1.heap[tb]? = some (.cells vs.toArray 49 (0, 0)) := (hG.block tb htb (fun e => by
    rcases hp tb e with h | h
    · exact hvb.1 h
    · exact h.2 rfl)).trans h1
  have hv'b : v'.ownBlock ≠ some tb := fun e => by
    rcases hb with h | ⟨b, h, hb⟩
    · rw [h] at e; exact hvb.1 e
    · rw [h] at e; cases e; omega
  have hGs : Gs (fun i => i = tb) w1 (w1.setCell ⟨tb, j, none⟩ v') := ⟨rfl, rfl, rfl, by simp [World.setCell], fun i _ hp => heap_setCell_other _ _ _ _ (fun e => hp e)⟩
  refine ⟨by rw [cell_of_row w1 _ _ _ _ _ k1]; simpa using hv, by simp [World.frozen?, k1], ⟨?_, by rw [List.length_set]; exact h2, fun i u hu => ?_, fun i i' u u' b hu hu' hb1 hb2 => ?_⟩, hGs⟩
  · have := heap_set_self (j := j) (u := v') k1
    rw [List.setIfInBounds_toArray] at this
    exact this
  · by_cases e : j = i
    · subst e
      rw [List.getElem?_set_self hj] at hu
      cases hu
      exact ⟨hO.gs hGs (fun i hi e => hv'b (by rw [← e]; exact hi)), hv'b, fun b hb => .inr hb⟩
    · rw [List.getElem?_set_ne e] at hu
      obtain ⟨o1, o2, o3⟩ := h3 i u hu
      rw [hL i (fun h => e h.symm)]
      exact ⟨(o1.gs hG (fun b hb hpb => by
        rcases hp b hpb with h | h
        · exact e (h4 j i v u b hv hu h hb)
        · exact h.1 (o3 b hb))).gs hGs (fun b hb e => o2 (by rw [← e]; exact hb)), o2, fun b hb => .inl (o3 b hb)⟩
  · have key : ∀ (i : Nat) (u : Value), i ≠ j → vs[i]? = some u → ∀ b, u.ownBlock = some b → v'.ownBlock ≠ some b := fun i u hi hu b hub hvb2 => by
      rcases hb with h | ⟨b', h, hb'⟩
      · rw [h] at hvb2
        exact hi (h4 i j u v b hu hv hub hvb2)
      · rw [h] at hvb2
        cases hvb2
        have := hR b ((h3 i u hu).2.2 b hub)
        omega
    by_cases e : j = i
    · by_cases e' : j = i'
      · omega
      · subst e
        rw [List.getElem?_set_self hj] at hu
        cases hu
        rw [List.getElem?_set_ne e'] at hu'
        exact absurd hb1 (key i' u' (fun h => e' h.symm) hu' b hb2)
    · rw [List.getElem?_set_ne e] at hu
      by_cases e' : j = i'
      · subst e'
        rw [List.getElem?_set_self hj] at hu'
        cases hu'
        exact absurd hb2 (key i u (fun h => e h.symm) hu b hb1)
      · rw [List.getElem?_set_ne e'] at hu'
        exact h4 i i' u u' b hu hu' hb1 hb2
end
section
variable {w : World} {v fv : Value} {B : List IT} {p : IT → Bool} {K : World → Prop}
theorem delO (hp : PR fv p K) (hKg : ∀ w w', K w → Gs (fun i => v.ownBlock = some i) w w' → K w') (hO : OW it6 6 25 0 v B w) (hn : B.length ≤ 1000000) (hK : K w) :
    Calls Try.prog 30 #[v, fv] w fun e w' => ∃ a c, e = .returned (.slice a (B.filter fun x => !p x).length c) ∧ OW it6 6 25 0 (.slice a (B.filter fun x => !p x).length c) (B.filter fun x => !p x) w' ∧ Gs (fun i => v.ownBlock = some i) w w' ∧ (Value.slice a (B.filter fun x => !p x).length c).ownBlock = v.ownBlock := by
  rcases ow_sg hO with ⟨rfl, rfl⟩ | ⟨g, cap, rfl, hc, hcm, _, hSG⟩
  · have HI := hide (indexF_any (r := fun _ => True) hp ⟨none, 0, rfl, fun _ => rfl, .inl rfl⟩ (by simp) hK)
    have HX : Hid (ixF p [] = -1) := hide rfl
    rw [HX.out] at HI
    have hOn := OW.nil it6 6 25 0
    obtain ⟨f, fb, cb, rfl, _⟩ := hp.ex
    simp only [List.length_nil] at HI
    simp only [List.filter_nil, List.length_nil]
    go_enter Try.func30, Try.ntmps30
    go_wp2_with fail
    refine HI.out.mono ?_
    rintro e w1 ⟨rfl, hB1⟩
    have HB1 := hide hB1
    clear hB1
    go_wp2
    go_ret
    exact ⟨none, 0, rfl, hOn _, Gs.of_below _ HB1.out, rfl⟩
  · refine (del_any (c := cap) hp (fun w w' h hg => hKg w w' h (hg.mono fun i _ e => by rw [e]; rfl)) hSG (by omega) hc (by unfold maxLen at hcm; omega) hK).mono ?_
    rintro e w1 ⟨rfl, hS, hG, _⟩
    exact ⟨_, _, rfl, sg_ow (Nat.zero_le _) (Nat.le_trans (List.length_filter_le _ _) hc) hcm hS, hG.mono fun i _ e => by rw [e]; rfl, rfl⟩
end
end Go.Proofs.Ytkcefdiiibbflaa
