/-
  The document's store: an object is removed, laid.
-/
import Derived.Test.YtepmhgkegfpmjaaStFork
import Derived.Test.YtepmhgkegfpmjaaLsKit
import Derived.Deep.RegionLaw
namespace Go.Proofs.Ytepmhgkegfpmjaa
open Go.RowKit Go.Lib

/-- An append whose run is known, as a step of a region that draws its order. -/
theorem step_append_run {P : Program} {ops : Array Oper} {o : Oper} {a : Act} {w : World} {K : Act → World → Prop} {Q : Exit → Act → World → Prop} {E : Prop} (hgd : o.guard = none) (s x : Operand) (t tn : TypeId)
    (ho : o.op = .call { callee := .builtin .append, args := #[s, x], argTypes := #[t, tn] }) (vs vx : Value) (hs : a.eval s = vs) (hx : a.eval x = vx)
    (v' : Value) (w' : World) (hr : (Builtin.append_ #[t, tn] o.type #[vs, vx]).run P w = .ok v' w') (h : K (a.put o.dst v') w') :
    if Region.wanted o (yielded ops a.tmps) = true then Oper.wp P o a w K Q else E := by
  have hw : Region.wanted o (yielded ops a.tmps) = true := by simp [Region.wanted, hgd]
  rw [if_pos hw]
  exact wp_append_run w s x t tn ho vs vx hs hx v' w' hr h
theorem step_world {P : Program} {ops : Array Oper} {o : Oper} {a : Act} {w V : World} {K : Act → World → Prop} {Q : Exit → Act → World → Prop} {E : Prop} (hV : w = V)
    (h : if Region.wanted o (yielded ops a.tmps) = true then Oper.wp P o a V K Q else E) : if Region.wanted o (yielded ops a.tmps) = true then Oper.wp P o a w K Q else E := by
  subst hV
  exact h
theorem RSt.free {w : World} {b : Nat} {q f m : Int} {off : Bool} {v : Value} (h : RSt w b q f m off v) (j : Nat) : w.frozen? ⟨b, j, none⟩ = false := by simp [World.frozen?, show w.heap[b]? = _ from h]
theorem OS.zero {B : Nat} {v : Value} {L : List OB} {w : World} (h : OS B v L w) : OS 0 v L w := by
  refine ⟨h.own.1, ?_⟩
  rcases h.own.2 with h2 | ⟨g, cap, cur, e, hB, r⟩
  · exact .inl h2
  · exact .inr ⟨g, cap, cur, e, Nat.zero_le _, r⟩

/-- What stands from a place on: where it lies, if the room ends there. -/
theorem Src.tail {w w1 : World} {g c N : Nat} {L : List OB} (hS : Src w g 0 L) (hc : N ≤ c) (hN : N = L.length) (k : Nat) (hk : k ≤ L.length) (hB : Below w.heap.size w w1) (hg : g < w.heap.size) :
    ∃ o, (if c = k then some (⟨g, 0, none⟩ : Addr) else some ⟨g, k * 2, none⟩) = some ⟨g, o, none⟩ ∧ Src w1 g o (L.drop k) := by
  by_cases h : c = k
  · refine ⟨0, if_pos h, ?_⟩
    rw [List.drop_eq_nil_of_le (by omega)]
    intro i p hp
    simp at hp
  · refine ⟨k * 2, if_neg h, ?_⟩
    have := (hS.below hB hg).drop k
    rw [Nat.zero_add] at this
    exact this

set_option maxRecDepth 100000 in
set_option maxHeartbeats 800000 in
theorem rremove_any {w : World} {b : Nat} {q f m : Int} {off : Bool} {v : Value} {L : List OB} (hR : RSt w b q f m off v) (hO : OS 0 v L w) (hl : L.length ≤ 1000000) (i : Nat) (hi : i < L.length) :
    Calls Try.prog 54 #[.pointer (some ⟨b, 0, none⟩), .int .i64 (i : Int)] w fun e w' => e = .returned (.tuple #[]) ∧ ∃ v', RSt w' b q f m off v' ∧ OS 0 v' (L.take i ++ L.drop (i + 1)) w' ∧ Gs (fun j => j = b) w w' := by
  obtain ⟨g, c, rfl, hc, _, hg, hS⟩ := hO.src.resolve_left (by rintro ⟨_, rfl⟩; simp at hi)
  obtain ⟨N, hN⟩ : ∃ N, N = L.length := ⟨_, rfl⟩
  rw [← hN] at hR hc
  have y4 := hR.cell4
  have b1 : (i : Int) < (N : Int) := by omega
  have b0 : (0 : Int) ≤ (i : Int) := by omega
  have b2 : IntKind.i64.wrap ((i : Int) + 1) = (i : Int) + 1 := by simp [IntKind.wrap_i64]; omega
  have b3 : (i : Int) ≤ (c : Int) := by omega
  have b4 : (i : Int) + 1 ≤ (N : Int) := by omega
  have b5 : ((i : Int) + 1).toNat = i + 1 := by omega
  have b6 : (0 : Int) ≤ (i : Int) + 1 := by omega
  have hBE : Below w.heap.size w (w.alloc (.cells #[] 94)).drew := ((Below.refl _ _).alloc (Nat.le_refl _) _).drew
  have y4E : (w.alloc (.cells #[] 94)).cell? ⟨b, 4, none⟩ = some (.slice (some ⟨g, 0, none⟩) N c) := (hR.below hBE hR.lt).cell4
  have hE0 : OS (w.heap.size) (.slice (some ⟨w.heap.size, 0, none⟩) 0 0) [] (w.alloc (.cells #[] 94)).drew := ⟨(OS.empty (B := w.heap.size) (w := w) (Nat.le_refl _)).own⟩
  obtain ⟨v1, w1, hr1, hO1, hg1, hv1⟩ := hE0.app (b := g) (o := 0) (c := c) ((hS.below hBE hg).take i) (by simp; omega) (by show w.heap.size ≤ _; simp)
  rw [List.nil_append] at hO1
  rw [show (L.take i).length = i by rw [List.length_take]; omega] at hr1
  have hB1 : Below w.heap.size w w1 := hBE.grown hg1 (by show w.heap.size ≤ _; simp) (fun k hk => by simp only [Value.ownBlock, Option.some.injEq] at hk; omega)
  have hR1 := hR.below hB1 hR.lt
  have y41 := hR1.cell4
  obtain ⟨o2, ho2, hS2⟩ := hS.tail hc hN (i + 1) hi hB1 hg
  obtain ⟨v2, w2, hr2, hO2, hg2, hv2⟩ := hO1.app (b := g) (o := o2) (c := c - (i + 1)) hS2 (by simp; omega) hB1.size
  rw [show (L.drop (i + 1)).length = N - (i + 1) by rw [List.length_drop, ← hN], ← ho2] at hr2
  have hB2 : Below w.heap.size w w2 := hB1.grown hg2 hB1.size (fun k hk => (hO1.lt k hk).1)
  have hR2 := hR.below hB2 hR.lt
  have y42 := hR2.cell4
  have z42 := hR2.free 4
  have HF : Hid (∃ v', RSt (w2.setCell ⟨b, 4, none⟩ v2) b q f m off v' ∧ OS 0 v' (L.take i ++ L.drop (i + 1)) (w2.setCell ⟨b, 4, none⟩ v2) ∧ Gs (fun j => j = b) w (w2.setCell ⟨b, 4, none⟩ v2)) :=
    ⟨v2, hR2.set4 v2, (hO2.set hR.lt v2).zero, (Gs.of_below (fun j => j = b) hB2).set (a := ⟨b, 4, none⟩) (.inl rfl) _⟩
  obtain ⟨a1, c1, rfl⟩ : ∃ a1 c1, v1 = .slice a1 i c1 := by
    obtain ⟨a1, c1, e, _⟩ := hO1.ol
    exact ⟨a1, c1, by rw [e, List.length_take]; congr 1; omega⟩
  obtain ⟨a2, c2, rfl⟩ : ∃ a2 c2, v2 = .slice a2 (N - 1) c2 := by
    obtain ⟨a2, c2, e, _⟩ := hO2.ol
    exact ⟨a2, c2, by rw [e]; simp; congr 1; omega⟩
  have HN := hide hN
  have HR1 := hide (And.intro hr1 hr2)
  clear hN hl hi hS hS2 ho2 hO hg hR hBE hE0 hO1 hg1 hv1 hB1 hR1 hO2 hg2 hv2 hB2 hR2 hr1 hr2
  go_enter Try.func54, Try.ntmps54
  go_upto_region 0 with fail
  go_region_law (first | (refine step_world (V := (w.alloc (.cells #[] 94)).drew) (by with_reducible rfl) ?_; refine step_append_run rfl _ _ 90 90 rfl _ _ rfl rfl _ _ HR1.out.1 ?_) | (refine step_world (V := w1) (by with_reducible rfl) ?_; refine step_append_run rfl _ _ 90 90 rfl _ _ rfl rfl _ _ HR1.out.2 ?_))
  all_goals (
    go_end0
    exact ⟨rfl, HF.out⟩)
end Go.Proofs.Ytepmhgkegfpmjaa
