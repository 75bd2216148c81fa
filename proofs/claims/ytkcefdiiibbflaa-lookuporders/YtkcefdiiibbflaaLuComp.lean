/-
  Lookup: slices.Compact at items.
-/
import Derived.Test.YtkcefdiiibbflaaLuDel
import Derived.Test.YtkcefdiiibbflaaLuEq
import Derived.Deep.QuietTactic
import Derived.BigQuiet
namespace Go.Proofs.Ytkcefdiiibbflaa
open Go.RowKit Go.Lib
/-- Those that are unlike the one ahead. -/
def ddA : IT → List IT → List IT
  | _, [] => []
  | p, y :: r => if y = p then ddA p r else y :: ddA y r
def dd : List IT → List IT
  | [] => []
  | x :: r => x :: ddA x r
theorem ddA_pos {x p : IT} {A : List IT} (h : x = p) : ddA p (x :: A) = ddA p A := by rw [ddA, if_pos h]
theorem ddA_neg {x p : IT} {A : List IT} (h : ¬ x = p) : ddA p (x :: A) = x :: ddA x A := by rw [ddA, if_neg h]
theorem ddA_step : ∀ (r : List IT) (p : IT) (j : Nat) (y z : IT), r[j + 1]? = some y → r[j]? = some z → ddA p (r.take (j + 2)) = if y = z then ddA p (r.take (j + 1)) else ddA p (r.take (j + 1)) ++ [y]
  | [], _, _, _, _, h, _ => by simp at h
  | [_], _, _, _, _, h, _ => by simp at h
  | x :: x2 :: r, p, 0, y, z, hy, hz => by
    simp at hy hz
    subst hy hz
    simp only [List.take_succ_cons, List.take_zero, ddA]
    by_cases h1 : x = p
    · subst h1
      simp only [if_true]
      by_cases h2 : x2 = x <;> simp [h2]
    · simp only [if_neg h1]
      by_cases h2 : x2 = x <;> simp [h2]
  | x :: x2 :: r, p, j + 1, y, z, hy, hz => by
    have ih := fun p => ddA_step (x2 :: r) p j y z (by simpa using hy) (by simpa using hz)
    show ddA p (x :: (x2 :: r).take (j + 2)) = if y = z then ddA p (x :: (x2 :: r).take (j + 1)) else ddA p (x :: (x2 :: r).take (j + 1)) ++ [y]
    by_cases h1 : x = p
    · rw [ddA_pos h1, ddA_pos h1]; exact ih p
    · rw [ddA_neg h1, ddA_neg h1, ih x]
      split <;> simp
theorem dd_step {L : List IT} {j : Nat} {y z : IT} (hy : L[j + 1]? = some y) (hz : L[j]? = some z) : dd (L.take (j + 2)) = if y = z then dd (L.take (j + 1)) else dd (L.take (j + 1)) ++ [y] := by
  cases L with
  | nil => simp at hy
  | cons x r =>
    cases j with
    | zero =>
      simp at hy hz
      subst hz
      cases r with
      | nil => simp at hy
      | cons x2 r =>
        simp at hy
        subst hy
        simp only [List.take_succ_cons, List.take_zero, dd, ddA]
        by_cases h2 : x2 = x <;> simp [h2]
    | succ j =>
      rw [List.take_succ_cons, List.take_succ_cons (i := j + 1), dd, dd, ddA_step r x j y z (by simpa using hy) (by simpa using hz)]
      split <;> simp
theorem mem_ddA : ∀ (r : List IT) (p x : IT), (x = p ∨ x ∈ ddA p r) ↔ (x = p ∨ x ∈ r)
  | [], _, _ => by simp [ddA]
  | y :: r, p, x => by
    have ih := mem_ddA r
    rw [ddA]
    by_cases h : y = p
    · subst h
      rw [if_pos rfl, ih y x]
      simp
    · rw [if_neg h]
      simp only [List.mem_cons]
      rw [ih y x]
theorem mem_dd (L : List IT) (x : IT) : x ∈ dd L ↔ x ∈ L := by
  cases L with
  | nil => simp [dd]
  | cons y r => simp only [dd, List.mem_cons]; exact mem_ddA r y x
theorem ss_ddA : ∀ (r : List IT) (p : IT), (p :: r).Pairwise (fun x y => lI y x = false) → SS (p :: ddA p r)
  | [], p, _ => List.pairwise_singleton _ _
  | y :: r, p, h => by
    obtain ⟨h1, h2⟩ := List.pairwise_cons.1 h
    obtain ⟨h3, h4⟩ := List.pairwise_cons.1 h2
    rw [ddA]
    by_cases e : y = p
    · rw [if_pos e]
      exact ss_ddA r p (List.pairwise_cons.2 ⟨fun z hz => h1 z (by simp [hz]), h4⟩)
    · rw [if_neg e]
      have ih := ss_ddA r y h2
      obtain ⟨h5, _⟩ := List.pairwise_cons.1 ih
      have hpy : lI p y = true := by
        cases hq : lI p y
        · exact absurd (lI_total (h1 y (by simp)) hq) e
        · rfl
      refine List.pairwise_cons.2 ⟨fun z hz => ?_, ih⟩
      rcases List.mem_cons.1 hz with rfl | hz
      · exact hpy
      · exact lI_trans hpy (h5 z hz)
theorem ss_dd {L : List IT} (h : L.Pairwise fun x y => lI y x = false) : SS (dd L) := by
  cases L with
  | nil => exact SS.nil
  | cons x r => exact ss_ddA r x h
theorem dd_len : ∀ (r : List IT) (p : IT), (ddA p r).length ≤ r.length
  | [], _ => Nat.le_refl _
  | y :: r, p => by
    have := dd_len r
    rw [ddA]
    split
    · exact Nat.le_succ_of_le (this p)
    · exact Nat.succ_le_succ (this y)
theorem drop_next {M L : List IT} {j : Nat} (h : M.drop j = L.drop j) : M.drop (j + 1) = L.drop (j + 1) := by
  have := congrArg (List.drop 1) h
  simpa [List.drop_drop] using this
theorem below_dq (w : World) (q : Nat) : Below w.heap.size w (w.drewN q) := ⟨rfl, rfl, rfl, Nat.le_refl _, fun _ _ => rfl⟩
section
variable {r : Nat → Prop} {w : World} {L : List IT}
set_option maxHeartbeats 1600000 in
theorem compact_small {a : Option Addr} {n c : Nat} (hn : n < 2) :
    Calls Try.prog 36 #[.slice a n c] w fun e w' => e = .returned (.slice a n c) ∧ w' = w := by
  have b1 : (n : Int) < 2 := by omega
  go_enter Try.func36, Try.ntmps36
  go_wp2
  go_ret
  exact ⟨rfl, rfl⟩
set_option maxRecDepth 100000 in
set_option maxHeartbeats 3200000 in
theorem compact_any {g o N c : Nat} (h : SG w g o N L) (hn : L.length ≤ 1000000) (h2 : 2 ≤ L.length) (hc : L.length ≤ c) (hcm : c ≤ 9223372036854775807) :
    Calls Try.prog 36 #[.slice (some ⟨g, o, none⟩) L.length c] w fun e w' => e = .returned (.slice (some ⟨g, o, none⟩) (dd L).length c) ∧ SG w' g o N (dd L) ∧ Gs (fun i => i = g) w w' := by
  have H := hide h
  obtain ⟨n, hnn⟩ : ∃ n, n = L.length := ⟨_, rfl⟩
  have HN := hide hnn
  rw [← hnn] at hn h2 hc ⊢
  have b2 : ¬ (n : Int) < 2 := by omega
  have hmf : Try.prog.eqGuardType Try.prog.depth 25 = false := by kernel_rfl
  clear h hnn
  go_enter Try.func36, Try.ntmps36
  go_wp2
  go_loopw [3] (fun a wr => ∃ (k : Nat), k + 1 ≤ n ∧ a = .int .i64 ((k + 1 : Nat) : Int) ∧ dd (L.take (k + 1)) = L.take (k + 1) ∧ SG wr g o N L ∧ Gs (fun i => i = g) w wr) (fun a _ => n - (RowKit.intOf a).toNat)
  case atStart =>
    refine ⟨0, by omega, rfl, ?_, H.out, Gs.refl _ _⟩
    cases L with
    | nil => rfl
    | cons x r => rfl
  case round =>
    obtain ⟨k, hk, rfl, hdd, hSG, hG⟩ := hrel
    have HR := hide (And.intro hdd (And.intro hSG hG))
    clear hdd hSG hG
    by_cases hlt : k + 1 < n
    · have b3 : ((k + 1 : Nat) : Int) < (n : Int) := by omega
      have b4 : (0 : Int) ≤ ((k + 1 : Nat) : Int) := by omega
      have b5 : (0 : Int) ≤ (k : Int) := by omega
      have b6 : (k : Int) < (n : Int) := by omega
      obtain ⟨y, hy⟩ : ∃ y, L[k + 1]? = some y := ⟨_, List.getElem?_eq_getElem (by have := HN.out; omega)⟩
      obtain ⟨z, hz⟩ : ∃ z, L[k]? = some z := ⟨_, List.getElem?_eq_getElem (by have := HN.out; omega)⟩
      have hcy : ∀ (t : Nat) (v : Value), (it6 y)[t]? = some v → wr.cell? ⟨g, o + (k + 1) * 6 + t, none⟩ = some v := fun t v hv => HR.out.2.1.at hy t v hv
      have hcz : ∀ (t : Nat) (v : Value), (it6 z)[t]? = some v → wr.cell? ⟨g, o + k * 6 + t, none⟩ = some v := fun t v hv => HR.out.2.1.at hz t v hv
      have u0 := hcy 0 _ rfl
      have u1 := hcy 1 _ rfl
      have u2 := hcy 2 _ rfl
      have u3 := hcy 3 _ rfl
      have u4 := hcy 4 _ rfl
      have u5 := hcy 5 _ rfl
      have v0 := hcz 0 _ rfl
      have v1 := hcz 1 _ rfl
      have v2 := hcz 2 _ rfl
      have v3 := hcz 3 _ rfl
      have v4 := hcz 4 _ rfl
      have v5 := hcz 5 _ rfl
      simp only [Nat.add_zero] at u0 v0
      have HS := hide (dd_step hy hz)
      have HYZ := hide (And.intro hy hz)
      have q := fun w => eqIt y z w
      simp only [it6] at q
      have e1 : ((k + 1 : Nat) : Int) - 1 = (k : Int) := by omega
      clear hcy hcz hy hz
      by_cases hyz : y = z
      · rw [decide_eq_true hyz] at q
        have HY1 : Hid (dd (L.take (k + 2)) = L.take (k + 1)) := by rw [HS.out, if_pos hyz]; exact hide HR.out.1
        have b7 : ((k + 1 : Nat) : Int) ≤ (n : Int) := by omega
        have b8 : ((k + 1 : Nat) : Int) ≤ (c : Int) := by omega
        go_wp2
        go_quiet (fail)
        go_wp2
        generalize hWq : World.drewN wr _ = Wq
        have HR2 : Hid (SG Wq g o N L ∧ Gs (fun i => i = g) w Wq) := by rw [← hWq]; exact ⟨HR.out.2.1.kb rfl, HR.out.2.2.bel (below_dq _ _)⟩
        clear hWq HS HYZ q u0 u1 u2 u3 u4 u5 v0 v1 v2 v3 v4 v5 HR e1
        have e13 : decide ((k : Int) + 1 < (n : Int)) = true := by rw [decide_eq_true_eq]; omega
        try rw [e13]
        obtain ⟨k0, hk0⟩ : ∃ k0, k0 = k + 1 := ⟨_, rfl⟩
        rw [← hk0]
        rw [← hk0] at b3 b4 b7 b8 hlt
        have HY2 : Hid (dd (L.take (k0 + 1)) = L.take k0) := by rw [hk0]; exact HY1
        clear HY1 e13 hk hk0
        go_loopw [3, 5] (fun a b wx => ∃ (i q : Nat) (M : List IT), i ≤ k0 + q ∧ k0 + q + 1 ≤ n ∧ a = .int .i64 (i : Int) ∧ b = .int .i64 ((q + 1 : Nat) : Int) ∧ SG wx g o N M ∧ M.length = n ∧ M.take i = dd (L.take (k0 + q + 1)) ∧ M.drop (k0 + q) = L.drop (k0 + q) ∧ Gs (fun i => i = g) w wx) (fun _ b _ => n - (RowKit.intOf b).toNat)
        case atStart => exact ⟨k0, 0, L, by omega, by omega, rfl, rfl, HR2.out.1, HN.out.symm, HY2.out.symm, rfl, HR2.out.2⟩
        case round =>
          obtain ⟨i, q, M, hiq, hqn, rfl, rfl, hSG, hML, hT, hD, hG⟩ := hrel
          have HX := hide (And.intro hSG (And.intro hML (And.intro hT (And.intro hD hG))))
          clear hSG hML hT hD hG HR2 b3 b4 b5 b6 b7
          by_cases hq : k0 + q + 1 < n
          · have c1 : ((q + 1 : Nat) : Int) < ((n - k0 : Nat) : Int) := by omega
            have c2 : (0 : Int) ≤ ((q + 1 : Nat) : Int) := by omega
            have c3 : (q : Int) < ((n - k0 : Nat) : Int) := by omega
            have c4 : (0 : Int) ≤ (q : Int) := by omega
            have c5 : (i : Int) < (n : Int) := by omega
            have c6 : (0 : Int) ≤ (i : Int) := by omega
            have e1 : ((q + 1 : Nat) : Int) - 1 = (q : Int) := by omega
            obtain ⟨y, hy⟩ : ∃ y, L[k0 + q + 1]? = some y := ⟨_, List.getElem?_eq_getElem (by have := HN.out; omega)⟩
            obtain ⟨z, hz⟩ : ∃ z, L[k0 + q]? = some z := ⟨_, List.getElem?_eq_getElem (by have := HN.out; omega)⟩
            have hyM : M[k0 + q + 1]? = some y := by
              have := congrArg (·[1]?) HX.out.2.2.2.1
              simpa [List.getElem?_drop, hy] using this
            have hzM : M[k0 + q]? = some z := by
              have := congrArg (·[0]?) HX.out.2.2.2.1
              simpa [List.getElem?_drop, hz] using this
            have HCY : Hid (∀ W : World, W.heap[g]? = wr.heap[g]? → ∀ (t : Nat) (v : Value), (it6 y)[t]? = some v → W.cell? ⟨g, o + k0 * 6 + (q + 1) * 6 + t, none⟩ = some v) := fun W hW t v hv => by
              rw [show o + k0 * 6 + (q + 1) * 6 = o + (k0 + q + 1) * 6 by omega]
              exact (HX.out.1.kb hW).at hyM t v hv
            have hcy := HCY.out wr rfl
            have hcz : ∀ (t : Nat) (v : Value), (it6 z)[t]? = some v → wr.cell? ⟨g, o + k0 * 6 + q * 6 + t, none⟩ = some v := fun t v hv => by
              rw [show o + k0 * 6 + q * 6 = o + (k0 + q) * 6 by omega]
              exact HX.out.1.at hzM t v hv
            have u0 := hcy 0 _ rfl
            have u1 := hcy 1 _ rfl
            have u2 := hcy 2 _ rfl
            have u3 := hcy 3 _ rfl
            have u4 := hcy 4 _ rfl
            have u5 := hcy 5 _ rfl
            have v0 := hcz 0 _ rfl
            have v1 := hcz 1 _ rfl
            have v2 := hcz 2 _ rfl
            have v3 := hcz 3 _ rfl
            have v4 := hcz 4 _ rfl
            have v5 := hcz 5 _ rfl
            simp only [Nat.add_zero] at u0 v0
            have HS := hide (dd_step hy hz)
            have HYZ := hide (And.intro hy hyM)
            have qq := fun w => eqIt y z w
            simp only [it6] at qq
            clear hcy hcz hy hz hyM hzM
            by_cases hyz : y = z
            · rw [decide_eq_true hyz] at qq
              rw [if_pos hyz] at HS
              go_wp2
              go_quiet (fail)
              go_wp2
              exact ⟨⟨i, q + 1, M, by omega, by omega, rfl, by go_num, HX.out.1.kb rfl, HX.out.2.1, by rw [HX.out.2.2.1]; exact HS.out.symm, drop_next HX.out.2.2.2.1, HX.out.2.2.2.2.bel (below_dq _ _)⟩, by simp [RowKit.intOf]; omega⟩
            · rw [decide_eq_false hyz] at qq
              rw [if_neg hyz] at HS
              go_wp2
              go_quiet (fail)
              generalize hWq : World.drewN wr _ = Wq
              have HSW : Hid (SG Wq g o N M ∧ Gs (fun i => i = g) w Wq ∧ Wq.heap = wr.heap) := by rw [← hWq]; exact ⟨HX.out.1.kb rfl, HX.out.2.2.2.2.bel (below_dq _ _), rfl⟩
              have hcy := HCY.out Wq (by rw [HSW.out.2.2])
              have u0 := hcy 0 _ rfl
              have u1 := hcy 1 _ rfl
              have u2 := hcy 2 _ rfl
              have u3 := hcy 3 _ rfl
              have u4 := hcy 4 _ rfl
              have u5 := hcy 5 _ rfl
              simp only [Nat.add_zero] at u0
              have hst := HSW.out.1.store (i := i) (by have := HX.out.2.1; omega) y
              simp only [it6] at hst
              obtain ⟨X, hX⟩ : ∃ X, X = Wq.setCells g (o + i * 6) [.string y.id, .string y.pk, .int .i64 y.kind, .int .i64 y.off, .int .i64 y.long, .int .i64 y.size] := ⟨_, rfl⟩
              rw [← hX] at hst
              have HX2 := hide hX
              clear hX hcy hWq v0 v1 v2 v3 v4 v5
              go_wp2_with (refine wpList_store_run rfl 25 _ _ rfl _ _ rfl rfl hst ?_)
              have hML := HX.out.2.1
              refine ⟨⟨i + 1, q + 1, M.set i y, by omega, by omega, by go_num, by go_num, by rw [HX2.out]; exact HSW.out.1.set (by omega) y, by rw [List.length_set]; exact hML, ?_, ?_, HSW.out.2.1.trans (by rw [HX2.out]; exact gs_setCells g _ _ _)⟩, by simp [RowKit.intOf]; omega⟩
              · rw [List.take_add_one, List.getElem?_set_self (by omega), List.take_set_of_le (Nat.le_refl _), HX.out.2.2.1]
                exact HS.out.symm
              · rw [List.drop_set_of_lt (by omega)]
                exact drop_next HX.out.2.2.2.1
          · have hjn : k0 + q + 1 = n := by omega
            have c1 : ¬ ((q + 1 : Nat) : Int) < ((n - k0 : Nat) : Int) := by omega
            have c2 : (i : Int) ≤ (n : Int) := by omega
            have c3 : (0 : Int) ≤ (i : Int) := by omega
            have c4 : (i : Int) ≤ (c : Int) := by omega
            obtain ⟨vs, hvl, hcl⟩ := clear_any (o := o + i * 6) (n := n - i) (c := c - i) HX.out.1.blk (by omega) (by have := HX.out.1.fit; have := HX.out.2.1; omega) 45 0 Try.underlying45
            obtain ⟨X, hX⟩ : ∃ X, X = wr.setCells g (o + i * 6) vs := ⟨_, rfl⟩
            rw [← hX] at hcl
            have HX2 := hide hX
            have HVL := hide hvl
            have HFE : Hid (dd L = M.take i) := by
              have := HX.out.2.2.1
              rw [List.take_of_length_le (l := L) (i := k0 + q + 1) (by have := HN.out; omega)] at this
              exact hide this.symm
            have HFL : Hid ((dd L).length = i) := by rw [HFE.out, List.length_take]; have := HX.out.2.1; apply hide; omega
            clear hX hvl
            go_wp2_with (refine wpList_clear_run rfl _ 45 rfl _ rfl _ _ hcl ?_)
            go_ret
            rw [HFL.out, HFE.out]
            refine ⟨rfl, ?_, HX.out.2.2.2.2.trans (by rw [HX2.out]; exact gs_setCells g _ _ _)⟩
            rw [HX2.out]
            exact (HX.out.1.take i).apart vs (.inr (by rw [List.length_take]; omega))
      · rw [decide_eq_false hyz] at q
        have hdd : dd (L.take (k + 2)) = L.take (k + 2) := by rw [HS.out, if_neg hyz, HR.out.1, List.take_add_one (i := k + 1), HYZ.out.1]; rfl
        have HDD := hide hdd
        clear hdd
        go_wp2
        go_quiet (fail)
        go_wp2
        exact ⟨⟨k + 1, by omega, by go_num, HDD.out, HR.out.2.1.kb rfl, HR.out.2.2.bel (below_dq _ _)⟩, by simp [RowKit.intOf]; omega⟩
    · obtain rfl : k + 1 = n := by omega
      have b3 : ¬ ((k + 1 : Nat) : Int) < ((k + 1 : Nat) : Int) := by omega
      have HE : Hid (dd L = L) := by
        have := HR.out.1
        rw [List.take_of_length_le (l := L) (i := k + 1) (by have := HN.out; omega)] at this
        exact hide this
      go_wp2
      go_ret
      exact ⟨by rw [HE.out, ← HN.out]; rfl, by rw [HE.out]; exact HR.out.2.1, HR.out.2.2⟩
end
end Go.Proofs.Ytkcefdiiibbflaa
