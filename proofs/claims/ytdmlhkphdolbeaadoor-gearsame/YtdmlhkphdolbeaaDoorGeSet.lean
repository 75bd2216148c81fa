/-
  Gear: the statements' small setups.
-/
import Derived.Test.YtdmlhkphdolbeaaDoorGeAll
import Derived.Test.YtdmlhkphdolbeaaDoorStAmg
import Derived.Deep.RegionHeldLaw
namespace Go.Proofs.YtdmlhkphdolbeaaDoor
open Go.RowKit Go.Lib
theorem three_set {w : World} {b : Nat} {z0 z1 z2 : Value} {T : TypeId} (h : w.heap[b]? = some (.cells #[z0, z1, z2] T (0, 0))) (x y z : Value) :
    (w.cell? ⟨b, 0, none⟩ = some z0 ∧ w.cell? ⟨b, 1, none⟩ = some z1 ∧ w.cell? ⟨b, 2, none⟩ = some z2 ∧ w.frozen? ⟨b, 0, none⟩ = false ∧ w.frozen? ⟨b, 1, none⟩ = false ∧ w.frozen? ⟨b, 2, none⟩ = false) ∧
    ((w.setCell ⟨b, 0, none⟩ x).cell? ⟨b, 1, none⟩ = some z1 ∧ (w.setCell ⟨b, 0, none⟩ x).cell? ⟨b, 2, none⟩ = some z2 ∧ (w.setCell ⟨b, 0, none⟩ x).frozen? ⟨b, 1, none⟩ = false ∧ (w.setCell ⟨b, 0, none⟩ x).frozen? ⟨b, 2, none⟩ = false) ∧
    (((w.setCell ⟨b, 0, none⟩ x).setCell ⟨b, 1, none⟩ y).cell? ⟨b, 2, none⟩ = some z2 ∧ ((w.setCell ⟨b, 0, none⟩ x).setCell ⟨b, 1, none⟩ y).frozen? ⟨b, 2, none⟩ = false) ∧
    (((w.setCell ⟨b, 0, none⟩ x).setCell ⟨b, 1, none⟩ y).setCell ⟨b, 2, none⟩ z).heap[b]? = some (.cells #[x, y, z] T (0, 0)) ∧
    Gs (fun i => i = b) w (((w.setCell ⟨b, 0, none⟩ x).setCell ⟨b, 1, none⟩ y).setCell ⟨b, 2, none⟩ z) := by
  have k0 : (w.setCell ⟨b, 0, none⟩ x).heap[b]? = some (.cells #[x, z1, z2] T (0, 0)) := heap_set_self h
  have k1 : ((w.setCell ⟨b, 0, none⟩ x).setCell ⟨b, 1, none⟩ y).heap[b]? = some (.cells #[x, y, z2] T (0, 0)) := heap_set_self k0
  have k2 : (((w.setCell ⟨b, 0, none⟩ x).setCell ⟨b, 1, none⟩ y).setCell ⟨b, 2, none⟩ z).heap[b]? = some (.cells #[x, y, z] T (0, 0)) := heap_set_self k1
  obtain ⟨a0, a1, a2⟩ := cell3 h
  obtain ⟨_, b1, b2⟩ := cell3 k0
  obtain ⟨_, _, c2⟩ := cell3 k1
  exact ⟨⟨a0, a1, a2, by simp [World.frozen?, h], by simp [World.frozen?, h], by simp [World.frozen?, h]⟩, ⟨b1, b2, by simp [World.frozen?, k0], by simp [World.frozen?, k0]⟩, ⟨c2, by simp [World.frozen?, k1]⟩, k2, (((Gs.refl (fun i => i = b) w).set (a := ⟨b, 0, none⟩) (.inl rfl) _).set (a := ⟨b, 1, none⟩) (.inl rfl) _).set (a := ⟨b, 2, none⟩) (.inl rfl) _⟩
set_option maxRecDepth 100000 in
set_option maxHeartbeats 1600000 in
theorem setup_any {w : World} (x y z : Int) :
    Calls Tryd.prog 18 #[.agg #[.int .i64 x, .int .i64 y, .int .i64 z]] w fun e w' => e = .returned (.agg #[.int .i64 ((1 + amg x 30 : Nat) : Int), .int .i64 ((1 + amg y 8 : Nat) : Int), .int .i64 ((1 + amg x 30 + amg z 100 : Nat) : Int)]) ∧ Below w.heap.size w w' := by
  obtain ⟨_, r2, _, _⟩ := amg_spec x 30 (by decide)
  obtain ⟨_, c2, _, _⟩ := amg_spec y 8 (by decide)
  obtain ⟨_, f2, _, _⟩ := amg_spec z 100 (by decide)
  have AX : Hid (∀ (w : World) (v u : Value), v = .int .i64 x → u = .int .i64 30 → Calls Tryd.prog 20 #[v, u] w fun e w' => e = .returned (.int .i64 ((amg x 30 : Nat) : Int)) ∧ w' = w) := fun w v u hv hu => by subst hv hu; exact among_any w x 30 (by decide) (by decide)
  have AY : Hid (∀ (w : World) (v u : Value), v = .int .i64 y → u = .int .i64 8 → Calls Tryd.prog 20 #[v, u] w fun e w' => e = .returned (.int .i64 ((amg y 8 : Nat) : Int)) ∧ w' = w) := fun w v u hv hu => by subst hv hu; exact among_any w y 8 (by decide) (by decide)
  have AZ : Hid (∀ (w : World) (v u : Value), v = .int .i64 z → u = .int .i64 100 → Calls Tryd.prog 20 #[v, u] w fun e w' => e = .returned (.int .i64 ((amg z 100 : Nat) : Int)) ∧ w' = w) := fun w v u hv hu => by subst hv hu; exact among_any w z 100 (by decide) (by decide)
  generalize amg x 30 = r at *
  generalize amg y 8 = c at *
  generalize amg z 100 = f at *
  obtain ⟨p, hp⟩ : ∃ p, p = 1 + r := ⟨_, rfl⟩
  obtain ⟨q, hq⟩ : ∃ q, q = 1 + c := ⟨_, rfl⟩
  obtain ⟨t, ht⟩ : ∃ t, t = p + f := ⟨_, rfl⟩
  have e1 : 1 + (r : Int) = (p : Int) := by omega
  have e2 : 1 + (c : Int) = (q : Int) := by omega
  have e3 : (p : Int) + (f : Int) = (t : Int) := by omega
  have e4 : IntKind.i64.wrap (p : Int) = (p : Int) := by rw [IntKind.wrap_i64]; omega
  have e5 : IntKind.i64.wrap (q : Int) = (q : Int) := by rw [IntKind.wrap_i64]; omega
  have e6 : IntKind.i64.wrap (t : Int) = (t : Int) := by rw [IntKind.wrap_i64]; omega
  rw [← hp, ← hq, ← ht]
  obtain ⟨W, hW⟩ : ∃ W, (w.alloc (.cells #[.int .i64 x, .int .i64 y, .int .i64 z] 42)).alloc (.cells #[.int .i64 0, .int .i64 0, .int .i64 0] 23) = W := ⟨_, rfl⟩
  have hb : Below w.heap.size w W := by rw [← hW]; exact ((Below.refl _ _).alloc (Nat.le_refl _) _).alloc (by simp) _
  have k0 : W.heap[w.heap.size]? = some (.cells #[.int .i64 x, .int .i64 y, .int .i64 z] 42 (0, 0)) := by rw [← hW, Below.heap_alloc _ _ _ (by simp)]; exact heap_alloc_new w _
  obtain ⟨a0, a1, a2⟩ := cell3 k0
  have D0 : Hid (W.drew.cell? ⟨w.heap.size, 0, none⟩ = some (.int .i64 x) ∧ W.drew.cell? ⟨w.heap.size, 1, none⟩ = some (.int .i64 y)) := ⟨a0, a1⟩
  have D1 : Hid (∀ o, (W.alloc o).drew.cell? ⟨w.heap.size, 0, none⟩ = some (.int .i64 x) ∧ (W.alloc o).drew.cell? ⟨w.heap.size, 1, none⟩ = some (.int .i64 y)) := fun o => by
    have k : (W.alloc o).heap[w.heap.size]? = some (.cells #[.int .i64 x, .int .i64 y, .int .i64 z] 42 (0, 0)) := (Below.heap_alloc _ _ _ (lt_of_block k0)).trans k0
    obtain ⟨b0, b1, _⟩ := cell3 k
    exact ⟨b0, b1⟩
  have H0 := hide (And.intro hb k0)
  clear hb k0 r2 c2 f2 hp hq ht
  go_enter Tryd.func18, Tryd.ntmps18
  go_upto_region 1 with fail
  go_region_held_law (fun wx => wx.cell? ⟨w.heap.size, 0, none⟩ = some (.int .i64 x) ∧ wx.cell? ⟨w.heap.size, 1, none⟩ = some (.int .i64 y)) (first | with_reducible exact D0.out | with_reducible exact D1.out _)
    (first
      | (go_at_call 20; refine Calls.mono (AX.out _ _ _ (by with_reducible rfl) (by with_reducible rfl)) ?_; rintro e w9 ⟨rfl, hw9⟩; subst w9)
      | (go_at_call 20; refine Calls.mono (AY.out _ _ _ (by with_reducible rfl) (by with_reducible rfl)) ?_; rintro e w9 ⟨rfl, hw9⟩; subst w9))
  all_goals
    obtain ⟨g, hg⟩ : ∃ g, W.heap.size = g := ⟨_, rfl⟩
    obtain ⟨V, hV⟩ : ∃ V, (W.alloc (.cells #[.int .i64 (p : Int), .int .i64 (q : Int), .int .i64 0] 23)).drew = V := ⟨_, rfl⟩
    have kg : V.heap[g]? = some (.cells #[.int .i64 (p : Int), .int .i64 (q : Int), .int .i64 0] 23 (0, 0)) := by rw [← hV, ← hg]; exact heap_alloc_new W _
    have kn : V.heap[w.heap.size]? = some (.cells #[.int .i64 x, .int .i64 y, .int .i64 z] 42 (0, 0)) := by rw [← hV]; exact (Below.heap_alloc _ _ _ (lt_of_block H0.out.2)).trans H0.out.2
    have D2 : Hid (V.drew.cell? ⟨g, 0, none⟩ = some (.int .i64 (p : Int)) ∧ V.drew.cell? ⟨w.heap.size, 2, none⟩ = some (.int .i64 z)) := ⟨(cell3 kg).1, (cell3 kn).2.2⟩
    have hne : w.heap.size ≠ g := by have := lt_of_block H0.out.2; omega
    have hgs := lt_of_block H0.out.2
    have kg2 : (V.setCell ⟨g, 2, none⟩ (.int .i64 (t : Int))).heap[g]? = some (.cells #[.int .i64 (p : Int), .int .i64 (q : Int), .int .i64 (t : Int)] 23 (0, 0)) := heap_set_self kg
    have kn2 : (V.setCell ⟨g, 2, none⟩ (.int .i64 (t : Int))).heap[w.heap.size]? = some (.cells #[.int .i64 x, .int .i64 y, .int .i64 z] 42 (0, 0)) := (heap_setCell_other _ _ _ _ hne).trans kn
    have D3 : Hid ((V.setCell ⟨g, 2, none⟩ (.int .i64 (t : Int))).drew.cell? ⟨g, 0, none⟩ = some (.int .i64 (p : Int)) ∧ (V.setCell ⟨g, 2, none⟩ (.int .i64 (t : Int))).drew.cell? ⟨w.heap.size, 2, none⟩ = some (.int .i64 z)) := ⟨(cell3 kg2).1, (cell3 kn2).2.2⟩
    have fz : V.frozen? ⟨g, 2, none⟩ = false := by simp [World.frozen?, kg]
    have y2 := (cell3 kg).2.2
    go_upto_region 2 with fail
    rw [hV]
    go_region_held_law (fun wx => wx.cell? ⟨g, 0, none⟩ = some (.int .i64 (p : Int)) ∧ wx.cell? ⟨w.heap.size, 2, none⟩ = some (.int .i64 z)) (first | with_reducible exact D2.out | with_reducible exact D3.out)
      (first | (go_at_call 20; refine Calls.mono (AZ.out _ _ _ (by with_reducible rfl) (by with_reducible rfl)) ?_; rintro e w9 ⟨rfl, hw9⟩; subst w9))
    obtain ⟨U, hU⟩ : ∃ U, (V.setCell ⟨g, 2, none⟩ (.int .i64 (t : Int))).drew = U := ⟨_, rfl⟩
    rw [hU]
    have kz : W.heap[w.heap.size + 1]? = some (.cells #[.int .i64 0, .int .i64 0, .int .i64 0] 23 (0, 0)) := by
      rw [← hW]
      have := heap_alloc_new (w.alloc (.cells #[.int .i64 x, .int .i64 y, .int .i64 z] 42)) (.cells #[.int .i64 0, .int .i64 0, .int .i64 0] 23 (0, 0))
      simpa using this
    have kzV : V.heap[w.heap.size + 1]? = some (.cells #[.int .i64 0, .int .i64 0, .int .i64 0] 23 (0, 0)) := by rw [← hV]; exact (Below.heap_alloc _ _ _ (lt_of_block kz)).trans kz
    have kzU : U.heap[w.heap.size + 1]? = some (.cells #[.int .i64 0, .int .i64 0, .int .i64 0] 23 (0, 0)) := by rw [← hU]; exact (heap_setCell_other _ _ _ _ (by have := lt_of_block kz; show w.heap.size + 1 ≠ g; omega)).trans kzV
    have kgU : U.heap[g]? = some (.cells #[.int .i64 (p : Int), .int .i64 (q : Int), .int .i64 (t : Int)] 23 (0, 0)) := by rw [← hU]; exact kg2
    obtain ⟨u0, u1, u2⟩ := cell3 kgU
    obtain ⟨⟨z0, z1, z2, z3, z4, z5⟩, ⟨z6, z7, z8, z9⟩, ⟨y6, y7⟩, kf, hG⟩ := three_set kzU (.int .i64 (p : Int)) (.int .i64 (q : Int)) (.int .i64 (t : Int))
    obtain ⟨f0, f1, f2⟩ := cell3 kf
    have hBU : Below w.heap.size w U := by
      rw [← hU, ← hV]
      exact ((H0.out.1.alloc H0.out.1.size _).drew.setCell (show w.heap.size ≤ (⟨g, 2, none⟩ : Addr).block from (show w.heap.size ≤ g by omega)) _).drew
    have HE := hide (hG.below hBU hBU.size (fun i hi => by omega))
    clear hBU hG kf kzU kzV kz kgU kg2 kn2 kg kn hU hV D2 D3
    go_wp2
    exact bodyPost_ret (v := .agg #[.int .i64 (p : Int), .int .i64 (q : Int), .int .i64 (t : Int)]) (by simp [results, Tryd.results18, go_sem, f0, f1, f2]) rfl ⟨rfl, HE.out⟩
end Go.Proofs.YtdmlhkphdolbeaaDoor
