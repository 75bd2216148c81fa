/-
  Contracts of the program and of the statements (part 35 of 35).
-/
import Derived.Test.YtagijldedngcoaaGreatDoorOc33
import Derived.Test.YtagijldedngcoaaGreatDoorOc34
import Derived.Test.YtagijldedngcoaaGreatDoorOc11
import Derived.ProofKit
import Derived.LaidMore
import Derived.OpenShut
import Derived.SizedLaws
import Derived.Stop.Joined

namespace Go.Proofs.YtagijldedngcoaaGreatDoor
open Go.RowKit Go.Lib Go.Maps
section
variable {w W W' : World} {b : Nat} {kk mm : Int}
def KJ (b : Nat) (W : World) : Prop := ∃ x P, FinR b x [] P W ∧ x.c = 1 ∧ x.ids.length ≤ 1000000000000 ∧ x.tx.length ≤ 1000000000000 ∧ P b ∧ ∀ i, P i → i < W.heap.size
theorem KJ.bel (h : KJ b W) (hb : Below W.heap.size W W') : KJ b W' := by
  obtain ⟨x, P, hF, hc, hi, ht, hPb, hl⟩ := h
  have hs := hb.size
  exact ⟨x, P, (fkR b).gs (p := fun i => W.heap.size ≤ i) hF (Gs.of_below _ hb) hPb (fun i hi hn => by have := hl i hi; omega), hc, hi, ht, hPb, fun i hi => by have := hl i hi; omega⟩
theorem KJ.of {x : RS} {e : Ending} (h : MK FinR (.fin x) W W' e) (hc : x.c = 1) (hi : x.ids.length ≤ 1000000000000) (ht : x.tx.length ≤ 1000000000000) : ∃ b, e = .returned (.pointer (some ⟨b, 0, none⟩)) ∧ Hid (KJ b W' ∧ Below W.heap.size W W') := by
  obtain ⟨b, P, rfl, hJ, hB, hP⟩ := h
  rw [JJ] at hJ
  exact ⟨b, rfl, ⟨x, P, hJ.2.2, hc, hi, ht, hJ.1, hJ.2.1⟩, hB⟩
theorem kb_put {nm s : ByteArray} (hk : kk ≤ 9223372036854775807) (hk2 : -9223372036854775808 ≤ kk) (hb : chk kk mm ≠ 0) (hL : Zq.Sh.Laid W) : Calls Tryz.prog 24 #[.agg #[.int .i64 kk, .int .i64 mm], .string nm, .string s] W fun e w' => ∃ b, e = .returned (.pointer (some ⟨b, 0, none⟩)) ∧ Hid (KJ b w' ∧ Below W.heap.size W w') :=
  (oputjob (ox_put_bad hk hk2 hb) hL).mono fun _ _ h => KJ.of h rfl (by simp) (by simp)
theorem kb_get {nm s : ByteArray} (hk : kk ≤ 9223372036854775807) (hk2 : -9223372036854775808 ≤ kk) (hb : chk kk mm ≠ 0) (hL : Zq.Sh.Laid W) : Calls Tryz.prog 25 #[.agg #[.int .i64 kk, .int .i64 mm], .string nm, .string s] W fun e w' => ∃ b, e = .returned (.pointer (some ⟨b, 0, none⟩)) ∧ Hid (KJ b w' ∧ Below W.heap.size W w') :=
  (ogetjob (ox_get_bad hk hk2 hb) hL).mono fun _ _ h => KJ.of h rfl (by simp) (by show List.length [] ≤ _; simp)
theorem kb_del {nm : ByteArray} (hk : kk ≤ 9223372036854775807) (hk2 : -9223372036854775808 ≤ kk) (hb : chk kk mm ≠ 0) (hL : Zq.Sh.Laid W) : Calls Tryz.prog 26 #[.agg #[.int .i64 kk, .int .i64 mm], .string nm] W fun e w' => ∃ b, e = .returned (.pointer (some ⟨b, 0, none⟩)) ∧ Hid (KJ b w' ∧ Below W.heap.size W w') :=
  (odeljob (ox_del_bad hk hk2 hb) hL).mono fun _ _ h => KJ.of h rfl (by simp) (by simp)
theorem kb_list {nm : ByteArray} (hk : kk ≤ 9223372036854775807) (hk2 : -9223372036854775808 ≤ kk) (hb : chk kk mm ≠ 0) (hL : Zq.Sh.Laid W) : Calls Tryz.prog 27 #[.agg #[.int .i64 kk, .int .i64 mm], .string nm] W fun e w' => ∃ b, e = .returned (.pointer (some ⟨b, 0, none⟩)) ∧ Hid (KJ b w' ∧ Below W.heap.size W w') :=
  (olistjob (ox_list_bad hk hk2 hb) hL).mono fun _ _ h => KJ.of h rfl (by simp) (by simp)
theorem kb_scrub {nm s : ByteArray} (hk : kk ≤ 9223372036854775807) (hk2 : -9223372036854775808 ≤ kk) (hb : chk kk mm ≠ 0) (hL : Zq.Sh.Laid W) : Calls Tryz.prog 28 #[.agg #[.int .i64 kk, .int .i64 mm], .string nm, .string s] W fun e w' => ∃ b, e = .returned (.pointer (some ⟨b, 0, none⟩)) ∧ Hid (KJ b w' ∧ Below W.heap.size W w') :=
  (oscrubjob (ox_scrub_bad hk hk2 hb) hL).mono fun _ _ h => KJ.of h rfl (by simp) (by simp)
end
theorem fld0 (x0 x1 x2 x3 x4 x5 x6 : Value) (w : World) : (Instr.field 63 (.agg #[x0, x1, x2, x3, x4, x5, x6]) 0).run Tryz.prog w = .ok x0 w := by
  simp [Instr.field, go_sem, run_underlying Tryz.underlying63, asAgg]
section
variable {W : World} {b : Nat}
theorem kj_over (h : KJ b W) : Calls Tryz.prog 29 #[.pointer (some ⟨b, 0, none⟩)] W fun e w' => e = .returned (.bool true) ∧ w' = W := by
  obtain ⟨x, P, ⟨ids, tx, hJ, _⟩, _⟩ := h
  exact over_any hJ
theorem kj_steps (h : KJ b W) : Calls Tryz.prog 31 #[.pointer (some ⟨b, 0, none⟩)] W fun e w' => e = .returned (.int .i64 0) ∧ w' = W := by
  obtain ⟨x, P, ⟨ids, tx, hJ, _⟩, _⟩ := h
  exact steps_any hJ
theorem kj_result (h : KJ b W) : Calls Tryz.prog 30 #[.pointer (some ⟨b, 0, none⟩)] W fun e w' => ∃ n a1 n1 c1 a2 n2 c2, e = .returned (.agg #[.int .i64 1, .string ⟨#[]⟩, .int .i64 n, .slice a1 n1 c1, .slice a2 n2 c2, .slice none 0 0, .slice none 0 0]) ∧ Below W.heap.size W w' := by
  obtain ⟨x, P, ⟨ids, tx, hJ, hI, hT⟩, hc, hi, ht, _⟩ := h
  refine (result_any hJ hI hT hi ht).mono ?_
  rintro e w' ⟨i', t', rfl, h1, h2, hB⟩
  obtain ⟨a1, c1, rfl⟩ := h1.shp
  obtain ⟨a2, c2, rfl⟩ := h2.shp
  rw [hc]
  exact ⟨_, _, _, _, _, _, _, rfl, hB⟩
end
end Go.Proofs.YtagijldedngcoaaGreatDoor

namespace Go.Proofs.YtagijldedngcoaaGreatDoor
open Go.RowKit Go.Lib Go.Maps
def K2 (w : World) (q T : Nat) (d : Bool) (a1 a2 : Int) : Prop := w.heap[q]? = some (.cells #[.int .i64 (if d = true then a1 else 0), .int .i64 (if d = true then a2 else 0)] T (0, 0))
theorem K2.bel {w w' : World} {q T : Nat} {d : Bool} {a1 a2 : Int} (h : K2 w q T d a1 a2) (hb : Below w.heap.size w w') : K2 w' q T d a1 a2 := (hb.block q (lt_of_block h)).trans h
def J2 (k m a1 a2 : Int) (U : World) (A : Act) (lis : Array Bool) (a : Act) (w : World) : Prop :=
  ∃ (d0 d1 d2 d3 d4 d5 d6 d7 : Bool) (q1 q2 : Nat), lis = #[d0, d1, d2, d3, d4, d5, d6, d7] ∧
    a = ⟨(((((A.tmps.setIfInBounds 18 (sel d0 (.agg #[.int .i64 k, .int .i64 m]) undef)).setIfInBounds 19 (sel d1 (.agg #[.int .i64 a1, .int .i64 a2]) undef)).setIfInBounds 20 (sel d2 (.agg #[.int .i64 k, .int .i64 m]) undef)).setIfInBounds 21 (sel d3 (.agg #[.int .i64 a1, .int .i64 a2]) undef)).setIfInBounds 7 (sel d4 (.pointer (some ⟨q1, 0, none⟩)) undef)).setIfInBounds 8 (sel d5 (.pointer (some ⟨q2, 0, none⟩)) undef), A.defers⟩ ∧
    Below U.heap.size U w ∧ (d4 = true → U.heap.size ≤ q1 ∧ K2 w q1 27 d6 a1 a2) ∧ (d5 = true → U.heap.size ≤ q2 ∧ K2 w q2 51 d7 a1 a2) ∧ (d4 = true → d5 = true → q1 ≠ q2) ∧ (d6 = true → d4 = true ∧ d5 = true) ∧ (d7 = true → d6 = true)
set_option maxRecDepth 100000 in
set_option maxHeartbeats 6400000 in
theorem kits10 {w : World} (k m : Int) (hk : k ≤ 9223372036854775807) (hk2 : -9223372036854775808 ≤ k) (hLw : Zq.Sh.Laid w) :
    Calls Tryz.prog 4 #[.int .i64 k, .int .i64 m] w fun e w' => e = .returned (.bool true) ∧ Below w.heap.size w w' := by
  obtain ⟨U, hU⟩ : ∃ U, U = als w [.cells #[.int .i64 k, .int .i64 m] 27, .cells #[.int .i64 k, .int .i64 m] 51] := ⟨_, rfl⟩
  obtain ⟨X, hX⟩ : ∃ X, X = w.heap.size := ⟨_, rfl⟩
  have hB : Below w.heap.size w U := by rw [hU]; exact als_bel _ _
  have h1 : U.heap[X]? = some (.cells #[.int .i64 k, .int .i64 m] 27 (0, 0)) := by rw [hU, hX]; exact als_at _ w 0 _ rfl
  have h2 : U.heap[X + 1]? = some (.cells #[.int .i64 k, .int .i64 m] 51 (0, 0)) := by rw [hU, hX]; exact als_at _ w 1 _ rfl
  have HC : Hid (∀ W, Below U.heap.size U W → (W.cell? ⟨X, 0, none⟩ = some (.int .i64 k) ∧ W.cell? ⟨X, 1, none⟩ = some (.int .i64 m)) ∧ W.cell? ⟨X + 1, 0, none⟩ = some (.int .i64 k) ∧ W.cell? ⟨X + 1, 1, none⟩ = some (.int .i64 m)) := fun W hb => by
    have e1 := (hb.block X (lt_of_block h1)).trans h1
    have e2 := (hb.block (X + 1) (lt_of_block h2)).trans h2
    exact ⟨⟨by simp [World.cell?, e1], by simp [World.cell?, e1]⟩, by simp [World.cell?, e2], by simp [World.cell?, e2]⟩
  obtain ⟨a1, ha1⟩ : ∃ a1, a1 = (sgl k m).1 := ⟨_, rfl⟩
  obtain ⟨a2, ha2⟩ : ∃ a2, a2 = (sgl k m).2 := ⟨_, rfl⟩
  have HS1 : Hid (∀ W, Calls Tryz.prog 20 #[.agg #[.int .i64 k, .int .i64 m]] W fun e w' => e = .returned (.agg #[.int .i64 a1, .int .i64 a2]) ∧ Below W.heap.size W w') := fun W => by rw [ha1, ha2]; exact single_any k m hk hk2
  have HS2 : Hid (∀ W, Calls Tryz.prog 21 #[.agg #[.int .i64 k, .int .i64 m]] W fun e w' => e = .returned (.agg #[.int .i64 a1, .int .i64 a2]) ∧ Below W.heap.size W w') := fun W => by rw [ha1, ha2]; exact rsingle_any k m hk hk2
  have HU : Hid (U = (w.alloc (.cells #[.int .i64 k, .int .i64 m] 27)).alloc (.cells #[.int .i64 k, .int .i64 m] 51)) := hU
  have HX := hide hX
  have HB0 := hide hB
  have HL := hide hLw
  have HK := hide (And.intro hk hk2)
  clear hU hX hB h1 h2 hk hk2 ha1 ha2 hLw
  go_enter Tryz.func4, Tryz.ntmps4
  go_upto_region 2 with fail
  rw [← HU.out, ← HX.out]
  refine region_inv (by kernel_rfl) (J2 k m a1 a2 U) ?_ ?_ ?_
  · exact ⟨false, false, false, false, false, false, false, false, 0, 0, rfl, rfl, ⟨rfl, rfl, rfl, Nat.le_refl _, fun _ _ => rfl⟩, (fun h => by cases h), (fun h => by cases h), (fun h => by cases h), (fun h => by cases h), (fun h => by cases h)⟩
  · intro lis a' w' j hJ hj
    have hj8 := ready_lt hj
    obtain ⟨d0, d1, d2, d3, d4, d5, d6, d7, q1, q2, rfl, rfl, hB, h4, h5, hne, h64, h76⟩ := hJ
    obtain ⟨⟨c0, c1⟩, c2, c3⟩ := HC.out w' hB
    simp only [List.setIfInBounds_toArray, List.set_cons_zero, List.set_cons_succ]
    match j, hj, hj8 with
    | 0, hj, _ =>
      have f0 : d0 = false := by simpa using ready_new hj
      subst f0
      refine wpOp_step rfl (fun K hK => ?_)
      go_simp
      refine hK _ _ ⟨true, d1, d2, d3, d4, d5, d6, d7, q1, q2, rfl, rfl, hB, h4, h5, hne, h64, h76⟩
    | 1, hj, _ =>
      have e0 : d0 = true := by simpa using ready_dep hj (i := 0) (by kernel_rfl)
      have f1 : d1 = false := by simpa using ready_new hj
      subst e0
      subst f1
      refine wpOp_step rfl (fun K hK => ?_)
      go_simp
      refine (HS1.out _).mono ?_
      rintro e w2 ⟨rfl, hb2⟩
      have hs2 := hb2.size
      refine hK _ _ ⟨true, true, d2, d3, d4, d5, d6, d7, q1, q2, rfl, rfl, hB.trans (hb2.mono hB.size), fun h => ⟨(h4 h).1, (h4 h).2.bel hb2⟩, fun h => ⟨(h5 h).1, (h5 h).2.bel hb2⟩, hne, h64, h76⟩
    | 2, hj, _ =>
      have f2 : d2 = false := by simpa using ready_new hj
      subst f2
      refine wpOp_step rfl (fun K hK => ?_)
      go_simp
      refine hK _ _ ⟨d0, d1, true, d3, d4, d5, d6, d7, q1, q2, rfl, rfl, hB, h4, h5, hne, h64, h76⟩
    | 3, hj, _ =>
      have e2 : d2 = true := by simpa using ready_dep hj (i := 2) (by kernel_rfl)
      have e1 : d1 = true := by simpa using ready_dep hj (i := 1) (by kernel_rfl)
      have f3 : d3 = false := by simpa using ready_new hj
      subst e2
      subst e1
      subst f3
      refine wpOp_step rfl (fun K hK => ?_)
      go_simp
      refine (HS2.out _).mono ?_
      rintro e w2 ⟨rfl, hb2⟩
      refine hK _ _ ⟨d0, true, true, true, d4, d5, d6, d7, q1, q2, rfl, rfl, hB.trans (hb2.mono hB.size), fun h => ⟨(h4 h).1, (h4 h).2.bel hb2⟩, fun h => ⟨(h5 h).1, (h5 h).2.bel hb2⟩, hne, h64, h76⟩
    | 4, hj, _ =>
      have f4 : d4 = false := by simpa using ready_new hj
      subst f4
      have f6 : d6 = false := by cases h : d6 with | false => rfl | true => exact absurd (h64 h).1 (by decide)
      subst f6
      have hb2 : Below w'.heap.size w' (w'.alloc (.cells #[.int .i64 0, .int .i64 0] 27)) := (Below.refl _ _).alloc (Nat.le_refl _) _
      have hn : K2 (w'.alloc (.cells #[.int .i64 0, .int .i64 0] 27)) w'.heap.size 27 false a1 a2 := heap_alloc_new w' _
      have hlt : ∀ h : d5 = true, q2 < w'.heap.size := fun h => lt_of_block (h5 h).2
      refine wpOp_step rfl (fun K hK => ?_)
      go_simp
      refine hK _ _ ⟨d0, d1, d2, d3, true, d5, false, d7, w'.heap.size, q2, rfl, rfl, hB.trans (hb2.mono hB.size), fun _ => ⟨hB.size, hn⟩, fun h => ⟨(h5 h).1, (h5 h).2.bel hb2⟩, (fun _ h => by have := hlt h; omega), (fun h => by cases h), h76⟩
    | 5, hj, _ =>
      have f5 : d5 = false := by simpa using ready_new hj
      subst f5
      have f6 : d6 = false := by cases h : d6 with | false => rfl | true => exact absurd (h64 h).2 (by decide)
      subst f6
      have f7 : d7 = false := by cases h : d7 with | false => rfl | true => exact absurd (h76 h) (by decide)
      subst f7
      have hb2 : Below w'.heap.size w' (w'.alloc (.cells #[.int .i64 0, .int .i64 0] 51)) := (Below.refl _ _).alloc (Nat.le_refl _) _
      have hn : K2 (w'.alloc (.cells #[.int .i64 0, .int .i64 0] 51)) w'.heap.size 51 false a1 a2 := heap_alloc_new w' _
      have hlt : ∀ h : d4 = true, q1 < w'.heap.size := fun h => lt_of_block (h4 h).2
      refine wpOp_step rfl (fun K hK => ?_)
      go_simp
      refine hK _ _ ⟨d0, d1, d2, d3, d4, true, false, false, q1, w'.heap.size, rfl, rfl, hB.trans (hb2.mono hB.size), fun h => ⟨(h4 h).1, (h4 h).2.bel hb2⟩, fun _ => ⟨hB.size, hn⟩, (fun h _ => by have := hlt h; omega), (fun h => by cases h), (fun h => by cases h)⟩
    | 6, hj, _ =>
      have e0 : d0 = true := by simpa using ready_dep hj (i := 0) (by kernel_rfl)
      have e1 : d1 = true := by simpa using ready_dep hj (i := 1) (by kernel_rfl)
      have e3 : d3 = true := by simpa using ready_dep hj (i := 3) (by kernel_rfl)
      have e4 : d4 = true := by simpa using ready_dep hj (i := 4) (by kernel_rfl)
      have e5 : d5 = true := by simpa using ready_dep hj (i := 5) (by kernel_rfl)
      have f6 : d6 = false := by simpa using ready_new hj
      subst e0
      subst e1
      subst e3
      subst e4
      subst e5
      subst f6
      have f7 : d7 = false := by cases h : d7 with | false => rfl | true => exact absurd (h76 h) (by decide)
      subst f7
      have hz := (h4 rfl).2
      have hq0 := (h4 rfl).1
      have hne' := hne rfl rfl
      have hrun := store_run (t := 27) (o := 0) hz #[.int .i64 a1, .int .i64 a2] (Nat.le_of_ble_eq_true rfl) Tryz.sizeK (by simp [Value.oneCell'])
      obtain ⟨V, hV⟩ : ∃ V, V = w'.setCells q1 0 [.int .i64 a1, .int .i64 a2] := ⟨_, rfl⟩
      have hRV : K2 V q1 27 true a1 a2 := by
        have h1 := setCells_self [.int .i64 a1, .int .i64 a2] 0 w' _ hz
        rw [← hV] at h1
        simpa [putAll, K2] using h1
      simp only [] at hrun
      rw [← hV] at hrun
      have hGV : Gs (fun i => i = q1) w' V := by rw [hV]; exact Gs.cells _ _ _ (Gs.refl _ _) (.inl rfl)
      have hBV : Below U.heap.size U V := hGV.below hB hB.size fun i hi => by omega
      have hoth := (hGV.block q2 (lt_of_block (h5 rfl).2) (by omega)).trans (h5 rfl).2
      simp only [sel_t]
      refine wpOp_step rfl (fun K hK => ?_)
      refine step_store_run rfl 27 _ _ rfl _ _ rfl rfl V hrun ?_
      refine hK _ _ ⟨true, true, d2, true, true, true, true, false, q1, q2, rfl, rfl, hBV, fun _ => ⟨hq0, hRV⟩, fun _ => ⟨(h5 rfl).1, hoth⟩, fun _ _ => hne', fun _ => ⟨rfl, rfl⟩, (fun h => by cases h)⟩
    | 7, hj, _ =>
      have e0 : d0 = true := by simpa using ready_dep hj (i := 0) (by kernel_rfl)
      have e1 : d1 = true := by simpa using ready_dep hj (i := 1) (by kernel_rfl)
      have e2 : d2 = true := by simpa using ready_dep hj (i := 2) (by kernel_rfl)
      have e3 : d3 = true := by simpa using ready_dep hj (i := 3) (by kernel_rfl)
      have e4 : d4 = true := by simpa using ready_dep hj (i := 4) (by kernel_rfl)
      have e5 : d5 = true := by simpa using ready_dep hj (i := 5) (by kernel_rfl)
      have e6 : d6 = true := by simpa using ready_dep hj (i := 6) (by kernel_rfl)
      have f7 : d7 = false := by simpa using ready_new hj
      subst e0
      subst e1
      subst e2
      subst e3
      subst e4
      subst e5
      subst e6
      subst f7
      have hz := (h5 rfl).2
      have hq0 := (h5 rfl).1
      have hne' := hne rfl rfl
      have hrun := store_run (t := 51) (o := 0) hz #[.int .i64 a1, .int .i64 a2] (Nat.le_of_ble_eq_true rfl) Tryz.sizeK' (by simp [Value.oneCell'])
      obtain ⟨V, hV⟩ : ∃ V, V = w'.setCells q2 0 [.int .i64 a1, .int .i64 a2] := ⟨_, rfl⟩
      have hRV : K2 V q2 51 true a1 a2 := by
        have h1 := setCells_self [.int .i64 a1, .int .i64 a2] 0 w' _ hz
        rw [← hV] at h1
        simpa [putAll, K2] using h1
      simp only [] at hrun
      rw [← hV] at hrun
      have hGV : Gs (fun i => i = q2) w' V := by rw [hV]; exact Gs.cells _ _ _ (Gs.refl _ _) (.inl rfl)
      have hBV : Below U.heap.size U V := hGV.below hB hB.size fun i hi => by omega
      have hoth := (hGV.block q1 (lt_of_block (h4 rfl).2) (by omega)).trans (h4 rfl).2
      simp only [sel_t]
      refine wpOp_step rfl (fun K hK => ?_)
      refine step_store_run rfl 51 _ _ rfl _ _ rfl rfl V hrun ?_
      refine hK _ _ ⟨true, true, true, true, true, true, true, true, q1, q2, rfl, rfl, hBV, fun _ => ⟨(h4 rfl).1, hoth⟩, fun _ => ⟨hq0, hRV⟩, fun _ _ => hne', fun _ => ⟨rfl, rfl⟩, fun _ => rfl⟩
  · intro lis a' w' hJ hr
    obtain ⟨d0, d1, d2, d3, d4, d5, d6, d7, q1, q2, rfl, rfl, hB, h4, h5, hne, h64, h76⟩ := hJ
    obtain rfl : d0 = true := by simpa using ready_all hr (j := 0) (by rfl)
    obtain rfl : d2 = true := by simpa using ready_all hr (j := 2) (by rfl)
    obtain rfl : d4 = true := by simpa using ready_all hr (j := 4) (by rfl)
    obtain rfl : d5 = true := by simpa using ready_all hr (j := 5) (by rfl)
    obtain rfl : d1 = true := by simpa using ready_all hr (j := 1) (by rfl)
    obtain rfl : d3 = true := by simpa using ready_all hr (j := 3) (by rfl)
    obtain rfl : d6 = true := by simpa using ready_all hr (j := 6) (by rfl)
    obtain rfl : d7 = true := by simpa using ready_all hr (j := 7) (by rfl)
    have hq1 := (h4 rfl).2
    have hq2 := (h5 rfl).2
    simp only [List.setIfInBounds_toArray, List.set_cons_zero, List.set_cons_succ, sel_t]
    clear h4 h5 hne h64 h76 hr
    have HQ : Hid (∀ W, Below w'.heap.size w' W → W.cell? ⟨q1, 0, none⟩ = some (.int .i64 a1) ∧ W.cell? ⟨q1, 1, none⟩ = some (.int .i64 a2) ∧ W.cell? ⟨q2, 0, none⟩ = some (.int .i64 a1) ∧ W.cell? ⟨q2, 1, none⟩ = some (.int .i64 a2)) := fun W hb => by
      have e1 : W.heap[q1]? = _ := hq1.bel hb
      have e2 : W.heap[q2]? = _ := hq2.bel hb
      exact ⟨by simp [World.cell?, e1], by simp [World.cell?, e1], by simp [World.cell?, e2], by simp [World.cell?, e2]⟩
    obtain ⟨⟨c0, c1⟩, c2, c3⟩ := HC.out w' hB
    obtain ⟨e0, he0⟩ : ∃ e0, e0 = chk k m := ⟨_, rfl⟩
    have HCK := hide (check_any (w := w') k m HK.out.1 HK.out.2)
    rw [← he0] at HCK
    have HE0 := hide he0
    have HBw := hide hB
    clear hB hq1 hq2 he0 HS1 HS2
    go_wp2_with fail
    refine HCK.out.mono ?_
    rintro e w3 ⟨rfl, hb3⟩
    have hB3 : Below U.heap.size U w3 := HBw.out.trans (hb3.mono HBw.out.size)
    obtain ⟨⟨x0, x1⟩, x2, x3⟩ := HC.out w3 hB3
    have HRC := hide (rcheck_any (w := w3) k m HK.out.1 HK.out.2)
    rw [← HE0.out] at HRC
    have HB3 := hide (And.intro hb3 hB3)
    clear hb3 hB3 c0 c1 c2 c3
    go_wp2_with fail
    refine HRC.out.mono ?_
    rintro e w4 ⟨rfl, hb4⟩
    have hB4 : Below U.heap.size U w4 := HB3.out.2.trans (hb4.mono HB3.out.2.size)
    have hw4 : Below w'.heap.size w' w4 := HB3.out.1.trans (hb4.mono HB3.out.1.size)
    obtain ⟨r0, r1, s0, s1⟩ := HQ.out w4 hw4
    have hL4 : Zq.Sh.Laid w4 := HL.out.below (HB0.out.trans (hB4.mono HB0.out.size)) HL.out.size
    have HWK := hide (works10 hL4)
    have HB4 := hide hB4
    clear hb4 hB4 hw4 hL4 x0 x1 x2 x3
    go_wp2_with fail
    refine HWK.out.mono ?_
    rintro e w5 ⟨rfl, hb5⟩
    have hB5 : Below U.heap.size U w5 := HB4.out.trans (hb5.mono HB4.out.size)
    have HFIN : Hid (∀ W, Below U.heap.size U W → Below w.heap.size w W) := fun W hb => HB0.out.trans (hb.mono HB0.out.size)
    by_cases h0 : e0 = 0
    · have HB5 := hide (HFIN.out w5 hB5)
      subst h0
      clear hB5 hb5
      go_wp2
      go_ret
      exact ⟨rfl, HB5.out⟩
    · have hne0 : chk k m ≠ 0 := by rw [← HE0.out]; exact h0
      have h01 : e0 = 1 := by rw [HE0.out]; exact chk_one hne0
      have HLD : Hid (∀ W, Below U.heap.size U W → Zq.Sh.Laid W) := fun W hb => HL.out.below (HFIN.out W hb) HL.out.size
      have HJ1 : Hid (∀ W, Hid (Below U.heap.size U W) → Calls Tryz.prog 24 #[.agg #[.int .i64 k, .int .i64 m], .string ⟨#[97]⟩, .string ⟨#[98]⟩] W fun e w' => ∃ b, e = .returned (.pointer (some ⟨b, 0, none⟩)) ∧ Hid (KJ b w' ∧ Below W.heap.size W w') ∧ Hid (Below U.heap.size U w') ∧ w'.cell? ⟨X, 0, none⟩ = some (.int .i64 k) ∧ w'.cell? ⟨X, 1, none⟩ = some (.int .i64 m)) := fun W hu => by
        refine (kb_put HK.out.1 HK.out.2 hne0 (HLD.out W hu.out)).mono ?_
        rintro e w' ⟨b, rfl, h⟩
        have := hu.out.trans (h.out.2.mono hu.out.size)
        exact ⟨b, rfl, h, this, (HC.out w' this).1⟩
      have HJ2 : Hid (∀ W, Hid (Below U.heap.size U W) → Calls Tryz.prog 25 #[.agg #[.int .i64 k, .int .i64 m], .string ⟨#[97]⟩, .string ⟨#[]⟩] W fun e w' => ∃ b, e = .returned (.pointer (some ⟨b, 0, none⟩)) ∧ Hid (KJ b w' ∧ Below W.heap.size W w') ∧ Hid (Below U.heap.size U w') ∧ w'.cell? ⟨X, 0, none⟩ = some (.int .i64 k) ∧ w'.cell? ⟨X, 1, none⟩ = some (.int .i64 m)) := fun W hu => by
        refine (kb_get HK.out.1 HK.out.2 hne0 (HLD.out W hu.out)).mono ?_
        rintro e w' ⟨b, rfl, h⟩
        have := hu.out.trans (h.out.2.mono hu.out.size)
        exact ⟨b, rfl, h, this, (HC.out w' this).1⟩
      have HJ3 : Hid (∀ W, Hid (Below U.heap.size U W) → Calls Tryz.prog 26 #[.agg #[.int .i64 k, .int .i64 m], .string ⟨#[97]⟩] W fun e w' => ∃ b, e = .returned (.pointer (some ⟨b, 0, none⟩)) ∧ Hid (KJ b w' ∧ Below W.heap.size W w') ∧ Hid (Below U.heap.size U w') ∧ w'.cell? ⟨X, 0, none⟩ = some (.int .i64 k) ∧ w'.cell? ⟨X, 1, none⟩ = some (.int .i64 m)) := fun W hu => by
        refine (kb_del HK.out.1 HK.out.2 hne0 (HLD.out W hu.out)).mono ?_
        rintro e w' ⟨b, rfl, h⟩
        have := hu.out.trans (h.out.2.mono hu.out.size)
        exact ⟨b, rfl, h, this, (HC.out w' this).1⟩
      have HJ4 : Hid (∀ W, Hid (Below U.heap.size U W) → Calls Tryz.prog 27 #[.agg #[.int .i64 k, .int .i64 m], .string ⟨#[]⟩] W fun e w' => ∃ b, e = .returned (.pointer (some ⟨b, 0, none⟩)) ∧ Hid (KJ b w' ∧ Below W.heap.size W w') ∧ Hid (Below U.heap.size U w') ∧ w'.cell? ⟨X, 0, none⟩ = some (.int .i64 k) ∧ w'.cell? ⟨X, 1, none⟩ = some (.int .i64 m)) := fun W hu => by
        refine (kb_list HK.out.1 HK.out.2 hne0 (HLD.out W hu.out)).mono ?_
        rintro e w' ⟨b, rfl, h⟩
        have := hu.out.trans (h.out.2.mono hu.out.size)
        exact ⟨b, rfl, h, this, (HC.out w' this).1⟩
      have HJ5 : Hid (∀ W, Hid (Below U.heap.size U W) → Calls Tryz.prog 28 #[.agg #[.int .i64 k, .int .i64 m], .string ⟨#[97]⟩, .string ⟨#[]⟩] W fun e w' => ∃ b, e = .returned (.pointer (some ⟨b, 0, none⟩)) ∧ Hid (KJ b w' ∧ Below W.heap.size W w') ∧ Hid (Below U.heap.size U w') ∧ w'.cell? ⟨X, 0, none⟩ = some (.int .i64 k) ∧ w'.cell? ⟨X, 1, none⟩ = some (.int .i64 m)) := fun W hu => by
        refine (kb_scrub HK.out.1 HK.out.2 hne0 (HLD.out W hu.out)).mono ?_
        rintro e w' ⟨b, rfl, h⟩
        have := hu.out.trans (h.out.2.mono hu.out.size)
        exact ⟨b, rfl, h, this, (HC.out w' this).1⟩
      have hu0 : Hid (Below U.heap.size U w5.drew) := ⟨hB5.os, hB5.tape, hB5.output, hB5.size, hB5.block⟩
      obtain ⟨⟨c0, c1⟩, _, _⟩ := HC.out w5 hB5
      have hs0 : w5.drew.cell? ⟨X, 0, none⟩ = some (.int .i64 k) ∧ w5.drew.cell? ⟨X, 1, none⟩ = some (.int .i64 m) := ⟨c0, c1⟩
      subst h01
      clear hb5 hB5 r0 r1 s0 s1 hne0 h0 HQ HCK HRC HWK HE0 HBw HB3 HB4 HLD
      go_upto_region 8 with fail
      go_region_held3 (fun w' => w'.cell? ⟨X, 0, none⟩ = some (.int .i64 k) ∧ w'.cell? ⟨X, 1, none⟩ = some (.int .i64 m)) (first | with_reducible assumption | go_keep) (first
        | (go_at_call 24; refine (HJ1.out _ hu0).mono ?_; rintro e v1 ⟨b1, rfl, h1, hu1, hs1⟩)
        | (go_at_call 25; refine (HJ2.out _ hu1).mono ?_; rintro e v2 ⟨b2, rfl, h2, hu2, hs2⟩)
        | (go_at_call 26; refine (HJ3.out _ hu2).mono ?_; rintro e v3 ⟨b3, rfl, h3, hu3, hs3⟩)
        | (go_at_call 27; refine (HJ4.out _ hu3).mono ?_; rintro e v4 ⟨b4, rfl, h4, hu4, hs4⟩)
        | (go_at_call 28; refine (HJ5.out _ hu4).mono ?_; rintro e v5 ⟨b5, rfl, h5, hu5, hs5⟩))
      obtain ⟨V, hV⟩ : ∃ V, V = v5.alloc (.cells #[.pointer (some ⟨b1, 0, none⟩), .pointer (some ⟨b2, 0, none⟩), .pointer (some ⟨b3, 0, none⟩), .pointer (some ⟨b4, 0, none⟩), .pointer (some ⟨b5, 0, none⟩)] 56) := ⟨_, rfl⟩
      obtain ⟨G, hG⟩ : ∃ G, G = v5.heap.size := ⟨_, rfl⟩
      have hbV : Below v5.heap.size v5 V := by rw [hV]; exact (Below.refl _ _).alloc (Nat.le_refl _) _
      have hblk : V.heap[G]? = some (.cells #[.pointer (some ⟨b1, 0, none⟩), .pointer (some ⟨b2, 0, none⟩), .pointer (some ⟨b3, 0, none⟩), .pointer (some ⟨b4, 0, none⟩), .pointer (some ⟨b5, 0, none⟩)] 56 (0, 0)) := by rw [hV, hG]; exact heap_alloc_new v5 _
      have HKS : Hid (∀ j, j < 5 → ∀ W, Below V.heap.size V W → ∃ b, W.cell? ⟨G, j, none⟩ = some (.pointer (some ⟨b, 0, none⟩)) ∧ KJ b W) := fun j hj W hb => by
        have eG := (hb.block G (lt_of_block hblk)).trans hblk
        have g5 : KJ b5 V := h5.out.1.bel hbV
        have l4 : Below v4.heap.size v4 V := h5.out.2.trans (hbV.mono h5.out.2.size)
        have g4 : KJ b4 V := h4.out.1.bel l4
        have l3 : Below v3.heap.size v3 V := h4.out.2.trans (l4.mono h4.out.2.size)
        have g3 : KJ b3 V := h3.out.1.bel l3
        have l2 : Below v2.heap.size v2 V := h3.out.2.trans (l3.mono h3.out.2.size)
        have g2 : KJ b2 V := h2.out.1.bel l2
        have l1 : Below v1.heap.size v1 V := h2.out.2.trans (l2.mono h2.out.2.size)
        have g1 : KJ b1 V := h1.out.1.bel l1
        match j, hj with
        | 0, _ => exact ⟨b1, by simp [World.cell?, eG], g1.bel hb⟩
        | 1, _ => exact ⟨b2, by simp [World.cell?, eG], g2.bel hb⟩
        | 2, _ => exact ⟨b3, by simp [World.cell?, eG], g3.bel hb⟩
        | 3, _ => exact ⟨b4, by simp [World.cell?, eG], g4.bel hb⟩
        | 4, _ => exact ⟨b5, by simp [World.cell?, eG], g5.bel hb⟩
      have HEND : Hid (∀ W, Below V.heap.size V W → Below w.heap.size w W) := fun W hb => by
        have h9 : Below v5.heap.size v5 W := hbV.trans (hb.mono hbV.size)
        exact HFIN.out W (hu5.out.trans (h9.mono hu5.out.size))
      have HV := hide hV
      have HG := hide hG
      clear hV hG hbV hblk h1 h2 h3 h4 h5 hu0 hu1 hu2 hu3 hu4 hu5 hs0 hs1 hs2 hs3 hs4 hs5 c0 c1 HJ1 HJ2 HJ3 HJ4 HJ5
      go_upto_region 9 with fail
      rw [← HV.out, ← HG.out]
      go_loopw [60] (fun t wr => ∃ j : Nat, j ≤ 5 ∧ t = .int .i64 (j : Int) ∧ Below V.heap.size V wr) (fun t _ => 5 - (intOf t).toNat)
      case atStart => exact ⟨0, Nat.zero_le _, rfl, Below.refl _ _⟩
      case round =>
        obtain ⟨j, hj, rfl, hB⟩ := hrel
        by_cases hlt : j < 5
        · have y1 : (j : Int) < 5 := by omega
          have y0 : (0 : Int) ≤ (j : Int) := by omega
          obtain ⟨b, u0, hKJ⟩ := HKS.out j hlt wr hB
          have hfl := fld0
          have HO := hide (kj_over hKJ)
          have HR := hide (kj_result hKJ)
          have HJ := hide (And.intro hKJ hB)
          clear hKJ hB
          go_wp2_with fail
          refine HO.out.mono ?_
          rintro e w6 ⟨rfl, rfl⟩
          go_wp2_with fail
          refine HR.out.mono ?_
          rintro e w7 ⟨n, f1, n1, f2, f3, n2, f4, rfl, hb7⟩
          have HSt := hide (kj_steps (HJ.out.1.bel hb7))
          have HB7 := hide (HJ.out.2.trans (hb7.mono HJ.out.2.size))
          clear hb7
          go_wp2_with fail
          refine HSt.out.mono ?_
          rintro e w8 ⟨rfl, rfl⟩
          go_wp2
          exact ⟨⟨j + 1, by omega, by go_num, HB7.out⟩, by simp [intOf]; omega⟩
        · obtain rfl : j = 5 := by omega
          have HB := hide (HEND.out wr hB)
          clear hB
          go_wp2
          go_ret
          exact ⟨rfl, HB.out⟩
end Go.Proofs.YtagijldedngcoaaGreatDoor

namespace Go.Proofs.YtagijldedngcoaaGreatDoor.Zq.Sh
open Go.ChangeShapes Go.WideShapes Go.ChangeAt Go.RowKit Go.Lib

theorem Tryz.own : ownKnob Tryz.prog.godebug = none := by kernel_rfl
theorem Tryz.gFirst : Tryz.prog.globalNamed "garret/sha.firstWords" = some 0 := by kernel_rfl
theorem Tryz.gConst : Tryz.prog.globalNamed "garret/sha.constants" = some 1 := by kernel_rfl
theorem Tryz.tFirst : (Tryz.prog.globals[0]?).map (·.type) = some 209 := by kernel_rfl
theorem Tryz.tConst : (Tryz.prog.globals[1]?).map (·.type) = some 246 := by kernel_rfl
theorem Tryz.cells152 : Tryz.prog.cellsOf 152 = 1 := by kernel_rfl
theorem Tryz.cells246 : Tryz.prog.cellsOf 246 = 64 := by kernel_rfl
theorem Tryz.cells209 : Tryz.prog.cellsOf 209 = 8 := by kernel_rfl

abbrev laid2 : List (String × DataW Unit) := [("garret/sha.firstWords", Rows.laid_garret_sha_firstWords), ("garret/sha.constants", Rows.laid_garret_sha_constants)]

theorem door_met (os : Os) (args : Array Value) : laidMetH Tryz.prog laid2 ((World.doorLaid Tryz.prog 400 os).forCall (fun _ _ => 0) ⟨#[], args, []⟩).memory :=
  laidMetH_of_parts3 (fuel := 8) (laidMet_of_run' 8 (by kernel_rfl) (by kernel_rfl)) (by kernel_rfl) (by kernel_rfl)

theorem laid_of {W : World} (h : laidMetH Tryz.prog laid2 W) : Laid W := by
  rw [MakeChecks.laidMetH_plain _ _ _ (by kernel_rfl)] at h
  obtain ⟨ps, ⟨g0, t0, cs0, f0, p0, q0, hg0, ht0, hv0, hd0, ⟨g1, t1, cs1, f1, p1, q1, hg1, ht1, hv1, hd1, _, _⟩, _⟩, _, _⟩ := h
  obtain rfl := Option.some.inj (Tryz.gFirst.symm.trans hg0)
  obtain rfl := Option.some.inj (Tryz.gConst.symm.trans hg1)
  obtain rfl := Option.some.inj (Tryz.tFirst.symm.trans ht0)
  obtain rfl := Option.some.inj (Tryz.tConst.symm.trans ht1)
  have e0 := cells_of_tab (k := .u32) (zs := first.list) Tryz.underlying209 Tryz.underlying152 Tryz.cells152 Tryz.cells209 hd0
  have e1 := cells_of_tab (k := .u32) (zs := Ks) Tryz.underlying246 Tryz.underlying152 Tryz.cells152 Tryz.cells246 hd1
  refine ⟨?_, ?_⟩
  · simp only [World.var?, Tryz.gConst, Option.bind_some] at hv1
    split at hv1
    · rename_i cs t fr hq
      have hcs := Option.some.inj hv1
      refine ⟨t, fr, ?_⟩
      rw [hq, hcs]
      congr 2
      apply Array.ext'
      rw [e1]
      simp [word]
    · cases hv1
  · simp only [World.var?, Tryz.gFirst, Option.bind_some] at hv0
    split at hv0
    · rename_i cs t fr hq
      have hcs := Option.some.inj hv0
      refine ⟨t, fr, ?_⟩
      rw [hq, hcs]
      congr 2
      apply Array.ext'
      rw [e0]
      simp [word]
    · cases hv0

end Go.Proofs.YtagijldedngcoaaGreatDoor.Zq.Sh

