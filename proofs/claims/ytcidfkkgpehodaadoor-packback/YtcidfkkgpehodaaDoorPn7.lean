/-
  Contracts of the program and of the statements (part 7 of 12).
-/
import Derived.Test.YtcidfkkgpehodaaDoorPn6
import Derived.Deep.MidRow
import Derived.Deep.RegionHeldLaw
import Derived.Maps.OwnSet
import Derived.StringKeys
import Derived.DeepKeys4
import Derived.Deep.WholeRow
import Derived.Lib.SliceRun
import Derived.Great.BuildSlice
import Derived.Laws.IdiomCopy

namespace Go.Proofs.YtcidfkkgpehodaaDoor
open Go.RowKit Go.Lib
section
variable {s : ByteArray} {b : Nat} {wx : World}
theorem ask1 (hr : Zq.Nm.Rd 131 wx b s 0 0) (hs : s.size ≤ 140737488355328) : Calls Tryd.prog 63 #[.pointer (some ⟨b, 0, none⟩), .int .i64 1] wx fun e w' => e = .returned (.int .i64 ((h1 s).num : Nat)) ∧ Zq.Nm.Rd 131 w' b s (p1 s) (h1 s).code ∧ wx.grownBy w' (some b) := by
  have := Zq.Nm.rFixed_any 1 hr (Nat.zero_le _) hs (by decide)
  rw [← h1] at this
  exact this
theorem ask2 (hr : Zq.Nm.Rd 131 wx b s (p1 s) (h1 s).code) (hs : s.size ≤ 140737488355328) : Calls Tryd.prog 64 #[.pointer (some ⟨b, 0, none⟩), .int .i64 65536] wx fun e w' => e = .returned (.int .i64 ((h2 s).num : Nat)) ∧ Zq.Nm.Rd 131 w' b s (p2 s) (h2 s).code ∧ wx.grownBy w' (some b) := by
  have := Zq.Nm.rShort_any 65536 hr (heads s).2.1 hs
  rw [← h2] at this
  exact this
theorem ask3 (hr : Zq.Nm.Rd 131 wx b s (p2 s) (h2 s).code) (hs : s.size ≤ 140737488355328) : Calls Tryd.prog 74 #[.pointer (some ⟨b, 0, none⟩), .int .i64 ((s.size : Int) - (p2 s : Int))] wx fun e w' => e = .returned (.string (h3 s).txt) ∧ Zq.Nm.Rd 131 w' b s (p2 s + (h3 s).long) (h3 s).code ∧ wx.grownBy w' (some b) := by
  have := Zq.Nm.rBytes_any ((s.size : Int) - (p2 s : Int)) hr (heads s).2.2.1 hs (by omega)
  rw [← h3] at this
  exact this
end
/-- An operation that reads alone is taken first. -/
theorem take_at {ops : Array Oper} {Q : Exit → Act → World → Prop} {S : World → Prop} {i d : Nat} {oi : Oper} {v : Value} {fuel : Nat} {listed : Array Bool} {a : Act} {w : World} (hi : ops[i]? = some oi) (hd : oi.dst = some d)
    (hs : Region.noSelect ops = true) (hf : Region.free .any ops listed i = true) (hr : (Region.ready .any ops listed).contains i = true)
    (hQ : ∀ c a w, Q (.panic c) (a.put oi.dst v) w → Q (.panic c) a w) (hy : YieldsIf Tryd.prog ops S oi v a) (hS : S w)
    (h : wpAnyH Tryd.prog .any ops Q S fuel (listed.setIfInBounds i true) ⟨a.tmps.setIfInBounds d v, a.defers⟩ w) : wpAnyH Tryd.prog .any ops Q S (fuel + 1) listed a w :=
  wpAnyH_take hi hs hf hr hQ hy hS (by rw [hd]; exact h)
theorem below_gs1 {w w1 w2 : World} {p : Nat} (h : Below w.heap.size w w1) (g : Gs (fun i => i = p) w1 w2) (hp : w.heap.size ≤ p) : Below w.heap.size w w2 := g.below h h.size (fun i e => by omega)
theorem head_store {w : World} {p : Nat} {z0 z1 z2 : Value} (h : w.heap[p]? = some (.cells #[z0, z1, z2] 97 (0, 0))) (f n : Int) (t : ByteArray) :
    ∃ w', (Instr.storeAt 97 (.pointer (some ⟨p, 0, none⟩)) (.agg #[.int .i64 f, .int .i64 n, .string t])).run Tryd.prog w = .ok () w' ∧ w'.heap[p]? = some (.cells #[.int .i64 f, .int .i64 n, .string t] 97 (0, 0)) ∧ Gs (fun i => i = p) w w' := by
  have hs := three_set h (.int .i64 f) (.int .i64 n) (.string t)
  exact ⟨_, run_storeAt_mid (P := Tryd.prog) w p 0 97 #[.int .i64 f, .int .i64 n, .string t] (fun j hj => ⟨by rw [World.cell?]; simp only [h]; rw [Array.getElem?_eq_getElem (by simp at hj ⊢; omega)]; rfl, by simp [World.frozen?, h]⟩) (by kernel_rfl) (by simp [Value.oneCell']), hs.2.2.2.1, hs.2.2.2.2⟩
set_option maxRecDepth 100000 in
set_option maxHeartbeats 1600000 in
theorem ahead_any {w : World} {s : ByteArray} (hs : s.size ≤ 140737488355328) : Calls Tryd.prog 57 #[.string s] w fun e w' => e = .returned (.tuple #[hdV s, .bool (okH s)]) ∧ Below w.heap.size w w' := by
  have HH := hide (heads s)
  have A1 := hide (fun b wx hr => ask1 (s := s) (b := b) (wx := wx) hr hs)
  have A2 := hide (fun b wx hr => ask2 (s := s) (b := b) (wx := wx) hr hs)
  have A3 := hide (fun b wx hr => ask3 (s := s) (b := b) (wx := wx) hr hs)
  have AL := hide (fun b wx x hr => Zq.Nm.left_any (s := s) (b := b) (w := wx) (p := p2 s) (x := x) hr HH.out.2.2.1 hs)
  have AE := hide (fun b wx x hr => Zq.Nm.err_any (s := s) (b := b) (w := wx) (p := p2 s + (h3 s).long) (x := x) hr)
  have AK := hide (fun wx => kind_any (w := wx) HH.out.1 ((h2 s).num : Nat) (h3 s).txt)
  have hok := HH.out.2.2.2.1
  rw [hdV]
  obtain ⟨f, hf⟩ : ∃ f, (h1 s).num = f := ⟨_, rfl⟩
  obtain ⟨n, hn⟩ : ∃ n, (h2 s).num = n := ⟨_, rfl⟩
  obtain ⟨t, ht⟩ : ∃ t, (h3 s).txt = t := ⟨_, rfl⟩
  obtain ⟨x1, hx1⟩ : ∃ x, (h1 s).code = x := ⟨_, rfl⟩
  obtain ⟨x2, hx2⟩ : ∃ x, (h2 s).code = x := ⟨_, rfl⟩
  obtain ⟨x3, hx3⟩ : ∃ x, (h3 s).code = x := ⟨_, rfl⟩
  obtain ⟨l3, hl3⟩ : ∃ x, (h3 s).long = x := ⟨_, rfl⟩
  obtain ⟨o, ho⟩ : ∃ o, okH s = o := ⟨_, rfl⟩
  rw [hf, hx3, ho] at hok
  rw [hf, hx1] at A1
  rw [hn, hx1, hx2] at A2
  rw [ht, hx2, hx3, hl3] at A3
  rw [hl3] at AE
  rw [hf, hn, ht] at AK
  rw [hf, hn, ht, ho]
  obtain ⟨q1, hq1⟩ : ∃ x, p1 s = x := ⟨_, rfl⟩
  obtain ⟨q2, hq2⟩ : ∃ x, p2 s = x := ⟨_, rfl⟩
  rw [hq1] at A1 A2
  rw [hq2] at A2 A3 AL AE
  clear HH hf hn ht hx1 hx2 hl3 ho hq1 hq2
  obtain ⟨p, hp⟩ : ∃ p, w.heap.size = p := ⟨_, rfl⟩
  obtain ⟨W1, hW1⟩ : ∃ W1, w.alloc (.cells #[.int .i64 0, .int .i64 0, .string ⟨#[]⟩] 97) = W1 := ⟨_, rfl⟩
  have hB1 : Below w.heap.size w W1 := by rw [← hW1]; exact (Below.refl _ _).alloc (Nat.le_refl _) _
  have kp : W1.heap[p]? = some (.cells #[.int .i64 0, .int .i64 0, .string ⟨#[]⟩] 97 (0, 0)) := by rw [← hW1, ← hp]; exact heap_alloc_new w _
  have hs1 : W1.heap.size = p + 1 := by rw [← hW1, ← hp]; simp
  have H1 := hide (And.intro hB1 (And.intro kp hs1))
  have HP := hide hp
  have HW1 := hide hW1
  clear hB1 kp hs1 hp hW1
  go_enter Tryd.func57, Tryd.ntmps57
  go_wp2_with fail
  rw [HW1.out, HP.out]
  refine (Zq.Nm.read_any s _).mono ?_
  rw [H1.out.2.2]
  rintro _ w2 ⟨rfl, hr, hb⟩
  have H2 : Hid (Below w.heap.size w w2 ∧ w2.heap[p]? = some (.cells #[.int .i64 0, .int .i64 0, .string ⟨#[]⟩] 97 (0, 0)) ∧ Zq.Nm.Rd 131 w2 (p + 1) s 0 0) :=
    ⟨below_step H1.out.1 (by rw [H1.out.2.2]; exact hb), (hb.block p (by omega)).trans H1.out.2.1, hr⟩
  clear hr hb
  go_wp2_with fail
  refine (A1.out _ _ H2.out.2.2).mono ?_
  rintro _ w3 ⟨rfl, hr, hg⟩
  have H3 : Hid (Below w.heap.size w w3 ∧ w3.heap[p]? = some (.cells #[.int .i64 0, .int .i64 0, .string ⟨#[]⟩] 97 (0, 0)) ∧ Zq.Nm.Rd 131 w3 (p + 1) s q1 x1) :=
    ⟨Zq.Sh.below_gb H2.out.1 hg (by rw [HP.out]; omega) H2.out.1.size, (hg.block p (lt_of_block H2.out.2.1) (by simp)).trans H2.out.2.1, hr⟩
  clear hr hg
  go_wp2_with fail
  refine (A2.out _ _ H3.out.2.2).mono ?_
  rintro _ w4 ⟨rfl, hr, hg⟩
  have H4 : Hid (Below w.heap.size w w4 ∧ w4.heap[p]? = some (.cells #[.int .i64 0, .int .i64 0, .string ⟨#[]⟩] 97 (0, 0)) ∧ Zq.Nm.Rd 131 w4 (p + 1) s q2 x2) :=
    ⟨Zq.Sh.below_gb H3.out.1 hg (by rw [HP.out]; omega) H3.out.1.size, (hg.block p (lt_of_block H3.out.2.1) (by simp)).trans H3.out.2.1, hr⟩
  clear hr hg H2 H3
  go_wp2_with fail
  obtain ⟨r, hr⟩ : ∃ r, w4.heap.size = r := ⟨_, rfl⟩
  obtain ⟨w5, hw5⟩ : ∃ w5, w4.alloc (.cells #[.int .i64 (f : Int), .int .i64 (n : Int), .string ⟨#[]⟩] 97) = w5 := ⟨_, rfl⟩
  have H5 : Hid (Below w.heap.size w w5 ∧ w5.heap[p]? = some (.cells #[.int .i64 0, .int .i64 0, .string ⟨#[]⟩] 97 (0, 0)) ∧ Zq.Nm.Rd 131 w5 (p + 1) s q2 x2 ∧ w5.heap[r]? = some (.cells #[.int .i64 (f : Int), .int .i64 (n : Int), .string ⟨#[]⟩] 97 (0, 0)) ∧ p + 1 < r) := by
    have hlt := H4.out.2.2.lt
    rw [← hw5, ← hr]
    exact ⟨below_al H4.out.1 _, (Below.heap_alloc _ _ _ (lt_of_block H4.out.2.1)).trans H4.out.2.1, H4.out.2.2.alloc _, heap_alloc_new w4 _, hlt⟩
  rw [hw5, hr]
  clear hr hw5 H4
  refine (AL.out _ _ _ H5.out.2.2.1).mono ?_
  rintro _ _ ⟨rfl, m, rfl⟩
  go_wp2_with fail
  refine (A3.out _ _ (H5.out.2.2.1.drewN m)).mono ?_
  rintro _ w6 ⟨rfl, hr, hg⟩
  have H6 : Hid (Below w.heap.size w w6 ∧ w6.heap[p]? = some (.cells #[.int .i64 0, .int .i64 0, .string ⟨#[]⟩] 97 (0, 0)) ∧ Zq.Nm.Rd 131 w6 (p + 1) s (q2 + l3) x3 ∧ w6.heap[r]? = some (.cells #[.int .i64 (f : Int), .int .i64 (n : Int), .string ⟨#[]⟩] 97 (0, 0)) ∧ p + 1 < r) :=
    ⟨Zq.Sh.below_gb (Zq.Nm.below_drew H5.out.1 m) hg (by rw [HP.out]; omega) H5.out.1.size, (hg.block p (lt_of_block H5.out.2.1) (by simp)).trans H5.out.2.1, hr, (hg.block r (lt_of_block H5.out.2.2.2.1) (by have := H5.out.2.2.2.2; simp; omega)).trans H5.out.2.2.2.1, H5.out.2.2.2.2⟩
  clear hr hg H5
  have d2 := (cell3 H6.out.2.2.2.1).2.2
  have e2 := free3 H6.out.2.2.2.1 2
  obtain ⟨w7, hw7⟩ : ∃ w7, w6.setCell ⟨r, 2, none⟩ (.string t) = w7 := ⟨_, rfl⟩
  have H7 : Hid (Below w.heap.size w w7 ∧ w7.heap[p]? = some (.cells #[.int .i64 0, .int .i64 0, .string ⟨#[]⟩] 97 (0, 0)) ∧ Zq.Nm.Rd 131 w7 (p + 1) s (q2 + l3) x3 ∧ w7.heap[r]? = some (.cells #[.int .i64 (f : Int), .int .i64 (n : Int), .string t] 97 (0, 0)) ∧ p + 1 < r) := by
    have hlt := H6.out.2.2.2.2
    rw [← hw7]
    exact ⟨Zq.Sh.below_gb H6.out.1 (Zq.Nm.gb_set _ _ _ _) (by rw [HP.out]; omega) H6.out.1.size, ((Zq.Nm.gb_set _ _ _ _).block p (lt_of_block H6.out.2.1) (by simp; omega)).trans H6.out.2.1, H6.out.2.2.1.other (by omega) _ _, heap_set_self H6.out.2.2.2.1, hlt⟩
  have HW7 := hide hw7
  clear hw7 H6
  by_cases c : x3 = 0
  rotate_left
  · have c1 : (x3 == 0) = false := by simpa using c
    have ho : o = false := by rw [hok, decide_eq_false c, Bool.false_and]
    subst ho
    clear hok hx3 c
    go_upto_region 4 with fail
    rw [HW7.out]
    clear d2 e2
    obtain ⟨V9, hst, k9, g9⟩ := head_store (w := w7.drew) H7.out.2.1 f n t
    have hB9 : Below w.heap.size w V9 := below_gs1 H7.out.1.drew g9 (by rw [HP.out]; omega)
    have h9 : V9.heap[r]? = some (.cells #[.int .i64 (f : Int), .int .i64 (n : Int), .string t] 97 (0, 0)) := (g9.block r (lt_of_block H7.out.2.2.2.1) (by have := H7.out.2.2.2.2; omega)).trans H7.out.2.2.2.1
    have D7 := hide (cell3 (w := w7.drew) H7.out.2.2.2.1)
    have D9 := hide (cell3 h9)
    obtain ⟨f0, f1, f2⟩ := cell3 k9
    have HB9 := hide hB9
    have HE := hide (AE.out (p + 1) w7.drew _ H7.out.2.2.1)
    clear h9 g9 k9 hB9
    refine wp_region_noPanic ?_
    refine wp_region_held_drew (S := fun wx => wx.cell? ⟨r, 0, none⟩ = some (.int .i64 (f : Int)) ∧ wx.cell? ⟨r, 1, none⟩ = some (.int .i64 (n : Int)) ∧ wx.cell? ⟨r, 2, none⟩ = some (.string t)) (by kernel_rfl) D7.out (fun hHeld => ?_)
    refine take_at (i := 0) (d := 18) (v := .agg #[.int .i64 (f : Int), .int .i64 (n : Int), .string t]) rfl rfl (by kernel_rfl) (by kernel_rfl) (by kernel_rfl) (fun _ _ _ h => h) (Or.inl ⟨by rfl, fun w' hSw => ?_⟩) hHeld ?_
    · obtain ⟨_, _, _⟩ := hSw
      go_simp
    try simp only [List.setIfInBounds_toArray, List.set_cons_zero, List.set_cons_succ]
    refine take_at (i := 1) (d := 19) (v := .pointer (some ⟨p + 1, 0, none⟩)) rfl rfl (by kernel_rfl) (by kernel_rfl) (by kernel_rfl) (fun _ _ _ h => h) (Or.inl ⟨by rfl, fun w' hSw => ?_⟩) hHeld ?_
    · obtain ⟨_, _, _⟩ := hSw
      go_simp
    try simp only [List.setIfInBounds_toArray, List.set_cons_zero, List.set_cons_succ]
    refine wpAnyH_ready (rs := [2]) (by kernel_rfl) (by simp) ?_
    refine AllReadyH.cons rfl (fun K hK => ?_) AllReadyH.nil
    go_simp
    refine HE.out.mono ?_
    rintro _ _ ⟨rfl, rfl⟩
    go_simp
    refine hK.out _ _ D7.out (fun hHeld => ?_)
    clear hK K
    try simp only [Act.put, List.setIfInBounds_toArray, List.set_cons_zero, List.set_cons_succ]
    refine take_at (i := 3) (d := 21) (v := .bool false) rfl rfl (by kernel_rfl) (by kernel_rfl) (by kernel_rfl) (fun _ _ _ h => h) (Or.inl ⟨by rfl, fun w' hSw => ?_⟩) hHeld ?_
    · obtain ⟨_, _, _⟩ := hSw
      go_simp
    try simp only [List.setIfInBounds_toArray, List.set_cons_zero, List.set_cons_succ]
    refine take_at (i := 4) (d := 22) (v := .bool false) rfl rfl (by kernel_rfl) (by kernel_rfl) (by kernel_rfl) (fun _ _ _ h => h) (Or.inl ⟨by rfl, fun w' hSw => ?_⟩) hHeld ?_
    · obtain ⟨_, _, _⟩ := hSw
      go_simp
    try simp only [List.setIfInBounds_toArray, List.set_cons_zero, List.set_cons_succ]
    refine take_at (i := 5) (d := 23) (v := undef) rfl rfl (by kernel_rfl) (by kernel_rfl) (by kernel_rfl) (fun _ _ _ h => h) (Or.inr ⟨by rfl, rfl⟩) hHeld ?_
    try simp only [List.setIfInBounds_toArray, List.set_cons_zero, List.set_cons_succ]
    refine take_at (i := 6) (d := 24) (v := undef) rfl rfl (by kernel_rfl) (by kernel_rfl) (by kernel_rfl) (fun _ _ _ h => h) (Or.inr ⟨by rfl, rfl⟩) hHeld ?_
    try simp only [List.setIfInBounds_toArray, List.set_cons_zero, List.set_cons_succ]
    refine take_at (i := 7) (d := 25) (v := undef) rfl rfl (by kernel_rfl) (by kernel_rfl) (by kernel_rfl) (fun _ _ _ h => h) (Or.inr ⟨by rfl, rfl⟩) hHeld ?_
    try simp only [List.setIfInBounds_toArray, List.set_cons_zero, List.set_cons_succ]
    refine take_at (i := 8) (d := 26) (v := .bool false) rfl rfl (by kernel_rfl) (by kernel_rfl) (by kernel_rfl) (fun _ _ _ h => h) (Or.inl ⟨by rfl, fun w' hSw => ?_⟩) hHeld ?_
    · obtain ⟨_, _, _⟩ := hSw
      go_simp
    try simp only [List.setIfInBounds_toArray, List.set_cons_zero, List.set_cons_succ]
    refine wpAnyH_ready (rs := [9]) (by kernel_rfl) (by simp) ?_
    refine AllReadyH.cons rfl (fun K hK => ?_) AllReadyH.nil
    refine step_store_run rfl 97 _ _ rfl _ _ rfl rfl V9 hst ?_
    refine hK.out _ _ D9.out (fun hHeld => ?_)
    clear hK K
    try simp only [Act.put]
    refine take_at (i := 10) (d := 3) (v := .bool false) rfl rfl (by kernel_rfl) (by kernel_rfl) (by kernel_rfl) (fun _ _ _ h => h) (Or.inl ⟨by rfl, fun w' hSw => ?_⟩) hHeld ?_
    · obtain ⟨_, _, _⟩ := hSw
      go_simp
    refine wpAnyH_done (by kernel_rfl) ?_ _
    refine NoPanic.normal ?_
    go_wp2
    exact bodyPost_ret (v := .tuple #[.agg #[.int .i64 (f : Int), .int .i64 (n : Int), .string t], .bool false]) (by simp [results, Tryd.results57, go_sem, f0, f1, f2]) rfl ⟨rfl, HB9.out⟩
  · subst c
    have HKN : Hid (kn ((kd f : Nat) : Int) = o) := hide (by rw [hok, decide_eq_true rfl, Bool.true_and])
    have hx0 : ((0 : Int) == 0) = true := rfl
    clear hok hx3
    go_upto_region 4 with fail
    rw [HW7.out]
    clear d2 e2
    have HK7 := hide (AK.out w7.drew)
    have HE := hide (AE.out (p + 1) w7.drew _ H7.out.2.2.1)
    have D7 := hide (cell3 (w := w7.drew) H7.out.2.2.2.1)
    refine wp_region_noPanic ?_
    refine wp_region_held_drew (S := fun wx => wx.cell? ⟨r, 0, none⟩ = some (.int .i64 (f : Int)) ∧ wx.cell? ⟨r, 1, none⟩ = some (.int .i64 (n : Int)) ∧ wx.cell? ⟨r, 2, none⟩ = some (.string t)) (by kernel_rfl) D7.out (fun hHeld => ?_)
    refine take_at (i := 0) (d := 18) (v := .agg #[.int .i64 (f : Int), .int .i64 (n : Int), .string t]) rfl rfl (by kernel_rfl) (by kernel_rfl) (by kernel_rfl) (fun _ _ _ h => h) (Or.inl ⟨by rfl, fun w' hSw => ?_⟩) hHeld ?_
    · obtain ⟨_, _, _⟩ := hSw
      go_simp
    try simp only [List.setIfInBounds_toArray, List.set_cons_zero, List.set_cons_succ]
    refine take_at (i := 1) (d := 19) (v := .pointer (some ⟨p + 1, 0, none⟩)) rfl rfl (by kernel_rfl) (by kernel_rfl) (by kernel_rfl) (fun _ _ _ h => h) (Or.inl ⟨by rfl, fun w' hSw => ?_⟩) hHeld ?_
    · obtain ⟨_, _, _⟩ := hSw
      go_simp
    try simp only [List.setIfInBounds_toArray, List.set_cons_zero, List.set_cons_succ]
    refine wpAnyH_ready (rs := [2]) (by kernel_rfl) (by simp) ?_
    refine AllReadyH.cons rfl (fun K hK => ?_) AllReadyH.nil
    go_simp
    refine HE.out.mono ?_
    rintro _ _ ⟨rfl, rfl⟩
    go_simp
    refine hK.out _ _ D7.out (fun hHeld => ?_)
    clear hK K
    try simp only [Act.put, List.setIfInBounds_toArray, List.set_cons_zero, List.set_cons_succ]
    refine take_at (i := 3) (d := 21) (v := .bool true) rfl rfl (by kernel_rfl) (by kernel_rfl) (by kernel_rfl) (fun _ _ _ h => h) (Or.inl ⟨by rfl, fun w' hSw => ?_⟩) hHeld ?_
    · obtain ⟨_, _, _⟩ := hSw
      go_simp
    try simp only [List.setIfInBounds_toArray, List.set_cons_zero, List.set_cons_succ]
    refine take_at (i := 4) (d := 22) (v := .bool true) rfl rfl (by kernel_rfl) (by kernel_rfl) (by kernel_rfl) (fun _ _ _ h => h) (Or.inl ⟨by rfl, fun w' hSw => ?_⟩) hHeld ?_
    · obtain ⟨_, _, _⟩ := hSw
      go_simp
    try simp only [List.setIfInBounds_toArray, List.set_cons_zero, List.set_cons_succ]
    refine take_at (i := 5) (d := 23) (v := .agg #[.int .i64 (f : Int), .int .i64 (n : Int), .string t]) rfl rfl (by kernel_rfl) (by kernel_rfl) (by kernel_rfl) (fun _ _ _ h => h) (Or.inl ⟨by rfl, fun w' hSw => ?_⟩) hHeld ?_
    · obtain ⟨_, _, _⟩ := hSw
      go_simp
    try simp only [List.setIfInBounds_toArray, List.set_cons_zero, List.set_cons_succ]
    refine wpAnyH_ready (rs := [6]) (by kernel_rfl) (by simp) ?_
    refine AllReadyH.cons rfl (fun K hK => ?_) AllReadyH.nil
    go_simp
    refine HK7.out.mono ?_
    rintro _ w8 ⟨rfl, hb⟩
    have k8 := (hb.block r (lt_of_block H7.out.2.2.2.1)).trans H7.out.2.2.2.1
    have D8 := hide (cell3 k8)
    obtain ⟨V9, hst, k9, g9⟩ := head_store (w := w8) ((hb.block p (lt_of_block H7.out.2.1)).trans H7.out.2.1) f n t
    have hB9 : Below w.heap.size w V9 := below_gs1 (below_step H7.out.1.drew hb) g9 (by rw [HP.out]; omega)
    have h9 : V9.heap[r]? = some (.cells #[.int .i64 (f : Int), .int .i64 (n : Int), .string t] 97 (0, 0)) := (g9.block r (lt_of_block k8) (by have := H7.out.2.2.2.2; omega)).trans k8
    have D9 := hide (cell3 h9)
    have F9 := hide (cell3 k9)
    have HB9 := hide hB9
    clear k8 k9 g9 hB9 h9 hb
    go_simp
    refine hK.out _ _ D8.out (fun hHeld => ?_)
    clear hK K
    try simp only [Act.put, List.setIfInBounds_toArray, List.set_cons_zero, List.set_cons_succ]
    refine wpAnyH_ready (rs := [7]) (by kernel_rfl) (by simp) ?_
    refine AllReadyH.cons rfl (fun K hK => ?_) AllReadyH.nil
    go_simp
    refine (known_call HKN.out _).mono ?_
    rintro _ _ ⟨rfl, rfl⟩
    go_simp
    refine hK.out _ _ D8.out (fun hHeld => ?_)
    clear hK K
    try simp only [Act.put, List.setIfInBounds_toArray, List.set_cons_zero, List.set_cons_succ]
    refine take_at (i := 8) (d := 26) (v := .bool o) rfl rfl (by kernel_rfl) (by kernel_rfl) (by kernel_rfl) (fun _ _ _ h => h) (Or.inl ⟨by rfl, fun w' hSw => ?_⟩) hHeld ?_
    · obtain ⟨_, _, _⟩ := hSw
      go_simp
    try simp only [List.setIfInBounds_toArray, List.set_cons_zero, List.set_cons_succ]
    refine wpAnyH_ready (rs := [9]) (by kernel_rfl) (by simp) ?_
    refine AllReadyH.cons rfl (fun K hK => ?_) AllReadyH.nil
    refine step_store_run rfl 97 _ _ rfl _ _ rfl rfl V9 hst ?_
    refine hK.out _ _ D9.out (fun hHeld => ?_)
    clear hK K
    try simp only [Act.put]
    refine take_at (i := 10) (d := 3) (v := .bool o) rfl rfl (by kernel_rfl) (by kernel_rfl) (by kernel_rfl) (fun _ _ _ h => h) (Or.inl ⟨by rfl, fun w' hSw => ?_⟩) hHeld ?_
    · obtain ⟨_, _, _⟩ := hSw
      go_simp
    refine wpAnyH_done (by kernel_rfl) ?_ _
    refine NoPanic.normal ?_
    obtain ⟨f0, f1, f2⟩ := F9.out
    go_wp2
    exact bodyPost_ret (v := .tuple #[.agg #[.int .i64 (f : Int), .int .i64 (n : Int), .string t], .bool o]) (by simp [results, Tryd.results57, go_sem, f0, f1, f2]) rfl ⟨rfl, HB9.out⟩
end Go.Proofs.YtcidfkkgpehodaaDoor

namespace Go.Proofs.YtcidfkkgpehodaaDoor
open Go.RowKit Go.Lib
def okH5 (s : ByteArray) : Bool := Lib.hasPrefix s.data.toList hd5.data.toList
def cut5 (s : ByteArray) : ByteArray := ⟨(Lib.trimPrefix s.data.toList hd5.data.toList).toArray⟩
def okT4 (s : ByteArray) : Bool := Lib.hasSuffix (cut5 s).data.toList tl4.data.toList
def cut4 (s : ByteArray) : ByteArray := ⟨(Lib.trimSuffix (cut5 s).data.toList tl4.data.toList).toArray⟩
def ptA (s : ByteArray) : Zq.Nm.Ah := Zq.Nm.asked 0 (Zq.Nm.fixedA ((cut4 s).extract ((cut4 s).size - 4) (cut4 s).size) 0 4)
def ptT (s : ByteArray) : Bool := decide (65536 < s.size) || !okH5 s || !okT4 s || decide ((cut4 s).size < 4)
def ptO (s : ByteArray) : Bool := !ptT s && decide ((ptA s).num + 4 ≤ (cut4 s).size)
def ptB (s : ByteArray) : ByteArray := if ptO s = true then (cut4 s).extract 0 ((cut4 s).size - 4 - (ptA s).num) else ⟨#[]⟩
def ptD (s : ByteArray) : ByteArray := if ptO s = true then (cut4 s).extract ((cut4 s).size - 4 - (ptA s).num) ((cut4 s).size - 4) else ⟨#[]⟩
theorem fixed4_lt (D : ByteArray) (p : Nat) : (Zq.Nm.asked 0 (Zq.Nm.fixedA D p 4)).num < 4294967296 := by
  rw [Zq.Nm.asked_zero]
  unfold Zq.Nm.fixedA
  split
  · exact Nat.zero_lt_succ _
  · split
    · exact Nat.zero_lt_succ _
    · have h := Zq.Nm.numOf_lt (D.extract p (p + (4 : Int).toNat)).data.toList
      have h2 : (D.extract p (p + (4 : Int).toNat)).data.toList.length ≤ 4 := by
        rw [li_size, ByteArray.size_extract]
        show min (p + 4) _ - p ≤ 4
        omega
      have h3 : 256 ^ (D.extract p (p + (4 : Int).toNat)).data.toList.length ≤ 256 ^ 4 := Nat.pow_le_pow_right (by decide) h2
      have h4 : 256 ^ 4 = 4294967296 := by decide
      rw [h4] at h3
      exact Nat.lt_of_lt_of_le h h3
set_option maxRecDepth 100000 in
set_option maxHeartbeats 1600000 in
theorem parts_any {w : World} {s : ByteArray} (hs : s.size ≤ 140737488355328) : Calls Tryd.prog 41 #[.string s] w fun e w' => e = .returned (.tuple #[.string (ptB s), .string (ptD s), .bool (ptO s)]) ∧ Below w.heap.size w w' := by
  have HA : Hid (∀ wx, Calls Tryd.prog 48 #[.string s, .string ⟨#[71, 82, 84, 80, 1]⟩] wx fun e w' => e = .returned (.tuple #[.string (cut5 s), .bool (okH5 s)]) ∧ w' = wx) := fun wx => Tryd.strings_CutPrefix s hd5 wx
  have hc5 : (cut5 s).size ≤ s.size := by
    rw [cut5, ← li_size, ← li_size]
    show (Lib.trimPrefix s.data.toList hd5.data.toList).length ≤ _
    rw [Lib.trimPrefix]
    split
    · rw [List.length_drop]; omega
    · exact Nat.le_refl _
  have hc4 : (cut4 s).size ≤ s.size := by
    refine Nat.le_trans ?_ hc5
    rw [cut4, ← li_size, ← li_size]
    show (Lib.trimSuffix (cut5 s).data.toList tl4.data.toList).length ≤ _
    rw [Lib.trimSuffix]
    split
    · rw [List.length_take]; omega
    · exact Nat.le_refl _
  have HB : Hid (∀ wx, Calls Tryd.prog 61 #[.string (cut5 s), .string ⟨#[80, 69, 78, 68]⟩] wx fun e w' => e = .returned (.tuple #[.string (cut4 s), .bool (okT4 s)]) ∧ w' = wx) := fun wx => Tryd.strings_CutSuffix (cut5 s) tl4 wx (by omega)
  have HN : Hid (∀ wx b, 4 ≤ (cut4 s).size → Zq.Nm.Rd 131 wx b ((cut4 s).extract ((cut4 s).size - 4) (cut4 s).size) 0 0 → Calls Tryd.prog 63 #[.pointer (some ⟨b, 0, none⟩), .int .i64 4] wx fun e w' => e = .returned (.int .i64 ((ptA s).num : Nat)) ∧ wx.grownBy w' (some b)) := fun wx b _ hr =>
    (Zq.Nm.rFixed_any 4 hr (Nat.zero_le _) (by rw [ByteArray.size_extract]; omega) (by decide)).mono fun _ _ ⟨e, _, g⟩ => ⟨e, g⟩
  have hlt : (ptA s).num < 4294967296 := fixed4_lt _ _
  rw [ptB, ptD, ptO, ptT]
  obtain ⟨R, hR⟩ : ∃ R, cut4 s = R := ⟨_, rfl⟩
  obtain ⟨n, hn⟩ : ∃ n, (ptA s).num = n := ⟨_, rfl⟩
  obtain ⟨b2, h2⟩ : ∃ b, okH5 s = b := ⟨_, rfl⟩
  obtain ⟨b3, h3⟩ : ∃ b, okT4 s = b := ⟨_, rfl⟩
  obtain ⟨s5, h5⟩ : ∃ x, cut5 s = x := ⟨_, rfl⟩
  rw [hR, hn, h2, h3]
  rw [h5, h2] at HA
  rw [h5, hR, h3] at HB
  rw [hR, hn] at HN
  rw [hR] at hc4
  rw [hn] at hlt
  have HD := hide hc4
  have w1 : IntKind.i64.wrap ((R.size : Int) - 4) = (R.size : Int) - 4 := by rw [IntKind.wrap_i64]; omega
  have HF := hide (Below.refl w.heap.size w)
  clear hR hn h2 h3 h5 hc5 hc4
  obtain ⟨b1, h1⟩ : ∃ b, decide ((65536 : Int) < (s.size : Int)) = b := ⟨_, rfl⟩
  have e1 : decide (65536 < s.size) = b1 := by rw [← h1]; by_cases c : 65536 < s.size <;> simp [c] <;> omega
  obtain ⟨b4, h4⟩ : ∃ b, decide ((R.size : Int) - 4 < 0) = b := ⟨_, rfl⟩
  have e4 : decide (R.size < 4) = b4 := by rw [← h4]; by_cases c : R.size < 4 <;> simp [c] <;> omega
  rw [e1, e4]
  by_cases hT : (b1 || !b2 || !b3 || b4) = true
  · rw [hT]
    have hX : (!true && decide (n + 4 ≤ R.size)) = false := rfl
    rw [hX, if_neg (by decide), if_neg (by decide)]
    clear hX e1 e4 HN HD
    cases b1 <;> cases b2 <;> cases b3 <;> cases b4 <;> first | (exact absurd hT (by decide)) | skip
    all_goals
      clear hT
      go_enter Tryd.func41, Tryd.ntmps41
      go_wp2_with fail
      refine (HA.out _).mono ?_
      rintro _ _ ⟨rfl, rfl⟩
      go_wp2_with fail
      refine (HB.out _).mono ?_
      rintro _ _ ⟨rfl, rfl⟩
      go_wp2
      exact bodyPost_ret (v := .tuple #[.string ⟨#[]⟩, .string ⟨#[]⟩, .bool false]) (by simp [results, Tryd.results41, go_sem]) rfl ⟨rfl, HF.out⟩
  · rw [Bool.not_eq_true] at hT
    rw [hT]
    cases b1 <;> cases b2 <;> cases b3 <;> cases b4 <;> first | (exact absurd hT (by decide)) | skip
    have hR4 : 4 ≤ R.size := by simpa using e4
    have e5 : (R.size : Int) - 4 = ((R.size - 4 : Nat) : Int) := by omega
    have hF := HN.out
    have HN2 : Hid (∀ wx, Zq.Nm.Rd 131 wx w.heap.size (R.extract (R.size - 4) R.size) 0 0 → Calls Tryd.prog 63 #[.pointer (some ⟨w.heap.size, 0, none⟩), .int .i64 4] wx fun e w' => e = .returned (.int .i64 (n : Nat)) ∧ wx.grownBy w' (some w.heap.size)) := fun wx hr => hF wx _ hR4 hr
    have f1 := bl_from (r := R) (a := R.size - 4) (by omega)
    rw [← e5] at f1
    obtain ⟨F, hF2⟩ : ∃ F, R.extract (R.size - 4) R.size = F := ⟨_, rfl⟩
    rw [hF2] at f1 HN2
    have HRd := hide (Zq.Nm.read_any F w)
    clear hF HN hF2 hT e1
    by_cases c : n + 4 ≤ R.size
    · have hd := HD.out
      have c1 : decide ((R.size : Int) - 4 < (n : Int)) = false := by simp; omega
      have w2 : IntKind.i64.wrap ((R.size : Int) - 4 - (n : Int)) = ((R.size - 4 - n : Nat) : Int) := by rw [IntKind.wrap_i64]; omega
      have g1 := sl_to (s := R) (a := R.size - 4 - n) (by omega)
      have g2 := sl_at (s := R) (a := R.size - 4 - n) (b := R.size - 4) (by omega) (by omega)
      rw [← e5] at g2
      rw [decide_eq_true c]
      simp only [Bool.not_false, Bool.true_and, if_true]
      obtain ⟨X, hX⟩ : ∃ X, R.extract 0 (R.size - 4 - n) = X := ⟨_, rfl⟩
      obtain ⟨Y, hY⟩ : ∃ Y, R.extract (R.size - 4 - n) (R.size - 4) = Y := ⟨_, rfl⟩
      rw [hX] at g1 ⊢
      rw [hY] at g2 ⊢
      clear hX hY c hR4 e4 e5 hd
      go_enter Tryd.func41, Tryd.ntmps41
      go_wp2_with fail
      refine (HA.out _).mono ?_
      rintro _ _ ⟨rfl, rfl⟩
      go_wp2_with fail
      refine (HB.out _).mono ?_
      rintro _ _ ⟨rfl, rfl⟩
      go_wp2_with fail
      refine HRd.out.mono ?_
      rintro _ w2 ⟨rfl, hr, hb⟩
      have HB2 := hide hb
      have hlt2 := hr.lt
      go_wp2_with fail
      refine (HN2.out _ hr).mono ?_
      rintro _ w3 ⟨rfl, hg⟩
      have HB3 := hide (Zq.Sh.below_gb HB2.out hg (Nat.le_refl _) HB2.out.size)
      clear hb hr hg
      go_wp2_with fail
      go_region
      go_wp2
      exact bodyPost_ret (v := .tuple #[.string X, .string Y, .bool true]) (by simp [results, Tryd.results41, go_sem]) rfl ⟨rfl, HB3.out.drew⟩
    · have c1 : decide ((R.size : Int) - 4 < (n : Int)) = true := by simp; omega
      rw [decide_eq_false c]
      simp only [Bool.and_false, if_neg (show ¬ (false = true) by decide)]
      clear c hR4 e4 e5
      go_enter Tryd.func41, Tryd.ntmps41
      go_wp2_with fail
      refine (HA.out _).mono ?_
      rintro _ _ ⟨rfl, rfl⟩
      go_wp2_with fail
      refine (HB.out _).mono ?_
      rintro _ _ ⟨rfl, rfl⟩
      go_wp2_with fail
      refine HRd.out.mono ?_
      rintro _ w2 ⟨rfl, hr, hb⟩
      have HB2 := hide hb
      go_wp2_with fail
      refine (HN2.out _ hr).mono ?_
      rintro _ w3 ⟨rfl, hg⟩
      have HB3 := hide (Zq.Sh.below_gb HB2.out hg (Nat.le_refl _) HB2.out.size)
      clear hb hr hg
      go_wp2
      exact bodyPost_ret (v := .tuple #[.string ⟨#[]⟩, .string ⟨#[]⟩, .bool false]) (by simp [results, Tryd.results41, go_sem]) rfl ⟨rfl, HB3.out⟩
end Go.Proofs.YtcidfkkgpehodaaDoor

namespace Go.Proofs.YtcidfkkgpehodaaDoor
open Go.RowKit Go.Lib
def nm5 : ByteArray := ⟨#[112, 97, 99, 107, 47]⟩
def hxB (i : ByteArray) : ByteArray := Zq.Sh.strOf (Zq.Sh.hexOf i.data.toList)
def pnB (i : ByteArray) : ByteArray := nm5 ++ hxB i
def pfx (n : ByteArray) : Bool := Lib.hasPrefix n.data.toList nm5.data.toList
def dgs (n : ByteArray) : ByteArray := ⟨(Lib.trimPrefix n.data.toList nm5.data.toList).toArray⟩
/-- What name is whose id. -/
def idO (n : ByteArray) : Option ByteArray := if pfx n = true then (match Zq.Sh.unhexL (dgs n).data.toList with
  | some r => if r.length = 32 then some (Zq.Sh.strOf r) else none
  | none => none) else none
def idV (n : ByteArray) : Value := match idO n with
  | some i => .tuple #[.string i, .int .i64 0]
  | none => .tuple #[.string ⟨#[]⟩, .int .i64 5]
set_option maxRecDepth 100000 in
theorem name_any {w : World} (i : ByteArray) (hi : i.size ≤ 1000000) : Calls Tryd.prog 21 #[.string i] w fun e w' => e = .returned (.string (pnB i)) ∧ Below w.heap.size w w' := by
  have HH := hide (Zq.Sh.hex_any (w := w) i hi)
  have hz : (hxB i).size ≤ 2000000 := by rw [hxB, Zq.Sh.strOf_size, Zq.Sh.hexOf_length, li_size]; omega
  rw [← hxB] at HH
  rw [pnB]
  obtain ⟨H, hH⟩ : ∃ H, hxB i = H := ⟨_, rfl⟩
  rw [hH] at HH hz ⊢
  clear hH
  go_enter Tryd.func21, Tryd.ntmps21
  go_wp2_with fail
  refine HH.out.mono ?_
  rintro _ w2 ⟨rfl, hb⟩
  have HB := hide hb
  clear hb
  go_wp2
  go_ret
  exact ⟨rfl, HB.out⟩
set_option maxRecDepth 100000 in
set_option maxHeartbeats 1600000 in
theorem idof_any {w : World} (n : ByteArray) (hn : n.size ≤ 1000000) : Calls Tryd.prog 22 #[.string n] w fun e w' => e = .returned (idV n) ∧ Below w.heap.size w w' := by
  have HC := hide (fun wx => Tryd.strings_CutPrefix n nm5 wx)
  have hd : (dgs n).size ≤ n.size := by
    rw [dgs, ← li_size, ← li_size]
    show (Lib.trimPrefix n.data.toList nm5.data.toList).length ≤ _
    rw [Lib.trimPrefix]
    split
    · rw [List.length_drop]; omega
    · exact Nat.le_refl _
  have HU := hide (fun wx => Zq.Sh.unhex_any (w := wx) (dgs n) (by omega))
  have HI := hide (fun u wx => Zq.Sh.isIdB_any u wx)
  have HCC : Hid (∀ wx, Calls Tryd.prog 48 #[.string n, .string ⟨#[112, 97, 99, 107, 47]⟩] wx fun e w' => e = .returned (.tuple #[.string (dgs n), .bool (pfx n)]) ∧ w' = wx) := fun wx => HC.out wx
  have hid : idV n = match idO n with
    | some i => .tuple #[.string i, .int .i64 0]
    | none => .tuple #[.string ⟨#[]⟩, .int .i64 5] := rfl
  have ho : idO n = if pfx n = true then (match Zq.Sh.unhexL (dgs n).data.toList with
    | some r => if r.length = 32 then some (Zq.Sh.strOf r) else none
    | none => none) else none := rfl
  obtain ⟨V, hV⟩ : ∃ V, idV n = V := ⟨_, rfl⟩
  obtain ⟨D, hD⟩ : ∃ V, dgs n = V := ⟨_, rfl⟩
  obtain ⟨p, hp⟩ : ∃ V, pfx n = V := ⟨_, rfl⟩
  rw [hV] at hid
  rw [hV]
  rw [hD, hp] at ho HCC
  rw [hD] at HU
  have HUU : Hid (∀ wx, Calls Tryd.prog 49 #[.string D] wx fun e w' => e = .returned (match Zq.Sh.unhexL D.data.toList with
    | some r => .tuple #[.string (Zq.Sh.strOf r), .int .i64 0]
    | none => .tuple #[.string ⟨#[]⟩, .int .i64 3]) ∧ Below wx.heap.size wx w') := fun wx => HU.out wx
  clear HC HU hV hD hp hd
  rcases hu : Zq.Sh.unhexL D.data.toList with _ | r
  · rw [hu] at HUU ho
    have e : V = .tuple #[.string ⟨#[]⟩, .int .i64 5] := by rw [hid, ho]; cases p <;> rfl
    subst e
    simp only at HUU
    clear hid ho hu
    cases p
    all_goals
      go_enter Tryd.func22, Tryd.ntmps22
      go_wp2_with fail
      refine (HCC.out _).mono ?_
      rintro _ _ ⟨rfl, rfl⟩
      go_wp2_with fail
      refine (HUU.out _).mono ?_
      rintro _ w2 ⟨rfl, hb⟩
      have HB := hide hb
      clear hb
      go_wp2
      exact bodyPost_ret (v := .tuple #[.string ⟨#[]⟩, .int .i64 5]) (by simp [results, Tryd.results22, go_sem]) rfl ⟨rfl, HB.out⟩
  · rw [hu] at HUU ho
    simp only at HUU ho
    obtain ⟨I, hI⟩ : ∃ I, Zq.Sh.strOf r = I := ⟨_, rfl⟩
    have hz : r.length = I.size := by rw [← hI, Zq.Sh.strOf_size]
    rw [hI, hz] at ho
    rw [hI] at HUU
    have HI2 := hide (fun wx => HI.out I wx)
    clear hu hz hI HI
    cases p with
    | false =>
      have e : V = .tuple #[.string ⟨#[]⟩, .int .i64 5] := by rw [hid, ho]; rfl
      subst e
      clear hid ho
      go_enter Tryd.func22, Tryd.ntmps22
      go_wp2_with fail
      refine (HCC.out _).mono ?_
      rintro _ _ ⟨rfl, rfl⟩
      go_wp2_with fail
      refine (HUU.out _).mono ?_
      rintro _ w2 ⟨rfl, hb⟩
      have HB := hide hb
      clear hb
      go_wp2
      exact bodyPost_ret (v := .tuple #[.string ⟨#[]⟩, .int .i64 5]) (by simp [results, Tryd.results22, go_sem]) rfl ⟨rfl, HB.out⟩
    | true =>
      by_cases h32 : I.size = 32
      · have e : V = .tuple #[.string I, .int .i64 0] := by rw [hid, ho, if_pos rfl, if_pos h32]
        have c1 : ((I.size : Int) == 32) = true := by rw [h32]; rfl
        subst e
        rw [c1] at HI2
        clear hid ho h32 c1
        go_enter Tryd.func22, Tryd.ntmps22
        go_wp2_with fail
        refine (HCC.out _).mono ?_
        rintro _ _ ⟨rfl, rfl⟩
        go_wp2_with fail
        refine (HUU.out _).mono ?_
        rintro _ w2 ⟨rfl, hb⟩
        have HB := hide hb
        clear hb
        go_wp2_with fail
        refine (HI2.out _).mono ?_
        rintro _ _ ⟨rfl, rfl⟩
        go_wp2
        exact bodyPost_ret (v := .tuple #[.string I, .int .i64 0]) (by simp [results, Tryd.results22, go_sem]) rfl ⟨rfl, HB.out⟩
      · have e : V = .tuple #[.string ⟨#[]⟩, .int .i64 5] := by rw [hid, ho, if_pos rfl, if_neg h32]
        have c1 : ((I.size : Int) == 32) = false := by simp; omega
        subst e
        rw [c1] at HI2
        clear hid ho h32 c1
        go_enter Tryd.func22, Tryd.ntmps22
        go_wp2_with fail
        refine (HCC.out _).mono ?_
        rintro _ _ ⟨rfl, rfl⟩
        go_wp2_with fail
        refine (HUU.out _).mono ?_
        rintro _ w2 ⟨rfl, hb⟩
        have HB := hide hb
        clear hb
        go_wp2_with fail
        refine (HI2.out _).mono ?_
        rintro _ _ ⟨rfl, rfl⟩
        go_wp2
        exact bodyPost_ret (v := .tuple #[.string ⟨#[]⟩, .int .i64 5]) (by simp [results, Tryd.results22, go_sem]) rfl ⟨rfl, HB.out⟩
end Go.Proofs.YtcidfkkgpehodaaDoor

namespace Go.Proofs.YtcidfkkgpehodaaDoor
open Go.RowKit Go.Lib Go.Maps
theorem slaw : Keyed Tryd.prog 9 := string_keyed Tryd.underlying9
def skL (s : ByteArray) : Lit := .string s.data.toList
theorem sk_inj {a b : ByteArray} (h : skL a = skL b) : a = b := ba_ext (by simpa [skL] using h)
theorem sk_key {s : ByteArray} (h : s.size ≤ maxLen) : keyOf Tryd.prog 9 (.string s) = some (skL s) := WideMaps.keyOf_string_mk Tryd.underlying9 h
theorem sk_isKey (s : ByteArray) : WideAt.IsKeyLit (skL s) := by simp [WideAt.IsKeyLit, skL]
/-- How a span reads. -/
def spE (v : Value) : Option (DataW Unit × List MemPlace) :=
  match v with
  | .agg cs => match cs.toList with
    | [.int .i64 a, .int .i64 b] => some (.agg [.lit (.int .i64 a), .lit (.int .i64 b)], [])
    | _ => none
  | _ => none
def spD (a b : Int) : DataW Unit := .agg [.lit (.int .i64 a), .lit (.int .i64 b)]
def spV (a b : Int) : Value := .agg #[.int .i64 a, .int .i64 b]
theorem spE_mk (a b : Int) : spE (spV a b) = some (spD a b, []) := rfl
theorem spE_inv {v : Value} {z : DataW Unit × List MemPlace} (h : spE v = some z) : ∃ a b, v = spV a b ∧ z = (spD a b, []) := by
  unfold spE at h
  split at h
  · rename_i cs
    split at h
    · rename_i a b e
      cases h
      exact ⟨a, b, by rw [show cs = #[.int .i64 a, .int .i64 b] from Array.toList_inj.1 e, spV], rfl⟩
    · cases h
  · cases h
theorem spD_inj {a b c d : Int} (h : spD a b = spD c d) : a = c ∧ b = d := by
  simp only [spD, DataW.agg.injEq, List.cons.injEq, DataW.lit.injEq, Lit.int.injEq, and_true, true_and] at h
  exact h
theorem spzero (w : World) : (zeroValue 66).run Tryd.prog w = .ok (spV 0 0) w := by kernel_rfl
theorem unzero (w : World) : (zeroValue 109).run Tryd.prog w = .ok (.agg #[]) w := by kernel_rfl
/-- At block b lies a map of n entries from texts to spans: what f tells. -/
def MQ (w : World) (b n : Nat) (f : ByteArray → Option (Int × Int)) : Prop :=
  ∃ D : DataW Unit, w.ownsMap Tryd.prog 9 spE b n D ∧ size D = n ∧ (∀ x, has D (skL x) = (f x).isSome) ∧ ∀ x i, f x = some i → ∀ z, D.atKey (skL x) z = spD i.1 i.2
/-- At block b lies a set of n texts: those that f tells. -/
def MU (w : World) (b n : Nat) (f : ByteArray → Bool) : Prop :=
  ∃ D : DataW Unit, w.ownsMap Tryd.prog 9 unitElem b n D ∧ size D = n ∧ ∀ x, has D (skL x) = f x
theorem tight' {R : Value → Option (DataW Unit × List MemPlace)} {w : World} {b n : Nat} {D : DataW Unit} (h : w.ownsMap Tryd.prog 9 R b n D) : w.ownsMap Tryd.prog 9 R b (size D) D := by
  obtain ⟨es, clock, hb, F, hs, rfl⟩ := h
  refine ⟨es, clock, hb, F, ?_, rfl⟩
  show es.size ≤ List.length _
  rw [length_sorted]
  simp
section
variable {w w' : World} {b n : Nat} {f : ByteArray → Option (Int × Int)} {g : ByteArray → Bool}
theorem MQ.made (w : World) : MQ (w.alloc (.map #[] 0)) w.heap.size 0 (fun _ => none) :=
  ⟨_, World.ownsMap_made w _ _ _, rfl, fun x => by simp [has], fun x i h => by cases h⟩
theorem MQ.lt (h : MQ w b n f) : b < w.heap.size := by obtain ⟨D, h, _⟩ := h; exact h.lt
theorem MQ.kb (h : MQ w b n f) (e : w'.heap[b]? = w.heap[b]?) : MQ w' b n f := by
  obtain ⟨D, ⟨es, clock, hb, h1⟩, h2⟩ := h
  exact ⟨D, ⟨es, clock, e.trans hb, h1⟩, h2⟩
theorem MQ.gs {p : Nat → Prop} (h : MQ w b n f) (hg : Gs p w w') (hp : ¬ p b) : MQ w' b n f := h.kb (hg.block b h.lt hp)
theorem MQ.notCells (h : MQ w b n f) {cs : Array Value} {T : TypeId} {fr : Nat × Nat} (hc : w.heap[b]? = some (.cells cs T fr)) : False := by
  obtain ⟨D, ⟨es, clock, hb, _⟩, _⟩ := h
  rw [hb] at hc
  cases hc
theorem MQ.look (h : MQ w b n f) {x : ByteArray} (hx : x.size ≤ maxLen) :
    (Instr.lookup 70 (.map (some b)) (.string x) true).run Tryd.prog w = .ok (.tuple #[spV ((f x).getD (0, 0)).1 ((f x).getD (0, 0)).2, .bool (f x).isSome]) w := by
  obtain ⟨D, hD, _, hh, ha⟩ := h
  obtain ⟨v, ps, hr, hv⟩ := hD.look_ok slaw Tryd.underlying70 (spzero w) (spE_mk 0 0) (sk_key hx)
  obtain ⟨a, c, rfl, e⟩ := spE_inv hv
  rw [hr, hh x]
  simp only [Prod.mk.injEq] at e
  cases hf : f x with
  | none =>
    have := atKey_of_not_has (D := D) (k := skL x) (by rw [hh x, hf]; rfl) (spD 0 0)
    rw [this] at e
    obtain ⟨rfl, rfl⟩ := spD_inj e.1
    rfl
  | some i =>
    rw [ha x i hf] at e
    obtain ⟨rfl, rfl⟩ := spD_inj e.1
    rfl
theorem MQ.len (h : MQ w b n f) (ty : TypeId) : (Builtin.len_ #[70] ty #[.map (some b)]).run Tryd.prog w = .ok (.int .i64 (n : Int)) w := by
  obtain ⟨D, hD, hn, _⟩ := h
  rw [← hn]
  exact hD.len Tryd.underlying70 ty
theorem MQ.update (h : MQ w b n f) (hn : n ≤ 1000000) {x : ByteArray} (hx : x.size ≤ maxLen) (hf : f x = none) (a c : Int) :
    ∃ w', (Instr.mapUpdate 70 (.map (some b)) (.string x) (spV a c)).run Tryd.prog w = .ok () w' ∧ MQ w' b (n + 1) (fun y => if y = x then some (a, c) else f y) ∧ Gs (fun i => i = b) w w' ∧ w'.heap.size = w.heap.size := by
  obtain ⟨D, hD, hnn, hh, ha⟩ := h
  obtain ⟨w', hr, hD', hg⟩ := hD.store slaw Tryd.underlying70 (by unfold maxLen; omega) (sk_key hx) (spE_mk a c)
  have hM := hD.isMap
  have hs : size (D.put (skL x) (spD a c)) = n + 1 := by
    rw [size_put (hD.tidy slaw), hh x, hf, hnn]
    rfl
  have hD2 := tight' hD'
  rw [hs] at hD2
  refine ⟨w', hr, ⟨_, hD2, hs, fun y => ?_, fun y j hy z => ?_⟩, (Gs.refl (fun i => i = b) w).gb hg.grown (.inl rfl), ?_⟩
  · by_cases e : y = x
    · subst e
      simp only [if_true, Option.isSome_some]
      exact has_true_of_atKey (fun z => atKey_put_same hM (sk_isKey _) _ z)
    · simp only [if_neg e]
      rw [has_put_other (fun h => e (sk_inj h)), hh y]
  · by_cases e : y = x
    · subst e
      simp only [if_true, Option.some.injEq] at hy
      subst hy
      exact atKey_put_same hM (sk_isKey _) _ z
    · simp only [if_neg e] at hy
      rw [atKey_put_other (fun h => e (sk_inj h))]
      exact ha y j hy z
  · obtain ⟨es, clock, es', clock', hb, rfl⟩ := hg
    simp [ChangeMaps.setBlock]
theorem MU.made (w : World) : MU (w.alloc (.map #[] 0)) w.heap.size 0 (fun _ => false) :=
  ⟨_, World.ownsMap_made w _ _ _, rfl, fun x => by simp [has]⟩
theorem MU.lt (h : MU w b n g) : b < w.heap.size := by obtain ⟨D, h, _⟩ := h; exact h.lt
theorem MU.kb (h : MU w b n g) (e : w'.heap[b]? = w.heap[b]?) : MU w' b n g := by
  obtain ⟨D, ⟨es, clock, hb, h1⟩, h2⟩ := h
  exact ⟨D, ⟨es, clock, e.trans hb, h1⟩, h2⟩
theorem MU.gs {p : Nat → Prop} (h : MU w b n g) (hg : Gs p w w') (hp : ¬ p b) : MU w' b n g := h.kb (hg.block b h.lt hp)
theorem MU.notCells (h : MU w b n g) {cs : Array Value} {T : TypeId} {fr : Nat × Nat} (hc : w.heap[b]? = some (.cells cs T fr)) : False := by
  obtain ⟨D, ⟨es, clock, hb, _⟩, _⟩ := h
  rw [hb] at hc
  cases hc
theorem MU.len (h : MU w b n g) (ty : TypeId) : (Builtin.len_ #[106] ty #[.map (some b)]).run Tryd.prog w = .ok (.int .i64 (n : Int)) w := by
  obtain ⟨D, hD, hn, _⟩ := h
  rw [← hn]
  exact hD.len Tryd.underlying106 ty
theorem MU.update (h : MU w b n g) (hn : n ≤ 1000000) {x : ByteArray} (hx : x.size ≤ maxLen) :
    ∃ w', (Instr.mapUpdate 106 (.map (some b)) (.string x) (.agg #[])).run Tryd.prog w = .ok () w' ∧ MU w' b (if g x = true then n else n + 1) (fun y => if y = x then true else g y) ∧ Gs (fun i => i = b) w w' := by
  obtain ⟨D, hD, hnn, hh⟩ := h
  obtain ⟨w', hr, hD', hg⟩ := hD.store slaw Tryd.underlying106 (by unfold maxLen; omega) (sk_key hx) unitElem_mk
  have hM := hD.isMap
  have hs : size (D.put (skL x) (.agg [])) = if g x = true then n else n + 1 := by
    rw [size_put (hD.tidy slaw), hh x, hnn]
  have hD2 := tight' hD'
  rw [hs] at hD2
  refine ⟨w', hr, ⟨_, hD2, hs, fun y => ?_⟩, (Gs.refl (fun i => i = b) w).gb hg.grown (.inl rfl)⟩
  by_cases e : y = x
  · subst e
    simp only [if_true]
    exact has_true_of_atKey (fun z => atKey_put_same hM (sk_isKey _) _ z)
  · simp only [if_neg e]
    rw [has_put_other (fun h => e (sk_inj h)), hh y]
end
end Go.Proofs.YtcidfkkgpehodaaDoor

namespace Go.Proofs.YtcidfkkgpehodaaDoor
open Go.RowKit Go.Lib Go.Maps
theorem klaidOut : laidOutB Tryd.prog = true := by kernel_rfl
theorem klaw : Keyed Tryd.prog 160 := Keyed.of_law (deep_law_laid (m := 3) klaidOut (by omega) (of_decide_eq_true (by kernel_rfl)) (by kernel_rfl) (by kernel_rfl))
theorem kzero (w : World) : (zeroValue 21).run Tryd.prog w = .ok (.int .i32 0) w := by kernel_rfl
def b8 (n : Nat) : Value := .int .u8 (n : Int)
/-- The key that four bytes are. -/
def kF (a b c d : Nat) : Lit := .string (keyBytes [.int .u8 (a : Int), .int .u8 (b : Int), .int .u8 (c : Int), .int .u8 (d : Int)])
theorem kF_of {a b c d : Nat} (ha : a < 256) (hb : b < 256) (hc : c < 256) (hd : d < 256) : keyOf Tryd.prog 160 (.agg #[b8 a, b8 b, b8 c, b8 d]) = some (kF a b c d) := by
  have e0 : Tryd.prog.types.size = (Tryd.prog.types.size - 1) + 1 := by
    have : decide (0 < Tryd.prog.types.size) = true := by kernel_rfl
    have := of_decide_eq_true this
    omega
  have hu := Tryd.underlying160
  have hi := Tryd.underlying5
  have c1 : Tryd.prog.cellsOf 5 = 1 := by kernel_rfl
  have c3 : Tryd.prog.cellsOf 160 = 4 := by kernel_rfl
  have hk : Tryd.prog.keyType 160 = true := by kernel_rfl
  have hw : ∀ x : Nat, x < 256 → (Lit.int .u8 (x : Int)).wf = true := fun x hx => WalkArith.wf_u8 ⟨by omega, by omega⟩
  have k1 : ∀ m (x : Nat), x < 256 → Tryd.prog.keyLits (m + 1) 5 [b8 x] = some [.int .u8 (x : Int)] := fun m x hx => by
    unfold Program.keyLits
    simp [hi, b8, hw x hx]
  have k3 : ∀ m, Tryd.prog.keyLits (m + 2) 160 [b8 a, b8 b, b8 c, b8 d] = some [.int .u8 (a : Int), .int .u8 (b : Int), .int .u8 (c : Int), .int .u8 (d : Int)] := fun m => by
    unfold Program.keyLits
    simp [hu, c1, c3, k1, ha, hb, hc, hd, List.range_succ]
  unfold keyOf
  rw [hu]
  simp only [hk, Value.formed, hu, c3, Bool.true_and, List.size_toArray, List.length_cons, List.length_nil, Nat.reduceAdd, beq_self_eq_true, if_true, Value.cells]
  rw [e0, show Tryd.prog.types.size - 1 + 1 + 1 = (Tryd.prog.types.size - 1) + 2 from rfl, k3]
  rfl
theorem kF_inj {a b c d a' b' c' d' : Nat} (h1 : a < 256 ∧ b < 256 ∧ c < 256 ∧ d < 256) (h2 : a' < 256 ∧ b' < 256 ∧ c' < 256 ∧ d' < 256) (h : kF a b c d = kF a' b' c' d') : a = a' ∧ b = b' ∧ c = c' ∧ d = d' := by
  have x := kF_of h1.1 h1.2.1 h1.2.2.1 h1.2.2.2
  have y := kF_of h2.1 h2.2.1 h2.2.2.1 h2.2.2.2
  rw [← h] at y
  have := klaw.inj x y
  simp [b8] at this
  omega
/-- The key of a place. -/
def kP (s : ByteArray) (i : Nat) : Lit := kF (bt s i) (bt s (i + 1)) (bt s (i + 2)) (bt s (i + 3))
def kV (s : ByteArray) (i : Nat) : Value := .agg #[b8 (bt s i), b8 (bt s (i + 1)), b8 (bt s (i + 2)), b8 (bt s (i + 3))]
theorem kP_of (s : ByteArray) (i : Nat) : keyOf Tryd.prog 160 (kV s i) = some (kP s i) := kF_of (bt_lt _ _) (bt_lt _ _) (bt_lt _ _) (bt_lt _ _)
theorem kP_inj {s : ByteArray} {i j : Nat} (h : kP s i = kP s j) : s4 s i j := kF_inj ⟨bt_lt _ _, bt_lt _ _, bt_lt _ _, bt_lt _ _⟩ ⟨bt_lt _ _, bt_lt _ _, bt_lt _ _, bt_lt _ _⟩ h
theorem kP_same {s : ByteArray} {i j : Nat} (h : s4 s i j) : kP s i = kP s j := by rw [kP, kP, h.1, h.2.1, h.2.2.1, h.2.2.2]
/-- The last place ahead of k, with four bytes behind it, that has those of i. -/
def luG (s : ByteArray) (i : Nat) : Nat → Option Nat
  | 0 => none
  | j + 1 => if j + 4 ≤ s.size ∧ s4 s j i then some j else luG s i j
theorem luG_pv {s : ByteArray} {i : Nat} (h : i + 4 ≤ s.size) : ∀ k, k ≤ i → luG s i k = pvG s i k
  | 0, _ => rfl
  | k + 1, hk => by
    rw [luG, pvG, luG_pv h k (by omega)]
    by_cases c : s4 s k i
    · rw [if_pos ⟨by omega, c⟩, if_pos c]
    · rw [if_neg (fun e => c e.2), if_neg c]
theorem luG_lt {s : ByteArray} {i : Nat} : ∀ {k j : Nat}, luG s i k = some j → j < k
  | 0, _, h => by cases h
  | k + 1, j, h => by
    rw [luG] at h
    split at h
    · simp only [Option.some.injEq] at h
      omega
    · have := luG_lt h
      omega
/-- At block b lies a map from the four bytes of each place to where they were seen last, ahead of k. -/
def MF (w : World) (b : Nat) (s : ByteArray) (k : Nat) : Prop :=
  ∃ (n : Nat) (D : DataW Unit), n ≤ k ∧ w.ownsMap Tryd.prog 160 (plainElem Tryd.prog 21) b n D ∧ (∀ i, has D (kP s i) = (luG s i k).isSome) ∧ ∀ i j, luG s i k = some j → ∀ z, D.atKey (kP s i) z = .lit (.int .i32 (j : Int))
section
variable {w w' : World} {b k : Nat} {s : ByteArray}
theorem MF.made (w : World) (s : ByteArray) : MF (w.alloc (.map #[] 0)) w.heap.size s 0 :=
  ⟨0, _, Nat.le_refl _, World.ownsMap_made w _ _ _, fun i => by simp [has, luG], fun i j h => by cases h⟩
theorem MF.lt (h : MF w b s k) : b < w.heap.size := by obtain ⟨n, D, _, h, _⟩ := h; exact h.lt
theorem MF.kb (h : MF w b s k) (e : w'.heap[b]? = w.heap[b]?) : MF w' b s k := by
  obtain ⟨n, D, hn, ⟨es, clock, hb, h1⟩, h2⟩ := h
  exact ⟨n, D, hn, ⟨es, clock, e.trans hb, h1⟩, h2⟩
theorem MF.gs {p : Nat → Prop} (h : MF w b s k) (hg : Gs p w w') (hp : ¬ p b) : MF w' b s k := h.kb (hg.block b h.lt hp)
theorem MF.notCells (h : MF w b s k) {cs : Array Value} {T : TypeId} {fr : Nat × Nat} (hc : w.heap[b]? = some (.cells cs T fr)) : False := by
  obtain ⟨n, D, _, ⟨es, clock, hb, _⟩, _⟩ := h
  rw [hb] at hc
  simp at hc
theorem MF.look (h : MF w b s k) (i : Nat) :
    (Instr.lookup 115 (.map (some b)) (kV s i) true).run Tryd.prog w = .ok (.tuple #[.int .i32 (((luG s i k).getD 0 : Nat) : Int), .bool (luG s i k).isSome]) w := by
  obtain ⟨n, D, _, hD, hh, ha⟩ := h
  obtain ⟨v, ps, hr, hv⟩ := hD.look_ok klaw Tryd.underlying115 (kzero w) (plainElem_int Tryd.underlying21 (by decide)) (kP_of s i)
  obtain ⟨a, rfl, e, _⟩ := plainElem_int_inv Tryd.underlying21 hv
  rw [hr, hh i]
  simp only [Prod.mk.injEq] at e
  cases hf : luG s i k with
  | none =>
    have := atKey_of_not_has (D := D) (k := kP s i) (by rw [hh i, hf]; rfl) (.lit (.int .i32 0))
    rw [this] at e
    simp at e
    rw [← e.1]
    rfl
  | some j =>
    rw [ha i j hf] at e
    simp at e
    rw [← e.1]
    rfl
theorem MF.skip (h : MF w b s k) (hk : ¬ k + 4 ≤ s.size) : MF w b s (k + 1) := by
  obtain ⟨n, D, hn, hD, hh, ha⟩ := h
  have e : ∀ i, luG s i (k + 1) = luG s i k := fun i => by rw [luG, if_neg (fun e => hk e.1)]
  exact ⟨n, D, by omega, hD, fun i => by rw [e]; exact hh i, fun i j hj => by rw [e] at hj; exact ha i j hj⟩
theorem MF.update (h : MF w b s k) (hn : k ≤ 100000) (hk : k + 4 ≤ s.size) :
    ∃ w', (Instr.mapUpdate 115 (.map (some b)) (kV s k) (.int .i32 (k : Int))).run Tryd.prog w = .ok () w' ∧ MF w' b s (k + 1) ∧ Gs (fun i => i = b) w w' := by
  obtain ⟨n, D, hnk, hD, hh, ha⟩ := h
  obtain ⟨w', hr, hD', hg⟩ := hD.update klaw Tryd.underlying115 (by unfold maxLen; omega) (kP_of s k) (plainElem_int Tryd.underlying21 (a := (k : Int)) (WalkArith.wf_i32 ⟨by omega, by omega⟩))
  have hM := hD.isMap
  have hkl : WideAt.IsKeyLit (kP s k) := klaw.key (kP_of s k)
  refine ⟨w', hr, ⟨_, _, by omega, hD', fun i => ?_, fun i j hj z => ?_⟩, (Gs.refl (fun i => i = b) w).gb hg (.inl rfl)⟩
  · rw [luG]
    by_cases he : s4 s k i
    · rw [if_pos ⟨hk, he⟩, ← kP_same he]
      exact has_true_of_atKey (fun z => atKey_put_same hM hkl _ z)
    · rw [if_neg (fun e => he e.2), has_put_other (fun e => he (kP_inj e).symm), hh i]
  · rw [luG] at hj
    by_cases he : s4 s k i
    · rw [if_pos ⟨hk, he⟩] at hj
      simp only [Option.some.injEq] at hj
      subst hj
      rw [← kP_same he]
      exact atKey_put_same hM hkl _ z
    · rw [if_neg (fun e => he e.2)] at hj
      rw [atKey_put_other (fun e => he (kP_inj e).symm)]
      exact ha i j hj z
end
end Go.Proofs.YtcidfkkgpehodaaDoor

namespace Go.Proofs.YtcidfkkgpehodaaDoor
open Go.RowKit Go.Lib
/-- A finder in memory. -/
def FB (w : World) (b : Nat) (s : ByteArray) (mb : Nat) (v : Value) : Prop := w.heap[b]? = some (.cells #[.string s, .map (some mb), v] 118 (0, 0))
/-- Nothing old is turned. -/
abbrev Same (w w' : World) : Prop := Gs (fun _ => False) w w'
section
variable {w w' : World} {b mb k i f : Nat} {s : ByteArray} {v : Value}
theorem FB.lt (h : FB w b s mb v) : b < w.heap.size := lt_of_block h
theorem FB.gs {p : Nat → Prop} (h : FB w b s mb v) (hg : Gs p w w') (hp : ¬ p b) : FB w' b s mb v := (hg.block b h.lt hp).trans h
theorem Gs.dn {p : Nat → Prop} (h : Gs p w w') (q : Nat) : Gs p w (w'.drewN q) := ⟨h.os, h.tape, h.output, h.size, h.block⟩
set_option maxRecDepth 100000 in
set_option maxHeartbeats 1600000 in
theorem same_any (h : FB w b s mb v) (hf : f < i) (hi : i ≤ s.size) (hs : s.size ≤ 5000) : Calls Tryd.prog 101 #[.pointer (some ⟨b, 0, none⟩), .int .i64 (f : Int), .int .i64 (i : Int)] w fun e w' => e = .returned (.int .i64 ((sm s f i : Nat) : Int)) ∧ Same w w' := by
  have H0 := hide h
  obtain ⟨R, hR⟩ : ∃ R, sm s f i = R := ⟨_, rfl⟩
  rw [hR]
  have HR : Hid (smG s f i (s.size - i) 0 = R) := hR
  clear h hR
  go_enter Tryd.func101, Tryd.ntmps101
  go_wp2
  go_loopw [7] (fun x wr => ∃ n : Nat, x = .int .i64 (n : Int) ∧ i + n ≤ s.size ∧ smG s f i (s.size - i - n) n = R ∧ Same w wr) (fun x _ => s.size - (Go.RowKit.intOf x).toNat)
  case atStart => exact ⟨0, rfl, hi, HR.out, Gs.refl _ _⟩
  case round =>
    obtain ⟨n, rfl, hn, hq, hS⟩ := hrel
    have hF := H0.out.gs hS (fun e => e)
    have c0 := (cell3 hF).1
    have e0 : IntKind.i64.wrap ((i : Int) + (n : Int)) = (i : Int) + (n : Int) := by rw [IntKind.wrap_i64]; omega
    have e1 : IntKind.i64.wrap ((f : Int) + (n : Int)) = (f : Int) + (n : Int) := by rw [IntKind.wrap_i64]; omega
    have HS := hide hS
    by_cases hlt : i + n < s.size
    · have d1 : (i : Int) + (n : Int) < (s.size : Int) := by omega
      have d2 : decide ((i : Int) + (n : Int) < (s.size : Int)) = true := by simpa using d1
      have x1 := ix_at (s := s) (i := f + n) (by omega)
      have x2 := ix_at (s := s) (i := i + n) hlt
      rw [show ((f + n : Nat) : Int) = (f : Int) + (n : Int) by omega] at x1
      rw [show ((i + n : Nat) : Int) = (i : Int) + (n : Int) by omega] at x2
      have hq1 : smG s f i (s.size - i - n) n = if i + n < s.size ∧ bt s (f + n) = bt s (i + n) then smG s f i (s.size - i - (n + 1)) (n + 1) else n := by
        rw [show s.size - i - n = (s.size - i - (n + 1)) + 1 by omega, smG]
      rw [hq1] at hq
      clear hq1
      obtain ⟨B1, hB1⟩ : ∃ B1, bt s (f + n) = B1 := ⟨_, rfl⟩
      obtain ⟨B2, hB2⟩ : ∃ B2, bt s (i + n) = B2 := ⟨_, rfl⟩
      rw [hB1] at x1 hq
      rw [hB2] at x2 hq
      clear hB1 hB2 hS hF
      by_cases hb : B1 = B2
      · rw [if_pos ⟨hlt, hb⟩] at hq
        have HQ := hide hq
        have d3 : ((B1 : Int) == (B2 : Int)) = true := by simp [hb]
        have HBB := hide hb
        clear hq hb
        go_upto_region 2 with fail
        go_cut [35] (fun t wx => t = .bool true ∧ Same w wx)
        case first =>
          go_quiet (fail)
          go_wp2
          go_meet
          exact ⟨by first | rfl | rw [d3], HS.out.dn _⟩
        case rest =>
          obtain ⟨rfl, hS2⟩ := hcut
          have HS2 := hide hS2
          have e3 : IntKind.i64.wrap ((n : Int) + 1) = (n : Int) + 1 := by rw [IntKind.wrap_i64]; omega
          clear hS2
          go_wp2
          exact ⟨⟨n + 1, by go_num, by omega, HQ.out, HS2.out⟩, by simp [Go.RowKit.intOf]; omega⟩
      · rw [if_neg (fun e => hb e.2)] at hq
        have HQ := hide hq
        have d3 : ((B1 : Int) == (B2 : Int)) = false := by simp; omega
        clear hq hb
        go_upto_region 2 with fail
        go_cut [35] (fun t wx => t = .bool false ∧ Same w wx)
        case first =>
          go_quiet (fail)
          go_wp2
          go_meet
          exact ⟨by first | rfl | rw [d3], HS.out.dn _⟩
        case rest =>
          obtain ⟨rfl, hS2⟩ := hcut
          have HS2 := hide hS2
          clear hS2
          go_wp2
          go_ret
          exact ⟨congrArg (fun r : Nat => Ending.returned (Value.int .i64 (r : Int))) HQ.out, HS2.out⟩
    · have d1 : ¬ (i : Int) + (n : Int) < (s.size : Int) := by omega
      have d2 : decide ((i : Int) + (n : Int) < (s.size : Int)) = false := by simpa using d1
      rw [show s.size - i - n = 0 by omega] at hq
      have HQ : Hid (n = R) := hq
      clear hq hS hF
      go_upto_region 2 with fail
      go_cut [35] (fun t wx => t = .bool false ∧ Same w wx)
      case first =>
        go_quiet (fail)
        go_wp2
        go_meet
        exact ⟨by first | rfl | rw [d2], HS.out.dn _⟩
      case rest =>
        obtain ⟨rfl, hS2⟩ := hcut
        have HS2 := hide hS2
        clear hS2
        go_wp2
        go_ret
        exact ⟨congrArg (fun r : Nat => Ending.returned (Value.int .i64 (r : Int))) HQ.out, HS2.out⟩
theorem run_copy_any {P : Program} (w : World) (dT sT ty elem : TypeId) (b o dLen dCap m : Nat) (t : ByteArray)
    (hu : P.underlying dT = some (.slice elem)) (hz : ∀ w, (Go.sizeOf elem).run P w = .ok 1 w) (hm : Nat.min t.size dLen = m)
    (hc : ∀ j, j < m → (w.cell? ⟨b, o + j, none⟩).isSome = true) (hf : ∀ j, j < m → w.frozen? ⟨b, o + j, none⟩ = false) :
    (Builtin.copy_ #[dT, sT] ty #[.slice (some ⟨b, o, none⟩) dLen dCap, .string t]).run P w = .ok (goInt m) (w.setCells b o (byteCells (t.data.toList.take m))) := by
  have hmt : m ≤ t.size := by rw [← hm]; exact Nat.min_le_left _ _
  have hl : (byteCells (t.data.toList.take m)).length = m := by rw [byteCells_length, List.length_take, ← Lib.size_eq]; omega
  have hst := run_storeCells_cells (P := P) b o (byteCells (t.data.toList.take m)) 0 w (by rw [hl]; simpa using hc) (by rw [hl]; simpa using hf) (byteCells_one _)
  simp [Builtin.copy_, run_underlying hu, Builtin.lenOf, Builtin.firstCells, hz, hm]
  have e : List.take m (List.map (fun x : UInt8 => Value.int .u8 (x.toNat : Int)) t.data.toList) = byteCells (t.data.toList.take m) := by rw [byteCells, List.map_take]
  rw [e, hst]
  rfl
def putAll (cs : Array Value) : Nat → List Value → Array Value
  | _, [] => cs
  | o, v :: r => putAll (cs.setIfInBounds o v) (o + 1) r
theorem setCells_self {T : TypeId} {b : Nat} {fr : Nat × Nat} : ∀ (vs : List Value) (o : Nat) (w : World) (cs : Array Value), w.heap[b]? = some (.cells cs T fr) → (w.setCells b o vs).heap[b]? = some (.cells (putAll cs o vs) T fr)
  | [], _, _, _, h => h
  | v :: r, o, w, cs, h => by rw [World.setCells, putAll]; exact setCells_self r _ _ _ (heap_set_self h)
theorem Gs.cells {p : Nat → Prop} {w : World} {b : Nat} : ∀ (vs : List Value) (o : Nat) (w1 : World), Gs p w w1 → (p b ∨ w.heap.size ≤ b) → Gs p w (w1.setCells b o vs)
  | [], _, _, h, _ => h
  | v :: r, o, w1, h, hb => by rw [World.setCells]; exact Gs.cells r _ _ (h.set (a := ⟨b, o, none⟩) hb v) hb
theorem sizeU8_any (w : World) : (Go.sizeOf 5).run Tryd.prog w = .ok 1 w := by
  have h5 : (Tryd.prog.info? 5).map (·.size) = some 1 := by kernel_rfl
  cases hq : Tryd.prog.info? 5 with
  | none => simp [hq] at h5
  | some i =>
    have hs : i.size = 1 := by simpa [hq] using h5
    simp [sizeOf, typeInfo, hq, hs]
/-- Four bytes in a block. -/
def KB (w : World) (g : Nat) (a b c d : Nat) : Prop := w.heap[g]? = some (.cells #[b8 a, b8 b, b8 c, b8 d] 160 (0, 0))
theorem four_cells {w : World} {g a b c d : Nat} (h : KB w g a b c d) : w.cell? ⟨g, 0, none⟩ = some (.int .u8 (a : Int)) ∧ w.cell? ⟨g, 1, none⟩ = some (.int .u8 (b : Int)) ∧ w.cell? ⟨g, 2, none⟩ = some (.int .u8 (c : Int)) ∧ w.cell? ⟨g, 3, none⟩ = some (.int .u8 (d : Int)) := by
  have h' : w.heap[g]? = _ := h
  simp [World.cell?, h', b8]
theorem bytes_four {s : ByteArray} {k : Nat} (h : k + 4 ≤ s.size) : byteCells ((s.extract k s.size).data.toList.take 4) = [b8 (bt s k), b8 (bt s (k + 1)), b8 (bt s (k + 2)), b8 (bt s (k + 3))] := by
  have hz : s.data.toList.length = s.size := by simp
  rw [ByteArray.data_extract, Array.toList_extract]
  show byteCells (List.take 4 (List.take (s.size - k) (List.drop k s.data.toList))) = _
  rw [List.take_take, Nat.min_eq_left (by omega)]
  apply List.ext_getElem
  · simp [byteCells_length]; omega
  · intro i h1 h2
    simp at h2
    have h3 : k + i < s.size := by omega
    simp only [byteCells, List.getElem_map, List.getElem_take, List.getElem_drop]
    have h4 : ∀ (j : Nat) (hj : j < 4), Value.int .u8 (((s.data.toList[k + j]'(by rw [hz]; omega)).toNat : Nat) : Int) = b8 (bt s (k + j)) := fun j hj => by rw [b8, bt_at (by omega)]; rfl
    have hi : i = 0 ∨ i = 1 ∨ i = 2 ∨ i = 3 := by omega
    rcases hi with rfl | rfl | rfl | rfl
    · exact h4 0 (by decide)
    · exact h4 1 (by decide)
    · exact h4 2 (by decide)
    · exact h4 3 (by decide)
theorem cp_key {w : World} {g k : Nat} {s : ByteArray} (hg : KB w g 0 0 0 0) (hk : k ≤ s.size) : ∃ wc m, (Builtin.copy_ #[58, 9] 3 #[.slice (some ⟨g, 0, none⟩) 4 4, .string (s.extract k s.size)]).run Tryd.prog w = .ok (.int .i64 ((m : Nat) : Int)) wc ∧ m = min (s.size - k) 4 ∧ Gs (fun i => i = g) w wc ∧ (k + 4 ≤ s.size → KB wc g (bt s k) (bt s (k + 1)) (bt s (k + 2)) (bt s (k + 3))) := by
  have hz : (s.extract k s.size).size = s.size - k := by rw [ByteArray.size_extract]; omega
  have hc : ∀ j, j < 4 → (w.cell? ⟨g, j, none⟩).isSome = true ∧ w.frozen? ⟨g, j, none⟩ = false := fun j hj => by
    have hg' : w.heap[g]? = _ := hg
    match j, hj with
    | 0, _ => simp [World.cell?, World.frozen?, hg']
    | 1, _ => simp [World.cell?, World.frozen?, hg']
    | 2, _ => simp [World.cell?, World.frozen?, hg']
    | 3, _ => simp [World.cell?, World.frozen?, hg']
  have hr := run_copy_any (P := Tryd.prog) w 58 9 3 5 g 0 4 4 (min (s.size - k) 4) (s.extract k s.size) Tryd.underlying58 sizeU8_any (by rw [hz]) (fun j hj => by rw [Nat.zero_add]; exact (hc j (by omega)).1) (fun j hj => by rw [Nat.zero_add]; exact (hc j (by omega)).2)
  refine ⟨_, _, hr, rfl, Gs.cells _ _ _ (Gs.refl _ _) (.inl rfl), fun h4 => ?_⟩
  have := setCells_self (byteCells ((s.extract k s.size).data.toList.take (min (s.size - k) 4))) 0 w _ hg
  rw [Nat.min_eq_right (by omega), bytes_four h4] at this ⊢
  exact this
theorem und4 : Tryd.prog.underlying 160 = some (.array (Tryd.prog.arrayLen 160) (Tryd.prog.elem 160)) := by kernel_rfl
theorem len4 : Tryd.prog.arrayLen 160 = 4 := by kernel_rfl
theorem elem4 (w : World) : (sizeOf (Tryd.prog.elem 160)).run Tryd.prog w = .ok 1 w := by
  have h : Tryd.prog.elem 160 = 5 := by kernel_rfl
  rw [h]
  exact sizeU8_any w
theorem slice4_all (w : World) (b : Nat) :
    (Instr.sliceAt 160 (.pointer (some ⟨b, 0, none⟩)) none none none).run Tryd.prog w = .ok (.slice (some ⟨b, 0, none⟩) 4 4) w := by
  rw [run_sliceAt_array_all w 160 _ und4, elem4, len4]
  simp only [Result.andThen_ok, slicedAt, Nat.mul_one, Addr.add_mid]
  rfl
theorem step_mup_run {P : Program} {ops : Array Oper} {o : Oper} {a : Act} {w : World} {K : Act → World → Prop} {Q : Exit → Act → World → Prop} {E : Prop} (hgd : o.guard = none) (ty : TypeId) (x y z : Operand) (ho : o.op = .mapUpdate ty x y z)
    (p u v : Value) (hx : a.eval x = p) (hy : a.eval y = u) (hz : a.eval z = v) (w' : World) (hr : (Instr.mapUpdate ty p u v).run P w = .ok () w') (h : K (a.put o.dst undef) w') :
    if Region.wanted o (yielded ops a.tmps) = true then Oper.wp P o a w K Q else E := by
  have hw : Region.wanted o (yielded ops a.tmps) = true := by simp [Region.wanted, hgd]
  rw [if_pos hw]
  unfold Oper.wp execOp
  simp only [ho, hx, hy, hz, Sem.run_bind, Sem.run_pure, Result.andThen_ok, hr]
  exact h
/-- Where the four bytes of a place were seen before, as a number. -/
def bf (s : ByteArray) (i : Nat) : Int := match pv s i with
  | some j => (j : Int)
  | none => -1
theorem bf_few {k : Nat} (h : ¬ k + 4 ≤ s.size) : bf s k = -1 := by rw [bf, pv_few h]
theorem bf_lu {k : Nat} (h : k + 4 ≤ s.size) : bf s k = match luG s k k with
    | some j => (j : Int)
    | none => -1 := by
  rw [bf, pv, if_pos h, luG_pv h k (Nat.le_refl _)]
set_option maxRecDepth 100000 in
set_option maxHeartbeats 1600000 in
theorem see_any (h : FB w b s mb v) (hm : MF w mb s k) (hk : k ≤ s.size) (hs : s.size ≤ 5000) : Calls Tryd.prog 104 #[.pointer (some ⟨b, 0, none⟩), .int .i64 (k : Int)] w fun e w' => e = .returned (.int .i32 (bf s k)) ∧ MF w' mb s (k + 1) ∧ Gs (fun i => i = mb) w w' := by
  obtain ⟨g, hg⟩ : ∃ g, g = w.heap.size := ⟨_, rfl⟩
  obtain ⟨W, hW⟩ : ∃ W, w.alloc (.cells #[.int .u8 0, .int .u8 0, .int .u8 0, .int .u8 0] 160) = W := ⟨_, rfl⟩
  have hBW : Below w.heap.size w W := by rw [← hW]; exact (Below.refl _ _).alloc (Nat.le_refl _) _
  have kW : KB W g 0 0 0 0 := by rw [← hW, hg]; exact heap_alloc_new w _
  have kWd : KB W.drew g 0 0 0 0 := kW
  obtain ⟨W2, m, hcp, hm2, hG2, hK2⟩ := cp_key kWd hk
  have hGW : Gs (fun _ => False) w W2 := ⟨hG2.os.trans hBW.os, hG2.tape.trans hBW.tape, hG2.output.trans hBW.output, Nat.le_trans hBW.size hG2.size, fun i hi _ => (hG2.block i (Nat.lt_of_lt_of_le hi hBW.size) (by omega)).trans (hBW.block i hi)⟩
  have h2 := h.gs hGW (fun e => e)
  have hm3 := hm.gs hGW (fun e => e)
  have D0 : Hid (W.drew.cell? ⟨b, 0, none⟩ = some (.string s)) := (cell3 ((hBW.block b h.lt).trans h)).1
  have D2 : Hid (W2.cell? ⟨b, 0, none⟩ = some (.string s)) := (cell3 h2).1
  have hsl := fun w => slice4_all w g
  have hsf := sl_from (r := s) (a := k) hk
  have c2 := (cell3 h2).2.1
  have HW := hide hW
  have HG := hide hg
  have H2 := hide (And.intro hm3 (And.intro hGW (And.intro hm2 h2)))
  by_cases h4 : k + 4 ≤ s.size
  · obtain rfl : m = 4 := by omega
    have k2 := hK2 h4
    have hbf := bf_lu (s := s) h4
    obtain ⟨W3, hup, hM3, hG3⟩ := (show MF W2.drew.drew mb s k from hm3).update (by omega) h4
    have hlk := (show MF W2.drew mb s k from hm3).look k
    obtain ⟨o, ho⟩ : ∃ o, luG s k k = o := ⟨_, rfl⟩
    rw [ho] at hlk hbf
    have ho2 : ∀ j, o = some j → j < k := fun j e => luG_lt (ho.trans e)
    have hG3' : Gs (fun i => i = mb) w W3 := (H2.out.2.1.mono fun i _ e => e.elim).trans ⟨hG3.os, hG3.tape, hG3.output, hG3.size, hG3.block⟩
    have hgm : g ≠ mb := fun e => by subst e; exact hm3.notCells k2
    have k3 : KB W3 g (bt s k) (bt s (k + 1)) (bt s (k + 2)) (bt s (k + 3)) := (hG3.block g (lt_of_block k2) hgm).trans k2
    have h3 : FB W3 b s mb v := (hG3.block b (lt_of_block h2) (fun e => by subst e; exact hm3.notCells h2)).trans h2
    rw [kV] at hlk hup
    have q0 : KB W2 g (bt s k) (bt s (k + 1)) (bt s (k + 2)) (bt s (k + 3)) := k2
    obtain ⟨x0, hx0⟩ : ∃ x, bt s k = x := ⟨_, rfl⟩
    obtain ⟨x1, hx1⟩ : ∃ x, bt s (k + 1) = x := ⟨_, rfl⟩
    obtain ⟨x2, hx2⟩ : ∃ x, bt s (k + 2) = x := ⟨_, rfl⟩
    obtain ⟨x3, hx3⟩ : ∃ x, bt s (k + 3) = x := ⟨_, rfl⟩
    rw [hx0, hx1, hx2, hx3] at hlk hup k3 q0
    simp only [b8] at hlk hup
    obtain ⟨v0, v1, v2, v3⟩ := four_cells q0
    have D4 : Hid (W2.drew.drew.cell? ⟨b, 1, none⟩ = some (.map (some mb)) ∧ W2.drew.drew.cell? ⟨g, 0, none⟩ = some (.int .u8 (x0 : Int)) ∧ W2.drew.drew.cell? ⟨g, 1, none⟩ = some (.int .u8 (x1 : Int)) ∧ W2.drew.drew.cell? ⟨g, 2, none⟩ = some (.int .u8 (x2 : Int)) ∧ W2.drew.drew.cell? ⟨g, 3, none⟩ = some (.int .u8 (x3 : Int))) := ⟨c2, v0, v1, v2, v3⟩
    have D5 : Hid (W3.cell? ⟨b, 1, none⟩ = some (.map (some mb)) ∧ W3.cell? ⟨g, 0, none⟩ = some (.int .u8 (x0 : Int)) ∧ W3.cell? ⟨g, 1, none⟩ = some (.int .u8 (x1 : Int)) ∧ W3.cell? ⟨g, 2, none⟩ = some (.int .u8 (x2 : Int)) ∧ W3.cell? ⟨g, 3, none⟩ = some (.int .u8 (x3 : Int))) := ⟨(cell3 h3).2.1, (four_cells k3).1, (four_cells k3).2.1, (four_cells k3).2.2.1, (four_cells k3).2.2.2⟩
    have e32 : IntKind.i32.wrap (k : Int) = (k : Int) := by rw [IntKind.wrap_i32]; omega
    have HE : Hid (MF W3 mb s (k + 1) ∧ Gs (fun i => i = mb) w W3) := ⟨hM3, hG3'⟩
    have HBF := hide hbf
    have HO := hide ho2
    clear h hm hW hg hBW kW kWd hm2 hG2 hK2 hGW h2 hm3 k2 hbf ho ho2 hG3 hG3' hM3 k3 h3 q0 hx0 hx1 hx2 hx3 hgm H2
    go_enter Tryd.func104, Tryd.ntmps104
    go_wp2
    rw [HW.out, ← HG.out]
    go_region_held_law (fun w' => w'.cell? ⟨b, 0, none⟩ = some (.string s)) (first | with_reducible exact D0.out | with_reducible exact D2.out) (first | (refine step_copy_run rfl (some 15) rfl _ _ 58 9 rfl _ _ rfl rfl _ _ hcp ?_))
    go_wp2
    go_region
    go_wp2
    go_region_held_law (fun w' => w'.cell? ⟨b, 1, none⟩ = some (.map (some mb)) ∧ w'.cell? ⟨g, 0, none⟩ = some (.int .u8 (x0 : Int)) ∧ w'.cell? ⟨g, 1, none⟩ = some (.int .u8 (x1 : Int)) ∧ w'.cell? ⟨g, 2, none⟩ = some (.int .u8 (x2 : Int)) ∧ w'.cell? ⟨g, 3, none⟩ = some (.int .u8 (x3 : Int))) (first | with_reducible exact D4.out | with_reducible exact D5.out) (first | (refine step_mup_run rfl 115 _ _ _ rfl _ _ _ rfl rfl rfl _ hup ?_))
    cases o with
    | none =>
      go_wp2
      go_ret
      exact ⟨by rw [HBF.out]; rfl, HE.out⟩
    | some j =>
      go_wp2
      go_ret
      exact ⟨by rw [HBF.out]; rfl, HE.out⟩
  · have hbf := bf_few (s := s) h4
    rw [hbf]
    have hmn : (m : Int) < 4 := by omega
    have HS := hide (hm3.skip h4)
    clear h hm hW hg hBW kW kWd hm2 hG2 hK2 hGW h2 hm3 hbf
    go_enter Tryd.func104, Tryd.ntmps104
    go_wp2
    rw [HW.out, ← HG.out]
    go_region_held_law (fun w' => w'.cell? ⟨b, 0, none⟩ = some (.string s)) (first | with_reducible exact D0.out | with_reducible exact D2.out) (first | (refine step_copy_run rfl (some 15) rfl _ _ 58 9 rfl _ _ rfl rfl _ _ hcp ?_))
    go_wp2
    go_ret
    exact ⟨rfl, HS.out, H2.out.2.1.mono fun i _ e => e.elim⟩
end
end Go.Proofs.YtcidfkkgpehodaaDoor
