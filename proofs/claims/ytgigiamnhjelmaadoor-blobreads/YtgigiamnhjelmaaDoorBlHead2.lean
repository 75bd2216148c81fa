/-
  Blob: the program's reading of what stands ahead of a text.
-/
import Derived.Test.YtgigiamnhjelmaaDoorBlHead
import Derived.Test.YtgigiamnhjelmaaDoorLpRound
import Derived.Deep.MidRow
import Derived.Deep.RegionHeldLaw
namespace Go.Proofs.YtgigiamnhjelmaaDoor
open Go.RowKit Go.Lib
section
variable {s : ByteArray} {b : Nat} {wx : World}
theorem ask1 (hr : Zq.Nm.Rd 89 wx b s 0 0) (hs : s.size ≤ 140737488355328) : Calls Tryd.prog 39 #[.pointer (some ⟨b, 0, none⟩), .int .i64 1] wx fun e w' => e = .returned (.int .i64 ((h1 s).num : Nat)) ∧ Zq.Nm.Rd 89 w' b s (p1 s) (h1 s).code ∧ wx.grownBy w' (some b) := by
  have := Zq.Nm.rFixed_any 1 hr (Nat.zero_le _) hs (by decide)
  rw [← h1] at this
  exact this
theorem ask2 (hr : Zq.Nm.Rd 89 wx b s (p1 s) (h1 s).code) (hs : s.size ≤ 140737488355328) : Calls Tryd.prog 40 #[.pointer (some ⟨b, 0, none⟩), .int .i64 65536] wx fun e w' => e = .returned (.int .i64 ((h2 s).num : Nat)) ∧ Zq.Nm.Rd 89 w' b s (p2 s) (h2 s).code ∧ wx.grownBy w' (some b) := by
  have := Zq.Nm.rShort_any 65536 hr (heads s).2.1 hs
  rw [← h2] at this
  exact this
theorem ask3 (hr : Zq.Nm.Rd 89 wx b s (p2 s) (h2 s).code) (hs : s.size ≤ 140737488355328) : Calls Tryd.prog 41 #[.pointer (some ⟨b, 0, none⟩), .int .i64 ((s.size : Int) - (p2 s : Int))] wx fun e w' => e = .returned (.string (h3 s).txt) ∧ Zq.Nm.Rd 89 w' b s (p2 s + (h3 s).long) (h3 s).code ∧ wx.grownBy w' (some b) := by
  have := Zq.Nm.rBytes_any ((s.size : Int) - (p2 s : Int)) hr (heads s).2.2.1 hs (by omega)
  rw [← h3] at this
  exact this
end
/-- An operation that reads alone is taken first. -/
theorem take_at {ops : Array Oper} {Q : Exit → Act → World → Prop} {S : World → Prop} {i d : Nat} {oi : Oper} {v : Value} {fuel : Nat} {listed : Array Bool} {a : Act} {w : World} (hi : ops[i]? = some oi) (hd : oi.dst = some d)
    (hs : Region.noSelect ops = true) (hf : Region.free .any ops listed i = true) (hr : (Region.ready .any ops listed).contains i = true)
    (hQ : ∀ c a w, Q (.panic c) (a.put oi.dst v) w → Q (.panic c) a w) (hy : YieldsIf Tryd.prog ops S oi v a) (hS : S w)
    (h : wpAnyH Tryd.prog .any ops Q S fuel (listed.setIfInBounds i true) ⟨a.tmps.setIfInBounds d v, a.defers⟩ w) : wpAnyH Tryd.prog .any ops Q S (fuel + 1) listed a w :=
  wpAnyH_take hi hs hf hr hQ hy hS (by rw [hd]; exact h)
theorem below_gs1 {w w1 w2 : World} {p : Nat} (h : Below w.heap.size w w1) (g : Gs (fun i => i = p) w1 w2) (hp : w.heap.size ≤ p) : Below w.heap.size w w2 := g.below h h.size (fun i e => by omega)
theorem head_store {w : World} {p : Nat} {z0 z1 z2 : Value} (h : w.heap[p]? = some (.cells #[z0, z1, z2] 48 (0, 0))) (f n : Int) (t : ByteArray) :
    ∃ w', (Instr.storeAt 48 (.pointer (some ⟨p, 0, none⟩)) (.agg #[.int .i64 f, .int .i64 n, .string t])).run Tryd.prog w = .ok () w' ∧ w'.heap[p]? = some (.cells #[.int .i64 f, .int .i64 n, .string t] 48 (0, 0)) ∧ Gs (fun i => i = p) w w' := by
  have hs := three_set h (.int .i64 f) (.int .i64 n) (.string t)
  exact ⟨_, run_storeAt_mid (P := Tryd.prog) w p 0 48 #[.int .i64 f, .int .i64 n, .string t] (fun j hj => ⟨by rw [World.cell?]; simp only [h]; rw [Array.getElem?_eq_getElem (by simp at hj ⊢; omega)]; rfl, by simp [World.frozen?, h]⟩) (by kernel_rfl) (by simp [Value.oneCell']), hs.2.2.2.1, hs.2.2.2.2⟩
set_option maxRecDepth 100000 in
set_option maxHeartbeats 1600000 in
theorem ahead_any {w : World} {s : ByteArray} (hs : s.size ≤ 140737488355328) : Calls Tryd.prog 23 #[.string s] w fun e w' => e = .returned (.tuple #[hdV s, .bool (okH s)]) ∧ Below w.heap.size w w' := by
  have HH := hide (heads s)
  have A1 := hide (fun b wx hr => ask1 (s := s) (b := b) (wx := wx) hr hs)
  have A2 := hide (fun b wx hr => ask2 (s := s) (b := b) (wx := wx) hr hs)
  have A3 := hide (fun b wx hr => ask3 (s := s) (b := b) (wx := wx) hr hs)
  have AL := hide (fun b wx x hr => Zq.Nm.left_any (s := s) (b := b) (w := wx) (p := p2 s) (x := x) hr HH.out.2.2.1 hs)
  have AE := hide (fun b wx x hr => Zq.Nm.err_any (s := s) (b := b) (w := wx) (p := p2 s + (h3 s).long) (x := x) hr)
  have AK := hide (fun wx => kind_any (w := wx) HH.out.1 ((h2 s).num : Nat) (h3 s).txt)
  have hok := HH.out.2.2.2.1
  rw [hdV]
  obtain ⟨f, hf⟩ : ∃ f, (h1 s).num = f := ⟨_, rfl⟩
  obtain ⟨n, hn⟩ : ∃ n, (h2 s).num = n := ⟨_, rfl⟩
  obtain ⟨t, ht⟩ : ∃ t, (h3 s).txt = t := ⟨_, rfl⟩
  obtain ⟨x1, hx1⟩ : ∃ x, (h1 s).code = x := ⟨_, rfl⟩
  obtain ⟨x2, hx2⟩ : ∃ x, (h2 s).code = x := ⟨_, rfl⟩
  obtain ⟨x3, hx3⟩ : ∃ x, (h3 s).code = x := ⟨_, rfl⟩
  obtain ⟨l3, hl3⟩ : ∃ x, (h3 s).long = x := ⟨_, rfl⟩
  obtain ⟨o, ho⟩ : ∃ o, okH s = o := ⟨_, rfl⟩
  rw [hf, hx3, ho] at hok
  rw [hf, hx1] at A1
  rw [hn, hx1, hx2] at A2
  rw [ht, hx2, hx3, hl3] at A3
  rw [hl3] at AE
  rw [hf, hn, ht] at AK
  rw [hf, hn, ht, ho]
  obtain ⟨q1, hq1⟩ : ∃ x, p1 s = x := ⟨_, rfl⟩
  obtain ⟨q2, hq2⟩ : ∃ x, p2 s = x := ⟨_, rfl⟩
  rw [hq1] at A1 A2
  rw [hq2] at A2 A3 AL AE
  clear HH hf hn ht hx1 hx2 hl3 ho hq1 hq2
  obtain ⟨p, hp⟩ : ∃ p, w.heap.size = p := ⟨_, rfl⟩
  obtain ⟨W1, hW1⟩ : ∃ W1, w.alloc (.cells #[.int .i64 0, .int .i64 0, .string ⟨#[]⟩] 48) = W1 := ⟨_, rfl⟩
  have hB1 : Below w.heap.size w W1 := by rw [← hW1]; exact (Below.refl _ _).alloc (Nat.le_refl _) _
  have kp : W1.heap[p]? = some (.cells #[.int .i64 0, .int .i64 0, .string ⟨#[]⟩] 48 (0, 0)) := by rw [← hW1, ← hp]; exact heap_alloc_new w _
  have hs1 : W1.heap.size = p + 1 := by rw [← hW1, ← hp]; simp
  have H1 := hide (And.intro hB1 (And.intro kp hs1))
  have HP := hide hp
  have HW1 := hide hW1
  clear hB1 kp hs1 hp hW1
  go_enter Tryd.func23, Tryd.ntmps23
  go_wp2_with fail
  rw [HW1.out, HP.out]
  refine (Zq.Nm.read_any s _).mono ?_
  rw [H1.out.2.2]
  rintro _ w2 ⟨rfl, hr, hb⟩
  have H2 : Hid (Below w.heap.size w w2 ∧ w2.heap[p]? = some (.cells #[.int .i64 0, .int .i64 0, .string ⟨#[]⟩] 48 (0, 0)) ∧ Zq.Nm.Rd 89 w2 (p + 1) s 0 0) :=
    ⟨below_step H1.out.1 (by rw [H1.out.2.2]; exact hb), (hb.block p (by omega)).trans H1.out.2.1, hr⟩
  clear hr hb
  go_wp2_with fail
  refine (A1.out _ _ H2.out.2.2).mono ?_
  rintro _ w3 ⟨rfl, hr, hg⟩
  have H3 : Hid (Below w.heap.size w w3 ∧ w3.heap[p]? = some (.cells #[.int .i64 0, .int .i64 0, .string ⟨#[]⟩] 48 (0, 0)) ∧ Zq.Nm.Rd 89 w3 (p + 1) s q1 x1) :=
    ⟨Zq.Sh.below_gb H2.out.1 hg (by rw [HP.out]; omega) H2.out.1.size, (hg.block p (lt_of_block H2.out.2.1) (by simp)).trans H2.out.2.1, hr⟩
  clear hr hg
  go_wp2_with fail
  refine (A2.out _ _ H3.out.2.2).mono ?_
  rintro _ w4 ⟨rfl, hr, hg⟩
  have H4 : Hid (Below w.heap.size w w4 ∧ w4.heap[p]? = some (.cells #[.int .i64 0, .int .i64 0, .string ⟨#[]⟩] 48 (0, 0)) ∧ Zq.Nm.Rd 89 w4 (p + 1) s q2 x2) :=
    ⟨Zq.Sh.below_gb H3.out.1 hg (by rw [HP.out]; omega) H3.out.1.size, (hg.block p (lt_of_block H3.out.2.1) (by simp)).trans H3.out.2.1, hr⟩
  clear hr hg H2 H3
  go_wp2_with fail
  obtain ⟨r, hr⟩ : ∃ r, w4.heap.size = r := ⟨_, rfl⟩
  obtain ⟨w5, hw5⟩ : ∃ w5, w4.alloc (.cells #[.int .i64 (f : Int), .int .i64 (n : Int), .string ⟨#[]⟩] 48) = w5 := ⟨_, rfl⟩
  have H5 : Hid (Below w.heap.size w w5 ∧ w5.heap[p]? = some (.cells #[.int .i64 0, .int .i64 0, .string ⟨#[]⟩] 48 (0, 0)) ∧ Zq.Nm.Rd 89 w5 (p + 1) s q2 x2 ∧ w5.heap[r]? = some (.cells #[.int .i64 (f : Int), .int .i64 (n : Int), .string ⟨#[]⟩] 48 (0, 0)) ∧ p + 1 < r) := by
    have hlt := H4.out.2.2.lt
    rw [← hw5, ← hr]
    exact ⟨below_al H4.out.1 _, (Below.heap_alloc _ _ _ (lt_of_block H4.out.2.1)).trans H4.out.2.1, H4.out.2.2.alloc _, heap_alloc_new w4 _, hlt⟩
  rw [hw5, hr]
  clear hr hw5 H4
  refine (AL.out _ _ _ H5.out.2.2.1).mono ?_
  rintro _ _ ⟨rfl, m, rfl⟩
  go_wp2_with fail
  refine (A3.out _ _ (H5.out.2.2.1.drewN m)).mono ?_
  rintro _ w6 ⟨rfl, hr, hg⟩
  have H6 : Hid (Below w.heap.size w w6 ∧ w6.heap[p]? = some (.cells #[.int .i64 0, .int .i64 0, .string ⟨#[]⟩] 48 (0, 0)) ∧ Zq.Nm.Rd 89 w6 (p + 1) s (q2 + l3) x3 ∧ w6.heap[r]? = some (.cells #[.int .i64 (f : Int), .int .i64 (n : Int), .string ⟨#[]⟩] 48 (0, 0)) ∧ p + 1 < r) :=
    ⟨Zq.Sh.below_gb (Zq.Nm.below_drew H5.out.1 m) hg (by rw [HP.out]; omega) H5.out.1.size, (hg.block p (lt_of_block H5.out.2.1) (by simp)).trans H5.out.2.1, hr, (hg.block r (lt_of_block H5.out.2.2.2.1) (by have := H5.out.2.2.2.2; simp; omega)).trans H5.out.2.2.2.1, H5.out.2.2.2.2⟩
  clear hr hg H5
  have d2 := (cell3 H6.out.2.2.2.1).2.2
  have e2 := free3 H6.out.2.2.2.1 2
  obtain ⟨w7, hw7⟩ : ∃ w7, w6.setCell ⟨r, 2, none⟩ (.string t) = w7 := ⟨_, rfl⟩
  have H7 : Hid (Below w.heap.size w w7 ∧ w7.heap[p]? = some (.cells #[.int .i64 0, .int .i64 0, .string ⟨#[]⟩] 48 (0, 0)) ∧ Zq.Nm.Rd 89 w7 (p + 1) s (q2 + l3) x3 ∧ w7.heap[r]? = some (.cells #[.int .i64 (f : Int), .int .i64 (n : Int), .string t] 48 (0, 0)) ∧ p + 1 < r) := by
    have hlt := H6.out.2.2.2.2
    rw [← hw7]
    exact ⟨Zq.Sh.below_gb H6.out.1 (Zq.Nm.gb_set _ _ _ _) (by rw [HP.out]; omega) H6.out.1.size, ((Zq.Nm.gb_set _ _ _ _).block p (lt_of_block H6.out.2.1) (by simp; omega)).trans H6.out.2.1, H6.out.2.2.1.other (by omega) _ _, heap_set_self H6.out.2.2.2.1, hlt⟩
  have HW7 := hide hw7
  clear hw7 H6
  by_cases c : x3 = 0
  rotate_left
  · have c1 : (x3 == 0) = false := by simpa using c
    have ho : o = false := by rw [hok, decide_eq_false c, Bool.false_and]
    subst ho
    clear hok hx3 c
    go_upto_region 4 with fail
    rw [HW7.out]
    clear d2 e2
    obtain ⟨V9, hst, k9, g9⟩ := head_store (w := w7.drew) H7.out.2.1 f n t
    have hB9 : Below w.heap.size w V9 := below_gs1 H7.out.1.drew g9 (by rw [HP.out]; omega)
    have h9 : V9.heap[r]? = some (.cells #[.int .i64 (f : Int), .int .i64 (n : Int), .string t] 48 (0, 0)) := (g9.block r (lt_of_block H7.out.2.2.2.1) (by have := H7.out.2.2.2.2; omega)).trans H7.out.2.2.2.1
    have D7 := hide (cell3 (w := w7.drew) H7.out.2.2.2.1)
    have D9 := hide (cell3 h9)
    obtain ⟨f0, f1, f2⟩ := cell3 k9
    have HB9 := hide hB9
    have HE := hide (AE.out (p + 1) w7.drew _ H7.out.2.2.1)
    clear h9 g9 k9 hB9
    refine wp_region_noPanic ?_
    refine wp_region_held_drew (S := fun wx => wx.cell? ⟨r, 0, none⟩ = some (.int .i64 (f : Int)) ∧ wx.cell? ⟨r, 1, none⟩ = some (.int .i64 (n : Int)) ∧ wx.cell? ⟨r, 2, none⟩ = some (.string t)) (by kernel_rfl) D7.out (fun hHeld => ?_)
    refine take_at (i := 0) (d := 18) (v := .agg #[.int .i64 (f : Int), .int .i64 (n : Int), .string t]) rfl rfl (by kernel_rfl) (by kernel_rfl) (by kernel_rfl) (fun _ _ _ h => h) (Or.inl ⟨by rfl, fun w' hSw => ?_⟩) hHeld ?_
    · obtain ⟨_, _, _⟩ := hSw
      go_simp
    try simp only [List.setIfInBounds_toArray, List.set_cons_zero, List.set_cons_succ]
    refine take_at (i := 1) (d := 19) (v := .pointer (some ⟨p + 1, 0, none⟩)) rfl rfl (by kernel_rfl) (by kernel_rfl) (by kernel_rfl) (fun _ _ _ h => h) (Or.inl ⟨by rfl, fun w' hSw => ?_⟩) hHeld ?_
    · obtain ⟨_, _, _⟩ := hSw
      go_simp
    try simp only [List.setIfInBounds_toArray, List.set_cons_zero, List.set_cons_succ]
    refine wpAnyH_ready (rs := [2]) (by kernel_rfl) (by simp) ?_
    refine AllReadyH.cons rfl (fun K hK => ?_) AllReadyH.nil
    go_simp
    refine HE.out.mono ?_
    rintro _ _ ⟨rfl, rfl⟩
    go_simp
    refine hK.out _ _ D7.out (fun hHeld => ?_)
    clear hK K
    try simp only [Act.put, List.setIfInBounds_toArray, List.set_cons_zero, List.set_cons_succ]
    refine take_at (i := 3) (d := 21) (v := .bool false) rfl rfl (by kernel_rfl) (by kernel_rfl) (by kernel_rfl) (fun _ _ _ h => h) (Or.inl ⟨by rfl, fun w' hSw => ?_⟩) hHeld ?_
    · obtain ⟨_, _, _⟩ := hSw
      go_simp
    try simp only [List.setIfInBounds_toArray, List.set_cons_zero, List.set_cons_succ]
    refine take_at (i := 4) (d := 22) (v := .bool false) rfl rfl (by kernel_rfl) (by kernel_rfl) (by kernel_rfl) (fun _ _ _ h => h) (Or.inl ⟨by rfl, fun w' hSw => ?_⟩) hHeld ?_
    · obtain ⟨_, _, _⟩ := hSw
      go_simp
    try simp only [List.setIfInBounds_toArray, List.set_cons_zero, List.set_cons_succ]
    refine take_at (i := 5) (d := 23) (v := undef) rfl rfl (by kernel_rfl) (by kernel_rfl) (by kernel_rfl) (fun _ _ _ h => h) (Or.inr ⟨by rfl, rfl⟩) hHeld ?_
    try simp only [List.setIfInBounds_toArray, List.set_cons_zero, List.set_cons_succ]
    refine take_at (i := 6) (d := 24) (v := undef) rfl rfl (by kernel_rfl) (by kernel_rfl) (by kernel_rfl) (fun _ _ _ h => h) (Or.inr ⟨by rfl, rfl⟩) hHeld ?_
    try simp only [List.setIfInBounds_toArray, List.set_cons_zero, List.set_cons_succ]
    refine take_at (i := 7) (d := 25) (v := undef) rfl rfl (by kernel_rfl) (by kernel_rfl) (by kernel_rfl) (fun _ _ _ h => h) (Or.inr ⟨by rfl, rfl⟩) hHeld ?_
    try simp only [List.setIfInBounds_toArray, List.set_cons_zero, List.set_cons_succ]
    refine take_at (i := 8) (d := 26) (v := .bool false) rfl rfl (by kernel_rfl) (by kernel_rfl) (by kernel_rfl) (fun _ _ _ h => h) (Or.inl ⟨by rfl, fun w' hSw => ?_⟩) hHeld ?_
    · obtain ⟨_, _, _⟩ := hSw
      go_simp
    try simp only [List.setIfInBounds_toArray, List.set_cons_zero, List.set_cons_succ]
    refine wpAnyH_ready (rs := [9]) (by kernel_rfl) (by simp) ?_
    refine AllReadyH.cons rfl (fun K hK => ?_) AllReadyH.nil
    refine step_store_run rfl 48 _ _ rfl _ _ rfl rfl V9 hst ?_
    refine hK.out _ _ D9.out (fun hHeld => ?_)
    clear hK K
    try simp only [Act.put]
    refine take_at (i := 10) (d := 3) (v := .bool false) rfl rfl (by kernel_rfl) (by kernel_rfl) (by kernel_rfl) (fun _ _ _ h => h) (Or.inl ⟨by rfl, fun w' hSw => ?_⟩) hHeld ?_
    · obtain ⟨_, _, _⟩ := hSw
      go_simp
    refine wpAnyH_done (by kernel_rfl) ?_ _
    refine NoPanic.normal ?_
    go_wp2
    exact bodyPost_ret (v := .tuple #[.agg #[.int .i64 (f : Int), .int .i64 (n : Int), .string t], .bool false]) (by simp [results, Tryd.results23, go_sem, f0, f1, f2]) rfl ⟨rfl, HB9.out⟩
  · subst c
    have HKN : Hid (kn ((kd f : Nat) : Int) = o) := hide (by rw [hok, decide_eq_true rfl, Bool.true_and])
    have hx0 : ((0 : Int) == 0) = true := rfl
    clear hok hx3
    go_upto_region 4 with fail
    rw [HW7.out]
    clear d2 e2
    have HK7 := hide (AK.out w7.drew)
    have HE := hide (AE.out (p + 1) w7.drew _ H7.out.2.2.1)
    have D7 := hide (cell3 (w := w7.drew) H7.out.2.2.2.1)
    refine wp_region_noPanic ?_
    refine wp_region_held_drew (S := fun wx => wx.cell? ⟨r, 0, none⟩ = some (.int .i64 (f : Int)) ∧ wx.cell? ⟨r, 1, none⟩ = some (.int .i64 (n : Int)) ∧ wx.cell? ⟨r, 2, none⟩ = some (.string t)) (by kernel_rfl) D7.out (fun hHeld => ?_)
    refine take_at (i := 0) (d := 18) (v := .agg #[.int .i64 (f : Int), .int .i64 (n : Int), .string t]) rfl rfl (by kernel_rfl) (by kernel_rfl) (by kernel_rfl) (fun _ _ _ h => h) (Or.inl ⟨by rfl, fun w' hSw => ?_⟩) hHeld ?_
    · obtain ⟨_, _, _⟩ := hSw
      go_simp
    try simp only [List.setIfInBounds_toArray, List.set_cons_zero, List.set_cons_succ]
    refine take_at (i := 1) (d := 19) (v := .pointer (some ⟨p + 1, 0, none⟩)) rfl rfl (by kernel_rfl) (by kernel_rfl) (by kernel_rfl) (fun _ _ _ h => h) (Or.inl ⟨by rfl, fun w' hSw => ?_⟩) hHeld ?_
    · obtain ⟨_, _, _⟩ := hSw
      go_simp
    try simp only [List.setIfInBounds_toArray, List.set_cons_zero, List.set_cons_succ]
    refine wpAnyH_ready (rs := [2]) (by kernel_rfl) (by simp) ?_
    refine AllReadyH.cons rfl (fun K hK => ?_) AllReadyH.nil
    go_simp
    refine HE.out.mono ?_
    rintro _ _ ⟨rfl, rfl⟩
    go_simp
    refine hK.out _ _ D7.out (fun hHeld => ?_)
    clear hK K
    try simp only [Act.put, List.setIfInBounds_toArray, List.set_cons_zero, List.set_cons_succ]
    refine take_at (i := 3) (d := 21) (v := .bool true) rfl rfl (by kernel_rfl) (by kernel_rfl) (by kernel_rfl) (fun _ _ _ h => h) (Or.inl ⟨by rfl, fun w' hSw => ?_⟩) hHeld ?_
    · obtain ⟨_, _, _⟩ := hSw
      go_simp
    try simp only [List.setIfInBounds_toArray, List.set_cons_zero, List.set_cons_succ]
    refine take_at (i := 4) (d := 22) (v := .bool true) rfl rfl (by kernel_rfl) (by kernel_rfl) (by kernel_rfl) (fun _ _ _ h => h) (Or.inl ⟨by rfl, fun w' hSw => ?_⟩) hHeld ?_
    · obtain ⟨_, _, _⟩ := hSw
      go_simp
    try simp only [List.setIfInBounds_toArray, List.set_cons_zero, List.set_cons_succ]
    refine take_at (i := 5) (d := 23) (v := .agg #[.int .i64 (f : Int), .int .i64 (n : Int), .string t]) rfl rfl (by kernel_rfl) (by kernel_rfl) (by kernel_rfl) (fun _ _ _ h => h) (Or.inl ⟨by rfl, fun w' hSw => ?_⟩) hHeld ?_
    · obtain ⟨_, _, _⟩ := hSw
      go_simp
    try simp only [List.setIfInBounds_toArray, List.set_cons_zero, List.set_cons_succ]
    refine wpAnyH_ready (rs := [6]) (by kernel_rfl) (by simp) ?_
    refine AllReadyH.cons rfl (fun K hK => ?_) AllReadyH.nil
    go_simp
    refine HK7.out.mono ?_
    rintro _ w8 ⟨rfl, hb⟩
    have k8 := (hb.block r (lt_of_block H7.out.2.2.2.1)).trans H7.out.2.2.2.1
    have D8 := hide (cell3 k8)
    obtain ⟨V9, hst, k9, g9⟩ := head_store (w := w8) ((hb.block p (lt_of_block H7.out.2.1)).trans H7.out.2.1) f n t
    have hB9 : Below w.heap.size w V9 := below_gs1 (below_step H7.out.1.drew hb) g9 (by rw [HP.out]; omega)
    have h9 : V9.heap[r]? = some (.cells #[.int .i64 (f : Int), .int .i64 (n : Int), .string t] 48 (0, 0)) := (g9.block r (lt_of_block k8) (by have := H7.out.2.2.2.2; omega)).trans k8
    have D9 := hide (cell3 h9)
    have F9 := hide (cell3 k9)
    have HB9 := hide hB9
    clear k8 k9 g9 hB9 h9 hb
    go_simp
    refine hK.out _ _ D8.out (fun hHeld => ?_)
    clear hK K
    try simp only [Act.put, List.setIfInBounds_toArray, List.set_cons_zero, List.set_cons_succ]
    refine wpAnyH_ready (rs := [7]) (by kernel_rfl) (by simp) ?_
    refine AllReadyH.cons rfl (fun K hK => ?_) AllReadyH.nil
    go_simp
    refine (known_call HKN.out _).mono ?_
    rintro _ _ ⟨rfl, rfl⟩
    go_simp
    refine hK.out _ _ D8.out (fun hHeld => ?_)
    clear hK K
    try simp only [Act.put, List.setIfInBounds_toArray, List.set_cons_zero, List.set_cons_succ]
    refine take_at (i := 8) (d := 26) (v := .bool o) rfl rfl (by kernel_rfl) (by kernel_rfl) (by kernel_rfl) (fun _ _ _ h => h) (Or.inl ⟨by rfl, fun w' hSw => ?_⟩) hHeld ?_
    · obtain ⟨_, _, _⟩ := hSw
      go_simp
    try simp only [List.setIfInBounds_toArray, List.set_cons_zero, List.set_cons_succ]
    refine wpAnyH_ready (rs := [9]) (by kernel_rfl) (by simp) ?_
    refine AllReadyH.cons rfl (fun K hK => ?_) AllReadyH.nil
    refine step_store_run rfl 48 _ _ rfl _ _ rfl rfl V9 hst ?_
    refine hK.out _ _ D9.out (fun hHeld => ?_)
    clear hK K
    try simp only [Act.put]
    refine take_at (i := 10) (d := 3) (v := .bool o) rfl rfl (by kernel_rfl) (by kernel_rfl) (by kernel_rfl) (fun _ _ _ h => h) (Or.inl ⟨by rfl, fun w' hSw => ?_⟩) hHeld ?_
    · obtain ⟨_, _, _⟩ := hSw
      go_simp
    refine wpAnyH_done (by kernel_rfl) ?_ _
    refine NoPanic.normal ?_
    obtain ⟨f0, f1, f2⟩ := F9.out
    go_wp2
    exact bodyPost_ret (v := .tuple #[.agg #[.int .i64 (f : Int), .int .i64 (n : Int), .string t], .bool o]) (by simp [results, Tryd.results23, go_sem, f0, f1, f2]) rfl ⟨rfl, HB9.out⟩
end Go.Proofs.YtgigiamnhjelmaaDoor
