/-
  SdRGather: texts of earlier layers, laid over this program.
-/
import Derived.Test.YtklaeocnimkboaaGreatDoorSdGather
import Derived.Test.YtklaeocnimkboaaGreatDoorSdRefMake
import Derived.Deep.RegionHeld3
namespace Go.Proofs.YtklaeocnimkboaaGreatDoor
open Go.RowKit Go.Lib

/-- An operation that reads alone is taken first. -/
theorem take_at {ops : Array Oper} {Q : Exit → Act → World → Prop} {S : World → Prop} {i d : Nat} {oi : Oper} {v : Value} {fuel : Nat} {listed : Array Bool} {a : Act} {w : World} (hi : ops[i]? = some oi) (hd : oi.dst = some d)
    (hs : Region.noSelect ops = true) (hf : Region.free .any ops listed i = true) (hr : (Region.ready .any ops listed).contains i = true)
    (hQ : ∀ c a w, Q (.panic c) (a.put oi.dst v) w → Q (.panic c) a w) (hy : YieldsIf Tryz.prog ops S oi v a) (hS : S w)
    (h : wpAnyH Tryz.prog .any ops Q S fuel (listed.setIfInBounds i true) ⟨a.tmps.setIfInBounds d v, a.defers⟩ w) : wpAnyH Tryz.prog .any ops Q S (fuel + 1) listed a w :=
  wpAnyH_take hi hs hf hr hQ hy hS (by rw [hd]; exact h)

set_option maxRecDepth 100000 in
set_option maxHeartbeats 3200000 in
theorem rgather_any {w : World} {v : Value} {n : Nat} {X : Nat → SX} (hn : n ≤ 100) (hX : LX w v n X) (h12 : ∀ i, i < n → (X i).k ≤ 12) (hD : ∀ i, i < n → (X i).data.size ≤ 100000) :
    Calls Tryz.prog 13 #[v] w fun e w' => ∃ S c, e = .returned (.tuple #[.string S, .int .i64 c]) ∧ GA X n S c ∧ Below w.heap.size w w' := by
  obtain ⟨a, c, rfl, hX⟩ := hX
  rcases Nat.eq_zero_or_pos n with h0 | h0
  · subst h0
    clear hX h12 hD
    go_enter Tryz.func13, Tryz.ntmps13
    go_wp2
    go_ret2
    exact ⟨⟨#[]⟩, 4, rfl, .inl ⟨fun h => absurd h.1 (by decide), rfl, rfl⟩, Below.refl _ _⟩
  obtain ⟨bl, off, rfl, hbl, hC⟩ := hX.resolve_left (by omega)
  have HC := hide hC
  have HD := hide hD
  have HK12 := hide (h12 0 h0)
  obtain ⟨x0, hx0⟩ : ∃ x, x = X 0 := ⟨_, rfl⟩
  have HC0 : Hid (∀ w', Below w.heap.size w w' → C6 w' bl off x0) := fun w' hb => by
    have := (hC 0 h0).below hb hbl
    rw [Nat.zero_mul, Nat.add_zero, ← hx0] at this
    exact this
  rw [← hx0] at HK12
  have HX0 := hide hx0
  have nz : ((n : Int) == 0) = false := by simp; omega
  have hn0 : (0 : Int) < (n : Int) := by omega
  clear hC hD h12 hX hx0
  go_enter Tryz.func13, Tryz.ntmps13
  go_wp2
  go_loopw [4, 5] (fun vp z wr => ∃ i : Nat, i ≤ n ∧ z = .int .i64 i ∧ Rr.IP w.heap.size vp i (fun t => (X t).i) (fun t => (X t).data) wr ∧ allS X i ∧ Below w.heap.size w wr) (fun _ z _ => n - (RowKit.intOf z).toNat)
  case atStart => exact ⟨0, Nat.zero_le _, rfl, Rr.IP.nil _ _ _ _, fun i hi => by omega, Below.refl _ _⟩
  case round =>
    obtain ⟨i, hi, rfl, hI, hA, hb⟩ := hrel
    have HIr := hide hI
    have HAr := hide hA
    have HBr := hide hb
    clear hI hA hb
    by_cases hlt : i < n
    · have b1 : (i : Int) < (n : Int) := by omega
      have b0 : (0 : Int) ≤ (i : Int) := by omega
      obtain ⟨x, hx⟩ : ∃ x, x = X i := ⟨_, rfl⟩
      have HCx : Hid (∀ w', Below w.heap.size w w' → C6 w' bl (off + i * 6) x) := fun w' hb => by rw [hx]; exact (HC.out i hlt).below hb hbl
      have HXi := hide hx
      clear hx
      have KS : Hid (∀ w', Below wr.heap.size wr w' → (Below wr.heap.size wr w' ∧ w'.cell? ⟨bl, off, none⟩ = some (.int .i64 x0.k) ∧ w'.cell? ⟨bl, off + 1, none⟩ = some (.int .i64 x0.m) ∧ w'.cell? ⟨bl, off + 2, none⟩ = some (.int .i64 x0.i) ∧ w'.cell? ⟨bl, off + 3, none⟩ = some (.int .i64 x0.long) ∧ w'.cell? ⟨bl, off + 4, none⟩ = some (.string x0.id) ∧ w'.cell? ⟨bl, off + 5, none⟩ = some (.string x0.data) ∧ w'.cell? ⟨bl, off + i * 6, none⟩ = some (.int .i64 x.k) ∧ w'.cell? ⟨bl, off + i * 6 + 1, none⟩ = some (.int .i64 x.m) ∧ w'.cell? ⟨bl, off + i * 6 + 2, none⟩ = some (.int .i64 x.i) ∧ w'.cell? ⟨bl, off + i * 6 + 3, none⟩ = some (.int .i64 x.long) ∧ w'.cell? ⟨bl, off + i * 6 + 4, none⟩ = some (.string x.id) ∧ w'.cell? ⟨bl, off + i * 6 + 5, none⟩ = some (.string x.data))) := fun w' hb => by
        have A := HC0.out _ (below_step HBr.out hb)
        have B := HCx.out _ (below_step HBr.out hb)
        exact ⟨hb, A.c0, A.c1, A.c2, A.c3, A.c4, A.c5, B.c0, B.c1, B.c2, B.c3, B.c4, B.c5⟩
      have S0 := hide (KS.out _ (Below.refl wr.heap.size wr).drew)
      by_cases hok : okS x
      case neg =>
        have HN : Hid (¬ (0 < n ∧ allS X n)) := fun h => by
          have h2 := (h.2 i hlt).1
          rw [← HXi.out] at h2
          exact hok h2
        have C1 : Hid (∀ (u : Value) (w' : World), u = .agg #[.int .i64 x.k, .int .i64 x.m, .int .i64 x.i, .int .i64 x.long, .string x.id, .string x.data] → (Below wr.heap.size wr w' ∧ w'.cell? ⟨bl, off, none⟩ = some (.int .i64 x0.k) ∧ w'.cell? ⟨bl, off + 1, none⟩ = some (.int .i64 x0.m) ∧ w'.cell? ⟨bl, off + 2, none⟩ = some (.int .i64 x0.i) ∧ w'.cell? ⟨bl, off + 3, none⟩ = some (.int .i64 x0.long) ∧ w'.cell? ⟨bl, off + 4, none⟩ = some (.string x0.id) ∧ w'.cell? ⟨bl, off + 5, none⟩ = some (.string x0.data) ∧ w'.cell? ⟨bl, off + i * 6, none⟩ = some (.int .i64 x.k) ∧ w'.cell? ⟨bl, off + i * 6 + 1, none⟩ = some (.int .i64 x.m) ∧ w'.cell? ⟨bl, off + i * 6 + 2, none⟩ = some (.int .i64 x.i) ∧ w'.cell? ⟨bl, off + i * 6 + 3, none⟩ = some (.int .i64 x.long) ∧ w'.cell? ⟨bl, off + i * 6 + 4, none⟩ = some (.string x.id) ∧ w'.cell? ⟨bl, off + i * 6 + 5, none⟩ = some (.string x.data)) → Calls Tryz.prog 29 #[u] w' fun e w'' => e = .returned (.int .i64 60) ∧ (Below wr.heap.size wr w'' ∧ w''.cell? ⟨bl, off, none⟩ = some (.int .i64 x0.k) ∧ w''.cell? ⟨bl, off + 1, none⟩ = some (.int .i64 x0.m) ∧ w''.cell? ⟨bl, off + 2, none⟩ = some (.int .i64 x0.i) ∧ w''.cell? ⟨bl, off + 3, none⟩ = some (.int .i64 x0.long) ∧ w''.cell? ⟨bl, off + 4, none⟩ = some (.string x0.id) ∧ w''.cell? ⟨bl, off + 5, none⟩ = some (.string x0.data) ∧ w''.cell? ⟨bl, off + i * 6, none⟩ = some (.int .i64 x.k) ∧ w''.cell? ⟨bl, off + i * 6 + 1, none⟩ = some (.int .i64 x.m) ∧ w''.cell? ⟨bl, off + i * 6 + 2, none⟩ = some (.int .i64 x.i) ∧ w''.cell? ⟨bl, off + i * 6 + 3, none⟩ = some (.int .i64 x.long) ∧ w''.cell? ⟨bl, off + i * 6 + 4, none⟩ = some (.string x.id) ∧ w''.cell? ⟨bl, off + i * 6 + 5, none⟩ = some (.string x.data))) := fun u w' hu h => by
          subst hu
          exact (refCheck_bad x.k x.m x.i x.long x.id x.data w' hok).mono fun _ _ ⟨he, hk⟩ => ⟨he, KS.out _ (below_step h.1 hk)⟩
        clear hok
        go_upto_region 7 with fail
        refine wp_region_noPanic ?_
        refine wp_region_held_drew (S := fun w' => Below wr.heap.size wr w' ∧ w'.cell? ⟨bl, off, none⟩ = some (.int .i64 x0.k) ∧ w'.cell? ⟨bl, off + 1, none⟩ = some (.int .i64 x0.m) ∧ w'.cell? ⟨bl, off + 2, none⟩ = some (.int .i64 x0.i) ∧ w'.cell? ⟨bl, off + 3, none⟩ = some (.int .i64 x0.long) ∧ w'.cell? ⟨bl, off + 4, none⟩ = some (.string x0.id) ∧ w'.cell? ⟨bl, off + 5, none⟩ = some (.string x0.data) ∧ w'.cell? ⟨bl, off + i * 6, none⟩ = some (.int .i64 x.k) ∧ w'.cell? ⟨bl, off + i * 6 + 1, none⟩ = some (.int .i64 x.m) ∧ w'.cell? ⟨bl, off + i * 6 + 2, none⟩ = some (.int .i64 x.i) ∧ w'.cell? ⟨bl, off + i * 6 + 3, none⟩ = some (.int .i64 x.long) ∧ w'.cell? ⟨bl, off + i * 6 + 4, none⟩ = some (.string x.id) ∧ w'.cell? ⟨bl, off + i * 6 + 5, none⟩ = some (.string x.data)) (by kernel_rfl) S0.out (fun hHeld => ?_)
        refine take_at (i := 0) (d := 19) (v := .slice (some ⟨bl, off, none⟩) n c) rfl rfl (by kernel_rfl) (by kernel_rfl) (by kernel_rfl) (fun _ _ _ h => h) (Or.inl ⟨by rfl, fun w' hSw => ?_⟩) hHeld ?_
        · obtain ⟨_, _, _, _, _, _, _, _, _, _, _, _, _⟩ := hSw
          go_simp
        try simp only [List.setIfInBounds_toArray, List.set_cons_zero, List.set_cons_succ]
        refine take_at (i := 1) (d := 20) (v := .int .i64 (i : Int)) rfl rfl (by kernel_rfl) (by kernel_rfl) (by kernel_rfl) (fun _ _ _ h => h) (Or.inl ⟨by rfl, fun w' hSw => ?_⟩) hHeld ?_
        · obtain ⟨_, _, _, _, _, _, _, _, _, _, _, _, _⟩ := hSw
          go_simp
        try simp only [List.setIfInBounds_toArray, List.set_cons_zero, List.set_cons_succ]
        refine take_at (i := 2) (d := 21) (v := .pointer (some ⟨bl, off + i * 6, none⟩)) rfl rfl (by kernel_rfl) (by kernel_rfl) (by kernel_rfl) (fun _ _ _ h => h) (Or.inl ⟨by rfl, fun w' hSw => ?_⟩) hHeld ?_
        · obtain ⟨_, _, _, _, _, _, _, _, _, _, _, _, _⟩ := hSw
          go_simp
        try simp only [List.setIfInBounds_toArray, List.set_cons_zero, List.set_cons_succ]
        refine take_at (i := 3) (d := 22) (v := .agg #[.int .i64 x.k, .int .i64 x.m, .int .i64 x.i, .int .i64 x.long, .string x.id, .string x.data]) rfl rfl (by kernel_rfl) (by kernel_rfl) (by kernel_rfl) (fun _ _ _ h => h) (Or.inl ⟨by rfl, fun w' hSw => ?_⟩) hHeld ?_
        · obtain ⟨_, _, _, _, _, _, _, _, _, _, _, _, _⟩ := hSw
          go_simp
        try simp only [List.setIfInBounds_toArray, List.set_cons_zero, List.set_cons_succ]
        refine wpAnyH_ready (rs := [4]) (by kernel_rfl) (by simp) ?_
        refine AllReadyH.cons rfl (fun K hK => ?_) ?_
        · go_simp
          refine (C1.out _ _ rfl hHeld).mono ?_
          rintro e wa ⟨rfl, ka⟩
          go_simp
          refine hK.out _ _ ka (fun hHeld => ?_)
          clear hK K
          try simp only [Act.put, List.setIfInBounds_toArray, List.set_cons_zero, List.set_cons_succ]
          refine take_at (i := 5) (d := 24) (v := .bool true) rfl rfl (by kernel_rfl) (by kernel_rfl) (by kernel_rfl) (fun _ _ _ h => h) (Or.inl ⟨by rfl, fun w' hSw => ?_⟩) hHeld ?_
          · obtain ⟨_, _, _, _, _, _, _, _, _, _, _, _, _⟩ := hSw
            go_simp
          try simp only [List.setIfInBounds_toArray, List.set_cons_zero, List.set_cons_succ]
          refine take_at (i := 6) (d := 25) (v := .bool true) rfl rfl (by kernel_rfl) (by kernel_rfl) (by kernel_rfl) (fun _ _ _ h => h) (Or.inl ⟨by rfl, fun w' hSw => ?_⟩) hHeld ?_
          · obtain ⟨_, _, _, _, _, _, _, _, _, _, _, _, _⟩ := hSw
            go_simp
          try simp only [List.setIfInBounds_toArray, List.set_cons_zero, List.set_cons_succ]
          refine take_at (i := 7) (d := 26) (v := undef) rfl rfl (by kernel_rfl) (by kernel_rfl) (by kernel_rfl) (fun _ _ _ h => h) (Or.inr ⟨by rfl, rfl⟩) hHeld ?_
          try simp only [List.setIfInBounds_toArray, List.set_cons_zero, List.set_cons_succ]
          refine take_at (i := 8) (d := 27) (v := undef) rfl rfl (by kernel_rfl) (by kernel_rfl) (by kernel_rfl) (fun _ _ _ h => h) (Or.inr ⟨by rfl, rfl⟩) hHeld ?_
          try simp only [List.setIfInBounds_toArray, List.set_cons_zero, List.set_cons_succ]
          refine take_at (i := 9) (d := 28) (v := undef) rfl rfl (by kernel_rfl) (by kernel_rfl) (by kernel_rfl) (fun _ _ _ h => h) (Or.inr ⟨by rfl, rfl⟩) hHeld ?_
          try simp only [List.setIfInBounds_toArray, List.set_cons_zero, List.set_cons_succ]
          refine take_at (i := 10) (d := 29) (v := undef) rfl rfl (by kernel_rfl) (by kernel_rfl) (by kernel_rfl) (fun _ _ _ h => h) (Or.inr ⟨by rfl, rfl⟩) hHeld ?_
          try simp only [List.setIfInBounds_toArray, List.set_cons_zero, List.set_cons_succ]
          refine take_at (i := 11) (d := 30) (v := undef) rfl rfl (by kernel_rfl) (by kernel_rfl) (by kernel_rfl) (fun _ _ _ h => h) (Or.inr ⟨by rfl, rfl⟩) hHeld ?_
          try simp only [List.setIfInBounds_toArray, List.set_cons_zero, List.set_cons_succ]
          refine take_at (i := 12) (d := 31) (v := undef) rfl rfl (by kernel_rfl) (by kernel_rfl) (by kernel_rfl) (fun _ _ _ h => h) (Or.inr ⟨by rfl, rfl⟩) hHeld ?_
          try simp only [List.setIfInBounds_toArray, List.set_cons_zero, List.set_cons_succ]
          refine take_at (i := 13) (d := 32) (v := undef) rfl rfl (by kernel_rfl) (by kernel_rfl) (by kernel_rfl) (fun _ _ _ h => h) (Or.inr ⟨by rfl, rfl⟩) hHeld ?_
          try simp only [List.setIfInBounds_toArray, List.set_cons_zero, List.set_cons_succ]
          refine take_at (i := 14) (d := 33) (v := undef) rfl rfl (by kernel_rfl) (by kernel_rfl) (by kernel_rfl) (fun _ _ _ h => h) (Or.inr ⟨by rfl, rfl⟩) hHeld ?_
          try simp only [List.setIfInBounds_toArray, List.set_cons_zero, List.set_cons_succ]
          refine take_at (i := 15) (d := 34) (v := undef) rfl rfl (by kernel_rfl) (by kernel_rfl) (by kernel_rfl) (fun _ _ _ h => h) (Or.inr ⟨by rfl, rfl⟩) hHeld ?_
          try simp only [List.setIfInBounds_toArray, List.set_cons_zero, List.set_cons_succ]
          refine take_at (i := 16) (d := 35) (v := .bool true) rfl rfl (by kernel_rfl) (by kernel_rfl) (by kernel_rfl) (fun _ _ _ h => h) (Or.inl ⟨by rfl, fun w' hSw => ?_⟩) hHeld ?_
          · obtain ⟨_, _, _, _, _, _, _, _, _, _, _, _, _⟩ := hSw
            go_simp
          try simp only [List.setIfInBounds_toArray, List.set_cons_zero, List.set_cons_succ]
          refine wpAnyH_done (by kernel_rfl) ?_ _
          refine NoPanic.normal ?_
          have HBa := hide (below_step HBr.out ka.1)
          clear ka C1 KS S0 hHeld
          go_wp2
          go_ret2
          exact ⟨⟨#[]⟩, 4, rfl, .inl ⟨HN.out, rfl, rfl⟩, HBa.out⟩
        · exact AllReadyH.nil
      case pos =>
      obtain ⟨t, ht⟩ := ft_bool x0 x
      have C1 : Hid (∀ (u : Value) (w' : World), u = .agg #[.int .i64 x.k, .int .i64 x.m, .int .i64 x.i, .int .i64 x.long, .string x.id, .string x.data] → (Below wr.heap.size wr w' ∧ w'.cell? ⟨bl, off, none⟩ = some (.int .i64 x0.k) ∧ w'.cell? ⟨bl, off + 1, none⟩ = some (.int .i64 x0.m) ∧ w'.cell? ⟨bl, off + 2, none⟩ = some (.int .i64 x0.i) ∧ w'.cell? ⟨bl, off + 3, none⟩ = some (.int .i64 x0.long) ∧ w'.cell? ⟨bl, off + 4, none⟩ = some (.string x0.id) ∧ w'.cell? ⟨bl, off + 5, none⟩ = some (.string x0.data) ∧ w'.cell? ⟨bl, off + i * 6, none⟩ = some (.int .i64 x.k) ∧ w'.cell? ⟨bl, off + i * 6 + 1, none⟩ = some (.int .i64 x.m) ∧ w'.cell? ⟨bl, off + i * 6 + 2, none⟩ = some (.int .i64 x.i) ∧ w'.cell? ⟨bl, off + i * 6 + 3, none⟩ = some (.int .i64 x.long) ∧ w'.cell? ⟨bl, off + i * 6 + 4, none⟩ = some (.string x.id) ∧ w'.cell? ⟨bl, off + i * 6 + 5, none⟩ = some (.string x.data)) → Calls Tryz.prog 29 #[u] w' fun e w'' => e = .returned (.int .i64 0) ∧ (Below wr.heap.size wr w'' ∧ w''.cell? ⟨bl, off, none⟩ = some (.int .i64 x0.k) ∧ w''.cell? ⟨bl, off + 1, none⟩ = some (.int .i64 x0.m) ∧ w''.cell? ⟨bl, off + 2, none⟩ = some (.int .i64 x0.i) ∧ w''.cell? ⟨bl, off + 3, none⟩ = some (.int .i64 x0.long) ∧ w''.cell? ⟨bl, off + 4, none⟩ = some (.string x0.id) ∧ w''.cell? ⟨bl, off + 5, none⟩ = some (.string x0.data) ∧ w''.cell? ⟨bl, off + i * 6, none⟩ = some (.int .i64 x.k) ∧ w''.cell? ⟨bl, off + i * 6 + 1, none⟩ = some (.int .i64 x.m) ∧ w''.cell? ⟨bl, off + i * 6 + 2, none⟩ = some (.int .i64 x.i) ∧ w''.cell? ⟨bl, off + i * 6 + 3, none⟩ = some (.int .i64 x.long) ∧ w''.cell? ⟨bl, off + i * 6 + 4, none⟩ = some (.string x.id) ∧ w''.cell? ⟨bl, off + i * 6 + 5, none⟩ = some (.string x.data))) := fun u w' hu h => by
        subst hu
        exact (refCheck_ok x.k x.m x.i x.long x.id x.data w' hok).mono fun _ _ ⟨he, hk⟩ => ⟨he, KS.out _ (below_step h.1 hk)⟩
      have C2 : Hid (∀ (u v : Value) (w' : World), u = .agg #[.int .i64 x0.k, .int .i64 x0.m, .int .i64 x0.i, .int .i64 x0.long, .string x0.id, .string x0.data] → v = .agg #[.int .i64 x.k, .int .i64 x.m, .int .i64 x.i, .int .i64 x.long, .string x.id, .string x.data] → (Below wr.heap.size wr w' ∧ w'.cell? ⟨bl, off, none⟩ = some (.int .i64 x0.k) ∧ w'.cell? ⟨bl, off + 1, none⟩ = some (.int .i64 x0.m) ∧ w'.cell? ⟨bl, off + 2, none⟩ = some (.int .i64 x0.i) ∧ w'.cell? ⟨bl, off + 3, none⟩ = some (.int .i64 x0.long) ∧ w'.cell? ⟨bl, off + 4, none⟩ = some (.string x0.id) ∧ w'.cell? ⟨bl, off + 5, none⟩ = some (.string x0.data) ∧ w'.cell? ⟨bl, off + i * 6, none⟩ = some (.int .i64 x.k) ∧ w'.cell? ⟨bl, off + i * 6 + 1, none⟩ = some (.int .i64 x.m) ∧ w'.cell? ⟨bl, off + i * 6 + 2, none⟩ = some (.int .i64 x.i) ∧ w'.cell? ⟨bl, off + i * 6 + 3, none⟩ = some (.int .i64 x.long) ∧ w'.cell? ⟨bl, off + i * 6 + 4, none⟩ = some (.string x.id) ∧ w'.cell? ⟨bl, off + i * 6 + 5, none⟩ = some (.string x.data)) → Calls Tryz.prog 15 #[u, v] w' fun e w'' => e = .returned (.bool t) ∧ (Below wr.heap.size wr w'' ∧ w''.cell? ⟨bl, off, none⟩ = some (.int .i64 x0.k) ∧ w''.cell? ⟨bl, off + 1, none⟩ = some (.int .i64 x0.m) ∧ w''.cell? ⟨bl, off + 2, none⟩ = some (.int .i64 x0.i) ∧ w''.cell? ⟨bl, off + 3, none⟩ = some (.int .i64 x0.long) ∧ w''.cell? ⟨bl, off + 4, none⟩ = some (.string x0.id) ∧ w''.cell? ⟨bl, off + 5, none⟩ = some (.string x0.data) ∧ w''.cell? ⟨bl, off + i * 6, none⟩ = some (.int .i64 x.k) ∧ w''.cell? ⟨bl, off + i * 6 + 1, none⟩ = some (.int .i64 x.m) ∧ w''.cell? ⟨bl, off + i * 6 + 2, none⟩ = some (.int .i64 x.i) ∧ w''.cell? ⟨bl, off + i * 6 + 3, none⟩ = some (.int .i64 x.long) ∧ w''.cell? ⟨bl, off + i * 6 + 4, none⟩ = some (.string x.id) ∧ w''.cell? ⟨bl, off + i * 6 + 5, none⟩ = some (.string x.data))) := fun u v w' hu hv h => by
        subst hu
        subst hv
        exact (rfits_any x0 x w' t ht).mono fun _ _ ⟨he, hk⟩ => ⟨he, KS.out _ (below_step h.1 hk)⟩
      have HOK := hide hok
      clear hok
      go_upto_region 7 with fail
      go_region_held3 (fun w' => Below wr.heap.size wr w' ∧ w'.cell? ⟨bl, off, none⟩ = some (.int .i64 x0.k) ∧ w'.cell? ⟨bl, off + 1, none⟩ = some (.int .i64 x0.m) ∧ w'.cell? ⟨bl, off + 2, none⟩ = some (.int .i64 x0.i) ∧ w'.cell? ⟨bl, off + 3, none⟩ = some (.int .i64 x0.long) ∧ w'.cell? ⟨bl, off + 4, none⟩ = some (.string x0.id) ∧ w'.cell? ⟨bl, off + 5, none⟩ = some (.string x0.data) ∧ w'.cell? ⟨bl, off + i * 6, none⟩ = some (.int .i64 x.k) ∧ w'.cell? ⟨bl, off + i * 6 + 1, none⟩ = some (.int .i64 x.m) ∧ w'.cell? ⟨bl, off + i * 6 + 2, none⟩ = some (.int .i64 x.i) ∧ w'.cell? ⟨bl, off + i * 6 + 3, none⟩ = some (.int .i64 x.long) ∧ w'.cell? ⟨bl, off + i * 6 + 4, none⟩ = some (.string x.id) ∧ w'.cell? ⟨bl, off + i * 6 + 5, none⟩ = some (.string x.data)) (first | assumption | exact S0.out)
        (first
          | (go_at_call 29; refine (C1.out _ _ (by with_reducible rfl) (by assumption)).mono ?_; rintro e wa ⟨rfl, ka⟩)
          | (go_at_call 15; refine (C2.out _ _ _ (by with_reducible rfl) (by with_reducible rfl) (by assumption)).mono ?_; rintro e wb ⟨rfl, kb⟩))
      have hbb := kb.1
      have HBb := hide (below_step HBr.out hbb)
      have HIb := hide (HIr.out.keep hbb)
      clear ka kb C1 C2 S0 hbb
      by_cases hft : ftS x0 x
      case neg =>
        obtain rfl : t = false := by
          cases t
          · rfl
          · exact absurd (ht.1 rfl) hft
        have HN : Hid (¬ (0 < n ∧ allS X n)) := fun h => by
          have h2 := (h.2 i hlt).2
          rw [← HXi.out, ← HX0.out] at h2
          exact hft h2
        clear hft ht
        go_wp2
        go_ret2
        exact ⟨⟨#[]⟩, 4, rfl, .inl ⟨HN.out, rfl, rfl⟩, HBb.out⟩
      case pos =>
      obtain rfl := ht.2 hft
      have HA6 : Hid (allS X (i + 1)) := fun j hj => by
        by_cases e : j < i
        · exact HAr.out j e
        · obtain rfl : j = i := by omega
          rw [← HXi.out, ← HX0.out]
          exact ⟨HOK.out, hft⟩
      clear ht hft KS
      obtain ⟨v', w', h2, hI', hg', _⟩ := (HIb.out.keep (Below.refl _ _).drew).one2 x.i x.data (by omega) (show w.heap.size ≤ wb.drew.heap.size from HBb.out.size)
      have HI5 := hide (hI'.congr (I' := fun t => (X t).i) (X' := fun t => (X t).data) (fun j hj => by
        by_cases e1 : j < i
        · rw [if_pos e1, if_pos e1]
          exact ⟨rfl, rfl⟩
        · obtain rfl : j = i := by omega
          rw [if_neg e1, if_neg e1, HXi.out]
          exact ⟨rfl, rfl⟩))
      have hbw : Below w.heap.size w w' := ((HBb.out.drew).alloc HBb.out.size (.cells #[.int .i64 x.i, .string x.data] 65)).grown hg' (by simpa using Nat.le_succ_of_le HBb.out.size) (fun k hk => (HIb.out.lt k hk).1)
      have HB5 := hide hbw
      have h2' : (Builtin.append_ #[63, 63] 63 #[u4, .slice (some ⟨wb.heap.size, 0, none⟩) 1 1]).run Tryz.prog (wb.alloc (.cells #[.int .i64 x.i, .string x.data] 65)).drew = .ok v' w' := h2
      have KT : Hid (∀ w'', Below w.heap.size w w'' → (w''.cell? ⟨bl, off + i * 6 + 2, none⟩ = some (.int .i64 x.i) ∧ w''.cell? ⟨bl, off + i * 6 + 5, none⟩ = some (.string x.data))) := fun w'' hb => ⟨(HCx.out _ hb).c2, (HCx.out _ hb).c5⟩
      have T0 := hide (KT.out _ HBb.out.drew)
      have T1 : Hid (∀ o, (wb.alloc o).drew.cell? ⟨bl, off + i * 6 + 2, none⟩ = some (.int .i64 x.i) ∧ (wb.alloc o).drew.cell? ⟨bl, off + i * 6 + 5, none⟩ = some (.string x.data)) := fun o => KT.out _ (HBb.out.alloc HBb.out.size o).drew
      have T2 := hide (KT.out _ hbw)
      clear h2 hI' hg' hbw HIr HBr HIb
      go_upto_region 9 with fail
      go_region_held_law (fun w'' => w''.cell? ⟨bl, off + i * 6 + 2, none⟩ = some (.int .i64 x.i) ∧ w''.cell? ⟨bl, off + i * 6 + 5, none⟩ = some (.string x.data)) (first | with_reducible exact T0.out | with_reducible exact T1.out _ | with_reducible exact T2.out)
        (first
          | (refine step_append_run rfl _ _ 63 63 rfl _ _ rfl rfl _ _ h2' ?_))
      clear h2' KT T0 T1 T2 HBb
      go_wp2
      exact ⟨⟨i + 1, by omega, by go_num, HI5.out, HA6.out, HB5.out⟩, by simp [RowKit.intOf]; omega⟩
    · obtain rfl : i = n := by omega
      have hok0 : okS x0 := by rw [HX0.out]; exact (HAr.out 0 h0).1
      obtain ⟨K, hK⟩ : ∃ K : Nat, x0.k = K := ⟨x0.k.toNat, by have := hok0.1; omega⟩
      obtain ⟨M, hMm⟩ : ∃ M : Nat, x0.m = M := ⟨x0.m.toNat, by have := hok0.1; omega⟩
      have hKM := hok0.1
      rw [hK, hMm] at hKM
      have HKM : Hid (1 ≤ K ∧ K + M ≤ 255 ∧ K ≤ 12) := by
        have := HK12.out
        rw [hK] at this
        show _ ∧ _ ∧ _
        omega
      have HKK := hide (And.intro hK hMm)
      have HAA : Hid (0 < i ∧ allS X i) := ⟨h0, HAr.out⟩
      have KS : Hid (∀ w', Below wr.heap.size wr w' → (Below wr.heap.size wr w' ∧ w'.cell? ⟨bl, off, none⟩ = some (.int .i64 (K : Int)) ∧ w'.cell? ⟨bl, off + 1, none⟩ = some (.int .i64 (M : Int)))) := fun w' hb => by
        have A := HC0.out _ (below_step HBr.out hb)
        exact ⟨hb, by rw [← hK]; exact A.c0, by rw [← hMm]; exact A.c1⟩
      have S0 := hide (KS.out _ (Below.refl wr.heap.size wr).drew)
      have C1 : Hid (∀ (u v : Value) (w' : World), u = .int .i64 (K : Int) → v = .int .i64 (M : Int) → Below wr.heap.size wr w' → Calls Tryz.prog 23 #[u, v] w' fun e w'' => ∃ b g, e = .returned (.tuple #[.pointer (some ⟨b, 0, none⟩), .int .i64 0]) ∧ RQ w'' b g K M ∧ (Below wr.heap.size wr w'' ∧ w''.cell? ⟨bl, off, none⟩ = some (.int .i64 (K : Int)) ∧ w''.cell? ⟨bl, off + 1, none⟩ = some (.int .i64 (M : Int)))) := fun u v w' hu hv h => by
        subst hu
        subst hv
        refine (rnew_ok HKM.out.1 HKM.out.2.1).mono ?_
        rintro e w'' ⟨b, g, he, hR, hk⟩
        exact ⟨b, g, he, hR, KS.out _ (below_step h hk)⟩
      clear hok0 hK hMm hKM
      go_upto_region 10 with fail
      go_region_held3 (fun w' => Below wr.heap.size wr w' ∧ w'.cell? ⟨bl, off, none⟩ = some (.int .i64 (K : Int)) ∧ w'.cell? ⟨bl, off + 1, none⟩ = some (.int .i64 (M : Int))) (first | assumption | exact S0.out)
        (first
          | (go_at_call 23; refine (C1.out _ _ _ (by with_reducible rfl) (by with_reducible rfl) (Below.refl wr.heap.size wr).drew).mono ?_; rintro e wa ⟨b, g, rfl, hR, ka⟩))
      have hba := ka.1
      have HBa := hide (below_step HBr.out hba)
      have HPX := hide (HIr.out.keep hba).px
      have HR := hide hR
      have c3 := (HC0.out _ HBa.out).c3
      have HJC : Hid (jnC K M x0.long (fun t => (X t).i) (fun t => (X t).data) i = gJC X i) := by
        show _ = _
        rw [gJC, ← HX0.out, HKK.out.1, HKK.out.2, Int.toNat_natCast, Int.toNat_natCast]
      have HJS : Hid (jnS K M x0.long (fun t => (X t).i) (fun t => (X t).data) i = gJS X i) := by
        show _ = _
        rw [gJS, ← HX0.out, HKK.out.1, HKK.out.2, Int.toNat_natCast, Int.toNat_natCast]
      clear ka C1 KS S0 hba hR HIr HBr
      go_wp2_with fail
      refine (rjoin_all HR.out HKM.out.1 HKM.out.2.2 HKM.out.2.1 (by omega) HPX.out HD.out x0.long).mono ?_
      rintro e w7 ⟨rfl, hb7⟩
      rw [HJC.out, HJS.out]
      have HB7 := hide (below_step HBa.out hb7)
      have hJz : (gJS X i).size ≤ 65536 := by rw [← HJS.out]; exact jnS_le _ _ _ _ _ _
      clear hb7 HBa HPX HR c3 HJC HJS HC HD
      obtain ⟨J, hJ⟩ : ∃ J, J = gJS X i := ⟨_, rfl⟩
      obtain ⟨jc, hjc⟩ : ∃ j, j = gJC X i := ⟨_, rfl⟩
      rw [← hJ] at hJz ⊢
      rw [← hjc]
      have HJ := hide hJ
      have HJc := hide hjc
      clear hJ hjc
      by_cases hz : jc = 0
      case neg =>
        have hz2 : (jc != 0) = true := by simpa using hz
        have HZ := hide hz
        clear hz
        go_wp2
        go_ret2
        exact ⟨⟨#[]⟩, jc, rfl, .inr ⟨HAA.out, .inl ⟨by rw [← HJc.out]; exact HZ.out, rfl, HJc.out⟩⟩, HB7.out⟩
      case pos =>
      subst hz
      have KS : Hid (∀ w', Below w7.heap.size w7 w' → (Below w7.heap.size w7 w' ∧ w'.cell? ⟨bl, off + 4, none⟩ = some (.string x0.id))) := fun w' hb => ⟨hb, (HC0.out _ (below_step HB7.out hb)).c4⟩
      have S0 := hide (KS.out _ (Below.refl w7.heap.size w7).drew)
      obtain ⟨D, hD⟩ : ∃ D, D = bs (Sh.digest J.data.toList) := ⟨_, rfl⟩
      have HDD := hide hD
      have CS : Hid (∀ (v : Value) (w' : World), v = .string J → (Below w7.heap.size w7 w' ∧ w'.cell? ⟨bl, off + 4, none⟩ = some (.string x0.id)) → Calls Tryz.prog 25 #[v] w' fun e w'' => e = .returned (.string D) ∧ (Below w7.heap.size w7 w'' ∧ w''.cell? ⟨bl, off + 4, none⟩ = some (.string x0.id))) := fun v w' hv h => by
        subst hv
        rw [hD]
        exact (rdigest J w' (by omega)).mono fun _ _ ⟨he, hk⟩ => ⟨he, KS.out _ (below_step h.1 hk)⟩
      clear hD
      go_upto_region 14 with fail
      go_region_held3 (fun w' => Below w7.heap.size w7 w' ∧ w'.cell? ⟨bl, off + 4, none⟩ = some (.string x0.id)) (first | assumption | exact S0.out)
        (first
          | (go_at_call 25; refine (CS.out _ _ (by with_reducible rfl) (by assumption)).mono ?_; rintro e w9 ⟨rfl, k9⟩))
      have HB9 := hide (below_step HB7.out k9.1)
      clear k9 CS KS S0 HB7
      by_cases hDi : D = x0.id
      · have t1 : (!(D.toList == x0.id.toList)) = false := by rw [hDi]; simp
        have HDI := hide hDi
        rw [t1]
        clear hDi t1
        go_wp2
        go_ret2
        exact ⟨J, 0, rfl, .inr ⟨HAA.out, .inr ⟨HJc.out.symm, .inr ⟨by rw [← HJ.out, ← HX0.out, ← HDD.out]; exact HDI.out, HJ.out, rfl⟩⟩⟩, HB9.out⟩
      · have t1 : (!(D.toList == x0.id.toList)) = true := by rw [(unlike_tests hDi).2]; rfl
        have HDI := hide hDi
        rw [t1]
        clear hDi t1
        go_wp2
        go_ret2
        exact ⟨⟨#[]⟩, 60, rfl, .inr ⟨HAA.out, .inr ⟨HJc.out.symm, .inl ⟨by rw [← HJ.out, ← HX0.out, ← HDD.out]; exact HDI.out, rfl, rfl⟩⟩⟩, HB9.out⟩
end Go.Proofs.YtklaeocnimkboaaGreatDoor

