/-
  PortLists: the walk.
-/
import Derived.Test.YtepmhgkegfpmjaaPrKit
namespace Go.Proofs.Ytepmhgkegfpmjaa
open Go.RowKit Go.Lib Go.Maps

theorem Try.sizeA : (Try.prog.info? 45).map (·.size) = some 3 := by kernel_rfl
def aR (X : List (RR × Value)) (i : Nat) : RR := match X[i % X.length]? with | some x => x.1 | none => ⟨0, ⟨#[]⟩, []⟩
def aRs (X : List (RR × Value)) (j : Nat) : List RR := (List.range j).map (aR X)
theorem aRs_len (X : List (RR × Value)) (j : Nat) : (aRs X j).length = j := by simp [aRs]
theorem aRs_succ (X : List (RR × Value)) (j : Nat) : aRs X (j + 1) = aRs X j ++ [aR X j] := by simp [aRs, List.range_succ]
theorem aR_names {X : List (RR × Value)} {K : Nat} (h : ∀ x ∈ X, x.1.l.length ≤ K) (i : Nat) : (aR X i).l.length ≤ K := by
  rw [aR]
  split
  · rename_i x hx; exact h x (List.mem_of_getElem? hx)
  · simp
theorem aRs_names {X : List (RR × Value)} {K : Nat} (h : ∀ x ∈ X, x.1.l.length ≤ K) : ∀ j, (resI (aRs X j)).length ≤ j * K
  | 0 => by simp [aRs, resI]
  | j + 1 => by
    have h1 := aRs_names h j
    have h2 := aR_names h j
    rw [aRs_succ, resI_snoc, List.length_append, Nat.add_mul, Nat.one_mul]
    omega
structure PV (w0 wr : World) (l : List QT) (X : List (RR × Value)) (jb kb : Nat) (v : Value) (Pj Pk : Nat → Prop) (j : Nat) : Prop where
  jl : JL Pj wr jb l (aRs X j)
  kl : KL Pk wr kb v (aRs X j)
  pj : ∀ i, Pj i → ¬ Pk i ∧ i ≠ kb ∧ w0.heap.size ≤ i
  be : Below w0.heap.size w0 wr
  kw : w0.heap.size ≤ kb
  pk : ∀ i, Pk i → i < wr.heap.size
section
variable {w0 wr w1 w2 w' : World} {l : List QT} {X : List (RR × Value)} {jb kb j : Nat} {v : Value} {Pj Pj' Pk : Nat → Prop}
theorem PV.bel (h : PV w0 wr l X jb kb v Pj Pk j) (hb : Below wr.heap.size wr w') : PV w0 w' l X jb kb v Pj Pk j :=
  ⟨h.jl.bel hb, h.kl.bel hb, h.pj, h.be.trans (hb.mono h.be.size), h.kw, fun i hi => Nat.lt_of_lt_of_le (h.pk i hi) hb.size⟩
theorem putAll_size : ∀ (vs : List Value) (o : Nat) (cs : Array Value), (putAll cs o vs).size = cs.size
  | [], _, _ => rfl
  | v :: r, o, cs => by rw [putAll, putAll_size r]; simp
theorem PV.spoil {g : Nat} (h : PV w0 wr l X jb kb v Pj (fun _ => False) j) (hg : Gs (fun i => i = g) wr w') (h1 : ¬ Pj g) (h2 : g ≠ kb) (h3 : w0.heap.size ≤ g) : PV w0 w' l X jb kb v Pj (fun _ => False) j :=
  ⟨h.jl.gs hg (fun i hi e => h1 (e ▸ hi)), h.kl.gs hg (fun e => h2 e.symm) (fun i hi => hi.elim), h.pj, hg.below h.be h.be.size (fun i e => by rw [e]; exact h3), h.kw, fun i hi => hi.elim⟩
/-- An answer was given to both. -/
theorem PV.step (h : PV w0 wr l X jb kb v Pj Pk j) (hJ : JL Pj' w1 jb l (aRs X j ++ [aR X j])) (hG1 : Gs Pj wr w1) (hP : ∀ i, Pj' i → Pj i ∨ wr.heap.size ≤ i) (hG2 : Gs (fun i => i = kb) w1 w2) (hK : KL (fun i => w1.heap.size ≤ i ∧ i < w2.heap.size) w2 kb v (aRs X j ++ [aR X j])) :
    PV w0 w2 l X jb kb v Pj' (fun i => w1.heap.size ≤ i ∧ i < w2.heap.size) (j + 1) := by
  have hs := h.be.size
  have hs1 := hG1.size
  have hkl := h.kl.lt
  have hjl := hJ.2.1
  have hne : ∀ i, Pj' i → i ≠ kb := fun i hi e => by
    rcases hP i hi with h' | h'
    · exact (h.pj i h').2.1 e
    · omega
  refine ⟨?_, ?_, fun i hi => ⟨fun e => ?_, hne i hi, ?_⟩, ?_, h.kw, fun i hi => hi.2⟩
  · rw [aRs_succ]; exact hJ.gs hG2 fun i hi e => hne i hi e
  · rw [aRs_succ]; exact hK
  · have := hjl i hi; omega
  · rcases hP i hi with h' | h'
    · exact (h.pj i h').2.2
    · omega
  · exact hG2.below (hG1.below h.be hs fun i hi => (h.pj i hi).2.2) (by omega) fun i e => by rw [e]; exact h.kw
end
section
variable {w : World} {v av : Value} {l : List QT} {X : List (RR × Value)} {r : Nat → Prop}
set_option maxRecDepth 100000 in
set_option maxHeartbeats 6400000 in
theorem lists_walk (hl : LS q4 4 r w v l) (hn : l.length ≤ 9223372036854775807) (hX : LS x3 3 r w av X) (hXn : X.length ≤ 9223372036854775807) (hN : ∀ x ∈ X, LS t1 1 r w x.2 x.1.l) (hK : ∀ x ∈ X, x.1.l.length ≤ 2000000) :
    Calls Try.prog 3 #[v, av] w fun e w' => e = .returned (.bool true) ∧ Below w.heap.size w w' := by
  have HSM := hide (small_any hl hn)
  have HL := hide hl
  have HX := hide hX
  have HN := hide hN
  have HKK := hide hK
  obtain ⟨va, vc, hv⟩ := hl.shp
  obtain ⟨aa, ac, hav⟩ := hX.shp
  subst hv
  subst hav
  clear hl hX hN hK
  go_enter Try.func3, Try.ntmps3
  go_wp2_with fail
  refine HSM.out.mono ?_
  rintro e w0 ⟨t, rfl, ht, rfl⟩
  cases t with
  | false =>
    have HW := hide (works_port w0)
    go_wp2_with fail
    refine HW.out.mono ?_
    rintro e w1 ⟨rfl, hB⟩
    have HB := hide hB
    clear hB
    go_wp2
    go_ret
    exact ⟨rfl, HB.out⟩
  | true =>
    have h60 := ht rfl
    have HW := hide (works_port w0)
    go_wp2_with fail
    refine HW.out.mono ?_
    rintro e w1 ⟨rfl, hB1⟩
    have HB1 := hide hB1
    clear hB1 ht
    obtain ⟨oc, cc, w3, hr3, hO3, hB3⟩ := copyQ (HL.out.bel HB1.out) (by omega)
    have HLI := hide (list_any (hO3.ls (r := fun _ => True) q4_len fun _ _ => trivial) (by omega))
    have HF2 := hide (And.intro hO3 hB3)
    clear hO3 hB3
    go_wp2_with (at_builtin; refine Lib.wpList_append_run _ rfl _ _ _ _ rfl _ _ rfl rfl _ _ hr3 ?_)
    refine HLI.out.mono ?_
    rintro e w4 ⟨jb, Pj, rfl, hJ4, hB4, hP4⟩
    obtain ⟨hO3, hB3⟩ := HF2.out
    have hB1 := HB1.out
    have hs1 := hB1.size
    have hs3 := hB3.size
    have hs4 := hB4.size
    obtain ⟨kb, hkb⟩ : ∃ kb, kb = w4.heap.size := ⟨_, rfl⟩
    obtain ⟨W5, hW5⟩ : ∃ W5, W5 = w4.alloc (.cells #[.slice va l.length vc, .int .i64 0, .int .i64 0, .string ⟨#[]⟩, .int .i64 0, .slice none 0 0, .slice none 0 0, .slice none 0 0, .slice none 0 0] 36) := ⟨_, rfl⟩
    have hB5 : Below w4.heap.size w4 W5 := by rw [hW5]; exact (Below.refl _ _).alloc (Nat.le_refl _) _
    have hK5 : KB W5 kb (.slice va l.length vc) 0 0 0 (.slice none 0 0) (.slice none 0 0) := by rw [hW5, hkb]; exact heap_alloc_new w4 _
    have hJ5 := hJ4.bel hB5
    have hJl := hJ4.2.1
    have hBw : Below w0.heap.size w0 W5 := ((hB1.trans (hB3.mono hs1)).trans (hB4.mono (by omega))).trans (hB5.mono (by omega))
    have HV5 : Hid (PV w0 W5 l X jb kb (.slice va l.length vc) Pj (fun _ => False) 0) := by
      refine ⟨hJ5, ⟨_, _, hK5, ⟨_, _, rfl, fun _ => rfl, .inl rfl⟩, ⟨_, _, rfl, fun _ => rfl, .inl rfl⟩, fun h => h⟩, fun i hi => ⟨fun h => h, ?_, ?_⟩, hBw, by omega, fun i hi => hi.elim⟩
      · have := hJl i hi; omega
      · have := hP4 i hi; omega
    have hO5 := (hO3.keep hB4).keep hB5
    have hOl := hO3.lt
    have HO5 : Hid (∀ i, (Value.slice oc l.length cc).ownBlock = some i → ¬ Pj i ∧ i ≠ kb ∧ w0.heap.size ≤ i) := fun i hi => by
      have h1 := hOl i hi
      refine ⟨fun h => ?_, by omega, by omega⟩
      have := hP4 i h; omega
    have HOO : Hid (l.length = 0 ∨ ∃ g cs, oc = some ⟨g, 0, none⟩ ∧ W5.heap[g]? = some (.cells cs 38 (0, 0)) ∧ l.length * 4 ≤ cs.size ∧ ¬ Pj g ∧ g ≠ kb ∧ w0.heap.size ≤ g) := by
      obtain ⟨_, ⟨_, h2⟩ | ⟨g, cap, cur, e, hBg, hg, hnc, _, hcs, _⟩⟩ := hO5.own
      · exact .inl h2
      · cases e
        have h9 := HO5.out g rfl
        exact .inr ⟨g, cur, rfl, hg, by rw [hcs]; exact Nat.mul_le_mul_right 4 hnc, h9⟩
    have HW5 := hide hW5
    have Hkb := hide hkb
    clear hO3 hB3 hB1 hs1 hs3 hs4 hkb hW5 hB5 hK5 hJ5 hJl hBw hJ4 hB4 hP4 hO5 hOl
    go_upto_block 0 with fail
    rw [← HW5.out, ← Hkb.out]
    go_cut [8] (fun _ wx => PV w0 wx l X jb kb (.slice va l.length vc) Pj (fun _ => False) 0)
    case first =>
      go_wp2
      go_loopw [8] (fun i wr => ∃ j : Nat, j ≤ l.length ∧ i = .int .i64 j ∧ PV w0 wr l X jb kb (.slice va l.length vc) Pj (fun _ => False) 0 ∧ (l.length = 0 ∨ ∃ g cs, oc = some ⟨g, 0, none⟩ ∧ wr.heap[g]? = some (.cells cs 38 (0, 0)) ∧ l.length * 4 ≤ cs.size ∧ ¬ Pj g ∧ g ≠ kb ∧ w0.heap.size ≤ g)) (fun i _ => l.length - (intOf i).toNat)
      case atStart => exact ⟨0, Nat.zero_le _, rfl, HV5.out, HOO.out⟩
      case round =>
        clear HOO HV5
        obtain ⟨j, hj, rfl, hI, hO⟩ := hrel
        by_cases hlt : j < l.length
        · have b1 : (j : Int) < ((l.length : Nat) : Int) := by omega
          have b0 : (0 : Int) ≤ (j : Int) := by omega
          obtain ⟨g, cs, rfl, hblk, hcs, h1, h2, h3⟩ := hO.resolve_left (by omega)
          have hrun := store_run (t := 38) (o := j * 4) hblk #[.int .i64 0, .int .i64 0, .string ⟨#[115, 112, 111, 105, 108, 116]⟩, .string ⟨#[]⟩] (by simp; omega) Try.sizeQ (by simp [Value.oneCell'])
          obtain ⟨Y, hY⟩ : ∃ Y, Y = wr.setCells g (j * 4) [.int .i64 0, .int .i64 0, .string ⟨#[115, 112, 111, 105, 108, 116]⟩, .string ⟨#[]⟩] := ⟨_, rfl⟩
          simp only [] at hrun
          rw [← hY] at hrun
          have hG : Gs (fun i => i = g) wr Y := by rw [hY]; exact Gs.cells _ _ _ (Gs.refl _ _) (.inl rfl)
          have HE : Hid (PV w0 Y l X jb kb (.slice va l.length vc) Pj (fun _ => False) 0 ∧ (l.length = 0 ∨ ∃ g' cs, some (⟨g, 0, none⟩ : Addr) = some ⟨g', 0, none⟩ ∧ Y.heap[g']? = some (.cells cs 38 (0, 0)) ∧ l.length * 4 ≤ cs.size ∧ ¬ Pj g' ∧ g' ≠ kb ∧ w0.heap.size ≤ g')) := by
            refine ⟨hI.spoil hG h1 h2 h3, .inr ⟨g, putAll cs (j * 4) [.int .i64 0, .int .i64 0, .string ⟨#[115, 112, 111, 105, 108, 116]⟩, .string ⟨#[]⟩], rfl, ?_, ?_, h1, h2, h3⟩⟩
            · rw [hY]; exact setCells_self _ _ _ _ hblk
            · rw [putAll_size]; exact hcs
          clear hI hO hblk hcs h1 h2 h3 hG hY
          go_wp2_with (refine wpList_store_run rfl 38 _ _ rfl _ _ rfl rfl hrun ?_)
          exact ⟨⟨j + 1, by omega, by go_num, HE.out⟩, by simp [intOf]; omega⟩
        · obtain rfl : j = l.length := by omega
          have HE := hide hI
          clear hI hO
          go_wp2
          go_meet
          case rel => exact HE.out
    case rest =>
      clear HOO HV5 HO5
      obtain ⟨W6, hW6⟩ : ∃ W6, W6 = wc := ⟨_, rfl⟩
      rw [← hW6] at hcut ⊢
      have HV6 := hide hcut
      clear hcut hW6
      go_wp2
      go_loopw [9] (fun i wr => ∃ (j : Nat) (Pj Pk : Nat → Prop), j ≤ l.length ∧ i = .int .i64 j ∧ PV w0 wr l X jb kb (.slice va l.length vc) Pj Pk j) (fun i _ => l.length - (intOf i).toNat)
      case atStart => exact ⟨0, _, _, Nat.zero_le _, rfl, HV6.out⟩
      case round =>
        clear HV6
        obtain ⟨j, Pj2, Pk, hj, rfl, hI⟩ := hrel
        have HI := hide hI
        clear hI
        by_cases hlt : j < l.length
        · have b1 : (j : Int) < ((l.length : Nat) : Int) := by omega
          have b0 : (0 : Int) ≤ (j : Int) := by omega
          obtain ⟨q, hq⟩ : ∃ q, l[j]? = some q := ⟨_, List.getElem?_eq_getElem hlt⟩
          have HNx := hide (next_list_on HI.out.jl (by rw [aRs_len]; exact hq))
          obtain ⟨ga, ca, ea, _, hG⟩ := HL.out.bel HI.out.be
          cases ea
          obtain ⟨g, o, rfl, _, hg, hG⟩ := hG.resolve_left (by intro e; rw [e] at hq; simp at hq)
          have HC : Hid (g < wr.heap.size ∧ wr.cell? ⟨g, o + j * 4, none⟩ = some (.int .i64 q.st) ∧ wr.cell? ⟨g, o + j * 4 + 1, none⟩ = some (.int .i64 q.k) ∧ wr.cell? ⟨g, o + j * 4 + 2, none⟩ = some (.string q.n) ∧ wr.cell? ⟨g, o + j * 4 + 3, none⟩ = some (.string q.d)) := ⟨hg, hG j q hq 0 _ rfl, hG j q hq 1 _ rfl, hG j q hq 2 _ rfl, hG j q hq 3 _ rfl⟩
          clear hG hq hg
          obtain ⟨qs, qk, qn, qd⟩ := q
          dsimp only at HNx HC
          go_wp2_with fail
          refine HNx.out.mono ?_
          rintro e w7 ⟨rfl, hB7⟩
          obtain ⟨W8, hW8⟩ : ∃ W8, W8 = w7.alloc (.cells #[.int .i64 qs, .int .i64 qk, .string qn, .string qd] 38) := ⟨_, rfl⟩
          obtain ⟨n8, hn8⟩ : ∃ n8, n8 = w7.heap.size := ⟨_, rfl⟩
          have hB8 : Below w7.heap.size w7 W8 := by rw [hW8]; exact (Below.refl _ _).alloc (Nat.le_refl _) _
          have hI8 := (HI.out.bel hB7).bel hB8
          have hB78 : Below wr.heap.size wr W8 := hB7.trans (hB8.mono hB7.size)
          have hblk8 : W8.heap[n8]? = some (.cells #[.int .i64 qs, .int .i64 qk, .string qn, .string qd] 38 (0, 0)) := by rw [hW8, hn8]; exact heap_alloc_new w7 _
          obtain ⟨hg, c0, c1, c2, c3⟩ := HC.out
          have hSS : ∀ w', Below W8.heap.size W8 w' → (w'.cell? ⟨n8, 0, none⟩ = some (.int .i64 qs) ∧ w'.cell? ⟨n8, 1, none⟩ = some (.int .i64 qk) ∧ w'.cell? ⟨n8, 2, none⟩ = some (.string qn) ∧ w'.cell? ⟨n8, 3, none⟩ = some (.string qd) ∧ w'.cell? ⟨g, o + j * 4, none⟩ = some (.int .i64 qs) ∧ w'.cell? ⟨g, o + j * 4 + 1, none⟩ = some (.int .i64 qk) ∧ w'.cell? ⟨g, o + j * 4 + 2, none⟩ = some (.string qn) ∧ w'.cell? ⟨g, o + j * 4 + 3, none⟩ = some (.string qd)) ∧ PV w0 w' l X jb kb (.slice (some ⟨g, o, none⟩) l.length vc) Pj2 Pk j ∧ Below W8.heap.size W8 w' := fun w' hb => by
            have hbw : Below wr.heap.size wr w' := hB78.trans (hb.mono hB78.size)
            have hk := (hb.block n8 (lt_of_block hblk8)).trans hblk8
            exact ⟨⟨by simp [World.cell?, hk], by simp [World.cell?, hk], by simp [World.cell?, hk], by simp [World.cell?, hk], (hbw.cell (p := ⟨g, o + j * 4, none⟩) hg).trans c0, (hbw.cell (p := ⟨g, o + j * 4 + 1, none⟩) hg).trans c1, (hbw.cell (p := ⟨g, o + j * 4 + 2, none⟩) hg).trans c2, (hbw.cell (p := ⟨g, o + j * 4 + 3, none⟩) hg).trans c3⟩, hI8.bel hb, hb⟩
          have HSS := hide hSS
          have HW8 := hide hW8
          have Hn8 := hide hn8
          clear hB7 hW8 hn8 hB8 hI8 hB78 hblk8 hg c0 c1 c2 c3 hSS
          go_upto_region 16 with fail
          rw [← HW8.out, ← Hn8.out]
          have hRl : (RI l (aRs X j)).length ≤ 1000000000 ∧ (RT l (aRs X j)).length ≤ 1000000000 ∧ (resI (aRs X j)).length ≤ 1000000000 := by
            have h1 := RI_le l (aRs X j)
            have h2 := RT_le l (aRs X j)
            have h3 := aRs_names HKK.out j
            have h4 : j * 2000000 ≤ 60 * 2000000 := Nat.mul_le_mul_right _ (by omega)
            rw [aRs_len] at h2
            omega
          have HOv : Hid (∀ Wx, Below W8.heap.size W8 Wx → Calls Try.prog 11 #[.pointer (some ⟨jb, 0, none⟩)] Wx fun e w' => e = .returned (.bool false) ∧ w' = Wx) := fun Wx hb => by
            have h1 := over_list (HSS.out Wx hb).2.1.jl
            rw [aRs_len, decide_eq_true hlt] at h1
            exact h1
          have HSt : Hid (∀ Wx, Below W8.heap.size W8 Wx → Calls Try.prog 12 #[.pointer (some ⟨jb, 0, none⟩)] Wx fun e w' => e = .returned (.int .i64 (j : Int)) ∧ w' = Wx) := fun Wx hb => by
            have h1 := steps_list (HSS.out Wx hb).2.1.jl
            rw [aRs_len] at h1
            exact h1
          have HRj : Hid (∀ Wx, Below W8.heap.size W8 Wx → Calls Try.prog 14 #[.pointer (some ⟨jb, 0, none⟩)] Wx fun e w' => ∃ i t, e = .returned (.agg #[.int .i64 (RC l (aRs X j)), .string ⟨#[]⟩, .int .i64 ((RN l (aRs X j) : Nat) : Int), i, t, .slice none 0 0, .slice none 0 0]) ∧ TR w' i (RI l (aRs X j)) ∧ TR w' t (RT l (aRs X j)) ∧ Below Wx.heap.size Wx w' ∧ Below W8.heap.size W8 w' ∧ w'.cell? ⟨n8, 0, none⟩ = some (.int .i64 qs) ∧ w'.cell? ⟨n8, 1, none⟩ = some (.int .i64 qk) ∧ w'.cell? ⟨n8, 2, none⟩ = some (.string qn) ∧ w'.cell? ⟨n8, 3, none⟩ = some (.string qd) ∧ w'.cell? ⟨g, o + j * 4, none⟩ = some (.int .i64 qs) ∧ w'.cell? ⟨g, o + j * 4 + 1, none⟩ = some (.int .i64 qk) ∧ w'.cell? ⟨g, o + j * 4 + 2, none⟩ = some (.string qn) ∧ w'.cell? ⟨g, o + j * 4 + 3, none⟩ = some (.string qd)) := fun Wx hb => by
            refine (result_list (HSS.out Wx hb).2.1.jl (by omega) (by omega)).mono ?_
            rintro e w' ⟨i, t, rfl, h1, h2, h3⟩
            have h4 : Below W8.heap.size W8 w' := hb.trans (h3.mono hb.size)
            exact ⟨i, t, rfl, h1.tr, h2.tr, h3, h4, (HSS.out w' h4).1⟩
          have HRk : Hid (∀ Wx, Below W8.heap.size W8 Wx → Calls Try.prog 15 #[.pointer (some ⟨kb, 0, none⟩)] Wx fun e w' => ∃ i t, e = .returned (.agg #[.int .i64 (RC l (aRs X j)), .string ⟨#[]⟩, .int .i64 ((RN l (aRs X j) : Nat) : Int), i, t, .slice none 0 0, .slice none 0 0]) ∧ TR w' i (RI l (aRs X j)) ∧ TR w' t (RT l (aRs X j)) ∧ Below Wx.heap.size Wx w' ∧ Below W8.heap.size W8 w' ∧ w'.cell? ⟨n8, 0, none⟩ = some (.int .i64 qs) ∧ w'.cell? ⟨n8, 1, none⟩ = some (.int .i64 qk) ∧ w'.cell? ⟨n8, 2, none⟩ = some (.string qn) ∧ w'.cell? ⟨n8, 3, none⟩ = some (.string qd) ∧ w'.cell? ⟨g, o + j * 4, none⟩ = some (.int .i64 qs) ∧ w'.cell? ⟨g, o + j * 4 + 1, none⟩ = some (.int .i64 qk) ∧ w'.cell? ⟨g, o + j * 4 + 2, none⟩ = some (.string qn) ∧ w'.cell? ⟨g, o + j * 4 + 3, none⟩ = some (.string qd)) := fun Wx hb => by
            refine (kl_res (HSS.out Wx hb).2.1.kl (by rw [aRs_len]; omega)).mono ?_
            rintro e w' ⟨i, t, rfl, h1, h2, h3⟩
            have h4 : Below W8.heap.size W8 w' := hb.trans (h3.mono hb.size)
            exact ⟨i, t, rfl, h1, h2, h3, h4, (HSS.out w' h4).1⟩
          have HSm : Hid (∀ Wx i1 t1 i2 t2, TR Wx i1 (RI l (aRs X j)) → TR Wx t1 (RT l (aRs X j)) → TR Wx i2 (RI l (aRs X j)) → TR Wx t2 (RT l (aRs X j)) → Below W8.heap.size W8 Wx → Calls Try.prog 13 #[.agg #[.int .i64 (RC l (aRs X j)), .string ⟨#[]⟩, .int .i64 ((RN l (aRs X j) : Nat) : Int), i1, t1, .slice none 0 0, .slice none 0 0], .agg #[.int .i64 (RC l (aRs X j)), .string ⟨#[]⟩, .int .i64 ((RN l (aRs X j) : Nat) : Int), i2, t2, .slice none 0 0, .slice none 0 0]] Wx fun e w' => e = .returned (.bool true) ∧ Below W8.heap.size W8 w' ∧ w'.cell? ⟨n8, 0, none⟩ = some (.int .i64 qs) ∧ w'.cell? ⟨n8, 1, none⟩ = some (.int .i64 qk) ∧ w'.cell? ⟨n8, 2, none⟩ = some (.string qn) ∧ w'.cell? ⟨n8, 3, none⟩ = some (.string qd) ∧ w'.cell? ⟨g, o + j * 4, none⟩ = some (.int .i64 qs) ∧ w'.cell? ⟨g, o + j * 4 + 1, none⟩ = some (.int .i64 qk) ∧ w'.cell? ⟨g, o + j * 4 + 2, none⟩ = some (.string qn) ∧ w'.cell? ⟨g, o + j * 4 + 3, none⟩ = some (.string qd)) := fun Wx i1 t1 i2 t2 h1 h2 h3 h4 hb => by
            refine (same_res h1 h2 h3 h4 hRl.1 hRl.2.1).mono ?_
            rintro e w' ⟨rfl, h5⟩
            have h6 : Below W8.heap.size W8 w' := hb.trans (h5.mono hb.size)
            exact ⟨rfl, h6, (HSS.out w' h6).1⟩
          have hB0 : Below W8.heap.size W8 W8.drew := (Below.refl _ _).drew
          obtain ⟨k0, k1, k2, k3, k4, k5, k6, k7⟩ := (HSS.out W8.drew hB0).1
          clear hRl
          obtain ⟨rC, hrC⟩ : ∃ rC, rC = RC l (aRs X j) := ⟨_, rfl⟩
          obtain ⟨rN, hrN⟩ : ∃ rN, rN = ((RN l (aRs X j) : Nat) : Int) := ⟨_, rfl⟩
          rw [← hrC, ← hrN] at HRj HRk HSm
          clear hrC hrN
          go_region_held3 (fun w' => w'.cell? ⟨n8, 0, none⟩ = some (.int .i64 qs) ∧ w'.cell? ⟨n8, 1, none⟩ = some (.int .i64 qk) ∧ w'.cell? ⟨n8, 2, none⟩ = some (.string qn) ∧ w'.cell? ⟨n8, 3, none⟩ = some (.string qd) ∧ w'.cell? ⟨g, o + j * 4, none⟩ = some (.int .i64 qs) ∧ w'.cell? ⟨g, o + j * 4 + 1, none⟩ = some (.int .i64 qk) ∧ w'.cell? ⟨g, o + j * 4 + 2, none⟩ = some (.string qn) ∧ w'.cell? ⟨g, o + j * 4 + 3, none⟩ = some (.string qd)) (first | assumption | exact ⟨by assumption, by assumption, by assumption, by assumption, by assumption, by assumption, by assumption, by assumption⟩)
            (first | (go_at_call 11; refine (HOv.out _ (by assumption)).mono ?_; rintro e wa ⟨rfl, rfl⟩) | (go_at_call 12; refine (HSt.out _ (by assumption)).mono ?_; rintro e wa ⟨rfl, rfl⟩) | (go_at_call 14; refine (HRj.out _ (by assumption)).mono ?_; rintro e wj ⟨ij, tj, rfl, hIj, hTj, hXj, hBj, p0, p1, p2, p3, p4, p5, p6, p7⟩) | (go_at_call 15; refine (HRk.out _ (by assumption)).mono ?_; rintro e wk ⟨ik, tk, rfl, hIk, hTk, hXk, hBk, p0, p1, p2, p3, p4, p5, p6, p7⟩) | (go_at_call 13; refine (HSm.out _ _ _ _ _ (by first | exact hIj | exact hIj.bel hXk) (by first | exact hTj | exact hTj.bel hXk) (by first | exact hIk | exact hIk.bel hXj) (by first | exact hTk | exact hTk.bel hXj) (by assumption)).mono ?_; rintro e ws ⟨rfl, hBs, p0, p1, p2, p3, p4, p5, p6, p7⟩))
          have HP := hide (HSS.out ws hBs).2.1
          clear p0 p1 p2 p3 p4 p5 p6 p7 k0 k1 k2 k3 k4 k5 k6 k7 hIj hTj hXj hBj hIk hTk hXk hBk hBs hB0
          clear HOv HSt HRj HRk HSm HSS HC HNx HW8 Hn8
          obtain ⟨cA, dA, lA, hA⟩ : ∃ cA dA lA, aR X j = ⟨cA, dA, lA⟩ := ⟨_, _, _, rfl⟩
          have hlA : lA.length ≤ 2000000 := by have := aR_names HKK.out j; rw [hA] at this; exact this
          obtain ⟨n9, hn9⟩ : ∃ n9, n9 = ws.heap.size := ⟨_, rfl⟩
          obtain ⟨Z9, hZ9⟩ : ∃ Z9, Z9 = ws.alloc (.cells #[.int .i64 0, .string ⟨#[]⟩, .slice none 0 0] 45) := ⟨_, rfl⟩
          have hB9 : Below ws.heap.size ws Z9 := by rw [hZ9]; exact (Below.refl _ _).alloc (Nat.le_refl _) _
          have hblk9 : Z9.heap[n9]? = some (.cells #[.int .i64 0, .string ⟨#[]⟩, .slice none 0 0] 45 (0, 0)) := by rw [hZ9, hn9]; exact heap_alloc_new ws _
          have hP9 := HP.out.bel hB9
          have hjl9 := HP.out.jl.2.1
          have hkl9 := HP.out.kl.lt
          have hw09 := HP.out.be.size
          have hkk := HP.out.kl
          have HPK : Hid (∀ i, Pk i → i < n9) := fun i hi => by have := HP.out.pk i hi; omega
          clear hkk
          have HF9 : Hid (w0.heap.size ≤ n9 ∧ (∀ i, Pj2 i → i ≠ n9) ∧ n9 ≠ kb) := ⟨by omega, fun i hi e => by have := hjl9 i hi; omega, by omega⟩
          have HZ9 := hide hZ9
          have Hn9 := hide hn9
          have HA := hide hA
          have HB9 := hide (And.intro hblk9 hP9)
          clear hB9 hblk9 hP9 hjl9 hkl9 hw09 hZ9 hn9 hA
          go_upto_if 86 with fail
          rw [← HZ9.out, ← Hn9.out]
          go_cut [93] (fun _ wx => ∃ u, wx.heap[n9]? = some (.cells #[.int .i64 cA, .string dA, u] 45 (0, 0)) ∧ LS t1 1 (fun i => r i ∧ i < w0.heap.size) wx u lA ∧ PV w0 wx l X jb kb (.slice (some ⟨g, o, none⟩) l.length vc) Pj2 Pk j ∧ n9 < wx.heap.size ∧ w0.heap.size ≤ n9 ∧ (∀ i, Pj2 i → i ≠ n9) ∧ n9 ≠ kb)
          case first =>
            rcases Nat.eq_zero_or_pos X.length with hX0 | hX0
            · have hXn0 : ¬ (0 : Int) < ((X.length : Nat) : Int) := by omega
              have HE : Hid (let wx := Z9; ∃ u, wx.heap[n9]? = some (.cells #[.int .i64 cA, .string dA, u] 45 (0, 0)) ∧ LS t1 1 (fun i => r i ∧ i < w0.heap.size) wx u lA ∧ PV w0 wx l X jb kb (.slice (some ⟨g, o, none⟩) l.length vc) Pj2 Pk j ∧ n9 < wx.heap.size ∧ w0.heap.size ≤ n9 ∧ (∀ i, Pj2 i → i ≠ n9) ∧ n9 ≠ kb) := by
                have hAA := HA.out
                have hXe := List.length_eq_zero_iff.1 hX0
                rw [aR, hXe] at hAA
                simp at hAA
                obtain ⟨h1, h2, h3⟩ := hAA
                subst h1 h2 h3
                exact ⟨_, HB9.out.1, ⟨_, _, rfl, fun _ => rfl, .inl rfl⟩, HB9.out.2, lt_of_block HB9.out.1, HF9.out⟩
              clear hX0
              go_wp2
              go_meet
              case rel => exact HE.out
            · have hXp : (0 : Int) < ((X.length : Nat) : Int) := by omega
              obtain ⟨jm, hjm⟩ : ∃ jm, jm = j % X.length := ⟨_, rfl⟩
              have hjml : jm < X.length := by rw [hjm]; exact Nat.mod_lt _ hX0
              obtain ⟨x, hx⟩ : ∃ x, X[jm]? = some x := ⟨_, List.getElem?_eq_getElem hjml⟩
              have hAA := HA.out
              rw [aR, ← hjm, hx] at hAA
              dsimp only at hAA
              obtain ⟨xr, u⟩ := x
              dsimp only at hAA
              subst hAA
              have hmod : ((j : Int)).tmod ((X.length : Nat) : Int) = ((jm : Nat) : Int) := by rw [hjm]; exact (Int.ofNat_tmod j X.length).symm
              obtain ⟨gx, cx, ex, _, hGx⟩ := HX.out.bel HB9.out.2.be
              cases ex
              obtain ⟨g3, o3, rfl, _, hg3, hGx⟩ := hGx.resolve_left (by intro e; rw [e] at hx; simp at hx)
              have z0 := hGx jm _ hx 0 _ rfl
              have z1 := hGx jm _ hx 1 _ rfl
              have z2 := hGx jm _ hx 2 _ rfl
              rw [Nat.add_zero] at z0
              dsimp only at z0 z1 z2
              have hLu := (HN.out _ (List.mem_of_getElem? hx)).old
              dsimp only at hLu
              obtain ⟨ua, uc, hu⟩ := hLu.shp
              subst hu
              have hrun := store_run (t := 45) (o := 0) HB9.out.1 #[.int .i64 cA, .string dA, .slice ua lA.length uc] (Nat.le_of_ble_eq_true rfl) Try.sizeA (by simp [Value.oneCell'])
              obtain ⟨Y, hY⟩ : ∃ Y, Y = Z9.setCells n9 0 [.int .i64 cA, .string dA, .slice ua lA.length uc] := ⟨_, rfl⟩
              simp only [] at hrun
              rw [← hY] at hrun
              have hG : Gs (fun i => i = n9) Z9 Y := by rw [hY]; exact Gs.cells _ _ _ (Gs.refl _ _) (.inl rfl)
              have HE : Hid (let wx := Y; ∃ u, wx.heap[n9]? = some (.cells #[.int .i64 cA, .string dA, u] 45 (0, 0)) ∧ LS t1 1 (fun i => r i ∧ i < w0.heap.size) wx u lA ∧ PV w0 wx l X jb kb (.slice (some ⟨g, o, none⟩) l.length vc) Pj2 Pk j ∧ n9 < wx.heap.size ∧ w0.heap.size ≤ n9 ∧ (∀ i, Pj2 i → i ≠ n9) ∧ n9 ≠ kb) := by
                obtain ⟨h1, h2, h3⟩ := HF9.out
                have hb : Below w0.heap.size w0 Y := hG.below HB9.out.2.be HB9.out.2.be.size (fun i e => by rw [e]; exact h1)
                refine ⟨.slice ua lA.length uc, ?_, hLu.kb hb.size (fun i hi _ => hb.block i hi.2), ?_, ?_, h1, h2, h3⟩
                · have h9 := setCells_self [.int .i64 cA, .string dA, .slice ua lA.length uc] 0 Z9 _ HB9.out.1
                  rw [← hY] at h9
                  simpa [putAll] using h9
                · obtain ⟨_, _, hKB, _⟩ := HB9.out.2.kl
                  refine ⟨HB9.out.2.jl.gs hG (fun i hi e => h2 i hi e), HB9.out.2.kl.gs hG (fun e => h3 e.symm) (fun i hi e => ?_), HB9.out.2.pj, hb, HB9.out.2.kw, fun i hi => by have := HPK.out i hi; have := hG.size; have := lt_of_block HB9.out.1; omega⟩
                  have := HPK.out i hi
                  omega
                · have := hG.size; have := lt_of_block HB9.out.1; omega
              have b2 : (0 : Int) ≤ (jm : Int) := by omega
              have b3 : (jm : Int) < ((X.length : Nat) : Int) := by omega
              have b4 : ¬ ((X.length : Nat) : Int) = 0 := by omega
              generalize lA.length = lnA at *
              clear hGx hx hLu hY hG hjm
              go_wp2_with (refine wpList_store_run rfl 45 _ _ rfl _ _ rfl rfl hrun ?_)
              go_meet
              case rel => exact HE.out
          case rest =>
            obtain ⟨u, hblk, hLu, hP, hn9l, h1, h2, h3⟩ := hcut
            obtain ⟨W10, hW10⟩ : ∃ W10, W10 = wc := ⟨_, rfl⟩
            rw [← hW10] at hblk hLu hP hn9l ⊢
            obtain ⟨ua, uc, hu⟩ := hLu.shp
            subst hu
            have k0 : W10.cell? ⟨n9, 0, none⟩ = some (.int .i64 cA) := by simp [World.cell?, hblk]
            have k1 : W10.cell? ⟨n9, 1, none⟩ = some (.string dA) := by simp [World.cell?, hblk]
            have k2 : W10.cell? ⟨n9, 2, none⟩ = some (.slice ua lA.length uc) := by simp [World.cell?, hblk]
            have hres : (resI (aRs X j)).length ≤ 1000000000 := by
              have h9 := aRs_names HKK.out j
              have h4 : j * 2000000 ≤ 60 * 2000000 := Nat.mul_le_mul_right _ (by omega)
              omega
            have hjb := (hP.pj jb hP.jl.1).2.2
            have HGv := hide (give_list hP.jl (by rw [aRs_len]; exact hlt) hLu (fun e => by have := e.2; omega) (by omega) (by omega) cA dA (by rw [resI_snoc, List.length_append]; dsimp only; omega))
            have HF := hide (And.intro hblk (And.intro hLu (And.intro hP (And.intro hn9l (And.intro h1 (And.intro h2 (And.intro h3 hres)))))))
            clear hblk hLu hP hn9l h1 h2 h3 hres hjb hW10 HB9 HF9 HPK HZ9 HP
            go_wp2_with fail
            refine HGv.out.mono ?_
            rintro e w11 ⟨rfl, P', hJ11, hG11, hP11⟩
            obtain ⟨hblk, hLu, hP, hn9l, h1, h2, h3, hres⟩ := HF.out
            have hblk11 := (hG11.block n9 hn9l (fun e => h2 n9 e rfl)).trans hblk
            have y0 : w11.cell? ⟨n9, 0, none⟩ = some (.int .i64 cA) := by simp [World.cell?, hblk11]
            have y1 : w11.cell? ⟨n9, 1, none⟩ = some (.string dA) := by simp [World.cell?, hblk11]
            have y2 : w11.cell? ⟨n9, 2, none⟩ = some (.slice ua lA.length uc) := by simp [World.cell?, hblk11]
            have hK11 := hP.kl.gs hG11 (fun e => (hP.pj kb e).2.1 rfl) (fun i hi e => (hP.pj i e).1 hi)
            have hL11 := hLu.gs hG11 (fun i hi e => by have := (hP.pj i e).2.2; have := hi.2; omega)
            have HKv := hide (kl_give hK11 (by rw [aRs_len]; omega) hL11 (fun e => by have := hP.kw; have := e.2; omega) cA dA (by omega))
            have HF11 := hide (And.intro hJ11 (And.intro hG11 hP11))
            clear hblk hLu hP hn9l h1 h2 h3 hres hblk11 hK11 hL11 hJ11 hG11 hP11
            go_wp2_with fail
            refine HKv.out.mono ?_
            rintro e w12 ⟨rfl, hK12, hG12⟩
            have HE : Hid (PV w0 w12 l X jb kb (.slice (some ⟨g, o, none⟩) l.length vc) P' (fun i => w11.heap.size ≤ i ∧ i < w12.heap.size) (j + 1)) := by
              obtain ⟨hJ11, hG11, hP11⟩ := HF11.out
              obtain ⟨_, _, hP, _⟩ := HF.out
              have hA := HA.out
              rw [← hA] at hJ11 hK12
              exact hP.step hJ11 hG11 hP11 hG12 hK12
            clear hK12 hG12
            go_wp2
            exact ⟨⟨j + 1, P', _, by omega, by go_num, HE.out⟩, by simp [intOf]; omega⟩
        · obtain rfl : j = l.length := by omega
          have hres : (RI l (aRs X l.length)).length ≤ 1000000000 ∧ (RT l (aRs X l.length)).length ≤ 1000000000 ∧ (resI (aRs X l.length)).length ≤ 1000000000 := by
            have h1 := RI_le l (aRs X l.length)
            have h2 := RT_le l (aRs X l.length)
            have h3 := aRs_names HKK.out l.length
            have h4 : l.length * 2000000 ≤ 60 * 2000000 := Nat.mul_le_mul_right _ (by omega)
            rw [aRs_len] at h2
            omega
          have HRS := hide hres
          clear hres
          have hAL := aRs_len X l.length
          have HAL := hide hAL
          clear hAL
          have HNx := hide (next_list_off HI.out.jl HAL.out)
          go_wp2_with fail
          refine HNx.out.mono ?_
          rintro e w7 ⟨rfl, hB7⟩
          obtain ⟨W8, hW8⟩ : ∃ W8, W8 = w7.alloc (.cells #[.int .i64 0, .int .i64 0, .string ⟨#[]⟩, .string ⟨#[]⟩] 38) := ⟨_, rfl⟩
          have hI8 : PV w0 W8 l X jb kb (.slice va l.length vc) Pj2 Pk l.length := by rw [hW8]; exact (HI.out.bel hB7).bel ((Below.refl _ _).alloc (Nat.le_refl _) _)
          have hOv := over_list hI8.jl
          rw [HAL.out, decide_eq_false (by omega)] at hOv
          have hSt := steps_list hI8.jl
          rw [HAL.out] at hSt
          have HOv := hide hOv
          have HSt := hide hSt
          have HRj := hide (result_list hI8.jl (by omega) (by have := HRS.out; omega))
          have HI8 := hide hI8
          have HW8 := hide hW8
          clear hB7 hW8 hI8 hOv hSt
          go_upto_region 25 with fail
          rw [← HW8.out]
          go_wp2_with fail
          refine HOv.out.mono ?_
          rintro e w9 ⟨rfl, rfl⟩
          go_wp2_with fail
          refine HSt.out.mono ?_
          rintro e w10 ⟨rfl, rfl⟩
          go_wp2_with fail
          refine HRj.out.mono ?_
          rintro e w11 ⟨i11, t11, rfl, hI11, hT11, hB11⟩
          have hP11 := HI8.out.bel hB11
          have HRk := hide (kl_res hP11.kl (by have := HAL.out; omega))
          have HF11 := hide (And.intro hI11 (And.intro hT11 hP11))
          clear hI11 hT11 hB11 hP11
          go_wp2_with fail
          refine HRk.out.mono ?_
          rintro e w12 ⟨i12, t12, rfl, hI12, hT12, hB12⟩
          obtain ⟨hI11, hT11, hP11⟩ := HF11.out
          have HSm := hide (same_res (c := RC l (aRs X l.length)) (N := ((RN l (aRs X l.length) : Nat) : Int)) (hI11.tr.bel hB12) (hT11.tr.bel hB12) hI12 hT12 HRS.out.1 HRS.out.2.1)
          have HP12 := hide (hP11.bel hB12)
          clear hI11 hT11 hP11 hI12 hT12 hB12
          go_wp2_with fail
          refine HSm.out.mono ?_
          rintro e w13 ⟨rfl, hB13⟩
          have hP13 := HP12.out.bel hB13
          have HGo := hide (give_list_off hP13.jl HAL.out (.slice none 0 0) 0 ⟨#[]⟩)
          have HP13 := hide hP13
          clear hP13 hB13
          go_wp2_with fail
          refine HGo.out.mono ?_
          rintro e w14 ⟨rfl, hB14⟩
          have hP14 := HP13.out.bel hB14
          have hSt := steps_list hP14.jl
          rw [HAL.out] at hSt
          have HSt2 := hide hSt
          have HE := hide hP14.be
          clear hSt hP14 hB14
          go_wp2_with fail
          refine HSt2.out.mono ?_
          rintro e w15 ⟨rfl, rfl⟩
          go_wp2
          go_ret
          exact ⟨by simp, HE.out⟩
end
end Go.Proofs.Ytepmhgkegfpmjaa
