/-
  The contract of the document's own Inverse.
-/
import Derived.Test.YtfjkdmiaagalhaaGreatRefI
import Derived.Test.YtfjkdmiaagalhaaGreatInv
import Derived.Test.YtfjkdmiaagalhaaGreatRefE
import Derived.BigQuiet
namespace Go.Proofs.YtfjkdmiaagalhaaGreat
open Go.RowKit Go.Lib

/-- What stands to the right of n columns. -/
def rt (n : Nat) (X : Mt) : Mt := fun i q => X i (n + q)
theorem redu_slow (m : Nat) (R : Mt) (c : Nat) : ∀ d, (redu m R (c + d)).2 ≤ (redu m R c).2 + d
  | 0 => Nat.le_refl _
  | d + 1 => by
    have e := redu_slow m R c d
    show (step m (redu m R (c + d)) (c + d)).2 ≤ _
    unfold step
    split
    · omega
    · show (redu m R (c + d)).2 + 1 ≤ _
      omega
theorem clr_zero (R : Mt) (a c i : Nat) : clr R a c 0 i = if i = a then (fun j => R a j * K.inv (R a c)) else R i := by
  funext j
  unfold clr
  by_cases h : i = a
  · rw [if_pos h, if_pos h]
  · rw [if_neg h, if_neg h, if_neg (Nat.not_lt_zero _)]
theorem clr_old (R : Mt) (a c n i j : Nat) (h1 : i ≠ a) (h2 : n ≤ i) : clr R a c n i j = R i j := by
  unfold clr; rw [if_neg h1, if_neg (by omega)]
theorem clr_other (R : Mt) (a c n i : Nat) (h : i ≠ n) : clr R a c (n + 1) i = clr R a c n i := by
  funext j
  unfold clr
  by_cases h1 : i = a
  · rw [if_pos h1, if_pos h1]
  · rw [if_neg h1, if_neg h1]
    by_cases h2 : i < n
    · rw [if_pos h2, if_pos (by omega)]
    · rw [if_neg h2, if_neg (by omega)]
theorem clr_next (R : Mt) (a c n j : Nat) (h : n ≠ a) : clr R a c (n + 1) n j = clr R a c n n j + clr R a c n a j * R n c := by
  unfold clr
  rw [if_neg h, if_pos (by omega), if_neg h, if_neg (by omega), if_pos rfl]
theorem clr_self (R : Mt) (a c : Nat) : clr R a c (a + 1) = clr R a c a := by
  funext i
  by_cases h : i = a
  · funext j; unfold clr; rw [if_pos h, if_pos h]
  · exact clr_other R a c a i h
theorem clr_skip (R : Mt) (a c n : Nat) (h : n ≠ a) (h0 : R n c = 0) : clr R a c (n + 1) = clr R a c n := by
  funext i
  by_cases e : i = n
  · subst e; funext j; rw [clr_next R a c i j h, h0, K.mul_zero, K.add_zero]
  · exact clr_other R a c n i e
theorem clr_all (R : Mt) (a c m i : Nat) (h2 : i < m) : clr R a c m i = elim R a c i := by
  funext j
  unfold clr elim
  by_cases h : i = a
  · rw [if_pos h, if_pos h]
  · rw [if_neg h, if_neg h, if_pos h2]
theorem wideM_left (n : Nat) (A : Nat → K) (t : Nat) (h : t < n * n) : A t = flat n (wideM n A) t := by
  rw [flat, wideM, if_pos (mod_lt' h), Nat.mul_comm, Nat.div_add_mod]
theorem wideM_right (n : Nat) (A : Nat → K) : rt n (wideM n A) = dl := by
  funext i q
  rw [rt, wideM, if_neg (by omega), show n + q - n = q by omega]

/-- Two matrices in a block each, their boxes, and the boxes of what is handed in and out. -/
structure IV (w : World) (gl gr N pl pr n cl cr : Nat) (va : Value) (X Y : Mt) (wr : World) : Prop where
  L : KB wr gl N (flat n X)
  R : KB wr gr N (flat n (rt n Y))
  a : Br wr w.heap.size n n va
  z : Br wr (w.heap.size + 1) 0 0 (.slice none 0 0)
  p : Br wr pl n n (.slice (some ⟨gl, 0, none⟩) N cl)
  q : Br wr pr n n (.slice (some ⟨gr, 0, none⟩) N cr)
  ne : gl ≠ gr
  gb : Below w.heap.size w wr
section
variable {w : World} {gl gr N pl pr n cl cr : Nat} {va : Value} {X Y X' Y' : Mt} {wr w' : World}
theorem IV.below (h : IV w gl gr N pl pr n cl cr va X Y wr) (hb : Below wr.heap.size wr w') : IV w gl gr N pl pr n cl cr va X Y w' :=
  ⟨h.L.below hb (Nat.le_refl _), h.R.below hb (Nat.le_refl _), h.a.below hb (Nat.le_refl _), h.z.below hb (Nat.le_refl _), h.p.below hb (Nat.le_refl _), h.q.below hb (Nat.le_refl _), h.ne, below_step h.gb hb⟩
theorem IV.turnL (h : IV w gl gr N pl pr n cl cr va X Y wr) (hK : KB w' gl N (flat n X')) (hg : wr.grownBy w' (some gl)) (hgs : w.heap.size ≤ gl) : IV w gl gr N pl pr n cl cr va X' Y w' :=
  ⟨hK, h.R.of_block (hg.block _ h.R.lt (by simp; exact fun e => h.ne e.symm)), h.a.gb hg (h.a.ne h.L), h.z.gb hg (h.z.ne h.L), h.p.gb hg (h.p.ne h.L), h.q.gb hg (h.q.ne h.L), h.ne, below_gb h.gb hg hgs h.gb.size⟩
theorem IV.turnR (h : IV w gl gr N pl pr n cl cr va X Y wr) (hK : KB w' gr N (flat n (rt n Y'))) (hg : wr.grownBy w' (some gr)) (hgs : w.heap.size ≤ gr) : IV w gl gr N pl pr n cl cr va X Y' w' :=
  ⟨h.L.of_block (hg.block _ h.L.lt (by simp; exact h.ne)), hK, h.a.gb hg (h.a.ne h.R), h.z.gb hg (h.z.ne h.R), h.p.gb hg (h.p.ne h.R), h.q.gb hg (h.q.ne h.R), h.ne, below_gb h.gb hg hgs h.gb.size⟩
theorem IV.congr (h : IV w gl gr N pl pr n cl cr va X Y wr) (e1 : ∀ t, t < N → flat n X t = flat n X' t) (e2 : ∀ t, t < N → flat n (rt n Y) t = flat n (rt n Y') t) : IV w gl gr N pl pr n cl cr va X' Y' wr :=
  ⟨h.L.congr e1, h.R.congr e2, h.a, h.z, h.p, h.q, h.ne, h.gb⟩
end

set_option maxRecDepth 100000 in
set_option maxHeartbeats 1600000 in
theorem refInverse_ok {w : World} {f n : Nat} {va : Value} {A : Nat → K} (a1 : 1 ≤ n) (a2 : n ≤ 255) (hnn : n * n ≤ 1000)
    (hA : NX w f va (n * n) (fun k => (((A k).v : Nat) : Int))) :
    Calls Tryz.prog 22 #[.agg #[.int .i64 n, .int .i64 n, va]] w fun e w' =>
      (((redu n (wideM n A) n).2 = n ∧ ∃ g cp, e = .returned (.tuple #[.agg #[.int .i64 n, .int .i64 n, .slice (some ⟨g, 0, none⟩) (n * n) cp], .int .i64 0]) ∧ n * n ≤ cp ∧ KB w' g (n * n) (flat n (fun i j => (redu n (wideM n A) n).1 i (n + j))) ∧ w.heap.size ≤ g) ∨
       ((redu n (wideM n A) n).2 < n ∧ e = .returned (.tuple #[.agg #[.int .i64 0, .int .i64 0, .slice none 0 0], .int .i64 40]))) ∧ Below w.heap.size w w' := by
  have hN0 : n * n ≠ 0 := Nat.mul_ne_zero (by omega) (by omega)
  obtain ⟨ba, oa, ca, rfl, ha3, ha4, ha5⟩ := hA.at hN0
  have EA := chk_ok a1 a2 a1 a2 A
  have hfm : ∀ k, k < n * n → A k = flat n (wideM n A) k := fun k hk => wideM_left n A k hk
  have hrt := wideM_right n A
  obtain ⟨M, hM⟩ : ∃ M, M = wideM n A := ⟨_, rfl⟩
  rw [← hM] at hfm hrt ⊢
  have HC : Hid (∀ w', Below w.heap.size w w' → Calls Tryz.prog 41 #[.agg #[.int .i64 n, .int .i64 n, .slice (some ⟨ba, oa, none⟩) (n * n) ca]] w' fun e w'' =>
      ∃ g cp, e = .returned (.agg #[.int .i64 n, .int .i64 n, .slice (some ⟨g, 0, none⟩) (n * n) cp]) ∧ KB w'' g (n * n) (flat n M) ∧ n * n ≤ cp ∧ w'.heap.size ≤ g ∧ Below w'.heap.size w' w'') := by
    intro w' hb
    refine (copied_any (hA.below hb) hN0 hnn).mono ?_
    rintro e w'' ⟨g, cp, rfl, hK, hcp, hg, hb'⟩
    exact ⟨g, cp, rfl, hK.congr hfm, hcp, hg, hb'⟩
  have ONE : Hid (∀ w' : World, Calls Tryz.prog 42 #[.int .i64 n] w' fun e w'' => ∃ g, e = .returned (.tuple #[.agg #[.int .i64 n, .int .i64 n, .slice (some ⟨g, 0, none⟩) (n * n) (n * n)], .int .i64 0]) ∧ KB w'' g (n * n) (flat n (rt n M)) ∧ w'.heap.size ≤ g ∧ Below w'.heap.size w' w'') := fun w' => by rw [hrt]; exact refOne_ok w' n a1 a2
  have LEAD : Hid (∀ (w' : World) (g a j cp k : Nat) (R : Mt), KB w' g (n * n) (flat n R) → a + k = n → j < n → n * n ≤ cp → Calls Tryz.prog 43 #[.agg #[.int .i64 n, .int .i64 n, .slice (some ⟨g, 0, none⟩) (n * n) cp], .int .i64 a, .int .i64 j] w' fun e w'' =>
      e = .returned (.int .i64 (match lead R j k a with | none => -1 | some n => (n : Int))) ∧ Below w'.heap.size w' w'') := fun w' g a j cp k R h1 h2 h3 h4 => lead_any h1 h2 a2 h3 (by omega) h4
  have SWAP : Hid (∀ (w' : World) (g m a cp : Nat) (R R' : Mt), KB w' g (n * n) (flat n R) → m < n → a < n → n * n ≤ cp → (∀ i, i ≠ m → i ≠ a → ∀ q, R' i q = R i q) → (∀ q, q < n → R' m q = R a q) → (∀ q, q < n → R' a q = R m q) → Calls Tryz.prog 44 #[.agg #[.int .i64 n, .int .i64 n, .slice (some ⟨g, 0, none⟩) (n * n) cp], .int .i64 m, .int .i64 a] w' fun e w'' =>
      e = .returned (.tuple #[]) ∧ KB w'' g (n * n) (flat n R') ∧ w'.grownBy w'' (some g)) := fun w' g m a cp R R' h1 h2 h3 h4 h5 h6 h7 => swap_any h1 h2 h3 a2 (by omega) h4 R' h5 h6 h7
  have AT : Hid (∀ (w' : World) (g i j cp : Nat) (R : Mt), KB w' g (n * n) (flat n R) → i < n → j < n → n * n ≤ cp → Calls Tryz.prog 40 #[.agg #[.int .i64 n, .int .i64 n, .slice (some ⟨g, 0, none⟩) (n * n) cp], .int .i64 i, .int .i64 j] w' fun e w'' =>
      e = .returned (.int .i64 (((R i j).v : Nat) : Int)) ∧ Below w'.heap.size w' w'') := by
    intro w' g i j cp R h1 h2 h3 h4
    have hl := at_lt h2 h3
    have := at_any (r := (n : Int)) (c := n) (i := i) (j := j) (h1.nx (f := g + 1) (c := cp) h4 (by omega)) rfl hl (by omega) (by omega)
    rw [show flat n R (i * n + j) = R i j by rw [flat, div_at h3, mod_at h3]] at this
    exact this
  have SCL : Hid (∀ (w' : World) (g i cp : Nat) (R R' : Mt) (y : K), KB w' g (n * n) (flat n R) → i < n → n * n ≤ cp → (∀ a, a ≠ i → ∀ q, R' a q = R a q) → (∀ q, q < n → R' i q = R i q * y) → Calls Tryz.prog 45 #[.agg #[.int .i64 n, .int .i64 n, .slice (some ⟨g, 0, none⟩) (n * n) cp], .int .i64 i, .int .i64 ((y.v : Nat) : Int)] w' fun e w'' =>
      e = .returned (.tuple #[]) ∧ KB w'' g (n * n) (flat n R') ∧ w'.grownBy w'' (some g)) := fun w' g i cp R R' y h1 h2 h3 h4 h5 => scale_any h1 h2 a2 (by omega) h3 y R' h4 h5
  have ADD : Hid (∀ (w' : World) (g i k cp : Nat) (R R' : Mt) (y : K), KB w' g (n * n) (flat n R) → i < n → k < n → i ≠ k → n * n ≤ cp → (∀ a, a ≠ i → ∀ q, R' a q = R a q) → (∀ q, q < n → R' i q = R i q + R k q * y) → Calls Tryz.prog 46 #[.agg #[.int .i64 n, .int .i64 n, .slice (some ⟨g, 0, none⟩) (n * n) cp], .int .i64 i, .int .i64 k, .int .i64 ((y.v : Nat) : Int)] w' fun e w'' =>
      e = .returned (.tuple #[]) ∧ KB w'' g (n * n) (flat n R') ∧ w'.grownBy w'' (some g)) := fun w' g i k cp R R' y h1 h2 h3 h4 h5 h6 h7 => radd_any h1 h2 h3 h4 a2 (by omega) h5 y R' h6 h7
  have DIV : Hid (∀ t, t < n * n → t / n < n) := fun t ht => div_lt ht
  generalize n * n = N at *
  obtain ⟨oA, hoA⟩ : ∃ o, o = Obj.cells #[.int .i64 n, .int .i64 n, .slice (some ⟨ba, oa, none⟩) N ca] 57 := ⟨_, rfl⟩
  obtain ⟨oR, hoR⟩ : ∃ o, o = Obj.cells #[.int .i64 0, .int .i64 0, .slice none 0 0] 57 := ⟨_, rfl⟩
  have L2 := below_alloc (below_alloc (Below.refl w.heap.size w) oA) oR
  have A2 := (hA.alloc oA).alloc oR
  have X1 := (show Br (w.alloc oA) w.heap.size n n (.slice (some ⟨ba, oa, none⟩) N ca) by rw [hoA]; exact Br.new _ _ _ _).alloc oR
  have X2 := show Br ((w.alloc oA).alloc oR) (w.alloc oA).heap.size 0 0 (.slice none 0 0) by rw [hoR]; exact Br.new _ _ _ _
  rw [show (w.alloc oA).heap.size = w.heap.size + 1 by simp] at X2
  rw [hoA, hoR] at L2 A2 X1 X2
  have HA1 := hide A2
  have HX1 := hide X1
  have HX2 := hide X2
  have HL1 := hide L2
  clear A2 X1 X2 L2 hA hM hfm hrt hoA hoR
  go_enter Tryz.func22, Tryz.ntmps22
  go_wp2_with fail
  refine (refCheck_any HA1.out (by omega)).mono ?_
  rintro e w1 ⟨rfl, k1⟩
  rw [EA]
  have X1 := HX1.out.below k1 (Nat.le_refl _)
  have X2 := HX2.out.below k1 (Nat.le_refl _)
  have L1 := below_step HL1.out k1
  have m0 := X1.cell0
  have m1 := X1.cell1
  have m2 := X1.cell2
  clear HX1 HL1 HA1 HX2 k1
  have HX1 := hide X1
  have HX2 := hide X2
  have HL1 := hide L1
  clear X1 X2 L1
  go_wp2_with fail
  refine (HC.out _ HL1.out).mono ?_
  rintro e w2 ⟨gl, cl, rfl, hKl, hcl, hgl, k2⟩
  have hgls : w.heap.size ≤ gl := Nat.le_trans HL1.out.size hgl
  have X1 := (HX1.out.below k2 (Nat.le_refl _)).alloc (.cells #[.int .i64 n, .int .i64 n, .slice (some ⟨gl, 0, none⟩) N cl] 57)
  have X2 := (HX2.out.below k2 (Nat.le_refl _)).alloc (.cells #[.int .i64 n, .int .i64 n, .slice (some ⟨gl, 0, none⟩) N cl] 57)
  have L2 := below_alloc (below_step HL1.out k2) (.cells #[.int .i64 n, .int .i64 n, .slice (some ⟨gl, 0, none⟩) N cl] 57)
  have P1 := Br.new w2 n n (.slice (some ⟨gl, 0, none⟩) N cl)
  have K1 := hKl.alloc (.cells #[.int .i64 n, .int .i64 n, .slice (some ⟨gl, 0, none⟩) N cl] 57)
  clear HX1 HX2 HL1 m0 m1 m2 k2 hKl hgl
  have m0 := X1.cell0
  have m1 := X1.cell1
  have m2 := X1.cell2
  have HX1 := hide X1
  have HX2 := hide X2
  have HL1 := hide L2
  have HP1 := hide P1
  have HK1 := hide K1
  clear X1 X2 L2 P1 K1 HC
  go_wp2_with fail
  refine (ONE.out _).mono ?_
  rintro e w3 ⟨gr, rfl, hKr, hgr, k3⟩
  have hgrs : w.heap.size ≤ gr := Nat.le_trans HL1.out.size hgr
  have hne : gl ≠ gr := by have := HK1.out.lt; omega
  have I : IV w gl gr N w2.heap.size w3.heap.size n cl N (.slice (some ⟨ba, oa, none⟩) N ca) M M (w3.alloc (.cells #[.int .i64 n, .int .i64 n, .slice (some ⟨gr, 0, none⟩) N N] 57)) :=
    ⟨(HK1.out.below k3 (Nat.le_refl _)).alloc _, hKr.alloc _, (HX1.out.below k3 (Nat.le_refl _)).alloc _, (HX2.out.below k3 (Nat.le_refl _)).alloc _, (HP1.out.below k3 (Nat.le_refl _)).alloc _, Br.new _ _ _ _, hne, below_alloc (below_step HL1.out k3) _⟩
  have HI := hide I
  clear HX1 HX2 HL1 HP1 HK1 I k3 hKr hgr m0 m1 m2 ONE
  go_wp2
  go_loopw [8] (fun z wr => ∃ j : Nat, j ≤ n ∧ z = .int .i64 j ∧ (redu n M j).2 = j ∧ IV w gl gr N w2.heap.size w3.heap.size n cl N (.slice (some ⟨ba, oa, none⟩) N ca) (redu n M j).1 (redu n M j).1 wr) (fun z _ => n - (RowKit.intOf z).toNat)
  case atStart => exact ⟨0, Nat.zero_le _, rfl, rfl, HI.out⟩
  case round =>
    obtain ⟨j, hj, rfl, hr2, I⟩ := hrel
    clear HI
    have hst0 : redu n M (j + 1) = step n (redu n M j) j := rfl
    have hend : ∀ d, (redu n M (j + 1 + d)).2 ≤ (redu n M (j + 1)).2 + d := redu_slow n M (j + 1)
    obtain ⟨X, hX⟩ : ∃ X, X = (redu n M j).1 := ⟨_, rfl⟩
    rw [← hX] at I
    have m0 := I.a.cell0
    have m1 := I.a.cell1
    by_cases hlt : j < n
    · have b1 : (j : Int) < (n : Int) := by omega
      have p0 := I.p.cell0
      have p1 := I.p.cell1
      have p2 := I.p.cell2
      have HLD : Hid _ := LEAD.out wr gl j j cl (n - j) X I.L (by omega) hlt hcl
      cases hld : lead X j (n - j) j with
      | none =>
        have hst : redu n M (j + 1) = redu n M j := by rw [hst0]; unfold step; rw [hr2, ← hX, hld]
        have HE : Hid ((redu n M n).2 < n) := by
          have := hend (n - (j + 1))
          rw [show j + 1 + (n - (j + 1)) = n by omega, hst, hr2] at this
          show _ < _
          omega
        rw [hld] at HLD
        have HI := hide I
        clear I hst hX hld hst0 hend hr2
        go_wp2_with fail
        refine Calls.mono HLD.out ?_
        rintro e w4 ⟨rfl, q4⟩
        have I4 := HI.out.below q4
        clear HI q4 m0 m1 p0 p1 p2 HLD
        have z0 := I4.z.cell0
        have z1 := I4.z.cell1
        have z2 := I4.z.cell2
        have zf := I4.z.free
        have HI4 := hide I4
        clear I4
        go_wp2
        obtain ⟨hX5, g5⟩ := HI4.out.z.put (0 : Int) (0 : Int) (.slice none 0 0)
        exact bodyPost_ret (v := .tuple #[.agg #[.int .i64 0, .int .i64 0, .slice none 0 0], .int .i64 40]) (by simp [results, Tryz.results22, go_sem, hX5.cell0, hX5.cell1, hX5.cell2]) rfl ⟨.inr ⟨HE.out, rfl⟩, below_gb HI4.out.gb g5 (by omega) HI4.out.gb.size⟩
      | some m =>
        obtain ⟨n1, n2, n3, n4⟩ := lead_some hld
        have hst : redu n M (j + 1) = (elim (swp X j m) j j, j + 1) := by rw [hst0]; unfold step; rw [hr2, ← hX, hld]
        rw [hld] at HLD
        have hmn : m < n := by omega
        obtain ⟨X1, hX1⟩ : ∃ X1, X1 = swp X j m := ⟨_, rfl⟩
        have s1 : ∀ i, i ≠ m → i ≠ j → ∀ q, X1 i q = X i q := fun i e1 e2 q => by rw [hX1]; unfold swp; rw [if_neg e2, if_neg e1]
        have s2 : ∀ q, X1 m q = X j q := fun q => by rw [hX1]; unfold swp; split; (rename_i e; rw [e]); rw [if_pos rfl]
        have s3 : ∀ q, X1 j q = X m q := fun q => by rw [hX1]; unfold swp; rw [if_pos rfl]
        have hpv : X1 j j ≠ 0 := by rw [s3]; exact n3
        rw [← hX1] at hst
        have HI := hide I
        have HST := hide hst
        have HPV := hide hpv
        have HS1 := hide s1
        have HS2 := hide s2
        have HS3 := hide s3
        have b4 : ¬ (m : Int) < 0 := by omega
        clear I hst hX hld hst0 hend hr2 n2 n3 n4 hX1 hpv s1 s2 s3
        go_wp2_with fail
        refine Calls.mono HLD.out ?_
        rintro e w4 ⟨rfl, q4⟩
        have I := HI.out.below q4
        clear HI q4 m0 m1 p0 p1 p2 HLD
        have p0 := I.p.cell0
        have p1 := I.p.cell1
        have p2 := I.p.cell2
        have HC : Hid _ := SWAP.out w4 gl m j cl X X1 I.L hmn hlt hcl HS1.out (fun q _ => HS2.out q) (fun q _ => HS3.out q)
        have HI := hide I
        clear I
        go_wp2_with fail
        refine Calls.mono HC.out ?_
        rintro e w5 ⟨rfl, hK5, g5⟩
        have I := HI.out.turnL hK5 g5 hgls
        clear HI hK5 g5 p0 p1 p2 HC
        have p0 := I.q.cell0
        have p1 := I.q.cell1
        have p2 := I.q.cell2
        have HC : Hid _ := SWAP.out w5 gr m j N (rt n X) (rt n X1) I.R hmn hlt (Nat.le_refl _) (fun i e1 e2 q => HS1.out i e1 e2 _) (fun q _ => HS2.out _) (fun q _ => HS3.out _)
        have HI := hide I
        clear I
        go_wp2_with fail
        refine Calls.mono HC.out ?_
        rintro e w6 ⟨rfl, hK6, g6⟩
        have I := HI.out.turnR hK6 g6 hgrs
        clear HI hK6 g6 p0 p1 p2 HC
        have p0 := I.p.cell0
        have p1 := I.p.cell1
        have p2 := I.p.cell2
        obtain ⟨x, hx⟩ : ∃ x, x = X1 j j := ⟨_, rfl⟩
        have HC : Hid _ := AT.out w6 gl j j cl X1 I.L hlt hlt hcl
        rw [← hx] at HC
        have HOV : Hid (∀ w' : World, Calls Tryz.prog 33 #[.int .i64 1, .int .i64 ((x.v : Nat) : Int)] w' fun e w'' => e = .returned (.int .i64 (((K.inv x).v : Nat) : Int)) ∧ w'' = w') := fun w' => over_any 1 x.v (by decide) x.lt (K.v_ne (by rw [hx]; exact HPV.out)) w'
        have HX := hide hx
        have HI := hide I
        clear I hx
        go_wp2_with fail
        refine Calls.mono HC.out ?_
        rintro e w7 ⟨rfl, q7⟩
        have I := HI.out.below q7
        clear HI q7 p0 p1 p2 HC
        have p0 := I.p.cell0
        have p1 := I.p.cell1
        have p2 := I.p.cell2
        have HI := hide I
        clear I
        go_wp2_with fail
        refine Calls.mono (HOV.out _) ?_
        rintro e w8 ⟨rfl, hw8⟩
        subst w8
        clear HOV
        have HC : Hid _ := SCL.out w7 gl j cl X1 (clr X1 j j 0) (K.inv x) HI.out.L hlt hcl (fun a ha q => by rw [clr_zero, if_neg ha]) (fun q _ => by rw [clr_zero, if_pos rfl, HX.out])
        have HCR : Hid (∀ w', IV w gl gr N w2.heap.size w3.heap.size n cl N (.slice (some ⟨ba, oa, none⟩) N ca) (clr X1 j j 0) X1 w' → Calls Tryz.prog 45 #[.agg #[.int .i64 n, .int .i64 n, .slice (some ⟨gr, 0, none⟩) N N], .int .i64 j, .int .i64 (((K.inv x).v : Nat) : Int)] w' fun e w'' => e = .returned (.tuple #[]) ∧ IV w gl gr N w2.heap.size w3.heap.size n cl N (.slice (some ⟨ba, oa, none⟩) N ca) (clr X1 j j 0) (clr X1 j j 0) w'') := by
          intro w' I'
          refine (SCL.out w' gr j N (rt n X1) (rt n (clr X1 j j 0)) (K.inv x) I'.R hlt (Nat.le_refl _) (fun a ha q => by rw [rt, rt, clr_zero, if_neg ha]) (fun q _ => by rw [rt, rt, clr_zero, if_pos rfl, HX.out])).mono ?_
          rintro e w'' ⟨rfl, hK, hg⟩
          exact ⟨rfl, I'.turnR hK hg hgrs⟩
        clear HX
        generalize (K.inv x).v = ix at *
        generalize x.v = xv at *
        go_wp2_with fail
        refine Calls.mono HC.out ?_
        rintro e w8 ⟨rfl, hK8, g8⟩
        have I := HI.out.turnL hK8 g8 hgls
        clear HI hK8 g8 p0 p1 p2 HC
        have p0 := I.q.cell0
        have p1 := I.q.cell1
        have p2 := I.q.cell2
        have HI := hide I
        clear I
        go_wp2_with fail
        refine Calls.mono (HCR.out _ HI.out) ?_
        rintro e w9 ⟨rfl, I⟩
        clear HI p0 p1 p2 HCR
        have HI := hide I
        clear I
        go_wp2
        go_loopw [11] (fun z wr => ∃ i : Nat, i ≤ n ∧ z = .int .i64 i ∧ IV w gl gr N w2.heap.size w3.heap.size n cl N (.slice (some ⟨ba, oa, none⟩) N ca) (clr X1 j j i) (clr X1 j j i) wr) (fun z _ => n - (RowKit.intOf z).toNat)
        case atStart => exact ⟨0, Nat.zero_le _, rfl, HI.out⟩
        case round =>
          obtain ⟨i, hi, rfl, I⟩ := hrel
          clear HI
          have m0 := I.a.cell0
          by_cases hlt3 : i < n
          · have b3 : (i : Int) < (n : Int) := by omega
            by_cases hij : i = j
            · subst hij
              have HI := hide I
              clear I
              go_wp2
              exact ⟨⟨i + 1, by omega, by go_num, by rw [clr_self]; exact HI.out⟩, by simp [RowKit.intOf]; omega⟩
            · have b5 : ((i : Int) != (j : Int)) = true := by simp; omega
              have b6 : ¬ ((i : Int) = (j : Int)) := by omega
              have p0 := I.p.cell0
              have p1 := I.p.cell1
              have p2 := I.p.cell2
              obtain ⟨y, hy⟩ : ∃ y, y = X1 i j := ⟨_, rfl⟩
              have HAT : Hid (∀ w', IV w gl gr N w2.heap.size w3.heap.size n cl N (.slice (some ⟨ba, oa, none⟩) N ca) (clr X1 j j i) (clr X1 j j i) w' → Calls Tryz.prog 40 #[.agg #[.int .i64 n, .int .i64 n, .slice (some ⟨gl, 0, none⟩) N cl], .int .i64 i, .int .i64 j] w' fun e w'' => e = .returned (.int .i64 ((y.v : Nat) : Int)) ∧ IV w gl gr N w2.heap.size w3.heap.size n cl N (.slice (some ⟨ba, oa, none⟩) N ca) (clr X1 j j i) (clr X1 j j i) w'') := by
                intro w' I'
                refine (AT.out w' gl i j cl (clr X1 j j i) I'.L hlt3 hlt hcl).mono ?_
                rintro e w'' ⟨rfl, q⟩
                exact ⟨by rw [clr_old _ _ _ _ _ _ hij (Nat.le_refl _), hy], I'.below q⟩
              have HI := hide I
              clear I
              by_cases hy0 : y = 0
              · have hyv : ((y.v : Nat) : Int) = 0 := by rw [hy0]; rfl
                have HSK : Hid (clr X1 j j (i + 1) = clr X1 j j i) := clr_skip X1 j j i hij (by rw [← hy, hy0])
                rw [hyv] at HAT
                have HIJ := hide hij
                clear hy hy0 hyv hij
                go_wp2_with fail
                refine Calls.mono (HAT.out _ HI.out) ?_
                rintro e w10 ⟨rfl, I⟩
                clear HI p0 p1 p2 HAT m0
                have HI := hide I
                clear I
                go_wp2
                exact ⟨⟨i + 1, by omega, by go_num, by rw [HSK.out]; exact HI.out⟩, by simp [RowKit.intOf]; omega⟩
              · have hyv : (((y.v : Nat) : Int) != 0) = true := by have := K.v_ne hy0; simp; omega
                have hyw : ¬ (((y.v : Nat) : Int) = 0) := by have := K.v_ne hy0; omega
                have HAL : Hid (∀ w', IV w gl gr N w2.heap.size w3.heap.size n cl N (.slice (some ⟨ba, oa, none⟩) N ca) (clr X1 j j i) (clr X1 j j i) w' → Calls Tryz.prog 46 #[.agg #[.int .i64 n, .int .i64 n, .slice (some ⟨gl, 0, none⟩) N cl], .int .i64 i, .int .i64 j, .int .i64 ((y.v : Nat) : Int)] w' fun e w'' => e = .returned (.tuple #[]) ∧ IV w gl gr N w2.heap.size w3.heap.size n cl N (.slice (some ⟨ba, oa, none⟩) N ca) (clr X1 j j (i + 1)) (clr X1 j j i) w'') := by
                  intro w' I'
                  refine (ADD.out w' gl i j cl (clr X1 j j i) (clr X1 j j (i + 1)) y I'.L hlt3 hlt hij hcl (fun a ha q => by rw [clr_other _ _ _ _ _ ha]) (fun q _ => by rw [clr_next _ _ _ _ _ hij, hy])).mono ?_
                  rintro e w'' ⟨rfl, hK, hg⟩
                  exact ⟨rfl, I'.turnL hK hg hgls⟩
                have HAR : Hid (∀ w', IV w gl gr N w2.heap.size w3.heap.size n cl N (.slice (some ⟨ba, oa, none⟩) N ca) (clr X1 j j (i + 1)) (clr X1 j j i) w' → Calls Tryz.prog 46 #[.agg #[.int .i64 n, .int .i64 n, .slice (some ⟨gr, 0, none⟩) N N], .int .i64 i, .int .i64 j, .int .i64 ((y.v : Nat) : Int)] w' fun e w'' => e = .returned (.tuple #[]) ∧ IV w gl gr N w2.heap.size w3.heap.size n cl N (.slice (some ⟨ba, oa, none⟩) N ca) (clr X1 j j (i + 1)) (clr X1 j j (i + 1)) w'') := by
                  intro w' I'
                  refine (ADD.out w' gr i j N (rt n (clr X1 j j i)) (rt n (clr X1 j j (i + 1))) y I'.R hlt3 hlt hij (Nat.le_refl _) (fun a ha q => by rw [rt, rt, clr_other _ _ _ _ _ ha]) (fun q _ => by rw [rt, rt, rt, clr_next _ _ _ _ _ hij, hy])).mono ?_
                  rintro e w'' ⟨rfl, hK, hg⟩
                  exact ⟨rfl, I'.turnR hK hg hgrs⟩
                have HIJ := hide hij
                clear hy hy0 hij
                generalize y.v = yv at *
                go_wp2_with fail
                refine Calls.mono (HAT.out _ HI.out) ?_
                rintro e w10 ⟨rfl, I⟩
                clear HI p0 p1 p2 m0
                have p0 := I.p.cell0
                have p1 := I.p.cell1
                have p2 := I.p.cell2
                have HI := hide I
                clear I
                go_wp2_with fail
                refine Calls.mono (HAT.out _ HI.out) ?_
                rintro e w11 ⟨rfl, I⟩
                clear HI p0 p1 p2 HAT
                have p0 := I.p.cell0
                have p1 := I.p.cell1
                have p2 := I.p.cell2
                have HI := hide I
                clear I
                go_wp2_with fail
                refine Calls.mono (HAL.out _ HI.out) ?_
                rintro e w12 ⟨rfl, I⟩
                clear HI p0 p1 p2 HAL
                have p0 := I.q.cell0
                have p1 := I.q.cell1
                have p2 := I.q.cell2
                have HI := hide I
                clear I
                go_wp2_with fail
                refine Calls.mono (HAR.out _ HI.out) ?_
                rintro e w13 ⟨rfl, I⟩
                clear HI p0 p1 p2 HAR
                have HI := hide I
                clear I
                go_wp2
                exact ⟨⟨i + 1, by omega, by go_num, HI.out⟩, by simp [RowKit.intOf]; omega⟩
          · obtain rfl : i = n := by omega
            have b3 : ¬ (i : Int) < (i : Int) := by omega
            have HI := hide I
            clear I
            go_wp2
            refine ⟨⟨j + 1, by omega, by go_num, by rw [HST.out], ?_⟩, by simp [RowKit.intOf]; omega⟩
            rw [HST.out]
            exact HI.out.congr (fun t ht => by rw [flat, flat, clr_all _ _ _ _ _ (DIV.out t ht)]) (fun t ht => by rw [flat, flat, rt, rt, clr_all _ _ _ _ _ (DIV.out t ht)])
    · obtain rfl : j = n := by omega
      have b1 : ¬ (j : Int) < (j : Int) := by omega
      have p0 := I.q.cell0
      have p1 := I.q.cell1
      have p2 := I.q.cell2
      have z0 := I.z.cell0
      have z1 := I.z.cell1
      have z2 := I.z.cell2
      have zf := I.z.free
      have hzr := I.z.ne I.R
      have HR2 := hide hr2
      have HX := hide hX
      have HI := hide I
      clear I hX hst0 hend hr2
      go_wp2
      obtain ⟨hX5, g5⟩ := HI.out.z.put (j : Int) (j : Int) (.slice (some ⟨gr, 0, none⟩) N N)
      refine bodyPost_ret (v := .tuple #[.agg #[.int .i64 j, .int .i64 j, .slice (some ⟨gr, 0, none⟩) N N], .int .i64 0]) (by simp [results, Tryz.results22, go_sem, hX5.cell0, hX5.cell1, hX5.cell2]) rfl ⟨.inl ⟨HR2.out, gr, N, rfl, Nat.le_refl _, ?_, hgrs⟩, below_gb HI.out.gb g5 (by omega) HI.out.gb.size⟩
      rw [← HX.out]
      exact HI.out.R.of_block (g5.block gr HI.out.R.lt (by simp; exact fun e => hzr e.symm))
end Go.Proofs.YtfjkdmiaagalhaaGreat

namespace Go.Proofs.YtfjkdmiaagalhaaGreat
open Go.RowKit Go.Lib

/-- A matrix that is being made, its box, and the boxes of what is handed in and out. -/
structure OI (w : World) (g N pb r c pr pc : Nat) (va : Value) (G : Nat → K) (wr : World) : Prop where
  G : KB wr g N G
  a : Br wr w.heap.size r c va
  z : Br wr (w.heap.size + 1) 0 0 (.slice none 0 0)
  p : Br wr pb pr pc (.slice (some ⟨g, 0, none⟩) N N)
  gr : Below w.heap.size w wr
section
variable {w : World} {g N pb r c pr pc : Nat} {va : Value} {G G' : Nat → K} {wr w' : World}
theorem OI.below (h : OI w g N pb r c pr pc va G wr) (hb : Below wr.heap.size wr w') : OI w g N pb r c pr pc va G w' :=
  ⟨h.G.below hb (Nat.le_refl _), h.a.below hb (Nat.le_refl _), h.z.below hb (Nat.le_refl _), h.p.below hb (Nat.le_refl _), below_step h.gr hb⟩
theorem OI.set (h : OI w g N pb r c pr pc va G wr) (i : Nat) (hi : i < N) (x : K) (hg : w.heap.size ≤ g) : OI w g N pb r c pr pc va (fun k => if k = i then x else G k) (wr.setCell ⟨g, i, none⟩ (.int .i64 ((x.v : Nat) : Int))) := by
  have gs := gb_set wr g i (.int .i64 ((x.v : Nat) : Int))
  exact ⟨h.G.set i hi x, h.a.gb gs (h.a.ne h.G), h.z.gb gs (h.z.ne h.G), h.p.gb gs (h.p.ne h.G), below_gb h.gr gs hg h.gr.size⟩
theorem OI.congr (h : OI w g N pb r c pr pc va G wr) (e : ∀ t, t < N → G t = G' t) : OI w g N pb r c pr pc va G' wr := ⟨h.G.congr e, h.a, h.z, h.p, h.gr⟩
end

end Go.Proofs.YtfjkdmiaagalhaaGreat

namespace Go.Proofs.YtfjkdmiaagalhaaGreat
open Go.RowKit Go.Lib

/-- i rows are done, and j members of the next. -/
def mulS (c : Nat) (M : Mt) (i j : Nat) : Nat → K := fun t => if t / c < i ∨ (t / c = i ∧ t % c < j) then M (t / c) (t % c) else 0
theorem mulS_next (c : Nat) (M : Mt) (i t : Nat) (hc : 0 < c) : mulS c M i c t = mulS c M (i + 1) 0 t := by
  have := Nat.mod_lt t hc
  unfold mulS
  by_cases h : t / c < i ∨ (t / c = i ∧ t % c < c)
  · rw [if_pos h, if_pos (by omega)]
  · rw [if_neg h, if_neg (by omega)]
theorem mulS_step (c : Nat) (M : Mt) (i j t : Nat) (hj : j < c) : (if t = i * c + j then M i j else mulS c M i j t) = mulS c M i (j + 1) t := by
  by_cases h : t = i * c + j
  · subst h
    rw [if_pos rfl, mulS, div_at hj, mod_at hj, if_pos (by omega)]
  · rw [if_neg h]
    unfold mulS
    by_cases h2 : t / c < i ∨ (t / c = i ∧ t % c < j)
    · rw [if_pos h2, if_pos (by omega)]
    · rw [if_neg h2, if_neg]
      intro h3
      exact h (at_eq (by omega) (by omega))
theorem mulS_all (c n : Nat) (M : Mt) (t : Nat) (h : t < n * c) : mulS c M n 0 t = flat c M t := by
  rw [mulS, if_pos (.inl (div_lt h)), flat]
theorem mulS_zero (c : Nat) (M : Mt) (t : Nat) : mulS c M 0 0 t = 0 := by
  rw [mulS, if_neg (fun h => by rcases h with h | h; exact Nat.not_lt_zero _ h; exact Nat.not_lt_zero _ h.2)]

structure RMul (w : World) (g N pb ra ca cb : Nat) (va vb : Value) (G : Nat → K) (wr : World) : Prop where
  G : KB wr g N G
  a : Br wr w.heap.size ra ca va
  b : Br wr (w.heap.size + 1) ca cb vb
  r : Br wr (w.heap.size + 2) 0 0 (.slice none 0 0)
  p : Br wr pb ra cb (.slice (some ⟨g, 0, none⟩) N N)
  gr : Below w.heap.size w wr
theorem RMul.below {w : World} {g N pb ra ca cb : Nat} {va vb : Value} {G : Nat → K} {wr w' : World} (h : RMul w g N pb ra ca cb va vb G wr) (hb : Below wr.heap.size wr w') : RMul w g N pb ra ca cb va vb G w' :=
  ⟨h.G.below hb (Nat.le_refl _), h.a.below hb (Nat.le_refl _), h.b.below hb (Nat.le_refl _), h.r.below hb (Nat.le_refl _), h.p.below hb (Nat.le_refl _), below_step h.gr hb⟩
theorem RMul.set {w : World} {g N pb ra ca cb : Nat} {va vb : Value} {G : Nat → K} {wr : World} (h : RMul w g N pb ra ca cb va vb G wr) (i : Nat) (hi : i < N) (x : K) (hg : w.heap.size ≤ g) : RMul w g N pb ra ca cb va vb (fun k => if k = i then x else G k) (wr.setCell ⟨g, i, none⟩ (.int .i64 ((x.v : Nat) : Int))) := by
  have gs := gb_set wr g i (.int .i64 ((x.v : Nat) : Int))
  exact ⟨h.G.set i hi x, h.a.of_block (gs.block _ h.a.lt (by simp; exact h.a.ne h.G)), h.b.of_block (gs.block _ h.b.lt (by simp; exact h.b.ne h.G)), h.r.of_block (gs.block _ h.r.lt (by simp; exact h.r.ne h.G)), h.p.of_block (gs.block _ h.p.lt (by simp; exact h.p.ne h.G)), below_gb h.gr gs hg h.gr.size⟩
theorem RMul.congr {w : World} {g N pb ra ca cb : Nat} {va vb : Value} {G G' : Nat → K} {wr : World} (h : RMul w g N pb ra ca cb va vb G wr) (e : ∀ t, t < N → G t = G' t) : RMul w g N pb ra ca cb va vb G' wr := ⟨h.G.congr e, h.a, h.b, h.r, h.p, h.gr⟩

end Go.Proofs.YtfjkdmiaagalhaaGreat

namespace Go.Proofs.YtfjkdmiaagalhaaGreat
open Go.RowKit Go.Lib

/-- The boxes of what is handed in and out. -/
structure PS (w : World) (r c : Nat) (va : Value) (wr : World) : Prop where
  a : Br wr w.heap.size r c va
  z : Br wr (w.heap.size + 1) 0 0 (.slice none 0 0)
  gr : Below w.heap.size w wr
theorem PS.below {w : World} {r c : Nat} {va : Value} {wr w' : World} (h : PS w r c va wr) (hb : Below wr.heap.size wr w') : PS w r c va w' :=
  ⟨h.a.below hb (Nat.le_refl _), h.z.below hb (Nat.le_refl _), below_step h.gr hb⟩

set_option maxRecDepth 100000 in
set_option maxHeartbeats 1600000 in
theorem refPick_in {w : World} {f f' r c k : Nat} {va vr : Value} {A : Nat → K} {Z : Nat → Int} (a1 : 1 ≤ r) (a2 : r ≤ 255) (c1 : 1 ≤ c) (c2 : c ≤ 255) (k1 : 1 ≤ k) (k2 : k ≤ 255)
    (hA : NX w f va (r * c) (fun t => (((A t).v : Nat) : Int))) (hr : NX w f' vr k Z) :
    Calls Tryz.prog 21 #[.agg #[.int .i64 r, .int .i64 c, va], vr] w fun e w' =>
      ((upB ((r : Int) - 1) Z k = true ∧ ∃ g, e = .returned (.tuple #[.agg #[.int .i64 k, .int .i64 c, .slice (some ⟨g, 0, none⟩) (k * c) (k * c)], .int .i64 0]) ∧ KB w' g (k * c) (flat c (fun i j => mt c A (Z i).toNat j)) ∧ w.heap.size ≤ g) ∨
       (upB ((r : Int) - 1) Z k = false ∧ e = .returned (.tuple #[.agg #[.int .i64 0, .int .i64 0, .slice none 0 0], .int .i64 1]))) ∧ Below w.heap.size w w' := by
  have hNA : r * c ≤ 255 * 255 := Nat.mul_le_mul a2 c2
  have hNN : k * c ≤ 255 * 255 := Nat.mul_le_mul k2 c2
  have hA0 : r * c ≠ 0 := Nat.mul_ne_zero (by omega) (by omega)
  obtain ⟨ba, oa, cpa, rfl, ha3, ha4, ha5⟩ := hA.at hA0
  obtain ⟨br, orr, cpr, rfl, hr3, hr4, hr5⟩ := hr.at (by omega : k ≠ 0)
  have EA := chk_ok a1 a2 c1 c2 A
  have HZ : Hid _ := fun w => refzero_any w k c k2 c2
  have QA : Hid (∀ i j, i < r → j < c → i * c + j < r * c) := fun i j hi hj => at_lt hi hj
  have QN : Hid (∀ i j, i < k → j < c → i * c + j < k * c) := fun i j hi hj => at_lt hi hj
  have QP : Hid (∀ (Q : Mt) t, t < k * c → mulS c Q k 0 t = flat c Q t) := fun Q t ht => mulS_all c k Q t ht
  obtain ⟨Q, hQ⟩ : ∃ Q : Mt, Q = fun i j => mt c A (Z i).toNat j := ⟨_, rfl⟩
  rw [← hQ]
  have HQ := hide hQ
  clear hQ
  generalize r * c = NA at *
  generalize k * c = N at *
  obtain ⟨oA, hoA⟩ : ∃ o, o = Obj.cells #[.int .i64 r, .int .i64 c, (.slice (some ⟨ba, oa, none⟩) NA cpa)] 57 := ⟨_, rfl⟩
  obtain ⟨oR, hoR⟩ : ∃ o, o = Obj.cells #[.int .i64 0, .int .i64 0, .slice none 0 0] 57 := ⟨_, rfl⟩
  have L2 := below_alloc (below_alloc (Below.refl w.heap.size w) oA) oR
  have A2 := (hA.alloc oA).alloc oR
  have X1 := (show Br (w.alloc oA) w.heap.size r c (.slice (some ⟨ba, oa, none⟩) NA cpa) by rw [hoA]; exact Br.new _ _ _ _).alloc oR
  have X2 := show Br ((w.alloc oA).alloc oR) (w.alloc oA).heap.size 0 0 (.slice none 0 0) by rw [hoR]; exact Br.new _ _ _ _
  rw [show (w.alloc oA).heap.size = w.heap.size + 1 by simp] at X2
  rw [hoA, hoR] at L2 A2 X1 X2
  have HA1 := hide A2
  have HI : Hid (PS w r c (.slice (some ⟨ba, oa, none⟩) NA cpa) _) := ⟨X1, X2, L2⟩
  have HA := hide hA
  have HRR := hide hr
  clear A2 X1 X2 L2 hA hr hoA hoR
  have d1 : ¬ (k : Int) < 1 := by omega
  have d2 : ¬ (255 : Int) < (k : Int) := by omega
  go_enter Tryz.func21, Tryz.ntmps21
  go_wp2_with fail
  refine (refCheck_any HA1.out (by omega)).mono ?_
  rintro e w1 ⟨rfl, k1'⟩
  rw [EA]
  have HI1 := hide (HI.out.below k1')
  clear HI HA1 k1'
  go_wp2
  go_loopw [7] (fun z wr => ∃ i : Nat, i ≤ k ∧ z = .int .i64 i ∧ upB ((r : Int) - 1) Z i = true ∧ PS w r c (.slice (some ⟨ba, oa, none⟩) NA cpa) wr) (fun z _ => k - (RowKit.intOf z).toNat)
  case atStart => exact ⟨0, Nat.zero_le _, rfl, rfl, HI1.out⟩
  case round =>
    obtain ⟨i, hi, rfl, hu, I⟩ := hrel
    clear HI1
    by_cases hlt : i < k
    · have b1 : (i : Int) < (k : Int) := by omega
      have b0 : (0 : Int) ≤ (i : Int) := by omega
      have b2 : (i : Int).toNat = i := by omega
      have rc := (HRR.out.below I.gr).cell_at i hlt
      have m0 := I.a.cell0
      by_cases hz : 0 ≤ Z i
      · by_cases hz2 : Z i ≤ (r : Int) - 1
        · have hd1 : decide (Z i < 0) = false := decide_eq_false (by omega)
          have hd2 : decide ((r : Int) ≤ Z i) = false := decide_eq_false (by omega)
          have HU : Hid (upB ((r : Int) - 1) Z (i + 1) = true) := by show _ = _; rw [upB_succ, decide_eq_true hz, decide_eq_true hz2, hu]; rfl
          have HI : Hid (∀ q, PS w r c (.slice (some ⟨ba, oa, none⟩) NA cpa) (wr.drewN q)) := fun q => ⟨I.a, I.z, below_drew I.gr q⟩
          clear I hu hz hz2
          generalize Z i = zi at *
          go_wp2_with fail
          go_quiet (fail)
          go_wp2
          exact ⟨⟨i + 1, by omega, by go_num, HU.out, HI.out _⟩, by simp [RowKit.intOf]; omega⟩
        · have hd1 : decide (Z i < 0) = false := decide_eq_false (by omega)
          have hd2 : decide ((r : Int) ≤ Z i) = true := decide_eq_true (by omega)
          have HU : Hid (upB ((r : Int) - 1) Z k = false) := upB_false _ Z k i hlt (by rw [decide_eq_true hz, decide_eq_false hz2]; rfl)
          have HI : Hid (∀ q, PS w r c (.slice (some ⟨ba, oa, none⟩) NA cpa) (wr.drewN q)) := fun q => ⟨I.a, I.z, below_drew I.gr q⟩
          have z0 := I.z.cell0
          have z1 := I.z.cell1
          have z2 := I.z.cell2
          have zf := I.z.free
          clear I hu hz hz2
          generalize Z i = zi at *
          go_wp2_with fail
          go_quiet (fail)
          go_wp2
          obtain ⟨hX5, g5⟩ := (HI.out nq).z.put (0 : Int) (0 : Int) (.slice none 0 0)
          exact bodyPost_ret (v := .tuple #[.agg #[.int .i64 0, .int .i64 0, .slice none 0 0], .int .i64 1]) (by simp [results, Tryz.results21, go_sem, hX5.cell0, hX5.cell1, hX5.cell2]) rfl ⟨.inr ⟨HU.out, rfl⟩, below_gb (HI.out nq).gr g5 (by omega) (HI.out nq).gr.size⟩
      · have hd1 : decide (Z i < 0) = true := decide_eq_true (by omega)
        have HU : Hid (upB ((r : Int) - 1) Z k = false) := upB_false _ Z k i hlt (by rw [decide_eq_false hz]; rfl)
        have HI : Hid (∀ q, PS w r c (.slice (some ⟨ba, oa, none⟩) NA cpa) (wr.drewN q)) := fun q => ⟨I.a, I.z, below_drew I.gr q⟩
        have z0 := I.z.cell0
        have z1 := I.z.cell1
        have z2 := I.z.cell2
        have zf := I.z.free
        clear I hu hz
        generalize Z i = zi at *
        go_wp2_with fail
        go_quiet (fail)
        go_wp2
        obtain ⟨hX5, g5⟩ := (HI.out nq).z.put (0 : Int) (0 : Int) (.slice none 0 0)
        exact bodyPost_ret (v := .tuple #[.agg #[.int .i64 0, .int .i64 0, .slice none 0 0], .int .i64 1]) (by simp [results, Tryz.results21, go_sem, hX5.cell0, hX5.cell1, hX5.cell2]) rfl ⟨.inr ⟨HU.out, rfl⟩, below_gb (HI.out nq).gr g5 (by omega) (HI.out nq).gr.size⟩
    · obtain rfl : i = k := by omega
      have b1 : ¬ (i : Int) < (i : Int) := by omega
      have m0 := I.a.cell0
      have m1 := I.a.cell1
      have HU := hide hu
      have HI := hide I
      clear I hu
      have HP : Hid (∀ t, t < i → (Z t).toNat < r ∧ (((Z t).toNat : Nat) : Int) = Z t) := fun t ht => by have := upB_at _ Z i t HU.out ht; omega
      go_wp2_with fail
      refine Calls.mono (HZ.out _) ?_
      rintro e w3 ⟨g, rfl, hG, hgs, k3⟩
      have hgs' : w.heap.size ≤ g := Nat.le_trans HI.out.gr.size hgs
      have I : OI w g N w3.heap.size r c i c (.slice (some ⟨ba, oa, none⟩) NA cpa) (mulS c Q 0 0) (w3.alloc (.cells #[.int .i64 i, .int .i64 c, .slice (some ⟨g, 0, none⟩) N N] 57)) :=
        ⟨(hG.congr (fun t _ => (mulS_zero c Q t).symm)).alloc _, (HI.out.a.below k3 (Nat.le_refl _)).alloc _, (HI.out.z.below k3 (Nat.le_refl _)).alloc _, Br.new _ _ _ _, below_alloc (below_step HI.out.gr k3) _⟩
      clear HI
      have HI := hide I
      clear I k3 hG hgs m0 m1 HZ b1
      obtain ⟨k, hk⟩ : ∃ k, k = i := ⟨_, rfl⟩
      subst hk
      go_wp2
      go_loopw [9] (fun z wr => ∃ i : Nat, i ≤ k ∧ z = .int .i64 i ∧ OI w g N w3.heap.size r c k c (.slice (some ⟨ba, oa, none⟩) NA cpa) (mulS c Q i 0) wr) (fun z _ => k - (RowKit.intOf z).toNat)
      case atStart => exact ⟨0, Nat.zero_le _, rfl, HI.out⟩
      case round =>
        obtain ⟨i, hi, rfl, I⟩ := hrel
        clear HI
        by_cases hlt1 : i < k
        · have HI := hide I
          clear I
          have b0 : (i : Int) < (k : Int) := by omega
          go_wp2
          go_loopw [10] (fun z wr => ∃ j : Nat, j ≤ c ∧ z = .int .i64 j ∧ OI w g N w3.heap.size r c k c (.slice (some ⟨ba, oa, none⟩) NA cpa) (mulS c Q i j) wr) (fun z _ => c - (RowKit.intOf z).toNat)
          case atStart => exact ⟨0, Nat.zero_le _, rfl, HI.out⟩
          case round =>
            obtain ⟨j, hj, rfl, I⟩ := hrel
            clear HI
            have m0 := I.a.cell0
            have m1 := I.a.cell1
            have m2 := I.a.cell2
            by_cases hlt2 : j < c
            · have m3 := I.p.cell2
              obtain ⟨x, hx⟩ : ∃ x, x = i * c := ⟨_, rfl⟩
              have hxi : (i : Int) * (c : Int) = (x : Int) := by rw [← Int.natCast_mul, hx]
              have hxN : x + j < N := by rw [hx]; exact QN.out i j hlt1 hlt2
              obtain ⟨pi, hpi⟩ : ∃ pi, pi = (Z i).toNat := ⟨_, rfl⟩
              obtain ⟨hp1, hp2⟩ := HP.out i hlt1
              rw [← hpi] at hp1 hp2
              have m4 := (HRR.out.below I.gr).cell_at i hlt1
              rw [← hp2] at m4
              obtain ⟨y, hy⟩ : ∃ y, y = A (pi * c + j) := ⟨_, rfl⟩
              obtain ⟨ov, hov⟩ : ∃ ov, ov = Value.int .i64 (((mulS c Q i j (x + j)).v : Nat) : Int) := ⟨_, rfl⟩
              have R1 : Hid (∀ (v u1 u2 : Value) (w' : World), v = .agg #[.int .i64 r, .int .i64 c, (.slice (some ⟨ba, oa, none⟩) NA cpa)] → u1 = .int .i64 ((pi : Nat) : Int) → u2 = .int .i64 j → Below wr.heap.size wr w' → Calls Tryz.prog 40 #[v, u1, u2] w' fun e w'' => e = .returned (.int .i64 ((y.v : Nat) : Int)) ∧ Below wr.heap.size wr w'' ∧ ((w''.cell? ⟨w.heap.size, 0, none⟩ = some (.int .i64 r) ∧ w''.cell? ⟨w.heap.size, 1, none⟩ = some (.int .i64 c) ∧ w''.cell? ⟨w.heap.size, 2, none⟩ = some (.slice (some ⟨ba, oa, none⟩) NA cpa)) ∧ w''.cell? ⟨w3.heap.size, 2, none⟩ = some (.slice (some ⟨g, 0, none⟩) N N) ∧ w''.cell? ⟨br, orr + i, none⟩ = some (.int .i64 ((pi : Nat) : Int))) ∧ w''.cell? ⟨g, x + j, none⟩ = some ov ∧ w''.frozen? ⟨g, x + j, none⟩ = false) := by
                intro v u1 u2 w' h1 h2 h3 hb
                subst h1 h2 h3
                refine (at_any (r := (r : Int)) (c := c) (i := pi) (j := j) (HA.out.below (below_step I.gr hb)) rfl (QA.out pi j hp1 hlt2) (by have := QA.out pi j hp1 hlt2; omega) (by omega)).mono ?_
                rintro e w'' ⟨rfl, q⟩
                have I' := I.below (below_step hb q)
                exact ⟨by rw [hy], below_step hb q, ⟨I'.a.mc, I'.p.cell2, by rw [hp2]; exact (HRR.out.below I'.gr).cell_at i hlt1⟩, by rw [I'.G.cell _ hxN, hov], I'.G.free _⟩
              have FIN : Hid (∀ w', Below wr.heap.size wr w' → OI w g N w3.heap.size r c k c (.slice (some ⟨ba, oa, none⟩) NA cpa) (mulS c Q i (j + 1)) (w'.setCell ⟨g, x + j, none⟩ (.int .i64 ((y.v : Nat) : Int)))) := by
                intro w' hb
                have hq : y = Q i j := by rw [hy, HQ.out, hpi]; rfl
                exact ((I.below hb).set (x + j) hxN y hgs').congr (fun t _ => by rw [hx, hq]; exact mulS_step c Q i j t hlt2)
              have na := I.a.ne I.G
              have np := I.p.ne I.G
              have nr : br ≠ g := by omega
              have b0' : (0 : Int) ≤ (i : Int) := by omega
              have b2 : (i : Int).toNat = i := by omega
              have b1 : (j : Int) < (c : Int) := by omega
              have b5 : (0 : Int) ≤ (x : Int) + (j : Int) := by omega
              have b6 : (x : Int) + (j : Int) < (N : Int) := by omega
              have b7 : ((x : Int) + (j : Int)).toNat = x + j := by omega
              have hwb : IntKind.i64.wrap ((i : Int) * (c : Int)) = (x : Int) := by rw [hxi]; exact wraps_i64 _ (by omega) (by omega)
              have hwc : IntKind.i64.wrap ((x : Int) + (j : Int)) = (x : Int) + (j : Int) := wraps_i64 _ (by omega) (by omega)
              have HB0 : Hid (Below wr.heap.size wr wr.drew) := (Below.refl _ _).drew
              clear I hx hy hov hxi hpi hp2
              go_wp2_with fail
              go_region_held3 (fun w'' => (w''.cell? ⟨w.heap.size, 0, none⟩ = some (.int .i64 r) ∧ w''.cell? ⟨w.heap.size, 1, none⟩ = some (.int .i64 c) ∧ w''.cell? ⟨w.heap.size, 2, none⟩ = some (.slice (some ⟨ba, oa, none⟩) NA cpa)) ∧ w''.cell? ⟨w3.heap.size, 2, none⟩ = some (.slice (some ⟨g, 0, none⟩) N N) ∧ w''.cell? ⟨br, orr + i, none⟩ = some (.int .i64 ((pi : Nat) : Int))) (first | assumption | exact ⟨⟨by assumption, by assumption, by assumption⟩, by assumption, by assumption⟩ | exact ⟨⟨m0, m1, m2⟩, m3, m4⟩ | exact ⟨⟨(cell_off na).trans (by assumption), (cell_off na).trans (by assumption), (cell_off na).trans (by assumption)⟩, (cell_off np).trans (by assumption), (cell_off nr).trans (by assumption)⟩)
                (first
                  | (go_at_call 40; refine (R1.out _ _ _ _ (by with_reducible rfl) (by with_reducible rfl) (by with_reducible rfl) (by first | assumption | exact HB0.out)).mono ?_; rintro e wa ⟨rfl, ka, ⟨⟨ka1, ka2, ka3⟩, ka4, ka7⟩, ka5, ka6⟩))
              all_goals
                clear R1
                go_wp2
                exact ⟨⟨j + 1, by omega, by go_num, FIN.out _ ka⟩, by simp [RowKit.intOf]; omega⟩
            · obtain rfl : j = c := by omega
              have b1 : ¬ (j : Int) < (j : Int) := by omega
              have HI := hide (I.congr (G' := mulS j Q (i + 1) 0) (fun t _ => mulS_next j Q i t (by omega)))
              clear I
              go_wp2
              exact ⟨⟨i + 1, by omega, by go_num, HI.out⟩, by simp [RowKit.intOf]; omega⟩
        · obtain rfl : i = k := by omega
          have b0 : ¬ (i : Int) < (i : Int) := by omega
          have p0 := I.p.cell0
          have p1 := I.p.cell1
          have p2 := I.p.cell2
          have z0 := I.z.cell0
          have z1 := I.z.cell1
          have z2 := I.z.cell2
          have zf := I.z.free
          have hne := I.z.ne I.G
          have HI := hide I
          clear I
          go_wp2
          obtain ⟨hX5, g5⟩ := HI.out.z.put (i : Int) (c : Int) (.slice (some ⟨g, 0, none⟩) N N)
          refine bodyPost_ret (v := .tuple #[.agg #[.int .i64 i, .int .i64 c, .slice (some ⟨g, 0, none⟩) N N], .int .i64 0]) (by simp [results, Tryz.results21, go_sem, hX5.cell0, hX5.cell1, hX5.cell2]) rfl ⟨.inl ⟨HU.out, g, rfl, ?_, hgs'⟩, below_gb HI.out.gr g5 (by omega) HI.out.gr.size⟩
          exact (HI.out.G.of_block (g5.block g HI.out.G.lt (by simp; exact fun e => hne e.symm))).congr (fun t ht => QP.out Q t ht)
end Go.Proofs.YtfjkdmiaagalhaaGreat
