/-
  The contract of the document's own Rank.
-/
import Derived.Test.YthedeggggbdibaaRefF
import Derived.Test.YthedeggggbdibaaRefG
import Derived.Test.YthedeggggbdibaaRefH
namespace Go.Proofs.Ythedeggggbdibaa
open Go.RowKit Go.Lib

theorem lead_congr {R R' : Mt} {c : Nat} : ∀ (k a : Nat), (∀ i, a ≤ i → i < a + k → R i c = R' i c) → lead R c k a = lead R' c k a
  | 0, _, _ => rfl
  | k + 1, a, h => by
    rw [Go.Proofs.Ythedeggggbdibaa.lead, Go.Proofs.Ythedeggggbdibaa.lead, h a (Nat.le_refl _) (by omega), lead_congr k (a + 1) (fun i h1 h2 => h i (by omega) (by omega))]
theorem redu_full (m : Nat) (R : Mt) (c : Nat) (h : (redu m R c).2 = m) : ∀ d, (redu m R (c + d)).2 = m
  | 0 => h
  | d + 1 => by
    have e := redu_full m R c h d
    show (step m (redu m R (c + d)) (c + d)).2 = m
    rw [Go.Proofs.Ythedeggggbdibaa.step, e, Nat.sub_self]
    exact e
/-- The rows between a and n are cleared. -/
def fcl (R : Mt) (a c n : Nat) : Mt := fun i j => if i = a then R a j * K.inv (R a c) else if a < i ∧ i < n then R i j + R a j * K.inv (R a c) * R i c else R i j
theorem fcl_first (R : Mt) (a c : Nat) (i : Nat) : fcl R a c (a + 1) i = if i = a then (fun j => R a j * K.inv (R a c)) else R i := by
  funext j
  unfold fcl
  by_cases h : i = a
  · rw [if_pos h, if_pos h]
  · rw [if_neg h, if_neg h, if_neg (by omega)]
theorem fcl_old (R : Mt) (a c n i j : Nat) (h1 : i ≠ a) (h2 : n ≤ i) : fcl R a c n i j = R i j := by
  unfold fcl; rw [if_neg h1, if_neg (by omega)]
theorem fcl_other (R : Mt) (a c n i j : Nat) (h : i ≠ n) : fcl R a c (n + 1) i j = fcl R a c n i j := by
  unfold fcl
  by_cases h1 : i = a
  · rw [if_pos h1, if_pos h1]
  · rw [if_neg h1, if_neg h1]
    by_cases h2 : a < i ∧ i < n
    · rw [if_pos h2, if_pos (by omega)]
    · rw [if_neg h2, if_neg (by omega)]
theorem fcl_next (R : Mt) (a c n j : Nat) (h : a < n) : fcl R a c (n + 1) n j = fcl R a c n n j + fcl R a c n a j * R n c := by
  unfold fcl
  rw [if_neg (by omega), if_pos (by omega), if_neg (by omega), if_neg (by omega), if_pos rfl]
theorem fcl_all (R : Mt) (a c m i : Nat) (h1 : a ≤ i) (h2 : i < m) : fcl R a c m i = elim R a c i := by
  funext j
  unfold fcl elim
  by_cases h : i = a
  · rw [if_pos h, if_pos h]
  · rw [if_neg h, if_neg h, if_pos (by omega)]
theorem elim_congr {R R' : Mt} {a c i : Nat} (h1 : R a = R' a) (h2 : R i = R' i) : elim R a c i = elim R' a c i := by
  funext j
  unfold elim; rw [h1, h2]
theorem swp_congr {R R' : Mt} {a b m i : Nat} (h : ∀ k, a ≤ k → k < m → R k = R' k) (hb : a ≤ b) (hbm : b < m) (hi : a ≤ i) (him : i < m) : swp R a b i = swp R' a b i := by
  unfold swp
  split
  · exact h b hb hbm
  · split
    · exact h a (Nat.le_refl _) (by omega)
    · exact h i hi him

/-- A matrix in one block, its box, and the box of what was handed in. -/
structure RKI (w : World) (g N pb r c cp : Nat) (va : Value) (R : Mt) (wr : World) : Prop where
  G : KB wr g N (flat c R)
  a : Br wr w.heap.size r c va
  p : Br wr pb r c (.slice (some ⟨g, 0, none⟩) N cp)
  gr : Below w.heap.size w wr
theorem RKI.below {w : World} {g N pb r c cp : Nat} {va : Value} {R : Mt} {wr w' : World} (h : RKI w g N pb r c cp va R wr) (hb : Below wr.heap.size wr w') : RKI w g N pb r c cp va R w' :=
  ⟨h.G.below hb (Nat.le_refl _), h.a.below hb (Nat.le_refl _), h.p.below hb (Nat.le_refl _), below_step h.gr hb⟩
theorem RKI.turn {w : World} {g N pb r c cp : Nat} {va : Value} {R R' : Mt} {wr w' : World} (h : RKI w g N pb r c cp va R wr) (hK : KB w' g N (flat c R')) (hg : wr.grownBy w' (some g)) (hgs : w.heap.size ≤ g) : RKI w g N pb r c cp va R' w' :=
  ⟨hK, h.a.gb hg (h.a.ne h.G), h.p.gb hg (h.p.ne h.G), below_gb h.gr hg hgs h.gr.size⟩

set_option maxRecDepth 100000 in
set_option maxHeartbeats 1600000 in
theorem refRank_ok {w : World} {f r c : Nat} {va : Value} {A : Nat → K} (a1 : 1 ≤ r) (a2 : r ≤ 255) (c1 : 1 ≤ c) (c2 : c ≤ 255) (hrc : r * c ≤ 1000)
    (hA : NX w f va (r * c) (fun k => (((A k).v : Nat) : Int))) :
    Calls Try.prog 18 #[.agg #[.int .i64 r, .int .i64 c, va]] w fun e w' =>
      e = .returned (.tuple #[.int .i64 ((redu r (mt c A) c).2 : Nat), .int .i64 0]) ∧ Below w.heap.size w w' := by
  have hN0 : r * c ≠ 0 := Nat.mul_ne_zero (by omega) (by omega)
  obtain ⟨ba, oa, ca, rfl, ha3, ha4, ha5⟩ := hA.at hN0
  have EA := chk_ok a1 a2 c1 c2 A
  obtain ⟨M, hM⟩ : ∃ M, M = mt c A := ⟨_, rfl⟩
  rw [← hM]
  have hfm : ∀ k, k < r * c → A k = flat c M k := fun k hk => by rw [hM, flat, mt, Nat.mul_comm, Nat.div_add_mod]
  have HC : Hid (∀ w', Below w.heap.size w w' → Calls Try.prog 42 #[.agg #[.int .i64 r, .int .i64 c, .slice (some ⟨ba, oa, none⟩) (r * c) ca]] w' fun e w'' =>
      ∃ g cp, e = .returned (.agg #[.int .i64 r, .int .i64 c, .slice (some ⟨g, 0, none⟩) (r * c) cp]) ∧ KB w'' g (r * c) (flat c M) ∧ r * c ≤ cp ∧ w'.heap.size ≤ g ∧ Below w'.heap.size w' w'') := by
    intro w' hb
    refine (copied_any (hA.below hb) hN0 hrc).mono ?_
    rintro e w'' ⟨g, cp, rfl, hK, hcp, hg, hb'⟩
    exact ⟨g, cp, rfl, hK.congr hfm, hcp, hg, hb'⟩
  have LEAD : Hid (∀ (w' : World) (g a j cp k : Nat) (R : Mt), KB w' g (r * c) (flat c R) → a + k = r → j < c → r * c ≤ cp → Calls Try.prog 43 #[.agg #[.int .i64 r, .int .i64 c, .slice (some ⟨g, 0, none⟩) (r * c) cp], .int .i64 a, .int .i64 j] w' fun e w'' =>
      e = .returned (.int .i64 (match lead R j k a with | none => -1 | some n => (n : Int))) ∧ Below w'.heap.size w' w'') := fun w' g a j cp k R h1 h2 h3 h4 => lead_any h1 h2 a2 h3 (by omega) h4
  have SWAP : Hid (∀ (w' : World) (g n a cp : Nat) (R : Mt), KB w' g (r * c) (flat c R) → n < r → a < r → r * c ≤ cp → Calls Try.prog 44 #[.agg #[.int .i64 r, .int .i64 c, .slice (some ⟨g, 0, none⟩) (r * c) cp], .int .i64 n, .int .i64 a] w' fun e w'' =>
      e = .returned (.tuple #[]) ∧ KB w'' g (r * c) (flat c (swp R a n)) ∧ w'.grownBy w'' (some g)) := fun w' g n a cp R h1 h2 h3 h4 => swap_any h1 h2 h3 a2 (by omega) h4 (swp R a n) (fun i e1 e2 q => by unfold swp; rw [if_neg e2, if_neg e1]) (fun q _ => by unfold swp; split; (rename_i e; rw [e]); rw [if_pos rfl]) (fun q _ => by unfold swp; rw [if_pos rfl])
  have AT : Hid (∀ (w' : World) (g i j cp : Nat) (R : Mt), KB w' g (r * c) (flat c R) → i < r → j < c → r * c ≤ cp → Calls Try.prog 39 #[.agg #[.int .i64 r, .int .i64 c, .slice (some ⟨g, 0, none⟩) (r * c) cp], .int .i64 i, .int .i64 j] w' fun e w'' =>
      e = .returned (.int .i64 (((R i j).v : Nat) : Int)) ∧ Below w'.heap.size w' w'') := by
    intro w' g i j cp R h1 h2 h3 h4
    have hl := at_lt h2 h3
    have := at_any (r := (r : Int)) (c := c) (i := i) (j := j) (h1.nx (f := g + 1) (c := cp) h4 (by omega)) rfl hl (by omega) (by omega)
    rw [show flat c R (i * c + j) = R i j by rw [flat, div_at h3, mod_at h3]] at this
    exact this
  have SCL : Hid (∀ (w' : World) (g i cp : Nat) (R R' : Mt) (y : K), KB w' g (r * c) (flat c R) → i < r → r * c ≤ cp → (∀ a, a ≠ i → ∀ q, R' a q = R a q) → (∀ q, q < c → R' i q = R i q * y) → Calls Try.prog 46 #[.agg #[.int .i64 r, .int .i64 c, .slice (some ⟨g, 0, none⟩) (r * c) cp], .int .i64 i, .int .i64 ((y.v : Nat) : Int)] w' fun e w'' =>
      e = .returned (.tuple #[]) ∧ KB w'' g (r * c) (flat c R') ∧ w'.grownBy w'' (some g)) := fun w' g i cp R R' y h1 h2 h3 h4 h5 => scale_any h1 h2 a2 (by omega) h3 y R' h4 h5
  have ADD : Hid (∀ (w' : World) (g i k cp : Nat) (R R' : Mt) (y : K), KB w' g (r * c) (flat c R) → i < r → k < r → i ≠ k → r * c ≤ cp → (∀ a, a ≠ i → ∀ q, R' a q = R a q) → (∀ q, q < c → R' i q = R i q + R k q * y) → Calls Try.prog 47 #[.agg #[.int .i64 r, .int .i64 c, .slice (some ⟨g, 0, none⟩) (r * c) cp], .int .i64 i, .int .i64 k, .int .i64 ((y.v : Nat) : Int)] w' fun e w'' =>
      e = .returned (.tuple #[]) ∧ KB w'' g (r * c) (flat c R') ∧ w'.grownBy w'' (some g)) := fun w' g i k cp R R' y h1 h2 h3 h4 h5 h6 h7 => radd_any h1 h2 h3 h4 a2 (by omega) h5 y R' h6 h7
  generalize r * c = N at *
  have A1 := hA.alloc (.cells #[.int .i64 r, .int .i64 c, .slice (some ⟨ba, oa, none⟩) N ca] 29)
  have X1 := Br.new w r c (.slice (some ⟨ba, oa, none⟩) N ca)
  have L1 := below_alloc (Below.refl w.heap.size w) (.cells #[.int .i64 r, .int .i64 c, .slice (some ⟨ba, oa, none⟩) N ca] 29)
  have HA1 := hide A1
  have HX1 := hide X1
  have HL1 := hide L1
  clear A1 X1 L1 hA hM hfm
  go_enter Try.func18, Try.ntmps18
  go_wp2_with fail
  refine (refCheck_any HA1.out (by omega)).mono ?_
  rintro e w1 ⟨rfl, k1⟩
  rw [EA]
  have X1 := HX1.out.below k1 (Nat.le_refl _)
  have L1 := below_step HL1.out k1
  have m0 := X1.cell0
  have m1 := X1.cell1
  have m2 := X1.cell2
  clear HX1 HL1 HA1 k1
  have HX1 := hide X1
  have HL1 := hide L1
  clear X1 L1
  go_wp2_with fail
  refine (HC.out _ HL1.out).mono ?_
  rintro e w2 ⟨g, cp, rfl, hK, hcp, hg, k2⟩
  have I : RKI w g N w2.heap.size r c cp (.slice (some ⟨ba, oa, none⟩) N ca) M (w2.alloc (.cells #[.int .i64 r, .int .i64 c, .slice (some ⟨g, 0, none⟩) N cp] 29)) :=
    ⟨hK.alloc _, (HX1.out.below k2 (Nat.le_refl _)).alloc _, Br.new _ _ _ _, below_alloc (below_step HL1.out k2) _⟩
  have hgs : w.heap.size ≤ g := Nat.le_trans HL1.out.size hg
  have HI := hide I
  clear HX1 HL1 k2 hK I m0 m1 m2 hg HC
  go_wp2
  go_loopw [6, 7] (fun y z wr => ∃ (j : Nat) (R : Mt), j ≤ c ∧ z = .int .i64 j ∧ y = .int .i64 ((redu r M j).2 : Nat) ∧ (redu r M j).2 ≤ r ∧ (∀ i, (redu r M j).2 ≤ i → i < r → R i = (redu r M j).1 i) ∧ RKI w g N w2.heap.size r c cp (.slice (some ⟨ba, oa, none⟩) N ca) R wr) (fun _ z _ => c - (intOf z).toNat)
  case atStart => exact ⟨0, M, Nat.zero_le _, rfl, rfl, Nat.zero_le _, fun _ _ _ => rfl, HI.out⟩
  case round =>
    obtain ⟨j, R, hj, rfl, rfl, hle, hR, I⟩ := hrel
    clear HI
    obtain ⟨at', hat⟩ : ∃ a, a = (redu r M j).2 := ⟨_, rfl⟩
    obtain ⟨T, hT⟩ : ∃ T, T = (redu r M j).1 := ⟨_, rfl⟩
    rw [← hat] at hle hR ⊢
    rw [← hT] at hR
    have hst0 : redu r M (j + 1) = step r (redu r M j) j := rfl
    have m0 := I.a.cell0
    have m1 := I.a.cell1
    by_cases hlt : j < c
    · have b1 : (j : Int) < (c : Int) := by omega
      by_cases hlt2 : at' < r
      · have b2 : (at' : Int) < (r : Int) := by omega
        have p0 := I.p.cell0
        have p1 := I.p.cell1
        have p2 := I.p.cell2
        have hl := lead_congr (R := R) (R' := T) (c := j) (r - at') at' (fun i h1 h2 => by rw [hR i h1 (by omega)])
        have HLD : Hid _ := LEAD.out wr g at' j cp (r - at') R I.G (by omega) hlt hcp
        cases hld : lead R j (r - at') at' with
        | none =>
          have hst : redu r M (j + 1) = redu r M j := by rw [hst0]; unfold step; rw [← hat, ← hT, ← hl, hld]
          rw [hld] at HLD
          have HI := hide I
          have HR := hide hR
          have HST := hide hst
          have HAT := hide hat
          have HT := hide hT
          clear I hR hst hat hT hl hld hst0
          go_wp2_with fail
          refine Calls.mono HLD.out ?_
          rintro e w3 ⟨rfl, q3⟩
          have HI3 := hide (HI.out.below q3)
          clear HI q3 m0 m1 p0 p1 p2 HLD
          go_wp2
          exact ⟨⟨j + 1, R, by omega, by go_num, by rw [HST.out, HAT.out], by rw [HST.out, ← HAT.out]; exact hle, by rw [HST.out, ← HAT.out, ← HT.out]; exact HR.out, HI3.out⟩, by simp [intOf]; omega⟩
        | some n =>
          obtain ⟨n1, n2, n3, n4⟩ := lead_some hld
          have hst : redu r M (j + 1) = (elim (swp T at' n) at' j, at' + 1) := by rw [hst0]; unfold step; rw [← hat, ← hT, ← hl, hld]
          rw [hld] at HLD
          have hnr : n < r := by omega
          obtain ⟨R1, hR1⟩ : ∃ R1, R1 = swp R at' n := ⟨_, rfl⟩
          have hpv : R1 at' j ≠ 0 := by rw [hR1]; unfold swp; rw [if_pos rfl]; exact n3
          have hRT : ∀ i, at' ≤ i → i < r → R1 i = swp T at' n i := fun i h1 h2 => by rw [hR1]; exact swp_congr hR n1 hnr h1 h2
          have HI := hide I
          have HST := hide hst
          have HRT := hide hRT
          have HPV := hide hpv
          have HR1 := hide hR1
          have b4 : ¬ (n : Int) < 0 := by omega
          clear I hR hst hat hT hl hld hst0 n2 n3 n4 hRT hpv hR1
          go_wp2_with fail
          refine Calls.mono HLD.out ?_
          rintro e w3 ⟨rfl, q3⟩
          have I3 := HI.out.below q3
          clear HI q3 m0 m1 p0 p1 p2 HLD
          have p0 := I3.p.cell0
          have p1 := I3.p.cell1
          have p2 := I3.p.cell2
          have HSW : Hid _ := SWAP.out w3 g n at' cp R I3.G hnr hlt2 hcp
          rw [← HR1.out] at HSW
          have HI3 := hide I3
          clear I3
          go_wp2_with fail
          refine Calls.mono HSW.out ?_
          rintro e w4 ⟨rfl, hK4, g4⟩
          have I4 := HI3.out.turn hK4 g4 hgs
          clear HSW HI3 hK4 g4 p0 p1 p2 HR1
          have p0 := I4.p.cell0
          have p1 := I4.p.cell1
          have p2 := I4.p.cell2
          obtain ⟨x, hx⟩ : ∃ x, x = R1 at' j := ⟨_, rfl⟩
          have C1 : Hid (∀ (v u1 u2 : Value) (w' : World), v = .agg #[.int .i64 r, .int .i64 c, .slice (some ⟨g, 0, none⟩) N cp] → u1 = .int .i64 at' → u2 = .int .i64 j → Below w4.heap.size w4 w' → Calls Try.prog 39 #[v, u1, u2] w' fun e w'' => e = .returned (.int .i64 ((x.v : Nat) : Int)) ∧ Below w4.heap.size w4 w'' ∧ (w''.cell? ⟨w2.heap.size, 0, none⟩ = some (.int .i64 r) ∧ w''.cell? ⟨w2.heap.size, 1, none⟩ = some (.int .i64 c) ∧ w''.cell? ⟨w2.heap.size, 2, none⟩ = some (.slice (some ⟨g, 0, none⟩) N cp))) := by
            intro v u1 u2 w' h1 h2 h3 hb
            subst h1 h2 h3
            refine (AT.out w' g at' j cp R1 (I4.below hb).G hlt2 hlt hcp).mono ?_
            rintro e w'' ⟨rfl, q⟩
            exact ⟨by rw [hx], below_step hb q, (I4.below (below_step hb q)).p.mc⟩
          have C2 : Hid (∀ (u1 u2 : Value) (w' : World), u1 = .int .i64 1 → u2 = .int .i64 ((x.v : Nat) : Int) → Calls Try.prog 45 #[u1, u2] w' fun e w'' => e = .returned (.int .i64 (((K.inv x).v : Nat) : Int)) ∧ w'' = w') := fun u1 u2 w' h1 h2 => by rw [h1, h2]; exact over_any 1 x.v (by decide) x.lt (K.v_ne (by rw [hx]; exact HPV.out)) w'
          have C3 : Hid (∀ (v u1 u2 : Value) (w' : World), v = .agg #[.int .i64 r, .int .i64 c, .slice (some ⟨g, 0, none⟩) N cp] → u1 = .int .i64 at' → u2 = .int .i64 (((K.inv x).v : Nat) : Int) → Below w4.heap.size w4 w' → Calls Try.prog 46 #[v, u1, u2] w' fun e w'' => e = .returned (.tuple #[]) ∧ RKI w g N w2.heap.size r c cp (.slice (some ⟨ba, oa, none⟩) N ca) (fcl R1 at' j (at' + 1)) w'' ∧ (w''.cell? ⟨w2.heap.size, 0, none⟩ = some (.int .i64 r) ∧ w''.cell? ⟨w2.heap.size, 1, none⟩ = some (.int .i64 c) ∧ w''.cell? ⟨w2.heap.size, 2, none⟩ = some (.slice (some ⟨g, 0, none⟩) N cp))) := by
            intro v u1 u2 w' h1 h2 h3 hb
            subst h1 h2 h3
            have I5 := I4.below hb
            refine (SCL.out w' g at' cp R1 (fcl R1 at' j (at' + 1)) (K.inv x) I5.G hlt2 hcp (fun a ha q => by rw [fcl_first, if_neg ha]) (fun q _ => by rw [fcl_first, if_pos rfl, hx])).mono ?_
            rintro e w'' ⟨rfl, hK, hg⟩
            have I6 := I5.turn hK hg hgs
            exact ⟨rfl, I6, I6.p.mc⟩
          have HB0 : Hid (Below w4.heap.size w4 w4.drew) := (Below.refl _ _).drew
          clear I4 hx
          generalize (K.inv x).v = ix at *
          generalize x.v = xv at *
          go_wp2_with fail
          go_region_held3 (fun w'' => w''.cell? ⟨w2.heap.size, 0, none⟩ = some (.int .i64 r) ∧ w''.cell? ⟨w2.heap.size, 1, none⟩ = some (.int .i64 c) ∧ w''.cell? ⟨w2.heap.size, 2, none⟩ = some (.slice (some ⟨g, 0, none⟩) N cp)) (first | assumption | exact ⟨by assumption, by assumption, by assumption⟩ | exact ⟨p0, p1, p2⟩)
            (first
              | (go_at_call 39; refine (C1.out _ _ _ _ (by with_reducible rfl) (by with_reducible rfl) (by with_reducible rfl) (by first | assumption | exact HB0.out)).mono ?_; rintro e wa ⟨rfl, ka, ⟨ka1, ka2, ka3⟩⟩)
              | (go_at_call 45; refine (C2.out _ _ _ (by with_reducible rfl) (by with_reducible rfl)).mono ?_; rintro e wz ⟨rfl, hwz⟩; subst wz)
              | (go_at_call 46; refine (C3.out _ _ _ _ (by with_reducible rfl) (by with_reducible rfl) (by with_reducible rfl) (by first | assumption | exact HB0.out)).mono ?_; rintro e wb ⟨rfl, kb, ⟨kb1, kb2, kb3⟩⟩))
          all_goals
            clear C1 C2 C3
            have HI := hide kb
            clear kb kb1 kb2 kb3
            go_wp2
            go_loopw [9] (fun z wr => ∃ i : Nat, at' + 1 ≤ i ∧ i ≤ r ∧ z = .int .i64 i ∧ RKI w g N w2.heap.size r c cp (.slice (some ⟨ba, oa, none⟩) N ca) (fcl R1 at' j i) wr) (fun z _ => r - (intOf z).toNat)
            case atStart => exact ⟨at' + 1, Nat.le_refl _, by omega, by go_num, HI.out⟩
            case round =>
              obtain ⟨i, hi1, hi2, rfl, I⟩ := hrel
              clear HI p0 p1 p2
              have m0 := I.a.cell0
              by_cases hlt3 : i < r
              · have b3 : (i : Int) < (r : Int) := by omega
                have p0 := I.p.cell0
                have p1 := I.p.cell1
                have p2 := I.p.cell2
                have hia : i ≠ at' := by omega
                obtain ⟨y, hy⟩ : ∃ y, y = R1 i j := ⟨_, rfl⟩
                have C1 : Hid (∀ (v u1 u2 : Value) (w' : World), v = .agg #[.int .i64 r, .int .i64 c, .slice (some ⟨g, 0, none⟩) N cp] → u1 = .int .i64 i → u2 = .int .i64 j → Below wr.heap.size wr w' → Calls Try.prog 39 #[v, u1, u2] w' fun e w'' => e = .returned (.int .i64 ((y.v : Nat) : Int)) ∧ Below wr.heap.size wr w'' ∧ (w''.cell? ⟨w2.heap.size, 0, none⟩ = some (.int .i64 r) ∧ w''.cell? ⟨w2.heap.size, 1, none⟩ = some (.int .i64 c) ∧ w''.cell? ⟨w2.heap.size, 2, none⟩ = some (.slice (some ⟨g, 0, none⟩) N cp))) := by
                  intro v u1 u2 w' h1 h2 h3 hb
                  subst h1 h2 h3
                  refine (AT.out w' g i j cp (fcl R1 at' j i) (I.below hb).G hlt3 hlt hcp).mono ?_
                  rintro e w'' ⟨rfl, q⟩
                  exact ⟨by rw [hy, fcl_old _ _ _ _ _ _ hia (Nat.le_refl _)], below_step hb q, (I.below (below_step hb q)).p.mc⟩
                have C3 : Hid (∀ (v u1 u2 u3 : Value) (w' : World), v = .agg #[.int .i64 r, .int .i64 c, .slice (some ⟨g, 0, none⟩) N cp] → u1 = .int .i64 i → u2 = .int .i64 at' → u3 = .int .i64 ((y.v : Nat) : Int) → Below wr.heap.size wr w' → Calls Try.prog 47 #[v, u1, u2, u3] w' fun e w'' => e = .returned (.tuple #[]) ∧ RKI w g N w2.heap.size r c cp (.slice (some ⟨ba, oa, none⟩) N ca) (fcl R1 at' j (i + 1)) w'' ∧ (w''.cell? ⟨w2.heap.size, 0, none⟩ = some (.int .i64 r) ∧ w''.cell? ⟨w2.heap.size, 1, none⟩ = some (.int .i64 c) ∧ w''.cell? ⟨w2.heap.size, 2, none⟩ = some (.slice (some ⟨g, 0, none⟩) N cp))) := by
                  intro v u1 u2 u3 w' h1 h2 h3 h4 hb
                  subst h1 h2 h3 h4
                  have I5 := I.below hb
                  refine (ADD.out w' g i at' cp (fcl R1 at' j i) (fcl R1 at' j (i + 1)) y I5.G hlt3 hlt2 hia hcp (fun a ha q => fcl_other _ _ _ _ _ _ ha) (fun q _ => by rw [fcl_next _ _ _ _ _ (by omega), hy])).mono ?_
                  rintro e w'' ⟨rfl, hK, hg⟩
                  have I6 := I5.turn hK hg hgs
                  exact ⟨rfl, I6, I6.p.mc⟩
                have HB0 : Hid (Below wr.heap.size wr wr.drew) := (Below.refl _ _).drew
                have HIA := hide hia
                clear I hy hia
                generalize y.v = yv at *
                go_wp2_with fail
                go_region_held3 (fun w'' => w''.cell? ⟨w2.heap.size, 0, none⟩ = some (.int .i64 r) ∧ w''.cell? ⟨w2.heap.size, 1, none⟩ = some (.int .i64 c) ∧ w''.cell? ⟨w2.heap.size, 2, none⟩ = some (.slice (some ⟨g, 0, none⟩) N cp)) (first | assumption | exact ⟨by assumption, by assumption, by assumption⟩ | exact ⟨p0, p1, p2⟩)
                  (first
                    | (go_at_call 39; refine (C1.out _ _ _ _ (by with_reducible rfl) (by with_reducible rfl) (by with_reducible rfl) (by first | assumption | exact HB0.out)).mono ?_; rintro e wa ⟨rfl, ka, ⟨ka1, ka2, ka3⟩⟩)
                    | (go_at_call 47; refine (C3.out _ _ _ _ _ (by with_reducible rfl) (by with_reducible rfl) (by with_reducible rfl) (by with_reducible rfl) (by first | assumption | exact HB0.out)).mono ?_; rintro e wb ⟨rfl, kb, ⟨kb1, kb2, kb3⟩⟩))
                all_goals
                  clear C1 C3
                  have HI := hide kb
                  clear kb kb1 kb2 kb3
                  go_wp2
                  exact ⟨⟨i + 1, by omega, by omega, by go_num, HI.out⟩, by simp [intOf]; omega⟩
              · obtain rfl : i = r := by omega
                have b3 : ¬ (i : Int) < (i : Int) := by omega
                have HI := hide I
                clear I
                go_wp2
                refine ⟨⟨j + 1, fcl R1 at' j i, by omega, by go_num, by rw [HST.out]; go_num, by rw [HST.out]; exact hi1, ?_, HI.out⟩, by simp [intOf]; omega⟩
                rw [HST.out]
                intro k h1 h2
                have h1' : at' + 1 ≤ k := h1
                rw [fcl_all R1 at' j i k (by omega) h2]
                exact elim_congr (HRT.out at' (Nat.le_refl _) hlt2) (HRT.out k (by omega) h2)
      · obtain rfl : at' = r := by omega
        have b2 : ¬ (at' : Int) < (at' : Int) := by omega
        have HE : Hid ((redu at' M c).2 = at') := by
          have := redu_full at' M j hat.symm (c - j)
          rw [show j + (c - j) = c by omega] at this
          exact this
        have HB := hide I.gr
        clear I hR hat hT hst0
        go_wp2
        exact bodyPost_ret (v := .tuple #[.int .i64 (at' : Int), .int .i64 0]) (by simp [results, Try.results18, go_sem]) rfl ⟨by rw [HE.out], HB.out⟩
    · obtain rfl : j = c := by omega
      have b1 : ¬ (j : Int) < (j : Int) := by omega
      have HE := hide hat
      have HB := hide I.gr
      clear I hR hat hT hst0
      go_wp2
      exact bodyPost_ret (v := .tuple #[.int .i64 (at' : Int), .int .i64 0]) (by simp [results, Try.results18, go_sem]) rfl ⟨by rw [← HE.out], HB.out⟩
end Go.Proofs.Ythedeggggbdibaa
