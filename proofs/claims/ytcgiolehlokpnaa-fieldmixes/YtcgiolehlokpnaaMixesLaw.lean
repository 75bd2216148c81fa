/-
  The walk of the statement that mixtures go over sums and over products.
-/
import Derived.Test.YtcgiolehlokpnaaMixMath
import Derived.Test.YtcgiolehlokpnaaIsLaw
import Derived.Test.YtcgiolehlokpnaaTextsLaw
namespace Go.Proofs.Ytcgiolehlokpnaa
open Go.RowKit Go.Lib

theorem run_min2_any {P : Program} (x y : Int) (w : World) : (Builtin.min2 (.int .i64 x) (.int .i64 y)).run P w = .ok (.int .i64 (if y < x then y else x)) w := by
  have h := run_min_int2 (P := P) w #[] 0 .i64 .i64 x y
  simpa [Builtin.min_] using h
theorem run_min4 {P : Program} (ts : Array TypeId) (t : TypeId) (x y z u n : Nat) (hn : n = min (min (min x y) z) u) (w : World) :
    (Builtin.min_ ts t #[.int .i64 (x : Int), .int .i64 (y : Int), .int .i64 (z : Int), .int .i64 (u : Int)]).run P w = .ok (.int .i64 (n : Int)) w := by
  show (List.foldlM Builtin.min2 (.int .i64 (x : Int)) [.int .i64 (y : Int), .int .i64 (z : Int), .int .i64 (u : Int)]).run P w = _
  simp only [List.foldlM_cons, List.foldlM_nil, Sem.run_bind, run_min2_any, Result.andThen_ok, Sem.run_pure]
  congr 2
  split <;> split <;> split <;> omega
theorem min3_eq (x y z n : Nat) (hn : n = min (min x y) z) : (if (z : Int) < (if (y : Int) < (x : Int) then (y : Int) else (x : Int)) then (z : Int) else (if (y : Int) < (x : Int) then (y : Int) else (x : Int))) = (n : Int) := by
  split <;> split <;> omega

/-- What the loop of the statement keeps. -/
def RR (w : World) (f : Nat) (P Q U V : Nat → ByteArray) (C : Nat → Nat) (j : Nat) (v1 v2 v3 v4 v5 : Value) (wr : World) : Prop :=
  SF w f wr ∧ wr.ownsRow w.heap.size 9 1 v1 j (textsOf P j) ∧ wr.ownsRow w.heap.size 9 1 v2 j (textsOf Q j) ∧ wr.ownsRow w.heap.size 9 1 v3 j (textsOf U j) ∧ wr.ownsRow w.heap.size 9 1 v4 j (textsOf V j) ∧ wr.ownsRow w.heap.size 3 1 v5 j (numsOf C j) ∧
  Ap v1 v2 ∧ Ap v1 v3 ∧ Ap v1 v4 ∧ Ap v2 v3 ∧ Ap v2 v4 ∧ Ap v3 v4
section
variable {w wr w' : World} {f : Nat} {P Q U V : Nat → ByteArray} {C : Nat → Nat} {j : Nat} {v1 v2 v3 v4 v5 : Value}
theorem RR.below (h : RR w f P Q U V C j v1 v2 v3 v4 v5 wr) (hb : Below wr.heap.size wr w') : RR w f P Q U V C j v1 v2 v3 v4 v5 w' := by
  obtain ⟨s, o1, o2, o3, o4, o5, r⟩ := h
  exact ⟨s.below hb, own_below o1 hb, own_below o2 hb, own_below o3 hb, own_below o4 hb, own_below o5 hb, r⟩
theorem RR.field (h : RR w f P Q U V C j v1 v2 v3 v4 v5 wr) (hf : w.heap.size ≤ f) (hF : F w' f) (hg : wr.grownBy w' (some f)) : RR w f P Q U V C j v1 v2 v3 v4 v5 w' := by
  obtain ⟨s, o1, o2, o3, o4, o5, r⟩ := h
  exact ⟨s.grown hf hF hg, own_field o1 s.1 (by decide) hg, own_field o2 s.1 (by decide) hg, own_field o3 s.1 (by decide) hg, own_field o4 s.1 (by decide) hg, own_field o5 s.1 (by decide) hg, r⟩
theorem RR.drewN (h : RR w f P Q U V C j v1 v2 v3 v4 v5 wr) (n : Nat) : RR w f P Q U V C j v1 v2 v3 v4 v5 (wr.drewN n) := h.below (below_drew (Below.refl _ _) n)
theorem RR.drew (h : RR w f P Q U V C j v1 v2 v3 v4 v5 wr) : RR w f P Q U V C j v1 v2 v3 v4 v5 wr.drew := h.below (Below.refl _ _).drew
theorem RR.scale (hf : w.heap.size ≤ f) (s : ByteArray) (c : Nat) (hc : c < 256) (hs : s.size ≤ 1000) (h : RR w f P Q U V C j v1 v2 v3 v4 v5 wr) :
    Calls Try.prog 25 #[.pointer (some ⟨f, 0, none⟩), .string s, .int .i64 c] wr fun e w' => e = .returned (.tuple #[.string (strOf (byL s.data.toList c)), .int .i64 0]) ∧ RR w f P Q U V C j v1 v2 v3 v4 v5 w' :=
  (scale_ok h.1.1 s c hc (by omega)).mono fun e w' ⟨he, hF, hg⟩ => ⟨he, h.field hf hF hg⟩
theorem RR.mix (hf : w.heap.size ≤ f) (hj : j ≤ 20) {vv : Value} {X : Nat → ByteArray} (hx : 0 < j → (X 0).size ≤ 1000) {S : ByteArray} (hS : faultC j j X (fun i => (C i : Int)) = 0 ∧ mixS j j X (fun i => (C i : Int)) = S) (h : RR w f P Q U V C j v1 v2 v3 v4 v5 wr) (hT : TX wr vv j X) :
    Calls Try.prog 19 #[.pointer (some ⟨f, 0, none⟩), vv, v5] wr fun e w' => e = .returned (.tuple #[.string S, .int .i64 0]) ∧ RR w f P Q U V C j v1 v2 v3 v4 v5 w' := by
  have M := mix_any h.1.1 hT (own_NX h.2.2.2.2.2.1) (by omega) (by omega) (fun h0 => by have := hx h0; omega)
  rw [hS.1, hS.2] at M
  exact M.mono fun e w' ⟨he, hF, hg⟩ => ⟨he, h.field hf hF hg⟩
theorem SF.own {B e n : Nat} {v : Value} {xs : List Value} {o : Obj} (h : SF w f wr) (hv : wr.ownsRow B e 1 v n xs) (hB : w.heap.size ≤ B) (he : e ≠ 62 ∧ e ≠ 68) (hg : (wr.alloc o).grownBy w' v.ownBlock) : SF w f w' :=
  ⟨h.1.own hv he o hg, (h.2.alloc h.2.size o).grown hg (by have := h.2.size; simp; omega) (fun k hk => Nat.le_trans hB (hv.lt k hk).1)⟩
theorem after_app {B e n : Nat} {v v' vi : Value} {xs : List Value} {o : Obj} (hg : (wr.alloc o).grownBy w' v.ownBlock) (hat : v'.ownBlock = v.ownBlock ∨ v'.ownBlock = some (wr.heap.size + 1)) (hi : wr.ownsRow B e 1 vi n xs) (hap : Ap vi v) : w'.ownsRow B e 1 vi n xs ∧ Ap vi v' :=
  ⟨own_keep hi o hg hap, own_apart hi hat hap⟩
end

set_option maxHeartbeats 3200000 in
set_option maxRecDepth 100000 in
theorem mixes_walk {w : World} {a b c : Option Addr} {na ca nb cb nc cc : Nat} {A B : Nat → ByteArray} {Z : Nat → Int} (hA : TX w (.slice a na ca) na A) (hB : TX w (.slice b nb cb) nb B) (hZ : NX w (.slice c nc cc) nc Z)
    (ha : na ≤ 9223372036854775807) (hb : nb ≤ 9223372036854775807) (hc : nc ≤ 9223372036854775807) (hz : ∀ i, i < nc → -9223372036854775808 ≤ Z i ∧ Z i ≤ 9223372036854775807)
    (x : Int) (hx : -9223372036854775808 ≤ x ∧ x ≤ 9223372036854775807) (hAs : ∀ i, i < na → (A i).size ≤ 9223372036854775807) (hBs : ∀ i, i < nb → (B i).size ≤ 9223372036854775807) :
    Calls Try.prog 7 #[.agg #[.slice a na ca, .slice b nb cb], .slice c nc cc, .int .i64 x] w fun e w' => e = .returned (.bool true) ∧ Below w.heap.size w w' := by
  obtain ⟨d, hd, hD⟩ := among_any x 256 hx (by decide)
  have HD : Hid (∀ w : World, Calls Try.prog 27 #[.int .i64 x, .int .i64 256] w fun e w' => e = .returned (.int .i64 d) ∧ w' = w) := hD
  have HA : Hid _ := hA
  have HB : Hid _ := hB
  have HZ : Hid _ := hZ
  have HZB : Hid _ := hz
  have HAS : Hid _ := hAs
  have HBS : Hid _ := hBs
  clear hA hB hZ hz hAs hBs hD hx
  go_enter Try.func7, Try.ntmps7
  have hb0 : Below w.heap.size w (w.alloc (.cells #[.slice a na ca, .slice b nb cb] 46)) := (Below.refl _ _).alloc (Nat.le_refl _) _
  have k0 : (w.alloc (.cells #[.slice a na ca, .slice b nb cb] 46)).cell? ⟨w.heap.size, 0, none⟩ = some (.slice a na ca) := by simp
  have k1 : (w.alloc (.cells #[.slice a na ca, .slice b nb cb] 46)).cell? ⟨w.heap.size, 1, none⟩ = some (.slice b nb cb) := by simp
  go_wp2
  go_quiet (fail)
  go_wp2_with fail
  refine (new_any _).mono ?_
  rintro e w1 ⟨rfl, hF1, hb1⟩
  go_wp2_with fail
  refine (works_any _).mono ?_
  rintro e w2 ⟨rfl, hb2⟩
  have hs0 : ((w.alloc (.cells #[.slice a na ca, .slice b nb cb] 46)).drewN nq).heap.size = w.heap.size + 1 := by simp
  rw [hs0] at hF1
  have H2 : Hid (SF w (w.heap.size + 1) w2) := SF.below ⟨hF1, (below_drew hb0 nq).trans (hb1.mono (by simp))⟩ hb2
  clear hF1 hb0 hb1 hb2 k0 k1 hs0
  have hf1 : w.heap.size ≤ w.heap.size + 1 := by omega
  obtain ⟨n, hn⟩ : ∃ n, n = min (min (min na nb) nc) 20 := ⟨_, rfl⟩
  have hmin := fun w => run_min4 (P := Try.prog) #[3, 3, 3, 3] 3 na nb nc 20 n hn w
  rw [show ((20 : Nat) : Int) = 20 from rfl] at hmin
  have n1 : n ≤ na := by omega
  have n2 : n ≤ nb := by omega
  have n3 : n ≤ nc := by omega
  have n4 : n ≤ 20 := by omega
  clear hn
  have KA : Hid (∀ w' : World, SF w (w.heap.size + 1) w' → ∀ i, i < n → ∃ bl off, a = some ⟨bl, off, none⟩ ∧ w'.cell? ⟨bl, off + i, none⟩ = some (.string (A i))) := by
    intro w' h i hi
    obtain ⟨a0, c0, e0, hc0⟩ := HA.out
    simp only [Value.slice.injEq, true_and] at e0
    obtain ⟨rfl, rfl⟩ := e0
    obtain ⟨bl, off, rfl, hbl, hcl⟩ := hc0.resolve_left (by omega)
    exact ⟨bl, off, rfl, (h.2.cell (p := ⟨bl, off + i, none⟩) hbl).trans (hcl i (by omega))⟩
  have KB : Hid (∀ w' : World, SF w (w.heap.size + 1) w' → ∀ i, i < n → ∃ bl off, b = some ⟨bl, off, none⟩ ∧ w'.cell? ⟨bl, off + i, none⟩ = some (.string (B i))) := by
    intro w' h i hi
    obtain ⟨a0, c0, e0, hc0⟩ := HB.out
    simp only [Value.slice.injEq, true_and] at e0
    obtain ⟨rfl, rfl⟩ := e0
    obtain ⟨bl, off, rfl, hbl, hcl⟩ := hc0.resolve_left (by omega)
    exact ⟨bl, off, rfl, (h.2.cell (p := ⟨bl, off + i, none⟩) hbl).trans (hcl i (by omega))⟩
  have KZ : Hid (∀ w' : World, SF w (w.heap.size + 1) w' → ∀ i, i < n → ∃ bl off, c = some ⟨bl, off, none⟩ ∧ w'.cell? ⟨bl, off + i, none⟩ = some (.int .i64 (Z i))) := by
    intro w' h i hi
    obtain ⟨a0, c0, e0, hc0⟩ := HZ.out
    simp only [Value.slice.injEq, true_and] at e0
    obtain ⟨rfl, rfl⟩ := e0
    obtain ⟨bl, off, rfl, hbl, hcl⟩ := hc0.resolve_left (by omega)
    exact ⟨bl, off, rfl, (h.2.cell (p := ⟨bl, off + i, none⟩) hbl).trans (hcl i (by omega))⟩
  obtain ⟨C, hC⟩ : ∃ C : Nat → Nat, ∀ i, C i < 256 ∧ (i < nc → ∀ w : World, Calls Try.prog 27 #[.int .i64 (Z i), .int .i64 256] w fun e w' => e = .returned (.int .i64 (C i : Int)) ∧ w' = w) := by
    have h : ∀ i, ∃ k : Nat, k < 256 ∧ (i < nc → ∀ w : World, Calls Try.prog 27 #[.int .i64 (Z i), .int .i64 256] w fun e w' => e = .returned (.int .i64 (k : Int)) ∧ w' = w) := by
      intro i
      by_cases hi : i < nc
      · obtain ⟨k, hk, h⟩ := among_any (Z i) 256 (HZB.out i hi) (by decide)
        exact ⟨k, hk, fun _ => h⟩
      · exact ⟨0, by decide, fun h => absurd h hi⟩
    exact ⟨fun i => (h i).choose, fun i => (h i).choose_spec⟩
  have HC : Hid _ := hC
  clear hC HA HB HZ HZB
  go_wp2
  clear hmin
  go_loopw [11, 56] (fun l i wr => ∃ j L : Nat, j ≤ n ∧ L ≤ 100 ∧ l = .int .i64 L ∧ i = .int .i64 j ∧ Hid (∀ k, k < j → L ≤ (A k).size ∧ L ≤ (B k).size) ∧ Hid (SF w (w.heap.size + 1) wr)) (fun _ i _ => n - (intOf i).toNat)
  case atStart => exact ⟨0, 100, Nat.zero_le _, Nat.le_refl _, rfl, rfl, fun k hk => absurd hk (Nat.not_lt_zero k), H2⟩
  case round =>
    clear H2
    obtain ⟨j, L, hj, hL, rfl, rfl, HM, H⟩ := hrel
    by_cases hlt : j < n
    · obtain ⟨bl, off, rfl, ca1⟩ := KA.out _ H.out j hlt
      obtain ⟨bl2, off2, rfl, cb1⟩ := KB.out _ H.out j hlt
      have sA := HAS.out j (by omega)
      have sB := HBS.out j (by omega)
      obtain ⟨L2, hL2⟩ : ∃ L2, L2 = min (min L (A j).size) (B j).size := ⟨_, rfl⟩
      have hm3 := min3_eq L (A j).size (B j).size L2 hL2
      have HM2 : Hid (∀ k, k < j + 1 → L2 ≤ (A k).size ∧ L2 ≤ (B k).size) := by
        intro k hk
        by_cases e : k = j
        · subst e; omega
        · have := HM.out k (by omega)
          omega
      have hL100 : L2 ≤ 100 := by omega
      have Hd1 : Hid (SF w (w.heap.size + 1) wr.drew) := H.out.drew
      have HL2 : Hid _ := hL2
      clear hL2 H HM hm3
      generalize (A j) = aj at *
      generalize (B j) = bj at *
      have b0 : (0 : Int) ≤ (j : Int) := by omega
      have b1 : (j : Int) < (na : Int) := by omega
      have b2 : (j : Int) < (nb : Int) := by omega
      have b3 : (j : Int) < (n : Int) := by omega
      go_wp2
      go_region
      go_wp2
      go_roundw
      case rel => exact ⟨j + 1, L2, by omega, hL100, (by have := HL2.out; congr 1; split <;> split <;> omega), by go_num, HM2, Hd1⟩
      case measure => simp [intOf]; omega
    · obtain rfl : j = n := by omega
      go_wp2_with fail
      refine (HD.out _).mono ?_
      rintro e w3 ⟨rfl, hw3⟩
      subst w3
      obtain ⟨P, hP⟩ : ∃ P : Nat → ByteArray, ∀ i, (A i).extract 0 L = P i := ⟨fun i => (A i).extract 0 L, fun _ => rfl⟩
      obtain ⟨Q, hQ⟩ : ∃ Q : Nat → ByteArray, ∀ i, (B i).extract 0 L = Q i := ⟨fun i => (B i).extract 0 L, fun _ => rfl⟩
      obtain ⟨U, hU⟩ : ∃ U : Nat → ByteArray, ∀ i, strOf (xorL (P i).data.toList (Q i).data.toList) = U i := ⟨fun i => strOf (xorL (P i).data.toList (Q i).data.toList), fun _ => rfl⟩
      obtain ⟨V, hV⟩ : ∃ V : Nat → ByteArray, ∀ i, strOf (byL (P i).data.toList d) = V i := ⟨fun i => strOf (byL (P i).data.toList d), fun _ => rfl⟩
      have HPs : Hid (∀ i, i < j → (P i).size = L) := fun i hi => by rw [← hP i, ByteArray.size_extract]; have := HM.out i hi; omega
      have HQs : Hid (∀ i, i < j → (Q i).size = L) := fun i hi => by rw [← hQ i, ByteArray.size_extract]; have := HM.out i hi; omega
      have HP : Hid _ := hP
      have HQ : Hid _ := hQ
      have HU : Hid _ := hU
      have HV : Hid _ := hV
      clear hP hQ hU hV HD
      obtain ⟨i0, hi, hz0, hz1, hz2⟩ := info_parts Try.info9
      obtain ⟨i3, hi3, hz03, hz13, hz23⟩ := info_parts Try.info3
      go_wp2
      go_loopw [13, 14, 15, 16, 17, 75] (fun v1 v2 v3 v4 v5 i wq => ∃ k : Nat, k ≤ j ∧ i = .int .i64 k ∧ Hid (RR w (w.heap.size + 1) P Q U V C k v1 v2 v3 v4 v5 wq)) (fun _ _ _ _ _ i _ => j - (intOf i).toNat)
      case atStart => exact ⟨0, Nat.zero_le _, rfl, ⟨H.out, World.ownsRow_nil _ _ _ _, World.ownsRow_nil _ _ _ _, World.ownsRow_nil _ _ _ _, World.ownsRow_nil _ _ _ _, World.ownsRow_nil _ _ _ _, Ap.nil _, Ap.nil _, Ap.nil _, Ap.nil _, Ap.nil _, Ap.nil _⟩⟩
      case round =>
        clear H
        obtain ⟨k, hk, rfl, HR⟩ := hrel
        by_cases hkj : k < j
        · obtain ⟨bl, off, rfl, ca1⟩ := KA.out _ HR.out.1 k hkj
          obtain ⟨bl2, off2, rfl, cb1⟩ := KB.out _ HR.out.1 k hkj
          have hLA := (HM.out k hkj).1
          have hLB := (HM.out k hkj).2
          have eP := HP.out k
          have eQ := HQ.out k
          have sA := HAS.out k (by omega)
          have sB := HBS.out k (by omega)
          have A23 : Hid (∀ w' : World, Calls Try.prog 23 #[.string (P k), .string (Q k)] w' fun e w'' => e = .returned (.tuple #[.string (U k), .int .i64 0]) ∧ Below w'.heap.size w' w'') := by
            intro w'
            have A := add_ok (P k) (Q k) (by rw [HPs.out k hkj, HQs.out k hkj]) (by rw [HPs.out k hkj]; omega) w'
            rw [HU.out k] at A
            exact A
          have hPk : (P k).size ≤ 1000 := by rw [HPs.out k hkj]; omega
          have HR1 : Hid _ := HR.out.drew
          clear HR
          generalize A k = ak at *
          generalize B k = bk at *
          have b0 : (0 : Int) ≤ (k : Int) := by omega
          have b1 : (k : Int) < (na : Int) := by omega
          have b2 : (k : Int) < (nb : Int) := by omega
          have b3 : (k : Int) < (j : Int) := by omega
          have b4 : (k : Int) < (nc : Int) := by omega
          have b5 : (0 : Int) ≤ (L : Int) := by omega
          have b6 : (L : Int) ≤ (ak.size : Int) := by omega
          have b7 : (L : Int) ≤ (bk.size : Int) := by omega
          go_wp2
          go_region
          go_wp2_with fail
          refine (A23.out _).mono ?_
          rintro e w5 ⟨rfl, hb5⟩
          have HR5 : Hid _ := RR.below HR1.out hb5
          clear hb5 HR1 A23 ca1 cb1
          go_wp2_with fail
          have SC := RR.scale hf1 (P k) d hd hPk HR5.out
          rw [HV.out k] at SC
          refine SC.mono ?_
          clear SC HR5
          rintro e w6 ⟨rfl, R6⟩
          obtain ⟨s6, o1, o2, o3, o4, o5, a12, a13, a14, a23, a24, a34⟩ := R6
          have a51 := (own_kinds o1 o5).symm
          have a52 := (own_kinds o2 o5).symm
          have a53 := (own_kinds o3 o5).symm
          have a54 := (own_kinds o4 o5).symm
          have S6 : Hid _ := s6
          have z6 := s6.2.size
          clear s6
          go_wp2_with (first | (at_builtin; refine wpList_append_own_at _ rfl (.tmp 109) (.tmp 111) 30 rfl w.heap.size 9 i0 (.string ⟨#[]⟩) 1 16 Try.underlying30 hi hz0 hz1 hz2 rfl (by decide) _ _ _ rfl (o1.alloc _) ⟨w6.heap.size, 0, none⟩ 1 1 [.string (P k)] rfl rfl (cell_list_new _ _ _) (by intro u hu; simp at hu; subst hu; rfl) (by unfold maxLen; omega) (by omega) (by simp; omega) ?_))
          intro v1' w7 p1 g1 _ at1
          obtain ⟨p2, c12⟩ := after_app g1 at1 o2 a12.symm
          obtain ⟨p3, c13⟩ := after_app g1 at1 o3 a13.symm
          obtain ⟨p4, c14⟩ := after_app g1 at1 o4 a14.symm
          obtain ⟨p5, c15⟩ := after_app g1 at1 o5 a51
          have S7 : Hid _ := SF.own S6.out o1 (Nat.le_refl _) ⟨by decide, by decide⟩ g1
          have z7 : w.heap.size ≤ w7.heap.size := S7.out.2.size
          clear o1 o2 o3 o4 o5 g1 at1 a12 a13 a14 a51 S6 z6
          go_wp2_with (first | (at_builtin; refine wpList_append_own_at _ rfl (.tmp 113) (.tmp 115) 30 rfl w.heap.size 9 i0 (.string ⟨#[]⟩) 1 16 Try.underlying30 hi hz0 hz1 hz2 rfl (by decide) _ _ _ rfl (p2.alloc _) ⟨w7.heap.size, 0, none⟩ 1 1 [.string (Q k)] rfl rfl (cell_list_new _ _ _) (by intro u hu; simp at hu; subst hu; rfl) (by unfold maxLen; omega) (by omega) (by simp; omega) ?_))
          intro v2' w8 q2 g2 _ at2
          obtain ⟨q1, d12⟩ := after_app g2 at2 p1 c12.symm
          obtain ⟨q3, d23⟩ := after_app g2 at2 p3 a23.symm
          obtain ⟨q4, d24⟩ := after_app g2 at2 p4 a24.symm
          obtain ⟨q5, d25⟩ := after_app g2 at2 p5 a52
          have S8 : Hid _ := SF.own S7.out p2 (Nat.le_refl _) ⟨by decide, by decide⟩ g2
          have z8 : w.heap.size ≤ w8.heap.size := S8.out.2.size
          clear p1 p2 p3 p4 p5 g2 at2 c12 a23 a24 a52 S7 z7
          go_wp2_with (first | (at_builtin; refine wpList_append_own_at _ rfl (.tmp 117) (.tmp 119) 30 rfl w.heap.size 9 i0 (.string ⟨#[]⟩) 1 16 Try.underlying30 hi hz0 hz1 hz2 rfl (by decide) _ _ _ rfl (q3.alloc _) ⟨w8.heap.size, 0, none⟩ 1 1 [.string (U k)] rfl rfl (cell_list_new _ _ _) (by intro u hu; simp at hu; subst hu; rfl) (by unfold maxLen; omega) (by omega) (by simp; omega) ?_))
          intro v3' w9 r3 g3 _ at3
          obtain ⟨r1, e13⟩ := after_app g3 at3 q1 c13.symm
          obtain ⟨r2, e23⟩ := after_app g3 at3 q2 d23.symm
          obtain ⟨r4, e34⟩ := after_app g3 at3 q4 a34.symm
          obtain ⟨r5, e35⟩ := after_app g3 at3 q5 a53
          have S9 : Hid _ := SF.own S8.out q3 (Nat.le_refl _) ⟨by decide, by decide⟩ g3
          have z9 : w.heap.size ≤ w9.heap.size := S9.out.2.size
          clear q1 q2 q3 q4 q5 g3 at3 c13 d23 a34 a53 S8 z8
          go_wp2_with (first | (at_builtin; refine wpList_append_own_at _ rfl (.tmp 121) (.tmp 123) 30 rfl w.heap.size 9 i0 (.string ⟨#[]⟩) 1 16 Try.underlying30 hi hz0 hz1 hz2 rfl (by decide) _ _ _ rfl (r4.alloc _) ⟨w9.heap.size, 0, none⟩ 1 1 [.string (V k)] rfl rfl (cell_list_new _ _ _) (by intro u hu; simp at hu; subst hu; rfl) (by unfold maxLen; omega) (by omega) (by simp; omega) ?_))
          intro v4' w10 t4 g4 _ at4
          obtain ⟨t1, f14⟩ := after_app g4 at4 r1 c14.symm
          obtain ⟨t2, f24⟩ := after_app g4 at4 r2 d24.symm
          obtain ⟨t3, f34⟩ := after_app g4 at4 r3 e34.symm
          obtain ⟨t5, f45⟩ := after_app g4 at4 r5 a54
          have S10 : Hid _ := SF.own S9.out r4 (Nat.le_refl _) ⟨by decide, by decide⟩ g4
          have z10 : w.heap.size ≤ w10.heap.size := S10.out.2.size
          clear r1 r2 r3 r4 r5 g4 at4 c14 d24 e34 a54 S9 z9 c15 d25 e35 f45
          obtain ⟨bl3, off3, rfl, cz1⟩ := KZ.out _ S10.out k hkj
          have AM : Hid _ := (HC.out k).2 (by omega) w10
          go_wp2_with fail
          refine Calls.mono AM.out ?_
          rintro e w11 ⟨rfl, hw11⟩
          subst w11
          clear AM cz1
          go_wp2_with (first | (at_builtin; refine wpList_append_own_at _ rfl (.tmp 125) (.tmp 131) 31 rfl w.heap.size 3 i3 (.int .i64 0) 1 8 Try.underlying31 hi3 hz03 hz13 hz23 rfl (by decide) _ _ _ rfl (t5.alloc _) ⟨w10.heap.size, 0, none⟩ 1 1 [.int .i64 (C k : Int)] rfl rfl (cell_list_new _ _ _) (by intro u hu; simp at hu; subst hu; rfl) (by unfold maxLen; omega) (by omega) (by simp; omega) ?_))
          intro v5' w12 u5 g5 _ at5
          obtain ⟨u1, _⟩ := after_app g5 at5 t1 (own_kinds t1 t5)
          obtain ⟨u2, _⟩ := after_app g5 at5 t2 (own_kinds t2 t5)
          obtain ⟨u3, _⟩ := after_app g5 at5 t3 (own_kinds t3 t5)
          obtain ⟨u4, _⟩ := after_app g5 at5 t4 (own_kinds t4 t5)
          have S12 : Hid _ := SF.own S10.out t5 (Nat.le_refl _) ⟨by decide, by decide⟩ g5
          have RF : Hid (RR w (w.heap.size + 1) P Q U V C (k + 1) v1' v2' v3' v4' v5' w12) := by
            refine ⟨S12.out, ?_, ?_, ?_, ?_, ?_, d12, e13, f14, e23, f24, f34⟩
            · rw [textsOf_succ]; exact u1
            · rw [textsOf_succ]; exact u2
            · rw [textsOf_succ]; exact u3
            · rw [textsOf_succ]; exact u4
            · rw [numsOf_succ]; exact u5
          clear t1 t2 t3 t4 t5 u1 u2 u3 u4 u5 g5 at5 S10 S12 d12 e13 f14 e23 f24 f34 z10
          go_wp2
          go_roundw
          case rel => exact ⟨k + 1, by omega, by go_num, RF⟩
          case measure => simp [intOf]; omega
        · obtain rfl : k = j := by omega
          obtain ⟨S, T, hST, hSL, mP, mQ, mU, mV⟩ := mixes_eq L k d P Q U V C hd (fun i _ => (HC.out i).1) HPs.out HQs.out (fun i _ => (HU.out i).symm) (fun i _ => (HV.out i).symm)
          have HmP : Hid _ := mP
          have HmQ : Hid _ := mQ
          have HmU : Hid _ := mU
          have HmV : Hid _ := mV
          have HST : Hid _ := hST
          have xP : Hid (0 < k → (P 0).size ≤ 1000) := fun h => by rw [HPs.out 0 h]; omega
          have xQ : Hid (0 < k → (Q 0).size ≤ 1000) := fun h => by rw [HQs.out 0 h]; omega
          have xU : Hid (0 < k → (U 0).size ≤ 1000) := fun h => by
            rw [← HU.out 0, strOf_size, xorL_length _ _ (by rw [← Lib.size_eq, ← Lib.size_eq, HPs.out 0 h, HQs.out 0 h]), ← Lib.size_eq, HPs.out 0 h]; omega
          have xV : Hid (0 < k → (V 0).size ≤ 1000) := fun h => by rw [← HV.out 0, strOf_size, byL_length, ← Lib.size_eq, HPs.out 0 h]; omega
          clear mP mQ mU mV hST
          go_wp2_with fail
          refine (RR.mix hf1 n4 xP.out HmP.out HR.out (own_TX HR.out.2.1)).mono ?_
          rintro e w5 ⟨rfl, R5⟩
          have H5 : Hid _ := R5
          clear R5 HR
          go_wp2_with fail
          refine (RR.mix hf1 n4 xQ.out HmQ.out H5.out (own_TX H5.out.2.2.1)).mono ?_
          rintro e w6 ⟨rfl, R6⟩
          have H6 : Hid _ := R6
          clear R6 H5
          go_wp2_with fail
          refine (RR.mix hf1 n4 xU.out HmU.out H6.out (own_TX H6.out.2.2.2.1)).mono ?_
          rintro e w7 ⟨rfl, R7⟩
          have H7 : Hid _ := R7
          clear R7 H6
          go_wp2_with fail
          refine (RR.mix hf1 n4 xV.out HmV.out H7.out (own_TX H7.out.2.2.2.2.1)).mono ?_
          rintro e w8 ⟨rfl, R8⟩
          have H8 : Hid _ := R8
          clear R8 H7
          go_wp2_with fail
          refine (add_ok S T HST.out (by omega) _).mono ?_
          rintro e w9 ⟨rfl, hb9⟩
          have H9 : Hid _ := RR.below H8.out hb9
          clear hb9 H8
          go_wp2_with fail
          refine (RR.scale hf1 S d hd (by omega) H9.out).mono ?_
          rintro e w10 ⟨rfl, R10⟩
          have H10 : Hid _ := R10.1.2
          clear R10 H9
          generalize strOf (xorL S.data.toList T.data.toList) = XS at *
          generalize strOf (byL S.data.toList d) = BS at *
          go_wp2
          go_ret
          exact ⟨rfl, H10.out⟩
end Go.Proofs.Ytcgiolehlokpnaa
