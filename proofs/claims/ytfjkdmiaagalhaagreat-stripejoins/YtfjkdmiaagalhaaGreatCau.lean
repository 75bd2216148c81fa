/-
  The contract of Cauchy.
-/
import Derived.Test.YtfjkdmiaagalhaaGreatMul2
namespace Go.Proofs.YtfjkdmiaagalhaaGreat
open Go.RowKit Go.Lib

def xk (i j : Nat) : K := ⟨(i ^^^ j) % 256, Nat.mod_lt _ (by decide)⟩
theorem xk_v {i j : Nat} (hi : i < 256) (hj : j < 256) : (xk i j).v = i ^^^ j := Nat.mod_eq_of_lt (Nat.xor_lt_two_pow (n := 8) hi hj)
def cauM (k : Nat) : Mt := fun i j => if i < k then dl i j else K.inv (xk i j)
/-- The rows ahead of i, and j members of it. -/
def cauS (k i j : Nat) : Nat → K := fun t => if t / k < i ∨ (t / k = i ∧ t % k < j) then cauM k (t / k) (t % k) else 0
theorem cauS_next (k i t : Nat) (hk : 0 < k) : cauS k i k t = cauS k (i + 1) 0 t := by
  have := Nat.mod_lt t hk
  unfold cauS
  by_cases h : t / k < i ∨ (t / k = i ∧ t % k < k)
  · rw [if_pos h, if_pos (by omega)]
  · rw [if_neg h, if_neg (by omega)]
theorem cauS_step (k i j t : Nat) (hj : j < k) (hi : k ≤ i) : (if t = i * k + j then K.inv (xk i j) else cauS k i j t) = cauS k i (j + 1) t := by
  by_cases h : t = i * k + j
  · subst h
    rw [if_pos rfl, cauS, div_at hj, mod_at hj, if_pos (by omega), cauM, if_neg (by omega)]
  · rw [if_neg h]
    unfold cauS
    by_cases h2 : t / k < i ∨ (t / k = i ∧ t % k < j)
    · rw [if_pos h2, if_pos (by omega)]
    · rw [if_neg h2, if_neg]
      intro h3
      apply h
      have e := Nat.div_add_mod t k
      have h4 : t / k = i := by omega
      have h5 : t % k = j := by omega
      rw [h4, h5, Nat.mul_comm] at e
      exact e.symm
theorem cauS_all (k n t : Nat) (h : t < n * k) : cauS k n 0 t = flat k (cauM k) t := by
  rw [cauS, if_pos (.inl (div_lt h)), flat]
theorem cauS_start (k t : Nat) (hk : 0 < k) : cauS k k 0 t = if t < k * k then flat k dl t else 0 := by
  unfold cauS
  by_cases h : t < k * k
  · rw [if_pos h, if_pos (.inl (div_lt h)), cauM, if_pos (div_lt h), flat]
  · rw [if_neg h, if_neg]
    intro h2
    apply h
    have e := Nat.div_add_mod t k
    have l := Nat.mod_lt t hk
    have h3 : t / k < k := by omega
    have : k * (t / k) + k ≤ k * k := by
      have := Nat.mul_le_mul_left k (show t / k + 1 ≤ k from h3)
      rwa [Nat.mul_add, Nat.mul_one] at this
    omega

set_option maxRecDepth 100000 in
theorem cauchy_bad {w : World} {sv : Value} (k m : Int) (hm' : m ≤ 9223372036854775807) (h : k < 1 ∨ m < 0 ∨ 255 - m < k) : Calls Tryz.prog 14 #[sv, .int .i64 k, .int .i64 m] w fun e w' => e = .returned (.tuple #[.agg #[.int .i64 0, .int .i64 0, .slice none 0 0], .int .i64 1]) ∧ Below w.heap.size w w' := by
  by_cases h1 : k < 1
  · go_enter Tryz.func14, Tryz.ntmps14
    go_wp2
    exact bodyPost_ret (v := .tuple #[.agg #[.int .i64 0, .int .i64 0, .slice none 0 0], .int .i64 1]) (by simp [results, Tryz.results14, go_sem]) rfl ⟨rfl, (Below.refl _ _).alloc (Nat.le_refl _) _⟩
  by_cases h2 : m < 0
  · go_enter Tryz.func14, Tryz.ntmps14
    go_wp2
    exact bodyPost_ret (v := .tuple #[.agg #[.int .i64 0, .int .i64 0, .slice none 0 0], .int .i64 1]) (by simp [results, Tryz.results14, go_sem]) rfl ⟨rfl, (Below.refl _ _).alloc (Nat.le_refl _) _⟩
  have h3 : 255 - m < k := by omega
  clear h
  go_enter Tryz.func14, Tryz.ntmps14
  go_wp2
  exact bodyPost_ret (v := .tuple #[.agg #[.int .i64 0, .int .i64 0, .slice none 0 0], .int .i64 1]) (by simp [results, Tryz.results14, go_sem]) rfl ⟨rfl, (Below.refl _ _).alloc (Nat.le_refl _) _⟩

/-- Cells laid over cells. -/
def splF (o M : Nat) (a b : Nat → K) : Nat → K := fun t => if o ≤ t ∧ t < o + M then a (t - o) else b t
theorem kcells_splice {o M N : Nat} (a b : Nat → K) (Z : List Value) (h : o + M ≤ N) : List.take o (kcells N b ++ Z) ++ (kcells M a ++ List.drop (o + M) (kcells N b ++ Z)) = kcells N (splF o M a b) ++ Z := by
  apply List.ext_getElem?
  intro i
  have lt : (List.take o (kcells N b ++ Z)).length = o := by rw [List.length_take, List.length_append, kcells_length]; omega
  by_cases h1 : i < o
  · rw [List.getElem?_append_left (by omega), List.getElem?_take, if_pos h1, List.getElem?_append_left (by rw [kcells_length]; omega), List.getElem?_append_left (by rw [kcells_length]; omega), kcells_get _ (by omega), kcells_get _ (by omega), splF, if_neg (by omega)]
  rw [List.getElem?_append_right (by omega), lt]
  by_cases h2 : i < o + M
  · rw [List.getElem?_append_left (by rw [kcells_length]; omega), List.getElem?_append_left (by rw [kcells_length]; omega), kcells_get _ (by omega), kcells_get _ (by omega), splF, if_pos (by omega)]
  rw [List.getElem?_append_right (by rw [kcells_length]; omega), kcells_length, List.getElem?_drop, show o + M + (i - o - M) = i by omega]
  by_cases h3 : i < N
  · rw [List.getElem?_append_left (by rw [kcells_length]; omega), List.getElem?_append_left (by rw [kcells_length]; omega), kcells_get _ h3, kcells_get _ h3, splF, if_neg (by omega)]
  · rw [List.getElem?_append_right (by rw [kcells_length]; omega), List.getElem?_append_right (by rw [kcells_length]; omega), kcells_length, kcells_length]

theorem Tryz.size3 : (Tryz.prog.info? 3).map (·.size) = some 1 := by kernel_rfl
/-- What the loops of Cauchy keep. -/
structure CauI (w : World) (sb f g N pb : Nat) (rr cc : Nat) (G : Nat → K) (wr : World) : Prop where
  S : SP wr sb f
  G : KB wr g N G
  r : Bx wr w.heap.size 0 0 (.slice none 0 0)
  p : Bx wr pb rr cc (.slice (some ⟨g, 0, none⟩) N N)
  gr : w.grownBy wr (some f)
theorem CauI.congr {w : World} {sb f g N pb rr cc : Nat} {G G' : Nat → K} {wr : World} (h : CauI w sb f g N pb rr cc G wr) (e : ∀ t, G t = G' t) : CauI w sb f g N pb rr cc G' wr := ⟨h.S, h.G.congr (fun t _ => e t), h.r, h.p, h.gr⟩
/-- What holds between the calls of a region. -/
structure Mid (sb f : Nat) (w w' : World) : Prop where
  S : SP w' sb f
  gr : w.grownBy w' (some f)
theorem cell_off {w : World} {g i : Nat} {u : Value} {b j : Nat} (h : b ≠ g) : (w.setCell ⟨g, i, none⟩ u).cell? ⟨b, j, none⟩ = w.cell? ⟨b, j, none⟩ := cell_congr (heap_setCell_other w ⟨g, i, none⟩ b u h)

set_option maxRecDepth 100000 in
set_option maxHeartbeats 1600000 in
theorem cauchy_ok {w : World} {sb f k m : Nat} (hS : SP w sb f) (k1 : 1 ≤ k) (km : k + m ≤ 255) :
    Calls Tryz.prog 14 #[.pointer (some ⟨sb, 0, none⟩), .int .i64 k, .int .i64 m] w fun e w' =>
      ∃ g, e = .returned (.tuple #[.agg #[.int .i64 ((k + m : Nat) : Int), .int .i64 k, .slice (some ⟨g, 0, none⟩) ((k + m) * k) ((k + m) * k)], .int .i64 0]) ∧ KB w' g ((k + m) * k) (flat k (cauM k)) ∧ w.heap.size ≤ g ∧ SP w' sb f ∧ w.grownBy w' (some f) := by
  obtain ⟨n, hn⟩ : ∃ n, n = k + m := ⟨_, rfl⟩
  have hni : (k : Int) + (m : Int) = (n : Int) := by omega
  rw [← hn] at km ⊢
  have hkn : k ≤ n := by omega
  have hNN : n * k ≤ 255 * 255 := Nat.mul_le_mul km (by omega)
  have hMM : k * k ≤ n * k := Nat.mul_le_mul_right _ hkn
  have HZ : Hid _ := fun w => zeros_any w n k km (by omega)
  have HO : Hid _ := fun w => one_ok w k k1 (by omega)
  have QN : Hid (∀ i, i < n → (i + 1) * k ≤ n * k) := fun i hi => row_in hi
  have QP : Hid (∀ t, t < n * k → cauS k n 0 t = flat k (cauM k) t) := fun t ht => cauS_all k n t ht
  have QS : Hid (∀ t, cauS k k 0 t = if t < k * k then flat k dl t else 0) := fun t => cauS_start k t k1
  generalize n * k = N at *
  generalize k * k = M at *
  have hlt := hS.lt
  have hltf := hS.ltf
  have S1 := hide (hS.alloc (.cells #[.int .i64 0, .int .i64 0, .slice none 0 0] 50))
  have X6 := hide (Bx.new w 0 0 (.slice none 0 0))
  have L1 := hide (below_alloc (Below.refl w.heap.size w) (.cells #[.int .i64 0, .int .i64 0, .slice none 0 0] 50))
  clear hS hn
  have i1 : ¬ (k : Int) < 1 := by omega
  have i2 : ¬ (m : Int) < 0 := by omega
  have i3 : ¬ (255 : Int) - (m : Int) < (k : Int) := by omega
  go_enter Tryz.func14, Tryz.ntmps14
  go_wp2_with fail
  refine Calls.mono (HO.out _) ?_
  rintro e w1 ⟨og, rfl, hO, hog, j1⟩
  have S2 := (S1.out.below j1 (Nat.le_refl _)).alloc (.cells #[.int .i64 k, .int .i64 k, .slice (some ⟨og, 0, none⟩) M M] 50)
  have X62 := (X6.out.below j1 (Nat.le_refl _)).alloc (.cells #[.int .i64 k, .int .i64 k, .slice (some ⟨og, 0, none⟩) M M] 50)
  have X82 := Bx.new w1 k k (.slice (some ⟨og, 0, none⟩) M M)
  have O2 := hO.alloc (.cells #[.int .i64 k, .int .i64 k, .slice (some ⟨og, 0, none⟩) M M] 50)
  have L2 := below_alloc (below_step L1.out j1) (.cells #[.int .i64 k, .int .i64 k, .slice (some ⟨og, 0, none⟩) M M] 50)
  have hsz := (below_step L1.out j1).size
  have HS2 := hide S2
  have HX62 := hide X62
  have HX82 := hide X82
  have HO2 := hide O2
  have HL2 := hide L2
  clear S1 X6 L1 j1 hO hog S2 X62 X82 O2 L2 HO
  go_wp2_with fail
  refine Calls.mono (HZ.out _) ?_
  rintro e w2 ⟨g, rfl, hG, hgs, j2⟩
  have hgs' : w.heap.size ≤ g := Nat.le_trans HL2.out.size hgs
  have S3 := (HS2.out.below j2 (Nat.le_refl _)).alloc (.cells #[.int .i64 n, .int .i64 k, .slice (some ⟨g, 0, none⟩) N N] 50)
  have X63 := (HX62.out.below j2 (Nat.le_refl _)).alloc (.cells #[.int .i64 n, .int .i64 k, .slice (some ⟨g, 0, none⟩) N N] 50)
  have X83 := (HX82.out.below j2 (Nat.le_refl _)).alloc (.cells #[.int .i64 n, .int .i64 k, .slice (some ⟨g, 0, none⟩) N N] 50)
  have X10 := Bx.new w2 n k (.slice (some ⟨g, 0, none⟩) N N)
  have O3 := (HO2.out.below j2 (Nat.le_refl _)).alloc (.cells #[.int .i64 n, .int .i64 k, .slice (some ⟨g, 0, none⟩) N N] 50)
  have G3 := hG.alloc (.cells #[.int .i64 n, .int .i64 k, .slice (some ⟨g, 0, none⟩) N N] 50)
  have L3 := below_alloc (below_step HL2.out j2) (.cells #[.int .i64 n, .int .i64 k, .slice (some ⟨g, 0, none⟩) N N] 50)
  have hsz2 := (below_step HL2.out j2).size
  have p2 := X10.cell2
  have q2 := X83.cell2
  obtain ⟨Z, hZ⟩ := id G3
  have HS3 := hide S3
  have HX63 := hide X63
  have HX10 := hide X10
  have HO3 := hide O3
  have HG3 := hide G3
  have HL3 := hide L3
  have HZZ := hide hZ
  clear HS2 HX62 HX82 HO2 HL2 hG hgs j2 S3 X63 X83 X10 O3 G3 L3 HZ hZ
  obtain ⟨RR, hRR⟩ : ∃ RR, RR = (List.take 0 (kcells N (fun _ => 0) ++ Z) ++ kcells M (flat k dl) ++ List.drop (0 + (kcells M (flat k dl)).length) (kcells N (fun _ => 0) ++ Z)).toArray := ⟨_, rfl⟩
  have hcp := run_copy_row (P := Tryz.prog) (w2.alloc (.cells #[.int .i64 n, .int .i64 k, .slice (some ⟨g, 0, none⟩) N N] 50)) 48 48 3 3 g 0 N N ⟨og, 0, none⟩ M M _ 3 (kcells M (flat k dl)) Tryz.underlying48 Tryz.size3 HZZ.out (by rw [kcells_length]; exact (Nat.min_eq_left hMM).symm)
    (fun j v hj => by
      have hj' : j < M := by have := (List.getElem?_eq_some_iff.1 hj).1; rwa [kcells_length] at this
      rw [kcells_get _ hj'] at hj
      cases hj
      rw [Addr.add_mid, Nat.zero_add]
      exact HO3.out.cell j hj')
    (by simp [kcells_length]; omega) (fun v hv => by obtain ⟨_, _, rfl⟩ := List.mem_map.1 hv; rfl)
  simp only [] at hcp
  rw [← hRR] at hcp
  have gr4 : (w2.alloc (.cells #[.int .i64 n, .int .i64 k, .slice (some ⟨g, 0, none⟩) N N] 50)).grownBy ((w2.alloc (.cells #[.int .i64 n, .int .i64 k, .slice (some ⟨g, 0, none⟩) N N] 50)).setRow g RR) (some g) := ⟨rfl, rfl, rfl, by simp [World.setRow], fun k _ hk => setRow_other _ g k _ (by simpa using hk)⟩
  have G4 : KB ((w2.alloc (.cells #[.int .i64 n, .int .i64 k, .slice (some ⟨g, 0, none⟩) N N] 50)).setRow g RR) g N (cauS k k 0) := by
    refine ⟨Z, ?_⟩
    rw [setRow_heap _ g _ _ 3 _ HZZ.out, hRR, kcells_length, List.append_assoc, kcells_splice _ _ Z (by omega)]
    congr 4
    apply kcells_congr
    intro t _
    rw [QS.out, splF, Nat.zero_add, Nat.sub_zero]
    by_cases h : t < M
    · rw [if_pos h, if_pos ⟨Nat.zero_le _, h⟩]
    · rw [if_neg h, if_neg (fun e => h e.2)]
  have I : CauI w sb f g N w2.heap.size n k (cauS k k 0) ((w2.alloc (.cells #[.int .i64 n, .int .i64 k, .slice (some ⟨g, 0, none⟩) N N] 50)).setRow g RR) :=
    ⟨HS3.out.kset HG3.out gr4, G4, HX63.out.of_block (gr4.block _ HX63.out.lt (by simp; exact HX63.out.ne HG3.out)), HX10.out.of_block (gr4.block _ HX10.out.lt (by simp; exact HX10.out.ne HG3.out)), gb_new (gb_below HL3.out _) gr4 hgs'⟩
  have HI := hide I
  clear HS3 HX63 HX10 HO3 HG3 HL3 HZZ hRR gr4 G4 I
  go_wp2
  go_loopw [11] (fun z wr => ∃ i : Nat, k ≤ i ∧ i ≤ n ∧ z = .int .i64 i ∧ CauI w sb f g N w2.heap.size n k (cauS k i 0) wr) (fun z _ => n - (intOf z).toNat)
  case atStart => exact ⟨k, Nat.le_refl _, hkn, rfl, HI.out⟩
  case round =>
    obtain ⟨i, hki, hi, rfl, I⟩ := hrel
    clear HI hcp p2 q2
    by_cases hlt1 : i < n
    · have HI := hide I
      clear I
      go_wp2
      go_loopw [50] (fun z wr => ∃ j : Nat, j ≤ k ∧ z = .int .i64 j ∧ CauI w sb f g N w2.heap.size n k (cauS k i j) wr) (fun z _ => k - (intOf z).toNat)
      case atStart => exact ⟨0, Nat.zero_le _, rfl, HI.out⟩
      case round =>
        obtain ⟨j, hj, rfl, I⟩ := hrel
        clear HI
        by_cases hlt2 : j < k
        · obtain ⟨y, hy⟩ : ∃ y, y = i * k := ⟨_, rfl⟩
          have hyN : y + j < N := by have := QN.out i hlt1; rw [Nat.add_mul, Nat.one_mul] at this; omega
          have hxv := xk_v (show i < 256 by omega) (show j < 256 by omega)
          have hx0 : (xk i j).v ≠ 0 := by rw [hxv]; intro h; have h' := congrArg (· ^^^ j) h; simp only [Nat.xor_assoc, Nat.xor_self, Nat.xor_zero, Nat.zero_xor] at h'; omega
          have hx : bits .xor .i64 (i : Int) (j : Int) = (((xk i j).v : Nat) : Int) := by rw [hxv]; exact xor_i64 i j (by omega) (by omega)
          have R1 : Hid (∀ (w' : World), Mid sb f wr w' → Calls Tryz.prog 31 #[.agg #[.int .i64 n, .int .i64 k, .slice (some ⟨g, 0, none⟩) N N], .int .i64 i] w' fun e w'' => e = .returned (.slice (some ⟨g, y, none⟩) k k) ∧ Mid sb f wr w'' ∧ w''.cell? ⟨w2.heap.size, 0, none⟩ = some (.int .i64 n) ∧ w''.cell? ⟨w2.heap.size, 1, none⟩ = some (.int .i64 k) ∧ w''.cell? ⟨w2.heap.size, 2, none⟩ = some (.slice (some ⟨g, 0, none⟩) N N) ∧ w''.cell? ⟨sb, 0, none⟩ = some (.pointer (some ⟨f, 0, none⟩))) := by
            intro w' hm
            refine (row_at w' i (x := y) (by omega) (by omega) k1 (by omega) (QN.out i hlt1) (Nat.le_refl _)).mono ?_
            rintro e w'' ⟨rfl, q⟩
            have q' : Mid sb f wr w'' := ⟨hm.S.below q (Nat.le_refl _), gb_trans hm.gr (gb_below q _)⟩
            have P := I.p.of_block (q'.gr.block _ I.p.lt (by simp; omega))
            exact ⟨rfl, q', P.cell0, P.cell1, P.cell2, q'.S.b.cell⟩
          have R2 : Hid (∀ (w' : World), Mid sb f wr w' → Calls Tryz.prog 30 #[.pointer (some ⟨f, 0, none⟩), .int .i64 1, .int .i64 (((xk i j).v : Nat) : Int)] w' fun e w'' => e = .returned (.tuple #[.int .i64 (((K.inv (xk i j)).v : Nat) : Int), .int .i64 0]) ∧ Mid sb f wr w'' ∧ w''.cell? ⟨w2.heap.size, 0, none⟩ = some (.int .i64 n) ∧ w''.cell? ⟨w2.heap.size, 1, none⟩ = some (.int .i64 k) ∧ w''.cell? ⟨w2.heap.size, 2, none⟩ = some (.slice (some ⟨g, 0, none⟩) N N) ∧ w''.cell? ⟨sb, 0, none⟩ = some (.pointer (some ⟨f, 0, none⟩))) := by
            intro w' hm
            refine (div_ok hm.S.fl 1 (xk i j).v (by decide) (xk i j).lt hx0).mono ?_
            rintro e w'' ⟨rfl, q1, q2⟩
            have q' : Mid sb f wr w'' := ⟨hm.S.field q2 q1, gb_trans hm.gr q2⟩
            have P := I.p.of_block (q'.gr.block _ I.p.lt (by simp; omega))
            exact ⟨rfl, q', P.cell0, P.cell1, P.cell2, q'.S.b.cell⟩
          have FIN : Hid (∀ w', Mid sb f wr w' → CauI w sb f g N w2.heap.size n k (cauS k i (j + 1)) (w'.setCell ⟨g, y + j, none⟩ (.int .i64 (((K.inv (xk i j)).v : Nat) : Int)))) := by
            intro w' hm
            have hg : g ≠ f := I.S.kne I.G
            have G' := I.G.of_block (hm.gr.block _ I.G.lt (by simp; exact hg))
            have gs := gb_set w' g (y + j) (.int .i64 (((K.inv (xk i j)).v : Nat) : Int))
            have P := I.p.of_block (hm.gr.block _ I.p.lt (by simp; omega))
            have R := I.r.of_block (hm.gr.block _ I.r.lt (by simp; omega))
            refine ⟨hm.S.kset G' gs, (G'.set (y + j) hyN _).congr (fun t _ => ?_), R.of_block (gs.block _ R.lt (by simp; exact R.ne G')), P.of_block (gs.block _ P.lt (by simp; exact P.ne G')), gb_new (gb_trans I.gr hm.gr) gs hgs'⟩
            rw [hy]; exact cauS_step k i j t hlt2 hki
          obtain ⟨ov, hov⟩ : ∃ ov, ov = Value.int .i64 (((cauS k i j (y + j)).v : Nat) : Int) := ⟨_, rfl⟩
          have FREE : Hid (∀ w', Mid sb f wr w' → w'.frozen? ⟨g, y + j, none⟩ = false ∧ w'.cell? ⟨g, y + j, none⟩ = some ov) := by
            intro w' hm
            have G' := I.G.of_block (hm.gr.block _ I.G.lt (by simp; exact I.S.kne I.G))
            exact ⟨G'.free _, by rw [G'.cell _ hyN, hov]⟩
          have m0 := I.p.cell0
          have m1 := I.p.cell1
          have m2 := I.p.cell2
          have m3 := I.S.b.cell
          have hM0 : Hid (Mid sb f wr wr.drew) := ⟨⟨I.S.b, I.S.fl, I.S.ne⟩, ⟨rfl, rfl, rfl, Nat.le_refl _, fun _ _ _ => rfl⟩⟩
          have np := I.p.ne I.G
          have ns := I.S.kns I.G
          clear I hy hxv hov
          have b0 : (0 : Int) ≤ (j : Int) := by omega
          have b1' : (j : Int) < (k : Int) := by omega
          have hv0 := (xk i j).lt
          generalize (K.inv (xk i j)).v = vv at *
          generalize (xk i j).v = uu at *
          go_wp2_with fail
          go_region_held3 (fun w' => w'.cell? ⟨w2.heap.size, 0, none⟩ = some (.int .i64 n) ∧ w'.cell? ⟨w2.heap.size, 1, none⟩ = some (.int .i64 k) ∧ w'.cell? ⟨w2.heap.size, 2, none⟩ = some (.slice (some ⟨g, 0, none⟩) N N) ∧ w'.cell? ⟨sb, 0, none⟩ = some (.pointer (some ⟨f, 0, none⟩))) (first | assumption | exact ⟨by assumption, by assumption, by assumption, by assumption⟩ | exact ⟨m0, m1, m2, m3⟩ | exact ⟨(cell_off np).trans (by assumption), (cell_off np).trans (by assumption), (cell_off np).trans (by assumption), (cell_off ns).trans (by assumption)⟩)
            (first
              | (go_at_call 31; refine (R1.out _ (by first | assumption | exact hM0.out)).mono ?_; rintro e wa ⟨rfl, ka, ka1, ka2, ka3, ka4⟩; obtain ⟨kf1, kf2⟩ := FREE.out _ ka)
              | (go_at_call 30; refine (R2.out _ (by first | assumption | exact hM0.out)).mono ?_; rintro e wb ⟨rfl, kb, kb1, kb2, kb3, kb4⟩; obtain ⟨kg1, kg2⟩ := FREE.out _ kb))
          all_goals
            clear R1 R2 FREE
            go_wp2
            exact ⟨⟨j + 1, by omega, by go_num, by first | exact FIN.out _ ka | exact FIN.out _ kb⟩, by simp [intOf]; omega⟩
        · obtain rfl : j = k := by omega
          have HI := hide I
          clear I
          go_wp2
          exact ⟨⟨i + 1, by omega, by omega, by go_num, HI.out.congr (fun t => cauS_next j i t k1)⟩, by simp [intOf]; omega⟩
    · obtain rfl : i = n := by omega
      have p0 := I.p.cell0
      have p1 := I.p.cell1
      have p2 := I.p.cell2
      have q0 := I.r.cell0
      have q1 := I.r.cell1
      have q2 := I.r.cell2
      have f2 := I.r.free
      have hne := I.r.ne I.G
      have HI := hide I
      clear I
      go_wp2
      obtain ⟨hX5, g5⟩ := HI.out.r.put (i : Int) (k : Int) (.slice (some ⟨g, 0, none⟩) N N)
      refine bodyPost_ret (v := .tuple #[.agg #[.int .i64 i, .int .i64 k, .slice (some ⟨g, 0, none⟩) N N], .int .i64 0]) (by simp [results, Tryz.results14, go_sem, hX5.cell0, hX5.cell1, hX5.cell2]) rfl ⟨g, rfl, ?_, hgs', HI.out.S.set HI.out.r (by decide) (by decide) (by decide) g5, gb_new HI.out.gr g5 (by omega)⟩
      exact (HI.out.G.of_block (g5.block g HI.out.G.lt (by simp; exact fun e => hne e.symm))).congr (fun t ht => QP.out t ht)
end Go.Proofs.YtfjkdmiaagalhaaGreat
