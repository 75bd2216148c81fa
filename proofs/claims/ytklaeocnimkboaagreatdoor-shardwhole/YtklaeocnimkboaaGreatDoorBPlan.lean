/-
  Plan: texts of earlier layers, laid over this program.
-/
import Derived.Test.YtklaeocnimkboaaGreatDoorBMat
import Derived.Test.YtklaeocnimkboaaGreatDoorBMix
import Derived.Deep.RegionHeldLaw
import Derived.Deep.DeepCutAuto
namespace Go.Proofs.YtklaeocnimkboaaGreatDoor
open Go.RowKit Go.Lib

/-- A plan at a block. -/
def PL (w : World) (b sb f g k m : Nat) : Prop := w.heap[b]? = some (.cells #[.int .i64 k, .int .i64 m, .int .i64 ((k + m : Nat) : Int), .int .i64 k, .slice (some ⟨g, 0, none⟩) ((k + m) * k) ((k + m) * k), .pointer (some ⟨sb, 0, none⟩), .pointer (some ⟨f, 0, none⟩)] 85 (0, 0))
section
variable {w w' : World} {b sb f g k m : Nat}
theorem PL.lt (h : PL w b sb f g k m) : b < w.heap.size := lt_of_block h
theorem PL.cell0 (h : PL w b sb f g k m) : w.cell? ⟨b, 0, none⟩ = some (.int .i64 k) := by rw [cell_of_row w b 0 _ _ _ h]; rfl
theorem PL.cell1 (h : PL w b sb f g k m) : w.cell? ⟨b, 1, none⟩ = some (.int .i64 m) := by rw [cell_of_row w b 1 _ _ _ h]; rfl
theorem PL.cell2 (h : PL w b sb f g k m) : w.cell? ⟨b, 2, none⟩ = some (.int .i64 ((k + m : Nat) : Int)) := by rw [cell_of_row w b 2 _ _ _ h]; rfl
theorem PL.cell3 (h : PL w b sb f g k m) : w.cell? ⟨b, 3, none⟩ = some (.int .i64 k) := by rw [cell_of_row w b 3 _ _ _ h]; rfl
theorem PL.cell4 (h : PL w b sb f g k m) : w.cell? ⟨b, 4, none⟩ = some (.slice (some ⟨g, 0, none⟩) ((k + m) * k) ((k + m) * k)) := by rw [cell_of_row w b 4 _ _ _ h]; rfl
theorem PL.cell5 (h : PL w b sb f g k m) : w.cell? ⟨b, 5, none⟩ = some (.pointer (some ⟨sb, 0, none⟩)) := by rw [cell_of_row w b 5 _ _ _ h]; rfl
theorem PL.cell6 (h : PL w b sb f g k m) : w.cell? ⟨b, 6, none⟩ = some (.pointer (some ⟨f, 0, none⟩)) := by rw [cell_of_row w b 6 _ _ _ h]; rfl
theorem PL.of_block (h : PL w b sb f g k m) (hb : w'.heap[b]? = w.heap[b]?) : PL w' b sb f g k m := hb.trans h
end
/-- All that a plan is made of. -/
structure PP (w : World) (b sb f1 f2 g k m : Nat) : Prop where
  pl : PL w b sb f2 g k m
  sp : SP w sb f1
  fl : F w f2
  kb : KB w g ((k + m) * k) (flat k (cauM k))
  ne : f1 ≠ f2
section
variable {w w' : World} {b sb f1 f2 g k m : Nat}
theorem PP.below (h : PP w b sb f1 f2 g k m) (hb : Below w.heap.size w w') : PP w' b sb f1 f2 g k m :=
  ⟨h.pl.of_block (hb.block b h.pl.lt), h.sp.below hb (Nat.le_refl _), h.fl.below hb (Nat.le_refl _), h.kb.below hb (Nat.le_refl _), h.ne⟩
theorem PP.nef (h : PP w b sb f1 f2 g k m) : b ≠ f2 ∧ g ≠ f2 ∧ sb ≠ f2 := by
  refine ⟨fun e => ?_, fun e => ?_, fun e => ?_⟩
  · subst e
    have x := h.pl
    unfold PL at x
    rcases h.fl with z | ⟨_, _, z, _⟩ <;> (unfold FB at z; rw [x] at z; simp at z)
  · subst e
    obtain ⟨Z, x⟩ := h.kb
    rcases h.fl with z | ⟨_, _, z, _⟩ <;> (unfold FB at z; rw [x] at z; simp at z)
  · subst e
    have x := h.sp.b
    unfold SPB at x
    rcases h.fl with z | ⟨_, _, z, _⟩ <;> (unfold FB at z; rw [x] at z; simp at z)
end

/-- The document's plan. -/
def RP (w : World) (b g k m : Nat) : Prop := w.heap[b]? = some (.cells #[.int .i64 k, .int .i64 m, .int .i64 ((k + m : Nat) : Int), .int .i64 k, .slice (some ⟨g, 0, none⟩) ((k + m) * k) ((k + m) * k)] 94 (0, 0))
section
variable {w w' : World} {b g k m : Nat}
theorem RP.lt (h : RP w b g k m) : b < w.heap.size := lt_of_block h
theorem RP.cell0 (h : RP w b g k m) : w.cell? ⟨b, 0, none⟩ = some (.int .i64 k) := by rw [cell_of_row w b 0 _ _ _ h]; rfl
theorem RP.cell1 (h : RP w b g k m) : w.cell? ⟨b, 1, none⟩ = some (.int .i64 m) := by rw [cell_of_row w b 1 _ _ _ h]; rfl
theorem RP.cell4 (h : RP w b g k m) : w.cell? ⟨b, 4, none⟩ = some (.slice (some ⟨g, 0, none⟩) ((k + m) * k) ((k + m) * k)) := by rw [cell_of_row w b 4 _ _ _ h]; rfl
theorem RP.of_block (h : RP w b g k m) (hb : w'.heap[b]? = w.heap[b]?) : RP w' b g k m := hb.trans h
end
structure RQ (w : World) (b g k m : Nat) : Prop where
  pl : RP w b g k m
  kb : KB w g ((k + m) * k) (flat k (cauM k))
theorem RQ.below {w w' : World} {b g k m : Nat} (h : RQ w b g k m) (hb : Below w.heap.size w w') : RQ w' b g k m :=
  ⟨h.pl.of_block (hb.block b h.pl.lt), h.kb.below hb (Nat.le_refl _)⟩

set_option maxRecDepth 100000 in
theorem snew_bad {w : World} (k m : Int) (hm : m ≤ 9223372036854775807) (h : k < 1 ∨ m < 0 ∨ 255 - m < k) :
    Calls Tryz.prog 20 #[.int .i64 k, .int .i64 m] w fun e w' => e = .returned (.tuple #[.pointer none, .int .i64 1]) ∧ Below w.heap.size w w' := by
  go_enter Tryz.func20, Tryz.ntmps20
  go_wp2_with fail
  refine (mnew_any _).mono ?_
  rintro e w1 ⟨sb, f, rfl, hS, hf, hsb, hb1⟩
  have HB1 := hide hb1
  clear hS hf hsb hb1
  go_wp2_with fail
  refine (cauchy_bad k m hm h).mono ?_
  rintro e w2 ⟨rfl, hb2⟩
  have HB2 := hide (below_step HB1.out hb2)
  clear HB1 hb2 h hm
  go_wp2
  exact bodyPost_ret (v := .tuple #[.pointer none, .int .i64 1]) (by simp [results, Tryz.results20, go_sem]) rfl ⟨rfl, below_alloc HB2.out _⟩

set_option maxRecDepth 100000 in
set_option maxHeartbeats 1600000 in
theorem snew_ok {w : World} {k m : Nat} (k1 : 1 ≤ k) (km : k + m ≤ 255) :
    Calls Tryz.prog 20 #[.int .i64 k, .int .i64 m] w fun e w' => ∃ b sb f1 f2 g, e = .returned (.tuple #[.pointer (some ⟨b, 0, none⟩), .int .i64 0]) ∧ PP w' b sb f1 f2 g k m ∧ w.heap.size ≤ f2 ∧ Below w.heap.size w w' := by
  go_enter Tryz.func20, Tryz.ntmps20
  go_wp2_with fail
  refine (mnew_any _).mono ?_
  rintro e w1 ⟨sb, f1, rfl, hS, hf, hsb, hb1⟩
  have HS1 := hide hS
  have HB1 := hide hb1
  have HF := hide hf
  clear hS hf hsb hb1
  go_wp2_with fail
  refine (cauchy_ok HS1.out k1 km).mono ?_
  rintro e w2 ⟨g, rfl, hG, hg, hS2, hg2⟩
  have HB2 := hide (below_gb HB1.out hg2 HF.out HB1.out.size)
  obtain ⟨N, hN⟩ : ∃ N, N = (k + m) * k := ⟨_, rfl⟩
  obtain ⟨km', hkm⟩ : ∃ n, n = k + m := ⟨_, rfl⟩
  rw [← hkm] at hN
  rw [← hkm, ← hN] at hG ⊢
  have X := Bx.new w2 (km' : Int) (k : Int) (.slice (some ⟨g, 0, none⟩) N N)
  have HX := hide X
  have HS2 := hide (hS2.alloc (.cells #[.int .i64 (km' : Int), .int .i64 (k : Int), .slice (some ⟨g, 0, none⟩) N N] 79))
  have HG := hide (hG.alloc (.cells #[.int .i64 (km' : Int), .int .i64 (k : Int), .slice (some ⟨g, 0, none⟩) N N] 79))
  have HB3 := hide (below_alloc HB2.out (.cells #[.int .i64 (km' : Int), .int .i64 (k : Int), .slice (some ⟨g, 0, none⟩) N N] 79))
  have HE := hide (And.intro hkm hN)
  clear HS1 HB1 HF hG hg hS2 hg2 HB2 hN hkm X
  obtain ⟨W, hW⟩ : ∃ W, W = w2.alloc (.cells #[.int .i64 (km' : Int), .int .i64 (k : Int), .slice (some ⟨g, 0, none⟩) N N] 79) := ⟨_, rfl⟩
  rw [← hW] at HX HS2 HG HB3
  have HW := hide hW
  clear hW
  go_upto_region 5 with fail
  rw [← HW.out]
  have HK : Hid (∀ w', Below W.heap.size W w' → w'.cell? ⟨w2.heap.size, 0, none⟩ = some (.int .i64 (km' : Int)) ∧ w'.cell? ⟨w2.heap.size, 1, none⟩ = some (.int .i64 (k : Int)) ∧ w'.cell? ⟨w2.heap.size, 2, none⟩ = some (.slice (some ⟨g, 0, none⟩) N N)) := fun w' hb => ⟨(HX.out.below hb (Nat.le_refl _)).cell0, (HX.out.below hb (Nat.le_refl _)).cell1, (HX.out.below hb (Nat.le_refl _)).cell2⟩
  have HB0 : Hid (Below W.heap.size W W.drew) := (Below.refl _ _).drew
  go_region_held_law (fun wx => wx.cell? ⟨w2.heap.size, 0, none⟩ = some (.int .i64 (km' : Int)) ∧ wx.cell? ⟨w2.heap.size, 1, none⟩ = some (.int .i64 (k : Int)) ∧ wx.cell? ⟨w2.heap.size, 2, none⟩ = some (.slice (some ⟨g, 0, none⟩) N N))
    (first | with_reducible exact HK.out _ HB0.out | with_reducible exact HK.out _ (by assumption) | with_reducible exact HK.out _ (below_alloc (by assumption) _))
    (first
      | (go_at_call 38; refine (new_any _).mono ?_; rintro e wa ⟨rfl, hF, hba⟩; have hbA := below_step HB0.out hba))
  all_goals
    go_wp2
    obtain ⟨rfl, rfl⟩ := HE.out
    have hlt : W.heap.size < wa.heap.size := hF.lt
    refine bodyPost_ret (v := .tuple #[.pointer (some ⟨wa.heap.size, 0, none⟩), .int .i64 0]) (by simp [results, Tryz.results20, go_sem]) rfl ⟨wa.heap.size, sb, f1, W.heap.size, g, rfl, ⟨heap_alloc_new wa _, (HS2.out.below hbA (Nat.le_refl _)).alloc _, hF.below (below_alloc (Below.refl wa.heap.size wa) _) (Nat.le_refl _), (HG.out.below hbA (Nat.le_refl _)).alloc _, by have := HS2.out.ltf; omega⟩, HB3.out.size, below_alloc (below_step HB3.out hbA) _⟩

set_option maxRecDepth 100000 in
theorem rnew_bad {w : World} (k m : Int) (h : k < 1 ∨ m < 0 ∨ 255 - m < k) :
    Calls Tryz.prog 23 #[.int .i64 k, .int .i64 m] w fun e w' => e = .returned (.tuple #[.pointer none, .int .i64 1]) ∧ Below w.heap.size w w' := by
  go_enter Tryz.func23, Tryz.ntmps23
  go_wp2_with fail
  refine (refCauchy_bad k m h).mono ?_
  rintro e w2 ⟨rfl, hb2⟩
  have HB2 := hide hb2
  clear hb2 h
  go_wp2
  exact bodyPost_ret (v := .tuple #[.pointer none, .int .i64 1]) (by simp [results, Tryz.results23, go_sem]) rfl ⟨rfl, below_alloc HB2.out _⟩

set_option maxRecDepth 100000 in
theorem rnew_ok {w : World} {k m : Nat} (k1 : 1 ≤ k) (km : k + m ≤ 255) :
    Calls Tryz.prog 23 #[.int .i64 k, .int .i64 m] w fun e w' => ∃ b g, e = .returned (.tuple #[.pointer (some ⟨b, 0, none⟩), .int .i64 0]) ∧ RQ w' b g k m ∧ Below w.heap.size w w' := by
  go_enter Tryz.func23, Tryz.ntmps23
  go_wp2_with fail
  refine (refCauchy_ok k1 km).mono ?_
  rintro e w2 ⟨g, rfl, hG, hg, hb2⟩
  have HB2 := hide hb2
  have HG := hide hG
  clear hG hg hb2
  go_wp2
  exact bodyPost_ret (v := .tuple #[.pointer (some ⟨w2.heap.size + 1, 0, none⟩), .int .i64 0]) (by simp [results, Tryz.results23, go_sem]) rfl ⟨w2.heap.size + 1, g, rfl, ⟨by
    have := heap_alloc_new (w2.alloc (.cells #[.int .i64 ((k + m : Nat) : Int), .int .i64 k, .slice (some ⟨g, 0, none⟩) ((k + m) * k) ((k + m) * k)] 90)) (.cells #[.int .i64 k, .int .i64 m, .int .i64 ((k + m : Nat) : Int), .int .i64 k, .slice (some ⟨g, 0, none⟩) ((k + m) * k) ((k + m) * k)] 94)
    simpa [RP] using this, (HG.out.alloc _).alloc _⟩, below_alloc (below_alloc HB2.out _) _⟩

/-! ### Shape, Each -/
set_option maxRecDepth 100000 in
theorem shape_any {w : World} {b sb f1 f2 g k m : Nat} (h : PP w b sb f1 f2 g k m) :
    Calls Tryz.prog 48 #[.pointer (some ⟨b, 0, none⟩)] w fun e w' => e = .returned (.tuple #[.int .i64 k, .int .i64 m]) ∧ Below w.heap.size w w' := by
  have c0 := h.pl.cell0
  have c1 := h.pl.cell1
  clear h
  go_enter Tryz.func48, Tryz.ntmps48
  go_wp2
  go_quiet (fail)
  go_wp2
  exact bodyPost_ret (v := .tuple #[.int .i64 k, .int .i64 m]) (by simp [results, Tryz.results48, go_sem]) rfl ⟨rfl, below_drew (Below.refl _ _) _⟩

def eachN (k n : Nat) : Nat := (n + k - 1) / k
def eachR (k : Nat) (long : Int) : Int × Int := if long < 0 ∨ 65536 < long then (0, 1) else (((eachN k long.toNat : Nat) : Int), 0)
theorem quo_nat (a k : Nat) : (((a : Nat) : Int).tdiv ((k : Nat) : Int)) = ((a / k : Nat) : Int) := by rw [Int.ofNat_tdiv]
theorem eachN_le {k n : Nat} (h : 1 ≤ k) : eachN k n ≤ n := by
  unfold eachN
  rcases Nat.eq_zero_or_pos n with rfl | hn
  · rw [Nat.div_eq_of_lt (by omega)]; exact Nat.le_refl _
  · refine Nat.div_le_of_le_mul ?_
    have : n + k ≤ k * n + 1 := by
      obtain ⟨a, rfl⟩ : ∃ a, k = a + 1 := ⟨k - 1, by omega⟩
      obtain ⟨c, rfl⟩ : ∃ c, n = c + 1 := ⟨n - 1, by omega⟩
      have e : (a + 1) * (c + 1) = a * c + a + c + 1 := by rw [Nat.add_mul, Nat.mul_add, Nat.one_mul, Nat.mul_one]; omega
      have := Nat.zero_le (a * c)
      omega
    omega
theorem eachN_ge {k n : Nat} (h : 1 ≤ k) : n ≤ k * eachN k n := by
  unfold eachN
  have h1 := Nat.div_add_mod (n + k - 1) k
  have h2 := Nat.mod_lt (n + k - 1) (show 0 < k by omega)
  omega
theorem eachN_up {k n : Nat} : k * eachN k n ≤ n + k - 1 := Nat.mul_div_le _ _

set_option maxRecDepth 100000 in
theorem each_any {w : World} {b sb f1 f2 g k m : Nat} (h : PP w b sb f1 f2 g k m) (k1 : 1 ≤ k) (k2 : k ≤ 255) (long : Int) :
    Calls Tryz.prog 49 #[.pointer (some ⟨b, 0, none⟩), .int .i64 long] w fun e w' => e = .returned (.tuple #[.int .i64 (eachR k long).1, .int .i64 (eachR k long).2]) ∧ Below w.heap.size w w' := by
  have c0 := h.pl.cell0
  clear h
  by_cases h1 : long < 0
  · rw [eachR, if_pos (.inl h1)]
    go_enter Tryz.func49, Tryz.ntmps49
    go_wp2
    exact bodyPost_ret (v := .tuple #[.int .i64 0, .int .i64 1]) (by simp [results, Tryz.results49, go_sem]) rfl ⟨rfl, Below.refl _ _⟩
  by_cases h2 : 65536 < long
  · rw [eachR, if_pos (.inr h2)]
    go_enter Tryz.func49, Tryz.ntmps49
    go_wp2
    exact bodyPost_ret (v := .tuple #[.int .i64 0, .int .i64 1]) (by simp [results, Tryz.results49, go_sem]) rfl ⟨rfl, Below.refl _ _⟩
  rw [eachR, if_neg (by omega)]
  obtain ⟨n, rfl⟩ : ∃ n : Nat, long = n := ⟨long.toNat, by omega⟩
  have q1 : ((n : Int) + (k : Int) - 1).tdiv (k : Int) = ((eachN k n : Nat) : Int) := by
    rw [eachN, ← quo_nat]
    congr 1
    omega
  have hk0 : (k : Int) ≠ 0 := by omega
  have hq : eachN k n ≤ n := eachN_le k1
  rw [Int.toNat_natCast]
  generalize eachN k n = q at *
  go_enter Tryz.func49, Tryz.ntmps49
  go_wp2
  go_quiet (fail)
  go_wp2
  exact bodyPost_ret (v := .tuple #[.int .i64 q, .int .i64 0]) (by simp [results, Tryz.results49, go_sem]) rfl ⟨rfl, below_drew (Below.refl _ _) _⟩

set_option maxRecDepth 100000 in
theorem size_any {w : World} {k n : Nat} (k1 : 1 ≤ k) (k2 : k ≤ 255) (hn : n ≤ 65536) :
    Calls Tryz.prog 53 #[.int .i64 k, .int .i64 n] w fun e w' => e = .returned (.int .i64 ((eachN k n : Nat) : Int)) ∧ w' = w := by
  have q1 : ((n : Int) + (k : Int) - 1).tdiv (k : Int) = ((eachN k n : Nat) : Int) := by
    rw [eachN, ← quo_nat]
    congr 1
    omega
  have hk0 : (k : Int) ≠ 0 := by omega
  have hq : eachN k n ≤ n := eachN_le k1
  generalize eachN k n = q at *
  go_enter Tryz.func53, Tryz.ntmps53
  go_wp2
  go_ret
  refine ⟨?_, rfl⟩
  first | rfl | (simp [q1]; done) | (trace_state; fail)

set_option maxRecDepth 100000 in
theorem reach_any {w : World} {b g k m : Nat} (h : RQ w b g k m) (k1 : 1 ≤ k) (k2 : k ≤ 255) (long : Int) :
    Calls Tryz.prog 54 #[.pointer (some ⟨b, 0, none⟩), .int .i64 long] w fun e w' => e = .returned (.tuple #[.int .i64 (eachR k long).1, .int .i64 (eachR k long).2]) ∧ Below w.heap.size w w' := by
  have c0 := h.pl.cell0
  clear h
  by_cases h1 : long < 0
  · rw [eachR, if_pos (.inl h1)]
    go_enter Tryz.func54, Tryz.ntmps54
    go_wp2
    exact bodyPost_ret (v := .tuple #[.int .i64 0, .int .i64 1]) (by simp [results, Tryz.results54, go_sem]) rfl ⟨rfl, Below.refl _ _⟩
  by_cases h2 : 65536 < long
  · rw [eachR, if_pos (.inr h2)]
    go_enter Tryz.func54, Tryz.ntmps54
    go_wp2
    exact bodyPost_ret (v := .tuple #[.int .i64 0, .int .i64 1]) (by simp [results, Tryz.results54, go_sem]) rfl ⟨rfl, Below.refl _ _⟩
  rw [eachR, if_neg (by omega)]
  obtain ⟨n, rfl⟩ : ∃ n : Nat, long = n := ⟨long.toNat, by omega⟩
  rw [Int.toNat_natCast]
  go_enter Tryz.func54, Tryz.ntmps54
  go_wp2_with fail
  refine (size_any k1 k2 (by omega)).mono ?_
  rintro e w1 ⟨rfl, hw⟩
  subst w1
  go_wp2
  exact bodyPost_ret (v := .tuple #[.int .i64 ((eachN k n : Nat) : Int), .int .i64 0]) (by simp [results, Tryz.results54, go_sem]) rfl ⟨rfl, Below.refl _ _⟩
end Go.Proofs.YtklaeocnimkboaaGreatDoor

