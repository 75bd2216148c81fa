/-
  The document's own shards; marks over what came out.
-/
import Derived.Test.YtfjkdmiaagalhaaGreatRef5
import Derived.BigQuiet
namespace Go.Proofs.YtfjkdmiaagalhaaGreat
open Go.RowKit Go.Lib

theorem IS.at (B : Nat) {v : Value} {n : Nat} {X : Nat → ByteArray} {w : World} (h : IS B v n X w) (h0 : n ≠ 0) : ∃ g c, v = .slice (some ⟨g, 0, none⟩) n c ∧ g < w.heap.size ∧ ∀ j, j < n → w.cell? ⟨g, 0 + j, none⟩ = some (.string (X j)) := by
  obtain ⟨h1, ⟨rfl, h2⟩ | ⟨g, cap, cur, rfl, hB, hg, hn, _, hs, ht⟩⟩ := h.own
  · exact absurd h2 h0
  · refine ⟨g, cap, rfl, lt_of_block hg, fun j hj => ?_⟩
    have e := Fd.textsOf_get (X := X) hj
    rw [← ht, Nat.mul_one, List.getElem?_take, if_pos hj] at e
    rw [Nat.zero_add, cell_of_row w g j _ _ _ hg]
    simpa using e

theorem IS.mono {B B' : Nat} {v : Value} {n : Nat} {X : Nat → ByteArray} {w : World} (h : IS B v n X w) (hB : B' ≤ B) : IS B' v n X w := by
  refine ⟨h.own.1, ?_⟩
  rcases h.own.2 with h2 | ⟨g, cap, cur, e, hb, r⟩
  · exact .inl h2
  · exact .inr ⟨g, cap, cur, e, Nat.le_trans hB hb, r⟩

set_option maxRecDepth 100000 in
set_option maxHeartbeats 1600000 in
theorem rshards_any {w : World} {b g k m : Nat} (h : RQ w b g k m) (k1 : 1 ≤ k) (km : k + m ≤ 255) (s : ByteArray) (hs : s.size ≤ 65536) :
    Calls Tryz.prog 27 #[.pointer (some ⟨b, 0, none⟩), .string s] w fun e w' => ∃ a c, e = .returned (.slice a (k + m) c) ∧ IS w.heap.size (.slice a (k + m) c) (k + m) (shd k s) w' ∧ Below w.heap.size w w' := by
  have HP := hide h
  have HK := hide (And.intro k1 (And.intro km hs))
  clear h hs
  go_enter Tryz.func27, Tryz.ntmps27
  go_wp2_with fail
  refine (rpieces_any HP.out k1 (by omega) s HK.out.2.2).mono ?_
  rintro e w1 ⟨a1, cL, rfl, hI, hb1⟩
  have HP1 := hide (HP.out.below hb1)
  obtain ⟨gl, cl, e1, hgl, hcell⟩ := IS.at _ hI (by omega)
  simp only [Value.slice.injEq, true_and] at e1
  obtain ⟨rfl, rfl⟩ := e1
  have HL := hide hI.tx
  have HB1 := hide hb1
  have hal : Below w1.heap.size w1 (w1.alloc (.cells #[] 9)) := below_alloc (Below.refl _ _) _
  obtain ⟨a2, c2, w2, hr, hI2, hg2⟩ := (IS.empty (w := w1) (Nat.le_refl _) (pc k s)).app (m := k) (b := gl) (o := 0) (c := cL) (Y := pc k s) (fun j hj => (cell_congr (hal.block gl hgl)).trans (hcell j hj)) (by omega) (by simp)
  rw [Nat.zero_add] at hr hI2
  have hb2 : Below w1.heap.size w1 w2 := hal.grown hg2 (by simp) (fun k hk => by simp only [Value.ownBlock, Option.some.injEq] at hk; omega)
  have HI2 : Hid (IS w1.heap.size (.slice a2 k c2) k (shd k s) w2) := hI2.congr (fun i hi => by rw [catX, if_neg (by omega), shd, if_pos hi]; rfl)
  have HB2 := hide hb2
  have c0 := (HP1.out.below hb2).pl.cell0
  clear hI hb1 hcell hgl hal hI2 hg2 hb2 HP
  go_wp2_with (at_builtin; refine Lib.wpList_append_run _ rfl _ _ _ _ rfl _ _ rfl rfl _ _ hr ?_)
  clear hr c0
  go_loopw [6, 7] (fun v z wr => ∃ i : Nat, k ≤ i ∧ i ≤ k + m ∧ z = .int .i64 i ∧ IS w1.heap.size v i (shd k s) wr ∧ Below w1.heap.size w1 wr) (fun _ z _ => k + m - (RowKit.intOf z).toNat)
  case atStart => exact ⟨k, Nat.le_refl _, by omega, rfl, HI2.out, HB2.out⟩
  case round =>
    obtain ⟨i, hki, hi, rfl, hI, hB⟩ := hrel
    clear HI2 HB2
    have hP := HP1.out.below hB
    have c0 := hP.pl.cell0
    have c1 := hP.pl.cell1
    have hwr : IntKind.i64.wrap ((k : Int) + (m : Int)) = (k : Int) + (m : Int) := wraps_i64 _ (by omega) (by omega)
    by_cases hlt : i < k + m
    · have b1 : (i : Int) < (k : Int) + (m : Int) := by omega
      have HIr := hide hI
      have HBr := hide hB
      have HPr := hide hP
      clear hI hB hP
      go_wp2
      go_quiet (fail)
      have HBq : Hid (Below wr.heap.size wr (wr.drewN nq)) := below_drew (Below.refl _ _) nq
      clear c0 c1
      go_wp2_with fail
      refine (rrow_any (HPr.out.below HBq.out) k1 km hlt).mono ?_
      rintro e w3 ⟨rfl, hb3⟩
      have hB3 := below_step (below_step HBr.out HBq.out) hb3
      have hB3' := below_step HBq.out hb3
      have HL3 := hide (HL.out.below hB3)
      have hrow : i * k + k ≤ (k + m) * k := by
        have := Nat.mul_le_mul_right k (show i + 1 ≤ k + m by omega)
        rwa [Nat.add_mul, Nat.one_mul] at this
      have HR3 := hide ((HP1.out.below hB3).kb.part (i * k) k ((k + m) * k - i * k) hrow)
      have HI3 := hide (HIr.out.keep hB3')
      have HB3 := hide hB3
      clear hB3 hB3' hb3 HBq HIr HBr HPr hrow
      go_wp2_with fail
      refine (Fd.refMix_any HL3.out HR3.out (by omega) (by omega) (fun j hj => by have := pc_le s HK.out.2.2 hj; omega)).mono ?_
      rintro e w4 ⟨rfl, hb4⟩
      have hI4 := HI3.out.keep hb4
      have hB4 := below_step HB3.out hb4
      obtain ⟨a', c', w', hr, hI', hBW⟩ := hI4.one (shd k s i) (by omega) hB4.size
      have HI5 := hide (hI'.congr (X' := shd k s) (fun j hj => by
        by_cases e1 : j < i
        · rw [if_pos e1]
        · obtain rfl : j = i := by omega
          rw [if_neg e1]))
      have HB5 := hide (hBW w1 hB4)
      rw [shd, if_neg (by omega)] at hr
      clear hI4 hB4 hI' hBW hb4 HL3 HR3 HI3 HB3
      go_wp2_with (at_builtin; refine Lib.wpList_append_run _ rfl _ _ _ _ rfl _ _ rfl rfl _ _ hr ?_)
      exact ⟨⟨i + 1, by omega, by omega, by go_num, HI5.out, HB5.out⟩, by simp [RowKit.intOf]; omega⟩
    · obtain rfl : i = k + m := by omega
      have b1 : ¬ (((k + m : Nat) : Int)) < (k : Int) + (m : Int) := by omega
      have HIr := hide hI
      have HBr := hide hB
      obtain ⟨a', c', rfl⟩ := hI.shp
      clear hI hB hP
      go_wp2
      go_quiet (fail)
      have HBq : Hid (Below wr.heap.size wr (wr.drewN nq)) := below_drew (Below.refl _ _) nq
      go_wp2
      go_ret
      exact ⟨_, _, rfl, (HIr.out.keep HBq.out).mono HB1.out.size, below_step HB1.out (below_step HBr.out HBq.out)⟩

/-! ### Marks over what came out -/
def spoilt : ByteArray := ⟨#[115, 112, 111, 105, 108, 116]⟩
/-! ### How long mixtures are -/
theorem allB_of (p : Nat → Bool) : ∀ n, (∀ i, i < n → p i = true) → allB p n = true
  | 0, _ => rfl
  | n + 1, h => by rw [allB, h n (by omega), allB_of p n (fun i hi => h i (by omega))]; rfl
/-- Mixtures of texts of one length with elements. -/
theorem mixS_eq {n N : Nat} (h0 : 0 < n) {X : Nat → ByteArray} (hX : ∀ i, i < n → (X i).size = N) (C : Nat → K) :
    Fd.faultC n n X (fun t => (((C t).v : Nat) : Int)) = 0 ∧ Fd.mixS n n X (fun t => (((C t).v : Nat) : Int)) = Fd.strOf (Fd.mixAt N X (fun t => (C t).v) n) := by
  have h1 : Fd.szB X n = true := allB_of _ _ (fun i hi => by simp [hX i hi, hX 0 h0])
  have h2 : Fd.elB (fun t => (((C t).v : Nat) : Int)) n = true := allB_of _ _ (fun i _ => by have := (C i).lt; simp [isEl]; omega)
  have hf : Fd.faultC n n X (fun t => (((C t).v : Nat) : Int)) = 0 := by rw [Fd.faultC, if_pos rfl, h1, h2]; rfl
  refine ⟨hf, ?_⟩
  rw [Fd.mixS, if_pos hf, if_neg (by omega), hX 0 h0]
  rfl
theorem mixS_size {n N : Nat} (h0 : 0 < n) {X : Nat → ByteArray} (hX : ∀ i, i < n → (X i).size = N) (C : Nat → K) : (Fd.mixS n n X (fun t => (((C t).v : Nat) : Int))).size = N := by
  rw [(mixS_eq h0 hX C).2, Fd.strOf_size, Fd.mixAt_length N n X _ hX n (Nat.le_refl _)]
theorem shd_size {k : Nat} (k1 : 1 ≤ k) (s : ByteArray) (i : Nat) : (shd k s i).size = eachN k s.size := by
  unfold shd
  by_cases h : i < k
  · rw [if_pos h]; exact pc_size s h
  · rw [if_neg h]; exact mixS_size k1 (fun j hj => pc_size s hj) (fun t => flat k (cauM k) (i * k + t))

/-! ### The chapter's example -/
theorem pcs_abc : pc 2 ⟨#[97, 98, 99]⟩ 0 = ⟨#[97, 98]⟩ ∧ pc 2 ⟨#[97, 98, 99]⟩ 1 = ⟨#[99, 0]⟩ := by decide +kernel
set_option maxRecDepth 100000 in
theorem works_any (w : World) : Calls Tryz.prog 5 #[] w fun e w' => e = .returned (.bool true) ∧ Below w.heap.size w w' := by
  go_enter Tryz.func5, Tryz.ntmps5
  go_wp2_with fail
  refine (snew_ok (k := 2) (m := 1) (by decide) (by decide)).mono ?_
  rintro e w1 ⟨b, sb, f1, f2, g, rfl, hP, hf2, hb⟩
  have HP := hide hP
  have HB := hide hb
  have HF := hide hf2
  clear hP hb hf2
  go_wp2_with fail
  refine (split_ok HP.out (by decide) (by decide) (s := ⟨#[97, 98, 99]⟩) (by decide)).mono ?_
  rintro e w2 ⟨q, rfl, hS, hq, hP, hg⟩
  have HB2 := hide (below_gb HB.out hg HF.out HB.out.size)
  have q0 := hS.cell 0 (by decide)
  have q1 := hS.cell 1 (by decide)
  have q2 := hS.cell 2 (by decide)
  rw [show shd 2 ⟨#[97, 98, 99]⟩ 0 = ⟨#[97, 98]⟩ from (if_pos (by decide)).trans pcs_abc.1] at q0
  rw [show shd 2 ⟨#[97, 98, 99]⟩ 1 = ⟨#[99, 0]⟩ from (if_pos (by decide)).trans pcs_abc.2] at q1
  obtain ⟨x, hx⟩ : ∃ x, x = shd 2 ⟨#[97, 98, 99]⟩ 2 := ⟨_, rfl⟩
  have hx2 : x.size = 2 := by rw [hx, shd_size (by decide)]; decide +kernel
  rw [← hx] at q2
  clear hS hq hP hg HP HB HF hx
  go_wp2
  go_ret
  exact ⟨rfl, HB2.out⟩
end Go.Proofs.YtfjkdmiaagalhaaGreat
