/-
  Lz: addSum and add, by the program.
-/
import Derived.Test.YtgigiamnhjelmaaDoorLpAdd
import Derived.Lib.MinMax
namespace Go.Proofs.YtgigiamnhjelmaaDoor
open Go.RowKit Go.Lib
theorem or_fin : ∀ x y : Fin 16, bits .or .i64 ((x.val : Int) * 16) (y.val : Int) = ((x.val * 16 + y.val : Nat) : Int) := by decide +kernel
theorem shr8 (f : Nat) : IntKind.i64.wrap ((f : Int) >>> (8 : Nat)) = IntKind.i64.wrap ((f / 256 : Nat) : Int) := by
  have : (f : Int) >>> (8 : Nat) = ((f / 256 : Nat) : Int) := by rw [Int.shiftRight_eq_div_pow]; rfl
  rw [this]
section
variable {w w' : World} {B n : Nat} {O : List UInt8} {v : Value}
/-- What is written behind a block of one's own. -/
def AP (B : Nat) (w : World) (v : Value) (O M : List UInt8) (v' : Value) (w' : World) : Prop := BO B v' (O ++ M) w' ∧ Gs (Ow v) w w' ∧ FN v v' w.heap.size
theorem AP.trans {w1 w2 : World} {v1 v2 : Value} {M N : List UInt8} (h : AP B w v O M v1 w1) (h2 : AP B w1 v1 (O ++ M) N v2 w2) : AP B w v O (M ++ N) v2 w2 :=
  ⟨by rw [← List.append_assoc]; exact h2.1, Ow.trans h.2.1 h.2.2 h2.2.1, FN.trans h.2.2 h2.2.2 h.2.1.size⟩
theorem FN.ne {v' : Value} {n g : Nat} (h : FN v v' n) (hv : v.ownBlock ≠ some g) (hg : g < n) : v'.ownBlock ≠ some g := fun e => by
  rcases h with h | ⟨j, h, hj⟩
  · exact hv (h.symm.trans e)
  · rw [h] at e
    simp at e
    omega
/-- What was written so far, the sequence being at g. -/
structure ST (B : Nat) (w : World) (v : Value) (O M : List UInt8) (g : Nat) (L : ByteArray) (d l : Nat) (v' : Value) (w' : World) : Prop where
  ap : AP B w v O M v' w'
  q : QB w' g L d l
  ne : v'.ownBlock ≠ some g
theorem ST.step {w1 w2 : World} {v1 v2 : Value} {M N : List UInt8} {g d l : Nat} {L : ByteArray} (h : ST B w v O M g L d l v1 w1) (h2 : AP B w1 v1 (O ++ M) N v2 w2) : ST B w v O (M ++ N) g L d l v2 w2 :=
  ⟨AP.trans h.ap h2, (h2.2.1.block g (lt_of_block h.q) h.ne).trans h.q, h2.2.2.ne h.ne (lt_of_block h.q)⟩
theorem AP.und {w1 w2 : World} {v1 v2 : Value} {N : List UInt8} (h : AP B w1.drew v1 O N v2 w2) : AP B w1 v1 O N v2 w2 := ⟨h.1, ⟨h.2.1.os, h.2.1.tape, h.2.1.output, h.2.1.size, h.2.1.block⟩, h.2.2⟩
theorem ST.drew {w1 : World} {v1 : Value} {M : List UInt8} {g d l : Nat} {L : ByteArray} (h : ST B w v O M g L d l v1 w1) : ST B w v O M g L d l v1 w1.drew :=
  ⟨⟨h.ap.1.kb (fun _ _ => rfl), ⟨h.ap.2.1.os, h.ap.2.1.tape, h.ap.2.1.output, h.ap.2.1.size, h.ap.2.1.block⟩, h.ap.2.2⟩, h.q, h.ne⟩
set_option maxRecDepth 100000 in
set_option maxHeartbeats 1600000 in
theorem addSum_any (h : BO B v O w) (hl : O.length ≤ 100000) (hB : B ≤ w.heap.size) (hn : n ≤ 10000) : Calls Tryd.prog 50 #[v, .int .i64 (n : Int)] w fun e w' => ∃ v', e = .returned v' ∧ AP B w v O (adS n) v' w' := by
  by_cases c : n < 15
  · have c1 : (n : Int) < 15 := by omega
    obtain ⟨av, cv, rfl⟩ := h.shp
    have HE : Hid (AP B w (.slice av O.length cv) O (adS n) (.slice av O.length cv) w) := ⟨by rw [adS, if_pos c, List.append_nil]; exact h, Gs.refl _ _, FN.refl _ _⟩
    clear h
    go_enter Tryd.func50, Tryd.ntmps50
    go_wp2
    go_ret
    exact ⟨_, rfl, HE.out⟩
  · have c1 : ¬ (n : Int) < 15 := by omega
    obtain ⟨m0, hm0⟩ : ∃ m0, m0 = n - 15 := ⟨_, rfl⟩
    have e1 : (n : Int) - 15 = (m0 : Int) := by omega
    have e2 : IntKind.i64.wrap (m0 : Int) = (m0 : Int) := by rw [IntKind.wrap_i64]; omega
    obtain ⟨av, cv, hv⟩ := h.shp
    have H0 := hide (And.intro h (And.intro hm0 hv))
    rw [hv]
    clear h hm0 hv
    go_enter Tryd.func50, Tryd.ntmps50
    go_wp2
    go_loopw [0, 1] (fun x y wr => ∃ (j m : Nat), y = .int .i64 (m : Int) ∧ m0 = 255 * j + m ∧ AP B w v O (List.replicate j 255) x wr) (fun _ y _ => (Go.RowKit.intOf y).toNat)
    case atStart => exact ⟨0, m0, rfl, by omega, by rw [← H0.out.2.2]; exact ⟨by rw [List.replicate_zero, List.append_nil]; exact H0.out.1, Gs.refl _ _, FN.refl _ _⟩⟩
    case round =>
      rename_i u0 _
      obtain ⟨j, m, rfl, hm, hA⟩ := hrel
      have hle : B ≤ wr.heap.size := Nat.le_trans hB hA.2.1.size
      have hol : (O ++ List.replicate j (255 : UInt8)).length ≤ 1000000 := by rw [List.length_append, List.length_replicate]; omega
      obtain ⟨av, cv, hv⟩ := hA.1.shp
      by_cases hlt : 255 ≤ m
      · have d1 : (255 : Int) ≤ (m : Int) := by omega
        obtain ⟨v', w2, hap, hO, hG, hF⟩ := app_b hA.1 255 hol hle
        rw [show (((255 : UInt8).toNat : Nat) : Int) = 255 from rfl] at hap
        obtain ⟨m2, hm2⟩ : ∃ m2, m2 = m - 255 := ⟨_, rfl⟩
        have d2 : (m : Int) - 255 = (m2 : Int) := by omega
        have d3 : IntKind.i64.wrap (m2 : Int) = (m2 : Int) := by rw [IntKind.wrap_i64]; omega
        have HE : Hid (AP B w v O (List.replicate (j + 1) 255) v' w2) := by
          have := AP.trans hA ⟨hO, hG, hF⟩
          rw [List.replicate_succ']
          exact this
        have HM : Hid (m0 = 255 * (j + 1) + m2 ∧ m2 < m) := ⟨by omega, by omega⟩
        clear hA hO hG hF hm hm2 hol hv
        go_wp2_with (at_builtin; refine Lib.wpList_append_run _ rfl _ _ _ _ rfl _ _ rfl rfl _ _ hap ?_)
        exact ⟨⟨j + 1, m2, rfl, HM.out.1, HE.out⟩, by have := HM.out.2; simp [Go.RowKit.intOf]; omega⟩
      · have d1 : ¬ (255 : Int) ≤ (m : Int) := by omega
        obtain ⟨v', w2, hap, hO, hG, hF⟩ := app_b hA.1 (UInt8.ofNat m) hol hle
        have hbm : (UInt8.ofNat m).toNat = m := by rw [UInt8.toNat_ofNat']; omega
        rw [hbm] at hap
        have d3 : IntKind.u8.wrap (m : Int) = (m : Int) := by rw [IntKind.wrap_u8]; omega
        have HE : Hid (AP B w v O (adS n) v' w2) := by
          have h2 := AP.trans hA ⟨hO, hG, hF⟩
          have h3 := H0.out.2.1
          show AP B w v O (adS n) v' w2
          rw [adS, if_neg c, ← h3, show m0 / 255 = j by omega, show m0 % 255 = m by omega]
          exact h2
        clear hA hO hG hF hm hol hv
        go_wp2_with (at_builtin; refine Lib.wpList_append_run _ rfl _ _ _ _ rfl _ _ rfl rfl _ _ hap ?_)
        go_ret
        exact ⟨_, rfl, by rw [← H0.out.2.2]; exact HE.out⟩
set_option maxRecDepth 100000 in
set_option maxHeartbeats 3200000 in
theorem add_any {L : ByteArray} {d l : Nat} (h : BO B v O w) (hl : O.length ≤ 50000) (hB : B ≤ w.heap.size) (h1 : L.size ≤ 5000) (h2 : l ≤ 5000) (h3 : d ≤ 65535) : Calls Tryd.prog 33 #[v, .agg #[.string L, .int .i64 (d : Int), .int .i64 (l : Int)]] w fun e w' => ∃ v', e = .returned v' ∧ AP B w v O (enS ⟨L, d, l⟩) v' w' := by
  obtain ⟨a, ha⟩ : ∃ a, a = L.size := ⟨_, rfl⟩
  obtain ⟨b, hb⟩ : ∃ b, b = l - 4 := ⟨_, rfl⟩
  obtain ⟨g, hg⟩ : ∃ g, g = w.heap.size := ⟨_, rfl⟩
  obtain ⟨W, hW⟩ : ∃ W, w.alloc (.cells #[.string L, .int .i64 (d : Int), .int .i64 (l : Int)] 66) = W := ⟨_, rfl⟩
  have hBW : Below w.heap.size w W := by rw [← hW]; exact (Below.refl _ _).alloc (Nat.le_refl _) _
  have kg : QB W g L d l := by rw [← hW, hg]; exact heap_alloc_new w _
  obtain ⟨c0, c1, c2⟩ := cell3 kg
  have hOW : BO B v O W := h.keep hBW
  have hAW : AP B w v O [] v W := ⟨by rw [List.append_nil]; exact hOW, Gs.of_below _ hBW, FN.refl _ _⟩
  have e1 : IntKind.i64.wrap ((l : Int) - 4) = (l : Int) - 4 := by rw [IntKind.wrap_i64]; omega
  have e2 : max ((l : Int) - 4) 0 = (b : Int) := by omega
  have hgW := lt_of_block kg
  have hvg : v.ownBlock ≠ some g := fun e => by have := (h.lt g e).2; omega
  obtain ⟨av, cv, hv⟩ := h.shp
  have H0 := hide (And.intro hAW (And.intro kg (And.intro hgW (And.intro hvg (And.intro ha (And.intro hb hB))))))
  have HW := hide (And.intro hW hg)
  have HV := hide hv
  clear h hW hBW kg hOW hAW hgW hvg hb hg hv
  go_enter Tryd.func33, Tryd.ntmps33
  go_upto_region 1 with fail
  rw [HW.out.1, ← HW.out.2]
  go_region
  obtain ⟨x, hx⟩ : ∃ x, x = min L.size 15 := ⟨_, rfl⟩
  obtain ⟨y, hy⟩ : ∃ y, y = min b 15 := ⟨_, rfl⟩
  have m1 : min (L.size : Int) 15 = (x : Int) := by omega
  have m2 : min (b : Int) 15 = (y : Int) := by omega
  have hx16 : x < 16 := by omega
  have hy16 : y < 16 := by omega
  have o1 := or_fin ⟨x, hx16⟩ ⟨y, hy16⟩
  obtain ⟨z, hz⟩ : ∃ z, x * 16 + y = z := ⟨_, rfl⟩
  simp only [hz] at o1
  have m3 : IntKind.i64.wrap ((x : Int) * 16) = (x : Int) * 16 := by rw [IntKind.wrap_i64]; omega
  have m4 : IntKind.u8.wrap (z : Int) = (z : Int) := by rw [IntKind.wrap_u8]; omega
  obtain ⟨W2, hW2⟩ : ∃ W2, W.drew = W2 := ⟨_, rfl⟩
  have hS2 : ST B w v O [] g L d l v W2 := by rw [← hW2]; exact ST.drew ⟨H0.out.1, H0.out.2.1, H0.out.2.2.2.1⟩
  obtain ⟨v3, w3, hap, hO3, hG3, hF3⟩ := app_b hS2.ap.1 (UInt8.ofNat z) (by rw [List.append_nil]; omega) (Nat.le_trans hB hS2.ap.2.1.size)
  have hbz : (UInt8.ofNat z).toNat = z := by rw [UInt8.toNat_ofNat']; omega
  rw [hbz] at hap
  have hS3 : ST B w v O [hd1 L.size b] g L d l v3 w3 := by
    have := hS2.step ⟨hO3, hG3, hF3⟩
    rw [hd1, ← hx, ← hy, hz]
    exact this
  have hHW2 := hide hW2
  have H3 := hide hS3
  clear hx hy hz hx16 hy16 hS2 hO3 hG3 hF3 hbz hS3 hW2
  rw [hHW2.out]
  go_wp2_with (at_builtin; refine Lib.wpList_append_run _ rfl _ _ _ _ rfl _ _ rfl rfl _ _ hap ?_)
  clear hap
  have hle3 : B ≤ w3.heap.size := Nat.le_trans hB H3.out.ap.2.1.size
  have HS := hide (addSum_any (n := L.size) H3.out.drew.ap.1 (by rw [List.length_append]; simp; omega) hle3 (by omega))
  have D3 : w3.drew.cell? ⟨g, 0, none⟩ = some (.string L) := (cell3 H3.out.q).1
  clear hle3 c0 c1 c2
  go_region_held_law (fun w' => w'.cell? ⟨g, 0, none⟩ = some (.string L)) (first | with_reducible assumption)
    (first
      | (go_at_call 50; refine HS.out.mono ?_; rintro e w5 ⟨v5, rfl, hA5⟩
         have hS5 := H3.out.step hA5.und
         have D5 : w5.cell? ⟨g, 0, none⟩ = some (.string L) := (cell3 hS5.q).1
         have hl5 : (O ++ ([hd1 L.size b] ++ adS L.size)).length + L.size ≤ 1000000 := by
           rw [List.length_append, List.length_append, adS_len]
           simp
           split <;> omega
         obtain ⟨v6, w6, hap6, hO6, hG6, hF6⟩ := app_t hS5.ap.1 L hl5 (Nat.le_trans hB hS5.ap.2.1.size)
         have hS6 := hS5.step ⟨hO6, hG6, hF6⟩
         have D6 : w6.cell? ⟨g, 0, none⟩ = some (.string L) := (cell3 hS6.q).1
         have H6 := hide hS6
         clear hA5 hS5 hl5 hO6 hG6 hF6 hS6)
      | (refine step_append_run rfl (some 29) rfl _ _ 39 9 rfl _ _ rfl rfl _ _ hap6 ?_))
  clear D3 D5 D6
  have p2 := (cell3 H6.out.q).2.2
  have p1 := (cell3 H6.out.q).2.1
  by_cases hl0 : l = 0
  · have n1 : ((l : Int) == 0) = true := by simpa using hl0
    have n2 : (l : Int) = 0 := by omega
    have HE : Hid (AP B w v O (enS ⟨L, d, l⟩) v6 w6) := by
      have h6 := H6.out.ap
      have e5 : b = 0 := by have := H0.out.2.2.2.2.2.1; omega
      show AP B w v O (hd1 L.size (l - 4) :: (adS L.size ++ L.data.toList ++ if l = 0 then [] else _)) v6 w6
      rw [if_pos hl0, List.append_nil, show l - 4 = b by have := H0.out.2.2.2.2.2.1; omega]
      rw [List.append_assoc] at h6
      exact h6
    have HL0 := hide hl0
    clear hl0
    go_wp2
    go_ret
    exact ⟨_, rfl, HE.out⟩
  · have n1 : ((l : Int) == 0) = false := by simpa using hl0
    have n2 : ¬ (l : Int) = 0 := by omega
    have u1 : IntKind.u8.wrap (d : Int) = ((d % 256 : Nat) : Int) := by rw [IntKind.wrap_u8]; omega
    have u2 : (d : Int) / 256 = ((d / 256 : Nat) : Int) := by omega
    have u3 : IntKind.u8.wrap ((d / 256 : Nat) : Int) = ((d / 256 : Nat) : Int) := by rw [IntKind.wrap_u8]; omega
    obtain ⟨lo_, hlo⟩ : ∃ x, d % 256 = x := ⟨_, rfl⟩
    obtain ⟨hi_, hhi⟩ : ∃ x, d / 256 = x := ⟨_, rfl⟩
    rw [hlo] at u1
    rw [hhi] at u2 u3
    have hl6 : (O ++ ([hd1 L.size b] ++ adS L.size ++ L.data.toList)).length ≤ 99000 := by
      have e : L.data.toList.length = L.size := by simp
      rw [List.length_append, List.length_append, List.length_append, adS_len, e]
      simp
      split <;> omega
    obtain ⟨v7, w7, hap7, hO7, hG7, hF7⟩ := app_b2 H6.out.ap.1 (UInt8.ofNat lo_) (UInt8.ofNat hi_) (by omega) (Nat.le_trans hB H6.out.ap.2.1.size)
    have hb1 : (UInt8.ofNat lo_).toNat = lo_ := by rw [UInt8.toNat_ofNat']; omega
    have hb2 : (UInt8.ofNat hi_).toNat = hi_ := by rw [UInt8.toNat_ofNat']; omega
    rw [hb1, hb2] at hap7
    have hS7 := H6.out.step ⟨hO7, hG7, hF7⟩
    have HS7 := hide (addSum_any (n := b) hS7.ap.1 (by rw [← List.append_assoc, List.length_append]; simp at hl6 ⊢; omega) (Nat.le_trans hB hS7.ap.2.1.size) (by have := H0.out.2.2.2.2.2.1; omega))
    have HE : Hid (∀ v8 w8, AP B w7 v7 (O ++ ([hd1 L.size b] ++ adS L.size ++ L.data.toList ++ [UInt8.ofNat lo_, UInt8.ofNat hi_])) (adS b) v8 w8 → AP B w v O (enS ⟨L, d, l⟩) v8 w8) := fun v8 w8 h8 => by
      have h9 := (hS7.step h8).ap
      show AP B w v O (hd1 L.size (l - 4) :: (adS L.size ++ L.data.toList ++ if l = 0 then [] else [UInt8.ofNat (d % 256), UInt8.ofNat (d / 256)] ++ adS (l - 4))) v8 w8
      rw [if_neg hl0, show l - 4 = b by have := H0.out.2.2.2.2.2.1; omega, hlo, hhi]
      simp only [List.append_assoc, List.cons_append, List.nil_append] at h9 ⊢
      exact h9
    have HL0 := hide hl0
    clear hl0 hlo hhi hl6 hO7 hG7 hF7 hb1 hb2 hS7
    go_wp2_with (first | (at_builtin; refine Lib.wpList_append_run _ rfl _ _ _ _ rfl _ _ rfl rfl _ _ hap7 ?_))
    refine HS7.out.mono ?_
    rintro e w8 ⟨v8, rfl, hA8⟩
    have HA8 := hide hA8
    clear hA8
    go_wp2
    go_ret
    exact ⟨_, rfl, HE.out _ _ HA8.out⟩
end
end Go.Proofs.YtgigiamnhjelmaaDoor
