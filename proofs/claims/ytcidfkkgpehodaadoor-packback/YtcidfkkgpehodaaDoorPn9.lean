/-
  Contracts of the program and of the statements (part 9 of 12).
-/
import Derived.Test.YtcidfkkgpehodaaDoorPn8
import Derived.Lib.MinMax
import Derived.Deep.MidRow

namespace Go.Proofs.YtcidfkkgpehodaaDoor
open Go.RowKit Go.Lib
theorem or_fin : ∀ x y : Fin 16, bits .or .i64 ((x.val : Int) * 16) (y.val : Int) = ((x.val * 16 + y.val : Nat) : Int) := by decide +kernel
theorem shr8 (f : Nat) : IntKind.i64.wrap ((f : Int) >>> (8 : Nat)) = IntKind.i64.wrap ((f / 256 : Nat) : Int) := by
  have : (f : Int) >>> (8 : Nat) = ((f / 256 : Nat) : Int) := by rw [Int.shiftRight_eq_div_pow]; rfl
  rw [this]
section
variable {w w' : World} {B n : Nat} {O : List UInt8} {v : Value}
/-- What is written behind a block of one's own. -/
def AP (B : Nat) (w : World) (v : Value) (O M : List UInt8) (v' : Value) (w' : World) : Prop := BO B v' (O ++ M) w' ∧ Gs (Ow v) w w' ∧ FN v v' w.heap.size
theorem AP.trans {w1 w2 : World} {v1 v2 : Value} {M N : List UInt8} (h : AP B w v O M v1 w1) (h2 : AP B w1 v1 (O ++ M) N v2 w2) : AP B w v O (M ++ N) v2 w2 :=
  ⟨by rw [← List.append_assoc]; exact h2.1, Ow.trans h.2.1 h.2.2 h2.2.1, FN.trans h.2.2 h2.2.2 h.2.1.size⟩
theorem FN.ne {v' : Value} {n g : Nat} (h : FN v v' n) (hv : v.ownBlock ≠ some g) (hg : g < n) : v'.ownBlock ≠ some g := fun e => by
  rcases h with h | ⟨j, h, hj⟩
  · exact hv (h.symm.trans e)
  · rw [h] at e
    simp at e
    omega
/-- What was written so far, the sequence being at g. -/
structure ST (B : Nat) (w : World) (v : Value) (O M : List UInt8) (g : Nat) (L : ByteArray) (d l : Nat) (v' : Value) (w' : World) : Prop where
  ap : AP B w v O M v' w'
  q : QB w' g L d l
  ne : v'.ownBlock ≠ some g
theorem ST.step {w1 w2 : World} {v1 v2 : Value} {M N : List UInt8} {g d l : Nat} {L : ByteArray} (h : ST B w v O M g L d l v1 w1) (h2 : AP B w1 v1 (O ++ M) N v2 w2) : ST B w v O (M ++ N) g L d l v2 w2 :=
  ⟨AP.trans h.ap h2, (h2.2.1.block g (lt_of_block h.q) h.ne).trans h.q, h2.2.2.ne h.ne (lt_of_block h.q)⟩
theorem AP.und {w1 w2 : World} {v1 v2 : Value} {N : List UInt8} (h : AP B w1.drew v1 O N v2 w2) : AP B w1 v1 O N v2 w2 := ⟨h.1, ⟨h.2.1.os, h.2.1.tape, h.2.1.output, h.2.1.size, h.2.1.block⟩, h.2.2⟩
theorem ST.drew {w1 : World} {v1 : Value} {M : List UInt8} {g d l : Nat} {L : ByteArray} (h : ST B w v O M g L d l v1 w1) : ST B w v O M g L d l v1 w1.drew :=
  ⟨⟨h.ap.1.kb (fun _ _ => rfl), ⟨h.ap.2.1.os, h.ap.2.1.tape, h.ap.2.1.output, h.ap.2.1.size, h.ap.2.1.block⟩, h.ap.2.2⟩, h.q, h.ne⟩
set_option maxRecDepth 100000 in
set_option maxHeartbeats 1600000 in
theorem addSum_any (h : BO B v O w) (hl : O.length ≤ 100000) (hB : B ≤ w.heap.size) (hn : n ≤ 10000) : Calls Tryd.prog 90 #[v, .int .i64 (n : Int)] w fun e w' => ∃ v', e = .returned v' ∧ AP B w v O (adS n) v' w' := by
  by_cases c : n < 15
  · have c1 : (n : Int) < 15 := by omega
    obtain ⟨av, cv, rfl⟩ := h.shp
    have HE : Hid (AP B w (.slice av O.length cv) O (adS n) (.slice av O.length cv) w) := ⟨by rw [adS, if_pos c, List.append_nil]; exact h, Gs.refl _ _, FN.refl _ _⟩
    clear h
    go_enter Tryd.func90, Tryd.ntmps90
    go_wp2
    go_ret
    exact ⟨_, rfl, HE.out⟩
  · have c1 : ¬ (n : Int) < 15 := by omega
    obtain ⟨m0, hm0⟩ : ∃ m0, m0 = n - 15 := ⟨_, rfl⟩
    have e1 : (n : Int) - 15 = (m0 : Int) := by omega
    have e2 : IntKind.i64.wrap (m0 : Int) = (m0 : Int) := by rw [IntKind.wrap_i64]; omega
    obtain ⟨av, cv, hv⟩ := h.shp
    have H0 := hide (And.intro h (And.intro hm0 hv))
    rw [hv]
    clear h hm0 hv
    go_enter Tryd.func90, Tryd.ntmps90
    go_wp2
    go_loopw [0, 1] (fun x y wr => ∃ (j m : Nat), y = .int .i64 (m : Int) ∧ m0 = 255 * j + m ∧ AP B w v O (List.replicate j 255) x wr) (fun _ y _ => (Go.RowKit.intOf y).toNat)
    case atStart => exact ⟨0, m0, rfl, by omega, by rw [← H0.out.2.2]; exact ⟨by rw [List.replicate_zero, List.append_nil]; exact H0.out.1, Gs.refl _ _, FN.refl _ _⟩⟩
    case round =>
      rename_i u0 _
      obtain ⟨j, m, rfl, hm, hA⟩ := hrel
      have hle : B ≤ wr.heap.size := Nat.le_trans hB hA.2.1.size
      have hol : (O ++ List.replicate j (255 : UInt8)).length ≤ 1000000 := by rw [List.length_append, List.length_replicate]; omega
      obtain ⟨av, cv, hv⟩ := hA.1.shp
      by_cases hlt : 255 ≤ m
      · have d1 : (255 : Int) ≤ (m : Int) := by omega
        obtain ⟨v', w2, hap, hO, hG, hF⟩ := app_b hA.1 255 hol hle
        rw [show (((255 : UInt8).toNat : Nat) : Int) = 255 from rfl] at hap
        obtain ⟨m2, hm2⟩ : ∃ m2, m2 = m - 255 := ⟨_, rfl⟩
        have d2 : (m : Int) - 255 = (m2 : Int) := by omega
        have d3 : IntKind.i64.wrap (m2 : Int) = (m2 : Int) := by rw [IntKind.wrap_i64]; omega
        have HE : Hid (AP B w v O (List.replicate (j + 1) 255) v' w2) := by
          have := AP.trans hA ⟨hO, hG, hF⟩
          rw [List.replicate_succ']
          exact this
        have HM : Hid (m0 = 255 * (j + 1) + m2 ∧ m2 < m) := ⟨by omega, by omega⟩
        clear hA hO hG hF hm hm2 hol hv
        go_wp2_with (at_builtin; refine Lib.wpList_append_run _ rfl _ _ _ _ rfl _ _ rfl rfl _ _ hap ?_)
        exact ⟨⟨j + 1, m2, rfl, HM.out.1, HE.out⟩, by have := HM.out.2; simp [Go.RowKit.intOf]; omega⟩
      · have d1 : ¬ (255 : Int) ≤ (m : Int) := by omega
        obtain ⟨v', w2, hap, hO, hG, hF⟩ := app_b hA.1 (UInt8.ofNat m) hol hle
        have hbm : (UInt8.ofNat m).toNat = m := by rw [UInt8.toNat_ofNat']; omega
        rw [hbm] at hap
        have d3 : IntKind.u8.wrap (m : Int) = (m : Int) := by rw [IntKind.wrap_u8]; omega
        have HE : Hid (AP B w v O (adS n) v' w2) := by
          have h2 := AP.trans hA ⟨hO, hG, hF⟩
          have h3 := H0.out.2.1
          show AP B w v O (adS n) v' w2
          rw [adS, if_neg c, ← h3, show m0 / 255 = j by omega, show m0 % 255 = m by omega]
          exact h2
        clear hA hO hG hF hm hol hv
        go_wp2_with (at_builtin; refine Lib.wpList_append_run _ rfl _ _ _ _ rfl _ _ rfl rfl _ _ hap ?_)
        go_ret
        exact ⟨_, rfl, by rw [← H0.out.2.2]; exact HE.out⟩
set_option maxRecDepth 100000 in
set_option maxHeartbeats 3200000 in
theorem add_any {L : ByteArray} {d l : Nat} (h : BO B v O w) (hl : O.length ≤ 50000) (hB : B ≤ w.heap.size) (h1 : L.size ≤ 5000) (h2 : l ≤ 5000) (h3 : d ≤ 65535) : Calls Tryd.prog 73 #[v, .agg #[.string L, .int .i64 (d : Int), .int .i64 (l : Int)]] w fun e w' => ∃ v', e = .returned v' ∧ AP B w v O (enS ⟨L, d, l⟩) v' w' := by
  obtain ⟨a, ha⟩ : ∃ a, a = L.size := ⟨_, rfl⟩
  obtain ⟨b, hb⟩ : ∃ b, b = l - 4 := ⟨_, rfl⟩
  obtain ⟨g, hg⟩ : ∃ g, g = w.heap.size := ⟨_, rfl⟩
  obtain ⟨W, hW⟩ : ∃ W, w.alloc (.cells #[.string L, .int .i64 (d : Int), .int .i64 (l : Int)] 124) = W := ⟨_, rfl⟩
  have hBW : Below w.heap.size w W := by rw [← hW]; exact (Below.refl _ _).alloc (Nat.le_refl _) _
  have kg : QB W g L d l := by rw [← hW, hg]; exact heap_alloc_new w _
  obtain ⟨c0, c1, c2⟩ := cell3 kg
  have hOW : BO B v O W := h.keep hBW
  have hAW : AP B w v O [] v W := ⟨by rw [List.append_nil]; exact hOW, Gs.of_below _ hBW, FN.refl _ _⟩
  have e1 : IntKind.i64.wrap ((l : Int) - 4) = (l : Int) - 4 := by rw [IntKind.wrap_i64]; omega
  have e2 : max ((l : Int) - 4) 0 = (b : Int) := by omega
  have hgW := lt_of_block kg
  have hvg : v.ownBlock ≠ some g := fun e => by have := (h.lt g e).2; omega
  obtain ⟨av, cv, hv⟩ := h.shp
  have H0 := hide (And.intro hAW (And.intro kg (And.intro hgW (And.intro hvg (And.intro ha (And.intro hb hB))))))
  have HW := hide (And.intro hW hg)
  have HV := hide hv
  clear h hW hBW kg hOW hAW hgW hvg hb hg hv
  go_enter Tryd.func73, Tryd.ntmps73
  go_upto_region 1 with fail
  rw [HW.out.1, ← HW.out.2]
  go_region
  obtain ⟨x, hx⟩ : ∃ x, x = min L.size 15 := ⟨_, rfl⟩
  obtain ⟨y, hy⟩ : ∃ y, y = min b 15 := ⟨_, rfl⟩
  have m1 : min (L.size : Int) 15 = (x : Int) := by omega
  have m2 : min (b : Int) 15 = (y : Int) := by omega
  have hx16 : x < 16 := by omega
  have hy16 : y < 16 := by omega
  have o1 := or_fin ⟨x, hx16⟩ ⟨y, hy16⟩
  obtain ⟨z, hz⟩ : ∃ z, x * 16 + y = z := ⟨_, rfl⟩
  simp only [hz] at o1
  have m3 : IntKind.i64.wrap ((x : Int) * 16) = (x : Int) * 16 := by rw [IntKind.wrap_i64]; omega
  have m4 : IntKind.u8.wrap (z : Int) = (z : Int) := by rw [IntKind.wrap_u8]; omega
  obtain ⟨W2, hW2⟩ : ∃ W2, W.drew = W2 := ⟨_, rfl⟩
  have hS2 : ST B w v O [] g L d l v W2 := by rw [← hW2]; exact ST.drew ⟨H0.out.1, H0.out.2.1, H0.out.2.2.2.1⟩
  obtain ⟨v3, w3, hap, hO3, hG3, hF3⟩ := app_b hS2.ap.1 (UInt8.ofNat z) (by rw [List.append_nil]; omega) (Nat.le_trans hB hS2.ap.2.1.size)
  have hbz : (UInt8.ofNat z).toNat = z := by rw [UInt8.toNat_ofNat']; omega
  rw [hbz] at hap
  have hS3 : ST B w v O [hd1 L.size b] g L d l v3 w3 := by
    have := hS2.step ⟨hO3, hG3, hF3⟩
    rw [hd1, ← hx, ← hy, hz]
    exact this
  have hHW2 := hide hW2
  have H3 := hide hS3
  clear hx hy hz hx16 hy16 hS2 hO3 hG3 hF3 hbz hS3 hW2
  rw [hHW2.out]
  go_wp2_with (at_builtin; refine Lib.wpList_append_run _ rfl _ _ _ _ rfl _ _ rfl rfl _ _ hap ?_)
  clear hap
  have hle3 : B ≤ w3.heap.size := Nat.le_trans hB H3.out.ap.2.1.size
  have HS := hide (addSum_any (n := L.size) H3.out.drew.ap.1 (by rw [List.length_append]; simp; omega) hle3 (by omega))
  have D3 : w3.drew.cell? ⟨g, 0, none⟩ = some (.string L) := (cell3 H3.out.q).1
  clear hle3 c0 c1 c2
  go_region_held_law (fun w' => w'.cell? ⟨g, 0, none⟩ = some (.string L)) (first | with_reducible assumption)
    (first
      | (go_at_call 90; refine HS.out.mono ?_; rintro e w5 ⟨v5, rfl, hA5⟩
         have hS5 := H3.out.step hA5.und
         have D5 : w5.cell? ⟨g, 0, none⟩ = some (.string L) := (cell3 hS5.q).1
         have hl5 : (O ++ ([hd1 L.size b] ++ adS L.size)).length + L.size ≤ 1000000 := by
           rw [List.length_append, List.length_append, adS_len]
           simp
           split <;> omega
         obtain ⟨v6, w6, hap6, hO6, hG6, hF6⟩ := app_t hS5.ap.1 L hl5 (Nat.le_trans hB hS5.ap.2.1.size)
         have hS6 := hS5.step ⟨hO6, hG6, hF6⟩
         have D6 : w6.cell? ⟨g, 0, none⟩ = some (.string L) := (cell3 hS6.q).1
         have H6 := hide hS6
         clear hA5 hS5 hl5 hO6 hG6 hF6 hS6)
      | (refine step_append_run rfl (some 29) rfl _ _ 58 9 rfl _ _ rfl rfl _ _ hap6 ?_))
  clear D3 D5 D6
  have p2 := (cell3 H6.out.q).2.2
  have p1 := (cell3 H6.out.q).2.1
  by_cases hl0 : l = 0
  · have n1 : ((l : Int) == 0) = true := by simpa using hl0
    have n2 : (l : Int) = 0 := by omega
    have HE : Hid (AP B w v O (enS ⟨L, d, l⟩) v6 w6) := by
      have h6 := H6.out.ap
      have e5 : b = 0 := by have := H0.out.2.2.2.2.2.1; omega
      show AP B w v O (hd1 L.size (l - 4) :: (adS L.size ++ L.data.toList ++ if l = 0 then [] else _)) v6 w6
      rw [if_pos hl0, List.append_nil, show l - 4 = b by have := H0.out.2.2.2.2.2.1; omega]
      rw [List.append_assoc] at h6
      exact h6
    have HL0 := hide hl0
    clear hl0
    go_wp2
    go_ret
    exact ⟨_, rfl, HE.out⟩
  · have n1 : ((l : Int) == 0) = false := by simpa using hl0
    have n2 : ¬ (l : Int) = 0 := by omega
    have u1 : IntKind.u8.wrap (d : Int) = ((d % 256 : Nat) : Int) := by rw [IntKind.wrap_u8]; omega
    have u2 : (d : Int) / 256 = ((d / 256 : Nat) : Int) := by omega
    have u3 : IntKind.u8.wrap ((d / 256 : Nat) : Int) = ((d / 256 : Nat) : Int) := by rw [IntKind.wrap_u8]; omega
    obtain ⟨lo_, hlo⟩ : ∃ x, d % 256 = x := ⟨_, rfl⟩
    obtain ⟨hi_, hhi⟩ : ∃ x, d / 256 = x := ⟨_, rfl⟩
    rw [hlo] at u1
    rw [hhi] at u2 u3
    have hl6 : (O ++ ([hd1 L.size b] ++ adS L.size ++ L.data.toList)).length ≤ 99000 := by
      have e : L.data.toList.length = L.size := by simp
      rw [List.length_append, List.length_append, List.length_append, adS_len, e]
      simp
      split <;> omega
    obtain ⟨v7, w7, hap7, hO7, hG7, hF7⟩ := app_b2 H6.out.ap.1 (UInt8.ofNat lo_) (UInt8.ofNat hi_) (by omega) (Nat.le_trans hB H6.out.ap.2.1.size)
    have hb1 : (UInt8.ofNat lo_).toNat = lo_ := by rw [UInt8.toNat_ofNat']; omega
    have hb2 : (UInt8.ofNat hi_).toNat = hi_ := by rw [UInt8.toNat_ofNat']; omega
    rw [hb1, hb2] at hap7
    have hS7 := H6.out.step ⟨hO7, hG7, hF7⟩
    have HS7 := hide (addSum_any (n := b) hS7.ap.1 (by rw [← List.append_assoc, List.length_append]; simp at hl6 ⊢; omega) (Nat.le_trans hB hS7.ap.2.1.size) (by have := H0.out.2.2.2.2.2.1; omega))
    have HE : Hid (∀ v8 w8, AP B w7 v7 (O ++ ([hd1 L.size b] ++ adS L.size ++ L.data.toList ++ [UInt8.ofNat lo_, UInt8.ofNat hi_])) (adS b) v8 w8 → AP B w v O (enS ⟨L, d, l⟩) v8 w8) := fun v8 w8 h8 => by
      have h9 := (hS7.step h8).ap
      show AP B w v O (hd1 L.size (l - 4) :: (adS L.size ++ L.data.toList ++ if l = 0 then [] else [UInt8.ofNat (d % 256), UInt8.ofNat (d / 256)] ++ adS (l - 4))) v8 w8
      rw [if_neg hl0, show l - 4 = b by have := H0.out.2.2.2.2.2.1; omega, hlo, hhi]
      simp only [List.append_assoc, List.cons_append, List.nil_append] at h9 ⊢
      exact h9
    have HL0 := hide hl0
    clear hl0 hlo hhi hl6 hO7 hG7 hF7 hb1 hb2 hS7
    go_wp2_with (first | (at_builtin; refine Lib.wpList_append_run _ rfl _ _ _ _ rfl _ _ rfl rfl _ _ hap7 ?_))
    refine HS7.out.mono ?_
    rintro e w8 ⟨v8, rfl, hA8⟩
    have HA8 := hide hA8
    clear hA8
    go_wp2
    go_ret
    exact ⟨_, rfl, HE.out _ _ HA8.out⟩
end
end Go.Proofs.YtcidfkkgpehodaaDoor

namespace Go.Proofs.YtcidfkkgpehodaaDoor
open Go.RowKit Go.Lib Go.Maps
/-- A list of bytes lies in no block of another type. -/
theorem bo_apart {B c : Nat} {v : Value} {O : List UInt8} {w : World} {cs : Array Value} {T : TypeId} {fr : Nat × Nat} (h : BO B v O w) (hc : w.heap[c]? = some (.cells cs T fr)) (hT : T ≠ 5) : v.ownBlock ≠ some c := fun e => by
  obtain ⟨cs2, h2⟩ := h.typ c e
  rw [hc] at h2
  simp at h2
  exact hT h2.2.1
theorem bo_fo {B b mb k : Nat} {v u : Value} {O : List UInt8} {w : World} {s : ByteArray} (h : BO B u O w) (hF : FD B w b mb v s k) : ∀ i, FO v b mb i → ¬ Ow u i := fun i hi e => by
  rcases hi with rfl | rfl | hi
  · exact bo_apart h hF.fb (by decide) e
  · obtain ⟨cs, hc⟩ := h.typ _ e
    exact hF.mp.notCells hc
  · obtain ⟨cs, hc⟩ := hF.ro.typ i hi
    exact bo_apart h hc (by decide) e
section
variable {w : World} {s : ByteArray}
theorem wpList_makeMap_run {ops : Array Oper} {rest : List Oper} {op : Oper} {a : Act} {w w1 : World} {Q : Exit → Act → World → Prop} {u : Value} (hgd : op.guard = none) (ty : TypeId) (ho : op.op = .makeMap ty none)
    (hr : (Instr.makeMap ty none).run Tryd.prog w = .ok u w1) (h : wpList Tryd.prog ops Q rest (a.put op.dst u) w1) : wpList Tryd.prog ops Q (op :: rest) a w :=
  wpList_plain hgd fun _ hK => by
    unfold Oper.wp execOp
    simp only [ho, Option.map_none, hr, Sem.run_bind, Sem.run_pure, Result.andThen_ok]
    exact hK _ _ h
/-- What was packed so far. -/
def pkX (s : ByteArray) (i : Nat) (O : List UInt8) : Prop := O ++ enL (seG s (s.size - i) i) = enL (seG s s.size 0)
theorem seG_enough {s : ByteArray} : ∀ (f f' i : Nat), s.size - i ≤ f → s.size - i ≤ f' → i ≤ s.size → seG s f i = seG s f' i
  | 0, 0, _, _, _, _ => rfl
  | 0, f' + 1, i, h, _, hi => by
    have hx : (nx s i).2.2 = 0 := by
      rw [nx_lo]
      have := (nx_is s i).2.1
      exact lo_few (by omega)
    rw [seG, seG, if_neg (by omega)]
  | f + 1, 0, i, _, h, hi => by
    have hx : (nx s i).2.2 = 0 := by
      rw [nx_lo]
      have := (nx_is s i).2.1
      exact lo_few (by omega)
    rw [seG, seG, if_neg (by omega)]
  | f + 1, f' + 1, i, h, h', hi => by
    rw [seG, seG]
    by_cases c : 0 < (nx s i).2.2
    · obtain ⟨r1, r2, r3, r4, r5, r6⟩ := nx_rp c
      have := (nx_is s i).2.1
      rw [if_pos c, if_pos c, seG_enough f f' _ (by omega) (by omega) (by omega)]
    · rw [if_neg c, if_neg c]
set_option maxRecDepth 100000 in
set_option maxHeartbeats 1600000 in
theorem pack_long (h : 1048576 < s.size) (hs : s.size ≤ 4611686018427387904) : Calls Tryd.prog 52 #[.string s] w fun e w' => e = .returned (.tuple #[.string ⟨#[]⟩, .int .i64 2]) ∧ Below w.heap.size w w' := by
  have c1 : (1048576 : Int) < (s.size : Int) := by omega
  go_enter Tryd.func52, Tryd.ntmps52
  go_wp2
  exact bodyPost_ret (v := .tuple #[.string ⟨#[]⟩, .int .i64 2]) (by simp [results, Tryd.results52, go_sem]) rfl ⟨rfl, Below.refl _ _⟩
set_option maxRecDepth 100000 in
set_option maxHeartbeats 3200000 in
theorem pack_ok (hs : s.size ≤ 5000) : Calls Tryd.prog 52 #[.string s] w fun e w' => e = .returned (.tuple #[.string (pkB s), .int .i64 0]) ∧ Below w.heap.size w w' := by
  have c1 : ¬ (1048576 : Int) < (s.size : Int) := by omega
  obtain ⟨mb, hmb⟩ : ∃ mb, mb = w.heap.size := ⟨_, rfl⟩
  obtain ⟨w1, hw1⟩ : ∃ w1, w.alloc (.map #[] 0) = w1 := ⟨_, rfl⟩
  obtain ⟨b, hb⟩ : ∃ b, b = w1.heap.size := ⟨_, rfl⟩
  obtain ⟨w2, hw2⟩ : ∃ w2, w1.alloc (.cells #[.string s, .map (some mb), .slice none 0 0] 118) = w2 := ⟨_, rfl⟩
  have hmm : (Instr.makeMap 115 none).run Tryd.prog w = .ok (.map (some mb)) w1 := by rw [hmb, ← hw1]; rfl
  have hB1 : Below w.heap.size w w1 := by rw [← hw1]; exact (Below.refl _ _).alloc (Nat.le_refl _) _
  have hB2 : Below w1.heap.size w1 w2 := by rw [← hw2]; exact (Below.refl _ _).alloc (Nat.le_refl _) _
  have hM1 : MF w1 mb s 0 := by rw [← hw1, hmb]; exact MF.made w s
  have hFB : FB w2 b s mb (.slice none 0 0) := by rw [← hw2, hb]; exact heap_alloc_new w1 _
  have hFD : FD w.heap.size w2 b mb (.slice none 0 0) s 0 := ⟨hFB, hM1.kb (hB2.block mb hM1.lt), OW.nil _ _ _ _ _, Nat.le_trans hB1.size hB2.size⟩
  have HN := hide (next_any hFD (Nat.zero_le _) hs)
  have hbw := below_step hB1 hB2
  have hwb : w.heap.size ≤ mb ∧ w.heap.size ≤ b := ⟨by omega, by have := hB1.size; omega⟩
  have H2 := hide (And.intro hFD hbw)
  have HW := hide (And.intro hw2 hb)
  have htot : (enL (seG s s.size 0)).length ≤ 6000 := by
    have := enL_len _ _ (seG_ws (s := s) s.size 0 (Nat.zero_le _)).1
    have := (seG_ws (s := s) s.size 0 (Nat.zero_le _)).2
    omega
  clear hw1 hb hB1 hB2 hM1 hFB hFD hbw hw2 hmb
  go_enter Tryd.func52, Tryd.ntmps52
  go_wp2_with (refine wpList_makeMap_run rfl _ rfl hmm ?_)
  rw [HW.out.1, ← HW.out.2]
  refine HN.out.mono ?_
  rintro _ w3 ⟨rfl, v3, ⟨k3, hF3⟩, hG3, hN3⟩
  obtain ⟨a0, d0, l0, hnx0⟩ : ∃ a0 d0 l0, nx s 0 = (a0, d0, l0) := ⟨_, _, _, rfl⟩
  obtain ⟨g0, hg0⟩ : ∃ g0, g0 = w3.heap.size := ⟨_, rfl⟩
  obtain ⟨w4, hw4⟩ : ∃ w4, w3.alloc (.cells #[.int .i64 (a0 : Int), .int .i64 (d0 : Int), .int .i64 (l0 : Int)] 120) = w4 := ⟨_, rfl⟩
  have hB4 : Below w3.heap.size w3 w4 := by rw [← hw4]; exact (Below.refl _ _).alloc (Nat.le_refl _) _
  have kg4 : GB w4 g0 a0 d0 l0 := by rw [← hw4, hg0]; exact heap_alloc_new w3 _
  have hF4 := hF3.same (Gs.of_below _ hB4)
  have hgF4 : ¬ FO v3 b mb g0 := hF3.there2 (by omega)
  have hbw3 : Below w.heap.size w w3 := hG3.below H2.out.2 H2.out.2.size (fun i e => by
    rcases e with rfl | rfl | e
    · exact hwb.2
    · exact hwb.1
    · simp [Value.ownBlock] at e)
  have hbw4 := below_step hbw3 hB4
  have hg0w : w.heap.size ≤ g0 := by have := hbw3.size; omega
  have H4 := hide (And.intro kg4 (And.intro hF4 (And.intro hgF4 (And.intro hbw4 (And.intro hnx0 hg0w)))))
  have HW4 := hide (And.intro hw4 hg0)
  clear hF3 hG3 hN3 hg0 hw4 hB4 kg4 hF4 hgF4 hbw3 hbw4 hg0w hmm
  rw [hnx0]
  simp only [gV]
  clear hnx0
  go_wp2_with fail
  rw [HW4.out.1, ← HW4.out.2]
  go_loopw [5, 6, 7] (fun x y z wr => ∃ (O : List UInt8) (i g k a d l : Nat) (v : Value), y = .int .i64 (i : Int) ∧ z = .pointer (some ⟨g, 0, none⟩) ∧ BO w.heap.size x O wr ∧ GB wr g a d l ∧ nx s i = (a, d, l) ∧ FD w.heap.size wr b mb v s k ∧ ¬ FO v b mb g ∧ pkX s i O ∧ i ≤ s.size ∧ w.heap.size ≤ g ∧ Below w.heap.size w wr ∧ (∀ c, v.ownBlock = some c → w.heap.size ≤ c)) (fun _ y _ _ => s.size - (Go.RowKit.intOf y).toNat)
  case atStart => exact ⟨[], 0, g0, k3, a0, d0, l0, v3, rfl, rfl, OW.nil _ _ _ _ _, H4.out.1, H4.out.2.2.2.2.1, H4.out.2.1, H4.out.2.2.1, rfl, Nat.zero_le _, H4.out.2.2.2.2.2, H4.out.2.2.2.1, fun c hc => (H4.out.2.1.ro.lt c hc).1⟩
  case round =>
    obtain ⟨O, i, g, k, a, d, l, v, rfl, rfl, hO, kg, hnx, hF, hgF, hpk, hi, hgw, hbw, hvw⟩ := hrel
    have a0 := (cell3 kg).1
    have a1 := (cell3 kg).2.1
    have a2 := (cell3 kg).2.2
    have hle : w.heap.size ≤ wr.heap.size := hbw.size
    have hOl : O.length ≤ 6000 := by
      have h1 := congrArg List.length hpk
      rw [List.length_append] at h1
      omega
    by_cases hl : 0 < l
    · have c2 : (0 : Int) < (l : Int) := by omega
      have c3 : decide (0 < l) = true := by simpa using hl
      have hrp := nx_rp (s := s) (i := i) (by rw [hnx]; exact hl)
      have hni := nx_is s i
      rw [hnx] at hrp hni
      obtain ⟨r1, r2, r3, r4, r5, _⟩ := hrp
      simp only at r1 r2 r3 r4 r5 hni
      obtain ⟨L, hL⟩ : ∃ L, L = s.extract i a := ⟨_, rfl⟩
      have hsl := sl_at (s := s) (a := i) (b := a) hni.2.1 (by omega)
      rw [← hL] at hsl
      have hLz : L.size ≤ 5000 := by rw [hL, ByteArray.size_extract]; omega
      have hOd : BO w.heap.size u5 O wr.drew := hO.kb (fun _ _ => rfl)
      have HS := hide (add_any (L := L) (d := d) (l := l) hOd (by omega) hle hLz (by omega) r3)
      have D0 : wr.drew.cell? ⟨g, 0, none⟩ = some (.int .i64 (a : Int)) ∧ wr.drew.cell? ⟨g, 1, none⟩ = some (.int .i64 (d : Int)) ∧ wr.drew.cell? ⟨g, 2, none⟩ = some (.int .i64 (l : Int)) := ⟨a0, a1, a2⟩
      have hpk2 : pkX s (a + l) (O ++ enS ⟨L, d, l⟩) := by
        have h1 := hpk
        rw [pkX, show s.size - i = (s.size - i - 1) + 1 by omega, seG, hnx, if_pos hl, enL, List.flatMap_cons, ← List.append_assoc] at h1
        simp only at h1
        rw [pkX, seG_enough (s.size - (a + l)) (s.size - i - 1) (a + l) (Nat.le_refl _) (by omega) r5, hL]
        exact h1
      have hng : u5.ownBlock ≠ some g := bo_apart hO kg (by decide)
      have HQ := hide (And.intro hO (And.intro kg (And.intro hF (And.intro hgF (And.intro hpk2 (And.intro hgw (And.intro hbw (And.intro hng (And.intro (bo_fo hO hF) hvw)))))))))
      obtain ⟨i2, hi2⟩ : ∃ i2, i2 = a + l := ⟨_, rfl⟩
      have e1 : (a : Int) + (l : Int) = (i2 : Int) := by omega
      have e2 : IntKind.i64.wrap (i2 : Int) = (i2 : Int) := by rw [IntKind.wrap_i64]; omega
      have hi2s : i2 ≤ s.size := by omega
      have hii : i < i2 := by have := hni.2.1; omega
      have HI := hide hi2
      clear hO kg hF hgF hpk hpk2 hgw hbw hng hvw hOd r1 r2 r4 r5 hni hnx hL hi2 hl a0 a1
      go_wp2_with fail
      go_region_held_law (fun w' => w'.cell? ⟨g, 0, none⟩ = some (.int .i64 (a : Int)) ∧ w'.cell? ⟨g, 1, none⟩ = some (.int .i64 (d : Int)) ∧ w'.cell? ⟨g, 2, none⟩ = some (.int .i64 (l : Int))) (first | with_reducible assumption)
        (first
          | (go_at_call 73; refine HS.out.mono ?_; rintro e w5 ⟨v5, rfl, hA5⟩
             have hG5 : Gs (Ow u5) wr w5 := ⟨hA5.2.1.os, hA5.2.1.tape, hA5.2.1.output, hA5.2.1.size, hA5.2.1.block⟩
             have k5 : GB w5 g a d l := (hG5.block g (lt_of_block HQ.out.2.1) HQ.out.2.2.2.2.2.2.2.1).trans HQ.out.2.1
             have D5 : w5.cell? ⟨g, 0, none⟩ = some (.int .i64 (a : Int)) ∧ w5.cell? ⟨g, 1, none⟩ = some (.int .i64 (d : Int)) ∧ w5.cell? ⟨g, 2, none⟩ = some (.int .i64 (l : Int)) := cell3 k5
             have H5 := hide (And.intro hA5.1 (And.intro k5 hG5))
             clear hA5 hG5 k5))
      have hF5 := HQ.out.2.2.1.gs H5.out.2.2 HQ.out.2.2.2.2.2.2.2.2.1
      have hbw5 : Below w.heap.size w w5 := H5.out.2.2.below HQ.out.2.2.2.2.2.2.1 hle (fun c e => (HQ.out.1.lt c e).1)
      obtain ⟨a3, a4, a5⟩ := D5
      have HD := hide (And.intro hF5 hbw5)
      obtain ⟨g6, hg6⟩ : ∃ g6, g6 = w5.heap.size := ⟨_, rfl⟩
      obtain ⟨w6, hw6⟩ : ∃ w6, w5.alloc (.cells #[.int .i64 (a : Int), .int .i64 (d : Int), .int .i64 (l : Int)] 120) = w6 := ⟨_, rfl⟩
      have hB6 : Below w5.heap.size w5 w6 := by rw [← hw6]; exact (Below.refl _ _).alloc (Nat.le_refl _) _
      have k6 : GB w6 g6 a d l := by rw [← hw6, hg6]; exact heap_alloc_new w5 _
      have hF6 := hF5.same (Gs.of_below _ hB6)
      have hO6 : BO w.heap.size v5 (O ++ enS ⟨L, d, l⟩) w6 := H5.out.1.keep hB6
      have hgF6 : ¬ FO v b mb g6 := hF5.there2 (by omega)
      have hbw6 := below_step hbw5 hB6
      have hg6w : w.heap.size ≤ g6 := by have := hbw5.size; omega
      have HN6 := hide (next_any (i := i2) hF6 hi2s hs)
      have H6 := hide (And.intro k6 (And.intro hF6 (And.intro hO6 (And.intro hgF6 (And.intro hbw6 (And.intro hg6w (And.intro (bo_fo hO6 hF6) (bo_apart hO6 k6 (by decide)))))))))
      have HW6 := hide (And.intro hw6 hg6)
      clear hF5 hbw5 hB6 k6 hF6 hO6 hgF6 hbw6 hg6w D0 hsl hw6 hg6
      go_wp2_with fail
      rw [HW6.out.1, ← HW6.out.2]
      refine HN6.out.mono ?_
      rintro _ w7 ⟨rfl, v7, ⟨k7, hF7⟩, hG7, hN7⟩
      obtain ⟨a9, d9, l9, hnx9⟩ : ∃ a9 d9 l9, nx s i2 = (a9, d9, l9) := ⟨_, _, _, rfl⟩
      have hgW := lt_of_block H6.out.1
      have kg7 : GB w7 g6 a d l := (hG7.block g6 hgW H6.out.2.2.2.1).trans H6.out.1
      have hgF7 := hN7.out hgW H6.out.2.2.2.1
      have hO7 : BO w.heap.size v5 (O ++ enS ⟨L, d, l⟩) w7 := H6.out.2.2.1.gs2 hG7 (fun c hc e => H6.out.2.2.2.2.2.2.1 c e hc)
      have hvw7 : ∀ c, v7.ownBlock = some c → w.heap.size ≤ c := fun c hc => (hF7.ro.lt c hc).1
      have hbw7 : Below w.heap.size w w7 := hG7.below H6.out.2.2.2.2.1 H6.out.2.2.2.2.1.size (fun c e => by
        rcases e with rfl | rfl | e
        · exact hwb.2
        · exact hwb.1
        · exact HQ.out.2.2.2.2.2.2.2.2.2 c e)
      obtain ⟨⟨z0, z1, z2, z3, z4, z5⟩, ⟨z6, z7, z8, z9⟩, ⟨y6, y7⟩, kf, hG9⟩ := three_set kg7 (.int .i64 (a9 : Int)) (.int .i64 (d9 : Int)) (.int .i64 (l9 : Int))
      have hF9 := hF7.gs hG9 (fun c e e2 => hgF7 (e2 ▸ e))
      have hO9 := hO7.gs2 hG9 (fun c hc e => H6.out.2.2.2.2.2.2.2 (e ▸ hc))
      have hbw9 := hG9.below hbw7 hbw7.size (fun c e => by have := H6.out.2.2.2.2.2.1; omega)
      have kf' : GB (((w7.setCell ⟨g6, 0, none⟩ (.int .i64 (a9 : Int))).setCell ⟨g6, 1, none⟩ (.int .i64 (d9 : Int))).setCell ⟨g6, 2, none⟩ (.int .i64 (l9 : Int))) g6 a9 d9 l9 := kf
      have HE := hide (And.intro hO9 (And.intro kf' (And.intro hnx9 (And.intro hF9 (And.intro hgF7 (And.intro (show pkX s i2 (O ++ enS ⟨L, d, l⟩) by rw [HI.out]; exact HQ.out.2.2.2.2.1) (And.intro hi2s (And.intro H6.out.2.2.2.2.2.1 (And.intro hbw9 hvw7)))))))))
      have HX9 := hide hnx9
      clear kg7 hgF7 hO7 hvw7 hbw7 kf hG9 hF9 hO9 hbw9 kf' hnx9 hF7 hG7 hN7 hgW
      rw [HX9.out]
      simp only [gV]
      go_wp2
      exact ⟨⟨O ++ enS ⟨L, d, l⟩, i2, g6, k7, a9, d9, l9, v7, rfl, rfl, HE.out⟩, by simp [Go.RowKit.intOf]; omega⟩
    · have c2 : ¬ (0 : Int) < (l : Int) := by omega
      have c3 : decide (0 < l) = false := by simpa using hl
      obtain ⟨L, hL⟩ : ∃ L, L = s.extract i s.size := ⟨_, rfl⟩
      have hsl := sl_from (r := s) (a := i) hi
      rw [← hL] at hsl
      have hLz : L.size ≤ 5000 := by rw [hL, ByteArray.size_extract]; omega
      have HS := hide (add_any (L := L) (d := 0) (l := 0) hO (by omega) hle hLz (by omega) (by omega))
      have hend : O ++ enS ⟨L, 0, 0⟩ = enL (seG s s.size 0) := by
        have h1 := hpk
        rw [pkX] at h1
        rw [← h1, hL]
        cases s.size - i with
        | zero => rw [seG, enL, List.flatMap_cons, List.flatMap_nil, List.append_nil]
        | succ f => rw [seG, hnx, if_neg hl, enL, List.flatMap_cons, List.flatMap_nil, List.append_nil]
      have HQ := hide (And.intro hO (And.intro hbw hend))
      clear hO kg hnx hF hgF hpk hgw hbw hvw hL hend hl a0 a1
      go_wp2_with fail
      refine HS.out.mono ?_
      rintro e w5 ⟨v5, rfl, hA5⟩
      have hcv := BO.str hA5.1
      rw [HQ.out.2.2] at hcv
      have HB : Hid (Below w.heap.size w w5) := hA5.2.1.below HQ.out.2.1 hle (fun c e => (HQ.out.1.lt c e).1)
      clear hA5
      go_wp2
      exact bodyPost_ret (v := .tuple #[.string (pkB s), .int .i64 0]) (by simp [results, Tryd.results52, go_sem, pkB]) rfl ⟨rfl, HB.out⟩
theorem pckC : PackC (fun _ => True) pkB := fun w s _ h1 h2 => by
  rw [pkV]
  split
  · rename_i h
    exact pack_ok (by omega)
  · rename_i h
    exact pack_long (by omega) h2
end
end Go.Proofs.YtcidfkkgpehodaaDoor

namespace Go.Proofs.YtcidfkkgpehodaaDoor
open Go.RowKit Go.Lib
theorem Tryd.sizeElB (w : World) : (Go.sizeOf (Tryd.prog.elem 58)).run Tryd.prog w = .ok 1 w := by kernel_rfl
set_option maxRecDepth 100000 in
/-- A part of bytes of one's own, as a text. -/
theorem BO.part {B : Nat} {v : Value} {O : List UInt8} {w : World} (h : BO B v O w) {a l : Nat} (ha : a + l ≤ O.length) (hl : 0 < l) :
    ∃ u, (∀ wx, (Instr.slice 58 v (some (.int .i64 (a : Int))) (some (.int .i64 ((a + l : Nat) : Int))) none).run Tryd.prog wx = .ok u wx) ∧ ∀ wx : World, (∀ i, v.ownBlock = some i → wx.heap[i]? = w.heap[i]?) → (convert 58 9 u).run Tryd.prog wx = .ok (.string ⟨((O.drop a).take l).toArray⟩) wx := by
  obtain ⟨_, ⟨rfl, h2⟩ | ⟨g, cap, cur, rfl, hB, hg, hn, _, hs, ht⟩⟩ := h.own
  · omega
  · refine ⟨sliced (some ⟨g, 0, none⟩) a (a + l) cap 1, fun wx => ?_, fun wx hk => ?_⟩
    · rw [run_slice_lh wx 58 (some ⟨g, 0, none⟩) O.length cap Tryd.underlying58 .i64 .i64 (a : Int) ((a + l : Nat) : Int) (by omega) (by omega) (by omega), Tryd.sizeElB]
      have e0 : ((a : Int) + (l : Int)).toNat = a + l := by omega
      simp [Result.andThen, e0]
    · have hgx := (hk g rfl).trans hg
      have e : sliced (some ⟨g, 0, none⟩) a (a + l) cap 1 = .slice (some ⟨g, a, none⟩) ((O.drop a).take l).length (cap - a) := by
        have e1 : ((O.drop a).take l).length = l := by rw [List.length_take, List.length_drop]; omega
        rw [e1]
        have c0 : ¬ cap = a := by omega
        simp [sliced, Addr.add, c0]
        exact fun e => e.symm
      rw [e]
      refine run_convert_bytes_back wx 58 9 5 ⟨g, a, none⟩ (cap - a) ((O.drop a).take l) Tryd.underlying58 Tryd.underlying5 Tryd.underlying9 (fun j hj => ?_)
      have hj2 : j < l ∧ j < O.length - a := by rw [List.length_take, List.length_drop] at hj; omega
      rw [Addr.add_mid, cell_of_row wx g _ _ _ _ hgx]
      have e0 : (O.flatMap bc)[a + j]? = some (.int .u8 (O[a + j].toNat : Int)) := by rw [bc_flat, List.getElem?_map, List.getElem?_eq_getElem (by omega)]; rfl
      rw [← ht, List.getElem?_take, if_pos (by omega)] at e0
      simpa using e0
section
variable {w w' : World} {b mb n : Nat} {v1 v2 : Value} {lim : Int} {O R : List UInt8} {f : ByteArray → Option (Int × Int)}
set_option maxRecDepth 100000 in
set_option maxHeartbeats 800000 in
theorem piece_any (h : PQ w b mb v1 v2 lim O R n f) {a l : Nat} (ha : a + l ≤ O.length) (hl : 0 < l) (hO : O.length ≤ 1000000) : Calls Tryd.prog 36 #[.pointer (some ⟨b, 0, none⟩), spV (a : Int) (l : Int)] w fun e w' => e = .returned (.string ⟨((O.drop a).take l).toArray⟩) ∧ Below w.heap.size w w' := by
  obtain ⟨u, h1, h2⟩ := BO.part h.t1 ha hl
  have w1 : IntKind.i64.wrap ((a : Int) + (l : Int)) = ((a + l : Nat) : Int) := by rw [IntKind.wrap_i64]; omega
  obtain ⟨W1, hW1⟩ : ∃ W1, w.alloc (.cells #[.int .i64 (a : Int), .int .i64 (l : Int)] 66) = W1 := ⟨_, rfl⟩
  obtain ⟨p, hp⟩ : ∃ p, w.heap.size = p := ⟨_, rfl⟩
  have hB : Below w.heap.size w W1 := by rw [← hW1]; exact below_al (Below.refl _ _) _
  have k0 : W1.cell? ⟨b, 0, none⟩ = some v1 := (h.bel hB).g0.cell
  have kk : W1.heap[p]? = some (.cells #[.int .i64 (a : Int), .int .i64 (l : Int)] 66 (0, 0)) := by rw [← hW1, ← hp]; exact heap_alloc_new w _
  have k1 : W1.cell? ⟨p, 0, none⟩ = some (.int .i64 (a : Int)) := by simp [World.cell?, kk]
  have k2 : W1.cell? ⟨p, 1, none⟩ = some (.int .i64 (l : Int)) := by simp [World.cell?, kk]
  have h3 := h2 W1 (fun i hi => hB.block i (OW.lt h.t1 i hi).2)
  have HB := hide (And.intro hB hB.drew)
  have HW := hide hW1
  have HP := hide hp
  obtain ⟨S, hS⟩ : ∃ S : ByteArray, S = ⟨((O.drop a).take l).toArray⟩ := ⟨_, rfl⟩
  rw [← hS] at h3 ⊢
  obtain ⟨e, hE⟩ : ∃ e, a + l = e := ⟨_, rfl⟩
  rw [hE] at h1 w1
  rw [spV]
  have h4 : (convert 58 9 u).run Tryd.prog W1.drew = .ok (.string S) W1.drew := by
    have := h2 W1.drew (fun i hi => hB.block i (OW.lt h.t1 i hi).2)
    rw [← hS] at this
    exact this
  have k3 : W1.drew.cell? ⟨b, 0, none⟩ = some v1 := k0
  have k4 : W1.drew.cell? ⟨p, 0, none⟩ = some (.int .i64 (a : Int)) := k1
  have k5 : W1.drew.cell? ⟨p, 1, none⟩ = some (.int .i64 (l : Int)) := k2
  clear h h2 hW1 hp hB kk hS hE ha hl hO
  go_enter Tryd.func36, Tryd.ntmps36
  go_wp2_with fail
  rw [HW.out, HP.out]
  go_region
  go_wp2
  go_ret
  exact ⟨rfl, HB.out.2⟩
theorem FN.nn {v v' : Value} {k n : Nat} (h : FN v v' n) (h1 : v.ownBlock ≠ some k) (h2 : k < n) : v'.ownBlock ≠ some k := fun e => by
  rcases h with h | ⟨j, h, hj⟩
  · exact h1 (h ▸ e)
  · rw [h] at e
    simp at e
    omega
theorem PQ.put0 {w1 : World} {v' : Value} {O' : List UInt8} (h : PQ w b mb v1 v2 lim O R n f) (h2 : BO 0 v' O' w1) (h3 : Gs (Ow v1) w w1) (h4 : FN v1 v' w.heap.size) : PQ (w1.setCell ⟨b, 0, none⟩ v') b mb v' v2 lim O' R n f := by
  have hlb := lt_of_block h.blk
  have n1 := h.g0.ne
  have n2 := h.g1.ne
  have hb1 := (h3.block b hlb (fun e => n1 e)).trans h.blk
  refine ⟨heap_set_self hb1, ?_, ?_, ?_, ?_⟩
  · exact OW.kb h2 fun i hi => Below.heap_setCell _ _ _ _ (fun e => FN.nn h4 n1 hlb (hi.trans (congrArg some e)))
  · exact OW.kb h.t2 fun i hi => (Below.heap_setCell _ _ _ _ (fun e => n2 (hi.trans (congrArg some e)))).trans (h3.block i (OW.lt h.t2 i hi).2 (fun e => h.ap i e hi))
  · exact h.map.kb ((Below.heap_setCell _ _ _ _ (fun e => h.ne e)).trans (h3.block mb h.map.lt (fun e => bow_map h.t1 h.map e)))
  · intro g hg hg2
    exact FN.nn h4 (fun e => h.ap g e hg2) (OW.lt h.t2 g hg2).2 hg
theorem PQ.put1 {w1 : World} {v' : Value} {O' : List UInt8} (h : PQ w b mb v1 v2 lim O R n f) (h2 : BO 0 v' O' w1) (h3 : Gs (Ow v2) w w1) (h4 : FN v2 v' w.heap.size) : PQ (w1.setCell ⟨b, 1, none⟩ v') b mb v1 v' lim O O' n f := by
  have hlb := lt_of_block h.blk
  have n1 := h.g0.ne
  have n2 := h.g1.ne
  have hb1 := (h3.block b hlb (fun e => n2 e)).trans h.blk
  refine ⟨heap_set_self hb1, ?_, ?_, ?_, ?_⟩
  · exact OW.kb h.t1 fun i hi => (Below.heap_setCell _ _ _ _ (fun e => n1 (hi.trans (congrArg some e)))).trans (h3.block i (OW.lt h.t1 i hi).2 (fun e => h.ap i hi e))
  · exact OW.kb h2 fun i hi => Below.heap_setCell _ _ _ _ (fun e => FN.nn h4 n2 hlb (hi.trans (congrArg some e)))
  · exact h.map.kb ((Below.heap_setCell _ _ _ _ (fun e => h.ne e)).trans (h3.block mb h.map.lt (fun e => bow_map h.t2 h.map e)))
  · intro g hg hg2
    exact FN.nn h4 (fun e => h.ap g hg e) (OW.lt h.t1 g hg).2 hg2
theorem gs_put {v : Value} {w1 : World} {p : Nat → Prop} (h : Gs (Ow v) w w1) (hb : p b) (hp : ∀ i, v.ownBlock = some i → p i) (j : Nat) (u : Value) : Gs p w (w1.setCell ⟨b, j, none⟩ u) :=
  ⟨h.os, h.tape, h.output, by simp [World.setCell]; exact h.size, fun i hi hn => (Below.heap_setCell _ _ _ _ (fun e => hn (by rw [show i = b from e]; exact hb))).trans (h.block i hi (fun e => hn (hp i e)))⟩
set_option maxRecDepth 100000 in
theorem empty_any (w : World) (lim : Int) : Calls Tryd.prog 23 #[.int .i64 lim] w fun e w' => ∃ b mb v1, e = .returned (.pointer (some ⟨b, 0, none⟩)) ∧ (∀ i, Pb b mb v1 (.slice none 0 0) i → w.heap.size ≤ i) ∧ PQ w' b mb v1 (.slice none 0 0) lim hd5.data.toList [] 0 (fun _ => none) ∧ Below w.heap.size w w' := by
  obtain ⟨q, hq⟩ : ∃ q, w.heap.size = q := ⟨_, rfl⟩
  obtain ⟨W1, hW1⟩ : ∃ W1, w.alloc (.map #[] 0) = W1 := ⟨_, rfl⟩
  have hB1 : Below w.heap.size w W1 := by rw [← hW1]; exact below_al (Below.refl _ _) _
  have hM1 : MQ W1 q 0 (fun _ => none) := by rw [← hW1, ← hq]; exact MQ.made w
  have hs1 : W1.heap.size = q + 1 := by rw [← hW1, ← hq]; simp
  have hmm : (Instr.makeMap 70 none).run Tryd.prog w = .ok (.map (some q)) W1 := by rw [← hq, ← hW1]; rfl
  obtain ⟨W2, hW2⟩ : ∃ W2, W1.alloc (.cells #[.slice none 0 0, .slice none 0 0, .map (some q), .int .i64 lim] 72) = W2 := ⟨_, rfl⟩
  have hB2 : Below w.heap.size w W2 := by rw [← hW2]; exact below_al hB1 _
  have kb : W2.heap[q + 1]? = some (.cells #[.slice none 0 0, .slice none 0 0, .map (some q), .int .i64 lim] 72 (0, 0)) := by rw [← hW2, ← hs1]; exact heap_alloc_new W1 _
  have hM2 : MQ W2 q 0 (fun _ => none) := hM1.kb (by rw [← hW2]; exact Below.heap_alloc _ _ _ (by omega))
  have hPQ : PQ W2 (q + 1) q (.slice none 0 0) (.slice none 0 0) lim [] [] 0 (fun _ => none) := ⟨kb, OW.nil _ _ _ _ _, OW.nil _ _ _ _ _, hM2, fun g e => by cases e⟩
  have HW := hide (write_any hPQ.g0 hd5 (by decide))
  have H2 := hide (And.intro hB2 hPQ)
  have HW2 := hide hW2
  have HS := hide hs1
  have HQ := hide hq
  clear hq hW1 hW2 hB1 hM1 hs1 hB2 kb hM2 hPQ
  go_enter Tryd.func23, Tryd.ntmps23
  go_wp2_with (refine wpList_makeMap_run rfl _ rfl hmm ?_)
  rw [HW2.out, HS.out]
  refine HW.out.mono ?_
  rintro _ w3 ⟨rfl, v', w1, g1, g2, g3, rfl⟩
  have HP := hide (H2.out.2.put0 g1 g2 g3)
  have hsz := H2.out.1.size
  have HB : Hid (Below w.heap.size w (w1.setCell ⟨q + 1, 0, none⟩ v')) := (gs_put (p := fun i => i = q + 1) g2 rfl (fun i e => by cases e) 0 v').below H2.out.1 hsz (fun i e => by rw [HQ.out]; omega)
  have HN : Hid (∀ i, Pb (q + 1) q v' (.slice none 0 0) i → w.heap.size ≤ i) := fun i hi => by
    rw [HQ.out]
    rcases hi with rfl | rfl | hi | hi
    · omega
    · omega
    · rcases g3 with g | ⟨j, g, hj⟩
      · rw [g] at hi; cases hi
      · rw [g] at hi
        simp at hi
        rw [HQ.out] at hsz
        omega
    · cases hi
  obtain ⟨w4, hw4⟩ : ∃ w4, w1.setCell ⟨q + 1, 0, none⟩ v' = w4 := ⟨_, rfl⟩
  rw [hw4] at HP HB ⊢
  clear g1 g2 g3 hw4
  go_wp2
  go_ret
  exact ⟨q + 1, q, v', rfl, HN.out, HP.out, HB.out⟩
end
end Go.Proofs.YtcidfkkgpehodaaDoor

namespace Go.Proofs.YtcidfkkgpehodaaDoor
open Go.RowKit Go.Lib Go.Shelf
attribute [local go_sem] Oper.semAt_some
theorem in_make_run {F : Fence} {n : Nat} {ops : Array Oper} {rest : List Oper} {op : Oper} {a : Act} {w w1 : World} {Q : Exit → Act → World → Prop} (hgd : op.guard = none) (ty : TypeId) (x y : Operand) (ho : op.op = .makeSlice ty x y)
    (p v u : Value) (hx : a.eval x = p) (hy : a.eval y = v) (hr : (Instr.makeSlice ty p v).run Tryd.prog w = .ok u w1)
    (h : wpListIn F n Tryd.prog ops Q rest (a.put op.dst u) w1) : wpListIn F n Tryd.prog ops Q (op :: rest) a w := by
  refine wpListIn_plain hgd fun K hK => ?_
  unfold Oper.wpIn
  refine ⟨?_, ?_⟩
  · simp [Oper.about, ho]
  · rw [Oper.semAt_plain F _ _ (by rw [ho]; intro c hc'; cases hc')]
    simp only [execOp, ho, hx, hy, Sem.run_bind, Sem.run_pure, Result.andThen_ok, hr]
    exact hK _ _ h
theorem run_makeB2 (n : Nat) (hn : n ≤ 50000000) (w : World) : ∃ W, (Instr.makeSlice 58 (.int .i64 (n : Int)) (.int .i64 (n : Int))).run Tryd.prog w = .ok (.slice (some ⟨w.heap.size, 0, none⟩) n n) W ∧ BQ W w.heap.size (List.replicate n 0) ∧ Below w.heap.size w W ∧ W.heap.size = w.heap.size + 1 := by
  obtain ⟨i0, hi, hz0, hz1, hz2⟩ := info_parts Tryd.infoU8
  have hr := run_make (P := Tryd.prog) w 58 5 i0 _ Tryd.underlying58 hi hz0 .i64 .i64 (n : Int) (n : Int) (by omega) (Int.le_refl _) (by rw [hz2]; omega) (by omega)
  rw [hz1] at hr
  simp only [Int.toNat_natCast] at hr
  refine ⟨_, hr, ?_, (Below.refl _ _).alloc (Nat.le_refl _) _, by simp⟩
  have e : madeCells (Value.int .u8 0).cells (n * 1) = ((List.replicate n (0 : UInt8)).map fun b => Value.int .u8 (b.toNat : Int)).toArray := by
    apply Array.ext'
    rw [Nat.mul_one, show (Value.int .u8 0).cells = #[.int .u8 0] from rfl, toList_madeCells_one]
    simp
  unfold BQ
  rw [← e]
  exact heap_alloc_new w _
theorem Tryd.infoInt : (Tryd.prog.info? 3).map (fun i => (i.zero, i.size, i.bytes)) = some (some (.int .i64 0), 1, 8) := by kernel_rfl
theorem sto_one {w : World} {b : Nat} {v0 : Value} (h : w.cell? ⟨b, 0, none⟩ = some v0) (hf : w.frozen? ⟨b, 0, none⟩ = false) (x : Int) : (Instr.storeAt 3 (.pointer (some ⟨b, 0, none⟩)) (.int .i64 x)).run Tryd.prog w = .ok () (w.setCell ⟨b, 0, none⟩ (.int .i64 x)) := by
  obtain ⟨i0, hi, hz0, hz1, hz2⟩ := info_parts Tryd.infoInt
  simp [go_sem, sizeOf, typeInfo, hi, hz1, h, hf, storeCells]
set_option maxRecDepth 100000 in
theorem repeat_none {w : World} {g at_ n d c : Nat} (h1 : at_ = n) (h2 : d ≤ at_) (h3 : n ≤ 50000000) :
    Calls Tryd.prog 95 #[.slice (some ⟨g, 0, none⟩) n c, .int .i64 (at_ : Int), .int .i64 (d : Int)] w fun e w' => e = .returned (.int .i64 0) ∧ w' = w := by
  obtain ⟨f, hf⟩ : ∃ f, f = at_ - d := ⟨_, rfl⟩
  have e1 : (at_ : Int) - (d : Int) = (f : Int) := by omega
  have e2 : IntKind.i64.wrap (f : Int) = (f : Int) := by rw [IntKind.wrap_i64]; omega
  clear hf
  subst h1
  have d1 : ¬ (at_ : Int) < (at_ : Int) := by omega
  go_enter Tryd.func95, Tryd.ntmps95
  go_wp2
  go_loopw [1] (fun v wr => v = .int .i64 (at_ : Int) ∧ wr = w) (fun _ _ => 0)
  case atStart => exact ⟨rfl, rfl⟩
  case round =>
    obtain ⟨rfl, rfl⟩ := hrel
    go_wp2
    go_ret
    exact ⟨by first | rfl | simp, rfl⟩
theorem opn_snoc (l : List SQ) (q : SQ) (out : List UInt8) : opn (l ++ [q]) out = rp q.dist q.long (opn l out ++ q.lit.data.toList) := by
  induction l generalizing out with
  | nil => rfl
  | cons x r ih => rw [List.cons_append, opn, opn, ih]
theorem opn_take {l : List SQ} {t : Nat} {q : SQ} (h : l[t]? = some q) (out : List UInt8) : opn (l.take (t + 1)) out = rp q.dist q.long (opn (l.take t) out ++ q.lit.data.toList) := by
  rw [List.take_add_one, h]
  exact opn_snoc _ _ _
theorem opn_sqn : ∀ (l : List SQ) (out : List UInt8), (opn l out).length = out.length + sqn l
  | [], out => by simp [opn, sqn]
  | q :: r, out => by
    rw [opn, opn_sqn r, rp_len, List.length_append, sqn_cons]
    have e : q.lit.data.toList.length = q.lit.size := by simp
    rw [e]
    omega
/-- What the sequences are like. -/
theorem wk_each {s : ByteArray} : ∀ (f i n : Nat), s.size - i ≤ f → ∀ (t : Nat) (q : SQ), (wk s i n).1[t]? = some q → (q.long = 0 ∧ q.dist = 0) ∨ (1 ≤ q.dist ∧ q.dist ≤ n + sqn ((wk s i n).1.take t) + q.lit.size)
  | f, i, n, hf, t, q, h => by
    cases hm : stp s i n with
    | none => rw [wk_no hm] at h; simp at h
    | some r =>
      obtain ⟨q0, k⟩ := r
      have hsp := stp_spec hm
      by_cases h0 : q0.long = 0
      · rw [wk_last hm h0] at h
        cases t with
        | zero =>
          simp at h
          subst h
          exact .inl ⟨h0, (hsp.2.2.2.2.2.1 h0).1⟩
        | succ t => simp at h
      · rw [wk_go hm h0] at h ⊢
        cases t with
        | zero =>
          simp at h
          subst h
          have := hsp.2.2.2.2.2.2 h0
          exact .inr ⟨this.2.1, by simp [sqn]; omega⟩
        | succ t =>
          simp only [List.getElem?_cons_succ] at h
          match f, hf with
          | 0, hf => omega
          | f + 1, hf =>
            rcases wk_each (s := s) f k (n + q0.lit.size + q0.long) (by omega) t q h with h2 | h2
            · exact .inl h2
            · refine .inr ⟨h2.1, ?_⟩
              rw [List.take_succ_cons, sqn_cons]
              omega
section
variable {w : World} {s : ByteArray} {n : Int}
set_option maxRecDepth 100000 in
set_option maxHeartbeats 1600000 in
theorem unp_range (h : ¬ (0 ≤ n ∧ n ≤ 1048576)) : Calls Tryd.prog 76 #[.string s, .int .i64 n] w fun e w' => e = .returned (.tuple #[.string (upS s n), .int .i64 (upC s n)]) ∧ Below w.heap.size w w' := by
  rw [(up_bad h).1, (up_bad h).2]
  have HI := hide (islen_any w n)
  rw [decide_eq_false h] at HI
  clear h
  go_enter Tryd.func76, Tryd.ntmps76
  go_wp2_with fail
  refine HI.out.mono ?_
  rintro _ w2 ⟨rfl, rfl⟩
  go_wp2
  exact bodyPost_ret (v := .tuple #[.string ⟨#[]⟩, .int .i64 1]) (by simp [results, Tryd.results76, go_sem]) rfl ⟨rfl, Below.refl _ _⟩
set_option maxRecDepth 100000 in
set_option maxHeartbeats 1600000 in
theorem unp_none (hs : s.size ≤ 140000) (h : 0 ≤ n ∧ n ≤ 1048576) (hp : ps s = none) : Calls Tryd.prog 76 #[.string s, .int .i64 n] w fun e w' => e = .returned (.tuple #[.string (upS s n), .int .i64 (upC s n)]) ∧ Below w.heap.size w w' := by
  rw [(up_none h hp).1, (up_none h hp).2]
  have HI := hide (islen_any w n)
  rw [decide_eq_true h] at HI
  have HL := hide (length_any (w := w) hs)
  rw [lnV_no hp] at HL
  clear h hp
  go_enter Tryd.func76, Tryd.ntmps76
  go_wp2_with fail
  refine HI.out.mono ?_
  rintro _ w2 ⟨rfl, rfl⟩
  go_wp2_with fail
  refine HL.out.mono ?_
  rintro _ w3 ⟨rfl, hb⟩
  have HB := hide hb
  clear hb
  go_wp2
  exact bodyPost_ret (v := .tuple #[.string ⟨#[]⟩, .int .i64 120]) (by simp [results, Tryd.results76, go_sem]) rfl ⟨rfl, HB.out⟩
set_option maxRecDepth 100000 in
set_option maxHeartbeats 1600000 in
theorem unp_other (hs : s.size ≤ 140000) (h : 0 ≤ n ∧ n ≤ 1048576) {l : List SQ} {t : Nat} (hp : ps s = some (l, t)) (ht : ¬ (t : Int) = n) : Calls Tryd.prog 76 #[.string s, .int .i64 n] w fun e w' => e = .returned (.tuple #[.string (upS s n), .int .i64 (upC s n)]) ∧ Below w.heap.size w w' := by
  rw [(up_other h hp ht).1, (up_other h hp ht).2]
  have HI := hide (islen_any w n)
  rw [decide_eq_true h] at HI
  have HL := hide (length_any (w := w) hs)
  rw [(lnV_some hp).1] at HL
  have hne : ((t : Int) != n) = true := by simpa using ht
  have hne2 : ((t : Int) == n) = false := by simpa using ht
  clear h hp
  go_enter Tryd.func76, Tryd.ntmps76
  go_wp2_with fail
  refine HI.out.mono ?_
  rintro _ w2 ⟨rfl, rfl⟩
  go_wp2_with fail
  refine HL.out.mono ?_
  rintro _ w3 ⟨rfl, hb⟩
  have HB := hide hb
  clear hb
  go_wp2
  exact bodyPost_ret (v := .tuple #[.string ⟨#[]⟩, .int .i64 120]) (by simp [results, Tryd.results76, go_sem]) rfl ⟨rfl, HB.out⟩
set_option maxRecDepth 100000 in
set_option maxHeartbeats 3200000 in
theorem unp_ok (hs : s.size ≤ 140000) {l : List SQ} {t : Nat} (h : t ≤ 1048576) (hp : ps s = some (l, t)) : Calls Tryd.prog 76 #[.string s, .int .i64 (t : Int)] w fun e w' => e = .returned (.tuple #[.string (upS s t), .int .i64 (upC s t)]) ∧ Below w.heap.size w w' := by
  have hr : (0 : Int) ≤ (t : Int) ∧ (t : Int) ≤ 1048576 := ⟨by omega, by omega⟩
  rw [(up_ok hr hp rfl).1, (up_ok hr hp rfl).2]
  have HI := hide (islen_any w t)
  rw [decide_eq_true hr] at HI
  have HL := hide (length_any (w := w) hs)
  obtain ⟨el, ewk⟩ := lnV_some hp
  rw [el] at HL
  have hsq : sqn l = t := by
    have h2 := ps_wk s
    rw [hp, ewk, if_pos rfl] at h2
    simp only [Option.some.injEq, Prod.mk.injEq, true_and] at h2
    exact h2.symm
  have HK := hide ewk
  have heach : Hid (∀ (i : Nat) (q : SQ), l[i]? = some q → (q.long = 0 ∧ q.dist = 0) ∨ (1 ≤ q.dist ∧ q.dist ≤ sqn (l.take i) + q.lit.size)) := fun i q hq => by
    have h2 := wk_each (s := s) s.size 0 0 (by omega) i q (by rw [ewk]; exact hq)
    rw [ewk] at h2
    simpa using h2
  clear hp el ewk hr
  refine (callsIn_wide (n := 0)).1 ?_
  refine callsIn_of_wp_marks Tryd.func76 rfl trivial ?_ rfl
  simp only [Tryd.ntmps76, List.size_toArray, List.length_cons, List.length_nil, Nat.reduceAdd, Nat.reduceSub, Array.replicate_succ, Array.replicate_zero, List.push_toArray, List.append_toArray, List.nil_append, List.cons_append]
  gi_wp2
  refine ⟨trivial, rfl, (callsIn_wide.2 HI.out).mono ?_⟩
  rintro e w0 ⟨rfl, hw0⟩
  replace hw0 := hw0.symm
  subst hw0
  gi_wp2
  refine ⟨trivial, rfl, (callsIn_wide.2 HL.out).mono ?_⟩
  rintro e w1 ⟨rfl, hb1⟩
  obtain ⟨w2, hmk, hB2, hbb2, hs2⟩ := run_makeB2 t (by omega) w1
  obtain ⟨g, hg⟩ : ∃ g, w1.heap.size = g := ⟨_, rfl⟩
  rw [hg] at hmk hB2 hs2
  obtain ⟨w3, hw3⟩ : ∃ w3, w2.alloc (.cells #[.slice (some ⟨g, 0, none⟩) t t] 58) = w3 := ⟨_, rfl⟩
  obtain ⟨w4, hw4⟩ : ∃ w4, w3.alloc (.cells #[.int .i64 0] 3) = w4 := ⟨_, rfl⟩
  have hb3 : Below w2.heap.size w2 w3 := by rw [← hw3]; exact (Below.refl _ _).alloc (Nat.le_refl _) _
  have hb4 : Below w3.heap.size w3 w4 := by rw [← hw4]; exact (Below.refl _ _).alloc (Nat.le_refl _) _
  have hs3 : w3.heap.size = g + 2 := by rw [← hw3]; simp; omega
  have hs4 : w4.heap.size = g + 3 := by rw [← hw4]; simp; omega
  have k3 : w3.heap[g + 1]? = some (.cells #[.slice (some ⟨g, 0, none⟩) t t] 58 (0, 0)) := by rw [← hs2, ← hw3]; exact heap_alloc_new w2 _
  have k4 : w4.heap[g + 2]? = some (.cells #[.int .i64 0] 3 (0, 0)) := by rw [← hs3, ← hw4]; exact heap_alloc_new w3 _
  have hB4 : BQ w4 g (List.replicate t 0) := ((hB2.bel hb3).bel hb4)
  have k34 := (hb4.block (g + 1) (by omega)).trans k3
  have hbw : Below w.heap.size w w4 := below_step (below_step (below_step hb1 hbb2) hb3) hb4
  have hwg : w.heap.size ≤ g := by have := hb1.size; omega
  have H4 := hide (And.intro hB4 (And.intro k34 (And.intro k4 (And.intro hbw (And.intro hs4 hwg)))))
  have HS := hide (And.intro hg (And.intro hs2 hs3))
  have HW := hide (And.intro hw3 hw4)
  have HSQ := hide hsq
  clear hb1 hbb2 hB2 hb3 hb4 hs3 hs4 k3 k4 hB4 k34 hbw hg hs2 HI HL hsq hw3 hw4
  gi_wp2_with (refine in_make_run rfl 58 _ _ rfl _ _ _ rfl rfl hmk ?_)
  rw [HW.out.1, HW.out.2, HS.out.2.1]
  refine ⟨trivial, rfl, (callsIn_wide.2 sequencesf_any).mono ?_⟩
  rintro e w5 ⟨rfl, hw5⟩
  obtain ⟨hB4, k34, k4, hbw, hs4, hwg⟩ := H4.out
  rw [hs4]
  have hB5 : Below w4.heap.size w4 w5 := by rw [hw5]; exact (Below.refl _ _).alloc (Nat.le_refl _) _
  have kx : w5.heap[g + 3]? = some (.cells #[.string s] 9 (0, 0)) := by rw [hw5, ← hs4]; exact heap_alloc_new w4 _
  have hs5 : w5.heap.size = g + 4 := by rw [hw5]; simp; omega
  have HQ := hide (seqs1 kx hs)
  have H5 := hide (And.intro (hB4.bel hB5) (And.intro ((hB5.block (g + 1) (by omega)).trans k34) (And.intro ((hB5.block (g + 2) (by omega)).trans k4) (below_step hbw hB5))))
  clear hw5 hB5 kx hB4 k34 k4 hbw hs4 H4
  gi_wp2
  refine range_n (gf := 102) (lb := #[.pointer (some ⟨g + 3, 0, none⟩)]) rfl (enters_of Tryd.func102 (by kernel_rfl) rfl) HQ.out (fun t vs h => h.size)
    (fun j N W => (∃ L, BQ W g L ∧ L.length = t ∧ L.take (sqn (l.take j)) = opn (l.take j) []) ∧ W.heap[g + 1]? = some (.cells #[.slice (some ⟨g, 0, none⟩) t t] 58 (0, 0)) ∧ W.heap[g + 2]? = some (.cells #[.int .i64 ((sqn (l.take j) : Nat) : Int)] 3 (0, 0)) ∧ j ≤ l.length ∧ (∀ i, N i → g + 4 ≤ i ∧ i < W.heap.size) ∧ g + 4 ≤ W.heap.size ∧ Below w.heap.size w W)
    (fun _ _ _ _ => False)
    ?stb ?stbx ?start
    (RA fun z x q => { tmps := #[.string s, .int .i64 (t : Int), undef, undef, .string ⟨#[]⟩, .int .i64 0, .int .i64 (t : Int), .bool true, .pointer (some ⟨g + 1, 0, none⟩), .pointer (some ⟨g + 1 + 1, 0, none⟩), .pointer (some ⟨z, 0, none⟩), .int .i64 (t : Int), .bool true, .bool false, .tuple #[.int .i64 (t : Int), .bool true], .string s, .tuple #[.int .i64 (t : Int), .bool true], .int .i64 (t : Int), .bool true, .bool true, .bool false, .bool false, .int .i64 (t : Int), .int .i64 (t : Int), .bool false, .bool false, .int .i64 (t : Int), .slice (some ⟨g, 0, none⟩) t t, .string s, .func (.func 102) #[] #[.pointer (some ⟨g + 3, 0, none⟩)], q, .bool x, undef, undef, undef, undef, undef, undef, undef, undef, undef, undef, undef, undef, undef, undef, undef, undef, undef, undef, undef, undef, undef, undef], defers := [] }) (fun g vs a2 W W' h hG => h.gs hG) ?assign ?body ?done ?stop
  case stb =>
    rintro j N N' A A' ⟨⟨L, hB, hl1, hl2⟩, k1, k2, h3, h4, h5, h6⟩ hG hN
    rw [hs5] at hG
    have hsz := hG.size
    have hx : ∀ i, i < g + 4 → ¬ (N i ∨ i = g + 4 ∨ i = g + 4 + 1) := fun i hi e => by
      rcases e with e | e | e
      · have := (h4 i e).1; omega
      · omega
      · omega
    refine ⟨⟨L, hB.gs hG (hx g (by omega)), hl1, hl2⟩, (hG.block _ (lt_of_block k1) (hx (g + 1) (by omega))).trans k1, (hG.block _ (lt_of_block k2) (hx (g + 2) (by omega))).trans k2, h3, fun i e => ?_, by omega, hG.below h6 h6.size (fun i e => ?_)⟩
    · have := (hN i e).1
      rcases (hN i e).2 with h | h
      · exact ⟨(h4 i h).1, this⟩
      · exact ⟨by omega, this⟩
    · rcases e with e | e | e
      · have := (h4 i e).1; omega
      · omega
      · omega
  case stbx => exact fun c t N N' A A' h => h.elim
  case start => exact ⟨⟨_, H5.out.1, by simp, by simp [sqn, opn]⟩, H5.out.2.1, H5.out.2.2.1, Nat.zero_le _, fun i e => e.elim, by omega, H5.out.2.2.2⟩
  case assign =>
    intro l2 j vs W K hc hK
    obtain ⟨L, dd, ll, x, rfl, _⟩ := hc.shape
    obtain ⟨W2, hW2⟩ : ∃ W2, W.alloc (.cells #[.string L, .int .i64 (dd : Int), .int .i64 (ll : Int)] 124) = W2 := ⟨_, rfl⟩
    have hB : Below W.heap.size W W2 := by rw [← hW2]; exact (Below.refl _ _).alloc (Nat.le_refl _) _
    have hq : QB W2 W.heap.size L dd ll := by rw [← hW2]; exact heap_alloc_new W _
    gi_wp2
    refine hK _ _ hB fun L' dd' ll' x' e => ?_
    simp only [Array.mk.injEq, List.cons.injEq, Value.agg.injEq, Value.string.injEq, Value.int.injEq, Value.bool.injEq, and_true, true_and, Int.natCast_inj] at e
    obtain ⟨⟨rfl, rfl, rfl⟩, rfl⟩ := e
    exact ⟨rfl, hq⟩
  case body =>
    rintro l2 j N vs V z a2 ⟨⟨L, hB, hl1, hl2⟩, k1, k2, h3, h4, h5, h6⟩ hc hA hg1 hg2 hN
    obtain ⟨L0, dd, ll, x, rfl, hx⟩ := hc.shape
    obtain ⟨rfl, hq⟩ := hA _ _ _ _ rfl
    rw [hs5] at hN hg1 ⊢
    rw [HK.out] at hx
    rcases hx with ⟨rfl, hx⟩ | ⟨_, hx⟩
    · have hst := sqn_take hx
      simp only at hst
      have hle := sqn_le l (j + 1)
      have hjl : j + 1 ≤ l.length := (List.getElem?_eq_some_iff.1 hx).1
      obtain ⟨a, ha⟩ : ∃ a, sqn (l.take j) = a := ⟨_, rfl⟩
      obtain ⟨a2, ha2⟩ : ∃ a2, sqn (l.take (j + 1)) = a2 := ⟨_, rfl⟩
      obtain ⟨a1, ha1⟩ : ∃ a1, a1 = a + L0.size := ⟨_, rfl⟩
      have hot := opn_take hx []
      simp only at hot
      have hea := heach.out j ⟨L0, dd, ll⟩ hx
      simp only at hea
      rw [ha] at hl2 k2 hst hea
      rw [ha2] at hst hle
      rw [HSQ.out] at hle
      obtain ⟨y, hy⟩ : ∃ y, y = if a = t then 0 else a := ⟨_, rfl⟩
      have hsl : ∀ w : World, (Instr.slice 58 (.slice (some ⟨g, 0, none⟩) t t) (some (.int .i64 (a : Int))) none none).run Tryd.prog w = .ok (.slice (some ⟨g, y, none⟩) (t - a) (t - a)) w := fun w => by
        rw [run_slice_l (P := Tryd.prog) (w := w) 58 _ _ _ Tryd.underlying58 .i64 (a : Int) (by omega) (by omega)]
        by_cases e : a = t
        · rw [if_pos e] at hy
          subst e; subst hy
          simp [go_sem, sliced]
        · rw [if_neg e] at hy
          have e2 : ¬ t = a := fun h => e h.symm
          rw [hy]
          simp [go_sem, sliced, e2]
      have hyL : y + L0.size ≤ L.length := by rw [hy]; split <;> omega
      have hBd : BQ V.drew g L := hB
      obtain ⟨V2, hcp, hB2, hG2⟩ := cpy_str hBd (y := y) (dl := t - a) (dc := t - a) L0 (by omega) hyL
      have hLz : L0.data.toList.length = L0.size := by simp
      have hcpL : cpL L y L0.data.toList = cpL L a L0.data.toList := by
        rw [hy]
        split
        · rename_i e
          have h0 : L0.data.toList = [] := List.length_eq_zero_iff.1 (by omega)
          rw [h0, cpL, cpL]
          simp
        · rfl
      rw [hcpL] at hB2
      have hG2' : Gs (fun i => i = g) V V2 := ⟨hG2.os, hG2.tape, hG2.output, hG2.size, hG2.block⟩
      obtain ⟨L1, hL1⟩ : ∃ L1, L1 = cpL L a L0.data.toList := ⟨_, rfl⟩
      rw [← hL1] at hB2
      have hL1l : L1.length = t := by rw [hL1, cpL_len (by omega), hl1]
      have hL1t : L1.take a1 = opn (l.take j) [] ++ L0.data.toList := by
        rw [hL1, cpL, ← hl2, ha1, ← hLz]
        exact List.take_left' (by rw [List.length_append, List.length_take]; omega)
      have m1 := (hG2'.block (g + 1) (lt_of_block k1) (by omega)).trans k1
      have m2 := (hG2'.block (g + 2) (lt_of_block k2) (by omega)).trans k2
      have mq := (hG2'.block z (lt_of_block hq) (by omega)).trans hq
      have HS1 : Hid (V.drew.cell? ⟨g + 1 + 1, 0, none⟩ = some (.int .i64 (a : Int)) ∧ V.drew.cell? ⟨g + 1, 0, none⟩ = some (.slice (some ⟨g, 0, none⟩) t t) ∧ V.drew.cell? ⟨z, 0, none⟩ = some (.string L0) ∧ True) := ⟨(cell1 k2).1, (cell1 k1).1, (cell3 hq).1, trivial⟩
      have HS2 : Hid (V2.cell? ⟨g + 1 + 1, 0, none⟩ = some (.int .i64 (a : Int)) ∧ V2.cell? ⟨g + 1, 0, none⟩ = some (.slice (some ⟨g, 0, none⟩) t t) ∧ V2.cell? ⟨z, 0, none⟩ = some (.string L0) ∧ True) := ⟨(cell1 m2).1, (cell1 m1).1, (cell3 mq).1, trivial⟩
      have hst3 := sto_one (cell1 m2).1 (cell1 m2).2 (a1 : Int)
      obtain ⟨V3, hV3⟩ : ∃ V3, V2.setCell ⟨g + 1 + 1, 0, none⟩ (.int .i64 (a1 : Int)) = V3 := ⟨_, rfl⟩
      rw [hV3] at hst3
      have hG3 : Gs (fun i => i = g + 2) V2 V3 := by rw [← hV3]; exact (Gs.refl (fun i => i = g + 2) _).set (a := ⟨g + 1 + 1, 0, none⟩) (.inl rfl) _
      have n1 := (hG3.block (g + 1) (lt_of_block m1) (by omega)).trans m1
      have n2 : V3.heap[g + 2]? = some (.cells #[.int .i64 (a1 : Int)] 3 (0, 0)) := by rw [← hV3]; exact heap_set_self m2
      have nq := (hG3.block z (lt_of_block mq) (by omega)).trans mq
      have hB3 : BQ V3 g L1 := hB2.gs hG3 (by omega)
      have hGV3 : Gs (fun i => i = g ∨ i = g + 2) V V3 := (hG2'.mono fun i _ e => .inl e).trans (hG3.mono fun i _ e => .inr e)
      have e1 : (a : Int) + (L0.size : Int) = (a1 : Int) := by omega
      have e2 : IntKind.i64.wrap (a1 : Int) = (a1 : Int) := by rw [IntKind.wrap_i64]; omega
      have e3 : (a1 : Int) + (ll : Int) = (a2 : Int) := by omega
      have e4 : IntKind.i64.wrap (a2 : Int) = (a2 : Int) := by rw [IntKind.wrap_i64]; omega
      have e5 : (a2 : Int) ≤ (t : Int) := by omega
      have HR : Hid (Calls Tryd.prog 95 #[.slice (some ⟨g, 0, none⟩) a2 t, .int .i64 (a1 : Int), .int .i64 (dd : Int)] V3.drew fun e w' => e = .returned (.int .i64 (ll : Int)) ∧ ∃ L2, BQ w' g L2 ∧ L2.length = t ∧ L2.take a2 = opn (l.take (j + 1)) [] ∧ Gs (fun i => i = g) V3 w') := by
        have hB3d : BQ V3.drew g L1 := hB3
        rcases hea with ⟨z1, z2⟩ | ⟨z1, z2⟩
        · subst z1; subst z2
          refine (repeat_none (w := V3.drew) (g := g) (at_ := a1) (n := a2) (d := 0) (c := t) (by omega) (Nat.zero_le _) (by omega)).mono ?_
          rintro e w' ⟨rfl, rfl⟩
          refine ⟨rfl, L1, hB3d, hL1l, ?_, ⟨rfl, rfl, rfl, Nat.le_refl _, fun _ _ _ => rfl⟩⟩
          rw [hot, ← hL1t]
          rw [show a2 = a1 by omega]
          rfl
        · refine (repeat_any hB3d (at_ := a1) (n := a2) (d := dd) (c := t) (by omega) (by omega) z1 (by omega) (by omega) (by omega)).mono ?_
          rintro e w' ⟨rfl, L2, b1, b2, b3, b4⟩
          have hll : a2 - a1 = ll := by omega
          rw [hll] at b3
          refine ⟨by rw [hll], L2, b1, by rw [b2, hL1l], ?_, ⟨b4.os, b4.tape, b4.output, b4.size, b4.block⟩⟩
          rw [b3, hL1t, hot]
      have H3 := hide (And.intro hB3 (And.intro n1 (And.intro n2 (And.intro nq hGV3))))
      have hnp : ¬ N g ∧ ¬ N (g + 1) ∧ ¬ N (g + 2) := ⟨fun e => by have := (h4 _ e).1; omega, fun e => by have := (h4 _ e).1; omega, fun e => by have := (h4 _ e).1; omega⟩
      have HI := hide (And.intro hnp (And.intro h4 (And.intro h5 (And.intro h6 (And.intro ha2 (And.intro hjl hg1))))))
      have hzg : z ≠ g ∧ z ≠ g + 1 ∧ z ≠ g + 2 := by omega
      clear hB hl1 hl2 k1 k2 h3 h4 h5 h6 hc hA hq hx hst hle ha ha2 ha1 hot hea hy hyL hBd hB2 hG2 hcpL hG2' hL1 hL1l hL1t m1 m2 mq hV3 hG3 n1 n2 nq hB3 hGV3 hjl hnp hN hg1 hg2 hLz
      gi_wp2
      refine AnyZ.round (z := 8) (S := fun w' => w'.cell? ⟨g + 1 + 1, 0, none⟩ = some (.int .i64 (a : Int)) ∧ w'.cell? ⟨g + 1, 0, none⟩ = some (.slice (some ⟨g, 0, none⟩) t t) ∧ w'.cell? ⟨z, 0, none⟩ = some (.string L0) ∧ True) (by rintro ⟨_, _, h⟩; exact h) (by kernel_rfl) (by kernel_rfl) ?_
      have hHeld := HS1.out
      refine AnyZ.take (i := 0) (d := 32) (v := .int .i64 (a : Int)) rfl rfl (by kernel_rfl) (by kernel_rfl) (by kernel_rfl) (by kernel_rfl) (fun _ _ _ h => h) (Or.inl ⟨by rfl, fun w' hSw => ?_⟩) hHeld ?_
      · obtain ⟨_, _, _, _⟩ := hSw
        go_simp
      try simp only [List.setIfInBounds_toArray, List.set_cons_zero, List.set_cons_succ]
      refine AnyZ.take (i := 1) (d := 33) (v := .slice (some ⟨g, 0, none⟩) t t) rfl rfl (by kernel_rfl) (by kernel_rfl) (by kernel_rfl) (by kernel_rfl) (fun _ _ _ h => h) (Or.inl ⟨by rfl, fun w' hSw => ?_⟩) hHeld ?_
      · obtain ⟨_, _, _, _⟩ := hSw
        go_simp
      try simp only [List.setIfInBounds_toArray, List.set_cons_zero, List.set_cons_succ]
      refine AnyZ.take (i := 2) (d := 34) (v := .int .i64 (a : Int)) rfl rfl (by kernel_rfl) (by kernel_rfl) (by kernel_rfl) (by kernel_rfl) (fun _ _ _ h => h) (Or.inl ⟨by rfl, fun w' hSw => ?_⟩) hHeld ?_
      · obtain ⟨_, _, _, _⟩ := hSw
        go_simp
      try simp only [List.setIfInBounds_toArray, List.set_cons_zero, List.set_cons_succ]
      refine AnyZ.take (i := 3) (d := 35) (v := .slice (some ⟨g, y, none⟩) (t - a) (t - a)) rfl rfl (by kernel_rfl) (by kernel_rfl) (by kernel_rfl) (by kernel_rfl) (fun _ _ _ h => h) (Or.inl ⟨by rfl, fun w' hSw => ?_⟩) hHeld ?_
      · obtain ⟨_, _, _, _⟩ := hSw
        go_simp
      try simp only [List.setIfInBounds_toArray, List.set_cons_zero, List.set_cons_succ]
      refine AnyZ.take (i := 4) (d := 36) (v := .pointer (some ⟨z, 0, none⟩)) rfl rfl (by kernel_rfl) (by kernel_rfl) (by kernel_rfl) (by kernel_rfl) (fun _ _ _ h => h) (Or.inl ⟨by rfl, fun w' hSw => ?_⟩) hHeld ?_
      · obtain ⟨_, _, _, _⟩ := hSw
        go_simp
      try simp only [List.setIfInBounds_toArray, List.set_cons_zero, List.set_cons_succ]
      refine AnyZ.take (i := 5) (d := 37) (v := .string L0) rfl rfl (by kernel_rfl) (by kernel_rfl) (by kernel_rfl) (by kernel_rfl) (fun _ _ _ h => h) (Or.inl ⟨by rfl, fun w' hSw => ?_⟩) hHeld ?_
      · obtain ⟨_, _, _, _⟩ := hSw
        go_simp
      try simp only [List.setIfInBounds_toArray, List.set_cons_zero, List.set_cons_succ]
      refine AnyZ.one (i := 6) (by kernel_rfl) rfl fun K hK => ?_
      refine step_copy_run rfl (some 38) rfl _ _ 58 9 rfl _ _ rfl rfl _ _ hcp ?_
      refine hK.out _ _ (fun _ => HS2.out) (fun hHeld2 => ?_)
      clear hK K
      have hHeld := HS2.out
      try simp only [Act.put, List.setIfInBounds_toArray, List.set_cons_zero, List.set_cons_succ]
      refine AnyZ.take (i := 7) (d := 39) (v := .int .i64 (a1 : Int)) rfl rfl (by kernel_rfl) (by kernel_rfl) (by kernel_rfl) (by kernel_rfl) (fun _ _ _ h => h) (Or.inl ⟨by rfl, fun w' hSw => ?_⟩) hHeld ?_
      · obtain ⟨_, _, _, _⟩ := hSw
        go_simp
      try simp only [List.setIfInBounds_toArray, List.set_cons_zero, List.set_cons_succ]
      refine AnyZ.one (i := 8) (by kernel_rfl) rfl fun K hK => ?_
      refine step_store_run rfl 3 _ _ rfl _ _ rfl rfl V3 hst3 ?_
      refine hK.out _ _ (fun h => absurd rfl h) (fun _ => ?_)
      clear hK K
      try simp only [Act.put]
      refine AnyZ.done (by kernel_rfl) ?_ _
      clear hsl hcp hHeld hst3
      gi_wp2
      have hsl : ∀ w : World, (Instr.slice 58 (.slice (some ⟨g, 0, none⟩) t t) none (some (.int .i64 (a2 : Int))) none).run Tryd.prog w = .ok (.slice (some ⟨g, 0, none⟩) a2 t) w := fun w => by
        simp [go_sem, Tryd.underlying58, e5]
      have HS3 : Hid (V3.drew.cell? ⟨g + 1 + 1, 0, none⟩ = some (.int .i64 (a1 : Int)) ∧ V3.drew.cell? ⟨g + 1, 0, none⟩ = some (.slice (some ⟨g, 0, none⟩) t t) ∧ V3.drew.cell? ⟨z, 1, none⟩ = some (.int .i64 (dd : Int)) ∧ V3.drew.cell? ⟨z, 2, none⟩ = some (.int .i64 (ll : Int))) := ⟨(cell1 H3.out.2.2.1).1, (cell1 H3.out.2.1).1, (cell3 H3.out.2.2.2.1).2.1, (cell3 H3.out.2.2.2.1).2.2⟩
      refine AnyZ.round (z := 12) (S := fun w' => w'.cell? ⟨g + 1 + 1, 0, none⟩ = some (.int .i64 (a1 : Int)) ∧ w'.cell? ⟨g + 1, 0, none⟩ = some (.slice (some ⟨g, 0, none⟩) t t) ∧ w'.cell? ⟨z, 1, none⟩ = some (.int .i64 (dd : Int)) ∧ w'.cell? ⟨z, 2, none⟩ = some (.int .i64 (ll : Int))) (by rintro ⟨_, _, h⟩; exact h) (by kernel_rfl) (by kernel_rfl) ?_
      have hHeld := HS3.out
      refine AnyZ.take (i := 0) (d := 40) (v := .int .i64 (a1 : Int)) rfl rfl (by kernel_rfl) (by kernel_rfl) (by kernel_rfl) (by kernel_rfl) (fun _ _ _ h => h) (Or.inl ⟨by rfl, fun w' hSw => ?_⟩) hHeld ?_
      · obtain ⟨_, _, _, _⟩ := hSw
        go_simp
      try simp only [List.setIfInBounds_toArray, List.set_cons_zero, List.set_cons_succ]
      refine AnyZ.take (i := 1) (d := 41) (v := .slice (some ⟨g, 0, none⟩) t t) rfl rfl (by kernel_rfl) (by kernel_rfl) (by kernel_rfl) (by kernel_rfl) (fun _ _ _ h => h) (Or.inl ⟨by rfl, fun w' hSw => ?_⟩) hHeld ?_
      · obtain ⟨_, _, _, _⟩ := hSw
        go_simp
      try simp only [List.setIfInBounds_toArray, List.set_cons_zero, List.set_cons_succ]
      refine AnyZ.take (i := 2) (d := 42) (v := .int .i64 (a1 : Int)) rfl rfl (by kernel_rfl) (by kernel_rfl) (by kernel_rfl) (by kernel_rfl) (fun _ _ _ h => h) (Or.inl ⟨by rfl, fun w' hSw => ?_⟩) hHeld ?_
      · obtain ⟨_, _, _, _⟩ := hSw
        go_simp
      try simp only [List.setIfInBounds_toArray, List.set_cons_zero, List.set_cons_succ]
      refine AnyZ.take (i := 3) (d := 43) (v := .pointer (some ⟨z, 2, none⟩)) rfl rfl (by kernel_rfl) (by kernel_rfl) (by kernel_rfl) (by kernel_rfl) (fun _ _ _ h => h) (Or.inl ⟨by rfl, fun w' hSw => ?_⟩) hHeld ?_
      · obtain ⟨_, _, _, _⟩ := hSw
        go_simp
      try simp only [List.setIfInBounds_toArray, List.set_cons_zero, List.set_cons_succ]
      refine AnyZ.take (i := 4) (d := 44) (v := .int .i64 (ll : Int)) rfl rfl (by kernel_rfl) (by kernel_rfl) (by kernel_rfl) (by kernel_rfl) (fun _ _ _ h => h) (Or.inl ⟨by rfl, fun w' hSw => ?_⟩) hHeld ?_
      · obtain ⟨_, _, _, _⟩ := hSw
        go_simp
      try simp only [List.setIfInBounds_toArray, List.set_cons_zero, List.set_cons_succ]
      refine AnyZ.take (i := 5) (d := 45) (v := .int .i64 (a2 : Int)) rfl rfl (by kernel_rfl) (by kernel_rfl) (by kernel_rfl) (by kernel_rfl) (fun _ _ _ h => h) (Or.inl ⟨by rfl, fun w' hSw => ?_⟩) hHeld ?_
      · obtain ⟨_, _, _, _⟩ := hSw
        go_simp
      try simp only [List.setIfInBounds_toArray, List.set_cons_zero, List.set_cons_succ]
      refine AnyZ.take (i := 6) (d := 46) (v := .slice (some ⟨g, 0, none⟩) a2 t) rfl rfl (by kernel_rfl) (by kernel_rfl) (by kernel_rfl) (by kernel_rfl) (fun _ _ _ h => h) (Or.inl ⟨by rfl, fun w' hSw => ?_⟩) hHeld ?_
      · obtain ⟨_, _, _, _⟩ := hSw
        go_simp
      try simp only [List.setIfInBounds_toArray, List.set_cons_zero, List.set_cons_succ]
      refine AnyZ.take (i := 7) (d := 47) (v := .int .i64 (a1 : Int)) rfl rfl (by kernel_rfl) (by kernel_rfl) (by kernel_rfl) (by kernel_rfl) (fun _ _ _ h => h) (Or.inl ⟨by rfl, fun w' hSw => ?_⟩) hHeld ?_
      · obtain ⟨_, _, _, _⟩ := hSw
        go_simp
      try simp only [List.setIfInBounds_toArray, List.set_cons_zero, List.set_cons_succ]
      refine AnyZ.take (i := 8) (d := 48) (v := .pointer (some ⟨z, 1, none⟩)) rfl rfl (by kernel_rfl) (by kernel_rfl) (by kernel_rfl) (by kernel_rfl) (fun _ _ _ h => h) (Or.inl ⟨by rfl, fun w' hSw => ?_⟩) hHeld ?_
      · obtain ⟨_, _, _, _⟩ := hSw
        go_simp
      try simp only [List.setIfInBounds_toArray, List.set_cons_zero, List.set_cons_succ]
      refine AnyZ.take (i := 9) (d := 49) (v := .int .i64 (dd : Int)) rfl rfl (by kernel_rfl) (by kernel_rfl) (by kernel_rfl) (by kernel_rfl) (fun _ _ _ h => h) (Or.inl ⟨by rfl, fun w' hSw => ?_⟩) hHeld ?_
      · obtain ⟨_, _, _, _⟩ := hSw
        go_simp
      try simp only [List.setIfInBounds_toArray, List.set_cons_zero, List.set_cons_succ]
      refine AnyZ.one (i := 10) (by kernel_rfl) rfl fun K hK => ?_
      go_simp
      refine HR.out.mono ?_
      rintro e V4 ⟨rfl, L2, hB4, hl4, hp4, hG4⟩
      have HS4 : Hid (V4.cell? ⟨g + 1 + 1, 0, none⟩ = some (.int .i64 (a1 : Int)) ∧ V4.cell? ⟨g + 1, 0, none⟩ = some (.slice (some ⟨g, 0, none⟩) t t) ∧ V4.cell? ⟨z, 1, none⟩ = some (.int .i64 (dd : Int)) ∧ V4.cell? ⟨z, 2, none⟩ = some (.int .i64 (ll : Int))) := ⟨(cell1 ((hG4.block (g + 2) (lt_of_block H3.out.2.2.1) (by omega)).trans H3.out.2.2.1)).1, (cell1 ((hG4.block (g + 1) (lt_of_block H3.out.2.1) (by omega)).trans H3.out.2.1)).1, (cell3 ((hG4.block z (lt_of_block H3.out.2.2.2.1) (by omega)).trans H3.out.2.2.2.1)).2.1, (cell3 ((hG4.block z (lt_of_block H3.out.2.2.2.1) (by omega)).trans H3.out.2.2.2.1)).2.2⟩
      refine hK.out _ _ (fun _ => HS4.out) (fun hHeld2 => ?_)
      clear hK K
      have hHeld := HS4.out
      have f4 := (cell1 ((hG4.block (g + 2) (lt_of_block H3.out.2.2.1) (by omega)).trans H3.out.2.2.1)).2
      have H4 := hide (And.intro hB4 (And.intro hl4 (And.intro hp4 hG4)))
      clear hB4 hl4 hp4 hG4
      try simp only [Act.put, List.setIfInBounds_toArray, List.set_cons_zero, List.set_cons_succ]
      refine AnyZ.take (i := 11) (d := 51) (v := .int .i64 (a2 : Int)) rfl rfl (by kernel_rfl) (by kernel_rfl) (by kernel_rfl) (by kernel_rfl) (fun _ _ _ h => h) (Or.inl ⟨by rfl, fun w' hSw => ?_⟩) hHeld ?_
      · obtain ⟨_, _, _, _⟩ := hSw
        go_simp
      try simp only [List.setIfInBounds_toArray, List.set_cons_zero, List.set_cons_succ]
      refine AnyZ.one (i := 12) (by kernel_rfl) rfl fun K hK => ?_
      have hst5 := sto_one (hHeld.1) f4 (a2 : Int)
      refine step_store_run rfl 3 _ _ rfl _ _ rfl rfl _ hst5 ?_
      refine hK.out _ _ (fun h => absurd rfl h) (fun _ => ?_)
      clear hK K
      try simp only [Act.put]
      refine AnyZ.done (by kernel_rfl) ?_ _
      clear hsl hHeld
      obtain ⟨hB4, hl4, hp4, hG4⟩ := H4.out
      obtain ⟨hB3, n1, n2, nq, hGV3⟩ := H3.out
      obtain ⟨⟨p1, p2, p3⟩, q4, q5, q6, qa2, qjl, _⟩ := HI.out
      obtain ⟨V5, hV5⟩ : ∃ V5, V4.setCell ⟨g + 1 + 1, 0, none⟩ (.int .i64 (a2 : Int)) = V5 := ⟨_, rfl⟩
      have o1 := (hG4.block (g + 1) (lt_of_block n1) (by omega)).trans n1
      have o2 := (hG4.block (g + 2) (lt_of_block n2) (by omega)).trans n2
      have hG5 : Gs (fun i => i = g + 2) V4 V5 := by rw [← hV5]; exact (Gs.refl (fun i => i = g + 2) _).set (a := ⟨g + 1 + 1, 0, none⟩) (.inl rfl) _
      have k5 : V5.heap[g + 2]? = some (.cells #[.int .i64 (a2 : Int)] 3 (0, 0)) := by rw [← hV5]; exact heap_set_self o2
      have hGz : Gs (fun i => i = g ∨ i = g + 2) V V5 := (hGV3.trans (hG4.mono fun i _ e => .inl e)).trans (hG5.mono fun i _ e => .inr e)
      have HE : Hid (Gs (fun i => ¬ N i ∧ i ≠ g + 4 ∧ i ≠ g + 4 + 1) V V5 ∧ (∃ L, BQ V5 g L ∧ L.length = t ∧ L.take (sqn (l.take (j + 1))) = opn (l.take (j + 1)) []) ∧ V5.heap[g + 1]? = some (.cells #[.slice (some ⟨g, 0, none⟩) t t] 58 (0, 0)) ∧ V5.heap[g + 2]? = some (.cells #[.int .i64 ((sqn (l.take (j + 1)) : Nat) : Int)] 3 (0, 0)) ∧ j + 1 ≤ l.length ∧ (∀ i, N i → g + 4 ≤ i ∧ i < V5.heap.size) ∧ g + 4 ≤ V5.heap.size ∧ Below w.heap.size w V5) :=
        ⟨hGz.mono fun i _ e => by rcases e with rfl | rfl; exact ⟨p1, by omega, by omega⟩; exact ⟨p3, by omega, by omega⟩, ⟨L2, hB4.gs hG5 (by omega), hl4, by rw [qa2]; exact hp4⟩, (hG5.block _ (lt_of_block o1) (by omega)).trans o1, by rw [qa2]; exact k5, qjl, fun i e => ⟨(q4 i e).1, by have := (q4 i e).2; have := hGz.size; omega⟩, by have := hGz.size; omega, hGz.below q6 q6.size (fun i e => by omega)⟩
      rw [hV5]
      clear hB4 hl4 hp4 hG4 hB3 n1 n2 nq hGV3 p1 p2 p3 q4 q5 q6 qa2 qjl o1 o2 hG5 k5 hGz hV5
      gi_wp2
      exact HE.out
    · cases hx
  case done =>
    rintro E j N W hE hS ⟨⟨L, hB, hl1, hl2⟩, k1, k2, h3, h4, h5, h6⟩ hd
    have hS' : j = _ := hS
    rw [HK.out] at hS'
    have hED : E = g + 4 := hE.trans hs5
    obtain rfl : j = l.length := hS'
    rw [List.take_length, HSQ.out, ← hl1, List.take_length] at hl2
    have y1 := (cell1 k1).1
    have hcv := hB.str t
    rw [hl1] at hcv
    obtain ⟨U, hU⟩ : ∃ U, U = W.putObj E (.deferred none) := ⟨_, rfl⟩
    have hg9 : Gs (fun i => i = E) W U := by rw [hU]; exact gs_putObj
    have HE : Hid (L = opn l [] ∧ Below w.heap.size w U) := ⟨hl2, hg9.below h6 h6.size (fun i hi => by omega)⟩
    have HU := hide hU
    clear hB hl1 hl2 k1 k2 h3 h4 h5 h6 hS hE hED hg9 hU
    gi_wp2
    refine ⟨by simp, .inl ⟨_, _, rfl, run_takeDeferred hd, ?_⟩⟩
    rw [← HU.out]
    refine ⟨.tuple #[.string ⟨L.toArray⟩, .int .i64 0], by simp [results, Tryd.results76, go_sem], ?_⟩
    exact ⟨by rw [HE.out.1], HE.out.2⟩
  case stop => exact fun E c t N W _ _ h => h.elim
theorem unpC : UnpackC (fun _ => True) := fun w s n _ hs => by
  by_cases h : 0 ≤ n ∧ n ≤ 1048576
  · rcases hp : ps s with _ | ⟨l, t⟩
    · exact unp_none hs h hp
    · by_cases ht : (t : Int) = n
      · subst ht
        exact unp_ok hs (by omega) hp
      · exact unp_other hs h hp ht
  · exact unp_range h
end
end Go.Proofs.YtcidfkkgpehodaaDoor
