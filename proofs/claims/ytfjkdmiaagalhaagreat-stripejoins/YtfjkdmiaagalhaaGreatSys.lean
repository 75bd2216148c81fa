/-
  Rows of their own as they lie in memory; the contracts of what clears a column, and of the look for the first row with something in it.
-/
import Derived.Test.YtfjkdmiaagalhaaGreatCau
namespace Go.Proofs.YtfjkdmiaagalhaaGreat
open Go.RowKit Go.Lib

def rowsL (m W : Nat) (q cp : Nat → Nat) : List Value := (List.range m).map fun i => Value.slice (some ⟨q i, 0, none⟩) W (cp i)
theorem rowsL_length (m W : Nat) (q cp : Nat → Nat) : (rowsL m W q cp).length = m := by simp [rowsL]
theorem rowsL_get {m W i : Nat} (q cp : Nat → Nat) (h : i < m) : (rowsL m W q cp)[i]? = some (.slice (some ⟨q i, 0, none⟩) W (cp i)) := by
  rw [rowsL, List.getElem?_map, List.getElem?_range h]; rfl

/-- What turns nothing below B but one block. -/
structure Fr (B f : Nat) (w w' : World) : Prop where
  os : w'.os = w.os
  tape : w'.tape = w.tape
  output : w'.output = w.output
  size : w.heap.size ≤ w'.heap.size
  block : ∀ k, k < B → k ≠ f → w'.heap[k]? = w.heap[k]?
theorem Fr.refl (B f : Nat) (w : World) : Fr B f w w := ⟨rfl, rfl, rfl, Nat.le_refl _, fun _ _ _ => rfl⟩
theorem Fr.trans {B f : Nat} {w w1 w2 : World} (h : Fr B f w w1) (k : Fr B f w1 w2) : Fr B f w w2 :=
  ⟨k.os.trans h.os, k.tape.trans h.tape, k.output.trans h.output, Nat.le_trans h.size k.size, fun i h1 h2 => (k.block i h1 h2).trans (h.block i h1 h2)⟩
theorem Fr.of_gb {B f b : Nat} {w w' : World} (h : w.grownBy w' (some b)) (hb : b = f ∨ B ≤ b) (hB : B ≤ w.heap.size) : Fr B f w w' :=
  ⟨h.os, h.tape, h.output, h.size, fun k h1 h2 => h.block k (by omega) (by simp; rcases hb with rfl | hb <;> omega)⟩
theorem Fr.of_two {B f g : Nat} {w w' : World} (h : Two f g w w') (hg : B ≤ g) (hB : B ≤ w.heap.size) : Fr B f w w' :=
  ⟨h.os, h.tape, h.output, h.size, fun k h1 h2 => h.block k (by omega) h2 (by omega)⟩
theorem Fr.of_below {B f : Nat} {w w' : World} (h : Below w.heap.size w w') (hB : B ≤ w.heap.size) : Fr B f w w' :=
  ⟨h.os, h.tape, h.output, h.size, fun k h1 _ => h.block k (by omega)⟩
theorem Fr.grown {f : Nat} {w0 w w' : World} (h0 : w0.grownBy w (some f)) (h : Fr w0.heap.size f w w') : w0.grownBy w' (some f) :=
  ⟨h.os.trans h0.os, h.tape.trans h0.tape, h.output.trans h0.output, Nat.le_trans h0.size h.size, fun k hk hne => (h.block k hk (by simpa using hne)).trans (h0.block k hk hne)⟩
theorem Fr.drewN {B f : Nat} {w w' : World} (h : Fr B f w w') (n : Nat) : Fr B f w (w'.drewN n) := ⟨h.os, h.tape, h.output, h.size, h.block⟩

/-- m rows of W elements, in blocks of their own, and the list of them. -/
structure RS (w : World) (B sb f rb m W : Nat) (q cp : Nat → Nat) (R : Mt) : Prop where
  S : SP w sb f
  ltS : sb < B
  ltF : f < B
  ltB : B ≤ w.heap.size
  rge : B ≤ rb
  rows : w.heap[rb]? = some (.cells (rowsL m W q cp).toArray 48 (0, 0))
  each : ∀ i, i < m → KB w (q i) W (R i)
  ge : ∀ i, i < m → B ≤ q i
  inj : ∀ i j, i < m → j < m → q i = q j → i = j
  cap : ∀ i, i < m → W ≤ cp i
section
variable {w w' : World} {B sb f rb m W : Nat} {q cp : Nat → Nat} {R : Mt}
theorem RS.cell (h : RS w B sb f rb m W q cp R) (i : Nat) (hi : i < m) : w.cell? ⟨rb, i, none⟩ = some (.slice (some ⟨q i, 0, none⟩) W (cp i)) := by
  rw [cell_of_row w rb i _ _ _ h.rows, List.getElem?_toArray, rowsL_get q cp hi]
theorem RS.free (h : RS w B sb f rb m W q cp R) (i : Nat) : w.frozen? ⟨rb, i, none⟩ = false := frozen_of_row w rb i _ _ h.rows
theorem RS.rlt (h : RS w B sb f rb m W q cp R) : rb < w.heap.size := lt_of_block h.rows
theorem RS.ne (h : RS w B sb f rb m W q cp R) (i : Nat) (hi : i < m) : q i ≠ rb := by
  intro e
  obtain ⟨Z, hZ⟩ := h.each i hi
  rw [e, h.rows] at hZ
  simp at hZ
theorem RS.nef (h : RS w B sb f rb m W q cp R) (i : Nat) (hi : i < m) : q i ≠ f := by have := h.ge i hi; have := h.ltF; omega
theorem RS.congr (h : RS w B sb f rb m W q cp R) {R' : Mt} (e : ∀ i, i < m → ∀ j, j < W → R i j = R' i j) : RS w B sb f rb m W q cp R' :=
  ⟨h.S, h.ltS, h.ltF, h.ltB, h.rge, h.rows, fun i hi => (h.each i hi).congr (fun j hj => e i hi j hj), h.ge, h.inj, h.cap⟩
/-- The field has gone on. -/
theorem RS.field (h : RS w B sb f rb m W q cp R) (hg : w.grownBy w' (some f)) (hF : F w' f) : RS w' B sb f rb m W q cp R :=
  ⟨h.S.field hg hF, h.ltS, h.ltF, Nat.le_trans h.ltB hg.size, h.rge, (hg.block rb h.rlt (by simp; have := h.rge; have := h.ltF; omega)).trans h.rows, fun i hi => (h.each i hi).of_block (hg.block _ (h.each i hi).lt (by simp; exact h.nef i hi)), h.ge, h.inj, h.cap⟩
theorem RS.below (h : RS w B sb f rb m W q cp R) (hb : Below w.heap.size w w') : RS w' B sb f rb m W q cp R :=
  ⟨h.S.below hb (Nat.le_refl _), h.ltS, h.ltF, Nat.le_trans h.ltB hb.size, h.rge, (hb.block rb h.rlt).trans h.rows, fun i hi => (h.each i hi).below hb (Nat.le_refl _), h.ge, h.inj, h.cap⟩
/-- A row, and the field, are turned. -/
theorem RS.upd (h : RS w B sb f rb m W q cp R) (r : Nat) (hr : r < m) (hT : Two f (q r) w w') (hS : SP w' sb f) {Rr : Nat → K} (hK : KB w' (q r) W Rr) : RS w' B sb f rb m W q cp (fun i => if i = r then Rr else R i) := by
  refine ⟨hS, h.ltS, h.ltF, Nat.le_trans h.ltB hT.size, h.rge, (hT.block rb h.rlt (by have := h.rge; have := h.ltF; omega) (fun e => h.ne r hr e.symm)).trans h.rows, fun i hi => ?_, h.ge, h.inj, h.cap⟩
  by_cases e : i = r
  · subst e; rw [if_pos rfl]; exact hK
  · rw [if_neg e]
    exact (h.each i hi).of_block (hT.block _ (h.each i hi).lt (h.nef i hi) (fun x => e (h.inj i r hi hr x)))
end
theorem KB.rd {w : World} {g W : Nat} {G : Nat → K} (h : KB w g W G) : RD w g 0 W G := fun j hj => by rw [Nat.zero_add]; exact h.cell j hj

/-! ### The column cleared -/
def scl (R : Mt) (a c j : Nat) : Mt := fun i k => if i = a ∧ k < j then R a k * K.inv (R a c) else R i k
theorem scl_zero (R : Mt) (a c i k : Nat) : scl R a c 0 i k = R i k := by rw [scl, if_neg (by omega)]
def clr (R : Mt) (a c n : Nat) : Mt := fun i k => if i = a then R a k * K.inv (R a c) else if i < n then R i k + R a k * K.inv (R a c) * R i c else R i k

set_option maxRecDepth 100000 in
set_option maxHeartbeats 1600000 in
theorem clear_any {w : World} {B sb f rb m W : Nat} {q cp : Nat → Nat} {R : Mt} {a c : Nat} (h : RS w B sb f rb m W q cp R) (ha : a < m) (hc : c < W) (hW : W ≤ 100000) (hm : m ≤ 100000) (h0 : R a c ≠ 0) :
    Calls Tryz.prog 97 #[.pointer (some ⟨sb, 0, none⟩), .slice (some ⟨rb, 0, none⟩) m m, .int .i64 a, .int .i64 c] w fun e w' => e = .returned (.tuple #[]) ∧ RS w' B sb f rb m W q cp (elim R a c) ∧ Fr B f w w' := by
  have c1 := h.cell a ha
  have c2 := (h.each a ha).cell c hc
  have c3 := h.S.b.cell
  have b0 : (0 : Int) ≤ (a : Int) := by omega
  have b1 : (a : Int) < (m : Int) := by omega
  have b2 : (0 : Int) ≤ (c : Int) := by omega
  have b3 : (c : Int) < (W : Int) := by omega
  have hltB := h.ltB
  have AD : Hid (∀ (w' : World), F w' f → RS w' B sb f rb m W q cp R → Fr B f w w' → Calls Tryz.prog 30 #[.pointer (some ⟨f, 0, none⟩), .int .i64 1, .int .i64 (((R a c).v : Nat) : Int)] w' fun e w'' => e = .returned (.tuple #[.int .i64 (((K.inv (R a c)).v : Nat) : Int), .int .i64 0]) ∧ (RS w'' B sb f rb m W q cp R ∧ Fr B f w w'') ∧ w''.cell? ⟨sb, 0, none⟩ = some (.pointer (some ⟨f, 0, none⟩)) ∧ w''.cell? ⟨q a, c, none⟩ = some (.int .i64 (((R a c).v : Nat) : Int))) := by
    intro w' hF hR hfr
    refine (div_ok hF 1 (R a c).v (by decide) (R a c).lt (K.v_ne h0)).mono ?_
    rintro e w'' ⟨rfl, q1, q2⟩
    have R' := hR.field q2 q1
    exact ⟨rfl, ⟨R', hfr.trans (Fr.of_gb q2 (.inl rfl) hR.ltB)⟩, R'.S.b.cell, (R'.each a ha).cell c hc⟩
  have HD : Hid (F w.drew f ∧ RS w.drew B sb f rb m W q cp R ∧ Fr B f w w.drew) := ⟨h.S.fl, ⟨⟨h.S.b, h.S.fl, h.S.ne⟩, h.ltS, h.ltF, h.ltB, h.rge, h.rows, h.each, h.ge, h.inj, h.cap⟩, (Fr.refl B f w).drewN 1⟩
  have HH := hide h
  clear h
  go_enter Tryz.func97, Tryz.ntmps97
  go_wp2_with fail
  go_region_held3 (fun w' => w'.cell? ⟨sb, 0, none⟩ = some (.pointer (some ⟨f, 0, none⟩)) ∧ w'.cell? ⟨q a, c, none⟩ = some (.int .i64 (((R a c).v : Nat) : Int))) (first | assumption | exact ⟨by assumption, by assumption⟩ | exact ⟨c3, c2⟩)
    (first
      | (go_at_call 30; refine (AD.out _ HD.out.1 HD.out.2.1 HD.out.2.2).mono ?_; rintro e w1 ⟨rfl, k1, k2, k3⟩))
  clear AD HD c1 c2 c3 HH
  have HR1 : Hid (RS w1 B sb f rb m W q cp R) := k1.1
  have HF1 : Hid (Fr B f w w1) := k1.2
  clear k1 k2 k3
  go_wp2
  go_loopw [33] (fun z wr => ∃ j : Nat, j ≤ W ∧ z = .int .i64 j ∧ RS wr B sb f rb m W q cp (scl R a c j) ∧ Fr B f w wr) (fun z _ => W - (intOf z).toNat)
  case atStart => exact ⟨0, Nat.zero_le _, rfl, HR1.out.congr (fun i _ k _ => (scl_zero R a c i k).symm), HF1.out⟩
  case round =>
    obtain ⟨j, hj, rfl, hR, hfr⟩ := hrel
    clear HR1 HF1
    by_cases hlt : j < W
    · have d1 := (hR.each a ha).cell j hlt
      rw [show scl R a c j a j = R a j by rw [scl, if_neg (by omega)]] at d1
      have d2 := hR.S.b.cell
      have HR := hide hR
      have HF := hide hfr
      clear hR hfr
      have e0 : (0 : Int) ≤ (j : Int) := by omega
      have e1 : (j : Int) < (W : Int) := by omega
      obtain ⟨y, hy⟩ : ∃ y, y = R a j * K.inv (R a c) := ⟨_, rfl⟩
      have AM : Hid (Calls Tryz.prog 103 #[.pointer (some ⟨f, 0, none⟩), .int .i64 (((R a j).v : Nat) : Int), .int .i64 (((K.inv (R a c)).v : Nat) : Int)] wr fun e w' => e = .returned (.tuple #[.int .i64 ((y.v : Nat) : Int), .int .i64 0]) ∧ F w' f ∧ wr.grownBy w' (some f)) := by
        rw [hy]
        exact mul_ok HR.out.S.fl (R a j).v (K.inv (R a c)).v (R a j).lt (K.inv (R a c)).lt
      have HY := hide hy
      clear hy
      go_wp2_with fail
      refine Calls.mono AM.out ?_
      rintro e w2 ⟨rfl, hF2, hg2⟩
      have hR2 := HR.out.field hg2 hF2
      have hf2 := HF.out.trans (Fr.of_gb hg2 (.inl rfl) HR.out.ltB)
      have d3 := (hR2.each a ha).cell j hlt
      have d4 := (hR2.each a ha).free j
      have HR2 := hide hR2
      have HF2 := hide hf2
      clear hR2 hf2 hF2 hg2 HR HF AM d1 d2
      go_wp2
      have gs := gb_set w2 (q a) j (.int .i64 ((y.v : Nat) : Int))
      have hK := (HR2.out.each a ha).set j hlt y
      have hU := HR2.out.upd a ha ((Two.refl f (q a) w2).gb gs (.inr rfl)) (HR2.out.S.kset (HR2.out.each a ha) gs) hK
      refine ⟨⟨j + 1, by omega, by go_num, hU.congr (fun i _ k _ => ?_), HF2.out.trans (Fr.of_gb gs (.inr (HR2.out.ge a ha)) HR2.out.ltB)⟩, by simp [intOf]; omega⟩
      by_cases ei : i = a
      · subst ei
        rw [if_pos rfl]
        simp only [scl, true_and]
        by_cases ek : k = j
        · rw [if_pos ek, if_pos (by omega), HY.out, ek]
        · rw [if_neg ek]
          by_cases el : k < j
          · rw [if_pos el, if_pos (by omega)]
          · rw [if_neg el, if_neg (by omega)]
      · rw [if_neg ei, scl, scl, if_neg (fun x => ei x.1), if_neg (fun x => ei x.1)]
    · obtain rfl : j = W := by omega
      have HR1 : Hid (RS wr B sb f rb m j q cp (clr R a c 0)) := hR.congr (fun i _ k hk => by
        rw [scl, clr]
        by_cases ei : i = a
        · rw [if_pos ⟨ei, hk⟩, if_pos ei]
        · rw [if_neg (fun x => ei x.1), if_neg ei, if_neg (Nat.not_lt_zero _)])
      have HF1 := hide hfr
      clear hR hfr
      go_wp2
      go_loopw [54] (fun z wr => ∃ i : Nat, i ≤ m ∧ z = .int .i64 i ∧ RS wr B sb f rb m j q cp (clr R a c i) ∧ Fr B f w wr) (fun z _ => m - (intOf z).toNat)
      case atStart => exact ⟨0, Nat.zero_le _, rfl, HR1.out, HF1.out⟩
      case round =>
        obtain ⟨i, hi, rfl, hR, hfr⟩ := hrel
        clear HR1 HF1
        by_cases hlt : i < m
        · have d1 := hR.cell i hlt
          have d2 := (hR.each i hlt).cell c hc
          have e0 : (0 : Int) ≤ (i : Int) := by omega
          have e1 : (i : Int) < (m : Int) := by omega
          by_cases ei : i = a
          · subst ei
            have HR := hide hR
            have HF := hide hfr
            clear hR hfr d2
            go_wp2
            refine ⟨⟨i + 1, by omega, by go_num, HR.out.congr (fun r _ k _ => ?_), HF.out⟩, by simp [intOf]; omega⟩
            rw [clr, clr]
            by_cases er : r = i
            · rw [if_pos er, if_pos er]
            · rw [if_neg er, if_neg er]
              by_cases el : r < i
              · rw [if_pos el, if_pos (by omega)]
              · rw [if_neg el, if_neg (by omega)]
          · have en : ((i : Int) != (a : Int)) = true := by simp; omega
            rw [show clr R a c i i c = R i c by rw [clr, if_neg ei, if_neg (Nat.lt_irrefl _)]] at d2
            have qn : q a ≠ q i := fun x => ei (hR.inj a i ha hlt x).symm
            have AT : Hid _ := addTimes_any (o := 0) (cp := cp i) (cl := cp a) hR.S (hR.each i hlt) (hR.each a ha).rd (hR.each a ha).lt (hR.nef a ha) qn (by omega) (by omega) (R i c)
            have HR := hide hR
            have HF := hide hfr
            clear hR hfr
            go_wp2_with fail
            refine Calls.mono AT.out ?_
            rintro e w2 ⟨rfl, s1, s2, s3⟩
            have hU := HR.out.upd i hlt s3 s1 s2
            have hf2 := HF.out.trans (Fr.of_two s3 (HR.out.ge i hlt) HR.out.ltB)
            have HU := hide hU
            have HF2 := hide hf2
            clear hU hf2 s1 s2 s3 AT HR HF
            go_wp2
            refine ⟨⟨i + 1, by omega, by go_num, HU.out.congr (fun r _ k hk => ?_), HF2.out⟩, by simp [intOf]; omega⟩
            by_cases er : r = i
            · subst er
              rw [if_pos rfl, adds, if_pos ⟨Nat.zero_le _, by omega⟩, Nat.sub_zero, clr, clr, clr, if_neg ei, if_neg (Nat.lt_irrefl _), if_pos rfl, if_neg ei, if_pos (by omega)]
            · rw [if_neg er, clr, clr]
              by_cases ea : r = a
              · rw [if_pos ea, if_pos ea]
              · rw [if_neg ea, if_neg ea]
                by_cases el : r < i
                · rw [if_pos el, if_pos (by omega)]
                · rw [if_neg el, if_neg (by omega)]
        · obtain rfl : i = m := by omega
          have HR : Hid (RS wr B sb f rb i j q cp (elim R a c)) := hR.congr (fun r hr k _ => by
            rw [clr, elim]
            by_cases er : r = a
            · rw [if_pos er, if_pos er]
            · rw [if_neg er, if_neg er, if_pos hr])
          have HF := hide hfr
          clear hR hfr
          go_wp2
          go_end0
          exact ⟨rfl, HR.out, HF.out⟩

/-! ### The look for the first row -/
set_option maxRecDepth 100000 in
theorem has_any {w : World} {g W c box cp : Nat} {G : Nat → K} (hK : KB w g W G) (hb : w.cell? ⟨box, 0, none⟩ = some (.int .i64 c)) (hc : c < W) :
    Calls Tryz.prog 96 #[.slice (some ⟨g, 0, none⟩) W cp, .pointer (some ⟨box, 0, none⟩)] w fun e w' => e = .returned (.bool (decide (G c ≠ 0))) ∧ w' = w := by
  have d := hK.cell c hc
  have e0 : (0 : Int) ≤ (c : Int) := by omega
  have e1 : (c : Int) < (W : Int) := by omega
  clear hK
  by_cases h : G c = 0
  · have hv : ((((G c).v : Nat) : Int) != 0) = false := by rw [h]; rfl
    rw [show decide (G c ≠ 0) = false by simp [h]]
    go_enter Tryz.func96, Tryz.ntmps96
    go_wp2
    go_ret
    exact ⟨rfl, rfl⟩
  · have hv : ((((G c).v : Nat) : Int) != 0) = true := by have := K.v_ne h; simp; omega
    rw [show decide (G c ≠ 0) = true by simp [h]]
    go_enter Tryz.func96, Tryz.ntmps96
    go_wp2
    go_ret
    exact ⟨rfl, rfl⟩
def leadI (R : Mt) (c k a : Nat) : Int := match lead R c k a with
  | none => -1
  | some n => (n : Int) - (a : Int)
set_option maxRecDepth 100000 in
theorem idxR_any {w : World} {B sb f rb m W : Nat} {q cp : Nat → Nat} {R : Mt} {a c box cx k : Nat} {sa : Option Addr} (h : RS w B sb f rb m W q cp R) (hc : c < W) (hb : w.cell? ⟨box, 0, none⟩ = some (.int .i64 c)) (hk : a + k = m) (hm : m ≤ 100000) (hs : k = 0 ∨ sa = some ⟨rb, a, none⟩) :
    Calls Tryz.prog 95 #[.slice sa k cx, .func (.func 96) #[] #[.pointer (some ⟨box, 0, none⟩)]] w fun e w' => e = .returned (.int .i64 (leadI R c k a)) ∧ w' = w := by
  have HH := hide h
  have HS := hide hs
  clear h hs
  obtain ⟨r, hr⟩ : ∃ r, r = leadI R c k a := ⟨_, rfl⟩
  rw [← hr]
  have HR := hide hr
  clear hr
  go_enter Tryz.func95, Tryz.ntmps95
  go_wp2
  go_loop [8] (fun z => ∃ j : Nat, j ≤ k ∧ z = .int .i64 j ∧ lead R c k a = lead R c (k - j) (a + j)) (fun z => k - (intOf z).toNat)
  case atStart => exact ⟨0, Nat.zero_le _, rfl, rfl⟩
  case round =>
    obtain ⟨j, hj, rfl, hl⟩ := hrel
    by_cases hlt : j < k
    · obtain rfl := HS.out.resolve_left (by omega)
      have d1 := HH.out.cell (a + j) (by omega)
      have e0 : (0 : Int) ≤ (j : Int) := by omega
      have e1 : (j : Int) < (k : Int) := by omega
      have AH : Hid _ := has_any (cp := cp (a + j)) (HH.out.each (a + j) (by omega)) hb hc
      obtain ⟨d, hd⟩ : ∃ d, k - j = d + 1 := ⟨k - j - 1, by omega⟩
      rw [hd, lead] at hl
      by_cases hz : R (a + j) c = 0
      · rw [if_neg (by simp [hz])] at hl
        rw [show decide (R (a + j) c ≠ 0) = false by simp [hz]] at AH
        have HL := hide hl
        clear hl hz
        go_wp2_with fail
        refine Calls.mono AH.out ?_
        rintro e w1 ⟨rfl, hw1⟩
        subst w1
        go_wp2
        exact ⟨⟨j + 1, by omega, by go_num, by rw [HL.out, show k - (j + 1) = d by omega, Nat.add_assoc]⟩, by simp [intOf]; omega⟩
      · rw [if_pos hz] at hl
        rw [show decide (R (a + j) c ≠ 0) = true by simp [hz]] at AH
        have HL : Hid (r = (j : Int)) := by
          show _ = _
          rw [HR.out, leadI, hl]
          show ((a + j : Nat) : Int) - (a : Int) = (j : Int)
          omega
        clear hl hz
        go_wp2_with fail
        refine Calls.mono AH.out ?_
        rintro e w1 ⟨rfl, hw1⟩
        subst w1
        go_wp2
        try rw [Exit.noGoto_ret]
        go_ret
        exact ⟨by rw [HL.out]; rfl, rfl⟩
    · obtain rfl : j = k := by omega
      have HL : Hid (r = -1) := by
        show _ = _
        rw [HR.out, leadI, hl, Nat.sub_self]
        rfl
      clear hl
      go_wp2
      try rw [Exit.noGoto_ret]
      go_ret
      exact ⟨by rw [HL.out]; rfl, rfl⟩
end Go.Proofs.YtfjkdmiaagalhaaGreat
