/-
  The document's store: put, Torn.
-/
import Derived.Test.YtepmhgkegfpmjaaStLay
namespace Go.Proofs.Ytepmhgkegfpmjaa
open Go.RowKit Go.Lib

section
variable {w : World} {b : Nat} {q f m : Int} {off : Bool} {v : Value} {L : List OB}
/-- A request in memory. -/
def RQ (w : World) (X : Nat) (st k : Int) (n d : ByteArray) : Prop := w.heap[X]? = some (.cells #[.int .i64 st, .int .i64 k, .string n, .string d] 38 (0, 0))
theorem RQ.c1 {X : Nat} {st k : Int} {n d : ByteArray} (h : RQ w X st k n d) : w.cell? ⟨X, 1, none⟩ = some (.int .i64 k) := by simp [World.cell?, show w.heap[X]? = _ from h]
theorem RQ.c2 {X : Nat} {st k : Int} {n d : ByteArray} (h : RQ w X st k n d) : w.cell? ⟨X, 2, none⟩ = some (.string n) := by simp [World.cell?, show w.heap[X]? = _ from h]
theorem RQ.c3 {X : Nat} {st k : Int} {n d : ByteArray} (h : RQ w X st k n d) : w.cell? ⟨X, 3, none⟩ = some (.string d) := by simp [World.cell?, show w.heap[X]? = _ from h]
theorem RQ.bel {w' : World} {X : Nat} {st k : Int} {n d : ByteArray} (h : RQ w X st k n d) (hb : Below w.heap.size w w') : RQ w' X st k n d := (hb.block X (lt_of_block h)).trans h
theorem RSt.gs {w' : World} {p : Nat → Prop} (h : RSt w b q f m off v) (hg : Gs p w w') (hp : ¬ p b) : RSt w' b q f m off v := (hg.block b h.lt hp).trans h
theorem OS.gs {B : Nat} {w' : World} {p : Nat → Prop} (h : OS B v L w) (hg : Gs p w w') (hp : ∀ i, v.ownBlock = some i → ¬ p i) : OS B v L w' := h.kb fun i hi => hg.block i (h.lt i hi).2 (hp i hi)

set_option maxRecDepth 100000 in
set_option maxHeartbeats 1600000 in
theorem rput_any (hR : RSt w b q f m off v) (hO : OS 0 v L w) (hl : L.length ≤ 90000) (hL : Ris L) (hs : ∀ p ∈ L, p.n.size ≤ 96 ∧ p.d.size ≤ 131072) (st k : Int) (n d : ByteArray) (hn : n.size ≤ maxLen) (hd : d.size ≤ maxLen) :
    Calls Try.prog 53 #[.pointer (some ⟨b, 0, none⟩), .agg #[.int .i64 st, .int .i64 k, .string n, .string d]] w fun e w' => e = .returned (.int .i64 (pcode n d L q)) ∧ (∃ v', RSt w' b q f m off v' ∧ OS 0 v' (putL n d L q) w') ∧ Gs (fun j => j = b) w w' := by
  obtain ⟨U, hU⟩ : ∃ U, U = w.alloc (.cells #[.int .i64 st, .int .i64 k, .string n, .string d] 38) := ⟨_, rfl⟩
  obtain ⟨X, hX⟩ : ∃ X, X = w.heap.size := ⟨_, rfl⟩
  have hBU : Below w.heap.size w U := by rw [hU]; exact (Below.refl _ _).alloc (Nat.le_refl _) _
  have hQ : RQ U X st k n d := by rw [hU, hX]; exact heap_alloc_new _ _
  have HRU := hide (hR.below hBU hR.lt)
  have HOU := hide (hO.keep hBU)
  have HBU := hide hBU
  have HQ := hide hQ
  have HN : Hid _ := hide (rname_any n U hn)
  have HPL : Hid (putL n d L q = if pcode n d L q = 0 then layL L n d else L) := rfl
  obtain ⟨C, hC⟩ : ∃ C, C = pcode n d L q := ⟨_, rfl⟩
  rw [← hC] at HPL ⊢
  have HC := hide hC
  have HU := hide hU
  have HX := hide hX
  have y2 := hQ.c2
  have y3 := hQ.c3
  unfold maxLen at hn hd
  clear hU hX hR hO hBU hC hQ
  cases hm : mayB n with
  | false =>
    rw [hm] at HN
    obtain rfl : C = 3 := by rw [HC.out, pcode, hm]; rfl
    have HE : Hid ((∃ v', RSt U b q f m off v' ∧ OS 0 v' (putL n d L q) U) ∧ Gs (fun j => j = b) w U) := ⟨⟨v, HRU.out, by have e := HPL.out; simp at e; rw [e]; exact HOU.out⟩, Gs.of_below _ HBU.out⟩
    go_enter Try.func53, Try.ntmps53
    go_upto_region 1 with fail
    rw [← HU.out, ← HX.out]
    go_wp2_with fail
    refine HN.out.mono ?_
    rintro e w0 ⟨rfl, rfl⟩
    go_wp2
    go_ret
    exact ⟨rfl, HE.out⟩
  | true =>
    rw [hm] at HN
    by_cases h : d.size ≤ 131072
    · have h' : ¬ (131072 : Int) < (d.size : Int) := by omega
      have HFK : Hid _ := hide (rfork_any HRU.out HOU.out.sv (by omega))
      obtain ⟨u, hu⟩ : ∃ u, u = usedL (layL L n d) := ⟨_, rfl⟩
      have hub : u ≤ 1000000000000 := by
        have h1 := used_bound (small_lay hs (mayB_size hm) h)
        have h2 := len_lay L n d
        have h3 : (layL L n d).length * 131168 ≤ 90001 * 131168 := Nat.mul_le_mul_right _ (by omega)
        rw [hu]; omega
      have HUU := hide hu
      have HMB := hide hm
      clear hu hm
      go_enter Try.func53, Try.ntmps53
      go_upto_region 1 with fail
      rw [← HU.out, ← HX.out]
      go_wp2_with fail
      refine HN.out.mono ?_
      rintro e U ⟨rfl, rfl⟩
      clear HN
      go_wp2_with fail
      refine HFK.out.mono ?_
      rintro e w1 ⟨rfl, v1, hR1, hO1, hb1⟩
      obtain ⟨fb, hfb⟩ : ∃ fb, fb = U.heap.size := ⟨_, rfl⟩
      rw [← hfb] at hR1
      rw [← hfb]
      have HLY : Hid _ := hide (rlay_any n d hR1 hO1.zero (by omega) hL)
      have hQ1 := HQ.out.bel hb1
      have x2 := hQ1.c2
      have x3 := hQ1.c3
      have HB1 := hide hb1
      have HQ1 := hide hQ1
      have HFB : Hid (b < fb) := by rw [hfb]; exact HRU.out.lt
      have HFU : Hid (U.heap.size ≤ fb) := by rw [hfb]; exact Nat.le_refl _
      have HVB : Hid (∀ i, v.ownBlock = some i → i < fb) := by rw [hfb]; exact fun i hi => (HOU.out.lt i hi).2
      clear HFK y2 y3 hR1 hO1 hb1 hQ1 hfb
      go_wp2_with fail
      refine HLY.out.mono ?_
      rintro e w2 ⟨rfl, v2, hR2, hO2, hG2⟩
      have hRb := (HRU.out.below HB1.out HRU.out.lt).gs hG2 (by have := HFB.out; show ¬ b = fb; omega)
      have hOb := (HOU.out.keep HB1.out).gs hG2 (fun i hi => by have := HVB.out i hi; show ¬ i = fb; omega)
      have HUS : Hid (∀ w3, Below w2.heap.size w2 w3 → Calls Try.prog 67 #[.pointer (some ⟨fb, 0, none⟩)] w3 fun e w' => e = .returned (.int .i64 (u : Int)) ∧ Hid (Below w2.heap.size w2 w') ∧ w'.cell? ⟨b, 0, none⟩ = some (.int .i64 q)) := fun w3 h3 => by
        rw [HUU.out]
        refine (rused_any (hR2.below h3 hR2.lt) (hO2.keep h3).ol (by have := len_lay L n d; omega) (by rw [← HUU.out]; exact hub)).mono ?_
        rintro e w' ⟨rfl, hb⟩
        have hb' := below_step h3 hb
        exact ⟨rfl, hb', (hRb.below hb' hRb.lt).c0⟩
      have K1 : Hid (Below w2.heap.size w2 w2.drew) := (Below.refl _ _).drew
      have x0 := (hRb.below K1.out hRb.lt).c0
      have HR2 := hide hR2
      have HO2 := hide hO2
      have HRb := hide hRb
      have HOb := hide hOb
      have HG : Hid (Gs (fun j => j = b) w w2) := by
        have g1 : Gs (fun j => j = b) w w1 := (Gs.of_below _ HBU.out).trans (Gs.of_below _ HB1.out)
        refine ⟨hG2.os.trans g1.os, hG2.tape.trans g1.tape, hG2.output.trans g1.output, Nat.le_trans g1.size hG2.size, fun i hi hp => (hG2.block i (Nat.lt_of_lt_of_le hi g1.size) ?_).trans (g1.block i hi hp)⟩
        have h9 := HB1.out
        have h8 := HBU.out.size
        have h7 := HFU.out
        show ¬ i = fb
        omega
      clear HLY hR2 hO2 hG2 hRb hOb x2 x3
      go_upto_region 7 with fail
      go_region_held3 (fun w' => Hid (Below w2.heap.size w2 w') ∧ w'.cell? ⟨b, 0, none⟩ = some (.int .i64 q)) (first | assumption | exact ⟨by assumption, by assumption⟩ | exact ⟨K1, x0⟩)
        (first | (go_at_call 67; refine (HUS.out _ (by first | exact K1.out | (refine Hid.out ?_; assumption))).mono ?_; rintro e w3 ⟨rfl, k1, k2⟩))
      by_cases hq : (u : Int) ≤ q
      · obtain rfl : C = 0 := by rw [HC.out, pcode, if_pos HMB.out, if_pos h, if_pos (by rw [← HUU.out]; exact hq)]
        have hq' : ¬ q < (u : Int) := by omega
        have hR3 := HR2.out.below k1.out HR2.out.lt
        have hRb3 := HRb.out.below k1.out HRb.out.lt
        have e4 := hR3.cell4
        have e5 := hRb3.cell4
        have e6 := hRb3.free 4
        have HE : Hid ((∃ v', RSt (w3.setCell ⟨b, 4, none⟩ v2) b q f m off v' ∧ OS 0 v' (putL n d L q) (w3.setCell ⟨b, 4, none⟩ v2)) ∧ Gs (fun j => j = b) w (w3.setCell ⟨b, 4, none⟩ v2)) :=
          ⟨⟨v2, hRb3.set4 v2, by have e := HPL.out; simp at e; rw [e]; exact (HO2.out.keep k1.out).sb ⟨_, _, _, _, _, hRb3⟩ _ _⟩, (HG.out.trans (Gs.of_below _ k1.out)).set (a := ⟨b, 4, none⟩) (.inl rfl) _⟩
        obtain ⟨a2, c2, e2, _⟩ := HO2.out.ol
        subst e2
        clear hR3 hRb3
        go_wp2
        go_ret
        exact ⟨rfl, HE.out⟩
      · obtain rfl : C = 71 := by rw [HC.out, pcode, if_pos HMB.out, if_pos h, if_neg (by rw [← HUU.out]; exact hq)]
        have hq' : q < (u : Int) := by omega
        have HE : Hid ((∃ v', RSt w3 b q f m off v' ∧ OS 0 v' (putL n d L q) w3) ∧ Gs (fun j => j = b) w w3) :=
          ⟨⟨v, HRb.out.below k1.out HRb.out.lt, by have e := HPL.out; simp at e; rw [e]; exact HOb.out.keep k1.out⟩, HG.out.trans (Gs.of_below _ k1.out)⟩
        go_wp2
        go_ret
        exact ⟨rfl, HE.out⟩
    · obtain rfl : C = 2 := by rw [HC.out, pcode, hm, if_pos rfl, if_neg h]
      have h' : (131072 : Int) < (d.size : Int) := by omega
      have HE : Hid ((∃ v', RSt U b q f m off v' ∧ OS 0 v' (putL n d L q) U) ∧ Gs (fun j => j = b) w U) := ⟨⟨v, HRU.out, by have e := HPL.out; simp at e; rw [e]; exact HOU.out⟩, Gs.of_below _ HBU.out⟩
      go_enter Try.func53, Try.ntmps53
      go_upto_region 1 with fail
      rw [← HU.out, ← HX.out]
      go_wp2_with fail
      refine HN.out.mono ?_
      rintro e w0 ⟨rfl, rfl⟩
      go_wp2
      go_ret
      exact ⟨rfl, HE.out⟩
end
end Go.Proofs.Ytepmhgkegfpmjaa
