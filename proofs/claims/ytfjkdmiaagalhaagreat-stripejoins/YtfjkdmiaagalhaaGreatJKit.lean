/-
  What StripeJoins keeps along its calls.
-/
import Derived.Test.YtfjkdmiaagalhaaGreatRJKit
import Derived.Test.YtfjkdmiaagalhaaGreatRShard
namespace Go.Proofs.YtfjkdmiaagalhaaGreat
open Go.RowKit Go.Lib

def A2 (w : World) (b : Nat) (x y : Int) : Prop := w.heap[b]? = some (.cells #[.int .i64 x, .int .i64 y] 22 (0, 0))
theorem A2.lt {w : World} {b : Nat} {x y : Int} (h : A2 w b x y) : b < w.heap.size := lt_of_block h
theorem A2.cell0 {w : World} {b : Nat} {x y : Int} (h : A2 w b x y) : w.cell? ⟨b, 0, none⟩ = some (.int .i64 x) := by rw [cell_of_row w b 0 _ _ _ h]; rfl
theorem A2.cell1 {w : World} {b : Nat} {x y : Int} (h : A2 w b x y) : w.cell? ⟨b, 1, none⟩ = some (.int .i64 y) := by rw [cell_of_row w b 1 _ _ _ h]; rfl
theorem A2.new (w : World) (x y : Int) : A2 (w.alloc (.cells #[.int .i64 x, .int .i64 y] 22)) w.heap.size x y := heap_alloc_new w _
theorem IP.nrr {B B' n n' : Nat} {v v' : Value} {I I' : Nat → Int} {X X' : Nat → ByteArray} {w : World} (h : IP B v n I X w) (hS : Rr.IP B' v' n' I' X' w) (b : Nat) (hb : v.ownBlock = some b) : v'.ownBlock ≠ some b := by
  rcases h.own.2 with ⟨rfl, _⟩ | ⟨g, cap, cur, e, _, hg, _⟩
  · simp [Value.ownBlock] at hb
  rcases hS.own.2 with ⟨rfl, _⟩ | ⟨g', cap', cur', e', _, hg', _⟩
  · simp [Value.ownBlock]
  intro e2
  rw [e] at hb
  rw [e'] at e2
  simp [Value.ownBlock] at hb e2
  subst hb e2
  rw [hg] at hg'
  simp at hg'
theorem IP.apart {B n : Nat} {w w' : World} {v : Value} {I : Nat → Int} {X : Nat → ByteArray} {row : Option Nat} (h : IP B v n I X w) (hg : w.grownBy w' row) (ha : ∀ b, v.ownBlock = some b → row ≠ some b) : IP B v n I X w' := by
  refine ⟨h.own.1, ?_⟩
  rcases h.own.2 with h2 | ⟨g, cap, cur, e, hB, hgg, r⟩
  · exact .inl h2
  · exact .inr ⟨g, cap, cur, e, hB, (hg.block g (lt_of_block hgg) (by have := ha g (by rw [e]; rfl); exact fun x => this x.symm)).trans hgg, r⟩
/-- Both lists of parts, as they are made. -/
structure JK (w3 wr : World) (vo vk : Value) (i : Nat) (I : Nat → Int) (X : Nat → ByteArray) : Prop where
  io : IP w3.heap.size vo i I X wr
  ik : Rr.IP w3.heap.size vk i I X wr
  be : Below w3.heap.size w3 wr
theorem ext_one {α : Type} (f : Nat → α) (i t : Nat) (ht : t < i + 1) : (if t < i then f t else f i) = f t := by
  split
  · rfl
  · rw [show t = i by omega]
theorem JK.step {w3 wr : World} {vo vk : Value} {i : Nat} {I : Nat → Int} {X : Nat → ByteArray} (h : JK w3 wr vo vk i I X) (hi : i ≤ 1000) :
    ∃ v' w', (Builtin.append_ #[23, 23] 23 #[vo, .slice (some ⟨wr.heap.size, 0, none⟩) 1 1]).run Tryz.prog (wr.alloc (.cells #[.int .i64 (I i), .string (X i)] 35)) = .ok v' w' ∧ Below w3.heap.size w3 w' ∧
      ∃ v2 w2, (Builtin.append_ #[33, 33] 33 #[vk, .slice (some ⟨w'.heap.size, 0, none⟩) 1 1]).run Tryz.prog (w'.alloc (.cells #[.int .i64 (I i), .string (X i)] 36)).drew = .ok v2 w2 ∧ JK w3 w2 v' v2 (i + 1) I X := by
  have hal : Below wr.heap.size wr (wr.alloc (.cells #[.int .i64 (I i), .string (X i)] 35)) := below_alloc (Below.refl _ _) _
  have hO0 := h.io.keep hal
  have hK0 := h.ik.keep hal
  have hB0 := below_step h.be hal
  obtain ⟨a', c', w', h1, h2, h3⟩ := h.io.one (I i) (X i) (by omega) h.be.size
  have hK1 := hK0.apart h3 (fun b hb e => hO0.nrr hK0 b e hb)
  have hB1 : Below w3.heap.size w3 w' := hB0.grown h3 hB0.size (fun cc hc => (hO0.lt cc hc).1)
  have hdr : Below w'.heap.size w' w'.drew := (Below.refl _ _).drew
  obtain ⟨v2, w2, h4, h5, h6, _⟩ := (hK1.keep hdr).one2 (I i) (X i) (by omega) hB1.size
  have hal2 : Below w'.heap.size w' (w'.drew.alloc (.cells #[.int .i64 (I i), .string (X i)] 36)) := below_step hdr (below_alloc (Below.refl _ _) _)
  have hO2 := h2.keep hal2
  have hK2 := hK1.keep hal2
  have hB2 := below_step hB1 hal2
  exact ⟨_, w', h1, hB1, v2, w2, h4, ⟨(hO2.apart h6 (fun b hb => hO2.nrr hK2 b hb)).congr (fun t ht => ⟨ext_one I i t ht, ext_one X i t ht⟩), h5.congr (fun t ht => ⟨ext_one I i t ht, ext_one X i t ht⟩), hB2.grown h6 hB2.size (fun cc hc => (hK2.lt cc hc).1)⟩⟩
theorem RQ.gs {w w' : World} {b g k m f1 f2 : Nat} (h : RQ w b g k m) (h1 : F w f1) (h2 : F w f2) (hg : Gs (fun i => i = f1 ∨ i = f2) w w') : RQ w' b g k m := by
  have nf : ∀ f, F w f → b ≠ f := by
    intro f hF e
    subst e
    have hp := h.pl
    unfold RP at hp
    rcases hF with x | ⟨_, _, x, _⟩ <;> (unfold FB at x; rw [hp] at x; simp at x)
  exact ⟨h.pl.of_block (hg.block b h.pl.lt (by rintro (e | e); exact nf _ h1 e; exact nf _ h2 e)), h.kb.of_block (hg.block g h.kb.lt (by rintro (e | e); exact h.kb.nef h1 e; exact h.kb.nef h2 e))⟩
/-- What StripeJoins keeps along its four calls. -/
structure JS (W wr : World) (b sb f1 f2 g rb rg k m B : Nat) (vo vk : Value) (n : Nat) (I : Nat → Int) (X : Nat → ByteArray) : Prop where
  pp : PP wr b sb f1 f2 g k m
  rq : RQ wr rb rg k m
  io : IP B vo n I X wr
  ik : Rr.IP B vk n I X wr
  be : Below W.heap.size W wr
section
variable {W wr w' : World} {b sb f1 f2 g rb rg k m B n : Nat} {vo vk : Value} {I : Nat → Int} {X : Nat → ByteArray}
theorem JS.gs (h : JS W wr b sb f1 f2 g rb rg k m B vo vk n I X) (hf1 : W.heap.size ≤ f1) (hf2 : W.heap.size ≤ f2) (hP : PP w' b sb f1 f2 g k m) (hg : Gs (fun i => i = f1 ∨ i = f2) wr w') : JS W w' b sb f1 f2 g rb rg k m B vo vk n I X :=
  ⟨hP, h.rq.gs h.pp.sp.fl h.pp.fl hg, h.io.gs h.pp.sp.fl h.pp.fl hg, h.ik.gs h.pp.sp.fl h.pp.fl hg, hg.below h.be h.be.size (by rintro i (rfl | rfl) <;> assumption)⟩
theorem JS.bel (h : JS W wr b sb f1 f2 g rb rg k m B vo vk n I X) (hb : Below wr.heap.size wr w') : JS W w' b sb f1 f2 g rb rg k m B vo vk n I X :=
  ⟨h.pp.below hb, h.rq.below hb, h.io.keep hb, h.ik.keep hb, below_step h.be hb⟩
end
/-- Few parts, all of them short. -/
def fewB (n : Nat) (X : Nat → ByteArray) : Bool := decide (n ≤ 20) && allB (fun i => decide ((X i).size ≤ 300)) n
theorem fewB_true {n : Nat} {X : Nat → ByteArray} (h : fewB n X = true) : n ≤ 20 ∧ ∀ i, i < n → (X i).size ≤ 300 := by
  rw [fewB, Bool.and_eq_true, decide_eq_true_eq] at h
  exact ⟨h.1, fun i hi => by simpa using allB_spec _ _ h.2 i hi⟩

set_option maxRecDepth 100000 in
set_option maxHeartbeats 800000 in
theorem few_any {w : World} {v : Value} {n : Nat} {I : Nat → Int} {X : Nat → ByteArray} (hn : n ≤ maxLen) (hP : PX w v n I X) (hXs : ∀ i, i < n → (X i).size ≤ 9223372036854775807) :
    Calls Tryz.prog 4 #[v] w fun e w' => e = .returned (.bool (fewB n X)) ∧ Below w.heap.size w w' := by
  obtain ⟨a, c, rfl, hP⟩ := hP
  have hn' : n ≤ 9223372036854775807 := hn
  have HX := hide hP
  have HS := hide hXs
  clear hP hXs hn
  obtain ⟨r, hr⟩ : ∃ r, r = fewB n X := ⟨_, rfl⟩
  rw [← hr]
  have HR := hide hr
  clear hr
  go_enter Tryz.func4, Tryz.ntmps4
  by_cases h20 : 20 < n
  · have b1 : (20 : Int) < (n : Int) := by omega
    have e : r = false := by rw [HR.out, fewB, decide_eq_false (by omega)]; rfl
    subst e
    go_wp2
    go_ret
    exact ⟨rfl, Below.refl _ _⟩
  have b1 : ¬ (20 : Int) < (n : Int) := by omega
  have HRE : Hid (r = allB (fun i => decide ((X i).size ≤ 300)) n) := by
    show r = _
    rw [HR.out, fewB, decide_eq_true (by omega)]; rfl
  clear HR
  go_wp2
  go_loopw [3] (fun z wr => ∃ j : Nat, j ≤ n ∧ z = .int .i64 j ∧ allB (fun i => decide ((X i).size ≤ 300)) j = true ∧ Below w.heap.size w wr) (fun z _ => n - (RowKit.intOf z).toNat)
  case atStart => exact ⟨0, Nat.zero_le _, rfl, rfl, Below.refl _ _⟩
  case round =>
    obtain ⟨j, hj, rfl, hA, hB⟩ := hrel
    have HA := hide hA
    have HB := hide hB
    clear hA
    by_cases hlt : j < n
    · obtain ⟨bl, off, rfl, hbl, hcell⟩ := HX.out.resolve_left (by omega)
      have p2 := (hB.cell (p := ⟨bl, off + j * 2 + 1, none⟩) hbl).trans (hcell j hlt).2
      have b2 : (j : Int) < (n : Int) := by omega
      have b0 : (0 : Int) ≤ (j : Int) := by omega
      have hs := HS.out j hlt
      clear hB hcell
      by_cases h3 : 300 < (X j).size
      · have b3 : (300 : Int) < ((X j).size : Int) := by omega
        have e : r = false := by
          rw [HRE.out]
          cases hh : allB (fun i => decide ((X i).size ≤ 300)) n with
          | false => rfl
          | true => have := allB_spec _ _ hh j hlt; simp at this; omega
        subst e
        clear HRE
        go_wp2
        go_ret
        exact ⟨rfl, HB.out⟩
      · have b3 : ¬ (300 : Int) < ((X j).size : Int) := by omega
        have HN : Hid (allB (fun i => decide ((X i).size ≤ 300)) (j + 1) = true) := by
          show allB _ _ = true
          rw [allB, HA.out, decide_eq_true (by omega)]; rfl
        go_wp2
        exact ⟨⟨j + 1, by omega, by go_num, HN.out, HB.out⟩, by simp [RowKit.intOf]; omega⟩
    · obtain rfl : j = n := by omega
      have e : r = true := by rw [HRE.out]; exact HA.out
      subst e
      clear hB HRE
      go_wp2
      go_ret
      exact ⟨rfl, HB.out⟩
end Go.Proofs.YtfjkdmiaagalhaaGreat
