/-
  The contracts of the document's own lead, swap, scale and add: a matrix in one block, turned in its place.
-/
import Derived.Test.YthedeggggbdibaaRefC
import Derived.Test.YthedeggggbdibaaSys
namespace Go.Proofs.Ythedeggggbdibaa
open Go.RowKit Go.Lib

/-- What turns no block but one that is not the box. -/
theorem Br.gb {w w' : World} {b g : Nat} {r c : Int} {v : Value} (h : Br w b r c v) (hg : w.grownBy w' (some g)) (hne : b ≠ g) : Br w' b r c v := h.of_block (hg.block b h.lt (by simpa using hne))

set_option maxRecDepth 100000 in
theorem lead_any {w : World} {g r c a j cp k : Nat} {M : Mt} (hG : KB w g (r * c) (flat c M)) (hk : a + k = r) (hr : r ≤ 255) (hj : j < c) (hc : c ≤ 1000) (hcp : r * c ≤ cp) :
    Calls Try.prog 43 #[.agg #[.int .i64 r, .int .i64 c, .slice (some ⟨g, 0, none⟩) (r * c) cp], .int .i64 a, .int .i64 j] w fun e w' =>
      e = .returned (.int .i64 (match lead M j k a with | none => -1 | some n => (n : Int))) ∧ Below w.heap.size w w' := by
  have hNN : r * c ≤ 255 * 1000 := Nat.mul_le_mul hr hc
  obtain ⟨res, hres⟩ : ∃ res : Int, res = (match lead M j k a with | none => -1 | some n => (n : Int)) := ⟨_, rfl⟩
  rw [← hres]
  have QN : Hid (∀ i, i < r → i * c + j < r * c) := fun i hi => at_lt hi hj
  have X1 := Br.new w r c (.slice (some ⟨g, 0, none⟩) (r * c) cp)
  have G1 := hG.alloc (.cells #[.int .i64 r, .int .i64 c, .slice (some ⟨g, 0, none⟩) (r * c) cp] 29)
  have L1 := below_alloc (Below.refl w.heap.size w) (.cells #[.int .i64 r, .int .i64 c, .slice (some ⟨g, 0, none⟩) (r * c) cp] 29)
  generalize r * c = N at *
  have HR := hide hres
  have HI := hide (show KB _ g N (flat c M) ∧ Br _ w.heap.size r c _ ∧ Below w.heap.size w _ from ⟨G1, X1, L1⟩)
  have hgl := hG.lt
  clear hres G1 X1 L1 hG
  go_enter Try.func43, Try.ntmps43
  go_wp2
  go_loopw [7] (fun z wr => ∃ i : Nat, i ≤ k ∧ z = .int .i64 ((a + i : Nat) : Int) ∧ lead M j k a = lead M j (k - i) (a + i) ∧ KB wr g N (flat c M) ∧ Br wr w.heap.size r c (.slice (some ⟨g, 0, none⟩) N cp) ∧ Below w.heap.size w wr) (fun z _ => r - (intOf z).toNat)
  case atStart => exact ⟨0, Nat.zero_le _, rfl, rfl, HI.out⟩
  case round =>
    obtain ⟨i, hi, rfl, hl, KG, XB, LL⟩ := hrel
    clear HI
    obtain ⟨ai, hai⟩ : ∃ ai, ai = a + i := ⟨_, rfl⟩
    rw [← hai] at hl ⊢
    have x0 := XB.cell0
    have x1 := XB.cell1
    have x2 := XB.cell2
    by_cases hlt : i < k
    · have hair : ai < r := by omega
      have hai1 : ai + 1 = a + (i + 1) := by omega
      have HA1 := hide hai1
      have HAI := hide hai
      clear hai hai1
      obtain ⟨d, hd⟩ : ∃ d, k - i = d + 1 := ⟨k - i - 1, by omega⟩
      rw [hd, Go.Proofs.Ythedeggggbdibaa.lead] at hl
      have AT : Hid _ := at_any (r := (r : Int)) (c := c) (i := ai) (j := j) (KG.nx (f := g + 1) (c := cp) hcp (by omega)) rfl (QN.out ai hair) (by have := QN.out ai hair; omega) (by omega)
      rw [show (((flat c M (ai * c + j)).v : Nat) : Int) = (((M ai j).v : Nat) : Int) by rw [flat, div_at hj, mod_at hj]] at AT
      have b1 : (ai : Int) < (r : Int) := by omega
      by_cases hz : M ai j = 0
      · rw [if_neg (by simp [hz])] at hl
        have hv : ((((M ai j).v : Nat) : Int) != 0) = false := by rw [hz]; rfl
        have HL := hide hl
        have HK := hide KG
        have HX := hide XB
        have HB := hide LL
        clear hl hz KG XB LL
        generalize M ai j = mij at *
        go_wp2_with fail
        refine Calls.mono AT.out ?_
        rintro e w1 ⟨rfl, q1⟩
        have HI := hide (show KB w1 g N (flat c M) ∧ Br w1 w.heap.size r c _ ∧ Below w.heap.size w w1 from ⟨HK.out.below q1 (Nat.le_refl _), HX.out.below q1 (Nat.le_refl _), below_step HB.out q1⟩)
        clear HK HX HB q1 AT x0 x1 x2
        go_wp2
        exact ⟨⟨i + 1, by omega, by rw [← HA1.out]; go_num, by rw [HL.out, show k - (i + 1) = d by omega, HA1.out], HI.out⟩, by simp [intOf]; omega⟩
      · rw [if_pos hz] at hl
        have hv : ((((M ai j).v : Nat) : Int) != 0) = true := by have := K.v_ne hz; simp; omega
        have HL : Hid (res = (ai : Int)) := by show _ = _; rw [HR.out, hl]
        have HB := hide LL
        clear hl hz KG XB LL HR
        generalize M ai j = mij at *
        go_wp2_with fail
        refine Calls.mono AT.out ?_
        rintro e w1 ⟨rfl, q1⟩
        go_wp2
        go_ret
        exact ⟨by rw [HL.out]; rfl, below_step HB.out q1⟩
    · obtain rfl : i = k := by omega
      have HL : Hid (res = -1) := by show _ = _; rw [HR.out, hl, Nat.sub_self]; rfl
      have HB := hide LL
      have b1 : ¬ (ai : Int) < (r : Int) := by omega
      clear hl KG XB LL HR hai
      go_wp2
      go_ret
      exact ⟨by rw [HL.out]; rfl, HB.out⟩
end Go.Proofs.Ythedeggggbdibaa
