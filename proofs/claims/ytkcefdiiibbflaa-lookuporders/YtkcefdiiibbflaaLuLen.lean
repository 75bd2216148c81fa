/-
  Lookup: how many items; where those of an id are.
-/
import Derived.Test.YtkcefdiiibbflaaLuNew
import Derived.Deep.MidRow
namespace Go.Proofs.Ytkcefdiiibbflaa
open Go.RowKit Go.Lib
theorem Try.sizeTb : (Try.prog.info? 47).map (·.size) = some 256 := by kernel_rfl
theorem ix_any {vs : List Value} {j : Nat} {v : Value} (hv : vs[j]? = some v) (hj : j < 256) (w : World) : (Instr.index 47 (.agg vs.toArray) (.int .i64 (j : Int))).run Try.prog w = .ok v w := by
  have hu := Try.underlying47
  have hz := Try.sizeOf46
  have ha := Try.isAgg46
  simp [Instr.index, asIntOf, run_underlying hu, part, hz, ha, hv]
  intro h
  omega
theorem OW.len {v : Value} {l : List IT} {w : World} (h : OW it6 6 25 0 v l w) : ∃ a c, v = .slice a l.length c ∧ l.length ≤ c ∧ c ≤ maxLen := by
  obtain ⟨h1, ⟨rfl, h2⟩ | ⟨g, cap, cur, rfl, _, _, hn, hm, _⟩⟩ := h.own
  · rw [h2]; exact ⟨_, _, rfl, Nat.le_refl _, Nat.zero_le _⟩
  · exact ⟨_, _, rfl, hn, hm⟩
theorem range_of {w : World} {b : Nat} {vs : List Value} {T : TypeId} (h : w.heap[b]? = some (.cells vs.toArray T (0, 0))) : w.rangeAt b 0 vs := fun j v hv => by
  rw [Nat.zero_add, cell_of_row w b _ _ _ _ h]; simpa using hv
theorem fb_lt (x : IT) : fb x < 256 := by rw [fb]; exact UInt8.toNat_lt _
/-- How many are in the first so many lists. -/
def lenTo (L : List IT) (j : Nat) : Nat := (L.filter fun x => decide (fb x < j)).length
theorem lenTo_zero (L : List IT) : lenTo L 0 = 0 := by
  rw [lenTo, List.length_eq_zero_iff, List.filter_eq_nil_iff]
  simp
theorem lenTo_step (L : List IT) (j : Nat) : lenTo L (j + 1) = lenTo L j + (bkL L j).length := by
  induction L with
  | nil => rfl
  | cons x r ih =>
    simp only [lenTo, bkL, List.filter_cons] at ih ⊢
    by_cases h1 : fb x < j
    · have h2 : fb x < j + 1 := by omega
      have h3 : (fb x == j) = false := by simp; omega
      simp only [h1, h2, h3, decide_true, if_true, Bool.false_eq_true, if_false, List.length_cons]
      omega
    · by_cases h4 : fb x = j
      · have h2 : fb x < j + 1 := by omega
        have h3 : (fb x == j) = true := by simpa using h4
        simp only [h1, h2, h3, decide_true, decide_false, if_true, Bool.false_eq_true, if_false, List.length_cons]
        omega
      · have h2 : ¬ fb x < j + 1 := by omega
        have h3 : (fb x == j) = false := by simpa using h4
        simp only [h1, h2, h3, decide_false, Bool.false_eq_true, if_false]
        exact ih
theorem lenTo_all (L : List IT) : lenTo L 256 = L.length := by
  rw [lenTo, List.filter_eq_self.2 (fun x _ => by simpa using fb_lt x)]
theorem lenTo_le (L : List IT) (j : Nat) : lenTo L j ≤ L.length := List.length_filter_le _ _
set_option maxRecDepth 100000 in
set_option maxHeartbeats 1600000 in
theorem len_any {R : Nat → Prop} {w : World} {tb : Nat} {L : List IT} (h : TB R w tb L) (hn : L.length ≤ 1000000) :
    Calls Try.prog 29 #[.pointer (some ⟨tb, 0, none⟩)] w fun e w' => e = .returned (.int .i64 (L.length : Int)) ∧ w' = w := by
  obtain ⟨vs, h1, h2, h3, h4⟩ := h.ex
  have HV := hide h3
  have HL := hide h2
  have hr := range_of h1
  have hi : (Try.prog.info? 47).map (·.size) = some vs.length := by rw [h2]; exact Try.sizeTb
  have HN := hide hn
  clear h h1 h2 h3 h4 hn
  go_enter Try.func29, Try.ntmps29
  go_wp2_with (refine wpList_load_mid rfl 47 _ rfl tb 0 rfl vs _ hr Try.underlying47 rfl hi ?_)
  go_loopw [3, 10] (fun a b wr => ∃ (j : Nat), j ≤ 256 ∧ b = .int .i64 (j : Int) ∧ a = .int .i64 (lenTo L j : Nat) ∧ wr = w) (fun _ b _ => 256 - (RowKit.intOf b).toNat)
  case atStart => exact ⟨0, Nat.zero_le _, rfl, by rw [lenTo_zero]; rfl, rfl⟩
  case round =>
    obtain ⟨j, hj, rfl, rfl, hw⟩ := hrel
    subst hw
    by_cases hlt : j < 256
    · have b1 : (j : Int) < 256 := by omega
      have b0 : (0 : Int) ≤ (j : Int) := by omega
      obtain ⟨v, hv⟩ : ∃ v, vs[j]? = some v := ⟨_, List.getElem?_eq_getElem (by have := HL.out; omega)⟩
      obtain ⟨a, c, hvv, _⟩ := ((HV.out j v hv).1).len
      subst hvv
      have hs := lenTo_step L j
      have hle := lenTo_le L (j + 1)
      generalize lenTo L j = m at *
      generalize (bkL L j).length = q at *
      have HS := hide hs
      have hmq : m + q ≤ 1000000 := by have := HN.out; omega
      have hix := fun w => ix_any hv hlt w
      clear hs hle hr hv
      go_wp2
      exact ⟨⟨j + 1, by omega, by go_num, by rw [HS.out]; go_num, trivial⟩, by simp [RowKit.intOf]; omega⟩
    · obtain rfl : j = 256 := by omega
      have HE := hide (lenTo_all L)
      clear hr
      go_wp2
      go_ret
      exact ⟨by rw [← HE.out]; rfl, rfl⟩
end Go.Proofs.Ytkcefdiiibbflaa
