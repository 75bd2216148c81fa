/-
  Lookup: the items of an id; the first place.
-/
import Derived.Test.YtkcefdiiibbflaaLuLen
namespace Go.Proofs.Ytkcefdiiibbflaa
open Go.RowKit Go.Lib
/-- A text in a block of its own. -/
def SBT (w : World) (b : Nat) (s : ByteArray) : Prop := w.heap[b]? = some (.cells #[.string s] 9 (0, 0))
theorem SBT.bel {w w' : World} {b : Nat} {s : ByteArray} (h : SBT w b s) (hb : Below w.heap.size w w') : SBT w' b s := (hb.block b (lt_of_block h)).trans h
theorem cS_less (x y : ByteArray) : Op.bytesLess x.toList y.toList = decide (cS x y < 0) := by
  rw [bytes_list, bytes_list, cS]
  generalize x.data.toList = a
  generalize y.data.toList = b
  induction a generalizing b with
  | nil => cases b <;> simp [Op.bytesLess, compareBytes]
  | cons p a ih =>
    cases b with
    | nil => simp [Op.bytesLess, compareBytes]
    | cons q b =>
      rw [Op.bytesLess, compareBytes, ih]
      by_cases h1 : p < q
      · simp [h1]
      · by_cases h2 : q < p
        · have : p ≠ q := fun e => by subst e; exact h1 h2
          simp [h1, h2, this]
        · have : p = q := by
            apply UInt8.toNat.inj
            simp only [UInt8.lt_iff_toNat_lt] at h1 h2
            omega
          simp [this]
section
variable {w W : World} {b : Nat} {q : ByteArray}
set_option maxHeartbeats 1600000 in
theorem of1_any (x : IT) (h : SBT W b q) : Calls Try.prog 48 #[.agg (it6 x).toArray, .pointer (some ⟨b, 0, none⟩)] W fun e w' => e = .returned (.bool (!decide (cS x.id q < 0))) ∧ Below W.heap.size W w' := by
  obtain ⟨U, hU⟩ : ∃ U, U = W.alloc (.cells (it6 x).toArray 25) := ⟨_, rfl⟩
  obtain ⟨z, hz⟩ : ∃ z, z = W.heap.size := ⟨_, rfl⟩
  have hB : Below W.heap.size W U := by rw [hU]; exact (Below.refl _ _).alloc (Nat.le_refl _) _
  have k0 : SBI U z x := by rw [hU, hz]; exact heap_alloc_new W _
  have k1 := (cell1 (SBT.bel h hB)).1
  obtain ⟨x0, x1, x2, x3, x4, x5⟩ := c6_of k0
  have hl := cS_less x.id q
  have HU := hide hU
  have HZ := hide hz
  have HB := hide hB
  generalize decide (cS x.id q < 0) = t at hl ⊢
  simp only [it6] at HU
  simp only [it6]
  clear hU hz hB k0 h
  go_enter Try.func48, Try.ntmps48
  go_upto_region 1 with fail
  rw [← HU.out, ← HZ.out]
  go_wp2
  go_ret
  exact ⟨rfl, HB.out⟩
set_option maxHeartbeats 1600000 in
theorem of2_any (x : IT) (h : SBT W b q) : Calls Try.prog 49 #[.agg (it6 x).toArray, .pointer (some ⟨b, 0, none⟩)] W fun e w' => e = .returned (.bool (!decide (cS x.id q < 0) && !decide (x.id = q))) ∧ Below W.heap.size W w' := by
  obtain ⟨U, hU⟩ : ∃ U, U = W.alloc (.cells (it6 x).toArray 25) := ⟨_, rfl⟩
  obtain ⟨z, hz⟩ : ∃ z, z = W.heap.size := ⟨_, rfl⟩
  have hB : Below W.heap.size W U := by rw [hU]; exact (Below.refl _ _).alloc (Nat.le_refl _) _
  have k0 : SBI U z x := by rw [hU, hz]; exact heap_alloc_new W _
  have k1 := (cell1 (SBT.bel h hB)).1
  obtain ⟨x0, x1, x2, x3, x4, x5⟩ := c6_of k0
  have hl := cS_less x.id q
  have hl2 := test_eq x.id q
  have HU := hide hU
  have HZ := hide hz
  have HB := hide hB
  generalize decide (cS x.id q < 0) = t at hl ⊢
  generalize decide (x.id = q) = t2 at hl2 ⊢
  simp only [it6] at HU
  simp only [it6]
  clear hU hz hB k0 h
  go_enter Try.func49, Try.ntmps49
  go_upto_region 1 with fail
  rw [← HU.out, ← HZ.out]
  go_wp2
  go_ret
  exact ⟨rfl, HB.out⟩
set_option maxHeartbeats 1600000 in
theorem drop1_any (x : IT) (h : SBT W b q) : Calls Try.prog 31 #[.agg (it6 x).toArray, .pointer (some ⟨b, 0, none⟩)] W fun e w' => e = .returned (.bool (decide (x.pk = q))) ∧ Below W.heap.size W w' := by
  obtain ⟨U, hU⟩ : ∃ U, U = W.alloc (.cells (it6 x).toArray 25) := ⟨_, rfl⟩
  obtain ⟨z, hz⟩ : ∃ z, z = W.heap.size := ⟨_, rfl⟩
  have hB : Below W.heap.size W U := by rw [hU]; exact (Below.refl _ _).alloc (Nat.le_refl _) _
  have k0 : SBI U z x := by rw [hU, hz]; exact heap_alloc_new W _
  have k1 := (cell1 (SBT.bel h hB)).1
  obtain ⟨x0, x1, x2, x3, x4, x5⟩ := c6_of k0
  have hl2 := test_eq x.pk q
  have HU := hide hU
  have HZ := hide hz
  have HB := hide hB
  generalize decide (x.pk = q) = t2 at hl2 ⊢
  simp only [it6] at HU
  simp only [it6]
  clear hU hz hB k0 h
  go_enter Try.func31, Try.ntmps31
  go_upto_region 1 with fail
  rw [← HU.out, ← HZ.out]
  go_wp2
  go_ret
  exact ⟨rfl, HB.out⟩
theorem of1_pr (b : Nat) (q : ByteArray) : PR (.func (.func 48) #[] #[.pointer (some ⟨b, 0, none⟩)]) (fun x => !decide (cS x.id q < 0)) (fun w => SBT w b q) :=
  ⟨⟨_, _, _, rfl, enters_of Try.func48 (by kernel_rfl) rfl, fun x _ hK => of1_any x hK⟩, fun _ _ h hb => SBT.bel h hb⟩
theorem of2_pr (b : Nat) (q : ByteArray) : PR (.func (.func 49) #[] #[.pointer (some ⟨b, 0, none⟩)]) (fun x => !decide (cS x.id q < 0) && !decide (x.id = q)) (fun w => SBT w b q) :=
  ⟨⟨_, _, _, rfl, enters_of Try.func49 (by kernel_rfl) rfl, fun x _ hK => of2_any x hK⟩, fun _ _ h hb => SBT.bel h hb⟩
theorem drop1_pr (b : Nat) (q : ByteArray) : PR (.func (.func 31) #[] #[.pointer (some ⟨b, 0, none⟩)]) (fun x => decide (x.pk = q)) (fun w => SBT w b q) :=
  ⟨⟨_, _, _, rfl, enters_of Try.func31 (by kernel_rfl) rfl, fun x _ hK => drop1_any x hK⟩, fun _ _ h hb => SBT.bel h hb⟩
end
end Go.Proofs.Ytkcefdiiibbflaa
