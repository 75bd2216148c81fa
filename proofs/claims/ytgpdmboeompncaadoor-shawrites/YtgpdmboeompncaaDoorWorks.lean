/-
  The contract of the chapter's example.
-/
import Derived.Test.YtgpdmboeompncaaDoorHex
namespace Go.Proofs.YtgpdmboeompncaaDoor
open Go.RowKit Go.Lib

def abcHex : ByteArray := strOf (hexOf (digest [97, 98, 99]))
theorem abcHex_size : abcHex.size = 64 := by rw [abcHex, strOf_size, hexOf_length, digest_length]
theorem abcHex_head : abcHex.extract 0 8 = ⟨#[98, 97, 55, 56, 49, 54, 98, 102]⟩ := by kernel_rfl

/-- Texts in a new block. -/
theorem pieces_new (w : World) (ps : List ByteArray) : Pieces (w.alloc (.cells (ps.map Value.string).toArray 9)) (.slice (some ⟨w.heap.size, 0, none⟩) ps.length ps.length) ps := by
  refine ⟨_, _, rfl, .inr ⟨_, _, rfl, by simp, fun k hk => ?_⟩⟩
  rw [Nat.zero_add, cell_of_row _ _ k _ 9 (0, 0) (heap_alloc_new w _)]
  simp [List.getElem?_eq_getElem hk]

set_option maxHeartbeats 800000 in
set_option maxRecDepth 100000 in
theorem works_any {w : World} (hL : Laid w) :
    Calls Tryd.prog 9 #[] w fun e w' => e = .returned (.bool true) ∧ Below w.heap.size w w' := by
  have hsz := hL.size
  go_enter Tryd.func9, Tryd.ntmps9
  go_wp2_with fail
  have hb1 : Below w.heap.size w (w.alloc (.cells #[.string ⟨#[97, 98, 99]⟩] 9)) := (Below.refl _ _).alloc (Nat.le_refl _) _
  refine (sum_any (ps := [⟨#[97, 98, 99]⟩]) (hL.below hb1 hsz) (pieces_new w [⟨#[97, 98, 99]⟩]) (by simp) (by decide)).mono ?_
  rintro e w1 ⟨rfl, hb2⟩
  go_wp2_with fail
  refine (hex_any _ (by rw [strOf_size, digest_length]; decide)).mono ?_
  rintro e w2 ⟨rfl, hb3⟩
  have hbw : Below w.heap.size w w2 := hb1.trans ((hb2.mono hb1.size).trans (hb3.mono (Nat.le_trans hb1.size hb2.size)))
  have e1 : strOf (hexOf (strOf (digest (joined [⟨#[97, 98, 99]⟩]))).data.toList) = abcHex := by rw [strOf_toList]; rfl
  have hz := abcHex_size
  have hh := abcHex_head
  rw [e1]
  generalize hS : abcHex = S at *
  have HS : Hid _ := hS
  clear hb1 hb2 hb3 e1 hS
  go_wp2_with fail
  have hb4 : Below w2.heap.size w2 (w2.alloc (.cells #[.string ⟨#[97]⟩, .string ⟨#[]⟩, .string ⟨#[98, 99]⟩] 9)) := (Below.refl _ _).alloc (Nat.le_refl _) _
  refine (sum_any (ps := [⟨#[97]⟩, ⟨#[]⟩, ⟨#[98, 99]⟩]) (hL.below (hbw.trans (hb4.mono hbw.size)) hsz) (pieces_new w2 [⟨#[97]⟩, ⟨#[]⟩, ⟨#[98, 99]⟩]) (by simp) (by decide)).mono ?_
  rintro e w3 ⟨rfl, hb5⟩
  go_wp2_with fail
  refine (hex_any _ (by rw [strOf_size, digest_length]; decide)).mono ?_
  rintro e w4 ⟨rfl, hb6⟩
  have e2 : strOf (hexOf (strOf (digest (joined [⟨#[97]⟩, ⟨#[]⟩, ⟨#[98, 99]⟩]))).data.toList) = S := by rw [strOf_toList, ← HS.out]; rfl
  have hfin : Below w.heap.size w w4 := hbw.trans ((hb4.mono hbw.size).trans ((hb5.mono (Nat.le_trans hbw.size hb4.size)).trans (hb6.mono (Nat.le_trans hbw.size (Nat.le_trans hb4.size hb5.size)))))
  rw [e2]
  clear hb4 hb5 hb6 e2
  go_wp2
  go_ret
  exact ⟨rfl, hfin⟩
end Go.Proofs.YtgpdmboeompncaaDoor
