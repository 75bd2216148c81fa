/-
  Lookup: those with a greater first byte.
-/
import Derived.Test.YtkcefdiiibbflaaLuDrop2
import Derived.Test.YtkcefdiiibbflaaLuSorted
import Derived.Test.YtkcefdiiibbflaaLuChk
namespace Go.Proofs.Ytkcefdiiibbflaa
open Go.RowKit Go.Lib
/-- A byte in a block of its own. -/
def SBB (w : World) (b n : Nat) : Prop := w.heap[b]? = some (.cells #[.int .u8 (n : Int)] 5 (0, 0))
theorem SBB.bel {w w' : World} {b n : Nat} (h : SBB w b n) (hb : Below w.heap.size w w') : SBB w' b n := (hb.block b (lt_of_block h)).trans h
set_option maxRecDepth 100000 in
set_option maxHeartbeats 1600000 in
theorem add1_any {W : World} {b n : Nat} (x : IT) (hx : 0 < x.id.size) (h : SBB W b n) : Calls Try.prog 24 #[.agg (it6 x).toArray, .pointer (some ⟨b, 0, none⟩)] W fun e w' => e = .returned (.bool (decide (n < fb x))) ∧ Below W.heap.size W w' := by
  obtain ⟨U, hU⟩ : ∃ U, U = W.alloc (.cells (it6 x).toArray 25) := ⟨_, rfl⟩
  obtain ⟨z, hz⟩ : ∃ z, z = W.heap.size := ⟨_, rfl⟩
  have hB : Below W.heap.size W U := by rw [hU]; exact (Below.refl _ _).alloc (Nat.le_refl _) _
  have k0 : SBI U z x := by rw [hU, hz]; exact heap_alloc_new W _
  have k1 := (cell1 (SBB.bel h hB)).1
  obtain ⟨x0, x1, x2, x3, x4, x5⟩ := c6_of k0
  have hix := fun w => qb_run hx w
  have hfb : qb x.id = fb x := rfl
  rw [hfb] at hix
  have hd : decide ((n : Int) < (fb x : Int)) = decide (n < fb x) := decide_eq_decide.2 (by omega)
  have HD := hide hd
  generalize fb x = m at *
  have HU := hide hU
  have HZ := hide hz
  have HB := hide hB
  simp only [it6] at HU
  simp only [it6]
  clear hU hz hB k0 h hd hfb
  go_enter Try.func24, Try.ntmps24
  go_upto_region 1 with fail
  rw [← HU.out, ← HZ.out]
  go_quiet (fail)
  generalize hU2 : World.drewN U _ = U2
  have HE : Hid (Below W.heap.size W U2) := by rw [← hU2]; exact hide (below_step HB.out (below_dq _ _))
  clear hU2
  go_wp2
  go_ret
  exact ⟨by rw [← HD.out]; rfl, HE.out⟩
end Go.Proofs.Ytkcefdiiibbflaa
