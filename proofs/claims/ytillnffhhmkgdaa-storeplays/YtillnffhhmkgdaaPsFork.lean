/-
  The program's store: Fork.
-/
import Derived.Test.YtillnffhhmkgdaaPsRest
namespace Go.Proofs.Ytillnffhhmkgdaa
open Go.RowKit Go.Lib Go.Maps

section
variable {w : World} {b mb : Nat} {q f : Int} {dn : Bool} {cl : Int} {L : List OB}
theorem PS.five (h : PS w b mb q f dn cl L) : w.cell? ⟨b, 0, none⟩ = some (.map (some mb)) ∧ w.cell? ⟨b, 1, none⟩ = some (.int .i64 ((usedL L : Nat) : Int)) ∧ w.cell? ⟨b, 2, none⟩ = some (.int .i64 q) ∧ w.cell? ⟨b, 3, none⟩ = some (.int .i64 f) ∧ w.cell? ⟨b, 4, none⟩ = some (.bool dn) := ⟨h.cell0, h.cell1, h.cell2, h.cell3, h.cell4⟩

set_option maxRecDepth 100000 in
set_option maxHeartbeats 3200000 in
theorem fork_any (hP : PS w b mb q f dn cl L) :
    Calls Try.prog 30 #[.pointer (some ⟨b, 0, none⟩)] w fun e w' => ∃ fb fm, e = .returned (.pointer (some ⟨fb, 0, none⟩)) ∧ w.heap.size ≤ fb ∧ w.heap.size ≤ fm ∧ PS w' fb fm q f dn cl L ∧ Below w.heap.size w w' := by
  obtain ⟨u, hu⟩ : ∃ u, u = usedL L := ⟨_, rfl⟩
  have HU := hide hu
  have HFV : Hid (∀ w1, PS w1 b mb q f dn cl L → w1.cell? ⟨b, 0, none⟩ = some (.map (some mb)) ∧ w1.cell? ⟨b, 1, none⟩ = some (.int .i64 (u : Int)) ∧ w1.cell? ⟨b, 2, none⟩ = some (.int .i64 q) ∧ w1.cell? ⟨b, 3, none⟩ = some (.int .i64 f) ∧ w1.cell? ⟨b, 4, none⟩ = some (.bool dn)) := fun w1 h => by rw [hu]; exact h.five
  have HCL : Hid (∀ w1, Hid (PS w1 b mb q f dn cl L ∧ Below w.heap.size w w1) → Calls Try.prog 44 #[.map (some mb)] w1 fun e w' => ∃ fm, e = .returned (.map (some fm)) ∧ Hid (w.heap.size ≤ fm ∧ MO w' fm L) ∧ Hid (PS w' b mb q f dn cl L ∧ Below w.heap.size w w') ∧ w'.cell? ⟨b, 0, none⟩ = some (.map (some mb)) ∧ w'.cell? ⟨b, 1, none⟩ = some (.int .i64 (u : Int)) ∧ w'.cell? ⟨b, 2, none⟩ = some (.int .i64 q) ∧ w'.cell? ⟨b, 3, none⟩ = some (.int .i64 f) ∧ w'.cell? ⟨b, 4, none⟩ = some (.bool dn)) := fun w1 h => by
    refine (clone_any h.out.1.map).mono ?_
    rintro e w' ⟨rfl, hm, hb⟩
    have hp := h.out.1.bel hb
    exact ⟨_, rfl, ⟨h.out.2.size, hm⟩, ⟨hp, h.out.2.trans (hb.mono h.out.2.size)⟩, HFV.out _ hp⟩
  have K1 : Hid (PS w.drew b mb q f dn cl L ∧ Below w.heap.size w w.drew) := ⟨hP.drew, (Below.refl _ _).drew⟩
  obtain ⟨x0, x1, x2, x3, x4⟩ := HFV.out _ K1.out.1
  clear hP hu
  go_enter Try.func30, Try.ntmps30
  go_upto_region 1 with fail
  go_region_held_law (fun wx => Hid (PS wx b mb q f dn cl L ∧ Below w.heap.size w wx) ∧ wx.cell? ⟨b, 0, none⟩ = some (.map (some mb)) ∧ wx.cell? ⟨b, 1, none⟩ = some (.int .i64 (u : Int)) ∧ wx.cell? ⟨b, 2, none⟩ = some (.int .i64 q) ∧ wx.cell? ⟨b, 3, none⟩ = some (.int .i64 f) ∧ wx.cell? ⟨b, 4, none⟩ = some (.bool dn))
    (first | with_reducible exact ⟨K1, x0, x1, x2, x3, x4⟩ | with_reducible exact ⟨k2, k3⟩ | (have hkk := k2.out.1.bel ((Below.refl _ _).alloc (Nat.le_refl _) (.cells #[.map (some fm), .int .i64 (u : Int), .int .i64 q, .int .i64 f, .bool dn, .int .i64 0] 58)); with_reducible exact ⟨hide (And.intro hkk (k2.out.2.alloc k2.out.2.size _)), HFV.out _ hkk⟩))
    (first | (go_at_call 44; refine (HCL.out _ (by first | assumption | exact K1)).mono ?_; rintro e w1 ⟨fm, rfl, k1, k2, k3⟩))
  obtain ⟨U, hU⟩ : ∃ U, U = w1.alloc (.cells #[.map (some fm), .int .i64 (u : Int), .int .i64 q, .int .i64 f, .bool dn, .int .i64 0] 58) := ⟨_, rfl⟩
  obtain ⟨fb, hfb⟩ : ∃ fb, fb = w1.heap.size := ⟨_, rfl⟩
  rw [← hU, ← hfb]
  have hbU : Below w1.heap.size w1 U := by rw [hU]; exact (Below.refl _ _).alloc (Nat.le_refl _) _
  have hPU := k2.out.1.bel hbU
  have hPF : PS U fb fm q f dn 0 L := ⟨by rw [hU, hfb, ← HU.out]; exact heap_alloc_new _ _, k1.out.2.below hbU k1.out.2.lt, hPU.ris, hPU.small⟩
  have HLD : Hid _ := hide (load_any hPU.drew.cell5)
  have HST : Hid _ := hide (store_any cl hPF.drew.cell5 (hPF.drew.free 5))
  have HF : Hid (PS (U.drew.setCell ⟨fb, 5, none⟩ (.int .i64 cl)) fb fm q f dn cl L ∧ Below w.heap.size w (U.drew.setCell ⟨fb, 5, none⟩ (.int .i64 cl)) ∧ w.heap.size ≤ fb ∧ w.heap.size ≤ fm) :=
    ⟨hPF.drew.set5 cl, ((k2.out.2.trans (hbU.mono k2.out.2.size)).drew).setCell (p := ⟨fb, 5, none⟩) (by rw [hfb]; exact k2.out.2.size) _, by rw [hfb]; exact k2.out.2.size, k1.out.1⟩
  clear k1 k2 k3 K1 x0 x1 x2 x3 x4 hU hfb hbU hPU hPF
  go_upto_region 2 with fail
  go_region_law (first | (go_simp; go_at_call 32; refine HLD.out.mono ?_; rintro e wz ⟨rfl, hwz⟩; subst wz; dsimp only) | (go_simp; go_at_call 45; refine HST.out.mono ?_; rintro e wz ⟨rfl, hwz⟩; subst wz; dsimp only))
  go_wp2
  go_ret
  exact ⟨_, _, rfl, HF.out.2.2.1, HF.out.2.2.2, HF.out.1, HF.out.2.1⟩
end
end Go.Proofs.Ytillnffhhmkgdaa
