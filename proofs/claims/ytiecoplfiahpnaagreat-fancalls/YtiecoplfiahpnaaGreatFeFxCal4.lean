/-
  Fan: FanCalls: what was put.
-/
import Derived.Test.YtiecoplfiahpnaaGreatFeFxCal3
namespace Go.Proofs.YtiecoplfiahpnaaGreat
open Go.RowKit Go.Lib Go.Maps
section
variable {w w' W V : World} {b kb : Nat} {io : Value} {nn : Int} {nm : ByteArray} {dv v1 v2 v3 v4 v5 : Value} {p R r : Nat → Prop} {P : Nat → Prop} {np : Nat} {A A1 A2 A3 : List RR} {X : List (RR × Value)} {ds : List ByteArray}
/-- What the work asks behind its puts. -/
def restQ (nm : ByteArray) (nn : Int) : List QT := aq 2 nm ⟨#[]⟩ (nst nn) ++ (aq 3 nm ⟨#[]⟩ (nst nn) ++ aq 4 nm ⟨#[]⟩ (nst nn))
set_option maxRecDepth 100000 in
set_option maxHeartbeats 3200000 in
theorem kc_put9 (hC : CB w kb (.pointer (some ⟨b, 0, none⟩)) nn nm dv v1 v2 v3 v4 v5) (hbl : b < w.heap.size) (hkb : kb ≠ b) :
    KC 49 #[.pointer (some ⟨kb, 0, none⟩)] #[] b (FC b kb nn nm dv np (nst nn)) np (restQ nm nn) [] (fun i => i = kb) (fun i => i = kb) w := by
  intro W cv A r hS hJ hL hA hI hr
  rw [List.nil_append] at hI ⊢
  show Calls Tryz.prog 49 #[.pointer (some ⟨kb, 0, none⟩), cv] W _
  have hkl := hC.lt
  have hWs := hS.1
  have hCW : CB W kb (.pointer (some ⟨b, 0, none⟩)) nn nm dv v1 v2 v3 v4 v5 := (hS.2 kb rfl hC.lt).trans hC
  have hs := store1_run (t := 49) hCW (j := 4) (v := cv) (Nat.le_of_ble_eq_true rfl) Tryz.sizeAc (by obtain ⟨a, c, e⟩ := hL.shp; exact ⟨a, _, c, e⟩)
  obtain ⟨U, hU⟩ : ∃ U, U = W.setCell ⟨kb, 4, none⟩ cv := ⟨_, rfl⟩
  have hCD : CB U.drew kb (.pointer (some ⟨b, 0, none⟩)) nn nm dv cv v2 v3 v4 v5 := by rw [hU]; exact heap_set_self hCW
  have hGU : Gs (fun i => i = kb) W U := by rw [hU]; exact (Gs.refl _ _).set1 _ _
  rw [← hU] at hs
  have hGD : Gs (fun i => i = kb) W U.drew := ⟨hGU.os, hGU.tape, hGU.output, hGU.size, hGU.block⟩
  have hUs : W.heap.size ≤ U.drew.heap.size := hGD.size
  have hJU := hJ.gs hGD (fun e => hkb e.symm)
  have hrk : ∀ i, r i → ¬ i = kb := fun i h => by have := (hr i h).1; omega
  have hrb : ∀ i, r i → ¬ i = b := fun i h => by have := (hr i h).1; omega
  have hjl : (([] : List RR).length + np : Nat) = A.length := by rw [hA]; simp
  rw [hjl] at hJU
  have HD := hide (gets_any (nm := nm) (rest := aq 3 nm ⟨#[]⟩ (nst nn) ++ aq 4 nm ⟨#[]⟩ (nst nn)) (A0 := A) ent_got hJU nn hI
    (ko_got (R := r) hCD (by omega) hkb (fun h => hrk _ h rfl) (fun h => hrb _ h rfl) (fun i h => by have := (hr i h).2; omega) (hL.gs hGD hrk) hA)
    (by rintro (h | h); exact hkb h.symm; exact hrb _ h rfl) (fun i h => .inl h) (by
        rintro i (h | h)
        · omega
        · have := (hr i h).2; omega))
  have HG : Hid (Gs (fun i => i = b ∨ i = kb) W U.drew) := hGD.mono fun i _ e => .inr e
  have y0 : U.drew.cell? ⟨kb, 0, none⟩ = some (.pointer (some ⟨b, 0, none⟩)) := hCD.cell 0
  have y1 : U.drew.cell? ⟨kb, 1, none⟩ = some (.int .i64 nn) := hCD.cell 1
  have y2 : U.drew.cell? ⟨kb, 2, none⟩ = some (.string nm) := hCD.cell 2
  have hmf : ∀ (fn : Fn) (first cap : Array Value) (w : World), (Instr.makeFunc fn first cap).run Tryz.prog w = .ok (.func fn first cap) w := fun _ _ _ _ => rfl
  clear hJ hL hA hI hr hS hkl hWs hCW hGU hUs hJU hU hCD hGD hC hbl hkb hrk hrb hjl
  unfold restQ
  go_enter Tryz.func49, Tryz.ntmps49
  go_wp2_with (refine wpList_store_run rfl 49 _ _ rfl _ _ rfl rfl hs ?_)
  go_region_with (go_at_call 62; refine HD.out.mono ?_; rintro er w7 ⟨rfl, hP⟩)
  all_goals (
    have HF := hide (hP.kp HG.out (r := r) (e := fun i => i = kb) (by
      rintro i (h | h)
      · exact .inl h
      · exact .inr h))
    clear hP
    first
      | (go_end0; exact ⟨rfl, HF.out⟩)
      | (go_wp2; go_end0; exact ⟨rfl, HF.out⟩))
theorem ent_put9 : Ent 49 := ent_of Tryz.func49 (by kernel_rfl) rfl
end
end Go.Proofs.YtiecoplfiahpnaaGreat
