/-
  Fan: FanCalls: what was got; what was put; the beginning.
-/
import Derived.Test.YtiecoplfiahpnaaGreatFeFxCal2
namespace Go.Proofs.YtiecoplfiahpnaaGreat
open Go.RowKit Go.Lib Go.Maps
section
variable {w w' W V : World} {b kb : Nat} {io : Value} {nn : Int} {nm : ByteArray} {dv v1 v2 v3 v4 v5 : Value} {p R r : Nat → Prop} {P : Nat → Prop} {np : Nat} {A A1 A2 A3 : List RR} {X : List (RR × Value)} {ds : List ByteArray}
set_option maxRecDepth 100000 in
set_option maxHeartbeats 3200000 in
theorem ko_got (hC : CB w kb (.pointer (some ⟨b, 0, none⟩)) nn nm dv v1 v2 v3 v4 v5) (hbl : b < w.heap.size) (hkb : kb ≠ b) (hRk : ¬ R kb) (hRb : ¬ R b) (hRl : ∀ i, R i → i < w.heap.size) (h1 : LS c1 1 R w v1 (A1.map (·.c))) (l1 : A1.length = np) :
    KO 82 #[.pointer (some ⟨kb, 0, none⟩)] #[] b (FC b kb nn nm dv np (nst nn)) (nst nn) (aq 3 nm ⟨#[]⟩ (nst nn) ++ aq 4 nm ⟨#[]⟩ (nst nn)) A1 (fun i => i = kb ∨ R i) (fun i => i = kb) w := by
  intro W av X r hS hJ hL hN hXl hI hsm hr
  show Calls Tryz.prog 82 #[.pointer (some ⟨kb, 0, none⟩), av] W _
  have hkl := hC.lt
  have hWs := hS.1
  have hCW : CB W kb (.pointer (some ⟨b, 0, none⟩)) nn nm dv v1 v2 v3 v4 v5 := (hS.2 kb (.inl rfl) hC.lt).trans hC
  have kR : ∀ i, R i → i < w.heap.size → W.heap[i]? = w.heap[i]? := fun i hi hl => hS.2 i (.inr hi) hl
  have hs := store1_run (t := 50) hCW (j := 5) (v := av) (Nat.le_of_ble_eq_true rfl) Tryz.sizeAs (by obtain ⟨a, c, e⟩ := hL.shp; exact ⟨a, _, c, e⟩)
  obtain ⟨U, hU⟩ : ∃ U, U = W.setCell ⟨kb, 5, none⟩ av := ⟨_, rfl⟩
  have hCD : CB U.drew kb (.pointer (some ⟨b, 0, none⟩)) nn nm dv v1 av v3 v4 v5 := by rw [hU]; exact heap_set_self hCW
  have hGU : Gs (fun i => i = kb) W U := by rw [hU]; exact (Gs.refl _ _).set1 _ _
  rw [← hU] at hs
  have hGD : Gs (fun i => i = kb) W U.drew := ⟨hGU.os, hGU.tape, hGU.output, hGU.size, hGU.block⟩
  have hUs : W.heap.size ≤ U.drew.heap.size := hGD.size
  have hJU := hJ.gs hGD (fun e => hkb e.symm)
  have hsz : w.heap.size ≤ U.drew.heap.size := by omega
  have kU : ∀ i, R i → i < w.heap.size → U.drew.heap[i]? = w.heap[i]? := fun i hi hl => (hGD.block i (by omega) (fun e => hRk (e ▸ hi))).trans (kR i hi hl)
  have hrk : ∀ i, r i → ¬ i = kb := fun i h => by have := (hr i h).1; omega
  have hrb : ∀ i, r i → ¬ i = b := fun i h => by have := (hr i h).1; omega
  have hjl : (A1.length + nst nn : Nat) = (A1 ++ X.map (·.1)).length := by rw [List.length_append, List.length_map, hXl]
  rw [hjl] at hJU
  have HD := hide (lists_any (nm := nm) (rest := aq 4 nm ⟨#[]⟩ (nst nn)) (A0 := A1 ++ X.map (·.1)) ent_listed hJU nn hI
    (kn_listed (R := fun i => R i ∨ r i) hCD (by omega) hkb (by rintro (h | h); exact hRk h; exact hrk _ h rfl) (by rintro (h | h); exact hRb h; exact hrb _ h rfl) (by
        rintro i (h | h)
        · have := hRl i h; omega
        · have := (hr i h).2; omega) ((h1.kb hsz kU).mono fun i h => .inl h) ((hL.gs hGD hrk).mono fun i h => .inr h) rfl l1 (by rw [List.length_map]; exact hXl))
    (by rintro (h | h | h); exact hkb h.symm; exact hRb h; exact hrb _ h rfl) (fun i h => .inl h) (by
        rintro i (h | h | h)
        · omega
        · have := hRl i h; omega
        · have := (hr i h).2; omega))
  have HG : Hid (Gs (fun i => i = b ∨ i = kb) W U.drew) := hGD.mono fun i _ e => .inr e
  have y0 : U.drew.cell? ⟨kb, 0, none⟩ = some (.pointer (some ⟨b, 0, none⟩)) := hCD.cell 0
  have y1 : U.drew.cell? ⟨kb, 1, none⟩ = some (.int .i64 nn) := hCD.cell 1
  have y2 : U.drew.cell? ⟨kb, 2, none⟩ = some (.string nm) := hCD.cell 2
  have hmf : ∀ (fn : Fn) (first cap : Array Value) (w : World), (Instr.makeFunc fn first cap).run Tryz.prog w = .ok (.func fn first cap) w := fun _ _ _ _ => rfl
  clear hJ hL hN hXl hI hsm hr hS hkl hWs hCW kR hGU hUs hJU hU hCD hGD hC hbl hkb hRk hRb hRl h1 l1 hsz kU hrk hrb hjl
  go_enter Tryz.func82, Tryz.ntmps82
  go_wp2_with (refine wpList_store_run rfl 50 _ _ rfl _ _ rfl rfl hs ?_)
  go_region_with (go_at_call 69; refine HD.out.mono ?_; rintro er w7 ⟨rfl, hP⟩)
  all_goals (
    have HF := hide (hP.kp HG.out (r := r) (e := fun i => i = kb ∨ R i) (by
      rintro i (h | h | h)
      · exact .inl (.inl h)
      · exact .inl (.inr h)
      · exact .inr h))
    clear hP
    first
      | (go_end0; exact ⟨rfl, HF.out⟩)
      | (go_wp2; go_end0; exact ⟨rfl, HF.out⟩))
theorem ent_got : Ent 82 := ent_of Tryz.func82 (by kernel_rfl) rfl
end
end Go.Proofs.YtiecoplfiahpnaaGreat
