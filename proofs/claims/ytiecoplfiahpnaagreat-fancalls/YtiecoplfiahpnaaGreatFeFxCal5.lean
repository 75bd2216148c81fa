/-
  Fan: FanCalls: the work begins; its job.
-/
import Derived.Test.YtiecoplfiahpnaaGreatFeFxCal4
namespace Go.Proofs.YtiecoplfiahpnaaGreat
open Go.RowKit Go.Lib Go.Maps
section
variable {w w' W V : World} {b kb : Nat} {io : Value} {nn : Int} {nm : ByteArray} {dv v1 v2 v3 v4 v5 : Value} {p R r : Nat → Prop} {P : Nat → Prop} {ds : List ByteArray}
set_option maxRecDepth 100000 in
set_option maxHeartbeats 3200000 in
theorem begin_any (hC : CB w kb (.pointer none) nn nm dv v1 v2 v3 v4 v5) (hkb : kb ≠ b) (hJ : JB w b true 0 0 ⟨#[]⟩ ⟨#[]⟩ .nilFunc 0 0 (.slice none 0 0) (.slice none 0 0) 0) (hd : LS t1 1 r w dv ds) (hrk : ¬ r kb) :
    Calls Tryz.prog 19 #[.pointer (some ⟨kb, 0, none⟩), .pointer (some ⟨b, 0, none⟩)] w fun er w' => er = .returned (.tuple #[]) ∧ RDY b (fun w2 => ∃ P', JJ b (FC b kb nn nm dv (pqn nm ds).length (nst nn)) (pqn nm ds ++ restQ nm nn) [] P' w2 ∧ Gs (fun i => i = b ∨ i = kb) w w2 ∧ ∀ i, P' i → i = b ∨ i = kb ∨ w.heap.size ≤ i) w' := by
  have hkl := hC.lt
  have hbl := hJ.lt
  obtain ⟨U, hU⟩ : ∃ U, U = w.setCell ⟨kb, 0, none⟩ (.pointer (some ⟨b, 0, none⟩)) := ⟨_, rfl⟩
  have x0 : w.cell? ⟨kb, 0, none⟩ = some (.pointer none) := hC.cell 0
  have f0 : w.frozen? ⟨kb, 0, none⟩ = false := by simp [World.frozen?, show w.heap[kb]? = _ from hC]
  have hCD : CB U.drew kb (.pointer (some ⟨b, 0, none⟩)) nn nm dv v1 v2 v3 v4 v5 := by rw [hU]; exact heap_set_self hC
  have hGU : Gs (fun i => i = kb) w U := by rw [hU]; exact (Gs.refl _ _).set1 _ _
  have hGD : Gs (fun i => i = kb) w U.drew := ⟨hGU.os, hGU.tape, hGU.output, hGU.size, hGU.block⟩
  have hUs : w.heap.size ≤ U.drew.heap.size := hGD.size
  have hJU := hJ.gs hGD (fun e => hkb e.symm)
  have HD := hide (puts_any (nm := nm) (rest := restQ nm nn) (A0 := []) ent_put9 hJU (hd.gs hGD fun i hi e => hrk (e ▸ hi)) (by simp [resI])
    (kc_put9 (np := (pqn nm ds).length) hCD (by omega) hkb)
    (fun h => hkb h.symm) (fun i h => h) (fun i h => by omega))
  have HG : Hid (Gs (fun i => i = b ∨ i = kb) w U.drew) := hGD.mono fun i _ e => .inr e
  have y2 : U.drew.cell? ⟨kb, 2, none⟩ = some (.string nm) := hCD.cell 2
  have y3 : U.drew.cell? ⟨kb, 3, none⟩ = some dv := hCD.cell 3
  have hmf : ∀ (fn : Fn) (first cap : Array Value) (w : World), (Instr.makeFunc fn first cap).run Tryz.prog w = .ok (.func fn first cap) w := fun _ _ _ _ => rfl
  have HU := hide hU
  have HS := hide hd.shp
  obtain ⟨da, dc, e⟩ := HS.out
  subst e
  clear hJ hkl hGU hUs hJU hCD hGD hC hbl hkb hd hrk HS hU
  generalize ds.length = N at *
  go_enter Tryz.func19, Tryz.ntmps19
  go_upto_region 1 with fail
  rw [← HU.out]
  go_region_with (go_at_call 48; refine HD.out.mono ?_; rintro er w7 ⟨rfl, hP⟩)
  all_goals (
    have HF := hide (hP.kp HG.out (r := fun _ => False) (e := fun i => i = kb) (fun i h => .inl h))
    clear hP
    first
      | (go_end0; exact ⟨rfl, HF.out.2.mono fun w2 ⟨P', h1, h2, h3⟩ => ⟨P', h1, h2, fun i hi => by rcases h3 i hi with h | h | h | h; exact .inl h; exact .inr (.inl h); exact h.elim; exact .inr (.inr h)⟩⟩)
      | (go_wp2; go_end0; exact ⟨rfl, HF.out.2.mono fun w2 ⟨P', h1, h2, h3⟩ => ⟨P', h1, h2, fun i hi => by rcases h3 i hi with h | h | h | h; exact .inl h; exact .inr (.inl h); exact h.elim; exact .inr (.inr h)⟩⟩))
theorem ent_begin : Ent 19 := ent_of Tryz.func19 (by kernel_rfl) rfl
/-- The work's job is made. -/
theorem start_calls (hC : CB w kb (.pointer none) nn nm dv v1 v2 v3 v4 v5) (hd : LS t1 1 r w dv ds) (hrk : ¬ r kb) :
    Calls Tryz.prog 18 #[.func (.func 19) #[.pointer (some ⟨kb, 0, none⟩)] #[]] w fun e w' => e = .returned (.pointer (some ⟨w.heap.size, 0, none⟩)) ∧ ∃ P, JJ w.heap.size (FC w.heap.size kb nn nm dv (pqn nm ds).length (nst nn)) (pqn nm ds ++ restQ nm nn) [] P w' ∧ Gs (fun i => i = kb) w w' ∧ ∀ i, P i → i = kb ∨ w.heap.size ≤ i := by
  have hkl := hC.lt
  refine start_any ent_begin (Q := fun w' => ∃ P, JJ w.heap.size (FC w.heap.size kb nn nm dv (pqn nm ds).length (nst nn)) (pqn nm ds ++ restQ nm nn) [] P w' ∧ Gs (fun i => i = kb) w w' ∧ ∀ i, P i → i = kb ∨ w.heap.size ≤ i) ?_
  intro V hJ hB
  have hVs := hB.size
  show Calls Tryz.prog 19 #[.pointer (some ⟨kb, 0, none⟩), .pointer (some ⟨w.heap.size, 0, none⟩)] V _
  refine (begin_any ((hB.block kb hkl).trans hC) (by omega) hJ (hd.bel hB) hrk).mono ?_
  rintro e w' ⟨rfl, hR⟩
  refine ⟨rfl, hR.mono ?_⟩
  rintro w2 ⟨P', h1, h2, h3⟩
  refine ⟨P', h1, (Gs.of_below _ hB).tr2 h2 fun i hi e => ?_, fun i hi => ?_⟩
  · rcases e with e | e
    · omega
    · exact e
  · rcases h3 i hi with h | h | h
    · exact .inr (by omega)
    · exact .inl h
    · exact .inr (by omega)
end
end Go.Proofs.YtiecoplfiahpnaaGreat
