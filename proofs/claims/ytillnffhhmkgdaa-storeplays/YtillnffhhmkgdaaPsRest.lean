/-
  The program's store: Set, Torn, Down, Calls, Fork.
-/
import Derived.Test.YtillnffhhmkgdaaLsKit
import Derived.Laws.Externs
import Derived.Shelf.SlMaps.Clone
namespace Go.Proofs.Ytillnffhhmkgdaa
open Go.RowKit Go.Lib Go.Maps

/-- What is there behind a Set. -/
def setL (n d : ByteArray) (L : List OB) : List OB := if fcode n d = 0 then layL L n d else L
/-- What Torn answers, and leaves. -/
def tcode (k : Int) (n d : ByteArray) : Int := if k = 1 then fcode n d else 3
def tornL (k : Int) (n d : ByteArray) (kp : Int) (L : List OB) : List OB := if tcode k n d = 0 ∧ 0 ≤ kp then layL L n (d.extract 0 (min kp d.size).toNat) else L
theorem fcode_zero {n d : ByteArray} (h : fcode n d = 0) : mayB n = true ∧ d.size ≤ 131072 := by
  unfold fcode at h
  split at h
  · split at h
    · constructor <;> assumption
    · omega
  · omega
section
variable {w : World} {b mb : Nat} {q f : Int} {dn : Bool} {cl : Int} {L : List OB}

set_option maxRecDepth 100000 in
set_option maxHeartbeats 1600000 in
theorem set_any (hP : PS w b mb q f dn cl L) (n d : ByteArray) (hn : n.size ≤ maxLen) (hd : d.size ≤ maxLen) (hl : L.length ≤ 1000000) :
    Calls Try.prog 26 #[.pointer (some ⟨b, 0, none⟩), .string n, .string d] w fun e w' => e = .returned (.int .i64 (fcode n d)) ∧ PS w' b mb q f dn cl (setL n d L) ∧ Gs (two b mb) w w' := by
  have HFA : Hid _ := hide (fault_any n d w hn hd)
  have HP := hide hP
  have HML : Hid (setL n d L = if fcode n d = 0 then layL L n d else L) := rfl
  obtain ⟨M, hM⟩ : ∃ M, M = setL n d L := ⟨_, rfl⟩
  rw [← hM]
  have HM := hide hM
  by_cases h0 : fcode n d = 0
  · obtain ⟨h1, h2⟩ := fcode_zero h0
    have HLY : Hid _ := hide (lay_any hP n d (mayB_size h1) h2 hl)
    have hMe : M = layL L n d := by rw [HM.out, HML.out, if_pos h0]
    have HME := hide hMe
    rw [h0] at HFA ⊢
    clear hP hM hMe
    go_enter Try.func26, Try.ntmps26
    go_wp2_with fail
    refine HFA.out.mono ?_
    rintro e w0 ⟨rfl, rfl⟩
    go_wp2_with fail
    refine HLY.out.mono ?_
    rintro e w1 ⟨rfl, hp, hg⟩
    have HF := hide (And.intro hp hg)
    clear hp hg
    go_wp2
    go_ret
    exact ⟨rfl, by rw [HME.out]; exact HF.out.1, HF.out.2⟩
  · have hMe : M = L := by rw [HM.out, HML.out, if_neg h0]
    subst hMe
    generalize fcode n d = C at *
    clear hP hM HML HM
    go_enter Try.func26, Try.ntmps26
    go_wp2_with fail
    refine HFA.out.mono ?_
    rintro e w0 ⟨rfl, rfl⟩
    go_wp2
    go_ret
    exact ⟨rfl, HP.out, Gs.refl _ _⟩

set_option maxRecDepth 100000 in
set_option maxHeartbeats 1600000 in
theorem down_any (hP : PS w b mb q f dn cl L) (x : Bool) :
    Calls Try.prog 24 #[.pointer (some ⟨b, 0, none⟩), .bool x] w fun e w' => e = .returned (.tuple #[]) ∧ PS w' b mb q f x cl L ∧ Gs (two b mb) w w' := by
  have y4 := hP.cell4
  have z4 := hP.free 4
  have HF : Hid (PS (w.setCell ⟨b, 4, none⟩ (.bool x)) b mb q f x cl L ∧ Gs (two b mb) w (w.setCell ⟨b, 4, none⟩ (.bool x))) := ⟨hP.set4 x, (Gs.refl _ _).set (.inl (.inl rfl)) _⟩
  clear hP
  go_enter Try.func24, Try.ntmps24
  go_wp2
  go_end0
  exact ⟨rfl, HF.out⟩

set_option maxRecDepth 100000 in
set_option maxHeartbeats 1600000 in
theorem load_any (hc : w.cell? ⟨b, 5, none⟩ = some (.int .i64 cl)) :
    Calls Try.prog 32 #[.pointer (some ⟨b, 5, none⟩)] w fun e w' => e = .returned (.int .i64 cl) ∧ w' = w := by
  have hld := run_call_load (P := Try.prog) Try.func46 (by kernel_rfl) (by kernel_rfl) (by kernel_rfl) .i64 (by kernel_rfl) hc
  go_enter Try.func32, Try.ntmps32
  go_wp2
  go_ret
  exact ⟨rfl, rfl⟩
set_option maxRecDepth 100000 in
set_option maxHeartbeats 1600000 in
theorem store_any (y : Int) {x : Value} (hc : w.cell? ⟨b, 5, none⟩ = some x) (hz : w.frozen? ⟨b, 5, none⟩ = false) :
    Calls Try.prog 45 #[.pointer (some ⟨b, 5, none⟩), .int .i64 y] w fun e w' => e = .returned (.tuple #[]) ∧ w' = w.setCell ⟨b, 5, none⟩ (.int .i64 y) := by
  have hst := run_call_store (P := Try.prog) Try.func55 (by kernel_rfl) (by kernel_rfl) (by kernel_rfl) (by kernel_rfl) (k := .i64) (y := y) hc hz
  go_enter Try.func45, Try.ntmps45
  go_wp2
  go_end0
  exact ⟨rfl, rfl⟩
set_option maxRecDepth 100000 in
set_option maxHeartbeats 1600000 in
theorem calls_any (hP : PS w b mb q f dn cl L) :
    Calls Try.prog 13 #[.pointer (some ⟨b, 0, none⟩)] w fun e w' => e = .returned (.int .i64 cl) ∧ w' = w := by
  have HC : Hid _ := hide (load_any hP.cell5)
  clear hP
  go_enter Try.func13, Try.ntmps13
  go_wp2_with fail
  refine HC.out.mono ?_
  rintro e w0 ⟨rfl, rfl⟩
  go_wp2
  go_ret
  exact ⟨rfl, rfl⟩

set_option maxRecDepth 100000 in
set_option maxHeartbeats 1600000 in
theorem clone_any (hM : MO w mb L) :
    Calls Try.prog 44 #[.map (some mb)] w fun e w' => e = .returned (.map (some w.heap.size)) ∧ MO w' w.heap.size L ∧ Below w.heap.size w w' := by
  obtain ⟨es, clock, hb, F, hs, hD⟩ := hM
  have hq := fun w => run_eql_map_nil_sl (P := Try.prog) w 51 _ _ (some mb) Try.underlying51
  have hcl : (callFunc 54 #[.iface 51 (.map (some mb))]).run Try.prog w = .ok (.value (.iface 51 (.map (some w.heap.size)))) (w.alloc (.map es clock)) := by
    rw [run_callFunc_extern Try.func54 (by kernel_rfl) (by kernel_rfl) (by kernel_rfl) (e := Extern.MapsClone.clone) (by kernel_rfl), run_maps_clone_sl w 51 hb]
    rfl
  have hta := fun w => run_typeAssert_map_sl (P := Try.prog) w 51 20 _ _ (.map (some (w.heap.size - 1))) Try.underlying51
  have hta := run_typeAssert_map_sl (P := Try.prog) (w.alloc (.map es clock)) 51 20 _ _ (.map (some w.heap.size)) Try.underlying51
  have HF : Hid (MO (w.alloc (.map es clock)) w.heap.size L) := ⟨es, clock, (MapKept.heap_alloc w _).1, F, hs, hD⟩
  clear hb F hs hD
  go_enter Try.func44, Try.ntmps44
  go_wp2
  go_ret
  exact ⟨rfl, HF.out, (Below.refl _ _).alloc (Nat.le_refl _) _⟩

set_option maxRecDepth 100000 in
set_option maxHeartbeats 1600000 in
theorem torn_any (hP : PS w b mb q f dn cl L) (st k : Int) (n d : ByteArray) (kp : Int) (hn : n.size ≤ maxLen) (hd : d.size ≤ maxLen) (hl : L.length ≤ 1000000) :
    Calls Try.prog 28 #[.pointer (some ⟨b, 0, none⟩), .agg #[.int .i64 st, .int .i64 k, .string n, .string d], .int .i64 kp] w fun e w' => e = .returned (.int .i64 (tcode k n d)) ∧ PS w' b mb q f dn cl (tornL k n d kp L) ∧ Gs (two b mb) w w' := by
  obtain ⟨U, hU⟩ : ∃ U, U = w.alloc (.cells #[.int .i64 st, .int .i64 k, .string n, .string d] 32) := ⟨_, rfl⟩
  obtain ⟨X, hX⟩ : ∃ X, X = w.heap.size := ⟨_, rfl⟩
  have hBU : Below w.heap.size w U := by rw [hU]; exact (Below.refl _ _).alloc (Nat.le_refl _) _
  have hkX : U.heap[X]? = some (.cells #[.int .i64 st, .int .i64 k, .string n, .string d] 32 (0, 0)) := by rw [hU, hX]; exact heap_alloc_new _ _
  have HPU := hide (hP.bel hBU)
  have HGU : Hid (Gs (two b mb) w U) := Gs.of_below _ hBU
  have HFA : Hid _ := hide (fault_any n d U hn hd)
  have HU := hide hU
  have HX := hide hX
  have HXB : Hid (¬ two b mb X) := by
    have h1 := hP.lt
    have h2 := hP.mlt
    rw [hX]
    rintro (e | e) <;> omega
  have HCE : Hid (∀ w' : World, w'.heap[X]? = some (.cells #[.int .i64 st, .int .i64 k, .string n, .string d] 32 (0, 0)) → w'.cell? ⟨X, 2, none⟩ = some (.string n) ∧ w'.cell? ⟨X, 3, none⟩ = some (.string d)) := fun w' h => ⟨by simp [World.cell?, h], by simp [World.cell?, h]⟩
  have y1 : U.cell? ⟨X, 1, none⟩ = some (.int .i64 k) := by simp [World.cell?, hkX]
  obtain ⟨y2, y3⟩ := HCE.out _ hkX
  have HKX := hide hkX
  obtain ⟨C, hC⟩ : ∃ C, C = tcode k n d := ⟨_, rfl⟩
  obtain ⟨M, hM⟩ : ∃ M, M = tornL k n d kp L := ⟨_, rfl⟩
  rw [← hC, ← hM]
  have HC := hide hC
  have HM := hide hM
  clear hBU hkX hU hX hP hC hM
  go_enter Try.func28, Try.ntmps28
  go_upto_region 1 with fail
  rw [← HU.out, ← HX.out]
  by_cases h1 : k = 1
  · subst h1
    have hCf : C = fcode n d := by rw [HC.out, tcode, if_pos rfl]
    rw [← hCf] at HFA
    by_cases h0 : C = 0
    · subst h0
      obtain ⟨m1, m2⟩ := fcode_zero hCf.symm
      have hm96 := mayB_size m1
      by_cases hk : 0 ≤ kp
      · obtain ⟨nn, hnn⟩ : ∃ nn : Nat, nn = (min kp (d.size : Int)).toNat := ⟨_, rfl⟩
        have hmin : min kp (d.size : Int) = (nn : Int) := by rw [hnn]; omega
        have hnd : nn ≤ d.size := by omega
        have hMe : M = layL L n (d.extract 0 nn) := by rw [HM.out, tornL, ← HC.out, if_pos ⟨rfl, hk⟩, hnn]
        have HME := hide hMe
        have hex : (d.extract 0 nn).size ≤ 131072 := by simp; omega
        have HLY : Hid (∀ w1, PS w1 b mb q f dn cl L → Calls Try.prog 41 #[.pointer (some ⟨b, 0, none⟩), .string n, .string (d.extract 0 nn)] w1 fun e w' => e = .returned (.tuple #[]) ∧ PS w' b mb q f dn cl (layL L n (d.extract 0 nn)) ∧ Gs (two b mb) w1 w') := fun w1 h => lay_any h n _ hm96 hex hl
        have b0 : (0 : Int) ≤ (nn : Int) := by omega
        have b1 : (nn : Int) ≤ (d.size : Int) := by omega
        have HNN := hide hnn
        clear hCf hMe hex hnn m1 m2
        go_wp2_with fail
        refine HFA.out.mono ?_
        rintro e w0 ⟨rfl, rfl⟩
        go_upto_region 7 with fail
        go_region_held3 (fun w' => w'.cell? ⟨X, 2, none⟩ = some (.string n) ∧ w'.cell? ⟨X, 3, none⟩ = some (.string d)) (first | assumption | exact ⟨by assumption, by assumption⟩ | exact HCE.out _ HKX.out)
          (first | (go_at_call 41; refine (HLY.out _ HPU.out.drew).mono ?_; rintro e w1 ⟨rfl, hp1, hg1⟩; obtain ⟨t1, t2⟩ := HCE.out w1 ((hg1.block X (lt_of_block HKX.out) HXB.out).trans HKX.out)))
        have HF : Hid (PS w1 b mb q f dn cl (layL L n (d.extract 0 nn)) ∧ Gs (two b mb) w w1) := ⟨hp1, HGU.out.trans ⟨hg1.os, hg1.tape, hg1.output, hg1.size, hg1.block⟩⟩
        go_wp2
        go_ret
        exact ⟨rfl, by rw [HME.out]; exact HF.out.1, HF.out.2⟩
      · have hMe : M = L := by rw [HM.out, tornL, ← HC.out, if_neg (fun z => hk z.2)]
        subst hMe
        have hk' : kp < 0 := by omega
        clear hCf m1 m2
        go_wp2_with fail
        refine HFA.out.mono ?_
        rintro e w0 ⟨rfl, rfl⟩
        go_wp2
        go_ret
        exact ⟨rfl, HPU.out, HGU.out⟩
    · have hMe : M = L := by rw [HM.out, tornL, ← HC.out, if_neg (fun z => h0 z.1)]
      subst hMe
      clear hCf
      go_wp2_with fail
      refine HFA.out.mono ?_
      rintro e w0 ⟨rfl, rfl⟩
      go_wp2
      go_ret
      exact ⟨rfl, HPU.out, HGU.out⟩
  · have hC3 : C = 3 := by rw [HC.out, tcode, if_neg h1]
    have hMe : M = L := by rw [HM.out, tornL, ← HC.out, hC3, if_neg (fun z => absurd z.1 (by decide))]
    subst hC3 hMe
    go_wp2
    go_ret
    exact ⟨rfl, HPU.out, HGU.out⟩
end
end Go.Proofs.Ytillnffhhmkgdaa
