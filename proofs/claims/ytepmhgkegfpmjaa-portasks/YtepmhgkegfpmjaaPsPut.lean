/-
  The program's store: put, get, del.
-/
import Derived.Test.YtepmhgkegfpmjaaPsMid
namespace Go.Proofs.Ytepmhgkegfpmjaa
open Go.RowKit Go.Lib Go.Maps

/-- What a put answers. -/
def pcode (n d : ByteArray) (L : List OB) (q : Int) : Int := if mayB n = true then (if d.size ≤ 131072 then (if ((usedL (layL L n d) : Nat) : Int) ≤ q then 0 else 71) else 2) else 3
/-- What is there behind a put. -/
def putL (n d : ByteArray) (L : List OB) (q : Int) : List OB := if pcode n d L q = 0 then layL L n d else L
theorem mayB_size {n : ByteArray} (h : mayB n = true) : n.size ≤ 96 := by
  unfold mayB at h
  simp at h
  omega
section
variable {w : World} {b mb : Nat} {q f : Int} {dn : Bool} {cl : Int} {L : List OB}

set_option maxRecDepth 100000 in
set_option maxHeartbeats 1600000 in
theorem put_any (hP : PS w b mb q f dn cl L) (n d : ByteArray) (hn : n.size ≤ maxLen) (hd : d.size ≤ maxLen) (hl : L.length ≤ 1000000) :
    Calls Try.prog 61 #[.pointer (some ⟨b, 0, none⟩), .string n, .string d] w fun e w' => e = .returned (.int .i64 (pcode n d L q)) ∧ PS w' b mb q f dn cl (putL n d L q) ∧ Gs (two b mb) w w' := by
  unfold maxLen at hn hd
  have HFA : Hid _ := hide (fault_any n d w hn hd)
  have HP := hide hP
  clear hP
  obtain ⟨C, hC⟩ : ∃ C, C = pcode n d L q := ⟨_, rfl⟩
  obtain ⟨M, hM⟩ : ∃ M, M = putL n d L q := ⟨_, rfl⟩
  rw [← hC, ← hM]
  have HC := hide hC
  have HM := hide hM
  clear hC hM
  by_cases h1 : mayB n = true
  · by_cases h2 : d.size ≤ 131072
    · have hn' := mayB_size h1
      have hf : fcode n d = 0 := by rw [fcode, if_pos h1, if_pos h2]
      rw [hf] at HFA
      obtain ⟨x, hx⟩ : ∃ x, x = n.size + d.size := ⟨_, rfl⟩
      obtain ⟨y, hy⟩ : ∃ y, y = szO n (thr L n) := ⟨_, rfl⟩
      obtain ⟨u, hu⟩ : ∃ u, u = usedL L := ⟨_, rfl⟩
      obtain ⟨v, hv⟩ : ∃ v, v = usedL (layL L n d) := ⟨_, rfl⟩
      have huv : v + y = u + x := by rw [hv, hy, hu, hx]; have := used_lay HP.out.ris n d; omega
      have hyu : y ≤ u := by rw [hy, hu]; have := used_del L n; omega
      have hyb : y ≤ 131168 := by rw [hy]; exact sz_small HP.out.small n
      have hxb : x ≤ 131168 := by omega
      have hub' : u ≤ 131168000000 := by rw [hu]; have := used_bound HP.out.small; omega
      have f1 : IntKind.i64.wrap ((u : Int) - (y : Int)) = (u : Int) - (y : Int) := by simp [IntKind.wrap_i64]; omega
      have f2 : IntKind.i64.wrap ((u : Int) - (y : Int) + (x : Int)) = (v : Int) := by simp [IntKind.wrap_i64]; omega
      have HZ : Hid _ := hide (size_any n d x hx (by omega))
      have HCL : Hid (∀ w1, PS w1 b mb q f dn cl L → w1.cell? ⟨b, 1, none⟩ = some (.int .i64 (u : Int)) ∧ w1.cell? ⟨b, 2, none⟩ = some (.int .i64 q)) := fun w1 h => by rw [hu]; exact ⟨h.cell1, h.cell2⟩
      have HU : Hid (∀ w1, Hid (PS w1 b mb q f dn cl L ∧ Below w.heap.size w w1) → Calls Try.prog 73 #[.pointer (some ⟨b, 0, none⟩), .string n] w1 fun e w' => e = .returned (.int .i64 (y : Int)) ∧ Hid (PS w' b mb q f dn cl L ∧ Below w.heap.size w w') ∧ w'.cell? ⟨b, 1, none⟩ = some (.int .i64 (u : Int)) ∧ w'.cell? ⟨b, 2, none⟩ = some (.int .i64 q)) := fun w1 h => by
        rw [hy]
        refine (usedBy_any h.out.1 n (by unfold maxLen; omega)).mono ?_
        rintro e w' ⟨rfl, hb⟩
        have hP' := h.out.1.bel hb
        exact ⟨rfl, ⟨hP', h.out.2.trans (hb.mono h.out.2.size)⟩, HCL.out _ hP'⟩
      have K1 : Hid (PS w.drew b mb q f dn cl L ∧ Below w.heap.size w w.drew) := ⟨HP.out.drew, (Below.refl _ _).drew⟩
      obtain ⟨y1, y2⟩ := HCL.out _ K1.out.1
      have HLY : Hid (∀ w1, PS w1 b mb q f dn cl L → Calls Try.prog 75 #[.pointer (some ⟨b, 0, none⟩), .string n, .string d] w1 fun e w' => e = .returned (.tuple #[]) ∧ PS w' b mb q f dn cl (layL L n d) ∧ Gs (two b mb) w1 w') := fun w1 h => lay_any h n d hn' h2 hl
      have HV := hide hv
      have HMB := hide h1
      clear hu hy hx hv hf h1
      go_enter Try.func61, Try.ntmps61
      go_wp2_with fail
      refine HFA.out.mono ?_
      rintro e w0 ⟨rfl, rfl⟩
      clear HFA
      go_upto_region 4 with fail
      go_region_held3 (fun w' => Hid (PS w' b mb q f dn cl L ∧ Below w0.heap.size w0 w') ∧ w'.cell? ⟨b, 1, none⟩ = some (.int .i64 (u : Int)) ∧ w'.cell? ⟨b, 2, none⟩ = some (.int .i64 q)) (first | assumption | exact ⟨by assumption, by assumption, by assumption⟩ | exact ⟨K1, y1, y2⟩)
        (first | (go_at_call 74; refine (HZ.out _).mono ?_; rintro e w' ⟨rfl, rfl⟩) | (go_at_call 73; refine (HU.out _ (by first | assumption | exact K1)).mono ?_; rintro e w1 ⟨rfl, k1, k2, k3⟩))
      by_cases hq : (v : Int) ≤ q
      · have hC0 : C = 0 := by rw [HC.out, pcode, if_pos HMB.out, if_pos h2, if_pos (by rw [← HV.out]; exact hq)]
        have hMe : M = layL L n d := by rw [HM.out, putL, ← HC.out, hC0, if_pos rfl]
        subst hC0
        have hq' : ¬ q < (v : Int) := by omega
        have HME := hide hMe
        clear hMe
        go_wp2_with fail
        refine (HLY.out _ k1.out.1).mono ?_
        rintro e w2 ⟨rfl, hp2, hg2⟩
        have HF := hide (And.intro hp2 ((Gs.of_below _ k1.out.2).trans hg2))
        clear hp2 hg2
        go_wp2
        go_ret
        exact ⟨rfl, by rw [HME.out]; exact HF.out.1, HF.out.2⟩
      · have hC0 : C = 71 := by rw [HC.out, pcode, if_pos HMB.out, if_pos h2, if_neg (by rw [← HV.out]; exact hq)]
        have hMe : M = L := by rw [HM.out, putL, ← HC.out, hC0, if_neg (by decide)]
        subst hC0 hMe
        have hq' : q < (v : Int) := by omega
        go_wp2
        go_ret
        exact ⟨rfl, k1.out.1, Gs.of_below _ k1.out.2⟩
    · have hf : fcode n d = 2 := by rw [fcode, if_pos h1, if_neg h2]
      have hC0 : C = 2 := by rw [HC.out, pcode, if_pos h1, if_neg h2]
      have hMe : M = L := by rw [HM.out, putL, ← HC.out, hC0, if_neg (by decide)]
      rw [hf] at HFA
      subst hC0 hMe
      clear hf
      go_enter Try.func61, Try.ntmps61
      go_wp2_with fail
      refine HFA.out.mono ?_
      rintro e w0 ⟨rfl, rfl⟩
      go_wp2
      go_ret
      exact ⟨rfl, HP.out, Gs.refl _ _⟩
  · have hf : fcode n d = 3 := by rw [fcode, if_neg h1]
    have hC0 : C = 3 := by rw [HC.out, pcode, if_neg h1]
    have hMe : M = L := by rw [HM.out, putL, ← HC.out, hC0, if_neg (by decide)]
    rw [hf] at HFA
    subst hC0 hMe
    clear hf
    go_enter Try.func61, Try.ntmps61
    go_wp2_with fail
    refine HFA.out.mono ?_
    rintro e w0 ⟨rfl, rfl⟩
    go_wp2
    go_ret
    exact ⟨rfl, HP.out, Gs.refl _ _⟩
end
end Go.Proofs.Ytepmhgkegfpmjaa
