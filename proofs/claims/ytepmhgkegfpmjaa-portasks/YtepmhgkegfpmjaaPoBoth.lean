/-
  Port: three stores of each; the document's stores answer.
-/
import Derived.Test.YtepmhgkegfpmjaaPoBook
namespace Go.Proofs.Ytepmhgkegfpmjaa
open Go.RowKit Go.Lib Go.Maps
set_option maxRecDepth 100000 in
set_option maxHeartbeats 3200000 in
theorem both_bo (w : World) : Calls Try.prog 18 #[] w fun e w' => ∃ sv rv bs rs, e = .returned (.tuple #[sv, rv]) ∧ BO w w' sv rv bs rs ∧ bs.length = 3 ∧ rs.length = 3 := by
  go_enter Try.func18, Try.ntmps18
  go_wp2
  go_loopw [2, 3, 4] (fun sv rv i wr => ∃ (j : Nat) (bs : List (Nat × Nat)) (rs : List Nat), j ≤ 3 ∧ i = .int .i64 j ∧ bs.length = j ∧ rs.length = j ∧ BO w wr sv rv bs rs) (fun _ _ i _ => 3 - (intOf i).toNat)
  case atStart => exact ⟨0, [], [], by omega, rfl, rfl, rfl, ⟨OW.nil _ _ _ _ _, OW.nil _ _ _ _ _, fun e he => by simp at he, fun e he => by simp at he, fun i j e f he => by simp at he, fun i j e f he => by simp at he, Below.refl _ _⟩⟩
  case round =>
    obtain ⟨j, bs, rs, hj, rfl, hbl, hrl, hB⟩ := hrel
    obtain ⟨asv, csv, hsv⟩ := hB.s.shp
    obtain ⟨arv, crv, hrv⟩ := hB.r.shp
    rw [List.length_map, hbl] at hsv
    rw [hrl] at hrv
    subst hsv
    subst hrv
    have HB := hide hB
    have HL := hide (And.intro hbl hrl)
    clear hB hbl hrl
    by_cases hlt : j < 3
    · have b1 : (j : Int) < 3 := by omega
      have HN := hide (new_ok 200 wr (by decide) (by decide))
      go_wp2_with fail
      refine HN.out.mono ?_
      rintro e w1 ⟨rfl, hP1, hB1⟩
      have HM := hide (rnew_ok 200 w1 (by decide) (by decide))
      have HF1 := hide (And.intro hP1 hB1)
      clear hP1 hB1
      go_wp2_with fail
      refine HM.out.mono ?_
      rintro e w2 ⟨rfl, hR2, hB2⟩
      obtain ⟨hP1, hB1⟩ := HF1.out
      have hX1 : PX w1 (wr.heap.size + 1) wr.heap.size s0 := hP1
      have hBO2 := (HB.out.bel hB1).bel hB2
      have hws := HB.out.be.size
      have h1s := hP1.lt
      have hlt1 : ∀ e ∈ bs, e.1 < wr.heap.size ∧ e.2 < wr.heap.size := fun e he => ⟨PS.lt (HB.out.px e he).1, PS.mlt (HB.out.px e he).1⟩
      have hlt2 : ∀ b ∈ rs, b < wr.heap.size := fun b hb => (HB.out.rd b hb).1.lt
      obtain ⟨a3, c3, w3, hr3, hBO3, h3s⟩ := hBO2.more (PX.bel hX1 hB2) (by omega) hws (fun e he => by have := hlt1 e he; omega) (by have := HL.out.1; omega)
      rw [HL.out.1] at hr3 hBO3
      have hal2 : Below w2.heap.size w2 (w2.alloc (.cells #[.pointer (some ⟨wr.heap.size + 1, 0, none⟩)] 59)) := (Below.refl _ _).alloc (Nat.le_refl _) _
      have hr2l := hR2.lt
      have hR3 : RSt w3 w1.heap.size 200 0 0 false (.slice none 0 0) := by
        obtain ⟨v', w9, h1, _, h3, _⟩ := OW.app (ST := 49) pp_len (by decide) (fun x _ => pp_one x) Try.underlying49 Try.infoPs rfl (hBO2.bel hal2).s (LS.one (wr.heap.size + 1) 59 w2 pp 1 (fun _ => True) trivial) (by have := HL.out.1; simp; omega) (by have := HL.out.1; simp; omega) (by simp; omega)
        rw [hr3] at h1
        cases h1
        have hR2' := hR2.bel2 hal2
        refine (h3.block w1.heap.size hR2'.lt (fun e => ?_)).trans hR2'
        obtain ⟨c1, q1⟩ := (hBO2.bel hal2).s.typ _ e.symm
        rw [show (w2.alloc _).heap[w1.heap.size]? = _ from hR2'] at q1
        simp at q1
      obtain ⟨a4, c4, w4, hr4, hBO4⟩ := hBO3.mord hR3 (by omega) (fun e he => by have := hlt2 e he; omega) (by have := HL.out.2; omega)
      rw [HL.out.2] at hr4 hBO4
      have HE := hide hBO4
      obtain ⟨e1, he1⟩ : ∃ e1, e1 = w1.heap.size := ⟨_, rfl⟩
      rw [← he1] at hr4 HE ⊢
      clear hP1 hB1 hX1 hBO2 hws h1s hlt1 hlt2 hBO3 hR3 hBO4 hR2 hB2 HF1 h3s hal2 hr2l he1
      go_wp2_with (first | (at_builtin; refine Lib.wpList_append_run _ rfl _ _ _ _ rfl _ _ rfl rfl _ _ hr3 ?_) | (at_builtin; refine Lib.wpList_append_run _ rfl _ _ _ _ rfl _ _ rfl rfl _ _ hr4 ?_))
      exact ⟨⟨j + 1, bs ++ [(wr.heap.size + 1, wr.heap.size)], rs ++ [e1], by omega, by go_num, by simp [HL.out.1], by simp [HL.out.2], HE.out⟩, by simp [intOf]; omega⟩
    · obtain rfl : j = 3 := by omega
      go_wp2
      go_ret2
      exact ⟨_, _, bs, rs, rfl, HB.out, HL.out⟩
end Go.Proofs.Ytepmhgkegfpmjaa
