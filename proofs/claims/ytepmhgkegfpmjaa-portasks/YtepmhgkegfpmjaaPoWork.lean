/-
  Port: the chapter's example.
-/
import Derived.Test.YtepmhgkegfpmjaaPoYd
namespace Go.Proofs.Ytepmhgkegfpmjaa
open Go.RowKit Go.Lib Go.Maps
def wA : QT := ⟨0, 1, ⟨#[97]⟩, ⟨#[98]⟩⟩
def wB : QT := ⟨0, 2, ⟨#[97]⟩, ⟨#[]⟩⟩
def s1 : SS := ⟨100, 0, 0, false, []⟩
theorem s1_go : GO 0 s1 := ⟨List.Pairwise.nil, fun p hp => by simp [s1] at hp, Nat.le_refl _, by decide, by decide, by decide⟩
theorem wx1 : doR s1 1 ⟨#[97]⟩ ⟨#[98]⟩ = ⟨0, ⟨#[]⟩, []⟩ := by kernel_rfl
theorem wx2 : doS s1 1 ⟨#[97]⟩ ⟨#[98]⟩ = ⟨100, 0, 1, false, [⟨⟨#[97]⟩, ⟨#[98]⟩⟩]⟩ := by kernel_rfl
theorem wx3 : doR ⟨100, 0, 1, false, [⟨⟨#[97]⟩, ⟨#[98]⟩⟩]⟩ 2 ⟨#[97]⟩ ⟨#[]⟩ = ⟨0, ⟨#[98]⟩, []⟩ := by kernel_rfl
theorem wx : yRs [s1] [wA, wB] = [⟨0, ⟨#[]⟩, []⟩, ⟨0, ⟨#[98]⟩, []⟩] := by
  have e1 : yR [s1] wA = ⟨0, ⟨#[]⟩, []⟩ := wx1
  have e2 : yS [s1] wA = [⟨100, 0, 1, false, [⟨⟨#[97]⟩, ⟨#[98]⟩⟩]⟩] := by
    show [doS s1 1 ⟨#[97]⟩ ⟨#[98]⟩] = _
    rw [wx2]
  have e3 : yR [⟨100, 0, 1, false, [⟨⟨#[97]⟩, ⟨#[98]⟩⟩]⟩] wB = ⟨0, ⟨#[98]⟩, []⟩ := wx3
  rw [yRs, yRs, yRs, e1, e2, e3]
set_option maxRecDepth 100000 in
set_option maxHeartbeats 3200000 in
theorem works_port (w : World) : Calls Try.prog 8 #[] w fun e w' => e = .returned (.bool true) ∧ Below w.heap.size w w' := by
  have HN := hide (new_ok 100 w (by decide) (by decide))
  go_enter Try.func8, Try.ntmps8
  go_wp2_with fail
  refine HN.out.mono ?_
  rintro e w1 ⟨rfl, hP1, hB1⟩
  obtain ⟨b, hb⟩ : ∃ b, b = w.heap.size + 1 := ⟨_, rfl⟩
  obtain ⟨mb, hmb⟩ : ∃ mb, mb = w.heap.size := ⟨_, rfl⟩
  rw [← hb, ← hmb] at hP1
  rw [← hb]
  have hX1 : PX w1 b mb s1 := hP1
  obtain ⟨W2, hW2⟩ : ∃ W2, W2 = w1.alloc (.cells #[.int .i64 0, .int .i64 1, .string ⟨#[97]⟩, .string ⟨#[98]⟩, .int .i64 0, .int .i64 2, .string ⟨#[97]⟩, .string ⟨#[]⟩] 38) := ⟨_, rfl⟩
  have hB2 : Below w1.heap.size w1 W2 := by rw [hW2]; exact (Below.refl _ _).alloc (Nat.le_refl _) _
  have hLS : LS q4 4 (fun _ => True) W2 (.slice (some ⟨w1.heap.size, 0, none⟩) 2 2) [wA, wB] := by
    refine ⟨_, _, rfl, (fun e => by cases e), .inr ⟨w1.heap.size, 0, rfl, trivial, by rw [hW2]; simp, ?_⟩⟩
    have hblk : W2.heap[w1.heap.size]? = some (.cells #[.int .i64 0, .int .i64 1, .string ⟨#[97]⟩, .string ⟨#[98]⟩, .int .i64 0, .int .i64 2, .string ⟨#[97]⟩, .string ⟨#[]⟩] 38 (0, 0)) := by rw [hW2]; exact heap_alloc_new w1 _
    intro i x hx j u hu
    rw [cell_of_row _ _ _ _ _ _ hblk]
    match i, hx with
    | 0, hx =>
      cases hx
      match j, hu with
      | 0, hu => cases hu; rfl
      | 1, hu => cases hu; rfl
      | 2, hu => cases hu; rfl
      | 3, hu => cases hu; rfl
      | _ + 4, hu => simp [q4] at hu
    | 1, hx =>
      cases hx
      match j, hu with
      | 0, hu => cases hu; rfl
      | 1, hu => cases hu; rfl
      | 2, hu => cases hu; rfl
      | 3, hu => cases hu; rfl
      | _ + 4, hu => simp [q4] at hu
    | _ + 2, hx => simp at hx
  have HL := hide (list_any hLS (by simp))
  have HW2 := hide hW2
  have HF1 := hide (And.intro hX1 (And.intro hB1 (And.intro hB2 (And.intro hb hmb))))
  clear hX1 hB1 hB2 hW2 hP1 hLS hb hmb
  go_wp2_with fail
  rw [← HW2.out]
  refine HL.out.mono ?_
  rintro e w3 ⟨jb, Pj, rfl, hJ3, hB3, hP3⟩
  obtain ⟨hX1, hB1, hB2, hb, hmb⟩ := HF1.out
  have hX3 := PX.bel (PX.bel hX1 hB2) hB3
  obtain ⟨W4, hW4⟩ : ∃ W4, W4 = w3.alloc (.cells #[.pointer (some ⟨b, 0, none⟩)] 59) := ⟨_, rfl⟩
  have hB4 : Below w3.heap.size w3 W4 := by rw [hW4]; exact (Below.refl _ _).alloc (Nat.le_refl _) _
  have hblk4 : W4.heap[w3.heap.size]? = some (.cells #[.pointer (some ⟨b, 0, none⟩)] 59 (0, 0)) := by rw [hW4]; exact heap_alloc_new w3 _
  have hs2 := hB2.size
  have hs3 := hB3.size
  have hs1 := hB1.size
  have hbl := PS.lt hX1
  have hmbl := PS.mlt hX1
  have hw4s : W4.heap.size = w3.heap.size + 1 := by rw [hW4]; simp
  have hJ3l := hJ3.2.1
  have hY : YP (fun i => i = b ∨ i = mb ∨ i = w3.heap.size) W4 (.slice (some ⟨w3.heap.size, 0, none⟩) 1 1) [s1] [(b, mb)] := by
    refine ⟨⟨_, _, rfl, .inr ⟨w3.heap.size, 0, rfl, .inr (.inr rfl), by omega, fun i x hx => ?_⟩⟩, rfl, fun i e s he hs => ?_, fun e he => ?_, fun i j e f he hf hij => ?_⟩
    · have hi : i = 0 := by have := (List.getElem?_eq_some_iff.1 hx).1; simp at this; exact this
      subst hi
      simp at hx
      subst hx
      simp [World.cell?, hblk4]
    · have hi : i = 0 := by have := (List.getElem?_eq_some_iff.1 he).1; simp at this; exact this
      subst hi
      simp at he hs
      subst he
      subst hs
      exact PX.bel hX3 hB4
    · simp at he
      subst he
      exact ⟨.inl rfl, .inr (.inl rfl)⟩
    · have := (List.getElem?_eq_some_iff.1 he).1
      have := (List.getElem?_eq_some_iff.1 hf).1
      simp at *
      omega
  have HR := hide (run_any (jobL jb (l := [wA, wB]) (by simp)) (A := []) (hJ3.bel hB4) hY (fun i hi e => by
    have h1 := hP3 i hi
    have h2 := hJ3l i hi
    rcases e with e | e | e <;> omega) (fun i e => by rcases e with e | e | e <;> omega) (g := 0) (fun s hs => by
    have : s = s1 := by simpa using hs
    rw [this]; exact s1_go) (by simp) (by simp [resI]) (fun q hq => by
    have : q = wA ∨ q = wB := by simpa using hq
    rcases this with rfl | rfl <;> exact ⟨by decide, by decide⟩) 9 (by decide))
  have HB : Hid (w.heap.size ≤ b ∧ w.heap.size ≤ mb ∧ w.heap.size ≤ w1.heap.size ∧ w1.heap.size ≤ w3.heap.size ∧ W2.heap.size ≤ w3.heap.size ∧ w.heap.size ≤ W2.heap.size) := by show w.heap.size ≤ b ∧ w.heap.size ≤ mb ∧ w.heap.size ≤ w1.heap.size ∧ w1.heap.size ≤ w3.heap.size ∧ W2.heap.size ≤ w3.heap.size ∧ w.heap.size ≤ W2.heap.size; omega
  have HF2 := hide (And.intro hB4 (And.intro hw4s (And.intro (show Below w.heap.size w w3 from (hB1.trans ((hB2.trans (hB3.mono hs2)).mono hs1))) hP3)))
  have HW4 := hide hW4
  clear hX1 hB1 hB2 hX3 hW4 hB4 hblk4 hs2 hs3 hs1 hbl hmbl hw4s hJ3 hB3 hY hJ3l hb hmb hP3 HF1
  go_wp2_with fail
  rw [← HW4.out]
  refine HR.out.mono ?_
  rintro e w5 ⟨t, ht, rfl, Pj', hU⟩
  have ht2 : t = 2 := ht
  subst ht2
  have hJ5 : JL Pj' w5 jb [wA, wB] [⟨0, ⟨#[]⟩, []⟩, ⟨0, ⟨#[98]⟩, []⟩] := by
    have := hU.j
    rw [show ([] : List RR) ++ yRs [s1] ((List.drop ([] : List RR).length [wA, wB]).take 2) = yRs [s1] [wA, wB] from rfl, wx] at this
    exact this
  have HS := hide (result_list hJ5 (by simp) (by simp [resI]))
  have HF3 := hide hU.g
  have hcode : (if ([] : List RR).length + 2 < [wA, wB].length then (2 : Int) else 0) = 0 := rfl
  rw [hcode]
  clear hJ5 hU ht hcode
  go_wp2_with fail
  refine HS.out.mono ?_
  rintro e w6 ⟨ids, tx, rfl, hT1, hT2, hB6⟩
  have eC : RC [wA, wB] [⟨0, ⟨#[]⟩, []⟩, ⟨0, ⟨#[98]⟩, []⟩] = 0 := rfl
  have eN : ((RN [wA, wB] [⟨0, ⟨#[]⟩, []⟩, ⟨0, ⟨#[98]⟩, []⟩] : Nat) : Int) = 2 := rfl
  have eT : RT [wA, wB] [⟨0, ⟨#[]⟩, []⟩, ⟨0, ⟨#[98]⟩, []⟩] = [⟨#[]⟩, ⟨#[98]⟩] := rfl
  rw [eC, eN]
  rw [eT] at hT2
  obtain ⟨ai, ci, hei⟩ := hT1.shp
  obtain ⟨at_, ct, het⟩ := hT2.shp
  subst hei
  subst het
  obtain ⟨li, hli⟩ : ∃ li, li = (RI [wA, wB] [⟨0, ⟨#[]⟩, []⟩, ⟨0, ⟨#[98]⟩, []⟩]).length := ⟨_, rfl⟩
  rw [← hli]
  have h2l : ([⟨#[]⟩, ⟨#[98]⟩] : List ByteArray).length = 2 := rfl
  rw [h2l] at hT2 ⊢
  obtain ⟨W7, hW7⟩ : ∃ W7, W7 = w6.alloc (.cells #[.int .i64 0, .string ⟨#[]⟩, .int .i64 2, .slice ai li ci, .slice at_ 2 ct, .slice none 0 0, .slice none 0 0] 34) := ⟨_, rfl⟩
  obtain ⟨W8, hW8⟩ : ∃ W8, W8 = W7.alloc (.cells #[.string ⟨#[]⟩, .string ⟨#[98]⟩] 9) := ⟨_, rfl⟩
  have hB7 : Below w6.heap.size w6 W7 := by rw [hW7]; exact (Below.refl _ _).alloc (Nat.le_refl _) _
  have hB8 : Below W7.heap.size W7 W8 := by rw [hW8]; exact (Below.refl _ _).alloc (Nat.le_refl _) _
  have hTR1 : TR W8 (.slice at_ 2 ct) [⟨#[]⟩, ⟨#[98]⟩] := (hT2.tr.bel hB7).bel hB8
  have hTR2 : TR W8 (.slice (some ⟨W7.heap.size, 0, none⟩) 2 2) [⟨#[]⟩, ⟨#[98]⟩] := by
    have hblk : W8.heap[W7.heap.size]? = some (.cells #[.string ⟨#[]⟩, .string ⟨#[98]⟩] 9 (0, 0)) := by rw [hW8]; exact heap_alloc_new W7 _
    refine ⟨_, _, rfl, .inr ⟨W7.heap.size, 0, rfl, lt_of_block hblk, fun i x hx => ?_⟩⟩
    rw [cell_of_row _ _ _ _ _ _ hblk]
    match i, hx with
    | 0, hx => cases hx; rfl
    | 1, hx => cases hx; rfl
    | _ + 2, hx => simp at hx
  have HST := hide (sameTexts_eq hTR1 hTR2 (by simp))
  have HE : Hid (Below w.heap.size w W8) := by
    obtain ⟨hB4, hw4s, hBw3, hP3⟩ := HF2.out
    have hs4 := hB4.size
    have hs3 := hBw3.size
    have h5 := HF3.out.size
    have hB5 : Below w.heap.size w w5 := HF3.out.below (hBw3.trans (hB4.mono hs3)) (by omega) (fun i e => by
      rcases e with e | e
      · have := hP3 i e; have hb := HB.out; omega
      · have hb := HB.out; omega)
    have h6 := hB6.size
    have h7 := hB7.size
    exact ((hB5.trans (hB6.mono (by omega))).trans (hB7.mono (by omega))).trans (hB8.mono (by omega))
  have HW7 := hide hW7
  have HW8 := hide hW8
  clear eC eN eT hT1 hT2 hB6 hli hB7 hB8 hTR1 hTR2 hW7 hW8 HF2 HF3
  have x2 : W7.cell? ⟨w6.heap.size, 2, none⟩ = some (.int .i64 2) := by rw [HW7.out, World.cell?, heap_alloc_new w6 _]; rfl
  have x4 : W7.cell? ⟨w6.heap.size, 4, none⟩ = some (.slice at_ 2 ct) := by rw [HW7.out, World.cell?, heap_alloc_new w6 _]; rfl
  go_upto_region 9 with fail
  rw [← HW7.out]
  go_wp2_with fail
  rw [← HW8.out]
  refine HST.out.mono ?_
  rintro e w9 ⟨rfl, hB9⟩
  have HE2 : Hid (Below w.heap.size w w9) := HE.out.trans (hB9.mono HE.out.size)
  clear hB9
  go_wp2
  go_ret
  exact ⟨rfl, HE2.out⟩
end Go.Proofs.Ytepmhgkegfpmjaa
