/-
  The first parts with unlike numbers.
-/
import Derived.Test.YtfjkdmiaagalhaaGreatParts
import Derived.Test.YtfjkdmiaagalhaaGreatBeside
namespace Go.Proofs.YtfjkdmiaagalhaaGreat
open Go.RowKit Go.Lib Go.Maps

/-- The places of the first parts with unlike numbers, k at most, among the first j. -/
def fu (k : Nat) (I : Nat → Int) : Nat → List Nat
  | 0 => []
  | j + 1 => if (fu k I j).length = k ∨ I j ∈ (fu k I j).map I then fu k I j else fu k I j ++ [j]
theorem fu_skip {k j : Nat} {I : Nat → Int} (h : (fu k I j).length = k ∨ I j ∈ (fu k I j).map I) : fu k I (j + 1) = fu k I j := by rw [fu, if_pos h]
theorem fu_take {k j : Nat} {I : Nat → Int} (h1 : (fu k I j).length ≠ k) (h2 : I j ∉ (fu k I j).map I) : fu k I (j + 1) = fu k I j ++ [j] := by rw [fu, if_neg (by simp only [not_or]; exact ⟨h1, h2⟩)]
theorem fu_le (k : Nat) (I : Nat → Int) : ∀ j, (fu k I j).length ≤ k
  | 0 => Nat.zero_le _
  | j + 1 => by
    rw [fu]
    split
    · exact fu_le k I j
    · rename_i h
      rw [not_or] at h
      have := fu_le k I j
      simp
      omega
theorem fu_full {k j : Nat} {I : Nat → Int} (h : (fu k I j).length = k) : ∀ d, fu k I (j + d) = fu k I j
  | 0 => rfl
  | d + 1 => by
    have e := fu_full h d
    rw [← Nat.add_assoc, fu_skip (.inl (by rw [e]; exact h)), e]
theorem fu_lt {k : Nat} {I : Nat → Int} : ∀ {j p}, p ∈ fu k I j → p < j
  | 0, p, h => by simp [fu] at h
  | j + 1, p, h => by
    rw [fu] at h
    split at h
    · have := fu_lt h; omega
    · rw [List.mem_append] at h
      rcases h with h | h
      · have := fu_lt h; omega
      · simp at h; omega
/-- f tells of each number the place at which it stands in the list. -/
def Tells (f : Int → Option Nat) (I : Nat → Int) (L : List Nat) : Prop := ∀ x i, f x = some i ↔ i < L.length ∧ I (L.getD i 0) = x
theorem Tells.none_iff {f : Int → Option Nat} {I : Nat → Int} {L : List Nat} (h : Tells f I L) (x : Int) : f x = none ↔ x ∉ L.map I := by
  constructor
  · intro hn hm
    obtain ⟨p, hp, rfl⟩ := List.mem_map.1 hm
    obtain ⟨i, hi, rfl⟩ := List.getElem_of_mem hp
    have := (h (I L[i]) i).2 ⟨hi, by rw [List.getD_eq_getElem?_getD, List.getElem?_eq_getElem hi]; rfl⟩
    rw [hn] at this
    cases this
  · intro hm
    cases hf : f x with
    | none => rfl
    | some i =>
      obtain ⟨hi, e⟩ := (h x i).1 hf
      exfalso
      apply hm
      rw [List.getD_eq_getElem?_getD, List.getElem?_eq_getElem hi] at e
      exact List.mem_map.2 ⟨L[i], List.getElem_mem hi, e⟩
theorem Tells.add {f : Int → Option Nat} {I : Nat → Int} {L : List Nat} (h : Tells f I L) {j : Nat} (hj : I j ∉ L.map I) : Tells (fun y => if y = I j then some L.length else f y) I (L ++ [j]) := by
  intro x i
  have hn := (h.none_iff (I j)).2 hj
  have hat : ∀ t, t < L.length → (L ++ [j]).getD t 0 = L.getD t 0 := fun t ht => by
    rw [List.getD_eq_getElem?_getD, List.getD_eq_getElem?_getD, List.getElem?_append_left ht]
  have hlast : (L ++ [j]).getD L.length 0 = j := by
    rw [List.getD_eq_getElem?_getD, List.getElem?_append_right (Nat.le_refl _), Nat.sub_self]; rfl
  by_cases e : x = I j
  · subst e
    simp only [if_true, Option.some.injEq]
    constructor
    · rintro rfl
      exact ⟨by simp, by rw [hlast]⟩
    · rintro ⟨h1, h2⟩
      have h3 : i < L.length + 1 := by simpa using h1
      by_cases e2 : i < L.length
      · rw [hat i e2] at h2
        have := (h (I j) i).2 ⟨e2, h2⟩
        rw [hn] at this
        cases this
      · omega
  · simp only [if_neg e]
    rw [h x i]
    constructor
    · rintro ⟨h1, h2⟩
      exact ⟨by simp; omega, by rw [hat i h1]; exact h2⟩
    · rintro ⟨h1, h2⟩
      have h3 : i < L.length + 1 := by simpa using h1
      by_cases e2 : i < L.length
      · rw [hat i e2] at h2; exact ⟨e2, h2⟩
      · obtain rfl : i = L.length := by omega
        rw [hlast] at h2
        exact absurd h2.symm e

/-- What the loop has made. -/
structure FW (w wr : World) (v : Value) (b : Nat) (I : Nat → Int) (X : Nat → ByteArray) (L : List Nat) : Prop where
  ip : IP w.heap.size v L.length (fun t => I (L.getD t 0)) (fun t => X (L.getD t 0)) wr
  mp : ∃ f, MP wr b L.length f ∧ Tells f I L
  hb : w.heap.size ≤ b
  be : Below w.heap.size w wr
end Go.Proofs.YtfjkdmiaagalhaaGreat

namespace Go.Proofs.YtfjkdmiaagalhaaGreat
open Go.RowKit Go.Lib Go.Maps

section
variable {w wr w' : World} {v : Value} {b : Nat} {I : Nat → Int} {X : Nat → ByteArray} {L : List Nat}
theorem FW.skip (h : FW w wr v b I X L) (hb : Below wr.heap.size wr w') : FW w w' v b I X L := by
  obtain ⟨f, h1, h2⟩ := h.mp
  exact ⟨h.ip.keep hb, ⟨f, h1.below hb, h2⟩, h.hb, below_step h.be hb⟩
theorem FW.seen (h : FW w wr v b I X L) {x : Int} (hx0 : 0 ≤ x) (hx : x ≤ 1000) :
    ∃ z : Nat, (Instr.lookup 95 (.map (some b)) (.int .i64 x) true).run Tryz.prog wr = .ok (.tuple #[.int .i64 (z : Int), .bool (decide (x ∈ L.map I))]) wr := by
  obtain ⟨f, h1, h2⟩ := h.mp
  refine ⟨(f x).getD 0, (h1.look (by omega) (by omega)).trans ?_⟩
  have : (f x).isSome = decide (x ∈ L.map I) := by
    have := h2.none_iff x
    cases hf : f x with
    | none => rw [hf] at this; simp only [true_iff] at this; rw [decide_eq_false this]; rfl
    | some i =>
      rw [hf] at this
      simp only [reduceCtorEq, false_iff, Classical.not_not] at this
      rw [decide_eq_true this]; rfl
  rw [this]
theorem FW.take (h : FW w wr v b I X L) {j : Nat} (hj : I j ∉ L.map I) (hl : L.length ≤ 1000) (hx0 : 0 ≤ I j) (hx : I j ≤ 1000) :
    ∃ w1, (Instr.mapUpdate 95 (.map (some b)) (.int .i64 (I j)) (.int .i64 (L.length : Int))).run Tryz.prog wr = .ok () w1 ∧ (∀ p x, p < wr.heap.size → p ≠ b → wr.heap[p]? = some x → w1.heap[p]? = some x) ∧ wr.heap.size ≤ w1.heap.size ∧ Below w.heap.size w w1 ∧
      ∃ a c w2, (Builtin.append_ #[23, 23] 23 #[v, .slice (some ⟨w1.heap.size, 0, none⟩) 1 1]).run Tryz.prog (w1.alloc (.cells #[.int .i64 (I j), .string (X j)] 35)) = .ok (.slice a (L.length + 1) c) w2 ∧ FW w w2 (.slice a (L.length + 1) c) b I X (L ++ [j]) := by
  obtain ⟨f, h1, h2⟩ := h.mp
  obtain ⟨w1, hr, hM, hg⟩ := h1.update (by omega) (x := I j) (by omega) (by omega) (i := L.length) (by omega)
  have hne := h.ip.ne_map h1
  have hI := h.ip.grown hg hne
  have hsz : w.heap.size ≤ w1.heap.size := Nat.le_trans h.be.size hg.size
  have hB1 : Below w.heap.size w w1 := h.be.grown hg h.be.size (fun k hk => by cases hk; exact h.hb)
  obtain ⟨a, c, w2, h3, h4, h5⟩ := hI.one (I j) (X j) (by omega) hsz
  refine ⟨w1, hr, fun p x hp hpb hx => (hg.block p hp (by simpa using hpb)).trans hx, hg.size, hB1, a, c, w2, h3, ?_⟩
  have hlen : (L ++ [j]).length = L.length + 1 := by simp
  have hat : ∀ t, t < L.length → (L ++ [j]).getD t 0 = L.getD t 0 := fun t ht => by
    rw [List.getD_eq_getElem?_getD, List.getD_eq_getElem?_getD, List.getElem?_append_left ht]
  have hlast : (L ++ [j]).getD L.length 0 = j := by
    rw [List.getD_eq_getElem?_getD, List.getElem?_append_right (Nat.le_refl _), Nat.sub_self]; rfl
  have hal : Below w1.heap.size w1 (w1.alloc (.cells #[.int .i64 (I j), .string (X j)] 35)) := below_alloc (Below.refl _ _) _
  have hMp := hM.below hal
  refine ⟨?_, ⟨_, ?_, h2.add hj⟩, h.hb, ?_⟩
  · rw [hlen]
    exact h4.congr fun i hi => by
      by_cases e : i < L.length
      · rw [if_pos e, if_pos e, hat i e]; exact ⟨rfl, rfl⟩
      · obtain rfl : i = L.length := by omega
        rw [if_neg e, if_neg e, hlast]; exact ⟨rfl, rfl⟩
  · rw [hlen]
    exact hMp.kept h5 (fun e => (hI.keep hal).ne_map hMp e.symm)
  · exact (hB1.trans (hal.mono hsz)).grown h5 (by simp; omega) (fun k hk => ((hI.keep hal).lt k hk).1)
end

set_option maxRecDepth 100000 in
set_option maxHeartbeats 1600000 in
theorem first_any {w : World} {b k n : Nat} {v : Value} {I : Nat → Int} {X : Nat → ByteArray} (hc : w.cell? ⟨b, 0, none⟩ = some (.int .i64 k)) (hb : b < w.heap.size) (hk : k ≤ 255) (hn : n ≤ maxLen)
    (hP : PX w v n I X) (hI : ∀ i, i < n → 0 ≤ I i ∧ I i ≤ 1000) :
    Calls Tryz.prog 35 #[.pointer (some ⟨b, 0, none⟩), v] w fun e w' => ∃ v' q, e = .returned (.tuple #[v', .map (some q)]) ∧ FW w w' v' q I X (fu k I n) := by
  obtain ⟨a, c, rfl, hP⟩ := hP
  have hn' : n ≤ 9223372036854775807 := hn
  have HC := hide hc
  have HP := hide hP
  have HI := hide hI
  clear hc hP hI
  have HM : Hid (FW w (w.alloc (.map #[] 0)) (.slice none 0 0) w.heap.size I X []) := ⟨IP.nil _ _ _ _, ⟨_, MP.made w, fun x i => by simp⟩, Nat.le_refl _, below_alloc (Below.refl _ _) _⟩
  go_enter Tryz.func35, Tryz.ntmps35
  have hmm : (Instr.makeMap 95 none).run Tryz.prog w = .ok (.map (some w.heap.size)) (w.alloc (.map #[] 0)) := rfl
  go_wp2
  clear hmm
  obtain ⟨W, hW⟩ : ∃ W, W = w.alloc (.map #[] 0) := ⟨_, rfl⟩
  rw [← hW] at HM ⊢
  clear hW
  go_loopw [6, 15] (fun s z wr => ∃ j : Nat, j ≤ n ∧ z = .int .i64 j ∧ FW w wr s w.heap.size I X (fu k I j)) (fun _ z _ => n - (RowKit.intOf z).toNat)
  case atStart => exact ⟨0, Nat.zero_le _, rfl, HM.out⟩
  case round =>
    obtain ⟨j, hj, rfl, hF⟩ := hrel
    clear HM
    have HF := hide hF
    obtain ⟨a2, c2, rfl⟩ := hF.ip.shp
    have hle := fu_le k I j
    by_cases hlt : j < n
    · obtain ⟨bl, off, rfl, hbl, hcell⟩ := HP.out.resolve_left (by omega)
      have p1 := (hF.be.cell (p := ⟨bl, off + j * 2, none⟩) hbl).trans (hcell j hlt).1
      have p2 := (hF.be.cell (p := ⟨bl, off + j * 2 + 1, none⟩) hbl).trans (hcell j hlt).2
      have b1 : (j : Int) < (n : Int) := by omega
      have b0 : (0 : Int) ≤ (j : Int) := by omega
      have hI := HI.out j hlt
      obtain ⟨l, hl⟩ : ∃ l, l = (fu k I j).length := ⟨_, rfl⟩
      rw [← hl] at hle ⊢
      have HL := hide hl
      have HQ : Hid (w.heap.size < wr.heap.size) := by obtain ⟨f, h1, _⟩ := HF.out.mp; exact h1.lt
      clear hF hcell hl
      go_upto_region 6 with fail
      obtain ⟨V, hV⟩ : ∃ V, V = wr.alloc (.cells #[.int .i64 (I j), .string (X j)] 35) := ⟨_, rfl⟩
      have hbV : Below wr.heap.size wr V := by rw [hV]; exact below_alloc (Below.refl _ _) _
      have HFV := hide (HF.out.skip hbV)
      have hbk : V.heap[wr.heap.size]? = some (.cells #[.int .i64 (I j), .string (X j)] 35) := by rw [hV]; exact heap_alloc_new wr _
      have HBK := hide hbk
      have q0 : V.cell? ⟨b, 0, none⟩ = some (.int .i64 k) := (HFV.out.be.cell (p := ⟨b, 0, none⟩) hb).trans HC.out
      have q1 : V.cell? ⟨wr.heap.size, 0, none⟩ = some (.int .i64 (I j)) := by rw [cell_of_row V _ 0 _ _ _ hbk]; rfl
      rw [← hV]
      clear hV hbV hbk HF p1 p2
      by_cases hfull : l = k
      · have b2 : (l : Int) = (k : Int) := by omega
        have HE : Hid (FW w V (.slice a2 l c2) w.heap.size I X (fu k I n)) := by
          have e : fu k I n = fu k I j := by
            have := fu_full (I := I) (j := j) (HL.out.symm.trans hfull) (n - j)
            rwa [show j + (n - j) = n by omega] at this
          show FW w V _ _ I X _
          rw [e, HL.out]
          exact HFV.out
        subst hfull
        clear HL
        go_wp2
        exact bodyPost_ret (v := .tuple #[.slice a2 l c2, .map (some w.heap.size)]) (by simp [results, Tryz.results35, go_sem]) rfl ⟨_, _, rfl, HE.out⟩
      · have b2 : ¬ ((l : Int) = (k : Int)) := by omega
        obtain ⟨z, hlook⟩ := HFV.out.seen hI.1 hI.2
        by_cases hsee : I j ∈ (fu k I j).map I
        · rw [decide_eq_true hsee] at hlook
          have HE : Hid (FW w V (.slice a2 l c2) w.heap.size I X (fu k I (j + 1))) := by
            show FW w V _ _ I X _
            rw [fu_skip (.inr hsee), HL.out]
            exact HFV.out
          clear HL HFV hsee
          go_wp2
          exact ⟨⟨j + 1, by omega, by go_num, HE.out⟩, by simp [RowKit.intOf]; omega⟩
        · rw [decide_eq_false hsee] at hlook
          obtain ⟨w1, hup, hold, hsz, hb1, a3, c3, w2, hap, hF2⟩ := HFV.out.take hsee (by rw [← HL.out]; omega) hI.1 hI.2
          rw [← fu_take (by rw [← HL.out]; exact hfull) hsee] at hF2
          rw [← HL.out] at hup hap hF2
          have HE := hide hF2
          have hne : wr.heap.size ≠ w.heap.size := by
            have := HQ.out
            omega
          have hbk1 := hold wr.heap.size _ (lt_of_block HBK.out) hne HBK.out
          have r0 : w1.cell? ⟨wr.heap.size, 0, none⟩ = some (.int .i64 (I j)) := by rw [cell_of_row w1 _ 0 _ _ _ hbk1]; rfl
          have r1 : w1.cell? ⟨wr.heap.size, 1, none⟩ = some (.string (X j)) := by rw [cell_of_row w1 _ 1 _ _ _ hbk1]; rfl
          clear hF2 hold hb1 hne hbk1 HFV HL HBK hsee hsz
          go_wp2_with (at_builtin; refine Lib.wpList_append_run _ rfl _ _ _ _ rfl _ _ rfl rfl _ _ hap ?_)
          exact ⟨⟨j + 1, by omega, by go_num, HE.out⟩, by simp [RowKit.intOf]; omega⟩
    · obtain rfl : j = n := by omega
      clear hF
      go_wp2
      exact bodyPost_ret (v := .tuple #[.slice a2 (fu k I j).length c2, .map (some w.heap.size)]) (by simp [results, Tryz.results35, go_sem]) rfl ⟨_, _, rfl, HF.out⟩
end Go.Proofs.YtfjkdmiaagalhaaGreat
