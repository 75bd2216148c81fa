/-
  Plain mathematics: k unlike shards join to the bytes; fewer to nothing.
-/
import Derived.Test.YtfjkdmiaagalhaaJoinU
import Derived.Deep.AppendSrc
import Derived.Deep.MidRow
import Derived.Lib.EndianMore
import Derived.Deep.Upon
import Derived.Test.YtfjkdmiaagalhaaChosen2
namespace Go.Proofs.Ytfjkdmiaagalhaa
open Go.RowKit Go.Lib

theorem fu_len_le (k : Nat) (I : Nat → Int) : ∀ j, (fu k I j).length ≤ j
  | 0 => Nat.le_refl _
  | j + 1 => by
    have := fu_len_le k I j
    rw [fu]
    split
    · omega
    · simp; omega
theorem fu_seen {k : Nat} {I : Nat → Int} : ∀ {n j : Nat}, j < n → (fu k I n).length = k ∨ I j ∈ (fu k I n).map I
  | 0, _, h => by omega
  | n + 1, j, h => by
    by_cases c : (fu k I n).length = k ∨ I n ∈ (fu k I n).map I
    · rw [fu_skip c]
      by_cases e : j = n
      · subst e; exact c
      · exact fu_seen (by omega)
    · rw [not_or] at c
      rw [fu_take c.1 c.2, List.map_append]
      by_cases e : j = n
      · subst e; exact .inr (List.mem_append.2 (.inr (by simp)))
      · rcases fu_seen (k := k) (I := I) (show j < n by omega) with h | h
        · exact absurd h c.1
        · exact .inr (List.mem_append.2 (.inl h))
/-- The same parts once more are no more parts. -/
theorem fu_twice {k n : Nat} {I : Nat → Int} (hn : n < k) : ∀ d, (∀ j, j < d → ∃ t, t < n ∧ I (n + j) = I t) → fu k I (n + d) = fu k I n
  | 0, _ => rfl
  | d + 1, h => by
    have e := fu_twice hn d (fun j hj => h j (by omega))
    obtain ⟨t, ht, he⟩ := h d (by omega)
    have hs : I t ∈ (fu k I n).map I := by
      rcases fu_seen (k := k) (I := I) ht with h | h
      · have := fu_len_le k I n; omega
      · exact h
    rw [← Nat.add_assoc, fu_skip (.inr (by rw [e, he]; exact hs)), e]
theorem fu_all {k : Nat} {I : Nat → Int} : ∀ n, n ≤ k → (∀ s t, s < n → t < n → I s = I t → s = t) → fu k I n = List.range n
  | 0, _, _ => rfl
  | n + 1, hn, hi => by
    have e := fu_all (k := k) (I := I) n (by omega) (fun s t hs ht => hi s t (by omega) (by omega))
    rw [fu_take, e, List.range_succ]
    · rw [e, List.length_range]; omega
    · rw [e]
      intro h
      obtain ⟨t, ht, h2⟩ := List.mem_map.1 h
      have := hi t n (by have := List.mem_range.1 ht; omega) (by omega) h2
      have := List.mem_range.1 ht
      omega
/-- k unlike shards join to the bytes. -/
theorem any_join {k m : Nat} (k1 : 1 ≤ k) (km : k + m ≤ 255) {I : Nat → Int} {X : Nat → ByteArray} {ρ : Nat → Nat} {n : Nat} (s : ByteArray) (hI : ∀ t, t < n → I t = ((ρ t : Nat) : Int)) (hρ : ∀ t, t < n → ρ t < k + m)
    (hX : ∀ t, t < n → X t = shd k s (ρ t)) (hf : (fu k I n).length = k) (hinj : ∀ a b, a < k → b < k → I ((fu k I n).getD a 0) = I ((fu k I n).getD b 0) → a = b) : joinB k I X n s.size = s := by
  have hmem : ∀ t, t < k → (fu k I n).getD t 0 < n := fun t ht => fu_lt (getD_mem (by rw [hf]; exact ht))
  have hr : ∀ t, t < k → rhoL I (fu k I n) t = ρ ((fu k I n).getD t 0) := fun t ht => by
    rw [rhoL, hI _ (hmem t ht)]
    exact Int.toNat_natCast _
  rw [joinB, cat_congr (Y' := pc k s) (fun i hi => bkd_shd k1 km (fun t ht => by rw [hr t ht]; exact hρ _ (hmem t ht)) (fun a b ha hb e => hinj a b ha hb (by
    rw [hr a ha, hr b hb] at e
    rw [hI _ (hmem a ha), hI _ (hmem b hb), e])) s (fun t ht => by rw [hr t ht, txL]; exact hX _ (hmem t ht)) hi)]
  exact cat_back k1 s
theorem any_join_all {k m : Nat} (k1 : 1 ≤ k) (km : k + m ≤ 255) {L : List Nat} (hl : L.length = k) (hd : L.Nodup) (hm : ∀ a ∈ L, a < k + m) (s : ByteArray) :
    fu k (fun t => ((L.getD t 0 : Nat) : Int)) k = List.range k ∧ joinB k (fun t => ((L.getD t 0 : Nat) : Int)) (fun t => shd k s (L.getD t 0)) k s.size = s := by
  have hinj : ∀ a b, a < k → b < k → ((L.getD a 0 : Nat) : Int) = ((L.getD b 0 : Nat) : Int) → a = b := fun a b ha hb e => nodup_inj hd a b (by omega) (by omega) (by omega)
  have hfu := fu_all (k := k) (I := fun t => ((L.getD t 0 : Nat) : Int)) k (Nat.le_refl _) hinj
  refine ⟨hfu, any_join (ρ := fun t => L.getD t 0) k1 km s (fun _ _ => rfl) (fun t ht => hm _ (getD_mem (by omega))) (fun _ _ => rfl) (by rw [hfu, List.length_range]) (fun a b ha hb e => ?_)⟩
  have g : ∀ t, t < k → (List.range k).getD t 0 = t := fun t ht => by rw [List.getD_eq_getElem?_getD, List.getElem?_range ht]; rfl
  rw [hfu, g a ha, g b hb] at e
  exact hinj a b ha hb e
end Go.Proofs.Ytfjkdmiaagalhaa

namespace Go.Proofs.Ytfjkdmiaagalhaa
open Go.RowKit Go.Lib

theorem pcells_shift (I : Nat → Int) (X : Nat → ByteArray) : ∀ n, pcells I X (n + 1) = [.int .i64 (I 0), .string (X 0)] ++ pcells (fun t => I (1 + t)) (fun t => X (1 + t)) n
  | 0 => rfl
  | n + 1 => by rw [pcells, pcells_shift I X n, List.append_assoc, pcells, Nat.add_comm 1 n]
theorem PX.of_range {w : World} {g o n c : Nat} {I : Nat → Int} {X : Nat → ByteArray} (hg : g < w.heap.size) (h : ∀ j u, (pcells I X n)[j]? = some u → w.cell? ⟨g, o + j, none⟩ = some u) : PX w (.slice (some ⟨g, o, none⟩) n c) n I X :=
  ⟨_, c, rfl, .inr ⟨g, o, rfl, hg, fun i hi => ⟨h _ _ (pcells_get0 hi), by rw [Nat.add_assoc]; exact h _ _ (pcells_get1 hi)⟩⟩⟩
/-- All but the first. -/
theorem IP.tail {w : World} {B g n cap : Nat} {I : Nat → Int} {X : Nat → ByteArray} (h : IP B (.slice (some ⟨g, 0, none⟩) (n + 1) cap) (n + 1) I X w) :
    g < w.heap.size ∧ B ≤ g ∧ n + 1 ≤ cap ∧ (∀ j u, (pcells (fun t => I (1 + t)) (fun t => X (1 + t)) n)[j]? = some u → w.cell? ⟨g, 2 + j, none⟩ = some u) ∧ (∀ j, j < cap * 2 → (w.cell? ⟨g, j, none⟩).isSome = true) ∧ ∀ j, w.frozen? ⟨g, j, none⟩ = false := by
  obtain ⟨h1, ⟨e, _⟩ | ⟨g', cap', cur, e, hB, hg, hn, _, hs, ht⟩⟩ := h.own
  · simp at e
  simp only [Value.slice.injEq, Option.some.injEq, Addr.mk.injEq, and_true, true_and] at e
  obtain ⟨rfl, rfl⟩ := e
  refine ⟨lt_of_block hg, hB, hn, fun j u hj => ?_, fun j hj => ?_, fun j => frozen_of_row w g j _ _ hg⟩
  · have hj' : j < n * 2 := by have := (List.getElem?_eq_some_iff.1 hj).1; rwa [pcells_length] at this
    rw [cell_of_row w g _ _ _ _ hg]
    have e2 : (pcells I X (n + 1))[2 + j]? = some u := by
      rw [pcells_shift, List.getElem?_append_right (by simp), List.length_cons, List.length_cons, List.length_nil, show 2 + j - (0 + 1 + 1) = j by omega]
      exact hj
    rw [← ht, List.getElem?_take, if_pos (by omega)] at e2
    simpa using e2
  · rw [cell_of_row w g _ _ _ _ hg, Array.getElem?_eq_getElem (by omega)]
    rfl
/-- Both behind one another. -/
theorem PX.both {w : World} {g o n c : Nat} {I : Nat → Int} {X : Nat → ByteArray} (hg : g < w.heap.size) (h1 : w.rangeAt g o (pcells I X n)) (h2 : w.rangeAt g (o + n * 2) (pcells I X n)) :
    PX w (.slice (some ⟨g, o, none⟩) (n + n) c) (n + n) (fun t => I (t % n)) (fun t => X (t % n)) :=
  ⟨_, c, rfl, .inr ⟨g, o, rfl, hg, fun i hi => by
    dsimp only
    by_cases e : i < n
    · rw [Nat.mod_eq_of_lt e]
      exact ⟨h1 _ _ (pcells_get0 e), by rw [Nat.add_assoc]; exact h1 _ _ (pcells_get1 e)⟩
    · have hm : i % n = i - n := by rw [Nat.mod_eq_sub_mod (by omega), Nat.mod_eq_of_lt (by omega)]
      have e2 : i - n < n := by omega
      rw [hm, show o + i * 2 = o + n * 2 + (i - n) * 2 by omega]
      exact ⟨h2 _ _ (pcells_get0 e2), by rw [Nat.add_assoc]; exact h2 _ _ (pcells_get1 e2)⟩⟩⟩
theorem twice_any {w : World} {B g n cap : Nat} {I : Nat → Int} {X : Nat → ByteArray} (h : IP B (.slice (some ⟨g, 0, none⟩) (n + 1) cap) (n + 1) I X w) (hn : n ≤ 255) :
    ∃ v' w', (Builtin.append_ #[43, 43] 43 #[.slice (some ⟨g, 2, none⟩) n (cap - 1), .slice (some ⟨g, 2, none⟩) n (cap - 1)]).run Try.prog w = .ok v' w' ∧
      PX w' v' (n + n) (fun t => I (1 + t % n)) (fun t => X (1 + t % n)) ∧ w.grownBy w' (some g) := by
  obtain ⟨hg, _, hcap, hD, hthere, hfr⟩ := h.tail
  obtain ⟨D, hDD⟩ : ∃ D, D = pcells (fun t => I (1 + t)) (fun t => X (1 + t)) n := ⟨_, rfl⟩
  have hlen : D.length = n * 2 := by rw [hDD, pcells_length]
  rw [← hDD] at hD
  obtain ⟨i0, hi, hz0, hz1, hz2⟩ := info_parts Try.infoPart
  have hs : Src Try.prog i0.size 43 (.slice (some ⟨g, 2, none⟩) n (cap - 1)) n D w := Src.ofSlice w Try.underlying43 ⟨g, 2, none⟩ n (cap - 1) D (by rw [hz1, hlen]) (fun j u hj => by rw [Addr.add_mid]; exact hD j u hj) (by rw [hDD]; exact pcells_one n)
  have R1 : w.rangeAt g 2 D := hD
  by_cases hroom : n + n ≤ cap - 1
  · have hth : w.there g (2 + n * 2) D.length := fun j hj => ⟨hthere _ (by omega), hfr _⟩
    have hr := run_append_room_src w 43 43 43 53 i0 Try.underlying43 hi g 2 n (cap - 1) _ n D hs hroom (fun j hj => by rw [hz1]; exact (hth j hj).1) (fun j hj => by rw [hz1]; exact (hth j hj).2)
    rw [hz1] at hr
    have hb0 := below_setCells_w (B := 0) (Nat.zero_le g) D (2 + n * 2) w
    refine ⟨_, _, hr, ?_, ⟨hb0.os, hb0.tape, hb0.output, hb0.size, fun i hi hne => World.heap_setCells_other w g _ D hi (by simpa using hne)⟩⟩
    have hsz : w.heap.size ≤ (w.setCells g (2 + n * 2) D).heap.size := (below_setCells_w (B := 0) (Nat.zero_le _) D _ w).size
    have A1 := World.rangeAt_setCells_apart R1 g (2 + n * 2) D (.inr (.inl (by omega)))
    have A2 := World.rangeAt_setCells_same w g (2 + n * 2) D hth
    rw [hDD] at A1 A2 hsz ⊢
    exact PX.both (Nat.lt_of_lt_of_le hg hsz) A1 A2
  · have hr := run_append_grow_src w 43 43 43 53 i0 (.agg #[.int .i64 0, .string ⟨#[]⟩]) Try.underlying43 hi hz0 (some ⟨g, 2, none⟩) n (cap - 1) D hs.cellsD _ n D hs (by omega) (by omega) (by
      have := nextslicecap_le (need := n + n) (old := cap - 1) (by omega)
      rw [hz2]
      omega)
    refine ⟨_, _, hr, ?_, gb_below (((Below.refl w.heap.size w).drew).alloc (Nat.le_refl _) _) _⟩
    have hblk := heap_alloc_new w.drew (.cells ((D ++ D).toArray ++ Builtin.zeroCells (Value.agg #[.int .i64 0, .string ⟨#[]⟩]).cells (grownCap w (n + n) (cap - 1) 53 - (n + n))) 53)
    have hget : ∀ j u, (D ++ D)[j]? = some u → (w.drew.alloc (.cells ((D ++ D).toArray ++ Builtin.zeroCells (Value.agg #[.int .i64 0, .string ⟨#[]⟩]).cells (grownCap w (n + n) (cap - 1) 53 - (n + n))) 53)).cell? ⟨w.heap.size, j, none⟩ = some u := fun j u hj => by
      have hjl : j < (D ++ D).length := (List.getElem?_eq_some_iff.1 hj).1
      have hc := cell_of_row _ _ j _ _ _ hblk
      refine hc.trans ?_
      rw [Array.getElem?_append_left (by simpa using hjl)]
      simpa using hj
    refine PX.both (lt_of_block hblk) (I := fun t => I (1 + t)) (X := fun t => X (1 + t)) (fun j u hj => ?_) (fun j u hj => ?_)
    · rw [Nat.zero_add]
      refine hget j u ?_
      rw [← hDD] at hj
      rw [List.getElem?_append_left (List.getElem?_eq_some_iff.1 hj).1]
      exact hj
    · rw [Nat.zero_add]
      refine hget _ u ?_
      rw [← hDD] at hj
      rw [List.getElem?_append_right (by omega), hlen, Nat.add_sub_cancel_left]
      exact hj
/-- None, twice. -/
theorem twice_none (w : World) (b o c : Nat) :
    (Builtin.append_ #[43, 43] 43 #[.slice (some ⟨b, o, none⟩) 0 c, .slice (some ⟨b, o, none⟩) 0 c]).run Try.prog w = .ok (.slice (some ⟨b, o, none⟩) 0 c) w := by
  obtain ⟨i0, hi, _⟩ := info_parts Try.infoPart
  have hs : Src Try.prog i0.size 43 (.slice (some ⟨b, o, none⟩) 0 c) 0 [] w := Src.ofSlice w Try.underlying43 ⟨b, o, none⟩ 0 c [] (by simp) (fun j u hj => by simp at hj) (by simp)
  exact run_append_room_src w 43 43 43 53 i0 Try.underlying43 hi b o 0 c _ 0 [] hs (Nat.zero_le _) (fun j hj => by simp at hj) (fun j hj => by simp at hj)
end Go.Proofs.Ytfjkdmiaagalhaa

namespace Go.Proofs.Ytfjkdmiaagalhaa
open Go.RowKit Go.Lib

set_option maxRecDepth 100000 in
set_option maxHeartbeats 1600000 in
theorem snew_ok2 {w : World} {k m : Nat} (k1 : 1 ≤ k) (km : k + m ≤ 255) :
    Calls Try.prog 8 #[.int .i64 k, .int .i64 m] w fun e w' => ∃ b sb f1 f2 g, e = .returned (.tuple #[.pointer (some ⟨b, 0, none⟩), .int .i64 0]) ∧ PP w' b sb f1 f2 g k m ∧ w.heap.size ≤ f1 ∧ w.heap.size ≤ f2 ∧ Below w.heap.size w w' := by
  go_enter Try.func8, Try.ntmps8
  go_wp2_with fail
  refine (mnew_any _).mono ?_
  rintro e w1 ⟨sb, f1, rfl, hS, hf, hsb, hb1⟩
  have HS1 := hide hS
  have HB1 := hide hb1
  have HF := hide hf
  clear hS hf hsb hb1
  go_wp2_with fail
  refine (cauchy_ok HS1.out k1 km).mono ?_
  rintro e w2 ⟨g, rfl, hG, hg, hS2, hg2⟩
  have HB2 := hide (below_gb HB1.out hg2 HF.out HB1.out.size)
  obtain ⟨N, hN⟩ : ∃ N, N = (k + m) * k := ⟨_, rfl⟩
  obtain ⟨km', hkm⟩ : ∃ n, n = k + m := ⟨_, rfl⟩
  rw [← hkm] at hN
  rw [← hkm, ← hN] at hG ⊢
  have X := Bx.new w2 (km' : Int) (k : Int) (.slice (some ⟨g, 0, none⟩) N N)
  have HX := hide X
  have HS2 := hide (hS2.alloc (.cells #[.int .i64 (km' : Int), .int .i64 (k : Int), .slice (some ⟨g, 0, none⟩) N N] 58))
  have HG := hide (hG.alloc (.cells #[.int .i64 (km' : Int), .int .i64 (k : Int), .slice (some ⟨g, 0, none⟩) N N] 58))
  have HB3 := hide (below_alloc HB2.out (.cells #[.int .i64 (km' : Int), .int .i64 (k : Int), .slice (some ⟨g, 0, none⟩) N N] 58))
  have HE := hide (And.intro hkm hN)
  clear HS1 HB1 hG hg hS2 hg2 HB2 hN hkm X
  obtain ⟨W, hW⟩ : ∃ W, W = w2.alloc (.cells #[.int .i64 (km' : Int), .int .i64 (k : Int), .slice (some ⟨g, 0, none⟩) N N] 58) := ⟨_, rfl⟩
  rw [← hW] at HX HS2 HG HB3
  have HW := hide hW
  clear hW
  go_upto_region 5 with fail
  rw [← HW.out]
  have HK : Hid (∀ w', Below W.heap.size W w' → w'.cell? ⟨w2.heap.size, 0, none⟩ = some (.int .i64 (km' : Int)) ∧ w'.cell? ⟨w2.heap.size, 1, none⟩ = some (.int .i64 (k : Int)) ∧ w'.cell? ⟨w2.heap.size, 2, none⟩ = some (.slice (some ⟨g, 0, none⟩) N N)) := fun w' hb => ⟨(HX.out.below hb (Nat.le_refl _)).cell0, (HX.out.below hb (Nat.le_refl _)).cell1, (HX.out.below hb (Nat.le_refl _)).cell2⟩
  have HB0 : Hid (Below W.heap.size W W.drew) := (Below.refl _ _).drew
  go_region_held_law (fun wx => wx.cell? ⟨w2.heap.size, 0, none⟩ = some (.int .i64 (km' : Int)) ∧ wx.cell? ⟨w2.heap.size, 1, none⟩ = some (.int .i64 (k : Int)) ∧ wx.cell? ⟨w2.heap.size, 2, none⟩ = some (.slice (some ⟨g, 0, none⟩) N N))
    (first | with_reducible exact HK.out _ HB0.out | with_reducible exact HK.out _ (by assumption) | with_reducible exact HK.out _ (below_alloc (by assumption) _))
    (first
      | (go_at_call 24; refine (new_any _).mono ?_; rintro e wa ⟨rfl, hF, hba⟩; have hbA := below_step HB0.out hba))
  all_goals
    go_wp2
    obtain ⟨rfl, rfl⟩ := HE.out
    have hlt : W.heap.size < wa.heap.size := hF.lt
    refine bodyPost_ret (v := .tuple #[.pointer (some ⟨wa.heap.size, 0, none⟩), .int .i64 0]) (by simp [results, Try.results8, go_sem]) rfl ⟨wa.heap.size, sb, f1, W.heap.size, g, rfl, ⟨heap_alloc_new wa _, (HS2.out.below hbA (Nat.le_refl _)).alloc _, hF.below (below_alloc (Below.refl wa.heap.size wa) _) (Nat.le_refl _), (HG.out.below hbA (Nat.le_refl _)).alloc _, by have := HS2.out.ltf; omega⟩, HF.out, HB3.out.size, below_alloc (below_step HB3.out hbA) _⟩


/-- The block of a list of parts is turned. -/
theorem PP.putp {w w' : World} {b sb f1 f2 g k m q : Nat} {cs : Array Value} {fr : Nat × Nat} (h : PP w b sb f1 f2 g k m) (hS : w.heap[q]? = some (.cells cs 53 fr)) (hg : w.grownBy w' (some q)) : PP w' b sb f1 f2 g k m := by
  have nb : b ≠ q := by
    intro e; subst e
    have x := h.pl
    unfold PL at x; rw [x] at hS; simp at hS
  have ng : g ≠ q := by
    intro e; subst e
    obtain ⟨Z, x⟩ := h.kb
    rw [x] at hS; simp at hS
  exact ⟨h.pl.of_block (hg.block b h.pl.lt (by simpa using nb)), h.sp.set hS (by decide) (by decide) (by decide) hg, h.fl.set hS (by decide) (by decide) hg, h.kb.of_block (hg.block g h.kb.lt (by simpa using ng)), h.ne⟩
theorem IP.nef {B n f : Nat} {w : World} {v : Value} {I : Nat → Int} {X : Nat → ByteArray} (h : IP B v n I X w) (hF : F w f) : v.ownBlock ≠ some f := by
  rcases h.own.2 with ⟨rfl, _⟩ | ⟨g, cap, cur, e, hB, hg, r⟩
  · simp [Value.ownBlock]
  · intro e2
    rw [e] at e2
    simp [Value.ownBlock] at e2
    subst e2
    rcases hF with x | ⟨_, _, x, _⟩ <;> (unfold FB at x; rw [hg] at x; simp at x)
theorem IP.gs {B n f1 f2 : Nat} {w w' : World} {v : Value} {I : Nat → Int} {X : Nat → ByteArray} (h : IP B v n I X w) (h1 : F w f1) (h2 : F w f2) (hg : Gs (fun i => i = f1 ∨ i = f2) w w') : IP B v n I X w' := by
  have n1 := h.nef h1
  have n2 := h.nef h2
  refine ⟨h.own.1, ?_⟩
  rcases h.own.2 with h2 | ⟨g, cap, cur, e, hB, hgg, r⟩
  · exact .inl h2
  · refine .inr ⟨g, cap, cur, e, hB, (hg.block g (lt_of_block hgg) ?_).trans hgg, r⟩
    rintro (rfl | rfl)
    · exact n1 (by rw [e]; rfl)
    · exact n2 (by rw [e]; rfl)
theorem SB.gs {w w' : World} {q n f1 f2 : Nat} {X : Nat → ByteArray} (h : SB w q n X) (h1 : F w f1) (h2 : F w f2) (hg : Gs (fun i => i = f1 ∨ i = f2) w w') : SB w' q n X :=
  h.of_block (hg.block q h.lt (by
    rintro (e | e)
    · exact h.nef h1 e
    · exact h.nef h2 e))
end Go.Proofs.Ytfjkdmiaagalhaa
