/-
  A list of the document's own parts.
-/
import Derived.Test.YtfjkdmiaagalhaaGreatJoinU
import Derived.BigQuiet
namespace Go.Proofs.YtfjkdmiaagalhaaGreat
open Go.RowKit Go.Lib
theorem getD_left {L : List Nat} (x : Nat) {t : Nat} (h : t < L.length) : (L ++ [x]).getD t 0 = L.getD t 0 := by
  rw [List.getD_eq_getElem?_getD, List.getD_eq_getElem?_getD, List.getElem?_append_left h]
theorem getD_last (L : List Nat) (x : Nat) : (L ++ [x]).getD L.length 0 = x := by
  rw [List.getD_eq_getElem?_getD, List.getElem?_append_right (Nat.le_refl _), Nat.sub_self]; rfl
end Go.Proofs.YtfjkdmiaagalhaaGreat

namespace Go.Proofs.YtfjkdmiaagalhaaGreat.Rr
open Go.RowKit Go.Lib

theorem Tryz.infoPart : (Tryz.prog.info? 36).map (fun i => (i.zero, i.size, i.bytes)) = some (some (.agg #[.int .i64 0, .string ⟨#[]⟩]), 2, 24) := by kernel_rfl
structure IP (B : Nat) (v : Value) (n : Nat) (I : Nat → Int) (X : Nat → ByteArray) (w : World) : Prop where
  own : w.ownsRow B 36 2 v n (pcells I X n)
section
variable {B n : Nat} {v : Value} {I I' : Nat → Int} {X X' : Nat → ByteArray} {w w' : World}
theorem IP.nil (B : Nat) (w : World) (I : Nat → Int) (X : Nat → ByteArray) : IP B (.slice none 0 0) 0 I X w := ⟨World.ownsRow_nil w B 36 2⟩
theorem IP.px (h : IP B v n I X w) : PX w v n I X := by
  obtain ⟨h1, ⟨rfl, h2⟩ | ⟨g, cap, cur, rfl, hB, hg, hn, _, hs, ht⟩⟩ := h.own
  · subst h2; exact ⟨_, _, rfl, .inl rfl⟩
  · refine ⟨_, cap, rfl, .inr ⟨g, 0, rfl, lt_of_block hg, fun j hj => ?_⟩⟩
    have e0 := pcells_get0 (I := I) (X := X) hj
    have e1 := pcells_get1 (I := I) (X := X) hj
    rw [← ht, List.getElem?_take, if_pos (by omega)] at e0 e1
    rw [Nat.zero_add, cell_of_row w g _ _ _ _ hg, cell_of_row w g _ _ _ _ hg]
    exact ⟨by simpa using e0, by simpa using e1⟩
theorem IP.shp (h : IP B v n I X w) : ∃ a c, v = .slice a n c := by
  obtain ⟨a, c, e, _⟩ := h.px
  exact ⟨a, c, e⟩
theorem IP.keep (h : IP B v n I X w) (hb : Below w.heap.size w w') : IP B v n I X w' := by
  refine ⟨h.own.1, ?_⟩
  rcases h.own.2 with h2 | ⟨g, cap, cur, e, hB, hg, r⟩
  · exact .inl h2
  · exact .inr ⟨g, cap, cur, e, hB, (hb.block g (lt_of_block hg)).trans hg, r⟩
theorem IP.lt (h : IP B v n I X w) (b : Nat) (hb : v.ownBlock = some b) : B ≤ b ∧ b < w.heap.size := by
  obtain ⟨h1, ⟨rfl, h2⟩ | ⟨g, cap, cur, rfl, hB, hg, _⟩⟩ := h.own
  · simp [Value.ownBlock] at hb
  · simp only [Value.ownBlock, Option.some.injEq] at hb
    subst hb
    exact ⟨hB, lt_of_block hg⟩
theorem IP.congr (h : IP B v n I X w) (e : ∀ i, i < n → I i = I' i ∧ X i = X' i) : IP B v n I' X' w := ⟨by rw [← pcells_congr e]; exact h.own⟩
theorem IP.one2 (h : IP B v n I X w) (x : Int) (y : ByteArray) (hb : n + 1 ≤ 100000) (hB : B ≤ w.heap.size) :
    ∃ v' w', (Builtin.append_ #[33, 33] 33 #[v, .slice (some ⟨w.heap.size, 0, none⟩) 1 1]).run Tryz.prog (w.alloc (.cells #[.int .i64 x, .string y] 36)) = .ok v' w' ∧ IP B v' (n + 1) (fun t => if t < n then I t else x) (fun t => if t < n then X t else y) w' ∧ (w.alloc (.cells #[.int .i64 x, .string y] 36)).grownBy w' v.ownBlock ∧ ∀ b, v'.ownBlock = some b → v.ownBlock = some b ∨ w.heap.size ≤ b := by
  have hal : Below w.heap.size w (w.alloc (.cells #[.int .i64 x, .string y] 36)) := below_alloc (Below.refl _ _) _
  have h' := h.keep hal
  obtain ⟨i0, hi, hz0, hz1, hz2⟩ := info_parts Tryz.infoPart
  obtain ⟨v', w', h1, h2, h3, _, h5⟩ := run_append_own_at (P := Tryz.prog) _ B 33 33 36 i0 (.agg #[.int .i64 0, .string ⟨#[]⟩]) 2 24 Tryz.underlying33 hi hz0 hz1 hz2 rfl (by decide) v n (pcells I X n) h'.own ⟨w.heap.size, 0, none⟩ 1 1 [.int .i64 x, .string y] rfl (fun j u hj => by
      rw [Addr.add_mid, Nat.zero_add, cell_of_row _ _ _ _ _ _ (heap_alloc_new w _)]
      simpa using hj) (by simp [Value.oneCell']) (by unfold maxLen; omega) (by omega) (by simp; omega)
  have e : pcells I X n ++ [.int .i64 x, .string y] = pcells (fun t => if t < n then I t else x) (fun t => if t < n then X t else y) (n + 1) := by
    have e1 : pcells I X n = pcells (fun t => if t < n then I t else x) (fun t => if t < n then X t else y) n := pcells_congr fun i hi => ⟨(if_pos hi).symm, (if_pos hi).symm⟩
    have e2 : (if n < n then I n else x) = x := if_neg (by omega)
    have e3 : (if n < n then X n else y) = y := if_neg (by omega)
    rw [pcells, ← e1, e2, e3]
  refine ⟨v', w', h1, ⟨by rw [← e]; exact h2⟩, h3, fun b hb => ?_⟩
  rcases h5 with h5 | h5
  · exact .inl (h5 ▸ hb)
  · rw [h5] at hb
    simp at hb
    exact .inr (by omega)
end
theorem IP.apart {B n : Nat} {w w' : World} {v : Value} {I : Nat → Int} {X : Nat → ByteArray} {row : Option Nat} (h : IP B v n I X w) (hg : w.grownBy w' row) (ha : ∀ b, v.ownBlock = some b → row ≠ some b) : IP B v n I X w' := by
  refine ⟨h.own.1, ?_⟩
  rcases h.own.2 with h2 | ⟨g, cap, cur, e, hB, hgg, r⟩
  · exact .inl h2
  · exact .inr ⟨g, cap, cur, e, hB, (hg.block g (lt_of_block hgg) (by have := ha g (by rw [e]; rfl); exact fun x => this x.symm)).trans hgg, r⟩
end Go.Proofs.YtfjkdmiaagalhaaGreat.Rr

namespace Go.Proofs.YtfjkdmiaagalhaaGreat
open Go.RowKit Go.Lib Go.Maps

/-- What Join answers: its code, and its bytes. -/
def jnC (k m : Nat) (long : Int) (I : Nat → Int) (X : Nat → ByteArray) (n : Nat) : Int := if faultV k m long I X n ≠ 0 then faultV k m long I X n else if (fu k I n).length < k then 50 else 0
def jnS (k m : Nat) (long : Int) (I : Nat → Int) (X : Nat → ByteArray) (n : Nat) : ByteArray := if faultV k m long I X n ≠ 0 then ⟨#[]⟩ else if (fu k I n).length < k then ⟨#[]⟩ else joinB k I X n long.toNat
/-- What Shard answers. -/
def shC (k m : Nat) (long : Int) (idx : Int) (I : Nat → Int) (X : Nat → ByteArray) (n : Nat) : Int := if faultV k m long I X n ≠ 0 then faultV k m long I X n else if ¬ (0 ≤ idx ∧ idx < ((k + m : Nat) : Int)) then 1 else if (fu k I n).length < k then 50 else 0
def shS (k m : Nat) (long : Int) (idx : Int) (I : Nat → Int) (X : Nat → ByteArray) (n : Nat) : ByteArray := if faultV k m long I X n ≠ 0 then ⟨#[]⟩ else if ¬ (0 ≤ idx ∧ idx < ((k + m : Nat) : Int)) then ⟨#[]⟩ else if (fu k I n).length < k then ⟨#[]⟩ else shd k (joinB k I X n long.toNat) idx.toNat
/-- Parts without fault. -/
theorem faultV_zero {k m : Nat} {long : Int} {I : Nat → Int} {X : Nat → ByteArray} {n : Nat} (h : faultV k m long I X n = 0) : 0 ≤ long ∧ long ≤ 65536 ∧ (∀ i, i < n → 0 ≤ I i ∧ I i < ((k + m : Nat) : Int)) ∧ ∀ i, i < n → (X i).size = eachN k long.toNat := by
  rw [faultV] at h
  split at h
  · omega
  · exact ⟨by omega, by omega, fun i hi => (flt_zero h i hi).1, fun i hi => (flt_zero h i hi).2⟩
theorem nz_bne {x : Int} (h : x ≠ 0) : (x != 0) = true := by simpa using h

set_option maxRecDepth 100000 in
set_option maxHeartbeats 1600000 in
theorem pjoin_all {w : World} {b sb f1 f2 g k m : Nat} (h : PP w b sb f1 f2 g k m) (k1 : 1 ≤ k) (km : k + m ≤ 255) {vp : Value} {n : Nat} {I : Nat → Int} {X : Nat → ByteArray} (hn : n ≤ maxLen) (hP : PX w vp n I X)
    (hXs : ∀ i, i < n → (X i).size ≤ 9223372036854775807) (long : Int) :
    Calls Tryz.prog 8 #[.pointer (some ⟨b, 0, none⟩), vp, .int .i64 long] w fun e w' =>
      e = .returned (.tuple #[.string (jnS k m long I X n), .int .i64 (jnC k m long I X n)]) ∧ PP w' b sb f1 f2 g k m ∧ Gs (fun i => i = f1 ∨ i = f2) w w' := by
  by_cases hf : faultV k m long I X n = 0
  · obtain ⟨h0, h1, hI, hX⟩ := faultV_zero hf
    have := join_any h k1 km hn hP (long := long.toNat) (by omega) hI hX
    rw [Int.toNat_of_nonneg h0] at this
    refine this.mono ?_
    rintro e w' ⟨⟨hlt, rfl⟩ | ⟨hlt, rfl⟩, hP', hg⟩
    · exact ⟨by rw [jnS, jnC, if_neg (Classical.not_not.2 hf), if_neg (Classical.not_not.2 hf), if_pos hlt, if_pos hlt], hP', hg⟩
    · exact ⟨by rw [jnS, jnC, if_neg (Classical.not_not.2 hf), if_neg (Classical.not_not.2 hf), if_neg (by omega), if_neg (by omega)], hP', hg⟩
  · rw [jnS, jnC, if_pos hf, if_pos hf]
    have HP := hide h
    have HF := hide (fault_any h k1 km hn hP hXs long)
    generalize faultV k m long I X n = fv at *
    have b1 := nz_bne hf
    have b2 : ¬ fv = 0 := hf
    clear h hP hXs
    go_enter Tryz.func8, Tryz.ntmps8
    go_wp2_with fail
    refine HF.out.mono ?_
    rintro e w1 ⟨rfl, hb1⟩
    have HE : Hid (PP w1 b sb f1 f2 g k m ∧ Gs (fun i => i = f1 ∨ i = f2) w w1) := ⟨HP.out.below hb1, Gs.of_below _ hb1⟩
    clear hb1 HF
    go_wp2
    exact bodyPost_ret (v := .tuple #[.string ⟨#[]⟩, .int .i64 fv]) (by simp [results, Tryz.results8, go_sem]) rfl ⟨rfl, HE.out⟩

set_option maxRecDepth 100000 in
set_option maxHeartbeats 1600000 in
theorem pshard_all {w : World} {b sb f1 f2 g k m : Nat} (h : PP w b sb f1 f2 g k m) (k1 : 1 ≤ k) (km : k + m ≤ 255) {vp : Value} {n : Nat} {I : Nat → Int} {X : Nat → ByteArray} (hn : n ≤ maxLen) (hP : PX w vp n I X)
    (hXs : ∀ i, i < n → (X i).size ≤ 9223372036854775807) (long idx : Int) :
    Calls Tryz.prog 10 #[.pointer (some ⟨b, 0, none⟩), vp, .int .i64 long, .int .i64 idx] w fun e w' =>
      e = .returned (.tuple #[.string (shS k m long idx I X n), .int .i64 (shC k m long idx I X n)]) ∧ PP w' b sb f1 f2 g k m ∧ Gs (fun i => i = f1 ∨ i = f2) w w' := by
  by_cases hf : faultV k m long I X n = 0
  · rw [shS, shC, if_neg (Classical.not_not.2 hf), if_neg (Classical.not_not.2 hf)]
    obtain ⟨h0, h1, hI, hX⟩ := faultV_zero hf
    by_cases hx : 0 ≤ idx ∧ idx < ((k + m : Nat) : Int)
    · rw [if_neg (Classical.not_not.2 hx), if_neg (Classical.not_not.2 hx)]
      by_cases hlt : (fu k I n).length < k
      · rw [if_pos hlt, if_pos hlt]
        have HP := hide h
        have HF := hide (fault_any h k1 km hn hP hXs long)
        rw [hf] at HF
        have HJ : Hid (∀ w', Below w.heap.size w w' → _) := fun w' hb => ljoin_any (h.below hb) k1 km hn (hP.below hb (Nat.le_refl _)) (long := long.toNat) (by omega) hI hX
        rw [Int.toNat_of_nonneg h0] at HJ
        clear h hP hXs hI hX hf
        go_enter Tryz.func10, Tryz.ntmps10
        go_wp2_with fail
        refine HF.out.mono ?_
        rintro e w1 ⟨rfl, hb1⟩
        have HB1 := hide hb1
        clear hb1
        go_wp2_with fail
        refine (isNumber_any (HP.out.below HB1.out) km idx).mono ?_
        rintro e w2 ⟨rfl, hb2⟩
        have HB2 := hide (below_step HB1.out hb2)
        rw [decide_eq_true hx]
        clear hb2 HB1
        go_wp2_with fail
        refine (HJ.out _ HB2.out).mono ?_
        rintro e w3 ⟨⟨_, rfl⟩ | ⟨hl, _⟩, hP3, hg3⟩
        · have HE : Hid (PP w3 b sb f1 f2 g k m ∧ Gs (fun i => i = f1 ∨ i = f2) w w3) := ⟨hP3, (Gs.of_below _ HB2.out).trans hg3⟩
          clear hP3 hg3 HJ
          go_wp2
          exact bodyPost_ret (v := .tuple #[.string ⟨#[]⟩, .int .i64 50]) (by simp [results, Tryz.results10, go_sem]) rfl ⟨rfl, HE.out⟩
        · omega
      · rw [if_neg hlt, if_neg hlt]
        have := shardU_ok h k1 km hn hP (long := long.toNat) (by omega) hI hX (by have := fu_le k I n; omega) (i := idx.toNat) (by omega)
        rw [Int.toNat_of_nonneg h0, Int.toNat_of_nonneg hx.1] at this
        exact this
    · rw [if_pos hx, if_pos hx]
      have HP := hide h
      have HF := hide (fault_any h k1 km hn hP hXs long)
      rw [hf] at HF
      clear h hP hXs hI hX hf
      go_enter Tryz.func10, Tryz.ntmps10
      go_wp2_with fail
      refine HF.out.mono ?_
      rintro e w1 ⟨rfl, hb1⟩
      have HB1 := hide hb1
      clear hb1
      go_wp2_with fail
      refine (isNumber_any (HP.out.below HB1.out) km idx).mono ?_
      rintro e w2 ⟨rfl, hb2⟩
      have HB2 := hide (below_step HB1.out hb2)
      rw [decide_eq_false hx]
      have HE : Hid (PP w2 b sb f1 f2 g k m ∧ Gs (fun i => i = f1 ∨ i = f2) w w2) := ⟨HP.out.below HB2.out, Gs.of_below _ HB2.out⟩
      clear hb2 HB1
      go_wp2
      exact bodyPost_ret (v := .tuple #[.string ⟨#[]⟩, .int .i64 1]) (by simp [results, Tryz.results10, go_sem]) rfl ⟨rfl, HE.out⟩
  · rw [shS, shC, if_pos hf, if_pos hf]
    have HP := hide h
    have HF := hide (fault_any h k1 km hn hP hXs long)
    generalize faultV k m long I X n = fv at *
    have b1 := nz_bne hf
    have b2 : ¬ fv = 0 := hf
    clear h hP hXs
    go_enter Tryz.func10, Tryz.ntmps10
    go_wp2_with fail
    refine HF.out.mono ?_
    rintro e w1 ⟨rfl, hb1⟩
    have HE : Hid (PP w1 b sb f1 f2 g k m ∧ Gs (fun i => i = f1 ∨ i = f2) w w1) := ⟨HP.out.below hb1, Gs.of_below _ hb1⟩
    clear hb1 HF
    go_wp2
    exact bodyPost_ret (v := .tuple #[.string ⟨#[]⟩, .int .i64 fv]) (by simp [results, Tryz.results10, go_sem]) rfl ⟨rfl, HE.out⟩
end Go.Proofs.YtfjkdmiaagalhaaGreat

namespace Go.Proofs.YtfjkdmiaagalhaaGreat
open Go.RowKit Go.Lib

theorem PP.putp {w w' : World} {b sb f1 f2 g k m q : Nat} {cs : Array Value} {fr : Nat × Nat} (h : PP w b sb f1 f2 g k m) (hS : w.heap[q]? = some (.cells cs 35 fr)) (hg : w.grownBy w' (some q)) : PP w' b sb f1 f2 g k m := by
  have nb : b ≠ q := by
    intro e; subst e
    have x := h.pl
    unfold PL at x; rw [x] at hS; simp at hS
  have ng : g ≠ q := by
    intro e; subst e
    obtain ⟨Z, x⟩ := h.kb
    rw [x] at hS; simp at hS
  exact ⟨h.pl.of_block (hg.block b h.pl.lt (by simpa using nb)), h.sp.set hS (by decide) (by decide) (by decide) hg, h.fl.set hS (by decide) (by decide) hg, h.kb.of_block (hg.block g h.kb.lt (by simpa using ng)), h.ne⟩
set_option maxRecDepth 100000 in
set_option maxHeartbeats 1600000 in
theorem snew_ok2 {w : World} {k m : Nat} (k1 : 1 ≤ k) (km : k + m ≤ 255) :
    Calls Tryz.prog 6 #[.int .i64 k, .int .i64 m] w fun e w' => ∃ b sb f1 f2 g, e = .returned (.tuple #[.pointer (some ⟨b, 0, none⟩), .int .i64 0]) ∧ PP w' b sb f1 f2 g k m ∧ w.heap.size ≤ f1 ∧ w.heap.size ≤ f2 ∧ Below w.heap.size w w' := by
  go_enter Tryz.func6, Tryz.ntmps6
  go_wp2_with fail
  refine (mnew_any _).mono ?_
  rintro e w1 ⟨sb, f1, rfl, hS, hf, hsb, hb1⟩
  have HS1 := hide hS
  have HB1 := hide hb1
  have HF := hide hf
  clear hS hf hsb hb1
  go_wp2_with fail
  refine (cauchy_ok HS1.out k1 km).mono ?_
  rintro e w2 ⟨g, rfl, hG, hg, hS2, hg2⟩
  have HB2 := hide (below_gb HB1.out hg2 HF.out HB1.out.size)
  obtain ⟨N, hN⟩ : ∃ N, N = (k + m) * k := ⟨_, rfl⟩
  obtain ⟨km', hkm⟩ : ∃ n, n = k + m := ⟨_, rfl⟩
  rw [← hkm] at hN
  rw [← hkm, ← hN] at hG ⊢
  have X := Bx.new w2 (km' : Int) (k : Int) (.slice (some ⟨g, 0, none⟩) N N)
  have HX := hide X
  have HS2 := hide (hS2.alloc (.cells #[.int .i64 (km' : Int), .int .i64 (k : Int), .slice (some ⟨g, 0, none⟩) N N] 50))
  have HG := hide (hG.alloc (.cells #[.int .i64 (km' : Int), .int .i64 (k : Int), .slice (some ⟨g, 0, none⟩) N N] 50))
  have HB3 := hide (below_alloc HB2.out (.cells #[.int .i64 (km' : Int), .int .i64 (k : Int), .slice (some ⟨g, 0, none⟩) N N] 50))
  have HE := hide (And.intro hkm hN)
  clear HS1 HB1 hG hg hS2 hg2 HB2 hN hkm X
  obtain ⟨W, hW⟩ : ∃ W, W = w2.alloc (.cells #[.int .i64 (km' : Int), .int .i64 (k : Int), .slice (some ⟨g, 0, none⟩) N N] 50) := ⟨_, rfl⟩
  rw [← hW] at HX HS2 HG HB3
  have HW := hide hW
  clear hW
  go_upto_region 5 with fail
  rw [← HW.out]
  have HK : Hid (∀ w', Below W.heap.size W w' → w'.cell? ⟨w2.heap.size, 0, none⟩ = some (.int .i64 (km' : Int)) ∧ w'.cell? ⟨w2.heap.size, 1, none⟩ = some (.int .i64 (k : Int)) ∧ w'.cell? ⟨w2.heap.size, 2, none⟩ = some (.slice (some ⟨g, 0, none⟩) N N)) := fun w' hb => ⟨(HX.out.below hb (Nat.le_refl _)).cell0, (HX.out.below hb (Nat.le_refl _)).cell1, (HX.out.below hb (Nat.le_refl _)).cell2⟩
  have HB0 : Hid (Below W.heap.size W W.drew) := (Below.refl _ _).drew
  go_region_held_law (fun wx => wx.cell? ⟨w2.heap.size, 0, none⟩ = some (.int .i64 (km' : Int)) ∧ wx.cell? ⟨w2.heap.size, 1, none⟩ = some (.int .i64 (k : Int)) ∧ wx.cell? ⟨w2.heap.size, 2, none⟩ = some (.slice (some ⟨g, 0, none⟩) N N))
    (first | with_reducible exact HK.out _ HB0.out | with_reducible exact HK.out _ (by assumption) | with_reducible exact HK.out _ (below_alloc (by assumption) _))
    (first
      | (go_at_call 15; refine (new_any _).mono ?_; rintro e wa ⟨rfl, hF, hba⟩; have hbA := below_step HB0.out hba))
  all_goals
    go_wp2
    obtain ⟨rfl, rfl⟩ := HE.out
    have hlt : W.heap.size < wa.heap.size := hF.lt
    refine bodyPost_ret (v := .tuple #[.pointer (some ⟨wa.heap.size, 0, none⟩), .int .i64 0]) (by simp [results, Tryz.results6, go_sem]) rfl ⟨wa.heap.size, sb, f1, W.heap.size, g, rfl, ⟨heap_alloc_new wa _, (HS2.out.below hbA (Nat.le_refl _)).alloc _, hF.below (below_alloc (Below.refl wa.heap.size wa) _) (Nat.le_refl _), (HG.out.below hbA (Nat.le_refl _)).alloc _, by have := HS2.out.ltf; omega⟩, HF.out, HB3.out.size, below_alloc (below_step HB3.out hbA) _⟩


theorem IP.nef {B n f : Nat} {w : World} {v : Value} {I : Nat → Int} {X : Nat → ByteArray} (h : IP B v n I X w) (hF : F w f) : v.ownBlock ≠ some f := by
  rcases h.own.2 with ⟨rfl, _⟩ | ⟨g, cap, cur, e, hB, hg, r⟩
  · simp [Value.ownBlock]
  · intro e2
    rw [e] at e2
    simp [Value.ownBlock] at e2
    subst e2
    rcases hF with x | ⟨_, _, x, _⟩ <;> (unfold FB at x; rw [hg] at x; simp at x)
theorem IP.gs {B n f1 f2 : Nat} {w w' : World} {v : Value} {I : Nat → Int} {X : Nat → ByteArray} (h : IP B v n I X w) (h1 : F w f1) (h2 : F w f2) (hg : Gs (fun i => i = f1 ∨ i = f2) w w') : IP B v n I X w' := by
  have n1 := h.nef h1
  have n2 := h.nef h2
  refine ⟨h.own.1, ?_⟩
  rcases h.own.2 with h2 | ⟨g, cap, cur, e, hB, hgg, r⟩
  · exact .inl h2
  · refine .inr ⟨g, cap, cur, e, hB, (hg.block g (lt_of_block hgg) ?_).trans hgg, r⟩
    rintro (rfl | rfl)
    · exact n1 (by rw [e]; rfl)
    · exact n2 (by rw [e]; rfl)
theorem SB.gs {w w' : World} {q n f1 f2 : Nat} {X : Nat → ByteArray} (h : SB w q n X) (h1 : F w f1) (h2 : F w f2) (hg : Gs (fun i => i = f1 ∨ i = f2) w w') : SB w' q n X :=
  h.of_block (hg.block q h.lt (by
    rintro (e | e)
    · exact h.nef h1 e
    · exact h.nef h2 e))
end Go.Proofs.YtfjkdmiaagalhaaGreat

namespace Go.Proofs.YtfjkdmiaagalhaaGreat.Rr
open Go.RowKit Go.Lib

theorem IP.nef {B n f : Nat} {w : World} {v : Value} {I : Nat → Int} {X : Nat → ByteArray} (h : IP B v n I X w) (hF : F w f) : v.ownBlock ≠ some f := by
  rcases h.own.2 with ⟨rfl, _⟩ | ⟨g, cap, cur, e, hB, hg, r⟩
  · simp [Value.ownBlock]
  · intro e2
    rw [e] at e2
    simp [Value.ownBlock] at e2
    subst e2
    rcases hF with x | ⟨_, _, x, _⟩ <;> (unfold FB at x; rw [hg] at x; simp at x)
theorem IP.gs {B n f1 f2 : Nat} {w w' : World} {v : Value} {I : Nat → Int} {X : Nat → ByteArray} (h : IP B v n I X w) (h1 : F w f1) (h2 : F w f2) (hg : Gs (fun i => i = f1 ∨ i = f2) w w') : IP B v n I X w' := by
  have n1 := h.nef h1
  have n2 := h.nef h2
  refine ⟨h.own.1, ?_⟩
  rcases h.own.2 with h2 | ⟨g, cap, cur, e, hB, hgg, r⟩
  · exact .inl h2
  · refine .inr ⟨g, cap, cur, e, hB, (hg.block g (lt_of_block hgg) ?_).trans hgg, r⟩
    rintro (rfl | rfl)
    · exact n1 (by rw [e]; rfl)
    · exact n2 (by rw [e]; rfl)
end Go.Proofs.YtfjkdmiaagalhaaGreat.Rr

namespace Go.Proofs.YtfjkdmiaagalhaaGreat
open Go.RowKit Go.Lib

theorem take_mem {I : Nat → Int} {L : List Nat} {j : Nat} (hj : j < L.length) (x : Int) : x ∈ (L.take (j + 1)).map I ↔ x ∈ (L.take j).map I ∨ I (L.getD j 0) = x := by
  have e : L.getD j 0 = L[j] := by rw [List.getD_eq_getElem?_getD, List.getElem?_eq_getElem hj]; rfl
  rw [e, List.take_succ_eq_append_getElem hj, List.map_append, List.mem_append]
  simp [eq_comm]

set_option maxRecDepth 100000 in
set_option maxHeartbeats 1600000 in
theorem unlike_any {w : World} {b k n : Nat} {v : Value} {I : Nat → Int} {X : Nat → ByteArray} (hc : w.cell? ⟨b, 0, none⟩ = some (.int .i64 k)) (hb : b < w.heap.size) (hk : k ≤ 255) (hn : n ≤ 1000) (hP : PX w v n I X) :
    Calls Tryz.prog 20 #[.pointer (some ⟨b, 0, none⟩), v] w fun e w' => ∃ v', e = .returned v' ∧ Rr.IP w.heap.size v' (fu k I n).length (fun t => I ((fu k I n).getD t 0)) (fun t => X ((fu k I n).getD t 0)) w' ∧ Below w.heap.size w w' := by
  obtain ⟨a, c, rfl, hP⟩ := hP
  have HC := hide hc
  have HP := hide hP
  clear hc hP
  go_enter Tryz.func20, Tryz.ntmps20
  go_wp2
  go_loopw [6, 5] (fun z s wr => ∃ j : Nat, j ≤ n ∧ z = .int .i64 j ∧ Rr.IP w.heap.size s (fu k I j).length (fun t => I ((fu k I j).getD t 0)) (fun t => X ((fu k I j).getD t 0)) wr ∧ Below w.heap.size w wr) (fun z _ _ => n - (RowKit.intOf z).toNat)
  case atStart => exact ⟨0, Nat.zero_le _, rfl, Rr.IP.nil _ _ _ _, Below.refl _ _⟩
  case round =>
    obtain ⟨i, hi, rfl, hI, hB⟩ := hrel
    generalize wr = wu at *
    obtain ⟨a2, c2, rfl⟩ := hI.shp
    have HI := hide hI
    have HB := hide hB
    have hle := fu_le k I i
    have q0 := (hB.cell (p := ⟨b, 0, none⟩) hb).trans HC.out
    obtain ⟨l, hl⟩ : ∃ l, l = (fu k I i).length := ⟨_, rfl⟩
    rw [← hl] at hle ⊢
    have HL := hide hl
    clear hI hB hl
    by_cases hlt : i < n
    · have b0 : (i : Int) < (n : Int) := by omega
      have b1 : (0 : Int) ≤ (i : Int) := by omega
      by_cases hfull : l < k
      · have b2 : (l : Int) < (k : Int) := by omega
        obtain ⟨bl, off, rfl, hbl, hcell⟩ := HP.out.resolve_left (by omega)
        have HCI : Hid (∀ wx, Below w.heap.size w wx → wx.cell? ⟨bl, off + i * 2, none⟩ = some (.int .i64 (I i)) ∧ wx.cell? ⟨bl, off + i * 2 + 1, none⟩ = some (.string (X i))) := fun wx h => ⟨(h.cell (p := ⟨bl, off + i * 2, none⟩) hbl).trans (hcell i hlt).1, (h.cell (p := ⟨bl, off + i * 2 + 1, none⟩) hbl).trans (hcell i hlt).2⟩
        clear hcell
        go_wp2
        go_loopw [8, 7] (fun z t wx => ∃ j : Nat, j ≤ l ∧ z = .int .i64 j ∧ t = .bool (decide (I i ∈ ((fu k I i).take j).map I)) ∧ Below wu.heap.size wu wx) (fun z _ _ => l - (RowKit.intOf z).toNat)
        case atStart => exact ⟨0, Nat.zero_le _, rfl, by simp, Below.refl _ _⟩
        case round =>
          obtain ⟨j, hj, rfl, rfl, hx⟩ := hrel
          have HX := hide hx
          by_cases hjl : j < l
          · have b3 : (j : Int) < (l : Int) := by omega
            have b4 : (0 : Int) ≤ (j : Int) := by omega
            have hjl' : j < (fu k I i).length := by rw [← HL.out]; exact hjl
            have htm := take_mem (I := I) hjl' (I i)
            have HN : Hid (∀ wy, Below wr.heap.size wr wy → Below wu.heap.size wu wy) := fun wy h => below_step HX.out h
            by_cases hsee : I i ∈ ((fu k I i).take j).map I
            · rw [decide_eq_true hsee]
              have hd : decide (I i ∈ ((fu k I i).take (j + 1)).map I) = true := decide_eq_true (htm.2 (.inl hsee))
              clear htm hsee hx
              go_wp2
              go_quiet (fail)
              go_wp2
              exact ⟨⟨j + 1, by omega, by go_num, by rw [hd], HN.out _ (below_drew (Below.refl _ _) _)⟩, by simp [RowKit.intOf]; omega⟩
            · rw [decide_eq_false hsee]
              have hBx := below_step HB.out HX.out
              have p1 := (HCI.out _ hBx).1
              obtain ⟨_, _, e9, h0 | ⟨g2, o2, rfl, hg2, hc2⟩⟩ := (HI.out.keep HX.out).px
              · omega
              have p2 : wr.cell? ⟨g2, o2 + j * 2, none⟩ = some (.int .i64 (I ((fu k I i).getD j 0))) := (hc2 j hjl').1
              obtain ⟨x, hx9⟩ : ∃ x, x = I ((fu k I i).getD j 0) := ⟨_, rfl⟩
              obtain ⟨y, hy9⟩ : ∃ y, y = I i := ⟨_, rfl⟩
              rw [← hx9] at p2 htm
              rw [← hy9] at p1
              have HXY := hide (And.intro hx9 hy9)
              simp only [Value.slice.injEq] at e9
              obtain ⟨e91, e92, e93⟩ := e9
              subst e91 e93
              have hd : decide (x = y) = decide (I i ∈ ((fu k I i).take (j + 1)).map I) := by
                rw [decide_eq_decide, htm, hy9]
                constructor
                · exact .inr
                · rintro (h | h)
                  · exact absurd h hsee
                  · exact h
              have HD := hide hd
              clear htm hsee hx hc2 hBx hx9 hy9 e92 hg2 hd
              go_wp2
              go_quiet (fail)
              go_wp2
              exact ⟨⟨j + 1, by omega, by go_num, by rw [← HD.out]; by_cases e : x = y <;> simp [e], HN.out _ (below_drew (Below.refl _ _) _)⟩, by simp [RowKit.intOf]; omega⟩
          · obtain rfl : j = l := by omega
            rw [HL.out, List.take_length]
            by_cases hsee : I i ∈ (fu k I i).map I
            · rw [decide_eq_true hsee]
              have HE : Hid (Rr.IP w.heap.size (.slice a2 j c2) (fu k I (i + 1)).length (fun t => I ((fu k I (i + 1)).getD t 0)) (fun t => X ((fu k I (i + 1)).getD t 0)) wr) := by
                rw [fu_skip (.inr hsee)]
                rw [HL.out]
                exact HI.out.keep HX.out
              have HBE := hide (below_step HB.out HX.out)
              rw [← HL.out]
              clear hsee hx HX HI HB
              go_wp2
              exact ⟨⟨i + 1, by omega, by go_num, HE.out, HBE.out⟩, by simp [RowKit.intOf]; omega⟩
            · rw [decide_eq_false hsee, ← HL.out]
              have HBE := hide (below_step HB.out HX.out)
              have hI9 := HI.out.keep HX.out
              rw [← HL.out] at hI9
              obtain ⟨v', w', hap, hI', hg', _⟩ := hI9.one2 (I i) (X i) (by omega) HBE.out.size
              have hal : Below wr.heap.size wr (wr.alloc (.cells #[.int .i64 (I i), .string (X i)] 36)) := below_alloc (Below.refl _ _) _
              have HE : Hid (Rr.IP w.heap.size v' (fu k I (i + 1)).length (fun t => I ((fu k I (i + 1)).getD t 0)) (fun t => X ((fu k I (i + 1)).getD t 0)) w') := by
                show Rr.IP _ _ _ _ _ _
                rw [fu_take (by rw [← HL.out]; omega) hsee, List.length_append, ← HL.out]
                refine hI'.congr (fun t ht => ?_)
                by_cases e : t < j
                · rw [if_pos e, if_pos e, getD_left _ (by rw [← HL.out]; exact e)]; exact ⟨rfl, rfl⟩
                · obtain rfl : t = j := by omega
                  have := getD_last (fu k I i) i
                  rw [← HL.out] at this
                  rw [if_neg e, if_neg e, this]; exact ⟨rfl, rfl⟩
              have HB' : Hid (Below w.heap.size w w') := (below_step HBE.out hal).grown hg' (Nat.le_trans HBE.out.size hal.size) (fun cc hcc => (hI9.keep hal).lt cc hcc |>.1)
              obtain ⟨p1, p2⟩ := HCI.out _ HBE.out
              clear hsee hx HX HI HB hI' hg' hI9 hal HBE
              go_wp2_with (at_builtin; refine Lib.wpList_append_run _ rfl _ _ _ _ rfl _ _ rfl rfl _ _ hap ?_)
              exact ⟨⟨i + 1, by omega, by go_num, HE.out, HB'.out⟩, by simp [RowKit.intOf]; omega⟩
      · have b2 : ¬ (l : Int) < (k : Int) := by omega
        have e : fu k I n = fu k I i := by
          have := fu_full (I := I) (j := i) (show (fu k I i).length = k by rw [← HL.out]; omega) (n - i)
          rwa [show i + (n - i) = n by omega] at this
        have HE : Hid (Rr.IP w.heap.size (.slice a2 l c2) (fu k I n).length (fun t => I ((fu k I n).getD t 0)) (fun t => X ((fu k I n).getD t 0)) wu) := by
          show Rr.IP _ _ _ _ _ _
          rw [e, HL.out]
          exact HI.out
        clear e HI
        go_wp2
        go_ret
        exact ⟨_, rfl, HE.out, HB.out⟩
    · obtain rfl : i = n := by omega
      have HE : Hid (Rr.IP w.heap.size (.slice a2 l c2) (fu k I i).length (fun t => I ((fu k I i).getD t 0)) (fun t => X ((fu k I i).getD t 0)) wu) := by
        show Rr.IP _ _ _ _ _ _
        rw [HL.out]
        exact HI.out
      clear HI
      go_wp2
      go_ret
      exact ⟨_, rfl, HE.out, HB.out⟩
end Go.Proofs.YtfjkdmiaagalhaaGreat

namespace Go.Proofs.YtfjkdmiaagalhaaGreat
open Go.RowKit Go.Lib

theorem IL.nis {B B' n : Nat} {L : List Nat} {v v' : Value} {X : Nat → ByteArray} {w : World} (h : IL B v L w) (hS : IS B' v' n X w) (b : Nat) (hb : v.ownBlock = some b) : v'.ownBlock ≠ some b := by
  rcases h.own.2 with ⟨rfl, _⟩ | ⟨g, cap, cur, e, _, hg, _⟩
  · simp [Value.ownBlock] at hb
  rcases hS.own.2 with ⟨rfl, _⟩ | ⟨g', cap', cur', e', _, hg', _⟩
  · simp [Value.ownBlock]
  intro e2
  rw [e] at hb
  rw [e'] at e2
  simp [Value.ownBlock] at hb e2
  subst hb e2
  rw [hg] at hg'
  simp at hg'
section
variable {B n : Nat} {v : Value} {X : Nat → ByteArray} {w w' : World}
theorem IS.apart {row : Option Nat} (h : IS B v n X w) (hg : w.grownBy w' row) (ha : ∀ b, v.ownBlock = some b → row ≠ some b) : IS B v n X w' := by
  refine ⟨h.own.1, ?_⟩
  rcases h.own.2 with h2 | ⟨g, cap, cur, e, hB, hgg, r⟩
  · exact .inl h2
  · exact .inr ⟨g, cap, cur, e, hB, (hg.block g (lt_of_block hgg) (by have := ha g (by rw [e]; rfl); exact fun x => this x.symm)).trans hgg, r⟩
theorem IS.one2 (h : IS B v n X w) (x : ByteArray) (hb : n + 1 ≤ 100000) (hB : B ≤ w.heap.size) :
    ∃ a' c' w', (Builtin.append_ #[43, 43] 43 #[v, .slice (some ⟨w.heap.size, 0, none⟩) 1 1]).run Tryz.prog (w.alloc (.cells #[.string x] 9)) = .ok (.slice a' (n + 1) c') w' ∧ IS B (.slice a' (n + 1) c') (n + 1) (fun t => if t < n then X t else x) w' ∧ (w.alloc (.cells #[.string x] 9)).grownBy w' v.ownBlock := by
  have hal : Below w.heap.size w (w.alloc (.cells #[.string x] 9)) := below_alloc (Below.refl _ _) _
  obtain ⟨a', c', w', h1, h2, h3⟩ := (h.keep hal).app (m := 1) (b := w.heap.size) (o := 0) (c := 1) (Y := fun _ => x) (fun j hj => by
    obtain rfl : j = 0 := by omega
    rw [cell_of_row _ _ _ _ _ _ (heap_alloc_new w _)]; rfl) hb (by simp; omega)
  exact ⟨a', c', w', h1, h2.congr (fun t _ => rfl), h3⟩
end
/-- The numbers and the texts of the first j parts. -/
structure R2 (w1 wr : World) (vr vd : Value) (j : Nat) (ρ : Nat → Nat) (Y : Nat → ByteArray) : Prop where
  il : IL w1.heap.size vr ((List.range j).map ρ) wr
  is : IS w1.heap.size vd j Y wr
  be : Below w1.heap.size w1 wr
theorem R2.step {w1 wr : World} {vr vd : Value} {j : Nat} {ρ : Nat → Nat} {Y : Nat → ByteArray} (h : R2 w1 wr vr vd j ρ Y) (hj : j ≤ 1000) :
    ∃ v' w', (Builtin.append_ #[48, 48] 48 #[vr, .slice (some ⟨wr.heap.size, 0, none⟩) 1 1]).run Tryz.prog (wr.alloc (.cells #[.int .i64 ((ρ j : Nat) : Int)] 3)) = .ok v' w' ∧ Below w1.heap.size w1 w' ∧
      ∃ a c w2, (Builtin.append_ #[43, 43] 43 #[vd, .slice (some ⟨w'.heap.size, 0, none⟩) 1 1]).run Tryz.prog (w'.alloc (.cells #[.string (Y j)] 9)) = .ok (.slice a (j + 1) c) w2 ∧ R2 w1 w2 v' (.slice a (j + 1) c) (j + 1) ρ Y := by
  have hal : Below wr.heap.size wr (wr.alloc (.cells #[.int .i64 ((ρ j : Nat) : Int)] 3)) := below_alloc (Below.refl _ _) _
  have hI0 := h.il.keep hal
  have hS0 := h.is.keep hal
  have hB0 := below_step h.be hal
  obtain ⟨v', w', h1, h2, h3, _⟩ := h.il.one (ρ j) (by simp; omega) h.be.size
  have hS1 := hS0.apart h3 (fun b hb e => hI0.nis hS0 b e hb)
  have hB1 : Below w1.heap.size w1 w' := hI0.below hB0 h3 hB0.size
  obtain ⟨a, c, w2, h4, h5, h6⟩ := hS1.one2 (Y j) (by omega) hB1.size
  have hal2 : Below w'.heap.size w' (w'.alloc (.cells #[.string (Y j)] 9)) := below_alloc (Below.refl _ _) _
  have hI2 := h2.keep hal2
  have hS2 := hS1.keep hal2
  have hB2 := below_step hB1 hal2
  refine ⟨v', w', h1, hB1, a, c, w2, h4, ⟨?_, h5.congr (fun t ht => ?_), hB2.grown h6 hB2.size (fun cc hc => (hS2.lt cc hc).1)⟩⟩
  · rw [List.range_succ, List.map_append]
    exact hI2.apart h6 (fun b hb => hI2.nis hS2 b hb)
  · by_cases e : t < j
    · rw [if_pos e]
    · rw [if_neg e, show t = j by omega]
theorem fu_tells (k : Nat) (I : Nat → Int) : ∀ n, ∃ f, Tells f I (fu k I n)
  | 0 => ⟨fun _ => none, fun x i => by simp [fu]⟩
  | n + 1 => by
    obtain ⟨f, h⟩ := fu_tells k I n
    rw [fu]
    split
    · exact ⟨f, h⟩
    · rename_i hh
      rw [not_or] at hh
      exact ⟨_, h.add hh.2⟩
theorem RP.cell2 {w : World} {b g k m : Nat} (h : RP w b g k m) : w.cell? ⟨b, 2, none⟩ = some (.int .i64 ((k + m : Nat) : Int)) := by rw [cell_of_row w b 2 _ _ _ h]; rfl
theorem RP.cell3 {w : World} {b g k m : Nat} (h : RP w b g k m) : w.cell? ⟨b, 3, none⟩ = some (.int .i64 k) := by rw [cell_of_row w b 3 _ _ _ h]; rfl
theorem NX.congr {w : World} {f n : Nat} {v : Value} {Z Z' : Nat → Int} (h : NX w f v n Z) (e : ∀ i, i < n → Z i = Z' i) : NX w f v n Z' := by
  obtain ⟨a, c, e1, hc, h0 | ⟨bl, off, ea, hl, hf, hcell⟩⟩ := h
  · exact ⟨a, c, e1, hc, .inl h0⟩
  · exact ⟨a, c, e1, hc, .inr ⟨bl, off, ea, hl, hf, fun j hj => by rw [← e j hj]; exact hcell j hj⟩⟩
/-- A row of three, stored over. -/
theorem set3 {w : World} {g : Nat} {T : TypeId} {a0 a1 a2 : Value} (h : w.heap[g]? = some (.cells #[a0, a1, a2] T (0, 0))) (x y z : Value) :
    (w.cell? ⟨g, 0, none⟩ = some a0 ∧ w.frozen? ⟨g, 0, none⟩ = false) ∧ ((w.setCell ⟨g, 0, none⟩ x).cell? ⟨g, 1, none⟩ = some a1 ∧ (w.setCell ⟨g, 0, none⟩ x).frozen? ⟨g, 1, none⟩ = false) ∧
      (((w.setCell ⟨g, 0, none⟩ x).setCell ⟨g, 1, none⟩ y).cell? ⟨g, 2, none⟩ = some a2 ∧ ((w.setCell ⟨g, 0, none⟩ x).setCell ⟨g, 1, none⟩ y).frozen? ⟨g, 2, none⟩ = false) ∧
      (((w.setCell ⟨g, 0, none⟩ x).setCell ⟨g, 1, none⟩ y).setCell ⟨g, 2, none⟩ z).heap[g]? = some (.cells #[x, y, z] T (0, 0)) ∧
      (∀ i, i ≠ g → (((w.setCell ⟨g, 0, none⟩ x).setCell ⟨g, 1, none⟩ y).setCell ⟨g, 2, none⟩ z).heap[i]? = w.heap[i]?) := by
  have h0 : w.heap[g]? = some (.cells [a0, a1, a2].toArray T (0, 0)) := h
  have h1 := heap_set_list (o := 0) x h0
  have h2 := heap_set_list (o := 1) y h1
  have h3 := heap_set_list (o := 2) z h2
  refine ⟨⟨by rw [cell_of_row _ _ 0 _ _ _ h0]; rfl, frozen_of_row _ _ 0 _ _ h0⟩, ⟨by rw [cell_of_row _ _ 1 _ _ _ h1]; rfl, frozen_of_row _ _ 1 _ _ h1⟩, ⟨by rw [cell_of_row _ _ 2 _ _ _ h2]; rfl, frozen_of_row _ _ 2 _ _ h2⟩, h3, fun i hi => ?_⟩
  rw [Below.heap_setCell _ _ _ _ hi, Below.heap_setCell _ _ _ _ hi, Below.heap_setCell _ _ _ _ hi]
theorem cat_more {j : Nat} {Y : Nat → ByteArray} : (⟨(cat j Y).toArray⟩ : ByteArray) ++ Y j = ⟨(cat (j + 1) Y).toArray⟩ := by
  apply ByteArray.ext
  apply Array.toList_inj.1
  rw [cat_succ]
  simp
theorem jn_fault {k m : Nat} {long : Int} {I : Nat → Int} {X : Nat → ByteArray} {n : Nat} {v : Int} (h : faultV k m long I X n = v) (hv : v ≠ 0) : jnC k m long I X n = v ∧ jnS k m long I X n = ⟨#[]⟩ := by
  rw [jnC, jnS, h, if_pos hv, if_pos hv]; exact ⟨rfl, rfl⟩
theorem jn_few {k m : Nat} {long : Int} {I : Nat → Int} {X : Nat → ByteArray} {n : Nat} (h : faultV k m long I X n = 0) (hv : (fu k I n).length < k) : jnC k m long I X n = 50 ∧ jnS k m long I X n = ⟨#[]⟩ := by
  simp [jnC, jnS, h, hv]
theorem jn_ok {k m : Nat} {long : Int} {I : Nat → Int} {X : Nat → ByteArray} {n : Nat} (h : faultV k m long I X n = 0) (hv : ¬ (fu k I n).length < k) : jnC k m long I X n = 0 ∧ jnS k m long I X n = joinB k I X n long.toNat := by
  simp [jnC, jnS, h, hv]
end Go.Proofs.YtfjkdmiaagalhaaGreat
