/-
  RJKit, RJoin, RShard: texts of earlier layers, laid over this program.
-/
import Derived.Test.YtklaeocnimkboaaGreatDoorBJoin
import Derived.BigQuiet
import Derived.Test.YtklaeocnimkboaaGreatDoorBRefM
namespace Go.Proofs.YtklaeocnimkboaaGreatDoor
open Go.RowKit Go.Lib
theorem getD_left {L : List Nat} (x : Nat) {t : Nat} (h : t < L.length) : (L ++ [x]).getD t 0 = L.getD t 0 := by
  rw [List.getD_eq_getElem?_getD, List.getD_eq_getElem?_getD, List.getElem?_append_left h]
theorem getD_last (L : List Nat) (x : Nat) : (L ++ [x]).getD L.length 0 = x := by
  rw [List.getD_eq_getElem?_getD, List.getElem?_append_right (Nat.le_refl _), Nat.sub_self]; rfl
end Go.Proofs.YtklaeocnimkboaaGreatDoor

namespace Go.Proofs.YtklaeocnimkboaaGreatDoor.Rr
open Go.RowKit Go.Lib

theorem Tryz.infoPart : (Tryz.prog.info? 65).map (fun i => (i.zero, i.size, i.bytes)) = some (some (.agg #[.int .i64 0, .string ⟨#[]⟩]), 2, 24) := by kernel_rfl
structure IP (B : Nat) (v : Value) (n : Nat) (I : Nat → Int) (X : Nat → ByteArray) (w : World) : Prop where
  own : w.ownsRow B 65 2 v n (pcells I X n)
section
variable {B n : Nat} {v : Value} {I I' : Nat → Int} {X X' : Nat → ByteArray} {w w' : World}
theorem IP.nil (B : Nat) (w : World) (I : Nat → Int) (X : Nat → ByteArray) : IP B (.slice none 0 0) 0 I X w := ⟨World.ownsRow_nil w B 65 2⟩
theorem IP.px (h : IP B v n I X w) : PX w v n I X := by
  obtain ⟨h1, ⟨rfl, h2⟩ | ⟨g, cap, cur, rfl, hB, hg, hn, _, hs, ht⟩⟩ := h.own
  · subst h2; exact ⟨_, _, rfl, .inl rfl⟩
  · refine ⟨_, cap, rfl, .inr ⟨g, 0, rfl, lt_of_block hg, fun j hj => ?_⟩⟩
    have e0 := pcells_get0 (I := I) (X := X) hj
    have e1 := pcells_get1 (I := I) (X := X) hj
    rw [← ht, List.getElem?_take, if_pos (by omega)] at e0 e1
    rw [Nat.zero_add, cell_of_row w g _ _ _ _ hg, cell_of_row w g _ _ _ _ hg]
    exact ⟨by simpa using e0, by simpa using e1⟩
theorem IP.shp (h : IP B v n I X w) : ∃ a c, v = .slice a n c := by
  obtain ⟨a, c, e, _⟩ := h.px
  exact ⟨a, c, e⟩
theorem IP.keep (h : IP B v n I X w) (hb : Below w.heap.size w w') : IP B v n I X w' := by
  refine ⟨h.own.1, ?_⟩
  rcases h.own.2 with h2 | ⟨g, cap, cur, e, hB, hg, r⟩
  · exact .inl h2
  · exact .inr ⟨g, cap, cur, e, hB, (hb.block g (lt_of_block hg)).trans hg, r⟩
theorem IP.lt (h : IP B v n I X w) (b : Nat) (hb : v.ownBlock = some b) : B ≤ b ∧ b < w.heap.size := by
  obtain ⟨h1, ⟨rfl, h2⟩ | ⟨g, cap, cur, rfl, hB, hg, _⟩⟩ := h.own
  · simp [Value.ownBlock] at hb
  · simp only [Value.ownBlock, Option.some.injEq] at hb
    subst hb
    exact ⟨hB, lt_of_block hg⟩
theorem IP.congr (h : IP B v n I X w) (e : ∀ i, i < n → I i = I' i ∧ X i = X' i) : IP B v n I' X' w := ⟨by rw [← pcells_congr e]; exact h.own⟩
theorem IP.one2 (h : IP B v n I X w) (x : Int) (y : ByteArray) (hb : n + 1 ≤ 100000) (hB : B ≤ w.heap.size) :
    ∃ v' w', (Builtin.append_ #[63, 63] 63 #[v, .slice (some ⟨w.heap.size, 0, none⟩) 1 1]).run Tryz.prog (w.alloc (.cells #[.int .i64 x, .string y] 65)) = .ok v' w' ∧ IP B v' (n + 1) (fun t => if t < n then I t else x) (fun t => if t < n then X t else y) w' ∧ (w.alloc (.cells #[.int .i64 x, .string y] 65)).grownBy w' v.ownBlock ∧ ∀ b, v'.ownBlock = some b → v.ownBlock = some b ∨ w.heap.size ≤ b := by
  have hal : Below w.heap.size w (w.alloc (.cells #[.int .i64 x, .string y] 65)) := below_alloc (Below.refl _ _) _
  have h' := h.keep hal
  obtain ⟨i0, hi, hz0, hz1, hz2⟩ := info_parts Tryz.infoPart
  obtain ⟨v', w', h1, h2, h3, _, h5⟩ := run_append_own_at (P := Tryz.prog) _ B 63 63 65 i0 (.agg #[.int .i64 0, .string ⟨#[]⟩]) 2 24 Tryz.underlying63 hi hz0 hz1 hz2 rfl (by decide) v n (pcells I X n) h'.own ⟨w.heap.size, 0, none⟩ 1 1 [.int .i64 x, .string y] rfl (fun j u hj => by
      rw [Addr.add_mid, Nat.zero_add, cell_of_row _ _ _ _ _ _ (heap_alloc_new w _)]
      simpa using hj) (by simp [Value.oneCell']) (by unfold maxLen; omega) (by omega) (by simp; omega)
  have e : pcells I X n ++ [.int .i64 x, .string y] = pcells (fun t => if t < n then I t else x) (fun t => if t < n then X t else y) (n + 1) := by
    have e1 : pcells I X n = pcells (fun t => if t < n then I t else x) (fun t => if t < n then X t else y) n := pcells_congr fun i hi => ⟨(if_pos hi).symm, (if_pos hi).symm⟩
    have e2 : (if n < n then I n else x) = x := if_neg (by omega)
    have e3 : (if n < n then X n else y) = y := if_neg (by omega)
    rw [pcells, ← e1, e2, e3]
  refine ⟨v', w', h1, ⟨by rw [← e]; exact h2⟩, h3, fun b hb => ?_⟩
  rcases h5 with h5 | h5
  · exact .inl (h5 ▸ hb)
  · rw [h5] at hb
    simp at hb
    exact .inr (by omega)
end
theorem IP.apart {B n : Nat} {w w' : World} {v : Value} {I : Nat → Int} {X : Nat → ByteArray} {row : Option Nat} (h : IP B v n I X w) (hg : w.grownBy w' row) (ha : ∀ b, v.ownBlock = some b → row ≠ some b) : IP B v n I X w' := by
  refine ⟨h.own.1, ?_⟩
  rcases h.own.2 with h2 | ⟨g, cap, cur, e, hB, hgg, r⟩
  · exact .inl h2
  · exact .inr ⟨g, cap, cur, e, hB, (hg.block g (lt_of_block hgg) (by have := ha g (by rw [e]; rfl); exact fun x => this x.symm)).trans hgg, r⟩
end Go.Proofs.YtklaeocnimkboaaGreatDoor.Rr

namespace Go.Proofs.YtklaeocnimkboaaGreatDoor
open Go.RowKit Go.Lib Go.Maps

/-- What Join answers: its code, and its bytes. -/
def jnC (k m : Nat) (long : Int) (I : Nat → Int) (X : Nat → ByteArray) (n : Nat) : Int := if faultV k m long I X n ≠ 0 then faultV k m long I X n else if (fu k I n).length < k then 50 else 0
def jnS (k m : Nat) (long : Int) (I : Nat → Int) (X : Nat → ByteArray) (n : Nat) : ByteArray := if faultV k m long I X n ≠ 0 then ⟨#[]⟩ else if (fu k I n).length < k then ⟨#[]⟩ else joinB k I X n long.toNat
/-- What Shard answers. -/
def shC (k m : Nat) (long : Int) (idx : Int) (I : Nat → Int) (X : Nat → ByteArray) (n : Nat) : Int := if faultV k m long I X n ≠ 0 then faultV k m long I X n else if ¬ (0 ≤ idx ∧ idx < ((k + m : Nat) : Int)) then 1 else if (fu k I n).length < k then 50 else 0
def shS (k m : Nat) (long : Int) (idx : Int) (I : Nat → Int) (X : Nat → ByteArray) (n : Nat) : ByteArray := if faultV k m long I X n ≠ 0 then ⟨#[]⟩ else if ¬ (0 ≤ idx ∧ idx < ((k + m : Nat) : Int)) then ⟨#[]⟩ else if (fu k I n).length < k then ⟨#[]⟩ else shd k (joinB k I X n long.toNat) idx.toNat
/-- Parts without fault. -/
theorem faultV_zero {k m : Nat} {long : Int} {I : Nat → Int} {X : Nat → ByteArray} {n : Nat} (h : faultV k m long I X n = 0) : 0 ≤ long ∧ long ≤ 65536 ∧ (∀ i, i < n → 0 ≤ I i ∧ I i < ((k + m : Nat) : Int)) ∧ ∀ i, i < n → (X i).size = eachN k long.toNat := by
  rw [faultV] at h
  split at h
  · omega
  · exact ⟨by omega, by omega, fun i hi => (flt_zero h i hi).1, fun i hi => (flt_zero h i hi).2⟩
theorem nz_bne {x : Int} (h : x ≠ 0) : (x != 0) = true := by simpa using h

set_option maxRecDepth 100000 in
set_option maxHeartbeats 1600000 in
theorem pjoin_all {w : World} {b sb f1 f2 g k m : Nat} (h : PP w b sb f1 f2 g k m) (k1 : 1 ≤ k) (km : k + m ≤ 255) {vp : Value} {n : Nat} {I : Nat → Int} {X : Nat → ByteArray} (hn : n ≤ maxLen) (hP : PX w vp n I X)
    (hXs : ∀ i, i < n → (X i).size ≤ 9223372036854775807) (long : Int) :
    Calls Tryz.prog 28 #[.pointer (some ⟨b, 0, none⟩), vp, .int .i64 long] w fun e w' =>
      e = .returned (.tuple #[.string (jnS k m long I X n), .int .i64 (jnC k m long I X n)]) ∧ PP w' b sb f1 f2 g k m ∧ Gs (fun i => i = f1 ∨ i = f2) w w' := by
  by_cases hf : faultV k m long I X n = 0
  · obtain ⟨h0, h1, hI, hX⟩ := faultV_zero hf
    have := join_any h k1 km hn hP (long := long.toNat) (by omega) hI hX
    rw [Int.toNat_of_nonneg h0] at this
    refine this.mono ?_
    rintro e w' ⟨⟨hlt, rfl⟩ | ⟨hlt, rfl⟩, hP', hg⟩
    · exact ⟨by rw [jnS, jnC, if_neg (Classical.not_not.2 hf), if_neg (Classical.not_not.2 hf), if_pos hlt, if_pos hlt], hP', hg⟩
    · exact ⟨by rw [jnS, jnC, if_neg (Classical.not_not.2 hf), if_neg (Classical.not_not.2 hf), if_neg (by omega), if_neg (by omega)], hP', hg⟩
  · rw [jnS, jnC, if_pos hf, if_pos hf]
    have HP := hide h
    have HF := hide (fault_any h k1 km hn hP hXs long)
    generalize faultV k m long I X n = fv at *
    have b1 := nz_bne hf
    have b2 : ¬ fv = 0 := hf
    clear h hP hXs
    go_enter Tryz.func28, Tryz.ntmps28
    go_wp2_with fail
    refine HF.out.mono ?_
    rintro e w1 ⟨rfl, hb1⟩
    have HE : Hid (PP w1 b sb f1 f2 g k m ∧ Gs (fun i => i = f1 ∨ i = f2) w w1) := ⟨HP.out.below hb1, Gs.of_below _ hb1⟩
    clear hb1 HF
    go_wp2
    exact bodyPost_ret (v := .tuple #[.string ⟨#[]⟩, .int .i64 fv]) (by simp [results, Tryz.results28, go_sem]) rfl ⟨rfl, HE.out⟩

end Go.Proofs.YtklaeocnimkboaaGreatDoor

namespace Go.Proofs.YtklaeocnimkboaaGreatDoor
open Go.RowKit Go.Lib

theorem PP.putp {w w' : World} {b sb f1 f2 g k m q : Nat} {cs : Array Value} {fr : Nat × Nat} (h : PP w b sb f1 f2 g k m) (hS : w.heap[q]? = some (.cells cs 61 fr)) (hg : w.grownBy w' (some q)) : PP w' b sb f1 f2 g k m := by
  have nb : b ≠ q := by
    intro e; subst e
    have x := h.pl
    unfold PL at x; rw [x] at hS; simp at hS
  have ng : g ≠ q := by
    intro e; subst e
    obtain ⟨Z, x⟩ := h.kb
    rw [x] at hS; simp at hS
  exact ⟨h.pl.of_block (hg.block b h.pl.lt (by simpa using nb)), h.sp.set hS (by decide) (by decide) (by decide) hg, h.fl.set hS (by decide) (by decide) hg, h.kb.of_block (hg.block g h.kb.lt (by simpa using ng)), h.ne⟩
set_option maxRecDepth 100000 in
set_option maxHeartbeats 1600000 in
theorem snew_ok2 {w : World} {k m : Nat} (k1 : 1 ≤ k) (km : k + m ≤ 255) :
    Calls Tryz.prog 20 #[.int .i64 k, .int .i64 m] w fun e w' => ∃ b sb f1 f2 g, e = .returned (.tuple #[.pointer (some ⟨b, 0, none⟩), .int .i64 0]) ∧ PP w' b sb f1 f2 g k m ∧ w.heap.size ≤ f1 ∧ w.heap.size ≤ f2 ∧ Below w.heap.size w w' := by
  go_enter Tryz.func20, Tryz.ntmps20
  go_wp2_with fail
  refine (mnew_any _).mono ?_
  rintro e w1 ⟨sb, f1, rfl, hS, hf, hsb, hb1⟩
  have HS1 := hide hS
  have HB1 := hide hb1
  have HF := hide hf
  clear hS hf hsb hb1
  go_wp2_with fail
  refine (cauchy_ok HS1.out k1 km).mono ?_
  rintro e w2 ⟨g, rfl, hG, hg, hS2, hg2⟩
  have HB2 := hide (below_gb HB1.out hg2 HF.out HB1.out.size)
  obtain ⟨N, hN⟩ : ∃ N, N = (k + m) * k := ⟨_, rfl⟩
  obtain ⟨km', hkm⟩ : ∃ n, n = k + m := ⟨_, rfl⟩
  rw [← hkm] at hN
  rw [← hkm, ← hN] at hG ⊢
  have X := Bx.new w2 (km' : Int) (k : Int) (.slice (some ⟨g, 0, none⟩) N N)
  have HX := hide X
  have HS2 := hide (hS2.alloc (.cells #[.int .i64 (km' : Int), .int .i64 (k : Int), .slice (some ⟨g, 0, none⟩) N N] 79))
  have HG := hide (hG.alloc (.cells #[.int .i64 (km' : Int), .int .i64 (k : Int), .slice (some ⟨g, 0, none⟩) N N] 79))
  have HB3 := hide (below_alloc HB2.out (.cells #[.int .i64 (km' : Int), .int .i64 (k : Int), .slice (some ⟨g, 0, none⟩) N N] 79))
  have HE := hide (And.intro hkm hN)
  clear HS1 HB1 hG hg hS2 hg2 HB2 hN hkm X
  obtain ⟨W, hW⟩ : ∃ W, W = w2.alloc (.cells #[.int .i64 (km' : Int), .int .i64 (k : Int), .slice (some ⟨g, 0, none⟩) N N] 79) := ⟨_, rfl⟩
  rw [← hW] at HX HS2 HG HB3
  have HW := hide hW
  clear hW
  go_upto_region 5 with fail
  rw [← HW.out]
  have HK : Hid (∀ w', Below W.heap.size W w' → w'.cell? ⟨w2.heap.size, 0, none⟩ = some (.int .i64 (km' : Int)) ∧ w'.cell? ⟨w2.heap.size, 1, none⟩ = some (.int .i64 (k : Int)) ∧ w'.cell? ⟨w2.heap.size, 2, none⟩ = some (.slice (some ⟨g, 0, none⟩) N N)) := fun w' hb => ⟨(HX.out.below hb (Nat.le_refl _)).cell0, (HX.out.below hb (Nat.le_refl _)).cell1, (HX.out.below hb (Nat.le_refl _)).cell2⟩
  have HB0 : Hid (Below W.heap.size W W.drew) := (Below.refl _ _).drew
  go_region_held_law (fun wx => wx.cell? ⟨w2.heap.size, 0, none⟩ = some (.int .i64 (km' : Int)) ∧ wx.cell? ⟨w2.heap.size, 1, none⟩ = some (.int .i64 (k : Int)) ∧ wx.cell? ⟨w2.heap.size, 2, none⟩ = some (.slice (some ⟨g, 0, none⟩) N N))
    (first | with_reducible exact HK.out _ HB0.out | with_reducible exact HK.out _ (by assumption) | with_reducible exact HK.out _ (below_alloc (by assumption) _))
    (first
      | (go_at_call 38; refine (new_any _).mono ?_; rintro e wa ⟨rfl, hF, hba⟩; have hbA := below_step HB0.out hba))
  all_goals
    go_wp2
    obtain ⟨rfl, rfl⟩ := HE.out
    have hlt : W.heap.size < wa.heap.size := hF.lt
    refine bodyPost_ret (v := .tuple #[.pointer (some ⟨wa.heap.size, 0, none⟩), .int .i64 0]) (by simp [results, Tryz.results20, go_sem]) rfl ⟨wa.heap.size, sb, f1, W.heap.size, g, rfl, ⟨heap_alloc_new wa _, (HS2.out.below hbA (Nat.le_refl _)).alloc _, hF.below (below_alloc (Below.refl wa.heap.size wa) _) (Nat.le_refl _), (HG.out.below hbA (Nat.le_refl _)).alloc _, by have := HS2.out.ltf; omega⟩, HF.out, HB3.out.size, below_alloc (below_step HB3.out hbA) _⟩


theorem IP.nef {B n f : Nat} {w : World} {v : Value} {I : Nat → Int} {X : Nat → ByteArray} (h : IP B v n I X w) (hF : F w f) : v.ownBlock ≠ some f := by
  rcases h.own.2 with ⟨rfl, _⟩ | ⟨g, cap, cur, e, hB, hg, r⟩
  · simp [Value.ownBlock]
  · intro e2
    rw [e] at e2
    simp [Value.ownBlock] at e2
    subst e2
    rcases hF with x | ⟨_, _, x, _⟩ <;> (unfold FB at x; rw [hg] at x; simp at x)
theorem IP.gs {B n f1 f2 : Nat} {w w' : World} {v : Value} {I : Nat → Int} {X : Nat → ByteArray} (h : IP B v n I X w) (h1 : F w f1) (h2 : F w f2) (hg : Gs (fun i => i = f1 ∨ i = f2) w w') : IP B v n I X w' := by
  have n1 := h.nef h1
  have n2 := h.nef h2
  refine ⟨h.own.1, ?_⟩
  rcases h.own.2 with h2 | ⟨g, cap, cur, e, hB, hgg, r⟩
  · exact .inl h2
  · refine .inr ⟨g, cap, cur, e, hB, (hg.block g (lt_of_block hgg) ?_).trans hgg, r⟩
    rintro (rfl | rfl)
    · exact n1 (by rw [e]; rfl)
    · exact n2 (by rw [e]; rfl)
theorem SB.gs {w w' : World} {q n f1 f2 : Nat} {X : Nat → ByteArray} (h : SB w q n X) (h1 : F w f1) (h2 : F w f2) (hg : Gs (fun i => i = f1 ∨ i = f2) w w') : SB w' q n X :=
  h.of_block (hg.block q h.lt (by
    rintro (e | e)
    · exact h.nef h1 e
    · exact h.nef h2 e))
end Go.Proofs.YtklaeocnimkboaaGreatDoor

namespace Go.Proofs.YtklaeocnimkboaaGreatDoor.Rr
open Go.RowKit Go.Lib

theorem IP.nef {B n f : Nat} {w : World} {v : Value} {I : Nat → Int} {X : Nat → ByteArray} (h : IP B v n I X w) (hF : F w f) : v.ownBlock ≠ some f := by
  rcases h.own.2 with ⟨rfl, _⟩ | ⟨g, cap, cur, e, hB, hg, r⟩
  · simp [Value.ownBlock]
  · intro e2
    rw [e] at e2
    simp [Value.ownBlock] at e2
    subst e2
    rcases hF with x | ⟨_, _, x, _⟩ <;> (unfold FB at x; rw [hg] at x; simp at x)
theorem IP.gs {B n f1 f2 : Nat} {w w' : World} {v : Value} {I : Nat → Int} {X : Nat → ByteArray} (h : IP B v n I X w) (h1 : F w f1) (h2 : F w f2) (hg : Gs (fun i => i = f1 ∨ i = f2) w w') : IP B v n I X w' := by
  have n1 := h.nef h1
  have n2 := h.nef h2
  refine ⟨h.own.1, ?_⟩
  rcases h.own.2 with h2 | ⟨g, cap, cur, e, hB, hgg, r⟩
  · exact .inl h2
  · refine .inr ⟨g, cap, cur, e, hB, (hg.block g (lt_of_block hgg) ?_).trans hgg, r⟩
    rintro (rfl | rfl)
    · exact n1 (by rw [e]; rfl)
    · exact n2 (by rw [e]; rfl)
end Go.Proofs.YtklaeocnimkboaaGreatDoor.Rr

namespace Go.Proofs.YtklaeocnimkboaaGreatDoor
open Go.RowKit Go.Lib

theorem take_mem {I : Nat → Int} {L : List Nat} {j : Nat} (hj : j < L.length) (x : Int) : x ∈ (L.take (j + 1)).map I ↔ x ∈ (L.take j).map I ∨ I (L.getD j 0) = x := by
  have e : L.getD j 0 = L[j] := by rw [List.getD_eq_getElem?_getD, List.getElem?_eq_getElem hj]; rfl
  rw [e, List.take_succ_eq_append_getElem hj, List.map_append, List.mem_append]
  simp [eq_comm]

set_option maxRecDepth 100000 in
set_option maxHeartbeats 1600000 in
theorem unlike_any {w : World} {b k n : Nat} {v : Value} {I : Nat → Int} {X : Nat → ByteArray} (hc : w.cell? ⟨b, 0, none⟩ = some (.int .i64 k)) (hb : b < w.heap.size) (hk : k ≤ 255) (hn : n ≤ 1000) (hP : PX w v n I X) :
    Calls Tryz.prog 55 #[.pointer (some ⟨b, 0, none⟩), v] w fun e w' => ∃ v', e = .returned v' ∧ Rr.IP w.heap.size v' (fu k I n).length (fun t => I ((fu k I n).getD t 0)) (fun t => X ((fu k I n).getD t 0)) w' ∧ Below w.heap.size w w' := by
  obtain ⟨a, c, rfl, hP⟩ := hP
  have HC := hide hc
  have HP := hide hP
  clear hc hP
  go_enter Tryz.func55, Tryz.ntmps55
  go_wp2
  go_loopw [6, 5] (fun z s wr => ∃ j : Nat, j ≤ n ∧ z = .int .i64 j ∧ Rr.IP w.heap.size s (fu k I j).length (fun t => I ((fu k I j).getD t 0)) (fun t => X ((fu k I j).getD t 0)) wr ∧ Below w.heap.size w wr) (fun z _ _ => n - (RowKit.intOf z).toNat)
  case atStart => exact ⟨0, Nat.zero_le _, rfl, Rr.IP.nil _ _ _ _, Below.refl _ _⟩
  case round =>
    obtain ⟨i, hi, rfl, hI, hB⟩ := hrel
    generalize wr = wu at *
    obtain ⟨a2, c2, rfl⟩ := hI.shp
    have HI := hide hI
    have HB := hide hB
    have hle := fu_le k I i
    have q0 := (hB.cell (p := ⟨b, 0, none⟩) hb).trans HC.out
    obtain ⟨l, hl⟩ : ∃ l, l = (fu k I i).length := ⟨_, rfl⟩
    rw [← hl] at hle ⊢
    have HL := hide hl
    clear hI hB hl
    by_cases hlt : i < n
    · have b0 : (i : Int) < (n : Int) := by omega
      have b1 : (0 : Int) ≤ (i : Int) := by omega
      by_cases hfull : l < k
      · have b2 : (l : Int) < (k : Int) := by omega
        obtain ⟨bl, off, rfl, hbl, hcell⟩ := HP.out.resolve_left (by omega)
        have HCI : Hid (∀ wx, Below w.heap.size w wx → wx.cell? ⟨bl, off + i * 2, none⟩ = some (.int .i64 (I i)) ∧ wx.cell? ⟨bl, off + i * 2 + 1, none⟩ = some (.string (X i))) := fun wx h => ⟨(h.cell (p := ⟨bl, off + i * 2, none⟩) hbl).trans (hcell i hlt).1, (h.cell (p := ⟨bl, off + i * 2 + 1, none⟩) hbl).trans (hcell i hlt).2⟩
        clear hcell
        go_wp2
        go_loopw [8, 7] (fun z t wx => ∃ j : Nat, j ≤ l ∧ z = .int .i64 j ∧ t = .bool (decide (I i ∈ ((fu k I i).take j).map I)) ∧ Below wu.heap.size wu wx) (fun z _ _ => l - (RowKit.intOf z).toNat)
        case atStart => exact ⟨0, Nat.zero_le _, rfl, by simp, Below.refl _ _⟩
        case round =>
          obtain ⟨j, hj, rfl, rfl, hx⟩ := hrel
          have HX := hide hx
          by_cases hjl : j < l
          · have b3 : (j : Int) < (l : Int) := by omega
            have b4 : (0 : Int) ≤ (j : Int) := by omega
            have hjl' : j < (fu k I i).length := by rw [← HL.out]; exact hjl
            have htm := take_mem (I := I) hjl' (I i)
            have HN : Hid (∀ wy, Below wr.heap.size wr wy → Below wu.heap.size wu wy) := fun wy h => below_step HX.out h
            by_cases hsee : I i ∈ ((fu k I i).take j).map I
            · rw [decide_eq_true hsee]
              have hd : decide (I i ∈ ((fu k I i).take (j + 1)).map I) = true := decide_eq_true (htm.2 (.inl hsee))
              clear htm hsee hx
              go_wp2
              go_quiet (fail)
              go_wp2
              exact ⟨⟨j + 1, by omega, by go_num, by rw [hd], HN.out _ (below_drew (Below.refl _ _) _)⟩, by simp [RowKit.intOf]; omega⟩
            · rw [decide_eq_false hsee]
              have hBx := below_step HB.out HX.out
              have p1 := (HCI.out _ hBx).1
              obtain ⟨_, _, e9, h0 | ⟨g2, o2, rfl, hg2, hc2⟩⟩ := (HI.out.keep HX.out).px
              · omega
              have p2 : wr.cell? ⟨g2, o2 + j * 2, none⟩ = some (.int .i64 (I ((fu k I i).getD j 0))) := (hc2 j hjl').1
              obtain ⟨x, hx9⟩ : ∃ x, x = I ((fu k I i).getD j 0) := ⟨_, rfl⟩
              obtain ⟨y, hy9⟩ : ∃ y, y = I i := ⟨_, rfl⟩
              rw [← hx9] at p2 htm
              rw [← hy9] at p1
              have HXY := hide (And.intro hx9 hy9)
              simp only [Value.slice.injEq] at e9
              obtain ⟨e91, e92, e93⟩ := e9
              subst e91 e93
              have hd : decide (x = y) = decide (I i ∈ ((fu k I i).take (j + 1)).map I) := by
                rw [decide_eq_decide, htm, hy9]
                constructor
                · exact .inr
                · rintro (h | h)
                  · exact absurd h hsee
                  · exact h
              have HD := hide hd
              clear htm hsee hx hc2 hBx hx9 hy9 e92 hg2 hd
              go_wp2
              go_quiet (fail)
              go_wp2
              exact ⟨⟨j + 1, by omega, by go_num, by rw [← HD.out]; by_cases e : x = y <;> simp [e], HN.out _ (below_drew (Below.refl _ _) _)⟩, by simp [RowKit.intOf]; omega⟩
          · obtain rfl : j = l := by omega
            rw [HL.out, List.take_length]
            by_cases hsee : I i ∈ (fu k I i).map I
            · rw [decide_eq_true hsee]
              have HE : Hid (Rr.IP w.heap.size (.slice a2 j c2) (fu k I (i + 1)).length (fun t => I ((fu k I (i + 1)).getD t 0)) (fun t => X ((fu k I (i + 1)).getD t 0)) wr) := by
                rw [fu_skip (.inr hsee)]
                rw [HL.out]
                exact HI.out.keep HX.out
              have HBE := hide (below_step HB.out HX.out)
              rw [← HL.out]
              clear hsee hx HX HI HB
              go_wp2
              exact ⟨⟨i + 1, by omega, by go_num, HE.out, HBE.out⟩, by simp [RowKit.intOf]; omega⟩
            · rw [decide_eq_false hsee, ← HL.out]
              have HBE := hide (below_step HB.out HX.out)
              have hI9 := HI.out.keep HX.out
              rw [← HL.out] at hI9
              obtain ⟨v', w', hap, hI', hg', _⟩ := hI9.one2 (I i) (X i) (by omega) HBE.out.size
              have hal : Below wr.heap.size wr (wr.alloc (.cells #[.int .i64 (I i), .string (X i)] 65)) := below_alloc (Below.refl _ _) _
              have HE : Hid (Rr.IP w.heap.size v' (fu k I (i + 1)).length (fun t => I ((fu k I (i + 1)).getD t 0)) (fun t => X ((fu k I (i + 1)).getD t 0)) w') := by
                show Rr.IP _ _ _ _ _ _
                rw [fu_take (by rw [← HL.out]; omega) hsee, List.length_append, ← HL.out]
                refine hI'.congr (fun t ht => ?_)
                by_cases e : t < j
                · rw [if_pos e, if_pos e, getD_left _ (by rw [← HL.out]; exact e)]; exact ⟨rfl, rfl⟩
                · obtain rfl : t = j := by omega
                  have := getD_last (fu k I i) i
                  rw [← HL.out] at this
                  rw [if_neg e, if_neg e, this]; exact ⟨rfl, rfl⟩
              have HB' : Hid (Below w.heap.size w w') := (below_step HBE.out hal).grown hg' (Nat.le_trans HBE.out.size hal.size) (fun cc hcc => (hI9.keep hal).lt cc hcc |>.1)
              obtain ⟨p1, p2⟩ := HCI.out _ HBE.out
              clear hsee hx HX HI HB hI' hg' hI9 hal HBE
              go_wp2_with (at_builtin; refine Lib.wpList_append_run _ rfl _ _ _ _ rfl _ _ rfl rfl _ _ hap ?_)
              exact ⟨⟨i + 1, by omega, by go_num, HE.out, HB'.out⟩, by simp [RowKit.intOf]; omega⟩
      · have b2 : ¬ (l : Int) < (k : Int) := by omega
        have e : fu k I n = fu k I i := by
          have := fu_full (I := I) (j := i) (show (fu k I i).length = k by rw [← HL.out]; omega) (n - i)
          rwa [show i + (n - i) = n by omega] at this
        have HE : Hid (Rr.IP w.heap.size (.slice a2 l c2) (fu k I n).length (fun t => I ((fu k I n).getD t 0)) (fun t => X ((fu k I n).getD t 0)) wu) := by
          show Rr.IP _ _ _ _ _ _
          rw [e, HL.out]
          exact HI.out
        clear e HI
        go_wp2
        go_ret
        exact ⟨_, rfl, HE.out, HB.out⟩
    · obtain rfl : i = n := by omega
      have HE : Hid (Rr.IP w.heap.size (.slice a2 l c2) (fu k I i).length (fun t => I ((fu k I i).getD t 0)) (fun t => X ((fu k I i).getD t 0)) wu) := by
        show Rr.IP _ _ _ _ _ _
        rw [HL.out]
        exact HI.out
      clear HI
      go_wp2
      go_ret
      exact ⟨_, rfl, HE.out, HB.out⟩
end Go.Proofs.YtklaeocnimkboaaGreatDoor

namespace Go.Proofs.YtklaeocnimkboaaGreatDoor
open Go.RowKit Go.Lib

theorem IL.nis {B B' n : Nat} {L : List Nat} {v v' : Value} {X : Nat → ByteArray} {w : World} (h : IL B v L w) (hS : IS B' v' n X w) (b : Nat) (hb : v.ownBlock = some b) : v'.ownBlock ≠ some b := by
  rcases h.own.2 with ⟨rfl, _⟩ | ⟨g, cap, cur, e, _, hg, _⟩
  · simp [Value.ownBlock] at hb
  rcases hS.own.2 with ⟨rfl, _⟩ | ⟨g', cap', cur', e', _, hg', _⟩
  · simp [Value.ownBlock]
  intro e2
  rw [e] at hb
  rw [e'] at e2
  simp [Value.ownBlock] at hb e2
  subst hb e2
  rw [hg] at hg'
  simp at hg'
section
variable {B n : Nat} {v : Value} {X : Nat → ByteArray} {w w' : World}
theorem IS.apart {row : Option Nat} (h : IS B v n X w) (hg : w.grownBy w' row) (ha : ∀ b, v.ownBlock = some b → row ≠ some b) : IS B v n X w' := by
  refine ⟨h.own.1, ?_⟩
  rcases h.own.2 with h2 | ⟨g, cap, cur, e, hB, hgg, r⟩
  · exact .inl h2
  · exact .inr ⟨g, cap, cur, e, hB, (hg.block g (lt_of_block hgg) (by have := ha g (by rw [e]; rfl); exact fun x => this x.symm)).trans hgg, r⟩
theorem IS.one2 (h : IS B v n X w) (x : ByteArray) (hb : n + 1 ≤ 100000) (hB : B ≤ w.heap.size) :
    ∃ a' c' w', (Builtin.append_ #[23, 23] 23 #[v, .slice (some ⟨w.heap.size, 0, none⟩) 1 1]).run Tryz.prog (w.alloc (.cells #[.string x] 9)) = .ok (.slice a' (n + 1) c') w' ∧ IS B (.slice a' (n + 1) c') (n + 1) (fun t => if t < n then X t else x) w' ∧ (w.alloc (.cells #[.string x] 9)).grownBy w' v.ownBlock := by
  have hal : Below w.heap.size w (w.alloc (.cells #[.string x] 9)) := below_alloc (Below.refl _ _) _
  obtain ⟨a', c', w', h1, h2, h3⟩ := (h.keep hal).app (m := 1) (b := w.heap.size) (o := 0) (c := 1) (Y := fun _ => x) (fun j hj => by
    obtain rfl : j = 0 := by omega
    rw [cell_of_row _ _ _ _ _ _ (heap_alloc_new w _)]; rfl) hb (by simp; omega)
  exact ⟨a', c', w', h1, h2.congr (fun t _ => rfl), h3⟩
end
/-- The numbers and the texts of the first j parts. -/
structure R2 (w1 wr : World) (vr vd : Value) (j : Nat) (ρ : Nat → Nat) (Y : Nat → ByteArray) : Prop where
  il : IL w1.heap.size vr ((List.range j).map ρ) wr
  is : IS w1.heap.size vd j Y wr
  be : Below w1.heap.size w1 wr
theorem R2.step {w1 wr : World} {vr vd : Value} {j : Nat} {ρ : Nat → Nat} {Y : Nat → ByteArray} (h : R2 w1 wr vr vd j ρ Y) (hj : j ≤ 1000) :
    ∃ v' w', (Builtin.append_ #[77, 77] 77 #[vr, .slice (some ⟨wr.heap.size, 0, none⟩) 1 1]).run Tryz.prog (wr.alloc (.cells #[.int .i64 ((ρ j : Nat) : Int)] 3)) = .ok v' w' ∧ Below w1.heap.size w1 w' ∧
      ∃ a c w2, (Builtin.append_ #[23, 23] 23 #[vd, .slice (some ⟨w'.heap.size, 0, none⟩) 1 1]).run Tryz.prog (w'.alloc (.cells #[.string (Y j)] 9)) = .ok (.slice a (j + 1) c) w2 ∧ R2 w1 w2 v' (.slice a (j + 1) c) (j + 1) ρ Y := by
  have hal : Below wr.heap.size wr (wr.alloc (.cells #[.int .i64 ((ρ j : Nat) : Int)] 3)) := below_alloc (Below.refl _ _) _
  have hI0 := h.il.keep hal
  have hS0 := h.is.keep hal
  have hB0 := below_step h.be hal
  obtain ⟨v', w', h1, h2, h3, _⟩ := h.il.one (ρ j) (by simp; omega) h.be.size
  have hS1 := hS0.apart h3 (fun b hb e => hI0.nis hS0 b e hb)
  have hB1 : Below w1.heap.size w1 w' := hI0.below hB0 h3 hB0.size
  obtain ⟨a, c, w2, h4, h5, h6⟩ := hS1.one2 (Y j) (by omega) hB1.size
  have hal2 : Below w'.heap.size w' (w'.alloc (.cells #[.string (Y j)] 9)) := below_alloc (Below.refl _ _) _
  have hI2 := h2.keep hal2
  have hS2 := hS1.keep hal2
  have hB2 := below_step hB1 hal2
  refine ⟨v', w', h1, hB1, a, c, w2, h4, ⟨?_, h5.congr (fun t ht => ?_), hB2.grown h6 hB2.size (fun cc hc => (hS2.lt cc hc).1)⟩⟩
  · rw [List.range_succ, List.map_append]
    exact hI2.apart h6 (fun b hb => hI2.nis hS2 b hb)
  · by_cases e : t < j
    · rw [if_pos e]
    · rw [if_neg e, show t = j by omega]
theorem fu_tells (k : Nat) (I : Nat → Int) : ∀ n, ∃ f, Tells f I (fu k I n)
  | 0 => ⟨fun _ => none, fun x i => by simp [fu]⟩
  | n + 1 => by
    obtain ⟨f, h⟩ := fu_tells k I n
    rw [fu]
    split
    · exact ⟨f, h⟩
    · rename_i hh
      rw [not_or] at hh
      exact ⟨_, h.add hh.2⟩
theorem RP.cell2 {w : World} {b g k m : Nat} (h : RP w b g k m) : w.cell? ⟨b, 2, none⟩ = some (.int .i64 ((k + m : Nat) : Int)) := by rw [cell_of_row w b 2 _ _ _ h]; rfl
theorem RP.cell3 {w : World} {b g k m : Nat} (h : RP w b g k m) : w.cell? ⟨b, 3, none⟩ = some (.int .i64 k) := by rw [cell_of_row w b 3 _ _ _ h]; rfl
theorem NX.congr {w : World} {f n : Nat} {v : Value} {Z Z' : Nat → Int} (h : NX w f v n Z) (e : ∀ i, i < n → Z i = Z' i) : NX w f v n Z' := by
  obtain ⟨a, c, e1, hc, h0 | ⟨bl, off, ea, hl, hf, hcell⟩⟩ := h
  · exact ⟨a, c, e1, hc, .inl h0⟩
  · exact ⟨a, c, e1, hc, .inr ⟨bl, off, ea, hl, hf, fun j hj => by rw [← e j hj]; exact hcell j hj⟩⟩
/-- A row of three, stored over. -/
theorem set3 {w : World} {g : Nat} {T : TypeId} {a0 a1 a2 : Value} (h : w.heap[g]? = some (.cells #[a0, a1, a2] T (0, 0))) (x y z : Value) :
    (w.cell? ⟨g, 0, none⟩ = some a0 ∧ w.frozen? ⟨g, 0, none⟩ = false) ∧ ((w.setCell ⟨g, 0, none⟩ x).cell? ⟨g, 1, none⟩ = some a1 ∧ (w.setCell ⟨g, 0, none⟩ x).frozen? ⟨g, 1, none⟩ = false) ∧
      (((w.setCell ⟨g, 0, none⟩ x).setCell ⟨g, 1, none⟩ y).cell? ⟨g, 2, none⟩ = some a2 ∧ ((w.setCell ⟨g, 0, none⟩ x).setCell ⟨g, 1, none⟩ y).frozen? ⟨g, 2, none⟩ = false) ∧
      (((w.setCell ⟨g, 0, none⟩ x).setCell ⟨g, 1, none⟩ y).setCell ⟨g, 2, none⟩ z).heap[g]? = some (.cells #[x, y, z] T (0, 0)) ∧
      (∀ i, i ≠ g → (((w.setCell ⟨g, 0, none⟩ x).setCell ⟨g, 1, none⟩ y).setCell ⟨g, 2, none⟩ z).heap[i]? = w.heap[i]?) := by
  have h0 : w.heap[g]? = some (.cells [a0, a1, a2].toArray T (0, 0)) := h
  have h1 := heap_set_list (o := 0) x h0
  have h2 := heap_set_list (o := 1) y h1
  have h3 := heap_set_list (o := 2) z h2
  refine ⟨⟨by rw [cell_of_row _ _ 0 _ _ _ h0]; rfl, frozen_of_row _ _ 0 _ _ h0⟩, ⟨by rw [cell_of_row _ _ 1 _ _ _ h1]; rfl, frozen_of_row _ _ 1 _ _ h1⟩, ⟨by rw [cell_of_row _ _ 2 _ _ _ h2]; rfl, frozen_of_row _ _ 2 _ _ h2⟩, h3, fun i hi => ?_⟩
  rw [Below.heap_setCell _ _ _ _ hi, Below.heap_setCell _ _ _ _ hi, Below.heap_setCell _ _ _ _ hi]
theorem cat_more {j : Nat} {Y : Nat → ByteArray} : (⟨(cat j Y).toArray⟩ : ByteArray) ++ Y j = ⟨(cat (j + 1) Y).toArray⟩ := by
  apply ByteArray.ext
  apply Array.toList_inj.1
  rw [cat_succ]
  simp
theorem jn_fault {k m : Nat} {long : Int} {I : Nat → Int} {X : Nat → ByteArray} {n : Nat} {v : Int} (h : faultV k m long I X n = v) (hv : v ≠ 0) : jnC k m long I X n = v ∧ jnS k m long I X n = ⟨#[]⟩ := by
  rw [jnC, jnS, h, if_pos hv, if_pos hv]; exact ⟨rfl, rfl⟩
theorem jn_few {k m : Nat} {long : Int} {I : Nat → Int} {X : Nat → ByteArray} {n : Nat} (h : faultV k m long I X n = 0) (hv : (fu k I n).length < k) : jnC k m long I X n = 50 ∧ jnS k m long I X n = ⟨#[]⟩ := by
  simp [jnC, jnS, h, hv]
theorem jn_ok {k m : Nat} {long : Int} {I : Nat → Int} {X : Nat → ByteArray} {n : Nat} (h : faultV k m long I X n = 0) (hv : ¬ (fu k I n).length < k) : jnC k m long I X n = 0 ∧ jnS k m long I X n = joinB k I X n long.toNat := by
  simp [jnC, jnS, h, hv]
end Go.Proofs.YtklaeocnimkboaaGreatDoor

namespace Go.Proofs.YtklaeocnimkboaaGreatDoor
open Go.RowKit Go.Lib

set_option maxRecDepth 100000 in
set_option maxHeartbeats 3200000 in
theorem rjoin_all {w : World} {b g k m : Nat} (h : RQ w b g k m) (k1 : 1 ≤ k) (k12 : k ≤ 12) (km : k + m ≤ 255) {vp : Value} {n : Nat} {I : Nat → Int} {X : Nat → ByteArray} (hn : n ≤ 1000) (hP : PX w vp n I X)
    (hXs : ∀ i, i < n → (X i).size ≤ 100000) (long : Int) :
    Calls Tryz.prog 30 #[.pointer (some ⟨b, 0, none⟩), vp, .int .i64 long] w fun e w' => e = .returned (.tuple #[.string (jnS k m long I X n), .int .i64 (jnC k m long I X n)]) ∧ Below w.heap.size w w' := by
  obtain ⟨a, c, rfl, hP⟩ := hP
  have HP := hide h
  have HX := hide hP
  have HS := hide hXs
  have HK := hide (And.intro k1 (And.intro k12 km))
  obtain ⟨C, hC⟩ : ∃ C, C = jnC k m long I X n := ⟨_, rfl⟩
  obtain ⟨S, hS⟩ : ∃ S, S = jnS k m long I X n := ⟨_, rfl⟩
  rw [← hC, ← hS]
  have HCS := hide (And.intro hC hS)
  have hE : Hid (Calls Tryz.prog 54 #[.pointer (some ⟨b, 0, none⟩), .int .i64 long] w fun e w' => e = .returned (.tuple #[.int .i64 (eachR k long).1, .int .i64 (eachR k long).2]) ∧ Below w.heap.size w w') := reach_any h k1 (by omega) long
  clear h hP hXs hC hS
  go_enter Tryz.func30, Tryz.ntmps30
  go_wp2_with fail
  refine hE.out.mono ?_
  rintro e w1 ⟨rfl, hb1⟩
  have HB1 := hide hb1
  clear hb1 hE
  by_cases hlong : long < 0 ∨ 65536 < long
  · have hf : faultV k m long I X n = 1 := by rw [faultV, if_pos hlong]
    obtain ⟨e1, e2⟩ := jn_fault hf (by decide)
    have hC := HCS.out.1.trans e1
    have hS := HCS.out.2.trans e2
    subst hC hS
    rw [eachR, if_pos hlong]
    clear hf e1 e2 HCS hlong
    go_wp2
    exact bodyPost_ret (v := .tuple #[.string ⟨#[]⟩, .int .i64 1]) (by simp [results, Tryz.results30, go_sem]) rfl ⟨rfl, HB1.out⟩
  rw [eachR, if_neg hlong]
  obtain ⟨ea, hea⟩ : ∃ ea, ea = eachN k long.toNat := ⟨_, rfl⟩
  have hle : ea ≤ 65536 := by rw [hea]; have := eachN_le (k := k) (n := long.toNat) k1; omega
  have HFV : Hid (faultV k m long I X n = flt (k + m) ea I X n) := by
    show faultV k m long I X n = _
    rw [faultV, if_neg hlong, hea]
  rw [← hea]
  have HEA := hide hea
  have HLG := hide hlong
  clear hea hlong
  have hwr : IntKind.i64.wrap ((k : Int) + (m : Int)) = (k : Int) + (m : Int) := wraps_i64 _ (by omega) (by omega)
  go_wp2
  go_loopw [10] (fun z wr => ∃ j : Nat, j ≤ n ∧ z = .int .i64 j ∧ flt (k + m) ea I X j = 0 ∧ Below w.heap.size w wr) (fun z _ => n - (RowKit.intOf z).toNat)
  case atStart => exact ⟨0, Nat.zero_le _, rfl, rfl, HB1.out⟩
  case round =>
    obtain ⟨j, hj, rfl, hf, hB⟩ := hrel
    clear HB1
    have HB := hide hB
    have HF := hide hf
    clear hf
    by_cases hlt : j < n
    · obtain ⟨bl, off, rfl, hbl, hcell⟩ := HX.out.resolve_left (by omega)
      have p1 := (hB.cell (p := ⟨bl, off + j * 2, none⟩) hbl).trans (hcell j hlt).1
      have p2 := (hB.cell (p := ⟨bl, off + j * 2 + 1, none⟩) hbl).trans (hcell j hlt).2
      have c0 := (HP.out.below hB).pl.cell0
      have c1 := (HP.out.below hB).pl.cell1
      have b1 : (j : Int) < (n : Int) := by omega
      have b0 : (0 : Int) ≤ (j : Int) := by omega
      have hxs := HS.out j hlt
      obtain ⟨x, hx⟩ : ∃ x, x = I j := ⟨_, rfl⟩
      obtain ⟨Y, hY⟩ : ∃ Y, Y = X j := ⟨_, rfl⟩
      have HXY := hide (And.intro hx hY)
      rw [← hx] at p1
      rw [← hY] at p2 hxs
      have HR : Hid (∀ v : Int, bad1 (k + m) ea (I j) (X j) = v → v ≠ 0 → C = v ∧ S = ⟨#[]⟩) := fun v hv h0 => by
        have := jn_fault (HFV.out.trans ((flt_at hlt HF.out (by rw [hv]; exact h0)).trans hv)) h0
        exact ⟨HCS.out.1.trans this.1, HCS.out.2.trans this.2⟩
      clear hB hcell hx hY HCS
      by_cases hneg : x < 0
      · have hd : decide (x < 0) = true := decide_eq_true hneg
        obtain ⟨hC, hS⟩ := HR.out 1 (by rw [bad1, ← HXY.out.1, if_neg (by omega)]) (by decide)
        subst hC hS
        clear HR
        go_wp2
        go_quiet (fail)
        go_wp2
        exact bodyPost_ret (v := .tuple #[.string ⟨#[]⟩, .int .i64 1]) (by simp [results, Tryz.results30, go_sem]) rfl ⟨rfl, below_drew HB.out _⟩
      · have hd : decide (x < 0) = false := decide_eq_false hneg
        by_cases hge : (k : Int) + (m : Int) ≤ x
        · have hd2 : decide ((k : Int) + (m : Int) ≤ x) = true := decide_eq_true hge
          obtain ⟨hC, hS⟩ := HR.out 1 (by rw [bad1, ← HXY.out.1, if_neg (by omega)]) (by decide)
          subst hC hS
          clear HR
          go_wp2
          go_quiet (fail)
          go_wp2
          exact bodyPost_ret (v := .tuple #[.string ⟨#[]⟩, .int .i64 1]) (by simp [results, Tryz.results30, go_sem]) rfl ⟨rfl, below_drew HB.out _⟩
        · have hd2 : decide ((k : Int) + (m : Int) ≤ x) = false := decide_eq_false hge
          have hin : 0 ≤ I j ∧ I j < ((k + m : Nat) : Int) := by have := HXY.out.1; omega
          by_cases hs : Y.size = ea
          · have b3 : ((Y.size : Nat) : Int) = (ea : Int) := by rw [hs]
            have HZ : Hid (bad1 (k + m) ea (I j) (X j) = 0) := by
              show bad1 _ _ _ _ = 0
              rw [bad1, if_pos hin, ← HXY.out.2, if_pos hs]
            clear hin HR
            go_wp2
            go_quiet (fail)
            go_wp2
            exact ⟨⟨j + 1, by omega, by go_num, flt_next HF.out HZ.out, below_drew HB.out _⟩, by simp [RowKit.intOf]; omega⟩
          · have b3 : ¬ ((Y.size : Nat) : Int) = (ea : Int) := by omega
            obtain ⟨hC, hS⟩ := HR.out 4 (by rw [bad1, if_pos hin, ← HXY.out.2, if_neg hs]) (by decide)
            subst hC hS
            clear hin HR
            go_wp2
            go_quiet (fail)
            go_wp2
            exact bodyPost_ret (v := .tuple #[.string ⟨#[]⟩, .int .i64 4]) (by simp [results, Tryz.results30, go_sem]) rfl ⟨rfl, below_drew HB.out _⟩
    · obtain rfl : j = n := by omega
      have hfz : faultV k m long I X j = 0 := HFV.out.trans HF.out
      obtain ⟨hl0, hl1, hI, hX⟩ := faultV_zero hfz
      have HIX := hide (And.intro hI hX)
      have HFZ := hide hfz
      have HL0 := hide (And.intro hl0 hl1)
      have HPr := hide (HP.out.below hB)
      have HPX : Hid (PX wr (.slice a j c) j I X) := (show PX w (.slice a j c) j I X from ⟨a, c, rfl, HX.out⟩).below hB (Nat.le_refl _)
      clear hI hX hB hfz hl0 hl1 HX HP HFV HF HLG
      go_wp2_with fail
      refine (unlike_any HPr.out.pl.cell0 HPr.out.pl.lt (by omega) hn HPX.out).mono ?_
      rintro e w2 ⟨v2, rfl, hI2, hb2⟩
      have HB2 := hide (below_step HB.out hb2)
      have HP2 := hide (HPr.out.below hb2)
      obtain ⟨a2, c2, rfl⟩ := hI2.shp
      have HI2 := hide hI2.px
      have c0 := HP2.out.pl.cell0
      have hle := fu_le k I j
      clear hI2 hb2 HPr HPX HB
      by_cases hfew : (fu k I j).length < k
      · obtain ⟨e1, e2⟩ := jn_few HFZ.out hfew
        have hC := HCS.out.1.trans e1
        have hS := HCS.out.2.trans e2
        subst hC hS
        clear HCS e1 e2 HI2
        generalize (fu k I j).length = l at *
        have b1 : (l : Int) < (k : Int) := by omega
        go_wp2
        exact bodyPost_ret (v := .tuple #[.string ⟨#[]⟩, .int .i64 50]) (by simp [results, Tryz.results30, go_sem]) rfl ⟨rfl, HB2.out⟩
      · have hlk : (fu k I j).length = k := by omega
        obtain ⟨e1, e2⟩ := jn_ok HFZ.out hfew
        have hC := HCS.out.1.trans e1
        have HSS := hide (HCS.out.2.trans e2)
        subst hC
        have hmem : ∀ t, t < k → (fu k I j).getD t 0 < j := fun t ht => fu_lt (getD_mem (by rw [hlk]; exact ht))
        have HRr : Hid ((∀ t, t < k → rhoL I (fu k I j) t < k + m) ∧ (∀ s t, s < k → t < k → rhoL I (fu k I j) s = rhoL I (fu k I j) t → s = t) ∧ (∀ t, t < k → (txJ X (fu k I j) t).size = eachN k long.toNat) ∧ (∀ t, t < k → ((rhoL I (fu k I j) t : Nat) : Int) = I ((fu k I j).getD t 0))) := by
          have hr : ∀ t, t < k → ((rhoL I (fu k I j) t : Nat) : Int) = I ((fu k I j).getD t 0) := fun t ht => by
            rw [rhoL]
            have := (HIX.out.1 _ (hmem t ht)).1
            omega
          obtain ⟨f, hT⟩ := fu_tells k I j
          refine ⟨fun t ht => ?_, fun s t hs ht e => ?_, fun t ht => HIX.out.2 _ (hmem t ht), hr⟩
          · have := (HIX.out.1 _ (hmem t ht)).2
            have := hr t ht
            omega
          · refine hT.inj (by rw [hlk]; exact hs) (by rw [hlk]; exact ht) ?_
            rw [← hr s hs, ← hr t ht, e]
        have HPX : Hid (PX w2 (.slice a2 k c2) k (fun t => ((rhoL I (fu k I j) t : Nat) : Int)) (txJ X (fu k I j))) := by
          have := HI2.out
          rw [hlk] at this
          exact this.congr (fun t ht => ⟨(HRr.out.2.2.2 t ht).symm, rfl⟩)
        have HJB : Hid (S = (⟨(cat k (bkd k (rhoL I (fu k I j)) (txJ X (fu k I j)))).toArray⟩ : ByteArray).extract 0 long.toNat) := HSS.out
        rw [hlk]
        clear e1 e2 HCS HI2 hmem HSS HIX hfew hle
        generalize rhoL I (fu k I j) = ρ at *
        generalize txJ X (fu k I j) = Y at *
        have HR1 := hide HRr.out.1
        have HR2 := hide HRr.out.2.1
        have HR3 := hide HRr.out.2.2.1
        clear HRr hlk HFZ
        obtain ⟨lo, hlo⟩ : ∃ lo : Nat, long = (lo : Int) := ⟨long.toNat, by have := HL0.out; omega⟩
        subst hlo
        rw [Int.toNat_natCast] at HR3 HJB
        go_wp2
        go_loopw [13, 11, 12] (fun z vr vd wr => ∃ t : Nat, t ≤ k ∧ z = .int .i64 t ∧ R2 w2 wr vr vd t ρ Y) (fun z _ _ _ => k - (RowKit.intOf z).toNat)
        case atStart => exact ⟨0, Nat.zero_le _, rfl, ⟨IL.nil _ _, IS.nil _ _ _, Below.refl _ _⟩⟩
        case round =>
          obtain ⟨t, ht, rfl, hR⟩ := hrel
          clear c0
          by_cases hlt : t < k
          · obtain ⟨_, _, e9, h0 | ⟨bl, off, ea9, hbl, hcell⟩⟩ := HPX.out
            · omega
            simp only [Value.slice.injEq] at e9
            obtain ⟨e91, e92, e93⟩ := e9
            subst e91 e93
            subst ea9
            obtain ⟨v', w', h1, hB1, a', c', w3, h2, hR'⟩ := hR.step (by omega)
            have HR' := hide hR'
            have p1 : wr.cell? ⟨bl, off + t * 2, none⟩ = some (.int .i64 ((ρ t : Nat) : Int)) := (hR.be.cell (p := ⟨bl, off + t * 2, none⟩) hbl).trans (hcell t hlt).1
            have p2 := (hB1.cell (p := ⟨bl, off + t * 2 + 1, none⟩) hbl).trans (hcell t hlt).2
            have b1 : (t : Int) < (k : Int) := by omega
            have b0 : (0 : Int) ≤ (t : Int) := by omega
            generalize Y t = y at *
            generalize ρ t = r at *
            clear hR hR' hB1 hcell
            go_wp2_with (at_builtin; first | refine Lib.wpList_append_run _ rfl _ _ _ _ rfl _ _ rfl rfl _ _ h1 ?_ | refine Lib.wpList_append_run _ rfl _ _ _ _ rfl _ _ rfl rfl _ _ h2 ?_)
            exact ⟨⟨t + 1, by omega, by go_num, HR'.out⟩, by simp [RowKit.intOf]; omega⟩
          · obtain rfl : t = k := by omega
            have b1 : ¬ ((t : Int) < (t : Int)) := by omega
            have hB3 := below_step HB2.out hR.be
            have HB3 := hide hB3
            have hP3 := HP2.out.below hR.be
            have HP3 := hide hP3
            have c0 := hP3.pl.cell0
            have c2' := hP3.pl.cell2
            have c3 := hP3.pl.cell3
            have c4 := hP3.pl.cell4
            have HD := hide hR.is
            have hnx := hR.il.nx (f := 0) (by have := HP2.out.pl.lt; omega)
            rw [List.length_map, List.length_range] at hnx
            have hZ : ∀ i, i < t → ((((List.range t).map ρ).getD i 0 : Nat) : Int) = ((ρ i : Nat) : Int) := fun i hi => by
              rw [List.getD_eq_getElem?_getD, List.getElem?_map, List.getElem?_range hi]; rfl
            have HNX := hide (NX.congr hnx hZ)
            have HKB := hide (hP3.kb.nx (f := g + 1) (c := (t + m) * t) (Nat.le_refl _) (by omega))
            have HUP : Hid (upB (((t + m : Nat) : Int) - 1) (fun i => ((ρ i : Nat) : Int)) t = true) := allB_of _ _ (fun i hi => by have := HR1.out i hi; simp; omega)
            obtain ⟨ar, cr, rfl⟩ := hR.il.shape
            obtain ⟨ad, cd, rfl⟩ := hR.is.shp
            rw [List.length_map, List.length_range] at HNX ⊢
            clear hR hB3 hP3 hnx hZ HPX HP2 HB2
            go_wp2_with fail
            refine (refPick_in (r := t + m) (c := t) (k := t) (by omega) km k1 (by omega) k1 (by omega) HKB.out HNX.out).mono ?_
            rintro e w4 ⟨⟨_, g4, rfl, hK4, hg4⟩ | ⟨hu, _⟩, hb4⟩
            rotate_left
            · exact absurd (hu.symm.trans HUP.out) (by simp)
            have hnn : t * t ≤ 144 := Nat.mul_le_mul k12 k12
            have hK4' : KB w4 g4 (t * t) (pkd t ρ) := hK4
            have hpf := pkd_full (ρ := ρ) km HR1.out HR2.out
            have HB4 := hide (below_step HB3.out hb4)
            have HP4 := hide (HP3.out.below hb4)
            have HD4 := hide (HD.out.keep hb4)
            obtain ⟨V, hV⟩ : ∃ V, V = w4.alloc (.cells #[.int .i64 (t : Int), .int .i64 (t : Int), .slice (some ⟨g4, 0, none⟩) (t * t) (t * t)] 90) := ⟨_, rfl⟩
            have hbV : Below w4.heap.size w4 V := by rw [hV]; exact below_alloc (Below.refl _ _) _
            have hbk : V.heap[w4.heap.size]? = some (.cells #[.int .i64 (t : Int), .int .i64 (t : Int), .slice (some ⟨g4, 0, none⟩) (t * t) (t * t)] 90) := by rw [hV]; exact heap_alloc_new w4 _
            have q0 : V.cell? ⟨w4.heap.size, 0, none⟩ = some (.int .i64 (t : Int)) := by rw [cell_of_row V _ 0 _ _ _ hbk]; rfl
            have q1 : V.cell? ⟨w4.heap.size, 1, none⟩ = some (.int .i64 (t : Int)) := by rw [cell_of_row V _ 1 _ _ _ hbk]; rfl
            have q2 : V.cell? ⟨w4.heap.size, 2, none⟩ = some (.slice (some ⟨g4, 0, none⟩) (t * t) (t * t)) := by rw [cell_of_row V _ 2 _ _ _ hbk]; rfl
            have HIN := hide (refInverse_ok (w := V) (f := g4 + 1) (n := t) k1 (by omega) (by omega) ((hK4'.below hbV (Nat.le_refl _)).nx (c := t * t) (Nat.le_refl _) (by omega)))
            have HPF := hide hpf
            have HBV := hide hbV
            have HBK := hide hbk
            have HV := hide hV
            generalize hN : t * t = N at *
            clear hK4 hK4' hpf hbV hbk hV HB3 HP3 HD HKB HNX HUP hb4 hg4 c0 c2' c3 c4
            go_upto_region 22 with fail
            rw [← HV.out]
            go_wp2_with fail
            refine HIN.out.mono ?_
            rintro e w5 ⟨⟨_, g5, cp5, rfl, hcp, hK5, hg5⟩ | ⟨hlt5, _⟩, hb5⟩
            rotate_left
            · exact absurd HPF.out (by omega)
            obtain ⟨⟨r0, s0⟩, ⟨r1, s1⟩, ⟨r2, s2⟩, hk8, hoth⟩ := set3 ((hb5.block _ (lt_of_block HBK.out)).trans HBK.out) (.int .i64 (t : Int)) (.int .i64 (t : Int)) (.slice (some ⟨g5, 0, none⟩) N cp5)
            have hb45 := below_step HBV.out hb5
            have hb43 : Below w4.heap.size w4 (((w5.setCell ⟨w4.heap.size, 0, none⟩ (.int .i64 (t : Int))).setCell ⟨w4.heap.size, 1, none⟩ (.int .i64 (t : Int))).setCell ⟨w4.heap.size, 2, none⟩ (.slice (some ⟨g5, 0, none⟩) N cp5)) := ((hb45.setCell (Nat.le_refl _) _).setCell (Nat.le_refl _) _).setCell (Nat.le_refl _) _
            have hVs := lt_of_block HBK.out
            have HKB3 := hide (hK5.of_block (hoth g5 (by omega)))
            have HBr3 : Hid (Br _ w4.heap.size t t (.slice (some ⟨g5, 0, none⟩) N cp5)) := hk8
            obtain ⟨W3, hW3⟩ : ∃ W3, W3 = (((w5.setCell ⟨w4.heap.size, 0, none⟩ (.int .i64 (t : Int))).setCell ⟨w4.heap.size, 1, none⟩ (.int .i64 (t : Int))).setCell ⟨w4.heap.size, 2, none⟩ (.slice (some ⟨g5, 0, none⟩) N cp5)) := ⟨_, rfl⟩
            rw [← hW3] at hb43 HKB3 HBr3
            have HW3 := hide hW3
            have HP6 := hide (HP4.out.below hb43)
            have HD6 := hide (HD4.out.keep hb43)
            have HB6 := hide (below_step HB4.out hb43)
            clear HIN HPF q0 q1 q2 hk8 hoth hb45 hb43 hW3 HBV HBK hK5 HV HP4 HB4 HD4 hb5
            go_upto_region 23 with fail
            rw [← HW3.out]
            clear r0 r1 r2 s0 s1 s2 HW3
            have hcp0 := hcp
            go_wp2
            go_loopw [17, 16] (fun z sv wr => ∃ i : Nat, i ≤ t ∧ z = .int .i64 i ∧ sv = .string ⟨(cat i (bkd t ρ Y)).toArray⟩ ∧ Below W3.heap.size W3 wr) (fun z _ _ => t - (RowKit.intOf z).toNat)
            case atStart => exact ⟨0, Nat.zero_le _, rfl, rfl, Below.refl _ _⟩
            case round =>
              obtain ⟨i, hi, rfl, rfl, hx⟩ := hrel
              have HX := hide hx
              have c0 := (HP6.out.below hx).pl.cell0
              have c2' := (HBr3.out.below hx (Nat.le_refl _)).cell2
              by_cases hlt : i < t
              · have b2 : (i : Int) < (t : Int) := by omega
                obtain ⟨M, hM⟩ : ∃ M, M = bkd t ρ Y i := ⟨_, rfl⟩
                obtain ⟨x, hx1⟩ : ∃ x, x = i * t := ⟨_, rfl⟩
                have hx2 : (i + 1) * t = x + t := by rw [Nat.add_mul, Nat.one_mul, hx1]
                have hxN : x + t ≤ N := by rw [← hx2, ← hN]; exact Nat.mul_le_mul_right t hlt
                have hm : (i : Int) * (t : Int) = (x : Int) := by rw [← Int.natCast_mul, hx1]
                have hm2 : ((i : Int) + 1) * (t : Int) = (x : Int) + (t : Int) := by rw [Int.add_mul, Int.one_mul, hm]
                obtain ⟨fc, hfc⟩ : ∃ fc, fc = Fd.faultC t t Y (fun q => (((flat t (invQ t (pkd t ρ)) (x + q)).v : Nat) : Int)) := ⟨_, rfl⟩
                have HMX : Hid (∀ wz, Below wr.heap.size wr wz → Calls Tryz.prog 58 #[.slice ad t cd, .slice (some ⟨g5, x, none⟩) t (cp5 - x)] wz fun e w' => e = .returned (.tuple #[.string M, .int .i64 fc]) ∧ Below wz.heap.size wz w') := fun wz hz => by
                  have hz3 := below_step HX.out hz
                  have := Fd.refMix_any ((HD6.out.keep hz3).tx) ((HKB3.out.below hz3 (Nat.le_refl _)).part x t (cp5 - x) hxN) (by omega) (by omega) (fun q hq => by rw [HR3.out q hq]; have := eachN_le (k := t) (n := lo) k1; have := HL0.out; omega)
                  rw [hfc, hM, bkd, ← hx1]
                  exact this
                obtain ⟨y, hy⟩ : ∃ y, y = x + t := ⟨_, rfl⟩
                have d0 : (0 : Int) ≤ (x : Int) := by omega
                have d1 : (x : Int) ≤ (y : Int) := by omega
                have d2 : (y : Int) ≤ (cp5 : Int) := by omega
                have d3 : ¬ (cp5 = x) := by omega
                have d4 : y - x = t := by omega
                have hsl : ∀ w : World, (Instr.slice 77 (.slice (some ⟨g5, 0, none⟩) N cp5) (some (.int .i64 (x : Int))) (some (.int .i64 (y : Int))) none).run Tryz.prog w = .ok (.slice (some ⟨g5, x, none⟩) t (cp5 - x)) w := fun w => by
                  rw [run_slice_lh (P := Tryz.prog) (w := w) 77 _ _ _ Tryz.underlying77 .i64 .i64 (x : Int) (y : Int) d0 d1 d2]
                  simp [go_sem, sliced, d3, d4]
                have e0 : IntKind.i64.wrap ((i : Int) + 1) = (i : Int) + 1 := wraps_i64 _ (by omega) (by omega)
                have e1 : IntKind.i64.wrap ((i : Int) * (t : Int)) = (x : Int) := by rw [hm]; exact wraps_i64 _ (by omega) (by omega)
                have e2 : IntKind.i64.wrap (((i : Int) + 1) * (t : Int)) = (y : Int) := by rw [hm2, hy, Int.natCast_add]; exact wraps_i64 _ (by omega) (by omega)
                have KS : Hid (∀ w', Below wr.heap.size wr w' → w'.cell? ⟨b, 0, none⟩ = some (.int .i64 t) ∧ w'.cell? ⟨w4.heap.size, 2, none⟩ = some (.slice (some ⟨g5, 0, none⟩) N cp5)) := fun w' hg => ⟨(HP6.out.below (below_step HX.out hg)).pl.cell0, (HBr3.out.below (below_step HX.out hg) (Nat.le_refl _)).cell2⟩
                have HCM : Hid ((⟨(cat i (bkd t ρ Y)).toArray⟩ : ByteArray) ++ M = ⟨(cat (i + 1) (bkd t ρ Y)).toArray⟩) := by
                  show _ ++ _ = _
                  rw [hM]; exact cat_more
                have HNX : Hid (∀ w', Below wr.heap.size wr w' → Below W3.heap.size W3 w') := fun w' hg => below_step HX.out hg
                have hcc : ¬ 9223372036854775807 < (⟨(cat i (bkd t ρ Y)).toArray⟩ : ByteArray).size + M.size := by
                  have h1 := cat_length (k := i) (Y := bkd t ρ Y) (N := eachN t lo) (fun q _ => bkd_size k1 HR3.out q)
                  have h2 : (⟨(cat i (bkd t ρ Y)).toArray⟩ : ByteArray).size = i * eachN t lo := by rw [← listSize, ← h1]
                  have h3 : M.size = eachN t lo := by rw [hM]; exact bkd_size k1 HR3.out i
                  have h4 := eachN_le (k := t) (n := lo) k1
                  have h5 := HL0.out
                  have h6 : i * eachN t lo ≤ 12 * 65536 := Nat.mul_le_mul (by omega) (by omega)
                  omega
                generalize (⟨(cat i (bkd t ρ Y)).toArray⟩ : ByteArray) = s0 at *
                clear hx hM hx1 hx2 hm hm2 hfc hy
                go_upto_region 27 with fail
                go_region_held_law (fun wx => wx.cell? ⟨b, 0, none⟩ = some (.int .i64 t) ∧ wx.cell? ⟨w4.heap.size, 2, none⟩ = some (.slice (some ⟨g5, 0, none⟩) N cp5))
                  (first | with_reducible exact KS.out _ (Below.refl _ _).drew | with_reducible exact KS.out _ (by assumption))
                  (first | (go_at_call 58; refine (HMX.out _ (Below.refl _ _).drew).mono ?_; rintro e wa ⟨rfl, hba⟩; have hbb := below_step (Below.refl wr.heap.size wr).drew hba))
                all_goals
                  go_wp2
                  exact ⟨⟨i + 1, by omega, by go_num, by rw [← HCM.out], HNX.out _ (by assumption)⟩, by simp [RowKit.intOf]; omega⟩
              · obtain rfl : i = t := by omega
                have hlen := cat_length (k := i) (Y := bkd i ρ Y) (N := eachN i lo) (fun q _ => bkd_size k1 HR3.out q)
                have hge : lo ≤ i * eachN i lo := eachN_ge k1
                obtain ⟨Z, hZ⟩ : ∃ Z : ByteArray, Z = ⟨(cat i (bkd i ρ Y)).toArray⟩ := ⟨_, rfl⟩
                have hZs : lo ≤ Z.size := by
                  rw [hZ, ← listSize]
                  show lo ≤ (cat i (bkd i ρ Y)).toArray.toList.length
                  rw [List.toList_toArray, hlen]
                  exact hge
                have HEZ : Hid (S = Z.extract 0 lo) := by
                  show S = _
                  rw [hZ]; exact HJB.out
                have HE := hide (below_step HB6.out hx)
                rw [← hZ]
                have b3 : ¬ ((i : Int) < (i : Int)) := by omega
                have b4 : ¬ ((Z.size : Int) < (lo : Int)) := by omega
                have b5 : (lo : Int) ≤ (Z.size : Int) := by omega
                have b6 : (0 : Int) ≤ (lo : Int) := by omega
                clear hlen hge hZ hx HJB HX HB6 HP6 HD6 HKB3 HBr3
                go_wp2
                exact bodyPost_ret (v := .tuple #[.string (Z.extract 0 lo), .int .i64 0]) (by simp [results, Tryz.results30, go_sem]) rfl ⟨by rw [HEZ.out], HE.out⟩
end Go.Proofs.YtklaeocnimkboaaGreatDoor

namespace Go.Proofs.YtklaeocnimkboaaGreatDoor
open Go.RowKit Go.Lib

theorem faultV_le {k m : Nat} {long : Int} {I : Nat → Int} {X : Nat → ByteArray} {n : Nat} : faultV k m long I X n ≠ 50 := by
  have hf : ∀ (km ea : Nat) n, flt km ea I X n ≠ 50 := fun km ea n => by
    induction n with
    | zero => show (0 : Int) ≠ 50; decide
    | succ n ih =>
      rw [flt]
      split
      · rw [bad1]
        split
        · split <;> decide
        · decide
      · exact ih
  rw [faultV]
  split
  · decide
  · exact hf _ _ _

end Go.Proofs.YtklaeocnimkboaaGreatDoor

