/-
  The walk of the statement on hashes into which pieces are written.
-/
import Derived.Test.YtgpdmboeompncaaDoorBook
import Derived.Test.YtgpdmboeompncaaDoorPiecesLaw
namespace Go.Proofs.YtgpdmboeompncaaDoor
open Go.RowKit Go.Lib

set_option maxRecDepth 100000 in
theorem kept_any {w : World} {g cap : Nat} {v : Value} {ps : List ByteArray} (hp : Pieces w (.slice (some ⟨g, 0, none⟩) ps.length cap) ps) (hp' : Pieces w v ps) (hn : ps.length ≤ 1000) (hc : ps.length + 1 ≤ cap) (hm : w.cell? ⟨g, ps.length, none⟩ = some (.string markS)) :
    Calls Tryd.prog 21 #[.slice (some ⟨g, 0, none⟩) ps.length cap, v] w fun e w' => e = .returned (.bool true) ∧ ∃ m, w' = w.drewN m := by
  have HS : Hid _ := same_any hp hp' hn
  obtain ⟨ad, c, rfl, hx⟩ := hp'
  clear hp hx
  generalize ps.length = n at *
  have b1 : (n : Int) + 1 ≤ (cap : Int) := by omega
  go_enter Tryd.func21, Tryd.ntmps21
  go_wp2_with fail
  refine Calls.mono HS.out ?_
  rintro e w1 ⟨rfl, m, rfl⟩
  unfold markS at hm
  go_wp2
  go_ret
  exact ⟨rfl, m, rfl⟩

def forkL : List UInt8 := [102, 111, 114, 107]

theorem joined_snoc (ps : List ByteArray) (p : ByteArray) : joined (ps ++ [p]) = joined ps ++ p.data.toList := by simp [joined]

theorem rel_text {B : Nat} {w wr w1 : World} {v v' : Value} {ps : List ByteArray} {p : ByteArray} {o : Obj} (hown : wr.ownsRow B 9 1 v ps.length (textCells ps)) (hb : Below B w wr) (hB : B ≤ wr.heap.size)
    (hown' : w1.ownsRow B 9 1 v' (ps.length + 1) (textCells ps ++ [.string p])) (hgrow : (wr.alloc o).grownBy w1 v.ownBlock) :
    w1.ownsRow B 9 1 v' (ps ++ [p]).length (textCells (ps ++ [p])) ∧ Below B w w1 := by
  have e : textCells (ps ++ [p]) = textCells ps ++ [.string p] := by simp [textCells]
  rw [e, List.length_append]
  exact ⟨hown', (hb.alloc hB o).grown hgrow (by simp; omega) (fun j hj => (hown.lt j hj).1)⟩

theorem owned_pieces {w : World} {B : Nat} {v : Value} {ps : List ByteArray} (h : w.ownsRow B 9 1 v ps.length (textCells ps)) : Pieces w v ps := by
  rcases h.2 with ⟨rfl, h0⟩ | ⟨g, cap, cur, rfl, _, hgg, _⟩
  · obtain rfl : ps = [] := List.eq_nil_of_length_eq_zero h0
    exact ⟨_, _, rfl, .inl rfl⟩
  · exact ⟨_, _, rfl, .inr ⟨g, 0, rfl, lt_of_block hgg, fun k hk => by
      rw [Nat.zero_add]
      exact owned_cell h k _ (by simp [textCells, List.getElem?_eq_getElem hk])⟩⟩

theorem own_ne {w : World} {B b n : Nat} {v : Value} {xs : List Value} {s : List UInt8} (h : w.ownsRow B 9 1 v n xs) (hs : HS w b s) : v.ownBlock ≠ some b := by
  intro e
  obtain ⟨bl, hr, _⟩ := hs
  rcases h.2 with ⟨rfl, _⟩ | ⟨g, cap, cur, rfl, _, hgg, _⟩
  · simp [Value.ownBlock] at e
  · simp [Value.ownBlock] at e
    subst e
    have := hgg.symm.trans hr.2
    simp at this

theorem lt_cell {w : World} {g k : Nat} {v : Value} (h : w.cell? ⟨g, k, none⟩ = some v) : g < w.heap.size := by
  apply Classical.byContradiction
  intro hn
  simp [World.cell?, Array.getElem?_eq_none (Nat.le_of_not_lt hn)] at h

theorem HS.grown {w w' : World} {b : Nat} {s : List UInt8} {row : Option Nat} (h : HS w b s) (hg : w.grownBy w' row) (hne : row ≠ some b) : HS w' b s := by
  obtain ⟨bl, h1, h2⟩ := h
  exact ⟨bl, h1.grown hg (fun e => hne e.symm), h2⟩

theorem HS.alloc {w : World} {b : Nat} {s : List UInt8} (h : HS w b s) (o : Obj) : HS (w.alloc o) b s := h.below ((Below.refl _ _).alloc (Nat.le_refl _) o) h.lt

theorem size_strOf_joined (ps : List ByteArray) (j : Nat) (h : (joined ps).length ≤ 200 * j) (hj : j ≤ 20) : (strOf (joined ps)).size ≤ 4000 := by rw [strOf_size]; omega

theorem forked_facts (l : List UInt8) (p : ByteArray) (h : l.length ≤ 4000) :
    strOf l ++ p = strOf (l ++ p.data.toList) ∧ (strOf (l ++ p.data.toList)).size = l.length + p.size ∧ IntKind.i64.wrap (((strOf (l ++ p.data.toList)).size : Int) - (p.size : Int)) = (l.length : Int)
      ∧ (strOf (l ++ p.data.toList)).extract 0 l.length = strOf l ∧ strOf l ++ ⟨#[102, 111, 114, 107]⟩ = strOf (l ++ forkL) := by
  have hz : (strOf (l ++ p.data.toList)).size = l.length + p.size := by rw [strOf_size, List.length_append, ← Lib.size_eq]
  refine ⟨by rw [← strOf_append, strOf_self'], hz, ?_, ?_, ?_⟩
  · rw [hz, show (((l.length + p.size : Nat) : Int) - (p.size : Int)) = (l.length : Int) by omega, IntKind.wrap_i64]
    omega
  · apply ByteArray.ext
    apply Array.toList_inj.1
    rw [extract_lo, strOf_toList, strOf_toList, List.take_left]
  · rw [← strOf_append]
    rfl

set_option maxHeartbeats 1600000 in
set_option maxRecDepth 100000 in
theorem writes_walk (a : Option Addr) (n c : Nat) (X : Nat → ByteArray) {w : World} (hL : Laid w)
    (hX : n = 0 ∨ ∃ b off, a = some ⟨b, off, none⟩ ∧ b < w.heap.size ∧ ∀ i, i < n → w.cell? ⟨b, off + i, none⟩ = some (.string (X i)) ∧ (X i).size ≤ 9223372036854775807) (hn : n ≤ maxLen) :
    Calls Tryd.prog 4 #[.slice a n c] w fun e w' => e = .returned (.bool true) ∧ Below w.heap.size w w' := by
  have hsz := hL.size
  have hnb : n ≤ 9223372036854775807 := Nat.le_trans hn (by decide)
  have HI : Hid _ := hX
  clear hX hn
  obtain ⟨i0, hi, hz0, hz1, hz2⟩ := info_parts Tryd.info9
  go_enter Tryd.func4, Tryd.ntmps4
  go_wp2_with fail
  refine (new_any hL).mono ?_
  rintro e w1 ⟨rfl, hr1, hb1⟩
  have hS1 := HS.new hr1
  have hL1 := hL.below hb1 hsz
  have hlt1 := hr1.lt
  clear hr1
  go_wp2_with fail
  refine (works_any hL1).mono ?_
  rintro e w2 ⟨rfl, hb2⟩
  have hS2 : HS w2 w.heap.size [] := hS1.below hb2 hlt1
  have hL2 := hL1.below hb2 (by omega)
  have hbw : Below w.heap.size w w2 := hb1.trans (hb2.mono hb1.size)
  clear hS1 hL1 hb1 hb2 hlt1
  go_wp2
  go_loopw [4, 5, 6, 7] (fun s u i _ wr => ∃ (j : Nat) (ps : List ByteArray), j ≤ 20 ∧ i = .int .i64 j ∧ ps.length ≤ j ∧ (joined ps).length ≤ 200 * j ∧ s = .string (strOf (joined ps)) ∧ wr.ownsRow w.heap.size 9 1 u ps.length (textCells ps) ∧ HS wr w.heap.size (joined ps) ∧ Laid wr ∧ Below w.heap.size w wr)
    (fun _ _ i _ _ => 20 - (intOf i).toNat)
  case atStart => exact ⟨0, [], by omega, rfl, by simp, by simp [joined], rfl, World.ownsRow_nil _ _ _ _, hS2, hL2, hbw⟩
  case round =>
    clear hS2 hL2 hbw
    obtain ⟨j, ps, hj, rfl, hpl, hjl, rfl, hown, hS, hLr, hb⟩ := hrel
    by_cases hin : j < n ∧ j < 20
    · obtain ⟨hjn, hj20⟩ := hin
      obtain ⟨bl, off, ha, hbl, hc⟩ := HI.out.resolve_left (by omega)
      obtain ⟨cj, hXs⟩ := hc j hjn
      have cj' : wr.cell? ⟨bl, off + j, none⟩ = some (.string (X j)) := (hb.cell (p := ⟨bl, off + j, none⟩) hbl).trans cj
      subst ha
      have b0 : (0 : Int) ≤ (j : Int) := by omega
      have b1 : (j : Int) < (n : Int) := by omega
      clear hc
      generalize X j = p at *
      by_cases h200 : 200 < p.size
      · go_wp2
        exact ⟨⟨j + 1, ps, by omega, by go_num, by omega, by omega, rfl, hown, hS, hLr, hb⟩, by simp [intOf]; omega⟩
      · obtain ⟨blk, hr, hblk⟩ := hS
        have hlt := hr.lt
        go_wp2_with fail
        refine (fork_any hr).mono ?_
        rintro e w5 ⟨rfl, hrf, hb5⟩
        have hB5 := hb5.size
        have hltf := hrf.lt
        have hS5 : HS w5 w.heap.size (joined ps) := HS.below ⟨blk, hr, hblk⟩ hb5 hlt
        have hF5 : HS w5 wr.heap.size (joined ps) := ⟨blk, hrf, hblk⟩
        have hL5 := hLr.below hb5 (by omega)
        have hown5 := hown.kept (gb_below hb5 (some w.heap.size)) (Or.inr (own_ne hown ⟨blk, hr, hblk⟩))
        have hbw5 : Below w.heap.size w w5 := hb.trans (hb5.mono hb.size)
        have cj5 : w5.cell? ⟨bl, off + j, none⟩ = some (.string p) := (hbw5.cell (p := ⟨bl, off + j, none⟩) hbl).trans cj
        have hne5 : wr.heap.size ≠ w.heap.size := by omega
        have hF2 : 2 ≤ wr.heap.size := by omega
        have hFB : w.heap.size ≤ wr.heap.size := by omega
        clear hr hblk hrf hown hLr hb cj' hb5 hB5 hltf hlt
        go_wp2_with fail
        refine (write_any p hL5 hS5 hsz (by omega)).mono ?_
        rintro e w6 ⟨rfl, hS6, hL6, hg6⟩
        have hb6 : Below w.heap.size w w6 := below_gb hbw5 hg6 (Nat.le_refl _) hbw5.size
        have hown6 := hown5.kept hg6 (Or.inr (own_ne hown5 hS5))
        have hF6 : HS w6 wr.heap.size (joined ps) := hF5.grown hg6 (by simp; omega)
        have cj6 : w6.cell? ⟨bl, off + j, none⟩ = some (.string p) := (hb6.cell (p := ⟨bl, off + j, none⟩) hbl).trans cj
        have hp200 : p.size ≤ 200 := by omega
        obtain ⟨happ, hAz, hwz, hxz, hfk⟩ := forked_facts (joined ps) p (by omega)
        have hA0z : (strOf (joined ps)).size ≤ 4000 := size_strOf_joined ps j hjl hj
        rw [← joined_snoc] at happ hAz hwz hxz hS6
        have HAZ : Hid _ := hAz
        have HWZ : Hid _ := hwz
        have HXZ : Hid _ := hxz
        have HFK : Hid _ := hfk
        clear hS5 hF5 hL5 hown5 hbw5 cj5 hg6 hAz hwz hxz hfk
        go_wp2_with (first | (at_builtin; refine wpList_append_own _ rfl (.tmp 48) (.tmp 53) 29 rfl w.heap.size 9 i0 (.string ⟨#[]⟩) 1 16 Tryd.underlying29 hi hz0 hz1 hz2 rfl (by decide) _ _ _ rfl (hown6.alloc _) ⟨w6.heap.size, 0, none⟩ 1 1 [.string p] rfl rfl (cell_list_new _ _ _) (by intro u hu; simp at hu; subst hu; rfl) (by unfold maxLen; omega) (by omega) (by have := hb6.size; simp; omega) ?_))
        intro v7 w7 hown7' hgrow7 _
        obtain ⟨hown7, hb7⟩ := rel_text hown6 hb6 hb6.size hown7' hgrow7
        have hS7 := (hS6.alloc _).grown hgrow7 (own_ne hown6 hS6)
        have hF7 := (hF6.alloc _).grown hgrow7 (own_ne hown6 hF6)
        have hL7 : Laid w7 := hL.below hb7 hsz
        clear hown6 hb6 hown7' hgrow7 hS6 hF6 hL6 cj6 happ
        go_wp2_with fail
        refine (write_any ⟨#[102, 111, 114, 107]⟩ hL7 hF7 hF2 (by show _ + 4 ≤ _; omega)).mono ?_
        rintro e w8 ⟨rfl, hF8', hL8, hg8⟩
        have hF8 : HS w8 wr.heap.size (joined ps ++ forkL) := hF8'
        have hb8 : Below w.heap.size w w8 := below_gb hb7 hg8 hFB hb7.size
        have hown8 := hown7.kept hg8 (Or.inr (own_ne hown7 hF7))
        have hS8 := hS7.grown hg8 (by simp; omega)
        have cj8 : w8.cell? ⟨bl, off + j, none⟩ = some (.string p) := (hb8.cell (p := ⟨bl, off + j, none⟩) hbl).trans cj
        clear hown7 hb7 hS7 hF7 hL7 hF8' hg8
        have hB8 := hS8.lt
        have hG8 := hF8.lt
        have h28 := hL8.size
        have hl1 : (joined (ps ++ [p])).length ≤ 200 * (j + 1) := by
          rw [joined_snoc, List.length_append, ← Lib.size_eq]
          omega
        have hl2 : (joined ps ++ forkL).length ≤ 200 * j + 4 := by
          rw [List.length_append]
          show _ + 4 ≤ _
          omega
        have KS : Hid (∀ w' w'' : World, (Below w8.heap.size w8 w' ∧ w'.cell? ⟨bl, off + j, none⟩ = some (.string p)) → Below w'.heap.size w' w'' → (Below w8.heap.size w8 w'' ∧ w''.cell? ⟨bl, off + j, none⟩ = some (.string p))) := fun w' w'' h k => by
          have hk := below_step h.1 k
          exact ⟨hk, (hk.cell (p := ⟨bl, off + j, none⟩) (by have := hb8.size; show bl < _; omega)).trans cj8⟩
        have A17 : Hid (∀ (v : Value) (w' : World), v = .pointer (some ⟨w.heap.size, 0, none⟩) → (Below w8.heap.size w8 w' ∧ w'.cell? ⟨bl, off + j, none⟩ = some (.string p)) → Calls Tryd.prog 17 #[v] w' fun e w'' => e = .returned (.string (strOf (digest (joined (ps ++ [p]))))) ∧ (Below w8.heap.size w8 w'' ∧ w''.cell? ⟨bl, off + j, none⟩ = some (.string p))) := fun v w' hv h => by
          subst hv
          exact
          (hsum_any (hL8.below h.1 (by omega)) (hS8.below h.1 hB8) (by omega)).mono fun _ _ ⟨he, hk⟩ => ⟨he, KS.out _ _ h hk⟩
        have A17f : Hid (∀ (v : Value) (w' : World), v = .pointer (some ⟨wr.heap.size, 0, none⟩) → (Below w8.heap.size w8 w' ∧ w'.cell? ⟨bl, off + j, none⟩ = some (.string p)) → Calls Tryd.prog 17 #[v] w' fun e w'' => e = .returned (.string (strOf (digest (joined ps ++ forkL)))) ∧ (Below w8.heap.size w8 w'' ∧ w''.cell? ⟨bl, off + j, none⟩ = some (.string p))) := fun v w' hv h => by
          subst hv
          exact
          (hsum_any (hL8.below h.1 (by omega)) (hF8.below h.1 hG8) (by omega)).mono fun _ _ ⟨he, hk⟩ => ⟨he, KS.out _ _ h hk⟩
        have A13 : Hid (∀ (v : Value) (w' : World), v = .string (strOf (joined (ps ++ [p]))) → (Below w8.heap.size w8 w' ∧ w'.cell? ⟨bl, off + j, none⟩ = some (.string p)) → Calls Tryd.prog 13 #[v] w' fun e w'' => e = .returned (.string (strOf (digest (joined (ps ++ [p]))))) ∧ (Below w8.heap.size w8 w'' ∧ w''.cell? ⟨bl, off + j, none⟩ = some (.string p))) := fun v w' hv h => by
          subst hv
          exact
          (refDigest_any (joined (ps ++ [p])) w' (by omega)).mono fun _ _ ⟨he, hk⟩ => ⟨he, KS.out _ _ h hk⟩
        have A13f : Hid (∀ (v : Value) (w' : World), v = .string (strOf (joined ps ++ forkL)) → (Below w8.heap.size w8 w' ∧ w'.cell? ⟨bl, off + j, none⟩ = some (.string p)) → Calls Tryd.prog 13 #[v] w' fun e w'' => e = .returned (.string (strOf (digest (joined ps ++ forkL)))) ∧ (Below w8.heap.size w8 w'' ∧ w''.cell? ⟨bl, off + j, none⟩ = some (.string p))) := fun v w' hv h => by
          subst hv
          exact
          (refDigest_any (joined ps ++ forkL) w' (by omega)).mono fun _ _ ⟨he, hk⟩ => ⟨he, KS.out _ _ h hk⟩
        have A18 : Hid (∀ (v : Value) (w' : World), v = .pointer (some ⟨w.heap.size, 0, none⟩) → (Below w8.heap.size w8 w' ∧ w'.cell? ⟨bl, off + j, none⟩ = some (.string p)) → Calls Tryd.prog 18 #[v] w' fun e w'' => e = .returned (.int .i64 (strOf (joined (ps ++ [p]))).size) ∧ w'' = w') := fun v w' hv h => by
          subst hv
          obtain ⟨bl, h1, _⟩ := hS8.below h.1 hB8
          rw [strOf_size]
          exact len_any h1
        have hAz := HAZ.out
        have hwz := HWZ.out
        have hxz := HXZ.out
        have hfk := HFK.out
        have a2 : ((joined ps).length : Int) ≤ ((strOf (joined (ps ++ [p]))).size : Int) := by rw [hAz]; omega
        have a3 : (0 : Int) ≤ ((joined ps).length : Int) := by omega
        have a4 : (strOf (joined (ps ++ [p]))).size ≤ 4200 := by rw [strOf_size]; omega
        have a5 : (strOf (joined ps)).size ≤ 9223372036854775803 := Nat.le_trans hA0z (by decide)
        have a6 : ¬ 9223372036854775803 < (strOf (joined ps)).size := by omega
        have r1 : ∀ w : World, (Op.stringOp .add (strOf (joined ps)) ⟨#[102, 111, 114, 107]⟩).run Tryd.prog w = .ok (.string (strOf (joined ps ++ forkL))) w := fun w => by
          rw [run_string_add_sum w _ _ (by show _ + 4 ≤ _; omega), hfk]
        have r2 : ∀ w : World, (binOp .add 9 (.string (strOf (joined ps))) (.string ⟨#[102, 111, 114, 107]⟩)).run Tryd.prog w = .ok (.string (strOf (joined ps ++ forkL))) w := fun w => by
          rw [binOp_string_add, r1]
        clear hAz HAZ HWZ HXZ HFK hA0z a5
        generalize strOf (digest (joined (ps ++ [p]))) = D at *
        generalize strOf (digest (joined ps ++ forkL)) = DF at *
        generalize strOf (joined ps ++ forkL) = FK at *
        go_wp2_with fail
        go_region_held3 (fun w' => Below w8.heap.size w8 w' ∧ w'.cell? ⟨bl, off + j, none⟩ = some (.string p)) (first | assumption | exact ⟨by assumption, by assumption⟩ | exact ⟨(Below.refl _ _).drew, cj8⟩)
          (first
            | (go_at_call 17; refine (A17.out _ _ (by with_reducible rfl) (by first | assumption | exact ⟨by assumption, by assumption⟩)).mono ?_; rintro e wa ⟨rfl, ka, ka2⟩)
            | (go_at_call 17; refine (A17f.out _ _ (by with_reducible rfl) (by first | assumption | exact ⟨by assumption, by assumption⟩)).mono ?_; rintro e wb ⟨rfl, kb, kb2⟩)
            | (go_at_call 13; refine (A13.out _ _ (by with_reducible rfl) (by first | assumption | exact ⟨by assumption, by assumption⟩)).mono ?_; rintro e wc ⟨rfl, kc, kc2⟩)
            | (go_at_call 13; refine (A13f.out _ _ (by with_reducible rfl) (by first | assumption | exact ⟨by assumption, by assumption⟩)).mono ?_; rintro e wd ⟨rfl, kd, kd2⟩)
            | (go_at_call 18; refine (A18.out _ _ (by with_reducible rfl) (by first | assumption | exact ⟨by assumption, by assumption⟩)).mono ?_; rintro e we ⟨rfl, rfl⟩))
        have hown9 := hown8.kept (gb_below kd (some w.heap.size)) (Or.inr (own_ne hown8 hS8))
        have hS9 := hS8.below kd hB8
        have hL9 := hL8.below kd h28
        have hb9 := below_step hb8 (kd)
        have hpl9 : (ps ++ [p]).length ≤ j + 1 := by
          rw [List.length_append]
          show _ + 1 ≤ _
          omega
        clear A17 A17f A13 A13f A18 KS r1 r2 hwz hxz hfk a2 a3 a4 a6
        go_wp2
        exact ⟨⟨j + 1, ps ++ [p], by omega, by go_num, hpl9, hl1, rfl, hown9, hS9, hL9, hb9⟩, by simp [intOf]; omega⟩
    · have hout : ¬ j < n ∨ (j < n ∧ ¬ j < 20) := by omega
      clear hin
      have hpl' : ps.length ≤ 1000 := by omega
      have hjl' : (joined ps).length ≤ 4000 := by omega
      rcases hout with hjn | ⟨hjn, hj20⟩
      all_goals
        go_wp2_with fail
        refine (lend_any hown hpl').mono ?_
        rintro e w5 ⟨⟨g, cap, rfl, hcap, hP5, hM5⟩, hb5⟩
        have hQ5 : Pieces w5 u5 ps := (owned_pieces hown).below hb5
        have hL5 := hLr.below hb5 (by have := hS.lt; omega)
        have hbw5 : Below w.heap.size w w5 := hb.trans (hb5.mono hb.size)
        have hg5 := lt_cell hM5
        clear hown hS hLr hb hb5
        go_wp2_with fail
        refine (sum_any hL5 hP5 (by omega) (by omega)).mono ?_
        rintro e w6 ⟨rfl, hb6⟩
        have hQ6 := hQ5.below hb6
        have hP6 := hP5.below hb6
        have hM6 : w6.cell? ⟨g, ps.length, none⟩ = some (.string markS) := (hb6.cell (p := ⟨g, ps.length, none⟩) hg5).trans hM5
        have hbw6 : Below w.heap.size w w6 := hbw5.trans (hb6.mono hbw5.size)
        have hg6 := lt_cell hM6
        clear hQ5 hP5 hM5 hb6 hL5 hbw5
        go_wp2_with fail
        refine (refSum_any hQ6 hpl' (by omega)).mono ?_
        rintro e w7 ⟨rfl, hb7⟩
        have hQ7 := hQ6.below hb7
        have hP7 := hP6.below hb7
        have hM7 : w7.cell? ⟨g, ps.length, none⟩ = some (.string markS) := (hb7.cell (p := ⟨g, ps.length, none⟩) hg6).trans hM6
        have hbw7 : Below w.heap.size w w7 := hbw6.trans (hb7.mono hbw6.size)
        have HK : Hid _ := kept_any hP7 hQ7 hpl' hcap hM7
        clear hQ6 hP6 hM6 hb7 hbw6 hQ7 hP7 hM7
        generalize strOf (digest (joined ps)) = D at *
        go_wp2_with fail
        refine Calls.mono HK.out ?_
        rintro e w8 ⟨rfl, m, rfl⟩
        go_wp2
        go_ret
        exact ⟨rfl, below_drew hbw7 m⟩
end Go.Proofs.YtgpdmboeompncaaDoor
