/-
  Lz: how a sequence is written, by the program.
-/
import Derived.Test.YtgigiamnhjelmaaDoorLpNext
import Derived.Test.YtgigiamnhjelmaaDoorLpEnc
namespace Go.Proofs.YtgigiamnhjelmaaDoor
open Go.RowKit Go.Lib
section
variable {w w' w1 w2 : World} {B : Nat} {O : List UInt8} {v v1 v2 : Value}
/-- Only this list's block is turned. -/
def Ow (v : Value) (i : Nat) : Prop := v.ownBlock = some i
theorem Ow.trans (h : Gs (Ow v) w w1) (hn : FN v v1 w.heap.size) (h2 : Gs (Ow v1) w1 w2) : Gs (Ow v) w w2 :=
  ⟨h2.os.trans h.os, h2.tape.trans h.tape, h2.output.trans h.output, Nat.le_trans h.size h2.size, fun i hi hp => (h2.block i (Nat.lt_of_lt_of_le hi h.size) (fun e => by
    rcases hn with hn | ⟨j, hn, hj⟩
    · exact hp (hn.symm.trans e)
    · have e' : v1.ownBlock = some i := e
      rw [hn] at e'
      simp at e'
      omega)).trans (h.block i hi hp)⟩
theorem gs_row_own (h5 : Gs (Ow v) w w1) (h3 : w1.grownBy w2 v.ownBlock) : Gs (Ow v) w w2 := by
  cases hv : v.ownBlock with
  | none =>
    rw [hv] at h3
    exact ⟨h3.os.trans h5.os, h3.tape.trans h5.tape, h3.output.trans h5.output, Nat.le_trans h5.size h3.size, fun i hi hp => (h3.block i (Nat.lt_of_lt_of_le hi h5.size) (by simp)).trans (h5.block i hi hp)⟩
  | some c =>
    rw [hv] at h3
    exact h5.gb h3 (.inl hv)
/-- A byte behind them. -/
theorem app_b (h : BO B v O w) (b : UInt8) (hl : O.length ≤ 1000000) (hB : B ≤ w.heap.size) :
    ∃ v' w', (Builtin.append_ #[39, 39] 39 #[v, .slice (some ⟨w.heap.size, 0, none⟩) 1 1]).run Tryd.prog (w.alloc (.cells #[.int .u8 (b.toNat : Int)] 5)) = .ok v' w' ∧ BO B v' (O ++ [b]) w' ∧ Gs (Ow v) w w' ∧ FN v v' w.heap.size := by
  have hb1 : Below w.heap.size w (w.alloc (.cells #[.int .u8 (b.toNat : Int)] 5)) := (Below.refl _ _).alloc (Nat.le_refl _) _
  have hS : LS bc 1 (fun _ => True) (w.alloc (.cells #[.int .u8 (b.toNat : Int)] 5)) (.slice (some ⟨w.heap.size, 0, none⟩) 1 1) [b] := LS.one b 5 w bc 1 (fun _ => True) trivial
  obtain ⟨v', w2, h1, h2, h3, h4⟩ := (h.keep hb1).app bc_len (by decide) (fun x hx u hu => by
    simp [bc] at hu
    subst hu
    rfl) Tryd.underlying39 Tryd.infoU8 rfl hS (by simp; omega) (by simp; omega) (Nat.le_trans hB hb1.size)
  refine ⟨v', w2, h1, h2, gs_row_own (Gs.of_below _ hb1) h3, ?_⟩
  rcases h4 with h4 | h4
  · exact .inl h4
  · exact .inr ⟨_, h4, by simp⟩
/-- Two bytes behind them. -/
theorem app_b2 (h : BO B v O w) (b c : UInt8) (hl : O.length ≤ 1000000) (hB : B ≤ w.heap.size) :
    ∃ v' w', (Builtin.append_ #[39, 39] 39 #[v, .slice (some ⟨w.heap.size, 0, none⟩) 2 2]).run Tryd.prog (w.alloc (.cells #[.int .u8 (b.toNat : Int), .int .u8 (c.toNat : Int)] 5)) = .ok v' w' ∧ BO B v' (O ++ [b, c]) w' ∧ Gs (Ow v) w w' ∧ FN v v' w.heap.size := by
  have hb1 : Below w.heap.size w (w.alloc (.cells #[.int .u8 (b.toNat : Int), .int .u8 (c.toNat : Int)] 5)) := (Below.refl _ _).alloc (Nat.le_refl _) _
  have hS : LS bc 1 (fun _ => True) (w.alloc (.cells #[.int .u8 (b.toNat : Int), .int .u8 (c.toNat : Int)] 5)) (.slice (some ⟨w.heap.size, 0, none⟩) 2 2) [b, c] := by
    refine ⟨_, _, rfl, (fun e => by cases e), .inr ⟨w.heap.size, 0, rfl, trivial, by simp, fun i x hx j u hu => ?_⟩⟩
    have hg := heap_alloc_new w (.cells #[.int .u8 (b.toNat : Int), .int .u8 (c.toNat : Int)] 5)
    rw [cell_of_row _ _ _ _ _ _ hg]
    have hj : j = 0 := by
      have := (List.getElem?_eq_some_iff.1 hu).1
      simp [bc] at this
      exact this
    subst hj
    have hi : i < 2 := (List.getElem?_eq_some_iff.1 hx).1
    have hi2 : i = 0 ∨ i = 1 := by omega
    rcases hi2 with rfl | rfl
    · simp at hx
      subst hx
      simpa [bc] using hu
    · simp at hx
      subst hx
      simpa [bc] using hu
  obtain ⟨v', w2, h1, h2, h3, h4⟩ := (h.keep hb1).app bc_len (by decide) (fun x hx u hu => by
    simp [bc] at hu
    subst hu
    rfl) Tryd.underlying39 Tryd.infoU8 rfl hS (by simp; omega) (by simp; omega) (Nat.le_trans hB hb1.size)
  refine ⟨v', w2, h1, h2, gs_row_own (Gs.of_below _ hb1) h3, ?_⟩
  rcases h4 with h4 | h4
  · exact .inl h4
  · exact .inr ⟨_, h4, by simp⟩
theorem app_t_at (h : BO B v O w) (s : ByteArray) (hl : O.length + s.size ≤ 1000000) (hB : B ≤ w.heap.size) {v' : Value} {w' : World} (hr : (Builtin.append_ #[39, 9] 39 #[v, .string s]).run Tryd.prog w = .ok v' w') : FN v v' w.heap.size := by
  obtain ⟨i0, hi, hz0, hz1, hz2⟩ := info_parts Tryd.infoU8
  obtain ⟨v2, w2, h1, _, _, h4⟩ := run_append_own_string (P := Tryd.prog) (w := w) B 39 9 39 5 i0 Tryd.underlying39 Tryd.underlying9 hi hz0 hz1 hz2 v O.length (O.flatMap bc) h.own s (by unfold maxLen; omega) (by omega) hB
  rw [hr] at h1
  simp only [Result.ok.injEq] at h1
  obtain ⟨rfl, rfl⟩ := h1
  have hol := h.own.1
  rcases h.own.2 with ⟨rfl, h2⟩ | ⟨g, cap, cur, rfl, hBg, hg, hn, hcm, hcs, ht⟩
  · by_cases hm : s.size = 0
    · exact .inl (by rw [h4.2 ⟨rfl, hm⟩])
    · have h5 := run_append_nil_string (P := Tryd.prog) w 39 9 39 5 i0 (.int .u8 0) Tryd.underlying39 Tryd.underlying9 hi hz0 s (by omega) (by omega) (by rw [hz2]; omega)
      rw [hr] at h5
      simp only [Result.ok.injEq] at h5
      rw [h5.1]
      exact .inr ⟨w.heap.size, rfl, Nat.le_refl _⟩
  · by_cases hroom : O.length + s.size ≤ cap
    · have hcs' : cur.size = cap := by simpa using hcs
      have h5 := run_append_room_string (P := Tryd.prog) w 39 9 39 5 i0 Tryd.underlying39 Tryd.underlying9 hi hz1 g O.length cap cur hg s hroom (by omega)
      rw [hr] at h5
      simp only [Result.ok.injEq] at h5
      rw [h5.1]
      exact .inl rfl
    · have holds : ∀ j u, (O.flatMap bc)[j]? = some u → w.cell? ((⟨g, 0, none⟩ : Addr).add j) = some u := h.own.cells (g := g) rfl
      have h5 := run_append_grow_string (P := Tryd.prog) w 39 9 39 5 i0 (.int .u8 0) Tryd.underlying39 Tryd.underlying9 hi hz0 ⟨g, 0, none⟩ O.length cap (O.flatMap bc) (by rw [hz1]; simpa using hol) holds s (by omega) (by omega) (by rw [hz2]; exact growslice_fits (by omega) (by omega))
      rw [hr] at h5
      simp only [Result.ok.injEq] at h5
      rw [h5.1]
      exact .inr ⟨w.heap.size, rfl, Nat.le_refl _⟩
/-- A text behind them. -/
theorem app_t (h : BO B v O w) (s : ByteArray) (hl : O.length + s.size ≤ 1000000) (hB : B ≤ w.heap.size) :
    ∃ v' w', (Builtin.append_ #[39, 9] 39 #[v, .string s]).run Tryd.prog w = .ok v' w' ∧ BO B v' (O ++ s.data.toList) w' ∧ Gs (Ow v) w w' ∧ FN v v' w.heap.size := by
  obtain ⟨i0, hi, hz0, hz1, hz2⟩ := info_parts Tryd.infoU8
  obtain ⟨v', w', h1, h2, h3, _⟩ := run_append_own_string (P := Tryd.prog) (w := w) B 39 9 39 5 i0 Tryd.underlying39 Tryd.underlying9 hi hz0 hz1 hz2 v O.length (O.flatMap bc) h.own s (by unfold maxLen; omega) (by omega) hB
  have e : s.data.toList.length = s.size := by simp
  refine ⟨v', w', h1, ⟨by rw [List.length_append, e, List.flatMap_append, bc_flat s.data.toList]; exact h2⟩, gs_row_own (Gs.refl _ _) h3, app_t_at h s hl hB h1⟩
end
end Go.Proofs.YtgigiamnhjelmaaDoor
