/-
  Lz: the statement LzBack, walked: over what the program's Pack and Unpack answer.
-/
import Derived.Test.YtgigiamnhjelmaaDoorLzLaw2
import Derived.Test.YtgigiamnhjelmaaDoorLzMath2
import Derived.Test.YtgigiamnhjelmaaDoorStAmg
namespace Go.Proofs.YtgigiamnhjelmaaDoor
open Go.RowKit Go.Lib
section
variable {pk : ByteArray → ByteArray} {s : ByteArray}
theorem PackF.more (h : PackF pk) (hs : s.size ≤ 2000) : upC (pk s) ((s.size : Int) + 1) = 120 := by
  obtain ⟨l, h1, _⟩ := h.back s (by omega)
  exact (up_other (by omega) h1 (by omega)).2
theorem PackF.cut (h : PackF pk) (hs : s.size ≤ 2000) {k : Nat} (hk : k < (pk s).size) : upC ((pk s).extract 0 k) (s.size : Int) = 120 := by
  obtain ⟨l, h1, _⟩ := h.back s (by omega)
  cases hp : ps ((pk s).extract 0 k) with
  | none => exact (up_none (by omega) hp).2
  | some r =>
    obtain ⟨l2, t2⟩ := r
    refine (up_other (by omega) hp ?_).2
    rcases ps_pre (pre_take (Nat.le_of_lt hk)) (by rw [ByteArray.size_extract]; omega) hp with h0 | ⟨l3, t3, h0, h4⟩
    · rw [h0] at h1; cases h1
    · rw [h0] at h1
      simp only [Option.some.injEq, Prod.mk.injEq] at h1
      omega
theorem PackF.behind (h : PackF pk) (hs : s.size ≤ 2000) (c : UInt8) : upC (pk s ++ ⟨#[c]⟩) (s.size : Int) = 120 := by
  obtain ⟨l, h1, _⟩ := h.back s (by omega)
  rcases ps_pre (pre_app (pk s) ⟨#[c]⟩) (by rw [ByteArray.size_append]; show _ < _ + 1; omega) h1 with h0 | ⟨l3, t3, h0, h4⟩
  · exact (up_none (by omega) h0).2
  · exact (up_other (by omega) h0 (by omega)).2
theorem PackF.some (h : PackF pk) (hs : s.size ≤ 2000) : 0 < (pk s).size := by
  obtain ⟨l, h1, _⟩ := h.back s (by omega)
  apply Nat.pos_of_ne_zero
  intro e
  rw [ps, pq_end (by omega)] at h1
  cases h1
end
theorem cv_one (w : World) (c : UInt8) : (convert 39 9 (.slice (some ⟨w.heap.size, 0, none⟩) 1 1)).run Tryd.prog (w.alloc (.cells #[.int .u8 (c.toNat : Int)] 5)) = .ok (.string ⟨#[c]⟩) (w.alloc (.cells #[.int .u8 (c.toNat : Int)] 5)) := by
  refine run_convert_bytes_back _ 39 9 5 ⟨w.heap.size, 0, none⟩ 1 [c] Tryd.underlying39 Tryd.underlying5 Tryd.underlying9 (fun j hj => ?_)
  have hj0 : j = 0 := by simp at hj; exact hj
  subst hj0
  rw [Addr.add_mid, Nat.zero_add, cell_of_row _ _ _ _ _ _ (heap_alloc_new w _)]
  rfl
theorem sl_to {s : ByteArray} {a : Nat} (h1 : a ≤ s.size) (w : World) : (Instr.slice 9 (.string s) none (some (.int .i64 (a : Int))) none).run Tryd.prog w = .ok (.string (s.extract 0 a)) w := by
  have c1 : (a : Int) ≤ (s.size : Int) := by omega
  simp [go_sem, Tryd.underlying9, c1]
theorem add_run {a b c : ByteArray} (h : a ++ b = c) (hz : a.size + b.size ≤ 9223372036854775807) (w : World) : (Op.stringOp .add a b).run Tryd.prog w = .ok (.string c) w := by
  rw [run_string_add_sum w a b hz, h]
theorem add_run2 {a b c : ByteArray} (h : a ++ b = c) (hz : a.size + b.size ≤ 9223372036854775807) (w : World) : (binOp .add 9 (.string a) (.string b)).run Tryd.prog w = .ok (.string c) w := by
  rw [binOp_string_add, add_run h hz]
section
variable {K : World → Prop} {pk : ByteArray → ByteArray}
end
end Go.Proofs.YtgigiamnhjelmaaDoor
