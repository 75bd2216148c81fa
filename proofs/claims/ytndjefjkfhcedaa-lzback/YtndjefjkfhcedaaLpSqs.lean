/-
  Lz: Bound and Sequences, by the program.
-/
import Derived.Test.YtndjefjkfhcedaaLpLen
import Derived.Test.YtndjefjkfhcedaaStShelf
import Derived.Test.YtndjefjkfhcedaaLzLaw2
namespace Go.Proofs.Ytndjefjkfhcedaa
open Go.RowKit Go.Lib Go.Shelf
attribute [local go_sem] Oper.semAt_some
theorem wk_ps {s : ByteArray} : ps s = if (wk s 0 0).2 = true then some ((wk s 0 0).1, sqn (wk s 0 0).1) else none := ps_wk s
set_option maxRecDepth 100000 in
theorem islen_any (w : World) (n : Int) : Calls Try.prog 20 #[.int .i64 n] w fun e w' => e = .returned (.bool (decide (0 ≤ n ∧ n ≤ 1048576))) ∧ w' = w := by
  by_cases h1 : 0 ≤ n
  · by_cases h2 : n ≤ 1048576
    · rw [decide_eq_true (And.intro h1 h2)]
      go_enter Try.func20, Try.ntmps20
      go_wp2
      go_ret
      exact ⟨rfl, rfl⟩
    · rw [decide_eq_false (fun h => h2 h.2)]
      go_enter Try.func20, Try.ntmps20
      go_wp2
      go_ret
      exact ⟨rfl, rfl⟩
  · rw [decide_eq_false (fun h => h1 h.1)]
    go_enter Try.func20, Try.ntmps20
    go_wp2
    go_ret
    exact ⟨rfl, rfl⟩
set_option maxRecDepth 100000 in
theorem bndC : BoundC (fun _ => True) := fun w n _ => by
  have HI := hide (islen_any w n)
  by_cases h : 0 ≤ n ∧ n ≤ 1048576
  · rw [decide_eq_true h] at HI
    rw [bdA, if_pos h]
    have e1 : IntKind.i64.wrap (n / 255) = n / 255 := by rw [IntKind.wrap_i64]; omega
    have e2 : IntKind.i64.wrap (n + n / 255) = n + n / 255 := by rw [IntKind.wrap_i64]; omega
    have e3 : IntKind.i64.wrap (n + n / 255 + 16) = n + n / 255 + 16 := by rw [IntKind.wrap_i64]; omega
    have e0 : n.tdiv 255 = n / 255 := Int.tdiv_eq_ediv_of_nonneg h.1
    obtain ⟨g1, g2⟩ := h
    go_enter Try.func15, Try.ntmps15
    go_wp2_with fail
    refine HI.out.mono ?_
    rintro _ w2 ⟨rfl, rfl⟩
    go_wp2
    exact bodyPost_ret (v := .tuple #[.int .i64 (n + n / 255 + 16), .int .i64 0]) (by simp [results, Try.results15, go_sem]) rfl ⟨rfl, Below.refl _ _⟩
  · rw [decide_eq_false h] at HI
    rw [bdA, if_neg h]
    clear h
    go_enter Try.func15, Try.ntmps15
    go_wp2_with fail
    refine HI.out.mono ?_
    rintro _ w2 ⟨rfl, rfl⟩
    go_wp2
    exact bodyPost_ret (v := .tuple #[.int .i64 0, .int .i64 1]) (by simp [results, Try.results15, go_sem]) rfl ⟨rfl, Below.refl _ _⟩
set_option maxRecDepth 100000 in
theorem clone_any (w : World) (s : ByteArray) (hs : s.size ≤ 4000) : Calls Try.prog 24 #[.string s] w fun e w' => e = .returned (.string s) ∧ Below w.heap.size w w' := by
  have HC := hide (Try.stringslite_Clone s w (by omega))
  go_enter Try.func24, Try.ntmps24
  go_wp2_with fail
  refine HC.out.mono ?_
  rintro _ w2 ⟨rfl, hb⟩
  have HB := hide hb
  clear hb
  go_wp2
  go_ret
  exact ⟨rfl, HB.out⟩
end Go.Proofs.Ytndjefjkfhcedaa
