/-
  Lz: Bound and Sequences, by the program.
-/
import Derived.Test.YtgigiamnhjelmaaDoorLpLen
import Derived.Test.YtgigiamnhjelmaaDoorStShelf
import Derived.Test.YtgigiamnhjelmaaDoorLzLaw2
namespace Go.Proofs.YtgigiamnhjelmaaDoor
open Go.RowKit Go.Lib Go.Shelf
attribute [local go_sem] Oper.semAt_some
theorem wk_ps {s : ByteArray} : ps s = if (wk s 0 0).2 = true then some ((wk s 0 0).1, sqn (wk s 0 0).1) else none := ps_wk s
set_option maxRecDepth 100000 in
theorem islen_any (w : World) (n : Int) : Calls Tryd.prog 58 #[.int .i64 n] w fun e w' => e = .returned (.bool (decide (0 ≤ n ∧ n ≤ 1048576))) ∧ w' = w := by
  by_cases h1 : 0 ≤ n
  · by_cases h2 : n ≤ 1048576
    · rw [decide_eq_true (And.intro h1 h2)]
      go_enter Tryd.func58, Tryd.ntmps58
      go_wp2
      go_ret
      exact ⟨rfl, rfl⟩
    · rw [decide_eq_false (fun h => h2 h.2)]
      go_enter Tryd.func58, Tryd.ntmps58
      go_wp2
      go_ret
      exact ⟨rfl, rfl⟩
  · rw [decide_eq_false (fun h => h1 h.1)]
    go_enter Tryd.func58, Tryd.ntmps58
    go_wp2
    go_ret
    exact ⟨rfl, rfl⟩
set_option maxRecDepth 100000 in
theorem clone_any (w : World) (s : ByteArray) (hs : s.size ≤ 4000) : Calls Tryd.prog 45 #[.string s] w fun e w' => e = .returned (.string s) ∧ Below w.heap.size w w' := by
  have HC := hide (Tryd.stringslite_Clone s w (by omega))
  go_enter Tryd.func45, Tryd.ntmps45
  go_wp2_with fail
  refine HC.out.mono ?_
  rintro _ w2 ⟨rfl, hb⟩
  have HB := hide hb
  clear hb
  go_wp2
  go_ret
  exact ⟨rfl, HB.out⟩
end Go.Proofs.YtgigiamnhjelmaaDoor
