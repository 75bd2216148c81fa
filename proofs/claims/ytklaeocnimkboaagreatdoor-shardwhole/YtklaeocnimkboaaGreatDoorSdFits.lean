/-
  SdFits: texts of earlier layers, laid over this program.
-/
import Derived.Test.YtklaeocnimkboaaGreatDoorSdList
import Derived.Test.YtklaeocnimkboaaGreatDoorSdDec
import Derived.Test.YtklaeocnimkboaaGreatDoorSdRefText
namespace Go.Proofs.YtklaeocnimkboaaGreatDoor
open Go.RowKit Go.Lib

theorem ftS_not {x y : SX} (h : ¬ ftS x y) : (¬ x.k = y.k) ∨ (x.k = y.k ∧ ¬ x.m = y.m) ∨ (x.k = y.k ∧ x.m = y.m ∧ ¬ x.long = y.long) ∨ (x.k = y.k ∧ x.m = y.m ∧ x.long = y.long ∧ ¬ x.id = y.id) := by
  unfold ftS at h
  by_cases h1 : x.k = y.k
  · by_cases h2 : x.m = y.m
    · by_cases h3 : x.long = y.long
      · exact .inr (.inr (.inr ⟨h1, h2, h3, fun h4 => h ⟨h1, h2, h3, h4⟩⟩))
      · exact .inr (.inr (.inl ⟨h1, h2, h3⟩))
    · exact .inr (.inl ⟨h1, h2⟩)
  · exact .inl h1
/-- One answer of both, by a truth value. -/
theorem ft_bool (x y : SX) : ∃ t : Bool, (t = true ↔ ftS x y) := by
  by_cases h : ftS x y
  · exact ⟨true, by simp [h]⟩
  · exact ⟨false, by simp [h]⟩

set_option maxRecDepth 100000 in
set_option maxHeartbeats 800000 in
theorem fits_any (x y : SX) (w : World) (t : Bool) (ht : t = true ↔ ftS x y) :
    Calls Tryz.prog 14 #[.agg #[.int .i64 x.k, .int .i64 x.m, .int .i64 x.i, .int .i64 x.long, .string x.id, .string x.data], .agg #[.int .i64 y.k, .int .i64 y.m, .int .i64 y.i, .int .i64 y.long, .string y.id, .string y.data]] w fun e w' => e = .returned (.bool t) ∧ Below w.heap.size w w' := by
  have HB : Hid (∀ o1 o2, Below w.heap.size w ((w.alloc o1).alloc o2)) := fun o1 o2 => below_alloc (below_alloc (Below.refl _ _) _) _
  obtain ⟨k, m, i, long, id, data⟩ := x
  obtain ⟨k2, m2, i2, l2, id2, da2⟩ := y
  simp only at ht ⊢
  by_cases h : ftS ⟨k, m, i, long, id, data⟩ ⟨k2, m2, i2, l2, id2, da2⟩
  · obtain rfl := ht.2 h
    obtain ⟨h1, h2, h3, h4⟩ := h
    simp only at h1 h2 h3 h4
    subst h1 h2 h3 h4
    clear ht
    go_enter Tryz.func14, Tryz.ntmps14
    go_wp2
    go_ret
    exact ⟨rfl, HB.out _ _⟩
  · obtain rfl : t = false := by
      cases t
      · rfl
      · exact absurd (ht.1 rfl) h
    rcases ftS_not h with h1 | ⟨h1, h2⟩ | ⟨h1, h2, h3⟩ | ⟨h1, h2, h3, h4⟩
    · simp only at h1
      have e1 : (k == k2) = false := by simpa using h1
      clear ht h h1
      go_enter Tryz.func14, Tryz.ntmps14
      go_wp2
      go_ret
      exact ⟨rfl, HB.out _ _⟩
    · simp only at h1 h2
      have e1 : (m == m2) = false := by simpa using h2
      subst h1
      clear ht h h2
      go_enter Tryz.func14, Tryz.ntmps14
      go_wp2
      go_ret
      exact ⟨rfl, HB.out _ _⟩
    · simp only at h1 h2 h3
      have e1 : (long == l2) = false := by simpa using h3
      subst h1 h2
      clear ht h h3
      go_enter Tryz.func14, Tryz.ntmps14
      go_wp2
      go_ret
      exact ⟨rfl, HB.out _ _⟩
    · simp only at h1 h2 h3 h4
      obtain ⟨u1, u2⟩ := unlike_tests h4
      subst h1 h2 h3
      clear ht h h4
      go_enter Tryz.func14, Tryz.ntmps14
      go_wp2
      go_ret
      exact ⟨rfl, HB.out _ _⟩

set_option maxRecDepth 100000 in
set_option maxHeartbeats 800000 in
theorem rfits_any (x y : SX) (w : World) (t : Bool) (ht : t = true ↔ ftS x y) :
    Calls Tryz.prog 15 #[.agg #[.int .i64 x.k, .int .i64 x.m, .int .i64 x.i, .int .i64 x.long, .string x.id, .string x.data], .agg #[.int .i64 y.k, .int .i64 y.m, .int .i64 y.i, .int .i64 y.long, .string y.id, .string y.data]] w fun e w' => e = .returned (.bool t) ∧ Below w.heap.size w w' := by
  have HB : Hid (∀ o1 o2, Below w.heap.size w ((w.alloc o1).alloc o2)) := fun o1 o2 => below_alloc (below_alloc (Below.refl _ _) _) _
  obtain ⟨k, m, i, long, id, data⟩ := x
  obtain ⟨k2, m2, i2, l2, id2, da2⟩ := y
  simp only at ht ⊢
  by_cases h : ftS ⟨k, m, i, long, id, data⟩ ⟨k2, m2, i2, l2, id2, da2⟩
  · obtain rfl := ht.2 h
    obtain ⟨h1, h2, h3, h4⟩ := h
    simp only at h1 h2 h3 h4
    subst h1 h2 h3 h4
    clear ht
    go_enter Tryz.func15, Tryz.ntmps15
    go_wp2
    go_ret
    exact ⟨rfl, HB.out _ _⟩
  · obtain rfl : t = false := by
      cases t
      · rfl
      · exact absurd (ht.1 rfl) h
    rcases ftS_not h with h1 | ⟨h1, h2⟩ | ⟨h1, h2, h3⟩ | ⟨h1, h2, h3, h4⟩
    · simp only at h1
      have e1 : (k == k2) = false := by simpa using h1
      clear ht h h1
      go_enter Tryz.func15, Tryz.ntmps15
      go_wp2
      go_ret
      exact ⟨rfl, HB.out _ _⟩
    · simp only at h1 h2
      have e1 : (m == m2) = false := by simpa using h2
      subst h1
      clear ht h h2
      go_enter Tryz.func15, Tryz.ntmps15
      go_wp2
      go_ret
      exact ⟨rfl, HB.out _ _⟩
    · simp only at h1 h2 h3
      have e1 : (long == l2) = false := by simpa using h3
      subst h1 h2
      clear ht h h3
      go_enter Tryz.func15, Tryz.ntmps15
      go_wp2
      go_ret
      exact ⟨rfl, HB.out _ _⟩
    · simp only at h1 h2 h3 h4
      obtain ⟨u1, u2⟩ := unlike_tests h4
      subst h1 h2 h3
      clear ht h h4
      go_enter Tryz.func15, Tryz.ntmps15
      go_wp2
      go_ret
      exact ⟨rfl, HB.out _ _⟩
end Go.Proofs.YtklaeocnimkboaaGreatDoor

