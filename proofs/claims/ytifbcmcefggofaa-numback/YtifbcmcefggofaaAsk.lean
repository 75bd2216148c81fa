/-
  The contract of the one place where a reader moves on or fails, for each of the four looks ahead; the reader's four questions.
-/
import Derived.Test.YtifbcmcefggofaaAhead3
namespace Go.Proofs.Ytifbcmcefggofaa
open Go.RowKit Go.Lib

section
variable {w w1 w' : World} {g b : Nat} {n : Int} {t : ByteArray} {l : Int} {T : TypeId} {s : ByteArray} {p : Nat} {x : Int} {row : Option Nat}
theorem Fd.drew (h : Fd w g n t l) : Fd w.drew g n t l := h
theorem Fd.other (h : Fd w g n t l) (hne : g ≠ b) (j : Nat) (u : Value) : Fd (w.setCell ⟨b, j, none⟩ u) g n t l := h.grown (gb_set w b j u) (by simpa using hne)
theorem Rd.drew (h : Rd T w b s p x) : Rd T w.drew b s p x := h
theorem Rd.alloc (h : Rd T w b s p x) (o : Obj) : Rd T (w.alloc o) b s p x := h.of_block (Below.heap_alloc w o b h.lt)
theorem Rd.other (h : Rd T w b s p x) (hne : b ≠ g) (j : Nat) (u : Value) : Rd T (w.setCell ⟨g, j, none⟩ u) b s p x := h.grown (gb_set w g j u) (by simpa using hne)
theorem Rd.others (h : Rd T w b s p x) (hne : b ≠ g) (u0 u1 u2 : Value) : Rd T (((w.setCell ⟨g, 0, none⟩ u0).setCell ⟨g, 1, none⟩ u1).setCell ⟨g, 2, none⟩ u2) b s p x := ((h.other hne 0 u0).other hne 1 u1).other hne 2 u2
theorem Rd.set1' (h : Rd T w b s p x) {y : Int} {p' : Nat} (hy : y = (p' : Int)) : Rd T (w.setCell ⟨b, 1, none⟩ (.int .i64 y)) b s p' x := by subst hy; exact h.set1 p'
theorem gb_alloc (h : w.grownBy w1 row) (o : Obj) : w.grownBy (w1.alloc o) row := gb_trans h (World.grownBy_alloc w1 o row)
theorem gb_drew (h : w.grownBy w1 row) : w.grownBy w1.drew row := ⟨h.os, h.tape, h.output, h.size, h.block⟩
theorem gb_new (h : w.grownBy w1 row) (hg : w.heap.size ≤ g) (j : Nat) (u : Value) : w.grownBy (w1.setCell ⟨g, j, none⟩ u) row :=
  ⟨h.os, h.tape, h.output, by simpa using h.size, fun k hk hne => (heap_setCell_other w1 ⟨g, j, none⟩ k u (fun e => by simp at e; omega)).trans (h.block k hk hne)⟩
theorem gb_puts (h : w.grownBy w1 row) (hg : w.heap.size ≤ g) (u0 u1 u2 : Value) : w.grownBy (((w1.setCell ⟨g, 0, none⟩ u0).setCell ⟨g, 1, none⟩ u1).setCell ⟨g, 2, none⟩ u2) row := gb_new (gb_new (gb_new h hg 0 u0) hg 1 u1) hg 2 u2
end

set_option maxRecDepth 100000 in
set_option maxHeartbeats 400000 in
theorem ask_35 {w : World} {b : Nat} {s : ByteArray} {p : Nat} {x : Int} (n : Int) (A : Ah) (hr : Rd 52 w b s p x) (hs : s.size ≤ 140737488355328) (hok : AhOk s p A)
    (hc : ∀ w1, Rd 52 w1 b s p x → Calls Try.prog 35 #[.pointer (some ⟨b, 0, none⟩), .int .i64 n] w1 fun e w' => e = .returned (.tuple #[.agg #[.int .i64 A.num, .string A.txt, .int .i64 A.long], .int .i64 A.code]) ∧ Below w1.heap.size w1 w') :
    Calls Try.prog 34 #[.pointer (some ⟨b, 0, none⟩), .func (.func 35) #[.pointer (some ⟨b, 0, none⟩)] #[], .int .i64 n] w fun e w' =>
      e = .returned (.agg #[.int .i64 (asked x A).num, .string (asked x A).txt, .int .i64 (asked x A).long]) ∧ Rd 52 w' b s (p + (asked x A).long) (asked x A).code ∧ w.grownBy w' (some b) := by
  have hl := hr.lt
  have hr1 : Rd 52 (w.alloc (.cells #[.int .i64 0, .string ⟨#[]⟩, .int .i64 0] 54)) b s p x := hr.below ((Below.refl _ _).alloc (Nat.le_refl _) _) hl
  have c2 := hr.cell2
  by_cases hx : x = 0
  · subst hx
    rw [asked_zero]
    have HC := hc _ hr1
    clear hc
    rcases hok with ⟨hcode, hlong⟩ | ⟨c, hc0, rfl⟩
    · obtain ⟨num, txt, long, code⟩ := A
      simp only at hcode hlong HC ⊢
      subst hcode
      have HC' : Hid (Calls Try.prog 35 #[.pointer (some ⟨b, 0, none⟩), .int .i64 n] (w.alloc (.cells #[.int .i64 0, .string ⟨#[]⟩, .int .i64 0] 54)) fun e w' => e = .returned (.tuple #[.agg #[.int .i64 num, .string txt, .int .i64 long], .int .i64 0]) ∧ Below (w.alloc (.cells #[.int .i64 0, .string ⟨#[]⟩, .int .i64 0] 54)).heap.size (w.alloc (.cells #[.int .i64 0, .string ⟨#[]⟩, .int .i64 0] 54)) w') := HC
      clear HC
      go_enter Try.func34, Try.ntmps34
      go_wp2_with fail
      refine (Calls.mono HC'.out ?_)
      rintro e w1 ⟨rfl, hb1⟩
      have z1 : w.heap.size < w1.heap.size := by have := hb1.size; simp only [World.size_alloc] at this; omega
      have F := (Fd.new w 0 ⟨#[]⟩ 0).below hb1 (by simp)
      have hr2 := hr1.below hb1 (by simp; omega)
      have hl1 := hr2.lt
      have d1 := hr2.cell1
      have e1 := hr2.free 1
      have a0 := F.cell0
      have a1 := F.cell1
      have a2 := F.cell2
      have f0 := F.free 0
      have f1 := F.free 1
      have f2 := F.free 2
      clear HC'
      go_wp2
      go_region
      go_wp2
      have G := (((F.other (show w.heap.size ≠ b by omega) 1 (.int .i64 ((p : Int) + long))).put num txt long).alloc (.cells #[.int .i64 num, .string txt, .int .i64 long] 54)).drew
      have R := ((hr2.set1' (show (p : Int) + long = ((p + long : Nat) : Int) by omega)).others (show b ≠ w.heap.size by omega) (.int .i64 num) (.string txt) (.int .i64 long)).alloc (.cells #[.int .i64 num, .string txt, .int .i64 long] 54)
      have B := gb_alloc (gb_puts (gb_trans (gb_below (((Below.refl _ _).alloc (Nat.le_refl _) _).trans (hb1.mono (by simp))) (some b)) (gb_set w1 b 1 (.int .i64 ((p : Int) + long)))) (Nat.le_refl _) (.int .i64 num) (.string txt) (.int .i64 long)) (.cells #[.int .i64 num, .string txt, .int .i64 long] 54)
      exact bodyPost_ret (v := .agg #[.int .i64 num, .string txt, .int .i64 long]) (by simp [results, Try.results34, go_sem, G.cell0, G.cell1, G.cell2]) rfl ⟨rfl, R.drew, gb_drew B⟩
    · have HC' : Hid (Calls Try.prog 35 #[.pointer (some ⟨b, 0, none⟩), .int .i64 n] (w.alloc (.cells #[.int .i64 0, .string ⟨#[]⟩, .int .i64 0] 54)) fun e w' => e = .returned (.tuple #[.agg #[.int .i64 0, .string ⟨#[]⟩, .int .i64 0], .int .i64 c]) ∧ Below (w.alloc (.cells #[.int .i64 0, .string ⟨#[]⟩, .int .i64 0] 54)).heap.size (w.alloc (.cells #[.int .i64 0, .string ⟨#[]⟩, .int .i64 0] 54)) w') := HC
      clear HC
      have hcb : (c != 0) = true := by simpa using hc0
      clear hc0
      show Calls _ _ _ _ fun e w' => e = .returned (.agg #[.int .i64 0, .string ⟨#[]⟩, .int .i64 0]) ∧ Rd 52 w' b s p c ∧ _
      go_enter Try.func34, Try.ntmps34
      go_wp2_with fail
      refine (Calls.mono HC'.out ?_)
      rintro e w1 ⟨rfl, hb1⟩
      have z1 : w.heap.size < w1.heap.size := by have := hb1.size; simp only [World.size_alloc] at this; omega
      have F := (Fd.new w 0 ⟨#[]⟩ 0).below hb1 (by simp)
      have hr2 := (hr1.below hb1 (by simp; omega)).alloc (.cells #[.int .i64 0, .string ⟨#[]⟩, .int .i64 0] 54)
      clear HC'
      go_wp2_with fail
      refine (fail_any c hr2).mono ?_
      rintro e w2 ⟨rfl, hr3, hg3⟩
      have F2 := (F.alloc (.cells #[.int .i64 0, .string ⟨#[]⟩, .int .i64 0] 54)).grown hg3 (by simp; omega)
      rw [failed_zero] at hr3
      have a0 := F2.cell0
      have a1 := F2.cell1
      have a2 := F2.cell2
      have f0 := F2.free 0
      have f1 := F2.free 1
      have f2 := F2.free 2
      go_wp2
      have G := F2.put 0 ⟨#[]⟩ 0
      have R := hr3.others (show b ≠ w.heap.size by omega) (.int .i64 0) (.string ⟨#[]⟩) (.int .i64 0)
      have B := gb_puts (gb_trans (gb_alloc (gb_below (((Below.refl _ _).alloc (Nat.le_refl _) _).trans (hb1.mono (by simp))) (some b)) (.cells #[.int .i64 0, .string ⟨#[]⟩, .int .i64 0] 54)) hg3) (Nat.le_refl _) (.int .i64 0) (.string ⟨#[]⟩) (.int .i64 0)
      exact bodyPost_ret (v := .agg #[.int .i64 0, .string ⟨#[]⟩, .int .i64 0]) (by simp [results, Try.results34, go_sem, G.cell0, G.cell1, G.cell2]) rfl ⟨rfl, R, B⟩
  · rw [asked_some hx]
    show Calls _ _ _ _ fun e w' => e = .returned (.agg #[.int .i64 0, .string ⟨#[]⟩, .int .i64 0]) ∧ Rd 52 w' b s p x ∧ _
    have hcb : (x != 0) = true := by simpa using hx
    clear hx hc
    go_enter Try.func34, Try.ntmps34
    go_wp2
    exact bodyPost_ret (v := .agg #[.int .i64 0, .string ⟨#[]⟩, .int .i64 0]) (by simp [results, Try.results34, go_sem]) rfl ⟨rfl, hr1, gb_alloc (World.grownBy.refl _ _) _⟩

set_option maxRecDepth 100000 in
set_option maxHeartbeats 400000 in
theorem ask_36 {w : World} {b : Nat} {s : ByteArray} {p : Nat} {x : Int} (n : Int) (A : Ah) (hr : Rd 52 w b s p x) (hs : s.size ≤ 140737488355328) (hok : AhOk s p A)
    (hc : ∀ w1, Rd 52 w1 b s p x → Calls Try.prog 36 #[.pointer (some ⟨b, 0, none⟩), .int .i64 n] w1 fun e w' => e = .returned (.tuple #[.agg #[.int .i64 A.num, .string A.txt, .int .i64 A.long], .int .i64 A.code]) ∧ Below w1.heap.size w1 w') :
    Calls Try.prog 34 #[.pointer (some ⟨b, 0, none⟩), .func (.func 36) #[.pointer (some ⟨b, 0, none⟩)] #[], .int .i64 n] w fun e w' =>
      e = .returned (.agg #[.int .i64 (asked x A).num, .string (asked x A).txt, .int .i64 (asked x A).long]) ∧ Rd 52 w' b s (p + (asked x A).long) (asked x A).code ∧ w.grownBy w' (some b) := by
  have hl := hr.lt
  have hr1 : Rd 52 (w.alloc (.cells #[.int .i64 0, .string ⟨#[]⟩, .int .i64 0] 54)) b s p x := hr.below ((Below.refl _ _).alloc (Nat.le_refl _) _) hl
  have c2 := hr.cell2
  by_cases hx : x = 0
  · subst hx
    rw [asked_zero]
    have HC := hc _ hr1
    clear hc
    rcases hok with ⟨hcode, hlong⟩ | ⟨c, hc0, rfl⟩
    · obtain ⟨num, txt, long, code⟩ := A
      simp only at hcode hlong HC ⊢
      subst hcode
      have HC' : Hid (Calls Try.prog 36 #[.pointer (some ⟨b, 0, none⟩), .int .i64 n] (w.alloc (.cells #[.int .i64 0, .string ⟨#[]⟩, .int .i64 0] 54)) fun e w' => e = .returned (.tuple #[.agg #[.int .i64 num, .string txt, .int .i64 long], .int .i64 0]) ∧ Below (w.alloc (.cells #[.int .i64 0, .string ⟨#[]⟩, .int .i64 0] 54)).heap.size (w.alloc (.cells #[.int .i64 0, .string ⟨#[]⟩, .int .i64 0] 54)) w') := HC
      clear HC
      go_enter Try.func34, Try.ntmps34
      go_wp2_with fail
      refine (Calls.mono HC'.out ?_)
      rintro e w1 ⟨rfl, hb1⟩
      have z1 : w.heap.size < w1.heap.size := by have := hb1.size; simp only [World.size_alloc] at this; omega
      have F := (Fd.new w 0 ⟨#[]⟩ 0).below hb1 (by simp)
      have hr2 := hr1.below hb1 (by simp; omega)
      have hl1 := hr2.lt
      have d1 := hr2.cell1
      have e1 := hr2.free 1
      have a0 := F.cell0
      have a1 := F.cell1
      have a2 := F.cell2
      have f0 := F.free 0
      have f1 := F.free 1
      have f2 := F.free 2
      clear HC'
      go_wp2
      go_region
      go_wp2
      have G := (((F.other (show w.heap.size ≠ b by omega) 1 (.int .i64 ((p : Int) + long))).put num txt long).alloc (.cells #[.int .i64 num, .string txt, .int .i64 long] 54)).drew
      have R := ((hr2.set1' (show (p : Int) + long = ((p + long : Nat) : Int) by omega)).others (show b ≠ w.heap.size by omega) (.int .i64 num) (.string txt) (.int .i64 long)).alloc (.cells #[.int .i64 num, .string txt, .int .i64 long] 54)
      have B := gb_alloc (gb_puts (gb_trans (gb_below (((Below.refl _ _).alloc (Nat.le_refl _) _).trans (hb1.mono (by simp))) (some b)) (gb_set w1 b 1 (.int .i64 ((p : Int) + long)))) (Nat.le_refl _) (.int .i64 num) (.string txt) (.int .i64 long)) (.cells #[.int .i64 num, .string txt, .int .i64 long] 54)
      exact bodyPost_ret (v := .agg #[.int .i64 num, .string txt, .int .i64 long]) (by simp [results, Try.results34, go_sem, G.cell0, G.cell1, G.cell2]) rfl ⟨rfl, R.drew, gb_drew B⟩
    · have HC' : Hid (Calls Try.prog 36 #[.pointer (some ⟨b, 0, none⟩), .int .i64 n] (w.alloc (.cells #[.int .i64 0, .string ⟨#[]⟩, .int .i64 0] 54)) fun e w' => e = .returned (.tuple #[.agg #[.int .i64 0, .string ⟨#[]⟩, .int .i64 0], .int .i64 c]) ∧ Below (w.alloc (.cells #[.int .i64 0, .string ⟨#[]⟩, .int .i64 0] 54)).heap.size (w.alloc (.cells #[.int .i64 0, .string ⟨#[]⟩, .int .i64 0] 54)) w') := HC
      clear HC
      have hcb : (c != 0) = true := by simpa using hc0
      clear hc0
      show Calls _ _ _ _ fun e w' => e = .returned (.agg #[.int .i64 0, .string ⟨#[]⟩, .int .i64 0]) ∧ Rd 52 w' b s p c ∧ _
      go_enter Try.func34, Try.ntmps34
      go_wp2_with fail
      refine (Calls.mono HC'.out ?_)
      rintro e w1 ⟨rfl, hb1⟩
      have z1 : w.heap.size < w1.heap.size := by have := hb1.size; simp only [World.size_alloc] at this; omega
      have F := (Fd.new w 0 ⟨#[]⟩ 0).below hb1 (by simp)
      have hr2 := (hr1.below hb1 (by simp; omega)).alloc (.cells #[.int .i64 0, .string ⟨#[]⟩, .int .i64 0] 54)
      clear HC'
      go_wp2_with fail
      refine (fail_any c hr2).mono ?_
      rintro e w2 ⟨rfl, hr3, hg3⟩
      have F2 := (F.alloc (.cells #[.int .i64 0, .string ⟨#[]⟩, .int .i64 0] 54)).grown hg3 (by simp; omega)
      rw [failed_zero] at hr3
      have a0 := F2.cell0
      have a1 := F2.cell1
      have a2 := F2.cell2
      have f0 := F2.free 0
      have f1 := F2.free 1
      have f2 := F2.free 2
      go_wp2
      have G := F2.put 0 ⟨#[]⟩ 0
      have R := hr3.others (show b ≠ w.heap.size by omega) (.int .i64 0) (.string ⟨#[]⟩) (.int .i64 0)
      have B := gb_puts (gb_trans (gb_alloc (gb_below (((Below.refl _ _).alloc (Nat.le_refl _) _).trans (hb1.mono (by simp))) (some b)) (.cells #[.int .i64 0, .string ⟨#[]⟩, .int .i64 0] 54)) hg3) (Nat.le_refl _) (.int .i64 0) (.string ⟨#[]⟩) (.int .i64 0)
      exact bodyPost_ret (v := .agg #[.int .i64 0, .string ⟨#[]⟩, .int .i64 0]) (by simp [results, Try.results34, go_sem, G.cell0, G.cell1, G.cell2]) rfl ⟨rfl, R, B⟩
  · rw [asked_some hx]
    show Calls _ _ _ _ fun e w' => e = .returned (.agg #[.int .i64 0, .string ⟨#[]⟩, .int .i64 0]) ∧ Rd 52 w' b s p x ∧ _
    have hcb : (x != 0) = true := by simpa using hx
    clear hx hc
    go_enter Try.func34, Try.ntmps34
    go_wp2
    exact bodyPost_ret (v := .agg #[.int .i64 0, .string ⟨#[]⟩, .int .i64 0]) (by simp [results, Try.results34, go_sem]) rfl ⟨rfl, hr1, gb_alloc (World.grownBy.refl _ _) _⟩

set_option maxRecDepth 100000 in
set_option maxHeartbeats 400000 in
theorem ask_37 {w : World} {b : Nat} {s : ByteArray} {p : Nat} {x : Int} (n : Int) (A : Ah) (hr : Rd 52 w b s p x) (hs : s.size ≤ 140737488355328) (hok : AhOk s p A)
    (hc : ∀ w1, Rd 52 w1 b s p x → Calls Try.prog 37 #[.pointer (some ⟨b, 0, none⟩), .int .i64 n] w1 fun e w' => e = .returned (.tuple #[.agg #[.int .i64 A.num, .string A.txt, .int .i64 A.long], .int .i64 A.code]) ∧ Below w1.heap.size w1 w') :
    Calls Try.prog 34 #[.pointer (some ⟨b, 0, none⟩), .func (.func 37) #[.pointer (some ⟨b, 0, none⟩)] #[], .int .i64 n] w fun e w' =>
      e = .returned (.agg #[.int .i64 (asked x A).num, .string (asked x A).txt, .int .i64 (asked x A).long]) ∧ Rd 52 w' b s (p + (asked x A).long) (asked x A).code ∧ w.grownBy w' (some b) := by
  have hl := hr.lt
  have hr1 : Rd 52 (w.alloc (.cells #[.int .i64 0, .string ⟨#[]⟩, .int .i64 0] 54)) b s p x := hr.below ((Below.refl _ _).alloc (Nat.le_refl _) _) hl
  have c2 := hr.cell2
  by_cases hx : x = 0
  · subst hx
    rw [asked_zero]
    have HC := hc _ hr1
    clear hc
    rcases hok with ⟨hcode, hlong⟩ | ⟨c, hc0, rfl⟩
    · obtain ⟨num, txt, long, code⟩ := A
      simp only at hcode hlong HC ⊢
      subst hcode
      have HC' : Hid (Calls Try.prog 37 #[.pointer (some ⟨b, 0, none⟩), .int .i64 n] (w.alloc (.cells #[.int .i64 0, .string ⟨#[]⟩, .int .i64 0] 54)) fun e w' => e = .returned (.tuple #[.agg #[.int .i64 num, .string txt, .int .i64 long], .int .i64 0]) ∧ Below (w.alloc (.cells #[.int .i64 0, .string ⟨#[]⟩, .int .i64 0] 54)).heap.size (w.alloc (.cells #[.int .i64 0, .string ⟨#[]⟩, .int .i64 0] 54)) w') := HC
      clear HC
      go_enter Try.func34, Try.ntmps34
      go_wp2_with fail
      refine (Calls.mono HC'.out ?_)
      rintro e w1 ⟨rfl, hb1⟩
      have z1 : w.heap.size < w1.heap.size := by have := hb1.size; simp only [World.size_alloc] at this; omega
      have F := (Fd.new w 0 ⟨#[]⟩ 0).below hb1 (by simp)
      have hr2 := hr1.below hb1 (by simp; omega)
      have hl1 := hr2.lt
      have d1 := hr2.cell1
      have e1 := hr2.free 1
      have a0 := F.cell0
      have a1 := F.cell1
      have a2 := F.cell2
      have f0 := F.free 0
      have f1 := F.free 1
      have f2 := F.free 2
      clear HC'
      go_wp2
      go_region
      go_wp2
      have G := (((F.other (show w.heap.size ≠ b by omega) 1 (.int .i64 ((p : Int) + long))).put num txt long).alloc (.cells #[.int .i64 num, .string txt, .int .i64 long] 54)).drew
      have R := ((hr2.set1' (show (p : Int) + long = ((p + long : Nat) : Int) by omega)).others (show b ≠ w.heap.size by omega) (.int .i64 num) (.string txt) (.int .i64 long)).alloc (.cells #[.int .i64 num, .string txt, .int .i64 long] 54)
      have B := gb_alloc (gb_puts (gb_trans (gb_below (((Below.refl _ _).alloc (Nat.le_refl _) _).trans (hb1.mono (by simp))) (some b)) (gb_set w1 b 1 (.int .i64 ((p : Int) + long)))) (Nat.le_refl _) (.int .i64 num) (.string txt) (.int .i64 long)) (.cells #[.int .i64 num, .string txt, .int .i64 long] 54)
      exact bodyPost_ret (v := .agg #[.int .i64 num, .string txt, .int .i64 long]) (by simp [results, Try.results34, go_sem, G.cell0, G.cell1, G.cell2]) rfl ⟨rfl, R.drew, gb_drew B⟩
    · have HC' : Hid (Calls Try.prog 37 #[.pointer (some ⟨b, 0, none⟩), .int .i64 n] (w.alloc (.cells #[.int .i64 0, .string ⟨#[]⟩, .int .i64 0] 54)) fun e w' => e = .returned (.tuple #[.agg #[.int .i64 0, .string ⟨#[]⟩, .int .i64 0], .int .i64 c]) ∧ Below (w.alloc (.cells #[.int .i64 0, .string ⟨#[]⟩, .int .i64 0] 54)).heap.size (w.alloc (.cells #[.int .i64 0, .string ⟨#[]⟩, .int .i64 0] 54)) w') := HC
      clear HC
      have hcb : (c != 0) = true := by simpa using hc0
      clear hc0
      show Calls _ _ _ _ fun e w' => e = .returned (.agg #[.int .i64 0, .string ⟨#[]⟩, .int .i64 0]) ∧ Rd 52 w' b s p c ∧ _
      go_enter Try.func34, Try.ntmps34
      go_wp2_with fail
      refine (Calls.mono HC'.out ?_)
      rintro e w1 ⟨rfl, hb1⟩
      have z1 : w.heap.size < w1.heap.size := by have := hb1.size; simp only [World.size_alloc] at this; omega
      have F := (Fd.new w 0 ⟨#[]⟩ 0).below hb1 (by simp)
      have hr2 := (hr1.below hb1 (by simp; omega)).alloc (.cells #[.int .i64 0, .string ⟨#[]⟩, .int .i64 0] 54)
      clear HC'
      go_wp2_with fail
      refine (fail_any c hr2).mono ?_
      rintro e w2 ⟨rfl, hr3, hg3⟩
      have F2 := (F.alloc (.cells #[.int .i64 0, .string ⟨#[]⟩, .int .i64 0] 54)).grown hg3 (by simp; omega)
      rw [failed_zero] at hr3
      have a0 := F2.cell0
      have a1 := F2.cell1
      have a2 := F2.cell2
      have f0 := F2.free 0
      have f1 := F2.free 1
      have f2 := F2.free 2
      go_wp2
      have G := F2.put 0 ⟨#[]⟩ 0
      have R := hr3.others (show b ≠ w.heap.size by omega) (.int .i64 0) (.string ⟨#[]⟩) (.int .i64 0)
      have B := gb_puts (gb_trans (gb_alloc (gb_below (((Below.refl _ _).alloc (Nat.le_refl _) _).trans (hb1.mono (by simp))) (some b)) (.cells #[.int .i64 0, .string ⟨#[]⟩, .int .i64 0] 54)) hg3) (Nat.le_refl _) (.int .i64 0) (.string ⟨#[]⟩) (.int .i64 0)
      exact bodyPost_ret (v := .agg #[.int .i64 0, .string ⟨#[]⟩, .int .i64 0]) (by simp [results, Try.results34, go_sem, G.cell0, G.cell1, G.cell2]) rfl ⟨rfl, R, B⟩
  · rw [asked_some hx]
    show Calls _ _ _ _ fun e w' => e = .returned (.agg #[.int .i64 0, .string ⟨#[]⟩, .int .i64 0]) ∧ Rd 52 w' b s p x ∧ _
    have hcb : (x != 0) = true := by simpa using hx
    clear hx hc
    go_enter Try.func34, Try.ntmps34
    go_wp2
    exact bodyPost_ret (v := .agg #[.int .i64 0, .string ⟨#[]⟩, .int .i64 0]) (by simp [results, Try.results34, go_sem]) rfl ⟨rfl, hr1, gb_alloc (World.grownBy.refl _ _) _⟩

set_option maxRecDepth 100000 in
set_option maxHeartbeats 400000 in
theorem ask_38 {w : World} {b : Nat} {s : ByteArray} {p : Nat} {x : Int} (n : Int) (A : Ah) (hr : Rd 52 w b s p x) (hs : s.size ≤ 140737488355328) (hok : AhOk s p A)
    (hc : ∀ w1, Rd 52 w1 b s p x → Calls Try.prog 38 #[.pointer (some ⟨b, 0, none⟩), .int .i64 n] w1 fun e w' => e = .returned (.tuple #[.agg #[.int .i64 A.num, .string A.txt, .int .i64 A.long], .int .i64 A.code]) ∧ Below w1.heap.size w1 w') :
    Calls Try.prog 34 #[.pointer (some ⟨b, 0, none⟩), .func (.func 38) #[.pointer (some ⟨b, 0, none⟩)] #[], .int .i64 n] w fun e w' =>
      e = .returned (.agg #[.int .i64 (asked x A).num, .string (asked x A).txt, .int .i64 (asked x A).long]) ∧ Rd 52 w' b s (p + (asked x A).long) (asked x A).code ∧ w.grownBy w' (some b) := by
  have hl := hr.lt
  have hr1 : Rd 52 (w.alloc (.cells #[.int .i64 0, .string ⟨#[]⟩, .int .i64 0] 54)) b s p x := hr.below ((Below.refl _ _).alloc (Nat.le_refl _) _) hl
  have c2 := hr.cell2
  by_cases hx : x = 0
  · subst hx
    rw [asked_zero]
    have HC := hc _ hr1
    clear hc
    rcases hok with ⟨hcode, hlong⟩ | ⟨c, hc0, rfl⟩
    · obtain ⟨num, txt, long, code⟩ := A
      simp only at hcode hlong HC ⊢
      subst hcode
      have HC' : Hid (Calls Try.prog 38 #[.pointer (some ⟨b, 0, none⟩), .int .i64 n] (w.alloc (.cells #[.int .i64 0, .string ⟨#[]⟩, .int .i64 0] 54)) fun e w' => e = .returned (.tuple #[.agg #[.int .i64 num, .string txt, .int .i64 long], .int .i64 0]) ∧ Below (w.alloc (.cells #[.int .i64 0, .string ⟨#[]⟩, .int .i64 0] 54)).heap.size (w.alloc (.cells #[.int .i64 0, .string ⟨#[]⟩, .int .i64 0] 54)) w') := HC
      clear HC
      go_enter Try.func34, Try.ntmps34
      go_wp2_with fail
      refine (Calls.mono HC'.out ?_)
      rintro e w1 ⟨rfl, hb1⟩
      have z1 : w.heap.size < w1.heap.size := by have := hb1.size; simp only [World.size_alloc] at this; omega
      have F := (Fd.new w 0 ⟨#[]⟩ 0).below hb1 (by simp)
      have hr2 := hr1.below hb1 (by simp; omega)
      have hl1 := hr2.lt
      have d1 := hr2.cell1
      have e1 := hr2.free 1
      have a0 := F.cell0
      have a1 := F.cell1
      have a2 := F.cell2
      have f0 := F.free 0
      have f1 := F.free 1
      have f2 := F.free 2
      clear HC'
      go_wp2
      go_region
      go_wp2
      have G := (((F.other (show w.heap.size ≠ b by omega) 1 (.int .i64 ((p : Int) + long))).put num txt long).alloc (.cells #[.int .i64 num, .string txt, .int .i64 long] 54)).drew
      have R := ((hr2.set1' (show (p : Int) + long = ((p + long : Nat) : Int) by omega)).others (show b ≠ w.heap.size by omega) (.int .i64 num) (.string txt) (.int .i64 long)).alloc (.cells #[.int .i64 num, .string txt, .int .i64 long] 54)
      have B := gb_alloc (gb_puts (gb_trans (gb_below (((Below.refl _ _).alloc (Nat.le_refl _) _).trans (hb1.mono (by simp))) (some b)) (gb_set w1 b 1 (.int .i64 ((p : Int) + long)))) (Nat.le_refl _) (.int .i64 num) (.string txt) (.int .i64 long)) (.cells #[.int .i64 num, .string txt, .int .i64 long] 54)
      exact bodyPost_ret (v := .agg #[.int .i64 num, .string txt, .int .i64 long]) (by simp [results, Try.results34, go_sem, G.cell0, G.cell1, G.cell2]) rfl ⟨rfl, R.drew, gb_drew B⟩
    · have HC' : Hid (Calls Try.prog 38 #[.pointer (some ⟨b, 0, none⟩), .int .i64 n] (w.alloc (.cells #[.int .i64 0, .string ⟨#[]⟩, .int .i64 0] 54)) fun e w' => e = .returned (.tuple #[.agg #[.int .i64 0, .string ⟨#[]⟩, .int .i64 0], .int .i64 c]) ∧ Below (w.alloc (.cells #[.int .i64 0, .string ⟨#[]⟩, .int .i64 0] 54)).heap.size (w.alloc (.cells #[.int .i64 0, .string ⟨#[]⟩, .int .i64 0] 54)) w') := HC
      clear HC
      have hcb : (c != 0) = true := by simpa using hc0
      clear hc0
      show Calls _ _ _ _ fun e w' => e = .returned (.agg #[.int .i64 0, .string ⟨#[]⟩, .int .i64 0]) ∧ Rd 52 w' b s p c ∧ _
      go_enter Try.func34, Try.ntmps34
      go_wp2_with fail
      refine (Calls.mono HC'.out ?_)
      rintro e w1 ⟨rfl, hb1⟩
      have z1 : w.heap.size < w1.heap.size := by have := hb1.size; simp only [World.size_alloc] at this; omega
      have F := (Fd.new w 0 ⟨#[]⟩ 0).below hb1 (by simp)
      have hr2 := (hr1.below hb1 (by simp; omega)).alloc (.cells #[.int .i64 0, .string ⟨#[]⟩, .int .i64 0] 54)
      clear HC'
      go_wp2_with fail
      refine (fail_any c hr2).mono ?_
      rintro e w2 ⟨rfl, hr3, hg3⟩
      have F2 := (F.alloc (.cells #[.int .i64 0, .string ⟨#[]⟩, .int .i64 0] 54)).grown hg3 (by simp; omega)
      rw [failed_zero] at hr3
      have a0 := F2.cell0
      have a1 := F2.cell1
      have a2 := F2.cell2
      have f0 := F2.free 0
      have f1 := F2.free 1
      have f2 := F2.free 2
      go_wp2
      have G := F2.put 0 ⟨#[]⟩ 0
      have R := hr3.others (show b ≠ w.heap.size by omega) (.int .i64 0) (.string ⟨#[]⟩) (.int .i64 0)
      have B := gb_puts (gb_trans (gb_alloc (gb_below (((Below.refl _ _).alloc (Nat.le_refl _) _).trans (hb1.mono (by simp))) (some b)) (.cells #[.int .i64 0, .string ⟨#[]⟩, .int .i64 0] 54)) hg3) (Nat.le_refl _) (.int .i64 0) (.string ⟨#[]⟩) (.int .i64 0)
      exact bodyPost_ret (v := .agg #[.int .i64 0, .string ⟨#[]⟩, .int .i64 0]) (by simp [results, Try.results34, go_sem, G.cell0, G.cell1, G.cell2]) rfl ⟨rfl, R, B⟩
  · rw [asked_some hx]
    show Calls _ _ _ _ fun e w' => e = .returned (.agg #[.int .i64 0, .string ⟨#[]⟩, .int .i64 0]) ∧ Rd 52 w' b s p x ∧ _
    have hcb : (x != 0) = true := by simpa using hx
    clear hx hc
    go_enter Try.func34, Try.ntmps34
    go_wp2
    exact bodyPost_ret (v := .agg #[.int .i64 0, .string ⟨#[]⟩, .int .i64 0]) (by simp [results, Try.results34, go_sem]) rfl ⟨rfl, hr1, gb_alloc (World.grownBy.refl _ _) _⟩

end Go.Proofs.Ytifbcmcefggofaa
