/-
  The contract of the look ahead at a text.
-/
import Derived.Test.YtifbcmcefggofaaAhead2
namespace Go.Proofs.Ytifbcmcefggofaa
open Go.RowKit Go.Lib

set_option maxRecDepth 100000 in
set_option maxHeartbeats 800000 in
theorem textAhead_any {w : World} {b : Nat} {s : ByteArray} {p : Nat} {x : Int} (most : Int) (hr : Rd 52 w b s p x) (hp : p ≤ s.size) (hs : s.size ≤ 140737488355328) :
    Calls Try.prog 37 #[.pointer (some ⟨b, 0, none⟩), .int .i64 most] w fun e w' =>
      e = .returned (.tuple #[.agg #[.int .i64 (textA s p most).num, .string (textA s p most).txt, .int .i64 (textA s p most).long], .int .i64 (textA s p most).code]) ∧ Below w.heap.size w w' := by
  have hl := hr.lt
  have hr1 : Rd 52 (w.alloc (.cells #[.int .i64 0, .string ⟨#[]⟩, .int .i64 0] 54)) b s p x := hr.below ((Below.refl _ _).alloc (Nat.le_refl _) _) hl
  rcases shortA_cases s p most hp with ⟨c, hc0, hbad⟩ | ⟨num, long, hok, hlong, hnum, hmost⟩
  · rw [show textA s p most = .bad c from by unfold textA; rw [hbad, if_pos (show (Ah.bad c).code ≠ 0 from hc0)]; rfl]
    show Calls _ _ _ _ fun e w' => e = .returned (.tuple #[.agg #[.int .i64 0, .string ⟨#[]⟩, .int .i64 0], .int .i64 c]) ∧ _
    have hcb : (c != 0) = true := by simpa using hc0
    clear hc0
    go_enter Try.func37, Try.ntmps37
    go_wp2_with fail
    refine (shortAhead_bad most hr1 hp hs c hbad).mono ?_
    rintro e w1 ⟨rfl, hb1⟩
    have z1 : w.heap.size < w1.heap.size := by have := hb1.size; simp only [World.size_alloc] at this; omega
    have F := (Fd.new w 0 ⟨#[]⟩ 0).below hb1 (by simp)
    have a0 := F.cell0
    have a1 := F.cell1
    have a2 := F.cell2
    have f0 := F.free 0
    have f1 := F.free 1
    have f2 := F.free 2
    have HB : Hid (shortA s p most = .bad c) := hbad
    clear hbad
    go_wp2
    have G := (F.put 0 ⟨#[]⟩ 0).alloc (.cells #[.int .i64 0, .string ⟨#[]⟩, .int .i64 0] 54)
    exact bodyPost_ret (v := .tuple #[.agg #[.int .i64 0, .string ⟨#[]⟩, .int .i64 0], .int .i64 c]) (by simp [results, Try.results37, go_sem, G.cell0, G.cell1, G.cell2]) rfl
      ⟨rfl, (below_put (((Below.refl _ _).alloc (Nat.le_refl _) _).trans (hb1.mono (by simp))) (Nat.le_refl _) _ _ _).alloc (by simp; omega) _⟩
  · have ht : textA s p most = if (s.size : Int) - p - long < num then .bad 10 else ⟨0, s.extract (p + long) (p + long + num), long + num, 0⟩ := by
      unfold textA; rw [hok]; rfl
    by_cases hlt : (s.size : Int) - p - long < num
    · rw [ht, if_pos hlt]
      clear ht
      show Calls _ _ _ _ fun e w' => e = .returned (.tuple #[.agg #[.int .i64 0, .string ⟨#[]⟩, .int .i64 0], .int .i64 10]) ∧ _
      go_enter Try.func37, Try.ntmps37
      go_wp2_with fail
      refine (shortAhead_ok most hr1 hp hs num long hok).mono ?_
      rintro e w1 ⟨rfl, hb1⟩
      have z1 : w.heap.size < w1.heap.size := by have := hb1.size; simp only [World.size_alloc] at this; omega
      have F := (Fd.new w 0 ⟨#[]⟩ 0).below hb1 (by simp)
      have hr2 : Rd 52 (w1.alloc (.cells #[.int .i64 num, .string ⟨#[]⟩, .int .i64 long] 54)) b s p x := (hr1.below hb1 (by simp; omega)).below ((Below.refl _ _).alloc (Nat.le_refl _) _) (by omega)
      have a0 := F.cell0
      have a1 := F.cell1
      have a2 := F.cell2
      have f0 := F.free 0
      have f1 := F.free 1
      have f2 := F.free 2
      clear hok
      go_wp2
      go_quiet ((go_at_call 17; exact Calls.quiet_of (left_any (hr2.drewN _) hp hs)))
      go_wp2
      have G := ((F.alloc (.cells #[.int .i64 num, .string ⟨#[]⟩, .int .i64 long] 54)).drewN nq).put 0 ⟨#[]⟩ 0
      exact bodyPost_ret (v := .tuple #[.agg #[.int .i64 0, .string ⟨#[]⟩, .int .i64 0], .int .i64 10]) (by simp [results, Try.results37, go_sem, G.cell0, G.cell1, G.cell2]) rfl
        ⟨rfl, below_put (below_drew ((((Below.refl _ _).alloc (Nat.le_refl _) _).trans (hb1.mono (by simp))).alloc (by omega) _) _) (Nat.le_refl _) _ _ _⟩
    · rw [ht, if_neg hlt]
      clear ht
      show Calls _ _ _ _ fun e w' => e = .returned (.tuple #[.agg #[.int .i64 0, .string (s.extract (p + long) (p + long + num)), .int .i64 (long + num : Nat)], .int .i64 0]) ∧ _
      have hfit : p + long + num ≤ s.size := by omega
      go_enter Try.func37, Try.ntmps37
      go_wp2_with fail
      refine (shortAhead_ok most hr1 hp hs num long hok).mono ?_
      rintro e w1 ⟨rfl, hb1⟩
      have z1 : w.heap.size < w1.heap.size := by have := hb1.size; simp only [World.size_alloc] at this; omega
      have F := (Fd.new w 0 ⟨#[]⟩ 0).below hb1 (by simp)
      have hr0 := hr1.below hb1 (by simp; omega)
      have hr2 : Rd 52 (w1.alloc (.cells #[.int .i64 num, .string ⟨#[]⟩, .int .i64 long] 54)) b s p x := hr0.below ((Below.refl _ _).alloc (Nat.le_refl _) _) (by omega)
      have c0 := hr0.cell0
      have c1 := hr0.cell1
      have hl1 := hr0.lt
      have a0 := F.cell0
      have a1 := F.cell1
      have a2 := F.cell2
      have f0 := F.free 0
      have f1 := F.free 1
      have f2 := F.free 2
      clear hok
      go_wp2
      go_quiet ((go_at_call 17; exact Calls.quiet_of (left_any (hr2.drewN _) hp hs)))
      go_wp2
      go_quiet (fail)
      go_wp2
      go_region
      go_wp2
      have G := fun k => ((F.alloc (.cells #[.int .i64 num, .string ⟨#[]⟩, .int .i64 long] 54)).drewN k).put 0 (s.extract (p + long) (p + long + num)) ((long : Int) + num)
      have g0 := fun k => (G k).cell0
      have g1 := fun k => (G k).cell1
      have g2 := fun k => (G k).cell2
      exact bodyPost_ret (v := .tuple #[.agg #[.int .i64 0, .string (s.extract (p + long) (p + long + num)), .int .i64 ((long : Int) + num)], .int .i64 0]) (by simp [results, Try.results37, go_sem, g0, g1, g2]) rfl
        ⟨rfl, below_put (below_drew ((((Below.refl _ _).alloc (Nat.le_refl _) _).trans (hb1.mono (by simp))).alloc (by omega) _) _) (Nat.le_refl _) _ _ _⟩

end Go.Proofs.Ytifbcmcefggofaa
