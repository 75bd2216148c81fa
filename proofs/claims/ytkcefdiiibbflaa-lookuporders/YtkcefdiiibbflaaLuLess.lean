/-
  Lookup: which of two items stands ahead: the program's and the document's; may an item be.
-/
import Derived.Test.YtkcefdiiibbflaaLuMath
import Derived.Test.YtkcefdiiibbflaaStShelf
import Derived.Sort.Grow
import Derived.Deep.RegionHeld3
import Derived.Deep.RegionHeldLaw
namespace Go.Proofs.Ytkcefdiiibbflaa
open Go.RowKit Go.Lib Go.Shelf Go.Sort
theorem cmpInt_any (x y : Int) (w : World) : Calls Try.prog 21 #[.int .i64 x, .int .i64 y] w fun e w' => e = .returned (.int .i64 (compareInt x y)) ∧ w' = w := by
  go_enter Try.func21, Try.ntmps21
  go_wp2
  all_goals (go_ret; refine ⟨?_, rfl⟩; unfold compareInt; (repeat' split) <;> first | rfl | (exfalso; omega))
theorem cmpExt_any (a b : ByteArray) (w : World) : Calls Try.prog 20 #[.string a, .string b] w fun e w' => e = .returned (.int .i64 (cS a b)) ∧ w' = w := Try.strings_Compare a b w
/-- The first of six that is not 0. -/
def or6 : List Int → Int
  | [] => 0
  | x :: r => if x = 0 then or6 r else x
theorem or_any {w : World} {g : Nat} (l : List Int) (c : Nat) (hl : l.length ≤ 100) (hg : w.heap[g]? = some (.cells (l.map (Value.int .i64)).toArray 3 (0, 0))) :
    Calls Try.prog 19 #[.slice (some ⟨g, 0, none⟩) l.length c] w fun e w' => e = .returned (.int .i64 (or6 l)) ∧ w' = w := by
  have HC : Hid (∀ j x, l[j]? = some x → w.cell? ⟨g, j, none⟩ = some (.int .i64 x)) := fun j x hx => by
    rw [cell_of_row w g _ _ _ _ hg]
    simp [hx]
  obtain ⟨n, hn⟩ : ∃ n, n = l.length := ⟨_, rfl⟩
  rw [← hn] at hl ⊢
  have HN := hide hn
  clear hn hg
  go_enter Try.func19, Try.ntmps19
  go_wp2
  go_loopw [8] (fun t wr => ∃ (j : Nat), j ≤ n ∧ t = .int .i64 (j : Int) ∧ or6 (l.drop j) = or6 l ∧ wr = w) (fun t _ => n - (RowKit.intOf t).toNat)
  case atStart => exact ⟨0, Nat.zero_le _, rfl, by simp, rfl⟩
  case round =>
    obtain ⟨j, hj, rfl, hs, hw⟩ := hrel
    subst hw
    by_cases hlt : j < n
    · have b1 : (j : Int) < (n : Int) := by omega
      have b0 : (0 : Int) ≤ (j : Int) := by omega
      obtain ⟨x, hx⟩ : ∃ x, l[j]? = some x := ⟨_, List.getElem?_eq_getElem (by have := HN.out; omega)⟩
      have u0 := HC.out j x hx
      have hdr : l.drop j = x :: l.drop (j + 1) := by
        rw [List.drop_eq_getElem_cons (by have := HN.out; omega)]
        rw [List.getElem?_eq_getElem (by have := HN.out; omega)] at hx
        cases hx
        rfl
      rw [hdr, or6] at hs
      by_cases h0 : x = 0
      · rw [if_pos h0] at hs
        have HS := hide hs
        subst h0
        clear hs hx hdr
        go_wp2
        exact ⟨⟨j + 1, by omega, by go_num, HS.out, trivial⟩, by simp [RowKit.intOf]; omega⟩
      · rw [if_neg h0] at hs
        have HS := hide hs
        have q0 : (x == 0) = false := by simpa using h0
        clear hs hx hdr
        go_wp2
        go_ret
        exact ⟨by rw [HS.out]; rfl, rfl⟩
    · obtain rfl : j = n := by omega
      have e : l.drop j = [] := List.drop_eq_nil_of_le (by have := HN.out; omega)
      rw [e, or6] at hs
      have HS := hide hs
      clear hs
      go_wp2
      go_ret
      exact ⟨by rw [← HS.out]; rfl, rfl⟩
theorem or6_cI (x y : IT) : or6 [cS x.id y.id, cS x.pk y.pk, compareInt x.off y.off, compareInt x.long y.long, compareInt x.size y.size, compareInt x.kind y.kind] = cI x y := by
  simp only [or6, cI, thenC]
  (repeat' split) <;> simp_all
/-- An item's six cells in a block of their own. -/
def C6 (w : World) (b : Nat) (x : IT) : Prop := w.cell? ⟨b, 0, none⟩ = some (.string x.id) ∧ w.cell? ⟨b, 1, none⟩ = some (.string x.pk) ∧ w.cell? ⟨b, 2, none⟩ = some (.int .i64 x.kind) ∧ w.cell? ⟨b, 3, none⟩ = some (.int .i64 x.off) ∧ w.cell? ⟨b, 4, none⟩ = some (.int .i64 x.long) ∧ w.cell? ⟨b, 5, none⟩ = some (.int .i64 x.size)
theorem c6_of {w : World} {b : Nat} {x : IT} {T : TypeId} (h : w.heap[b]? = some (.cells (it6 x).toArray T (0, 0))) : C6 w b x := by
  refine ⟨?_, ?_, ?_, ?_, ?_, ?_⟩ <;> (rw [cell_of_row w b _ _ _ _ h]; simp [it6])
set_option maxRecDepth 100000 in
set_option maxHeartbeats 1600000 in
theorem order_any (x y : IT) (w : World) : Calls Try.prog 13 #[.agg (it6 x).toArray, .agg (it6 y).toArray] w fun e w' => e = .returned (.int .i64 (cI x y)) ∧ ∃ q os', w' = grow (w.drewN q) os' := by
  obtain ⟨n, hn⟩ : ∃ n, n = w.heap.size := ⟨_, rfl⟩
  obtain ⟨U, hU⟩ : ∃ U, U = (w.alloc (.cells (it6 x).toArray 25)).alloc (.cells (it6 y).toArray 25) := ⟨_, rfl⟩
  have k0 : U.heap[n]? = some (.cells (it6 x).toArray 25 (0, 0)) := by
    rw [hU, hn, Below.heap_alloc _ _ _ (by simp)]; exact heap_alloc_new w _
  have k1 : U.heap[n + 1]? = some (.cells (it6 y).toArray 25 (0, 0)) := by
    have := heap_alloc_new (w.alloc (.cells (it6 x).toArray 25)) (.cells (it6 y).toArray 25)
    rw [hU, hn]
    simpa using this
  have hX := c6_of k0
  have hY := c6_of k1
  obtain ⟨x0, x1, x2, x3, x4, x5⟩ := hX
  obtain ⟨y0, y1, y2, y3, y4, y5⟩ := hY
  have HS : Hid (∀ W : World, W = U ∨ W = U.drew → ((W.cell? ⟨n, 0, none⟩ = some (.string x.id) ∧ W.cell? ⟨n, 1, none⟩ = some (.string x.pk) ∧ W.cell? ⟨n, 2, none⟩ = some (.int .i64 x.kind) ∧ W.cell? ⟨n, 3, none⟩ = some (.int .i64 x.off) ∧ W.cell? ⟨n, 4, none⟩ = some (.int .i64 x.long) ∧ W.cell? ⟨n, 5, none⟩ = some (.int .i64 x.size)) ∧ (W.cell? ⟨n + 1, 0, none⟩ = some (.string y.id) ∧ W.cell? ⟨n + 1, 1, none⟩ = some (.string y.pk) ∧ W.cell? ⟨n + 1, 2, none⟩ = some (.int .i64 y.kind) ∧ W.cell? ⟨n + 1, 3, none⟩ = some (.int .i64 y.off) ∧ W.cell? ⟨n + 1, 4, none⟩ = some (.int .i64 y.long) ∧ W.cell? ⟨n + 1, 5, none⟩ = some (.int .i64 y.size)))) := by
    rintro W (rfl | rfl)
    · exact ⟨⟨x0, x1, x2, x3, x4, x5⟩, y0, y1, y2, y3, y4, y5⟩
    · exact ⟨⟨x0, x1, x2, x3, x4, x5⟩, y0, y1, y2, y3, y4, y5⟩
  have HS3 : Hid (∀ o : Obj, (((U.alloc o).drew.cell? ⟨n, 0, none⟩ = some (.string x.id) ∧ (U.alloc o).drew.cell? ⟨n, 1, none⟩ = some (.string x.pk) ∧ (U.alloc o).drew.cell? ⟨n, 2, none⟩ = some (.int .i64 x.kind) ∧ (U.alloc o).drew.cell? ⟨n, 3, none⟩ = some (.int .i64 x.off) ∧ (U.alloc o).drew.cell? ⟨n, 4, none⟩ = some (.int .i64 x.long) ∧ (U.alloc o).drew.cell? ⟨n, 5, none⟩ = some (.int .i64 x.size)) ∧ ((U.alloc o).drew.cell? ⟨n + 1, 0, none⟩ = some (.string y.id) ∧ (U.alloc o).drew.cell? ⟨n + 1, 1, none⟩ = some (.string y.pk) ∧ (U.alloc o).drew.cell? ⟨n + 1, 2, none⟩ = some (.int .i64 y.kind) ∧ (U.alloc o).drew.cell? ⟨n + 1, 3, none⟩ = some (.int .i64 y.off) ∧ (U.alloc o).drew.cell? ⟨n + 1, 4, none⟩ = some (.int .i64 y.long) ∧ (U.alloc o).drew.cell? ⟨n + 1, 5, none⟩ = some (.int .i64 y.size)))) := fun o =>
    ⟨c6_of (T := 25) (show (U.alloc o).drew.heap[n]? = _ from (Below.heap_alloc _ _ _ (lt_of_block k0)).trans k0), c6_of (T := 25) (show (U.alloc o).drew.heap[n + 1]? = _ from (Below.heap_alloc _ _ _ (lt_of_block k1)).trans k1)⟩
  have HO : Hid (Calls Try.prog 19 #[.slice (some ⟨U.heap.size, 0, none⟩) 6 6] (U.alloc (.cells #[.int .i64 (cS x.id y.id), .int .i64 (cS x.pk y.pk), .int .i64 (compareInt x.off y.off), .int .i64 (compareInt x.long y.long), .int .i64 (compareInt x.size y.size), .int .i64 (compareInt x.kind y.kind)] 3)).drew fun e w' => e = .returned (.int .i64 (cI x y)) ∧ w' = (U.alloc (.cells #[.int .i64 (cS x.id y.id), .int .i64 (cS x.pk y.pk), .int .i64 (compareInt x.off y.off), .int .i64 (compareInt x.long y.long), .int .i64 (compareInt x.size y.size), .int .i64 (compareInt x.kind y.kind)] 3)).drew) := by
    have := or_any (w := (U.alloc (.cells #[.int .i64 (cS x.id y.id), .int .i64 (cS x.pk y.pk), .int .i64 (compareInt x.off y.off), .int .i64 (compareInt x.long y.long), .int .i64 (compareInt x.size y.size), .int .i64 (compareInt x.kind y.kind)] 3)).drew) (g := U.heap.size) [cS x.id y.id, cS x.pk y.pk, compareInt x.off y.off, compareInt x.long y.long, compareInt x.size y.size, compareInt x.kind y.kind] 6 (by simp) (heap_alloc_new U _)
    rw [or6_cI] at this
    exact this
  have HE : Hid (∀ o : Obj, ∃ q os', (U.alloc o).drew = grow (w.drewN q) os') := fun o => by
    refine ⟨1, #[.cells (it6 x).toArray 25] ++ #[.cells (it6 y).toArray 25] ++ #[o], ?_⟩
    rw [hU, alloc_eq_grow, alloc_eq_grow, alloc_eq_grow, grow_grow, grow_grow]
    rfl
  have HU := hide hU
  have HN := hide hn
  have CS := hide (fun a b (W : World) => cmpExt_any a b W)
  have CN := hide (fun a b (W : World) => cmpInt_any a b W)
  simp only [it6] at *
  clear hU hn k0 k1 x0 x1 x2 x3 x4 x5 y0 y1 y2 y3 y4 y5
  go_enter Try.func13, Try.ntmps13
  go_upto_region 1 with fail
  rw [← HN.out, ← HU.out]
  go_region_held_law (fun wx => (wx.cell? ⟨n, 0, none⟩ = some (.string x.id) ∧ wx.cell? ⟨n, 1, none⟩ = some (.string x.pk) ∧ wx.cell? ⟨n, 2, none⟩ = some (.int .i64 x.kind) ∧ wx.cell? ⟨n, 3, none⟩ = some (.int .i64 x.off) ∧ wx.cell? ⟨n, 4, none⟩ = some (.int .i64 x.long) ∧ wx.cell? ⟨n, 5, none⟩ = some (.int .i64 x.size)) ∧ (wx.cell? ⟨n + 1, 0, none⟩ = some (.string y.id) ∧ wx.cell? ⟨n + 1, 1, none⟩ = some (.string y.pk) ∧ wx.cell? ⟨n + 1, 2, none⟩ = some (.int .i64 y.kind) ∧ wx.cell? ⟨n + 1, 3, none⟩ = some (.int .i64 y.off) ∧ wx.cell? ⟨n + 1, 4, none⟩ = some (.int .i64 y.long) ∧ wx.cell? ⟨n + 1, 5, none⟩ = some (.int .i64 y.size)))
    (first | with_reducible exact HS.out _ (Or.inl rfl) | with_reducible exact HS.out _ (Or.inr rfl) | with_reducible exact HS3.out _)
    (first | (go_at_call 20; refine Calls.mono (CS.out _ _ _) ?_; rintro e w9 ⟨rfl, hw9⟩; subst w9) | (go_at_call 21; refine Calls.mono (CN.out _ _ _) ?_; rintro e w9 ⟨rfl, hw9⟩; subst w9) | (go_at_call 19; refine Calls.mono HO.out ?_; rintro e w9 ⟨rfl, hw9⟩; subst w9))
  go_wp2
  go_ret
  exact ⟨rfl, HE.out _⟩
end Go.Proofs.Ytkcefdiiibbflaa
