/-
  The contracts of Scale, of the loop that adds products, and of the document's Add, By and Scale.
-/
import Derived.Test.YtfjkdmiaagalhaaGreatFAdd
namespace Go.Proofs.YtfjkdmiaagalhaaGreat.Fd
open Go.RowKit Go.Lib

set_option maxRecDepth 100000 in
set_option maxHeartbeats 400000 in
theorem refAdd_ok (a b : ByteArray) (hs : a.size = b.size) (hm : a.size ≤ 140737488355328) (w : World) :
    Calls Tryz.prog 48 #[.string a, .string b] w fun e w' => e = .returned (.tuple #[.string (strOf (xorL a.data.toList b.data.toList)), .int .i64 0]) ∧ Below w.heap.size w w' := by
  obtain ⟨i0, hi, hz0, hz1, hz2⟩ := info_parts Tryz.info5
  have hl : a.data.toList.length = b.data.toList.length := by rw [← Lib.size_eq, ← Lib.size_eq, hs]
  have hla : a.data.toList.length = a.size := (Lib.size_eq a).symm
  have hz : (List.replicate a.size (0 : UInt8)).length = a.data.toList.length := by simp
  obtain ⟨R, hRl, hget, hR⟩ : ∃ (R : List UInt8) (hRl : R.length = (List.replicate a.size (0 : UInt8)).length), (∀ (j : Nat) (hj : j < a.data.toList.length), R[j]'(by omega) = a.data.toList[j] ^^^ b.data.toList[j]'(by omega)) ∧ xorL a.data.toList b.data.toList = R := ⟨_, (xorL_length _ _ hl).trans hz.symm, xorL_get _ _ hl, rfl⟩
  rw [hR]
  clear hR
  have hne : ((a.size : Int) != (b.size : Int)) = false := by simp [hs]
  have HSZ : Hid _ := hs
  have HLL : Hid _ := hl
  clear hs
  go_enter Tryz.func48, Tryz.ntmps48
  go_wp2_with (at_make; refine wpList_make_full _ rfl _ _ 105 rfl w.heap.size 5 i0 (.int .u8 0) 1 Tryz.underlying105 hi hz0 hz1 _ _ _ _ a.size rfl rfl rfl rfl (by rw [hz2]; omega) (by unfold maxLen; omega) (Nat.le_refl _) ?_)
  all_goals
  intro w0 hown0 hgrow0
  have hb0 : Below w.heap.size w w0 := (Below.refl _ _).grown hgrow0 (Nat.le_refl _) (fun k hk => by cases hk)
  have hB0 := BR.made hown0
  clear hgrow0 hown0 hz0 hz1 hz2 hi
  go_wp2
  go_loopw [7] (fun i wr => ∃ j : Nat, j ≤ a.size ∧ i = .int .i64 j ∧ BR wr w.heap.size (st R (List.replicate a.size 0) j) ∧ Below w.heap.size w wr) (fun i _ => a.size - (intOf i).toNat)
  case atStart => exact ⟨0, Nat.zero_le _, rfl, by rw [st_zero]; exact hB0, hb0⟩
  case round =>
    clear hB0 hb0
    obtain ⟨j, hj, rfl, hB, hb⟩ := hrel
    by_cases hlt : j < a.size
    · have hjl : j < a.data.toList.length := by omega
      have hjz : j < (List.replicate a.size (0 : UInt8)).length := by omega
      have cj := hB.cell j _ (st_get R _ hRl j hjz)
      have hf := hB.free j (by rw [st_length _ _ hRl]; exact hjz)
      have hix := ix b j (by have := HSZ.out; omega)
      have hia := ix a j hlt
      have S := BR.step hRl hjz hB hb (Nat.le_refl _)
      have hx := u8_xor (a.data.toList[j]) (b.data.toList[j]'(by have := HLL.out; omega))
      rw [← hget j hjl] at hx
      have HS : Hid _ := S
      clear S hB hb hget
      generalize (List.replicate a.size (0 : UInt8))[j] = q at *
      generalize a.data.toList[j] = x at *
      generalize b.data.toList[j] = y at *
      generalize R[j] = z at *
      have b0 : (0 : Int) ≤ (j : Int) := by omega
      have b1 : (j : Int) < (a.size : Int) := by omega
      go_wp2
      go_region
      go_wp2
      go_roundw
      case rel => exact ⟨j + 1, by omega, by go_num, HS.out.1, HS.out.2.drew⟩
      case measure => simp [intOf]; omega
    · obtain rfl : j = a.size := by omega
      have e := st_all R _ hRl
      rw [hz, hla] at e
      rw [e] at hB
      have hstr := hB.str_all a.size a.size (by omega)
      go_wp2
      go_ret2
      exact ⟨rfl, hb⟩
theorem refAdd_bad (a b : ByteArray) (hs : a.size ≠ b.size) (w : World) :
    Calls Tryz.prog 48 #[.string a, .string b] w fun e w' => e = .returned (.tuple #[.string ⟨#[]⟩, .int .i64 4]) ∧ w' = w := by
  have h : ((a.size : Int) != (b.size : Int)) = true := by simp; omega
  go_enter Tryz.func48, Tryz.ntmps48
  go_wp2
  go_ret2
  exact ⟨rfl, rfl⟩

theorem byL_get (s : List UInt8) (c j : Nat) (hj : j < s.length) : (byL s c)[j]'(by rw [byL_length]; exact hj) = mulB c s[j] := by simp [byL]

set_option maxRecDepth 100000 in
set_option maxHeartbeats 400000 in
theorem by_any (s : ByteArray) (c : Nat) (hc : c < 256) (hm : s.size ≤ 140737488355328) (w : World) :
    Calls Tryz.prog 49 #[.string s, .int .i64 c] w fun e w' => e = .returned (.string (strOf (byL s.data.toList c))) ∧ Below w.heap.size w w' := by
  obtain ⟨i0, hi, hz0, hz1, hz2⟩ := info_parts Tryz.info5
  have hla : s.data.toList.length = s.size := (Lib.size_eq s).symm
  have hz : (List.replicate s.size (0 : UInt8)).length = s.data.toList.length := by simp
  obtain ⟨R, hRl, hget, hR⟩ : ∃ (R : List UInt8) (hRl : R.length = (List.replicate s.size (0 : UInt8)).length), (∀ (j : Nat) (hj : j < s.data.toList.length), R[j]'(by omega) = mulB c s.data.toList[j]) ∧ byL s.data.toList c = R := ⟨_, (byL_length _ _).trans hz.symm, fun j hj => byL_get _ c j hj, rfl⟩
  rw [hR]
  clear hR
  go_enter Tryz.func49, Tryz.ntmps49
  go_wp2_with (at_make; refine wpList_make_full _ rfl _ _ 105 rfl w.heap.size 5 i0 (.int .u8 0) 1 Tryz.underlying105 hi hz0 hz1 _ _ _ _ s.size rfl rfl rfl rfl (by rw [hz2]; omega) (by unfold maxLen; omega) (Nat.le_refl _) ?_)
  all_goals
  intro w0 hown0 hgrow0
  have hb0 : Below w.heap.size w w0 := (Below.refl _ _).grown hgrow0 (Nat.le_refl _) (fun k hk => by cases hk)
  have hB0 := BR.made hown0
  clear hgrow0 hown0 hz0 hz1 hz2 hi
  go_wp2
  go_loopw [6] (fun i wr => ∃ j : Nat, j ≤ s.size ∧ i = .int .i64 j ∧ BR wr w.heap.size (st R (List.replicate s.size 0) j) ∧ Below w.heap.size w wr) (fun i _ => s.size - (intOf i).toNat)
  case atStart => exact ⟨0, Nat.zero_le _, rfl, by rw [st_zero]; exact hB0, hb0⟩
  case round =>
    clear hB0 hb0
    obtain ⟨j, hj, rfl, hB, hb⟩ := hrel
    by_cases hlt : j < s.size
    · have hjl : j < s.data.toList.length := by omega
      have hjz : j < (List.replicate s.size (0 : UInt8)).length := by omega
      have cj := hB.cell j _ (st_get R _ hRl j hjz)
      have hf := hB.free j (by rw [st_length _ _ hRl]; exact hjz)
      have hia := ix s j hlt
      have S := BR.step hRl hjz hB hb (Nat.le_refl _)
      have hx := mulB_toNat c (s.data.toList[j])
      rw [← hget j hjl] at hx
      have HT := refTimes_any (s.data.toList[j]).toNat c (s.data.toList[j]).toNat_lt hc
      rw [← hx] at HT
      have HS : Hid _ := S
      have HTT : Hid _ := HT
      have hxl := (s.data.toList[j]).toNat_lt
      have hzl := (R[j]).toNat_lt
      clear S hB hb hget HT hx
      generalize (List.replicate s.size (0 : UInt8))[j] = q at *
      generalize s.data.toList[j] = x at *
      generalize R[j] = z at *
      have b0 : (0 : Int) ≤ (j : Int) := by omega
      have b1 : (j : Int) < (s.size : Int) := by omega
      go_wp2_with fail
      refine (HTT.out _).mono ?_
      rintro e w2 ⟨rfl, rfl⟩
      go_wp2
      go_roundw
      case rel => exact ⟨j + 1, by omega, by go_num, HS.out.1, HS.out.2⟩
      case measure => simp [intOf]; omega
    · obtain rfl : j = s.size := by omega
      have e := st_all R _ hRl
      rw [hz, hla] at e
      rw [e] at hB
      have hstr := hB.str_all s.size s.size (by omega)
      go_wp2
      go_ret
      exact ⟨rfl, hb⟩
theorem _root_.Go.Proofs.YtfjkdmiaagalhaaGreat.TB.keep {w w' : World} {t g : Nat} {L : List UInt8} (h : TB w t) (hB : BR w g L) (hg : w.grownBy w' (some g)) : TB w' t := by
  refine h.of_block (hg.block t h.lt ?_)
  intro e
  cases e
  obtain ⟨Z, fr, h1, _⟩ := hB
  have h2 := h1.symm.trans h
  simp at h2

set_option maxRecDepth 100000 in
set_option maxHeartbeats 800000 in
theorem addP_any {w : World} {t g cap : Nat} {L : List UInt8} (hT : TB w t) (hB0 : BR w g L) (s : ByteArray) (hs : s.size = L.length) (c : Nat) (hc : c < 256) (hm : s.size ≤ 140737488355328) :
    Calls Tryz.prog 75 #[.pointer (some ⟨t, 0, none⟩), .slice (some ⟨g, 0, none⟩) L.length cap, .string s, .int .i64 c] w fun e w' => e = .returned (.tuple #[]) ∧ BR w' g (xorL L (byL s.data.toList c)) ∧ w.grownBy w' (some g) := by
  have hl : L.length = s.data.toList.length := by rw [← Lib.size_eq, hs]
  have hRl := xorL_length L (byL s.data.toList c) (by rw [byL_length]; exact hl)
  have HGT : Hid (∀ j x y, L[j]? = some x → s.data.toList[j]? = some y → (xorL L (byL s.data.toList c))[j]? = some (x ^^^ mulB c y)) := fun j x y hx hy => xorL_get2 hx (byL_get2 c hy)
  obtain ⟨n, hn⟩ : ∃ n, n = L.length := ⟨_, rfl⟩
  rw [← hn]
  obtain ⟨R, hR⟩ : ∃ R, xorL L (byL s.data.toList c) = R := ⟨_, rfl⟩
  rw [hR] at hRl HGT ⊢
  clear hR
  have HN : Hid _ := hn
  have HSZ : Hid _ := hs
  have HLL : Hid _ := hl
  have hnm : n ≤ 140737488355328 := by omega
  clear hn hs hm hl
  go_enter Tryz.func75, Tryz.ntmps75
  go_wp2
  go_loopw [11] (fun i wr => ∃ j : Nat, j ≤ n ∧ i = .int .i64 j ∧ BR wr g (st R L j) ∧ w.grownBy wr (some g)) (fun i _ => n - (intOf i).toNat)
  case atStart => exact ⟨0, Nat.zero_le _, rfl, by rw [st_zero]; exact hB0, gb_refl _ _⟩
  case round =>
    obtain ⟨j, hj, rfl, hB, hg⟩ := hrel
    have hTr := hT.keep hB0 hg
    by_cases hlt : j < n
    · have hjl : j < L.length := by rw [← HN.out]; exact hlt
      obtain ⟨x, hx⟩ := get_some L j hjl
      obtain ⟨y, hy⟩ := get_some s.data.toList j (by rw [← HLL.out]; exact hjl)
      have hz := HGT.out j x y hx hy
      have cj := hB.cell j _ (st_get2 hRl hx)
      have hf := hB.free j (by rw [st_length _ _ hRl]; exact hjl)
      have hix := ix2 hy
      have S := hB.set j (by rw [st_length _ _ hRl]; exact hjl) (x ^^^ mulB c y)
      rw [st_set2 hRl hz] at S
      have hxx := u8_xor x (mulB c y)
      rw [mulB_toNat] at hxx
      have hpl := prod_lt y.toNat c
      have HS : Hid _ := S
      have HG : Hid _ := hg
      have HPP : Hid (∀ (v : Value) (w : World), v = .int .i64 ((y.toNat : Nat) : Int) → TB w t → Calls Tryz.prog 88 #[.pointer (some ⟨t, 0, none⟩), v, .int .i64 (c : Int)] w fun e w' => e = .returned (.int .i64 ((prod y.toNat c : Nat) : Int)) ∧ ∃ m, w' = w.drewN m) := fun v w e h => by subst e; exact product_any h y.toNat c y.toNat_lt hc
      have hwy : IntKind.i64.wrap ((y.toNat : Nat) : Int) = ((y.toNat : Nat) : Int) := wraps_i64 _ (by omega) (by have := y.toNat_lt; omega)
      have hwp : IntKind.u8.wrap ((prod y.toNat c : Nat) : Int) = ((prod y.toNat c : Nat) : Int) := wraps_u8 _ (by omega) (by omega)
      have hxl := y.toNat_lt
      have hTd : TB wr.drew t := hTr
      have htg : t ≠ g := by
        intro e
        subst e
        obtain ⟨Z, fr, h1, _⟩ := hB
        have h2 := h1.symm.trans hTr
        simp at h2
      have hTs : ∀ (k : Nat) (v : Value), TB ((wr.drewN k).setCell ⟨g, j, none⟩ v) t := fun k v => hTr.of_block (heap_setCell_other (wr.drewN k) _ _ _ htg)
      clear S hB hg hB0 hT hx hy hz
      generalize x ^^^ mulB c y = z at *
      generalize prod y.toNat c = pr at *
      have b0 : (0 : Int) ≤ (j : Int) := by omega
      have b1 : (j : Int) < (n : Int) := by omega
      go_wp2
      go_region_with (go_at_call 88; refine (HPP.out _ _ (by with_reducible rfl) (by first | assumption | exact hTd)).mono ?_; rintro e w2 ⟨rfl, m, rfl⟩)
      all_goals
        go_wp2
        go_roundw
        case rel => exact ⟨j + 1, by omega, by go_num, HS.out, gb_trans (gb_drewN HG.out _) (gb_set _ _ _ _)⟩
        case measure => simp [intOf]; omega
    · obtain rfl : j = n := by omega
      have e := st_all R L hRl
      rw [← HN.out] at e
      rw [e] at hB
      go_wp2
      go_end0
      exact ⟨rfl, hB, hg⟩
end Go.Proofs.YtfjkdmiaagalhaaGreat.Fd
