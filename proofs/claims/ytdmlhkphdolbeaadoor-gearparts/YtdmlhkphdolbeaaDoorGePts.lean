/-
  Gear: the statement GearParts, walked.
-/
import Derived.Test.YtdmlhkphdolbeaaDoorGeSet
import Derived.Test.YtdmlhkphdolbeaaDoorGeLaw1
import Derived.Test.YtdmlhkphdolbeaaDoorGeOwn
import Derived.Test.YtdmlhkphdolbeaaDoorShelf
import Derived.Deep.RegionHeldLaw
namespace Go.Proofs.YtdmlhkphdolbeaaDoor
open Go.RowKit Go.Lib
section
variable {w w' : World} {v : Value} {L B M : Nat}
theorem join_cuts (o : OkX L B M) {s : ByteArray} {D : Nat} (hT : TS D v (cuts L B M s) w) (hs : s.size ≤ 3000) : Calls Tryd.prog 19 #[v, .string ⟨#[]⟩] w fun e w' => e = .returned (.string s) ∧ Below w.heap.size w w' := by
  have hn := cuts_len (L := L) (B := B) (M := M) s
  have hj := cuts_join o s.size s (Nat.le_refl _)
  have hl : s.data.toList.length = s.size := by simp
  obtain ⟨a, c, e1, hA⟩ := hT.tr
  obtain ⟨_, ⟨e2, h2⟩ | ⟨g, cap, cur, e2, _, _, hcap, _⟩⟩ := hT.own
  · have e3 := List.length_eq_zero_iff.1 h2
    rw [e3] at hj
    have e0 : s = ⟨#[]⟩ := ba_ext hj.symm
    rw [e2, e0]
    exact (Tryd.strings_Join_none none 0 ⟨#[]⟩ w).mono fun _ _ ⟨he, hw⟩ => ⟨he, by rw [hw]; exact Below.refl _ _⟩
  · rw [e2] at e1 ⊢
    rcases hA with h | ⟨g', o', rfl, hg, hC⟩
    · rw [h] at hj ⊢
      have e0 : s = ⟨#[]⟩ := ba_ext hj.symm
      rw [e0]
      exact (Tryd.strings_Join_none _ _ ⟨#[]⟩ w).mono fun _ _ ⟨he, hw⟩ => ⟨he, by rw [hw]; exact Below.refl _ _⟩
    · simp only [Value.slice.injEq, Option.some.injEq, Addr.mk.injEq] at e1
      obtain ⟨⟨rfl, rfl, _⟩, _, rfl⟩ := e1
      refine (Tryd.strings_Join g 0 _ (cuts L B M s) ⟨#[]⟩ w hC hg (by omega) hcap (by rw [show (⟨#[]⟩ : ByteArray).data.toList = [] from rfl, hj]; omega)).mono fun _ _ ⟨he, hw⟩ => ⟨?_, hw⟩
      rw [he, show (⟨#[]⟩ : ByteArray).data.toList = [] from rfl, hj]
theorem sl_from {s : ByteArray} {a : Nat} (h1 : a ≤ s.size) (w : World) : (Instr.slice 9 (.string s) (some (.int .i64 (a : Int))) none none).run Tryd.prog w = .ok (.string (s.extract a s.size)) w := by
  have c1 : (a : Int) ≤ (s.size : Int) := by omega
  simp [go_sem, Tryd.underlying9, c1]
end
set_option maxRecDepth 100000 in
set_option maxHeartbeats 3200000 in
theorem parts11 {w : World} (hl : Lm w) (x y z : Int) (s : ByteArray) (hs : s.size ≤ 4611686018427387904) : Calls Tryd.prog 4 #[.agg #[.int .i64 x, .int .i64 y, .int .i64 z], .string s] w fun e w' => e = .returned (.bool true) ∧ Below w.heap.size w w' := by
  obtain ⟨w1, hw1⟩ : ∃ w1, w.alloc (.cells #[.int .i64 x, .int .i64 y, .int .i64 z] 42) = w1 := ⟨_, rfl⟩
  have hb1 : Below w.heap.size w w1 := by rw [← hw1]; exact (Below.refl _ _).alloc (Nat.le_refl _) _
  have k1 : w1.heap[w.heap.size]? = some (.cells #[.int .i64 x, .int .i64 y, .int .i64 z] 42 (0, 0)) := by rw [← hw1]; exact heap_alloc_new w _
  have HSU : Hid (∀ wx, Calls Tryd.prog 18 #[.agg #[.int .i64 x, .int .i64 y, .int .i64 z]] wx fun e w' => e = .returned (.agg #[.int .i64 ((1 + amg x 30 : Nat) : Int), .int .i64 ((1 + amg y 8 : Nat) : Int), .int .i64 ((1 + amg x 30 + amg z 100 : Nat) : Int)]) ∧ Below wx.heap.size wx w') := fun wx => setup_any x y z
  have HO := hide (setup_ok x y z)
  generalize 1 + amg x 30 + amg z 100 = M at *
  generalize 1 + amg x 30 = L at *
  generalize 1 + amg y 8 = Bi at *
  have HL1 := hide (hl.bel hb1)
  have H1 := hide (And.intro hb1 k1)
  clear hl hb1 k1
  by_cases h1k : 3000 < s.size
  · have x1 : (3000 : Int) < (s.size : Int) := by omega
    go_enter Tryd.func4, Tryd.ntmps4
    go_wp2_with fail
    refine (works11 HL1.out).mono ?_
    rintro _ w2 ⟨rfl, hb2⟩
    have HB2 := hide hb2
    clear hb2
    go_wp2
    go_ret
    exact ⟨rfl, below_step H1.out.1 HB2.out⟩
  have x1 : ¬ (3000 : Int) < (s.size : Int) := by omega
  go_enter Tryd.func4, Tryd.ntmps4
  go_wp2_with fail
  refine (works11 HL1.out).mono ?_
  rintro _ wr ⟨rfl, hb⟩
  have HB := hide hb
  clear hb
  have k4 := (HB.out.block _ (lt_of_block H1.out.2)).trans H1.out.2
  obtain ⟨y0, y1, y2⟩ := cell3 k4
  clear k4
  go_wp2_with fail
  refine (HSU.out wr).mono ?_
  rintro _ w5 ⟨rfl, hb5⟩
  obtain ⟨w6, hw6⟩ : ∃ w6, w5.alloc (.cells #[.int .i64 (L : Int), .int .i64 (Bi : Int), .int .i64 (M : Int)] 23) = w6 := ⟨_, rfl⟩
  have hb6 : Below w5.heap.size w5 w6 := by rw [← hw6]; exact (Below.refl _ _).alloc (Nat.le_refl _) _
  have k6 : w6.heap[w5.heap.size]? = some (.cells #[.int .i64 (L : Int), .int .i64 (Bi : Int), .int .i64 (M : Int)] 23 (0, 0)) := by rw [← hw6]; exact heap_alloc_new w5 _
  obtain ⟨z0, z1, z2⟩ := cell3 k6
  have hb16 := below_step HB.out (below_step hb5 hb6)
  have HB6 := hide (And.intro hb16 (And.intro (HL1.out.bel hb16) k6))
  clear hb5 hb6 k6 hb16
  go_wp2_with fail
  refine (chunks_ok HO.out HB6.out.2.1 (s := s) (by omega)).mono ?_
  rintro _ w7 ⟨lv, rfl, hT7, hb7⟩
  have HB7 := hide (And.intro hb7 hT7)
  clear hb7 hT7
  go_wp2_with fail
  refine (join_cuts HO.out HB7.out.2 (by omega)).mono ?_
  rintro _ w8 ⟨rfl, hb8⟩
  obtain ⟨n, hn⟩ : ∃ n, (cuts L Bi M s).length = n := ⟨_, rfl⟩
  have hns : n ≤ 3000 := by rw [← hn]; exact Nat.le_trans (cuts_len _) (by omega)
  have k8 := (hb8.block _ (Nat.lt_of_lt_of_le (lt_of_block HB6.out.2.2) HB7.out.1.size)).trans ((HB7.out.1.block _ (lt_of_block HB6.out.2.2)).trans HB6.out.2.2)
  have HT8 := hide (HB7.out.2.keep hb8).tr
  have HN := hide hn
  have hb18 := below_step (below_step H1.out.1 HB6.out.1) (below_step HB7.out.1 hb8)
  have HB8 := hide (And.intro hb18 (And.intro (HB6.out.2.1.bel (below_step HB7.out.1 hb8)) k8))
  obtain ⟨la, lc, hlv⟩ := (HB7.out.2.keep hb8).shp
  rw [hn] at hlv
  subst hlv
  clear hb8 hb18 k8 hn z0 z1 z2
  go_wp2
  go_loopw [8, 36] (fun a i wr => ∃ p k : Nat, a = .int .i64 p ∧ i = .int .i64 k ∧ p ≤ s.size ∧ k ≤ n ∧ (cuts L Bi M s).drop k = cuts L Bi M (s.extract p s.size) ∧ Below w8.heap.size w8 wr) (fun _ i _ => n - (Go.RowKit.intOf i).toNat)
  case atStart => exact ⟨0, 0, rfl, rfl, Nat.zero_le _, Nat.zero_le _, by rw [ex_all]; rfl, Below.refl _ _⟩
  case round =>
    obtain ⟨p, k, rfl, rfl, hp, hk, hd, hb⟩ := hrel
    by_cases hlt : k < n
    · obtain ⟨c, hc⟩ : ∃ c, (cuts L Bi M s)[k]? = some c := ⟨_, List.getElem?_eq_getElem (by rw [HN.out]; exact hlt)⟩
      obtain ⟨a1, a2, a3, a4, a5, a6⟩ := step_at HO.out hp hd hc
      have h6 : k + 1 < n → L ≤ c.size := fun hk1 => by
        apply Classical.byContradiction
        intro hcl
        rw [a6 (by omega), cuts_nil (s := s.extract s.size s.size) (by rw [ByteArray.size_extract]; omega), List.drop_eq_nil_iff, HN.out] at a4
        omega
      obtain ⟨a', c', e1, hA⟩ := HT8.out
      obtain ⟨g, o, ea, hg, hC⟩ := hA.resolve_left (by intro e; rw [e] at hc; simp at hc)
      simp only [Value.slice.injEq] at e1
      obtain ⟨rfl, -, rfl⟩ := e1
      subst ea
      have KF : Hid (∀ (u v : Value) wx, u = .agg #[.int .i64 (L : Int), .int .i64 (Bi : Int), .int .i64 (M : Int)] → v = .string (s.extract p s.size) → Below w8.heap.size w8 wx → Calls Tryd.prog 10 #[u, v] wx fun e wy => e = .returned (.tuple #[.int .i64 (c.size : Int), .int .i64 0]) ∧ Below w8.heap.size w8 wy ∧ wy.cell? ⟨w5.heap.size, 0, none⟩ = some (.int .i64 (L : Int)) ∧ wy.cell? ⟨w5.heap.size, 1, none⟩ = some (.int .i64 (Bi : Int)) ∧ wy.cell? ⟨w5.heap.size, 2, none⟩ = some (.int .i64 (M : Int))) := fun u v wx hu hv h => by
        subst hu hv
        have hf := first_any (HB8.out.2.1.bel h) L Bi M (s.extract p s.size) (by rw [ByteArray.size_extract]; omega)
        rw [firstA, ck_ok HO.out, if_pos rfl, Int.toNat_natCast, Int.toNat_natCast, Int.toNat_natCast, ← a1] at hf
        exact hf.mono fun _ _ ⟨he, hh⟩ => ⟨he, below_step h hh, cell3 (((below_step h hh).block _ (lt_of_block HB8.out.2.2)).trans HB8.out.2.2)⟩
      have c0 := (hb.cell (p := ⟨g, o + k, none⟩) hg).trans (hC k c hc)
      obtain ⟨s0, s1, s2⟩ := cell3 ((hb.block _ (lt_of_block HB8.out.2.2)).trans HB8.out.2.2)
      have HR : Hid ((Below w8.heap.size w8 wr ∧ wr.cell? ⟨w5.heap.size, 0, none⟩ = some (.int .i64 (L : Int)) ∧ wr.cell? ⟨w5.heap.size, 1, none⟩ = some (.int .i64 (Bi : Int)) ∧ wr.cell? ⟨w5.heap.size, 2, none⟩ = some (.int .i64 (M : Int))) ∧ (Below w8.heap.size w8 wr.drew ∧ wr.drew.cell? ⟨w5.heap.size, 0, none⟩ = some (.int .i64 (L : Int)) ∧ wr.drew.cell? ⟨w5.heap.size, 1, none⟩ = some (.int .i64 (Bi : Int)) ∧ wr.drew.cell? ⟨w5.heap.size, 2, none⟩ = some (.int .i64 (M : Int)))) := ⟨⟨hb, s0, s1, s2⟩, ⟨hb.drew, s0, s1, s2⟩⟩
      have rs := fun wx => sl_from hp wx
      have b1 : (k : Int) < (n : Int) := by omega
      have b0 : (0 : Int) ≤ (k : Int) := by omega
      have p0 : (0 : Int) ≤ (p : Int) := by omega
      have p1 : (p : Int) ≤ (s.size : Int) := by omega
      have A4 := hide (And.intro a3 (And.intro a4 HN.out))
      have n1 : c.toList.isEmpty = false := by
        rw [bytes_list]
        exact List.isEmpty_eq_false_iff.2 (fun e => by have h9 : c.size = 0 := (by have := congrArg List.length e; simpa using this); omega)
      have n2 : ¬ c.toList = [] := fun e => by rw [e] at n1; cases n1
      have m1 : ¬ (M : Int) < (c.size : Int) := by omega
      have m2 : decide ((M : Int) < (c.size : Int)) = false := by simpa using m1
      have H6 := hide h6
      clear a1 a2 a3 a4 a5 a6 h6 hd hC hg hA hc hb
      go_upto_region 13 with fail
      go_region_held_law (fun wx => Below w8.heap.size w8 wx ∧ wx.cell? ⟨w5.heap.size, 0, none⟩ = some (.int .i64 (L : Int)) ∧ wx.cell? ⟨w5.heap.size, 1, none⟩ = some (.int .i64 (Bi : Int)) ∧ wx.cell? ⟨w5.heap.size, 2, none⟩ = some (.int .i64 (M : Int))) (first | assumption | exact ⟨by assumption, by assumption, by assumption, by assumption⟩ | with_reducible exact HR.out.1 | with_reducible exact HR.out.2)
        (first | (go_at_call 10; refine Calls.mono (KF.out _ _ _ (by with_reducible rfl) (by with_reducible rfl) (by first | assumption | with_reducible exact HR.out.1.1 | with_reducible exact HR.out.2.1)) ?_; rintro e w9 ⟨rfl, hw9, t0, t1, t2⟩))
      have HB9 := hide hw9
      have m3 : ((c.size : Int) == (c.size : Int)) = true := by simp
      have e1 : IntKind.i64.wrap ((n : Int) - 1) = (n : Int) - 1 := by rw [IntKind.wrap_i64]; omega
      have e2 : IntKind.i64.wrap ((p : Int) + (c.size : Int)) = (p : Int) + (c.size : Int) := by have := A4.out.1; rw [IntKind.wrap_i64]; omega
      clear hw9
      by_cases hk1 : k + 1 < n
      · have f1 : (k : Int) < (n : Int) - 1 := by omega
        have f2 : ¬ (c.size : Int) < (L : Int) := by have := H6.out hk1; omega
        have f3 : decide ((k : Int) < (n : Int) - 1) = true := by simpa using f1
        have f4 : decide ((c.size : Int) < (L : Int)) = false := by simpa using f2
        go_wp2
        exact ⟨⟨p + c.size, k + 1, by go_num, by go_num, A4.out.1, by omega, A4.out.2.1, HB9.out⟩, by simp [Go.RowKit.intOf]; omega⟩
      · have f1 : ¬ (k : Int) < (n : Int) - 1 := by omega
        have f3 : decide ((k : Int) < (n : Int) - 1) = false := by simpa using f1
        go_wp2
        exact ⟨⟨p + c.size, k + 1, by go_num, by go_num, A4.out.1, by omega, A4.out.2.1, HB9.out⟩, by simp [Go.RowKit.intOf]; omega⟩
    · obtain rfl : k = n := by omega
      have HB := hide (below_step HB8.out.1 hb)
      clear hb hd
      go_wp2
      go_ret
      exact ⟨rfl, HB.out⟩
end Go.Proofs.YtdmlhkphdolbeaaDoor
