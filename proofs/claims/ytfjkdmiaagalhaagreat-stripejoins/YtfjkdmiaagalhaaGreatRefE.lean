/-
  The contracts of the document's own zero, One and Cauchy, and of lists that are the same.
-/
import Derived.Test.YtfjkdmiaagalhaaGreatRefA
import Derived.Test.YtfjkdmiaagalhaaGreatCau
import Derived.Test.YtfjkdmiaagalhaaGreatTimes
import Derived.Test.YtfjkdmiaagalhaaGreatRefB
import Derived.Test.YtfjkdmiaagalhaaGreatSys
namespace Go.Proofs.YtfjkdmiaagalhaaGreat
open Go.RowKit Go.Lib

set_option maxRecDepth 100000 in
set_option maxHeartbeats 800000 in
theorem refOne_ok (w : World) (n : Nat) (h1 : 1 ≤ n) (h2 : n ≤ 255) : Calls Tryz.prog 42 #[.int .i64 n] w fun e w' => ∃ g, e = .returned (.tuple #[.agg #[.int .i64 n, .int .i64 n, .slice (some ⟨g, 0, none⟩) (n * n) (n * n)], .int .i64 0]) ∧ KB w' g (n * n) (flat n dl) ∧ w.heap.size ≤ g ∧ Below w.heap.size w w' := by
  have hnn : n * n ≤ 255 * 255 := Nat.mul_le_mul h2 h2
  obtain ⟨N, hN⟩ : ∃ N, N = n * n := ⟨_, rfl⟩
  have HZ : Hid _ := fun w => refzero_any w n n h2 h2
  rw [← hN] at HZ hnn ⊢
  have HN := hide hN
  clear hN
  have i1 : ¬ (n : Int) < 1 := by omega
  have i2 : ¬ 255 < (n : Int) := by omega
  go_enter Tryz.func42, Tryz.ntmps42
  go_wp2_with fail
  refine Calls.mono (HZ.out _) ?_
  rintro e w1 ⟨g, rfl, hG, hgs, hb⟩
  have hX : Br w1 w.heap.size 0 0 (.slice none 0 0) := Br.below (heap_alloc_new w _) hb (Nat.le_refl _)
  have hb1 : Below w.heap.size w w1 := below_step ((Below.refl _ _).alloc (Nat.le_refl _) _) hb
  have hgs' : w.heap.size ≤ g := Nat.le_trans (by simp) hgs
  clear hgs hb
  have hG2 := hide (hG.alloc (.cells #[.int .i64 n, .int .i64 n, .slice (some ⟨g, 0, none⟩) N N] 57))
  have hX2 := hide (hX.alloc (.cells #[.int .i64 n, .int .i64 n, .slice (some ⟨g, 0, none⟩) N N] 57))
  have hP2 := hide (Br.new w1 n n (.slice (some ⟨g, 0, none⟩) N N))
  have hb2 := hide (below_alloc hb1 (.cells #[.int .i64 n, .int .i64 n, .slice (some ⟨g, 0, none⟩) N N] 57))
  clear hG hX hb1
  go_wp2
  go_loopw [5] (fun i wr => ∃ j : Nat, j ≤ n ∧ i = .int .i64 j ∧ KB wr g N (oneF n j) ∧ Br wr w1.heap.size n n (.slice (some ⟨g, 0, none⟩) N N) ∧ Br wr w.heap.size 0 0 (.slice none 0 0) ∧ Below w.heap.size w wr) (fun i _ => n - (intOf i).toNat)
  case atStart => exact ⟨0, Nat.zero_le _, rfl, hG2.out.congr (fun k _ => by rw [oneF, if_neg (by omega)]), hP2.out, hX2.out, hb2.out⟩
  case round =>
    obtain ⟨j, hj, rfl, hG, hP, hX, hb⟩ := hrel
    by_cases hlt : j < n
    · have p2 := hP.cell2
      obtain ⟨x, hx⟩ : ∃ x, x = j * n := ⟨_, rfl⟩
      have hxi : (j : Int) * (n : Int) = (x : Int) := by rw [← Int.natCast_mul, hx]
      have hxN : x + j < N := by rw [HN.out, hx]; exact at_lt hlt hlt
      have c3 := hG.cell (x + j) hxN
      have z3 := hG.free (x + j)
      have HX := hide hx
      have HG := hide hG
      have HP := hide hP
      have HX1 := hide hX
      have HB := hide hb
      have b0 : (0 : Int) ≤ (x : Int) + (j : Int) := by omega
      have b1 : (x : Int) + (j : Int) < (N : Int) := by omega
      have b2 : ((x : Int) + (j : Int)).toNat = x + j := by omega
      clear hG hP hX hb hx
      go_wp2
      have gs := gb_set wr g (x + j) (.int .i64 1)
      refine ⟨⟨j + 1, by omega, by go_num, ?_, HP.out.of_block (gs.block _ HP.out.lt (by simp; exact HP.out.ne HG.out)), HX1.out.of_block (gs.block _ HX1.out.lt (by simp; exact HX1.out.ne HG.out)), below_gb HB.out gs hgs' HB.out.size⟩, by simp [intOf]; omega⟩
      refine (HG.out.set (x + j) hxN 1).congr (fun k _ => ?_)
      rw [HX.out, oneF_step n j k hlt]
    · obtain rfl : j = n := by omega
      have p0 := hP.cell0
      have p1 := hP.cell1
      have p2 := hP.cell2
      have q0 := hX.cell0
      have q1 := hX.cell1
      have q2 := hX.cell2
      have f0 := hX.free
      have HG := hide hG
      have HX1 := hide hX
      have HB := hide hb
      clear hG hX hb hP
      go_wp2
      obtain ⟨hX5, g5⟩ := HX1.out.put (j : Int) (j : Int) (.slice (some ⟨g, 0, none⟩) N N)
      refine bodyPost_ret (v := .tuple #[.agg #[.int .i64 j, .int .i64 j, .slice (some ⟨g, 0, none⟩) N N], .int .i64 0]) (by simp [results, Tryz.results42, go_sem, hX5.cell0, hX5.cell1, hX5.cell2]) rfl ⟨g, rfl, ?_, hgs', below_gb HB.out g5 (Nat.le_refl _) HB.out.size⟩
      exact (HG.out.of_block (g5.block g HG.out.lt (by simp; exact fun e => HX1.out.ne HG.out e.symm))).congr (fun k hk => oneF_all j k (by rw [← HN.out]; exact hk))
set_option maxRecDepth 100000 in
theorem refOne_bad (w : World) (n : Int) (h : isSd n = false) : Calls Tryz.prog 42 #[.int .i64 n] w fun e w' => e = .returned (.tuple #[.agg #[.int .i64 0, .int .i64 0, .slice none 0 0], .int .i64 1]) ∧ Below w.heap.size w w' := by
  have h' : n < 1 ∨ 255 < n := by simp [isSd] at h; omega
  clear h
  rcases h' with h | h
  · go_enter Tryz.func42, Tryz.ntmps42
    go_wp2
    exact bodyPost_ret (v := .tuple #[.agg #[.int .i64 0, .int .i64 0, .slice none 0 0], .int .i64 1]) (by simp [results, Tryz.results42, go_sem]) rfl ⟨rfl, (Below.refl _ _).alloc (Nat.le_refl _) _⟩
  · have h2 : ¬ n < 1 := by omega
    go_enter Tryz.func42, Tryz.ntmps42
    go_wp2
    exact bodyPost_ret (v := .tuple #[.agg #[.int .i64 0, .int .i64 0, .slice none 0 0], .int .i64 1]) (by simp [results, Tryz.results42, go_sem]) rfl ⟨rfl, (Below.refl _ _).alloc (Nat.le_refl _) _⟩

end Go.Proofs.YtfjkdmiaagalhaaGreat

namespace Go.Proofs.YtfjkdmiaagalhaaGreat
open Go.RowKit Go.Lib

/-- What is told of a matrix, in plain data. -/
structure MD where
  r : Int
  c : Int
  n : Nat
  Z : Nat → Int
  e : Int
def badD (e : Int) : MD := ⟨0, 0, 0, fun _ => 0, e⟩
theorem NX.nil (w : World) (f : Nat) (Z : Nat → Int) : NX w f (.slice none 0 0) 0 Z := ⟨none, 0, rfl, Nat.le_refl _, .inl rfl⟩
def kz (F : Nat → K) : Nat → Int := fun k => (((F k).v : Nat) : Int)
def cauD (k m : Int) : MD := if k < 1 ∨ m < 0 ∨ 255 - m < k then badD 1 else ⟨k + m, k, ((k + m) * k).toNat, kz (flat k.toNat (cauM k.toNat)), 0⟩
def oneD (n : Int) : MD := if isSd n = false then badD 1 else ⟨n, n, (n * n).toNat, kz (flat n.toNat dl), 0⟩

theorem cauchy_any {w : World} {sb f : Nat} (hS : SP w sb f) (k m : Int) (hm : m ≤ 9223372036854775807) :
    Calls Tryz.prog 14 #[.pointer (some ⟨sb, 0, none⟩), .int .i64 k, .int .i64 m] w fun e w' => ∃ v, e = .returned (.tuple #[.agg #[.int .i64 (cauD k m).r, .int .i64 (cauD k m).c, v], .int .i64 (cauD k m).e]) ∧ NX w' f v (cauD k m).n (cauD k m).Z ∧ SP w' sb f ∧ w.grownBy w' (some f) := by
  by_cases h : k < 1 ∨ m < 0 ∨ 255 - m < k
  · rw [cauD, if_pos h]
    refine (cauchy_bad k m hm h).mono ?_
    rintro e w' ⟨rfl, hb⟩
    exact ⟨_, rfl, NX.nil _ _ _, hS.below hb (Nat.le_refl _), gb_below hb _⟩
  · rw [cauD, if_neg h]
    obtain ⟨k', rfl⟩ : ∃ k' : Nat, k = k' := ⟨k.toNat, by omega⟩
    obtain ⟨m', rfl⟩ : ∃ m' : Nat, m = m' := ⟨m.toNat, by omega⟩
    refine (cauchy_ok hS (k := k') (m := m') (by omega) (by omega)).mono ?_
    rintro e w' ⟨g, rfl, hG, _, hS', hgr⟩
    refine ⟨.slice (some ⟨g, 0, none⟩) ((k' + m') * k') ((k' + m') * k'), ?_, ?_, hS', hgr⟩
    · simp
    · have := hG.nx (Nat.le_refl _) (hS'.kne hG)
      have e : (((k' : Int) + (m' : Int)) * (k' : Int)).toNat = (k' + m') * k' := by rw [← Int.natCast_add, ← Int.natCast_mul, Int.toNat_natCast]
      simp only [e, Int.toNat_natCast]
      exact this
theorem refCauchy_any {w : World} {f : Nat} (hf : f < w.heap.size) (k m : Int) :
    Calls Tryz.prog 16 #[.int .i64 k, .int .i64 m] w fun e w' => ∃ v, e = .returned (.tuple #[.agg #[.int .i64 (cauD k m).r, .int .i64 (cauD k m).c, v], .int .i64 (cauD k m).e]) ∧ NX w' f v (cauD k m).n (cauD k m).Z ∧ Below w.heap.size w w' := by
  by_cases h : k < 1 ∨ m < 0 ∨ 255 - m < k
  · rw [cauD, if_pos h]
    refine (refCauchy_bad k m h).mono ?_
    rintro e w' ⟨rfl, hb⟩
    exact ⟨_, rfl, NX.nil _ _ _, hb⟩
  · rw [cauD, if_neg h]
    obtain ⟨k', rfl⟩ : ∃ k' : Nat, k = k' := ⟨k.toNat, by omega⟩
    obtain ⟨m', rfl⟩ : ∃ m' : Nat, m = m' := ⟨m.toNat, by omega⟩
    refine (refCauchy_ok (k := k') (m := m') (by omega) (by omega)).mono ?_
    rintro e w' ⟨g, rfl, hG, hgs, hb⟩
    refine ⟨.slice (some ⟨g, 0, none⟩) ((k' + m') * k') ((k' + m') * k'), ?_, ?_, hb⟩
    · simp
    · have := hG.nx (f := f) (Nat.le_refl _) (by omega)
      have e : (((k' : Int) + (m' : Int)) * (k' : Int)).toNat = (k' + m') * k' := by rw [← Int.natCast_add, ← Int.natCast_mul, Int.toNat_natCast]
      simp only [e, Int.toNat_natCast]
      exact this
theorem one_any {w : World} {f : Nat} (hf : f < w.heap.size) (n : Int) :
    Calls Tryz.prog 28 #[.int .i64 n] w fun e w' => ∃ v, e = .returned (.tuple #[.agg #[.int .i64 (oneD n).r, .int .i64 (oneD n).c, v], .int .i64 (oneD n).e]) ∧ NX w' f v (oneD n).n (oneD n).Z ∧ Below w.heap.size w w' := by
  cases h : isSd n
  · rw [oneD, if_pos h]
    refine (one_bad w n h).mono ?_
    rintro e w' ⟨rfl, hb⟩
    exact ⟨_, rfl, NX.nil _ _ _, hb⟩
  · rw [oneD, if_neg (by simp [h])]
    obtain ⟨n', rfl, h1, h2⟩ := isSd_out h
    refine (one_ok w n' h1 h2).mono ?_
    rintro e w' ⟨g, rfl, hG, hgs, hb⟩
    refine ⟨.slice (some ⟨g, 0, none⟩) (n' * n') (n' * n'), by simp, ?_, hb⟩
    have := hG.nx (f := f) (Nat.le_refl _) (by omega)
    have e : ((n' : Int) * (n' : Int)).toNat = n' * n' := by rw [← Int.natCast_mul, Int.toNat_natCast]
    simp only [e, Int.toNat_natCast]
    exact this
theorem refOne_any {w : World} {f : Nat} (hf : f < w.heap.size) (n : Int) :
    Calls Tryz.prog 42 #[.int .i64 n] w fun e w' => ∃ v, e = .returned (.tuple #[.agg #[.int .i64 (oneD n).r, .int .i64 (oneD n).c, v], .int .i64 (oneD n).e]) ∧ NX w' f v (oneD n).n (oneD n).Z ∧ Below w.heap.size w w' := by
  cases h : isSd n
  · rw [oneD, if_pos h]
    refine (refOne_bad w n h).mono ?_
    rintro e w' ⟨rfl, hb⟩
    exact ⟨_, rfl, NX.nil _ _ _, hb⟩
  · rw [oneD, if_neg (by simp [h])]
    obtain ⟨n', rfl, h1, h2⟩ := isSd_out h
    refine (refOne_ok w n' h1 h2).mono ?_
    rintro e w' ⟨g, rfl, hG, hgs, hb⟩
    refine ⟨.slice (some ⟨g, 0, none⟩) (n' * n') (n' * n'), by simp, ?_, hb⟩
    have := hG.nx (f := f) (Nat.le_refl _) (by omega)
    have e : ((n' : Int) * (n' : Int)).toNat = n' * n' := by rw [← Int.natCast_mul, Int.toNat_natCast]
    simp only [e, Int.toNat_natCast]
    exact this
theorem cauD_n (k m : Int) : (cauD k m).n ≤ 140737488355328 := by
  unfold cauD
  split
  · exact Nat.zero_le _
  · obtain ⟨k', rfl⟩ : ∃ k' : Nat, k = k' := ⟨k.toNat, by omega⟩
    obtain ⟨m', rfl⟩ : ∃ m' : Nat, m = m' := ⟨m.toNat, by omega⟩
    have : (k' + m') * k' ≤ 255 * 255 := Nat.mul_le_mul (by omega) (by omega)
    show (((k' : Int) + (m' : Int)) * (k' : Int)).toNat ≤ _
    rw [← Int.natCast_add, ← Int.natCast_mul, Int.toNat_natCast]
    omega
theorem oneD_n (n : Int) : (oneD n).n ≤ 140737488355328 := by
  cases h : isSd n
  · rw [oneD, if_pos h]; exact Nat.zero_le _
  · rw [oneD, if_neg (by simp [h])]
    obtain ⟨n', rfl, h1, h2⟩ := isSd_out h
    have : n' * n' ≤ 255 * 255 := Nat.mul_le_mul h2 h2
    show ((n' : Int) * (n' : Int)).toNat ≤ _
    rw [← Int.natCast_mul, Int.toNat_natCast]
    omega

theorem one_cells (t : Nat) (ht : t < 2) : flat 1 (cauM 1) t = 1 := by
  have : t = 0 ∨ t = 1 := by omega
  rcases this with rfl | rfl
  · rfl
  · apply K.ext; decide +kernel
theorem Br.grown {w w' : World} {b f : Nat} {r c : Int} {v : Value} (h : Br w b r c v) (hg : w.grownBy w' (some f)) (hf : b ≠ f) : Br w' b r c v := h.of_block (hg.block b h.lt (by simpa using hf))
theorem Bx.grown {w w' : World} {b f : Nat} {r c : Int} {v : Value} (h : Bx w b r c v) (hg : w.grownBy w' (some f)) (hf : b ≠ f) : Bx w' b r c v := h.of_block (hg.block b h.lt (by simpa using hf))

end Go.Proofs.YtfjkdmiaagalhaaGreat

namespace Go.Proofs.YtfjkdmiaagalhaaGreat
open Go.RowKit Go.Lib

set_option maxRecDepth 100000 in
theorem at_any {w : World} {f n : Nat} {v : Value} {Z : Nat → Int} {r : Int} {c i j x : Nat} (h : NX w f v n Z) (hx : x = i * c + j) (hlt : x < n) (hb : x < 1000000) (hj : j < 1000000) :
    Calls Tryz.prog 40 #[.agg #[.int .i64 r, .int .i64 c, v], .int .i64 i, .int .i64 j] w fun e w' => e = .returned (.int .i64 (Z x)) ∧ Below w.heap.size w w' := by
  have h1 := h.alloc (.cells #[.int .i64 r, .int .i64 c, v] 57)
  obtain ⟨bl, off, cp, rfl, hc, _, _⟩ := h.at (by omega)
  have c1 := h1.cell_at x hlt
  clear h h1
  obtain ⟨y, hy⟩ : ∃ y, y = i * c := ⟨_, rfl⟩
  have hm : (i : Int) * (c : Int) = (y : Int) := by rw [← Int.natCast_mul, hy]
  rw [← hy] at hx
  clear hy
  have hs : (y : Int) + (j : Int) = (x : Int) := by omega
  have b0 : (0 : Int) ≤ (x : Int) := by omega
  have b1 : (x : Int) < (n : Int) := by omega
  have b2 : y ≤ 1000000 := by omega
  clear hx
  go_enter Tryz.func40, Tryz.ntmps40
  go_wp2
  go_ret
  exact ⟨rfl, (Below.refl _ _).alloc (Nat.le_refl _) _⟩

set_option maxRecDepth 100000 in
set_option maxHeartbeats 800000 in
theorem refCheck_any {w : World} {f n : Nat} {v : Value} {Z : Nat → Int} {r c : Int} (h : NX w f v n Z) (hn : n ≤ 140737488355328) :
    Calls Tryz.prog 39 #[.agg #[.int .i64 r, .int .i64 c, v]] w fun e w' => e = .returned (.int .i64 (chk r c n Z)) ∧ Below w.heap.size w w' := by
  have h1 := h.alloc (.cells #[.int .i64 r, .int .i64 c, v] 57)
  have X1 := Br.new w r c v
  obtain ⟨a, cp, rfl, _⟩ := h
  have H : Hid _ := h1
  have hB := hide (below_alloc (Below.refl w.heap.size w) (.cells #[.int .i64 r, .int .i64 c, .slice a n cp] 57))
  clear h1
  cases er : isSd r
  · rw [chk, if_pos er]
    have h' : r < 1 ∨ 255 < r := by simp [isSd] at er; omega
    clear er X1
    rcases h' with h | h
    · go_enter Tryz.func39, Tryz.ntmps39
      go_wp2
      go_ret
      exact ⟨rfl, hB.out⟩
    · have h2 : ¬ r < 1 := by omega
      go_enter Tryz.func39, Tryz.ntmps39
      go_wp2
      go_ret
      exact ⟨rfl, hB.out⟩
  have er' := er
  obtain ⟨r', hr', r1, r2⟩ := isSd_out er
  have e1 : ¬ r < 1 := by omega
  have e2 : ¬ 255 < r := by omega
  cases ec : isSd c
  · rw [chk, if_neg (by simp [er]), if_pos ec]
    have h' : c < 1 ∨ 255 < c := by simp [isSd] at ec; omega
    clear ec er er' X1 hr'
    rcases h' with h | h
    · go_enter Tryz.func39, Tryz.ntmps39
      go_wp2
      go_ret
      exact ⟨rfl, hB.out⟩
    · have h2 : ¬ c < 1 := by omega
      go_enter Tryz.func39, Tryz.ntmps39
      go_wp2
      go_ret
      exact ⟨rfl, hB.out⟩
  obtain ⟨c', hc', c1, c2⟩ := isSd_out ec
  have e3 : ¬ c < 1 := by omega
  have e4 : ¬ 255 < c := by omega
  have hrc : r' * c' ≤ 255 * 255 := Nat.mul_le_mul r2 c2
  obtain ⟨m, hm⟩ : ∃ m, m = r' * c' := ⟨_, rfl⟩
  have hm1 : r * c = (m : Int) := by rw [hr', hc', ← Int.natCast_mul, hm]
  rw [← hm] at hrc
  rw [chk, if_neg (by simp [er]), if_neg (by simp [ec])]
  clear er er' ec
  by_cases hnm : n = m
  · subst hnm
    rw [if_neg (by simp [hm1])]
    obtain ⟨res, hres⟩ : ∃ res : Int, res = if upB 255 Z n = false then 1 else 0 := ⟨_, rfl⟩
    rw [← hres]
    have HR := hide hres
    have x2 := X1.cell2
    have hbl : w.heap.size < (w.alloc (.cells #[.int .i64 r, .int .i64 c, .slice a n cp] 57)).heap.size := by simp
    clear hm hr' hc' hres X1
    go_enter Tryz.func39, Tryz.ntmps39
    go_wp2
    go_loop [3] (fun z => ∃ j : Nat, j ≤ n ∧ z = .int .i64 j ∧ upB 255 Z j = true) (fun z => n - (RowKit.intOf z).toNat)
    case atStart => exact ⟨0, Nat.zero_le _, rfl, rfl⟩
    case round =>
      obtain ⟨j, hj, rfl, hup⟩ := hrel
      have HU := hide hup
      clear hup
      by_cases hlt : j < n
      · obtain ⟨bl, off, cp', he, _, _, _⟩ := NX.at H.out (by omega)
        simp only [Value.slice.injEq, true_and] at he
        obtain ⟨rfl, rfl⟩ := he
        have cj := NX.cell_at H.out j hlt
        have b0 : (0 : Int) ≤ (j : Int) := by omega
        have b1 : (j : Int) < (n : Int) := by omega
        by_cases z1 : Z j < 0
        · have hr1 : res = 1 := by rw [HR.out, upB_false 255 Z n j hlt (by simp; omega)]; rfl
          subst hr1
          clear HR
          go_wp2
          go_ret
          exact ⟨rfl, hB.out⟩
        by_cases z2 : 255 < Z j
        · have hr1 : res = 1 := by rw [HR.out, upB_false 255 Z n j hlt (by simp; omega)]; rfl
          subst hr1
          clear HR
          go_wp2
          go_ret
          exact ⟨rfl, hB.out⟩
        have HO : Hid (upB 255 Z (j + 1) = true) := by
          show _ = _
          rw [upB_succ, HU.out, show (decide (0 ≤ Z j) && decide (Z j ≤ 255)) = true by simp; omega]; rfl
        go_wp2
        exact ⟨⟨j + 1, by omega, by go_num, HO.out⟩, by simp [RowKit.intOf]; omega⟩
      · obtain rfl : j = n := by omega
        have hr0 : res = 0 := by rw [HR.out, HU.out]; rfl
        subst hr0
        clear HR
        go_wp2
        go_ret
        exact ⟨rfl, hB.out⟩
  · rw [if_pos (by rw [hm1]; omega)]
    have hne : ((n : Int) != (m : Int)) = true := by simp; omega
    clear hm hr' hc' hnm X1
    go_enter Tryz.func39, Tryz.ntmps39
    go_wp2
    go_ret
    exact ⟨rfl, hB.out⟩
end Go.Proofs.YtfjkdmiaagalhaaGreat

namespace Go.Proofs.YtfjkdmiaagalhaaGreat
open Go.RowKit Go.Lib

/-- What turns no block but one that is not the box. -/
theorem Br.gb {w w' : World} {b g : Nat} {r c : Int} {v : Value} (h : Br w b r c v) (hg : w.grownBy w' (some g)) (hne : b ≠ g) : Br w' b r c v := h.of_block (hg.block b h.lt (by simpa using hne))

set_option maxRecDepth 100000 in
theorem lead_any {w : World} {g r c a j cp k : Nat} {M : Mt} (hG : KB w g (r * c) (flat c M)) (hk : a + k = r) (hr : r ≤ 255) (hj : j < c) (hc : c ≤ 1000) (hcp : r * c ≤ cp) :
    Calls Tryz.prog 43 #[.agg #[.int .i64 r, .int .i64 c, .slice (some ⟨g, 0, none⟩) (r * c) cp], .int .i64 a, .int .i64 j] w fun e w' =>
      e = .returned (.int .i64 (match lead M j k a with | none => -1 | some n => (n : Int))) ∧ Below w.heap.size w w' := by
  have hNN : r * c ≤ 255 * 1000 := Nat.mul_le_mul hr hc
  obtain ⟨res, hres⟩ : ∃ res : Int, res = (match lead M j k a with | none => -1 | some n => (n : Int)) := ⟨_, rfl⟩
  rw [← hres]
  have QN : Hid (∀ i, i < r → i * c + j < r * c) := fun i hi => at_lt hi hj
  have X1 := Br.new w r c (.slice (some ⟨g, 0, none⟩) (r * c) cp)
  have G1 := hG.alloc (.cells #[.int .i64 r, .int .i64 c, .slice (some ⟨g, 0, none⟩) (r * c) cp] 57)
  have L1 := below_alloc (Below.refl w.heap.size w) (.cells #[.int .i64 r, .int .i64 c, .slice (some ⟨g, 0, none⟩) (r * c) cp] 57)
  generalize r * c = N at *
  have HR := hide hres
  have HI := hide (show KB _ g N (flat c M) ∧ Br _ w.heap.size r c _ ∧ Below w.heap.size w _ from ⟨G1, X1, L1⟩)
  have hgl := hG.lt
  clear hres G1 X1 L1 hG
  go_enter Tryz.func43, Tryz.ntmps43
  go_wp2
  go_loopw [7] (fun z wr => ∃ i : Nat, i ≤ k ∧ z = .int .i64 ((a + i : Nat) : Int) ∧ lead M j k a = lead M j (k - i) (a + i) ∧ KB wr g N (flat c M) ∧ Br wr w.heap.size r c (.slice (some ⟨g, 0, none⟩) N cp) ∧ Below w.heap.size w wr) (fun z _ => r - (RowKit.intOf z).toNat)
  case atStart => exact ⟨0, Nat.zero_le _, rfl, rfl, HI.out⟩
  case round =>
    obtain ⟨i, hi, rfl, hl, KG, XB, LL⟩ := hrel
    clear HI
    obtain ⟨ai, hai⟩ : ∃ ai, ai = a + i := ⟨_, rfl⟩
    rw [← hai] at hl ⊢
    have x0 := XB.cell0
    have x1 := XB.cell1
    have x2 := XB.cell2
    by_cases hlt : i < k
    · have hair : ai < r := by omega
      have hai1 : ai + 1 = a + (i + 1) := by omega
      have HA1 := hide hai1
      have HAI := hide hai
      clear hai hai1
      obtain ⟨d, hd⟩ : ∃ d, k - i = d + 1 := ⟨k - i - 1, by omega⟩
      rw [hd, Go.Proofs.YtfjkdmiaagalhaaGreat.lead] at hl
      have AT : Hid _ := at_any (r := (r : Int)) (c := c) (i := ai) (j := j) (KG.nx (f := g + 1) (c := cp) hcp (by omega)) rfl (QN.out ai hair) (by have := QN.out ai hair; omega) (by omega)
      rw [show (((flat c M (ai * c + j)).v : Nat) : Int) = (((M ai j).v : Nat) : Int) by rw [flat, div_at hj, mod_at hj]] at AT
      have b1 : (ai : Int) < (r : Int) := by omega
      by_cases hz : M ai j = 0
      · rw [if_neg (by simp [hz])] at hl
        have hv : ((((M ai j).v : Nat) : Int) != 0) = false := by rw [hz]; rfl
        have HL := hide hl
        have HK := hide KG
        have HX := hide XB
        have HB := hide LL
        clear hl hz KG XB LL
        generalize M ai j = mij at *
        go_wp2_with fail
        refine Calls.mono AT.out ?_
        rintro e w1 ⟨rfl, q1⟩
        have HI := hide (show KB w1 g N (flat c M) ∧ Br w1 w.heap.size r c _ ∧ Below w.heap.size w w1 from ⟨HK.out.below q1 (Nat.le_refl _), HX.out.below q1 (Nat.le_refl _), below_step HB.out q1⟩)
        clear HK HX HB q1 AT x0 x1 x2
        go_wp2
        exact ⟨⟨i + 1, by omega, by rw [← HA1.out]; go_num, by rw [HL.out, show k - (i + 1) = d by omega, HA1.out], HI.out⟩, by simp [RowKit.intOf]; omega⟩
      · rw [if_pos hz] at hl
        have hv : ((((M ai j).v : Nat) : Int) != 0) = true := by have := K.v_ne hz; simp; omega
        have HL : Hid (res = (ai : Int)) := by show _ = _; rw [HR.out, hl]
        have HB := hide LL
        clear hl hz KG XB LL HR
        generalize M ai j = mij at *
        go_wp2_with fail
        refine Calls.mono AT.out ?_
        rintro e w1 ⟨rfl, q1⟩
        go_wp2
        go_ret
        exact ⟨by rw [HL.out]; rfl, below_step HB.out q1⟩
    · obtain rfl : i = k := by omega
      have HL : Hid (res = -1) := by show _ = _; rw [HR.out, hl, Nat.sub_self]; rfl
      have HB := hide LL
      have b1 : ¬ (ai : Int) < (r : Int) := by omega
      clear hl KG XB LL HR hai
      go_wp2
      go_ret
      exact ⟨by rw [HL.out]; rfl, HB.out⟩
end Go.Proofs.YtfjkdmiaagalhaaGreat

namespace Go.Proofs.YtfjkdmiaagalhaaGreat
open Go.RowKit Go.Lib

/-- A matrix in one block, and the box of its parts. -/
structure MI (w : World) (g N r c cp : Nat) (G : Nat → K) (wr : World) : Prop where
  G : KB wr g N G
  x : Br wr w.heap.size r c (.slice (some ⟨g, 0, none⟩) N cp)
  gr : w.grownBy wr (some g)
theorem MI.below {w : World} {g N r c cp : Nat} {G : Nat → K} {wr w' : World} (h : MI w g N r c cp G wr) (hb : Below wr.heap.size wr w') : MI w g N r c cp G w' :=
  ⟨h.G.below hb (Nat.le_refl _), h.x.below hb (Nat.le_refl _), gb_trans h.gr (gb_below hb _)⟩
theorem MI.set {w : World} {g N r c cp : Nat} {G : Nat → K} {wr : World} (h : MI w g N r c cp G wr) (i : Nat) (hi : i < N) (x : K) : MI w g N r c cp (fun k => if k = i then x else G k) (wr.setCell ⟨g, i, none⟩ (.int .i64 ((x.v : Nat) : Int))) := by
  have gs := gb_set wr g i (.int .i64 ((x.v : Nat) : Int))
  exact ⟨h.G.set i hi x, h.x.of_block (gs.block _ h.x.lt (by simp; exact h.x.ne h.G)), gb_trans h.gr gs⟩
theorem MI.congr {w : World} {g N r c cp : Nat} {G G' : Nat → K} {wr : World} (h : MI w g N r c cp G wr) (e : ∀ t, t < N → G t = G' t) : MI w g N r c cp G' wr := ⟨h.G.congr e, h.x, h.gr⟩
theorem MI.start {w : World} {g N r c cp : Nat} {G : Nat → K} (h : KB w g N G) : MI w g N r c cp G (w.alloc (.cells #[.int .i64 r, .int .i64 c, .slice (some ⟨g, 0, none⟩) N cp] 57)) :=
  ⟨h.alloc _, Br.new _ _ _ _, gb_below (below_alloc (Below.refl _ _) _) _⟩

/-- j columns are done. -/
def colS (M M' : Mt) (j : Nat) : Mt := fun r q => if q < j then M' r q else M r q
theorem colS_at {c i j : Nat} (M M' : Mt) (hj : j < c) : flat c (colS M M' j) (i * c + j) = M i j := by
  unfold flat colS
  rw [div_at hj, mod_at hj, if_neg (Nat.lt_irrefl _)]
theorem colS_zero {c : Nat} (M M' : Mt) (t : Nat) : flat c (colS M M' 0) t = flat c M t := by
  unfold flat colS
  rw [if_neg (Nat.not_lt_zero _)]
theorem colS_all {c n : Nat} (M M' : Mt) (t : Nat) (ht : t < n * c) : flat c (colS M M' c) t = flat c M' t := by
  unfold flat colS
  rw [if_pos (mod_lt' ht)]
theorem colS_step {c i j : Nat} (M M' : Mt) (hj : j < c) (hM : ∀ a, a ≠ i → ∀ q, M' a q = M a q) (t : Nat) : (if t = i * c + j then M' i j else flat c (colS M M' j) t) = flat c (colS M M' (j + 1)) t := by
  unfold flat colS
  by_cases h : t = i * c + j
  · subst h; rw [if_pos rfl, div_at hj, mod_at hj, if_pos (Nat.lt_succ_self _)]
  · rw [if_neg h]
    by_cases h1 : t / c = i
    · have h2 : t % c ≠ j := fun h2 => h (at_eq h1 h2)
      by_cases h3 : t % c < j
      · rw [if_pos h3, if_pos (by omega)]
      · rw [if_neg h3, if_neg (by omega)]
    · rw [hM _ h1]; split <;> split <;> rfl

set_option maxRecDepth 100000 in
set_option maxHeartbeats 1600000 in
theorem scale_any {w : World} {g r c i cp : Nat} {M : Mt} (hG : KB w g (r * c) (flat c M)) (hi : i < r) (hr : r ≤ 255) (hc : c ≤ 1000) (hcp : r * c ≤ cp) (y : K) (M' : Mt) (hM : ∀ a, a ≠ i → ∀ q, M' a q = M a q) (hMi : ∀ q, q < c → M' i q = M i q * y) :
    Calls Tryz.prog 45 #[.agg #[.int .i64 r, .int .i64 c, .slice (some ⟨g, 0, none⟩) (r * c) cp], .int .i64 i, .int .i64 ((y.v : Nat) : Int)] w fun e w' =>
      e = .returned (.tuple #[]) ∧ KB w' g (r * c) (flat c M') ∧ w.grownBy w' (some g) := by
  have hNN : r * c ≤ 255 * 1000 := Nat.mul_le_mul hr hc
  have QN : Hid (∀ j, j < c → i * c + j < r * c) := fun j hj => at_lt hi hj
  have QE : Hid (∀ t, t < r * c → flat c (colS M M' c) t = flat c M' t) := fun t ht => colS_all M M' t ht
  generalize r * c = N at *
  have I0 : MI w g N r c cp (flat c (colS M M' 0)) (w.alloc (.cells #[.int .i64 r, .int .i64 c, .slice (some ⟨g, 0, none⟩) N cp] 57)) := (MI.start hG).congr (fun t _ => (colS_zero M M' t).symm)
  have HI := hide I0
  obtain ⟨x, hx⟩ : ∃ x, x = i * c := ⟨_, rfl⟩
  have hxi : (i : Int) * (c : Int) = (x : Int) := by rw [← Int.natCast_mul, hx]
  have hgl := hG.lt
  have HXX := hide hx
  have HM := hide hM
  have HMI := hide hMi
  clear I0 hG hx hM hMi
  go_enter Tryz.func45, Tryz.ntmps45
  go_wp2
  go_loopw [6] (fun z wr => ∃ j : Nat, j ≤ c ∧ z = .int .i64 j ∧ MI w g N r c cp (flat c (colS M M' j)) wr) (fun z _ => c - (RowKit.intOf z).toNat)
  case atStart => exact ⟨0, Nat.zero_le _, rfl, HI.out⟩
  case round =>
    obtain ⟨j, hj, rfl, I⟩ := hrel
    clear HI
    have m0 := I.x.cell0
    have m1 := I.x.cell1
    have m2 := I.x.cell2
    by_cases hlt : j < c
    · have hxN : x + j < N := by rw [HXX.out]; exact QN.out j hlt
      have hat : flat c (colS M M' j) (x + j) = M i j := by rw [HXX.out]; exact colS_at M M' hlt
      obtain ⟨mij, hmij⟩ : ∃ mij, mij = M i j := ⟨_, rfl⟩
      have R1 : Hid (∀ (v u1 u2 : Value) (w' : World), v = .agg #[.int .i64 r, .int .i64 c, .slice (some ⟨g, 0, none⟩) N cp] → u1 = .int .i64 i → u2 = .int .i64 j → Below wr.heap.size wr w' → Calls Tryz.prog 40 #[v, u1, u2] w' fun e w'' => e = .returned (.int .i64 ((mij.v : Nat) : Int)) ∧ Below wr.heap.size wr w'' ∧ (w''.cell? ⟨w.heap.size, 0, none⟩ = some (.int .i64 r) ∧ w''.cell? ⟨w.heap.size, 1, none⟩ = some (.int .i64 c) ∧ w''.cell? ⟨w.heap.size, 2, none⟩ = some (.slice (some ⟨g, 0, none⟩) N cp)) ∧ w''.cell? ⟨g, x + j, none⟩ = some (.int .i64 ((mij.v : Nat) : Int)) ∧ w''.frozen? ⟨g, x + j, none⟩ = false) := by
        intro v u1 u2 w' h1 h2 h3 hb
        subst h1 h2 h3
        have I1 := I.below hb
        refine (at_any (r := (r : Int)) (c := c) (i := i) (j := j) (I1.G.nx (f := g + 1) (c := cp) hcp (by omega)) rfl (QN.out j hlt) (by have := QN.out j hlt; omega) (by omega)).mono ?_
        rintro e w'' ⟨rfl, q⟩
        have I' := I.below (below_step hb q)
        exact ⟨by rw [← HXX.out, hat, hmij], below_step hb q, ⟨I'.x.cell0, I'.x.cell1, I'.x.cell2⟩, by rw [I'.G.cell _ hxN, hat, hmij], I'.G.free _⟩
      have R2 : Hid (∀ (u1 u2 : Value) (w' : World), u1 = .int .i64 ((mij.v : Nat) : Int) → u2 = .int .i64 ((y.v : Nat) : Int) → Calls Tryz.prog 58 #[u1, u2] w' fun e w'' => e = .returned (.int .i64 (((mij * y).v : Nat) : Int)) ∧ w'' = w') := fun u1 u2 w' h1 h2 => by rw [h1, h2]; exact refTimes_any mij.v y.v mij.lt y.lt w'
      obtain ⟨z, hz⟩ : ∃ z, z = mij * y := ⟨_, rfl⟩
      have FIN : Hid (∀ w', Below wr.heap.size wr w' → MI w g N r c cp (flat c (colS M M' (j + 1))) (w'.setCell ⟨g, x + j, none⟩ (.int .i64 ((z.v : Nat) : Int)))) := by
        intro w' hb
        exact ((I.below hb).set (x + j) hxN z).congr (fun t _ => by rw [HXX.out, hz, hmij, ← HMI.out j hlt]; exact colS_step M M' hlt HM.out t)
      rw [← hz] at R2
      have np := I.x.ne I.G
      have b0 : (0 : Int) ≤ (x : Int) + (j : Int) := by omega
      have b1 : (x : Int) + (j : Int) < (N : Int) := by omega
      have b2 : ((x : Int) + (j : Int)).toNat = x + j := by omega
      have b3 : (j : Int) < (c : Int) := by omega
      have hwb : IntKind.i64.wrap ((i : Int) * (c : Int)) = (x : Int) := by rw [hxi]; exact wraps_i64 _ (by omega) (by omega)
      have hwc : IntKind.i64.wrap ((x : Int) + (j : Int)) = (x : Int) + (j : Int) := wraps_i64 _ (by omega) (by omega)
      have HB0 : Hid (Below wr.heap.size wr wr.drew) := (Below.refl _ _).drew
      clear I hat hmij hz hxi
      go_wp2_with fail
      go_region_held3 (fun w' => w'.cell? ⟨w.heap.size, 0, none⟩ = some (.int .i64 r) ∧ w'.cell? ⟨w.heap.size, 1, none⟩ = some (.int .i64 c) ∧ w'.cell? ⟨w.heap.size, 2, none⟩ = some (.slice (some ⟨g, 0, none⟩) N cp)) (first | assumption | exact ⟨by assumption, by assumption, by assumption⟩ | exact ⟨m0, m1, m2⟩ | exact ⟨(cell_off np).trans (by assumption), (cell_off np).trans (by assumption), (cell_off np).trans (by assumption)⟩)
        (first
          | (go_at_call 40; refine (R1.out _ _ _ _ (by with_reducible rfl) (by with_reducible rfl) (by with_reducible rfl) (by first | assumption | exact HB0.out)).mono ?_; rintro e wa ⟨rfl, ka, ⟨ka1, ka2, ka3⟩, ka4, ka5⟩)
          | (go_at_call 58; refine (R2.out _ _ _ (by with_reducible rfl) (by with_reducible rfl)).mono ?_; rintro e wz ⟨rfl, hwz⟩; subst wz))
      all_goals
        clear R1 R2
        go_wp2
        exact ⟨⟨j + 1, by omega, by go_num, FIN.out _ ka⟩, by simp [RowKit.intOf]; omega⟩
    · obtain rfl : j = c := by omega
      have b1 : ¬ (j : Int) < (j : Int) := by omega
      have HI := hide I
      clear I
      go_wp2
      go_end0
      exact ⟨rfl, HI.out.G.congr (fun t ht => QE.out t ht), HI.out.gr⟩
end Go.Proofs.YtfjkdmiaagalhaaGreat
