/-
  RefE, RefI, RefL: texts of earlier layers, laid over this program.
-/
import Derived.Test.YtklaeocnimkboaaGreatDoorBMat
import Derived.Test.YtklaeocnimkboaaGreatDoorBField
import Derived.Test.YtklaeocnimkboaaGreatDoorBInv
import Derived.Test.YtklaeocnimkboaaGreatDoorBJoin
import Derived.BigQuiet
namespace Go.Proofs.YtklaeocnimkboaaGreatDoor
open Go.RowKit Go.Lib

set_option maxRecDepth 100000 in
set_option maxHeartbeats 800000 in
theorem refOne_ok (w : World) (n : Nat) (h1 : 1 ≤ n) (h2 : n ≤ 255) : Calls Tryz.prog 87 #[.int .i64 n] w fun e w' => ∃ g, e = .returned (.tuple #[.agg #[.int .i64 n, .int .i64 n, .slice (some ⟨g, 0, none⟩) (n * n) (n * n)], .int .i64 0]) ∧ KB w' g (n * n) (flat n dl) ∧ w.heap.size ≤ g ∧ Below w.heap.size w w' := by
  have hnn : n * n ≤ 255 * 255 := Nat.mul_le_mul h2 h2
  obtain ⟨N, hN⟩ : ∃ N, N = n * n := ⟨_, rfl⟩
  have HZ : Hid _ := fun w => refzero_any w n n h2 h2
  rw [← hN] at HZ hnn ⊢
  have HN := hide hN
  clear hN
  have i1 : ¬ (n : Int) < 1 := by omega
  have i2 : ¬ 255 < (n : Int) := by omega
  go_enter Tryz.func87, Tryz.ntmps87
  go_wp2_with fail
  refine Calls.mono (HZ.out _) ?_
  rintro e w1 ⟨g, rfl, hG, hgs, hb⟩
  have hX : Br w1 w.heap.size 0 0 (.slice none 0 0) := Br.below (heap_alloc_new w _) hb (Nat.le_refl _)
  have hb1 : Below w.heap.size w w1 := below_step ((Below.refl _ _).alloc (Nat.le_refl _) _) hb
  have hgs' : w.heap.size ≤ g := Nat.le_trans (by simp) hgs
  clear hgs hb
  have hG2 := hide (hG.alloc (.cells #[.int .i64 n, .int .i64 n, .slice (some ⟨g, 0, none⟩) N N] 90))
  have hX2 := hide (hX.alloc (.cells #[.int .i64 n, .int .i64 n, .slice (some ⟨g, 0, none⟩) N N] 90))
  have hP2 := hide (Br.new w1 n n (.slice (some ⟨g, 0, none⟩) N N))
  have hb2 := hide (below_alloc hb1 (.cells #[.int .i64 n, .int .i64 n, .slice (some ⟨g, 0, none⟩) N N] 90))
  clear hG hX hb1
  go_wp2
  go_loopw [5] (fun i wr => ∃ j : Nat, j ≤ n ∧ i = .int .i64 j ∧ KB wr g N (oneF n j) ∧ Br wr w1.heap.size n n (.slice (some ⟨g, 0, none⟩) N N) ∧ Br wr w.heap.size 0 0 (.slice none 0 0) ∧ Below w.heap.size w wr) (fun i _ => n - (RowKit.intOf i).toNat)
  case atStart => exact ⟨0, Nat.zero_le _, rfl, hG2.out.congr (fun k _ => by rw [oneF, if_neg (by omega)]), hP2.out, hX2.out, hb2.out⟩
  case round =>
    obtain ⟨j, hj, rfl, hG, hP, hX, hb⟩ := hrel
    by_cases hlt : j < n
    · have p2 := hP.cell2
      obtain ⟨x, hx⟩ : ∃ x, x = j * n := ⟨_, rfl⟩
      have hxi : (j : Int) * (n : Int) = (x : Int) := by rw [← Int.natCast_mul, hx]
      have hxN : x + j < N := by rw [HN.out, hx]; exact at_lt hlt hlt
      have c3 := hG.cell (x + j) hxN
      have z3 := hG.free (x + j)
      have HX := hide hx
      have HG := hide hG
      have HP := hide hP
      have HX1 := hide hX
      have HB := hide hb
      have b0 : (0 : Int) ≤ (x : Int) + (j : Int) := by omega
      have b1 : (x : Int) + (j : Int) < (N : Int) := by omega
      have b2 : ((x : Int) + (j : Int)).toNat = x + j := by omega
      clear hG hP hX hb hx
      go_wp2
      have gs := gb_set wr g (x + j) (.int .i64 1)
      refine ⟨⟨j + 1, by omega, by go_num, ?_, HP.out.of_block (gs.block _ HP.out.lt (by simp; exact HP.out.ne HG.out)), HX1.out.of_block (gs.block _ HX1.out.lt (by simp; exact HX1.out.ne HG.out)), below_gb HB.out gs hgs' HB.out.size⟩, by simp [RowKit.intOf]; omega⟩
      refine (HG.out.set (x + j) hxN 1).congr (fun k _ => ?_)
      rw [HX.out, oneF_step n j k hlt]
    · obtain rfl : j = n := by omega
      have p0 := hP.cell0
      have p1 := hP.cell1
      have p2 := hP.cell2
      have q0 := hX.cell0
      have q1 := hX.cell1
      have q2 := hX.cell2
      have f0 := hX.free
      have HG := hide hG
      have HX1 := hide hX
      have HB := hide hb
      clear hG hX hb hP
      go_wp2
      obtain ⟨hX5, g5⟩ := HX1.out.put (j : Int) (j : Int) (.slice (some ⟨g, 0, none⟩) N N)
      refine bodyPost_ret (v := .tuple #[.agg #[.int .i64 j, .int .i64 j, .slice (some ⟨g, 0, none⟩) N N], .int .i64 0]) (by simp [results, Tryz.results87, go_sem, hX5.cell0, hX5.cell1, hX5.cell2]) rfl ⟨g, rfl, ?_, hgs', below_gb HB.out g5 (Nat.le_refl _) HB.out.size⟩
      exact (HG.out.of_block (g5.block g HG.out.lt (by simp; exact fun e => HX1.out.ne HG.out e.symm))).congr (fun k hk => oneF_all j k (by rw [← HN.out]; exact hk))
set_option maxRecDepth 100000 in
theorem refOne_bad (w : World) (n : Int) (h : isSd n = false) : Calls Tryz.prog 87 #[.int .i64 n] w fun e w' => e = .returned (.tuple #[.agg #[.int .i64 0, .int .i64 0, .slice none 0 0], .int .i64 1]) ∧ Below w.heap.size w w' := by
  have h' : n < 1 ∨ 255 < n := by simp [isSd] at h; omega
  clear h
  rcases h' with h | h
  · go_enter Tryz.func87, Tryz.ntmps87
    go_wp2
    exact bodyPost_ret (v := .tuple #[.agg #[.int .i64 0, .int .i64 0, .slice none 0 0], .int .i64 1]) (by simp [results, Tryz.results87, go_sem]) rfl ⟨rfl, (Below.refl _ _).alloc (Nat.le_refl _) _⟩
  · have h2 : ¬ n < 1 := by omega
    go_enter Tryz.func87, Tryz.ntmps87
    go_wp2
    exact bodyPost_ret (v := .tuple #[.agg #[.int .i64 0, .int .i64 0, .slice none 0 0], .int .i64 1]) (by simp [results, Tryz.results87, go_sem]) rfl ⟨rfl, (Below.refl _ _).alloc (Nat.le_refl _) _⟩

end Go.Proofs.YtklaeocnimkboaaGreatDoor

namespace Go.Proofs.YtklaeocnimkboaaGreatDoor
open Go.RowKit Go.Lib

/-- What is told of a matrix, in plain data. -/
structure MD where
  r : Int
  c : Int
  n : Nat
  Z : Nat → Int
  e : Int
def badD (e : Int) : MD := ⟨0, 0, 0, fun _ => 0, e⟩
theorem NX.nil (w : World) (f : Nat) (Z : Nat → Int) : NX w f (.slice none 0 0) 0 Z := ⟨none, 0, rfl, Nat.le_refl _, .inl rfl⟩
def kz (F : Nat → K) : Nat → Int := fun k => (((F k).v : Nat) : Int)
def cauD (k m : Int) : MD := if k < 1 ∨ m < 0 ∨ 255 - m < k then badD 1 else ⟨k + m, k, ((k + m) * k).toNat, kz (flat k.toNat (cauM k.toNat)), 0⟩
def oneD (n : Int) : MD := if isSd n = false then badD 1 else ⟨n, n, (n * n).toNat, kz (flat n.toNat dl), 0⟩

theorem cauchy_any {w : World} {sb f : Nat} (hS : SP w sb f) (k m : Int) (hm : m ≤ 9223372036854775807) :
    Calls Tryz.prog 37 #[.pointer (some ⟨sb, 0, none⟩), .int .i64 k, .int .i64 m] w fun e w' => ∃ v, e = .returned (.tuple #[.agg #[.int .i64 (cauD k m).r, .int .i64 (cauD k m).c, v], .int .i64 (cauD k m).e]) ∧ NX w' f v (cauD k m).n (cauD k m).Z ∧ SP w' sb f ∧ w.grownBy w' (some f) := by
  by_cases h : k < 1 ∨ m < 0 ∨ 255 - m < k
  · rw [cauD, if_pos h]
    refine (cauchy_bad k m hm h).mono ?_
    rintro e w' ⟨rfl, hb⟩
    exact ⟨_, rfl, NX.nil _ _ _, hS.below hb (Nat.le_refl _), gb_below hb _⟩
  · rw [cauD, if_neg h]
    obtain ⟨k', rfl⟩ : ∃ k' : Nat, k = k' := ⟨k.toNat, by omega⟩
    obtain ⟨m', rfl⟩ : ∃ m' : Nat, m = m' := ⟨m.toNat, by omega⟩
    refine (cauchy_ok hS (k := k') (m := m') (by omega) (by omega)).mono ?_
    rintro e w' ⟨g, rfl, hG, _, hS', hgr⟩
    refine ⟨.slice (some ⟨g, 0, none⟩) ((k' + m') * k') ((k' + m') * k'), ?_, ?_, hS', hgr⟩
    · simp
    · have := hG.nx (Nat.le_refl _) (hS'.kne hG)
      have e : (((k' : Int) + (m' : Int)) * (k' : Int)).toNat = (k' + m') * k' := by rw [← Int.natCast_add, ← Int.natCast_mul, Int.toNat_natCast]
      simp only [e, Int.toNat_natCast]
      exact this
theorem refCauchy_any {w : World} {f : Nat} (hf : f < w.heap.size) (k m : Int) :
    Calls Tryz.prog 43 #[.int .i64 k, .int .i64 m] w fun e w' => ∃ v, e = .returned (.tuple #[.agg #[.int .i64 (cauD k m).r, .int .i64 (cauD k m).c, v], .int .i64 (cauD k m).e]) ∧ NX w' f v (cauD k m).n (cauD k m).Z ∧ Below w.heap.size w w' := by
  by_cases h : k < 1 ∨ m < 0 ∨ 255 - m < k
  · rw [cauD, if_pos h]
    refine (refCauchy_bad k m h).mono ?_
    rintro e w' ⟨rfl, hb⟩
    exact ⟨_, rfl, NX.nil _ _ _, hb⟩
  · rw [cauD, if_neg h]
    obtain ⟨k', rfl⟩ : ∃ k' : Nat, k = k' := ⟨k.toNat, by omega⟩
    obtain ⟨m', rfl⟩ : ∃ m' : Nat, m = m' := ⟨m.toNat, by omega⟩
    refine (refCauchy_ok (k := k') (m := m') (by omega) (by omega)).mono ?_
    rintro e w' ⟨g, rfl, hG, hgs, hb⟩
    refine ⟨.slice (some ⟨g, 0, none⟩) ((k' + m') * k') ((k' + m') * k'), ?_, ?_, hb⟩
    · simp
    · have := hG.nx (f := f) (Nat.le_refl _) (by omega)
      have e : (((k' : Int) + (m' : Int)) * (k' : Int)).toNat = (k' + m') * k' := by rw [← Int.natCast_add, ← Int.natCast_mul, Int.toNat_natCast]
      simp only [e, Int.toNat_natCast]
      exact this
theorem one_any {w : World} {f : Nat} (hf : f < w.heap.size) (n : Int) :
    Calls Tryz.prog 65 #[.int .i64 n] w fun e w' => ∃ v, e = .returned (.tuple #[.agg #[.int .i64 (oneD n).r, .int .i64 (oneD n).c, v], .int .i64 (oneD n).e]) ∧ NX w' f v (oneD n).n (oneD n).Z ∧ Below w.heap.size w w' := by
  cases h : isSd n
  · rw [oneD, if_pos h]
    refine (one_bad w n h).mono ?_
    rintro e w' ⟨rfl, hb⟩
    exact ⟨_, rfl, NX.nil _ _ _, hb⟩
  · rw [oneD, if_neg (by simp [h])]
    obtain ⟨n', rfl, h1, h2⟩ := isSd_out h
    refine (one_ok w n' h1 h2).mono ?_
    rintro e w' ⟨g, rfl, hG, hgs, hb⟩
    refine ⟨.slice (some ⟨g, 0, none⟩) (n' * n') (n' * n'), by simp, ?_, hb⟩
    have := hG.nx (f := f) (Nat.le_refl _) (by omega)
    have e : ((n' : Int) * (n' : Int)).toNat = n' * n' := by rw [← Int.natCast_mul, Int.toNat_natCast]
    simp only [e, Int.toNat_natCast]
    exact this
theorem refOne_any {w : World} {f : Nat} (hf : f < w.heap.size) (n : Int) :
    Calls Tryz.prog 87 #[.int .i64 n] w fun e w' => ∃ v, e = .returned (.tuple #[.agg #[.int .i64 (oneD n).r, .int .i64 (oneD n).c, v], .int .i64 (oneD n).e]) ∧ NX w' f v (oneD n).n (oneD n).Z ∧ Below w.heap.size w w' := by
  cases h : isSd n
  · rw [oneD, if_pos h]
    refine (refOne_bad w n h).mono ?_
    rintro e w' ⟨rfl, hb⟩
    exact ⟨_, rfl, NX.nil _ _ _, hb⟩
  · rw [oneD, if_neg (by simp [h])]
    obtain ⟨n', rfl, h1, h2⟩ := isSd_out h
    refine (refOne_ok w n' h1 h2).mono ?_
    rintro e w' ⟨g, rfl, hG, hgs, hb⟩
    refine ⟨.slice (some ⟨g, 0, none⟩) (n' * n') (n' * n'), by simp, ?_, hb⟩
    have := hG.nx (f := f) (Nat.le_refl _) (by omega)
    have e : ((n' : Int) * (n' : Int)).toNat = n' * n' := by rw [← Int.natCast_mul, Int.toNat_natCast]
    simp only [e, Int.toNat_natCast]
    exact this
theorem cauD_n (k m : Int) : (cauD k m).n ≤ 140737488355328 := by
  unfold cauD
  split
  · exact Nat.zero_le _
  · obtain ⟨k', rfl⟩ : ∃ k' : Nat, k = k' := ⟨k.toNat, by omega⟩
    obtain ⟨m', rfl⟩ : ∃ m' : Nat, m = m' := ⟨m.toNat, by omega⟩
    have : (k' + m') * k' ≤ 255 * 255 := Nat.mul_le_mul (by omega) (by omega)
    show (((k' : Int) + (m' : Int)) * (k' : Int)).toNat ≤ _
    rw [← Int.natCast_add, ← Int.natCast_mul, Int.toNat_natCast]
    omega
theorem oneD_n (n : Int) : (oneD n).n ≤ 140737488355328 := by
  cases h : isSd n
  · rw [oneD, if_pos h]; exact Nat.zero_le _
  · rw [oneD, if_neg (by simp [h])]
    obtain ⟨n', rfl, h1, h2⟩ := isSd_out h
    have : n' * n' ≤ 255 * 255 := Nat.mul_le_mul h2 h2
    show ((n' : Int) * (n' : Int)).toNat ≤ _
    rw [← Int.natCast_mul, Int.toNat_natCast]
    omega

theorem one_cells (t : Nat) (ht : t < 2) : flat 1 (cauM 1) t = 1 := by
  have : t = 0 ∨ t = 1 := by omega
  rcases this with rfl | rfl
  · rfl
  · apply K.ext; decide +kernel
theorem Br.grown {w w' : World} {b f : Nat} {r c : Int} {v : Value} (h : Br w b r c v) (hg : w.grownBy w' (some f)) (hf : b ≠ f) : Br w' b r c v := h.of_block (hg.block b h.lt (by simpa using hf))
theorem Bx.grown {w w' : World} {b f : Nat} {r c : Int} {v : Value} (h : Bx w b r c v) (hg : w.grownBy w' (some f)) (hf : b ≠ f) : Bx w' b r c v := h.of_block (hg.block b h.lt (by simpa using hf))

end Go.Proofs.YtklaeocnimkboaaGreatDoor

namespace Go.Proofs.YtklaeocnimkboaaGreatDoor
open Go.RowKit Go.Lib

set_option maxRecDepth 100000 in
theorem at_any {w : World} {f n : Nat} {v : Value} {Z : Nat → Int} {r : Int} {c i j x : Nat} (h : NX w f v n Z) (hx : x = i * c + j) (hlt : x < n) (hb : x < 1000000) (hj : j < 1000000) :
    Calls Tryz.prog 85 #[.agg #[.int .i64 r, .int .i64 c, v], .int .i64 i, .int .i64 j] w fun e w' => e = .returned (.int .i64 (Z x)) ∧ Below w.heap.size w w' := by
  have h1 := h.alloc (.cells #[.int .i64 r, .int .i64 c, v] 90)
  obtain ⟨bl, off, cp, rfl, hc, _, _⟩ := h.at (by omega)
  have c1 := h1.cell_at x hlt
  clear h h1
  obtain ⟨y, hy⟩ : ∃ y, y = i * c := ⟨_, rfl⟩
  have hm : (i : Int) * (c : Int) = (y : Int) := by rw [← Int.natCast_mul, hy]
  rw [← hy] at hx
  clear hy
  have hs : (y : Int) + (j : Int) = (x : Int) := by omega
  have b0 : (0 : Int) ≤ (x : Int) := by omega
  have b1 : (x : Int) < (n : Int) := by omega
  have b2 : y ≤ 1000000 := by omega
  clear hx
  go_enter Tryz.func85, Tryz.ntmps85
  go_wp2
  go_ret
  exact ⟨rfl, (Below.refl _ _).alloc (Nat.le_refl _) _⟩

set_option maxRecDepth 100000 in
set_option maxHeartbeats 800000 in
theorem refCheck_any {w : World} {f n : Nat} {v : Value} {Z : Nat → Int} {r c : Int} (h : NX w f v n Z) (hn : n ≤ 140737488355328) :
    Calls Tryz.prog 84 #[.agg #[.int .i64 r, .int .i64 c, v]] w fun e w' => e = .returned (.int .i64 (chk r c n Z)) ∧ Below w.heap.size w w' := by
  have h1 := h.alloc (.cells #[.int .i64 r, .int .i64 c, v] 90)
  have X1 := Br.new w r c v
  obtain ⟨a, cp, rfl, _⟩ := h
  have H : Hid _ := h1
  have hB := hide (below_alloc (Below.refl w.heap.size w) (.cells #[.int .i64 r, .int .i64 c, .slice a n cp] 90))
  clear h1
  cases er : isSd r
  · rw [chk, if_pos er]
    have h' : r < 1 ∨ 255 < r := by simp [isSd] at er; omega
    clear er X1
    rcases h' with h | h
    · go_enter Tryz.func84, Tryz.ntmps84
      go_wp2
      go_ret
      exact ⟨rfl, hB.out⟩
    · have h2 : ¬ r < 1 := by omega
      go_enter Tryz.func84, Tryz.ntmps84
      go_wp2
      go_ret
      exact ⟨rfl, hB.out⟩
  have er' := er
  obtain ⟨r', hr', r1, r2⟩ := isSd_out er
  have e1 : ¬ r < 1 := by omega
  have e2 : ¬ 255 < r := by omega
  cases ec : isSd c
  · rw [chk, if_neg (by simp [er]), if_pos ec]
    have h' : c < 1 ∨ 255 < c := by simp [isSd] at ec; omega
    clear ec er er' X1 hr'
    rcases h' with h | h
    · go_enter Tryz.func84, Tryz.ntmps84
      go_wp2
      go_ret
      exact ⟨rfl, hB.out⟩
    · have h2 : ¬ c < 1 := by omega
      go_enter Tryz.func84, Tryz.ntmps84
      go_wp2
      go_ret
      exact ⟨rfl, hB.out⟩
  obtain ⟨c', hc', c1, c2⟩ := isSd_out ec
  have e3 : ¬ c < 1 := by omega
  have e4 : ¬ 255 < c := by omega
  have hrc : r' * c' ≤ 255 * 255 := Nat.mul_le_mul r2 c2
  obtain ⟨m, hm⟩ : ∃ m, m = r' * c' := ⟨_, rfl⟩
  have hm1 : r * c = (m : Int) := by rw [hr', hc', ← Int.natCast_mul, hm]
  rw [← hm] at hrc
  rw [chk, if_neg (by simp [er]), if_neg (by simp [ec])]
  clear er er' ec
  by_cases hnm : n = m
  · subst hnm
    rw [if_neg (by simp [hm1])]
    obtain ⟨res, hres⟩ : ∃ res : Int, res = if upB 255 Z n = false then 1 else 0 := ⟨_, rfl⟩
    rw [← hres]
    have HR := hide hres
    have x2 := X1.cell2
    have hbl : w.heap.size < (w.alloc (.cells #[.int .i64 r, .int .i64 c, .slice a n cp] 90)).heap.size := by simp
    clear hm hr' hc' hres X1
    go_enter Tryz.func84, Tryz.ntmps84
    go_wp2
    go_loop [3] (fun z => ∃ j : Nat, j ≤ n ∧ z = .int .i64 j ∧ upB 255 Z j = true) (fun z => n - (RowKit.intOf z).toNat)
    case atStart => exact ⟨0, Nat.zero_le _, rfl, rfl⟩
    case round =>
      obtain ⟨j, hj, rfl, hup⟩ := hrel
      have HU := hide hup
      clear hup
      by_cases hlt : j < n
      · obtain ⟨bl, off, cp', he, _, _, _⟩ := NX.at H.out (by omega)
        simp only [Value.slice.injEq, true_and] at he
        obtain ⟨rfl, rfl⟩ := he
        have cj := NX.cell_at H.out j hlt
        have b0 : (0 : Int) ≤ (j : Int) := by omega
        have b1 : (j : Int) < (n : Int) := by omega
        by_cases z1 : Z j < 0
        · have hr1 : res = 1 := by rw [HR.out, upB_false 255 Z n j hlt (by simp; omega)]; rfl
          subst hr1
          clear HR
          go_wp2
          go_ret
          exact ⟨rfl, hB.out⟩
        by_cases z2 : 255 < Z j
        · have hr1 : res = 1 := by rw [HR.out, upB_false 255 Z n j hlt (by simp; omega)]; rfl
          subst hr1
          clear HR
          go_wp2
          go_ret
          exact ⟨rfl, hB.out⟩
        have HO : Hid (upB 255 Z (j + 1) = true) := by
          show _ = _
          rw [upB_succ, HU.out, show (decide (0 ≤ Z j) && decide (Z j ≤ 255)) = true by simp; omega]; rfl
        go_wp2
        exact ⟨⟨j + 1, by omega, by go_num, HO.out⟩, by simp [RowKit.intOf]; omega⟩
      · obtain rfl : j = n := by omega
        have hr0 : res = 0 := by rw [HR.out, HU.out]; rfl
        subst hr0
        clear HR
        go_wp2
        go_ret
        exact ⟨rfl, hB.out⟩
  · rw [if_pos (by rw [hm1]; omega)]
    have hne : ((n : Int) != (m : Int)) = true := by simp; omega
    clear hm hr' hc' hnm X1
    go_enter Tryz.func84, Tryz.ntmps84
    go_wp2
    go_ret
    exact ⟨rfl, hB.out⟩
end Go.Proofs.YtklaeocnimkboaaGreatDoor

namespace Go.Proofs.YtklaeocnimkboaaGreatDoor
open Go.RowKit Go.Lib

/-- What turns no block but one that is not the box. -/
theorem Br.gb {w w' : World} {b g : Nat} {r c : Int} {v : Value} (h : Br w b r c v) (hg : w.grownBy w' (some g)) (hne : b ≠ g) : Br w' b r c v := h.of_block (hg.block b h.lt (by simpa using hne))

set_option maxRecDepth 100000 in
theorem lead_any {w : World} {g r c a j cp k : Nat} {M : Mt} (hG : KB w g (r * c) (flat c M)) (hk : a + k = r) (hr : r ≤ 255) (hj : j < c) (hc : c ≤ 1000) (hcp : r * c ≤ cp) :
    Calls Tryz.prog 88 #[.agg #[.int .i64 r, .int .i64 c, .slice (some ⟨g, 0, none⟩) (r * c) cp], .int .i64 a, .int .i64 j] w fun e w' =>
      e = .returned (.int .i64 (match lead M j k a with | none => -1 | some n => (n : Int))) ∧ Below w.heap.size w w' := by
  have hNN : r * c ≤ 255 * 1000 := Nat.mul_le_mul hr hc
  obtain ⟨res, hres⟩ : ∃ res : Int, res = (match lead M j k a with | none => -1 | some n => (n : Int)) := ⟨_, rfl⟩
  rw [← hres]
  have QN : Hid (∀ i, i < r → i * c + j < r * c) := fun i hi => at_lt hi hj
  have X1 := Br.new w r c (.slice (some ⟨g, 0, none⟩) (r * c) cp)
  have G1 := hG.alloc (.cells #[.int .i64 r, .int .i64 c, .slice (some ⟨g, 0, none⟩) (r * c) cp] 90)
  have L1 := below_alloc (Below.refl w.heap.size w) (.cells #[.int .i64 r, .int .i64 c, .slice (some ⟨g, 0, none⟩) (r * c) cp] 90)
  generalize r * c = N at *
  have HR := hide hres
  have HI := hide (show KB _ g N (flat c M) ∧ Br _ w.heap.size r c _ ∧ Below w.heap.size w _ from ⟨G1, X1, L1⟩)
  have hgl := hG.lt
  clear hres G1 X1 L1 hG
  go_enter Tryz.func88, Tryz.ntmps88
  go_wp2
  go_loopw [7] (fun z wr => ∃ i : Nat, i ≤ k ∧ z = .int .i64 ((a + i : Nat) : Int) ∧ lead M j k a = lead M j (k - i) (a + i) ∧ KB wr g N (flat c M) ∧ Br wr w.heap.size r c (.slice (some ⟨g, 0, none⟩) N cp) ∧ Below w.heap.size w wr) (fun z _ => r - (RowKit.intOf z).toNat)
  case atStart => exact ⟨0, Nat.zero_le _, rfl, rfl, HI.out⟩
  case round =>
    obtain ⟨i, hi, rfl, hl, KG, XB, LL⟩ := hrel
    clear HI
    obtain ⟨ai, hai⟩ : ∃ ai, ai = a + i := ⟨_, rfl⟩
    rw [← hai] at hl ⊢
    have x0 := XB.cell0
    have x1 := XB.cell1
    have x2 := XB.cell2
    by_cases hlt : i < k
    · have hair : ai < r := by omega
      have hai1 : ai + 1 = a + (i + 1) := by omega
      have HA1 := hide hai1
      have HAI := hide hai
      clear hai hai1
      obtain ⟨d, hd⟩ : ∃ d, k - i = d + 1 := ⟨k - i - 1, by omega⟩
      rw [hd, Go.Proofs.YtklaeocnimkboaaGreatDoor.lead] at hl
      have AT : Hid _ := at_any (r := (r : Int)) (c := c) (i := ai) (j := j) (KG.nx (f := g + 1) (c := cp) hcp (by omega)) rfl (QN.out ai hair) (by have := QN.out ai hair; omega) (by omega)
      rw [show (((flat c M (ai * c + j)).v : Nat) : Int) = (((M ai j).v : Nat) : Int) by rw [flat, div_at hj, mod_at hj]] at AT
      have b1 : (ai : Int) < (r : Int) := by omega
      by_cases hz : M ai j = 0
      · rw [if_neg (by simp [hz])] at hl
        have hv : ((((M ai j).v : Nat) : Int) != 0) = false := by rw [hz]; rfl
        have HL := hide hl
        have HK := hide KG
        have HX := hide XB
        have HB := hide LL
        clear hl hz KG XB LL
        generalize M ai j = mij at *
        go_wp2_with fail
        refine Calls.mono AT.out ?_
        rintro e w1 ⟨rfl, q1⟩
        have HI := hide (show KB w1 g N (flat c M) ∧ Br w1 w.heap.size r c _ ∧ Below w.heap.size w w1 from ⟨HK.out.below q1 (Nat.le_refl _), HX.out.below q1 (Nat.le_refl _), below_step HB.out q1⟩)
        clear HK HX HB q1 AT x0 x1 x2
        go_wp2
        exact ⟨⟨i + 1, by omega, by rw [← HA1.out]; go_num, by rw [HL.out, show k - (i + 1) = d by omega, HA1.out], HI.out⟩, by simp [RowKit.intOf]; omega⟩
      · rw [if_pos hz] at hl
        have hv : ((((M ai j).v : Nat) : Int) != 0) = true := by have := K.v_ne hz; simp; omega
        have HL : Hid (res = (ai : Int)) := by show _ = _; rw [HR.out, hl]
        have HB := hide LL
        clear hl hz KG XB LL HR
        generalize M ai j = mij at *
        go_wp2_with fail
        refine Calls.mono AT.out ?_
        rintro e w1 ⟨rfl, q1⟩
        go_wp2
        go_ret
        exact ⟨by rw [HL.out]; rfl, below_step HB.out q1⟩
    · obtain rfl : i = k := by omega
      have HL : Hid (res = -1) := by show _ = _; rw [HR.out, hl, Nat.sub_self]; rfl
      have HB := hide LL
      have b1 : ¬ (ai : Int) < (r : Int) := by omega
      clear hl KG XB LL HR hai
      go_wp2
      go_ret
      exact ⟨by rw [HL.out]; rfl, HB.out⟩
end Go.Proofs.YtklaeocnimkboaaGreatDoor

namespace Go.Proofs.YtklaeocnimkboaaGreatDoor
open Go.RowKit Go.Lib

/-- A matrix in one block, and the box of its parts. -/
structure MI (w : World) (g N r c cp : Nat) (G : Nat → K) (wr : World) : Prop where
  G : KB wr g N G
  x : Br wr w.heap.size r c (.slice (some ⟨g, 0, none⟩) N cp)
  gr : w.grownBy wr (some g)
theorem MI.below {w : World} {g N r c cp : Nat} {G : Nat → K} {wr w' : World} (h : MI w g N r c cp G wr) (hb : Below wr.heap.size wr w') : MI w g N r c cp G w' :=
  ⟨h.G.below hb (Nat.le_refl _), h.x.below hb (Nat.le_refl _), gb_trans h.gr (gb_below hb _)⟩
theorem MI.set {w : World} {g N r c cp : Nat} {G : Nat → K} {wr : World} (h : MI w g N r c cp G wr) (i : Nat) (hi : i < N) (x : K) : MI w g N r c cp (fun k => if k = i then x else G k) (wr.setCell ⟨g, i, none⟩ (.int .i64 ((x.v : Nat) : Int))) := by
  have gs := gb_set wr g i (.int .i64 ((x.v : Nat) : Int))
  exact ⟨h.G.set i hi x, h.x.of_block (gs.block _ h.x.lt (by simp; exact h.x.ne h.G)), gb_trans h.gr gs⟩
theorem MI.congr {w : World} {g N r c cp : Nat} {G G' : Nat → K} {wr : World} (h : MI w g N r c cp G wr) (e : ∀ t, t < N → G t = G' t) : MI w g N r c cp G' wr := ⟨h.G.congr e, h.x, h.gr⟩
theorem MI.start {w : World} {g N r c cp : Nat} {G : Nat → K} (h : KB w g N G) : MI w g N r c cp G (w.alloc (.cells #[.int .i64 r, .int .i64 c, .slice (some ⟨g, 0, none⟩) N cp] 90)) :=
  ⟨h.alloc _, Br.new _ _ _ _, gb_below (below_alloc (Below.refl _ _) _) _⟩

/-- j columns are done. -/
def colS (M M' : Mt) (j : Nat) : Mt := fun r q => if q < j then M' r q else M r q
theorem colS_at {c i j : Nat} (M M' : Mt) (hj : j < c) : flat c (colS M M' j) (i * c + j) = M i j := by
  unfold flat colS
  rw [div_at hj, mod_at hj, if_neg (Nat.lt_irrefl _)]
theorem colS_zero {c : Nat} (M M' : Mt) (t : Nat) : flat c (colS M M' 0) t = flat c M t := by
  unfold flat colS
  rw [if_neg (Nat.not_lt_zero _)]
theorem colS_all {c n : Nat} (M M' : Mt) (t : Nat) (ht : t < n * c) : flat c (colS M M' c) t = flat c M' t := by
  unfold flat colS
  rw [if_pos (mod_lt' ht)]
theorem colS_step {c i j : Nat} (M M' : Mt) (hj : j < c) (hM : ∀ a, a ≠ i → ∀ q, M' a q = M a q) (t : Nat) : (if t = i * c + j then M' i j else flat c (colS M M' j) t) = flat c (colS M M' (j + 1)) t := by
  unfold flat colS
  by_cases h : t = i * c + j
  · subst h; rw [if_pos rfl, div_at hj, mod_at hj, if_pos (Nat.lt_succ_self _)]
  · rw [if_neg h]
    by_cases h1 : t / c = i
    · have h2 : t % c ≠ j := fun h2 => h (at_eq h1 h2)
      by_cases h3 : t % c < j
      · rw [if_pos h3, if_pos (by omega)]
      · rw [if_neg h3, if_neg (by omega)]
    · rw [hM _ h1]; split <;> split <;> rfl

set_option maxRecDepth 100000 in
set_option maxHeartbeats 1600000 in
theorem scale_any {w : World} {g r c i cp : Nat} {M : Mt} (hG : KB w g (r * c) (flat c M)) (hi : i < r) (hr : r ≤ 255) (hc : c ≤ 1000) (hcp : r * c ≤ cp) (y : K) (M' : Mt) (hM : ∀ a, a ≠ i → ∀ q, M' a q = M a q) (hMi : ∀ q, q < c → M' i q = M i q * y) :
    Calls Tryz.prog 90 #[.agg #[.int .i64 r, .int .i64 c, .slice (some ⟨g, 0, none⟩) (r * c) cp], .int .i64 i, .int .i64 ((y.v : Nat) : Int)] w fun e w' =>
      e = .returned (.tuple #[]) ∧ KB w' g (r * c) (flat c M') ∧ w.grownBy w' (some g) := by
  have hNN : r * c ≤ 255 * 1000 := Nat.mul_le_mul hr hc
  have QN : Hid (∀ j, j < c → i * c + j < r * c) := fun j hj => at_lt hi hj
  have QE : Hid (∀ t, t < r * c → flat c (colS M M' c) t = flat c M' t) := fun t ht => colS_all M M' t ht
  generalize r * c = N at *
  have I0 : MI w g N r c cp (flat c (colS M M' 0)) (w.alloc (.cells #[.int .i64 r, .int .i64 c, .slice (some ⟨g, 0, none⟩) N cp] 90)) := (MI.start hG).congr (fun t _ => (colS_zero M M' t).symm)
  have HI := hide I0
  obtain ⟨x, hx⟩ : ∃ x, x = i * c := ⟨_, rfl⟩
  have hxi : (i : Int) * (c : Int) = (x : Int) := by rw [← Int.natCast_mul, hx]
  have hgl := hG.lt
  have HXX := hide hx
  have HM := hide hM
  have HMI := hide hMi
  clear I0 hG hx hM hMi
  go_enter Tryz.func90, Tryz.ntmps90
  go_wp2
  go_loopw [6] (fun z wr => ∃ j : Nat, j ≤ c ∧ z = .int .i64 j ∧ MI w g N r c cp (flat c (colS M M' j)) wr) (fun z _ => c - (RowKit.intOf z).toNat)
  case atStart => exact ⟨0, Nat.zero_le _, rfl, HI.out⟩
  case round =>
    obtain ⟨j, hj, rfl, I⟩ := hrel
    clear HI
    have m0 := I.x.cell0
    have m1 := I.x.cell1
    have m2 := I.x.cell2
    by_cases hlt : j < c
    · have hxN : x + j < N := by rw [HXX.out]; exact QN.out j hlt
      have hat : flat c (colS M M' j) (x + j) = M i j := by rw [HXX.out]; exact colS_at M M' hlt
      obtain ⟨mij, hmij⟩ : ∃ mij, mij = M i j := ⟨_, rfl⟩
      have R1 : Hid (∀ (v u1 u2 : Value) (w' : World), v = .agg #[.int .i64 r, .int .i64 c, .slice (some ⟨g, 0, none⟩) N cp] → u1 = .int .i64 i → u2 = .int .i64 j → Below wr.heap.size wr w' → Calls Tryz.prog 85 #[v, u1, u2] w' fun e w'' => e = .returned (.int .i64 ((mij.v : Nat) : Int)) ∧ Below wr.heap.size wr w'' ∧ (w''.cell? ⟨w.heap.size, 0, none⟩ = some (.int .i64 r) ∧ w''.cell? ⟨w.heap.size, 1, none⟩ = some (.int .i64 c) ∧ w''.cell? ⟨w.heap.size, 2, none⟩ = some (.slice (some ⟨g, 0, none⟩) N cp)) ∧ w''.cell? ⟨g, x + j, none⟩ = some (.int .i64 ((mij.v : Nat) : Int)) ∧ w''.frozen? ⟨g, x + j, none⟩ = false) := by
        intro v u1 u2 w' h1 h2 h3 hb
        subst h1 h2 h3
        have I1 := I.below hb
        refine (at_any (r := (r : Int)) (c := c) (i := i) (j := j) (I1.G.nx (f := g + 1) (c := cp) hcp (by omega)) rfl (QN.out j hlt) (by have := QN.out j hlt; omega) (by omega)).mono ?_
        rintro e w'' ⟨rfl, q⟩
        have I' := I.below (below_step hb q)
        exact ⟨by rw [← HXX.out, hat, hmij], below_step hb q, ⟨I'.x.cell0, I'.x.cell1, I'.x.cell2⟩, by rw [I'.G.cell _ hxN, hat, hmij], I'.G.free _⟩
      have R2 : Hid (∀ (u1 u2 : Value) (w' : World), u1 = .int .i64 ((mij.v : Nat) : Int) → u2 = .int .i64 ((y.v : Nat) : Int) → Calls Tryz.prog 111 #[u1, u2] w' fun e w'' => e = .returned (.int .i64 (((mij * y).v : Nat) : Int)) ∧ w'' = w') := fun u1 u2 w' h1 h2 => by rw [h1, h2]; exact refTimes_any mij.v y.v mij.lt y.lt w'
      obtain ⟨z, hz⟩ : ∃ z, z = mij * y := ⟨_, rfl⟩
      have FIN : Hid (∀ w', Below wr.heap.size wr w' → MI w g N r c cp (flat c (colS M M' (j + 1))) (w'.setCell ⟨g, x + j, none⟩ (.int .i64 ((z.v : Nat) : Int)))) := by
        intro w' hb
        exact ((I.below hb).set (x + j) hxN z).congr (fun t _ => by rw [HXX.out, hz, hmij, ← HMI.out j hlt]; exact colS_step M M' hlt HM.out t)
      rw [← hz] at R2
      have np := I.x.ne I.G
      have b0 : (0 : Int) ≤ (x : Int) + (j : Int) := by omega
      have b1 : (x : Int) + (j : Int) < (N : Int) := by omega
      have b2 : ((x : Int) + (j : Int)).toNat = x + j := by omega
      have b3 : (j : Int) < (c : Int) := by omega
      have hwb : IntKind.i64.wrap ((i : Int) * (c : Int)) = (x : Int) := by rw [hxi]; exact wraps_i64 _ (by omega) (by omega)
      have hwc : IntKind.i64.wrap ((x : Int) + (j : Int)) = (x : Int) + (j : Int) := wraps_i64 _ (by omega) (by omega)
      have HB0 : Hid (Below wr.heap.size wr wr.drew) := (Below.refl _ _).drew
      clear I hat hmij hz hxi
      go_wp2_with fail
      go_region_held3 (fun w' => w'.cell? ⟨w.heap.size, 0, none⟩ = some (.int .i64 r) ∧ w'.cell? ⟨w.heap.size, 1, none⟩ = some (.int .i64 c) ∧ w'.cell? ⟨w.heap.size, 2, none⟩ = some (.slice (some ⟨g, 0, none⟩) N cp)) (first | assumption | exact ⟨by assumption, by assumption, by assumption⟩ | exact ⟨m0, m1, m2⟩ | exact ⟨(cell_off np).trans (by assumption), (cell_off np).trans (by assumption), (cell_off np).trans (by assumption)⟩)
        (first
          | (go_at_call 85; refine (R1.out _ _ _ _ (by with_reducible rfl) (by with_reducible rfl) (by with_reducible rfl) (by first | assumption | exact HB0.out)).mono ?_; rintro e wa ⟨rfl, ka, ⟨ka1, ka2, ka3⟩, ka4, ka5⟩)
          | (go_at_call 111; refine (R2.out _ _ _ (by with_reducible rfl) (by with_reducible rfl)).mono ?_; rintro e wz ⟨rfl, hwz⟩; subst wz))
      all_goals
        clear R1 R2
        go_wp2
        exact ⟨⟨j + 1, by omega, by go_num, FIN.out _ ka⟩, by simp [RowKit.intOf]; omega⟩
    · obtain rfl : j = c := by omega
      have b1 : ¬ (j : Int) < (j : Int) := by omega
      have HI := hide I
      clear I
      go_wp2
      go_end0
      exact ⟨rfl, HI.out.G.congr (fun t ht => QE.out t ht), HI.out.gr⟩
end Go.Proofs.YtklaeocnimkboaaGreatDoor

namespace Go.Proofs.YtklaeocnimkboaaGreatDoor
open Go.RowKit Go.Lib

theorem IL.nx {B f : Nat} {L : List Nat} {w : World} {v : Value} (h : IL B v L w) (hf : f < B) : NX w f v L.length (fun t => ((L.getD t 0 : Nat) : Int)) := by
  rcases h.cells with ⟨rfl, rfl⟩ | ⟨g, cap, rfl, hc, hB, hl, hcell⟩
  · exact NX.nil _ _ _
  · exact ⟨_, cap, rfl, hc, .inr ⟨g, 0, rfl, hl, by omega, fun j hj => by rw [Nat.zero_add]; exact hcell j hj⟩⟩
theorem ints_lt {L : List Nat} {j : Nat} {u : Value} (h : (ints L)[j]? = some u) : j < L.length := by
  have := (List.getElem?_eq_some_iff.1 h).1
  rwa [ints_length] at this


/-- The matrix with one row more. -/
def moreF (N : Nat) (A M : Nat → K) : Nat → K := fun t => if t < N then A t else M (t - N)
def vals (N : Nat) (A : Nat → K) : List Nat := (List.range N).map fun t => (A t).v
theorem vals_length (N : Nat) (A : Nat → K) : (vals N A).length = N := by simp [vals]
theorem vals_get (N : Nat) (A : Nat → K) (t : Nat) (h : t < N) : (vals N A).getD t 0 = (A t).v := by
  rw [List.getD_eq_getElem?_getD, vals, List.getElem?_map, List.getElem?_range h]; rfl
theorem vals_get? (N : Nat) (A : Nat → K) (t : Nat) (h : t < N) : (ints (vals N A))[t]? = some (.int .i64 (((A t).v : Nat) : Int)) := by
  rw [ints, vals, List.getElem?_map, List.getElem?_map, List.getElem?_range h]; rfl
theorem vals_succ (A : Nat → K) (i : Nat) : vals i A ++ [(A i).v] = vals (i + 1) A := by rw [vals, vals, List.range_succ, List.map_append]; rfl
theorem vals_app (N m : Nat) (A M : Nat → K) : vals N A ++ vals m M = vals (N + m) (moreF N A M) := by
  apply List.ext_getElem?
  intro i
  by_cases h1 : i < N
  · rw [List.getElem?_append_left (by rw [vals_length]; exact h1)]
    simp only [vals, List.getElem?_map, List.getElem?_range h1, List.getElem?_range (show i < N + m by omega), Option.map_some, moreF, if_pos h1]
  · rw [List.getElem?_append_right (by rw [vals_length]; omega), vals_length]
    by_cases h2 : i < N + m
    · simp only [vals, List.getElem?_map, List.getElem?_range (show i - N < m by omega), List.getElem?_range h2, Option.map_some, moreF, if_neg h1]
    · rw [List.getElem?_eq_none (by rw [vals_length]; omega), List.getElem?_eq_none (by rw [vals_length]; omega)]
/-- A list of elements of one's own is a list to be read. -/
theorem IL.knx {B f N : Nat} {A : Nat → K} {w : World} {v : Value} (h : IL B v (vals N A) w) (hf : f < B) : NX w f v N (fun t => (((A t).v : Nat) : Int)) := by
  have nx := h.nx hf
  rw [vals_length] at nx
  obtain ⟨a, cc, e1, e2, e3⟩ := nx
  refine ⟨a, cc, e1, e2, ?_⟩
  rcases e3 with e3 | ⟨bl, off, e4, e5, e6, e7⟩
  · exact .inl e3
  · refine .inr ⟨bl, off, e4, e5, e6, fun j hj => ?_⟩
    rw [e7 j hj]
    show some (Value.int .i64 (((vals N A).getD j 0 : Nat) : Int)) = _
    rw [vals_get N A j hj]
theorem IL.go {B f : Nat} {L : List Nat} {w w' : World} {v : Value} (h : IL B v L w) (hg : w.grownBy w' (some f)) (hf : f < B) : IL B v L w' :=
  h.apart hg (fun b hb e => by have := (h.lt b hb).1; simp only [Option.some.injEq] at e; omega)
theorem NX.up {w w' : World} {n : Nat} {v : Value} {Z : Nat → Int} {f : Nat} (h : NX w f v n Z) (hb : Below w.heap.size w w') : NX w' w'.heap.size v n Z := by
  obtain ⟨a, c, rfl, hc, h⟩ := h
  refine ⟨a, c, rfl, hc, ?_⟩
  rcases h with h | ⟨bl, off, rfl, hbl, hf, hc⟩
  · exact .inl h
  · exact .inr ⟨bl, off, rfl, Nat.lt_of_lt_of_le hbl hb.size, by have := hb.size; omega, fun i hi => (cell_congr (hb.block bl hbl)).trans (hc i hi)⟩
/-- A list to be read, appended to a new one. -/
theorem IL.copy {B f N : Nat} {A : Nat → K} {w : World} {va : Value} (hB : B ≤ w.heap.size) (hA : NX w f va N (fun t => (((A t).v : Nat) : Int))) (h0 : N ≠ 0) (hN : N ≤ 1000) (q : Nat) :
    ∃ ao cap w', (Builtin.append_ #[77, 77] 77 #[.slice (some ⟨w.heap.size, 0, none⟩) 0 0, va]).run Tryz.prog ((w.drewN q).alloc (.cells #[] 3)) = .ok (.slice ao N cap) w' ∧ IL B (.slice ao N cap) (vals N A) w' ∧ Below w.heap.size w w' := by
  obtain ⟨bl, off, c, rfl, hc, hbl, hf⟩ := hA.at h0
  have e6 : IL B (.slice (some ⟨w.heap.size, 0, none⟩) 0 0) [] ((w.drewN q).alloc (.cells #[] 3)) := IL.empty (w := w.drewN q) hB
  have hal : Below w.heap.size w ((w.drewN q).alloc (.cells #[] 3)) := (below_drew (Below.refl w.heap.size w) q).alloc (Nat.le_refl _) _
  have hA' := hA.below hal
  obtain ⟨v', w', h1, h2, h3, h4, h5⟩ := e6.app (a := ⟨bl, off, none⟩) (c := c) (vals N A) (fun t u hu => by
    have ht := ints_lt hu
    rw [vals_length] at ht
    rw [vals_get? N A t ht] at hu
    cases hu
    rw [Addr.add_mid]
    exact hA'.cell_at t ht) (by rw [vals_length, List.length_nil]; omega) (by simp; omega)
  rw [vals_length] at h1
  rw [List.nil_append] at h2
  obtain ⟨ao, cap, rfl⟩ := h2.shape
  rw [vals_length] at h1 h2
  refine ⟨ao, cap, w', h1, h2, ?_⟩
  exact hal.grown h3 (by simp) (fun k hk => by simp only [Value.ownBlock, Option.some.injEq] at hk; omega)
end Go.Proofs.YtklaeocnimkboaaGreatDoor

namespace Go.Proofs.YtklaeocnimkboaaGreatDoor
open Go.RowKit Go.Lib

set_option maxRecDepth 100000 in
set_option maxHeartbeats 1600000 in
theorem radd_any {w : World} {g r c i k cp : Nat} {M : Mt} (hG : KB w g (r * c) (flat c M)) (hi : i < r) (hk : k < r) (hik : i ≠ k) (hr : r ≤ 255) (hc : c ≤ 1000) (hcp : r * c ≤ cp) (y : K) (M' : Mt) (hM : ∀ a, a ≠ i → ∀ q, M' a q = M a q) (hMi : ∀ q, q < c → M' i q = M i q + M k q * y) :
    Calls Tryz.prog 91 #[.agg #[.int .i64 r, .int .i64 c, .slice (some ⟨g, 0, none⟩) (r * c) cp], .int .i64 i, .int .i64 k, .int .i64 ((y.v : Nat) : Int)] w fun e w' =>
      e = .returned (.tuple #[]) ∧ KB w' g (r * c) (flat c M') ∧ w.grownBy w' (some g) := by
  have hNN : r * c ≤ 255 * 1000 := Nat.mul_le_mul hr hc
  have QN : Hid (∀ j, j < c → i * c + j < r * c) := fun j hj => at_lt hi hj
  have QK : Hid (∀ j, j < c → k * c + j < r * c) := fun j hj => at_lt hk hj
  have QE : Hid (∀ t, t < r * c → flat c (colS M M' c) t = flat c M' t) := fun t ht => colS_all M M' t ht
  generalize r * c = N at *
  have I0 : MI w g N r c cp (flat c (colS M M' 0)) (w.alloc (.cells #[.int .i64 r, .int .i64 c, .slice (some ⟨g, 0, none⟩) N cp] 90)) := (MI.start hG).congr (fun t _ => (colS_zero M M' t).symm)
  have HI := hide I0
  obtain ⟨x, hx⟩ : ∃ x, x = i * c := ⟨_, rfl⟩
  have hxi : (i : Int) * (c : Int) = (x : Int) := by rw [← Int.natCast_mul, hx]
  have hgl := hG.lt
  have HXX := hide hx
  have HM := hide hM
  have HMI := hide hMi
  have HIK := hide hik
  clear I0 hG hx hM hMi hik
  go_enter Tryz.func91, Tryz.ntmps91
  go_wp2
  go_loopw [8] (fun z wr => ∃ j : Nat, j ≤ c ∧ z = .int .i64 j ∧ MI w g N r c cp (flat c (colS M M' j)) wr) (fun z _ => c - (RowKit.intOf z).toNat)
  case atStart => exact ⟨0, Nat.zero_le _, rfl, HI.out⟩
  case round =>
    obtain ⟨j, hj, rfl, I⟩ := hrel
    clear HI
    have m0 := I.x.cell0
    have m1 := I.x.cell1
    have m2 := I.x.cell2
    by_cases hlt : j < c
    · have hxN : x + j < N := by rw [HXX.out]; exact QN.out j hlt
      have hat : flat c (colS M M' j) (x + j) = M i j := by rw [HXX.out]; exact colS_at M M' hlt
      have hak : flat c (colS M M' j) (k * c + j) = M k j := colS_at M M' hlt
      obtain ⟨mij, hmij⟩ : ∃ mij, mij = M i j := ⟨_, rfl⟩
      obtain ⟨mkj, hmkj⟩ : ∃ mkj, mkj = M k j := ⟨_, rfl⟩
      have R1 : Hid (∀ (v u1 u2 : Value) (w' : World), v = .agg #[.int .i64 r, .int .i64 c, .slice (some ⟨g, 0, none⟩) N cp] → u1 = .int .i64 i → u2 = .int .i64 j → Below wr.heap.size wr w' → Calls Tryz.prog 85 #[v, u1, u2] w' fun e w'' => e = .returned (.int .i64 ((mij.v : Nat) : Int)) ∧ Below wr.heap.size wr w'' ∧ (w''.cell? ⟨w.heap.size, 0, none⟩ = some (.int .i64 r) ∧ w''.cell? ⟨w.heap.size, 1, none⟩ = some (.int .i64 c) ∧ w''.cell? ⟨w.heap.size, 2, none⟩ = some (.slice (some ⟨g, 0, none⟩) N cp)) ∧ w''.cell? ⟨g, x + j, none⟩ = some (.int .i64 ((mij.v : Nat) : Int)) ∧ w''.frozen? ⟨g, x + j, none⟩ = false) := by
        intro v u1 u2 w' h1 h2 h3 hb
        subst h1 h2 h3
        have I1 := I.below hb
        refine (at_any (r := (r : Int)) (c := c) (i := i) (j := j) (I1.G.nx (f := g + 1) (c := cp) hcp (by omega)) rfl (QN.out j hlt) (by have := QN.out j hlt; omega) (by omega)).mono ?_
        rintro e w'' ⟨rfl, q⟩
        have I' := I.below (below_step hb q)
        exact ⟨by rw [← HXX.out, hat, hmij], below_step hb q, ⟨I'.x.cell0, I'.x.cell1, I'.x.cell2⟩, by rw [I'.G.cell _ hxN, hat, hmij], I'.G.free _⟩
      have R3 : Hid (∀ (v u1 u2 : Value) (w' : World), v = .agg #[.int .i64 r, .int .i64 c, .slice (some ⟨g, 0, none⟩) N cp] → u1 = .int .i64 k → u2 = .int .i64 j → Below wr.heap.size wr w' → Calls Tryz.prog 85 #[v, u1, u2] w' fun e w'' => e = .returned (.int .i64 ((mkj.v : Nat) : Int)) ∧ Below wr.heap.size wr w'' ∧ (w''.cell? ⟨w.heap.size, 0, none⟩ = some (.int .i64 r) ∧ w''.cell? ⟨w.heap.size, 1, none⟩ = some (.int .i64 c) ∧ w''.cell? ⟨w.heap.size, 2, none⟩ = some (.slice (some ⟨g, 0, none⟩) N cp)) ∧ w''.cell? ⟨g, x + j, none⟩ = some (.int .i64 ((mij.v : Nat) : Int)) ∧ w''.frozen? ⟨g, x + j, none⟩ = false) := by
        intro v u1 u2 w' h1 h2 h3 hb
        subst h1 h2 h3
        have I1 := I.below hb
        refine (at_any (r := (r : Int)) (c := c) (i := k) (j := j) (I1.G.nx (f := g + 1) (c := cp) hcp (by omega)) rfl (QK.out j hlt) (by have := QK.out j hlt; omega) (by omega)).mono ?_
        rintro e w'' ⟨rfl, q⟩
        have I' := I.below (below_step hb q)
        exact ⟨by rw [hak, hmkj], below_step hb q, ⟨I'.x.cell0, I'.x.cell1, I'.x.cell2⟩, by rw [I'.G.cell _ hxN, hat, hmij], I'.G.free _⟩
      have R2 : Hid (∀ (u1 u2 : Value) (w' : World), u1 = .int .i64 ((mkj.v : Nat) : Int) → u2 = .int .i64 ((y.v : Nat) : Int) → Calls Tryz.prog 111 #[u1, u2] w' fun e w'' => e = .returned (.int .i64 (((mkj * y).v : Nat) : Int)) ∧ w'' = w') := fun u1 u2 w' h1 h2 => by rw [h1, h2]; exact refTimes_any mkj.v y.v mkj.lt y.lt w'
      obtain ⟨z, hz⟩ : ∃ z, z = mij + mkj * y := ⟨_, rfl⟩
      have hxx : bits .xor .i64 ((mij.v : Nat) : Int) (((mkj * y).v : Nat) : Int) = ((z.v : Nat) : Int) := by
        rw [xor_i64 _ _ (Nat.lt_of_lt_of_le (K.lt _) (by decide)) (Nat.lt_of_lt_of_le (K.lt _) (by decide)), hz]
        rfl
      have FIN : Hid (∀ w', Below wr.heap.size wr w' → MI w g N r c cp (flat c (colS M M' (j + 1))) (w'.setCell ⟨g, x + j, none⟩ (.int .i64 ((z.v : Nat) : Int)))) := by
        intro w' hb
        exact ((I.below hb).set (x + j) hxN z).congr (fun t _ => by rw [HXX.out, hz, hmij, hmkj, ← HMI.out j hlt]; exact colS_step M M' hlt HM.out t)
      have np := I.x.ne I.G
      have b0 : (0 : Int) ≤ (x : Int) + (j : Int) := by omega
      have b1 : (x : Int) + (j : Int) < (N : Int) := by omega
      have b2 : ((x : Int) + (j : Int)).toNat = x + j := by omega
      have b3 : (j : Int) < (c : Int) := by omega
      have hwb : IntKind.i64.wrap ((i : Int) * (c : Int)) = (x : Int) := by rw [hxi]; exact wraps_i64 _ (by omega) (by omega)
      have hwc : IntKind.i64.wrap ((x : Int) + (j : Int)) = (x : Int) + (j : Int) := wraps_i64 _ (by omega) (by omega)
      have HB0 : Hid (Below wr.heap.size wr wr.drew) := (Below.refl _ _).drew
      clear I hat hmij hz hxi hak hmkj
      generalize (mkj * y).v = pr at *
      go_wp2_with fail
      go_region_held3 (fun w' => w'.cell? ⟨w.heap.size, 0, none⟩ = some (.int .i64 r) ∧ w'.cell? ⟨w.heap.size, 1, none⟩ = some (.int .i64 c) ∧ w'.cell? ⟨w.heap.size, 2, none⟩ = some (.slice (some ⟨g, 0, none⟩) N cp)) (first | assumption | exact ⟨by assumption, by assumption, by assumption⟩ | exact ⟨m0, m1, m2⟩ | exact ⟨(cell_off np).trans (by assumption), (cell_off np).trans (by assumption), (cell_off np).trans (by assumption)⟩)
        (first
          | (go_at_call 85; refine (R1.out _ _ _ _ (by with_reducible rfl) (by with_reducible rfl) (by with_reducible rfl) (by first | assumption | exact HB0.out)).mono ?_; rintro e wa ⟨rfl, ka, ⟨ka1, ka2, ka3⟩, ka4, ka5⟩)
          | (go_at_call 85; refine (R3.out _ _ _ _ (by with_reducible rfl) (by with_reducible rfl) (by with_reducible rfl) (by first | assumption | exact HB0.out)).mono ?_; rintro e wb ⟨rfl, kb, ⟨kb1, kb2, kb3⟩, kb4, kb5⟩)
          | (go_at_call 111; refine (R2.out _ _ _ (by with_reducible rfl) (by with_reducible rfl)).mono ?_; rintro e wz ⟨rfl, hwz⟩; subst wz))
      all_goals
        clear R1 R2 R3
        go_wp2
        exact ⟨⟨j + 1, by omega, by go_num, by first | exact FIN.out _ ka | exact FIN.out _ kb⟩, by simp [RowKit.intOf]; omega⟩
    · obtain rfl : j = c := by omega
      have b1 : ¬ (j : Int) < (j : Int) := by omega
      have HI := hide I
      clear I
      go_wp2
      go_end0
      exact ⟨rfl, HI.out.G.congr (fun t ht => QE.out t ht), HI.out.gr⟩
end Go.Proofs.YtklaeocnimkboaaGreatDoor

namespace Go.Proofs.YtklaeocnimkboaaGreatDoor
open Go.RowKit Go.Lib

theorem swap_step {c a b j : Nat} (M M' : Mt) (hj : j < c) (hM : ∀ i, i ≠ a → i ≠ b → ∀ q, M' i q = M i q) (ha : M' a j = M b j) (hb : M' b j = M a j) (t : Nat) :
    (if t = b * c + j then M a j else if t = a * c + j then M b j else flat c (colS M M' j) t) = flat c (colS M M' (j + 1)) t := by
  by_cases h : t = b * c + j
  · subst h; rw [if_pos rfl]; unfold flat colS; rw [div_at hj, mod_at hj, if_pos (Nat.lt_succ_self _), hb]
  · rw [if_neg h]
    by_cases h' : t = a * c + j
    · subst h'; rw [if_pos rfl]; unfold flat colS; rw [div_at hj, mod_at hj, if_pos (Nat.lt_succ_self _), ha]
    · rw [if_neg h']
      unfold flat colS
      by_cases h2 : t % c = j
      · have h3 : t / c ≠ a := fun h1 => h' (at_eq h1 h2)
        have h4 : t / c ≠ b := fun h1 => h (at_eq h1 h2)
        rw [hM _ h3 h4]; split <;> split <;> rfl
      · by_cases h3 : t % c < j
        · rw [if_pos h3, if_pos (by omega)]
        · rw [if_neg h3, if_neg (by omega)]

set_option maxRecDepth 100000 in
set_option maxHeartbeats 1600000 in
theorem swap_any {w : World} {g r c i k cp : Nat} {M : Mt} (hG : KB w g (r * c) (flat c M)) (hi : i < r) (hk : k < r) (hr : r ≤ 255) (hc : c ≤ 1000) (hcp : r * c ≤ cp) (M' : Mt) (hM : ∀ a, a ≠ i → a ≠ k → ∀ q, M' a q = M a q) (hMi : ∀ q, q < c → M' i q = M k q) (hMk : ∀ q, q < c → M' k q = M i q) :
    Calls Tryz.prog 89 #[.agg #[.int .i64 r, .int .i64 c, .slice (some ⟨g, 0, none⟩) (r * c) cp], .int .i64 i, .int .i64 k] w fun e w' =>
      e = .returned (.tuple #[]) ∧ KB w' g (r * c) (flat c M') ∧ w.grownBy w' (some g) := by
  have hNN : r * c ≤ 255 * 1000 := Nat.mul_le_mul hr hc
  have QN : Hid (∀ j, j < c → i * c + j < r * c) := fun j hj => at_lt hi hj
  have QK : Hid (∀ j, j < c → k * c + j < r * c) := fun j hj => at_lt hk hj
  have QE : Hid (∀ t, t < r * c → flat c (colS M M' c) t = flat c M' t) := fun t ht => colS_all M M' t ht
  generalize r * c = N at *
  have I0 : MI w g N r c cp (flat c (colS M M' 0)) (w.alloc (.cells #[.int .i64 r, .int .i64 c, .slice (some ⟨g, 0, none⟩) N cp] 90)) := (MI.start hG).congr (fun t _ => (colS_zero M M' t).symm)
  have HI := hide I0
  obtain ⟨x, hx⟩ : ∃ x, x = i * c := ⟨_, rfl⟩
  have hxi : (i : Int) * (c : Int) = (x : Int) := by rw [← Int.natCast_mul, hx]
  obtain ⟨x2, hx2⟩ : ∃ x, x = k * c := ⟨_, rfl⟩
  have hxk : (k : Int) * (c : Int) = (x2 : Int) := by rw [← Int.natCast_mul, hx2]
  have hgl := hG.lt
  have HXX := hide hx
  have HXK := hide hx2
  have HM := hide hM
  have HMI := hide hMi
  have HMK := hide hMk
  clear I0 hG hx hM hMi hMk hx2
  go_enter Tryz.func89, Tryz.ntmps89
  go_wp2
  go_loopw [6] (fun z wr => ∃ j : Nat, j ≤ c ∧ z = .int .i64 j ∧ MI w g N r c cp (flat c (colS M M' j)) wr) (fun z _ => c - (RowKit.intOf z).toNat)
  case atStart => exact ⟨0, Nat.zero_le _, rfl, HI.out⟩
  case round =>
    obtain ⟨j, hj, rfl, I⟩ := hrel
    clear HI
    have m0 := I.x.cell0
    have m1 := I.x.cell1
    have m2 := I.x.cell2
    by_cases hlt : j < c
    · have hxN : x + j < N := by rw [HXX.out]; exact QN.out j hlt
      have hkN : x2 + j < N := by rw [HXK.out]; exact QK.out j hlt
      have hat : flat c (colS M M' j) (x + j) = M i j := by rw [HXX.out]; exact colS_at M M' hlt
      have hak : flat c (colS M M' j) (x2 + j) = M k j := by rw [HXK.out]; exact colS_at M M' hlt
      obtain ⟨mij, hmij⟩ : ∃ mij, mij = M i j := ⟨_, rfl⟩
      obtain ⟨mkj, hmkj⟩ : ∃ mkj, mkj = M k j := ⟨_, rfl⟩
      have b3 : (j : Int) < (c : Int) := by omega
      have R1 : Hid (∀ (w' : World), Below wr.heap.size wr w' → Calls Tryz.prog 85 #[.agg #[.int .i64 r, .int .i64 c, .slice (some ⟨g, 0, none⟩) N cp], .int .i64 i, .int .i64 j] w' fun e w'' => e = .returned (.int .i64 ((mij.v : Nat) : Int)) ∧ Below wr.heap.size wr w'') := by
        intro w' hb
        have I1 := I.below hb
        refine (at_any (r := (r : Int)) (c := c) (i := i) (j := j) (I1.G.nx (f := g + 1) (c := cp) hcp (by omega)) rfl (QN.out j hlt) (by have := QN.out j hlt; omega) (by omega)).mono ?_
        rintro e w'' ⟨rfl, q⟩
        exact ⟨by rw [← HXX.out, hat, hmij], below_step hb q⟩
      have HI := hide I
      have HAT := hide hat
      have HAK := hide hak
      have HMIJ := hide hmij
      have HMKJ := hide hmkj
      clear I hat hak hmij hmkj
      go_wp2_with fail
      refine (R1.out _ (Below.refl _ _)).mono ?_
      rintro e w1 ⟨rfl, k1⟩
      have I := HI.out.below k1
      clear HI k1 R1 m0 m1 m2
      have m0 := I.x.cell0
      have m1 := I.x.cell1
      have m2 := I.x.cell2
      have R3 : Hid (∀ (v u1 u2 : Value) (w' : World), v = .agg #[.int .i64 r, .int .i64 c, .slice (some ⟨g, 0, none⟩) N cp] → u1 = .int .i64 k → u2 = .int .i64 j → Below w1.heap.size w1 w' → Calls Tryz.prog 85 #[v, u1, u2] w' fun e w'' => e = .returned (.int .i64 ((mkj.v : Nat) : Int)) ∧ Below w1.heap.size w1 w'' ∧ (w''.cell? ⟨w.heap.size, 0, none⟩ = some (.int .i64 r) ∧ w''.cell? ⟨w.heap.size, 1, none⟩ = some (.int .i64 c) ∧ w''.cell? ⟨w.heap.size, 2, none⟩ = some (.slice (some ⟨g, 0, none⟩) N cp)) ∧ w''.cell? ⟨g, x + j, none⟩ = some (.int .i64 ((mij.v : Nat) : Int)) ∧ w''.frozen? ⟨g, x + j, none⟩ = false) := by
        intro v u1 u2 w' h1 h2 h3 hb
        subst h1 h2 h3
        have I1 := I.below hb
        refine (at_any (r := (r : Int)) (c := c) (i := k) (j := j) (I1.G.nx (f := g + 1) (c := cp) hcp (by omega)) rfl (QK.out j hlt) (by have := QK.out j hlt; omega) (by omega)).mono ?_
        rintro e w'' ⟨rfl, q⟩
        have I' := I.below (below_step hb q)
        exact ⟨by rw [← HXK.out, HAK.out, HMKJ.out], below_step hb q, ⟨I'.x.cell0, I'.x.cell1, I'.x.cell2⟩, by rw [I'.G.cell _ hxN, HAT.out, HMIJ.out], I'.G.free _⟩
      have MID : Hid (∀ w', Below w1.heap.size w1 w' → MI w g N r c cp (fun t => if t = x + j then mkj else flat c (colS M M' j) t) (w'.setCell ⟨g, x + j, none⟩ (.int .i64 ((mkj.v : Nat) : Int)))) := fun w' hb => (I.below hb).set (x + j) hxN mkj
      have np := I.x.ne I.G
      have b0 : (0 : Int) ≤ (x : Int) + (j : Int) := by omega
      have b1 : (x : Int) + (j : Int) < (N : Int) := by omega
      have b2 : ((x : Int) + (j : Int)).toNat = x + j := by omega
      have hwb : IntKind.i64.wrap ((i : Int) * (c : Int)) = (x : Int) := by rw [hxi]; exact wraps_i64 _ (by omega) (by omega)
      have hwc : IntKind.i64.wrap ((x : Int) + (j : Int)) = (x : Int) + (j : Int) := wraps_i64 _ (by omega) (by omega)
      have HB0 : Hid (Below w1.heap.size w1 w1.drew) := (Below.refl _ _).drew
      clear I hxi
      go_wp2_with fail
      go_region_held3 (fun w' => w'.cell? ⟨w.heap.size, 0, none⟩ = some (.int .i64 r) ∧ w'.cell? ⟨w.heap.size, 1, none⟩ = some (.int .i64 c) ∧ w'.cell? ⟨w.heap.size, 2, none⟩ = some (.slice (some ⟨g, 0, none⟩) N cp)) (first | assumption | exact ⟨by assumption, by assumption, by assumption⟩ | exact ⟨m0, m1, m2⟩ | exact ⟨(cell_off np).trans (by assumption), (cell_off np).trans (by assumption), (cell_off np).trans (by assumption)⟩)
        (first
          | (go_at_call 85; refine (R3.out _ _ _ _ (by with_reducible rfl) (by with_reducible rfl) (by with_reducible rfl) (by first | assumption | exact HB0.out)).mono ?_; rintro e wb ⟨rfl, kb, ⟨kb1, kb2, kb3⟩, kb4, kb5⟩))
      all_goals
        have I2 := MID.out _ kb
        clear R3 MID b0 b1 b2 hwb hwc m0 m1 m2 kb kb1 kb2 kb3 kb4 kb5
        have m0 := I2.x.cell0
        have m1 := I2.x.cell1
        have m2 := I2.x.cell2
        have c4 := I2.G.cell (x2 + j) hkN
        have z4 := I2.G.free (x2 + j)
        have I3 : MI w g N r c cp (flat c (colS M M' (j + 1))) _ := (I2.set (x2 + j) hkN mij).congr (G' := flat c (colS M M' (j + 1))) (fun t _ => by show (if t = x2 + j then mij else if t = x + j then mkj else flat c (colS M M' j) t) = _; rw [HXX.out, HXK.out, HMIJ.out, HMKJ.out]; exact swap_step M M' hlt HM.out (HMI.out j hlt) (HMK.out j hlt) t)
        have HI3 := hide I3
        have b0 : (0 : Int) ≤ (x2 : Int) + (j : Int) := by omega
        have b1 : (x2 : Int) + (j : Int) < (N : Int) := by omega
        have b2 : ((x2 : Int) + (j : Int)).toNat = x2 + j := by omega
        clear I2 I3
        generalize (World.setCell _ ⟨g, x + j, none⟩ (.int .i64 ((mkj.v : Nat) : Int))) = w9 at *
        go_wp2
        exact ⟨⟨j + 1, by omega, by go_num, HI3.out⟩, by simp [RowKit.intOf]; omega⟩
    · obtain rfl : j = c := by omega
      have b1 : ¬ (j : Int) < (j : Int) := by omega
      have HI := hide I
      clear I
      go_wp2
      go_end0
      exact ⟨rfl, HI.out.G.congr (fun t ht => QE.out t ht), HI.out.gr⟩
end Go.Proofs.YtklaeocnimkboaaGreatDoor

namespace Go.Proofs.YtklaeocnimkboaaGreatDoor
open Go.RowKit Go.Lib

theorem Br.mc {w : World} {b : Nat} {r c : Int} {v : Value} (h : Br w b r c v) : w.cell? ⟨b, 0, none⟩ = some (.int .i64 r) ∧ w.cell? ⟨b, 1, none⟩ = some (.int .i64 c) ∧ w.cell? ⟨b, 2, none⟩ = some v := ⟨h.cell0, h.cell1, h.cell2⟩
theorem kcells_vals (N : Nat) (A : Nat → K) : ints (vals N A) = kcells N A := by
  rw [ints, vals, kcells, List.map_map]; rfl
/-- A list of one's own is a block of elements. -/
theorem IL.kb {B N : Nat} {A : Nat → K} {w : World} {ao : Option Addr} {cap : Nat} (h : IL B (.slice ao N cap) (vals N A) w) (h0 : N ≠ 0) : ∃ g, ao = some ⟨g, 0, none⟩ ∧ KB w g N A ∧ N ≤ cap ∧ B ≤ g := by
  obtain ⟨h1, ⟨e, h2⟩ | ⟨g, cap', cur, e, hB, hg, hn, _, hs, ht⟩⟩ := h.own
  · rw [vals_length] at h2; exact absurd h2 h0
  · rw [vals_length] at e hn ht
    simp only [Value.slice.injEq, true_and] at e
    obtain ⟨rfl, rfl⟩ := e
    refine ⟨g, rfl, ⟨cur.toList.drop N, ?_⟩, hn, hB⟩
    rw [hg, ← kcells_vals, ← ht, Nat.mul_one, List.take_append_drop]

set_option maxRecDepth 100000 in
set_option maxHeartbeats 1600000 in
theorem copied_any {w : World} {f r c N : Nat} {va : Value} {A : Nat → K} (hA : NX w f va N (fun k => (((A k).v : Nat) : Int))) (h0 : N ≠ 0) (hN : N ≤ 1000) :
    Calls Tryz.prog 86 #[.agg #[.int .i64 r, .int .i64 c, va]] w fun e w' =>
      ∃ g cp, e = .returned (.agg #[.int .i64 r, .int .i64 c, .slice (some ⟨g, 0, none⟩) N cp]) ∧ KB w' g N A ∧ N ≤ cp ∧ w.heap.size ≤ g ∧ Below w.heap.size w w' := by
  obtain ⟨ba, oa, ca, rfl, ha3, ha4, ha5⟩ := hA.at h0
  obtain ⟨oA, hoA⟩ : ∃ o, o = Obj.cells #[.int .i64 r, .int .i64 c, .slice (some ⟨ba, oa, none⟩) N ca] 90 := ⟨_, rfl⟩
  obtain ⟨oR, hoR⟩ : ∃ o, o = Obj.cells #[.int .i64 0, .int .i64 0, .slice none 0 0] 90 := ⟨_, rfl⟩
  have L2 := below_alloc (below_alloc (Below.refl w.heap.size w) oA) oR
  have A2 := (hA.alloc oA).alloc oR
  have X1 := (show Br (w.alloc oA) w.heap.size r c (.slice (some ⟨ba, oa, none⟩) N ca) by rw [hoA]; exact Br.new _ _ _ _).alloc oR
  have X2 := show Br ((w.alloc oA).alloc oR) (w.alloc oA).heap.size 0 0 (.slice none 0 0) by rw [hoR]; exact Br.new _ _ _ _
  rw [show (w.alloc oA).heap.size = w.heap.size + 1 by simp] at X2
  have hsz : ((w.alloc oA).alloc oR).heap.size = w.heap.size + 2 := by simp
  obtain ⟨ao, cap, w', hr, hI, hb⟩ := IL.copy (B := w.heap.size + 2) (by omega) A2 h0 hN 1
  obtain ⟨g, rfl, hK, hc, hg⟩ := hI.kb h0
  have X1' := X1.below hb (Nat.le_refl _)
  have X2' := X2.below hb (Nat.le_refl _)
  have L' := below_step L2 hb
  have FIN : Hid (KB w' g N A ∧ N ≤ cap ∧ w.heap.size + 2 ≤ g ∧ Below w.heap.size w w' ∧ Br w' (w.heap.size + 1) 0 0 (.slice none 0 0)) := ⟨hK, hc, hg, L', X2'⟩
  obtain ⟨W, hW⟩ : ∃ W, W = (w.alloc oA).alloc oR := ⟨_, rfl⟩
  rw [hsz] at hr
  rw [← hW] at X1 hr hb hsz
  have p := X1
  have k := X1.alloc (.cells #[] 3)
  have p0 := hide X1.mc
  have k0 := hide k.mc
  have u0 := hide X1'.mc
  obtain ⟨hX5, g5⟩ := X2'.put (r : Int) (c : Int) (.slice (some ⟨g, 0, none⟩) N cap)
  have z0 := hide (X1'.of_block (g5.block _ X1'.lt (by simp))).mc
  clear hX5 g5
  have q0 := X1.cell0
  have q1 := X1.cell1
  have q2 := X1.cell2
  have v0 := X2'.cell0
  have v1 := X2'.cell1
  have v2 := X2'.cell2
  have f2 := X2'.free
  have HR := hide hr
  have HW : Hid (W = _) := hW
  rw [hoA, hoR] at HW
  clear hA L2 A2 X1 X2 hI hb hK X1' X2' L' hoA hoR hr hW p k
  go_enter Tryz.func86, Tryz.ntmps86
  go_wp2_with fail
  rw [← HW.out]
  clear HW
  go_region_held_law (fun w' => w'.cell? ⟨w.heap.size, 0, none⟩ = some (.int .i64 r) ∧ w'.cell? ⟨w.heap.size, 1, none⟩ = some (.int .i64 c) ∧ w'.cell? ⟨w.heap.size, 2, none⟩ = some (.slice (some ⟨ba, oa, none⟩) N ca)) (first | assumption | exact ⟨by assumption, by assumption, by assumption⟩ | exact p0.out | exact k0.out | exact u0.out | exact z0.out)
    (refine step_append_run rfl _ _ 77 77 rfl _ _ rfl rfl _ _ HR.out ?_)
  all_goals
    go_wp2
    obtain ⟨hK, hc, hg, L', X2'⟩ := FIN.out
    obtain ⟨hX5, g5⟩ := X2'.put (r : Int) (c : Int) (.slice (some ⟨g, 0, none⟩) N cap)
    refine bodyPost_ret (v := .agg #[.int .i64 r, .int .i64 c, .slice (some ⟨g, 0, none⟩) N cap]) (by simp [results, Tryz.results86, go_sem, hX5.cell0, hX5.cell1, hX5.cell2]) rfl ⟨g, cap, rfl, hK.of_block (g5.block g hK.lt (by simp; omega)), hc, by omega, below_gb L' g5 (by omega) L'.size⟩
end Go.Proofs.YtklaeocnimkboaaGreatDoor

namespace Go.Proofs.YtklaeocnimkboaaGreatDoor
open Go.RowKit Go.Lib

theorem lead_congr {R R' : Mt} {c : Nat} : ∀ (k a : Nat), (∀ i, a ≤ i → i < a + k → R i c = R' i c) → lead R c k a = lead R' c k a
  | 0, _, _ => rfl
  | k + 1, a, h => by
    rw [Go.Proofs.YtklaeocnimkboaaGreatDoor.lead, Go.Proofs.YtklaeocnimkboaaGreatDoor.lead, h a (Nat.le_refl _) (by omega), lead_congr k (a + 1) (fun i h1 h2 => h i (by omega) (by omega))]
theorem redu_full (m : Nat) (R : Mt) (c : Nat) (h : (redu m R c).2 = m) : ∀ d, (redu m R (c + d)).2 = m
  | 0 => h
  | d + 1 => by
    have e := redu_full m R c h d
    show (step m (redu m R (c + d)) (c + d)).2 = m
    rw [Go.Proofs.YtklaeocnimkboaaGreatDoor.step, e, Nat.sub_self]
    exact e
/-- The rows between a and n are cleared. -/
def fcl (R : Mt) (a c n : Nat) : Mt := fun i j => if i = a then R a j * K.inv (R a c) else if a < i ∧ i < n then R i j + R a j * K.inv (R a c) * R i c else R i j
theorem fcl_first (R : Mt) (a c : Nat) (i : Nat) : fcl R a c (a + 1) i = if i = a then (fun j => R a j * K.inv (R a c)) else R i := by
  funext j
  unfold fcl
  by_cases h : i = a
  · rw [if_pos h, if_pos h]
  · rw [if_neg h, if_neg h, if_neg (by omega)]
theorem fcl_old (R : Mt) (a c n i j : Nat) (h1 : i ≠ a) (h2 : n ≤ i) : fcl R a c n i j = R i j := by
  unfold fcl; rw [if_neg h1, if_neg (by omega)]
theorem fcl_other (R : Mt) (a c n i j : Nat) (h : i ≠ n) : fcl R a c (n + 1) i j = fcl R a c n i j := by
  unfold fcl
  by_cases h1 : i = a
  · rw [if_pos h1, if_pos h1]
  · rw [if_neg h1, if_neg h1]
    by_cases h2 : a < i ∧ i < n
    · rw [if_pos h2, if_pos (by omega)]
    · rw [if_neg h2, if_neg (by omega)]
theorem fcl_next (R : Mt) (a c n j : Nat) (h : a < n) : fcl R a c (n + 1) n j = fcl R a c n n j + fcl R a c n a j * R n c := by
  unfold fcl
  rw [if_neg (by omega), if_pos (by omega), if_neg (by omega), if_neg (by omega), if_pos rfl]
theorem fcl_all (R : Mt) (a c m i : Nat) (h1 : a ≤ i) (h2 : i < m) : fcl R a c m i = elim R a c i := by
  funext j
  unfold fcl elim
  by_cases h : i = a
  · rw [if_pos h, if_pos h]
  · rw [if_neg h, if_neg h, if_pos (by omega)]
theorem elim_congr {R R' : Mt} {a c i : Nat} (h1 : R a = R' a) (h2 : R i = R' i) : elim R a c i = elim R' a c i := by
  funext j
  unfold elim; rw [h1, h2]
theorem swp_congr {R R' : Mt} {a b m i : Nat} (h : ∀ k, a ≤ k → k < m → R k = R' k) (hb : a ≤ b) (hbm : b < m) (hi : a ≤ i) (him : i < m) : swp R a b i = swp R' a b i := by
  unfold swp
  split
  · exact h b hb hbm
  · split
    · exact h a (Nat.le_refl _) (by omega)
    · exact h i hi him

/-- A matrix in one block, its box, and the box of what was handed in. -/
structure RKI (w : World) (g N pb r c cp : Nat) (va : Value) (R : Mt) (wr : World) : Prop where
  G : KB wr g N (flat c R)
  a : Br wr w.heap.size r c va
  p : Br wr pb r c (.slice (some ⟨g, 0, none⟩) N cp)
  gr : Below w.heap.size w wr
theorem RKI.below {w : World} {g N pb r c cp : Nat} {va : Value} {R : Mt} {wr w' : World} (h : RKI w g N pb r c cp va R wr) (hb : Below wr.heap.size wr w') : RKI w g N pb r c cp va R w' :=
  ⟨h.G.below hb (Nat.le_refl _), h.a.below hb (Nat.le_refl _), h.p.below hb (Nat.le_refl _), below_step h.gr hb⟩
theorem RKI.turn {w : World} {g N pb r c cp : Nat} {va : Value} {R R' : Mt} {wr w' : World} (h : RKI w g N pb r c cp va R wr) (hK : KB w' g N (flat c R')) (hg : wr.grownBy w' (some g)) (hgs : w.heap.size ≤ g) : RKI w g N pb r c cp va R' w' :=
  ⟨hK, h.a.gb hg (h.a.ne h.G), h.p.gb hg (h.p.ne h.G), below_gb h.gr hg hgs h.gr.size⟩

end Go.Proofs.YtklaeocnimkboaaGreatDoor

namespace Go.Proofs.YtklaeocnimkboaaGreatDoor
open Go.RowKit Go.Lib

/-- What stands to the right of n columns. -/
def rt (n : Nat) (X : Mt) : Mt := fun i q => X i (n + q)
theorem redu_slow (m : Nat) (R : Mt) (c : Nat) : ∀ d, (redu m R (c + d)).2 ≤ (redu m R c).2 + d
  | 0 => Nat.le_refl _
  | d + 1 => by
    have e := redu_slow m R c d
    show (step m (redu m R (c + d)) (c + d)).2 ≤ _
    unfold step
    split
    · omega
    · show (redu m R (c + d)).2 + 1 ≤ _
      omega
theorem clr_zero (R : Mt) (a c i : Nat) : clr R a c 0 i = if i = a then (fun j => R a j * K.inv (R a c)) else R i := by
  funext j
  unfold clr
  by_cases h : i = a
  · rw [if_pos h, if_pos h]
  · rw [if_neg h, if_neg h, if_neg (Nat.not_lt_zero _)]
theorem clr_old (R : Mt) (a c n i j : Nat) (h1 : i ≠ a) (h2 : n ≤ i) : clr R a c n i j = R i j := by
  unfold clr; rw [if_neg h1, if_neg (by omega)]
theorem clr_other (R : Mt) (a c n i : Nat) (h : i ≠ n) : clr R a c (n + 1) i = clr R a c n i := by
  funext j
  unfold clr
  by_cases h1 : i = a
  · rw [if_pos h1, if_pos h1]
  · rw [if_neg h1, if_neg h1]
    by_cases h2 : i < n
    · rw [if_pos h2, if_pos (by omega)]
    · rw [if_neg h2, if_neg (by omega)]
theorem clr_next (R : Mt) (a c n j : Nat) (h : n ≠ a) : clr R a c (n + 1) n j = clr R a c n n j + clr R a c n a j * R n c := by
  unfold clr
  rw [if_neg h, if_pos (by omega), if_neg h, if_neg (by omega), if_pos rfl]
theorem clr_self (R : Mt) (a c : Nat) : clr R a c (a + 1) = clr R a c a := by
  funext i
  by_cases h : i = a
  · funext j; unfold clr; rw [if_pos h, if_pos h]
  · exact clr_other R a c a i h
theorem clr_skip (R : Mt) (a c n : Nat) (h : n ≠ a) (h0 : R n c = 0) : clr R a c (n + 1) = clr R a c n := by
  funext i
  by_cases e : i = n
  · subst e; funext j; rw [clr_next R a c i j h, h0, K.mul_zero, K.add_zero]
  · exact clr_other R a c n i e
theorem clr_all (R : Mt) (a c m i : Nat) (h2 : i < m) : clr R a c m i = elim R a c i := by
  funext j
  unfold clr elim
  by_cases h : i = a
  · rw [if_pos h, if_pos h]
  · rw [if_neg h, if_neg h, if_pos h2]
theorem wideM_left (n : Nat) (A : Nat → K) (t : Nat) (h : t < n * n) : A t = flat n (wideM n A) t := by
  rw [flat, wideM, if_pos (mod_lt' h), Nat.mul_comm, Nat.div_add_mod]
theorem wideM_right (n : Nat) (A : Nat → K) : rt n (wideM n A) = dl := by
  funext i q
  rw [rt, wideM, if_neg (by omega), show n + q - n = q by omega]

/-- Two matrices in a block each, their boxes, and the boxes of what is handed in and out. -/
structure IV (w : World) (gl gr N pl pr n cl cr : Nat) (va : Value) (X Y : Mt) (wr : World) : Prop where
  L : KB wr gl N (flat n X)
  R : KB wr gr N (flat n (rt n Y))
  a : Br wr w.heap.size n n va
  z : Br wr (w.heap.size + 1) 0 0 (.slice none 0 0)
  p : Br wr pl n n (.slice (some ⟨gl, 0, none⟩) N cl)
  q : Br wr pr n n (.slice (some ⟨gr, 0, none⟩) N cr)
  ne : gl ≠ gr
  gb : Below w.heap.size w wr
section
variable {w : World} {gl gr N pl pr n cl cr : Nat} {va : Value} {X Y X' Y' : Mt} {wr w' : World}
theorem IV.below (h : IV w gl gr N pl pr n cl cr va X Y wr) (hb : Below wr.heap.size wr w') : IV w gl gr N pl pr n cl cr va X Y w' :=
  ⟨h.L.below hb (Nat.le_refl _), h.R.below hb (Nat.le_refl _), h.a.below hb (Nat.le_refl _), h.z.below hb (Nat.le_refl _), h.p.below hb (Nat.le_refl _), h.q.below hb (Nat.le_refl _), h.ne, below_step h.gb hb⟩
theorem IV.turnL (h : IV w gl gr N pl pr n cl cr va X Y wr) (hK : KB w' gl N (flat n X')) (hg : wr.grownBy w' (some gl)) (hgs : w.heap.size ≤ gl) : IV w gl gr N pl pr n cl cr va X' Y w' :=
  ⟨hK, h.R.of_block (hg.block _ h.R.lt (by simp; exact fun e => h.ne e.symm)), h.a.gb hg (h.a.ne h.L), h.z.gb hg (h.z.ne h.L), h.p.gb hg (h.p.ne h.L), h.q.gb hg (h.q.ne h.L), h.ne, below_gb h.gb hg hgs h.gb.size⟩
theorem IV.turnR (h : IV w gl gr N pl pr n cl cr va X Y wr) (hK : KB w' gr N (flat n (rt n Y'))) (hg : wr.grownBy w' (some gr)) (hgs : w.heap.size ≤ gr) : IV w gl gr N pl pr n cl cr va X Y' w' :=
  ⟨h.L.of_block (hg.block _ h.L.lt (by simp; exact h.ne)), hK, h.a.gb hg (h.a.ne h.R), h.z.gb hg (h.z.ne h.R), h.p.gb hg (h.p.ne h.R), h.q.gb hg (h.q.ne h.R), h.ne, below_gb h.gb hg hgs h.gb.size⟩
theorem IV.congr (h : IV w gl gr N pl pr n cl cr va X Y wr) (e1 : ∀ t, t < N → flat n X t = flat n X' t) (e2 : ∀ t, t < N → flat n (rt n Y) t = flat n (rt n Y') t) : IV w gl gr N pl pr n cl cr va X' Y' wr :=
  ⟨h.L.congr e1, h.R.congr e2, h.a, h.z, h.p, h.q, h.ne, h.gb⟩
end

set_option maxRecDepth 100000 in
set_option maxHeartbeats 1600000 in
theorem refInverse_ok {w : World} {f n : Nat} {va : Value} {A : Nat → K} (a1 : 1 ≤ n) (a2 : n ≤ 255) (hnn : n * n ≤ 1000)
    (hA : NX w f va (n * n) (fun k => (((A k).v : Nat) : Int))) :
    Calls Tryz.prog 57 #[.agg #[.int .i64 n, .int .i64 n, va]] w fun e w' =>
      (((redu n (wideM n A) n).2 = n ∧ ∃ g cp, e = .returned (.tuple #[.agg #[.int .i64 n, .int .i64 n, .slice (some ⟨g, 0, none⟩) (n * n) cp], .int .i64 0]) ∧ n * n ≤ cp ∧ KB w' g (n * n) (flat n (fun i j => (redu n (wideM n A) n).1 i (n + j))) ∧ w.heap.size ≤ g) ∨
       ((redu n (wideM n A) n).2 < n ∧ e = .returned (.tuple #[.agg #[.int .i64 0, .int .i64 0, .slice none 0 0], .int .i64 40]))) ∧ Below w.heap.size w w' := by
  have hN0 : n * n ≠ 0 := Nat.mul_ne_zero (by omega) (by omega)
  obtain ⟨ba, oa, ca, rfl, ha3, ha4, ha5⟩ := hA.at hN0
  have EA := chk_ok a1 a2 a1 a2 A
  have hfm : ∀ k, k < n * n → A k = flat n (wideM n A) k := fun k hk => wideM_left n A k hk
  have hrt := wideM_right n A
  obtain ⟨M, hM⟩ : ∃ M, M = wideM n A := ⟨_, rfl⟩
  rw [← hM] at hfm hrt ⊢
  have HC : Hid (∀ w', Below w.heap.size w w' → Calls Tryz.prog 86 #[.agg #[.int .i64 n, .int .i64 n, .slice (some ⟨ba, oa, none⟩) (n * n) ca]] w' fun e w'' =>
      ∃ g cp, e = .returned (.agg #[.int .i64 n, .int .i64 n, .slice (some ⟨g, 0, none⟩) (n * n) cp]) ∧ KB w'' g (n * n) (flat n M) ∧ n * n ≤ cp ∧ w'.heap.size ≤ g ∧ Below w'.heap.size w' w'') := by
    intro w' hb
    refine (copied_any (hA.below hb) hN0 hnn).mono ?_
    rintro e w'' ⟨g, cp, rfl, hK, hcp, hg, hb'⟩
    exact ⟨g, cp, rfl, hK.congr hfm, hcp, hg, hb'⟩
  have ONE : Hid (∀ w' : World, Calls Tryz.prog 87 #[.int .i64 n] w' fun e w'' => ∃ g, e = .returned (.tuple #[.agg #[.int .i64 n, .int .i64 n, .slice (some ⟨g, 0, none⟩) (n * n) (n * n)], .int .i64 0]) ∧ KB w'' g (n * n) (flat n (rt n M)) ∧ w'.heap.size ≤ g ∧ Below w'.heap.size w' w'') := fun w' => by rw [hrt]; exact refOne_ok w' n a1 a2
  have LEAD : Hid (∀ (w' : World) (g a j cp k : Nat) (R : Mt), KB w' g (n * n) (flat n R) → a + k = n → j < n → n * n ≤ cp → Calls Tryz.prog 88 #[.agg #[.int .i64 n, .int .i64 n, .slice (some ⟨g, 0, none⟩) (n * n) cp], .int .i64 a, .int .i64 j] w' fun e w'' =>
      e = .returned (.int .i64 (match lead R j k a with | none => -1 | some n => (n : Int))) ∧ Below w'.heap.size w' w'') := fun w' g a j cp k R h1 h2 h3 h4 => lead_any h1 h2 a2 h3 (by omega) h4
  have SWAP : Hid (∀ (w' : World) (g m a cp : Nat) (R R' : Mt), KB w' g (n * n) (flat n R) → m < n → a < n → n * n ≤ cp → (∀ i, i ≠ m → i ≠ a → ∀ q, R' i q = R i q) → (∀ q, q < n → R' m q = R a q) → (∀ q, q < n → R' a q = R m q) → Calls Tryz.prog 89 #[.agg #[.int .i64 n, .int .i64 n, .slice (some ⟨g, 0, none⟩) (n * n) cp], .int .i64 m, .int .i64 a] w' fun e w'' =>
      e = .returned (.tuple #[]) ∧ KB w'' g (n * n) (flat n R') ∧ w'.grownBy w'' (some g)) := fun w' g m a cp R R' h1 h2 h3 h4 h5 h6 h7 => swap_any h1 h2 h3 a2 (by omega) h4 R' h5 h6 h7
  have AT : Hid (∀ (w' : World) (g i j cp : Nat) (R : Mt), KB w' g (n * n) (flat n R) → i < n → j < n → n * n ≤ cp → Calls Tryz.prog 85 #[.agg #[.int .i64 n, .int .i64 n, .slice (some ⟨g, 0, none⟩) (n * n) cp], .int .i64 i, .int .i64 j] w' fun e w'' =>
      e = .returned (.int .i64 (((R i j).v : Nat) : Int)) ∧ Below w'.heap.size w' w'') := by
    intro w' g i j cp R h1 h2 h3 h4
    have hl := at_lt h2 h3
    have := at_any (r := (n : Int)) (c := n) (i := i) (j := j) (h1.nx (f := g + 1) (c := cp) h4 (by omega)) rfl hl (by omega) (by omega)
    rw [show flat n R (i * n + j) = R i j by rw [flat, div_at h3, mod_at h3]] at this
    exact this
  have SCL : Hid (∀ (w' : World) (g i cp : Nat) (R R' : Mt) (y : K), KB w' g (n * n) (flat n R) → i < n → n * n ≤ cp → (∀ a, a ≠ i → ∀ q, R' a q = R a q) → (∀ q, q < n → R' i q = R i q * y) → Calls Tryz.prog 90 #[.agg #[.int .i64 n, .int .i64 n, .slice (some ⟨g, 0, none⟩) (n * n) cp], .int .i64 i, .int .i64 ((y.v : Nat) : Int)] w' fun e w'' =>
      e = .returned (.tuple #[]) ∧ KB w'' g (n * n) (flat n R') ∧ w'.grownBy w'' (some g)) := fun w' g i cp R R' y h1 h2 h3 h4 h5 => scale_any h1 h2 a2 (by omega) h3 y R' h4 h5
  have ADD : Hid (∀ (w' : World) (g i k cp : Nat) (R R' : Mt) (y : K), KB w' g (n * n) (flat n R) → i < n → k < n → i ≠ k → n * n ≤ cp → (∀ a, a ≠ i → ∀ q, R' a q = R a q) → (∀ q, q < n → R' i q = R i q + R k q * y) → Calls Tryz.prog 91 #[.agg #[.int .i64 n, .int .i64 n, .slice (some ⟨g, 0, none⟩) (n * n) cp], .int .i64 i, .int .i64 k, .int .i64 ((y.v : Nat) : Int)] w' fun e w'' =>
      e = .returned (.tuple #[]) ∧ KB w'' g (n * n) (flat n R') ∧ w'.grownBy w'' (some g)) := fun w' g i k cp R R' y h1 h2 h3 h4 h5 h6 h7 => radd_any h1 h2 h3 h4 a2 (by omega) h5 y R' h6 h7
  have DIV : Hid (∀ t, t < n * n → t / n < n) := fun t ht => div_lt ht
  generalize n * n = N at *
  obtain ⟨oA, hoA⟩ : ∃ o, o = Obj.cells #[.int .i64 n, .int .i64 n, .slice (some ⟨ba, oa, none⟩) N ca] 90 := ⟨_, rfl⟩
  obtain ⟨oR, hoR⟩ : ∃ o, o = Obj.cells #[.int .i64 0, .int .i64 0, .slice none 0 0] 90 := ⟨_, rfl⟩
  have L2 := below_alloc (below_alloc (Below.refl w.heap.size w) oA) oR
  have A2 := (hA.alloc oA).alloc oR
  have X1 := (show Br (w.alloc oA) w.heap.size n n (.slice (some ⟨ba, oa, none⟩) N ca) by rw [hoA]; exact Br.new _ _ _ _).alloc oR
  have X2 := show Br ((w.alloc oA).alloc oR) (w.alloc oA).heap.size 0 0 (.slice none 0 0) by rw [hoR]; exact Br.new _ _ _ _
  rw [show (w.alloc oA).heap.size = w.heap.size + 1 by simp] at X2
  rw [hoA, hoR] at L2 A2 X1 X2
  have HA1 := hide A2
  have HX1 := hide X1
  have HX2 := hide X2
  have HL1 := hide L2
  clear A2 X1 X2 L2 hA hM hfm hrt hoA hoR
  go_enter Tryz.func57, Tryz.ntmps57
  go_wp2_with fail
  refine (refCheck_any HA1.out (by omega)).mono ?_
  rintro e w1 ⟨rfl, k1⟩
  rw [EA]
  have X1 := HX1.out.below k1 (Nat.le_refl _)
  have X2 := HX2.out.below k1 (Nat.le_refl _)
  have L1 := below_step HL1.out k1
  have m0 := X1.cell0
  have m1 := X1.cell1
  have m2 := X1.cell2
  clear HX1 HL1 HA1 HX2 k1
  have HX1 := hide X1
  have HX2 := hide X2
  have HL1 := hide L1
  clear X1 X2 L1
  go_wp2_with fail
  refine (HC.out _ HL1.out).mono ?_
  rintro e w2 ⟨gl, cl, rfl, hKl, hcl, hgl, k2⟩
  have hgls : w.heap.size ≤ gl := Nat.le_trans HL1.out.size hgl
  have X1 := (HX1.out.below k2 (Nat.le_refl _)).alloc (.cells #[.int .i64 n, .int .i64 n, .slice (some ⟨gl, 0, none⟩) N cl] 90)
  have X2 := (HX2.out.below k2 (Nat.le_refl _)).alloc (.cells #[.int .i64 n, .int .i64 n, .slice (some ⟨gl, 0, none⟩) N cl] 90)
  have L2 := below_alloc (below_step HL1.out k2) (.cells #[.int .i64 n, .int .i64 n, .slice (some ⟨gl, 0, none⟩) N cl] 90)
  have P1 := Br.new w2 n n (.slice (some ⟨gl, 0, none⟩) N cl)
  have K1 := hKl.alloc (.cells #[.int .i64 n, .int .i64 n, .slice (some ⟨gl, 0, none⟩) N cl] 90)
  clear HX1 HX2 HL1 m0 m1 m2 k2 hKl hgl
  have m0 := X1.cell0
  have m1 := X1.cell1
  have m2 := X1.cell2
  have HX1 := hide X1
  have HX2 := hide X2
  have HL1 := hide L2
  have HP1 := hide P1
  have HK1 := hide K1
  clear X1 X2 L2 P1 K1 HC
  go_wp2_with fail
  refine (ONE.out _).mono ?_
  rintro e w3 ⟨gr, rfl, hKr, hgr, k3⟩
  have hgrs : w.heap.size ≤ gr := Nat.le_trans HL1.out.size hgr
  have hne : gl ≠ gr := by have := HK1.out.lt; omega
  have I : IV w gl gr N w2.heap.size w3.heap.size n cl N (.slice (some ⟨ba, oa, none⟩) N ca) M M (w3.alloc (.cells #[.int .i64 n, .int .i64 n, .slice (some ⟨gr, 0, none⟩) N N] 90)) :=
    ⟨(HK1.out.below k3 (Nat.le_refl _)).alloc _, hKr.alloc _, (HX1.out.below k3 (Nat.le_refl _)).alloc _, (HX2.out.below k3 (Nat.le_refl _)).alloc _, (HP1.out.below k3 (Nat.le_refl _)).alloc _, Br.new _ _ _ _, hne, below_alloc (below_step HL1.out k3) _⟩
  have HI := hide I
  clear HX1 HX2 HL1 HP1 HK1 I k3 hKr hgr m0 m1 m2 ONE
  go_wp2
  go_loopw [8] (fun z wr => ∃ j : Nat, j ≤ n ∧ z = .int .i64 j ∧ (redu n M j).2 = j ∧ IV w gl gr N w2.heap.size w3.heap.size n cl N (.slice (some ⟨ba, oa, none⟩) N ca) (redu n M j).1 (redu n M j).1 wr) (fun z _ => n - (RowKit.intOf z).toNat)
  case atStart => exact ⟨0, Nat.zero_le _, rfl, rfl, HI.out⟩
  case round =>
    obtain ⟨j, hj, rfl, hr2, I⟩ := hrel
    clear HI
    have hst0 : redu n M (j + 1) = step n (redu n M j) j := rfl
    have hend : ∀ d, (redu n M (j + 1 + d)).2 ≤ (redu n M (j + 1)).2 + d := redu_slow n M (j + 1)
    obtain ⟨X, hX⟩ : ∃ X, X = (redu n M j).1 := ⟨_, rfl⟩
    rw [← hX] at I
    have m0 := I.a.cell0
    have m1 := I.a.cell1
    by_cases hlt : j < n
    · have b1 : (j : Int) < (n : Int) := by omega
      have p0 := I.p.cell0
      have p1 := I.p.cell1
      have p2 := I.p.cell2
      have HLD : Hid _ := LEAD.out wr gl j j cl (n - j) X I.L (by omega) hlt hcl
      cases hld : lead X j (n - j) j with
      | none =>
        have hst : redu n M (j + 1) = redu n M j := by rw [hst0]; unfold step; rw [hr2, ← hX, hld]
        have HE : Hid ((redu n M n).2 < n) := by
          have := hend (n - (j + 1))
          rw [show j + 1 + (n - (j + 1)) = n by omega, hst, hr2] at this
          show _ < _
          omega
        rw [hld] at HLD
        have HI := hide I
        clear I hst hX hld hst0 hend hr2
        go_wp2_with fail
        refine Calls.mono HLD.out ?_
        rintro e w4 ⟨rfl, q4⟩
        have I4 := HI.out.below q4
        clear HI q4 m0 m1 p0 p1 p2 HLD
        have z0 := I4.z.cell0
        have z1 := I4.z.cell1
        have z2 := I4.z.cell2
        have zf := I4.z.free
        have HI4 := hide I4
        clear I4
        go_wp2
        obtain ⟨hX5, g5⟩ := HI4.out.z.put (0 : Int) (0 : Int) (.slice none 0 0)
        exact bodyPost_ret (v := .tuple #[.agg #[.int .i64 0, .int .i64 0, .slice none 0 0], .int .i64 40]) (by simp [results, Tryz.results57, go_sem, hX5.cell0, hX5.cell1, hX5.cell2]) rfl ⟨.inr ⟨HE.out, rfl⟩, below_gb HI4.out.gb g5 (by omega) HI4.out.gb.size⟩
      | some m =>
        obtain ⟨n1, n2, n3, n4⟩ := lead_some hld
        have hst : redu n M (j + 1) = (elim (swp X j m) j j, j + 1) := by rw [hst0]; unfold step; rw [hr2, ← hX, hld]
        rw [hld] at HLD
        have hmn : m < n := by omega
        obtain ⟨X1, hX1⟩ : ∃ X1, X1 = swp X j m := ⟨_, rfl⟩
        have s1 : ∀ i, i ≠ m → i ≠ j → ∀ q, X1 i q = X i q := fun i e1 e2 q => by rw [hX1]; unfold swp; rw [if_neg e2, if_neg e1]
        have s2 : ∀ q, X1 m q = X j q := fun q => by rw [hX1]; unfold swp; split; (rename_i e; rw [e]); rw [if_pos rfl]
        have s3 : ∀ q, X1 j q = X m q := fun q => by rw [hX1]; unfold swp; rw [if_pos rfl]
        have hpv : X1 j j ≠ 0 := by rw [s3]; exact n3
        rw [← hX1] at hst
        have HI := hide I
        have HST := hide hst
        have HPV := hide hpv
        have HS1 := hide s1
        have HS2 := hide s2
        have HS3 := hide s3
        have b4 : ¬ (m : Int) < 0 := by omega
        clear I hst hX hld hst0 hend hr2 n2 n3 n4 hX1 hpv s1 s2 s3
        go_wp2_with fail
        refine Calls.mono HLD.out ?_
        rintro e w4 ⟨rfl, q4⟩
        have I := HI.out.below q4
        clear HI q4 m0 m1 p0 p1 p2 HLD
        have p0 := I.p.cell0
        have p1 := I.p.cell1
        have p2 := I.p.cell2
        have HC : Hid _ := SWAP.out w4 gl m j cl X X1 I.L hmn hlt hcl HS1.out (fun q _ => HS2.out q) (fun q _ => HS3.out q)
        have HI := hide I
        clear I
        go_wp2_with fail
        refine Calls.mono HC.out ?_
        rintro e w5 ⟨rfl, hK5, g5⟩
        have I := HI.out.turnL hK5 g5 hgls
        clear HI hK5 g5 p0 p1 p2 HC
        have p0 := I.q.cell0
        have p1 := I.q.cell1
        have p2 := I.q.cell2
        have HC : Hid _ := SWAP.out w5 gr m j N (rt n X) (rt n X1) I.R hmn hlt (Nat.le_refl _) (fun i e1 e2 q => HS1.out i e1 e2 _) (fun q _ => HS2.out _) (fun q _ => HS3.out _)
        have HI := hide I
        clear I
        go_wp2_with fail
        refine Calls.mono HC.out ?_
        rintro e w6 ⟨rfl, hK6, g6⟩
        have I := HI.out.turnR hK6 g6 hgrs
        clear HI hK6 g6 p0 p1 p2 HC
        have p0 := I.p.cell0
        have p1 := I.p.cell1
        have p2 := I.p.cell2
        obtain ⟨x, hx⟩ : ∃ x, x = X1 j j := ⟨_, rfl⟩
        have HC : Hid _ := AT.out w6 gl j j cl X1 I.L hlt hlt hcl
        rw [← hx] at HC
        have HOV : Hid (∀ w' : World, Calls Tryz.prog 73 #[.int .i64 1, .int .i64 ((x.v : Nat) : Int)] w' fun e w'' => e = .returned (.int .i64 (((K.inv x).v : Nat) : Int)) ∧ w'' = w') := fun w' => over_any 1 x.v (by decide) x.lt (K.v_ne (by rw [hx]; exact HPV.out)) w'
        have HX := hide hx
        have HI := hide I
        clear I hx
        go_wp2_with fail
        refine Calls.mono HC.out ?_
        rintro e w7 ⟨rfl, q7⟩
        have I := HI.out.below q7
        clear HI q7 p0 p1 p2 HC
        have p0 := I.p.cell0
        have p1 := I.p.cell1
        have p2 := I.p.cell2
        have HI := hide I
        clear I
        go_wp2_with fail
        refine Calls.mono (HOV.out _) ?_
        rintro e w8 ⟨rfl, hw8⟩
        subst w8
        clear HOV
        have HC : Hid _ := SCL.out w7 gl j cl X1 (clr X1 j j 0) (K.inv x) HI.out.L hlt hcl (fun a ha q => by rw [clr_zero, if_neg ha]) (fun q _ => by rw [clr_zero, if_pos rfl, HX.out])
        have HCR : Hid (∀ w', IV w gl gr N w2.heap.size w3.heap.size n cl N (.slice (some ⟨ba, oa, none⟩) N ca) (clr X1 j j 0) X1 w' → Calls Tryz.prog 90 #[.agg #[.int .i64 n, .int .i64 n, .slice (some ⟨gr, 0, none⟩) N N], .int .i64 j, .int .i64 (((K.inv x).v : Nat) : Int)] w' fun e w'' => e = .returned (.tuple #[]) ∧ IV w gl gr N w2.heap.size w3.heap.size n cl N (.slice (some ⟨ba, oa, none⟩) N ca) (clr X1 j j 0) (clr X1 j j 0) w'') := by
          intro w' I'
          refine (SCL.out w' gr j N (rt n X1) (rt n (clr X1 j j 0)) (K.inv x) I'.R hlt (Nat.le_refl _) (fun a ha q => by rw [rt, rt, clr_zero, if_neg ha]) (fun q _ => by rw [rt, rt, clr_zero, if_pos rfl, HX.out])).mono ?_
          rintro e w'' ⟨rfl, hK, hg⟩
          exact ⟨rfl, I'.turnR hK hg hgrs⟩
        clear HX
        generalize (K.inv x).v = ix at *
        generalize x.v = xv at *
        go_wp2_with fail
        refine Calls.mono HC.out ?_
        rintro e w8 ⟨rfl, hK8, g8⟩
        have I := HI.out.turnL hK8 g8 hgls
        clear HI hK8 g8 p0 p1 p2 HC
        have p0 := I.q.cell0
        have p1 := I.q.cell1
        have p2 := I.q.cell2
        have HI := hide I
        clear I
        go_wp2_with fail
        refine Calls.mono (HCR.out _ HI.out) ?_
        rintro e w9 ⟨rfl, I⟩
        clear HI p0 p1 p2 HCR
        have HI := hide I
        clear I
        go_wp2
        go_loopw [11] (fun z wr => ∃ i : Nat, i ≤ n ∧ z = .int .i64 i ∧ IV w gl gr N w2.heap.size w3.heap.size n cl N (.slice (some ⟨ba, oa, none⟩) N ca) (clr X1 j j i) (clr X1 j j i) wr) (fun z _ => n - (RowKit.intOf z).toNat)
        case atStart => exact ⟨0, Nat.zero_le _, rfl, HI.out⟩
        case round =>
          obtain ⟨i, hi, rfl, I⟩ := hrel
          clear HI
          have m0 := I.a.cell0
          by_cases hlt3 : i < n
          · have b3 : (i : Int) < (n : Int) := by omega
            by_cases hij : i = j
            · subst hij
              have HI := hide I
              clear I
              go_wp2
              exact ⟨⟨i + 1, by omega, by go_num, by rw [clr_self]; exact HI.out⟩, by simp [RowKit.intOf]; omega⟩
            · have b5 : ((i : Int) != (j : Int)) = true := by simp; omega
              have b6 : ¬ ((i : Int) = (j : Int)) := by omega
              have p0 := I.p.cell0
              have p1 := I.p.cell1
              have p2 := I.p.cell2
              obtain ⟨y, hy⟩ : ∃ y, y = X1 i j := ⟨_, rfl⟩
              have HAT : Hid (∀ w', IV w gl gr N w2.heap.size w3.heap.size n cl N (.slice (some ⟨ba, oa, none⟩) N ca) (clr X1 j j i) (clr X1 j j i) w' → Calls Tryz.prog 85 #[.agg #[.int .i64 n, .int .i64 n, .slice (some ⟨gl, 0, none⟩) N cl], .int .i64 i, .int .i64 j] w' fun e w'' => e = .returned (.int .i64 ((y.v : Nat) : Int)) ∧ IV w gl gr N w2.heap.size w3.heap.size n cl N (.slice (some ⟨ba, oa, none⟩) N ca) (clr X1 j j i) (clr X1 j j i) w'') := by
                intro w' I'
                refine (AT.out w' gl i j cl (clr X1 j j i) I'.L hlt3 hlt hcl).mono ?_
                rintro e w'' ⟨rfl, q⟩
                exact ⟨by rw [clr_old _ _ _ _ _ _ hij (Nat.le_refl _), hy], I'.below q⟩
              have HI := hide I
              clear I
              by_cases hy0 : y = 0
              · have hyv : ((y.v : Nat) : Int) = 0 := by rw [hy0]; rfl
                have HSK : Hid (clr X1 j j (i + 1) = clr X1 j j i) := clr_skip X1 j j i hij (by rw [← hy, hy0])
                rw [hyv] at HAT
                have HIJ := hide hij
                clear hy hy0 hyv hij
                go_wp2_with fail
                refine Calls.mono (HAT.out _ HI.out) ?_
                rintro e w10 ⟨rfl, I⟩
                clear HI p0 p1 p2 HAT m0
                have HI := hide I
                clear I
                go_wp2
                exact ⟨⟨i + 1, by omega, by go_num, by rw [HSK.out]; exact HI.out⟩, by simp [RowKit.intOf]; omega⟩
              · have hyv : (((y.v : Nat) : Int) != 0) = true := by have := K.v_ne hy0; simp; omega
                have hyw : ¬ (((y.v : Nat) : Int) = 0) := by have := K.v_ne hy0; omega
                have HAL : Hid (∀ w', IV w gl gr N w2.heap.size w3.heap.size n cl N (.slice (some ⟨ba, oa, none⟩) N ca) (clr X1 j j i) (clr X1 j j i) w' → Calls Tryz.prog 91 #[.agg #[.int .i64 n, .int .i64 n, .slice (some ⟨gl, 0, none⟩) N cl], .int .i64 i, .int .i64 j, .int .i64 ((y.v : Nat) : Int)] w' fun e w'' => e = .returned (.tuple #[]) ∧ IV w gl gr N w2.heap.size w3.heap.size n cl N (.slice (some ⟨ba, oa, none⟩) N ca) (clr X1 j j (i + 1)) (clr X1 j j i) w'') := by
                  intro w' I'
                  refine (ADD.out w' gl i j cl (clr X1 j j i) (clr X1 j j (i + 1)) y I'.L hlt3 hlt hij hcl (fun a ha q => by rw [clr_other _ _ _ _ _ ha]) (fun q _ => by rw [clr_next _ _ _ _ _ hij, hy])).mono ?_
                  rintro e w'' ⟨rfl, hK, hg⟩
                  exact ⟨rfl, I'.turnL hK hg hgls⟩
                have HAR : Hid (∀ w', IV w gl gr N w2.heap.size w3.heap.size n cl N (.slice (some ⟨ba, oa, none⟩) N ca) (clr X1 j j (i + 1)) (clr X1 j j i) w' → Calls Tryz.prog 91 #[.agg #[.int .i64 n, .int .i64 n, .slice (some ⟨gr, 0, none⟩) N N], .int .i64 i, .int .i64 j, .int .i64 ((y.v : Nat) : Int)] w' fun e w'' => e = .returned (.tuple #[]) ∧ IV w gl gr N w2.heap.size w3.heap.size n cl N (.slice (some ⟨ba, oa, none⟩) N ca) (clr X1 j j (i + 1)) (clr X1 j j (i + 1)) w'') := by
                  intro w' I'
                  refine (ADD.out w' gr i j N (rt n (clr X1 j j i)) (rt n (clr X1 j j (i + 1))) y I'.R hlt3 hlt hij (Nat.le_refl _) (fun a ha q => by rw [rt, rt, clr_other _ _ _ _ _ ha]) (fun q _ => by rw [rt, rt, rt, clr_next _ _ _ _ _ hij, hy])).mono ?_
                  rintro e w'' ⟨rfl, hK, hg⟩
                  exact ⟨rfl, I'.turnR hK hg hgrs⟩
                have HIJ := hide hij
                clear hy hy0 hij
                generalize y.v = yv at *
                go_wp2_with fail
                refine Calls.mono (HAT.out _ HI.out) ?_
                rintro e w10 ⟨rfl, I⟩
                clear HI p0 p1 p2 m0
                have p0 := I.p.cell0
                have p1 := I.p.cell1
                have p2 := I.p.cell2
                have HI := hide I
                clear I
                go_wp2_with fail
                refine Calls.mono (HAT.out _ HI.out) ?_
                rintro e w11 ⟨rfl, I⟩
                clear HI p0 p1 p2 HAT
                have p0 := I.p.cell0
                have p1 := I.p.cell1
                have p2 := I.p.cell2
                have HI := hide I
                clear I
                go_wp2_with fail
                refine Calls.mono (HAL.out _ HI.out) ?_
                rintro e w12 ⟨rfl, I⟩
                clear HI p0 p1 p2 HAL
                have p0 := I.q.cell0
                have p1 := I.q.cell1
                have p2 := I.q.cell2
                have HI := hide I
                clear I
                go_wp2_with fail
                refine Calls.mono (HAR.out _ HI.out) ?_
                rintro e w13 ⟨rfl, I⟩
                clear HI p0 p1 p2 HAR
                have HI := hide I
                clear I
                go_wp2
                exact ⟨⟨i + 1, by omega, by go_num, HI.out⟩, by simp [RowKit.intOf]; omega⟩
          · obtain rfl : i = n := by omega
            have b3 : ¬ (i : Int) < (i : Int) := by omega
            have HI := hide I
            clear I
            go_wp2
            refine ⟨⟨j + 1, by omega, by go_num, by rw [HST.out], ?_⟩, by simp [RowKit.intOf]; omega⟩
            rw [HST.out]
            exact HI.out.congr (fun t ht => by rw [flat, flat, clr_all _ _ _ _ _ (DIV.out t ht)]) (fun t ht => by rw [flat, flat, rt, rt, clr_all _ _ _ _ _ (DIV.out t ht)])
    · obtain rfl : j = n := by omega
      have b1 : ¬ (j : Int) < (j : Int) := by omega
      have p0 := I.q.cell0
      have p1 := I.q.cell1
      have p2 := I.q.cell2
      have z0 := I.z.cell0
      have z1 := I.z.cell1
      have z2 := I.z.cell2
      have zf := I.z.free
      have hzr := I.z.ne I.R
      have HR2 := hide hr2
      have HX := hide hX
      have HI := hide I
      clear I hX hst0 hend hr2
      go_wp2
      obtain ⟨hX5, g5⟩ := HI.out.z.put (j : Int) (j : Int) (.slice (some ⟨gr, 0, none⟩) N N)
      refine bodyPost_ret (v := .tuple #[.agg #[.int .i64 j, .int .i64 j, .slice (some ⟨gr, 0, none⟩) N N], .int .i64 0]) (by simp [results, Tryz.results57, go_sem, hX5.cell0, hX5.cell1, hX5.cell2]) rfl ⟨.inl ⟨HR2.out, gr, N, rfl, Nat.le_refl _, ?_, hgrs⟩, below_gb HI.out.gb g5 (by omega) HI.out.gb.size⟩
      rw [← HX.out]
      exact HI.out.R.of_block (g5.block gr HI.out.R.lt (by simp; exact fun e => hzr e.symm))
end Go.Proofs.YtklaeocnimkboaaGreatDoor

namespace Go.Proofs.YtklaeocnimkboaaGreatDoor
open Go.RowKit Go.Lib

/-- A matrix that is being made, its box, and the boxes of what is handed in and out. -/
structure OI (w : World) (g N pb r c pr pc : Nat) (va : Value) (G : Nat → K) (wr : World) : Prop where
  G : KB wr g N G
  a : Br wr w.heap.size r c va
  z : Br wr (w.heap.size + 1) 0 0 (.slice none 0 0)
  p : Br wr pb pr pc (.slice (some ⟨g, 0, none⟩) N N)
  gr : Below w.heap.size w wr
section
variable {w : World} {g N pb r c pr pc : Nat} {va : Value} {G G' : Nat → K} {wr w' : World}
theorem OI.below (h : OI w g N pb r c pr pc va G wr) (hb : Below wr.heap.size wr w') : OI w g N pb r c pr pc va G w' :=
  ⟨h.G.below hb (Nat.le_refl _), h.a.below hb (Nat.le_refl _), h.z.below hb (Nat.le_refl _), h.p.below hb (Nat.le_refl _), below_step h.gr hb⟩
theorem OI.set (h : OI w g N pb r c pr pc va G wr) (i : Nat) (hi : i < N) (x : K) (hg : w.heap.size ≤ g) : OI w g N pb r c pr pc va (fun k => if k = i then x else G k) (wr.setCell ⟨g, i, none⟩ (.int .i64 ((x.v : Nat) : Int))) := by
  have gs := gb_set wr g i (.int .i64 ((x.v : Nat) : Int))
  exact ⟨h.G.set i hi x, h.a.gb gs (h.a.ne h.G), h.z.gb gs (h.z.ne h.G), h.p.gb gs (h.p.ne h.G), below_gb h.gr gs hg h.gr.size⟩
theorem OI.congr (h : OI w g N pb r c pr pc va G wr) (e : ∀ t, t < N → G t = G' t) : OI w g N pb r c pr pc va G' wr := ⟨h.G.congr e, h.a, h.z, h.p, h.gr⟩
end

end Go.Proofs.YtklaeocnimkboaaGreatDoor

namespace Go.Proofs.YtklaeocnimkboaaGreatDoor
open Go.RowKit Go.Lib

/-- i rows are done, and j members of the next. -/
def mulS (c : Nat) (M : Mt) (i j : Nat) : Nat → K := fun t => if t / c < i ∨ (t / c = i ∧ t % c < j) then M (t / c) (t % c) else 0
theorem mulS_next (c : Nat) (M : Mt) (i t : Nat) (hc : 0 < c) : mulS c M i c t = mulS c M (i + 1) 0 t := by
  have := Nat.mod_lt t hc
  unfold mulS
  by_cases h : t / c < i ∨ (t / c = i ∧ t % c < c)
  · rw [if_pos h, if_pos (by omega)]
  · rw [if_neg h, if_neg (by omega)]
theorem mulS_step (c : Nat) (M : Mt) (i j t : Nat) (hj : j < c) : (if t = i * c + j then M i j else mulS c M i j t) = mulS c M i (j + 1) t := by
  by_cases h : t = i * c + j
  · subst h
    rw [if_pos rfl, mulS, div_at hj, mod_at hj, if_pos (by omega)]
  · rw [if_neg h]
    unfold mulS
    by_cases h2 : t / c < i ∨ (t / c = i ∧ t % c < j)
    · rw [if_pos h2, if_pos (by omega)]
    · rw [if_neg h2, if_neg]
      intro h3
      exact h (at_eq (by omega) (by omega))
theorem mulS_all (c n : Nat) (M : Mt) (t : Nat) (h : t < n * c) : mulS c M n 0 t = flat c M t := by
  rw [mulS, if_pos (.inl (div_lt h)), flat]
theorem mulS_zero (c : Nat) (M : Mt) (t : Nat) : mulS c M 0 0 t = 0 := by
  rw [mulS, if_neg (fun h => by rcases h with h | h; exact Nat.not_lt_zero _ h; exact Nat.not_lt_zero _ h.2)]

structure RMul (w : World) (g N pb ra ca cb : Nat) (va vb : Value) (G : Nat → K) (wr : World) : Prop where
  G : KB wr g N G
  a : Br wr w.heap.size ra ca va
  b : Br wr (w.heap.size + 1) ca cb vb
  r : Br wr (w.heap.size + 2) 0 0 (.slice none 0 0)
  p : Br wr pb ra cb (.slice (some ⟨g, 0, none⟩) N N)
  gr : Below w.heap.size w wr
theorem RMul.below {w : World} {g N pb ra ca cb : Nat} {va vb : Value} {G : Nat → K} {wr w' : World} (h : RMul w g N pb ra ca cb va vb G wr) (hb : Below wr.heap.size wr w') : RMul w g N pb ra ca cb va vb G w' :=
  ⟨h.G.below hb (Nat.le_refl _), h.a.below hb (Nat.le_refl _), h.b.below hb (Nat.le_refl _), h.r.below hb (Nat.le_refl _), h.p.below hb (Nat.le_refl _), below_step h.gr hb⟩
theorem RMul.set {w : World} {g N pb ra ca cb : Nat} {va vb : Value} {G : Nat → K} {wr : World} (h : RMul w g N pb ra ca cb va vb G wr) (i : Nat) (hi : i < N) (x : K) (hg : w.heap.size ≤ g) : RMul w g N pb ra ca cb va vb (fun k => if k = i then x else G k) (wr.setCell ⟨g, i, none⟩ (.int .i64 ((x.v : Nat) : Int))) := by
  have gs := gb_set wr g i (.int .i64 ((x.v : Nat) : Int))
  exact ⟨h.G.set i hi x, h.a.of_block (gs.block _ h.a.lt (by simp; exact h.a.ne h.G)), h.b.of_block (gs.block _ h.b.lt (by simp; exact h.b.ne h.G)), h.r.of_block (gs.block _ h.r.lt (by simp; exact h.r.ne h.G)), h.p.of_block (gs.block _ h.p.lt (by simp; exact h.p.ne h.G)), below_gb h.gr gs hg h.gr.size⟩
theorem RMul.congr {w : World} {g N pb ra ca cb : Nat} {va vb : Value} {G G' : Nat → K} {wr : World} (h : RMul w g N pb ra ca cb va vb G wr) (e : ∀ t, t < N → G t = G' t) : RMul w g N pb ra ca cb va vb G' wr := ⟨h.G.congr e, h.a, h.b, h.r, h.p, h.gr⟩

end Go.Proofs.YtklaeocnimkboaaGreatDoor

namespace Go.Proofs.YtklaeocnimkboaaGreatDoor
open Go.RowKit Go.Lib

/-- The boxes of what is handed in and out. -/
structure PS (w : World) (r c : Nat) (va : Value) (wr : World) : Prop where
  a : Br wr w.heap.size r c va
  z : Br wr (w.heap.size + 1) 0 0 (.slice none 0 0)
  gr : Below w.heap.size w wr
theorem PS.below {w : World} {r c : Nat} {va : Value} {wr w' : World} (h : PS w r c va wr) (hb : Below wr.heap.size wr w') : PS w r c va w' :=
  ⟨h.a.below hb (Nat.le_refl _), h.z.below hb (Nat.le_refl _), below_step h.gr hb⟩

set_option maxRecDepth 100000 in
set_option maxHeartbeats 1600000 in
theorem refPick_in {w : World} {f f' r c k : Nat} {va vr : Value} {A : Nat → K} {Z : Nat → Int} (a1 : 1 ≤ r) (a2 : r ≤ 255) (c1 : 1 ≤ c) (c2 : c ≤ 255) (k1 : 1 ≤ k) (k2 : k ≤ 255)
    (hA : NX w f va (r * c) (fun t => (((A t).v : Nat) : Int))) (hr : NX w f' vr k Z) :
    Calls Tryz.prog 56 #[.agg #[.int .i64 r, .int .i64 c, va], vr] w fun e w' =>
      ((upB ((r : Int) - 1) Z k = true ∧ ∃ g, e = .returned (.tuple #[.agg #[.int .i64 k, .int .i64 c, .slice (some ⟨g, 0, none⟩) (k * c) (k * c)], .int .i64 0]) ∧ KB w' g (k * c) (flat c (fun i j => mt c A (Z i).toNat j)) ∧ w.heap.size ≤ g) ∨
       (upB ((r : Int) - 1) Z k = false ∧ e = .returned (.tuple #[.agg #[.int .i64 0, .int .i64 0, .slice none 0 0], .int .i64 1]))) ∧ Below w.heap.size w w' := by
  have hNA : r * c ≤ 255 * 255 := Nat.mul_le_mul a2 c2
  have hNN : k * c ≤ 255 * 255 := Nat.mul_le_mul k2 c2
  have hA0 : r * c ≠ 0 := Nat.mul_ne_zero (by omega) (by omega)
  obtain ⟨ba, oa, cpa, rfl, ha3, ha4, ha5⟩ := hA.at hA0
  obtain ⟨br, orr, cpr, rfl, hr3, hr4, hr5⟩ := hr.at (by omega : k ≠ 0)
  have EA := chk_ok a1 a2 c1 c2 A
  have HZ : Hid _ := fun w => refzero_any w k c k2 c2
  have QA : Hid (∀ i j, i < r → j < c → i * c + j < r * c) := fun i j hi hj => at_lt hi hj
  have QN : Hid (∀ i j, i < k → j < c → i * c + j < k * c) := fun i j hi hj => at_lt hi hj
  have QP : Hid (∀ (Q : Mt) t, t < k * c → mulS c Q k 0 t = flat c Q t) := fun Q t ht => mulS_all c k Q t ht
  obtain ⟨Q, hQ⟩ : ∃ Q : Mt, Q = fun i j => mt c A (Z i).toNat j := ⟨_, rfl⟩
  rw [← hQ]
  have HQ := hide hQ
  clear hQ
  generalize r * c = NA at *
  generalize k * c = N at *
  obtain ⟨oA, hoA⟩ : ∃ o, o = Obj.cells #[.int .i64 r, .int .i64 c, (.slice (some ⟨ba, oa, none⟩) NA cpa)] 90 := ⟨_, rfl⟩
  obtain ⟨oR, hoR⟩ : ∃ o, o = Obj.cells #[.int .i64 0, .int .i64 0, .slice none 0 0] 90 := ⟨_, rfl⟩
  have L2 := below_alloc (below_alloc (Below.refl w.heap.size w) oA) oR
  have A2 := (hA.alloc oA).alloc oR
  have X1 := (show Br (w.alloc oA) w.heap.size r c (.slice (some ⟨ba, oa, none⟩) NA cpa) by rw [hoA]; exact Br.new _ _ _ _).alloc oR
  have X2 := show Br ((w.alloc oA).alloc oR) (w.alloc oA).heap.size 0 0 (.slice none 0 0) by rw [hoR]; exact Br.new _ _ _ _
  rw [show (w.alloc oA).heap.size = w.heap.size + 1 by simp] at X2
  rw [hoA, hoR] at L2 A2 X1 X2
  have HA1 := hide A2
  have HI : Hid (PS w r c (.slice (some ⟨ba, oa, none⟩) NA cpa) _) := ⟨X1, X2, L2⟩
  have HA := hide hA
  have HRR := hide hr
  clear A2 X1 X2 L2 hA hr hoA hoR
  have d1 : ¬ (k : Int) < 1 := by omega
  have d2 : ¬ (255 : Int) < (k : Int) := by omega
  go_enter Tryz.func56, Tryz.ntmps56
  go_wp2_with fail
  refine (refCheck_any HA1.out (by omega)).mono ?_
  rintro e w1 ⟨rfl, k1'⟩
  rw [EA]
  have HI1 := hide (HI.out.below k1')
  clear HI HA1 k1'
  go_wp2
  go_loopw [7] (fun z wr => ∃ i : Nat, i ≤ k ∧ z = .int .i64 i ∧ upB ((r : Int) - 1) Z i = true ∧ PS w r c (.slice (some ⟨ba, oa, none⟩) NA cpa) wr) (fun z _ => k - (RowKit.intOf z).toNat)
  case atStart => exact ⟨0, Nat.zero_le _, rfl, rfl, HI1.out⟩
  case round =>
    obtain ⟨i, hi, rfl, hu, I⟩ := hrel
    clear HI1
    by_cases hlt : i < k
    · have b1 : (i : Int) < (k : Int) := by omega
      have b0 : (0 : Int) ≤ (i : Int) := by omega
      have b2 : (i : Int).toNat = i := by omega
      have rc := (HRR.out.below I.gr).cell_at i hlt
      have m0 := I.a.cell0
      by_cases hz : 0 ≤ Z i
      · by_cases hz2 : Z i ≤ (r : Int) - 1
        · have hd1 : decide (Z i < 0) = false := decide_eq_false (by omega)
          have hd2 : decide ((r : Int) ≤ Z i) = false := decide_eq_false (by omega)
          have HU : Hid (upB ((r : Int) - 1) Z (i + 1) = true) := by show _ = _; rw [upB_succ, decide_eq_true hz, decide_eq_true hz2, hu]; rfl
          have HI : Hid (∀ q, PS w r c (.slice (some ⟨ba, oa, none⟩) NA cpa) (wr.drewN q)) := fun q => ⟨I.a, I.z, below_drew I.gr q⟩
          clear I hu hz hz2
          generalize Z i = zi at *
          go_wp2_with fail
          go_quiet (fail)
          go_wp2
          exact ⟨⟨i + 1, by omega, by go_num, HU.out, HI.out _⟩, by simp [RowKit.intOf]; omega⟩
        · have hd1 : decide (Z i < 0) = false := decide_eq_false (by omega)
          have hd2 : decide ((r : Int) ≤ Z i) = true := decide_eq_true (by omega)
          have HU : Hid (upB ((r : Int) - 1) Z k = false) := upB_false _ Z k i hlt (by rw [decide_eq_true hz, decide_eq_false hz2]; rfl)
          have HI : Hid (∀ q, PS w r c (.slice (some ⟨ba, oa, none⟩) NA cpa) (wr.drewN q)) := fun q => ⟨I.a, I.z, below_drew I.gr q⟩
          have z0 := I.z.cell0
          have z1 := I.z.cell1
          have z2 := I.z.cell2
          have zf := I.z.free
          clear I hu hz hz2
          generalize Z i = zi at *
          go_wp2_with fail
          go_quiet (fail)
          go_wp2
          obtain ⟨hX5, g5⟩ := (HI.out nq).z.put (0 : Int) (0 : Int) (.slice none 0 0)
          exact bodyPost_ret (v := .tuple #[.agg #[.int .i64 0, .int .i64 0, .slice none 0 0], .int .i64 1]) (by simp [results, Tryz.results56, go_sem, hX5.cell0, hX5.cell1, hX5.cell2]) rfl ⟨.inr ⟨HU.out, rfl⟩, below_gb (HI.out nq).gr g5 (by omega) (HI.out nq).gr.size⟩
      · have hd1 : decide (Z i < 0) = true := decide_eq_true (by omega)
        have HU : Hid (upB ((r : Int) - 1) Z k = false) := upB_false _ Z k i hlt (by rw [decide_eq_false hz]; rfl)
        have HI : Hid (∀ q, PS w r c (.slice (some ⟨ba, oa, none⟩) NA cpa) (wr.drewN q)) := fun q => ⟨I.a, I.z, below_drew I.gr q⟩
        have z0 := I.z.cell0
        have z1 := I.z.cell1
        have z2 := I.z.cell2
        have zf := I.z.free
        clear I hu hz
        generalize Z i = zi at *
        go_wp2_with fail
        go_quiet (fail)
        go_wp2
        obtain ⟨hX5, g5⟩ := (HI.out nq).z.put (0 : Int) (0 : Int) (.slice none 0 0)
        exact bodyPost_ret (v := .tuple #[.agg #[.int .i64 0, .int .i64 0, .slice none 0 0], .int .i64 1]) (by simp [results, Tryz.results56, go_sem, hX5.cell0, hX5.cell1, hX5.cell2]) rfl ⟨.inr ⟨HU.out, rfl⟩, below_gb (HI.out nq).gr g5 (by omega) (HI.out nq).gr.size⟩
    · obtain rfl : i = k := by omega
      have b1 : ¬ (i : Int) < (i : Int) := by omega
      have m0 := I.a.cell0
      have m1 := I.a.cell1
      have HU := hide hu
      have HI := hide I
      clear I hu
      have HP : Hid (∀ t, t < i → (Z t).toNat < r ∧ (((Z t).toNat : Nat) : Int) = Z t) := fun t ht => by have := upB_at _ Z i t HU.out ht; omega
      go_wp2_with fail
      refine Calls.mono (HZ.out _) ?_
      rintro e w3 ⟨g, rfl, hG, hgs, k3⟩
      have hgs' : w.heap.size ≤ g := Nat.le_trans HI.out.gr.size hgs
      have I : OI w g N w3.heap.size r c i c (.slice (some ⟨ba, oa, none⟩) NA cpa) (mulS c Q 0 0) (w3.alloc (.cells #[.int .i64 i, .int .i64 c, .slice (some ⟨g, 0, none⟩) N N] 90)) :=
        ⟨(hG.congr (fun t _ => (mulS_zero c Q t).symm)).alloc _, (HI.out.a.below k3 (Nat.le_refl _)).alloc _, (HI.out.z.below k3 (Nat.le_refl _)).alloc _, Br.new _ _ _ _, below_alloc (below_step HI.out.gr k3) _⟩
      clear HI
      have HI := hide I
      clear I k3 hG hgs m0 m1 HZ b1
      obtain ⟨k, hk⟩ : ∃ k, k = i := ⟨_, rfl⟩
      subst hk
      go_wp2
      go_loopw [9] (fun z wr => ∃ i : Nat, i ≤ k ∧ z = .int .i64 i ∧ OI w g N w3.heap.size r c k c (.slice (some ⟨ba, oa, none⟩) NA cpa) (mulS c Q i 0) wr) (fun z _ => k - (RowKit.intOf z).toNat)
      case atStart => exact ⟨0, Nat.zero_le _, rfl, HI.out⟩
      case round =>
        obtain ⟨i, hi, rfl, I⟩ := hrel
        clear HI
        by_cases hlt1 : i < k
        · have HI := hide I
          clear I
          have b0 : (i : Int) < (k : Int) := by omega
          go_wp2
          go_loopw [10] (fun z wr => ∃ j : Nat, j ≤ c ∧ z = .int .i64 j ∧ OI w g N w3.heap.size r c k c (.slice (some ⟨ba, oa, none⟩) NA cpa) (mulS c Q i j) wr) (fun z _ => c - (RowKit.intOf z).toNat)
          case atStart => exact ⟨0, Nat.zero_le _, rfl, HI.out⟩
          case round =>
            obtain ⟨j, hj, rfl, I⟩ := hrel
            clear HI
            have m0 := I.a.cell0
            have m1 := I.a.cell1
            have m2 := I.a.cell2
            by_cases hlt2 : j < c
            · have m3 := I.p.cell2
              obtain ⟨x, hx⟩ : ∃ x, x = i * c := ⟨_, rfl⟩
              have hxi : (i : Int) * (c : Int) = (x : Int) := by rw [← Int.natCast_mul, hx]
              have hxN : x + j < N := by rw [hx]; exact QN.out i j hlt1 hlt2
              obtain ⟨pi, hpi⟩ : ∃ pi, pi = (Z i).toNat := ⟨_, rfl⟩
              obtain ⟨hp1, hp2⟩ := HP.out i hlt1
              rw [← hpi] at hp1 hp2
              have m4 := (HRR.out.below I.gr).cell_at i hlt1
              rw [← hp2] at m4
              obtain ⟨y, hy⟩ : ∃ y, y = A (pi * c + j) := ⟨_, rfl⟩
              obtain ⟨ov, hov⟩ : ∃ ov, ov = Value.int .i64 (((mulS c Q i j (x + j)).v : Nat) : Int) := ⟨_, rfl⟩
              have R1 : Hid (∀ (v u1 u2 : Value) (w' : World), v = .agg #[.int .i64 r, .int .i64 c, (.slice (some ⟨ba, oa, none⟩) NA cpa)] → u1 = .int .i64 ((pi : Nat) : Int) → u2 = .int .i64 j → Below wr.heap.size wr w' → Calls Tryz.prog 85 #[v, u1, u2] w' fun e w'' => e = .returned (.int .i64 ((y.v : Nat) : Int)) ∧ Below wr.heap.size wr w'' ∧ ((w''.cell? ⟨w.heap.size, 0, none⟩ = some (.int .i64 r) ∧ w''.cell? ⟨w.heap.size, 1, none⟩ = some (.int .i64 c) ∧ w''.cell? ⟨w.heap.size, 2, none⟩ = some (.slice (some ⟨ba, oa, none⟩) NA cpa)) ∧ w''.cell? ⟨w3.heap.size, 2, none⟩ = some (.slice (some ⟨g, 0, none⟩) N N) ∧ w''.cell? ⟨br, orr + i, none⟩ = some (.int .i64 ((pi : Nat) : Int))) ∧ w''.cell? ⟨g, x + j, none⟩ = some ov ∧ w''.frozen? ⟨g, x + j, none⟩ = false) := by
                intro v u1 u2 w' h1 h2 h3 hb
                subst h1 h2 h3
                refine (at_any (r := (r : Int)) (c := c) (i := pi) (j := j) (HA.out.below (below_step I.gr hb)) rfl (QA.out pi j hp1 hlt2) (by have := QA.out pi j hp1 hlt2; omega) (by omega)).mono ?_
                rintro e w'' ⟨rfl, q⟩
                have I' := I.below (below_step hb q)
                exact ⟨by rw [hy], below_step hb q, ⟨I'.a.mc, I'.p.cell2, by rw [hp2]; exact (HRR.out.below I'.gr).cell_at i hlt1⟩, by rw [I'.G.cell _ hxN, hov], I'.G.free _⟩
              have FIN : Hid (∀ w', Below wr.heap.size wr w' → OI w g N w3.heap.size r c k c (.slice (some ⟨ba, oa, none⟩) NA cpa) (mulS c Q i (j + 1)) (w'.setCell ⟨g, x + j, none⟩ (.int .i64 ((y.v : Nat) : Int)))) := by
                intro w' hb
                have hq : y = Q i j := by rw [hy, HQ.out, hpi]; rfl
                exact ((I.below hb).set (x + j) hxN y hgs').congr (fun t _ => by rw [hx, hq]; exact mulS_step c Q i j t hlt2)
              have na := I.a.ne I.G
              have np := I.p.ne I.G
              have nr : br ≠ g := by omega
              have b0' : (0 : Int) ≤ (i : Int) := by omega
              have b2 : (i : Int).toNat = i := by omega
              have b1 : (j : Int) < (c : Int) := by omega
              have b5 : (0 : Int) ≤ (x : Int) + (j : Int) := by omega
              have b6 : (x : Int) + (j : Int) < (N : Int) := by omega
              have b7 : ((x : Int) + (j : Int)).toNat = x + j := by omega
              have hwb : IntKind.i64.wrap ((i : Int) * (c : Int)) = (x : Int) := by rw [hxi]; exact wraps_i64 _ (by omega) (by omega)
              have hwc : IntKind.i64.wrap ((x : Int) + (j : Int)) = (x : Int) + (j : Int) := wraps_i64 _ (by omega) (by omega)
              have HB0 : Hid (Below wr.heap.size wr wr.drew) := (Below.refl _ _).drew
              clear I hx hy hov hxi hpi hp2
              go_wp2_with fail
              go_region_held3 (fun w'' => (w''.cell? ⟨w.heap.size, 0, none⟩ = some (.int .i64 r) ∧ w''.cell? ⟨w.heap.size, 1, none⟩ = some (.int .i64 c) ∧ w''.cell? ⟨w.heap.size, 2, none⟩ = some (.slice (some ⟨ba, oa, none⟩) NA cpa)) ∧ w''.cell? ⟨w3.heap.size, 2, none⟩ = some (.slice (some ⟨g, 0, none⟩) N N) ∧ w''.cell? ⟨br, orr + i, none⟩ = some (.int .i64 ((pi : Nat) : Int))) (first | assumption | exact ⟨⟨by assumption, by assumption, by assumption⟩, by assumption, by assumption⟩ | exact ⟨⟨m0, m1, m2⟩, m3, m4⟩ | exact ⟨⟨(cell_off na).trans (by assumption), (cell_off na).trans (by assumption), (cell_off na).trans (by assumption)⟩, (cell_off np).trans (by assumption), (cell_off nr).trans (by assumption)⟩)
                (first
                  | (go_at_call 85; refine (R1.out _ _ _ _ (by with_reducible rfl) (by with_reducible rfl) (by with_reducible rfl) (by first | assumption | exact HB0.out)).mono ?_; rintro e wa ⟨rfl, ka, ⟨⟨ka1, ka2, ka3⟩, ka4, ka7⟩, ka5, ka6⟩))
              all_goals
                clear R1
                go_wp2
                exact ⟨⟨j + 1, by omega, by go_num, FIN.out _ ka⟩, by simp [RowKit.intOf]; omega⟩
            · obtain rfl : j = c := by omega
              have b1 : ¬ (j : Int) < (j : Int) := by omega
              have HI := hide (I.congr (G' := mulS j Q (i + 1) 0) (fun t _ => mulS_next j Q i t (by omega)))
              clear I
              go_wp2
              exact ⟨⟨i + 1, by omega, by go_num, HI.out⟩, by simp [RowKit.intOf]; omega⟩
        · obtain rfl : i = k := by omega
          have b0 : ¬ (i : Int) < (i : Int) := by omega
          have p0 := I.p.cell0
          have p1 := I.p.cell1
          have p2 := I.p.cell2
          have z0 := I.z.cell0
          have z1 := I.z.cell1
          have z2 := I.z.cell2
          have zf := I.z.free
          have hne := I.z.ne I.G
          have HI := hide I
          clear I
          go_wp2
          obtain ⟨hX5, g5⟩ := HI.out.z.put (i : Int) (c : Int) (.slice (some ⟨g, 0, none⟩) N N)
          refine bodyPost_ret (v := .tuple #[.agg #[.int .i64 i, .int .i64 c, .slice (some ⟨g, 0, none⟩) N N], .int .i64 0]) (by simp [results, Tryz.results56, go_sem, hX5.cell0, hX5.cell1, hX5.cell2]) rfl ⟨.inl ⟨HU.out, g, rfl, ?_, hgs'⟩, below_gb HI.out.gr g5 (by omega) HI.out.gr.size⟩
          exact (HI.out.G.of_block (g5.block g HI.out.G.lt (by simp; exact fun e => hne e.symm))).congr (fun t ht => QP.out Q t ht)
end Go.Proofs.YtklaeocnimkboaaGreatDoor

