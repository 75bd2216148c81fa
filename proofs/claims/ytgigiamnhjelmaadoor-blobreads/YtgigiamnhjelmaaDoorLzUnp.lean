/-
  Lz: Unpack and Sequences, by the document.
-/
import Derived.Test.YtgigiamnhjelmaaDoorLzOpen
namespace Go.Proofs.YtgigiamnhjelmaaDoor
open Go.RowKit Go.Lib
/-- What a block unpacks to, told how long it is: the bytes, the code. -/
def upS (s : ByteArray) (n : Int) : ByteArray := match ps s with
  | some (l, t) => if 0 ≤ n ∧ n ≤ 1048576 ∧ (t : Int) = n then ⟨(opn l []).toArray⟩ else ⟨#[]⟩
  | none => ⟨#[]⟩
def upC (s : ByteArray) (n : Int) : Int := if 0 ≤ n ∧ n ≤ 1048576 then (match ps s with
  | some (_, t) => if (t : Int) = n then 0 else 120
  | none => 120) else 1
theorem up_bad {s : ByteArray} {n : Int} (h : ¬ (0 ≤ n ∧ n ≤ 1048576)) : upS s n = ⟨#[]⟩ ∧ upC s n = 1 := by
  rw [upS, upC, if_neg h]
  refine ⟨?_, rfl⟩
  split
  · rw [if_neg (fun e => h ⟨e.1, e.2.1⟩)]
  · rfl
theorem up_none {s : ByteArray} {n : Int} (h : 0 ≤ n ∧ n ≤ 1048576) (hp : ps s = none) : upS s n = ⟨#[]⟩ ∧ upC s n = 120 := by
  rw [upS, upC, if_pos h, hp]
  exact ⟨rfl, rfl⟩
theorem up_other {s : ByteArray} {n : Int} {l : List SQ} {t : Nat} (h : 0 ≤ n ∧ n ≤ 1048576) (hp : ps s = some (l, t)) (ht : ¬ (t : Int) = n) : upS s n = ⟨#[]⟩ ∧ upC s n = 120 := by
  rw [upS, upC, if_pos h, hp]
  exact ⟨if_neg (fun e => ht e.2.2), if_neg ht⟩
theorem up_ok {s : ByteArray} {n : Int} {l : List SQ} {t : Nat} (h : 0 ≤ n ∧ n ≤ 1048576) (hp : ps s = some (l, t)) (ht : (t : Int) = n) : upS s n = ⟨(opn l []).toArray⟩ ∧ upC s n = 0 := by
  rw [upS, upC, if_pos h, hp]
  exact ⟨if_pos ⟨h.1, h.2, ht⟩, if_pos ht⟩
theorem ps_vs {s : ByteArray} {l : List SQ} {t : Nat} (h : ps s = some (l, t)) : VS 0 l t ∧ l ≠ [] ∧ l.length ≤ s.size ∧ t ≤ 289 * s.size := by
  obtain ⟨a, b, c, d⟩ := pq_vs s.size 0 0 (by omega) h
  exact ⟨a, b, by omega, by omega⟩
set_option maxRecDepth 100000 in
set_option maxHeartbeats 800000 in
theorem runpack_any {w : World} {s : ByteArray} (n : Int) (hs : s.size ≤ 4000) : Calls Tryd.prog 26 #[.string s, .int .i64 n] w fun e w' => e = .returned (.tuple #[.string (upS s n), .int .i64 (upC s n)]) ∧ Below w.heap.size w w' := by
  by_cases h : 0 ≤ n ∧ n ≤ 1048576
  · have c1 : ¬ n < 0 := by omega
    have c2 : ¬ 1048576 < n := by omega
    have HP := hide (rparse_any (w := w) hs)
    rcases hp : ps s with _ | ⟨l, t⟩
    · obtain ⟨e1, e2⟩ := up_none h hp
      rw [e1, e2]
      have HH := hide hp
      clear hp e1 e2 h
      go_enter Tryd.func26, Tryd.ntmps26
      go_wp2_with fail
      refine HP.out.mono ?_
      rintro _ w2 ⟨hb, v, m, b, rfl, h1, _⟩
      obtain ⟨rfl, a, k, c, rfl⟩ := h1 HH.out
      have HB := hide hb
      clear hb
      go_wp2
      exact bodyPost_ret (v := .tuple #[.string ⟨#[]⟩, .int .i64 120]) (by simp [results, Tryd.results26, go_sem]) rfl ⟨rfl, HB.out⟩
    · obtain ⟨v1, v2, v3, v4⟩ := ps_vs hp
      by_cases ht : (t : Int) = n
      · obtain ⟨e1, e2⟩ := up_ok h hp ht
        rw [e1, e2]
        have HH := hide (And.intro hp v1)
        subst ht
        have hsz : l.length ≤ 4000 ∧ t ≤ 2000000 := by omega
        clear hp e1 e2 h v1 v2 v3 v4
        obtain ⟨U, hU⟩ : ∃ U, (⟨(opn l []).toArray⟩ : ByteArray) = U := ⟨_, rfl⟩
        rw [hU]
        have HU := hide hU
        clear hU
        go_enter Tryd.func26, Tryd.ntmps26
        go_wp2_with fail
        refine HP.out.mono ?_
        rintro _ w2 ⟨hb, v, m, b, rfl, _, h2⟩
        obtain ⟨rfl, rfl, hO⟩ := h2 _ _ HH.out.1
        obtain ⟨av, cv, hv⟩ := hO.shp
        have HL : Hid (LS sqc 3 (fun _ => True) w2 v l) := hO.ls sqc_len (fun _ _ => trivial)
        have HB := hide hb
        have HC := hide (ropen_any HL.out HH.out.2 hsz.1 hsz.2)
        rw [HU.out] at HC
        clear hb hO
        subst hv
        go_wp2_with fail
        refine HC.out.mono ?_
        rintro _ w3 ⟨rfl, hb3⟩
        have HB3 := hide (below_step HB.out hb3)
        clear hb3
        go_wp2
        exact bodyPost_ret (v := .tuple #[.string U, .int .i64 0]) (by simp [results, Tryd.results26, go_sem]) rfl ⟨rfl, HB3.out⟩
      · obtain ⟨e1, e2⟩ := up_other h hp ht
        rw [e1, e2]
        have HH := hide hp
        have d1 : ((t : Int) == n) = false := by simpa using ht
        clear hp e1 e2 h v1 v2 v3 v4
        go_enter Tryd.func26, Tryd.ntmps26
        go_wp2_with fail
        refine HP.out.mono ?_
        rintro _ w2 ⟨hb, v, m, b, rfl, _, h2⟩
        obtain ⟨rfl, rfl, hO⟩ := h2 _ _ HH.out
        obtain ⟨av, cv, hv⟩ := hO.shp
        have HB := hide hb
        clear hb hO
        subst hv
        go_wp2
        exact bodyPost_ret (v := .tuple #[.string ⟨#[]⟩, .int .i64 120]) (by simp [results, Tryd.results26, go_sem]) rfl ⟨rfl, HB.out⟩
  · obtain ⟨e1, e2⟩ := up_bad (s := s) h
    rw [e1, e2]
    have HB := hide (Below.refl w.heap.size w)
    by_cases h0 : n < 0
    · have d1 : decide (n < 0) = true := by simpa using h0
      clear e1 e2 h
      go_enter Tryd.func26, Tryd.ntmps26
      go_wp2
      exact bodyPost_ret (v := .tuple #[.string ⟨#[]⟩, .int .i64 1]) (by simp [results, Tryd.results26, go_sem]) rfl ⟨rfl, HB.out⟩
    · have h2 : 1048576 < n := by omega
      have d1 : decide (n < 0) = false := by simpa using h0
      clear e1 e2 h
      go_enter Tryd.func26, Tryd.ntmps26
      go_wp2
      exact bodyPost_ret (v := .tuple #[.string ⟨#[]⟩, .int .i64 1]) (by simp [results, Tryd.results26, go_sem]) rfl ⟨rfl, HB.out⟩
/-- The sequences of a block, and the code. -/
def sqL (s : ByteArray) : List SQ := match ps s with
  | some (l, t) => if t ≤ 1048576 then l else []
  | none => []
def sqC (s : ByteArray) : Int := match ps s with
  | some (_, t) => if t ≤ 1048576 then 0 else 2
  | none => 120
/-- The most bytes that a block of so many has. -/
def bdA (n : Int) : Value := if 0 ≤ n ∧ n ≤ 1048576 then .tuple #[.int .i64 (n + n / 255 + 16), .int .i64 0] else .tuple #[.int .i64 0, .int .i64 1]
end Go.Proofs.YtgigiamnhjelmaaDoor
