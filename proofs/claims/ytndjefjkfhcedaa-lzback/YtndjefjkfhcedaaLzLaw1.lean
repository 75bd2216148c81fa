/-
  Lz: the statement LzUnpacks, walked: over what the program's Unpack and Sequences answer.
-/
import Derived.Test.YtndjefjkfhcedaaLzUnp
import Derived.Deep.RegionHeldLaw
namespace Go.Proofs.Ytndjefjkfhcedaa
open Go.RowKit Go.Lib
/-- What Unpack of the program answers, where K holds. -/
def UnpackC (K : World → Prop) : Prop := ∀ (w : World) (s : ByteArray) (n : Int), K w → s.size ≤ 4000 → Calls Try.prog 10 #[.string s, .int .i64 n] w fun e w' => e = .returned (.tuple #[.string (upS s n), .int .i64 (upC s n)]) ∧ Below w.heap.size w w'
/-- What Sequences of the program answers, where K holds. -/
def SeqsC (K : World → Prop) : Prop := ∀ (w : World) (s : ByteArray), K w → s.size ≤ 4000 → Calls Try.prog 12 #[.string s] w fun e w' => ∃ v, e = .returned (.tuple #[v, .int .i64 (sqC s)]) ∧ OW sqc 3 35 w.heap.size v (sqL s) w' ∧ Below w.heap.size w w'
/-- K is kept where new memory alone is made. -/
def Kept (K : World → Prop) : Prop := ∀ w w', K w → Below w.heap.size w w' → K w'
theorem ex12 : upS ⟨#[21, 97, 1, 0, 16, 98]⟩ 11 = ⟨#[97, 97, 97, 97, 97, 97, 97, 97, 97, 97, 98]⟩ ∧ upC ⟨#[21, 97, 1, 0, 16, 98]⟩ 11 = 0 := by
  have h : ps ⟨#[21, 97, 1, 0, 16, 98]⟩ = some ([⟨⟨#[97]⟩, 1, 9⟩, ⟨⟨#[98]⟩, 0, 0⟩], 11) := by decide +kernel
  exact ⟨((up_ok (by decide) h rfl).1).trans (by decide +kernel), (up_ok (by decide) h rfl).2⟩
section
variable {K : World → Prop}
set_option maxRecDepth 100000 in
theorem works12 (hU : UnpackC K) {w : World} (hk : K w) : Calls Try.prog 8 #[] w fun e w' => e = .returned (.bool true) ∧ Below w.heap.size w w' := by
  have HU := hide (hU w ⟨#[21, 97, 1, 0, 16, 98]⟩ 11 hk (by decide))
  rw [ex12.1, ex12.2] at HU
  clear hU
  go_enter Try.func8, Try.ntmps8
  go_wp2_with fail
  refine HU.out.mono ?_
  rintro _ w2 ⟨rfl, hb⟩
  have HB := hide hb
  clear hb
  go_wp2
  go_ret
  exact ⟨rfl, HB.out⟩
/-- A list of sequences that is read. -/
theorem OW.sq {T : TypeId} {B : Nat} {v : Value} {l : List SQ} {w : World} (h : OW sqc 3 T B v l w) {i : Nat} {q : SQ} (hq : l[i]? = some q) : ∃ g c, v = .slice (some ⟨g, 0, none⟩) l.length c ∧ g < w.heap.size ∧
    w.cell? ⟨g, i * 3, none⟩ = some (.string q.lit) ∧ w.cell? ⟨g, i * 3 + 1, none⟩ = some (.int .i64 (q.dist : Int)) ∧ w.cell? ⟨g, i * 3 + 2, none⟩ = some (.int .i64 (q.long : Int)) := by
  have hi : i < l.length := (List.getElem?_eq_some_iff.1 hq).1
  obtain ⟨_, ⟨rfl, h2⟩ | ⟨g, cap, cur, rfl, hB, hg, hn, _, hs, ht⟩⟩ := h.own
  · omega
  · refine ⟨g, cap, rfl, lt_of_block hg, ?_, ?_, ?_⟩
    all_goals rw [cell_of_row w g _ _ _ _ hg]
    · have e0 : (l.flatMap sqc)[i * 3 + 0]? = some (.string q.lit) := by rw [flat_get sqc_len l i 0 (by decide), hq]; rfl
      rw [← ht, List.getElem?_take, if_pos (by omega)] at e0
      simpa using e0
    · have e0 : (l.flatMap sqc)[i * 3 + 1]? = some (.int .i64 (q.dist : Int)) := by rw [flat_get sqc_len l i 1 (by decide), hq]; rfl
      rw [← ht, List.getElem?_take, if_pos (by omega)] at e0
      simpa using e0
    · have e0 : (l.flatMap sqc)[i * 3 + 2]? = some (.int .i64 (q.long : Int)) := by rw [flat_get sqc_len l i 2 (by decide), hq]; rfl
      rw [← ht, List.getElem?_take, if_pos (by omega)] at e0
      simpa using e0
set_option maxRecDepth 100000 in
set_option maxHeartbeats 3200000 in
theorem unpacks12 (hK : Kept K) (hU : UnpackC K) (hS : SeqsC K) {w : World} (hk : K w) (s : ByteArray) (n : Int) (hs : s.size ≤ 4611686018427387904) : Calls Try.prog 3 #[.string s, .int .i64 n] w fun e w' => e = .returned (.bool true) ∧ Below w.heap.size w w' := by
  have HW : Hid (∀ wx, Below w.heap.size w wx → Calls Try.prog 8 #[] wx fun e w' => e = .returned (.bool true) ∧ Below wx.heap.size wx w') := fun wx h => works12 hU (hK _ _ hk h)
  by_cases h1 : 2000 < s.size
  · have c1 : (2000 : Int) < (s.size : Int) := by omega
    have HB := hide (Below.refl w.heap.size w)
    clear hU hS hK
    go_enter Try.func3, Try.ntmps3
    go_wp2_with fail
    refine (HW.out w HB.out).mono ?_
    rintro _ w2 ⟨rfl, hb⟩
    have HB2 := hide hb
    clear hb
    go_wp2
    go_ret
    exact ⟨rfl, HB2.out⟩
  have c1 : ¬ (2000 : Int) < (s.size : Int) := by omega
  have HP := hide (rparse_any (w := w) (s := s) (by omega))
  have HU : Hid (∀ wx m, Below w.heap.size w wx → Calls Try.prog 10 #[.string s, .int .i64 m] wx fun e w' => e = .returned (.tuple #[.string (upS s m), .int .i64 (upC s m)]) ∧ Below wx.heap.size wx w') := fun wx m h => hU wx s m (hK _ _ hk h) (by omega)
  have HS : Hid (∀ wx, Below w.heap.size w wx → Calls Try.prog 12 #[.string s] wx fun e w' => ∃ v, e = .returned (.tuple #[v, .int .i64 (sqC s)]) ∧ OW sqc 3 35 wx.heap.size v (sqL s) w' ∧ Below wx.heap.size wx w') := fun wx h => hS wx s (hK _ _ hk h) (by omega)
  have HRU : Hid (∀ wx, Calls Try.prog 11 #[.string s, .int .i64 n] wx fun e w' => e = .returned (.tuple #[.string (upS s n), .int .i64 (upC s n)]) ∧ Below wx.heap.size wx w') := fun wx => runpack_any n (by omega)
  have HRS : Hid (∀ wx, Calls Try.prog 13 #[.string s] wx fun e w' => ∃ v, e = .returned (.tuple #[v, .int .i64 (sqC s)]) ∧ OW sqc 3 36 wx.heap.size v (sqL s) w' ∧ Below wx.heap.size wx w') := fun wx => rsequences_any (by omega)
  clear hU hS hK
  rcases hp : ps s with _ | ⟨l, t⟩
  · have e1 : sqL s = [] := by rw [sqL, hp]
    rw [e1] at HS HRS
    have HH := hide hp
    obtain ⟨U, hUU⟩ : ∃ U, upS s n = U := ⟨_, rfl⟩
    obtain ⟨C, hCC⟩ : ∃ C, upC s n = C := ⟨_, rfl⟩
    obtain ⟨E, hEE⟩ : ∃ E, sqC s = E := ⟨_, rfl⟩
    have HU1 : Hid (∀ wx, Below w.heap.size w wx → Calls Try.prog 10 #[.string s, .int .i64 n] wx fun e w' => e = .returned (.tuple #[.string U, .int .i64 C]) ∧ Below wx.heap.size wx w') := fun wx h => by rw [← hUU, ← hCC]; exact HU.out wx n h
    rw [hUU, hCC] at HRU
    rw [hEE] at HS HRS
    clear hUU hCC hEE e1 hp HU
    go_enter Try.func3, Try.ntmps3
    go_wp2_with fail
    refine HP.out.mono ?_
    rintro _ w2 ⟨hb2, v, m, b, rfl, hv, _⟩
    obtain ⟨rfl, av, kv, cv, rfl⟩ := hv HH.out
    have HB2 := hide hb2
    clear hb2
    go_wp2_with fail
    refine (HU1.out w2 HB2.out).mono ?_
    rintro _ w3 ⟨rfl, hb3⟩
    have HB3 := hide (below_step HB2.out hb3)
    clear hb3
    go_wp2_with fail
    refine (HRU.out w3).mono ?_
    rintro _ w4 ⟨rfl, hb4⟩
    have HB4 := hide (below_step HB3.out hb4)
    clear hb4
    go_wp2_with fail
    refine (HS.out w4 HB4.out).mono ?_
    rintro _ w5 ⟨x5, rfl, hx5, hb5⟩
    have HB5 := hide (below_step HB4.out hb5)
    obtain ⟨a5, c5, hv5⟩ := hx5.shp
    replace hv5 : x5 = .slice a5 0 c5 := hv5
    clear hb5 hx5
    subst hv5
    go_wp2_with fail
    refine (HRS.out w5).mono ?_
    rintro _ w6 ⟨x6, rfl, hx6, hb6⟩
    have HB6 := hide (below_step HB5.out hb6)
    obtain ⟨a6, c6, hv6⟩ := hx6.shp
    replace hv6 : x6 = .slice a6 0 c6 := hv6
    clear hb6 hx6
    subst hv6
    have z1 : ¬ (kv : Int) < 0 := by omega
    go_wp2
    go_loopw [16] (fun i wr => i = .int .i64 0 ∧ wr = w6) (fun _ _ => 0)
    case atStart => exact ⟨rfl, rfl⟩
    case round =>
      obtain ⟨rfl, rfl⟩ := hrel
      go_wp2_with fail
      refine (HW.out _ HB6.out).mono ?_
      rintro _ w7 ⟨rfl, hb7⟩
      have HB7 := hide (below_step HB6.out hb7)
      clear hb7
      go_wp2
      go_ret
      exact ⟨rfl, HB7.out⟩
  · obtain ⟨v1, v2, v3, v4⟩ := ps_vs hp
    have ht : t ≤ 578000 := by omega
    have hll : l.length ≤ 2000 := by omega
    have e1 : sqL s = l := by rw [sqL, hp]; exact if_pos (by omega)
    rw [e1] at HS HRS
    have HH := hide (And.intro hp v1)
    by_cases h100 : 100000 < t
    · have c2 : (100000 : Int) < (t : Int) := by omega
      have c3 : (t : Int) ≤ 1048576 := by omega
      have c4 : decide ((100000 : Int) < (t : Int)) = true := by simpa using c2
      have c5 : decide ((t : Int) ≤ 1048576) = true := by simpa using c3
      clear hp v1 v2 v3 v4 e1 HS HRS HU HRU
      go_enter Try.func3, Try.ntmps3
      go_wp2_with fail
      refine HP.out.mono ?_
      rintro _ w2 ⟨hb2, v, m, b, rfl, _, hv⟩
      obtain ⟨rfl, rfl, hO⟩ := hv _ _ HH.out.1
      have HB2 := hide hb2
      clear hb2 hO
      go_wp2_with fail
      refine (HW.out _ HB2.out).mono ?_
      rintro _ w3 ⟨rfl, hb3⟩
      have HB3 := hide (below_step HB2.out hb3)
      clear hb3
      go_wp2
      go_ret
      exact ⟨rfl, HB3.out⟩
    have c2 : ¬ (100000 : Int) < (t : Int) := by omega
    have c3 : (t : Int) ≤ 100000 := by omega
    have c4 : decide ((100000 : Int) < (t : Int)) = false := by simpa using c2
    have c5 : decide ((t : Int) ≤ 100000) = true := by simpa using c3
    obtain ⟨k1, k2⟩ := up_ok (s := s) (n := (t : Int)) (by omega) hp rfl
    obtain ⟨U, hUU⟩ : ∃ U, upS s n = U := ⟨_, rfl⟩
    obtain ⟨C, hCC⟩ : ∃ C, upC s n = C := ⟨_, rfl⟩
    obtain ⟨E, hEE⟩ : ∃ E, sqC s = E := ⟨_, rfl⟩
    obtain ⟨Y, hYY⟩ : ∃ Y : ByteArray, (⟨(opn l []).toArray⟩ : ByteArray) = Y := ⟨_, rfl⟩
    have HU1 : Hid (∀ wx, Below w.heap.size w wx → Calls Try.prog 10 #[.string s, .int .i64 n] wx fun e w' => e = .returned (.tuple #[.string U, .int .i64 C]) ∧ Below wx.heap.size wx w') := fun wx h => by rw [← hUU, ← hCC]; exact HU.out wx n h
    have HU2 : Hid (∀ wx, Below w.heap.size w wx → Calls Try.prog 10 #[.string s, .int .i64 (t : Int)] wx fun e w' => e = .returned (.tuple #[.string Y, .int .i64 0]) ∧ Below wx.heap.size wx w') := fun wx h => by have := HU.out wx t h; rw [k1, k2, hYY] at this; exact this
    have HO : Hid (∀ wx v, LS sqc 3 (fun _ => True) wx v l → Calls Try.prog 14 #[v] wx fun e w' => e = .returned (.string Y) ∧ Below wx.heap.size wx w') := fun wx v h => by rw [← hYY]; exact ropen_any h v1 (by omega) (by omega)
    rw [hUU, hCC] at HRU
    rw [hEE] at HS HRS
    clear hUU hCC hEE hYY e1 hp HU v1 v2 v3 v4 k1 k2
    obtain ⟨N, hN⟩ : ∃ N, l.length = N := ⟨_, rfl⟩
    have HN := hide hN
    rw [hN] at hll
    clear hN
    go_enter Try.func3, Try.ntmps3
    go_wp2_with fail
    refine HP.out.mono ?_
    rintro _ w2 ⟨hb2, v, m, b, rfl, _, hv⟩
    obtain ⟨rfl, rfl, hO⟩ := hv _ _ HH.out.1
    have HB2 := hide (And.intro hb2 hO)
    obtain ⟨a2, cc2, hv2⟩ := hO.shp
    rw [HN.out] at hv2
    clear hb2 hO hv
    subst hv2
    go_wp2_with fail
    refine (HU1.out w2 HB2.out.1).mono ?_
    rintro _ w3 ⟨rfl, hb3⟩
    have HB3 := hide (And.intro (below_step HB2.out.1 hb3) (HB2.out.2.keep hb3))
    clear hb3
    go_wp2_with fail
    refine (HRU.out w3).mono ?_
    rintro _ w4 ⟨rfl, hb4⟩
    have HB4 := hide (And.intro (below_step HB3.out.1 hb4) (HB3.out.2.keep hb4))
    clear hb4
    go_wp2_with fail
    refine (HS.out w4 HB4.out.1).mono ?_
    rintro _ w5 ⟨x5, rfl, hx5, hb5⟩
    have HB5 := hide (And.intro (below_step HB4.out.1 hb5) (And.intro (HB4.out.2.keep hb5) hx5))
    obtain ⟨a5, c5', hv5⟩ := hx5.shp
    rw [HN.out] at hv5
    clear hb5 hx5
    subst hv5
    go_wp2_with fail
    refine (HRS.out w5).mono ?_
    rintro _ w6 ⟨x6, rfl, hx6, hb6⟩
    have HB6 := hide (And.intro (below_step HB5.out.1 hb6) (And.intro (HB5.out.2.1.keep hb6) (And.intro (HB5.out.2.2.keep hb6) hx6)))
    obtain ⟨a6, c6, hv6⟩ := hx6.shp
    rw [HN.out] at hv6
    clear hb6 hx6
    subst hv6
    go_wp2
    go_loopw [16] (fun i wr => ∃ j : Nat, j ≤ N ∧ i = .int .i64 (j : Int) ∧ Below w6.heap.size w6 wr) (fun i _ => N - (Go.RowKit.intOf i).toNat)
    case atStart => exact ⟨0, Nat.zero_le _, rfl, Below.refl _ _⟩
    case round =>
      obtain ⟨j, hj, rfl, hb⟩ := hrel
      by_cases hlt : j < N
      · obtain ⟨q, hq⟩ : ∃ q, l[j]? = some q := ⟨_, List.getElem?_eq_getElem (by rw [HN.out]; exact hlt)⟩
        obtain ⟨g1, d1, q1, r1, x0, x1, x2⟩ := (HB6.out.2.2.1.keep hb).sq hq
        obtain ⟨g2, d2, q2, r2, y0, y1, y2⟩ := (HB6.out.2.2.2.keep hb).sq hq
        simp only [Value.slice.injEq] at q1 q2
        obtain ⟨rfl, -, rfl⟩ := q1
        obtain ⟨rfl, -, rfl⟩ := q2
        obtain ⟨X, hX⟩ : ∃ X, q.lit = X := ⟨_, rfl⟩
        obtain ⟨Dd, hD⟩ : ∃ D, q.dist = D := ⟨_, rfl⟩
        obtain ⟨G, hG⟩ : ∃ G, q.long = G := ⟨_, rfl⟩
        rw [hX] at x0 y0
        rw [hD] at x1 y1
        rw [hG] at x2 y2
        have HE := hide hb
        have b0 : (0 : Int) ≤ (j : Int) := by omega
        have b1 : (j : Int) < (N : Int) := by omega
        clear hb hq hX hD hG r1 r2
        go_upto_region 15 with fail
        go_region
        have HE2 := hide HE.out.drew
        go_wp2
        exact ⟨⟨j + 1, by omega, by go_num, HE2.out⟩, by simp [Go.RowKit.intOf]; omega⟩
      · obtain rfl : j = N := by omega
        have HE := hide (below_step HB6.out.1 hb)
        have HL : Hid (LS sqc 3 (fun _ => True) wr (.slice a2 j cc2) l) := (HB6.out.2.1.keep hb).ls sqc_len (fun _ _ => trivial)
        clear hb
        go_wp2_with fail
        refine (HU2.out wr HE.out).mono ?_
        rintro _ w7 ⟨rfl, hb7⟩
        have HB7 := hide (And.intro (below_step HE.out hb7) (HL.out.bel hb7))
        clear hb7
        go_wp2_with fail
        refine (HO.out w7 _ HB7.out.2).mono ?_
        rintro _ w8 ⟨rfl, hb8⟩
        have HB8 := hide (below_step HB7.out.1 hb8)
        clear hb8
        go_wp2_with fail
        refine (HW.out _ HB8.out).mono ?_
        rintro _ w9 ⟨rfl, hb9⟩
        have HB9 := hide (below_step HB8.out hb9)
        clear hb9
        go_wp2
        go_ret
        exact ⟨rfl, HB9.out⟩
end
end Go.Proofs.Ytndjefjkfhcedaa
