/-
  Lz: the statement LzBack, walked: over what the program's Pack and Unpack answer.
-/
import Derived.Test.YtndjefjkfhcedaaLzLaw2
import Derived.Test.YtndjefjkfhcedaaLzMath2
import Derived.Test.YtndjefjkfhcedaaStAmg
namespace Go.Proofs.Ytndjefjkfhcedaa
open Go.RowKit Go.Lib
section
variable {pk : ByteArray → ByteArray} {s : ByteArray}
theorem PackF.more (h : PackF pk) (hs : s.size ≤ 2000) : upC (pk s) ((s.size : Int) + 1) = 120 := by
  obtain ⟨l, h1, _⟩ := h.back s (by omega)
  exact (up_other (by omega) h1 (by omega)).2
theorem PackF.cut (h : PackF pk) (hs : s.size ≤ 2000) {k : Nat} (hk : k < (pk s).size) : upC ((pk s).extract 0 k) (s.size : Int) = 120 := by
  obtain ⟨l, h1, _⟩ := h.back s (by omega)
  cases hp : ps ((pk s).extract 0 k) with
  | none => exact (up_none (by omega) hp).2
  | some r =>
    obtain ⟨l2, t2⟩ := r
    refine (up_other (by omega) hp ?_).2
    rcases ps_pre (pre_take (Nat.le_of_lt hk)) (by rw [ByteArray.size_extract]; omega) hp with h0 | ⟨l3, t3, h0, h4⟩
    · rw [h0] at h1; cases h1
    · rw [h0] at h1
      simp only [Option.some.injEq, Prod.mk.injEq] at h1
      omega
theorem PackF.behind (h : PackF pk) (hs : s.size ≤ 2000) (c : UInt8) : upC (pk s ++ ⟨#[c]⟩) (s.size : Int) = 120 := by
  obtain ⟨l, h1, _⟩ := h.back s (by omega)
  rcases ps_pre (pre_app (pk s) ⟨#[c]⟩) (by rw [ByteArray.size_append]; show _ < _ + 1; omega) h1 with h0 | ⟨l3, t3, h0, h4⟩
  · exact (up_none (by omega) h0).2
  · exact (up_other (by omega) h0 (by omega)).2
theorem PackF.some (h : PackF pk) (hs : s.size ≤ 2000) : 0 < (pk s).size := by
  obtain ⟨l, h1, _⟩ := h.back s (by omega)
  apply Nat.pos_of_ne_zero
  intro e
  rw [ps, pq_end (by omega)] at h1
  cases h1
end
theorem cv_one (w : World) (c : UInt8) : (convert 43 9 (.slice (some ⟨w.heap.size, 0, none⟩) 1 1)).run Try.prog (w.alloc (.cells #[.int .u8 (c.toNat : Int)] 5)) = .ok (.string ⟨#[c]⟩) (w.alloc (.cells #[.int .u8 (c.toNat : Int)] 5)) := by
  refine run_convert_bytes_back _ 43 9 5 ⟨w.heap.size, 0, none⟩ 1 [c] Try.underlying43 Try.underlying5 Try.underlying9 (fun j hj => ?_)
  have hj0 : j = 0 := by simp at hj; exact hj
  subst hj0
  rw [Addr.add_mid, Nat.zero_add, cell_of_row _ _ _ _ _ _ (heap_alloc_new w _)]
  rfl
theorem sl_to {s : ByteArray} {a : Nat} (h1 : a ≤ s.size) (w : World) : (Instr.slice 9 (.string s) none (some (.int .i64 (a : Int))) none).run Try.prog w = .ok (.string (s.extract 0 a)) w := by
  have c1 : (a : Int) ≤ (s.size : Int) := by omega
  simp [go_sem, Try.underlying9, c1]
theorem add_run {a b c : ByteArray} (h : a ++ b = c) (hz : a.size + b.size ≤ 9223372036854775807) (w : World) : (Op.stringOp .add a b).run Try.prog w = .ok (.string c) w := by
  rw [run_string_add_sum w a b hz, h]
theorem add_run2 {a b c : ByteArray} (h : a ++ b = c) (hz : a.size + b.size ≤ 9223372036854775807) (w : World) : (binOp .add 9 (.string a) (.string b)).run Try.prog w = .ok (.string c) w := by
  rw [binOp_string_add, add_run h hz]
section
variable {K : World → Prop} {pk : ByteArray → ByteArray}
set_option maxRecDepth 100000 in
set_option maxHeartbeats 1600000 in
theorem back12 (hK : Kept K) (hF : PackF pk) (hU : UnpackC K) (hP : PackC K pk) {w : World} (hk : K w) (s : ByteArray) (n : Int) (c : UInt8) (hs : s.size ≤ 4611686018427387904) : Calls Try.prog 5 #[.string s, .int .i64 n, .int .u8 (c.toNat : Int)] w fun e w' => e = .returned (.bool true) ∧ Below w.heap.size w w' := by
  have HW := hide (works12 hU hk)
  by_cases h1 : 2000 < s.size
  · have c1 : (2000 : Int) < (s.size : Int) := by omega
    clear hU hP hK
    go_enter Try.func5, Try.ntmps5
    go_wp2_with fail
    refine HW.out.mono ?_
    rintro _ w2 ⟨rfl, hb⟩
    have HB2 := hide hb
    clear hb
    go_wp2
    go_ret
    exact ⟨rfl, HB2.out⟩
  have h2 : s.size ≤ 2000 := by omega
  have c1 : ¬ (2000 : Int) < (s.size : Int) := by omega
  have HPK : Hid (∀ wx, Below w.heap.size w wx → Calls Try.prog 17 #[.string s] wx fun e w' => e = .returned (.tuple #[.string (pk s), .int .i64 0]) ∧ Below wx.heap.size wx w') := fun wx h => by
    have := hP wx s (hK _ _ hk h) (by omega) hs
    rw [pkV, if_pos (by omega)] at this
    exact this
  obtain ⟨u1, u2⟩ := hF.up (s := s) (by omega)
  have u3 := hF.more h2
  have u4 := fun {k : Nat} => hF.cut h2 (k := k)
  have u5 := hF.behind h2 c
  have hpos := hF.some h2
  have hsz := hF.size s (by omega)
  obtain ⟨P, hPP⟩ : ∃ P, pk s = P := ⟨_, rfl⟩
  rw [hPP] at HPK u1 u2 u3 u5 hpos hsz
  rw [hPP] at u4
  have HU : Hid (∀ wx b m, b.size ≤ 4000 → Below w.heap.size w wx → Calls Try.prog 10 #[.string b, .int .i64 m] wx fun e w' => e = .returned (.tuple #[.string (upS b m), .int .i64 (upC b m)]) ∧ Below wx.heap.size wx w') := fun wx b m hb h => hU wx b m (hK _ _ hk h) hb
  obtain ⟨k, hkk⟩ : ∃ k, amg n P.size = k := ⟨_, rfl⟩
  obtain ⟨_, hk2, _, _⟩ := amg_spec n P.size hpos
  rw [hkk] at hk2
  have HA : Hid (∀ wx, Calls Try.prog 18 #[.int .i64 n, .int .i64 (P.size : Int)] wx fun e w' => e = .returned (.int .i64 (k : Int)) ∧ w' = wx) := fun wx => by rw [← hkk]; exact among_any wx n P.size hpos (by omega)
  have HU1 : Hid (∀ wx, Below w.heap.size w wx → Calls Try.prog 10 #[.string P, .int .i64 (s.size : Int)] wx fun e w' => e = .returned (.tuple #[.string s, .int .i64 0]) ∧ Below wx.heap.size wx w') := fun wx h => by have := HU.out wx P s.size (by omega) h; rw [u1, u2] at this; exact this
  obtain ⟨S2, hS2⟩ : ∃ S2, upS P ((s.size : Int) + 1) = S2 := ⟨_, rfl⟩
  have HU2 : Hid (∀ wx, Below w.heap.size w wx → Calls Try.prog 10 #[.string P, .int .i64 ((s.size : Int) + 1)] wx fun e w' => e = .returned (.tuple #[.string S2, .int .i64 120]) ∧ Below wx.heap.size wx w') := fun wx h => by have := HU.out wx P ((s.size : Int) + 1) (by omega) h; rw [hS2, u3] at this; exact this
  obtain ⟨Q, hQ⟩ : ∃ Q, P.extract 0 k = Q := ⟨_, rfl⟩
  have hQz : Q.size ≤ 4000 := by rw [← hQ, ByteArray.size_extract]; omega
  obtain ⟨S3, hS3⟩ : ∃ S3, upS Q (s.size : Int) = S3 := ⟨_, rfl⟩
  have HU3 : Hid (∀ wx, Below w.heap.size w wx → Calls Try.prog 10 #[.string Q, .int .i64 (s.size : Int)] wx fun e w' => e = .returned (.tuple #[.string S3, .int .i64 120]) ∧ Below wx.heap.size wx w') := fun wx h => by have := HU.out wx Q (s.size : Int) hQz h; rw [hS3, ← hQ, u4 hk2, hQ] at this; exact this
  obtain ⟨R, hR⟩ : ∃ R, P ++ (⟨#[c]⟩ : ByteArray) = R := ⟨_, rfl⟩
  have hRz : R.size ≤ 4000 := by rw [← hR, ByteArray.size_append]; show P.size + 1 ≤ 4000; omega
  obtain ⟨S4, hS4⟩ : ∃ S4, upS R (s.size : Int) = S4 := ⟨_, rfl⟩
  rw [hR] at u5
  have HU4 : Hid (∀ wx, Below w.heap.size w wx → Calls Try.prog 10 #[.string R, .int .i64 (s.size : Int)] wx fun e w' => e = .returned (.tuple #[.string S4, .int .i64 120]) ∧ Below wx.heap.size wx w') := fun wx h => by have := HU.out wx R (s.size : Int) hRz h; rw [hS4, u5] at this; exact this
  have sl := fun wx => sl_to (Nat.le_of_lt hk2) wx
  rw [hQ] at sl
  have ar := add_run hR (show P.size + 1 ≤ 9223372036854775807 by omega)
  have ar2 := add_run2 hR (show P.size + 1 ≤ 9223372036854775807 by omega)
  have n1 : P.toList.isEmpty = false := by
    rw [bytes_list]
    exact List.isEmpty_eq_false_iff.2 (fun e => by have h9 : P.size = 0 := (by have := congrArg List.length e; simpa using this); omega)
  have n2 : ¬ P.toList = [] := fun e => by rw [e] at n1; cases n1
  have cv := fun wx => cv_one wx c
  have c2 : IntKind.i64.wrap ((s.size : Int) + 1) = (s.size : Int) + 1 := by rw [IntKind.wrap_i64]; omega
  have c3 : (k : Int) ≤ (P.size : Int) := by omega
  clear hU hP hK HU hF u1 u2 u3 u4 u5 hPP hkk hQ hR hS2 hS3 hS4 hpos hsz hQz hRz h1 h2
  go_enter Try.func5, Try.ntmps5
  go_wp2_with fail
  refine HW.out.mono ?_
  rintro _ w2 ⟨rfl, hb2⟩
  have HB2 := hide hb2
  clear hb2
  go_wp2_with fail
  refine (HPK.out w2 HB2.out).mono ?_
  rintro _ w3 ⟨rfl, hb3⟩
  have HB3 := hide (below_step HB2.out hb3)
  clear hb3
  go_wp2_with fail
  refine (HU1.out w3 HB3.out).mono ?_
  rintro _ w4 ⟨rfl, hb4⟩
  have HB4 := hide (below_step HB3.out hb4)
  clear hb4
  go_wp2_with fail
  refine (HU2.out w4 HB4.out).mono ?_
  rintro _ w5 ⟨rfl, hb5⟩
  have HB5 := hide (below_step HB4.out hb5)
  clear hb5
  go_wp2_with fail
  refine (HA.out w5).mono ?_
  rintro _ w6 ⟨rfl, hw6⟩
  subst hw6
  go_wp2_with fail
  refine (HU3.out w6 HB5.out).mono ?_
  rintro _ w7 ⟨rfl, hb7⟩
  have HB7 := hide (below_step HB5.out hb7)
  clear hb7
  go_wp2_with fail
  refine (HU4.out _ (below_step HB7.out ((Below.refl _ w7).alloc (Nat.le_refl _) _))).mono ?_
  rintro _ w8 ⟨rfl, hb8⟩
  have HB8 := hide (below_step (below_step HB7.out ((Below.refl _ w7).alloc (Nat.le_refl _) _)) hb8)
  clear hb8
  go_wp2
  go_ret
  exact ⟨rfl, HB8.out⟩
end
end Go.Proofs.Ytndjefjkfhcedaa
