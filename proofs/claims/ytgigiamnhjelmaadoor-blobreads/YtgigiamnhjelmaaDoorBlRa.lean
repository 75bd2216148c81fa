/-
  BlMath, BlRef, BlRef2: joined.
-/
import Derived.Test.YtgigiamnhjelmaaDoorBNum
import Derived.Test.YtgigiamnhjelmaaDoorBSha
import Derived.Test.YtgigiamnhjelmaaDoorBShaR
import Derived.Test.YtgigiamnhjelmaaDoorLzUnp
import Derived.Deep.RegionHeldLaw

namespace Go.Proofs.YtgigiamnhjelmaaDoor
open Go.RowKit Go.Lib
/-- A byte, as bytes. -/
def b1 (k : Nat) : ByteArray := ⟨#[UInt8.ofNat k]⟩
/-- The id of a text of a kind. -/
def idB (k : Nat) (t : ByteArray) : ByteArray := Zq.Sh.strOf (Zq.Sh.digest ((b1 k ++ t).data.toList))
/-- The first byte of bytes; a kind that is one. -/
def fb (s : ByteArray) : Nat := bt s 0
def kn (k : Int) : Bool := k == 1 || k == 2
/-- The length that is told behind the first byte. -/
def hdA (s : ByteArray) : Zq.Nm.Ah := Zq.Nm.shortA s 1 65536
def okH (s : ByteArray) : Bool := decide (0 < s.size) && (kn (fb s) || kn ((fb s : Int) - 16)) && ((hdA s).code == 0)
def lnB (s : ByteArray) : Nat := if okH s then (hdA s).num else 0
def atB (s : ByteArray) : Nat := if okH s then 1 + (hdA s).long else 0
def cdB (s : ByteArray) : Int := if okH s then 0 else 130
/-- What bytes are: the kind and the text. -/
def dcB (s : ByteArray) : Option (Nat × ByteArray) :=
  if okH s then
    (if fb s < 16 then (if s.size - atB s = lnB s then some (fb s, s.extract (atB s) s.size) else none)
     else if upC (s.extract (atB s) s.size) (lnB s) = 0 then some (fb s - 16, upS (s.extract (atB s) s.size) (lnB s)) else none)
  else none
def dK (d : Option (Nat × ByteArray)) : Int := match d with | some (k, _) => (k : Int) | none => 0
def dT (d : Option (Nat × ByteArray)) : ByteArray := match d with | some (_, t) => t | none => ⟨#[]⟩
def dC (d : Option (Nat × ByteArray)) : Int := match d with | some _ => 0 | none => 130
/-- What bytes are, that are asked for by an id. -/
def opB (s i : ByteArray) : Option (Nat × ByteArray) := match dcB s with
  | some (k, t) => if idB k t = i then some (k, t) else none
  | none => none
theorem kn_iff {k : Int} : kn k = true ↔ k = 1 ∨ k = 2 := by simp [kn]
theorem hd_no {s : ByteArray} (h : okH s = false) : lnB s = 0 ∧ atB s = 0 ∧ cdB s = 130 ∧ dcB s = none := by simp [lnB, atB, cdB, dcB, h]
/-- A head that is one. -/
theorem hd_yes {s : ByteArray} (h : okH s = true) : 0 < s.size ∧ (fb s = 1 ∨ fb s = 2 ∨ fb s = 17 ∨ fb s = 18) ∧ hdA s = ⟨lnB s, ⟨#[]⟩, (hdA s).long, 0⟩ ∧ atB s = 1 + (hdA s).long ∧ atB s ≤ s.size ∧ lnB s ≤ 65536 ∧ cdB s = 0 := by
  have h0 := h
  simp only [okH, Bool.and_eq_true, Bool.or_eq_true, decide_eq_true_eq, beq_iff_eq, kn_iff] at h0
  obtain ⟨⟨h1, h2⟩, h3⟩ := h0
  have e1 : atB s = 1 + (hdA s).long := by simp [atB, h]
  have e2 : lnB s = (hdA s).num := by simp [lnB, h]
  have e3 : cdB s = 0 := by simp [cdB, h]
  refine ⟨h1, by omega, ?_, e1, ?_⟩
  · rcases Zq.Nm.shortA_cases s 1 65536 (by omega) with ⟨c, hc, e⟩ | ⟨n, l, e, _⟩
    · exact absurd (by rw [hdA, e] at h3; exact h3) hc
    · rw [e2]; rw [hdA, e]
  · rcases Zq.Nm.shortA_cases s 1 65536 (by omega) with ⟨c, hc, e⟩ | ⟨n, l, e, a1, a2, a3⟩
    · exact absurd (by rw [hdA, e] at h3; exact h3) hc
    · rw [e1, e2, hdA, e]
      exact ⟨a1, by show n ≤ 65536; omega, e3⟩
theorem ok_no1 {s : ByteArray} (h : s.size = 0) : okH s = false := by simp [okH, h]
theorem ok_no2 {s : ByteArray} (h1 : kn (fb s) = false) (h2 : kn ((fb s : Int) - 16) = false) : okH s = false := by simp [okH, h1, h2]
theorem ok_no3 {s : ByteArray} {c : Int} (h : hdA s = .bad c) (hc : c ≠ 0) : okH s = false := by
  simp [okH, h, Zq.Nm.Ah.bad, hc]
end Go.Proofs.YtgigiamnhjelmaaDoor

namespace Go.Proofs.YtgigiamnhjelmaaDoor
open Go.RowKit Go.Lib
theorem rknown_any (k : Int) (w : World) : Calls Tryd.prog 21 #[.int .i64 k] w fun e w' => e = .returned (.bool (kn k)) ∧ w' = w := by
  by_cases h1 : k = 1
  · subst h1
    go_enter Tryd.func21, Tryd.ntmps21
    go_wp2
    go_ret
    exact ⟨rfl, rfl⟩
  · by_cases h2 : k = 2
    · subst h2
      go_enter Tryd.func21, Tryd.ntmps21
      go_wp2
      go_ret
      exact ⟨rfl, rfl⟩
    · have c1 : (k == 1) = false := by simpa using h1
      have c2 : (k == 2) = false := by simpa using h2
      have e : kn k = false := by simp [kn, c1, c2]
      rw [e]
      clear h1 h2
      go_enter Tryd.func21, Tryd.ntmps21
      go_wp2
      go_ret
      exact ⟨rfl, rfl⟩
theorem kn_call {k : Int} {b : Bool} (h : kn k = b) (w : World) : Calls Tryd.prog 21 #[.int .i64 k] w fun e w' => e = .returned (.bool b) ∧ w' = w := h ▸ rknown_any k w
set_option maxRecDepth 100000 in
set_option maxHeartbeats 800000 in
theorem rsize_any {w : World} {s : ByteArray} (hs : s.size ≤ 140737488355328) : Calls Tryd.prog 6 #[.string s] w fun e w' => e = .returned (.tuple #[.int .i64 (lnB s), .int .i64 (atB s), .int .i64 (cdB s)]) ∧ Below w.heap.size w w' := by
  by_cases h0 : s.size = 0
  · obtain ⟨e1, e2, e3, _⟩ := hd_no (ok_no1 h0)
    have hse : s = ⟨#[]⟩ := ByteArray.ext (Array.eq_empty_of_size_eq_zero h0)
    rw [e1, e2, e3]
    subst hse
    go_enter Tryd.func6, Tryd.ntmps6
    go_wp2
    exact bodyPost_ret (v := .tuple #[.int .i64 0, .int .i64 0, .int .i64 130]) (by simp [results, Tryd.results6, go_sem]) rfl ⟨rfl, Below.refl _ _⟩
  · have h0' : 0 < s.size := by omega
    have hne2 : ¬ s.toList = [] := by
      rw [bytes_list]
      intro e
      have h3 := congrArg List.length e
      have h4 : s.size = 0 := by simpa using h3
      omega
    have hne : s.toList.isEmpty = false := List.isEmpty_eq_false_iff.2 hne2
    clear hne2
    have hix : ∀ w, (Instr.index 9 (.string s) (.int .i64 0)).run Tryd.prog w = .ok (.int .u8 ((bt s 0 : Nat) : Int)) w := fun w => ix_at (i := 0) h0' w
    have hcv := cv_u8 s 0
    have hlt := bt_lt s 0
    have hsub : IntKind.i64.wrap (((bt s 0 : Nat) : Int) - 16) = ((bt s 0 : Nat) : Int) - 16 := by rw [IntKind.wrap_i64]; omega
    obtain ⟨g, hg⟩ : ∃ g, g = w.heap.size := ⟨_, rfl⟩
    obtain ⟨w1, hw1⟩ : ∃ w1, w.alloc (.cells #[.string s, .int .i64 1, .int .i64 0] 45) = w1 := ⟨_, rfl⟩
    have kr : Zq.Nm.Rd 45 w1 g s 1 0 := by rw [← hw1, hg]; exact heap_alloc_new w _
    have hB1 : Below w.heap.size w w1 := by rw [← hw1]; exact (Below.refl _ _).alloc (Nat.le_refl _) _
    have HR := hide (Zq.Nm.refShort_r 65536 kr (by omega) hs)
    rw [Zq.Nm.asked_zero, ← hdA] at HR
    have HW := hide (And.intro hw1 hg)
    have HB1 := hide (And.intro hB1 (show w.heap.size ≤ g by omega))
    have hX : okH s = ((kn (fb s) || kn ((fb s : Int) - 16)) && ((hdA s).code == 0)) := by simp [okH, h0']
    have HX := hide hX
    clear hX
    have hfb : fb s = bt s 0 := rfl
    rw [hfb] at HX
    have HT := hide (Zq.Nm.shortA_cases s 1 65536 (by omega))
    rw [← hdA] at HT
    clear hw1 hg kr hB1 hfb h0 h0' hs
    obtain ⟨b, hb⟩ : ∃ b : Nat, bt s 0 = b := ⟨_, rfl⟩
    rw [hb] at hix hcv hlt hsub HX
    clear hb
    rcases hA : kn (b : Int) with _ | _
    · rcases hC : kn ((b : Int) - 16) with _ | _
      · have e : okH s = false := by rw [HX.out, hA, hC]; rfl
        obtain ⟨e1, e2, e3, _⟩ := hd_no e
        rw [e1, e2, e3]
        have HA := hide hA
        have HC := hide hC
        clear hA hC e e1 e2 e3
        go_enter Tryd.func6, Tryd.ntmps6
        go_wp2_with fail
        refine (kn_call HA.out _).mono ?_
        rintro _ _ ⟨rfl, rfl⟩
        go_wp2_with fail
        refine (kn_call HC.out _).mono ?_
        rintro _ _ ⟨rfl, rfl⟩
        go_wp2
        exact bodyPost_ret (v := .tuple #[.int .i64 0, .int .i64 0, .int .i64 130]) (by simp [results, Tryd.results6, go_sem]) rfl ⟨rfl, Below.refl _ _⟩
      · have HA := hide hA
        have HC := hide hC
        have hK : okH s = ((hdA s).code == 0) := by rw [HX.out, hA, hC]; simp
        have HK := hide hK
        clear hK
        clear hA hC HX
        rcases HT.out with ⟨c, hc, e⟩ | ⟨n, l, e, a1, a2, a3⟩
        · have e0 : okH s = false := by rw [HK.out, e]; simp [Zq.Nm.Ah.bad, hc]
          obtain ⟨e1, e2, e3, _⟩ := hd_no e0
          rw [e1, e2, e3]
          rw [e] at HR
          have hcb : (c != 0) = true := by simpa using hc
          clear e0 e1 e2 e3 e hc HK HT
          go_enter Tryd.func6, Tryd.ntmps6
          go_wp2_with fail
          refine (kn_call HA.out _).mono ?_
          rintro _ _ ⟨rfl, rfl⟩
          go_wp2_with fail
          refine (kn_call HC.out _).mono ?_
          rintro _ _ ⟨rfl, rfl⟩
          go_wp2_with fail
          rw [HW.out.1, ← HW.out.2]
          refine HR.out.mono ?_
          rintro _ w2 ⟨rfl, hr2, hg2⟩
          have a2 := hr2.cell2
          have HB2 := hide (Zq.Sh.below_gb HB1.out.1 hg2 HB1.out.2 HB1.out.1.size)
          clear hr2 hg2
          simp only [Zq.Nm.Ah.bad] at a2 ⊢
          go_wp2
          exact bodyPost_ret (v := .tuple #[.int .i64 0, .int .i64 0, .int .i64 130]) (by simp [results, Tryd.results6, go_sem]) rfl ⟨rfl, HB2.out⟩
        · have e0 : okH s = true := by rw [HK.out, e]; simp
          obtain ⟨y1, y2, y3, y4, y5, y6, y7⟩ := hd_yes e0
          have hn : n = lnB s := by
            have := congrArg Zq.Nm.Ah.num (e.symm.trans y3)
            exact this
          have hl : 1 + l = atB s := by rw [y4, e]
          rw [e] at HR
          rw [y7, ← hn, ← hl]
          clear e0 y1 y2 y3 y4 y5 y6 y7 hn hl e HK HT
          go_enter Tryd.func6, Tryd.ntmps6
          go_wp2_with fail
          refine (kn_call HA.out _).mono ?_
          rintro _ _ ⟨rfl, rfl⟩
          go_wp2_with fail
          refine (kn_call HC.out _).mono ?_
          rintro _ _ ⟨rfl, rfl⟩
          go_wp2_with fail
          rw [HW.out.1, ← HW.out.2]
          refine HR.out.mono ?_
          rintro _ w2 ⟨rfl, hr2, hg2⟩
          have a1 := hr2.cell1
          have a2 := hr2.cell2
          have HB2 := hide (Zq.Sh.below_gb HB1.out.1 hg2 HB1.out.2 HB1.out.1.size)
          clear hr2 hg2
          go_wp2
          go_quiet (fail)
          go_wp2
          exact bodyPost_ret (v := .tuple #[.int .i64 (n : Int), .int .i64 ((1 + l : Nat) : Int), .int .i64 0]) (by simp [results, Tryd.results6, go_sem]) rfl ⟨rfl, HB2.out.os, HB2.out.tape, HB2.out.output, HB2.out.size, HB2.out.block⟩
    · have HA := hide hA
      have hK : okH s = ((hdA s).code == 0) := by rw [HX.out, hA]; simp
      have HK := hide hK
      clear hK
      clear hA HX
      rcases HT.out with ⟨c, hc, e⟩ | ⟨n, l, e, a1, a2, a3⟩
      · have e0 : okH s = false := by rw [HK.out, e]; simp [Zq.Nm.Ah.bad, hc]
        obtain ⟨e1, e2, e3, _⟩ := hd_no e0
        rw [e1, e2, e3]
        rw [e] at HR
        have hcb : (c != 0) = true := by simpa using hc
        clear e0 e1 e2 e3 e hc HK HT
        go_enter Tryd.func6, Tryd.ntmps6
        go_wp2_with fail
        refine (kn_call HA.out _).mono ?_
        rintro _ _ ⟨rfl, rfl⟩
        go_wp2_with fail
        rw [HW.out.1, ← HW.out.2]
        refine HR.out.mono ?_
        rintro _ w2 ⟨rfl, hr2, hg2⟩
        have a2 := hr2.cell2
        have HB2 := hide (Zq.Sh.below_gb HB1.out.1 hg2 HB1.out.2 HB1.out.1.size)
        clear hr2 hg2
        simp only [Zq.Nm.Ah.bad] at a2 ⊢
        go_wp2
        exact bodyPost_ret (v := .tuple #[.int .i64 0, .int .i64 0, .int .i64 130]) (by simp [results, Tryd.results6, go_sem]) rfl ⟨rfl, HB2.out⟩
      · have e0 : okH s = true := by rw [HK.out, e]; simp
        obtain ⟨y1, y2, y3, y4, y5, y6, y7⟩ := hd_yes e0
        have hn : n = lnB s := by
          have := congrArg Zq.Nm.Ah.num (e.symm.trans y3)
          exact this
        have hl : 1 + l = atB s := by rw [y4, e]
        rw [e] at HR
        rw [y7, ← hn, ← hl]
        clear e0 y1 y2 y3 y4 y5 y6 y7 hn hl e HK HT
        go_enter Tryd.func6, Tryd.ntmps6
        go_wp2_with fail
        refine (kn_call HA.out _).mono ?_
        rintro _ _ ⟨rfl, rfl⟩
        go_wp2_with fail
        rw [HW.out.1, ← HW.out.2]
        refine HR.out.mono ?_
        rintro _ w2 ⟨rfl, hr2, hg2⟩
        have a1 := hr2.cell1
        have a2 := hr2.cell2
        have HB2 := hide (Zq.Sh.below_gb HB1.out.1 hg2 HB1.out.2 HB1.out.1.size)
        clear hr2 hg2
        go_wp2
        go_quiet (fail)
        go_wp2
        exact bodyPost_ret (v := .tuple #[.int .i64 (n : Int), .int .i64 ((1 + l : Nat) : Int), .int .i64 0]) (by simp [results, Tryd.results6, go_sem]) rfl ⟨rfl, HB2.out.os, HB2.out.tape, HB2.out.output, HB2.out.size, HB2.out.block⟩
end Go.Proofs.YtgigiamnhjelmaaDoor

namespace Go.Proofs.YtgigiamnhjelmaaDoor
open Go.RowKit Go.Lib
theorem bl_from {r : ByteArray} {a : Nat} (h1 : a ≤ r.size) (w : World) : (Instr.slice 9 (.string r) (some (.int .i64 (a : Int))) none none).run Tryd.prog w = .ok (.string (r.extract a r.size)) w := by
  have h2 : (a : Int) ≤ (r.size : Int) := by omega
  simp [go_sem, Tryd.underlying9, h2]
set_option maxRecDepth 100000 in
set_option maxHeartbeats 1600000 in
theorem rdec_any {w : World} {s : ByteArray} (hs : s.size ≤ 4000) : Calls Tryd.prog 10 #[.string s] w fun e w' => e = .returned (.tuple #[.int .i64 (dK (dcB s)), .string (dT (dcB s)), .int .i64 (dC (dcB s))]) ∧ Below w.heap.size w w' := by
  have HS := hide (rsize_any (w := w) (s := s) (by omega))
  rcases ho : okH s with _ | _
  · obtain ⟨e1, e2, e3, e4⟩ := hd_no ho
    rw [e1, e2, e3] at HS
    rw [e4]
    clear e1 e2 e3 e4 ho
    go_enter Tryd.func10, Tryd.ntmps10
    go_wp2_with fail
    refine HS.out.mono ?_
    rintro _ w2 ⟨rfl, hb⟩
    have HB := hide hb
    clear hb
    go_wp2
    exact bodyPost_ret (v := .tuple #[.int .i64 0, .string ⟨#[]⟩, .int .i64 130]) (by simp [results, Tryd.results10, go_sem]) rfl ⟨rfl, HB.out⟩
  · obtain ⟨h0, hf, hA, h4, h5, h6, h7⟩ := hd_yes ho
    have hix : ∀ w, (Instr.index 9 (.string s) (.int .i64 0)).run Tryd.prog w = .ok (.int .u8 ((bt s 0 : Nat) : Int)) w := fun w => ix_at (i := 0) h0 w
    have hcv := cv_u8 s 0
    have hlt := bt_lt s 0
    have hd0 : dcB s = (if bt s 0 < 16 then (if s.size - atB s = lnB s then some (bt s 0, s.extract (atB s) s.size) else none) else if upC (s.extract (atB s) s.size) (lnB s) = 0 then some (bt s 0 - 16, upS (s.extract (atB s) s.size) (lnB s)) else none) := by rw [dcB, ho]; rfl
    rw [show fb s = bt s 0 from rfl] at hf
    have hsl := bl_from (r := s) (a := atB s) h5
    have HU := fun wx => runpack_any (w := wx) (s := s.extract (atB s) s.size) (lnB s : Int) (by rw [ByteArray.size_extract]; omega)
    have HU := hide HU
    rw [h7] at HS
    rw [hd0]
    clear ho hA h4 h0 h7 hd0
    obtain ⟨b, hb⟩ : ∃ b : Nat, bt s 0 = b := ⟨_, rfl⟩
    rw [hb] at hix hcv hlt hf ⊢
    clear hb
    obtain ⟨n, hn⟩ : ∃ n : Nat, lnB s = n := ⟨_, rfl⟩
    obtain ⟨a, ha⟩ : ∃ a : Nat, atB s = a := ⟨_, rfl⟩
    rw [hn, ha] at HS HU ⊢
    rw [hn] at h6
    rw [ha] at hsl h5
    clear hn ha
    obtain ⟨t, ht⟩ : ∃ t, t = s.extract a s.size := ⟨_, rfl⟩
    rw [← ht] at hsl HU ⊢
    clear ht
    by_cases c : b < 16
    · have c1 : (b : Int) < 16 := by omega
      rw [if_pos c]
      by_cases d : s.size - a = n
      · have d1 : (s.size : Int) - (a : Int) = (n : Int) := by omega
        rw [if_pos d]
        simp only [dK, dT, dC]
        clear c d hf
        go_enter Tryd.func10, Tryd.ntmps10
        go_wp2_with fail
        refine HS.out.mono ?_
        rintro _ w2 ⟨rfl, hb⟩
        have HB := hide hb
        clear hb
        go_wp2
        go_quiet (fail)
        go_wp2
        exact bodyPost_ret (v := .tuple #[.int .i64 (b : Int), .string t, .int .i64 0]) (by simp [results, Tryd.results10, go_sem]) rfl ⟨rfl, HB.out.os, HB.out.tape, HB.out.output, HB.out.size, HB.out.block⟩
      · have d1 : ¬ (s.size : Int) - (a : Int) = (n : Int) := by omega
        rw [if_neg d]
        simp only [dK, dT, dC]
        clear c d hf
        go_enter Tryd.func10, Tryd.ntmps10
        go_wp2_with fail
        refine HS.out.mono ?_
        rintro _ w2 ⟨rfl, hb⟩
        have HB := hide hb
        clear hb
        go_wp2
        exact bodyPost_ret (v := .tuple #[.int .i64 0, .string ⟨#[]⟩, .int .i64 130]) (by simp [results, Tryd.results10, go_sem]) rfl ⟨rfl, HB.out⟩
    · have c1 : ¬ (b : Int) < 16 := by omega
      rw [if_neg c]
      by_cases d : upC t (n : Int) = 0
      · rw [if_pos d]
        rw [d] at HU
        simp only [dK, dT, dC]
        obtain ⟨U, hU⟩ : ∃ U, upS t (n : Int) = U := ⟨_, rfl⟩
        rw [hU] at HU ⊢
        have hbs : ((b - 16 : Nat) : Int) = (b : Int) - 16 := by omega
        rw [hbs]
        clear c d hf hU hbs
        go_enter Tryd.func10, Tryd.ntmps10
        go_wp2_with fail
        refine HS.out.mono ?_
        rintro _ w2 ⟨rfl, hb⟩
        have HB := hide hb
        clear hb
        go_wp2_with fail
        refine (HU.out _).mono ?_
        rintro _ w3 ⟨rfl, hb⟩
        have HB3 := hide (below_step HB.out hb)
        clear hb
        go_wp2
        exact bodyPost_ret (v := .tuple #[.int .i64 ((b : Int) - 16), .string U, .int .i64 0]) (by simp [results, Tryd.results10, go_sem]) rfl ⟨rfl, HB3.out⟩
      · rw [if_neg d]
        have dd : (upC t (n : Int) != 0) = true := by simpa using d
        simp only [dK, dT, dC]
        obtain ⟨U, hU⟩ : ∃ U, upS t (n : Int) = U := ⟨_, rfl⟩
        obtain ⟨C, hC⟩ : ∃ C, upC t (n : Int) = C := ⟨_, rfl⟩
        rw [hU, hC] at HU
        rw [hC] at dd
        clear c d hf hU hC
        go_enter Tryd.func10, Tryd.ntmps10
        go_wp2_with fail
        refine HS.out.mono ?_
        rintro _ w2 ⟨rfl, hb⟩
        have HB := hide hb
        clear hb
        go_wp2_with fail
        refine (HU.out _).mono ?_
        rintro _ w3 ⟨rfl, hb⟩
        have HB3 := hide (below_step HB.out hb)
        clear hb
        go_wp2
        exact bodyPost_ret (v := .tuple #[.int .i64 0, .string ⟨#[]⟩, .int .i64 130]) (by simp [results, Tryd.results10, go_sem]) rfl ⟨rfl, HB3.out⟩
end Go.Proofs.YtgigiamnhjelmaaDoor
