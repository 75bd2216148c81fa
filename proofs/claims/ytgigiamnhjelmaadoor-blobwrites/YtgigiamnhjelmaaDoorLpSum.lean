/-
  Lz: a half with the bytes that are added to it, by the program's reader.
-/
import Derived.Test.YtgigiamnhjelmaaDoorLpRead
namespace Go.Proofs.YtgigiamnhjelmaaDoor
open Go.RowKit Go.Lib
section
variable {w w' : World} {b i d h : Nat} {s : ByteArray} {x : Bool}
/-- What a sum comes to. -/
def SumP (s : ByteArray) (i h b d : Nat) (x : Bool) (w : World) (m : Nat) (w' : World) : Prop :=
  ((∃ j, mo s i h = some (m, j) ∧ RD w' b s j d x) ∨ (mo s i h = none ∧ 15 ≤ m ∧ RD w' b s s.size d true)) ∧ m ≤ 15 + 255 * s.size ∧ Gs (Me b) w w'
def szW (w : World) (b : Nat) : Nat := match w.cell? ⟨b, 0, none⟩ with
  | some (.string r) => r.size
  | _ => 0
theorem RD.szW (h : RD w b s i d x) (hi : i ≤ s.size) : szW w b = s.size - i := by
  rw [Go.Proofs.YtgigiamnhjelmaaDoor.szW, (cell3 h).1]
  show (s.extract i s.size).size = _
  rw [ByteArray.size_extract]; omega
def moreV : Value → Nat → Nat
  | .bool true, n => n + 1
  | _, _ => 0
set_option maxRecDepth 100000 in
set_option maxHeartbeats 800000 in
theorem sum_any (hr : RD w b s i d x) (hi : i ≤ s.size) (hh : h ≤ 15) (hs : s.size ≤ 4000) : Calls Tryd.prog 81 #[.pointer (some ⟨b, 0, none⟩), .int .i64 (h : Int)] w fun e w' => ∃ m : Nat, e = .returned (.int .i64 (m : Int)) ∧ SumP s i h b d x w m w' := by
  by_cases c : h < 15
  · have c1 : ((h : Int) == 15) = false := by simp; omega
    have HE : Hid (SumP s i h b d x w h w) := ⟨.inl ⟨i, mo_few c, hr⟩, by omega, Gs.refl _ _⟩
    clear hr
    go_enter Tryd.func81, Tryd.ntmps81
    go_wp2
    go_loopw [5, 6] (fun n m wr => n = .int .i64 (h : Int) ∧ m = .bool false ∧ wr = w) (fun _ _ _ => 0)
    case atStart => exact ⟨rfl, rfl, rfl⟩
    case round =>
      obtain ⟨rfl, rfl, rfl⟩ := hrel
      go_wp2
      go_ret
      exact ⟨h, rfl, HE.out⟩
  · obtain rfl : h = 15 := by omega
    have c1 : ((15 : Int) == 15) = true := rfl
    rw [show ((15 : Nat) : Int) = 15 from rfl]
    obtain ⟨R, hR⟩ : ∃ R, mo s i 15 = R := ⟨_, rfl⟩
    have hm := mo_on (s := s) (i := i) c
    rw [hR] at hm
    have H0 := hide (And.intro hr (And.intro hm hR))
    clear hr hm hR
    go_enter Tryd.func81, Tryd.ntmps81
    go_wp2
    go_loopw [5, 6] (fun n m wr => ∃ a : Nat, n = .int .i64 (a : Int) ∧ ((m = .bool true ∧ ∃ j : Nat, j ≤ s.size ∧ 15 ≤ a ∧ a ≤ 15 + 255 * j ∧ moG s (s.size - j) j a = R ∧ RD wr b s j d x ∧ Gs (Me b) w wr) ∨ (m = .bool false ∧ SumP s i 15 b d x w a wr))) (fun _ m wr => moreV m (szW wr b))
    case atStart => exact ⟨15, rfl, .inl ⟨rfl, i, hi, Nat.le_refl _, by omega, H0.out.2.1.symm, H0.out.1, Gs.refl _ _⟩⟩
    case round =>
      obtain ⟨a, rfl, (⟨rfl, j, hj, ha, ha2, hq, hR, hG⟩ | ⟨rfl, hP⟩)⟩ := hrel
      · have hsz := hR.szW hj
        by_cases hlt : j < s.size
        · have HN := hide (number_ok hR hlt)
          have hb := bt_lt s j
          by_cases hb1 : bt s j < 255
          · rw [moG_one hlt hb1] at hq
            obtain ⟨y, hy⟩ : ∃ y, bt s j = y := ⟨_, rfl⟩
            rw [hy] at HN hb hb1 hq
            have HQ := hide (And.intro hq hG)
            have e1 : IntKind.i64.wrap ((a : Int) + (y : Int)) = (a : Int) + (y : Int) := by rw [IntKind.wrap_i64]; omega
            have e2 : ((y : Int) == 255) = false := by simp; omega
            have e3 : (a : Int) + (y : Int) = ((a + y : Nat) : Int) := by omega
            have HE3 := hide e3
            clear hq hy hR hG e3
            go_wp2_with fail
            refine HN.out.mono ?_
            rintro _ w2 ⟨rfl, h2, hg⟩
            have HG := hide (And.intro h2 hg)
            clear h2 hg
            go_wp2
            refine ⟨⟨a + y, by rw [HE3.out], .inr ⟨rfl, .inl ⟨j + 1, ?_, HG.out.1⟩, by omega, HQ.out.2.trans HG.out.2⟩⟩, ?_⟩
            · rw [H0.out.2.2, ← HQ.out.1]
            · simp [moreV]
          · rw [moG_more hlt hb1] at hq
            obtain ⟨y, hy⟩ : ∃ y, bt s j = y := ⟨_, rfl⟩
            rw [hy] at HN hb hb1 hq
            have HQ := hide (And.intro hq hG)
            have e1 : IntKind.i64.wrap ((a : Int) + (y : Int)) = (a : Int) + (y : Int) := by rw [IntKind.wrap_i64]; omega
            have e2 : ((y : Int) == 255) = true := by simp; omega
            have e3 : (a : Int) + (y : Int) = ((a + y : Nat) : Int) := by omega
            have HE3 := hide e3
            clear hq hy hR hG e3
            go_wp2_with fail
            refine HN.out.mono ?_
            rintro _ w2 ⟨rfl, h2, hg⟩
            have HG := hide (And.intro h2 hg)
            clear h2 hg
            go_wp2
            refine ⟨⟨a + y, by rw [HE3.out], .inl ⟨rfl, j + 1, by omega, by omega, by omega, HQ.out.1, HG.out.1, HQ.out.2.trans HG.out.2⟩⟩, ?_⟩
            have := HG.out.1.szW (by omega)
            simp only [moreV]
            omega
        · obtain rfl : j = s.size := by omega
          have HN := hide (number_bad hR rfl)
          rw [moG_end (Nat.le_refl _)] at hq
          have HQ := hide (And.intro hq hG)
          have e1 : IntKind.i64.wrap (a : Int) = (a : Int) := by rw [IntKind.wrap_i64]; omega
          clear hq hR hG
          go_wp2_with fail
          refine HN.out.mono ?_
          rintro _ w2 ⟨rfl, h2, hg⟩
          have HG := hide (And.intro h2 hg)
          clear h2 hg
          go_wp2
          refine ⟨⟨a, rfl, .inr ⟨rfl, .inr ⟨?_, ha, HG.out.1⟩, by omega, HQ.out.2.trans HG.out.2⟩⟩, ?_⟩
          · rw [H0.out.2.2, ← HQ.out.1]
          · simp [moreV]
      · have HP := hide hP
        clear hP
        go_wp2
        go_ret
        exact ⟨a, rfl, HP.out⟩
end
end Go.Proofs.YtgigiamnhjelmaaDoor
