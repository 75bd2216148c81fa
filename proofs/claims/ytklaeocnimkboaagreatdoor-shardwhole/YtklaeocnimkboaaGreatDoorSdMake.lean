/-
  SdMake: texts of earlier layers, laid over this program.
-/
import Derived.Test.YtklaeocnimkboaaGreatDoorSdDec
import Derived.Test.YtklaeocnimkboaaGreatDoorBSplit
import Derived.Test.YtklaeocnimkboaaGreatDoorBSha
namespace Go.Proofs.YtklaeocnimkboaaGreatDoor
open Go.RowKit Go.Lib

/-- The i-th shard of some bytes. -/
def shX (k m : Nat) (s : ByteArray) (i : Nat) : SX := ⟨k, m, i, s.size, bs (Sh.digest s.data.toList), shd k s i⟩
def shB (k m : Nat) (s : ByteArray) (i : Nat) : ByteArray := bs (fullL (shX k m s i))
theorem shX_ok {k m : Nat} (k1 : 1 ≤ k) (km : k + m ≤ 255) {s : ByteArray} (hs : s.size ≤ 65536) {i : Nat} (hi : i < k + m) : okS (shX k m s i) := by
  refine ⟨⟨by simp only [shX]; omega, by simp only [shX]; omega, by simp only [shX]; omega⟩, ⟨by simp only [shX]; omega, by simp only [shX]; omega⟩, ⟨by simp only [shX]; omega, by simp only [shX]; omega⟩, ?_, ?_⟩
  · show (bs (Sh.digest s.data.toList)).size = 32
    rw [bs_size, Sh.digest_length]
  · show (shd k s i).size = eachN ((k : Int).toNat) ((s.size : Int).toNat)
    rw [Int.toNat_natCast, Int.toNat_natCast]
    exact shd_size k1 s i

set_option maxRecDepth 100000 in
theorem make_bad {w : World} (k m : Int) (s : ByteArray) (hm : m ≤ 9223372036854775807) (h : k < 1 ∨ m < 0 ∨ 255 - m < k) :
    Calls Tryz.prog 7 #[.int .i64 k, .int .i64 m, .string s] w fun e w' => e = .returned (.tuple #[.slice none 0 0, .int .i64 1]) ∧ Below w.heap.size w w' := by
  have HP := hide h
  clear h
  go_enter Tryz.func7, Tryz.ntmps7
  go_wp2_with fail
  refine (snew_bad k m hm HP.out).mono ?_
  rintro e w1 ⟨rfl, hb1⟩
  have HB1 := hide hb1
  clear hb1
  go_wp2
  go_ret2
  exact ⟨rfl, HB1.out⟩

set_option maxRecDepth 100000 in
theorem make_long {w : World} {k m : Nat} (k1 : 1 ≤ k) (km : k + m ≤ 255) {s : ByteArray} (hs : 65536 < s.size) :
    Calls Tryz.prog 7 #[.int .i64 k, .int .i64 m, .string s] w fun e w' => e = .returned (.tuple #[.slice none 0 0, .int .i64 2]) ∧ Below w.heap.size w w' := by
  go_enter Tryz.func7, Tryz.ntmps7
  go_wp2_with fail
  refine (snew_ok k1 km).mono ?_
  rintro e w1 ⟨b, sb, f1, f2, g, rfl, hP, _, hb1⟩
  have HB1 := hide hb1
  clear hb1 hP
  go_wp2_with fail
  refine (split_long hs).mono ?_
  rintro e w2 ⟨rfl, hw⟩
  subst w2
  go_wp2
  go_ret2
  exact ⟨rfl, HB1.out⟩

theorem one_piece (w : World) (s : ByteArray) : Sh.Pieces (w.alloc (.cells #[.string s] 9)) (.slice (some ⟨w.heap.size, 0, none⟩) 1 1) [s] := by
  refine ⟨_, 1, rfl, .inr ⟨w.heap.size, 0, rfl, by simp, fun k hk => ?_⟩⟩
  have : k = 0 := by simpa using hk
  subst this
  rw [cell_of_row _ w.heap.size (0 + 0) _ _ _ (heap_alloc_new w _)]
  rfl
theorem joined_one (s : ByteArray) : Sh.strOf (Sh.digest (Sh.joined [s])) = bs (Sh.digest s.data.toList) := by
  rw [show Sh.joined [s] = s.data.toList by simp [Sh.joined]]
  rfl
/-- The sum of one text. -/
theorem sum_one {w : World} (hL : Sh.Laid w) (s : ByteArray) (hs : s.size ≤ 1000000) :
    Calls Tryz.prog 18 #[.slice (some ⟨w.heap.size, 0, none⟩) 1 1] (w.alloc (.cells #[.string s] 9)) fun e w' => e = .returned (.string (bs (Sh.digest s.data.toList))) ∧ Below w.heap.size w w' := by
  have hb : Below w.heap.size w (w.alloc (.cells #[.string s] 9)) := below_alloc (Below.refl _ _) _
  refine (Sh.sum_any (hL.below hb hL.size) (one_piece w s) (by simp) (by simp [Sh.joined]; omega)).mono ?_
  rintro e w1 ⟨rfl, hb1⟩
  rw [joined_one]
  exact ⟨rfl, below_step hb hb1⟩

set_option maxRecDepth 100000 in
set_option maxHeartbeats 1600000 in
theorem make_ok {w : World} (hL : Sh.Laid w) {k m : Nat} (k1 : 1 ≤ k) (km : k + m ≤ 255) {s : ByteArray} (hs : s.size ≤ 65536) :
    Calls Tryz.prog 7 #[.int .i64 k, .int .i64 m, .string s] w fun e w' => ∃ q, e = .returned (.tuple #[.slice (some ⟨q, 0, none⟩) (k + m) (k + m), .int .i64 0]) ∧ SB w' q (k + m) (shB k m s) ∧ w.heap.size ≤ q ∧ Below w.heap.size w w' := by
  obtain ⟨n, hn⟩ : ∃ n, n = k + m := ⟨_, rfl⟩
  have hnb : n ≤ 255 := by omega
  have HL := hide hL
  have HK := hide (And.intro k1 (And.intro km (And.intro hs hn)))
  obtain ⟨ID, hID⟩ : ∃ d, d = bs (Sh.digest s.data.toList) := ⟨_, rfl⟩
  have HID := hide hID
  have zID : ID.size = 32 := by rw [hID, bs_size, Sh.digest_length]
  have kk : k < 256 := by omega
  have mm : m < 256 := by omega
  rw [← hn]
  clear hL hn k1 km hID
  go_enter Tryz.func7, Tryz.ntmps7
  go_wp2_with fail
  refine (snew_ok HK.out.1 HK.out.2.1).mono ?_
  rintro e w1 ⟨b, sb, f1, f2, g, rfl, hP, hf2, hb1⟩
  have HP := hide hP
  have HB1 := hide hb1
  have HF := hide hf2
  clear hb1 hP hf2
  go_wp2_with fail
  refine (split_ok HP.out HK.out.1 HK.out.2.1 HK.out.2.2.1).mono ?_
  rintro e w2 ⟨q, rfl, hS, hq, _, hg2⟩
  rw [← HK.out.2.2.2] at hS ⊢
  have HB2 := hide (below_gb HB1.out hg2 HF.out HB1.out.size)
  have HS2 := hide hS
  have HL2 := hide (HL.out.below HB2.out HL.out.size)
  have HQ := hide (Nat.le_trans HB1.out.size hq)
  clear hS hq hg2 HB1 HP HF HL
  go_wp2_with fail
  refine (sum_one HL2.out s (by omega)).mono ?_
  rintro e w3 ⟨rfl, hb3⟩
  rw [← HID.out]
  have HB3 := hide (HB2.out.trans (hb3.mono HB2.out.size))
  have HS3 := hide (HS2.out.below hb3 (Nat.le_refl _))
  have hmk : ∀ w : World, _ := fun w => run_make_row' (P := Tryz.prog) 23 9 (.string ⟨#[]⟩) 16 Tryz.underlying23 Tryz.infoS rfl .i64 .i64 n (by omega) (by omega) w
  clear hb3 HB2 HS2 HL2
  have HN4 := hide (SB.made w3 n)
  have hb34 := below_alloc (Below.refl w3.heap.size w3) (.cells (madeCells #[.string ⟨#[]⟩] n) 9)
  have HB4 := hide (HB3.out.trans (hb34.mono HB3.out.size))
  have HS4 := hide (HS3.out.below hb34 (Nat.le_refl _))
  have HQ4 : Hid (q < w3.heap.size ∧ w.heap.size ≤ w3.heap.size) := ⟨HS3.out.lt, HB3.out.size⟩
  clear hb34 HB3 HS3
  obtain ⟨V, hV⟩ : ∃ V, V = w3.alloc (.cells (madeCells #[.string ⟨#[]⟩] n) 9) := ⟨_, rfl⟩
  rw [← hV] at HN4 HB4 HS4
  have HV := hide hV
  clear hV
  go_upto_region 9 with fail
  rw [← HV.out]
  obtain ⟨p, hp⟩ : ∃ p, p = w3.heap.size := ⟨_, rfl⟩
  rw [← hp] at HN4 HQ4 ⊢
  clear HV hmk hp
  have HSZ : Hid (∀ i, (shd k s i).size ≤ 65536) := fun i => by
    rw [shd_size HK.out.1]
    exact Nat.le_trans (eachN_le HK.out.1) hs
  have HEQ : Hid (∀ i : Nat, bs (fullL ⟨k, m, i, s.size, ID, shd k s i⟩) = shB k m s i) := fun i => by
    rw [HID.out]
    rfl
  go_wp2
  go_loopw [41] (fun z wr => ∃ i : Nat, i ≤ n ∧ z = .int .i64 i ∧ SB wr p n (fun j => if j < i then shB k m s j else ⟨#[]⟩) ∧ SB wr q n (shd k s) ∧ Below w.heap.size w wr) (fun z _ => n - (RowKit.intOf z).toNat)
  case atStart => exact ⟨0, Nat.zero_le _, rfl, HN4.out.congr (fun i hi => by simp), HS4.out, HB4.out⟩
  case round =>
    obtain ⟨i, hi, rfl, hN, hS, hb⟩ := hrel
    clear HN4 HS4 HB4
    by_cases hlt : i < n
    · have HNr := hide hN
      have HSr := hide hS
      have HBr := hide hb
      have b1 : (i : Int) < (n : Int) := by omega
      have b0 : (0 : Int) ≤ (i : Int) := by omega
      have cq := hS.cell i hlt
      have ii : i < 256 := by omega
      clear hN hS hb
      go_wp2_with fail
      refine (written_any k m i s.size ID (shd k s i) _ kk mm ii (by omega) (by omega) (by have := HSZ.out i; omega)).mono ?_
      rintro e w5 ⟨rfl, hb5⟩
      rw [HEQ.out i]
      have hN2 := HNr.out.below hb5 (Nat.le_refl _)
      have HS2 := hide (HSr.out.below hb5 (Nat.le_refl _))
      have HB2 := hide (HBr.out.trans (hb5.mono HBr.out.size))
      have hset := hN2.set i (shB k m s i)
      have gs := gb_set w5 p i (.string (shB k m s i))
      have HN3 : Hid (SB (w5.setCell ⟨p, i, none⟩ (.string (shB k m s i))) p n (fun j => if j < i + 1 then shB k m s j else ⟨#[]⟩)) := hset.congr (fun j hj => by
        by_cases e1 : j = i
        · subst e1; rw [if_pos rfl, if_pos (by omega)]
        · rw [if_neg e1]
          by_cases e2 : j < i
          · rw [if_pos e2, if_pos (by omega)]
          · rw [if_neg e2, if_neg (by omega)])
      have nqq : q ≠ p := by
        have := HQ4.out
        omega
      have HS3 := hide (HS2.out.of_block (gs.block q HS2.out.lt (by simpa using nqq)))
      have HB3 := hide (HB2.out.setCell (p := ⟨p, i, none⟩) HQ4.out.2 (.string (shB k m s i)))
      have q1 := hN2.cell i hlt
      have q2 := hN2.free i
      clear hset gs hN2 HS2 HB2 HNr HSr HBr nqq hb5 cq
      go_wp2
      exact ⟨⟨i + 1, by omega, by go_num, HN3.out, HS3.out, HB3.out⟩, by simp [RowKit.intOf]; omega⟩
    · obtain rfl : i = n := by omega
      have HNr := hide (hN.congr (X' := shB k m s) (fun j hj => if_pos hj))
      have HBr := hide hb
      clear hN hS hb
      go_wp2
      go_ret2
      exact ⟨p, rfl, HNr.out, HQ4.out.2, HBr.out⟩
end Go.Proofs.YtklaeocnimkboaaGreatDoor

