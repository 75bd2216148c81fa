/-
  SdRefMake: texts of earlier layers, laid over this program.
-/
import Derived.Test.YtklaeocnimkboaaGreatDoorSdMake
import Derived.Test.YtklaeocnimkboaaGreatDoorSdRefText
import Derived.Test.YtklaeocnimkboaaGreatDoorBShaR
namespace Go.Proofs.YtklaeocnimkboaaGreatDoor
open Go.RowKit Go.Lib

set_option maxRecDepth 100000 in
theorem rmake_bad {w : World} (k m : Int) (s : ByteArray) (h : k < 1 ∨ m < 0 ∨ 255 - m < k) :
    Calls Tryz.prog 8 #[.int .i64 k, .int .i64 m, .string s] w fun e w' => e = .returned (.tuple #[.slice none 0 0, .int .i64 1]) ∧ Below w.heap.size w w' := by
  have HP := hide h
  clear h
  go_enter Tryz.func8, Tryz.ntmps8
  go_wp2_with fail
  refine (rnew_bad k m HP.out).mono ?_
  rintro e w1 ⟨rfl, hb1⟩
  have HB1 := hide hb1
  clear hb1
  go_wp2
  go_ret2
  exact ⟨rfl, HB1.out⟩

set_option maxRecDepth 100000 in
theorem rmake_long {w : World} {k m : Nat} (k1 : 1 ≤ k) (km : k + m ≤ 255) {s : ByteArray} (hs : 65536 < s.size) :
    Calls Tryz.prog 8 #[.int .i64 k, .int .i64 m, .string s] w fun e w' => e = .returned (.tuple #[.slice none 0 0, .int .i64 2]) ∧ Below w.heap.size w w' := by
  go_enter Tryz.func8, Tryz.ntmps8
  go_wp2_with fail
  refine (rnew_ok k1 km).mono ?_
  rintro e w1 ⟨b, g, rfl, hP, hb1⟩
  have HB1 := hide hb1
  clear hb1 hP
  go_wp2_with fail
  refine (rsplit_long hs).mono ?_
  rintro e w2 ⟨rfl, hw⟩
  subst w2
  go_wp2
  go_ret2
  exact ⟨rfl, HB1.out⟩

theorem rdigest (s : ByteArray) (w : World) (hs : s.size ≤ 100000) :
    Calls Tryz.prog 25 #[.string s] w fun e w' => e = .returned (.string (bs (Sh.digest s.data.toList))) ∧ Below w.heap.size w w' := by
  have := Sh.refDigest_any s.data.toList w (by rw [bsize]; exact hs)
  rw [show Sh.strOf s.data.toList = s from bs_of s] at this
  exact this

set_option maxRecDepth 100000 in
set_option maxHeartbeats 1600000 in
theorem rmake_ok {w : World} {k m : Nat} (k1 : 1 ≤ k) (km : k + m ≤ 255) {s : ByteArray} (hs : s.size ≤ 65536) :
    Calls Tryz.prog 8 #[.int .i64 k, .int .i64 m, .string s] w fun e w' => ∃ a c, e = .returned (.tuple #[.slice a (k + m) c, .int .i64 0]) ∧ Fd.TX w' (.slice a (k + m) c) (k + m) (shB k m s) ∧ Below w.heap.size w w' := by
  obtain ⟨n, hn⟩ : ∃ n, n = k + m := ⟨_, rfl⟩
  have hnb : n ≤ 255 := by omega
  have HK := hide (And.intro k1 (And.intro km (And.intro hs hn)))
  obtain ⟨ID, hID⟩ : ∃ d, d = bs (Sh.digest s.data.toList) := ⟨_, rfl⟩
  have HID := hide hID
  have zID : ID.size = 32 := by rw [hID, bs_size, Sh.digest_length]
  have kk : k < 256 := by omega
  have mm : m < 256 := by omega
  rw [← hn]
  clear hn k1 km hID
  go_enter Tryz.func8, Tryz.ntmps8
  go_wp2_with fail
  refine (rnew_ok HK.out.1 HK.out.2.1).mono ?_
  rintro e w1 ⟨b, g, rfl, hP, hb1⟩
  have HP := hide hP
  have HB1 := hide hb1
  clear hb1 hP
  go_wp2_with fail
  refine (rsplit_ok HP.out HK.out.1 HK.out.2.1 s HK.out.2.2.1).mono ?_
  rintro e w2 ⟨a, c, rfl, hT, hb2⟩
  rw [← HK.out.2.2.2] at hT ⊢
  obtain ⟨a', c', e', ht⟩ := hT
  simp only [Value.slice.injEq, true_and] at e'
  obtain ⟨rfl, rfl⟩ := e'
  obtain ⟨bl, off, rfl, hbl, hcl⟩ := ht.resolve_left (by have := HK.out; omega)
  have HB2 := hide (below_step HB1.out hb2)
  have HCL := hide hcl
  clear hb2 HB1 HP hcl ht
  go_wp2_with fail
  refine (rdigest s _ (by omega)).mono ?_
  rintro e w3 ⟨rfl, hb3⟩
  rw [← HID.out]
  have HB3 := hide (below_step HB2.out hb3)
  have HC3 : Hid (∀ w', Below w3.heap.size w3 w' → ∀ i, i < n → w'.cell? ⟨bl, off + i, none⟩ = some (.string (shd k s i))) := fun w' hb i hi => ((below_step hb3 hb).cell (p := ⟨bl, off + i, none⟩) hbl).trans (HCL.out i hi)
  have HSZ : Hid (∀ i, (shd k s i).size ≤ 65536) := fun i => by
    rw [shd_size HK.out.1]
    exact Nat.le_trans (eachN_le HK.out.1) hs
  have HEQ : Hid (∀ i : Nat, bs (fullL ⟨k, m, i, s.size, ID, shd k s i⟩) = shB k m s i) := fun i => by
    rw [HID.out]
    rfl
  clear hb3 HB2 HCL hbl
  go_wp2
  go_loopw [12, 13] (fun v z wr => ∃ i : Nat, i ≤ n ∧ z = .int .i64 i ∧ IS w3.heap.size v i (shB k m s) wr ∧ Below w3.heap.size w3 wr) (fun _ z _ => n - (RowKit.intOf z).toNat)
  case atStart => exact ⟨0, Nat.zero_le _, rfl, IS.nil _ _ _, Below.refl _ _⟩
  case round =>
    obtain ⟨i, hi, rfl, hI, hb⟩ := hrel
    by_cases hlt : i < n
    · have HIr := hide hI
      have HBr := hide hb
      have b1 : (i : Int) < (n : Int) := by omega
      have b0 : (0 : Int) ≤ (i : Int) := by omega
      have cq := HC3.out _ hb i hlt
      have ii : i < 256 := by omega
      clear hI hb
      go_wp2_with fail
      refine (refText_any k m i s.size ID (shd k s i) _ kk mm ii (by omega) (by omega) (by have := HSZ.out i; omega)).mono ?_
      rintro e w5 ⟨rfl, hb5⟩
      rw [HEQ.out i]
      have hI4 := HIr.out.keep hb5
      have hB4 := below_step HBr.out hb5
      obtain ⟨a', c', w', hr, hI', hBW⟩ := hI4.one (shB k m s i) (by omega) hB4.size
      have HI5 := hide (hI'.congr (X' := shB k m s) (fun j hj => by
        by_cases e1 : j < i
        · rw [if_pos e1]
        · obtain rfl : j = i := by omega
          rw [if_neg e1]))
      have HB5 := hide (hBW w3 hB4)
      clear hI4 hB4 hI' hBW hb5 HIr HBr cq
      go_wp2_with (at_builtin; refine Lib.wpList_append_run _ rfl _ _ _ _ rfl _ _ rfl rfl _ _ hr ?_)
      exact ⟨⟨i + 1, by omega, by go_num, HI5.out, HB5.out⟩, by simp [RowKit.intOf]; omega⟩
    · obtain rfl : i = n := by omega
      have HIr := hide hI
      have HBr := hide hb
      obtain ⟨a', c', rfl⟩ := hI.shp
      clear hI hb
      go_wp2
      go_ret2
      exact ⟨a', c', rfl, HIr.out.tx, below_step HB3.out HBr.out⟩
end Go.Proofs.YtklaeocnimkboaaGreatDoor

