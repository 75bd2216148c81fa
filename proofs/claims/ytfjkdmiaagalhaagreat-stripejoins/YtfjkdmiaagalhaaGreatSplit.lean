/-
  A shard, and all of them: the program's.
-/
import Derived.Test.YtfjkdmiaagalhaaGreatShard
namespace Go.Proofs.YtfjkdmiaagalhaaGreat
open Go.RowKit Go.Lib

def shd (k : Nat) (s : ByteArray) (i : Nat) : ByteArray := if i < k then pc k s i else Fd.mixS k k (pc k s) (fun t => (((flat k (cauM k) (i * k + t)).v : Nat) : Int))
theorem pc_le {k : Nat} (s : ByteArray) (hs : s.size ≤ 65536) {i : Nat} (hi : i < k) : (pc k s i).size ≤ 65536 := by
  rw [pc_size s hi]
  have := eachN_le (k := k) (n := s.size) (by omega)
  omega
section
variable {w w' : World} {q n : Nat} {X : Nat → ByteArray}
theorem SB.nef (h : SB w q n X) {f : Nat} (hF : F w f) : q ≠ f := by
  intro e
  subst e
  unfold SB at h
  rcases hF with x | ⟨_, _, x, _⟩ <;> (unfold FB at x; rw [h] at x; simp at x)
theorem SB.gof (h : SB w q n X) {f : Nat} (hF : F w f) (hg : w.grownBy w' (some f)) : SB w' q n X :=
  h.of_block (hg.block q h.lt (by simpa using h.nef hF))
theorem PP.put {b sb f1 f2 g k m : Nat} (h : PP w b sb f1 f2 g k m) (hS : SB w q n X) (hg : w.grownBy w' (some q)) : PP w' b sb f1 f2 g k m := by
  have nb : b ≠ q := by
    intro e; subst e
    have x := h.pl; have y := hS
    unfold PL at x; unfold SB at y; rw [x] at y; simp at y
  have ng : g ≠ q := by
    intro e; subst e
    obtain ⟨Z, x⟩ := h.kb
    have y := hS
    unfold SB at y; rw [x] at y; simp at y
  exact ⟨h.pl.of_block (hg.block b h.pl.lt (by simpa using nb)), h.sp.set hS (by decide) (by decide) (by decide) hg, h.fl.set hS (by decide) (by decide) hg, h.kb.of_block (hg.block g h.kb.lt (by simpa using ng)), h.ne⟩
end

set_option maxRecDepth 100000 in
theorem shard_any {w : World} {b sb f1 f2 g k m q : Nat} (h : PP w b sb f1 f2 g k m) (k1 : 1 ≤ k) (km : k + m ≤ 255) {s : ByteArray} (hs : s.size ≤ 65536) (hS : SB w q k (pc k s)) {i : Nat} (hi : i < k + m) :
    Calls Tryz.prog 25 #[.pointer (some ⟨b, 0, none⟩), .slice (some ⟨q, 0, none⟩) k k, .int .i64 i] w fun e w' => e = .returned (.string (shd k s i)) ∧ PP w' b sb f1 f2 g k m ∧ w.grownBy w' (some f2) := by
  have c0 := h.pl.cell0
  by_cases hik : i < k
  · rw [shd, if_pos hik]
    have hc := hS.cell i hik
    have HP := hide h
    have b1 : (i : Int) < (k : Int) := by omega
    have b0 : (0 : Int) ≤ (i : Int) := by omega
    clear h hS
    go_enter Tryz.func25, Tryz.ntmps25
    go_wp2
    go_ret
    exact ⟨rfl, HP.out, gb_refl _ _⟩
  · rw [shd, if_neg hik]
    have c2 := h.pl.cell2
    have c3 := h.pl.cell3
    have c4 := h.pl.cell4
    have HP := hide h
    have HS := hide (hS.tx k)
    have b1 : ¬ (i : Int) < (k : Int) := by omega
    have hrow : (i + 1) * k ≤ (k + m) * k := Nat.mul_le_mul_right _ hi
    have hcap : (k + m) * k ≤ 255 * 255 := Nat.mul_le_mul km (by omega)
    have HR := hide (And.intro hrow (Nat.le_trans hcap (by decide : 255 * 255 ≤ 1000000)))
    clear h hS hrow hcap
    go_enter Tryz.func25, Tryz.ntmps25
    go_wp2_with fail
    refine (pmix_any HP.out k1 (by omega) HS.out (fun h => by have := pc_le s hs (i := 0) h; omega) HP.out.kb (by omega) HR.out.1 (Nat.le_refl _) HR.out.2).mono ?_
    rintro e w1 ⟨rfl, hF, hg⟩
    have HP1 := hide (HP.out.go hF hg)
    have HG := hide hg
    clear HP HS HR hF hg
    go_wp2
    go_ret
    exact ⟨rfl, HP1.out, HG.out⟩

set_option maxRecDepth 100000 in
theorem split_long {w : World} {pv : Value} {s : ByteArray} (hs : 65536 < s.size) :
    Calls Tryz.prog 12 #[pv, .string s] w fun e w' => e = .returned (.tuple #[.slice none 0 0, .int .i64 2]) ∧ w' = w := by
  have b1 : (65536 : Int) < (s.size : Int) := by omega
  go_enter Tryz.func12, Tryz.ntmps12
  go_wp2
  exact bodyPost_ret (v := .tuple #[.slice none 0 0, .int .i64 2]) (by simp [results, Tryz.results12, go_sem]) rfl ⟨rfl, rfl⟩

set_option maxRecDepth 100000 in
set_option maxHeartbeats 1600000 in
theorem split_ok {w : World} {b sb f1 f2 g k m : Nat} (h : PP w b sb f1 f2 g k m) (k1 : 1 ≤ k) (km : k + m ≤ 255) {s : ByteArray} (hs : s.size ≤ 65536) :
    Calls Tryz.prog 12 #[.pointer (some ⟨b, 0, none⟩), .string s] w fun e w' => ∃ q, e = .returned (.tuple #[.slice (some ⟨q, 0, none⟩) (k + m) (k + m), .int .i64 0]) ∧ SB w' q (k + m) (shd k s) ∧ w.heap.size ≤ q ∧ PP w' b sb f1 f2 g k m ∧ w.grownBy w' (some f2) := by
  obtain ⟨n, hn⟩ : ∃ n, n = k + m := ⟨_, rfl⟩
  have hni : (k : Int) + (m : Int) = (n : Int) := by omega
  have hnb : n ≤ 255 := by omega
  have HP := hide h
  have HK := hide (And.intro k1 (And.intro km (And.intro hs hn)))
  have b1 : ¬ (65536 : Int) < (s.size : Int) := by omega
  rw [← hn]
  clear h hn k1 km hs
  go_enter Tryz.func12, Tryz.ntmps12
  go_wp2_with fail
  refine (cut_any HP.out HK.out.1 (by have := HK.out; omega) s HK.out.2.2.1).mono ?_
  rintro e w1 ⟨q, rfl, hS, hq, hb1⟩
  have HP1 := hide (HP.out.below hb1)
  have HS1 := hide hS
  have HB1 := hide hb1
  have hmk : ∀ w : World, _ := fun w => run_make_row' (P := Tryz.prog) 43 9 (.string ⟨#[]⟩) 16 Tryz.underlying43 Tryz.infoS rfl .i64 .i64 n (by omega) (by omega) w
  have hwr : IntKind.i64.wrap ((k : Int) + (m : Int)) = (n : Int) := by rw [hni]; exact wraps_i64 _ (by omega) (by omega)
  have D0 : Hid (w1.drew.cell? ⟨b, 0, none⟩ = some (.int .i64 k) ∧ w1.drew.cell? ⟨b, 1, none⟩ = some (.int .i64 m)) := ⟨HP1.out.pl.cell0, HP1.out.pl.cell1⟩
  have KS : Hid (∀ w', Below w1.heap.size w1 w' → w'.cell? ⟨b, 0, none⟩ = some (.int .i64 k) ∧ w'.cell? ⟨b, 1, none⟩ = some (.int .i64 m)) := fun w' hb => ⟨(HP1.out.below hb).pl.cell0, (HP1.out.below hb).pl.cell1⟩
  have HB0 : Hid (∀ o, Below w1.heap.size w1 (w1.alloc o).drew) := fun o => (below_alloc (Below.refl _ _) o).drew
  clear hS hq hb1 HP hni
  go_upto_region 4 with fail
  go_region_held_law (fun wx => wx.cell? ⟨b, 0, none⟩ = some (.int .i64 k) ∧ wx.cell? ⟨b, 1, none⟩ = some (.int .i64 m)) (first | with_reducible exact D0.out | with_reducible exact KS.out _ (HB0.out _)) (fail)
  obtain ⟨W, hW⟩ : ∃ W, W = (w1.alloc (.cells (madeCells #[.string ⟨#[]⟩] n) 9)).drew := ⟨_, rfl⟩
  have hbW : Below w1.heap.size w1 W := by rw [hW]; exact HB0.out _
  have HPW := hide (HP1.out.below hbW)
  have HSW := hide (HS1.out.below hbW (Nat.le_refl _))
  have HNW : Hid (SB W w1.heap.size n (fun _ => ⟨#[]⟩)) := by rw [hW]; exact SB.made w1 n
  have HBW := hide (below_step HB1.out hbW)
  have HB1s := hide HB1.out.size
  have HQ : Hid (q < w1.heap.size) := HS1.out.lt
  rw [← hW]
  clear hW hbW HP1 HS1 HB1 D0 KS HB0 hmk hwr
  go_wp2
  go_loopw [27] (fun z wr => ∃ i : Nat, i ≤ n ∧ z = .int .i64 i ∧ SB wr w1.heap.size n (fun j => if j < i then shd k s j else ⟨#[]⟩) ∧ SB wr q k (pc k s) ∧ PP wr b sb f1 f2 g k m ∧ w.grownBy wr (some f2)) (fun z _ => n - (RowKit.intOf z).toNat)
  case atStart => exact ⟨0, Nat.zero_le _, rfl, HNW.out.congr (fun i hi => by simp), HSW.out, HPW.out, gb_below HBW.out _⟩
  case round =>
    obtain ⟨i, hi, rfl, hN, hS, hP, hg⟩ := hrel
    clear HNW HSW HPW HBW
    by_cases hlt : i < n
    · have HNr := hide hN
      have HSr := hide hS
      have HPr := hide hP
      have HGr := hide hg
      have b1 : (i : Int) < (n : Int) := by omega
      have b0 : (0 : Int) ≤ (i : Int) := by omega
      clear hN hS hP hg
      go_wp2_with fail
      refine (shard_any HPr.out HK.out.1 HK.out.2.1 HK.out.2.2.1 HSr.out (by rw [← HK.out.2.2.2]; exact hlt)).mono ?_
      rintro e w2 ⟨rfl, hP2, hg2⟩
      have hN2 := HNr.out.gof HPr.out.fl hg2
      have hS2 := HSr.out.gof HPr.out.fl hg2
      have hset := hN2.set i (shd k s i)
      have gs := gb_set w2 w1.heap.size i (.string (shd k s i))
      have HN3 : Hid (SB (w2.setCell ⟨w1.heap.size, i, none⟩ (.string (shd k s i))) w1.heap.size n (fun j => if j < i + 1 then shd k s j else ⟨#[]⟩)) := hset.congr (fun j hj => by
        by_cases e1 : j = i
        · subst e1; rw [if_pos rfl, if_pos (by omega)]
        · rw [if_neg e1]
          by_cases e2 : j < i
          · rw [if_pos e2, if_pos (by omega)]
          · rw [if_neg e2, if_neg (by omega)])
      have nqq : q ≠ w1.heap.size := by
        have := HQ.out
        omega
      have HS3 := hide (hS2.of_block (gs.block q hS2.lt (by simpa using nqq)))
      have HP3 := hide (hP2.put hN2 gs)
      have HG3 := hide (gb_new (gb_trans HGr.out hg2) gs HB1s.out)
      have q1 := hN2.cell i hlt
      have q2 := hN2.free i
      clear hset gs hN2 hS2 hP2 hg2 HNr HSr HPr HGr nqq
      go_wp2
      exact ⟨⟨i + 1, by omega, by go_num, HN3.out, HS3.out, HP3.out, HG3.out⟩, by simp [RowKit.intOf]; omega⟩
    · obtain rfl : i = n := by omega
      have HNr := hide (hN.congr (X' := shd k s) (fun j hj => if_pos hj))
      have HPr := hide hP
      have HGr := hide hg
      clear hN hS hP hg
      go_wp2
      exact bodyPost_ret (v := .tuple #[.slice (some ⟨w1.heap.size, 0, none⟩) i i, .int .i64 0]) (by simp [results, Tryz.results12, go_sem]) rfl ⟨_, rfl, HNr.out, HB1s.out, HPr.out, HGr.out⟩
end Go.Proofs.YtfjkdmiaagalhaaGreat
