/-
  NumBack: numbers and texts that are written one behind the other are read as they were, and nothing is left; with a byte less they end too early. Every input; no condition of ours.
-/
import Derived.Test.YtifbcmcefggofaaBack
import Derived.Test.YtifbcmcefggofaaFixed
import Derived.Test.YtifbcmcefggofaaRef4
import Derived.Test.YtifbcmcefggofaaActs
import Derived.Deep.DeepCutAuto
import Derived.Deep.CutBlock
namespace Go.Proofs.Ytifbcmcefggofaa
open Go.ChangeShapes Go.WideShapes Go.ChangeAt Go.RowKit Go.Lib
open Go.ChangeMaps (open_string shut_string)

/-- A list of numbers that came in. -/
def IsInts (w : World) (a : Option Addr) (len : Nat) (Z : Nat → Int) : Prop :=
  len = 0 ∨ ∃ b off, a = some ⟨b, off, none⟩ ∧ b < w.heap.size ∧ ∀ i, i < len → w.cell? ⟨b, off + i, none⟩ = some (.int .i64 (Z i)) ∧ -9223372036854775808 ≤ Z i ∧ Z i ≤ 9223372036854775807
/-- A list of texts that came in. -/
def IsTexts (w : World) (a : Option Addr) (len : Nat) (X : Nat → ByteArray) : Prop :=
  len = 0 ∨ ∃ b off, a = some ⟨b, off, none⟩ ∧ b < w.heap.size ∧ ∀ i, i < len → w.cell? ⟨b, off + i, none⟩ = some (.string (X i)) ∧ (X i).size ≤ 9223372036854775807

theorem tmod_big (k : Int) (h1 : -9223372036854775808 ≤ k) (h2 : k ≤ 9223372036854775807) : (wrap64 (k.tmod 1099511627776 + 1099511627776)).tmod 1099511627776 = k % 1099511627776 := by
  by_cases h : 0 ≤ k
  · rw [Int.tmod_eq_emod_of_nonneg h, IntWalk.wrap64_in _ ⟨by omega, by omega⟩, Int.tmod_eq_emod_of_nonneg (by omega)]
    omega
  · obtain ⟨m, rfl⟩ : ∃ m, k = -m := ⟨-k, by omega⟩
    rw [Int.neg_tmod, Int.tmod_eq_emod_of_nonneg (show 0 ≤ m by omega), IntWalk.wrap64_in _ ⟨by omega, by omega⟩, Int.tmod_eq_emod_of_nonneg (by omega)]
    omega

theorem among_big (k : Int) (w : World) (h1 : -9223372036854775808 ≤ k) (h2 : k ≤ 9223372036854775807) :
    Calls Try.prog 20 #[.int .i64 k, .int .i64 1099511627776] w fun e w' => e = .returned (.int .i64 ((k % 1099511627776).toNat : Nat)) ∧ w' = w := by
  have hm := tmod_big k h1 h2
  rw [show k % 1099511627776 = (((k % 1099511627776).toNat : Nat) : Int) from by omega] at hm
  have HM : Hid ((wrap64 (k.tmod 1099511627776 + 1099511627776)).tmod 1099511627776 = (((k % 1099511627776).toNat : Nat) : Int)) := hm
  clear hm h1 h2
  generalize (k % 1099511627776).toNat = v at *
  go_enter Try.func20, Try.ntmps20
  go_wp2
  go_ret
  exact ⟨congrArg (fun z => Ending.returned (Value.int IntKind.i64 z)) HM.out, rfl⟩

theorem enc_pos {Z : Nat → Int} {j : Nat} {S : ByteArray} (hS : S = strOf (encN (firsts Z j))) (h : 0 ≤ Z j) : S ++ (strOf (fixedOf (Z j % 1099511627776).toNat 5) ++ strOf (uvarint (Z j).toNat)) = strOf (encN (firsts Z (j + 1))) := by
  rw [hS, strOf_append, strOf_append, firsts_succ, encN_snoc, pieceN_pos h]
theorem enc_neg {Z : Nat → Int} {j : Nat} {S : ByteArray} (hS : S = strOf (encN (firsts Z j))) (h : ¬ 0 ≤ Z j) : S ++ (strOf (fixedOf (Z j % 1099511627776).toNat 5) ++ ⟨#[]⟩) = strOf (encN (firsts Z (j + 1))) := by
  rw [hS, show (⟨#[]⟩ : ByteArray) = strOf [] from rfl, strOf_append, strOf_append, firsts_succ, encN_snoc, pieceN_neg h, List.append_nil]

theorem enc_text {X : Nat → ByteArray} {j : Nat} {E : List UInt8} {S : ByteArray} (hS : S = strOf (E ++ encT (firsts X j))) (h : (X j).size ≤ 500) : S ++ textOf (X j) = strOf (E ++ encT (firsts X (j + 1))) := by
  rw [hS, textOf, strOf_append, firsts_succ, encT_snoc, pieceT_some h, List.append_assoc]
theorem enc_none {X : Nat → ByteArray} {j : Nat} {E : List UInt8} {S : ByteArray} (hS : S = strOf (E ++ encT (firsts X j))) (h : ¬ (X j).size ≤ 500) : S = strOf (E ++ encT (firsts X (j + 1))) := by
  rw [hS, firsts_succ, encT_snoc, pieceT_none h, List.append_nil]

section
variable {cut : Nat} {w : World} {b : Nat} {t : ByteArray} {r : List UInt8} {p : Nat} {x : Int}
theorem back_fixed (hcut : cut ≤ 1) (hr : Rd 52 w b t p x) (hs : t.size ≤ 140737488355328) (v : Nat) (hv : v < 1099511627776) (hst : St cut t (fixedOf v 5 ++ r) p x) :
    Calls Try.prog 21 #[.pointer (some ⟨b, 0, none⟩), .int .i64 5] w fun e w' => ∃ (m p' : Nat) (x' : Int), e = .returned (.int .i64 m) ∧ (cut = 0 → m = v) ∧ Rd 52 w' b t p' x' ∧ St cut t r p' x' ∧ w.grownBy w' (some b) := by
  obtain ⟨h1, h2⟩ := hst.fixed hcut (by exact hv)
  exact (rFixed_any 5 hr hst.le hs (by omega)).mono fun e w' ⟨he, hr', hg⟩ => ⟨_, _, _, he, h2, hr', h1, hg⟩
theorem back_short (hcut : cut ≤ 1) (hr : Rd 52 w b t p x) (hs : t.size ≤ 140737488355328) (n : Nat) (hn : n ≤ 9223372036854775807) (hst : St cut t (uvarint n ++ r) p x) :
    Calls Try.prog 22 #[.pointer (some ⟨b, 0, none⟩), .int .i64 9223372036854775807] w fun e w' => ∃ (m p' : Nat) (x' : Int), e = .returned (.int .i64 m) ∧ (cut = 0 → m = n) ∧ Rd 52 w' b t p' x' ∧ St cut t r p' x' ∧ w.grownBy w' (some b) := by
  obtain ⟨h1, h2⟩ := hst.short hcut hn
  exact (rShort_any 9223372036854775807 hr hst.le hs).mono fun e w' ⟨he, hr', hg⟩ => ⟨_, _, _, he, h2, hr', h1, hg⟩
theorem back_text (hcut : cut ≤ 1) (hr : Rd 52 w b t p x) (hs : t.size ≤ 140737488355328) (y : ByteArray) (hy : y.size ≤ 500) (hst : St cut t (uvarint y.size ++ y.data.toList ++ r) p x) :
    Calls Try.prog 23 #[.pointer (some ⟨b, 0, none⟩), .int .i64 500] w fun e w' => ∃ (m : ByteArray) (p' : Nat) (x' : Int), e = .returned (.string m) ∧ (cut = 0 → m = y) ∧ Rd 52 w' b t p' x' ∧ St cut t r p' x' ∧ w.grownBy w' (some b) := by
  obtain ⟨h1, h2⟩ := hst.text hcut hy
  exact (rText_any 500 hr hst.le hs).mono fun e w' ⟨he, hr', hg⟩ => ⟨_, _, _, he, h2, hr', h1, hg⟩
end

set_option maxRecDepth 100000 in
set_option maxHeartbeats 3200000 in
theorem numBack_walk (a c : Option Addr) (len cap lent capt : Nat) (Z : Nat → Int) (X : Nat → ByteArray) (w : World) (hlen : len ≤ maxLen) (hlent : lent ≤ maxLen) (hints : IsInts w a len Z) (htexts : IsTexts w c lent X) :
    Calls Try.prog 5 #[.slice a len cap, .slice c lent capt] w fun e w' => e = .returned (.bool true) ∧ Below w.heap.size w w' := by
  have hlen' : len ≤ 9223372036854775807 := hlen
  have hlent' : lent ≤ 9223372036854775807 := hlent
  have HI : Hid (IsInts w a len Z) := hints
  have HX : Hid (IsTexts w c lent X) := htexts
  clear hints htexts
  go_enter Try.func5, Try.ntmps5
  go_wp2_with fail
  refine (works_any _).mono ?_
  rintro e w1 ⟨rfl, hb1⟩
  go_upto_block 0 with fail
  go_cut [5] (fun sv wx => ∃ S : ByteArray, sv = .string S ∧ S = strOf (encN (firsts Z (min len 30))) ∧ S.size ≤ 420 ∧ Below w.heap.size w wx)
  case first =>
    go_wp2
    go_loopw [5, 6] (fun sv i wr => ∃ (j : Nat) (S : ByteArray), j ≤ len ∧ j ≤ 30 ∧ i = .int .i64 j ∧ sv = .string S ∧ S = strOf (encN (firsts Z j)) ∧ S.size ≤ 420 ∧ Below w.heap.size w wr) (fun _ i _ => len - (intOf i).toNat)
    case atStart => exact ⟨0, ⟨#[]⟩, Nat.zero_le _, Nat.zero_le _, rfl, rfl, rfl, Nat.zero_le _, hb1⟩
    case round =>
      clear hb1
      obtain ⟨j, S, hjl, hj30, rfl, rfl, hS, hSz, hb⟩ := hrel
      have HS : Hid (S = strOf (encN (firsts Z j))) := hS
      clear hS
      by_cases hin : j < len ∧ j < 30
      · obtain ⟨hj1, hj2⟩ := hin
        obtain ⟨bl, off, ha, hbl, hcells⟩ := HI.out.resolve_left (by omega)
        obtain ⟨cz, z1, z2⟩ := hcells j hj1
        have cz' : wr.cell? ⟨bl, off + j, none⟩ = some (.int .i64 (Z j)) := (hb.cell hbl).trans cz
        have hle : (encN (firsts Z (j + 1))).length ≤ 420 := Nat.le_trans (encN_le Z (j + 1) (fun i hi => (hcells i (by omega)).2.2)) (by omega)
        have HL : Hid ((strOf (encN (firsts Z (j + 1)))).size ≤ 420) := by show (strOf _).size ≤ 420; rw [strOf_size]; exact hle
        clear hcells cz hle
        subst ha
        by_cases h0 : 0 ≤ Z j
        · have HE' : Hid (S ++ (strOf (fixedOf (Z j % 1099511627776).toNat 5) ++ strOf (uvarint (Z j).toNat)) = strOf (encN (firsts Z (j + 1)))) := enc_pos HS.out h0
          have hv : (Z j % 1099511627776).toNat < 1099511627776 := by omega
          have hf5 : (strOf (fixedOf (Z j % 1099511627776).toNat 5)).size ≤ 5 := by rw [strOf_size, fixedOf_length]; exact Nat.le_refl _
          have HAm : Hid (∀ w, Calls Try.prog 20 #[.int .i64 (Z j), .int .i64 1099511627776] w fun e w' => e = .returned (.int .i64 ((Z j % 1099511627776).toNat : Nat)) ∧ w' = w) := fun w => among_big (Z j) w z1 z2
          have hu9 : (strOf (uvarint (Z j).toNat)).size ≤ 9 := by rw [strOf_size]; exact uvarint_nine (by omega)
          generalize (Z j % 1099511627776).toNat = v at *
          generalize Z j = z at *
          obtain ⟨q, rfl⟩ := Int.eq_ofNat_of_zero_le h0
          rw [Int.toNat_natCast] at HE' hu9
          clear HS
          go_wp2_with fail
          refine (HAm.out _).mono ?_
          rintro e w2 ⟨rfl, rfl⟩
          go_wp2_with fail
          refine (fixed_any v 5 _ (by omega) (by omega) (by omega) (by exact hv)).mono ?_
          rintro e w3 ⟨rfl, hb3⟩
          have hb3' := hb.trans (hb3.mono hb.size)
          have cz3 := (hb3.cell (p := ⟨bl, off + j, none⟩) (Nat.lt_of_lt_of_le hbl hb.size)).trans cz'
          clear hb3 hb cz'
          go_wp2_with fail
          refine (short_any q _ (by omega)).mono ?_
          rintro e w4 ⟨rfl, hb4⟩
          have hb4' := hb3'.trans (hb4.mono hb3'.size)
          have cz4 := (hb4.cell (p := ⟨bl, off + j, none⟩) (Nat.lt_of_lt_of_le hbl hb3'.size)).trans cz3
          clear hb4 hb3' cz3
          go_wp2
          go_roundw
          case rel => exact ⟨j + 1, _, by omega, by omega, by go_num, rfl, HE'.out, by rw [HE'.out]; exact HL.out, hb4'⟩
          case measure => simp [intOf]; omega
        · have HE' : Hid (S ++ (strOf (fixedOf (Z j % 1099511627776).toNat 5) ++ ⟨#[]⟩) = strOf (encN (firsts Z (j + 1)))) := enc_neg HS.out h0
          have hv : (Z j % 1099511627776).toNat < 1099511627776 := by omega
          have hf5 : (strOf (fixedOf (Z j % 1099511627776).toNat 5)).size ≤ 5 := by rw [strOf_size, fixedOf_length]; exact Nat.le_refl _
          have HAm : Hid (∀ w, Calls Try.prog 20 #[.int .i64 (Z j), .int .i64 1099511627776] w fun e w' => e = .returned (.int .i64 ((Z j % 1099511627776).toNat : Nat)) ∧ w' = w) := fun w => among_big (Z j) w z1 z2
          generalize (Z j % 1099511627776).toNat = v at *
          generalize Z j = z at *
          clear HS
          go_wp2_with fail
          refine (HAm.out _).mono ?_
          rintro e w2 ⟨rfl, rfl⟩
          go_wp2_with fail
          refine (fixed_any v 5 _ (by omega) (by omega) (by omega) (by exact hv)).mono ?_
          rintro e w3 ⟨rfl, hb3⟩
          have hb3' := hb.trans (hb3.mono hb.size)
          have cz3 := (hb3.cell (p := ⟨bl, off + j, none⟩) (Nat.lt_of_lt_of_le hbl hb.size)).trans cz'
          clear hb3 hb cz'
          go_wp2_with fail
          refine (short_neg z _ (by omega)).mono ?_
          rintro e w4 ⟨rfl, rfl⟩
          have hb4' := hb3'
          have cz4 := cz3
          clear hb3' cz3
          go_wp2
          go_roundw
          case rel => exact ⟨j + 1, _, by omega, by omega, by go_num, rfl, HE'.out, by rw [HE'.out]; exact HL.out, hb4'⟩
          case measure => simp [intOf]; omega
      have hfull : firsts Z j = firsts Z (min len 30) := by rw [show j = min len 30 from by omega]
      rw [hfull] at HS
      clear hfull
      by_cases hj1 : j < len
      · have hj2 : ¬ j < 30 := fun h => hin ⟨hj1, h⟩
        clear hin
        go_wp2
        go_meet
        case rel => exact ⟨S, rfl, HS.out, hSz, hb⟩
      · clear hin
        go_wp2
        go_meet
        case rel => exact ⟨S, rfl, HS.out, hSz, hb⟩
  case rest =>
    clear hb1
    obtain ⟨S, rfl, hS, hSz, hb⟩ := hcut
    have HS0 : Hid (S = strOf (encN (firsts Z (min len 30)))) := hS
    clear hS
    go_upto_block 2 with fail
    go_cut [5] (fun sv wx => ∃ S : ByteArray, sv = .string S ∧ S = strOf (encN (firsts Z (min len 30)) ++ encT (firsts X (min lent 30))) ∧ S.size ≤ 15690 ∧ Below w.heap.size w wx)
    case first =>
      go_wp2
      go_loopw [5, 11] (fun sv i wr => ∃ (j : Nat) (S : ByteArray), j ≤ lent ∧ j ≤ 30 ∧ i = .int .i64 j ∧ sv = .string S ∧ S = strOf (encN (firsts Z (min len 30)) ++ encT (firsts X j)) ∧ S.size ≤ 420 + 509 * j ∧ Below w.heap.size w wr) (fun _ i _ => lent - (intOf i).toNat)
      case atStart => exact ⟨0, S, Nat.zero_le _, Nat.zero_le _, rfl, rfl, by rw [HS0.out]; simp [firsts, encT], by omega, hb⟩
      case round =>
        have hE : (encN (firsts Z (min len 30))).length ≤ 420 := by rw [← strOf_size, ← HS0.out]; exact hSz
        generalize encN (firsts Z (min len 30)) = E at *
        clear hb HS0 hSz
        obtain ⟨j, S, hjl, hj30, rfl, rfl, hS, hSz, hb⟩ := hrel
        have HS : Hid (S = strOf (E ++ encT (firsts X j))) := hS
        clear hS
        by_cases hin : j < lent ∧ j < 30
        · obtain ⟨hj1, hj2⟩ := hin
          obtain ⟨bl, off, ha, hbl, hcells⟩ := HX.out.resolve_left (by omega)
          obtain ⟨cx, xs⟩ := hcells j hj1
          have cx' : wr.cell? ⟨bl, off + j, none⟩ = some (.string (X j)) := (hb.cell hbl).trans cx
          have HL : Hid ((strOf (E ++ encT (firsts X (j + 1)))).size ≤ 420 + 509 * (j + 1)) := by
            show (strOf _).size ≤ _
            rw [strOf_size, List.length_append]
            have := encT_le X (j + 1)
            omega
          clear hcells cx
          subst ha
          by_cases h5 : (X j).size ≤ 500
          · have HE' : Hid (S ++ textOf (X j) = strOf (E ++ encT (firsts X (j + 1)))) := enc_text HS.out h5
            have ht : (textOf (X j)).size ≤ 509 := by
              rw [textOf, strOf_size, List.length_append]
              have := uvarint_nine (x := (X j).size) (by omega)
              have hbl : (X j).data.toList.length = (X j).size := by simp
              omega
            generalize X j = y at *
            clear HS
            go_wp2_with fail
            refine (text_any y _ (by omega)).mono ?_
            rintro e w4 ⟨rfl, hb4⟩
            have hb4' := hb.trans (hb4.mono hb.size)
            clear hb4 hb cx'
            go_wp2
            go_roundw
            case rel => exact ⟨j + 1, _, by omega, by omega, by go_num, rfl, HE'.out, by rw [HE'.out]; exact HL.out, hb4'⟩
            case measure => simp [intOf]; omega
          · have HE' : Hid (S = strOf (E ++ encT (firsts X (j + 1)))) := enc_none HS.out h5
            generalize X j = y at *
            clear HS
            go_wp2
            go_roundw
            case rel => exact ⟨j + 1, _, by omega, by omega, by go_num, rfl, HE'.out, by omega, hb⟩
            case measure => simp [intOf]; omega
        have hfull : firsts X j = firsts X (min lent 30) := by rw [show j = min lent 30 from by omega]
        rw [hfull] at HS
        clear hfull
        by_cases hj1 : j < lent
        · have hj2 : ¬ j < 30 := fun h => hin ⟨hj1, h⟩
          clear hin
          go_wp2
          go_meet
          case rel => exact ⟨S, rfl, HS.out, by omega, hb⟩
        · clear hin
          go_wp2
          go_meet
          case rel => exact ⟨S, rfl, HS.out, by omega, hb⟩
    case rest =>
      clear hb HS0 hSz
      obtain ⟨S, rfl, hS, hSz, hb⟩ := hcut
      have HS : Hid (S = strOf (encN (firsts Z (min len 30)) ++ encT (firsts X (min lent 30)))) := hS
      clear hS
      have hbW : Below w.heap.size w (wc.alloc (.cells #[.int .i64 0, .int .i64 1] 3)) := hb.alloc hb.size _
      have hg0 : (wc.alloc (.cells #[.int .i64 0, .int .i64 1] 3)).cell? ⟨wc.heap.size, 0, none⟩ = some (.int .i64 0) := by simp
      have hg1 : (wc.alloc (.cells #[.int .i64 0, .int .i64 1] 3)).cell? ⟨wc.heap.size, 1, none⟩ = some (.int .i64 1) := by simp
      have hgW : wc.heap.size < (wc.alloc (.cells #[.int .i64 0, .int .i64 1] 3)).heap.size := by simp
      clear hb
      go_wp2
      generalize wc.alloc (.cells #[.int .i64 0, .int .i64 1] 3) = W0 at *
      generalize wc.heap.size = G at *
      have HbW : Hid (Below w.heap.size w W0) := hbW
      have Hg0 : Hid (W0.cell? ⟨G, 0, none⟩ = some (.int .i64 0)) := hg0
      have Hg1 : Hid (W0.cell? ⟨G, 1, none⟩ = some (.int .i64 1)) := hg1
      clear hbW hg0 hg1
      go_loopw [91] (fun i wr => ∃ j : Nat, j ≤ 2 ∧ i = .int .i64 j ∧ Below W0.heap.size W0 wr) (fun i _ => 2 - (intOf i).toNat)
      case atStart => exact ⟨0, by omega, rfl, Below.refl _ _⟩
      case round =>
        obtain ⟨j, hj2, rfl, hbr⟩ := hrel
        have k0 : wr.cell? ⟨G, 0, none⟩ = some (.int .i64 0) := (hbr.cell (by exact hgW)).trans Hg0.out
        have k1 : wr.cell? ⟨G, 1, none⟩ = some (.int .i64 1) := (hbr.cell (by exact hgW)).trans Hg1.out
        have hb : Below w.heap.size w wr := HbW.out.trans (hbr.mono HbW.out.size)
        rcases (show j = 0 ∨ j = 1 ∨ j = 2 by omega) with rfl | rfl | rfl
        rotate_left 2
        · go_wp2
          go_ret
          exact ⟨rfl, hb⟩
        -- CUTS
        · have hst : St 0 S (encN (firsts Z (min len 30)) ++ encT (firsts X (min lent 30))) 0 0 := St.start _ 0 (Nat.zero_le _) S (by rw [HS.out, strOf_toList, Nat.sub_zero, List.take_length])
          have hts : S.size ≤ 140737488355328 := by omega
          go_wp2_with fail
          refine (read_any S _).mono ?_
          rintro e w5 ⟨rfl, hr5, hb5'⟩
          have hrb : W0.heap.size ≤ wr.heap.size := hbr.size
          have hb5 := hbr.trans (hb5'.mono hrb)
          clear hb5' HS
          obtain ⟨t, ht⟩ : ∃ t, t = S := ⟨S, rfl⟩
          rw [← ht] at hr5 hst hts
          clear ht
          generalize wr.heap.size = rb at *
          have hst0 : St 0 t (encN ((firsts Z (min len 30)).drop 0) ++ encT (firsts X (min lent 30))) 0 0 := hst
          clear hst hbr hb k0 k1
          go_upto_block 6 with fail
          go_cut [15] (fun _ wx => ∃ (p : Nat) (x : Int), Rd 52 wx rb t p x ∧ St 0 t (encT (firsts X (min lent 30))) p x ∧ Below W0.heap.size W0 wx)
          case first =>
            go_wp2
            go_loopw [15] (fun i wr => ∃ (j p : Nat) (x : Int), j ≤ len ∧ j ≤ 30 ∧ i = .int .i64 j ∧ Rd 52 wr rb t p x ∧ St 0 t (encN ((firsts Z (min len 30)).drop j) ++ encT (firsts X (min lent 30))) p x ∧ Below W0.heap.size W0 wr) (fun i _ => len - (intOf i).toNat)
            case atStart => exact ⟨0, 0, 0, Nat.zero_le _, Nat.zero_le _, rfl, hr5, hst0, hb5⟩
            case round =>
              clear hr5 hst0 hb5
              obtain ⟨j, p, x, hjl, hj30, rfl, hr, hst, hb⟩ := hrel
              have HT : Hid (St 0 t (encN ((firsts Z (min len 30)).drop j) ++ encT (firsts X (min lent 30))) p x) := hst
              clear hst
              by_cases hin : j < len ∧ j < 30
              · obtain ⟨hj1, hj2⟩ := hin
                obtain ⟨bl, off, ha, hbl, hcells⟩ := HI.out.resolve_left (by omega)
                obtain ⟨cz, z1, z2⟩ := hcells j hj1
                have hfull : Below w.heap.size w wr := HbW.out.trans (hb.mono HbW.out.size)
                have cz' : wr.cell? ⟨bl, off + j, none⟩ = some (.int .i64 (Z j)) := (hfull.cell hbl).trans cz
                have hbl' : bl < rb := by have := HbW.out.size; omega
                clear hcells cz
                subst ha
                have hT := HT.out
                rw [firsts_drop Z (show j < min len 30 by omega), encN_cons] at hT
                clear HT
                have hv : (Z j % 1099511627776).toNat < 1099511627776 := by omega
                have HAm : Hid (∀ w, Calls Try.prog 20 #[.int .i64 (Z j), .int .i64 1099511627776] w fun e w' => e = .returned (.int .i64 ((Z j % 1099511627776).toNat : Nat)) ∧ w' = w) := fun w => among_big (Z j) w z1 z2
                by_cases h0 : 0 ≤ Z j
                · rw [pieceN_pos h0, List.append_assoc, List.append_assoc] at hT
                  generalize (Z j % 1099511627776).toNat = v at *
                  generalize Z j = z at *
                  obtain ⟨q, rfl⟩ := Int.eq_ofNat_of_zero_le h0
                  rw [Int.toNat_natCast] at hT
                  go_wp2_with fail
                  refine (back_fixed (by omega) hr hts v hv hT).mono ?_
                  rintro e w2 ⟨m, p', x', rfl, hm, hr1, hst1, hg1⟩
                  have cz1 : w2.cell? ⟨bl, off + j, none⟩ = some (.int .i64 (q : Int)) := hg1.cell cz' (by simp; omega)
                  have hb1 := hb.grown hg1 hb.size (fun k hk => by simp at hk; omega)
                  clear hg1 cz' hb hT hr hfull
                  obtain rfl := hm rfl
                  clear hm
                  go_wp2_with fail
                  refine (HAm.out _).mono ?_
                  rintro e w2' ⟨rfl, rfl⟩
                  go_wp2_with fail
                  refine (back_short (by omega) hr1 hts q (by omega) hst1).mono ?_
                  rintro e w3 ⟨m', p'', x'', rfl, hm', hr2, hst2, hg2⟩
                  have cz2 : w3.cell? ⟨bl, off + j, none⟩ = some (.int .i64 (q : Int)) := hg2.cell cz1 (by simp; omega)
                  have hb2 := hb1.grown hg2 hb1.size (fun k hk => by simp at hk; omega)
                  have HT2 : Hid (St 0 t (encN (((firsts Z (min len 30))).drop (j + 1)) ++ encT (firsts X (min lent 30))) p'' x'') := hst2
                  clear hg2 hst1 hb1 cz1 hst2
                  obtain rfl := hm' rfl
                  clear hm'
                  go_wp2
                  go_roundw
                  case rel => exact ⟨j + 1, _, _, by omega, by omega, by go_num, hr2, HT2.out, hb2⟩
                  case measure => simp [intOf]; omega
                · rw [pieceN_neg h0, List.append_assoc] at hT
                  generalize (Z j % 1099511627776).toNat = v at *
                  generalize Z j = z at *
                  go_wp2_with fail
                  refine (back_fixed (by omega) hr hts v hv hT).mono ?_
                  rintro e w2 ⟨m, p', x', rfl, hm, hr1, hst1, hg1⟩
                  have cz1 : w2.cell? ⟨bl, off + j, none⟩ = some (.int .i64 z) := hg1.cell cz' (by simp; omega)
                  have hb1 := hb.grown hg1 hb.size (fun k hk => by simp at hk; omega)
                  clear hg1 cz' hb hT hr hfull
                  obtain rfl := hm rfl
                  clear hm
                  go_wp2_with fail
                  refine (HAm.out _).mono ?_
                  rintro e w2' ⟨rfl, rfl⟩
                  have HT2 : Hid (St 0 t (encN (((firsts Z (min len 30))).drop (j + 1)) ++ encT (firsts X (min lent 30))) p' x') := hst1
                  clear hst1
                  go_wp2
                  go_roundw
                  case rel => exact ⟨j + 1, _, _, by omega, by omega, by go_num, hr1, HT2.out, hb1⟩
                  case measure => simp [intOf]; omega
              have hT := HT.out
              rw [firsts_all Z (show min len 30 ≤ j by omega)] at hT
              have HT2 : Hid (St 0 t (encT (firsts X (min lent 30))) p x) := hT
              clear hT HT
              by_cases hj1 : j < len
              · have hj2 : ¬ j < 30 := fun h => hin ⟨hj1, h⟩
                clear hin
                go_wp2
                go_meet
                case rel => exact ⟨_, _, hr, HT2.out, hb⟩
              · clear hin
                go_wp2
                go_meet
                case rel => exact ⟨_, _, hr, HT2.out, hb⟩
          case rest =>
            clear hr5 hst0 hb5
            obtain ⟨p, x, hr, hst, hb⟩ := hcut
            have hst0 : St 0 t (encT ((firsts X (min lent 30)).drop 0)) p x := hst
            clear hst
            go_upto_block 8 with fail
            go_cut [18] (fun _ wx => ∃ (p : Nat) (x : Int), Rd 52 wx rb t p x ∧ St 0 t [] p x ∧ Below W0.heap.size W0 wx)
            case first =>
              go_wp2
              go_loopw [18] (fun i wr => ∃ (j p : Nat) (x : Int), j ≤ lent ∧ j ≤ 30 ∧ i = .int .i64 j ∧ Rd 52 wr rb t p x ∧ St 0 t (encT ((firsts X (min lent 30)).drop j)) p x ∧ Below W0.heap.size W0 wr) (fun i _ => lent - (intOf i).toNat)
              case atStart => exact ⟨0, _, _, Nat.zero_le _, Nat.zero_le _, rfl, hr, hst0, hb⟩
              case round =>
                clear hr hst0 hb
                obtain ⟨j, p, x, hjl, hj30, rfl, hr, hst, hb⟩ := hrel
                have HT : Hid (St 0 t (encT ((firsts X (min lent 30)).drop j)) p x) := hst
                clear hst
                by_cases hin : j < lent ∧ j < 30
                · obtain ⟨hj1, hj2⟩ := hin
                  obtain ⟨bl, off, ha, hbl, hcells⟩ := HX.out.resolve_left (by omega)
                  obtain ⟨cx, xs⟩ := hcells j hj1
                  have hfull : Below w.heap.size w wr := HbW.out.trans (hb.mono HbW.out.size)
                  have cx' : wr.cell? ⟨bl, off + j, none⟩ = some (.string (X j)) := (hfull.cell hbl).trans cx
                  have hbl' : bl < rb := by have := HbW.out.size; omega
                  clear hcells cx
                  subst ha
                  have hT := HT.out
                  rw [firsts_drop X (show j < min lent 30 by omega), encT_cons] at hT
                  clear HT
                  by_cases h5 : (X j).size ≤ 500
                  · rw [pieceT_some h5] at hT
                    generalize X j = y at *
                    go_wp2_with fail
                    refine (back_text (by omega) hr hts y h5 hT).mono ?_
                    rintro e w3 ⟨m', p'', x'', rfl, hm', hr2, hst2, hg2⟩
                    have cx2 : w3.cell? ⟨bl, off + j, none⟩ = some (.string y) := hg2.cell cx' (by simp; omega)
                    have hb2 := hb.grown hg2 hb.size (fun k hk => by simp at hk; omega)
                    have HT2 : Hid (St 0 t (encT (((firsts X (min lent 30))).drop (j + 1))) p'' x'') := hst2
                    clear hg2 hst2 hb cx' hfull hT hr
                    obtain rfl := hm' rfl
                    clear hm'
                    go_wp2
                    go_roundw
                    case rel => exact ⟨j + 1, _, _, by omega, by omega, by go_num, hr2, HT2.out, hb2⟩
                    case measure => simp [intOf]; omega
                  · rw [pieceT_none h5, List.nil_append] at hT
                    have HT2 : Hid (St 0 t (encT (((firsts X (min lent 30))).drop (j + 1))) p x) := hT
                    clear hT
                    generalize X j = y at *
                    go_wp2
                    go_roundw
                    case rel => exact ⟨j + 1, _, _, by omega, by omega, by go_num, hr, HT2.out, hb⟩
                    case measure => simp [intOf]; omega
                have hT := HT.out
                rw [firsts_all X (show min lent 30 ≤ j by omega)] at hT
                have HT2 : Hid (St 0 t [] p x) := hT
                clear hT HT
                by_cases hj1 : j < lent
                · have hj2 : ¬ j < 30 := fun h => hin ⟨hj1, h⟩
                  clear hin
                  go_wp2
                  go_meet
                  case rel => exact ⟨_, _, hr, HT2.out, hb⟩
                · clear hin
                  go_wp2
                  go_meet
                  case rel => exact ⟨_, _, hr, HT2.out, hb⟩
            case rest =>
              clear hr hst0 hb
              obtain ⟨p, x, hr, hst, hb⟩ := hcut
              obtain ⟨hx0, hpe⟩ := hst.end0
              have hend : ended t p x = 0 := by unfold ended; rw [if_neg (by omega), hx0]
              have HE : Hid (ended t p x = 0) := hend
              have hple := hst.le
              clear hend hst hx0 hpe
              go_wp2_with fail
              refine (end_any hr hple hts).mono ?_
              rw [HE.out]
              rintro e w6 ⟨rfl, hr6, hg6⟩
              have hb6 := hb.grown hg6 hb.size (fun k hk => by simp at hk; omega)
              clear hb hg6
              go_wp2
              go_roundw
              case rel => exact ⟨1, by omega, rfl, hb6⟩
              case measure => simp [intOf]
        · by_cases hS1 : S.size < 1
          · go_wp2
            go_ret
            exact ⟨rfl, hb⟩
          have hst : St 1 (S.extract 0 (S.size - 1)) (encN (firsts Z (min len 30)) ++ encT (firsts X (min lent 30))) 0 0 := by
            have hl : S.size = (encN (firsts Z (min len 30)) ++ encT (firsts X (min lent 30))).length := by rw [← strOf_size, ← HS.out]
            refine St.start _ 1 (by omega) _ ?_
            rw [extract_list, HS.out, strOf_toList, strOf_size]
            simp
          have hts : (S.extract 0 (S.size - 1)).size ≤ 140737488355328 := by simp; omega
          go_wp2_with fail
          refine (read_any _ _).mono ?_
          rintro e w5 ⟨rfl, hr5, hb5'⟩
          have hrb : W0.heap.size ≤ wr.heap.size := hbr.size
          have hb5 := hbr.trans (hb5'.mono hrb)
          clear hb5' HS
          generalize S.extract 0 (S.size - 1) = t at *
          generalize wr.heap.size = rb at *
          have hst0 : St 1 t (encN ((firsts Z (min len 30)).drop 0) ++ encT (firsts X (min lent 30))) 0 0 := hst
          clear hst hbr hb k0 k1
          go_upto_block 6 with fail
          go_cut [15] (fun _ wx => ∃ (p : Nat) (x : Int), Rd 52 wx rb t p x ∧ St 1 t (encT (firsts X (min lent 30))) p x ∧ Below W0.heap.size W0 wx)
          case first =>
            go_wp2
            go_loopw [15] (fun i wr => ∃ (j p : Nat) (x : Int), j ≤ len ∧ j ≤ 30 ∧ i = .int .i64 j ∧ Rd 52 wr rb t p x ∧ St 1 t (encN ((firsts Z (min len 30)).drop j) ++ encT (firsts X (min lent 30))) p x ∧ Below W0.heap.size W0 wr) (fun i _ => len - (intOf i).toNat)
            case atStart => exact ⟨0, 0, 0, Nat.zero_le _, Nat.zero_le _, rfl, hr5, hst0, hb5⟩
            case round =>
              clear hr5 hst0 hb5
              obtain ⟨j, p, x, hjl, hj30, rfl, hr, hst, hb⟩ := hrel
              have HT : Hid (St 1 t (encN ((firsts Z (min len 30)).drop j) ++ encT (firsts X (min lent 30))) p x) := hst
              clear hst
              by_cases hin : j < len ∧ j < 30
              · obtain ⟨hj1, hj2⟩ := hin
                obtain ⟨bl, off, ha, hbl, hcells⟩ := HI.out.resolve_left (by omega)
                obtain ⟨cz, z1, z2⟩ := hcells j hj1
                have hfull : Below w.heap.size w wr := HbW.out.trans (hb.mono HbW.out.size)
                have cz' : wr.cell? ⟨bl, off + j, none⟩ = some (.int .i64 (Z j)) := (hfull.cell hbl).trans cz
                have hbl' : bl < rb := by have := HbW.out.size; omega
                clear hcells cz
                subst ha
                have hT := HT.out
                rw [firsts_drop Z (show j < min len 30 by omega), encN_cons] at hT
                clear HT
                have hv : (Z j % 1099511627776).toNat < 1099511627776 := by omega
                have HAm : Hid (∀ w, Calls Try.prog 20 #[.int .i64 (Z j), .int .i64 1099511627776] w fun e w' => e = .returned (.int .i64 ((Z j % 1099511627776).toNat : Nat)) ∧ w' = w) := fun w => among_big (Z j) w z1 z2
                by_cases h0 : 0 ≤ Z j
                · rw [pieceN_pos h0, List.append_assoc, List.append_assoc] at hT
                  generalize (Z j % 1099511627776).toNat = v at *
                  generalize Z j = z at *
                  obtain ⟨q, rfl⟩ := Int.eq_ofNat_of_zero_le h0
                  rw [Int.toNat_natCast] at hT
                  go_wp2_with fail
                  refine (back_fixed (by omega) hr hts v hv hT).mono ?_
                  rintro e w2 ⟨m, p', x', rfl, hm, hr1, hst1, hg1⟩
                  have cz1 : w2.cell? ⟨bl, off + j, none⟩ = some (.int .i64 (q : Int)) := hg1.cell cz' (by simp; omega)
                  have hb1 := hb.grown hg1 hb.size (fun k hk => by simp at hk; omega)
                  clear hg1 cz' hb hT hr hfull
                  clear hm
                  go_wp2_with fail
                  refine (back_short (by omega) hr1 hts q (by omega) hst1).mono ?_
                  rintro e w3 ⟨m', p'', x'', rfl, hm', hr2, hst2, hg2⟩
                  have cz2 : w3.cell? ⟨bl, off + j, none⟩ = some (.int .i64 (q : Int)) := hg2.cell cz1 (by simp; omega)
                  have hb2 := hb1.grown hg2 hb1.size (fun k hk => by simp at hk; omega)
                  have HT2 : Hid (St 1 t (encN (((firsts Z (min len 30))).drop (j + 1)) ++ encT (firsts X (min lent 30))) p'' x'') := hst2
                  clear hg2 hst1 hb1 cz1 hst2
                  clear hm'
                  go_wp2
                  go_roundw
                  case rel => exact ⟨j + 1, _, _, by omega, by omega, by go_num, hr2, HT2.out, hb2⟩
                  case measure => simp [intOf]; omega
                · rw [pieceN_neg h0, List.append_assoc] at hT
                  generalize (Z j % 1099511627776).toNat = v at *
                  generalize Z j = z at *
                  go_wp2_with fail
                  refine (back_fixed (by omega) hr hts v hv hT).mono ?_
                  rintro e w2 ⟨m, p', x', rfl, hm, hr1, hst1, hg1⟩
                  have cz1 : w2.cell? ⟨bl, off + j, none⟩ = some (.int .i64 z) := hg1.cell cz' (by simp; omega)
                  have hb1 := hb.grown hg1 hb.size (fun k hk => by simp at hk; omega)
                  clear hg1 cz' hb hT hr hfull
                  clear hm
                  have HT2 : Hid (St 1 t (encN (((firsts Z (min len 30))).drop (j + 1)) ++ encT (firsts X (min lent 30))) p' x') := hst1
                  clear hst1
                  go_wp2
                  go_roundw
                  case rel => exact ⟨j + 1, _, _, by omega, by omega, by go_num, hr1, HT2.out, hb1⟩
                  case measure => simp [intOf]; omega
              have hT := HT.out
              rw [firsts_all Z (show min len 30 ≤ j by omega)] at hT
              have HT2 : Hid (St 1 t (encT (firsts X (min lent 30))) p x) := hT
              clear hT HT
              by_cases hj1 : j < len
              · have hj2 : ¬ j < 30 := fun h => hin ⟨hj1, h⟩
                clear hin
                go_wp2
                go_meet
                case rel => exact ⟨_, _, hr, HT2.out, hb⟩
              · clear hin
                go_wp2
                go_meet
                case rel => exact ⟨_, _, hr, HT2.out, hb⟩
          case rest =>
            clear hr5 hst0 hb5
            obtain ⟨p, x, hr, hst, hb⟩ := hcut
            have hst0 : St 1 t (encT ((firsts X (min lent 30)).drop 0)) p x := hst
            clear hst
            go_upto_block 8 with fail
            go_cut [18] (fun _ wx => ∃ (p : Nat) (x : Int), Rd 52 wx rb t p x ∧ St 1 t [] p x ∧ Below W0.heap.size W0 wx)
            case first =>
              go_wp2
              go_loopw [18] (fun i wr => ∃ (j p : Nat) (x : Int), j ≤ lent ∧ j ≤ 30 ∧ i = .int .i64 j ∧ Rd 52 wr rb t p x ∧ St 1 t (encT ((firsts X (min lent 30)).drop j)) p x ∧ Below W0.heap.size W0 wr) (fun i _ => lent - (intOf i).toNat)
              case atStart => exact ⟨0, _, _, Nat.zero_le _, Nat.zero_le _, rfl, hr, hst0, hb⟩
              case round =>
                clear hr hst0 hb
                obtain ⟨j, p, x, hjl, hj30, rfl, hr, hst, hb⟩ := hrel
                have HT : Hid (St 1 t (encT ((firsts X (min lent 30)).drop j)) p x) := hst
                clear hst
                by_cases hin : j < lent ∧ j < 30
                · obtain ⟨hj1, hj2⟩ := hin
                  obtain ⟨bl, off, ha, hbl, hcells⟩ := HX.out.resolve_left (by omega)
                  obtain ⟨cx, xs⟩ := hcells j hj1
                  have hfull : Below w.heap.size w wr := HbW.out.trans (hb.mono HbW.out.size)
                  have cx' : wr.cell? ⟨bl, off + j, none⟩ = some (.string (X j)) := (hfull.cell hbl).trans cx
                  have hbl' : bl < rb := by have := HbW.out.size; omega
                  clear hcells cx
                  subst ha
                  have hT := HT.out
                  rw [firsts_drop X (show j < min lent 30 by omega), encT_cons] at hT
                  clear HT
                  by_cases h5 : (X j).size ≤ 500
                  · rw [pieceT_some h5] at hT
                    generalize X j = y at *
                    go_wp2_with fail
                    refine (back_text (by omega) hr hts y h5 hT).mono ?_
                    rintro e w3 ⟨m', p'', x'', rfl, hm', hr2, hst2, hg2⟩
                    have cx2 : w3.cell? ⟨bl, off + j, none⟩ = some (.string y) := hg2.cell cx' (by simp; omega)
                    have hb2 := hb.grown hg2 hb.size (fun k hk => by simp at hk; omega)
                    have HT2 : Hid (St 1 t (encT (((firsts X (min lent 30))).drop (j + 1))) p'' x'') := hst2
                    clear hg2 hst2 hb cx' hfull hT hr
                    clear hm'
                    go_wp2
                    go_roundw
                    case rel => exact ⟨j + 1, _, _, by omega, by omega, by go_num, hr2, HT2.out, hb2⟩
                    case measure => simp [intOf]; omega
                  · rw [pieceT_none h5, List.nil_append] at hT
                    have HT2 : Hid (St 1 t (encT (((firsts X (min lent 30))).drop (j + 1))) p x) := hT
                    clear hT
                    generalize X j = y at *
                    go_wp2
                    go_roundw
                    case rel => exact ⟨j + 1, _, _, by omega, by omega, by go_num, hr, HT2.out, hb⟩
                    case measure => simp [intOf]; omega
                have hT := HT.out
                rw [firsts_all X (show min lent 30 ≤ j by omega)] at hT
                have HT2 : Hid (St 1 t [] p x) := hT
                clear hT HT
                by_cases hj1 : j < lent
                · have hj2 : ¬ j < 30 := fun h => hin ⟨hj1, h⟩
                  clear hin
                  go_wp2
                  go_meet
                  case rel => exact ⟨_, _, hr, HT2.out, hb⟩
                · clear hin
                  go_wp2
                  go_meet
                  case rel => exact ⟨_, _, hr, HT2.out, hb⟩
            case rest =>
              clear hr hst0 hb
              obtain ⟨p, x, hr, hst, hb⟩ := hcut
              obtain rfl := hst.end1
              clear hst
              go_wp2_with fail
              refine (err_any hr).mono ?_
              rintro e w6 ⟨rfl, rfl⟩
              go_wp2
              go_roundw
              case rel => exact ⟨2, by omega, rfl, hb⟩
              case measure => simp [intOf]

end Go.Proofs.Ytifbcmcefggofaa
