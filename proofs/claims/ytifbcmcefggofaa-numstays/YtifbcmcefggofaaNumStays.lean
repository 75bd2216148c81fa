/-
  NumStays: once something is wrong, a reader tells nothing more, and stays where it is, with its first error. Every input; no condition of ours.
-/
import Derived.Test.YtifbcmcefggofaaActs
namespace Go.Proofs.Ytifbcmcefggofaa
open Go.ChangeShapes Go.WideShapes Go.ChangeAt Go.RowKit Go.Lib
open Go.ChangeMaps (open_string shut_string)

set_option maxRecDepth 100000 in
set_option maxHeartbeats 800000 in
theorem numStays_walk (s : ByteArray) (a : Option Addr) (len cap : Nat) (K N : Nat → Int) (w : World) (hs : s.size ≤ 140737488355327) (hlen : len ≤ maxLen) (hacts : IsActs w a len K N) :
    Calls Try.prog 7 #[.string s, .slice a len cap] w fun e w' => e = .returned (.bool true) ∧ Below w.heap.size w w' := by
  have hlen' : len ≤ 9223372036854775807 := hlen
  have hA : asked 0 (bytesA s 0 ((s.size : Int) + 1)) = .bad 10 := by
    rw [asked_zero]; unfold bytesA; rw [if_neg (by omega), if_pos (by omega)]
  have HA : Hid (asked 0 (bytesA s 0 ((s.size : Int) + 1)) = .bad 10) := hA
  have HI : Hid (IsActs w a len K N) := hacts
  clear hA hacts
  go_enter Try.func7, Try.ntmps7
  go_wp2_with fail
  refine (read_any s _).mono ?_
  rintro e w1 ⟨rfl, hr1, hb1⟩
  go_wp2_with fail
  refine (works_any _).mono ?_
  rintro e w2 ⟨rfl, hb2⟩
  have hr2 := hr1.below hb2 hr1.lt
  go_wp2_with fail
  refine (rBytes_any ((s.size : Int) + 1) hr2 (Nat.zero_le _) (by omega) (by omega)).mono ?_
  rw [HA.out]
  rintro e w3 ⟨rfl, hr3, hg3⟩
  have hr : Rd 52 w3 w.heap.size s 0 10 := hr3
  have hb : Below w.heap.size w w3 := (hb1.trans (hb2.mono (by have := hr1.lt; omega))).grown hg3 (by have := hr1.lt; have := hb2.size; omega) (fun k hk => by simp at hk; omega)
  clear hr3 hg3 hr2 hb2 hr1 hb1 HA
  go_wp2
  go_loopw [6] (fun i wr => ∃ k : Nat, k ≤ len ∧ i = .int .i64 k ∧ Rd 52 wr w.heap.size s 0 10 ∧ Below w.heap.size w wr) (fun i _ => len - (intOf i).toNat)
  case atStart => exact ⟨0, Nat.zero_le _, rfl, hr, hb⟩
  case round =>
    clear hr hb
    obtain ⟨k, hk, rfl, hr, hb⟩ := hrel
    by_cases hin : k < len ∧ k < 50
    · obtain ⟨hkl, hk50⟩ := hin
      obtain ⟨bl, off, ha, hbl, hcells⟩ := HI.out.resolve_left (by omega)
      obtain ⟨cK, cN, bK, bN⟩ := hcells k hkl
      have cN' : wr.cell? ⟨bl, off + k * 2 + 1, none⟩ = some (.int .i64 (N k)) := (hb.cell hbl).trans cN
      obtain ⟨bN1, bN2⟩ := bN
      clear hcells cN cK bK
      subst ha
      generalize N k = n at *
      have h10 : Hid (¬ (10 : Int) = 0) := by intro h; cases h
      have hs' : s.size ≤ 140737488355328 := by omega
      go_wp2_with fail
      refine (rFixed_err n hr h10.out (Nat.zero_le _) hs' bN2).mono ?_
      rintro e w1' ⟨rfl, hr', hg'⟩
      have hb' := hb.grown hg' hb.size (fun k hk => by simp at hk; omega)
      clear hr hb hg'
      have hr := hr'
      have hb := hb'
      clear hr' hb'
      go_wp2_with fail
      refine (rShort_err n hr h10.out (Nat.zero_le _) hs').mono ?_
      rintro e w2' ⟨rfl, hr', hg'⟩
      have hb' := hb.grown hg' hb.size (fun k hk => by simp at hk; omega)
      clear hr hb hg'
      have hr := hr'
      have hb := hb'
      clear hr' hb'
      go_wp2_with fail
      refine (rText_err n hr h10.out (Nat.zero_le _) hs').mono ?_
      rintro e w3' ⟨rfl, hr', hg'⟩
      have hb' := hb.grown hg' hb.size (fun k hk => by simp at hk; omega)
      clear hr hb hg'
      have hr := hr'
      have hb := hb'
      clear hr' hb'
      go_wp2_with fail
      refine (rBytes_err n hr h10.out (Nat.zero_le _) hs' bN2).mono ?_
      rintro e w4' ⟨rfl, hr', hg'⟩
      have hb' := hb.grown hg' hb.size (fun k hk => by simp at hk; omega)
      clear hr hb hg'
      have hr := hr'
      have hb := hb'
      clear hr' hb'
      go_wp2_with fail
      refine (err_any hr).mono ?_
      rintro e w5' ⟨rfl, rfl⟩
      go_wp2_with fail
      refine (end_err hr h10.out (Nat.zero_le _) hs').mono ?_
      rintro e w6' ⟨rfl, hr', hg'⟩
      have hb' := hb.grown hg' hb.size (fun k hk => by simp at hk; omega)
      clear hr hb hg'
      go_wp2_with fail
      refine (left_any hr' (Nat.zero_le _) hs').mono ?_
      rintro e w7' ⟨rfl, nd, rfl⟩
      go_wp2_with fail
      refine (fail_any n (hr'.drewN nd)).mono ?_
      rintro e w8' ⟨rfl, hr8, hg8⟩
      have hb8 := (below_drew hb' nd).grown hg8 hb'.size (fun k hk => by simp at hk; omega)
      clear hb' hg8 hr'
      go_wp2
      go_roundw
      case rel => exact ⟨k + 1, by omega, by go_num, hr8, hb8⟩
      case measure => simp [intOf]; omega
    by_cases hkl : k < len
    · have hk50 : ¬ k < 50 := fun h => hin ⟨hkl, h⟩
      clear hin
      go_wp2_with fail
      refine (err_any hr).mono ?_
      rintro e w5' ⟨rfl, rfl⟩
      go_wp2
      go_ret
      exact ⟨rfl, hb⟩
    · clear hin
      go_wp2_with fail
      refine (err_any hr).mono ?_
      rintro e w5' ⟨rfl, rfl⟩
      go_wp2
      go_ret
      exact ⟨rfl, hb⟩

theorem Try.own1 : ownKnob Try.prog.godebug = none := by kernel_rfl
theorem Try.laidOut1 : laidOutB Try.prog = true := by kernel_rfl

set_option maxRecDepth 100000 in
theorem numStays_lifted (os : Os) (started : os.Started) (H : Type) (enc : TypeId × Value → H) :
    ReturnsInHanded {} Try.checked os 7 .any (Rows.numStaysSpec.pre6 enc Try.prog Try.f7 Rows.numStaysRow.domain false) (Rows.numStaysSpec.post enc Try.prog Try.f7 false true false false) := by
  refine returnsInHanded_of_change_sized (C := Try.checked) Try.own1 started (by kernel_rfl) Try.func7
    (ChangeSpec.witness6 (enc := enc) (C := Try.checked) false ⟨#[], #[.string ByteArray.empty, .slice none 0 0], []⟩ 8 (by kernel_rfl) (by kernel_rfl) (by kernel_rfl) (by kernel_rfl)) ?_
  intro W base args ds gs before hval0 hW _ hsz0 _
  have hsz : (DataW.weightsEach Try.prog (Try.f7.params.toList ++ Rows.numStaysSpec.plain.varTypes Try.prog) (ds ++ gs)).all (· ≤ reachBytes) = true := hsz0
  have hval : ∀ (j : Nat) t v, Try.f7.params[j]? = some t → args[j]? = some v → Value.okWide Try.prog W .any base t v := hval0
  have hW' := hW
  obtain ⟨p, q, hA0, hV, rfl, _, _⟩ := hW
  have hA : DataW.TrodAll enc Try.prog W 0 (fun _ => true) true Try.f7.params.toList args.toList ds p := hA0
  rw [Try.params7] at hA hval hsz
  obtain ⟨v0, v1, d0, d1, p0, p1, rfl, rfl, rfl, h0, h1⟩ := trodAll_two hA
  obtain ⟨rfl, rfl⟩ := trodVars_none hV
  obtain ⟨s, rfl, rfl, rfl, hs⟩ := open_string Try.underlying9 (hval 0 9 v0 rfl rfl) h0
  obtain ⟨a, len, cap, rfl⟩ := okWide_slice Try.underlying29 (hval 1 29 v1 rfl rfl)
  have lt1 : ∀ x ∈ p1, x.block < W.heap.size := by obtain ⟨m, hm⟩ := h1; exact DataW.trod_lt m _ _ _ hm
  obtain ⟨hlen, K, N, hacts⟩ := open_acts h1
  clear hA0 hval0 hsz0
  have hsl := sized_string hsz (j := 0) (t := 9) rfl rfl
  refine (numStays_walk s a len cap K N W (by simp [reachBytes] at hsl; omega) hlen hacts).mono fun e W' ⟨he, bel⟩ => ?_
  subst he
  exact ⟨_, rfl, _, _, _, [], _, [], hW', trodAll_mk1 (shut_bool Try.underlying4 _), trodAll_mk2 (shut_string Try.underlying9 hs) (Below.trod Try.laidOut1 (by kernel_rfl) (of_decide_eq_true (by kernel_rfl)) h1 bel lt1), rfl, bel.frame _, fun h => by cases h⟩

theorem numStays_holds : Rows.NumStaysSaid :=
  OpenClaim.holds_of_wide 7 Try.f7 rfl rfl rfl rfl rfl rfl rfl ⟨rfl, rfl, rfl, rfl, rfl⟩ rfl rfl rfl rfl rfl (by kernel_rfl) Try.func7 (by kernel_rfl)
    (of_decide_eq_true (by kernel_rfl)) (by unfold Func.isWrapper; first | (rw [if_pos (by decide +kernel)]; kernel_rfl) | (rw [if_neg (by decide +kernel)]; exact ⟨rfl, rfl⟩))
    (fun os started H enc _ => numStays_lifted os started H enc)

end Go.Proofs.Ytifbcmcefggofaa
