/-
  NumReads: a reader of any bytes, asked for anything, answers, one thing behind the other, as the document's own reader does. Every input; no condition of ours.
-/
import Derived.Test.YtifbcmcefggofaaActs
import Derived.Test.YtifbcmcefggofaaStep
namespace Go.Proofs.Ytifbcmcefggofaa
open Go.ChangeShapes Go.WideShapes Go.ChangeAt Go.RowKit Go.Lib
open Go.ChangeMaps (open_string shut_string)

set_option maxRecDepth 100000 in
set_option maxHeartbeats 1600000 in
theorem numReads_walk (s : ByteArray) (a : Option Addr) (len cap : Nat) (K N : Nat → Int) (w : World) (hs : s.size ≤ 140737488355327) (hlen : len ≤ maxLen) (hacts : IsActs w a len K N) :
    Calls Try.prog 4 #[.string s, .slice a len cap] w fun e w' => e = .returned (.bool true) ∧ Below w.heap.size w w' := by
  have hlen' : len ≤ 9223372036854775807 := hlen
  have hs' : s.size ≤ 140737488355328 := by omega
  have HI : Hid (IsActs w a len K N) := hacts
  clear hacts
  go_enter Try.func4, Try.ntmps4
  go_wp2_with fail
  refine (read_any s _).mono ?_
  rintro e w1 ⟨rfl, hr1, hb1⟩
  go_wp2_with fail
  refine (works_any _).mono ?_
  rintro e w2 ⟨rfl, hb2⟩
  have hl1 := hr1.lt
  have hr2 : Rd 52 w2 w.heap.size s 0 0 := (hr1.alloc (.cells #[.string s, .int .i64 0, .int .i64 0] 34)).below hb2 (by simp; omega)
  have hk2 : Rd 34 w2 w1.heap.size s 0 0 := Rd.below (w := w1.alloc (.cells #[.string s, .int .i64 0, .int .i64 0] 34)) (heap_alloc_new w1 _) hb2 (by simp)
  have hb : Below w.heap.size w w2 := (hb1.alloc (by omega) (.cells #[.string s, .int .i64 0, .int .i64 0] 34)).trans (hb2.mono (by simp; omega))
  generalize w1.heap.size = kb at *
  clear hb2 hb1 hr1
  go_wp2
  go_loopw [7] (fun i wr => ∃ (k p : Nat) (x : Int), k ≤ len ∧ i = .int .i64 k ∧ p ≤ s.size ∧ Rd 52 wr w.heap.size s p x ∧ Rd 34 wr kb s p x ∧ Below w.heap.size w wr) (fun i _ => len - (intOf i).toNat)
  case atStart => exact ⟨0, 0, 0, Nat.zero_le _, rfl, Nat.zero_le _, hr2, hk2, hb⟩
  case round =>
    clear hr2 hk2 hb
    obtain ⟨k, p, x, hk, rfl, hp, hr, hkr, hb⟩ := hrel
    by_cases hin : k < len ∧ k < 100
    · obtain ⟨hkl, hk50⟩ := hin
      obtain ⟨bl, off, ha, hbl, hcells⟩ := HI.out.resolve_left (by omega)
      obtain ⟨cK, cN, bK, bN⟩ := hcells k hkl
      have cK' : wr.cell? ⟨bl, off + k * 2, none⟩ = some (.int .i64 (K k)) := (hb.cell hbl).trans cK
      have cN' : wr.cell? ⟨bl, off + k * 2 + 1, none⟩ = some (.int .i64 (N k)) := (hb.cell hbl).trans cN
      obtain ⟨bN1, bN2⟩ := bN
      clear hcells cN cK
      subst ha
      generalize N k = n at *
      generalize K k = kd at *
      go_wp2
      go_region_with (first
        | (go_at_call 16; refine (step_any (B := w.heap.size) kd n (p := p) (x := x) (s := s) (by exact hr) (by exact hkr) (by omega) (Nat.le_refl _) (by omega) hp hs' bK bN2).mono ?_; rintro e w3 ⟨rfl, p', x', hp', hr', hk', hb'⟩; have ce := hk'.cell2)
        | (go_at_call 17; refine (left_any (s := s) (p := p') (x := x') (by exact hr') hp' hs').mono ?_; rintro e w4 ⟨rfl, nd, rfl⟩)
        | (go_at_call 18; refine (refLeft_any (s := s) (p := p') (x := x') (by exact hk') hp' hs').mono ?_; rintro e w5 ⟨rfl, nd2, rfl⟩)
        | (go_at_call 19; refine (err_any (s := s) (p := p') (x := x') (by exact hr')).mono ?_; rintro e w6 ⟨rfl, rfl⟩))
      all_goals
        have hb3 := hb.drew.trans hb'
        clear hb hb' hr hkr cK' cN'
        go_wp2
        go_roundw
        case rel => exact ⟨k + 1, p', x', by omega, by go_num, hp', hr'.drewN _, hk'.drewN _, below_drew hb3 _⟩
        case measure => simp [intOf]; omega
    by_cases hkl : k < len
    · have hk50 : ¬ k < 100 := fun h => hin ⟨hkl, h⟩
      clear hin
      go_wp2
      go_ret
      exact ⟨rfl, hb⟩
    · clear hin
      go_wp2
      go_ret
      exact ⟨rfl, hb⟩

theorem Try.own2 : ownKnob Try.prog.godebug = none := by kernel_rfl
theorem Try.laidOut2 : laidOutB Try.prog = true := by kernel_rfl

set_option maxRecDepth 100000 in
theorem numReads_lifted (os : Os) (started : os.Started) (H : Type) (enc : TypeId × Value → H) :
    ReturnsInHanded {} Try.checked os 4 .any (Rows.numReadsSpec.pre6 enc Try.prog Try.f4 Rows.numReadsRow.domain false) (Rows.numReadsSpec.post enc Try.prog Try.f4 false true false false) := by
  refine returnsInHanded_of_change_sized (C := Try.checked) Try.own2 started (by kernel_rfl) Try.func4
    (ChangeSpec.witness6 (enc := enc) (C := Try.checked) false ⟨#[], #[.string ByteArray.empty, .slice none 0 0], []⟩ 8 (by kernel_rfl) (by kernel_rfl) (by kernel_rfl) (by kernel_rfl)) ?_
  intro W base args ds gs before hval0 hW _ hsz0 _
  have hsz : (DataW.weightsEach Try.prog (Try.f4.params.toList ++ Rows.numReadsSpec.plain.varTypes Try.prog) (ds ++ gs)).all (· ≤ reachBytes) = true := hsz0
  have hval : ∀ (j : Nat) t v, Try.f4.params[j]? = some t → args[j]? = some v → Value.okWide Try.prog W .any base t v := hval0
  have hW' := hW
  obtain ⟨p, q, hA0, hV, rfl, _, _⟩ := hW
  have hA : DataW.TrodAll enc Try.prog W 0 (fun _ => true) true Try.f4.params.toList args.toList ds p := hA0
  rw [Try.params4] at hA hval hsz
  obtain ⟨v0, v1, d0, d1, p0, p1, rfl, rfl, rfl, h0, h1⟩ := trodAll_two hA
  obtain ⟨rfl, rfl⟩ := trodVars_none hV
  obtain ⟨s, rfl, rfl, rfl, hs⟩ := open_string Try.underlying9 (hval 0 9 v0 rfl rfl) h0
  obtain ⟨a, len, cap, rfl⟩ := okWide_slice Try.underlying29 (hval 1 29 v1 rfl rfl)
  have lt1 : ∀ x ∈ p1, x.block < W.heap.size := by obtain ⟨m, hm⟩ := h1; exact DataW.trod_lt m _ _ _ hm
  obtain ⟨hlen, K, N, hacts⟩ := open_acts h1
  clear hA0 hval0 hsz0
  have hsl := sized_string hsz (j := 0) (t := 9) rfl rfl
  refine (numReads_walk s a len cap K N W (by simp [reachBytes] at hsl; omega) hlen hacts).mono fun e W' ⟨he, bel⟩ => ?_
  subst he
  exact ⟨_, rfl, _, _, _, [], _, [], hW', trodAll_mk1 (shut_bool Try.underlying4 _), trodAll_mk2 (shut_string Try.underlying9 hs) (Below.trod Try.laidOut2 (by kernel_rfl) (of_decide_eq_true (by kernel_rfl)) h1 bel lt1), rfl, bel.frame _, fun h => by cases h⟩

theorem numReads_holds : Rows.NumReadsSaid :=
  OpenClaim.holds_of_wide 4 Try.f4 rfl rfl rfl rfl rfl rfl rfl ⟨rfl, rfl, rfl, rfl, rfl⟩ rfl rfl rfl rfl rfl (by kernel_rfl) Try.func4 (by kernel_rfl)
    (of_decide_eq_true (by kernel_rfl)) (by unfold Func.isWrapper; first | (rw [if_pos (by decide +kernel)]; kernel_rfl) | (rw [if_neg (by decide +kernel)]; exact ⟨rfl, rfl⟩))
    (fun os started H enc _ => numReads_lifted os started H enc)

end Go.Proofs.Ytifbcmcefggofaa
