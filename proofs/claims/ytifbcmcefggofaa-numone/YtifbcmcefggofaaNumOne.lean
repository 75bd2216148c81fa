/-
  NumOne: whatever bytes a short number is read from are just those that it is written as; where none is read the reader stays. Every input; no condition of ours.
-/
import Derived.Test.YtifbcmcefggofaaAsk2
import Derived.ProofKit
import Derived.OpenShut
import Derived.SizedLaws
namespace Go.Proofs.Ytifbcmcefggofaa
open Go.ChangeShapes Go.WideShapes Go.ChangeAt Go.RowKit Go.Lib
open Go.ChangeMaps (open_string shut_string)

theorem byte_self (c : UInt8) : c.toNat.toUInt8 = c := by simp

/-- The bytes that a short number is read from are those that it is written as. -/
theorem shortGo_one (most : Int) : ∀ (f i n : Nat) (l : List UInt8) (num long : Nat), shortGo most f i n l = ⟨num, ⟨#[]⟩, long, 0⟩ →
    ∃ m : Nat, num = n + m * 2 ^ (7 * i) ∧ i < long ∧ uvarint m = l.take (long - i) ∧ (0 < i → 0 < m)
  | 0, _, _, _, _, _, h => by simp [shortGo, Ah.bad] at h
  | _ + 1, _, _, [], _, _, h => by simp [shortGo, Ah.bad] at h
  | f + 1, i, n, c :: r, num, long, h => by
    have hc := c.toNat_lt
    rw [shortGo] at h
    by_cases h1 : 128 ≤ c.toNat
    · rw [if_pos h1] at h
      obtain ⟨m, e1, e2, e3, e4⟩ := shortGo_one most f (i + 1) _ r num long h
      have hm := e4 (by omega)
      refine ⟨c.toNat % 128 + 128 * m, ?_, by omega, ?_, fun _ => by omega⟩
      · have hp : 2 ^ (7 * (i + 1)) = 128 * 2 ^ (7 * i) := by rw [Nat.mul_add, Nat.pow_add, Nat.mul_comm]
        rw [e1, hp, Nat.add_mul, Nat.add_assoc]
        congr 2
        rw [← Nat.mul_assoc, Nat.mul_comm m 128]
      · rw [uvarint_big (by omega), show (c.toNat % 128 + 128 * m) / 128 = m from by omega, e3, show (c.toNat % 128 + 128 * m) % 128 + 128 = c.toNat from by omega, byte_self,
          show long - i = (long - (i + 1)) + 1 from by omega, List.take_succ_cons]
    rw [if_neg h1] at h
    by_cases h2 : c.toNat = 0 ∧ 0 < i
    · rw [if_pos h2] at h; simp [Ah.bad] at h
    rw [if_neg h2] at h
    by_cases h3 : most < ((n + c.toNat % 128 * 2 ^ (7 * i) : Nat) : Int)
    · rw [if_pos h3] at h; simp [Ah.bad] at h
    rw [if_neg h3] at h
    simp only [Ah.mk.injEq, and_true, true_and] at h
    obtain ⟨e1, e2⟩ := h
    refine ⟨c.toNat % 128, e1.symm, by omega, ?_, fun hi => by omega⟩
    rw [uvarint_small (by omega), show c.toNat % 128 = c.toNat from by omega, byte_self, ← e2, show i + 1 - i = 1 from by omega]
    rfl

theorem shortA_one (s : ByteArray) (most : Int) (num long : Nat) (h : shortA s 0 most = ⟨num, ⟨#[]⟩, long, 0⟩) : strOf (uvarint num) = s.extract 0 long := by
  obtain ⟨m, e1, _, e3, _⟩ := shortGo_one most 9 0 0 _ num long h
  have : num = m := by simpa using e1
  subst this
  apply ByteArray.ext
  apply Array.ext'
  rw [strOf_toList, e3]
  simp

theorem numOne_world {w w1 w2 w3 : World} {s : ByteArray} {p : Nat} {x : Int} (hr1 : Rd 52 w1 w.heap.size s p x) (hb1 : Below w.heap.size w w1) (hb2 : Below w1.heap.size w1 w2) (hg3 : w2.grownBy w3 (some w.heap.size)) (nd : Nat) : Below w.heap.size w (w3.drewN nd) := by
  have h1 := hr1.lt
  have h2 := hb2.size
  exact below_drew ((hb1.trans (hb2.mono (by omega))).grown hg3 (by omega) (fun k hk => by simp at hk; omega)) nd

set_option maxRecDepth 100000 in
set_option maxHeartbeats 400000 in
theorem numOne_walk (s : ByteArray) (w : World) (hs : s.size ≤ 140737488355328) :
    Calls Try.prog 6 #[.string s] w fun e w' => e = .returned (.bool true) ∧ Below w.heap.size w w' := by
  rcases shortA_cases s 0 9223372036854775807 (Nat.zero_le _) with ⟨c, hc0, hA⟩ | ⟨num, long, hA, hlong, hnum, _⟩
  · have hcb : (c != 0) = true := by simpa using hc0
    clear hc0
    go_enter Try.func6, Try.ntmps6
    go_wp2_with fail
    refine (read_any s _).mono ?_
    rintro e w1 ⟨rfl, hr1, hb1⟩
    go_wp2_with fail
    refine (works_any _).mono ?_
    rintro e w2 ⟨rfl, hb2⟩
    have hr2 := hr1.below hb2 hr1.lt
    go_wp2_with fail
    refine (rShort_any 9223372036854775807 hr2 (Nat.zero_le _) hs).mono ?_
    rw [asked_zero, hA]
    rintro e w3 ⟨rfl, hr3, hg3⟩
    have hr3' : Rd 52 w3 w.heap.size s 0 c := hr3
    clear hr3
    go_wp2_with fail
    refine (err_any hr3').mono ?_
    rintro e w4 ⟨rfl, rfl⟩
    go_wp2_with fail
    refine (left_any hr3' (Nat.zero_le _) hs).mono ?_
    rintro e w5 ⟨rfl, nd, rfl⟩
    go_wp2
    go_ret
    exact ⟨by simp, numOne_world hr1 hb1 hb2 hg3 nd⟩
  · have hone := shortA_one s _ num long hA
    have hsub : (s.size : Int) - ((s.size : Int) - long) = long := by omega
    go_enter Try.func6, Try.ntmps6
    go_wp2_with fail
    refine (read_any s _).mono ?_
    rintro e w1 ⟨rfl, hr1, hb1⟩
    go_wp2_with fail
    refine (works_any _).mono ?_
    rintro e w2 ⟨rfl, hb2⟩
    have hr2 := hr1.below hb2 hr1.lt
    go_wp2_with fail
    refine (rShort_any 9223372036854775807 hr2 (Nat.zero_le _) hs).mono ?_
    rw [asked_zero, hA]
    clear hA
    rintro e w3 ⟨rfl, hr3, hg3⟩
    have hr3' : Rd 52 w3 w.heap.size s long 0 := by have := hr3; simpa using this
    clear hr3
    go_wp2_with fail
    refine (err_any hr3').mono ?_
    rintro e w4 ⟨rfl, rfl⟩
    go_wp2_with fail
    refine (short_any num _ hnum).mono ?_
    rw [hone]
    rintro e w5 ⟨rfl, hb5⟩
    have hr5 := hr3'.below hb5 hr3'.lt
    clear hone
    go_wp2_with fail
    refine (left_any hr5 (by omega) hs).mono ?_
    rintro e w6 ⟨rfl, nd, rfl⟩
    go_wp2
    go_ret
    exact ⟨rfl, below_drew ((numOne_world hr1 hb1 hb2 hg3 0).trans (hb5.mono (by have := hb1.size; have := hb2.size; have := hg3.size; omega))) nd⟩

theorem Try.own1 : ownKnob Try.prog.godebug = none := by kernel_rfl

set_option maxRecDepth 100000 in
theorem numOne_lifted (os : Os) (started : os.Started) (H : Type) (enc : TypeId × Value → H) :
    ReturnsInHanded {} Try.checked os 6 .any (Rows.numOneSpec.pre6 enc Try.prog Try.f6 Rows.numOneRow.domain false) (Rows.numOneSpec.post enc Try.prog Try.f6 false true false false) := by
  refine returnsInHanded_of_change_sized (C := Try.checked) Try.own1 started (by kernel_rfl) Try.func6
    (ChangeSpec.witness6 (enc := enc) (C := Try.checked) false ⟨#[], #[.string ByteArray.empty], []⟩ 8 (by kernel_rfl) (by kernel_rfl) (by kernel_rfl) (by kernel_rfl)) ?_
  intro W base args ds gs before hval0 hW _ hsz0 _
  have hsz : (DataW.weightsEach Try.prog (Try.f6.params.toList ++ Rows.numOneSpec.plain.varTypes Try.prog) (ds ++ gs)).all (· ≤ reachBytes) = true := hsz0
  have hval : ∀ (j : Nat) t v, Try.f6.params[j]? = some t → args[j]? = some v → Value.okWide Try.prog W .any base t v := hval0
  have hW' := hW
  obtain ⟨p, q, hA0, hV, rfl, _, _⟩ := hW
  have hA : DataW.TrodAll enc Try.prog W 0 (fun _ => true) true Try.f6.params.toList args.toList ds p := hA0
  rw [Try.params6] at hA hval hsz
  obtain ⟨v0, d0, rfl, rfl, h0⟩ := trodAll_one hA
  obtain ⟨rfl, rfl⟩ := trodVars_none hV
  obtain ⟨s, rfl, rfl, rfl, hs⟩ := open_string Try.underlying9 (hval 0 9 v0 rfl rfl) h0
  clear hA0 hval0 hsz0
  have hsl := sized_string hsz (j := 0) (t := 9) rfl rfl
  refine (numOne_walk s W (by simp [reachBytes] at hsl; omega)).mono fun e W' ⟨he, bel⟩ => ?_
  subst he
  exact ⟨_, rfl, _, _, _, [], _, [], hW', trodAll_mk1 (shut_bool Try.underlying4 _), trodAll_mk1 (shut_string Try.underlying9 hs), rfl, bel.frame _, fun h => by cases h⟩

theorem numOne_holds : Rows.NumOneSaid :=
  OpenClaim.holds_of_wide 6 Try.f6 rfl rfl rfl rfl rfl rfl rfl ⟨rfl, rfl, rfl, rfl, rfl⟩ rfl rfl rfl rfl rfl (by kernel_rfl) Try.func6 (by kernel_rfl)
    (of_decide_eq_true (by kernel_rfl)) (by unfold Func.isWrapper; first | (rw [if_pos (by decide +kernel)]; kernel_rfl) | (rw [if_neg (by decide +kernel)]; exact ⟨rfl, rfl⟩))
    (fun os started H enc _ => numOne_lifted os started H enc)

end Go.Proofs.Ytifbcmcefggofaa
