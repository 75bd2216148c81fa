/-
  The reader's four questions.
-/
import Derived.Test.YtifbcmcefggofaaAsk
namespace Go.Proofs.Ytifbcmcefggofaa
open Go.RowKit Go.Lib

theorem run_field0 (n : Int) (t : ByteArray) (l : Int) (w : World) : (Instr.field 54 (.agg #[.int .i64 n, .string t, .int .i64 l]) 0).run Try.prog w = .ok (.int .i64 n) w := by kernel_rfl
theorem run_field1 (n : Int) (t : ByteArray) (l : Int) (w : World) : (Instr.field 54 (.agg #[.int .i64 n, .string t, .int .i64 l]) 1).run Try.prog w = .ok (.string t) w := by kernel_rfl

theorem rFixed_any {w : World} {b : Nat} {s : ByteArray} {p : Nat} {x : Int} (n : Int) (hr : Rd 52 w b s p x) (hp : p ≤ s.size) (hs : s.size ≤ 140737488355328) (hn : n ≤ 9223372036854775807) :
    Calls Try.prog 21 #[.pointer (some ⟨b, 0, none⟩), .int .i64 n] w fun e w' => e = .returned (.int .i64 (asked x (fixedA s p n)).num) ∧ Rd 52 w' b s (p + (asked x (fixedA s p n)).long) (asked x (fixedA s p n)).code ∧ w.grownBy w' (some b) := by
  have hc := ask_35 n (fixedA s p n) hr hs (fixedA_ok s p n) (fun w1 h1 => fixedAhead_any n h1 hp hs hn)
  generalize asked x (fixedA s p n) = A at *
  have HC : Hid (Calls Try.prog 34 #[.pointer (some ⟨b, 0, none⟩), .func (.func 35) #[.pointer (some ⟨b, 0, none⟩)] #[], .int .i64 n] w fun e w' => e = .returned (.agg #[.int .i64 A.num, .string A.txt, .int .i64 A.long]) ∧ Rd 52 w' b s (p + A.long) A.code ∧ w.grownBy w' (some b)) := hc
  clear hc
  go_enter Try.func21, Try.ntmps21
  go_wp2_with fail
  refine Calls.mono HC.out ?_
  rintro e w1 ⟨rfl, hr1, hg1⟩
  clear HC
  have hf0 := run_field0
  have hf1 := run_field1
  go_wp2
  go_ret
  exact ⟨rfl, hr1, hg1⟩

theorem rShort_any {w : World} {b : Nat} {s : ByteArray} {p : Nat} {x : Int} (n : Int) (hr : Rd 52 w b s p x) (hp : p ≤ s.size) (hs : s.size ≤ 140737488355328) :
    Calls Try.prog 22 #[.pointer (some ⟨b, 0, none⟩), .int .i64 n] w fun e w' => e = .returned (.int .i64 (asked x (shortA s p n)).num) ∧ Rd 52 w' b s (p + (asked x (shortA s p n)).long) (asked x (shortA s p n)).code ∧ w.grownBy w' (some b) := by
  have hc := ask_36 n (shortA s p n) hr hs (shortA_ok s p n hp) (fun w1 h1 => shortAhead_any n h1 hp hs)
  generalize asked x (shortA s p n) = A at *
  have HC : Hid (Calls Try.prog 34 #[.pointer (some ⟨b, 0, none⟩), .func (.func 36) #[.pointer (some ⟨b, 0, none⟩)] #[], .int .i64 n] w fun e w' => e = .returned (.agg #[.int .i64 A.num, .string A.txt, .int .i64 A.long]) ∧ Rd 52 w' b s (p + A.long) A.code ∧ w.grownBy w' (some b)) := hc
  clear hc
  go_enter Try.func22, Try.ntmps22
  go_wp2_with fail
  refine Calls.mono HC.out ?_
  rintro e w1 ⟨rfl, hr1, hg1⟩
  clear HC
  have hf0 := run_field0
  have hf1 := run_field1
  go_wp2
  go_ret
  exact ⟨rfl, hr1, hg1⟩

theorem rText_any {w : World} {b : Nat} {s : ByteArray} {p : Nat} {x : Int} (n : Int) (hr : Rd 52 w b s p x) (hp : p ≤ s.size) (hs : s.size ≤ 140737488355328) :
    Calls Try.prog 23 #[.pointer (some ⟨b, 0, none⟩), .int .i64 n] w fun e w' => e = .returned (.string (asked x (textA s p n)).txt) ∧ Rd 52 w' b s (p + (asked x (textA s p n)).long) (asked x (textA s p n)).code ∧ w.grownBy w' (some b) := by
  have hc := ask_37 n (textA s p n) hr hs (textA_ok s p n hp) (fun w1 h1 => textAhead_any n h1 hp hs)
  generalize asked x (textA s p n) = A at *
  have HC : Hid (Calls Try.prog 34 #[.pointer (some ⟨b, 0, none⟩), .func (.func 37) #[.pointer (some ⟨b, 0, none⟩)] #[], .int .i64 n] w fun e w' => e = .returned (.agg #[.int .i64 A.num, .string A.txt, .int .i64 A.long]) ∧ Rd 52 w' b s (p + A.long) A.code ∧ w.grownBy w' (some b)) := hc
  clear hc
  go_enter Try.func23, Try.ntmps23
  go_wp2_with fail
  refine Calls.mono HC.out ?_
  rintro e w1 ⟨rfl, hr1, hg1⟩
  clear HC
  have hf0 := run_field0
  have hf1 := run_field1
  go_wp2
  go_ret
  exact ⟨rfl, hr1, hg1⟩

theorem rBytes_any {w : World} {b : Nat} {s : ByteArray} {p : Nat} {x : Int} (n : Int) (hr : Rd 52 w b s p x) (hp : p ≤ s.size) (hs : s.size ≤ 140737488355328) (hn : n ≤ 9223372036854775807) :
    Calls Try.prog 25 #[.pointer (some ⟨b, 0, none⟩), .int .i64 n] w fun e w' => e = .returned (.string (asked x (bytesA s p n)).txt) ∧ Rd 52 w' b s (p + (asked x (bytesA s p n)).long) (asked x (bytesA s p n)).code ∧ w.grownBy w' (some b) := by
  have hc := ask_38 n (bytesA s p n) hr hs (bytesA_ok s p n) (fun w1 h1 => bytesAhead_any n h1 hp hs hn)
  generalize asked x (bytesA s p n) = A at *
  have HC : Hid (Calls Try.prog 34 #[.pointer (some ⟨b, 0, none⟩), .func (.func 38) #[.pointer (some ⟨b, 0, none⟩)] #[], .int .i64 n] w fun e w' => e = .returned (.agg #[.int .i64 A.num, .string A.txt, .int .i64 A.long]) ∧ Rd 52 w' b s (p + A.long) A.code ∧ w.grownBy w' (some b)) := hc
  clear hc
  go_enter Try.func25, Try.ntmps25
  go_wp2_with fail
  refine Calls.mono HC.out ?_
  rintro e w1 ⟨rfl, hr1, hg1⟩
  clear HC
  have hf0 := run_field0
  have hf1 := run_field1
  go_wp2
  go_ret
  exact ⟨rfl, hr1, hg1⟩

end Go.Proofs.Ytifbcmcefggofaa
