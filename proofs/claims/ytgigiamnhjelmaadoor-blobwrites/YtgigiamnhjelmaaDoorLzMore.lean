/-
  Lz: a byte of a text; a number that goes on, by the document.
-/
import Derived.Test.YtgigiamnhjelmaaDoorPoRow
import Derived.Test.YtgigiamnhjelmaaDoorLzMath
namespace Go.Proofs.YtgigiamnhjelmaaDoor
open Go.RowKit Go.Lib
section
variable {s : ByteArray} {i : Nat}
theorem ix_at (h : i < s.size) (w : World) : (Instr.index 9 (.string s) (.int .i64 (i : Int))).run Tryd.prog w = .ok (.int .u8 ((bt s i : Nat) : Int)) w := by
  have h1 : (i : Int) < (s.size : Int) := by omega
  have h0 : (0 : Int) ≤ (i : Int) := by omega
  rw [bt_at h]
  simp [go_sem, Tryd.underlying9, h]
theorem cv_u8 (s : ByteArray) (i : Nat) (w : World) : (convert 5 3 (.int .u8 ((bt s i : Nat) : Int))).run Tryd.prog w = .ok (.int .i64 ((bt s i : Nat) : Int)) w := by
  have := bt_lt s i
  have e : IntKind.i64.wrap ((bt s i : Nat) : Int) = ((bt s i : Nat) : Int) := by rw [IntKind.wrap_i64]; omega
  simp [go_sem, Tryd.underlying5, Tryd.underlying3, e]
end
def moV : Option (Nat × Nat) → Value
  | none => .tuple #[.int .i64 0, .int .i64 0, .bool false]
  | some (m, j) => .tuple #[.int .i64 (m : Int), .int .i64 (j : Int), .bool true]
set_option maxRecDepth 100000 in
set_option maxHeartbeats 800000 in
theorem rmore_any (w : World) {s : ByteArray} {i n : Nat} (hi : i ≤ s.size) (hs : s.size ≤ 4000) (hn : n ≤ 255) : Calls Tryd.prog 63 #[.string s, .int .i64 (i : Int), .int .i64 (n : Int)] w fun e w' => e = .returned (moV (mo s i n)) ∧ w' = w := by
  by_cases h1 : n < 15
  · rw [mo_few h1]
    have c1 : (n : Int) < 15 := by omega
    go_enter Tryd.func63, Tryd.ntmps63
    go_wp2
    exact bodyPost_ret (v := .tuple #[.int .i64 (n : Int), .int .i64 (i : Int), .bool true]) (by simp [results, Tryd.results63, go_sem]) rfl ⟨rfl, rfl⟩
  · rw [mo_on h1]
    have c1 : ¬ (n : Int) < 15 := by omega
    obtain ⟨R, hR⟩ : ∃ R, moG s (s.size - i) i n = R := ⟨_, rfl⟩
    rw [hR]
    have HR := hide hR
    clear hR
    go_enter Tryd.func63, Tryd.ntmps63
    go_wp2
    go_loopw [1, 2] (fun a b wr => ∃ j m : Nat, a = .int .i64 (j : Int) ∧ b = .int .i64 (m : Int) ∧ j ≤ s.size ∧ m ≤ 255 + 255 * j ∧ moG s (s.size - j) j m = R ∧ wr = w) (fun a _ _ => s.size - (Go.RowKit.intOf a).toNat)
    case atStart => exact ⟨i, n, rfl, rfl, hi, by omega, HR.out, rfl⟩
    case round =>
      obtain ⟨j, m, rfl, rfl, hj, hm, hq, rfl⟩ := hrel
      by_cases hlt : j < s.size
      · have d1 : (j : Int) < (s.size : Int) := by omega
        have d0 : (0 : Int) ≤ (j : Int) := by omega
        have hx := ix_at hlt
        have hc := cv_u8 s j
        have hb := bt_lt s j
        by_cases hb1 : bt s j < 255
        · rw [moG_one hlt hb1] at hq
          obtain ⟨b, hbb⟩ : ∃ b, bt s j = b := ⟨_, rfl⟩
          rw [hbb] at hx hc hb hb1 hq
          have HQ := hide hq
          have e1 : IntKind.i64.wrap ((m : Int) + (b : Int)) = (m : Int) + (b : Int) := by rw [IntKind.wrap_i64]; omega
          have e2 : (b : Int) < 255 := by omega
          clear hq hbb
          go_wp2
          exact bodyPost_ret (v := .tuple #[.int .i64 ((m : Int) + (b : Int)), .int .i64 ((j : Int) + 1), .bool true]) (by simp [results, Tryd.results63, go_sem]) rfl ⟨by rw [← HQ.out]; rfl, rfl⟩
        · rw [moG_more hlt hb1] at hq
          obtain ⟨b, hbb⟩ : ∃ b, bt s j = b := ⟨_, rfl⟩
          rw [hbb] at hx hc hb hb1 hq
          have HQ := hide hq
          have e1 : IntKind.i64.wrap ((m : Int) + (b : Int)) = (m : Int) + (b : Int) := by rw [IntKind.wrap_i64]; omega
          have e2 : ¬ (b : Int) < 255 := by omega
          clear hq hbb
          go_wp2
          exact ⟨⟨j + 1, m + b, by go_num, by go_num, by omega, by omega, HQ.out, by trivial⟩, by simp [Go.RowKit.intOf]; omega⟩
      · rw [moG_end (by omega)] at hq
        have HQ := hide hq
        have d1 : ¬ (j : Int) < (s.size : Int) := by omega
        clear hq
        go_wp2
        exact bodyPost_ret (v := .tuple #[.int .i64 0, .int .i64 0, .bool false]) (by simp [results, Tryd.results63, go_sem]) rfl ⟨by rw [← HQ.out]; rfl, rfl⟩
end Go.Proofs.YtgigiamnhjelmaaDoor
