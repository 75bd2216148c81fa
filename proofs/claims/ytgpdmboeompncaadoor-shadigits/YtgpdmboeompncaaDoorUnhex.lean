/-
  The contract of Unhex.
-/
import Derived.Test.YtgpdmboeompncaaDoorHex
namespace Go.Proofs.YtgpdmboeompncaaDoor
open Go.RowKit Go.Lib

/-- What a digit stands for; 16: it is none. -/
def digV (c : Nat) : Nat := if 48 ≤ c ∧ c ≤ 57 then c - 48 else if 97 ≤ c ∧ c ≤ 102 then c - 87 else 16

theorem digit_any (c : UInt8) (w : World) :
    Calls Tryd.prog 37 #[.int .u8 (c.toNat : Nat)] w fun e w' => e = .returned (.int .u8 (digV c.toNat : Nat)) ∧ w' = w := by
  have hc := c.toNat_lt
  generalize c.toNat = n at *
  by_cases h1 : 48 ≤ n ∧ n ≤ 57
  · have e : digV n = n - 48 := by rw [digV, if_pos h1]
    rw [e]
    obtain ⟨a, b⟩ := h1
    go_enter Tryd.func37, Tryd.ntmps37
    go_wp2
    go_ret
    exact ⟨by go_num, rfl⟩
  · by_cases h2 : 97 ≤ n ∧ n ≤ 102
    · have e : digV n = n - 87 := by rw [digV, if_neg h1, if_pos h2]
      rw [e]
      obtain ⟨a, b⟩ := h2
      go_enter Tryd.func37, Tryd.ntmps37
      go_wp2
      go_ret
      exact ⟨by go_num, rfl⟩
    · have e : digV n = 16 := by rw [digV, if_neg h1, if_neg h2]
      rw [e]
      go_enter Tryd.func37, Tryd.ntmps37
      go_wp2
      all_goals
        go_ret
        exact ⟨rfl, rfl⟩

theorem digV_lt (c : Nat) (h : digV c ≠ 16) : digV c < 16 := by
  by_cases h1 : 48 ≤ c ∧ c ≤ 57
  · rw [digV, if_pos h1]; omega
  · by_cases h2 : 97 ≤ c ∧ c ≤ 102
    · rw [digV, if_neg h1, if_pos h2]; omega
    · exact absurd (by rw [digV, if_neg h1, if_neg h2]) h
theorem digV_le (c : Nat) : digV c ≤ 16 := by
  by_cases h : digV c = 16
  · omega
  · have := digV_lt c h
    omega

/-- The bytes of which these are the digits. -/
def unhexL : List UInt8 → Option (List UInt8)
  | [] => some []
  | [_] => none
  | a :: b :: r => if digV a.toNat = 16 ∨ digV b.toNat = 16 then none else (unhexL r).map fun l => (digV a.toNat * 16 + digV b.toNat).toUInt8 :: l
theorem unhexL_odd : ∀ (n : Nat) (l : List UInt8), l.length = 2 * n + 1 → unhexL l = none
  | _, [], h => by simp at h
  | 0, [_], _ => rfl
  | 0, _ :: _ :: _, h => by simp at h
  | n + 1, [_], h => by simp at h
  | n + 1, a :: b :: r, h => by
    have := unhexL_odd n r (by simp at h; omega)
    rw [unhexL, this]
    simp
theorem unhexL_some : ∀ (n : Nat) (l r : List UInt8), l.length ≤ n → unhexL l = some r → l.length = 2 * r.length
  | _, [], r, _, h => by
    cases h
    rfl
  | _, [_], r, _, h => by cases h
  | 0, _ :: _ :: _, _, hn, _ => by simp at hn
  | n + 1, a :: b :: l, r, hn, h => by
    rw [unhexL] at h
    split at h
    · cases h
    · obtain ⟨x, hx, rfl⟩ := Option.map_eq_some_iff.1 h
      have := unhexL_some n l x (by simp at hn; omega) hx
      simp
      omega

def unhexV (l : List UInt8) : Value :=
  match unhexL l with
  | some r => .tuple #[.string (strOf r), .int .i64 0]
  | none => .tuple #[.string ⟨#[]⟩, .int .i64 3]

theorem drop_two (l : List UInt8) (i : Nat) (h : i + 1 < l.length) : l.drop i = l[i] :: l[i + 1] :: l.drop (i + 2) := by
  rw [List.drop_eq_getElem_cons (by omega), List.drop_eq_getElem_cons (by omega)]

set_option maxRecDepth 100000 in
theorem or_dig : ∀ a : Fin 16, ∀ b : Fin 16, bits .or .u8 ((a.val : Int) * 16) (b.val : Int) = ((a.val * 16 + b.val : Nat) : Int) := by decide +kernel

theorem index_at (s : ByteArray) (i : Nat) (h : i < s.data.toList.length) (w : World) : (Instr.index 9 (.string s) (.int .i64 (i : Int))).run Tryd.prog w = .ok (.int .u8 (s.data.toList[i].toNat : Nat)) w := by
  have hs : i < s.size := by rw [Lib.size_eq]; exact h
  rw [run_index_string w 9 s .i64 i Tryd.underlying9, dif_pos ⟨by omega, by omega⟩]
  rfl

set_option maxHeartbeats 800000 in
set_option maxRecDepth 100000 in
theorem unhex_any {w : World} (s : ByteArray) (hs : s.size ≤ 1000000) :
    Calls Tryd.prog 22 #[.string s] w fun e w' => e = .returned (unhexV s.data.toList) ∧ Below w.heap.size w w' := by
  obtain ⟨i0, hi, hz0, hz1, hz2⟩ := info_parts Tryd.info5
  have hlen : s.data.toList.length = s.size := (Lib.size_eq s).symm
  by_cases hodd : s.size % 2 = 0
  · have he : ((s.size : Int) % 2 != 0) = false := by simp; omega
    have HL : Hid _ := hlen
    clear hlen
    go_enter Tryd.func22, Tryd.ntmps22
    go_wp2_with (at_make; refine wpList_make_own _ rfl _ _ 50 rfl w.heap.size 5 i0 (.int .u8 0) 1 Tryd.underlying50 hi hz0 hz1 _ _ _ (s.size / 2) rfl rfl (by omega) (by rw [hz2]; omega) (by unfold maxLen; omega) (Nat.le_refl _) ?_)
    intro w0 hown0 hgrow0
    have hb0 : Below w.heap.size w w0 := (Below.refl _ _).grown hgrow0 (Nat.le_refl _) (fun k hk => by cases hk)
    clear hgrow0
    go_wp2
    go_loopw [4, 5, 6, 7] (fun u i _ _ wr => ∃ (j : Nat) (pre : List UInt8), 2 * j ≤ s.size ∧ i = .int .i64 (2 * j : Nat) ∧ pre.length = j ∧ unhexL s.data.toList = (unhexL (s.data.toList.drop (2 * j))).map (pre ++ ·) ∧ wr.ownsRow w.heap.size 5 1 u pre.length (byteCells pre) ∧ Below w.heap.size w wr)
      (fun _ i _ _ _ => s.size - (intOf i).toNat)
    case atStart => exact ⟨0, [], by omega, rfl, rfl, by simp, hown0, hb0⟩
    case round =>
      clear hown0 hb0
      obtain ⟨j, pre, hj, rfl, hpl, heq, hown, hb⟩ := hrel
      have HE : Hid _ := heq
      have HP : Hid _ := hpl
      have hple : pre.length ≤ 1000000 := by omega
      clear heq hpl
      by_cases hlt : 2 * j < s.size
      · have hi0 : 2 * j < s.data.toList.length := by rw [HL.out]; exact hlt
        have hi1 : 2 * j + 1 < s.data.toList.length := by rw [HL.out]; omega
        have hx0 := index_at s (2 * j) hi0
        have hx1 := index_at s (2 * j + 1) hi1
        have HD : Hid _ := drop_two s.data.toList (2 * j) hi1
        generalize s.data.toList[2 * j] = a at *
        generalize s.data.toList[2 * j + 1] = b at *
        simp only [Int.natCast_add, Int.natCast_mul, Int.cast_ofNat_Int] at hx0 hx1
        clear hi0 hi1
        go_wp2
        go_quiet (first | (go_at_call 37; exact Calls.quiet_of_same (digit_any _ _)))
        clear hx0 hx1
        have hown1 : (wr.drewN nq).ownsRow w.heap.size 5 1 u4 pre.length (byteCells pre) := hown
        have hb1 := below_drew hb nq
        generalize wr.drewN nq = w1 at *
        clear hown hb
        have hxa := digV_le a.toNat
        have hxb := digV_le b.toNat
        have HX : Hid (unhexL (s.data.toList.drop (2 * j)) = if digV a.toNat = 16 ∨ digV b.toNat = 16 then none else (unhexL (s.data.toList.drop (2 * j + 2))).map fun l => (digV a.toNat * 16 + digV b.toNat).toUInt8 :: l) := by
          show unhexL (s.data.toList.drop (2 * j)) = _
          rw [HD.out, unhexL]
        generalize digV a.toNat = x at *
        generalize digV b.toNat = y at *
        clear HD
        by_cases hbad : x = 16 ∨ y = 16
        · have HV : Hid (unhexV s.data.toList = .tuple #[.string ⟨#[]⟩, .int .i64 3]) := by
            show unhexV s.data.toList = _
            rw [unhexV, HE.out, HX.out, if_pos hbad]
            rfl
          rcases hbad with rfl | rfl
          · go_wp2
            go_ret2
            exact ⟨by rw [HV.out]; rfl, hb1⟩
          · by_cases hx16 : x = 16
            · subst hx16
              go_wp2
              go_ret2
              exact ⟨by rw [HV.out]; rfl, hb1⟩
            · have hx' : ((x : Int) == 16) = false := by simp; omega
              go_wp2
              go_ret2
              exact ⟨by rw [HV.out]; rfl, hb1⟩
        · have hx16 : x < 16 := by omega
          have hy16 : y < 16 := by omega
          have hx' : ((x : Int) == 16) = false := by simp; omega
          have hy' : ((y : Int) == 16) = false := by simp; omega
          have hor := or_dig ⟨x, hx16⟩ ⟨y, hy16⟩
          simp only [] at hor
          rw [if_neg hbad] at HX
          clear hbad
          have hv : x * 16 + y < 256 := by omega
          generalize hz : x * 16 + y = z at *
          have HZ : Hid _ := hz
          clear hz
          go_wp2_with (first | (at_builtin; refine wpList_append_own _ rfl (.tmp 37) (.tmp 42) 50 rfl w.heap.size 5 i0 (.int .u8 0) 1 1 Tryd.underlying50 hi hz0 hz1 hz2 rfl (by decide) _ _ _ rfl (hown1.alloc _) ⟨w1.heap.size, 0, none⟩ 1 1 [.int .u8 (z : Int)] rfl rfl (cell_list_new _ _ _) (by intro u hu; simp at hu; subst hu; rfl) (by unfold maxLen; omega) (by omega) (by have := hb1.size; simp; omega) ?_))
          intro v' w4 hown' hgrow _
          have Q := rel_app (l := [z.toUInt8]) rfl (by simp [byteCells, toUInt8_toNat hv]) hown1 hb1 hb1.size hown' hgrow
          clear hown' hgrow hown1 hor hx' hy'
          go_wp2
          go_roundw
          case rel =>
            refine ⟨j + 1, pre ++ [z.toUInt8], by omega, by go_num, by simp [HP.out], ?_, Q.1, Q.2⟩
            rw [HE.out, HX.out, show 2 * (j + 1) = 2 * j + 2 by omega, Option.map_map]
            congr 1
            funext l
            simp
          case measure => simp [intOf]; omega
      · have hjn : 2 * j = s.size := by omega
        have hall : unhexV s.data.toList = .tuple #[.string (strOf pre), .int .i64 0] := by
          rw [unhexV, HE.out, hjn, List.drop_of_length_le (by rw [HL.out]; exact Nat.le_refl _)]
          simp [unhexL]
        have hsr := run_string_of_own hown
        have HALL : Hid _ := hall
        clear hall hjn
        go_wp2
        go_ret2
        exact ⟨by rw [HALL.out]; rfl, hb⟩
  · have he : ((s.size : Int) % 2 != 0) = true := by simp; omega
    have hv : unhexV s.data.toList = .tuple #[.string ⟨#[]⟩, .int .i64 3] := by
      rw [unhexV, unhexL_odd (s.size / 2) _ (by omega)]
    rw [hv]
    go_enter Tryd.func22, Tryd.ntmps22
    go_wp2
    go_ret2
    exact ⟨rfl, Below.refl _ _⟩

end Go.Proofs.YtgpdmboeompncaaDoor
