/-
  ShHex, ShUnhex: texts of earlier layers, laid over this program.
-/
import Derived.Test.YtcidfkkgpehodaaDoorBSha
namespace Go.Proofs.YtcidfkkgpehodaaDoor.Zq.Sh
open Go.RowKit Go.Lib

/-- append to an owned row, as one step of a region that draws. -/
theorem step_append_own {P : Program} {ops : Array Oper} {o : Oper} {a : Act} (w : World) {K : Act → World → Prop} {Q : Exit → Act → World → Prop} {E : Prop}
    (hgd : o.guard = none) (s x : Operand) (t : TypeId) (ho : o.op = .call { callee := .builtin .append, args := #[s, x], argTypes := #[t, t] })
    (base : Nat) (e : TypeId) (i : TypeInfo) (z : Value) (size bytes : Nat) (ht : P.underlying t = some (.slice e)) (hi : P.info? e = some i) (hz : i.zero = some z)
    (hsize : i.size = size) (hby : i.bytes = bytes) (hzs : z.cells.size = size) (hsz : 0 < size)
    (v : Value) (n : Nat) (xs : List Value) (hs : a.eval s = v) (hown : w.ownsRow base e size v n xs)
    (ad : Addr) (m c : Nat) (news : List Value) (hx : a.eval x = .slice (some ad) m c) (hl : news.length = m * size) (hnews : ∀ j u, news[j]? = some u → w.cell? (ad.add j) = some u) (h1 : ∀ u ∈ news, u.oneCell' = true)
    (h63 : n + m ≤ maxLen) (hbytes : (n + m) * bytes ≤ 140737488355328) (hbase : base ≤ w.heap.size)
    (hK : ∀ v' w', w'.ownsRow base e size v' (n + m) (xs ++ news) → w.grownBy w' v.ownBlock → (v' = .slice none 0 0 ↔ v = .slice none 0 0 ∧ m = 0) → K (a.put o.dst v') w') :
    if Region.wanted o (yielded ops a.tmps) = true then Oper.wp P o a w K Q else E := by
  have hw : Region.wanted o (yielded ops a.tmps) = true := by simp [Region.wanted, hgd]
  rw [if_pos hw]
  exact wp_append_own w s x t ho base e i z size bytes ht hi hz hsize hby hzs hsz v n xs hs hown ad m c news hx hl hnews h1 h63 hbytes hbase hK

def digitsS : ByteArray := ⟨#[48, 49, 50, 51, 52, 53, 54, 55, 56, 57, 97, 98, 99, 100, 101, 102]⟩
def hexDig (n : Nat) : UInt8 := digitsS.data.getD n 0
def hexTwo (b : UInt8) : List UInt8 := [hexDig (b.toNat / 16), hexDig (b.toNat % 16)]
def hexOf (l : List UInt8) : List UInt8 := l.flatMap hexTwo
theorem hexOf_length : ∀ l : List UInt8, (hexOf l).length = 2 * l.length
  | [] => rfl
  | b :: l => by
    have := hexOf_length l
    simp only [hexOf, List.flatMap_cons, List.length_append, List.length_cons] at this ⊢
    rw [this, show (hexTwo b).length = 2 from rfl]
    omega
theorem hexOf_take (l : List UInt8) (j : Nat) (h : j < l.length) : hexOf (l.take (j + 1)) = hexOf (l.take j) ++ hexTwo l[j] := by
  rw [hexOf, hexOf, List.take_succ_eq_append_getElem h, List.flatMap_append]
  simp

theorem index_digits (n : Nat) (h : n < 16) (w : World) : (Instr.index 9 (.string digitsS) (.int .u8 (n : Int))).run Tryd.prog w = .ok (.int .u8 ((hexDig n).toNat : Nat)) w := by
  have hs : digitsS.size = 16 := rfl
  rw [run_index_string w 9 digitsS .u8 n Tryd.underlying9, dif_pos ⟨by omega, by rw [hs]; omega⟩]
  have : digitsS[n]'(by rw [hs]; exact h) = hexDig n := by
    show digitsS.data[n]'_ = digitsS.data.getD n 0
    rw [Array.getD_eq_getD_getElem?, Array.getElem?_eq_getElem (by exact h)]
    rfl
  simp only [Int.toNat_natCast, this]

theorem index_hi (y : UInt8) (w : World) : (Instr.index 9 (.string digitsS) (.int .u8 ((y.toNat : Int) / 16))).run Tryd.prog w = .ok (.int .u8 ((hexDig (y.toNat / 16)).toNat : Nat)) w := by
  have h := y.toNat_lt
  have := index_digits (y.toNat / 16) (by omega) w
  rw [Int.natCast_ediv] at this
  exact this
theorem index_lo (y : UInt8) (w : World) : (Instr.index 9 (.string digitsS) (.int .u8 ((y.toNat : Int) % 16))).run Tryd.prog w = .ok (.int .u8 ((hexDig (y.toNat % 16)).toNat : Nat)) w := by
  have := index_digits (y.toNat % 16) (by omega) w
  rw [Int.natCast_emod] at this
  exact this
theorem and_lo (y : UInt8) : bits .and .u8 (y.toNat : Int) 15 = (y.toNat : Int) % 16 := by
  have h := y.toNat_lt
  exact u8_and15 (x := (y.toNat : Int)) (by omega) (by omega)
theorem cell_list_drew (w : World) (l : List Value) (t : TypeId) (j : Nat) (u : Value) (h : l[j]? = some u) : (w.alloc (.cells l.toArray t)).drew.cell? ((⟨w.heap.size, 0, none⟩ : Addr).add j) = some u := cell_list_new w l t j u h

set_option maxHeartbeats 800000 in
set_option maxRecDepth 100000 in
theorem hex_any {w : World} (s : ByteArray) (hs : s.size ≤ 1000000) :
    Calls Tryd.prog 47 #[.string s] w fun e w' => e = .returned (.string (strOf (hexOf s.data.toList))) ∧ Below w.heap.size w w' := by
  obtain ⟨i0, hi, hz0, hz1, hz2⟩ := info_parts Tryd.info5
  go_enter Tryd.func47, Tryd.ntmps47
  go_wp2_with (at_make; refine wpList_make_own _ rfl _ _ 58 rfl w.heap.size 5 i0 (.int .u8 0) 1 Tryd.underlying58 hi hz0 hz1 _ _ _ (2 * s.size) rfl rfl (by omega) (by rw [hz2]; omega) (by unfold maxLen; omega) (Nat.le_refl _) ?_)
  intro w0 hown0 hgrow0
  have hb0 : Below w.heap.size w w0 := (Below.refl _ _).grown hgrow0 (Nat.le_refl _) (fun k hk => by cases hk)
  clear hgrow0
  go_wp2
  go_loopw [3, 4, 11] (fun u _ i wr => ∃ j : Nat, j ≤ s.size ∧ i = .int .i64 j ∧ wr.ownsRow w.heap.size 5 1 u (hexOf (s.data.toList.take j)).length (byteCells (hexOf (s.data.toList.take j))) ∧ Below w.heap.size w wr)
    (fun _ _ i _ => s.size - (intOf i).toNat)
  case atStart => exact ⟨0, Nat.zero_le _, rfl, hown0, hb0⟩
  case round =>
    clear hown0 hb0
    obtain ⟨j, hj, rfl, hown, hb⟩ := hrel
    by_cases hlt : j < s.size
    · have hjl : j < s.data.toList.length := by rw [← Lib.size_eq]; exact hlt
      have HT : Hid _ := hexOf_take s.data.toList j hjl
      have hpl : (hexOf (s.data.toList.take j)).length ≤ 2000000 := by rw [hexOf_length, List.length_take]; omega
      have hix : ∀ w, (Instr.index 9 (.string s) (.int .i64 (j : Int))).run Tryd.prog w = .ok (.int .u8 (s.data.toList[j].toNat : Nat)) w := fun w => by
        rw [run_index_string w 9 s .i64 j Tryd.underlying9, dif_pos ⟨by omega, by omega⟩]
        rfl
      have hby := (s.data.toList[j]).toNat_lt
      have hd1 := index_hi (s.data.toList[j])
      have hd2 := index_lo (s.data.toList[j])
      have ha15 := and_lo (s.data.toList[j])
      unfold digitsS at hd1 hd2
      unfold hexTwo at HT
      generalize s.data.toList[j] = y at *
      go_wp2
      go_region_held3 (fun _ => True) (trivial)
        (first | (refine step_append_own _ rfl (.tmp 14) (.tmp 25) 58 rfl w.heap.size 5 i0 (.int .u8 0) 1 1 Tryd.underlying58 hi hz0 hz1 hz2 rfl (by decide) _ _ _ rfl (by exact (hown.alloc _).drew) ⟨wr.heap.size, 0, none⟩ 2 2 [.int .u8 ((hexDig (y.toNat / 16)).toNat : Nat), .int .u8 ((hexDig (y.toNat % 16)).toNat : Nat)] (by simp [Act.eval]) rfl (cell_list_drew _ _ _) (by intro u hu; simp at hu; rcases hu with rfl | rfl <;> rfl) (by unfold maxLen; omega) (by omega) (by have := hb.size; simp; omega) ?_; intro v' w4 hown' hgrow _))
      all_goals
        have Q := rel_app (l := [hexDig (y.toNat / 16), hexDig (y.toNat % 16)]) rfl rfl hown hb hb.size hown' ⟨hgrow.os, hgrow.tape, hgrow.output, hgrow.size, hgrow.block⟩
        rw [← HT.out] at Q
        clear hown' hgrow hown hd1 hd2 ha15 hix
        go_wp2
        go_roundw
        case rel => exact ⟨j + 1, by omega, by go_num, Q.1, Q.2⟩
        case measure => simp [intOf]; omega
    · obtain rfl : j = s.size := by omega
      rw [show s.data.toList.take s.size = s.data.toList from List.take_of_length_le (by rw [← Lib.size_eq]; exact Nat.le_refl _)] at hown
      have hsr := run_string_of_own hown
      go_wp2
      go_ret
      exact ⟨rfl, hb⟩

end Go.Proofs.YtcidfkkgpehodaaDoor.Zq.Sh

namespace Go.Proofs.YtcidfkkgpehodaaDoor.Zq.Sh
open Go.RowKit Go.Lib

/-- What a digit stands for; 16: it is none. -/
def digV (c : Nat) : Nat := if 48 ≤ c ∧ c ≤ 57 then c - 48 else if 97 ≤ c ∧ c ≤ 102 then c - 87 else 16

theorem digit_any (c : UInt8) (w : World) :
    Calls Tryd.prog 71 #[.int .u8 (c.toNat : Nat)] w fun e w' => e = .returned (.int .u8 (digV c.toNat : Nat)) ∧ w' = w := by
  have hc := c.toNat_lt
  generalize c.toNat = n at *
  by_cases h1 : 48 ≤ n ∧ n ≤ 57
  · have e : digV n = n - 48 := by rw [digV, if_pos h1]
    rw [e]
    obtain ⟨a, b⟩ := h1
    go_enter Tryd.func71, Tryd.ntmps71
    go_wp2
    go_ret
    exact ⟨by go_num, rfl⟩
  · by_cases h2 : 97 ≤ n ∧ n ≤ 102
    · have e : digV n = n - 87 := by rw [digV, if_neg h1, if_pos h2]
      rw [e]
      obtain ⟨a, b⟩ := h2
      go_enter Tryd.func71, Tryd.ntmps71
      go_wp2
      go_ret
      exact ⟨by go_num, rfl⟩
    · have e : digV n = 16 := by rw [digV, if_neg h1, if_neg h2]
      rw [e]
      go_enter Tryd.func71, Tryd.ntmps71
      go_wp2
      all_goals
        go_ret
        exact ⟨rfl, rfl⟩

theorem digV_lt (c : Nat) (h : digV c ≠ 16) : digV c < 16 := by
  by_cases h1 : 48 ≤ c ∧ c ≤ 57
  · rw [digV, if_pos h1]; omega
  · by_cases h2 : 97 ≤ c ∧ c ≤ 102
    · rw [digV, if_neg h1, if_pos h2]; omega
    · exact absurd (by rw [digV, if_neg h1, if_neg h2]) h
theorem digV_le (c : Nat) : digV c ≤ 16 := by
  by_cases h : digV c = 16
  · omega
  · have := digV_lt c h
    omega

/-- The bytes of which these are the digits. -/
def unhexL : List UInt8 → Option (List UInt8)
  | [] => some []
  | [_] => none
  | a :: b :: r => if digV a.toNat = 16 ∨ digV b.toNat = 16 then none else (unhexL r).map fun l => (digV a.toNat * 16 + digV b.toNat).toUInt8 :: l
theorem unhexL_odd : ∀ (n : Nat) (l : List UInt8), l.length = 2 * n + 1 → unhexL l = none
  | _, [], h => by simp at h
  | 0, [_], _ => rfl
  | 0, _ :: _ :: _, h => by simp at h
  | n + 1, [_], h => by simp at h
  | n + 1, a :: b :: r, h => by
    have := unhexL_odd n r (by simp at h; omega)
    rw [unhexL, this]
    simp
theorem unhexL_some : ∀ (n : Nat) (l r : List UInt8), l.length ≤ n → unhexL l = some r → l.length = 2 * r.length
  | _, [], r, _, h => by
    cases h
    rfl
  | _, [_], r, _, h => by cases h
  | 0, _ :: _ :: _, _, hn, _ => by simp at hn
  | n + 1, a :: b :: l, r, hn, h => by
    rw [unhexL] at h
    split at h
    · cases h
    · obtain ⟨x, hx, rfl⟩ := Option.map_eq_some_iff.1 h
      have := unhexL_some n l x (by simp at hn; omega) hx
      simp
      omega

def unhexV (l : List UInt8) : Value :=
  match unhexL l with
  | some r => .tuple #[.string (strOf r), .int .i64 0]
  | none => .tuple #[.string ⟨#[]⟩, .int .i64 3]

theorem drop_two (l : List UInt8) (i : Nat) (h : i + 1 < l.length) : l.drop i = l[i] :: l[i + 1] :: l.drop (i + 2) := by
  rw [List.drop_eq_getElem_cons (by omega), List.drop_eq_getElem_cons (by omega)]

set_option maxRecDepth 100000 in
theorem or_dig : ∀ a : Fin 16, ∀ b : Fin 16, bits .or .u8 ((a.val : Int) * 16) (b.val : Int) = ((a.val * 16 + b.val : Nat) : Int) := by decide +kernel

theorem index_at (s : ByteArray) (i : Nat) (h : i < s.data.toList.length) (w : World) : (Instr.index 9 (.string s) (.int .i64 (i : Int))).run Tryd.prog w = .ok (.int .u8 (s.data.toList[i].toNat : Nat)) w := by
  have hs : i < s.size := by rw [Lib.size_eq]; exact h
  rw [run_index_string w 9 s .i64 i Tryd.underlying9, dif_pos ⟨by omega, by omega⟩]
  rfl

set_option maxHeartbeats 800000 in
set_option maxRecDepth 100000 in
theorem unhex_any {w : World} (s : ByteArray) (hs : s.size ≤ 1000000) :
    Calls Tryd.prog 49 #[.string s] w fun e w' => e = .returned (unhexV s.data.toList) ∧ Below w.heap.size w w' := by
  obtain ⟨i0, hi, hz0, hz1, hz2⟩ := info_parts Tryd.info5
  have hlen : s.data.toList.length = s.size := (Lib.size_eq s).symm
  by_cases hodd : s.size % 2 = 0
  · have he : ((s.size : Int) % 2 != 0) = false := by simp; omega
    have HL : Hid _ := hlen
    clear hlen
    go_enter Tryd.func49, Tryd.ntmps49
    go_wp2_with (at_make; refine wpList_make_own _ rfl _ _ 58 rfl w.heap.size 5 i0 (.int .u8 0) 1 Tryd.underlying58 hi hz0 hz1 _ _ _ (s.size / 2) rfl rfl (by omega) (by rw [hz2]; omega) (by unfold maxLen; omega) (Nat.le_refl _) ?_)
    intro w0 hown0 hgrow0
    have hb0 : Below w.heap.size w w0 := (Below.refl _ _).grown hgrow0 (Nat.le_refl _) (fun k hk => by cases hk)
    clear hgrow0
    go_wp2
    go_loopw [4, 5, 6, 7] (fun u i _ _ wr => ∃ (j : Nat) (pre : List UInt8), 2 * j ≤ s.size ∧ i = .int .i64 (2 * j : Nat) ∧ pre.length = j ∧ unhexL s.data.toList = (unhexL (s.data.toList.drop (2 * j))).map (pre ++ ·) ∧ wr.ownsRow w.heap.size 5 1 u pre.length (byteCells pre) ∧ Below w.heap.size w wr)
      (fun _ i _ _ _ => s.size - (intOf i).toNat)
    case atStart => exact ⟨0, [], by omega, rfl, rfl, by simp, hown0, hb0⟩
    case round =>
      clear hown0 hb0
      obtain ⟨j, pre, hj, rfl, hpl, heq, hown, hb⟩ := hrel
      have HE : Hid _ := heq
      have HP : Hid _ := hpl
      have hple : pre.length ≤ 1000000 := by omega
      clear heq hpl
      by_cases hlt : 2 * j < s.size
      · have hi0 : 2 * j < s.data.toList.length := by rw [HL.out]; exact hlt
        have hi1 : 2 * j + 1 < s.data.toList.length := by rw [HL.out]; omega
        have hx0 := index_at s (2 * j) hi0
        have hx1 := index_at s (2 * j + 1) hi1
        have HD : Hid _ := drop_two s.data.toList (2 * j) hi1
        generalize s.data.toList[2 * j] = a at *
        generalize s.data.toList[2 * j + 1] = b at *
        simp only [Int.natCast_add, Int.natCast_mul, Int.cast_ofNat_Int] at hx0 hx1
        clear hi0 hi1
        go_wp2
        go_quiet (first | (go_at_call 71; exact Calls.quiet_of_same (digit_any _ _)))
        clear hx0 hx1
        have hown1 : (wr.drewN nq).ownsRow w.heap.size 5 1 u4 pre.length (byteCells pre) := hown
        have hb1 := below_drew hb nq
        generalize wr.drewN nq = w1 at *
        clear hown hb
        have hxa := digV_le a.toNat
        have hxb := digV_le b.toNat
        have HX : Hid (unhexL (s.data.toList.drop (2 * j)) = if digV a.toNat = 16 ∨ digV b.toNat = 16 then none else (unhexL (s.data.toList.drop (2 * j + 2))).map fun l => (digV a.toNat * 16 + digV b.toNat).toUInt8 :: l) := by
          show unhexL (s.data.toList.drop (2 * j)) = _
          rw [HD.out, unhexL]
        generalize digV a.toNat = x at *
        generalize digV b.toNat = y at *
        clear HD
        by_cases hbad : x = 16 ∨ y = 16
        · have HV : Hid (unhexV s.data.toList = .tuple #[.string ⟨#[]⟩, .int .i64 3]) := by
            show unhexV s.data.toList = _
            rw [unhexV, HE.out, HX.out, if_pos hbad]
            rfl
          rcases hbad with rfl | rfl
          · go_wp2
            go_ret2
            exact ⟨by rw [HV.out]; rfl, hb1⟩
          · by_cases hx16 : x = 16
            · subst hx16
              go_wp2
              go_ret2
              exact ⟨by rw [HV.out]; rfl, hb1⟩
            · have hx' : ((x : Int) == 16) = false := by simp; omega
              go_wp2
              go_ret2
              exact ⟨by rw [HV.out]; rfl, hb1⟩
        · have hx16 : x < 16 := by omega
          have hy16 : y < 16 := by omega
          have hx' : ((x : Int) == 16) = false := by simp; omega
          have hy' : ((y : Int) == 16) = false := by simp; omega
          have hor := or_dig ⟨x, hx16⟩ ⟨y, hy16⟩
          simp only [] at hor
          rw [if_neg hbad] at HX
          clear hbad
          have hv : x * 16 + y < 256 := by omega
          generalize hz : x * 16 + y = z at *
          have HZ : Hid _ := hz
          clear hz
          go_wp2_with (first | (at_builtin; refine wpList_append_own _ rfl (.tmp 37) (.tmp 42) 58 rfl w.heap.size 5 i0 (.int .u8 0) 1 1 Tryd.underlying58 hi hz0 hz1 hz2 rfl (by decide) _ _ _ rfl (hown1.alloc _) ⟨w1.heap.size, 0, none⟩ 1 1 [.int .u8 (z : Int)] rfl rfl (cell_list_new _ _ _) (by intro u hu; simp at hu; subst hu; rfl) (by unfold maxLen; omega) (by omega) (by have := hb1.size; simp; omega) ?_))
          intro v' w4 hown' hgrow _
          have Q := rel_app (l := [z.toUInt8]) rfl (by simp [byteCells, toUInt8_toNat hv]) hown1 hb1 hb1.size hown' hgrow
          clear hown' hgrow hown1 hor hx' hy'
          go_wp2
          go_roundw
          case rel =>
            refine ⟨j + 1, pre ++ [z.toUInt8], by omega, by go_num, by simp [HP.out], ?_, Q.1, Q.2⟩
            rw [HE.out, HX.out, show 2 * (j + 1) = 2 * j + 2 by omega, Option.map_map]
            congr 1
            funext l
            simp
          case measure => simp [intOf]; omega
      · have hjn : 2 * j = s.size := by omega
        have hall : unhexV s.data.toList = .tuple #[.string (strOf pre), .int .i64 0] := by
          rw [unhexV, HE.out, hjn, List.drop_of_length_le (by rw [HL.out]; exact Nat.le_refl _)]
          simp [unhexL]
        have hsr := run_string_of_own hown
        have HALL : Hid _ := hall
        clear hall hjn
        go_wp2
        go_ret2
        exact ⟨by rw [HALL.out]; rfl, hb⟩
  · have he : ((s.size : Int) % 2 != 0) = true := by simp; omega
    have hv : unhexV s.data.toList = .tuple #[.string ⟨#[]⟩, .int .i64 3] := by
      rw [unhexV, unhexL_odd (s.size / 2) _ (by omega)]
    rw [hv]
    go_enter Tryd.func49, Tryd.ntmps49
    go_wp2
    go_ret2
    exact ⟨rfl, Below.refl _ _⟩

end Go.Proofs.YtcidfkkgpehodaaDoor.Zq.Sh

