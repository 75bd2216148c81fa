/-
  The contracts of Hex and of the chapter's example.
-/
import Derived.Test.YtgpdmboeompncaaDoorSums
namespace Go.Proofs.YtgpdmboeompncaaDoor
open Go.RowKit Go.Lib

/-- append to an owned row, as one step of a region that draws. -/
theorem step_append_own {P : Program} {ops : Array Oper} {o : Oper} {a : Act} (w : World) {K : Act → World → Prop} {Q : Exit → Act → World → Prop} {E : Prop}
    (hgd : o.guard = none) (s x : Operand) (t : TypeId) (ho : o.op = .call { callee := .builtin .append, args := #[s, x], argTypes := #[t, t] })
    (base : Nat) (e : TypeId) (i : TypeInfo) (z : Value) (size bytes : Nat) (ht : P.underlying t = some (.slice e)) (hi : P.info? e = some i) (hz : i.zero = some z)
    (hsize : i.size = size) (hby : i.bytes = bytes) (hzs : z.cells.size = size) (hsz : 0 < size)
    (v : Value) (n : Nat) (xs : List Value) (hs : a.eval s = v) (hown : w.ownsRow base e size v n xs)
    (ad : Addr) (m c : Nat) (news : List Value) (hx : a.eval x = .slice (some ad) m c) (hl : news.length = m * size) (hnews : ∀ j u, news[j]? = some u → w.cell? (ad.add j) = some u) (h1 : ∀ u ∈ news, u.oneCell' = true)
    (h63 : n + m ≤ maxLen) (hbytes : (n + m) * bytes ≤ 140737488355328) (hbase : base ≤ w.heap.size)
    (hK : ∀ v' w', w'.ownsRow base e size v' (n + m) (xs ++ news) → w.grownBy w' v.ownBlock → (v' = .slice none 0 0 ↔ v = .slice none 0 0 ∧ m = 0) → K (a.put o.dst v') w') :
    if Region.wanted o (yielded ops a.tmps) = true then Oper.wp P o a w K Q else E := by
  have hw : Region.wanted o (yielded ops a.tmps) = true := by simp [Region.wanted, hgd]
  rw [if_pos hw]
  exact wp_append_own w s x t ho base e i z size bytes ht hi hz hsize hby hzs hsz v n xs hs hown ad m c news hx hl hnews h1 h63 hbytes hbase hK

def digitsS : ByteArray := ⟨#[48, 49, 50, 51, 52, 53, 54, 55, 56, 57, 97, 98, 99, 100, 101, 102]⟩
def hexDig (n : Nat) : UInt8 := digitsS.data.getD n 0
def hexTwo (b : UInt8) : List UInt8 := [hexDig (b.toNat / 16), hexDig (b.toNat % 16)]
def hexOf (l : List UInt8) : List UInt8 := l.flatMap hexTwo
theorem hexOf_length : ∀ l : List UInt8, (hexOf l).length = 2 * l.length
  | [] => rfl
  | b :: l => by
    have := hexOf_length l
    simp only [hexOf, List.flatMap_cons, List.length_append, List.length_cons] at this ⊢
    rw [this, show (hexTwo b).length = 2 from rfl]
    omega
theorem hexOf_take (l : List UInt8) (j : Nat) (h : j < l.length) : hexOf (l.take (j + 1)) = hexOf (l.take j) ++ hexTwo l[j] := by
  rw [hexOf, hexOf, List.take_succ_eq_append_getElem h, List.flatMap_append]
  simp

theorem index_digits (n : Nat) (h : n < 16) (w : World) : (Instr.index 9 (.string digitsS) (.int .u8 (n : Int))).run Tryd.prog w = .ok (.int .u8 ((hexDig n).toNat : Nat)) w := by
  have hs : digitsS.size = 16 := rfl
  rw [run_index_string w 9 digitsS .u8 n Tryd.underlying9, dif_pos ⟨by omega, by rw [hs]; omega⟩]
  have : digitsS[n]'(by rw [hs]; exact h) = hexDig n := by
    show digitsS.data[n]'_ = digitsS.data.getD n 0
    rw [Array.getD_eq_getD_getElem?, Array.getElem?_eq_getElem (by exact h)]
    rfl
  simp only [Int.toNat_natCast, this]

theorem index_hi (y : UInt8) (w : World) : (Instr.index 9 (.string digitsS) (.int .u8 ((y.toNat : Int) / 16))).run Tryd.prog w = .ok (.int .u8 ((hexDig (y.toNat / 16)).toNat : Nat)) w := by
  have h := y.toNat_lt
  have := index_digits (y.toNat / 16) (by omega) w
  rw [Int.natCast_ediv] at this
  exact this
theorem index_lo (y : UInt8) (w : World) : (Instr.index 9 (.string digitsS) (.int .u8 ((y.toNat : Int) % 16))).run Tryd.prog w = .ok (.int .u8 ((hexDig (y.toNat % 16)).toNat : Nat)) w := by
  have := index_digits (y.toNat % 16) (by omega) w
  rw [Int.natCast_emod] at this
  exact this
theorem and_lo (y : UInt8) : bits .and .u8 (y.toNat : Int) 15 = (y.toNat : Int) % 16 := by
  have h := y.toNat_lt
  exact u8_and15 (x := (y.toNat : Int)) (by omega) (by omega)
theorem cell_list_drew (w : World) (l : List Value) (t : TypeId) (j : Nat) (u : Value) (h : l[j]? = some u) : (w.alloc (.cells l.toArray t)).drew.cell? ((⟨w.heap.size, 0, none⟩ : Addr).add j) = some u := cell_list_new w l t j u h

set_option maxHeartbeats 800000 in
set_option maxRecDepth 100000 in
theorem hex_any {w : World} (s : ByteArray) (hs : s.size ≤ 1000000) :
    Calls Tryd.prog 24 #[.string s] w fun e w' => e = .returned (.string (strOf (hexOf s.data.toList))) ∧ Below w.heap.size w w' := by
  obtain ⟨i0, hi, hz0, hz1, hz2⟩ := info_parts Tryd.info5
  go_enter Tryd.func24, Tryd.ntmps24
  go_wp2_with (at_make; refine wpList_make_own _ rfl _ _ 50 rfl w.heap.size 5 i0 (.int .u8 0) 1 Tryd.underlying50 hi hz0 hz1 _ _ _ (2 * s.size) rfl rfl (by omega) (by rw [hz2]; omega) (by unfold maxLen; omega) (Nat.le_refl _) ?_)
  intro w0 hown0 hgrow0
  have hb0 : Below w.heap.size w w0 := (Below.refl _ _).grown hgrow0 (Nat.le_refl _) (fun k hk => by cases hk)
  clear hgrow0
  go_wp2
  go_loopw [3, 4, 11] (fun u _ i wr => ∃ j : Nat, j ≤ s.size ∧ i = .int .i64 j ∧ wr.ownsRow w.heap.size 5 1 u (hexOf (s.data.toList.take j)).length (byteCells (hexOf (s.data.toList.take j))) ∧ Below w.heap.size w wr)
    (fun _ _ i _ => s.size - (intOf i).toNat)
  case atStart => exact ⟨0, Nat.zero_le _, rfl, hown0, hb0⟩
  case round =>
    clear hown0 hb0
    obtain ⟨j, hj, rfl, hown, hb⟩ := hrel
    by_cases hlt : j < s.size
    · have hjl : j < s.data.toList.length := by rw [← Lib.size_eq]; exact hlt
      have HT : Hid _ := hexOf_take s.data.toList j hjl
      have hpl : (hexOf (s.data.toList.take j)).length ≤ 2000000 := by rw [hexOf_length, List.length_take]; omega
      have hix : ∀ w, (Instr.index 9 (.string s) (.int .i64 (j : Int))).run Tryd.prog w = .ok (.int .u8 (s.data.toList[j].toNat : Nat)) w := fun w => by
        rw [run_index_string w 9 s .i64 j Tryd.underlying9, dif_pos ⟨by omega, by omega⟩]
        rfl
      have hby := (s.data.toList[j]).toNat_lt
      have hd1 := index_hi (s.data.toList[j])
      have hd2 := index_lo (s.data.toList[j])
      have ha15 := and_lo (s.data.toList[j])
      unfold digitsS at hd1 hd2
      unfold hexTwo at HT
      generalize s.data.toList[j] = y at *
      go_wp2
      go_region_held3 (fun _ => True) (trivial)
        (first | (refine step_append_own _ rfl (.tmp 14) (.tmp 25) 50 rfl w.heap.size 5 i0 (.int .u8 0) 1 1 Tryd.underlying50 hi hz0 hz1 hz2 rfl (by decide) _ _ _ rfl (by exact (hown.alloc _).drew) ⟨wr.heap.size, 0, none⟩ 2 2 [.int .u8 ((hexDig (y.toNat / 16)).toNat : Nat), .int .u8 ((hexDig (y.toNat % 16)).toNat : Nat)] (by simp [Act.eval]) rfl (cell_list_drew _ _ _) (by intro u hu; simp at hu; rcases hu with rfl | rfl <;> rfl) (by unfold maxLen; omega) (by omega) (by have := hb.size; simp; omega) ?_; intro v' w4 hown' hgrow _))
      all_goals
        have Q := rel_app (l := [hexDig (y.toNat / 16), hexDig (y.toNat % 16)]) rfl rfl hown hb hb.size hown' ⟨hgrow.os, hgrow.tape, hgrow.output, hgrow.size, hgrow.block⟩
        rw [← HT.out] at Q
        clear hown' hgrow hown hd1 hd2 ha15 hix
        go_wp2
        go_roundw
        case rel => exact ⟨j + 1, by omega, by go_num, Q.1, Q.2⟩
        case measure => simp [intOf]; omega
    · obtain rfl : j = s.size := by omega
      rw [show s.data.toList.take s.size = s.data.toList from List.take_of_length_le (by rw [← Lib.size_eq]; exact Nat.le_refl _)] at hown
      have hsr := run_string_of_own hown
      go_wp2
      go_ret
      exact ⟨rfl, hb⟩

end Go.Proofs.YtgpdmboeompncaaDoor
