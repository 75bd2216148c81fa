/-
  StoreKeeps: numbers from 0 to n - 1, a number of one digit as text, the statement's own map.
-/
import Derived.Test.YtillnffhhmkgdaaDoorLsKit
import Derived.Maps.StringElems
namespace Go.Proofs.YtillnffhhmkgdaaDoor
open Go.RowKit Go.Lib Go.Maps Go.MapKept

def amg (x : Int) (n : Nat) : Nat := ((x.tmod n + n).tmod n).toNat
theorem amg_spec (x : Int) (n : Nat) (hn : 0 < n) : (x.tmod n + n).tmod n = (amg x n : Int) ∧ amg x n < n ∧ 0 ≤ x.tmod n + n ∧ x.tmod n + n < 2 * n := by
  have hp : (0 : Int) < n := by omega
  have h2 : -(n : Int) < x.tmod n ∧ x.tmod n < n := by
    rcases Int.le_total 0 x with h | h
    · have a := Int.tmod_nonneg (n : Int) h
      have b := Int.tmod_lt_of_pos x hp
      omega
    · have a := Int.tmod_nonneg (n : Int) (show 0 ≤ -x by omega)
      have b := Int.tmod_lt_of_pos (-x) hp
      rw [Int.neg_tmod] at a b
      omega
  have h3 : 0 ≤ x.tmod n + n := by omega
  have h4 : 0 ≤ (x.tmod n + n).tmod n := Int.tmod_nonneg _ h3
  have h5 := Int.tmod_lt_of_pos (x.tmod n + n) (show (0 : Int) < n by omega)
  refine ⟨by rw [amg]; omega, by rw [amg]; omega, h3, by omega⟩
set_option maxRecDepth 100000 in
theorem among_any (w : World) (x : Int) (n : Nat) (hn : 0 < n) (hn2 : n < 100000) : Calls Tryd.prog 4 #[.int .i64 x, .int .i64 n] w fun e w' => e = .returned (.int .i64 ((amg x n : Nat) : Int)) ∧ w' = w := by
  obtain ⟨h1, h2, h3, h4⟩ := amg_spec x n hn
  have hb := IntKind.i64.wrap
  generalize amg x n = r at *
  have h0 : ((n : Int) == 0) = false := by simp; omega
  have h0' : ¬ ((n : Int) = 0) := by omega
  have hm1 : ¬ ((n : Int) = -1) := by omega
  obtain ⟨y, hy⟩ : ∃ y, y = x.tmod n := ⟨_, rfl⟩
  rw [← hy] at h1 h3 h4
  have hy' := hy.symm
  clear hy hb
  go_enter Tryd.func4, Tryd.ntmps4
  go_wp2
  go_ret
  exact ⟨rfl, rfl⟩


def dgs : ByteArray := ⟨#[48, 49, 50, 51, 52, 53, 54, 55, 56, 57, 97, 98, 99, 100, 101, 102, 103, 104, 105, 106, 107, 108, 109, 110, 111, 112, 113, 114, 115, 116, 117, 118, 119, 120, 121, 122]⟩
/-- The name of a number. -/
def nmK (k : Nat) : ByteArray := ⟨#[110]⟩ ++ dgs.extract k (k + 1)
theorem nmK_all : ∀ k : Fin 9, (nmK k.1).size = 2 ∧ mayB (nmK k.1) = true ∧ (dgs.extract k.1 (k.1 + 1)).size = 1 := by decide +kernel
theorem nmK_ok {k : Nat} (h : k < 9) : (nmK k).size = 2 ∧ mayB (nmK k) = true ∧ (dgs.extract k (k + 1)).size = 1 := nmK_all ⟨k, h⟩

set_option maxRecDepth 100000 in
set_option maxHeartbeats 800000 in
theorem small_any (k : Nat) (hk : k < 9) (w : World) : Calls Tryd.prog 26 #[.int .i64 k] w fun e w' => e = .returned (.string (dgs.extract k (k + 1))) ∧ w' = w := by
  have h1 : (k : Int) < 10 := by omega
  have h2 : IntKind.i64.wrap ((k : Int) + 1) = (k : Int) + 1 := by simp [IntKind.wrap_i64]; omega
  have h3 : (0 : Int) ≤ (k : Int) := by omega
  have h4 : (k : Int) ≤ (k : Int) + 1 := by omega
  have h5 : (k : Int) + 1 ≤ 36 := by omega
  have h6 : ((k : Int) + 1).toNat = k + 1 := by omega
  go_enter Tryd.func26, Tryd.ntmps26
  go_wp2
  go_ret
  exact ⟨rfl, rfl⟩
set_option maxRecDepth 100000 in
set_option maxHeartbeats 800000 in
theorem formatInt_any (k : Nat) (hk : k < 9) (w : World) : Calls Tryd.prog 18 #[.int .i64 k, .int .i64 10] w fun e w' => e = .returned (.string (dgs.extract k (k + 1))) ∧ w' = w := by
  have HC : Hid _ := hide (small_any k hk w)
  have h1 : (k : Int) < 100 := by omega
  have h3 : (0 : Int) ≤ (k : Int) := by omega
  go_enter Tryd.func18, Tryd.ntmps18
  go_wp2_with fail
  refine HC.out.mono ?_
  rintro e w' ⟨rfl, rfl⟩
  go_wp2
  go_ret
  exact ⟨rfl, rfl⟩
set_option maxRecDepth 100000 in
set_option maxHeartbeats 800000 in
theorem itoa_any (k : Nat) (hk : k < 9) (w : World) : Calls Tryd.prog 7 #[.int .i64 k] w fun e w' => e = .returned (.string (dgs.extract k (k + 1))) ∧ w' = w := by
  have HC : Hid _ := hide (formatInt_any k hk w)
  have HI : Hid (Calls Tryd.prog 12 #[.int .i64 k] w fun e w' => e = .returned (.string (dgs.extract k (k + 1))) ∧ w' = w) := by
    show Calls _ _ _ _ _
    go_enter Tryd.func12, Tryd.ntmps12
    go_wp2_with fail
    refine HC.out.mono ?_
    rintro e w' ⟨rfl, rfl⟩
    go_wp2
    go_ret
    exact ⟨rfl, rfl⟩
  clear HC
  go_enter Tryd.func7, Tryd.ntmps7
  go_wp2_with fail
  refine HI.out.mono ?_
  rintro e w' ⟨rfl, rfl⟩
  go_wp2
  go_ret
  exact ⟨rfl, rfl⟩

def pE (d : ByteArray) : DataW Unit := .lit (.string d.data.toList)
theorem pE_inj {a b : ByteArray} (h : pE a = pE b) : a = b := by
  simp only [pE, DataW.lit.injEq, Lit.string.injEq] at h
  exact ByteArray.ext (Array.toList_inj.1 h)
/-- A map of texts at a block. -/
def MS (w : World) (b : Nat) (L : List OB) : Prop := w.ownsMap Tryd.prog 9 (plainElem Tryd.prog 9) b L.length (datL pE L)
theorem Tryd.zeroTx (w : World) : (zeroValue 9).run Tryd.prog w = .ok (.string ⟨#[]⟩) w := by
  have h : Tryd.t9.zero = some (.string ⟨#[]⟩) := by kernel_rfl
  simp [zeroValue, h, Result.andThen, go_sem]
section
variable {w w' : World} {b : Nat} {L : List OB}
theorem MS.lt (h : MS w b L) : b < w.heap.size := World.ownsMap.lt h
theorem MS.bel (h : MS w b L) (hb : Below w.heap.size w w') : MS w' b L := by
  have hl := h.lt
  obtain ⟨es, clock, hm, r⟩ := h
  exact ⟨es, clock, (hb.block b hl).trans hm, r⟩
theorem MS.gs (h : MS w b L) {p : Nat → Prop} (hg : Gs p w w') (hn : ¬ p b) : MS w' b L := by
  have hl := h.lt
  obtain ⟨es, clock, hm, r⟩ := h
  exact ⟨es, clock, (hg.block b hl hn).trans hm, r⟩
theorem MS.made (w : World) : MS (w.alloc (.map #[] 0)) w.heap.size [] := World.ownsMap_made w Tryd.prog 9 _
theorem MS.look (h : MS w b L) {n : ByteArray} (hn : n.size ≤ maxLen) : (Instr.lookup 29 (.map (some b)) (.string n) true).run Tryd.prog w = .ok (.tuple #[.string ((thr L n).getD ⟨#[]⟩), .bool (thr L n).isSome]) w := by
  obtain ⟨v, ps, hrun, hv⟩ := World.ownsMap.look_ok h (string_keyed Tryd.underlying9) Tryd.underlying29 (Tryd.zeroTx w) (zd := pE ⟨#[]⟩) (zp := []) (plainElem_string Tryd.underlying9 (Nat.zero_le _)) (WideMaps.keyOf_string_mk Tryd.underlying9 hn)
  rw [dat_has] at hrun
  rw [dat_at] at hv
  obtain ⟨s, rfl, hz, _⟩ := plainElem_string_inv Tryd.underlying9 hv
  have e : s = (thr L n).getD ⟨#[]⟩ := by
    have := congrArg Prod.fst hz
    cases ht : thr L n with
    | none => rw [ht] at this; exact (pE_inj this).symm
    | some d => rw [ht] at this; exact (pE_inj this).symm
  rw [← e]
  exact hrun
theorem MS.put (h : MS w b L) (hL : Ris L) {n d : ByteArray} (hn : n.size ≤ maxLen) (hd : d.size ≤ maxLen) (hl : L.length ≤ 1000000) :
    ∃ w', (Instr.mapUpdate 29 (.map (some b)) (.string n) (.string d)).run Tryd.prog w = .ok () w' ∧ MS w' b (layL L n d) ∧ w.grownBy w' (some b) := by
  obtain ⟨w', hrun, ho, hg⟩ := World.ownsMap.store h (string_keyed Tryd.underlying9) Tryd.underlying29 (by unfold maxLen; omega) (WideMaps.keyOf_string_mk Tryd.underlying9 hn) (plainElem_string Tryd.underlying9 hd)
  rw [show (datL pE L).put (.string n.data.toList) (.lit (.string d.data.toList)) = datL pE (layL L n d) from dat_put pE hL n d] at ho
  have := tight ho
  rw [dat_size] at this
  exact ⟨w', hrun, this, hg.grown⟩
theorem MS.del (h : MS w b L) (hL : Ris L) {n : ByteArray} (hn : n.size ≤ maxLen) (ty : TypeId) :
    ∃ w', (Builtin.delete_ #[29, 9] ty #[.map (some b), .string n]).run Tryd.prog w = .ok (.tuple #[]) w' ∧ MS w' b (delL L n) ∧ w.grownBy w' (some b) := by
  obtain ⟨w', hrun, ho, hg⟩ := World.ownsMap.drop h (string_keyed Tryd.underlying9) Tryd.underlying29 (WideMaps.keyOf_string_mk Tryd.underlying9 hn) ty
  rw [dat_del pE hL] at ho
  have := tight ho
  rw [dat_size] at this
  exact ⟨w', hrun, this, hg.grown⟩
theorem MS.len (h : MS w b L) (ty : TypeId) : (Builtin.len_ #[29] ty #[.map (some b)]).run Tryd.prog w = .ok (.int .i64 ((L.length : Nat) : Int)) w := by
  have := World.ownsMap.len h Tryd.underlying29 ty
  rw [dat_size] at this
  exact this
end

/-! ### names of two bytes -/
theorem begins_same {b n : ByteArray} (h : b.size = n.size) : begins b n = decide (n = b) := by
  rw [begins, decide_eq_true (show b.size ≤ n.size by omega), Bool.true_and]
  have e : n.extract 0 b.size = n := by rw [h]; apply ByteArray.ext; simp
  rw [e]
theorem names_two {L : List OB} (hL : Ris L) {n : ByteArray} (h : ∀ p ∈ L, p.n.size = n.size) : (namesL L n).length = if (thr L n).isSome = true then 1 else 0 := by
  induction L with
  | nil => rfl
  | cons p r ih =>
    rw [names_cons, begins_same (h p List.mem_cons_self).symm, thr]
    by_cases e : p.n = n
    · rw [decide_eq_true e, if_pos rfl, if_pos e]
      have h0 := ih (ris_tail hL) (fun q hq => h q (List.mem_cons_of_mem _ hq))
      rw [thr_ahead hL (.inr e.symm)] at h0
      rw [h0]
      rfl
    · rw [decide_eq_false e, if_neg e, ih (ris_tail hL) (fun q hq => h q (List.mem_cons_of_mem _ hq))]
      simp
theorem begins_none (n : ByteArray) : begins ⟨#[]⟩ n = true := by
  rw [begins, decide_eq_true (show (⟨#[]⟩ : ByteArray).size ≤ n.size from Nat.zero_le _), Bool.true_and]
  refine decide_eq_true ?_
  show n.extract 0 0 = ⟨#[]⟩
  refine ByteArray.ext ?_
  rw [ByteArray.data_extract]
  exact Array.eq_empty_of_size_eq_zero (by simp)
theorem names_whole (L : List OB) : (namesL L ⟨#[]⟩).length = L.length := by
  induction L with
  | nil => rfl
  | cons p r ih => rw [names_cons, begins_none, if_pos rfl, ih, List.length_cons]; omega
end Go.Proofs.YtillnffhhmkgdaaDoor
