/-
  Texts as rows of bytes: sums, products, mixtures in plain mathematics; a row of bytes as it lies in memory.
-/
import Derived.Test.YtfjkdmiaagalhaaGreatKit
import Derived.Laws.IdiomStrings
import Derived.OwnWalk
namespace Go.Proofs.YtfjkdmiaagalhaaGreat.Fd
open Go.RowKit Go.Lib

/-! ### Plain mathematics -/
def strOf (l : List UInt8) : ByteArray := ⟨l.toArray⟩
theorem strOf_size (l : List UInt8) : (strOf l).size = l.length := by simp [strOf, ByteArray.size]
theorem strOf_toList (l : List UInt8) : (strOf l).data.toList = l := by simp [strOf]
theorem strOf_self (s : ByteArray) : strOf s.data.toList = s := by simp [strOf]

def xorL (a b : List UInt8) : List UInt8 := List.zipWith (· ^^^ ·) a b
def mulB (c : Nat) (x : UInt8) : UInt8 := (prod x.toNat c).toUInt8
def byL (s : List UInt8) (c : Nat) : List UInt8 := s.map (mulB c)
theorem mulB_toNat (c : Nat) (x : UInt8) : (mulB c x).toNat = prod x.toNat c := by
  rw [mulB, Nat.toUInt8, UInt8.toNat_ofNat']
  exact Nat.mod_eq_of_lt (prod_lt _ _)
theorem xorL_length (a b : List UInt8) (h : a.length = b.length) : (xorL a b).length = a.length := by simp [xorL, h]
theorem byL_length (s : List UInt8) (c : Nat) : (byL s c).length = s.length := by simp [byL]
theorem xor_zeroL (s : List UInt8) : xorL (List.replicate s.length 0) s = s := by
  induction s with
  | nil => rfl
  | cons x s ih => rw [List.length_cons, List.replicate_succ, xorL, List.zipWith_cons_cons, UInt8.zero_xor]; exact congrArg _ ih
theorem mulB_xor (c : Nat) (hc : c < 256) (x y : UInt8) : mulB c (x ^^^ y) = mulB c x ^^^ mulB c y := by
  apply UInt8.toNat_inj.1
  rw [UInt8.toNat_xor, mulB_toNat, mulB_toNat, mulB_toNat, UInt8.toNat_xor, xor_prod _ _ c x.toNat_lt y.toNat_lt hc]
theorem mulB_mulB (c d : Nat) (x : UInt8) : mulB c (mulB d x) = mulB d (mulB c x) := by
  apply UInt8.toNat_inj.1
  rw [mulB_toNat, mulB_toNat, mulB_toNat, mulB_toNat, prod_assoc, prod_assoc, prod_comm d c]
theorem byL_xor (c : Nat) (hc : c < 256) (a b : List UInt8) : byL (xorL a b) c = xorL (byL a c) (byL b c) := by
  rw [byL, byL, byL, xorL, xorL, List.map_zipWith, List.zipWith_map]
  congr 1
  funext x y
  exact mulB_xor c hc x y
theorem byL_byL (c d : Nat) (a : List UInt8) : byL (byL a c) d = byL (byL a d) c := by
  simp only [byL, List.map_map]
  congr 1
  funext x
  exact mulB_mulB d c x

/-- What a row holds when its first j members are done. -/
def st (R L : List UInt8) (j : Nat) : List UInt8 := R.take j ++ L.drop j
theorem st_zero (R L : List UInt8) : st R L 0 = L := by simp [st]
theorem st_all (R L : List UInt8) (h : R.length = L.length) : st R L L.length = R := by simp [st, ← h]
theorem st_length (R L : List UInt8) (h : R.length = L.length) (j : Nat) : (st R L j).length = L.length := by simp [st]; omega
theorem st_get (R L : List UInt8) (h : R.length = L.length) (j : Nat) (hj : j < L.length) : (st R L j)[j]? = some L[j] := by
  rw [st, List.getElem?_append_right (by rw [List.length_take]; omega), List.length_take, Nat.min_eq_left (by omega), Nat.sub_self, List.getElem?_drop, Nat.add_zero, List.getElem?_eq_getElem hj]
theorem st_set (R L : List UInt8) (h : R.length = L.length) (j : Nat) (hj : j < L.length) : (st R L j).set j (R[j]'(by omega)) = st R L (j + 1) := by
  rw [st, st, List.set_append_right _ _ (by rw [List.length_take]; omega), List.length_take, Nat.min_eq_left (by omega), Nat.sub_self, List.drop_eq_getElem_cons hj, List.set_cons_zero, List.take_succ_eq_append_getElem (by omega), List.append_assoc]
  rfl

theorem get_some {α : Type} (l : List α) (j : Nat) (h : j < l.length) : ∃ x, l[j]? = some x := ⟨_, List.getElem?_eq_getElem h⟩
theorem st_get2 {R L : List UInt8} (h : R.length = L.length) {j : Nat} {x : UInt8} (hx : L[j]? = some x) : (st R L j)[j]? = some x := by
  obtain ⟨hj, rfl⟩ := List.getElem?_eq_some_iff.1 hx
  exact st_get R L h j hj
theorem st_set2 {R L : List UInt8} (h : R.length = L.length) {j : Nat} {z : UInt8} (hz : R[j]? = some z) : (st R L j).set j z = st R L (j + 1) := by
  obtain ⟨hj, rfl⟩ := List.getElem?_eq_some_iff.1 hz
  exact st_set R L h j (by omega)
theorem xorL_get2 {a b : List UInt8} {j : Nat} {x y : UInt8} (hx : a[j]? = some x) (hy : b[j]? = some y) : (xorL a b)[j]? = some (x ^^^ y) := by
  rw [xorL, List.getElem?_zipWith, hx, hy]
theorem byL_get2 {s : List UInt8} (c : Nat) {j : Nat} {y : UInt8} (hy : s[j]? = some y) : (byL s c)[j]? = some (mulB c y) := by
  rw [byL, List.getElem?_map, hy]
  rfl

/-! ### A row of bytes -/
def BR (w : World) (g : Nat) (L : List UInt8) : Prop := ∃ (Z : List Value) (fr : Nat × Nat), w.heap[g]? = some (.cells (byteCells L ++ Z).toArray 5 fr) ∧ ∀ j, j < L.length → w.frozen? ⟨g, j, none⟩ = false
section
variable {w w' : World} {g : Nat} {L : List UInt8}
theorem BR.lt (h : BR w g L) : g < w.heap.size := by obtain ⟨_, _, h, _⟩ := h; exact lt_of_block h
theorem BR.cell (h : BR w g L) (j : Nat) (x : UInt8) (hx : L[j]? = some x) : w.cell? ⟨g, j, none⟩ = some (.int .u8 ((x.toNat : Nat) : Int)) := by
  obtain ⟨Z, fr, h, _⟩ := h
  have hj := (List.getElem?_eq_some_iff.1 hx).1
  rw [cell_of_row w g j _ _ _ h, List.getElem?_toArray, List.getElem?_append_left (by rw [byteCells_length]; exact hj), byteCells, List.getElem?_map, hx]
  rfl
theorem BR.free (h : BR w g L) (j : Nat) (hj : j < L.length) : w.frozen? ⟨g, j, none⟩ = false := by obtain ⟨_, _, _, h⟩ := h; exact h j hj
theorem BR.of_block (h : BR w g L) (hb : w'.heap[g]? = w.heap[g]?) : BR w' g L := by
  obtain ⟨Z, fr, h1, h2⟩ := h
  exact ⟨Z, fr, hb.trans h1, fun j hj => (World.frozen?_of_block (a := ⟨g, j, none⟩) hb).trans (h2 j hj)⟩
theorem BR.drewN (h : BR w g L) (n : Nat) : BR (w.drewN n) g L := h
theorem BR.drew (h : BR w g L) : BR w.drew g L := h
theorem BR.set (h : BR w g L) (j : Nat) (hj : j < L.length) (x : UInt8) : BR (w.setCell ⟨g, j, none⟩ (.int .u8 ((x.toNat : Nat) : Int))) g (L.set j x) := by
  obtain ⟨Z, fr, h1, h2⟩ := h
  refine ⟨Z, fr, ?_, fun k hk => ?_⟩
  · rw [heap_set_list _ h1, List.set_append_left _ _ (by rw [byteCells_length]; exact hj), byteCells, byteCells, List.map_set]
  · have := h2 k (by simpa using hk)
    simp [this]
theorem BR.str (h : BR w g L) (cap : Nat) : (convert 105 9 (.slice (some ⟨g, 0, none⟩) L.length cap)).run Tryz.prog w = .ok (.string (strOf L)) w := by
  refine run_convert_bytes_back w 105 9 5 ⟨g, 0, none⟩ cap L Tryz.underlying105 Tryz.underlying5 Tryz.underlying9 (fun j hj => ?_)
  rw [Addr.add_mid, Nat.zero_add]
  exact h.cell j _ (List.getElem?_eq_getElem hj)
theorem BR.str_all (h : BR w g L) (cap n : Nat) (hn : n = L.length) : (convert 105 9 (.slice (some ⟨g, 0, none⟩) n cap)).run Tryz.prog w = .ok (.string (strOf L)) w := by subst hn; exact h.str cap
/-- A row that was made. -/
theorem BR.made {B n : Nat} (h : w.ownsRow B 5 1 (.slice (some ⟨g, 0, none⟩) n n) n (madeCells #[.int .u8 0] n).toList) : BR w g (List.replicate n 0) := by
  obtain ⟨h1, h2 | ⟨g', cap, cur, hv, hb, hg, _, _, hs, ht⟩⟩ := h
  · simp at h2
  · simp only [Value.slice.injEq, Option.some.injEq, Addr.mk.injEq, and_true, true_and] at hv
    obtain ⟨rfl, rfl⟩ := hv
    have e : cur.toList = byteCells (List.replicate n 0) := by
      rw [List.take_of_length_le (by simp [hs]), toList_madeCells_one] at ht
      rw [ht]
      simp [byteCells]
    refine ⟨[], (0, 0), ?_, fun j _ => frozen_of_row w g j _ _ hg⟩
    rw [List.append_nil, ← e]
    simpa using hg
/-- A row that a text was turned into. -/
theorem BR.turned (s : ByteArray) (cap : Nat) (fr : Nat × Nat) (hs : s.size ≤ cap) (hfr : fr.1 = (bytesRow s cap).size) (h : w.heap[g]? = some (.cells (bytesRow s cap) 5 fr)) : BR w g s.data.toList := by
  have e : bytesRow s cap = (byteCells s.data.toList ++ List.replicate (cap - s.size) (Value.int .u8 0)).toArray := by
    apply Array.toList_inj.1
    simp [bytesRow, byteCells]
  have hz : (bytesRow s cap).size = cap := by simp [bytesRow]; omega
  refine ⟨List.replicate (cap - s.size) (.int .u8 0), fr, by rw [← e]; exact h, fun j hj => ?_⟩
  have hj' : j < cap := by rw [← Lib.size_eq] at hj; omega
  simp [World.frozen?, h]
  intro h1
  omega
end
end Go.Proofs.YtfjkdmiaagalhaaGreat.Fd
