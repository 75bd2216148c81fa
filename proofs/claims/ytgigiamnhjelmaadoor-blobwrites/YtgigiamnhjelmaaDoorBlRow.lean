/-
  Blob: a row of bytes that a text was turned into; one of them turned, it is another text.
-/
import Derived.Test.YtgigiamnhjelmaaDoorBlMath2
import Derived.Laws.IdiomStrings
namespace Go.Proofs.YtgigiamnhjelmaaDoor.Bl
open Go.RowKit Go.Lib
open Go.Proofs.YtgigiamnhjelmaaDoor.Zq.Sh (strOf heap_set_list)
def BR (w : World) (g : Nat) (L : List UInt8) : Prop := ∃ (Z : List Value) (fr : Nat × Nat), w.heap[g]? = some (.cells (byteCells L ++ Z).toArray 5 fr) ∧ ∀ j, j < L.length → w.frozen? ⟨g, j, none⟩ = false
section
variable {w w' : World} {g : Nat} {L : List UInt8}
theorem BR.lt (h : BR w g L) : g < w.heap.size := by obtain ⟨_, _, h, _⟩ := h; exact lt_of_block h
theorem BR.cell (h : BR w g L) (j : Nat) (x : UInt8) (hx : L[j]? = some x) : w.cell? ⟨g, j, none⟩ = some (.int .u8 ((x.toNat : Nat) : Int)) := by
  obtain ⟨Z, fr, h, _⟩ := h
  have hj := (List.getElem?_eq_some_iff.1 hx).1
  rw [cell_of_row w g j _ _ _ h, List.getElem?_toArray, List.getElem?_append_left (by rw [byteCells_length]; exact hj), byteCells, List.getElem?_map, hx]
  rfl
theorem BR.free (h : BR w g L) (j : Nat) (hj : j < L.length) : w.frozen? ⟨g, j, none⟩ = false := by obtain ⟨_, _, _, h⟩ := h; exact h j hj
theorem BR.of_block (h : BR w g L) (hb : w'.heap[g]? = w.heap[g]?) : BR w' g L := by
  obtain ⟨Z, fr, h1, h2⟩ := h
  exact ⟨Z, fr, hb.trans h1, fun j hj => (World.frozen?_of_block (a := ⟨g, j, none⟩) hb).trans (h2 j hj)⟩
theorem BR.drewN (h : BR w g L) (n : Nat) : BR (w.drewN n) g L := h
theorem BR.drew (h : BR w g L) : BR w.drew g L := h
theorem BR.set (h : BR w g L) (j : Nat) (hj : j < L.length) (x : UInt8) : BR (w.setCell ⟨g, j, none⟩ (.int .u8 ((x.toNat : Nat) : Int))) g (L.set j x) := by
  obtain ⟨Z, fr, h1, h2⟩ := h
  refine ⟨Z, fr, ?_, fun k hk => ?_⟩
  · rw [heap_set_list _ h1, List.set_append_left _ _ (by rw [byteCells_length]; exact hj), byteCells, byteCells, List.map_set]
  · have := h2 k (by simpa using hk)
    simp [this]
theorem BR.str (h : BR w g L) (cap : Nat) : (convert 39 9 (.slice (some ⟨g, 0, none⟩) L.length cap)).run Tryd.prog w = .ok (.string (strOf L)) w := by
  refine run_convert_bytes_back w 39 9 5 ⟨g, 0, none⟩ cap L Tryd.underlying39 Tryd.underlying5 Tryd.underlying9 (fun j hj => ?_)
  rw [Addr.add_mid, Nat.zero_add]
  exact h.cell j _ (List.getElem?_eq_getElem hj)
theorem BR.str_all (h : BR w g L) (cap n : Nat) (hn : n = L.length) : (convert 39 9 (.slice (some ⟨g, 0, none⟩) n cap)).run Tryd.prog w = .ok (.string (strOf L)) w := by subst hn; exact h.str cap
/-- A row that was made. -/
theorem BR.turned (s : ByteArray) (cap : Nat) (fr : Nat × Nat) (hs : s.size ≤ cap) (hfr : fr.1 = (bytesRow s cap).size) (h : w.heap[g]? = some (.cells (bytesRow s cap) 5 fr)) : BR w g s.data.toList := by
  have e : bytesRow s cap = (byteCells s.data.toList ++ List.replicate (cap - s.size) (Value.int .u8 0)).toArray := by
    apply Array.toList_inj.1
    simp [bytesRow, byteCells]
  have hz : (bytesRow s cap).size = cap := by simp [bytesRow]; omega
  refine ⟨List.replicate (cap - s.size) (.int .u8 0), fr, by rw [← e]; exact h, fun j hj => ?_⟩
  have hj' : j < cap := by rw [← Lib.size_eq] at hj; omega
  simp [World.frozen?, h]
  intro h1
  omega
end
end Go.Proofs.YtgigiamnhjelmaaDoor.Bl
namespace Go.Proofs.YtgigiamnhjelmaaDoor
open Go.RowKit Go.Lib
/-- A byte of a list, with its lowest bit turned. -/
def flp (L : List UInt8) (j : Nat) : List UInt8 := L.set j (L.getD j 0 ^^^ 1)
theorem xor_ne (x : UInt8) : ¬ x ^^^ 1 = x := fun e => by
  have h : x ^^^ (x ^^^ 1) = 0 := by rw [e, UInt8.xor_self]
  rw [← UInt8.xor_assoc, UInt8.xor_self, UInt8.zero_xor] at h
  exact absurd h (by decide)
theorem flp_ne {L : List UInt8} {j : Nat} (h : j < L.length) : ¬ flp L j = L := fun e => by
  have h1 := congrArg (fun l => l.getD j 0) e
  simp only [flp] at h1
  rw [List.getD_eq_getElem?_getD, List.getElem?_set_self h, Option.getD_some] at h1
  exact xor_ne _ h1
theorem flp_len (L : List UInt8) (j : Nat) : (flp L j).length = L.length := List.length_set
/-- Its id, with a bit turned, is another one. -/
theorem id_flp {k : Nat} {t : ByteArray} {j : Nat} (h : j < 32) : ¬ idB k t = Zq.Sh.strOf (flp (idB k t).data.toList j) := fun e => by
  have h1 : (idB k t).data.toList.length = 32 := by rw [idB, Zq.Sh.strOf, Zq.Sh.digest_length]
  have h2 := congrArg (fun a : ByteArray => a.data.toList) e
  simp only [Zq.Sh.strOf] at h2
  exact flp_ne (by omega) h2.symm
theorem id_size (k : Nat) (t : ByteArray) : (idB k t).size = 32 := by rw [idB, Zq.Sh.strOf_size, Zq.Sh.digest_length]
theorem xor_lit : ∀ a : Fin 256, bits .xor .u8 (a.val : Int) 1 = (((UInt8.ofNat a.val) ^^^ 1).toNat : Int) := by decide +kernel
theorem xor_one (c : UInt8) : bits .xor .u8 (c.toNat : Int) 1 = ((c ^^^ 1).toNat : Int) := by
  have h := xor_lit ⟨c.toNat, c.toNat_lt⟩
  rw [UInt8.ofNat_toNat] at h
  exact h
theorem alloc_sz (w : World) (o : Obj) : w.heap.size + 1 = (w.alloc o).heap.size := (Array.size_push o).symm
theorem two_cells {w : World} {b : Nat} {v0 v1 : Value} {T : TypeId} (h : w.heap[b]? = some (.cells #[v0, v1] T (0, 0))) : w.cell? ⟨b, 0 + 0, none⟩ = some v0 ∧ w.cell? ⟨b, 0 + 1, none⟩ = some v1 := by simp [World.cell?, h]
/-- Two texts, made as a list. -/
theorem pieces_two (w : World) (a b : ByteArray) (T : TypeId) {n : Nat} (hn : n = w.heap.size) : Zq.Sh.Pieces (w.alloc (.cells #[.string a, .string b] T)) (.slice (some ⟨n, 0, none⟩) 2 2) [a, b] := by
  subst hn
  have h := heap_alloc_new w (.cells #[.string a, .string b] T)
  refine ⟨_, _, rfl, .inr ⟨w.heap.size, 0, rfl, lt_of_block h, fun k hk => ?_⟩⟩
  have hk2 : k = 0 ∨ k = 1 := by simp at hk; omega
  rcases hk2 with rfl | rfl
  · exact (two_cells h).1
  · exact (two_cells h).2
end Go.Proofs.YtgigiamnhjelmaaDoor
