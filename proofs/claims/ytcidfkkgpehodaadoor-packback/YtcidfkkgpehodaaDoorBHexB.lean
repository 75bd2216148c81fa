/-
  ShBack: texts of earlier layers, laid over this program.
-/
import Derived.Test.YtcidfkkgpehodaaDoorBHex
import Derived.Laws.IdiomStrings
namespace Go.Proofs.YtcidfkkgpehodaaDoor.Zq.Sh
open Go.RowKit Go.Lib

def byteOf (n : Nat) : UInt8 := n.toUInt8
set_option maxRecDepth 100000 in
theorem digV_hexDig : ∀ n : Fin 16, digV (hexDig n.val).toNat = n.val := by decide +kernel
set_option maxRecDepth 100000 in
theorem hexDig_digV : ∀ c : Fin 256, digV c.val ≠ 16 → hexDig (digV c.val) = byteOf c.val := by decide +kernel
theorem hexDig_dig (c : UInt8) (h : digV c.toNat ≠ 16) : hexDig (digV c.toNat) = c := by
  rw [hexDig_digV ⟨c.toNat, c.toNat_lt⟩ h]
  simp [byteOf]
theorem hi_dig (b : UInt8) : digV (hexDig (b.toNat / 16)).toNat = b.toNat / 16 := by
  have h := b.toNat_lt
  exact digV_hexDig ⟨b.toNat / 16, by omega⟩
theorem lo_dig (b : UInt8) : digV (hexDig (b.toNat % 16)).toNat = b.toNat % 16 := digV_hexDig ⟨b.toNat % 16, by omega⟩

theorem unhex_hex : ∀ l : List UInt8, unhexL (hexOf l) = some l
  | [] => rfl
  | b :: l => by
    have h := b.toNat_lt
    show unhexL (hexDig (b.toNat / 16) :: hexDig (b.toNat % 16) :: hexOf l) = _
    rw [unhexL, hi_dig, lo_dig, if_neg (by omega), unhex_hex l]
    simp only [Option.map_some, Option.some.injEq, List.cons.injEq, and_true]
    rw [show b.toNat / 16 * 16 + b.toNat % 16 = b.toNat by omega]
    simp

theorem hexOf_digits : ∀ (l : List UInt8), ∀ x ∈ hexOf l, digV x.toNat ≠ 16
  | [], x, h => by cases h
  | b :: l, x, h => by
    have hb := b.toNat_lt
    rcases List.mem_append.1 (show x ∈ hexTwo b ++ hexOf l from h) with h | h
    · rcases List.mem_cons.1 h with rfl | h
      · rw [hi_dig]; omega
      · rw [List.mem_singleton.1 h, lo_dig]; omega
    · exact hexOf_digits l x h

theorem two_back (a b : UInt8) (ha : digV a.toNat ≠ 16) (hb : digV b.toNat ≠ 16) : hexTwo (digV a.toNat * 16 + digV b.toNat).toUInt8 = [a, b] := by
  have h1 := digV_lt _ ha
  have h2 := digV_lt _ hb
  have e : (digV a.toNat * 16 + digV b.toNat).toUInt8.toNat = digV a.toNat * 16 + digV b.toNat := toUInt8_toNat (by omega)
  rw [hexTwo, e, show (digV a.toNat * 16 + digV b.toNat) / 16 = digV a.toNat by omega, show (digV a.toNat * 16 + digV b.toNat) % 16 = digV b.toNat by omega, hexDig_dig a ha, hexDig_dig b hb]

theorem unhex_good : ∀ (n : Nat) (X : List UInt8), X.length = 2 * n → (∀ x ∈ X, digV x.toNat ≠ 16) → ∃ T, unhexL X = some T ∧ hexOf T = X
  | 0, X, h, _ => by
    obtain rfl := List.eq_nil_of_length_eq_zero (by omega : X.length = 0)
    exact ⟨[], rfl, rfl⟩
  | n + 1, [], h, _ => by simp at h
  | n + 1, [_], h, _ => by simp at h; omega
  | n + 1, a :: b :: r, h, hd => by
    have ha := hd a (by simp)
    have hb := hd b (by simp)
    obtain ⟨T, hT, hX⟩ := unhex_good n r (by simp at h; omega) (fun x hx => hd x (by simp [hx]))
    refine ⟨_, by rw [unhexL, if_neg (by omega), hT]; rfl, ?_⟩
    show hexTwo _ ++ hexOf T = _
    rw [two_back a b ha hb, hX]
    rfl
theorem unhex_bad : ∀ (n : Nat) (X : List UInt8), X.length = 2 * n → (∃ x ∈ X, digV x.toNat = 16) → unhexL X = none
  | 0, X, h, ⟨x, hx, _⟩ => by
    obtain rfl := List.eq_nil_of_length_eq_zero (by omega : X.length = 0)
    cases hx
  | n + 1, [], h, _ => by simp at h
  | n + 1, [_], h, _ => by simp at h; omega
  | n + 1, a :: b :: r, h, ⟨x, hx, hd⟩ => by
    rw [unhexL]
    by_cases hab : digV a.toNat = 16 ∨ digV b.toNat = 16
    · rw [if_pos hab]
    · rw [if_neg hab]
      have hr : x ∈ r := by
        rcases List.mem_cons.1 hx with rfl | hx
        · exact absurd (.inl hd) hab
        · rcases List.mem_cons.1 hx with rfl | hx
          · exact absurd (.inr hd) hab
          · exact hx
      rw [unhex_bad n r (by simp at h; omega) ⟨x, hr, hd⟩]
      rfl

/-! ### A row of bytes that was made of a text -/
def BRow (w : World) (b : Nat) (l : List UInt8) : Prop :=
  ∃ cs fr, w.heap[b]? = some (.cells cs 5 fr) ∧ l.length ≤ fr.1 ∧ ∀ (j : Nat) (h : j < l.length), cs[j]? = some (.int .u8 (l[j].toNat : Nat))
section
variable {w w' : World} {b : Nat} {l : List UInt8}
theorem BRow.lt (h : BRow w b l) : b < w.heap.size := by
  obtain ⟨_, _, h, _⟩ := h
  exact lt_of_block h
theorem BRow.cell (h : BRow w b l) (j : Nat) (hj : j < l.length) : w.cell? ⟨b, j, none⟩ = some (.int .u8 (l[j].toNat : Nat)) := by
  obtain ⟨cs, fr, hb, _, hc⟩ := h
  rw [cell_of_row w b j cs 5 fr hb, hc j hj]
theorem BRow.free (h : BRow w b l) (j : Nat) (hj : j < l.length) : w.frozen? ⟨b, j, none⟩ = false := by
  obtain ⟨cs, fr, hb, hf, _⟩ := h
  simp [World.frozen?, hb]
  omega
theorem BRow.of_block (h : BRow w b l) (hb : w'.heap[b]? = w.heap[b]?) : BRow w' b l := by
  obtain ⟨cs, fr, h1, h2⟩ := h
  exact ⟨cs, fr, hb.trans h1, h2⟩
theorem BRow.below (h : BRow w b l) {B : Nat} (hb : Below B w w') (hB : b < B) : BRow w' b l := h.of_block (hb.block b hB)
theorem BRow.set (h : BRow w b l) (k : Nat) (c : UInt8) (hk : k < l.length) : BRow (w.setCell ⟨b, k, none⟩ (.int .u8 (c.toNat : Nat))) b (l.set k c) := by
  obtain ⟨cs, fr, hb, hf, hc⟩ := h
  refine ⟨cs.setIfInBounds k (.int .u8 (c.toNat : Nat)), fr, ?_, by rw [List.length_set]; exact hf, fun j hj => ?_⟩
  · rw [setCell_eq_setRow w b k _ 5 fr _ hb, setRow_heap w b _ _ 5 fr hb]
  · rw [List.length_set] at hj
    by_cases e : k = j
    · subst e
      have hsz : k < cs.size := (Array.getElem?_eq_some_iff.1 (hc k hk)).1
      simp [hsz]
    · rw [Array.getElem?_setIfInBounds, if_neg e, hc j hj, List.getElem_set_ne e]
theorem BRow.str (h : BRow w b l) (cap : Nat) : (convert 58 9 (.slice (some ⟨b, 0, none⟩) l.length cap)).run Tryd.prog w = .ok (.string (strOf l)) w :=
  run_convert_bytes_back w 58 9 5 ⟨b, 0, none⟩ cap l Tryd.underlying58 Tryd.underlying5 Tryd.underlying9 (fun j hj => by rw [Addr.add_mid, Nat.zero_add]; exact h.cell j hj)
end

theorem bytes_new (w : World) (l : List UInt8) : ∃ cap w', (convert 9 58 (.string (strOf l))).run Tryd.prog w = .ok (.slice (some ⟨w.heap.size, 0, none⟩) l.length cap) w' ∧ BRow w' w.heap.size l ∧ Below w.heap.size w w' := by
  have h := run_bytes_of_string w 9 58 5 (strOf l) Tryd.underlying9 Tryd.underlying58 Tryd.underlying5
  rw [strOf_size] at h
  refine ⟨_, _, h, ⟨_, _, heap_alloc_new w.drew _, ?_, fun j hj => ?_⟩, (Below.refl _ _).drew.alloc (Nat.le_refl _) _⟩
  · simp [bytesRow, strOf]
  · rw [bytesRow_at _ _ j (by simpa [strOf] using hj)]
    simp [strOf]

end Go.Proofs.YtcidfkkgpehodaaDoor.Zq.Sh

