/-
  SdGOpen: texts of earlier layers, laid over this program.
-/
import Derived.Test.YtklaeocnimkboaaGreatDoorSdArr
import Derived.Test.YtklaeocnimkboaaGreatDoorSdList
import Derived.Deep.SlicePairs
namespace Go.Proofs.YtklaeocnimkboaaGreatDoor
open Go.ChangeShapes Go.WideShapes Go.ChangeAt Go.RowKit Go.Lib

theorem Tryz.cI : Tryz.prog.cellsOf 3 = 1 := by kernel_rfl
theorem Tryz.cS : Tryz.prog.cellsOf 9 = 1 := by kernel_rfl
theorem add_plain (b off j : Nat) : (⟨b, off, none⟩ : Addr).add j = ⟨b, off + j, none⟩ := by
  unfold Addr.add; split <;> simp_all
instance : Inhabited SX := ⟨⟨0, 0, 0, 0, ⟨#[]⟩, ⟨#[]⟩⟩⟩
set_option maxRecDepth 100000 in
theorem shards_of {H : Type} {enc : TypeId × Value → H} {w : World} {a : Option Addr} {len cap : Nat} {d : DataW H} {ps : List MemPlace}
    (h : DataW.Trod enc Tryz.prog w 0 (fun _ => true) true 30 (.slice a len cap) d ps) : ∃ X, LX w (.slice a len cap) len X ∧ ∀ i, i < len → (X i).m ≤ 9223372036854775807 := by
  obtain ⟨fuel, hf⟩ := h
  rcases Go.Deep.open_slice Tryz.underlying30 hf with ⟨hcs, _⟩ | ⟨x, l, c, m, n, D, Pl, hcs, _, hlc, hcm, hm, _, hx⟩
  · simp [Value.cells] at hcs
    obtain ⟨_, rfl, _⟩ := hcs
    exact ⟨fun _ => ⟨0, 0, 0, 0, ⟨#[]⟩, ⟨#[]⟩⟩, ⟨_, _, rfl, .inl rfl⟩, fun i hi => absurd hi (Nat.not_lt_zero i)⟩
  · simp [Value.cells] at hcs
    obtain ⟨rfl, rfl, rfl⟩ := hcs
    simp only [if_true] at hm
    subst hm
    by_cases h0 : len = 0
    · subst h0
      exact ⟨fun _ => ⟨0, 0, 0, 0, ⟨#[]⟩, ⟨#[]⟩⟩, ⟨_, _, rfl, .inl rfl⟩, fun i hi => absurd hi (Nat.not_lt_zero i)⟩
    have hall : ∀ i, i < len → ∃ X : SX, w.cell? (x.add (i * 6)) = some (.int .i64 X.k) ∧ w.cell? (x.add (i * 6 + 1)) = some (.int .i64 X.m) ∧ w.cell? (x.add (i * 6 + 2)) = some (.int .i64 X.i) ∧ w.cell? (x.add (i * 6 + 3)) = some (.int .i64 X.long) ∧ w.cell? (x.add (i * 6 + 4)) = some (.string X.id) ∧ w.cell? (x.add (i * 6 + 5)) = some (.string X.data) ∧ X.m ≤ 9223372036854775807 := by
      intro i hi
      obtain ⟨cs', h1, h2⟩ := hx i (by omega)
      rw [Tryz.cellsS] at h1
      obtain ⟨_, hlen, hcell⟩ := World.cells?_some h1
      obtain ⟨y0, y1, y2, y3, y4, y5, n', _, _, g0, g1, g2, g3, g4, g5⟩ := trod_struct6 Tryz.underlying33 h2
      match cs', hlen with
      | [v0, v1, v2, v3, v4, v5], _ =>
        simp [Tryz.cI, Tryz.cS] at g0 g1 g2 g3 g4 g5
        have e0 := hcell 0 (by omega)
        have e1 := hcell 1 (by omega)
        have e2 := hcell 2 (by omega)
        have e3 := hcell 3 (by omega)
        have e4 := hcell 4 (by omega)
        have e5 := hcell 5 (by omega)
        rw [Go.Deep.add_add] at e0 e1 e2 e3 e4 e5
        obtain ⟨k, u0, _, _⟩ := DataW.trod_int Tryz.underlying3 g0
        obtain ⟨m, u1, _, q1⟩ := DataW.trod_int Tryz.underlying3 g1
        obtain ⟨ii, u2, _, _⟩ := DataW.trod_int Tryz.underlying3 g2
        obtain ⟨l, u3, _, _⟩ := DataW.trod_int Tryz.underlying3 g3
        obtain ⟨id, u4, _⟩ := DataW.trod_string Tryz.underlying9 g4
        obtain ⟨da, u5, _⟩ := DataW.trod_string Tryz.underlying9 g5
        simp only [List.cons.injEq, and_true] at u0 u1 u2 u3 u4 u5
        subst u0 u1 u2 u3 u4 u5
        exact ⟨⟨k, m, ii, l, id, da⟩, by simpa using e0, by simpa using e1, by simpa using e2, by simpa using e3, by simpa using e4, by simpa using e5, (bounds_i64 q1).2⟩
    obtain ⟨X, hX⟩ := Go.Deep.choose_lt hall
    obtain ⟨b, off, spot⟩ := x
    have hc := (hX 0 (by omega)).1
    have hspot : spot = none := by simpa [Addr.add] using World.cell?_spot hc
    subst hspot
    refine ⟨X, ⟨_, _, rfl, .inr ⟨b, off, rfl, World.block_lt_of_cell? _ _ hc, fun i hi => ?_⟩⟩, fun i hi => (hX i hi).2.2.2.2.2.2⟩
    obtain ⟨c0, c1, c2, c3, c4, c5, _⟩ := hX i hi
    rw [add_plain] at c0 c1 c2 c3 c4 c5
    rw [← Nat.add_assoc] at c1 c2 c3 c4 c5
    exact ⟨c0, c1, c2, c3, c4, c5⟩
end Go.Proofs.YtklaeocnimkboaaGreatDoor

