/-
  SdRefText: texts of earlier layers, laid over this program.
-/
import Derived.Test.YtklaeocnimkboaaGreatDoorSdRef
import Derived.Deep.RegionHeldLaw
namespace Go.Proofs.YtklaeocnimkboaaGreatDoor
open Go.RowKit Go.Lib

/-- Three bytes as a new row, turned into a text. -/
theorem conv3 {w : World} {g : Nat} {a b c : UInt8} (h : w.heap[g]? = some (.cells #[.int .u8 (a.toNat : Int), .int .u8 (b.toNat : Int), .int .u8 (c.toNat : Int)] 5 (0, 0))) :
    (convert 97 9 (.slice (some ⟨g, 0, none⟩) 3 3)).run Tryz.prog w = .ok (.string (bs [a, b, c])) w := by
  have h0 : w.cell? ⟨g, 0, none⟩ = some (.int .u8 (a.toNat : Int)) := by simp [World.cell?, h]
  have h1 : w.cell? ⟨g, 1, none⟩ = some (.int .u8 (b.toNat : Int)) := by simp [World.cell?, h]
  have h2 : w.cell? ⟨g, 2, none⟩ = some (.int .u8 (c.toNat : Int)) := by simp [World.cell?, h]
  have := run_convert_bytes_arg w 97 5 Tryz.underlying97 Tryz.underlying5 g 0 3 3 ([a, b, c].map fun b => (b.toNat : Int)) (by simp)
    (fun i hi => by
      rw [Nat.zero_add]
      match i, hi with
      | 0, _ => exact h0
      | 1, _ => exact h1
      | 2, _ => exact h2) 9 Tryz.underlying9
  rw [this]
  simp [strOfNums, bs]
theorem conv4 {w : World} {g : Nat} {a b c d : UInt8} (h : w.heap[g]? = some (.cells #[.int .u8 (a.toNat : Int), .int .u8 (b.toNat : Int), .int .u8 (c.toNat : Int), .int .u8 (d.toNat : Int)] 5 (0, 0))) :
    (convert 97 9 (.slice (some ⟨g, 0, none⟩) 4 4)).run Tryz.prog w = .ok (.string (bs [a, b, c, d])) w := by
  have h0 : w.cell? ⟨g, 0, none⟩ = some (.int .u8 (a.toNat : Int)) := by simp [World.cell?, h]
  have h1 : w.cell? ⟨g, 1, none⟩ = some (.int .u8 (b.toNat : Int)) := by simp [World.cell?, h]
  have h2 : w.cell? ⟨g, 2, none⟩ = some (.int .u8 (c.toNat : Int)) := by simp [World.cell?, h]
  have h3 : w.cell? ⟨g, 3, none⟩ = some (.int .u8 (d.toNat : Int)) := by simp [World.cell?, h]
  have := run_convert_bytes_arg w 97 5 Tryz.underlying97 Tryz.underlying5 g 0 4 4 ([a, b, c, d].map fun b => (b.toNat : Int)) (by simp)
    (fun i hi => by
      rw [Nat.zero_add]
      match i, hi with
      | 0, _ => exact h0
      | 1, _ => exact h1
      | 2, _ => exact h2
      | 3, _ => exact h3) 9 Tryz.underlying9
  rw [this]
  simp [strOfNums, bs]

theorem conv_le4 {n : Nat} (hn : n < 4294967296) (w1 : World) : (convert 97 9 (.slice (some ⟨w1.heap.size, 0, none⟩) 4 4)).run Tryz.prog (w1.alloc (.cells #[.int .u8 ((n : Int) % 256), .int .u8 ((n : Int) / 256 % 256), .int .u8 ((n : Int) / 65536 % 256), .int .u8 ((n : Int) / 16777216)] 5)) =
    .ok (.string (bs (le4 n))) (w1.alloc (.cells #[.int .u8 ((n : Int) % 256), .int .u8 ((n : Int) / 256 % 256), .int .u8 ((n : Int) / 65536 % 256), .int .u8 ((n : Int) / 16777216)] 5)) := by
  refine conv4 ?_
  rw [heap_alloc_new]
  simp only [UInt8.toNat_ofNat']
  rw [show ((n % 2 ^ 8 : Nat) : Int) = (n : Int) % 256 by omega, show ((n / 256 % 2 ^ 8 : Nat) : Int) = (n : Int) / 256 % 256 by omega, show ((n / 65536 % 2 ^ 8 : Nat) : Int) = (n : Int) / 65536 % 256 by omega, show ((n / 16777216 % 2 ^ 8 : Nat) : Int) = (n : Int) / 16777216 by omega]

theorem tx_parts3 (k m i long : Nat) (id data : ByteArray) :
    (⟨#[71, 82, 84, 1]⟩ : ByteArray) ++ bs [UInt8.ofNat k, UInt8.ofNat m, UInt8.ofNat i] ++ bs (Nm.fixedOf long 4) ++ id ++ data = bs (txL ⟨k, m, i, long, id, data⟩) := by
  rw [fixedOf_four]
  apply ByteArray.ext
  simp [bs, txL, ByteArray.data_append, be4]

set_option maxHeartbeats 1600000 in
set_option maxRecDepth 100000 in
theorem refText_any (k m i long : Nat) (id data : ByteArray) (w : World) (hk : k < 256) (hm : m < 256) (hi : i < 256) (hl : long < 4294967296) (hid : id.size ≤ 1000000) (hda : data.size ≤ 1000000) :
    Calls Tryz.prog 26 #[.agg #[.int .i64 k, .int .i64 m, .int .i64 i, .int .i64 long, .string id, .string data]] w fun e w' => e = .returned (.string (bs (fullL ⟨k, m, i, long, id, data⟩))) ∧ Below w.heap.size w w' := by
  obtain ⟨A7, hA7⟩ : ∃ A, A = bs (fullL ⟨k, m, i, long, id, data⟩) := ⟨_, rfl⟩
  rw [← hA7]
  obtain ⟨K3, hK3⟩ : ∃ A, A = bs [UInt8.ofNat k, UInt8.ofNat m, UInt8.ofNat i] := ⟨_, rfl⟩
  obtain ⟨K4, hK4⟩ : ∃ A, A = bs (Nm.fixedOf long 4) := ⟨_, rfl⟩
  have z3 : K3.size = 3 := by rw [hK3, bs_size]; rfl
  have z4 : K4.size = 4 := by rw [hK4, bs_size, Nm.fixedOf_length]
  obtain ⟨A3, hA3⟩ : ∃ A, A = (⟨#[71, 82, 84, 1]⟩ : ByteArray) ++ K3 := ⟨_, rfl⟩
  obtain ⟨A4, hA4⟩ : ∃ A, A = A3 ++ K4 := ⟨_, rfl⟩
  obtain ⟨A5, hA5⟩ : ∃ A, A = A4 ++ id := ⟨_, rfl⟩
  obtain ⟨A6, hA6⟩ : ∃ A, A = A5 ++ data := ⟨_, rfl⟩
  have y3 : A3.size = 7 := by rw [hA3, size_add, z3]; rfl
  have y4 : A4.size = 11 := by rw [hA4, size_add, z4, y3]
  have y5 : A5.size = 11 + id.size := by rw [hA5, size_add, y4]
  have y6 : A6.size = 11 + id.size + data.size := by rw [hA6, size_add, y5]
  have hT : A6 = bs (txL ⟨k, m, i, long, id, data⟩) := by
    rw [hA6, hA5, hA4, hA3, hK3, hK4]
    exact tx_parts3 k m i long id data
  have HT : Hid (A6.data.toList = txL ⟨k, m, i, long, id, data⟩) := by rw [hT]; exact bs_toList _
  have HF : Hid (A6 ++ bs (le4 (crcV A6.data.toList)) = A7) := by
    rw [HT.out, hA7, hT, bs_append]
    rfl
  have r3 := add_run hA3.symm (by rw [z3]; decide)
  have r4 := add_run hA4.symm (by omega)
  have r5 := add_run hA5.symm (by omega)
  have r6 := add_run hA6.symm (by omega)
  have s3 := add_run2 hA3.symm (by rw [z3]; decide)
  have s4 := add_run2 hA4.symm (by omega)
  have s5 := add_run2 hA5.symm (by omega)
  have s6 := add_run2 hA6.symm (by omega)
  have HZ : Hid (A6.size ≤ 3000000) := by show A6.size ≤ _; omega
  have X := SK.new 34 w k m i long id data
  obtain ⟨W, hW⟩ : ∃ W, W = w.alloc (.cells #[.int .i64 k, .int .i64 m, .int .i64 i, .int .i64 long, .string id, .string data] 34) := ⟨_, rfl⟩
  have HB : Hid (Below w.heap.size w W) := by rw [hW]; exact below_alloc (Below.refl _ _) _
  rw [← hW] at X
  have HW := hide hW
  have hXl := X.lt
  have HX := hide X
  have ek : (k : Int) % 256 = k := by omega
  have em : (m : Int) % 256 = m := by omega
  have ei : (i : Int) % 256 = i := by omega
  have KS : Hid (∀ w' : World, Below W.heap.size W w' → (Below W.heap.size W w' ∧ w'.cell? ⟨w.heap.size, 0, none⟩ = some (.int .i64 k) ∧ w'.cell? ⟨w.heap.size, 1, none⟩ = some (.int .i64 m) ∧ w'.cell? ⟨w.heap.size, 2, none⟩ = some (.int .i64 i) ∧ w'.cell? ⟨w.heap.size, 3, none⟩ = some (.int .i64 long) ∧ w'.cell? ⟨w.heap.size, 4, none⟩ = some (.string id) ∧ w'.cell? ⟨w.heap.size, 5, none⟩ = some (.string data))) := fun w' h => by
    have Y := X.below h hXl
    exact ⟨h, Y.cell0, Y.cell1, Y.cell2, Y.cell3, Y.cell4, Y.cell5⟩
  have S0 : Hid (Below W.heap.size W W.drew) := (Below.refl _ _).drew
  have HC3 : Hid (∀ (w1 : World) (g : Nat), w1.heap[g]? = some (.cells #[.int .u8 (IntKind.u8.wrap (k : Int)), .int .u8 (IntKind.u8.wrap (m : Int)), .int .u8 (IntKind.u8.wrap (i : Int))] 5 (0, 0)) → (convert 97 9 (.slice (some ⟨g, 0, none⟩) 3 3)).run Tryz.prog w1 = .ok (.string K3) w1) := fun w1 g h => by
    rw [hK3]
    refine conv3 ?_
    rw [h]
    simp only [UInt8.toNat_ofNat', Nat.mod_eq_of_lt hk, Nat.mod_eq_of_lt hm, Nat.mod_eq_of_lt hi, IntKind.wrap_u8, ek, em, ei]
  have hcn : ∀ w1 : World, (convert 97 9 (.slice (some ⟨w1.heap.size, 0, none⟩) 3 3)).run Tryz.prog (w1.alloc (.cells #[.int .u8 (IntKind.u8.wrap (k : Int)), .int .u8 (IntKind.u8.wrap (m : Int)), .int .u8 (IntKind.u8.wrap (i : Int))] 5)).drew = .ok (.string K3) (w1.alloc (.cells #[.int .u8 (IntKind.u8.wrap (k : Int)), .int .u8 (IntKind.u8.wrap (m : Int)), .int .u8 (IntKind.u8.wrap (i : Int))] 5)).drew := fun w1 => HC3.out _ _ (heap_alloc_new w1 _)
  have hcn2 : ∀ w1 : World, (convert 97 9 (.slice (some ⟨w1.heap.size, 0, none⟩) 3 3)).run Tryz.prog (w1.alloc (.cells #[.int .u8 (IntKind.u8.wrap (k : Int)), .int .u8 (IntKind.u8.wrap (m : Int)), .int .u8 (IntKind.u8.wrap (i : Int))] 5)) = .ok (.string K3) (w1.alloc (.cells #[.int .u8 (IntKind.u8.wrap (k : Int)), .int .u8 (IntKind.u8.wrap (m : Int)), .int .u8 (IntKind.u8.wrap (i : Int))] 5)) := fun w1 => HC3.out _ _ (heap_alloc_new w1 _)
  have C4 : Hid (∀ (v u : Value) (w' : World), v = .int .i64 (long : Int) → u = .int .i64 4 → Below W.heap.size W w' → Calls Tryz.prog 45 #[v, u] w' fun e w'' => e = .returned (.string K4) ∧ Below w'.heap.size w' w'' ∧ (Below W.heap.size W w'' ∧ w''.cell? ⟨w.heap.size, 0, none⟩ = some (.int .i64 k) ∧ w''.cell? ⟨w.heap.size, 1, none⟩ = some (.int .i64 m) ∧ w''.cell? ⟨w.heap.size, 2, none⟩ = some (.int .i64 i) ∧ w''.cell? ⟨w.heap.size, 3, none⟩ = some (.int .i64 long) ∧ w''.cell? ⟨w.heap.size, 4, none⟩ = some (.string id) ∧ w''.cell? ⟨w.heap.size, 5, none⟩ = some (.string data))) := fun v u w' hv hu h => by
    subst hv
    subst hu
    rw [hK4]
    exact (refMust_any long 4 w' (by omega) (by decide) (by decide) (by simpa using hl)).mono fun _ _ ⟨he, hk⟩ => ⟨he, hk, KS.out _ (below_step h hk)⟩
  clear hK3 hK4 hA3 hA4 hA5 hA6 hA7 hT X hW y3 y4 y5 y6 z3 z4
  go_enter Tryz.func26, Tryz.ntmps26
  go_wp2_with fail
  rw [← HW.out]
  go_region_held_law (fun w' => Below W.heap.size W w' ∧ w'.cell? ⟨w.heap.size, 0, none⟩ = some (.int .i64 k) ∧ w'.cell? ⟨w.heap.size, 1, none⟩ = some (.int .i64 m) ∧ w'.cell? ⟨w.heap.size, 2, none⟩ = some (.int .i64 i) ∧ w'.cell? ⟨w.heap.size, 3, none⟩ = some (.int .i64 long) ∧ w'.cell? ⟨w.heap.size, 4, none⟩ = some (.string id) ∧ w'.cell? ⟨w.heap.size, 5, none⟩ = some (.string data)) (first | assumption | exact KS.out _ S0.out | exact ⟨by assumption, by assumption, by assumption, by assumption, by assumption, by assumption, by assumption⟩ | exact KS.out _ (below_alloc (Below.refl _ _) _).drew | exact KS.out _ (below_alloc (by assumption) _))
    (first
      | (go_at_call 45; refine (C4.out _ _ _ (by with_reducible rfl) (by with_reducible rfl) S0.out).mono ?_; rintro e wa ⟨rfl, ha, a1, b1, c1, d1, e1, f1, g1⟩)
      | (go_at_call 45; refine (C4.out _ _ _ (by with_reducible rfl) (by with_reducible rfl) (below_alloc (Below.refl _ _) _).drew).mono ?_; rintro e wb ⟨rfl, hb, a2, b2, c2, d2, e2, f2, g2⟩; have hcb := HC3.out wb W.heap.size ((hb.block W.heap.size (by simp)).trans (heap_alloc_new W _))))
  all_goals clear C4 r3 r4 r5 r6 s3 s4 s5 s6 S0 hcn hcn2 HC3 KS
  · have HB5 := hide (HB.out.trans (a2.mono HB.out.size))
    clear hb a2 b2 c2 d2 e2 f2 g2 hcb
    go_wp2_with fail
    refine (refCrc_any A6 _ (by have := HZ.out; omega)).mono ?_
    rintro e w5 ⟨rfl, hw5⟩
    subst w5
    have hn := crcV_lt A6.data.toList
    generalize crcV A6.data.toList = n at *
    have hcw := conv_le4 hn
    have zL : (bs (le4 n)).size = 4 := by rw [bs_size]; rfl
    have hz := HZ.out
    have r7 := add_run HF.out (by rw [zL]; omega)
    have s7 := add_run2 HF.out (by rw [zL]; omega)
    generalize bs (le4 n) = L at *
    clear zL hz
    go_wp2
    go_ret
    exact ⟨rfl, HB5.out.alloc HB5.out.size _⟩
  · have HB5 := hide (HB.out.trans (a2.mono HB.out.size))
    clear hb a2 b2 c2 d2 e2 f2 g2 hcb
    go_wp2_with fail
    refine (refCrc_any A6 _ (by have := HZ.out; omega)).mono ?_
    rintro e w5 ⟨rfl, hw5⟩
    subst w5
    have hn := crcV_lt A6.data.toList
    generalize crcV A6.data.toList = n at *
    have hcw := conv_le4 hn
    have zL : (bs (le4 n)).size = 4 := by rw [bs_size]; rfl
    have hz := HZ.out
    have r7 := add_run HF.out (by rw [zL]; omega)
    have s7 := add_run2 HF.out (by rw [zL]; omega)
    generalize bs (le4 n) = L at *
    clear zL hz
    go_wp2
    go_ret
    exact ⟨rfl, HB5.out.alloc HB5.out.size _⟩
  · obtain ⟨V, hV⟩ : ∃ V, V = wa.alloc (.cells #[.int .u8 (IntKind.u8.wrap (k : Int)), .int .u8 (IntKind.u8.wrap (m : Int)), .int .u8 (IntKind.u8.wrap (i : Int))] 5) := ⟨_, rfl⟩
    have HB5 : Hid (Below w.heap.size w V) := by rw [hV]; exact HB.out.trans ((below_alloc a1 _).mono HB.out.size)
    rw [← hV]
    clear ha a1 b1 c1 d1 e1 f1 g1 hV
    go_wp2_with fail
    refine (refCrc_any A6 _ (by have := HZ.out; omega)).mono ?_
    rintro e w5 ⟨rfl, hw5⟩
    subst w5
    have hn := crcV_lt A6.data.toList
    generalize crcV A6.data.toList = n at *
    have hcw := conv_le4 hn
    have zL : (bs (le4 n)).size = 4 := by rw [bs_size]; rfl
    have hz := HZ.out
    have r7 := add_run HF.out (by rw [zL]; omega)
    have s7 := add_run2 HF.out (by rw [zL]; omega)
    generalize bs (le4 n) = L at *
    clear zL hz
    go_wp2
    go_ret
    exact ⟨rfl, HB5.out.alloc HB5.out.size _⟩
end Go.Proofs.YtklaeocnimkboaaGreatDoor

