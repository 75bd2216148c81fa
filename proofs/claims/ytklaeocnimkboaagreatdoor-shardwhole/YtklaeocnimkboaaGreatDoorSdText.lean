/-
  The bytes of a shard, as the program writes them: fixed, lowestFirst, written.
-/
import Derived.Test.YtklaeocnimkboaaGreatDoorSdCrc
import Derived.Deep.RegionHeld3
import Derived.BigQuiet
namespace Go.Proofs.YtklaeocnimkboaaGreatDoor
open Go.RowKit Go.Lib

def bs (l : List UInt8) : ByteArray := ⟨l.toArray⟩
theorem bs_toList (l : List UInt8) : (bs l).data.toList = l := by simp [bs]
theorem bs_size (l : List UInt8) : (bs l).size = l.length := by simp [bs, ByteArray.size]
theorem bs_of (s : ByteArray) : bs s.data.toList = s := by simp [bs]
theorem bs_append (a b : List UInt8) : bs a ++ bs b = bs (a ++ b) := by
  apply ByteArray.ext
  simp [bs, ByteArray.data_append]
theorem fixedOf_one {n : Nat} (h : n < 256) : Nm.fixedOf n 1 = [UInt8.ofNat n] := by
  simp only [Nm.fixedOf, Nat.pow_zero, Nat.div_one, Nat.mod_eq_of_lt h]
theorem ofNat_mod (n : Nat) : UInt8.ofNat (n % 256) = UInt8.ofNat n := by
  apply UInt8.toNat_inj.1
  simp
theorem fixedOf_four (n : Nat) : Nm.fixedOf n 4 = be4 n := by
  simp only [Nm.fixedOf, be4]
  show [UInt8.ofNat (n / 16777216 % 256), UInt8.ofNat (n / 65536 % 256), UInt8.ofNat (n / 256 % 256), UInt8.ofNat (n / 1 % 256)] = _
  rw [ofNat_mod, ofNat_mod, ofNat_mod, ofNat_mod, Nat.div_one]

theorem fixedP_any (n k : Nat) (w : World) (hn : n ≤ 9223372036854775807) (hk1 : 1 ≤ k) (hk8 : k ≤ 8) (hr : n < 256 ^ k) :
    Calls Tryz.prog 41 #[.int .i64 n, .int .i64 k] w fun e w' => e = .returned (.string (bs (Nm.fixedOf n k))) ∧ Below w.heap.size w w' := by
  have HC : Hid _ := Nm.fixed_any n k w hn hk1 hk8 hr
  clear hr
  go_enter Tryz.func41, Tryz.ntmps41
  go_wp2_with fail
  refine Calls.mono HC.out ?_
  rintro e w1 ⟨rfl, hb⟩
  go_wp2
  go_ret
  exact ⟨rfl, hb⟩

theorem low_step {n j : Nat} (hj : j < 4) : (byteCells ((le4 n).take j ++ List.replicate (4 - j) 0)).set j (.int .u8 ((n : Int) / 2 ^ (8 * j) % 256)) = byteCells ((le4 n).take (j + 1) ++ List.replicate (4 - (j + 1)) 0) := by
  have e : ∀ m : Nat, Value.int .u8 ((m : Int) % 256) = Value.int .u8 ((UInt8.ofNat m).toNat : Int) := fun m => by simp
  have e2 : ∀ i : Nat, (n : Int) / 2 ^ (8 * i) = ((n / 2 ^ (8 * i) : Nat) : Int) := fun i => by simp
  rw [e2, e]
  have : j = 0 ∨ j = 1 ∨ j = 2 ∨ j = 3 := by omega
  rcases this with rfl | rfl | rfl | rfl <;> simp [le4, byteCells, List.replicate]
theorem low_zero {n j : Nat} (hj : j < 4) : (byteCells ((le4 n).take j ++ List.replicate (4 - j) 0))[j]? = some (.int .u8 0) := by
  have : j = 0 ∨ j = 1 ∨ j = 2 ∨ j = 3 := by omega
  rcases this with rfl | rfl | rfl | rfl <;> simp [le4, byteCells, List.replicate]

set_option maxHeartbeats 400000 in
set_option maxRecDepth 100000 in
theorem lowest_any (n : Nat) (w : World) :
    Calls Tryz.prog 42 #[.int .i64 n] w fun e w' => e = .returned (.string (bs (le4 n))) ∧ Below w.heap.size w w' := by
  obtain ⟨i0, hi, hz0, hz1, hz2⟩ := info_parts Nm.Tryz.info5
  go_enter Tryz.func42, Tryz.ntmps42
  go_wp2_with (at_make; refine wpList_make_full _ rfl _ _ 97 rfl w.heap.size 5 i0 (.int .u8 0) 1 Tryz.underlying97 hi hz0 hz1 _ _ _ _ 4 rfl rfl rfl rfl (by rw [hz2]; omega) (by unfold maxLen; omega) (Nat.le_refl _) ?_)
  intro w0 hown0 hgrow0
  have hb0 : Below w.heap.size w w0 := (Below.refl _ _).grown hgrow0 (Nat.le_refl _) (fun k hk => by cases hk)
  clear hgrow0 hz0 hz1 hz2 hi
  go_wp2
  go_loopw [8] (fun i wr => ∃ j : Nat, j ≤ 4 ∧ i = .int .i64 j ∧ wr.ownsRow w.heap.size 5 1 (.slice (some ⟨w.heap.size, 0, none⟩) 4 4) 4 (byteCells ((le4 n).take j ++ List.replicate (4 - j) 0)) ∧ Below w.heap.size w wr)
    (fun i _ => 4 - (intOf i).toNat)
  case atStart => exact ⟨0, Nat.zero_le _, rfl, by simpa [byteCells, toList_madeCells_one] using hown0, hb0⟩
  case round =>
    obtain ⟨j, hj, rfl, hown, hb⟩ := hrel
    by_cases hlt : j < 4
    · have hc : wr.cell? ⟨w.heap.size, j, none⟩ = some (.int .u8 0) := by rw [hown.cellAt j (by omega), low_zero hlt]
      have hf := hown.frozenAt j
      have R := (hown.stored j (.int .u8 ((n : Int) / 2 ^ (8 * j) % 256))).1
      rw [low_step hlt] at R
      have R2 := hb.setCell (p := ⟨w.heap.size, j, none⟩) (Nat.le_refl _) (.int .u8 ((n : Int) / 2 ^ (8 * j) % 256))
      clear hown hb
      go_wp2
      go_roundw
      case rel => exact ⟨j + 1, by omega, by go_num, R, R2⟩
      case measure => simp [intOf]; omega
    · have hjk : j = 4 := by omega
      subst hjk
      rw [show (le4 n).take 4 ++ List.replicate (4 - 4) 0 = le4 n by simp [le4]] at hown
      have hs := Nm.run_string_of_own (l := le4 n) hown
      rw [show Nm.strOf (le4 n) = bs (le4 n) from rfl] at hs
      go_wp2
      go_ret
      exact ⟨rfl, hb⟩

/-- A shard's six parts at a block (T: its type). -/
def SK (T : TypeId) (w : World) (b : Nat) (k m i long : Int) (id data : ByteArray) : Prop := w.heap[b]? = some (.cells #[.int .i64 k, .int .i64 m, .int .i64 i, .int .i64 long, .string id, .string data] T (0, 0))
section
variable {T : TypeId} {w w' : World} {b : Nat} {k m i long : Int} {id data : ByteArray}
theorem SK.lt (h : SK T w b k m i long id data) : b < w.heap.size := lt_of_block h
theorem SK.cell0 (h : SK T w b k m i long id data) : w.cell? ⟨b, 0, none⟩ = some (.int .i64 k) := by simp [World.cell?, show w.heap[b]? = _ from h]
theorem SK.cell1 (h : SK T w b k m i long id data) : w.cell? ⟨b, 1, none⟩ = some (.int .i64 m) := by simp [World.cell?, show w.heap[b]? = _ from h]
theorem SK.cell2 (h : SK T w b k m i long id data) : w.cell? ⟨b, 2, none⟩ = some (.int .i64 i) := by simp [World.cell?, show w.heap[b]? = _ from h]
theorem SK.cell3 (h : SK T w b k m i long id data) : w.cell? ⟨b, 3, none⟩ = some (.int .i64 long) := by simp [World.cell?, show w.heap[b]? = _ from h]
theorem SK.cell4 (h : SK T w b k m i long id data) : w.cell? ⟨b, 4, none⟩ = some (.string id) := by simp [World.cell?, show w.heap[b]? = _ from h]
theorem SK.cell5 (h : SK T w b k m i long id data) : w.cell? ⟨b, 5, none⟩ = some (.string data) := by simp [World.cell?, show w.heap[b]? = _ from h]
theorem SK.free (h : SK T w b k m i long id data) (j : Nat) : w.frozen? ⟨b, j, none⟩ = false := by simp [World.frozen?, show w.heap[b]? = _ from h]
theorem SK.of_block (h : SK T w b k m i long id data) (hb : w'.heap[b]? = w.heap[b]?) : SK T w' b k m i long id data := hb.trans h
theorem SK.below (h : SK T w b k m i long id data) {B : Nat} (hb : Below B w w') (hB : b < B) : SK T w' b k m i long id data := h.of_block (hb.block b hB)
theorem SK.alloc (h : SK T w b k m i long id data) (o : Obj) : SK T (w.alloc o) b k m i long id data := h.of_block (Below.heap_alloc w o b h.lt)
theorem SK.new (T : TypeId) (w : World) (k m i long : Int) (id data : ByteArray) : SK T (w.alloc (.cells #[.int .i64 k, .int .i64 m, .int .i64 i, .int .i64 long, .string id, .string data] T)) w.heap.size k m i long id data := heap_alloc_new w _
end

theorem add_run {a b c : ByteArray} (h : a ++ b = c) (hz : a.size + b.size ≤ 9223372036854775807) (w : World) : (Op.stringOp .add a b).run Tryz.prog w = .ok (.string c) w := by
  rw [run_string_add_sum w a b hz, h]
theorem add_run2 {a b c : ByteArray} (h : a ++ b = c) (hz : a.size + b.size ≤ 9223372036854775807) (w : World) : (binOp .add 9 (.string a) (.string b)).run Tryz.prog w = .ok (.string c) w := by
  rw [binOp_string_add, add_run h hz]
theorem size_add (a b : ByteArray) : (a ++ b).size = a.size + b.size := by simp

theorem tx_parts (k m i long : Nat) (id data : ByteArray) (hk : k < 256) (hm : m < 256) (hi : i < 256) :
    (⟨#[71, 82, 84, 1]⟩ : ByteArray) ++ bs (Nm.fixedOf k 1) ++ bs (Nm.fixedOf m 1) ++ bs (Nm.fixedOf i 1) ++ bs (Nm.fixedOf long 4) ++ id ++ data = bs (txL ⟨k, m, i, long, id, data⟩) := by
  rw [fixedOf_one hk, fixedOf_one hm, fixedOf_one hi, fixedOf_four]
  apply ByteArray.ext
  simp [bs, txL, ByteArray.data_append, be4]

set_option maxHeartbeats 400000 in
set_option maxRecDepth 100000 in
theorem written_any (k m i long : Nat) (id data : ByteArray) (w : World) (hk : k < 256) (hm : m < 256) (hi : i < 256) (hl : long < 4294967296) (hid : id.size ≤ 1000000) (hda : data.size ≤ 1000000) :
    Calls Tryz.prog 22 #[.agg #[.int .i64 k, .int .i64 m, .int .i64 i, .int .i64 long, .string id, .string data]] w fun e w' => e = .returned (.string (bs (fullL ⟨k, m, i, long, id, data⟩))) ∧ Below w.heap.size w w' := by
  obtain ⟨A7, hA7⟩ : ∃ A, A = bs (fullL ⟨k, m, i, long, id, data⟩) := ⟨_, rfl⟩
  rw [← hA7]
  obtain ⟨K1, hK1⟩ : ∃ A, A = bs (Nm.fixedOf k 1) := ⟨_, rfl⟩
  obtain ⟨K2, hK2⟩ : ∃ A, A = bs (Nm.fixedOf m 1) := ⟨_, rfl⟩
  obtain ⟨K3, hK3⟩ : ∃ A, A = bs (Nm.fixedOf i 1) := ⟨_, rfl⟩
  obtain ⟨K4, hK4⟩ : ∃ A, A = bs (Nm.fixedOf long 4) := ⟨_, rfl⟩
  have z1 : K1.size = 1 := by rw [hK1, bs_size, Nm.fixedOf_length]
  have z2 : K2.size = 1 := by rw [hK2, bs_size, Nm.fixedOf_length]
  have z3 : K3.size = 1 := by rw [hK3, bs_size, Nm.fixedOf_length]
  have z4 : K4.size = 4 := by rw [hK4, bs_size, Nm.fixedOf_length]
  obtain ⟨A1, hA1⟩ : ∃ A, A = (⟨#[71, 82, 84, 1]⟩ : ByteArray) ++ K1 := ⟨_, rfl⟩
  obtain ⟨A2, hA2⟩ : ∃ A, A = A1 ++ K2 := ⟨_, rfl⟩
  obtain ⟨A3, hA3⟩ : ∃ A, A = A2 ++ K3 := ⟨_, rfl⟩
  obtain ⟨A4, hA4⟩ : ∃ A, A = A3 ++ K4 := ⟨_, rfl⟩
  obtain ⟨A5, hA5⟩ : ∃ A, A = A4 ++ id := ⟨_, rfl⟩
  obtain ⟨A6, hA6⟩ : ∃ A, A = A5 ++ data := ⟨_, rfl⟩
  have y1 : A1.size = 5 := by rw [hA1, size_add, z1]; rfl
  have y2 : A2.size = 6 := by rw [hA2, size_add, z2, y1]
  have y3 : A3.size = 7 := by rw [hA3, size_add, z3, y2]
  have y4 : A4.size = 11 := by rw [hA4, size_add, z4, y3]
  have y5 : A5.size = 11 + id.size := by rw [hA5, size_add, y4]
  have y6 : A6.size = 11 + id.size + data.size := by rw [hA6, size_add, y5]
  have hT : A6 = bs (txL ⟨k, m, i, long, id, data⟩) := by
    rw [hA6, hA5, hA4, hA3, hA2, hA1, hK1, hK2, hK3, hK4]
    exact tx_parts k m i long id data hk hm hi
  have HT : Hid (A6.data.toList = txL ⟨k, m, i, long, id, data⟩) := by rw [hT]; exact bs_toList _
  have HF : Hid (A6 ++ bs (le4 (crcV A6.data.toList)) = A7) := by
    rw [HT.out, hA7, hT, bs_append]
    rfl
  have r1 := add_run hA1.symm (by rw [z1]; decide)
  have r2 := add_run hA2.symm (by omega)
  have r3 := add_run hA3.symm (by omega)
  have r4 := add_run hA4.symm (by omega)
  have r5 := add_run hA5.symm (by omega)
  have r6 := add_run hA6.symm (by omega)
  have s1 := add_run2 hA1.symm (by rw [z1]; decide)
  have s2 := add_run2 hA2.symm (by omega)
  have s3 := add_run2 hA3.symm (by omega)
  have s4 := add_run2 hA4.symm (by omega)
  have s5 := add_run2 hA5.symm (by omega)
  have s6 := add_run2 hA6.symm (by omega)
  have HZ : Hid (A6.size ≤ 3000000) := by show A6.size ≤ _; omega
  have X := SK.new 33 w k m i long id data
  obtain ⟨W, hW⟩ : ∃ W, W = w.alloc (.cells #[.int .i64 k, .int .i64 m, .int .i64 i, .int .i64 long, .string id, .string data] 33) := ⟨_, rfl⟩
  have HB : Hid (Below w.heap.size w W) := by rw [hW]; exact below_alloc (Below.refl _ _) _
  rw [← hW] at X
  have HW := hide hW
  have hXl := X.lt
  have KS : Hid (∀ w' w'' : World, Below W.heap.size W w' → Below w'.heap.size w' w'' → (Below W.heap.size W w'' ∧ w''.cell? ⟨w.heap.size, 0, none⟩ = some (.int .i64 k) ∧ w''.cell? ⟨w.heap.size, 1, none⟩ = some (.int .i64 m) ∧ w''.cell? ⟨w.heap.size, 2, none⟩ = some (.int .i64 i) ∧ w''.cell? ⟨w.heap.size, 3, none⟩ = some (.int .i64 long) ∧ w''.cell? ⟨w.heap.size, 4, none⟩ = some (.string id) ∧ w''.cell? ⟨w.heap.size, 5, none⟩ = some (.string data))) := fun w' w'' h1 h2 => by
    have h := below_step h1 h2
    have Y := X.below h hXl
    exact ⟨h, Y.cell0, Y.cell1, Y.cell2, Y.cell3, Y.cell4, Y.cell5⟩
  have S0 : Hid (Below W.heap.size W W.drew ∧ W.drew.cell? ⟨w.heap.size, 0, none⟩ = some (.int .i64 k) ∧ W.drew.cell? ⟨w.heap.size, 1, none⟩ = some (.int .i64 m) ∧ W.drew.cell? ⟨w.heap.size, 2, none⟩ = some (.int .i64 i) ∧ W.drew.cell? ⟨w.heap.size, 3, none⟩ = some (.int .i64 long) ∧ W.drew.cell? ⟨w.heap.size, 4, none⟩ = some (.string id) ∧ W.drew.cell? ⟨w.heap.size, 5, none⟩ = some (.string data)) := ⟨(Below.refl _ _).drew, X.cell0, X.cell1, X.cell2, X.cell3, X.cell4, X.cell5⟩
  have C1 : Hid (∀ (v u : Value) (w' : World), v = .int .i64 (k : Int) → u = .int .i64 1 → (Below W.heap.size W w' ∧ w'.cell? ⟨w.heap.size, 0, none⟩ = some (.int .i64 k) ∧ w'.cell? ⟨w.heap.size, 1, none⟩ = some (.int .i64 m) ∧ w'.cell? ⟨w.heap.size, 2, none⟩ = some (.int .i64 i) ∧ w'.cell? ⟨w.heap.size, 3, none⟩ = some (.int .i64 long) ∧ w'.cell? ⟨w.heap.size, 4, none⟩ = some (.string id) ∧ w'.cell? ⟨w.heap.size, 5, none⟩ = some (.string data)) → Calls Tryz.prog 41 #[v, u] w' fun e w'' => e = .returned (.string K1) ∧ (Below W.heap.size W w'' ∧ w''.cell? ⟨w.heap.size, 0, none⟩ = some (.int .i64 k) ∧ w''.cell? ⟨w.heap.size, 1, none⟩ = some (.int .i64 m) ∧ w''.cell? ⟨w.heap.size, 2, none⟩ = some (.int .i64 i) ∧ w''.cell? ⟨w.heap.size, 3, none⟩ = some (.int .i64 long) ∧ w''.cell? ⟨w.heap.size, 4, none⟩ = some (.string id) ∧ w''.cell? ⟨w.heap.size, 5, none⟩ = some (.string data))) := fun v u w' hv hu h => by
    subst hv
    subst hu
    rw [hK1]
    exact (fixedP_any k 1 w' (by omega) (by decide) (by decide) (by simpa using hk)).mono fun _ _ ⟨he, hk⟩ => ⟨he, KS.out _ _ h.1 hk⟩
  have C2 : Hid (∀ (v u : Value) (w' : World), v = .int .i64 (m : Int) → u = .int .i64 1 → (Below W.heap.size W w' ∧ w'.cell? ⟨w.heap.size, 0, none⟩ = some (.int .i64 k) ∧ w'.cell? ⟨w.heap.size, 1, none⟩ = some (.int .i64 m) ∧ w'.cell? ⟨w.heap.size, 2, none⟩ = some (.int .i64 i) ∧ w'.cell? ⟨w.heap.size, 3, none⟩ = some (.int .i64 long) ∧ w'.cell? ⟨w.heap.size, 4, none⟩ = some (.string id) ∧ w'.cell? ⟨w.heap.size, 5, none⟩ = some (.string data)) → Calls Tryz.prog 41 #[v, u] w' fun e w'' => e = .returned (.string K2) ∧ (Below W.heap.size W w'' ∧ w''.cell? ⟨w.heap.size, 0, none⟩ = some (.int .i64 k) ∧ w''.cell? ⟨w.heap.size, 1, none⟩ = some (.int .i64 m) ∧ w''.cell? ⟨w.heap.size, 2, none⟩ = some (.int .i64 i) ∧ w''.cell? ⟨w.heap.size, 3, none⟩ = some (.int .i64 long) ∧ w''.cell? ⟨w.heap.size, 4, none⟩ = some (.string id) ∧ w''.cell? ⟨w.heap.size, 5, none⟩ = some (.string data))) := fun v u w' hv hu h => by
    subst hv
    subst hu
    rw [hK2]
    exact (fixedP_any m 1 w' (by omega) (by decide) (by decide) (by simpa using hm)).mono fun _ _ ⟨he, hk⟩ => ⟨he, KS.out _ _ h.1 hk⟩
  have C3 : Hid (∀ (v u : Value) (w' : World), v = .int .i64 (i : Int) → u = .int .i64 1 → (Below W.heap.size W w' ∧ w'.cell? ⟨w.heap.size, 0, none⟩ = some (.int .i64 k) ∧ w'.cell? ⟨w.heap.size, 1, none⟩ = some (.int .i64 m) ∧ w'.cell? ⟨w.heap.size, 2, none⟩ = some (.int .i64 i) ∧ w'.cell? ⟨w.heap.size, 3, none⟩ = some (.int .i64 long) ∧ w'.cell? ⟨w.heap.size, 4, none⟩ = some (.string id) ∧ w'.cell? ⟨w.heap.size, 5, none⟩ = some (.string data)) → Calls Tryz.prog 41 #[v, u] w' fun e w'' => e = .returned (.string K3) ∧ (Below W.heap.size W w'' ∧ w''.cell? ⟨w.heap.size, 0, none⟩ = some (.int .i64 k) ∧ w''.cell? ⟨w.heap.size, 1, none⟩ = some (.int .i64 m) ∧ w''.cell? ⟨w.heap.size, 2, none⟩ = some (.int .i64 i) ∧ w''.cell? ⟨w.heap.size, 3, none⟩ = some (.int .i64 long) ∧ w''.cell? ⟨w.heap.size, 4, none⟩ = some (.string id) ∧ w''.cell? ⟨w.heap.size, 5, none⟩ = some (.string data))) := fun v u w' hv hu h => by
    subst hv
    subst hu
    rw [hK3]
    exact (fixedP_any i 1 w' (by omega) (by decide) (by decide) (by simpa using hi)).mono fun _ _ ⟨he, hk⟩ => ⟨he, KS.out _ _ h.1 hk⟩
  have C4 : Hid (∀ (v u : Value) (w' : World), v = .int .i64 (long : Int) → u = .int .i64 4 → (Below W.heap.size W w' ∧ w'.cell? ⟨w.heap.size, 0, none⟩ = some (.int .i64 k) ∧ w'.cell? ⟨w.heap.size, 1, none⟩ = some (.int .i64 m) ∧ w'.cell? ⟨w.heap.size, 2, none⟩ = some (.int .i64 i) ∧ w'.cell? ⟨w.heap.size, 3, none⟩ = some (.int .i64 long) ∧ w'.cell? ⟨w.heap.size, 4, none⟩ = some (.string id) ∧ w'.cell? ⟨w.heap.size, 5, none⟩ = some (.string data)) → Calls Tryz.prog 41 #[v, u] w' fun e w'' => e = .returned (.string K4) ∧ (Below W.heap.size W w'' ∧ w''.cell? ⟨w.heap.size, 0, none⟩ = some (.int .i64 k) ∧ w''.cell? ⟨w.heap.size, 1, none⟩ = some (.int .i64 m) ∧ w''.cell? ⟨w.heap.size, 2, none⟩ = some (.int .i64 i) ∧ w''.cell? ⟨w.heap.size, 3, none⟩ = some (.int .i64 long) ∧ w''.cell? ⟨w.heap.size, 4, none⟩ = some (.string id) ∧ w''.cell? ⟨w.heap.size, 5, none⟩ = some (.string data))) := fun v u w' hv hu h => by
    subst hv
    subst hu
    rw [hK4]
    exact (fixedP_any long 4 w' (by omega) (by decide) (by decide) (by simpa using hl)).mono fun _ _ ⟨he, hk⟩ => ⟨he, KS.out _ _ h.1 hk⟩
  have HX := hide X
  clear hK1 hK2 hK3 hK4 hA1 hA2 hA3 hA4 hA5 hA6 hA7 hT X hW KS y1 y2 y3 y4 y5 y6 z1 z2 z3 z4 hXl
  go_enter Tryz.func22, Tryz.ntmps22
  go_wp2_with fail
  rw [← HW.out]
  go_region_held3 (fun w' => Below W.heap.size W w' ∧ w'.cell? ⟨w.heap.size, 0, none⟩ = some (.int .i64 k) ∧ w'.cell? ⟨w.heap.size, 1, none⟩ = some (.int .i64 m) ∧ w'.cell? ⟨w.heap.size, 2, none⟩ = some (.int .i64 i) ∧ w'.cell? ⟨w.heap.size, 3, none⟩ = some (.int .i64 long) ∧ w'.cell? ⟨w.heap.size, 4, none⟩ = some (.string id) ∧ w'.cell? ⟨w.heap.size, 5, none⟩ = some (.string data)) (first | assumption | exact S0.out | exact ⟨by assumption, by assumption, by assumption, by assumption, by assumption, by assumption, by assumption⟩)
    (first
      | (go_at_call 41; refine (C1.out _ _ _ (by with_reducible rfl) (by with_reducible rfl) (by first | assumption | exact ⟨by assumption, by assumption, by assumption, by assumption, by assumption, by assumption, by assumption⟩)).mono ?_; rintro e w1 ⟨rfl, a1, b1, c1, d1, e1, f1, g1⟩)
      | (go_at_call 41; refine (C2.out _ _ _ (by with_reducible rfl) (by with_reducible rfl) (by first | assumption | exact ⟨by assumption, by assumption, by assumption, by assumption, by assumption, by assumption, by assumption⟩)).mono ?_; rintro e w2 ⟨rfl, a2, b2, c2, d2, e2, f2, g2⟩)
      | (go_at_call 41; refine (C3.out _ _ _ (by with_reducible rfl) (by with_reducible rfl) (by first | assumption | exact ⟨by assumption, by assumption, by assumption, by assumption, by assumption, by assumption, by assumption⟩)).mono ?_; rintro e w3 ⟨rfl, a3, b3, c3, d3, e3, f3, g3⟩)
      | (go_at_call 41; refine (C4.out _ _ _ (by with_reducible rfl) (by with_reducible rfl) (by first | assumption | exact ⟨by assumption, by assumption, by assumption, by assumption, by assumption, by assumption, by assumption⟩)).mono ?_; rintro e w4 ⟨rfl, a4, b4, c4, d4, e4, f4, g4⟩))
  clear C1 C2 C3 C4 r1 r2 r3 r4 r5 r6 s1 s2 s3 s4 s5 s6 S0
  clear b1 b2 b3 b4 c1 c2 c3 c4 d1 d2 d3 d4 e1 e2 e3 e4 f1 f2 f3 f4 g1 g2 g3 g4 a1 a2 a3
  have hb4 := hide (HB.out.trans (a4.mono HB.out.size))
  clear a4
  go_wp2_with fail
  refine (crc_any A6 _ (by have := HZ.out; omega)).mono ?_
  rintro e w5 ⟨rfl, hw5⟩
  subst w5
  go_wp2_with fail
  refine (lowest_any (crcV A6.data.toList) _).mono ?_
  rintro e w6 ⟨rfl, hb6⟩
  have zL : (bs (le4 (crcV A6.data.toList))).size = 4 := by rw [bs_size]; rfl
  have hz := HZ.out
  have r7 := add_run HF.out (by rw [zL]; omega)
  have s7 := add_run2 HF.out (by rw [zL]; omega)
  generalize bs (le4 (crcV A6.data.toList)) = L at *
  clear zL hz
  go_wp2
  go_ret
  exact ⟨rfl, hb4.out.trans (hb6.mono hb4.out.size)⟩
end Go.Proofs.YtklaeocnimkboaaGreatDoor
