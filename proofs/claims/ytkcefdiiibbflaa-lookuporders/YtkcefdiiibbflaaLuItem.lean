/-
  Lookup: the statements' items.
-/
import Derived.Test.YtkcefdiiibbflaaLuGet2
import Derived.Test.YtkcefdiiibbflaaLuRep
import Derived.Test.YtkcefdiiibbflaaStAmg
import Derived.Lib.VarintMem
namespace Go.Proofs.Ytkcefdiiibbflaa
open Go.RowKit Go.Lib
/-- One byte, as a text. -/
def b1 (k : Nat) : ByteArray := ⟨#[UInt8.ofNat k]⟩
theorem conv1 {w : World} {g : Nat} {a : UInt8} (h : w.heap[g]? = some (.cells #[.int .u8 (a.toNat : Int)] 5 (0, 0))) :
    (convert 54 9 (.slice (some ⟨g, 0, none⟩) 1 1)).run Try.prog w = .ok (.string ⟨#[a]⟩) w := by
  have h0 : w.cell? ⟨g, 0, none⟩ = some (.int .u8 (a.toNat : Int)) := by simp [World.cell?, h]
  have := run_convert_bytes_arg w 54 5 Try.underlying54 Try.underlying5 g 0 1 1 ([a].map fun b => (b.toNat : Int)) (by simp)
    (fun i hi => by
      rw [Nat.zero_add]
      match i, hi with
      | 0, _ => exact h0) 9 Try.underlying9
  rw [this]
  simp [strOfNums]
theorem conv_k {k : Nat} (hk : k < 256) (w1 : World) : (convert 54 9 (.slice (some ⟨w1.heap.size, 0, none⟩) 1 1)).run Try.prog (w1.alloc (.cells #[.int .u8 (k : Int)] 5)) = .ok (.string (b1 k)) (w1.alloc (.cells #[.int .u8 (k : Int)] 5)) := by
  have e : (k : Int) = ((UInt8.ofNat k).toNat : Int) := by
    rw [UInt8.toNat_ofNat']
    omega
  have h := heap_alloc_new w1 (.cells #[.int .u8 (k : Int)] 5)
  rw [e] at h
  have := conv1 h
  rw [← e] at this
  exact this
/-- A byte, 32 times. -/
def rp (k : Nat) : ByteArray := ⟨(Lib.repeatL (b1 k).data.toList 32).toArray⟩
/-- An item of numbers. -/
def itm (i p o : Nat) : IT := ⟨rp (i * 13), rp (97 + p), 1, (o : Nat), 5, 3⟩
theorem six_store {w : World} {b : Nat} {z0 z1 z2 z3 z4 z5 : Value} (h : w.heap[b]? = some (.cells #[z0, z1, z2, z3, z4, z5] 25 (0, 0))) (x : IT) : (Instr.storeAt 25 (.pointer (some ⟨b, 0, none⟩)) (.agg (it6 x).toArray)).run Try.prog w = .ok () (w.setCells b 0 (it6 x)) ∧ (w.setCells b 0 (it6 x)).heap[b]? = some (.cells (it6 x).toArray 25 (0, 0)) := by
  have hb : KB6 w b 6 := ⟨_, h, rfl⟩
  have := run_storeAt_mid (P := Try.prog) w b 0 25 (it6 x).toArray (hb.there (by simp [it6])) Try.sizeIt (all_oneCell_toArray (it6_one x))
  refine ⟨by simpa using this, ?_⟩
  simp only [World.setCells, it6]
  have h0 := heap_set_self (j := 0) (u := .string x.id) h
  have h1 := heap_set_self (j := 1) (u := .string x.pk) h0
  have h2 := heap_set_self (j := 2) (u := .int .i64 x.kind) h1
  have h3 := heap_set_self (j := 3) (u := .int .i64 x.off) h2
  have h4 := heap_set_self (j := 4) (u := .int .i64 x.long) h3
  exact heap_set_self (j := 5) (u := .int .i64 x.size) h4
theorem cell6r {w : World} {b : Nat} {z0 z1 z2 z3 z4 z5 : Value} (h : w.heap[b]? = some (.cells #[z0, z1, z2, z3, z4, z5] 25 (0, 0))) : w.cell? ⟨b, 0, none⟩ = some z0 ∧ w.cell? ⟨b, 1, none⟩ = some z1 ∧ w.cell? ⟨b, 2, none⟩ = some z2 ∧ w.cell? ⟨b, 3, none⟩ = some z3 ∧ w.cell? ⟨b, 4, none⟩ = some z4 ∧ w.cell? ⟨b, 5, none⟩ = some z5 := by
  simp [World.cell?, h]
/-- The result's block stands as it was made. -/
structure ZK (w : World) (y : Nat) (z : Array Value) (W : World) : Prop where
  bel : Below w.heap.size w W
  row : W.heap[y]? = some (.cells z 25 (0, 0))
  ge : w.heap.size ≤ y
theorem ZK.alloc {w : World} {y : Nat} {z : Array Value} {W : World} (h : ZK w y z W) (o : Obj) : ZK w y z (W.alloc o) := by
  have hy : y < W.heap.size := (Array.getElem?_eq_some_iff.1 h.row).choose
  exact ⟨h.bel.alloc h.bel.size o, by rw [Below.heap_alloc _ _ _ hy]; exact h.row, h.ge⟩
theorem ZK.step {w : World} {y : Nat} {z : Array Value} {W W' : World} (h : ZK w y z W) (k : Below W.heap.size W W') : ZK w y z W' := by
  have hy : y < W.heap.size := (Array.getElem?_eq_some_iff.1 h.row).choose
  exact ⟨h.bel.trans (k.mono h.bel.size), by rw [k.block y hy]; exact h.row, h.ge⟩
set_option maxRecDepth 100000 in
set_option maxHeartbeats 1600000 in
theorem item_any (i p o : Int) (w : World) : Calls Try.prog 16 #[.int .i64 i, .int .i64 p, .int .i64 o] w fun e w' => e = .returned (.agg (it6 (itm (amg i 20) (amg p 5) (amg o 100))).toArray) ∧ Below w.heap.size w w' := by
  obtain ⟨_, r2, _, _⟩ := amg_spec i 20 (by decide)
  obtain ⟨_, c2, _, _⟩ := amg_spec p 5 (by decide)
  have AI : Hid (∀ w : World, Calls Try.prog 26 #[.int .i64 i, .int .i64 20] w fun e w' => e = .returned (.int .i64 ((amg i 20 : Nat) : Int)) ∧ w' = w) := fun w => among_any w i 20 (by decide) (by decide)
  have AP : Hid (∀ w : World, Calls Try.prog 26 #[.int .i64 p, .int .i64 5] w fun e w' => e = .returned (.int .i64 ((amg p 5 : Nat) : Int)) ∧ w' = w) := fun w => among_any w p 5 (by decide) (by decide)
  have AO : Hid (∀ w : World, Calls Try.prog 26 #[.int .i64 o, .int .i64 100] w fun e w' => e = .returned (.int .i64 ((amg o 100 : Nat) : Int)) ∧ w' = w) := fun w => among_any w o 100 (by decide) (by decide)
  generalize amg i 20 = a at *
  generalize amg p 5 = b at *
  generalize amg o 100 = c at *
  obtain ⟨k1, hk1⟩ : ∃ k1, k1 = 97 + b := ⟨_, rfl⟩
  obtain ⟨k2, hk2⟩ : ∃ k2, k2 = a * 13 := ⟨_, rfl⟩
  have e1 : (97 : Int) + (b : Int) = (k1 : Int) := by omega
  have e2 : (a : Int) * 13 = (k2 : Int) := by omega
  have e3 : IntKind.u8.wrap (k1 : Int) = (k1 : Int) := by rw [IntKind.wrap_u8]; omega
  have e4 : IntKind.u8.wrap (k2 : Int) = (k2 : Int) := by rw [IntKind.wrap_u8]; omega
  have e5 : IntKind.i64.wrap (k1 : Int) = (k1 : Int) := by rw [IntKind.wrap_i64]; omega
  have e6 : IntKind.i64.wrap (k2 : Int) = (k2 : Int) := by rw [IntKind.wrap_i64]; omega
  have cv1 := fun w => conv_k (k := k1) (by omega) w
  have cv2 := fun w => conv_k (k := k2) (by omega) w
  have RP : Hid (∀ (k : Nat) (w : World), Calls Try.prog 27 #[.string (b1 k), .int .i64 32] w fun e w' => e = .returned (.string (rp k)) ∧ Below w.heap.size w w') := hide fun k w => Try.strings_Repeat (b1 k) 32 w (by omega) (by show 1 * 32 ≤ _; omega)
  obtain ⟨X, hX⟩ : ∃ X, X = itm a b c := ⟨_, rfl⟩
  rw [← hX]
  have hXX : X = ⟨rp k2, rp k1, 1, (c : Nat), 5, 3⟩ := by rw [hX, hk1, hk2]; rfl
  have HX := hide hXX
  obtain ⟨y, hy⟩ : ∃ y, y = w.heap.size := ⟨_, rfl⟩
  have HB : Hid (∀ z : Array Value, Below w.heap.size w (w.alloc (.cells z 25)) ∧ (w.alloc (.cells z 25)).heap[y]? = some (.cells z 25 (0, 0))) := hide fun z => ⟨(Below.refl _ _).alloc (Nat.le_refl _) _, by rw [hy]; exact heap_alloc_new w _⟩
  have HY := hide hy
  clear hX hXX hy hk1 hk2
  go_enter Try.func16, Try.ntmps16
  go_upto_region 1 with fail
  rw [← HY.out]
  obtain ⟨hB0, hK0⟩ := HB.out #[.string ⟨#[]⟩, .string ⟨#[]⟩, .int .i64 0, .int .i64 0, .int .i64 0, .int .i64 0]
  generalize w.alloc (.cells #[.string ⟨#[]⟩, .string ⟨#[]⟩, .int .i64 0, .int .i64 0, .int .i64 0, .int .i64 0] 25) = W0 at hB0 hK0 ⊢
  have H0 := hide (ZK.mk hB0 hK0 (Nat.le_of_eq HY.out.symm))
  clear hB0 hK0 HB
  go_upto_region 2 with (go_at_call 26; refine Calls.mono (AP.out _) ?_; rintro e w9 ⟨rfl, hw9⟩; subst hw9)
  have H1 := hide (H0.out.alloc (.cells #[.int .u8 (k1 : Int)] 5))
  clear H0
  generalize World.alloc _ (.cells #[.int .u8 (k1 : Int)] 5) = W1 at H1 ⊢
  go_upto_region 3 with (go_at_call 26; refine Calls.mono (AI.out _) ?_; rintro e w9 ⟨rfl, hw9⟩; subst hw9)
  have H := hide (H1.out.alloc (.cells #[.int .u8 (k2 : Int)] 5))
  clear H1
  generalize World.alloc _ (.cells #[.int .u8 (k2 : Int)] 5) = W2 at H ⊢
  go_wp2_with (go_at_call 27; refine Calls.mono (RP.out _ _) ?_; rintro e w8 ⟨rfl, hb⟩; have hh := H.out.step hb; clear H hb; have H := hide hh; clear hh)
  refine Calls.mono (AO.out _) ?_
  rintro e w9 ⟨rfl, hw9⟩
  subst hw9
  obtain ⟨hst, q2⟩ := six_store H.out.row ⟨rp k2, rp k1, 1, (c : Nat), 5, 3⟩
  have hge := H.out.ge
  have HE := (gs_setCells y (it6 ⟨rp k2, rp k1, 1, (c : Nat), 5, 3⟩) 0 _).below H.out.bel H.out.bel.size (fun i hi => by omega)
  generalize World.setCells _ y 0 (it6 ⟨rp k2, rp k1, 1, (c : Nat), 5, 3⟩) = V at hst q2 HE
  obtain ⟨f0, f1, f2, f3, f4, f5⟩ := cell6r q2
  simp only [it6] at hst
  clear q2
  have HF := hide HE
  clear HE H
  go_wp2_with (refine wpList_store_run rfl 25 _ _ rfl _ _ rfl rfl hst ?_)
  rw [HX.out]
  exact bodyPost_ret (v := .agg #[.string (rp k2), .string (rp k1), .int .i64 1, .int .i64 (c : Nat), .int .i64 5, .int .i64 3]) (by simp [results, Try.results16, go_sem, f0, f1, f2, f3, f4, f5]) rfl ⟨rfl, HF.out⟩
end Go.Proofs.Ytkcefdiiibbflaa
