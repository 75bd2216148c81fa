/-
  Lookup: the first place of an id.
-/
import Derived.Test.YtkcefdiiibbflaaLuOf
namespace Go.Proofs.Ytkcefdiiibbflaa
open Go.RowKit Go.Lib
/-- A place's cells. -/
def pl5 (x : IT) : List Value := [.string x.pk, .int .i64 x.kind, .int .i64 x.off, .int .i64 x.long, .int .i64 x.size]
/-- What Get tells. -/
def gtV (l : List IT) : Value := match l with
  | [] => .tuple #[.agg #[.string ⟨#[]⟩, .int .i64 0, .int .i64 0, .int .i64 0, .int .i64 0], .bool false]
  | x :: _ => .tuple #[.agg (pl5 x).toArray, .bool true]
theorem five_set {w : World} {b : Nat} {z0 z1 z2 z3 z4 : Value} {T : TypeId} (h : w.heap[b]? = some (.cells #[z0, z1, z2, z3, z4] T (0, 0))) (x : IT) : (w.setCells b 0 (pl5 x)).heap[b]? = some (.cells (pl5 x).toArray T (0, 0)) := by
  simp only [World.setCells, pl5]
  have h0 := heap_set_self (j := 0) (u := .string x.pk) h
  have h1 := heap_set_self (j := 1) (u := .int .i64 x.kind) h0
  have h2 := heap_set_self (j := 2) (u := .int .i64 x.off) h1
  have h3 := heap_set_self (j := 3) (u := .int .i64 x.long) h2
  exact heap_set_self (j := 4) (u := .int .i64 x.size) h3
theorem five_store {w : World} {b : Nat} {z0 z1 z2 z3 z4 : Value} (h : w.heap[b]? = some (.cells #[z0, z1, z2, z3, z4] 23 (0, 0))) (x : IT) : (Instr.storeAt 23 (.pointer (some ⟨b, 0, none⟩)) (.agg (pl5 x).toArray)).run Try.prog w = .ok () (w.setCells b 0 (pl5 x)) := by
  have := run_storeAt_mid (P := Try.prog) w b 0 23 (pl5 x).toArray (fun j hj => by
    have hj : j < 5 := by simpa [pl5] using hj
    constructor
    · simp only [World.cell?, h]
      have : j = 0 ∨ j = 1 ∨ j = 2 ∨ j = 3 ∨ j = 4 := by omega
      rcases this with rfl | rfl | rfl | rfl | rfl <;> rfl
    · simp [World.frozen?, h]) (by kernel_rfl) (by simp [pl5, Value.oneCell'])
  simpa using this
theorem cell5 {w : World} {b : Nat} {x : IT} {T : TypeId} (h : w.heap[b]? = some (.cells (pl5 x).toArray T (0, 0))) : w.cell? ⟨b, 0, none⟩ = some (.string x.pk) ∧ w.cell? ⟨b, 1, none⟩ = some (.int .i64 x.kind) ∧ w.cell? ⟨b, 2, none⟩ = some (.int .i64 x.off) ∧ w.cell? ⟨b, 3, none⟩ = some (.int .i64 x.long) ∧ w.cell? ⟨b, 4, none⟩ = some (.int .i64 x.size) := by
  refine ⟨?_, ?_, ?_, ?_, ?_⟩ <;> (rw [cell_of_row w b _ _ _ _ h]; simp [pl5])
set_option maxRecDepth 100000 in
set_option maxHeartbeats 1600000 in
theorem get_any {R : Nat → Prop} {w : World} {tb : Nat} {L : List IT} (h : TB R w tb L) (hn : L.length ≤ 1000000) (q : ByteArray) :
    Calls Try.prog 17 #[.pointer (some ⟨tb, 0, none⟩), .string q] w fun e w' => e = .returned (gtV (L.filter fun x => decide (x.id = q))) ∧ Below w.heap.size w w' := by
  obtain ⟨U, hU⟩ : ∃ U, U = w.alloc (.cells #[.string ⟨#[]⟩, .int .i64 0, .int .i64 0, .int .i64 0, .int .i64 0] 23) := ⟨_, rfl⟩
  obtain ⟨z, hz⟩ : ∃ z, z = w.heap.size := ⟨_, rfl⟩
  have hB : Below w.heap.size w U := by rw [hU]; exact (Below.refl _ _).alloc (Nat.le_refl _) _
  have k0 : U.heap[z]? = some (.cells #[.string ⟨#[]⟩, .int .i64 0, .int .i64 0, .int .i64 0, .int .i64 0] 23 (0, 0)) := by rw [hU, hz]; exact heap_alloc_new w _
  have HO := hide (of_any (h.bel hB) hn q)
  have hfl : (L.filter fun x => decide (x.id = q)).length ≤ 1000000 := Nat.le_trans (List.length_filter_le _ _) hn
  generalize (L.filter fun x => decide (x.id = q)) = F at HO hfl ⊢
  have HU := hide hU
  have HZ := hide hz
  have HB := hide hB
  have K0 := hide k0
  clear hU hz hB k0 h
  go_enter Try.func17, Try.ntmps17
  go_upto_region 1 with fail
  rw [← HU.out, ← HZ.out]
  go_wp2_with fail
  refine HO.out.mono ?_
  rintro e U1 ⟨v, rfl, hLS, hB1⟩
  have k1 := (hB1.block z (lt_of_block K0.out)).trans K0.out
  have HB1 := hide (below_step HB.out hB1)
  have hz0 : w.heap.size ≤ z := by have := HZ.out; omega
  obtain ⟨a, c, rfl⟩ := hLS.shp
  have HL := hide hLS
  have K1 := hide k1
  clear hLS hB1 k1
  cases F with
  | nil =>
    have hst := five_store K1.out ⟨⟨#[]⟩, ⟨#[]⟩, 0, 0, 0, 0⟩
    have k2 := five_set K1.out ⟨⟨#[]⟩, ⟨#[]⟩, 0, 0, 0, 0⟩
    obtain ⟨V, hV⟩ : ∃ V, V = U1.setCells z 0 (pl5 ⟨⟨#[]⟩, ⟨#[]⟩, 0, 0, 0, 0⟩) := ⟨_, rfl⟩
    rw [← hV] at hst k2
    have HE : Hid (Below w.heap.size w V) := by
      have hg := gs_setCells z (pl5 ⟨⟨#[]⟩, ⟨#[]⟩, 0, 0, 0, 0⟩) 0 U1
      rw [← hV] at hg
      exact hide (hg.below HB1.out HB1.out.size (fun i hi => by omega))
    obtain ⟨f0, f1, f2, f3, f4⟩ := cell5 k2
    simp only [pl5, List.length_nil] at hst f0 f1 f2 f3 f4 ⊢
    clear k2 hV
    go_wp2_with (refine wpList_store_run rfl 23 _ _ rfl _ _ rfl rfl hst ?_)
    exact bodyPost_ret (v := .tuple #[.agg #[.string ⟨#[]⟩, .int .i64 0, .int .i64 0, .int .i64 0, .int .i64 0], .bool false]) (by simp [results, Try.results17, go_sem, f0, f1, f2, f3, f4]) rfl ⟨rfl, HE.out⟩
  | cons x r =>
    have hst := five_store K1.out x
    have k2 := five_set K1.out x
    obtain ⟨V, hV⟩ : ∃ V, V = U1.setCells z 0 (pl5 x) := ⟨_, rfl⟩
    rw [← hV] at hst k2
    have HE : Hid (Below w.heap.size w V) := by
      have hg := gs_setCells z (pl5 x) 0 U1
      rw [← hV] at hg
      exact hide (hg.below HB1.out HB1.out.size (fun i hi => by omega))
    obtain ⟨f0, f1, f2, f3, f4⟩ := cell5 k2
    obtain ⟨a', c', e', _, h2 | ⟨g, o, ea, _, hg, hG⟩⟩ := HL.out
    · cases h2
    injection e' with e1 _ _
    subst e1
    subst ea
    have hc : ∀ (t : Nat) (v : Value), (it6 x)[t]? = some v → U1.cell? ⟨g, o + 0 * 6 + t, none⟩ = some v := fun t v hv => hG 0 x rfl t v hv
    have u1 := hc 1 _ rfl
    have u2 := hc 2 _ rfl
    have u3 := hc 3 _ rfl
    have u4 := hc 4 _ rfl
    have u5 := hc 5 _ rfl
    simp only [Nat.zero_mul, Nat.add_zero] at u1 u2 u3 u4 u5
    obtain ⟨n, hnn⟩ : ∃ n, n = (x :: r).length := ⟨_, rfl⟩
    have hn0 : ¬ n = 0 := by rw [hnn]; simp
    have hn1 : ((n : Int) == 0) = false := by simp only [beq_eq_false_iff_ne]; omega
    have hn2 : (0 : Int) < (n : Int) := by omega
    rw [← hnn] at hfl ⊢
    simp only [pl5] at hst f0 f1 f2 f3 f4
    clear k2 hV hc hG hg hnn hn0
    go_wp2_with (refine wpList_store_run rfl 23 _ _ rfl _ _ rfl rfl hst ?_)
    exact bodyPost_ret (v := .tuple #[.agg #[.string x.pk, .int .i64 x.kind, .int .i64 x.off, .int .i64 x.long, .int .i64 x.size], .bool true]) (by simp [results, Try.results17, go_sem, f0, f1, f2, f3, f4]) rfl ⟨rfl, HE.out⟩
end Go.Proofs.Ytkcefdiiibbflaa
