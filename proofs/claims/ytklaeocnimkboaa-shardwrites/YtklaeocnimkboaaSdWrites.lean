/-
  ShardWrites: checks, which shards may be, their bytes, and what any bytes are as a shard: as the document has it.
-/
import Derived.Test.YtklaeocnimkboaaSdRefDec
import Derived.Test.YtklaeocnimkboaaSdBack
import Derived.Deep.RegionHeld3
namespace Go.Proofs.Ytklaeocnimkboaa
open Go.RowKit Go.Lib

set_option maxRecDepth 100000 in
set_option maxHeartbeats 400000 in
theorem refEncode_ok (k m i long : Int) (id data : ByteArray) (w : World) (h : okS ⟨k, m, i, long, id, data⟩) :
    Calls Try.prog 7 #[.agg #[.int .i64 k, .int .i64 m, .int .i64 i, .int .i64 long, .string id, .string data]] w fun e w' => e = .returned (.tuple #[.string (bs (fullL ⟨k, m, i, long, id, data⟩)), .int .i64 0]) ∧ Below w.heap.size w w' := by
  have HO := hide h
  obtain ⟨K, M, I, L, rfl, rfl, rfl, rfl, hK, hM, hI, hL, hid, hd⟩ := okS_nat h
  obtain ⟨A, hA⟩ : ∃ A, A = bs (fullL ⟨K, M, I, L, id, data⟩) := ⟨_, rfl⟩
  rw [← hA]
  have HA := hide hA
  have X := SK.new 29 w K M I L id data
  have hB0 : Hid (Below w.heap.size w (w.alloc (.cells #[.int .i64 (K : Int), .int .i64 (M : Int), .int .i64 (I : Int), .int .i64 (L : Int), .string id, .string data] 29))) := below_alloc (Below.refl _ _) _
  have HX := hide X
  clear h X hA
  go_enter Try.func7, Try.ntmps7
  go_wp2_with fail
  refine (refCheck_ok _ _ _ _ id data _ HO.out).mono ?_
  rintro e w1 ⟨rfl, hb1⟩
  have HB1 := hide (hB0.out.trans (hb1.mono hB0.out.size))
  have Y := HX.out.below hb1 HX.out.lt
  have c0 := Y.cell0
  have c1 := Y.cell1
  have c2 := Y.cell2
  have c3 := Y.cell3
  have c4 := Y.cell4
  have c5 := Y.cell5
  clear hb1 HX hB0 Y
  go_wp2_with fail
  refine (refText_any K M I L id data _ hK hM hI (by omega) (by omega) (by omega)).mono ?_
  rintro e w2 ⟨rfl, hb2⟩
  rw [← HA.out]
  go_wp2
  go_ret2
  exact ⟨rfl, HB1.out.trans (hb2.mono HB1.out.size)⟩

set_option maxRecDepth 100000 in
theorem refEncode_bad (k m i long : Int) (id data : ByteArray) (w : World) (h : ¬ okS ⟨k, m, i, long, id, data⟩) :
    Calls Try.prog 7 #[.agg #[.int .i64 k, .int .i64 m, .int .i64 i, .int .i64 long, .string id, .string data]] w fun e w' => e = .returned (.tuple #[.string ⟨#[]⟩, .int .i64 60]) ∧ Below w.heap.size w w' := by
  have HO := hide h
  have hB0 : Hid (Below w.heap.size w (w.alloc (.cells #[.int .i64 k, .int .i64 m, .int .i64 i, .int .i64 long, .string id, .string data] 29))) := below_alloc (Below.refl _ _) _
  clear h
  go_enter Try.func7, Try.ntmps7
  go_wp2_with fail
  refine (refCheck_bad _ _ _ _ id data _ HO.out).mono ?_
  rintro e w1 ⟨rfl, hb1⟩
  have HB1 := hide (hB0.out.trans (hb1.mono hB0.out.size))
  clear hb1 hB0
  go_wp2
  go_ret2
  exact ⟨rfl, HB1.out⟩

set_option maxRecDepth 100000 in
theorem of_any (k m i long : Int) (id data : ByteArray) (w : World) :
    Calls Try.prog 8 #[.agg #[.int .i64 k, .int .i64 m, .int .i64 i, .int .i64 long, .string id, .string data]] w fun e w' => e = .returned (.agg #[.int .i64 k, .int .i64 m, .int .i64 i, .int .i64 long, .string id, .string data]) ∧ Below w.heap.size w w' := by
  go_enter Try.func8, Try.ntmps8
  go_wp2
  exact bodyPost_ret (v := .agg #[.int .i64 k, .int .i64 m, .int .i64 i, .int .i64 long, .string id, .string data]) (by simp [results, Try.results8, go_sem]) rfl ⟨rfl, below_alloc (below_alloc (Below.refl _ _) _) _⟩

set_option maxRecDepth 100000 in
set_option maxHeartbeats 800000 in
theorem same_true (k m i long : Int) (id data : ByteArray) (w : World) :
    Calls Try.prog 13 #[.agg #[.int .i64 k, .int .i64 m, .int .i64 i, .int .i64 long, .string id, .string data], .agg #[.int .i64 k, .int .i64 m, .int .i64 i, .int .i64 long, .string id, .string data]] w fun e w' => e = .returned (.bool true) ∧ Below w.heap.size w w' := by
  have X0 := (SK.new 23 w k m i long id data).alloc (.cells #[.int .i64 k, .int .i64 m, .int .i64 i, .int .i64 long, .string id, .string data] 29)
  have Y0 := SK.new 29 (w.alloc (.cells #[.int .i64 k, .int .i64 m, .int .i64 i, .int .i64 long, .string id, .string data] 23)) k m i long id data
  rw [World.size_alloc] at Y0
  obtain ⟨W, hW⟩ : ∃ W, W = (w.alloc (.cells #[.int .i64 k, .int .i64 m, .int .i64 i, .int .i64 long, .string id, .string data] 23)).alloc (.cells #[.int .i64 k, .int .i64 m, .int .i64 i, .int .i64 long, .string id, .string data] 29) := ⟨_, rfl⟩
  rw [← hW] at X0 Y0
  have HB : Hid (Below w.heap.size w W) := by rw [hW]; exact below_alloc (below_alloc (Below.refl _ _) _) _
  have KS : Hid (∀ w' w'' : World, Below W.heap.size W w' → Below w'.heap.size w' w'' → (Below W.heap.size W w'' ∧ w''.cell? ⟨w.heap.size, 0, none⟩ = some (.int .i64 k) ∧ w''.cell? ⟨w.heap.size, 1, none⟩ = some (.int .i64 m) ∧ w''.cell? ⟨w.heap.size, 2, none⟩ = some (.int .i64 i) ∧ w''.cell? ⟨w.heap.size, 3, none⟩ = some (.int .i64 long) ∧ w''.cell? ⟨w.heap.size, 4, none⟩ = some (.string id) ∧ w''.cell? ⟨w.heap.size, 5, none⟩ = some (.string data) ∧ w''.cell? ⟨(w.heap.size + 1), 0, none⟩ = some (.int .i64 k) ∧ w''.cell? ⟨(w.heap.size + 1), 1, none⟩ = some (.int .i64 m) ∧ w''.cell? ⟨(w.heap.size + 1), 2, none⟩ = some (.int .i64 i) ∧ w''.cell? ⟨(w.heap.size + 1), 3, none⟩ = some (.int .i64 long) ∧ w''.cell? ⟨(w.heap.size + 1), 4, none⟩ = some (.string id) ∧ w''.cell? ⟨(w.heap.size + 1), 5, none⟩ = some (.string data))) := fun w' w'' h1 h2 => by
    have h := below_step h1 h2
    have A := X0.below h X0.lt
    have B := Y0.below h Y0.lt
    exact ⟨h, A.cell0, A.cell1, A.cell2, A.cell3, A.cell4, A.cell5, B.cell0, B.cell1, B.cell2, B.cell3, B.cell4, B.cell5⟩
  have S0 : Hid (Below W.heap.size W W.drew ∧ W.drew.cell? ⟨w.heap.size, 0, none⟩ = some (.int .i64 k) ∧ W.drew.cell? ⟨w.heap.size, 1, none⟩ = some (.int .i64 m) ∧ W.drew.cell? ⟨w.heap.size, 2, none⟩ = some (.int .i64 i) ∧ W.drew.cell? ⟨w.heap.size, 3, none⟩ = some (.int .i64 long) ∧ W.drew.cell? ⟨w.heap.size, 4, none⟩ = some (.string id) ∧ W.drew.cell? ⟨w.heap.size, 5, none⟩ = some (.string data) ∧ W.drew.cell? ⟨(w.heap.size + 1), 0, none⟩ = some (.int .i64 k) ∧ W.drew.cell? ⟨(w.heap.size + 1), 1, none⟩ = some (.int .i64 m) ∧ W.drew.cell? ⟨(w.heap.size + 1), 2, none⟩ = some (.int .i64 i) ∧ W.drew.cell? ⟨(w.heap.size + 1), 3, none⟩ = some (.int .i64 long) ∧ W.drew.cell? ⟨(w.heap.size + 1), 4, none⟩ = some (.string id) ∧ W.drew.cell? ⟨(w.heap.size + 1), 5, none⟩ = some (.string data)) := ⟨(Below.refl _ _).drew, X0.cell0, X0.cell1, X0.cell2, X0.cell3, X0.cell4, X0.cell5, Y0.cell0, Y0.cell1, Y0.cell2, Y0.cell3, Y0.cell4, Y0.cell5⟩
  have C1 : Hid (∀ (v : Value) (w' : World), v = .agg #[.int .i64 k, .int .i64 m, .int .i64 i, .int .i64 long, .string id, .string data] → (Below W.heap.size W w' ∧ w'.cell? ⟨w.heap.size, 0, none⟩ = some (.int .i64 k) ∧ w'.cell? ⟨w.heap.size, 1, none⟩ = some (.int .i64 m) ∧ w'.cell? ⟨w.heap.size, 2, none⟩ = some (.int .i64 i) ∧ w'.cell? ⟨w.heap.size, 3, none⟩ = some (.int .i64 long) ∧ w'.cell? ⟨w.heap.size, 4, none⟩ = some (.string id) ∧ w'.cell? ⟨w.heap.size, 5, none⟩ = some (.string data) ∧ w'.cell? ⟨(w.heap.size + 1), 0, none⟩ = some (.int .i64 k) ∧ w'.cell? ⟨(w.heap.size + 1), 1, none⟩ = some (.int .i64 m) ∧ w'.cell? ⟨(w.heap.size + 1), 2, none⟩ = some (.int .i64 i) ∧ w'.cell? ⟨(w.heap.size + 1), 3, none⟩ = some (.int .i64 long) ∧ w'.cell? ⟨(w.heap.size + 1), 4, none⟩ = some (.string id) ∧ w'.cell? ⟨(w.heap.size + 1), 5, none⟩ = some (.string data)) → Calls Try.prog 8 #[v] w' fun e w'' => e = .returned (.agg #[.int .i64 k, .int .i64 m, .int .i64 i, .int .i64 long, .string id, .string data]) ∧ (Below W.heap.size W w'' ∧ w''.cell? ⟨w.heap.size, 0, none⟩ = some (.int .i64 k) ∧ w''.cell? ⟨w.heap.size, 1, none⟩ = some (.int .i64 m) ∧ w''.cell? ⟨w.heap.size, 2, none⟩ = some (.int .i64 i) ∧ w''.cell? ⟨w.heap.size, 3, none⟩ = some (.int .i64 long) ∧ w''.cell? ⟨w.heap.size, 4, none⟩ = some (.string id) ∧ w''.cell? ⟨w.heap.size, 5, none⟩ = some (.string data) ∧ w''.cell? ⟨(w.heap.size + 1), 0, none⟩ = some (.int .i64 k) ∧ w''.cell? ⟨(w.heap.size + 1), 1, none⟩ = some (.int .i64 m) ∧ w''.cell? ⟨(w.heap.size + 1), 2, none⟩ = some (.int .i64 i) ∧ w''.cell? ⟨(w.heap.size + 1), 3, none⟩ = some (.int .i64 long) ∧ w''.cell? ⟨(w.heap.size + 1), 4, none⟩ = some (.string id) ∧ w''.cell? ⟨(w.heap.size + 1), 5, none⟩ = some (.string data))) := fun v w' hv h => by
    subst hv
    exact (of_any k m i long id data w').mono fun _ _ ⟨he, hk⟩ => ⟨he, KS.out _ _ h.1 hk⟩
  have HW := hide hW
  clear hW X0 Y0 KS
  go_enter Try.func13, Try.ntmps13
  go_wp2_with fail
  rw [← HW.out]
  go_region_held3 (fun w' => Below W.heap.size W w' ∧ w'.cell? ⟨w.heap.size, 0, none⟩ = some (.int .i64 k) ∧ w'.cell? ⟨w.heap.size, 1, none⟩ = some (.int .i64 m) ∧ w'.cell? ⟨w.heap.size, 2, none⟩ = some (.int .i64 i) ∧ w'.cell? ⟨w.heap.size, 3, none⟩ = some (.int .i64 long) ∧ w'.cell? ⟨w.heap.size, 4, none⟩ = some (.string id) ∧ w'.cell? ⟨w.heap.size, 5, none⟩ = some (.string data) ∧ w'.cell? ⟨(w.heap.size + 1), 0, none⟩ = some (.int .i64 k) ∧ w'.cell? ⟨(w.heap.size + 1), 1, none⟩ = some (.int .i64 m) ∧ w'.cell? ⟨(w.heap.size + 1), 2, none⟩ = some (.int .i64 i) ∧ w'.cell? ⟨(w.heap.size + 1), 3, none⟩ = some (.int .i64 long) ∧ w'.cell? ⟨(w.heap.size + 1), 4, none⟩ = some (.string id) ∧ w'.cell? ⟨(w.heap.size + 1), 5, none⟩ = some (.string data)) (first | assumption | exact S0.out)
    (first
      | (go_at_call 8; refine (C1.out _ _ (by with_reducible rfl) (by assumption)).mono ?_; rintro e wa ⟨rfl, ka⟩))
  have hbb := hide (HB.out.trans (ka.1.mono HB.out.size))
  clear ka C1 S0
  go_wp2
  go_ret
  exact ⟨rfl, hbb.out⟩
end Go.Proofs.Ytklaeocnimkboaa
