/-
  Gear: the chunks, by the document; what is refused.
-/
import Derived.Test.YtdmlhkphdolbeaaDoorGeCut
namespace Go.Proofs.YtdmlhkphdolbeaaDoor
open Go.RowKit Go.Lib
section
variable {w : World} {L B M : Nat} {s : ByteArray}
set_option maxRecDepth 100000 in
set_option maxHeartbeats 1600000 in
theorem rcut_any (o : OkX L B M) (hs : s.size ≤ 10000) : Calls Tryd.prog 27 #[.agg #[.int .i64 (L : Int), .int .i64 (B : Int), .int .i64 (M : Int)], .string s] w fun e w' => ∃ v, e = .returned v ∧ TS w.heap.size v (cuts L B M s) w' ∧ Below w.heap.size w w' := by
  obtain ⟨w1, hw1⟩ : ∃ w1, w1 = w.alloc (.cells #[.int .i64 (L : Int), .int .i64 (B : Int), .int .i64 (M : Int)] 25) := ⟨_, rfl⟩
  have hB1 : Below w.heap.size w w1 := by rw [hw1]; exact (Below.refl _ _).alloc (Nat.le_refl _) _
  have hW3 : w1.heap[w.heap.size]? = some (.cells #[.int .i64 (L : Int), .int .i64 (B : Int), .int .i64 (M : Int)] 25 (0, 0)) := by rw [hw1]; exact heap_alloc_new w _
  have hs1 : w1.heap.size = w.heap.size + 1 := by rw [hw1]; simp
  have hw1' := hw1.symm
  have H1 := hide (And.intro hB1 (And.intro hW3 (And.intro hs1 o)))
  have HCL := hide (cuts_len (L := L) (B := B) (M := M) s)
  clear hw1 hB1 hW3 o hs1
  go_enter Tryd.func27, Tryd.ntmps27
  go_wp2
  go_loopw [1, 5] (fun r v wr => ∃ (t : Nat) (rb : ByteArray), r = .string rb ∧ (cuts L B M s).drop t = cuts L B M rb ∧ t ≤ (cuts L B M s).length ∧ rb.size ≤ 10000 ∧ TS w1.heap.size v ((cuts L B M s).take t) wr ∧ Below w1.heap.size w1 wr) (fun r _ _ => szV r)
  case atStart => exact ⟨0, s, rfl, rfl, Nat.zero_le _, hs, TS.nil _ _, Below.refl _ _⟩
  case round =>
    obtain ⟨t, rb, rfl, hd, ht, hrb, hT, hb⟩ := hrel
    obtain ⟨hB1, hW3, hs1, o⟩ := H1.out
    by_cases h0 : rb.size = 0
    · have hle : (cuts L B M s).length ≤ t := by rw [cuts_nil h0] at hd; exact List.drop_eq_nil_iff.1 hd
      rw [List.take_of_length_le hle] at hT
      have HE := hide (And.intro (hT.mono (B' := w.heap.size) (by omega)) (below_step hB1 hb))
      have e0 := size_nil h0
      subst e0
      clear hd hT hb hB1 hW3 o hle
      go_wp2
      go_ret
      exact ⟨_, rfl, HE.out⟩
    · have hne1 : rb.toList.isEmpty = false := by
        rw [bytes_list]
        exact List.isEmpty_eq_false_iff.2 (fun e => h0 (by have := congrArg List.length e; simpa using this))
      obtain ⟨n, hn⟩ : ∃ n, n = fl L B M rb := ⟨_, rfl⟩
      have hn1 : n ≤ rb.size := by rw [hn]; exact fl_le o rb
      have hn2 : 1 ≤ n := by rw [hn]; exact fl_pos o (by omega)
      have HC := hide (rlong_any (w := wr) o (s := rb) (by omega))
      rw [← hn] at HC
      have hcc := cuts_cons o (s := rb) (by omega)
      rw [← hn] at hcc
      have hdc := hd.trans hcc
      have hct : (cuts L B M s)[t]? = some (rb.extract 0 n) := by
        have := congrArg (·[0]?) hdc
        simpa using this
      have hdn : (cuts L B M s).drop (t + 1) = cuts L B M (rb.extract n rb.size) := by
        have := congrArg (List.drop 1) hdc
        simpa [Nat.add_comm] using this
      have htl : t < (cuts L B M s).length := (List.getElem?_eq_some_iff.1 hct).1
      obtain ⟨z0, z1, z2⟩ := cell3 ((hb.block _ (by omega)).trans hW3)
      have HX := hide (And.intro hct (And.intro hdn (And.intro hT (And.intro hb htl))))
      have i1 : (n : Int) ≤ (rb.size : Int) := by omega
      have i0 : (0 : Int) ≤ (n : Int) := by omega
      clear hd hT hb hcc hdc hct hdn hn hB1 hW3 o htl
      go_wp2_with fail
      refine HC.out.mono ?_
      rintro _ w5 ⟨rfl, hb5⟩
      obtain ⟨hct, hdn, hT, hb, htl⟩ := HX.out
      have hb15 := below_step hb hb5
      obtain ⟨v', w6, hr, hT6, hB6, _⟩ := (hT.keep hb5).one (rb.extract 0 n) (by have := HCL.out; rw [List.length_take]; omega) hb15.size
      have htk : (cuts L B M s).take t ++ [rb.extract 0 n] = (cuts L B M s).take (t + 1) := by rw [List.take_add_one, hct]; rfl
      rw [htk] at hT6
      have HE := hide (And.intro hT6 (And.intro (hB6 _ hb15) (And.intro hdn htl)))
      clear hct hdn hT hb hb15 hT6 hB6 htk hb5 HX htl
      go_wp2_with (at_builtin; refine Lib.wpList_append_run _ rfl _ _ _ _ rfl _ _ rfl rfl _ _ hr ?_)
      exact ⟨⟨t + 1, rb.extract n rb.size, rfl, HE.out.2.2.1, HE.out.2.2.2, by rw [ByteArray.size_extract]; omega, HE.out.1, HE.out.2.1⟩, by simp only [szV, ByteArray.size_extract]; omega⟩
end
end Go.Proofs.YtdmlhkphdolbeaaDoor
