/-
  Plain mathematics: the shards of a sum.
-/
import Derived.Test.YtfjkdmiaagalhaaRef6
namespace Go.Proofs.Ytfjkdmiaagalhaa.Fd
open Go.RowKit Go.Lib

theorem xorL_comm (a b : List UInt8) : xorL a b = xorL b a := by
  rw [xorL, xorL, List.zipWith_comm]
  congr 1
  funext x y
  exact UInt8.xor_comm y x
theorem xorL_assoc : ∀ a b c : List UInt8, xorL (xorL a b) c = xorL a (xorL b c)
  | [], _, _ => by simp [xorL]
  | _ :: _, [], _ => by simp [xorL]
  | _ :: _, _ :: _, [] => by simp [xorL]
  | x :: a, y :: b, z :: c => by
    have ih := xorL_assoc a b c
    simp only [xorL, List.zipWith_cons_cons] at ih ⊢
    rw [ih, UInt8.xor_assoc]
theorem xorL_four (a b c d : List UInt8) : xorL (xorL a b) (xorL c d) = xorL (xorL a c) (xorL b d) := by
  rw [xorL_assoc, xorL_assoc, ← xorL_assoc b c d, xorL_comm b c, xorL_assoc c b d]
theorem xorL_zeros (N : Nat) : xorL (List.replicate N 0) (List.replicate N 0) = List.replicate N 0 := by
  have := xor_zeroL (List.replicate N 0)
  rwa [List.length_replicate] at this
theorem byL_zeros (N d : Nat) : byL (List.replicate N 0) d = List.replicate N 0 := by
  rw [byL, List.map_replicate]
  congr 1
theorem mix_sum (N : Nat) (X Y U : Nat → ByteArray) (C : Nat → Nat) (n : Nat) (hC : ∀ i, i < n → C i < 256) (hU : ∀ i, i < n → (U i).data.toList = xorL (X i).data.toList (Y i).data.toList) :
    ∀ j, j ≤ n → mixAt N U C j = xorL (mixAt N X C j) (mixAt N Y C j)
  | 0, _ => by rw [mixAt, mixAt, mixAt, xorL_zeros]
  | j + 1, hj => by rw [mixAt, mixAt, mixAt, mix_sum N X Y U C n hC hU j (by omega), hU j (by omega), byL_xor _ (hC j (by omega)), xorL_four]
end Go.Proofs.Ytfjkdmiaagalhaa.Fd
namespace Go.Proofs.Ytfjkdmiaagalhaa
open Go.RowKit Go.Lib

theorem ext_list (s : ByteArray) (a b : Nat) : (s.extract a b).data.toList = (s.data.toList.drop a).take (b - a) := by
  rw [ByteArray.data_extract, Array.toList_extract, List.extract_eq_take_drop]
theorem padB_list (k : Nat) (s : ByteArray) : (padB k s).data.toList = s.data.toList ++ List.replicate (k * eachN k s.size - s.size) 0 := by
  rw [padB, ByteArray.data_append, Array.toList_append]
  simp [zsB]
theorem size_list (s : ByteArray) : s.data.toList.length = s.size := by rw [Array.length_toList]; rfl
/-- The sum of two texts. -/
def Sum3 (A B C : ByteArray) : Prop := A.size = B.size ∧ C.data.toList = Fd.xorL A.data.toList B.data.toList
theorem Sum3.size {A B C : ByteArray} (h : Sum3 A B C) : C.size = A.size := by
  have := congrArg List.length h.2
  rw [Fd.xorL_length _ _ (by rw [size_list, size_list, h.1]), size_list, size_list] at this
  exact this
theorem pc_sum {A B C : ByteArray} (h : Sum3 A B C) (k i : Nat) : Sum3 (pc k A i) (pc k B i) (pc k C i) := by
  have hs := h.size
  have hp : (padB k C).data.toList = Fd.xorL (padB k A).data.toList (padB k B).data.toList := by
    rw [padB_list, padB_list, padB_list, hs, ← h.1, h.2, Fd.xorL, Fd.xorL, List.zipWith_append (by rw [size_list, size_list, h.1])]
    congr 1
    exact (Fd.xorL_zeros _).symm
  refine ⟨?_, ?_⟩
  · rw [pc, pc, ByteArray.size_extract, ByteArray.size_extract, ← h.1]
    have : (padB k A).size = (padB k B).size := by
      rw [← size_list, ← size_list, padB_list, padB_list, List.length_append, List.length_append, size_list, size_list, h.1]
    rw [this]
  · rw [pc, pc, pc, ext_list, ext_list, ext_list, hp, hs, ← h.1, Fd.xorL, Fd.xorL, List.drop_zipWith, List.take_zipWith]
theorem shd_sum {A B C : ByteArray} (h : Sum3 A B C) {k : Nat} (k1 : 1 ≤ k) (i : Nat) : Sum3 (shd k A i) (shd k B i) (shd k C i) := by
  refine ⟨by rw [shd_size k1, shd_size k1, h.1], ?_⟩
  unfold shd
  by_cases hi : i < k
  · rw [if_pos hi, if_pos hi, if_pos hi]; exact (pc_sum h k i).2
  · rw [if_neg hi, if_neg hi, if_neg hi]
    obtain ⟨κ, hK⟩ : ∃ κ : Nat → K, κ = fun t => flat k (cauM k) (i * k + t) := ⟨_, rfl⟩
    have e1 := (mixS_eq k1 (X := pc k A) (fun j hj => pc_size A hj) κ).2
    have e2 := (mixS_eq k1 (X := pc k B) (N := eachN k A.size) (fun j hj => by rw [pc_size B hj, h.1]) κ).2
    have e3 := (mixS_eq k1 (X := pc k C) (N := eachN k A.size) (fun j hj => by rw [pc_size C hj, h.size]) κ).2
    rw [hK] at e1 e2 e3
    rw [e1, e2, e3, Fd.strOf_toList, Fd.strOf_toList, Fd.strOf_toList]
    exact Fd.mix_sum _ (pc k A) (pc k B) (pc k C) _ k (fun j _ => K.lt _) (fun j _ => (pc_sum h k j).2) k (Nat.le_refl _)
end Go.Proofs.Ytfjkdmiaagalhaa
