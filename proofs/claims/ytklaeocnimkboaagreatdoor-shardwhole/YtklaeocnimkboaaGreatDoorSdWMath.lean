/-
  SdWMath: texts of earlier layers, laid over this program.
-/
import Derived.Test.YtklaeocnimkboaaGreatDoorSdList
import Derived.Test.YtklaeocnimkboaaGreatDoorSdMake
namespace Go.Proofs.YtklaeocnimkboaaGreatDoor
open Go.RowKit Go.Lib

theorem fu_all {k : Nat} {I : Nat → Int} : ∀ n, n ≤ k → (∀ s t, s < n → t < n → I s = I t → s = t) → fu k I n = List.range n
  | 0, _, _ => rfl
  | n + 1, hn, hi => by
    have e := fu_all (k := k) (I := I) n (by omega) (fun s t hs ht => hi s t (by omega) (by omega))
    rw [fu_take, e, List.range_succ]
    · rw [e, List.length_range]; omega
    · rw [e]
      intro h
      obtain ⟨t, ht, h2⟩ := List.mem_map.1 h
      have := hi t n (by have := List.mem_range.1 ht; omega) (by omega) h2
      have := List.mem_range.1 ht
      omega
theorem any_join {k m : Nat} (k1 : 1 ≤ k) (km : k + m ≤ 255) {I : Nat → Int} {X : Nat → ByteArray} {ρ : Nat → Nat} {n : Nat} (s : ByteArray) (hI : ∀ t, t < n → I t = ((ρ t : Nat) : Int)) (hρ : ∀ t, t < n → ρ t < k + m)
    (hX : ∀ t, t < n → X t = shd k s (ρ t)) (hf : (fu k I n).length = k) (hinj : ∀ a b, a < k → b < k → I ((fu k I n).getD a 0) = I ((fu k I n).getD b 0) → a = b) : joinB k I X n s.size = s := by
  have hmem : ∀ t, t < k → (fu k I n).getD t 0 < n := fun t ht => fu_lt (getD_mem (by rw [hf]; exact ht))
  have hr : ∀ t, t < k → rhoL I (fu k I n) t = ρ ((fu k I n).getD t 0) := fun t ht => by
    rw [rhoL, hI _ (hmem t ht)]
    exact Int.toNat_natCast _
  rw [joinB, cat_congr (Y' := pc k s) (fun i hi => bkd_shd k1 km (fun t ht => by rw [hr t ht]; exact hρ _ (hmem t ht)) (fun a b ha hb e => hinj a b ha hb (by
    rw [hr a ha, hr b hb] at e
    rw [hI _ (hmem a ha), hI _ (hmem b hb), e])) s (fun t ht => by rw [hr t ht, txJ]; exact hX _ (hmem t ht)) hi)]
  exact cat_back k1 s

/-- The two that are left when out is taken away. -/
def lft (out t : Nat) : Nat := if t < out then t else t + 1
/-- How many of the first i are left. -/
def cnt (out i : Nat) : Nat := if out < i then i - 1 else i
theorem lft_lt {out t : Nat} (ht : t < 2) : lft out t < 3 := by unfold lft; split <;> omega
theorem lft_inj {out a b : Nat} (h : lft out a = lft out b) : a = b := by unfold lft at h; split at h <;> split at h <;> omega

section
variable {data : ByteArray} {out : Nat} {X : Nat → SX}
theorem two_all {n : Nat} (hs : data.size ≤ 65536) (hn : n ≤ 2) (h0 : 0 < n) (hX : ∀ t, t < n → X t = shX 2 1 data (lft out t)) : allS X n := fun i hi => by
  rw [hX i hi, hX 0 h0]
  exact ⟨shX_ok (by decide) (by decide) hs (lft_lt (by omega)), rfl, rfl, rfl, rfl⟩
theorem two_fault {n : Nat} (hs : data.size ≤ 65536) (hn : n ≤ 2) (hX : ∀ t, t < n → X t = shX 2 1 data (lft out t)) : faultV 2 1 (data.size : Int) (fun i => (X i).i) (fun i => (X i).data) n = 0 := by
  rw [faultV, if_neg (by omega), Int.toNat_natCast]
  refine flt_ok (fun i hi => ?_) (fun i hi => ?_)
  · rw [hX i hi]
    have := lft_lt (out := out) (t := i) (by omega)
    simp only [shX]
    omega
  · rw [hX i hi]
    exact shd_size (by decide) data _
theorem two_fu {n : Nat} (hn : n ≤ 2) (hX : ∀ t, t < n → X t = shX 2 1 data (lft out t)) : fu 2 (fun i => (X i).i) n = List.range n :=
  fu_all n hn fun s t hs ht e => by
    rw [hX s hs, hX t ht] at e
    simp only [shX] at e
    exact lft_inj (out := out) (by omega)
theorem two_g {n : Nat} (h0 : 0 < n) (hX : ∀ t, t < n → X t = shX 2 1 data (lft out t)) : gJC X n = jnC 2 1 (data.size : Int) (fun i => (X i).i) (fun i => (X i).data) n ∧ gJS X n = jnS 2 1 (data.size : Int) (fun i => (X i).i) (fun i => (X i).data) n := by
  unfold gJC gJS
  rw [hX 0 h0]
  exact ⟨rfl, rfl⟩
/-- Two unlike of three gather to the bytes. -/
theorem two_back (hs : data.size ≤ 65536) (hX : ∀ t, t < 2 → X t = shX 2 1 data (lft out t)) {S : ByteArray} {c : Int} (h : GA X 2 S c) : S = data ∧ c = 0 := by
  have hA := two_all hs (Nat.le_refl 2) (by decide) hX
  have hf := two_fault hs (Nat.le_refl 2) hX
  have hu := two_fu (Nat.le_refl 2) hX
  obtain ⟨g1, g2⟩ := two_g (by decide) hX
  obtain ⟨j1, j2⟩ := jn_ok hf (by rw [hu]; decide)
  have hj : joinB 2 (fun i => (X i).i) (fun i => (X i).data) 2 data.size = data := by
    refine any_join (m := 1) (ρ := lft out) (by decide) (by decide) data (fun t ht => by rw [hX t ht]; rfl) (fun t ht => lft_lt ht) (fun t ht => by rw [hX t ht]; rfl) (by rw [hu]; rfl) (fun a b ha hb e => ?_)
    rw [hu] at e
    have g : ∀ t, t < 2 → (List.range 2).getD t 0 = t := fun t ht => by rw [List.getD_eq_getElem?_getD, List.getElem?_range ht]; rfl
    rw [g a ha, g b hb] at e
    rw [hX a ha, hX b hb] at e
    simp only [shX] at e
    exact lft_inj (out := out) (by omega)
  rw [Int.toNat_natCast, hj] at j2
  rw [g1.symm] at j1
  rw [g2.symm] at j2
  have hid : (X 0).id = bs (Sh.digest data.data.toList) := by rw [hX 0 (by decide)]; rfl
  rcases h with ⟨h1, _⟩ | ⟨_, ⟨h2, _⟩ | ⟨_, ⟨h3, _⟩ | ⟨_, h4, h5⟩⟩⟩
  · exact absurd ⟨by decide, hA⟩ h1
  · exact absurd j1 h2
  · rw [j2, hid] at h3; exact absurd rfl h3
  · rw [j2] at h4; exact ⟨h4, h5⟩
/-- One of them does not. -/
theorem one_few (hs : data.size ≤ 65536) (hX : ∀ t, t < 1 → X t = shX 2 1 data (lft out t)) {S : ByteArray} {c : Int} (h : GA X 1 S c) : c = 50 := by
  have hA := two_all hs (by decide) (by decide) hX
  have hf := two_fault hs (by decide) hX
  have hu := two_fu (by decide) hX
  obtain ⟨g1, g2⟩ := two_g (by decide) hX
  obtain ⟨j1, j2⟩ := jn_few hf (by rw [hu]; decide)
  rw [← g1] at j1
  rcases h with ⟨h1, _⟩ | ⟨_, ⟨_, _, h2⟩ | ⟨h2, _⟩⟩
  · exact absurd ⟨by decide, hA⟩ h1
  · rw [h2, j1]
  · rw [j1] at h2; cases h2
end
/-- Whatever is gathered: nothing and a fault, or bytes whose sum is the shard's. -/
theorem other_way {X : Nat → SX} {n : Nat} {S : ByteArray} {c : Int} (h : GA X n S c) : (c ≠ 0 ∧ S = ⟨#[]⟩) ∨ (c = 0 ∧ bs (Sh.digest S.data.toList) = (X 0).id ∧ S = gJS X n ∧ gJC X n = 0) := by
  rcases h with ⟨_, h1, h2⟩ | ⟨_, ⟨h1, h2, h3⟩ | ⟨h0, ⟨_, h1, h2⟩ | ⟨h1, h2, h3⟩⟩⟩
  · exact .inl ⟨by rw [h2]; decide, h1⟩
  · exact .inl ⟨by rw [h3]; exact h1, h2⟩
  · exact .inl ⟨by rw [h2]; decide, h1⟩
  · exact .inr ⟨h3, by rw [h2]; exact h1, h2, h0⟩
/-- Their length. -/
theorem gJS_size {X : Nat → SX} {n : Nat} : (gJS X n).size ≤ 65536 := by
  unfold gJS jnS
  split
  · exact Nat.zero_le _
  split
  · exact Nat.zero_le _
  rename_i h1 h2
  have hf : faultV (X 0).k.toNat (X 0).m.toNat (X 0).long (fun i => (X i).i) (fun i => (X i).data) n = 0 := Classical.not_not.1 h1
  have := faultV_zero hf
  rw [joinB, ByteArray.size_extract]
  omega
end Go.Proofs.YtklaeocnimkboaaGreatDoor

