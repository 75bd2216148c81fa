/-
  Mixtures of sums and of products, in plain mathematics; rows of one's own that lie apart.
-/
import Derived.Test.YtcgiolehlokpnaaBook
import Derived.Maps.AppendAt
namespace Go.Proofs.Ytcgiolehlokpnaa
open Go.RowKit Go.Lib

theorem xorL_comm (a b : List UInt8) : xorL a b = xorL b a := by
  rw [xorL, xorL, List.zipWith_comm]
  congr 1
  funext x y
  exact UInt8.xor_comm y x
theorem xorL_assoc : ∀ a b c : List UInt8, xorL (xorL a b) c = xorL a (xorL b c)
  | [], _, _ => by simp [xorL]
  | _ :: _, [], _ => by simp [xorL]
  | _ :: _, _ :: _, [] => by simp [xorL]
  | x :: a, y :: b, z :: c => by
    have ih := xorL_assoc a b c
    simp only [xorL, List.zipWith_cons_cons] at ih ⊢
    rw [ih, UInt8.xor_assoc]
theorem xorL_four (a b c d : List UInt8) : xorL (xorL a b) (xorL c d) = xorL (xorL a c) (xorL b d) := by
  rw [xorL_assoc, xorL_assoc, ← xorL_assoc b c d, xorL_comm b c, xorL_assoc c b d]
theorem xorL_zeros (N : Nat) : xorL (List.replicate N 0) (List.replicate N 0) = List.replicate N 0 := by
  have := xor_zeroL (List.replicate N 0)
  rwa [List.length_replicate] at this
theorem byL_zeros (N d : Nat) : byL (List.replicate N 0) d = List.replicate N 0 := by
  rw [byL, List.map_replicate]
  congr 1
theorem mix_sum (N : Nat) (X Y U : Nat → ByteArray) (C : Nat → Nat) (n : Nat) (hC : ∀ i, i < n → C i < 256) (hU : ∀ i, i < n → (U i).data.toList = xorL (X i).data.toList (Y i).data.toList) :
    ∀ j, j ≤ n → mixAt N U C j = xorL (mixAt N X C j) (mixAt N Y C j)
  | 0, _ => by rw [mixAt, mixAt, mixAt, xorL_zeros]
  | j + 1, hj => by rw [mixAt, mixAt, mixAt, mix_sum N X Y U C n hC hU j (by omega), hU j (by omega), byL_xor _ (hC j (by omega)), xorL_four]
theorem mix_by (N : Nat) (X V : Nat → ByteArray) (C : Nat → Nat) (d n : Nat) (hd : d < 256) (hV : ∀ i, i < n → (V i).data.toList = byL (X i).data.toList d) :
    ∀ j, j ≤ n → mixAt N V C j = byL (mixAt N X C j) d
  | 0, _ => by rw [mixAt, mixAt, byL_zeros]
  | j + 1, hj => by rw [mixAt, mixAt, mix_by N X V C d n hd hV j (by omega), hV j (by omega), byL_byL, ← byL_xor d hd]

theorem szB_true (X : Nat → ByteArray) (N : Nat) : ∀ n, (∀ i, i < n → (X i).size = N) → szB X n = true
  | 0, _ => rfl
  | n + 1, h => by
    rw [szB_succ]
    have ih : szB X n = true := szB_true X N n (fun i hi => h i (by omega))
    rw [ih, h n (by omega), h 0 (by omega)]
    simp
theorem elB_true (Z : Nat → Int) : ∀ n, (∀ i, i < n → isEl (Z i) = true) → elB Z n = true
  | 0, _ => rfl
  | n + 1, h => by rw [elB_succ, h n (by omega), elB_true Z n (fun i hi => h i (by omega))]; rfl
/-- The members of a mixture may be: what it comes to. -/
theorem mix_right (N n : Nat) (X : Nat → ByteArray) (C : Nat → Nat) (hX : ∀ i, i < n → (X i).size = N) (hC : ∀ i, i < n → C i < 256) :
    faultC n n X (fun i => (C i : Int)) = 0 ∧ mixS n n X (fun i => (C i : Int)) = if n = 0 then ⟨#[]⟩ else strOf (mixAt N X C n) := by
  have h1 := szB_true X N n hX
  have h2 := elB_true (fun i => (C i : Int)) n (fun i hi => isEl_nat _ (hC i hi))
  have e : faultC n n X (fun i => (C i : Int)) = 0 := by rw [faultC, if_pos rfl, if_pos h1, if_pos h2]
  refine ⟨e, ?_⟩
  rw [mixS, if_pos e]
  by_cases h0 : n = 0
  · rw [if_pos h0, if_pos h0]
  · rw [if_neg h0, if_neg h0, hX 0 (by omega)]
    rfl
theorem strOf_nil : strOf [] = ⟨#[]⟩ := rfl
/-- What the statement asks of the four mixtures. -/
theorem mixes_eq (N n d : Nat) (P Q U V : Nat → ByteArray) (C : Nat → Nat) (hd : d < 256) (hC : ∀ i, i < n → C i < 256) (hP : ∀ i, i < n → (P i).size = N) (hQ : ∀ i, i < n → (Q i).size = N)
    (hU : ∀ i, i < n → U i = strOf (xorL (P i).data.toList (Q i).data.toList)) (hV : ∀ i, i < n → V i = strOf (byL (P i).data.toList d)) :
    ∃ S T : ByteArray, S.size = T.size ∧ S.size ≤ N ∧
      (faultC n n P (fun i => (C i : Int)) = 0 ∧ mixS n n P (fun i => (C i : Int)) = S) ∧ (faultC n n Q (fun i => (C i : Int)) = 0 ∧ mixS n n Q (fun i => (C i : Int)) = T) ∧
      (faultC n n U (fun i => (C i : Int)) = 0 ∧ mixS n n U (fun i => (C i : Int)) = strOf (xorL S.data.toList T.data.toList)) ∧ (faultC n n V (fun i => (C i : Int)) = 0 ∧ mixS n n V (fun i => (C i : Int)) = strOf (byL S.data.toList d)) := by
  have l1 : ∀ i, i < n → (P i).data.toList.length = (Q i).data.toList.length := fun i hi => by rw [← Lib.size_eq, ← Lib.size_eq, hP i hi, hQ i hi]
  have hUs : ∀ i, i < n → (U i).size = N := fun i hi => by rw [hU i hi, strOf_size, xorL_length _ _ (l1 i hi), ← Lib.size_eq, hP i hi]
  have hVs : ∀ i, i < n → (V i).size = N := fun i hi => by rw [hV i hi, strOf_size, byL_length, ← Lib.size_eq, hP i hi]
  obtain ⟨p1, p2⟩ := mix_right N n P C hP hC
  obtain ⟨q1, q2⟩ := mix_right N n Q C hQ hC
  obtain ⟨u1, u2⟩ := mix_right N n U C hUs hC
  obtain ⟨v1, v2⟩ := mix_right N n V C hVs hC
  by_cases h0 : n = 0
  · subst h0
    simp only [if_true] at p2 q2 u2 v2
    exact ⟨_, _, rfl, Nat.zero_le _, ⟨p1, p2⟩, ⟨q1, q2⟩, ⟨u1, u2⟩, ⟨v1, v2⟩⟩
  · rw [if_neg h0] at p2 q2 u2 v2
    have lp := mixAt_length N n P C hP n (Nat.le_refl _)
    have lq := mixAt_length N n Q C hQ n (Nat.le_refl _)
    refine ⟨_, _, ?_, ?_, ⟨p1, p2⟩, ⟨q1, q2⟩, ⟨u1, ?_⟩, ⟨v1, ?_⟩⟩
    · rw [strOf_size, strOf_size, lp, lq]
    · exact Nat.le_of_eq (by rw [strOf_size, lp])
    · rw [u2, strOf_toList, strOf_toList, mix_sum N P Q U C n hC (fun i hi => by rw [hU i hi, strOf_toList]) n (Nat.le_refl _)]
    · rw [v2, strOf_toList, mix_by N P V C d n hd (fun i hi => by rw [hV i hi, strOf_toList]) n (Nat.le_refl _)]

/-! ### Rows that lie apart -/
def Ap (a b : Value) : Prop := ∀ k, a.ownBlock = some k → b.ownBlock ≠ some k
theorem Ap.symm {a b : Value} (h : Ap a b) : Ap b a := fun k hk e => h k e hk
theorem Ap.nil (b : Value) : Ap (.slice none 0 0) b := fun k hk => by simp [Value.ownBlock] at hk
theorem own_keep {w w1 : World} {B e n : Nat} {v vi : Value} {xs : List Value} (hi : w.ownsRow B e 1 vi n xs) (o : Obj) (hg : (w.alloc o).grownBy w1 v.ownBlock) (hD : Ap vi v) : w1.ownsRow B e 1 vi n xs := by
  refine (hi.alloc o).kept hg ?_
  cases h : vi.ownBlock with
  | none => exact .inl rfl
  | some k => exact .inr (fun e => hD k h e.symm)
theorem own_apart {w : World} {B e n : Nat} {v v' vi : Value} {xs : List Value} (hi : w.ownsRow B e 1 vi n xs) (hat : v'.ownBlock = v.ownBlock ∨ v'.ownBlock = some (w.heap.size + 1)) (hD : Ap vi v) : Ap vi v' := by
  intro k hk e
  rcases hat with h | h
  · exact hD k hk (h.symm.trans e)
  · have := (hi.lt k hk).2
    rw [h] at e
    simp at e
    omega
theorem own_below {w w1 : World} {B e n : Nat} {vi : Value} {xs : List Value} (hi : w.ownsRow B e 1 vi n xs) (hb : Below w.heap.size w w1) : w1.ownsRow B e 1 vi n xs :=
  hi.kept (gb_below hb none) (by cases h : vi.ownBlock <;> simp)
theorem own_kinds {w : World} {B n m : Nat} {v v' : Value} {xs ys : List Value} (h : w.ownsRow B 9 1 v n xs) (h' : w.ownsRow B 3 1 v' m ys) : Ap v v' := by
  intro k hk e
  rcases h.2 with ⟨rfl, _⟩ | ⟨g, cap, cur, rfl, _, hgg, _⟩
  · simp [Value.ownBlock] at hk
  · rcases h'.2 with ⟨rfl, _⟩ | ⟨g', cap', cur', rfl, _, hgg', _⟩
    · simp [Value.ownBlock] at e
    · simp [Value.ownBlock] at hk e
      subst hk
      subst e
      have := hgg.symm.trans hgg'
      simp at this
/-- A field beside a row of one's own: either may turn. -/
theorem F.own {w w1 : World} {f B e n : Nat} {v : Value} {xs : List Value} (hF : F w f) (h : w.ownsRow B e 1 v n xs) (he : e ≠ 62 ∧ e ≠ 68) (o : Obj) (hg : (w.alloc o).grownBy w1 v.ownBlock) : F w1 f := by
  have hFa : F (w.alloc o) f := hF.below ((Below.refl _ _).alloc (Nat.le_refl _) o) (Nat.le_refl _)
  rcases (h.alloc o).2 with ⟨rfl, _⟩ | ⟨g, cap, cur, rfl, _, hgg, _⟩
  · exact hFa.below (B := (w.alloc o).heap.size) ⟨hg.os, hg.tape, hg.output, hg.size, fun k hk => hg.block k hk (by simp [Value.ownBlock])⟩ (Nat.le_refl _)
  · exact hFa.set hgg he.1 he.2 hg
theorem own_field {w w1 : World} {f B e n : Nat} {v : Value} {xs : List Value} (h : w.ownsRow B e 1 v n xs) (hF : F w f) (he : e ≠ 62) (hg : w.grownBy w1 (some f)) : w1.ownsRow B e 1 v n xs := by
  refine h.kept hg ?_
  rcases h.2 with ⟨rfl, _⟩ | ⟨g, cap, cur, rfl, _, hgg, _⟩
  · exact .inl rfl
  · refine .inr ?_
    intro e'
    simp [Value.ownBlock] at e'
    subst e'
    rcases hF with h2 | ⟨_, _, h2, _⟩
    · have := hgg.symm.trans h2
      simp at this
      exact he this.2
    · have := hgg.symm.trans h2
      simp at this
      exact he this.2
def numsOf (C : Nat → Nat) (n : Nat) : List Value := (List.range n).map fun i => Value.int .i64 (C i : Int)
theorem textsOf_succ (X : Nat → ByteArray) (n : Nat) : textsOf X (n + 1) = textsOf X n ++ [.string (X n)] := by simp [textsOf, List.range_succ]
theorem numsOf_succ (C : Nat → Nat) (n : Nat) : numsOf C (n + 1) = numsOf C n ++ [.int .i64 (C n : Int)] := by simp [numsOf, List.range_succ]
theorem own_TX {w : World} {B n : Nat} {v : Value} {X : Nat → ByteArray} (h : w.ownsRow B 9 1 v n (textsOf X n)) : TX w v n X := by
  rcases h.2 with ⟨rfl, h0⟩ | ⟨g, cap, cur, rfl, _, hgg, _⟩
  · subst h0
    exact ⟨_, _, rfl, .inl rfl⟩
  · exact ⟨_, _, rfl, .inr ⟨g, 0, rfl, lt_of_block hgg, fun k hk => by rw [Nat.zero_add]; exact owned_cell h k _ (textsOf_get hk)⟩⟩
theorem own_NX {w : World} {B n : Nat} {v : Value} {C : Nat → Nat} (h : w.ownsRow B 3 1 v n (numsOf C n)) : NX w v n (fun i => (C i : Int)) := by
  rcases h.2 with ⟨rfl, h0⟩ | ⟨g, cap, cur, rfl, _, hgg, _⟩
  · subst h0
    exact ⟨_, _, rfl, .inl rfl⟩
  · exact ⟨_, _, rfl, .inr ⟨g, 0, rfl, lt_of_block hgg, fun k hk => by rw [Nat.zero_add]; exact owned_cell h k _ (by rw [numsOf, List.getElem?_map, List.getElem?_range hk]; rfl)⟩⟩
end Go.Proofs.Ytcgiolehlokpnaa
