/-
  Lz: the program's packing, in plain terms: what is repeated, and how sequences are written.
-/
import Derived.Test.YtgigiamnhjelmaaDoorLzMath
namespace Go.Proofs.YtgigiamnhjelmaaDoor
/-! ### What is repeated -/
/-- Four bytes are the same. -/
def s4 (s : ByteArray) (j i : Nat) : Prop := bt s j = bt s i ∧ bt s (j + 1) = bt s (i + 1) ∧ bt s (j + 2) = bt s (i + 2) ∧ bt s (j + 3) = bt s (i + 3)
instance (s : ByteArray) (j i : Nat) : Decidable (s4 s j i) := by unfold s4; infer_instance
/-- The last place ahead of k that has the four bytes of i. -/
def pvG (s : ByteArray) (i : Nat) : Nat → Option Nat
  | 0 => none
  | j + 1 => if s4 s j i then some j else pvG s i j
def pv (s : ByteArray) (i : Nat) : Option Nat := if i + 4 ≤ s.size then pvG s i i else none
/-- How many bytes are the same. -/
def smG (s : ByteArray) (j i : Nat) : Nat → Nat → Nat
  | 0, n => n
  | f + 1, n => if i + n < s.size ∧ bt s (j + n) = bt s (i + n) then smG s j i f (n + 1) else n
def sm (s : ByteArray) (j i : Nat) : Nat := smG s j i (s.size - i) 0
/-- The longest repeat from a place on. -/
def loG (s : ByteArray) (i : Nat) : Nat → Option Nat → Nat → Nat → Nat × Nat
  | 0, _, d, l => (d, l)
  | _ + 1, none, d, l => (d, l)
  | t + 1, some f, d, l => if i - f ≤ 65535 then (if l < sm s f i then loG s i t (pv s f) (i - f) (sm s f i) else loG s i t (pv s f) d l) else (d, l)
def lo (s : ByteArray) (i : Nat) : Nat × Nat := loG s i 64 (pv s i) 0 0
/-- The first repeat from a place on, but for one behind whose first byte a longer one begins. -/
def nxG (s : ByteArray) : Nat → Nat → Nat × Nat → Nat × Nat × Nat
  | 0, i, r => (i, r)
  | f + 1, i, r => if r.2 < 32 ∧ i < s.size then (if 0 < r.2 ∧ (lo s (i + 1)).2 ≤ r.2 then (i, r) else nxG s f (i + 1) (lo s (i + 1))) else (i, r)
def nx (s : ByteArray) (i : Nat) : Nat × Nat × Nat := nxG s (s.size - i) i (lo s i)
/-- The sequences from a place on. -/
def seG (s : ByteArray) : Nat → Nat → List SQ
  | 0, i => [⟨s.extract i s.size, 0, 0⟩]
  | f + 1, i => if 0 < (nx s i).2.2 then ⟨s.extract i (nx s i).1, (nx s i).2.1, (nx s i).2.2⟩ :: seG s f ((nx s i).1 + (nx s i).2.2) else [⟨s.extract i s.size, 0, 0⟩]
/-! ### How they are written -/
def adS (n : Nat) : List UInt8 := if n < 15 then [] else List.replicate ((n - 15) / 255) 255 ++ [UInt8.ofNat ((n - 15) % 255)]
def hd1 (a b : Nat) : UInt8 := UInt8.ofNat (min a 15 * 16 + min b 15)
def enS (q : SQ) : List UInt8 := hd1 q.lit.size (q.long - 4) :: (adS q.lit.size ++ q.lit.data.toList ++ if q.long = 0 then [] else [UInt8.ofNat (q.dist % 256), UInt8.ofNat (q.dist / 256)] ++ adS (q.long - 4))
def enL (l : List SQ) : List UInt8 := l.flatMap enS
def pkB (s : ByteArray) : ByteArray := ⟨(enL (seG s s.size 0)).toArray⟩

section
variable {s : ByteArray} {i j k : Nat}
theorem s4.trans (h : s4 s i j) (h2 : s4 s j k) : s4 s i k := ⟨h.1.trans h2.1, h.2.1.trans h2.2.1, h.2.2.1.trans h2.2.2.1, h.2.2.2.trans h2.2.2.2⟩
theorem s4.symm (h : s4 s i j) : s4 s j i := ⟨h.1.symm, h.2.1.symm, h.2.2.1.symm, h.2.2.2.symm⟩
theorem pvG_some : ∀ {k j : Nat}, pvG s i k = some j → j < k ∧ s4 s j i
  | 0, _, h => by cases h
  | k + 1, j, h => by
    rw [pvG] at h
    split at h
    · simp only [Option.some.injEq] at h
      subst h
      exact ⟨by omega, by assumption⟩
    · have := pvG_some h
      exact ⟨by omega, this.2⟩
theorem pvG_max : ∀ {k m : Nat}, m < k → s4 s m i → ∃ j, pvG s i k = some j ∧ m ≤ j ∧ j < k ∧ s4 s j i
  | 0, _, h, _ => by omega
  | k + 1, m, h, h4 => by
    rw [pvG]
    by_cases c : s4 s k i
    · rw [if_pos c]
      exact ⟨k, rfl, by omega, by omega, c⟩
    · rw [if_neg c]
      have hne : m ≠ k := fun e => c (e ▸ h4)
      obtain ⟨j, h1, h2, h3, h5⟩ := pvG_max (k := k) (m := m) (by omega) h4
      exact ⟨j, h1, h2, by omega, h5⟩
theorem pv_some (h : pv s i = some j) : j < i ∧ s4 s j i ∧ i + 4 ≤ s.size := by
  rw [pv] at h
  split at h
  · have := pvG_some h
    exact ⟨this.1, this.2, by assumption⟩
  · cases h
theorem pv_few (h : ¬ i + 4 ≤ s.size) : pv s i = none := if_neg h
theorem smG_le : ∀ (f n : Nat), n ≤ smG s j i f n ∧ smG s j i f n ≤ n + f
  | 0, n => ⟨Nat.le_refl _, Nat.le_refl _⟩
  | f + 1, n => by
    rw [smG]
    split
    · have := smG_le f (n + 1)
      omega
    · omega
theorem smG_same : ∀ (f n m : Nat), n ≤ m → m < smG s j i f n → i + m < s.size ∧ bt s (j + m) = bt s (i + m)
  | 0, n, m, h, h2 => by rw [smG] at h2; omega
  | f + 1, n, m, h, h2 => by
    rw [smG] at h2
    split at h2
    · by_cases e : m = n
      · subst e; assumption
      · exact smG_same f (n + 1) m (by omega) h2
    · omega
theorem smG_all : ∀ (f n : Nat), i + n + f ≤ s.size → (∀ m, n ≤ m → i + m < s.size → bt s (j + m) = bt s (i + m)) → smG s j i f n = n + f
  | 0, n, _, _ => rfl
  | f + 1, n, h, h2 => by
    rw [smG, if_pos ⟨by omega, h2 n (Nat.le_refl _) (by omega)⟩, smG_all f (n + 1) (by omega) (fun m h1 => h2 m (by omega))]
    omega
theorem sm_le : sm s j i ≤ s.size - i := by have := (smG_le (s := s) (j := j) (i := i) (s.size - i) 0).2; rw [sm]; omega
theorem sm_same {m : Nat} (h : m < sm s j i) : i + m < s.size ∧ bt s (j + m) = bt s (i + m) := smG_same _ 0 m (Nat.zero_le _) h
theorem sm_all (h : ∀ m, i + m < s.size → bt s (j + m) = bt s (i + m)) : sm s j i = s.size - i := by
  by_cases c : i ≤ s.size
  · rw [sm, smG_all _ 0 (by omega) (fun m _ => h m)]; omega
  · rw [sm, show s.size - i = 0 by omega]; rfl
theorem sm_four (h : s4 s j i) (hi : i + 4 ≤ s.size) : 4 ≤ sm s j i := by
  rw [sm, show s.size - i = (s.size - i - 4) + 1 + 1 + 1 + 1 by omega, smG, if_pos ⟨by omega, h.1⟩, smG, if_pos ⟨by omega, h.2.1⟩, smG, if_pos ⟨by omega, h.2.2.1⟩, smG, if_pos ⟨by omega, h.2.2.2⟩]
  exact (smG_le _ 4).1
/-- A repeat. -/
def RP (s : ByteArray) (i d l : Nat) : Prop := 4 ≤ l ∧ 1 ≤ d ∧ d ≤ 65535 ∧ d ≤ i ∧ i + l ≤ s.size ∧ ∀ m, m < l → bt s (i + m) = bt s (i + m - d)
theorem loG_ok : ∀ (t : Nat) (o : Option Nat) (d l : Nat), (∀ f, o = some f → f < i ∧ s4 s f i ∧ i + 4 ≤ s.size) → (l = 0 ∧ d = 0 ∨ RP s i d l) → ((loG s i t o d l).2 = 0 ∧ (loG s i t o d l).1 = 0) ∨ RP s i (loG s i t o d l).1 (loG s i t o d l).2
  | 0, _, d, l, _, h => h
  | t + 1, none, d, l, _, h => h
  | t + 1, some f, d, l, ho, h => by
    obtain ⟨h1, h2, h3⟩ := ho f rfl
    have hn : ∀ g, pv s f = some g → g < i ∧ s4 s g i ∧ i + 4 ≤ s.size := fun g hg => by
      have := pv_some hg
      exact ⟨by omega, this.2.1.trans h2, h3⟩
    rw [loG]
    by_cases c1 : i - f ≤ 65535
    · rw [if_pos c1]
      by_cases c2 : l < sm s f i
      · rw [if_pos c2]
        refine loG_ok t _ _ _ hn (.inr ?_)
        have h4 := sm_four h2 h3
        refine ⟨h4, by omega, c1, by omega, by have := sm_le (s := s) (j := f) (i := i); omega, fun m hm => ?_⟩
        rw [show i + m - (i - f) = f + m by omega]
        exact (sm_same hm).2.symm
      · rw [if_neg c2]
        exact loG_ok t _ _ _ hn h
    · rw [if_neg c1]
      exact h
theorem lo_ok (s : ByteArray) (i : Nat) : ((lo s i).2 = 0 ∧ (lo s i).1 = 0) ∨ RP s i (lo s i).1 (lo s i).2 := loG_ok 64 _ 0 0 (fun f h => by have := pv_some h; exact ⟨this.1, this.2.1, this.2.2⟩) (.inl ⟨rfl, rfl⟩)
theorem lo_le (s : ByteArray) (i : Nat) : (lo s i).2 ≤ s.size - i := by
  rcases lo_ok s i with h | h
  · omega
  · have := h.2.2.2.2.1; omega
theorem nxG_is : ∀ (f i : Nat), nxG s f i (lo s i) = ((nxG s f i (lo s i)).1, lo s (nxG s f i (lo s i)).1) ∧ i ≤ (nxG s f i (lo s i)).1 ∧ (nxG s f i (lo s i)).1 ≤ max i s.size
  | 0, i => ⟨rfl, Nat.le_refl _, Nat.le_max_left _ _⟩
  | f + 1, i => by
    rw [nxG]
    split
    · split
      · exact ⟨rfl, Nat.le_refl _, Nat.le_max_left _ _⟩
      · obtain ⟨h1, h2, h3⟩ := nxG_is f (i + 1)
        exact ⟨h1, by omega, by omega⟩
    · exact ⟨rfl, Nat.le_refl _, Nat.le_max_left _ _⟩
theorem nx_is (s : ByteArray) (i : Nat) : nx s i = ((nx s i).1, lo s (nx s i).1) ∧ i ≤ (nx s i).1 ∧ (nx s i).1 ≤ max i s.size := nxG_is _ i
theorem nx_lo (s : ByteArray) (i : Nat) : (nx s i).2 = lo s (nx s i).1 := congrArg (·.2) (nx_is s i).1
theorem nx_rp (h : 0 < (nx s i).2.2) : RP s (nx s i).1 (nx s i).2.1 (nx s i).2.2 := by
  rw [nx_lo] at h ⊢
  rcases lo_ok s (nx s i).1 with h2 | h2
  · omega
  · exact h2
/-- Sequences that can be written, n bytes having been unpacked. -/
def WS : Nat → List SQ → Prop
  | _, [] => False
  | n, q :: r => (q.dist = 0 ∧ q.long = 0 ∧ r = []) ∨ (1 ≤ q.dist ∧ q.dist ≤ 65535 ∧ q.dist ≤ n + q.lit.size ∧ 4 ≤ q.long ∧ WS (n + q.lit.size + q.long) r)
def tot (l : List SQ) : Nat := (l.map fun q => q.lit.size + q.long).sum
theorem seG_ws : ∀ (f i : Nat), i ≤ s.size → WS i (seG s f i) ∧ i + tot (seG s f i) = s.size
  | 0, i, h => ⟨.inl ⟨rfl, rfl, rfl⟩, by simp [seG, tot]; omega⟩
  | f + 1, i, h => by
    rw [seG]
    by_cases c : 0 < (nx s i).2.2
    · rw [if_pos c]
      obtain ⟨r1, r2, r3, r4, r5, _⟩ := nx_rp c
      obtain ⟨_, n2, n3⟩ := nx_is s i
      have hz : (s.extract i (nx s i).1).size = (nx s i).1 - i := by rw [ByteArray.size_extract]; omega
      obtain ⟨g1, g2⟩ := seG_ws f ((nx s i).1 + (nx s i).2.2) r5
      refine ⟨.inr ⟨r2, r3, by show (nx s i).2.1 ≤ i + (s.extract i (nx s i).1).size; rw [hz]; omega, r1, ?_⟩, ?_⟩
      · show WS (i + (s.extract i (nx s i).1).size + (nx s i).2.2) _
        rw [hz, show i + ((nx s i).1 - i) + (nx s i).2.2 = (nx s i).1 + (nx s i).2.2 by omega]
        exact g1
      · rw [tot, List.map_cons, List.sum_cons]
        show i + ((s.extract i (nx s i).1).size + (nx s i).2.2 + _) = _
        rw [hz]
        rw [tot] at g2
        omega
    · rw [if_neg c]
      exact ⟨.inl ⟨rfl, rfl, rfl⟩, by simp [tot]; omega⟩
/-! ### What is unpacked -/
theorem rp_take {s : List UInt8} {d : Nat} : ∀ (k i : Nat), i + k ≤ s.length → 1 ≤ d → d ≤ i → (∀ m, m < k → s.getD (i + m) 0 = s.getD (i + m - d) 0) → rp d k (s.take i) = s.take (i + k)
  | 0, i, _, _, _, _ => rfl
  | k + 1, i, h, h1, h2, h3 => by
    rw [rp]
    have hl : (s.take i).length = i := by rw [List.length_take]; omega
    have h30 : s.getD i 0 = s.getD (i - d) 0 := h3 0 (by omega)
    have e : s.take i ++ [(s.take i).getD ((s.take i).length - d) 0] = s.take (i + 1) := by
      rw [hl, List.take_add_one]
      congr 1
      rw [List.getD_eq_getElem?_getD, List.getElem?_take, if_pos (by omega), ← List.getD_eq_getElem?_getD, ← h30, List.getD_eq_getElem?_getD, List.getElem?_eq_getElem (by omega)]
      rfl
    rw [e, rp_take k (i + 1) (by omega) h1 (by omega) (fun m hm => by
      have := h3 (m + 1) (by omega)
      rw [show i + (m + 1) = i + 1 + m by omega] at this
      exact this)]
    rw [show i + 1 + k = i + (k + 1) by omega]
theorem bt_lst (s : ByteArray) (i : Nat) : (s.data.toList.getD i 0).toNat = bt s i := by
  rw [bt, List.getD_eq_getElem?_getD]
  split
  · rename_i h
    rw [List.getElem?_eq_getElem (by simpa using h)]
    rfl
  · rename_i h
    rw [List.getElem?_eq_none (by simpa using h)]
    rfl
theorem ext_list (s : ByteArray) (i j : Nat) (h1 : i ≤ j) : s.data.toList.take i ++ (s.extract i j).data.toList = s.data.toList.take j := by
  rw [ByteArray.data_extract, Array.toList_extract]
  show _ ++ List.take (j - i) (List.drop i _) = _
  rw [← List.drop_take]
  conv => rhs; rw [← List.take_append_drop i (List.take j s.data.toList)]
  rw [List.take_take, Nat.min_eq_left h1]
theorem seG_opn : ∀ (f i : Nat), i ≤ s.size → opn (seG s f i) (s.data.toList.take i) = s.data.toList
  | 0, i, h => by
    rw [seG, opn, opn, rp, ext_list s i s.size h]
    exact List.take_of_length_le (by simp)
  | f + 1, i, h => by
    rw [seG]
    by_cases c : 0 < (nx s i).2.2
    · rw [if_pos c]
      obtain ⟨r1, r2, r3, r4, r5, r6⟩ := nx_rp c
      obtain ⟨_, n2, n3⟩ := nx_is s i
      rw [opn]
      show opn _ (rp (nx s i).2.1 (nx s i).2.2 (_ ++ (s.extract i (nx s i).1).data.toList)) = _
      rw [ext_list s i _ n2, rp_take _ _ (by simp; omega) r2 r4 (fun m hm => by
        have := r6 m hm
        rw [← bt_lst, ← bt_lst] at this
        exact UInt8.toNat_inj.1 this)]
      exact seG_opn f _ r5
    · rw [if_neg c, opn, opn, rp, ext_list s i s.size h]
      exact List.take_of_length_le (by simp)
end
end Go.Proofs.YtgigiamnhjelmaaDoor
