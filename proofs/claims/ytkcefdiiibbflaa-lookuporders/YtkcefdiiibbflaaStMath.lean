/-
  Plain mathematics of a store: objects in the order of their names; the same as a map reads.
-/
import Derived.Maps.Views
namespace Go.Proofs.Ytkcefdiiibbflaa
open Go.WideShapes

/-- An object: name and data. -/
structure OB where
  n : ByteArray
  d : ByteArray
def bl (x y : ByteArray) : Bool := bytesBefore x.data.toList y.data.toList
theorem less_before : ∀ x y : List UInt8, Op.bytesLess x y = bytesBefore x y
  | [], [] => rfl
  | [], _ :: _ => rfl
  | _ :: _, [] => rfl
  | a :: x, b :: y => by rw [Op.bytesLess, bytesBefore, less_before x y]
theorem bl_irrefl (x : ByteArray) : bl x x = false := WideAt.bytes_irrefl _
theorem bl_trans {x y z : ByteArray} (h : bl x y = true) (h' : bl y z = true) : bl x z = true := bytes_trans _ _ _ h h'
theorem list_ne {x y : ByteArray} (h : x ≠ y) : x.data.toList ≠ y.data.toList := fun e => h (ByteArray.ext (Array.toList_inj.1 e))
theorem bl_total {x y : ByteArray} (h : x ≠ y) : bl x y = true ∨ bl y x = true := WideAt.bytes_total _ _ (list_ne h)
theorem bl_asymm {x y : ByteArray} (h : bl x y = true) : bl y x = false := by
  cases e : bl y x
  · rfl
  · exact absurd (bl_trans h e) (by rw [bl_irrefl]; decide)
theorem bl_ne {x y : ByteArray} (h : bl x y = true) : x ≠ y := fun e => by subst e; rw [bl_irrefl] at h; cases h
theorem bl_not {x y : ByteArray} (h : bl x y = false) (h' : bl y x = false) : x = y := Classical.byContradiction fun e => by
  rcases bl_total e with h1 | h1
  · rw [h1] at h; cases h
  · rw [h1] at h'; cases h'

/-- Names rise. -/
def Ris (L : List OB) : Prop := L.Pairwise (fun p q => bl p.n q.n = true)
/-- The data under a name. -/
def thr : List OB → ByteArray → Option ByteArray
  | [], _ => none
  | p :: r, n => if p.n = n then some p.d else thr r n
/-- An object is laid. -/
def layL : List OB → ByteArray → ByteArray → List OB
  | [], n, d => [⟨n, d⟩]
  | p :: r, n, d => if bl p.n n = true then p :: layL r n d else if p.n = n then ⟨n, d⟩ :: r else ⟨n, d⟩ :: p :: r
/-- An object goes. -/
def delL : List OB → ByteArray → List OB
  | [], _ => []
  | p :: r, n => if p.n = n then r else p :: delL r n
/-- How many names stand ahead. -/
def pos : List OB → ByteArray → Nat
  | [], _ => 0
  | p :: r, n => if bl p.n n = true then pos r n + 1 else 0
/-- What is used. -/
def usedL : List OB → Nat
  | [] => 0
  | p :: r => p.n.size + p.d.size + usedL r
/-- Begins a name so? -/
def begins (b n : ByteArray) : Bool := decide (b.size ≤ n.size) && decide (n.extract 0 b.size = b)
def namesL (L : List OB) (b : ByteArray) : List ByteArray := (L.filter (fun p => begins b p.n)).map (·.n)

theorem thr_none {L : List OB} {n : ByteArray} : thr L n = none ↔ ∀ p ∈ L, p.n ≠ n := by
  induction L with
  | nil => simp [thr]
  | cons p r ih =>
    by_cases e : p.n = n
    · simp [thr, e]
    · simp [thr, e, ih]
theorem ris_tail {p : OB} {L : List OB} (h : Ris (p :: L)) : Ris L := (List.pairwise_cons.1 h).2
theorem ris_head {p : OB} {L : List OB} (h : Ris (p :: L)) : ∀ q ∈ L, bl p.n q.n = true := (List.pairwise_cons.1 h).1
theorem thr_ahead {p : OB} {L : List OB} {n : ByteArray} (h : Ris (p :: L)) (hn : bl n p.n = true ∨ n = p.n) : thr L n = none := by
  rw [thr_none]
  intro q hq e
  have h1 := ris_head h q hq
  rw [e] at h1
  rcases hn with h2 | h2
  · exact absurd (bl_trans h1 h2) (by rw [bl_irrefl]; decide)
  · rw [h2, bl_irrefl] at h1; cases h1
theorem mem_lay {L : List OB} {n d : ByteArray} : ∀ {q : OB}, q ∈ layL L n d → q = ⟨n, d⟩ ∨ q ∈ L := by
  induction L with
  | nil => intro q h; simp [layL] at h; exact .inl h
  | cons p r ih =>
    intro q h
    rw [layL] at h
    split at h
    · rcases List.mem_cons.1 h with h | h
      · exact .inr (by rw [h]; exact List.mem_cons_self)
      · rcases ih h with h | h
        · exact .inl h
        · exact .inr (List.mem_cons_of_mem _ h)
    split at h
    · rcases List.mem_cons.1 h with h | h
      · exact .inl h
      · exact .inr (List.mem_cons_of_mem _ h)
    · rcases List.mem_cons.1 h with h | h
      · exact .inl h
      · exact .inr h
theorem mem_del {L : List OB} {n : ByteArray} : ∀ {q : OB}, q ∈ delL L n → q ∈ L := by
  induction L with
  | nil => intro q h; exact h
  | cons p r ih =>
    intro q h
    rw [delL] at h
    split at h
    · exact List.mem_cons_of_mem _ h
    · rcases List.mem_cons.1 h with h | h
      · rw [h]; exact List.mem_cons_self
      · exact List.mem_cons_of_mem _ (ih h)
theorem ris_lay {L : List OB} (h : Ris L) (n d : ByteArray) : Ris (layL L n d) := by
  induction L with
  | nil => simp [layL, Ris]
  | cons p r ih =>
    rw [layL]
    split
    · rename_i hb
      refine List.pairwise_cons.2 ⟨fun q hq => ?_, ih (ris_tail h)⟩
      rcases mem_lay hq with e | e
      · rw [e]; exact hb
      · exact ris_head h q e
    · rename_i hb
      split
      · rename_i e
        refine List.pairwise_cons.2 ⟨fun q hq => ?_, ris_tail h⟩
        rw [← e]; exact ris_head h q hq
      · rename_i e
        have hn : bl n p.n = true := by
          rcases bl_total e with h1 | h1
          · exact absurd h1 hb
          · exact h1
        refine List.pairwise_cons.2 ⟨fun q hq => ?_, h⟩
        rcases List.mem_cons.1 hq with e2 | e2
        · rw [e2]; exact hn
        · exact bl_trans hn (ris_head h q e2)
theorem ris_del {L : List OB} (h : Ris L) (n : ByteArray) : Ris (delL L n) := by
  induction L with
  | nil => exact h
  | cons p r ih =>
    rw [delL]
    split
    · exact ris_tail h
    · exact List.pairwise_cons.2 ⟨fun q hq => ris_head h q (mem_del hq), ih (ris_tail h)⟩
theorem thr_lay {L : List OB} (h : Ris L) (n d m : ByteArray) : thr (layL L n d) m = if n = m then some d else thr L m := by
  induction L with
  | nil => simp [layL, thr]
  | cons p r ih =>
    rw [layL]
    split
    · rename_i hb
      rw [thr, ih (ris_tail h), thr]
      by_cases e : p.n = m
      · have : n ≠ m := fun e2 => by rw [← e2] at e; exact bl_ne hb e
        simp [e, this]
      · simp [e]
    · split
      · rename_i e
        rw [thr, thr]
        by_cases e2 : n = m
        · simp [e2]
        · simp [e2, e]
      · rw [thr]
theorem thr_del {L : List OB} (h : Ris L) (n m : ByteArray) : thr (delL L n) m = if n = m then none else thr L m := by
  induction L with
  | nil => simp [delL, thr]
  | cons p r ih =>
    rw [delL]
    split
    · rename_i e
      rw [thr]
      by_cases e2 : n = m
      · subst e2
        simp [thr_ahead h (.inr e.symm)]
      · simp [e2, e]
    · rename_i e
      rw [thr, ih (ris_tail h), thr]
      by_cases e2 : n = m
      · subst e2; simp [e]
      · simp [e2]
def szO (n : ByteArray) : Option ByteArray → Nat
  | some d => n.size + d.size
  | none => 0
theorem used_del (L : List OB) (n : ByteArray) : usedL L = usedL (delL L n) + szO n (thr L n) := by
  induction L with
  | nil => rfl
  | cons p r ih =>
    by_cases e : p.n = n
    · subst e
      simp only [delL, thr, usedL, if_true, szO]
      omega
    · simp only [delL, thr, usedL, if_neg e]
      omega
theorem used_lay {L : List OB} (h : Ris L) (n d : ByteArray) : usedL (layL L n d) + szO n (thr L n) = usedL L + n.size + d.size := by
  induction L with
  | nil => simp only [layL, thr, usedL, szO]; omega
  | cons p r ih =>
    rw [layL]
    split
    · rename_i hb
      have := ih (ris_tail h)
      simp only [thr, if_neg (bl_ne hb), usedL]
      omega
    · rename_i hb
      split
      · rename_i e
        subst e
        simp only [thr, if_true, usedL, szO]
        omega
      · rename_i e
        have hn : bl n p.n = true := by
          rcases bl_total e with h1 | h1
          · exact absurd h1 hb
          · exact h1
        rw [thr, if_neg e, thr_ahead h (.inl hn)]
        simp only [usedL, szO]
        omega
/-- The place of a name. -/
theorem pos_le (L : List OB) (n : ByteArray) : pos L n ≤ L.length := by
  induction L with
  | nil => exact Nat.le_refl _
  | cons p r ih =>
    rw [pos]
    split
    · simp; exact ih
    · exact Nat.zero_le _
theorem pos_before {L : List OB} {n : ByteArray} : ∀ {i : Nat} {p : OB}, i < pos L n → L[i]? = some p → bl p.n n = true := by
  induction L with
  | nil => intro i p h; simp [pos] at h
  | cons q r ih =>
    intro i p h hp
    rw [pos] at h
    split at h
    · rename_i hb
      cases i with
      | zero => simp at hp; rw [← hp]; exact hb
      | succ i => exact ih (i := i) (by omega) (by simpa using hp)
    · omega
theorem pos_at {L : List OB} {n : ByteArray} {p : OB} (hp : L[pos L n]? = some p) : bl p.n n = false := by
  induction L with
  | nil => simp at hp
  | cons q r ih =>
    rw [pos] at hp
    split at hp
    · exact ih (by simpa using hp)
    · rename_i hb
      simp at hp
      rw [← hp]
      simpa using hb
theorem pos_thr {L : List OB} (h : Ris L) (n : ByteArray) : thr L n = match L[pos L n]? with | some p => (if p.n = n then some p.d else none) | none => none := by
  induction L with
  | nil => rfl
  | cons q r ih =>
    by_cases hb : bl q.n n = true
    · rw [pos, if_pos hb, thr, if_neg (bl_ne hb), ih (ris_tail h), List.getElem?_cons_succ]
    · rw [pos, if_neg hb, thr, List.getElem?_cons_zero]
      by_cases e : q.n = n
      · rw [if_pos e]
        dsimp only
        rw [if_pos e]
      · have hn : bl n q.n = true := by
          rcases bl_total e with h1 | h1
          · exact absurd h1 hb
          · exact h1
        rw [if_neg e, thr_ahead h (.inl hn)]
        dsimp only
        rw [if_neg e]
theorem lay_take {L : List OB} (h : Ris L) (n d : ByteArray) : layL L n d = L.take (pos L n) ++ ⟨n, d⟩ :: L.drop (if (thr L n).isSome then pos L n + 1 else pos L n) := by
  induction L with
  | nil => rfl
  | cons q r ih =>
    rw [layL, pos]
    split
    · rename_i hb
      rw [ih (ris_tail h), thr, if_neg (bl_ne hb)]
      split <;> simp
    · rename_i hb
      split
      · rename_i e
        simp [thr, e]
      · rename_i e
        have hn : bl n q.n = true := by
          rcases bl_total e with h1 | h1
          · exact absurd h1 hb
          · exact h1
        rw [thr, if_neg e, thr_ahead h (.inl hn)]
        simp
theorem del_take {L : List OB} (h : Ris L) {n : ByteArray} (ht : (thr L n).isSome = true) : delL L n = L.take (pos L n) ++ L.drop (pos L n + 1) := by
  induction L with
  | nil => simp [thr] at ht
  | cons q r ih =>
    rw [delL, pos]
    split
    · rename_i e
      rw [if_neg (by rw [e, bl_irrefl]; decide)]
      simp
    · rename_i e
      rw [thr, if_neg e] at ht
      have hb : bl q.n n = true := by
        rcases bl_total e with h1 | h1
        · exact h1
        · rw [thr_ahead h (.inl h1)] at ht; cases ht
      rw [if_pos hb, ih (ris_tail h) ht]
      simp
theorem del_none {L : List OB} {n : ByteArray} (ht : thr L n = none) : delL L n = L := by
  induction L with
  | nil => rfl
  | cons q r ih =>
    rw [thr] at ht
    split at ht
    · cases ht
    · rename_i e
      rw [delL, if_neg e, ih ht]

/-! ### As a map reads -/
section
variable {H : Type} (E : ByteArray → DataW H)
/-- An object as an entry; E: how its data read. -/
def entr (p : OB) : Lit × DataW H := (.string p.n.data.toList, E p.d)
def datL (L : List OB) : DataW H := .map (L.map (entr E))
theorem same_name (x y : ByteArray) : (Lit.string x.data.toList).sameKey (.string y.data.toList) = decide (x = y) := by
  by_cases e : x = y
  · subst e; simp [Lit.sameKey]
  · rw [decide_eq_false e, Lit.sameKey, beq_eq_false_iff_ne]
    exact list_ne e
theorem dat_del {L : List OB} (h : Ris L) (n : ByteArray) : (datL E L).del (.string n.data.toList) = datL E (delL L n) := by
  show DataW.map ((L.map (entr E)).filter _) = DataW.map _
  congr 1
  induction L with
  | nil => rfl
  | cons p r ih =>
    rw [List.map_cons, List.filter_cons, delL]
    simp only [entr, same_name]
    by_cases e : p.n = n
    · simp only [e, decide_true, Bool.not_true, if_true]
      rw [if_neg (by decide)]
      refine List.filter_eq_self.2 fun q hq => ?_
      obtain ⟨x, hx, rfl⟩ := List.mem_map.1 hq
      have h1 := ris_head h x hx
      rw [e] at h1
      show (!(Lit.string x.n.data.toList).sameKey (.string n.data.toList)) = true
      rw [same_name, decide_eq_false (bl_ne h1).symm]
      rfl
    · simp only [e, decide_false, Bool.not_false, if_true, if_false]
      rw [List.map_cons]
      exact congrArg _ (ih (ris_tail h))
theorem dat_has (L : List OB) (n : ByteArray) : Maps.has (datL E L) (.string n.data.toList) = (thr L n).isSome := by
  show (L.map (entr E)).any _ = _
  induction L with
  | nil => rfl
  | cons p r ih =>
    rw [List.map_cons, List.any_cons, ih, thr]
    simp only [entr, same_name]
    by_cases e : p.n = n
    · simp [e]
    · simp [e]
theorem dat_at (L : List OB) (n : ByteArray) (z : DataW H) : (datL E L).atKey (.string n.data.toList) z = match thr L n with | some d => E d | none => z := by
  show (match (L.map (entr E)).find? _ with | some p => p.2 | none => z) = _
  induction L with
  | nil => rfl
  | cons p r ih =>
    rw [List.map_cons, List.find?_cons, thr]
    simp only [entr, same_name]
    by_cases e : p.n = n
    · simp [e]
    · simp only [e, decide_false, if_false]
      exact ih
theorem dat_size (L : List OB) : Maps.size (datL E L) = L.length := by
  show (L.map (entr E)).length = _
  simp
theorem dat_put {L : List OB} (h : Ris L) (n d : ByteArray) : (datL E L).put (.string n.data.toList) (E d) = datL E (layL L n d) := by
  have e0 : (datL E L).put (.string n.data.toList) (E d) = .map (DataW.insert (entr E ⟨n, d⟩) ((delL L n).map (entr E))) := by
    have := dat_del E h n
    simp only [datL, DataW.del, DataW.map.injEq] at this
    show DataW.map (DataW.insert _ _) = _
    rw [this]
    rfl
  rw [e0]
  show DataW.map _ = DataW.map _
  congr 1
  clear e0
  induction L with
  | nil => rfl
  | cons p r ih =>
    rw [delL, layL]
    by_cases e : p.n = n
    · have hb : ¬ bl p.n n = true := by rw [e, bl_irrefl]; decide
      rw [if_pos e, if_neg hb, if_pos e]
      cases r with
      | nil => rfl
      | cons q s =>
        have h1 := ris_head h q List.mem_cons_self
        rw [e] at h1
        rw [List.map_cons, DataW.insert]
        exact if_pos (show (Lit.string n.data.toList).before (.string q.n.data.toList) = true from h1)
    · rw [if_neg e, List.map_cons, DataW.insert]
      by_cases hb : bl p.n n = true
      · have hx : ¬ (entr E ⟨n, d⟩).1.before (entr E p).1 = true := by
          show ¬ bl n p.n = true
          rw [bl_asymm hb]; decide
        rw [if_pos hb, if_neg hx, ih (ris_tail h), List.map_cons]
      · have hn : bl n p.n = true := by
          rcases bl_total e with h1 | h1
          · exact absurd h1 hb
          · exact h1
        have hx : (entr E ⟨n, d⟩).1.before (entr E p).1 = true := hn
        rw [if_neg hb, if_neg e, if_pos hx, del_none (thr_ahead h (.inl hn))]
        rfl
end
end Go.Proofs.Ytkcefdiiibbflaa
