/-
  Contracts of the program and of the statements (part 1 of 8).
-/
import Derived.Test.YtiecoplfiahpnaaRows
import Derived.Maps.Views
import Derived.WalkKit
import Derived.WalkSpells
import Derived.WalkLawsBesides
import Derived.Below
import Derived.Laws.OwnMore
import Derived.Laws.LoneSync
import Derived.Lib.VarintMem
import Derived.Lib.SliceRun
import Derived.Lib.AppendZeros
import Derived.BigRegion
import Derived.Maps.AppendAt
import Derived.Maps.RangeWalk
import Derived.Maps.OwnSet
import Derived.Deep.RegionHeld3
import Derived.Deep.RegionHeldLaw
import Derived.Deep.DeepCutAuto
import Derived.Deep.CutBlock
import Derived.StringKeys
import Derived.Shelf.Sort.Plain
import Derived.Shelf.Strings.Prefix
import Derived.Shelf.Slices.In.SortNone

namespace Go.Proofs.Ytiecoplfiahpnaa
open Go.WideShapes

/-- An object: name and data. -/
structure OB where
  n : ByteArray
  d : ByteArray
def bl (x y : ByteArray) : Bool := bytesBefore x.data.toList y.data.toList
theorem less_before : ∀ x y : List UInt8, Op.bytesLess x y = bytesBefore x y
  | [], [] => rfl
  | [], _ :: _ => rfl
  | _ :: _, [] => rfl
  | a :: x, b :: y => by rw [Op.bytesLess, bytesBefore, less_before x y]
theorem bl_irrefl (x : ByteArray) : bl x x = false := WideAt.bytes_irrefl _
theorem bl_trans {x y z : ByteArray} (h : bl x y = true) (h' : bl y z = true) : bl x z = true := bytes_trans _ _ _ h h'
theorem list_ne {x y : ByteArray} (h : x ≠ y) : x.data.toList ≠ y.data.toList := fun e => h (ByteArray.ext (Array.toList_inj.1 e))
theorem bl_total {x y : ByteArray} (h : x ≠ y) : bl x y = true ∨ bl y x = true := WideAt.bytes_total _ _ (list_ne h)
theorem bl_asymm {x y : ByteArray} (h : bl x y = true) : bl y x = false := by
  cases e : bl y x
  · rfl
  · exact absurd (bl_trans h e) (by rw [bl_irrefl]; decide)
theorem bl_ne {x y : ByteArray} (h : bl x y = true) : x ≠ y := fun e => by subst e; rw [bl_irrefl] at h; cases h
theorem bl_not {x y : ByteArray} (h : bl x y = false) (h' : bl y x = false) : x = y := Classical.byContradiction fun e => by
  rcases bl_total e with h1 | h1
  · rw [h1] at h; cases h
  · rw [h1] at h'; cases h'

/-- Names rise. -/
def Ris (L : List OB) : Prop := L.Pairwise (fun p q => bl p.n q.n = true)
/-- The data under a name. -/
def thr : List OB → ByteArray → Option ByteArray
  | [], _ => none
  | p :: r, n => if p.n = n then some p.d else thr r n
/-- An object is laid. -/
def layL : List OB → ByteArray → ByteArray → List OB
  | [], n, d => [⟨n, d⟩]
  | p :: r, n, d => if bl p.n n = true then p :: layL r n d else if p.n = n then ⟨n, d⟩ :: r else ⟨n, d⟩ :: p :: r
/-- An object goes. -/
def delL : List OB → ByteArray → List OB
  | [], _ => []
  | p :: r, n => if p.n = n then r else p :: delL r n
/-- How many names stand ahead. -/
def pos : List OB → ByteArray → Nat
  | [], _ => 0
  | p :: r, n => if bl p.n n = true then pos r n + 1 else 0
/-- What is used. -/
def usedL : List OB → Nat
  | [] => 0
  | p :: r => p.n.size + p.d.size + usedL r
/-- Begins a name so? -/
def begins (b n : ByteArray) : Bool := decide (b.size ≤ n.size) && decide (n.extract 0 b.size = b)
def namesL (L : List OB) (b : ByteArray) : List ByteArray := (L.filter (fun p => begins b p.n)).map (·.n)

theorem thr_none {L : List OB} {n : ByteArray} : thr L n = none ↔ ∀ p ∈ L, p.n ≠ n := by
  induction L with
  | nil => simp [thr]
  | cons p r ih =>
    by_cases e : p.n = n
    · simp [thr, e]
    · simp [thr, e, ih]
theorem ris_tail {p : OB} {L : List OB} (h : Ris (p :: L)) : Ris L := (List.pairwise_cons.1 h).2
theorem ris_head {p : OB} {L : List OB} (h : Ris (p :: L)) : ∀ q ∈ L, bl p.n q.n = true := (List.pairwise_cons.1 h).1
theorem thr_ahead {p : OB} {L : List OB} {n : ByteArray} (h : Ris (p :: L)) (hn : bl n p.n = true ∨ n = p.n) : thr L n = none := by
  rw [thr_none]
  intro q hq e
  have h1 := ris_head h q hq
  rw [e] at h1
  rcases hn with h2 | h2
  · exact absurd (bl_trans h1 h2) (by rw [bl_irrefl]; decide)
  · rw [h2, bl_irrefl] at h1; cases h1
theorem mem_lay {L : List OB} {n d : ByteArray} : ∀ {q : OB}, q ∈ layL L n d → q = ⟨n, d⟩ ∨ q ∈ L := by
  induction L with
  | nil => intro q h; simp [layL] at h; exact .inl h
  | cons p r ih =>
    intro q h
    rw [layL] at h
    split at h
    · rcases List.mem_cons.1 h with h | h
      · exact .inr (by rw [h]; exact List.mem_cons_self)
      · rcases ih h with h | h
        · exact .inl h
        · exact .inr (List.mem_cons_of_mem _ h)
    split at h
    · rcases List.mem_cons.1 h with h | h
      · exact .inl h
      · exact .inr (List.mem_cons_of_mem _ h)
    · rcases List.mem_cons.1 h with h | h
      · exact .inl h
      · exact .inr h
theorem mem_del {L : List OB} {n : ByteArray} : ∀ {q : OB}, q ∈ delL L n → q ∈ L := by
  induction L with
  | nil => intro q h; exact h
  | cons p r ih =>
    intro q h
    rw [delL] at h
    split at h
    · exact List.mem_cons_of_mem _ h
    · rcases List.mem_cons.1 h with h | h
      · rw [h]; exact List.mem_cons_self
      · exact List.mem_cons_of_mem _ (ih h)
theorem ris_lay {L : List OB} (h : Ris L) (n d : ByteArray) : Ris (layL L n d) := by
  induction L with
  | nil => simp [layL, Ris]
  | cons p r ih =>
    rw [layL]
    split
    · rename_i hb
      refine List.pairwise_cons.2 ⟨fun q hq => ?_, ih (ris_tail h)⟩
      rcases mem_lay hq with e | e
      · rw [e]; exact hb
      · exact ris_head h q e
    · rename_i hb
      split
      · rename_i e
        refine List.pairwise_cons.2 ⟨fun q hq => ?_, ris_tail h⟩
        rw [← e]; exact ris_head h q hq
      · rename_i e
        have hn : bl n p.n = true := by
          rcases bl_total e with h1 | h1
          · exact absurd h1 hb
          · exact h1
        refine List.pairwise_cons.2 ⟨fun q hq => ?_, h⟩
        rcases List.mem_cons.1 hq with e2 | e2
        · rw [e2]; exact hn
        · exact bl_trans hn (ris_head h q e2)
theorem ris_del {L : List OB} (h : Ris L) (n : ByteArray) : Ris (delL L n) := by
  induction L with
  | nil => exact h
  | cons p r ih =>
    rw [delL]
    split
    · exact ris_tail h
    · exact List.pairwise_cons.2 ⟨fun q hq => ris_head h q (mem_del hq), ih (ris_tail h)⟩
theorem thr_lay {L : List OB} (h : Ris L) (n d m : ByteArray) : thr (layL L n d) m = if n = m then some d else thr L m := by
  induction L with
  | nil => simp [layL, thr]
  | cons p r ih =>
    rw [layL]
    split
    · rename_i hb
      rw [thr, ih (ris_tail h), thr]
      by_cases e : p.n = m
      · have : n ≠ m := fun e2 => by rw [← e2] at e; exact bl_ne hb e
        simp [e, this]
      · simp [e]
    · split
      · rename_i e
        rw [thr, thr]
        by_cases e2 : n = m
        · simp [e2]
        · simp [e2, e]
      · rw [thr]
theorem thr_del {L : List OB} (h : Ris L) (n m : ByteArray) : thr (delL L n) m = if n = m then none else thr L m := by
  induction L with
  | nil => simp [delL, thr]
  | cons p r ih =>
    rw [delL]
    split
    · rename_i e
      rw [thr]
      by_cases e2 : n = m
      · subst e2
        simp [thr_ahead h (.inr e.symm)]
      · simp [e2, e]
    · rename_i e
      rw [thr, ih (ris_tail h), thr]
      by_cases e2 : n = m
      · subst e2; simp [e]
      · simp [e2]
def szO (n : ByteArray) : Option ByteArray → Nat
  | some d => n.size + d.size
  | none => 0
theorem used_del (L : List OB) (n : ByteArray) : usedL L = usedL (delL L n) + szO n (thr L n) := by
  induction L with
  | nil => rfl
  | cons p r ih =>
    by_cases e : p.n = n
    · subst e
      simp only [delL, thr, usedL, if_true, szO]
      omega
    · simp only [delL, thr, usedL, if_neg e]
      omega
theorem used_lay {L : List OB} (h : Ris L) (n d : ByteArray) : usedL (layL L n d) + szO n (thr L n) = usedL L + n.size + d.size := by
  induction L with
  | nil => simp only [layL, thr, usedL, szO]; omega
  | cons p r ih =>
    rw [layL]
    split
    · rename_i hb
      have := ih (ris_tail h)
      simp only [thr, if_neg (bl_ne hb), usedL]
      omega
    · rename_i hb
      split
      · rename_i e
        subst e
        simp only [thr, if_true, usedL, szO]
        omega
      · rename_i e
        have hn : bl n p.n = true := by
          rcases bl_total e with h1 | h1
          · exact absurd h1 hb
          · exact h1
        rw [thr, if_neg e, thr_ahead h (.inl hn)]
        simp only [usedL, szO]
        omega
/-- The place of a name. -/
theorem pos_le (L : List OB) (n : ByteArray) : pos L n ≤ L.length := by
  induction L with
  | nil => exact Nat.le_refl _
  | cons p r ih =>
    rw [pos]
    split
    · simp; exact ih
    · exact Nat.zero_le _
theorem pos_before {L : List OB} {n : ByteArray} : ∀ {i : Nat} {p : OB}, i < pos L n → L[i]? = some p → bl p.n n = true := by
  induction L with
  | nil => intro i p h; simp [pos] at h
  | cons q r ih =>
    intro i p h hp
    rw [pos] at h
    split at h
    · rename_i hb
      cases i with
      | zero => simp at hp; rw [← hp]; exact hb
      | succ i => exact ih (i := i) (by omega) (by simpa using hp)
    · omega
theorem pos_at {L : List OB} {n : ByteArray} {p : OB} (hp : L[pos L n]? = some p) : bl p.n n = false := by
  induction L with
  | nil => simp at hp
  | cons q r ih =>
    rw [pos] at hp
    split at hp
    · exact ih (by simpa using hp)
    · rename_i hb
      simp at hp
      rw [← hp]
      simpa using hb
theorem pos_thr {L : List OB} (h : Ris L) (n : ByteArray) : thr L n = match L[pos L n]? with | some p => (if p.n = n then some p.d else none) | none => none := by
  induction L with
  | nil => rfl
  | cons q r ih =>
    by_cases hb : bl q.n n = true
    · rw [pos, if_pos hb, thr, if_neg (bl_ne hb), ih (ris_tail h), List.getElem?_cons_succ]
    · rw [pos, if_neg hb, thr, List.getElem?_cons_zero]
      by_cases e : q.n = n
      · rw [if_pos e]
        dsimp only
        rw [if_pos e]
      · have hn : bl n q.n = true := by
          rcases bl_total e with h1 | h1
          · exact absurd h1 hb
          · exact h1
        rw [if_neg e, thr_ahead h (.inl hn)]
        dsimp only
        rw [if_neg e]
theorem lay_take {L : List OB} (h : Ris L) (n d : ByteArray) : layL L n d = L.take (pos L n) ++ ⟨n, d⟩ :: L.drop (if (thr L n).isSome then pos L n + 1 else pos L n) := by
  induction L with
  | nil => rfl
  | cons q r ih =>
    rw [layL, pos]
    split
    · rename_i hb
      rw [ih (ris_tail h), thr, if_neg (bl_ne hb)]
      split <;> simp
    · rename_i hb
      split
      · rename_i e
        simp [thr, e]
      · rename_i e
        have hn : bl n q.n = true := by
          rcases bl_total e with h1 | h1
          · exact absurd h1 hb
          · exact h1
        rw [thr, if_neg e, thr_ahead h (.inl hn)]
        simp
theorem del_take {L : List OB} (h : Ris L) {n : ByteArray} (ht : (thr L n).isSome = true) : delL L n = L.take (pos L n) ++ L.drop (pos L n + 1) := by
  induction L with
  | nil => simp [thr] at ht
  | cons q r ih =>
    rw [delL, pos]
    split
    · rename_i e
      rw [if_neg (by rw [e, bl_irrefl]; decide)]
      simp
    · rename_i e
      rw [thr, if_neg e] at ht
      have hb : bl q.n n = true := by
        rcases bl_total e with h1 | h1
        · exact h1
        · rw [thr_ahead h (.inl h1)] at ht; cases ht
      rw [if_pos hb, ih (ris_tail h) ht]
      simp
theorem del_none {L : List OB} {n : ByteArray} (ht : thr L n = none) : delL L n = L := by
  induction L with
  | nil => rfl
  | cons q r ih =>
    rw [thr] at ht
    split at ht
    · cases ht
    · rename_i e
      rw [delL, if_neg e, ih ht]

/-! ### As a map reads -/
section
variable {H : Type} (E : ByteArray → DataW H)
/-- An object as an entry; E: how its data read. -/
def entr (p : OB) : Lit × DataW H := (.string p.n.data.toList, E p.d)
def datL (L : List OB) : DataW H := .map (L.map (entr E))
theorem same_name (x y : ByteArray) : (Lit.string x.data.toList).sameKey (.string y.data.toList) = decide (x = y) := by
  by_cases e : x = y
  · subst e; simp [Lit.sameKey]
  · rw [decide_eq_false e, Lit.sameKey, beq_eq_false_iff_ne]
    exact list_ne e
theorem dat_del {L : List OB} (h : Ris L) (n : ByteArray) : (datL E L).del (.string n.data.toList) = datL E (delL L n) := by
  show DataW.map ((L.map (entr E)).filter _) = DataW.map _
  congr 1
  induction L with
  | nil => rfl
  | cons p r ih =>
    rw [List.map_cons, List.filter_cons, delL]
    simp only [entr, same_name]
    by_cases e : p.n = n
    · simp only [e, decide_true, Bool.not_true, if_true]
      rw [if_neg (by decide)]
      refine List.filter_eq_self.2 fun q hq => ?_
      obtain ⟨x, hx, rfl⟩ := List.mem_map.1 hq
      have h1 := ris_head h x hx
      rw [e] at h1
      show (!(Lit.string x.n.data.toList).sameKey (.string n.data.toList)) = true
      rw [same_name, decide_eq_false (bl_ne h1).symm]
      rfl
    · simp only [e, decide_false, Bool.not_false, if_true, if_false]
      rw [List.map_cons]
      exact congrArg _ (ih (ris_tail h))
theorem dat_has (L : List OB) (n : ByteArray) : Maps.has (datL E L) (.string n.data.toList) = (thr L n).isSome := by
  show (L.map (entr E)).any _ = _
  induction L with
  | nil => rfl
  | cons p r ih =>
    rw [List.map_cons, List.any_cons, ih, thr]
    simp only [entr, same_name]
    by_cases e : p.n = n
    · simp [e]
    · simp [e]
theorem dat_at (L : List OB) (n : ByteArray) (z : DataW H) : (datL E L).atKey (.string n.data.toList) z = match thr L n with | some d => E d | none => z := by
  show (match (L.map (entr E)).find? _ with | some p => p.2 | none => z) = _
  induction L with
  | nil => rfl
  | cons p r ih =>
    rw [List.map_cons, List.find?_cons, thr]
    simp only [entr, same_name]
    by_cases e : p.n = n
    · simp [e]
    · simp only [e, decide_false, if_false]
      exact ih
theorem dat_size (L : List OB) : Maps.size (datL E L) = L.length := by
  show (L.map (entr E)).length = _
  simp
theorem dat_put {L : List OB} (h : Ris L) (n d : ByteArray) : (datL E L).put (.string n.data.toList) (E d) = datL E (layL L n d) := by
  have e0 : (datL E L).put (.string n.data.toList) (E d) = .map (DataW.insert (entr E ⟨n, d⟩) ((delL L n).map (entr E))) := by
    have := dat_del E h n
    simp only [datL, DataW.del, DataW.map.injEq] at this
    show DataW.map (DataW.insert _ _) = _
    rw [this]
    rfl
  rw [e0]
  show DataW.map _ = DataW.map _
  congr 1
  clear e0
  induction L with
  | nil => rfl
  | cons p r ih =>
    rw [delL, layL]
    by_cases e : p.n = n
    · have hb : ¬ bl p.n n = true := by rw [e, bl_irrefl]; decide
      rw [if_pos e, if_neg hb, if_pos e]
      cases r with
      | nil => rfl
      | cons q s =>
        have h1 := ris_head h q List.mem_cons_self
        rw [e] at h1
        rw [List.map_cons, DataW.insert]
        exact if_pos (show (Lit.string n.data.toList).before (.string q.n.data.toList) = true from h1)
    · rw [if_neg e, List.map_cons, DataW.insert]
      by_cases hb : bl p.n n = true
      · have hx : ¬ (entr E ⟨n, d⟩).1.before (entr E p).1 = true := by
          show ¬ bl n p.n = true
          rw [bl_asymm hb]; decide
        rw [if_pos hb, if_neg hx, ih (ris_tail h), List.map_cons]
      · have hn : bl n p.n = true := by
          rcases bl_total e with h1 | h1
          · exact absurd h1 hb
          · exact h1
        have hx : (entr E ⟨n, d⟩).1.before (entr E p).1 = true := hn
        rw [if_neg hb, if_neg e, if_pos hx, del_none (thr_ahead h (.inl hn))]
        rfl
end
end Go.Proofs.Ytiecoplfiahpnaa

namespace Go.Proofs.Ytiecoplfiahpnaa
open Go.RowKit Go.Lib Go.Maps

theorem hide {p : Prop} (h : p) : Hid p := h
theorem take_snoc (s : ByteArray) (k : Nat) (h : k < s.size) : s.data.toList.take (k + 1) = s.data.toList.take k ++ [s[k]] := by
  have hk : k < s.data.toList.length := by simpa using h
  rw [List.take_add_one, List.getElem?_eq_getElem hk]
  rfl
theorem bytes_list (x : ByteArray) : x.toList = x.data.toList := ByteArray.toList_eq x
theorem test_eq (x y : ByteArray) : (x.toList == y.toList) = decide (x = y) := by
  by_cases e : x = y
  · subst e; simp
  · rw [decide_eq_false e, bytes_list, bytes_list, beq_eq_false_iff_ne]
    exact list_ne e
theorem test_less (x y : ByteArray) : Op.bytesLess x.toList y.toList = bl x y := by
  rw [bytes_list, bytes_list, less_before]; rfl

theorem less_fact {x y : ByteArray} {t : Bool} (h : bl x y = t) : Op.bytesLess x.toList y.toList = t := (test_less x y).trans h
/-- A byte that a name may have. -/
def okB (x : UInt8) : Bool := decide (32 < x.toNat) && decide (x.toNat < 127)
/-- May a name be? -/
def mayB (n : ByteArray) : Bool := decide (1 ≤ n.size) && decide (n.size ≤ 96) && n.data.toList.all okB

theorem below_step {w9 w' w'' : World} (h : Below w9.heap.size w9 w') (k : Below w'.heap.size w' w'') : Below w9.heap.size w9 w'' := h.trans (k.mono h.size)

theorem used_snoc (L : List OB) (p : OB) : usedL (L ++ [p]) = usedL L + (p.n.size + p.d.size) := by
  induction L with
  | nil => simp [usedL]
  | cons q r ih => simp only [List.cons_append, usedL, ih]; omega
theorem used_take_le : ∀ (L : List OB) (j : Nat), usedL (L.take j) ≤ usedL L
  | [], _ => by simp [usedL]
  | _ :: _, 0 => Nat.zero_le _
  | p :: r, j + 1 => by
    have := used_take_le r j
    rw [List.take_succ_cons, usedL, usedL]
    omega
theorem used_take {L : List OB} {j : Nat} {p : OB} (hp : L[j]? = some p) : usedL (L.take (j + 1)) = usedL (L.take j) + (p.n.size + p.d.size) := by
  rw [List.take_add_one, hp]
  exact used_snoc _ _

theorem Try.infoTx : (Try.prog.info? 9).map (fun i => (i.zero, i.size, i.bytes)) = some (some (.string ⟨#[]⟩), 1, 16) := by kernel_rfl
theorem info_parts {o : Option TypeInfo} {z : Option Value} {s b : Nat} (h : o.map (fun i => (i.zero, i.size, i.bytes)) = some (z, s, b)) : ∃ i, o = some i ∧ i.zero = z ∧ i.size = s ∧ i.bytes = b := by
  cases o with
  | none => cases h
  | some i =>
    simp only [Option.map_some, Option.some.injEq, Prod.mk.injEq] at h
    exact ⟨i, rfl, h⟩
def tc (l : List ByteArray) : List Value := l.map .string
/-- A list of texts in a block of one's own. -/
structure TS (B : Nat) (v : Value) (l : List ByteArray) (w : World) : Prop where
  own : w.ownsRow B 9 1 v l.length (tc l)
section
variable {B : Nat} {v : Value} {l : List ByteArray} {w w' : World}
theorem TS.nil (B : Nat) (w : World) : TS B (.slice none 0 0) [] w := ⟨World.ownsRow_nil w B 9 1⟩
theorem TS.shp (h : TS B v l w) : ∃ a c, v = .slice a l.length c := by
  obtain ⟨h1, ⟨rfl, h2⟩ | ⟨g, cap, cur, rfl, _⟩⟩ := h.own
  · rw [h2]; exact ⟨_, _, rfl⟩
  · exact ⟨_, _, rfl⟩
theorem TS.keep (h : TS B v l w) (hb : Below w.heap.size w w') : TS B v l w' := by
  refine ⟨h.own.1, ?_⟩
  rcases h.own.2 with h2 | ⟨g, cap, cur, e, hB, hg, r⟩
  · exact .inl h2
  · exact .inr ⟨g, cap, cur, e, hB, (hb.block g (lt_of_block hg)).trans hg, r⟩
theorem TS.lt (h : TS B v l w) (b : Nat) (hb : v.ownBlock = some b) : B ≤ b ∧ b < w.heap.size := by
  obtain ⟨h1, ⟨rfl, h2⟩ | ⟨g, cap, cur, rfl, hB, hg, _⟩⟩ := h.own
  · simp [Value.ownBlock] at hb
  · simp only [Value.ownBlock, Option.some.injEq] at hb
    subst hb
    exact ⟨hB, lt_of_block hg⟩
/-- One text more. -/
theorem TS.one (h : TS B v l w) (x : ByteArray) (hb : l.length + 1 ≤ 1000001) (hB : B ≤ w.heap.size) :
    ∃ v' w', (Builtin.append_ #[29, 29] 29 #[v, .slice (some ⟨w.heap.size, 0, none⟩) 1 1]).run Try.prog (w.alloc (.cells #[.string x] 9)) = .ok v' w' ∧ TS B v' (l ++ [x]) w' ∧ (∀ w0, Below B w0 w → Below B w0 w') ∧ (w.alloc (.cells #[.string x] 9)).grownBy w' v.ownBlock := by
  have hal : Below w.heap.size w (w.alloc (.cells #[.string x] 9)) := (Below.refl _ _).alloc (Nat.le_refl _) _
  have h' := h.keep hal
  obtain ⟨i0, hi, hz0, hz1, hz2⟩ := info_parts Try.infoTx
  obtain ⟨v', w', h1, h2, h3, _⟩ := run_append_own_at (P := Try.prog) (w.alloc (.cells #[.string x] 9)) B 29 29 9 i0 (.string ⟨#[]⟩) 1 16 Try.underlying29 hi hz0 hz1 hz2 rfl (by decide) v l.length (tc l) h'.own ⟨w.heap.size, 0, none⟩ 1 1 [.string x] rfl (fun j u hj => by
      rw [Addr.add_mid, Nat.zero_add, cell_of_row _ _ _ _ _ _ (heap_alloc_new w _)]
      simpa using hj) (by simp [Value.oneCell']) (by unfold maxLen; omega) (by omega) (by simp; omega)
  refine ⟨v', w', h1, ⟨by rw [List.length_append, tc, List.map_append]; exact h2⟩, fun w0 hb0 => ?_, h3⟩
  exact (hb0.trans (hal.mono hB)).grown h3 (by simp; omega) (fun k hk => (h'.lt k hk).1)
end
theorem heap_set_self {T : TypeId} {w : World} {b j : Nat} {u : Value} {c : Array Value} {fr : Nat × Nat} (h : w.heap[b]? = some (.cells c T fr)) : (w.setCell ⟨b, j, none⟩ u).heap[b]? = some (.cells (c.setIfInBounds j u) T fr) := by
  have hlt := lt_of_block h
  have h' : w.heap[b] = .cells c T fr := by simpa [Array.getElem?_eq_getElem hlt] using h
  show (w.heap.modify b _)[b]? = _
  rw [Array.getElem?_eq_getElem (by simpa using hlt), Array.getElem_modify_self, h']
  rfl
/-- Only these blocks are turned, and new memory. -/
structure Gs (p : Nat → Prop) (w w' : World) : Prop where
  os : w'.os = w.os
  tape : w'.tape = w.tape
  output : w'.output = w.output
  size : w.heap.size ≤ w'.heap.size
  block : ∀ i, i < w.heap.size → ¬ p i → w'.heap[i]? = w.heap[i]?
section
variable {p : Nat → Prop} {w w1 w' : World}
theorem Gs.refl (p : Nat → Prop) (w : World) : Gs p w w := ⟨rfl, rfl, rfl, Nat.le_refl _, fun _ _ _ => rfl⟩
theorem Gs.trans (h : Gs p w w1) (k : Gs p w1 w') : Gs p w w' :=
  ⟨k.os.trans h.os, k.tape.trans h.tape, k.output.trans h.output, Nat.le_trans h.size k.size, fun i hi hp => (k.block i (Nat.lt_of_lt_of_le hi h.size) hp).trans (h.block i hi hp)⟩
theorem Gs.gb {b : Nat} (h : Gs p w w1) (k : w1.grownBy w' (some b)) (hb : p b ∨ w.heap.size ≤ b) : Gs p w w' :=
  ⟨k.os.trans h.os, k.tape.trans h.tape, k.output.trans h.output, Nat.le_trans h.size k.size, fun i hi hp => (k.block i (Nat.lt_of_lt_of_le hi h.size) (by
    intro e
    cases e
    rcases hb with hb | hb
    · exact hp hb
    · omega)).trans (h.block i hi hp)⟩
theorem Gs.bel (h : Gs p w w1) (k : Below w1.heap.size w1 w') : Gs p w w' :=
  ⟨k.os.trans h.os, k.tape.trans h.tape, k.output.trans h.output, Nat.le_trans h.size k.size, fun i hi hp => (k.block i (Nat.lt_of_lt_of_le hi h.size)).trans (h.block i hi hp)⟩
theorem Gs.of_below (p : Nat → Prop) (k : Below w.heap.size w w') : Gs p w w' := (Gs.refl p w).bel k
theorem Gs.below (h : Gs p w w') {B : Nat} {w0 : World} (h0 : Below B w0 w) (hB : B ≤ w.heap.size) (hp : ∀ i, p i → B ≤ i) : Below B w0 w' :=
  ⟨h.os.trans h0.os, h.tape.trans h0.tape, h.output.trans h0.output, Nat.le_trans h0.size h.size, fun i hi => (h.block i (by omega) (fun e => by have := hp i e; omega)).trans (h0.block i hi)⟩
theorem Gs.mono {q : Nat → Prop} (h : Gs p w w') (hq : ∀ i, i < w.heap.size → p i → q i) : Gs q w w' := ⟨h.os, h.tape, h.output, h.size, fun i hi hn => h.block i hi (fun e => hn (hq i hi e))⟩
end
theorem names_take {L : List OB} {j : Nat} {p : OB} (b : ByteArray) (hp : L[j]? = some p) : namesL (L.take (j + 1)) b = namesL (L.take j) b ++ (if begins b p.n = true then [p.n] else []) := by
  rw [List.take_add_one, hp, namesL, namesL, Option.toList_some, List.filter_append, List.map_append]
  congr 1
  by_cases h : begins b p.n = true <;> simp [h]
theorem names_len (L : List OB) (b : ByteArray) : (namesL L b).length ≤ L.length := by
  rw [namesL, List.length_map]
  exact List.length_filter_le _ _
end Go.Proofs.Ytiecoplfiahpnaa

namespace Go.Proofs.Ytiecoplfiahpnaa
open Go.RowKit Go.Lib

end Go.Proofs.Ytiecoplfiahpnaa

namespace Go.Proofs.Ytiecoplfiahpnaa
open Go.RowKit Go.Lib

/-- A list of objects lies in memory. -/
def OL (w : World) (v : Value) (L : List OB) : Prop :=
  ∃ a c, v = .slice a L.length c ∧ (L = [] ∨ ∃ g o, a = some ⟨g, o, none⟩ ∧ g < w.heap.size ∧ ∀ i p, L[i]? = some p → w.cell? ⟨g, o + i * 2, none⟩ = some (.string p.n) ∧ w.cell? ⟨g, o + i * 2 + 1, none⟩ = some (.string p.d))
section
variable {w w' : World} {b : Nat} {q f m : Int} {off : Bool} {v : Value} {L : List OB}
theorem OL.below (h : OL w v L) {B : Nat} (hb : Below B w w') (hB : w.heap.size ≤ B) : OL w' v L := by
  obtain ⟨a, c, e, h | ⟨g, o, ea, hg, hC⟩⟩ := h
  · exact ⟨a, c, e, .inl h⟩
  · exact ⟨a, c, e, .inr ⟨g, o, ea, Nat.lt_of_lt_of_le hg hb.size, fun i p hp => ⟨(hb.cell (p := ⟨g, o + i * 2, none⟩) (Nat.lt_of_lt_of_le hg hB)).trans (hC i p hp).1, (hb.cell (p := ⟨g, o + i * 2 + 1, none⟩) (Nat.lt_of_lt_of_le hg hB)).trans (hC i p hp).2⟩⟩⟩
end
theorem pos_lt_some {L : List OB} {n : ByteArray} {j : Nat} (h : j < pos L n) : ∃ p, L[j]? = some p ∧ bl p.n n = true := by
  have hl : j < L.length := Nat.lt_of_lt_of_le h (pos_le L n)
  exact ⟨L[j], List.getElem?_eq_getElem hl, pos_before h (List.getElem?_eq_getElem hl)⟩

end Go.Proofs.Ytiecoplfiahpnaa

namespace Go.Proofs.Ytiecoplfiahpnaa
open Go.RowKit Go.Lib

/-- The cells of objects. -/
def oc : List OB → List Value
  | [] => []
  | p :: r => .string p.n :: .string p.d :: oc r
theorem oc_len : ∀ L : List OB, (oc L).length = L.length * 2
  | [] => rfl
  | _ :: r => by rw [oc, List.length_cons, List.length_cons, oc_len r, List.length_cons]; omega
theorem oc_app : ∀ L M : List OB, oc (L ++ M) = oc L ++ oc M
  | [], _ => rfl
  | p :: r, M => by rw [List.cons_append, oc, oc_app r M, oc]; rfl
theorem oc_get0 : ∀ (L : List OB) (i : Nat), (oc L)[i * 2]? = L[i]?.map (fun p => Value.string p.n)
  | [], i => by simp [oc]
  | p :: r, 0 => rfl
  | p :: r, i + 1 => by rw [oc, show (i + 1) * 2 = i * 2 + 1 + 1 by omega, List.getElem?_cons_succ, List.getElem?_cons_succ, oc_get0 r i, List.getElem?_cons_succ]
theorem oc_get1 : ∀ (L : List OB) (i : Nat), (oc L)[i * 2 + 1]? = L[i]?.map (fun p => Value.string p.d)
  | [], i => by simp [oc]
  | p :: r, 0 => rfl
  | p :: r, i + 1 => by rw [oc, show (i + 1) * 2 + 1 = i * 2 + 1 + 1 + 1 by omega, List.getElem?_cons_succ, List.getElem?_cons_succ, oc_get1 r i, List.getElem?_cons_succ]
theorem oc_one (L : List OB) : ∀ u ∈ oc L, u.oneCell' = true := by
  induction L with
  | nil => intro u h; cases h
  | cons p r ih =>
    intro u h
    rw [oc] at h
    rcases List.mem_cons.1 h with h | h
    · rw [h]; rfl
    · rcases List.mem_cons.1 h with h | h
      · rw [h]; rfl
      · exact ih u h
/-- Objects lie in memory from a place on. -/
def Src (w : World) (g o : Nat) (L : List OB) : Prop := ∀ i p, L[i]? = some p → w.cell? ⟨g, o + i * 2, none⟩ = some (.string p.n) ∧ w.cell? ⟨g, o + i * 2 + 1, none⟩ = some (.string p.d)
section
variable {w w' : World} {g o : Nat} {L : List OB}
theorem Src.cells (h : Src w g o L) : ∀ j u, (oc L)[j]? = some u → w.cell? ((⟨g, o, none⟩ : Addr).add j) = some u := by
  intro j u hj
  rw [Addr.add_mid]
  rcases Nat.mod_two_eq_zero_or_one j with e | e
  · obtain ⟨i, rfl⟩ : ∃ i, j = i * 2 := ⟨j / 2, by omega⟩
    rw [oc_get0] at hj
    obtain ⟨p, hp, rfl⟩ := Option.map_eq_some_iff.1 hj
    exact (h i p hp).1
  · obtain ⟨i, rfl⟩ : ∃ i, j = i * 2 + 1 := ⟨j / 2, by omega⟩
    rw [oc_get1] at hj
    obtain ⟨p, hp, rfl⟩ := Option.map_eq_some_iff.1 hj
    rw [← Nat.add_assoc]
    exact (h i p hp).2
theorem Src.take (h : Src w g o L) (k : Nat) : Src w g o (L.take k) := fun i p hp => by
  rw [List.getElem?_take] at hp
  split at hp
  · exact h i p hp
  · cases hp
theorem Src.drop (h : Src w g o L) (k : Nat) : Src w g (o + k * 2) (L.drop k) := fun i p hp => by
  rw [List.getElem?_drop] at hp
  have := h (k + i) p hp
  rw [show o + (k + i) * 2 = o + k * 2 + i * 2 by omega] at this
  exact this
theorem Src.below (h : Src w g o L) {B : Nat} (hb : Below B w w') (hB : g < B) : Src w' g o L := fun i p hp =>
  ⟨(hb.cell (p := ⟨g, o + i * 2, none⟩) hB).trans (h i p hp).1, (hb.cell (p := ⟨g, o + i * 2 + 1, none⟩) hB).trans (h i p hp).2⟩
end
section
variable {B : Nat} {v : Value} {L M : List OB} {w w' : World}
end
end Go.Proofs.Ytiecoplfiahpnaa

namespace Go.Proofs.Ytiecoplfiahpnaa
open Go.RowKit Go.Lib

end Go.Proofs.Ytiecoplfiahpnaa

namespace Go.Proofs.Ytiecoplfiahpnaa
open Go.RowKit Go.Lib

/-- A list of objects as a source: nothing, or from a place on. -/
def SV (w : World) (v : Value) (M : List OB) : Prop := (v = .slice none 0 0 ∧ M = []) ∨ ∃ g o c, v = .slice (some ⟨g, o, none⟩) M.length c ∧ g < w.heap.size ∧ Src w g o M
section
variable {B : Nat} {v vs : Value} {L M : List OB} {w w' : World}
theorem SV.below (h : SV w v M) {B : Nat} (hb : Below B w w') (hB : w.heap.size ≤ B) : SV w' v M := by
  rcases h with h | ⟨g, o, c, e, hg, hS⟩
  · exact .inl h
  · exact .inr ⟨g, o, c, e, Nat.lt_of_lt_of_le hg hb.size, hS.below hb (Nat.lt_of_lt_of_le hg hB)⟩
theorem SV.ol (h : SV w v M) : OL w v M := by
  rcases h with ⟨rfl, rfl⟩ | ⟨g, o, c, rfl, hg, hS⟩
  · exact ⟨_, _, rfl, .inl rfl⟩
  · exact ⟨_, _, rfl, .inr ⟨g, o, rfl, hg, hS⟩⟩
end

end Go.Proofs.Ytiecoplfiahpnaa

namespace Go.Proofs.Ytiecoplfiahpnaa
open Go.RowKit Go.Lib Go.Maps Go.MapKept Go.ChangeMaps
open Go.WideElems (Fit)

/-- How an object of the map reads. -/
def obE (v : Value) : Option (DataW Unit × List MemPlace) :=
  match v with
  | .agg cs => match cs.toList with
    | [.string s] => if s.size ≤ maxLen then some (.agg [.lit (.string s.data.toList)], []) else none
    | _ => none
  | _ => none
def obD (d : ByteArray) : DataW Unit := .agg [.lit (.string d.data.toList)]
theorem obE_mk {s : ByteArray} (h : s.size ≤ maxLen) : obE (.agg #[.string s]) = some (obD s, []) := by
  show (if s.size ≤ maxLen then _ else _) = _
  rw [if_pos h]; rfl
theorem obE_inv {v : Value} {z : DataW Unit × List MemPlace} (h : obE v = some z) : ∃ s : ByteArray, v = .agg #[.string s] ∧ z = (obD s, []) ∧ s.size ≤ maxLen := by
  unfold obE at h
  split at h
  · rename_i cs
    split at h
    · rename_i s e
      split at h
      · rename_i hs
        cases h
        exact ⟨s, by rw [show cs = #[.string s] from Array.toList_inj.1 e], rfl, hs⟩
      · cases h
    · cases h
  · cases h
theorem obD_inj {a b : ByteArray} (h : obD a = obD b) : a = b := by
  simp only [obD, DataW.agg.injEq, List.cons.injEq, DataW.lit.injEq, Lit.string.injEq, and_true] at h
  exact ByteArray.ext (Array.toList_inj.1 h)
theorem name_inj {x : List UInt8} {s : ByteArray} (h : Lit.string x = .string s.data.toList) : x = s.data.toList := by cases h; rfl

theorem tight {H : Type} {P : Program} {k : TypeId} {R : Value → Option (DataW H × List MemPlace)} {w : World} {b n : Nat} {D : DataW H} (h : w.ownsMap P k R b n D) : w.ownsMap P k R b (Maps.size D) D := by
  obtain ⟨es, clock, hb, F, hs, rfl⟩ := h
  refine ⟨es, clock, hb, F, ?_, rfl⟩
  show es.size ≤ List.length _
  rw [length_sorted]
  simp

/-- A map of objects at a block. -/
def MO (w : World) (b : Nat) (L : List OB) : Prop := w.ownsMap Try.prog 9 obE b L.length (datL obD L)
theorem Try.zeroObj (w : World) : (zeroValue 124).run Try.prog w = .ok (.agg #[.string ⟨#[]⟩]) w := by
  have h : Try.t124.zero = some (.agg #[.string ⟨#[]⟩]) := by kernel_rfl
  simp [zeroValue, h, Result.andThen, go_sem]
section
variable {w w' : World} {b : Nat} {L : List OB}
theorem MO.lt (h : MO w b L) : b < w.heap.size := World.ownsMap.lt h
theorem MO.kept (h : MO w b L) {row : Option Nat} (hg : w.grownBy w' row) (hn : some b ≠ row) : MO w' b L := World.ownsMap.kept h hg hn
theorem MO.below (h : MO w b L) {B : Nat} (hb : Below B w w') (hB : b < B) : MO w' b L := by
  obtain ⟨es, clock, hm, r⟩ := h
  exact ⟨es, clock, (hb.block b hB).trans hm, r⟩
theorem MO.gs (h : MO w b L) {p : Nat → Prop} (hg : Gs p w w') (hn : ¬ p b) : MO w' b L := by
  have hl := h.lt
  obtain ⟨es, clock, hm, r⟩ := h
  exact ⟨es, clock, (hg.block b hl hn).trans hm, r⟩
theorem MO.notCells (h : MO w b L) {c : Array Value} {T : TypeId} {fr : Nat × Nat} (hc : w.heap[b]? = some (.cells c T fr)) : False := by
  obtain ⟨es, clock, hm, r⟩ := h
  rw [hm] at hc; cases hc
theorem MO.made (w : World) : MO (w.alloc (.map #[] 0)) w.heap.size [] := World.ownsMap_made w Try.prog 9 obE
theorem MO.set (h : MO w b L) {a : Addr} (ha : b ≠ a.block) (u : Value) : MO (w.setCell a u) b L := World.ownsMap.setCell h ha u
/-- What is looked up. -/
theorem MO.look (h : MO w b L) {n : ByteArray} (hn : n.size ≤ maxLen) : (Instr.lookup 75 (.map (some b)) (.string n) true).run Try.prog w = .ok (.tuple #[.agg #[.string ((thr L n).getD ⟨#[]⟩)], .bool (thr L n).isSome]) w := by
  obtain ⟨v, ps, hrun, hv⟩ := World.ownsMap.look_ok h (string_keyed Try.underlying9) Try.underlying75 (Try.zeroObj w) (zd := obD ⟨#[]⟩) (zp := []) (obE_mk (Nat.zero_le _)) (WideMaps.keyOf_string_mk Try.underlying9 hn)
  rw [dat_has] at hrun
  rw [dat_at] at hv
  obtain ⟨s, rfl, hz, _⟩ := obE_inv hv
  have e : s = (thr L n).getD ⟨#[]⟩ := by
    have := congrArg Prod.fst hz
    cases ht : thr L n with
    | none => rw [ht] at this; exact (obD_inj this).symm
    | some d => rw [ht] at this; exact (obD_inj this).symm
  rw [← e]
  exact hrun
/-- One is put. -/
theorem MO.put (h : MO w b L) (hL : Ris L) {n d : ByteArray} (hn : n.size ≤ maxLen) (hd : d.size ≤ maxLen) (hl : L.length ≤ 1000000) :
    ∃ w', (Instr.mapUpdate 75 (.map (some b)) (.string n) (.agg #[.string d])).run Try.prog w = .ok () w' ∧ MO w' b (layL L n d) ∧ w.grownBy w' (some b) ∧ w'.heap.size = w.heap.size := by
  obtain ⟨w', hrun, ho, hg⟩ := World.ownsMap.store h (string_keyed Try.underlying9) Try.underlying75 (by unfold maxLen; omega) (WideMaps.keyOf_string_mk Try.underlying9 hn) (obE_mk hd)
  rw [dat_put obD hL] at ho
  have := tight ho
  rw [dat_size] at this
  refine ⟨w', hrun, this, hg.grown, ?_⟩
  obtain ⟨es, clock, es', clock', hb, rfl⟩ := hg
  simp [setBlock]
/-- One goes. -/
theorem MO.del (h : MO w b L) (hL : Ris L) {n : ByteArray} (hn : n.size ≤ maxLen) (ty : TypeId) :
    ∃ w', (Builtin.delete_ #[75, 9] ty #[.map (some b), .string n]).run Try.prog w = .ok (.tuple #[]) w' ∧ MO w' b (delL L n) ∧ w.grownBy w' (some b) ∧ w'.heap.size = w.heap.size := by
  obtain ⟨w', hrun, ho, hg⟩ := World.ownsMap.drop h (string_keyed Try.underlying9) Try.underlying75 (WideMaps.keyOf_string_mk Try.underlying9 hn) ty
  rw [dat_del obD hL] at ho
  have := tight ho
  rw [dat_size] at this
  refine ⟨w', hrun, this, hg.grown, ?_⟩
  obtain ⟨es, clock, es', clock', hb, rfl⟩ := hg
  simp [setBlock]
/-- All go. -/
theorem MO.clear (h : MO w b L) (ty : TypeId) :
    ∃ w', (Builtin.clear_ #[75] ty #[.map (some b)]).run Try.prog w = .ok (.tuple #[]) w' ∧ MO w' b [] ∧ w.grownBy w' (some b) ∧ w'.heap.size = w.heap.size := by
  obtain ⟨es, clock, hb, F, hs, hD⟩ := h
  refine ⟨setBlock w b (.map #[] clock), ?_, ⟨#[], clock, heap_setBlock_same hb _, ⟨by simp, ?_, by simp⟩, Nat.le_refl _, rfl⟩, ⟨rfl, rfl, rfl, by simp [setBlock], fun i _ hi => heap_setBlock_other hb _ (fun e => hi (by rw [e]))⟩, by simp [setBlock]⟩
  · simp [Builtin.clear_, run_underlying Try.underlying75, MapKept.run_getObj_map hb, MapKept.run_setObj_map _ hb, Result.andThen, setBlock]
  · exact stamped_empty clock
end

/-- A store of the program. -/
structure PS (w : World) (b mb : Nat) (q f : Int) (dn : Bool) (cl : Int) (L : List OB) : Prop where
  blk : w.heap[b]? = some (.cells #[.map (some mb), .int .i64 ((usedL L : Nat) : Int), .int .i64 q, .int .i64 f, .bool dn, .int .i64 cl] 82 (0, 0))
  map : MO w mb L
  ris : Ris L
  small : ∀ p ∈ L, p.n.size ≤ 96 ∧ p.d.size ≤ 131072
section
variable {w w' : World} {b mb : Nat} {q f : Int} {dn : Bool} {cl : Int} {L : List OB}
theorem PS.lt (h : PS w b mb q f dn cl L) : b < w.heap.size := lt_of_block h.blk
theorem PS.mlt (h : PS w b mb q f dn cl L) : mb < w.heap.size := h.map.lt
theorem PS.ne (h : PS w b mb q f dn cl L) : mb ≠ b := fun e => by
  have := h.map
  rw [e] at this
  exact this.notCells h.blk
theorem PS.cell0 (h : PS w b mb q f dn cl L) : w.cell? ⟨b, 0, none⟩ = some (.map (some mb)) := by simp [World.cell?, h.blk]
theorem PS.cell1 (h : PS w b mb q f dn cl L) : w.cell? ⟨b, 1, none⟩ = some (.int .i64 ((usedL L : Nat) : Int)) := by simp [World.cell?, h.blk]
theorem PS.cell2 (h : PS w b mb q f dn cl L) : w.cell? ⟨b, 2, none⟩ = some (.int .i64 q) := by simp [World.cell?, h.blk]
theorem PS.cell3 (h : PS w b mb q f dn cl L) : w.cell? ⟨b, 3, none⟩ = some (.int .i64 f) := by simp [World.cell?, h.blk]
theorem PS.cell4 (h : PS w b mb q f dn cl L) : w.cell? ⟨b, 4, none⟩ = some (.bool dn) := by simp [World.cell?, h.blk]
theorem PS.cell5 (h : PS w b mb q f dn cl L) : w.cell? ⟨b, 5, none⟩ = some (.int .i64 cl) := by simp [World.cell?, h.blk]
theorem PS.free (h : PS w b mb q f dn cl L) (j : Nat) : w.frozen? ⟨b, j, none⟩ = false := by simp [World.frozen?, h.blk]
theorem PS.below (h : PS w b mb q f dn cl L) {B : Nat} (hb : Below B w w') (hB : w.heap.size ≤ B) : PS w' b mb q f dn cl L :=
  ⟨(hb.block b (Nat.lt_of_lt_of_le h.lt hB)).trans h.blk, h.map.below hb (Nat.lt_of_lt_of_le h.mlt hB), h.ris, h.small⟩
theorem PS.drew (h : PS w b mb q f dn cl L) : PS w.drew b mb q f dn cl L := ⟨h.blk, h.map, h.ris, h.small⟩
theorem PS.bel (h : PS w b mb q f dn cl L) (hb : Below w.heap.size w w') : PS w' b mb q f dn cl L := h.below hb (Nat.le_refl _)
theorem PS.gs (h : PS w b mb q f dn cl L) {p : Nat → Prop} (hg : Gs p w w') (h1 : ¬ p b) (h2 : ¬ p mb) : PS w' b mb q f dn cl L :=
  ⟨(hg.block b h.lt h1).trans h.blk, h.map.gs hg h2, h.ris, h.small⟩
theorem PS.set2 (h : PS w b mb q f dn cl L) (x : Int) : PS (w.setCell ⟨b, 2, none⟩ (.int .i64 x)) b mb x f dn cl L := ⟨heap_set_self h.blk, h.map.set h.ne _, h.ris, h.small⟩
theorem PS.set3 (h : PS w b mb q f dn cl L) (x : Int) : PS (w.setCell ⟨b, 3, none⟩ (.int .i64 x)) b mb q x dn cl L := ⟨heap_set_self h.blk, h.map.set h.ne _, h.ris, h.small⟩
theorem PS.set4 (h : PS w b mb q f dn cl L) (x : Bool) : PS (w.setCell ⟨b, 4, none⟩ (.bool x)) b mb q f x cl L := ⟨heap_set_self h.blk, h.map.set h.ne _, h.ris, h.small⟩
theorem PS.set5 (h : PS w b mb q f dn cl L) (x : Int) : PS (w.setCell ⟨b, 5, none⟩ (.int .i64 x)) b mb q f dn x L := ⟨heap_set_self h.blk, h.map.set h.ne _, h.ris, h.small⟩
end
/-- The two blocks of a store. -/
def two (b mb : Nat) (i : Nat) : Prop := i = b ∨ i = mb
theorem Gs.set {p : Nat → Prop} {w w1 : World} (h : Gs p w w1) {a : Addr} (ha : p a.block ∨ w.heap.size ≤ a.block) (u : Value) : Gs p w (w1.setCell a u) :=
  ⟨h.os, h.tape, h.output, by simp [World.setCell]; exact h.size, fun i hi hp => (Below.heap_setCell _ _ _ _ (by
    intro e
    rcases ha with ha | ha
    · rw [← e] at ha; exact hp ha
    · omega)).trans (h.block i hi hp)⟩
theorem Gs.ofd (p : Nat → Prop) {w w1 : World} (h : Below w.drew.heap.size w.drew w1) : Gs p w w1 := ⟨h.os, h.tape, h.output, h.size, fun i hi _ => h.block i hi⟩
theorem used_bound {L : List OB} (h : ∀ p ∈ L, p.n.size ≤ 96 ∧ p.d.size ≤ 131072) : usedL L ≤ L.length * 131168 := by
  induction L with
  | nil => exact Nat.le_refl _
  | cons p r ih =>
    have h1 := h p List.mem_cons_self
    have h2 := ih (fun q hq => h q (List.mem_cons_of_mem _ hq))
    rw [usedL, List.length_cons]
    omega
theorem small_lay {L : List OB} (h : ∀ p ∈ L, p.n.size ≤ 96 ∧ p.d.size ≤ 131072) {n d : ByteArray} (hn : n.size ≤ 96) (hd : d.size ≤ 131072) : ∀ p ∈ layL L n d, p.n.size ≤ 96 ∧ p.d.size ≤ 131072 := fun p hp => by
  rcases mem_lay hp with rfl | hp
  · exact ⟨hn, hd⟩
  · exact h p hp
theorem small_del {L : List OB} (h : ∀ p ∈ L, p.n.size ≤ 96 ∧ p.d.size ≤ 131072) (n : ByteArray) : ∀ p ∈ delL L n, p.n.size ≤ 96 ∧ p.d.size ≤ 131072 := fun p hp => h p (mem_del hp)
theorem len_lay (L : List OB) (n d : ByteArray) : (layL L n d).length ≤ L.length + 1 := by
  induction L with
  | nil => simp [layL]
  | cons p r ih =>
    rw [layL]
    split
    · simp; exact ih
    · split <;> simp
theorem len_del (L : List OB) (n : ByteArray) : (delL L n).length ≤ L.length := by
  induction L with
  | nil => simp [delL]
  | cons p r ih =>
    rw [delL]
    split
    · simp
    · simp; exact ih
theorem thr_small {L : List OB} (h : ∀ p ∈ L, p.n.size ≤ 96 ∧ p.d.size ≤ 131072) {n d : ByteArray} (ht : thr L n = some d) : n.size ≤ 96 ∧ d.size ≤ 131072 := by
  induction L with
  | nil => cases ht
  | cons p r ih =>
    rw [thr] at ht
    split at ht
    · rename_i e
      cases ht
      have := h p List.mem_cons_self
      rw [e] at this
      exact this
    · exact ih (fun q hq => h q (List.mem_cons_of_mem _ hq)) ht
theorem sz_small {L : List OB} (h : ∀ p ∈ L, p.n.size ≤ 96 ∧ p.d.size ≤ 131072) (n : ByteArray) : szO n (thr L n) ≤ 131168 := by
  cases ht : thr L n with
  | none => exact Nat.zero_le _
  | some d =>
    have := thr_small h ht
    show n.size + d.size ≤ _
    omega
end Go.Proofs.Ytiecoplfiahpnaa

namespace Go.Proofs.Ytiecoplfiahpnaa
open Go.RowKit Go.Lib Go.Maps

/-- What is wrong with a name and data. -/
def fcode (n d : ByteArray) : Int := if mayB n = true then (if d.size ≤ 131072 then 0 else 2) else 3

set_option maxRecDepth 100000 in
set_option maxHeartbeats 800000 in
theorem size_any (n d : ByteArray) (x : Nat) (hx : Hid (x = n.size + d.size)) (h : n.size + d.size ≤ 9223372036854775807) (w : World) : Calls Try.prog 73 #[.string n, .string d] w fun e w' => e = .returned (.int .i64 (x : Int)) ∧ w' = w := by
  have hs : IntKind.i64.wrap ((n.size : Int) + (d.size : Int)) = (x : Int) := by rw [hx.out]; simp [IntKind.wrap_i64]; omega
  have h1 : n.size ≤ 9223372036854775807 := by omega
  have h2 : d.size ≤ 9223372036854775807 := by omega
  clear hx
  go_enter Try.func73, Try.ntmps73
  go_wp2
  go_ret
  exact ⟨rfl, rfl⟩

set_option maxRecDepth 100000 in
set_option maxHeartbeats 800000 in
theorem mayBe_any (n : ByteArray) (w : World) (hs : n.size ≤ 9223372036854775807) : Calls Try.prog 80 #[.string n] w fun e w' => e = .returned (.bool (mayB n)) ∧ w' = w := by
  by_cases h0 : n.size = 0
  · have e0 : n = ⟨#[]⟩ := ByteArray.ext (Array.eq_empty_of_size_eq_zero h0)
    subst e0
    go_enter Try.func80, Try.ntmps80
    go_wp2
    go_ret
    exact ⟨rfl, rfl⟩
  have hz0 : ¬ (n.size : Int) = 0 := by omega
  by_cases h1 : (96 : Int) < (n.size : Int)
  · have hm : mayB n = false := by rw [mayB, decide_eq_false (show ¬ n.size ≤ 96 by omega)]; simp
    rw [hm]
    go_enter Try.func80, Try.ntmps80
    go_wp2
    go_ret
    exact ⟨rfl, rfl⟩
  have hmb : mayB n = n.data.toList.all okB := by rw [mayB, decide_eq_true (show 1 ≤ n.size by omega), decide_eq_true (show n.size ≤ 96 by omega)]; simp
  obtain ⟨V, hV⟩ : ∃ V, V = mayB n := ⟨_, rfl⟩
  rw [← hV]
  have HV := hide (hV.trans hmb)
  clear hmb hV
  go_enter Try.func80, Try.ntmps80
  go_wp2
  go_loop [14] (fun i => ∃ j : Nat, j ≤ n.size ∧ i = .int .i64 j ∧ (n.data.toList.take j).all okB = true) (fun i => n.size - (intOf i).toNat)
  case atStart => exact ⟨0, Nat.zero_le _, rfl, rfl⟩
  case round =>
    obtain ⟨j, hj, rfl, hA⟩ := hrel
    by_cases hlt : j < n.size
    · have hlt' : (j : Int) < (n.size : Int) := by omega
      have HA := hide hA
      have HT := hide (take_snoc n j hlt)
      have HM : Hid (n[j] ∈ n.data.toList) := List.getElem_mem (l := n.data.toList) (n := j) (by simpa using hlt)
      clear hA
      by_cases h2 : n[j].toNat ≤ 32
      · have hf : Hid (n.data.toList.all okB = false) := by
          show n.data.toList.all okB = false
          rw [List.all_eq_false]
          exact ⟨n[j], HM.out, by rw [okB, decide_eq_false (by omega)]; simp⟩
        have hz : (n[j].toNat : Int) ≤ 32 := by omega
        go_wp2
        go_ret
        exact ⟨by rw [HV.out.trans hf.out]; rfl, rfl⟩
      by_cases h3 : 127 ≤ n[j].toNat
      · have hf : Hid (n.data.toList.all okB = false) := by
          show n.data.toList.all okB = false
          rw [List.all_eq_false]
          exact ⟨n[j], HM.out, by rw [okB, decide_eq_false (show ¬ n[j].toNat < 127 by omega)]; simp⟩
        have hz : ¬ (n[j].toNat : Int) ≤ 32 := by omega
        have hz2 : (127 : Int) ≤ (n[j].toNat : Int) := by omega
        go_wp2
        go_ret
        exact ⟨by rw [HV.out.trans hf.out]; rfl, rfl⟩
      have hz : ¬ (n[j].toNat : Int) ≤ 32 := by omega
      have hz2 : ¬ (127 : Int) ≤ (n[j].toNat : Int) := by omega
      have HN : Hid ((n.data.toList.take (j + 1)).all okB = true) := by
        show (n.data.toList.take (j + 1)).all okB = true
        rw [HT.out, List.all_append, HA.out, List.all_cons, okB, decide_eq_true (by omega), decide_eq_true (by omega)]
        rfl
      clear HT HA HM
      go_wp2
      go_round
      case rel => exact ⟨j + 1, by omega, by go_num, HN.out⟩
      case measure => simp [intOf]; omega
    · obtain rfl : j = n.size := by omega
      have hf : Hid (n.data.toList.all okB = true) := by
        show n.data.toList.all okB = true
        rw [← hA, List.take_of_length_le (by simp)]
      go_wp2
      go_ret
      exact ⟨by rw [HV.out.trans hf.out]; rfl, rfl⟩

set_option maxRecDepth 100000 in
set_option maxHeartbeats 800000 in
theorem fault_any (n d : ByteArray) (w : World) (hn : n.size ≤ 9223372036854775807) (hd : d.size ≤ 9223372036854775807) : Calls Try.prog 71 #[.string n, .string d] w fun e w' => e = .returned (.int .i64 (fcode n d)) ∧ w' = w := by
  have HM : Hid _ := hide (mayBe_any n w hn)
  obtain ⟨C, hC⟩ : ∃ C, C = fcode n d := ⟨_, rfl⟩
  rw [← hC]
  have HC := hide hC
  clear hC
  go_enter Try.func71, Try.ntmps71
  go_wp2_with fail
  refine HM.out.mono ?_
  rintro e w' ⟨rfl, rfl⟩
  clear HM
  cases hm : mayB n with
  | false =>
    have hc : C = 3 := by rw [HC.out, fcode, hm]; rfl
    subst hc
    go_wp2
    go_ret
    exact ⟨rfl, rfl⟩
  | true =>
    by_cases h : d.size ≤ 131072
    · have hc : C = 0 := by rw [HC.out, fcode, hm, if_pos rfl, if_pos h]
      subst hc
      have h' : ¬ (131072 : Int) < (d.size : Int) := by omega
      go_wp2
      go_ret
      exact ⟨rfl, rfl⟩
    · have hc : C = 2 := by rw [HC.out, fcode, hm, if_pos rfl, if_neg h]
      subst hc
      have h' : (131072 : Int) < (d.size : Int) := by omega
      go_wp2
      go_ret
      exact ⟨rfl, rfl⟩

set_option maxRecDepth 100000 in
set_option maxHeartbeats 800000 in
theorem new_ok (q : Int) (w : World) (h0 : 0 ≤ q) (h1 : q ≤ 1073741824) :
    Calls Try.prog 17 #[.int .i64 q] w fun e w' => e = .returned (.tuple #[.pointer (some ⟨w.heap.size + 1, 0, none⟩), .int .i64 0]) ∧ PS w' (w.heap.size + 1) w.heap.size q 0 false 0 [] ∧ Below w.heap.size w w' := by
  have h2 : ¬ q < 0 := by omega
  have h3 : ¬ 1073741824 < q := by omega
  have hmk : (Instr.makeMap 75 none).run Try.prog w = .ok (.map (some w.heap.size)) (w.alloc (.map #[] 0)) := rfl
  go_enter Try.func17, Try.ntmps17
  go_wp2
  go_ret2
  have hb1 : Below w.heap.size w (w.alloc (.map #[] 0)) := (Below.refl _ _).alloc (Nat.le_refl _) _
  refine ⟨by simp, ?_, hb1.alloc (by simp) _⟩
  refine ⟨?_, ?_, List.Pairwise.nil, fun p hp => by cases hp⟩
  · have := heap_alloc_new (w.alloc (.map #[] 0)) (.cells #[.map (some w.heap.size), .int .i64 ((usedL [] : Nat) : Int), .int .i64 q, .int .i64 0, .bool false, .int .i64 0] 82 (0, 0))
    rw [show (w.alloc (.map #[] 0)).heap.size = w.heap.size + 1 by simp] at this
    exact this
  · exact (MO.made w).below ((Below.refl _ _).alloc (Nat.le_refl _) _) (by simp)

set_option maxRecDepth 100000 in
set_option maxHeartbeats 800000 in
theorem new_bad (q : Int) (w : World) (h : q < 0 ∨ 1073741824 < q) :
    Calls Try.prog 17 #[.int .i64 q] w fun e w' => e = .returned (.tuple #[.pointer none, .int .i64 1]) ∧ w' = w := by
  by_cases h2 : q < 0
  · go_enter Try.func17, Try.ntmps17
    go_wp2
    go_ret2
    exact ⟨rfl, rfl⟩
  · have h3 : 1073741824 < q := by omega
    go_enter Try.func17, Try.ntmps17
    go_wp2
    go_ret2
    exact ⟨rfl, rfl⟩
end Go.Proofs.Ytiecoplfiahpnaa

namespace Go.Proofs.Ytiecoplfiahpnaa
open Go.RowKit Go.Lib Go.Maps

section
variable {w : World} {b mb : Nat} {q f : Int} {dn : Bool} {cl : Int} {L : List OB}

set_option maxRecDepth 100000 in
set_option maxHeartbeats 800000 in
theorem usedBy_any (hP : PS w b mb q f dn cl L) (n : ByteArray) (hn : n.size ≤ maxLen) :
    Calls Try.prog 72 #[.pointer (some ⟨b, 0, none⟩), .string n] w fun e w' => e = .returned (.int .i64 ((szO n (thr L n) : Nat) : Int)) ∧ Below w.heap.size w w' := by
  have y0 := hP.cell0
  have hk := hP.map.look hn
  have HS := hide hP.small
  have HN := hide hn
  clear hP hn
  cases ht : thr L n with
  | none =>
    rw [ht] at hk
    dsimp only [Option.isSome, Option.getD] at hk
    go_enter Try.func72, Try.ntmps72
    go_wp2
    go_ret
    exact ⟨rfl, (Below.refl _ _).alloc (Nat.le_refl _) _⟩
  | some d =>
    rw [ht] at hk
    dsimp only [Option.isSome, Option.getD] at hk
    have hs := thr_small HS.out ht
    obtain ⟨x, hx⟩ : ∃ x, x = szO n (some d) := ⟨_, rfl⟩
    rw [← hx]
    have HC : Hid _ := hide (size_any n d x hx (by omega))
    clear hx ht
    go_enter Try.func72, Try.ntmps72
    go_wp2_with (go_at_call 73; refine (HC.out _).mono ?_; rintro e w' ⟨rfl, rfl⟩)
    go_wp2
    go_ret
    exact ⟨rfl, (Below.refl _ _).alloc (Nat.le_refl _) _⟩

set_option maxRecDepth 100000 in
set_option maxHeartbeats 1600000 in
theorem lay_any (hP : PS w b mb q f dn cl L) (n d : ByteArray) (hn : n.size ≤ 96) (hd : d.size ≤ 131072) (hl : L.length ≤ 1000000) :
    Calls Try.prog 74 #[.pointer (some ⟨b, 0, none⟩), .string n, .string d] w fun e w' => e = .returned (.tuple #[]) ∧ PS w' b mb q f dn cl (layL L n d) ∧ Gs (two b mb) w w' := by
  obtain ⟨x, hx⟩ : ∃ x, x = n.size + d.size := ⟨_, rfl⟩
  have HZ : Hid _ := hide (size_any n d x hx (by omega))
  obtain ⟨y, hy⟩ : ∃ y, y = szO n (thr L n) := ⟨_, rfl⟩
  have HU : Hid (∀ w1, PS w1 b mb q f dn cl L → Calls Try.prog 72 #[.pointer (some ⟨b, 0, none⟩), .string n] w1 fun e w' => e = .returned (.int .i64 (y : Int)) ∧ Below w1.heap.size w1 w') := fun w1 h1 => by
    rw [hy]; exact usedBy_any h1 n (by unfold maxLen; omega)
  have HP := hide hP
  have y1 := hP.cell1
  have z1 := hP.free 1
  obtain ⟨u, hu⟩ : ∃ u, u = usedL L := ⟨_, rfl⟩
  have hub := used_bound hP.small
  obtain ⟨v, hv⟩ : ∃ v, v = usedL (layL L n d) := ⟨_, rfl⟩
  have huv : v + y = u + x := by rw [hv, hy, hu, hx]; have := used_lay hP.ris n d; omega
  have hyb : y ≤ 131168 := by rw [hy]; exact sz_small hP.small n
  have hxb : x ≤ 131168 := by omega
  have hub' : u ≤ 131168000000 := by rw [hu]; omega
  have f1 : IntKind.i64.wrap ((x : Int) - (y : Int)) = (x : Int) - (y : Int) := by simp [IntKind.wrap_i64]; omega
  have f2 : IntKind.i64.wrap ((u : Int) + ((x : Int) - (y : Int))) = (v : Int) := by simp [IntKind.wrap_i64]; omega
  rw [← hu] at y1
  have HCU : Hid (∀ w1, PS w1 b mb q f dn cl L → w1.cell? ⟨b, 1, none⟩ = some (.int .i64 (u : Int))) := fun w1 h1 => by rw [hu]; exact h1.cell1
  have HEND : Hid (∀ w1, PS w1 b mb q f dn cl L → ∃ w2, (Instr.mapUpdate 75 (.map (some mb)) (.string n) (.agg #[.string d])).run Try.prog (w1.setCell ⟨b, 1, none⟩ (.int .i64 (v : Int))) = .ok () w2 ∧ (w1.setCell ⟨b, 1, none⟩ (.int .i64 (v : Int))).cell? ⟨b, 0, none⟩ = some (.map (some mb)) ∧ PS w2 b mb q f dn cl (layL L n d) ∧ Gs (two b mb) w1 w2) := fun w1 h1 => by
    have hm : MO (w1.setCell ⟨b, 1, none⟩ (.int .i64 (v : Int))) mb L := h1.map.set h1.ne _
    have hblk := heap_set_self (j := 1) (u := .int .i64 (v : Int)) h1.blk
    obtain ⟨w2, r, hm2, hg, hsz⟩ := hm.put h1.ris (n := n) (d := d) (by unfold maxLen; omega) (by unfold maxLen; omega) hl
    refine ⟨w2, r, by simp [World.cell?, hblk], ⟨?_, hm2, ris_lay h1.ris n d, small_lay h1.small hn hd⟩, ?_⟩
    · rw [hg.block b (by simp [World.setCell]; exact h1.lt) (fun e => h1.ne (Option.some.inj e).symm), hblk, ← hv]
      rfl
    · exact ((Gs.refl _ _).set (.inl (.inl rfl)) _).gb hg (.inl (.inr rfl))
  clear hP hub hu hv hy hx
  go_enter Try.func74, Try.ntmps74
  go_upto_region 0 with fail
  go_region_with (first | (go_at_call 73; refine (HZ.out _).mono ?_; rintro e w' ⟨rfl, rfl⟩) | (go_at_call 72; refine (HU.out _ HP.out.drew).mono ?_; rintro e w1 ⟨rfl, hb1⟩; have HB1 := hide hb1; have HP1 := hide (HP.out.drew.bel hb1); have y2 := HCU.out w1 HP1.out; have z2 := HP1.out.free 1; clear hb1))
  all_goals (
    obtain ⟨w2, r, c0, hP2, hG2⟩ := HEND.out _ HP1.out
    have HF := hide (And.intro hP2 ((Gs.ofd _ HB1.out).trans hG2))
    clear y2 z2 y1 z1 hP2 hG2
    go_wp2
    go_end0
    exact ⟨rfl, HF.out⟩)
end
end Go.Proofs.Ytiecoplfiahpnaa

namespace Go.Proofs.Ytiecoplfiahpnaa
open Go.RowKit Go.Lib Go.Maps

/-- What a put answers. -/
def pcode (n d : ByteArray) (L : List OB) (q : Int) : Int := if mayB n = true then (if d.size ≤ 131072 then (if ((usedL (layL L n d) : Nat) : Int) ≤ q then 0 else 71) else 2) else 3
/-- What is there behind a put. -/
def putL (n d : ByteArray) (L : List OB) (q : Int) : List OB := if pcode n d L q = 0 then layL L n d else L
theorem mayB_size {n : ByteArray} (h : mayB n = true) : n.size ≤ 96 := by
  unfold mayB at h
  simp at h
  omega
section
variable {w : World} {b mb : Nat} {q f : Int} {dn : Bool} {cl : Int} {L : List OB}

set_option maxRecDepth 100000 in
set_option maxHeartbeats 1600000 in
theorem put_any (hP : PS w b mb q f dn cl L) (n d : ByteArray) (hn : n.size ≤ maxLen) (hd : d.size ≤ maxLen) (hl : L.length ≤ 1000000) :
    Calls Try.prog 60 #[.pointer (some ⟨b, 0, none⟩), .string n, .string d] w fun e w' => e = .returned (.int .i64 (pcode n d L q)) ∧ PS w' b mb q f dn cl (putL n d L q) ∧ Gs (two b mb) w w' := by
  unfold maxLen at hn hd
  have HFA : Hid _ := hide (fault_any n d w hn hd)
  have HP := hide hP
  clear hP
  obtain ⟨C, hC⟩ : ∃ C, C = pcode n d L q := ⟨_, rfl⟩
  obtain ⟨M, hM⟩ : ∃ M, M = putL n d L q := ⟨_, rfl⟩
  rw [← hC, ← hM]
  have HC := hide hC
  have HM := hide hM
  clear hC hM
  by_cases h1 : mayB n = true
  · by_cases h2 : d.size ≤ 131072
    · have hn' := mayB_size h1
      have hf : fcode n d = 0 := by rw [fcode, if_pos h1, if_pos h2]
      rw [hf] at HFA
      obtain ⟨x, hx⟩ : ∃ x, x = n.size + d.size := ⟨_, rfl⟩
      obtain ⟨y, hy⟩ : ∃ y, y = szO n (thr L n) := ⟨_, rfl⟩
      obtain ⟨u, hu⟩ : ∃ u, u = usedL L := ⟨_, rfl⟩
      obtain ⟨v, hv⟩ : ∃ v, v = usedL (layL L n d) := ⟨_, rfl⟩
      have huv : v + y = u + x := by rw [hv, hy, hu, hx]; have := used_lay HP.out.ris n d; omega
      have hyu : y ≤ u := by rw [hy, hu]; have := used_del L n; omega
      have hyb : y ≤ 131168 := by rw [hy]; exact sz_small HP.out.small n
      have hxb : x ≤ 131168 := by omega
      have hub' : u ≤ 131168000000 := by rw [hu]; have := used_bound HP.out.small; omega
      have f1 : IntKind.i64.wrap ((u : Int) - (y : Int)) = (u : Int) - (y : Int) := by simp [IntKind.wrap_i64]; omega
      have f2 : IntKind.i64.wrap ((u : Int) - (y : Int) + (x : Int)) = (v : Int) := by simp [IntKind.wrap_i64]; omega
      have HZ : Hid _ := hide (size_any n d x hx (by omega))
      have HCL : Hid (∀ w1, PS w1 b mb q f dn cl L → w1.cell? ⟨b, 1, none⟩ = some (.int .i64 (u : Int)) ∧ w1.cell? ⟨b, 2, none⟩ = some (.int .i64 q)) := fun w1 h => by rw [hu]; exact ⟨h.cell1, h.cell2⟩
      have HU : Hid (∀ w1, Hid (PS w1 b mb q f dn cl L ∧ Below w.heap.size w w1) → Calls Try.prog 72 #[.pointer (some ⟨b, 0, none⟩), .string n] w1 fun e w' => e = .returned (.int .i64 (y : Int)) ∧ Hid (PS w' b mb q f dn cl L ∧ Below w.heap.size w w') ∧ w'.cell? ⟨b, 1, none⟩ = some (.int .i64 (u : Int)) ∧ w'.cell? ⟨b, 2, none⟩ = some (.int .i64 q)) := fun w1 h => by
        rw [hy]
        refine (usedBy_any h.out.1 n (by unfold maxLen; omega)).mono ?_
        rintro e w' ⟨rfl, hb⟩
        have hP' := h.out.1.bel hb
        exact ⟨rfl, ⟨hP', h.out.2.trans (hb.mono h.out.2.size)⟩, HCL.out _ hP'⟩
      have K1 : Hid (PS w.drew b mb q f dn cl L ∧ Below w.heap.size w w.drew) := ⟨HP.out.drew, (Below.refl _ _).drew⟩
      obtain ⟨y1, y2⟩ := HCL.out _ K1.out.1
      have HLY : Hid (∀ w1, PS w1 b mb q f dn cl L → Calls Try.prog 74 #[.pointer (some ⟨b, 0, none⟩), .string n, .string d] w1 fun e w' => e = .returned (.tuple #[]) ∧ PS w' b mb q f dn cl (layL L n d) ∧ Gs (two b mb) w1 w') := fun w1 h => lay_any h n d hn' h2 hl
      have HV := hide hv
      have HMB := hide h1
      clear hu hy hx hv hf h1
      go_enter Try.func60, Try.ntmps60
      go_wp2_with fail
      refine HFA.out.mono ?_
      rintro e w0 ⟨rfl, rfl⟩
      clear HFA
      go_upto_region 4 with fail
      go_region_held3 (fun w' => Hid (PS w' b mb q f dn cl L ∧ Below w0.heap.size w0 w') ∧ w'.cell? ⟨b, 1, none⟩ = some (.int .i64 (u : Int)) ∧ w'.cell? ⟨b, 2, none⟩ = some (.int .i64 q)) (first | assumption | exact ⟨by assumption, by assumption, by assumption⟩ | exact ⟨K1, y1, y2⟩)
        (first | (go_at_call 73; refine (HZ.out _).mono ?_; rintro e w' ⟨rfl, rfl⟩) | (go_at_call 72; refine (HU.out _ (by first | assumption | exact K1)).mono ?_; rintro e w1 ⟨rfl, k1, k2, k3⟩))
      by_cases hq : (v : Int) ≤ q
      · have hC0 : C = 0 := by rw [HC.out, pcode, if_pos HMB.out, if_pos h2, if_pos (by rw [← HV.out]; exact hq)]
        have hMe : M = layL L n d := by rw [HM.out, putL, ← HC.out, hC0, if_pos rfl]
        subst hC0
        have hq' : ¬ q < (v : Int) := by omega
        have HME := hide hMe
        clear hMe
        go_wp2_with fail
        refine (HLY.out _ k1.out.1).mono ?_
        rintro e w2 ⟨rfl, hp2, hg2⟩
        have HF := hide (And.intro hp2 ((Gs.of_below _ k1.out.2).trans hg2))
        clear hp2 hg2
        go_wp2
        go_ret
        exact ⟨rfl, by rw [HME.out]; exact HF.out.1, HF.out.2⟩
      · have hC0 : C = 71 := by rw [HC.out, pcode, if_pos HMB.out, if_pos h2, if_neg (by rw [← HV.out]; exact hq)]
        have hMe : M = L := by rw [HM.out, putL, ← HC.out, hC0, if_neg (by decide)]
        subst hC0 hMe
        have hq' : q < (v : Int) := by omega
        go_wp2
        go_ret
        exact ⟨rfl, k1.out.1, Gs.of_below _ k1.out.2⟩
    · have hf : fcode n d = 2 := by rw [fcode, if_pos h1, if_neg h2]
      have hC0 : C = 2 := by rw [HC.out, pcode, if_pos h1, if_neg h2]
      have hMe : M = L := by rw [HM.out, putL, ← HC.out, hC0, if_neg (by decide)]
      rw [hf] at HFA
      subst hC0 hMe
      clear hf
      go_enter Try.func60, Try.ntmps60
      go_wp2_with fail
      refine HFA.out.mono ?_
      rintro e w0 ⟨rfl, rfl⟩
      go_wp2
      go_ret
      exact ⟨rfl, HP.out, Gs.refl _ _⟩
  · have hf : fcode n d = 3 := by rw [fcode, if_neg h1]
    have hC0 : C = 3 := by rw [HC.out, pcode, if_neg h1]
    have hMe : M = L := by rw [HM.out, putL, ← HC.out, hC0, if_neg (by decide)]
    rw [hf] at HFA
    subst hC0 hMe
    clear hf
    go_enter Try.func60, Try.ntmps60
    go_wp2_with fail
    refine HFA.out.mono ?_
    rintro e w0 ⟨rfl, rfl⟩
    go_wp2
    go_ret
    exact ⟨rfl, HP.out, Gs.refl _ _⟩
end
end Go.Proofs.Ytiecoplfiahpnaa

namespace Go.Proofs.Ytiecoplfiahpnaa
open Go.RowKit Go.Lib Go.Maps

/-- What a deletion answers. -/
def dcode (n : ByteArray) (L : List OB) : Int := if (thr L n).isSome = true then 0 else 5
section
variable {w : World} {b mb : Nat} {q f : Int} {dn : Bool} {cl : Int} {L : List OB}

set_option maxRecDepth 100000 in
set_option maxHeartbeats 1600000 in
theorem get_any (hP : PS w b mb q f dn cl L) (n : ByteArray) (hn : n.size ≤ maxLen) :
    Calls Try.prog 61 #[.pointer (some ⟨b, 0, none⟩), .string n] w fun e w' => e = .returned (.agg #[.int .i64 (dcode n L), .string ((thr L n).getD ⟨#[]⟩), .slice none 0 0]) ∧ Below w.heap.size w w' := by
  have y0 := (hP.bel ((Below.refl _ _).alloc (Nat.le_refl _) (.cells #[.int .i64 0, .string ⟨#[]⟩, .slice none 0 0] 62))).cell0
  have hk := (hP.bel ((Below.refl _ _).alloc (Nat.le_refl _) (.cells #[.int .i64 0, .string ⟨#[]⟩, .slice none 0 0] 62))).map.look hn
  obtain ⟨C, hC⟩ : ∃ C, C = dcode n L := ⟨_, rfl⟩
  rw [← hC]
  clear hP hn
  cases ht : thr L n with
  | none =>
    rw [ht] at hk
    have hc : C = 5 := by rw [hC, dcode, ht]; rfl
    subst hc
    clear hC ht
    dsimp only [Option.isSome, Option.getD] at hk ⊢
    go_enter Try.func61, Try.ntmps61
    go_wp2
    exact bodyPost_ret (v := .agg #[.int .i64 5, .string ⟨#[]⟩, .slice none 0 0]) (by simp [results, Try.results61, go_sem]) rfl ⟨rfl, ((Below.refl _ _).alloc (Nat.le_refl _) _).alloc (by simp) _⟩
  | some d =>
    rw [ht] at hk
    have hc : C = 0 := by rw [hC, dcode, ht]; rfl
    subst hc
    clear hC ht
    dsimp only [Option.isSome, Option.getD] at hk ⊢
    go_enter Try.func61, Try.ntmps61
    go_wp2
    exact bodyPost_ret (v := .agg #[.int .i64 0, .string d, .slice none 0 0]) (by simp [results, Try.results61, go_sem]) rfl ⟨rfl, ((Below.refl _ _).alloc (Nat.le_refl _) _).alloc (by simp) _⟩

set_option maxRecDepth 100000 in
set_option maxHeartbeats 1600000 in
theorem add_any (hP : PS w b mb q f dn cl L) (h0 : 0 ≤ cl) (h1 : cl ≤ 1000000000000) :
    Calls Try.prog 59 #[.pointer (some ⟨b, 5, none⟩), .int .i64 1] w fun e w' => e = .returned (.int .i64 (cl + 1)) ∧ w' = w.setCell ⟨b, 5, none⟩ (.int .i64 (cl + 1)) := by
  have hs : IntKind.i64.wrap (cl + 1) = cl + 1 := by simp [IntKind.wrap_i64]; omega
  have hadd := run_call_add (P := Try.prog) Try.func70 (by kernel_rfl) (by kernel_rfl) (by kernel_rfl) .i64 (by kernel_rfl) (y := 1) (s := cl + 1) hP.cell5 (hP.free 5) (by simp [go_sem, hs])
  clear hP
  go_enter Try.func59, Try.ntmps59
  go_wp2
  go_ret
  exact ⟨rfl, rfl⟩

set_option maxRecDepth 100000 in
set_option maxHeartbeats 1600000 in
theorem del_any (hP : PS w b mb q f dn cl L) (n : ByteArray) (hn : n.size ≤ maxLen) (hl : L.length ≤ 1000000) :
    Calls Try.prog 63 #[.pointer (some ⟨b, 0, none⟩), .string n] w fun e w' => e = .returned (.int .i64 (dcode n L)) ∧ PS w' b mb q f dn cl (delL L n) ∧ Gs (two b mb) w w' := by
  have y0 := hP.cell0
  have hk := hP.map.look hn
  have HP := hide hP
  have HN := hide hn
  obtain ⟨C, hC⟩ : ∃ C, C = dcode n L := ⟨_, rfl⟩
  rw [← hC]
  clear hP hn
  cases ht : thr L n with
  | none =>
    rw [ht] at hk
    have hc : C = 5 := by rw [hC, dcode, ht]; rfl
    subst hc
    have HD := hide (del_none ht)
    clear hC ht
    dsimp only [Option.isSome, Option.getD] at hk
    go_enter Try.func63, Try.ntmps63
    go_wp2
    go_ret
    have hb : Below w.heap.size w (w.alloc (.cells #[.string ⟨#[]⟩] 124)) := (Below.refl _ _).alloc (Nat.le_refl _) _
    exact ⟨rfl, by rw [HD.out]; exact HP.out.bel hb, Gs.of_below _ hb⟩
  | some d =>
    rw [ht] at hk
    have hc : C = 0 := by rw [hC, dcode, ht]; rfl
    subst hc
    have HT := hide ht
    clear hC ht
    dsimp only [Option.isSome, Option.getD] at hk
    obtain ⟨y, hy⟩ : ∃ y, y = szO n (thr L n) := ⟨_, rfl⟩
    obtain ⟨u, hu⟩ : ∃ u, u = usedL L := ⟨_, rfl⟩
    obtain ⟨v, hv⟩ : ∃ v, v = usedL (delL L n) := ⟨_, rfl⟩
    have huv : u = v + y := by rw [hu, hv, hy]; exact used_del L n
    have hyb : y ≤ 131168 := by rw [hy]; exact sz_small HP.out.small n
    have hub' : u ≤ 131168000000 := by rw [hu]; have := used_bound HP.out.small; omega
    have f1 : IntKind.i64.wrap ((u : Int) - (y : Int)) = (v : Int) := by simp [IntKind.wrap_i64]; omega
    have HCU : Hid (∀ w1, PS w1 b mb q f dn cl L → w1.cell? ⟨b, 1, none⟩ = some (.int .i64 (u : Int))) := fun w1 h1 => by rw [hu]; exact h1.cell1
    have HU : Hid (∀ w1, PS w1 b mb q f dn cl L → Calls Try.prog 72 #[.pointer (some ⟨b, 0, none⟩), .string n] w1 fun e w' => e = .returned (.int .i64 (y : Int)) ∧ Below w1.heap.size w1 w') := fun w1 h1 => by
      rw [hy]; exact usedBy_any h1 n HN.out
    have HEND : Hid (∀ w1, PS w1 b mb q f dn cl L → ∃ w2, (Builtin.delete_ #[75, 9] 0 #[.map (some mb), .string n]).run Try.prog (w1.setCell ⟨b, 1, none⟩ (.int .i64 (v : Int))) = .ok (.tuple #[]) w2 ∧ (w1.setCell ⟨b, 1, none⟩ (.int .i64 (v : Int))).cell? ⟨b, 0, none⟩ = some (.map (some mb)) ∧ PS w2 b mb q f dn cl (delL L n) ∧ Gs (two b mb) w1 w2) := fun w1 h1 => by
      have hm : MO (w1.setCell ⟨b, 1, none⟩ (.int .i64 (v : Int))) mb L := h1.map.set h1.ne _
      have hblk := heap_set_self (j := 1) (u := .int .i64 (v : Int)) h1.blk
      obtain ⟨w2, r, hm2, hg, hsz⟩ := hm.del h1.ris HN.out 0
      refine ⟨w2, r, by simp [World.cell?, hblk], ⟨?_, hm2, ris_del h1.ris n, small_del h1.small n⟩, ?_⟩
      · rw [hg.block b (by simp [World.setCell]; exact h1.lt) (fun e => h1.ne (Option.some.inj e).symm), hblk, ← hv]
        rfl
      · exact ((Gs.refl _ _).set (.inl (.inl rfl)) _).gb hg (.inl (.inr rfl))
    have hb : Below w.heap.size w (w.alloc (.cells #[.string d] 124)) := (Below.refl _ _).alloc (Nat.le_refl _) _
    have HP0 := hide (HP.out.bel hb)
    have HG0 : Hid (Gs (two b mb) w (w.alloc (.cells #[.string d] 124))) := Gs.of_below _ hb
    have y1 := HCU.out _ HP0.out
    have z1 := HP0.out.free 1
    have HUV := hide huv
    clear hu hy hv hb huv
    go_enter Try.func63, Try.ntmps63
    go_upto_region 4 with fail
    go_region_with (first | (go_at_call 72; refine (HU.out _ HP0.out.drew).mono ?_; rintro e w1 ⟨rfl, hb1⟩; have HB1 := hide hb1; have HP1 := hide (HP0.out.drew.bel hb1); have y2 := HCU.out w1 HP1.out; have z2 := HP1.out.free 1; clear hb1))
    all_goals (
      obtain ⟨w2, r, c0, hP2, hG2⟩ := HEND.out _ HP1.out
      have HF := hide (And.intro hP2 (HG0.out.trans ((Gs.ofd _ HB1.out).trans hG2)))
      clear y2 z2 y1 z1 hP2 hG2
      go_wp2
      go_ret
      exact ⟨rfl, HF.out⟩)

end
end Go.Proofs.Ytiecoplfiahpnaa

namespace Go.Proofs.Ytiecoplfiahpnaa
open Go.Shelf
def Try.lays190_ren : Go.Shelf.Ren := ⟨fun | 190 => 76 | 125 => 83 | 258 => 82 | 128 => 94 | 129 => 95 | 302 => 85 | 303 => 86 | 304 => 87 | 305 => 88 | 306 => 89 | 307 => 90 | 308 => 91 | 309 => 92 | 310 => 93 | 333 => 96 | 329 => 97 | 330 => 98 | 334 => 99 | 335 => 100 | 336 => 101 | 344 => 102 | n => n, fun | 31 => 29 | 9 => 9 | 3 => 3 | 46 => 131 | 0 => 0 | 51 => 142 | 53 => 144 | 4 => 4 | 183 => 135 | 182 => 134 | 131 => 139 | 5 => 5 | 218 => 145 | 222 => 149 | 228 => 151 | 229 => 152 | n => n, fun | n => n⟩
theorem Try.lays190 : Go.Proofs.Lays.n190 Try.prog Try.lays190_ren := {
  mixed := by kernel_rfl
  f125 := Try.func83.trans (congrArg some (by kernel_rfl))
  f128 := Try.func94.trans (congrArg some (by kernel_rfl))
  f129 := Try.func95.trans (congrArg some (by kernel_rfl))
  f190 := Try.func76.trans (congrArg some (by kernel_rfl))
  f258 := Try.func82.trans (congrArg some (by kernel_rfl))
  f302 := Try.func85.trans (congrArg some (by kernel_rfl))
  f303 := Try.func86.trans (congrArg some (by kernel_rfl))
  f304 := Try.func87.trans (congrArg some (by kernel_rfl))
  f305 := Try.func88.trans (congrArg some (by kernel_rfl))
  f306 := Try.func89.trans (congrArg some (by kernel_rfl))
  f307 := Try.func90.trans (congrArg some (by kernel_rfl))
  f308 := Try.func91.trans (congrArg some (by kernel_rfl))
  f309 := Try.func92.trans (congrArg some (by kernel_rfl))
  f310 := Try.func93.trans (congrArg some (by kernel_rfl))
  f329 := Try.func97.trans (congrArg some (by kernel_rfl))
  f330 := Try.func98.trans (congrArg some (by kernel_rfl))
  f333 := Try.func96.trans (congrArg some (by kernel_rfl))
  f334 := Try.func99.trans (congrArg some (by kernel_rfl))
  f335 := Try.func100.trans (congrArg some (by kernel_rfl))
  f336 := Try.func101.trans (congrArg some (by kernel_rfl))
  f344 := Try.func102.trans (congrArg some (by kernel_rfl))
  t0 := Try.underlying0
  a0 := Try.isAgg0
  z0 := Try.sizeOf0
  v0 := Try.zeroValue0
  t3 := Try.underlying3
  a3 := Try.isAgg3
  z3 := Try.sizeOf3
  v3 := Try.zeroValue3
  t4 := Try.underlying4
  a4 := Try.isAgg4
  z4 := Try.sizeOf4
  v4 := Try.zeroValue4
  t5 := Try.underlying5
  a5 := Try.isAgg5
  z5 := Try.sizeOf5
  v5 := Try.zeroValue5
  t9 := Try.underlying9
  a9 := Try.isAgg9
  z9 := Try.sizeOf9
  v9 := Try.zeroValue9
  t31 := Try.underlying29
  a31 := Try.isAgg29
  z31 := Try.sizeOf29
  v31 := Try.zeroValue29
  t46 := Try.underlying131
  a46 := Try.isAgg131
  z46 := Try.sizeOf131
  v46 := Try.zeroValue131
  t51 := Try.underlying142
  a51 := Try.isAgg142
  z51 := Try.sizeOf142
  v51 := Try.zeroValue142
  t53 := Try.underlying144
  a53 := Try.isAgg144
  z53 := Try.sizeOf144
  v53 := Try.zeroValue144
  t131 := Try.underlying139
  a131 := Try.isAgg139
  z131 := Try.sizeOf139
  v131 := Try.zeroValue139
  t182 := Try.underlying134
  a182 := Try.isAgg134
  z182 := Try.sizeOf134
  v182 := Try.zeroValue134
  t183 := Try.underlying135
  a183 := Try.isAgg135
  z183 := Try.sizeOf135
  v183 := Try.zeroValue135
  t218 := Try.underlying145
  a218 := Try.isAgg145
  z218 := Try.sizeOf145
  v218 := Try.zeroValue145
  t222 := Try.underlying149
  a222 := Try.isAgg149
  z222 := Try.sizeOf149
  v222 := Try.zeroValue149
  t228 := Try.underlying151
  a228 := Try.isAgg151
  z228 := Try.sizeOf151
  v228 := Try.zeroValue151
  t229 := Try.underlying152
  a229 := Try.isAgg152
  z229 := Try.sizeOf152
  v229 := Try.zeroValue152 }
open Go.Sort Go.RowKit in
theorem Try.slices_Sort_string (blk off cap : Nat) (ss : List (List UInt8)) (w : World) (hH : Holds encStr w blk off ss.toArray) (hblk : blk < w.heap.size) (hsz : ss.length < 4611686018427387904) :
    Calls Try.prog 76 #[.slice (some ⟨blk, off, none⟩) ss.length cap] w fun e w' =>
      e = .returned (.tuple #[]) ∧ ∃ n os, w' = grow (putRow encStr (Sort.ahead w n) blk off (ss.mergeSort fun x y => decide (x ≤ y)).toArray) os := Any.slices_Sort_string Try.lays190 blk off cap ss w hH hblk hsz
def Try.lays206_ren : Go.Shelf.Ren := ⟨fun | 206 => 81 | n => n, fun | 9 => 9 | 4 => 4 | 3 => 3 | n => n, fun | n => n⟩
theorem Try.lays206 : Go.Proofs.Lays.n206 Try.prog Try.lays206_ren := {
  mixed := by kernel_rfl
  f206 := Try.func81.trans (congrArg some (by kernel_rfl))
  t3 := Try.underlying3
  a3 := Try.isAgg3
  z3 := Try.sizeOf3
  v3 := Try.zeroValue3
  t4 := Try.underlying4
  a4 := Try.isAgg4
  z4 := Try.sizeOf4
  v4 := Try.zeroValue4
  t9 := Try.underlying9
  a9 := Try.isAgg9
  z9 := Try.sizeOf9
  v9 := Try.zeroValue9 }
open Go.RowKit Go.Lib in
/-- internal/stringslite.HasPrefix (what strings.HasPrefix calls). (LAID: no walk: one application.) -/
theorem Try.stringslite_HasPrefix (s p : ByteArray) (w : World) :
    Calls Try.prog 81 #[.string s, .string p] w fun e w' => e = .returned (.bool (Lib.hasPrefix s.data.toList p.data.toList)) ∧ w' = w := Any.stringslite_HasPrefix Try.lays206 s p w
def Try.lays99_ren : Go.Shelf.Ren := ⟨fun | 99 => 75 | 206 => 81 | n => n, fun | 9 => 9 | 4 => 4 | 3 => 3 | n => n, fun | n => n⟩
theorem Try.lays99 : Go.Proofs.Lays.n99 Try.prog Try.lays99_ren := {
  mixed := by kernel_rfl
  f99 := Try.func75.trans (congrArg some (by kernel_rfl))
  f206 := Try.func81.trans (congrArg some (by kernel_rfl))
  t3 := Try.underlying3
  a3 := Try.isAgg3
  z3 := Try.sizeOf3
  v3 := Try.zeroValue3
  t4 := Try.underlying4
  a4 := Try.isAgg4
  z4 := Try.sizeOf4
  v4 := Try.zeroValue4
  t9 := Try.underlying9
  a9 := Try.isAgg9
  z9 := Try.sizeOf9
  v9 := Try.zeroValue9 }
open Go.RowKit Go.Lib in
/-- strings.HasPrefix: "HasPrefix reports whether the string s begins with prefix.": IT RETURNS 'Lib.hasPrefix s prefix'; the world is as it was. (LAID: no walk: one application.) -/
theorem Try.strings_HasPrefix (s p : ByteArray) (w : World) :
    Calls Try.prog 75 #[.string s, .string p] w fun e w' => e = .returned (.bool (Lib.hasPrefix s.data.toList p.data.toList)) ∧ w' = w := Any.strings_HasPrefix Try.lays99 s p w
open Go.RowKit Go.Sort in
/-- .. and plain. (LAID: no walk: one application.) -/
theorem Try.slices_Sort_string_none (p : Option Addr) (cap : Nat) (w : World) :
    Calls Try.prog 76 #[.slice p 0 cap] w fun e w' => e = .returned (.tuple #[]) ∧ w' = w := Any.slices_Sort_string_none Try.lays190 p cap w
end Go.Proofs.Ytiecoplfiahpnaa
