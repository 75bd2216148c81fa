/-
  Contracts of the program and of the statements (part 1 of 13).
-/
import Derived.Test.YtiecoplfiahpnaaGreatRows
import Derived.Maps.Views
import Derived.WalkKit
import Derived.WalkSpells
import Derived.WalkLawsBesides
import Derived.Below
import Derived.Laws.OwnMore
import Derived.Laws.LoneSync
import Derived.Lib.VarintMem
import Derived.Lib.SliceRun
import Derived.Lib.AppendZeros
import Derived.BigRegion
import Derived.Maps.AppendAt
import Derived.Maps.RangeWalk
import Derived.Maps.OwnSet
import Derived.Deep.RegionHeld3
import Derived.Deep.RegionHeldLaw
import Derived.Deep.DeepCutAuto
import Derived.Deep.CutBlock
import Derived.StringKeys
import Derived.Deep.MidRow
import Derived.Laws.EntriesVeiled

namespace Go.Proofs.YtiecoplfiahpnaaGreat
open Go.WideShapes

/-- An object: name and data. -/
structure OB where
  n : ByteArray
  d : ByteArray
def bl (x y : ByteArray) : Bool := bytesBefore x.data.toList y.data.toList
theorem less_before : ∀ x y : List UInt8, Op.bytesLess x y = bytesBefore x y
  | [], [] => rfl
  | [], _ :: _ => rfl
  | _ :: _, [] => rfl
  | a :: x, b :: y => by rw [Op.bytesLess, bytesBefore, less_before x y]
theorem bl_irrefl (x : ByteArray) : bl x x = false := WideAt.bytes_irrefl _
theorem bl_trans {x y z : ByteArray} (h : bl x y = true) (h' : bl y z = true) : bl x z = true := bytes_trans _ _ _ h h'
theorem list_ne {x y : ByteArray} (h : x ≠ y) : x.data.toList ≠ y.data.toList := fun e => h (ByteArray.ext (Array.toList_inj.1 e))
theorem bl_total {x y : ByteArray} (h : x ≠ y) : bl x y = true ∨ bl y x = true := WideAt.bytes_total _ _ (list_ne h)
theorem bl_asymm {x y : ByteArray} (h : bl x y = true) : bl y x = false := by
  cases e : bl y x
  · rfl
  · exact absurd (bl_trans h e) (by rw [bl_irrefl]; decide)
theorem bl_ne {x y : ByteArray} (h : bl x y = true) : x ≠ y := fun e => by subst e; rw [bl_irrefl] at h; cases h
theorem bl_not {x y : ByteArray} (h : bl x y = false) (h' : bl y x = false) : x = y := Classical.byContradiction fun e => by
  rcases bl_total e with h1 | h1
  · rw [h1] at h; cases h
  · rw [h1] at h'; cases h'

/-- Names rise. -/
def Ris (L : List OB) : Prop := L.Pairwise (fun p q => bl p.n q.n = true)
/-- The data under a name. -/
def thr : List OB → ByteArray → Option ByteArray
  | [], _ => none
  | p :: r, n => if p.n = n then some p.d else thr r n
/-- An object is laid. -/
def layL : List OB → ByteArray → ByteArray → List OB
  | [], n, d => [⟨n, d⟩]
  | p :: r, n, d => if bl p.n n = true then p :: layL r n d else if p.n = n then ⟨n, d⟩ :: r else ⟨n, d⟩ :: p :: r
/-- An object goes. -/
def delL : List OB → ByteArray → List OB
  | [], _ => []
  | p :: r, n => if p.n = n then r else p :: delL r n
/-- How many names stand ahead. -/
def pos : List OB → ByteArray → Nat
  | [], _ => 0
  | p :: r, n => if bl p.n n = true then pos r n + 1 else 0
/-- What is used. -/
def usedL : List OB → Nat
  | [] => 0
  | p :: r => p.n.size + p.d.size + usedL r
/-- Begins a name so? -/
def begins (b n : ByteArray) : Bool := decide (b.size ≤ n.size) && decide (n.extract 0 b.size = b)
def namesL (L : List OB) (b : ByteArray) : List ByteArray := (L.filter (fun p => begins b p.n)).map (·.n)

theorem thr_none {L : List OB} {n : ByteArray} : thr L n = none ↔ ∀ p ∈ L, p.n ≠ n := by
  induction L with
  | nil => simp [thr]
  | cons p r ih =>
    by_cases e : p.n = n
    · simp [thr, e]
    · simp [thr, e, ih]
theorem ris_tail {p : OB} {L : List OB} (h : Ris (p :: L)) : Ris L := (List.pairwise_cons.1 h).2
theorem ris_head {p : OB} {L : List OB} (h : Ris (p :: L)) : ∀ q ∈ L, bl p.n q.n = true := (List.pairwise_cons.1 h).1
theorem thr_ahead {p : OB} {L : List OB} {n : ByteArray} (h : Ris (p :: L)) (hn : bl n p.n = true ∨ n = p.n) : thr L n = none := by
  rw [thr_none]
  intro q hq e
  have h1 := ris_head h q hq
  rw [e] at h1
  rcases hn with h2 | h2
  · exact absurd (bl_trans h1 h2) (by rw [bl_irrefl]; decide)
  · rw [h2, bl_irrefl] at h1; cases h1
theorem mem_lay {L : List OB} {n d : ByteArray} : ∀ {q : OB}, q ∈ layL L n d → q = ⟨n, d⟩ ∨ q ∈ L := by
  induction L with
  | nil => intro q h; simp [layL] at h; exact .inl h
  | cons p r ih =>
    intro q h
    rw [layL] at h
    split at h
    · rcases List.mem_cons.1 h with h | h
      · exact .inr (by rw [h]; exact List.mem_cons_self)
      · rcases ih h with h | h
        · exact .inl h
        · exact .inr (List.mem_cons_of_mem _ h)
    split at h
    · rcases List.mem_cons.1 h with h | h
      · exact .inl h
      · exact .inr (List.mem_cons_of_mem _ h)
    · rcases List.mem_cons.1 h with h | h
      · exact .inl h
      · exact .inr h
theorem mem_del {L : List OB} {n : ByteArray} : ∀ {q : OB}, q ∈ delL L n → q ∈ L := by
  induction L with
  | nil => intro q h; exact h
  | cons p r ih =>
    intro q h
    rw [delL] at h
    split at h
    · exact List.mem_cons_of_mem _ h
    · rcases List.mem_cons.1 h with h | h
      · rw [h]; exact List.mem_cons_self
      · exact List.mem_cons_of_mem _ (ih h)
theorem ris_lay {L : List OB} (h : Ris L) (n d : ByteArray) : Ris (layL L n d) := by
  induction L with
  | nil => simp [layL, Ris]
  | cons p r ih =>
    rw [layL]
    split
    · rename_i hb
      refine List.pairwise_cons.2 ⟨fun q hq => ?_, ih (ris_tail h)⟩
      rcases mem_lay hq with e | e
      · rw [e]; exact hb
      · exact ris_head h q e
    · rename_i hb
      split
      · rename_i e
        refine List.pairwise_cons.2 ⟨fun q hq => ?_, ris_tail h⟩
        rw [← e]; exact ris_head h q hq
      · rename_i e
        have hn : bl n p.n = true := by
          rcases bl_total e with h1 | h1
          · exact absurd h1 hb
          · exact h1
        refine List.pairwise_cons.2 ⟨fun q hq => ?_, h⟩
        rcases List.mem_cons.1 hq with e2 | e2
        · rw [e2]; exact hn
        · exact bl_trans hn (ris_head h q e2)
theorem ris_del {L : List OB} (h : Ris L) (n : ByteArray) : Ris (delL L n) := by
  induction L with
  | nil => exact h
  | cons p r ih =>
    rw [delL]
    split
    · exact ris_tail h
    · exact List.pairwise_cons.2 ⟨fun q hq => ris_head h q (mem_del hq), ih (ris_tail h)⟩
theorem thr_lay {L : List OB} (h : Ris L) (n d m : ByteArray) : thr (layL L n d) m = if n = m then some d else thr L m := by
  induction L with
  | nil => simp [layL, thr]
  | cons p r ih =>
    rw [layL]
    split
    · rename_i hb
      rw [thr, ih (ris_tail h), thr]
      by_cases e : p.n = m
      · have : n ≠ m := fun e2 => by rw [← e2] at e; exact bl_ne hb e
        simp [e, this]
      · simp [e]
    · split
      · rename_i e
        rw [thr, thr]
        by_cases e2 : n = m
        · simp [e2]
        · simp [e2, e]
      · rw [thr]
theorem thr_del {L : List OB} (h : Ris L) (n m : ByteArray) : thr (delL L n) m = if n = m then none else thr L m := by
  induction L with
  | nil => simp [delL, thr]
  | cons p r ih =>
    rw [delL]
    split
    · rename_i e
      rw [thr]
      by_cases e2 : n = m
      · subst e2
        simp [thr_ahead h (.inr e.symm)]
      · simp [e2, e]
    · rename_i e
      rw [thr, ih (ris_tail h), thr]
      by_cases e2 : n = m
      · subst e2; simp [e]
      · simp [e2]
def szO (n : ByteArray) : Option ByteArray → Nat
  | some d => n.size + d.size
  | none => 0
theorem used_del (L : List OB) (n : ByteArray) : usedL L = usedL (delL L n) + szO n (thr L n) := by
  induction L with
  | nil => rfl
  | cons p r ih =>
    by_cases e : p.n = n
    · subst e
      simp only [delL, thr, usedL, if_true, szO]
      omega
    · simp only [delL, thr, usedL, if_neg e]
      omega
theorem used_lay {L : List OB} (h : Ris L) (n d : ByteArray) : usedL (layL L n d) + szO n (thr L n) = usedL L + n.size + d.size := by
  induction L with
  | nil => simp only [layL, thr, usedL, szO]; omega
  | cons p r ih =>
    rw [layL]
    split
    · rename_i hb
      have := ih (ris_tail h)
      simp only [thr, if_neg (bl_ne hb), usedL]
      omega
    · rename_i hb
      split
      · rename_i e
        subst e
        simp only [thr, if_true, usedL, szO]
        omega
      · rename_i e
        have hn : bl n p.n = true := by
          rcases bl_total e with h1 | h1
          · exact absurd h1 hb
          · exact h1
        rw [thr, if_neg e, thr_ahead h (.inl hn)]
        simp only [usedL, szO]
        omega
/-- The place of a name. -/
theorem pos_le (L : List OB) (n : ByteArray) : pos L n ≤ L.length := by
  induction L with
  | nil => exact Nat.le_refl _
  | cons p r ih =>
    rw [pos]
    split
    · simp; exact ih
    · exact Nat.zero_le _
theorem pos_before {L : List OB} {n : ByteArray} : ∀ {i : Nat} {p : OB}, i < pos L n → L[i]? = some p → bl p.n n = true := by
  induction L with
  | nil => intro i p h; simp [pos] at h
  | cons q r ih =>
    intro i p h hp
    rw [pos] at h
    split at h
    · rename_i hb
      cases i with
      | zero => simp at hp; rw [← hp]; exact hb
      | succ i => exact ih (i := i) (by omega) (by simpa using hp)
    · omega
theorem pos_at {L : List OB} {n : ByteArray} {p : OB} (hp : L[pos L n]? = some p) : bl p.n n = false := by
  induction L with
  | nil => simp at hp
  | cons q r ih =>
    rw [pos] at hp
    split at hp
    · exact ih (by simpa using hp)
    · rename_i hb
      simp at hp
      rw [← hp]
      simpa using hb
theorem pos_thr {L : List OB} (h : Ris L) (n : ByteArray) : thr L n = match L[pos L n]? with | some p => (if p.n = n then some p.d else none) | none => none := by
  induction L with
  | nil => rfl
  | cons q r ih =>
    by_cases hb : bl q.n n = true
    · rw [pos, if_pos hb, thr, if_neg (bl_ne hb), ih (ris_tail h), List.getElem?_cons_succ]
    · rw [pos, if_neg hb, thr, List.getElem?_cons_zero]
      by_cases e : q.n = n
      · rw [if_pos e]
        dsimp only
        rw [if_pos e]
      · have hn : bl n q.n = true := by
          rcases bl_total e with h1 | h1
          · exact absurd h1 hb
          · exact h1
        rw [if_neg e, thr_ahead h (.inl hn)]
        dsimp only
        rw [if_neg e]
theorem lay_take {L : List OB} (h : Ris L) (n d : ByteArray) : layL L n d = L.take (pos L n) ++ ⟨n, d⟩ :: L.drop (if (thr L n).isSome then pos L n + 1 else pos L n) := by
  induction L with
  | nil => rfl
  | cons q r ih =>
    rw [layL, pos]
    split
    · rename_i hb
      rw [ih (ris_tail h), thr, if_neg (bl_ne hb)]
      split <;> simp
    · rename_i hb
      split
      · rename_i e
        simp [thr, e]
      · rename_i e
        have hn : bl n q.n = true := by
          rcases bl_total e with h1 | h1
          · exact absurd h1 hb
          · exact h1
        rw [thr, if_neg e, thr_ahead h (.inl hn)]
        simp
theorem del_take {L : List OB} (h : Ris L) {n : ByteArray} (ht : (thr L n).isSome = true) : delL L n = L.take (pos L n) ++ L.drop (pos L n + 1) := by
  induction L with
  | nil => simp [thr] at ht
  | cons q r ih =>
    rw [delL, pos]
    split
    · rename_i e
      rw [if_neg (by rw [e, bl_irrefl]; decide)]
      simp
    · rename_i e
      rw [thr, if_neg e] at ht
      have hb : bl q.n n = true := by
        rcases bl_total e with h1 | h1
        · exact h1
        · rw [thr_ahead h (.inl h1)] at ht; cases ht
      rw [if_pos hb, ih (ris_tail h) ht]
      simp
theorem del_none {L : List OB} {n : ByteArray} (ht : thr L n = none) : delL L n = L := by
  induction L with
  | nil => rfl
  | cons q r ih =>
    rw [thr] at ht
    split at ht
    · cases ht
    · rename_i e
      rw [delL, if_neg e, ih ht]

/-! ### As a map reads -/
section
variable {H : Type} (E : ByteArray → DataW H)
/-- An object as an entry; E: how its data read. -/
def entr (p : OB) : Lit × DataW H := (.string p.n.data.toList, E p.d)
def datL (L : List OB) : DataW H := .map (L.map (entr E))
theorem same_name (x y : ByteArray) : (Lit.string x.data.toList).sameKey (.string y.data.toList) = decide (x = y) := by
  by_cases e : x = y
  · subst e; simp [Lit.sameKey]
  · rw [decide_eq_false e, Lit.sameKey, beq_eq_false_iff_ne]
    exact list_ne e
theorem dat_del {L : List OB} (h : Ris L) (n : ByteArray) : (datL E L).del (.string n.data.toList) = datL E (delL L n) := by
  show DataW.map ((L.map (entr E)).filter _) = DataW.map _
  congr 1
  induction L with
  | nil => rfl
  | cons p r ih =>
    rw [List.map_cons, List.filter_cons, delL]
    simp only [entr, same_name]
    by_cases e : p.n = n
    · simp only [e, decide_true, Bool.not_true, if_true]
      rw [if_neg (by decide)]
      refine List.filter_eq_self.2 fun q hq => ?_
      obtain ⟨x, hx, rfl⟩ := List.mem_map.1 hq
      have h1 := ris_head h x hx
      rw [e] at h1
      show (!(Lit.string x.n.data.toList).sameKey (.string n.data.toList)) = true
      rw [same_name, decide_eq_false (bl_ne h1).symm]
      rfl
    · simp only [e, decide_false, Bool.not_false, if_true, if_false]
      rw [List.map_cons]
      exact congrArg _ (ih (ris_tail h))
theorem dat_has (L : List OB) (n : ByteArray) : Maps.has (datL E L) (.string n.data.toList) = (thr L n).isSome := by
  show (L.map (entr E)).any _ = _
  induction L with
  | nil => rfl
  | cons p r ih =>
    rw [List.map_cons, List.any_cons, ih, thr]
    simp only [entr, same_name]
    by_cases e : p.n = n
    · simp [e]
    · simp [e]
theorem dat_at (L : List OB) (n : ByteArray) (z : DataW H) : (datL E L).atKey (.string n.data.toList) z = match thr L n with | some d => E d | none => z := by
  show (match (L.map (entr E)).find? _ with | some p => p.2 | none => z) = _
  induction L with
  | nil => rfl
  | cons p r ih =>
    rw [List.map_cons, List.find?_cons, thr]
    simp only [entr, same_name]
    by_cases e : p.n = n
    · simp [e]
    · simp only [e, decide_false, if_false]
      exact ih
theorem dat_size (L : List OB) : Maps.size (datL E L) = L.length := by
  show (L.map (entr E)).length = _
  simp
theorem dat_put {L : List OB} (h : Ris L) (n d : ByteArray) : (datL E L).put (.string n.data.toList) (E d) = datL E (layL L n d) := by
  have e0 : (datL E L).put (.string n.data.toList) (E d) = .map (DataW.insert (entr E ⟨n, d⟩) ((delL L n).map (entr E))) := by
    have := dat_del E h n
    simp only [datL, DataW.del, DataW.map.injEq] at this
    show DataW.map (DataW.insert _ _) = _
    rw [this]
    rfl
  rw [e0]
  show DataW.map _ = DataW.map _
  congr 1
  clear e0
  induction L with
  | nil => rfl
  | cons p r ih =>
    rw [delL, layL]
    by_cases e : p.n = n
    · have hb : ¬ bl p.n n = true := by rw [e, bl_irrefl]; decide
      rw [if_pos e, if_neg hb, if_pos e]
      cases r with
      | nil => rfl
      | cons q s =>
        have h1 := ris_head h q List.mem_cons_self
        rw [e] at h1
        rw [List.map_cons, DataW.insert]
        exact if_pos (show (Lit.string n.data.toList).before (.string q.n.data.toList) = true from h1)
    · rw [if_neg e, List.map_cons, DataW.insert]
      by_cases hb : bl p.n n = true
      · have hx : ¬ (entr E ⟨n, d⟩).1.before (entr E p).1 = true := by
          show ¬ bl n p.n = true
          rw [bl_asymm hb]; decide
        rw [if_pos hb, if_neg hx, ih (ris_tail h), List.map_cons]
      · have hn : bl n p.n = true := by
          rcases bl_total e with h1 | h1
          · exact absurd h1 hb
          · exact h1
        have hx : (entr E ⟨n, d⟩).1.before (entr E p).1 = true := hn
        rw [if_neg hb, if_neg e, if_pos hx, del_none (thr_ahead h (.inl hn))]
        rfl
end
end Go.Proofs.YtiecoplfiahpnaaGreat

namespace Go.Proofs.YtiecoplfiahpnaaGreat
open Go.RowKit Go.Lib Go.Maps

theorem hide {p : Prop} (h : p) : Hid p := h
theorem take_snoc (s : ByteArray) (k : Nat) (h : k < s.size) : s.data.toList.take (k + 1) = s.data.toList.take k ++ [s[k]] := by
  have hk : k < s.data.toList.length := by simpa using h
  rw [List.take_add_one, List.getElem?_eq_getElem hk]
  rfl
theorem bytes_list (x : ByteArray) : x.toList = x.data.toList := ByteArray.toList_eq x
theorem test_eq (x y : ByteArray) : (x.toList == y.toList) = decide (x = y) := by
  by_cases e : x = y
  · subst e; simp
  · rw [decide_eq_false e, bytes_list, bytes_list, beq_eq_false_iff_ne]
    exact list_ne e
theorem test_less (x y : ByteArray) : Op.bytesLess x.toList y.toList = bl x y := by
  rw [bytes_list, bytes_list, less_before]; rfl

theorem less_fact {x y : ByteArray} {t : Bool} (h : bl x y = t) : Op.bytesLess x.toList y.toList = t := (test_less x y).trans h
/-- A byte that a name may have. -/
def okB (x : UInt8) : Bool := decide (32 < x.toNat) && decide (x.toNat < 127)
/-- May a name be? -/
def mayB (n : ByteArray) : Bool := decide (1 ≤ n.size) && decide (n.size ≤ 96) && n.data.toList.all okB

theorem below_step {w9 w' w'' : World} (h : Below w9.heap.size w9 w') (k : Below w'.heap.size w' w'') : Below w9.heap.size w9 w'' := h.trans (k.mono h.size)

theorem used_snoc (L : List OB) (p : OB) : usedL (L ++ [p]) = usedL L + (p.n.size + p.d.size) := by
  induction L with
  | nil => simp [usedL]
  | cons q r ih => simp only [List.cons_append, usedL, ih]; omega
theorem used_take_le : ∀ (L : List OB) (j : Nat), usedL (L.take j) ≤ usedL L
  | [], _ => by simp [usedL]
  | _ :: _, 0 => Nat.zero_le _
  | p :: r, j + 1 => by
    have := used_take_le r j
    rw [List.take_succ_cons, usedL, usedL]
    omega
theorem used_take {L : List OB} {j : Nat} {p : OB} (hp : L[j]? = some p) : usedL (L.take (j + 1)) = usedL (L.take j) + (p.n.size + p.d.size) := by
  rw [List.take_add_one, hp]
  exact used_snoc _ _

theorem Tryz.infoTx : (Tryz.prog.info? 9).map (fun i => (i.zero, i.size, i.bytes)) = some (some (.string ⟨#[]⟩), 1, 16) := by kernel_rfl
theorem info_parts {o : Option TypeInfo} {z : Option Value} {s b : Nat} (h : o.map (fun i => (i.zero, i.size, i.bytes)) = some (z, s, b)) : ∃ i, o = some i ∧ i.zero = z ∧ i.size = s ∧ i.bytes = b := by
  cases o with
  | none => cases h
  | some i =>
    simp only [Option.map_some, Option.some.injEq, Prod.mk.injEq] at h
    exact ⟨i, rfl, h⟩
def tc (l : List ByteArray) : List Value := l.map .string
/-- A list of texts in a block of one's own. -/
structure TS (B : Nat) (v : Value) (l : List ByteArray) (w : World) : Prop where
  own : w.ownsRow B 9 1 v l.length (tc l)
section
variable {B : Nat} {v : Value} {l : List ByteArray} {w w' : World}
theorem TS.nil (B : Nat) (w : World) : TS B (.slice none 0 0) [] w := ⟨World.ownsRow_nil w B 9 1⟩
theorem TS.shp (h : TS B v l w) : ∃ a c, v = .slice a l.length c := by
  obtain ⟨h1, ⟨rfl, h2⟩ | ⟨g, cap, cur, rfl, _⟩⟩ := h.own
  · rw [h2]; exact ⟨_, _, rfl⟩
  · exact ⟨_, _, rfl⟩
theorem TS.keep (h : TS B v l w) (hb : Below w.heap.size w w') : TS B v l w' := by
  refine ⟨h.own.1, ?_⟩
  rcases h.own.2 with h2 | ⟨g, cap, cur, e, hB, hg, r⟩
  · exact .inl h2
  · exact .inr ⟨g, cap, cur, e, hB, (hb.block g (lt_of_block hg)).trans hg, r⟩
theorem TS.lt (h : TS B v l w) (b : Nat) (hb : v.ownBlock = some b) : B ≤ b ∧ b < w.heap.size := by
  obtain ⟨h1, ⟨rfl, h2⟩ | ⟨g, cap, cur, rfl, hB, hg, _⟩⟩ := h.own
  · simp [Value.ownBlock] at hb
  · simp only [Value.ownBlock, Option.some.injEq] at hb
    subst hb
    exact ⟨hB, lt_of_block hg⟩
/-- One text more. -/
theorem TS.one (h : TS B v l w) (x : ByteArray) (hb : l.length + 1 ≤ 1000001) (hB : B ≤ w.heap.size) :
    ∃ v' w', (Builtin.append_ #[33, 33] 33 #[v, .slice (some ⟨w.heap.size, 0, none⟩) 1 1]).run Tryz.prog (w.alloc (.cells #[.string x] 9)) = .ok v' w' ∧ TS B v' (l ++ [x]) w' ∧ (∀ w0, Below B w0 w → Below B w0 w') ∧ (w.alloc (.cells #[.string x] 9)).grownBy w' v.ownBlock := by
  have hal : Below w.heap.size w (w.alloc (.cells #[.string x] 9)) := (Below.refl _ _).alloc (Nat.le_refl _) _
  have h' := h.keep hal
  obtain ⟨i0, hi, hz0, hz1, hz2⟩ := info_parts Tryz.infoTx
  obtain ⟨v', w', h1, h2, h3, _⟩ := run_append_own_at (P := Tryz.prog) (w.alloc (.cells #[.string x] 9)) B 33 33 9 i0 (.string ⟨#[]⟩) 1 16 Tryz.underlying33 hi hz0 hz1 hz2 rfl (by decide) v l.length (tc l) h'.own ⟨w.heap.size, 0, none⟩ 1 1 [.string x] rfl (fun j u hj => by
      rw [Addr.add_mid, Nat.zero_add, cell_of_row _ _ _ _ _ _ (heap_alloc_new w _)]
      simpa using hj) (by simp [Value.oneCell']) (by unfold maxLen; omega) (by omega) (by simp; omega)
  refine ⟨v', w', h1, ⟨by rw [List.length_append, tc, List.map_append]; exact h2⟩, fun w0 hb0 => ?_, h3⟩
  exact (hb0.trans (hal.mono hB)).grown h3 (by simp; omega) (fun k hk => (h'.lt k hk).1)
end
theorem heap_set_self {T : TypeId} {w : World} {b j : Nat} {u : Value} {c : Array Value} {fr : Nat × Nat} (h : w.heap[b]? = some (.cells c T fr)) : (w.setCell ⟨b, j, none⟩ u).heap[b]? = some (.cells (c.setIfInBounds j u) T fr) := by
  have hlt := lt_of_block h
  have h' : w.heap[b] = .cells c T fr := by simpa [Array.getElem?_eq_getElem hlt] using h
  show (w.heap.modify b _)[b]? = _
  rw [Array.getElem?_eq_getElem (by simpa using hlt), Array.getElem_modify_self, h']
  rfl
/-- Only these blocks are turned, and new memory. -/
structure Gs (p : Nat → Prop) (w w' : World) : Prop where
  os : w'.os = w.os
  tape : w'.tape = w.tape
  output : w'.output = w.output
  size : w.heap.size ≤ w'.heap.size
  block : ∀ i, i < w.heap.size → ¬ p i → w'.heap[i]? = w.heap[i]?
section
variable {p : Nat → Prop} {w w1 w' : World}
theorem Gs.refl (p : Nat → Prop) (w : World) : Gs p w w := ⟨rfl, rfl, rfl, Nat.le_refl _, fun _ _ _ => rfl⟩
theorem Gs.trans (h : Gs p w w1) (k : Gs p w1 w') : Gs p w w' :=
  ⟨k.os.trans h.os, k.tape.trans h.tape, k.output.trans h.output, Nat.le_trans h.size k.size, fun i hi hp => (k.block i (Nat.lt_of_lt_of_le hi h.size) hp).trans (h.block i hi hp)⟩
theorem Gs.gb {b : Nat} (h : Gs p w w1) (k : w1.grownBy w' (some b)) (hb : p b ∨ w.heap.size ≤ b) : Gs p w w' :=
  ⟨k.os.trans h.os, k.tape.trans h.tape, k.output.trans h.output, Nat.le_trans h.size k.size, fun i hi hp => (k.block i (Nat.lt_of_lt_of_le hi h.size) (by
    intro e
    cases e
    rcases hb with hb | hb
    · exact hp hb
    · omega)).trans (h.block i hi hp)⟩
theorem Gs.bel (h : Gs p w w1) (k : Below w1.heap.size w1 w') : Gs p w w' :=
  ⟨k.os.trans h.os, k.tape.trans h.tape, k.output.trans h.output, Nat.le_trans h.size k.size, fun i hi hp => (k.block i (Nat.lt_of_lt_of_le hi h.size)).trans (h.block i hi hp)⟩
theorem Gs.of_below (p : Nat → Prop) (k : Below w.heap.size w w') : Gs p w w' := (Gs.refl p w).bel k
theorem Gs.below (h : Gs p w w') {B : Nat} {w0 : World} (h0 : Below B w0 w) (hB : B ≤ w.heap.size) (hp : ∀ i, p i → B ≤ i) : Below B w0 w' :=
  ⟨h.os.trans h0.os, h.tape.trans h0.tape, h.output.trans h0.output, Nat.le_trans h0.size h.size, fun i hi => (h.block i (by omega) (fun e => by have := hp i e; omega)).trans (h0.block i hi)⟩
theorem Gs.mono {q : Nat → Prop} (h : Gs p w w') (hq : ∀ i, i < w.heap.size → p i → q i) : Gs q w w' := ⟨h.os, h.tape, h.output, h.size, fun i hi hn => h.block i hi (fun e => hn (hq i hi e))⟩
end
theorem names_take {L : List OB} {j : Nat} {p : OB} (b : ByteArray) (hp : L[j]? = some p) : namesL (L.take (j + 1)) b = namesL (L.take j) b ++ (if begins b p.n = true then [p.n] else []) := by
  rw [List.take_add_one, hp, namesL, namesL, Option.toList_some, List.filter_append, List.map_append]
  congr 1
  by_cases h : begins b p.n = true <;> simp [h]
theorem names_len (L : List OB) (b : ByteArray) : (namesL L b).length ≤ L.length := by
  rw [namesL, List.length_map]
  exact List.length_filter_le _ _
end Go.Proofs.YtiecoplfiahpnaaGreat

namespace Go.Proofs.YtiecoplfiahpnaaGreat
open Go.RowKit Go.Lib

section
variable {α : Type} {f : α → List Value} {k : Nat}
theorem flat_len (hk : ∀ x, (f x).length = k) : ∀ l : List α, (l.flatMap f).length = l.length * k
  | [] => by simp
  | x :: r => by rw [List.flatMap_cons, List.length_append, hk, flat_len hk r, List.length_cons, Nat.add_mul, Nat.one_mul, Nat.add_comm]
theorem flat_get (hk : ∀ x, (f x).length = k) : ∀ (l : List α) (i j : Nat), j < k → (l.flatMap f)[i * k + j]? = l[i]?.bind fun x => (f x)[j]?
  | [], i, j, _ => by simp
  | x :: r, 0, j, hj => by
    rw [List.flatMap_cons, List.getElem?_append_left (by rw [hk]; omega)]
    simp
  | x :: r, i + 1, j, hj => by
    rw [List.flatMap_cons, List.getElem?_append_right (by rw [hk, Nat.add_mul, Nat.one_mul]; omega), hk, show (i + 1) * k + j - k = i * k + j from by rw [Nat.add_mul, Nat.one_mul]; omega, flat_get hk r i j hj]
    rfl
/-- Structs of k cells lie one behind the other. -/
def GS (f : α → List Value) (k : Nat) (w : World) (g o : Nat) (l : List α) : Prop := ∀ i x, l[i]? = some x → ∀ j u, (f x)[j]? = some u → w.cell? ⟨g, o + i * k + j, none⟩ = some u
/-- A list of structs in a block of one's own. -/
structure OW (f : α → List Value) (k : Nat) (T : TypeId) (B : Nat) (v : Value) (l : List α) (w : World) : Prop where
  own : w.ownsRow B T k v l.length (l.flatMap f)
/-- A list of structs that is read, in a block of r. -/
def LS (f : α → List Value) (k : Nat) (r : Nat → Prop) (w : World) (v : Value) (l : List α) : Prop :=
  ∃ a c, v = .slice a l.length c ∧ (a = none → c = 0) ∧ (l = [] ∨ ∃ g o, a = some ⟨g, o, none⟩ ∧ r g ∧ g < w.heap.size ∧ GS f k w g o l)
variable {T : TypeId} {B g o : Nat} {v : Value} {l m : List α} {w w' : World} {r r' p : Nat → Prop}
theorem GS.block (h : GS f k w g o l) (hb : w'.heap[g]? = w.heap[g]?) : GS f k w' g o l := fun i x hx j u hu => by
  have := h i x hx j u hu
  simp only [World.cell?, hb] at this ⊢
  exact this
theorem GS.cells (hk : ∀ x, (f x).length = k) (h0 : 0 < k) (h : GS f k w g o l) : ∀ j u, (l.flatMap f)[j]? = some u → w.cell? ((⟨g, o, none⟩ : Addr).add j) = some u := fun j u hu => by
  have e : j = j / k * k + j % k := by rw [Nat.mul_comm]; exact (Nat.div_add_mod j k).symm
  rw [e, flat_get hk _ _ _ (Nat.mod_lt _ h0)] at hu
  obtain ⟨x, hx, hu⟩ := Option.bind_eq_some_iff.1 hu
  have := h _ x hx _ u hu
  rw [Addr.add_mid, e, ← Nat.add_assoc]
  exact this
theorem OW.nil (f : α → List Value) (k : Nat) (T : TypeId) (B : Nat) (w : World) : OW f k T B (.slice none 0 0) [] w := ⟨World.ownsRow_nil w B T k⟩
theorem OW.empty (f : α → List Value) (k : Nat) (T : TypeId) (hB : B ≤ w.heap.size) : OW f k T B (.slice (some ⟨w.heap.size, 0, none⟩) 0 0) [] (w.alloc (.cells #[] T)) :=
  ⟨by simp, .inr ⟨_, 0, #[], rfl, hB, heap_alloc_new w _, Nat.le_refl _, by unfold maxLen; omega, by simp, by simp⟩⟩
theorem OW.shp (h : OW f k T B v l w) : ∃ a c, v = .slice a l.length c := by
  obtain ⟨h1, ⟨rfl, h2⟩ | ⟨g, cap, cur, rfl, _⟩⟩ := h.own
  · rw [h2]; exact ⟨_, _, rfl⟩
  · exact ⟨_, _, rfl⟩
theorem OW.kb (h : OW f k T B v l w) (hk : ∀ i, v.ownBlock = some i → w'.heap[i]? = w.heap[i]?) : OW f k T B v l w' := by
  refine ⟨h.own.1, ?_⟩
  rcases h.own.2 with h2 | ⟨g, cap, cur, e, hB, hg, r⟩
  · exact .inl h2
  · exact .inr ⟨g, cap, cur, e, hB, (hk g (by rw [e]; rfl)).trans hg, r⟩
theorem OW.lt (h : OW f k T B v l w) (b : Nat) (hb : v.ownBlock = some b) : B ≤ b ∧ b < w.heap.size := by
  obtain ⟨h1, ⟨rfl, h2⟩ | ⟨g, cap, cur, rfl, hB, hg, _⟩⟩ := h.own
  · simp [Value.ownBlock] at hb
  · simp only [Value.ownBlock, Option.some.injEq] at hb
    subst hb
    exact ⟨hB, lt_of_block hg⟩
theorem OW.typ (h : OW f k T B v l w) (b : Nat) (hb : v.ownBlock = some b) : ∃ cs, w.heap[b]? = some (.cells cs T (0, 0)) := by
  obtain ⟨h1, ⟨rfl, h2⟩ | ⟨g, cap, cur, rfl, hB, hg, _⟩⟩ := h.own
  · simp [Value.ownBlock] at hb
  · simp only [Value.ownBlock, Option.some.injEq] at hb
    subst hb
    exact ⟨_, hg⟩
theorem OW.keep (h : OW f k T B v l w) (hb : Below w.heap.size w w') : OW f k T B v l w' := h.kb fun i hi => hb.block i (h.lt i hi).2
theorem OW.low {B' : Nat} (h : OW f k T B v l w) (hB : B' ≤ B) : OW f k T B' v l w := by
  refine ⟨h.own.1, ?_⟩
  rcases h.own.2 with h2 | ⟨g, cap, cur, e, hg, r⟩
  · exact .inl h2
  · exact .inr ⟨g, cap, cur, e, Nat.le_trans hB hg, r⟩
theorem OW.ls (hk : ∀ x, (f x).length = k) (h : OW f k T B v l w) (hr : ∀ i, v.ownBlock = some i → r i) : LS f k r w v l := by
  obtain ⟨h1, ⟨rfl, h2⟩ | ⟨g, cap, cur, rfl, hB, hg, hn, _, hs, ht⟩⟩ := h.own
  · rw [List.length_eq_zero_iff.1 h2]
    exact ⟨none, 0, rfl, fun _ => rfl, .inl rfl⟩
  · refine ⟨_, _, rfl, (fun e => by cases e), .inr ⟨g, 0, rfl, hr g rfl, lt_of_block hg, fun i x hx j u hu => ?_⟩⟩
    have hj : j < k := by rw [← hk x]; exact (List.getElem?_eq_some_iff.1 hu).1
    have hl : i < l.length := (List.getElem?_eq_some_iff.1 hx).1
    have e0 : (l.flatMap f)[i * k + j]? = some u := by rw [flat_get hk l i j hj, hx]; exact hu
    have hlt : i * k + j < l.length * k := by
      have := Nat.mul_le_mul_right k (show i + 1 ≤ l.length from hl)
      rw [Nat.add_mul, Nat.one_mul] at this
      omega
    rw [← ht, List.getElem?_take, if_pos hlt] at e0
    rw [Nat.zero_add, cell_of_row w g _ _ _ _ hg]
    simpa using e0
theorem LS.shp (h : LS f k r w v l) : ∃ a c, v = .slice a l.length c := by obtain ⟨a, c, e, _⟩ := h; exact ⟨a, c, e⟩
theorem LS.kb (h : LS f k r w v l) (hs : w.heap.size ≤ w'.heap.size) (hb : ∀ i, r i → i < w.heap.size → w'.heap[i]? = w.heap[i]?) : LS f k r w' v l := by
  obtain ⟨a, c, e, h1, h2 | ⟨g, o, ea, hr, hg, hG⟩⟩ := h
  · exact ⟨a, c, e, h1, .inl h2⟩
  · exact ⟨a, c, e, h1, .inr ⟨g, o, ea, hr, Nat.lt_of_lt_of_le hg hs, hG.block (hb g hr hg)⟩⟩
theorem LS.bel (h : LS f k r w v l) (hb : Below w.heap.size w w') : LS f k r w' v l := h.kb hb.size fun i _ hi => hb.block i hi
theorem LS.gs (h : LS f k r w v l) (hg : Gs p w w') (hp : ∀ i, r i → ¬ p i) : LS f k r w' v l := h.kb hg.size fun i hr hi => hg.block i hi (hp i hr)
theorem LS.mono (h : LS f k r w v l) (hr : ∀ i, r i → r' i) : LS f k r' w v l := by
  obtain ⟨a, c, e, h1, h2 | ⟨g, o, ea, h3, h4⟩⟩ := h
  · exact ⟨a, c, e, h1, .inl h2⟩
  · exact ⟨a, c, e, h1, .inr ⟨g, o, ea, hr g h3, h4⟩⟩
theorem LS.old (h : LS f k r w v l) : LS f k (fun i => r i ∧ i < w.heap.size) w v l := by
  obtain ⟨a, c, e, h1, h2 | ⟨g, o, ea, h3, h4, h5⟩⟩ := h
  · exact ⟨a, c, e, h1, .inl h2⟩
  · exact ⟨a, c, e, h1, .inr ⟨g, o, ea, ⟨h3, h4⟩, h4, h5⟩⟩
/-- A list appended whole. -/
theorem OW.app {ST : TypeId} {z : Value} {by_ : Nat} (hk : ∀ x, (f x).length = k) (h0 : 0 < k) (h1 : ∀ x ∈ m, ∀ u ∈ f x, u.oneCell' = true) (hu : Tryz.prog.underlying ST = some (.slice T)) (hinf : (Tryz.prog.info? T).map (fun i => (i.zero, i.size, i.bytes)) = some (some z, k, by_)) (hz : z.cells.size = k)
    (h : OW f k T B v l w) {vs : Value} (hS : LS f k r w vs m) (hb : (l.length + m.length) * by_ ≤ 140737488355328) (hm : l.length + m.length ≤ 9223372036854775807) (hB : B ≤ w.heap.size) :
    ∃ v' w', (Builtin.append_ #[ST, ST] ST #[v, vs]).run Tryz.prog w = .ok v' w' ∧ OW f k T B v' (l ++ m) w' ∧ w.grownBy w' v.ownBlock ∧ (v'.ownBlock = v.ownBlock ∨ v'.ownBlock = some w.heap.size) := by
  obtain ⟨i0, hi, hz0, hz1, hz2⟩ := info_parts hinf
  obtain ⟨a, c, rfl, hc, hC⟩ := hS
  rcases a with _ | a
  · have hc := hc rfl
    subst hc
    have hm0 : m = [] := by
      rcases hC with h | ⟨_, _, h, _⟩
      · exact h
      · cases h
    subst hm0
    exact ⟨v, w, run_append_owned_none (P := Tryz.prog) (w := w) B _ _ _ i0 k hu hi v l.length (l.flatMap f) h.own, by rw [List.append_nil]; exact h, World.grownBy.refl _ _, .inl rfl⟩
  · obtain ⟨v', w', h1, h2, h3, _, h5⟩ := run_append_own_at (P := Tryz.prog) w B ST ST T i0 z k by_ hu hi hz0 hz1 hz2 hz h0 v l.length (l.flatMap f) h.own a m.length c (m.flatMap f) (flat_len hk m) (fun j u hj => by
      rcases hC with rfl | ⟨g, o, ea, _, _, hG⟩
      · simp at hj
      · cases ea
        exact hG.cells hk h0 j u hj) (fun u hu => by obtain ⟨x, hm, hx⟩ := List.mem_flatMap.1 hu; exact h1 x hm u hx) (by unfold maxLen; omega) hb hB
    exact ⟨v', w', h1, ⟨by rw [List.length_append, List.flatMap_append]; exact h2⟩, h3, h5⟩
/-- One struct, laid in a block of its own, is a list. -/
theorem LS.one (x : α) (T : TypeId) (w : World) (f : α → List Value) (k : Nat) (r : Nat → Prop) (hr : r w.heap.size) : LS f k r (w.alloc (.cells (f x).toArray T)) (.slice (some ⟨w.heap.size, 0, none⟩) 1 1) [x] := by
  refine ⟨_, _, rfl, (fun e => by cases e), .inr ⟨_, 0, rfl, hr, by simp, fun i y hy j u hu => ?_⟩⟩
  have hi : i = 0 := by
    have := (List.getElem?_eq_some_iff.1 hy).1
    simp at this
    exact this
  subst hi
  simp at hy
  subst hy
  rw [Nat.zero_mul, Nat.zero_add, cell_of_row _ _ _ _ _ _ (heap_alloc_new w _)]
  simpa using hu
end
end Go.Proofs.YtiecoplfiahpnaaGreat

namespace Go.Proofs.YtiecoplfiahpnaaGreat
open Go.RowKit Go.Lib Go.Maps Go.MapKept Go.ChangeMaps
open Go.WideElems (Fit)

/-- How an object of the map reads. -/
def obE (v : Value) : Option (DataW Unit × List MemPlace) :=
  match v with
  | .agg cs => match cs.toList with
    | [.string s] => if s.size ≤ maxLen then some (.agg [.lit (.string s.data.toList)], []) else none
    | _ => none
  | _ => none
def obD (d : ByteArray) : DataW Unit := .agg [.lit (.string d.data.toList)]
theorem obE_mk {s : ByteArray} (h : s.size ≤ maxLen) : obE (.agg #[.string s]) = some (obD s, []) := by
  show (if s.size ≤ maxLen then _ else _) = _
  rw [if_pos h]; rfl
theorem obE_inv {v : Value} {z : DataW Unit × List MemPlace} (h : obE v = some z) : ∃ s : ByteArray, v = .agg #[.string s] ∧ z = (obD s, []) ∧ s.size ≤ maxLen := by
  unfold obE at h
  split at h
  · rename_i cs
    split at h
    · rename_i s e
      split at h
      · rename_i hs
        cases h
        exact ⟨s, by rw [show cs = #[.string s] from Array.toList_inj.1 e], rfl, hs⟩
      · cases h
    · cases h
  · cases h
theorem obD_inj {a b : ByteArray} (h : obD a = obD b) : a = b := by
  simp only [obD, DataW.agg.injEq, List.cons.injEq, DataW.lit.injEq, Lit.string.injEq, and_true] at h
  exact ByteArray.ext (Array.toList_inj.1 h)
theorem name_inj {x : List UInt8} {s : ByteArray} (h : Lit.string x = .string s.data.toList) : x = s.data.toList := by cases h; rfl

theorem tight {H : Type} {P : Program} {k : TypeId} {R : Value → Option (DataW H × List MemPlace)} {w : World} {b n : Nat} {D : DataW H} (h : w.ownsMap P k R b n D) : w.ownsMap P k R b (Maps.size D) D := by
  obtain ⟨es, clock, hb, F, hs, rfl⟩ := h
  refine ⟨es, clock, hb, F, ?_, rfl⟩
  show es.size ≤ List.length _
  rw [length_sorted]
  simp

/-- A map of objects at a block. -/
def MO (w : World) (b : Nat) (L : List OB) : Prop := w.ownsMap Tryz.prog 9 obE b L.length (datL obD L)
theorem Tryz.zeroObj (w : World) : (zeroValue 184).run Tryz.prog w = .ok (.agg #[.string ⟨#[]⟩]) w := by
  have h : Tryz.t184.zero = some (.agg #[.string ⟨#[]⟩]) := by kernel_rfl
  simp [zeroValue, h, Result.andThen, go_sem]
section
variable {w w' : World} {b : Nat} {L : List OB}
theorem MO.lt (h : MO w b L) : b < w.heap.size := World.ownsMap.lt h
theorem MO.kept (h : MO w b L) {row : Option Nat} (hg : w.grownBy w' row) (hn : some b ≠ row) : MO w' b L := World.ownsMap.kept h hg hn
theorem MO.below (h : MO w b L) {B : Nat} (hb : Below B w w') (hB : b < B) : MO w' b L := by
  obtain ⟨es, clock, hm, r⟩ := h
  exact ⟨es, clock, (hb.block b hB).trans hm, r⟩
theorem MO.gs (h : MO w b L) {p : Nat → Prop} (hg : Gs p w w') (hn : ¬ p b) : MO w' b L := by
  have hl := h.lt
  obtain ⟨es, clock, hm, r⟩ := h
  exact ⟨es, clock, (hg.block b hl hn).trans hm, r⟩
theorem MO.notCells (h : MO w b L) {c : Array Value} {T : TypeId} {fr : Nat × Nat} (hc : w.heap[b]? = some (.cells c T fr)) : False := by
  obtain ⟨es, clock, hm, r⟩ := h
  rw [hm] at hc; cases hc
theorem MO.made (w : World) : MO (w.alloc (.map #[] 0)) w.heap.size [] := World.ownsMap_made w Tryz.prog 9 obE
theorem MO.set (h : MO w b L) {a : Addr} (ha : b ≠ a.block) (u : Value) : MO (w.setCell a u) b L := World.ownsMap.setCell h ha u
/-- What is looked up. -/
theorem MO.look (h : MO w b L) {n : ByteArray} (hn : n.size ≤ maxLen) : (Instr.lookup 74 (.map (some b)) (.string n) true).run Tryz.prog w = .ok (.tuple #[.agg #[.string ((thr L n).getD ⟨#[]⟩)], .bool (thr L n).isSome]) w := by
  obtain ⟨v, ps, hrun, hv⟩ := World.ownsMap.look_ok h (string_keyed Tryz.underlying9) Tryz.underlying74 (Tryz.zeroObj w) (zd := obD ⟨#[]⟩) (zp := []) (obE_mk (Nat.zero_le _)) (WideMaps.keyOf_string_mk Tryz.underlying9 hn)
  rw [dat_has] at hrun
  rw [dat_at] at hv
  obtain ⟨s, rfl, hz, _⟩ := obE_inv hv
  have e : s = (thr L n).getD ⟨#[]⟩ := by
    have := congrArg Prod.fst hz
    cases ht : thr L n with
    | none => rw [ht] at this; exact (obD_inj this).symm
    | some d => rw [ht] at this; exact (obD_inj this).symm
  rw [← e]
  exact hrun
/-- One is put. -/
theorem MO.put (h : MO w b L) (hL : Ris L) {n d : ByteArray} (hn : n.size ≤ maxLen) (hd : d.size ≤ maxLen) (hl : L.length ≤ 1000000) :
    ∃ w', (Instr.mapUpdate 74 (.map (some b)) (.string n) (.agg #[.string d])).run Tryz.prog w = .ok () w' ∧ MO w' b (layL L n d) ∧ w.grownBy w' (some b) ∧ w'.heap.size = w.heap.size := by
  obtain ⟨w', hrun, ho, hg⟩ := World.ownsMap.store h (string_keyed Tryz.underlying9) Tryz.underlying74 (by unfold maxLen; omega) (WideMaps.keyOf_string_mk Tryz.underlying9 hn) (obE_mk hd)
  rw [dat_put obD hL] at ho
  have := tight ho
  rw [dat_size] at this
  refine ⟨w', hrun, this, hg.grown, ?_⟩
  obtain ⟨es, clock, es', clock', hb, rfl⟩ := hg
  simp [setBlock]
/-- One goes. -/
theorem MO.del (h : MO w b L) (hL : Ris L) {n : ByteArray} (hn : n.size ≤ maxLen) (ty : TypeId) :
    ∃ w', (Builtin.delete_ #[74, 9] ty #[.map (some b), .string n]).run Tryz.prog w = .ok (.tuple #[]) w' ∧ MO w' b (delL L n) ∧ w.grownBy w' (some b) ∧ w'.heap.size = w.heap.size := by
  obtain ⟨w', hrun, ho, hg⟩ := World.ownsMap.drop h (string_keyed Tryz.underlying9) Tryz.underlying74 (WideMaps.keyOf_string_mk Tryz.underlying9 hn) ty
  rw [dat_del obD hL] at ho
  have := tight ho
  rw [dat_size] at this
  refine ⟨w', hrun, this, hg.grown, ?_⟩
  obtain ⟨es, clock, es', clock', hb, rfl⟩ := hg
  simp [setBlock]
/-- All go. -/
theorem MO.clear (h : MO w b L) (ty : TypeId) :
    ∃ w', (Builtin.clear_ #[74] ty #[.map (some b)]).run Tryz.prog w = .ok (.tuple #[]) w' ∧ MO w' b [] ∧ w.grownBy w' (some b) ∧ w'.heap.size = w.heap.size := by
  obtain ⟨es, clock, hb, F, hs, hD⟩ := h
  refine ⟨setBlock w b (.map #[] clock), ?_, ⟨#[], clock, heap_setBlock_same hb _, ⟨by simp, ?_, by simp⟩, Nat.le_refl _, rfl⟩, ⟨rfl, rfl, rfl, by simp [setBlock], fun i _ hi => heap_setBlock_other hb _ (fun e => hi (by rw [e]))⟩, by simp [setBlock]⟩
  · simp [Builtin.clear_, run_underlying Tryz.underlying74, MapKept.run_getObj_map hb, MapKept.run_setObj_map _ hb, Result.andThen, setBlock]
  · exact stamped_empty clock
end

/-- A store of the program. -/
structure PS (w : World) (b mb : Nat) (q f : Int) (dn : Bool) (cl : Int) (L : List OB) : Prop where
  blk : w.heap[b]? = some (.cells #[.map (some mb), .int .i64 ((usedL L : Nat) : Int), .int .i64 q, .int .i64 f, .bool dn, .int .i64 cl] 81 (0, 0))
  map : MO w mb L
  ris : Ris L
  small : ∀ p ∈ L, p.n.size ≤ 96 ∧ p.d.size ≤ 131072
section
variable {w w' : World} {b mb : Nat} {q f : Int} {dn : Bool} {cl : Int} {L : List OB}
theorem PS.lt (h : PS w b mb q f dn cl L) : b < w.heap.size := lt_of_block h.blk
theorem PS.mlt (h : PS w b mb q f dn cl L) : mb < w.heap.size := h.map.lt
theorem PS.ne (h : PS w b mb q f dn cl L) : mb ≠ b := fun e => by
  have := h.map
  rw [e] at this
  exact this.notCells h.blk
theorem PS.cell0 (h : PS w b mb q f dn cl L) : w.cell? ⟨b, 0, none⟩ = some (.map (some mb)) := by simp [World.cell?, h.blk]
theorem PS.cell1 (h : PS w b mb q f dn cl L) : w.cell? ⟨b, 1, none⟩ = some (.int .i64 ((usedL L : Nat) : Int)) := by simp [World.cell?, h.blk]
theorem PS.cell2 (h : PS w b mb q f dn cl L) : w.cell? ⟨b, 2, none⟩ = some (.int .i64 q) := by simp [World.cell?, h.blk]
theorem PS.cell3 (h : PS w b mb q f dn cl L) : w.cell? ⟨b, 3, none⟩ = some (.int .i64 f) := by simp [World.cell?, h.blk]
theorem PS.cell4 (h : PS w b mb q f dn cl L) : w.cell? ⟨b, 4, none⟩ = some (.bool dn) := by simp [World.cell?, h.blk]
theorem PS.cell5 (h : PS w b mb q f dn cl L) : w.cell? ⟨b, 5, none⟩ = some (.int .i64 cl) := by simp [World.cell?, h.blk]
theorem PS.free (h : PS w b mb q f dn cl L) (j : Nat) : w.frozen? ⟨b, j, none⟩ = false := by simp [World.frozen?, h.blk]
theorem PS.below (h : PS w b mb q f dn cl L) {B : Nat} (hb : Below B w w') (hB : w.heap.size ≤ B) : PS w' b mb q f dn cl L :=
  ⟨(hb.block b (Nat.lt_of_lt_of_le h.lt hB)).trans h.blk, h.map.below hb (Nat.lt_of_lt_of_le h.mlt hB), h.ris, h.small⟩
theorem PS.drew (h : PS w b mb q f dn cl L) : PS w.drew b mb q f dn cl L := ⟨h.blk, h.map, h.ris, h.small⟩
theorem PS.bel (h : PS w b mb q f dn cl L) (hb : Below w.heap.size w w') : PS w' b mb q f dn cl L := h.below hb (Nat.le_refl _)
theorem PS.gs (h : PS w b mb q f dn cl L) {p : Nat → Prop} (hg : Gs p w w') (h1 : ¬ p b) (h2 : ¬ p mb) : PS w' b mb q f dn cl L :=
  ⟨(hg.block b h.lt h1).trans h.blk, h.map.gs hg h2, h.ris, h.small⟩
theorem PS.set2 (h : PS w b mb q f dn cl L) (x : Int) : PS (w.setCell ⟨b, 2, none⟩ (.int .i64 x)) b mb x f dn cl L := ⟨heap_set_self h.blk, h.map.set h.ne _, h.ris, h.small⟩
theorem PS.set3 (h : PS w b mb q f dn cl L) (x : Int) : PS (w.setCell ⟨b, 3, none⟩ (.int .i64 x)) b mb q x dn cl L := ⟨heap_set_self h.blk, h.map.set h.ne _, h.ris, h.small⟩
theorem PS.set4 (h : PS w b mb q f dn cl L) (x : Bool) : PS (w.setCell ⟨b, 4, none⟩ (.bool x)) b mb q f x cl L := ⟨heap_set_self h.blk, h.map.set h.ne _, h.ris, h.small⟩
theorem PS.set5 (h : PS w b mb q f dn cl L) (x : Int) : PS (w.setCell ⟨b, 5, none⟩ (.int .i64 x)) b mb q f dn x L := ⟨heap_set_self h.blk, h.map.set h.ne _, h.ris, h.small⟩
end
/-- The two blocks of a store. -/
def two (b mb : Nat) (i : Nat) : Prop := i = b ∨ i = mb
theorem Gs.set {p : Nat → Prop} {w w1 : World} (h : Gs p w w1) {a : Addr} (ha : p a.block ∨ w.heap.size ≤ a.block) (u : Value) : Gs p w (w1.setCell a u) :=
  ⟨h.os, h.tape, h.output, by simp [World.setCell]; exact h.size, fun i hi hp => (Below.heap_setCell _ _ _ _ (by
    intro e
    rcases ha with ha | ha
    · rw [← e] at ha; exact hp ha
    · omega)).trans (h.block i hi hp)⟩
theorem Gs.ofd (p : Nat → Prop) {w w1 : World} (h : Below w.drew.heap.size w.drew w1) : Gs p w w1 := ⟨h.os, h.tape, h.output, h.size, fun i hi _ => h.block i hi⟩
theorem used_bound {L : List OB} (h : ∀ p ∈ L, p.n.size ≤ 96 ∧ p.d.size ≤ 131072) : usedL L ≤ L.length * 131168 := by
  induction L with
  | nil => exact Nat.le_refl _
  | cons p r ih =>
    have h1 := h p List.mem_cons_self
    have h2 := ih (fun q hq => h q (List.mem_cons_of_mem _ hq))
    rw [usedL, List.length_cons]
    omega
theorem small_lay {L : List OB} (h : ∀ p ∈ L, p.n.size ≤ 96 ∧ p.d.size ≤ 131072) {n d : ByteArray} (hn : n.size ≤ 96) (hd : d.size ≤ 131072) : ∀ p ∈ layL L n d, p.n.size ≤ 96 ∧ p.d.size ≤ 131072 := fun p hp => by
  rcases mem_lay hp with rfl | hp
  · exact ⟨hn, hd⟩
  · exact h p hp
theorem small_del {L : List OB} (h : ∀ p ∈ L, p.n.size ≤ 96 ∧ p.d.size ≤ 131072) (n : ByteArray) : ∀ p ∈ delL L n, p.n.size ≤ 96 ∧ p.d.size ≤ 131072 := fun p hp => h p (mem_del hp)
theorem len_lay (L : List OB) (n d : ByteArray) : (layL L n d).length ≤ L.length + 1 := by
  induction L with
  | nil => simp [layL]
  | cons p r ih =>
    rw [layL]
    split
    · simp; exact ih
    · split <;> simp
theorem len_del (L : List OB) (n : ByteArray) : (delL L n).length ≤ L.length := by
  induction L with
  | nil => simp [delL]
  | cons p r ih =>
    rw [delL]
    split
    · simp
    · simp; exact ih
theorem thr_small {L : List OB} (h : ∀ p ∈ L, p.n.size ≤ 96 ∧ p.d.size ≤ 131072) {n d : ByteArray} (ht : thr L n = some d) : n.size ≤ 96 ∧ d.size ≤ 131072 := by
  induction L with
  | nil => cases ht
  | cons p r ih =>
    rw [thr] at ht
    split at ht
    · rename_i e
      cases ht
      have := h p List.mem_cons_self
      rw [e] at this
      exact this
    · exact ih (fun q hq => h q (List.mem_cons_of_mem _ hq)) ht
theorem sz_small {L : List OB} (h : ∀ p ∈ L, p.n.size ≤ 96 ∧ p.d.size ≤ 131072) (n : ByteArray) : szO n (thr L n) ≤ 131168 := by
  cases ht : thr L n with
  | none => exact Nat.zero_le _
  | some d =>
    have := thr_small h ht
    show n.size + d.size ≤ _
    omega
end Go.Proofs.YtiecoplfiahpnaaGreat

namespace Go.Proofs.YtiecoplfiahpnaaGreat
open Go.RowKit Go.Lib Go.Maps

/-- A request in plain terms. -/
structure QT where
  st : Int
  k : Int
  n : ByteArray
  d : ByteArray
def q4 (q : QT) : List Value := [.int .i64 q.st, .int .i64 q.k, .string q.n, .string q.d]
theorem q4_len (q : QT) : (q4 q).length = 4 := rfl
theorem q4_one (q : QT) : ∀ u ∈ q4 q, u.oneCell' = true := by intro u hu; simp [q4] at hu; rcases hu with rfl | rfl | rfl | rfl <;> rfl

def putAll (cs : Array Value) : Nat → List Value → Array Value
  | _, [] => cs
  | o, v :: r => putAll (cs.setIfInBounds o v) (o + 1) r
theorem setCells_self {T : TypeId} {b : Nat} {fr : Nat × Nat} : ∀ (vs : List Value) (o : Nat) (w : World) (cs : Array Value), w.heap[b]? = some (.cells cs T fr) → (w.setCells b o vs).heap[b]? = some (.cells (putAll cs o vs) T fr)
  | [], _, _, _, h => h
  | v :: r, o, w, cs, h => by rw [World.setCells, putAll]; exact setCells_self r _ _ _ (heap_set_self h)
theorem Gs.cells {p : Nat → Prop} {w : World} {b : Nat} : ∀ (vs : List Value) (o : Nat) (w1 : World), Gs p w w1 → (p b ∨ w.heap.size ≤ b) → Gs p w (w1.setCells b o vs)
  | [], _, _, h, _ => h
  | v :: r, o, w1, h, hb => by rw [World.setCells]; exact Gs.cells r _ _ (h.set (a := ⟨b, o, none⟩) hb v) hb
theorem Gs.set1 {w w1 : World} {b : Nat} (h : Gs (fun i => i = b) w w1) (j : Nat) (u : Value) : Gs (fun i => i = b) w (w1.setCell ⟨b, j, none⟩ u) := h.set (a := ⟨b, j, none⟩) (.inl rfl) u
theorem store_run {t T : TypeId} {b o : Nat} {w : World} {cs : Array Value} (h : w.heap[b]? = some (.cells cs T (0, 0))) (vs : Array Value) (ho : o + vs.size ≤ cs.size) (hi : (Tryz.prog.info? t).map (·.size) = some vs.size) (h1 : vs.all (·.oneCell') = true) :
    (Instr.storeAt t (.pointer (some ⟨b, o, none⟩)) (.agg vs)).run Tryz.prog w = .ok () (w.setCells b o vs.toList) :=
  run_storeAt_mid (P := Tryz.prog) w b o t vs (fun j hj => ⟨by rw [World.cell?]; simp only [h]; rw [Array.getElem?_eq_getElem (by omega)]; rfl, by simp [World.frozen?, h]⟩) hi h1

theorem store1_run {t T : TypeId} {b j : Nat} {w : World} {cs : Array Value} (h : w.heap[b]? = some (.cells cs T (0, 0))) (hj : j < cs.size) (hi : (Tryz.prog.info? t).map (·.size) = some 1) {v : Value} (hv : ∃ a n c, v = .slice a n c) :
    (Instr.storeAt t (.pointer (some ⟨b, j, none⟩)) v).run Tryz.prog w = .ok () (w.setCell ⟨b, j, none⟩ v) := by
  obtain ⟨a, n, c, rfl⟩ := hv
  have hc : w.cell? ⟨b, j, none⟩ = some cs[j] := by simp [World.cell?, h, Array.getElem?_eq_getElem hj]
  have hf : w.frozen? ⟨b, j, none⟩ = false := by simp [World.frozen?, h]
  cases hq : Tryz.prog.info? t with
  | none => simp [hq] at hi
  | some i =>
    have hs : i.size = 1 := by simpa [hq] using hi
    simp [Instr.storeAt, Instr.sureAddr, storeVar, sizeOf, typeInfo, hq, hs, Value.cells, storeCells, Addr.add_mid, run_store_slice, stored, hc, hf]
/-- A store that was reckoned ahead. -/
theorem wpList_store_run {ops : Array Oper} {rest : List Oper} {op : Oper} {a : Act} {w w1 : World} {Q : Exit → Act → World → Prop} (hgd : op.guard = none) (ty : TypeId) (x y : Operand) (ho : op.op = .store ty x y)
    (p v : Value) (hx : a.eval x = p) (hy : a.eval y = v) (hr : (Instr.storeAt ty p v).run Tryz.prog w = .ok () w1)
    (h : wpList Tryz.prog ops Q rest (a.put op.dst undef) w1) : wpList Tryz.prog ops Q (op :: rest) a w :=
  wpList_plain hgd fun _ hK => by
    unfold Oper.wp execOp
    simp only [ho, hx, hy, Sem.run_bind, Sem.run_pure, Result.andThen_ok, hr]
    exact hK _ _ h
/-- A function value against nil. -/
theorem fn_eqIn {T : TypeId} {A R : Array TypeId} {v : Bool} (d : Nat) (hu : Tryz.prog.underlying T = some (.func A R v)) (w : World) (fn : Fn) (fi ca : Array Value) : (Op.equalIn (d + 1) T (.func fn fi ca) .nilFunc).run Tryz.prog w = .ok false w := by
  simp [Op.equalIn, run_underlying hu]
theorem nil_eqIn {T : TypeId} {A R : Array TypeId} {v : Bool} (d : Nat) (hu : Tryz.prog.underlying T = some (.func A R v)) (w : World) : (Op.equalIn (d + 1) T .nilFunc .nilFunc).run Tryz.prog w = .ok true w := by
  simp [Op.equalIn, run_underlying hu]
theorem fn_eq {T : TypeId} {A R : Array TypeId} {v : Bool} (hu : Tryz.prog.underlying T = some (.func A R v)) (w : World) (fn : Fn) (fi ca : Array Value) : (Op.equal T (.func fn fi ca) .nilFunc).run Tryz.prog w = .ok false w := fn_eqIn 9999 hu w fn fi ca
theorem nil_eq {T : TypeId} {A R : Array TypeId} {v : Bool} (hu : Tryz.prog.underlying T = some (.func A R v)) (w : World) : (Op.equal T .nilFunc .nilFunc).run Tryz.prog w = .ok true w := nil_eqIn 9999 hu w
/-- The four comparisons, as a walk asks them. -/
structure FE (T : TypeId) : Prop where
  n1 : ∀ w fn fi ca, (binOp .neq T (.func fn fi ca) .nilFunc).run Tryz.prog w = .ok (.bool true) w
  n0 : ∀ w, (binOp .neq T .nilFunc .nilFunc).run Tryz.prog w = .ok (.bool false) w
  e1 : ∀ w fn fi ca, (binOp .eql T (.func fn fi ca) .nilFunc).run Tryz.prog w = .ok (.bool false) w
  e0 : ∀ w, (binOp .eql T .nilFunc .nilFunc).run Tryz.prog w = .ok (.bool true) w
theorem FE.of {T : TypeId} {A R : Array TypeId} {v : Bool} (hu : Tryz.prog.underlying T = some (.func A R v)) : FE T :=
  ⟨fun w fn fi ca => by simp [binOp, fn_eq hu], fun w => by simp [binOp, nil_eq hu], fun w fn fi ca => by simp [binOp, fn_eq hu], fun w => by simp [binOp, nil_eq hu]⟩
theorem fe47 : FE 98 := FE.of Tryz.underlying98
theorem fe72 : FE 61 := FE.of Tryz.underlying61
theorem fe79 : FE 113 := FE.of Tryz.underlying113

/-- A job: open, the request, what is to be done, code, number, names, texts, steps. -/
def JB (w : World) (b : Nat) (op : Bool) (st k : Int) (n d : ByteArray) (go : Value) (c N : Int) (ids tx : Value) (s : Int) : Prop :=
  w.heap[b]? = some (.cells #[.bool op, .int .i64 st, .int .i64 k, .string n, .string d, go, .int .i64 c, .string ⟨#[]⟩, .int .i64 N, ids, tx, .slice none 0 0, .slice none 0 0, .int .i64 s] 102 (0, 0))
section
variable {w w' : World} {b : Nat} {op : Bool} {st k c N s : Int} {n d : ByteArray} {go ids tx : Value}
theorem JB.lt (h : JB w b op st k n d go c N ids tx s) : b < w.heap.size := lt_of_block h
theorem JB.bel (h : JB w b op st k n d go c N ids tx s) (hb : Below w.heap.size w w') : JB w' b op st k n d go c N ids tx s := (hb.block b h.lt).trans h
theorem JB.gs {p : Nat → Prop} (h : JB w b op st k n d go c N ids tx s) (hb : Gs p w w') (hp : ¬ p b) : JB w' b op st k n d go c N ids tx s := (hb.block b h.lt hp).trans h
theorem JB.cell (h : JB w b op st k n d go c N ids tx s) (j : Nat) : w.cell? ⟨b, j, none⟩ = (#[.bool op, .int .i64 st, .int .i64 k, .string n, .string d, go, .int .i64 c, .string ⟨#[]⟩, .int .i64 N, ids, tx, .slice none 0 0, .slice none 0 0, .int .i64 s] : Array Value)[j]? := by
  rw [World.cell?]; simp only [show w.heap[b]? = _ from h]; rfl
theorem JB.free (h : JB w b op st k n d go c N ids tx s) (j : Nat) : w.frozen? ⟨b, j, none⟩ = false := by simp [World.frozen?, show w.heap[b]? = _ from h]

set_option maxRecDepth 100000 in
theorem isOpen_any (h : JB w b op st k n d go c N ids tx s) :
    Calls Tryz.prog 86 #[.pointer (some ⟨b, 0, none⟩)] w fun e w' => e = .returned (.bool op) ∧ w' = w := by
  have y0 : w.cell? ⟨b, 0, none⟩ = some (.bool op) := h.cell 0
  go_enter Tryz.func86, Tryz.ntmps86
  go_wp2
  go_ret
  exact ⟨rfl, rfl⟩
set_option maxRecDepth 100000 in
theorem settle_on {fn : Fn} {fi ca : Array Value} (h : JB w b op st k n d (.func fn fi ca) c N ids tx s) :
    Calls Tryz.prog 47 #[.pointer (some ⟨b, 0, none⟩)] w fun e w' => e = .returned (.tuple #[]) ∧ JB w' b true st k n d (.func fn fi ca) c N ids tx s ∧ Gs (fun i => i = b) w w' := by
  have y0 : w.cell? ⟨b, 0, none⟩ = some (.bool op) := h.cell 0
  have y5 : w.cell? ⟨b, 5, none⟩ = some (.func fn fi ca) := h.cell 5
  have f0 := h.free 0
  obtain ⟨g1, g2, _, _⟩ := fe47
  go_enter Tryz.func47, Tryz.ntmps47
  go_wp2
  go_end0
  exact ⟨rfl, heap_set_self h, (Gs.refl _ _).set1 _ _⟩
set_option maxRecDepth 100000 in
theorem settle_off (h : JB w b op st k n d .nilFunc c N ids tx s) :
    Calls Tryz.prog 47 #[.pointer (some ⟨b, 0, none⟩)] w fun e w' => e = .returned (.tuple #[]) ∧ JB w' b false st k n d .nilFunc c N ids tx s ∧ Gs (fun i => i = b) w w' := by
  have y0 : w.cell? ⟨b, 0, none⟩ = some (.bool op) := h.cell 0
  have y5 : w.cell? ⟨b, 5, none⟩ = some .nilFunc := h.cell 5
  have f0 := h.free 0
  obtain ⟨g1, g2, _, _⟩ := fe47
  go_enter Tryz.func47, Tryz.ntmps47
  go_wp2
  go_end0
  exact ⟨rfl, heap_set_self h, (Gs.refl _ _).set1 _ _⟩
set_option maxRecDepth 100000 in
theorem over_any (h : JB w b op st k n d go c N ids tx s) :
    Calls Tryz.prog 77 #[.pointer (some ⟨b, 0, none⟩)] w fun e w' => e = .returned (.bool !op) ∧ w' = w := by
  have y0 : w.cell? ⟨b, 0, none⟩ = some (.bool op) := h.cell 0
  go_enter Tryz.func77, Tryz.ntmps77
  go_wp2
  go_ret
  exact ⟨rfl, rfl⟩
set_option maxRecDepth 100000 in
theorem steps_any (h : JB w b op st k n d go c N ids tx s) :
    Calls Tryz.prog 28 #[.pointer (some ⟨b, 0, none⟩)] w fun e w' => e = .returned (.int .i64 s) ∧ w' = w := by
  have y0 : w.cell? ⟨b, 13, none⟩ = some (.int .i64 s) := h.cell 13
  go_enter Tryz.func28, Tryz.ntmps28
  go_wp2
  go_ret
  exact ⟨rfl, rfl⟩
end
end Go.Proofs.YtiecoplfiahpnaaGreat

namespace Go.Proofs.YtiecoplfiahpnaaGreat
open Go.RowKit Go.Lib Go.Maps
theorem Tryz.sizeQ : (Tryz.prog.info? 65).map (·.size) = some 4 := by kernel_rfl
theorem Tryz.sizeIO : (Tryz.prog.info? 100).map (·.size) = some 13 := by kernel_rfl
section
variable {w w' : World} {b : Nat} {op : Bool} {st k c N s : Int} {n d : ByteArray} {go ids tx : Value}
set_option maxRecDepth 100000 in
set_option maxHeartbeats 1600000 in
theorem ask_any (h : JB w b true st k n d .nilFunc c N ids tx s) (st' k' : Int) (n' d' : ByteArray) (fn : Fn) (fi ca : Array Value) :
    Calls Tryz.prog 122 #[.pointer (some ⟨b, 0, none⟩), .agg #[.int .i64 st', .int .i64 k', .string n', .string d'], .func fn fi ca] w fun e w' => e = .returned (.tuple #[]) ∧ JB w' b true st' k' n' d' (.func fn fi ca) c N ids tx s ∧ Gs (fun i => i = b) w w' := by
  obtain ⟨U, hU⟩ : ∃ U, U = w.alloc (.cells #[.int .i64 st', .int .i64 k', .string n', .string d'] 65) := ⟨_, rfl⟩
  have hBU : Below w.heap.size w U := by rw [hU]; exact (Below.refl _ _).alloc (Nat.le_refl _) _
  have hJ : JB U b true st k n d .nilFunc c N ids tx s := h.bel hBU
  have y5 : U.cell? ⟨b, 5, none⟩ = some .nilFunc := hJ.cell 5
  have hq : U.heap[w.heap.size]? = some (.cells #[.int .i64 st', .int .i64 k', .string n', .string d'] 65 (0, 0)) := by rw [hU]; exact heap_alloc_new w _
  have r0 : U.cell? ⟨w.heap.size, 0, none⟩ = some (.int .i64 st') := by simp [World.cell?, hq]
  have r1 : U.cell? ⟨w.heap.size, 1, none⟩ = some (.int .i64 k') := by simp [World.cell?, hq]
  have r2 : U.cell? ⟨w.heap.size, 2, none⟩ = some (.string n') := by simp [World.cell?, hq]
  have r3 : U.cell? ⟨w.heap.size, 3, none⟩ = some (.string d') := by simp [World.cell?, hq]
  have hrun := store_run (t := 65) (o := 1) hJ #[.int .i64 st', .int .i64 k', .string n', .string d'] (Nat.le_of_ble_eq_true rfl) Tryz.sizeQ (by simp [Value.oneCell'])
  have HJ2 : JB (U.setCells b 1 [.int .i64 st', .int .i64 k', .string n', .string d']) b true st' k' n' d' .nilFunc c N ids tx s := setCells_self _ _ _ _ hJ
  have HG2 : Hid (Gs (fun i => i = b) w (U.setCells b 1 [.int .i64 st', .int .i64 k', .string n', .string d'])) := Gs.cells _ _ _ (Gs.of_below _ hBU) (.inl rfl)
  obtain ⟨V, hV⟩ : ∃ V, V = U.setCells b 1 [.int .i64 st', .int .i64 k', .string n', .string d'] := ⟨_, rfl⟩
  simp only [] at hrun
  rw [← hV] at hrun HJ2 HG2
  have z5 : V.cell? ⟨b, 5, none⟩ = some .nilFunc := HJ2.cell 5
  have zf : V.frozen? ⟨b, 5, none⟩ = false := HJ2.free 5
  have HJ := hide hJ
  have HU := hide hU
  have HJ3 := hide HJ2
  clear hJ hU HJ2 hV h hq hBU
  go_enter Tryz.func122, Tryz.ntmps122
  obtain ⟨g1, g2, g3, g4⟩ := fe47
  go_upto_region 1 with fail
  rw [← HU.out]
  go_wp2_with (first | (go_at_call 86; refine (isOpen_any HJ.out).mono ?_; rintro e w1 ⟨rfl, rfl⟩) | (refine wpList_store_run rfl 65 _ _ rfl _ _ rfl rfl hrun ?_))
  go_end0
  exact ⟨rfl, heap_set_self HJ3.out, HG2.out.set1 _ _⟩
set_option maxRecDepth 100000 in
set_option maxHeartbeats 1600000 in
theorem next_on {fn : Fn} {fi ca : Array Value} (h : JB w b op st k n d (.func fn fi ca) c N ids tx s) :
    Calls Tryz.prog 74 #[.pointer (some ⟨b, 0, none⟩)] w fun e w' => e = .returned (.tuple #[.agg #[.int .i64 st, .int .i64 k, .string n, .string d], .bool true]) ∧ Below w.heap.size w w' := by
  have hJ := h.bel ((Below.refl w.heap.size w).alloc (Nat.le_refl _) (.cells #[.int .i64 0, .int .i64 0, .string ⟨#[]⟩, .string ⟨#[]⟩] 65))
  have y1 : (w.alloc (.cells #[.int .i64 0, .int .i64 0, .string ⟨#[]⟩, .string ⟨#[]⟩] 65)).cell? ⟨b, 1, none⟩ = some (.int .i64 st) := hJ.cell 1
  have y2 : (w.alloc (.cells #[.int .i64 0, .int .i64 0, .string ⟨#[]⟩, .string ⟨#[]⟩] 65)).cell? ⟨b, 2, none⟩ = some (.int .i64 k) := hJ.cell 2
  have y3 : (w.alloc (.cells #[.int .i64 0, .int .i64 0, .string ⟨#[]⟩, .string ⟨#[]⟩] 65)).cell? ⟨b, 3, none⟩ = some (.string n) := hJ.cell 3
  have y4 : (w.alloc (.cells #[.int .i64 0, .int .i64 0, .string ⟨#[]⟩, .string ⟨#[]⟩] 65)).cell? ⟨b, 4, none⟩ = some (.string d) := hJ.cell 4
  have y5 : (w.alloc (.cells #[.int .i64 0, .int .i64 0, .string ⟨#[]⟩, .string ⟨#[]⟩] 65)).cell? ⟨b, 5, none⟩ = some ((.func fn fi ca)) := hJ.cell 5
  have z5 : (w.alloc (.cells #[.int .i64 st, .int .i64 k, .string n, .string d] 65)).cell? ⟨b, 5, none⟩ = some ((.func fn fi ca)) := (h.bel ((Below.refl w.heap.size w).alloc (Nat.le_refl _) (.cells #[.int .i64 st, .int .i64 k, .string n, .string d] 65))).cell 5
  obtain ⟨g1, g2, g3, g4⟩ := fe47
  clear hJ h
  go_enter Tryz.func74, Tryz.ntmps74
  go_upto_region 1 with fail
  go_region
  go_wp2
  exact bodyPost_ret (v := .tuple #[.agg #[.int .i64 st, .int .i64 k, .string n, .string d], .bool true]) (by simp [results, Tryz.results74, go_sem]) rfl ⟨rfl, (Below.refl _ _).drew.alloc (Nat.le_refl _) _⟩
set_option maxRecDepth 100000 in
set_option maxHeartbeats 1600000 in
theorem next_off (h : JB w b op st k n d .nilFunc c N ids tx s) :
    Calls Tryz.prog 74 #[.pointer (some ⟨b, 0, none⟩)] w fun e w' => e = .returned (.tuple #[.agg #[.int .i64 st, .int .i64 k, .string n, .string d], .bool false]) ∧ Below w.heap.size w w' := by
  have hJ := h.bel ((Below.refl w.heap.size w).alloc (Nat.le_refl _) (.cells #[.int .i64 0, .int .i64 0, .string ⟨#[]⟩, .string ⟨#[]⟩] 65))
  have y1 : (w.alloc (.cells #[.int .i64 0, .int .i64 0, .string ⟨#[]⟩, .string ⟨#[]⟩] 65)).cell? ⟨b, 1, none⟩ = some (.int .i64 st) := hJ.cell 1
  have y2 : (w.alloc (.cells #[.int .i64 0, .int .i64 0, .string ⟨#[]⟩, .string ⟨#[]⟩] 65)).cell? ⟨b, 2, none⟩ = some (.int .i64 k) := hJ.cell 2
  have y3 : (w.alloc (.cells #[.int .i64 0, .int .i64 0, .string ⟨#[]⟩, .string ⟨#[]⟩] 65)).cell? ⟨b, 3, none⟩ = some (.string n) := hJ.cell 3
  have y4 : (w.alloc (.cells #[.int .i64 0, .int .i64 0, .string ⟨#[]⟩, .string ⟨#[]⟩] 65)).cell? ⟨b, 4, none⟩ = some (.string d) := hJ.cell 4
  have y5 : (w.alloc (.cells #[.int .i64 0, .int .i64 0, .string ⟨#[]⟩, .string ⟨#[]⟩] 65)).cell? ⟨b, 5, none⟩ = some (.nilFunc) := hJ.cell 5
  have z5 : (w.alloc (.cells #[.int .i64 st, .int .i64 k, .string n, .string d] 65)).cell? ⟨b, 5, none⟩ = some (.nilFunc) := (h.bel ((Below.refl w.heap.size w).alloc (Nat.le_refl _) (.cells #[.int .i64 st, .int .i64 k, .string n, .string d] 65))).cell 5
  obtain ⟨g1, g2, g3, g4⟩ := fe47
  clear hJ h
  go_enter Tryz.func74, Tryz.ntmps74
  go_upto_region 1 with fail
  go_region
  go_wp2
  exact bodyPost_ret (v := .tuple #[.agg #[.int .i64 st, .int .i64 k, .string n, .string d], .bool false]) (by simp [results, Tryz.results74, go_sem]) rfl ⟨rfl, (Below.refl _ _).drew.alloc (Nat.le_refl _) _⟩
end
end Go.Proofs.YtiecoplfiahpnaaGreat

namespace Go.Proofs.YtiecoplfiahpnaaGreat
open Go.RowKit Go.Lib

set_option maxRecDepth 100000 in
set_option maxHeartbeats 800000 in
theorem rname_any (n : ByteArray) (w : World) (hs : n.size ≤ 9223372036854775807) : Calls Tryz.prog 125 #[.string n] w fun e w' => e = .returned (.bool (mayB n)) ∧ w' = w := by
  by_cases h0 : n.size = 0
  · have e0 : n = ⟨#[]⟩ := ByteArray.ext (Array.eq_empty_of_size_eq_zero h0)
    subst e0
    go_enter Tryz.func125, Tryz.ntmps125
    go_wp2
    go_ret
    exact ⟨rfl, rfl⟩
  have hne : ¬ n.toList = [] := by rw [bytes_list]; intro e; exact h0 (by have := congrArg List.length e; simpa using this)
  have hne2 : n.toList.isEmpty = false := by simpa using hne
  by_cases h1 : (96 : Int) < (n.size : Int)
  · have hm : mayB n = false := by rw [mayB, decide_eq_false (show ¬ n.size ≤ 96 by omega)]; simp
    rw [hm]
    go_enter Tryz.func125, Tryz.ntmps125
    go_wp2
    go_ret
    exact ⟨rfl, rfl⟩
  have hmb : mayB n = n.data.toList.all okB := by rw [mayB, decide_eq_true (show 1 ≤ n.size by omega), decide_eq_true (show n.size ≤ 96 by omega)]; simp
  obtain ⟨V, hV⟩ : ∃ V, V = mayB n := ⟨_, rfl⟩
  rw [← hV]
  have HV := hide (hV.trans hmb)
  clear hmb hV
  go_enter Tryz.func125, Tryz.ntmps125
  go_wp2
  go_loop [3] (fun i => ∃ j : Nat, j ≤ n.size ∧ i = .int .i64 j ∧ (n.data.toList.take j).all okB = true) (fun i => n.size - (intOf i).toNat)
  case atStart => exact ⟨0, Nat.zero_le _, rfl, rfl⟩
  case round =>
    obtain ⟨j, hj, rfl, hA⟩ := hrel
    by_cases hlt : j < n.size
    · have HA := hide hA
      have HT := hide (take_snoc n j hlt)
      have HM : Hid (n[j] ∈ n.data.toList) := List.getElem_mem (l := n.data.toList) (n := j) (by simpa using hlt)
      clear hA
      by_cases h2 : n[j].toNat ≤ 32
      · have hf : Hid (n.data.toList.all okB = false) := by
          show n.data.toList.all okB = false
          rw [List.all_eq_false]
          exact ⟨n[j], HM.out, by rw [okB, decide_eq_false (by omega)]; simp⟩
        have hz : (n[j].toNat : Int) ≤ 32 := by omega
        go_wp2
        go_ret
        exact ⟨by rw [HV.out.trans hf.out]; rfl, rfl⟩
      by_cases h3 : 127 ≤ n[j].toNat
      · have hf : Hid (n.data.toList.all okB = false) := by
          show n.data.toList.all okB = false
          rw [List.all_eq_false]
          exact ⟨n[j], HM.out, by rw [okB, decide_eq_false (show ¬ n[j].toNat < 127 by omega)]; simp⟩
        have hz : ¬ (n[j].toNat : Int) ≤ 32 := by omega
        have hz2 : (127 : Int) ≤ (n[j].toNat : Int) := by omega
        go_wp2
        go_ret
        exact ⟨by rw [HV.out.trans hf.out]; rfl, rfl⟩
      have hz : ¬ (n[j].toNat : Int) ≤ 32 := by omega
      have hz2 : ¬ (127 : Int) ≤ (n[j].toNat : Int) := by omega
      have HN : Hid ((n.data.toList.take (j + 1)).all okB = true) := by
        show (n.data.toList.take (j + 1)).all okB = true
        rw [HT.out, List.all_append, HA.out, List.all_cons, okB, decide_eq_true (by omega), decide_eq_true (by omega)]
        rfl
      clear HT HA HM
      go_wp2
      go_round
      case rel => exact ⟨j + 1, by omega, by go_num, HN.out⟩
      case measure => simp [intOf]; omega
    · obtain rfl : j = n.size := by omega
      have hf : Hid (n.data.toList.all okB = true) := by
        show n.data.toList.all okB = true
        rw [← hA, List.take_of_length_le (by simp)]
      go_wp2
      go_ret
      exact ⟨by rw [HV.out.trans hf.out]; rfl, rfl⟩
end Go.Proofs.YtiecoplfiahpnaaGreat

namespace Go.Proofs.YtiecoplfiahpnaaGreat
open Go.RowKit Go.Lib

/-- A list of objects lies in memory. -/
def OL (w : World) (v : Value) (L : List OB) : Prop :=
  ∃ a c, v = .slice a L.length c ∧ (L = [] ∨ ∃ g o, a = some ⟨g, o, none⟩ ∧ g < w.heap.size ∧ ∀ i p, L[i]? = some p → w.cell? ⟨g, o + i * 2, none⟩ = some (.string p.n) ∧ w.cell? ⟨g, o + i * 2 + 1, none⟩ = some (.string p.d))
/-- The document's store at a block. -/
def RSt (w : World) (b : Nat) (q f m : Int) (off : Bool) (v : Value) : Prop := w.heap[b]? = some (.cells #[.int .i64 q, .int .i64 f, .int .i64 m, .bool off, v] 45 (0, 0))
section
variable {w w' : World} {b : Nat} {q f m : Int} {off : Bool} {v : Value} {L : List OB}
theorem RSt.lt (h : RSt w b q f m off v) : b < w.heap.size := by
  have : w.heap[b]? = _ := h
  exact (Array.getElem?_eq_some_iff.1 this).1
theorem RSt.cell4 (h : RSt w b q f m off v) : w.cell? ⟨b, 4, none⟩ = some v := by simp [World.cell?, show w.heap[b]? = _ from h]
theorem RSt.below (h : RSt w b q f m off v) {B : Nat} (hb : Below B w w') (hB : b < B) : RSt w' b q f m off v := (hb.block b hB).trans h
theorem OL.below (h : OL w v L) {B : Nat} (hb : Below B w w') (hB : w.heap.size ≤ B) : OL w' v L := by
  obtain ⟨a, c, e, h | ⟨g, o, ea, hg, hC⟩⟩ := h
  · exact ⟨a, c, e, .inl h⟩
  · exact ⟨a, c, e, .inr ⟨g, o, ea, Nat.lt_of_lt_of_le hg hb.size, fun i p hp => ⟨(hb.cell (p := ⟨g, o + i * 2, none⟩) (Nat.lt_of_lt_of_le hg hB)).trans (hC i p hp).1, (hb.cell (p := ⟨g, o + i * 2 + 1, none⟩) (Nat.lt_of_lt_of_le hg hB)).trans (hC i p hp).2⟩⟩⟩
end
theorem pos_lt_some {L : List OB} {n : ByteArray} {j : Nat} (h : j < pos L n) : ∃ p, L[j]? = some p ∧ bl p.n n = true := by
  have hl : j < L.length := Nat.lt_of_lt_of_le h (pos_le L n)
  exact ⟨L[j], List.getElem?_eq_getElem hl, pos_before h (List.getElem?_eq_getElem hl)⟩

set_option maxRecDepth 100000 in
set_option maxHeartbeats 800000 in
theorem rfind_any {w : World} {b : Nat} {q f m : Int} {off : Bool} {v : Value} {L : List OB} (n : ByteArray) (hR : RSt w b q f m off v) (hO : OL w v L) (hl : L.length ≤ 1000000) (hL : Ris L) :
    Calls Tryz.prog 99 #[.pointer (some ⟨b, 0, none⟩), .string n] w fun e w' => e = .returned (.tuple #[.int .i64 ((pos L n : Nat) : Int), .bool (thr L n).isSome]) ∧ Below w.heap.size w w' := by
  obtain ⟨N, hN⟩ : ∃ N, N = L.length := ⟨_, rfl⟩
  obtain ⟨a, c, rfl, hO⟩ := hO
  have y4 := hR.cell4
  rw [← hN] at y4
  obtain ⟨P, hP⟩ : ∃ P, P = pos L n := ⟨_, rfl⟩
  obtain ⟨B, hB⟩ : ∃ B, B = (thr L n).isSome := ⟨_, rfl⟩
  rw [← hP, ← hB]
  have HO := hide hO
  have HN := hide hN
  have HP := hide hP
  have HBt := hide (hB.trans (by rw [pos_thr hL n]))
  have hPN : P ≤ N := by rw [hP, hN]; exact pos_le L n
  have hNl : N ≤ 1000000 := by rw [hN]; exact hl
  clear hO hN hP hB hR hL
  go_enter Tryz.func99, Tryz.ntmps99
  go_wp2
  go_loop [6] (fun i => ∃ j : Nat, j ≤ P ∧ i = .int .i64 j) (fun i => P - (intOf i).toNat)
  case atStart => exact ⟨0, Nat.zero_le _, rfl⟩
  case round =>
    obtain ⟨j, hj, rfl⟩ := hrel
    by_cases hlt : j < P
    · have b1 : (j : Int) < (N : Int) := by omega
      have b0 : (0 : Int) ≤ (j : Int) := by omega
      obtain ⟨p, hp, hb⟩ := pos_lt_some (L := L) (n := n) (j := j) (by rw [← HP.out]; exact hlt)
      obtain ⟨g, o, rfl, hg, hC⟩ := HO.out.resolve_left (by intro e; rw [e] at hp; simp at hp)
      have z0 := (hC j p hp).1
      have hs := less_fact hb
      clear hC hp hb
      go_wp2
      go_round
      case rel => exact ⟨j + 1, by omega, by go_num⟩
      case measure => simp [intOf]; omega
    · obtain rfl : j = P := by omega
      by_cases hN2 : j = N
      · subst hN2
        have hBf : B = false := by
          rw [HBt.out, ← HP.out, HN.out, List.getElem?_eq_none (Nat.le_refl _)]
          rfl
        subst hBf
        go_upto_region 4 with fail
        go_region
        go_wp2
        go_ret2
        exact ⟨rfl, (Below.refl _ _).drew⟩
      · have b1 : (j : Int) < (N : Int) := by omega
        have b0 : (0 : Int) ≤ (j : Int) := by omega
        have hjl : j < L.length := by rw [← HN.out]; omega
        obtain ⟨p, hp⟩ : ∃ p, L[j]? = some p := ⟨_, List.getElem?_eq_getElem hjl⟩
        obtain ⟨g, o, rfl, hg, hC⟩ := HO.out.resolve_left (by intro e; rw [e] at hp; simp at hp)
        have z0 := (hC j p hp).1
        have hs := less_fact (pos_at (L := L) (n := n) (by rw [← HP.out]; exact hp))
        have hBe : B = decide (p.n = n) := by
          rw [HBt.out, ← HP.out, hp]
          by_cases e : p.n = n
          · simp [e]
          · simp [e]
        have ht : (p.n.toList == n.toList) = B := by rw [hBe]; exact test_eq _ _
        have HBe := hide hBe
        clear hC hp hBe
        go_upto_region 4 with fail
        go_region
        go_wp2
        go_ret2
        exact ⟨rfl, (Below.refl _ _).drew⟩

set_option maxRecDepth 100000 in
set_option maxHeartbeats 800000 in
theorem rused_any {w : World} {b : Nat} {q f m : Int} {off : Bool} {v : Value} {L : List OB} (hR : RSt w b q f m off v) (hO : OL w v L) (hl : L.length ≤ 1000000) (hU : usedL L ≤ 1000000000000) :
    Calls Tryz.prog 15 #[.pointer (some ⟨b, 0, none⟩)] w fun e w' => e = .returned (.int .i64 ((usedL L : Nat) : Int)) ∧ Below w.heap.size w w' := by
  obtain ⟨N, hN⟩ : ∃ N, N = L.length := ⟨_, rfl⟩
  have HN := hide hN
  have HR := hide hR
  have HO := hide hO
  have hNl : N ≤ 1000000 := by rw [hN]; exact hl
  have HM : Hid (∀ j, usedL (L.take j) ≤ usedL L) := fun j => used_take_le L j
  clear hN hR hO
  go_enter Tryz.func15, Tryz.ntmps15
  go_wp2
  go_loopw [3, 4] (fun s i wr => ∃ j : Nat, j ≤ N ∧ i = .int .i64 j ∧ s = .int .i64 ((usedL (L.take j) : Nat) : Int) ∧ Below w.heap.size w wr) (fun _ i _ => N - (intOf i).toNat)
  case atStart => exact ⟨0, Nat.zero_le _, rfl, rfl, Below.refl _ _⟩
  case round =>
    obtain ⟨j, hj, rfl, rfl, hb⟩ := hrel
    have HB := hide hb
    have y4 := (HR.out.below hb HR.out.lt).cell4
    obtain ⟨a, c, rfl, hC⟩ := HO.out.below hb (Nat.le_refl _)
    rw [← HN.out] at y4
    clear hb
    by_cases hlt : j < N
    · have b1 : (j : Int) < (N : Int) := by omega
      have b0 : (0 : Int) ≤ (j : Int) := by omega
      have hjl : j < L.length := by rw [← HN.out]; omega
      obtain ⟨p, hp⟩ : ∃ p, L[j]? = some p := ⟨_, List.getElem?_eq_getElem hjl⟩
      obtain ⟨g, o, rfl, hg, hC⟩ := hC.resolve_left (by intro e; rw [e] at hp; simp at hp)
      obtain ⟨z0, z1⟩ := hC j p hp
      have HS := hide (used_take hp)
      have h1 := HM.out (j + 1)
      rw [HS.out] at h1
      generalize usedL (L.take j) = u at *
      have HB2 := hide HB.out.drew
      clear hC hp
      go_upto_region 5 with fail
      go_region
      go_wp2
      exact ⟨⟨j + 1, by omega, by go_num, by rw [HS.out]; go_num, HB2.out⟩, by simp [intOf]; omega⟩
    · obtain rfl : j = N := by omega
      have e : usedL (L.take j) = usedL L := by rw [HN.out, List.take_length]
      rw [e]
      clear e
      go_wp2
      go_ret
      exact ⟨rfl, HB.out⟩
end Go.Proofs.YtiecoplfiahpnaaGreat
