/-
  What the texts of a store share: names, texts of one's own, what is turned.
-/
import Derived.Test.YtkcefdiiibbflaaRows
import Derived.Test.YtkcefdiiibbflaaStMath
import Derived.WalkKit
import Derived.WalkSpells
import Derived.WalkLawsBesides
import Derived.Below
import Derived.Laws.OwnMore
import Derived.Laws.LoneSync
import Derived.Lib.VarintMem
import Derived.Lib.SliceRun
import Derived.Lib.AppendZeros
import Derived.BigRegion
import Derived.Maps.AppendAt
import Derived.Maps.RangeWalk
import Derived.Maps.OwnSet
import Derived.Deep.RegionHeld3
import Derived.Deep.RegionHeldLaw
import Derived.Deep.DeepCutAuto
import Derived.Deep.CutBlock
namespace Go.Proofs.Ytkcefdiiibbflaa
open Go.RowKit Go.Lib Go.Maps

theorem hide {p : Prop} (h : p) : Hid p := h
theorem take_snoc (s : ByteArray) (k : Nat) (h : k < s.size) : s.data.toList.take (k + 1) = s.data.toList.take k ++ [s[k]] := by
  have hk : k < s.data.toList.length := by simpa using h
  rw [List.take_add_one, List.getElem?_eq_getElem hk]
  rfl
theorem bytes_list (x : ByteArray) : x.toList = x.data.toList := ByteArray.toList_eq x
theorem test_eq (x y : ByteArray) : (x.toList == y.toList) = decide (x = y) := by
  by_cases e : x = y
  · subst e; simp
  · rw [decide_eq_false e, bytes_list, bytes_list, beq_eq_false_iff_ne]
    exact list_ne e
theorem test_less (x y : ByteArray) : Op.bytesLess x.toList y.toList = bl x y := by
  rw [bytes_list, bytes_list, less_before]; rfl

theorem less_fact {x y : ByteArray} {t : Bool} (h : bl x y = t) : Op.bytesLess x.toList y.toList = t := (test_less x y).trans h
/-- A byte that a name may have. -/
def okB (x : UInt8) : Bool := decide (32 < x.toNat) && decide (x.toNat < 127)
/-- May a name be? -/
def mayB (n : ByteArray) : Bool := decide (1 ≤ n.size) && decide (n.size ≤ 96) && n.data.toList.all okB

theorem below_step {w9 w' w'' : World} (h : Below w9.heap.size w9 w') (k : Below w'.heap.size w' w'') : Below w9.heap.size w9 w'' := h.trans (k.mono h.size)

theorem used_snoc (L : List OB) (p : OB) : usedL (L ++ [p]) = usedL L + (p.n.size + p.d.size) := by
  induction L with
  | nil => simp [usedL]
  | cons q r ih => simp only [List.cons_append, usedL, ih]; omega
theorem used_take_le : ∀ (L : List OB) (j : Nat), usedL (L.take j) ≤ usedL L
  | [], _ => by simp [usedL]
  | _ :: _, 0 => Nat.zero_le _
  | p :: r, j + 1 => by
    have := used_take_le r j
    rw [List.take_succ_cons, usedL, usedL]
    omega
theorem used_take {L : List OB} {j : Nat} {p : OB} (hp : L[j]? = some p) : usedL (L.take (j + 1)) = usedL (L.take j) + (p.n.size + p.d.size) := by
  rw [List.take_add_one, hp]
  exact used_snoc _ _

theorem Try.infoTx : (Try.prog.info? 9).map (fun i => (i.zero, i.size, i.bytes)) = some (some (.string ⟨#[]⟩), 1, 16) := by kernel_rfl
theorem info_parts {o : Option TypeInfo} {z : Option Value} {s b : Nat} (h : o.map (fun i => (i.zero, i.size, i.bytes)) = some (z, s, b)) : ∃ i, o = some i ∧ i.zero = z ∧ i.size = s ∧ i.bytes = b := by
  cases o with
  | none => cases h
  | some i =>
    simp only [Option.map_some, Option.some.injEq, Prod.mk.injEq] at h
    exact ⟨i, rfl, h⟩
def tc (l : List ByteArray) : List Value := l.map .string
/-- A list of texts in a block of one's own. -/
structure TS (B : Nat) (v : Value) (l : List ByteArray) (w : World) : Prop where
  own : w.ownsRow B 9 1 v l.length (tc l)
section
variable {B : Nat} {v : Value} {l : List ByteArray} {w w' : World}
theorem TS.nil (B : Nat) (w : World) : TS B (.slice none 0 0) [] w := ⟨World.ownsRow_nil w B 9 1⟩
theorem TS.shp (h : TS B v l w) : ∃ a c, v = .slice a l.length c := by
  obtain ⟨h1, ⟨rfl, h2⟩ | ⟨g, cap, cur, rfl, _⟩⟩ := h.own
  · rw [h2]; exact ⟨_, _, rfl⟩
  · exact ⟨_, _, rfl⟩
theorem TS.keep (h : TS B v l w) (hb : Below w.heap.size w w') : TS B v l w' := by
  refine ⟨h.own.1, ?_⟩
  rcases h.own.2 with h2 | ⟨g, cap, cur, e, hB, hg, r⟩
  · exact .inl h2
  · exact .inr ⟨g, cap, cur, e, hB, (hb.block g (lt_of_block hg)).trans hg, r⟩
theorem TS.lt (h : TS B v l w) (b : Nat) (hb : v.ownBlock = some b) : B ≤ b ∧ b < w.heap.size := by
  obtain ⟨h1, ⟨rfl, h2⟩ | ⟨g, cap, cur, rfl, hB, hg, _⟩⟩ := h.own
  · simp [Value.ownBlock] at hb
  · simp only [Value.ownBlock, Option.some.injEq] at hb
    subst hb
    exact ⟨hB, lt_of_block hg⟩
end
theorem heap_set_self {T : TypeId} {w : World} {b j : Nat} {u : Value} {c : Array Value} {fr : Nat × Nat} (h : w.heap[b]? = some (.cells c T fr)) : (w.setCell ⟨b, j, none⟩ u).heap[b]? = some (.cells (c.setIfInBounds j u) T fr) := by
  have hlt := lt_of_block h
  have h' : w.heap[b] = .cells c T fr := by simpa [Array.getElem?_eq_getElem hlt] using h
  show (w.heap.modify b _)[b]? = _
  rw [Array.getElem?_eq_getElem (by simpa using hlt), Array.getElem_modify_self, h']
  rfl
/-- Only these blocks are turned, and new memory. -/
structure Gs (p : Nat → Prop) (w w' : World) : Prop where
  os : w'.os = w.os
  tape : w'.tape = w.tape
  output : w'.output = w.output
  size : w.heap.size ≤ w'.heap.size
  block : ∀ i, i < w.heap.size → ¬ p i → w'.heap[i]? = w.heap[i]?
section
variable {p : Nat → Prop} {w w1 w' : World}
theorem Gs.refl (p : Nat → Prop) (w : World) : Gs p w w := ⟨rfl, rfl, rfl, Nat.le_refl _, fun _ _ _ => rfl⟩
theorem Gs.trans (h : Gs p w w1) (k : Gs p w1 w') : Gs p w w' :=
  ⟨k.os.trans h.os, k.tape.trans h.tape, k.output.trans h.output, Nat.le_trans h.size k.size, fun i hi hp => (k.block i (Nat.lt_of_lt_of_le hi h.size) hp).trans (h.block i hi hp)⟩
theorem Gs.gb {b : Nat} (h : Gs p w w1) (k : w1.grownBy w' (some b)) (hb : p b ∨ w.heap.size ≤ b) : Gs p w w' :=
  ⟨k.os.trans h.os, k.tape.trans h.tape, k.output.trans h.output, Nat.le_trans h.size k.size, fun i hi hp => (k.block i (Nat.lt_of_lt_of_le hi h.size) (by
    intro e
    cases e
    rcases hb with hb | hb
    · exact hp hb
    · omega)).trans (h.block i hi hp)⟩
theorem Gs.bel (h : Gs p w w1) (k : Below w1.heap.size w1 w') : Gs p w w' :=
  ⟨k.os.trans h.os, k.tape.trans h.tape, k.output.trans h.output, Nat.le_trans h.size k.size, fun i hi hp => (k.block i (Nat.lt_of_lt_of_le hi h.size)).trans (h.block i hi hp)⟩
theorem Gs.of_below (p : Nat → Prop) (k : Below w.heap.size w w') : Gs p w w' := (Gs.refl p w).bel k
theorem Gs.below (h : Gs p w w') {B : Nat} {w0 : World} (h0 : Below B w0 w) (hB : B ≤ w.heap.size) (hp : ∀ i, p i → B ≤ i) : Below B w0 w' :=
  ⟨h.os.trans h0.os, h.tape.trans h0.tape, h.output.trans h0.output, Nat.le_trans h0.size h.size, fun i hi => (h.block i (by omega) (fun e => by have := hp i e; omega)).trans (h0.block i hi)⟩
theorem Gs.mono {q : Nat → Prop} (h : Gs p w w') (hq : ∀ i, i < w.heap.size → p i → q i) : Gs q w w' := ⟨h.os, h.tape, h.output, h.size, fun i hi hn => h.block i hi (fun e => hn (hq i hi e))⟩
end
theorem names_take {L : List OB} {j : Nat} {p : OB} (b : ByteArray) (hp : L[j]? = some p) : namesL (L.take (j + 1)) b = namesL (L.take j) b ++ (if begins b p.n = true then [p.n] else []) := by
  rw [List.take_add_one, hp, namesL, namesL, Option.toList_some, List.filter_append, List.map_append]
  congr 1
  by_cases h : begins b p.n = true <;> simp [h]
theorem names_len (L : List OB) (b : ByteArray) : (namesL L b).length ≤ L.length := by
  rw [namesL, List.length_map]
  exact List.length_filter_le _ _
end Go.Proofs.Ytkcefdiiibbflaa
