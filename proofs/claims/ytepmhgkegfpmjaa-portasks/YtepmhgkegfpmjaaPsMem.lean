/-
  A store of the program in memory: its map of objects, its block.
-/
import Derived.Test.YtepmhgkegfpmjaaStKit
import Derived.StringKeys
namespace Go.Proofs.Ytepmhgkegfpmjaa
open Go.RowKit Go.Lib Go.Maps Go.MapKept Go.ChangeMaps
open Go.WideElems (Fit)

/-- How an object of the map reads. -/
def obE (v : Value) : Option (DataW Unit × List MemPlace) :=
  match v with
  | .agg cs => match cs.toList with
    | [.string s] => if s.size ≤ maxLen then some (.agg [.lit (.string s.data.toList)], []) else none
    | _ => none
  | _ => none
def obD (d : ByteArray) : DataW Unit := .agg [.lit (.string d.data.toList)]
theorem obE_mk {s : ByteArray} (h : s.size ≤ maxLen) : obE (.agg #[.string s]) = some (obD s, []) := by
  show (if s.size ≤ maxLen then _ else _) = _
  rw [if_pos h]; rfl
theorem obE_inv {v : Value} {z : DataW Unit × List MemPlace} (h : obE v = some z) : ∃ s : ByteArray, v = .agg #[.string s] ∧ z = (obD s, []) ∧ s.size ≤ maxLen := by
  unfold obE at h
  split at h
  · rename_i cs
    split at h
    · rename_i s e
      split at h
      · rename_i hs
        cases h
        exact ⟨s, by rw [show cs = #[.string s] from Array.toList_inj.1 e], rfl, hs⟩
      · cases h
    · cases h
  · cases h
theorem obD_inj {a b : ByteArray} (h : obD a = obD b) : a = b := by
  simp only [obD, DataW.agg.injEq, List.cons.injEq, DataW.lit.injEq, Lit.string.injEq, and_true] at h
  exact ByteArray.ext (Array.toList_inj.1 h)
theorem name_inj {x : List UInt8} {s : ByteArray} (h : Lit.string x = .string s.data.toList) : x = s.data.toList := by cases h; rfl

theorem tight {H : Type} {P : Program} {k : TypeId} {R : Value → Option (DataW H × List MemPlace)} {w : World} {b n : Nat} {D : DataW H} (h : w.ownsMap P k R b n D) : w.ownsMap P k R b (Maps.size D) D := by
  obtain ⟨es, clock, hb, F, hs, rfl⟩ := h
  refine ⟨es, clock, hb, F, ?_, rfl⟩
  show es.size ≤ List.length _
  rw [length_sorted]
  simp

/-- A map of objects at a block. -/
def MO (w : World) (b : Nat) (L : List OB) : Prop := w.ownsMap Try.prog 9 obE b L.length (datL obD L)
theorem Try.zeroObj (w : World) : (zeroValue 96).run Try.prog w = .ok (.agg #[.string ⟨#[]⟩]) w := by
  have h : Try.t96.zero = some (.agg #[.string ⟨#[]⟩]) := by kernel_rfl
  simp [zeroValue, h, Result.andThen, go_sem]
section
variable {w w' : World} {b : Nat} {L : List OB}
theorem MO.lt (h : MO w b L) : b < w.heap.size := World.ownsMap.lt h
theorem MO.kept (h : MO w b L) {row : Option Nat} (hg : w.grownBy w' row) (hn : some b ≠ row) : MO w' b L := World.ownsMap.kept h hg hn
theorem MO.below (h : MO w b L) {B : Nat} (hb : Below B w w') (hB : b < B) : MO w' b L := by
  obtain ⟨es, clock, hm, r⟩ := h
  exact ⟨es, clock, (hb.block b hB).trans hm, r⟩
theorem MO.gs (h : MO w b L) {p : Nat → Prop} (hg : Gs p w w') (hn : ¬ p b) : MO w' b L := by
  have hl := h.lt
  obtain ⟨es, clock, hm, r⟩ := h
  exact ⟨es, clock, (hg.block b hl hn).trans hm, r⟩
theorem MO.notCells (h : MO w b L) {c : Array Value} {T : TypeId} {fr : Nat × Nat} (hc : w.heap[b]? = some (.cells c T fr)) : False := by
  obtain ⟨es, clock, hm, r⟩ := h
  rw [hm] at hc; cases hc
theorem MO.made (w : World) : MO (w.alloc (.map #[] 0)) w.heap.size [] := World.ownsMap_made w Try.prog 9 obE
theorem MO.set (h : MO w b L) {a : Addr} (ha : b ≠ a.block) (u : Value) : MO (w.setCell a u) b L := World.ownsMap.setCell h ha u
/-- What is looked up. -/
theorem MO.look (h : MO w b L) {n : ByteArray} (hn : n.size ≤ maxLen) : (Instr.lookup 98 (.map (some b)) (.string n) true).run Try.prog w = .ok (.tuple #[.agg #[.string ((thr L n).getD ⟨#[]⟩)], .bool (thr L n).isSome]) w := by
  obtain ⟨v, ps, hrun, hv⟩ := World.ownsMap.look_ok h (string_keyed Try.underlying9) Try.underlying98 (Try.zeroObj w) (zd := obD ⟨#[]⟩) (zp := []) (obE_mk (Nat.zero_le _)) (WideMaps.keyOf_string_mk Try.underlying9 hn)
  rw [dat_has] at hrun
  rw [dat_at] at hv
  obtain ⟨s, rfl, hz, _⟩ := obE_inv hv
  have e : s = (thr L n).getD ⟨#[]⟩ := by
    have := congrArg Prod.fst hz
    cases ht : thr L n with
    | none => rw [ht] at this; exact (obD_inj this).symm
    | some d => rw [ht] at this; exact (obD_inj this).symm
  rw [← e]
  exact hrun
/-- One is put. -/
theorem MO.put (h : MO w b L) (hL : Ris L) {n d : ByteArray} (hn : n.size ≤ maxLen) (hd : d.size ≤ maxLen) (hl : L.length ≤ 1000000) :
    ∃ w', (Instr.mapUpdate 98 (.map (some b)) (.string n) (.agg #[.string d])).run Try.prog w = .ok () w' ∧ MO w' b (layL L n d) ∧ w.grownBy w' (some b) ∧ w'.heap.size = w.heap.size := by
  obtain ⟨w', hrun, ho, hg⟩ := World.ownsMap.store h (string_keyed Try.underlying9) Try.underlying98 (by unfold maxLen; omega) (WideMaps.keyOf_string_mk Try.underlying9 hn) (obE_mk hd)
  rw [dat_put obD hL] at ho
  have := tight ho
  rw [dat_size] at this
  refine ⟨w', hrun, this, hg.grown, ?_⟩
  obtain ⟨es, clock, es', clock', hb, rfl⟩ := hg
  simp [setBlock]
/-- One goes. -/
theorem MO.del (h : MO w b L) (hL : Ris L) {n : ByteArray} (hn : n.size ≤ maxLen) (ty : TypeId) :
    ∃ w', (Builtin.delete_ #[98, 9] ty #[.map (some b), .string n]).run Try.prog w = .ok (.tuple #[]) w' ∧ MO w' b (delL L n) ∧ w.grownBy w' (some b) ∧ w'.heap.size = w.heap.size := by
  obtain ⟨w', hrun, ho, hg⟩ := World.ownsMap.drop h (string_keyed Try.underlying9) Try.underlying98 (WideMaps.keyOf_string_mk Try.underlying9 hn) ty
  rw [dat_del obD hL] at ho
  have := tight ho
  rw [dat_size] at this
  refine ⟨w', hrun, this, hg.grown, ?_⟩
  obtain ⟨es, clock, es', clock', hb, rfl⟩ := hg
  simp [setBlock]
/-- All go. -/
theorem MO.clear (h : MO w b L) (ty : TypeId) :
    ∃ w', (Builtin.clear_ #[98] ty #[.map (some b)]).run Try.prog w = .ok (.tuple #[]) w' ∧ MO w' b [] ∧ w.grownBy w' (some b) ∧ w'.heap.size = w.heap.size := by
  obtain ⟨es, clock, hb, F, hs, hD⟩ := h
  refine ⟨setBlock w b (.map #[] clock), ?_, ⟨#[], clock, heap_setBlock_same hb _, ⟨by simp, ?_, by simp⟩, Nat.le_refl _, rfl⟩, ⟨rfl, rfl, rfl, by simp [setBlock], fun i _ hi => heap_setBlock_other hb _ (fun e => hi (by rw [e]))⟩, by simp [setBlock]⟩
  · simp [Builtin.clear_, run_underlying Try.underlying98, MapKept.run_getObj_map hb, MapKept.run_setObj_map _ hb, Result.andThen, setBlock]
  · exact stamped_empty clock
end

/-- A store of the program. -/
structure PS (w : World) (b mb : Nat) (q f : Int) (dn : Bool) (cl : Int) (L : List OB) : Prop where
  blk : w.heap[b]? = some (.cells #[.map (some mb), .int .i64 ((usedL L : Nat) : Int), .int .i64 q, .int .i64 f, .bool dn, .int .i64 cl] 105 (0, 0))
  map : MO w mb L
  ris : Ris L
  small : ∀ p ∈ L, p.n.size ≤ 96 ∧ p.d.size ≤ 131072
section
variable {w w' : World} {b mb : Nat} {q f : Int} {dn : Bool} {cl : Int} {L : List OB}
theorem PS.lt (h : PS w b mb q f dn cl L) : b < w.heap.size := lt_of_block h.blk
theorem PS.mlt (h : PS w b mb q f dn cl L) : mb < w.heap.size := h.map.lt
theorem PS.ne (h : PS w b mb q f dn cl L) : mb ≠ b := fun e => by
  have := h.map
  rw [e] at this
  exact this.notCells h.blk
theorem PS.cell0 (h : PS w b mb q f dn cl L) : w.cell? ⟨b, 0, none⟩ = some (.map (some mb)) := by simp [World.cell?, h.blk]
theorem PS.cell1 (h : PS w b mb q f dn cl L) : w.cell? ⟨b, 1, none⟩ = some (.int .i64 ((usedL L : Nat) : Int)) := by simp [World.cell?, h.blk]
theorem PS.cell2 (h : PS w b mb q f dn cl L) : w.cell? ⟨b, 2, none⟩ = some (.int .i64 q) := by simp [World.cell?, h.blk]
theorem PS.cell3 (h : PS w b mb q f dn cl L) : w.cell? ⟨b, 3, none⟩ = some (.int .i64 f) := by simp [World.cell?, h.blk]
theorem PS.cell4 (h : PS w b mb q f dn cl L) : w.cell? ⟨b, 4, none⟩ = some (.bool dn) := by simp [World.cell?, h.blk]
theorem PS.cell5 (h : PS w b mb q f dn cl L) : w.cell? ⟨b, 5, none⟩ = some (.int .i64 cl) := by simp [World.cell?, h.blk]
theorem PS.free (h : PS w b mb q f dn cl L) (j : Nat) : w.frozen? ⟨b, j, none⟩ = false := by simp [World.frozen?, h.blk]
theorem PS.below (h : PS w b mb q f dn cl L) {B : Nat} (hb : Below B w w') (hB : w.heap.size ≤ B) : PS w' b mb q f dn cl L :=
  ⟨(hb.block b (Nat.lt_of_lt_of_le h.lt hB)).trans h.blk, h.map.below hb (Nat.lt_of_lt_of_le h.mlt hB), h.ris, h.small⟩
theorem PS.drew (h : PS w b mb q f dn cl L) : PS w.drew b mb q f dn cl L := ⟨h.blk, h.map, h.ris, h.small⟩
theorem PS.bel (h : PS w b mb q f dn cl L) (hb : Below w.heap.size w w') : PS w' b mb q f dn cl L := h.below hb (Nat.le_refl _)
theorem PS.gs (h : PS w b mb q f dn cl L) {p : Nat → Prop} (hg : Gs p w w') (h1 : ¬ p b) (h2 : ¬ p mb) : PS w' b mb q f dn cl L :=
  ⟨(hg.block b h.lt h1).trans h.blk, h.map.gs hg h2, h.ris, h.small⟩
theorem PS.set2 (h : PS w b mb q f dn cl L) (x : Int) : PS (w.setCell ⟨b, 2, none⟩ (.int .i64 x)) b mb x f dn cl L := ⟨heap_set_self h.blk, h.map.set h.ne _, h.ris, h.small⟩
theorem PS.set3 (h : PS w b mb q f dn cl L) (x : Int) : PS (w.setCell ⟨b, 3, none⟩ (.int .i64 x)) b mb q x dn cl L := ⟨heap_set_self h.blk, h.map.set h.ne _, h.ris, h.small⟩
theorem PS.set4 (h : PS w b mb q f dn cl L) (x : Bool) : PS (w.setCell ⟨b, 4, none⟩ (.bool x)) b mb q f x cl L := ⟨heap_set_self h.blk, h.map.set h.ne _, h.ris, h.small⟩
theorem PS.set5 (h : PS w b mb q f dn cl L) (x : Int) : PS (w.setCell ⟨b, 5, none⟩ (.int .i64 x)) b mb q f dn x L := ⟨heap_set_self h.blk, h.map.set h.ne _, h.ris, h.small⟩
end
/-- The two blocks of a store. -/
def two (b mb : Nat) (i : Nat) : Prop := i = b ∨ i = mb
theorem Gs.set {p : Nat → Prop} {w w1 : World} (h : Gs p w w1) {a : Addr} (ha : p a.block ∨ w.heap.size ≤ a.block) (u : Value) : Gs p w (w1.setCell a u) :=
  ⟨h.os, h.tape, h.output, by simp [World.setCell]; exact h.size, fun i hi hp => (Below.heap_setCell _ _ _ _ (by
    intro e
    rcases ha with ha | ha
    · rw [← e] at ha; exact hp ha
    · omega)).trans (h.block i hi hp)⟩
theorem Gs.ofd (p : Nat → Prop) {w w1 : World} (h : Below w.drew.heap.size w.drew w1) : Gs p w w1 := ⟨h.os, h.tape, h.output, h.size, fun i hi _ => h.block i hi⟩
theorem used_bound {L : List OB} (h : ∀ p ∈ L, p.n.size ≤ 96 ∧ p.d.size ≤ 131072) : usedL L ≤ L.length * 131168 := by
  induction L with
  | nil => exact Nat.le_refl _
  | cons p r ih =>
    have h1 := h p List.mem_cons_self
    have h2 := ih (fun q hq => h q (List.mem_cons_of_mem _ hq))
    rw [usedL, List.length_cons]
    omega
theorem small_lay {L : List OB} (h : ∀ p ∈ L, p.n.size ≤ 96 ∧ p.d.size ≤ 131072) {n d : ByteArray} (hn : n.size ≤ 96) (hd : d.size ≤ 131072) : ∀ p ∈ layL L n d, p.n.size ≤ 96 ∧ p.d.size ≤ 131072 := fun p hp => by
  rcases mem_lay hp with rfl | hp
  · exact ⟨hn, hd⟩
  · exact h p hp
theorem small_del {L : List OB} (h : ∀ p ∈ L, p.n.size ≤ 96 ∧ p.d.size ≤ 131072) (n : ByteArray) : ∀ p ∈ delL L n, p.n.size ≤ 96 ∧ p.d.size ≤ 131072 := fun p hp => h p (mem_del hp)
theorem len_lay (L : List OB) (n d : ByteArray) : (layL L n d).length ≤ L.length + 1 := by
  induction L with
  | nil => simp [layL]
  | cons p r ih =>
    rw [layL]
    split
    · simp; exact ih
    · split <;> simp
theorem len_del (L : List OB) (n : ByteArray) : (delL L n).length ≤ L.length := by
  induction L with
  | nil => simp [delL]
  | cons p r ih =>
    rw [delL]
    split
    · simp
    · simp; exact ih
theorem thr_small {L : List OB} (h : ∀ p ∈ L, p.n.size ≤ 96 ∧ p.d.size ≤ 131072) {n d : ByteArray} (ht : thr L n = some d) : n.size ≤ 96 ∧ d.size ≤ 131072 := by
  induction L with
  | nil => cases ht
  | cons p r ih =>
    rw [thr] at ht
    split at ht
    · rename_i e
      cases ht
      have := h p List.mem_cons_self
      rw [e] at this
      exact this
    · exact ih (fun q hq => h q (List.mem_cons_of_mem _ hq)) ht
theorem sz_small {L : List OB} (h : ∀ p ∈ L, p.n.size ≤ 96 ∧ p.d.size ≤ 131072) (n : ByteArray) : szO n (thr L n) ≤ 131168 := by
  cases ht : thr L n with
  | none => exact Nat.zero_le _
  | some d =>
    have := thr_small h ht
    show n.size + d.size ≤ _
    omega
end Go.Proofs.Ytepmhgkegfpmjaa
