/-
  Contracts of the program and of the statements (part 14 of 35).
-/
import Derived.Test.YtagijldedngcoaaGreatDoorOc13
import Derived.StringKeys

namespace Go.Proofs.YtagijldedngcoaaGreatDoor
open Go.RowKit Go.Lib Go.Maps Go.MapKept Go.ChangeMaps
open Go.WideElems (Fit)

def obE (v : Value) : Option (DataW Unit × List MemPlace) :=
  match v with
  | .agg cs => match cs.toList with
    | [.string s] => if s.size ≤ maxLen then some (.agg [.lit (.string s.data.toList)], []) else none
    | _ => none
  | _ => none
def obD (d : ByteArray) : DataW Unit := .agg [.lit (.string d.data.toList)]
theorem obE_mk {s : ByteArray} (h : s.size ≤ maxLen) : obE (.agg #[.string s]) = some (obD s, []) := by
  show (if s.size ≤ maxLen then _ else _) = _
  rw [if_pos h]; rfl
theorem obE_inv {v : Value} {z : DataW Unit × List MemPlace} (h : obE v = some z) : ∃ s : ByteArray, v = .agg #[.string s] ∧ z = (obD s, []) ∧ s.size ≤ maxLen := by
  unfold obE at h
  split at h
  · rename_i cs
    split at h
    · rename_i s e
      split at h
      · rename_i hs
        cases h
        exact ⟨s, by rw [show cs = #[.string s] from Array.toList_inj.1 e], rfl, hs⟩
      · cases h
    · cases h
  · cases h
theorem obD_inj {a b : ByteArray} (h : obD a = obD b) : a = b := by
  simp only [obD, DataW.agg.injEq, List.cons.injEq, DataW.lit.injEq, Lit.string.injEq, and_true] at h
  exact ByteArray.ext (Array.toList_inj.1 h)
theorem tight {H : Type} {P : Program} {k : TypeId} {R : Value → Option (DataW H × List MemPlace)} {w : World} {b n : Nat} {D : DataW H} (h : w.ownsMap P k R b n D) : w.ownsMap P k R b (Maps.size D) D := by
  obtain ⟨es, clock, hb, F, hs, rfl⟩ := h
  refine ⟨es, clock, hb, F, ?_, rfl⟩
  show es.size ≤ List.length _
  rw [length_sorted]
  simp

def MO (w : World) (b : Nat) (L : List OB) : Prop := w.ownsMap Tryz.prog 9 obE b L.length (datL obD L)
theorem Tryz.zeroObj (w : World) : (zeroValue 130).run Tryz.prog w = .ok (.agg #[.string ⟨#[]⟩]) w := by
  have h : Tryz.t130.zero = some (.agg #[.string ⟨#[]⟩]) := by kernel_rfl
  simp [zeroValue, h, Result.andThen, go_sem]
section
variable {w w' : World} {b : Nat} {L : List OB}
theorem MO.lt (h : MO w b L) : b < w.heap.size := World.ownsMap.lt h
theorem MO.below (h : MO w b L) {B : Nat} (hb : Below B w w') (hB : b < B) : MO w' b L := by
  obtain ⟨es, clock, hm, r⟩ := h
  exact ⟨es, clock, (hb.block b hB).trans hm, r⟩
theorem MO.gs (h : MO w b L) {p : Nat → Prop} (hg : Gs p w w') (hn : ¬ p b) : MO w' b L := by
  have hl := h.lt
  obtain ⟨es, clock, hm, r⟩ := h
  exact ⟨es, clock, (hg.block b hl hn).trans hm, r⟩
theorem MO.notCells (h : MO w b L) {c : Array Value} {T : TypeId} {fr : Nat × Nat} (hc : w.heap[b]? = some (.cells c T fr)) : False := by
  obtain ⟨es, clock, hm, r⟩ := h
  rw [hm] at hc; cases hc
theorem MO.made (w : World) : MO (w.alloc (.map #[] 0)) w.heap.size [] := World.ownsMap_made w Tryz.prog 9 obE
theorem MO.set (h : MO w b L) {a : Addr} (ha : b ≠ a.block) (u : Value) : MO (w.setCell a u) b L := World.ownsMap.setCell h ha u
theorem MO.look (h : MO w b L) {n : ByteArray} (hn : n.size ≤ maxLen) : (Instr.lookup 113 (.map (some b)) (.string n) true).run Tryz.prog w = .ok (.tuple #[.agg #[.string ((thr L n).getD ⟨#[]⟩)], .bool (thr L n).isSome]) w := by
  obtain ⟨v, ps, hrun, hv⟩ := World.ownsMap.look_ok h (string_keyed Tryz.underlying9) Tryz.underlying113 (Tryz.zeroObj w) (zd := obD ⟨#[]⟩) (zp := []) (obE_mk (Nat.zero_le _)) (WideMaps.keyOf_string_mk Tryz.underlying9 hn)
  rw [dat_has] at hrun
  rw [dat_at] at hv
  obtain ⟨s, rfl, hz, _⟩ := obE_inv hv
  have e : s = (thr L n).getD ⟨#[]⟩ := by
    have := congrArg Prod.fst hz
    cases ht : thr L n with
    | none => rw [ht] at this; exact (obD_inj this).symm
    | some d => rw [ht] at this; exact (obD_inj this).symm
  rw [← e]
  exact hrun
theorem MO.put (h : MO w b L) (hL : Ris L) {n d : ByteArray} (hn : n.size ≤ maxLen) (hd : d.size ≤ maxLen) (hl : L.length ≤ 1000000) :
    ∃ w', (Instr.mapUpdate 113 (.map (some b)) (.string n) (.agg #[.string d])).run Tryz.prog w = .ok () w' ∧ MO w' b (layL L n d) ∧ w.grownBy w' (some b) ∧ w'.heap.size = w.heap.size := by
  obtain ⟨w', hrun, ho, hg⟩ := World.ownsMap.store h (string_keyed Tryz.underlying9) Tryz.underlying113 (by unfold maxLen; omega) (WideMaps.keyOf_string_mk Tryz.underlying9 hn) (obE_mk hd)
  rw [dat_put obD hL] at ho
  have := tight ho
  rw [dat_size] at this
  refine ⟨w', hrun, this, hg.grown, ?_⟩
  obtain ⟨es, clock, es', clock', hb, rfl⟩ := hg
  simp [setBlock]
theorem MO.del (h : MO w b L) (hL : Ris L) {n : ByteArray} (hn : n.size ≤ maxLen) (ty : TypeId) :
    ∃ w', (Builtin.delete_ #[113, 9] ty #[.map (some b), .string n]).run Tryz.prog w = .ok (.tuple #[]) w' ∧ MO w' b (delL L n) ∧ w.grownBy w' (some b) ∧ w'.heap.size = w.heap.size := by
  obtain ⟨w', hrun, ho, hg⟩ := World.ownsMap.drop h (string_keyed Tryz.underlying9) Tryz.underlying113 (WideMaps.keyOf_string_mk Tryz.underlying9 hn) ty
  rw [dat_del obD hL] at ho
  have := tight ho
  rw [dat_size] at this
  refine ⟨w', hrun, this, hg.grown, ?_⟩
  obtain ⟨es, clock, es', clock', hb, rfl⟩ := hg
  simp [setBlock]
theorem MO.clear (h : MO w b L) (ty : TypeId) :
    ∃ w', (Builtin.clear_ #[113] ty #[.map (some b)]).run Tryz.prog w = .ok (.tuple #[]) w' ∧ MO w' b [] ∧ w.grownBy w' (some b) ∧ w'.heap.size = w.heap.size := by
  obtain ⟨es, clock, hb, F, hs, hD⟩ := h
  refine ⟨setBlock w b (.map #[] clock), ?_, ⟨#[], clock, heap_setBlock_same hb _, ⟨by simp, ?_, by simp⟩, Nat.le_refl _, rfl⟩, ⟨rfl, rfl, rfl, by simp [setBlock], fun i _ hi => heap_setBlock_other hb _ (fun e => hi (by rw [e]))⟩, by simp [setBlock]⟩
  · simp [Builtin.clear_, run_underlying Tryz.underlying113, MapKept.run_getObj_map hb, MapKept.run_setObj_map _ hb, Result.andThen, setBlock]
  · exact stamped_empty clock
end

structure PS (w : World) (b mb : Nat) (q f : Int) (dn : Bool) (cl : Int) (L : List OB) : Prop where
  blk : w.heap[b]? = some (.cells #[.map (some mb), .int .i64 ((usedL L : Nat) : Int), .int .i64 q, .int .i64 f, .bool dn, .int .i64 cl] 120 (0, 0))
  map : MO w mb L
  ris : Ris L
  small : ∀ p ∈ L, p.n.size ≤ 96 ∧ p.d.size ≤ 131072
section
variable {w w' : World} {b mb : Nat} {q f : Int} {dn : Bool} {cl : Int} {L : List OB}
theorem PS.lt (h : PS w b mb q f dn cl L) : b < w.heap.size := lt_of_block h.blk
theorem PS.mlt (h : PS w b mb q f dn cl L) : mb < w.heap.size := h.map.lt
theorem PS.ne (h : PS w b mb q f dn cl L) : mb ≠ b := fun e => by
  have := h.map
  rw [e] at this
  exact this.notCells h.blk
theorem PS.cell0 (h : PS w b mb q f dn cl L) : w.cell? ⟨b, 0, none⟩ = some (.map (some mb)) := by simp [World.cell?, h.blk]
theorem PS.cell1 (h : PS w b mb q f dn cl L) : w.cell? ⟨b, 1, none⟩ = some (.int .i64 ((usedL L : Nat) : Int)) := by simp [World.cell?, h.blk]
theorem PS.cell2 (h : PS w b mb q f dn cl L) : w.cell? ⟨b, 2, none⟩ = some (.int .i64 q) := by simp [World.cell?, h.blk]
theorem PS.cell3 (h : PS w b mb q f dn cl L) : w.cell? ⟨b, 3, none⟩ = some (.int .i64 f) := by simp [World.cell?, h.blk]
theorem PS.cell4 (h : PS w b mb q f dn cl L) : w.cell? ⟨b, 4, none⟩ = some (.bool dn) := by simp [World.cell?, h.blk]
theorem PS.cell5 (h : PS w b mb q f dn cl L) : w.cell? ⟨b, 5, none⟩ = some (.int .i64 cl) := by simp [World.cell?, h.blk]
theorem PS.free (h : PS w b mb q f dn cl L) (j : Nat) : w.frozen? ⟨b, j, none⟩ = false := by simp [World.frozen?, h.blk]
theorem PS.below (h : PS w b mb q f dn cl L) {B : Nat} (hb : Below B w w') (hB : w.heap.size ≤ B) : PS w' b mb q f dn cl L :=
  ⟨(hb.block b (Nat.lt_of_lt_of_le h.lt hB)).trans h.blk, h.map.below hb (Nat.lt_of_lt_of_le h.mlt hB), h.ris, h.small⟩
theorem PS.drew (h : PS w b mb q f dn cl L) : PS w.drew b mb q f dn cl L := ⟨h.blk, h.map, h.ris, h.small⟩
theorem PS.bel (h : PS w b mb q f dn cl L) (hb : Below w.heap.size w w') : PS w' b mb q f dn cl L := h.below hb (Nat.le_refl _)
theorem PS.gs (h : PS w b mb q f dn cl L) {p : Nat → Prop} (hg : Gs p w w') (h1 : ¬ p b) (h2 : ¬ p mb) : PS w' b mb q f dn cl L :=
  ⟨(hg.block b h.lt h1).trans h.blk, h.map.gs hg h2, h.ris, h.small⟩
theorem PS.set3 (h : PS w b mb q f dn cl L) (x : Int) : PS (w.setCell ⟨b, 3, none⟩ (.int .i64 x)) b mb q x dn cl L := ⟨heap_set_self h.blk, h.map.set h.ne _, h.ris, h.small⟩
theorem PS.set5 (h : PS w b mb q f dn cl L) (x : Int) : PS (w.setCell ⟨b, 5, none⟩ (.int .i64 x)) b mb q f dn x L := ⟨heap_set_self h.blk, h.map.set h.ne _, h.ris, h.small⟩
end
def two (b mb : Nat) (i : Nat) : Prop := i = b ∨ i = mb
theorem Gs.set {p : Nat → Prop} {w w1 : World} (h : Gs p w w1) {a : Addr} (ha : p a.block ∨ w.heap.size ≤ a.block) (u : Value) : Gs p w (w1.setCell a u) :=
  ⟨h.os, h.tape, h.output, by simp [World.setCell]; exact h.size, fun i hi hp => (Below.heap_setCell _ _ _ _ (by
    intro e
    rcases ha with ha | ha
    · rw [← e] at ha; exact hp ha
    · omega)).trans (h.block i hi hp)⟩
theorem Gs.ofd (p : Nat → Prop) {w w1 : World} (h : Below w.drew.heap.size w.drew w1) : Gs p w w1 := ⟨h.os, h.tape, h.output, h.size, fun i hi _ => h.block i hi⟩
theorem used_bound {L : List OB} (h : ∀ p ∈ L, p.n.size ≤ 96 ∧ p.d.size ≤ 131072) : usedL L ≤ L.length * 131168 := by
  induction L with
  | nil => exact Nat.le_refl _
  | cons p r ih =>
    have h1 := h p List.mem_cons_self
    have h2 := ih (fun q hq => h q (List.mem_cons_of_mem _ hq))
    rw [usedL, List.length_cons]
    omega
theorem small_lay {L : List OB} (h : ∀ p ∈ L, p.n.size ≤ 96 ∧ p.d.size ≤ 131072) {n d : ByteArray} (hn : n.size ≤ 96) (hd : d.size ≤ 131072) : ∀ p ∈ layL L n d, p.n.size ≤ 96 ∧ p.d.size ≤ 131072 := fun p hp => by
  rcases mem_lay hp with rfl | hp
  · exact ⟨hn, hd⟩
  · exact h p hp
theorem small_del {L : List OB} (h : ∀ p ∈ L, p.n.size ≤ 96 ∧ p.d.size ≤ 131072) (n : ByteArray) : ∀ p ∈ delL L n, p.n.size ≤ 96 ∧ p.d.size ≤ 131072 := fun p hp => h p (mem_del hp)
theorem len_lay (L : List OB) (n d : ByteArray) : (layL L n d).length ≤ L.length + 1 := by
  induction L with
  | nil => simp [layL]
  | cons p r ih =>
    rw [layL]
    split
    · simp; exact ih
    · split <;> simp
theorem len_del (L : List OB) (n : ByteArray) : (delL L n).length ≤ L.length := by
  induction L with
  | nil => simp [delL]
  | cons p r ih =>
    rw [delL]
    split
    · simp
    · simp; exact ih
theorem thr_small {L : List OB} (h : ∀ p ∈ L, p.n.size ≤ 96 ∧ p.d.size ≤ 131072) {n d : ByteArray} (ht : thr L n = some d) : n.size ≤ 96 ∧ d.size ≤ 131072 := by
  induction L with
  | nil => cases ht
  | cons p r ih =>
    rw [thr] at ht
    split at ht
    · rename_i e
      cases ht
      have := h p List.mem_cons_self
      rw [e] at this
      exact this
    · exact ih (fun q hq => h q (List.mem_cons_of_mem _ hq)) ht
theorem sz_small {L : List OB} (h : ∀ p ∈ L, p.n.size ≤ 96 ∧ p.d.size ≤ 131072) (n : ByteArray) : szO n (thr L n) ≤ 131168 := by
  cases ht : thr L n with
  | none => exact Nat.zero_le _
  | some d =>
    have := thr_small h ht
    show n.size + d.size ≤ _
    omega
end Go.Proofs.YtagijldedngcoaaGreatDoor

namespace Go.Proofs.YtagijldedngcoaaGreatDoor
open Go.RowKit Go.Lib Go.Maps

def fcode (n d : ByteArray) : Int := if mayB n = true then (if d.size ≤ 131072 then 0 else 2) else 3

set_option maxRecDepth 100000 in
set_option maxHeartbeats 800000 in
theorem size_any (n d : ByteArray) (x : Nat) (hx : Hid (x = n.size + d.size)) (h : n.size + d.size ≤ 9223372036854775807) (w : World) : Calls Tryz.prog 134 #[.string n, .string d] w fun e w' => e = .returned (.int .i64 (x : Int)) ∧ w' = w := by
  have hs : IntKind.i64.wrap ((n.size : Int) + (d.size : Int)) = (x : Int) := by rw [hx.out]; simp [IntKind.wrap_i64]; omega
  have h1 : n.size ≤ 9223372036854775807 := by omega
  have h2 : d.size ≤ 9223372036854775807 := by omega
  clear hx
  go_enter Tryz.func134, Tryz.ntmps134
  go_wp2
  go_ret
  exact ⟨rfl, rfl⟩

set_option maxRecDepth 100000 in
set_option maxHeartbeats 800000 in
theorem mayBe_any (n : ByteArray) (w : World) (hs : n.size ≤ 9223372036854775807) : Calls Tryz.prog 133 #[.string n] w fun e w' => e = .returned (.bool (mayB n)) ∧ w' = w := by
  by_cases h0 : n.size = 0
  · have e0 : n = ⟨#[]⟩ := ByteArray.ext (Array.eq_empty_of_size_eq_zero h0)
    subst e0
    go_enter Tryz.func133, Tryz.ntmps133
    go_wp2
    go_ret
    exact ⟨rfl, rfl⟩
  have hz0 : ¬ (n.size : Int) = 0 := by omega
  by_cases h1 : (96 : Int) < (n.size : Int)
  · have hm : mayB n = false := by rw [mayB, decide_eq_false (show ¬ n.size ≤ 96 by omega)]; simp
    rw [hm]
    go_enter Tryz.func133, Tryz.ntmps133
    go_wp2
    go_ret
    exact ⟨rfl, rfl⟩
  have hmb : mayB n = n.data.toList.all okB := by rw [mayB, decide_eq_true (show 1 ≤ n.size by omega), decide_eq_true (show n.size ≤ 96 by omega)]; simp
  obtain ⟨V, hV⟩ : ∃ V, V = mayB n := ⟨_, rfl⟩
  rw [← hV]
  have HV := hide (hV.trans hmb)
  clear hmb hV
  go_enter Tryz.func133, Tryz.ntmps133
  go_wp2
  go_loop [14] (fun i => ∃ j : Nat, j ≤ n.size ∧ i = .int .i64 j ∧ (n.data.toList.take j).all okB = true) (fun i => n.size - (intOf i).toNat)
  case atStart => exact ⟨0, Nat.zero_le _, rfl, rfl⟩
  case round =>
    obtain ⟨j, hj, rfl, hA⟩ := hrel
    by_cases hlt : j < n.size
    · have hlt' : (j : Int) < (n.size : Int) := by omega
      have HA := hide hA
      have HT := hide (take_snoc n j hlt)
      have HM : Hid (n[j] ∈ n.data.toList) := List.getElem_mem (l := n.data.toList) (n := j) (by simpa using hlt)
      clear hA
      by_cases h2 : n[j].toNat ≤ 32
      · have hf : Hid (n.data.toList.all okB = false) := by
          show n.data.toList.all okB = false
          rw [List.all_eq_false]
          exact ⟨n[j], HM.out, by rw [okB, decide_eq_false (by omega)]; simp⟩
        have hz : (n[j].toNat : Int) ≤ 32 := by omega
        go_wp2
        go_ret
        exact ⟨by rw [HV.out.trans hf.out]; rfl, rfl⟩
      by_cases h3 : 127 ≤ n[j].toNat
      · have hf : Hid (n.data.toList.all okB = false) := by
          show n.data.toList.all okB = false
          rw [List.all_eq_false]
          exact ⟨n[j], HM.out, by rw [okB, decide_eq_false (show ¬ n[j].toNat < 127 by omega)]; simp⟩
        have hz : ¬ (n[j].toNat : Int) ≤ 32 := by omega
        have hz2 : (127 : Int) ≤ (n[j].toNat : Int) := by omega
        go_wp2
        go_ret
        exact ⟨by rw [HV.out.trans hf.out]; rfl, rfl⟩
      have hz : ¬ (n[j].toNat : Int) ≤ 32 := by omega
      have hz2 : ¬ (127 : Int) ≤ (n[j].toNat : Int) := by omega
      have HN : Hid ((n.data.toList.take (j + 1)).all okB = true) := by
        show (n.data.toList.take (j + 1)).all okB = true
        rw [HT.out, List.all_append, HA.out, List.all_cons, okB, decide_eq_true (by omega), decide_eq_true (by omega)]
        rfl
      clear HT HA HM
      go_wp2
      go_round
      case rel => exact ⟨j + 1, by omega, by go_num, HN.out⟩
      case measure => simp [intOf]; omega
    · obtain rfl : j = n.size := by omega
      have hf : Hid (n.data.toList.all okB = true) := by
        show n.data.toList.all okB = true
        rw [← hA, List.take_of_length_le (by simp)]
      go_wp2
      go_ret
      exact ⟨by rw [HV.out.trans hf.out]; rfl, rfl⟩

set_option maxRecDepth 100000 in
set_option maxHeartbeats 800000 in
theorem fault_any (n d : ByteArray) (w : World) (hn : n.size ≤ 9223372036854775807) (hd : d.size ≤ 9223372036854775807) : Calls Tryz.prog 77 #[.string n, .string d] w fun e w' => e = .returned (.int .i64 (fcode n d)) ∧ w' = w := by
  have HM : Hid _ := hide (mayBe_any n w hn)
  obtain ⟨C, hC⟩ : ∃ C, C = fcode n d := ⟨_, rfl⟩
  rw [← hC]
  have HC := hide hC
  clear hC
  go_enter Tryz.func77, Tryz.ntmps77
  go_wp2_with fail
  refine HM.out.mono ?_
  rintro e w' ⟨rfl, rfl⟩
  clear HM
  cases hm : mayB n with
  | false =>
    have hc : C = 3 := by rw [HC.out, fcode, hm]; rfl
    subst hc
    go_wp2
    go_ret
    exact ⟨rfl, rfl⟩
  | true =>
    by_cases h : d.size ≤ 131072
    · have hc : C = 0 := by rw [HC.out, fcode, hm, if_pos rfl, if_pos h]
      subst hc
      have h' : ¬ (131072 : Int) < (d.size : Int) := by omega
      go_wp2
      go_ret
      exact ⟨rfl, rfl⟩
    · have hc : C = 2 := by rw [HC.out, fcode, hm, if_pos rfl, if_neg h]
      subst hc
      have h' : (131072 : Int) < (d.size : Int) := by omega
      go_wp2
      go_ret
      exact ⟨rfl, rfl⟩

set_option maxRecDepth 100000 in
set_option maxHeartbeats 800000 in
theorem new_ok (q : Int) (w : World) (h0 : 0 ≤ q) (h1 : q ≤ 1073741824) :
    Calls Tryz.prog 10 #[.int .i64 q] w fun e w' => e = .returned (.tuple #[.pointer (some ⟨w.heap.size + 1, 0, none⟩), .int .i64 0]) ∧ PS w' (w.heap.size + 1) w.heap.size q 0 false 0 [] ∧ Below w.heap.size w w' := by
  have h2 : ¬ q < 0 := by omega
  have h3 : ¬ 1073741824 < q := by omega
  have hmk : (Instr.makeMap 113 none).run Tryz.prog w = .ok (.map (some w.heap.size)) (w.alloc (.map #[] 0)) := rfl
  go_enter Tryz.func10, Tryz.ntmps10
  go_wp2
  go_ret2
  have hb1 : Below w.heap.size w (w.alloc (.map #[] 0)) := (Below.refl _ _).alloc (Nat.le_refl _) _
  refine ⟨by simp, ?_, hb1.alloc (by simp) _⟩
  refine ⟨?_, ?_, List.Pairwise.nil, fun p hp => by cases hp⟩
  · have := heap_alloc_new (w.alloc (.map #[] 0)) (.cells #[.map (some w.heap.size), .int .i64 ((usedL [] : Nat) : Int), .int .i64 q, .int .i64 0, .bool false, .int .i64 0] 120 (0, 0))
    rw [show (w.alloc (.map #[] 0)).heap.size = w.heap.size + 1 by simp] at this
    exact this
  · exact (MO.made w).below ((Below.refl _ _).alloc (Nat.le_refl _) _) (by simp)

end Go.Proofs.YtagijldedngcoaaGreatDoor

namespace Go.Proofs.YtagijldedngcoaaGreatDoor
open Go.RowKit Go.Lib Go.Maps

section
variable {w : World} {b mb : Nat} {q f : Int} {dn : Bool} {cl : Int} {L : List OB}

set_option maxRecDepth 100000 in
set_option maxHeartbeats 800000 in
theorem usedBy_any (hP : PS w b mb q f dn cl L) (n : ByteArray) (hn : n.size ≤ maxLen) :
    Calls Tryz.prog 135 #[.pointer (some ⟨b, 0, none⟩), .string n] w fun e w' => e = .returned (.int .i64 ((szO n (thr L n) : Nat) : Int)) ∧ Below w.heap.size w w' := by
  have y0 := hP.cell0
  have hk := hP.map.look hn
  have HS := hide hP.small
  have HN := hide hn
  clear hP hn
  cases ht : thr L n with
  | none =>
    rw [ht] at hk
    dsimp only [Option.isSome, Option.getD] at hk
    go_enter Tryz.func135, Tryz.ntmps135
    go_wp2
    go_ret
    exact ⟨rfl, (Below.refl _ _).alloc (Nat.le_refl _) _⟩
  | some d =>
    rw [ht] at hk
    dsimp only [Option.isSome, Option.getD] at hk
    have hs := thr_small HS.out ht
    obtain ⟨x, hx⟩ : ∃ x, x = szO n (some d) := ⟨_, rfl⟩
    rw [← hx]
    have HC : Hid _ := hide (size_any n d x hx (by omega))
    clear hx ht
    go_enter Tryz.func135, Tryz.ntmps135
    go_wp2_with (go_at_call 134; refine (HC.out _).mono ?_; rintro e w' ⟨rfl, rfl⟩)
    go_wp2
    go_ret
    exact ⟨rfl, (Below.refl _ _).alloc (Nat.le_refl _) _⟩

set_option maxRecDepth 100000 in
set_option maxHeartbeats 1600000 in
theorem lay_any (hP : PS w b mb q f dn cl L) (n d : ByteArray) (hn : n.size ≤ 96) (hd : d.size ≤ 131072) (hl : L.length ≤ 1000000) :
    Calls Tryz.prog 78 #[.pointer (some ⟨b, 0, none⟩), .string n, .string d] w fun e w' => e = .returned (.tuple #[]) ∧ PS w' b mb q f dn cl (layL L n d) ∧ Gs (two b mb) w w' := by
  obtain ⟨x, hx⟩ : ∃ x, x = n.size + d.size := ⟨_, rfl⟩
  have HZ : Hid _ := hide (size_any n d x hx (by omega))
  obtain ⟨y, hy⟩ : ∃ y, y = szO n (thr L n) := ⟨_, rfl⟩
  have HU : Hid (∀ w1, PS w1 b mb q f dn cl L → Calls Tryz.prog 135 #[.pointer (some ⟨b, 0, none⟩), .string n] w1 fun e w' => e = .returned (.int .i64 (y : Int)) ∧ Below w1.heap.size w1 w') := fun w1 h1 => by
    rw [hy]; exact usedBy_any h1 n (by unfold maxLen; omega)
  have HP := hide hP
  have y1 := hP.cell1
  have z1 := hP.free 1
  obtain ⟨u, hu⟩ : ∃ u, u = usedL L := ⟨_, rfl⟩
  have hub := used_bound hP.small
  obtain ⟨v, hv⟩ : ∃ v, v = usedL (layL L n d) := ⟨_, rfl⟩
  have huv : v + y = u + x := by rw [hv, hy, hu, hx]; have := used_lay hP.ris n d; omega
  have hyb : y ≤ 131168 := by rw [hy]; exact sz_small hP.small n
  have hxb : x ≤ 131168 := by omega
  have hub' : u ≤ 131168000000 := by rw [hu]; omega
  have f1 : IntKind.i64.wrap ((x : Int) - (y : Int)) = (x : Int) - (y : Int) := by simp [IntKind.wrap_i64]; omega
  have f2 : IntKind.i64.wrap ((u : Int) + ((x : Int) - (y : Int))) = (v : Int) := by simp [IntKind.wrap_i64]; omega
  rw [← hu] at y1
  have HCU : Hid (∀ w1, PS w1 b mb q f dn cl L → w1.cell? ⟨b, 1, none⟩ = some (.int .i64 (u : Int))) := fun w1 h1 => by rw [hu]; exact h1.cell1
  have HEND : Hid (∀ w1, PS w1 b mb q f dn cl L → ∃ w2, (Instr.mapUpdate 113 (.map (some mb)) (.string n) (.agg #[.string d])).run Tryz.prog (w1.setCell ⟨b, 1, none⟩ (.int .i64 (v : Int))) = .ok () w2 ∧ (w1.setCell ⟨b, 1, none⟩ (.int .i64 (v : Int))).cell? ⟨b, 0, none⟩ = some (.map (some mb)) ∧ PS w2 b mb q f dn cl (layL L n d) ∧ Gs (two b mb) w1 w2) := fun w1 h1 => by
    have hm : MO (w1.setCell ⟨b, 1, none⟩ (.int .i64 (v : Int))) mb L := h1.map.set h1.ne _
    have hblk := heap_set_self (j := 1) (u := .int .i64 (v : Int)) h1.blk
    obtain ⟨w2, r, hm2, hg, hsz⟩ := hm.put h1.ris (n := n) (d := d) (by unfold maxLen; omega) (by unfold maxLen; omega) hl
    refine ⟨w2, r, by simp [World.cell?, hblk], ⟨?_, hm2, ris_lay h1.ris n d, small_lay h1.small hn hd⟩, ?_⟩
    · rw [hg.block b (by simp [World.setCell]; exact h1.lt) (fun e => h1.ne (Option.some.inj e).symm), hblk, ← hv]
      rfl
    · exact ((Gs.refl _ _).set (.inl (.inl rfl)) _).gb hg (.inl (.inr rfl))
  clear hP hub hu hv hy hx
  go_enter Tryz.func78, Tryz.ntmps78
  go_upto_region 0 with fail
  go_region_with (first | (go_at_call 134; refine (HZ.out _).mono ?_; rintro e w' ⟨rfl, rfl⟩) | (go_at_call 135; refine (HU.out _ HP.out.drew).mono ?_; rintro e w1 ⟨rfl, hb1⟩; have HB1 := hide hb1; have HP1 := hide (HP.out.drew.bel hb1); have y2 := HCU.out w1 HP1.out; have z2 := HP1.out.free 1; clear hb1))
  all_goals (
    obtain ⟨w2, r, c0, hP2, hG2⟩ := HEND.out _ HP1.out
    have HF := hide (And.intro hP2 ((Gs.ofd _ HB1.out).trans hG2))
    clear y2 z2 y1 z1 hP2 hG2
    go_wp2
    go_end0
    exact ⟨rfl, HF.out⟩)
end
end Go.Proofs.YtagijldedngcoaaGreatDoor

namespace Go.Proofs.YtagijldedngcoaaGreatDoor
open Go.RowKit Go.Lib Go.Maps

def pcode (n d : ByteArray) (L : List OB) (q : Int) : Int := if mayB n = true then (if d.size ≤ 131072 then (if ((usedL (layL L n d) : Nat) : Int) ≤ q then 0 else 71) else 2) else 3
def putL (n d : ByteArray) (L : List OB) (q : Int) : List OB := if pcode n d L q = 0 then layL L n d else L
theorem mayB_size {n : ByteArray} (h : mayB n = true) : n.size ≤ 96 := by
  unfold mayB at h
  simp at h
  omega
section
variable {w : World} {b mb : Nat} {q f : Int} {dn : Bool} {cl : Int} {L : List OB}

set_option maxRecDepth 100000 in
set_option maxHeartbeats 1600000 in
theorem put_any (hP : PS w b mb q f dn cl L) (n d : ByteArray) (hn : n.size ≤ maxLen) (hd : d.size ≤ maxLen) (hl : L.length ≤ 1000000) :
    Calls Tryz.prog 85 #[.pointer (some ⟨b, 0, none⟩), .string n, .string d] w fun e w' => e = .returned (.int .i64 (pcode n d L q)) ∧ PS w' b mb q f dn cl (putL n d L q) ∧ Gs (two b mb) w w' := by
  unfold maxLen at hn hd
  have HFA : Hid _ := hide (fault_any n d w hn hd)
  have HP := hide hP
  clear hP
  obtain ⟨C, hC⟩ : ∃ C, C = pcode n d L q := ⟨_, rfl⟩
  obtain ⟨M, hM⟩ : ∃ M, M = putL n d L q := ⟨_, rfl⟩
  rw [← hC, ← hM]
  have HC := hide hC
  have HM := hide hM
  clear hC hM
  by_cases h1 : mayB n = true
  · by_cases h2 : d.size ≤ 131072
    · have hn' := mayB_size h1
      have hf : fcode n d = 0 := by rw [fcode, if_pos h1, if_pos h2]
      rw [hf] at HFA
      obtain ⟨x, hx⟩ : ∃ x, x = n.size + d.size := ⟨_, rfl⟩
      obtain ⟨y, hy⟩ : ∃ y, y = szO n (thr L n) := ⟨_, rfl⟩
      obtain ⟨u, hu⟩ : ∃ u, u = usedL L := ⟨_, rfl⟩
      obtain ⟨v, hv⟩ : ∃ v, v = usedL (layL L n d) := ⟨_, rfl⟩
      have huv : v + y = u + x := by rw [hv, hy, hu, hx]; have := used_lay HP.out.ris n d; omega
      have hyu : y ≤ u := by rw [hy, hu]; have := used_del L n; omega
      have hyb : y ≤ 131168 := by rw [hy]; exact sz_small HP.out.small n
      have hxb : x ≤ 131168 := by omega
      have hub' : u ≤ 131168000000 := by rw [hu]; have := used_bound HP.out.small; omega
      have f1 : IntKind.i64.wrap ((u : Int) - (y : Int)) = (u : Int) - (y : Int) := by simp [IntKind.wrap_i64]; omega
      have f2 : IntKind.i64.wrap ((u : Int) - (y : Int) + (x : Int)) = (v : Int) := by simp [IntKind.wrap_i64]; omega
      have HZ : Hid _ := hide (size_any n d x hx (by omega))
      have HCL : Hid (∀ w1, PS w1 b mb q f dn cl L → w1.cell? ⟨b, 1, none⟩ = some (.int .i64 (u : Int)) ∧ w1.cell? ⟨b, 2, none⟩ = some (.int .i64 q)) := fun w1 h => by rw [hu]; exact ⟨h.cell1, h.cell2⟩
      have HU : Hid (∀ w1, Hid (PS w1 b mb q f dn cl L ∧ Below w.heap.size w w1) → Calls Tryz.prog 135 #[.pointer (some ⟨b, 0, none⟩), .string n] w1 fun e w' => e = .returned (.int .i64 (y : Int)) ∧ Hid (PS w' b mb q f dn cl L ∧ Below w.heap.size w w') ∧ w'.cell? ⟨b, 1, none⟩ = some (.int .i64 (u : Int)) ∧ w'.cell? ⟨b, 2, none⟩ = some (.int .i64 q)) := fun w1 h => by
        rw [hy]
        refine (usedBy_any h.out.1 n (by unfold maxLen; omega)).mono ?_
        rintro e w' ⟨rfl, hb⟩
        have hP' := h.out.1.bel hb
        exact ⟨rfl, ⟨hP', h.out.2.trans (hb.mono h.out.2.size)⟩, HCL.out _ hP'⟩
      have K1 : Hid (PS w.drew b mb q f dn cl L ∧ Below w.heap.size w w.drew) := ⟨HP.out.drew, (Below.refl _ _).drew⟩
      obtain ⟨y1, y2⟩ := HCL.out _ K1.out.1
      have HLY : Hid (∀ w1, PS w1 b mb q f dn cl L → Calls Tryz.prog 78 #[.pointer (some ⟨b, 0, none⟩), .string n, .string d] w1 fun e w' => e = .returned (.tuple #[]) ∧ PS w' b mb q f dn cl (layL L n d) ∧ Gs (two b mb) w1 w') := fun w1 h => lay_any h n d hn' h2 hl
      have HV := hide hv
      have HMB := hide h1
      clear hu hy hx hv hf h1
      go_enter Tryz.func85, Tryz.ntmps85
      go_wp2_with fail
      refine HFA.out.mono ?_
      rintro e w0 ⟨rfl, rfl⟩
      clear HFA
      go_upto_region 4 with fail
      go_region_held3 (fun w' => Hid (PS w' b mb q f dn cl L ∧ Below w0.heap.size w0 w') ∧ w'.cell? ⟨b, 1, none⟩ = some (.int .i64 (u : Int)) ∧ w'.cell? ⟨b, 2, none⟩ = some (.int .i64 q)) (first | assumption | exact ⟨by assumption, by assumption, by assumption⟩ | exact ⟨K1, y1, y2⟩)
        (first | (go_at_call 134; refine (HZ.out _).mono ?_; rintro e w' ⟨rfl, rfl⟩) | (go_at_call 135; refine (HU.out _ (by first | assumption | exact K1)).mono ?_; rintro e w1 ⟨rfl, k1, k2, k3⟩))
      by_cases hq : (v : Int) ≤ q
      · have hC0 : C = 0 := by rw [HC.out, pcode, if_pos HMB.out, if_pos h2, if_pos (by rw [← HV.out]; exact hq)]
        have hMe : M = layL L n d := by rw [HM.out, putL, ← HC.out, hC0, if_pos rfl]
        subst hC0
        have hq' : ¬ q < (v : Int) := by omega
        have HME := hide hMe
        clear hMe
        go_wp2_with fail
        refine (HLY.out _ k1.out.1).mono ?_
        rintro e w2 ⟨rfl, hp2, hg2⟩
        have HF := hide (And.intro hp2 ((Gs.of_below _ k1.out.2).trans hg2))
        clear hp2 hg2
        go_wp2
        go_ret
        exact ⟨rfl, by rw [HME.out]; exact HF.out.1, HF.out.2⟩
      · have hC0 : C = 71 := by rw [HC.out, pcode, if_pos HMB.out, if_pos h2, if_neg (by rw [← HV.out]; exact hq)]
        have hMe : M = L := by rw [HM.out, putL, ← HC.out, hC0, if_neg (by decide)]
        subst hC0 hMe
        have hq' : q < (v : Int) := by omega
        go_wp2
        go_ret
        exact ⟨rfl, k1.out.1, Gs.of_below _ k1.out.2⟩
    · have hf : fcode n d = 2 := by rw [fcode, if_pos h1, if_neg h2]
      have hC0 : C = 2 := by rw [HC.out, pcode, if_pos h1, if_neg h2]
      have hMe : M = L := by rw [HM.out, putL, ← HC.out, hC0, if_neg (by decide)]
      rw [hf] at HFA
      subst hC0 hMe
      clear hf
      go_enter Tryz.func85, Tryz.ntmps85
      go_wp2_with fail
      refine HFA.out.mono ?_
      rintro e w0 ⟨rfl, rfl⟩
      go_wp2
      go_ret
      exact ⟨rfl, HP.out, Gs.refl _ _⟩
  · have hf : fcode n d = 3 := by rw [fcode, if_neg h1]
    have hC0 : C = 3 := by rw [HC.out, pcode, if_neg h1]
    have hMe : M = L := by rw [HM.out, putL, ← HC.out, hC0, if_neg (by decide)]
    rw [hf] at HFA
    subst hC0 hMe
    clear hf
    go_enter Tryz.func85, Tryz.ntmps85
    go_wp2_with fail
    refine HFA.out.mono ?_
    rintro e w0 ⟨rfl, rfl⟩
    go_wp2
    go_ret
    exact ⟨rfl, HP.out, Gs.refl _ _⟩
end
end Go.Proofs.YtagijldedngcoaaGreatDoor

namespace Go.Proofs.YtagijldedngcoaaGreatDoor
open Go.RowKit Go.Lib Go.Maps

def dcode (n : ByteArray) (L : List OB) : Int := if (thr L n).isSome = true then 0 else 5
section
variable {w : World} {b mb : Nat} {q f : Int} {dn : Bool} {cl : Int} {L : List OB}

set_option maxRecDepth 100000 in
set_option maxHeartbeats 1600000 in
theorem get_any (hP : PS w b mb q f dn cl L) (n : ByteArray) (hn : n.size ≤ maxLen) :
    Calls Tryz.prog 86 #[.pointer (some ⟨b, 0, none⟩), .string n] w fun e w' => e = .returned (.agg #[.int .i64 (dcode n L), .string ((thr L n).getD ⟨#[]⟩), .slice none 0 0]) ∧ Below w.heap.size w w' := by
  have y0 := (hP.bel ((Below.refl _ _).alloc (Nat.le_refl _) (.cells #[.int .i64 0, .string ⟨#[]⟩, .slice none 0 0] 87))).cell0
  have hk := (hP.bel ((Below.refl _ _).alloc (Nat.le_refl _) (.cells #[.int .i64 0, .string ⟨#[]⟩, .slice none 0 0] 87))).map.look hn
  obtain ⟨C, hC⟩ : ∃ C, C = dcode n L := ⟨_, rfl⟩
  rw [← hC]
  clear hP hn
  cases ht : thr L n with
  | none =>
    rw [ht] at hk
    have hc : C = 5 := by rw [hC, dcode, ht]; rfl
    subst hc
    clear hC ht
    dsimp only [Option.isSome, Option.getD] at hk ⊢
    go_enter Tryz.func86, Tryz.ntmps86
    go_wp2
    exact bodyPost_ret (v := .agg #[.int .i64 5, .string ⟨#[]⟩, .slice none 0 0]) (by simp [results, Tryz.results86, go_sem]) rfl ⟨rfl, ((Below.refl _ _).alloc (Nat.le_refl _) _).alloc (by simp) _⟩
  | some d =>
    rw [ht] at hk
    have hc : C = 0 := by rw [hC, dcode, ht]; rfl
    subst hc
    clear hC ht
    dsimp only [Option.isSome, Option.getD] at hk ⊢
    go_enter Tryz.func86, Tryz.ntmps86
    go_wp2
    exact bodyPost_ret (v := .agg #[.int .i64 0, .string d, .slice none 0 0]) (by simp [results, Tryz.results86, go_sem]) rfl ⟨rfl, ((Below.refl _ _).alloc (Nat.le_refl _) _).alloc (by simp) _⟩

set_option maxRecDepth 100000 in
set_option maxHeartbeats 1600000 in
theorem add_any (hP : PS w b mb q f dn cl L) (h0 : 0 ≤ cl) (h1 : cl ≤ 1000000000000) :
    Calls Tryz.prog 84 #[.pointer (some ⟨b, 5, none⟩), .int .i64 1] w fun e w' => e = .returned (.int .i64 (cl + 1)) ∧ w' = w.setCell ⟨b, 5, none⟩ (.int .i64 (cl + 1)) := by
  have hs : IntKind.i64.wrap (cl + 1) = cl + 1 := by simp [IntKind.wrap_i64]; omega
  have hadd := run_call_add (P := Tryz.prog) Tryz.func138 (by kernel_rfl) (by kernel_rfl) (by kernel_rfl) .i64 (by kernel_rfl) (y := 1) (s := cl + 1) hP.cell5 (hP.free 5) (by simp [go_sem, hs])
  clear hP
  go_enter Tryz.func84, Tryz.ntmps84
  go_wp2
  go_ret
  exact ⟨rfl, rfl⟩

set_option maxRecDepth 100000 in
set_option maxHeartbeats 1600000 in
theorem del_any (hP : PS w b mb q f dn cl L) (n : ByteArray) (hn : n.size ≤ maxLen) (hl : L.length ≤ 1000000) :
    Calls Tryz.prog 87 #[.pointer (some ⟨b, 0, none⟩), .string n] w fun e w' => e = .returned (.int .i64 (dcode n L)) ∧ PS w' b mb q f dn cl (delL L n) ∧ Gs (two b mb) w w' := by
  have y0 := hP.cell0
  have hk := hP.map.look hn
  have HP := hide hP
  have HN := hide hn
  obtain ⟨C, hC⟩ : ∃ C, C = dcode n L := ⟨_, rfl⟩
  rw [← hC]
  clear hP hn
  cases ht : thr L n with
  | none =>
    rw [ht] at hk
    have hc : C = 5 := by rw [hC, dcode, ht]; rfl
    subst hc
    have HD := hide (del_none ht)
    clear hC ht
    dsimp only [Option.isSome, Option.getD] at hk
    go_enter Tryz.func87, Tryz.ntmps87
    go_wp2
    go_ret
    have hb : Below w.heap.size w (w.alloc (.cells #[.string ⟨#[]⟩] 130)) := (Below.refl _ _).alloc (Nat.le_refl _) _
    exact ⟨rfl, by rw [HD.out]; exact HP.out.bel hb, Gs.of_below _ hb⟩
  | some d =>
    rw [ht] at hk
    have hc : C = 0 := by rw [hC, dcode, ht]; rfl
    subst hc
    have HT := hide ht
    clear hC ht
    dsimp only [Option.isSome, Option.getD] at hk
    obtain ⟨y, hy⟩ : ∃ y, y = szO n (thr L n) := ⟨_, rfl⟩
    obtain ⟨u, hu⟩ : ∃ u, u = usedL L := ⟨_, rfl⟩
    obtain ⟨v, hv⟩ : ∃ v, v = usedL (delL L n) := ⟨_, rfl⟩
    have huv : u = v + y := by rw [hu, hv, hy]; exact used_del L n
    have hyb : y ≤ 131168 := by rw [hy]; exact sz_small HP.out.small n
    have hub' : u ≤ 131168000000 := by rw [hu]; have := used_bound HP.out.small; omega
    have f1 : IntKind.i64.wrap ((u : Int) - (y : Int)) = (v : Int) := by simp [IntKind.wrap_i64]; omega
    have HCU : Hid (∀ w1, PS w1 b mb q f dn cl L → w1.cell? ⟨b, 1, none⟩ = some (.int .i64 (u : Int))) := fun w1 h1 => by rw [hu]; exact h1.cell1
    have HU : Hid (∀ w1, PS w1 b mb q f dn cl L → Calls Tryz.prog 135 #[.pointer (some ⟨b, 0, none⟩), .string n] w1 fun e w' => e = .returned (.int .i64 (y : Int)) ∧ Below w1.heap.size w1 w') := fun w1 h1 => by
      rw [hy]; exact usedBy_any h1 n HN.out
    have HEND : Hid (∀ w1, PS w1 b mb q f dn cl L → ∃ w2, (Builtin.delete_ #[113, 9] 0 #[.map (some mb), .string n]).run Tryz.prog (w1.setCell ⟨b, 1, none⟩ (.int .i64 (v : Int))) = .ok (.tuple #[]) w2 ∧ (w1.setCell ⟨b, 1, none⟩ (.int .i64 (v : Int))).cell? ⟨b, 0, none⟩ = some (.map (some mb)) ∧ PS w2 b mb q f dn cl (delL L n) ∧ Gs (two b mb) w1 w2) := fun w1 h1 => by
      have hm : MO (w1.setCell ⟨b, 1, none⟩ (.int .i64 (v : Int))) mb L := h1.map.set h1.ne _
      have hblk := heap_set_self (j := 1) (u := .int .i64 (v : Int)) h1.blk
      obtain ⟨w2, r, hm2, hg, hsz⟩ := hm.del h1.ris HN.out 0
      refine ⟨w2, r, by simp [World.cell?, hblk], ⟨?_, hm2, ris_del h1.ris n, small_del h1.small n⟩, ?_⟩
      · rw [hg.block b (by simp [World.setCell]; exact h1.lt) (fun e => h1.ne (Option.some.inj e).symm), hblk, ← hv]
        rfl
      · exact ((Gs.refl _ _).set (.inl (.inl rfl)) _).gb hg (.inl (.inr rfl))
    have hb : Below w.heap.size w (w.alloc (.cells #[.string d] 130)) := (Below.refl _ _).alloc (Nat.le_refl _) _
    have HP0 := hide (HP.out.bel hb)
    have HG0 : Hid (Gs (two b mb) w (w.alloc (.cells #[.string d] 130))) := Gs.of_below _ hb
    have y1 := HCU.out _ HP0.out
    have z1 := HP0.out.free 1
    have HUV := hide huv
    clear hu hy hv hb huv
    go_enter Tryz.func87, Tryz.ntmps87
    go_upto_region 4 with fail
    go_region_with (first | (go_at_call 135; refine (HU.out _ HP0.out.drew).mono ?_; rintro e w1 ⟨rfl, hb1⟩; have HB1 := hide hb1; have HP1 := hide (HP0.out.drew.bel hb1); have y2 := HCU.out w1 HP1.out; have z2 := HP1.out.free 1; clear hb1))
    all_goals (
      obtain ⟨w2, r, c0, hP2, hG2⟩ := HEND.out _ HP1.out
      have HF := hide (And.intro hP2 (HG0.out.trans ((Gs.ofd _ HB1.out).trans hG2)))
      clear y2 z2 y1 z1 hP2 hG2
      go_wp2
      go_ret
      exact ⟨rfl, HF.out⟩)

set_option maxRecDepth 100000 in
set_option maxHeartbeats 1600000 in
theorem wipe_any (hP : PS w b mb q f dn cl L) :
    Calls Tryz.prog 34 #[.pointer (some ⟨b, 0, none⟩)] w fun e w' => e = .returned (.tuple #[]) ∧ PS w' b mb q f dn cl [] ∧ Gs (two b mb) w w' := by
  have y0 := hP.cell0
  obtain ⟨w2, r, hm2, hg, hsz⟩ := hP.map.clear 0
  have hblk : w2.heap[b]? = _ := (hg.block b hP.lt (fun e => hP.ne (Option.some.inj e).symm)).trans hP.blk
  have c1 : w2.cell? ⟨b, 1, none⟩ = some (.int .i64 ((usedL L : Nat) : Int)) := by simp [World.cell?, hblk]
  have z1 : w2.frozen? ⟨b, 1, none⟩ = false := by simp [World.frozen?, hblk]
  have HF : Hid (PS (w2.setCell ⟨b, 1, none⟩ (.int .i64 0)) b mb q f dn cl [] ∧ Gs (two b mb) w (w2.setCell ⟨b, 1, none⟩ (.int .i64 0))) :=
    ⟨⟨heap_set_self hblk, hm2.set hP.ne _, List.Pairwise.nil, fun p hp => by cases hp⟩, ((Gs.refl _ _).gb hg (.inl (.inr rfl))).set (.inl (.inl rfl)) _⟩
  clear hP hm2 hg hsz hblk
  go_enter Tryz.func34, Tryz.ntmps34
  go_wp2
  go_end0
  exact ⟨rfl, HF.out⟩
end
end Go.Proofs.YtagijldedngcoaaGreatDoor
