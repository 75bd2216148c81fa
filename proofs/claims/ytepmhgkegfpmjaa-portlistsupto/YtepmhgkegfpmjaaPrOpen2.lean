/-
  Port: a list of answers that is handed over, where what comes in is of bulk at most 1048576.
-/
import Derived.Test.YtepmhgkegfpmjaaPrOpen
namespace Go.Proofs.Ytepmhgkegfpmjaa
open Go.ChangeShapes Go.WideShapes Go.ChangeAt Go.RowKit Go.Lib
theorem bulk_pos {H : Type} (d : DataW H) : 1 ≤ Rows.uptoBulk d := by
  cases d with
  | lit l => cases l <;> simp [Rows.uptoBulk]
  | _ => simp [Rows.uptoBulk]
theorem bulk_count {H : Type} : ∀ l : List (DataW H), l.length ≤ Rows.uptoBulkAll l
  | [] => Nat.zero_le _
  | d :: l => by
    have h1 := bulk_pos d
    have h2 := bulk_count l
    simp only [Rows.uptoBulkAll, List.length_cons]
    omega
theorem bulk_mem {H : Type} {d : DataW H} : ∀ {l : List (DataW H)}, d ∈ l → Rows.uptoBulk d ≤ Rows.uptoBulkAll l
  | [], h => by cases h
  | e :: l, h => by
    simp only [Rows.uptoBulkAll]
    rcases List.mem_cons.1 h with rfl | h
    · omega
    · have := bulk_mem h; omega
theorem bulk_list {H : Type} {d : DataW H} {n : Nat} (h : d = .nil ∧ n = 0 ∨ ∃ elems spare, d = .slice elems spare ∧ n ≤ elems.length + spare.length) : n ≤ Rows.uptoBulk d := by
  rcases h with ⟨_, rfl⟩ | ⟨elems, spare, rfl, h⟩
  · exact Nat.zero_le _
  · have h1 := bulk_count elems
    have h2 := bulk_count spare
    simp only [Rows.uptoBulk]
    omega
instance : Inhabited (RR × Value) := ⟨(⟨0, ⟨#[]⟩, []⟩, .slice none 0 0)⟩
set_option maxRecDepth 100000 in
theorem texts_ls {H : Type} {enc : TypeId × Value → H} {w : World} {fuel : Nat} {v : Value} {y : DataW H × List MemPlace}
    (h : DataW.trod enc Try.prog w 0 (fun _ => true) true fuel 30 [v] = some y) : ∃ ll : List ByteArray, LS t1 1 (fun _ => True) w v ll ∧ ll.length ≤ Rows.uptoBulk y.1 := by
  rcases Go.Deep.open_slice Try.underlying30 h with ⟨hcs, hy⟩ | ⟨x, len, c, m, n, D, Pl, hcs, _, hlc, hcm, hm, hy, hx⟩
  · simp at hcs
    subst hcs
    exact ⟨[], ⟨_, _, rfl, fun _ => rfl, .inl rfl⟩, Nat.zero_le _⟩
  · simp at hcs
    subst hcs
    simp only [if_true] at hm
    subst hm
    by_cases h0 : len = 0
    · subst h0
      exact ⟨[], ⟨_, _, rfl, (fun e => by cases e), .inl rfl⟩, Nat.zero_le _⟩
    have hall : ∀ i, i < len → ∃ s : ByteArray, w.cell? (x.add i) = some (.string s) := by
      intro i hi
      obtain ⟨cs', h1, h2⟩ := hx i (by omega)
      rw [Try.cS] at h1
      obtain ⟨_, hlen, hcell⟩ := World.cells?_some h1
      match cs', hlen with
      | [v0], _ =>
        have e0 := hcell 0 (by omega)
        rw [Go.Deep.add_add] at e0
        obtain ⟨s, u, _, _⟩ := DataW.trod_string Try.underlying9 h2
        simp only [List.cons.injEq, and_true] at u
        subst u
        exact ⟨s, by simpa using e0⟩
    have : Inhabited ByteArray := ⟨⟨#[]⟩⟩
    obtain ⟨X, hX⟩ := Go.Deep.choose_lt hall
    obtain ⟨b, off, spot⟩ := x
    have hc := hX 0 (by omega)
    have hspot : spot = none := by simpa [Addr.add] using World.cell?_spot hc
    subst hspot
    refine ⟨(List.range len).map X, ⟨some ⟨b, off, none⟩, m, by simp, (fun e => by cases e), .inr ⟨b, off, rfl, trivial, World.block_lt_of_cell? _ _ hc, fun i y hy' j u hu => ?_⟩⟩, ?_⟩
    · rw [List.getElem?_map] at hy'
      obtain ⟨k, hk, rfl⟩ := Option.map_eq_some_iff.1 hy'
      have hi : i < len := by
        have := (List.getElem?_eq_some_iff.1 hk).1
        simpa using this
      rw [List.getElem?_range hi] at hk
      cases hk
      have c0 := hX i hi
      rw [add_plain] at c0
      match j, hu with
      | 0, hu => cases hu; simpa using c0
      | _ + 1, hu => simp [t1] at hu
    · rw [hy]
      refine bulk_list (.inr ⟨_, _, rfl, ?_⟩)
      simp
set_option maxRecDepth 100000 in
theorem resps_of {H : Type} {enc : TypeId × Value → H} {w : World} {a : Option Addr} {len cap : Nat} {d : DataW H} {ps : List MemPlace}
    (h : DataW.Trod enc Try.prog w 0 (fun _ => true) true 23 (.slice a len cap) d ps) : ∃ X : List (RR × Value), LS x3 3 (fun _ => True) w (.slice a len cap) X ∧ X.length ≤ 9223372036854775807 ∧ (∀ x ∈ X, LS t1 1 (fun _ => True) w x.2 x.1.l) ∧ ∀ x ∈ X, x.1.l.length ≤ Rows.uptoBulk d := by
  obtain ⟨fuel, hf⟩ := h
  rcases Go.Deep.open_slice Try.underlying23 hf with ⟨hcs, _⟩ | ⟨x, l, c, m, n, D, Pl, hcs, _, hlc, hcm, hm, hd, hx⟩
  · simp [Value.cells] at hcs
    obtain ⟨rfl, rfl, rfl⟩ := hcs
    exact ⟨[], ⟨_, _, rfl, fun _ => rfl, .inl rfl⟩, Nat.zero_le _, (fun x hx => by cases hx), fun x hx => by cases hx⟩
  · simp [Value.cells] at hcs
    obtain ⟨rfl, rfl, rfl⟩ := hcs
    simp only [if_true] at hm
    subst hm
    by_cases h0 : len = 0
    · subst h0
      exact ⟨[], ⟨_, _, rfl, (fun e => by cases e), .inl rfl⟩, Nat.zero_le _, (fun x hx => by cases hx), fun x hx => by cases hx⟩
    have hdb : ∀ i, i < len → Rows.uptoBulk (D i) ≤ Rows.uptoBulk d := by
      intro i hi
      have e : d = .slice ((List.range len).map D) ((List.range (m - len)).map fun j => D (len + j)) := congrArg Prod.fst hd
      rw [e]
      have h1 := bulk_mem (d := D i) (l := (List.range len).map D) (List.mem_map.2 ⟨i, List.mem_range.2 hi, rfl⟩)
      simp only [Rows.uptoBulk]
      omega
    have hall : ∀ i, i < len → ∃ X : RR × Value, w.cell? (x.add (i * 3)) = some (.int .i64 X.1.c) ∧ w.cell? (x.add (i * 3 + 1)) = some (.string X.1.d) ∧ w.cell? (x.add (i * 3 + 2)) = some X.2 ∧ LS t1 1 (fun _ => True) w X.2 X.1.l ∧ X.1.l.length ≤ Rows.uptoBulk (D i) := by
      intro i hi
      obtain ⟨cs', h1, h2⟩ := hx i (by omega)
      rw [Try.cA] at h1
      obtain ⟨_, hlen, hcell⟩ := World.cells?_some h1
      obtain ⟨y0, y1, y2, n', hD, _, g0, g1, g2⟩ := trod_struct3 Try.underlying45 h2
      match cs', hlen with
      | [v0, v1, v2], _ =>
        simp [Try.cC, Try.cS, Try.cT] at g0 g1 g2
        have e0 := hcell 0 (by omega)
        have e1 := hcell 1 (by omega)
        have e2 := hcell 2 (by omega)
        rw [Go.Deep.add_add] at e0 e1 e2
        obtain ⟨cd, u0, _, _⟩ := DataW.trod_int Try.underlying29 g0
        obtain ⟨da, u1, _, _⟩ := DataW.trod_string Try.underlying9 g1
        obtain ⟨ll, hL, hb⟩ := texts_ls g2
        simp only [List.cons.injEq, and_true] at u0 u1
        subst u0 u1
        refine ⟨(⟨cd, da, ll⟩, v2), by simpa using e0, by simpa using e1, by simpa using e2, hL, ?_⟩
        have e : D i = .agg [y0.1, y1.1, y2.1] := congrArg Prod.fst hD
        rw [e]
        simp only [Rows.uptoBulk, Rows.uptoBulkAll]
        omega
    obtain ⟨X, hX⟩ := Go.Deep.choose_lt hall
    obtain ⟨b, off, spot⟩ := x
    have hc := (hX 0 (by omega)).1
    have hspot : spot = none := by simpa [Addr.add] using World.cell?_spot hc
    subst hspot
    refine ⟨(List.range len).map X, ⟨some ⟨b, off, none⟩, m, by simp, (fun e => by cases e), .inr ⟨b, off, rfl, trivial, World.block_lt_of_cell? _ _ hc, fun i y hy j u hu => ?_⟩⟩, by simp; unfold maxLen at hcm; omega, fun y hy => ?_, fun y hy => ?_⟩
    · rw [List.getElem?_map] at hy
      obtain ⟨k, hk, rfl⟩ := Option.map_eq_some_iff.1 hy
      have hi : i < len := by
        have := (List.getElem?_eq_some_iff.1 hk).1
        simpa using this
      rw [List.getElem?_range hi] at hk
      cases hk
      obtain ⟨c0, c1, c2, _⟩ := hX i hi
      rw [add_plain] at c0 c1 c2
      rw [← Nat.add_assoc] at c1 c2
      match j, hu with
      | 0, hu => cases hu; exact c0
      | 1, hu => cases hu; exact c1
      | 2, hu => cases hu; exact c2
      | _ + 3, hu => simp [x3] at hu
    · obtain ⟨i, hi, rfl⟩ := List.mem_map.1 hy
      rw [List.mem_range] at hi
      exact (hX i hi).2.2.2.1
    · obtain ⟨i, hi, rfl⟩ := List.mem_map.1 hy
      rw [List.mem_range] at hi
      exact Nat.le_trans (hX i hi).2.2.2.2 (hdb i hi)
end Go.Proofs.Ytepmhgkegfpmjaa
