/-
  StoreLists: what the names that begin so are, as objects are put; Names of the program.
-/
import Derived.Test.YtepmhgkegfpmjaaLwKit
namespace Go.Proofs.Ytepmhgkegfpmjaa
open Go.RowKit Go.Lib Go.Maps

theorem names_cons (p : OB) (r : List OB) (bg : ByteArray) : (namesL (p :: r) bg).length = (if begins bg p.n = true then 1 else 0) + (namesL r bg).length := by
  rw [namesL, namesL, List.length_map, List.length_map, List.filter_cons]
  split
  · rw [List.length_cons]; omega
  · omega
theorem names_lay (L : List OB) (n d bg : ByteArray) : (namesL (layL L n d) bg).length ≤ (namesL L bg).length + (if begins bg n = true then 1 else 0) ∧ (namesL L bg).length ≤ (namesL (layL L n d) bg).length ∧ (begins bg n = true → 0 < (namesL (layL L n d) bg).length) := by
  induction L with
  | nil =>
    rw [layL, names_cons]
    by_cases h : begins bg n = true
    · simp [h, namesL]
    · simp [h, namesL]
  | cons p r ih =>
    obtain ⟨h1, h2, h3⟩ := ih
    rw [layL]
    split
    · rw [names_cons, names_cons]
      refine ⟨by omega, by omega, fun h => ?_⟩
      have := h3 h
      omega
    · split
      · rename_i e
        rw [names_cons, names_cons, e]
        dsimp only
        refine ⟨by omega, by omega, fun h => ?_⟩
        rw [if_pos h]; omega
      · rw [names_cons, names_cons]
        dsimp only
        refine ⟨by omega, by omega, fun h => ?_⟩
        rw [if_pos h]; omega
theorem names_mem {L : List OB} {x bg : ByteArray} (h : x ∈ namesL L bg) : begins bg x = true ∧ (thr L x).isSome = true := by
  rw [namesL, List.mem_map] at h
  obtain ⟨p, hp, rfl⟩ := h
  rw [List.mem_filter] at hp
  refine ⟨hp.2, ?_⟩
  cases ht : thr L p.n with
  | some d => rfl
  | none => exact absurd rfl (thr_none.1 ht p hp.1)
theorem names_ris {L : List OB} (h : Ris L) (bg : ByteArray) : (namesL L bg).Pairwise (fun x y => bl x y = true) := by
  rw [namesL]
  exact List.pairwise_map.2 (List.Pairwise.filter _ h)
theorem names_at {L : List OB} (h : Ris L) {bg x y : ByteArray} {j : Nat} (hx : (namesL L bg)[j]? = some x) (hy : (namesL L bg)[j + 1]? = some y) : bl x y = true := by
  have hp := names_ris h bg
  rw [List.pairwise_iff_getElem] at hp
  obtain ⟨h1, e1⟩ := List.getElem?_eq_some_iff.1 hx
  obtain ⟨h2, e2⟩ := List.getElem?_eq_some_iff.1 hy
  have := hp j (j + 1) h1 h2 (by omega)
  rw [e1, e2] at this
  exact this

section
variable {w : World} {b mb : Nat} {q f : Int} {dn : Bool} {cl : Int} {L : List OB}
set_option maxRecDepth 100000 in
set_option maxHeartbeats 800000 in
theorem names_any (hP : PS w b mb q f dn cl L) (hl : L.length ≤ 1000000) :
    Calls Try.prog 23 #[.pointer (some ⟨b, 0, none⟩)] w fun e w' => ∃ v, e = .returned v ∧ TS w.heap.size v (namesL L ⟨#[]⟩) w' ∧ Below w.heap.size w w' := by
  have HC : Hid _ := hide (begunBy_any hP ⟨#[]⟩ hl)
  clear hP
  go_enter Try.func23, Try.ntmps23
  go_wp2_with fail
  refine HC.out.mono ?_
  rintro e w' ⟨v, rfl, hT, hb⟩
  go_wp2
  go_ret
  exact ⟨_, rfl, hT, hb⟩
end
theorem TS.gs {B : Nat} {v : Value} {l : List ByteArray} {w w' : World} {p : Nat → Prop} (h : TS B v l w) (hg : Gs p w w') (hp : ∀ i, p i → i < B) : TS B v l w' :=
  h.kb fun i hi => hg.block i (h.lt i hi).2 (fun e => by have := hp i e; have := (h.lt i hi).1; omega)
theorem two_less {B b mb : Nat} (hb : b < B) (hm : mb < B) : ∀ i, two b mb i → i < B := fun i h => by
  rcases h with rfl | rfl
  · exact hb
  · exact hm
/-- A store of the call's own, along a statement. -/
structure ST (W w : World) (b mb : Nat) (s : SS) : Prop where
  px : PX w b mb s
  hb : W.heap.size ≤ b
  hm : W.heap.size ≤ mb
  be : Below W.heap.size W w
section
variable {W w w' : World} {b mb : Nat} {s s' : SS}
theorem ST.bel (h : ST W w b mb s) (k : Below w.heap.size w w') : ST W w' b mb s := ⟨PS.bel h.px k, h.hb, h.hm, h.be.trans (k.mono h.be.size)⟩
theorem ST.gs (h : ST W w b mb s) (k : Gs (two b mb) w w') (hp : PX w' b mb s') : ST W w' b mb s' := ⟨hp, h.hb, h.hm, Gs.fresh h.be k (two_fresh h.hb h.hm)⟩
theorem ST.drew (h : ST W w b mb s) : ST W w.drew b mb s := ⟨PS.drew h.px, h.hb, h.hm, h.be.drew⟩
theorem ST.ps (h : ST W w b mb s) : PS w b mb s.q s.f s.off s.m s.L := h.px
/-- Do along a statement. -/
theorem st_do (h : ST W w b mb s) (st k : Int) (n d : ByteArray) (hn : n.size ≤ maxLen) (hd : d.size ≤ maxLen) (hl : s.L.length ≤ 1000000) (hm0 : 0 ≤ s.m) (hm1 : s.m ≤ 1000000000000) (hf : s.f ≤ 1048576) :
    Calls Try.prog 52 #[.pointer (some ⟨b, 0, none⟩), .agg #[.int .i64 st, .int .i64 k, .string n, .string d]] w fun e w' => ∃ a c, e = .returned (.agg #[.int .i64 (doR s k n d).c, .string (doR s k n d).d, .slice a (doR s k n d).l.length c]) ∧ TS w.heap.size (.slice a (doR s k n d).l.length c) (doR s k n d).l w' ∧ ST W w' b mb (doS s k n d) ∧ Gs (two b mb) w w' := by
  refine (do_any h.px st k n d hn hd hl hm0 hm1 hf).mono ?_
  rintro e w' ⟨v, rfl, hA, hP, hg⟩
  obtain ⟨a, c, rfl, hT⟩ := hA.shp
  exact ⟨a, c, rfl, hT, h.gs hg hP, hg⟩
end
end Go.Proofs.Ytepmhgkegfpmjaa
