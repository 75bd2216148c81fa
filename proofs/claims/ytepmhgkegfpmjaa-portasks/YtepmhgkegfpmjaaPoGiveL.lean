/-
  Port: a list's job is given an answer; what it tells.
-/
import Derived.Test.YtepmhgkegfpmjaaPoList
namespace Go.Proofs.Ytepmhgkegfpmjaa
open Go.RowKit Go.Lib Go.Maps
section
variable {r r0 p P : Nat → Prop} {w w' : World} {b a1 a2 a3 a4 a5 i1 : Nat} {st k s c N : Int} {n d : ByteArray} {go ids tx u v tv rv av : Value} {op : Bool} {l : List QT} {X : List (RR × Value)} {A : List RR} {ll : List ByteArray}
theorem give_list (h : JL P w b l A) (hA : A.length < l.length) (hu : LS t1 1 r0 w u ll) (hr0 : ¬ r0 b) (hl : l.length ≤ 1000000) (hll : ll.length ≤ 1000000000000) (cc : Int) (dd : ByteArray) (hIl : (resI (A ++ [⟨cc, dd, ll⟩])).length ≤ 1000000000000) :
    Calls Try.prog 16 #[.pointer (some ⟨b, 0, none⟩), .agg #[.int .i64 cc, .string dd, u]] w fun e w' => e = .returned (.int .i64 0) ∧ ∃ P', JL P' w' b l (A ++ [⟨cc, dd, ll⟩]) ∧ Gs P w w' ∧ ∀ i, P' i → P i ∨ w.heap.size ≤ i := by
  obtain ⟨hPb, hPl, h⟩ := h
  rcases h with ⟨r, X, a1, a2, a3, a4, a5, i1, rv, av, q, hAX, hq, hW, hJ, hr, h4, ho⟩ | ⟨hA', _⟩
  · refine give_all hJ rfl hu hr0 hll (by omega) (by omega) cc dd (Q := fun w' => ∃ P', JL P' w' b l (A ++ [⟨cc, dd, ll⟩]) ∧ Gs P w w' ∧ ∀ i, P' i → P i ∨ w.heap.size ≤ i) ?_
    intro V u' hGV
    have hul := hGV.u.lt
    have hVs := hGV.g.size
    have hbl := hJ.lt
    have ha4 := lt_of_block hW.cl.h4
    have hol := hW.cl.o.lt
    have hWV : JW (fun i => r i ∨ u'.ownBlock = some i) V b l X a1 a2 a3 a4 a5 i1 rv av := by
      refine (hW.gb hJ hGV.g).mono (fun i hi => .inl hi) ?_ ?_ ?_ ?_
      · rintro (e | e)
        · exact hW.cl.nb e
        · have := (hul _ e).1; omega
      · rintro (e | e)
        · exact hW.cl.n4 e
        · have := (hul _ e).1; omega
      · rintro i hi (e | e)
        · exact hW.cl.no i hi e
        · have := (hul _ e).1; have := (hol i hi).2; omega
      · rintro i (e | e)
        · have := hW.cl.rl i e; omega
        · exact (hul _ e).2
    have hXl : X.length = A.length := by rw [hAX]; simp
    have hXA : (X ++ [((⟨cc, dd, ll⟩ : RR), u')]).map (·.1) = A ++ [⟨cc, dd, ll⟩] := by rw [hAX]; simp
    refine (take_any hWV hGV.j ((⟨cc, dd, ll⟩ : RR), u') (hGV.u.ls fun i hi => .inr hi) (by omega) hl (by rw [hXA]; exact hIl)).mono ?_
    rintro e w2 ⟨rfl, hG2, hT⟩
    have hGP : Gs P w w2 := (hGV.g.mono fun i _ e => by rw [e]; exact hPb).trans (hG2.mono fun i _ e => by
      rcases e with e | e | e
      · rw [e]; exact hPb
      · rw [e]; exact h4
      · exact ho i e)
    have h2s := hG2.size
    refine ⟨rfl, ?_⟩
    rcases hT with ⟨q', av', hq', hW2, hov, hJ2⟩ | ⟨hlen, jds, jx, hJ2, hT1, hT2⟩
    · refine .inl ⟨_, _, _, _, _, _, _, _, _, _, _, _, _, hJ2, fun w3 hJ3 hG3 => ?_⟩
      have hW3 := hW2.gb hJ2 hG3
      refine ⟨fun i => (P i ∨ w.heap.size ≤ i) ∧ i < w3.heap.size, ⟨⟨.inl hPb, hJ3.lt⟩, fun i hi => hi.2, .inl ⟨_, _, a1, a2, a3, a4, a5, i1, rv, av', q', hXA.symm, by rw [← hXA]; simpa using hq', hW3, ?_, ?_, ⟨.inl h4, lt_of_block hW3.cl.h4⟩, ?_⟩⟩, hGP.trans (hG3.mono fun i _ e => by rw [e]; exact hPb), fun i hi => hi.1⟩
      · have e : ((A ++ [(⟨cc, dd, ll⟩ : RR)]).length : Int) = (A.length : Int) + 1 := by simp
        rw [e]; exact hJ3
      · intro i hi
        refine ⟨?_, hW3.cl.rl i hi⟩
        rcases hi with e | e
        · exact .inl (hr i e)
        · exact .inr (hul i e).1
      · intro i hi
        refine ⟨?_, (hW3.cl.o.lt i hi).2⟩
        rcases hov with e | e
        · rw [e] at hi; exact .inl (ho i hi)
        · exact .inr (by have := e i hi; omega)
    · refine .inr ⟨_, _, _, _, _, _, _, _, _, _, hJ2, fun w3 hJ3 hG3 => ?_⟩
      have h3s := hG3.size
      rw [hXA] at hJ3 hT1 hT2
      have k1 := hT1.lt
      have k2 := hT2.lt
      refine ⟨fun i => (P i ∨ w.heap.size ≤ i) ∧ i < w3.heap.size, ⟨⟨.inl hPb, hJ3.lt⟩, fun i hi => hi.2, .inr ⟨by have := hlen; simp at this; simp; omega, jds, jx, ?_, ?_, ?_⟩⟩, hGP.trans (hG3.mono fun i _ e => by rw [e]; exact hPb), fun i hi => hi.1⟩
      · have e : ((A ++ [(⟨cc, dd, ll⟩ : RR)]).length : Int) = (A.length : Int) + 1 := by simp
        rw [e]; exact hJ3
      · exact (hT1.kb fun i hi => hG3.block i (k1 i hi).2 (by have := (k1 i hi).1; omega)).ls fun i hi => ⟨⟨.inr (by have := (k1 i hi).1; omega), by have := (k1 i hi).2; omega⟩, by have := (k1 i hi).1; omega⟩
      · exact (hT2.kb fun i hi => hG3.block i (k2 i hi).2 (by have := (k2 i hi).1; omega)).ls fun i hi => ⟨⟨.inr (by have := (k2 i hi).1; omega), by have := (k2 i hi).2; omega⟩, by have := (k2 i hi).1; omega⟩
  · omega
/-- What the job's Result tells: noughts, till it is over. -/
def RC (l : List QT) (A : List RR) : Int := if A.length < l.length then 0 else resC A
def RN (l : List QT) (A : List RR) : Nat := if A.length < l.length then 0 else resN A
def RI (l : List QT) (A : List RR) : List ByteArray := if A.length < l.length then [] else resI A
def RT (l : List QT) (A : List RR) : List ByteArray := if A.length < l.length then [] else resT A
theorem RN_le (l : List QT) (A : List RR) : RN l A ≤ A.length := by unfold RN; have := resN_le A; split <;> omega
theorem result_list (h : JL P w b l A) (hl : l.length ≤ 1000000) (hIl : (resI A).length ≤ 1000000000000) :
    Calls Try.prog 14 #[.pointer (some ⟨b, 0, none⟩)] w fun e w' => ∃ ids' tx', e = .returned (.agg #[.int .i64 (RC l A), .string ⟨#[]⟩, .int .i64 ((RN l A : Nat) : Int), ids', tx', .slice none 0 0, .slice none 0 0]) ∧ TS w.heap.size ids' (RI l A) w' ∧ TS w.heap.size tx' (RT l A) w' ∧ Below w.heap.size w w' := by
  by_cases hlt : A.length < l.length
  · obtain ⟨q, hq⟩ : ∃ q, l[A.length]? = some q := ⟨_, List.getElem?_eq_getElem hlt⟩
    obtain ⟨a4, a5, hJ⟩ := h.q hq
    rw [RC, RN, RI, RT, if_pos hlt, if_pos hlt, if_pos hlt, if_pos hlt]
    exact result_any (r := fun _ => True) hJ ⟨none, 0, rfl, fun _ => rfl, .inl rfl⟩ ⟨none, 0, rfl, fun _ => rfl, .inl rfl⟩ (by simp) (by simp)
  · have hle := h.le
    obtain ⟨ids, tx, hJ, h1, h2⟩ := h.o (by omega)
    rw [RC, RN, RI, RT, if_neg hlt, if_neg hlt, if_neg hlt, if_neg hlt]
    exact result_any hJ h1 h2 hIl (by rw [resT_len]; omega)
theorem next_list_on (h : JL P w b l A) {q : QT} (hq : l[A.length]? = some q) :
    Calls Try.prog 10 #[.pointer (some ⟨b, 0, none⟩)] w fun e w' => e = .returned (.tuple #[.agg #[.int .i64 q.st, .int .i64 q.k, .string q.n, .string q.d], .bool true]) ∧ Below w.heap.size w w' := by
  obtain ⟨a4, a5, hJ⟩ := h.q hq
  exact next_on hJ
theorem next_list_off (h : JL P w b l A) (hA : A.length = l.length) :
    Calls Try.prog 10 #[.pointer (some ⟨b, 0, none⟩)] w fun e w' => e = .returned (.tuple #[.agg #[.int .i64 0, .int .i64 0, .string ⟨#[]⟩, .string ⟨#[]⟩], .bool false]) ∧ Below w.heap.size w w' := by
  obtain ⟨ids, tx, hJ, _, _⟩ := h.o hA
  exact next_off hJ
theorem over_list (h : JL P w b l A) :
    Calls Try.prog 11 #[.pointer (some ⟨b, 0, none⟩)] w fun e w' => e = .returned (.bool (!decide (A.length < l.length))) ∧ w' = w := by
  by_cases hlt : A.length < l.length
  · obtain ⟨q, hq⟩ : ∃ q, l[A.length]? = some q := ⟨_, List.getElem?_eq_getElem hlt⟩
    obtain ⟨a4, a5, hJ⟩ := h.q hq
    rw [decide_eq_true hlt]
    exact over_any hJ
  · have hle := h.le
    obtain ⟨ids, tx, hJ, _, _⟩ := h.o (by omega)
    rw [decide_eq_false hlt]
    exact over_any hJ
theorem steps_list (h : JL P w b l A) :
    Calls Try.prog 12 #[.pointer (some ⟨b, 0, none⟩)] w fun e w' => e = .returned (.int .i64 (A.length : Int)) ∧ w' = w := by
  by_cases hlt : A.length < l.length
  · obtain ⟨q, hq⟩ : ∃ q, l[A.length]? = some q := ⟨_, List.getElem?_eq_getElem hlt⟩
    obtain ⟨a4, a5, hJ⟩ := h.q hq
    exact steps_any hJ
  · have hle := h.le
    obtain ⟨ids, tx, hJ, _, _⟩ := h.o (by omega)
    exact steps_any hJ
theorem give_list_off (h : JL P w b l A) (hA : A.length = l.length) (u : Value) (cc : Int) (dd : ByteArray) :
    Calls Try.prog 16 #[.pointer (some ⟨b, 0, none⟩), .agg #[.int .i64 cc, .string dd, u]] w fun e w' => e = .returned (.int .i64 310) ∧ Below w.heap.size w w' := by
  obtain ⟨ids, tx, hJ, _, _⟩ := h.o hA
  exact give_off hJ u cc dd
end
end Go.Proofs.Ytepmhgkegfpmjaa
