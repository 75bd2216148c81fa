/-
  Port: a list's job, whole: what it is, and what each call does.
-/
import Derived.Test.YtepmhgkegfpmjaaPoStart
namespace Go.Proofs.Ytepmhgkegfpmjaa
open Go.RowKit Go.Lib Go.Maps
section
variable {r r0 p P : Nat → Prop} {w w' : World} {b a1 a2 a3 a4 a5 i1 : Nat} {st k s c N cc : Int} {n d dd : ByteArray} {go ids tx u v tv rv av : Value} {op : Bool} {l : List QT} {X : List (RR × Value)} {A : List RR}
theorem CL.mono {r' : Nat → Prop} (h : CL r w b l X a1 a2 a3 a4 a5 tv rv av) (hr : ∀ i, r i → r' i) (hb : ¬ r' b) (h4 : ¬ r' a4) (ho : ∀ i, av.ownBlock = some i → ¬ r' i) (hl : ∀ i, r' i → i < w.heap.size) : CL r' w b l X a1 a2 a3 a4 a5 tv rv av :=
  ⟨h.h1, h.h2, h.h3, h.h4, h.h5, h.q.mono hr, h.o, fun x hx => (h.ns x hx).mono hr, hr _ h.r1, hr _ h.r2, hr _ h.r3, hr _ h.r5, hb, h4, ho, hl⟩
theorem JW.mono {r' : Nat → Prop} (h : JW r w b l X a1 a2 a3 a4 a5 i1 rv av) (hr : ∀ i, r i → r' i) (hb : ¬ r' b) (h4 : ¬ r' a4) (ho : ∀ i, av.ownBlock = some i → ¬ r' i) (hl : ∀ i, r' i → i < w.heap.size) : JW r' w b l X a1 a2 a3 a4 a5 i1 rv av :=
  ⟨h.cl.mono hr hb h4 ho hl, h.h6, hr _ h.r6⟩
/-- A list's job, in blocks of P, that was given the answers A. -/
def JL (P : Nat → Prop) (w : World) (b : Nat) (l : List QT) (A : List RR) : Prop :=
  P b ∧ (∀ i, P i → i < w.heap.size) ∧
  ((∃ r X a1 a2 a3 a4 a5 i1 rv av q, A = X.map (·.1) ∧ l[A.length]? = some q ∧ JW r w b l X a1 a2 a3 a4 a5 i1 rv av ∧ JB w b true q.st q.k q.n q.d (.func (.func 49) #[] #[.pointer (some ⟨a4, 0, none⟩), .pointer (some ⟨a5, 0, none⟩)]) 0 0 (.slice none 0 0) (.slice none 0 0) (A.length : Int) ∧ (∀ i, r i → P i) ∧ P a4 ∧ (∀ i, av.ownBlock = some i → P i)) ∨
   (A.length = l.length ∧ ∃ ids tx, JB w b false 0 0 ⟨#[]⟩ ⟨#[]⟩ .nilFunc (resC A) ((resN A : Nat) : Int) ids tx (A.length : Int) ∧ LS t1 1 (fun i => P i ∧ i ≠ b) w ids (resI A) ∧ LS t1 1 (fun i => P i ∧ i ≠ b) w tx (resT A)))
theorem JL.gs (h : JL P w b l A) (hg : Gs p w w') (hp : ∀ i, P i → ¬ p i) : JL P w' b l A := by
  obtain ⟨hb, hl, h⟩ := h
  refine ⟨hb, fun i hi => Nat.lt_of_lt_of_le (hl i hi) hg.size, ?_⟩
  rcases h with ⟨r, X, a1, a2, a3, a4, a5, i1, rv, av, q, hA, hq, hW, hJ, hr, h4, ho⟩ | ⟨hA, ids, tx, hJ, h1, h2⟩
  · refine .inl ⟨r, X, a1, a2, a3, a4, a5, i1, rv, av, q, hA, hq, ⟨?_, (hg.block i1 (lt_of_block hW.h6) (hp _ (hr _ hW.r6))).trans hW.h6, hW.r6⟩, hJ.gs hg (hp b hb), hr, h4, ho⟩
    exact hW.cl.kb hg.size (fun i hi hri => hg.block i hi (hp i (hr i hri))) (hg.block a4 (lt_of_block hW.cl.h4) (hp a4 h4)) (fun i hi => hg.block i (hW.cl.o.lt i hi).2 (hp i (ho i hi)))
  · exact .inr ⟨hA, ids, tx, hJ.gs hg (hp b hb), h1.gs hg (fun i hi => hp i hi.1), h2.gs hg (fun i hi => hp i hi.1)⟩
theorem JL.bel (h : JL P w b l A) (hb : Below w.heap.size w w') : JL P w' b l A := by
  have hl := h.2.1
  exact h.gs (p := fun i => w.heap.size ≤ i) (Gs.of_below _ hb) (fun i hi hn => by have := hl i hi; omega)
theorem JL.blt (h : JL P w b l A) : b < w.heap.size := h.2.1 b h.1
theorem JL.le (h : JL P w b l A) : A.length ≤ l.length := by
  rcases h.2.2 with ⟨_, _, _, _, _, _, _, _, _, _, q, _, hq, _⟩ | ⟨hA, _⟩
  · exact Nat.le_of_lt (List.getElem?_eq_some_iff.1 hq).1
  · omega
theorem JL.q (h : JL P w b l A) {q : QT} (hq : l[A.length]? = some q) : ∃ a4 a5, JB w b true q.st q.k q.n q.d (.func (.func 49) #[] #[.pointer (some ⟨a4, 0, none⟩), .pointer (some ⟨a5, 0, none⟩)]) 0 0 (.slice none 0 0) (.slice none 0 0) (A.length : Int) := by
  rcases h.2.2 with ⟨_, _, _, _, _, a4, a5, _, _, _, q', _, hq', _, hJ, _⟩ | ⟨hA, _⟩
  · rw [hq'] at hq; cases hq; exact ⟨a4, a5, hJ⟩
  · rw [hA] at hq; simp at hq
theorem JL.o (h : JL P w b l A) (hA : A.length = l.length) : ∃ ids tx, JB w b false 0 0 ⟨#[]⟩ ⟨#[]⟩ .nilFunc (resC A) ((resN A : Nat) : Int) ids tx (A.length : Int) ∧ LS t1 1 (fun i => P i ∧ i ≠ b) w ids (resI A) ∧ LS t1 1 (fun i => P i ∧ i ≠ b) w tx (resT A) := by
  rcases h.2.2 with ⟨_, _, _, _, _, _, _, _, _, _, q', _, hq', _⟩ | ⟨_, h⟩
  · rw [hA] at hq'; simp at hq'
  · exact h

set_option maxRecDepth 100000 in
set_option maxHeartbeats 3200000 in
/-- The closure of List begins. -/
theorem list1_any {i0 : Nat} (hJ : JB w b true 0 0 ⟨#[]⟩ ⟨#[]⟩ .nilFunc 0 0 (.slice none 0 0) (.slice none 0 0) 0) (h0 : w.heap[i0]? = some (.cells #[v] 22 (0, 0))) (hl : LS q4 4 r0 w v l) (hn : l.length ≤ 1000000) (B : Nat) (hB : B ≤ b) :
    Calls Try.prog 30 #[.pointer (some ⟨b, 0, none⟩), .pointer (some ⟨i0, 0, none⟩)] w fun e w' => e = .returned (.tuple #[]) ∧ RDY b (fun w2 => Gs (fun i => i = b) w w2 ∧ ∃ P, JL P w2 b l [] ∧ ∀ i, P i → B ≤ i) w' := by
  obtain ⟨U, hU⟩ : ∃ U, U = w.alloc (.cells #[.pointer (some ⟨b, 0, none⟩)] 68) := ⟨_, rfl⟩
  obtain ⟨i1, hi1⟩ : ∃ i1, i1 = w.heap.size := ⟨_, rfl⟩
  have hBU : Below w.heap.size w U := by rw [hU]; exact (Below.refl _ _).alloc (Nat.le_refl _) _
  have hJU := hJ.bel hBU
  have hszU : U.heap.size = i1 + 1 := by rw [hU, hi1]; simp
  have h6 : U.heap[i1]? = some (.cells #[.pointer (some ⟨b, 0, none⟩)] 68 (0, 0)) := by rw [hU, hi1]; exact heap_alloc_new w _
  have h0U := (hBU.block i0 (lt_of_block h0)).trans h0
  have y6 : U.cell? ⟨i1, 0, none⟩ = some (.pointer (some ⟨b, 0, none⟩)) := by simp [World.cell?, h6]
  have y0 : U.cell? ⟨i0, 0, none⟩ = some v := by simp [World.cell?, h0U]
  have hbl := hJ.lt
  have HN : Hid _ := hide (all_any hJU (hl.bel hBU) hn (.func 32) #[] #[.pointer (some ⟨i1, 0, none⟩)] (Q := fun w' => RDY b (fun w2 => Gs (fun i => i = b) w w2 ∧ ∃ P, JL P w2 b l [] ∧ ∀ i, P i → B ≤ i) w') (by
    intro W a1 a2 a3 a4 a5 rv r hCL hJW hBW hr h4 h4l
    have hb1 : i1 ≠ b := by omega
    have hW : JW (fun i => r i ∨ i = i1) W b l [] a1 a2 a3 a4 a5 i1 rv (.slice none 0 0) := by
      refine ⟨hCL.mono (fun i hi => .inl hi) ?_ ?_ (fun i e => by simp [Value.ownBlock] at e) ?_, (hBW.block i1 (by omega)).trans h6, .inr rfl⟩
      · rintro (e | e)
        · exact hCL.nb e
        · exact hb1 e.symm
      · rintro (e | e)
        · exact hCL.n4 e
        · omega
      · rintro i (e | e)
        · exact hCL.rl i e
        · have := hBW.size; omega
    have hGW : Gs (fun i => i = b) w W := ((Gs.of_below _ hBU).bel hBW)
    rcases Nat.eq_zero_or_pos l.length with hz | hz
    · have hl0 := List.length_eq_zero_iff.1 hz
      refine (next_end hW.cl hW.h6 hJW (by simp [hz]) (by omega) (by simp [resI])).mono ?_
      rintro e w2 ⟨rfl, jds, jx, hJ2, hT1, hT2, hG2⟩
      refine ⟨rfl, .inr ⟨_, _, _, _, _, _, _, _, _, _, hJ2, fun w3 hJ3 hG3 => ⟨(hGW.trans hG2).trans hG3, fun i => B ≤ i ∧ i < w3.heap.size, ⟨⟨hB, hJ3.lt⟩, fun i hi => hi.2, .inr ⟨by simp [hz], jds, jx, hJ3, ?_, ?_⟩⟩, fun i hi => hi.1⟩⟩⟩
      · have hlt := hT1.lt
        have hws := hGW.size
        have h3s := hG3.size
        exact (hT1.kb fun i hi => hG3.block i (hlt i hi).2 (by have := (hlt i hi).1; omega)).ls fun i hi => ⟨⟨by have := (hlt i hi).1; omega, by have := (hlt i hi).2; omega⟩, by have := (hlt i hi).1; omega⟩
      · have hlt := hT2.lt
        have hws := hGW.size
        have h3s := hG3.size
        exact (hT2.kb fun i hi => hG3.block i (hlt i hi).2 (by have := (hlt i hi).1; omega)).ls fun i hi => ⟨⟨by have := (hlt i hi).1; omega, by have := (hlt i hi).2; omega⟩, by have := (hlt i hi).1; omega⟩
    · obtain ⟨q, hq⟩ : ∃ q, l[0]? = some q := ⟨_, List.getElem?_eq_getElem hz⟩
      refine (next_ask hW.cl hJW (q := q) hq).mono ?_
      rintro e w2 ⟨rfl, hJ2, hG2⟩
      refine ⟨rfl, .inl ⟨_, _, _, _, _, _, _, _, _, _, _, _, _, hJ2, fun w3 hJ3 hG3 => ⟨(hGW.trans hG2).trans hG3, fun i => B ≤ i ∧ i < w3.heap.size, ⟨⟨hB, hJ3.lt⟩, fun i hi => hi.2, .inl ⟨_, [], a1, a2, a3, a4, a5, i1, rv, .slice none 0 0, q, rfl, hq, (hW.gb hJW hG2).gb hJ2 hG3, hJ3, ?_, ?_, (fun i e => by simp [Value.ownBlock] at e)⟩⟩, fun i hi => hi.1⟩⟩⟩
      · have h3 := ((hW.gb hJW hG2).gb hJ2 hG3).cl.rl
        intro i hi
        refine ⟨?_, h3 i hi⟩
        rcases hi with hi | hi
        · have := hr i hi; omega
        · omega
      · exact ⟨by omega, lt_of_block ((hW.gb hJW hG2).gb hJ2 hG3).cl.h4⟩))
  have HU := hide hU
  have HI := hide hi1
  have hmf : ∀ (fn : Fn) (first cap : Array Value) (w : World), (Instr.makeFunc fn first cap).run Try.prog w = .ok (.func fn first cap) w := fun _ _ _ _ => rfl
  clear hl hJU hszU h6 h0U hBU hU hi1 hJ hbl h0 hB
  go_enter Try.func30, Try.ntmps30
  go_upto_region 1 with fail
  rw [← HU.out, ← HI.out]
  go_wp2_with fail
  refine HN.out.mono ?_
  rintro e w7 ⟨rfl, hQ⟩
  have HQ2 := hide hQ
  clear hQ
  go_wp2
  go_end0
  exact ⟨rfl, HQ2.out⟩
set_option maxRecDepth 100000 in
set_option maxHeartbeats 3200000 in
theorem list_any (hl : LS q4 4 r0 w v l) (hn : l.length ≤ 1000000) :
    Calls Try.prog 9 #[v] w fun e w' => ∃ b P, e = .returned (.pointer (some ⟨b, 0, none⟩)) ∧ JL P w' b l [] ∧ Below w.heap.size w w' ∧ ∀ i, P i → w.heap.size ≤ i := by
  obtain ⟨U, hU⟩ : ∃ U, U = w.alloc (.cells #[v] 22) := ⟨_, rfl⟩
  have hBU : Below w.heap.size w U := by rw [hU]; exact (Below.refl _ _).alloc (Nat.le_refl _) _
  have hszU : w.heap.size ≤ U.heap.size := hBU.size
  have h0 : U.heap[w.heap.size]? = some (.cells #[v] 22 (0, 0)) := by rw [hU]; exact heap_alloc_new w _
  have HN : Hid _ := hide (start_list (w := U) w.heap.size (Q := fun _ w2 => ∃ b P, b = U.heap.size ∧ JL P w2 b l [] ∧ Below w.heap.size w w2 ∧ ∀ i, P i → w.heap.size ≤ i) (by
    intro V hJV hBV
    refine (list1_any hJV ((hBV.block _ (lt_of_block h0)).trans h0) ((hl.bel hBU).bel hBV) hn w.heap.size hszU).mono ?_
    rintro e w2 ⟨rfl, hR⟩
    refine ⟨rfl, ?_⟩
    have hf : ∀ w3, (Gs (fun i => i = U.heap.size) V w3 ∧ ∃ P, JL P w3 U.heap.size l [] ∧ ∀ i, P i → w.heap.size ≤ i) → ∃ b P, b = U.heap.size ∧ JL P w3 b l [] ∧ Below w.heap.size w w3 ∧ ∀ i, P i → w.heap.size ≤ i := by
      rintro w3 ⟨hG, P, hL, hP⟩
      exact ⟨_, P, rfl, hL, hG.below (hBU.trans (hBV.mono hszU)) (by have := hBV.size; omega) (fun i e => by omega), hP⟩
    rcases hR with ⟨op, st, k, n, d, fn, fi, ca, c, N, ids, tx, s, hJ, h⟩ | ⟨op, st, k, n, d, c, N, ids, tx, s, hJ, h⟩
    · exact .inl ⟨op, st, k, n, d, fn, fi, ca, c, N, ids, tx, s, hJ, fun w3 h3 h4 => hf w3 (h w3 h3 h4)⟩
    · exact .inr ⟨op, st, k, n, d, c, N, ids, tx, s, hJ, fun w3 h3 h4 => hf w3 (h w3 h3 h4)⟩))
  have HU := hide hU
  have hmf : ∀ (fn : Fn) (first cap : Array Value) (w : World), (Instr.makeFunc fn first cap).run Try.prog w = .ok (.func fn first cap) w := fun _ _ _ _ => rfl
  obtain ⟨va, vc, hv⟩ := hl.shp
  clear hl h0 hBU hszU hU
  subst hv
  go_enter Try.func9, Try.ntmps9
  go_upto_region 1 with fail
  rw [← HU.out]
  go_wp2_with fail
  refine HN.out.mono ?_
  rintro e w7 ⟨rfl, b, P, hb, hQ⟩
  rw [← hb]
  have HQ2 := hide hQ
  clear hQ hb
  go_wp2
  go_ret
  exact ⟨b, P, rfl, HQ2.out⟩
end
end Go.Proofs.Ytepmhgkegfpmjaa
