/-
  Port: several stores of the program: a yard.
-/
import Derived.Test.YtepmhgkegfpmjaaPoAns
namespace Go.Proofs.Ytepmhgkegfpmjaa
open Go.RowKit Go.Lib Go.Maps

/-- The answer of stores. -/
def yR (S : List SS) (q : QT) : RR := if 0 ≤ q.st then (match S[q.st.toNat]? with | some s => doR s q.k q.n q.d | none => ⟨1, ⟨#[]⟩, []⟩) else ⟨1, ⟨#[]⟩, []⟩
def yS (S : List SS) (q : QT) : List SS := if 0 ≤ q.st then (match S[q.st.toNat]? with | some s => S.set q.st.toNat (doS s q.k q.n q.d) | none => S) else S
def yRs : List SS → List QT → List RR
  | _, [] => []
  | S, q :: r => yR S q :: yRs (yS S q) r
def ySs : List SS → List QT → List SS
  | S, [] => S
  | S, q :: r => ySs (yS S q) r
theorem yRs_len : ∀ (l : List QT) (S : List SS), (yRs S l).length = l.length
  | [], _ => rfl
  | q :: r, S => by rw [yRs, List.length_cons, yRs_len r, List.length_cons]
theorem yRs_snoc : ∀ (l : List QT) (S : List SS) (q : QT), yRs S (l ++ [q]) = yRs S l ++ [yR (ySs S l) q]
  | [], S, q => rfl
  | p :: r, S, q => by rw [List.cons_append, yRs, yRs, ySs, yRs_snoc r]; rfl
theorem ySs_snoc : ∀ (l : List QT) (S : List SS) (q : QT), ySs S (l ++ [q]) = yS (ySs S l) q
  | [], S, q => rfl
  | p :: r, S, q => by rw [List.cons_append, ySs, ySs, ySs_snoc r]
theorem yS_len (S : List SS) (q : QT) : (yS S q).length = S.length := by
  rw [yS]
  split
  · split
    · simp
    · rfl
  · rfl
theorem ySs_len : ∀ (l : List QT) (S : List SS), (ySs S l).length = S.length
  | [], _ => rfl
  | q :: r, S => by rw [ySs, ySs_len r, yS_len]
/-- What a store may be. -/
structure GO (t : Nat) (s : SS) : Prop where
  ris : Ris s.L
  sm : ∀ p ∈ s.L, p.n.size ≤ 96 ∧ p.d.size ≤ 131072
  len : s.L.length ≤ t
  m0 : 0 ≤ s.m
  mt : s.m ≤ t
  f : s.f ≤ 1048576
def GD (t : Nat) (S : List SS) : Prop := ∀ s ∈ S, GO t s
theorem GO.mono {t t' : Nat} {s : SS} (h : GO t s) (ht : t ≤ t') : GO t' s := ⟨h.ris, h.sm, Nat.le_trans h.len ht, h.m0, Int.le_trans h.mt (by omega), h.f⟩
theorem doS_okp (s : SS) (k : Int) (n d : ByteArray) : (doS s k n d).L.length ≤ s.L.length + 1 ∧ s.m ≤ (doS s k n d).m ∧ (doS s k n d).m ≤ s.m + 1 ∧ (doS s k n d).f ≤ s.f := by
  rw [doS]
  have h1 := len_lay s.L n d
  have h2 := len_del s.L n
  split
  · exact ⟨by show s.L.length ≤ _; omega, by show s.m ≤ s.m + 1; omega, by show s.m + 1 ≤ s.m + 1; omega, Int.le_refl _⟩
  · split
    · exact ⟨by show s.L.length ≤ _; omega, by show s.m ≤ s.m + 1; omega, by show s.m + 1 ≤ s.m + 1; omega, by show s.f - 1 ≤ s.f; omega⟩
    · refine ⟨?_, by show s.m ≤ s.m + 1; omega, by show s.m + 1 ≤ s.m + 1; omega, Int.le_refl _⟩
      dsimp only
      rw [putL]
      (repeat' split) <;> omega
theorem GO.step {t : Nat} {s : SS} (h : GO t s) (k : Int) (n d : ByteArray) : GO (t + 1) (doS s k n d) := by
  obtain ⟨h1, h2, h3, h4⟩ := doS_okp s k n d
  have hL : Ris (doS s k n d).L ∧ ∀ p ∈ (doS s k n d).L, p.n.size ≤ 96 ∧ p.d.size ≤ 131072 := by
    rw [doS]
    split
    · exact ⟨h.ris, h.sm⟩
    · split
      · exact ⟨h.ris, h.sm⟩
      · dsimp only
        split
        · rw [putL]
          split
          · rename_i hp
            rw [pcode] at hp
            split at hp
            · rename_i hm
              split at hp
              · rename_i hd
                exact ⟨ris_lay h.ris n d, small_lay h.sm (mayB_size hm) hd⟩
              · cases hp
            · cases hp
          · exact ⟨h.ris, h.sm⟩
        · split
          · exact ⟨ris_del h.ris n, small_del h.sm n⟩
          · exact ⟨h.ris, h.sm⟩
  have := h.len
  have := h.m0
  have := h.mt
  have := h.f
  exact ⟨hL.1, hL.2, by omega, by omega, by omega, by omega⟩
theorem GD.step {t : Nat} {S : List SS} (h : GD t S) (q : QT) : GD (t + 1) (yS S q) := by
  rw [yS]
  split
  · split
    · rename_i s hs
      intro x hx
      rcases List.mem_or_eq_of_mem_set hx with hx | hx
      · exact (h x hx).mono (by omega)
      · rw [hx]; exact (h s (List.mem_of_getElem? hs)).step _ _ _
    · exact fun x hx => (h x hx).mono (by omega)
  · exact fun x hx => (h x hx).mono (by omega)
theorem GD.steps : ∀ (l : List QT) {t : Nat} {S : List SS}, GD t S → GD (t + l.length) (ySs S l)
  | [], _, _, h => h
  | q :: r, t, S, h => by
    have := GD.steps r (h.step q)
    rw [ySs, List.length_cons, show t + (r.length + 1) = t + 1 + r.length by omega]
    exact this
theorem doR_names (s : SS) (k : Int) (n d : ByteArray) : (doR s k n d).l.length ≤ s.L.length := by
  rw [doR]
  split
  · simp
  · split
    · simp
    · split
      · simp
      · split
        · simp
        · split
          · exact names_len _ _
          · split <;> simp
theorem yR_names {t : Nat} {S : List SS} (h : GD t S) (q : QT) : (yR S q).l.length ≤ t := by
  rw [yR]
  split
  · split
    · rename_i s hs
      exact Nat.le_trans (doR_names _ _ _ _) (h s (List.mem_of_getElem? hs)).len
    · simp
  · simp
theorem resI_app (A B : List RR) : resI (A ++ B) = resI A ++ resI B := by simp [resI]
theorem yRs_names : ∀ (l : List QT) {t : Nat} {S : List SS}, GD t S → (resI (yRs S l)).length ≤ l.length * (t + l.length)
  | [], _, _, _ => by simp [yRs, resI]
  | q :: r, t, S, h => by
    have h1 := yRs_names r (h.step q)
    have h2 := yR_names h q
    rw [yRs, show yR S q :: yRs (yS S q) r = [yR S q] ++ yRs (yS S q) r from rfl, resI_app, List.length_append]
    have h3 : (resI [yR S q]).length = (yR S q).l.length := by simp [resI]
    rw [h3, List.length_cons, Nat.add_mul, Nat.one_mul, show t + (r.length + 1) = t + 1 + r.length by omega]
    omega

/-- Pointers to blocks, in a list in P. -/
def RPp (P : Nat → Prop) (w : World) (v : Value) (bs : List Nat) : Prop :=
  ∃ a c, v = .slice a bs.length c ∧ (bs = [] ∨ ∃ g o, a = some ⟨g, o, none⟩ ∧ P g ∧ g < w.heap.size ∧ ∀ i b, bs[i]? = some b → w.cell? ⟨g, o + i, none⟩ = some (.pointer (some ⟨b, 0, none⟩)))
/-- A yard of the program: its stores lie apart. -/
structure YP (P : Nat → Prop) (w : World) (v : Value) (S : List SS) (bs : List (Nat × Nat)) : Prop where
  rp : RPp P w v (bs.map (·.1))
  len : bs.length = S.length
  px : ∀ (i : Nat) (e : Nat × Nat) (s : SS), bs[i]? = some e → S[i]? = some s → PX w e.1 e.2 s
  inP : ∀ e ∈ bs, P e.1 ∧ P e.2
  ap : ∀ (i j : Nat) (e f : Nat × Nat), bs[i]? = some e → bs[j]? = some f → i ≠ j → e.1 ≠ f.1 ∧ e.2 ≠ f.2
section
variable {P p : Nat → Prop} {w w' : World} {v : Value} {S : List SS} {bs : List (Nat × Nat)} {t : Nat}
theorem RPp.rp {bs : List Nat} (h : RPp P w v bs) : RP w v bs := by
  obtain ⟨a, c, e, h | ⟨g, o, ea, _, h⟩⟩ := h
  · exact ⟨a, c, e, .inl h⟩
  · exact ⟨a, c, e, .inr ⟨g, o, ea, h⟩⟩
theorem RPp.kb {bs : List Nat} (h : RPp P w v bs) (hs : w.heap.size ≤ w'.heap.size) (hk : ∀ i, i < w.heap.size → P i → (∃ j q, w.cell? ⟨i, j, none⟩ = some (.pointer q)) → w'.heap[i]? = w.heap[i]?) : RPp P w' v bs := by
  obtain ⟨a, c, e, h | ⟨g, o, ea, hP, hg, h⟩⟩ := h
  · exact ⟨a, c, e, .inl h⟩
  · refine ⟨a, c, e, .inr ⟨g, o, ea, hP, Nat.lt_of_lt_of_le hg hs, fun i b hb => ?_⟩⟩
    have hc := h i b hb
    have := hk g hg hP ⟨_, _, hc⟩
    simp only [World.cell?, this] at hc ⊢
    exact hc
theorem YP.gs (h : YP P w v S bs) (hg : Gs p w w') (hp : ∀ i, P i → ¬ p i) : YP P w' v S bs :=
  ⟨h.rp.kb hg.size fun i hi hP _ => hg.block i hi (hp i hP), h.len, fun i e s he hs => PS.gs (h.px i e s he hs) hg (hp _ (h.inP e (List.mem_of_getElem? he)).1) (hp _ (h.inP e (List.mem_of_getElem? he)).2), h.inP, h.ap⟩
theorem YP.bel (h : YP P w v S bs) (hb : Below w.heap.size w w') : YP P w' v S bs :=
  ⟨h.rp.kb hb.size fun i hi _ _ => hb.block i hi, h.len, fun i e s he hs => PS.bel (h.px i e s he hs) hb, h.inP, h.ap⟩
theorem YP.cross (h : YP P w v S bs) {i j : Nat} {e f : Nat × Nat} (he : bs[i]? = some e) (hf : bs[j]? = some f) : e.1 ≠ f.2 := fun eq => by
  obtain ⟨s, hs⟩ : ∃ s, S[i]? = some s := ⟨_, List.getElem?_eq_getElem (by rw [← h.len]; exact (List.getElem?_eq_some_iff.1 he).1)⟩
  obtain ⟨s', hs'⟩ : ∃ s, S[j]? = some s := ⟨_, List.getElem?_eq_getElem (by rw [← h.len]; exact (List.getElem?_eq_some_iff.1 hf).1)⟩
  have h1 : PS w e.1 e.2 s.q s.f s.off s.m s.L := h.px i e s he hs
  have h2 : PS w f.1 f.2 s'.q s'.f s'.off s'.m s'.L := h.px j f s' hf hs'
  have hb := h1.blk
  rw [eq] at hb
  exact h2.map.notCells hb
theorem YP.put (h : YP P w v S bs) {i : Nat} {e : Nat × Nat} {s s' : SS} (he : bs[i]? = some e) (hs : S[i]? = some s) (hg : Gs (two e.1 e.2) w w') (hX : PX w' e.1 e.2 s') : YP P w' v (S.set i s') bs := by
  refine ⟨h.rp.kb hg.size fun j hj _ hc => hg.block j hj ?_, by rw [List.length_set]; exact h.len, fun j f x hf hx => ?_, h.inP, h.ap⟩
  · obtain ⟨_, _, hc⟩ := hc
    exact (h.px i e s he hs).far hc
  · rw [List.getElem?_set] at hx
    by_cases hij : i = j
    · subst hij
      have hil : i < S.length := (List.getElem?_eq_some_iff.1 hs).1
      rw [if_pos rfl, if_pos hil] at hx
      cases hx
      rw [he] at hf
      cases hf
      exact hX
    · rw [if_neg hij] at hx
      have := h.ap i j e f he hf hij
      refine PS.gs (h.px j f x hf hx) hg ?_ ?_
      · rintro (q | q)
        · exact this.1 q.symm
        · exact h.cross hf he q
      · rintro (q | q)
        · exact h.cross he hf q.symm
        · exact this.2 q.symm
theorem answer_any (h : YP P w v S bs) (hG : GD t S) (ht : t ≤ 1000) (q : QT) (hn : q.n.size ≤ maxLen) (hd : q.d.size ≤ maxLen) :
    Calls Try.prog 40 #[v, .agg #[.int .i64 q.st, .int .i64 q.k, .string q.n, .string q.d]] w fun e w' => ∃ u, e = .returned u ∧ AR w' w.heap.size u (yR S q) ∧ YP P w' v (yS S q) bs ∧ Gs P w w' := by
  by_cases h0 : 0 ≤ q.st
  · cases hs : S[q.st.toNat]? with
    | some s =>
      obtain ⟨e, he⟩ : ∃ e, bs[q.st.toNat]? = some e := ⟨_, List.getElem?_eq_getElem (by rw [h.len]; exact (List.getElem?_eq_some_iff.1 hs).1)⟩
      have hg := hG s (List.mem_of_getElem? hs)
      have hst : q.st = ((q.st.toNat : Nat) : Int) := by omega
      rw [yR, yS, if_pos h0, if_pos h0, hs]
      dsimp only
      have := answer_in h.rp.rp (i := q.st.toNat) (b := e.1) (by rw [List.getElem?_map, he]; rfl) (h.px _ e s he hs) q.k q.n q.d hn hd (by have := hg.len; omega) hg.m0 (by have := hg.mt; omega) hg.f
      rw [← hst] at this
      refine this.mono ?_
      rintro e' w' ⟨u, rfl, hA, hX, hG2⟩
      exact ⟨u, rfl, hA, h.put he hs hG2 hX, hG2.mono fun i _ hi => by
        rcases hi with hi | hi
        · rw [hi]; exact (h.inP e (List.mem_of_getElem? he)).1
        · rw [hi]; exact (h.inP e (List.mem_of_getElem? he)).2⟩
    | none =>
      rw [yR, yS, if_pos h0, if_pos h0, hs]
      have hl : S.length ≤ q.st.toNat := List.getElem?_eq_none_iff.1 hs
      refine (answer_out h.rp.rp q.st q.k q.n q.d (.inr (by rw [List.length_map, h.len]; omega))).mono ?_
      rintro e' w' ⟨rfl, hb⟩
      exact ⟨_, rfl, ⟨_, rfl, TS.nil _ _⟩, h.bel hb, Gs.of_below _ hb⟩
  · rw [yR, yS, if_neg h0, if_neg h0]
    refine (answer_out h.rp.rp q.st q.k q.n q.d (.inl (by omega))).mono ?_
    rintro e' w' ⟨rfl, hb⟩
    exact ⟨_, rfl, ⟨_, rfl, TS.nil _ _⟩, h.bel hb, Gs.of_below _ hb⟩
end
end Go.Proofs.Ytepmhgkegfpmjaa
