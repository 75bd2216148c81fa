/-
  Contracts of the program and of the statements (part 18 of 35).
-/
import Derived.Test.YtagijldedngcoaaGreatDoorOc17
import Derived.Test.YtagijldedngcoaaGreatDoorOc13
import Derived.Test.YtagijldedngcoaaGreatDoorOc16
import Derived.BigQuiet
import Derived.Deep.QuietTactic

namespace Go.Proofs.YtagijldedngcoaaGreatDoor
open Go.RowKit Go.Lib Go.Maps

def yR (S : List SS) (q : QT) : RR := if 0 ≤ q.st then (match S[q.st.toNat]? with | some s => doR s q.k q.n q.d | none => ⟨1, ⟨#[]⟩, []⟩) else ⟨1, ⟨#[]⟩, []⟩
def yS (S : List SS) (q : QT) : List SS := if 0 ≤ q.st then (match S[q.st.toNat]? with | some s => S.set q.st.toNat (doS s q.k q.n q.d) | none => S) else S
def yRs : List SS → List QT → List RR
  | _, [] => []
  | S, q :: r => yR S q :: yRs (yS S q) r
def ySs : List SS → List QT → List SS
  | S, [] => S
  | S, q :: r => ySs (yS S q) r
theorem yRs_len : ∀ (l : List QT) (S : List SS), (yRs S l).length = l.length
  | [], _ => rfl
  | q :: r, S => by rw [yRs, List.length_cons, yRs_len r, List.length_cons]
theorem yRs_snoc : ∀ (l : List QT) (S : List SS) (q : QT), yRs S (l ++ [q]) = yRs S l ++ [yR (ySs S l) q]
  | [], S, q => rfl
  | p :: r, S, q => by rw [List.cons_append, yRs, yRs, ySs, yRs_snoc r]; rfl
theorem ySs_snoc : ∀ (l : List QT) (S : List SS) (q : QT), ySs S (l ++ [q]) = yS (ySs S l) q
  | [], S, q => rfl
  | p :: r, S, q => by rw [List.cons_append, ySs, ySs, ySs_snoc r]
structure GO (t : Nat) (s : SS) : Prop where
  ris : Ris s.L
  sm : ∀ p ∈ s.L, p.n.size ≤ 96 ∧ p.d.size ≤ 131072
  len : s.L.length ≤ t
  m0 : 0 ≤ s.m
  mt : s.m ≤ t
  f : s.f ≤ 1048576
def GD (t : Nat) (S : List SS) : Prop := ∀ s ∈ S, GO t s
theorem GO.mono {t t' : Nat} {s : SS} (h : GO t s) (ht : t ≤ t') : GO t' s := ⟨h.ris, h.sm, Nat.le_trans h.len ht, h.m0, Int.le_trans h.mt (by omega), h.f⟩
theorem doS_okp (s : SS) (k : Int) (n d : ByteArray) : (doS s k n d).L.length ≤ s.L.length + 1 ∧ s.m ≤ (doS s k n d).m ∧ (doS s k n d).m ≤ s.m + 1 ∧ (doS s k n d).f ≤ s.f := by
  rw [doS]
  have h1 := len_lay s.L n d
  have h2 := len_del s.L n
  split
  · exact ⟨by show s.L.length ≤ _; omega, by show s.m ≤ s.m + 1; omega, by show s.m + 1 ≤ s.m + 1; omega, Int.le_refl _⟩
  · split
    · exact ⟨by show s.L.length ≤ _; omega, by show s.m ≤ s.m + 1; omega, by show s.m + 1 ≤ s.m + 1; omega, by show s.f - 1 ≤ s.f; omega⟩
    · refine ⟨?_, by show s.m ≤ s.m + 1; omega, by show s.m + 1 ≤ s.m + 1; omega, Int.le_refl _⟩
      dsimp only
      rw [putL]
      (repeat' split) <;> omega
theorem GO.step {t : Nat} {s : SS} (h : GO t s) (k : Int) (n d : ByteArray) : GO (t + 1) (doS s k n d) := by
  obtain ⟨h1, h2, h3, h4⟩ := doS_okp s k n d
  have hL : Ris (doS s k n d).L ∧ ∀ p ∈ (doS s k n d).L, p.n.size ≤ 96 ∧ p.d.size ≤ 131072 := by
    rw [doS]
    split
    · exact ⟨h.ris, h.sm⟩
    · split
      · exact ⟨h.ris, h.sm⟩
      · dsimp only
        split
        · rw [putL]
          split
          · rename_i hp
            rw [pcode] at hp
            split at hp
            · rename_i hm
              split at hp
              · rename_i hd
                exact ⟨ris_lay h.ris n d, small_lay h.sm (mayB_size hm) hd⟩
              · cases hp
            · cases hp
          · exact ⟨h.ris, h.sm⟩
        · split
          · exact ⟨ris_del h.ris n, small_del h.sm n⟩
          · exact ⟨h.ris, h.sm⟩
  have := h.len
  have := h.m0
  have := h.mt
  have := h.f
  exact ⟨hL.1, hL.2, by omega, by omega, by omega, by omega⟩
theorem GD.step {t : Nat} {S : List SS} (h : GD t S) (q : QT) : GD (t + 1) (yS S q) := by
  rw [yS]
  split
  · split
    · rename_i s hs
      intro x hx
      rcases List.mem_or_eq_of_mem_set hx with hx | hx
      · exact (h x hx).mono (by omega)
      · rw [hx]; exact (h s (List.mem_of_getElem? hs)).step _ _ _
    · exact fun x hx => (h x hx).mono (by omega)
  · exact fun x hx => (h x hx).mono (by omega)
theorem GD.steps : ∀ (l : List QT) {t : Nat} {S : List SS}, GD t S → GD (t + l.length) (ySs S l)
  | [], _, _, h => h
  | q :: r, t, S, h => by
    have := GD.steps r (h.step q)
    rw [ySs, List.length_cons, show t + (r.length + 1) = t + 1 + r.length by omega]
    exact this
theorem doR_names (s : SS) (k : Int) (n d : ByteArray) : (doR s k n d).l.length ≤ s.L.length := by
  rw [doR]
  split
  · simp
  · split
    · simp
    · split
      · simp
      · split
        · simp
        · split
          · exact names_len _ _
          · split <;> simp
theorem yR_names {t : Nat} {S : List SS} (h : GD t S) (q : QT) : (yR S q).l.length ≤ t := by
  rw [yR]
  split
  · split
    · rename_i s hs
      exact Nat.le_trans (doR_names _ _ _ _) (h s (List.mem_of_getElem? hs)).len
    · simp
  · simp
theorem resI_app (A B : List RR) : resI (A ++ B) = resI A ++ resI B := by simp [resI]
theorem yRs_names : ∀ (l : List QT) {t : Nat} {S : List SS}, GD t S → (resI (yRs S l)).length ≤ l.length * (t + l.length)
  | [], _, _, _ => by simp [yRs, resI]
  | q :: r, t, S, h => by
    have h1 := yRs_names r (h.step q)
    have h2 := yR_names h q
    rw [yRs, show yR S q :: yRs (yS S q) r = [yR S q] ++ yRs (yS S q) r from rfl, resI_app, List.length_append]
    have h3 : (resI [yR S q]).length = (yR S q).l.length := by simp [resI]
    rw [h3, List.length_cons, Nat.add_mul, Nat.one_mul, show t + (r.length + 1) = t + 1 + r.length by omega]
    omega

def RPp (P : Nat → Prop) (w : World) (v : Value) (bs : List Nat) : Prop :=
  ∃ a c, v = .slice a bs.length c ∧ (bs = [] ∨ ∃ g o, a = some ⟨g, o, none⟩ ∧ P g ∧ g < w.heap.size ∧ ∀ i b, bs[i]? = some b → w.cell? ⟨g, o + i, none⟩ = some (.pointer (some ⟨b, 0, none⟩)))
structure YP (P : Nat → Prop) (w : World) (v : Value) (S : List SS) (bs : List (Nat × Nat)) : Prop where
  rp : RPp P w v (bs.map (·.1))
  len : bs.length = S.length
  px : ∀ (i : Nat) (e : Nat × Nat) (s : SS), bs[i]? = some e → S[i]? = some s → PX w e.1 e.2 s
  inP : ∀ e ∈ bs, P e.1 ∧ P e.2
  ap : ∀ (i j : Nat) (e f : Nat × Nat), bs[i]? = some e → bs[j]? = some f → i ≠ j → e.1 ≠ f.1 ∧ e.2 ≠ f.2
section
variable {P p : Nat → Prop} {w w' : World} {v : Value} {S : List SS} {bs : List (Nat × Nat)} {t : Nat}
theorem RPp.rp {bs : List Nat} (h : RPp P w v bs) : RP w v bs := by
  obtain ⟨a, c, e, h | ⟨g, o, ea, _, h⟩⟩ := h
  · exact ⟨a, c, e, .inl h⟩
  · exact ⟨a, c, e, .inr ⟨g, o, ea, h⟩⟩
theorem RPp.kb {bs : List Nat} (h : RPp P w v bs) (hs : w.heap.size ≤ w'.heap.size) (hk : ∀ i, i < w.heap.size → P i → (∃ j q, w.cell? ⟨i, j, none⟩ = some (.pointer q)) → w'.heap[i]? = w.heap[i]?) : RPp P w' v bs := by
  obtain ⟨a, c, e, h | ⟨g, o, ea, hP, hg, h⟩⟩ := h
  · exact ⟨a, c, e, .inl h⟩
  · refine ⟨a, c, e, .inr ⟨g, o, ea, hP, Nat.lt_of_lt_of_le hg hs, fun i b hb => ?_⟩⟩
    have hc := h i b hb
    have := hk g hg hP ⟨_, _, hc⟩
    simp only [World.cell?, this] at hc ⊢
    exact hc
theorem YP.gs (h : YP P w v S bs) (hg : Gs p w w') (hp : ∀ i, P i → ¬ p i) : YP P w' v S bs :=
  ⟨h.rp.kb hg.size fun i hi hP _ => hg.block i hi (hp i hP), h.len, fun i e s he hs => PS.gs (h.px i e s he hs) hg (hp _ (h.inP e (List.mem_of_getElem? he)).1) (hp _ (h.inP e (List.mem_of_getElem? he)).2), h.inP, h.ap⟩
theorem YP.bel (h : YP P w v S bs) (hb : Below w.heap.size w w') : YP P w' v S bs :=
  ⟨h.rp.kb hb.size fun i hi _ _ => hb.block i hi, h.len, fun i e s he hs => PS.bel (h.px i e s he hs) hb, h.inP, h.ap⟩
theorem YP.cross (h : YP P w v S bs) {i j : Nat} {e f : Nat × Nat} (he : bs[i]? = some e) (hf : bs[j]? = some f) : e.1 ≠ f.2 := fun eq => by
  obtain ⟨s, hs⟩ : ∃ s, S[i]? = some s := ⟨_, List.getElem?_eq_getElem (by rw [← h.len]; exact (List.getElem?_eq_some_iff.1 he).1)⟩
  obtain ⟨s', hs'⟩ : ∃ s, S[j]? = some s := ⟨_, List.getElem?_eq_getElem (by rw [← h.len]; exact (List.getElem?_eq_some_iff.1 hf).1)⟩
  have h1 : PS w e.1 e.2 s.q s.f s.off s.m s.L := h.px i e s he hs
  have h2 : PS w f.1 f.2 s'.q s'.f s'.off s'.m s'.L := h.px j f s' hf hs'
  have hb := h1.blk
  rw [eq] at hb
  exact h2.map.notCells hb
theorem YP.put (h : YP P w v S bs) {i : Nat} {e : Nat × Nat} {s s' : SS} (he : bs[i]? = some e) (hs : S[i]? = some s) (hg : Gs (two e.1 e.2) w w') (hX : PX w' e.1 e.2 s') : YP P w' v (S.set i s') bs := by
  refine ⟨h.rp.kb hg.size fun j hj _ hc => hg.block j hj ?_, by rw [List.length_set]; exact h.len, fun j f x hf hx => ?_, h.inP, h.ap⟩
  · obtain ⟨_, _, hc⟩ := hc
    exact (h.px i e s he hs).far hc
  · rw [List.getElem?_set] at hx
    by_cases hij : i = j
    · subst hij
      have hil : i < S.length := (List.getElem?_eq_some_iff.1 hs).1
      rw [if_pos rfl, if_pos hil] at hx
      cases hx
      rw [he] at hf
      cases hf
      exact hX
    · rw [if_neg hij] at hx
      have := h.ap i j e f he hf hij
      refine PS.gs (h.px j f x hf hx) hg ?_ ?_
      · rintro (q | q)
        · exact this.1 q.symm
        · exact h.cross hf he q
      · rintro (q | q)
        · exact h.cross he hf q.symm
        · exact this.2 q.symm
def Qs (bs : List (Nat × Nat)) (i : Nat) : Prop := ∃ e ∈ bs, i = e.1 ∨ i = e.2
theorem YP.qs (h : YP P w v S bs) {i : Nat} (hi : Qs bs i) : P i := by
  obtain ⟨e, he, h1 | h1⟩ := hi
  · rw [h1]; exact (h.inP e he).1
  · rw [h1]; exact (h.inP e he).2
theorem answer_any (h : YP P w v S bs) (hG : GD t S) (ht : t ≤ 1000) (q : QT) (hn : q.n.size ≤ maxLen) (hd : q.d.size ≤ maxLen) :
    Calls Tryz.prog 132 #[v, .agg #[.int .i64 q.st, .int .i64 q.k, .string q.n, .string q.d]] w fun e w' => ∃ u, e = .returned u ∧ AR w' w.heap.size u (yR S q) ∧ YP P w' v (yS S q) bs ∧ Gs (Qs bs) w w' := by
  by_cases h0 : 0 ≤ q.st
  · cases hs : S[q.st.toNat]? with
    | some s =>
      obtain ⟨e, he⟩ : ∃ e, bs[q.st.toNat]? = some e := ⟨_, List.getElem?_eq_getElem (by rw [h.len]; exact (List.getElem?_eq_some_iff.1 hs).1)⟩
      have hg := hG s (List.mem_of_getElem? hs)
      have hst : q.st = ((q.st.toNat : Nat) : Int) := by omega
      rw [yR, yS, if_pos h0, if_pos h0, hs]
      dsimp only
      have := answer_in h.rp.rp (i := q.st.toNat) (b := e.1) (by rw [List.getElem?_map, he]; rfl) (h.px _ e s he hs) q.k q.n q.d hn hd (by have := hg.len; omega) hg.m0 (by have := hg.mt; omega) hg.f
      rw [← hst] at this
      refine this.mono ?_
      rintro e' w' ⟨u, rfl, hA, hX, hG2⟩
      exact ⟨u, rfl, hA, h.put he hs hG2 hX, hG2.mono fun i _ hi => by
        rcases hi with hi | hi
        · exact ⟨e, List.mem_of_getElem? he, .inl hi⟩
        · exact ⟨e, List.mem_of_getElem? he, .inr hi⟩⟩
    | none =>
      rw [yR, yS, if_pos h0, if_pos h0, hs]
      have hl : S.length ≤ q.st.toNat := List.getElem?_eq_none_iff.1 hs
      refine (answer_out h.rp.rp q.st q.k q.n q.d (.inr (by rw [List.length_map, h.len]; omega))).mono ?_
      rintro e' w' ⟨rfl, hb⟩
      exact ⟨_, rfl, ⟨_, rfl, TS.nil _ _⟩, h.bel hb, Gs.of_below _ hb⟩
  · rw [yR, yS, if_neg h0, if_neg h0]
    refine (answer_out h.rp.rp q.st q.k q.n q.d (.inl (by omega))).mono ?_
    rintro e' w' ⟨rfl, hb⟩
    exact ⟨_, rfl, ⟨_, rfl, TS.nil _ _⟩, h.bel hb, Gs.of_below _ hb⟩
end
end Go.Proofs.YtagijldedngcoaaGreatDoor

namespace Go.Proofs.YtagijldedngcoaaGreatDoor
open Go.RowKit Go.Lib Go.Maps
inductive PN (α : Type) where
  | fin : α → PN α
  | ask : QT → (RR → PN α) → PN α
section
variable {α : Type}
def sqP : List QT → List RR → (List RR → PN α) → PN α
  | [], A, k => k A
  | q :: l, A, k => .ask q fun x => sqP l (A ++ [x]) k
def PN.aft : PN α → List RR → PN α
  | p, [] => p
  | .fin r, _ :: _ => .fin r
  | .ask _ k, x :: A => PN.aft (k x) A
def PN.tr : PN α → List SS → List QT
  | .fin _, _ => []
  | .ask q k, S => q :: PN.tr (k (yR S q)) (yS S q)
def PN.res : PN α → List SS → α
  | .fin r, _ => r
  | .ask q k, S => PN.res (k (yR S q)) (yS S q)
theorem tr_aft : ∀ (p : PN α) (S : List SS) (t : Nat), t ≤ (p.tr S).length → (p.aft (yRs S ((p.tr S).take t))).tr (ySs S ((p.tr S).take t)) = (p.tr S).drop t ∧ (p.aft (yRs S ((p.tr S).take t))).res (ySs S ((p.tr S).take t)) = p.res S
  | .fin r, S, t, h => by
    have : t = 0 := by simpa [PN.tr] using h
    subst this
    simp [PN.tr, yRs, ySs, PN.aft]
  | .ask q k, S, 0, _ => by simp [yRs, ySs, PN.aft]
  | .ask q k, S, t + 1, h => by
    have ih := tr_aft (k (yR S q)) (yS S q) t (by simpa [PN.tr] using h)
    simp only [PN.tr, List.take_succ_cons, yRs, ySs, PN.aft, List.drop_succ_cons, PN.res]
    exact ih
theorem aft_snoc : ∀ (A : List RR) (p : PN α) (x : RR), p.aft (A ++ [x]) = (p.aft A).aft [x]
  | [], p, x => by cases p <;> rfl
  | y :: A, .fin r, x => by simp only [List.cons_append, PN.aft]
  | y :: A, .ask q k, x => by simp only [List.cons_append, PN.aft]; exact aft_snoc A (k y) x
theorem aft_ask {q : QT} {k : RR → PN α} (x : RR) : (PN.ask q k).aft [x] = k x := by
  simp only [PN.aft]
theorem aft_at {p : PN α} {S : List SS} {t : Nat} {q : QT} (h : (p.tr S)[t]? = some q) : ∃ k, p.aft (yRs S ((p.tr S).take t)) = .ask q k := by
  obtain ⟨hl, rfl⟩ := List.getElem?_eq_some_iff.1 h
  have h1 := (tr_aft p S t (by omega)).1
  rw [List.drop_eq_getElem_cons hl] at h1
  cases hp : p.aft (yRs S ((p.tr S).take t)) with
  | fin r => rw [hp, PN.tr] at h1; cases h1
  | ask q' k => rw [hp, PN.tr] at h1; injection h1 with h2; exact ⟨k, by rw [h2]⟩
theorem aft_end {p : PN α} {S : List SS} : p.aft (yRs S (p.tr S)) = .fin (p.res S) := by
  have h1 := tr_aft p S (p.tr S).length (Nat.le_refl _)
  rw [List.take_length, List.drop_length] at h1
  cases hp : p.aft (yRs S (p.tr S)) with
  | fin r => rw [hp] at h1; rw [← h1.2]; rfl
  | ask q k => rw [hp, PN.tr] at h1; cases h1.1
theorem sqP_tr : ∀ (l : List QT) (A : List RR) (k : List RR → PN α) (S : List SS), (sqP l A k).tr S = l ++ (k (A ++ yRs S l)).tr (ySs S l)
  | [], A, k, S => by simp [sqP, yRs, ySs]
  | q :: l, A, k, S => by
    rw [sqP, PN.tr, sqP_tr l, yRs, ySs, List.append_assoc]
    rfl
theorem sqP_res : ∀ (l : List QT) (A : List RR) (k : List RR → PN α) (S : List SS), (sqP l A k).res S = (k (A ++ yRs S l)).res (ySs S l)
  | [], A, k, S => by simp [sqP, yRs, ySs]
  | q :: l, A, k, S => by
    rw [sqP, PN.res, sqP_res l, yRs, ySs, List.append_assoc]
    rfl
end
def okR (x : RR) : Prop := (∀ y ∈ x.l, y.size ≤ maxLen) ∧ x.d.size ≤ 1000000
theorem yR_ok {t : Nat} {S : List SS} (h : GD t S) (q : QT) : okR (yR S q) := by
  rw [yR]
  split
  · split
    · rename_i s hs
      have hg := h s (List.mem_of_getElem? hs)
      rw [doR]
      refine ⟨?_, ?_⟩
      · (repeat' split) <;> intro y hy <;> try (simp at hy; done)
        obtain ⟨p, hp, rfl⟩ := List.mem_map.1 hy
        have := (hg.sm p (List.mem_filter.1 hp).1).1
        unfold maxLen; omega
      · have hz : (0 : Nat) ≤ 1000000 := by omega
        (repeat' split) <;> first | exact hz | skip
        show ((thr s.L q.n).getD ⟨#[]⟩).size ≤ 1000000
        cases ht : thr s.L q.n with
        | none => exact hz
        | some x =>
          have := (thr_small hg.sm ht).2
          show x.size ≤ 1000000
          omega
    · exact ⟨fun y hy => by simp at hy, Nat.zero_le _⟩
  · exact ⟨fun y hy => by simp at hy, Nat.zero_le _⟩
end Go.Proofs.YtagijldedngcoaaGreatDoor

namespace Go.Proofs.YtagijldedngcoaaGreatDoor
def sx0 : Zq.SX := ⟨0, 0, 0, 0, ⟨#[]⟩, ⟨#[]⟩⟩
def lx (l : List Zq.SX) (i : Nat) : Zq.SX := (l[i]?).getD sx0
theorem lx_at {l : List Zq.SX} {i : Nat} {x : Zq.SX} (h : l[i]? = some x) : lx l i = x := by rw [lx, h]; rfl
open Classical in
noncomputable def gaV (l : List Zq.SX) : Option ByteArray := if Zq.GA (lx l) l.length (Zq.gJS (lx l) l.length) 0 then some (Zq.gJS (lx l) l.length) else none
theorem ga_one {l : List Zq.SX} {S : ByteArray} {c : Int} (h : Zq.GA (lx l) l.length S c) : (c = 0 ∧ gaV l = some S) ∨ (c ≠ 0 ∧ gaV l = none) := by
  by_cases hg : Zq.GA (lx l) l.length (Zq.gJS (lx l) l.length) 0
  · obtain ⟨h1, h2⟩ := h.one hg
    exact .inl ⟨h2, by rw [gaV, if_pos hg, h1]⟩
  · refine .inr ⟨?_, by rw [gaV, if_neg hg]⟩
    rintro rfl
    rcases h with ⟨_, _, e⟩ | ⟨h1, ⟨h2, _, e⟩ | ⟨h2, ⟨_, _, e⟩ | ⟨h3, e, _⟩⟩⟩
    · cases e
    · exact h2 e.symm
    · cases e
    · subst e; exact hg (.inr ⟨h1, .inr ⟨h2, .inr ⟨h3, rfl, rfl⟩⟩⟩)
/-! ### Choices -/
def cat (c : List Nat) (i : Nat) : Nat := (c[i]?).getD 0
def nxI (c : List Nat) (n : Nat) : Nat → Option (List Nat)
  | 0 => none
  | i + 1 => if cat c i + c.length = n + i then nxI c n i else some (c.take i ++ (List.range (c.length - i)).map fun j => cat c i + 1 + j)
def nxt (c : List Nat) (n : Nat) : Option (List Nat) := nxI c n c.length
def ith (K n : Nat) : Nat → Option (List Nat)
  | 0 => if K ≤ n then some (List.range K) else none
  | t + 1 => (ith K n t).bind fun c => nxt c n
def CI (K n : Nat) (c : List Nat) : Prop := c.length = K ∧ ∀ i, i < K → cat c i + K ≤ n + i
theorem cat_at {c : List Nat} {i x : Nat} (h : c[i]? = some x) : cat c i = x := by rw [cat, h]; rfl
theorem cat_get {c : List Nat} {i : Nat} (h : i < c.length) : c[i]? = some (cat c i) := by rw [cat, List.getElem?_eq_getElem h]; rfl
theorem cat_up {c : List Nat} {i j : Nat} (hi : i ≤ c.length) : cat (c.take i ++ (List.range (c.length - i)).map fun j => cat c i + 1 + j) j = if j < i then cat c j else if j < c.length then cat c i + 1 + (j - i) else 0 := by
  by_cases h : j < i
  · rw [if_pos h, cat, List.getElem?_append_left (by rw [List.length_take]; omega), List.getElem?_take, if_pos h, ← cat]
  · rw [if_neg h, cat, List.getElem?_append_right (by rw [List.length_take]; omega), List.length_take, show min i c.length = i by omega, List.getElem?_map]
    by_cases h2 : j < c.length
    · rw [if_pos h2, List.getElem?_range (by omega)]; rfl
    · rw [if_neg h2, List.getElem?_eq_none (by rw [List.length_range]; omega)]; rfl
theorem ci_nxI {K n : Nat} {c c' : List Nat} (h : CI K n c) : ∀ {i : Nat}, i ≤ K → nxI c n i = some c' → CI K n c'
  | 0, _, e => by rw [nxI] at e; cases e
  | i + 1, hi, e => by
    rw [nxI] at e
    obtain ⟨hl, hc⟩ := h
    split at e
    · exact ci_nxI ⟨hl, hc⟩ (by omega) e
    · rename_i hne
      cases e
      have h1 := hc i (by omega)
      refine ⟨by simp; omega, fun j hj => ?_⟩
      rw [cat_up (by omega)]
      by_cases h : j < i
      · rw [if_pos h]; exact hc j hj
      · rw [if_neg h, if_pos (by omega)]; omega
theorem ci_ith {K n : Nat} : ∀ {t : Nat} {c : List Nat}, ith K n t = some c → CI K n c
  | 0, c, h => by
    rw [ith] at h
    split at h
    · cases h
      refine ⟨by simp, fun i hi => ?_⟩
      rw [cat, List.getElem?_range hi]
      show i + K ≤ n + i
      omega
    · cases h
  | t + 1, c, h => by
    rw [ith] at h
    obtain ⟨c0, h0, h1⟩ := Option.bind_eq_some_iff.1 h
    have hc := ci_ith h0
    exact ci_nxI hc (by rw [hc.1]; exact Nat.le_refl _) h1
theorem ci_lt {K n : Nat} {c : List Nat} (h : CI K n c) {i : Nat} (hi : i < K) : cat c i < n := by have := h.2 i hi; omega
def pick (f : List Zq.SX) (c : List Nat) : List Zq.SX := c.map (lx f)
theorem pick_len (f : List Zq.SX) (c : List Nat) : (pick f c).length = c.length := by simp [pick]
theorem pick_at {f : List Zq.SX} {c : List Nat} {i : Nat} (h : i < c.length) : lx (pick f c) i = lx f (cat c i) := by
  rw [lx, pick, List.getElem?_map, cat_get h]; rfl
noncomputable def gthN (K : Nat) (f : List Zq.SX) : Nat → Nat → Option ByteArray
  | 0, _ => none
  | m + 1, t => match ith K f.length t with
    | none => none
    | some c => match gaV (pick f c) with
      | some d => some d
      | none => gthN K f m (t + 1)
noncomputable def gth (K : Nat) (f : List Zq.SX) : Option ByteArray := gthN K f 1000 0
def Fl (K : Nat) (f : List Zq.SX) (t : Nat) : Prop := ∀ s, s < t → ∃ c, ith K f.length s = some c ∧ gaV (pick f c) = none
theorem fl_gth {K : Nat} {f : List Zq.SX} : ∀ {t : Nat}, Fl K f t → t ≤ 1000 → gth K f = gthN K f (1000 - t) t
  | 0, _, _ => rfl
  | t + 1, h, ht => by
    rw [fl_gth (t := t) (fun s hs => h s (by omega)) (by omega)]
    obtain ⟨c, h1, h2⟩ := h t (by omega)
    rw [show 1000 - t = (1000 - (t + 1)) + 1 by omega, gthN, h1]
    simp only [h2]
theorem gth_ret {K t : Nat} {f : List Zq.SX} {c : List Nat} {d : ByteArray} (h : Fl K f t) (ht : t < 1000) (h1 : ith K f.length t = some c) (h2 : gaV (pick f c) = some d) : gth K f = some d := by
  rw [fl_gth h (by omega), show 1000 - t = (1000 - t - 1) + 1 by omega, gthN, h1]
  simp only [h2]
theorem gth_none {K t : Nat} {f : List Zq.SX} (h : Fl K f t) (ht : t ≤ 1000) (h1 : ith K f.length t = none ∨ t = 1000) : gth K f = none := by
  rw [fl_gth h ht]
  rcases h1 with h1 | h1
  · cases hm : 1000 - t with
    | zero => rw [gthN]
    | succ m => rw [gthN, h1]
  · subst h1; rw [gthN]
theorem Fl.snoc {K t : Nat} {f : List Zq.SX} {c : List Nat} (h : Fl K f t) (h1 : ith K f.length t = some c) (h2 : gaV (pick f c) = none) : Fl K f (t + 1) := fun s hs => by
  by_cases e : s < t
  · exact h s e
  · obtain rfl : s = t := by omega
    exact ⟨c, h1, h2⟩
/-! ### Good shards, families -/
open Classical in
noncomputable def gdX (K M : Nat) (i : Nat) (x : RR) : Option Zq.SX :=
  if x.c = 0 ∧ Zq.decOK x.d.data.toList ∧ (Zq.decX x.d.data.toList).k = K ∧ (Zq.decX x.d.data.toList).m = M ∧ (Zq.decX x.d.data.toList).i = i then some (Zq.decX x.d.data.toList) else none
noncomputable def gdL (K M : Nat) (A : List RR) : List Zq.SX := (List.range A.length).filterMap fun i => (A[i]?).bind (gdX K M i)
theorem gdL_snoc (K M : Nat) (A : List RR) (x : RR) : gdL K M (A ++ [x]) = gdL K M A ++ (gdX K M A.length x).toList := by
  rw [gdL, gdL, List.length_append, List.length_singleton, List.range_succ, List.filterMap_append]
  congr 1
  · have : ∀ (l : List Nat), (∀ i ∈ l, i < A.length) → l.filterMap (fun i => ((A ++ [x])[i]?).bind (gdX K M i)) = l.filterMap (fun i => (A[i]?).bind (gdX K M i)) := by
      intro l
      induction l with
      | nil => intro _; rfl
      | cons j r ih =>
        intro h
        rw [List.filterMap_cons, List.filterMap_cons, ih fun i hi => h i (by simp [hi]), List.getElem?_append_left (h j (by simp))]
    exact this _ fun i hi => List.mem_range.1 hi
  · rw [List.filterMap_cons]
    have : (A ++ [x])[A.length]? = some x := by simp
    rw [this]
    simp only [Option.bind_some]
    cases gdX K M A.length x <;> rfl
def ofF (f : List Zq.SX) (x : Zq.SX) : Prop := (lx f 0).long = x.long ∧ (lx f 0).id = x.id
open Classical in
noncomputable def addF : List (List Zq.SX) → Zq.SX → List (List Zq.SX)
  | [], x => [[x]]
  | f :: r, x => if ofF f x then (f ++ [x]) :: r else f :: addF r x
noncomputable def famL (L : List Zq.SX) : List (List Zq.SX) := L.foldl addF []
theorem famL_snoc (L : List Zq.SX) (x : Zq.SX) : famL (L ++ [x]) = addF (famL L) x := by rw [famL, List.foldl_append]; rfl
theorem addF_yes {x : Zq.SX} : ∀ {l : List (List Zq.SX)} {p : Nat} {f : List Zq.SX}, l[p]? = some f → ofF f x → (∀ q g, q < p → l[q]? = some g → ¬ ofF g x) → addF l x = l.set p (f ++ [x])
  | [], p, f, h, _, _ => by simp at h
  | g :: r, 0, f, h, hf, _ => by
    simp at h; subst h
    rw [addF, if_pos hf]; rfl
  | g :: r, p + 1, f, h, hf, hn => by
    have h0 := hn 0 g (by omega) rfl
    rw [addF, if_neg h0, List.set_cons_succ, addF_yes (l := r) (by simpa using h) hf fun q g' hq hg => hn (q + 1) g' (by omega) (by simpa using hg)]
theorem addF_no {x : Zq.SX} : ∀ {l : List (List Zq.SX)}, (∀ g ∈ l, ¬ ofF g x) → addF l x = l ++ [[x]]
  | [], _ => rfl
  | g :: r, hn => by rw [addF, if_neg (hn g (by simp)), addF_no (l := r) fun g' hg => hn g' (by simp [hg])]; rfl
structure FA (l : List (List Zq.SX)) : Prop where
  ne : ∀ f ∈ l, f ≠ []
  ap : ∀ (p q : Nat) (f g : List Zq.SX), l[p]? = some f → l[q]? = some g → p ≠ q → ¬ ofF f (lx g 0)
theorem lx_app {f : List Zq.SX} (h : f ≠ []) (x : Zq.SX) : lx (f ++ [x]) 0 = lx f 0 := by
  cases f with
  | nil => exact absurd rfl h
  | cons y r => rfl
theorem ofF_symm {f g : List Zq.SX} : ofF f (lx g 0) → ofF g (lx f 0) := fun h => ⟨h.1.symm, h.2.symm⟩
theorem FA.add {l : List (List Zq.SX)} (h : FA l) (x : Zq.SX) : FA (addF l x) := by
  by_cases hx : ∃ (p : Nat) (f : List Zq.SX), l[p]? = some f ∧ ofF f x
  · obtain ⟨p, f, hp, hf⟩ := hx
    have hu : ∀ (q : Nat) (g : List Zq.SX), l[q]? = some g → ofF g x → q = p := fun q g hq hg => by
      refine Classical.byContradiction fun hne => h.ap q p g f hq hp hne ⟨?_, ?_⟩
      · rw [hg.1, hf.1]
      · rw [hg.2, hf.2]
    have hpl : p < l.length := (List.getElem?_eq_some_iff.1 hp).1
    have e := addF_yes hp hf fun q g hq hg hof => by have := hu q g hg hof; omega
    rw [e]
    have hfn := h.ne f (List.mem_of_getElem? hp)
    have hat : ∀ (q : Nat) (g : List Zq.SX), (l.set p (f ++ [x]))[q]? = some g → ∃ g', l[q]? = some g' ∧ lx g 0 = lx g' 0 := fun q g hg => by
      rw [List.getElem?_set] at hg
      by_cases e : p = q
      · subst e
        rw [if_pos rfl, if_pos hpl] at hg
        cases hg
        exact ⟨f, hp, lx_app hfn x⟩
      · rw [if_neg e] at hg; exact ⟨g, hg, rfl⟩
    refine ⟨fun g hg => ?_, fun q1 q2 g1 g2 h1 h2 hne hof => ?_⟩
    · rcases List.mem_or_eq_of_mem_set hg with hg | hg
      · exact h.ne g hg
      · rw [hg]; simp
    · obtain ⟨k1, a1, b1⟩ := hat q1 g1 h1
      obtain ⟨k2, a2, b2⟩ := hat q2 g2 h2
      rw [ofF, b1, b2] at hof
      exact h.ap q1 q2 k1 k2 a1 a2 hne hof
  · have hno : ∀ g ∈ l, ¬ ofF g x := fun g hg hof => by
      obtain ⟨p, hp⟩ := List.mem_iff_getElem?.1 hg
      exact hx ⟨p, g, hp, hof⟩
    rw [addF_no hno]
    refine ⟨fun g hg => ?_, fun q1 q2 g1 g2 h1 h2 hne hof => ?_⟩
    · rcases List.mem_append.1 hg with hg | hg
      · exact h.ne g hg
      · simp at hg; subst hg; simp
    · have cs : ∀ (q : Nat) (g : List Zq.SX), (l ++ [[x]])[q]? = some g → (l[q]? = some g) ∨ (q = l.length ∧ g = [x]) := fun q g hg => by
        by_cases hq : q < l.length
        · rw [List.getElem?_append_left hq] at hg; exact .inl hg
        · rw [List.getElem?_append_right (by omega)] at hg
          have : q - l.length = 0 := by have := (List.getElem?_eq_some_iff.1 hg).1; simp at this; omega
          rw [this] at hg
          simp at hg
          exact .inr ⟨by omega, hg.symm⟩
      rcases cs q1 g1 h1 with k1 | ⟨k1, rfl⟩ <;> rcases cs q2 g2 h2 with k2 | ⟨k2, rfl⟩
      · exact h.ap q1 q2 g1 g2 k1 k2 hne hof
      · exact hno g1 (List.mem_of_getElem? k1) hof
      · exact hno g2 (List.mem_of_getElem? k2) (ofF_symm (f := [x]) hof)
      · omega
theorem famL_fa (L : List Zq.SX) : FA (famL L) := by
  have : ∀ (L : List Zq.SX) (l : List (List Zq.SX)), FA l → FA (L.foldl addF l) := by
    intro L
    induction L with
    | nil => intro l h; exact h
    | cons x r ih => intro l h; exact ih _ (h.add x)
  exact this L [] ⟨fun f hf => by simp at hf, fun p q f g hf => by simp at hf⟩
structure FV where
  d : ByteArray
  had : List Zq.SX
  e : Int
open Classical in
noncomputable def fndL (K : Nat) (want : ByteArray) : List (List Zq.SX) → Option (ByteArray × List Zq.SX)
  | [] => none
  | f :: r => if want ≠ ⟨#[]⟩ ∧ (lx f 0).id ≠ want then fndL K want r else match gth K f with
    | some d => some (d, f)
    | none => fndL K want r
def cntC (c : Int) (A : List RR) : Nat := (A.filter fun x => x.c = c).length
def awy : List RR → Int
  | [] => 0
  | x :: r => if x.c = 0 ∨ x.c = 5 then awy r else x.c
def rfs (M : Nat) (A : List RR) : Int := if awy A ≠ 0 ∧ cntC 5 A + cntC 0 A ≤ M then awy A else if 0 < cntC 0 A then 100 else 5
noncomputable def fnd (K M : Nat) (want : ByteArray) (A : List RR) : FV :=
  match fndL K want (famL (gdL K M A)) with
  | some (d, f) => ⟨d, f, 0⟩
  | none => ⟨⟨#[]⟩, [], rfs M A⟩
end Go.Proofs.YtagijldedngcoaaGreatDoor

namespace Go.Proofs.YtagijldedngcoaaGreatDoor
open Go.RowKit Go.Lib Go.Maps
def c1 (c : Int) : List Value := [.int .i64 c]
theorem c1_len (c : Int) : (c1 c).length = 1 := rfl
theorem c1_one (c : Int) : ∀ u ∈ c1 c, u.oneCell' = true := by intro u hu; simp [c1] at hu; subst hu; rfl
theorem Tryz.infoC : (Tryz.prog.info? 33).map (fun i => (i.zero, i.size, i.bytes)) = some (some (.int .i64 0), 1, 8) := by kernel_rfl
def frs (k : List Int) : List Int → Int
  | [] => 0
  | c :: r => if c = 0 ∨ c ∈ k then frs k r else c
theorem drop_at {α : Type} {l : List α} {j : Nat} {x : α} (h : l[j]? = some x) : l.drop j = x :: l.drop (j + 1) := by
  obtain ⟨h1, rfl⟩ := List.getElem?_eq_some_iff.1 h
  exact List.drop_eq_getElem_cons h1
theorem frs_at {k l : List Int} {j : Nat} {c : Int} (h : l[j]? = some c) : frs k (l.drop j) = if c = 0 ∨ c ∈ k then frs k (l.drop (j + 1)) else c := by rw [drop_at h, frs]
section
variable {w : World} {lv kv : Value} {l k : List Int} {r r' : Nat → Prop}
theorem LS.at1 {α : Type} {f : α → List Value} {a : Option Addr} {n c : Nat} {L : List α} (h : LS f 1 r w (.slice a n c) L) {j : Nat} {x : α} {u : Value} (hx : L[j]? = some x) (hu : (f x)[0]? = some u) : ∃ g o, a = some ⟨g, o, none⟩ ∧ g < w.heap.size ∧ w.cell? ⟨g, o + j, none⟩ = some u := by
  obtain ⟨a', c', e, _, h2 | ⟨g, o, ea, _, hg, hG⟩⟩ := h
  · rw [h2] at hx; simp at hx
  · simp only [Value.slice.injEq] at e
    obtain ⟨rfl, rfl, rfl⟩ := e
    have := hG j x hx 0 u hu
    rw [Nat.mul_one, Nat.add_zero] at this
    exact ⟨g, o, ea, hg, this⟩
end
section
variable {w w' : World} {v : Value} {l : List Int} {B : Nat}
theorem cpush (h : OW c1 1 33 B v l w) (c : Int) (hb : (l.length + 1) * 8 ≤ 140737488355328) (hB : B ≤ w.heap.size) :
    ∃ v' w', (Builtin.append_ #[166, 166] 166 #[v, .slice (some ⟨w.heap.size, 0, none⟩) 1 1]).run Tryz.prog (w.alloc (.cells #[.int .i64 c] 33)) = .ok v' w' ∧ OW c1 1 33 B v' (l ++ [c]) w' ∧ Gs (fun i => v.ownBlock = some i) w w' := by
  have hb0 : Below w.heap.size w (w.alloc (.cells #[.int .i64 c] 33)) := (Below.refl _ _).alloc (Nat.le_refl _) _
  obtain ⟨v', w', h1, h2, h3, h4⟩ := OW.app (ST := 166) (m := [c]) (r := fun _ => True) c1_len (by decide) (fun x _ => c1_one x) Tryz.underlying166 Tryz.infoC rfl (h.keep hb0) (LS.one c 33 w c1 1 _ trivial) (by simpa using hb) (by simp; omega) (by simp; omega)
  refine ⟨v', w', h1, h2, ⟨h3.os.trans hb0.os, h3.tape.trans hb0.tape, h3.output.trans hb0.output, Nat.le_trans hb0.size h3.size, fun i hi hn => ?_⟩⟩
  exact (h3.block i (Nat.lt_of_lt_of_le hi hb0.size) (fun e => hn e.symm)).trans (hb0.block i hi)
end
def pq (n : ByteArray) (ds : List ByteArray) : List QT := ds.mapIdx fun i d => ⟨(i : Int), 1, n, d⟩
theorem pq_snoc (n : ByteArray) (ds : List ByteArray) (d : ByteArray) : pq n (ds ++ [d]) = pq n ds ++ [⟨(ds.length : Int), 1, n, d⟩] := by rw [pq, List.mapIdx_concat]; rfl
theorem pq_len (n : ByteArray) (ds : List ByteArray) : (pq n ds).length = ds.length := by simp [pq]
def aq (k : Int) (n d : ByteArray) (m : Nat) : List QT := (List.range m).map fun i : Nat => ⟨(i : Int), k, n, d⟩
theorem aq_snoc (k : Int) (n d : ByteArray) (m : Nat) : aq k n d (m + 1) = aq k n d m ++ [⟨(m : Int), k, n, d⟩] := by rw [aq, List.range_succ, List.map_append]; rfl
theorem aq_len (k : Int) (n d : ByteArray) (m : Nat) : (aq k n d m).length = m := by simp [aq]
end Go.Proofs.YtagijldedngcoaaGreatDoor
