/-
  Port: the yards that both makes; the document's stores answer.
-/
import Derived.Test.YtepmhgkegfpmjaaPoBoth
namespace Go.Proofs.Ytepmhgkegfpmjaa
open Go.RowKit Go.Lib Go.Maps
def S3 : List SS := [s0, s0, s0]
theorem s0_go : GO 0 s0 := ⟨List.Pairwise.nil, fun p hp => by simp [s0] at hp, Nat.le_refl _, by decide, by decide, by decide⟩
theorem S3_gd : GD 0 S3 := fun s hs => by
  have : s = s0 := by simpa [S3] using hs
  rw [this]; exact s0_go
theorem S3_get {i : Nat} {s : SS} (h : S3[i]? = some s) : s = s0 := by
  have := List.mem_of_getElem? h
  simpa [S3] using this
/-- The blocks of the program's yard. -/
def Ps (bs : List (Nat × Nat)) (sv : Value) (i : Nat) : Prop := (∃ e ∈ bs, i = e.1 ∨ i = e.2) ∨ sv.ownBlock = some i
/-- The document's yard: its stores lie apart. -/
structure YD (P : Nat → Prop) (w : World) (v : Value) (S : List SS) (rs : List Nat) : Prop where
  rp : RPp P w v rs
  len : rs.length = S.length
  rd : ∀ (i b : Nat) (s : SS), rs[i]? = some b → S[i]? = some s → RD w b s
  inP : ∀ b ∈ rs, P b
  ap : ∀ (i j b b' : Nat), rs[i]? = some b → rs[j]? = some b' → i ≠ j → b ≠ b'
/-- A document's yard that nobody has asked yet. -/
structure YF (P : Nat → Prop) (w : World) (v : Value) (rs : List Nat) : Prop where
  rp : RPp P w v rs
  len : rs.length = 3
  rd : ∀ b ∈ rs, RSt w b 200 0 0 false (.slice none 0 0)
  inP : ∀ b ∈ rs, P b
  ap : ∀ (i j b b' : Nat), rs[i]? = some b → rs[j]? = some b' → i ≠ j → b ≠ b'
def Pd (rs : List Nat) (rv : Value) (i : Nat) : Prop := i ∈ rs ∨ rv.ownBlock = some i
section
variable {w w' : World} {sv rv v : Value} {bs : List (Nat × Nat)} {rs : List Nat} {P p : Nat → Prop} {S : List SS} {t : Nat}
theorem OW.rpp {T : TypeId} {B : Nat} {l : List Nat} (h : OW pp 1 T B v l w) (hP : ∀ i, v.ownBlock = some i → P i) : RPp P w v l := by
  obtain ⟨a, c, e, _, h | ⟨g, o, ea, h3, h4, h5⟩⟩ := h.ls pp_len hP
  · exact ⟨a, c, e, .inl h⟩
  · refine ⟨a, c, e, .inr ⟨g, o, ea, h3, h4, fun i b hb => ?_⟩⟩
    have := h5 i b hb 0 _ rfl
    rw [Nat.mul_one, Nat.add_zero] at this
    exact this
theorem BO.yp (h : BO w w' sv rv bs rs) (hl : bs.length = 3) : YP (Ps bs sv) w' sv S3 bs :=
  ⟨h.s.rpp fun _ hi => .inr hi, hl, fun i e s he hs => by rw [S3_get hs]; exact (h.px e (List.mem_of_getElem? he)).1, fun e he => ⟨.inl ⟨e, he, .inl rfl⟩, .inl ⟨e, he, .inr rfl⟩⟩, h.ap⟩
theorem BO.ps (h : BO w w' sv rv bs rs) {i : Nat} (hi : Ps bs sv i) : w.heap.size ≤ i ∧ i < w'.heap.size := by
  rcases hi with ⟨e, he, h1 | h1⟩ | h1
  · rw [h1]; exact ⟨(h.px e he).2.1, PS.lt (h.px e he).1⟩
  · rw [h1]; exact ⟨(h.px e he).2.2, PS.mlt (h.px e he).1⟩
  · exact h.s.lt i h1
theorem BO.yf (h : BO w w' sv rv bs rs) (hl : rs.length = 3) : YF (Pd rs rv) w' rv rs :=
  ⟨h.r.rpp fun _ hi => .inr hi, hl, fun b hb => (h.rd b hb).1, fun _ hb => .inl hb, h.ar⟩
theorem BO.pd (h : BO w w' sv rv bs rs) {i : Nat} (hi : Pd rs rv i) : w.heap.size ≤ i ∧ i < w'.heap.size := by
  rcases hi with h1 | h1
  · exact ⟨(h.rd i h1).2, (h.rd i h1).1.lt⟩
  · exact h.r.lt i h1
/-- The two yards lie apart. -/
theorem BO.apart (h : BO w w' sv rv bs rs) {i : Nat} (hi : Ps bs sv i) : ¬ Pd rs rv i := by
  intro hd
  rcases hd with hd | hd
  · have hr := (h.rd i hd).1
    rcases hi with ⟨e, he, h1 | h1⟩ | h1
    · have hP : PS w' e.1 e.2 s0.q s0.f s0.off s0.m s0.L := (h.px e he).1
      have := hP.blk
      rw [← h1, show w'.heap[i]? = _ from hr] at this
      simp at this
    · have hP : PS w' e.1 e.2 s0.q s0.f s0.off s0.m s0.L := (h.px e he).1
      rw [h1] at hr
      exact hP.map.notCells hr
    · obtain ⟨cs, q⟩ := h.s.typ i h1
      rw [show w'.heap[i]? = _ from hr] at q
      simp at q
  · obtain ⟨cs, hr⟩ := h.r.typ i hd
    rcases hi with ⟨e, he, h1 | h1⟩ | h1
    · have hP : PS w' e.1 e.2 s0.q s0.f s0.off s0.m s0.L := (h.px e he).1
      have := hP.blk
      rw [← h1, hr] at this
      simp at this
    · have hP : PS w' e.1 e.2 s0.q s0.f s0.off s0.m s0.L := (h.px e he).1
      rw [h1] at hr
      exact hP.map.notCells hr
    · obtain ⟨cs, q⟩ := h.s.typ i h1
      rw [hr] at q
      simp at q
theorem YF.gs (h : YF P w v rs) (hg : Gs p w w') (hp : ∀ i, P i → ¬ p i) : YF P w' v rs :=
  ⟨h.rp.kb hg.size fun i hi hP _ => hg.block i hi (hp i hP), h.len, fun b hb => (hg.block b (h.rd b hb).lt (hp b (h.inP b hb))).trans (h.rd b hb), h.inP, h.ap⟩
theorem YF.bel (h : YF P w v rs) (hb : Below w.heap.size w w') : YF P w' v rs :=
  ⟨h.rp.kb hb.size fun i hi _ _ => hb.block i hi, h.len, fun b hb' => (h.rd b hb').bel2 hb, h.inP, h.ap⟩
theorem YF.yd (h : YF P w v rs) : YD P w v S3 rs :=
  ⟨h.rp, h.len, fun i b s hb hs => by rw [S3_get hs]; exact ⟨_, h.rd b (List.mem_of_getElem? hb), OS.nil 0 w⟩, h.inP, h.ap⟩
theorem YD.gs (h : YD P w v S rs) (hg : Gs p w w') (hp : ∀ i, P i → ¬ p i) (ho : ∀ i cs fr, w.heap[i]? = some (.cells cs 94 fr) → ¬ p i) : YD P w' v S rs :=
  ⟨h.rp.kb hg.size fun i hi hP _ => hg.block i hi (hp i hP), h.len, fun i b s hb hs => (h.rd i b s hb hs).gs hg (hp b (h.inP b (List.mem_of_getElem? hb))) ho, h.inP, h.ap⟩
theorem YD.bel (h : YD P w v S rs) (hb : Below w.heap.size w w') : YD P w' v S rs :=
  ⟨h.rp.kb hb.size fun i hi _ _ => hb.block i hi, h.len, fun i b s hb' hs => (h.rd i b s hb' hs).bel hb, h.inP, h.ap⟩
theorem YD.put (h : YD P w v S rs) {i b : Nat} {s s' : SS} (he : rs[i]? = some b) (hs : S[i]? = some s) (hg : Gs (fun j => j = b) w w') (hX : RD w' b s') : YD P w' v (S.set i s') rs := by
  have hD := h.rd i b s he hs
  obtain ⟨cs, hblk⟩ := hD.blk
  refine ⟨h.rp.kb hg.size fun j hj _ hc => hg.block j hj ?_, by rw [List.length_set]; exact h.len, fun j f x hf hx => ?_, h.inP, h.ap⟩
  · obtain ⟨_, _, hc⟩ := hc
    exact hD.far hc
  · rw [List.getElem?_set] at hx
    by_cases hij : i = j
    · subst hij
      have hil : i < S.length := (List.getElem?_eq_some_iff.1 hs).1
      rw [if_pos rfl, if_pos hil] at hx
      cases hx
      rw [he] at hf
      cases hf
      exact hX
    · rw [if_neg hij] at hx
      refine (h.rd j f x hf hx).gs hg (fun e => h.ap i j b f he hf hij e.symm) fun k cs' fr hk e => ?_
      rw [e, hblk] at hk
      simp at hk
theorem ranswer_any (h : YD P w v S rs) (hG : GD t S) (ht : t ≤ 1000) (q : QT) (hn : q.n.size ≤ maxLen) (hd : q.d.size ≤ maxLen) :
    Calls Try.prog 20 #[v, .agg #[.int .i64 q.st, .int .i64 q.k, .string q.n, .string q.d]] w fun e w' => ∃ u, e = .returned u ∧ AR w' w.heap.size u (yR S q) ∧ YD P w' v (yS S q) rs ∧ Gs (fun i => i ∈ rs) w w' := by
  by_cases h0 : 0 ≤ q.st
  · cases hs : S[q.st.toNat]? with
    | some s =>
      obtain ⟨b, he⟩ : ∃ e, rs[q.st.toNat]? = some e := ⟨_, List.getElem?_eq_getElem (by rw [h.len]; exact (List.getElem?_eq_some_iff.1 hs).1)⟩
      have hg := hG s (List.mem_of_getElem? hs)
      have hst : q.st = ((q.st.toNat : Nat) : Int) := by omega
      rw [yR, yS, if_pos h0, if_pos h0, hs]
      dsimp only
      have := ranswer_in h.rp.rp (i := q.st.toNat) (b := b) he (h.rd _ b s he hs) hg.ris hg.sm q.k q.n q.d hn hd (by have := hg.len; omega) hg.m0 (by have := hg.mt; omega) hg.f
      rw [← hst] at this
      refine this.mono ?_
      rintro e' w' ⟨u, rfl, hA, hX, hG2⟩
      exact ⟨u, rfl, hA, h.put he hs hG2 hX, hG2.mono fun i _ hi => by rw [hi]; exact List.mem_of_getElem? he⟩
    | none =>
      rw [yR, yS, if_pos h0, if_pos h0, hs]
      have hl : S.length ≤ q.st.toNat := List.getElem?_eq_none_iff.1 hs
      refine (ranswer_out h.rp.rp q.st q.k q.n q.d (.inr (by rw [h.len]; omega))).mono ?_
      rintro e' w' ⟨rfl, hb⟩
      exact ⟨_, rfl, ⟨_, rfl, TS.nil _ _⟩, h.bel hb, Gs.of_below _ hb⟩
  · rw [yR, yS, if_neg h0, if_neg h0]
    refine (ranswer_out h.rp.rp q.st q.k q.n q.d (.inl (by omega))).mono ?_
    rintro e' w' ⟨rfl, hb⟩
    exact ⟨_, rfl, ⟨_, rfl, TS.nil _ _⟩, h.bel hb, Gs.of_below _ hb⟩
end
end Go.Proofs.Ytepmhgkegfpmjaa
