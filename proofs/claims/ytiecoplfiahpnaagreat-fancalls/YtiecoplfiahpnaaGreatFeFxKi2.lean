/-
  Fan: FanCalls: behind the run; the document's answers.
-/
import Derived.Test.YtiecoplfiahpnaaGreatFeFxKit
namespace Go.Proofs.YtiecoplfiahpnaaGreat
open Go.RowKit Go.Lib Go.Maps
/-- Behind the program's run: what the work was told, its result, both yards. -/
structure C0 (w0 : World) (b kb X0 : Nat) (nn : Int) (nm : ByteArray) (dv : Value) (A1 A2 A3 A4 : List RR) (v1 v2 v3 v4 v5 : Value) (X : List (RR × Value)) (ids tx sv rv : Value) (SF S : List SS) (bs : List (Nat × Nat)) (rs : List Nat) (w : World) : Prop where
  tl : TL b kb nn nm dv w A1 A2 A3 A4 v1 v2 v3 v4 v5 X
  r7 : R7 w X0 0 1 ids tx
  y : YP (Ps bs sv) w sv SF bs
  d : YD (Pd rs rv) w rv S rs
  be : Below w0.heap.size w0 w
  rl : ∀ i, i ∈ rs → w0.heap.size ≤ i ∧ i < kb
  pd : ∀ i, Pd rs rv i → i < w.heap.size
  ap : ∀ i, Ps bs sv i → i ∉ rs
  xl : kb ≤ X0
section
variable {w0 w1 wr V w2 w3 : World} {b kb X0 np k : Nat} {nn : Int} {nm : ByteArray} {dv : Value} {A1 A2 A3 A4 : List RR} {v1 v2 v3 v4 v5 : Value} {X : List (RR × Value)} {ids tx sv rv : Value} {SF S S' : List SS} {bs : List (Nat × Nat)} {rs : List Nat} {pv gv lv ev : Value} {Xg Xl Xd : List (RR × Value)} {w w' : World} {P : Nat → Prop} {L : List QT}
theorem C0.doc (h : C0 w0 b kb X0 nn nm dv A1 A2 A3 A4 v1 v2 v3 v4 v5 X ids tx sv rv SF S bs rs w) (hd : YD (Pd rs rv) w' rv S' rs) (hg : Gs (fun i => i ∈ rs) w w') : C0 w0 b kb X0 nn nm dv A1 A2 A3 A4 v1 v2 v3 v4 v5 X ids tx sv rv SF S' bs rs w' := by
  have hk : ∀ i, kb ≤ i → ¬ i ∈ rs := fun i hi hr => by have := (h.rl i hr).2; omega
  have hs := hg.size
  exact ⟨h.tl.gs hg hk, h.r7.gs hg (hk _ h.xl), h.y.gs hg h.ap, hd, hg.below h.be h.be.size fun i hi => (h.rl i hi).1, h.rl, fun i hi => by have := h.pd i hi; omega, h.ap, h.xl⟩
theorem C0.ls {α : Type} {f : α → List Value} {kk : Nat} {u : Value} {l : List α} (h : C0 w0 b kb X0 nn nm dv A1 A2 A3 A4 v1 v2 v3 v4 v5 X ids tx sv rv SF S bs rs w) (hl : LS f kk (fun i => kb ≤ i) w u l) (hg : Gs (fun i => i ∈ rs) w w') : LS f kk (fun i => kb ≤ i) w' u l :=
  hl.gs hg fun i hi hr => by have := (h.rl i hr).2; omega
theorem C0.le (h : C0 w0 b kb X0 nn nm dv A1 A2 A3 A4 v1 v2 v3 v4 v5 X ids tx sv rv SF S bs rs w) : kb ≤ w.heap.size := by have := h.tl.cb.lt; omega
theorem C0.ce (h : C0 w0 b kb X0 nn nm dv A1 A2 A3 A4 v1 v2 v3 v4 v5 X ids tx sv rv SF SF bs rs w) (hp : LS c1 1 (fun i => kb ≤ i) w pv (A1.map (·.c))) (hgv : LS x3 3 (fun i => kb ≤ i) w gv Xg) (xg : Xg.map (·.1) = A2) (hlv : LS x3 3 (fun i => kb ≤ i) w lv Xl) (xl : Xl.map (·.1) = A3) (ln : ∀ x ∈ Xl, LS t1 1 (fun i => kb ≤ i) w x.2 x.1.l) (hev : LS x3 3 (fun i => kb ≤ i) w ev Xd) (xd : Xd.map (·.1) = A4) (b1 : A1.length ≤ 1000) (b2 : A2.length ≤ 1000) (b3 : A3.length ≤ 1000) (b4 : A4.length ≤ 1000) (b5 : (resI A3).length ≤ 100000) (gd : GD 1000 SF) :
    CE w0 b kb X0 nn nm dv A1 A2 A3 A4 v1 v2 v3 v4 v5 X ids tx sv rv SF bs rs pv gv lv ev Xg Xl Xd w :=
  ⟨h.tl, h.r7, h.y, h.d, hp.mono fun _ _ => trivial, hgv.mono fun _ _ => trivial, xg, hlv.mono fun _ _ => trivial, xl, fun x hx => (ln x hx).mono fun _ _ => trivial, hev.mono fun _ _ => trivial, xd, b1, b2, b3, b4, b5, gd, h.be⟩
theorem c0_mk (hBO : BO w1 wr sv rv bs rs) (l4' : rs.length = 4) (hb1 : Below w0.heap.size w0 w1) (hkb : kb = wr.heap.size) (hBV : Below wr.heap.size wr V) (hVs : V.heap.size = kb + 1) (hG2 : Gs (fun i => i = kb) V w2) (hP2 : ∀ i, P i → i = kb ∨ V.heap.size ≤ i) (hRN : RNX b (FC b kb nn nm dv np k) L P (Ps bs sv) w2 w3 sv S3 bs) (hA : yRs S3 L = A1 ++ A2 ++ A3 ++ A4) (l1 : A1.length = np) (l2 : A2.length = k) (l3 : A3.length = k) :
    ∃ v1 v2 v3 v4 v5 X, C0 w0 b kb w3.heap.size nn nm dv A1 A2 A3 A4 v1 v2 v3 v4 v5 X ids tx sv rv (ySs S3 L) S3 bs rs (w3.alloc (.cells #[.int .i64 0, .string ⟨#[]⟩, .int .i64 1, ids, tx, .slice none 0 0, .slice none 0 0] 56)) := by
  obtain ⟨P', hF, hPb, hP'⟩ := hRN.f
  have hs2 := hG2.size
  have hs3 := hRN.g.size
  have hs1 := hb1.size
  have hsr := hBO.be.size
  have hPk : ∀ i, P i → kb ≤ i := fun i hi => by rcases hP2 i hi with h | h <;> omega
  have hP'k : ∀ i, P' i → kb ≤ i := fun i hi => by
    rcases hP' i hi with h | h
    · exact hPk i h
    · omega
  obtain ⟨v1, v2, v3, v4, v5, X, hTL⟩ := hF.tl hA l1 l2 l3 hP'k
  have hBW : Below w3.heap.size w3 (w3.alloc (.cells #[.int .i64 0, .string ⟨#[]⟩, .int .i64 1, ids, tx, .slice none 0 0, .slice none 0 0] 56)) := (Below.refl _ _).alloc (Nat.le_refl _) _
  have hQ : ∀ i, Qs bs i → w1.heap.size ≤ i ∧ i < wr.heap.size := fun i hi => hBO.ps (Qs.ps (sv := sv) hi)
  have hPd : ∀ i, Pd rs rv i → w1.heap.size ≤ i ∧ i < wr.heap.size := fun i hi => hBO.pd hi
  have hyf : YF (Pd rs rv) w3 rv rs := (((hBO.yf l4').bel hBV).gs hG2 fun i hi e => by have := (hPd i hi).2; omega).gs hRN.g fun i hi e => by
    rcases e with e | e
    · have := hPk i e; have := (hPd i hi).2; omega
    · exact hBO.apart (Qs.ps e) hi
  have hbr : Below w0.heap.size w0 wr := hb1.trans (hBO.be.mono hs1)
  have hbV : Below w0.heap.size w0 V := hbr.trans (hBV.mono hbr.size)
  have hb2 : Below w0.heap.size w0 w2 := hG2.below hbV hbV.size fun i e => by omega
  have hb3 : Below w0.heap.size w0 w3 := hRN.g.below hb2 hb2.size fun i e => by
    rcases e with e | e
    · have := hPk i e; omega
    · have := (hQ i e).1; omega
  refine ⟨v1, v2, v3, v4, v5, X, hTL.bel hBW, heap_alloc_new w3 _, hRN.y.bel hBW, (hyf.bel hBW).yd, hb3.trans (hBW.mono hb3.size), fun i hi => ?_, fun i hi => ?_, fun i hi hr => hBO.apart hi (.inl hr), by omega⟩
  · have := hPd i (.inl hi); omega
  · have := (hPd i hi).2; simp; omega
theorem c0_all {t : Nat} {A : List RR} {kk : Int} (h : C0 w0 b kb X0 nn nm dv A1 A2 A3 A4 v1 v2 v3 v4 v5 X ids tx sv rv SF S bs rs w) (hn : nm.size ≤ maxLen) (hG : GD t S) (ht : t ≤ 700) (hA : yRs S (aq kk nm ⟨#[]⟩ (nst nn)) = A) (hS : ySs S (aq kk nm ⟨#[]⟩ (nst nn)) = S') :
    Calls Tryz.prog 21 #[rv, .int .i64 nn, .agg #[.int .i64 0, .int .i64 kk, .string nm, .string ⟨#[]⟩]] w fun e w' => ∃ v Y, e = .returned v ∧ C0 w0 b kb X0 nn nm dv A1 A2 A3 A4 v1 v2 v3 v4 v5 X ids tx sv rv SF S' bs rs w' ∧ LS x3 3 (fun i => kb ≤ i) w' v Y ∧ Y.map (·.1) = A ∧ (∀ x ∈ Y, LS t1 1 (fun i => kb ≤ i) w' x.2 x.1.l) ∧ Gs (fun i => i ∈ rs) w w' := by
  have hle := h.le
  refine (all9 h.d h.pd hG ht nn kk nm hn).mono ?_
  rintro e w' ⟨v, Y, rfl, h1, h2, h3, h4, h5⟩
  rw [hS] at h4
  rw [hA] at h2
  refine ⟨v, Y, rfl, h.doc h4 h5, h1.ls x3_len fun i hi => ?_, h2, fun x hx => (h3 x hx).ls fun i hi => ?_, h5⟩
  · have := (h1.lt i hi).1; omega
  · have := ((h3 x hx).lt i hi).1; omega
theorem c0_puts {ds : List ByteArray} (h : C0 w0 b kb X0 nn nm dv A1 A2 A3 A4 v1 v2 v3 v4 v5 X ids tx sv rv SF S3 bs rs w) (hn : nm.size ≤ maxLen) (hds : ∀ d ∈ ds, d.size ≤ maxLen) (hl : ds.length ≤ 12) (hd : LS t1 1 (fun i => i < w0.heap.size) w0 dv ds) (hA : yRs S3 (pq nm ds) = A1) (hS : ySs S3 (pq nm ds) = S') :
    Calls Tryz.prog 20 #[rv, .string nm, dv] w fun e w' => ∃ v, e = .returned v ∧ C0 w0 b kb X0 nn nm dv A1 A2 A3 A4 v1 v2 v3 v4 v5 X ids tx sv rv SF S' bs rs w' ∧ LS c1 1 (fun i => kb ≤ i) w' v (A1.map (·.c)) := by
  have hle := h.le
  refine (rputs_any h.d h.pd S3_gd (by omega) (hd.kb h.be.size fun i hi _ => h.be.block i hi) (fun i hi hr => by have := (h.rl i hr).1; omega) hn hds).mono ?_
  rintro e w' ⟨v, rfl, h1, h2, h3⟩
  rw [hS] at h2
  rw [hA] at h1
  exact ⟨v, rfl, h.doc h2 h3, h1.ls c1_len fun i hi => by have := (h1.lt i hi).1; omega⟩
end
theorem pqn_pq {nm : ByteArray} {ds : List ByteArray} (h : ds.length ≤ 255) : pqn nm ds = pq nm ds := by
  rw [pqn]
  by_cases h1 : 1 ≤ ds.length
  · rw [if_pos ⟨h1, h⟩]
  · have : ds = [] := List.length_eq_zero_iff.1 (by omega)
    rw [if_neg (by omega), this]; rfl
/-- The answers, one list behind the other, in plain terms. -/
structure CM (nm : ByteArray) (ds : List ByteArray) (nn : Int) (A1 A2 A3 A4 : List RR) (S5 S6 S7 SF : List SS) : Prop where
  a1 : yRs S3 (pq nm ds) = A1
  s5 : ySs S3 (pq nm ds) = S5
  a2 : yRs S5 (aq 2 nm ⟨#[]⟩ (nst nn)) = A2
  s6 : ySs S5 (aq 2 nm ⟨#[]⟩ (nst nn)) = S6
  a3 : yRs S6 (aq 3 nm ⟨#[]⟩ (nst nn)) = A3
  s7 : ySs S6 (aq 3 nm ⟨#[]⟩ (nst nn)) = S7
  a4 : yRs S7 (aq 4 nm ⟨#[]⟩ (nst nn)) = A4
  sf : ySs S7 (aq 4 nm ⟨#[]⟩ (nst nn)) = SF
  a : yRs S3 (pqn nm ds ++ restQ nm nn) = A1 ++ A2 ++ A3 ++ A4
  s : ySs S3 (pqn nm ds ++ restQ nm nn) = SF
  n1 : A1.length = (pqn nm ds).length
  n2 : A2.length = nst nn
  n3 : A3.length = nst nn
  n4 : A4.length = nst nn
  m1 : A1.length ≤ 12
  g5 : GD 12 S5
  g6 : GD 72 S6
  g7 : GD 132 S7
  gf : GD 1000 SF
  b5 : (resI A3).length ≤ 100000
  sl : SF.length = 4
theorem cm_mk (nm : ByteArray) {ds : List ByteArray} {nn : Int} (hm : ds.length ≤ 12) (hn : nst nn ≤ 60) : ∃ A1 A2 A3 A4 S5 S6 S7 SF, CM nm ds nn A1 A2 A3 A4 S5 S6 S7 SF := by
  have e := pqn_pq (nm := nm) (ds := ds) (by omega)
  have up : ∀ {t t' : Nat} {S : List SS}, GD t S → t ≤ t' → GD t' S := fun h ht s hs => (h s hs).mono ht
  have g5 : GD 12 (ySs S3 (pq nm ds)) := up (GD.steps (pq nm ds) S3_gd) (by rw [pq_len]; omega)
  have g6 := up (t' := 72) (GD.steps (aq 2 nm ⟨#[]⟩ (nst nn)) g5) (by rw [aq_len]; omega)
  have g7 := up (t' := 132) (GD.steps (aq 3 nm ⟨#[]⟩ (nst nn)) g6) (by rw [aq_len]; omega)
  have gf := up (t' := 1000) (GD.steps (aq 4 nm ⟨#[]⟩ (nst nn)) g7) (by rw [aq_len]; omega)
  refine ⟨_, _, _, _, _, _, _, _, rfl, rfl, rfl, rfl, rfl, rfl, rfl, rfl, ?_, ?_, ?_, ?_, ?_, ?_, ?_, g5, g6, g7, gf, ?_, ?_⟩
  · rw [e, restQ, yRs_app9, yRs_app9, yRs_app9]; simp only [List.append_assoc]
  · rw [e, restQ, ySs_app9, ySs_app9, ySs_app9]
  · rw [yRs_len, e]
  · rw [yRs_len, aq_len]
  · rw [yRs_len, aq_len]
  · rw [yRs_len, aq_len]
  · rw [yRs_len, pq_len]; exact hm
  · have := yRs_names (aq 3 nm ⟨#[]⟩ (nst nn)) g6
    rw [aq_len] at this
    have h2 : nst nn * (72 + nst nn) ≤ 60 * 132 := Nat.mul_le_mul hn (by omega)
    omega
  · rw [ySs_len, ySs_len, ySs_len, ySs_len]; rfl
end Go.Proofs.YtiecoplfiahpnaaGreat
