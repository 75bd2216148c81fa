/-
  Fan: FanCalls: what the work was told, and what the document has, side by side.
-/
import Derived.Test.YtiecoplfiahpnaaGreatFeFxCal5
import Derived.Test.YtiecoplfiahpnaaGreatFeFxRun
import Derived.Test.YtiecoplfiahpnaaGreatFeFxInt
import Derived.Test.YtiecoplfiahpnaaGreatFc12
namespace Go.Proofs.YtiecoplfiahpnaaGreat
open Go.RowKit Go.Lib Go.Maps
theorem yRs_app9 : ∀ (l m : List QT) (S : List SS), yRs S (l ++ m) = yRs S l ++ yRs (ySs S l) m
  | [], _, _ => rfl
  | q :: l, m, S => by rw [List.cons_append, yRs, yRs, ySs, yRs_app9 l m (yS S q)]; rfl
theorem ySs_app9 : ∀ (l m : List QT) (S : List SS), ySs S (l ++ m) = ySs (ySs S l) m
  | [], _, _ => rfl
  | q :: l, m, S => by rw [List.cons_append, ySs, ySs, ySs_app9 l m (yS S q)]
/-- What the work was told, in blocks from kb on. -/
structure TL (b kb : Nat) (nn : Int) (nm : ByteArray) (dv : Value) (w : World) (A1 A2 A3 A4 : List RR) (v1 v2 v3 v4 v5 : Value) (X : List (RR × Value)) : Prop where
  cb : CB w kb (.pointer (some ⟨b, 0, none⟩)) nn nm dv v1 v2 v3 v4 v5
  l1 : LS c1 1 (fun i => kb ≤ i) w v1 (A1.map (·.c))
  l2 : LS x3 3 (fun i => kb ≤ i) w v2 X
  x2 : X.map (·.1) = A2
  l3 : LS t1 1 (fun i => kb ≤ i) w v3 (lI A3)
  l4 : LS c1 1 (fun i => kb ≤ i) w v4 (A3.map (·.c))
  l5 : LS c1 1 (fun i => kb ≤ i) w v5 (A4.map (·.c))
section
variable {b kb np k : Nat} {nn : Int} {nm : ByteArray} {dv : Value} {w w' : World} {A B1 B2 B3 B4 A1 A2 A3 A4 : List RR} {v1 v2 v3 v4 v5 : Value} {X : List (RR × Value)} {p P : Nat → Prop}
theorem TL.gs (h : TL b kb nn nm dv w A1 A2 A3 A4 v1 v2 v3 v4 v5 X) (hg : Gs p w w') (hp : ∀ i, kb ≤ i → ¬ p i) : TL b kb nn nm dv w' A1 A2 A3 A4 v1 v2 v3 v4 v5 X :=
  ⟨h.cb.gs hg (hp kb (Nat.le_refl _)), h.l1.gs hg hp, h.l2.gs hg hp, h.x2, h.l3.gs hg hp, h.l4.gs hg hp, h.l5.gs hg hp⟩
theorem TL.bel (h : TL b kb nn nm dv w A1 A2 A3 A4 v1 v2 v3 v4 v5 X) (hb : Below w.heap.size w w') : TL b kb nn nm dv w' A1 A2 A3 A4 v1 v2 v3 v4 v5 X :=
  ⟨(hb.block kb h.cb.lt).trans h.cb, h.l1.bel hb, h.l2.bel hb, h.x2, h.l3.bel hb, h.l4.bel hb, h.l5.bel hb⟩
theorem FC.tl (h : FC b kb nn nm dv np k A P w) (hA : A = B1 ++ B2 ++ B3 ++ B4) (l1 : B1.length = np) (l2 : B2.length = k) (l3 : B3.length = k) (hP : ∀ i, P i → kb ≤ i) : ∃ v1 v2 v3 v4 v5 X, TL b kb nn nm dv w B1 B2 B3 B4 v1 v2 v3 v4 v5 X := by
  obtain ⟨_, A1, A2, A3, A4, v1, v2, v3, v4, v5, X, e, m1, m2, m3, hk, hC, h1, h2, hX, h3, h4, h5⟩ := h
  rw [hA] at e
  obtain ⟨e1, e4⟩ := List.append_inj e (by simp [l1, l2, l3, m1, m2, m3])
  obtain ⟨e1, e3⟩ := List.append_inj e1 (by simp [l1, l2, m1, m2])
  obtain ⟨e1, e2⟩ := List.append_inj e1 (by simp [l1, m1])
  subst e1 e2 e3 e4
  exact ⟨v1, v2, v3, v4, v5, X, hC, h1.mono hP, h2.mono hP, hX, h3.mono hP, h4.mono hP, h5.mono hP⟩
end
/-- What the work was told, and what the document has. -/
structure CE (w0 : World) (b kb X0 : Nat) (nn : Int) (nm : ByteArray) (dv : Value) (A1 A2 A3 A4 : List RR) (v1 v2 v3 v4 v5 : Value) (X : List (RR × Value)) (ids tx sv rv : Value) (SF : List SS) (bs : List (Nat × Nat)) (rs : List Nat) (pv gv lv ev : Value) (Xg Xl Xd : List (RR × Value)) (w : World) : Prop where
  tl : TL b kb nn nm dv w A1 A2 A3 A4 v1 v2 v3 v4 v5 X
  r7 : R7 w X0 0 1 ids tx
  y : YP (Ps bs sv) w sv SF bs
  d : YD (Pd rs rv) w rv SF rs
  pv : LS c1 1 (fun _ => True) w pv (A1.map (·.c))
  gv : LS x3 3 (fun _ => True) w gv Xg
  xg : Xg.map (·.1) = A2
  lv : LS x3 3 (fun _ => True) w lv Xl
  xl : Xl.map (·.1) = A3
  ln : ∀ x ∈ Xl, LS t1 1 (fun _ => True) w x.2 x.1.l
  ev : LS x3 3 (fun _ => True) w ev Xd
  xd : Xd.map (·.1) = A4
  b1 : A1.length ≤ 1000
  b2 : A2.length ≤ 1000
  b3 : A3.length ≤ 1000
  b4 : A4.length ≤ 1000
  b5 : (resI A3).length ≤ 100000
  gd : GD 1000 SF
  be : Below w0.heap.size w0 w
/-- A list of numbers: three names for three uses. -/
def IQ (w : World) (v : Value) (l : List Int) : Prop := LS c1 1 (fun _ => True) w v l ∧ l.length ≤ 1000
def JQ (w : World) (v : Value) (l : List Int) : Prop := LS c1 1 (fun _ => True) w v l
def CQ (w : World) (v : Value) (l : List Int) : Prop := LS c1 1 (fun _ => True) w v l
/-- What a call in the great test keeps. -/
def KQ (C : World → Prop) (kb X0 : Nat) (v1 v2 v3 v4 v5 : Value) (w : World) : Prop :=
  Hid (C w) ∧ w.cell? ⟨X0, 2, none⟩ = some (.int .i64 1) ∧ w.cell? ⟨kb, 4, none⟩ = some v1 ∧ w.cell? ⟨kb, 5, none⟩ = some v2 ∧ w.cell? ⟨kb, 6, none⟩ = some v3 ∧ w.cell? ⟨kb, 7, none⟩ = some v4 ∧ w.cell? ⟨kb, 8, none⟩ = some v5
section
variable {w0 : World} {b kb X0 : Nat} {nn : Int} {nm : ByteArray} {dv : Value} {A1 A2 A3 A4 : List RR} {v1 v2 v3 v4 v5 : Value} {X : List (RR × Value)} {ids tx sv rv : Value} {SF : List SS} {bs : List (Nat × Nat)} {rs : List Nat} {pv gv lv ev : Value} {Xg Xl Xd : List (RR × Value)} {w w' : World} {u v : Value} {l : List Int}
theorem CE.bel (h : CE w0 b kb X0 nn nm dv A1 A2 A3 A4 v1 v2 v3 v4 v5 X ids tx sv rv SF bs rs pv gv lv ev Xg Xl Xd w) (hb : Below w.heap.size w w') : CE w0 b kb X0 nn nm dv A1 A2 A3 A4 v1 v2 v3 v4 v5 X ids tx sv rv SF bs rs pv gv lv ev Xg Xl Xd w' :=
  ⟨h.tl.bel hb, h.r7.bel hb, h.y.bel hb, h.d.bel hb, h.pv.bel hb, h.gv.bel hb, h.xg, h.lv.bel hb, h.xl, fun x hx => (h.ln x hx).bel hb, h.ev.bel hb, h.xd, h.b1, h.b2, h.b3, h.b4, h.b5, h.gd, h.be.trans (hb.mono h.be.size)⟩
theorem CE.kq (h : CE w0 b kb X0 nn nm dv A1 A2 A3 A4 v1 v2 v3 v4 v5 X ids tx sv rv SF bs rs pv gv lv ev Xg Xl Xd w) : KQ (CE w0 b kb X0 nn nm dv A1 A2 A3 A4 v1 v2 v3 v4 v5 X ids tx sv rv SF bs rs pv gv lv ev Xg Xl Xd) kb X0 v1 v2 v3 v4 v5 w :=
  ⟨h, h.r7.cell 2, h.tl.cb.cell 4, h.tl.cb.cell 5, h.tl.cb.cell 6, h.tl.cb.cell 7, h.tl.cb.cell 8⟩
theorem IQ.bel (h : IQ w v l) (hb : Below w.heap.size w w') : IQ w' v l := ⟨h.1.bel hb, h.2⟩
theorem JQ.bel (h : JQ w v l) (hb : Below w.heap.size w w') : JQ w' v l := LS.bel h hb
theorem ce_codes (h : CE w0 b kb X0 nn nm dv A1 A2 A3 A4 v1 v2 v3 v4 v5 X ids tx sv rv SF bs rs pv gv lv ev Xg Xl Xd w) {r : Nat → Prop} (hv : LS c1 1 r w v l) (hl : l.length ≤ 1000) :
    Calls Tryz.prog 23 #[v] w fun e w' => ∃ u, e = .returned u ∧ Hid (IQ w' u l) ∧ KQ (CE w0 b kb X0 nn nm dv A1 A2 A3 A4 v1 v2 v3 v4 v5 X ids tx sv rv SF bs rs pv gv lv ev Xg Xl Xd) kb X0 v1 v2 v3 v4 v5 w' := by
  refine (codes9 hv (by omega)).mono ?_
  rintro e w' ⟨u, rfl, hO, hB⟩
  exact ⟨u, rfl, ⟨hO.ls c1_len fun _ _ => trivial, hl⟩, (h.bel hB).kq⟩
theorem ce_codes2 (h : CE w0 b kb X0 nn nm dv A1 A2 A3 A4 v1 v2 v3 v4 v5 X ids tx sv rv SF bs rs pv gv lv ev Xg Xl Xd w) {r : Nat → Prop} (hv : LS c1 1 r w v l) (hu : Hid (IQ w u l)) :
    Calls Tryz.prog 23 #[v] w fun e w' => ∃ u', e = .returned u' ∧ Hid (JQ w' u' l) ∧ Hid (IQ w' u l) ∧ KQ (CE w0 b kb X0 nn nm dv A1 A2 A3 A4 v1 v2 v3 v4 v5 X ids tx sv rv SF bs rs pv gv lv ev Xg Xl Xd) kb X0 v1 v2 v3 v4 v5 w' := by
  refine (codes9 hv (by have := hu.out.2; omega)).mono ?_
  rintro e w' ⟨u', rfl, hO, hB⟩
  exact ⟨u', rfl, hO.ls c1_len fun _ _ => trivial, hu.out.bel hB, (h.bel hB).kq⟩
theorem ce_same (h : CE w0 b kb X0 nn nm dv A1 A2 A3 A4 v1 v2 v3 v4 v5 X ids tx sv rv SF bs rs pv gv lv ev Xg Xl Xd w) (hu : Hid (IQ w u l)) (hv : Hid (JQ w v l)) :
    Calls Tryz.prog 22 #[u, v] w fun e w' => e = .returned (.bool true) ∧ KQ (CE w0 b kb X0 nn nm dv A1 A2 A3 A4 v1 v2 v3 v4 v5 X ids tx sv rv SF bs rs pv gv lv ev Xg Xl Xd) kb X0 v1 v2 v3 v4 v5 w' := by
  refine (sameInts9 hu.out.1 hv.out (by have := hu.out.2; omega)).mono ?_
  rintro e w' ⟨rfl, hB⟩
  exact ⟨rfl, (h.bel hB).kq⟩
theorem ce_union (h : CE w0 b kb X0 nn nm dv A1 A2 A3 A4 v1 v2 v3 v4 v5 X ids tx sv rv SF bs rs pv gv lv ev Xg Xl Xd w) :
    Calls Tryz.prog 24 #[lv] w fun e w' => ∃ u, e = .returned u ∧ Hid (TR w' u (lI A3)) ∧ KQ (CE w0 b kb X0 nn nm dv A1 A2 A3 A4 v1 v2 v3 v4 v5 X ids tx sv rv SF bs rs pv gv lv ev Xg Xl Xd) kb X0 v1 v2 v3 v4 v5 w' := by
  have e1 : Xl.map (·.1.l) = A3.map (·.l) := by rw [← h.xl, List.map_map]; rfl
  have e2 : Xl.length = A3.length := by rw [← h.xl, List.length_map]
  have hb := h.b3
  have hb5 := h.b5
  refine (runion_any h.lv h.ln (by omega) (by rw [e1, List.flatMap_map]; exact hb5)).mono ?_
  rintro e w' ⟨u, rfl, hT, hB⟩
  rw [e1] at hT
  exact ⟨u, rfl, hT.tr, (h.bel hB).kq⟩
theorem ce_texts (h : CE w0 b kb X0 nn nm dv A1 A2 A3 A4 v1 v2 v3 v4 v5 X ids tx sv rv SF bs rs pv gv lv ev Xg Xl Xd w) (hu : Hid (TR w u (lI A3))) :
    Calls Tryz.prog 11 #[v3, u] w fun e w' => e = .returned (.bool true) ∧ KQ (CE w0 b kb X0 nn nm dv A1 A2 A3 A4 v1 v2 v3 v4 v5 X ids tx sv rv SF bs rs pv gv lv ev Xg Xl Xd) kb X0 v1 v2 v3 v4 v5 w' := by
  have hb5 := h.b5
  have h6 := uni_res A3
  refine (sameTexts_eq h.tl.l3.tr hu.out (by unfold lI; omega)).mono ?_
  rintro e w' ⟨rfl, hB⟩
  exact ⟨rfl, (h.bel hB).kq⟩
theorem ce_rcodes (h : CE w0 b kb X0 nn nm dv A1 A2 A3 A4 v1 v2 v3 v4 v5 X ids tx sv rv SF bs rs pv gv lv ev Xg Xl Xd w) {r : Nat → Prop} {Y : List (RR × Value)} {A : List RR} (hv : LS x3 3 r w v Y) (hY : Y.map (·.1) = A) (hu : Hid (IQ w u (A.map (·.c)))) :
    Calls Tryz.prog 25 #[v] w fun e w' => ∃ u', e = .returned u' ∧ Hid (CQ w' u' (A.map (·.c))) ∧ Hid (IQ w' u (A.map (·.c))) ∧ KQ (CE w0 b kb X0 nn nm dv A1 A2 A3 A4 v1 v2 v3 v4 v5 X ids tx sv rv SF bs rs pv gv lv ev Xg Xl Xd) kb X0 v1 v2 v3 v4 v5 w' := by
  have e1 : Y.map (·.1.c) = A.map (·.c) := by rw [← hY, List.map_map]; rfl
  have e2 : Y.length = A.length := by rw [← hY, List.length_map]
  refine (rcodes_any hv (by have := hu.out.2; rw [List.length_map] at this; omega)).mono ?_
  rintro e w' ⟨u', rfl, hO, hB⟩
  rw [e1] at hO
  exact ⟨u', rfl, hO.ls c1_len fun _ _ => trivial, hu.out.bel hB, (h.bel hB).kq⟩
end
end Go.Proofs.YtiecoplfiahpnaaGreat
