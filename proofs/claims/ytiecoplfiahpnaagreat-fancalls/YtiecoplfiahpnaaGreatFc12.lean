/-
  Contracts of the program and of the statements (part 12 of 13).
-/
import Derived.Test.YtiecoplfiahpnaaGreatFc11

namespace Go.Proofs.YtiecoplfiahpnaaGreat
open Go.RowKit Go.Lib Go.Maps
theorem NT.obj {P : Nat → Prop} {w : World} (h : NT P w) : ∀ i cs fr, w.heap[i]? = some (.cells cs 93 fr) → ¬ P i := fun i cs fr hi hP => by
  obtain ⟨cs', T, h1, h2⟩ := h i hP
  rw [h1] at hi
  simp at hi
  rw [hi.2.1] at h2
  revert h2
  decide
theorem LD.ts {w0 w : World} {g n c' : Nat} {l : List ByteArray} (h : LD w0 w g n c' l) : TS w0.heap.size (.slice (some ⟨g, 0, none⟩) n c') l w := by
  obtain ⟨h1, ⟨h2, _⟩ | ⟨g', cap, cur, e, hB, hg, hn, hcc, hs, ht⟩⟩ := h.own.own
  · cases h2
  · simp only [Value.slice.injEq, Option.some.injEq, Addr.mk.injEq] at e
    obtain ⟨⟨rfl, _, _⟩, _, rfl⟩ := e
    refine ⟨by simp [tc], .inr ⟨g, c', cur, by rw [h.len], hB, hg, by have := h.cap; have := h.len; omega, hcc, hs, ?_⟩⟩
    have h3 := congrArg (List.take l.length) ht
    rw [List.take_take] at h3
    simp only [tc, List.map_append, List.length_append, List.length_cons, List.length_nil, Nat.mul_one] at h3
    rw [show min l.length (l.length + (0 + 1)) = l.length from by omega, List.take_left' (by simp)] at h3
    rw [Nat.mul_one]
    exact h3
theorem LD.bel {w0 w w' : World} {g n c' : Nat} {l : List ByteArray} (h : LD w0 w g n c' l) (hb : Below w.heap.size w w') : LD w0 w' g n c' l :=
  ⟨h.own.keep hb, h.len, h.cap, h.be.trans (hb.mono h.be.size)⟩
theorem pqn_sm {ds : List ByteArray} (n : ByteArray) (hn : n.size ≤ maxLen) (hd : ∀ d ∈ ds, d.size ≤ maxLen) : ∀ q ∈ pqn n ds, q.n.size ≤ maxLen ∧ q.d.size ≤ maxLen := by
  intro q hq
  rw [pqn] at hq
  split at hq
  · rw [pq, List.mem_mapIdx] at hq
    obtain ⟨i, hi, rfl⟩ := hq
    exact ⟨hn, hd _ (List.getElem_mem hi)⟩
  · simp at hq
theorem aq_sm (k : Int) (n : ByteArray) (m : Nat) (hn : n.size ≤ maxLen) : ∀ q ∈ aq k n ⟨#[]⟩ m, q.n.size ≤ maxLen ∧ q.d.size ≤ maxLen := by
  intro q hq
  rw [aq] at hq
  obtain ⟨i, _, rfl⟩ := List.mem_map.1 hq
  exact ⟨hn, Nat.zero_le _⟩
/-- What stands ahead of a run: a job that was made, and what the document has as its result. -/
structure RDN (B U : Nat) (w0 w : World) (sv rv : Value) (S S2 : List SS) (bs : List (Nat × Nat)) (rs : List Nat) (b X : Nat) (C N : List RR → Int) (I T : List RR → List ByteArray) (L : List QT) (P : Nat → Prop) (c n : Int) (ids tx : Value) (Il Tl : List ByteArray) : Prop where
  y : BY B w sv rv S S2 bs rs
  u : w0.heap.size ≤ U
  bw : B ≤ w0.heap.size
  yl : ∀ i, Ps bs sv i ∨ Pd rs rv i → i < w0.heap.size
  j : JJ b (FinR b C N I T) L [] P w
  p : ∀ i, P i → w0.heap.size ≤ i ∧ i ≠ X ∧ i < U
  nt : NT P w
  x : R7 w X c n ids tx
  xl : w0.heap.size ≤ X
  i : TS U ids Il w
  t : TS U tx Tl w
  g : Gs (fun i => B ≤ i) w0 w
section
variable {B U : Nat} {w0 w w' : World} {sv rv : Value} {S S2 : List SS} {bs : List (Nat × Nat)} {rs : List Nat} {b X t : Nat} {C N : List RR → Int} {I T : List RR → List ByteArray} {L : List QT} {P : Nat → Prop} {c n : Int} {ids tx : Value} {Il Tl : List ByteArray}
/-- What a run leaves. -/
structure RDO (B : Nat) (w0 w w' : World) (sv rv : Value) (S2 : List SS) (bs : List (Nat × Nat)) (rs : List Nat) (X : Nat) (c n : Int) (ids tx ids' tx' : Value) (Il Tl : List ByteArray) : Prop where
  y : BY B w' sv rv S2 S2 bs rs
  x : R7 w' X c n ids tx
  i : TR w' ids Il
  t : TR w' tx Tl
  i' : TR w' ids' Il
  t' : TR w' tx' Tl
  g : Gs (fun i => B ≤ i) w0 w'
  lt : w.heap.size ≤ w'.heap.size
theorem RDN.run (h : RDN B U w0 w sv rv S (ySs S L) bs rs b X C N I T L P (C (yRs S L)) (N (yRs S L)) ids tx (I (yRs S L)) (T (yRs S L))) (hG : GD t S) (ht : t ≤ 100) (hL : L.length ≤ 255) (hq : ∀ q ∈ L, q.n.size ≤ maxLen ∧ q.d.size ≤ maxLen) (hIl : (I (yRs S L)).length ≤ 1000000000000) (hTl : (T (yRs S L)).length ≤ 1000000000000) :
    Calls Tryz.prog 17 #[.pointer (some ⟨b, 0, none⟩), sv] w fun e w' => ∃ ids' tx', e = .returned (.tuple #[.agg #[.int .i64 (C (yRs S L)), .string ⟨#[]⟩, .int .i64 (N (yRs S L)), ids', tx', .slice none 0 0, .slice none 0 0], .bool true]) ∧ RDO B w0 w w' sv rv (ySs S L) bs rs X (C (yRs S L)) (N (yRs S L)) ids tx ids' tx' (I (yRs S L)) (T (yRs S L)) ∧ (∃ a k c, ids' = .slice a k c) ∧ ∃ a k c, tx' = .slice a k c := by
  have hnP : ∀ i, P i → ¬ Ps bs sv i ∧ ¬ Pd rs rv i := fun i hi => by
    have := (h.p i hi).1
    exact ⟨fun e => by have := h.yl i (.inl e); omega, fun e => by have := h.yl i (.inr e); omega⟩
  refine (h.y.run h.j hnP h.nt.obj hG (by omega) (by omega) hq hIl hTl).mono ?_
  rintro e w' ⟨ids', tx', rfl, h1, h2, hBY, hg⟩
  have hQX : ¬ (P X ∨ Qs bs X) := by
    rintro (e | e)
    · exact (h.p X e).2.1 rfl
    · have := h.yl X (.inl (Qs.ps e)); have := h.xl; omega
  have hk : ∀ i, U ≤ i → ¬ (P i ∨ Qs bs i) := fun i hi e => by
    rcases e with e | e
    · have := (h.p i e).2.2; omega
    · have := h.yl i (.inl (Qs.ps e)); have := h.u; omega
  refine ⟨ids', tx', rfl, ⟨hBY, h.x.gs hg hQX, ?_, ?_, (h1.ls (r := fun _ => True) fun _ _ => trivial).tr, (h2.ls (r := fun _ => True) fun _ _ => trivial).tr, ?_, hg.size⟩, ?_, ?_⟩
  · exact ((h.i.kb fun i hi => hg.block i (h.i.lt i hi).2 (hk i (h.i.lt i hi).1)).ls (r := fun _ => True) fun _ _ => trivial).tr
  · exact ((h.t.kb fun i hi => hg.block i (h.t.lt i hi).2 (hk i (h.t.lt i hi).1)).ls (r := fun _ => True) fun _ _ => trivial).tr
  · exact h.g.trans (hg.mono fun i _ e => by
      rcases e with e | e
      · have := (h.p i e).1; have := h.bw; omega
      · exact (h.y.pl i (Qs.ps e)).1)
  · obtain ⟨a, c, e⟩ := h1.shp; exact ⟨a, _, c, e⟩
  · obtain ⟨a, c, e⟩ := h2.shp; exact ⟨a, _, c, e⟩
theorem RDO.bel {ids' tx' : Value} {w1 w2 : World} (h : RDO B w0 w w1 sv rv S2 bs rs X c n ids tx ids' tx' Il Tl) (hb : Below w1.heap.size w1 w2) : RDO B w0 w w2 sv rv S2 bs rs X c n ids tx ids' tx' Il Tl :=
  ⟨h.y.bel hb, h.x.bel hb, h.i.bel hb, h.t.bel hb, h.i'.bel hb, h.t'.bel hb, h.g.bel hb, Nat.le_trans h.lt hb.size⟩
theorem mkRDN {wd w3 V : World} (hY : BY B wd sv rv S S bs rs) (hyl : ∀ i, Ps bs sv i ∨ Pd rs rv i → i < w0.heap.size) (hbw : B ≤ w0.heap.size) (hJ : JJ b (FinR b C N I T) L [] P wd) (hP : ∀ i, P i → w0.heap.size ≤ i ∧ i ≠ X) (hNT : NT P wd) (hZ : R7 wd X 0 0 (.slice none 0 0) (.slice none 0 0)) (hXl : w0.heap.size ≤ X) (hg : Gs (fun i => B ≤ i) w0 wd) (hD : DJ (Pd rs rv) wd w3 rv S2 rs ids tx Il Tl) (hGV : Gs (fun i => i = X) w3 V) (hRV : R7 V X c n ids tx) :
    RDN B wd.heap.size w0 V sv rv S S2 bs rs b X C N I T L P c n ids tx Il Tl := by
  have hPr : ∀ i, P i → ¬ i ∈ rs := fun i hi e => by have := (hP i hi).1; have := hyl i (.inr (.inl e)); omega
  have hXr : ¬ X ∈ rs := fun e => by have := hyl X (.inr (.inl e)); omega
  have hPX : ∀ i, P i → ¬ i = X := fun i hi => (hP i hi).2
  have hZ3 := hZ.gs hD.g hXr
  have hJ3 := hJ.gs (fkR b C N I T) hD.g hPr
  have hJV := hJ3.gs (fkR b C N I T) hGV hPX
  have hN3 : NT P w3 := hNT.keep fun i hi hl => hD.g.block i hl (hPr i hi)
  have hU := hg.size
  have hXU : X < wd.heap.size := hZ.lt
  refine ⟨((hY.doc hD.y hD.g).box hZ3 (fun i hi e => by have := hyl i hi; omega) hGV), hU, hbw, hyl, hJV, fun i hi => ⟨(hP i hi).1, (hP i hi).2, hJ.lt i hi⟩, hN3.keep fun i hi hl => hGV.block i hl (hPX i hi), hRV, hXl, ?_, ?_, ?_⟩
  · exact hD.i.kb fun i hi => hGV.block i (hD.i.lt i hi).2 (by have := (hD.i.lt i hi).1; omega)
  · exact hD.t.kb fun i hi => hGV.block i (hD.t.lt i hi).2 (by have := (hD.t.lt i hi).1; omega)
  · exact (hg.trans (hD.g.mono fun i _ e => (hY.dl i (.inl e)).1)).trans (hGV.mono fun i _ e => by omega)
set_option maxRecDepth 100000 in
set_option maxHeartbeats 3200000 in
theorem step_get (hY : BY B w sv rv S S bs rs) (hbw : B ≤ w.heap.size) (hG : GD t S) (ht : t ≤ 100) (kind nn at_ flt : Int) (nm : ByteArray) (hnm : nm.size ≤ maxLen) {da : Option Addr} {dc : Nat} {ds : List ByteArray} (hk : amg kind 4 = 1) :
    Calls Tryz.prog 10 #[sv, rv, .agg #[.int .i64 kind, .int .i64 nn, .int .i64 at_, .int .i64 flt, .string nm, .slice da ds.length dc]] w fun e w' => e = .returned (.bool true) ∧ ∃ S', GD (t + 1) S' ∧ S'.length = S.length ∧ BY B w' sv rv S' S' bs rs ∧ Gs (fun i => B ≤ i) w w' := by
  obtain ⟨U, hU⟩ : ∃ U, U = (w.alloc (.cells #[.int .i64 kind, .int .i64 nn, .int .i64 at_, .int .i64 flt, .string nm, .slice da ds.length dc] 35)).alloc (.cells #[.int .i64 0, .string ⟨#[]⟩, .int .i64 0, .slice none 0 0, .slice none 0 0, .slice none 0 0, .slice none 0 0] 56) := ⟨_, rfl⟩
  obtain ⟨X5, hX⟩ : ∃ X5, X5 = w.heap.size := ⟨_, rfl⟩
  have hBU : Below w.heap.size w U := by rw [hU]; exact ((Below.refl _ _).alloc (Nat.le_refl _) _).alloc (by simp) _
  have hA : U.heap[X5]? = some (.cells #[.int .i64 kind, .int .i64 nn, .int .i64 at_, .int .i64 flt, .string nm, .slice da ds.length dc] 35 (0, 0)) := by rw [hU, hX, Below.heap_alloc _ _ _ (by simp)]; exact heap_alloc_new w _
  have hZ : R7 U (X5 + 1) 0 0 (.slice none 0 0) (.slice none 0 0) := by
    rw [hU, hX]
    have := heap_alloc_new (w.alloc (.cells #[.int .i64 kind, .int .i64 nn, .int .i64 at_, .int .i64 flt, .string nm, .slice da ds.length dc] 35)) (.cells #[.int .i64 0, .string ⟨#[]⟩, .int .i64 0, .slice none 0 0, .slice none 0 0, .slice none 0 0, .slice none 0 0] 56 (0, 0))
    simpa [R7] using this
  have hyl : ∀ i, Ps bs sv i ∨ Pd rs rv i → i < w.heap.size := fun i hi => by
    rcases hi with hi | hi
    · exact (hY.pl i hi).2
    · exact (hY.dl i hi).2
  have hUs := hBU.size
  have HA := hide (among_any U kind 4 (by decide) (by decide))
  rw [hk] at HA
  have z0 : U.cell? ⟨X5, 0, none⟩ = some (.int .i64 kind) := by simp [World.cell?, hA]
  have z1 : U.cell? ⟨X5, 1, none⟩ = some (.int .i64 nn) := by simp [World.cell?, hA]
  have z4 : U.cell? ⟨X5, 4, none⟩ = some (.string nm) := by simp [World.cell?, hA]
  have z5 : U.cell? ⟨X5, 5, none⟩ = some (.slice da ds.length dc) := by simp [World.cell?, hA]
  have HALL := hide (And.intro hY (And.intro hbw (And.intro hG (And.intro ht (And.intro hnm (And.intro hBU (And.intro hA (And.intro hZ hyl))))))))
  have HU := hide hU
  have HX := hide hX
  have HJB := hide (getjob_any nn nm U)
  clear hY hbw hG ht hnm hU hX hBU hA hZ hyl hUs hk
  generalize ds.length = dl at *
  go_enter Tryz.func10, Tryz.ntmps10
  go_upto_region 3 with fail
  rw [← HU.out, ← HX.out]
  go_wp2_with (go_at_call 8; refine HA.out.mono ?_; rintro e w1 ⟨rfl, rfl⟩)
  refine HJB.out.mono ?_
  rintro e wj ⟨b, P, rfl, hJ, hBj, hPl, hNT⟩
  obtain ⟨hY, hbw, hG, ht, hnm, hBU, hA, hZ, hyl⟩ := HALL.out
  have hYd := (hY.bel hBU).bel hBj
  have hAj := (hBj.block X5 (lt_of_block hA)).trans hA
  have y1 : wj.cell? ⟨X5, 1, none⟩ = some (.int .i64 nn) := by simp [World.cell?, hAj]
  have y4 : wj.cell? ⟨X5, 4, none⟩ = some (.string nm) := by simp [World.cell?, hAj]
  have HDC := hide (rgetjob9 hYd.d (fun i hi => (hYd.dl i hi).2) hG ht hnm nn)
  have HD : Hid (BY B wj sv rv S S bs rs ∧ JJ b _ _ [] P wj ∧ (∀ i, P i → w.heap.size ≤ i ∧ i ≠ X5 + 1) ∧ NT P wj ∧ R7 wj (X5 + 1) 0 0 (.slice none 0 0) (.slice none 0 0) ∧ Gs (fun i => B ≤ i) w wj) :=
    ⟨hYd, hJ, fun i hi => by have := hPl i hi; have := hBU.size; have := hZ.lt; exact ⟨by omega, by omega⟩, hNT, hZ.bel hBj, (Gs.of_below _ hBU).bel hBj⟩
  clear hY hbw hG ht hnm hBU hA hZ hyl hYd hAj hJ hBj hPl hNT
  go_wp2_with fail
  refine HDC.out.mono ?_
  rintro e w3 ⟨ids, tx, rfl, hD⟩
  obtain ⟨ai, li, ci, hei⟩ : ∃ a n c, ids = .slice a n c := by obtain ⟨a, c, e⟩ := hD.i.shp; exact ⟨a, _, c, e⟩
  obtain ⟨at9, lt9, ct9, het⟩ : ∃ a n c, tx = .slice a n c := by obtain ⟨a, c, e⟩ := hD.t.shp; exact ⟨a, _, c, e⟩
  subst hei
  subst het
  obtain ⟨hY, hbw, hG, ht, hnm, hBU, hA, hZ, hyl⟩ := HALL.out
  obtain ⟨hYd, hJd, hPd, hNd, hZd, hgd⟩ := HD.out
  have hXr : ¬ (X5 + 1) ∈ rs := fun e => by have := hyl (X5 + 1) (.inr (.inl e)); have := HX.out; omega
  obtain ⟨V, hrun, hRV, hGV⟩ := (hZd.gs hD.g hXr).fill ((gC (okn nn) []) (yRs S (aq 2 nm ⟨#[]⟩ (nst nn)))) (gN (yRs S (aq 2 nm ⟨#[]⟩ (nst nn)))) (ids := .slice ai li ci) (tx := .slice at9 lt9 ct9) ⟨_, _, _, rfl⟩ ⟨_, _, _, rfl⟩
  have hRDN := mkRDN hYd hyl hbw hJd hPd hNd hZd (by have := HX.out; omega) hgd hD hGV hRV
  have HR := hide (hRDN.run (C := (gC (okn nn) [])) (N := gN) (I := noT) (T := gT) hG ht (by rw [aq_len]; exact nst_le nn) (aq_sm 2 nm (nst nn) HALL.out.2.2.2.2.1) (by simp [noT]) (by rw [gT, List.length_map, yRs_len, aq_len]; have := nst_le nn; omega))
  have HGD := hide (And.intro (hG.aq 2 nm (nst nn)) (ySs_len (aq 2 nm ⟨#[]⟩ (nst nn)) S))
  clear hD hY hbw hG ht hnm hBU hA hZ hyl hYd hJd hPd hNd hZd hgd hXr hRV hGV hRDN
  go_wp2_with (refine wpList_store_run rfl 56 _ _ rfl _ _ rfl rfl hrun ?_)
  refine HR.out.mono ?_
  rintro e w7 ⟨ids', tx', rfl, hO, ⟨ai2, li2, ci2, hei2⟩, ⟨at2, lt2, ct2, het2⟩⟩
  subst hei2
  subst het2
  obtain ⟨W8, hW8⟩ : ∃ W8, W8 = w7.alloc (.cells #[.int .i64 ((gC (okn nn) []) (yRs S (aq 2 nm ⟨#[]⟩ (nst nn)))), .string ⟨#[]⟩, .int .i64 (gN (yRs S (aq 2 nm ⟨#[]⟩ (nst nn)))), .slice ai2 li2 ci2, .slice at2 lt2 ct2, .slice none 0 0, .slice none 0 0] 56) := ⟨_, rfl⟩
  obtain ⟨X10, hX10⟩ : ∃ X, X = w7.heap.size := ⟨_, rfl⟩
  have hB8 : Below w7.heap.size w7 W8 := by rw [hW8]; exact (Below.refl _ _).alloc (Nat.le_refl _) _
  have hR8 : R7 W8 X10 ((gC (okn nn) []) (yRs S (aq 2 nm ⟨#[]⟩ (nst nn)))) (gN (yRs S (aq 2 nm ⟨#[]⟩ (nst nn)))) (.slice ai2 li2 ci2) (.slice at2 lt2 ct2) := by rw [hW8, hX10]; exact heap_alloc_new w7 _
  have hO8 := hO.bel hB8
  have HS := hide (same9 ((gC (okn nn) []) (yRs S (aq 2 nm ⟨#[]⟩ (nst nn)))) (gN (yRs S (aq 2 nm ⟨#[]⟩ (nst nn)))) hO8.i' hO8.i hO8.t' hO8.t (by simp [noT]) (by rw [gT, List.length_map, yRs_len, aq_len]; have := nst_le nn; omega))
  have x0 : W8.cell? ⟨X5 + 1, 0, none⟩ = some (.int .i64 ((gC (okn nn) []) (yRs S (aq 2 nm ⟨#[]⟩ (nst nn))))) := hO8.x.cell 0
  have x1 : W8.cell? ⟨X5 + 1, 1, none⟩ = some (.string ⟨#[]⟩) := hO8.x.cell 1
  have x2 : W8.cell? ⟨X5 + 1, 2, none⟩ = some (.int .i64 (gN (yRs S (aq 2 nm ⟨#[]⟩ (nst nn))))) := hO8.x.cell 2
  have x3 : W8.cell? ⟨X5 + 1, 3, none⟩ = some (.slice ai li ci) := hO8.x.cell 3
  have x4 : W8.cell? ⟨X5 + 1, 4, none⟩ = some (.slice at9 lt9 ct9) := hO8.x.cell 4
  have x5 : W8.cell? ⟨X5 + 1, 5, none⟩ = some (.slice none 0 0) := hO8.x.cell 5
  have x6 : W8.cell? ⟨X5 + 1, 6, none⟩ = some (.slice none 0 0) := hO8.x.cell 6
  have q0 : W8.cell? ⟨X10, 0, none⟩ = some (.int .i64 ((gC (okn nn) []) (yRs S (aq 2 nm ⟨#[]⟩ (nst nn))))) := hR8.cell 0
  have q1 : W8.cell? ⟨X10, 1, none⟩ = some (.string ⟨#[]⟩) := hR8.cell 1
  have q2 : W8.cell? ⟨X10, 2, none⟩ = some (.int .i64 (gN (yRs S (aq 2 nm ⟨#[]⟩ (nst nn))))) := hR8.cell 2
  have q3 : W8.cell? ⟨X10, 3, none⟩ = some (.slice ai2 li2 ci2) := hR8.cell 3
  have q4 : W8.cell? ⟨X10, 4, none⟩ = some (.slice at2 lt2 ct2) := hR8.cell 4
  have q5 : W8.cell? ⟨X10, 5, none⟩ = some (.slice none 0 0) := hR8.cell 5
  have q6 : W8.cell? ⟨X10, 6, none⟩ = some (.slice none 0 0) := hR8.cell 6
  have HO8 := hide hO8
  have HW8 := hide hW8
  have HX10 := hide hX10
  clear hO hO8 hB8 hR8 hW8 hX10
  go_upto_region 20 with fail
  rw [← HW8.out, ← HX10.out]
  go_wp2_with (go_at_call 42; refine HS.out.mono ?_; rintro e w9 ⟨rfl, hB9⟩; have HE := hide (HO8.out.bel hB9); clear hB9)
  go_ret
  exact ⟨rfl, _, HGD.out.1, HGD.out.2, HE.out.y, HE.out.g⟩
set_option maxRecDepth 100000 in
set_option maxHeartbeats 3200000 in
theorem step_del (hY : BY B w sv rv S S bs rs) (hbw : B ≤ w.heap.size) (hG : GD t S) (ht : t ≤ 100) (kind nn at_ flt : Int) (nm : ByteArray) (hnm : nm.size ≤ maxLen) {da : Option Addr} {dc : Nat} {ds : List ByteArray} (hk : amg kind 4 = 2) :
    Calls Tryz.prog 10 #[sv, rv, .agg #[.int .i64 kind, .int .i64 nn, .int .i64 at_, .int .i64 flt, .string nm, .slice da ds.length dc]] w fun e w' => e = .returned (.bool true) ∧ ∃ S', GD (t + 1) S' ∧ S'.length = S.length ∧ BY B w' sv rv S' S' bs rs ∧ Gs (fun i => B ≤ i) w w' := by
  obtain ⟨U, hU⟩ : ∃ U, U = (w.alloc (.cells #[.int .i64 kind, .int .i64 nn, .int .i64 at_, .int .i64 flt, .string nm, .slice da ds.length dc] 35)).alloc (.cells #[.int .i64 0, .string ⟨#[]⟩, .int .i64 0, .slice none 0 0, .slice none 0 0, .slice none 0 0, .slice none 0 0] 56) := ⟨_, rfl⟩
  obtain ⟨X5, hX⟩ : ∃ X5, X5 = w.heap.size := ⟨_, rfl⟩
  have hBU : Below w.heap.size w U := by rw [hU]; exact ((Below.refl _ _).alloc (Nat.le_refl _) _).alloc (by simp) _
  have hA : U.heap[X5]? = some (.cells #[.int .i64 kind, .int .i64 nn, .int .i64 at_, .int .i64 flt, .string nm, .slice da ds.length dc] 35 (0, 0)) := by rw [hU, hX, Below.heap_alloc _ _ _ (by simp)]; exact heap_alloc_new w _
  have hZ : R7 U (X5 + 1) 0 0 (.slice none 0 0) (.slice none 0 0) := by
    rw [hU, hX]
    have := heap_alloc_new (w.alloc (.cells #[.int .i64 kind, .int .i64 nn, .int .i64 at_, .int .i64 flt, .string nm, .slice da ds.length dc] 35)) (.cells #[.int .i64 0, .string ⟨#[]⟩, .int .i64 0, .slice none 0 0, .slice none 0 0, .slice none 0 0, .slice none 0 0] 56 (0, 0))
    simpa [R7] using this
  have hyl : ∀ i, Ps bs sv i ∨ Pd rs rv i → i < w.heap.size := fun i hi => by
    rcases hi with hi | hi
    · exact (hY.pl i hi).2
    · exact (hY.dl i hi).2
  have hUs := hBU.size
  have HA := hide (among_any U kind 4 (by decide) (by decide))
  rw [hk] at HA
  have z0 : U.cell? ⟨X5, 0, none⟩ = some (.int .i64 kind) := by simp [World.cell?, hA]
  have z1 : U.cell? ⟨X5, 1, none⟩ = some (.int .i64 nn) := by simp [World.cell?, hA]
  have z4 : U.cell? ⟨X5, 4, none⟩ = some (.string nm) := by simp [World.cell?, hA]
  have z5 : U.cell? ⟨X5, 5, none⟩ = some (.slice da ds.length dc) := by simp [World.cell?, hA]
  have HALL := hide (And.intro hY (And.intro hbw (And.intro hG (And.intro ht (And.intro hnm (And.intro hBU (And.intro hA (And.intro hZ hyl))))))))
  have HU := hide hU
  have HX := hide hX
  have HJB := hide (deljob_any nn nm U)
  clear hY hbw hG ht hnm hU hX hBU hA hZ hyl hUs hk
  generalize ds.length = dl at *
  go_enter Tryz.func10, Tryz.ntmps10
  go_upto_region 3 with fail
  rw [← HU.out, ← HX.out]
  go_wp2_with (go_at_call 8; refine HA.out.mono ?_; rintro e w1 ⟨rfl, rfl⟩)
  refine HJB.out.mono ?_
  rintro e wj ⟨b, P, rfl, hJ, hBj, hPl, hNT⟩
  obtain ⟨hY, hbw, hG, ht, hnm, hBU, hA, hZ, hyl⟩ := HALL.out
  have hYd := (hY.bel hBU).bel hBj
  have hAj := (hBj.block X5 (lt_of_block hA)).trans hA
  have y1 : wj.cell? ⟨X5, 1, none⟩ = some (.int .i64 nn) := by simp [World.cell?, hAj]
  have y4 : wj.cell? ⟨X5, 4, none⟩ = some (.string nm) := by simp [World.cell?, hAj]
  have HDC := hide (rdeljob9 hYd.d (fun i hi => (hYd.dl i hi).2) hG ht hnm nn)
  have HD : Hid (BY B wj sv rv S S bs rs ∧ JJ b _ _ [] P wj ∧ (∀ i, P i → w.heap.size ≤ i ∧ i ≠ X5 + 1) ∧ NT P wj ∧ R7 wj (X5 + 1) 0 0 (.slice none 0 0) (.slice none 0 0) ∧ Gs (fun i => B ≤ i) w wj) :=
    ⟨hYd, hJ, fun i hi => by have := hPl i hi; have := hBU.size; have := hZ.lt; exact ⟨by omega, by omega⟩, hNT, hZ.bel hBj, (Gs.of_below _ hBU).bel hBj⟩
  clear hY hbw hG ht hnm hBU hA hZ hyl hYd hAj hJ hBj hPl hNT
  go_wp2_with fail
  refine HDC.out.mono ?_
  rintro e w3 ⟨ids, tx, rfl, hD⟩
  obtain ⟨ai, li, ci, hei⟩ : ∃ a n c, ids = .slice a n c := by obtain ⟨a, c, e⟩ := hD.i.shp; exact ⟨a, _, c, e⟩
  obtain ⟨at9, lt9, ct9, het⟩ : ∃ a n c, tx = .slice a n c := by obtain ⟨a, c, e⟩ := hD.t.shp; exact ⟨a, _, c, e⟩
  subst hei
  subst het
  obtain ⟨hY, hbw, hG, ht, hnm, hBU, hA, hZ, hyl⟩ := HALL.out
  obtain ⟨hYd, hJd, hPd, hNd, hZd, hgd⟩ := HD.out
  have hXr : ¬ (X5 + 1) ∈ rs := fun e => by have := hyl (X5 + 1) (.inr (.inl e)); have := HX.out; omega
  obtain ⟨V, hrun, hRV, hGV⟩ := (hZd.gs hD.g hXr).fill ((dC (okn nn)) (yRs S (aq 4 nm ⟨#[]⟩ (nst nn)))) (gN (yRs S (aq 4 nm ⟨#[]⟩ (nst nn)))) (ids := .slice ai li ci) (tx := .slice at9 lt9 ct9) ⟨_, _, _, rfl⟩ ⟨_, _, _, rfl⟩
  have hRDN := mkRDN hYd hyl hbw hJd hPd hNd hZd (by have := HX.out; omega) hgd hD hGV hRV
  have HR := hide (hRDN.run (C := (dC (okn nn))) (N := gN) (I := noT) (T := noT) hG ht (by rw [aq_len]; exact nst_le nn) (aq_sm 4 nm (nst nn) HALL.out.2.2.2.2.1) (by simp [noT]) (by simp [noT]))
  have HGD := hide (And.intro (hG.aq 4 nm (nst nn)) (ySs_len (aq 4 nm ⟨#[]⟩ (nst nn)) S))
  clear hD hY hbw hG ht hnm hBU hA hZ hyl hYd hJd hPd hNd hZd hgd hXr hRV hGV hRDN
  go_wp2_with (refine wpList_store_run rfl 56 _ _ rfl _ _ rfl rfl hrun ?_)
  refine HR.out.mono ?_
  rintro e w7 ⟨ids', tx', rfl, hO, ⟨ai2, li2, ci2, hei2⟩, ⟨at2, lt2, ct2, het2⟩⟩
  subst hei2
  subst het2
  obtain ⟨W8, hW8⟩ : ∃ W8, W8 = w7.alloc (.cells #[.int .i64 ((dC (okn nn)) (yRs S (aq 4 nm ⟨#[]⟩ (nst nn)))), .string ⟨#[]⟩, .int .i64 (gN (yRs S (aq 4 nm ⟨#[]⟩ (nst nn)))), .slice ai2 li2 ci2, .slice at2 lt2 ct2, .slice none 0 0, .slice none 0 0] 56) := ⟨_, rfl⟩
  obtain ⟨X10, hX10⟩ : ∃ X, X = w7.heap.size := ⟨_, rfl⟩
  have hB8 : Below w7.heap.size w7 W8 := by rw [hW8]; exact (Below.refl _ _).alloc (Nat.le_refl _) _
  have hR8 : R7 W8 X10 ((dC (okn nn)) (yRs S (aq 4 nm ⟨#[]⟩ (nst nn)))) (gN (yRs S (aq 4 nm ⟨#[]⟩ (nst nn)))) (.slice ai2 li2 ci2) (.slice at2 lt2 ct2) := by rw [hW8, hX10]; exact heap_alloc_new w7 _
  have hO8 := hO.bel hB8
  have HS := hide (same9 ((dC (okn nn)) (yRs S (aq 4 nm ⟨#[]⟩ (nst nn)))) (gN (yRs S (aq 4 nm ⟨#[]⟩ (nst nn)))) hO8.i' hO8.i hO8.t' hO8.t (by simp [noT]) (by simp [noT]))
  have x0 : W8.cell? ⟨X5 + 1, 0, none⟩ = some (.int .i64 ((dC (okn nn)) (yRs S (aq 4 nm ⟨#[]⟩ (nst nn))))) := hO8.x.cell 0
  have x1 : W8.cell? ⟨X5 + 1, 1, none⟩ = some (.string ⟨#[]⟩) := hO8.x.cell 1
  have x2 : W8.cell? ⟨X5 + 1, 2, none⟩ = some (.int .i64 (gN (yRs S (aq 4 nm ⟨#[]⟩ (nst nn))))) := hO8.x.cell 2
  have x3 : W8.cell? ⟨X5 + 1, 3, none⟩ = some (.slice ai li ci) := hO8.x.cell 3
  have x4 : W8.cell? ⟨X5 + 1, 4, none⟩ = some (.slice at9 lt9 ct9) := hO8.x.cell 4
  have x5 : W8.cell? ⟨X5 + 1, 5, none⟩ = some (.slice none 0 0) := hO8.x.cell 5
  have x6 : W8.cell? ⟨X5 + 1, 6, none⟩ = some (.slice none 0 0) := hO8.x.cell 6
  have q0 : W8.cell? ⟨X10, 0, none⟩ = some (.int .i64 ((dC (okn nn)) (yRs S (aq 4 nm ⟨#[]⟩ (nst nn))))) := hR8.cell 0
  have q1 : W8.cell? ⟨X10, 1, none⟩ = some (.string ⟨#[]⟩) := hR8.cell 1
  have q2 : W8.cell? ⟨X10, 2, none⟩ = some (.int .i64 (gN (yRs S (aq 4 nm ⟨#[]⟩ (nst nn))))) := hR8.cell 2
  have q3 : W8.cell? ⟨X10, 3, none⟩ = some (.slice ai2 li2 ci2) := hR8.cell 3
  have q4 : W8.cell? ⟨X10, 4, none⟩ = some (.slice at2 lt2 ct2) := hR8.cell 4
  have q5 : W8.cell? ⟨X10, 5, none⟩ = some (.slice none 0 0) := hR8.cell 5
  have q6 : W8.cell? ⟨X10, 6, none⟩ = some (.slice none 0 0) := hR8.cell 6
  have HO8 := hide hO8
  have HW8 := hide hW8
  have HX10 := hide hX10
  clear hO hO8 hB8 hR8 hW8 hX10
  go_upto_region 20 with fail
  rw [← HW8.out, ← HX10.out]
  go_wp2_with (go_at_call 42; refine HS.out.mono ?_; rintro e w9 ⟨rfl, hB9⟩; have HE := hide (HO8.out.bel hB9); clear hB9)
  go_ret
  exact ⟨rfl, _, HGD.out.1, HGD.out.2, HE.out.y, HE.out.g⟩
set_option maxRecDepth 100000 in
set_option maxHeartbeats 3200000 in
theorem step_list (hY : BY B w sv rv S S bs rs) (hbw : B ≤ w.heap.size) (hG : GD t S) (ht : t ≤ 100) (kind nn at_ flt : Int) (nm : ByteArray) (hnm : nm.size ≤ maxLen) {da : Option Addr} {dc : Nat} {ds : List ByteArray} (hk : amg kind 4 = 3) :
    Calls Tryz.prog 10 #[sv, rv, .agg #[.int .i64 kind, .int .i64 nn, .int .i64 at_, .int .i64 flt, .string nm, .slice da ds.length dc]] w fun e w' => e = .returned (.bool true) ∧ ∃ S', GD (t + 1) S' ∧ S'.length = S.length ∧ BY B w' sv rv S' S' bs rs ∧ Gs (fun i => B ≤ i) w w' := by
  obtain ⟨U, hU⟩ : ∃ U, U = (w.alloc (.cells #[.int .i64 kind, .int .i64 nn, .int .i64 at_, .int .i64 flt, .string nm, .slice da ds.length dc] 35)).alloc (.cells #[.int .i64 0, .string ⟨#[]⟩, .int .i64 0, .slice none 0 0, .slice none 0 0, .slice none 0 0, .slice none 0 0] 56) := ⟨_, rfl⟩
  obtain ⟨X5, hX⟩ : ∃ X5, X5 = w.heap.size := ⟨_, rfl⟩
  have hBU : Below w.heap.size w U := by rw [hU]; exact ((Below.refl _ _).alloc (Nat.le_refl _) _).alloc (by simp) _
  have hA : U.heap[X5]? = some (.cells #[.int .i64 kind, .int .i64 nn, .int .i64 at_, .int .i64 flt, .string nm, .slice da ds.length dc] 35 (0, 0)) := by rw [hU, hX, Below.heap_alloc _ _ _ (by simp)]; exact heap_alloc_new w _
  have hZ : R7 U (X5 + 1) 0 0 (.slice none 0 0) (.slice none 0 0) := by
    rw [hU, hX]
    have := heap_alloc_new (w.alloc (.cells #[.int .i64 kind, .int .i64 nn, .int .i64 at_, .int .i64 flt, .string nm, .slice da ds.length dc] 35)) (.cells #[.int .i64 0, .string ⟨#[]⟩, .int .i64 0, .slice none 0 0, .slice none 0 0, .slice none 0 0, .slice none 0 0] 56 (0, 0))
    simpa [R7] using this
  have hyl : ∀ i, Ps bs sv i ∨ Pd rs rv i → i < w.heap.size := fun i hi => by
    rcases hi with hi | hi
    · exact (hY.pl i hi).2
    · exact (hY.dl i hi).2
  have hUs := hBU.size
  have HA := hide (among_any U kind 4 (by decide) (by decide))
  rw [hk] at HA
  have z0 : U.cell? ⟨X5, 0, none⟩ = some (.int .i64 kind) := by simp [World.cell?, hA]
  have z1 : U.cell? ⟨X5, 1, none⟩ = some (.int .i64 nn) := by simp [World.cell?, hA]
  have z4 : U.cell? ⟨X5, 4, none⟩ = some (.string nm) := by simp [World.cell?, hA]
  have z5 : U.cell? ⟨X5, 5, none⟩ = some (.slice da ds.length dc) := by simp [World.cell?, hA]
  have HALL := hide (And.intro hY (And.intro hbw (And.intro hG (And.intro ht (And.intro hnm (And.intro hBU (And.intro hA (And.intro hZ hyl))))))))
  have HU := hide hU
  have HX := hide hX
  have HLI : Hid ((lI (yRs S (aq 3 nm ⟨#[]⟩ (nst nn)))).length ≤ 100000) := by
    have h3 := yRs_names (aq 3 nm ⟨#[]⟩ (nst nn)) hG
    rw [aq_len] at h3
    have h5 := nst_le nn
    have h4 : nst nn * (t + nst nn) ≤ 255 * 355 := Nat.mul_le_mul (by omega) (by omega)
    have h6 := uni_res (yRs S (aq 3 nm ⟨#[]⟩ (nst nn)))
    show (lI _).length ≤ _
    unfold lI
    omega
  have HJB := hide (listsjob_any nn nm U)
  clear hY hbw hG ht hnm hU hX hBU hA hZ hyl hUs hk
  generalize ds.length = dl at *
  go_enter Tryz.func10, Tryz.ntmps10
  go_upto_region 3 with fail
  rw [← HU.out, ← HX.out]
  go_wp2_with (go_at_call 8; refine HA.out.mono ?_; rintro e w1 ⟨rfl, rfl⟩)
  refine HJB.out.mono ?_
  rintro e wj ⟨b, P, rfl, hJ, hBj, hPl, hNT⟩
  obtain ⟨hY, hbw, hG, ht, hnm, hBU, hA, hZ, hyl⟩ := HALL.out
  have hYd := (hY.bel hBU).bel hBj
  have hAj := (hBj.block X5 (lt_of_block hA)).trans hA
  have y1 : wj.cell? ⟨X5, 1, none⟩ = some (.int .i64 nn) := by simp [World.cell?, hAj]
  have y4 : wj.cell? ⟨X5, 4, none⟩ = some (.string nm) := by simp [World.cell?, hAj]
  have HDC := hide (rlistjob9 hYd.d (fun i hi => (hYd.dl i hi).2) hG ht hnm nn)
  have HD : Hid (BY B wj sv rv S S bs rs ∧ JJ b _ _ [] P wj ∧ (∀ i, P i → w.heap.size ≤ i ∧ i ≠ X5 + 1) ∧ NT P wj ∧ R7 wj (X5 + 1) 0 0 (.slice none 0 0) (.slice none 0 0) ∧ Gs (fun i => B ≤ i) w wj) :=
    ⟨hYd, hJ, fun i hi => by have := hPl i hi; have := hBU.size; have := hZ.lt; exact ⟨by omega, by omega⟩, hNT, hZ.bel hBj, (Gs.of_below _ hBU).bel hBj⟩
  clear hY hbw hG ht hnm hBU hA hZ hyl hYd hAj hJ hBj hPl hNT
  go_wp2_with fail
  refine HDC.out.mono ?_
  rintro e w3 ⟨ids, tx, rfl, hD⟩
  obtain ⟨ai, li, ci, hei⟩ : ∃ a n c, ids = .slice a n c := by obtain ⟨a, c, e⟩ := hD.i.shp; exact ⟨a, _, c, e⟩
  obtain ⟨at9, lt9, ct9, het⟩ : ∃ a n c, tx = .slice a n c := by obtain ⟨a, c, e⟩ := hD.t.shp; exact ⟨a, _, c, e⟩
  subst hei
  subst het
  obtain ⟨hY, hbw, hG, ht, hnm, hBU, hA, hZ, hyl⟩ := HALL.out
  obtain ⟨hYd, hJd, hPd, hNd, hZd, hgd⟩ := HD.out
  have hXr : ¬ (X5 + 1) ∈ rs := fun e => by have := hyl (X5 + 1) (.inr (.inl e)); have := HX.out; omega
  obtain ⟨V, hrun, hRV, hGV⟩ := (hZd.gs hD.g hXr).fill ((gC (okn nn) []) (yRs S (aq 3 nm ⟨#[]⟩ (nst nn)))) (gN (yRs S (aq 3 nm ⟨#[]⟩ (nst nn)))) (ids := .slice ai li ci) (tx := .slice at9 lt9 ct9) ⟨_, _, _, rfl⟩ ⟨_, _, _, rfl⟩
  have hRDN := mkRDN hYd hyl hbw hJd hPd hNd hZd (by have := HX.out; omega) hgd hD hGV hRV
  have HR := hide (hRDN.run (C := (gC (okn nn) [])) (N := gN) (I := lI) (T := noT) hG ht (by rw [aq_len]; exact nst_le nn) (aq_sm 3 nm (nst nn) HALL.out.2.2.2.2.1) (by have := HLI.out; omega) (by simp [noT]))
  have HGD := hide (And.intro (hG.aq 3 nm (nst nn)) (ySs_len (aq 3 nm ⟨#[]⟩ (nst nn)) S))
  clear hD hY hbw hG ht hnm hBU hA hZ hyl hYd hJd hPd hNd hZd hgd hXr hRV hGV hRDN
  go_wp2_with (refine wpList_store_run rfl 56 _ _ rfl _ _ rfl rfl hrun ?_)
  refine HR.out.mono ?_
  rintro e w7 ⟨ids', tx', rfl, hO, ⟨ai2, li2, ci2, hei2⟩, ⟨at2, lt2, ct2, het2⟩⟩
  subst hei2
  subst het2
  obtain ⟨W8, hW8⟩ : ∃ W8, W8 = w7.alloc (.cells #[.int .i64 ((gC (okn nn) []) (yRs S (aq 3 nm ⟨#[]⟩ (nst nn)))), .string ⟨#[]⟩, .int .i64 (gN (yRs S (aq 3 nm ⟨#[]⟩ (nst nn)))), .slice ai2 li2 ci2, .slice at2 lt2 ct2, .slice none 0 0, .slice none 0 0] 56) := ⟨_, rfl⟩
  obtain ⟨X10, hX10⟩ : ∃ X, X = w7.heap.size := ⟨_, rfl⟩
  have hB8 : Below w7.heap.size w7 W8 := by rw [hW8]; exact (Below.refl _ _).alloc (Nat.le_refl _) _
  have hR8 : R7 W8 X10 ((gC (okn nn) []) (yRs S (aq 3 nm ⟨#[]⟩ (nst nn)))) (gN (yRs S (aq 3 nm ⟨#[]⟩ (nst nn)))) (.slice ai2 li2 ci2) (.slice at2 lt2 ct2) := by rw [hW8, hX10]; exact heap_alloc_new w7 _
  have hO8 := hO.bel hB8
  have HS := hide (same9 ((gC (okn nn) []) (yRs S (aq 3 nm ⟨#[]⟩ (nst nn)))) (gN (yRs S (aq 3 nm ⟨#[]⟩ (nst nn)))) hO8.i' hO8.i hO8.t' hO8.t (by have := HLI.out; omega) (by simp [noT]))
  have x0 : W8.cell? ⟨X5 + 1, 0, none⟩ = some (.int .i64 ((gC (okn nn) []) (yRs S (aq 3 nm ⟨#[]⟩ (nst nn))))) := hO8.x.cell 0
  have x1 : W8.cell? ⟨X5 + 1, 1, none⟩ = some (.string ⟨#[]⟩) := hO8.x.cell 1
  have x2 : W8.cell? ⟨X5 + 1, 2, none⟩ = some (.int .i64 (gN (yRs S (aq 3 nm ⟨#[]⟩ (nst nn))))) := hO8.x.cell 2
  have x3 : W8.cell? ⟨X5 + 1, 3, none⟩ = some (.slice ai li ci) := hO8.x.cell 3
  have x4 : W8.cell? ⟨X5 + 1, 4, none⟩ = some (.slice at9 lt9 ct9) := hO8.x.cell 4
  have x5 : W8.cell? ⟨X5 + 1, 5, none⟩ = some (.slice none 0 0) := hO8.x.cell 5
  have x6 : W8.cell? ⟨X5 + 1, 6, none⟩ = some (.slice none 0 0) := hO8.x.cell 6
  have q0 : W8.cell? ⟨X10, 0, none⟩ = some (.int .i64 ((gC (okn nn) []) (yRs S (aq 3 nm ⟨#[]⟩ (nst nn))))) := hR8.cell 0
  have q1 : W8.cell? ⟨X10, 1, none⟩ = some (.string ⟨#[]⟩) := hR8.cell 1
  have q2 : W8.cell? ⟨X10, 2, none⟩ = some (.int .i64 (gN (yRs S (aq 3 nm ⟨#[]⟩ (nst nn))))) := hR8.cell 2
  have q3 : W8.cell? ⟨X10, 3, none⟩ = some (.slice ai2 li2 ci2) := hR8.cell 3
  have q4 : W8.cell? ⟨X10, 4, none⟩ = some (.slice at2 lt2 ct2) := hR8.cell 4
  have q5 : W8.cell? ⟨X10, 5, none⟩ = some (.slice none 0 0) := hR8.cell 5
  have q6 : W8.cell? ⟨X10, 6, none⟩ = some (.slice none 0 0) := hR8.cell 6
  have HO8 := hide hO8
  have HW8 := hide hW8
  have HX10 := hide hX10
  clear hO hO8 hB8 hR8 hW8 hX10
  go_upto_region 20 with fail
  rw [← HW8.out, ← HX10.out]
  go_wp2_with (go_at_call 42; refine HS.out.mono ?_; rintro e w9 ⟨rfl, hB9⟩; have HE := hide (HO8.out.bel hB9); clear hB9)
  go_ret
  exact ⟨rfl, _, HGD.out.1, HGD.out.2, HE.out.y, HE.out.g⟩
set_option maxRecDepth 100000 in
set_option maxHeartbeats 6400000 in
theorem step_put (hY : BY B w sv rv S S bs rs) (hbw : B ≤ w.heap.size) (hG : GD t S) (ht : t ≤ 100) (kind nn at_ flt : Int) (nm : ByteArray) (hnm : nm.size ≤ maxLen) {da : Option Addr} {dc : Nat} {ds : List ByteArray} (hd : LS t1 1 (fun i => i < B) w (.slice da ds.length dc) ds) (hdn : ds.length * 16 + 16 ≤ 140737488355328) (hds : ∀ d ∈ ds, d.size ≤ maxLen) (hk : amg kind 4 = 0) :
    Calls Tryz.prog 10 #[sv, rv, .agg #[.int .i64 kind, .int .i64 nn, .int .i64 at_, .int .i64 flt, .string nm, .slice da ds.length dc]] w fun e w' => e = .returned (.bool true) ∧ ∃ S', GD (t + 1) S' ∧ S'.length = S.length ∧ BY B w' sv rv S' S' bs rs ∧ Gs (fun i => B ≤ i) w w' := by
  obtain ⟨m, hm⟩ : ∃ m, m = ds.length := ⟨_, rfl⟩
  rw [← hm]
  rw [← hm] at hd hdn
  obtain ⟨U, hU⟩ : ∃ U, U = (w.alloc (.cells #[.int .i64 kind, .int .i64 nn, .int .i64 at_, .int .i64 flt, .string nm, .slice da m dc] 35)).alloc (.cells #[.int .i64 0, .string ⟨#[]⟩, .int .i64 0, .slice none 0 0, .slice none 0 0, .slice none 0 0, .slice none 0 0] 56) := ⟨_, rfl⟩
  obtain ⟨X5, hX⟩ : ∃ X5, X5 = w.heap.size := ⟨_, rfl⟩
  have hBU : Below w.heap.size w U := by rw [hU]; exact ((Below.refl _ _).alloc (Nat.le_refl _) _).alloc (by simp) _
  have hA : U.heap[X5]? = some (.cells #[.int .i64 kind, .int .i64 nn, .int .i64 at_, .int .i64 flt, .string nm, .slice da m dc] 35 (0, 0)) := by rw [hU, hX, Below.heap_alloc _ _ _ (by simp)]; exact heap_alloc_new w _
  have hZ : R7 U (X5 + 1) 0 0 (.slice none 0 0) (.slice none 0 0) := by
    rw [hU, hX]
    have := heap_alloc_new (w.alloc (.cells #[.int .i64 kind, .int .i64 nn, .int .i64 at_, .int .i64 flt, .string nm, .slice da m dc] 35)) (.cells #[.int .i64 0, .string ⟨#[]⟩, .int .i64 0, .slice none 0 0, .slice none 0 0, .slice none 0 0, .slice none 0 0] 56 (0, 0))
    simpa [R7] using this
  have hyl : ∀ i, Ps bs sv i ∨ Pd rs rv i → i < w.heap.size := fun i hi => by
    rcases hi with hi | hi
    · exact (hY.pl i hi).2
    · exact (hY.dl i hi).2
  have hUs := hBU.size
  have HA := hide (among_any U kind 4 (by decide) (by decide))
  rw [hk] at HA
  have z0 : U.cell? ⟨X5, 0, none⟩ = some (.int .i64 kind) := by simp [World.cell?, hA]
  have z1 : U.cell? ⟨X5, 1, none⟩ = some (.int .i64 nn) := by simp [World.cell?, hA]
  have z4 : U.cell? ⟨X5, 4, none⟩ = some (.string nm) := by simp [World.cell?, hA]
  have z5 : U.cell? ⟨X5, 5, none⟩ = some (.slice da m dc) := by simp [World.cell?, hA]
  have HALL := hide (And.intro hY (And.intro hbw (And.intro hG (And.intro ht (And.intro hnm (And.intro hBU (And.intro hA (And.intro hZ hyl))))))))
  have HU := hide hU
  have HX := hide hX
  have hdU := hd.bel hBU
  have HLE := lend9 (by rw [hm] at hdU; exact hdU) (by rw [← hm]; exact hdn)
  rw [← hm] at HLE
  have HLD := hide HLE
  have HPD := hide (And.intro hd (And.intro hdn (And.intro hds hm)))
  clear HLE hdU hd hdn hds hY hbw hG ht hnm hU hX hBU hA hZ hyl hUs hk hm
  go_enter Tryz.func10, Tryz.ntmps10
  go_upto_region 3 with fail
  rw [← HU.out, ← HX.out]
  go_wp2_with (go_at_call 8; refine HA.out.mono ?_; rintro e w1 ⟨rfl, rfl⟩)
  refine HLD.out.mono ?_
  rintro e wl ⟨g, c', rfl, hLD⟩
  have hBl := hLD.be
  have hAl := (hBl.block X5 (lt_of_block HALL.out.2.2.2.2.2.2.1)).trans HALL.out.2.2.2.2.2.2.1
  have l4 : wl.cell? ⟨X5, 4, none⟩ = some (.string nm) := by simp [World.cell?, hAl]
  have HJ1 := putjob_any (nm := nm) (r := fun _ => True) (hLD.ts.ls fun _ _ => trivial) (by have := HPD.out.2.1; have := HPD.out.2.2.2; omega)
  rw [← HPD.out.2.2.2] at HJ1
  have HJB := hide HJ1
  have HL1 := hide (And.intro hLD hAl)
  clear HJ1 hLD hBl hAl
  go_wp2_with fail
  refine HJB.out.mono ?_
  rintro e wj ⟨b, P, rfl, hJ, hBj, hPl, hNT⟩
  have hLj := HL1.out.1.bel hBj
  have hAj := (hBj.block X5 (lt_of_block HL1.out.2)).trans HL1.out.2
  have j5 : wj.cell? ⟨X5, 5, none⟩ = some (.slice da m dc) := by simp [World.cell?, hAj]
  have hdj := ((HPD.out.1.bel HALL.out.2.2.2.2.2.1).bel HL1.out.1.be).bel hBj
  have HK1 := kept9 (w0 := w1) (g := g) (c' := c') (l := ds) (w := wj) (by rw [← HPD.out.2.2.2]; exact hLj) (by rw [← HPD.out.2.2.2]; exact hdj) (by have := HPD.out.2.1; have := HPD.out.2.2.2; omega)
  rw [← HPD.out.2.2.2] at HK1
  have HK := hide HK1
  have HJ2 := hide (And.intro hJ (And.intro hBj (And.intro hPl (And.intro hNT (And.intro hLj (And.intro hAj hdj))))))
  clear HK1 hJ hBj hPl hNT hLj hAj hdj
  go_wp2_with fail
  refine HK.out.mono ?_
  rintro e wk ⟨rfl, hBk⟩
  have hLk := HJ2.out.2.2.2.2.1.bel hBk
  have HSP := hide (spoil_big hLk.ts (by have := HPD.out.2.1; have := HPD.out.2.2.2; omega))
  have HK2 := hide (And.intro hBk hLk)
  clear hBk hLk
  go_wp2_with fail
  refine HSP.out.mono ?_
  rintro e ws ⟨rfl, hGs⟩
  obtain ⟨hY, hbw, hG, ht, hnm, hBU, hA, hZ, hyl⟩ := HALL.out
  obtain ⟨hJ, hBj, hPl, hNT, hLj, hAj, hdj⟩ := HJ2.out
  obtain ⟨hBk, hLk⟩ := HK2.out
  obtain ⟨hd, hdn, hds, hm⟩ := HPD.out
  have hTk := hLk.ts
  have hgU : ∀ i, (Value.slice (some ⟨g, 0, none⟩) m c').ownBlock = some i → w1.heap.size ≤ i := fun i hi => (hTk.lt i hi).1
  have hgl : ∀ i, (Value.slice (some ⟨g, 0, none⟩) m c').ownBlock = some i → i < wl.heap.size := fun i hi => (HL1.out.1.ts.lt i hi).2
  have hUs := hBU.size
  have hXU := hZ.lt
  have hAX := lt_of_block hA
  have hYd : BY B ws sv rv S S bs rs := ((((hY.bel hBU).bel HL1.out.1.be).bel hBj).bel hBk).txt hTk (fun i hi => by have := hyl i hi; omega) hGs
  have hnX : ¬ (Value.slice (some ⟨g, 0, none⟩) m c').ownBlock = some X5 := fun e => by have := hgU _ e; omega
  have hnX1 : ¬ (Value.slice (some ⟨g, 0, none⟩) m c').ownBlock = some (X5 + 1) := fun e => by have := hgU _ e; omega
  have hPn : ∀ i, P i → ¬ (Value.slice (some ⟨g, 0, none⟩) m c').ownBlock = some i := fun i hi e => by have := hgl _ e; have := hPl i hi; omega
  have hgwj : Gs (fun i => (Value.slice (some ⟨g, 0, none⟩) m c').ownBlock = some i) wj ws := (Gs.of_below _ hBk).trans hGs
  have hAs := (hgwj.block X5 (lt_of_block hAj) hnX).trans hAj
  have s4 : ws.cell? ⟨X5, 4, none⟩ = some (.string nm) := by simp [World.cell?, hAs]
  have s5 : ws.cell? ⟨X5, 5, none⟩ = some (.slice da m dc) := by simp [World.cell?, hAs]
  have hds' : LS t1 1 (fun i => i < B) ws (.slice da m dc) ds := hdj.gs hgwj fun i hi e => by have := hgU _ e; omega
  have HE1 := rputjob9 (nm := nm) hYd.d (fun i hi => (hYd.dl i hi).2) hG ht hds' (fun i hi e => by have := (hYd.dl i (.inl e)).1; omega) hnm hds
  rw [← hm] at HE1
  have HDC := hide HE1
  have HD : Hid (BY B ws sv rv S S bs rs ∧ JJ b _ _ [] P ws ∧ (∀ i, P i → w.heap.size ≤ i ∧ i ≠ X5 + 1) ∧ NT P ws ∧ R7 ws (X5 + 1) 0 0 (.slice none 0 0) (.slice none 0 0) ∧ Gs (fun i => B ≤ i) w ws) :=
    ⟨hYd, hJ.gs (fkR b _ _ _ _) hgwj hPn, fun i hi => by have := hPl i hi; have := HL1.out.1.be.size; exact ⟨by omega, by omega⟩, hNT.keep fun i hi hl => hgwj.block i hl (hPn i hi), ((hZ.bel HL1.out.1.be).bel hBj).gs hgwj hnX1, (((Gs.of_below _ hBU).bel HL1.out.1.be).bel hBj).trans (hgwj.mono fun i _ e => by have := hgU _ e; omega)⟩
  clear HE1 hY hbw hG ht hnm hBU hA hZ hyl hYd hJ hBj hPl hNT hLj hAj hdj hBk hLk hd hdn hds hm hTk hgU hgl hUs hXU hAX hnX hnX1 hPn hgwj hAs hds' hGs
  go_wp2_with fail
  refine HDC.out.mono ?_
  rintro e w3 ⟨ids, tx, rfl, hD⟩
  obtain ⟨ai, li, ci, hei⟩ : ∃ a n c, ids = .slice a n c := by obtain ⟨a, c, e⟩ := hD.i.shp; exact ⟨a, _, c, e⟩
  obtain ⟨at9, lt9, ct9, het⟩ : ∃ a n c, tx = .slice a n c := by obtain ⟨a, c, e⟩ := hD.t.shp; exact ⟨a, _, c, e⟩
  subst hei
  subst het
  obtain ⟨hY, hbw, hG, ht, hnm, hBU, hA, hZ, hyl⟩ := HALL.out
  obtain ⟨hYd, hJd, hPd, hNd, hZd, hgd⟩ := HD.out
  have hXr : ¬ (X5 + 1) ∈ rs := fun e => by have := hyl (X5 + 1) (.inr (.inl e)); have := HX.out; omega
  obtain ⟨V, hrun, hRV, hGV⟩ := (hZd.gs hD.g hXr).fill ((gC (okn (m : Int)) []) (yRs S (pqn nm ds))) (gN (yRs S (pqn nm ds))) (ids := .slice ai li ci) (tx := .slice at9 lt9 ct9) ⟨_, _, _, rfl⟩ ⟨_, _, _, rfl⟩
  have hRDN := mkRDN hYd hyl hbw hJd hPd hNd hZd (by have := HX.out; omega) hgd hD hGV hRV
  have HR := hide (hRDN.run (C := (gC (okn (m : Int)) [])) (N := gN) (I := noT) (T := noT) hG ht (by rw [pqn_len]; exact nst_le _) (pqn_sm nm HALL.out.2.2.2.2.1 HPD.out.2.2.1) (by simp [noT]) (by simp [noT]))
  have HGD := hide (And.intro (hG.pqn nm ds) (ySs_len (pqn nm ds) S))
  clear hD hY hbw hG ht hnm hBU hA hZ hyl hYd hJd hPd hNd hZd hgd hXr hRV hGV hRDN
  go_wp2_with (refine wpList_store_run rfl 56 _ _ rfl _ _ rfl rfl hrun ?_)
  refine HR.out.mono ?_
  rintro e w7 ⟨ids', tx', rfl, hO, ⟨ai2, li2, ci2, hei2⟩, ⟨at2, lt2, ct2, het2⟩⟩
  subst hei2
  subst het2
  obtain ⟨W8, hW8⟩ : ∃ W8, W8 = w7.alloc (.cells #[.int .i64 ((gC (okn (m : Int)) []) (yRs S (pqn nm ds))), .string ⟨#[]⟩, .int .i64 (gN (yRs S (pqn nm ds))), .slice ai2 li2 ci2, .slice at2 lt2 ct2, .slice none 0 0, .slice none 0 0] 56) := ⟨_, rfl⟩
  obtain ⟨X10, hX10⟩ : ∃ X, X = w7.heap.size := ⟨_, rfl⟩
  have hB8 : Below w7.heap.size w7 W8 := by rw [hW8]; exact (Below.refl _ _).alloc (Nat.le_refl _) _
  have hR8 : R7 W8 X10 ((gC (okn (m : Int)) []) (yRs S (pqn nm ds))) (gN (yRs S (pqn nm ds))) (.slice ai2 li2 ci2) (.slice at2 lt2 ct2) := by rw [hW8, hX10]; exact heap_alloc_new w7 _
  have hO8 := hO.bel hB8
  have HS := hide (same9 ((gC (okn (m : Int)) []) (yRs S (pqn nm ds))) (gN (yRs S (pqn nm ds))) hO8.i' hO8.i hO8.t' hO8.t (by simp [noT]) (by simp [noT]))
  have x0 : W8.cell? ⟨X5 + 1, 0, none⟩ = some (.int .i64 ((gC (okn (m : Int)) []) (yRs S (pqn nm ds)))) := hO8.x.cell 0
  have x1 : W8.cell? ⟨X5 + 1, 1, none⟩ = some (.string ⟨#[]⟩) := hO8.x.cell 1
  have x2 : W8.cell? ⟨X5 + 1, 2, none⟩ = some (.int .i64 (gN (yRs S (pqn nm ds)))) := hO8.x.cell 2
  have x3 : W8.cell? ⟨X5 + 1, 3, none⟩ = some (.slice ai li ci) := hO8.x.cell 3
  have x4 : W8.cell? ⟨X5 + 1, 4, none⟩ = some (.slice at9 lt9 ct9) := hO8.x.cell 4
  have x5 : W8.cell? ⟨X5 + 1, 5, none⟩ = some (.slice none 0 0) := hO8.x.cell 5
  have x6 : W8.cell? ⟨X5 + 1, 6, none⟩ = some (.slice none 0 0) := hO8.x.cell 6
  have q0 : W8.cell? ⟨X10, 0, none⟩ = some (.int .i64 ((gC (okn (m : Int)) []) (yRs S (pqn nm ds)))) := hR8.cell 0
  have q1 : W8.cell? ⟨X10, 1, none⟩ = some (.string ⟨#[]⟩) := hR8.cell 1
  have q2 : W8.cell? ⟨X10, 2, none⟩ = some (.int .i64 (gN (yRs S (pqn nm ds)))) := hR8.cell 2
  have q3 : W8.cell? ⟨X10, 3, none⟩ = some (.slice ai2 li2 ci2) := hR8.cell 3
  have q4 : W8.cell? ⟨X10, 4, none⟩ = some (.slice at2 lt2 ct2) := hR8.cell 4
  have q5 : W8.cell? ⟨X10, 5, none⟩ = some (.slice none 0 0) := hR8.cell 5
  have q6 : W8.cell? ⟨X10, 6, none⟩ = some (.slice none 0 0) := hR8.cell 6
  have HO8 := hide hO8
  have HW8 := hide hW8
  have HX10 := hide hX10
  clear hO hO8 hB8 hR8 hW8 hX10
  go_upto_region 20 with fail
  rw [← HW8.out, ← HX10.out]
  go_wp2_with (go_at_call 42; refine HS.out.mono ?_; rintro e w9 ⟨rfl, hB9⟩; have HE := hide (HO8.out.bel hB9); clear hB9)
  go_ret
  exact ⟨rfl, _, HGD.out.1, HGD.out.2, HE.out.y, HE.out.g⟩
end
end Go.Proofs.YtiecoplfiahpnaaGreat

namespace Go.Proofs.YtiecoplfiahpnaaGreat
open Go.RowKit Go.Lib Go.Maps
section
variable {B t : Nat} {w w' : World} {sv rv : Value} {S : List SS} {bs : List (Nat × Nat)} {rs : List Nat}
theorem step9 (hY : BY B w sv rv S S bs rs) (hbw : B ≤ w.heap.size) (hG : GD t S) (ht : t ≤ 100) (kind nn at_ flt : Int) (nm : ByteArray) (hnm : nm.size ≤ maxLen) {da : Option Addr} {dc : Nat} {ds : List ByteArray} (hd : LS t1 1 (fun i => i < B) w (.slice da ds.length dc) ds) (hdn : ds.length * 16 + 16 ≤ 140737488355328) (hds : ∀ d ∈ ds, d.size ≤ maxLen) :
    Calls Tryz.prog 10 #[sv, rv, .agg #[.int .i64 kind, .int .i64 nn, .int .i64 at_, .int .i64 flt, .string nm, .slice da ds.length dc]] w fun e w' => e = .returned (.bool true) ∧ ∃ S', GD (t + 1) S' ∧ S'.length = S.length ∧ BY B w' sv rv S' S' bs rs ∧ Gs (fun i => B ≤ i) w w' := by
  have hlt : amg kind 4 < 4 := (amg_spec kind 4 (by decide)).2.1
  rcases (show amg kind 4 = 0 ∨ amg kind 4 = 1 ∨ amg kind 4 = 2 ∨ amg kind 4 = 3 by omega) with h | h | h | h
  · exact step_put hY hbw hG ht kind nn at_ flt nm hnm hd hdn hds h
  · exact step_get hY hbw hG ht kind nn at_ flt nm hnm h
  · exact step_del hY hbw hG ht kind nn at_ flt nm hnm h
  · exact step_list hY hbw hG ht kind nn at_ flt nm hnm h
theorem GO.flt {s : SS} (h : GO t s) (k : Nat) : GO t (fltS s k) := by
  unfold fltS
  split
  · exact ⟨h.ris, h.sm, h.len, h.m0, h.mt, h.f⟩
  · split
    · exact ⟨h.ris, h.sm, h.len, h.m0, h.mt, h.f⟩
    · split
      · exact ⟨h.ris, h.sm, h.len, h.m0, h.mt, by show (1 : Int) ≤ 1048576; decide⟩
      · exact h
theorem GD.flt (h : GD t S) {s : SS} {i : Nat} (hs : S[i]? = some s) (k : Nat) : GD t (S.set i (fltS s k)) := fun x hx => by
  rcases List.mem_or_eq_of_mem_set hx with hx | rfl
  · exact h x hx
  · exact (h s (List.mem_of_getElem? hs)).flt k
theorem BY.flt (h : BY B w sv rv S S bs rs) {k rb : Nat} {e : Nat × Nat} {s s' : SS} (he : bs[k]? = some e) (hr : rs[k]? = some rb) (hs : S[k]? = some s) (hg : Gs (fun i => i = e.1 ∨ i = e.2 ∨ i = rb) w w') (hX : PX w' e.1 e.2 s') (hD : RD w' rb s') : BY B w' sv rv (S.set k s') (S.set k s') bs rs := by
  have hPe : Ps bs sv e.1 := .inl ⟨e, List.mem_of_getElem? he, .inl rfl⟩
  have hPm : Ps bs sv e.2 := .inl ⟨e, List.mem_of_getElem? he, .inr rfl⟩
  have hPr : Pd rs rv rb := .inl (List.mem_of_getElem? hr)
  have hRD := h.d.rd k rb s hr hs
  obtain ⟨cs, hblk⟩ := hRD.blk
  refine ⟨⟨h.y.rp.kb hg.size fun j hj hP hc => hg.block j hj ?_, by rw [List.length_set]; exact h.y.len, fun j f x hf hx => ?_, h.y.inP, h.y.ap⟩, ⟨h.d.rp.kb hg.size fun j hj hP hc => hg.block j hj ?_, by rw [List.length_set]; exact h.d.len, fun j f x hf hx => ?_, h.d.inP, h.d.ap⟩, fun i hi => ⟨(h.pl i hi).1, Nat.lt_of_lt_of_le (h.pl i hi).2 hg.size⟩, fun i hi => ⟨(h.dl i hi).1, Nat.lt_of_lt_of_le (h.dl i hi).2 hg.size⟩, h.ap⟩
  · obtain ⟨_, _, hc⟩ := hc
    have h1 := (h.y.px k e s he hs).far hc
    rintro (q | q | q)
    · exact h1 (.inl q)
    · exact h1 (.inr q)
    · rw [q] at hP; exact h.ap rb hP hPr
  · rw [List.getElem?_set] at hx
    by_cases hij : k = j
    · subst hij
      rw [if_pos rfl, if_pos (List.getElem?_eq_some_iff.1 hs).1] at hx
      cases hx
      rw [he] at hf
      cases hf
      exact hX
    · rw [if_neg hij] at hx
      have := h.y.ap k j e f he hf hij
      have hfP : Ps bs sv f.1 ∧ Ps bs sv f.2 := h.y.inP f (List.mem_of_getElem? hf)
      refine PS.gs (h.y.px j f x hf hx) hg ?_ ?_
      · rintro (q | q | q)
        · exact this.1 q.symm
        · exact h.y.cross hf he q
        · rw [q] at hfP; exact h.ap rb hfP.1 hPr
      · rintro (q | q | q)
        · exact h.y.cross he hf q.symm
        · exact this.2 q.symm
        · rw [q] at hfP; exact h.ap rb hfP.2 hPr
  · obtain ⟨_, _, hc⟩ := hc
    rintro (q | q | q)
    · rw [q] at hP; exact h.ap _ hPe hP
    · rw [q] at hP; exact h.ap _ hPm hP
    · exact hRD.far hc q
  · rw [List.getElem?_set] at hx
    by_cases hij : k = j
    · subst hij
      rw [if_pos rfl, if_pos (List.getElem?_eq_some_iff.1 hs).1] at hx
      cases hx
      rw [hr] at hf
      cases hf
      exact hD
    · rw [if_neg hij] at hx
      have hfP : Pd rs rv f := h.d.inP f (List.mem_of_getElem? hf)
      refine (h.d.rd j f x hf hx).gs hg ?_ fun i cs' fr hi e' => ?_
      · rintro (q | q | q)
        · rw [q] at hfP; exact h.ap _ hPe hfP
        · rw [q] at hfP; exact h.ap _ hPm hfP
        · exact h.d.ap k j rb f hr hf hij q.symm
      · rcases e' with q | q | q
        · exact h.noObj hi ⟨e, List.mem_of_getElem? he, .inl q⟩
        · exact h.noObj hi ⟨e, List.mem_of_getElem? he, .inr q⟩
        · rw [q, hblk] at hi; simp at hi
end
end Go.Proofs.YtiecoplfiahpnaaGreat

namespace Go.Proofs.YtiecoplfiahpnaaGreat
open Go.ChangeShapes Go.WideShapes Go.ChangeAt Go.RowKit Go.Lib
/-- An act in plain terms. -/
structure AX where
  k : Int
  n : Int
  a : Int
  f : Int
  nm : ByteArray
  da : Option Addr
  dc : Nat
  ds : List ByteArray
def AX.dv (x : AX) : Value := .slice x.da x.ds.length x.dc
def a6 (x : AX) : List Value := [.int .i64 x.k, .int .i64 x.n, .int .i64 x.a, .int .i64 x.f, .string x.nm, x.dv]
instance : Inhabited AX := ⟨⟨0, 0, 0, 0, ⟨#[]⟩, none, 0, []⟩⟩
theorem Tryz.cAct : Tryz.prog.cellsOf 35 = 6 := by kernel_rfl
theorem Tryz.cTx : Tryz.prog.cellsOf 33 = 1 := by kernel_rfl
theorem trod_struct6 {H : Type} {enc : TypeId × Value → H} {P : Program} {w : World} {base : Nat} {spare : Nat → Bool} {held : Bool} {t : TypeId} {f0 f1 f2 f3 f4 f5 : Field} {fuel : Nat} {cs : List Value} {x : DataW H × List MemPlace} (ht : P.underlying t = some (.struct #[f0, f1, f2, f3, f4, f5])) (h : DataW.trod enc P w base spare held fuel t cs = some x) :
    ∃ y0 y1 y2 y3 y4 y5 n, x.1 = .agg [y0.1, y1.1, y2.1, y3.1, y4.1, y5.1] ∧ cs.length = P.cellsOf t ∧ DataW.trod enc P w base spare held n f0.type ((cs.drop f0.offset).take (P.cellsOf f0.type)) = some y0 ∧
      DataW.trod enc P w base spare held n f1.type ((cs.drop f1.offset).take (P.cellsOf f1.type)) = some y1 ∧ DataW.trod enc P w base spare held n f2.type ((cs.drop f2.offset).take (P.cellsOf f2.type)) = some y2 ∧
      DataW.trod enc P w base spare held n f3.type ((cs.drop f3.offset).take (P.cellsOf f3.type)) = some y3 ∧ DataW.trod enc P w base spare held n f4.type ((cs.drop f4.offset).take (P.cellsOf f4.type)) = some y4 ∧
      DataW.trod enc P w base spare held n f5.type ((cs.drop f5.offset).take (P.cellsOf f5.type)) = some y5 := by
  obtain ⟨xs, n, _, rfl, hl, hlen, hf⟩ := DataW.trod_struct ht h
  match xs, hlen with
  | [y0, y1, y2, y3, y4, y5], _ => exact ⟨y0, y1, y2, y3, y4, y5, n, by simp, hl, by simpa using hf 0 f0 rfl, by simpa using hf 1 f1 rfl, by simpa using hf 2 f2 rfl, by simpa using hf 3 f3 rfl, by simpa using hf 4 f4 rfl, by simpa using hf 5 f5 rfl⟩
theorem add_flat (b off j : Nat) : (⟨b, off, none⟩ : Addr).add j = ⟨b, off + j, none⟩ := by
  unfold Addr.add; split <;> simp_all
set_option maxRecDepth 100000 in
theorem acts_of {H : Type} {enc : TypeId × Value → H} {w : World} {a : Option Addr} {len cap : Nat} {d : DataW H} {ps : List MemPlace}
    (h : DataW.Trod enc Tryz.prog w 0 (fun _ => true) true 22 (.slice a len cap) d ps) : ∃ l : List AX, LS a6 6 (fun _ => True) w (.slice a len cap) l ∧ l.length ≤ 9223372036854775807 ∧ ∀ x ∈ l, LS t1 1 (fun _ => True) w x.dv x.ds ∧ x.nm.size ≤ maxLen ∧ (∀ b ∈ x.ds, b.size ≤ maxLen) ∧ (x.ds = [] ∨ ∃ es sp fs elems spare, d = .slice es sp ∧ DataW.agg fs ∈ es ∧ fs[5]? = some (.slice elems spare) ∧ x.ds.length ≤ elems.length + spare.length) := by
  obtain ⟨fuel, hf⟩ := h
  rcases Go.Deep.open_slice Tryz.underlying22 hf with ⟨hcs, _⟩ | ⟨x, l, c, m, n, D, Pl, hcs, _, hlc, hcm, hm, hd, hx⟩
  · simp [Value.cells] at hcs
    obtain ⟨rfl, rfl, rfl⟩ := hcs
    exact ⟨[], ⟨_, _, rfl, fun _ => rfl, .inl rfl⟩, Nat.zero_le _, (fun x hx => by cases hx)⟩
  · simp [Value.cells] at hcs
    obtain ⟨rfl, rfl, rfl⟩ := hcs
    simp only [if_true] at hm
    subst hm
    by_cases h0 : len = 0
    · subst h0
      exact ⟨[], ⟨_, _, rfl, (fun e => by cases e), .inl rfl⟩, Nat.zero_le _, (fun x hx => by cases hx)⟩
    have ed : d = .slice ((List.range len).map D) ((List.range (m - len)).map fun j => D (len + j)) := congrArg Prod.fst hd
    have hall : ∀ i, i < len → ∃ X : AX, w.cell? (x.add (i * 6)) = some (.int .i64 X.k) ∧ w.cell? (x.add (i * 6 + 1)) = some (.int .i64 X.n) ∧ w.cell? (x.add (i * 6 + 2)) = some (.int .i64 X.a) ∧ w.cell? (x.add (i * 6 + 3)) = some (.int .i64 X.f) ∧ w.cell? (x.add (i * 6 + 4)) = some (.string X.nm) ∧ w.cell? (x.add (i * 6 + 5)) = some X.dv ∧ LS t1 1 (fun _ => True) w X.dv X.ds ∧ X.nm.size ≤ maxLen ∧ (∀ b ∈ X.ds, b.size ≤ maxLen) ∧ (X.ds = [] ∨ ∃ fs elems spare, D i = .agg fs ∧ fs[5]? = some (.slice elems spare) ∧ X.ds.length ≤ elems.length + spare.length) := by
      intro i hi
      obtain ⟨cs', h1, h2⟩ := hx i (by omega)
      rw [Tryz.cAct] at h1
      obtain ⟨_, hlen, hcell⟩ := World.cells?_some h1
      obtain ⟨y0, y1, y2, y3, y4, y5, n', hD, _, g0, g1, g2, g3, g4, g5⟩ := trod_struct6 Tryz.underlying35 h2
      match cs', hlen with
      | [v0, v1, v2, v3, v4, v5], _ =>
        simp [Tryz.cI, Tryz.cS, Tryz.cTx] at g0 g1 g2 g3 g4 g5
        have e0 := hcell 0 (by omega)
        have e1 := hcell 1 (by omega)
        have e2 := hcell 2 (by omega)
        have e3 := hcell 3 (by omega)
        have e4 := hcell 4 (by omega)
        have e5 := hcell 5 (by omega)
        rw [Go.Deep.add_add] at e0 e1 e2 e3 e4 e5
        obtain ⟨k0, u0, _, _⟩ := DataW.trod_int Tryz.underlying3 g0
        obtain ⟨k1, u1, _, _⟩ := DataW.trod_int Tryz.underlying3 g1
        obtain ⟨k2, u2, _, _⟩ := DataW.trod_int Tryz.underlying3 g2
        obtain ⟨k3, u3, _, _⟩ := DataW.trod_int Tryz.underlying3 g3
        obtain ⟨na, u4, _, hna⟩ := DataW.trod_string Tryz.underlying9 g4
        obtain ⟨da, dc, ll, u5, hL, _, _, hsz, hb⟩ := texts_of g5
        simp only [List.cons.injEq, and_true] at u0 u1 u2 u3 u4
        subst u0 u1 u2 u3 u4 u5
        refine ⟨⟨k0, k1, k2, k3, na, da, dc, ll⟩, by simpa using e0, by simpa using e1, by simpa using e2, by simpa using e3, by simpa using e4, by simpa [AX.dv] using e5, hL, hna, hsz, ?_⟩
        rcases hb with hb | ⟨elems, spare, hb, hq⟩
        · exact .inl hb
        · exact .inr ⟨_, elems, spare, hD, by simp [hb], hq⟩
    obtain ⟨X, hX⟩ := Go.Deep.choose_lt hall
    obtain ⟨b, off, spot⟩ := x
    have hc := (hX 0 (by omega)).1
    have hspot : spot = none := by simpa [Addr.add] using World.cell?_spot hc
    subst hspot
    refine ⟨(List.range len).map X, ⟨some ⟨b, off, none⟩, m, by simp, (fun e => by cases e), .inr ⟨b, off, rfl, trivial, World.block_lt_of_cell? _ _ hc, fun i y hy j u hu => ?_⟩⟩, by simp; unfold maxLen at hcm; omega, fun y hy => ?_⟩
    · rw [List.getElem?_map] at hy
      obtain ⟨k, hk, rfl⟩ := Option.map_eq_some_iff.1 hy
      have hi : i < len := by
        have := (List.getElem?_eq_some_iff.1 hk).1
        simpa using this
      rw [List.getElem?_range hi] at hk
      cases hk
      obtain ⟨c0, c1, c2, c3, c4, c5, _⟩ := hX i hi
      rw [add_flat] at c0 c1 c2 c3 c4 c5
      rw [← Nat.add_assoc] at c1 c2 c3 c4 c5
      match j, hu with
      | 0, hu => cases hu; exact c0
      | 1, hu => cases hu; exact c1
      | 2, hu => cases hu; exact c2
      | 3, hu => cases hu; exact c3
      | 4, hu => cases hu; exact c4
      | 5, hu => cases hu; exact c5
      | _ + 6, hu => simp [a6] at hu
    · obtain ⟨i, hi, rfl⟩ := List.mem_map.1 hy
      rw [List.mem_range] at hi
      obtain ⟨_, _, _, _, _, _, h1, h2, h3, h4⟩ := hX i hi
      refine ⟨h1, h2, h3, h4.imp id fun ⟨fs, elems, spare, q1, q2, q3⟩ => ⟨_, _, fs, elems, spare, ed, ?_, q2, q3⟩⟩
      rw [← q1]
      exact List.mem_map.2 ⟨i, List.mem_range.2 hi, rfl⟩
end Go.Proofs.YtiecoplfiahpnaaGreat
