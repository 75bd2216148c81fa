/-
  Contracts of the program and of the statements (part 10 of 13).
-/
import Derived.Test.YtiecoplfiahpnaaGreatFc9

namespace Go.Proofs.YtiecoplfiahpnaaGreat
open Go.RowKit Go.Lib Go.Maps
theorem fe_n : FE 116 := FE.of Tryz.underlying116
section
variable {F : FuncId} {fi ca : Array Value} {w W w0 w2 : World} {b c1 i1 : Nat} {v av nv cv : Value} {r r0 p e m : Nat → Prop} {X : List (RR × Value)} {a : Option Addr} {n d nm : ByteArray} {Q : World → Prop} {Fin : List RR → (Nat → Prop) → World → Prop} {N : Nat} {l rest : List QT} {A0 : List RR} {st k c NN s nn : Int} {go ids tx : Value} {cs : List Int} {ns : List ByteArray}
set_option maxRecDepth 100000 in
theorem byNames_any {fn : Fn} : Calls Tryz.prog 88 #[.func fn fi ca] w fun e w' => e = .returned (.func (.func 103) #[] #[.pointer (some ⟨w.heap.size, 0, none⟩)]) ∧ w' = w.alloc (.cells #[.func fn fi ca] 116) := by
  have hmf : ∀ (fn : Fn) (first cap : Array Value) (w : World), (Instr.makeFunc fn first cap).run Tryz.prog w = .ok (.func fn first cap) w := fun _ _ _ _ => rfl
  obtain ⟨g1, g2, g3, g4⟩ := fe_n
  go_enter Tryz.func88, Tryz.ntmps88
  go_wp2
  go_ret
  exact ⟨rfl, rfl⟩
set_option maxRecDepth 100000 in
set_option maxHeartbeats 3200000 in
theorem byNames1_any (hent : Ent F) (hc : W.heap[c1]? = some (.cells #[.func (.func F) fi ca] 116 (0, 0))) (hL : LS x3 3 r W av X) (hN : ∀ x ∈ X, LS t1 1 r W x.2 x.1.l) (hsm : ∀ x ∈ X, ∀ y ∈ x.1.l, y.size ≤ maxLen) (hn : X.length ≤ 1000000) (hIl : (resI (X.map (·.1))).length ≤ 1000000000000) (hp : ¬ p c1)
    (HC : ∀ W1 nv cv, TS W.heap.size nv (lI (X.map (·.1))) W1 → OW _root_.Go.Proofs.YtiecoplfiahpnaaGreat.c1 1 26 W.heap.size cv (X.map (·.1.c)) W1 → Below W.heap.size W W1 → Calls Tryz.prog F (fi ++ (#[nv, cv] ++ ca)) W1 fun e w' => e = .returned (.tuple #[]) ∧ Gs p W1 w' ∧ Q w') :
    Calls Tryz.prog 103 #[av, .pointer (some ⟨c1, 0, none⟩)] W fun e w' => e = .returned (.tuple #[]) ∧ Gs p W w' ∧ Q w' := by
  have y1 : W.cell? ⟨c1, 0, none⟩ = some (.func (.func F) fi ca) := by simp [World.cell?, hc]
  have hund : ∀ {W1 : World}, Below W.drew.heap.size W.drew W1 → Below W.heap.size W W1 := fun hB => ⟨hB.os, hB.tape, hB.output, hB.size, hB.block⟩
  have HK : Hid (∀ w1, Below W.drew.heap.size W.drew w1 → w1.cell? ⟨c1, 0, none⟩ = some (.func (.func F) fi ca)) := fun w1 hb => (hb.cell (p := ⟨c1, 0, none⟩) (lt_of_block hc)).trans y1
  have HN1 : Hid (∀ w1, Below W.drew.heap.size W.drew w1 → Calls Tryz.prog 104 #[av] w1 fun e w' => ∃ nv, e = .returned nv ∧ w'.cell? ⟨c1, 0, none⟩ = some (.func (.func F) fi ca) ∧ TS W.heap.size nv (lI (X.map (·.1))) w' ∧ Below W.drew.heap.size W.drew w' ∧ ∀ v l, OW _root_.Go.Proofs.YtiecoplfiahpnaaGreat.c1 1 26 W.heap.size v l w1 → OW _root_.Go.Proofs.YtiecoplfiahpnaaGreat.c1 1 26 W.heap.size v l w') := fun w1 hB => by
    refine (namesOf_any (hL.bel (hund hB)) (fun x hx => (hN x hx).bel (hund hB)) hsm hn hIl).mono ?_
    rintro er w' ⟨nv, rfl, hT, hB1⟩
    have hB2 := hB.trans (hB1.mono hB.size)
    exact ⟨nv, rfl, HK.out w' hB2, hT.low (hund hB).size, hB2, fun v l hO => hO.keep hB1⟩
  have HC1 : Hid (∀ w1, Below W.drew.heap.size W.drew w1 → Calls Tryz.prog 64 #[av] w1 fun e w' => ∃ cv, e = .returned cv ∧ w'.cell? ⟨c1, 0, none⟩ = some (.func (.func F) fi ca) ∧ OW _root_.Go.Proofs.YtiecoplfiahpnaaGreat.c1 1 26 W.heap.size cv (X.map (·.1.c)) w' ∧ Below W.drew.heap.size W.drew w' ∧ ∀ v l, TS W.heap.size v l w1 → TS W.heap.size v l w') := fun w1 hB => by
    refine (codesOf_any (hL.bel (hund hB)) (fun x hx => by obtain ⟨a, c, e⟩ := (hN x hx).shp; exact ⟨a, _, c, e⟩) hn).mono ?_
    rintro er w' ⟨cv, rfl, hT, hB1⟩
    have hB2 := hB.trans (hB1.mono hB.size)
    exact ⟨cv, rfl, HK.out w' hB2, hT.low (hund hB).size, hB2, fun v l hO => hO.keep hB1⟩
  have HE : Hid (∀ W1 nv cv, TS W.heap.size nv (lI (X.map (·.1))) W1 → OW _root_.Go.Proofs.YtiecoplfiahpnaaGreat.c1 1 26 W.heap.size cv (X.map (·.1.c)) W1 → Below W.drew.heap.size W.drew W1 → Calls Tryz.prog F (fi ++ (#[nv, cv] ++ ca)) W1 fun e w' => e = .returned (.tuple #[]) ∧ w'.cell? ⟨c1, 0, none⟩ = some (.func (.func F) fi ca) ∧ Hid (Gs p W w' ∧ Q w')) := fun W1 nv cv hT hO hB => by
    refine (HC W1 nv cv hT hO (hund hB)).mono ?_
    rintro er w' ⟨rfl, hG, hQ⟩
    have hG' : Gs p W w' := (Gs.of_below _ (hund hB)).trans hG
    exact ⟨rfl, by simp [World.cell?, hG'.block c1 (lt_of_block hc) hp, hc], hG', hQ⟩
  have hB0 : Below W.drew.heap.size W.drew W.drew := Below.refl _ _
  unfold Ent at hent
  clear hc hL hN hsm hn hIl hp HC hund
  go_enter Tryz.func103, Tryz.ntmps103
  go_upto_region 0 with fail
  go_region_held3 (fun w' => w'.cell? ⟨c1, 0, none⟩ = some (.func (.func F) fi ca)) (first | assumption)
    (first
      | (go_at_call 104; refine (HN1.out _ (by assumption)).mono ?_; rintro er w1 ⟨nv, rfl, k1, hT1, hB1, hk1⟩; try (have hO1 := hk1 _ _ (by assumption)); clear hk1)
      | (go_at_call 64; refine (HC1.out _ (by assumption)).mono ?_; rintro er w1 ⟨cv, rfl, k1, hO1, hB1, hk1⟩; try (have hT1 := hk1 _ _ (by assumption)); clear hk1)
      | (have hT9 := hT1; have hO9 := hO1; refine (HE.out _ _ _ hT9 hO9 hB1).mono ?_; rintro er w2 ⟨rfl, k2, hF⟩))
  all_goals (go_wp2; go_end0; exact ⟨rfl, hF.out⟩)
/-- What is done with the names and the codes. -/
def KN (F : FuncId) (fi ca : Array Value) (b : Nat) (Fin : List RR → (Nat → Prop) → World → Prop) (n : Nat) (rest : List QT) (A0 : List RR) (e m : Nat → Prop) (w0 : World) : Prop :=
  ∀ (W : World) (nv cv : Value) (A : List RR) (r : Nat → Prop), Sm e w0 W → JB W b true 0 0 ⟨#[]⟩ ⟨#[]⟩ .nilFunc 0 0 (.slice none 0 0) (.slice none 0 0) ((A0.length + n : Nat) : Int) → LS t1 1 r W nv (lI A) → LS _root_.Go.Proofs.YtiecoplfiahpnaaGreat.c1 1 r W cv (A.map (·.c)) → A.length = n → (resI (A0 ++ A)).length ≤ 1000000000000 → (∀ i, r i → w0.heap.size ≤ i ∧ i < W.heap.size) →
    Calls Tryz.prog F (fi ++ (#[nv, cv] ++ ca)) W fun er w' => er = .returned (.tuple #[]) ∧ Gs (fun i => i = b ∨ m i) W w' ∧ RDY b (fun w2 => ∃ P', JJ b Fin rest (A0 ++ A) P' w2 ∧ Gs (fun i => i = b ∨ m i) W w2 ∧ ∀ i, P' i → i = b ∨ e i ∨ r i ∨ W.heap.size ≤ i) w'
theorem ent_bn1 : Ent 103 := ent_of Tryz.func103 (by kernel_rfl) rfl
theorem ko_names (hent : Ent F) (HK : KN F fi ca b Fin N rest A0 e m w) (hN : N ≤ 1000000) (hb : Below w.heap.size w w2) (heb : b < w.heap.size) (hme : ∀ i, m i → e i) (hel : ∀ i, e i → i < w.heap.size) :
    KO 103 #[] #[.pointer (some ⟨w2.heap.size, 0, none⟩)] b Fin N rest A0 (fun i => e i ∨ i = w2.heap.size) m (w2.alloc (.cells #[.func (.func F) fi ca] 116)) := by
  intro W av X r hS hJ hL hNm hX hI hsm hr
  have hs := hb.size
  have hc : W.heap[w2.heap.size]? = some (.cells #[.func (.func F) fi ca] 116 (0, 0)) := (hS.2 w2.heap.size (.inr rfl) (by simp)).trans (heap_alloc_new w2 _)
  have hWs := hS.1
  have hb2 : Below w.heap.size w (w2.alloc (.cells #[.func (.func F) fi ca] 116)) := hb.alloc hs _
  have hSe : Sm e w W := ((Sm.refl e w).bel hb2).trans (hS.mono fun i hi => .inl hi)
  have hI1 : (resI (X.map (·.1))).length ≤ 1000000000000 := by
    rw [resI_app, List.length_append] at hI
    omega
  show Calls Tryz.prog 103 #[av, .pointer (some ⟨w2.heap.size, 0, none⟩)] W _
  refine byNames1_any (p := fun i => i = b ∨ m i) hent hc hL hNm hsm (by omega) hI1 ?_ ?_
  · rintro (h | h)
    · omega
    · have := hel _ (hme _ h); omega
  intro W1 nv cv hT hO hB
  have hOl := hO.lt
  have hTl := hT.lt
  have hBs := hB.size
  have e1 : X.map (·.1.c) = (X.map (·.1)).map (·.c) := by rw [List.map_map]; rfl
  refine (HK W1 nv cv (X.map (·.1)) (fun i => nv.ownBlock = some i ∨ cv.ownBlock = some i) (hSe.bel hB) (hJ.bel hB) (hT.ls fun i hi => .inl hi) (by rw [← e1]; exact hO.ls c1_len fun i hi => .inr hi) (by simpa using hX) hI (fun i hi => ?_)).mono ?_
  · rcases hi with h | h
    · have := hTl i h; simp at hWs; exact ⟨by omega, this.2⟩
    · have := hOl i h; simp at hWs; exact ⟨by omega, this.2⟩
  rintro er w' ⟨rfl, hG, hR⟩
  refine ⟨rfl, hG, hR.mono ?_⟩
  rintro w3 ⟨P', h1, h2, h3⟩
  refine ⟨P', h1, (Gs.of_below _ hB).trans h2, fun i hi => ?_⟩
  rcases h3 i hi with h | h | (h | h) | h
  · exact .inl h
  · exact .inr (.inl (.inl h))
  · exact .inr (.inr (.inr (hTl i h).1))
  · exact .inr (.inr (.inr (hOl i h).1))
  · exact .inr (.inr (.inr (by omega)))
theorem asksN (hent : Ent F) (hJ : JB w b true 0 0 ⟨#[]⟩ ⟨#[]⟩ .nilFunc 0 0 (.slice none 0 0) (.slice none 0 0) (A0.length : Int)) (hB : Below w.heap.size w w2) (hv : LS q4 4 r0 w2 v l) (hz : l = [] → v = .slice none 0 0) (hl : l.length ≤ 1000000) (hI0 : (resI A0).length ≤ 1000000000000) (HK : KN F fi ca b Fin l.length rest A0 e m w) (heb : ¬ e b) (hme : ∀ i, m i → e i) (hel : ∀ i, e i → i < w.heap.size) :
    Calls Tryz.prog 80 #[.pointer (some ⟨b, 0, none⟩), v, .func (.func 103) #[] #[.pointer (some ⟨w2.heap.size, 0, none⟩)]] (w2.alloc (.cells #[.func (.func F) fi ca] 116)) fun er w' => er = .returned (.tuple #[]) ∧ PO (l ≠ [] ∧ NT e w) b Fin (l ++ rest) A0 e (fun i => i = b ∨ m i) w w' := by
  have hs := hB.size
  have hbl := hJ.lt
  have hB2 : Below w2.heap.size w2 (w2.alloc (.cells #[.func (.func F) fi ca] 116)) := (Below.refl _ _).alloc (Nat.le_refl _) _
  refine (asks (rest := rest) ent_bn1 ((hJ.bel hB).bel hB2) (hv.bel hB2) hz hl hI0 (ko_names hent HK hl hB hbl hme hel) ?_ (fun i hi => .inl (hme i hi)) ?_).mono ?_
  · rintro (h | h)
    · exact heb h
    · omega
  · rintro i (h | h)
    · have := hel i h; simp; omega
    · simp; omega
  · rintro er w' ⟨rfl, hP⟩
    refine ⟨rfl, ((hP.bel (hB.trans (hB2.mono hs))).less ?_).weak fun hg => ⟨hg.1, ?_⟩⟩
    · rintro i (h | h)
      · exact .inl h
      · exact .inr (by omega)
    · rintro i (h | h)
      · exact (hg.2.bel (hB.trans (hB2.mono hs))) i h
      · rw [h]; exact ⟨_, _, heap_alloc_new w2 _, by simp [okT]⟩
set_option maxRecDepth 100000 in
set_option maxHeartbeats 3200000 in
theorem lists_any (hent : Ent F) (hJ : JB w b true 0 0 ⟨#[]⟩ ⟨#[]⟩ .nilFunc 0 0 (.slice none 0 0) (.slice none 0 0) (A0.length : Int)) (n : Int) (hI0 : (resI A0).length ≤ 1000000000000) (HK : KN F fi ca b Fin (nst n) rest A0 e m w) (heb : ¬ e b) (hme : ∀ i, m i → e i) (hel : ∀ i, e i → i < w.heap.size) :
    Calls Tryz.prog 69 #[.pointer (some ⟨b, 0, none⟩), .int .i64 n, .string nm, .func (.func F) fi ca] w fun er w' => er = .returned (.tuple #[]) ∧ PO (aq 3 nm ⟨#[]⟩ (nst n) ≠ [] ∧ NT e w) b Fin (aq 3 nm ⟨#[]⟩ (nst n) ++ rest) A0 e (fun i => i = b ∨ m i) w w' := by
  have HT := hide (toAll_any (nm := nm) (w := w) n 0 3 ⟨#[]⟩)
  have HA : Hid (∀ w1 v, LS q4 4 (fun i => w.heap.size ≤ i) w1 v (aq 3 nm ⟨#[]⟩ (nst n)) → (aq 3 nm ⟨#[]⟩ (nst n) = [] → v = .slice none 0 0) → Below w.heap.size w w1 → Calls Tryz.prog 80 #[.pointer (some ⟨b, 0, none⟩), v, .func (.func 103) #[] #[.pointer (some ⟨w1.heap.size, 0, none⟩)]] (w1.alloc (.cells #[.func (.func F) fi ca] 116)) fun er w' => er = .returned (.tuple #[]) ∧ PO (aq 3 nm ⟨#[]⟩ (nst n) ≠ [] ∧ NT e w) b Fin (aq 3 nm ⟨#[]⟩ (nst n) ++ rest) A0 e (fun i => i = b ∨ m i) w w') := fun w1 v h1 h2 hB => by
    have hnl := nst_le n
    exact asksN (rest := rest) hent hJ hB h1 h2 (by rw [aq_len]; omega) hI0 (by rw [aq_len]; exact HK) heb hme hel
  have HBC := hide (fun w => byNames_any (fn := .func F) (fi := fi) (ca := ca) (w := w))
  clear HK hJ hent hI0 heb hme hel
  go_enter Tryz.func69, Tryz.ntmps69
  go_wp2_with fail
  refine HT.out.mono ?_
  rintro er w1 ⟨v, rfl, h1, h2, hB⟩
  have HA1 := hide (HA.out w1 v h1 h2 hB)
  clear h1 h2 hB
  go_wp2_with fail
  refine (HBC.out w1).mono ?_
  rintro er w3 ⟨rfl, rfl⟩
  go_wp2_with fail
  refine HA1.out.mono ?_
  rintro er w2 ⟨rfl, hP⟩
  have HP := hide hP
  clear hP
  go_wp2
  go_end0
  exact ⟨rfl, HP.out⟩
set_option maxRecDepth 100000 in
set_option maxHeartbeats 3200000 in
theorem list_fin (h6 : w.heap[i1]? = some (.cells #[.pointer (some ⟨b, 0, none⟩)] 48 (0, 0))) (hJ : JB w b true st k n d go c NN ids tx s) (hT : LS t1 1 r w nv ns) (hTl : ns.length ≤ 1000000000000) (hL : LS _root_.Go.Proofs.YtiecoplfiahpnaaGreat.c1 1 r w cv cs) (hn : cs.length ≤ 1000000) :
    Calls Tryz.prog 70 #[nv, cv, .pointer (some ⟨i1, 0, none⟩)] w fun e w' => e = .returned (.tuple #[]) ∧ ∃ ids tx, JB w' b false 0 0 ⟨#[]⟩ ⟨#[]⟩ .nilFunc (frs [] cs) ((gds cs : Nat) : Int) ids tx s ∧ TS w.heap.size ids ns w' ∧ TS w.heap.size tx [] w' ∧ Gs (fun i => i = b) w w' := by
  have HOC := hide (outcome_any hL (LS.nl (f := _root_.Go.Proofs.YtiecoplfiahpnaaGreat.c1) (fun _ => True) w) hn (by simp))
  obtain ⟨rc, hrc⟩ : ∃ rc, rc = frs [] cs := ⟨_, rfl⟩
  obtain ⟨rn, hrn⟩ : ∃ rn, rn = ((gds cs : Nat) : Int) := ⟨_, rfl⟩
  rw [← hrc, ← hrn] at HOC ⊢
  obtain ⟨a, c0, e⟩ := hL.shp
  subst e
  have hsn : ∃ a n c, nv = .slice a n c := by obtain ⟨a, c, e⟩ := hT.shp; exact ⟨a, _, c, e⟩
  have HSN := hide hsn
  have HJ := hide (And.intro h6 hJ)
  have HT := hide (And.intro hT.old hTl)
  clear hrc hrn hL hn h6 hJ hT hTl hsn
  generalize cs.length = cl at *
  go_enter Tryz.func70, Tryz.ntmps70
  go_wp2_with fail
  refine HOC.out.mono ?_
  rintro er w2 ⟨rfl, hB2⟩
  obtain ⟨Y, hY⟩ : ∃ Y, Y = w2.heap.size := ⟨_, rfl⟩
  obtain ⟨V, hV⟩ : ∃ V, V = w2.alloc (.cells #[.int .i64 rc, .string ⟨#[]⟩, .int .i64 rn, .slice none 0 0, .slice none 0 0, .slice none 0 0, .slice none 0 0] 56) := ⟨_, rfl⟩
  have hbV : Below w.heap.size w V := by rw [hV]; exact hB2.alloc hB2.size _
  have hYl : w.heap.size ≤ Y := by rw [hY]; exact hB2.size
  have hR : R7 V Y rc rn (.slice none 0 0) (.slice none 0 0) := by rw [hV, hY]; exact heap_alloc_new w2 _
  have hs := store1_run (t := 33) hR (j := 3) (v := nv) (Nat.le_of_ble_eq_true rfl) Tryz.sizeTs HSN.out
  have hR2 : R7 (V.setCell ⟨Y, 3, none⟩ nv) Y rc rn nv (.slice none 0 0) := heap_set_self hR
  have hG2 : Gs (fun i => i = Y) V (V.setCell ⟨Y, 3, none⟩ nv) := (Gs.refl _ _).set1 _ _
  obtain ⟨V2, hV2⟩ : ∃ V2, V2 = V.setCell ⟨Y, 3, none⟩ nv := ⟨_, rfl⟩
  rw [← hV2] at hs hR2 hG2
  have hb2 : Below w.heap.size w V2 := hG2.below hbV hbV.size (fun i e => by omega)
  have hJ2 := HJ.out.2.bel hb2
  have h62 := (hb2.block i1 (lt_of_block HJ.out.1)).trans HJ.out.1
  have HE := hide (end_on (r := fun _ => True) (c := rc) (N := rn) hJ2 ((HT.out.1.bel hb2).mono fun _ _ => trivial) (LS.nl _ _) HT.out.2 (by simp))
  have y6 : V2.cell? ⟨i1, 0, none⟩ = some (.pointer (some ⟨b, 0, none⟩)) := by simp [World.cell?, h62]
  have c0 : V2.cell? ⟨Y, 0, none⟩ = some (.int .i64 rc) := hR2.cell 0
  have c1 : V2.cell? ⟨Y, 1, none⟩ = some (.string ⟨#[]⟩) := hR2.cell 1
  have c2 : V2.cell? ⟨Y, 2, none⟩ = some (.int .i64 rn) := hR2.cell 2
  have c3 : V2.cell? ⟨Y, 3, none⟩ = some nv := hR2.cell 3
  have c4 : V2.cell? ⟨Y, 4, none⟩ = some (.slice none 0 0) := hR2.cell 4
  have c5 : V2.cell? ⟨Y, 5, none⟩ = some (.slice none 0 0) := hR2.cell 5
  have c6 : V2.cell? ⟨Y, 6, none⟩ = some (.slice none 0 0) := hR2.cell 6
  have HB := hide hb2
  have HV := hide hV
  have HY := hide hY
  clear hB2 hV hY hbV hYl hR hR2 hG2 hV2 hb2 hJ2 h62
  go_upto_region 1 with fail
  rw [← HV.out, ← HY.out]
  go_wp2_with (refine wpList_store_run rfl 33 _ _ rfl _ _ rfl rfl hs ?_)
  refine HE.out.mono ?_
  rintro er w7 ⟨rfl, ids', tx', hJ7, h71, h72, hG7⟩
  have HF : Hid (∃ ids tx, JB w7 b false 0 0 ⟨#[]⟩ ⟨#[]⟩ .nilFunc rc rn ids tx s ∧ TS w.heap.size ids ns w7 ∧ TS w.heap.size tx [] w7 ∧ Gs (fun i => i = b) w w7) :=
    ⟨ids', tx', hJ7, h71.low HB.out.size, h72.low HB.out.size, (Gs.of_below _ HB.out).trans hG7⟩
  clear hJ7 h71 h72 hG7
  go_wp2
  go_end0
  exact ⟨rfl, HF.out⟩
theorem kn_list (h6 : w.heap[i1]? = some (.cells #[.pointer (some ⟨b, 0, none⟩)] 48 (0, 0))) (hb : b < w.heap.size) (N : Nat) (hN : N ≤ 1000000) : KN 70 #[] #[.pointer (some ⟨i1, 0, none⟩)] b (FinR b (gC true []) gN lI noT) N [] [] (fun i => i = i1) (fun _ => False) w := by
  intro W nv cv A r hS hJ hT hL hA hI hr
  show Calls Tryz.prog 70 #[nv, cv, .pointer (some ⟨i1, 0, none⟩)] W _
  rw [List.nil_append] at hI
  refine (list_fin ((hS.2 i1 rfl (lt_of_block h6)).trans h6) hJ hT (by have := uni_res A; unfold lI; omega) hL (by simp; omega)).mono ?_
  rintro er w' ⟨rfl, ids, tx, hJ', h1, h2, hG⟩
  refine ⟨rfl, ?_⟩
  rw [List.nil_append]
  refine fin_rdy ?_ h1 h2 hG (Nat.lt_of_lt_of_le hb hS.1)
  rw [gC, if_pos rfl, hA]
  simpa [gN] using hJ'
theorem ent_l11 : Ent 70 := ent_of Tryz.func70 (by kernel_rfl) rfl
theorem ent_l1 : Ent 68 := ent_of Tryz.func68 (by kernel_rfl) rfl
set_option maxRecDepth 100000 in
set_option maxHeartbeats 3200000 in
theorem listsjob1_any {x1 x2 : Nat} (hJ : JB w b true 0 0 ⟨#[]⟩ ⟨#[]⟩ .nilFunc 0 0 (.slice none 0 0) (.slice none 0 0) 0) (h1 : w.heap[x1]? = some (.cells #[.int .i64 nn] 3 (0, 0))) (h2 : w.heap[x2]? = some (.cells #[.string nm] 9 (0, 0))) (hne : aq 3 nm ⟨#[]⟩ (nst nn) ≠ []) :
    Calls Tryz.prog 68 #[.pointer (some ⟨b, 0, none⟩), .pointer (some ⟨x1, 0, none⟩), .pointer (some ⟨x2, 0, none⟩)] w fun e w' => e = .returned (.tuple #[]) ∧ PO True b (FinR b (gC true []) gN lI noT) (aq 3 nm ⟨#[]⟩ (nst nn)) [] (fun i => w.heap.size ≤ i) (fun i => i = b) w w' := by
  obtain ⟨U, hU⟩ : ∃ U, U = w.alloc (.cells #[.pointer (some ⟨b, 0, none⟩)] 48) := ⟨_, rfl⟩
  obtain ⟨i1, hi1⟩ : ∃ i1, i1 = w.heap.size := ⟨_, rfl⟩
  have hBU : Below w.heap.size w U := by rw [hU]; exact (Below.refl _ _).alloc (Nat.le_refl _) _
  have hJU := hJ.bel hBU
  have hszU : U.heap.size = i1 + 1 := by rw [hU, hi1]; simp
  have h6 : U.heap[i1]? = some (.cells #[.pointer (some ⟨b, 0, none⟩)] 48 (0, 0)) := by rw [hU, hi1]; exact heap_alloc_new w _
  have y6 : U.cell? ⟨i1, 0, none⟩ = some (.pointer (some ⟨b, 0, none⟩)) := by simp [World.cell?, h6]
  have h1U := (hBU.block x1 (lt_of_block h1)).trans h1
  have h2U := (hBU.block x2 (lt_of_block h2)).trans h2
  have y1 : U.cell? ⟨x1, 0, none⟩ = some (.int .i64 nn) := by simp [World.cell?, h1U]
  have y2 : U.cell? ⟨x2, 0, none⟩ = some (.string nm) := by simp [World.cell?, h2U]
  have hbl := hJ.lt
  have hnl := nst_le nn
  have HN := hide (lists_any (nm := nm) (rest := []) (A0 := []) ent_l11 hJU nn (by simp [resI]) (kn_list h6 hJU.lt (nst nn) (by omega)) (by omega) (fun i hi => hi.elim) (fun i hi => by omega))
  have HNT : Hid (NT (fun i => i = i1) U) := fun i hi => by rw [hi]; exact ⟨_, _, h6, by simp [okT]⟩
  have HNE := hide hne
  have HU := hide hU
  have HI := hide hi1
  have HB := hide hBU
  have hmf : ∀ (fn : Fn) (first cap : Array Value) (w : World), (Instr.makeFunc fn first cap).run Tryz.prog w = .ok (.func fn first cap) w := fun _ _ _ _ => rfl
  clear hne hJU hszU h6 h1U h2U hBU hU hi1 hJ hbl h1 h2 hnl
  go_enter Tryz.func68, Tryz.ntmps68
  go_upto_region 1 with fail
  rw [← HU.out, ← HI.out]
  go_wp2_with fail
  refine HN.out.mono ?_
  rintro e w7 ⟨rfl, hQ⟩
  have HQ : Hid (PO True b (FinR b (gC true []) gN lI noT) (aq 3 nm ⟨#[]⟩ (nst nn)) [] (fun i => w.heap.size ≤ i) (fun i => i = b) w w7) := by
    rw [List.append_nil] at hQ
    have h3 := (hQ.bel HB.out).less (e := fun i => w.heap.size ≤ i) (fun i hi => .inr (by have := HI.out; omega))
    exact (h3.weak (g' := True) fun _ => ⟨HNE.out, HNT.out⟩).more fun i hi => by
      rcases hi with h | h
      · exact h
      · exact h.elim
  clear hQ
  go_wp2
  go_end0
  exact ⟨rfl, HQ.out⟩
set_option maxRecDepth 100000 in
set_option maxHeartbeats 3200000 in
theorem listsjob_any (nn : Int) (nm : ByteArray) (w : World) :
    Calls Tryz.prog 40 #[.int .i64 nn, .string nm] w fun e w' => MK (fun b => FinR b (gC (okn nn) []) gN lI noT) (aq 3 nm ⟨#[]⟩ (nst nn)) w w' e := by
  obtain ⟨U, hU⟩ : ∃ U, U = (w.alloc (.cells #[.int .i64 nn] 3)).alloc (.cells #[.string nm] 9) := ⟨_, rfl⟩
  obtain ⟨X, hX⟩ : ∃ X, X = w.heap.size := ⟨_, rfl⟩
  have hBU : Below w.heap.size w U := by rw [hU]; exact ((Below.refl _ _).alloc (Nat.le_refl _) _).alloc (by simp) _
  have h1 : U.heap[X]? = some (.cells #[.int .i64 nn] 3 (0, 0)) := by rw [hU, hX, Below.heap_alloc _ _ _ (by simp)]; exact heap_alloc_new w _
  have h2 : U.heap[X + 1]? = some (.cells #[.string nm] 9 (0, 0)) := by
    rw [hU, hX]
    have := heap_alloc_new (w.alloc (.cells #[.int .i64 nn] 3)) (.cells #[.string nm] 9 (0, 0))
    simpa using this
  have y1 : U.cell? ⟨X, 0, none⟩ = some (.int .i64 nn) := by simp [World.cell?, h1]
  have HN : Hid (Calls Tryz.prog 52 #[.int .i64 nn, .func (.func 68) #[] #[.pointer (some ⟨X, 0, none⟩), .pointer (some ⟨X + 1, 0, none⟩)]] U fun e w' => Hid (MK (fun b => FinR b (gC (okn nn) []) gN lI noT) (aq 3 nm ⟨#[]⟩ (nst nn)) w w' e)) := by
    have hmk : ∀ w' e, MK (fun b => FinR b (gC (okn nn) []) gN lI noT) (aq 3 nm ⟨#[]⟩ (nst nn)) U w' e → MK (fun b => FinR b (gC (okn nn) []) gN lI noT) (aq 3 nm ⟨#[]⟩ (nst nn)) w w' e := by
      rintro w' e ⟨b, P, rfl, hJJ, hB, hP, hNT⟩
      have hs := hBU.size
      exact ⟨b, P, rfl, hJJ, hBU.trans (hB.mono hs), fun i hi => by have := hP i hi; omega, hNT⟩
    by_cases hok : 1 ≤ nn ∧ nn ≤ 255
    · have e1 : okn nn = true := decide_eq_true hok
      rw [e1]
      rw [e1] at hmk
      refine (fstart_yes (Fin := fun b => FinR b (gC true []) gN lI noT) (L := aq 3 nm ⟨#[]⟩ (nst nn)) ent_l1 hok.1 hok.2 ?_).mono fun e w' h => hmk w' e h
      intro b V hJ hB hb
      show Calls Tryz.prog 68 #[.pointer (some ⟨b, 0, none⟩), .pointer (some ⟨X, 0, none⟩), .pointer (some ⟨X + 1, 0, none⟩)] V _
      refine (listsjob1_any hJ ((hB.block X (lt_of_block h1)).trans h1) ((hB.block (X + 1) (lt_of_block h2)).trans h2) (fun e => by have := aq_len 3 nm ⟨#[]⟩ (nst nn); rw [e, nst, if_pos hok] at this; simp at this; omega)).mono ?_
      rintro e w' ⟨rfl, hP⟩
      exact ⟨rfl, hP.less fun i hi => .inr hi⟩
    · have e1 : okn nn = false := decide_eq_false hok
      rw [e1]
      rw [e1] at hmk
      have e2 : aq 3 nm ⟨#[]⟩ (nst nn) = [] := by rw [nst_no nn (by omega)]; rfl
      rw [e2] at hmk ⊢
      exact (fstart_no (by omega) rfl rfl rfl rfl).mono fun e w' h => hmk w' e h
  have HU := hide hU
  have HX := hide hX
  have hmf : ∀ (fn : Fn) (first cap : Array Value) (w : World), (Instr.makeFunc fn first cap).run Tryz.prog w = .ok (.func fn first cap) w := fun _ _ _ _ => rfl
  clear h1 h2 hBU hU hX
  go_enter Tryz.func40, Tryz.ntmps40
  go_upto_region 1 with fail
  rw [← HU.out, ← HX.out]
  go_wp2_with fail
  refine HN.out.mono ?_
  rintro e w7 hQ
  obtain ⟨b, P, rfl, hR⟩ := hQ.out
  have HQ2 := hide hR
  clear hR
  go_wp2
  go_ret
  exact ⟨b, P, rfl, HQ2.out⟩
end
end Go.Proofs.YtiecoplfiahpnaaGreat

namespace Go.Proofs.YtiecoplfiahpnaaGreat
open Go.RowKit Go.Lib Go.Maps
section
variable {w w' : World} {rv dv : Value} {S : List SS} {rs : List Nat} {P r : Nat → Prop} {ds : List ByteArray} {t : Nat} {nm : ByteArray} {nn : Int}
set_option maxRecDepth 100000 in
theorem rbad_yes (h : nn < 1 ∨ 255 < nn) : Calls Tryz.prog 57 #[.int .i64 nn] w fun e w' => e = .returned (.bool true) ∧ w' = w := by
  by_cases h1 : nn < 1
  · clear h
    go_enter Tryz.func57, Tryz.ntmps57
    go_wp2
    go_ret
    exact ⟨rfl, rfl⟩
  · have h2 : nn > 255 := by omega
    clear h
    go_enter Tryz.func57, Tryz.ntmps57
    go_wp2
    go_ret
    exact ⟨rfl, rfl⟩
set_option maxRecDepth 100000 in
theorem rbad_no (h1 : ¬ nn < 1) (h2 : ¬ nn > 255) : Calls Tryz.prog 57 #[.int .i64 nn] w fun e w' => e = .returned (.bool false) ∧ w' = w := by
  go_enter Tryz.func57, Tryz.ntmps57
  go_wp2
  go_ret
  exact ⟨rfl, rfl⟩
/-- A result, as a value. -/
def resV (c n : Int) (ids tx : Value) : Value := .agg #[.int .i64 c, .string ⟨#[]⟩, .int .i64 n, ids, tx, .slice none 0 0, .slice none 0 0]
set_option maxRecDepth 100000 in
theorem rrefused_any (w : World) : Calls Tryz.prog 58 #[] w fun e w' => e = .returned (.agg #[.int .i64 1, .string ⟨#[]⟩, .int .i64 0, .slice none 0 0, .slice none 0 0, .slice none 0 0, .slice none 0 0]) ∧ Below w.heap.size w w' := by
  go_enter Tryz.func58, Tryz.ntmps58
  go_wp2
  exact bodyPost_ret (v := .agg #[.int .i64 1, .string ⟨#[]⟩, .int .i64 0, .slice none 0 0, .slice none 0 0, .slice none 0 0, .slice none 0 0]) (by simp [results, Tryz.results58, go_sem]) rfl ⟨rfl, (Below.refl _ _).alloc (Nat.le_refl _) _⟩
/-- What the document's job leaves. -/
structure DJ (P : Nat → Prop) (w w' : World) (rv : Value) (S : List SS) (rs : List Nat) (ids tx : Value) (I T : List ByteArray) : Prop where
  y : YD P w' rv S rs
  g : Gs (fun i => i ∈ rs) w w'
  i : TS w.heap.size ids I w'
  t : TS w.heap.size tx T w'
/-- A result cell is filled. -/
theorem R7.fill {wr : World} {X0 : Nat} (hZ : R7 wr X0 0 0 (.slice none 0 0) (.slice none 0 0)) (c n : Int) {ids tx : Value} (h1 : ∃ a n c, ids = .slice a n c) (h2 : ∃ a n c, tx = .slice a n c) :
    ∃ V, (Instr.storeAt 56 (.pointer (some ⟨X0, 0, none⟩)) (.agg #[.int .i64 c, .string ⟨#[]⟩, .int .i64 n, ids, tx, .slice none 0 0, .slice none 0 0])).run Tryz.prog wr = .ok () V ∧ R7 V X0 c n ids tx ∧ Gs (fun i => i = X0) wr V := by
  obtain ⟨a1, n1, c1, rfl⟩ := h1
  obtain ⟨a2, n2, c2, rfl⟩ := h2
  have hrun := store_run (t := 56) (o := 0) hZ #[.int .i64 c, .string ⟨#[]⟩, .int .i64 n, .slice a1 n1 c1, .slice a2 n2 c2, .slice none 0 0, .slice none 0 0] (Nat.le_of_ble_eq_true rfl) Tryz.sizeR (by simp [Value.oneCell'])
  refine ⟨_, hrun, ?_, Gs.cells _ _ _ (Gs.refl _ _) (.inl rfl)⟩
  have h1 := setCells_self [.int .i64 c, .string ⟨#[]⟩, .int .i64 n, .slice a1 n1 c1, .slice a2 n2 c2, .slice none 0 0, .slice none 0 0] 0 wr _ hZ
  simpa [putAll, R7] using h1
theorem YD.res {X0 : Nat} {c n : Int} {ids tx : Value} (h : YD P w rv S rs) (hg : Gs (fun i => i = X0) w w') (hP : ¬ P X0) (hZ : R7 w X0 c n ids tx) : YD P w' rv S rs :=
  h.gs hg (fun i hi e => hP (e ▸ hi)) fun i cs fr hi e => by
    subst e
    rw [show w.heap[i]? = _ from hZ] at hi
    simp at hi
theorem slN : ∃ a n c, (Value.slice none 0 0) = .slice a n c := ⟨_, _, _, rfl⟩
set_option maxRecDepth 100000 in
set_option maxHeartbeats 3200000 in
theorem rputjob_no (hY : YD P w rv S rs) (hP : ∀ i, P i → i < w.heap.size) (hd : LS t1 1 r w dv ds) (hbad : ¬ (1 ≤ ds.length ∧ ds.length ≤ 255)) :
    Calls Tryz.prog 35 #[rv, .string nm, dv] w fun e w' => ∃ ids tx, e = .returned (.agg #[.int .i64 1, .string ⟨#[]⟩, .int .i64 0, ids, tx, .slice none 0 0, .slice none 0 0]) ∧ DJ P w w' rv S rs ids tx [] [] := by
  obtain ⟨da, dc, e⟩ := hd.shp
  subst e
  obtain ⟨U, hU⟩ : ∃ U, U = w.alloc (.cells #[.int .i64 0, .string ⟨#[]⟩, .int .i64 0, .slice none 0 0, .slice none 0 0, .slice none 0 0, .slice none 0 0] 56) := ⟨_, rfl⟩
  obtain ⟨X0, hX⟩ : ∃ X0, X0 = w.heap.size := ⟨_, rfl⟩
  have hBU : Below w.heap.size w U := by rw [hU]; exact (Below.refl _ _).alloc (Nat.le_refl _) _
  have hZ : R7 U X0 0 0 (.slice none 0 0) (.slice none 0 0) := by rw [hU, hX]; exact heap_alloc_new w _
  have hYU := hY.bel hBU
  have hUs := hBU.size
  have hX0P : ¬ P X0 := fun e => by have := hP _ e; omega
  have hX0r : ¬ X0 ∈ rs := fun e => hX0P (hY.inP _ e)
  have HBD := hide (rbad_yes (w := U) (nn := (ds.length : Int)) (by omega))
  have HRF := hide (rrefused_any U)
  have HU := hide hU
  have HX := hide hX
  have HZ := hide (And.intro hBU (And.intro hZ (And.intro hYU hX0P)))
  clear hd
  generalize ds.length = dl at *
  clear hbad
  clear hU hX hBU hZ hYU hUs hX0P hX0r hY hP
  go_enter Tryz.func35, Tryz.ntmps35
  go_upto_region 1 with fail
  rw [← HU.out, ← HX.out]
  go_wp2_with (go_at_call 57; refine HBD.out.mono ?_; rintro e w1 ⟨rfl, rfl⟩)
  refine HRF.out.mono ?_
  rintro e w2 ⟨rfl, hB2⟩
  obtain ⟨hBU, hZ, hYU, hX0P⟩ := HZ.out
  obtain ⟨V, hrun, hRV, hGV⟩ := (hZ.bel hB2).fill 1 0 slN slN
  have HE : Hid (DJ P w V rv S rs (.slice none 0 0) (.slice none 0 0) [] []) := by
    have hx := HX.out
    refine ⟨(hYU.bel hB2).res hGV hX0P (hZ.bel hB2), ?_, TS.nil _ _, TS.nil _ _⟩
    exact ((Gs.of_below _ hBU).bel hB2).tr2 hGV fun i hi e => by omega
  have r0 : V.cell? ⟨X0, 0, none⟩ = some (.int .i64 1) := hRV.cell 0
  have r1 : V.cell? ⟨X0, 1, none⟩ = some (.string ⟨#[]⟩) := hRV.cell 1
  have r2 : V.cell? ⟨X0, 2, none⟩ = some (.int .i64 0) := hRV.cell 2
  have r3 : V.cell? ⟨X0, 3, none⟩ = some (.slice none 0 0) := hRV.cell 3
  have r4 : V.cell? ⟨X0, 4, none⟩ = some (.slice none 0 0) := hRV.cell 4
  have r5 : V.cell? ⟨X0, 5, none⟩ = some (.slice none 0 0) := hRV.cell 5
  have r6 : V.cell? ⟨X0, 6, none⟩ = some (.slice none 0 0) := hRV.cell 6
  clear hBU hZ hYU hX0P hRV hGV hB2
  go_wp2_with (refine wpList_store_run rfl 56 _ _ rfl _ _ rfl rfl hrun ?_)
  exact bodyPost_ret (v := .agg #[.int .i64 1, .string ⟨#[]⟩, .int .i64 0, .slice none 0 0, .slice none 0 0, .slice none 0 0, .slice none 0 0]) (by simp [results, Tryz.results35, go_sem, r0, r1, r2, r3, r4, r5, r6]) rfl ⟨_, _, rfl, HE.out⟩
set_option maxRecDepth 100000 in
set_option maxHeartbeats 3200000 in
theorem rgetjob_no (hY : YD P w rv S rs) (hP : ∀ i, P i → i < w.heap.size) (hbad : nn < 1 ∨ 255 < nn) :
    Calls Tryz.prog 37 #[rv, .int .i64 nn, .string nm] w fun e w' => ∃ ids tx, e = .returned (.agg #[.int .i64 1, .string ⟨#[]⟩, .int .i64 0, ids, tx, .slice none 0 0, .slice none 0 0]) ∧ DJ P w w' rv S rs ids tx [] [] := by
  obtain ⟨U, hU⟩ : ∃ U, U = w.alloc (.cells #[.int .i64 0, .string ⟨#[]⟩, .int .i64 0, .slice none 0 0, .slice none 0 0, .slice none 0 0, .slice none 0 0] 56) := ⟨_, rfl⟩
  obtain ⟨X0, hX⟩ : ∃ X0, X0 = w.heap.size := ⟨_, rfl⟩
  have hBU : Below w.heap.size w U := by rw [hU]; exact (Below.refl _ _).alloc (Nat.le_refl _) _
  have hZ : R7 U X0 0 0 (.slice none 0 0) (.slice none 0 0) := by rw [hU, hX]; exact heap_alloc_new w _
  have hYU := hY.bel hBU
  have hUs := hBU.size
  have hX0P : ¬ P X0 := fun e => by have := hP _ e; omega
  have hX0r : ¬ X0 ∈ rs := fun e => hX0P (hY.inP _ e)
  have HBD := hide (rbad_yes (w := U) hbad)
  have HRF := hide (rrefused_any U)
  have HU := hide hU
  have HX := hide hX
  have HZ := hide (And.intro hBU (And.intro hZ (And.intro hYU hX0P)))
  clear hbad
  clear hU hX hBU hZ hYU hUs hX0P hX0r hY hP
  go_enter Tryz.func37, Tryz.ntmps37
  go_upto_region 1 with fail
  rw [← HU.out, ← HX.out]
  go_wp2_with (go_at_call 57; refine HBD.out.mono ?_; rintro e w1 ⟨rfl, rfl⟩)
  refine HRF.out.mono ?_
  rintro e w2 ⟨rfl, hB2⟩
  obtain ⟨hBU, hZ, hYU, hX0P⟩ := HZ.out
  obtain ⟨V, hrun, hRV, hGV⟩ := (hZ.bel hB2).fill 1 0 slN slN
  have HE : Hid (DJ P w V rv S rs (.slice none 0 0) (.slice none 0 0) [] []) := by
    have hx := HX.out
    refine ⟨(hYU.bel hB2).res hGV hX0P (hZ.bel hB2), ?_, TS.nil _ _, TS.nil _ _⟩
    exact ((Gs.of_below _ hBU).bel hB2).tr2 hGV fun i hi e => by omega
  have r0 : V.cell? ⟨X0, 0, none⟩ = some (.int .i64 1) := hRV.cell 0
  have r1 : V.cell? ⟨X0, 1, none⟩ = some (.string ⟨#[]⟩) := hRV.cell 1
  have r2 : V.cell? ⟨X0, 2, none⟩ = some (.int .i64 0) := hRV.cell 2
  have r3 : V.cell? ⟨X0, 3, none⟩ = some (.slice none 0 0) := hRV.cell 3
  have r4 : V.cell? ⟨X0, 4, none⟩ = some (.slice none 0 0) := hRV.cell 4
  have r5 : V.cell? ⟨X0, 5, none⟩ = some (.slice none 0 0) := hRV.cell 5
  have r6 : V.cell? ⟨X0, 6, none⟩ = some (.slice none 0 0) := hRV.cell 6
  clear hBU hZ hYU hX0P hRV hGV hB2
  go_wp2_with (refine wpList_store_run rfl 56 _ _ rfl _ _ rfl rfl hrun ?_)
  exact bodyPost_ret (v := .agg #[.int .i64 1, .string ⟨#[]⟩, .int .i64 0, .slice none 0 0, .slice none 0 0, .slice none 0 0, .slice none 0 0]) (by simp [results, Tryz.results37, go_sem, r0, r1, r2, r3, r4, r5, r6]) rfl ⟨_, _, rfl, HE.out⟩
set_option maxRecDepth 100000 in
set_option maxHeartbeats 3200000 in
theorem rdeljob_no (hY : YD P w rv S rs) (hP : ∀ i, P i → i < w.heap.size) (hbad : nn < 1 ∨ 255 < nn) :
    Calls Tryz.prog 39 #[rv, .int .i64 nn, .string nm] w fun e w' => ∃ ids tx, e = .returned (.agg #[.int .i64 1, .string ⟨#[]⟩, .int .i64 0, ids, tx, .slice none 0 0, .slice none 0 0]) ∧ DJ P w w' rv S rs ids tx [] [] := by
  obtain ⟨U, hU⟩ : ∃ U, U = w.alloc (.cells #[.int .i64 0, .string ⟨#[]⟩, .int .i64 0, .slice none 0 0, .slice none 0 0, .slice none 0 0, .slice none 0 0] 56) := ⟨_, rfl⟩
  obtain ⟨X0, hX⟩ : ∃ X0, X0 = w.heap.size := ⟨_, rfl⟩
  have hBU : Below w.heap.size w U := by rw [hU]; exact (Below.refl _ _).alloc (Nat.le_refl _) _
  have hZ : R7 U X0 0 0 (.slice none 0 0) (.slice none 0 0) := by rw [hU, hX]; exact heap_alloc_new w _
  have hYU := hY.bel hBU
  have hUs := hBU.size
  have hX0P : ¬ P X0 := fun e => by have := hP _ e; omega
  have hX0r : ¬ X0 ∈ rs := fun e => hX0P (hY.inP _ e)
  have HBD := hide (rbad_yes (w := U) hbad)
  have HRF := hide (rrefused_any U)
  have HU := hide hU
  have HX := hide hX
  have HZ := hide (And.intro hBU (And.intro hZ (And.intro hYU hX0P)))
  clear hbad
  clear hU hX hBU hZ hYU hUs hX0P hX0r hY hP
  go_enter Tryz.func39, Tryz.ntmps39
  go_upto_region 1 with fail
  rw [← HU.out, ← HX.out]
  go_wp2_with (go_at_call 57; refine HBD.out.mono ?_; rintro e w1 ⟨rfl, rfl⟩)
  refine HRF.out.mono ?_
  rintro e w2 ⟨rfl, hB2⟩
  obtain ⟨hBU, hZ, hYU, hX0P⟩ := HZ.out
  obtain ⟨V, hrun, hRV, hGV⟩ := (hZ.bel hB2).fill 1 0 slN slN
  have HE : Hid (DJ P w V rv S rs (.slice none 0 0) (.slice none 0 0) [] []) := by
    have hx := HX.out
    refine ⟨(hYU.bel hB2).res hGV hX0P (hZ.bel hB2), ?_, TS.nil _ _, TS.nil _ _⟩
    exact ((Gs.of_below _ hBU).bel hB2).tr2 hGV fun i hi e => by omega
  have r0 : V.cell? ⟨X0, 0, none⟩ = some (.int .i64 1) := hRV.cell 0
  have r1 : V.cell? ⟨X0, 1, none⟩ = some (.string ⟨#[]⟩) := hRV.cell 1
  have r2 : V.cell? ⟨X0, 2, none⟩ = some (.int .i64 0) := hRV.cell 2
  have r3 : V.cell? ⟨X0, 3, none⟩ = some (.slice none 0 0) := hRV.cell 3
  have r4 : V.cell? ⟨X0, 4, none⟩ = some (.slice none 0 0) := hRV.cell 4
  have r5 : V.cell? ⟨X0, 5, none⟩ = some (.slice none 0 0) := hRV.cell 5
  have r6 : V.cell? ⟨X0, 6, none⟩ = some (.slice none 0 0) := hRV.cell 6
  clear hBU hZ hYU hX0P hRV hGV hB2
  go_wp2_with (refine wpList_store_run rfl 56 _ _ rfl _ _ rfl rfl hrun ?_)
  exact bodyPost_ret (v := .agg #[.int .i64 1, .string ⟨#[]⟩, .int .i64 0, .slice none 0 0, .slice none 0 0, .slice none 0 0, .slice none 0 0]) (by simp [results, Tryz.results39, go_sem, r0, r1, r2, r3, r4, r5, r6]) rfl ⟨_, _, rfl, HE.out⟩
set_option maxRecDepth 100000 in
set_option maxHeartbeats 3200000 in
theorem rlistjob_no (hY : YD P w rv S rs) (hP : ∀ i, P i → i < w.heap.size) (hbad : nn < 1 ∨ 255 < nn) :
    Calls Tryz.prog 41 #[rv, .int .i64 nn, .string nm] w fun e w' => ∃ ids tx, e = .returned (.agg #[.int .i64 1, .string ⟨#[]⟩, .int .i64 0, ids, tx, .slice none 0 0, .slice none 0 0]) ∧ DJ P w w' rv S rs ids tx [] [] := by
  obtain ⟨U, hU⟩ : ∃ U, U = w.alloc (.cells #[.int .i64 0, .string ⟨#[]⟩, .int .i64 0, .slice none 0 0, .slice none 0 0, .slice none 0 0, .slice none 0 0] 56) := ⟨_, rfl⟩
  obtain ⟨X0, hX⟩ : ∃ X0, X0 = w.heap.size := ⟨_, rfl⟩
  have hBU : Below w.heap.size w U := by rw [hU]; exact (Below.refl _ _).alloc (Nat.le_refl _) _
  have hZ : R7 U X0 0 0 (.slice none 0 0) (.slice none 0 0) := by rw [hU, hX]; exact heap_alloc_new w _
  have hYU := hY.bel hBU
  have hUs := hBU.size
  have hX0P : ¬ P X0 := fun e => by have := hP _ e; omega
  have hX0r : ¬ X0 ∈ rs := fun e => hX0P (hY.inP _ e)
  have HBD := hide (rbad_yes (w := U) hbad)
  have HRF := hide (rrefused_any U)
  have HU := hide hU
  have HX := hide hX
  have HZ := hide (And.intro hBU (And.intro hZ (And.intro hYU hX0P)))
  clear hbad
  clear hU hX hBU hZ hYU hUs hX0P hX0r hY hP
  go_enter Tryz.func41, Tryz.ntmps41
  go_upto_region 1 with fail
  rw [← HU.out, ← HX.out]
  go_wp2_with (go_at_call 57; refine HBD.out.mono ?_; rintro e w1 ⟨rfl, rfl⟩)
  refine HRF.out.mono ?_
  rintro e w2 ⟨rfl, hB2⟩
  obtain ⟨hBU, hZ, hYU, hX0P⟩ := HZ.out
  obtain ⟨V, hrun, hRV, hGV⟩ := (hZ.bel hB2).fill 1 0 slN slN
  have HE : Hid (DJ P w V rv S rs (.slice none 0 0) (.slice none 0 0) [] []) := by
    have hx := HX.out
    refine ⟨(hYU.bel hB2).res hGV hX0P (hZ.bel hB2), ?_, TS.nil _ _, TS.nil _ _⟩
    exact ((Gs.of_below _ hBU).bel hB2).tr2 hGV fun i hi e => by omega
  have r0 : V.cell? ⟨X0, 0, none⟩ = some (.int .i64 1) := hRV.cell 0
  have r1 : V.cell? ⟨X0, 1, none⟩ = some (.string ⟨#[]⟩) := hRV.cell 1
  have r2 : V.cell? ⟨X0, 2, none⟩ = some (.int .i64 0) := hRV.cell 2
  have r3 : V.cell? ⟨X0, 3, none⟩ = some (.slice none 0 0) := hRV.cell 3
  have r4 : V.cell? ⟨X0, 4, none⟩ = some (.slice none 0 0) := hRV.cell 4
  have r5 : V.cell? ⟨X0, 5, none⟩ = some (.slice none 0 0) := hRV.cell 5
  have r6 : V.cell? ⟨X0, 6, none⟩ = some (.slice none 0 0) := hRV.cell 6
  clear hBU hZ hYU hX0P hRV hGV hB2
  go_wp2_with (refine wpList_store_run rfl 56 _ _ rfl _ _ rfl rfl hrun ?_)
  exact bodyPost_ret (v := .agg #[.int .i64 1, .string ⟨#[]⟩, .int .i64 0, .slice none 0 0, .slice none 0 0, .slice none 0 0, .slice none 0 0]) (by simp [results, Tryz.results41, go_sem, r0, r1, r2, r3, r4, r5, r6]) rfl ⟨_, _, rfl, HE.out⟩
set_option maxRecDepth 100000 in
set_option maxHeartbeats 3200000 in
theorem rputjob_yes (hY : YD P w rv S rs) (hP : ∀ i, P i → i < w.heap.size) (hG : GD t S) (hd : LS t1 1 r w dv ds) (h1 : 1 ≤ ds.length) (h2 : ds.length ≤ 255) (ht : t + ds.length ≤ 1000) (hr : ∀ i, r i → i ∉ rs) (hn : nm.size ≤ maxLen) (hsz : ∀ d ∈ ds, d.size ≤ maxLen) :
    Calls Tryz.prog 35 #[rv, .string nm, dv] w fun e w' => ∃ ids tx, e = .returned (.agg #[.int .i64 (frs [] ((yRs S (pq nm ds)).map (·.c))), .string ⟨#[]⟩, .int .i64 ((gds ((yRs S (pq nm ds)).map (·.c)) : Nat) : Int), ids, tx, .slice none 0 0, .slice none 0 0]) ∧ DJ P w w' rv (ySs S (pq nm ds)) rs ids tx [] [] := by
  obtain ⟨da, dc, e⟩ := hd.shp
  subst e
  obtain ⟨U, hU⟩ : ∃ U, U = w.alloc (.cells #[.int .i64 0, .string ⟨#[]⟩, .int .i64 0, .slice none 0 0, .slice none 0 0, .slice none 0 0, .slice none 0 0] 56) := ⟨_, rfl⟩
  obtain ⟨X0, hX⟩ : ∃ X0, X0 = w.heap.size := ⟨_, rfl⟩
  have hBU : Below w.heap.size w U := by rw [hU]; exact (Below.refl _ _).alloc (Nat.le_refl _) _
  have hZ : R7 U X0 0 0 (.slice none 0 0) (.slice none 0 0) := by rw [hU, hX]; exact heap_alloc_new w _
  have hYU := hY.bel hBU
  have hUs := hBU.size
  have hX0P : ¬ P X0 := fun e => by have := hP _ e; omega
  have hX0r : ¬ X0 ∈ rs := fun e => hX0P (hY.inP _ e)
  obtain ⟨cs, hcs⟩ : ∃ cs, cs = (yRs S (pq nm ds)).map (·.c) := ⟨_, rfl⟩
  have hcl : cs.length ≤ 255 := by rw [hcs, List.length_map, yRs_len, pq_len]; exact h2
  have HBD := hide (rbad_no (w := U) (nn := (ds.length : Int)) (by omega) (by omega))
  have HPT := hide (rputs_any hYU (fun i hi => by have := hP i hi; omega) hG ht (hd.bel hBU) hr hn hsz)
  obtain ⟨S2, hS2⟩ : ∃ S2, S2 = ySs S (pq nm ds) := ⟨_, rfl⟩
  rw [← hcs, ← hS2] at HPT
  rw [← hcs, ← hS2]
  obtain ⟨rc, hrc⟩ : ∃ rc, rc = frs [] cs := ⟨_, rfl⟩
  obtain ⟨rn, hrn⟩ : ∃ rn, rn = ((gds cs : Nat) : Int) := ⟨_, rfl⟩
  rw [← hrc, ← hrn]
  have HU := hide hU
  have HX := hide hX
  have HZ := hide (And.intro hBU (And.intro hZ (And.intro hX0P hX0r)))
  have HCL := hide (And.intro hcl (And.intro hrc hrn))
  clear hU hX hBU hZ hYU hUs hX0P hX0r hY hP hd h1 h2 ht hr hn hsz hG hcs hcl hrc hrn hS2
  generalize ds.length = dl at *
  go_enter Tryz.func35, Tryz.ntmps35
  go_upto_region 1 with fail
  rw [← HU.out, ← HX.out]
  go_wp2_with (go_at_call 57; refine HBD.out.mono ?_; rintro e w1 ⟨rfl, rfl⟩)
  refine HPT.out.mono ?_
  rintro e w2 ⟨cv, rfl, hO2, hY2, hG2⟩
  have hL2 := hO2.ls (r := fun _ => True) c1_len fun _ _ => trivial
  have hcl := HCL.out.1
  have HF := hide (rfirst_any hL2 (LS.nl (f := c1) (fun _ => True) w2) (by omega) (by simp))
  rw [← HCL.out.2.1] at HF
  have HF2 := hide (And.intro hL2 (And.intro hY2 hG2))
  obtain ⟨oa, oc, hov⟩ := hO2.shp
  subst hov
  clear hO2 hY2 hG2 hL2 hcl
  go_wp2_with fail
  refine HF.out.mono ?_
  rintro e w3 ⟨rfl, hB3⟩
  obtain ⟨hL2, hY2, hG2⟩ := HF2.out
  have hcl := HCL.out.1
  have HGD := hide (rgood_any (hL2.bel hB3) (by omega))
  rw [← HCL.out.2.2] at HGD
  have HB3 := hide hB3
  clear hL2 hY2 hG2 hB3 hcl
  go_wp2_with fail
  refine HGD.out.mono ?_
  rintro e w4 ⟨rfl, hB4⟩
  obtain ⟨hL2, hY2, hG2⟩ := HF2.out
  obtain ⟨hBU, hZ, hX0P, hX0r⟩ := HZ.out
  have hZn := ((hZ.gs hG2 hX0r).bel HB3.out).bel hB4
  have hYn := (hY2.bel HB3.out).bel hB4
  have hGn : Gs (fun i => i ∈ rs) w w4 := (((Gs.of_below _ hBU).trans hG2).bel HB3.out).bel hB4
  have hIn := TS.nil (X0 + 1) w4
  have hTn := TS.nil (X0 + 1) w4
  clear hL2 hY2 hG2 hBU hZ hX0r hB4
  obtain ⟨V, hrun, hRV, hGV⟩ := hZn.fill rc rn slN slN
  have HE : Hid (DJ P w V rv S2 rs (.slice none 0 0) (.slice none 0 0) [] []) := by
    have hx := HX.out
    refine ⟨hYn.res hGV hX0P hZn, hGn.tr2 hGV fun i hi e => by omega, ?_, ?_⟩
    · exact (hIn.kb fun i hi => hGV.block i (hIn.lt i hi).2 (by have := (hIn.lt i hi).1; omega)).low (by omega)
    · exact (hTn.kb fun i hi => hGV.block i (hTn.lt i hi).2 (by have := (hTn.lt i hi).1; omega)).low (by omega)
  have r0 : V.cell? ⟨X0, 0, none⟩ = some (.int .i64 rc) := hRV.cell 0
  have r1 : V.cell? ⟨X0, 1, none⟩ = some (.string ⟨#[]⟩) := hRV.cell 1
  have r2 : V.cell? ⟨X0, 2, none⟩ = some (.int .i64 rn) := hRV.cell 2
  have r3 : V.cell? ⟨X0, 3, none⟩ = some (.slice none 0 0) := hRV.cell 3
  have r4 : V.cell? ⟨X0, 4, none⟩ = some (.slice none 0 0) := hRV.cell 4
  have r5 : V.cell? ⟨X0, 5, none⟩ = some (.slice none 0 0) := hRV.cell 5
  have r6 : V.cell? ⟨X0, 6, none⟩ = some (.slice none 0 0) := hRV.cell 6
  clear hRV hGV hZn hYn hGn hIn hTn hX0P
  go_wp2_with (refine wpList_store_run rfl 56 _ _ rfl _ _ rfl rfl hrun ?_)
  exact bodyPost_ret (v := .agg #[.int .i64 rc, .string ⟨#[]⟩, .int .i64 rn, (.slice none 0 0), (.slice none 0 0), .slice none 0 0, .slice none 0 0]) (by simp [results, Tryz.results35, go_sem, r0, r1, r2, r3, r4, r5, r6]) rfl ⟨_, _, rfl, HE.out⟩
set_option maxRecDepth 100000 in
set_option maxHeartbeats 3200000 in
theorem rdeljob_yes (hY : YD P w rv S rs) (hP : ∀ i, P i → i < w.heap.size) (hG : GD t S) (h1 : 1 ≤ nn) (h2 : nn ≤ 255) (ht : t + nst nn ≤ 1000) (hn : nm.size ≤ maxLen) :
    Calls Tryz.prog 39 #[rv, .int .i64 nn, .string nm] w fun e w' => ∃ ids tx, e = .returned (.agg #[.int .i64 (dCs ((yRs S (aq 4 nm ⟨#[]⟩ (nst nn))).map (·.c))), .string ⟨#[]⟩, .int .i64 ((gds ((yRs S (aq 4 nm ⟨#[]⟩ (nst nn))).map (·.c)) : Nat) : Int), ids, tx, .slice none 0 0, .slice none 0 0]) ∧ DJ P w w' rv (ySs S (aq 4 nm ⟨#[]⟩ (nst nn))) rs ids tx [] [] := by
  obtain ⟨U, hU⟩ : ∃ U, U = w.alloc (.cells #[.int .i64 0, .string ⟨#[]⟩, .int .i64 0, .slice none 0 0, .slice none 0 0, .slice none 0 0, .slice none 0 0] 56) := ⟨_, rfl⟩
  obtain ⟨X0, hX⟩ : ∃ X0, X0 = w.heap.size := ⟨_, rfl⟩
  have hBU : Below w.heap.size w U := by rw [hU]; exact (Below.refl _ _).alloc (Nat.le_refl _) _
  have hZ : R7 U X0 0 0 (.slice none 0 0) (.slice none 0 0) := by rw [hU, hX]; exact heap_alloc_new w _
  have hYU := hY.bel hBU
  have hUs := hBU.size
  have hX0P : ¬ P X0 := fun e => by have := hP _ e; omega
  have hX0r : ¬ X0 ∈ rs := fun e => hX0P (hY.inP _ e)
  obtain ⟨N, rfl⟩ : ∃ N : Nat, nn = (N : Int) := ⟨nn.toNat, by omega⟩
  have hnst : nst (N : Int) = N := nst_nat N (by omega) (by omega)
  rw [hnst] at ht ⊢
  obtain ⟨R, hR⟩ : ∃ R, R = yRs S (aq 4 nm ⟨#[]⟩ N) := ⟨_, rfl⟩
  obtain ⟨S2, hS2⟩ : ∃ S2, S2 = ySs S (aq 4 nm ⟨#[]⟩ N) := ⟨_, rfl⟩
  have hRl : R.length ≤ 255 := by rw [hR, yRs_len, aq_len]; omega
  have HBD := hide (rbad_no (w := U) (nn := (N : Int)) (by omega) (by omega))
  have HAL := hide (rall_any hYU (fun i hi => by have := hP i hi; omega) hG N ht 0 4 nm ⟨#[]⟩ hn (Nat.zero_le _))
  rw [← hR, ← hS2] at HAL
  rw [← hR, ← hS2]
  obtain ⟨cs, hcs⟩ : ∃ cs, cs = R.map (·.c) := ⟨_, rfl⟩
  have hcl : cs.length ≤ 255 := by rw [hcs, List.length_map]; exact hRl
  obtain ⟨dd, hdd⟩ : ∃ dd, dd = dCs cs := ⟨_, rfl⟩
  obtain ⟨rc, hrc⟩ : ∃ rc, rc = frs [5] cs := ⟨_, rfl⟩
  obtain ⟨rn, hrn⟩ : ∃ rn, rn = gds cs := ⟨_, rfl⟩
  have hdc : dd = if rc = 0 ∧ rn = 0 then 5 else rc := by rw [hdd, dCs, hrc, hrn]
  rw [← hcs, ← hdd, ← hrn]
  have HU := hide hU
  have HX := hide hX
  have HZ := hide (And.intro hBU (And.intro hZ (And.intro hX0P hX0r)))
  have HPP := hide hP
  have HCL := hide (And.intro hcl (And.intro hrc (And.intro hrn (And.intro hdc (And.intro hcs hRl)))))
  clear hU hX hBU hZ hYU hUs hX0P hX0r hY hP h1 h2 ht hn hG hcs hcl hrc hrn hdc hdd hR hS2 hnst hRl
  go_enter Tryz.func39, Tryz.ntmps39
  go_upto_region 1 with fail
  rw [← HU.out, ← HX.out]
  go_wp2_with (go_at_call 57; refine HBD.out.mono ?_; rintro e w1 ⟨rfl, rfl⟩)
  refine HAL.out.mono ?_
  rintro e w2 ⟨xv, X, rfl, hO2, hXR, hN2, hY2, hG2⟩
  have hXl : X.length ≤ 255 := by have := HCL.out.2.2.2.2.2; rw [← hXR, List.length_map] at this; exact this
  have hXc : X.map (·.1.c) = cs := by rw [HCL.out.2.2.2.2.1, ← hXR, List.map_map]; rfl
  have HCO := hide (rcodes_any (hO2.ls (r := fun _ => True) x3_len fun _ _ => trivial) (by omega))
  rw [hXc] at HCO
  have HF2 := hide (And.intro hY2 hG2)
  obtain ⟨oa, oc, hov⟩ := hO2.shp
  subst hov
  clear hO2 hY2 hG2 hXR hN2 hXl hXc
  generalize X.length = xl at *
  go_wp2_with fail
  refine HCO.out.mono ?_
  rintro e w3 ⟨cv, rfl, hO3, hB3⟩
  obtain ⟨W3, hW3⟩ : ∃ W3, W3 = w3.alloc (.cells #[.int .i64 5] 26) := ⟨_, rfl⟩
  have hBW : Below w3.heap.size w3 W3 := by rw [hW3]; exact (Below.refl _ _).alloc (Nat.le_refl _) _
  have hK : LS c1 1 (fun _ => True) W3 (.slice (some ⟨w3.heap.size, 0, none⟩) 1 1) [5] := by rw [hW3]; exact LS.one (5 : Int) 26 w3 c1 1 (fun _ => True) trivial
  have hL3 := (hO3.keep hBW).ls (r := fun _ => True) c1_len fun _ _ => trivial
  have hcl := HCL.out.1
  have HFS := hide (rfirst_any hL3 hK (by omega) (by simp))
  rw [← HCL.out.2.1] at HFS
  have HL3 := hide hL3
  have HB3 := hide (And.intro hB3 hBW)
  have HW3 := hide hW3
  obtain ⟨pa, pc, hpv⟩ := hO3.shp
  subst hpv
  clear hO3 hB3 hW3 hBW hK hL3 hcl
  go_wp2_with fail
  rw [← HW3.out]
  refine HFS.out.mono ?_
  rintro e w4 ⟨rfl, hB4⟩
  have hcl := HCL.out.1
  have HGD := hide (rgood_any (HL3.out.bel hB4) (by omega))
  rw [← HCL.out.2.2.1] at HGD
  have HB4 := hide hB4
  clear hB4 hcl
  go_wp2_with fail
  refine HGD.out.mono ?_
  rintro e w5 ⟨rfl, hB5⟩
  obtain ⟨hBU, hZ, hX0P, hX0r⟩ := HZ.out
  obtain ⟨hY2, hG2⟩ := HF2.out
  obtain ⟨hB3, hBW⟩ := HB3.out
  obtain ⟨Y, hYe⟩ : ∃ Y, Y = w5.heap.size := ⟨_, rfl⟩
  obtain ⟨W, hW⟩ : ∃ W, W = w5.alloc (.cells #[.int .i64 rc, .string ⟨#[]⟩, .int .i64 (rn : Int), .slice none 0 0, .slice none 0 0, .slice none 0 0, .slice none 0 0] 56) := ⟨_, rfl⟩
  have hBw5 : Below w5.heap.size w5 W := by rw [hW]; exact (Below.refl _ _).alloc (Nat.le_refl _) _
  have hR5 : R7 W Y rc (rn : Int) (.slice none 0 0) (.slice none 0 0) := by rw [hW, hYe]; exact heap_alloc_new w5 _
  have hZ5 := ((((((hZ.gs hG2 hX0r).bel hB3).bel hBW).bel HB4.out).bel hB5).bel hBw5)
  have hY5 := (((((hY2.bel hB3).bel hBW).bel HB4.out).bel hB5).bel hBw5)
  have hG5 : Gs (fun i => i ∈ rs) w W := (((((((Gs.of_below _ hBU).trans hG2).bel hB3).bel hBW).bel HB4.out).bel hB5).bel hBw5)
  have hYl : w.heap.size ≤ Y ∧ X0 < Y := by
    have a1 := hBU.size
    have a2 := (hZ.gs hG2 hX0r).lt
    have a3 := hG2.size
    have a4 := hB3.size
    have a5 := hBW.size
    have a6 := HB4.out.size
    have a7 := hB5.size
    omega
  have HALL := hide (And.intro hZ5 (And.intro hY5 (And.intro hG5 (And.intro hR5 (And.intro hYl hX0P)))))
  have HW := hide hW
  have HYe := hide hYe
  clear hBU hZ hX0P hX0r hY2 hG2 hB3 hBW hB5 hBw5 hZ5 hY5 hG5 hYl hW hYe
  have y0 : W.cell? ⟨Y, 0, none⟩ = some (.int .i64 rc) := hR5.cell 0
  have y2 : W.cell? ⟨Y, 2, none⟩ = some (.int .i64 (rn : Int)) := hR5.cell 2
  have f0 := hR5.free 0
  clear hR5
  go_upto_region 5 with fail
  rw [← HW.out, ← HYe.out]
  obtain ⟨hZ5, hY5, hG5, hR5, hYl, hX0P⟩ := HALL.out
  have hdc := HCL.out.2.2.2.1
  by_cases hz : rc = 0 ∧ rn = 0
  · obtain ⟨hz1, hz2⟩ := hz
    have hd5 : dd = 5 := by rw [hdc, if_pos ⟨hz1, hz2⟩]
    have hgs : Gs (fun i => i = Y) W (W.setCell ⟨Y, 0, none⟩ (.int .i64 5)) := (Gs.refl _ _).set1 _ _
    have hPY : ¬ P Y := fun e => by have := HPP.out _ e; omega
    have hRY : R7 (W.setCell ⟨Y, 0, none⟩ (.int .i64 5)) Y 5 (rn : Int) (.slice none 0 0) (.slice none 0 0) := heap_set_self hR5
    have hZn := hZ5.gs hgs (by omega)
    have hYn := hY5.res hgs hPY hR5
    have hGn := hG5.tr2 hgs fun i hi e => by omega
    obtain ⟨W2, hW2⟩ : ∃ W2, W2 = W.setCell ⟨Y, 0, none⟩ (.int .i64 5) := ⟨_, rfl⟩
    rw [← hW2] at hRY hZn hYn hGn
    have HW2 := hide hW2
    clear hZ5 hY5 hG5 hR5 hYl hdc hgs hPY hW2
    subst hd5
    subst hz1
    subst hz2
    rw [Int.natCast_zero] at y2 hRY
    have hIn := TS.nil (X0 + 1) W2
    have hTn := TS.nil (X0 + 1) W2
    have c0 : W2.cell? ⟨Y, 0, none⟩ = some (.int .i64 5) := hRY.cell 0
    have c1 : W2.cell? ⟨Y, 1, none⟩ = some (.string ⟨#[]⟩) := hRY.cell 1
    have c2 : W2.cell? ⟨Y, 2, none⟩ = some (.int .i64 0) := hRY.cell 2
    have c3 : W2.cell? ⟨Y, 3, none⟩ = some (.slice none 0 0) := hRY.cell 3
    have c4 : W2.cell? ⟨Y, 4, none⟩ = some (.slice none 0 0) := hRY.cell 4
    have c5 : W2.cell? ⟨Y, 5, none⟩ = some (.slice none 0 0) := hRY.cell 5
    have c6 : W2.cell? ⟨Y, 6, none⟩ = some (.slice none 0 0) := hRY.cell 6
    clear hRY
    go_upto_region 7 with fail
    rw [← HW2.out]
    obtain ⟨V, hrun, hRV, hGV⟩ := hZn.fill 5 0 slN slN
    have HE : Hid (DJ P w V rv S2 rs (.slice none 0 0) (.slice none 0 0) [] []) := by
      have hx := HX.out
      refine ⟨hYn.res hGV hX0P hZn, hGn.tr2 hGV fun i hi e => by omega, ?_, ?_⟩
      · exact (hIn.kb fun i hi => hGV.block i (hIn.lt i hi).2 (by have := (hIn.lt i hi).1; omega)).low (by omega)
      · exact (hTn.kb fun i hi => hGV.block i (hTn.lt i hi).2 (by have := (hTn.lt i hi).1; omega)).low (by omega)
    have r0 : V.cell? ⟨X0, 0, none⟩ = some (.int .i64 5) := hRV.cell 0
    have r1 : V.cell? ⟨X0, 1, none⟩ = some (.string ⟨#[]⟩) := hRV.cell 1
    have r2 : V.cell? ⟨X0, 2, none⟩ = some (.int .i64 0) := hRV.cell 2
    have r3 : V.cell? ⟨X0, 3, none⟩ = some (.slice none 0 0) := hRV.cell 3
    have r4 : V.cell? ⟨X0, 4, none⟩ = some (.slice none 0 0) := hRV.cell 4
    have r5 : V.cell? ⟨X0, 5, none⟩ = some (.slice none 0 0) := hRV.cell 5
    have r6 : V.cell? ⟨X0, 6, none⟩ = some (.slice none 0 0) := hRV.cell 6
    clear hRV hGV hZn hYn hGn hIn hTn hX0P
    go_wp2_with (refine wpList_store_run rfl 56 _ _ rfl _ _ rfl rfl hrun ?_)
    exact bodyPost_ret (v := .agg #[.int .i64 5, .string ⟨#[]⟩, .int .i64 0, (.slice none 0 0), (.slice none 0 0), .slice none 0 0, .slice none 0 0]) (by simp [results, Tryz.results39, go_sem, r0, r1, r2, r3, r4, r5, r6]) rfl ⟨_, _, rfl, HE.out⟩
  · have hd5 : dd = rc := by rw [hdc, if_neg hz]
    subst hd5
    have hRY := hR5
    have hZn := hZ5
    have hYn := hY5
    have hGn := hG5
    clear hZ5 hY5 hG5 hR5 hYl hdc
    have hIn := TS.nil (X0 + 1) W
    have hTn := TS.nil (X0 + 1) W
    have c0 : W.cell? ⟨Y, 0, none⟩ = some (.int .i64 dd) := hRY.cell 0
    have c1 : W.cell? ⟨Y, 1, none⟩ = some (.string ⟨#[]⟩) := hRY.cell 1
    have c2 : W.cell? ⟨Y, 2, none⟩ = some (.int .i64 (rn : Int)) := hRY.cell 2
    have c3 : W.cell? ⟨Y, 3, none⟩ = some (.slice none 0 0) := hRY.cell 3
    have c4 : W.cell? ⟨Y, 4, none⟩ = some (.slice none 0 0) := hRY.cell 4
    have c5 : W.cell? ⟨Y, 5, none⟩ = some (.slice none 0 0) := hRY.cell 5
    have c6 : W.cell? ⟨Y, 6, none⟩ = some (.slice none 0 0) := hRY.cell 6
    clear hRY
    clear y0 y2
    by_cases hz1 : dd = 0
    · have hz2 : ¬ (rn : Int) = 0 := fun h => hz ⟨hz1, by omega⟩
      clear hz
      subst hz1
      obtain ⟨V, hrun, hRV, hGV⟩ := hZn.fill 0 (rn : Int) slN slN
      have HE : Hid (DJ P w V rv S2 rs (.slice none 0 0) (.slice none 0 0) [] []) := by
        have hx := HX.out
        refine ⟨hYn.res hGV hX0P hZn, hGn.tr2 hGV fun i hi e => by omega, ?_, ?_⟩
        · exact (hIn.kb fun i hi => hGV.block i (hIn.lt i hi).2 (by have := (hIn.lt i hi).1; omega)).low (by omega)
        · exact (hTn.kb fun i hi => hGV.block i (hTn.lt i hi).2 (by have := (hTn.lt i hi).1; omega)).low (by omega)
      have r0 : V.cell? ⟨X0, 0, none⟩ = some (.int .i64 0) := hRV.cell 0
      have r1 : V.cell? ⟨X0, 1, none⟩ = some (.string ⟨#[]⟩) := hRV.cell 1
      have r2 : V.cell? ⟨X0, 2, none⟩ = some (.int .i64 (rn : Int)) := hRV.cell 2
      have r3 : V.cell? ⟨X0, 3, none⟩ = some (.slice none 0 0) := hRV.cell 3
      have r4 : V.cell? ⟨X0, 4, none⟩ = some (.slice none 0 0) := hRV.cell 4
      have r5 : V.cell? ⟨X0, 5, none⟩ = some (.slice none 0 0) := hRV.cell 5
      have r6 : V.cell? ⟨X0, 6, none⟩ = some (.slice none 0 0) := hRV.cell 6
      clear hRV hGV hZn hYn hGn hIn hTn hX0P
      go_wp2_with (refine wpList_store_run rfl 56 _ _ rfl _ _ rfl rfl hrun ?_)
      exact bodyPost_ret (v := .agg #[.int .i64 0, .string ⟨#[]⟩, .int .i64 (rn : Int), (.slice none 0 0), (.slice none 0 0), .slice none 0 0, .slice none 0 0]) (by simp [results, Tryz.results39, go_sem, r0, r1, r2, r3, r4, r5, r6]) rfl ⟨_, _, rfl, HE.out⟩
    · clear hz
      obtain ⟨V, hrun, hRV, hGV⟩ := hZn.fill dd (rn : Int) slN slN
      have HE : Hid (DJ P w V rv S2 rs (.slice none 0 0) (.slice none 0 0) [] []) := by
        have hx := HX.out
        refine ⟨hYn.res hGV hX0P hZn, hGn.tr2 hGV fun i hi e => by omega, ?_, ?_⟩
        · exact (hIn.kb fun i hi => hGV.block i (hIn.lt i hi).2 (by have := (hIn.lt i hi).1; omega)).low (by omega)
        · exact (hTn.kb fun i hi => hGV.block i (hTn.lt i hi).2 (by have := (hTn.lt i hi).1; omega)).low (by omega)
      have r0 : V.cell? ⟨X0, 0, none⟩ = some (.int .i64 dd) := hRV.cell 0
      have r1 : V.cell? ⟨X0, 1, none⟩ = some (.string ⟨#[]⟩) := hRV.cell 1
      have r2 : V.cell? ⟨X0, 2, none⟩ = some (.int .i64 (rn : Int)) := hRV.cell 2
      have r3 : V.cell? ⟨X0, 3, none⟩ = some (.slice none 0 0) := hRV.cell 3
      have r4 : V.cell? ⟨X0, 4, none⟩ = some (.slice none 0 0) := hRV.cell 4
      have r5 : V.cell? ⟨X0, 5, none⟩ = some (.slice none 0 0) := hRV.cell 5
      have r6 : V.cell? ⟨X0, 6, none⟩ = some (.slice none 0 0) := hRV.cell 6
      clear hRV hGV hZn hYn hGn hIn hTn hX0P
      go_wp2_with (refine wpList_store_run rfl 56 _ _ rfl _ _ rfl rfl hrun ?_)
      exact bodyPost_ret (v := .agg #[.int .i64 dd, .string ⟨#[]⟩, .int .i64 (rn : Int), (.slice none 0 0), (.slice none 0 0), .slice none 0 0, .slice none 0 0]) (by simp [results, Tryz.results39, go_sem, r0, r1, r2, r3, r4, r5, r6]) rfl ⟨_, _, rfl, HE.out⟩
end
end Go.Proofs.YtiecoplfiahpnaaGreat
