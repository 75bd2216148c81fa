/-
  Contracts of the program and of the statements (part 7 of 8).
-/
import Derived.Test.YtiecoplfiahpnaaFb6

namespace Go.Proofs.Ytiecoplfiahpnaa
open Go.RowKit Go.Lib Go.Maps
theorem fe_n : FE 65 := FE.of Try.underlying65
section
variable {F : FuncId} {fi ca : Array Value} {w W w0 w2 : World} {b c1 i1 : Nat} {v av nv cv : Value} {r r0 p e m : Nat → Prop} {X : List (RR × Value)} {a : Option Addr} {n d nm : ByteArray} {Q : World → Prop} {Fin : List RR → (Nat → Prop) → World → Prop} {N : Nat} {l rest : List QT} {A0 : List RR} {st k c NN s nn : Int} {go ids tx : Value} {cs : List Int} {ns : List ByteArray}
set_option maxRecDepth 100000 in
theorem byNames_any {fn : Fn} : Calls Try.prog 49 #[.func fn fi ca] w fun e w' => e = .returned (.func (.func 57) #[] #[.pointer (some ⟨w.heap.size, 0, none⟩)]) ∧ w' = w.alloc (.cells #[.func fn fi ca] 65) := by
  have hmf : ∀ (fn : Fn) (first cap : Array Value) (w : World), (Instr.makeFunc fn first cap).run Try.prog w = .ok (.func fn first cap) w := fun _ _ _ _ => rfl
  obtain ⟨g1, g2, g3, g4⟩ := fe_n
  go_enter Try.func49, Try.ntmps49
  go_wp2
  go_ret
  exact ⟨rfl, rfl⟩
set_option maxRecDepth 100000 in
set_option maxHeartbeats 3200000 in
theorem byNames1_any (hent : Ent F) (hc : W.heap[c1]? = some (.cells #[.func (.func F) fi ca] 65 (0, 0))) (hL : LS x3 3 r W av X) (hN : ∀ x ∈ X, LS t1 1 r W x.2 x.1.l) (hsm : ∀ x ∈ X, ∀ y ∈ x.1.l, y.size ≤ maxLen) (hn : X.length ≤ 1000000) (hIl : (resI (X.map (·.1))).length ≤ 1000000000000) (hp : ¬ p c1)
    (HC : ∀ W1 nv cv, TS W.heap.size nv (lI (X.map (·.1))) W1 → OW _root_.Go.Proofs.Ytiecoplfiahpnaa.c1 1 24 W.heap.size cv (X.map (·.1.c)) W1 → Below W.heap.size W W1 → Calls Try.prog F (fi ++ (#[nv, cv] ++ ca)) W1 fun e w' => e = .returned (.tuple #[]) ∧ Gs p W1 w' ∧ Q w') :
    Calls Try.prog 57 #[av, .pointer (some ⟨c1, 0, none⟩)] W fun e w' => e = .returned (.tuple #[]) ∧ Gs p W w' ∧ Q w' := by
  have y1 : W.cell? ⟨c1, 0, none⟩ = some (.func (.func F) fi ca) := by simp [World.cell?, hc]
  have hund : ∀ {W1 : World}, Below W.drew.heap.size W.drew W1 → Below W.heap.size W W1 := fun hB => ⟨hB.os, hB.tape, hB.output, hB.size, hB.block⟩
  have HK : Hid (∀ w1, Below W.drew.heap.size W.drew w1 → w1.cell? ⟨c1, 0, none⟩ = some (.func (.func F) fi ca)) := fun w1 hb => (hb.cell (p := ⟨c1, 0, none⟩) (lt_of_block hc)).trans y1
  have HN1 : Hid (∀ w1, Below W.drew.heap.size W.drew w1 → Calls Try.prog 58 #[av] w1 fun e w' => ∃ nv, e = .returned nv ∧ w'.cell? ⟨c1, 0, none⟩ = some (.func (.func F) fi ca) ∧ TS W.heap.size nv (lI (X.map (·.1))) w' ∧ Below W.drew.heap.size W.drew w' ∧ ∀ v l, OW _root_.Go.Proofs.Ytiecoplfiahpnaa.c1 1 24 W.heap.size v l w1 → OW _root_.Go.Proofs.Ytiecoplfiahpnaa.c1 1 24 W.heap.size v l w') := fun w1 hB => by
    refine (namesOf_any (hL.bel (hund hB)) (fun x hx => (hN x hx).bel (hund hB)) hsm hn hIl).mono ?_
    rintro er w' ⟨nv, rfl, hT, hB1⟩
    have hB2 := hB.trans (hB1.mono hB.size)
    exact ⟨nv, rfl, HK.out w' hB2, hT.low (hund hB).size, hB2, fun v l hO => hO.keep hB1⟩
  have HC1 : Hid (∀ w1, Below W.drew.heap.size W.drew w1 → Calls Try.prog 29 #[av] w1 fun e w' => ∃ cv, e = .returned cv ∧ w'.cell? ⟨c1, 0, none⟩ = some (.func (.func F) fi ca) ∧ OW _root_.Go.Proofs.Ytiecoplfiahpnaa.c1 1 24 W.heap.size cv (X.map (·.1.c)) w' ∧ Below W.drew.heap.size W.drew w' ∧ ∀ v l, TS W.heap.size v l w1 → TS W.heap.size v l w') := fun w1 hB => by
    refine (codesOf_any (hL.bel (hund hB)) (fun x hx => by obtain ⟨a, c, e⟩ := (hN x hx).shp; exact ⟨a, _, c, e⟩) hn).mono ?_
    rintro er w' ⟨cv, rfl, hT, hB1⟩
    have hB2 := hB.trans (hB1.mono hB.size)
    exact ⟨cv, rfl, HK.out w' hB2, hT.low (hund hB).size, hB2, fun v l hO => hO.keep hB1⟩
  have HE : Hid (∀ W1 nv cv, TS W.heap.size nv (lI (X.map (·.1))) W1 → OW _root_.Go.Proofs.Ytiecoplfiahpnaa.c1 1 24 W.heap.size cv (X.map (·.1.c)) W1 → Below W.drew.heap.size W.drew W1 → Calls Try.prog F (fi ++ (#[nv, cv] ++ ca)) W1 fun e w' => e = .returned (.tuple #[]) ∧ w'.cell? ⟨c1, 0, none⟩ = some (.func (.func F) fi ca) ∧ Hid (Gs p W w' ∧ Q w')) := fun W1 nv cv hT hO hB => by
    refine (HC W1 nv cv hT hO (hund hB)).mono ?_
    rintro er w' ⟨rfl, hG, hQ⟩
    have hG' : Gs p W w' := (Gs.of_below _ (hund hB)).trans hG
    exact ⟨rfl, by simp [World.cell?, hG'.block c1 (lt_of_block hc) hp, hc], hG', hQ⟩
  have hB0 : Below W.drew.heap.size W.drew W.drew := Below.refl _ _
  unfold Ent at hent
  clear hc hL hN hsm hn hIl hp HC hund
  go_enter Try.func57, Try.ntmps57
  go_upto_region 0 with fail
  go_region_held3 (fun w' => w'.cell? ⟨c1, 0, none⟩ = some (.func (.func F) fi ca)) (first | assumption)
    (first
      | (go_at_call 58; refine (HN1.out _ (by assumption)).mono ?_; rintro er w1 ⟨nv, rfl, k1, hT1, hB1, hk1⟩; try (have hO1 := hk1 _ _ (by assumption)); clear hk1)
      | (go_at_call 29; refine (HC1.out _ (by assumption)).mono ?_; rintro er w1 ⟨cv, rfl, k1, hO1, hB1, hk1⟩; try (have hT1 := hk1 _ _ (by assumption)); clear hk1)
      | (have hT9 := hT1; have hO9 := hO1; refine (HE.out _ _ _ hT9 hO9 hB1).mono ?_; rintro er w2 ⟨rfl, k2, hF⟩))
  all_goals (go_wp2; go_end0; exact ⟨rfl, hF.out⟩)
/-- What is done with the names and the codes. -/
def KN (F : FuncId) (fi ca : Array Value) (b : Nat) (Fin : List RR → (Nat → Prop) → World → Prop) (n : Nat) (rest : List QT) (A0 : List RR) (e m : Nat → Prop) (w0 : World) : Prop :=
  ∀ (W : World) (nv cv : Value) (A : List RR) (r : Nat → Prop), Sm e w0 W → JB W b true 0 0 ⟨#[]⟩ ⟨#[]⟩ .nilFunc 0 0 (.slice none 0 0) (.slice none 0 0) ((A0.length + n : Nat) : Int) → LS t1 1 r W nv (lI A) → LS _root_.Go.Proofs.Ytiecoplfiahpnaa.c1 1 r W cv (A.map (·.c)) → A.length = n → (resI (A0 ++ A)).length ≤ 1000000000000 → (∀ i, r i → w0.heap.size ≤ i ∧ i < W.heap.size) →
    Calls Try.prog F (fi ++ (#[nv, cv] ++ ca)) W fun er w' => er = .returned (.tuple #[]) ∧ Gs (fun i => i = b ∨ m i) W w' ∧ RDY b (fun w2 => ∃ P', JJ b Fin rest (A0 ++ A) P' w2 ∧ Gs (fun i => i = b ∨ m i) W w2 ∧ ∀ i, P' i → i = b ∨ e i ∨ r i ∨ W.heap.size ≤ i) w'
theorem ent_bn1 : Ent 57 := ent_of Try.func57 (by kernel_rfl) rfl
theorem ko_names (hent : Ent F) (HK : KN F fi ca b Fin N rest A0 e m w) (hN : N ≤ 1000000) (hb : Below w.heap.size w w2) (heb : b < w.heap.size) (hme : ∀ i, m i → e i) (hel : ∀ i, e i → i < w.heap.size) :
    KO 57 #[] #[.pointer (some ⟨w2.heap.size, 0, none⟩)] b Fin N rest A0 (fun i => e i ∨ i = w2.heap.size) m (w2.alloc (.cells #[.func (.func F) fi ca] 65)) := by
  intro W av X r hS hJ hL hNm hX hI hsm hr
  have hs := hb.size
  have hc : W.heap[w2.heap.size]? = some (.cells #[.func (.func F) fi ca] 65 (0, 0)) := (hS.2 w2.heap.size (.inr rfl) (by simp)).trans (heap_alloc_new w2 _)
  have hWs := hS.1
  have hb2 : Below w.heap.size w (w2.alloc (.cells #[.func (.func F) fi ca] 65)) := hb.alloc hs _
  have hSe : Sm e w W := ((Sm.refl e w).bel hb2).trans (hS.mono fun i hi => .inl hi)
  have hI1 : (resI (X.map (·.1))).length ≤ 1000000000000 := by
    rw [resI_app, List.length_append] at hI
    omega
  show Calls Try.prog 57 #[av, .pointer (some ⟨w2.heap.size, 0, none⟩)] W _
  refine byNames1_any (p := fun i => i = b ∨ m i) hent hc hL hNm hsm (by omega) hI1 ?_ ?_
  · rintro (h | h)
    · omega
    · have := hel _ (hme _ h); omega
  intro W1 nv cv hT hO hB
  have hOl := hO.lt
  have hTl := hT.lt
  have hBs := hB.size
  have e1 : X.map (·.1.c) = (X.map (·.1)).map (·.c) := by rw [List.map_map]; rfl
  refine (HK W1 nv cv (X.map (·.1)) (fun i => nv.ownBlock = some i ∨ cv.ownBlock = some i) (hSe.bel hB) (hJ.bel hB) (hT.ls fun i hi => .inl hi) (by rw [← e1]; exact hO.ls c1_len fun i hi => .inr hi) (by simpa using hX) hI (fun i hi => ?_)).mono ?_
  · rcases hi with h | h
    · have := hTl i h; simp at hWs; exact ⟨by omega, this.2⟩
    · have := hOl i h; simp at hWs; exact ⟨by omega, this.2⟩
  rintro er w' ⟨rfl, hG, hR⟩
  refine ⟨rfl, hG, hR.mono ?_⟩
  rintro w3 ⟨P', h1, h2, h3⟩
  refine ⟨P', h1, (Gs.of_below _ hB).trans h2, fun i hi => ?_⟩
  rcases h3 i hi with h | h | (h | h) | h
  · exact .inl h
  · exact .inr (.inl (.inl h))
  · exact .inr (.inr (.inr (hTl i h).1))
  · exact .inr (.inr (.inr (hOl i h).1))
  · exact .inr (.inr (.inr (by omega)))
theorem asksN (hent : Ent F) (hJ : JB w b true 0 0 ⟨#[]⟩ ⟨#[]⟩ .nilFunc 0 0 (.slice none 0 0) (.slice none 0 0) (A0.length : Int)) (hB : Below w.heap.size w w2) (hv : LS q4 4 r0 w2 v l) (hz : l = [] → v = .slice none 0 0) (hl : l.length ≤ 1000000) (hI0 : (resI A0).length ≤ 1000000000000) (HK : KN F fi ca b Fin l.length rest A0 e m w) (heb : ¬ e b) (hme : ∀ i, m i → e i) (hel : ∀ i, e i → i < w.heap.size) :
    Calls Try.prog 46 #[.pointer (some ⟨b, 0, none⟩), v, .func (.func 57) #[] #[.pointer (some ⟨w2.heap.size, 0, none⟩)]] (w2.alloc (.cells #[.func (.func F) fi ca] 65)) fun er w' => er = .returned (.tuple #[]) ∧ PO b Fin (l ++ rest) A0 e (fun i => i = b ∨ m i) w w' := by
  have hs := hB.size
  have hbl := hJ.lt
  have hB2 : Below w2.heap.size w2 (w2.alloc (.cells #[.func (.func F) fi ca] 65)) := (Below.refl _ _).alloc (Nat.le_refl _) _
  refine (asks (rest := rest) ent_bn1 ((hJ.bel hB).bel hB2) (hv.bel hB2) hz hl hI0 (ko_names hent HK hl hB hbl hme hel) ?_ (fun i hi => .inl (hme i hi)) ?_).mono ?_
  · rintro (h | h)
    · exact heb h
    · omega
  · rintro i (h | h)
    · have := hel i h; simp; omega
    · simp; omega
  · rintro er w' ⟨rfl, hP⟩
    refine ⟨rfl, (hP.bel (hB.trans (hB2.mono hs))).less ?_⟩
    rintro i (h | h)
    · exact .inl h
    · exact .inr (by omega)
set_option maxRecDepth 100000 in
set_option maxHeartbeats 3200000 in
theorem lists_any (hent : Ent F) (hJ : JB w b true 0 0 ⟨#[]⟩ ⟨#[]⟩ .nilFunc 0 0 (.slice none 0 0) (.slice none 0 0) (A0.length : Int)) (n : Int) (hI0 : (resI A0).length ≤ 1000000000000) (HK : KN F fi ca b Fin (nst n) rest A0 e m w) (heb : ¬ e b) (hme : ∀ i, m i → e i) (hel : ∀ i, e i → i < w.heap.size) :
    Calls Try.prog 31 #[.pointer (some ⟨b, 0, none⟩), .int .i64 n, .string nm, .func (.func F) fi ca] w fun er w' => er = .returned (.tuple #[]) ∧ PO b Fin (aq 3 nm ⟨#[]⟩ (nst n) ++ rest) A0 e (fun i => i = b ∨ m i) w w' := by
  have HT := hide (toAll_any (nm := nm) (w := w) n 0 3 ⟨#[]⟩)
  have HA : Hid (∀ w1 v, LS q4 4 (fun i => w.heap.size ≤ i) w1 v (aq 3 nm ⟨#[]⟩ (nst n)) → (aq 3 nm ⟨#[]⟩ (nst n) = [] → v = .slice none 0 0) → Below w.heap.size w w1 → Calls Try.prog 46 #[.pointer (some ⟨b, 0, none⟩), v, .func (.func 57) #[] #[.pointer (some ⟨w1.heap.size, 0, none⟩)]] (w1.alloc (.cells #[.func (.func F) fi ca] 65)) fun er w' => er = .returned (.tuple #[]) ∧ PO b Fin (aq 3 nm ⟨#[]⟩ (nst n) ++ rest) A0 e (fun i => i = b ∨ m i) w w') := fun w1 v h1 h2 hB => by
    have hnl := nst_le n
    exact asksN (rest := rest) hent hJ hB h1 h2 (by rw [aq_len]; omega) hI0 (by rw [aq_len]; exact HK) heb hme hel
  have HBC := hide (fun w => byNames_any (fn := .func F) (fi := fi) (ca := ca) (w := w))
  clear HK hJ hent hI0 heb hme hel
  go_enter Try.func31, Try.ntmps31
  go_wp2_with fail
  refine HT.out.mono ?_
  rintro er w1 ⟨v, rfl, h1, h2, hB⟩
  have HA1 := hide (HA.out w1 v h1 h2 hB)
  clear h1 h2 hB
  go_wp2_with fail
  refine (HBC.out w1).mono ?_
  rintro er w3 ⟨rfl, rfl⟩
  go_wp2_with fail
  refine HA1.out.mono ?_
  rintro er w2 ⟨rfl, hP⟩
  have HP := hide hP
  clear hP
  go_wp2
  go_end0
  exact ⟨rfl, HP.out⟩
set_option maxRecDepth 100000 in
set_option maxHeartbeats 3200000 in
theorem list_fin (h6 : w.heap[i1]? = some (.cells #[.pointer (some ⟨b, 0, none⟩)] 52 (0, 0))) (hJ : JB w b true st k n d go c NN ids tx s) (hT : LS t1 1 r w nv ns) (hTl : ns.length ≤ 1000000000000) (hL : LS _root_.Go.Proofs.Ytiecoplfiahpnaa.c1 1 r w cv cs) (hn : cs.length ≤ 1000000) :
    Calls Try.prog 32 #[nv, cv, .pointer (some ⟨i1, 0, none⟩)] w fun e w' => e = .returned (.tuple #[]) ∧ ∃ ids tx, JB w' b false 0 0 ⟨#[]⟩ ⟨#[]⟩ .nilFunc (frs [] cs) ((gds cs : Nat) : Int) ids tx s ∧ TS w.heap.size ids ns w' ∧ TS w.heap.size tx [] w' ∧ Gs (fun i => i = b) w w' := by
  have HOC := hide (outcome_any hL (LS.nl (f := _root_.Go.Proofs.Ytiecoplfiahpnaa.c1) (fun _ => True) w) hn (by simp))
  obtain ⟨rc, hrc⟩ : ∃ rc, rc = frs [] cs := ⟨_, rfl⟩
  obtain ⟨rn, hrn⟩ : ∃ rn, rn = ((gds cs : Nat) : Int) := ⟨_, rfl⟩
  rw [← hrc, ← hrn] at HOC ⊢
  obtain ⟨a, c0, e⟩ := hL.shp
  subst e
  have hsn : ∃ a n c, nv = .slice a n c := by obtain ⟨a, c, e⟩ := hT.shp; exact ⟨a, _, c, e⟩
  have HSN := hide hsn
  have HJ := hide (And.intro h6 hJ)
  have HT := hide (And.intro hT.old hTl)
  clear hrc hrn hL hn h6 hJ hT hTl hsn
  generalize cs.length = cl at *
  go_enter Try.func32, Try.ntmps32
  go_wp2_with fail
  refine HOC.out.mono ?_
  rintro er w2 ⟨rfl, hB2⟩
  obtain ⟨Y, hY⟩ : ∃ Y, Y = w2.heap.size := ⟨_, rfl⟩
  obtain ⟨V, hV⟩ : ∃ V, V = w2.alloc (.cells #[.int .i64 rc, .string ⟨#[]⟩, .int .i64 rn, .slice none 0 0, .slice none 0 0, .slice none 0 0, .slice none 0 0] 35) := ⟨_, rfl⟩
  have hbV : Below w.heap.size w V := by rw [hV]; exact hB2.alloc hB2.size _
  have hYl : w.heap.size ≤ Y := by rw [hY]; exact hB2.size
  have hR : R7 V Y rc rn (.slice none 0 0) (.slice none 0 0) := by rw [hV, hY]; exact heap_alloc_new w2 _
  have hs := store1_run (t := 29) hR (j := 3) (v := nv) (Nat.le_of_ble_eq_true rfl) Try.sizeTs HSN.out
  have hR2 : R7 (V.setCell ⟨Y, 3, none⟩ nv) Y rc rn nv (.slice none 0 0) := heap_set_self hR
  have hG2 : Gs (fun i => i = Y) V (V.setCell ⟨Y, 3, none⟩ nv) := (Gs.refl _ _).set1 _ _
  obtain ⟨V2, hV2⟩ : ∃ V2, V2 = V.setCell ⟨Y, 3, none⟩ nv := ⟨_, rfl⟩
  rw [← hV2] at hs hR2 hG2
  have hb2 : Below w.heap.size w V2 := hG2.below hbV hbV.size (fun i e => by omega)
  have hJ2 := HJ.out.2.bel hb2
  have h62 := (hb2.block i1 (lt_of_block HJ.out.1)).trans HJ.out.1
  have HE := hide (end_on (r := fun _ => True) (c := rc) (N := rn) hJ2 ((HT.out.1.bel hb2).mono fun _ _ => trivial) (LS.nl _ _) HT.out.2 (by simp))
  have y6 : V2.cell? ⟨i1, 0, none⟩ = some (.pointer (some ⟨b, 0, none⟩)) := by simp [World.cell?, h62]
  have c0 : V2.cell? ⟨Y, 0, none⟩ = some (.int .i64 rc) := hR2.cell 0
  have c1 : V2.cell? ⟨Y, 1, none⟩ = some (.string ⟨#[]⟩) := hR2.cell 1
  have c2 : V2.cell? ⟨Y, 2, none⟩ = some (.int .i64 rn) := hR2.cell 2
  have c3 : V2.cell? ⟨Y, 3, none⟩ = some nv := hR2.cell 3
  have c4 : V2.cell? ⟨Y, 4, none⟩ = some (.slice none 0 0) := hR2.cell 4
  have c5 : V2.cell? ⟨Y, 5, none⟩ = some (.slice none 0 0) := hR2.cell 5
  have c6 : V2.cell? ⟨Y, 6, none⟩ = some (.slice none 0 0) := hR2.cell 6
  have HB := hide hb2
  have HV := hide hV
  have HY := hide hY
  clear hB2 hV hY hbV hYl hR hR2 hG2 hV2 hb2 hJ2 h62
  go_upto_region 1 with fail
  rw [← HV.out, ← HY.out]
  go_wp2_with (refine wpList_store_run rfl 29 _ _ rfl _ _ rfl rfl hs ?_)
  refine HE.out.mono ?_
  rintro er w7 ⟨rfl, ids', tx', hJ7, h71, h72, hG7⟩
  have HF : Hid (∃ ids tx, JB w7 b false 0 0 ⟨#[]⟩ ⟨#[]⟩ .nilFunc rc rn ids tx s ∧ TS w.heap.size ids ns w7 ∧ TS w.heap.size tx [] w7 ∧ Gs (fun i => i = b) w w7) :=
    ⟨ids', tx', hJ7, h71.low HB.out.size, h72.low HB.out.size, (Gs.of_below _ HB.out).trans hG7⟩
  clear hJ7 h71 h72 hG7
  go_wp2
  go_end0
  exact ⟨rfl, HF.out⟩
theorem kn_list (h6 : w.heap[i1]? = some (.cells #[.pointer (some ⟨b, 0, none⟩)] 52 (0, 0))) (hb : b < w.heap.size) (N : Nat) (hN : N ≤ 1000000) : KN 32 #[] #[.pointer (some ⟨i1, 0, none⟩)] b (FinR b (gC true []) gN lI noT) N [] [] (fun i => i = i1) (fun _ => False) w := by
  intro W nv cv A r hS hJ hT hL hA hI hr
  show Calls Try.prog 32 #[nv, cv, .pointer (some ⟨i1, 0, none⟩)] W _
  rw [List.nil_append] at hI
  refine (list_fin ((hS.2 i1 rfl (lt_of_block h6)).trans h6) hJ hT (by have := uni_res A; unfold lI; omega) hL (by simp; omega)).mono ?_
  rintro er w' ⟨rfl, ids, tx, hJ', h1, h2, hG⟩
  refine ⟨rfl, ?_⟩
  rw [List.nil_append]
  refine fin_rdy ?_ h1 h2 hG (Nat.lt_of_lt_of_le hb hS.1)
  rw [gC, if_pos rfl, hA]
  simpa [gN] using hJ'
theorem ent_l11 : Ent 32 := ent_of Try.func32 (by kernel_rfl) rfl
theorem ent_l1 : Ent 30 := ent_of Try.func30 (by kernel_rfl) rfl
set_option maxRecDepth 100000 in
set_option maxHeartbeats 3200000 in
theorem listsjob1_any {x1 x2 : Nat} (hJ : JB w b true 0 0 ⟨#[]⟩ ⟨#[]⟩ .nilFunc 0 0 (.slice none 0 0) (.slice none 0 0) 0) (h1 : w.heap[x1]? = some (.cells #[.int .i64 nn] 3 (0, 0))) (h2 : w.heap[x2]? = some (.cells #[.string nm] 9 (0, 0))) :
    Calls Try.prog 30 #[.pointer (some ⟨b, 0, none⟩), .pointer (some ⟨x1, 0, none⟩), .pointer (some ⟨x2, 0, none⟩)] w fun e w' => e = .returned (.tuple #[]) ∧ PO b (FinR b (gC true []) gN lI noT) (aq 3 nm ⟨#[]⟩ (nst nn)) [] (fun i => w.heap.size ≤ i) (fun i => i = b) w w' := by
  obtain ⟨U, hU⟩ : ∃ U, U = w.alloc (.cells #[.pointer (some ⟨b, 0, none⟩)] 52) := ⟨_, rfl⟩
  obtain ⟨i1, hi1⟩ : ∃ i1, i1 = w.heap.size := ⟨_, rfl⟩
  have hBU : Below w.heap.size w U := by rw [hU]; exact (Below.refl _ _).alloc (Nat.le_refl _) _
  have hJU := hJ.bel hBU
  have hszU : U.heap.size = i1 + 1 := by rw [hU, hi1]; simp
  have h6 : U.heap[i1]? = some (.cells #[.pointer (some ⟨b, 0, none⟩)] 52 (0, 0)) := by rw [hU, hi1]; exact heap_alloc_new w _
  have y6 : U.cell? ⟨i1, 0, none⟩ = some (.pointer (some ⟨b, 0, none⟩)) := by simp [World.cell?, h6]
  have h1U := (hBU.block x1 (lt_of_block h1)).trans h1
  have h2U := (hBU.block x2 (lt_of_block h2)).trans h2
  have y1 : U.cell? ⟨x1, 0, none⟩ = some (.int .i64 nn) := by simp [World.cell?, h1U]
  have y2 : U.cell? ⟨x2, 0, none⟩ = some (.string nm) := by simp [World.cell?, h2U]
  have hbl := hJ.lt
  have hnl := nst_le nn
  have HN := hide (lists_any (nm := nm) (rest := []) (A0 := []) ent_l11 hJU nn (by simp [resI]) (kn_list h6 hJU.lt (nst nn) (by omega)) (by omega) (fun i hi => hi.elim) (fun i hi => by omega))
  have HU := hide hU
  have HI := hide hi1
  have HB := hide hBU
  have hmf : ∀ (fn : Fn) (first cap : Array Value) (w : World), (Instr.makeFunc fn first cap).run Try.prog w = .ok (.func fn first cap) w := fun _ _ _ _ => rfl
  clear hJU hszU h6 h1U h2U hBU hU hi1 hJ hbl h1 h2 hnl
  go_enter Try.func30, Try.ntmps30
  go_upto_region 1 with fail
  rw [← HU.out, ← HI.out]
  go_wp2_with fail
  refine HN.out.mono ?_
  rintro e w7 ⟨rfl, hQ⟩
  have HQ : Hid (PO b (FinR b (gC true []) gN lI noT) (aq 3 nm ⟨#[]⟩ (nst nn)) [] (fun i => w.heap.size ≤ i) (fun i => i = b) w w7) := by
    rw [List.append_nil] at hQ
    have h3 := (hQ.bel HB.out).less (e := fun i => w.heap.size ≤ i) (fun i hi => .inr (by have := HI.out; omega))
    exact h3.more fun i hi => by
      rcases hi with h | h
      · exact h
      · exact h.elim
  clear hQ
  go_wp2
  go_end0
  exact ⟨rfl, HQ.out⟩
set_option maxRecDepth 100000 in
set_option maxHeartbeats 3200000 in
theorem listsjob_any (nn : Int) (nm : ByteArray) (w : World) :
    Calls Try.prog 12 #[.int .i64 nn, .string nm] w fun e w' => MK (fun b => FinR b (gC (okn nn) []) gN lI noT) (aq 3 nm ⟨#[]⟩ (nst nn)) w w' e := by
  obtain ⟨U, hU⟩ : ∃ U, U = (w.alloc (.cells #[.int .i64 nn] 3)).alloc (.cells #[.string nm] 9) := ⟨_, rfl⟩
  obtain ⟨X, hX⟩ : ∃ X, X = w.heap.size := ⟨_, rfl⟩
  have hBU : Below w.heap.size w U := by rw [hU]; exact ((Below.refl _ _).alloc (Nat.le_refl _) _).alloc (by simp) _
  have h1 : U.heap[X]? = some (.cells #[.int .i64 nn] 3 (0, 0)) := by rw [hU, hX, Below.heap_alloc _ _ _ (by simp)]; exact heap_alloc_new w _
  have h2 : U.heap[X + 1]? = some (.cells #[.string nm] 9 (0, 0)) := by
    rw [hU, hX]
    have := heap_alloc_new (w.alloc (.cells #[.int .i64 nn] 3)) (.cells #[.string nm] 9 (0, 0))
    simpa using this
  have y1 : U.cell? ⟨X, 0, none⟩ = some (.int .i64 nn) := by simp [World.cell?, h1]
  have HN : Hid (Calls Try.prog 20 #[.int .i64 nn, .func (.func 30) #[] #[.pointer (some ⟨X, 0, none⟩), .pointer (some ⟨X + 1, 0, none⟩)]] U fun e w' => Hid (MK (fun b => FinR b (gC (okn nn) []) gN lI noT) (aq 3 nm ⟨#[]⟩ (nst nn)) w w' e)) := by
    have hmk : ∀ w' e, MK (fun b => FinR b (gC (okn nn) []) gN lI noT) (aq 3 nm ⟨#[]⟩ (nst nn)) U w' e → MK (fun b => FinR b (gC (okn nn) []) gN lI noT) (aq 3 nm ⟨#[]⟩ (nst nn)) w w' e := by
      rintro w' e ⟨b, P, rfl, hJJ, hB, hP⟩
      have hs := hBU.size
      exact ⟨b, P, rfl, hJJ, hBU.trans (hB.mono hs), fun i hi => by have := hP i hi; omega⟩
    by_cases hok : 1 ≤ nn ∧ nn ≤ 255
    · have e1 : okn nn = true := decide_eq_true hok
      rw [e1]
      rw [e1] at hmk
      refine (fstart_yes (Fin := fun b => FinR b (gC true []) gN lI noT) (L := aq 3 nm ⟨#[]⟩ (nst nn)) ent_l1 hok.1 hok.2 ?_).mono fun e w' h => hmk w' e h
      intro b V hJ hB hb
      show Calls Try.prog 30 #[.pointer (some ⟨b, 0, none⟩), .pointer (some ⟨X, 0, none⟩), .pointer (some ⟨X + 1, 0, none⟩)] V _
      refine (listsjob1_any hJ ((hB.block X (lt_of_block h1)).trans h1) ((hB.block (X + 1) (lt_of_block h2)).trans h2)).mono ?_
      rintro e w' ⟨rfl, hP⟩
      exact ⟨rfl, hP.less fun i hi => .inr hi⟩
    · have e1 : okn nn = false := decide_eq_false hok
      rw [e1]
      rw [e1] at hmk
      have e2 : aq 3 nm ⟨#[]⟩ (nst nn) = [] := by rw [nst_no nn (by omega)]; rfl
      rw [e2] at hmk ⊢
      exact (fstart_no (by omega) rfl rfl rfl rfl).mono fun e w' h => hmk w' e h
  have HU := hide hU
  have HX := hide hX
  have hmf : ∀ (fn : Fn) (first cap : Array Value) (w : World), (Instr.makeFunc fn first cap).run Try.prog w = .ok (.func fn first cap) w := fun _ _ _ _ => rfl
  clear h1 h2 hBU hU hX
  go_enter Try.func12, Try.ntmps12
  go_upto_region 1 with fail
  rw [← HU.out, ← HX.out]
  go_wp2_with fail
  refine HN.out.mono ?_
  rintro e w7 hQ
  obtain ⟨b, P, rfl, hR⟩ := hQ.out
  have HQ2 := hide hR
  clear hR
  go_wp2
  go_ret
  exact ⟨b, P, rfl, HQ2.out⟩
end
end Go.Proofs.Ytiecoplfiahpnaa

namespace Go.Proofs.Ytiecoplfiahpnaa
/-- What one store answers, if it is there. -/
def oneR (S : List SS) (i : Nat) (q : QT) : RR := match S[i]? with | some s => doR s q.k q.n q.d | none => ⟨1, ⟨#[]⟩, []⟩
theorem yR_at {S : List SS} {q : QT} {i : Nat} (h : q.st = (i : Int)) : yR S q = oneR S i q := by
  rw [yR, if_pos (by omega), h, oneR]
  rfl
theorem yS_get {S : List SS} {q : QT} {i : Nat} (h : q.st = (i : Int)) (j : Nat) : (yS S q)[j]? = if j = i then S[j]?.map (fun s => doS s q.k q.n q.d) else S[j]? := by
  rw [yS, if_pos (by omega), h]
  simp only [Int.toNat_natCast]
  split
  · rename_i s hs
    rw [List.getElem?_set]
    by_cases e : i = j
    · subst e
      rw [if_pos rfl, if_pos rfl, hs, if_pos (List.getElem?_eq_some_iff.1 hs).1]; rfl
    · rw [if_neg e, if_neg (fun h => e h.symm)]
  · rename_i hs
    by_cases e : j = i
    · subst e
      rw [if_pos rfl, hs]; rfl
    · rw [if_neg e]
theorem all_ySs {f : Nat → QT} (hf : ∀ i, (f i).st = (i : Int)) (S : List SS) : ∀ (m j : Nat), (ySs S ((List.range m).map f))[j]? = if j < m then S[j]?.map (fun s => doS s (f j).k (f j).n (f j).d) else S[j]?
  | 0, j => by simp [ySs]
  | m + 1, j => by
    rw [List.range_succ, List.map_append, List.map_cons, List.map_nil, ySs_snoc, yS_get (hf m), all_ySs hf S m j]
    by_cases e : j = m
    · subst e
      rw [if_pos rfl, if_neg (Nat.lt_irrefl _), if_pos (Nat.lt_succ_self _)]
    · rw [if_neg e]
      by_cases h : j < m
      · rw [if_pos h, if_pos (by omega)]
      · rw [if_neg h, if_neg (by omega)]
theorem all_yRs {f : Nat → QT} (hf : ∀ i, (f i).st = (i : Int)) (S : List SS) : ∀ m : Nat, yRs S ((List.range m).map f) = (List.range m).map fun i => oneR S i (f i)
  | 0 => rfl
  | m + 1 => by
    rw [List.range_succ, List.map_append, List.map_cons, List.map_nil, yRs_snoc, yR_at (hf m), all_yRs hf S m, List.map_append]
    have : oneR (ySs S ((List.range m).map f)) m (f m) = oneR S m (f m) := by
      rw [oneR, oneR, all_ySs hf S m m, if_neg (Nat.lt_irrefl _)]
    rw [this]
    rfl
theorem pq_range (nm : ByteArray) (ds : List ByteArray) : pq nm ds = (List.range ds.length).map fun i => ⟨(i : Int), 1, nm, ds.getD i ⟨#[]⟩⟩ := by
  apply List.ext_getElem?
  intro i
  rw [pq, List.getElem?_mapIdx, List.getElem?_map]
  by_cases h : i < ds.length
  · rw [List.getElem?_range h, List.getElem?_eq_getElem h]
    simp [List.getD_eq_getElem?_getD, List.getElem?_eq_getElem h]
  · rw [List.getElem?_eq_none (by omega), List.getElem?_eq_none (by simp; omega)]
    rfl
/-- Stores that go, with these objects. -/
def QS (q : Int) (N : Nat) (S : List SS) (Lf : Nat → List OB) : Prop := S.length = N ∧ ∀ i s, S[i]? = some s → s.off = false ∧ s.f = 0 ∧ s.q = q ∧ s.L = Lf i
theorem frs_pass {k : List Int} : ∀ {l : List Int}, (∀ c ∈ l, c = 0 ∨ c ∈ k) → frs k l = 0
  | [], _ => rfl
  | c :: r, h => by rw [frs, if_pos (h c (by simp)), frs_pass fun x hx => h x (List.mem_cons_of_mem _ hx)]
theorem gds_all : ∀ {l : List Int}, (∀ c ∈ l, c = 0) → gds l = l.length
  | [], _ => rfl
  | c :: r, h => by rw [gds, if_pos (h c (by simp)), gds_all fun x hx => h x (List.mem_cons_of_mem _ hx), List.length_cons]; omega
theorem gds_app : ∀ (l m : List Int), gds (l ++ m) = gds l + gds m
  | [], m => by simp [gds]
  | c :: r, m => by rw [List.cons_append, gds, gds, gds_app r]; omega
theorem gds_none : ∀ {l : List Int}, (∀ c ∈ l, c ≠ 0) → gds l = 0
  | [], _ => rfl
  | c :: r, h => by rw [gds, if_neg (h c (by simp)), gds_none fun x hx => h x (List.mem_cons_of_mem _ hx)]
def nameB : ByteArray := ⟨#[110, 97, 109, 101]⟩
def naB : ByteArray := ⟨#[110, 97]⟩
theorem name_may : mayB nameB = true := by kernel_rfl
theorem name_na : begins naB nameB = true := by kernel_rfl
/-- What each store has once the data are put. -/
def LB (ds : List ByteArray) (i : Nat) : List OB := match ds[i]? with | some d => [⟨nameB, d⟩] | none => []
section
variable {S : List SS} {ds : List ByteArray} {N : Nat} {Lf : Nat → List OB}
theorem QS.get {q : Int} (h : QS q N S Lf) {i : Nat} (hi : i < N) : ∃ s, S[i]? = some s ∧ s.off = false ∧ s.f = 0 ∧ s.q = q ∧ s.L = Lf i := by
  obtain ⟨s, hs⟩ : ∃ s, S[i]? = some s := ⟨_, List.getElem?_eq_getElem (by rw [h.1]; exact hi)⟩
  exact ⟨s, hs, h.2 i s hs⟩
theorem doR_on {s : SS} (h1 : s.off = false) (h2 : s.f = 0) (k : Int) (n d : ByteArray) : doR s k n d = if k = 1 then ⟨pcode n d s.L s.q, ⟨#[]⟩, []⟩ else if k = 2 then ⟨dcode n s.L, (thr s.L n).getD ⟨#[]⟩, []⟩ else
  if k = 3 then ⟨0, ⟨#[]⟩, namesL s.L n⟩ else if k = 4 then ⟨dcode n s.L, ⟨#[]⟩, []⟩ else ⟨3, ⟨#[]⟩, []⟩ := by
  rw [doR, if_neg (by rw [h1]; decide), if_neg (by omega)]
theorem doS_on {s : SS} (h1 : s.off = false) (h2 : s.f = 0) (k : Int) (n d : ByteArray) : doS s k n d = { s with m := s.m + 1, L := if k = 1 then putL n d s.L s.q else if k = 4 then delL s.L n else s.L } := by
  rw [doS, if_neg (by rw [h1]; decide), if_neg (by omega)]
theorem put_one {L : List OB} {d : ByteArray} (hd : d.size ≤ 200) (hL : L = [] ∨ ∃ d', L = [⟨nameB, d'⟩]) : pcode nameB d L 1048576 = 0 ∧ putL nameB d L 1048576 = [⟨nameB, d⟩] := by
  have hl : layL L nameB d = [⟨nameB, d⟩] := by
    rcases hL with rfl | ⟨d', rfl⟩
    · rfl
    · rw [layL, if_neg (by rw [bl_irrefl]; decide), if_pos rfl]
  have hn : nameB.size = 4 := rfl
  have hp : pcode nameB d L 1048576 = 0 := by
    rw [pcode, if_pos name_may, if_pos (by omega), hl, if_pos (by simp only [usedL]; omega)]
  exact ⟨hp, by rw [putL, if_pos hp, hl]⟩
theorem back_put (h : QS 1048576 N S Lf) (hLf : ∀ i, Lf i = [] ∨ ∃ d', Lf i = [⟨nameB, d'⟩]) (hl : ds.length ≤ N) (hd : ∀ d ∈ ds, d.size ≤ 200) (hrest : ∀ i, ds.length ≤ i → Lf i = []) :
    (∀ r ∈ yRs S (pq nameB ds), r.c = 0) ∧ QS 1048576 N (ySs S (pq nameB ds)) (LB ds) := by
  have hf : ∀ i : Nat, ((fun i : Nat => (⟨(i : Int), 1, nameB, ds.getD i ⟨#[]⟩⟩ : QT)) i).st = (i : Int) := fun _ => rfl
  have hget : ∀ i, i < ds.length → ds[i]? = some (ds.getD i ⟨#[]⟩) ∧ (ds.getD i ⟨#[]⟩).size ≤ 200 := fun i hi => by
    have e : ds[i]? = some ds[i] := List.getElem?_eq_getElem hi
    rw [List.getD_eq_getElem?_getD, e]
    exact ⟨rfl, hd _ (List.getElem_mem hi)⟩
  rw [pq_range, all_yRs hf]
  refine ⟨?_, by rw [ySs_len]; exact h.1, ?_⟩
  · intro r hr
    obtain ⟨i, hi, rfl⟩ := List.mem_map.1 hr
    have hi := List.mem_range.1 hi
    obtain ⟨s, hs, h1, h2, h3, h4⟩ := h.get (i := i) (by omega)
    rw [oneR, hs]
    show (doR s 1 nameB (ds.getD i ⟨#[]⟩)).c = 0
    rw [doR_on h1 h2, if_pos rfl, h3, h4]
    exact (put_one (hget i hi).2 (hLf i)).1
  · intro i s hs
    rw [all_ySs hf] at hs
    by_cases hi : i < ds.length
    · rw [if_pos hi] at hs
      obtain ⟨t, ht, h1, h2, h3, h4⟩ := h.get (i := i) (by omega)
      rw [ht] at hs
      have hs' : doS t 1 nameB (ds.getD i ⟨#[]⟩) = s := by simpa using hs
      rw [doS_on h1 h2, if_pos rfl, h3, h4, (put_one (hget i hi).2 (hLf i)).2] at hs'
      subst hs'
      refine ⟨h1, h2, rfl, ?_⟩
      show [_] = LB ds i
      rw [LB, (hget i hi).1]
    · rw [if_neg hi] at hs
      obtain ⟨h1, h2, h3, h4⟩ := h.2 i s hs
      refine ⟨h1, h2, h3, ?_⟩
      rw [h4, hrest i (by omega), LB, List.getElem?_eq_none (by omega)]
/-- A request that changes nothing. -/
theorem back_still {q k : Int} {n : ByteArray} (h : QS q N S Lf) (hk : k ≠ 1) (hk4 : k ≠ 4) (m : Nat) : QS q N (ySs S (aq k n ⟨#[]⟩ m)) Lf := by
  have hf : ∀ i : Nat, ((fun i : Nat => (⟨(i : Int), k, n, ⟨#[]⟩⟩ : QT)) i).st = (i : Int) := fun _ => rfl
  refine ⟨by rw [ySs_len]; exact h.1, ?_⟩
  intro i s hs
  rw [aq, all_ySs hf] at hs
  split at hs
  · cases ht : S[i]? with
    | none => rw [ht] at hs; cases hs
    | some t =>
      obtain ⟨h1, h2, h3, h4⟩ := h.2 i t ht
      rw [ht] at hs
      have hs' : doS t k n ⟨#[]⟩ = s := by simpa using hs
      rw [doS_on h1 h2, if_neg hk, if_neg hk4] at hs'
      subst hs'
      exact ⟨h1, h2, h3, h4⟩
  · exact h.2 i s hs
theorem back_del {q : Int} (h : QS q N S Lf) (hLf : ∀ i, Lf i = [] ∨ ∃ d', Lf i = [⟨nameB, d'⟩]) : QS q N (ySs S (aq 4 nameB ⟨#[]⟩ N)) fun _ => [] := by
  have hf : ∀ i : Nat, ((fun i : Nat => (⟨(i : Int), 4, nameB, ⟨#[]⟩⟩ : QT)) i).st = (i : Int) := fun _ => rfl
  refine ⟨by rw [ySs_len]; exact h.1, ?_⟩
  intro i s hs
  rw [aq, all_ySs hf] at hs
  split at hs
  · cases ht : S[i]? with
    | none => rw [ht] at hs; cases hs
    | some t =>
      obtain ⟨h1, h2, h3, h4⟩ := h.2 i t ht
      rw [ht] at hs
      have hs' : doS t 4 nameB ⟨#[]⟩ = s := by simpa using hs
      rw [doS_on h1 h2, if_neg (by decide), if_pos rfl, h4] at hs'
      subst hs'
      refine ⟨h1, h2, h3, ?_⟩
      show delL (Lf i) nameB = []
      rcases hLf i with e | ⟨d', e⟩ <;> rw [e]
      · rfl
      · rw [delL, if_pos rfl]
  · rename_i hi
    have := (List.getElem?_eq_some_iff.1 hs).1
    have := h.1
    omega
/-- What each store answers. -/
theorem all_at {q k : Int} {n : ByteArray} (h : QS q N S Lf) (hk : k ≠ 1) {m : Nat} (hm : m ≤ N) : yRs S (aq k n ⟨#[]⟩ m) = (List.range m).map fun i => if k = 2 then ⟨dcode n (Lf i), (thr (Lf i) n).getD ⟨#[]⟩, []⟩ else if k = 3 then ⟨0, ⟨#[]⟩, namesL (Lf i) n⟩ else if k = 4 then ⟨dcode n (Lf i), ⟨#[]⟩, []⟩ else ⟨3, ⟨#[]⟩, []⟩ := by
  have hf : ∀ i : Nat, ((fun i : Nat => (⟨(i : Int), k, n, ⟨#[]⟩⟩ : QT)) i).st = (i : Int) := fun _ => rfl
  rw [aq, all_yRs hf]
  refine List.map_congr_left fun i hi => ?_
  have hi := List.mem_range.1 hi
  obtain ⟨s, hs, h1, h2, h3, h4⟩ := h.get (i := i) (by omega)
  rw [oneR, hs]
  show doR s k n ⟨#[]⟩ = _
  rw [doR_on h1 h2, if_neg hk, h4]
theorem LB_is (ds : List ByteArray) (i : Nat) : LB ds i = [] ∨ ∃ d', LB ds i = [⟨nameB, d'⟩] := by
  rw [LB]; split
  · exact .inr ⟨_, rfl⟩
  · exact .inl rfl
theorem LB_in {i : Nat} {d : ByteArray} (h : ds[i]? = some d) : LB ds i = [⟨nameB, d⟩] := by rw [LB, h]
theorem LB_out {i : Nat} (h : ds.length ≤ i) : LB ds i = [] := by rw [LB, List.getElem?_eq_none h]
theorem zero_res {R : List RR} (h : ∀ r ∈ R, r.c = 0) (k : List Int) : frs k (R.map (·.c)) = 0 ∧ gds (R.map (·.c)) = R.length := by
  have h' : ∀ c ∈ R.map (·.c), c = 0 := fun c hc => by obtain ⟨r, hr, rfl⟩ := List.mem_map.1 hc; exact h r hr
  exact ⟨frs_pass fun c hc => .inl (h' c hc), by rw [gds_all h', List.length_map]⟩
/-- What is got. -/
theorem back_get {q : Int} (h : QS q N S (LB ds)) (hl : ds.length ≤ N) : (∀ r ∈ yRs S (aq 2 nameB ⟨#[]⟩ ds.length), r.c = 0) ∧ gT (yRs S (aq 2 nameB ⟨#[]⟩ ds.length)) = ds := by
  rw [all_at h (by decide) hl]
  have hat : ∀ i, i < ds.length → LB ds i = [⟨nameB, ds.getD i ⟨#[]⟩⟩] := fun i hi => by
    apply LB_in
    rw [List.getD_eq_getElem?_getD, List.getElem?_eq_getElem hi]; rfl
  refine ⟨?_, ?_⟩
  · intro r hr
    obtain ⟨i, hi, rfl⟩ := List.mem_map.1 hr
    rw [if_pos rfl, hat i (List.mem_range.1 hi)]
    simp [dcode, thr]
  · rw [gT, List.map_map]
    apply List.ext_getElem?
    intro i
    rw [List.getElem?_map]
    by_cases hi : i < ds.length
    · rw [List.getElem?_range hi, List.getElem?_eq_getElem hi]
      simp [hat i hi, thr, List.getElem?_eq_getElem hi]
    · rw [List.getElem?_eq_none (by simp; omega), List.getElem?_eq_none (by omega)]; rfl
theorem uni_one {A : List (List ByteArray)} (hA : ∀ N ∈ A, N = [] ∨ N = [nameB]) (h : [nameB] ∈ A) : uniT A = [nameB] :=
  ris_ext (uniT_ris A) (List.pairwise_singleton _ _) fun x => by
    rw [uniT_mem]
    constructor
    · rintro ⟨N, hN, hx⟩
      rcases hA N hN with e | e
      · rw [e] at hx; simp at hx
      · rw [e] at hx; exact hx
    · intro hx
      exact ⟨_, h, hx⟩
theorem uni_nil {A : List (List ByteArray)} (hA : ∀ N ∈ A, N = []) : uniT A = [] :=
  ris_ext (uniT_ris A) List.Pairwise.nil fun x => by
    rw [uniT_mem]
    constructor
    · rintro ⟨N, hN, hx⟩
      rw [hA N hN] at hx; exact hx
    · intro hx; simp at hx
/-- What is listed. -/
theorem back_list {q : Int} (h : QS q N S (LB ds)) (h1 : 1 ≤ ds.length) (hl : ds.length ≤ N) : (∀ r ∈ yRs S (aq 3 naB ⟨#[]⟩ N), r.c = 0) ∧ lI (yRs S (aq 3 naB ⟨#[]⟩ N)) = [nameB] := by
  rw [all_at h (by decide) (Nat.le_refl _)]
  have hnm : ∀ i, namesL (LB ds i) naB = if i < ds.length then [nameB] else [] := fun i => by
    by_cases hi : i < ds.length
    · rw [if_pos hi, LB_in (List.getElem?_eq_getElem hi), namesL, List.filter_cons, if_pos name_na]; rfl
    · rw [if_neg hi, LB_out (by omega)]; rfl
  refine ⟨?_, ?_⟩
  · intro r hr
    obtain ⟨i, hi, rfl⟩ := List.mem_map.1 hr
    rfl
  · rw [lI, List.map_map]
    refine uni_one ?_ (List.mem_map.2 ⟨0, List.mem_range.2 (by omega), ?_⟩)
    · intro M hM
      obtain ⟨i, _, rfl⟩ := List.mem_map.1 hM
      show namesL (LB ds i) naB = [] ∨ namesL (LB ds i) naB = [nameB]
      rw [hnm]; split
      · exact .inr rfl
      · exact .inl rfl
    · show namesL (LB ds 0) naB = [nameB]
      rw [hnm, if_pos (by omega)]
theorem back_empty {q : Int} (h : QS q N S fun _ => []) (n : ByteArray) : lI (yRs S (aq 3 n ⟨#[]⟩ N)) = [] := by
  rw [all_at h (by decide) (Nat.le_refl _), lI, List.map_map]
  refine uni_nil fun M hM => ?_
  obtain ⟨i, _, rfl⟩ := List.mem_map.1 hM
  rfl
/-- What is told of the first deletion. -/
theorem back_gone {q : Int} (h : QS q N S (LB ds)) (h1 : 1 ≤ ds.length) (hl : ds.length ≤ N) : dCs ((yRs S (aq 4 nameB ⟨#[]⟩ N)).map (·.c)) = 0 ∧ gds ((yRs S (aq 4 nameB ⟨#[]⟩ N)).map (·.c)) = ds.length := by
  have hdc : ∀ i, dcode nameB (LB ds i) = if i < ds.length then 0 else 5 := fun i => by
    by_cases hi : i < ds.length
    · rw [if_pos hi, LB_in (List.getElem?_eq_getElem hi), dcode, thr, if_pos rfl]; rfl
    · rw [if_neg hi, LB_out (by omega)]; rfl
  have e : (yRs S (aq 4 nameB ⟨#[]⟩ N)).map (·.c) = (List.range N).map fun i => if i < ds.length then 0 else 5 := by
    rw [all_at h (by decide) (Nat.le_refl _), List.map_map]
    exact List.map_congr_left fun i _ => hdc i
  have hf : frs [5] ((List.range N).map fun i => if i < ds.length then (0 : Int) else 5) = 0 := frs_pass fun c hc => by
    obtain ⟨i, _, rfl⟩ := List.mem_map.1 hc
    split
    · exact .inl rfl
    · exact .inr (by simp)
  have hg : ∀ M, ds.length ≤ M → gds ((List.range M).map fun i => if i < ds.length then (0 : Int) else 5) = ds.length := by
    intro M hM
    induction M with
    | zero => simp [gds]; omega
    | succ M ih =>
      rw [List.range_succ, List.map_append, gds_app]
      by_cases hlt : ds.length ≤ M
      · rw [ih hlt]
        simp [gds, Nat.not_lt.2 hlt]
      · have hM' : ds.length = M + 1 := by omega
        have : gds ((List.range M).map fun i => if i < ds.length then (0 : Int) else 5) = M := by
          rw [gds_all]
          · simp
          · intro c hc
            obtain ⟨i, hi, rfl⟩ := List.mem_map.1 hc
            have := List.mem_range.1 hi
            rw [if_pos (by omega)]
        rw [this]
        simp [gds, hM']
  rw [e, dCs, hf, hg N hl]
  exact ⟨if_neg (fun h => by omega), rfl⟩
/-- What is told of the second one. -/
theorem back_none {q : Int} (h : QS q N S fun _ => []) : dCs ((yRs S (aq 4 nameB ⟨#[]⟩ N)).map (·.c)) = 5 := by
  have e : (yRs S (aq 4 nameB ⟨#[]⟩ N)).map (·.c) = (List.range N).map fun _ => 5 := by
    rw [all_at h (by decide) (Nat.le_refl _), List.map_map]
    exact List.map_congr_left fun i _ => rfl
  rw [e, dCs]
  exact if_pos ⟨frs_pass fun c hc => by obtain ⟨i, _, rfl⟩ := List.mem_map.1 hc; exact .inr (by simp), gds_none fun c hc => by obtain ⟨i, _, rfl⟩ := List.mem_map.1 hc; decide⟩
end
end Go.Proofs.Ytiecoplfiahpnaa

namespace Go.Proofs.Ytiecoplfiahpnaa
open Go.RowKit Go.Lib Go.Maps
section
variable {b : Nat} {C N : List RR → Int} {I T : List RR → List ByteArray} {L : List QT} {P Py : Nat → Prop} {w w' : World} {v : Value} {S : List SS} {bs : List (Nat × Nat)} {g : Nat}
/-- What a job that was run leaves. -/
structure RN9 (b : Nat) (C N : List RR → Int) (I T : List RR → List ByteArray) (L : List QT) (P Py : Nat → Prop) (w w' : World) (v : Value) (S : List SS) (bs : List (Nat × Nat)) : Prop where
  y : YP Py w' v (ySs S L) bs
  g : Gs (fun i => P i ∨ Py i) w w'
  f : ∃ P', FinR b C N I T (yRs S L) P' w' ∧ ∀ i, P' i → P i ∨ w.heap.size ≤ i
set_option maxRecDepth 100000 in
set_option maxHeartbeats 3200000 in
theorem run_job (hJ : JJ b (FinR b C N I T) L [] P w) (hY : YP Py w v S bs) (hap : ∀ i, P i → ¬ Py i) (hPy : ∀ i, Py i → i < w.heap.size) (hG : GD g S) (hg : g + L.length ≤ 1000) (hL : L.length ≤ 300) (hq : ∀ q ∈ L, q.n.size ≤ maxLen ∧ q.d.size ≤ maxLen) (hIl : (I (yRs S L)).length ≤ 1000000000000) (hTl : (T (yRs S L)).length ≤ 1000000000000) :
    Calls Try.prog 9 #[.pointer (some ⟨b, 0, none⟩), v] w fun e w' => ∃ ids tx, e = .returned (.tuple #[.agg #[.int .i64 (C (yRs S L)), .string ⟨#[]⟩, .int .i64 (N (yRs S L)), ids, tx, .slice none 0 0, .slice none 0 0], .bool true]) ∧ TS w.heap.size ids (I (yRs S L)) w' ∧ TS w.heap.size tx (T (yRs S L)) w' ∧ RN9 b C N I T L P Py w w' v S bs := by
  obtain ⟨U, hU⟩ : ∃ U, U = w.alloc (.cells #[.int .i64 0, .string ⟨#[]⟩, .int .i64 0, .slice none 0 0, .slice none 0 0, .slice none 0 0, .slice none 0 0] 35) := ⟨_, rfl⟩
  obtain ⟨X0, hX⟩ : ∃ X0, X0 = w.heap.size := ⟨_, rfl⟩
  have hBU : Below w.heap.size w U := by rw [hU]; exact (Below.refl _ _).alloc (Nat.le_refl _) _
  have hZ : R7 U X0 0 0 (.slice none 0 0) (.slice none 0 0) := by rw [hU, hX]; exact heap_alloc_new w _
  have hPl := hJ.lt
  have hJU : JJ b (FinR b C N I T) L [] P U := hJ.gs (p := fun i => w.heap.size ≤ i) (fkR b C N I T) (Gs.of_below _ hBU) (fun i hi hn => by have := hPl i hi; omega)
  have hUs := hBU.size
  have HR := hide (run_any (jobJ (L := L) (fkR b C N I T) (by omega)) (A := []) ⟨Nat.zero_le _, hJU⟩ (hY.bel hBU) hap (fun i hi => by have := hPy i hi; omega) hG hg (by simp [resI]) hq 300 (by decide))
  have HU := hide hU
  have HX := hide hX
  have HZ := hide (And.intro hBU hZ)
  have HP := hide (And.intro hPl (And.intro hPy (And.intro hIl (And.intro hTl hL))))
  clear hJ hY hap hPy hG hg hq hU hX hBU hZ hPl hJU hUs hIl hTl hL
  go_enter Try.func9, Try.ntmps9
  go_upto_region 1 with fail
  rw [← HU.out, ← HX.out]
  go_wp2_with fail
  refine HR.out.mono ?_
  rintro e w1 ⟨t, ht, rfl, Pj', hRU⟩
  obtain ⟨hPl, hPy, hIl, hTl, hL⟩ := HP.out
  have ht2 : t = L.length := by simp at ht; omega
  subst ht2
  have hc : (if ([] : List RR).length + L.length < L.length then (2 : Int) else 0) = 0 := by rw [if_neg (by simp)]
  rw [hc]
  have eL : (L.drop ([] : List RR).length).take L.length = L := by simp
  have hj := hRU.j
  have hy := hRU.y
  rw [eL, List.nil_append] at hj
  rw [eL] at hy
  have hj2 := hj.2
  rw [List.drop_eq_nil_of_le (by rw [yRs_len]; omega)] at hj2
  obtain ⟨hPb, hPl', ids0, tx0, hJB, hI0, hT0⟩ := hj2
  have HS := hide (result_any hJB hI0 hT0 hIl hTl)
  have HF1 := hide (And.intro hy (And.intro hRU.g (And.intro hRU.p (And.intro hPb (And.intro hJB (And.intro hI0 hT0))))))
  clear hj hy hJB hI0 hT0 hRU hPb hPl' hPl hPy hIl hTl hL eL hc ht
  go_wp2_with fail
  refine HS.out.mono ?_
  rintro e w2 ⟨ids, tx, rfl, h1, h2, hB2⟩
  obtain ⟨hy, hg, hp, hPb, hJB, hI0, hT0⟩ := HF1.out
  obtain ⟨hPl, hPy, _⟩ := HP.out
  obtain ⟨hBU, hZ⟩ := HZ.out
  have hX := HX.out
  have hUs := hBU.size
  have hXl := hZ.lt
  have hgs := hg.size
  have hB2s := hB2.size
  have hXP : ¬ (P X0 ∨ Py X0) := by
    rintro (h | h)
    · have := hPl _ h; omega
    · have := hPy _ h; omega
  have hZ2 : R7 w2 X0 0 0 (.slice none 0 0) (.slice none 0 0) := (hZ.gs hg hXP).bel hB2
  obtain ⟨ai, ci, hei⟩ := h1.shp
  obtain ⟨at_, ct, het⟩ := h2.shp
  have hrun := store_run (t := 35) (o := 0) hZ2 #[.int .i64 (C (yRs S L)), .string ⟨#[]⟩, .int .i64 (N (yRs S L)), ids, tx, .slice none 0 0, .slice none 0 0] (Nat.le_of_ble_eq_true rfl) Try.sizeR (by rw [hei, het]; simp [Value.oneCell'])
  obtain ⟨V, hV⟩ : ∃ V, V = w2.setCells X0 0 [.int .i64 (C (yRs S L)), .string ⟨#[]⟩, .int .i64 (N (yRs S L)), ids, tx, .slice none 0 0, .slice none 0 0] := ⟨_, rfl⟩
  have hRV : R7 V X0 (C (yRs S L)) (N (yRs S L)) ids tx := by
    have h1 := setCells_self [.int .i64 (C (yRs S L)), .string ⟨#[]⟩, .int .i64 (N (yRs S L)), ids, tx, .slice none 0 0, .slice none 0 0] 0 w2 _ hZ2
    rw [← hV] at h1
    simpa [putAll, R7] using h1
  simp only [] at hrun
  rw [← hV] at hrun
  have hGV : Gs (fun i => i = X0) w2 V := by rw [hV]; exact Gs.cells _ _ _ (Gs.refl _ _) (.inl rfl)
  have hVs := hGV.size
  have r0 : V.cell? ⟨X0, 0, none⟩ = some (.int .i64 (C (yRs S L))) := hRV.cell 0
  have r1 : V.cell? ⟨X0, 1, none⟩ = some (.string ⟨#[]⟩) := hRV.cell 1
  have r2 : V.cell? ⟨X0, 2, none⟩ = some (.int .i64 (N (yRs S L))) := hRV.cell 2
  have r3 : V.cell? ⟨X0, 3, none⟩ = some ids := hRV.cell 3
  have r4 : V.cell? ⟨X0, 4, none⟩ = some tx := hRV.cell 4
  have r5 : V.cell? ⟨X0, 5, none⟩ = some (.slice none 0 0) := hRV.cell 5
  have r6 : V.cell? ⟨X0, 6, none⟩ = some (.slice none 0 0) := hRV.cell 6
  have HE : Hid (TS w.heap.size ids (I (yRs S L)) V ∧ TS w.heap.size tx (T (yRs S L)) V ∧ RN9 b C N I T L P Py w V v S bs) := by
    have k1 := h1.lt
    have k2 := h2.lt
    have hXl1 : X0 < w1.heap.size := by omega
    have hXPj : ¬ Pj' X0 := fun h => by
      rcases hp X0 h with h | h
      · exact hXP (.inl h)
      · omega
    refine ⟨(h1.kb fun i hi => hGV.block i (k1 i hi).2 (by have := (k1 i hi).1; omega)).low (by omega), (h2.kb fun i hi => hGV.block i (k2 i hi).2 (by have := (k2 i hi).1; omega)).low (by omega), ?_, ?_, ?_⟩
    · exact (hy.bel hB2).gs hGV fun i hi e => hXP (.inr (e ▸ hi))
    · refine ((((Gs.of_below _ hBU).trans hg).bel hB2).tr2 (hGV.mono (q := fun i => w.heap.size ≤ i) fun i _ e => by omega) fun i hi e => by omega)
    · have hfin : FinR b C N I T (yRs S L) Pj' w1 := ⟨ids0, tx0, hJB, hI0, hT0⟩
      have h3 := (fkR b C N I T).gs (p := fun i => ¬ Pj' i) hfin (w' := V) (((Gs.refl _ _).bel hB2).trans (hGV.mono fun i _ e h => hXPj (e ▸ h))) hPb (fun i hi hn => hn hi)
      exact ⟨Pj', h3, fun i hi => by
        rcases hp i hi with h | h
        · exact .inl h
        · exact .inr (by omega)⟩
  clear hV hRV hGV hVs hy hg hp hPb hJB hI0 hT0 hPl hPy hBU hZ hX hUs hXl hgs hB2s hXP hZ2 h1 h2 hB2 HF1
  subst hei
  subst het
  generalize (I (yRs S L)).length = li at *
  generalize (T (yRs S L)).length = lt at *
  go_wp2_with (refine wpList_store_run rfl 35 _ _ rfl _ _ rfl rfl hrun ?_)
  exact bodyPost_ret (v := .tuple #[.agg #[.int .i64 (C (yRs S L)), .string ⟨#[]⟩, .int .i64 (N (yRs S L)), .slice ai li ci, .slice at_ lt ct, .slice none 0 0, .slice none 0 0], .bool true]) (by simp [results, Try.results9, go_sem, r0, r1, r2, r3, r4, r5, r6]) rfl ⟨_, _, rfl, HE.out⟩
end
/-- Pointers as cells. -/
def pz (b : Nat) : List Value := [.pointer (some ⟨b, 0, none⟩)]
theorem pz_len (b : Nat) : (pz b).length = 1 := rfl
theorem pz_one (b : Nat) : ∀ u ∈ pz b, u.oneCell' = true := by intro u hu; simp [pz] at hu; subst hu; rfl
theorem Try.infoPz : (Try.prog.info? 45).map (fun i => (i.zero, i.size, i.bytes)) = some (some (.pointer none), 1, 8) := by kernel_rfl
def sq (q : Int) : SS := ⟨q, 0, 0, false, []⟩
theorem sq_go (q : Int) (t : Nat) : GO t (sq q) := ⟨List.Pairwise.nil, fun p hp => by simp [sq] at hp, Nat.zero_le _, Int.le_refl _, by show (0 : Int) ≤ (t : Int); omega, by show (0 : Int) ≤ 1048576; omega⟩
/-- Stores that were made. -/
structure YB (q : Int) (w wr : World) (sv : Value) (bs : List (Nat × Nat)) : Prop where
  s : OW pz 1 45 w.heap.size sv (bs.map (·.1)) wr
  px : ∀ e ∈ bs, PX wr e.1 e.2 (sq q) ∧ w.heap.size ≤ e.1 ∧ w.heap.size ≤ e.2
  ap : ∀ (i j : Nat) (e f : Nat × Nat), bs[i]? = some e → bs[j]? = some f → i ≠ j → e.1 ≠ f.1 ∧ e.2 ≠ f.2
  be : Below w.heap.size w wr
theorem snocGet {α : Type} {l : List α} {x y : α} {i : Nat} (h : (l ++ [x])[i]? = some y) : (i < l.length ∧ l[i]? = some y) ∨ (i = l.length ∧ y = x) := by
  by_cases hi : i < l.length
  · rw [List.getElem?_append_left hi] at h; exact .inl ⟨hi, h⟩
  · rw [List.getElem?_append_right (by omega)] at h
    have : i - l.length = 0 := by
      have := (List.getElem?_eq_some_iff.1 h).1
      simp at this; omega
    rw [this] at h
    simp at h
    exact .inr ⟨by omega, h.symm⟩
section
variable {q : Int} {w wr w' : World} {sv : Value} {bs : List (Nat × Nat)}
theorem YB.bel (h : YB q w wr sv bs) (hb : Below wr.heap.size wr w') : YB q w w' sv bs :=
  ⟨h.s.keep hb, fun e he => ⟨PS.bel (h.px e he).1 hb, (h.px e he).2⟩, h.ap, h.be.trans (hb.mono h.be.size)⟩
theorem YB.yp (h : YB q w wr sv bs) : YP (fun i => w.heap.size ≤ i ∧ i < wr.heap.size) wr sv (List.replicate bs.length (sq q)) bs := by
  refine ⟨?_, by simp, ?_, ?_, h.ap⟩
  · obtain ⟨a, c, e, hc, hl | ⟨g, o, ea, hr, hg, hG⟩⟩ := h.s.ls (r := fun i => w.heap.size ≤ i ∧ i < wr.heap.size) pz_len (fun i hi => ⟨(h.s.lt i hi).1, (h.s.lt i hi).2⟩)
    · exact ⟨a, c, e, .inl hl⟩
    · refine ⟨a, c, e, .inr ⟨g, o, ea, hr, hg, fun i b hb => ?_⟩⟩
      have := hG i b hb 0 _ rfl
      rw [Nat.mul_one, Nat.add_zero] at this
      exact this
  · intro i e s he hs
    rw [List.getElem?_replicate] at hs
    split at hs
    · cases hs; exact (h.px e (List.mem_of_getElem? he)).1
    · cases hs
  · intro e he
    exact ⟨⟨(h.px e he).2.1, PS.lt (h.px e he).1⟩, ⟨(h.px e he).2.2, PS.mlt (h.px e he).1⟩⟩
/-- A store more. -/
theorem YB.more (h : YB q w wr sv bs) {b mb : Nat} (hX : PX wr b mb (sq q)) (hb : w.heap.size ≤ b) (hm : w.heap.size ≤ mb) (hd : ∀ e ∈ bs, e.1 ≠ b ∧ e.2 ≠ mb) (hl : bs.length ≤ 1000) :
    ∃ a c w', (Builtin.append_ #[30, 30] 30 #[sv, .slice (some ⟨wr.heap.size, 0, none⟩) 1 1]).run Try.prog (wr.alloc (.cells #[.pointer (some ⟨b, 0, none⟩)] 45)) = .ok (.slice a (bs.length + 1) c) w' ∧ YB q w w' (.slice a (bs.length + 1) c) (bs ++ [(b, mb)]) := by
  have hal : Below wr.heap.size wr (wr.alloc (.cells #[.pointer (some ⟨b, 0, none⟩)] 45)) := (Below.refl _ _).alloc (Nat.le_refl _) _
  have h' := h.bel hal
  have hws := h.be.size
  obtain ⟨v', w1, h1, h2, h3, h4⟩ := OW.app (ST := 30) pz_len (by decide) (fun x _ => pz_one x) Try.underlying30 Try.infoPz rfl h'.s (LS.one b 45 wr pz 1 (fun _ => True) trivial) (by simp; omega) (by simp; omega) (by simp; omega)
  obtain ⟨a, c, e⟩ := h2.shp
  have hle : ((bs.map (·.1)) ++ [b]).length = bs.length + 1 := by simp
  rw [hle] at e
  subst e
  have hsl := h'.s.lt
  have hst := h'.s.typ
  have hBw : Below w.heap.size w w1 := h'.be.grown h3 (by simp; omega) (fun k hk => (hsl k hk).1)
  refine ⟨a, c, w1, h1, ?_, ?_, ?_, hBw⟩
  · rw [List.map_append]; exact h2
  · have hpk : ∀ e : Nat × Nat, PX (wr.alloc (.cells #[.pointer (some ⟨b, 0, none⟩)] 45)) e.1 e.2 (sq q) → PX w1 e.1 e.2 (sq q) := fun e hX => by
      have hX' : PS _ e.1 e.2 (sq q).q (sq q).f (sq q).off (sq q).m (sq q).L := hX
      have g1 : Gs (fun i => sv.ownBlock = some i) (wr.alloc (.cells #[.pointer (some ⟨b, 0, none⟩)] 45)) w1 := ⟨h3.os, h3.tape, h3.output, h3.size, fun i hi hn => h3.block i hi (fun e => hn e.symm)⟩
      refine PS.gs hX' g1 (fun e' => ?_) (fun e' => ?_)
      · obtain ⟨c1, q1⟩ := hst _ e'
        rw [hX'.blk] at q1
        simp at q1
      · obtain ⟨c1, q1⟩ := hst _ e'
        exact hX'.map.notCells q1
    intro e he
    rcases List.mem_append.1 he with he | he
    · exact ⟨hpk e (h'.px e he).1, (h.px e he).2⟩
    · simp at he
      subst he
      exact ⟨hpk _ (PS.bel hX hal), hb, hm⟩
  · intro i j e f he hf hij
    rcases snocGet he with ⟨hi, he⟩ | ⟨hi, he⟩ <;> rcases snocGet hf with ⟨hj, hf⟩ | ⟨hj, hf⟩
    · exact h.ap i j e f he hf hij
    · subst hf; exact hd e (List.mem_of_getElem? he)
    · subst he; have := hd f (List.mem_of_getElem? hf); exact ⟨fun q => this.1 q.symm, fun q => this.2 q.symm⟩
    · omega
set_option maxRecDepth 100000 in
set_option maxHeartbeats 3200000 in
theorem yard_any (n : Nat) (hn : n ≤ 1000) (w : World) : Calls Try.prog 8 #[.int .i64 (n : Int)] w fun e w' => ∃ a c bs, e = .returned (.slice a n c) ∧ YB 1048576 w w' (.slice a n c) bs ∧ bs.length = n := by
  go_enter Try.func8, Try.ntmps8
  go_wp2
  go_loopw [3, 7] (fun sv i wr => ∃ (j : Nat) (bs : List (Nat × Nat)), j ≤ n ∧ i = .int .i64 j ∧ bs.length = j ∧ YB 1048576 w wr sv bs) (fun _ i _ => n - (intOf i).toNat)
  case atStart => exact ⟨0, [], by omega, rfl, rfl, ⟨OW.nil _ _ _ _ _, fun e he => by simp at he, fun i j e f he => by simp at he, Below.refl _ _⟩⟩
  case round =>
    obtain ⟨j, bs, hj, rfl, hbl, hB⟩ := hrel
    obtain ⟨asv, csv, hsv⟩ := hB.s.shp
    rw [List.length_map, hbl] at hsv
    subst hsv
    have HB := hide hB
    have HL := hide hbl
    clear hB hbl
    by_cases hlt : j < n
    · have b1 : (j : Int) < (n : Int) := by omega
      have HN := hide (new_ok 1048576 wr (by decide) (by decide))
      go_wp2_with fail
      refine HN.out.mono ?_
      rintro e w1 ⟨rfl, hP1, hB1⟩
      have hX1 : PX w1 (wr.heap.size + 1) wr.heap.size (sq 1048576) := hP1
      have hws := HB.out.be.size
      have hlt1 : ∀ e ∈ bs, e.1 < wr.heap.size ∧ e.2 < wr.heap.size := fun e he => ⟨PS.lt (HB.out.px e he).1, PS.mlt (HB.out.px e he).1⟩
      obtain ⟨a3, c3, w3, hr3, hY3⟩ := (HB.out.bel hB1).more hX1 (by omega) hws (fun e he => by have := hlt1 e he; omega) (by have := HL.out; omega)
      rw [HL.out] at hr3 hY3
      have HE := hide hY3
      clear hP1 hB1 hX1 hws hlt1 hY3
      go_wp2_with (at_builtin; refine Lib.wpList_append_run _ rfl _ _ _ _ rfl _ _ rfl rfl _ _ hr3 ?_)
      exact ⟨⟨j + 1, bs ++ [(wr.heap.size + 1, wr.heap.size)], by omega, by go_num, by simp [HL.out], HE.out⟩, by simp [intOf]; omega⟩
    · obtain rfl : j = n := by omega
      go_wp2
      go_ret
      exact ⟨_, _, bs, rfl, HB.out, HL.out⟩
end
end Go.Proofs.Ytiecoplfiahpnaa

namespace Go.Proofs.Ytiecoplfiahpnaa
open Go.RowKit Go.Lib Go.Maps
def wS : List SS := List.replicate 2 (sq 1048576)
def wL : List QT := pqn ⟨#[97]⟩ [⟨#[120]⟩, ⟨#[121]⟩]
theorem wR : yRs wS wL = [⟨0, ⟨#[]⟩, []⟩, ⟨0, ⟨#[]⟩, []⟩] := by kernel_rfl
theorem wLl : wL.length = 2 := by kernel_rfl
theorem wC : gC (okn (([⟨#[120]⟩, ⟨#[121]⟩] : List ByteArray).length : Int)) [] [⟨0, ⟨#[]⟩, []⟩, ⟨0, ⟨#[]⟩, []⟩] = 0 := by kernel_rfl
theorem wN : gN [⟨0, ⟨#[]⟩, []⟩, ⟨0, ⟨#[]⟩, []⟩] = 2 := by kernel_rfl
set_option maxRecDepth 100000 in
set_option maxHeartbeats 3200000 in
theorem works9 (w : World) : Calls Try.prog 7 #[] w fun e w' => e = .returned (.bool true) ∧ Below w.heap.size w w' := by
  have HY := hide (yard_any 2 (by decide) w)
  go_enter Try.func7, Try.ntmps7
  go_wp2_with fail
  refine HY.out.mono ?_
  rintro e w1 ⟨a, c, bs, rfl, hY, hbl⟩
  have hyp := hY.yp
  rw [hbl] at hyp
  obtain ⟨a', c', e0, h0 | ⟨g0, o0, ea, _⟩⟩ := hyp.rp
  · have := congrArg List.length h0
    simp [hbl] at this
  obtain ⟨rfl, -, rfl⟩ : a = a' ∧ _ ∧ c = c' := by simpa using e0
  subst ea
  have k1 := sl_eq Try.underlying30
  obtain ⟨W2, hW2⟩ : ∃ W2, W2 = w1.alloc (.cells #[.string ⟨#[120]⟩, .string ⟨#[121]⟩] 9) := ⟨_, rfl⟩
  have hB2 : Below w1.heap.size w1 W2 := by rw [hW2]; exact (Below.refl _ _).alloc (Nat.le_refl _) _
  have hd : LS t1 1 (fun _ => True) W2 (.slice (some ⟨w1.heap.size, 0, none⟩) 2 2) [⟨#[120]⟩, ⟨#[121]⟩] := by
    have hblk : W2.heap[w1.heap.size]? = some (.cells #[.string ⟨#[120]⟩, .string ⟨#[121]⟩] 9 (0, 0)) := by rw [hW2]; exact heap_alloc_new w1 _
    refine ⟨_, _, rfl, (fun e => by cases e), .inr ⟨w1.heap.size, 0, rfl, trivial, lt_of_block hblk, ?_⟩⟩
    intro i x hx j u hu
    rw [cell_of_row _ _ _ _ _ _ hblk]
    have hj : j = 0 := by
      have := (List.getElem?_eq_some_iff.1 hu).1
      rw [t1_len] at this; omega
    subst hj
    have hi : i = 0 ∨ i = 1 := by
      have := (List.getElem?_eq_some_iff.1 hx).1
      simp at this; omega
    rcases hi with rfl | rfl <;> simp at hx <;> subst hx <;> simpa [t1] using hu
  have HP := hide (putjob_any (nm := ⟨#[97]⟩) hd (by simp))
  have HW := hide hW2
  have HF1 := hide (And.intro hyp (And.intro hY.be hB2))
  clear hY hyp hbl e0 hW2 hB2 hd
  go_upto_region 4 with fail
  go_wp2_with fail
  rw [← HW.out]
  refine HP.out.mono ?_
  rintro e w3 ⟨b, P, rfl, hJ, hB3, hP⟩
  obtain ⟨hyp, hbe, hB2⟩ := HF1.out
  have hs2 := hB2.size
  have hs1 := hbe.size
  have hR := run_job hJ ((hyp.bel hB2).bel hB3) (fun i hi h => by have := hP i hi; omega) (fun i hi => by have := hB3.size; omega) (g := 0) (fun s hs => by
    have : s = sq 1048576 := (List.mem_replicate.1 hs).2
    rw [this]; exact sq_go _ _) (by have := wLl; unfold wL at this; omega) (by have := wLl; unfold wL at this; omega) (by
      intro q hq
      have : q = ⟨0, 1, ⟨#[97]⟩, ⟨#[120]⟩⟩ ∨ q = ⟨1, 1, ⟨#[97]⟩, ⟨#[121]⟩⟩ := by simpa [pqn, pq] using hq
      rcases this with rfl | rfl <;> exact ⟨by decide, by decide⟩) (by simp [noT]) (by simp [noT])
  have eR : yRs (List.replicate 2 (sq 1048576)) (pqn ⟨#[97]⟩ [⟨#[120]⟩, ⟨#[121]⟩]) = [⟨0, ⟨#[]⟩, []⟩, ⟨0, ⟨#[]⟩, []⟩] := wR
  have hR2 := hR
  rw [eR, wC, wN] at hR2
  have HR := hide hR2
  have HF2 := hide (And.intro hbe (And.intro hB2 (And.intro hB3 hP)))
  clear hyp hbe hB2 hs2 hs1 hJ hB3 hP hR hR2 eR
  go_wp2_with fail
  refine HR.out.mono ?_
  rintro e w4 ⟨ids, tx, rfl, hI, hT, hRN⟩
  obtain ⟨P', ⟨ids0, tx0, hJB, _, _⟩, _⟩ := hRN.f
  have e2 : ((yRs (List.replicate 2 (sq 1048576)) (pqn ⟨#[97]⟩ [⟨#[120]⟩, ⟨#[121]⟩])).length : Int) = 2 := by rw [show yRs (List.replicate 2 (sq 1048576)) (pqn ⟨#[97]⟩ [⟨#[120]⟩, ⟨#[121]⟩]) = _ from wR]; rfl
  rw [e2] at hJB
  obtain ⟨ai, ci, hei⟩ := hI.shp
  obtain ⟨at_, ct, het⟩ := hT.shp
  subst hei
  subst het
  obtain ⟨W5, hW5⟩ : ∃ W5, W5 = w4.alloc (.cells #[.int .i64 0, .string ⟨#[]⟩, .int .i64 2, .slice ai 0 ci, .slice at_ 0 ct, .slice none 0 0, .slice none 0 0] 35) := ⟨_, rfl⟩
  have hB5 : Below w4.heap.size w4 W5 := by rw [hW5]; exact (Below.refl _ _).alloc (Nat.le_refl _) _
  have h5 : R7 W5 w4.heap.size 0 2 (.slice ai 0 ci) (.slice at_ 0 ct) := by rw [hW5]; exact heap_alloc_new w4 _
  have y0 : W5.cell? ⟨w4.heap.size, 0, none⟩ = some (.int .i64 0) := h5.cell 0
  have y2 : W5.cell? ⟨w4.heap.size, 2, none⟩ = some (.int .i64 2) := h5.cell 2
  have HS := hide (steps_any (hJB.bel hB5))
  have HE : Hid (Below w.heap.size w W5) := by
    obtain ⟨hbe, hB2, hB3, hP⟩ := HF2.out
    have s1 := hbe.size
    have s2 := hB2.size
    have s3 := hB3.size
    have hb3 : Below w.heap.size w w3 := hbe.trans ((hB2.trans (hB3.mono s2)).mono s1)
    have hb4 : Below w.heap.size w w4 := hRN.g.below hb3 hb3.size fun i hi => by
      rcases hi with h | h
      · have := hP i h; omega
      · omega
    exact hb4.trans (hB5.mono hb4.size)
  have HW5 := hide hW5
  clear hI hT hRN hJB e2 hW5 hB5 h5
  go_upto_region 6 with fail
  have hli : (noT [⟨0, ⟨#[]⟩, []⟩, ⟨0, ⟨#[]⟩, []⟩]).length = 0 := rfl
  rw [hli, ← HW5.out]
  go_wp2_with (go_at_call 16; refine HS.out.mono ?_; rintro e w6 ⟨rfl, rfl⟩)
  go_ret
  exact ⟨rfl, HE.out⟩
end Go.Proofs.Ytiecoplfiahpnaa

namespace Go.Proofs.Ytiecoplfiahpnaa
open Go.RowKit Go.Lib Go.Maps
/-- Where a yard stands: its stores, and what lay there when it was made. -/
structure YA (wy w : World) (Py : Nat → Prop) (v : Value) (S : List SS) (bs : List (Nat × Nat)) (g : Nat) : Prop where
  y : YP Py w v S bs
  l : ∀ i, Py i → i < wy.heap.size
  s : wy.heap.size ≤ w.heap.size
  d : GD g S
section
variable {wy w w1 w' : World} {Py P : Nat → Prop} {v : Value} {S : List SS} {bs : List (Nat × Nat)} {g b : Nat} {C N : List RR → Int} {I T : List RR → List ByteArray} {L : List QT}
theorem YA.bel (h : YA wy w Py v S bs g) (hb : Below w.heap.size w w') : YA wy w' Py v S bs g := ⟨h.y.bel hb, h.l, Nat.le_trans h.s hb.size, h.d⟩
/-- A job that was made is run. -/
theorem YA.run (h : YA wy w Py v S bs g) (hB : Below w.heap.size w w1) (hJ : JJ b (FinR b C N I T) L [] P w1) (hP : ∀ i, P i → w.heap.size ≤ i) (hg : g + L.length ≤ 1000) (hL : L.length ≤ 300) (hq : ∀ q ∈ L, q.n.size ≤ maxLen ∧ q.d.size ≤ maxLen) (hIl : (I (yRs S L)).length ≤ 1000000000000) (hTl : (T (yRs S L)).length ≤ 1000000000000) :
    Calls Try.prog 9 #[.pointer (some ⟨b, 0, none⟩), v] w1 fun e w' => ∃ ids tx, e = .returned (.tuple #[.agg #[.int .i64 (C (yRs S L)), .string ⟨#[]⟩, .int .i64 (N (yRs S L)), ids, tx, .slice none 0 0, .slice none 0 0], .bool true]) ∧ TS w.heap.size ids (I (yRs S L)) w' ∧ TS w.heap.size tx (T (yRs S L)) w' ∧ YA wy w' Py v (ySs S L) bs (g + L.length) ∧ Gs Py w w' := by
  have hs := h.s
  have hBs := hB.size
  refine (run_job hJ (h.y.bel hB) (fun i hi hp => by have := hP i hi; have := h.l i hp; omega) (fun i hi => by have := h.l i hi; omega) h.d hg hL hq hIl hTl).mono ?_
  rintro e w' ⟨ids, tx, rfl, h1, h2, hR⟩
  have hgs := hR.g.size
  refine ⟨ids, tx, rfl, h1.low hBs, h2.low hBs, ⟨hR.y, h.l, by omega, GD.steps L h.d⟩, ?_⟩
  exact ⟨hR.g.os.trans hB.os, hR.g.tape.trans hB.tape, hR.g.output.trans hB.output, Nat.le_trans hBs hgs, fun i hi hn => (hR.g.block i (by omega) (fun e => by
    rcases e with e | e
    · have := hP i e; omega
    · exact hn e)).trans (hB.block i hi)⟩
/-- A text's list that a job has told stays. -/
theorem TS.ya {B : Nat} {x : Value} {l : List ByteArray} (h : TS B x l w) (hg : Gs Py w w') (hB : ∀ i, Py i → i < B) : TS B x l w' := h.kb fun i hi => hg.block i (h.lt i hi).2 (fun e => by have := hB i e; have := (h.lt i hi).1; omega)
theorem R7.ya {X : Nat} {c n : Int} {i t : Value} (h : R7 w X c n i t) (hg : Gs Py w w') (hX : ¬ Py X) : R7 w' X c n i t := h.gs hg hX
end
/-- A result in a box. -/
structure RX (wy W : World) (X : Nat) (c n : Int) (ids tx : Value) (I T : List ByteArray) : Prop where
  r : R7 W X c n ids tx
  le : wy.heap.size ≤ X
  i : TS wy.heap.size ids I W
  t : TS wy.heap.size tx T W
section
variable {wy Wp W w1 : World} {X : Nat} {c n : Int} {ids tx : Value} {I T : List ByteArray} {Py : Nat → Prop}
theorem RX.next (h : RX wy Wp X c n ids tx I T) (hG : Gs Py Wp W) (hl : ∀ i, Py i → i < wy.heap.size) : RX wy W X c n ids tx I T :=
  ⟨h.r.ya hG (fun e => by have := hl X e; have := h.le; omega), h.le, h.i.ya hG hl, h.t.ya hG hl⟩
theorem RX.bel (h : RX wy Wp X c n ids tx I T) (hB : Below Wp.heap.size Wp W) : RX wy W X c n ids tx I T := ⟨h.r.bel hB, h.le, h.i.keep hB, h.t.keep hB⟩
theorem RX.new {B : Nat} (hB : wy.heap.size ≤ B) (hw : wy.heap.size ≤ w1.heap.size) (h1 : TS B ids I w1) (h2 : TS B tx T w1) : RX wy (w1.alloc (.cells #[.int .i64 c, .string ⟨#[]⟩, .int .i64 n, ids, tx, .slice none 0 0, .slice none 0 0] 35)) w1.heap.size c n ids tx I T := by
  have hb : Below w1.heap.size w1 (w1.alloc (.cells #[.int .i64 c, .string ⟨#[]⟩, .int .i64 n, ids, tx, .slice none 0 0, .slice none 0 0] 35)) := (Below.refl _ _).alloc (Nat.le_refl _) _
  exact ⟨heap_alloc_new w1 _, hw, (h1.low hB).keep hb, (h2.low hB).keep hb⟩
end
end Go.Proofs.Ytiecoplfiahpnaa
