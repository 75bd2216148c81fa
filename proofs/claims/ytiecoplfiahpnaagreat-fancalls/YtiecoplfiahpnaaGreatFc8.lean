/-
  Contracts of the program and of the statements (part 8 of 13).
-/
import Derived.Test.YtiecoplfiahpnaaGreatFc7

namespace Go.Proofs.YtiecoplfiahpnaaGreat
open Go.RowKit Go.Lib Go.Maps
theorem fe_c : FE 104 := FE.of Tryz.underlying104
theorem ent_of {f : FuncId} {fn : Func} {c : Code} (hf : Tryz.prog.funcs[f]? = some fn) (hname : (fn.name == "runtime.NumGoroutine") = false) (hb : fn.body = some c) : Ent f := fun args w => by
  have h1 : fn.name ≠ "runtime.NumGoroutine" := by simpa using hname
  simp [callFunc, hf, h1, hb]
section
variable {F : FuncId} {fi ca : Array Value} {w W : World} {b c1 : Nat} {v av : Value} {r p : Nat → Prop} {X : List (RR × Value)} {a : Option Addr} {n c : Nat} {Q : World → Prop}
set_option maxRecDepth 100000 in
set_option maxHeartbeats 3200000 in
theorem ask_yes {fn : Fn} (hn : 0 < n) (HA : Calls Tryz.prog 96 #[.pointer (some ⟨b, 0, none⟩), .slice a n c, .func fn fi ca] w fun e w' => e = .returned (.tuple #[]) ∧ Q w') :
    Calls Tryz.prog 80 #[.pointer (some ⟨b, 0, none⟩), .slice a n c, .func fn fi ca] w fun e w' => e = .returned (.tuple #[]) ∧ Q w' := by
  have HH := hide HA
  have h1 : (n : Int) > 0 := by omega
  clear HA
  go_enter Tryz.func80, Tryz.ntmps80
  go_wp2_with fail
  refine HH.out.mono ?_
  rintro e w1 ⟨rfl, hF⟩
  have HF := hide hF
  clear hF
  go_wp2
  go_end0
  exact ⟨rfl, HF.out⟩
set_option maxRecDepth 100000 in
set_option maxHeartbeats 3200000 in
theorem ask_no (hent : Ent F) (HA : Calls Tryz.prog F (fi.push (.slice none 0 0) ++ ca) w fun e w' => e = .returned (.tuple #[]) ∧ Q w') :
    Calls Tryz.prog 80 #[.pointer (some ⟨b, 0, none⟩), .slice none 0 0, .func (.func F) fi ca] w fun e w' => e = .returned (.tuple #[]) ∧ Q w' := by
  have HH := hide HA
  obtain ⟨g1, g2, g3, g4⟩ := fe79
  unfold Ent at hent
  clear HA
  go_enter Tryz.func80, Tryz.ntmps80
  go_wp2_with fail
  refine HH.out.mono ?_
  rintro e w1 ⟨rfl, hF⟩
  have HF := hide hF
  clear hF
  go_wp2
  go_end0
  exact ⟨rfl, HF.out⟩
set_option maxRecDepth 100000 in
theorem byCodes_any {fn : Fn} : Calls Tryz.prog 81 #[.func fn fi ca] w fun e w' => e = .returned (.func (.func 97) #[] #[.pointer (some ⟨w.heap.size, 0, none⟩)]) ∧ w' = w.alloc (.cells #[.func fn fi ca] 104) := by
  have hmf : ∀ (fn : Fn) (first cap : Array Value) (w : World), (Instr.makeFunc fn first cap).run Tryz.prog w = .ok (.func fn first cap) w := fun _ _ _ _ => rfl
  obtain ⟨g1, g2, g3, g4⟩ := fe_c
  go_enter Tryz.func81, Tryz.ntmps81
  go_wp2
  go_ret
  exact ⟨rfl, rfl⟩
set_option maxRecDepth 100000 in
set_option maxHeartbeats 3200000 in
theorem byCodes1_any (hent : Ent F) (hc : W.heap[c1]? = some (.cells #[.func (.func F) fi ca] 104 (0, 0))) (hL : LS x3 3 r W av X) (hS : ∀ x ∈ X, ∃ a n c, x.2 = .slice a n c) (hn : X.length ≤ 1000000) (hp : ¬ p c1)
    (HC : ∀ W1 cv, OW _root_.Go.Proofs.YtiecoplfiahpnaaGreat.c1 1 26 W.heap.size cv (X.map (·.1.c)) W1 → Below W.heap.size W W1 → Calls Tryz.prog F (fi.push cv ++ ca) W1 fun e w' => e = .returned (.tuple #[]) ∧ Gs p W1 w' ∧ Q w') :
    Calls Tryz.prog 97 #[av, .pointer (some ⟨c1, 0, none⟩)] W fun e w' => e = .returned (.tuple #[]) ∧ Gs p W w' ∧ Q w' := by
  have y1 : W.cell? ⟨c1, 0, none⟩ = some (.func (.func F) fi ca) := by simp [World.cell?, hc]
  have HT := hide (codesOf_any (w := W.drew) hL hS hn)
  have HE : Hid (∀ W1 cv, OW _root_.Go.Proofs.YtiecoplfiahpnaaGreat.c1 1 26 W.drew.heap.size cv (X.map (·.1.c)) W1 → Below W.drew.heap.size W.drew W1 → Calls Tryz.prog F (fi.push cv ++ ca) W1 fun e w' => e = .returned (.tuple #[]) ∧ w'.cell? ⟨c1, 0, none⟩ = some (.func (.func F) fi ca) ∧ Hid (Gs p W w' ∧ Q w')) := fun W1 cv hO hB => by
    have hB' : Below W.heap.size W W1 := ⟨hB.os, hB.tape, hB.output, hB.size, hB.block⟩
    refine (HC W1 cv hO hB').mono ?_
    rintro e w' ⟨rfl, hG, hQ⟩
    have hG' : Gs p W w' := (Gs.of_below _ hB').trans hG
    exact ⟨rfl, by simp [World.cell?, hG'.block c1 (lt_of_block hc) hp, hc], hG', hQ⟩
  have HK : Hid (∀ w1, Below W.drew.heap.size W.drew w1 → w1.cell? ⟨c1, 0, none⟩ = some (.func (.func F) fi ca)) := fun w1 hb => (hb.cell (p := ⟨c1, 0, none⟩) (lt_of_block hc)).trans y1
  unfold Ent at hent
  clear hc hL hS hn hp HC
  go_enter Tryz.func97, Tryz.ntmps97
  go_upto_region 0 with fail
  go_region_held3 (fun w' => w'.cell? ⟨c1, 0, none⟩ = some (.func (.func F) fi ca)) (first | assumption)
    (first | (go_at_call 64; refine HT.out.mono ?_; rintro e w1 ⟨cv, rfl, hT1, hB1⟩; have k1 := HK.out w1 hB1) | (refine (HE.out _ _ (by assumption) (by assumption)).mono ?_; rintro e w2 ⟨rfl, k2, hF⟩))
  all_goals (go_wp2; go_end0; exact ⟨rfl, hF.out⟩)
end
end Go.Proofs.YtiecoplfiahpnaaGreat

namespace Go.Proofs.YtiecoplfiahpnaaGreat
open Go.RowKit Go.Lib Go.Maps
section
variable {F : FuncId} {fi ca : Array Value} {b : Nat} {Fin : List RR → (Nat → Prop) → World → Prop} {N : Nat} {l rest : List QT} {A0 : List RR} {e m r r0 : Nat → Prop} {w w0 w2 : World} {v : Value} {nm : ByteArray}
/-- What is done with the codes. -/
def KC (F : FuncId) (fi ca : Array Value) (b : Nat) (Fin : List RR → (Nat → Prop) → World → Prop) (n : Nat) (rest : List QT) (A0 : List RR) (e m : Nat → Prop) (w0 : World) : Prop :=
  ∀ (W : World) (cv : Value) (A : List RR) (r : Nat → Prop), Sm e w0 W → JB W b true 0 0 ⟨#[]⟩ ⟨#[]⟩ .nilFunc 0 0 (.slice none 0 0) (.slice none 0 0) ((A0.length + n : Nat) : Int) → LS c1 1 r W cv (A.map (·.c)) → A.length = n → (resI (A0 ++ A)).length ≤ 1000000000000 → (∀ i, r i → w0.heap.size ≤ i ∧ i < W.heap.size) →
    Calls Tryz.prog F (fi.push cv ++ ca) W fun er w' => er = .returned (.tuple #[]) ∧ Gs (fun i => i = b ∨ m i) W w' ∧ RDY b (fun w2 => ∃ P', JJ b Fin rest (A0 ++ A) P' w2 ∧ Gs (fun i => i = b ∨ m i) W w2 ∧ ∀ i, P' i → i = b ∨ e i ∨ r i ∨ W.heap.size ≤ i) w'
theorem KO.bel (h : KO F fi ca b Fin N rest A0 e m w0) (hb : Below w0.heap.size w0 w) : KO F fi ca b Fin N rest A0 e m w := by
  intro W av X r hS hJ hL hN hX hI hsm hr
  have hs := hb.size
  exact h W av X r (((Sm.refl e w0).bel hb).trans hS) hJ hL hN hX hI hsm fun i hi => ⟨by have := (hr i hi).1; omega, (hr i hi).2⟩
theorem KO.more {e' : Nat → Prop} (h : KO F fi ca b Fin N rest A0 e m w0) (he : ∀ i, e i → e' i) : KO F fi ca b Fin N rest A0 e' m w0 := by
  intro W av X r hS hJ hL hN hX hI hsm hr
  refine (h W av X r (hS.mono he) hJ hL hN hX hI hsm hr).mono ?_
  rintro er w' ⟨rfl, hG, hR⟩
  refine ⟨rfl, hG, hR.mono ?_⟩
  rintro w2 ⟨P', h1, h2, h3⟩
  refine ⟨P', h1, h2, fun i hi => ?_⟩
  rcases h3 i hi with h | h | h | h
  · exact .inl h
  · exact .inr (.inl (he i h))
  · exact .inr (.inr (.inl h))
  · exact .inr (.inr (.inr h))
theorem ent_bc1 : Ent 97 := ent_of Tryz.func97 (by kernel_rfl) rfl
theorem ko_codes (hent : Ent F) (HK : KC F fi ca b Fin N rest A0 e m w) (hN : N ≤ 1000000) (hb : Below w.heap.size w w2) (heb : b < w.heap.size) (hme : ∀ i, m i → e i) (hel : ∀ i, e i → i < w.heap.size) :
    KO 97 #[] #[.pointer (some ⟨w2.heap.size, 0, none⟩)] b Fin N rest A0 (fun i => e i ∨ i = w2.heap.size) m (w2.alloc (.cells #[.func (.func F) fi ca] 104)) := by
  intro W av X r hS hJ hL hNm hX hI _ hr
  have hs := hb.size
  have hc : W.heap[w2.heap.size]? = some (.cells #[.func (.func F) fi ca] 104 (0, 0)) := (hS.2 w2.heap.size (.inr rfl) (by simp)).trans (heap_alloc_new w2 _)
  have hWs := hS.1
  have hb2 : Below w.heap.size w (w2.alloc (.cells #[.func (.func F) fi ca] 104)) := hb.alloc hs _
  have hSe : Sm e w W := ((Sm.refl e w).bel hb2).trans (hS.mono fun i hi => .inl hi)
  show Calls Tryz.prog 97 #[av, .pointer (some ⟨w2.heap.size, 0, none⟩)] W _
  refine byCodes1_any (p := fun i => i = b ∨ m i) hent hc hL (fun x hx => by obtain ⟨a, c, e⟩ := (hNm x hx).shp; exact ⟨a, _, c, e⟩) (by omega) ?_ ?_
  · rintro (h | h)
    · omega
    · have := hel _ (hme _ h); omega
  intro W1 cv hO hB
  have hOl := hO.lt
  have hBs := hB.size
  have e1 : X.map (·.1.c) = (X.map (·.1)).map (·.c) := by rw [List.map_map]; rfl
  refine (HK W1 cv (X.map (·.1)) (fun i => cv.ownBlock = some i) (hSe.bel hB) (hJ.bel hB) (by rw [← e1]; exact hO.ls c1_len fun i hi => hi) (by simpa using hX) hI (fun i hi => ⟨?_, (hOl i hi).2⟩)).mono ?_
  · have := (hOl i hi).1; simp at hWs; omega
  rintro er w' ⟨rfl, hG, hR⟩
  refine ⟨rfl, hG, hR.mono ?_⟩
  rintro w3 ⟨P', h1, h2, h3⟩
  refine ⟨P', h1, (Gs.of_below _ hB).trans h2, fun i hi => ?_⟩
  rcases h3 i hi with h | h | h | h
  · exact .inl h
  · exact .inr (.inl (.inl h))
  · exact .inr (.inr (.inr (hOl i h).1))
  · exact .inr (.inr (.inr (by omega)))
/-- What a call of fan leaves: the job asks l, and then what is left. -/
def PO (g : Prop) (b : Nat) (Fin : List RR → (Nat → Prop) → World → Prop) (L : List QT) (A0 : List RR) (e p : Nat → Prop) (w w' : World) : Prop :=
  Gs p w w' ∧ RDY b (fun w2 => ∃ P', JJ b Fin L A0 P' w2 ∧ Gs p w w2 ∧ (∀ i, P' i → i = b ∨ e i ∨ w.heap.size ≤ i) ∧ (g → NT P' w2)) w'
theorem PO.weak {g g' : Prop} {p : Nat → Prop} {w' : World} (h : PO g b Fin l A0 e p w w') (hg : g' → g) : PO g' b Fin l A0 e p w w' := by
  refine ⟨h.1, h.2.mono ?_⟩
  rintro w2 ⟨P', h1, h2, h3, h4⟩
  exact ⟨P', h1, h2, h3, fun x => h4 (hg x)⟩
theorem PO.bel {g : Prop} {p : Nat → Prop} {w1 w' : World} (h : PO g b Fin l A0 e p w1 w') (hb : Below w.heap.size w w1) : PO g b Fin l A0 e p w w' := by
  have hs := hb.size
  refine ⟨(Gs.of_below _ hb).trans h.1, h.2.mono ?_⟩
  rintro w2 ⟨P', h1, h2, h3, h4⟩
  refine ⟨P', h1, (Gs.of_below _ hb).trans h2, fun i hi => ?_, h4⟩
  rcases h3 i hi with h | h | h
  · exact .inl h
  · exact .inr (.inl h)
  · exact .inr (.inr (by omega))
theorem PO.less {g : Prop} {p : Nat → Prop} {w' : World} {e' : Nat → Prop} (h : PO g b Fin l A0 e' p w w') (he : ∀ i, e' i → e i ∨ w.heap.size ≤ i) : PO g b Fin l A0 e p w w' := by
  refine ⟨h.1, h.2.mono ?_⟩
  rintro w2 ⟨P', h1, h2, h3, h4⟩
  refine ⟨P', h1, h2, fun i hi => ?_, h4⟩
  rcases h3 i hi with h | h | h
  · exact .inl h
  · rcases he i h with h | h
    · exact .inr (.inl h)
    · exact .inr (.inr h)
  · exact .inr (.inr h)
theorem PO.more {g : Prop} {p p' : Nat → Prop} {w' : World} (h : PO g b Fin l A0 e p w w') (hp : ∀ i, p i → p' i) : PO g b Fin l A0 e p' w w' := by
  refine ⟨h.1.mono fun i _ hi => hp i hi, h.2.mono ?_⟩
  rintro w2 ⟨P', h1, h2, h3, h4⟩
  exact ⟨P', h1, h2.mono fun i _ hi => hp i hi, h3, h4⟩
/-- Requests that are asked, none too. -/
theorem asks (hent : Ent F) (hJ : JB w b true 0 0 ⟨#[]⟩ ⟨#[]⟩ .nilFunc 0 0 (.slice none 0 0) (.slice none 0 0) (A0.length : Int)) (hv : LS q4 4 r0 w v l) (hz : l = [] → v = .slice none 0 0) (hl : l.length ≤ 1000000) (hI0 : (resI A0).length ≤ 1000000000000) (HK : KO F fi ca b Fin l.length rest A0 e m w) (heb : ¬ e b) (hme : ∀ i, m i → e i) (hel : ∀ i, e i → i < w.heap.size) :
    Calls Tryz.prog 80 #[.pointer (some ⟨b, 0, none⟩), v, .func (.func F) fi ca] w fun er w' => er = .returned (.tuple #[]) ∧ PO (l ≠ [] ∧ NT e w) b Fin (l ++ rest) A0 e (fun i => i = b ∨ m i) w w' := by
  rcases Nat.eq_zero_or_pos l.length with h0 | h0
  · have hl0 := List.length_eq_zero_iff.1 h0
    subst hl0
    rw [hz rfl]
    refine ask_no hent ?_
    refine (HK w (.slice none 0 0) [] (fun _ => False) (Sm.refl _ _) (by simpa using hJ) ⟨none, 0, rfl, fun _ => rfl, .inl rfl⟩ (fun x hx => by simp at hx) rfl (by rw [List.map_nil, List.append_nil]; exact hI0) (fun x hx => by simp at hx) (fun i hi => hi.elim)).mono ?_
    rintro er w' ⟨rfl, hG, hR⟩
    refine ⟨rfl, hG, hR.mono ?_⟩
    rintro w2 ⟨P', h1, h2, h3⟩
    rw [List.map_nil, List.append_nil] at h1
    refine ⟨P', h1, h2, fun i hi => ?_, fun hg => absurd rfl hg.1⟩
    rcases h3 i hi with h | h | h | h
    · exact .inl h
    · exact .inr (.inl h)
    · exact h.elim
    · exact .inr (.inr h)
  · obtain ⟨a, c, rfl⟩ := hv.shp
    refine ask_yes h0 ?_
    refine (all_jj (rest := rest) hent hJ hv h0 hl HK heb hme hel).mono ?_
    rintro er w' ⟨rfl, h1, h2⟩
    refine ⟨rfl, PO.more (p := fun i => i = b) ⟨h1, h2.mono ?_⟩ fun i hi => .inl hi⟩
    rintro w2 ⟨P', k1, k2, k3, k4⟩
    exact ⟨P', k1, k2, k3, fun hg => k4 hg.2⟩
/-- How many stores are asked. -/
def nst (n : Int) : Nat := if 1 ≤ n ∧ n ≤ 255 then n.toNat else 0
theorem nst_le (n : Int) : nst n ≤ 255 := by rw [nst]; split <;> omega
theorem nst_nat (n : Nat) (h1 : 1 ≤ n) (h2 : n ≤ 255) : nst (n : Int) = n := by rw [nst, if_pos ⟨by omega, by omega⟩]; omega
theorem nst_no (n : Int) (h : n < 1 ∨ 255 < n) : nst n = 0 := by rw [nst, if_neg (by omega)]
theorem toAll_any (n st k : Int) (d : ByteArray) : Calls Tryz.prog 79 #[.int .i64 n, .agg #[.int .i64 st, .int .i64 k, .string nm, .string d]] w fun e w' => ∃ v, e = .returned v ∧ LS q4 4 (fun i => w.heap.size ≤ i) w' v (aq k nm d (nst n)) ∧ (aq k nm d (nst n) = [] → v = .slice none 0 0) ∧ Below w.heap.size w w' := by
  by_cases h : 1 ≤ n ∧ n ≤ 255
  · obtain ⟨N, rfl⟩ : ∃ N : Nat, n = (N : Int) := ⟨n.toNat, by omega⟩
    refine (toAll_yes (n := N) (by omega) (by omega)).mono ?_
    rintro e w' ⟨g, rfl, hR, hg, hB⟩
    rw [nst_nat N (by omega) (by omega)]
    have := hR.gs (r := fun i => w.heap.size ≤ i) hg N
    rw [aq_len] at this
    exact ⟨_, rfl, this, fun e => by have := aq_len k nm d N; rw [e] at this; simp at this; omega, hB⟩
  · refine (toAll_no (by omega)).mono ?_
    rintro e w' ⟨rfl, hB⟩
    rw [nst_no n (by omega)]
    exact ⟨_, rfl, ⟨none, 0, rfl, fun _ => rfl, .inl rfl⟩, fun _ => rfl, hB⟩
set_option maxRecDepth 100000 in
set_option maxHeartbeats 3200000 in
theorem gets_any (hent : Ent F) (hJ : JB w b true 0 0 ⟨#[]⟩ ⟨#[]⟩ .nilFunc 0 0 (.slice none 0 0) (.slice none 0 0) (A0.length : Int)) (n : Int) (hI0 : (resI A0).length ≤ 1000000000000) (HK : KO F fi ca b Fin (nst n) rest A0 e m w) (heb : ¬ e b) (hme : ∀ i, m i → e i) (hel : ∀ i, e i → i < w.heap.size) :
    Calls Tryz.prog 62 #[.pointer (some ⟨b, 0, none⟩), .int .i64 n, .string nm, .func (.func F) fi ca] w fun er w' => er = .returned (.tuple #[]) ∧ PO (aq 2 nm ⟨#[]⟩ (nst n) ≠ [] ∧ NT e w) b Fin (aq 2 nm ⟨#[]⟩ (nst n) ++ rest) A0 e (fun i => i = b ∨ m i) w w' := by
  have HT := hide (toAll_any (nm := nm) (w := w) n 0 2 ⟨#[]⟩)
  have HA : Hid (∀ w1 v, LS q4 4 (fun i => w.heap.size ≤ i) w1 v (aq 2 nm ⟨#[]⟩ (nst n)) → (aq 2 nm ⟨#[]⟩ (nst n) = [] → v = .slice none 0 0) → Below w.heap.size w w1 → Calls Tryz.prog 80 #[.pointer (some ⟨b, 0, none⟩), v, .func (.func F) fi ca] w1 fun er w' => er = .returned (.tuple #[]) ∧ PO (aq 2 nm ⟨#[]⟩ (nst n) ≠ [] ∧ NT e w) b Fin (aq 2 nm ⟨#[]⟩ (nst n) ++ rest) A0 e (fun i => i = b ∨ m i) w w') := fun w1 v h1 h2 hB => by
    have hs := hB.size
    have hnl := nst_le n
    refine (asks (rest := rest) hent (hJ.bel hB) h1 h2 (by rw [aq_len]; omega) hI0 (by rw [aq_len]; exact HK.bel hB) heb hme fun i hi => by have := hel i hi; omega).mono ?_
    rintro er w' ⟨rfl, hP⟩
    exact ⟨rfl, (hP.bel hB).weak fun hg => ⟨hg.1, hg.2.bel hB⟩⟩
  clear HK hJ hent hI0 heb hme hel
  go_enter Tryz.func62, Tryz.ntmps62
  go_wp2_with fail
  refine HT.out.mono ?_
  rintro er w1 ⟨v, rfl, h1, h2, hB⟩
  have HA1 := hide (HA.out w1 v h1 h2 hB)
  clear h1 h2 hB
  go_wp2_with fail
  refine HA1.out.mono ?_
  rintro er w2 ⟨rfl, hP⟩
  have HP := hide hP
  clear hP
  go_wp2
  go_end0
  exact ⟨rfl, HP.out⟩
/-- The requests are asked, the codes are gone on with. -/
theorem asksC (hent : Ent F) (hJ : JB w b true 0 0 ⟨#[]⟩ ⟨#[]⟩ .nilFunc 0 0 (.slice none 0 0) (.slice none 0 0) (A0.length : Int)) (hB : Below w.heap.size w w2) (hv : LS q4 4 r0 w2 v l) (hz : l = [] → v = .slice none 0 0) (hl : l.length ≤ 1000000) (hI0 : (resI A0).length ≤ 1000000000000) (HK : KC F fi ca b Fin l.length rest A0 e m w) (heb : ¬ e b) (hme : ∀ i, m i → e i) (hel : ∀ i, e i → i < w.heap.size) :
    Calls Tryz.prog 80 #[.pointer (some ⟨b, 0, none⟩), v, .func (.func 97) #[] #[.pointer (some ⟨w2.heap.size, 0, none⟩)]] (w2.alloc (.cells #[.func (.func F) fi ca] 104)) fun er w' => er = .returned (.tuple #[]) ∧ PO (l ≠ [] ∧ NT e w) b Fin (l ++ rest) A0 e (fun i => i = b ∨ m i) w w' := by
  have hs := hB.size
  have hbl := hJ.lt
  have hB2 : Below w2.heap.size w2 (w2.alloc (.cells #[.func (.func F) fi ca] 104)) := (Below.refl _ _).alloc (Nat.le_refl _) _
  refine (asks (rest := rest) ent_bc1 ((hJ.bel hB).bel hB2) (hv.bel hB2) hz hl hI0 (ko_codes hent HK hl hB hbl hme hel) ?_ (fun i hi => .inl (hme i hi)) ?_).mono ?_
  · rintro (h | h)
    · exact heb h
    · omega
  · rintro i (h | h)
    · have := hel i h; simp; omega
    · simp; omega
  · rintro er w' ⟨rfl, hP⟩
    refine ⟨rfl, ((hP.bel (hB.trans (hB2.mono hs))).less ?_).weak fun hg => ⟨hg.1, ?_⟩⟩
    · rintro i (h | h)
      · exact .inl h
      · exact .inr (by omega)
    · rintro i (h | h)
      · exact (hg.2.bel (hB.trans (hB2.mono hs))) i h
      · rw [h]; exact ⟨_, _, heap_alloc_new w2 _, by simp [okT]⟩
set_option maxRecDepth 100000 in
set_option maxHeartbeats 3200000 in
theorem dels_any (hent : Ent F) (hJ : JB w b true 0 0 ⟨#[]⟩ ⟨#[]⟩ .nilFunc 0 0 (.slice none 0 0) (.slice none 0 0) (A0.length : Int)) (n : Int) (hI0 : (resI A0).length ≤ 1000000000000) (HK : KC F fi ca b Fin (nst n) rest A0 e m w) (heb : ¬ e b) (hme : ∀ i, m i → e i) (hel : ∀ i, e i → i < w.heap.size) :
    Calls Tryz.prog 66 #[.pointer (some ⟨b, 0, none⟩), .int .i64 n, .string nm, .func (.func F) fi ca] w fun er w' => er = .returned (.tuple #[]) ∧ PO (aq 4 nm ⟨#[]⟩ (nst n) ≠ [] ∧ NT e w) b Fin (aq 4 nm ⟨#[]⟩ (nst n) ++ rest) A0 e (fun i => i = b ∨ m i) w w' := by
  have HT := hide (toAll_any (nm := nm) (w := w) n 0 4 ⟨#[]⟩)
  have HA : Hid (∀ w1 v, LS q4 4 (fun i => w.heap.size ≤ i) w1 v (aq 4 nm ⟨#[]⟩ (nst n)) → (aq 4 nm ⟨#[]⟩ (nst n) = [] → v = .slice none 0 0) → Below w.heap.size w w1 → Calls Tryz.prog 80 #[.pointer (some ⟨b, 0, none⟩), v, .func (.func 97) #[] #[.pointer (some ⟨w1.heap.size, 0, none⟩)]] (w1.alloc (.cells #[.func (.func F) fi ca] 104)) fun er w' => er = .returned (.tuple #[]) ∧ PO (aq 4 nm ⟨#[]⟩ (nst n) ≠ [] ∧ NT e w) b Fin (aq 4 nm ⟨#[]⟩ (nst n) ++ rest) A0 e (fun i => i = b ∨ m i) w w') := fun w1 v h1 h2 hB => by
    have hnl := nst_le n
    exact asksC (rest := rest) hent hJ hB h1 h2 (by rw [aq_len]; omega) hI0 (by rw [aq_len]; exact HK) heb hme hel
  have HBC := hide (fun w => byCodes_any (fn := .func F) (fi := fi) (ca := ca) (w := w))
  clear HK hJ hent hI0 heb hme hel
  go_enter Tryz.func66, Tryz.ntmps66
  go_wp2_with fail
  refine HT.out.mono ?_
  rintro er w1 ⟨v, rfl, h1, h2, hB⟩
  have HA1 := hide (HA.out w1 v h1 h2 hB)
  clear h1 h2 hB
  go_wp2_with fail
  refine (HBC.out w1).mono ?_
  rintro er w3 ⟨rfl, rfl⟩
  go_wp2_with fail
  refine HA1.out.mono ?_
  rintro er w2 ⟨rfl, hP⟩
  have HP := hide hP
  clear hP
  go_wp2
  go_end0
  exact ⟨rfl, HP.out⟩
end
end Go.Proofs.YtiecoplfiahpnaaGreat

namespace Go.Proofs.YtiecoplfiahpnaaGreat
open Go.RowKit Go.Lib Go.Maps
/-- The requests of a put, none if so many may not be asked. -/
def pqn (nm : ByteArray) (ds : List ByteArray) : List QT := if 1 ≤ ds.length ∧ ds.length ≤ 255 then pq nm ds else []
theorem pqn_len (nm : ByteArray) (ds : List ByteArray) : (pqn nm ds).length = nst (ds.length : Int) := by
  rw [pqn]
  split
  · rename_i h; rw [pq_len, nst_nat _ h.1 h.2]
  · rename_i h; rw [nst_no _ (by omega)]; rfl
theorem aq_get {k : Int} {nm d : ByteArray} {n j : Nat} (h : j < n) : (aq k nm d n)[j]? = some ⟨(j : Int), k, nm, d⟩ := by
  rw [aq, List.getElem?_map, List.getElem?_range h]; rfl
theorem pq_at {nm : ByteArray} {ds : List ByteArray} {N j : Nat} (hN : N = ds.length) (h : j < N) : (pq nm (ds.take j) ++ (aq 1 nm ⟨#[]⟩ N).drop j)[j]? = some ⟨(j : Int), 1, nm, ⟨#[]⟩⟩ := by
  have hl : (pq nm (ds.take j)).length = j := by rw [pq_len, List.length_take]; omega
  rw [List.getElem?_append_right (by omega), hl, Nat.sub_self, List.getElem?_drop, Nat.add_zero, aq_get h]
theorem pq_set {nm d : ByteArray} {ds : List ByteArray} {N j : Nat} (hN : N = ds.length) (h : j < N) (hd : ds[j]? = some d) : (pq nm (ds.take j) ++ (aq 1 nm ⟨#[]⟩ N).drop j).set j ⟨(j : Int), 1, nm, d⟩ = pq nm (ds.take (j + 1)) ++ (aq 1 nm ⟨#[]⟩ N).drop (j + 1) := by
  have hl : (pq nm (ds.take j)).length = j := by rw [pq_len, List.length_take]; omega
  have e : (aq 1 nm ⟨#[]⟩ N).drop j = ⟨(j : Int), 1, nm, ⟨#[]⟩⟩ :: (aq 1 nm ⟨#[]⟩ N).drop (j + 1) := drop_at (aq_get h)
  have hl2 : (ds.take j).length = j := by rw [List.length_take]; omega
  rw [List.set_append_right _ _ (by omega), hl, Nat.sub_self, e, List.set_cons_zero, take_snoc_at hd, pq_snoc, hl2, List.append_assoc]
  rfl
section
variable {F : FuncId} {fi ca : Array Value} {b : Nat} {Fin : List RR → (Nat → Prop) → World → Prop} {rest : List QT} {A0 : List RR} {e m r r0 : Nat → Prop} {w w0 w2 : World} {dv : Value} {nm : ByteArray} {ds : List ByteArray}
set_option maxRecDepth 100000 in
set_option maxHeartbeats 3200000 in
theorem puts_no (hent : Ent F) (hJ : JB w b true 0 0 ⟨#[]⟩ ⟨#[]⟩ .nilFunc 0 0 (.slice none 0 0) (.slice none 0 0) (A0.length : Int)) (hd : LS t1 1 r w dv ds) (hbad : ¬ (1 ≤ ds.length ∧ ds.length ≤ 255)) (hI0 : (resI A0).length ≤ 1000000000000) (HK : KC F fi ca b Fin 0 rest A0 e m w) (heb : ¬ e b) (hme : ∀ i, m i → e i) (hel : ∀ i, e i → i < w.heap.size) :
    Calls Tryz.prog 48 #[.pointer (some ⟨b, 0, none⟩), .string nm, dv, .func (.func F) fi ca] w fun er w' => er = .returned (.tuple #[]) ∧ PO False b Fin rest A0 e (fun i => i = b ∨ m i) w w' := by
  obtain ⟨da, dc, rfl⟩ := hd.shp
  have HT := hide (toAll_no (nm := nm) (w := w) (n := (ds.length : Int)) (st := 0) (k := 1) (d := ⟨#[]⟩) (by omega))
  have HA : Hid (∀ w1, Below w.heap.size w w1 → Calls Tryz.prog 80 #[.pointer (some ⟨b, 0, none⟩), .slice none 0 0, .func (.func 97) #[] #[.pointer (some ⟨w1.heap.size, 0, none⟩)]] (w1.alloc (.cells #[.func (.func F) fi ca] 104)) fun er w' => er = .returned (.tuple #[]) ∧ PO False b Fin rest A0 e (fun i => i = b ∨ m i) w w') := fun w1 hB => by
    refine (asksC (rest := rest) (l := []) (r0 := fun _ => True) hent hJ hB ⟨none, 0, rfl, fun _ => rfl, .inl rfl⟩ (fun _ => rfl) (by simp) hI0 HK heb hme hel).mono ?_
    rintro er w' ⟨rfl, hP⟩
    exact ⟨rfl, hP.weak fun h => h.elim⟩
  have HBC := hide (fun w => byCodes_any (fn := .func F) (fi := fi) (ca := ca) (w := w))
  generalize ds.length = N at *
  clear HK hJ hent hI0 heb hme hel hd hbad
  go_enter Tryz.func48, Tryz.ntmps48
  go_wp2_with fail
  refine HT.out.mono ?_
  rintro er w1 ⟨rfl, hB⟩
  have HA1 := hide (HA.out w1 hB)
  clear hB
  go_wp2
  go_loopw [17] (fun i wr => i = .int .i64 0 ∧ wr = w1) (fun _ _ => 0)
  case atStart => exact ⟨rfl, rfl⟩
  case round =>
    obtain ⟨rfl, rfl⟩ := hrel
    go_wp2_with fail
    refine (HBC.out wr).mono ?_
    rintro er w3 ⟨rfl, rfl⟩
    go_wp2_with fail
    refine HA1.out.mono ?_
    rintro er w2 ⟨rfl, hP⟩
    have HP := hide hP
    clear hP
    go_wp2
    go_end0
    exact ⟨rfl, HP.out⟩
set_option maxRecDepth 100000 in
set_option maxHeartbeats 3200000 in
theorem puts_yes (hent : Ent F) (hJ : JB w b true 0 0 ⟨#[]⟩ ⟨#[]⟩ .nilFunc 0 0 (.slice none 0 0) (.slice none 0 0) (A0.length : Int)) (hd : LS t1 1 r w dv ds) (h1 : 1 ≤ ds.length) (h2 : ds.length ≤ 255) (hI0 : (resI A0).length ≤ 1000000000000) (HK : KC F fi ca b Fin ds.length rest A0 e m w) (heb : ¬ e b) (hme : ∀ i, m i → e i) (hel : ∀ i, e i → i < w.heap.size) :
    Calls Tryz.prog 48 #[.pointer (some ⟨b, 0, none⟩), .string nm, dv, .func (.func F) fi ca] w fun er w' => er = .returned (.tuple #[]) ∧ PO (NT e w) b Fin (pq nm ds ++ rest) A0 e (fun i => i = b ∨ m i) w w' := by
  have HC : Hid (∀ j d, ds[j]? = some d → ∀ wr, Below w.heap.size w wr → ∃ g o c, dv = .slice (some ⟨g, o, none⟩) ds.length c ∧ wr.cell? ⟨g, o + j, none⟩ = some (.string d)) := fun j d hj wr hb => by
    obtain ⟨a, c, e⟩ := (hd.bel hb).shp
    have h3 := hd.bel hb
    rw [e] at h3
    obtain ⟨g, o, ha, _, h4⟩ := h3.at1 hj rfl
    exact ⟨g, o, c, by rw [e, ha], h4⟩
  have HT := hide (toAll_yes (nm := nm) (w := w) (n := ds.length) (st := 0) (k := 1) (d := ⟨#[]⟩) h1 h2)
  have HA : Hid (∀ w1 g, RQL w1 g (pq nm ds) → Below w.heap.size w w1 → Calls Tryz.prog 80 #[.pointer (some ⟨b, 0, none⟩), .slice (some ⟨g, 0, none⟩) ds.length ds.length, .func (.func 97) #[] #[.pointer (some ⟨w1.heap.size, 0, none⟩)]] (w1.alloc (.cells #[.func (.func F) fi ca] 104)) fun er w' => er = .returned (.tuple #[]) ∧ PO (NT e w) b Fin (pq nm ds ++ rest) A0 e (fun i => i = b ∨ m i) w w') := fun w1 g hR hB => by
    have h3 := hR.gs (r := fun _ => True) trivial ds.length
    rw [pq_len] at h3
    have hne : pq nm ds ≠ [] := fun e => by have := pq_len nm ds; rw [e] at this; simp at this; omega
    refine (asksC (rest := rest) hent hJ hB h3 (fun e => absurd e hne) (by rw [pq_len]; omega) hI0 (by rw [pq_len]; exact HK) heb hme hel).mono ?_
    rintro er w' ⟨rfl, hP⟩
    exact ⟨rfl, hP.weak fun h => ⟨hne, h⟩⟩
  have HBC := hide (fun w => byCodes_any (fn := .func F) (fi := fi) (ca := ca) (w := w))
  obtain ⟨da, dc, hdv⟩ := hd.shp
  subst hdv
  obtain ⟨N, hN⟩ : ∃ N, N = ds.length := ⟨_, rfl⟩
  rw [← hN] at h1 h2 HA HC HT ⊢
  have HN := hide hN
  have Hh := hide (And.intro h1 h2)
  clear HK hJ hent hI0 heb hme hel hd hN h1 h2
  go_enter Tryz.func48, Tryz.ntmps48
  go_wp2_with fail
  refine HT.out.mono ?_
  rintro er w1 ⟨g, rfl, hR1, hg, hB1⟩
  have H0 : Hid (RQL w1 g (pq nm (ds.take 0) ++ (aq 1 nm ⟨#[]⟩ N).drop 0) ∧ Below w.heap.size w w1) := ⟨by simpa [pq] using hR1, hB1⟩
  have Hg := hide hg
  clear hR1 hg hB1
  go_wp2
  go_loopw [17] (fun i wr => ∃ j : Nat, j ≤ N ∧ i = .int .i64 j ∧ RQL wr g (pq nm (ds.take j) ++ (aq 1 nm ⟨#[]⟩ N).drop j) ∧ Below w.heap.size w wr) (fun i _ => N - (intOf i).toNat)
  case atStart => exact ⟨0, Nat.zero_le _, rfl, H0.out⟩
  case round =>
    obtain ⟨j, hj, rfl, hR, hB⟩ := hrel
    have h2 := Hh.out.2
    by_cases hlt : j < N
    · have b1 : (j : Int) < (N : Int) := by omega
      have b0 : (0 : Int) ≤ (j : Int) := by omega
      obtain ⟨d, hd⟩ : ∃ d, ds[j]? = some d := ⟨_, List.getElem?_eq_getElem (by rw [← HN.out]; exact hlt)⟩
      obtain ⟨dg, d0, dc', hdv, z0⟩ := HC.out j d hd wr hB
      cases hdv
      have hq := pq_at (nm := nm) HN.out hlt
      have z3 : wr.cell? ⟨g, j * 4 + 3, none⟩ = some (.string ⟨#[]⟩) := hR.cell hq (by decide) rfl
      have f3 := hR.free (j * 4 + 3)
      have hR2 := hR.set hq 3 (by decide) (.string d) ⟨(j : Int), 1, nm, d⟩ rfl
      rw [pq_set HN.out hlt hd] at hR2
      have HE : Hid (RQL (wr.setCell ⟨g, j * 4 + 3, none⟩ (.string d)) g (pq nm (ds.take (j + 1)) ++ (aq 1 nm ⟨#[]⟩ N).drop (j + 1)) ∧ Below w.heap.size w (wr.setCell ⟨g, j * 4 + 3, none⟩ (.string d))) := by
        have hgl := Hg.out
        exact ⟨hR2, ((Gs.refl (fun i => i = g) wr).set1 _ _).below hB hB.size (fun i e => by omega)⟩
      clear hR hB hq hR2 hd
      go_wp2
      exact ⟨⟨j + 1, by omega, by go_num, HE.out⟩, by simp [intOf]; omega⟩
    · obtain rfl : j = N := by omega
      have e1 : ds.take j = ds := List.take_of_length_le (by have := HN.out; omega)
      have e2 : (aq 1 nm ⟨#[]⟩ j).drop j = [] := List.drop_eq_nil_of_le (by rw [aq_len]; omega)
      rw [e1, e2, List.append_nil] at hR
      have HA1 := hide (HA.out wr g hR hB)
      clear hR hB e1 e2
      go_wp2_with fail
      refine (HBC.out wr).mono ?_
      rintro er w3 ⟨rfl, rfl⟩
      go_wp2_with fail
      refine HA1.out.mono ?_
      rintro er w2 ⟨rfl, hP⟩
      have HP := hide hP
      clear hP
      go_wp2
      go_end0
      exact ⟨rfl, HP.out⟩
theorem puts_any (hent : Ent F) (hJ : JB w b true 0 0 ⟨#[]⟩ ⟨#[]⟩ .nilFunc 0 0 (.slice none 0 0) (.slice none 0 0) (A0.length : Int)) (hd : LS t1 1 r w dv ds) (hI0 : (resI A0).length ≤ 1000000000000) (HK : KC F fi ca b Fin (pqn nm ds).length rest A0 e m w) (heb : ¬ e b) (hme : ∀ i, m i → e i) (hel : ∀ i, e i → i < w.heap.size) :
    Calls Tryz.prog 48 #[.pointer (some ⟨b, 0, none⟩), .string nm, dv, .func (.func F) fi ca] w fun er w' => er = .returned (.tuple #[]) ∧ PO (pqn nm ds ≠ [] ∧ NT e w) b Fin (pqn nm ds ++ rest) A0 e (fun i => i = b ∨ m i) w w' := by
  rw [pqn_len] at HK
  rw [pqn]
  by_cases h : 1 ≤ ds.length ∧ ds.length ≤ 255
  · rw [if_pos h]
    rw [nst_nat _ h.1 h.2] at HK
    refine (puts_yes hent hJ hd h.1 h.2 hI0 HK heb hme hel).mono ?_
    rintro er w' ⟨rfl, hP⟩
    exact ⟨rfl, hP.weak fun h => h.2⟩
  · rw [if_neg h]
    rw [nst_no _ (by omega)] at HK
    refine (puts_no hent hJ hd h hI0 HK heb hme hel).mono ?_
    rintro er w' ⟨rfl, hP⟩
    exact ⟨rfl, hP.weak fun h => absurd rfl h.1⟩
end
end Go.Proofs.YtiecoplfiahpnaaGreat

namespace Go.Proofs.YtiecoplfiahpnaaGreat
open Go.RowKit Go.Lib Go.Maps
/-- A job that is over, with a result. -/
def FinR (b : Nat) (C N : List RR → Int) (I T : List RR → List ByteArray) (A : List RR) (P : Nat → Prop) (w : World) : Prop :=
  ∃ ids tx, JB w b false 0 0 ⟨#[]⟩ ⟨#[]⟩ .nilFunc (C A) (N A) ids tx (A.length : Int) ∧ LS t1 1 (fun i => P i ∧ i ≠ b) w ids (I A) ∧ LS t1 1 (fun i => P i ∧ i ≠ b) w tx (T A)
theorem LS.nl {α : Type} {f : α → List Value} {k : Nat} (r : Nat → Prop) (w : World) : LS f k r w (.slice none 0 0) [] := ⟨none, 0, rfl, fun _ => rfl, .inl rfl⟩
section
variable {F : FuncId} {fi ca : Array Value} {b i1 : Nat} {C N : List RR → Int} {I T : List RR → List ByteArray} {A : List RR} {e m r r' p : Nat → Prop} {w w' W : World} {cv dv : Value} {st k c NN s : Int} {n d nm : ByteArray} {go ids tx : Value} {cs ks : List Int} {ds : List ByteArray}
theorem fkR (b : Nat) (C N : List RR → Int) (I T : List RR → List ByteArray) : FK b (FinR b C N I T) := by
  refine ⟨?_, ?_⟩
  · rintro A P p w w' ⟨ids, tx, hJ, h1, h2⟩ hg hb hp
    exact ⟨ids, tx, hJ.gs hg (hp b hb), h1.gs hg fun i hi => hp i hi.1, h2.gs hg fun i hi => hp i hi.1⟩
  · rintro A P w ⟨ids, tx, hJ, _⟩
    exact ⟨_, _, ids, tx, hJ⟩
theorem fin_rdyN (hJ : JB w' b false 0 0 ⟨#[]⟩ ⟨#[]⟩ .nilFunc (C A) (N A) ids tx (A.length : Int)) (h1 : TS W.heap.size ids (I A) w') (h2 : TS W.heap.size tx (T A) w') (hG : Gs (fun i => i = b) W w') (hb : b < W.heap.size) :
    Gs (fun i => i = b ∨ m i) W w' ∧ RDY b (fun w2 => ∃ P', JJ b (FinR b C N I T) [] A P' w2 ∧ Gs (fun i => i = b ∨ m i) W w2 ∧ (∀ i, P' i → i = b ∨ e i ∨ r i ∨ W.heap.size ≤ i) ∧ NT P' w2) w' := by
  refine ⟨hG.mono fun i _ hi => .inl hi, .inr ⟨_, _, _, _, _, _, _, _, _, _, hJ, fun w2 hJ2 hG2 => ?_⟩⟩
  have hs := hG.size
  have hs2 := hG2.size
  have k1 := h1.lt
  have k2 := h2.lt
  have t1 := h1.kb (w' := w2) fun i hi => hG2.block i (k1 i hi).2 (by have := (k1 i hi).1; omega)
  have t2 := h2.kb (w' := w2) fun i hi => hG2.block i (k2 i hi).2 (by have := (k2 i hi).1; omega)
  refine ⟨fun i => i = b ∨ ids.ownBlock = some i ∨ tx.ownBlock = some i, ⟨.inl rfl, ?_, ids, tx, hJ2, ?_, ?_⟩, (hG.trans hG2).mono fun i _ hi => .inl hi, ?_, ?_⟩
  · rintro i (h | h | h)
    · omega
    · exact (t1.lt i h).2
    · exact (t2.lt i h).2
  · exact t1.ls fun i hi => ⟨.inr (.inl hi), by have := (k1 i hi).1; omega⟩
  · exact t2.ls fun i hi => ⟨.inr (.inr hi), by have := (k2 i hi).1; omega⟩
  · rintro i (h | h | h)
    · exact .inl h
    · exact .inr (.inr (.inr (k1 i h).1))
    · exact .inr (.inr (.inr (k2 i h).1))
  · rintro i (h | h | h)
    · rw [h]; exact ⟨_, _, hJ2, by simp [okT]⟩
    · obtain ⟨cs, hc⟩ := t1.ow.typ i h; exact ⟨_, _, hc, by simp [okT]⟩
    · obtain ⟨cs, hc⟩ := t2.ow.typ i h; exact ⟨_, _, hc, by simp [okT]⟩
theorem fin_rdy (hJ : JB w' b false 0 0 ⟨#[]⟩ ⟨#[]⟩ .nilFunc (C A) (N A) ids tx (A.length : Int)) (h1 : TS W.heap.size ids (I A) w') (h2 : TS W.heap.size tx (T A) w') (hG : Gs (fun i => i = b) W w') (hb : b < W.heap.size) :
    Gs (fun i => i = b ∨ m i) W w' ∧ RDY b (fun w2 => ∃ P', JJ b (FinR b C N I T) [] A P' w2 ∧ Gs (fun i => i = b ∨ m i) W w2 ∧ ∀ i, P' i → i = b ∨ e i ∨ r i ∨ W.heap.size ≤ i) w' := by
  have h := fin_rdyN (e := e) (r := r) (m := m) hJ h1 h2 hG hb
  refine ⟨h.1, h.2.mono ?_⟩
  rintro w2 ⟨P', k1, k2, k3, _⟩
  exact ⟨P', k1, k2, k3⟩
set_option maxRecDepth 100000 in
set_option maxHeartbeats 3200000 in
theorem start_any (hent : Ent F) {Q : World → Prop}
    (HC : ∀ V, JB V w.heap.size true 0 0 ⟨#[]⟩ ⟨#[]⟩ .nilFunc 0 0 (.slice none 0 0) (.slice none 0 0) 0 → Below w.heap.size w V → Calls Tryz.prog F (fi.push (.pointer (some ⟨w.heap.size, 0, none⟩)) ++ ca) V fun e w' => e = .returned (.tuple #[]) ∧ RDY w.heap.size Q w') :
    Calls Tryz.prog 18 #[.func (.func F) fi ca] w fun e w' => e = .returned (.pointer (some ⟨w.heap.size, 0, none⟩)) ∧ Q w' := by
  obtain ⟨U, hU⟩ : ∃ U, U = w.alloc (.cells #[.bool true, .int .i64 0, .int .i64 0, .string ⟨#[]⟩, .string ⟨#[]⟩, .nilFunc, .int .i64 0, .string ⟨#[]⟩, .int .i64 0, .slice none 0 0, .slice none 0 0, .slice none 0 0, .slice none 0 0, .int .i64 0] 102) := ⟨_, rfl⟩
  have hJ : JB U w.heap.size true 0 0 ⟨#[]⟩ ⟨#[]⟩ .nilFunc 0 0 (.slice none 0 0) (.slice none 0 0) 0 := by rw [hU]; exact heap_alloc_new w _
  have HN := hide (HC U hJ (by rw [hU]; exact (Below.refl _ _).alloc (Nat.le_refl _) _))
  have HU := hide hU
  obtain ⟨g1, g2, g3, g4⟩ := fe72
  unfold Ent at hent
  clear hJ hU HC
  go_enter Tryz.func18, Tryz.ntmps18
  go_upto_region 2 with fail
  rw [← HU.out]
  go_wp2_with fail
  refine HN.out.mono ?_
  rintro e w1 ⟨rfl, hR⟩
  have HS := hide (settle_rdy hR)
  clear hR
  go_wp2_with fail
  refine HS.out.mono ?_
  rintro e w2 ⟨rfl, hQ⟩
  have HQ := hide hQ
  clear hQ
  go_wp2
  go_ret
  exact ⟨rfl, HQ.out⟩
set_option maxRecDepth 100000 in
set_option maxHeartbeats 3200000 in
theorem start1_yes {x1 x2 : Nat} {nn : Int} (hent : Ent F) (h1 : w.heap[x1]? = some (.cells #[.int .i64 nn] 3 (0, 0))) (h2 : w.heap[x2]? = some (.cells #[.func (.func F) fi ca] 61 (0, 0))) (hn : 1 ≤ nn) (hn2 : nn ≤ 255) {Q : World → Prop}
    (HC : Calls Tryz.prog F (fi.push (.pointer (some ⟨b, 0, none⟩)) ++ ca) w fun e w' => e = .returned (.tuple #[]) ∧ Q w') :
    Calls Tryz.prog 84 #[.pointer (some ⟨b, 0, none⟩), .pointer (some ⟨x1, 0, none⟩), .pointer (some ⟨x2, 0, none⟩)] w fun e w' => e = .returned (.tuple #[]) ∧ Q w' := by
  have y1 : w.cell? ⟨x1, 0, none⟩ = some (.int .i64 nn) := by simp [World.cell?, h1]
  have y2 : w.cell? ⟨x2, 0, none⟩ = some (.func (.func F) fi ca) := by simp [World.cell?, h2]
  have HM := hide (mayBe_yes (w := w) hn hn2)
  have HH := hide HC
  unfold Ent at hent
  clear h1 h2 hn hn2 HC
  go_enter Tryz.func84, Tryz.ntmps84
  go_wp2_with (go_at_call 85; refine HM.out.mono ?_; rintro e w1 ⟨rfl, rfl⟩)
  refine HH.out.mono ?_
  rintro e w2 ⟨rfl, hQ⟩
  have HQ := hide hQ
  clear hQ
  go_wp2
  go_end0
  exact ⟨rfl, HQ.out⟩
set_option maxRecDepth 100000 in
set_option maxHeartbeats 3200000 in
theorem start1_no {x1 x2 : Nat} {nn : Int} (hJ : JB w b true st k n d go c NN ids tx s) (h1 : w.heap[x1]? = some (.cells #[.int .i64 nn] 3 (0, 0))) (hn : nn < 1 ∨ 255 < nn) :
    Calls Tryz.prog 84 #[.pointer (some ⟨b, 0, none⟩), .pointer (some ⟨x1, 0, none⟩), .pointer (some ⟨x2, 0, none⟩)] w fun e w' => e = .returned (.tuple #[]) ∧ ∃ ids' tx', JB w' b false 0 0 ⟨#[]⟩ ⟨#[]⟩ .nilFunc 1 0 ids' tx' s ∧ TS w.heap.size ids' [] w' ∧ TS w.heap.size tx' [] w' ∧ Gs (fun i => i = b) w w' := by
  have y1 : w.cell? ⟨x1, 0, none⟩ = some (.int .i64 nn) := by simp [World.cell?, h1]
  have HM := hide (mayBe_no (w := w) hn)
  have HH := hide (end_on (r := fun _ => True) (c := 1) (N := 0) hJ (LS.nl _ _) (LS.nl _ _) (by simp) (by simp))
  clear h1 hn hJ
  go_enter Tryz.func84, Tryz.ntmps84
  go_wp2_with (go_at_call 85; refine HM.out.mono ?_; rintro e w1 ⟨rfl, rfl⟩)
  refine HH.out.mono ?_
  rintro e w2 ⟨rfl, hQ⟩
  have HQ := hide hQ
  clear hQ
  go_wp2
  exact bodyPost_ret (v := .tuple #[]) (by simp [results, Tryz.results84, go_sem]) rfl ⟨rfl, HQ.out⟩
theorem ent_s1 : Ent 84 := ent_of Tryz.func84 (by kernel_rfl) rfl
/-- A job is made. -/
def MK (Fin : Nat → List RR → (Nat → Prop) → World → Prop) (L : List QT) (w w' : World) (er : Ending) : Prop := ∃ b P, er = .returned (.pointer (some ⟨b, 0, none⟩)) ∧ JJ b (Fin b) L [] P w' ∧ Below w.heap.size w w' ∧ (∀ i, P i → w.heap.size ≤ i) ∧ NT P w'
set_option maxRecDepth 100000 in
set_option maxHeartbeats 3200000 in
theorem fstart_yes {nn : Int} {L : List QT} {Fin : Nat → List RR → (Nat → Prop) → World → Prop} (hent : Ent F) (hn : 1 ≤ nn) (hn2 : nn ≤ 255)
    (HC : ∀ b V, JB V b true 0 0 ⟨#[]⟩ ⟨#[]⟩ .nilFunc 0 0 (.slice none 0 0) (.slice none 0 0) 0 → Below w.heap.size w V → w.heap.size ≤ b → Calls Tryz.prog F (fi.push (.pointer (some ⟨b, 0, none⟩)) ++ ca) V fun e w' => e = .returned (.tuple #[]) ∧ PO True b (Fin b) L [] (fun i => w.heap.size ≤ i) (fun i => i = b) V w') :
    Calls Tryz.prog 52 #[.int .i64 nn, .func (.func F) fi ca] w fun e w' => MK Fin L w w' e := by
  obtain ⟨U, hU⟩ : ∃ U, U = (w.alloc (.cells #[.int .i64 nn] 3)).alloc (.cells #[.func (.func F) fi ca] 61) := ⟨_, rfl⟩
  obtain ⟨X, hX⟩ : ∃ X, X = w.heap.size := ⟨_, rfl⟩
  have hBU : Below w.heap.size w U := by rw [hU]; exact ((Below.refl _ _).alloc (Nat.le_refl _) _).alloc (by simp) _
  have h1 : U.heap[X]? = some (.cells #[.int .i64 nn] 3 (0, 0)) := by rw [hU, hX, Below.heap_alloc _ _ _ (by simp)]; exact heap_alloc_new w _
  have h2 : U.heap[X + 1]? = some (.cells #[.func (.func F) fi ca] 61 (0, 0)) := by
    rw [hU, hX]
    have := heap_alloc_new (w.alloc (.cells #[.int .i64 nn] 3)) (.cells #[.func (.func F) fi ca] 61 (0, 0))
    simpa using this
  have hsz : w.heap.size ≤ U.heap.size := hBU.size
  have HN := hide (start_any (w := U) (F := 84) (fi := #[]) (ca := #[.pointer (some ⟨X, 0, none⟩), .pointer (some ⟨X + 1, 0, none⟩)]) ent_s1 (Q := fun w2 => MK Fin L w w2 (.returned (.pointer (some ⟨U.heap.size, 0, none⟩)))) (by
    intro V hJV hBV
    show Calls Tryz.prog 84 #[.pointer (some ⟨U.heap.size, 0, none⟩), .pointer (some ⟨X, 0, none⟩), .pointer (some ⟨X + 1, 0, none⟩)] V _
    refine start1_yes hent ((hBV.block X (lt_of_block h1)).trans h1) ((hBV.block (X + 1) (lt_of_block h2)).trans h2) hn hn2 ?_
    have hBV2 : Below w.heap.size w V := hBU.trans (hBV.mono hsz)
    refine (HC U.heap.size V hJV hBV2 hsz).mono ?_
    rintro e w' ⟨rfl, hP⟩
    refine ⟨rfl, hP.2.mono ?_⟩
    rintro w2 ⟨P', hJJ, hG, hP', hNT⟩
    refine ⟨_, P', rfl, hJJ, hG.below hBV2 hBV2.size (fun i e => by omega), fun i hi => ?_, hNT trivial⟩
    have := hBV2.size
    rcases hP' i hi with h | h | h <;> omega))
  have HU := hide hU
  have HX := hide hX
  have hmf : ∀ (fn : Fn) (first cap : Array Value) (w : World), (Instr.makeFunc fn first cap).run Tryz.prog w = .ok (.func fn first cap) w := fun _ _ _ _ => rfl
  clear h1 h2 hBU hsz hU hX HC hn hn2 hent
  go_enter Tryz.func52, Tryz.ntmps52
  go_upto_region 1 with fail
  rw [← HU.out, ← HX.out]
  go_wp2_with fail
  refine HN.out.mono ?_
  rintro e w7 ⟨rfl, hQ⟩
  have HQ2 := hide hQ
  clear hQ
  go_wp2
  go_ret
  exact HQ2.out
set_option maxRecDepth 100000 in
set_option maxHeartbeats 3200000 in
theorem fstart_no {nn : Int} {C N : List RR → Int} {I T : List RR → List ByteArray} {fn : Fn} (hn : nn < 1 ∨ 255 < nn) (hC : C [] = 1) (hN : N [] = 0) (hI : I [] = []) (hT : T [] = []) :
    Calls Tryz.prog 52 #[.int .i64 nn, .func fn fi ca] w fun e w' => MK (fun b => FinR b C N I T) [] w w' e := by
  obtain ⟨U, hU⟩ : ∃ U, U = (w.alloc (.cells #[.int .i64 nn] 3)).alloc (.cells #[.func fn fi ca] 61) := ⟨_, rfl⟩
  obtain ⟨X, hX⟩ : ∃ X, X = w.heap.size := ⟨_, rfl⟩
  have hBU : Below w.heap.size w U := by rw [hU]; exact ((Below.refl _ _).alloc (Nat.le_refl _) _).alloc (by simp) _
  have h1 : U.heap[X]? = some (.cells #[.int .i64 nn] 3 (0, 0)) := by rw [hU, hX, Below.heap_alloc _ _ _ (by simp)]; exact heap_alloc_new w _
  have hsz : w.heap.size ≤ U.heap.size := hBU.size
  have HN := hide (start_any (w := U) (F := 84) (fi := #[]) (ca := #[.pointer (some ⟨X, 0, none⟩), .pointer (some ⟨X + 1, 0, none⟩)]) ent_s1 (Q := fun w2 => MK (fun b => FinR b C N I T) [] w w2 (.returned (.pointer (some ⟨U.heap.size, 0, none⟩)))) (by
    intro V hJV hBV
    show Calls Tryz.prog 84 #[.pointer (some ⟨U.heap.size, 0, none⟩), .pointer (some ⟨X, 0, none⟩), .pointer (some ⟨X + 1, 0, none⟩)] V _
    have hBV2 : Below w.heap.size w V := hBU.trans (hBV.mono hsz)
    refine (start1_no hJV ((hBV.block X (lt_of_block h1)).trans h1) hn).mono ?_
    rintro e w' ⟨rfl, ids', tx', hJ', hT1, hT2, hG⟩
    have hfin := fin_rdyN (C := C) (N := N) (I := I) (T := T) (A := []) (e := fun _ => False) (r := fun _ => False) (m := fun _ => False) (by rw [hC, hN]; exact hJ') (by rw [hI]; exact hT1) (by rw [hT]; exact hT2) hG hJV.lt
    refine ⟨rfl, hfin.2.mono ?_⟩
    rintro w2 ⟨P', hJJ, hG, hP', hNT⟩
    have := hBV2.size
    refine ⟨_, P', rfl, hJJ, hG.below hBV2 hBV2.size (fun i e => by rcases e with e | e; omega; exact e.elim), fun i hi => ?_, hNT⟩
    rcases hP' i hi with h | h | h | h
    · omega
    · exact h.elim
    · exact h.elim
    · omega))
  have HU := hide hU
  have HX := hide hX
  have hmf : ∀ (fn : Fn) (first cap : Array Value) (w : World), (Instr.makeFunc fn first cap).run Tryz.prog w = .ok (.func fn first cap) w := fun _ _ _ _ => rfl
  clear h1 hBU hsz hU hX hn hC hN hI hT
  go_enter Tryz.func52, Tryz.ntmps52
  go_upto_region 1 with fail
  rw [← HU.out, ← HX.out]
  go_wp2_with fail
  refine HN.out.mono ?_
  rintro e w7 ⟨rfl, hQ⟩
  have HQ2 := hide hQ
  clear hQ
  go_wp2
  go_ret
  exact HQ2.out
end
end Go.Proofs.YtiecoplfiahpnaaGreat

namespace Go.Proofs.YtiecoplfiahpnaaGreat
open Go.RowKit Go.Lib Go.Maps
def okn (n : Int) : Bool := decide (1 ≤ n ∧ n ≤ 255)
/-- The code of a job's result. -/
def gC (ok : Bool) (k : List Int) (A : List RR) : Int := if ok = true then frs k (A.map (·.c)) else 1
def gN (A : List RR) : Int := ((gds (A.map (·.c)) : Nat) : Int)
def noT (_ : List RR) : List ByteArray := []
section
variable {F : FuncId} {fi ca : Array Value} {b i1 : Nat} {A : List RR} {e m r r' p : Nat → Prop} {w w' W : World} {cv dv : Value} {st k c NN s : Int} {n d nm : ByteArray} {go ids tx : Value} {cs ks : List Int} {ds : List ByteArray}
set_option maxRecDepth 100000 in
set_option maxHeartbeats 3200000 in
theorem put_end (h6 : w.heap[i1]? = some (.cells #[.pointer (some ⟨b, 0, none⟩)] 48 (0, 0))) (hJ : JB w b true st k n d go c NN ids tx s) (hL : LS c1 1 r w cv cs) (hn : cs.length ≤ 1000000) :
    Calls Tryz.prog 54 #[cv, .pointer (some ⟨i1, 0, none⟩)] w fun e w' => e = .returned (.tuple #[]) ∧ ∃ ids tx, JB w' b false 0 0 ⟨#[]⟩ ⟨#[]⟩ .nilFunc (frs [] cs) ((gds cs : Nat) : Int) ids tx s ∧ TS w.heap.size ids [] w' ∧ TS w.heap.size tx [] w' ∧ Gs (fun i => i = b) w w' := by
  have hib : i1 ≠ b := fun e => by
    rw [e, show w.heap[b]? = _ from hJ] at h6
    simp at h6
  have y1 : w.cell? ⟨i1, 0, none⟩ = some (.pointer (some ⟨b, 0, none⟩)) := by simp [World.cell?, h6]
  have HT := hide (outcome_any (w := w.drew) hL (LS.nl (f := c1) (fun _ => True) w.drew) hn (by simp))
  have HK : Hid (∀ w1, Below w.drew.heap.size w.drew w1 → w1.cell? ⟨i1, 0, none⟩ = some (.pointer (some ⟨b, 0, none⟩))) := fun w1 hb => (hb.cell (p := ⟨i1, 0, none⟩) (lt_of_block h6)).trans y1
  have HE : Hid (∀ w1, Below w.drew.heap.size w.drew w1 → Calls Tryz.prog 55 #[.pointer (some ⟨b, 0, none⟩), .agg #[.int .i64 (frs [] cs), .string ⟨#[]⟩, .int .i64 ((gds cs : Nat) : Int), .slice none 0 0, .slice none 0 0, .slice none 0 0, .slice none 0 0]] w1 fun e w' => e = .returned (.tuple #[]) ∧ w'.cell? ⟨i1, 0, none⟩ = some (.pointer (some ⟨b, 0, none⟩)) ∧ Hid (∃ ids tx, JB w' b false 0 0 ⟨#[]⟩ ⟨#[]⟩ .nilFunc (frs [] cs) ((gds cs : Nat) : Int) ids tx s ∧ TS w.heap.size ids [] w' ∧ TS w.heap.size tx [] w' ∧ Gs (fun i => i = b) w w')) := fun w1 hb => by
    have hJ1 : JB w1 b true st k n d go c NN _ _ s := JB.bel (w := w.drew) hJ hb
    refine (end_on (r := fun _ => True) hJ1 (LS.nl _ _) (LS.nl _ _) (by simp) (by simp)).mono ?_
    rintro e w' ⟨rfl, ids', tx', hJ2, hT1, hT2, hG⟩
    have hbs : w.heap.size ≤ w1.heap.size := hb.size
    have hi1 : i1 < w1.heap.size := Nat.lt_of_lt_of_le (lt_of_block h6) hbs
    refine ⟨rfl, ?_, ids', tx', hJ2, hT1.low hbs, hT2.low hbs, ((Gs.of_below _ hb).trans hG).und⟩
    have e1 := hG.block i1 hi1 hib
    simp only [World.cell?, e1]
    exact HK.out w1 hb
  generalize frs [] cs = rc at *
  generalize ((gds cs : Nat) : Int) = rn at *
  clear h6 hJ hL hn
  go_enter Tryz.func54, Tryz.ntmps54
  go_upto_region 0 with fail
  go_region_held3 (fun w' => w'.cell? ⟨i1, 0, none⟩ = some (.pointer (some ⟨b, 0, none⟩))) (first | assumption)
    (first | (go_at_call 56; refine HT.out.mono ?_; rintro e w1 ⟨rfl, hB1⟩; have k1 := HK.out w1 hB1) | (go_at_call 55; refine (HE.out _ (by assumption)).mono ?_; rintro e w2 ⟨rfl, k2, hF⟩))
  all_goals (go_wp2; go_end0; exact ⟨rfl, hF.out⟩)
theorem kc_put (h6 : w.heap[i1]? = some (.cells #[.pointer (some ⟨b, 0, none⟩)] 48 (0, 0))) (hb : b < w.heap.size) (N : Nat) (hN : N ≤ 1000000) : KC 54 #[] #[.pointer (some ⟨i1, 0, none⟩)] b (FinR b (gC true []) gN noT noT) N [] [] (fun i => i = i1) (fun _ => False) w := by
  intro W cv A r hS hJ hL hA hI hr
  show Calls Tryz.prog 54 #[cv, .pointer (some ⟨i1, 0, none⟩)] W _
  refine (put_end ((hS.2 i1 rfl (lt_of_block h6)).trans h6) hJ hL (by simp; omega)).mono ?_
  rintro er w' ⟨rfl, ids, tx, hJ', h1, h2, hG⟩
  refine ⟨rfl, ?_⟩
  rw [List.nil_append]
  refine fin_rdy ?_ h1 h2 hG (Nat.lt_of_lt_of_le hb hS.1)
  rw [gC, if_pos rfl, hA]
  simpa [gN] using hJ'
theorem ent_p11 : Ent 54 := ent_of Tryz.func54 (by kernel_rfl) rfl
theorem ent_p1 : Ent 53 := ent_of Tryz.func53 (by kernel_rfl) rfl
set_option maxRecDepth 100000 in
set_option maxHeartbeats 3200000 in
theorem putjob1_any {x1 x2 : Nat} (hJ : JB w b true 0 0 ⟨#[]⟩ ⟨#[]⟩ .nilFunc 0 0 (.slice none 0 0) (.slice none 0 0) 0) (h1 : w.heap[x1]? = some (.cells #[.string nm] 9 (0, 0))) (h2 : w.heap[x2]? = some (.cells #[dv] 33 (0, 0))) (hd : LS t1 1 r w dv ds) (hne : pqn nm ds ≠ []) :
    Calls Tryz.prog 53 #[.pointer (some ⟨b, 0, none⟩), .pointer (some ⟨x1, 0, none⟩), .pointer (some ⟨x2, 0, none⟩)] w fun e w' => e = .returned (.tuple #[]) ∧ PO True b (FinR b (gC true []) gN noT noT) (pqn nm ds) [] (fun i => w.heap.size ≤ i) (fun i => i = b) w w' := by
  obtain ⟨U, hU⟩ : ∃ U, U = w.alloc (.cells #[.pointer (some ⟨b, 0, none⟩)] 48) := ⟨_, rfl⟩
  obtain ⟨i1, hi1⟩ : ∃ i1, i1 = w.heap.size := ⟨_, rfl⟩
  have hBU : Below w.heap.size w U := by rw [hU]; exact (Below.refl _ _).alloc (Nat.le_refl _) _
  have hJU := hJ.bel hBU
  have hszU : U.heap.size = i1 + 1 := by rw [hU, hi1]; simp
  have h6 : U.heap[i1]? = some (.cells #[.pointer (some ⟨b, 0, none⟩)] 48 (0, 0)) := by rw [hU, hi1]; exact heap_alloc_new w _
  have y6 : U.cell? ⟨i1, 0, none⟩ = some (.pointer (some ⟨b, 0, none⟩)) := by simp [World.cell?, h6]
  have h1U := (hBU.block x1 (lt_of_block h1)).trans h1
  have h2U := (hBU.block x2 (lt_of_block h2)).trans h2
  have y1 : U.cell? ⟨x1, 0, none⟩ = some (.string nm) := by simp [World.cell?, h1U]
  have y2 : U.cell? ⟨x2, 0, none⟩ = some dv := by simp [World.cell?, h2U]
  have hbl := hJ.lt
  have hnl := nst_le (ds.length : Int)
  have HN := hide (puts_any (nm := nm) (rest := []) (A0 := []) ent_p11 hJU (hd.bel hBU) (by simp [resI]) (kc_put h6 hJU.lt (pqn nm ds).length (by rw [pqn_len]; omega)) (by omega) (fun i hi => hi.elim) (fun i hi => by omega))
  have HNT : Hid (NT (fun i => i = i1) U) := fun i hi => by rw [hi]; exact ⟨_, _, h6, by simp [okT]⟩
  have HNE := hide hne
  have HU := hide hU
  have HI := hide hi1
  have HB := hide hBU
  have hmf : ∀ (fn : Fn) (first cap : Array Value) (w : World), (Instr.makeFunc fn first cap).run Tryz.prog w = .ok (.func fn first cap) w := fun _ _ _ _ => rfl
  obtain ⟨da, dc, hdv⟩ := hd.shp
  subst hdv
  clear hne hd hJU hszU h6 h1U h2U hBU hU hi1 hJ hbl h1 h2 hnl
  go_enter Tryz.func53, Tryz.ntmps53
  go_upto_region 1 with fail
  rw [← HU.out, ← HI.out]
  go_wp2_with fail
  refine HN.out.mono ?_
  rintro e w7 ⟨rfl, hQ⟩
  have HQ : Hid (PO True b (FinR b (gC true []) gN noT noT) (pqn nm ds) [] (fun i => w.heap.size ≤ i) (fun i => i = b) w w7) := by
    rw [List.append_nil] at hQ
    have h3 := (hQ.bel HB.out).less (e := fun i => w.heap.size ≤ i) (fun i hi => .inr (by have := HI.out; omega))
    exact (h3.weak (g' := True) fun _ => ⟨HNE.out, HNT.out⟩).more fun i hi => by
      rcases hi with h | h
      · exact h
      · exact h.elim
  clear hQ
  go_wp2
  go_end0
  exact ⟨rfl, HQ.out⟩
set_option maxRecDepth 100000 in
set_option maxHeartbeats 3200000 in
theorem putjob_any (hd : LS t1 1 r w dv ds) (hn : ds.length ≤ 9223372036854775807) :
    Calls Tryz.prog 27 #[.string nm, dv] w fun e w' => MK (fun b => FinR b (gC (okn (ds.length : Int)) []) gN noT noT) (pqn nm ds) w w' e := by
  obtain ⟨U, hU⟩ : ∃ U, U = (w.alloc (.cells #[.string nm] 9)).alloc (.cells #[dv] 33) := ⟨_, rfl⟩
  obtain ⟨X, hX⟩ : ∃ X, X = w.heap.size := ⟨_, rfl⟩
  have hBU : Below w.heap.size w U := by rw [hU]; exact ((Below.refl _ _).alloc (Nat.le_refl _) _).alloc (by simp) _
  have h1 : U.heap[X]? = some (.cells #[.string nm] 9 (0, 0)) := by rw [hU, hX, Below.heap_alloc _ _ _ (by simp)]; exact heap_alloc_new w _
  have h2 : U.heap[X + 1]? = some (.cells #[dv] 33 (0, 0)) := by
    rw [hU, hX]
    have := heap_alloc_new (w.alloc (.cells #[.string nm] 9)) (.cells #[dv] 33 (0, 0))
    simpa using this
  have y2 : U.cell? ⟨X + 1, 0, none⟩ = some dv := by simp [World.cell?, h2]
  have HN : Hid (Calls Tryz.prog 52 #[.int .i64 (ds.length : Int), .func (.func 53) #[] #[.pointer (some ⟨X, 0, none⟩), .pointer (some ⟨X + 1, 0, none⟩)]] U fun e w' => Hid (MK (fun b => FinR b (gC (okn (ds.length : Int)) []) gN noT noT) (pqn nm ds) w w' e)) := by
    have hmk : ∀ w' e, MK (fun b => FinR b (gC (okn (ds.length : Int)) []) gN noT noT) (pqn nm ds) U w' e → MK (fun b => FinR b (gC (okn (ds.length : Int)) []) gN noT noT) (pqn nm ds) w w' e := by
      rintro w' e ⟨b, P, rfl, hJJ, hB, hP, hNT⟩
      have hs := hBU.size
      exact ⟨b, P, rfl, hJJ, hBU.trans (hB.mono hs), fun i hi => by have := hP i hi; omega, hNT⟩
    by_cases hok : 1 ≤ ds.length ∧ ds.length ≤ 255
    · have e1 : okn (ds.length : Int) = true := decide_eq_true (by omega)
      rw [e1]
      rw [e1] at hmk
      refine (fstart_yes (Fin := fun b => FinR b (gC true []) gN noT noT) (L := pqn nm ds) ent_p1 (by omega) (by omega) ?_).mono fun e w' h => hmk w' e h
      intro b V hJ hB hb
      show Calls Tryz.prog 53 #[.pointer (some ⟨b, 0, none⟩), .pointer (some ⟨X, 0, none⟩), .pointer (some ⟨X + 1, 0, none⟩)] V _
      refine (putjob1_any hJ ((hB.block X (lt_of_block h1)).trans h1) ((hB.block (X + 1) (lt_of_block h2)).trans h2) ((hd.bel hBU).bel hB) (fun e => by have := pqn_len nm ds; rw [e, nst_nat _ hok.1 hok.2] at this; simp at this; omega)).mono ?_
      rintro e w' ⟨rfl, hP⟩
      exact ⟨rfl, hP.less fun i hi => .inr hi⟩
    · have e1 : okn (ds.length : Int) = false := decide_eq_false (by omega)
      rw [e1]
      rw [e1] at hmk
      have e2 : pqn nm ds = [] := by rw [pqn, if_neg hok]
      rw [e2] at hmk ⊢
      exact (fstart_no (C := gC false []) (N := gN) (I := noT) (T := noT) (by omega) rfl rfl rfl rfl).mono fun e w' h => hmk w' e h
  have HU := hide hU
  have HX := hide hX
  have hmf : ∀ (fn : Fn) (first cap : Array Value) (w : World), (Instr.makeFunc fn first cap).run Tryz.prog w = .ok (.func fn first cap) w := fun _ _ _ _ => rfl
  obtain ⟨da, dc, hdv⟩ := hd.shp
  subst hdv
  generalize ds.length = N at *
  clear hd h1 h2 hBU hU hX
  go_enter Tryz.func27, Tryz.ntmps27
  go_upto_region 1 with fail
  rw [← HU.out, ← HX.out]
  go_wp2_with fail
  refine HN.out.mono ?_
  rintro e w7 hQ
  obtain ⟨b, P, rfl, hR⟩ := hQ.out
  have HQ2 := hide hR
  clear hR
  go_wp2
  go_ret
  exact ⟨b, P, rfl, HQ2.out⟩
end
end Go.Proofs.YtiecoplfiahpnaaGreat
