/-
  Contracts of the program and of the statements (part 25 of 35).
-/
import Derived.Test.YtagijldedngcoaaGreatDoorOc24

namespace Go.Proofs.YtagijldedngcoaaGreatDoor
open Go.RowKit Go.Lib Go.Maps
section
variable {F : FuncId} {fi ca : Array Value} {b : Nat} {α : Type} {Fin : α → List RR → (Nat → Prop) → World → Prop} {N : Nat} {l : List QT} {rest : List RR → PN α} {pl : PN α} {A0 : List RR} {e m r r0 : Nat → Prop} {w w0 w2 : World} {v : Value} {nm : ByteArray}
def KC {α : Type} (F : FuncId) (fi ca : Array Value) (b : Nat) (Fin : α → List RR → (Nat → Prop) → World → Prop) (n : Nat) (rest : List RR → PN α) (A0 : List RR) (e m : Nat → Prop) (w0 : World) : Prop :=
  ∀ (W : World) (cv : Value) (A : List RR) (r : Nat → Prop), Sm e w0 W → Zq.Sh.Laid W → JB W b true 0 0 ⟨#[]⟩ ⟨#[]⟩ .nilFunc 0 0 (.slice none 0 0) (.slice none 0 0) ((A0.length + n : Nat) : Int) → LS c1 1 r W cv (A.map (·.c)) → A.length = n → (resI (A0 ++ A)).length ≤ 1000000000000 → (∀ i, r i → w0.heap.size ≤ i ∧ i < W.heap.size) →
    Calls Tryz.prog F (fi.push cv ++ ca) W fun er w' => er = .returned (.tuple #[]) ∧ Gs (fun i => i = b ∨ m i) W w' ∧ RDY b (fun w2 => ∃ P', JJ b Fin (rest A) (A0 ++ A) P' w2 ∧ Gs (fun i => i = b ∨ m i) W w2 ∧ ∀ i, P' i → i = b ∨ e i ∨ r i ∨ W.heap.size ≤ i) w'
theorem KO.bel (h : KO F fi ca b Fin N rest A0 e m w0) (hb : Below w0.heap.size w0 w) : KO F fi ca b Fin N rest A0 e m w := by
  intro W av X r hS hLw hJ hL hN hX hI hsm hr
  have hs := hb.size
  exact h W av X r (((Sm.refl e w0).bel hb).trans hS) hLw hJ hL hN hX hI hsm fun i hi => ⟨by have := (hr i hi).1; omega, (hr i hi).2⟩
theorem ent_bc1 : Ent 208 := ent_of Tryz.func208 (by kernel_rfl) rfl
theorem ko_codes (hent : Ent F) (HK : KC F fi ca b Fin N rest A0 e m w) (hN : N ≤ 1000000) (hb : Below w.heap.size w w2) (heb : b < w.heap.size) (hme : ∀ i, m i → e i) (hel : ∀ i, e i → i < w.heap.size) :
    KO 208 #[] #[.pointer (some ⟨w2.heap.size, 0, none⟩)] b Fin N rest A0 (fun i => e i ∨ i = w2.heap.size) m (w2.alloc (.cells #[.func (.func F) fi ca] 194)) := by
  intro W av X r hS hLw hJ hL hNm hX hI _ hr
  have hs := hb.size
  have hc : W.heap[w2.heap.size]? = some (.cells #[.func (.func F) fi ca] 194 (0, 0)) := (hS.2 w2.heap.size (.inr rfl) (by simp)).trans (heap_alloc_new w2 _)
  have hWs := hS.1
  have hb2 : Below w.heap.size w (w2.alloc (.cells #[.func (.func F) fi ca] 194)) := hb.alloc hs _
  have hSe : Sm e w W := ((Sm.refl e w).bel hb2).trans (hS.mono fun i hi => .inl hi)
  show Calls Tryz.prog 208 #[av, .pointer (some ⟨w2.heap.size, 0, none⟩)] W _
  refine byCodes1_any (p := fun i => i = b ∨ m i) hent hc hL (fun x hx => by obtain ⟨a, c, e⟩ := (hNm x hx).shp; exact ⟨a, _, c, e⟩) (by omega) ?_ ?_
  · rintro (h | h)
    · omega
    · have := hel _ (hme _ h); omega
  intro W1 cv hO hB
  have hOl := hO.lt
  have hBs := hB.size
  have e1 : X.map (·.1.c) = (X.map (·.1)).map (·.c) := by rw [List.map_map]; rfl
  refine (HK W1 cv (X.map (·.1)) (fun i => cv.ownBlock = some i) (hSe.bel hB) (hLw.below hB hLw.size) (hJ.bel hB) (by rw [← e1]; exact hO.ls c1_len fun i hi => hi) (by simpa using hX) hI (fun i hi => ⟨?_, (hOl i hi).2⟩)).mono ?_
  · have := (hOl i hi).1; simp at hWs; omega
  rintro er w' ⟨rfl, hG, hR⟩
  refine ⟨rfl, hG, hR.mono ?_⟩
  rintro w3 ⟨P', h1, h2, h3⟩
  refine ⟨P', h1, (Gs.of_below _ hB).trans h2, fun i hi => ?_⟩
  rcases h3 i hi with h | h | h | h
  · exact .inl h
  · exact .inr (.inl (.inl h))
  · exact .inr (.inr (.inr (hOl i h).1))
  · exact .inr (.inr (.inr (by omega)))
def PO {α : Type} (b : Nat) (Fin : α → List RR → (Nat → Prop) → World → Prop) (pl : PN α) (A0 : List RR) (e p : Nat → Prop) (w w' : World) : Prop :=
  Gs p w w' ∧ RDY b (fun w2 => ∃ P', JJ b Fin pl A0 P' w2 ∧ Gs p w w2 ∧ (∀ i, P' i → i = b ∨ e i ∨ w.heap.size ≤ i)) w'
theorem PO.bel {p : Nat → Prop} {w1 w' : World} (h : PO b Fin pl A0 e p w1 w') (hb : Below w.heap.size w w1) : PO b Fin pl A0 e p w w' := by
  have hs := hb.size
  refine ⟨(Gs.of_below _ hb).trans h.1, h.2.mono ?_⟩
  rintro w2 ⟨P', h1, h2, h3⟩
  refine ⟨P', h1, (Gs.of_below _ hb).trans h2, fun i hi => ?_⟩
  rcases h3 i hi with h | h | h
  · exact .inl h
  · exact .inr (.inl h)
  · exact .inr (.inr (by omega))
theorem PO.less {p : Nat → Prop} {w' : World} {e' : Nat → Prop} (h : PO b Fin pl A0 e' p w w') (he : ∀ i, e' i → e i ∨ w.heap.size ≤ i) : PO b Fin pl A0 e p w w' := by
  refine ⟨h.1, h.2.mono ?_⟩
  rintro w2 ⟨P', h1, h2, h3⟩
  refine ⟨P', h1, h2, fun i hi => ?_⟩
  rcases h3 i hi with h | h | h
  · exact .inl h
  · rcases he i h with h | h
    · exact .inr (.inl h)
    · exact .inr (.inr h)
  · exact .inr (.inr h)
theorem PO.more {p p' : Nat → Prop} {w' : World} (h : PO b Fin pl A0 e p w w') (hp : ∀ i, p i → p' i) : PO b Fin pl A0 e p' w w' := by
  refine ⟨h.1.mono fun i _ hi => hp i hi, h.2.mono ?_⟩
  rintro w2 ⟨P', h1, h2, h3⟩
  exact ⟨P', h1, h2.mono fun i _ hi => hp i hi, h3⟩
theorem laid_jb {op : Bool} {st k c NN sp : Int} {n d : ByteArray} {go ids tx : Value} (hL : Zq.Sh.Laid w) (hJ : JB w b op st k n d go c NN ids tx sp) : 2 ≤ b := by
  obtain ⟨⟨t, fr, h1⟩, ⟨t', fr', h2⟩⟩ := hL
  have hJ' : w.heap[b]? = _ := hJ
  by_cases e1 : b = 1
  · rw [← e1, hJ'] at h1
    injection h1 with h1
    injection h1 with h1
    have := congrArg Array.size h1
    simp [Zq.Sh.Ks] at this
  by_cases e2 : b = 0
  · rw [← e2, hJ'] at h2
    injection h2 with h2
    injection h2 with h2
    have := congrArg Array.size h2
    simp [Zq.Sh.first, Zq.Sh.V8.list] at this
  omega
theorem asks (hent : Ent F) (hLw : Zq.Sh.Laid w) (hJ : JB w b true 0 0 ⟨#[]⟩ ⟨#[]⟩ .nilFunc 0 0 (.slice none 0 0) (.slice none 0 0) (A0.length : Int)) (hv : LS q4 4 r0 w v l) (hz : l = [] → v = .slice none 0 0) (hl : l.length ≤ 1000000) (hI0 : (resI A0).length ≤ 1000000000000) (HK : KO F fi ca b Fin l.length rest A0 e m w) (heb : ¬ e b) (hme : ∀ i, m i → e i) (hel : ∀ i, e i → i < w.heap.size) :
    Calls Tryz.prog 162 #[.pointer (some ⟨b, 0, none⟩), v, .func (.func F) fi ca] w fun er w' => er = .returned (.tuple #[]) ∧ PO b Fin (sqP l [] rest) A0 e (fun i => i = b ∨ m i) w w' := by
  rcases Nat.eq_zero_or_pos l.length with h0 | h0
  · have hl0 := List.length_eq_zero_iff.1 h0
    subst hl0
    rw [hz rfl]
    refine ask_no hent ?_
    refine (HK w (.slice none 0 0) [] (fun _ => False) (Sm.refl _ _) hLw (by simpa using hJ) ⟨none, 0, rfl, fun _ => rfl, .inl rfl⟩ (fun x hx => by simp at hx) rfl (by rw [List.map_nil, List.append_nil]; exact hI0) (fun x hx => by simp at hx) (fun i hi => hi.elim)).mono ?_
    rintro er w' ⟨rfl, hG, hR⟩
    refine ⟨rfl, hG, hR.mono ?_⟩
    rintro w2 ⟨P', h1, h2, h3⟩
    rw [List.map_nil, List.append_nil] at h1
    refine ⟨P', h1, h2, fun i hi => ?_⟩
    rcases h3 i hi with h | h | h | h
    · exact .inl h
    · exact .inr (.inl h)
    · exact h.elim
    · exact .inr (.inr h)
  · obtain ⟨a, c, rfl⟩ := hv.shp
    refine ask_yes h0 ?_
    refine (all_jj (rest := rest) hent (laid_jb hLw hJ) hLw.size hJ hv h0 hl HK heb hme hel).mono ?_
    rintro er w' ⟨rfl, h1, h2⟩
    refine ⟨rfl, PO.more (p := fun i => i = b) ⟨h1, h2.mono ?_⟩ fun i hi => .inl hi⟩
    rintro w2 ⟨P', k1, k2, k3⟩
    exact ⟨P', k1, k2, k3⟩
def nst (n : Int) : Nat := if 1 ≤ n ∧ n ≤ 255 then n.toNat else 0
theorem nst_le (n : Int) : nst n ≤ 255 := by rw [nst]; split <;> omega
theorem nst_nat (n : Nat) (h1 : 1 ≤ n) (h2 : n ≤ 255) : nst (n : Int) = n := by rw [nst, if_pos ⟨by omega, by omega⟩]; omega
theorem nst_no (n : Int) (h : n < 1 ∨ 255 < n) : nst n = 0 := by rw [nst, if_neg (by omega)]
theorem toAll_any (n st k : Int) (d : ByteArray) : Calls Tryz.prog 163 #[.int .i64 n, .agg #[.int .i64 st, .int .i64 k, .string nm, .string d]] w fun e w' => ∃ v, e = .returned v ∧ LS q4 4 (fun i => w.heap.size ≤ i) w' v (aq k nm d (nst n)) ∧ (aq k nm d (nst n) = [] → v = .slice none 0 0) ∧ Below w.heap.size w w' := by
  by_cases h : 1 ≤ n ∧ n ≤ 255
  · obtain ⟨N, rfl⟩ : ∃ N : Nat, n = (N : Int) := ⟨n.toNat, by omega⟩
    refine (toAll_yes (n := N) (by omega) (by omega)).mono ?_
    rintro e w' ⟨g, rfl, hR, hg, hB⟩
    rw [nst_nat N (by omega) (by omega)]
    have := hR.gs (r := fun i => w.heap.size ≤ i) hg N
    rw [aq_len] at this
    exact ⟨_, rfl, this, fun e => by have := aq_len k nm d N; rw [e] at this; simp at this; omega, hB⟩
  · refine (toAll_no (by omega)).mono ?_
    rintro e w' ⟨rfl, hB⟩
    rw [nst_no n (by omega)]
    exact ⟨_, rfl, ⟨none, 0, rfl, fun _ => rfl, .inl rfl⟩, fun _ => rfl, hB⟩
set_option maxRecDepth 100000 in
set_option maxHeartbeats 3200000 in
theorem gets_any (hent : Ent F) (hLw : Zq.Sh.Laid w) (hJ : JB w b true 0 0 ⟨#[]⟩ ⟨#[]⟩ .nilFunc 0 0 (.slice none 0 0) (.slice none 0 0) (A0.length : Int)) (n : Int) (hI0 : (resI A0).length ≤ 1000000000000) (HK : KO F fi ca b Fin (nst n) rest A0 e m w) (heb : ¬ e b) (hme : ∀ i, m i → e i) (hel : ∀ i, e i → i < w.heap.size) :
    Calls Tryz.prog 152 #[.pointer (some ⟨b, 0, none⟩), .int .i64 n, .string nm, .func (.func F) fi ca] w fun er w' => er = .returned (.tuple #[]) ∧ PO b Fin (sqP (aq 2 nm ⟨#[]⟩ (nst n)) [] rest) A0 e (fun i => i = b ∨ m i) w w' := by
  have HT := hide (toAll_any (nm := nm) (w := w) n 0 2 ⟨#[]⟩)
  have HA : Hid (∀ w1 v, LS q4 4 (fun i => w.heap.size ≤ i) w1 v (aq 2 nm ⟨#[]⟩ (nst n)) → (aq 2 nm ⟨#[]⟩ (nst n) = [] → v = .slice none 0 0) → Below w.heap.size w w1 → Calls Tryz.prog 162 #[.pointer (some ⟨b, 0, none⟩), v, .func (.func F) fi ca] w1 fun er w' => er = .returned (.tuple #[]) ∧ PO b Fin (sqP (aq 2 nm ⟨#[]⟩ (nst n)) [] rest) A0 e (fun i => i = b ∨ m i) w w') := fun w1 v h1 h2 hB => by
    have hs := hB.size
    have hnl := nst_le n
    refine (asks (rest := rest) hent (hLw.below hB hLw.size) (hJ.bel hB) h1 h2 (by rw [aq_len]; omega) hI0 (by rw [aq_len]; exact HK.bel hB) heb hme fun i hi => by have := hel i hi; omega).mono ?_
    rintro er w' ⟨rfl, hP⟩
    exact ⟨rfl, hP.bel hB⟩
  clear HK hJ hent hI0 heb hme hel hLw
  go_enter Tryz.func152, Tryz.ntmps152
  go_wp2_with fail
  refine HT.out.mono ?_
  rintro er w1 ⟨v, rfl, h1, h2, hB⟩
  have HA1 := hide (HA.out w1 v h1 h2 hB)
  clear h1 h2 hB
  go_wp2_with fail
  refine HA1.out.mono ?_
  rintro er w2 ⟨rfl, hP⟩
  have HP := hide hP
  clear hP
  go_wp2
  go_end0
  exact ⟨rfl, HP.out⟩
theorem asksC (hent : Ent F) (hLw : Zq.Sh.Laid w) (hJ : JB w b true 0 0 ⟨#[]⟩ ⟨#[]⟩ .nilFunc 0 0 (.slice none 0 0) (.slice none 0 0) (A0.length : Int)) (hB : Below w.heap.size w w2) (hv : LS q4 4 r0 w2 v l) (hz : l = [] → v = .slice none 0 0) (hl : l.length ≤ 1000000) (hI0 : (resI A0).length ≤ 1000000000000) (HK : KC F fi ca b Fin l.length rest A0 e m w) (heb : ¬ e b) (hme : ∀ i, m i → e i) (hel : ∀ i, e i → i < w.heap.size) :
    Calls Tryz.prog 162 #[.pointer (some ⟨b, 0, none⟩), v, .func (.func 208) #[] #[.pointer (some ⟨w2.heap.size, 0, none⟩)]] (w2.alloc (.cells #[.func (.func F) fi ca] 194)) fun er w' => er = .returned (.tuple #[]) ∧ PO b Fin (sqP l [] rest) A0 e (fun i => i = b ∨ m i) w w' := by
  have hs := hB.size
  have hbl := hJ.lt
  have hB2 : Below w2.heap.size w2 (w2.alloc (.cells #[.func (.func F) fi ca] 194)) := (Below.refl _ _).alloc (Nat.le_refl _) _
  refine (asks (rest := rest) ent_bc1 ((hLw.below hB hLw.size).below hB2 (Nat.le_trans hLw.size hB.size)) ((hJ.bel hB).bel hB2) (hv.bel hB2) hz hl hI0 (ko_codes hent HK hl hB hbl hme hel) ?_ (fun i hi => .inl (hme i hi)) ?_).mono ?_
  · rintro (h | h)
    · exact heb h
    · omega
  · rintro i (h | h)
    · have := hel i h; simp; omega
    · simp; omega
  · rintro er w' ⟨rfl, hP⟩
    refine ⟨rfl, (hP.bel (hB.trans (hB2.mono hs))).less ?_⟩
    rintro i (h | h)
    · exact .inl h
    · exact .inr (by omega)
set_option maxRecDepth 100000 in
set_option maxHeartbeats 3200000 in
theorem dels_any (hent : Ent F) (hLw : Zq.Sh.Laid w) (hJ : JB w b true 0 0 ⟨#[]⟩ ⟨#[]⟩ .nilFunc 0 0 (.slice none 0 0) (.slice none 0 0) (A0.length : Int)) (n : Int) (hI0 : (resI A0).length ≤ 1000000000000) (HK : KC F fi ca b Fin (nst n) rest A0 e m w) (heb : ¬ e b) (hme : ∀ i, m i → e i) (hel : ∀ i, e i → i < w.heap.size) :
    Calls Tryz.prog 116 #[.pointer (some ⟨b, 0, none⟩), .int .i64 n, .string nm, .func (.func F) fi ca] w fun er w' => er = .returned (.tuple #[]) ∧ PO b Fin (sqP (aq 4 nm ⟨#[]⟩ (nst n)) [] rest) A0 e (fun i => i = b ∨ m i) w w' := by
  have HT := hide (toAll_any (nm := nm) (w := w) n 0 4 ⟨#[]⟩)
  have HA : Hid (∀ w1 v, LS q4 4 (fun i => w.heap.size ≤ i) w1 v (aq 4 nm ⟨#[]⟩ (nst n)) → (aq 4 nm ⟨#[]⟩ (nst n) = [] → v = .slice none 0 0) → Below w.heap.size w w1 → Calls Tryz.prog 162 #[.pointer (some ⟨b, 0, none⟩), v, .func (.func 208) #[] #[.pointer (some ⟨w1.heap.size, 0, none⟩)]] (w1.alloc (.cells #[.func (.func F) fi ca] 194)) fun er w' => er = .returned (.tuple #[]) ∧ PO b Fin (sqP (aq 4 nm ⟨#[]⟩ (nst n)) [] rest) A0 e (fun i => i = b ∨ m i) w w') := fun w1 v h1 h2 hB => by
    have hnl := nst_le n
    exact asksC (rest := rest) hent hLw hJ hB h1 h2 (by rw [aq_len]; omega) hI0 (by rw [aq_len]; exact HK) heb hme hel
  have HBC := hide (fun w => byCodes_any (fn := .func F) (fi := fi) (ca := ca) (w := w))
  clear HK hJ hent hI0 heb hme hel hLw
  go_enter Tryz.func116, Tryz.ntmps116
  go_wp2_with fail
  refine HT.out.mono ?_
  rintro er w1 ⟨v, rfl, h1, h2, hB⟩
  have HA1 := hide (HA.out w1 v h1 h2 hB)
  clear h1 h2 hB
  go_wp2_with fail
  refine (HBC.out w1).mono ?_
  rintro er w3 ⟨rfl, rfl⟩
  go_wp2_with fail
  refine HA1.out.mono ?_
  rintro er w2 ⟨rfl, hP⟩
  have HP := hide hP
  clear hP
  go_wp2
  go_end0
  exact ⟨rfl, HP.out⟩
end
end Go.Proofs.YtagijldedngcoaaGreatDoor

namespace Go.Proofs.YtagijldedngcoaaGreatDoor
open Go.RowKit Go.Lib Go.Maps
def pqn (nm : ByteArray) (ds : List ByteArray) : List QT := if 1 ≤ ds.length ∧ ds.length ≤ 255 then pq nm ds else []
theorem pqn_len (nm : ByteArray) (ds : List ByteArray) : (pqn nm ds).length = nst (ds.length : Int) := by
  rw [pqn]
  split
  · rename_i h; rw [pq_len, nst_nat _ h.1 h.2]
  · rename_i h; rw [nst_no _ (by omega)]; rfl
theorem aq_get {k : Int} {nm d : ByteArray} {n j : Nat} (h : j < n) : (aq k nm d n)[j]? = some ⟨(j : Int), k, nm, d⟩ := by
  rw [aq, List.getElem?_map, List.getElem?_range h]; rfl
theorem pq_at {nm : ByteArray} {ds : List ByteArray} {N j : Nat} (hN : N = ds.length) (h : j < N) : (pq nm (ds.take j) ++ (aq 1 nm ⟨#[]⟩ N).drop j)[j]? = some ⟨(j : Int), 1, nm, ⟨#[]⟩⟩ := by
  have hl : (pq nm (ds.take j)).length = j := by rw [pq_len, List.length_take]; omega
  rw [List.getElem?_append_right (by omega), hl, Nat.sub_self, List.getElem?_drop, Nat.add_zero, aq_get h]
theorem pq_set {nm d : ByteArray} {ds : List ByteArray} {N j : Nat} (hN : N = ds.length) (h : j < N) (hd : ds[j]? = some d) : (pq nm (ds.take j) ++ (aq 1 nm ⟨#[]⟩ N).drop j).set j ⟨(j : Int), 1, nm, d⟩ = pq nm (ds.take (j + 1)) ++ (aq 1 nm ⟨#[]⟩ N).drop (j + 1) := by
  have hl : (pq nm (ds.take j)).length = j := by rw [pq_len, List.length_take]; omega
  have e : (aq 1 nm ⟨#[]⟩ N).drop j = ⟨(j : Int), 1, nm, ⟨#[]⟩⟩ :: (aq 1 nm ⟨#[]⟩ N).drop (j + 1) := drop_at (aq_get h)
  have hl2 : (ds.take j).length = j := by rw [List.length_take]; omega
  rw [List.set_append_right _ _ (by omega), hl, Nat.sub_self, e, List.set_cons_zero, take_snoc_at hd, pq_snoc, hl2, List.append_assoc]
  rfl
section
variable {F : FuncId} {fi ca : Array Value} {b : Nat} {α : Type} {Fin : α → List RR → (Nat → Prop) → World → Prop} {rest : List RR → PN α} {A0 : List RR} {e m r r0 : Nat → Prop} {w w0 w2 : World} {dv : Value} {nm : ByteArray} {ds : List ByteArray}
set_option maxRecDepth 100000 in
set_option maxHeartbeats 3200000 in
theorem puts_no (hent : Ent F) (hLw : Zq.Sh.Laid w) (hJ : JB w b true 0 0 ⟨#[]⟩ ⟨#[]⟩ .nilFunc 0 0 (.slice none 0 0) (.slice none 0 0) (A0.length : Int)) (hd : LS t1 1 r w dv ds) (hbad : ¬ (1 ≤ ds.length ∧ ds.length ≤ 255)) (hI0 : (resI A0).length ≤ 1000000000000) (HK : KC F fi ca b Fin 0 rest A0 e m w) (heb : ¬ e b) (hme : ∀ i, m i → e i) (hel : ∀ i, e i → i < w.heap.size) :
    Calls Tryz.prog 158 #[.pointer (some ⟨b, 0, none⟩), .string nm, dv, .func (.func F) fi ca] w fun er w' => er = .returned (.tuple #[]) ∧ PO b Fin (sqP [] [] rest) A0 e (fun i => i = b ∨ m i) w w' := by
  obtain ⟨da, dc, rfl⟩ := hd.shp
  have HT := hide (toAll_no (nm := nm) (w := w) (n := (ds.length : Int)) (st := 0) (k := 1) (d := ⟨#[]⟩) (by omega))
  have HA : Hid (∀ w1, Below w.heap.size w w1 → Calls Tryz.prog 162 #[.pointer (some ⟨b, 0, none⟩), .slice none 0 0, .func (.func 208) #[] #[.pointer (some ⟨w1.heap.size, 0, none⟩)]] (w1.alloc (.cells #[.func (.func F) fi ca] 194)) fun er w' => er = .returned (.tuple #[]) ∧ PO b Fin (sqP [] [] rest) A0 e (fun i => i = b ∨ m i) w w') := fun w1 hB => by
    refine (asksC (rest := rest) (l := []) (r0 := fun _ => True) hent hLw hJ hB ⟨none, 0, rfl, fun _ => rfl, .inl rfl⟩ (fun _ => rfl) (by simp) hI0 HK heb hme hel).mono ?_
    rintro er w' ⟨rfl, hP⟩
    exact ⟨rfl, hP⟩
  have HBC := hide (fun w => byCodes_any (fn := .func F) (fi := fi) (ca := ca) (w := w))
  generalize ds.length = N at *
  clear HK hJ hent hI0 heb hme hel hd hbad hLw
  go_enter Tryz.func158, Tryz.ntmps158
  go_wp2_with fail
  refine HT.out.mono ?_
  rintro er w1 ⟨rfl, hB⟩
  have HA1 := hide (HA.out w1 hB)
  clear hB
  go_wp2
  go_loopw [17] (fun i wr => i = .int .i64 0 ∧ wr = w1) (fun _ _ => 0)
  case atStart => exact ⟨rfl, rfl⟩
  case round =>
    obtain ⟨rfl, rfl⟩ := hrel
    go_wp2_with fail
    refine (HBC.out wr).mono ?_
    rintro er w3 ⟨rfl, rfl⟩
    go_wp2_with fail
    refine HA1.out.mono ?_
    rintro er w2 ⟨rfl, hP⟩
    have HP := hide hP
    clear hP
    go_wp2
    go_end0
    exact ⟨rfl, HP.out⟩
set_option maxRecDepth 100000 in
set_option maxHeartbeats 3200000 in
theorem puts_yes (hent : Ent F) (hLw : Zq.Sh.Laid w) (hJ : JB w b true 0 0 ⟨#[]⟩ ⟨#[]⟩ .nilFunc 0 0 (.slice none 0 0) (.slice none 0 0) (A0.length : Int)) (hd : LS t1 1 r w dv ds) (h1 : 1 ≤ ds.length) (h2 : ds.length ≤ 255) (hI0 : (resI A0).length ≤ 1000000000000) (HK : KC F fi ca b Fin ds.length rest A0 e m w) (heb : ¬ e b) (hme : ∀ i, m i → e i) (hel : ∀ i, e i → i < w.heap.size) :
    Calls Tryz.prog 158 #[.pointer (some ⟨b, 0, none⟩), .string nm, dv, .func (.func F) fi ca] w fun er w' => er = .returned (.tuple #[]) ∧ PO b Fin (sqP (pq nm ds) [] rest) A0 e (fun i => i = b ∨ m i) w w' := by
  have HC : Hid (∀ j d, ds[j]? = some d → ∀ wr, Below w.heap.size w wr → ∃ g o c, dv = .slice (some ⟨g, o, none⟩) ds.length c ∧ wr.cell? ⟨g, o + j, none⟩ = some (.string d)) := fun j d hj wr hb => by
    obtain ⟨a, c, e⟩ := (hd.bel hb).shp
    have h3 := hd.bel hb
    rw [e] at h3
    obtain ⟨g, o, ha, _, h4⟩ := h3.at1 hj rfl
    exact ⟨g, o, c, by rw [e, ha], h4⟩
  have HT := hide (toAll_yes (nm := nm) (w := w) (n := ds.length) (st := 0) (k := 1) (d := ⟨#[]⟩) h1 h2)
  have HA : Hid (∀ w1 g, RQL w1 g (pq nm ds) → Below w.heap.size w w1 → Calls Tryz.prog 162 #[.pointer (some ⟨b, 0, none⟩), .slice (some ⟨g, 0, none⟩) ds.length ds.length, .func (.func 208) #[] #[.pointer (some ⟨w1.heap.size, 0, none⟩)]] (w1.alloc (.cells #[.func (.func F) fi ca] 194)) fun er w' => er = .returned (.tuple #[]) ∧ PO b Fin (sqP (pq nm ds) [] rest) A0 e (fun i => i = b ∨ m i) w w') := fun w1 g hR hB => by
    have h3 := hR.gs (r := fun _ => True) trivial ds.length
    rw [pq_len] at h3
    have hne : pq nm ds ≠ [] := fun e => by have := pq_len nm ds; rw [e] at this; simp at this; omega
    refine (asksC (rest := rest) hent hLw hJ hB h3 (fun e => absurd e hne) (by rw [pq_len]; omega) hI0 (by rw [pq_len]; exact HK) heb hme hel).mono ?_
    rintro er w' ⟨rfl, hP⟩
    exact ⟨rfl, hP⟩
  have HBC := hide (fun w => byCodes_any (fn := .func F) (fi := fi) (ca := ca) (w := w))
  obtain ⟨da, dc, hdv⟩ := hd.shp
  subst hdv
  obtain ⟨N, hN⟩ : ∃ N, N = ds.length := ⟨_, rfl⟩
  rw [← hN] at h1 h2 HA HC HT ⊢
  have HN := hide hN
  have Hh := hide (And.intro h1 h2)
  clear HK hJ hent hI0 heb hme hel hd hN h1 h2 hLw
  go_enter Tryz.func158, Tryz.ntmps158
  go_wp2_with fail
  refine HT.out.mono ?_
  rintro er w1 ⟨g, rfl, hR1, hg, hB1⟩
  have H0 : Hid (RQL w1 g (pq nm (ds.take 0) ++ (aq 1 nm ⟨#[]⟩ N).drop 0) ∧ Below w.heap.size w w1) := ⟨by simpa [pq] using hR1, hB1⟩
  have Hg := hide hg
  clear hR1 hg hB1
  go_wp2
  go_loopw [17] (fun i wr => ∃ j : Nat, j ≤ N ∧ i = .int .i64 j ∧ RQL wr g (pq nm (ds.take j) ++ (aq 1 nm ⟨#[]⟩ N).drop j) ∧ Below w.heap.size w wr) (fun i _ => N - (intOf i).toNat)
  case atStart => exact ⟨0, Nat.zero_le _, rfl, H0.out⟩
  case round =>
    obtain ⟨j, hj, rfl, hR, hB⟩ := hrel
    have h2 := Hh.out.2
    by_cases hlt : j < N
    · have b1 : (j : Int) < (N : Int) := by omega
      have b0 : (0 : Int) ≤ (j : Int) := by omega
      obtain ⟨d, hd⟩ : ∃ d, ds[j]? = some d := ⟨_, List.getElem?_eq_getElem (by rw [← HN.out]; exact hlt)⟩
      obtain ⟨dg, d0, dc', hdv, z0⟩ := HC.out j d hd wr hB
      cases hdv
      have hq := pq_at (nm := nm) HN.out hlt
      have z3 : wr.cell? ⟨g, j * 4 + 3, none⟩ = some (.string ⟨#[]⟩) := hR.cell hq (by decide) rfl
      have f3 := hR.free (j * 4 + 3)
      have hR2 := hR.set hq 3 (by decide) (.string d) ⟨(j : Int), 1, nm, d⟩ rfl
      rw [pq_set HN.out hlt hd] at hR2
      have HE : Hid (RQL (wr.setCell ⟨g, j * 4 + 3, none⟩ (.string d)) g (pq nm (ds.take (j + 1)) ++ (aq 1 nm ⟨#[]⟩ N).drop (j + 1)) ∧ Below w.heap.size w (wr.setCell ⟨g, j * 4 + 3, none⟩ (.string d))) := by
        have hgl := Hg.out
        exact ⟨hR2, ((Gs.refl (fun i => i = g) wr).set1 _ _).below hB hB.size (fun i e => by omega)⟩
      clear hR hB hq hR2 hd
      go_wp2
      exact ⟨⟨j + 1, by omega, by go_num, HE.out⟩, by simp [intOf]; omega⟩
    · obtain rfl : j = N := by omega
      have e1 : ds.take j = ds := List.take_of_length_le (by have := HN.out; omega)
      have e2 : (aq 1 nm ⟨#[]⟩ j).drop j = [] := List.drop_eq_nil_of_le (by rw [aq_len]; omega)
      rw [e1, e2, List.append_nil] at hR
      have HA1 := hide (HA.out wr g hR hB)
      clear hR hB e1 e2
      go_wp2_with fail
      refine (HBC.out wr).mono ?_
      rintro er w3 ⟨rfl, rfl⟩
      go_wp2_with fail
      refine HA1.out.mono ?_
      rintro er w2 ⟨rfl, hP⟩
      have HP := hide hP
      clear hP
      go_wp2
      go_end0
      exact ⟨rfl, HP.out⟩
theorem puts_any (hent : Ent F) (hLw : Zq.Sh.Laid w) (hJ : JB w b true 0 0 ⟨#[]⟩ ⟨#[]⟩ .nilFunc 0 0 (.slice none 0 0) (.slice none 0 0) (A0.length : Int)) (hd : LS t1 1 r w dv ds) (hI0 : (resI A0).length ≤ 1000000000000) (HK : KC F fi ca b Fin (pqn nm ds).length rest A0 e m w) (heb : ¬ e b) (hme : ∀ i, m i → e i) (hel : ∀ i, e i → i < w.heap.size) :
    Calls Tryz.prog 158 #[.pointer (some ⟨b, 0, none⟩), .string nm, dv, .func (.func F) fi ca] w fun er w' => er = .returned (.tuple #[]) ∧ PO b Fin (sqP (pqn nm ds) [] rest) A0 e (fun i => i = b ∨ m i) w w' := by
  rw [pqn_len] at HK
  rw [pqn]
  by_cases h : 1 ≤ ds.length ∧ ds.length ≤ 255
  · rw [if_pos h]
    rw [nst_nat _ h.1 h.2] at HK
    refine (puts_yes hent hLw hJ hd h.1 h.2 hI0 HK heb hme hel).mono ?_
    rintro er w' ⟨rfl, hP⟩
    exact ⟨rfl, hP⟩
  · rw [if_neg h]
    rw [nst_no _ (by omega)] at HK
    refine (puts_no hent hLw hJ hd h hI0 HK heb hme hel).mono ?_
    rintro er w' ⟨rfl, hP⟩
    exact ⟨rfl, hP⟩
end
end Go.Proofs.YtagijldedngcoaaGreatDoor

namespace Go.Proofs.YtagijldedngcoaaGreatDoor
open Go.RowKit Go.Lib Go.Maps
structure RS where
  c : Int
  n : Int
  ids : List ByteArray
  tx : List ByteArray
def FinR (b : Nat) (x : RS) (A : List RR) (P : Nat → Prop) (w : World) : Prop :=
  ∃ ids tx, JB w b false 0 0 ⟨#[]⟩ ⟨#[]⟩ .nilFunc x.c x.n ids tx (A.length : Int) ∧ LS t1 1 (fun i => P i ∧ i ≠ b) w ids x.ids ∧ LS t1 1 (fun i => P i ∧ i ≠ b) w tx x.tx
theorem LS.nl {α : Type} {f : α → List Value} {k : Nat} (r : Nat → Prop) (w : World) : LS f k r w (.slice none 0 0) [] := ⟨none, 0, rfl, fun _ => rfl, .inl rfl⟩
section
variable {F : FuncId} {fi ca : Array Value} {b i1 : Nat} {x : RS} {A : List RR} {e m r r' p : Nat → Prop} {w w' W : World} {cv dv : Value} {st k c NN s : Int} {n d nm : ByteArray} {go ids tx : Value} {cs ks : List Int} {ds : List ByteArray}
theorem fkR (b : Nat) : FK b (FinR b) := by
  refine ⟨?_, ?_⟩
  · rintro x A P p w w' ⟨ids, tx, hJ, h1, h2⟩ hg hb hp
    exact ⟨ids, tx, hJ.gs hg (hp b hb), h1.gs hg fun i hi => hp i hi.1, h2.gs hg fun i hi => hp i hi.1⟩
  · rintro x A P w ⟨ids, tx, hJ, _⟩
    exact ⟨_, _, ids, tx, hJ⟩
theorem fin_rdy (hJ : JB w' b false 0 0 ⟨#[]⟩ ⟨#[]⟩ .nilFunc x.c x.n ids tx (A.length : Int)) (h1 : TS W.heap.size ids x.ids w') (h2 : TS W.heap.size tx x.tx w') (hG : Gs (fun i => i = b) W w') (hb : b < W.heap.size) :
    Gs (fun i => i = b ∨ m i) W w' ∧ RDY b (fun w2 => ∃ P', JJ b (FinR b) (.fin x) A P' w2 ∧ Gs (fun i => i = b ∨ m i) W w2 ∧ (∀ i, P' i → i = b ∨ e i ∨ r i ∨ W.heap.size ≤ i)) w' := by
  refine ⟨hG.mono fun i _ hi => .inl hi, .inr ⟨_, _, _, _, _, _, _, _, _, _, hJ, fun w2 hJ2 hG2 => ?_⟩⟩
  have hs := hG.size
  have hs2 := hG2.size
  have k1 := h1.lt
  have k2 := h2.lt
  have t1 := h1.kb (w' := w2) fun i hi => hG2.block i (k1 i hi).2 (by have := (k1 i hi).1; omega)
  have t2 := h2.kb (w' := w2) fun i hi => hG2.block i (k2 i hi).2 (by have := (k2 i hi).1; omega)
  refine ⟨fun i => i = b ∨ ids.ownBlock = some i ∨ tx.ownBlock = some i, ?_, (hG.trans hG2).mono fun i _ hi => .inl hi, ?_⟩
  · rw [JJ]
    refine ⟨.inl rfl, ?_, ids, tx, hJ2, ?_, ?_⟩
    · rintro i (h | h | h)
      · omega
      · exact (t1.lt i h).2
      · exact (t2.lt i h).2
    · exact t1.ls fun i hi => ⟨.inr (.inl hi), by have := (k1 i hi).1; omega⟩
    · exact t2.ls fun i hi => ⟨.inr (.inr hi), by have := (k2 i hi).1; omega⟩
  · rintro i (h | h | h)
    · exact .inl h
    · exact .inr (.inr (.inr (k1 i h).1))
    · exact .inr (.inr (.inr (k2 i h).1))
set_option maxRecDepth 100000 in
set_option maxHeartbeats 3200000 in
theorem start_any (hent : Ent F) {Q : World → Prop}
    (HC : ∀ V, JB V w.heap.size true 0 0 ⟨#[]⟩ ⟨#[]⟩ .nilFunc 0 0 (.slice none 0 0) (.slice none 0 0) 0 → Below w.heap.size w V → Calls Tryz.prog F (fi.push (.pointer (some ⟨w.heap.size, 0, none⟩)) ++ ca) V fun e w' => e = .returned (.tuple #[]) ∧ RDY w.heap.size Q w') :
    Calls Tryz.prog 44 #[.func (.func F) fi ca] w fun e w' => e = .returned (.pointer (some ⟨w.heap.size, 0, none⟩)) ∧ Q w' := by
  obtain ⟨U, hU⟩ : ∃ U, U = w.alloc (.cells #[.bool true, .int .i64 0, .int .i64 0, .string ⟨#[]⟩, .string ⟨#[]⟩, .nilFunc, .int .i64 0, .string ⟨#[]⟩, .int .i64 0, .slice none 0 0, .slice none 0 0, .slice none 0 0, .slice none 0 0, .int .i64 0] 149) := ⟨_, rfl⟩
  have hJ : JB U w.heap.size true 0 0 ⟨#[]⟩ ⟨#[]⟩ .nilFunc 0 0 (.slice none 0 0) (.slice none 0 0) 0 := by rw [hU]; exact heap_alloc_new w _
  have HN := hide (HC U hJ (by rw [hU]; exact (Below.refl _ _).alloc (Nat.le_refl _) _))
  have HU := hide hU
  obtain ⟨g1, g2, g3, g4⟩ := fe72
  unfold Ent at hent
  clear hJ hU HC
  go_enter Tryz.func44, Tryz.ntmps44
  go_upto_region 2 with fail
  rw [← HU.out]
  go_wp2_with fail
  refine HN.out.mono ?_
  rintro e w1 ⟨rfl, hR⟩
  have HS := hide (settle_rdy hR)
  clear hR
  go_wp2_with fail
  refine HS.out.mono ?_
  rintro e w2 ⟨rfl, hQ⟩
  have HQ := hide hQ
  clear hQ
  go_wp2
  go_ret
  exact ⟨rfl, HQ.out⟩
def MK {α : Type} (Fin : Nat → α → List RR → (Nat → Prop) → World → Prop) (pl : PN α) (w w' : World) (er : Ending) : Prop := ∃ b P, er = .returned (.pointer (some ⟨b, 0, none⟩)) ∧ JJ b (Fin b) pl [] P w' ∧ Below w.heap.size w w' ∧ (∀ i, P i → w.heap.size ≤ i)
theorem MK.bel {α : Type} {Fin : Nat → α → List RR → (Nat → Prop) → World → Prop} {pl : PN α} {w U w' : World} {er : Ending} (h : MK Fin pl U w' er) (hb : Below w.heap.size w U) : MK Fin pl w w' er := by
  obtain ⟨b, P, rfl, hJJ, hB, hP⟩ := h
  have hs := hb.size
  exact ⟨b, P, rfl, hJJ, hb.trans (hB.mono hs), fun i hi => by have := hP i hi; omega⟩
theorem start_mk {α : Type} {Fin : Nat → α → List RR → (Nat → Prop) → World → Prop} {pl : PN α} (hent : Ent F) (hL : Zq.Sh.Laid w)
    (HC : ∀ V, JB V w.heap.size true 0 0 ⟨#[]⟩ ⟨#[]⟩ .nilFunc 0 0 (.slice none 0 0) (.slice none 0 0) 0 → Below w.heap.size w V → Zq.Sh.Laid V → Calls Tryz.prog F (fi.push (.pointer (some ⟨w.heap.size, 0, none⟩)) ++ ca) V fun e w' => e = .returned (.tuple #[]) ∧ PO w.heap.size (Fin w.heap.size) pl [] (fun i => w.heap.size ≤ i) (fun i => i = w.heap.size) V w') :
    Calls Tryz.prog 44 #[.func (.func F) fi ca] w fun e w' => MK Fin pl w w' e := by
  refine (start_any (Q := fun w2 => MK Fin pl w w2 (.returned (.pointer (some ⟨w.heap.size, 0, none⟩)))) hent fun V hJ hB => (HC V hJ hB (hL.below hB hL.size)).mono ?_).mono ?_
  · rintro e w' ⟨rfl, hP⟩
    refine ⟨rfl, hP.2.mono ?_⟩
    rintro w2 ⟨P', hJJ, hG, hP'⟩
    have := hB.size
    refine ⟨_, P', rfl, hJJ, hG.below hB hB.size (fun i e => by omega), fun i hi => ?_⟩
    rcases hP' i hi with h | h | h <;> omega
  · rintro e w' ⟨rfl, h⟩
    exact h
end
end Go.Proofs.YtagijldedngcoaaGreatDoor
