/-
  Contracts of the program and of the statements (part 23 of 27).
-/
import Derived.Test.YtagijldedngcoaaGreatDoorOg22
set_option maxRecDepth 100000
set_option maxHeartbeats 3200000

namespace Go.Proofs.YtagijldedngcoaaGreatDoor
open Go.RowKit Go.Lib Go.Maps
section
variable {α : Type} {F : FuncId} {fi ca : Array Value} {b : Nat} {Fin : α → List RR → (Nat → Prop) → World → Prop} {k : Int × Int → PN α} {e m r r' p : Nat → Prop} {w w0 W : World} {A0 : List RR} {K M : Nat} {nm s : ByteArray} {R : World → Prop} {y1 y2 y3 y4 : Nat} {cv : Value} {cs : List Int}
theorem ent_l11 : Ent 160 := ent_of Tryz.func160 (by kernel_rfl) rfl
theorem ent_l1 : Ent 159 := ent_of Tryz.func159 (by kernel_rfl) rfl
theorem kc_lay11 {x5 x6 : Nat} {c : Int} {n : Nat} (hent : Ent F) (HK : KV F fi ca b Fin vP k e m w) (hb : Below w.heap.size w W) (h1 : W.heap[y1]? = some (.cells #[.func (.func F) fi ca] 136 (0, 0))) (h5 : W.heap[x5]? = some (.cells #[cv] 166 (0, 0))) (h6 : W.heap[x6]? = some (.cells #[.int .i64 c] 33 (0, 0))) (hL : LS c1 1 r W cv cs) (hl : cs.length = n) (hn : n ≤ 255) :
    KC 160 #[] #[.pointer (some ⟨y1, 0, none⟩), .pointer (some ⟨x6, 0, none⟩), .pointer (some ⟨x5, 0, none⟩)] b Fin n (fun B => k (c, (lov cs (B.map (·.c)) : Nat))) A0 (fun i => e i ∨ i = y1 ∨ i = x5 ∨ i = x6 ∨ r i) m W := by
  intro V dv B r2 hS hLw hJ hD hB hI hr
  have hs := hb.size
  have k1 := (hS.2 y1 (.inr (.inl rfl)) (lt_of_block h1)).trans h1
  have k5 := (hS.2 x5 (.inr (.inr (.inl rfl))) (lt_of_block h5)).trans h5
  have k6 := (hS.2 x6 (.inr (.inr (.inr (.inl rfl)))) (lt_of_block h6)).trans h6
  have hL2 : LS c1 1 r V cv cs := hL.kb hS.1 fun i hi hil => hS.2 i (.inr (.inr (.inr (.inr hi)))) hil
  have hSe : Sm e w V := ((Sm.refl e w).bel hb).trans (hS.mono fun i hi => .inl hi)
  have hSd : Sm e w V.drew := ⟨hSe.1, hSe.2⟩
  show Calls Tryz.prog 160 #[dv, .pointer (some ⟨y1, 0, none⟩), .pointer (some ⟨x6, 0, none⟩), .pointer (some ⟨x5, 0, none⟩)] V _
  refine lay11_any (p := fun i => i = b ∨ m i) hent k1 k6 k5 hL2 hD (by rw [List.length_map]; omega) (by omega) ?_
  refine (HK V.drew (c, (lov cs (B.map (·.c)) : Nat)) _ (A0 ++ B) (fun _ => False) hSd hLw ?_ rfl hI (fun i hi => hi.elim)).mono ?_
  · have : JB V.drew b true 0 0 ⟨#[]⟩ ⟨#[]⟩ .nilFunc 0 0 (.slice none 0 0) (.slice none 0 0) ((A0.length + n : Nat) : Int) := hJ
    rw [List.length_append, hB]
    exact this
  rintro er w' ⟨rfl, hG, hR⟩
  refine ⟨rfl, hG, hR.mono ?_⟩
  rintro w3 ⟨P', q1, q2, q3⟩
  refine ⟨P', q1, q2.und, fun i hi => ?_⟩
  rcases q3 i hi with h | h | h | h
  · exact .inl h
  · exact .inr (.inl (.inl h))
  · exact h.elim
  · exact .inr (.inr (.inr h))
theorem kc_lay1 (hent : Ent F) (HK : KV F fi ca b Fin vP k e m w) (hb : Below w.heap.size w W) (hbl : b < w.heap.size) (heb : ¬ e b) (hme : ∀ i, m i → e i) (hel : ∀ i, e i → i < w.heap.size) (hK : 1 ≤ K) (hKM : K + M ≤ 255)
    (h1 : W.heap[y1]? = some (.cells #[.func (.func F) fi ca] 136 (0, 0))) (h2 : W.heap[y2]? = some (.cells #[.pointer (some ⟨b, 0, none⟩)] 99 (0, 0))) (h3 : W.heap[y3]? = some (.cells #[.int .i64 (K : Int), .int .i64 (M : Int)] 27 (0, 0))) (h4 : W.heap[y4]? = some (.cells #[.string nm] 9 (0, 0))) (g1 : w.heap.size ≤ y1) (g2 : w.heap.size ≤ y2) (g3 : w.heap.size ≤ y3) (g4 : w.heap.size ≤ y4) :
    KC 159 #[] #[.pointer (some ⟨y1, 0, none⟩), .pointer (some ⟨y2, 0, none⟩), .pointer (some ⟨y3, 0, none⟩), .pointer (some ⟨y4, 0, none⟩)] b Fin (K + M) (fun A => if frs [] (A.map (·.c)) = 0 then k (0, 0) else sqP (aq 4 nm ⟨#[]⟩ (K + M)) [] fun B => k (frs [] (A.map (·.c)), (lov (A.map (·.c)) (B.map (·.c)) : Nat))) A0 (fun i => e i ∨ i = y1 ∨ i = y2 ∨ i = y3 ∨ i = y4) m W := by
  intro V cv A r hS hLw hJ hL hA hI hr
  have hs := hb.size
  have k1 := (hS.2 y1 (.inr (.inl rfl)) (lt_of_block h1)).trans h1
  have k2 := (hS.2 y2 (.inr (.inr (.inl rfl))) (lt_of_block h2)).trans h2
  have k3 := (hS.2 y3 (.inr (.inr (.inr (.inl rfl)))) (lt_of_block h3)).trans h3
  have k4 := (hS.2 y4 (.inr (.inr (.inr (.inr rfl)))) (lt_of_block h4)).trans h4
  have hVs := hS.1
  have hSe : Sm e w V := ((Sm.refl e w).bel hb).trans (hS.mono fun i hi => .inl hi)
  have hcl : (A.map (·.c)).length = K + M := by rw [List.length_map, hA]
  have hJ' : JB V b true 0 0 ⟨#[]⟩ ⟨#[]⟩ .nilFunc 0 0 (.slice none 0 0) (.slice none 0 0) ((A0 ++ A).length : Int) := by rw [List.length_append, hA]; exact hJ
  show Calls Tryz.prog 159 #[cv, .pointer (some ⟨y1, 0, none⟩), .pointer (some ⟨y2, 0, none⟩), .pointer (some ⟨y3, 0, none⟩), .pointer (some ⟨y4, 0, none⟩)] V _
  by_cases h0 : frs [] (A.map (·.c)) = 0
  · simp only [if_pos h0]
    refine lay1_zero hent k1 hL (by omega) h0 fun W1 hB1 => ?_
    refine (HK W1 (0, 0) _ (A0 ++ A) (fun _ => False) (hSe.bel hB1) (hLw.below hB1 hLw.size) (hJ'.bel hB1) rfl hI (fun i hi => hi.elim)).mono ?_
    rintro er w' ⟨rfl, hG, hR⟩
    refine ⟨rfl, (Gs.of_below _ hB1).trans hG, hR.mono ?_⟩
    rintro w3 ⟨P', q1, q2, q3⟩
    have := hB1.size
    refine ⟨P', q1, (Gs.of_below _ hB1).trans q2, fun i hi => ?_⟩
    rcases q3 i hi with h | h | h | h
    · exact .inl h
    · exact .inr (.inl (.inl h))
    · exact h.elim
    · exact .inr (.inr (.inr (by omega)))
  · simp only [if_neg h0]
    have hnb : ∀ i, w.heap.size ≤ i → ¬ (i = b ∨ m i) := fun i hi h => by
      rcases h with h | h
      · omega
      · have := hel i (hme i h); omega
    refine lay1_dels (p := fun i => i = b ∨ m i) k2 k3 k4 hL (by omega) rfl h0 hKM (hnb _ g2) (hnb _ g3) (hnb _ g4) ?_
    intro W1 x5 x6 hB1 k5 k6 g5 g6
    have hbW : Below W1.heap.size W1 W1 := Below.refl _ _
    have hB1s := hB1.size
    have hn : nst ((K + M : Nat) : Int) = K + M := nst_nat _ (by omega) hKM
    have hLA : Zq.Sh.Laid W1 := hLw.below hB1 hLw.size
    have HK1 : KV F fi ca b Fin vP k e m V := by
      intro W x args A r hS' hL' hJ' hv hI' hr'
      exact HK W x args A r (hSe.trans hS') hL' hJ' hv hI' fun i hi => ⟨by have := (hr' i hi).1; have := hSe.1; omega, (hr' i hi).2⟩
    have hkc := kc_lay11 (A0 := A0 ++ A) (n := K + M) hent HK1 hB1 ((hB1.block y1 (lt_of_block k1)).trans k1) k5 k6 (hL.bel hB1) hcl hKM
    have heV : ∀ i, e i → i < V.heap.size := fun i hi => by have := hel i hi; omega
    have h9 := dels_any (nm := nm) (e := fun i => e i ∨ i = y1 ∨ i = x5 ∨ i = x6 ∨ r i) (m := m) (Fin := Fin) (rest := fun B => k (frs [] (A.map (·.c)), (lov (A.map (·.c)) (B.map (·.c)) : Nat))) (A0 := A0 ++ A) (fi := #[]) (ca := #[.pointer (some ⟨y1, 0, none⟩), .pointer (some ⟨x6, 0, none⟩), .pointer (some ⟨x5, 0, none⟩)]) ent_l11 hLA (hJ'.bel hB1) ((K + M : Nat) : Int) hI (by rw [hn]; exact hkc) (by
      rintro (h | h | h | h | h)
      · exact heb h
      · omega
      · omega
      · omega
      · have := (hr b h).1; omega) (fun i hi => .inl (hme i hi)) (by
      rintro i (h | h | h | h | h)
      · have := heV i h; omega
      · have := lt_of_block k1; omega
      · rw [h]; exact lt_of_block k5
      · rw [h]; exact lt_of_block k6
      · have := (hr i h).2; omega)
    rw [hn] at h9
    refine h9.mono ?_
    rintro er w' ⟨rfl, hP⟩
    refine ⟨rfl, hP.1, (Gs.of_below _ hB1).trans hP.1, hP.2.mono ?_⟩
    rintro w3 ⟨P', q1, q2, q3⟩
    refine ⟨P', q1, (Gs.of_below _ hB1).trans q2, fun i hi => ?_⟩
    rcases q3 i hi with h | (h | h | h | h | h) | h
    · exact .inl h
    · exact .inr (.inl (.inl h))
    · exact .inr (.inl (.inr (.inl h)))
    · exact .inr (.inr (.inr (by omega)))
    · exact .inr (.inr (.inr (by omega)))
    · exact .inr (.inr (.inl h))
    · exact .inr (.inr (.inr (by omega)))
theorem olay_any (hent : Ent F) (hLw : Zq.Sh.Laid w) (hJ : JB w b true 0 0 ⟨#[]⟩ ⟨#[]⟩ .nilFunc 0 0 (.slice none 0 0) (.slice none 0 0) (A0.length : Int)) (hK : 1 ≤ K) (hKM : K + M ≤ 255) (hs : s.size ≤ 65536) (hI0 : (resI A0).length ≤ 1000000000000) (HK : KV F fi ca b Fin vP k e m w) (heb : ¬ e b) (hme : ∀ i, m i → e i) (hel : ∀ i, e i → i < w.heap.size) :
    Calls Tryz.prog 111 #[.pointer (some ⟨b, 0, none⟩), .agg #[.int .i64 (K : Int), .int .i64 (M : Int)], .string nm, .string s, .func (.func F) fi ca] w fun er w' => er = .returned (.tuple #[]) ∧ PO b Fin (layP K M nm s k) A0 e (fun i => i = b ∨ m i) w w' := by
  obtain ⟨U, hU⟩ : ∃ U, U = als w [.cells #[.pointer (some ⟨b, 0, none⟩)] 99, .cells #[.int .i64 (K : Int), .int .i64 (M : Int)] 27, .cells #[.string nm] 9, .cells #[.func (.func F) fi ca] 136] := ⟨_, rfl⟩
  obtain ⟨X, hX⟩ : ∃ X, X = w.heap.size := ⟨_, rfl⟩
  have hB : Below w.heap.size w U := by rw [hU]; exact als_bel _ _
  have h2 : U.heap[X]? = some (.cells #[.pointer (some ⟨b, 0, none⟩)] 99 (0, 0)) := by rw [hU, hX]; exact als_at _ w 0 _ rfl
  have h3 : U.heap[X + 1]? = some (.cells #[.int .i64 (K : Int), .int .i64 (M : Int)] 27 (0, 0)) := by rw [hU, hX]; exact als_at _ w 1 _ rfl
  have h4 : U.heap[X + 2]? = some (.cells #[.string nm] 9 (0, 0)) := by rw [hU, hX]; exact als_at _ w 2 _ rfl
  have h1 : U.heap[X + 3]? = some (.cells #[.func (.func F) fi ca] 136 (0, 0)) := by rw [hU, hX]; exact als_at _ w 3 _ rfl
  have hbl := hJ.lt
  have y0 : U.cell? ⟨X + 1, 0, none⟩ = some (.int .i64 (K : Int)) := by simp [World.cell?, h3]
  have y1 : U.cell? ⟨X + 1, 1, none⟩ = some (.int .i64 (M : Int)) := by simp [World.cell?, h3]
  have HMK := hide (Zq.make_ok (hLw.below hB hLw.size) hK hKM hs)
  have HN : Hid (∀ U2 q, Below U.heap.size U U2 → Zq.SB U2 q (K + M) (Zq.shB K M s) → U2.cell? ⟨X, 0, none⟩ = some (.pointer (some ⟨b, 0, none⟩)) ∧ U2.cell? ⟨X + 2, 0, none⟩ = some (.string nm) ∧ Calls Tryz.prog 158 #[.pointer (some ⟨b, 0, none⟩), .string nm, .slice (some ⟨q, 0, none⟩) (K + M) (K + M), .func (.func 159) #[] #[.pointer (some ⟨X + 3, 0, none⟩), .pointer (some ⟨X, 0, none⟩), .pointer (some ⟨X + 1, 0, none⟩), .pointer (some ⟨X + 2, 0, none⟩)]] U2 fun er w' => er = .returned (.tuple #[]) ∧ PO b Fin (layP K M nm s k) A0 e (fun i => i = b ∨ m i) w w') := fun U2 q hB2 hSB => by
    have hBU : Below w.heap.size w U2 := hB.trans (hB2.mono hB.size)
    have hs2 := hB2.size
    have c1 := (hB2.block (X + 3) (lt_of_block h1)).trans h1
    have c2 := (hB2.block X (lt_of_block h2)).trans h2
    have c3 := (hB2.block (X + 1) (lt_of_block h3)).trans h3
    have c4 := (hB2.block (X + 2) (lt_of_block h4)).trans h4
    have hkc := kc_lay1 (A0 := A0) hent HK hBU hbl heb hme hel hK hKM c1 c2 c3 c4 (by omega) (by omega) (by omega) (by omega)
    have hpn : pqn nm (shL K M s) = pq nm (shL K M s) := by rw [pqn, if_pos (by rw [shL_len]; exact ⟨by omega, hKM⟩)]
    have hpl : (pqn nm (shL K M s)).length = K + M := by rw [hpn, pq_len, shL_len]
    have h9 := puts_any (nm := nm) (ds := shL K M s) (r := fun _ => True) (e := fun i => e i ∨ i = X + 3 ∨ i = X ∨ i = X + 1 ∨ i = X + 2) (m := m) (Fin := Fin) (A0 := A0) ent_l1 (hLw.below hBU hLw.size) (hJ.bel hBU) (sb_ls hSB trivial) hI0 (by rw [hpl]; exact hkc) (by rintro (h | h | h | h | h); exact heb h; omega; omega; omega; omega) (fun i hi => .inl (hme i hi)) (by
      rintro i (h | h | h | h | h)
      · have := hel i h; have := hBU.size; omega
      · rw [h]; exact lt_of_block c1
      · rw [h]; exact lt_of_block c2
      · rw [h]; exact lt_of_block c3
      · rw [h]; exact lt_of_block c4)
    rw [hpn] at h9
    refine ⟨(cell1 c2).1, (cell1 c4).1, h9.mono ?_⟩
    rintro er w' ⟨rfl, hP⟩
    refine ⟨rfl, (hP.bel hBU).less ?_⟩
    rintro i (h | h | h | h | h)
    · exact .inl h
    · exact .inr (by omega)
    · exact .inr (by omega)
    · exact .inr (by omega)
    · exact .inr (by omega)
  have HU : Hid (U = (((w.alloc (.cells #[.pointer (some ⟨b, 0, none⟩)] 99)).alloc (.cells #[.int .i64 (K : Int), .int .i64 (M : Int)] 27)).alloc (.cells #[.string nm] 9)).alloc (.cells #[.func (.func F) fi ca] 136)) := hU
  have HX := hide hX
  have hmf : ∀ (fn : Fn) (first cap : Array Value) (w : World), (Instr.makeFunc fn first cap).run Tryz.prog w = .ok (.func fn first cap) w := fun _ _ _ _ => rfl
  clear hent hLw hJ hI0 HK heb hme hel hU hX hB h1 h2 h3 h4 hbl
  go_enter Tryz.func111, Tryz.ntmps111
  go_upto_region 1 with fail
  rw [← HU.out, ← HX.out]
  go_wp2_with fail
  refine HMK.out.mono ?_
  rintro er U2 ⟨q, rfl, hSB, hq, hB2⟩
  obtain ⟨z2, z4, HP⟩ := HN.out U2 q hB2 hSB
  have HN2 := hide HP
  clear hB2 HP hSB hq
  go_wp2_with fail
  refine HN2.out.mono ?_
  rintro er w2 ⟨rfl, hP⟩
  have HPP := hide hP
  clear hP
  go_wp2
  go_end0
  exact ⟨rfl, HPP.out⟩
end
end Go.Proofs.YtagijldedngcoaaGreatDoor

namespace Go.Proofs.YtagijldedngcoaaGreatDoor
open Go.RowKit Go.Lib Go.Maps
section
variable {α : Type} {F : FuncId} {fi ca : Array Value} {b : Nat} {Fin : α → List RR → (Nat → Prop) → World → Prop} {k : Int × Int → PN α} {e m r r' p : Nat → Prop} {w w0 W : World} {A0 : List RR} {K M : Nat} {nm s : ByteArray} {R : World → Prop} {y1 y2 y3 y4 y5 : Nat} {hv : Value} {x : FV}
open Classical in
noncomputable def putK (K M : Nat) (nm s : ByteArray) (k : Int × Int → PN α) (f : FV) : PN α :=
  if f.e = 0 then (if f.d = s then k (0, 0) else k (101, 0)) else if f.e = 5 ∨ f.e = 100 then layP K M nm s k else k (f.e, 0)
noncomputable def putP (K M : Nat) (nm s : ByteArray) (k : Int × Int → PN α) : PN α := if 65536 < s.size then k (2, 0) else findP K M nm ⟨#[]⟩ (putK K M nm s k)
theorem fe_p : FE 136 := FE.of Tryz.underlying136
theorem put2_code {fa : Option Addr} {fn fc : Nat} {c : Int} (hent : Ent F) (h1 : W.heap[y1]? = some (.cells #[.string s] 9 (0, 0))) (h2 : W.heap[y2]? = some (.cells #[.func (.func F) fi ca] 136 (0, 0)))
    (hc : (x.e = 0 ∧ x.d = s ∧ c = 0) ∨ (x.e = 0 ∧ x.d ≠ s ∧ c = 101) ∨ (x.e ≠ 0 ∧ x.e ≠ 5 ∧ x.e ≠ 100 ∧ c = x.e))
    (HC : Calls Tryz.prog F (fi ++ (#[.int .i64 c, .int .i64 0] ++ ca)) W fun er w' => er = .returned (.tuple #[]) ∧ R w') :
    Calls Tryz.prog 110 #[.string x.d, .slice fa fn fc, .int .i64 x.e, .pointer (some ⟨y1, 0, none⟩), .pointer (some ⟨y2, 0, none⟩), .pointer (some ⟨y3, 0, none⟩), .pointer (some ⟨y4, 0, none⟩), .pointer (some ⟨y5, 0, none⟩)] W fun er w' => er = .returned (.tuple #[]) ∧ R w' := by
  obtain ⟨z1, _⟩ := cell1 h1
  obtain ⟨z2, _⟩ := cell1 h2
  have HH := hide HC
  obtain ⟨xd, xh, xe⟩ := x
  simp only at hc ⊢
  unfold Ent at hent
  clear h1 h2 HC
  rcases hc with ⟨rfl, rfl, rfl⟩ | ⟨rfl, hd, rfl⟩ | ⟨q0, q5, q1, rfl⟩
  · go_enter Tryz.func110, Tryz.ntmps110
    go_wp2_with fail
    refine HH.out.mono ?_
    rintro er w2 ⟨rfl, hF⟩
    have HF := hide hF
    clear hF
    go_wp2
    go_end0
    exact ⟨rfl, HF.out⟩
  · obtain ⟨u1, u2⟩ := Zq.unlike_tests hd
    go_enter Tryz.func110, Tryz.ntmps110
    go_wp2_with fail
    refine HH.out.mono ?_
    rintro er w2 ⟨rfl, hF⟩
    have HF := hide hF
    clear hF
    go_wp2
    go_end0
    exact ⟨rfl, HF.out⟩
  · have e5 : (c == 5) = false := by simpa using q5
    have e1 : (c == 100) = false := by simpa using q1
    go_enter Tryz.func110, Tryz.ntmps110
    go_wp2_with fail
    refine HH.out.mono ?_
    rintro er w2 ⟨rfl, hF⟩
    have HF := hide hF
    clear hF
    go_wp2
    go_end0
    exact ⟨rfl, HF.out⟩
theorem put2_lay {fa : Option Addr} {fn fc : Nat} (h1 : W.heap[y1]? = some (.cells #[.string s] 9 (0, 0))) (h2 : W.heap[y2]? = some (.cells #[.func (.func F) fi ca] 136 (0, 0))) (h3 : W.heap[y3]? = some (.cells #[.pointer (some ⟨b, 0, none⟩)] 99 (0, 0))) (h4 : W.heap[y4]? = some (.cells #[.int .i64 (K : Int), .int .i64 (M : Int)] 27 (0, 0))) (h5 : W.heap[y5]? = some (.cells #[.string nm] 9 (0, 0)))
    (hc : x.e = 5 ∨ x.e = 100)
    (HC : Calls Tryz.prog 111 #[.pointer (some ⟨b, 0, none⟩), .agg #[.int .i64 (K : Int), .int .i64 (M : Int)], .string nm, .string s, .func (.func F) fi ca] W fun er w' => er = .returned (.tuple #[]) ∧ R w') :
    Calls Tryz.prog 110 #[.string x.d, .slice fa fn fc, .int .i64 x.e, .pointer (some ⟨y1, 0, none⟩), .pointer (some ⟨y2, 0, none⟩), .pointer (some ⟨y3, 0, none⟩), .pointer (some ⟨y4, 0, none⟩), .pointer (some ⟨y5, 0, none⟩)] W fun er w' => er = .returned (.tuple #[]) ∧ R w' := by
  obtain ⟨z1, _⟩ := cell1 h1
  obtain ⟨z2, _⟩ := cell1 h2
  obtain ⟨z3, _⟩ := cell1 h3
  have z4 : W.cell? ⟨y4, 0, none⟩ = some (.int .i64 (K : Int)) := by simp [World.cell?, h4]
  have z4' : W.cell? ⟨y4, 1, none⟩ = some (.int .i64 (M : Int)) := by simp [World.cell?, h4]
  obtain ⟨z5, _⟩ := cell1 h5
  have HH := hide HC
  obtain ⟨xd, xh, xe⟩ := x
  simp only at hc ⊢
  clear h1 h2 h3 h4 h5 HC
  rcases hc with rfl | rfl
  · go_enter Tryz.func110, Tryz.ntmps110
    go_wp2_with fail
    refine HH.out.mono ?_
    rintro er w2 ⟨rfl, hF⟩
    have HF := hide hF
    clear hF
    go_wp2
    go_end0
    exact ⟨rfl, HF.out⟩
  · go_enter Tryz.func110, Tryz.ntmps110
    go_wp2_with fail
    refine HH.out.mono ?_
    rintro er w2 ⟨rfl, hF⟩
    have HF := hide hF
    clear hF
    go_wp2
    go_end0
    exact ⟨rfl, HF.out⟩
theorem ent_p2 : Ent 110 := ent_of Tryz.func110 (by kernel_rfl) rfl
theorem kv_put2 (hent : Ent F) (HK : KV F fi ca b Fin vP k e m w) (hb : Below w.heap.size w W) (heb : ¬ e b) (hme : ∀ i, m i → e i) (hel : ∀ i, e i → i < w.heap.size) (hK : 1 ≤ K) (hKM : K + M ≤ 255) (hs : s.size ≤ 65536)
    (h1 : W.heap[y1]? = some (.cells #[.string s] 9 (0, 0))) (h2 : W.heap[y2]? = some (.cells #[.func (.func F) fi ca] 136 (0, 0))) (h3 : W.heap[y3]? = some (.cells #[.pointer (some ⟨b, 0, none⟩)] 99 (0, 0))) (h4 : W.heap[y4]? = some (.cells #[.int .i64 (K : Int), .int .i64 (M : Int)] 27 (0, 0))) (h5 : W.heap[y5]? = some (.cells #[.string nm] 9 (0, 0))) :
    KV 110 #[] #[.pointer (some ⟨y1, 0, none⟩), .pointer (some ⟨y2, 0, none⟩), .pointer (some ⟨y3, 0, none⟩), .pointer (some ⟨y4, 0, none⟩), .pointer (some ⟨y5, 0, none⟩)] b Fin (vF K M) (putK K M nm s k) (fun i => e i ∨ i = y1 ∨ i = y2 ∨ i = y3 ∨ i = y4 ∨ i = y5) m W := by
  intro V x args A r hS hLw hJ hv hI hr
  obtain ⟨hv, rfl, hLS, hok⟩ := hv
  obtain ⟨fa, fc, rfl⟩ := hLS.shp
  have hsz := hb.size
  have k1 := (hS.2 y1 (.inr (.inl rfl)) (lt_of_block h1)).trans h1
  have k2 := (hS.2 y2 (.inr (.inr (.inl rfl))) (lt_of_block h2)).trans h2
  have k3 := (hS.2 y3 (.inr (.inr (.inr (.inl rfl)))) (lt_of_block h3)).trans h3
  have k4 := (hS.2 y4 (.inr (.inr (.inr (.inr (.inl rfl))))) (lt_of_block h4)).trans h4
  have k5 := (hS.2 y5 (.inr (.inr (.inr (.inr (.inr rfl))))) (lt_of_block h5)).trans h5
  have hSe : Sm e w V := ((Sm.refl e w).bel hb).trans (hS.mono fun i hi => .inl hi)
  have hws := hSe.1
  show Calls Tryz.prog 110 #[.string x.d, .slice fa x.had.length fc, .int .i64 x.e, .pointer (some ⟨y1, 0, none⟩), .pointer (some ⟨y2, 0, none⟩), .pointer (some ⟨y3, 0, none⟩), .pointer (some ⟨y4, 0, none⟩), .pointer (some ⟨y5, 0, none⟩)] V _
  have now : ∀ (c : Int), putK K M nm s k x = k (c, 0) → ((x.e = 0 ∧ x.d = s ∧ c = 0) ∨ (x.e = 0 ∧ x.d ≠ s ∧ c = 101) ∨ (x.e ≠ 0 ∧ x.e ≠ 5 ∧ x.e ≠ 100 ∧ c = x.e)) → Calls Tryz.prog 110 #[.string x.d, .slice fa x.had.length fc, .int .i64 x.e, .pointer (some ⟨y1, 0, none⟩), .pointer (some ⟨y2, 0, none⟩), .pointer (some ⟨y3, 0, none⟩), .pointer (some ⟨y4, 0, none⟩), .pointer (some ⟨y5, 0, none⟩)] V fun er w' => er = .returned (.tuple #[]) ∧ Gs (fun i => i = b ∨ m i) V w' ∧ RDY b (fun w2 => ∃ P', JJ b Fin (putK K M nm s k x) A P' w2 ∧ Gs (fun i => i = b ∨ m i) V w2 ∧ ∀ i, P' i → i = b ∨ (e i ∨ i = y1 ∨ i = y2 ∨ i = y3 ∨ i = y4 ∨ i = y5) ∨ r i ∨ V.heap.size ≤ i) w' := fun c hpk hc => by
    refine put2_code hent k1 k2 hc ((HK V (c, 0) _ A (fun _ => False) hSe hLw hJ rfl hI (fun i hi => hi.elim)).mono ?_)
    rintro er w' ⟨rfl, hG, hR⟩
    refine ⟨rfl, hG, hR.mono ?_⟩
    rintro w3 ⟨P', q1, q2, q3⟩
    refine ⟨P', by rw [hpk]; exact q1, q2, fun i hi => ?_⟩
    rcases q3 i hi with h | h | h | h
    · exact .inl h
    · exact .inr (.inl (.inl h))
    · exact h.elim
    · exact .inr (.inr (.inr h))
  by_cases h0 : x.e = 0
  · by_cases hd : x.d = s
    · exact now 0 (by rw [putK, if_pos h0, if_pos hd]) (.inl ⟨h0, hd, rfl⟩)
    · exact now 101 (by rw [putK, if_pos h0, if_neg hd]) (.inr (.inl ⟨h0, hd, rfl⟩))
  · by_cases hl : x.e = 5 ∨ x.e = 100
    · have HK1 : KV F fi ca b Fin vP k e m V := by
        intro W x args A r hS' hL' hJ' hv hI' hr'
        exact HK W x args A r (hSe.trans hS') hL' hJ' hv hI' fun i hi => ⟨by have := (hr' i hi).1; omega, (hr' i hi).2⟩
      refine put2_lay k1 k2 k3 k4 k5 hl ((olay_any (nm := nm) (A0 := A) hent hLw hJ hK hKM hs hI HK1 heb hme (fun i hi => by have := hel i hi; omega)).mono ?_)
      rintro er w' ⟨rfl, hP⟩
      refine ⟨rfl, hP.1, hP.2.mono ?_⟩
      rintro w3 ⟨P', q1, q2, q3⟩
      refine ⟨P', by rw [putK, if_neg h0, if_pos hl]; exact q1, q2, fun i hi => ?_⟩
      rcases q3 i hi with h | h | h
      · exact .inl h
      · exact .inr (.inl (.inl h))
      · exact .inr (.inr (.inr h))
    · exact now x.e (by rw [putK, if_neg h0, if_neg hl]) (.inr (.inr ⟨h0, fun h => hl (.inl h), fun h => hl (.inr h), rfl⟩))
theorem oput_any (hent : Ent F) (hLw : Zq.Sh.Laid w) (hJ : JB w b true 0 0 ⟨#[]⟩ ⟨#[]⟩ .nilFunc 0 0 (.slice none 0 0) (.slice none 0 0) (A0.length : Int)) (hK : 1 ≤ K) (hKM : K + M ≤ 255) (hs : s.size ≤ 9223372036854775807) (hI0 : (resI A0).length ≤ 1000000000000) (HK : KV F fi ca b Fin vP k e m w) (heb : ¬ e b) (hme : ∀ i, m i → e i) (hel : ∀ i, e i → i < w.heap.size) :
    Calls Tryz.prog 60 #[.pointer (some ⟨b, 0, none⟩), .agg #[.int .i64 (K : Int), .int .i64 (M : Int)], .string nm, .string s, .func (.func F) fi ca] w fun er w' => er = .returned (.tuple #[]) ∧ PO b Fin (putP K M nm s k) A0 e (fun i => i = b ∨ m i) w w' := by
  obtain ⟨U, hU⟩ : ∃ U, U = als w [.cells #[.pointer (some ⟨b, 0, none⟩)] 99, .cells #[.int .i64 (K : Int), .int .i64 (M : Int)] 27, .cells #[.string nm] 9, .cells #[.string s] 9, .cells #[.func (.func F) fi ca] 136] := ⟨_, rfl⟩
  obtain ⟨X, hX⟩ : ∃ X, X = w.heap.size := ⟨_, rfl⟩
  have hB : Below w.heap.size w U := by rw [hU]; exact als_bel _ _
  have h1 : U.heap[X]? = some (.cells #[.pointer (some ⟨b, 0, none⟩)] 99 (0, 0)) := by rw [hU, hX]; exact als_at _ w 0 _ rfl
  have h2 : U.heap[X + 1]? = some (.cells #[.int .i64 (K : Int), .int .i64 (M : Int)] 27 (0, 0)) := by rw [hU, hX]; exact als_at _ w 1 _ rfl
  have h3 : U.heap[X + 2]? = some (.cells #[.string nm] 9 (0, 0)) := by rw [hU, hX]; exact als_at _ w 2 _ rfl
  have h4 : U.heap[X + 3]? = some (.cells #[.string s] 9 (0, 0)) := by rw [hU, hX]; exact als_at _ w 3 _ rfl
  have h5 : U.heap[X + 4]? = some (.cells #[.func (.func F) fi ca] 136 (0, 0)) := by rw [hU, hX]; exact als_at _ w 4 _ rfl
  have y0 : U.cell? ⟨X + 1, 0, none⟩ = some (.int .i64 (K : Int)) := by simp [World.cell?, h2]
  have y1 : U.cell? ⟨X + 1, 1, none⟩ = some (.int .i64 (M : Int)) := by simp [World.cell?, h2]
  obtain ⟨y4, _⟩ := cell1 h5
  have HCH := hide (check_any (w := U) (K : Int) (M : Int) (by omega) (by omega))
  rw [chk_ok hK hKM] at HCH
  have hbl := hJ.lt
  have HCL : Hid (∀ U2, Below U.heap.size U U2 → U2.cell? ⟨X, 0, none⟩ = some (.pointer (some ⟨b, 0, none⟩)) ∧ U2.cell? ⟨X + 1, 0, none⟩ = some (.int .i64 (K : Int)) ∧ U2.cell? ⟨X + 1, 1, none⟩ = some (.int .i64 (M : Int)) ∧ U2.cell? ⟨X + 2, 0, none⟩ = some (.string nm) ∧ U2.cell? ⟨X + 3, 0, none⟩ = some (.string s) ∧ U2.cell? ⟨X + 4, 0, none⟩ = some (.func (.func F) fi ca)) := fun U2 hB2 => by
    have e1 := (hB2.block X (lt_of_block h1)).trans h1
    have e2 := (hB2.block (X + 1) (lt_of_block h2)).trans h2
    have e3 := (hB2.block (X + 2) (lt_of_block h3)).trans h3
    have e4 := (hB2.block (X + 3) (lt_of_block h4)).trans h4
    have e5 := (hB2.block (X + 4) (lt_of_block h5)).trans h5
    exact ⟨(cell1 e1).1, by simp [World.cell?, e2], by simp [World.cell?, e2], (cell1 e3).1, (cell1 e4).1, (cell1 e5).1⟩
  have HU : Hid (U = ((((w.alloc (.cells #[.pointer (some ⟨b, 0, none⟩)] 99)).alloc (.cells #[.int .i64 (K : Int), .int .i64 (M : Int)] 27)).alloc (.cells #[.string nm] 9)).alloc (.cells #[.string s] 9)).alloc (.cells #[.func (.func F) fi ca] 136)) := hU
  have HX := hide hX
  obtain ⟨g1, g2, g3, g4⟩ := fe_p
  have hent0 := hide hent
  unfold Ent at hent
  by_cases hlg : 65536 < s.size
  · have HN : Hid (∀ U2, Below U.heap.size U U2 → Calls Tryz.prog F (fi ++ (#[.int .i64 2, .int .i64 0] ++ ca)) U2 fun er w' => er = .returned (.tuple #[]) ∧ PO b Fin (putP K M nm s k) A0 e (fun i => i = b ∨ m i) w w') := fun U2 hB2 => by
      have hBU : Below w.heap.size w U2 := hB.trans (hB2.mono hB.size)
      refine (HK.now (x := (2, 0)) ((Sm.refl e w).bel hBU) (hLw.below hBU hLw.size) (hJ.bel hBU) rfl hI0).mono ?_
      rintro er w' ⟨rfl, hP⟩
      rw [putP, if_pos hlg]
      exact ⟨rfl, hP.bel hBU⟩
    have hlg' : (65536 : Int) < (s.size : Int) := by omega
    clear hLw hJ hI0 HK hU hX hB h1 h2 h3 h4 h5 hbl heb hme hel
    go_enter Tryz.func60, Tryz.ntmps60
    go_upto_region 1 with fail
    rw [← HU.out, ← HX.out]
    go_wp2_with fail
    refine HCH.out.mono ?_
    rintro er U2 ⟨rfl, hB2⟩
    obtain ⟨z0, z1, z1', z2, z3, z4⟩ := HCL.out U2 hB2
    have HP2 := hide (HN.out U2 hB2)
    clear hB2
    go_wp2_with fail
    refine HP2.out.mono ?_
    rintro er w2 ⟨rfl, hP⟩
    have HPP := hide hP
    clear hP
    go_wp2
    exact bodyPost_ret (v := .tuple #[]) (results_none rfl _ _ _) rfl ⟨rfl, HPP.out⟩
  · have HN : Hid (∀ U2, Below U.heap.size U U2 → Calls Tryz.prog 109 #[.pointer (some ⟨b, 0, none⟩), .agg #[.int .i64 (K : Int), .int .i64 (M : Int)], .string nm, .string ⟨#[]⟩, .func (.func 110) #[] #[.pointer (some ⟨X + 3, 0, none⟩), .pointer (some ⟨X + 4, 0, none⟩), .pointer (some ⟨X, 0, none⟩), .pointer (some ⟨X + 1, 0, none⟩), .pointer (some ⟨X + 2, 0, none⟩)]] U2 fun er w' => er = .returned (.tuple #[]) ∧ PO b Fin (putP K M nm s k) A0 e (fun i => i = b ∨ m i) w w') := fun U2 hB2 => by
      have hBU : Below w.heap.size w U2 := hB.trans (hB2.mono hB.size)
      have c1 := (hB2.block X (lt_of_block h1)).trans h1
      have c2 := (hB2.block (X + 1) (lt_of_block h2)).trans h2
      have c3 := (hB2.block (X + 2) (lt_of_block h3)).trans h3
      have c4 := (hB2.block (X + 3) (lt_of_block h4)).trans h4
      have c5 := (hB2.block (X + 4) (lt_of_block h5)).trans h5
      have hkv := kv_put2 (nm := nm) hent0.out HK hBU heb hme hel hK hKM (by omega : s.size ≤ 65536) c4 c5 c1 c2 c3
      have hsz := hBU.size
      refine (find_any (nm := nm) (want := ⟨#[]⟩) (e := fun i => e i ∨ i = X + 3 ∨ i = X + 4 ∨ i = X ∨ i = X + 1 ∨ i = X + 2) (m := m) (A0 := A0) ent_p2 (hLw.below hBU hLw.size) (hJ.bel hBU) hK hKM hI0 hkv (by rintro (h | h | h | h | h | h); exact heb h; omega; omega; omega; omega; omega) (fun i hi => .inl (hme i hi)) (by
        rintro i (h | h | h | h | h | h)
        · have := hel i h; omega
        · rw [h]; exact lt_of_block c4
        · rw [h]; exact lt_of_block c5
        · rw [h]; exact lt_of_block c1
        · rw [h]; exact lt_of_block c2
        · rw [h]; exact lt_of_block c3)).mono ?_
      rintro er w' ⟨rfl, hP⟩
      rw [putP, if_neg hlg]
      refine ⟨rfl, (hP.bel hBU).less ?_⟩
      rintro i (h | h | h | h | h | h)
      · exact .inl h
      · exact .inr (by omega)
      · exact .inr (by omega)
      · exact .inr (by omega)
      · exact .inr (by omega)
      · exact .inr (by omega)
    have hlg' : ¬ (65536 : Int) < (s.size : Int) := by omega
    have hmf : ∀ (fn : Fn) (first cap : Array Value) (w : World), (Instr.makeFunc fn first cap).run Tryz.prog w = .ok (.func fn first cap) w := fun _ _ _ _ => rfl
    clear hLw hJ hI0 HK hU hX hB h1 h2 h3 h4 h5 hbl heb hme hel
    go_enter Tryz.func60, Tryz.ntmps60
    go_upto_region 1 with fail
    rw [← HU.out, ← HX.out]
    go_wp2_with fail
    refine HCH.out.mono ?_
    rintro er U2 ⟨rfl, hB2⟩
    obtain ⟨z0, z1, z1', z2, z3, z4⟩ := HCL.out U2 hB2
    have HP2 := hide (HN.out U2 hB2)
    clear hB2
    go_wp2_with fail
    refine HP2.out.mono ?_
    rintro er w2 ⟨rfl, hP⟩
    have HPP := hide hP
    clear hP
    go_wp2
    go_end0
    exact ⟨rfl, HPP.out⟩
end
end Go.Proofs.YtagijldedngcoaaGreatDoor

namespace Go.Proofs.YtagijldedngcoaaGreatDoor
open Go.RowKit Go.Lib Go.Maps
section
variable {α : Type} {F : FuncId} {fi ca : Array Value} {b : Nat} {Fin : α → List RR → (Nat → Prop) → World → Prop} {e m : Nat → Prop} {w : World} {A0 : List RR} {nm s : ByteArray}
theorem fe_g : FE 138 := FE.of Tryz.underlying138
theorem fe_s : FE 144 := FE.of Tryz.underlying144
end
end Go.Proofs.YtagijldedngcoaaGreatDoor

namespace Go.Proofs.YtagijldedngcoaaGreatDoor
open Go.RowKit Go.Lib Go.Maps
section
variable {α : Type} {F : FuncId} {fi ca : Array Value} {b : Nat} {Fin : α → List RR → (Nat → Prop) → World → Prop} {k : ByteArray × Int → PN α} {e m r r' p : Nat → Prop} {w w0 W : World} {A0 : List RR} {K M : Nat} {nm want : ByteArray} {R : World → Prop} {y1 : Nat} {x : FV}
noncomputable def getP (K M : Nat) (nm want : ByteArray) (k : ByteArray × Int → PN α) : PN α := findP K M nm want fun f => k (f.d, f.e)
theorem get2_any {fa : Option Addr} {fn fc : Nat} (hent : Ent F) (h1 : W.heap[y1]? = some (.cells #[.func (.func F) fi ca] 138 (0, 0)))
    (HC : Calls Tryz.prog F (fi ++ (#[.string x.d, .int .i64 x.e] ++ ca)) W fun er w' => er = .returned (.tuple #[]) ∧ R w') :
    Calls Tryz.prog 114 #[.string x.d, .slice fa fn fc, .int .i64 x.e, .pointer (some ⟨y1, 0, none⟩)] W fun er w' => er = .returned (.tuple #[]) ∧ R w' := by
  obtain ⟨z1, _⟩ := cell1 h1
  have HH := hide HC
  obtain ⟨xd, xh, xe⟩ := x
  simp only
  unfold Ent at hent
  clear h1 HC
  go_enter Tryz.func114, Tryz.ntmps114
  go_wp2_with fail
  refine HH.out.mono ?_
  rintro er w2 ⟨rfl, hF⟩
  have HF := hide hF
  clear hF
  go_wp2
  go_end0
  exact ⟨rfl, HF.out⟩
theorem ent_g2 : Ent 114 := ent_of Tryz.func114 (by kernel_rfl) rfl
theorem kv_get2 (hent : Ent F) (HK : KV F fi ca b Fin vG k e m w) (hb : Below w.heap.size w W)
    (h1 : W.heap[y1]? = some (.cells #[.func (.func F) fi ca] 138 (0, 0))) :
    KV 114 #[] #[.pointer (some ⟨y1, 0, none⟩)] b Fin (vF K M) (fun f => k (f.d, f.e)) (fun i => e i ∨ i = y1) m W := by
  intro V x args A r hS hLw hJ hv hI hr
  obtain ⟨hv, rfl, hLS, hok⟩ := hv
  obtain ⟨fa, fc, rfl⟩ := hLS.shp
  have k1 := (hS.2 y1 (.inr rfl) (lt_of_block h1)).trans h1
  have hSe : Sm e w V := ((Sm.refl e w).bel hb).trans (hS.mono fun i hi => .inl hi)
  show Calls Tryz.prog 114 #[.string x.d, .slice fa x.had.length fc, .int .i64 x.e, .pointer (some ⟨y1, 0, none⟩)] V _
  refine get2_any hent k1 ((HK V (x.d, x.e) _ A (fun _ => False) hSe hLw hJ rfl hI (fun i hi => hi.elim)).mono ?_)
  rintro er w' ⟨rfl, hG, hR⟩
  refine ⟨rfl, hG, hR.mono ?_⟩
  rintro w3 ⟨P', q1, q2, q3⟩
  refine ⟨P', q1, q2, fun i hi => ?_⟩
  rcases q3 i hi with h | h | h | h
  · exact .inl h
  · exact .inr (.inl (.inl h))
  · exact h.elim
  · exact .inr (.inr (.inr h))
theorem oget_any (hent : Ent F) (hLw : Zq.Sh.Laid w) (hJ : JB w b true 0 0 ⟨#[]⟩ ⟨#[]⟩ .nilFunc 0 0 (.slice none 0 0) (.slice none 0 0) (A0.length : Int)) (hK : 1 ≤ K) (hKM : K + M ≤ 255) (hI0 : (resI A0).length ≤ 1000000000000) (HK : KV F fi ca b Fin vG k e m w) (heb : ¬ e b) (hme : ∀ i, m i → e i) (hel : ∀ i, e i → i < w.heap.size) :
    Calls Tryz.prog 64 #[.pointer (some ⟨b, 0, none⟩), .agg #[.int .i64 (K : Int), .int .i64 (M : Int)], .string nm, .string want, .func (.func F) fi ca] w fun er w' => er = .returned (.tuple #[]) ∧ PO b Fin (getP K M nm want k) A0 e (fun i => i = b ∨ m i) w w' := by
  obtain ⟨U, hU⟩ : ∃ U, U = als w [.cells #[.int .i64 (K : Int), .int .i64 (M : Int)] 27, .cells #[.func (.func F) fi ca] 138] := ⟨_, rfl⟩
  obtain ⟨X, hX⟩ : ∃ X, X = w.heap.size := ⟨_, rfl⟩
  have hB : Below w.heap.size w U := by rw [hU]; exact als_bel _ _
  have h2 : U.heap[X]? = some (.cells #[.int .i64 (K : Int), .int .i64 (M : Int)] 27 (0, 0)) := by rw [hU, hX]; exact als_at _ w 0 _ rfl
  have h5 : U.heap[X + 1]? = some (.cells #[.func (.func F) fi ca] 138 (0, 0)) := by rw [hU, hX]; exact als_at _ w 1 _ rfl
  have y0 : U.cell? ⟨X, 0, none⟩ = some (.int .i64 (K : Int)) := by simp [World.cell?, h2]
  have y1 : U.cell? ⟨X, 1, none⟩ = some (.int .i64 (M : Int)) := by simp [World.cell?, h2]
  obtain ⟨y4, _⟩ := cell1 h5
  have HCH := hide (check_any (w := U) (K : Int) (M : Int) (by omega) (by omega))
  rw [chk_ok hK hKM] at HCH
  have hbl := hJ.lt
  have HCL : Hid (∀ U2, Below U.heap.size U U2 → U2.cell? ⟨X, 0, none⟩ = some (.int .i64 (K : Int)) ∧ U2.cell? ⟨X, 1, none⟩ = some (.int .i64 (M : Int)) ∧ U2.cell? ⟨X + 1, 0, none⟩ = some (.func (.func F) fi ca)) := fun U2 hB2 => by
    have e2 := (hB2.block X (lt_of_block h2)).trans h2
    have e5 := (hB2.block (X + 1) (lt_of_block h5)).trans h5
    exact ⟨by simp [World.cell?, e2], by simp [World.cell?, e2], (cell1 e5).1⟩
  have HU : Hid (U = (w.alloc (.cells #[.int .i64 (K : Int), .int .i64 (M : Int)] 27)).alloc (.cells #[.func (.func F) fi ca] 138)) := hU
  have HX := hide hX
  obtain ⟨g1, g2, g3, g4⟩ := fe_g
  have hent0 := hide hent
  unfold Ent at hent
  have HN : Hid (∀ U2, Below U.heap.size U U2 → Calls Tryz.prog 109 #[.pointer (some ⟨b, 0, none⟩), .agg #[.int .i64 (K : Int), .int .i64 (M : Int)], .string nm, .string want, .func (.func 114) #[] #[.pointer (some ⟨X + 1, 0, none⟩)]] U2 fun er w' => er = .returned (.tuple #[]) ∧ PO b Fin (getP K M nm want k) A0 e (fun i => i = b ∨ m i) w w') := fun U2 hB2 => by
    have hBU : Below w.heap.size w U2 := hB.trans (hB2.mono hB.size)
    have c5 := (hB2.block (X + 1) (lt_of_block h5)).trans h5
    have hkv := kv_get2 (K := K) (M := M) hent0.out HK hBU c5
    have hsz := hBU.size
    refine (find_any (nm := nm) (want := want) (e := fun i => e i ∨ i = X + 1) (m := m) (A0 := A0) ent_g2 (hLw.below hBU hLw.size) (hJ.bel hBU) hK hKM hI0 hkv (by rintro (h | h); exact heb h; omega) (fun i hi => .inl (hme i hi)) (by
      rintro i (h | h)
      · have := hel i h; omega
      · rw [h]; exact lt_of_block c5)).mono ?_
    rintro er w' ⟨rfl, hP⟩
    refine ⟨rfl, (hP.bel hBU).less ?_⟩
    rintro i (h | h)
    · exact .inl h
    · exact .inr (by omega)
  have hmf : ∀ (fn : Fn) (first cap : Array Value) (w : World), (Instr.makeFunc fn first cap).run Tryz.prog w = .ok (.func fn first cap) w := fun _ _ _ _ => rfl
  clear hLw hJ hI0 HK hU hX hB h2 h5 hbl heb hme hel
  go_enter Tryz.func64, Tryz.ntmps64
  go_upto_region 1 with fail
  rw [← HU.out, ← HX.out]
  go_wp2_with fail
  refine HCH.out.mono ?_
  rintro er U2 ⟨rfl, hB2⟩
  obtain ⟨z0, z1, z4⟩ := HCL.out U2 hB2
  have HP2 := hide (HN.out U2 hB2)
  clear hB2
  go_wp2_with fail
  refine HP2.out.mono ?_
  rintro er w2 ⟨rfl, hP⟩
  have HPP := hide hP
  clear hP
  go_wp2
  go_end0
  exact ⟨rfl, HPP.out⟩
end
end Go.Proofs.YtagijldedngcoaaGreatDoor
