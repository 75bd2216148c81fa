/-
  Contracts of the program and of the statements (part 26 of 27).
-/
import Derived.Test.YtagijldedngcoaaGreatDoorOg25
import Derived.Test.YtagijldedngcoaaGreatDoorOg24
import Derived.Test.YtagijldedngcoaaGreatDoorOg19
set_option maxRecDepth 100000
set_option maxHeartbeats 3200000

namespace Go.Proofs.YtagijldedngcoaaGreatDoor
open Go.RowKit Go.Lib Go.Maps
section
variable {α : Type} {F : FuncId} {fi ca : Array Value} {b : Nat} {Fin : α → List RR → (Nat → Prop) → World → Prop} {k : Int × Int → PN α} {e m r r' p : Nat → Prop} {w w0 W V : World} {A0 : List RR} {K M : Nat} {nm want : ByteArray} {R Q : World → Prop} {y1 y2 y3 y4 : Nat} {x : FV}
noncomputable def scrubK (K M : Nat) (nm : ByteArray) (k : Int × Int → PN α) (f : FV) : PN α :=
  if f.e = 0 then sqP (pbF nm f.had 0 (shL K M f.d)) [] fun A => k (((gds (A.map (·.c)) : Nat) : Int), frs [] (A.map (·.c))) else k (0, f.e)
noncomputable def scrubP (K M : Nat) (nm want : ByteArray) (k : Int × Int → PN α) : PN α := findP K M nm want (scrubK K M nm k)
theorem scrub21_any {av : Value} {X : List (RR × Value)} (hent : Ent F) (h1 : W.heap[y1]? = some (.cells #[.func (.func F) fi ca] 144 (0, 0))) (hL : LS x3 3 r W av X) (hS : ∀ x ∈ X, ∃ a n c, x.2 = .slice a n c) (hn : X.length ≤ 1000000) (hp : ¬ p y1)
    (HC : ∀ W1, Below W.heap.size W W1 → Calls Tryz.prog F (fi ++ (#[.int .i64 ((gds (X.map (·.1.c)) : Nat) : Int), .int .i64 (frs [] (X.map (·.1.c)))] ++ ca)) W1 fun er w' => er = .returned (.tuple #[]) ∧ Gs p W1 w' ∧ Q w') :
    Calls Tryz.prog 128 #[av, .pointer (some ⟨y1, 0, none⟩)] W fun er w' => er = .returned (.tuple #[]) ∧ Gs p W w' ∧ Q w' := by
  obtain ⟨aa, ac, rfl⟩ := hL.shp
  have HCO := hide (ocodes_any hL hS hn)
  have HB : Hid (∀ W1, Below W.heap.size W W1 → W1.cell? ⟨y1, 0, none⟩ = some (.func (.func F) fi ca)) := fun W1 hb => (cell1 ((hb.block y1 (lt_of_block h1)).trans h1)).1
  have HH : Hid (∀ W1, Below W.heap.size W W1 → Calls Tryz.prog F (fi ++ (#[.int .i64 ((gds (X.map (·.1.c)) : Nat) : Int), .int .i64 (frs [] (X.map (·.1.c)))] ++ ca)) W1 fun er w' => er = .returned (.tuple #[]) ∧ w'.cell? ⟨y1, 0, none⟩ = some (.func (.func F) fi ca) ∧ Hid (Gs p W w' ∧ Q w')) := fun W1 hb => by
    refine (HC W1 hb).mono ?_
    rintro er w' ⟨rfl, hG, hQ⟩
    have hG' : Gs p W w' := (Gs.of_below _ hb).trans hG
    exact ⟨rfl, (cell1 ((hG'.block y1 (lt_of_block h1) hp).trans h1)).1, hG', hQ⟩
  obtain ⟨cs, hcs⟩ : ∃ cs, cs = X.map (·.1.c) := ⟨_, rfl⟩
  have hcl : cs.length ≤ 1000000 := by rw [hcs, List.length_map]; exact hn
  rw [← hcs] at HCO HH
  generalize X.length = N at *
  unfold Ent at hent
  clear h1 HC hL hS hn hcs hp
  go_enter Tryz.func128, Tryz.ntmps128
  go_wp2_with fail
  refine HCO.out.mono ?_
  rintro er W1 ⟨cv, rfl, hO, hB1⟩
  have hLc : LS c1 1 (fun i => cv.ownBlock = some i) W1 cv cs := hO.ls c1_len fun i hi => hi
  have HF := hide (fine_any hLc.drew hcl)
  obtain ⟨ca1, cc1, hcv⟩ := hLc.shp
  have z1 := HB.out W1 hB1
  have HG : Hid (Calls Tryz.prog 118 #[cv, .slice none 0 0] W1.drew fun e w' => e = .returned (.int .i64 (frs [] cs)) ∧ w'.cell? ⟨y1, 0, none⟩ = some (.func (.func F) fi ca) ∧ Calls Tryz.prog F (fi ++ (#[.int .i64 ((gds cs : Nat) : Int), .int .i64 (frs [] cs)] ++ ca)) w' fun er w' => er = .returned (.tuple #[]) ∧ w'.cell? ⟨y1, 0, none⟩ = some (.func (.func F) fi ca) ∧ Hid (Gs p W w' ∧ Q w')) := by
    refine (first_any hLc.drew (LS.nl (fun _ => True) _) (by omega) (by simp)).mono ?_
    rintro e w' ⟨rfl, hb⟩
    have hbw : Below W.heap.size W w' := hB1.trans (Below.mono (⟨hb.os, hb.tape, hb.output, hb.size, hb.block⟩ : Below W1.heap.size W1 w') hB1.size)
    exact ⟨rfl, HB.out _ hbw, HH.out _ hbw⟩
  subst hcv
  generalize cs.length = N2 at *
  clear hLc hO hB1
  go_upto_region 1 with fail
  go_region_held3 (fun w' => w'.cell? ⟨y1, 0, none⟩ = some (.func (.func F) fi ca)) (first | assumption)
    (first | (go_at_call 123; refine HF.out.mono ?_; rintro e w5 ⟨rfl, rfl⟩) | (go_at_call 118; refine HG.out.mono ?_; rintro e w2 ⟨rfl, z2, hC2⟩; have HC2 := hide hC2; clear hC2) | (refine HC2.out.mono ?_; rintro e w3 ⟨rfl, z3, hF⟩))
  all_goals (go_wp2; go_end0; exact ⟨rfl, hF.out⟩)
theorem ent_s21 : Ent 128 := ent_of Tryz.func128 (by kernel_rfl) rfl
theorem ko_scrub21 {U : World} {N : Nat} (hent : Ent F) (HK : KV F fi ca b Fin vP k e m w) (hb : Below w.heap.size w U) (hN : N ≤ 255) (hy : ¬ (y1 = b ∨ m y1))
    (h1 : U.heap[y1]? = some (.cells #[.func (.func F) fi ca] 144 (0, 0))) :
    KO 128 #[] #[.pointer (some ⟨y1, 0, none⟩)] b Fin N (fun A => k (((gds (A.map (·.c)) : Nat) : Int), frs [] (A.map (·.c)))) A0 (fun i => e i ∨ i = y1) m U := by
  intro W av X r hS hLw hJ hL hNm hX hI hsm hr
  have hs := hb.size
  have k1 := (hS.2 y1 (.inr rfl) (lt_of_block h1)).trans h1
  have hWs := hS.1
  have hSe : Sm e w W := ((Sm.refl e w).bel hb).trans (hS.mono fun i hi => .inl hi)
  show Calls Tryz.prog 128 #[av, .pointer (some ⟨y1, 0, none⟩)] W _
  have em : X.map (·.1.c) = (X.map (·.1)).map (·.c) := by rw [List.map_map]; rfl
  refine scrub21_any (p := fun i => i = b ∨ m i) hent k1 hL (fun x hx => by obtain ⟨a, c, e⟩ := (hNm x hx).shp; exact ⟨a, _, c, e⟩) (by omega) hy (fun W1 hB => ?_)
  rw [em]
  have hBs := hB.size
  refine (HK W1 (((gds ((X.map (·.1)).map (·.c)) : Nat) : Int), frs [] ((X.map (·.1)).map (·.c))) _ (A0 ++ X.map (·.1)) (fun _ => False) (hSe.bel hB) (hLw.below hB hLw.size) ?_ rfl hI (fun i hi => hi.elim)).mono ?_
  · have := hJ.bel hB
    rw [List.length_append, List.length_map, hX]
    exact this
  rintro er w' ⟨rfl, hG, hR⟩
  refine ⟨rfl, hG, hR.mono ?_⟩
  rintro w3 ⟨P', q1, q2, q3⟩
  refine ⟨P', q1, (Gs.of_below _ hB).trans q2, fun i hi => ?_⟩
  rcases q3 i hi with h | h | h | h
  · exact .inl h
  · exact .inr (.inl (.inl h))
  · exact h.elim
  · exact .inr (.inr (.inr (by omega)))
theorem scrub2_code {fa : Option Addr} {fn fc : Nat} (hent : Ent F) (h1 : W.heap[y1]? = some (.cells #[.func (.func F) fi ca] 144 (0, 0))) (h0 : x.e ≠ 0)
    (HC : Calls Tryz.prog F (fi ++ (#[.int .i64 0, .int .i64 x.e] ++ ca)) W fun er w' => er = .returned (.tuple #[]) ∧ R w') :
    Calls Tryz.prog 125 #[.string x.d, .slice fa fn fc, .int .i64 x.e, .pointer (some ⟨y1, 0, none⟩), .pointer (some ⟨y2, 0, none⟩), .pointer (some ⟨y3, 0, none⟩), .pointer (some ⟨y4, 0, none⟩)] W fun er w' => er = .returned (.tuple #[]) ∧ R w' := by
  obtain ⟨z1, _⟩ := cell1 h1
  have HH := hide HC
  obtain ⟨xd, xh, xe⟩ := x
  simp only at h0 HH ⊢
  have q0 : (xe != 0) = true := by simpa using h0
  unfold Ent at hent
  clear h1 HC
  go_enter Tryz.func125, Tryz.ntmps125
  go_wp2_with fail
  refine HH.out.mono ?_
  rintro er w2 ⟨rfl, hF⟩
  have HF := hide hF
  clear hF
  go_wp2
  exact bodyPost_ret (v := .tuple #[]) (results_none rfl _ _ _) rfl ⟨rfl, HF.out⟩
theorem scrub2_all {fa : Option Addr} {fn fc : Nat} (h2 : W.heap[y2]? = some (.cells #[.pointer (some ⟨b, 0, none⟩)] 99 (0, 0))) (h3 : W.heap[y3]? = some (.cells #[.int .i64 (K : Int), .int .i64 (M : Int)] 27 (0, 0))) (h4 : W.heap[y4]? = some (.cells #[.string nm] 9 (0, 0))) (h0 : x.e = 0) (hp : ¬ p y2 ∧ ¬ p y3 ∧ ¬ p y4)
    (HC : Calls Tryz.prog 127 #[.slice fa fn fc, .agg #[.int .i64 (K : Int), .int .i64 (M : Int)], .string nm, .string x.d] W.drew fun er w' => ∃ qa qn qc, er = .returned (.slice qa qn qc) ∧ Below W.heap.size W w' ∧ Calls Tryz.prog 126 #[.pointer (some ⟨b, 0, none⟩), .slice qa qn qc, .func (.func 128) #[] #[.pointer (some ⟨y1, 0, none⟩)]] w' fun er w' => er = .returned (.tuple #[]) ∧ Gs p W w' ∧ Q w') :
    Calls Tryz.prog 125 #[.string x.d, .slice fa fn fc, .int .i64 x.e, .pointer (some ⟨y1, 0, none⟩), .pointer (some ⟨y2, 0, none⟩), .pointer (some ⟨y3, 0, none⟩), .pointer (some ⟨y4, 0, none⟩)] W fun er w' => er = .returned (.tuple #[]) ∧ Gs p W w' ∧ Q w' := by
  have HS : Hid (∀ W1, Below W.heap.size W W1 → W1.cell? ⟨y2, 0, none⟩ = some (.pointer (some ⟨b, 0, none⟩)) ∧ W1.cell? ⟨y3, 0, none⟩ = some (.int .i64 (K : Int)) ∧ W1.cell? ⟨y3, 1, none⟩ = some (.int .i64 (M : Int)) ∧ W1.cell? ⟨y4, 0, none⟩ = some (.string nm)) := fun W1 hb => by
    have e3 := (hb.block y3 (lt_of_block h3)).trans h3
    exact ⟨(cell1 ((hb.block y2 (lt_of_block h2)).trans h2)).1, by simp [World.cell?, e3], by simp [World.cell?, e3], (cell1 ((hb.block y4 (lt_of_block h4)).trans h4)).1⟩
  have HS0 : Hid (W.drew.cell? ⟨y2, 0, none⟩ = some (.pointer (some ⟨b, 0, none⟩)) ∧ W.drew.cell? ⟨y3, 0, none⟩ = some (.int .i64 (K : Int)) ∧ W.drew.cell? ⟨y3, 1, none⟩ = some (.int .i64 (M : Int)) ∧ W.drew.cell? ⟨y4, 0, none⟩ = some (.string nm)) := HS.out W (Below.refl _ _)
  have HH : Hid (Calls Tryz.prog 127 #[.slice fa fn fc, .agg #[.int .i64 (K : Int), .int .i64 (M : Int)], .string nm, .string x.d] W.drew fun er w' => ∃ qa qn qc, er = .returned (.slice qa qn qc) ∧ Below W.heap.size W w' ∧ Calls Tryz.prog 126 #[.pointer (some ⟨b, 0, none⟩), .slice qa qn qc, .func (.func 128) #[] #[.pointer (some ⟨y1, 0, none⟩)]] w' fun er w' => er = .returned (.tuple #[]) ∧ (w'.cell? ⟨y2, 0, none⟩ = some (.pointer (some ⟨b, 0, none⟩)) ∧ w'.cell? ⟨y3, 0, none⟩ = some (.int .i64 (K : Int)) ∧ w'.cell? ⟨y3, 1, none⟩ = some (.int .i64 (M : Int)) ∧ w'.cell? ⟨y4, 0, none⟩ = some (.string nm)) ∧ Hid (Gs p W w' ∧ Q w')) := by
    refine HC.mono ?_
    rintro er w1 ⟨qa, qn, qc, rfl, hb, hA⟩
    refine ⟨qa, qn, qc, rfl, hb, hA.mono ?_⟩
    rintro er w' ⟨rfl, hG, hQ⟩
    have e3 := (hG.block y3 (lt_of_block h3) hp.2.1).trans h3
    exact ⟨rfl, ⟨(cell1 ((hG.block y2 (lt_of_block h2) hp.1).trans h2)).1, by simp [World.cell?, e3], by simp [World.cell?, e3], (cell1 ((hG.block y4 (lt_of_block h4) hp.2.2).trans h4)).1⟩, hG, hQ⟩
  obtain ⟨xd, xh, xe⟩ := x
  simp only at h0 HH ⊢
  subst h0
  have hmf : ∀ (fn : Fn) (first cap : Array Value) (w : World), (Instr.makeFunc fn first cap).run Tryz.prog w = .ok (.func fn first cap) w := fun _ _ _ _ => rfl
  clear h2 h3 h4 HC hp
  go_enter Tryz.func125, Tryz.ntmps125
  go_upto_region 2 with fail
  go_region_held3 (fun w' => w'.cell? ⟨y2, 0, none⟩ = some (.pointer (some ⟨b, 0, none⟩)) ∧ w'.cell? ⟨y3, 0, none⟩ = some (.int .i64 (K : Int)) ∧ w'.cell? ⟨y3, 1, none⟩ = some (.int .i64 (M : Int)) ∧ w'.cell? ⟨y4, 0, none⟩ = some (.string nm)) (first | exact HS0.out | exact HS1.out | assumption)
    (first | (go_at_call 127; refine HH.out.mono ?_; rintro e w5 ⟨qa, qn, qc, rfl, hb5, hC5⟩; have HS1 := hide (HS.out w5 hb5); have HC5 := hide hC5; clear hC5 hb5) | (go_at_call 126; refine HC5.out.mono ?_; rintro e w2 ⟨rfl, hk2, hF⟩))
  all_goals (go_wp2; go_end0; exact ⟨rfl, hF.out⟩)
theorem ent_s2 : Ent 125 := ent_of Tryz.func125 (by kernel_rfl) rfl
theorem kv_scrub2 (hent : Ent F) (HK : KV F fi ca b Fin vP k e m w) (hb : Below w.heap.size w W) (hb2 : 2 ≤ b) (hbl : b < w.heap.size) (heb : ¬ e b) (hme : ∀ i, m i → e i) (hel : ∀ i, e i → i < w.heap.size) (hK : 1 ≤ K) (hKM : K + M ≤ 255) (hy : w.heap.size ≤ y1 ∧ w.heap.size ≤ y2 ∧ w.heap.size ≤ y3 ∧ w.heap.size ≤ y4)
    (h1 : W.heap[y1]? = some (.cells #[.func (.func F) fi ca] 144 (0, 0))) (h2 : W.heap[y2]? = some (.cells #[.pointer (some ⟨b, 0, none⟩)] 99 (0, 0))) (h3 : W.heap[y3]? = some (.cells #[.int .i64 (K : Int), .int .i64 (M : Int)] 27 (0, 0))) (h4 : W.heap[y4]? = some (.cells #[.string nm] 9 (0, 0))) :
    KV 125 #[] #[.pointer (some ⟨y1, 0, none⟩), .pointer (some ⟨y2, 0, none⟩), .pointer (some ⟨y3, 0, none⟩), .pointer (some ⟨y4, 0, none⟩)] b Fin (vF K M) (scrubK K M nm k) (fun i => e i ∨ i = y1 ∨ i = y2 ∨ i = y3 ∨ i = y4) m W := by
  intro V x args A r hS hLw hJ hv hI hr
  obtain ⟨hv, rfl, hLS, hok⟩ := hv
  obtain ⟨fa, fc, hfv⟩ := hLS.shp
  subst hfv
  have k1 := (hS.2 y1 (.inr (.inl rfl)) (lt_of_block h1)).trans h1
  have k2 := (hS.2 y2 (.inr (.inr (.inl rfl))) (lt_of_block h2)).trans h2
  have k3 := (hS.2 y3 (.inr (.inr (.inr (.inl rfl)))) (lt_of_block h3)).trans h3
  have k4 := (hS.2 y4 (.inr (.inr (.inr (.inr rfl)))) (lt_of_block h4)).trans h4
  have hSe : Sm e w V := ((Sm.refl e w).bel hb).trans (hS.mono fun i hi => .inl hi)
  have hws := hSe.1
  have hnp : ∀ y, w.heap.size ≤ y → ¬ (y = b ∨ m y) := by
    rintro y hy (h | h)
    · omega
    · have := hel y (hme y h); omega
  show Calls Tryz.prog 125 #[.string x.d, .slice fa x.had.length fc, .int .i64 x.e, .pointer (some ⟨y1, 0, none⟩), .pointer (some ⟨y2, 0, none⟩), .pointer (some ⟨y3, 0, none⟩), .pointer (some ⟨y4, 0, none⟩)] V _
  by_cases h0 : x.e = 0
  · have HK1 : KV F fi ca b Fin vP k e m V := by
      intro W x args A r hS' hL' hJ' hv hI' hr'
      exact HK W x args A r (hSe.trans hS') hL' hJ' hv hI' fun i hi => ⟨by have := (hr' i hi).1; omega, (hr' i hi).2⟩
    refine scrub2_all (p := fun i => i = b ∨ m i) k2 k3 k4 h0 ⟨hnp _ hy.2.1, hnp _ hy.2.2.1, hnp _ hy.2.2.2⟩ ?_
    refine (beside_any (nm := nm) (hLS.drew) hok.l hLw hK hKM hok.d).mono ?_
    rintro er w1 ⟨qv, rfl, hO, hB1⟩
    have hB : Below V.heap.size V w1 := ⟨hB1.os, hB1.tape, hB1.output, hB1.size, hB1.block⟩
    have hBs := hB.size
    have hLq : LS q4 4 (fun i => qv.ownBlock = some i) w1 qv (pbF nm x.had 0 (shL K M x.d)) := hO.ls q4_len fun i hi => hi
    obtain ⟨qa, qc, rfl⟩ := hLq.shp
    have hpl : (pbF nm x.had 0 (shL K M x.d)).length ≤ 255 := by have := pbF_len nm x.had (shL K M x.d) 0; rw [shL_len] at this; omega
    refine ⟨qa, _, qc, rfl, hB, ?_⟩
    have hko := ko_scrub21 (A0 := A) hent HK1 hB hpl (hnp _ hy.1) ((hB.block y1 (lt_of_block k1)).trans k1)
    refine (all_jjx ent_s21 (hLw.below hB hLw.size) hb2 (hJ.bel hB) hLq (by omega) hI hko (by rintro (h | h); exact heb h; omega) (fun i hi => .inl (hme i hi)) (by
      rintro i (h | h)
      · have := hel i h; omega
      · rw [h]; have := lt_of_block k1; omega)).mono ?_
    rintro er w2 ⟨rfl, hG, hR⟩
    refine ⟨rfl, (Gs.of_below _ hB).trans hG, hR.mono ?_⟩
    rintro w3 ⟨P', q1, q2, q3⟩
    refine ⟨P', by rw [scrubK, if_pos h0]; exact q1, (Gs.of_below _ hB).trans q2, fun i hi => ?_⟩
    rcases q3 i hi with h | (h | h) | h
    · exact .inl h
    · exact .inr (.inl (.inl h))
    · exact .inr (.inl (.inr (.inl h)))
    · exact .inr (.inr (.inr (by omega)))
  · refine scrub2_code hent k1 h0 ((HK V (0, x.e) _ A (fun _ => False) hSe hLw hJ rfl hI (fun i hi => hi.elim)).mono ?_)
    rintro er w' ⟨rfl, hG, hR⟩
    refine ⟨rfl, hG, hR.mono ?_⟩
    rintro w3 ⟨P', q1, q2, q3⟩
    refine ⟨P', by rw [scrubK, if_neg h0]; exact q1, q2, fun i hi => ?_⟩
    rcases q3 i hi with h | h | h | h
    · exact .inl h
    · exact .inr (.inl (.inl h))
    · exact h.elim
    · exact .inr (.inr (.inr h))
end
end Go.Proofs.YtagijldedngcoaaGreatDoor

namespace Go.Proofs.YtagijldedngcoaaGreatDoor
open Go.RowKit Go.Lib Go.Maps
section
variable {α : Type} {F : FuncId} {fi ca : Array Value} {b : Nat} {Fin : α → List RR → (Nat → Prop) → World → Prop} {k : Int × Int → PN α} {e m : Nat → Prop} {w : World} {A0 : List RR} {K M : Nat} {nm want : ByteArray}
theorem oscrub_any (hent : Ent F) (hLw : Zq.Sh.Laid w) (hb2 : 2 ≤ b) (hJ : JB w b true 0 0 ⟨#[]⟩ ⟨#[]⟩ .nilFunc 0 0 (.slice none 0 0) (.slice none 0 0) (A0.length : Int)) (hK : 1 ≤ K) (hKM : K + M ≤ 255) (hI0 : (resI A0).length ≤ 1000000000000) (HK : KV F fi ca b Fin vP k e m w) (heb : ¬ e b) (hme : ∀ i, m i → e i) (hel : ∀ i, e i → i < w.heap.size) :
    Calls Tryz.prog 73 #[.pointer (some ⟨b, 0, none⟩), .agg #[.int .i64 (K : Int), .int .i64 (M : Int)], .string nm, .string want, .func (.func F) fi ca] w fun er w' => er = .returned (.tuple #[]) ∧ PO b Fin (scrubP K M nm want k) A0 e (fun i => i = b ∨ m i) w w' := by
  obtain ⟨U, hU⟩ : ∃ U, U = als w [.cells #[.pointer (some ⟨b, 0, none⟩)] 99, .cells #[.int .i64 (K : Int), .int .i64 (M : Int)] 27, .cells #[.string nm] 9, .cells #[.func (.func F) fi ca] 144] := ⟨_, rfl⟩
  obtain ⟨X, hX⟩ : ∃ X, X = w.heap.size := ⟨_, rfl⟩
  have hB : Below w.heap.size w U := by rw [hU]; exact als_bel _ _
  have h1 : U.heap[X]? = some (.cells #[.pointer (some ⟨b, 0, none⟩)] 99 (0, 0)) := by rw [hU, hX]; exact als_at _ w 0 _ rfl
  have h2 : U.heap[X + 1]? = some (.cells #[.int .i64 (K : Int), .int .i64 (M : Int)] 27 (0, 0)) := by rw [hU, hX]; exact als_at _ w 1 _ rfl
  have h3 : U.heap[X + 2]? = some (.cells #[.string nm] 9 (0, 0)) := by rw [hU, hX]; exact als_at _ w 2 _ rfl
  have h5 : U.heap[X + 3]? = some (.cells #[.func (.func F) fi ca] 144 (0, 0)) := by rw [hU, hX]; exact als_at _ w 3 _ rfl
  have y0 : U.cell? ⟨X + 1, 0, none⟩ = some (.int .i64 (K : Int)) := by simp [World.cell?, h2]
  have y1 : U.cell? ⟨X + 1, 1, none⟩ = some (.int .i64 (M : Int)) := by simp [World.cell?, h2]
  obtain ⟨y4, _⟩ := cell1 h5
  have HCH := hide (check_any (w := U) (K : Int) (M : Int) (by omega) (by omega))
  rw [chk_ok hK hKM] at HCH
  have hbl := hJ.lt
  have HCL : Hid (∀ U2, Below U.heap.size U U2 → U2.cell? ⟨X, 0, none⟩ = some (.pointer (some ⟨b, 0, none⟩)) ∧ U2.cell? ⟨X + 1, 0, none⟩ = some (.int .i64 (K : Int)) ∧ U2.cell? ⟨X + 1, 1, none⟩ = some (.int .i64 (M : Int)) ∧ U2.cell? ⟨X + 2, 0, none⟩ = some (.string nm) ∧ U2.cell? ⟨X + 3, 0, none⟩ = some (.func (.func F) fi ca)) := fun U2 hB2 => by
    have e2 := (hB2.block (X + 1) (lt_of_block h2)).trans h2
    exact ⟨(cell1 ((hB2.block X (lt_of_block h1)).trans h1)).1, by simp [World.cell?, e2], by simp [World.cell?, e2], (cell1 ((hB2.block (X + 2) (lt_of_block h3)).trans h3)).1, (cell1 ((hB2.block (X + 3) (lt_of_block h5)).trans h5)).1⟩
  have HU : Hid (U = (((w.alloc (.cells #[.pointer (some ⟨b, 0, none⟩)] 99)).alloc (.cells #[.int .i64 (K : Int), .int .i64 (M : Int)] 27)).alloc (.cells #[.string nm] 9)).alloc (.cells #[.func (.func F) fi ca] 144)) := hU
  have HX := hide hX
  obtain ⟨g1, g2, g3, g4⟩ := fe_s
  have hent0 := hide hent
  unfold Ent at hent
  have HN : Hid (∀ U2, Below U.heap.size U U2 → Calls Tryz.prog 109 #[.pointer (some ⟨b, 0, none⟩), .agg #[.int .i64 (K : Int), .int .i64 (M : Int)], .string nm, .string want, .func (.func 125) #[] #[.pointer (some ⟨X + 3, 0, none⟩), .pointer (some ⟨X, 0, none⟩), .pointer (some ⟨X + 1, 0, none⟩), .pointer (some ⟨X + 2, 0, none⟩)]] U2 fun er w' => er = .returned (.tuple #[]) ∧ PO b Fin (scrubP K M nm want k) A0 e (fun i => i = b ∨ m i) w w') := fun U2 hB2 => by
    have hBU : Below w.heap.size w U2 := hB.trans (hB2.mono hB.size)
    have c1 := (hB2.block X (lt_of_block h1)).trans h1
    have c2 := (hB2.block (X + 1) (lt_of_block h2)).trans h2
    have c3 := (hB2.block (X + 2) (lt_of_block h3)).trans h3
    have c5 := (hB2.block (X + 3) (lt_of_block h5)).trans h5
    have hkv := kv_scrub2 (K := K) (M := M) hent0.out HK hBU hb2 hbl heb hme hel hK hKM ⟨by omega, by omega, by omega, by omega⟩ c5 c1 c2 c3
    have hsz := hBU.size
    refine (find_any (nm := nm) (want := want) (e := fun i => e i ∨ i = X + 3 ∨ i = X ∨ i = X + 1 ∨ i = X + 2) (m := m) (A0 := A0) ent_s2 (hLw.below hBU hLw.size) (hJ.bel hBU) hK hKM hI0 hkv (by rintro (h | h | h | h | h); exact heb h; omega; omega; omega; omega) (fun i hi => .inl (hme i hi)) (by
      rintro i (h | h | h | h | h)
      · have := hel i h; omega
      · rw [h]; exact lt_of_block c5
      · rw [h]; exact lt_of_block c1
      · rw [h]; exact lt_of_block c2
      · rw [h]; exact lt_of_block c3)).mono ?_
    rintro er w' ⟨rfl, hP⟩
    refine ⟨rfl, (hP.bel hBU).less ?_⟩
    rintro i (h | h | h | h | h)
    · exact .inl h
    · exact .inr (by omega)
    · exact .inr (by omega)
    · exact .inr (by omega)
    · exact .inr (by omega)
  have hmf : ∀ (fn : Fn) (first cap : Array Value) (w : World), (Instr.makeFunc fn first cap).run Tryz.prog w = .ok (.func fn first cap) w := fun _ _ _ _ => rfl
  clear hLw hJ hI0 HK hU hX hB h1 h2 h3 h5 hbl heb hme hel
  go_enter Tryz.func73, Tryz.ntmps73
  go_upto_region 1 with fail
  rw [← HU.out, ← HX.out]
  go_wp2_with fail
  refine HCH.out.mono ?_
  rintro er U2 ⟨rfl, hB2⟩
  obtain ⟨z0, z1, z2, z3, z4⟩ := HCL.out U2 hB2
  have HP2 := hide (HN.out U2 hB2)
  clear hB2
  go_wp2_with fail
  refine HP2.out.mono ?_
  rintro er w2 ⟨rfl, hP⟩
  have HPP := hide hP
  clear hP
  go_wp2
  go_end0
  exact ⟨rfl, HPP.out⟩
end
theorem ox_scrub {K M : Nat} {nm want : ByteArray} (hK : 1 ≤ K) (hKM : K + M ≤ 255) : OXScrub K M nm want (scrubP K M nm want kScrub) := fun b i1 W hL hJ hne hlt HK =>
  oscrub_any (A0 := []) ent_scrub11 hL (laid_jb hL hJ) hJ hK hKM (by simp [resI]) HK hne (fun i h => h.elim) (fun i h => by rw [h]; exact hlt)
end Go.Proofs.YtagijldedngcoaaGreatDoor

namespace Go.Proofs.YtagijldedngcoaaGreatDoor
open Go.RowKit Go.Lib Go.Maps
section
variable {w W0 W W' V : World} {X Bd K M b2 g k j : Nat} {sv ids tx : Value} {S S' : List SS} {bs : List (Nat × Nat)} {pl : PN RS} {x : RS} {L : List QT} {nm s want : ByteArray} {q m : Int} {O : List (Option ByteArray)}
theorem GQ.rw (h : GQ w W0 X Bd K M sv S bs) (hR : RW W0 V b2 x k (fun i => X < i ∧ i < Bd) sv S' bs ids tx none) : GQ w V X Bd K M sv S' bs :=
  ⟨hR.yp, (hR.gs.block X (lt_of_block h.kt) h.nq).trans h.kt, hR.gs.below h.be h.be.size fun i hi => by have := h.yp.qs hi; have := h.xx; omega, hR.la, h.xx, h.xb, Nat.le_trans h.bd hR.gs.size, h.w2⟩
structure RQ9 (W0 W : World) (x : RS) (bs : List (Nat × Nat)) (ids tx : Value) (q : Nat) : Prop where
  r7 : R7 W q x.c x.n ids tx
  tt : TS W0.heap.size tx x.tx W
  q0 : W0.heap.size ≤ q
  gs : Gs (Qs bs) W0 W
theorem rq_of (h : GQ w W0 X Bd K M sv S bs) (hR : RW W0 V b2 x k (fun i => X < i ∧ i < Bd) sv S' bs ids tx none) (hW : W = V.alloc (.cells #[.int .i64 x.c, .string ⟨#[]⟩, .int .i64 x.n, ids, tx, .slice none 0 0, .slice none 0 0] 63)) :
    GQ w W X Bd K M sv S' bs ∧ RQ9 W0 W x bs ids tx V.heap.size := by
  have hb : Below V.heap.size V W := by rw [hW]; exact (Below.refl _ _).alloc (Nat.le_refl _) _
  have hl := hR.tt.lt
  refine ⟨(h.rw hR).bel hb, ⟨by rw [hW]; exact heap_alloc_new V _, hR.tt.kb fun i hi => hb.block i (hl i hi).2, hR.gs.size, hR.gs.bel hb⟩⟩
theorem gn_put (h : GQ w W X Bd K M sv (sts q m nm O) bs) (hO : O.length = K + M) (hf : (fnd K M ⟨#[]⟩ (O.map gans)).e = 5 ∨ (fnd K M ⟨#[]⟩ (O.map gans)).e = 100) (hK : 1 ≤ K) (hKM : K + M ≤ 9) (hs : s.size ≤ 204) (hn : mayB nm = true) (hnl : nm.size ≤ 96) (hq : 1000 ≤ q) (hOs : ∀ d, some d ∈ O → d.size ≤ 131072) (hm0 : 0 ≤ m) (hm : m ≤ 100) :
    Calls Tryz.prog 24 #[.agg #[.int .i64 (K : Int), .int .i64 (M : Int)], .string nm, .string s] W fun e w1 => ∃ b2, e = .returned (.pointer (some ⟨b2, 0, none⟩)) ∧ KK X K M w1 ∧ Hid (Calls Tryz.prog 33 #[.pointer (some ⟨b2, 0, none⟩), sv] w1 fun e w2 => ∃ ai ci at_ ct, e = .returned (.tuple #[.agg #[.int .i64 0, .string ⟨#[]⟩, .int .i64 0, .slice ai 0 ci, .slice at_ 0 ct, .slice none 0 0, .slice none 0 0], .bool true]) ∧
      Hid (∀ W3, W3 = w2.alloc (.cells #[.int .i64 0, .string ⟨#[]⟩, .int .i64 0, .slice ai 0 ci, .slice at_ 0 ct, .slice none 0 0, .slice none 0 0] 63) → GQ w W3 X Bd K M sv (sts q (m + 2) nm ((shL K M s).map some)) bs ∧ RQ9 W W3 ⟨0, 0, [], []⟩ bs (.slice ai 0 ci) (.slice at_ 0 ct) w2.heap.size)) := by
  have hds : ∀ d ∈ shL K M s, d.size ≤ 131072 ∧ ((nm.size + d.size : Nat) : Int) ≤ q := by
    intro d hd
    obtain ⟨i, _, rfl⟩ := List.mem_map.1 hd
    rw [shB_size hK]
    have : Zq.eachN K s.size ≤ s.size + K - 1 := Nat.div_le_self _ _
    omega
  refine (gq_put (nm := nm) h (BW.start W) hK (by omega) (by omega)).mono ?_
  rintro e w1 ⟨b2, rfl, hJ, hk⟩
  refine ⟨b2, rfl, hk, ?_⟩
  obtain ⟨t1, t2, t3⟩ := putP_lay (q := q) (m := m) (k := kPut) (y := ⟨0, 0, [], []⟩) hO hf rfl (by omega) hn hds
  refine (gq_run (g := 100) h hJ.out (sts_gd (by decide) hm0 hm hnl hOs) t1 t2 t3 (by rw [List.length_append, aq_len, pq_len, shL_len]; omega) (lay_small (by unfold maxLen; omega) fun d hd => (hds d hd).1) (by simp) (by simp)).mono ?_
  rintro e w2 ⟨ai, ci, at_, ct, rfl, hR, _⟩
  exact ⟨ai, ci, at_, ct, rfl, fun W3 hW => rq_of h hR.out hW⟩
theorem gn_get {d : ByteArray} {hd : List Zq.SX} {c : Int} (h : GQ w W X Bd K M sv (sts q m nm O) bs) (hO : O.length = K + M) (hf : fnd K M ⟨#[]⟩ (O.map gans) = ⟨d, hd, c⟩) (hK : 1 ≤ K) (hKM : K + M ≤ 9) (hnl : nm.size ≤ 96) (hOs : ∀ d, some d ∈ O → d.size ≤ 131072) (hm0 : 0 ≤ m) (hm : m ≤ 100) :
    Calls Tryz.prog 25 #[.agg #[.int .i64 (K : Int), .int .i64 (M : Int)], .string nm, .string ⟨#[]⟩] W fun e w1 => ∃ b2, e = .returned (.pointer (some ⟨b2, 0, none⟩)) ∧ KK X K M w1 ∧ Hid (Calls Tryz.prog 33 #[.pointer (some ⟨b2, 0, none⟩), sv] w1 fun e w2 => ∃ ai ci at_ ct, e = .returned (.tuple #[.agg #[.int .i64 c, .string ⟨#[]⟩, .int .i64 0, .slice ai 0 ci, .slice at_ (gtx (d, c)).length ct, .slice none 0 0, .slice none 0 0], .bool true]) ∧
      Hid (∀ W3, W3 = w2.alloc (.cells #[.int .i64 c, .string ⟨#[]⟩, .int .i64 0, .slice ai 0 ci, .slice at_ (gtx (d, c)).length ct, .slice none 0 0, .slice none 0 0] 63) → GQ w W3 X Bd K M sv (sts q (m + 1) nm O) bs ∧ RQ9 W W3 ⟨c, 0, [], gtx (d, c)⟩ bs (.slice ai 0 ci) (.slice at_ (gtx (d, c)).length ct) w2.heap.size)) := by
  refine (gq_get (nm := nm) (want := ⟨#[]⟩) h (BW.start W) hK (by omega)).mono ?_
  rintro e w1 ⟨b2, rfl, hJ, hk⟩
  refine ⟨b2, rfl, hk, ?_⟩
  obtain ⟨t1, t2, t3⟩ := getP_sts (q := q) (m := m) (nm := nm) (k := kGet) (want := ⟨#[]⟩) (y := ⟨c, 0, [], gtx (d, c)⟩) hO (by rw [hf]; rfl)
  refine (gq_run (g := 100) h hJ.out (sts_gd (by decide) hm0 hm hnl hOs) t1 t2 t3 (by rw [aq_len]; omega) (aq_small (by unfold maxLen; omega)) (by simp) (by simp only [gtx]; split <;> simp)).mono ?_
  rintro e w2 ⟨ai, ci, at_, ct, rfl, hR, _⟩
  exact ⟨ai, ci, at_, ct, rfl, fun W3 hW => rq_of h hR.out hW⟩
theorem gq_scrub {z : Option Nat} (h : GQ w W0 X Bd K M sv S bs) (hz : BW W0 W z) (hK : 1 ≤ K) (hKM : K + M ≤ 255) :
    Calls Tryz.prog 28 #[.agg #[.int .i64 (K : Int), .int .i64 (M : Int)], .string nm, .string want] W fun e w' => ∃ b2, e = .returned (.pointer (some ⟨b2, 0, none⟩)) ∧ Hid (JW W0 w' b2 (scrubP K M nm want kScrub) z) ∧ KK X K M w' := by
  refine (oscrubjob (w := W) (ox_scrub hK hKM) (h.la.below hz.be h.la.size)).mono ?_
  intro e w' hM
  obtain ⟨b2, rfl, hJ⟩ := JW.of hM hz
  exact ⟨b2, rfl, hJ, h.kb hJ.out.be⟩
theorem gn_scrub {c : Int} (h : GQ w W X Bd K M sv (sts q m nm O) bs) (hO : O.length = K + M) (hf : fnd K M ⟨#[]⟩ (O.map gans) = ⟨⟨#[]⟩, [], c⟩) (hc : c ≠ 0) (hK : 1 ≤ K) (hKM : K + M ≤ 9) (hnl : nm.size ≤ 96) (hOs : ∀ d, some d ∈ O → d.size ≤ 131072) (hm0 : 0 ≤ m) (hm : m ≤ 100) :
    Calls Tryz.prog 28 #[.agg #[.int .i64 (K : Int), .int .i64 (M : Int)], .string nm, .string ⟨#[]⟩] W fun e w1 => ∃ b2, e = .returned (.pointer (some ⟨b2, 0, none⟩)) ∧ KK X K M w1 ∧ Hid (Calls Tryz.prog 33 #[.pointer (some ⟨b2, 0, none⟩), sv] w1 fun e w2 => ∃ ai ci at_ ct, e = .returned (.tuple #[.agg #[.int .i64 c, .string ⟨#[]⟩, .int .i64 0, .slice ai 0 ci, .slice at_ 0 ct, .slice none 0 0, .slice none 0 0], .bool true]) ∧
      Hid (∀ W3, W3 = w2.alloc (.cells #[.int .i64 c, .string ⟨#[]⟩, .int .i64 0, .slice ai 0 ci, .slice at_ 0 ct, .slice none 0 0, .slice none 0 0] 63) → GQ w W3 X Bd K M sv (sts q (m + 1) nm O) bs ∧ RQ9 W W3 ⟨c, 0, [], []⟩ bs (.slice ai 0 ci) (.slice at_ 0 ct) w2.heap.size)) := by
  refine (gq_scrub (nm := nm) (want := ⟨#[]⟩) h (BW.start W) hK (by omega)).mono ?_
  rintro e w1 ⟨b2, rfl, hJ, hk⟩
  refine ⟨b2, rfl, hk, ?_⟩
  have hg := sts_get (q := q) (m := m) (nm := nm) (x := ⟨#[]⟩) (O := O)
  rw [hO] at hg
  have hsk : scrubK K M nm kScrub (fnd K M ⟨#[]⟩ (O.map gans)) = .fin ⟨c, 0, [], []⟩ := by
    rw [hf, scrubK, if_neg hc]; rfl
  have t1 : (scrubP K M nm ⟨#[]⟩ kScrub).tr (sts q m nm O) = aq 2 nm ⟨#[]⟩ (K + M) := by
    rw [scrubP, findP, sqP_tr, hg.1, hg.2, List.nil_append, hsk, PN.tr, List.append_nil]
  have t2 : (scrubP K M nm ⟨#[]⟩ kScrub).res (sts q m nm O) = ⟨c, 0, [], []⟩ := by
    rw [scrubP, findP, sqP_res, hg.1, hg.2, List.nil_append, hsk, PN.res]
  refine (gq_run (g := 100) h hJ.out (sts_gd (by decide) hm0 hm hnl hOs) t1 t2 hg.2 (by rw [aq_len]; omega) (aq_small (by unfold maxLen; omega)) (by simp) (by simp)).mono ?_
  rintro e w2 ⟨ai, ci, at_, ct, rfl, hR, _⟩
  exact ⟨ai, ci, at_, ct, rfl, fun W3 hW => rq_of h hR.out hW⟩
theorem gq_wipe (h : GQ w W X Bd K M sv (sts q m nm O) bs) (hj : j < O.length) : ∃ g o c e1, sv = .slice (some ⟨g, o, none⟩) O.length c ∧ W.cell? ⟨g, o + j, none⟩ = some (.pointer (some ⟨e1, 0, none⟩)) ∧
    Calls Tryz.prog 34 #[.pointer (some ⟨e1, 0, none⟩)] W fun e w' => e = .returned (.tuple #[]) ∧ Hid (GQ w w' X Bd K M sv (sts q m nm (O.set j none)) bs) := by
  have hbl : bs.length = O.length := by rw [h.yp.len, sts_len]
  obtain ⟨e1, he1⟩ : ∃ e1, bs[j]? = some e1 := ⟨_, List.getElem?_eq_getElem (by omega)⟩
  obtain ⟨a, c, e, hn | ⟨g, o, ea, hr, hg, hG⟩⟩ := h.yp.rp
  · have : bs.length = 0 := by simpa using congrArg List.length hn
    omega
  rw [List.length_map, hbl] at e
  subst ea
  refine ⟨g, o, c, e1.1, e, hG j e1.1 (by rw [List.getElem?_map, he1]; rfl), ?_⟩
  obtain ⟨ob, hob⟩ : ∃ ob, O[j]? = some ob := ⟨_, List.getElem?_eq_getElem hj⟩
  have hs1 := sts_at (q := q) (m := m) (nm := nm) hob
  have hX1 : PS W e1.1 e1.2 q 0 false m _ := h.yp.px j e1 _ he1 hs1
  refine (wipe_any hX1).mono ?_
  rintro er w6 ⟨rfl, hP6, hG6⟩
  refine ⟨rfl, ?_⟩
  have hin := h.yp.inP e1 (List.mem_of_getElem? he1)
  have hX6 : PX w6 e1.1 e1.2 (st1 q m nm none) := hP6
  have hy := h.yp.put he1 hs1 hG6 hX6
  rw [sts_set] at hy
  have hxx := h.xx
  have hw2 := h.w2
  refine ⟨hy, ?_, ?_, ?_, h.xx, h.xb, Nat.le_trans h.bd hG6.size, h.w2⟩
  · rw [hG6.block X (lt_of_block h.kt) (fun hi => by rcases hi with hi | hi <;> omega)]; exact h.kt
  · exact hG6.below h.be h.be.size fun i hi => by rcases hi with hi | hi <;> omega
  · exact laid_gs h.la hG6 fun i hi => by rcases hi with hi | hi <;> omega
end
end Go.Proofs.YtagijldedngcoaaGreatDoor


namespace Go.Proofs.YtagijldedngcoaaGreatDoor
open Go.RowKit Go.Lib Go.Maps
def nmN : ByteArray := ⟨#[110, 97, 109, 101]⟩
theorem nmN_may : mayB nmN = true := by decide
section
variable {w U W V : World} {X Bd K M : Nat} {sv : Value} {S : List SS} {bs : List (Nat × Nat)} {q m : Int} {nm : ByteArray} {O : List (Option ByteArray)}
theorem gq_yard {sv : Value} (hk : U.heap[X]? = some (.cells #[.int .i64 (K : Int), .int .i64 (M : Int)] 27 (0, 0))) (hX : w.heap.size ≤ X) (hB : Below w.heap.size w U) (hLw : Zq.Sh.Laid w) (hY : YB q U W sv bs) (hl : bs.length = K + M) (nm : ByteArray) : GQ w W X W.heap.size K M sv (sts q 0 nm (List.replicate (K + M) none)) bs := by
  have hs := hY.be.size
  have hkl := lt_of_block hk
  have hbe : Below w.heap.size w W := hB.trans (hY.be.mono hB.size)
  have hyp := hY.yp
  rw [hl, sts_new (nm := nm)] at hyp
  exact ⟨hyp.mono fun i hi => ⟨by omega, hi.2⟩, (hY.be.block X hkl).trans hk, hbe, hLw.below hbe hLw.size, hX, by omega, Nat.le_refl _, hLw.size⟩
theorem gO_sm {s : ByteArray} {a j : Nat} (hK : 1 ≤ K) (hKM : K + M ≤ 9) (hs : s.size ≤ 204) : ∀ d, some d ∈ gO K M s a j → d.size ≤ 131072 := by
  intro d hd
  rw [gO] at hd
  obtain ⟨i, _, hi⟩ := List.mem_map.1 hd
  split at hi
  · cases hi
  · cases hi
    rw [shB_size hK]
    have : Zq.eachN K s.size ≤ s.size + K - 1 := Nat.div_le_self _ _
    omega
theorem sh_sm {s : ByteArray} (hK : 1 ≤ K) (hKM : K + M ≤ 9) (hs : s.size ≤ 204) : ∀ d, some d ∈ (shL K M s).map some → d.size ≤ 131072 := by
  rw [← gO_start (a := 0)]
  exact gO_sm hK hKM hs
theorem no_sm : ∀ d, some d ∈ List.replicate (K + M) (none : Option ByteArray) → d.size ≤ 131072 := fun d hd => by simp at hd
theorem no_fnd (hK : 1 ≤ K) (hKM : K + M ≤ 255) : (fnd K M ⟨#[]⟩ ((List.replicate (K + M) none).map gans)).e = 5 := by
  have e : List.replicate (K + M) (none : Option ByteArray) = gO K M ⟨#[]⟩ 0 (K + M) := by
    refine List.ext_getElem? fun i => ?_
    by_cases hi : i < K + M
    · rw [gO_at hi, if_pos ⟨Nat.zero_le _, hi⟩, List.getElem?_replicate, if_pos hi]
    · rw [List.getElem?_eq_none (by simp; omega), List.getElem?_eq_none (by rw [gO_len]; omega)]
  rw [e, gO_gone hK hKM (Nat.zero_le _) hK, if_pos rfl]
theorem gn_get0 {c : Int} {hd : List Zq.SX} {d : ByteArray} (h : GQ w W X Bd K M sv (sts q m nm O) bs) (hO : O.length = K + M) (hf : fnd K M ⟨#[]⟩ (O.map gans) = ⟨d, hd, c⟩) (hc : c ≠ 0) (hK : 1 ≤ K) (hKM : K + M ≤ 9) (hnl : nm.size ≤ 96) (hOs : ∀ d, some d ∈ O → d.size ≤ 131072) (hm0 : 0 ≤ m) (hm : m ≤ 100) :
    Calls Tryz.prog 25 #[.agg #[.int .i64 (K : Int), .int .i64 (M : Int)], .string nm, .string ⟨#[]⟩] W fun e w1 => ∃ b2, e = .returned (.pointer (some ⟨b2, 0, none⟩)) ∧ KK X K M w1 ∧ Hid (Calls Tryz.prog 33 #[.pointer (some ⟨b2, 0, none⟩), sv] w1 fun e w2 => ∃ ai ci at_ ct, e = .returned (.tuple #[.agg #[.int .i64 c, .string ⟨#[]⟩, .int .i64 0, .slice ai 0 ci, .slice at_ 0 ct, .slice none 0 0, .slice none 0 0], .bool true]) ∧
      Hid (∀ W3, W3 = w2.alloc (.cells #[.int .i64 c, .string ⟨#[]⟩, .int .i64 0, .slice ai 0 ci, .slice at_ 0 ct, .slice none 0 0, .slice none 0 0] 63) → GQ w W3 X Bd K M sv (sts q (m + 1) nm O) bs ∧ RQ9 W W3 ⟨c, 0, [], []⟩ bs (.slice ai 0 ci) (.slice at_ 0 ct) w2.heap.size)) := by
  have h9 := gn_get h hO hf hK hKM hnl hOs hm0 hm
  rw [show gtx (d, c) = [] by rw [gtx, if_neg hc]] at h9
  exact h9
theorem gn_get1 {hd : List Zq.SX} {d : ByteArray} (h : GQ w W X Bd K M sv (sts q m nm O) bs) (hO : O.length = K + M) (hf : fnd K M ⟨#[]⟩ (O.map gans) = ⟨d, hd, 0⟩) (hK : 1 ≤ K) (hKM : K + M ≤ 9) (hnl : nm.size ≤ 96) (hOs : ∀ d, some d ∈ O → d.size ≤ 131072) (hm0 : 0 ≤ m) (hm : m ≤ 100) :
    Calls Tryz.prog 25 #[.agg #[.int .i64 (K : Int), .int .i64 (M : Int)], .string nm, .string ⟨#[]⟩] W fun e w1 => ∃ b2, e = .returned (.pointer (some ⟨b2, 0, none⟩)) ∧ KK X K M w1 ∧ Hid (Calls Tryz.prog 33 #[.pointer (some ⟨b2, 0, none⟩), sv] w1 fun e w2 => ∃ ai ci gt ot ct, e = .returned (.tuple #[.agg #[.int .i64 0, .string ⟨#[]⟩, .int .i64 0, .slice ai 0 ci, .slice (some ⟨gt, ot, none⟩) 1 ct, .slice none 0 0, .slice none 0 0], .bool true]) ∧
      Hid (∀ W3, W3 = w2.alloc (.cells #[.int .i64 0, .string ⟨#[]⟩, .int .i64 0, .slice ai 0 ci, .slice (some ⟨gt, ot, none⟩) 1 ct, .slice none 0 0, .slice none 0 0] 63) → GQ w W3 X Bd K M sv (sts q (m + 1) nm O) bs ∧ RQ9 W W3 ⟨0, 0, [], [d]⟩ bs (.slice ai 0 ci) (.slice (some ⟨gt, ot, none⟩) 1 ct) w2.heap.size ∧ W3.cell? ⟨gt, ot, none⟩ = some (.string d))) := by
  have h9 := gn_get h hO hf hK hKM hnl hOs hm0 hm
  rw [show gtx (d, (0 : Int)) = [d] by rw [gtx, if_pos rfl]] at h9
  refine h9.mono ?_
  rintro e w1 ⟨b2, rfl, hk, hC⟩
  refine ⟨b2, rfl, hk, hC.out.mono ?_⟩
  rintro e w2 ⟨ai, ci, at_, ct, rfl, h3⟩
  obtain ⟨_, hr⟩ := h3.out _ rfl
  obtain ⟨a, c, e, _, hl | ⟨gt, ot, ea, hr, hg, hG⟩⟩ := hr.tt.ls (r := fun i => (Value.slice at_ 1 ct).ownBlock = some i) fun i hi => hi
  · cases hl
  injection e with e1 _ _
  subst e1
  subst ea
  refine ⟨ai, ci, gt, ot, ct, rfl, fun W3 hW => ?_⟩
  obtain ⟨k1, k2⟩ := h3.out W3 hW
  refine ⟨k1, k2, ?_⟩
  subst hW
  have := hG 0 d rfl 0 _ rfl
  simpa using this
theorem RQ9.keep {W1 W2 : World} {x : RS} {ids tx ids' tx' : Value} {q q' : Nat} {c n : Int} (h : R7 W1 q c n ids tx) (hR : RQ9 W1 W2 x bs ids' tx' q') (hG : GQ w W1 X Bd K M sv S bs) (hq : Bd ≤ q) : R7 W2 q c n ids tx :=
  h.gs hR.gs fun hi => by have := hG.yp.qs hi; omega
end
end Go.Proofs.YtagijldedngcoaaGreatDoor

namespace Go.Proofs.YtagijldedngcoaaGreatDoor
open Go.RowKit Go.Lib Go.Maps
section
variable {P : Program} {md : Region.Mode} {ops : Array Oper} {Q : Exit → Act → World → Prop}
theorem AnyZ.two {S : World → Prop} {z i j : Nat} {oi oj : Oper} {f : Nat} {lis : Array Bool} {a : Act} {w : World} (hr : Region.ready md ops lis = [i, j]) (hi : ops[i]? = some oi) (hj : ops[j]? = some oj)
    (h1 : ∀ K' : Act → World → Prop, Shut (∀ a w, (i ≠ z → S w) → ((i ≠ z → S w) → AnyZ P md ops Q S z f (lis.setIfInBounds i true) a w) → K' a w) → if Region.wanted oi (yielded ops a.tmps) = true then Oper.wp P oi a w K' Q else K' (a.put oi.dst undef) w)
    (h2 : ∀ K' : Act → World → Prop, Shut (∀ a w, (j ≠ z → S w) → ((j ≠ z → S w) → AnyZ P md ops Q S z f (lis.setIfInBounds j true) a w) → K' a w) → if Region.wanted oj (yielded ops a.tmps) = true then Oper.wp P oj a w K' Q else K' (a.put oj.dst undef) w) :
    AnyZ P md ops Q S z (f + 1) lis a w := by
  refine ⟨fun h0 => (by rw [hr] at h0; cases h0), fun t ht => ?_⟩
  rw [hr] at ht
  have : t = i ∨ t = j := by simpa using ht
  rcases this with rfl | rfl
  · exact wpOp_step hi fun K' hK => h1 K' fun a w hS hW => hK a w ⟨hS, hW hS⟩
  · exact wpOp_step hj fun K' hK => h2 K' fun a w hS hW => hK a w ⟨hS, hW hS⟩
end
end Go.Proofs.YtagijldedngcoaaGreatDoor

namespace Go.Proofs.YtagijldedngcoaaGreatDoor
open Go.RowKit Go.Lib Go.Maps
section
variable {w w6 W : World} {X b b2 q : Nat} {sv : Value} {bs : List (Nat × Nat)} {z : Option Nat}
theorem sum_at {B : Nat} {s : ByteArray} (hL : Zq.Sh.Laid W) (hB : B < W.heap.size) (hc : W.cell? ⟨B, 0, none⟩ = some (.string s)) (hs : s.size ≤ 1000000) :
    Calls Tryz.prog 37 #[.slice (some ⟨B, 0, none⟩) 1 1] W fun e w' => e = .returned (.string (Zq.bs (Zq.Sh.digest s.data.toList))) ∧ Below W.heap.size W w' := by
  have hp : Zq.Sh.Pieces W (.slice (some ⟨B, 0, none⟩) 1 1) [s] := ⟨_, 1, rfl, .inr ⟨B, 0, rfl, hB, fun k hk => by
    have : k = 0 := by simpa using hk
    subst this
    exact hc⟩⟩
  refine (Zq.Sh.sum_any hL hp (by simp) (by simp [Zq.Sh.joined]; omega)).mono ?_
  rintro e w1 ⟨rfl, hb1⟩
  rw [Zq.joined_one]
  exact ⟨rfl, hb1⟩
abbrev KC2 (X : Nat) (W : World) : Prop := W.cell? ⟨X, 0, none⟩ = some (.int .i64 2) ∧ W.cell? ⟨X, 1, none⟩ = some (.int .i64 1)
theorem KC2.of (h : W.heap[X]? = some (.cells #[.int .i64 2, .int .i64 1] 27 (0, 0))) : KC2 X W := ⟨by simp [World.cell?, h], by simp [World.cell?, h]⟩
theorem W6.kc (h : W6 w w6 X b sv bs) (hb : Below w6.heap.size w6 W) : KC2 X W := KC2.of ((hb.block X (lt_of_block h.kt)).trans h.kt)
theorem w_sum {B : Nat} (h : W6 w w6 X b sv bs) (hz : BW w6 W z) (hB : B < W.heap.size) (hc : W.cell? ⟨B, 0, none⟩ = some (.string ⟨#[97, 98, 99]⟩)) :
    Calls Tryz.prog 37 #[.slice (some ⟨B, 0, none⟩) 1 1] W fun e w7 => e = .returned (.string wD) ∧ Hid (BW w6 w7 z) ∧ KC2 X w7 := by
  refine (sum_at (h.la.below hz.be h.la.size) hB hc (by decide)).mono ?_
  rintro e w7 ⟨rfl, hb⟩
  have := hz.bel hb
  exact ⟨rfl, this, h.kc this.be⟩
theorem w_job (h : W6 w w6 X b sv bs) (hz : BW w6 W z) :
    Calls Tryz.prog 25 #[.agg #[.int .i64 2, .int .i64 1], .string ⟨#[97]⟩, .string wD] W fun e w' => ∃ b2, e = .returned (.pointer (some ⟨b2, 0, none⟩)) ∧ Hid (JW w6 w' b2 (getP 2 1 wA wD kGet) z) ∧ KC2 X w' := by
  have hox : OXGet 2 1 wA wD (getP 2 1 wA wD kGet) := ox_get (K := 2) (M := 1) (by decide) (by decide)
  refine (ogetjob (w := W) hox (h.la.below hz.be h.la.size)).mono ?_
  intro e w' hM
  obtain ⟨b2, rfl, hJ⟩ := JW.of hM hz
  exact ⟨b2, rfl, hJ, h.kc hJ.out.be⟩
theorem w_run (h : W6 w w6 X b sv bs) (hJ : JW w6 W b2 (getP 2 1 wA wD kGet) z) :
    Calls Tryz.prog 33 #[.pointer (some ⟨b2, 0, none⟩), sv] W fun e w9 => ∃ ai ci at_ ct, e = .returned (.tuple #[.agg #[.int .i64 0, .string ⟨#[]⟩, .int .i64 0, .slice ai 0 ci, .slice at_ 1 ct, .slice none 0 0, .slice none 0 0], .bool true]) ∧ Hid (RW w6 w9 b2 ⟨0, 0, [], [wT]⟩ 3 (fun i => X < i ∧ i < b) sv (sts 1000 3 wA wO) bs (.slice ai 0 ci) (.slice at_ 1 ct) z) ∧ KC2 X w9 := by
  obtain ⟨ids, tx, hj⟩ := h.jb
  have hbl := hj.lt
  have hk : kGet ((fnd 2 1 wD (wO.map gans)).d, (fnd 2 1 wD (wO.map gans)).e) = .fin ⟨0, 0, [], [wT]⟩ := by
    rw [wD, wF]; rfl
  obtain ⟨t1, t2, t3⟩ := getP_sts (K := 2) (M := 1) (q := 1000) (m := 2) (nm := wA) (O := wO) rfl hk
  have hX := lt_of_block h.kt
  have hw2 := h.w2
  have hxx := h.xx
  refine (go_run (g := 2) hJ h.yp (fun i hi => by omega) (sts_gd (by decide) (by decide) (by decide) (by decide) (fun d hd => by
    have : d = Zq.shB 2 1 wT 0 ∨ d = Zq.shB 2 1 wT 2 := by simpa [wO] using hd
    rcases this with rfl | rfl <;> (rw [shB_size (by decide)]; decide))) t1 t2 t3 (by rw [aq_len]; decide) (by
      intro q hq
      obtain ⟨i, _, rfl⟩ := List.mem_map.1 hq
      exact ⟨show wA.size ≤ maxLen by decide, show (⟨#[]⟩ : ByteArray).size ≤ maxLen by decide⟩) (by simp) (by simp) h.la).mono ?_
  rintro e w9 ⟨ai, ci, at_, ct, rfl, hR⟩
  rw [aq_len] at hR
  refine ⟨ai, ci, at_, ct, rfl, hR, KC2.of ?_⟩
  rw [hR.out.gs.block X hX (fun hi => by have := h.yp.qs hi; omega)]
  exact h.kt
theorem w_store {ids tx : Value} (h : W6 w w6 X b sv bs) (hR : RW w6 W b2 ⟨0, 0, [], [wT]⟩ 3 (fun i => X < i ∧ i < b) sv (sts 1000 3 wA wO) bs ids tx (some q)) :
    ∃ V, (Instr.storeAt 63 (.pointer (some ⟨q, 0, none⟩)) (.agg #[.int .i64 0, .string ⟨#[]⟩, .int .i64 0, ids, tx, .slice none 0 0, .slice none 0 0])).run Tryz.prog W = .ok () V ∧ Hid (RV w6 V b2 ⟨0, 0, [], [wT]⟩ 3 (fun i => X < i ∧ i < b) sv (sts 1000 3 wA wO) bs ids tx q) ∧ KC2 X V := by
  obtain ⟨_, _, hj⟩ := h.jb
  have hbl := hj.lt
  have hX := lt_of_block h.kt
  have hw2 := h.w2
  have hxx := h.xx
  obtain ⟨V, h1, h2⟩ := hR.store (fun i hi => by omega) (by omega)
  refine ⟨V, h1, h2, KC2.of ?_⟩
  rw [h2.out.gs.block X hX (fun hi => by have := h.yp.qs hi; omega)]
  exact h.kt
theorem w_end {ai at_ : Option Addr} {ci ct : Nat} {V : World} (h : W6 w w6 X b sv bs) (hV : RV w6 V b2 ⟨0, 0, [], [wT]⟩ 3 (fun i => X < i ∧ i < b) sv (sts 1000 3 wA wO) bs (.slice ai 0 ci) (.slice at_ 1 ct) q) :
    ∃ gt ot, at_ = some ⟨gt, ot, none⟩ ∧ V.cell? ⟨q, 0, none⟩ = some (.int .i64 0) ∧ V.cell? ⟨q, 4, none⟩ = some (.slice (some ⟨gt, ot, none⟩) 1 ct) ∧ V.cell? ⟨gt, ot, none⟩ = some (.string ⟨#[97, 98, 99]⟩) ∧ Hid (Calls Tryz.prog 31 #[.pointer (some ⟨b, 0, none⟩)] V fun e w' => e = .returned (.int .i64 6) ∧ w' = V) ∧ Hid (Below w.heap.size w V) := by
  obtain ⟨ids, tx, hj⟩ := h.jb
  obtain ⟨a, c, e, _, hl | ⟨gt, ot, ea, hr, hg, hG⟩⟩ := hV.tt.ls (r := fun i => (Value.slice at_ 1 ct).ownBlock = some i) fun i hi => hi
  · cases hl
  injection e with e1 _ _
  subst e1
  subst ea
  have hxx := h.xx
  refine ⟨gt, ot, rfl, hV.r7.cell 0, hV.r7.cell 4, ?_, steps_any (hj.gs hV.gs fun hi => by have := h.yp.qs hi; omega), hV.gs.below h.be h.be.size fun i hi => by have := h.yp.qs hi; omega⟩
  have := hG 0 wT rfl 0 _ rfl
  simpa [wT] using this
end
end Go.Proofs.YtagijldedngcoaaGreatDoor
