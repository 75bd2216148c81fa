/-
  Contracts of the program and of the statements (part 6 of 6).
-/
import Derived.Test.YtiecoplfiahpnaaFa5
import Derived.Deep.SlicePairs
import Derived.ProofKit
import Derived.OpenShut
import Derived.SizedLaws

namespace Go.Proofs.Ytiecoplfiahpnaa
open Go.RowKit Go.Lib Go.Maps
def okn (n : Int) : Bool := decide (1 ≤ n ∧ n ≤ 255)
/-- The code of a job's result. -/
def gC (ok : Bool) (k : List Int) (A : List RR) : Int := if ok = true then frs k (A.map (·.c)) else 1
def gN (A : List RR) : Int := ((gds (A.map (·.c)) : Nat) : Int)
def noT (_ : List RR) : List ByteArray := []
section
variable {F : FuncId} {fi ca : Array Value} {b i1 : Nat} {A : List RR} {e m r r' p : Nat → Prop} {w w' W : World} {cv dv : Value} {st k c NN s : Int} {n d nm : ByteArray} {go ids tx : Value} {cs ks : List Int} {ds : List ByteArray}
set_option maxRecDepth 100000 in
set_option maxHeartbeats 3200000 in
theorem put_end (h6 : w.heap[i1]? = some (.cells #[.pointer (some ⟨b, 0, none⟩)] 52 (0, 0))) (hJ : JB w b true st k n d go c NN ids tx s) (hL : LS c1 1 r w cv cs) (hn : cs.length ≤ 1000000) :
    Calls Try.prog 23 #[cv, .pointer (some ⟨i1, 0, none⟩)] w fun e w' => e = .returned (.tuple #[]) ∧ ∃ ids tx, JB w' b false 0 0 ⟨#[]⟩ ⟨#[]⟩ .nilFunc (frs [] cs) ((gds cs : Nat) : Int) ids tx s ∧ TS w.heap.size ids [] w' ∧ TS w.heap.size tx [] w' ∧ Gs (fun i => i = b) w w' := by
  have hib : i1 ≠ b := fun e => by
    rw [e, show w.heap[b]? = _ from hJ] at h6
    simp at h6
  have y1 : w.cell? ⟨i1, 0, none⟩ = some (.pointer (some ⟨b, 0, none⟩)) := by simp [World.cell?, h6]
  have HT := hide (outcome_any (w := w.drew) hL (LS.nl (f := c1) (fun _ => True) w.drew) hn (by simp))
  have HK : Hid (∀ w1, Below w.drew.heap.size w.drew w1 → w1.cell? ⟨i1, 0, none⟩ = some (.pointer (some ⟨b, 0, none⟩))) := fun w1 hb => (hb.cell (p := ⟨i1, 0, none⟩) (lt_of_block h6)).trans y1
  have HE : Hid (∀ w1, Below w.drew.heap.size w.drew w1 → Calls Try.prog 24 #[.pointer (some ⟨b, 0, none⟩), .agg #[.int .i64 (frs [] cs), .string ⟨#[]⟩, .int .i64 ((gds cs : Nat) : Int), .slice none 0 0, .slice none 0 0, .slice none 0 0, .slice none 0 0]] w1 fun e w' => e = .returned (.tuple #[]) ∧ w'.cell? ⟨i1, 0, none⟩ = some (.pointer (some ⟨b, 0, none⟩)) ∧ Hid (∃ ids tx, JB w' b false 0 0 ⟨#[]⟩ ⟨#[]⟩ .nilFunc (frs [] cs) ((gds cs : Nat) : Int) ids tx s ∧ TS w.heap.size ids [] w' ∧ TS w.heap.size tx [] w' ∧ Gs (fun i => i = b) w w')) := fun w1 hb => by
    have hJ1 : JB w1 b true st k n d go c NN _ _ s := JB.bel (w := w.drew) hJ hb
    refine (end_on (r := fun _ => True) hJ1 (LS.nl _ _) (LS.nl _ _) (by simp) (by simp)).mono ?_
    rintro e w' ⟨rfl, ids', tx', hJ2, hT1, hT2, hG⟩
    have hbs : w.heap.size ≤ w1.heap.size := hb.size
    have hi1 : i1 < w1.heap.size := Nat.lt_of_lt_of_le (lt_of_block h6) hbs
    refine ⟨rfl, ?_, ids', tx', hJ2, hT1.low hbs, hT2.low hbs, ((Gs.of_below _ hb).trans hG).und⟩
    have e1 := hG.block i1 hi1 hib
    simp only [World.cell?, e1]
    exact HK.out w1 hb
  generalize frs [] cs = rc at *
  generalize ((gds cs : Nat) : Int) = rn at *
  clear h6 hJ hL hn
  go_enter Try.func23, Try.ntmps23
  go_upto_region 0 with fail
  go_region_held3 (fun w' => w'.cell? ⟨i1, 0, none⟩ = some (.pointer (some ⟨b, 0, none⟩))) (first | assumption)
    (first | (go_at_call 25; refine HT.out.mono ?_; rintro e w1 ⟨rfl, hB1⟩; have k1 := HK.out w1 hB1) | (go_at_call 24; refine (HE.out _ (by assumption)).mono ?_; rintro e w2 ⟨rfl, k2, hF⟩))
  all_goals (go_wp2; go_end0; exact ⟨rfl, hF.out⟩)
theorem kc_put (h6 : w.heap[i1]? = some (.cells #[.pointer (some ⟨b, 0, none⟩)] 52 (0, 0))) (hb : b < w.heap.size) (N : Nat) (hN : N ≤ 1000000) : KC 23 #[] #[.pointer (some ⟨i1, 0, none⟩)] b (FinR b (gC true []) gN noT noT) N [] [] (fun i => i = i1) (fun _ => False) w := by
  intro W cv A r hS hJ hL hA hI hr
  show Calls Try.prog 23 #[cv, .pointer (some ⟨i1, 0, none⟩)] W _
  refine (put_end ((hS.2 i1 rfl (lt_of_block h6)).trans h6) hJ hL (by simp; omega)).mono ?_
  rintro er w' ⟨rfl, ids, tx, hJ', h1, h2, hG⟩
  refine ⟨rfl, ?_⟩
  rw [List.nil_append]
  refine fin_rdy ?_ h1 h2 hG (Nat.lt_of_lt_of_le hb hS.1)
  rw [gC, if_pos rfl, hA]
  simpa [gN] using hJ'
theorem ent_p11 : Ent 23 := ent_of Try.func23 (by kernel_rfl) rfl
theorem ent_p1 : Ent 21 := ent_of Try.func21 (by kernel_rfl) rfl
set_option maxRecDepth 100000 in
set_option maxHeartbeats 3200000 in
theorem putjob1_any {x1 x2 : Nat} (hJ : JB w b true 0 0 ⟨#[]⟩ ⟨#[]⟩ .nilFunc 0 0 (.slice none 0 0) (.slice none 0 0) 0) (h1 : w.heap[x1]? = some (.cells #[.string nm] 9 (0, 0))) (h2 : w.heap[x2]? = some (.cells #[dv] 29 (0, 0))) (hd : LS t1 1 r w dv ds) :
    Calls Try.prog 21 #[.pointer (some ⟨b, 0, none⟩), .pointer (some ⟨x1, 0, none⟩), .pointer (some ⟨x2, 0, none⟩)] w fun e w' => e = .returned (.tuple #[]) ∧ PO b (FinR b (gC true []) gN noT noT) (pqn nm ds) [] (fun i => w.heap.size ≤ i) (fun i => i = b) w w' := by
  obtain ⟨U, hU⟩ : ∃ U, U = w.alloc (.cells #[.pointer (some ⟨b, 0, none⟩)] 52) := ⟨_, rfl⟩
  obtain ⟨i1, hi1⟩ : ∃ i1, i1 = w.heap.size := ⟨_, rfl⟩
  have hBU : Below w.heap.size w U := by rw [hU]; exact (Below.refl _ _).alloc (Nat.le_refl _) _
  have hJU := hJ.bel hBU
  have hszU : U.heap.size = i1 + 1 := by rw [hU, hi1]; simp
  have h6 : U.heap[i1]? = some (.cells #[.pointer (some ⟨b, 0, none⟩)] 52 (0, 0)) := by rw [hU, hi1]; exact heap_alloc_new w _
  have y6 : U.cell? ⟨i1, 0, none⟩ = some (.pointer (some ⟨b, 0, none⟩)) := by simp [World.cell?, h6]
  have h1U := (hBU.block x1 (lt_of_block h1)).trans h1
  have h2U := (hBU.block x2 (lt_of_block h2)).trans h2
  have y1 : U.cell? ⟨x1, 0, none⟩ = some (.string nm) := by simp [World.cell?, h1U]
  have y2 : U.cell? ⟨x2, 0, none⟩ = some dv := by simp [World.cell?, h2U]
  have hbl := hJ.lt
  have hnl := nst_le (ds.length : Int)
  have HN := hide (puts_any (nm := nm) (rest := []) (A0 := []) ent_p11 hJU (hd.bel hBU) (by simp [resI]) (kc_put h6 hJU.lt (pqn nm ds).length (by rw [pqn_len]; omega)) (by omega) (fun i hi => hi.elim) (fun i hi => by omega))
  have HU := hide hU
  have HI := hide hi1
  have HB := hide hBU
  have hmf : ∀ (fn : Fn) (first cap : Array Value) (w : World), (Instr.makeFunc fn first cap).run Try.prog w = .ok (.func fn first cap) w := fun _ _ _ _ => rfl
  obtain ⟨da, dc, hdv⟩ := hd.shp
  subst hdv
  clear hd hJU hszU h6 h1U h2U hBU hU hi1 hJ hbl h1 h2 hnl
  go_enter Try.func21, Try.ntmps21
  go_upto_region 1 with fail
  rw [← HU.out, ← HI.out]
  go_wp2_with fail
  refine HN.out.mono ?_
  rintro e w7 ⟨rfl, hQ⟩
  have HQ : Hid (PO b (FinR b (gC true []) gN noT noT) (pqn nm ds) [] (fun i => w.heap.size ≤ i) (fun i => i = b) w w7) := by
    rw [List.append_nil] at hQ
    have h3 := (hQ.bel HB.out).less (e := fun i => w.heap.size ≤ i) (fun i hi => .inr (by have := HI.out; omega))
    exact h3.more fun i hi => by
      rcases hi with h | h
      · exact h
      · exact h.elim
  clear hQ
  go_wp2
  go_end0
  exact ⟨rfl, HQ.out⟩
set_option maxRecDepth 100000 in
set_option maxHeartbeats 3200000 in
theorem putjob_any (hd : LS t1 1 r w dv ds) (hn : ds.length ≤ 9223372036854775807) :
    Calls Try.prog 10 #[.string nm, dv] w fun e w' => MK (fun b => FinR b (gC (okn (ds.length : Int)) []) gN noT noT) (pqn nm ds) w w' e := by
  obtain ⟨U, hU⟩ : ∃ U, U = (w.alloc (.cells #[.string nm] 9)).alloc (.cells #[dv] 29) := ⟨_, rfl⟩
  obtain ⟨X, hX⟩ : ∃ X, X = w.heap.size := ⟨_, rfl⟩
  have hBU : Below w.heap.size w U := by rw [hU]; exact ((Below.refl _ _).alloc (Nat.le_refl _) _).alloc (by simp) _
  have h1 : U.heap[X]? = some (.cells #[.string nm] 9 (0, 0)) := by rw [hU, hX, Below.heap_alloc _ _ _ (by simp)]; exact heap_alloc_new w _
  have h2 : U.heap[X + 1]? = some (.cells #[dv] 29 (0, 0)) := by
    rw [hU, hX]
    have := heap_alloc_new (w.alloc (.cells #[.string nm] 9)) (.cells #[dv] 29 (0, 0))
    simpa using this
  have y2 : U.cell? ⟨X + 1, 0, none⟩ = some dv := by simp [World.cell?, h2]
  have HN : Hid (Calls Try.prog 20 #[.int .i64 (ds.length : Int), .func (.func 21) #[] #[.pointer (some ⟨X, 0, none⟩), .pointer (some ⟨X + 1, 0, none⟩)]] U fun e w' => Hid (MK (fun b => FinR b (gC (okn (ds.length : Int)) []) gN noT noT) (pqn nm ds) w w' e)) := by
    have hmk : ∀ w' e, MK (fun b => FinR b (gC (okn (ds.length : Int)) []) gN noT noT) (pqn nm ds) U w' e → MK (fun b => FinR b (gC (okn (ds.length : Int)) []) gN noT noT) (pqn nm ds) w w' e := by
      rintro w' e ⟨b, P, rfl, hJJ, hB, hP⟩
      have hs := hBU.size
      exact ⟨b, P, rfl, hJJ, hBU.trans (hB.mono hs), fun i hi => by have := hP i hi; omega⟩
    by_cases hok : 1 ≤ ds.length ∧ ds.length ≤ 255
    · have e1 : okn (ds.length : Int) = true := decide_eq_true (by omega)
      rw [e1]
      rw [e1] at hmk
      refine (fstart_yes (Fin := fun b => FinR b (gC true []) gN noT noT) (L := pqn nm ds) ent_p1 (by omega) (by omega) ?_).mono fun e w' h => hmk w' e h
      intro b V hJ hB hb
      show Calls Try.prog 21 #[.pointer (some ⟨b, 0, none⟩), .pointer (some ⟨X, 0, none⟩), .pointer (some ⟨X + 1, 0, none⟩)] V _
      refine (putjob1_any hJ ((hB.block X (lt_of_block h1)).trans h1) ((hB.block (X + 1) (lt_of_block h2)).trans h2) ((hd.bel hBU).bel hB)).mono ?_
      rintro e w' ⟨rfl, hP⟩
      exact ⟨rfl, hP.less fun i hi => .inr hi⟩
    · have e1 : okn (ds.length : Int) = false := decide_eq_false (by omega)
      rw [e1]
      rw [e1] at hmk
      have e2 : pqn nm ds = [] := by rw [pqn, if_neg hok]
      rw [e2] at hmk ⊢
      exact (fstart_no (C := gC false []) (N := gN) (I := noT) (T := noT) (by omega) rfl rfl rfl rfl).mono fun e w' h => hmk w' e h
  have HU := hide hU
  have HX := hide hX
  have hmf : ∀ (fn : Fn) (first cap : Array Value) (w : World), (Instr.makeFunc fn first cap).run Try.prog w = .ok (.func fn first cap) w := fun _ _ _ _ => rfl
  obtain ⟨da, dc, hdv⟩ := hd.shp
  subst hdv
  generalize ds.length = N at *
  clear hd h1 h2 hBU hU hX
  go_enter Try.func10, Try.ntmps10
  go_upto_region 1 with fail
  rw [← HU.out, ← HX.out]
  go_wp2_with fail
  refine HN.out.mono ?_
  rintro e w7 hQ
  obtain ⟨b, P, rfl, hR⟩ := hQ.out
  have HQ2 := hide hR
  clear hR
  go_wp2
  go_ret
  exact ⟨b, P, rfl, HQ2.out⟩
end
end Go.Proofs.Ytiecoplfiahpnaa

namespace Go.Proofs.Ytiecoplfiahpnaa
open Go.RowKit Go.Lib Go.Maps
section
variable {b : Nat} {C N : List RR → Int} {I T : List RR → List ByteArray} {L : List QT} {P Py : Nat → Prop} {w w' : World} {v : Value} {S : List SS} {bs : List (Nat × Nat)} {g : Nat}
/-- What a job that was run leaves. -/
structure RN9 (b : Nat) (C N : List RR → Int) (I T : List RR → List ByteArray) (L : List QT) (P Py : Nat → Prop) (w w' : World) (v : Value) (S : List SS) (bs : List (Nat × Nat)) : Prop where
  y : YP Py w' v (ySs S L) bs
  g : Gs (fun i => P i ∨ Py i) w w'
  f : ∃ P', FinR b C N I T (yRs S L) P' w' ∧ ∀ i, P' i → P i ∨ w.heap.size ≤ i
set_option maxRecDepth 100000 in
set_option maxHeartbeats 3200000 in
theorem run_job (hJ : JJ b (FinR b C N I T) L [] P w) (hY : YP Py w v S bs) (hap : ∀ i, P i → ¬ Py i) (hPy : ∀ i, Py i → i < w.heap.size) (hG : GD g S) (hg : g + L.length ≤ 1000) (hL : L.length ≤ 300) (hq : ∀ q ∈ L, q.n.size ≤ maxLen ∧ q.d.size ≤ maxLen) (hIl : (I (yRs S L)).length ≤ 1000000000000) (hTl : (T (yRs S L)).length ≤ 1000000000000) :
    Calls Try.prog 9 #[.pointer (some ⟨b, 0, none⟩), v] w fun e w' => ∃ ids tx, e = .returned (.tuple #[.agg #[.int .i64 (C (yRs S L)), .string ⟨#[]⟩, .int .i64 (N (yRs S L)), ids, tx, .slice none 0 0, .slice none 0 0], .bool true]) ∧ TS w.heap.size ids (I (yRs S L)) w' ∧ TS w.heap.size tx (T (yRs S L)) w' ∧ RN9 b C N I T L P Py w w' v S bs := by
  obtain ⟨U, hU⟩ : ∃ U, U = w.alloc (.cells #[.int .i64 0, .string ⟨#[]⟩, .int .i64 0, .slice none 0 0, .slice none 0 0, .slice none 0 0, .slice none 0 0] 35) := ⟨_, rfl⟩
  obtain ⟨X0, hX⟩ : ∃ X0, X0 = w.heap.size := ⟨_, rfl⟩
  have hBU : Below w.heap.size w U := by rw [hU]; exact (Below.refl _ _).alloc (Nat.le_refl _) _
  have hZ : R7 U X0 0 0 (.slice none 0 0) (.slice none 0 0) := by rw [hU, hX]; exact heap_alloc_new w _
  have hPl := hJ.lt
  have hJU : JJ b (FinR b C N I T) L [] P U := hJ.gs (p := fun i => w.heap.size ≤ i) (fkR b C N I T) (Gs.of_below _ hBU) (fun i hi hn => by have := hPl i hi; omega)
  have hUs := hBU.size
  have HR := hide (run_any (jobJ (L := L) (fkR b C N I T) (by omega)) (A := []) ⟨Nat.zero_le _, hJU⟩ (hY.bel hBU) hap (fun i hi => by have := hPy i hi; omega) hG hg (by simp [resI]) hq 300 (by decide))
  have HU := hide hU
  have HX := hide hX
  have HZ := hide (And.intro hBU hZ)
  have HP := hide (And.intro hPl (And.intro hPy (And.intro hIl (And.intro hTl hL))))
  clear hJ hY hap hPy hG hg hq hU hX hBU hZ hPl hJU hUs hIl hTl hL
  go_enter Try.func9, Try.ntmps9
  go_upto_region 1 with fail
  rw [← HU.out, ← HX.out]
  go_wp2_with fail
  refine HR.out.mono ?_
  rintro e w1 ⟨t, ht, rfl, Pj', hRU⟩
  obtain ⟨hPl, hPy, hIl, hTl, hL⟩ := HP.out
  have ht2 : t = L.length := by simp at ht; omega
  subst ht2
  have hc : (if ([] : List RR).length + L.length < L.length then (2 : Int) else 0) = 0 := by rw [if_neg (by simp)]
  rw [hc]
  have eL : (L.drop ([] : List RR).length).take L.length = L := by simp
  have hj := hRU.j
  have hy := hRU.y
  rw [eL, List.nil_append] at hj
  rw [eL] at hy
  have hj2 := hj.2
  rw [List.drop_eq_nil_of_le (by rw [yRs_len]; omega)] at hj2
  obtain ⟨hPb, hPl', ids0, tx0, hJB, hI0, hT0⟩ := hj2
  have HS := hide (result_any hJB hI0 hT0 hIl hTl)
  have HF1 := hide (And.intro hy (And.intro hRU.g (And.intro hRU.p (And.intro hPb (And.intro hJB (And.intro hI0 hT0))))))
  clear hj hy hJB hI0 hT0 hRU hPb hPl' hPl hPy hIl hTl hL eL hc ht
  go_wp2_with fail
  refine HS.out.mono ?_
  rintro e w2 ⟨ids, tx, rfl, h1, h2, hB2⟩
  obtain ⟨hy, hg, hp, hPb, hJB, hI0, hT0⟩ := HF1.out
  obtain ⟨hPl, hPy, _⟩ := HP.out
  obtain ⟨hBU, hZ⟩ := HZ.out
  have hX := HX.out
  have hUs := hBU.size
  have hXl := hZ.lt
  have hgs := hg.size
  have hB2s := hB2.size
  have hXP : ¬ (P X0 ∨ Py X0) := by
    rintro (h | h)
    · have := hPl _ h; omega
    · have := hPy _ h; omega
  have hZ2 : R7 w2 X0 0 0 (.slice none 0 0) (.slice none 0 0) := (hZ.gs hg hXP).bel hB2
  obtain ⟨ai, ci, hei⟩ := h1.shp
  obtain ⟨at_, ct, het⟩ := h2.shp
  have hrun := store_run (t := 35) (o := 0) hZ2 #[.int .i64 (C (yRs S L)), .string ⟨#[]⟩, .int .i64 (N (yRs S L)), ids, tx, .slice none 0 0, .slice none 0 0] (Nat.le_of_ble_eq_true rfl) Try.sizeR (by rw [hei, het]; simp [Value.oneCell'])
  obtain ⟨V, hV⟩ : ∃ V, V = w2.setCells X0 0 [.int .i64 (C (yRs S L)), .string ⟨#[]⟩, .int .i64 (N (yRs S L)), ids, tx, .slice none 0 0, .slice none 0 0] := ⟨_, rfl⟩
  have hRV : R7 V X0 (C (yRs S L)) (N (yRs S L)) ids tx := by
    have h1 := setCells_self [.int .i64 (C (yRs S L)), .string ⟨#[]⟩, .int .i64 (N (yRs S L)), ids, tx, .slice none 0 0, .slice none 0 0] 0 w2 _ hZ2
    rw [← hV] at h1
    simpa [putAll, R7] using h1
  simp only [] at hrun
  rw [← hV] at hrun
  have hGV : Gs (fun i => i = X0) w2 V := by rw [hV]; exact Gs.cells _ _ _ (Gs.refl _ _) (.inl rfl)
  have hVs := hGV.size
  have r0 : V.cell? ⟨X0, 0, none⟩ = some (.int .i64 (C (yRs S L))) := hRV.cell 0
  have r1 : V.cell? ⟨X0, 1, none⟩ = some (.string ⟨#[]⟩) := hRV.cell 1
  have r2 : V.cell? ⟨X0, 2, none⟩ = some (.int .i64 (N (yRs S L))) := hRV.cell 2
  have r3 : V.cell? ⟨X0, 3, none⟩ = some ids := hRV.cell 3
  have r4 : V.cell? ⟨X0, 4, none⟩ = some tx := hRV.cell 4
  have r5 : V.cell? ⟨X0, 5, none⟩ = some (.slice none 0 0) := hRV.cell 5
  have r6 : V.cell? ⟨X0, 6, none⟩ = some (.slice none 0 0) := hRV.cell 6
  have HE : Hid (TS w.heap.size ids (I (yRs S L)) V ∧ TS w.heap.size tx (T (yRs S L)) V ∧ RN9 b C N I T L P Py w V v S bs) := by
    have k1 := h1.lt
    have k2 := h2.lt
    have hXl1 : X0 < w1.heap.size := by omega
    have hXPj : ¬ Pj' X0 := fun h => by
      rcases hp X0 h with h | h
      · exact hXP (.inl h)
      · omega
    refine ⟨(h1.kb fun i hi => hGV.block i (k1 i hi).2 (by have := (k1 i hi).1; omega)).low (by omega), (h2.kb fun i hi => hGV.block i (k2 i hi).2 (by have := (k2 i hi).1; omega)).low (by omega), ?_, ?_, ?_⟩
    · exact (hy.bel hB2).gs hGV fun i hi e => hXP (.inr (e ▸ hi))
    · refine ((((Gs.of_below _ hBU).trans hg).bel hB2).tr2 (hGV.mono (q := fun i => w.heap.size ≤ i) fun i _ e => by omega) fun i hi e => by omega)
    · have hfin : FinR b C N I T (yRs S L) Pj' w1 := ⟨ids0, tx0, hJB, hI0, hT0⟩
      have h3 := (fkR b C N I T).gs (p := fun i => ¬ Pj' i) hfin (w' := V) (((Gs.refl _ _).bel hB2).trans (hGV.mono fun i _ e h => hXPj (e ▸ h))) hPb (fun i hi hn => hn hi)
      exact ⟨Pj', h3, fun i hi => by
        rcases hp i hi with h | h
        · exact .inl h
        · exact .inr (by omega)⟩
  clear hV hRV hGV hVs hy hg hp hPb hJB hI0 hT0 hPl hPy hBU hZ hX hUs hXl hgs hB2s hXP hZ2 h1 h2 hB2 HF1
  subst hei
  subst het
  generalize (I (yRs S L)).length = li at *
  generalize (T (yRs S L)).length = lt at *
  go_wp2_with (refine wpList_store_run rfl 35 _ _ rfl _ _ rfl rfl hrun ?_)
  exact bodyPost_ret (v := .tuple #[.agg #[.int .i64 (C (yRs S L)), .string ⟨#[]⟩, .int .i64 (N (yRs S L)), .slice ai li ci, .slice at_ lt ct, .slice none 0 0, .slice none 0 0], .bool true]) (by simp [results, Try.results9, go_sem, r0, r1, r2, r3, r4, r5, r6]) rfl ⟨_, _, rfl, HE.out⟩
end
/-- Pointers as cells. -/
def pz (b : Nat) : List Value := [.pointer (some ⟨b, 0, none⟩)]
theorem pz_len (b : Nat) : (pz b).length = 1 := rfl
theorem pz_one (b : Nat) : ∀ u ∈ pz b, u.oneCell' = true := by intro u hu; simp [pz] at hu; subst hu; rfl
theorem Try.infoPz : (Try.prog.info? 45).map (fun i => (i.zero, i.size, i.bytes)) = some (some (.pointer none), 1, 8) := by kernel_rfl
def sq (q : Int) : SS := ⟨q, 0, 0, false, []⟩
theorem sq_go (q : Int) (t : Nat) : GO t (sq q) := ⟨List.Pairwise.nil, fun p hp => by simp [sq] at hp, Nat.zero_le _, Int.le_refl _, by show (0 : Int) ≤ (t : Int); omega, by show (0 : Int) ≤ 1048576; omega⟩
/-- Stores that were made. -/
structure YB (q : Int) (w wr : World) (sv : Value) (bs : List (Nat × Nat)) : Prop where
  s : OW pz 1 45 w.heap.size sv (bs.map (·.1)) wr
  px : ∀ e ∈ bs, PX wr e.1 e.2 (sq q) ∧ w.heap.size ≤ e.1 ∧ w.heap.size ≤ e.2
  ap : ∀ (i j : Nat) (e f : Nat × Nat), bs[i]? = some e → bs[j]? = some f → i ≠ j → e.1 ≠ f.1 ∧ e.2 ≠ f.2
  be : Below w.heap.size w wr
theorem snocGet {α : Type} {l : List α} {x y : α} {i : Nat} (h : (l ++ [x])[i]? = some y) : (i < l.length ∧ l[i]? = some y) ∨ (i = l.length ∧ y = x) := by
  by_cases hi : i < l.length
  · rw [List.getElem?_append_left hi] at h; exact .inl ⟨hi, h⟩
  · rw [List.getElem?_append_right (by omega)] at h
    have : i - l.length = 0 := by
      have := (List.getElem?_eq_some_iff.1 h).1
      simp at this; omega
    rw [this] at h
    simp at h
    exact .inr ⟨by omega, h.symm⟩
section
variable {q : Int} {w wr w' : World} {sv : Value} {bs : List (Nat × Nat)}
theorem YB.bel (h : YB q w wr sv bs) (hb : Below wr.heap.size wr w') : YB q w w' sv bs :=
  ⟨h.s.keep hb, fun e he => ⟨PS.bel (h.px e he).1 hb, (h.px e he).2⟩, h.ap, h.be.trans (hb.mono h.be.size)⟩
theorem YB.yp (h : YB q w wr sv bs) : YP (fun i => w.heap.size ≤ i ∧ i < wr.heap.size) wr sv (List.replicate bs.length (sq q)) bs := by
  refine ⟨?_, by simp, ?_, ?_, h.ap⟩
  · obtain ⟨a, c, e, hc, hl | ⟨g, o, ea, hr, hg, hG⟩⟩ := h.s.ls (r := fun i => w.heap.size ≤ i ∧ i < wr.heap.size) pz_len (fun i hi => ⟨(h.s.lt i hi).1, (h.s.lt i hi).2⟩)
    · exact ⟨a, c, e, .inl hl⟩
    · refine ⟨a, c, e, .inr ⟨g, o, ea, hr, hg, fun i b hb => ?_⟩⟩
      have := hG i b hb 0 _ rfl
      rw [Nat.mul_one, Nat.add_zero] at this
      exact this
  · intro i e s he hs
    rw [List.getElem?_replicate] at hs
    split at hs
    · cases hs; exact (h.px e (List.mem_of_getElem? he)).1
    · cases hs
  · intro e he
    exact ⟨⟨(h.px e he).2.1, PS.lt (h.px e he).1⟩, ⟨(h.px e he).2.2, PS.mlt (h.px e he).1⟩⟩
/-- A store more. -/
theorem YB.more (h : YB q w wr sv bs) {b mb : Nat} (hX : PX wr b mb (sq q)) (hb : w.heap.size ≤ b) (hm : w.heap.size ≤ mb) (hd : ∀ e ∈ bs, e.1 ≠ b ∧ e.2 ≠ mb) (hl : bs.length ≤ 1000) :
    ∃ a c w', (Builtin.append_ #[30, 30] 30 #[sv, .slice (some ⟨wr.heap.size, 0, none⟩) 1 1]).run Try.prog (wr.alloc (.cells #[.pointer (some ⟨b, 0, none⟩)] 45)) = .ok (.slice a (bs.length + 1) c) w' ∧ YB q w w' (.slice a (bs.length + 1) c) (bs ++ [(b, mb)]) := by
  have hal : Below wr.heap.size wr (wr.alloc (.cells #[.pointer (some ⟨b, 0, none⟩)] 45)) := (Below.refl _ _).alloc (Nat.le_refl _) _
  have h' := h.bel hal
  have hws := h.be.size
  obtain ⟨v', w1, h1, h2, h3, h4⟩ := OW.app (ST := 30) pz_len (by decide) (fun x _ => pz_one x) Try.underlying30 Try.infoPz rfl h'.s (LS.one b 45 wr pz 1 (fun _ => True) trivial) (by simp; omega) (by simp; omega) (by simp; omega)
  obtain ⟨a, c, e⟩ := h2.shp
  have hle : ((bs.map (·.1)) ++ [b]).length = bs.length + 1 := by simp
  rw [hle] at e
  subst e
  have hsl := h'.s.lt
  have hst := h'.s.typ
  have hBw : Below w.heap.size w w1 := h'.be.grown h3 (by simp; omega) (fun k hk => (hsl k hk).1)
  refine ⟨a, c, w1, h1, ?_, ?_, ?_, hBw⟩
  · rw [List.map_append]; exact h2
  · have hpk : ∀ e : Nat × Nat, PX (wr.alloc (.cells #[.pointer (some ⟨b, 0, none⟩)] 45)) e.1 e.2 (sq q) → PX w1 e.1 e.2 (sq q) := fun e hX => by
      have hX' : PS _ e.1 e.2 (sq q).q (sq q).f (sq q).off (sq q).m (sq q).L := hX
      have g1 : Gs (fun i => sv.ownBlock = some i) (wr.alloc (.cells #[.pointer (some ⟨b, 0, none⟩)] 45)) w1 := ⟨h3.os, h3.tape, h3.output, h3.size, fun i hi hn => h3.block i hi (fun e => hn e.symm)⟩
      refine PS.gs hX' g1 (fun e' => ?_) (fun e' => ?_)
      · obtain ⟨c1, q1⟩ := hst _ e'
        rw [hX'.blk] at q1
        simp at q1
      · obtain ⟨c1, q1⟩ := hst _ e'
        exact hX'.map.notCells q1
    intro e he
    rcases List.mem_append.1 he with he | he
    · exact ⟨hpk e (h'.px e he).1, (h.px e he).2⟩
    · simp at he
      subst he
      exact ⟨hpk _ (PS.bel hX hal), hb, hm⟩
  · intro i j e f he hf hij
    rcases snocGet he with ⟨hi, he⟩ | ⟨hi, he⟩ <;> rcases snocGet hf with ⟨hj, hf⟩ | ⟨hj, hf⟩
    · exact h.ap i j e f he hf hij
    · subst hf; exact hd e (List.mem_of_getElem? he)
    · subst he; have := hd f (List.mem_of_getElem? hf); exact ⟨fun q => this.1 q.symm, fun q => this.2 q.symm⟩
    · omega
set_option maxRecDepth 100000 in
set_option maxHeartbeats 3200000 in
theorem yard_any (n : Nat) (hn : n ≤ 1000) (w : World) : Calls Try.prog 8 #[.int .i64 (n : Int)] w fun e w' => ∃ a c bs, e = .returned (.slice a n c) ∧ YB 1048576 w w' (.slice a n c) bs ∧ bs.length = n := by
  go_enter Try.func8, Try.ntmps8
  go_wp2
  go_loopw [3, 7] (fun sv i wr => ∃ (j : Nat) (bs : List (Nat × Nat)), j ≤ n ∧ i = .int .i64 j ∧ bs.length = j ∧ YB 1048576 w wr sv bs) (fun _ i _ => n - (intOf i).toNat)
  case atStart => exact ⟨0, [], by omega, rfl, rfl, ⟨OW.nil _ _ _ _ _, fun e he => by simp at he, fun i j e f he => by simp at he, Below.refl _ _⟩⟩
  case round =>
    obtain ⟨j, bs, hj, rfl, hbl, hB⟩ := hrel
    obtain ⟨asv, csv, hsv⟩ := hB.s.shp
    rw [List.length_map, hbl] at hsv
    subst hsv
    have HB := hide hB
    have HL := hide hbl
    clear hB hbl
    by_cases hlt : j < n
    · have b1 : (j : Int) < (n : Int) := by omega
      have HN := hide (new_ok 1048576 wr (by decide) (by decide))
      go_wp2_with fail
      refine HN.out.mono ?_
      rintro e w1 ⟨rfl, hP1, hB1⟩
      have hX1 : PX w1 (wr.heap.size + 1) wr.heap.size (sq 1048576) := hP1
      have hws := HB.out.be.size
      have hlt1 : ∀ e ∈ bs, e.1 < wr.heap.size ∧ e.2 < wr.heap.size := fun e he => ⟨PS.lt (HB.out.px e he).1, PS.mlt (HB.out.px e he).1⟩
      obtain ⟨a3, c3, w3, hr3, hY3⟩ := (HB.out.bel hB1).more hX1 (by omega) hws (fun e he => by have := hlt1 e he; omega) (by have := HL.out; omega)
      rw [HL.out] at hr3 hY3
      have HE := hide hY3
      clear hP1 hB1 hX1 hws hlt1 hY3
      go_wp2_with (at_builtin; refine Lib.wpList_append_run _ rfl _ _ _ _ rfl _ _ rfl rfl _ _ hr3 ?_)
      exact ⟨⟨j + 1, bs ++ [(wr.heap.size + 1, wr.heap.size)], by omega, by go_num, by simp [HL.out], HE.out⟩, by simp [intOf]; omega⟩
    · obtain rfl : j = n := by omega
      go_wp2
      go_ret
      exact ⟨_, _, bs, rfl, HB.out, HL.out⟩
end
end Go.Proofs.Ytiecoplfiahpnaa

namespace Go.Proofs.Ytiecoplfiahpnaa
open Go.RowKit Go.Lib Go.Maps
def wS : List SS := List.replicate 2 (sq 1048576)
def wL : List QT := pqn ⟨#[97]⟩ [⟨#[120]⟩, ⟨#[121]⟩]
theorem wR : yRs wS wL = [⟨0, ⟨#[]⟩, []⟩, ⟨0, ⟨#[]⟩, []⟩] := by kernel_rfl
theorem wLl : wL.length = 2 := by kernel_rfl
theorem wC : gC (okn (([⟨#[120]⟩, ⟨#[121]⟩] : List ByteArray).length : Int)) [] [⟨0, ⟨#[]⟩, []⟩, ⟨0, ⟨#[]⟩, []⟩] = 0 := by kernel_rfl
theorem wN : gN [⟨0, ⟨#[]⟩, []⟩, ⟨0, ⟨#[]⟩, []⟩] = 2 := by kernel_rfl
set_option maxRecDepth 100000 in
set_option maxHeartbeats 3200000 in
theorem works9 (w : World) : Calls Try.prog 7 #[] w fun e w' => e = .returned (.bool true) ∧ Below w.heap.size w w' := by
  have HY := hide (yard_any 2 (by decide) w)
  go_enter Try.func7, Try.ntmps7
  go_wp2_with fail
  refine HY.out.mono ?_
  rintro e w1 ⟨a, c, bs, rfl, hY, hbl⟩
  have hyp := hY.yp
  rw [hbl] at hyp
  obtain ⟨a', c', e0, h0 | ⟨g0, o0, ea, _⟩⟩ := hyp.rp
  · have := congrArg List.length h0
    simp [hbl] at this
  obtain ⟨rfl, -, rfl⟩ : a = a' ∧ _ ∧ c = c' := by simpa using e0
  subst ea
  have k1 := sl_eq Try.underlying30
  obtain ⟨W2, hW2⟩ : ∃ W2, W2 = w1.alloc (.cells #[.string ⟨#[120]⟩, .string ⟨#[121]⟩] 9) := ⟨_, rfl⟩
  have hB2 : Below w1.heap.size w1 W2 := by rw [hW2]; exact (Below.refl _ _).alloc (Nat.le_refl _) _
  have hd : LS t1 1 (fun _ => True) W2 (.slice (some ⟨w1.heap.size, 0, none⟩) 2 2) [⟨#[120]⟩, ⟨#[121]⟩] := by
    have hblk : W2.heap[w1.heap.size]? = some (.cells #[.string ⟨#[120]⟩, .string ⟨#[121]⟩] 9 (0, 0)) := by rw [hW2]; exact heap_alloc_new w1 _
    refine ⟨_, _, rfl, (fun e => by cases e), .inr ⟨w1.heap.size, 0, rfl, trivial, lt_of_block hblk, ?_⟩⟩
    intro i x hx j u hu
    rw [cell_of_row _ _ _ _ _ _ hblk]
    have hj : j = 0 := by
      have := (List.getElem?_eq_some_iff.1 hu).1
      rw [t1_len] at this; omega
    subst hj
    have hi : i = 0 ∨ i = 1 := by
      have := (List.getElem?_eq_some_iff.1 hx).1
      simp at this; omega
    rcases hi with rfl | rfl <;> simp at hx <;> subst hx <;> simpa [t1] using hu
  have HP := hide (putjob_any (nm := ⟨#[97]⟩) hd (by simp))
  have HW := hide hW2
  have HF1 := hide (And.intro hyp (And.intro hY.be hB2))
  clear hY hyp hbl e0 hW2 hB2 hd
  go_upto_region 4 with fail
  go_wp2_with fail
  rw [← HW.out]
  refine HP.out.mono ?_
  rintro e w3 ⟨b, P, rfl, hJ, hB3, hP⟩
  obtain ⟨hyp, hbe, hB2⟩ := HF1.out
  have hs2 := hB2.size
  have hs1 := hbe.size
  have hR := run_job hJ ((hyp.bel hB2).bel hB3) (fun i hi h => by have := hP i hi; omega) (fun i hi => by have := hB3.size; omega) (g := 0) (fun s hs => by
    have : s = sq 1048576 := (List.mem_replicate.1 hs).2
    rw [this]; exact sq_go _ _) (by have := wLl; unfold wL at this; omega) (by have := wLl; unfold wL at this; omega) (by
      intro q hq
      have : q = ⟨0, 1, ⟨#[97]⟩, ⟨#[120]⟩⟩ ∨ q = ⟨1, 1, ⟨#[97]⟩, ⟨#[121]⟩⟩ := by simpa [pqn, pq] using hq
      rcases this with rfl | rfl <;> exact ⟨by decide, by decide⟩) (by simp [noT]) (by simp [noT])
  have eR : yRs (List.replicate 2 (sq 1048576)) (pqn ⟨#[97]⟩ [⟨#[120]⟩, ⟨#[121]⟩]) = [⟨0, ⟨#[]⟩, []⟩, ⟨0, ⟨#[]⟩, []⟩] := wR
  have hR2 := hR
  rw [eR, wC, wN] at hR2
  have HR := hide hR2
  have HF2 := hide (And.intro hbe (And.intro hB2 (And.intro hB3 hP)))
  clear hyp hbe hB2 hs2 hs1 hJ hB3 hP hR hR2 eR
  go_wp2_with fail
  refine HR.out.mono ?_
  rintro e w4 ⟨ids, tx, rfl, hI, hT, hRN⟩
  obtain ⟨P', ⟨ids0, tx0, hJB, _, _⟩, _⟩ := hRN.f
  have e2 : ((yRs (List.replicate 2 (sq 1048576)) (pqn ⟨#[97]⟩ [⟨#[120]⟩, ⟨#[121]⟩])).length : Int) = 2 := by rw [show yRs (List.replicate 2 (sq 1048576)) (pqn ⟨#[97]⟩ [⟨#[120]⟩, ⟨#[121]⟩]) = _ from wR]; rfl
  rw [e2] at hJB
  obtain ⟨ai, ci, hei⟩ := hI.shp
  obtain ⟨at_, ct, het⟩ := hT.shp
  subst hei
  subst het
  obtain ⟨W5, hW5⟩ : ∃ W5, W5 = w4.alloc (.cells #[.int .i64 0, .string ⟨#[]⟩, .int .i64 2, .slice ai 0 ci, .slice at_ 0 ct, .slice none 0 0, .slice none 0 0] 35) := ⟨_, rfl⟩
  have hB5 : Below w4.heap.size w4 W5 := by rw [hW5]; exact (Below.refl _ _).alloc (Nat.le_refl _) _
  have h5 : R7 W5 w4.heap.size 0 2 (.slice ai 0 ci) (.slice at_ 0 ct) := by rw [hW5]; exact heap_alloc_new w4 _
  have y0 : W5.cell? ⟨w4.heap.size, 0, none⟩ = some (.int .i64 0) := h5.cell 0
  have y2 : W5.cell? ⟨w4.heap.size, 2, none⟩ = some (.int .i64 2) := h5.cell 2
  have HS := hide (steps_any (hJB.bel hB5))
  have HE : Hid (Below w.heap.size w W5) := by
    obtain ⟨hbe, hB2, hB3, hP⟩ := HF2.out
    have s1 := hbe.size
    have s2 := hB2.size
    have s3 := hB3.size
    have hb3 : Below w.heap.size w w3 := hbe.trans ((hB2.trans (hB3.mono s2)).mono s1)
    have hb4 : Below w.heap.size w w4 := hRN.g.below hb3 hb3.size fun i hi => by
      rcases hi with h | h
      · have := hP i h; omega
      · omega
    exact hb4.trans (hB5.mono hb4.size)
  have HW5 := hide hW5
  clear hI hT hRN hJB e2 hW5 hB5 h5
  go_upto_region 6 with fail
  have hli : (noT [⟨0, ⟨#[]⟩, []⟩, ⟨0, ⟨#[]⟩, []⟩]).length = 0 := rfl
  rw [hli, ← HW5.out]
  go_wp2_with (go_at_call 16; refine HS.out.mono ?_; rintro e w6 ⟨rfl, rfl⟩)
  go_ret
  exact ⟨rfl, HE.out⟩
end Go.Proofs.Ytiecoplfiahpnaa

namespace Go.Proofs.Ytiecoplfiahpnaa
open Go.RowKit Go.Lib Go.Maps
section
variable {w : World} {lv kv : Value} {l k : List Int} {r r' : Nat → Prop}
set_option maxRecDepth 100000 in
set_option maxHeartbeats 3200000 in
theorem ffirst_walk (hl : LS c1 1 r w lv l) (hk : LS c1 1 r' w kv k) (hn : l.length * 8 ≤ 140737488351232) (hn2 : k.length * 8 ≤ 140737488351232) :
    Calls Try.prog 3 #[lv, kv] w fun e w' => e = .returned (.bool true) ∧ Below w.heap.size w w' := by
  obtain ⟨a, c, e⟩ := hl.shp
  subst e
  obtain ⟨a', c', e⟩ := hk.shp
  subst e
  have HC : Hid (∀ j x, l[j]? = some x → ∀ wr, Below w.heap.size w wr → ∃ g o, a = some ⟨g, o, none⟩ ∧ wr.cell? ⟨g, o + j, none⟩ = some (.int .i64 x)) := fun j x hx wr hb => by
    obtain ⟨g, o, h1, _, h2⟩ := (hl.bel hb).at1 hx rfl
    exact ⟨g, o, h1, h2⟩
  have HK : Hid (∀ j x, k[j]? = some x → ∀ wr, Below w.heap.size w wr → ∃ g o, a' = some ⟨g, o, none⟩ ∧ wr.cell? ⟨g, o + j, none⟩ = some (.int .i64 x)) := fun j x hx wr hb => by
    obtain ⟨g, o, h1, _, h2⟩ := (hk.bel hb).at1 hx rfl
    exact ⟨g, o, h1, h2⟩
  obtain ⟨m, hm⟩ : ∃ m, m = l.length := ⟨_, rfl⟩
  rw [← hm] at hn ⊢
  obtain ⟨t, ht⟩ : ∃ t, t = k.length := ⟨_, rfl⟩
  rw [← ht] at hn2 ⊢
  have HM := hide hm
  have HT := hide ht
  clear hm ht hl hk
  go_enter Try.func3, Try.ntmps3
  go_wp2
  go_loopw [5, 7] (fun v i wr => ∃ j : Nat, j ≤ m ∧ i = .int .i64 j ∧ OW c1 1 24 w.heap.size v (l.take j) wr ∧ Below w.heap.size w wr) (fun _ i _ => m - (intOf i).toNat)
  case atStart => exact ⟨0, Nat.zero_le _, rfl, by rw [List.take_zero]; exact OW.nil _ _ _ _ _, Below.refl _ _⟩
  case round =>
    obtain ⟨j, hj, rfl, hO, hB⟩ := hrel
    by_cases hlt : j < m
    · have b1 : (j : Int) < (m : Int) := by omega
      have b0 : (0 : Int) ≤ (j : Int) := by omega
      obtain ⟨x, hx⟩ : ∃ x, l[j]? = some x := ⟨_, List.getElem?_eq_getElem (by rw [← HM.out]; exact hlt)⟩
      obtain ⟨g, o, rfl, z0⟩ := HC.out j x hx _ hB
      obtain ⟨v2, w2, hr1, hO2, hG2⟩ := cpush hO x (by rw [List.length_take]; omega) hB.size
      have HE : Hid (OW c1 1 24 w.heap.size v2 (l.take (j + 1)) w2 ∧ Below w.heap.size w w2) := by
        refine ⟨?_, hG2.below hB hB.size fun i e => (hO.lt i e).1⟩
        rw [take_snoc_at hx]
        exact hO2
      clear hO hB hO2 hG2 hx
      go_wp2_with (at_builtin; refine Lib.wpList_append_run _ rfl _ _ _ _ rfl _ _ rfl rfl _ _ hr1 ?_)
      exact ⟨⟨j + 1, by omega, by go_num, HE.out⟩, by simp [intOf]; omega⟩
    · obtain rfl : j = m := by omega
      have e : l.take j = l := List.take_of_length_le (by have := HM.out; omega)
      rw [e] at hO
      have HO := hide (And.intro hO hB)
      have HBs := hide hB.size
      clear hO hB e
      generalize wr = wa at *
      go_wp2
      go_loopw [6, 8] (fun v i wx => ∃ q : Nat, q ≤ t ∧ i = .int .i64 q ∧ OW c1 1 24 wa.heap.size v (k.take q) wx ∧ Below wa.heap.size wa wx) (fun _ i _ => t - (intOf i).toNat)
      case atStart => exact ⟨0, Nat.zero_le _, rfl, by rw [List.take_zero]; exact OW.nil _ _ _ _ _, Below.refl _ _⟩
      case round =>
        obtain ⟨q, hq, rfl, hO, hB⟩ := hrel
        by_cases hlt : q < t
        · have b1 : (q : Int) < (t : Int) := by omega
          have b0 : (0 : Int) ≤ (q : Int) := by omega
          obtain ⟨x, hx⟩ : ∃ x, k[q]? = some x := ⟨_, List.getElem?_eq_getElem (by rw [← HT.out]; exact hlt)⟩
          obtain ⟨g, o, rfl, z0⟩ := HK.out q x hx _ (HO.out.2.trans (hB.mono HBs.out))
          obtain ⟨v2, w2, hr1, hO2, hG2⟩ := cpush hO x (by rw [List.length_take]; omega) hB.size
          have HE : Hid (OW c1 1 24 wa.heap.size v2 (k.take (q + 1)) w2 ∧ Below wa.heap.size wa w2) := by
            refine ⟨?_, hG2.below hB hB.size fun i e => (hO.lt i e).1⟩
            rw [take_snoc_at hx]
            exact hO2
          clear hO hB hO2 hG2 hx
          go_wp2_with (at_builtin; refine Lib.wpList_append_run _ rfl _ _ _ _ rfl _ _ rfl rfl _ _ hr1 ?_)
          exact ⟨⟨q + 1, by omega, by go_num, HE.out⟩, by simp [intOf]; omega⟩
        · obtain rfl : q = t := by omega
          have e : k.take q = k := List.take_of_length_le (by have := HT.out; omega)
          rw [e] at hO
          have hL := (HO.out.1.keep hB).ls (r := fun _ => True) c1_len fun _ _ => trivial
          have hK := hO.ls (r := fun _ => True) c1_len fun _ _ => trivial
          have hll : l.length ≤ 4611686018427387904 := by have := HM.out; omega
          have hkl : k.length ≤ 4611686018427387904 := by have := HT.out; omega
          have H1 := hide (first_any hL hK hll hkl)
          have HB := hide (HO.out.2.trans (hB.mono HBs.out))
          have HL := hide (And.intro hL hK)
          have HLL := hide (And.intro hll hkl)
          clear hO hB e hL hK hll hkl
          go_wp2_with fail
          refine H1.out.mono ?_
          rintro e w1 ⟨rfl, hB1⟩
          have H2 := hide (rfirst_any (HL.out.1.bel hB1) (HL.out.2.bel hB1) HLL.out.1 HLL.out.2)
          have HB1 := hide (HB.out.trans (hB1.mono HB.out.size))
          clear hB1
          go_wp2_with fail
          refine H2.out.mono ?_
          rintro e w2 ⟨rfl, hB2⟩
          have H3 := hide (works9 w2)
          have HB2 := hide (HB1.out.trans (hB2.mono HB1.out.size))
          clear hB2
          generalize frs k l = f at *
          go_wp2_with (go_at_call 7; refine H3.out.mono ?_; rintro e w3 ⟨rfl, hB3⟩; have HB3 := hide (HB2.out.trans (hB3.mono HB2.out.size)); clear hB3)
          go_ret
          exact ⟨rfl, HB3.out⟩
end
end Go.Proofs.Ytiecoplfiahpnaa

namespace Go.Proofs.Ytiecoplfiahpnaa
open Go.ChangeShapes Go.WideShapes Go.ChangeAt Go.RowKit Go.Lib
theorem Try.own : ownKnob Try.prog.godebug = none := by kernel_rfl
theorem Try.laidOut : laidOutB Try.prog = true := by kernel_rfl
theorem Try.cI : Try.prog.cellsOf 3 = 1 := by kernel_rfl
theorem Try.bI : Try.prog.bytesOf 3 = 8 := by kernel_rfl
theorem ints_of {H : Type} {enc : TypeId × Value → H} {w : World} {a : Option Addr} {len cap : Nat} {d : DataW H} {ps : List MemPlace}
    (h : DataW.Trod enc Try.prog w 0 (fun _ => true) true 22 (.slice a len cap) d ps) : ∃ l : List Int, LS c1 1 (fun _ => True) w (.slice a len cap) l ∧ (l = [] ∨ ∃ elems spare, d = .slice elems spare ∧ l.length ≤ elems.length + spare.length) := by
  obtain ⟨fuel, hf⟩ := h
  rcases open_ints Try.underlying22 Try.underlying3 Try.cI hf with ⟨hcs, hy⟩ | ⟨x, l, c, zs, hcs, _, hlc, hcm, hz, hy, hcell, hwz⟩
  · simp [Value.cells] at hcs
    obtain ⟨rfl, rfl, rfl⟩ := hcs
    exact ⟨[], ⟨_, _, rfl, fun _ => rfl, .inl rfl⟩, .inl rfl⟩
  · simp [Value.cells] at hcs
    obtain ⟨rfl, rfl, rfl⟩ := hcs
    simp only [if_true] at hz
    by_cases h0 : len = 0
    · subst h0
      exact ⟨[], ⟨_, _, rfl, (fun e => by cases e), .inl rfl⟩, .inl rfl⟩
    have hlen : (zs.take len).length = len := by rw [List.length_take]; omega
    refine ⟨zs.take len, ⟨some x, cap, by rw [hlen], (fun e => by cases e), .inr ?_⟩, .inr ⟨_, _, by simpa using congrArg Prod.fst hy, ?_⟩⟩
    · obtain ⟨b, off, spot⟩ := x
      have hc := hcell 0 (by omega)
      have hspot : spot = none := by simpa [Addr.add] using World.cell?_spot hc
      subst hspot
      refine ⟨b, off, rfl, trivial, World.block_lt_of_cell? _ _ hc, fun i y hy j u hu => ?_⟩
      have hj : j = 0 := by
        have := (List.getElem?_eq_some_iff.1 hu).1
        rw [c1_len] at this; omega
      subst hj
      have hi : i < len := by have := (List.getElem?_eq_some_iff.1 hy).1; omega
      have hci := hcell i (by omega)
      rw [Addr.add_mid] at hci
      rw [List.getElem?_take, if_pos hi] at hy
      rw [Nat.mul_one, Nat.add_zero]
      have hu' : u = .int .i64 y := by simpa [c1] using hu.symm
      rw [hu']
      rw [hci, List.getD_eq_getElem?_getD, hy]
      rfl
    · simp [lits]
end Go.Proofs.Ytiecoplfiahpnaa
