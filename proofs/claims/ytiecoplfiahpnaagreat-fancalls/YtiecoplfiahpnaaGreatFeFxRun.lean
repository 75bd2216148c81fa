/-
  Fan: a job that is run, whatever its end.
-/
import Derived.Test.YtiecoplfiahpnaaGreatFc12
namespace Go.Proofs.YtiecoplfiahpnaaGreat
open Go.RowKit Go.Lib Go.Maps
section
variable {b : Nat} {C N : List RR → Int} {I T : List RR → List ByteArray} {L : List QT} {P Py : Nat → Prop} {w w' : World} {v : Value} {S : List SS} {bs : List (Nat × Nat)} {g : Nat}
/-- What a job that was run leaves. -/
structure RNX (b : Nat) (Fin : List RR → (Nat → Prop) → World → Prop) (L : List QT) (P Py : Nat → Prop) (w w' : World) (v : Value) (S : List SS) (bs : List (Nat × Nat)) : Prop where
  y : YP Py w' v (ySs S L) bs
  g : Gs (fun i => P i ∨ Qs bs i) w w'
  f : ∃ P', Fin (yRs S L) P' w' ∧ P' b ∧ ∀ i, P' i → P i ∨ w.heap.size ≤ i
set_option maxRecDepth 100000 in
set_option maxHeartbeats 3200000 in
theorem run_jobx {Fin : List RR → (Nat → Prop) → World → Prop} (hFK : FK b Fin) (hFR : ∀ A P w, Fin A P w → FinR b C N I T A P w) (hJ : JJ b Fin L [] P w) (hY : YP Py w v S bs) (hap : ∀ i, P i → ¬ Py i) (hPy : ∀ i, Py i → i < w.heap.size) (hG : GD g S) (hg : g + L.length ≤ 1000) (hL : L.length ≤ 300) (hq : ∀ q ∈ L, q.n.size ≤ maxLen ∧ q.d.size ≤ maxLen) (hIl : (I (yRs S L)).length ≤ 1000000000000) (hTl : (T (yRs S L)).length ≤ 1000000000000) :
    Calls Tryz.prog 17 #[.pointer (some ⟨b, 0, none⟩), v] w fun e w' => ∃ ids tx, e = .returned (.tuple #[.agg #[.int .i64 (C (yRs S L)), .string ⟨#[]⟩, .int .i64 (N (yRs S L)), ids, tx, .slice none 0 0, .slice none 0 0], .bool true]) ∧ TS w.heap.size ids (I (yRs S L)) w' ∧ TS w.heap.size tx (T (yRs S L)) w' ∧ RNX b Fin L P Py w w' v S bs := by
  obtain ⟨U, hU⟩ : ∃ U, U = w.alloc (.cells #[.int .i64 0, .string ⟨#[]⟩, .int .i64 0, .slice none 0 0, .slice none 0 0, .slice none 0 0, .slice none 0 0] 56) := ⟨_, rfl⟩
  obtain ⟨X0, hX⟩ : ∃ X0, X0 = w.heap.size := ⟨_, rfl⟩
  have hBU : Below w.heap.size w U := by rw [hU]; exact (Below.refl _ _).alloc (Nat.le_refl _) _
  have hZ : R7 U X0 0 0 (.slice none 0 0) (.slice none 0 0) := by rw [hU, hX]; exact heap_alloc_new w _
  have hPl := hJ.lt
  have hJU : JJ b Fin L [] P U := hJ.gs (p := fun i => w.heap.size ≤ i) hFK (Gs.of_below _ hBU) (fun i hi hn => by have := hPl i hi; omega)
  have hUs := hBU.size
  have HR := hide (run_any (jobJ (L := L) hFK (by omega)) (A := []) ⟨Nat.zero_le _, hJU⟩ (hY.bel hBU) hap (fun i hi => by have := hPy i hi; omega) hG hg (by simp [resI]) hq 300 (by decide))
  have HU := hide hU
  have HX := hide hX
  have HZ := hide (And.intro hBU hZ)
  have HP := hide (And.intro hPl (And.intro hPy (And.intro hIl (And.intro hTl hL))))
  clear hJ hY hap hPy hG hg hq hU hX hBU hZ hPl hJU hUs hIl hTl hL
  go_enter Tryz.func17, Tryz.ntmps17
  go_upto_region 1 with fail
  rw [← HU.out, ← HX.out]
  go_wp2_with fail
  refine HR.out.mono ?_
  rintro e w1 ⟨t, ht, rfl, Pj', hRU⟩
  obtain ⟨hPl, hPy, hIl, hTl, hL⟩ := HP.out
  have ht2 : t = L.length := by simp at ht; omega
  subst ht2
  have hc : (if ([] : List RR).length + L.length < L.length then (2 : Int) else 0) = 0 := by rw [if_neg (by simp)]
  rw [hc]
  have eL : (L.drop ([] : List RR).length).take L.length = L := by simp
  have hj := hRU.j
  have hy := hRU.y
  rw [eL, List.nil_append] at hj
  rw [eL] at hy
  have hj2 := hj.2
  rw [List.drop_eq_nil_of_le (by rw [yRs_len]; omega)] at hj2
  obtain ⟨hPb, hPl', hfin⟩ := hj2
  obtain ⟨ids0, tx0, hJB, hI0, hT0⟩ := hFR _ _ _ hfin
  have HS := hide (result_any hJB hI0 hT0 hIl hTl)
  have HF1 := hide (And.intro hy (And.intro hRU.g (And.intro hRU.p (And.intro hPb hfin))))
  clear hj hy hJB hI0 hT0 hfin hRU hPb hPl' hPl hPy hIl hTl hL eL hc ht
  go_wp2_with fail
  refine HS.out.mono ?_
  rintro e w2 ⟨ids, tx, rfl, h1, h2, hB2⟩
  obtain ⟨hy, hg, hp, hPb, hfin⟩ := HF1.out
  obtain ⟨hPl, hPy, _⟩ := HP.out
  obtain ⟨hBU, hZ⟩ := HZ.out
  have hX := HX.out
  have hUs := hBU.size
  have hXl := hZ.lt
  have hgs := hg.size
  have hB2s := hB2.size
  have hXP : ¬ (P X0 ∨ Py X0) := by
    rintro (h | h)
    · have := hPl _ h; omega
    · have := hPy _ h; omega
  have hXQ : ¬ (P X0 ∨ Qs bs X0) := by
    rintro (h | h)
    · exact hXP (.inl h)
    · exact hXP (.inr (hy.qs h))
  have hZ2 : R7 w2 X0 0 0 (.slice none 0 0) (.slice none 0 0) := (hZ.gs hg hXQ).bel hB2
  obtain ⟨ai, ci, hei⟩ := h1.shp
  obtain ⟨at_, ct, het⟩ := h2.shp
  have hrun := store_run (t := 56) (o := 0) hZ2 #[.int .i64 (C (yRs S L)), .string ⟨#[]⟩, .int .i64 (N (yRs S L)), ids, tx, .slice none 0 0, .slice none 0 0] (Nat.le_of_ble_eq_true rfl) Tryz.sizeR (by rw [hei, het]; simp [Value.oneCell'])
  obtain ⟨V, hV⟩ : ∃ V, V = w2.setCells X0 0 [.int .i64 (C (yRs S L)), .string ⟨#[]⟩, .int .i64 (N (yRs S L)), ids, tx, .slice none 0 0, .slice none 0 0] := ⟨_, rfl⟩
  have hRV : R7 V X0 (C (yRs S L)) (N (yRs S L)) ids tx := by
    have h1 := setCells_self [.int .i64 (C (yRs S L)), .string ⟨#[]⟩, .int .i64 (N (yRs S L)), ids, tx, .slice none 0 0, .slice none 0 0] 0 w2 _ hZ2
    rw [← hV] at h1
    simpa [putAll, R7] using h1
  simp only [] at hrun
  rw [← hV] at hrun
  have hGV : Gs (fun i => i = X0) w2 V := by rw [hV]; exact Gs.cells _ _ _ (Gs.refl _ _) (.inl rfl)
  have hVs := hGV.size
  have r0 : V.cell? ⟨X0, 0, none⟩ = some (.int .i64 (C (yRs S L))) := hRV.cell 0
  have r1 : V.cell? ⟨X0, 1, none⟩ = some (.string ⟨#[]⟩) := hRV.cell 1
  have r2 : V.cell? ⟨X0, 2, none⟩ = some (.int .i64 (N (yRs S L))) := hRV.cell 2
  have r3 : V.cell? ⟨X0, 3, none⟩ = some ids := hRV.cell 3
  have r4 : V.cell? ⟨X0, 4, none⟩ = some tx := hRV.cell 4
  have r5 : V.cell? ⟨X0, 5, none⟩ = some (.slice none 0 0) := hRV.cell 5
  have r6 : V.cell? ⟨X0, 6, none⟩ = some (.slice none 0 0) := hRV.cell 6
  have HE : Hid (TS w.heap.size ids (I (yRs S L)) V ∧ TS w.heap.size tx (T (yRs S L)) V ∧ RNX b Fin L P Py w V v S bs) := by
    have k1 := h1.lt
    have k2 := h2.lt
    have hXl1 : X0 < w1.heap.size := by omega
    have hXPj : ¬ Pj' X0 := fun h => by
      rcases hp X0 h with h | h
      · exact hXP (.inl h)
      · omega
    refine ⟨(h1.kb fun i hi => hGV.block i (k1 i hi).2 (by have := (k1 i hi).1; omega)).low (by omega), (h2.kb fun i hi => hGV.block i (k2 i hi).2 (by have := (k2 i hi).1; omega)).low (by omega), ?_, ?_, ?_⟩
    · exact (hy.bel hB2).gs hGV fun i hi e => hXP (.inr (e ▸ hi))
    · refine ((((Gs.of_below _ hBU).trans hg).bel hB2).tr2 (hGV.mono (q := fun i => w.heap.size ≤ i) fun i _ e => by omega) fun i hi e => by omega)
    · have h3 := hFK.gs (p := fun i => ¬ Pj' i) hfin (w' := V) (((Gs.refl _ _).bel hB2).trans (hGV.mono fun i _ e h => hXPj (e ▸ h))) hPb (fun i hi hn => hn hi)
      exact ⟨Pj', h3, hPb, fun i hi => by
        rcases hp i hi with h | h
        · exact .inl h
        · exact .inr (by omega)⟩
  clear hV hRV hGV hVs hy hg hp hPb hfin hPl hPy hBU hZ hX hUs hXl hgs hB2s hXP hXQ hZ2 h1 h2 hB2 HF1
  subst hei
  subst het
  generalize (I (yRs S L)).length = li at *
  generalize (T (yRs S L)).length = lt at *
  go_wp2_with (refine wpList_store_run rfl 56 _ _ rfl _ _ rfl rfl hrun ?_)
  exact bodyPost_ret (v := .tuple #[.agg #[.int .i64 (C (yRs S L)), .string ⟨#[]⟩, .int .i64 (N (yRs S L)), .slice ai li ci, .slice at_ lt ct, .slice none 0 0, .slice none 0 0], .bool true]) (by simp [results, Tryz.results17, go_sem, r0, r1, r2, r3, r4, r5, r6]) rfl ⟨_, _, rfl, HE.out⟩
end
end Go.Proofs.YtiecoplfiahpnaaGreat
