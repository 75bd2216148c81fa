/-
  Fan: FanCalls: work that puts, gets, lists and deletes, one behind the other: what it is told.
-/
import Derived.Test.YtiecoplfiahpnaaGreatFc12
namespace Go.Proofs.YtiecoplfiahpnaaGreat
open Go.RowKit Go.Lib Go.Maps
theorem Tryz.sizeAc : (Tryz.prog.info? 49).map (·.size) = some 1 := by kernel_rfl
/-- The work's own block. -/
def CB (w : World) (kb : Nat) (io : Value) (nn : Int) (nm : ByteArray) (dv v1 v2 v3 v4 v5 : Value) : Prop :=
  w.heap[kb]? = some (.cells #[io, .int .i64 nn, .string nm, dv, v1, v2, v3, v4, v5] 52 (0, 0))
section
variable {w w' W V : World} {b kb : Nat} {io : Value} {nn : Int} {nm : ByteArray} {dv v1 v2 v3 v4 v5 : Value} {p R r : Nat → Prop} {P : Nat → Prop} {np k : Nat} {A A1 A2 A3 : List RR} {X : List (RR × Value)}
theorem CB.lt (h : CB w kb io nn nm dv v1 v2 v3 v4 v5) : kb < w.heap.size := lt_of_block h
theorem CB.cell (h : CB w kb io nn nm dv v1 v2 v3 v4 v5) (j : Nat) : w.cell? ⟨kb, j, none⟩ = (#[io, .int .i64 nn, .string nm, dv, v1, v2, v3, v4, v5] : Array Value)[j]? := by
  simp [World.cell?, show w.heap[kb]? = _ from h]
theorem CB.gs (h : CB w kb io nn nm dv v1 v2 v3 v4 v5) (hg : Gs p w w') (hp : ¬ p kb) : CB w' kb io nn nm dv v1 v2 v3 v4 v5 := (hg.block kb h.lt hp).trans h
/-- The job is over; the work was told all of it. -/
structure FC (b kb : Nat) (nn : Int) (nm : ByteArray) (dv : Value) (np k : Nat) (A : List RR) (P : Nat → Prop) (w : World) : Prop where
  fin : FinR b (fun _ => 0) (fun _ => 1) noT noT A P w
  told : ∃ A1 A2 A3 A4 v1 v2 v3 v4 v5 X, A = A1 ++ A2 ++ A3 ++ A4 ∧ A1.length = np ∧ A2.length = k ∧ A3.length = k ∧ P kb ∧ CB w kb (.pointer (some ⟨b, 0, none⟩)) nn nm dv v1 v2 v3 v4 v5 ∧ LS c1 1 P w v1 (A1.map (·.c)) ∧ LS x3 3 P w v2 X ∧ X.map (·.1) = A2 ∧ LS t1 1 P w v3 (lI A3) ∧ LS c1 1 P w v4 (A3.map (·.c)) ∧ LS c1 1 P w v5 (A4.map (·.c))
theorem fkC (b kb : Nat) (nn : Int) (nm : ByteArray) (dv : Value) (np k : Nat) : FK b (FC b kb nn nm dv np k) := by
  refine ⟨?_, ?_⟩
  · rintro A P p w w' ⟨h, A1, A2, A3, A4, v1, v2, v3, v4, v5, X, e, l1, l2, l3, hk, hC, h1, h2, hX, h3, h4, h5⟩ hg hb hp
    exact ⟨(fkR _ _ _ _ _).gs h hg hb hp, A1, A2, A3, A4, v1, v2, v3, v4, v5, X, e, l1, l2, l3, hk, hC.gs hg (hp kb hk), h1.gs hg hp, h2.gs hg hp, hX, h3.gs hg hp, h4.gs hg hp, h5.gs hg hp⟩
  · rintro A P w ⟨h, _⟩
    exact (fkR _ _ _ _ _).j h
theorem PO.kp {g : Prop} {Fin : List RR → (Nat → Prop) → World → Prop} {L : List QT} {A0 : List RR} {e e' : Nat → Prop} (h : PO g b Fin L A0 e' p V w') (hG : Gs p W V) (he : ∀ i, e' i → e i ∨ r i) :
    Gs p W w' ∧ RDY b (fun w2 => ∃ P', JJ b Fin L A0 P' w2 ∧ Gs p W w2 ∧ ∀ i, P' i → i = b ∨ e i ∨ r i ∨ W.heap.size ≤ i) w' := by
  have hs := hG.size
  refine ⟨hG.trans h.1, h.2.mono ?_⟩
  rintro w2 ⟨P', h1, h2, h3, _⟩
  refine ⟨P', h1, hG.trans h2, fun i hi => ?_⟩
  rcases h3 i hi with h | h | h
  · exact .inl h
  · rcases he i h with h | h
    · exact .inr (.inl h)
    · exact .inr (.inr (.inl h))
  · exact .inr (.inr (.inr (by omega)))
set_option maxRecDepth 100000 in
set_option maxHeartbeats 3200000 in
theorem kc_gone (hC : CB w kb (.pointer (some ⟨b, 0, none⟩)) nn nm dv v1 v2 v3 v4 v5) (hbl : b < w.heap.size) (hkb : kb ≠ b) (hRk : ¬ R kb) (hRb : ¬ R b) (hRl : ∀ i, R i → i < w.heap.size) (h1 : LS c1 1 R w v1 (A1.map (·.c))) (h2 : LS x3 3 R w v2 X) (hX : X.map (·.1) = A2) (h3 : LS t1 1 R w v3 (lI A3)) (h4 : LS c1 1 R w v4 (A3.map (·.c))) (l1 : A1.length = np) (l2 : A2.length = k) (l3 : A3.length = k) :
    KC 124 #[.pointer (some ⟨kb, 0, none⟩)] #[] b (FC b kb nn nm dv np k) k [] (A1 ++ A2 ++ A3) (fun i => i = kb ∨ R i) (fun i => i = kb) w := by
  intro W cv A r hS hJ hL hA hI hr
  show Calls Tryz.prog 124 #[.pointer (some ⟨kb, 0, none⟩), cv] W _
  have hkl := hC.lt
  have hWs := hS.1
  have hCW : CB W kb (.pointer (some ⟨b, 0, none⟩)) nn nm dv v1 v2 v3 v4 v5 := (hS.2 kb (.inl rfl) hC.lt).trans hC
  have kR : ∀ i, R i → i < w.heap.size → W.heap[i]? = w.heap[i]? := fun i hi hl => hS.2 i (.inr hi) hl
  have hs := store1_run (t := 49) hCW (j := 8) (v := cv) (Nat.le_of_ble_eq_true rfl) Tryz.sizeAc (by obtain ⟨a, c, e⟩ := hL.shp; exact ⟨a, _, c, e⟩)
  obtain ⟨V, hV⟩ : ∃ V, V = W.setCell ⟨kb, 8, none⟩ cv := ⟨_, rfl⟩
  have hCV : CB V kb (.pointer (some ⟨b, 0, none⟩)) nn nm dv v1 v2 v3 v4 cv := by rw [hV]; exact heap_set_self hCW
  have hGV : Gs (fun i => i = kb) W V := by rw [hV]; exact (Gs.refl _ _).set1 _ _
  rw [← hV] at hs
  have hVs := hGV.size
  have hJV := hJ.gs hGV (fun e => hkb e.symm)
  have HE := hide (end_on (r := fun _ => True) (c := 0) (N := 1) hJV (LS.nl _ _) (LS.nl _ _) (by simp) (by simp))
  have y0 : V.cell? ⟨kb, 0, none⟩ = some (.pointer (some ⟨b, 0, none⟩)) := hCV.cell 0
  have HQ : Hid (∀ w' ids tx, JB w' b false 0 0 ⟨#[]⟩ ⟨#[]⟩ .nilFunc 0 1 ids tx ((A1 ++ A2 ++ A3).length + k : Nat) → TS V.heap.size ids [] w' → TS V.heap.size tx [] w' → Gs (fun i => i = b) V w' → Gs (fun i => i = b ∨ i = kb) W w' ∧ RDY b (fun w2 => ∃ P', JJ b (FC b kb nn nm dv np k) [] (A1 ++ A2 ++ A3 ++ A) P' w2 ∧ Gs (fun i => i = b ∨ i = kb) W w2 ∧ ∀ i, P' i → i = b ∨ (i = kb ∨ R i) ∨ r i ∨ W.heap.size ≤ i) w') := by
    intro w' ids tx hJ' hi ht hG
    have hWw : Gs (fun i => i = b ∨ i = kb) W w' := (hGV.mono fun i _ e => .inr e).trans (hG.mono fun i _ e => .inl e)
    refine ⟨hWw, .inr ⟨_, _, _, _, _, _, _, _, _, _, hJ', fun w2 hJ2 hG2 => ?_⟩⟩
    have k1 := hi.lt
    have k2 := ht.lt
    have hs1 := hG.size
    have hs2 := hG2.size
    have t1' := hi.kb (w' := w2) fun i h => hG2.block i (k1 i h).2 (by have := (k1 i h).1; omega)
    have t2' := ht.kb (w' := w2) fun i h => hG2.block i (k2 i h).2 (by have := (k2 i h).1; omega)
    have hW2 : Gs (fun i => i = b ∨ i = kb) W w2 := hWw.trans (hG2.mono fun i _ e => .inl e)
    have hV2 : Gs (fun i => i = b) V w2 := hG.trans hG2
    have kk : ∀ i, R i → i < w.heap.size → w2.heap[i]? = w.heap[i]? := fun i hi hl => (hW2.block i (by omega) (by
      rintro (e | e)
      · exact hRb (e ▸ hi)
      · exact hRk (e ▸ hi))).trans (kR i hi hl)
    have hsz : w.heap.size ≤ w2.heap.size := by omega
    refine ⟨fun i => i = b ∨ i = kb ∨ R i ∨ r i ∨ ids.ownBlock = some i ∨ tx.ownBlock = some i, ⟨.inl rfl, ?_, ⟨⟨ids, tx, ?_, ?_, ?_⟩, A1, A2, A3, A, v1, v2, v3, v4, cv, X, rfl, l1, l2, l3, .inr (.inl rfl), hCV.gs hV2 hkb, ?_, ?_, hX, ?_, ?_, ?_⟩⟩, hW2, ?_⟩
    · rintro i (h | h | h | h | h | h)
      · omega
      · omega
      · have := hRl i h; omega
      · have := (hr i h).2; omega
      · exact (t1'.lt i h).2
      · exact (t2'.lt i h).2
    · rw [List.length_append, hA]; exact hJ2
    · exact t1'.ls fun i h => ⟨.inr (.inr (.inr (.inr (.inl h)))), by have := (k1 i h).1; omega⟩
    · exact t2'.ls fun i h => ⟨.inr (.inr (.inr (.inr (.inr h)))), by have := (k2 i h).1; omega⟩
    · exact (h1.kb hsz kk).mono fun i h => .inr (.inr (.inl h))
    · exact (h2.kb hsz kk).mono fun i h => .inr (.inr (.inl h))
    · exact (h3.kb hsz kk).mono fun i h => .inr (.inr (.inl h))
    · exact (h4.kb hsz kk).mono fun i h => .inr (.inr (.inl h))
    · exact (hL.gs hW2 fun i h => by
        have := (hr i h).1
        rintro (e | e) <;> omega).mono fun i h => .inr (.inr (.inr (.inl h)))
    · rintro i (h | h | h | h | h | h)
      · exact .inl h
      · exact .inr (.inl (.inl h))
      · exact .inr (.inl (.inr h))
      · exact .inr (.inr (.inl h))
      · exact .inr (.inr (.inr (by have := (k1 i h).1; omega)))
      · exact .inr (.inr (.inr (by have := (k2 i h).1; omega)))
  have f0 : W.cell? ⟨kb, 8, none⟩ = some v5 := hCW.cell 8
  clear hJ hL hA hI hr hS hkl hWs hCW kR hCV hGV hVs hJV hV hC hbl hkb hRk hRb hRl h1 h2 hX h3 h4 l1 l2 l3 f0
  go_enter Tryz.func124, Tryz.ntmps124
  go_wp2_with (refine wpList_store_run rfl 49 _ _ rfl _ _ rfl rfl hs ?_)
  refine HE.out.mono ?_
  rintro er w7 ⟨rfl, ids', tx', hJ7, h71, h72, hG7⟩
  have HF := hide (HQ.out w7 ids' tx' hJ7 h71 h72 hG7)
  clear hJ7 h71 h72 hG7
  go_wp2
  go_end0
  exact ⟨rfl, HF.out⟩
theorem ent_gone : Ent 124 := ent_of Tryz.func124 (by kernel_rfl) rfl
end
end Go.Proofs.YtiecoplfiahpnaaGreat
