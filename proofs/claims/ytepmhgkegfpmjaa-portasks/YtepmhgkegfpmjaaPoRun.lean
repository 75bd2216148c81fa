/-
  Port: Run, for any job that asks a list in order.
-/
import Derived.Test.YtepmhgkegfpmjaaPoYard
namespace Go.Proofs.Ytepmhgkegfpmjaa
open Go.RowKit Go.Lib Go.Maps

/-- A job at block b that asks L in order: J tells what it is behind the answers A, in blocks of P. -/
structure JOB (J : List RR → (Nat → Prop) → World → Prop) (L : List QT) (b : Nat) : Prop where
  gs : ∀ {A : List RR} {P p : Nat → Prop} {w w' : World}, J A P w → Gs p w w' → (∀ i, P i → ¬ p i) → J A P w'
  lt : ∀ {A : List RR} {P : Nat → Prop} {w : World}, J A P w → ∀ i, P i → i < w.heap.size
  hb : ∀ {A : List RR} {P : Nat → Prop} {w : World}, J A P w → P b
  le : ∀ {A : List RR} {P : Nat → Prop} {w : World}, J A P w → A.length ≤ L.length
  next1 : ∀ {A : List RR} {P : Nat → Prop} {w : World} {q : QT}, J A P w → L[A.length]? = some q → Calls Try.prog 10 #[.pointer (some ⟨b, 0, none⟩)] w fun e w' => e = .returned (.tuple #[.agg #[.int .i64 q.st, .int .i64 q.k, .string q.n, .string q.d], .bool true]) ∧ Below w.heap.size w w'
  next0 : ∀ {A : List RR} {P : Nat → Prop} {w : World}, J A P w → A.length = L.length → Calls Try.prog 10 #[.pointer (some ⟨b, 0, none⟩)] w fun e w' => e = .returned (.tuple #[.agg #[.int .i64 0, .int .i64 0, .string ⟨#[]⟩, .string ⟨#[]⟩], .bool false]) ∧ Below w.heap.size w w'
  over : ∀ {A : List RR} {P : Nat → Prop} {w : World}, J A P w → Calls Try.prog 11 #[.pointer (some ⟨b, 0, none⟩)] w fun e w' => e = .returned (.bool (!decide (A.length < L.length))) ∧ w' = w
  give : ∀ {A : List RR} {P r0 : Nat → Prop} {w : World} {u : Value} {ll : List ByteArray} (cc : Int) (dd : ByteArray), J A P w → A.length < L.length → LS t1 1 r0 w u ll → ¬ r0 b → ll.length ≤ 1000000000000 → (resI (A ++ [⟨cc, dd, ll⟩])).length ≤ 1000000000000 →
    Calls Try.prog 16 #[.pointer (some ⟨b, 0, none⟩), .agg #[.int .i64 cc, .string dd, u]] w fun e w' => e = .returned (.int .i64 0) ∧ ∃ P', J (A ++ [⟨cc, dd, ll⟩]) P' w' ∧ Gs P w w' ∧ ∀ i, P' i → P i ∨ w.heap.size ≤ i
theorem jobL (b : Nat) {l : List QT} (hl : l.length ≤ 1000000) : JOB (fun A P w => JL P w b l A) l b :=
  ⟨fun h hg hp => h.gs hg hp, fun h => h.2.1, fun h => h.1, fun h => h.le, fun h hq => next_list_on h hq, fun h hA => next_list_off h hA, fun h => over_list h, fun cc dd h hA hu hr0 hll hI => give_list h hA hu hr0 hl hll cc dd hI⟩

theorem Gs.tr2 {p p' : Nat → Prop} {w w1 w2 : World} (h : Gs p w w1) (k : Gs p' w1 w2) (hp : ∀ i, i < w.heap.size → p' i → p i) : Gs p w w2 :=
  ⟨k.os.trans h.os, k.tape.trans h.tape, k.output.trans h.output, Nat.le_trans h.size k.size, fun i hi hn => (k.block i (Nat.lt_of_lt_of_le hi h.size) (fun e => hn (hp i hi e))).trans (h.block i hi hn)⟩
/-- Where a run stands. -/
structure RU (J : List RR → (Nat → Prop) → World → Prop) (w wr : World) (A : List RR) (D : List QT) (S : List SS) (bs : List (Nat × Nat)) (v : Value) (Pj Py Pj' : Nat → Prop) (t : Nat) : Prop where
  j : J (A ++ yRs S (D.take t)) Pj' wr
  y : YP Py wr v (ySs S (D.take t)) bs
  g : Gs (fun i => Pj i ∨ Py i) w wr
  p : ∀ i, Pj' i → Pj i ∨ w.heap.size ≤ i
section
variable {J : List RR → (Nat → Prop) → World → Prop} {L D : List QT} {b : Nat} {A : List RR} {Pj Py Pj' : Nat → Prop} {w wr w' : World} {v : Value} {S : List SS} {bs : List (Nat × Nat)} {t g : Nat}
theorem RU.bel (hJ : JOB J L b) (h : RU J w wr A D S bs v Pj Py Pj' t) (hb : Below wr.heap.size wr w') : RU J w w' A D S bs v Pj Py Pj' t := by
  have hl := hJ.lt h.j
  exact ⟨hJ.gs (p := fun i => wr.heap.size ≤ i) h.j (Gs.of_below _ hb) (fun i hi hn => by have := hl i hi; omega), h.y.bel hb, h.g.bel hb, h.p⟩
set_option maxRecDepth 100000 in
set_option maxHeartbeats 3200000 in
theorem run_any (hJ : JOB J L b) (h : J A Pj w) (hY : YP Py w v S bs) (hap : ∀ i, Pj i → ¬ Py i) (hPy : ∀ i, Py i → i < w.heap.size) (hG : GD g S) (hg : g + L.length ≤ 1000) (hI : (resI A).length ≤ 1000000000) (hq : ∀ q ∈ L, q.n.size ≤ maxLen ∧ q.d.size ≤ maxLen) (most : Int) (hm : 0 ≤ most) :
    Calls Try.prog 19 #[.pointer (some ⟨b, 0, none⟩), v, .int .i64 most] w fun e w' => ∃ t : Nat, t = min (L.length - A.length) most.toNat ∧ e = .returned (.tuple #[.int .i64 (t : Int), .int .i64 (if A.length + t < L.length then 2 else 0)]) ∧ ∃ Pj', RU J w w' A (L.drop A.length) S bs v Pj Py Pj' t := by
  obtain ⟨D, hD⟩ : ∃ D, D = L.drop A.length := ⟨_, rfl⟩
  rw [← hD]
  have hAL := hJ.le h
  have hDl : D.length = L.length - A.length := by rw [hD]; simp
  have H0 : Hid (RU J w w A D S bs v Pj Py Pj 0) := ⟨by simpa [yRs] using h, by simpa [ySs] using hY, Gs.refl _ _, fun i hi => .inl hi⟩
  have hm2 : ¬ most < 0 := by omega
  have HD := hide (And.intro hD hDl)
  have hLl : L.length ≤ 1000 := by omega
  have HJ := hide hJ
  have HG := hide hG
  have HQ := hide hq
  have HAP := hide (And.intro hap hPy)
  clear h hY hap hPy hG hq hD hDl hJ
  go_enter Try.func19, Try.ntmps19
  go_wp2
  go_loopw [6] (fun i wr => ∃ (t : Nat) (Pj' : Nat → Prop), t ≤ L.length - A.length ∧ (t : Int) ≤ most ∧ i = .int .i64 t ∧ RU J w wr A D S bs v Pj Py Pj' t) (fun i _ => 1000 - (intOf i).toNat)
  case atStart => exact ⟨0, Pj, Nat.zero_le _, by omega, rfl, H0.out⟩
  case round =>
    obtain ⟨t, Pj', ht, htm, rfl, hR⟩ := hrel
    have HR := hide hR
    clear hR
    have hlen : (A ++ yRs S (D.take t)).length = A.length + t := by
      have := HD.out.2
      rw [List.length_append, yRs_len, List.length_take]; omega
    by_cases hlt : (t : Int) < most
    · by_cases hw : A.length + t < L.length
      · obtain ⟨q, hq⟩ : ∃ q, L[A.length + t]? = some q := ⟨_, List.getElem?_eq_getElem hw⟩
        have HN := hide (HJ.out.next1 HR.out.j (by rw [hlen]; exact hq))
        have HHQ := hide hq
        have hqs := HQ.out q (List.mem_of_getElem? hq)
        have HDt : Hid (D.take (t + 1) = D.take t ++ [q]) := take_snoc_at (by rw [HD.out.1, List.getElem?_drop]; exact hq)
        clear hq
        go_wp2_with fail
        refine HN.out.mono ?_
        rintro e w1 ⟨rfl, hB1⟩
        obtain ⟨Zw, hZw⟩ : ∃ Zw, Zw = w1.alloc (.cells #[.int .i64 q.st, .int .i64 q.k, .string q.n, .string q.d] 38) := ⟨_, rfl⟩
        have hRZ : RU J w Zw A D S bs v Pj Py Pj' t := by
          rw [hZw]
          exact ((HR.out.bel HJ.out hB1).bel HJ.out ((Below.refl _ _).alloc (Nat.le_refl _) _))
        have hGt : GD (g + (D.take t).length) (ySs S (D.take t)) := GD.steps _ HG.out
        have htl : (D.take t).length = t := by have := HD.out.2; rw [List.length_take]; omega
        have HA := hide (answer_any hRZ.y hGt (by omega) q hqs.1 hqs.2)
        have HRZ := hide hRZ
        have HGT := hide hGt
        have HZw := hide hZw
        have HTL := hide htl
        have hblk : Zw.heap[w1.heap.size]? = some (.cells #[.int .i64 q.st, .int .i64 q.k, .string q.n, .string q.d] 38 (0, 0)) := by rw [hZw]; exact heap_alloc_new w1 _
        have k0 : Zw.cell? ⟨w1.heap.size, 0, none⟩ = some (.int .i64 q.st) := by simp [World.cell?, hblk]
        have k1 : Zw.cell? ⟨w1.heap.size, 1, none⟩ = some (.int .i64 q.k) := by simp [World.cell?, hblk]
        have k2 : Zw.cell? ⟨w1.heap.size, 2, none⟩ = some (.string q.n) := by simp [World.cell?, hblk]
        have k3 : Zw.cell? ⟨w1.heap.size, 3, none⟩ = some (.string q.d) := by simp [World.cell?, hblk]
        clear hRZ hGt hZw htl hblk hB1 hqs
        go_upto_region 8 with fail
        rw [← HZw.out]
        go_wp2_with fail
        refine HA.out.mono ?_
        rintro e w3 ⟨u, rfl, hAR, hY3, hG3⟩
        have hdis : ∀ i, Pj' i → ¬ Py i := fun i hi hp => by
          rcases HR.out.p i hi with h | h
          · exact HAP.out.1 i h hp
          · have := HAP.out.2 i hp; omega
        have hJ3 := HJ.out.gs HRZ.out.j hG3 hdis
        have hbZ := HJ.out.lt HRZ.out.j b (HJ.out.hb HRZ.out.j)
        obtain ⟨ua, uc, rfl, hTS⟩ := hAR.shp
        have hnm := yR_names HGT.out q
        have hGv := HJ.out.give (r0 := fun i => Zw.heap.size ≤ i) (yR (ySs S (D.take t)) q).c (yR (ySs S (D.take t)) q).d hJ3 (by rw [hlen]; exact hw) (hTS.ls fun i hi => (hTS.lt i hi).1) (by omega) (by have := HTL.out; omega) (by
          have e : A ++ yRs S (D.take t) ++ [(⟨(yR (ySs S (D.take t)) q).c, (yR (ySs S (D.take t)) q).d, (yR (ySs S (D.take t)) q).l⟩ : RR)] = A ++ yRs S (D.take t ++ [q]) := by rw [yRs_snoc, List.append_assoc]
          rw [e, resI_app, List.length_append]
          have h1 := yRs_names (D.take t ++ [q]) HG.out
          have h2 : (D.take t ++ [q]).length = t + 1 := by rw [List.length_append, HTL.out]; rfl
          rw [h2] at h1
          have h3 : (t + 1) * (g + (t + 1)) ≤ 1000 * 1000 := Nat.mul_le_mul (by omega) (by omega)
          omega)
        have HGv := hide hGv
        have HF3 := hide (And.intro hY3 (And.intro hG3 hdis))
        obtain ⟨un, hun⟩ : ∃ un, un = (yR (ySs S (D.take t)) q).l.length := ⟨_, rfl⟩
        rw [← hun] at HGv ⊢
        clear hY3 hG3 hdis hJ3 hbZ hTS hnm hGv hAR hun
        go_wp2_with fail
        refine HGv.out.mono ?_
        rintro e w4 ⟨rfl, P4, hJ4, hG4, hP4⟩
        have HE : Hid (RU J w w4 A D S bs v Pj Py P4 (t + 1)) := by
          obtain ⟨hY3, hG3, hdis⟩ := HF3.out
          have hs1 := HRZ.out.g.size
          have hs2 := hG3.size
          refine ⟨?_, ?_, ?_, ?_⟩
          · rw [HDt.out, yRs_snoc, ← List.append_assoc]; exact hJ4
          · rw [HDt.out, ySs_snoc]; exact hY3.gs hG4 fun i hi hp => hdis i hp hi
          · refine (HRZ.out.g.tr2 hG3 fun i _ hp => .inr hp).tr2 hG4 fun i hi hp => ?_
            rcases HRZ.out.p i hp with h | h
            · exact .inl h
            · omega
          · intro i hi
            rcases hP4 i hi with h | h
            · exact HRZ.out.p i h
            · exact .inr (by omega)
        clear hJ4 hG4 hP4
        go_wp2
        exact ⟨⟨t + 1, P4, by omega, by omega, by go_num, HE.out⟩, by simp [intOf]; omega⟩
      · have hl2 : A.length + t = L.length := by omega
        have HN := hide (HJ.out.next0 HR.out.j (by rw [hlen]; exact hl2))
        go_wp2_with fail
        refine HN.out.mono ?_
        rintro e w1 ⟨rfl, hB1⟩
        obtain ⟨Zw, hZw⟩ : ∃ Zw, Zw = w1.alloc (.cells #[.int .i64 0, .int .i64 0, .string ⟨#[]⟩, .string ⟨#[]⟩] 38) := ⟨_, rfl⟩
        have hRZ : RU J w Zw A D S bs v Pj Py Pj' t := by
          rw [hZw]
          exact ((HR.out.bel HJ.out hB1).bel HJ.out ((Below.refl _ _).alloc (Nat.le_refl _) _))
        have HO := hide (HJ.out.over hRZ.j)
        rw [hlen, decide_eq_false hw] at HO
        have HRZ := hide hRZ
        have HZw := hide hZw
        clear hRZ hZw hB1
        go_wp2_with fail
        rw [← HZw.out]
        refine HO.out.mono ?_
        rintro e w2 ⟨rfl, rfl⟩
        have HE : Hid (∃ t' : Nat, t' = min (L.length - A.length) most.toNat ∧ Ending.returned (.tuple #[.int .i64 (t : Int), .int .i64 0]) = .returned (.tuple #[.int .i64 (t' : Int), .int .i64 (if A.length + t' < L.length then 2 else 0)]) ∧ ∃ Pj', RU J w w2 A D S bs v Pj Py Pj' t') := ⟨t, by omega, by rw [if_neg hw], Pj', HRZ.out⟩
        go_wp2
        go_ret2
        exact HE.out
    · have HO := hide (HJ.out.over HR.out.j)
      rw [hlen] at HO
      have HTM : Hid (t = min (L.length - A.length) most.toNat) := by show t = min (L.length - A.length) most.toNat; omega
      by_cases hw : A.length + t < L.length
      · rw [decide_eq_true hw] at HO
        go_wp2_with fail
        refine HO.out.mono ?_
        rintro e w2 ⟨rfl, rfl⟩
        have HE : Hid (∃ t' : Nat, t' = min (L.length - A.length) most.toNat ∧ Ending.returned (.tuple #[.int .i64 (t : Int), .int .i64 2]) = .returned (.tuple #[.int .i64 (t' : Int), .int .i64 (if A.length + t' < L.length then 2 else 0)]) ∧ ∃ Pj', RU J w w2 A D S bs v Pj Py Pj' t') := ⟨t, HTM.out, by rw [if_pos hw], Pj', HR.out⟩
        go_wp2
        go_ret2
        exact HE.out
      · rw [decide_eq_false hw] at HO
        go_wp2_with fail
        refine HO.out.mono ?_
        rintro e w2 ⟨rfl, rfl⟩
        have HE : Hid (∃ t' : Nat, t' = min (L.length - A.length) most.toNat ∧ Ending.returned (.tuple #[.int .i64 (t : Int), .int .i64 0]) = .returned (.tuple #[.int .i64 (t' : Int), .int .i64 (if A.length + t' < L.length then 2 else 0)]) ∧ ∃ Pj', RU J w w2 A D S bs v Pj Py Pj' t') := ⟨t, HTM.out, by rw [if_neg hw], Pj', HR.out⟩
        go_wp2
        go_ret2
        exact HE.out
end
end Go.Proofs.Ytepmhgkegfpmjaa
