/-
  PortAsks: the walk.
-/
import Derived.Test.YtepmhgkegfpmjaaPrAns
namespace Go.Proofs.Ytepmhgkegfpmjaa
open Go.RowKit Go.Lib Go.Maps
theorem fld2 (x0 x1 x2 x3 x4 x5 x6 : Value) (w : World) : (Instr.field 34 (.agg #[x0, x1, x2, x3, x4, x5, x6]) 2).run Try.prog w = .ok x2 w := by
  simp [Instr.field, go_sem, run_underlying Try.underlying34, asAgg]
theorem fld4 (x0 x1 x2 x3 x4 x5 x6 : Value) (w : World) : (Instr.field 34 (.agg #[x0, x1, x2, x3, x4, x5, x6]) 4).run Try.prog w = .ok x4 w := by
  simp [Instr.field, go_sem, run_underlying Try.underlying34, asAgg]
theorem copyQ2 {w : World} {v : Value} {l : List QT} {r : Nat → Prop} (hl : LS q4 4 r w v l) (hn : l.length ≤ 1000000) :
    ∃ a c w', (Builtin.append_ #[22, 22] 22 #[.slice (some ⟨w.heap.size, 0, none⟩) 0 0, v]).run Try.prog (w.alloc (.cells #[] 38)) = .ok (.slice a l.length c) w' ∧ OW q4 4 38 w.heap.size (.slice a l.length c) l w' ∧ Below w.heap.size w w' := by
  have hal : Below w.heap.size w (w.alloc (.cells #[] 38)) := (Below.refl _ _).alloc (Nat.le_refl _) _
  obtain ⟨v', w', h1, h2, h3, _⟩ := OW.app (ST := 22) q4_len (by decide) (fun x _ => q4_one x) Try.underlying22 Try.infoQ rfl (OW.empty q4 4 38 (Nat.le_refl w.heap.size)) (hl.bel hal) (by simp; omega) (by simp; omega) (by simp)
  rw [List.nil_append] at h2
  obtain ⟨a, c, rfl⟩ := h2.shp
  exact ⟨a, c, w', h1, h2, hal.grown h3 (by simp) (fun k hk => by simp [Value.ownBlock] at hk; omega)⟩
section
variable {w : World} {v : Value} {l : List QT} {r : Nat → Prop}
set_option maxRecDepth 100000 in
set_option maxHeartbeats 6400000 in
theorem asks_walk (hl : LS q4 4 r w v l) (hn : l.length ≤ 9223372036854775807) (hsz : ∀ q ∈ l, q.n.size ≤ maxLen ∧ q.d.size ≤ maxLen) :
    Calls Try.prog 6 #[v] w fun e w' => e = .returned (.bool true) ∧ Below w.heap.size w w' := by
  have HSM := hide (small_any hl hn)
  have HL := hide hl
  have HSZ := hide hsz
  obtain ⟨va, vc, hv⟩ := hl.shp
  subst hv
  clear hl hsz
  go_enter Try.func6, Try.ntmps6
  go_wp2_with fail
  refine HSM.out.mono ?_
  rintro e w0 ⟨t, rfl, ht, rfl⟩
  have HW := hide (works_port w0)
  cases t with
  | false =>
    go_wp2_with fail
    refine HW.out.mono ?_
    rintro e w1 ⟨rfl, hB⟩
    have HB := hide hB
    clear hB
    go_wp2
    go_ret
    exact ⟨rfl, HB.out⟩
  | true =>
    by_cases h20 : (20 : Int) < ((l.length : Nat) : Int)
    · go_wp2_with fail
      refine HW.out.mono ?_
      rintro e w1 ⟨rfl, hB⟩
      have HB := hide hB
      clear hB
      go_wp2
      go_ret
      exact ⟨rfl, HB.out⟩
    · go_wp2_with fail
      refine HW.out.mono ?_
      rintro e w1 ⟨rfl, hB1⟩
      have HB1 := hide hB1
      have HBO := hide (both_bo w1)
      clear hB1 ht
      go_wp2_with fail
      refine HBO.out.mono ?_
      rintro e w2 ⟨sv, rv, bs, rs, rfl, hBO, hbl, hrl⟩
      obtain ⟨oc, cc, w3, hr3, hO3, hB3⟩ := copyQ2 ((HL.out.bel HB1.out).bel hBO.be) (by omega)
      obtain ⟨kb, hkb⟩ : ∃ kb, kb = w3.heap.size := ⟨_, rfl⟩
      obtain ⟨W4, hW4⟩ : ∃ W4, W4 = w3.alloc (.cells #[.pointer none, .slice oc l.length cc, .slice none 0 0, .slice none 0 0] 70) := ⟨_, rfl⟩
      have hB4 : Below w3.heap.size w3 W4 := by rw [hW4]; exact (Below.refl _ _).alloc (Nat.le_refl _) _
      have hW4s : W4.heap.size = w3.heap.size + 1 := by rw [hW4]; simp
      have hK4 : W4.heap[kb]? = some (.cells #[.pointer none, .slice oc l.length cc, .slice none 0 0, .slice none 0 0] 70 (0, 0)) := by rw [hW4, hkb]; exact heap_alloc_new w3 _
      have hO4 := hO3.keep hB4
      have hol := hO3.lt
      have hs2 := hBO.be.size
      have hs3 := hB3.size
      have HS := hide (start_one (w := W4) kb (Q := fun jb w' => AJ kb jb l [] (fun i => w2.heap.size ≤ i ∧ i < w'.heap.size) w' ∧ Gs (fun i => i = kb) W4 w') (by
        intro V hJV hBV
        have hVs := hBV.size
        have hOV := hO4.keep hBV
        refine (begin_any (r := fun i => (Value.slice oc l.length cc).ownBlock = some i) (C := fun i => w2.heap.size ≤ i) ((hBV.block kb (lt_of_block hK4)).trans hK4) (hOV.ls q4_len fun i hi => hi) ?_ ?_ ?_ hJV (by omega) (by omega) (by omega) ?_ (fun i hi => by omega)).mono ?_
        · intro e; have := (hol _ e).2; omega
        · intro e; have := (hol _ e).2; omega
        · intro i e; have := (hol _ e).2; omega
        · intro i e; have := (hol _ e).1; omega
        · rintro e w' ⟨rfl, hR⟩
          refine ⟨rfl, hR.mono fun w5 h5 => ⟨h5.1, ?_⟩⟩
          exact (Gs.of_below _ hBV).tr2 h5.2 (fun i hi e => by
            rcases e with e | e
            · omega
            · exact e)))
      have hmf : ∀ (fn : Fn) (first cap : Array Value) (w : World), (Instr.makeFunc fn first cap).run Try.prog w = .ok (.func fn first cap) w := fun _ _ _ _ => rfl
      have HF2 := hide (And.intro hBO (And.intro hbl (And.intro hrl (And.intro hB3 (And.intro hB4 (And.intro hW4s hkb))))))
      have HW4 := hide hW4
      have Hkb := hide hkb
      obtain ⟨jb, hjb⟩ : ∃ jb, jb = W4.heap.size := ⟨_, rfl⟩
      rw [← hjb] at HS
      have Hjb := hide hjb
      clear hBO hbl hrl hO3 hB3 hB4 hK4 hO4 hol hs2 hs3 hW4 hkb hW4s hjb
      go_upto_region 5 with (at_builtin; refine Lib.wpList_append_run _ rfl _ _ _ _ rfl _ _ rfl rfl _ _ hr3 ?_)
      rw [← HW4.out, ← Hkb.out]
      go_wp2_with fail
      refine HS.out.mono ?_
      rintro e w5 ⟨rfl, hJ5, hG5⟩
      obtain ⟨hBO, hbl, hrl, hB3, hB4, hW4s, hkb⟩ := HF2.out
      have hs0 := HB1.out.size
      have hs2 := hBO.be.size
      have hs3 := hB3.size
      have hs4 := hB4.size
      have hs5 := hG5.size
      have hPs : ∀ i, Ps bs sv i → w1.heap.size ≤ i ∧ i < w2.heap.size := fun i hi => hBO.ps hi
      have hPd : ∀ i, Pd rs rv i → w1.heap.size ≤ i ∧ i < w2.heap.size := fun i hi => hBO.pd hi
      have hY5 : YP (Ps bs sv) w5 sv S3 bs := (((hBO.yp hbl).bel hB3).bel hB4).gs hG5 (fun i hi e => by have := hPs i hi; omega)
      have hF5 : YF (Pd rs rv) w5 rv rs := (((hBO.yf hrl).bel hB3).bel hB4).gs hG5 (fun i hi e => by have := hPd i hi; omega)
      have hbw4 : Below w0.heap.size w0 W4 := ((HB1.out.trans (hBO.be.mono hs0)).trans (hB3.mono (by omega))).trans (hB4.mono (by omega))
      have hbw5 : Below w0.heap.size w0 w5 := hG5.below hbw4 (by omega) (fun i e => by omega)
      have HR := hide (run_any (jobA kb jb (l := l) (by omega)) (A := []) hJ5 hY5 (fun i hi hp => by have := hPs i hp; omega) (fun i hi => by have := hPs i hi; omega) S3_gd (by simp; omega) (by simp [resI]) (fun q hq => HSZ.out q (by simpa using hq)) 100 (by decide))
      have HF5 := hide (And.intro hF5 (And.intro hbw5 (And.intro hPs (And.intro hPd (fun i (hi : Ps bs sv i) => hBO.apart hi)))))
      have HRS : Hid (∀ i, i ∈ rs → w0.heap.size ≤ i ∧ i < w2.heap.size) := fun i hi => by have := hPd i (.inl hi); omega
      have HKB : Hid (w2.heap.size ≤ kb) := by show w2.heap.size ≤ kb; omega
      have HSS : Hid (w0.heap.size ≤ w1.heap.size ∧ w1.heap.size ≤ w2.heap.size ∧ w2.heap.size ≤ w5.heap.size) := by show w0.heap.size ≤ w1.heap.size ∧ w1.heap.size ≤ w2.heap.size ∧ w2.heap.size ≤ w5.heap.size; omega
      clear hBO hbl hrl hB3 hB4 hW4s hkb hs0 hs2 hs3 hs4 hs5 hPs hPd hY5 hF5 hbw4 hbw5 hJ5 hG5 HF2
      go_wp2_with fail
      refine HR.out.mono ?_
      rintro e w6 ⟨t, ht, rfl, Pj', hU⟩
      have ht2 : t = (l ++ l).length := by simp at ht; simp; omega
      have hJ6 : AJ kb jb l (yRs S3 (l ++ l)) Pj' w6 := by
        have h1 := hU.j
        rw [show ([] : List RR).length = 0 from rfl, List.drop_zero, ht2, List.take_length, List.nil_append] at h1
        exact h1
      obtain ⟨hF5, hbw5, hPs, hPd, hapt⟩ := HF5.out
      have hss := HSS.out
      have hg6 := hU.g
      have hp6 := hU.p
      have hF6 := hF5.gs hg6 (fun i hi e => by
        rcases e with e | e
        · have := hPd i hi; omega
        · exact hapt i e hi)
      have hbw6 : Below w0.heap.size w0 w6 := hg6.below hbw5 hbw5.size (fun i e => by
        rcases e with e | e
        · omega
        · have := hPs i e; omega)
      have hlen : (yRs S3 (l ++ l)).length = (l ++ l).length := yRs_len _ _
      have hq3 : ∃ r lv ov bv X1 X2 ids tx, Q3 Pj' w6 kb jb l (yRs S3 (l ++ l)) r lv ov bv X1 X2 ids tx := by
        rcases hJ6.wait with ⟨q, _, hq, _⟩ | ⟨_, h⟩
        · rw [hlen] at hq; simp at hq
        · exact h
      obtain ⟨rr, lv, ov, bv, X1, X2, ids, tx, hQ⟩ := hq3
      have hrr : ∀ i, rr i → i ∉ rs := fun i hi hm => by
        have h1 := hPd i (.inl hm)
        rcases hp6 i (hQ.rp i hi) with h' | h'
        · omega
        · omega
      have hAA : X1.map (·.1) = yRs S3 l ∧ X2.map (·.1) = yRs (ySs S3 l) l := by
        have h1 := hQ.a
        rw [yRs_app2] at h1
        have h2 := List.append_inj h1 (by rw [yRs_len, List.length_map, hQ.x1])
        exact ⟨h2.1.symm, h2.2.symm⟩
      have hti : ((t : Nat) : Int) = 2 * ((l.length : Nat) : Int) := by rw [ht2]; simp; omega
      have hAl : ((yRs S3 (l ++ l)).length : Int) = 2 * ((l.length : Nat) : Int) := by rw [hlen]; simp; omega
      have hcd : (if ([] : List RR).length + t < (l ++ l).length then (2 : Int) else 0) = 0 := if_neg (by simp; simp at ht2; omega)
      rw [hti, hcd]
      have hSt := steps_any hQ.j
      rw [hAl] at hSt
      have HSt := hide hSt
      have HRs := hide (result_any hQ.j hQ.i hQ.t (by simp) (by simp))
      have HQ := hide (And.intro hQ (And.intro hrr (And.intro hAA (And.intro hF6 hbw6))))
      clear ht ht2 hJ6 hU hF5 hbw5 hPs hPd hapt hss hg6 hp6 hF6 hbw6 hlen hQ hrr hAA hti hAl hcd hSt HF5
      go_wp2_with fail
      refine HSt.out.mono ?_
      rintro e w7 ⟨rfl, rfl⟩
      go_wp2_with fail
      refine HRs.out.mono ?_
      rintro e w8 ⟨i8, t8, rfl, hI8, hT8, hB8⟩
      obtain ⟨hQ, hrr, hAA, hF6, hbw6⟩ := HQ.out
      have HRs2 := hide (result_any (hQ.j.bel hB8) (hQ.i.bel hB8) (hQ.t.bel hB8) (by simp) (by simp))
      have HB8 := hide hB8
      obtain ⟨ai8, ci8, he8⟩ := hI8.shp
      obtain ⟨at8, ct8, ht8⟩ := hT8.shp
      subst he8
      subst ht8
      clear hQ hrr hAA hF6 hbw6 hI8 hT8 hB8
      have hf2 := fld2
      have hf4 := fld4
      go_wp2_with fail
      refine HRs2.out.mono ?_
      rintro e w9 ⟨i9, t9, rfl, hI9, hT9, hB9⟩
      obtain ⟨ai9, ci9, he9⟩ := hI9.shp
      obtain ⟨at9, ct9, ht9⟩ := hT9.shp
      subst he9
      subst ht9
      have h1l : ([tDone] : List ByteArray).length = 1 := rfl
      rw [h1l] at hT9 ⊢
      obtain ⟨W10, hW10⟩ : ∃ W10, W10 = w9.alloc (.cells #[.string ⟨#[100, 111, 110, 101]⟩] 9) := ⟨_, rfl⟩
      have hB10 : Below w9.heap.size w9 W10 := by rw [hW10]; exact (Below.refl _ _).alloc (Nat.le_refl _) _
      have hone : TR W10 (.slice (some ⟨w9.heap.size, 0, none⟩) 1 1) [tDone] := by rw [hW10]; exact (LS.one tDone 9 w9 t1 1 (fun _ => True) trivial).tr
      have HST := hide (sameTexts_eq (hT9.tr.bel hB10) hone (by simp))
      have hB8' := HB8.out
      have s8 := hB8'.size
      have s9 := hB9.size
      have HB10 : Hid (Below w7.heap.size w7 W10) := (hB8'.trans (hB9.mono s8)).trans (hB10.mono (by omega))
      have HW10 := hide hW10
      clear hI9 hT9 hB9 h1l hW10 hB10 hone hB8' s8 s9
      go_wp2_with fail
      rw [← HW10.out]
      refine HST.out.mono ?_
      rintro e w11 ⟨rfl, hB11⟩
      have hb11 : Below w7.heap.size w7 w11 := HB10.out.trans (hB11.mono HB10.out.size)
      obtain ⟨hQ, hrr, hAA, hF6, hbw6⟩ := HQ.out
      have hbw11 : Below w0.heap.size w0 w11 := hbw6.trans (hb11.mono hbw6.size)
      have hM11 := hQ.m.bel hb11
      have x2 : w11.cell? ⟨kb, 2, none⟩ = some ov := hM11.ak.cell 2
      have hro : ∀ i, (r i ∧ i < w0.heap.size) → i ∉ rs := fun i hi hm => by
        have h1 := HRS.out i hm
        have := hi.2
        omega
      have HA1 := hide (answered_any (hF6.bel hb11).yd S3_gd (by omega) (HL.out.old.kb hbw11.size (fun i hi _ => hbw11.block i hi.2)) hro (hQ.o.bel hb11) (fun x hx => hM11.ns x hx) hrr hAA.1 HSZ.out)
      have HF11 := hide (And.intro hb11 (And.intro hbw11 hro))
      clear hB11 hb11 hQ hrr hAA hF6 hbw6 hbw11 hM11 hro
      go_wp2_with fail
      refine HA1.out.mono ?_
      rintro e w12 ⟨rfl, hY12, hG12⟩
      obtain ⟨hQ, hrr, hAA, hF6, hbw6⟩ := HQ.out
      obtain ⟨hb11, hbw11, hro⟩ := HF11.out
      have hkr : kb ∉ rs := fun hm => by
        have h1 := HRS.out kb hm
        have h2 := HKB.out
        omega
      have hM12 := (hQ.m.bel hb11).gs hG12 hkr hrr
      have x3 : w12.cell? ⟨kb, 3, none⟩ = some bv := hM12.ak.cell 3
      have hbw12 : Below w0.heap.size w0 w12 := hG12.below hbw11 hbw11.size (fun i e => by have := HRS.out i e; omega)
      have hGD : GD (0 + l.length) (ySs S3 l) := GD.steps _ S3_gd
      have HA2 := hide (answered_any hY12 hGD (by omega) (HL.out.old.kb hbw12.size (fun i hi _ => hbw12.block i hi.2)) hro ((hQ.b.bel hb11).gs hG12 hrr) (fun x hx => ((hQ.n2 x hx).bel hb11).gs hG12 hrr) hrr hAA.2 HSZ.out)
      have HBW := hide hbw12
      clear hY12 hG12 hQ hrr hAA hF6 hbw6 hb11 hbw11 hro hkr hM12 hbw12 hGD
      go_wp2_with fail
      refine HA2.out.mono ?_
      rintro e w13 ⟨rfl, _, hG13⟩
      have HE : Hid (Below w0.heap.size w0 w13) := hG13.below HBW.out HBW.out.size (fun i e => by have := HRS.out i e; omega)
      clear hG13
      go_wp2
      go_ret
      exact ⟨rfl, HE.out⟩
end
end Go.Proofs.Ytepmhgkegfpmjaa
