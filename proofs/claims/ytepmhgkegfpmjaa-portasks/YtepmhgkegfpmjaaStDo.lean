/-
  The document's store: Torn, Do.
-/
import Derived.Test.YtepmhgkegfpmjaaStPut
namespace Go.Proofs.Ytepmhgkegfpmjaa
open Go.RowKit Go.Lib

section
variable {w : World} {b : Nat} {q f m : Int} {off : Bool} {v : Value} {L : List OB}
end

/-- The document's store, by a plain one. -/
def RD (w : World) (b : Nat) (s : SS) : Prop := ∃ v, RSt w b s.q s.f s.m s.off v ∧ OS 0 v s.L w
theorem RD.lt {w : World} {b : Nat} {s : SS} (h : RD w b s) : b < w.heap.size := by obtain ⟨_, h, _⟩ := h; exact h.lt
theorem RD.laid {w : World} {b g : Nat} {s : SS} {a0 a1 a2 : Value} (h : RD w b s) (hg : w.heap[g]? = some (.cells #[a0, a1, a2] 45 (0, 0))) (hb : b ≠ g) (x y z : Value) : RD (laid3 w g x y z) b s := by
  obtain ⟨v, h1, h2⟩ := h
  exact ⟨v, (laid3_other x y z hb).trans h1, h2.kb fun i hi => laid3_other x y z (h2.far hg (by decide) i hi)⟩

section
variable {w : World} {b : Nat} {s : SS}
set_option maxRecDepth 100000 in
set_option maxHeartbeats 3200000 in
theorem rdo_any (hD : RD w b s) (hL : Ris s.L) (hs : ∀ p ∈ s.L, p.n.size ≤ 96 ∧ p.d.size ≤ 131072) (st k : Int) (n d : ByteArray) (hn : n.size ≤ maxLen) (hd : d.size ≤ maxLen) (hl : s.L.length ≤ 90000) (hm0 : 0 ≤ s.m) (hm1 : s.m ≤ 1000000000000) (hf : s.f ≤ 1048576) :
    Calls Try.prog 41 #[.pointer (some ⟨b, 0, none⟩), .agg #[.int .i64 st, .int .i64 k, .string n, .string d]] w fun e w' => ∃ v, e = .returned v ∧ AR w' w.heap.size v (doR s k n d) ∧ RD w' b (doS s k n d) ∧ Gs (fun j => j = b) w w' := by
  obtain ⟨q, f, m, off, L⟩ := s
  obtain ⟨v, hR, hO⟩ := hD
  dsimp only at hl hm0 hm1 hf hR hO hL hs
  obtain ⟨U, hU⟩ : ∃ U, U = (w.alloc (.cells #[.int .i64 st, .int .i64 k, .string n, .string d] 38)).alloc (.cells #[.int .i64 0, .string ⟨#[]⟩, .slice none 0 0] 45) := ⟨_, rfl⟩
  have hBU : Below w.heap.size w U := by rw [hU]; exact ((Below.refl _ _).alloc (Nat.le_refl _) _).alloc (by simp) _
  have hszU : U.heap.size = w.heap.size + 2 := by rw [hU]; simp
  have hq0 : U.heap[w.heap.size]? = some (.cells #[.int .i64 st, .int .i64 k, .string n, .string d] 38 (0, 0)) := by
    rw [hU, Below.heap_alloc _ _ _ (by simp)]; exact heap_alloc_new w _
  have hr0 : U.heap[w.heap.size + 1]? = some (.cells #[.int .i64 0, .string ⟨#[]⟩, .slice none 0 0] 45 (0, 0)) := by
    have := heap_alloc_new (w.alloc (.cells #[.int .i64 st, .int .i64 k, .string n, .string d] 38)) (.cells #[.int .i64 0, .string ⟨#[]⟩, .slice none 0 0] 45 (0, 0))
    rw [hU]
    simpa using this
  have hRU := hR.below hBU hR.lt
  have hOU := hO.keep hBU
  have HBL := hide hR.lt
  obtain ⟨V, hV⟩ : ∃ V, V = U.setCell ⟨b, 2, none⟩ (.int .i64 (m + 1)) := ⟨_, rfl⟩
  have hRV : RSt V b q f (m + 1) off v := by rw [hV]; exact hRU.s2 _
  have hOV : OS 0 v L V := by rw [hV]; exact hOU.sb ⟨_, _, _, _, _, hRU⟩ _ _
  have hGV : Gs (fun j => j = b) w V := by rw [hV]; exact (Gs.of_below (fun j => j = b) hBU).set (a := ⟨b, 2, none⟩) (.inl rfl) _
  have hqV : V.heap[w.heap.size]? = _ := (by rw [hV]; exact Below.heap_setCell _ _ _ _ (by have := hR.lt; show w.heap.size ≠ b; omega) : V.heap[w.heap.size]? = U.heap[w.heap.size]?).trans hq0
  have hrV : V.heap[w.heap.size + 1]? = _ := (by rw [hV]; exact Below.heap_setCell _ _ _ _ (by have := hR.lt; show w.heap.size + 1 ≠ b; omega) : V.heap[w.heap.size + 1]? = U.heap[w.heap.size + 1]?).trans hr0
  have hszV : V.heap.size = w.heap.size + 2 := by rw [hV]; simp [World.setCell, hszU]
  have hw1 : IntKind.i64.wrap (m + 1) = m + 1 := by simp [IntKind.wrap_i64]; omega
  have HU := hide hU
  have HV := hide hV
  have u2 := hRU.c2
  have uz := hRU.free 2
  have y0 : V.cell? ⟨w.heap.size, 0, none⟩ = some (.int .i64 st) := by simp [World.cell?, hqV]
  have y1 : V.cell? ⟨w.heap.size, 1, none⟩ = some (.int .i64 k) := by simp [World.cell?, hqV]
  have y2 : V.cell? ⟨w.heap.size, 2, none⟩ = some (.string n) := by simp [World.cell?, hqV]
  have y3 : V.cell? ⟨w.heap.size, 3, none⟩ = some (.string d) := by simp [World.cell?, hqV]
  have z1 := hRV.c1
  have z3 := hRV.c3
  have z5 := hRV.free 1
  have HRV := hide hRV
  have HOV := hide hOV
  have HSV := hide hszV
  have HQV : Hid (RQ V w.heap.size st k n d) := hqV
  have HEND : Hid (∀ w1 (C : Int) (D : ByteArray) (v : Value) (l : List ByteArray) (s' : SS), Gs (fun j => j = b) V w1 → RD w1 b s' → TS (w.heap.size + 2) v l w1 → doR ⟨q, f, m, off, L⟩ k n d = ⟨C, D, l⟩ → doS ⟨q, f, m, off, L⟩ k n d = s' →
      ((w1.cell? ⟨w.heap.size + 1, 0, none⟩ = some (.int .i64 0) ∧ w1.frozen? ⟨w.heap.size + 1, 0, none⟩ = false) ∧ ((w1.setCell ⟨w.heap.size + 1, 0, none⟩ (.int .i64 C)).cell? ⟨w.heap.size + 1, 1, none⟩ = some (.string ⟨#[]⟩) ∧ (w1.setCell ⟨w.heap.size + 1, 0, none⟩ (.int .i64 C)).frozen? ⟨w.heap.size + 1, 1, none⟩ = false) ∧
      (((w1.setCell ⟨w.heap.size + 1, 0, none⟩ (.int .i64 C)).setCell ⟨w.heap.size + 1, 1, none⟩ (.string D)).cell? ⟨w.heap.size + 1, 2, none⟩ = some (.slice none 0 0) ∧ ((w1.setCell ⟨w.heap.size + 1, 0, none⟩ (.int .i64 C)).setCell ⟨w.heap.size + 1, 1, none⟩ (.string D)).frozen? ⟨w.heap.size + 1, 2, none⟩ = false)) ∧
      (((((w1.setCell ⟨w.heap.size + 1, 0, none⟩ (.int .i64 C)).setCell ⟨w.heap.size + 1, 1, none⟩ (.string D)).setCell ⟨w.heap.size + 1, 2, none⟩ v).cell? ⟨w.heap.size + 1, 0, none⟩ = some (.int .i64 C) ∧ (((w1.setCell ⟨w.heap.size + 1, 0, none⟩ (.int .i64 C)).setCell ⟨w.heap.size + 1, 1, none⟩ (.string D)).setCell ⟨w.heap.size + 1, 2, none⟩ v).cell? ⟨w.heap.size + 1, 1, none⟩ = some (.string D) ∧ (((w1.setCell ⟨w.heap.size + 1, 0, none⟩ (.int .i64 C)).setCell ⟨w.heap.size + 1, 1, none⟩ (.string D)).setCell ⟨w.heap.size + 1, 2, none⟩ v).cell? ⟨w.heap.size + 1, 2, none⟩ = some v) ∧
      (∃ v', Ending.returned (.agg #[.int .i64 C, .string D, v]) = .returned v' ∧ AR (laid3 w1 (w.heap.size + 1) (.int .i64 C) (.string D) v) w.heap.size v' (doR ⟨q, f, m, off, L⟩ k n d) ∧ RD (laid3 w1 (w.heap.size + 1) (.int .i64 C) (.string D) v) b (doS ⟨q, f, m, off, L⟩ k n d) ∧ Gs (fun j => j = b) w (laid3 w1 (w.heap.size + 1) (.int .i64 C) (.string D) v)))) := by
    intro w1 C D v l s' hg hp ht hr hs
    have hlt := HBL.out
    have hr1 : w1.heap[w.heap.size + 1]? = _ := (hg.block _ (by rw [hszV]; omega) (by show ¬ _ = b; omega)).trans hrV
    obtain ⟨a1, a2, a3, a4⟩ := set3 hr1 (.int .i64 C) (.string D) v
    refine ⟨⟨a1, a2, a3⟩, ⟨by simp [World.cell?, a4], by simp [World.cell?, a4], by simp [World.cell?, a4]⟩, _, rfl, ?_, ?_, ?_⟩
    · rw [hr]
      refine ⟨v, rfl, ?_⟩
      have ht' : TS (w.heap.size + 2) v l (laid3 w1 (w.heap.size + 1) (.int .i64 C) (.string D) v) := ht.kb fun i hi => laid3_other _ _ _ (by have := (ht.lt i hi).1; omega)
      refine ⟨ht'.own.1, ?_⟩
      rcases ht'.own.2 with h2 | ⟨g, cap, cur, e, hB, r⟩
      · exact .inl h2
      · exact .inr ⟨g, cap, cur, e, by omega, r⟩
    · rw [hs]
      exact hp.laid hr1 (by omega) _ _ _
    · exact (hGV.trans hg).laid (by omega) _ _ _
  clear hR hO hRU hOU hRV hOV hGV hqV hrV hszV hq0 hr0 hszU hBU hU hV
  go_enter Try.func41, Try.ntmps41
  go_upto_region 1 with fail
  rw [← HU.out]
  go_upto_region 2 with fail
  rw [← HV.out]
  clear u2 uz
  cases off with
  | true =>
    obtain ⟨⟨⟨a1, a2⟩, ⟨a3, a4⟩, a5, a6⟩, ⟨c0, c1, c2⟩, hE⟩ := HEND.out V 70 ⟨#[]⟩ (.slice none 0 0) [] ⟨q, f, m + 1, true, L⟩ (Gs.refl _ _) ⟨_, HRV.out, HOV.out⟩ (TS.nil _ _) rfl rfl
    have HE := hide hE
    clear hE HEND
    go_wp2
    exact bodyPost_ret (v := .agg #[.int .i64 70, .string ⟨#[]⟩, (.slice none 0 0)]) (by simp [results, Try.results41, go_sem, c0, c1, c2]) rfl HE.out
  | false =>
    by_cases hf0 : 0 < f
    · have hw : IntKind.i64.wrap (f - 1) = f - 1 := by simp [IntKind.wrap_i64]; omega
      have HR1 : Hid (doR ⟨q, f, m, false, L⟩ k n d = ⟨72, ⟨#[]⟩, []⟩) := hide (by rw [doR]; simp [hf0])
      have HS1 : Hid (doS ⟨q, f, m, false, L⟩ k n d = ⟨q, f - 1, m + 1, false, L⟩) := hide (by rw [doS]; simp [hf0])
      obtain ⟨⟨⟨a1, a2⟩, ⟨a3, a4⟩, a5, a6⟩, ⟨c0, c1, c2⟩, hE⟩ := HEND.out (V.setCell ⟨b, 1, none⟩ (.int .i64 (f - 1))) 72 ⟨#[]⟩ (.slice none 0 0) [] ⟨q, f - 1, m + 1, false, L⟩ ((Gs.refl (fun j => j = b) _).set (a := ⟨b, 1, none⟩) (.inl rfl) _) ⟨_, HRV.out.s1 _, HOV.out.sb ⟨_, _, _, _, _, HRV.out⟩ _ _⟩ (TS.nil _ _) HR1.out HS1.out
      have HE := hide hE
      clear hE HEND
      go_wp2
      exact bodyPost_ret (v := .agg #[.int .i64 72, .string ⟨#[]⟩, (.slice none 0 0)]) (by simp [results, Try.results41, go_sem, c0, c1, c2]) rfl HE.out
    have hf1 : ¬ 0 < f := hf0
    have HF1 := hide hf1
    have HFI : Hid _ := hide (rfind_any n HRV.out HOV.out.ol (by omega) hL)
    have HPT := hide (pos_thr hL n)
    obtain ⟨i, hi⟩ : ∃ i, i = pos L n := ⟨_, rfl⟩
    obtain ⟨t, ht⟩ : ∃ t, t = (thr L n).isSome := ⟨_, rfl⟩
    rw [← hi] at HFI HPT
    rw [← ht] at HFI
    have hdc : dcode n L = if t = true then 0 else 5 := by rw [ht]; rfl
    have HI := hide hi
    have HT := hide ht
    have HDC := hide hdc
    clear hi ht hdc
    go_wp2_with fail
    refine HFI.out.mono ?_
    rintro e W ⟨rfl, hbW⟩
    have hRW := HRV.out.below hbW HRV.out.lt
    have hOW := HOV.out.keep hbW
    have hGW : Gs (fun j => j = b) V W := Gs.of_below _ hbW
    have hQW := HQV.out.bel hbW
    have x0 : W.cell? ⟨w.heap.size, 0, none⟩ = some (.int .i64 st) := by simp [World.cell?, show W.heap[w.heap.size]? = _ from hQW]
    have x1 := hQW.c1
    have x2 := hQW.c2
    have x3 := hQW.c3
    have HRW := hide hRW
    have HOW := hide hOW
    have HGW := hide hGW
    have HSW : Hid (w.heap.size + 2 ≤ W.heap.size) := by rw [← HSV.out]; exact hbW.size
    clear HFI y0 y1 y2 y3 z1 z3 z5 hbW hRW hOW hGW hQW HRV HOV HQV
    by_cases hk1 : k = 1
    · subst hk1
      have HR1 : Hid (doR ⟨q, f, m, false, L⟩ 1 n d = ⟨pcode n d L q, ⟨#[]⟩, []⟩) := hide (by rw [doR]; simp [show ¬ 0 < f by have := HF1.out; omega])
      have HS1 : Hid (doS ⟨q, f, m, false, L⟩ 1 n d = ⟨q, f, m + 1, false, putL n d L q⟩) := hide (by rw [doS]; simp [show ¬ 0 < f by have := HF1.out; omega])
      have HC : Hid _ := hide (rput_any HRW.out HOW.out hl hL hs st 1 n d hn hd)
      go_wp2_with fail
      refine HC.out.mono ?_
      rintro e w1 ⟨rfl, hp1, hg1⟩
      generalize pcode n d L q = C at *
      obtain ⟨⟨⟨a1, a2⟩, ⟨a3, a4⟩, a5, a6⟩, ⟨c0, c1, c2⟩, hE⟩ := HEND.out w1 C ⟨#[]⟩ (.slice none 0 0) [] ⟨q, f, m + 1, false, putL n d L q⟩ (HGW.out.trans hg1) hp1 (TS.nil _ _) HR1.out HS1.out
      have HE := hide hE
      clear hE HEND
      go_wp2
      exact bodyPost_ret (v := .agg #[.int .i64 C, .string ⟨#[]⟩, (.slice none 0 0)]) (by simp [results, Try.results41, go_sem, c0, c1, c2]) rfl HE.out
    by_cases hk3 : k = 3
    · subst hk3
      have HR1 : Hid (doR ⟨q, f, m, false, L⟩ 3 n d = ⟨0, ⟨#[]⟩, namesL L n⟩) := hide (by rw [doR]; simp [show ¬ 0 < f by have := HF1.out; omega])
      have HS1 : Hid (doS ⟨q, f, m, false, L⟩ 3 n d = ⟨q, f, m + 1, false, L⟩) := hide (by rw [doS]; simp [show ¬ 0 < f by have := HF1.out; omega])
      have HC : Hid _ := hide (rnames_any n HRW.out HOW.out.ol (by omega))
      go_wp2_with fail
      refine HC.out.mono ?_
      rintro e w1 ⟨u, rfl, hT, hb1⟩
      have hT' : TS (w.heap.size + 2) u (namesL L n) w1 := by
        refine ⟨hT.own.1, ?_⟩
        rcases hT.own.2 with h2 | ⟨g, cap, cur, e, hB, r⟩
        · exact .inl h2
        · exact .inr ⟨g, cap, cur, e, Nat.le_trans HSW.out hB, r⟩
      obtain ⟨va, vc, rfl⟩ := hT.shp
      generalize hvl : (namesL L n).length = vl at *
      clear hvl hT
      obtain ⟨⟨⟨a1, a2⟩, ⟨a3, a4⟩, a5, a6⟩, ⟨c0, c1, c2⟩, hE⟩ := HEND.out w1 0 ⟨#[]⟩ (.slice va vl vc) (namesL L n) ⟨q, f, m + 1, false, L⟩ (HGW.out.trans (Gs.of_below _ hb1)) ⟨_, HRW.out.below hb1 HRW.out.lt, HOW.out.keep hb1⟩ hT' HR1.out HS1.out
      have HE := hide hE
      clear hE HEND
      go_wp2
      exact bodyPost_ret (v := .agg #[.int .i64 0, .string ⟨#[]⟩, (.slice va vl vc)]) (by simp [results, Try.results41, go_sem, c0, c1, c2]) rfl HE.out
    by_cases hk2 : k = 2
    · subst hk2
      have HR1 : Hid (doR ⟨q, f, m, false, L⟩ 2 n d = ⟨dcode n L, (thr L n).getD ⟨#[]⟩, []⟩) := hide (by rw [doR]; simp [show ¬ 0 < f by have := HF1.out; omega])
      have HS1 : Hid (doS ⟨q, f, m, false, L⟩ 2 n d = ⟨q, f, m + 1, false, L⟩) := hide (by rw [doS]; simp [show ¬ 0 < f by have := HF1.out; omega])
      cases t with
      | true =>
        obtain ⟨p, hp, hpd⟩ : ∃ p, L[i]? = some p ∧ thr L n = some p.d := by
          have h1 := HPT.out
          have h2 := HT.out
          cases hq : L[i]? with
          | none => rw [hq] at h1; rw [h1] at h2; cases h2
          | some p =>
            rw [hq] at h1
            dsimp only at h1
            by_cases e : p.n = n
            · rw [if_pos e] at h1; exact ⟨p, rfl, h1⟩
            · rw [if_neg e] at h1; rw [h1] at h2; cases h2
        have hil : i < L.length := (List.getElem?_eq_some_iff.1 hp).1
        obtain ⟨a, c, e4, h4⟩ := HOW.out.ol
        obtain ⟨g, o, rfl, hg, hC⟩ := h4.resolve_left (by intro e; rw [e] at hp; simp at hp)
        have c4 := HRW.out.cell4
        rw [e4] at c4
        have zd := (hC i p hp).2
        have HR2 : Hid (doR ⟨q, f, m, false, L⟩ 2 n d = ⟨0, p.d, []⟩) := by
          have h1 := HR1.out
          have h2 := HDC.out
          rw [h2, hpd] at h1
          exact h1
        generalize p.d = D at *
        have b1 : (i : Int) < (L.length : Int) := by omega
        have b0 : (0 : Int) ≤ (i : Int) := by omega
        clear hC hp hpd e4
        generalize L.length = N at *
        obtain ⟨⟨⟨a1, a2⟩, ⟨a3, a4⟩, a5, a6⟩, ⟨c0, c1, c2⟩, hE⟩ := HEND.out W 0 D (.slice none 0 0) [] ⟨q, f, m + 1, false, L⟩ HGW.out ⟨_, HRW.out, HOW.out⟩ (TS.nil _ _) HR2.out HS1.out
        have HE := hide hE
        clear hE HEND
        go_wp2
        exact bodyPost_ret (v := .agg #[.int .i64 0, .string D, (.slice none 0 0)]) (by simp [results, Try.results41, go_sem, c0, c1, c2]) rfl HE.out
      | false =>
        have HR2 : Hid (doR ⟨q, f, m, false, L⟩ 2 n d = ⟨5, ⟨#[]⟩, []⟩) := by
          have h1 := HR1.out
          have h2 := HDC.out
          have h3 := HT.out
          cases hq : thr L n with
          | some d => rw [hq] at h3; cases h3
          | none =>
            rw [h2, hq] at h1
            exact h1
        obtain ⟨⟨⟨a1, a2⟩, ⟨a3, a4⟩, a5, a6⟩, ⟨c0, c1, c2⟩, hE⟩ := HEND.out W 5 ⟨#[]⟩ (.slice none 0 0) [] ⟨q, f, m + 1, false, L⟩ HGW.out ⟨_, HRW.out, HOW.out⟩ (TS.nil _ _) HR2.out HS1.out
        have HE := hide hE
        clear hE HEND
        go_wp2
        exact bodyPost_ret (v := .agg #[.int .i64 5, .string ⟨#[]⟩, (.slice none 0 0)]) (by simp [results, Try.results41, go_sem, c0, c1, c2]) rfl HE.out
    by_cases hk4 : k = 4
    · subst hk4
      have HR1 : Hid (doR ⟨q, f, m, false, L⟩ 4 n d = ⟨dcode n L, ⟨#[]⟩, []⟩) := hide (by rw [doR]; simp [show ¬ 0 < f by have := HF1.out; omega])
      have HS1 : Hid (doS ⟨q, f, m, false, L⟩ 4 n d = ⟨q, f, m + 1, false, delL L n⟩) := hide (by rw [doS]; simp [show ¬ 0 < f by have := HF1.out; omega])
      cases t with
      | true =>
        have hil : i < L.length := by
          have h1 := HPT.out
          cases hq : L[i]? with
          | none => rw [hq] at h1; have h2 := HT.out; rw [h1] at h2; cases h2
          | some p => exact (List.getElem?_eq_some_iff.1 hq).1
        have HDT : Hid (delL L n = L.take i ++ L.drop (i + 1)) := by rw [HI.out]; exact del_take hL HT.out.symm
        have HR2 : Hid (doR ⟨q, f, m, false, L⟩ 4 n d = ⟨0, ⟨#[]⟩, []⟩) := by
          have h1 := HR1.out
          have h2 := HDC.out
          rw [h2] at h1
          exact h1
        have HRM : Hid _ := hide (rremove_any HRW.out HOW.out (by omega) i hil)
        go_wp2_with fail
        refine HRM.out.mono ?_
        rintro e w1 ⟨rfl, v1, h1, h2, h3⟩
        have hp1 : RD w1 b ⟨q, f, m + 1, false, delL L n⟩ := ⟨v1, h1, by rw [HDT.out]; exact h2⟩
        clear h1 h2 HRM
        obtain ⟨⟨⟨a1, a2⟩, ⟨a3, a4⟩, a5, a6⟩, ⟨c0, c1, c2⟩, hE⟩ := HEND.out w1 0 ⟨#[]⟩ (.slice none 0 0) [] ⟨q, f, m + 1, false, delL L n⟩ (HGW.out.trans h3) hp1 (TS.nil _ _) HR2.out HS1.out
        have HE := hide hE
        clear hE HEND
        go_wp2
        exact bodyPost_ret (v := .agg #[.int .i64 0, .string ⟨#[]⟩, (.slice none 0 0)]) (by simp [results, Try.results41, go_sem, c0, c1, c2]) rfl HE.out
      | false =>
        have hth : thr L n = none := by
          have h3 := HT.out
          cases hq : thr L n with
          | some d => rw [hq] at h3; cases h3
          | none => rfl
        have HR2 : Hid (doR ⟨q, f, m, false, L⟩ 4 n d = ⟨5, ⟨#[]⟩, []⟩) := by
          have h1 := HR1.out
          have h2 := HDC.out
          rw [h2] at h1
          exact h1
        have HS2 : Hid (doS ⟨q, f, m, false, L⟩ 4 n d = ⟨q, f, m + 1, false, L⟩) := by
          have h1 := HS1.out
          rw [del_none hth] at h1
          exact h1
        clear hth
        obtain ⟨⟨⟨a1, a2⟩, ⟨a3, a4⟩, a5, a6⟩, ⟨c0, c1, c2⟩, hE⟩ := HEND.out W 5 ⟨#[]⟩ (.slice none 0 0) [] ⟨q, f, m + 1, false, L⟩ HGW.out ⟨_, HRW.out, HOW.out⟩ (TS.nil _ _) HR2.out HS2.out
        have HE := hide hE
        clear hE HEND
        go_wp2
        exact bodyPost_ret (v := .agg #[.int .i64 5, .string ⟨#[]⟩, (.slice none 0 0)]) (by simp [results, Try.results41, go_sem, c0, c1, c2]) rfl HE.out
    · have HR1 : Hid (doR ⟨q, f, m, false, L⟩ k n d = ⟨3, ⟨#[]⟩, []⟩) := hide (by rw [doR]; simp [show ¬ 0 < f by have := HF1.out; omega, hk1, hk2, hk3, hk4])
      have HS1 : Hid (doS ⟨q, f, m, false, L⟩ k n d = ⟨q, f, m + 1, false, L⟩) := hide (by rw [doS]; simp [show ¬ 0 < f by have := HF1.out; omega, hk1, hk4])
      obtain ⟨⟨⟨a1, a2⟩, ⟨a3, a4⟩, a5, a6⟩, ⟨c0, c1, c2⟩, hE⟩ := HEND.out W 3 ⟨#[]⟩ (.slice none 0 0) [] ⟨q, f, m + 1, false, L⟩ HGW.out ⟨_, HRW.out, HOW.out⟩ (TS.nil _ _) HR1.out HS1.out
      have HE := hide hE
      clear hE HEND
      go_wp2
      exact bodyPost_ret (v := .agg #[.int .i64 3, .string ⟨#[]⟩, (.slice none 0 0)]) (by simp [results, Try.results41, go_sem, c0, c1, c2]) rfl HE.out
end
end Go.Proofs.Ytepmhgkegfpmjaa
