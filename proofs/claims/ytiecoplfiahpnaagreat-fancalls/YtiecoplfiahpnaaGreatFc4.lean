/-
  Contracts of the program and of the statements (part 4 of 13).
-/
import Derived.Test.YtiecoplfiahpnaaGreatFc3
import Derived.Laws.Cover3

namespace Go.Proofs.YtiecoplfiahpnaaGreat
open Go.RowKit Go.Lib

section
variable {w : World} {b : Nat} {q f m : Int} {off : Bool} {v : Value} {L : List OB}
end

/-- The document's store, by a plain one. -/
def RD (w : World) (b : Nat) (s : SS) : Prop := ∃ v, RSt w b s.q s.f s.m s.off v ∧ OS 0 v s.L w
theorem RD.lt {w : World} {b : Nat} {s : SS} (h : RD w b s) : b < w.heap.size := by obtain ⟨_, h, _⟩ := h; exact h.lt
theorem RD.laid {w : World} {b g : Nat} {s : SS} {a0 a1 a2 : Value} (h : RD w b s) (hg : w.heap[g]? = some (.cells #[a0, a1, a2] 72 (0, 0))) (hb : b ≠ g) (x y z : Value) : RD (laid3 w g x y z) b s := by
  obtain ⟨v, h1, h2⟩ := h
  exact ⟨v, (laid3_other x y z hb).trans h1, h2.kb fun i hi => laid3_other x y z (h2.far hg (by decide) i hi)⟩

section
variable {w : World} {b : Nat} {s : SS}
set_option maxRecDepth 100000 in
set_option maxHeartbeats 3200000 in
theorem rdo_any (hD : RD w b s) (hL : Ris s.L) (hs : ∀ p ∈ s.L, p.n.size ≤ 96 ∧ p.d.size ≤ 131072) (st k : Int) (n d : ByteArray) (hn : n.size ≤ maxLen) (hd : d.size ≤ maxLen) (hl : s.L.length ≤ 90000) (hm0 : 0 ≤ s.m) (hm1 : s.m ≤ 1000000000000) (hf : s.f ≤ 1048576) :
    Calls Tryz.prog 83 #[.pointer (some ⟨b, 0, none⟩), .agg #[.int .i64 st, .int .i64 k, .string n, .string d]] w fun e w' => ∃ v, e = .returned v ∧ AR w' w.heap.size v (doR s k n d) ∧ RD w' b (doS s k n d) ∧ Gs (fun j => j = b) w w' := by
  obtain ⟨q, f, m, off, L⟩ := s
  obtain ⟨v, hR, hO⟩ := hD
  dsimp only at hl hm0 hm1 hf hR hO hL hs
  obtain ⟨U, hU⟩ : ∃ U, U = (w.alloc (.cells #[.int .i64 st, .int .i64 k, .string n, .string d] 65)).alloc (.cells #[.int .i64 0, .string ⟨#[]⟩, .slice none 0 0] 72) := ⟨_, rfl⟩
  have hBU : Below w.heap.size w U := by rw [hU]; exact ((Below.refl _ _).alloc (Nat.le_refl _) _).alloc (by simp) _
  have hszU : U.heap.size = w.heap.size + 2 := by rw [hU]; simp
  have hq0 : U.heap[w.heap.size]? = some (.cells #[.int .i64 st, .int .i64 k, .string n, .string d] 65 (0, 0)) := by
    rw [hU, Below.heap_alloc _ _ _ (by simp)]; exact heap_alloc_new w _
  have hr0 : U.heap[w.heap.size + 1]? = some (.cells #[.int .i64 0, .string ⟨#[]⟩, .slice none 0 0] 72 (0, 0)) := by
    have := heap_alloc_new (w.alloc (.cells #[.int .i64 st, .int .i64 k, .string n, .string d] 65)) (.cells #[.int .i64 0, .string ⟨#[]⟩, .slice none 0 0] 72 (0, 0))
    rw [hU]
    simpa using this
  have hRU := hR.below hBU hR.lt
  have hOU := hO.keep hBU
  have HBL := hide hR.lt
  obtain ⟨V, hV⟩ : ∃ V, V = U.setCell ⟨b, 2, none⟩ (.int .i64 (m + 1)) := ⟨_, rfl⟩
  have hRV : RSt V b q f (m + 1) off v := by rw [hV]; exact hRU.s2 _
  have hOV : OS 0 v L V := by rw [hV]; exact hOU.sb ⟨_, _, _, _, _, hRU⟩ _ _
  have hGV : Gs (fun j => j = b) w V := by rw [hV]; exact (Gs.of_below (fun j => j = b) hBU).set (a := ⟨b, 2, none⟩) (.inl rfl) _
  have hqV : V.heap[w.heap.size]? = _ := (by rw [hV]; exact Below.heap_setCell _ _ _ _ (by have := hR.lt; show w.heap.size ≠ b; omega) : V.heap[w.heap.size]? = U.heap[w.heap.size]?).trans hq0
  have hrV : V.heap[w.heap.size + 1]? = _ := (by rw [hV]; exact Below.heap_setCell _ _ _ _ (by have := hR.lt; show w.heap.size + 1 ≠ b; omega) : V.heap[w.heap.size + 1]? = U.heap[w.heap.size + 1]?).trans hr0
  have hszV : V.heap.size = w.heap.size + 2 := by rw [hV]; simp [World.setCell, hszU]
  have hw1 : IntKind.i64.wrap (m + 1) = m + 1 := by simp [IntKind.wrap_i64]; omega
  have HU := hide hU
  have HV := hide hV
  have u2 := hRU.c2
  have uz := hRU.free 2
  have y0 : V.cell? ⟨w.heap.size, 0, none⟩ = some (.int .i64 st) := by simp [World.cell?, hqV]
  have y1 : V.cell? ⟨w.heap.size, 1, none⟩ = some (.int .i64 k) := by simp [World.cell?, hqV]
  have y2 : V.cell? ⟨w.heap.size, 2, none⟩ = some (.string n) := by simp [World.cell?, hqV]
  have y3 : V.cell? ⟨w.heap.size, 3, none⟩ = some (.string d) := by simp [World.cell?, hqV]
  have z1 := hRV.c1
  have z3 := hRV.c3
  have z5 := hRV.free 1
  have HRV := hide hRV
  have HOV := hide hOV
  have HSV := hide hszV
  have HQV : Hid (RQ V w.heap.size st k n d) := hqV
  have HEND : Hid (∀ w1 (C : Int) (D : ByteArray) (v : Value) (l : List ByteArray) (s' : SS), Gs (fun j => j = b) V w1 → RD w1 b s' → TS (w.heap.size + 2) v l w1 → doR ⟨q, f, m, off, L⟩ k n d = ⟨C, D, l⟩ → doS ⟨q, f, m, off, L⟩ k n d = s' →
      ((w1.cell? ⟨w.heap.size + 1, 0, none⟩ = some (.int .i64 0) ∧ w1.frozen? ⟨w.heap.size + 1, 0, none⟩ = false) ∧ ((w1.setCell ⟨w.heap.size + 1, 0, none⟩ (.int .i64 C)).cell? ⟨w.heap.size + 1, 1, none⟩ = some (.string ⟨#[]⟩) ∧ (w1.setCell ⟨w.heap.size + 1, 0, none⟩ (.int .i64 C)).frozen? ⟨w.heap.size + 1, 1, none⟩ = false) ∧
      (((w1.setCell ⟨w.heap.size + 1, 0, none⟩ (.int .i64 C)).setCell ⟨w.heap.size + 1, 1, none⟩ (.string D)).cell? ⟨w.heap.size + 1, 2, none⟩ = some (.slice none 0 0) ∧ ((w1.setCell ⟨w.heap.size + 1, 0, none⟩ (.int .i64 C)).setCell ⟨w.heap.size + 1, 1, none⟩ (.string D)).frozen? ⟨w.heap.size + 1, 2, none⟩ = false)) ∧
      (((((w1.setCell ⟨w.heap.size + 1, 0, none⟩ (.int .i64 C)).setCell ⟨w.heap.size + 1, 1, none⟩ (.string D)).setCell ⟨w.heap.size + 1, 2, none⟩ v).cell? ⟨w.heap.size + 1, 0, none⟩ = some (.int .i64 C) ∧ (((w1.setCell ⟨w.heap.size + 1, 0, none⟩ (.int .i64 C)).setCell ⟨w.heap.size + 1, 1, none⟩ (.string D)).setCell ⟨w.heap.size + 1, 2, none⟩ v).cell? ⟨w.heap.size + 1, 1, none⟩ = some (.string D) ∧ (((w1.setCell ⟨w.heap.size + 1, 0, none⟩ (.int .i64 C)).setCell ⟨w.heap.size + 1, 1, none⟩ (.string D)).setCell ⟨w.heap.size + 1, 2, none⟩ v).cell? ⟨w.heap.size + 1, 2, none⟩ = some v) ∧
      (∃ v', Ending.returned (.agg #[.int .i64 C, .string D, v]) = .returned v' ∧ AR (laid3 w1 (w.heap.size + 1) (.int .i64 C) (.string D) v) w.heap.size v' (doR ⟨q, f, m, off, L⟩ k n d) ∧ RD (laid3 w1 (w.heap.size + 1) (.int .i64 C) (.string D) v) b (doS ⟨q, f, m, off, L⟩ k n d) ∧ Gs (fun j => j = b) w (laid3 w1 (w.heap.size + 1) (.int .i64 C) (.string D) v)))) := by
    intro w1 C D v l s' hg hp ht hr hs
    have hlt := HBL.out
    have hr1 : w1.heap[w.heap.size + 1]? = _ := (hg.block _ (by rw [hszV]; omega) (by show ¬ _ = b; omega)).trans hrV
    obtain ⟨a1, a2, a3, a4⟩ := set3 hr1 (.int .i64 C) (.string D) v
    refine ⟨⟨a1, a2, a3⟩, ⟨by simp [World.cell?, a4], by simp [World.cell?, a4], by simp [World.cell?, a4]⟩, _, rfl, ?_, ?_, ?_⟩
    · rw [hr]
      refine ⟨v, rfl, ?_⟩
      have ht' : TS (w.heap.size + 2) v l (laid3 w1 (w.heap.size + 1) (.int .i64 C) (.string D) v) := ht.kb fun i hi => laid3_other _ _ _ (by have := (ht.lt i hi).1; omega)
      refine ⟨ht'.own.1, ?_⟩
      rcases ht'.own.2 with h2 | ⟨g, cap, cur, e, hB, r⟩
      · exact .inl h2
      · exact .inr ⟨g, cap, cur, e, by omega, r⟩
    · rw [hs]
      exact hp.laid hr1 (by omega) _ _ _
    · exact (hGV.trans hg).laid (by omega) _ _ _
  clear hR hO hRU hOU hRV hOV hGV hqV hrV hszV hq0 hr0 hszU hBU hU hV
  go_enter Tryz.func83, Tryz.ntmps83
  go_upto_region 1 with fail
  rw [← HU.out]
  go_upto_region 2 with fail
  rw [← HV.out]
  clear u2 uz
  cases off with
  | true =>
    obtain ⟨⟨⟨a1, a2⟩, ⟨a3, a4⟩, a5, a6⟩, ⟨c0, c1, c2⟩, hE⟩ := HEND.out V 70 ⟨#[]⟩ (.slice none 0 0) [] ⟨q, f, m + 1, true, L⟩ (Gs.refl _ _) ⟨_, HRV.out, HOV.out⟩ (TS.nil _ _) rfl rfl
    have HE := hide hE
    clear hE HEND
    go_wp2
    exact bodyPost_ret (v := .agg #[.int .i64 70, .string ⟨#[]⟩, (.slice none 0 0)]) (by simp [results, Tryz.results83, go_sem, c0, c1, c2]) rfl HE.out
  | false =>
    by_cases hf0 : 0 < f
    · have hw : IntKind.i64.wrap (f - 1) = f - 1 := by simp [IntKind.wrap_i64]; omega
      have HR1 : Hid (doR ⟨q, f, m, false, L⟩ k n d = ⟨72, ⟨#[]⟩, []⟩) := hide (by rw [doR]; simp [hf0])
      have HS1 : Hid (doS ⟨q, f, m, false, L⟩ k n d = ⟨q, f - 1, m + 1, false, L⟩) := hide (by rw [doS]; simp [hf0])
      obtain ⟨⟨⟨a1, a2⟩, ⟨a3, a4⟩, a5, a6⟩, ⟨c0, c1, c2⟩, hE⟩ := HEND.out (V.setCell ⟨b, 1, none⟩ (.int .i64 (f - 1))) 72 ⟨#[]⟩ (.slice none 0 0) [] ⟨q, f - 1, m + 1, false, L⟩ ((Gs.refl (fun j => j = b) _).set (a := ⟨b, 1, none⟩) (.inl rfl) _) ⟨_, HRV.out.s1 _, HOV.out.sb ⟨_, _, _, _, _, HRV.out⟩ _ _⟩ (TS.nil _ _) HR1.out HS1.out
      have HE := hide hE
      clear hE HEND
      go_wp2
      exact bodyPost_ret (v := .agg #[.int .i64 72, .string ⟨#[]⟩, (.slice none 0 0)]) (by simp [results, Tryz.results83, go_sem, c0, c1, c2]) rfl HE.out
    have hf1 : ¬ 0 < f := hf0
    have HF1 := hide hf1
    have HFI : Hid _ := hide (rfind_any n HRV.out HOV.out.ol (by omega) hL)
    have HPT := hide (pos_thr hL n)
    obtain ⟨i, hi⟩ : ∃ i, i = pos L n := ⟨_, rfl⟩
    obtain ⟨t, ht⟩ : ∃ t, t = (thr L n).isSome := ⟨_, rfl⟩
    rw [← hi] at HFI HPT
    rw [← ht] at HFI
    have hdc : dcode n L = if t = true then 0 else 5 := by rw [ht]; rfl
    have HI := hide hi
    have HT := hide ht
    have HDC := hide hdc
    clear hi ht hdc
    go_wp2_with fail
    refine HFI.out.mono ?_
    rintro e W ⟨rfl, hbW⟩
    have hRW := HRV.out.below hbW HRV.out.lt
    have hOW := HOV.out.keep hbW
    have hGW : Gs (fun j => j = b) V W := Gs.of_below _ hbW
    have hQW := HQV.out.bel hbW
    have x0 : W.cell? ⟨w.heap.size, 0, none⟩ = some (.int .i64 st) := by simp [World.cell?, show W.heap[w.heap.size]? = _ from hQW]
    have x1 := hQW.c1
    have x2 := hQW.c2
    have x3 := hQW.c3
    have HRW := hide hRW
    have HOW := hide hOW
    have HGW := hide hGW
    have HSW : Hid (w.heap.size + 2 ≤ W.heap.size) := by rw [← HSV.out]; exact hbW.size
    clear HFI y0 y1 y2 y3 z1 z3 z5 hbW hRW hOW hGW hQW HRV HOV HQV
    by_cases hk1 : k = 1
    · subst hk1
      have HR1 : Hid (doR ⟨q, f, m, false, L⟩ 1 n d = ⟨pcode n d L q, ⟨#[]⟩, []⟩) := hide (by rw [doR]; simp [show ¬ 0 < f by have := HF1.out; omega])
      have HS1 : Hid (doS ⟨q, f, m, false, L⟩ 1 n d = ⟨q, f, m + 1, false, putL n d L q⟩) := hide (by rw [doS]; simp [show ¬ 0 < f by have := HF1.out; omega])
      have HC : Hid _ := hide (rput_any HRW.out HOW.out hl hL hs st 1 n d hn hd)
      go_wp2_with fail
      refine HC.out.mono ?_
      rintro e w1 ⟨rfl, hp1, hg1⟩
      generalize pcode n d L q = C at *
      obtain ⟨⟨⟨a1, a2⟩, ⟨a3, a4⟩, a5, a6⟩, ⟨c0, c1, c2⟩, hE⟩ := HEND.out w1 C ⟨#[]⟩ (.slice none 0 0) [] ⟨q, f, m + 1, false, putL n d L q⟩ (HGW.out.trans hg1) hp1 (TS.nil _ _) HR1.out HS1.out
      have HE := hide hE
      clear hE HEND
      go_wp2
      exact bodyPost_ret (v := .agg #[.int .i64 C, .string ⟨#[]⟩, (.slice none 0 0)]) (by simp [results, Tryz.results83, go_sem, c0, c1, c2]) rfl HE.out
    by_cases hk3 : k = 3
    · subst hk3
      have HR1 : Hid (doR ⟨q, f, m, false, L⟩ 3 n d = ⟨0, ⟨#[]⟩, namesL L n⟩) := hide (by rw [doR]; simp [show ¬ 0 < f by have := HF1.out; omega])
      have HS1 : Hid (doS ⟨q, f, m, false, L⟩ 3 n d = ⟨q, f, m + 1, false, L⟩) := hide (by rw [doS]; simp [show ¬ 0 < f by have := HF1.out; omega])
      have HC : Hid _ := hide (rnames_any n HRW.out HOW.out.ol (by omega))
      go_wp2_with fail
      refine HC.out.mono ?_
      rintro e w1 ⟨u, rfl, hT, hb1⟩
      have hT' : TS (w.heap.size + 2) u (namesL L n) w1 := by
        refine ⟨hT.own.1, ?_⟩
        rcases hT.own.2 with h2 | ⟨g, cap, cur, e, hB, r⟩
        · exact .inl h2
        · exact .inr ⟨g, cap, cur, e, Nat.le_trans HSW.out hB, r⟩
      obtain ⟨va, vc, rfl⟩ := hT.shp
      generalize hvl : (namesL L n).length = vl at *
      clear hvl hT
      obtain ⟨⟨⟨a1, a2⟩, ⟨a3, a4⟩, a5, a6⟩, ⟨c0, c1, c2⟩, hE⟩ := HEND.out w1 0 ⟨#[]⟩ (.slice va vl vc) (namesL L n) ⟨q, f, m + 1, false, L⟩ (HGW.out.trans (Gs.of_below _ hb1)) ⟨_, HRW.out.below hb1 HRW.out.lt, HOW.out.keep hb1⟩ hT' HR1.out HS1.out
      have HE := hide hE
      clear hE HEND
      go_wp2
      exact bodyPost_ret (v := .agg #[.int .i64 0, .string ⟨#[]⟩, (.slice va vl vc)]) (by simp [results, Tryz.results83, go_sem, c0, c1, c2]) rfl HE.out
    by_cases hk2 : k = 2
    · subst hk2
      have HR1 : Hid (doR ⟨q, f, m, false, L⟩ 2 n d = ⟨dcode n L, (thr L n).getD ⟨#[]⟩, []⟩) := hide (by rw [doR]; simp [show ¬ 0 < f by have := HF1.out; omega])
      have HS1 : Hid (doS ⟨q, f, m, false, L⟩ 2 n d = ⟨q, f, m + 1, false, L⟩) := hide (by rw [doS]; simp [show ¬ 0 < f by have := HF1.out; omega])
      cases t with
      | true =>
        obtain ⟨p, hp, hpd⟩ : ∃ p, L[i]? = some p ∧ thr L n = some p.d := by
          have h1 := HPT.out
          have h2 := HT.out
          cases hq : L[i]? with
          | none => rw [hq] at h1; rw [h1] at h2; cases h2
          | some p =>
            rw [hq] at h1
            dsimp only at h1
            by_cases e : p.n = n
            · rw [if_pos e] at h1; exact ⟨p, rfl, h1⟩
            · rw [if_neg e] at h1; rw [h1] at h2; cases h2
        have hil : i < L.length := (List.getElem?_eq_some_iff.1 hp).1
        obtain ⟨a, c, e4, h4⟩ := HOW.out.ol
        obtain ⟨g, o, rfl, hg, hC⟩ := h4.resolve_left (by intro e; rw [e] at hp; simp at hp)
        have c4 := HRW.out.cell4
        rw [e4] at c4
        have zd := (hC i p hp).2
        have HR2 : Hid (doR ⟨q, f, m, false, L⟩ 2 n d = ⟨0, p.d, []⟩) := by
          have h1 := HR1.out
          have h2 := HDC.out
          rw [h2, hpd] at h1
          exact h1
        generalize p.d = D at *
        have b1 : (i : Int) < (L.length : Int) := by omega
        have b0 : (0 : Int) ≤ (i : Int) := by omega
        clear hC hp hpd e4
        generalize L.length = N at *
        obtain ⟨⟨⟨a1, a2⟩, ⟨a3, a4⟩, a5, a6⟩, ⟨c0, c1, c2⟩, hE⟩ := HEND.out W 0 D (.slice none 0 0) [] ⟨q, f, m + 1, false, L⟩ HGW.out ⟨_, HRW.out, HOW.out⟩ (TS.nil _ _) HR2.out HS1.out
        have HE := hide hE
        clear hE HEND
        go_wp2
        exact bodyPost_ret (v := .agg #[.int .i64 0, .string D, (.slice none 0 0)]) (by simp [results, Tryz.results83, go_sem, c0, c1, c2]) rfl HE.out
      | false =>
        have HR2 : Hid (doR ⟨q, f, m, false, L⟩ 2 n d = ⟨5, ⟨#[]⟩, []⟩) := by
          have h1 := HR1.out
          have h2 := HDC.out
          have h3 := HT.out
          cases hq : thr L n with
          | some d => rw [hq] at h3; cases h3
          | none =>
            rw [h2, hq] at h1
            exact h1
        obtain ⟨⟨⟨a1, a2⟩, ⟨a3, a4⟩, a5, a6⟩, ⟨c0, c1, c2⟩, hE⟩ := HEND.out W 5 ⟨#[]⟩ (.slice none 0 0) [] ⟨q, f, m + 1, false, L⟩ HGW.out ⟨_, HRW.out, HOW.out⟩ (TS.nil _ _) HR2.out HS1.out
        have HE := hide hE
        clear hE HEND
        go_wp2
        exact bodyPost_ret (v := .agg #[.int .i64 5, .string ⟨#[]⟩, (.slice none 0 0)]) (by simp [results, Tryz.results83, go_sem, c0, c1, c2]) rfl HE.out
    by_cases hk4 : k = 4
    · subst hk4
      have HR1 : Hid (doR ⟨q, f, m, false, L⟩ 4 n d = ⟨dcode n L, ⟨#[]⟩, []⟩) := hide (by rw [doR]; simp [show ¬ 0 < f by have := HF1.out; omega])
      have HS1 : Hid (doS ⟨q, f, m, false, L⟩ 4 n d = ⟨q, f, m + 1, false, delL L n⟩) := hide (by rw [doS]; simp [show ¬ 0 < f by have := HF1.out; omega])
      cases t with
      | true =>
        have hil : i < L.length := by
          have h1 := HPT.out
          cases hq : L[i]? with
          | none => rw [hq] at h1; have h2 := HT.out; rw [h1] at h2; cases h2
          | some p => exact (List.getElem?_eq_some_iff.1 hq).1
        have HDT : Hid (delL L n = L.take i ++ L.drop (i + 1)) := by rw [HI.out]; exact del_take hL HT.out.symm
        have HR2 : Hid (doR ⟨q, f, m, false, L⟩ 4 n d = ⟨0, ⟨#[]⟩, []⟩) := by
          have h1 := HR1.out
          have h2 := HDC.out
          rw [h2] at h1
          exact h1
        have HRM : Hid _ := hide (rremove_any HRW.out HOW.out (by omega) i hil)
        go_wp2_with fail
        refine HRM.out.mono ?_
        rintro e w1 ⟨rfl, v1, h1, h2, h3⟩
        have hp1 : RD w1 b ⟨q, f, m + 1, false, delL L n⟩ := ⟨v1, h1, by rw [HDT.out]; exact h2⟩
        clear h1 h2 HRM
        obtain ⟨⟨⟨a1, a2⟩, ⟨a3, a4⟩, a5, a6⟩, ⟨c0, c1, c2⟩, hE⟩ := HEND.out w1 0 ⟨#[]⟩ (.slice none 0 0) [] ⟨q, f, m + 1, false, delL L n⟩ (HGW.out.trans h3) hp1 (TS.nil _ _) HR2.out HS1.out
        have HE := hide hE
        clear hE HEND
        go_wp2
        exact bodyPost_ret (v := .agg #[.int .i64 0, .string ⟨#[]⟩, (.slice none 0 0)]) (by simp [results, Tryz.results83, go_sem, c0, c1, c2]) rfl HE.out
      | false =>
        have hth : thr L n = none := by
          have h3 := HT.out
          cases hq : thr L n with
          | some d => rw [hq] at h3; cases h3
          | none => rfl
        have HR2 : Hid (doR ⟨q, f, m, false, L⟩ 4 n d = ⟨5, ⟨#[]⟩, []⟩) := by
          have h1 := HR1.out
          have h2 := HDC.out
          rw [h2] at h1
          exact h1
        have HS2 : Hid (doS ⟨q, f, m, false, L⟩ 4 n d = ⟨q, f, m + 1, false, L⟩) := by
          have h1 := HS1.out
          rw [del_none hth] at h1
          exact h1
        clear hth
        obtain ⟨⟨⟨a1, a2⟩, ⟨a3, a4⟩, a5, a6⟩, ⟨c0, c1, c2⟩, hE⟩ := HEND.out W 5 ⟨#[]⟩ (.slice none 0 0) [] ⟨q, f, m + 1, false, L⟩ HGW.out ⟨_, HRW.out, HOW.out⟩ (TS.nil _ _) HR2.out HS2.out
        have HE := hide hE
        clear hE HEND
        go_wp2
        exact bodyPost_ret (v := .agg #[.int .i64 5, .string ⟨#[]⟩, (.slice none 0 0)]) (by simp [results, Tryz.results83, go_sem, c0, c1, c2]) rfl HE.out
    · have HR1 : Hid (doR ⟨q, f, m, false, L⟩ k n d = ⟨3, ⟨#[]⟩, []⟩) := hide (by rw [doR]; simp [show ¬ 0 < f by have := HF1.out; omega, hk1, hk2, hk3, hk4])
      have HS1 : Hid (doS ⟨q, f, m, false, L⟩ k n d = ⟨q, f, m + 1, false, L⟩) := hide (by rw [doS]; simp [show ¬ 0 < f by have := HF1.out; omega, hk1, hk4])
      obtain ⟨⟨⟨a1, a2⟩, ⟨a3, a4⟩, a5, a6⟩, ⟨c0, c1, c2⟩, hE⟩ := HEND.out W 3 ⟨#[]⟩ (.slice none 0 0) [] ⟨q, f, m + 1, false, L⟩ HGW.out ⟨_, HRW.out, HOW.out⟩ (TS.nil _ _) HR1.out HS1.out
      have HE := hide hE
      clear hE HEND
      go_wp2
      exact bodyPost_ret (v := .agg #[.int .i64 3, .string ⟨#[]⟩, (.slice none 0 0)]) (by simp [results, Tryz.results83, go_sem, c0, c1, c2]) rfl HE.out
end
end Go.Proofs.YtiecoplfiahpnaaGreat

namespace Go.Proofs.YtiecoplfiahpnaaGreat
open Go.RowKit Go.Lib

def amg (x : Int) (n : Nat) : Nat := ((x.tmod n + n).tmod n).toNat
theorem amg_spec (x : Int) (n : Nat) (hn : 0 < n) : (x.tmod n + n).tmod n = (amg x n : Int) ∧ amg x n < n ∧ 0 ≤ x.tmod n + n ∧ x.tmod n + n < 2 * n := by
  have hp : (0 : Int) < n := by omega
  have h2 : -(n : Int) < x.tmod n ∧ x.tmod n < n := by
    rcases Int.le_total 0 x with h | h
    · have a := Int.tmod_nonneg (n : Int) h
      have b := Int.tmod_lt_of_pos x hp
      omega
    · have a := Int.tmod_nonneg (n : Int) (show 0 ≤ -x by omega)
      have b := Int.tmod_lt_of_pos (-x) hp
      rw [Int.neg_tmod] at a b
      omega
  have h3 : 0 ≤ x.tmod n + n := by omega
  have h4 : 0 ≤ (x.tmod n + n).tmod n := Int.tmod_nonneg _ h3
  have h5 := Int.tmod_lt_of_pos (x.tmod n + n) (show (0 : Int) < n by omega)
  refine ⟨by rw [amg]; omega, by rw [amg]; omega, h3, by omega⟩
set_option maxRecDepth 100000 in
theorem among_any (w : World) (x : Int) (n : Nat) (hn : 0 < n) (hn2 : n < 100000) : Calls Tryz.prog 8 #[.int .i64 x, .int .i64 n] w fun e w' => e = .returned (.int .i64 ((amg x n : Nat) : Int)) ∧ w' = w := by
  obtain ⟨h1, h2, h3, h4⟩ := amg_spec x n hn
  have hb := IntKind.i64.wrap
  generalize amg x n = r at *
  have h0 : ((n : Int) == 0) = false := by simp; omega
  have h0' : ¬ ((n : Int) = 0) := by omega
  have hm1 : ¬ ((n : Int) = -1) := by omega
  obtain ⟨y, hy⟩ : ∃ y, y = x.tmod n := ⟨_, rfl⟩
  rw [← hy] at h1 h3 h4
  have hy' := hy.symm
  clear hy hb
  go_enter Tryz.func8, Tryz.ntmps8
  go_wp2
  go_ret
  exact ⟨rfl, rfl⟩
end Go.Proofs.YtiecoplfiahpnaaGreat

namespace Go.Proofs.YtiecoplfiahpnaaGreat
open Go.RowKit Go.Lib Go.Maps

section
variable {w : World} {b mb : Nat} {q f : Int} {dn : Bool} {cl : Int} {L : List OB}
theorem PS.five (h : PS w b mb q f dn cl L) : w.cell? ⟨b, 0, none⟩ = some (.map (some mb)) ∧ w.cell? ⟨b, 1, none⟩ = some (.int .i64 ((usedL L : Nat) : Int)) ∧ w.cell? ⟨b, 2, none⟩ = some (.int .i64 q) ∧ w.cell? ⟨b, 3, none⟩ = some (.int .i64 f) ∧ w.cell? ⟨b, 4, none⟩ = some (.bool dn) := ⟨h.cell0, h.cell1, h.cell2, h.cell3, h.cell4⟩

end
end Go.Proofs.YtiecoplfiahpnaaGreat

namespace Go.Proofs.YtiecoplfiahpnaaGreat
open Go.RowKit Go.Lib

set_option maxRecDepth 100000 in
set_option maxHeartbeats 800000 in
theorem spoil_any {w : World} {B : Nat} {v : Value} {l : List ByteArray} (h : TS B v l w) (hl : l.length ≤ 1000000000) :
    Calls Tryz.prog 34 #[v] w fun e w' => e = .returned (.tuple #[]) ∧ Gs (fun i => v.ownBlock = some i) w w' := by
  obtain ⟨h1, ⟨rfl, h2⟩ | ⟨g, cap, cur, rfl, hB, hg, hn, hcc, hs, ht⟩⟩ := h.own
  · go_enter Tryz.func34, Tryz.ntmps34
    go_wp2
    go_loopw [2] (fun i wr => i = .int .i64 0 ∧ wr = w) (fun _ _ => 0)
    case atStart => exact ⟨rfl, rfl⟩
    case round =>
      obtain ⟨rfl, rfl⟩ := hrel
      go_wp2
      go_end0
      exact ⟨rfl, Gs.refl _ _⟩
  · obtain ⟨N, hN⟩ : ∃ N, N = l.length := ⟨_, rfl⟩
    rw [← hN] at hn hl ⊢
    have hcs : N ≤ cur.size := by
      have := congrArg List.length ht
      simp [tc] at this
      omega
    have HG := hide hg
    clear h h1 hg ht hs hcc hn hN
    go_enter Tryz.func34, Tryz.ntmps34
    go_wp2
    go_loopw [2] (fun i wr => ∃ (j : Nat) (cu : Array Value), j ≤ N ∧ i = .int .i64 j ∧ wr.heap[g]? = some (.cells cu 9 (0, 0)) ∧ N ≤ cu.size ∧ Gs (fun i => (Value.slice (some ⟨g, 0, none⟩) N cap).ownBlock = some i) w wr) (fun i _ => N - (intOf i).toNat)
    case atStart => exact ⟨0, cur, Nat.zero_le _, rfl, HG.out, hcs, Gs.refl _ _⟩
    case round =>
      obtain ⟨j, cu, hj, rfl, hgr, hcu, hG⟩ := hrel
      by_cases hlt : j < N
      · have b1 : (j : Int) < (N : Int) := by omega
        have b0 : (0 : Int) ≤ (j : Int) := by omega
        have y1 : wr.cell? ⟨g, j, none⟩ = some (cu[j]'(by omega)) := by simp [World.cell?, hgr]
        have z1 : wr.frozen? ⟨g, j, none⟩ = false := by simp [World.frozen?, hgr]
        have HE : Hid ((wr.setCell ⟨g, j, none⟩ (.string ⟨#[115, 112, 111, 105, 108, 116]⟩)).heap[g]? = some (.cells (cu.setIfInBounds j (.string ⟨#[115, 112, 111, 105, 108, 116]⟩)) 9 (0, 0)) ∧ Gs (fun i => (Value.slice (some ⟨g, 0, none⟩) N cap).ownBlock = some i) w (wr.setCell ⟨g, j, none⟩ (.string ⟨#[115, 112, 111, 105, 108, 116]⟩))) :=
          ⟨heap_set_self hgr, hG.set (a := ⟨g, j, none⟩) (.inl rfl) _⟩
        clear hgr hG
        generalize cu[j]'(by omega) = uu at *
        go_wp2
        exact ⟨⟨j + 1, _, by omega, by go_num, HE.out.1, by simpa using hcu, HE.out.2⟩, by simp [intOf]; omega⟩
      · obtain rfl : j = N := by omega
        have HE := hide hG
        clear hG hgr
        go_wp2
        go_end0
        exact ⟨rfl, HE.out⟩

/-! ### both stores, side by side -/
section
variable {w w' : World} {b mb rb : Nat} {s s' : SS}
theorem RD.gs {p : Nat → Prop} (h : RD w rb s) (hg : Gs p w w') (h1 : ¬ p rb) (h2 : ∀ i cs fr, w.heap[i]? = some (.cells cs 93 fr) → ¬ p i) : RD w' rb s := by
  obtain ⟨v, hR, hO⟩ := h
  refine ⟨v, hR.gs hg h1, hO.gs hg fun i hi => ?_⟩
  obtain ⟨_, ⟨rfl, _⟩ | ⟨g', cap, cur, rfl, _, hb, _⟩⟩ := hO.own
  · simp [Value.ownBlock] at hi
  · simp only [Value.ownBlock, Option.some.injEq] at hi
    subst hi
    exact h2 _ _ _ hb
theorem RD.blk (h : RD w rb s) : ∃ cs, w.heap[rb]? = some (.cells cs 45 (0, 0)) := by obtain ⟨_, h, _⟩ := h; exact ⟨_, h⟩
/-- What the program's store does leaves the document's. -/
theorem RD.prog (h : RD w rb s) (hP : PX w b mb s') (hg : Gs (two b mb) w w') : RD w' rb s := by
  obtain ⟨cs, hr⟩ := h.blk
  have hP' : PS w b mb s'.q s'.f s'.off s'.m s'.L := hP
  refine h.gs hg ?_ fun i cs' fr hi => ?_
  · rintro (e | e)
    · rw [e, hP'.blk] at hr; simp at hr
    · rw [e] at hr; exact hP'.map.notCells hr
  · rintro (e | e)
    · rw [e, hP'.blk] at hi; simp at hi
    · rw [e] at hi; exact hP'.map.notCells hi
/-- What the document's store does leaves the program's. -/
theorem PX.doc (h : PX w b mb s) (hR : RD w rb s') (hg : Gs (fun j => j = rb) w w') : PX w' b mb s := by
  have h' : PS w b mb s.q s.f s.off s.m s.L := h
  obtain ⟨cs, hr⟩ := hR.blk
  refine h'.gs hg ?_ ?_
  · intro e
    rw [← e, h'.blk] at hr; simp at hr
  · intro e
    rw [← e] at hr; exact h'.map.notCells hr
theorem RD.bel (h : RD w rb s) (hb : Below w.heap.size w w') : RD w' rb s := by
  obtain ⟨v, h1, h2⟩ := h
  exact ⟨v, h1.below hb h1.lt, h2.keep hb⟩
theorem PX.bel (h : PX w b mb s) (hb : Below w.heap.size w w') : PX w' b mb s := PS.bel h hb
end
end Go.Proofs.YtiecoplfiahpnaaGreat

namespace Go.Proofs.YtiecoplfiahpnaaGreat
open Go.RowKit Go.Lib Go.Maps

/-- A list of texts as a source. -/
def TV (w : World) (v : Value) (m : List ByteArray) : Prop :=
  (v = .slice none 0 0 ∧ m = []) ∨ ∃ a c, v = .slice (some a) m.length c ∧ ∀ i x, m[i]? = some x → a.block < w.heap.size ∧ w.cell? (a.add i) = some (.string x)
section
variable {B : Nat} {v vs : Value} {l m : List ByteArray} {w w' : World}
theorem TV.bel (h : TV w v m) (hb : Below w.heap.size w w') : TV w' v m := by
  rcases h with h | ⟨a, c, e, h⟩
  · exact .inl h
  · refine .inr ⟨a, c, e, fun i x hx => ?_⟩
    obtain ⟨h1, h2⟩ := h i x hx
    exact ⟨Nat.lt_of_lt_of_le h1 hb.size, (hb.cell (p := a.add i) (by rw [show (a.add i).block = a.block from by unfold Addr.add; split <;> rfl]; exact h1)).trans h2⟩
theorem TS.app2 (h : TS B v l w) (hS : TV w vs m) (hb : (l.length + m.length) * 16 ≤ 140737488355328) (hB : B ≤ w.heap.size) :
    ∃ v' w', (Builtin.append_ #[33, 33] 33 #[v, vs]).run Tryz.prog w = .ok v' w' ∧ TS B v' (l ++ m) w' ∧ w.grownBy w' v.ownBlock ∧ (v'.ownBlock = v.ownBlock ∨ v'.ownBlock = some w.heap.size) := by
  obtain ⟨i0, hi, hz0, hz1, hz2⟩ := info_parts Tryz.infoTx
  rcases hS with ⟨rfl, rfl⟩ | ⟨a, c, rfl, hC⟩
  · exact ⟨v, w, run_append_owned_none (P := Tryz.prog) (w := w) B _ _ _ i0 1 Tryz.underlying33 hi v l.length (tc l) h.own, by rw [List.append_nil]; exact h, World.grownBy.refl _ _, .inl rfl⟩
  · obtain ⟨v', w', h1, h2, h3, _, h5⟩ := run_append_own_at (P := Tryz.prog) w B 33 33 9 i0 (.string ⟨#[]⟩) 1 16 Tryz.underlying33 hi hz0 hz1 hz2 rfl (by decide) v l.length (tc l) h.own a m.length c (tc m) (by simp [tc]) (fun j u hj => by
      rw [tc, List.getElem?_map] at hj
      obtain ⟨x, hx, rfl⟩ := Option.map_eq_some_iff.1 hj
      exact (hC j x hx).2) (fun u hu => by obtain ⟨x, _, rfl⟩ := List.mem_map.1 hu; rfl) (by unfold maxLen; omega) hb hB
    exact ⟨v', w', h1, ⟨by rw [List.length_append, tc, List.map_append]; exact h2⟩, h3, h5⟩
end

theorem TS.low {B B' : Nat} {v : Value} {l : List ByteArray} {w : World} (h : TS B v l w) (hB : B' ≤ B) : TS B' v l w := by
  refine ⟨h.own.1, ?_⟩
  rcases h.own.2 with h2 | ⟨g, cap, cur, e, hg, r⟩
  · exact .inl h2
  · exact .inr ⟨g, cap, cur, e, Nat.le_trans hB hg, r⟩

/-- Pointers to blocks, in a list. -/
def RP (w : World) (v : Value) (bs : List Nat) : Prop :=
  ∃ a c, v = .slice a bs.length c ∧ (bs = [] ∨ ∃ g o, a = some ⟨g, o, none⟩ ∧ g < w.heap.size ∧ ∀ i b, bs[i]? = some b → w.cell? ⟨g, o + i, none⟩ = some (.pointer (some ⟨b, 0, none⟩)))
end Go.Proofs.YtiecoplfiahpnaaGreat

namespace Go.Proofs.YtiecoplfiahpnaaGreat
open Go.RowKit Go.Lib Go.Maps
theorem Tryz.infoQ : (Tryz.prog.info? 65).map (fun i => (i.zero, i.size, i.bytes)) = some (some (.agg #[.int .i64 0, .int .i64 0, .string ⟨#[]⟩, .string ⟨#[]⟩]), 4, 48) := by kernel_rfl
theorem sl_eq {T e : TypeId} (hu : Tryz.prog.underlying T = some (.slice e)) (w : World) (a : Addr) (n c : Nat) : (binOp .eql T (.slice (some a) n c) (.slice none 0 0)).run Tryz.prog w = .ok (.bool false) w := by
  simp [binOp, run_equal_slice_nil (P := Tryz.prog) w T e (some a) n c hu]
theorem sl_nil {T e : TypeId} (hu : Tryz.prog.underlying T = some (.slice e)) (w : World) : (binOp .eql T (.slice none 0 0) (.slice none 0 0)).run Tryz.prog w = .ok (.bool true) w := by
  simp [binOp, run_equal_slice_nil (P := Tryz.prog) w T e none 0 0 hu]
def t1 (x : ByteArray) : List Value := [.string x]
theorem t1_len (x : ByteArray) : (t1 x).length = 1 := rfl
theorem t1_one (x : ByteArray) : ∀ u ∈ t1 x, u.oneCell' = true := by intro u hu; simp [t1] at hu; subst hu; rfl
theorem tc_flat : ∀ l : List ByteArray, l.flatMap t1 = tc l
  | [] => rfl
  | x :: r => by rw [List.flatMap_cons, tc_flat r]; rfl
section
variable {w w' : World} {v : Value} {l : List ByteArray} {B : Nat} {r : Nat → Prop}
theorem OW.ts (h : OW t1 1 9 B v l w) : TS B v l w := ⟨by rw [← tc_flat]; exact h.own⟩
theorem TS.ow (h : TS B v l w) : OW t1 1 9 B v l w := ⟨by rw [tc_flat]; exact h.own⟩
theorem TS.ls (h : TS B v l w) (hr : ∀ i, v.ownBlock = some i → r i) : LS t1 1 r w v l := h.ow.ls t1_len hr
theorem LS.tr (h : LS t1 1 r w v l) : TR w v l := by
  obtain ⟨a, c, e, _, h | ⟨g, o, ea, _, hg, hG⟩⟩ := h
  · exact ⟨a, c, e, .inl h⟩
  · refine ⟨a, c, e, .inr ⟨g, o, ea, hg, fun i x hx => ?_⟩⟩
    have := hG i x hx 0 (.string x) rfl
    rw [Nat.mul_one, Nat.add_zero] at this
    exact this
end
section
variable {w w' : World} {v : Value} {r : Nat → Prop}
set_option maxRecDepth 100000 in
set_option maxHeartbeats 1600000 in
theorem cloneQ {l : List QT} (hl : LS q4 4 r w v l) (hn : l.length ≤ 1000000) :
    Calls Tryz.prog 120 #[v] w fun e w' => ∃ v', e = .returned v' ∧ OW q4 4 65 w.heap.size v' l w' ∧ Below w.heap.size w w' := by
  obtain ⟨a, c, rfl, h1, h2⟩ := hl
  rcases a with _ | a
  · have hl0 : l = [] := by
      rcases h2 with h | ⟨_, _, h, _⟩
      · exact h
      · cases h
    have := h1 rfl
    subst this
    subst hl0
    have hO := OW.nil q4 4 65 w.heap.size w
    clear h1 h2
    have k1 := sl_eq Tryz.underlying126
    have k0 := sl_nil Tryz.underlying126
    go_enter Tryz.func120, Tryz.ntmps120
    go_wp2
    go_ret
    exact ⟨_, rfl, hO, Below.refl _ _⟩
  · have hS : LS q4 4 r w (.slice (some a) l.length c) l := ⟨_, _, rfl, h1, h2⟩
    have hal : Below w.heap.size w (w.alloc (.cells #[] 65)) := (Below.refl _ _).alloc (Nat.le_refl _) _
    obtain ⟨v', w', hr, hO, hg, _⟩ := OW.app (ST := 126) q4_len (by decide) (fun x _ => q4_one x) Tryz.underlying126 Tryz.infoQ rfl (OW.empty q4 4 65 (Nat.le_refl w.heap.size)) (hS.bel hal) (by simp; omega) (by simp; omega) (by simp)
    have HO : Hid (OW q4 4 65 w.heap.size v' l w' ∧ Below w.heap.size w w') := ⟨hO, hal.grown hg (by simp) (fun k hk => by simp [Value.ownBlock] at hk; omega)⟩
    generalize l.length = n at *
    clear h1 h2 hS hO hg hal
    have k1 := sl_eq Tryz.underlying126
    have k0 := sl_nil Tryz.underlying126
    go_enter Tryz.func120, Tryz.ntmps120
    go_wp2_with (at_builtin; refine Lib.wpList_append_run _ rfl _ _ _ _ rfl _ _ rfl rfl _ _ hr ?_)
    go_ret
    exact ⟨_, rfl, HO.out⟩
set_option maxRecDepth 100000 in
set_option maxHeartbeats 1600000 in
theorem cloneT {l : List ByteArray} (hl : LS t1 1 r w v l) (hn : l.length ≤ 1000000000000) :
    Calls Tryz.prog 92 #[v] w fun e w' => ∃ v', e = .returned v' ∧ TS w.heap.size v' l w' ∧ Below w.heap.size w w' := by
  obtain ⟨a, c, rfl, h1, h2⟩ := hl
  rcases a with _ | a
  · have hl0 : l = [] := by
      rcases h2 with h | ⟨_, _, h, _⟩
      · exact h
      · cases h
    have := h1 rfl
    subst this
    subst hl0
    have hO := TS.nil w.heap.size w
    clear h1 h2
    have k1 := sl_eq Tryz.underlying33
    have k0 := sl_nil Tryz.underlying33
    go_enter Tryz.func92, Tryz.ntmps92
    go_wp2
    go_ret
    exact ⟨_, rfl, hO, Below.refl _ _⟩
  · have hS : LS t1 1 r w (.slice (some a) l.length c) l := ⟨_, _, rfl, h1, h2⟩
    have hal : Below w.heap.size w (w.alloc (.cells #[] 9)) := (Below.refl _ _).alloc (Nat.le_refl _) _
    obtain ⟨v', w', hr, hO, hg, _⟩ := OW.app (ST := 33) t1_len (by decide) (fun x _ => t1_one x) Tryz.underlying33 Tryz.infoTx rfl (OW.empty t1 1 9 (Nat.le_refl w.heap.size)) (hS.bel hal) (by simp; omega) (by simp; omega) (by simp)
    have HO : Hid (TS w.heap.size v' l w' ∧ Below w.heap.size w w') := ⟨hO.ts, hal.grown hg (by simp) (fun k hk => by simp [Value.ownBlock] at hk; omega)⟩
    generalize l.length = n at *
    clear h1 h2 hS hO hg hal
    have k1 := sl_eq Tryz.underlying33
    have k0 := sl_nil Tryz.underlying33
    go_enter Tryz.func92, Tryz.ntmps92
    go_wp2_with (at_builtin; refine Lib.wpList_append_run _ rfl _ _ _ _ rfl _ _ rfl rfl _ _ hr ?_)
    go_ret
    exact ⟨_, rfl, HO.out⟩
set_option maxRecDepth 100000 in
theorem cloneE : Calls Tryz.prog 94 #[.slice none 0 0] w fun e w' => e = .returned (.slice none 0 0) ∧ w' = w := by
  have k1 := sl_eq Tryz.underlying53
  have k0 := sl_nil Tryz.underlying53
  go_enter Tryz.func94, Tryz.ntmps94
  go_wp2
  go_ret
  exact ⟨rfl, rfl⟩
set_option maxRecDepth 100000 in
theorem cloneS : Calls Tryz.prog 95 #[.slice none 0 0] w fun e w' => e = .returned (.slice none 0 0) ∧ w' = w := by
  have k1 := sl_eq Tryz.underlying54
  have k0 := sl_nil Tryz.underlying54
  go_enter Tryz.func95, Tryz.ntmps95
  go_wp2
  go_ret
  exact ⟨rfl, rfl⟩
end
end Go.Proofs.YtiecoplfiahpnaaGreat

namespace Go.Proofs.YtiecoplfiahpnaaGreat
open Go.RowKit Go.Lib Go.Maps
theorem Tryz.sizeTs : (Tryz.prog.info? 33).map (·.size) = some 1 := by kernel_rfl
theorem Tryz.sizeR : (Tryz.prog.info? 56).map (·.size) = some 7 := by kernel_rfl
/-- A result at a block. -/
def R7 (w : World) (X : Nat) (c N : Int) (ids tx : Value) : Prop := w.heap[X]? = some (.cells #[.int .i64 c, .string ⟨#[]⟩, .int .i64 N, ids, tx, .slice none 0 0, .slice none 0 0] 56 (0, 0))
section
variable {w w' : World} {X b : Nat} {c N s st k : Int} {ids tx go : Value} {n d : ByteArray} {r : Nat → Prop} {I T : List ByteArray}
theorem R7.lt (h : R7 w X c N ids tx) : X < w.heap.size := lt_of_block h
theorem R7.cell (h : R7 w X c N ids tx) (j : Nat) : w.cell? ⟨X, j, none⟩ = (#[.int .i64 c, .string ⟨#[]⟩, .int .i64 N, ids, tx, .slice none 0 0, .slice none 0 0] : Array Value)[j]? := by
  rw [World.cell?]; simp only [show w.heap[X]? = _ from h]; rfl
theorem R7.free (h : R7 w X c N ids tx) (j : Nat) : w.frozen? ⟨X, j, none⟩ = false := by simp [World.frozen?, show w.heap[X]? = _ from h]
theorem R7.bel (h : R7 w X c N ids tx) (hb : Below w.heap.size w w') : R7 w' X c N ids tx := (hb.block X h.lt).trans h
theorem R7.gs {p : Nat → Prop} (h : R7 w X c N ids tx) (hb : Gs p w w') (hp : ¬ p X) : R7 w' X c N ids tx := (hb.block X h.lt hp).trans h
theorem TS.set {B j g : Nat} {u v : Value} {l : List ByteArray} (h : TS B v l w) (hg : ∀ i, v.ownBlock = some i → i ≠ g) : TS B v l (w.setCell ⟨g, j, none⟩ u) :=
  h.kb fun i hi => heap_setCell_other w ⟨g, j, none⟩ i u (hg i hi)

set_option maxRecDepth 100000 in
set_option maxHeartbeats 3200000 in
theorem anew_any (hI : LS t1 1 r w ids I) (hT : LS t1 1 r w tx T) (hIl : I.length ≤ 1000000000000) (hTl : T.length ≤ 1000000000000) :
    Calls Tryz.prog 78 #[.agg #[.int .i64 c, .string ⟨#[]⟩, .int .i64 N, ids, tx, .slice none 0 0, .slice none 0 0]] w fun e w' => ∃ ids' tx', e = .returned (.agg #[.int .i64 c, .string ⟨#[]⟩, .int .i64 N, ids', tx', .slice none 0 0, .slice none 0 0]) ∧ TS w.heap.size ids' I w' ∧ TS w.heap.size tx' T w' ∧ Below w.heap.size w w' := by
  obtain ⟨U, hU⟩ : ∃ U, U = (w.alloc (.cells #[.int .i64 c, .string ⟨#[]⟩, .int .i64 N, ids, tx, .slice none 0 0, .slice none 0 0] 56)).alloc (.cells #[.int .i64 0, .string ⟨#[]⟩, .int .i64 0, .slice none 0 0, .slice none 0 0, .slice none 0 0, .slice none 0 0] 56) := ⟨_, rfl⟩
  obtain ⟨X, hX⟩ : ∃ X, X = w.heap.size := ⟨_, rfl⟩
  have hBU : Below w.heap.size w U := by rw [hU]; exact ((Below.refl _ _).alloc (Nat.le_refl _) _).alloc (by simp) _
  have hR : R7 U X c N ids tx := by rw [hU, hX]; unfold R7; rw [Below.heap_alloc _ _ _ (by simp)]; exact heap_alloc_new w _
  have hZ : R7 U (X + 1) 0 0 (.slice none 0 0) (.slice none 0 0) := by
    rw [hU, hX]
    have := heap_alloc_new (w.alloc (.cells #[.int .i64 c, .string ⟨#[]⟩, .int .i64 N, ids, tx, .slice none 0 0, .slice none 0 0] 56)) (.cells #[.int .i64 0, .string ⟨#[]⟩, .int .i64 0, .slice none 0 0, .slice none 0 0, .slice none 0 0, .slice none 0 0] 56 (0, 0))
    simpa [R7] using this
  have hszU : U.heap.size = X + 2 := by rw [hU, hX]; simp
  have HU := hide hU
  have HX := hide hX
  have HB := hide hBU
  have y3 : U.cell? ⟨X, 3, none⟩ = some ids := hR.cell 3
  have HC1 := hide (cloneT (hI.bel hBU) hIl)
  have HT := hide (hT.old.bel hBU)
  have HR := hide hR
  have HZ := hide hZ
  have HS := hide hszU
  clear hI hT hBU hR hZ hU hX hszU
  go_enter Tryz.func78, Tryz.ntmps78
  go_upto_region 1 with fail
  rw [← HU.out, ← HX.out]
  go_wp2_with fail
  refine HC1.out.mono ?_
  rintro e w1 ⟨ids', rfl, hT1, hB1⟩
  have hR1 := HR.out.bel hB1
  have hZ1 := HZ.out.bel hB1
  have f3 := hR1.free 3
  have x3 : w1.cell? ⟨X, 3, none⟩ = some ids := hR1.cell 3
  have hR2 : R7 (w1.setCell ⟨X, 3, none⟩ ids') X c N ids' tx := heap_set_self hR1
  have x4 : (w1.setCell ⟨X, 3, none⟩ ids').cell? ⟨X, 4, none⟩ = some tx := hR2.cell 4
  obtain ⟨V, hV⟩ : ∃ V, V = w1.setCell ⟨X, 3, none⟩ ids' := ⟨_, rfl⟩
  have hsz := HS.out
  have hGV : Gs (fun i => i = X) U V := by rw [hV]; exact ((Gs.refl _ _).bel hB1).set1 _ _
  have hTV : TS U.heap.size ids' I V := by rw [hV]; exact hT1.set fun i hi => by have := (hT1.lt i hi).1; omega
  have hZV : R7 V (X + 1) 0 0 (.slice none 0 0) (.slice none 0 0) := HZ.out.gs hGV (by omega)
  have hs1 := store1_run (t := 33) hR1 (j := 3) (v := ids') (Nat.le_of_ble_eq_true rfl) Tryz.sizeTs (by obtain ⟨a, c, e⟩ := hT1.shp; exact ⟨a, _, c, e⟩)
  rw [← hV] at hR2 x4 hs1
  have HC2 := hide (cloneT (HT.out.gs hGV (fun i hi e => by have := hi.2; have := HX.out; omega)) hTl)
  have HF1 := hide (And.intro hGV (And.intro hTV (And.intro hZV hR2)))
  clear hGV hTV hZV hR2 hR1 hZ1 hB1 hT1 HC1 hsz
  clear hV
  go_wp2_with (refine wpList_store_run rfl 33 _ _ rfl _ _ rfl rfl hs1 ?_)
  refine HC2.out.mono ?_
  rintro e w2 ⟨tx', rfl, hT2, hB2⟩
  obtain ⟨hGV, hTV, hZV, hR2⟩ := HF1.out
  have hsz := HS.out
  have hR3 := hR2.bel hB2
  have f4 := hR3.free 4
  have x5 : w2.cell? ⟨X, 4, none⟩ = some tx := hR3.cell 4
  have hR4 : R7 (w2.setCell ⟨X, 4, none⟩ tx') X c N ids' tx' := heap_set_self hR3
  obtain ⟨V2, hV2⟩ : ∃ V2, V2 = w2.setCell ⟨X, 4, none⟩ tx' := ⟨_, rfl⟩
  have hVs := hGV.size
  have hG4 : Gs (fun i => i = X) U V2 := by rw [hV2]; exact (hGV.bel hB2).set1 _ _
  have hT4 : TS U.heap.size ids' I V2 := by rw [hV2]; exact (hTV.keep hB2).set fun i hi => by have := (hTV.lt i hi).1; omega
  have hT5 : TS U.heap.size tx' T V2 := by rw [hV2]; exact (hT2.low hVs).set fun i hi => by have := (hT2.lt i hi).1; omega
  have hZ4 : R7 V2 (X + 1) 0 0 (.slice none 0 0) (.slice none 0 0) := HZ.out.gs hG4 (by omega)
  have hs2 := store1_run (t := 33) hR3 (j := 4) (v := tx') (Nat.le_of_ble_eq_true rfl) Tryz.sizeTs (by obtain ⟨a, c, e⟩ := hT2.shp; exact ⟨a, _, c, e⟩)
  rw [← hV2] at hR4 hs2
  have e5 : V2.cell? ⟨X, 5, none⟩ = some (.slice none 0 0) := hR4.cell 5
  have e5f := hR4.free 5
  have hR5 : R7 (V2.setCell ⟨X, 5, none⟩ (.slice none 0 0)) X c N ids' tx' := heap_set_self hR4
  have e6 : (V2.setCell ⟨X, 5, none⟩ (.slice none 0 0)).cell? ⟨X, 6, none⟩ = some (.slice none 0 0) := hR5.cell 6
  have e6f := hR5.free 6
  have hR6 : R7 ((V2.setCell ⟨X, 5, none⟩ (.slice none 0 0)).setCell ⟨X, 6, none⟩ (.slice none 0 0)) X c N ids' tx' := heap_set_self hR5
  obtain ⟨V4, hV4⟩ : ∃ V4, V4 = (V2.setCell ⟨X, 5, none⟩ (.slice none 0 0)).setCell ⟨X, 6, none⟩ (.slice none 0 0) := ⟨_, rfl⟩
  rw [← hV4] at hR6
  have hG6 : Gs (fun i => i = X) U V4 := by rw [hV4]; exact (hG4.set1 _ _).set1 _ _
  have hT6 : TS U.heap.size ids' I V4 := by rw [hV4]; exact (hT4.set fun i hi => by have := (hT4.lt i hi).1; omega).set fun i hi => by have := (hT4.lt i hi).1; omega
  have hT7 : TS U.heap.size tx' T V4 := by rw [hV4]; exact (hT5.set fun i hi => by have := (hT5.lt i hi).1; omega).set fun i hi => by have := (hT5.lt i hi).1; omega
  have hZ6 : R7 V4 (X + 1) 0 0 (.slice none 0 0) (.slice none 0 0) := HZ.out.gs hG6 (by omega)
  have c0 : V4.cell? ⟨X, 0, none⟩ = some (.int .i64 c) := hR6.cell 0
  have c1 : V4.cell? ⟨X, 1, none⟩ = some (.string ⟨#[]⟩) := hR6.cell 1
  have c2 : V4.cell? ⟨X, 2, none⟩ = some (.int .i64 N) := hR6.cell 2
  have c3 : V4.cell? ⟨X, 3, none⟩ = some ids' := hR6.cell 3
  have c4 : V4.cell? ⟨X, 4, none⟩ = some tx' := hR6.cell 4
  have c5 : V4.cell? ⟨X, 5, none⟩ = some (.slice none 0 0) := hR6.cell 5
  have c6 : V4.cell? ⟨X, 6, none⟩ = some (.slice none 0 0) := hR6.cell 6
  obtain ⟨ai, ci, hei⟩ := hT6.shp
  obtain ⟨at_, ct, het⟩ := hT7.shp
  have hrun := store_run (t := 56) (o := 0) hZ6 #[.int .i64 c, .string ⟨#[]⟩, .int .i64 N, ids', tx', .slice none 0 0, .slice none 0 0] (Nat.le_of_ble_eq_true rfl) Tryz.sizeR (by rw [hei, het]; simp [Value.oneCell'])
  obtain ⟨Y, hY⟩ : ∃ Y, Y = V4.setCells (X + 1) 0 [.int .i64 c, .string ⟨#[]⟩, .int .i64 N, ids', tx', .slice none 0 0, .slice none 0 0] := ⟨_, rfl⟩
  have hRY : R7 Y (X + 1) c N ids' tx' := by
    have h0 : V4.heap[X + 1]? = some (.cells #[.int .i64 0, .string ⟨#[]⟩, .int .i64 0, .slice none 0 0, .slice none 0 0, .slice none 0 0, .slice none 0 0] 56 (0, 0)) := hZ6
    have h1 := setCells_self [.int .i64 c, .string ⟨#[]⟩, .int .i64 N, ids', tx', .slice none 0 0, .slice none 0 0] 0 V4 _ h0
    rw [← hY] at h1
    simpa [putAll, R7] using h1
  simp only [] at hrun
  rw [← hY] at hrun
  have hGY : Gs (fun i => i = X + 1) V4 Y := by rw [hY]; exact Gs.cells _ _ _ (Gs.refl _ _) (.inl rfl)
  have HE : Hid (∃ jds ty, Ending.returned (.agg #[.int .i64 c, .string ⟨#[]⟩, .int .i64 N, ids', tx', .slice none 0 0, .slice none 0 0]) = Ending.returned (.agg #[.int .i64 c, .string ⟨#[]⟩, .int .i64 N, jds, ty, .slice none 0 0, .slice none 0 0]) ∧ TS w.heap.size jds I Y ∧ TS w.heap.size ty T Y ∧ Below w.heap.size w Y) := by
    have hxw := HX.out
    refine ⟨ids', tx', rfl, ((hT6.kb fun i hi => hGY.block i (hT6.lt i hi).2 (by have := (hT6.lt i hi).1; omega)).low (by omega)), ((hT7.kb fun i hi => hGY.block i (hT7.lt i hi).2 (by have := (hT7.lt i hi).1; omega)).low (by omega)), ?_⟩
    exact hGY.below (hG6.below HB.out (by omega) (fun i e => by omega)) (by have := hG6.size; omega) (fun i e => by omega)
  have r0 : Y.cell? ⟨X + 1, 0, none⟩ = some (.int .i64 c) := hRY.cell 0
  have r1 : Y.cell? ⟨X + 1, 1, none⟩ = some (.string ⟨#[]⟩) := hRY.cell 1
  have r2 : Y.cell? ⟨X + 1, 2, none⟩ = some (.int .i64 N) := hRY.cell 2
  have r3 : Y.cell? ⟨X + 1, 3, none⟩ = some ids' := hRY.cell 3
  have r4 : Y.cell? ⟨X + 1, 4, none⟩ = some tx' := hRY.cell 4
  have r5 : Y.cell? ⟨X + 1, 5, none⟩ = some (.slice none 0 0) := hRY.cell 5
  have r6 : Y.cell? ⟨X + 1, 6, none⟩ = some (.slice none 0 0) := hRY.cell 6
  have HV2 := hide hV2
  have HV4 := hide hV4
  have HEI := hide hei
  have HET := hide het
  clear hV2 hV4 hY hGV hTV hZV hR2 hR3 hR4 hR5 hR6 hG4 hT4 hT5 hZ4 hG6 hT6 hT7 hZ6 hRY hGY hB2 hT2 hei het HF1 HC2 hVs hsz
  go_wp2_with (first | (go_at_call 94; refine cloneE.mono ?_; rintro e w3 ⟨rfl, rfl⟩) | (go_at_call 95; refine cloneS.mono ?_; rintro e w3 ⟨rfl, rfl⟩) | (refine wpList_store_run rfl 33 _ _ rfl _ _ rfl rfl hs2 ?_))
  rw [← HV4.out]
  refine wp_loop_rounds 1 ?_
  rw [rounds_succ]
  go_wp2_with (refine wpList_store_run rfl 56 _ _ rfl _ _ rfl rfl hrun ?_)
  exact bodyPost_ret (v := .agg #[.int .i64 c, .string ⟨#[]⟩, .int .i64 N, ids', tx', .slice none 0 0, .slice none 0 0]) (by simp [results, Tryz.results78, go_sem, r0, r1, r2, r3, r4, r5, r6]) rfl HE.out
end
end Go.Proofs.YtiecoplfiahpnaaGreat

namespace Go.Proofs.YtiecoplfiahpnaaGreat
open Go.RowKit Go.Lib Go.Maps
section
variable {w w' : World} {X b : Nat} {op : Bool} {c N s st k c0 N0 : Int} {ids tx go i0 t0 : Value} {n d : ByteArray} {r : Nat → Prop} {I T : List ByteArray}
theorem r7_new (w : World) (c N : Int) (ids tx : Value) : R7 (w.alloc (.cells #[.int .i64 c, .string ⟨#[]⟩, .int .i64 N, ids, tx, .slice none 0 0, .slice none 0 0] 56)) w.heap.size c N ids tx := heap_alloc_new w _
set_option maxRecDepth 100000 in
set_option maxHeartbeats 3200000 in
theorem end_on (h : JB w b true st k n d go c0 N0 i0 t0 s) (hI : LS t1 1 r w ids I) (hT : LS t1 1 r w tx T) (hIl : I.length ≤ 1000000000000) (hTl : T.length ≤ 1000000000000) :
    Calls Tryz.prog 55 #[.pointer (some ⟨b, 0, none⟩), .agg #[.int .i64 c, .string ⟨#[]⟩, .int .i64 N, ids, tx, .slice none 0 0, .slice none 0 0]] w fun e w' => e = .returned (.tuple #[]) ∧ ∃ ids' tx', JB w' b false 0 0 ⟨#[]⟩ ⟨#[]⟩ .nilFunc c N ids' tx' s ∧ TS w.heap.size ids' I w' ∧ TS w.heap.size tx' T w' ∧ Gs (fun i => i = b) w w' := by
  obtain ⟨U, hU⟩ : ∃ U, U = w.alloc (.cells #[.int .i64 c, .string ⟨#[]⟩, .int .i64 N, ids, tx, .slice none 0 0, .slice none 0 0] 56) := ⟨_, rfl⟩
  obtain ⟨X, hX⟩ : ∃ X, X = w.heap.size := ⟨_, rfl⟩
  have hBU : Below w.heap.size w U := by rw [hU]; exact (Below.refl _ _).alloc (Nat.le_refl _) _
  have hR : R7 U X c N ids tx := by rw [hU, hX]; exact r7_new _ _ _ _ _
  have hJ := h.bel hBU
  have y0 : U.cell? ⟨X, 0, none⟩ = some (.int .i64 c) := hR.cell 0
  have y1 : U.cell? ⟨X, 1, none⟩ = some (.string ⟨#[]⟩) := hR.cell 1
  have y2 : U.cell? ⟨X, 2, none⟩ = some (.int .i64 N) := hR.cell 2
  have y3 : U.cell? ⟨X, 3, none⟩ = some ids := hR.cell 3
  have y4 : U.cell? ⟨X, 4, none⟩ = some tx := hR.cell 4
  have y5 : U.cell? ⟨X, 5, none⟩ = some (.slice none 0 0) := hR.cell 5
  have y6 : U.cell? ⟨X, 6, none⟩ = some (.slice none 0 0) := hR.cell 6
  have HA := hide (anew_any (c := c) (N := N) (hI.bel hBU) (hT.bel hBU) hIl hTl)
  have HU := hide hU
  have HX := hide hX
  have HB := hide hBU
  have HJ := hide hJ
  clear hI hT hBU hR hU hX h hJ
  go_enter Tryz.func55, Tryz.ntmps55
  go_upto_region 1 with fail
  rw [← HU.out, ← HX.out]
  go_wp2_with (go_at_call 86; refine (isOpen_any HJ.out).mono ?_; rintro e w1 ⟨rfl, rfl⟩)
  refine HA.out.mono ?_
  rintro e w2 ⟨ids', tx', rfl, hT1, hT2, hB2⟩
  have hJ2 := HJ.out.bel hB2
  have hrun := store_run (t := 100) (o := 0) hJ2 #[.bool false, .int .i64 0, .int .i64 0, .string ⟨#[]⟩, .string ⟨#[]⟩, .nilFunc, .int .i64 c, .string ⟨#[]⟩, .int .i64 N, ids', tx', .slice none 0 0, .slice none 0 0] (Nat.le_of_ble_eq_true rfl) Tryz.sizeIO (by obtain ⟨a, c, e⟩ := hT1.shp; obtain ⟨a', c', e'⟩ := hT2.shp; rw [e, e']; simp [Value.oneCell'])
  obtain ⟨Y, hY⟩ : ∃ Y, Y = w2.setCells b 0 [.bool false, .int .i64 0, .int .i64 0, .string ⟨#[]⟩, .string ⟨#[]⟩, .nilFunc, .int .i64 c, .string ⟨#[]⟩, .int .i64 N, ids', tx', .slice none 0 0, .slice none 0 0] := ⟨_, rfl⟩
  have hJY : JB Y b false 0 0 ⟨#[]⟩ ⟨#[]⟩ .nilFunc c N ids' tx' s := by
    have h1 := setCells_self [.bool false, .int .i64 0, .int .i64 0, .string ⟨#[]⟩, .string ⟨#[]⟩, .nilFunc, .int .i64 c, .string ⟨#[]⟩, .int .i64 N, ids', tx', .slice none 0 0, .slice none 0 0] 0 w2 _ hJ2
    rw [← hY] at h1
    simpa [putAll, JB] using h1
  simp only [] at hrun
  rw [← hY] at hrun
  have hGY : Gs (fun i => i = b) w Y := by rw [hY]; exact Gs.cells _ _ _ ((Gs.of_below _ HB.out).bel hB2) (.inl rfl)
  have hGY2 : Gs (fun i => i = b) w2 Y := by rw [hY]; exact Gs.cells _ _ _ (Gs.refl _ _) (.inl rfl)
  have HE : Hid (∃ ids' tx', JB Y b false 0 0 ⟨#[]⟩ ⟨#[]⟩ .nilFunc c N ids' tx' s ∧ TS w.heap.size ids' I Y ∧ TS w.heap.size tx' T Y ∧ Gs (fun i => i = b) w Y) := by
    have hb := HB.out.size
    have hbl := HJ.out.lt
    exact ⟨ids', tx', hJY, (hT1.kb fun i hi => hGY2.block i (hT1.lt i hi).2 (by have := (hT1.lt i hi).1; omega)).low hb, (hT2.kb fun i hi => hGY2.block i (hT2.lt i hi).2 (by have := (hT2.lt i hi).1; omega)).low hb, hGY⟩
  clear hY hJY hGY hGY2 hJ2 hB2 hT1 hT2
  go_wp2_with (refine wpList_store_run rfl 100 _ _ rfl _ _ rfl rfl hrun ?_)
  go_end0
  exact ⟨rfl, HE.out⟩
set_option maxRecDepth 100000 in
set_option maxHeartbeats 3200000 in
theorem end_off (h : JB w b false st k n d go c0 N0 i0 t0 s) (x0 x1 x2 x3 x4 x5 x6 : Value) :
    Calls Tryz.prog 55 #[.pointer (some ⟨b, 0, none⟩), .agg #[x0, x1, x2, x3, x4, x5, x6]] w fun e w' => e = .returned (.tuple #[]) ∧ Below w.heap.size w w' := by
  have hJ := h.bel ((Below.refl w.heap.size w).alloc (Nat.le_refl _) (.cells #[x0, x1, x2, x3, x4, x5, x6] 56))
  have HJ := hide hJ
  clear h hJ
  go_enter Tryz.func55, Tryz.ntmps55
  go_upto_region 1 with fail
  go_wp2_with (go_at_call 86; refine (isOpen_any HJ.out).mono ?_; rintro e w1 ⟨rfl, rfl⟩)
  go_end0
  exact ⟨rfl, (Below.refl _ _).alloc (Nat.le_refl _) _⟩
set_option maxRecDepth 100000 in
set_option maxHeartbeats 3200000 in
theorem result_any (h : JB w b op st k n d go c N ids tx s) (hI : LS t1 1 r w ids I) (hT : LS t1 1 r w tx T) (hIl : I.length ≤ 1000000000000) (hTl : T.length ≤ 1000000000000) :
    Calls Tryz.prog 46 #[.pointer (some ⟨b, 0, none⟩)] w fun e w' => ∃ ids' tx', e = .returned (.agg #[.int .i64 c, .string ⟨#[]⟩, .int .i64 N, ids', tx', .slice none 0 0, .slice none 0 0]) ∧ TS w.heap.size ids' I w' ∧ TS w.heap.size tx' T w' ∧ Below w.heap.size w w' := by
  obtain ⟨U, hU⟩ : ∃ U, U = w.alloc (.cells #[.int .i64 0, .string ⟨#[]⟩, .int .i64 0, .slice none 0 0, .slice none 0 0, .slice none 0 0, .slice none 0 0] 56) := ⟨_, rfl⟩
  obtain ⟨X, hX⟩ : ∃ X, X = w.heap.size := ⟨_, rfl⟩
  have hBU : Below w.heap.size w U := by rw [hU]; exact (Below.refl _ _).alloc (Nat.le_refl _) _
  have hZ : R7 U X 0 0 (.slice none 0 0) (.slice none 0 0) := by rw [hU, hX]; exact r7_new _ _ _ _ _
  have hJ := h.bel hBU
  have y0 : U.cell? ⟨b, 6, none⟩ = some (.int .i64 c) := hJ.cell 6
  have y1 : U.cell? ⟨b, 7, none⟩ = some (.string ⟨#[]⟩) := hJ.cell 7
  have y2 : U.cell? ⟨b, 8, none⟩ = some (.int .i64 N) := hJ.cell 8
  have y3 : U.cell? ⟨b, 9, none⟩ = some ids := hJ.cell 9
  have y4 : U.cell? ⟨b, 10, none⟩ = some tx := hJ.cell 10
  have y5 : U.cell? ⟨b, 11, none⟩ = some (.slice none 0 0) := hJ.cell 11
  have y6 : U.cell? ⟨b, 12, none⟩ = some (.slice none 0 0) := hJ.cell 12
  have hszU : U.heap.size = X + 1 := by rw [hU, hX]; simp
  have HA := hide (anew_any (c := c) (N := N) (hI.bel hBU) (hT.bel hBU) hIl hTl)
  have HU := hide hU
  have HX := hide hX
  have HB := hide hBU
  have HZ := hide hZ
  have HS := hide hszU
  clear hI hT hBU hZ hU hX h hJ hszU
  go_enter Tryz.func46, Tryz.ntmps46
  go_upto_region 1 with fail
  rw [← HU.out, ← HX.out]
  go_wp2_with fail
  refine HA.out.mono ?_
  rintro e w2 ⟨ids', tx', rfl, hT1, hT2, hB2⟩
  have hZ2 := HZ.out.bel hB2
  have hrun := store_run (t := 56) (o := 0) hZ2 #[.int .i64 c, .string ⟨#[]⟩, .int .i64 N, ids', tx', .slice none 0 0, .slice none 0 0] (Nat.le_of_ble_eq_true rfl) Tryz.sizeR (by obtain ⟨a, c, e⟩ := hT1.shp; obtain ⟨a', c', e'⟩ := hT2.shp; rw [e, e']; simp [Value.oneCell'])
  obtain ⟨Y, hY⟩ : ∃ Y, Y = w2.setCells X 0 [.int .i64 c, .string ⟨#[]⟩, .int .i64 N, ids', tx', .slice none 0 0, .slice none 0 0] := ⟨_, rfl⟩
  have hRY : R7 Y X c N ids' tx' := by
    have h1 := setCells_self [.int .i64 c, .string ⟨#[]⟩, .int .i64 N, ids', tx', .slice none 0 0, .slice none 0 0] 0 w2 _ hZ2
    rw [← hY] at h1
    simpa [putAll, R7] using h1
  simp only [] at hrun
  rw [← hY] at hrun
  have hGY2 : Gs (fun i => i = X) w2 Y := by rw [hY]; exact Gs.cells _ _ _ (Gs.refl _ _) (.inl rfl)
  have HE : Hid (∃ jds ty, Ending.returned (.agg #[.int .i64 c, .string ⟨#[]⟩, .int .i64 N, ids', tx', .slice none 0 0, .slice none 0 0]) = Ending.returned (.agg #[.int .i64 c, .string ⟨#[]⟩, .int .i64 N, jds, ty, .slice none 0 0, .slice none 0 0]) ∧ TS w.heap.size jds I Y ∧ TS w.heap.size ty T Y ∧ Below w.heap.size w Y) := by
    have hx := HX.out
    have hs := HS.out
    have hb2 := hB2.size
    refine ⟨ids', tx', rfl, (hT1.kb fun i hi => hGY2.block i (hT1.lt i hi).2 (by have := (hT1.lt i hi).1; omega)).low (by omega), (hT2.kb fun i hi => hGY2.block i (hT2.lt i hi).2 (by have := (hT2.lt i hi).1; omega)).low (by omega), ?_⟩
    exact hGY2.below (HB.out.trans (hB2.mono (by omega))) (by omega) (fun i e => by omega)
  have r0 : Y.cell? ⟨X, 0, none⟩ = some (.int .i64 c) := hRY.cell 0
  have r1 : Y.cell? ⟨X, 1, none⟩ = some (.string ⟨#[]⟩) := hRY.cell 1
  have r2 : Y.cell? ⟨X, 2, none⟩ = some (.int .i64 N) := hRY.cell 2
  have r3 : Y.cell? ⟨X, 3, none⟩ = some ids' := hRY.cell 3
  have r4 : Y.cell? ⟨X, 4, none⟩ = some tx' := hRY.cell 4
  have r5 : Y.cell? ⟨X, 5, none⟩ = some (.slice none 0 0) := hRY.cell 5
  have r6 : Y.cell? ⟨X, 6, none⟩ = some (.slice none 0 0) := hRY.cell 6
  clear hY hRY hGY2 hZ2 hB2 hT1 hT2
  go_wp2_with (refine wpList_store_run rfl 56 _ _ rfl _ _ rfl rfl hrun ?_)
  exact bodyPost_ret (v := .agg #[.int .i64 c, .string ⟨#[]⟩, .int .i64 N, ids', tx', .slice none 0 0, .slice none 0 0]) (by simp [results, Tryz.results46, go_sem, r0, r1, r2, r3, r4, r5, r6]) rfl HE.out
end
end Go.Proofs.YtiecoplfiahpnaaGreat

namespace Go.Proofs.YtiecoplfiahpnaaGreat
open Go.RowKit Go.Lib Go.Maps
theorem Tryz.infoA : (Tryz.prog.info? 72).map (fun i => (i.zero, i.size, i.bytes)) = some (some (.agg #[.int .i64 0, .string ⟨#[]⟩, .slice none 0 0]), 3, 48) := by kernel_rfl
def stC (C : Int) (a : RR) : Int := if C = 0 then a.c else C
def stN (n : Nat) (a : RR) : Nat := if a.c = 0 then n + 1 else n
def resC (A : List RR) : Int := A.foldl stC 0
def resN (A : List RR) : Nat := A.foldl stN 0
def resT (A : List RR) : List ByteArray := A.map (·.d)
def resI (A : List RR) : List ByteArray := A.flatMap (·.l)
theorem resC_snoc (A : List RR) (a : RR) : resC (A ++ [a]) = stC (resC A) a := by simp [resC]
theorem resN_snoc (A : List RR) (a : RR) : resN (A ++ [a]) = stN (resN A) a := by simp [resN]
theorem resT_snoc (A : List RR) (a : RR) : resT (A ++ [a]) = resT A ++ [a.d] := by simp [resT]
theorem resI_snoc (A : List RR) (a : RR) : resI (A ++ [a]) = resI A ++ a.l := by simp [resI]
theorem stN_le : ∀ (A : List RR) (n : Nat), A.foldl stN n ≤ n + A.length
  | [], n => by simp
  | a :: r, n => by
    have := stN_le r (stN n a)
    have h1 : stN n a ≤ n + 1 := by unfold stN; split <;> omega
    simp only [List.foldl_cons, List.length_cons]
    omega
theorem resN_le (A : List RR) : resN A ≤ A.length := by have := stN_le A 0; unfold resN; omega
theorem resT_len (A : List RR) : (resT A).length = A.length := by simp [resT]
theorem take_snoc_at {α : Type} {l : List α} {j : Nat} {x : α} (h : l[j]? = some x) : l.take (j + 1) = l.take j ++ [x] := by rw [List.take_add_one, h]; rfl
theorem resI_take (A : List RR) (j : Nat) : (resI (A.take j)).length ≤ (resI A).length := by
  have e : resI A = resI (A.take j) ++ resI (A.drop j) := by rw [resI, resI, resI, ← List.flatMap_append, List.take_append_drop]
  rw [e, List.length_append]; omega
/-- An answer, with the value of its list of names, as cells. -/
def x3 (x : RR × Value) : List Value := [.int .i64 x.1.c, .string x.1.d, x.2]
theorem x3_len (x : RR × Value) : (x3 x).length = 3 := rfl

/-- Where the loop stands. -/
structure TI (w wr : World) (X0 : Nat) (A : List RR) (ids tx : Value) : Prop where
  r : R7 wr (X0 + 1) (resC A) ((resN A : Nat) : Int) ids tx
  z : R7 wr X0 0 0 (.slice none 0 0) (.slice none 0 0)
  i : TS (X0 + 2) ids (resI A) wr
  t : TS (X0 + 2) tx (resT A) wr
  ne : ∀ i, ids.ownBlock = some i → tx.ownBlock ≠ some i
  be : Below X0 w wr
  sz : X0 + 2 ≤ wr.heap.size
/-- Within a round. -/
structure TJ (w wx : World) (X0 n5 : Nat) (A : List RR) (C N : Int) (ids tx : Value) (c : Int) (d : ByteArray) (u : Value) : Prop where
  r : R7 wx (X0 + 1) C N ids tx
  z : R7 wx X0 0 0 (.slice none 0 0) (.slice none 0 0)
  i : TS (X0 + 2) ids (resI A) wx
  t : TS (X0 + 2) tx (resT A) wx
  ne : ∀ i, ids.ownBlock = some i → tx.ownBlock ≠ some i
  be : Below X0 w wx
  sz : X0 + 2 ≤ wx.heap.size
  blk : wx.heap[n5]? = some (.cells #[.int .i64 c, .string d, u] 72 (0, 0))
  n5b : X0 + 2 ≤ n5
section
variable {w wx wr : World} {X0 n5 : Nat} {A : List RR} {C N c : Int} {ids tx u : Value} {d : ByteArray}
theorem TJ.new (h : TI w wr X0 A ids tx) (c : Int) (d : ByteArray) (u : Value) : TJ w (wr.alloc (.cells #[.int .i64 c, .string d, u] 72)) X0 wr.heap.size A (resC A) ((resN A : Nat) : Int) ids tx c d u := by
  have hb : Below wr.heap.size wr (wr.alloc (.cells #[.int .i64 c, .string d, u] 72)) := (Below.refl _ _).alloc (Nat.le_refl _) _
  exact ⟨h.r.bel hb, h.z.bel hb, h.i.keep hb, h.t.keep hb, h.ne, h.be.trans (hb.mono (by have := h.sz; omega)), by have := h.sz; simp; omega, heap_alloc_new wr _, h.sz⟩
theorem TJ.set0 (h : TJ w wx X0 n5 A C N ids tx c d u) (x : Int) : TJ w (wx.setCell ⟨X0 + 1, 0, none⟩ (.int .i64 x)) X0 n5 A x N ids tx c d u := by
  have hk : ∀ i, i ≠ X0 + 1 → (wx.setCell ⟨X0 + 1, 0, none⟩ (.int .i64 x)).heap[i]? = wx.heap[i]? := fun i hi => heap_setCell_other wx ⟨X0 + 1, 0, none⟩ i _ hi
  refine ⟨heap_set_self h.r, (hk X0 (by omega)).trans h.z, h.i.kb fun i hi => hk i (by have := (h.i.lt i hi).1; omega), h.t.kb fun i hi => hk i (by have := (h.t.lt i hi).1; omega), h.ne, ((Gs.refl (fun i => i = X0 + 1) wx).set1 _ _).below h.be (by have := h.sz; omega) (fun i e => by omega), by have := h.sz; simpa using this, (hk n5 (by have := h.n5b; omega)).trans h.blk, h.n5b⟩
theorem TJ.set2 (h : TJ w wx X0 n5 A C N ids tx c d u) (x : Int) : TJ w (wx.setCell ⟨X0 + 1, 2, none⟩ (.int .i64 x)) X0 n5 A C x ids tx c d u := by
  have hk : ∀ i, i ≠ X0 + 1 → (wx.setCell ⟨X0 + 1, 2, none⟩ (.int .i64 x)).heap[i]? = wx.heap[i]? := fun i hi => heap_setCell_other wx ⟨X0 + 1, 2, none⟩ i _ hi
  refine ⟨heap_set_self h.r, (hk X0 (by omega)).trans h.z, h.i.kb fun i hi => hk i (by have := (h.i.lt i hi).1; omega), h.t.kb fun i hi => hk i (by have := (h.t.lt i hi).1; omega), h.ne, ((Gs.refl (fun i => i = X0 + 1) wx).set1 _ _).below h.be (by have := h.sz; omega) (fun i e => by omega), by have := h.sz; simpa using this, (hk n5 (by have := h.n5b; omega)).trans h.blk, h.n5b⟩
theorem TJ.k0 (h : TJ w wx X0 n5 A C N ids tx c d u) : wx.cell? ⟨n5, 0, none⟩ = some (.int .i64 c) := by simp [World.cell?, h.blk]
theorem TJ.k1 (h : TJ w wx X0 n5 A C N ids tx c d u) : wx.cell? ⟨n5, 1, none⟩ = some (.string d) := by simp [World.cell?, h.blk]
theorem TJ.k2 (h : TJ w wx X0 n5 A C N ids tx c d u) : wx.cell? ⟨n5, 2, none⟩ = some u := by simp [World.cell?, h.blk]
/-- The text of an answer more. -/
theorem TJ.txt (h : TJ w wx X0 n5 A C N ids tx c d u) (hl : A.length ≤ 1000000) :
    ∃ v' w', (Builtin.append_ #[33, 33] 33 #[tx, .slice (some ⟨wx.heap.size, 0, none⟩) 1 1]).run Tryz.prog (wx.alloc (.cells #[.string d] 9)) = .ok v' w' ∧ (∃ a n c, v' = .slice a n c) ∧ R7 w' (X0 + 1) C N ids tx ∧ R7 (w'.setCell ⟨X0 + 1, 4, none⟩ v') (X0 + 1) C N ids v' ∧ R7 (w'.setCell ⟨X0 + 1, 4, none⟩ v') X0 0 0 (.slice none 0 0) (.slice none 0 0) ∧ TS (X0 + 2) ids (resI A) (w'.setCell ⟨X0 + 1, 4, none⟩ v') ∧ TS (X0 + 2) v' (resT A ++ [d]) (w'.setCell ⟨X0 + 1, 4, none⟩ v') ∧ (∀ i, ids.ownBlock = some i → v'.ownBlock ≠ some i) ∧ Below X0 w (w'.setCell ⟨X0 + 1, 4, none⟩ v') ∧ X0 + 2 ≤ (w'.setCell ⟨X0 + 1, 4, none⟩ v').heap.size ∧ (w'.setCell ⟨X0 + 1, 4, none⟩ v').heap[n5]? = some (.cells #[.int .i64 c, .string d, u] 72 (0, 0)) := by
  have hb : Below wx.heap.size wx (wx.alloc (.cells #[.string d] 9)) := (Below.refl _ _).alloc (Nat.le_refl _) _
  have hs := h.sz
  have hLS : LS t1 1 (fun _ => True) (wx.alloc (.cells #[.string d] 9)) (.slice (some ⟨wx.heap.size, 0, none⟩) 1 1) [d] := LS.one d 9 wx t1 1 _ trivial
  obtain ⟨v', w', h1, h2, h3, h4⟩ := OW.app (ST := 33) t1_len (by decide) (fun x _ => t1_one x) Tryz.underlying33 Tryz.infoTx rfl (h.t.keep hb).ow hLS (by have := resT_len A; simp; omega) (by have := resT_len A; simp; omega) (by simp; omega)
  have hi := h.i.keep hb
  have hilt := h.i.lt
  have hne2 : ∀ i, ids.ownBlock = some i → v'.ownBlock ≠ some i := fun i hi2 e => by
    rcases h4 with h4 | h4
    · rw [h4] at e; exact h.ne i hi2 e
    · rw [h4] at e; simp at e; have := (hilt i hi2).2; omega
  have hw : ∀ i, i < wx.heap.size → tx.ownBlock ≠ some i → w'.heap[i]? = wx.heap[i]? := fun i hi2 hn => (h3.block i (by simp; omega) (fun e => hn e.symm)).trans (hb.block i hi2)
  have htl := h.t.lt
  have hr' : R7 w' (X0 + 1) C N ids tx := (hw _ h.r.lt (fun e => by have := (htl _ e).1; omega)).trans h.r
  have hk : ∀ i, i ≠ X0 + 1 → (w'.setCell ⟨X0 + 1, 4, none⟩ v').heap[i]? = w'.heap[i]? := fun i hi => heap_setCell_other w' ⟨X0 + 1, 4, none⟩ i _ hi
  have hw's : wx.heap.size ≤ w'.heap.size := by have := h3.size; simp at this; omega
  have h2lt := h2.ts.lt
  refine ⟨v', w', h1, ?_, hr', heap_set_self hr', (hk X0 (by omega)).trans ((hw _ h.z.lt (fun e => by have := (htl _ e).1; omega)).trans h.z), ?_, ?_, hne2, ?_, by simp; omega, (hk n5 (by have := h.n5b; omega)).trans ((hw _ (lt_of_block h.blk) (fun e => ?_)).trans h.blk)⟩
  · obtain ⟨a, c, e⟩ := h2.shp; exact ⟨a, _, c, e⟩
  · exact h.i.kb fun i hi => (hk i (by have := (hilt i hi).1; omega)).trans (hw i (hilt i hi).2 (h.ne i hi))
  · exact h2.ts.kb fun i hi => hk i (by have := (h2lt i hi).1; omega)
  · exact ((Gs.refl (fun i => i = X0 + 1) w').set1 _ _).below ((h.be.trans (hb.mono (by omega))).grown h3 (by simp; omega) (fun i e => by have := (htl i e).1; omega)) (by omega) (fun i e => by omega)
  · obtain ⟨cs, hcs⟩ := h.t.ow.typ n5 e
    rw [h.blk] at hcs
    simp at hcs
/-- The names of an answer more. -/
theorem names_more {ids v' : Value} {L T l : List ByteArray} (hr : R7 wx (X0 + 1) C N ids v') (hz : R7 wx X0 0 0 (.slice none 0 0) (.slice none 0 0)) (hi : TS (X0 + 2) ids L wx) (ht : TS (X0 + 2) v' T wx) (hne : ∀ i, ids.ownBlock = some i → v'.ownBlock ≠ some i) (hbe : Below X0 w wx) (hs : X0 + 2 ≤ wx.heap.size) {r : Nat → Prop} (hl : LS t1 1 r wx u l) (hln : L.length + l.length ≤ 1000000000000) :
    ∃ v2 w', (Builtin.append_ #[33, 33] 33 #[ids, u]).run Tryz.prog wx = .ok v2 w' ∧ (∃ a n c, v2 = .slice a n c) ∧ R7 w' (X0 + 1) C N ids v' ∧ R7 (w'.setCell ⟨X0 + 1, 3, none⟩ v2) (X0 + 1) C N v2 v' ∧ R7 (w'.setCell ⟨X0 + 1, 3, none⟩ v2) X0 0 0 (.slice none 0 0) (.slice none 0 0) ∧ TS (X0 + 2) v2 (L ++ l) (w'.setCell ⟨X0 + 1, 3, none⟩ v2) ∧ TS (X0 + 2) v' T (w'.setCell ⟨X0 + 1, 3, none⟩ v2) ∧ (∀ i, v2.ownBlock = some i → v'.ownBlock ≠ some i) ∧ Below X0 w (w'.setCell ⟨X0 + 1, 3, none⟩ v2) ∧ X0 + 2 ≤ (w'.setCell ⟨X0 + 1, 3, none⟩ v2).heap.size := by
  obtain ⟨v2, w', h1, h2, h3, h4⟩ := OW.app (ST := 33) t1_len (by decide) (fun x _ => t1_one x) Tryz.underlying33 Tryz.infoTx rfl hi.ow hl (by omega) (by omega) hs
  have hilt := hi.lt
  have htl := ht.lt
  have hne2 : ∀ i, v2.ownBlock = some i → v'.ownBlock ≠ some i := fun i hi2 e => by
    rcases h4 with h4 | h4
    · rw [h4] at hi2; exact hne i hi2 e
    · rw [h4] at hi2; simp at hi2; have := (htl i e).2; omega
  have hw : ∀ i, i < wx.heap.size → ids.ownBlock ≠ some i → w'.heap[i]? = wx.heap[i]? := fun i hi2 hn => h3.block i hi2 (fun e => hn e.symm)
  have hr' : R7 w' (X0 + 1) C N ids v' := (hw _ hr.lt (fun e => by have := (hilt _ e).1; omega)).trans hr
  have hk : ∀ i, i ≠ X0 + 1 → (w'.setCell ⟨X0 + 1, 3, none⟩ v2).heap[i]? = w'.heap[i]? := fun i hi => heap_setCell_other w' ⟨X0 + 1, 3, none⟩ i _ hi
  have hw's := h3.size
  have h2lt := h2.ts.lt
  refine ⟨v2, w', h1, ?_, hr', heap_set_self hr', (hk X0 (by omega)).trans ((hw _ hz.lt (fun e => by have := (hilt _ e).1; omega)).trans hz), ?_, ?_, hne2, ?_, by simp; omega⟩
  · obtain ⟨a, c, e⟩ := h2.shp; exact ⟨a, _, c, e⟩
  · exact h2.ts.kb fun i hi => hk i (by have := (h2lt i hi).1; omega)
  · exact ht.kb fun i hi2 => (hk i (by have := (htl i hi2).1; omega)).trans (hw i (htl i hi2).2 (fun e => hne i e hi2))
  · exact ((Gs.refl (fun i => i = X0 + 1) w').set1 _ _).below (hbe.grown h3 (by omega) (fun i e => by have := (hilt i e).1; omega)) (by omega) (fun i e => by omega)
end
section
variable {w w' : World} {av : Value} {X : List (RR × Value)} {r : Nat → Prop}
end
end Go.Proofs.YtiecoplfiahpnaaGreat
