/-
  The document's store: lay, Set, Fail, New.
-/
import Derived.Test.YtepmhgkegfpmjaaStRem
import Derived.Test.YtepmhgkegfpmjaaPsRest
namespace Go.Proofs.Ytepmhgkegfpmjaa
open Go.RowKit Go.Lib

theorem OS.one {B : Nat} {v : Value} {L : List OB} {w : World} (h : OS B v L w) (n d : ByteArray) (hb : L.length + 1 ≤ 1000000) (hB : B ≤ w.heap.size) :
    ∃ v' w', (Builtin.append_ #[90, 90] 90 #[v, .slice (some ⟨w.heap.size, 0, none⟩) 1 1]).run Try.prog (w.alloc (.cells #[.string n, .string d] 94)) = .ok v' w' ∧ OS B v' (L ++ [⟨n, d⟩]) w' ∧ (∀ w0, Below B w0 w → Below B w0 w') := by
  have hal : Below w.heap.size w (w.alloc (.cells #[.string n, .string d] 94)) := (Below.refl _ _).alloc (Nat.le_refl _) _
  have h' := h.keep hal
  have hS : Src (w.alloc (.cells #[.string n, .string d] 94)) w.heap.size 0 [⟨n, d⟩] := by
    intro i p hp
    match i, hp with
    | 0, hp =>
      simp at hp
      subst hp
      exact ⟨by rw [cell_of_row _ _ _ _ _ _ (heap_alloc_new w _)]; rfl, by rw [cell_of_row _ _ _ _ _ _ (heap_alloc_new w _)]; rfl⟩
    | _ + 1, hp => simp at hp
  obtain ⟨v', w', h1, h2, h3, _⟩ := h'.app (c := 1) hS (by simpa using hb) (by simp; omega)
  exact ⟨v', w', h1, h2, fun w0 hb0 => (hb0.trans (hal.mono hB)).grown h3 (by simp; omega) (fun k hk => (h'.lt k hk).1)⟩

set_option maxRecDepth 100000 in
set_option maxHeartbeats 3200000 in
theorem rlay_any {w : World} {b : Nat} {q f m : Int} {off : Bool} {v : Value} {L : List OB} (n d : ByteArray) (hR : RSt w b q f m off v) (hO : OS 0 v L w) (hl : L.length ≤ 100000) (hL : Ris L) :
    Calls Try.prog 66 #[.pointer (some ⟨b, 0, none⟩), .string n, .string d] w fun e w' => e = .returned (.tuple #[]) ∧ ∃ v', RSt w' b q f m off v' ∧ OS 0 v' (layL L n d) w' ∧ Gs (fun j => j = b) w w' := by
  have HF : Hid _ := hide (rfind_any n hR hO.ol (by omega) hL)
  have HR := hide hR
  have HO := hide hO
  have HLT := hide (lay_take hL n d)
  have HPT := hide (pos_thr hL n)
  have hpl := pos_le L n
  obtain ⟨i, hi⟩ : ∃ i, i = pos L n := ⟨_, rfl⟩
  obtain ⟨t, ht⟩ : ∃ t, t = (thr L n).isSome := ⟨_, rfl⟩
  rw [← hi] at HF HLT HPT hpl
  rw [← ht] at HF HLT
  have HT := hide ht
  clear hR hO hi ht
  go_enter Try.func66, Try.ntmps66
  go_wp2_with fail
  refine HF.out.mono ?_
  rintro e w0 ⟨rfl, hb0⟩
  have HR0 := hide (HR.out.below hb0 HR.out.lt)
  have HO0 := hide (HO.out.keep hb0)
  have HB0 := hide hb0
  clear HF hb0
  go_upto_if 15 with fail
  go_cut [18] (fun _ wx => ∃ v1 L1, RSt wx b q f m off v1 ∧ OS 0 v1 L1 wx ∧ i ≤ L1.length ∧ L1.length ≤ 100000 ∧ L1.take i ++ ⟨n, d⟩ :: L1.drop i = layL L n d ∧ Gs (fun j => j = b) w wx)
  case first =>
    cases t with
    | true =>
      have hil : i < L.length := by
        have h1 := HPT.out
        cases hq : L[i]? with
        | none => rw [hq] at h1; have h2 := HT.out; rw [h1] at h2; cases h2
        | some p => exact (List.getElem?_eq_some_iff.1 hq).1
      have HRM : Hid _ := hide (rremove_any HR0.out HO0.out (by omega) i hil)
      go_wp2_with fail
      refine HRM.out.mono ?_
      rintro e w1 ⟨rfl, v1, h1, h2, h3⟩
      have HE : Hid (∃ v1 L1, RSt w1 b q f m off v1 ∧ OS 0 v1 L1 w1 ∧ i ≤ L1.length ∧ L1.length ≤ 100000 ∧ L1.take i ++ ⟨n, d⟩ :: L1.drop i = layL L n d ∧ Gs (fun j => j = b) w w1) := by
        refine ⟨v1, _, h1, h2, by simp; omega, by simp; omega, ?_, (Gs.of_below _ HB0.out).trans h3⟩
        have e1 : (L.take i ++ L.drop (i + 1)).take i = L.take i := by
          rw [List.take_append_of_le_length (by rw [List.length_take]; omega), List.take_take]; simp
        have e2 : (L.take i ++ L.drop (i + 1)).drop i = L.drop (i + 1) := by
          rw [List.drop_append_of_le_length (by rw [List.length_take]; omega)]
          have : (L.take i).drop i = [] := List.drop_eq_nil_of_le (by rw [List.length_take]; omega)
          rw [this]; rfl
        rw [e1, e2, HLT.out]; simp
      clear h1 h2 h3 HRM
      go_wp2
      go_meet
      case rel => exact HE.out
    | false =>
      have HE : Hid (∃ v1 L1, RSt w0 b q f m off v1 ∧ OS 0 v1 L1 w0 ∧ i ≤ L1.length ∧ L1.length ≤ 100000 ∧ L1.take i ++ ⟨n, d⟩ :: L1.drop i = layL L n d ∧ Gs (fun j => j = b) w w0) :=
        ⟨_, L, HR0.out, HO0.out, hpl, hl, by rw [HLT.out]; simp, Gs.of_below _ HB0.out⟩
      go_wp2
      go_meet
      case rel => exact HE.out
  case rest =>
    obtain ⟨v1, L1, hR1, hO1, hi1, hl1, hLL, hG1⟩ := hcut
    clear HR0 HO0 HB0 HR HO HLT HPT HT hpl
    have HLL := hide hLL
    have HG1 := hide hG1
    rcases hO1.src with ⟨rfl, rfl⟩ | ⟨g, c, rfl, hc, _, hg, hS⟩
    · simp at hi1
      subst hi1
      have y4 := hR1.cell4
      obtain ⟨i0, hi0, hz0, hz1, hz2⟩ := info_parts Try.infoOb
      have hr1 : (Builtin.append_ #[90, 90] 90 #[.slice none 0 0, .slice none 0 0]).run Try.prog wc = .ok (.slice none 0 0) wc := run_append_owned_none (P := Try.prog) (w := wc) wc.heap.size _ _ _ i0 2 Try.underlying90 hi0 (.slice none 0 0) 0 [] (OS.nil wc.heap.size wc).own
      obtain ⟨v2, w2, hr2, hO2, hB2⟩ := (OS.nil wc.heap.size wc).one n d (by simp) (Nat.le_refl _)
      have hb2 := hB2 wc (Below.refl _ _)
      have hR2 := hR1.below hb2 hR1.lt
      have y42 := hR2.cell4
      have z42 := hR2.free 4
      have hr3 : (Builtin.append_ #[90, 90] 90 #[v2, .slice none 0 0]).run Try.prog w2 = .ok v2 w2 := run_append_owned_none (P := Try.prog) (w := w2) wc.heap.size _ _ _ i0 2 Try.underlying90 hi0 v2 _ _ hO2.own
      have HF : Hid (∃ v', RSt (w2.setCell ⟨b, 4, none⟩ v2) b q f m off v' ∧ OS 0 v' (layL L n d) (w2.setCell ⟨b, 4, none⟩ v2) ∧ Gs (fun j => j = b) w (w2.setCell ⟨b, 4, none⟩ v2)) := by
        refine ⟨v2, hR2.set4 v2, ?_, (HG1.out.trans (Gs.of_below _ hb2)).set (a := ⟨b, 4, none⟩) (.inl rfl) _⟩
        rw [← HLL.out]
        exact (hO2.set hR1.lt v2).zero
      obtain ⟨a2, c2, rfl⟩ : ∃ a2 c2, v2 = .slice a2 1 c2 := by
        obtain ⟨a2, c2, e, _⟩ := hO2.ol
        exact ⟨a2, c2, e⟩
      clear hR1 hO1 hO2 hB2 hb2 hR2 hLL hG1
      go_upto_region 5 with (at_builtin; refine Lib.wpList_append_run wc rfl _ _ _ _ rfl _ _ rfl rfl _ _ hr1 ?_)
      go_upto_region 6 with (at_builtin; refine Lib.wpList_append_run (wc.alloc (.cells #[.string n, .string d] 94)) rfl _ _ _ _ rfl _ _ rfl rfl _ _ hr2 ?_)
      go_wp2_with (at_builtin; refine Lib.wpList_append_run w2 rfl _ _ _ _ rfl _ _ rfl rfl _ _ hr3 ?_)
      go_end0
      exact ⟨rfl, HF.out⟩
    · obtain ⟨N, hN⟩ : ∃ N, N = L1.length := ⟨_, rfl⟩
      rw [← hN] at hR1 hc
      have y4 := hR1.cell4
      have b1 : (i : Int) ≤ (N : Int) := by omega
      have b0 : (0 : Int) ≤ (i : Int) := by omega
      have b3 : (i : Int) ≤ (c : Int) := by omega
      obtain ⟨v1, w1, hr1, hO1', hg1, _⟩ := (OS.nil wc.heap.size wc).app (b := g) (o := 0) (c := c) (hS.take i) (by simp; omega) (Nat.le_refl _)
      rw [List.nil_append] at hO1'
      rw [show (L1.take i).length = i by rw [List.length_take]; omega] at hr1
      have hB1 : Below wc.heap.size wc w1 := (Below.refl _ _).grown hg1 (Nat.le_refl _) (fun k hk => by simp [Value.ownBlock] at hk)
      obtain ⟨v2, w2, hr2, hO2, hB2⟩ := hO1'.one n d (by simp; omega) hB1.size
      have hb2 := hB2 wc hB1
      obtain ⟨o2, ho2, hS2⟩ := hS.tail hc hN i hi1 hb2 hg
      obtain ⟨v3, w3, hr3, hO3, hg3, _⟩ := hO2.app (b := g) (o := o2) (c := c - i) hS2 (by simp; omega) hb2.size
      rw [show (L1.drop i).length = N - i by rw [List.length_drop, ← hN], ← ho2] at hr3
      have hB3 : Below wc.heap.size wc w3 := hb2.grown hg3 hb2.size (fun k hk => (hO2.lt k hk).1)
      have hR3 := hR1.below hB3 hR1.lt
      have y42 := (hR1.below hb2 hR1.lt).cell4
      have y43 := hR3.cell4
      have z43 := hR3.free 4
      have HF : Hid (∃ v', RSt (w3.setCell ⟨b, 4, none⟩ v3) b q f m off v' ∧ OS 0 v' (layL L n d) (w3.setCell ⟨b, 4, none⟩ v3) ∧ Gs (fun j => j = b) w (w3.setCell ⟨b, 4, none⟩ v3)) := by
        refine ⟨v3, hR3.set4 v3, ?_, (HG1.out.trans (Gs.of_below _ hB3)).set (a := ⟨b, 4, none⟩) (.inl rfl) _⟩
        rw [← HLL.out]
        have h9 := (hO3.set hR1.lt v3 (j := 4)).zero
        rw [List.append_assoc] at h9
        exact h9
      obtain ⟨a1, c1, rfl⟩ : ∃ a1 c1, v1 = .slice a1 i c1 := by
        obtain ⟨a1, c1, e, _⟩ := hO1'.ol
        exact ⟨a1, c1, by rw [e, List.length_take]; congr 1; omega⟩
      obtain ⟨a2, c2, rfl⟩ : ∃ a2 c2, v2 = .slice a2 (i + 1) c2 := by
        obtain ⟨a2, c2, e, _⟩ := hO2.ol
        have hlen : (L1.take i ++ [(⟨n, d⟩ : OB)]).length = i + 1 := by rw [List.length_append, List.length_take, List.length_singleton]; omega
        exact ⟨a2, c2, by rw [e, hlen]⟩
      obtain ⟨a3, c3, rfl⟩ : ∃ a3 c3, v3 = .slice a3 (N + 1) c3 := by
        obtain ⟨a3, c3, e, _⟩ := hO3.ol
        have hlen : (L1.take i ++ [(⟨n, d⟩ : OB)] ++ L1.drop i).length = N + 1 := by rw [List.length_append, List.length_append, List.length_take, List.length_singleton, List.length_drop]; omega
        exact ⟨a3, c3, by rw [e, hlen]⟩
      have HN := hide hN
      clear hR1 hO1 hO1' hO2 hO3 hB1 hB2 hb2 hB3 hR3 hLL hG1 hS hS2 ho2 hN hg1 hg3 hl1 hl hg
      go_upto_region 5 with (at_builtin; refine Lib.wpList_append_run wc rfl _ _ _ _ rfl _ _ rfl rfl _ _ hr1 ?_)
      go_upto_region 6 with (at_builtin; refine Lib.wpList_append_run (w1.alloc (.cells #[.string n, .string d] 94)) rfl _ _ _ _ rfl _ _ rfl rfl _ _ hr2 ?_)
      go_wp2_with (at_builtin; refine Lib.wpList_append_run w2 rfl _ _ _ _ rfl _ _ rfl rfl _ _ hr3 ?_)
      all_goals (
        go_end0
        exact ⟨rfl, HF.out⟩)

section
variable {w : World} {b : Nat} {q f m : Int} {off : Bool} {v : Value} {L : List OB}
theorem RSt.c0 (h : RSt w b q f m off v) : w.cell? ⟨b, 0, none⟩ = some (.int .i64 q) := by simp [World.cell?, show w.heap[b]? = _ from h]
theorem RSt.c1 (h : RSt w b q f m off v) : w.cell? ⟨b, 1, none⟩ = some (.int .i64 f) := by simp [World.cell?, show w.heap[b]? = _ from h]
theorem RSt.c2 (h : RSt w b q f m off v) : w.cell? ⟨b, 2, none⟩ = some (.int .i64 m) := by simp [World.cell?, show w.heap[b]? = _ from h]
theorem RSt.c3 (h : RSt w b q f m off v) : w.cell? ⟨b, 3, none⟩ = some (.bool off) := by simp [World.cell?, show w.heap[b]? = _ from h]
theorem RSt.s1 (h : RSt w b q f m off v) (x : Int) : RSt (w.setCell ⟨b, 1, none⟩ (.int .i64 x)) b q x m off v := heap_set_self (j := 1) (u := .int .i64 x) h
theorem RSt.s2 (h : RSt w b q f m off v) (x : Int) : RSt (w.setCell ⟨b, 2, none⟩ (.int .i64 x)) b q f x off v := heap_set_self (j := 2) (u := .int .i64 x) h
theorem RSt.s3 (h : RSt w b q f m off v) (x : Bool) : RSt (w.setCell ⟨b, 3, none⟩ (.bool x)) b q f m x v := heap_set_self (j := 3) (u := .bool x) h
/-- The list is in no block of cells of another type. -/
theorem OS.far {B : Nat} {g : Nat} {cs : Array Value} {T : TypeId} {fr : Nat × Nat} (h : OS B v L w) (hg : w.heap[g]? = some (.cells cs T fr)) (hT : T ≠ 94) : ∀ i, v.ownBlock = some i → i ≠ g := by
  intro i hi e
  obtain ⟨_, ⟨rfl, _⟩ | ⟨g', cap, cur, rfl, _, hb, _⟩⟩ := h.own
  · simp [Value.ownBlock] at hi
  · simp only [Value.ownBlock, Option.some.injEq] at hi
    subst hi
    rw [e, hg] at hb
    simp at hb
    exact hT hb.2.1
theorem OS.kb {B : Nat} {w' : World} (h : OS B v L w) (hk : ∀ i, v.ownBlock = some i → w'.heap[i]? = w.heap[i]?) : OS B v L w' := by
  refine ⟨h.own.1, ?_⟩
  rcases h.own.2 with h2 | ⟨g, cap, cur, e, hB, hg, r⟩
  · exact .inl h2
  · refine .inr ⟨g, cap, cur, e, hB, (hk g ?_).trans hg, r⟩
    rw [e]; rfl
theorem OS.sb {B : Nat} (h : OS B v L w) (hR : ∃ q f m off v', RSt w b q f m off v') (j : Nat) (u : Value) : OS B v L (w.setCell ⟨b, j, none⟩ u) := by
  obtain ⟨_, _, _, _, _, hR⟩ := hR
  exact h.kb fun i hi => Below.heap_setCell _ _ _ _ (h.far hR (by decide) i hi)

set_option maxRecDepth 100000 in
set_option maxHeartbeats 800000 in
theorem rnew_ok (x : Int) (w : World) (h0 : 0 ≤ x) (h1 : x ≤ 1073741824) :
    Calls Try.prog 39 #[.int .i64 x] w fun e w' => e = .returned (.tuple #[.pointer (some ⟨w.heap.size, 0, none⟩), .int .i64 0]) ∧ RSt w' w.heap.size x 0 0 false (.slice none 0 0) ∧ Below w.heap.size w w' := by
  have h2 : ¬ x < 0 := by omega
  have h3 : ¬ 1073741824 < x := by omega
  go_enter Try.func39, Try.ntmps39
  go_wp2
  go_ret2
  exact ⟨rfl, heap_alloc_new w _, (Below.refl _ _).alloc (Nat.le_refl _) _⟩
set_option maxRecDepth 100000 in
set_option maxHeartbeats 800000 in
theorem rnew_bad (x : Int) (w : World) (h : x < 0 ∨ 1073741824 < x) :
    Calls Try.prog 39 #[.int .i64 x] w fun e w' => e = .returned (.tuple #[.pointer none, .int .i64 1]) ∧ w' = w := by
  by_cases h2 : x < 0
  · go_enter Try.func39, Try.ntmps39
    go_wp2
    go_ret2
    exact ⟨rfl, rfl⟩
  · have h3 : 1073741824 < x := by omega
    go_enter Try.func39, Try.ntmps39
    go_wp2
    go_ret2
    exact ⟨rfl, rfl⟩

end
end Go.Proofs.Ytepmhgkegfpmjaa
