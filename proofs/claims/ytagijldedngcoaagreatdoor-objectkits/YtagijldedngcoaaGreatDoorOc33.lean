/-
  Contracts of the program and of the statements (part 33 of 35).
-/
import Derived.Test.YtagijldedngcoaaGreatDoorOc32
import Derived.Test.YtagijldedngcoaaGreatDoorOc23

namespace Go.Proofs.YtagijldedngcoaaGreatDoor
open Go.RowKit Go.Lib Go.Maps
section
variable {W0 W W' : World} {b2 : Nat} {pl : PN RS} {z : Option Nat} {Py : Nat → Prop} {sv ids tx : Value} {S S' : List SS} {bs : List (Nat × Nat)} {g q k : Nat} {x : RS} {L : List QT}
def ZV (z : Option Nat) (W : World) : Prop := ∀ q, z = some q → R7 W q 0 0 (.slice none 0 0) (.slice none 0 0)
theorem ZV.bel (h : ZV z W) (hb : Below W.heap.size W W') : ZV z W' := fun q e => (h q e).bel hb
theorem ZV.al (W : World) : ZV (some W.heap.size) (W.alloc (.cells #[.int .i64 0, .string ⟨#[]⟩, .int .i64 0, .slice none 0 0, .slice none 0 0, .slice none 0 0, .slice none 0 0] 63)) := fun q e => by
  cases e
  exact heap_alloc_new W _
structure BW (W0 W : World) (z : Option Nat) : Prop where
  be : Below W0.heap.size W0 W
  zz : ZV z W
  zq : ∀ q, z = some q → W0.heap.size ≤ q
theorem BW.start (W : World) : BW W W none := ⟨Below.refl _ _, (fun q e => by cases e), (fun q e => by cases e)⟩
theorem BW.bel (h : BW W0 W z) (hb : Below W.heap.size W W') : BW W0 W' z := ⟨h.be.trans (hb.mono h.be.size), h.zz.bel hb, h.zq⟩
theorem BW.al (h : BW W0 W none) : BW W0 (W.alloc (.cells #[.int .i64 0, .string ⟨#[]⟩, .int .i64 0, .slice none 0 0, .slice none 0 0, .slice none 0 0, .slice none 0 0] 63)) (some W.heap.size) := by
  have hb : Below W.heap.size W (W.alloc (.cells #[.int .i64 0, .string ⟨#[]⟩, .int .i64 0, .slice none 0 0, .slice none 0 0, .slice none 0 0, .slice none 0 0] 63)) := (Below.refl _ _).alloc (Nat.le_refl _) _
  exact ⟨h.be.trans (hb.mono h.be.size), ZV.al W, fun q e => by cases e; exact h.be.size⟩
theorem BW.drew (h : BW W0 W z) : BW W0 W.drew z := ⟨⟨h.be.os, h.be.tape, h.be.output, h.be.size, h.be.block⟩, h.zz, h.zq⟩
structure JW (W0 W : World) (b2 : Nat) (pl : PN RS) (z : Option Nat) : Prop where
  j : ∃ P, JJ b2 (FinR b2) pl [] P W ∧ (∀ i, P i → W0.heap.size ≤ i) ∧ ∀ q, z = some q → ¬ P q
  be : Below W0.heap.size W0 W
  zz : ZV z W
  zq : ∀ q, z = some q → W0.heap.size ≤ q
theorem JW.of {e : Ending} (h : MK FinR pl W W' e) (hb : BW W0 W z) : ∃ b2, e = .returned (.pointer (some ⟨b2, 0, none⟩)) ∧ Hid (JW W0 W' b2 pl z) := by
  obtain ⟨b, P, rfl, hJ, hB, hP⟩ := h
  have hs := hb.be.size
  exact ⟨b, rfl, ⟨P, hJ, fun i hi => by have := hP i hi; omega, fun q e hp => by have := hP q hp; have := (hb.zz q e).lt; omega⟩, hb.be.trans (hB.mono hs), hb.zz.bel hB, hb.zq⟩
theorem JW.al (h : JW W0 W b2 pl none) : JW W0 (W.alloc (.cells #[.int .i64 0, .string ⟨#[]⟩, .int .i64 0, .slice none 0 0, .slice none 0 0, .slice none 0 0, .slice none 0 0] 63)) b2 pl (some W.heap.size) := by
  have hb : Below W.heap.size W (W.alloc (.cells #[.int .i64 0, .string ⟨#[]⟩, .int .i64 0, .slice none 0 0, .slice none 0 0, .slice none 0 0, .slice none 0 0] 63)) := (Below.refl _ _).alloc (Nat.le_refl _) _
  obtain ⟨P, hJ, hP, _⟩ := h.j
  have hl := hJ.lt
  exact ⟨⟨P, hJ.gs (p := fun i => W.heap.size ≤ i) (fkR b2) (Gs.of_below _ hb) (fun i hi hn => by have := hl i hi; omega), hP, fun q e hp => by cases e; have := hl _ hp; omega⟩, h.be.trans (hb.mono h.be.size), ZV.al W, fun q e => by cases e; exact h.be.size⟩
structure RW (W0 W : World) (b2 : Nat) (x : RS) (k : Nat) (Py : Nat → Prop) (sv : Value) (S : List SS) (bs : List (Nat × Nat)) (ids tx : Value) (z : Option Nat) : Prop where
  yp : YP Py W sv S bs
  gs : Gs (Qs bs) W0 W
  fin : ∃ P A, FinR b2 x A P W ∧ A.length = k ∧ P b2 ∧ (∀ i, P i → W0.heap.size ≤ i ∧ i < W.heap.size) ∧ ∀ q, z = some q → ¬ P q
  la : Zq.Sh.Laid W
  ti : TS W0.heap.size ids x.ids W
  tt : TS W0.heap.size tx x.tx W
  zz : ZV z W
  zq : ∀ q, z = some q → W0.heap.size ≤ q ∧ ids.ownBlock ≠ some q ∧ tx.ownBlock ≠ some q
theorem RW.al (h : RW W0 W b2 x k Py sv S bs ids tx none) : RW W0 (W.alloc (.cells #[.int .i64 0, .string ⟨#[]⟩, .int .i64 0, .slice none 0 0, .slice none 0 0, .slice none 0 0, .slice none 0 0] 63)) b2 x k Py sv S bs ids tx (some W.heap.size) := by
  have hb : Below W.heap.size W (W.alloc (.cells #[.int .i64 0, .string ⟨#[]⟩, .int .i64 0, .slice none 0 0, .slice none 0 0, .slice none 0 0, .slice none 0 0] 63)) := (Below.refl _ _).alloc (Nat.le_refl _) _
  obtain ⟨P, A, hF, hA, hPb, hP, _⟩ := h.fin
  have h1 := h.ti.lt
  have h2 := h.tt.lt
  have hs := hb.size
  refine ⟨h.yp.bel hb, h.gs.bel hb, ⟨P, A, (fkR b2).gs (p := fun i => W.heap.size ≤ i) hF (Gs.of_below _ hb) hPb (fun i hi hn => by have := (hP i hi).2; omega), hA, hPb, fun i hi => ⟨(hP i hi).1, by have := (hP i hi).2; omega⟩, fun q e hp => by cases e; have := (hP _ hp).2; omega⟩, h.la.below hb h.la.size, h.ti.kb fun i hi => hb.block i (h1 i hi).2, h.tt.kb fun i hi => hb.block i (h2 i hi).2, ZV.al W, fun q e => ?_⟩
  cases e
  exact ⟨h.gs.size, fun e => by have := (h1 _ e).2; omega, fun e => by have := (h2 _ e).2; omega⟩
theorem go_run (hJ : JW W0 W b2 pl z) (hY : YP Py W0 sv S bs) (hPy : ∀ i, Py i → 2 ≤ i ∧ i < W0.heap.size) (hG : GD g S) (ht : pl.tr S = L) (hx : pl.res S = x) (hS : ySs S L = S') (hg : g + L.length ≤ 1000) (hq : ∀ q ∈ L, q.n.size ≤ maxLen ∧ q.d.size ≤ maxLen) (hIl : x.ids.length ≤ 1000000000000) (hTl : x.tx.length ≤ 1000000000000) (hLw : Zq.Sh.Laid W0) :
    Calls Tryz.prog 33 #[.pointer (some ⟨b2, 0, none⟩), sv] W fun e w' => ∃ ai ci at_ ct, e = .returned (.tuple #[.agg #[.int .i64 x.c, .string ⟨#[]⟩, .int .i64 x.n, .slice ai x.ids.length ci, .slice at_ x.tx.length ct, .slice none 0 0, .slice none 0 0], .bool true]) ∧ Hid (RW W0 w' b2 x L.length Py sv S' bs (.slice ai x.ids.length ci) (.slice at_ x.tx.length ct) z) := by
  obtain ⟨P, hj, hP, hzp⟩ := hJ.j
  have hsz := hLw.size
  have hbs := hJ.be.size
  have hl := hj.lt
  have hR := run_jobx (g := g) (fkR b2) (fun x => x) (fun _ _ _ _ h => h) hj (hY.bel hJ.be) (fun i hi hy => by have := hP i hi; have := (hPy i hy).2; omega) (fun i hi => by have := (hPy i hi).2; omega) hG (by rw [ht]; exact hg) (by rw [ht]; exact hq) (by rw [hx]; exact hIl) (by rw [hx]; exact hTl) (hLw.below hJ.be hLw.size) (fun i hi => by have := hP i hi; omega) (fun i hi => (hPy i (hY.qs hi)).1)
  refine hR.mono ?_
  rintro e w' ⟨iv, tv, rfl, hI, hT, hN⟩
  simp only [hx] at hI hT
  obtain ⟨ai, ci, rfl⟩ := hI.shp
  obtain ⟨at_, ct, rfl⟩ := hT.shp
  refine ⟨ai, ci, at_, ct, by simp only [hx], ?_⟩
  obtain ⟨P', hF, hPb, hPP⟩ := hN.f
  rw [hx, ht] at hF
  have hy := hN.y
  rw [ht, hS] at hy
  have hgs := hN.g.size
  have hFlt : ∀ i, P' i → i < w'.heap.size ∨ True := fun i _ => .inr trivial
  have hlI := hI.lt
  have hlT := hT.lt
  have hqn : ∀ q, z = some q → ¬ (P q ∨ Qs bs q) := by
    rintro q e (h | h)
    · exact hzp q e h
    · have h1 := (hPy q (hY.qs h)).2
      have h2 := hJ.zq q e
      omega
  refine ⟨hy, ?_, ?_, hN.l, hI.low (by omega), hT.low (by omega), fun q e => (hJ.zz q e).gs hN.g (hqn q e), fun q e => ?_⟩
  · exact (Gs.of_below _ hJ.be).tr2 hN.g fun i hi h => by
      rcases h with h | h
      · have := hP i h; omega
      · exact h
  · obtain ⟨i0, t0, hJB, h1, h2⟩ := hF
    have hbl := hJB.lt
    refine ⟨fun i => P' i ∧ i < w'.heap.size, _, ⟨i0, t0, hJB, h1.old.mono fun i hi => ⟨⟨hi.1.1, hi.2⟩, hi.1.2⟩, h2.old.mono fun i hi => ⟨⟨hi.1.1, hi.2⟩, hi.1.2⟩⟩, yRs_len _ _, ⟨hPb, hbl⟩, fun i hi => ⟨?_, hi.2⟩, fun q e hp => ?_⟩
    · rcases hPP i hi.1 with h | h
      · exact hP i h
      · omega
    · rcases hPP q hp.1 with h | h
      · exact hzp q e h
      · have := (hJ.zz q e).lt; omega
  · have hlt := (hJ.zz q e).lt
    exact ⟨hJ.zq q e, fun h => by have := (hlI _ h).1; omega, fun h => by have := (hlT _ h).1; omega⟩
structure RV (W0 W : World) (b2 : Nat) (x : RS) (k : Nat) (Py : Nat → Prop) (sv : Value) (S : List SS) (bs : List (Nat × Nat)) (ids tx : Value) (q : Nat) : Prop where
  yp : YP Py W sv S bs
  gs : Gs (Qs bs) W0 W
  fin : ∃ P A, FinR b2 x A P W ∧ A.length = k ∧ P b2 ∧ (∀ i, P i → W0.heap.size ≤ i ∧ i < W.heap.size) ∧ ¬ P q
  la : Zq.Sh.Laid W
  ti : TS W0.heap.size ids x.ids W
  tt : TS W0.heap.size tx x.tx W
  r7 : R7 W q x.c x.n ids tx
  q0 : W0.heap.size ≤ q
theorem RW.store (h : RW W0 W b2 x k Py sv S bs ids tx (some q)) (hPy : ∀ i, Py i → 2 ≤ i ∧ i < W0.heap.size) (h2 : 2 ≤ W0.heap.size) :
    ∃ V, (Instr.storeAt 63 (.pointer (some ⟨q, 0, none⟩)) (.agg #[.int .i64 x.c, .string ⟨#[]⟩, .int .i64 x.n, ids, tx, .slice none 0 0, .slice none 0 0])).run Tryz.prog W = .ok () V ∧ Hid (RV W0 V b2 x k Py sv S bs ids tx q) := by
  have hZ : R7 W q 0 0 (.slice none 0 0) (.slice none 0 0) := h.zz q rfl
  obtain ⟨hq0, hqi, hqt⟩ := h.zq q rfl
  obtain ⟨ai, ci, hei⟩ := h.ti.shp
  obtain ⟨at_, ct, het⟩ := h.tt.shp
  have hrun := store_run (t := 63) (o := 0) hZ #[.int .i64 x.c, .string ⟨#[]⟩, .int .i64 x.n, ids, tx, .slice none 0 0, .slice none 0 0] (Nat.le_of_ble_eq_true rfl) Tryz.sizeR (by rw [hei, het]; simp [Value.oneCell'])
  obtain ⟨V, hV⟩ : ∃ V, V = W.setCells q 0 [.int .i64 x.c, .string ⟨#[]⟩, .int .i64 x.n, ids, tx, .slice none 0 0, .slice none 0 0] := ⟨_, rfl⟩
  have hRV : R7 V q x.c x.n ids tx := by
    have h1 := setCells_self [.int .i64 x.c, .string ⟨#[]⟩, .int .i64 x.n, ids, tx, .slice none 0 0, .slice none 0 0] 0 W _ hZ
    rw [← hV] at h1
    simpa [putAll, R7] using h1
  simp only [] at hrun
  rw [← hV] at hrun
  have hGV : Gs (fun i => i = q) W V := by rw [hV]; exact Gs.cells _ _ _ (Gs.refl _ _) (.inl rfl)
  refine ⟨V, hrun, ?_⟩
  have hVs := hGV.size
  have k1 := h.ti.lt
  have k2 := h.tt.lt
  obtain ⟨P, A, hF, hA, hPb, hP, hnP⟩ := h.fin
  have hnPq := hnP q rfl
  refine ⟨h.yp.gs hGV fun i hi e => by have := (hPy i hi).2; omega, h.gs.tr2 hGV fun i hi e => by omega, ⟨P, A, (fkR b2).gs (p := fun i => i = q) hF hGV hPb (fun i hi e => hnPq (e ▸ hi)), hA, hPb, fun i hi => ⟨(hP i hi).1, by have := (hP i hi).2; omega⟩, hnPq⟩, laid_gs h.la hGV fun i hi => by omega, h.ti.kb fun i hi => hGV.block i (k1 i hi).2 (fun e => hqi (e ▸ hi)), h.tt.kb fun i hi => hGV.block i (k2 i hi).2 (fun e => hqt (e ▸ hi)), hRV, hq0⟩
end
end Go.Proofs.YtagijldedngcoaaGreatDoor

namespace Go.Proofs.YtagijldedngcoaaGreatDoor
open Go.RowKit Go.Lib Go.Maps
section
variable {P : Program} {md : Region.Mode} {ops : Array Oper} {Q : Exit → Act → World → Prop}
theorem count_down {lis : Array Bool} {j : Nat} (h : lis.getD j true = false) : (lis.setIfInBounds j true).toList.count false + 1 = lis.toList.count false := by
  have hj : j < lis.size := by
    rcases Nat.lt_or_ge j lis.size with h1 | h1
    · exact h1
    · simp [Array.getElem?_eq_none h1] at h
  have hv : lis[j] = false := by simpa [hj] using h
  have hm : false ∈ lis.toList := by rw [← hv]; simp
  have hp := List.count_pos_iff.2 hm
  rw [Array.toList_setIfInBounds, List.count_set (by simpa using hj)]
  have : lis.toList[j]'(by simpa using hj) = false := by simpa using hv
  rw [this]
  show lis.toList.count false - 1 + 0 + 1 = _
  omega
theorem any_inv (I : Array Bool → Act → World → Prop)
    (hs : ∀ lis a w j, I lis a w → j ∈ Region.ready md ops lis → wpOp P ops Q j (fun a' w' => I (lis.setIfInBounds j true) a' w') a w)
    (he : ∀ lis a w, I lis a w → Region.ready md ops lis = [] → Q .normal a w) :
    ∀ (f : Nat) (lis : Array Bool) (a : Act) (w : World), lis.toList.count false ≤ f → I lis a w → wpAny P md ops Q f lis a w
  | 0, lis, a, w, hc, h => by
    have hr : Region.ready md ops lis = [] := by
      apply List.eq_nil_iff_forall_not_mem.2
      intro j hj
      have := count_down (mem_ready.1 hj).1
      omega
    exact ⟨hr, he lis a w h hr⟩
  | f + 1, lis, a, w, hc, h => ⟨fun hr => he _ _ _ h hr, fun j hj => wpOp_mono (fun a' w' k => any_inv I hs he f _ a' w' (by have := count_down (mem_ready.1 hj).1; omega) k) (hs lis a w j h hj)⟩
theorem ready_done {lis : Array Bool} {j : Nat} {o : Oper} (hr : Region.ready md ops lis = []) (ho : ops[j]? = some o) (hd : ∀ e ∈ o.after, Region.binds md e = true → lis.getD e.on false = true) : lis.getD j true = true := by
  cases h : lis.getD j true with
  | true => rfl
  | false =>
    have : j ∈ Region.ready md ops lis := mem_ready.2 ⟨h, o, ho, hd⟩
    rw [hr] at this
    cases this
theorem AnyZ.two {S : World → Prop} {z i j : Nat} {oi oj : Oper} {f : Nat} {lis : Array Bool} {a : Act} {w : World} (hr : Region.ready md ops lis = [i, j]) (hi : ops[i]? = some oi) (hj : ops[j]? = some oj)
    (h1 : ∀ K' : Act → World → Prop, Shut (∀ a w, (i ≠ z → S w) → ((i ≠ z → S w) → AnyZ P md ops Q S z f (lis.setIfInBounds i true) a w) → K' a w) → if Region.wanted oi (yielded ops a.tmps) = true then Oper.wp P oi a w K' Q else K' (a.put oi.dst undef) w)
    (h2 : ∀ K' : Act → World → Prop, Shut (∀ a w, (j ≠ z → S w) → ((j ≠ z → S w) → AnyZ P md ops Q S z f (lis.setIfInBounds j true) a w) → K' a w) → if Region.wanted oj (yielded ops a.tmps) = true then Oper.wp P oj a w K' Q else K' (a.put oj.dst undef) w) :
    AnyZ P md ops Q S z (f + 1) lis a w := by
  refine ⟨fun h0 => (by rw [hr] at h0; cases h0), fun t ht => ?_⟩
  rw [hr] at ht
  have : t = i ∨ t = j := by simpa using ht
  rcases this with rfl | rfl
  · exact wpOp_step hi fun K' hK => h1 K' fun a w hS hW => hK a w ⟨hS, hW hS⟩
  · exact wpOp_step hj fun K' hK => h2 K' fun a w hS hW => hK a w ⟨hS, hW hS⟩
theorem ready_lt {lis : Array Bool} {j : Nat} (hj : j ∈ Region.ready md ops lis) : j < ops.size := by
  obtain ⟨_, o, ho, _⟩ := mem_ready.1 hj
  exact (Array.getElem?_eq_some_iff.1 ho).1
theorem ready_dep {lis : Array Bool} {j i : Nat} (hj : j ∈ Region.ready md ops lis) (hw : waitsB md ops j i = true) : lis.getD i false = true := by
  obtain ⟨_, o, ho, hall⟩ := mem_ready.1 hj
  unfold waitsB at hw
  rw [ho] at hw
  obtain ⟨k, hk, he⟩ := Array.any_eq_true.1 hw
  simp only [Bool.and_eq_true, beq_iff_eq] at he
  have h1 := hall _ (Array.getElem_mem hk) he.1
  rw [he.2] at h1
  exact h1
theorem ready_new {lis : Array Bool} {j : Nat} (hj : j ∈ Region.ready md ops lis) : lis.getD j true = false := (mem_ready.1 hj).1
def freeB (md : Region.Mode) (ops : Array Oper) (lis : Array Bool) (j : Nat) : Bool := match ops[j]? with
  | some o => o.after.toList.all fun e => !Region.binds md e || lis.getD e.on false
  | none => false
theorem ready_all {lis : Array Bool} {j : Nat} (hr : Region.ready md ops lis = []) (hf : freeB md ops lis j = true) : lis.getD j true = true := by
  unfold freeB at hf
  cases ho : ops[j]? with
  | none => rw [ho] at hf; cases hf
  | some o =>
    rw [ho] at hf
    refine ready_done hr ho fun e he hb => ?_
    have := List.all_eq_true.1 hf e (by simpa using he)
    simpa [hb] using this
theorem region_inv {id : Nat} {a : Act} {w : World} (hm : P.follows .mixedOrders = true) (J : Act → Array Bool → Act → World → Prop)
    (h0 : J a (Array.replicate ops.size false) a w.drew)
    (hs : ∀ lis a' w' j, J a lis a' w' → j ∈ Region.ready .any ops lis → wpOp P ops Q j (fun a'' w'' => J a (lis.setIfInBounds j true) a'' w'') a' w')
    (he : ∀ lis a' w', J a lis a' w' → Region.ready .any ops lis = [] → Q .normal a' w') : (Code.region id ops true).wp P Q a w :=
  wp_region_any hm (any_inv (J a) hs he _ _ _ _ (by simp) h0)
def sel (d : Bool) (x y : Value) : Value := if d = true then x else y
theorem sel_t (x y : Value) : sel true x y = x := rfl
theorem sel_f (x y : Value) : sel false x y = y := rfl
end
end Go.Proofs.YtagijldedngcoaaGreatDoor

namespace Go.Proofs.YtagijldedngcoaaGreatDoor
open Go.RowKit Go.Lib Go.Maps
section
variable {w w6 W : World} {X b b2 q : Nat} {sv : Value} {bs : List (Nat × Nat)} {z : Option Nat}
theorem sum_at {B : Nat} {s : ByteArray} (hL : Zq.Sh.Laid W) (hB : B < W.heap.size) (hc : W.cell? ⟨B, 0, none⟩ = some (.string s)) (hs : s.size ≤ 1000000) :
    Calls Tryz.prog 37 #[.slice (some ⟨B, 0, none⟩) 1 1] W fun e w' => e = .returned (.string (Zq.bs (Zq.Sh.digest s.data.toList))) ∧ Below W.heap.size W w' := by
  have hp : Zq.Sh.Pieces W (.slice (some ⟨B, 0, none⟩) 1 1) [s] := ⟨_, 1, rfl, .inr ⟨B, 0, rfl, hB, fun k hk => by
    have : k = 0 := by simpa using hk
    subst this
    exact hc⟩⟩
  refine (Zq.Sh.sum_any hL hp (by simp) (by simp [Zq.Sh.joined]; omega)).mono ?_
  rintro e w1 ⟨rfl, hb1⟩
  rw [Zq.joined_one]
  exact ⟨rfl, hb1⟩
abbrev KC2 (X : Nat) (W : World) : Prop := W.cell? ⟨X, 0, none⟩ = some (.int .i64 2) ∧ W.cell? ⟨X, 1, none⟩ = some (.int .i64 1)
theorem KC2.of (h : W.heap[X]? = some (.cells #[.int .i64 2, .int .i64 1] 27 (0, 0))) : KC2 X W := ⟨by simp [World.cell?, h], by simp [World.cell?, h]⟩
theorem W6.kc (h : W6 w w6 X b sv bs) (hb : Below w6.heap.size w6 W) : KC2 X W := KC2.of ((hb.block X (lt_of_block h.kt)).trans h.kt)
theorem w_sum {B : Nat} (h : W6 w w6 X b sv bs) (hz : BW w6 W z) (hB : B < W.heap.size) (hc : W.cell? ⟨B, 0, none⟩ = some (.string ⟨#[97, 98, 99]⟩)) :
    Calls Tryz.prog 37 #[.slice (some ⟨B, 0, none⟩) 1 1] W fun e w7 => e = .returned (.string wD) ∧ Hid (BW w6 w7 z) ∧ KC2 X w7 := by
  refine (sum_at (h.la.below hz.be h.la.size) hB hc (by decide)).mono ?_
  rintro e w7 ⟨rfl, hb⟩
  have := hz.bel hb
  exact ⟨rfl, this, h.kc this.be⟩
theorem w_job (h : W6 w w6 X b sv bs) (hz : BW w6 W z) :
    Calls Tryz.prog 25 #[.agg #[.int .i64 2, .int .i64 1], .string ⟨#[97]⟩, .string wD] W fun e w' => ∃ b2, e = .returned (.pointer (some ⟨b2, 0, none⟩)) ∧ Hid (JW w6 w' b2 (getP 2 1 wA wD kGet) z) ∧ KC2 X w' := by
  have hox : OXGet 2 1 wA wD (getP 2 1 wA wD kGet) := ox_get (K := 2) (M := 1) (by decide) (by decide)
  refine (ogetjob (w := W) hox (h.la.below hz.be h.la.size)).mono ?_
  intro e w' hM
  obtain ⟨b2, rfl, hJ⟩ := JW.of hM hz
  exact ⟨b2, rfl, hJ, h.kc hJ.out.be⟩
theorem w_run (h : W6 w w6 X b sv bs) (hJ : JW w6 W b2 (getP 2 1 wA wD kGet) z) :
    Calls Tryz.prog 33 #[.pointer (some ⟨b2, 0, none⟩), sv] W fun e w9 => ∃ ai ci at_ ct, e = .returned (.tuple #[.agg #[.int .i64 0, .string ⟨#[]⟩, .int .i64 0, .slice ai 0 ci, .slice at_ 1 ct, .slice none 0 0, .slice none 0 0], .bool true]) ∧ Hid (RW w6 w9 b2 ⟨0, 0, [], [wT]⟩ 3 (fun i => X < i ∧ i < b) sv (sts 1000 3 wA wO) bs (.slice ai 0 ci) (.slice at_ 1 ct) z) ∧ KC2 X w9 := by
  obtain ⟨ids, tx, hj⟩ := h.jb
  have hbl := hj.lt
  have hk : kGet ((fnd 2 1 wD (wO.map gans)).d, (fnd 2 1 wD (wO.map gans)).e) = .fin ⟨0, 0, [], [wT]⟩ := by
    rw [wD, wF]; rfl
  obtain ⟨t1, t2, t3⟩ := getP_sts (K := 2) (M := 1) (q := 1000) (m := 2) (nm := wA) (O := wO) rfl hk
  have hX := lt_of_block h.kt
  have hw2 := h.w2
  have hxx := h.xx
  refine (go_run (g := 2) hJ h.yp (fun i hi => by omega) (sts_gd (by decide) (by decide) (by decide) (by decide) (fun d hd => by
    have : d = Zq.shB 2 1 wT 0 ∨ d = Zq.shB 2 1 wT 2 := by simpa [wO] using hd
    rcases this with rfl | rfl <;> (rw [shB_size (by decide)]; decide))) t1 t2 t3 (by rw [aq_len]; decide) (by
      intro q hq
      obtain ⟨i, _, rfl⟩ := List.mem_map.1 hq
      exact ⟨show wA.size ≤ maxLen by decide, show (⟨#[]⟩ : ByteArray).size ≤ maxLen by decide⟩) (by simp) (by simp) h.la).mono ?_
  rintro e w9 ⟨ai, ci, at_, ct, rfl, hR⟩
  rw [aq_len] at hR
  refine ⟨ai, ci, at_, ct, rfl, hR, KC2.of ?_⟩
  rw [hR.out.gs.block X hX (fun hi => by have := h.yp.qs hi; omega)]
  exact h.kt
theorem w_store {ids tx : Value} (h : W6 w w6 X b sv bs) (hR : RW w6 W b2 ⟨0, 0, [], [wT]⟩ 3 (fun i => X < i ∧ i < b) sv (sts 1000 3 wA wO) bs ids tx (some q)) :
    ∃ V, (Instr.storeAt 63 (.pointer (some ⟨q, 0, none⟩)) (.agg #[.int .i64 0, .string ⟨#[]⟩, .int .i64 0, ids, tx, .slice none 0 0, .slice none 0 0])).run Tryz.prog W = .ok () V ∧ Hid (RV w6 V b2 ⟨0, 0, [], [wT]⟩ 3 (fun i => X < i ∧ i < b) sv (sts 1000 3 wA wO) bs ids tx q) ∧ KC2 X V := by
  obtain ⟨_, _, hj⟩ := h.jb
  have hbl := hj.lt
  have hX := lt_of_block h.kt
  have hw2 := h.w2
  have hxx := h.xx
  obtain ⟨V, h1, h2⟩ := hR.store (fun i hi => by omega) (by omega)
  refine ⟨V, h1, h2, KC2.of ?_⟩
  rw [h2.out.gs.block X hX (fun hi => by have := h.yp.qs hi; omega)]
  exact h.kt
theorem w_end {ai at_ : Option Addr} {ci ct : Nat} {V : World} (h : W6 w w6 X b sv bs) (hV : RV w6 V b2 ⟨0, 0, [], [wT]⟩ 3 (fun i => X < i ∧ i < b) sv (sts 1000 3 wA wO) bs (.slice ai 0 ci) (.slice at_ 1 ct) q) :
    ∃ gt ot, at_ = some ⟨gt, ot, none⟩ ∧ V.cell? ⟨q, 0, none⟩ = some (.int .i64 0) ∧ V.cell? ⟨q, 4, none⟩ = some (.slice (some ⟨gt, ot, none⟩) 1 ct) ∧ V.cell? ⟨gt, ot, none⟩ = some (.string ⟨#[97, 98, 99]⟩) ∧ Hid (Calls Tryz.prog 31 #[.pointer (some ⟨b, 0, none⟩)] V fun e w' => e = .returned (.int .i64 6) ∧ w' = V) ∧ Hid (Below w.heap.size w V) := by
  obtain ⟨ids, tx, hj⟩ := h.jb
  obtain ⟨a, c, e, _, hl | ⟨gt, ot, ea, hr, hg, hG⟩⟩ := hV.tt.ls (r := fun i => (Value.slice at_ 1 ct).ownBlock = some i) fun i hi => hi
  · cases hl
  injection e with e1 _ _
  subst e1
  subst ea
  have hxx := h.xx
  refine ⟨gt, ot, rfl, hV.r7.cell 0, hV.r7.cell 4, ?_, steps_any (hj.gs hV.gs fun hi => by have := h.yp.qs hi; omega), hV.gs.below h.be h.be.size fun i hi => by have := h.yp.qs hi; omega⟩
  have := hG 0 wT rfl 0 _ rfl
  simpa [wT] using this
end
end Go.Proofs.YtagijldedngcoaaGreatDoor
