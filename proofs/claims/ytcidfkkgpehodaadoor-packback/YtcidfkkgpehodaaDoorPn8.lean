/-
  Contracts of the program and of the statements (part 8 of 12).
-/
import Derived.Test.YtcidfkkgpehodaaDoorPn7
import Derived.Deep.RegionHeldLaw
import Derived.BigQuiet

namespace Go.Proofs.YtcidfkkgpehodaaDoor
open Go.RowKit Go.Lib
theorem Tryd.infoI32 : (Tryd.prog.info? 21).map (fun i => (i.zero, i.size, i.bytes)) = some (some (.int .i32 0), 1, 4) := by kernel_rfl
theorem Tryd.sizeSI : (Tryd.prog.info? 116).map (·.size) = some 1 := by kernel_rfl
def ic (z : Int) : List Value := [.int .i32 z]
theorem ic_len (z : Int) : (ic z).length = 1 := rfl
abbrev IO (B : Nat) (v : Value) (l : List Int) (w : World) : Prop := OW ic 1 21 B v l w
theorem step_append_run {P : Program} {ops : Array Oper} {o : Oper} {a : Act} {w : World} {K : Act → World → Prop} {Q : Exit → Act → World → Prop} {E : Prop} (hgd : o.guard = none) (dst : Option Tmp) (hdst : o.dst = dst) (s x : Operand) (t tn : TypeId)
    (ho : o.op = .call { callee := .builtin .append, args := #[s, x], argTypes := #[t, tn] }) (vs vx : Value) (hs : a.eval s = vs) (hx : a.eval x = vx)
    (v' : Value) (w' : World) (hr : (Builtin.append_ #[t, tn] o.type #[vs, vx]).run P w = .ok v' w') (h : K (a.put dst v') w') :
    if Region.wanted o (yielded ops a.tmps) = true then Oper.wp P o a w K Q else E := by
  have hw : Region.wanted o (yielded ops a.tmps) = true := by simp [Region.wanted, hgd]
  rw [if_pos hw]
  subst hdst
  unfold Oper.wp
  simp [execOp, ho, resolve, invoke, builtin, hs, hx, hr, Result.andThen]
  exact h
/-- A finder in memory, that has looked at k places. -/
structure FD (B : Nat) (w : World) (b mb : Nat) (v : Value) (s : ByteArray) (k : Nat) : Prop where
  fb : FB w b s mb v
  mp : MF w mb s k
  ro : IO B v ((List.range k).map (bf s)) w
  le : B ≤ w.heap.size
/-- A finder's blocks. -/
def FO (v : Value) (b mb : Nat) (i : Nat) : Prop := i = b ∨ i = mb ∨ v.ownBlock = some i
/-- A list's block is as it was, or new. -/
def FN (v v' : Value) (n : Nat) : Prop := v'.ownBlock = v.ownBlock ∨ ∃ j, v'.ownBlock = some j ∧ n ≤ j
section
variable {w w' w1 w2 : World} {B b mb k i : Nat} {s : ByteArray} {v v1 v2 : Value} {l : List Int}
theorem own_ne (h : IO B v l w) (hf : FB w b s mb v1) (e : v.ownBlock = some b) : False := by
  obtain ⟨cs, hc⟩ := h.typ b e
  have h2 : w.heap[b]? = _ := hf
  rw [hc] at h2
  simp at h2
theorem own_nm (h : IO B v l w) (hm : MF w mb s k) (e : v.ownBlock = some mb) : False := by
  obtain ⟨cs, hc⟩ := h.typ mb e
  exact hm.notCells hc
theorem FN.refl (v : Value) (n : Nat) : FN v v n := .inl rfl
theorem FN.trans (h : FN v v1 w.heap.size) (h2 : FN v1 v2 w1.heap.size) (hs : w.heap.size ≤ w1.heap.size) : FN v v2 w.heap.size := by
  rcases h2 with h2 | ⟨j, h2, h3⟩
  · rcases h with h | ⟨j, h, h4⟩
    · exact .inl (h2.trans h)
    · exact .inr ⟨j, h2.trans h, h4⟩
  · exact .inr ⟨j, h2, by omega⟩
theorem FO.trans (h : Gs (FO v b mb) w w1) (hn : FN v v1 w.heap.size) (h2 : Gs (FO v1 b mb) w1 w2) : Gs (FO v b mb) w w2 :=
  ⟨h2.os.trans h.os, h2.tape.trans h.tape, h2.output.trans h.output, Nat.le_trans h.size h2.size, fun i hi hp => (h2.block i (Nat.lt_of_lt_of_le hi h.size) (fun e => by
    rcases e with e | e | e
    · exact hp (.inl e)
    · exact hp (.inr (.inl e))
    · rcases hn with hn | ⟨j, hn, hj⟩
      · exact hp (.inr (.inr (hn.symm.trans e)))
      · rw [hn] at e
        simp at e
        omega)).trans (h.block i hi hp)⟩
theorem FD.ne (h : FD B w b mb v s k) : b ≠ mb := fun e => by
  subst e
  exact h.mp.notCells h.fb
theorem FD.nm (h : FD B w b mb v s k) : ∀ j, v.ownBlock = some j → j ≠ mb := fun j hj e => by
  subst e
  exact own_nm h.ro h.mp hj
theorem FD.nb (h : FD B w b mb v s k) : ∀ j, v.ownBlock = some j → j ≠ b := fun j hj e => by
  subst e
  exact own_ne h.ro h.fb hj
theorem FD.same (h : FD B w b mb v s k) (hg : Same w w') : FD B w' b mb v s k := ⟨h.fb.gs hg (fun e => e), h.mp.gs hg (fun e => e), h.ro.gs2 hg (fun _ _ e => e), Nat.le_trans h.le hg.size⟩
theorem FD.gs {p : Nat → Prop} (h : FD B w b mb v s k) (hg : Gs p w w') (hp : ∀ i, FO v b mb i → ¬ p i) : FD B w' b mb v s k := ⟨h.fb.gs hg (hp _ (.inl rfl)), h.mp.gs hg (hp _ (.inr (.inl rfl))), h.ro.gs2 hg (fun _ hi => hp _ (.inr (.inr hi))), Nat.le_trans h.le hg.size⟩
/-- A finder's blocks are there. -/
theorem FD.there (h : FD B w b mb v s k) (hi : FO v b mb i) : i < w.heap.size := by
  rcases hi with rfl | rfl | hi
  · exact h.fb.lt
  · exact h.mp.lt
  · exact (h.ro.lt i hi).2
theorem app_i (h : IO B v l w1) (z : Int) (hl : l.length ≤ 100000) (hB : B ≤ w1.heap.size) :
    ∃ v' w2, (Builtin.append_ #[116, 116] 116 #[v, .slice (some ⟨w1.heap.size, 0, none⟩) 1 1]).run Tryd.prog (w1.alloc (.cells #[.int .i32 z] 21)) = .ok v' w2 ∧ IO B v' (l ++ [z]) w2 ∧ Gs (fun i => v.ownBlock = some i) w1 w2 ∧ (v'.ownBlock = v.ownBlock ∨ v'.ownBlock = some (w1.heap.size + 1)) := by
  have hb1 : Below w1.heap.size w1 (w1.alloc (.cells #[.int .i32 z] 21)) := (Below.refl _ _).alloc (Nat.le_refl _) _
  have hS : LS ic 1 (fun _ => True) (w1.alloc (.cells #[.int .i32 z] 21)) (.slice (some ⟨w1.heap.size, 0, none⟩) 1 1) [z] := LS.one z 21 w1 ic 1 (fun _ => True) trivial
  obtain ⟨v', w2, h1, h2, h3, h4⟩ := (h.keep hb1).app ic_len (by decide) (fun x hx u hu => by
    simp [ic] at hu
    subst hu
    rfl) Tryd.underlying116 Tryd.infoI32 rfl hS (by simp; omega) (by simp; omega) (Nat.le_trans hB hb1.size)
  refine ⟨v', w2, h1, h2, ?_, by rw [World.size_alloc] at h4; exact h4⟩
  have h5 : Gs (fun i => v.ownBlock = some i) w1 (w1.alloc (.cells #[.int .i32 z] 21)) := Gs.of_below _ hb1
  cases hv : v.ownBlock with
  | none =>
    rw [hv] at h3
    refine ⟨h3.os.trans h5.os, h3.tape.trans h5.tape, h3.output.trans h5.output, Nat.le_trans h5.size h3.size, fun i hi hp => (h3.block i (Nat.lt_of_lt_of_le hi hb1.size) (by simp)).trans (hb1.block i hi)⟩
  | some c =>
    rw [hv] at h5 h3
    exact h5.gb h3 (.inl rfl)
theorem sto_i {b j : Nat} {v0 u : Value} {a : Option Addr} {n c : Nat} (h : w.cell? ⟨b, j, none⟩ = some v0) (hf : w.frozen? ⟨b, j, none⟩ = false) (hu : u = .slice a n c) : (Instr.storeAt 116 (.pointer (some ⟨b, j, none⟩)) u).run Tryd.prog w = .ok () (w.setCell ⟨b, j, none⟩ u) := by
  subst hu
  cases hq : Tryd.prog.info? 116 with
  | none => have := Tryd.sizeSI; simp [hq] at this
  | some i =>
    have hs : i.size = 1 := by simpa [hq] using Tryd.sizeSI
    simp [go_sem, sizeOf, typeInfo, hq, hs, h, hf, storeCells]
/-- A number of an own list, as it lies there. -/
theorem IO.cell (h : IO B v l w) {j : Nat} {z : Int} (hj : l[j]? = some z) : ∃ g c, v = .slice (some ⟨g, 0, none⟩) l.length c ∧ w.cell? ⟨g, j, none⟩ = some (.int .i32 z) := by
  have hl : j < l.length := (List.getElem?_eq_some_iff.1 hj).1
  obtain ⟨_, ⟨rfl, h2⟩ | ⟨g, cap, cur, rfl, hB, hg, hn, _, hs, ht⟩⟩ := h.own
  · omega
  · refine ⟨g, cap, rfl, ?_⟩
    rw [cell_of_row w g _ _ _ _ hg]
    have e0 : (l.flatMap ic)[j]? = some (.int .i32 z) := by
      have := flat_get ic_len l j 0 (by decide)
      rw [Nat.mul_one, Nat.add_zero, hj] at this
      rw [this]
      rfl
    rw [← ht, List.getElem?_take, if_pos (by omega)] at e0
    simpa using e0
set_option maxRecDepth 100000 in
set_option maxHeartbeats 3200000 in
theorem seeUp_any (h : FD B w b mb v s k) (hi : i ≤ s.size) (hs : s.size ≤ 5000) : Calls Tryd.prog 100 #[.pointer (some ⟨b, 0, none⟩), .int .i64 (i : Int)] w fun e w' => e = .returned (.tuple #[]) ∧ ∃ v', FD B w' b mb v' s (max k (i + 1)) ∧ Gs (FO v b mb) w w' ∧ FN v v' w.heap.size := by
  have c2 := (cell3 h.fb).2.2
  obtain ⟨av, cv, hv⟩ := h.ro.shp
  rw [List.length_map, List.length_range] at hv
  have H0 := hide (And.intro h hv)
  rw [hv] at c2
  clear h hv
  go_enter Tryd.func100, Tryd.ntmps100
  go_wp2
  go_loopw [4] (fun x wr => ∃ (k2 : Nat) (v2 : Value), x = .int .i64 (k2 : Int) ∧ k ≤ k2 ∧ k2 ≤ max k (i + 1) ∧ FD B wr b mb v2 s k2 ∧ Gs (FO v b mb) w wr ∧ FN v v2 w.heap.size) (fun x _ => i + 1 - (Go.RowKit.intOf x).toNat)
  case atStart => exact ⟨k, v, rfl, Nat.le_refl _, Nat.le_max_left _ _, H0.out.1, Gs.refl _ _, FN.refl _ _⟩
  case round =>
    obtain ⟨k2, v2, rfl, hk1, hk2, hF, hG, hN⟩ := hrel
    by_cases hlt : k2 ≤ i
    · have d1 : (k2 : Int) ≤ (i : Int) := by omega
      have d2 : IntKind.i64.wrap ((k2 : Int) + 1) = (k2 : Int) + 1 := by rw [IntKind.wrap_i64]; omega
      have HSE := hide (see_any (w := wr.drew) hF.fb hF.mp (by omega) hs)
      have HF := hide (And.intro hF (And.intro hF.ne (And.intro hF.nm (And.intro hF.le (And.intro hG hN)))))
      have hHeld : wr.drew.cell? ⟨b, 2, none⟩ = some v2 := (cell3 hF.fb).2.2
      clear hF hG hN
      go_upto_region 3 with fail
      refine AnyZ.start (z := 12) (S := fun w' => w'.cell? ⟨b, 2, none⟩ = some v2) (by kernel_rfl) ?_
      refine AnyZ.take (i := 0) (d := 15) (v := .pointer (some ⟨b, 0, none⟩)) rfl rfl (by kernel_rfl) (by kernel_rfl) (by kernel_rfl) (by kernel_rfl) (fun _ _ _ h => h) (Or.inl ⟨by rfl, fun w' hSw => ?_⟩) hHeld ?_
      · have hc := hSw
        go_simp
      try simp only [List.setIfInBounds_toArray, List.set_cons_zero, List.set_cons_succ]
      refine AnyZ.take (i := 1) (d := 16) (v := .pointer (some ⟨b, 0, none⟩)) rfl rfl (by kernel_rfl) (by kernel_rfl) (by kernel_rfl) (by kernel_rfl) (fun _ _ _ h => h) (Or.inl ⟨by rfl, fun w' hSw => ?_⟩) hHeld ?_
      · have hc := hSw
        go_simp
      try simp only [List.setIfInBounds_toArray, List.set_cons_zero, List.set_cons_succ]
      refine AnyZ.take (i := 2) (d := 17) (v := .pointer (some ⟨b, 0, none⟩)) rfl rfl (by kernel_rfl) (by kernel_rfl) (by kernel_rfl) (by kernel_rfl) (fun _ _ _ h => h) (Or.inl ⟨by rfl, fun w' hSw => ?_⟩) hHeld ?_
      · have hc := hSw
        go_simp
      try simp only [List.setIfInBounds_toArray, List.set_cons_zero, List.set_cons_succ]
      refine AnyZ.take (i := 3) (d := 18) (v := .pointer (some ⟨b, 2, none⟩)) rfl rfl (by kernel_rfl) (by kernel_rfl) (by kernel_rfl) (by kernel_rfl) (fun _ _ _ h => h) (Or.inl ⟨by rfl, fun w' hSw => ?_⟩) hHeld ?_
      · have hc := hSw
        go_simp
      try simp only [List.setIfInBounds_toArray, List.set_cons_zero, List.set_cons_succ]
      refine AnyZ.take (i := 4) (d := 19) (v := v2) rfl rfl (by kernel_rfl) (by kernel_rfl) (by kernel_rfl) (by kernel_rfl) (fun _ _ _ h => h) (Or.inl ⟨by rfl, fun w' hSw => ?_⟩) hHeld ?_
      · have hc := hSw
        go_simp
      try simp only [List.setIfInBounds_toArray, List.set_cons_zero, List.set_cons_succ]
      refine AnyZ.take (i := 5) (d := 20) (v := .pointer (some ⟨b, 0, none⟩)) rfl rfl (by kernel_rfl) (by kernel_rfl) (by kernel_rfl) (by kernel_rfl) (fun _ _ _ h => h) (Or.inl ⟨by rfl, fun w' hSw => ?_⟩) hHeld ?_
      · have hc := hSw
        go_simp
      try simp only [List.setIfInBounds_toArray, List.set_cons_zero, List.set_cons_succ]
      refine AnyZ.take (i := 6) (d := 21) (v := .int .i64 (k2 : Int)) rfl rfl (by kernel_rfl) (by kernel_rfl) (by kernel_rfl) (by kernel_rfl) (fun _ _ _ h => h) (Or.inl ⟨by rfl, fun w' hSw => ?_⟩) hHeld ?_
      · have hc := hSw
        go_simp
      try simp only [List.setIfInBounds_toArray, List.set_cons_zero, List.set_cons_succ]
      refine AnyZ.one (i := 7) (by kernel_rfl) rfl fun K hK => ?_
      go_simp
      refine HSE.out.mono ?_
      rintro e w2 ⟨rfl, hM2, hG2⟩
      have hF2 : FB w2 b s mb v2 := HF.out.1.fb.gs (w := wr) ⟨hG2.os, hG2.tape, hG2.output, hG2.size, hG2.block⟩ HF.out.2.1
      have hO2 := HF.out.1.ro.gs2 (w' := w2) (p := fun i => i = mb) ⟨hG2.os, hG2.tape, hG2.output, hG2.size, hG2.block⟩ (fun i hi => HF.out.2.2.1 i hi)
      have hB2 : B ≤ w2.heap.size := Nat.le_trans HF.out.2.2.2.1 hG2.size
      obtain ⟨v', w3, hap, hO3, hG3, hob⟩ := app_i hO2 (bf s k2) (by rw [List.length_map, List.length_range]; omega) hB2
      have hS2 := (cell3 hF2).2.2
      have hBa : Below w2.heap.size w2 (w2.alloc (.cells #[.int .i32 (bf s k2)] 21)) := (Below.refl _ _).alloc (Nat.le_refl _) _
      have hSa : (w2.alloc (.cells #[.int .i32 (bf s k2)] 21)).cell? ⟨b, 2, none⟩ = some v2 := (cell3 ((hBa.block b hF2.lt).trans hF2)).2.2
      have hF3 : FB w3 b s mb v2 := (hG3.block b hF2.lt (fun e => own_ne hO2 hF2 e)).trans hF2
      have hS3 := (cell3 hF3).2.2
      have hM3 : MF w3 mb s (k2 + 1) := hM2.gs hG3 (fun e => own_nm hO2 hM2 e)
      have f3 := free3 hF3 2
      obtain ⟨ad, cp, hv'⟩ := hO3.shp
      have hst := sto_i hS3 f3 hv'
      have hF4 : FB (w3.setCell ⟨b, 2, none⟩ v') b s mb v' := heap_set_self (u := v') hF3
      have hG4 : Gs (fun i => i = b) w3 (w3.setCell ⟨b, 2, none⟩ v') := (Gs.refl (fun i => i = b) _).set (a := ⟨b, 2, none⟩) (.inl rfl) _
      have hM4 := hM3.gs hG4 (fun e => by subst e; exact hM3.notCells hF3)
      have hO4 := hO3.gs2 hG4 (fun i hi e => own_ne hO3 hF3 (e ▸ hi))
      have hl4 : (List.range k2).map (bf s) ++ [bf s k2] = (List.range (k2 + 1)).map (bf s) := by rw [List.range_succ, List.map_append]; rfl
      rw [hl4] at hO4
      have hGG : Gs (FO v2 b mb) wr (w3.setCell ⟨b, 2, none⟩ v') :=
        ((Gs.mono (w := wr) (w' := w2) (p := fun i => i = mb) ⟨hG2.os, hG2.tape, hG2.output, hG2.size, hG2.block⟩ (fun i _ e => .inr (.inl e))).trans (hG3.mono fun i _ e => .inr (.inr e))).trans (hG4.mono fun i _ e => .inl e)
      have hFN : FN v2 v' wr.heap.size := by
        have h1 : wr.heap.size ≤ w2.heap.size := hG2.size
        rcases hob with h | h
        · exact .inl h
        · exact .inr ⟨_, h, by omega⟩
      have HE : Hid (FD B (w3.setCell ⟨b, 2, none⟩ v') b mb v' s (k2 + 1) ∧ Gs (FO v2 b mb) wr (w3.setCell ⟨b, 2, none⟩ v') ∧ FN v2 v' wr.heap.size) := ⟨⟨hF4, hM4, hO4, Nat.le_trans hB2 (by have := hG3.size; simpa using this)⟩, hGG, hFN⟩
      refine hK.out _ _ (fun _ => hS2) (fun hHeld2 => ?_)
      clear hK K hHeld hM2 hG2 hF2 hO2 hB2 hO3 hG3 hob hBa hF3 hM3 f3 hv' hF4 hG4 hM4 hO4 hl4 hGG hFN
      have hHeld := hS2
      try simp only [Act.put, List.setIfInBounds_toArray, List.set_cons_zero, List.set_cons_succ]
      refine AnyZ.one (i := 8) (by kernel_rfl) rfl fun K hK => ?_
      go_simp
      refine hK.out _ _ (fun _ => hSa) (fun hHeld3 => ?_)
      clear hK K
      try simp only [Act.put, List.setIfInBounds_toArray, List.set_cons_zero, List.set_cons_succ]
      refine AnyZ.one (i := 9) (by kernel_rfl) rfl fun K hK => ?_
      refine step_append_run rfl (some 24) rfl _ _ 116 116 rfl _ _ rfl rfl _ _ hap ?_
      refine hK.out _ _ (fun _ => hS3) (fun hHeld4 => ?_)
      clear hK K hHeld
      have hHeld := hS3
      try simp only [Act.put, List.setIfInBounds_toArray, List.set_cons_zero, List.set_cons_succ]
      refine AnyZ.one (i := 10) (by kernel_rfl) rfl fun K hK => ?_
      go_simp
      refine hK.out _ _ (fun _ => hS3) (fun hHeld5 => ?_)
      clear hK K
      try simp only [Act.put, List.setIfInBounds_toArray, List.set_cons_zero, List.set_cons_succ]
      refine AnyZ.one (i := 11) (by kernel_rfl) rfl fun K hK => ?_
      go_simp
      refine hK.out _ _ (fun _ => hS3) (fun hHeld5 => ?_)
      clear hK K
      try simp only [Act.put, List.setIfInBounds_toArray, List.set_cons_zero, List.set_cons_succ]
      refine AnyZ.one (i := 12) (by kernel_rfl) rfl fun K hK => ?_
      refine step_store_run rfl 116 _ _ rfl _ _ rfl rfl _ hst ?_
      refine hK.out _ _ (fun h => absurd rfl h) (fun _ => ?_)
      clear hK K
      try simp only [Act.put]
      refine AnyZ.done (by kernel_rfl) ?_ _
      clear hHeld
      go_wp2
      exact ⟨⟨k2 + 1, v', by go_num, by omega, by omega, HE.out.1, FO.trans HF.out.2.2.2.2.1 HF.out.2.2.2.2.2 HE.out.2.1, FN.trans HF.out.2.2.2.2.2 HE.out.2.2 HF.out.2.2.2.2.1.size⟩, by simp [Go.RowKit.intOf]; omega⟩
    · have d1 : ¬ (k2 : Int) ≤ (i : Int) := by omega
      have HE := hide (And.intro hF (And.intro hG hN))
      clear hF hG hN
      go_wp2
      go_end0
      have e : k2 = max k (i + 1) := by omega
      rw [e] at HE
      exact ⟨rfl, v2, HE.out⟩
end
end Go.Proofs.YtcidfkkgpehodaaDoor

namespace Go.Proofs.YtcidfkkgpehodaaDoor
open Go.RowKit Go.Lib
/-- A find in a block. -/
def GB (w : World) (g : Nat) (i d l : Nat) : Prop := w.heap[g]? = some (.cells #[.int .i64 (i : Int), .int .i64 (d : Int), .int .i64 (l : Int)] 120 (0, 0))
def gV (i : Nat) (r : Nat × Nat) : Value := .agg #[.int .i64 (i : Int), .int .i64 (r.1 : Int), .int .i64 (r.2 : Int)]
def fv : Option Nat → Int
  | some f => (f : Int)
  | none => -1
section
variable {w w' : World} {B b mb k i : Nat} {s : ByteArray} {v : Value}
theorem bf_fv (s : ByteArray) (i : Nat) : bf s i = fv (pv s i) := by
  rw [bf]
  cases pv s i <;> rfl
theorem FD.row (h : FD B w b mb v s k) (hk : 1 ≤ k) : ∃ p c, v = .slice (some ⟨p, 0, none⟩) k c := by
  obtain ⟨g, c, h1, _⟩ := IO.cell h.ro (j := 0) (z := bf s 0) (by rw [List.getElem?_map, List.getElem?_range hk]; rfl)
  rw [List.length_map, List.length_range] at h1
  exact ⟨g, c, h1⟩
theorem FD.at {p c : Nat} (h : FD B w b mb (.slice (some ⟨p, 0, none⟩) k c) s k) {j : Nat} (hj : j < k) : w.cell? ⟨p, j, none⟩ = some (.int .i32 (bf s j)) := by
  obtain ⟨g, c, h1, h2⟩ := IO.cell h.ro (j := j) (z := bf s j) (by rw [List.getElem?_map, List.getElem?_range hj]; rfl)
  simp only [Value.slice.injEq, Option.some.injEq, Addr.mk.injEq] at h1
  rw [h1.1.1]
  exact h2
theorem bf_range (s : ByteArray) (j : Nat) (hs : s.size ≤ 5000) : -1 ≤ bf s j ∧ bf s j < 5000 := by
  rw [bf]
  cases h : pv s j with
  | none => simp
  | some f =>
    have := pv_some h
    simp only
    omega
set_option maxRecDepth 100000 in
set_option maxHeartbeats 3200000 in
theorem longest_any (h : FD B w b mb v s k) (hi : i ≤ s.size) (hs : s.size ≤ 5000) : Calls Tryd.prog 89 #[.pointer (some ⟨b, 0, none⟩), .int .i64 (i : Int)] w fun e w' => e = .returned (gV i (lo s i)) ∧ ∃ v', FD B w' b mb v' s (max k (i + 1)) ∧ Gs (FO v b mb) w w' ∧ FN v v' w.heap.size := by
  obtain ⟨r, hr⟩ : ∃ r, r = w.heap.size := ⟨_, rfl⟩
  obtain ⟨W, hW⟩ : ∃ W, w.alloc (.cells #[.int .i64 0, .int .i64 0, .int .i64 0] 120) = W := ⟨_, rfl⟩
  have hBW : Below w.heap.size w W := by rw [← hW]; exact (Below.refl _ _).alloc (Nat.le_refl _) _
  have kr : GB W r 0 0 0 := by rw [← hW, hr]; exact heap_alloc_new w _
  have hSW : Same w W := Gs.of_below _ hBW
  have hFW := h.same hSW
  have HU := hide (seeUp_any hFW hi hs)
  have H0 := hide (And.intro h (And.intro hSW (And.intro kr hr)))
  have HW := hide hW
  clear h hr hW hBW kr hSW hFW
  go_enter Tryd.func89, Tryd.ntmps89
  go_wp2_with fail
  rw [HW.out, ← H0.out.2.2.2]
  refine HU.out.mono ?_
  rintro _ w2 ⟨rfl, v1, hF2, hG2, hN2⟩
  obtain ⟨k1, hk1⟩ : ∃ k1, k1 = max k (i + 1) := ⟨_, rfl⟩
  rw [← hk1] at hF2
  obtain ⟨p, c, hv1⟩ := hF2.row (by omega)
  subst hv1
  obtain ⟨g, hg⟩ : ∃ g, g = w2.heap.size := ⟨_, rfl⟩
  obtain ⟨w3, hw3⟩ : ∃ w3, w2.alloc (.cells #[.int .i64 (i : Int), .int .i64 0, .int .i64 0] 120) = w3 := ⟨_, rfl⟩
  have hB3 : Below w2.heap.size w2 w3 := by rw [← hw3]; exact (Below.refl _ _).alloc (Nat.le_refl _) _
  have kg : GB w3 g i 0 0 := by rw [← hw3, hg]; exact heap_alloc_new w2 _
  have hF3 := hF2.same (Gs.of_below _ hB3)
  have hik : i < k1 := by omega
  have c2 := (cell3 hF3.fb).2.2
  have cp := hF3.at hik
  obtain ⟨kr0, hr0⟩ := And.intro H0.out.2.2.1 H0.out.2.2.2
  have hrF : ¬ FO v b mb r := fun e => by have := H0.out.1.there e; omega
  have kr2 : GB w2 r 0 0 0 := (hG2.block r (lt_of_block kr0) hrF).trans kr0
  have kr3 : GB w3 r 0 0 0 := (hB3.block r (lt_of_block kr2)).trans kr2
  have hG3 : Gs (FO v b mb) w w3 := ((H0.out.2.1.mono fun _ _ e => e.elim).trans hG2).bel hB3
  have hN3 : FN v (.slice (some ⟨p, 0, none⟩) k1 c) w.heap.size := FN.trans (w1 := W) (FN.refl _ _) hN2 H0.out.2.1.size
  have hrg : r ≠ g := by have := lt_of_block kr2; omega
  have hwr : w.heap.size ≤ r ∧ w.heap.size ≤ g := by have := lt_of_block kr2; omega
  have hgp : p ≠ g := by have := (hF2.ro.lt p rfl).2; omega
  have hgF : ∀ j, FO (.slice (some ⟨p, 0, none⟩) k1 c) b mb j → j ≠ g := fun j e => by have := hF2.there e; omega
  have hrF2 : ∀ j, FO (.slice (some ⟨p, 0, none⟩) k1 c) b mb j → j ≠ r := fun j e e2 => by
    subst e2
    rcases e with e | e | e
    · exact hrF (.inl e)
    · exact hrF (.inr (.inl e))
    · rcases hN2 with hn | ⟨j2, hn, hj⟩
      · exact hrF (.inr (.inr (hn.symm.trans e)))
      · rw [hn] at e
        simp at e
        have := lt_of_block kr0
        omega
  have hb0 := bf_range s i hs
  have hbfi := bf_fv s i
  have hpv : ∀ (j f : Nat), pv s j = some f → f < j := fun j f e => (pv_some e).1
  have hlo : loG s i 64 (pv s i) 0 0 = lo s i := rfl
  obtain ⟨x0, hx0⟩ : ∃ x0, bf s i = x0 := ⟨_, rfl⟩
  rw [hx0] at cp hb0 hbfi
  have e0 : IntKind.i64.wrap x0 = x0 := by rw [IntKind.wrap_i64]; omega
  have d0 : (i : Int) < (k1 : Int) := by omega
  have H3 := hide (And.intro hF3 (And.intro kg (And.intro kr3 (And.intro hG3 (And.intro hN3 (And.intro hbfi hpv))))))
  have HX := hide (And.intro hgF (And.intro hrF2 (And.intro hr0 hk1)))
  have HLO := hide hlo
  have HW3 := hide (And.intro hw3 hg)
  clear hF2 hG2 hN2 hB3 kg hF3 kr0 hr0 hrF kr2 kr3 hG3 hN3 hgF hrF2 hbfi hpv hlo hk1 hb0 hw3 hg hx0
  go_upto_region 3 with fail
  rw [HW3.out.1, ← HW3.out.2]
  go_wp2
  go_loopw [6, 7] (fun x y wr => ∃ (t n d l : Nat) (o : Option Nat), x = .int .i64 (fv o) ∧ y = .int .i64 (n : Int) ∧ n + t = 64 ∧ loG s i t o d l = lo s i ∧ (∀ f, o = some f → f < i) ∧ GB wr g i d l ∧ GB wr r 0 0 0 ∧ FD B wr b mb (.slice (some ⟨p, 0, none⟩) k1 c) s k1 ∧ Gs (fun j => j = g) w3 wr) (fun _ y _ => 64 - (Go.RowKit.intOf y).toNat)
  case atStart => exact ⟨64, 0, 0, 0, pv s i, by rw [H3.out.2.2.2.2.2.1], rfl, rfl, HLO.out, fun f e => H3.out.2.2.2.2.2.2 i f e, H3.out.2.1, H3.out.2.2.1, H3.out.1, Gs.refl _ _⟩
  case round =>
    obtain ⟨t, n, d, l, o, rfl, rfl, hnt, hlq, hof, kg, kr, hF, hG⟩ := hrel
    have stop : Hid (t = 0 ∨ o = none → (d, l) = lo s i) := by
      rintro (rfl | rfl)
      · rw [← hlq, loG]
      · rw [← hlq]
        cases t <;> rfl
    by_cases ht : t = 0 ∨ o = none
    · have hdl := stop.out ht
      obtain ⟨⟨z0, z1, z2, z3, z4, z5⟩, ⟨z6, z7, z8, z9⟩, ⟨y6, y7⟩, kf, hG9⟩ := three_set kr (.int .i64 (i : Int)) (.int .i64 (d : Int)) (.int .i64 (l : Int))
      obtain ⟨u0, u1, u2⟩ := cell3 kg
      obtain ⟨f0, f1, f2⟩ := cell3 kf
      have hF9 := hF.gs hG9 (fun j e => HX.out.2.1 j e)
      have HE : Hid (.agg #[.int .i64 (i : Int), .int .i64 (d : Int), .int .i64 (l : Int)] = gV i (lo s i) ∧ ∃ v', FD B (((wr.setCell ⟨r, 0, none⟩ (.int .i64 (i : Int))).setCell ⟨r, 1, none⟩ (.int .i64 (d : Int))).setCell ⟨r, 2, none⟩ (.int .i64 (l : Int))) b mb v' s (max k (i + 1)) ∧ Gs (FO v b mb) w (((wr.setCell ⟨r, 0, none⟩ (.int .i64 (i : Int))).setCell ⟨r, 1, none⟩ (.int .i64 (d : Int))).setCell ⟨r, 2, none⟩ (.int .i64 (l : Int))) ∧ FN v v' w.heap.size) := by
        refine ⟨by rw [gV, ← hdl], _, by rw [← HX.out.2.2.2]; exact hF9, ?_, H3.out.2.2.2.2.1⟩
        refine ⟨hG9.os.trans (hG.os.trans H3.out.2.2.2.1.os), hG9.tape.trans (hG.tape.trans H3.out.2.2.2.1.tape), hG9.output.trans (hG.output.trans H3.out.2.2.2.1.output), Nat.le_trans H3.out.2.2.2.1.size (Nat.le_trans hG.size hG9.size), fun j hj hp => ?_⟩
        have s1 := H3.out.2.2.2.1.size
        have s2 := hG.size
        exact (hG9.block j (by omega) (by have := hwr.1; omega)).trans ((hG.block j (by omega) (by have := hwr.2; omega)).trans (H3.out.2.2.2.1.block j hj hp))
      rcases ht with rfl | rfl
      · have d1 : ¬ (n : Int) < 64 := by omega
        have d2 : decide ((n : Int) < 64) = false := by simpa using d1
        clear kf hG9 hF9 hlq hof kg kr hF hG
        go_wp2
        exact bodyPost_ret (v := .agg #[.int .i64 (i : Int), .int .i64 (d : Int), .int .i64 (l : Int)]) (by simp [results, Tryd.results89, go_sem, f0, f1, f2]) rfl ⟨congrArg Ending.returned HE.out.1, HE.out.2⟩
      · by_cases hn : n < 64
        · have d1 : (n : Int) < 64 := by omega
          have d2 : decide ((n : Int) < 64) = true := by simpa using d1
          have d3 : ((-1 : Int) != -1) = false := rfl
          simp only [fv]
          clear kf hG9 hF9 hlq hof kg kr hF hG
          go_wp2
          exact bodyPost_ret (v := .agg #[.int .i64 (i : Int), .int .i64 (d : Int), .int .i64 (l : Int)]) (by simp [results, Tryd.results89, go_sem, f0, f1, f2]) rfl ⟨congrArg Ending.returned HE.out.1, HE.out.2⟩
        · have d1 : ¬ (n : Int) < 64 := by omega
          have d2 : decide ((n : Int) < 64) = false := by simpa using d1
          simp only [fv]
          clear kf hG9 hF9 hlq hof kg kr hF hG
          go_wp2
          exact bodyPost_ret (v := .agg #[.int .i64 (i : Int), .int .i64 (d : Int), .int .i64 (l : Int)]) (by simp [results, Tryd.results89, go_sem, f0, f1, f2]) rfl ⟨congrArg Ending.returned HE.out.1, HE.out.2⟩
    · have ht0 : t ≠ 0 := fun e => ht (.inl e)
      obtain ⟨f, rfl⟩ : ∃ f, o = some f := by
        cases o with
        | none => exact absurd (.inr rfl) ht
        | some f => exact ⟨f, rfl⟩
      obtain ⟨t', rfl⟩ : ∃ t', t = t' + 1 := ⟨t - 1, by omega⟩
      have hfi := hof f rfl
      rw [loG, if_pos (by omega)] at hlq
      obtain ⟨y, hy⟩ : ∃ y, y = i - f := ⟨_, rfl⟩
      obtain ⟨R, hR⟩ : ∃ R, sm s f i = R := ⟨_, rfl⟩
      have HSM := hide (same_any hF.fb hfi hi hs)
      have hRl := sm_le (s := s) (j := f) (i := i)
      rw [hR] at hlq HSM hRl
      rw [← hy] at hlq
      have d1 : (n : Int) < 64 := by omega
      have d2 : decide ((n : Int) < 64) = true := by simpa using d1
      have d3 : ((f : Int) != -1) = true := by simp
      have d4 : (i : Int) - (f : Int) = (y : Int) := by omega
      have d5 : IntKind.i64.wrap (y : Int) = (y : Int) := by rw [IntKind.wrap_i64]; omega
      have d6 : (y : Int) ≤ 65535 := by omega
      have d7 : decide ((y : Int) ≤ 65535) = true := by simpa using d6
      have d8 : ((f : Int) == -1) = false := by simp
      have d9 : ¬ (f : Int) = -1 := by omega
      have dA : (f : Int) < (k1 : Int) := by omega
      have dB : IntKind.i64.wrap ((n : Int) + 1) = (n : Int) + 1 := by rw [IntKind.wrap_i64]; omega
      have HQ := hide (And.intro hlq (And.intro hnt (And.intro kg (And.intro kr (And.intro hF (And.intro hG hfi))))))
      clear stop ht hlq hof kg kr hF hG hR hRl hy hfi
      simp only [fv]
      go_wp2_with fail
      refine HSM.out.mono ?_
      rintro _ w5 ⟨rfl, hS5⟩
      have hF5 := HQ.out.2.2.2.2.1.same hS5
      have kg5 : GB w5 g i d l := (hS5.block g (lt_of_block HQ.out.2.2.1) (fun e => e)).trans HQ.out.2.2.1
      have kr5 : GB w5 r 0 0 0 := (hS5.block r (lt_of_block HQ.out.2.2.2.1) (fun e => e)).trans HQ.out.2.2.2.1
      have hG5 : Gs (fun j => j = g) w3 w5 := HQ.out.2.2.2.2.2.1.trans (hS5.mono fun _ _ e => e.elim)
      have a2 := (cell3 kg5).2.2
      have hbv := bf_fv s f
      have hbr := bf_range s f hs
      obtain ⟨x1, hx1⟩ : ∃ x1, bf s f = x1 := ⟨_, rfl⟩
      rw [hx1] at hbv hbr
      have e1 : IntKind.i64.wrap x1 = x1 := by rw [IntKind.wrap_i64]; omega
      have HBV := hide hbv
      have hpf : Hid (∀ f', pv s f = some f' → f' < i) := fun f' e => by have := (pv_some e).1; have := HQ.out.2.2.2.2.2.2; omega
      clear hbv hbr
      by_cases hl : l < R
      · have c1 : (l : Int) < (R : Int) := by omega
        have hlq := HQ.out.1
        rw [if_pos hl] at hlq
        have HLQ := hide hlq
        obtain ⟨w6, hw6⟩ : ∃ w6, (w5.setCell ⟨g, 1, none⟩ (.int .i64 (y : Int))).setCell ⟨g, 2, none⟩ (.int .i64 (R : Int)) = w6 := ⟨_, rfl⟩
        have m1 : GB (w5.setCell ⟨g, 1, none⟩ (.int .i64 (y : Int))) g i y l := heap_set_self (u := .int .i64 (y : Int)) kg5
        have kg6 : GB w6 g i y R := by rw [← hw6]; exact heap_set_self (u := .int .i64 (R : Int)) m1
        have hG6 : Gs (fun j => j = g) w5 w6 := by rw [← hw6]; exact ((Gs.refl (fun j => j = g) _).set (a := ⟨g, 1, none⟩) (.inl rfl) _).set (a := ⟨g, 2, none⟩) (.inl rfl) _
        have hF6 := hF5.gs hG6 (fun j e => HX.out.1 j e)
        have kr6 : GB w6 r 0 0 0 := (hG6.block r (lt_of_block kr5) hrg).trans kr5
        have z0 := (cell3 kg5).2.1
        have z1 := free3 kg5 1
        have z2 := (cell3 m1).2.2
        have z3 := free3 m1 2
        have b2 := (cell3 hF6.fb).2.2
        have b3 := hF6.at (j := f) (by omega)
        rw [hx1] at b3
        have HE := hide (And.intro kg6 (And.intro kr6 (And.intro hF6 (hG5.trans hG6))))
        clear hl hlq m1 kg6 hG6 hF6 kr6 hF5 kg5 kr5 hG5 hS5 hx1
        go_wp2
        rw [HBV.out]
        exact ⟨⟨t', n + 1, y, R, pv s f, rfl, by go_num, by have := HQ.out.2.1; omega, HLQ.out, hpf.out, HE.out⟩, by have := HQ.out.2.1; simp [Go.RowKit.intOf]; omega⟩
      · have c1 : ¬ (l : Int) < (R : Int) := by omega
        have hlq := HQ.out.1
        rw [if_neg hl] at hlq
        have HLQ := hide hlq
        have b2 := (cell3 hF5.fb).2.2
        have b3 := hF5.at (j := f) (by omega)
        rw [hx1] at b3
        have HE := hide (And.intro kg5 (And.intro kr5 (And.intro hF5 hG5)))
        clear hl hlq hF5 kg5 kr5 hG5 hS5 hx1
        go_wp2
        rw [HBV.out]
        exact ⟨⟨t', n + 1, d, l, pv s f, rfl, by go_num, by have := HQ.out.2.1; omega, HLQ.out, hpf.out, HE.out⟩, by have := HQ.out.2.1; simp [Go.RowKit.intOf]; omega⟩
end
end Go.Proofs.YtcidfkkgpehodaaDoor

namespace Go.Proofs.YtcidfkkgpehodaaDoor
open Go.RowKit Go.Lib
/-- The place that a find in a block has. -/
def atW (w : World) (g : Nat) : Nat := match w.cell? ⟨g, 0, none⟩ with
  | some (.int _ n) => n.toNat
  | _ => 0
theorem GB.at {w : World} {g i d l : Nat} (h : GB w g i d l) : atW w g = i := by
  rw [atW, (cell3 h).1]
  rfl
section
variable {w w' : World} {B b mb k i : Nat} {s : ByteArray} {v : Value}
theorem FD.there2 (h : FD B w b mb v s k) {r : Nat} (hr : w.heap.size ≤ r) : ¬ FO v b mb r := fun e => by have := h.there e; omega
/-- A block that is no finder's stays none. -/
theorem FN.out {v' : Value} {n r : Nat} (h : FN v v' n) (hr : r < n) (hn : ¬ FO v b mb r) : ¬ FO v' b mb r := fun e => by
  rcases e with e | e | e
  · exact hn (.inl e)
  · exact hn (.inr (.inl e))
  · rcases h with h | ⟨j, h, hj⟩
    · exact hn (.inr (.inr (h.symm.trans e)))
    · rw [h] at e
      simp at e
      omega
set_option maxRecDepth 100000 in
set_option maxHeartbeats 3200000 in
theorem next_any (h : FD B w b mb v s k) (hi : i ≤ s.size) (hs : s.size ≤ 5000) : Calls Tryd.prog 72 #[.pointer (some ⟨b, 0, none⟩), .int .i64 (i : Int)] w fun e w' => e = .returned (gV (nx s i).1 (nx s i).2) ∧ ∃ v', (∃ k', FD B w' b mb v' s k') ∧ Gs (FO v b mb) w w' ∧ FN v v' w.heap.size := by
  obtain ⟨r, hr⟩ : ∃ r, r = w.heap.size := ⟨_, rfl⟩
  obtain ⟨W, hW⟩ : ∃ W, w.alloc (.cells #[.int .i64 0, .int .i64 0, .int .i64 0] 120) = W := ⟨_, rfl⟩
  have hBW : Below w.heap.size w W := by rw [← hW]; exact (Below.refl _ _).alloc (Nat.le_refl _) _
  have kr : GB W r 0 0 0 := by rw [← hW, hr]; exact heap_alloc_new w _
  have hSW : Same w W := Gs.of_below _ hBW
  have hFW := h.same hSW
  have hrF0 : ¬ FO v b mb r := h.there2 (by omega)
  have HU := hide (longest_any hFW hi hs)
  have H0 := hide (And.intro h (And.intro hSW (And.intro kr (And.intro hr hrF0))))
  have HW := hide hW
  clear h hr hW hBW kr hSW hFW hrF0
  go_enter Tryd.func72, Tryd.ntmps72
  go_wp2_with fail
  rw [HW.out, ← H0.out.2.2.2.1]
  refine HU.out.mono ?_
  rintro _ w2 ⟨rfl, v1, hF2, hG2, hN2⟩
  have hrW := lt_of_block H0.out.2.2.1
  have kr2 : GB w2 r 0 0 0 := (hG2.block r hrW H0.out.2.2.2.2).trans H0.out.2.2.1
  have hrF2 := hN2.out hrW H0.out.2.2.2.2
  obtain ⟨k1, hk1⟩ : ∃ k1, k1 = max k (i + 1) := ⟨_, rfl⟩
  rw [← hk1] at hF2
  obtain ⟨d0, l0, hdl⟩ : ∃ d0 l0, lo s i = (d0, l0) := ⟨_, _, rfl⟩
  obtain ⟨g, hg⟩ : ∃ g, g = w2.heap.size := ⟨_, rfl⟩
  obtain ⟨w3, hw3⟩ : ∃ w3, w2.alloc (.cells #[.int .i64 (i : Int), .int .i64 (d0 : Int), .int .i64 (l0 : Int)] 120) = w3 := ⟨_, rfl⟩
  have hB3 : Below w2.heap.size w2 w3 := by rw [← hw3]; exact (Below.refl _ _).alloc (Nat.le_refl _) _
  have kg : GB w3 g i d0 l0 := by rw [← hw3, hg]; exact heap_alloc_new w2 _
  have hF3 := hF2.same (Gs.of_below _ hB3)
  have hgF : ¬ FO v1 b mb g := hF2.there2 (by omega)
  have kr3 : GB w3 r 0 0 0 := (hB3.block r (lt_of_block kr2)).trans kr2
  have hrg : r ≠ g := by have := lt_of_block kr2; omega
  have hwr : w.heap.size ≤ r ∧ w.heap.size ≤ g := by have := lt_of_block kr2; have := H0.out.2.2.2.1; omega
  have hG3 : Gs (FO v b mb) w w3 := ((H0.out.2.1.mono fun _ _ e => e.elim).trans hG2).bel hB3
  have hN3 : FN v v1 w.heap.size := FN.trans (w1 := W) (FN.refl _ _) hN2 H0.out.2.1.size
  have hlo : nxG s (s.size - i) i (d0, l0) = nx s i := by rw [← hdl]; rfl
  have hlr := lo_le s i
  rw [hdl] at hlr
  have H3 := hide (And.intro hF3 (And.intro kg (And.intro kr3 (And.intro hG3 (And.intro hN3 (And.intro hgF (And.intro hrF2 (And.intro hlo hlr))))))))
  have HW3 := hide (And.intro hw3 (And.intro hg hdl))
  clear hF2 hG2 hN2 hB3 kg hF3 kr2 kr3 hG3 hN3 hgF hrF2 hlo hw3 hg hdl hlr hk1
  simp only [gV]
  rw [HW3.out.2.2]
  go_upto_region 2 with fail
  rw [HW3.out.1, ← HW3.out.2.1]
  go_loopw [6] (fun _ wr => ∃ (a d l k2 : Nat) (v2 : Value), a ≤ s.size ∧ lo s a = (d, l) ∧ nxG s (s.size - a) a (d, l) = nx s i ∧ GB wr g a d l ∧ GB wr r 0 0 0 ∧ FD B wr b mb v2 s k2 ∧ Gs (FO v b mb) w wr ∧ FN v v2 w.heap.size ∧ ¬ FO v2 b mb r ∧ ¬ FO v2 b mb g) (fun _ wr => s.size - atW wr g)
  case atStart => exact ⟨i, d0, l0, k1, v1, hi, HW3.out.2.2, H3.out.2.2.2.2.2.2.2.1, H3.out.2.1, H3.out.2.2.1, H3.out.1, H3.out.2.2.2.1, H3.out.2.2.2.2.1, H3.out.2.2.2.2.2.2.1, H3.out.2.2.2.2.2.1⟩
  case round =>
    obtain ⟨a, d, l, k2, v2, ha, hlo, hnx, kg, kr, hF, hG, hN, hrF, hgF⟩ := hrel
    have hat := kg.at
    have a0 := (cell3 kg).1
    have a2 := (cell3 kg).2.2
    have cb := (cell3 hF.fb).1
    have hll := lo_le s a
    rw [hlo] at hll
    have hl5 : l ≤ 5000 := by simp only at hll; omega
    have HC := hide (And.intro kg (And.intro kr (And.intro hF (And.intro hG (And.intro hN (And.intro hrF hgF))))))
    have HQ := hide (And.intro hlo (And.intro hnx (And.intro ha hat)))
    clear hlo hnx kg kr hF hG hN hrF hgF hll ha hat
    by_cases hc : l < 32 ∧ a < s.size
    · have d1 : (l : Int) < 32 := by omega
      have d2 : decide ((l : Int) < 32) = true := by simpa using d1
      have d3 : (a : Int) < (s.size : Int) := by omega
      have d4 : decide ((a : Int) < (s.size : Int)) = true := by simpa using d3
      have hcl := hc.2
      have HH := hide hc
      clear hc
      go_upto_region 2 with fail
      go_cut [22] (fun t wx => t = .bool true ∧ Same wr wx)
      case first =>
        go_quiet (fail)
        go_wp2
        go_meet
        exact ⟨by first | rfl | rw [d4], (Gs.refl _ _).dn _⟩
      case rest =>
        obtain ⟨rfl, hS⟩ := hcut
        have kg := (hS.block g (lt_of_block HC.out.1) (fun e => e)).trans HC.out.1
        have kr := (hS.block r (lt_of_block HC.out.2.1) (fun e => e)).trans HC.out.2.1
        have hF := HC.out.2.2.1.same hS
        have hG := HC.out.2.2.2.1.trans (hS.mono fun _ _ e => e.elim)
        have b0 := (cell3 kg).1
        have e1 : (a : Int) + 1 = ((a + 1 : Nat) : Int) := by omega
        have e2 : IntKind.i64.wrap ((a + 1 : Nat) : Int) = ((a + 1 : Nat) : Int) := by rw [IntKind.wrap_i64]; omega
        have HLO := hide (longest_any (i := a + 1) hF (by omega) hs)
        have HC4 := hide (And.intro kg (And.intro kr (And.intro hF hG)))
        obtain ⟨a1, ha1⟩ : ∃ a1, a1 = a + 1 := ⟨_, rfl⟩
        rw [← ha1] at e1 e2 HLO
        have HA1 := hide ha1
        clear kg kr hF hG hS ha1
        go_wp2_with fail
        refine HLO.out.mono ?_
        rintro _ w5 ⟨rfl, v5, hF5, hG5, hN5⟩
        obtain ⟨d9, l9, hdl9⟩ : ∃ d9 l9, lo s a1 = (d9, l9) := ⟨_, _, rfl⟩
        have hgW := lt_of_block HC4.out.1
        have hrW := lt_of_block HC4.out.2.1
        have kg5 : GB w5 g a d l := (hG5.block g hgW HC.out.2.2.2.2.2.2).trans HC4.out.1
        have kr5 : GB w5 r 0 0 0 := (hG5.block r hrW HC.out.2.2.2.2.2.1).trans HC4.out.2.1
        have hgF5 := hN5.out hgW HC.out.2.2.2.2.2.2
        have hrF5 := hN5.out hrW HC.out.2.2.2.2.2.1
        have hGG := FO.trans HC4.out.2.2.2 HC.out.2.2.2.2.1 hG5
        have hNN := FN.trans HC.out.2.2.2.2.1 hN5 HC4.out.2.2.2.size
        obtain ⟨z, hz⟩ : ∃ z, z = w5.heap.size := ⟨_, rfl⟩
        obtain ⟨w6, hw6⟩ : ∃ w6, w5.alloc (.cells #[.int .i64 (a1 : Int), .int .i64 (d9 : Int), .int .i64 (l9 : Int)] 120) = w6 := ⟨_, rfl⟩
        have hB6 : Below w5.heap.size w5 w6 := by rw [← hw6]; exact (Below.refl _ _).alloc (Nat.le_refl _) _
        have kz6 : GB w6 z a1 d9 l9 := by rw [← hw6, hz]; exact heap_alloc_new w5 _
        have kg6 : GB w6 g a d l := (hB6.block g (lt_of_block kg5)).trans kg5
        have kr6 : GB w6 r 0 0 0 := (hB6.block r (lt_of_block kr5)).trans kr5
        have hF6 := hF5.same (Gs.of_below _ hB6)
        have hG6 := hGG.bel hB6
        have hzg : z ≠ g := by have := lt_of_block kg5; omega
        obtain ⟨q0, q1, q2⟩ := cell3 kz6
        have p2 := (cell3 kg6).2.2
        have HW6 := hide (And.intro hw6 hz)
        have hl9 : l9 ≤ 5000 := by
          have := lo_le s a1
          rw [hdl9] at this
          simp only at this
          omega
        clear HC
        have HC := hide (And.intro kg6 (And.intro kr6 (And.intro hF6 (And.intro hG6 (And.intro hNN (And.intro hrF5 hgF5))))))
        have HDL := hide hdl9
        clear hF5 hG5 hN5 kg5 kr5 hgF5 hrF5 hGG hNN hB6 kg6 kr6 hF6 hG6 hw6 hz hgW hrW b0
        simp only [gV]
        rw [HDL.out]
        clear hdl9
        by_cases hbr : 0 < l ∧ l9 ≤ l
        · have HNX : Hid (nx s i = (a, (d, l))) := by
            rw [← HQ.out.2.1]
            show nxG s (s.size - a) a (d, l) = _
            rw [show s.size - a = (s.size - a1) + 1 by have := HA1.out; omega, nxG, if_pos HH.out, if_pos (by rw [← HA1.out, HDL.out]; exact hbr)]
          have g1 : (0 : Int) < (l : Int) := by omega
          have g2 : decide ((0 : Int) < (l : Int)) = true := by simpa using g1
          have g3 : (l9 : Int) ≤ (l : Int) := by omega
          have g4 : decide ((l9 : Int) ≤ (l : Int)) = true := by simpa using g3
          have g5 : decide (0 < l) = true := by simpa using hbr.1
          have g6 : decide (l9 ≤ l) = true := by simpa using hbr.2
          have hw6 := HW6.out.1
          have hz := HW6.out.2.symm
          clear hbr
          go_upto_region 4 with fail
          clear hw6 hz
          obtain ⟨⟨z0, z1, z2, z3, z4, z5⟩, ⟨z6, z7, z8, z9⟩, ⟨y6, y7⟩, kf, hG9⟩ := three_set HC.out.2.1 (.int .i64 (a : Int)) (.int .i64 (d : Int)) (.int .i64 (l : Int))
          obtain ⟨u0, u1, u2⟩ := cell3 HC.out.1
          obtain ⟨f0, f1, f2⟩ := cell3 kf
          have hF9 := HC.out.2.2.1.gs hG9 (fun j e e2 => HC.out.2.2.2.2.2.1 (e2 ▸ e))
          have HE : Hid (Value.agg #[.int .i64 (a : Int), .int .i64 (d : Int), .int .i64 (l : Int)] = Value.agg #[.int .i64 ((nx s i).1 : Int), .int .i64 ((nx s i).2.1 : Int), .int .i64 ((nx s i).2.2 : Int)] ∧ ∃ v', (∃ k', FD B (((w6.setCell ⟨r, 0, none⟩ (.int .i64 (a : Int))).setCell ⟨r, 1, none⟩ (.int .i64 (d : Int))).setCell ⟨r, 2, none⟩ (.int .i64 (l : Int))) b mb v' s k') ∧ Gs (FO v b mb) w (((w6.setCell ⟨r, 0, none⟩ (.int .i64 (a : Int))).setCell ⟨r, 1, none⟩ (.int .i64 (d : Int))).setCell ⟨r, 2, none⟩ (.int .i64 (l : Int))) ∧ FN v v' w.heap.size) :=
            ⟨by rw [HNX.out], _, ⟨_, hF9⟩, ((HC.out.2.2.2.1.set (a := ⟨r, 0, none⟩) (.inr hwr.1) _).set (a := ⟨r, 1, none⟩) (.inr hwr.1) _).set (a := ⟨r, 2, none⟩) (.inr hwr.1) _, HC.out.2.2.2.2.1⟩
          clear kf hG9 hF9
          go_wp2
          exact bodyPost_ret (v := .agg #[.int .i64 (a : Int), .int .i64 (d : Int), .int .i64 (l : Int)]) (by simp [results, Tryd.results72, go_sem, f0, f1, f2]) rfl ⟨congrArg Ending.returned HE.out.1, HE.out.2⟩
        · have hnx2 : nxG s (s.size - a1) a1 (d9, l9) = nx s i := by
            rw [← HQ.out.2.1]
            show _ = nxG s (s.size - a) a (d, l)
            rw [show s.size - a = (s.size - a1) + 1 by have := HA1.out; omega, nxG, if_pos HH.out, if_neg (by rw [← HA1.out, HDL.out]; exact hbr), ← HA1.out, HDL.out]
          obtain ⟨⟨z0, z1, z2, z3, z4, z5⟩, ⟨z6, z7, z8, z9⟩, ⟨y6, y7⟩, kf, hG9⟩ := three_set HC.out.1 (.int .i64 (a1 : Int)) (.int .i64 (d9 : Int)) (.int .i64 (l9 : Int))
          have hF9 := HC.out.2.2.1.gs hG9 (fun j e e2 => HC.out.2.2.2.2.2.2 (e2 ▸ e))
          have kr9 : GB _ r 0 0 0 := (hG9.block r (lt_of_block HC.out.2.1) hrg).trans HC.out.2.1
          have hGz := ((HC.out.2.2.2.1.set (a := ⟨g, 0, none⟩) (.inr hwr.2) (.int .i64 (a1 : Int))).set (a := ⟨g, 1, none⟩) (.inr hwr.2) (.int .i64 (d9 : Int))).set (a := ⟨g, 2, none⟩) (.inr hwr.2) (.int .i64 (l9 : Int))
          have kf' : GB (((w6.setCell ⟨g, 0, none⟩ (.int .i64 (a1 : Int))).setCell ⟨g, 1, none⟩ (.int .i64 (d9 : Int))).setCell ⟨g, 2, none⟩ (.int .i64 (l9 : Int))) g a1 d9 l9 := kf
          have HE := hide (And.intro hnx2 (And.intro kf' (And.intro kr9 (And.intro hF9 (And.intro hGz (And.intro HC.out.2.2.2.2.1 (And.intro HC.out.2.2.2.2.2.1 HC.out.2.2.2.2.2.2)))))))
          have hat9 := kf'.at
          have HAT := hide hat9
          clear hnx2 kf hG9 hF9 kr9 hGz kf' hat9
          by_cases hl0 : 0 < l
          · have hgt : l < l9 := by omega
            have g1 : (0 : Int) < (l : Int) := by omega
            have g2 : decide ((0 : Int) < (l : Int)) = true := by simpa using g1
            have g3 : ¬ (l9 : Int) ≤ (l : Int) := by omega
            have g4 : decide ((l9 : Int) ≤ (l : Int)) = false := by simpa using g3
            have g5 : decide (0 < l) = true := by simpa using hl0
            have g6 : decide (l9 ≤ l) = false := by simp; omega
            have hw6 := HW6.out.1
            have hz := HW6.out.2.symm
            clear hbr
            go_upto_region 4 with fail
            clear hw6 hz
            go_wp2
            exact ⟨⟨a1, d9, l9, _, _, by have := HA1.out; omega, HDL.out, HE.out⟩, by rw [HAT.out, HQ.out.2.2.2]; have := HA1.out; omega⟩
          · have g1 : ¬ (0 : Int) < (l : Int) := by omega
            have g2 : decide ((0 : Int) < (l : Int)) = false := by simpa using g1
            have g5 : decide (0 < l) = false := by simp; omega
            have hw6 := HW6.out.1
            have hz := HW6.out.2.symm
            clear hbr
            go_upto_region 4 with fail
            clear hw6 hz
            go_wp2
            exact ⟨⟨a1, d9, l9, _, _, by have := HA1.out; omega, HDL.out, HE.out⟩, by rw [HAT.out, HQ.out.2.2.2]; have := HA1.out; omega⟩
    · have HNX : Hid (nx s i = (a, (d, l))) := by
        rw [← HQ.out.2.1]
        show nxG s (s.size - a) a (d, l) = _
        cases s.size - a with
        | zero => rfl
        | succ f => rw [nxG, if_neg hc]
      by_cases hl : l < 32
      · have d1 : (l : Int) < 32 := by omega
        have d2 : decide ((l : Int) < 32) = true := by simpa using d1
        have d3 : ¬ (a : Int) < (s.size : Int) := by omega
        have d4 : decide ((a : Int) < (s.size : Int)) = false := by simpa using d3
        clear hc
        go_upto_region 2 with fail
        go_cut [22] (fun t wx => t = .bool false ∧ Same wr wx)
        case first =>
          go_quiet (fail)
          go_wp2
          go_meet
          exact ⟨by first | rfl | rw [d4], (Gs.refl _ _).dn _⟩
        case rest =>
          obtain ⟨rfl, hS⟩ := hcut
          have kg := (hS.block g (lt_of_block HC.out.1) (fun e => e)).trans HC.out.1
          have kr := (hS.block r (lt_of_block HC.out.2.1) (fun e => e)).trans HC.out.2.1
          have HC : Hid _ := And.intro kg (And.intro kr (And.intro (HC.out.2.2.1.same hS) (And.intro (HC.out.2.2.2.1.trans (hS.mono fun _ _ e => e.elim)) HC.out.2.2.2.2)))
          clear kg kr hS
          obtain ⟨⟨z0, z1, z2, z3, z4, z5⟩, ⟨z6, z7, z8, z9⟩, ⟨y6, y7⟩, kf, hG9⟩ := three_set HC.out.2.1 (.int .i64 (a : Int)) (.int .i64 (d : Int)) (.int .i64 (l : Int))
          obtain ⟨u0, u1, u2⟩ := cell3 HC.out.1
          obtain ⟨f0, f1, f2⟩ := cell3 kf
          have hF9 := HC.out.2.2.1.gs hG9 (fun j e e2 => HC.out.2.2.2.2.2.1 (e2 ▸ e))
          have HE : Hid (Value.agg #[.int .i64 (a : Int), .int .i64 (d : Int), .int .i64 (l : Int)] = Value.agg #[.int .i64 ((nx s i).1 : Int), .int .i64 ((nx s i).2.1 : Int), .int .i64 ((nx s i).2.2 : Int)] ∧ ∃ v', (∃ k', FD B (((wc.setCell ⟨r, 0, none⟩ (.int .i64 (a : Int))).setCell ⟨r, 1, none⟩ (.int .i64 (d : Int))).setCell ⟨r, 2, none⟩ (.int .i64 (l : Int))) b mb v' s k') ∧ Gs (FO v b mb) w (((wc.setCell ⟨r, 0, none⟩ (.int .i64 (a : Int))).setCell ⟨r, 1, none⟩ (.int .i64 (d : Int))).setCell ⟨r, 2, none⟩ (.int .i64 (l : Int))) ∧ FN v v' w.heap.size) :=
            ⟨by rw [HNX.out], _, ⟨_, hF9⟩, ((HC.out.2.2.2.1.set (a := ⟨r, 0, none⟩) (.inr hwr.1) _).set (a := ⟨r, 1, none⟩) (.inr hwr.1) _).set (a := ⟨r, 2, none⟩) (.inr hwr.1) _, HC.out.2.2.2.2.1⟩
          clear kf hG9 hF9
          go_wp2
          exact bodyPost_ret (v := .agg #[.int .i64 (a : Int), .int .i64 (d : Int), .int .i64 (l : Int)]) (by simp [results, Tryd.results72, go_sem, f0, f1, f2]) rfl ⟨congrArg Ending.returned HE.out.1, HE.out.2⟩
      · have d1 : ¬ (l : Int) < 32 := by omega
        have d2 : decide ((l : Int) < 32) = false := by simpa using d1
        clear hc
        go_upto_region 2 with fail
        go_cut [22] (fun t wx => t = .bool false ∧ Same wr wx)
        case first =>
          go_quiet (fail)
          go_wp2
          go_meet
          exact ⟨by first | rfl | rw [d2], (Gs.refl _ _).dn _⟩
        case rest =>
          obtain ⟨rfl, hS⟩ := hcut
          have kg := (hS.block g (lt_of_block HC.out.1) (fun e => e)).trans HC.out.1
          have kr := (hS.block r (lt_of_block HC.out.2.1) (fun e => e)).trans HC.out.2.1
          have HC : Hid _ := And.intro kg (And.intro kr (And.intro (HC.out.2.2.1.same hS) (And.intro (HC.out.2.2.2.1.trans (hS.mono fun _ _ e => e.elim)) HC.out.2.2.2.2)))
          clear kg kr hS
          obtain ⟨⟨z0, z1, z2, z3, z4, z5⟩, ⟨z6, z7, z8, z9⟩, ⟨y6, y7⟩, kf, hG9⟩ := three_set HC.out.2.1 (.int .i64 (a : Int)) (.int .i64 (d : Int)) (.int .i64 (l : Int))
          obtain ⟨u0, u1, u2⟩ := cell3 HC.out.1
          obtain ⟨f0, f1, f2⟩ := cell3 kf
          have hF9 := HC.out.2.2.1.gs hG9 (fun j e e2 => HC.out.2.2.2.2.2.1 (e2 ▸ e))
          have HE : Hid (Value.agg #[.int .i64 (a : Int), .int .i64 (d : Int), .int .i64 (l : Int)] = Value.agg #[.int .i64 ((nx s i).1 : Int), .int .i64 ((nx s i).2.1 : Int), .int .i64 ((nx s i).2.2 : Int)] ∧ ∃ v', (∃ k', FD B (((wc.setCell ⟨r, 0, none⟩ (.int .i64 (a : Int))).setCell ⟨r, 1, none⟩ (.int .i64 (d : Int))).setCell ⟨r, 2, none⟩ (.int .i64 (l : Int))) b mb v' s k') ∧ Gs (FO v b mb) w (((wc.setCell ⟨r, 0, none⟩ (.int .i64 (a : Int))).setCell ⟨r, 1, none⟩ (.int .i64 (d : Int))).setCell ⟨r, 2, none⟩ (.int .i64 (l : Int))) ∧ FN v v' w.heap.size) :=
            ⟨by rw [HNX.out], _, ⟨_, hF9⟩, ((HC.out.2.2.2.1.set (a := ⟨r, 0, none⟩) (.inr hwr.1) _).set (a := ⟨r, 1, none⟩) (.inr hwr.1) _).set (a := ⟨r, 2, none⟩) (.inr hwr.1) _, HC.out.2.2.2.2.1⟩
          clear kf hG9 hF9
          go_wp2
          exact bodyPost_ret (v := .agg #[.int .i64 (a : Int), .int .i64 (d : Int), .int .i64 (l : Int)]) (by simp [results, Tryd.results72, go_sem, f0, f1, f2]) rfl ⟨congrArg Ending.returned HE.out.1, HE.out.2⟩
end
end Go.Proofs.YtcidfkkgpehodaaDoor

namespace Go.Proofs.YtcidfkkgpehodaaDoor
open Go.RowKit Go.Lib
section
variable {w w' w1 w2 : World} {B : Nat} {O : List UInt8} {v v1 v2 : Value}
/-- Only this list's block is turned. -/
def Ow (v : Value) (i : Nat) : Prop := v.ownBlock = some i
theorem Ow.trans (h : Gs (Ow v) w w1) (hn : FN v v1 w.heap.size) (h2 : Gs (Ow v1) w1 w2) : Gs (Ow v) w w2 :=
  ⟨h2.os.trans h.os, h2.tape.trans h.tape, h2.output.trans h.output, Nat.le_trans h.size h2.size, fun i hi hp => (h2.block i (Nat.lt_of_lt_of_le hi h.size) (fun e => by
    rcases hn with hn | ⟨j, hn, hj⟩
    · exact hp (hn.symm.trans e)
    · have e' : v1.ownBlock = some i := e
      rw [hn] at e'
      simp at e'
      omega)).trans (h.block i hi hp)⟩
theorem gs_row_own (h5 : Gs (Ow v) w w1) (h3 : w1.grownBy w2 v.ownBlock) : Gs (Ow v) w w2 := by
  cases hv : v.ownBlock with
  | none =>
    rw [hv] at h3
    exact ⟨h3.os.trans h5.os, h3.tape.trans h5.tape, h3.output.trans h5.output, Nat.le_trans h5.size h3.size, fun i hi hp => (h3.block i (Nat.lt_of_lt_of_le hi h5.size) (by simp)).trans (h5.block i hi hp)⟩
  | some c =>
    rw [hv] at h3
    exact h5.gb h3 (.inl hv)
/-- A byte behind them. -/
theorem app_b (h : BO B v O w) (b : UInt8) (hl : O.length ≤ 1000000) (hB : B ≤ w.heap.size) :
    ∃ v' w', (Builtin.append_ #[58, 58] 58 #[v, .slice (some ⟨w.heap.size, 0, none⟩) 1 1]).run Tryd.prog (w.alloc (.cells #[.int .u8 (b.toNat : Int)] 5)) = .ok v' w' ∧ BO B v' (O ++ [b]) w' ∧ Gs (Ow v) w w' ∧ FN v v' w.heap.size := by
  have hb1 : Below w.heap.size w (w.alloc (.cells #[.int .u8 (b.toNat : Int)] 5)) := (Below.refl _ _).alloc (Nat.le_refl _) _
  have hS : LS bc 1 (fun _ => True) (w.alloc (.cells #[.int .u8 (b.toNat : Int)] 5)) (.slice (some ⟨w.heap.size, 0, none⟩) 1 1) [b] := LS.one b 5 w bc 1 (fun _ => True) trivial
  obtain ⟨v', w2, h1, h2, h3, h4⟩ := (h.keep hb1).app bc_len (by decide) (fun x hx u hu => by
    simp [bc] at hu
    subst hu
    rfl) Tryd.underlying58 Tryd.infoU8 rfl hS (by simp; omega) (by simp; omega) (Nat.le_trans hB hb1.size)
  refine ⟨v', w2, h1, h2, gs_row_own (Gs.of_below _ hb1) h3, ?_⟩
  rcases h4 with h4 | h4
  · exact .inl h4
  · exact .inr ⟨_, h4, by simp⟩
/-- Two bytes behind them. -/
theorem app_b2 (h : BO B v O w) (b c : UInt8) (hl : O.length ≤ 1000000) (hB : B ≤ w.heap.size) :
    ∃ v' w', (Builtin.append_ #[58, 58] 58 #[v, .slice (some ⟨w.heap.size, 0, none⟩) 2 2]).run Tryd.prog (w.alloc (.cells #[.int .u8 (b.toNat : Int), .int .u8 (c.toNat : Int)] 5)) = .ok v' w' ∧ BO B v' (O ++ [b, c]) w' ∧ Gs (Ow v) w w' ∧ FN v v' w.heap.size := by
  have hb1 : Below w.heap.size w (w.alloc (.cells #[.int .u8 (b.toNat : Int), .int .u8 (c.toNat : Int)] 5)) := (Below.refl _ _).alloc (Nat.le_refl _) _
  have hS : LS bc 1 (fun _ => True) (w.alloc (.cells #[.int .u8 (b.toNat : Int), .int .u8 (c.toNat : Int)] 5)) (.slice (some ⟨w.heap.size, 0, none⟩) 2 2) [b, c] := by
    refine ⟨_, _, rfl, (fun e => by cases e), .inr ⟨w.heap.size, 0, rfl, trivial, by simp, fun i x hx j u hu => ?_⟩⟩
    have hg := heap_alloc_new w (.cells #[.int .u8 (b.toNat : Int), .int .u8 (c.toNat : Int)] 5)
    rw [cell_of_row _ _ _ _ _ _ hg]
    have hj : j = 0 := by
      have := (List.getElem?_eq_some_iff.1 hu).1
      simp [bc] at this
      exact this
    subst hj
    have hi : i < 2 := (List.getElem?_eq_some_iff.1 hx).1
    have hi2 : i = 0 ∨ i = 1 := by omega
    rcases hi2 with rfl | rfl
    · simp at hx
      subst hx
      simpa [bc] using hu
    · simp at hx
      subst hx
      simpa [bc] using hu
  obtain ⟨v', w2, h1, h2, h3, h4⟩ := (h.keep hb1).app bc_len (by decide) (fun x hx u hu => by
    simp [bc] at hu
    subst hu
    rfl) Tryd.underlying58 Tryd.infoU8 rfl hS (by simp; omega) (by simp; omega) (Nat.le_trans hB hb1.size)
  refine ⟨v', w2, h1, h2, gs_row_own (Gs.of_below _ hb1) h3, ?_⟩
  rcases h4 with h4 | h4
  · exact .inl h4
  · exact .inr ⟨_, h4, by simp⟩
theorem app_t_at (h : BO B v O w) (s : ByteArray) (hl : O.length + s.size ≤ 1000000) (hB : B ≤ w.heap.size) {v' : Value} {w' : World} (hr : (Builtin.append_ #[58, 9] 58 #[v, .string s]).run Tryd.prog w = .ok v' w') : FN v v' w.heap.size := by
  obtain ⟨i0, hi, hz0, hz1, hz2⟩ := info_parts Tryd.infoU8
  obtain ⟨v2, w2, h1, _, _, h4⟩ := run_append_own_string (P := Tryd.prog) (w := w) B 58 9 58 5 i0 Tryd.underlying58 Tryd.underlying9 hi hz0 hz1 hz2 v O.length (O.flatMap bc) h.own s (by unfold maxLen; omega) (by omega) hB
  rw [hr] at h1
  simp only [Result.ok.injEq] at h1
  obtain ⟨rfl, rfl⟩ := h1
  have hol := h.own.1
  rcases h.own.2 with ⟨rfl, h2⟩ | ⟨g, cap, cur, rfl, hBg, hg, hn, hcm, hcs, ht⟩
  · by_cases hm : s.size = 0
    · exact .inl (by rw [h4.2 ⟨rfl, hm⟩])
    · have h5 := run_append_nil_string (P := Tryd.prog) w 58 9 58 5 i0 (.int .u8 0) Tryd.underlying58 Tryd.underlying9 hi hz0 s (by omega) (by omega) (by rw [hz2]; omega)
      rw [hr] at h5
      simp only [Result.ok.injEq] at h5
      rw [h5.1]
      exact .inr ⟨w.heap.size, rfl, Nat.le_refl _⟩
  · by_cases hroom : O.length + s.size ≤ cap
    · have hcs' : cur.size = cap := by simpa using hcs
      have h5 := run_append_room_string (P := Tryd.prog) w 58 9 58 5 i0 Tryd.underlying58 Tryd.underlying9 hi hz1 g O.length cap cur hg s hroom (by omega)
      rw [hr] at h5
      simp only [Result.ok.injEq] at h5
      rw [h5.1]
      exact .inl rfl
    · have holds : ∀ j u, (O.flatMap bc)[j]? = some u → w.cell? ((⟨g, 0, none⟩ : Addr).add j) = some u := h.own.cells (g := g) rfl
      have h5 := run_append_grow_string (P := Tryd.prog) w 58 9 58 5 i0 (.int .u8 0) Tryd.underlying58 Tryd.underlying9 hi hz0 ⟨g, 0, none⟩ O.length cap (O.flatMap bc) (by rw [hz1]; simpa using hol) holds s (by omega) (by omega) (by rw [hz2]; exact growslice_fits (by omega) (by omega))
      rw [hr] at h5
      simp only [Result.ok.injEq] at h5
      rw [h5.1]
      exact .inr ⟨w.heap.size, rfl, Nat.le_refl _⟩
/-- A text behind them. -/
theorem app_t (h : BO B v O w) (s : ByteArray) (hl : O.length + s.size ≤ 1000000) (hB : B ≤ w.heap.size) :
    ∃ v' w', (Builtin.append_ #[58, 9] 58 #[v, .string s]).run Tryd.prog w = .ok v' w' ∧ BO B v' (O ++ s.data.toList) w' ∧ Gs (Ow v) w w' ∧ FN v v' w.heap.size := by
  obtain ⟨i0, hi, hz0, hz1, hz2⟩ := info_parts Tryd.infoU8
  obtain ⟨v', w', h1, h2, h3, _⟩ := run_append_own_string (P := Tryd.prog) (w := w) B 58 9 58 5 i0 Tryd.underlying58 Tryd.underlying9 hi hz0 hz1 hz2 v O.length (O.flatMap bc) h.own s (by unfold maxLen; omega) (by omega) hB
  have e : s.data.toList.length = s.size := by simp
  refine ⟨v', w', h1, ⟨by rw [List.length_append, e, List.flatMap_append, bc_flat s.data.toList]; exact h2⟩, gs_row_own (Gs.refl _ _) h3, app_t_at h s hl hB h1⟩
end
end Go.Proofs.YtcidfkkgpehodaaDoor

namespace Go.Proofs.YtcidfkkgpehodaaDoor
open Go.RowKit Go.Lib
/-- A text that grows lies in cell j of block b. -/
structure GR (w : World) (b j : Nat) (C : Array Value) (T : TypeId) (v : Value) (O : List UInt8) : Prop where
  blk : w.heap[b]? = some (.cells C T (0, 0))
  at_ : C[j]? = some v
  own : BO 0 v O w
  ne : v.ownBlock ≠ some b
section
variable {w w' : World} {b j : Nat} {C : Array Value} {T : TypeId} {v : Value} {O : List UInt8}
theorem GR.cell (h : GR w b j C T v O) : w.cell? ⟨b, j, none⟩ = some v := by simp [World.cell?, h.blk, h.at_]
theorem GR.free (h : GR w b j C T v O) : w.frozen? ⟨b, j, none⟩ = false := by simp [World.frozen?, h.blk]
theorem GR.shp (h : GR w b j C T v O) : ∃ a c, v = .slice a O.length c := OW.shp h.own
set_option maxRecDepth 100000 in
theorem write_any (h : GR w b j C T v O) (s : ByteArray) (hl : O.length + s.size ≤ 1000000) : Calls Tryd.prog 29 #[.pointer (some ⟨b, j, none⟩), .string s] w fun e w' => e = .returned (.tuple #[]) ∧ ∃ v' w1, BO 0 v' (O ++ s.data.toList) w1 ∧ Gs (Ow v) w w1 ∧ FN v v' w.heap.size ∧ w' = w1.setCell ⟨b, j, none⟩ v' := by
  obtain ⟨v', w1, hr, h2, h3, h4⟩ := app_t h.own s hl (Nat.zero_le _)
  have k1 := h.cell
  have hb1 : w1.heap[b]? = some (.cells C T (0, 0)) := (h3.block b (lt_of_block h.blk) (fun e => h.ne e)).trans h.blk
  have k2 : w1.cell? ⟨b, j, none⟩ = some v := by simp [World.cell?, hb1, h.at_]
  have k3 : w1.frozen? ⟨b, j, none⟩ = false := by simp [World.frozen?, hb1]
  obtain ⟨a', c', rfl⟩ := OW.shp h2
  have HF := hide (And.intro h2 (And.intro h3 h4))
  clear h h2 h3 h4 hb1
  go_enter Tryd.func29, Tryd.ntmps29
  go_wp2_with (at_builtin; refine Lib.wpList_append_run _ rfl _ _ _ _ rfl _ _ rfl rfl _ _ hr ?_)
  go_wp2
  exact bodyPost_end (v := .tuple #[]) (results_none rfl _ _ _) rfl ⟨rfl, _, w1, HF.out.1, HF.out.2.1, HF.out.2.2, by rw [List.length_append, li_size]⟩
set_option maxRecDepth 100000 in
theorem long_any (h : GR w b j C T v O) : Calls Tryd.prog 28 #[.pointer (some ⟨b, j, none⟩)] w fun e w' => e = .returned (.int .i64 (O.length : Int)) ∧ w' = w := by
  have k1 := h.cell
  obtain ⟨a, c, rfl⟩ := h.shp
  clear h
  go_enter Tryd.func28, Tryd.ntmps28
  go_wp2
  go_ret
  exact ⟨rfl, rfl⟩
set_option maxRecDepth 100000 in
theorem allb_any (h : GR w b j C T v O) : Calls Tryd.prog 39 #[.pointer (some ⟨b, j, none⟩)] w fun e w' => e = .returned (.string ⟨O.toArray⟩) ∧ w' = w := by
  have k1 := h.cell
  have k2 := BO.str h.own
  obtain ⟨S, hS⟩ : ∃ S : ByteArray, S = ⟨O.toArray⟩ := ⟨_, rfl⟩
  rw [← hS] at k2 ⊢
  clear h hS
  go_enter Tryd.func39, Tryd.ntmps39
  go_wp2
  go_ret
  exact ⟨rfl, rfl⟩
end
set_option maxRecDepth 100000 in
theorem shrt_any (n : Nat) (w : World) (hn : n ≤ 9223372036854775807) : Calls Tryd.prog 26 #[.int .i64 (n : Int)] w fun e w' => e = .returned (.string (smB n)) ∧ Below w.heap.size w w' := by
  have HS := hide (Zq.Nm.short_any n w hn)
  rw [smB]
  obtain ⟨S, hS⟩ : ∃ S, Zq.Nm.strOf (uvarint n) = S := ⟨_, rfl⟩
  rw [hS] at HS ⊢
  clear hS
  go_enter Tryd.func26, Tryd.ntmps26
  go_wp2_with fail
  refine HS.out.mono ?_
  rintro _ w2 ⟨rfl, hb⟩
  have HB := hide hb
  clear hb
  go_wp2
  go_ret
  exact ⟨rfl, HB.out⟩
end Go.Proofs.YtcidfkkgpehodaaDoor

namespace Go.Proofs.YtcidfkkgpehodaaDoor
open Go.RowKit Go.Lib
/-- The builder at block b: its text, its rows, where its blobs lie. -/
structure PQ (w : World) (b mb : Nat) (v1 v2 : Value) (lim : Int) (O R : List UInt8) (n : Nat) (f : ByteArray → Option (Int × Int)) : Prop where
  blk : w.heap[b]? = some (.cells #[v1, v2, .map (some mb), .int .i64 lim] 72 (0, 0))
  t1 : BO 0 v1 O w
  t2 : BO 0 v2 R w
  map : MQ w mb n f
  ap : ∀ g, v1.ownBlock = some g → v2.ownBlock ≠ some g
/-- Its blocks. -/
def Pb (b mb : Nat) (v1 v2 : Value) (i : Nat) : Prop := i = b ∨ i = mb ∨ v1.ownBlock = some i ∨ v2.ownBlock = some i
section
variable {w w' : World} {b mb n : Nat} {v1 v2 : Value} {lim : Int} {O R : List UInt8} {f : ByteArray → Option (Int × Int)}
theorem bow_ne {v : Value} {L : List UInt8} {C : Array Value} {T : TypeId} (hv : BO 0 v L w) (hb : w.heap[b]? = some (.cells C T (0, 0))) (hT : T ≠ 5) : v.ownBlock ≠ some b := fun e => by
  obtain ⟨cs, h⟩ := OW.typ hv b e
  rw [hb] at h
  simp only [Option.some.injEq, Obj.cells.injEq] at h
  exact hT h.2.1
theorem bow_map {v : Value} {L : List UInt8} (hv : BO 0 v L w) (hm : MQ w mb n f) : v.ownBlock ≠ some mb := fun e => by
  obtain ⟨cs, h⟩ := OW.typ hv mb e
  exact hm.notCells h
theorem PQ.g0 (h : PQ w b mb v1 v2 lim O R n f) : GR w b 0 #[v1, v2, .map (some mb), .int .i64 lim] 72 v1 O := ⟨h.blk, rfl, h.t1, bow_ne h.t1 h.blk (by decide)⟩
theorem PQ.g1 (h : PQ w b mb v1 v2 lim O R n f) : GR w b 1 #[v1, v2, .map (some mb), .int .i64 lim] 72 v2 R := ⟨h.blk, rfl, h.t2, bow_ne h.t2 h.blk (by decide)⟩
theorem PQ.c2 (h : PQ w b mb v1 v2 lim O R n f) : w.cell? ⟨b, 2, none⟩ = some (.map (some mb)) := by simp [World.cell?, h.blk]
theorem PQ.c3 (h : PQ w b mb v1 v2 lim O R n f) : w.cell? ⟨b, 3, none⟩ = some (.int .i64 lim) := by simp [World.cell?, h.blk]
theorem PQ.ne (h : PQ w b mb v1 v2 lim O R n f) : mb ≠ b := fun e => by
  have := h.map
  rw [e] at this
  exact this.notCells h.blk
theorem PQ.lt (h : PQ w b mb v1 v2 lim O R n f) (i : Nat) (hi : Pb b mb v1 v2 i) : i < w.heap.size := by
  rcases hi with rfl | rfl | hi | hi
  · exact lt_of_block h.blk
  · exact h.map.lt
  · exact (OW.lt h.t1 i hi).2
  · exact (OW.lt h.t2 i hi).2
theorem PQ.kb (h : PQ w b mb v1 v2 lim O R n f) (hk : ∀ i, Pb b mb v1 v2 i → w'.heap[i]? = w.heap[i]?) : PQ w' b mb v1 v2 lim O R n f :=
  ⟨(hk b (.inl rfl)).trans h.blk, OW.kb h.t1 fun i hi => hk i (.inr (.inr (.inl hi))), OW.kb h.t2 fun i hi => hk i (.inr (.inr (.inr hi))), h.map.kb (hk mb (.inr (.inl rfl))), h.ap⟩
theorem PQ.gs {p : Nat → Prop} (h : PQ w b mb v1 v2 lim O R n f) (hg : Gs p w w') (hp : ∀ i, Pb b mb v1 v2 i → ¬ p i) : PQ w' b mb v1 v2 lim O R n f := h.kb fun i hi => hg.block i (h.lt i hi) (hp i hi)
theorem PQ.bel (h : PQ w b mb v1 v2 lim O R n f) (hb : Below w.heap.size w w') : PQ w' b mb v1 v2 lim O R n f := h.kb fun i hi => hb.block i (h.lt i hi)
theorem PQ.bel2 {w0 : World} (h : PQ w0 b mb v1 v2 lim O R n f) (hb : Below w0.heap.size w0 w') : PQ w' b mb v1 v2 lim O R n f := h.bel hb
set_option maxRecDepth 100000 in
theorem plen_any (h : PQ w b mb v1 v2 lim O R n f) : Calls Tryd.prog 10 #[.pointer (some ⟨b, 0, none⟩)] w fun e w' => e = .returned (.int .i64 (n : Int)) ∧ w' = w := by
  have k1 := h.c2
  have k2 := fun ty => h.map.len ty
  clear h
  go_enter Tryd.func10, Tryd.ntmps10
  go_wp2
  go_ret
  exact ⟨rfl, rfl⟩
/-- How many bytes it would have, if it told c blobs. -/
def byO (O R : List UInt8) (c : Nat) : Nat := O.length + (smB c).size + R.length + 8
set_option maxRecDepth 100000 in
set_option maxHeartbeats 800000 in
theorem bytesOf_any (h : PQ w b mb v1 v2 lim O R n f) (c : Nat) (hc : c ≤ 1000000) (hO : O.length ≤ 1000000) (hR : R.length ≤ 1000000) : Calls Tryd.prog 31 #[.pointer (some ⟨b, 0, none⟩), .int .i64 (c : Int)] w fun e w' => e = .returned (.int .i64 ((byO O R c : Nat) : Int)) ∧ Below w.heap.size w w' := by
  have hz := (smB_size c (by omega)).1
  have H0 : Hid (∀ (v : Value) (wx : World), v = .pointer (some ⟨b, 0, none⟩) → Below w.heap.size w wx → Calls Tryd.prog 28 #[v] wx fun e w' => e = .returned (.int .i64 (O.length : Int)) ∧ Below w.heap.size w w') := fun v wx hv hb => by
    subst hv
    exact (long_any (h.bel hb).g0).mono fun _ _ ⟨e, e2⟩ => ⟨e, e2 ▸ hb⟩
  have H1 : Hid (∀ (v : Value) (wx : World), v = .pointer (some ⟨b, 1, none⟩) → Below w.heap.size w wx → Calls Tryd.prog 28 #[v] wx fun e w' => e = .returned (.int .i64 (R.length : Int)) ∧ Below w.heap.size w w') := fun v wx hv hb => by
    subst hv
    exact (long_any (h.bel hb).g1).mono fun _ _ ⟨e, e2⟩ => ⟨e, e2 ▸ hb⟩
  have H2 : Hid (∀ (v : Value) (wx : World), v = .int .i64 (c : Int) → Below w.heap.size w wx → Calls Tryd.prog 26 #[v] wx fun e w' => e = .returned (.string (smB c)) ∧ Below w.heap.size w w') := fun v wx hv hb => by
    subst hv
    exact (shrt_any c wx (by omega)).mono fun _ _ ⟨e, hk⟩ => ⟨e, below_step hb hk⟩
  have S0 : Hid (Below w.heap.size w w ∧ Below w.heap.size w w.drew) := ⟨Below.refl _ _, (Below.refl _ _).drew⟩
  rw [byO]
  obtain ⟨S, hS⟩ : ∃ S, smB c = S := ⟨_, rfl⟩
  rw [hS] at hz H2 ⊢
  obtain ⟨x, hx⟩ : ∃ x, O.length = x := ⟨_, rfl⟩
  obtain ⟨y, hy⟩ : ∃ y, R.length = y := ⟨_, rfl⟩
  rw [hx] at hO H0 ⊢
  rw [hy] at hR H1 ⊢
  clear h hS hx hy
  have E : Hid (IntKind.i64.wrap (IntKind.i64.wrap (IntKind.i64.wrap (IntKind.i64.wrap ((x : Int) + (S.size : Int)) + (y : Int)) + 4) + 4) = ((x + S.size + y + 8 : Nat) : Int)) := by
    rw [Hid]
    simp only [IntKind.wrap_i64]
    omega
  go_enter Tryd.func31, Tryd.ntmps31
  go_wp2_with fail
  go_region_held_law (fun w' => Below w.heap.size w w') (first | assumption | exact S0.out.1 | exact S0.out.2)
    (first
      | (go_at_call 28; refine Calls.mono (H0.out _ _ (by with_reducible rfl) (by first | assumption | exact S0.out.1 | exact S0.out.2)) ?_; rintro e wa ⟨rfl, ka⟩)
      | (go_at_call 28; refine Calls.mono (H1.out _ _ (by with_reducible rfl) (by first | assumption | exact S0.out.1 | exact S0.out.2)) ?_; rintro e wb ⟨rfl, kb⟩)
      | (go_at_call 26; refine Calls.mono (H2.out _ _ (by with_reducible rfl) (by first | assumption | exact S0.out.1 | exact S0.out.2)) ?_; rintro e wc ⟨rfl, kc⟩))
  all_goals
    go_wp2
    go_ret
    exact ⟨by rw [E.out]; rfl, by assumption⟩
/-- Is there room for so many bytes, of one blob more? -/
def rmB (lim : Int) (n : Nat) (O R : List UInt8) (more : Nat) : Bool := (decide (n = 0) || decide (((byO O R (n + 1) + more : Nat) : Int) ≤ lim)) && decide (byO O R (n + 1) + more ≤ 65536) && decide (n + 1 ≤ 4096)
set_option maxRecDepth 100000 in
set_option maxHeartbeats 800000 in
theorem room_any (h : PQ w b mb v1 v2 lim O R n f) (more : Nat) (hn : n ≤ 100000) (hO : O.length ≤ 1000000) (hR : R.length ≤ 1000000) (hm : more ≤ 1000000) : Calls Tryd.prog 27 #[.pointer (some ⟨b, 0, none⟩), .int .i64 (more : Int)] w fun e w' => e = .returned (.bool (rmB lim n O R more)) ∧ Below w.heap.size w w' := by
  have hz := (smB_size (n + 1) (by omega)).1
  have HL := hide (plen_any h)
  have HY := hide (bytesOf_any h (n + 1) (by omega) hO hR)
  have HC : Hid (∀ wx, Below w.heap.size w wx → wx.cell? ⟨b, 3, none⟩ = some (.int .i64 lim)) := fun wx hb => (h.bel hb).c3
  have hby : byO O R (n + 1) ≤ 2000100 := by rw [byO]; omega
  rw [rmB]
  obtain ⟨t, ht⟩ : ∃ t, byO O R (n + 1) = t := ⟨_, rfl⟩
  rw [ht] at HY hby ⊢
  have HE : Hid (∀ (a1 a2 a3 a4 : Bool), ((n : Int) + 1 == 1) = a1 → decide (((t + more : Nat) : Int) ≤ lim) = a2 → decide (((t + more : Nat) : Int) ≤ 65536) = a3 → decide ((n : Int) + 1 ≤ 4096) = a4 → ((decide (n = 0) || decide (((t + more : Nat) : Int) ≤ lim)) && decide (t + more ≤ 65536) && decide (n + 1 ≤ 4096)) = ((a1 || a2) && a3 && a4)) := fun a1 a2 a3 a4 h1 h2 h3 h4 => by
    have g1 : decide (n = 0) = a1 := by rw [← h1]; by_cases c : n = 0 <;> simp [c] <;> omega
    have g3 : decide (t + more ≤ 65536) = a3 := by rw [← h3]; by_cases c : t + more ≤ 65536 <;> simp [c] <;> omega
    have g4 : decide (n + 1 ≤ 4096) = a4 := by rw [← h4]; by_cases c : n + 1 ≤ 4096 <;> simp [c] <;> omega
    rw [g1, h2, g3, g4]
  have w1 : IntKind.i64.wrap ((n : Int) + 1) = (n : Int) + 1 := by rw [IntKind.wrap_i64]; omega
  have w2 : IntKind.i64.wrap ((t : Int) + (more : Int)) = ((t + more : Nat) : Int) := by rw [IntKind.wrap_i64]; omega
  have e1 : ((n + 1 : Nat) : Int) = (n : Int) + 1 := by omega
  rw [e1] at HY
  obtain ⟨a1, h1⟩ : ∃ a, ((n : Int) + 1 == 1) = a := ⟨_, rfl⟩
  obtain ⟨u, hu⟩ : ∃ u, t + more = u := ⟨_, rfl⟩
  rw [hu] at w2 HE ⊢
  obtain ⟨a2, h2⟩ : ∃ a, decide (((u : Nat) : Int) ≤ lim) = a := ⟨_, rfl⟩
  obtain ⟨a3, h3⟩ : ∃ a, decide (((u : Nat) : Int) ≤ 65536) = a := ⟨_, rfl⟩
  obtain ⟨a4, h4⟩ : ∃ a, decide ((n : Int) + 1 ≤ 4096) = a := ⟨_, rfl⟩
  rw [HE.out a1 a2 a3 a4 h1 h2 h3 h4]
  clear HE h hO hR hm hz ht hu hn hby e1
  go_enter Tryd.func27, Tryd.ntmps27
  go_wp2_with fail
  refine HL.out.mono ?_
  rintro _ _ ⟨rfl, rfl⟩
  go_wp2_with fail
  refine HY.out.mono ?_
  rintro _ wa ⟨rfl, hb⟩
  have k3 := HC.out wa hb
  have HB := hide hb
  clear hb
  cases a1 <;> cases a2 <;> cases a3 <;> cases a4
  all_goals
    go_wp2
    go_ret
    exact ⟨rfl, HB.out⟩
end
end Go.Proofs.YtcidfkkgpehodaaDoor
