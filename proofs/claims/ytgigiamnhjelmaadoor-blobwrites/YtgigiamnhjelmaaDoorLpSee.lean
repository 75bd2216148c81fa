/-
  Lz: the program's finder looks at each place once.
-/
import Derived.Test.YtgigiamnhjelmaaDoorLpFind
namespace Go.Proofs.YtgigiamnhjelmaaDoor
open Go.RowKit Go.Lib
theorem Tryd.infoI32 : (Tryd.prog.info? 21).map (fun i => (i.zero, i.size, i.bytes)) = some (some (.int .i32 0), 1, 4) := by kernel_rfl
theorem Tryd.sizeSI : (Tryd.prog.info? 58).map (·.size) = some 1 := by kernel_rfl
def ic (z : Int) : List Value := [.int .i32 z]
theorem ic_len (z : Int) : (ic z).length = 1 := rfl
abbrev IO (B : Nat) (v : Value) (l : List Int) (w : World) : Prop := OW ic 1 21 B v l w
theorem step_append_run {P : Program} {ops : Array Oper} {o : Oper} {a : Act} {w : World} {K : Act → World → Prop} {Q : Exit → Act → World → Prop} {E : Prop} (hgd : o.guard = none) (dst : Option Tmp) (hdst : o.dst = dst) (s x : Operand) (t tn : TypeId)
    (ho : o.op = .call { callee := .builtin .append, args := #[s, x], argTypes := #[t, tn] }) (vs vx : Value) (hs : a.eval s = vs) (hx : a.eval x = vx)
    (v' : Value) (w' : World) (hr : (Builtin.append_ #[t, tn] o.type #[vs, vx]).run P w = .ok v' w') (h : K (a.put dst v') w') :
    if Region.wanted o (yielded ops a.tmps) = true then Oper.wp P o a w K Q else E := by
  have hw : Region.wanted o (yielded ops a.tmps) = true := by simp [Region.wanted, hgd]
  rw [if_pos hw]
  subst hdst
  unfold Oper.wp
  simp [execOp, ho, resolve, invoke, builtin, hs, hx, hr, Result.andThen]
  exact h
/-- A finder in memory, that has looked at k places. -/
structure FD (B : Nat) (w : World) (b mb : Nat) (v : Value) (s : ByteArray) (k : Nat) : Prop where
  fb : FB w b s mb v
  mp : MF w mb s k
  ro : IO B v ((List.range k).map (bf s)) w
  le : B ≤ w.heap.size
/-- A finder's blocks. -/
def FO (v : Value) (b mb : Nat) (i : Nat) : Prop := i = b ∨ i = mb ∨ v.ownBlock = some i
/-- A list's block is as it was, or new. -/
def FN (v v' : Value) (n : Nat) : Prop := v'.ownBlock = v.ownBlock ∨ ∃ j, v'.ownBlock = some j ∧ n ≤ j
section
variable {w w' w1 w2 : World} {B b mb k i : Nat} {s : ByteArray} {v v1 v2 : Value} {l : List Int}
theorem own_ne (h : IO B v l w) (hf : FB w b s mb v1) (e : v.ownBlock = some b) : False := by
  obtain ⟨cs, hc⟩ := h.typ b e
  have h2 : w.heap[b]? = _ := hf
  rw [hc] at h2
  simp at h2
theorem own_nm (h : IO B v l w) (hm : MF w mb s k) (e : v.ownBlock = some mb) : False := by
  obtain ⟨cs, hc⟩ := h.typ mb e
  exact hm.notCells hc
theorem FN.refl (v : Value) (n : Nat) : FN v v n := .inl rfl
theorem FN.trans (h : FN v v1 w.heap.size) (h2 : FN v1 v2 w1.heap.size) (hs : w.heap.size ≤ w1.heap.size) : FN v v2 w.heap.size := by
  rcases h2 with h2 | ⟨j, h2, h3⟩
  · rcases h with h | ⟨j, h, h4⟩
    · exact .inl (h2.trans h)
    · exact .inr ⟨j, h2.trans h, h4⟩
  · exact .inr ⟨j, h2, by omega⟩
theorem FO.trans (h : Gs (FO v b mb) w w1) (hn : FN v v1 w.heap.size) (h2 : Gs (FO v1 b mb) w1 w2) : Gs (FO v b mb) w w2 :=
  ⟨h2.os.trans h.os, h2.tape.trans h.tape, h2.output.trans h.output, Nat.le_trans h.size h2.size, fun i hi hp => (h2.block i (Nat.lt_of_lt_of_le hi h.size) (fun e => by
    rcases e with e | e | e
    · exact hp (.inl e)
    · exact hp (.inr (.inl e))
    · rcases hn with hn | ⟨j, hn, hj⟩
      · exact hp (.inr (.inr (hn.symm.trans e)))
      · rw [hn] at e
        simp at e
        omega)).trans (h.block i hi hp)⟩
theorem FD.ne (h : FD B w b mb v s k) : b ≠ mb := fun e => by
  subst e
  exact h.mp.notCells h.fb
theorem FD.nm (h : FD B w b mb v s k) : ∀ j, v.ownBlock = some j → j ≠ mb := fun j hj e => by
  subst e
  exact own_nm h.ro h.mp hj
theorem FD.nb (h : FD B w b mb v s k) : ∀ j, v.ownBlock = some j → j ≠ b := fun j hj e => by
  subst e
  exact own_ne h.ro h.fb hj
theorem FD.same (h : FD B w b mb v s k) (hg : Same w w') : FD B w' b mb v s k := ⟨h.fb.gs hg (fun e => e), h.mp.gs hg (fun e => e), h.ro.gs2 hg (fun _ _ e => e), Nat.le_trans h.le hg.size⟩
theorem FD.gs {p : Nat → Prop} (h : FD B w b mb v s k) (hg : Gs p w w') (hp : ∀ i, FO v b mb i → ¬ p i) : FD B w' b mb v s k := ⟨h.fb.gs hg (hp _ (.inl rfl)), h.mp.gs hg (hp _ (.inr (.inl rfl))), h.ro.gs2 hg (fun _ hi => hp _ (.inr (.inr hi))), Nat.le_trans h.le hg.size⟩
/-- A finder's blocks are there. -/
theorem FD.there (h : FD B w b mb v s k) (hi : FO v b mb i) : i < w.heap.size := by
  rcases hi with rfl | rfl | hi
  · exact h.fb.lt
  · exact h.mp.lt
  · exact (h.ro.lt i hi).2
theorem app_i (h : IO B v l w1) (z : Int) (hl : l.length ≤ 100000) (hB : B ≤ w1.heap.size) :
    ∃ v' w2, (Builtin.append_ #[58, 58] 58 #[v, .slice (some ⟨w1.heap.size, 0, none⟩) 1 1]).run Tryd.prog (w1.alloc (.cells #[.int .i32 z] 21)) = .ok v' w2 ∧ IO B v' (l ++ [z]) w2 ∧ Gs (fun i => v.ownBlock = some i) w1 w2 ∧ (v'.ownBlock = v.ownBlock ∨ v'.ownBlock = some (w1.heap.size + 1)) := by
  have hb1 : Below w1.heap.size w1 (w1.alloc (.cells #[.int .i32 z] 21)) := (Below.refl _ _).alloc (Nat.le_refl _) _
  have hS : LS ic 1 (fun _ => True) (w1.alloc (.cells #[.int .i32 z] 21)) (.slice (some ⟨w1.heap.size, 0, none⟩) 1 1) [z] := LS.one z 21 w1 ic 1 (fun _ => True) trivial
  obtain ⟨v', w2, h1, h2, h3, h4⟩ := (h.keep hb1).app ic_len (by decide) (fun x hx u hu => by
    simp [ic] at hu
    subst hu
    rfl) Tryd.underlying58 Tryd.infoI32 rfl hS (by simp; omega) (by simp; omega) (Nat.le_trans hB hb1.size)
  refine ⟨v', w2, h1, h2, ?_, by rw [World.size_alloc] at h4; exact h4⟩
  have h5 : Gs (fun i => v.ownBlock = some i) w1 (w1.alloc (.cells #[.int .i32 z] 21)) := Gs.of_below _ hb1
  cases hv : v.ownBlock with
  | none =>
    rw [hv] at h3
    refine ⟨h3.os.trans h5.os, h3.tape.trans h5.tape, h3.output.trans h5.output, Nat.le_trans h5.size h3.size, fun i hi hp => (h3.block i (Nat.lt_of_lt_of_le hi hb1.size) (by simp)).trans (hb1.block i hi)⟩
  | some c =>
    rw [hv] at h5 h3
    exact h5.gb h3 (.inl rfl)
theorem sto_i {b j : Nat} {v0 u : Value} {a : Option Addr} {n c : Nat} (h : w.cell? ⟨b, j, none⟩ = some v0) (hf : w.frozen? ⟨b, j, none⟩ = false) (hu : u = .slice a n c) : (Instr.storeAt 58 (.pointer (some ⟨b, j, none⟩)) u).run Tryd.prog w = .ok () (w.setCell ⟨b, j, none⟩ u) := by
  subst hu
  cases hq : Tryd.prog.info? 58 with
  | none => have := Tryd.sizeSI; simp [hq] at this
  | some i =>
    have hs : i.size = 1 := by simpa [hq] using Tryd.sizeSI
    simp [go_sem, sizeOf, typeInfo, hq, hs, h, hf, storeCells]
/-- A number of an own list, as it lies there. -/
theorem IO.cell (h : IO B v l w) {j : Nat} {z : Int} (hj : l[j]? = some z) : ∃ g c, v = .slice (some ⟨g, 0, none⟩) l.length c ∧ w.cell? ⟨g, j, none⟩ = some (.int .i32 z) := by
  have hl : j < l.length := (List.getElem?_eq_some_iff.1 hj).1
  obtain ⟨_, ⟨rfl, h2⟩ | ⟨g, cap, cur, rfl, hB, hg, hn, _, hs, ht⟩⟩ := h.own
  · omega
  · refine ⟨g, cap, rfl, ?_⟩
    rw [cell_of_row w g _ _ _ _ hg]
    have e0 : (l.flatMap ic)[j]? = some (.int .i32 z) := by
      have := flat_get ic_len l j 0 (by decide)
      rw [Nat.mul_one, Nat.add_zero, hj] at this
      rw [this]
      rfl
    rw [← ht, List.getElem?_take, if_pos (by omega)] at e0
    simpa using e0
set_option maxRecDepth 100000 in
set_option maxHeartbeats 3200000 in
theorem seeUp_any (h : FD B w b mb v s k) (hi : i ≤ s.size) (hs : s.size ≤ 5000) : Calls Tryd.prog 66 #[.pointer (some ⟨b, 0, none⟩), .int .i64 (i : Int)] w fun e w' => e = .returned (.tuple #[]) ∧ ∃ v', FD B w' b mb v' s (max k (i + 1)) ∧ Gs (FO v b mb) w w' ∧ FN v v' w.heap.size := by
  have c2 := (cell3 h.fb).2.2
  obtain ⟨av, cv, hv⟩ := h.ro.shp
  rw [List.length_map, List.length_range] at hv
  have H0 := hide (And.intro h hv)
  rw [hv] at c2
  clear h hv
  go_enter Tryd.func66, Tryd.ntmps66
  go_wp2
  go_loopw [4] (fun x wr => ∃ (k2 : Nat) (v2 : Value), x = .int .i64 (k2 : Int) ∧ k ≤ k2 ∧ k2 ≤ max k (i + 1) ∧ FD B wr b mb v2 s k2 ∧ Gs (FO v b mb) w wr ∧ FN v v2 w.heap.size) (fun x _ => i + 1 - (Go.RowKit.intOf x).toNat)
  case atStart => exact ⟨k, v, rfl, Nat.le_refl _, Nat.le_max_left _ _, H0.out.1, Gs.refl _ _, FN.refl _ _⟩
  case round =>
    obtain ⟨k2, v2, rfl, hk1, hk2, hF, hG, hN⟩ := hrel
    by_cases hlt : k2 ≤ i
    · have d1 : (k2 : Int) ≤ (i : Int) := by omega
      have d2 : IntKind.i64.wrap ((k2 : Int) + 1) = (k2 : Int) + 1 := by rw [IntKind.wrap_i64]; omega
      have HSE := hide (see_any (w := wr.drew) hF.fb hF.mp (by omega) hs)
      have HF := hide (And.intro hF (And.intro hF.ne (And.intro hF.nm (And.intro hF.le (And.intro hG hN)))))
      have hHeld : wr.drew.cell? ⟨b, 2, none⟩ = some v2 := (cell3 hF.fb).2.2
      clear hF hG hN
      go_upto_region 3 with fail
      refine AnyZ.start (z := 12) (S := fun w' => w'.cell? ⟨b, 2, none⟩ = some v2) (by kernel_rfl) ?_
      refine AnyZ.take (i := 0) (d := 15) (v := .pointer (some ⟨b, 0, none⟩)) rfl rfl (by kernel_rfl) (by kernel_rfl) (by kernel_rfl) (by kernel_rfl) (fun _ _ _ h => h) (Or.inl ⟨by rfl, fun w' hSw => ?_⟩) hHeld ?_
      · have hc := hSw
        go_simp
      try simp only [List.setIfInBounds_toArray, List.set_cons_zero, List.set_cons_succ]
      refine AnyZ.take (i := 1) (d := 16) (v := .pointer (some ⟨b, 0, none⟩)) rfl rfl (by kernel_rfl) (by kernel_rfl) (by kernel_rfl) (by kernel_rfl) (fun _ _ _ h => h) (Or.inl ⟨by rfl, fun w' hSw => ?_⟩) hHeld ?_
      · have hc := hSw
        go_simp
      try simp only [List.setIfInBounds_toArray, List.set_cons_zero, List.set_cons_succ]
      refine AnyZ.take (i := 2) (d := 17) (v := .pointer (some ⟨b, 0, none⟩)) rfl rfl (by kernel_rfl) (by kernel_rfl) (by kernel_rfl) (by kernel_rfl) (fun _ _ _ h => h) (Or.inl ⟨by rfl, fun w' hSw => ?_⟩) hHeld ?_
      · have hc := hSw
        go_simp
      try simp only [List.setIfInBounds_toArray, List.set_cons_zero, List.set_cons_succ]
      refine AnyZ.take (i := 3) (d := 18) (v := .pointer (some ⟨b, 2, none⟩)) rfl rfl (by kernel_rfl) (by kernel_rfl) (by kernel_rfl) (by kernel_rfl) (fun _ _ _ h => h) (Or.inl ⟨by rfl, fun w' hSw => ?_⟩) hHeld ?_
      · have hc := hSw
        go_simp
      try simp only [List.setIfInBounds_toArray, List.set_cons_zero, List.set_cons_succ]
      refine AnyZ.take (i := 4) (d := 19) (v := v2) rfl rfl (by kernel_rfl) (by kernel_rfl) (by kernel_rfl) (by kernel_rfl) (fun _ _ _ h => h) (Or.inl ⟨by rfl, fun w' hSw => ?_⟩) hHeld ?_
      · have hc := hSw
        go_simp
      try simp only [List.setIfInBounds_toArray, List.set_cons_zero, List.set_cons_succ]
      refine AnyZ.take (i := 5) (d := 20) (v := .pointer (some ⟨b, 0, none⟩)) rfl rfl (by kernel_rfl) (by kernel_rfl) (by kernel_rfl) (by kernel_rfl) (fun _ _ _ h => h) (Or.inl ⟨by rfl, fun w' hSw => ?_⟩) hHeld ?_
      · have hc := hSw
        go_simp
      try simp only [List.setIfInBounds_toArray, List.set_cons_zero, List.set_cons_succ]
      refine AnyZ.take (i := 6) (d := 21) (v := .int .i64 (k2 : Int)) rfl rfl (by kernel_rfl) (by kernel_rfl) (by kernel_rfl) (by kernel_rfl) (fun _ _ _ h => h) (Or.inl ⟨by rfl, fun w' hSw => ?_⟩) hHeld ?_
      · have hc := hSw
        go_simp
      try simp only [List.setIfInBounds_toArray, List.set_cons_zero, List.set_cons_succ]
      refine AnyZ.one (i := 7) (by kernel_rfl) rfl fun K hK => ?_
      go_simp
      refine HSE.out.mono ?_
      rintro e w2 ⟨rfl, hM2, hG2⟩
      have hF2 : FB w2 b s mb v2 := HF.out.1.fb.gs (w := wr) ⟨hG2.os, hG2.tape, hG2.output, hG2.size, hG2.block⟩ HF.out.2.1
      have hO2 := HF.out.1.ro.gs2 (w' := w2) (p := fun i => i = mb) ⟨hG2.os, hG2.tape, hG2.output, hG2.size, hG2.block⟩ (fun i hi => HF.out.2.2.1 i hi)
      have hB2 : B ≤ w2.heap.size := Nat.le_trans HF.out.2.2.2.1 hG2.size
      obtain ⟨v', w3, hap, hO3, hG3, hob⟩ := app_i hO2 (bf s k2) (by rw [List.length_map, List.length_range]; omega) hB2
      have hS2 := (cell3 hF2).2.2
      have hBa : Below w2.heap.size w2 (w2.alloc (.cells #[.int .i32 (bf s k2)] 21)) := (Below.refl _ _).alloc (Nat.le_refl _) _
      have hSa : (w2.alloc (.cells #[.int .i32 (bf s k2)] 21)).cell? ⟨b, 2, none⟩ = some v2 := (cell3 ((hBa.block b hF2.lt).trans hF2)).2.2
      have hF3 : FB w3 b s mb v2 := (hG3.block b hF2.lt (fun e => own_ne hO2 hF2 e)).trans hF2
      have hS3 := (cell3 hF3).2.2
      have hM3 : MF w3 mb s (k2 + 1) := hM2.gs hG3 (fun e => own_nm hO2 hM2 e)
      have f3 := free3 hF3 2
      obtain ⟨ad, cp, hv'⟩ := hO3.shp
      have hst := sto_i hS3 f3 hv'
      have hF4 : FB (w3.setCell ⟨b, 2, none⟩ v') b s mb v' := heap_set_self (u := v') hF3
      have hG4 : Gs (fun i => i = b) w3 (w3.setCell ⟨b, 2, none⟩ v') := (Gs.refl (fun i => i = b) _).set (a := ⟨b, 2, none⟩) (.inl rfl) _
      have hM4 := hM3.gs hG4 (fun e => by subst e; exact hM3.notCells hF3)
      have hO4 := hO3.gs2 hG4 (fun i hi e => own_ne hO3 hF3 (e ▸ hi))
      have hl4 : (List.range k2).map (bf s) ++ [bf s k2] = (List.range (k2 + 1)).map (bf s) := by rw [List.range_succ, List.map_append]; rfl
      rw [hl4] at hO4
      have hGG : Gs (FO v2 b mb) wr (w3.setCell ⟨b, 2, none⟩ v') :=
        ((Gs.mono (w := wr) (w' := w2) (p := fun i => i = mb) ⟨hG2.os, hG2.tape, hG2.output, hG2.size, hG2.block⟩ (fun i _ e => .inr (.inl e))).trans (hG3.mono fun i _ e => .inr (.inr e))).trans (hG4.mono fun i _ e => .inl e)
      have hFN : FN v2 v' wr.heap.size := by
        have h1 : wr.heap.size ≤ w2.heap.size := hG2.size
        rcases hob with h | h
        · exact .inl h
        · exact .inr ⟨_, h, by omega⟩
      have HE : Hid (FD B (w3.setCell ⟨b, 2, none⟩ v') b mb v' s (k2 + 1) ∧ Gs (FO v2 b mb) wr (w3.setCell ⟨b, 2, none⟩ v') ∧ FN v2 v' wr.heap.size) := ⟨⟨hF4, hM4, hO4, Nat.le_trans hB2 (by have := hG3.size; simpa using this)⟩, hGG, hFN⟩
      refine hK.out _ _ (fun _ => hS2) (fun hHeld2 => ?_)
      clear hK K hHeld hM2 hG2 hF2 hO2 hB2 hO3 hG3 hob hBa hF3 hM3 f3 hv' hF4 hG4 hM4 hO4 hl4 hGG hFN
      have hHeld := hS2
      try simp only [Act.put, List.setIfInBounds_toArray, List.set_cons_zero, List.set_cons_succ]
      refine AnyZ.one (i := 8) (by kernel_rfl) rfl fun K hK => ?_
      go_simp
      refine hK.out _ _ (fun _ => hSa) (fun hHeld3 => ?_)
      clear hK K
      try simp only [Act.put, List.setIfInBounds_toArray, List.set_cons_zero, List.set_cons_succ]
      refine AnyZ.one (i := 9) (by kernel_rfl) rfl fun K hK => ?_
      refine step_append_run rfl (some 24) rfl _ _ 58 58 rfl _ _ rfl rfl _ _ hap ?_
      refine hK.out _ _ (fun _ => hS3) (fun hHeld4 => ?_)
      clear hK K hHeld
      have hHeld := hS3
      try simp only [Act.put, List.setIfInBounds_toArray, List.set_cons_zero, List.set_cons_succ]
      refine AnyZ.one (i := 10) (by kernel_rfl) rfl fun K hK => ?_
      go_simp
      refine hK.out _ _ (fun _ => hS3) (fun hHeld5 => ?_)
      clear hK K
      try simp only [Act.put, List.setIfInBounds_toArray, List.set_cons_zero, List.set_cons_succ]
      refine AnyZ.one (i := 11) (by kernel_rfl) rfl fun K hK => ?_
      go_simp
      refine hK.out _ _ (fun _ => hS3) (fun hHeld5 => ?_)
      clear hK K
      try simp only [Act.put, List.setIfInBounds_toArray, List.set_cons_zero, List.set_cons_succ]
      refine AnyZ.one (i := 12) (by kernel_rfl) rfl fun K hK => ?_
      refine step_store_run rfl 58 _ _ rfl _ _ rfl rfl _ hst ?_
      refine hK.out _ _ (fun h => absurd rfl h) (fun _ => ?_)
      clear hK K
      try simp only [Act.put]
      refine AnyZ.done (by kernel_rfl) ?_ _
      clear hHeld
      go_wp2
      exact ⟨⟨k2 + 1, v', by go_num, by omega, by omega, HE.out.1, FO.trans HF.out.2.2.2.2.1 HF.out.2.2.2.2.2 HE.out.2.1, FN.trans HF.out.2.2.2.2.2 HE.out.2.2 HF.out.2.2.2.2.1.size⟩, by simp [Go.RowKit.intOf]; omega⟩
    · have d1 : ¬ (k2 : Int) ≤ (i : Int) := by omega
      have HE := hide (And.intro hF (And.intro hG hN))
      clear hF hG hN
      go_wp2
      go_end0
      have e : k2 = max k (i + 1) := by omega
      rw [e] at HE
      exact ⟨rfl, v2, HE.out⟩
end
end Go.Proofs.YtgigiamnhjelmaaDoor
