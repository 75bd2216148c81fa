/-
  Lookup: a list with others let in.
-/
import Derived.Test.YtkcefdiiibbflaaLuBack
import Derived.Test.YtkcefdiiibbflaaLuRound
namespace Go.Proofs.Ytkcefdiiibbflaa
open Go.RowKit Go.Lib Go.Shelf
attribute [local go_sem] Oper.semAt_some
theorem cell1 {w : World} {b : Nat} {v : Value} {T : TypeId} (h : w.heap[b]? = some (.cells #[v] T (0, 0))) : w.cell? ⟨b, 0, none⟩ = some v ∧ w.frozen? ⟨b, 0, none⟩ = false := by simp [World.cell?, World.frozen?, h]
theorem in_append_run {F : Fence} {n : Nat} {P : Program} {w : World} {ops : Array Oper} {rest : List Oper} {o : Oper} {a : Act} {Q : Exit → Act → World → Prop} (hgd : o.guard = none) (s x : Operand) (t tn : TypeId)
    (ho : o.op = .call { callee := .builtin .append, args := #[s, x], argTypes := #[t, tn] }) (vs vx : Value) (hs : a.eval s = vs) (hx : a.eval x = vx)
    (v' : Value) (w' : World) (hr : (Builtin.append_ #[t, tn] o.type #[vs, vx]).run P w = .ok v' w') (h : wpListIn F n P ops Q rest (a.put o.dst v') w') : wpListIn F n P ops Q (o :: rest) a w := by
  refine wpListIn_plain hgd fun K hK => ?_
  unfold Oper.wpIn
  refine ⟨by simp [Oper.about, ho, resolve, Target.leads, Sem.run_pure], ?_⟩
  rw [Oper.semAt_plain F _ _ (by rw [ho]; intro c hc'; cases hc')]
  simp [execOp, ho, resolve, invoke, builtin, hs, hx, hr, Result.andThen]
  exact hK _ _ h
theorem in_store_run {F : Fence} {n : Nat} {w w1 : World} {ops : Array Oper} {rest : List Oper} {op : Oper} {a : Act} {Q : Exit → Act → World → Prop} (hgd : op.guard = none) (ty : TypeId) (x y : Operand) (ho : op.op = .store ty x y)
    (p v : Value) (hx : a.eval x = p) (hy : a.eval y = v) (hr : (Instr.storeAt ty p v).run Try.prog w = .ok () w1)
    (h : wpListIn F n Try.prog ops Q rest (a.put op.dst undef) w1) : wpListIn F n Try.prog ops Q (op :: rest) a w := by
  refine wpListIn_plain hgd fun K hK => ?_
  unfold Oper.wpIn
  refine ⟨?_, ?_⟩
  · simp [Oper.about, ho]
  · rw [Oper.semAt_plain F _ _ (by rw [ho]; intro c hc'; cases hc')]
    simp only [execOp, ho, hx, hy, Sem.run_bind, Sem.run_pure, Result.andThen_ok, hr]
    exact hK _ _ h
theorem Gs.step {p q : Nat → Prop} {w w1 w2 : World} (h : Gs p w w1) (k : Gs q w1 w2) (hq : ∀ i, q i → p i ∨ w.heap.size ≤ i) : Gs p w w2 :=
  ⟨k.os.trans h.os, k.tape.trans h.tape, k.output.trans h.output, Nat.le_trans h.size k.size, fun i hi hp => (k.block i (Nat.lt_of_lt_of_le hi h.size) (fun e => by
    rcases hq i e with h1 | h1
    · exact hp h1
    · omega)).trans (h.block i hi hp)⟩
theorem Gs.grown {p : Nat → Prop} {w w1 w2 : World} {b : Option Nat} (h : Gs p w w1) (k : w1.grownBy w2 b) (hb : ∀ i, b = some i → p i ∨ w.heap.size ≤ i) : Gs p w w2 :=
  ⟨k.os.trans h.os, k.tape.trans h.tape, k.output.trans h.output, Nat.le_trans h.size k.size, fun i hi hp => (k.block i (Nat.lt_of_lt_of_le hi h.size) (fun e => by
    rcases hb i e.symm with h1 | h1
    · exact hp h1
    · omega)).trans (h.block i hi hp)⟩
theorem lt_of_block' {w : World} {i : Nat} {o : Obj} (h : w.heap[i]? = some o) : i < w.heap.size := (Array.getElem?_eq_some_iff.1 h).1
theorem OW.gs {B : Nat} {v : Value} {l : List IT} {w w' : World} {p : Nat → Prop} (h : OW it6 6 25 B v l w) (hg : Gs p w w') (hp : ∀ i, v.ownBlock = some i → ¬ p i) : OW it6 6 25 B v l w' :=
  h.kb fun i hi => hg.block i (h.lt i hi).2 (hp i hi)
/-- What letting others in leaves. -/
def WX (w : World) (lv : Value) (gm om N : Nat) (L M : List IT) (v' : Value) (w' : World) : Prop :=
  ∃ R : List IT, OW it6 6 25 0 v' R w' ∧ SS R ∧ (∀ x, x ∈ R ↔ x ∈ L ∨ x ∈ M) ∧ Gs (fun i => lv.ownBlock = some i ∨ i = gm) w w' ∧ (v'.ownBlock = lv.ownBlock ∨ ∃ b, v'.ownBlock = some b ∧ w.heap.size ≤ b) ∧ KB6 w' gm N ∧ ∀ j, (j < om ∨ om + M.length * 6 ≤ j) → w'.cell? ⟨gm, j, none⟩ = w.cell? ⟨gm, j, none⟩
section
variable {w : World} {lv : Value} {L M : List IT} {gm om N cm : Nat}
theorem has_pr {r : Nat → Prop} (hn : L.length ≤ 1099511627776) (hS : SS L) : PR (.func (.func 39) #[lv] #[]) (fun x => decide (x ∈ L)) (fun W => LS it6 6 r W lv L) :=
  ⟨⟨_, _, _, rfl, enters_of Try.func39 (by kernel_rfl) rfl, fun x W hK => by
    have := has_any hK hn hS x
    simpa using this⟩, fun _ _ h hb => h.bel hb⟩
set_option maxRecDepth 100000 in
set_option maxHeartbeats 3200000 in
theorem with_any (hO : OW it6 6 25 0 lv L w) (hSL : SS L) (hG : SG w gm om N M) (hSM : SS M) (hne : lv.ownBlock ≠ some gm) (hn : L.length ≤ 100000) (hm : M.length ≤ 1000) (hc : M.length ≤ cm) (hcm : cm ≤ 9223372036854775807) :
    Calls Try.prog 25 #[lv, .slice (some ⟨gm, om, none⟩) M.length cm] w fun e w' => ∃ v', e = .returned v' ∧ WX w lv gm om N L M v' w' := by
  obtain ⟨la, lc, hlv⟩ := hO.shp
  obtain ⟨bb, hbb⟩ : ∃ bb, bb = w.heap.size := ⟨_, rfl⟩
  obtain ⟨w1, hw1⟩ : ∃ w1, w1 = w.alloc (.cells #[lv] 46) := ⟨_, rfl⟩
  have hB1 : Below w.heap.size w w1 := by rw [hw1]; exact (Below.refl _ _).alloc (Nat.le_refl _) _
  have k1 : w1.heap[bb]? = some (.cells #[lv] 46 (0, 0)) := by rw [hw1, hbb]; exact heap_alloc_new w _
  have hO1 := hO.keep hB1
  have hL1 : LS it6 6 (fun i => lv.ownBlock = some i) w1 lv L := hO1.ls it6_len (fun i h => h)
  have HD := hide (del_any (c := cm) (has_pr (by omega) hSL) (fun W W' h hg => h.gs hg (fun i hi e => hne (by rw [← e]; exact hi))) (hG.bel hB1) (by omega) hc (by omega) hL1)
  have HX := hide (And.intro hO (And.intro hSL (And.intro hG (And.intro hSM (And.intro hne (And.intro hB1 (And.intro k1 hO1)))))))
  have y1 := (cell1 k1).1
  have HW := hide hw1
  have HBB := hide hbb
  subst hlv
  have hmf : ∀ (fn : Fn) (first cap : Array Value) (w : World), (Instr.makeFunc fn first cap).run Try.prog w = .ok (.func fn first cap) w := fun _ _ _ _ => rfl
  clear hO hSL hG hSM hne hB1 k1 hO1 hL1 hw1 hbb
  refine (callsIn_wide (n := 0)).1 ?_
  refine callsIn_of_wp_marks Try.func25 rfl trivial ?_ rfl
  simp only [Try.ntmps25, List.size_toArray, List.length_cons, List.length_nil, Nat.reduceAdd, Nat.reduceSub, Array.replicate_succ, Array.replicate_zero, List.push_toArray, List.append_toArray, List.nil_append, List.cons_append]
  gi_wp2
  rw [← HW.out, ← HBB.out]
  refine ⟨trivial, rfl, (callsIn_wide.2 HD.out).mono ?_⟩
  rintro e w2 ⟨rfl, hSG2, hG2, hfr2⟩
  obtain ⟨hO, hSL, hG, hSM, hne, hB1, k1, hO1⟩ := HX.out
  obtain ⟨M', hM'⟩ : ∃ M', M' = M.filter fun x => !decide (x ∈ L) := ⟨_, rfl⟩
  rw [← hM'] at hSG2 ⊢
  have hMl : M'.length ≤ M.length := by rw [hM']; exact List.length_filter_le _ _
  have hgmw : gm < w.heap.size := hG.blk.lt
  have hbw : bb = w.heap.size := HBB.out
  have hlw : ∀ i, (Value.slice la L.length lc).ownBlock = some i → i < w.heap.size := fun i hi => (hO.lt i hi).2
  have k2 : w2.heap[bb]? = some (.cells #[.slice la L.length lc] 46 (0, 0)) := (hG2.block bb (lt_of_block k1) (by omega)).trans k1
  have hO2 := hO1.gs hG2 (fun i hi e => hne (by rw [← e]; exact hi))
  have hs12 := hG2.size
  have hs1 := hB1.size
  obtain ⟨be, hbe⟩ : ∃ be, be = w2.heap.size := ⟨_, rfl⟩
  obtain ⟨w3, hw3⟩ : ∃ w3, w3 = w2.alloc (.cells #[.int .i64 (L.length : Int)] 3) := ⟨_, rfl⟩
  have hB3 : Below w2.heap.size w2 w3 := by rw [hw3]; exact (Below.refl _ _).alloc (Nat.le_refl _) _
  have e3 : w3.heap[be]? = some (.cells #[.int .i64 (L.length : Int)] 3 (0, 0)) := by rw [hw3, hbe]; exact heap_alloc_new w2 _
  have hs3 : w3.heap.size = be + 1 := by rw [hw3, hbe]; simp
  have k3 := (hB3.block bb (lt_of_block k2)).trans k2
  have hbb2 := lt_of_block k2
  have hO3 := hO2.keep hB3
  have hSG3 := hSG2.bel hB3
  obtain ⟨v4, w4, hr, hO4, hg4, hv4⟩ := OW.app (ST := 46) it6_len (by decide) (fun x _ => it6_one x) Try.underlying46 Try.infoIt rfl hO3 (hSG3.ls (c := cm)) (by omega) (by omega) (Nat.zero_le _)
  obtain ⟨va, vc, hv4s⟩ := hO4.shp
  rw [List.length_append] at hv4s
  subst hv4s
  have hs4 := hg4.size
  have k4 : w4.heap[bb]? = some (.cells #[.slice la L.length lc] 46 (0, 0)) := (hg4.block bb (lt_of_block k3) (fun e => by have := hlw bb e.symm; omega)).trans k3
  have e4 : w4.heap[be]? = some (.cells #[.int .i64 (L.length : Int)] 3 (0, 0)) := (hg4.block be (lt_of_block e3) (fun e => by have := hlw be e.symm; omega)).trans e3
  have hSG4 := hSG3.kb (hg4.block gm hSG3.blk.lt (fun e => hne e.symm))
  obtain ⟨w5, hw5⟩ : ∃ w5, w5 = w4.setCell ⟨bb, 0, none⟩ (.slice va (L.length + M'.length) vc) := ⟨_, rfl⟩
  have hG5 : Gs (fun i => i = bb) w4 w5 := by rw [hw5]; exact ⟨rfl, rfl, rfl, by simp [World.setCell], fun i _ hp => heap_setCell_other _ _ _ _ (fun e => hp e)⟩
  have k5 : w5.heap[bb]? = some (.cells #[.slice va (L.length + M'.length) vc] 46 (0, 0)) := by rw [hw5]; exact heap_set_self k4
  have hvne : ∀ i, (Value.slice va (L.length + M'.length) vc).ownBlock = some i → i < w.heap.size ∨ be + 1 ≤ i := fun i hi => by
    rcases hv4 with h | h
    · rw [h] at hi; exact .inl (hlw i hi)
    · rw [h] at hi; cases hi; exact .inr (by omega)
  have hO5 := hO4.gs hG5 (fun i hi e => by have := hvne i hi; omega)
  have e5 := (hG5.block be (lt_of_block e4) (by omega)).trans e4
  have hSG5 := hSG4.kb (hG5.block gm hSG4.blk.lt (by omega))
  have hs5 := hG5.size
  obtain ⟨y2, _⟩ := cell1 k2
  obtain ⟨y3, _⟩ := cell1 k3
  obtain ⟨y4, z4⟩ := cell1 k4
  have HSS : Hid (SS L ∧ SS M' ∧ ∀ x ∈ M', x ∉ L) := hide ⟨hSL, by rw [hM']; exact hSM.filter _, fun x hx => by rw [hM', List.mem_filter] at hx; simpa using hx.2⟩
  have HGW : Hid (Gs (fun i => (Value.slice la L.length lc).ownBlock = some i ∨ i = gm) w w5 ∧ w5.heap[gm]? = w2.heap[gm]? ∧ (∀ j, (j < om ∨ om + M.length * 6 ≤ j) → w2.cell? ⟨gm, j, none⟩ = w.cell? ⟨gm, j, none⟩) ∧ ((Value.slice va (L.length + M'.length) vc).ownBlock = (Value.slice la L.length lc).ownBlock ∨ ∃ b, (Value.slice va (L.length + M'.length) vc).ownBlock = some b ∧ w.heap.size ≤ b) ∧ ∀ x, (x ∈ L ∨ x ∈ M') ↔ (x ∈ L ∨ x ∈ M)) := by
    have g3 := ((Gs.of_below (fun i => (Value.slice la L.length lc).ownBlock = some i ∨ i = gm) hB1).trans (hG2.mono fun i _ e => .inr e)).bel hB3
    have g4 := g3.grown hg4 (fun i e => .inl (.inl e))
    have g5 := g4.step hG5 (fun i e => .inr (by omega))
    refine hide ⟨g5, ?_, fun j hj => ?_, ?_, fun x => ?_⟩
    · rw [hG5.block gm hSG4.blk.lt (by omega), hg4.block gm hSG3.blk.lt (fun e => hne e.symm), hB3.block gm hSG2.blk.lt]
    · rw [hfr2 j hj, World.cell?, World.cell?, hB1.block gm hgmw]
    · rcases hv4 with h | h
      · exact .inl h
      · exact .inr ⟨_, h, by omega⟩
    · rw [hM', List.mem_filter]
      constructor
      · rintro (h | h)
        · exact .inl h
        · exact .inr h.1
      · rintro (h | h)
        · exact .inl h
        · by_cases hx : x ∈ L
          · exact .inl hx
          · exact .inr ⟨h, by simpa using hx⟩
  have HNE : Hid ((Value.slice va (L.length + M'.length) vc).ownBlock ≠ some gm) := by
    refine hide fun h => ?_
    rcases hv4 with h4 | h4
    · rw [h4] at h; exact hne h
    · rw [h4] at h; cases h; omega
  have HY := hide (And.intro hO5 (And.intro e5 (And.intro hSG5 (And.intro k5 (And.intro hs5 (And.intro hvne (And.intro hM' hMl)))))))
  have HW3 := hide (And.intro hw3 hbe)
  have HW5 := hide hw5
  have HGG := hide (And.intro hG2 (And.intro hB3 (And.intro hg4 (And.intro hG5 hfr2))))
  have HBW := hide (And.intro hbw (And.intro hgmw (And.intro hs12 (And.intro hs1 (And.intro hs3 (And.intro hbb2 hs4))))))
  have hw3' := hw3.symm
  have hbe' := hbe.symm
  have hw5' := hw5.symm
  clear hbw hgmw hs12 hs1 hs3 hbb2 hs4 hs5 hw3 hbe hw5 hSG2 hG2 hfr2 hO hSL hG hSM hne hB1 k1 hO1 hM' hO2 hB3 hO3 hSG3 hO4 hg4 hv4 hG5 hO5 e5 hSG5 k5 hvne hSG4 e4 k4 e3 k3 k2 hlw y1
  gi_wp2_with (gi_at_builtin; refine in_append_run rfl _ _ _ _ rfl _ _ rfl rfl _ _ hr ?_)
  refine ⟨trivial, rfl, (callsIn_wide.2 (backf_any _ _ _)).mono ?_⟩
  rintro e w6 ⟨rfl, hw6⟩
  obtain ⟨bk, hbk⟩ : ∃ bk, w5.heap.size = bk := ⟨_, rfl⟩
  rw [hbk]
  have H6 : Hid (Below w5.heap.size w5 w6 ∧ w6.heap[bk]? = some (.cells #[.slice (some ⟨gm, om, none⟩) M'.length cm] 46 (0, 0)) ∧ w6.heap.size = bk + 1) := by
    rw [hw6]
    exact ⟨(Below.refl _ _).alloc (Nat.le_refl _) _, by rw [← hbk]; exact heap_alloc_new w5 _, by rw [← hbk]; simp⟩
  have HBK := hide hbk
  clear hw6 hbk hw3' hbe' hw5' y2 y3 y4 z4 HD HX
  gi_wp2
  obtain ⟨hO5, e5, hSG5, k5, hs5, hvne, hM', hMl⟩ := HY.out
  obtain ⟨hB6, k6, hs6⟩ := H6.out
  obtain ⟨hbw, hgmw, hs12, hs1, hs3, hbb2, hs4⟩ := HBW.out
  obtain ⟨hw3, hbe⟩ := HW3.out
  obtain ⟨n, hn0⟩ : ∃ n, n = L.length := ⟨_, rfl⟩
  obtain ⟨k, hk0⟩ : ∃ k, k = M'.length := ⟨_, rfl⟩
  rw [← hn0, ← hk0] at hvne k5 hO5
  rw [← hn0] at e5
  rw [← hk0] at k6
  have hnv : ∀ i, (Value.slice va (n + k) vc).ownBlock = some i → i < w5.heap.size ∧ i ≠ bb ∧ i ≠ be ∧ i ≠ gm ∧ i ≠ bk := fun i hi => by
    have h1 := (hO5.lt i hi).2
    have h2 := hvne i hi
    have h3 : i ≠ gm := fun e => by
      subst e
      have hne' := HNE.out
      rw [← hn0, ← hk0] at hne'
      exact hne' hi
    have h4 := HBK.out
    have h5 := HW3.out.2
    refine ⟨h1, ?_, ?_, h3, ?_⟩ <;> omega
  have HNV := hide hnv
  have hbk5 := HBK.out
  have k5' := (hB6.block bb (lt_of_block k5)).trans k5
  have e5' := (hB6.block be (lt_of_block e5)).trans e5
  have hO6 := hO5.keep hB6
  have hSG6 := hSG5.bel hB6
  have HLT : Hid (bb < w6.heap.size ∧ be < w6.heap.size ∧ bk < w6.heap.size ∧ gm < w6.heap.size ∧ bb ≠ be ∧ gm ≠ be ∧ bk ≠ be ∧ bk ≠ gm ∧ bb ≠ gm) := by
    have h1 := lt_of_block k5'
    have h2 := lt_of_block e5'
    have h3 := lt_of_block k6
    have h4 := hSG6.blk.lt
    have h5 := HW3.out.2
    have h6 := lt_of_block k5
    have h7 := lt_of_block e5
    refine hide ⟨h1, h2, h3, h4, ?_, ?_, ?_, ?_, ?_⟩ <;> omega
  have HNK := hide (And.intro hn0 hk0)
  have hST := wi_start L M'
  rw [← hn0, ← hk0] at hST
  have H7 := hide (And.intro k5' (And.intro e5' (And.intro hO6 (And.intro hSG6 (And.intro k6 hST)))))
  have SQ := hide (back_seq (w := w6) (M := M') (bx := bk) (g := gm) (o := om) (N := N) (c := cm) (by omega))
  have hkM : k ≤ 1000 := by omega
  have hnM : n ≤ 100000 := by omega
  rw [← hn0, ← hk0]
  rw [← hk0] at SQ
  clear hO5 e5 hSG5 k5 hs5 hvne hM' hMl hB6 k6 hs6 hbw hgmw hs12 hs1 hs3 hbb2 hs4 hw3 hbe hnv hbk5 k5' e5' hO6 hSG6 hST hn0 hk0 hn hm hc
  refine range_p2 (gf := 54) (lb := #[.pointer (some ⟨bk, 0, none⟩)]) rfl (enters_of Try.func54 (by kernel_rfl) rfl) SQ.out rfl (by rintro t v ⟨i, x, _, _, rfl⟩; rfl)
    (fun t W => ∃ (e : Nat) (T : List IT), WI L M' e (k - t) T ∧ t ≤ k ∧ W.heap[bb]? = some (.cells #[.slice va (n + k) vc] 46 (0, 0)) ∧ W.heap[be]? = some (.cells #[.int .i64 (e : Int)] 3 (0, 0)) ∧ (W.heap[bk]? = some (.cells #[.slice (some ⟨gm, om, none⟩) k cm] 46 (0, 0)) ∧ SG W gm om N M') ∧ OW it6 6 25 0 (.slice va (n + k) vc) T W ∧ Gs (fun i => (Value.slice va (n + k) vc).ownBlock = some i ∨ i = be) w6 W)
    ?stb (fun t A h => by obtain ⟨e, T, _, _, _, _, h, _⟩ := h; exact h) ?start
    (fun v W => { tmps := #[.slice la n lc, .slice (some ⟨gm, om, none⟩) k cm, .pointer (some ⟨bb, 0, none⟩), undef, .slice none 0 0, .pointer (some ⟨be, 0, none⟩), v.getD 0 undef, .pointer (some ⟨W.heap.size, 0, none⟩), undef, .slice (some ⟨gm, om, none⟩) M.length cm, .slice la n lc, .func (.func 39) #[.slice la n lc] #[], .slice (some ⟨gm, om, none⟩) k cm, .slice la n lc, .int .i64 (n : Int), .slice la n lc, .slice (some ⟨gm, om, none⟩) k cm, .slice va (n + k) vc, .slice (some ⟨gm, om, none⟩) k cm, .func (.func 54) #[] #[.pointer (some ⟨bk, 0, none⟩)], v.getD 0 undef, v.getD 1 undef, undef, undef, undef, undef, undef, undef, undef, undef, undef, undef, undef, undef, undef, undef, undef, undef, undef, undef, undef, undef, undef, undef, undef, undef], defers := [] })
    (fun v W => W.alloc (.cells (match v.getD 1 undef with | .agg cs => cs | _ => #[]) 25)) (fun v W => (Below.refl _ _).alloc (Nat.le_refl _) _) ?assign ?body ?done
  case stb =>
    rintro t A A' ⟨e, T, h1, h2, h3, h4, ⟨h5, h6⟩, h7, h8⟩ hG
    obtain ⟨l1, l2, l3, l4, _⟩ := HLT.out
    have ha : ∀ i o, A.heap[i]? = some o → i < w6.heap.size → A'.heap[i]? = some o := fun i o h hi => (hG.block i (lt_of_block' h) (by omega)).trans h
    have hnv : ∀ i, (Value.slice va (n + k) vc).ownBlock = some i → ¬ (i = w6.heap.size ∨ i = w6.heap.size + 1) := fun i hi => by
      have h1 := (HNV.out i hi).1
      have h2 := H6.out.1.size
      omega
    exact ⟨e, T, h1, h2, ha _ _ h3 l1, ha _ _ h4 l2, ⟨ha _ _ h5 l3, h6.kb (hG.block gm h6.blk.lt (by omega))⟩, h7.gs hG hnv, ⟨hG.os.trans h8.os, hG.tape.trans h8.tape, hG.output.trans h8.output, Nat.le_trans h8.size hG.size, fun i hi hp => (hG.block i (Nat.lt_of_lt_of_le hi h8.size) (by omega)).trans (h8.block i hi hp)⟩⟩
  case start =>
    intro W0 hb hz
    obtain ⟨k5', e5', hO6, hSG6, k6, hST⟩ := H7.out
    exact ⟨n, L ++ M', by rw [Nat.sub_zero]; exact hST, Nat.zero_le _, (hb.block _ (lt_of_block k5')).trans k5', (hb.block _ (lt_of_block e5')).trans e5', ⟨(hb.block _ (lt_of_block k6)).trans k6, hSG6.bel hb⟩, hO6.keep hb, Gs.of_below _ hb⟩
  case assign =>
    rintro l t v W K ⟨i, x, _, _, rfl⟩ hK
    simp only [it6] at hK ⊢
    gi_wp2
    exact hK
  case body =>
    rintro l t v W V hW ⟨e, T, hWI, htk, hbb, hbe, ⟨hbk, hSGm⟩, hOv, hGs⟩ ⟨i, x, hx, hti, rfl⟩ hV
    have hV : Gs (fun i => i = w6.heap.size + 1) (W.alloc (.cells (it6 x).toArray 25)) V := hV
    obtain ⟨xb, hxb⟩ : ∃ xb, xb = W.heap.size := ⟨_, rfl⟩
    have kx : SBI V xb x := by
      rw [hxb]; exact (hV.block W.heap.size (by simp) (by omega)).trans (heap_alloc_new W _)
    have hVs : W.heap.size + 1 ≤ V.heap.size := by have := hV.size; simpa using this
    have hr : k - t = i + 1 := by have := HNK.out.2; omega
    rw [hr] at hWI
    obtain ⟨hSL, hSM, hDj⟩ := HSS.out
    rcases ow_sg hOv with ⟨hT0, _⟩ | ⟨gv, cap, hv, hTc, hcp, _, hSGv⟩
    · have h1 := hWI.len
      have h2 := HNK.out
      rw [hT0] at h1
      simp at h1
      omega
    have hTl : T.length = n + k := by rw [hWI.len, ← HNK.out.1, ← HNK.out.2]
    injection hv with e1 e2 e3
    subst e1
    subst e3
    obtain ⟨gl1, gl2, gl3, gl4, gl5⟩ := HNV.out gv rfl
    obtain ⟨ll1, ll2, ll3, ll4, ll5, ll6, ll7, ll8, ll9⟩ := HLT.out
    have h56 := H6.out.1.size
    have hel := hWI.el
    rw [← HNK.out.1] at hel
    obtain ⟨a, ha⟩ : ∃ a, a = pl (L.take e) x := ⟨_, rfl⟩
    have hae : a ≤ e := by have := lo_le (fun z => !lI z x) (L.take e); rw [List.length_take] at this; rw [ha, pl]; omega
    have hstep := wi_step hSL hSM hDj hWI hx
    rw [← ha] at hstep
    have hLe : (L.take e).length = e := by rw [List.length_take, ← HNK.out.1]; omega
    have hSGe : SG V gv 0 (vc * 6) (L.take e) := by rw [← hWI.pre]; exact hSGv.take e
    have HP : Hid (∀ W', Below V.heap.size V W' → Calls Try.prog 41 #[.slice (some ⟨gv, 0, none⟩) e vc, (.agg #[.string x.id, .string x.pk, .int .i64 x.kind, .int .i64 x.off, .int .i64 x.long, .int .i64 x.size])] W' fun e' w' => e' = .returned (.int .i64 (a : Int)) ∧ Below W'.heap.size W' w') := fun W' hB => by
      have := place_any ((hSGe.bel hB).ls (c := vc)) (by omega) (List.Pairwise.sublist (List.take_sublist e L) hSL) x
      rw [hLe, ← ha] at this
      exact this
    obtain ⟨x0, x1, x2, x3, x4, x5⟩ := c6_of kx
    have HSV : Hid (∀ W', Below V.heap.size V W' → (fun wx : World => wx.cell? ⟨bb, 0, none⟩ = some (.slice (some ⟨gv, 0, none⟩) (n + k) vc) ∧ wx.cell? ⟨be, 0, none⟩ = some (.int .i64 (e : Int)) ∧ wx.cell? ⟨xb, 0, none⟩ = some (.string x.id) ∧ wx.cell? ⟨xb, 1, none⟩ = some (.string x.pk) ∧ wx.cell? ⟨xb, 2, none⟩ = some (.int .i64 x.kind) ∧ wx.cell? ⟨xb, 3, none⟩ = some (.int .i64 x.off) ∧ wx.cell? ⟨xb, 4, none⟩ = some (.int .i64 x.long) ∧ wx.cell? ⟨xb, 5, none⟩ = some (.int .i64 x.size)) W') := fun W' hB => by
      have kk : ∀ (a : Addr) (v : Value), V.cell? a = some v → W'.cell? a = some v := fun a v h => (hB.cell (World.block_lt_of_cell? V a h)).trans h
      exact ⟨kk _ _ (cell1 hbb).1, kk _ _ (cell1 hbe).1, kk _ _ x0, kk _ _ x1, kk _ _ x2, kk _ _ x3, kk _ _ x4, kk _ _ x5⟩
    have hi1 : i < M'.length := (List.getElem?_eq_some_iff.1 hx).1
    rw [← HNK.out.2] at hi1
    have hTc2 : n + k ≤ vc := by omega
    have HB := hide (And.intro hstep (And.intro hSGv (And.intro hbb (And.intro hbe (And.intro hbk (And.intro hSGm (And.intro hGs (And.intro hV (And.intro hVs (And.intro hTl (And.intro hWI.pre (And.intro hti (And.intro hTc (And.intro hcp hLe))))))))))))))
    have HG := hide (And.intro gl1 (And.intro gl2 (And.intro gl3 (And.intro gl4 (And.intro gl5 h56)))))
    have hsl := fun w => sl_h (g := gv) (o := 0) (n := n + k) (c := vc) (k := e) (by omega) w
    have HX2 := hide (And.intro hxb hW)
    clear hV kx hVs hr hSL hSM hDj hOv hSGv hTc hWI hbb hbe hbk hSGm hGs hx hti ha hstep hLe hSGe x0 x1 x2 x3 x4 x5 hcp e2 hTl gl1 gl2 gl3 gl4 gl5 ll1 ll2 ll3 ll4 ll5 ll6 ll7 ll8 ll9 h56 htk
    rw [← hxb]
    clear hxb
    gi_wp2
    refine AnyZ.round (z := 99) (S := fun wx => wx.cell? ⟨bb, 0, none⟩ = some (.slice (some ⟨gv, 0, none⟩) (n + k) vc) ∧ wx.cell? ⟨be, 0, none⟩ = some (.int .i64 (e : Int)) ∧ wx.cell? ⟨xb, 0, none⟩ = some (.string x.id) ∧ wx.cell? ⟨xb, 1, none⟩ = some (.string x.pk) ∧ wx.cell? ⟨xb, 2, none⟩ = some (.int .i64 x.kind) ∧ wx.cell? ⟨xb, 3, none⟩ = some (.int .i64 x.off) ∧ wx.cell? ⟨xb, 4, none⟩ = some (.int .i64 x.long) ∧ wx.cell? ⟨xb, 5, none⟩ = some (.int .i64 x.size)) (by rintro ⟨_, _, h⟩; exact h) (by kernel_rfl) (by kernel_rfl) ?_
    have HV0 := hide (Below.refl V.heap.size V).drew
    have hHeld := HSV.out V.drew HV0.out
    refine AnyZ.take (i := 0) (d := 22) (v := .slice (some ⟨gv, 0, none⟩) (n + k) vc) rfl rfl (by kernel_rfl) (by kernel_rfl) (by kernel_rfl) (by kernel_rfl) (fun _ _ _ h => h) (Or.inl ⟨by rfl, fun w' hSw => ?_⟩) hHeld ?_
    · obtain ⟨_, _, _, _, _, _, _, _⟩ := hSw
      go_simp
    try simp only [List.setIfInBounds_toArray, List.set_cons_zero, List.set_cons_succ]
    refine AnyZ.take (i := 1) (d := 23) (v := .int .i64 (e : Int)) rfl rfl (by kernel_rfl) (by kernel_rfl) (by kernel_rfl) (by kernel_rfl) (fun _ _ _ h => h) (Or.inl ⟨by rfl, fun w' hSw => ?_⟩) hHeld ?_
    · obtain ⟨_, _, _, _, _, _, _, _⟩ := hSw
      go_simp
    try simp only [List.setIfInBounds_toArray, List.set_cons_zero, List.set_cons_succ]
    refine AnyZ.take (i := 2) (d := 24) (v := .slice (some ⟨gv, 0, none⟩) e vc) rfl rfl (by kernel_rfl) (by kernel_rfl) (by kernel_rfl) (by kernel_rfl) (fun _ _ _ h => h) (Or.inl ⟨by rfl, fun w' hSw => ?_⟩) hHeld ?_
    · obtain ⟨_, _, _, _, _, _, _, _⟩ := hSw
      go_simp
    try simp only [List.setIfInBounds_toArray, List.set_cons_zero, List.set_cons_succ]
    refine AnyZ.take (i := 3) (d := 25) (v := (.agg #[.string x.id, .string x.pk, .int .i64 x.kind, .int .i64 x.off, .int .i64 x.long, .int .i64 x.size])) rfl rfl (by kernel_rfl) (by kernel_rfl) (by kernel_rfl) (by kernel_rfl) (fun _ _ _ h => h) (Or.inl ⟨by rfl, fun w' hSw => ?_⟩) hHeld ?_
    · obtain ⟨_, _, _, _, _, _, _, _⟩ := hSw
      go_simp
    try simp only [List.setIfInBounds_toArray, List.set_cons_zero, List.set_cons_succ]
    refine AnyZ.one (i := 4) (by kernel_rfl) rfl fun K hK => ?_
    go_simp
    refine (HP.out V.drew HV0.out).mono ?_
    rintro e' V1 ⟨rfl, hB1⟩
    have HB1 := hide (below_step HV0.out hB1)
    refine hK.out _ _ (fun _ => HSV.out V1 HB1.out) (fun hHeld2 => ?_)
    clear hK K hB1 hHeld
    try simp only [Act.put, List.setIfInBounds_toArray, List.set_cons_zero, List.set_cons_succ]
    refine AnyZ.one (i := 5) (by kernel_rfl) rfl fun K hK => ?_
    go_simp
    refine hK.out _ _ (fun _ => HSV.out V1 HB1.out) (fun hHeld3 => ?_)
    clear hK K hHeld2
    try simp only [Act.put, List.setIfInBounds_toArray, List.set_cons_zero, List.set_cons_succ]
    refine AnyZ.done (by kernel_rfl) ?_ _
    clear hHeld3
    gi_wp2
    obtain ⟨p0, hp0⟩ : ∃ p0, p0 = a + i := ⟨_, rfl⟩
    obtain ⟨p, hp⟩ : ∃ p, p = p0 + 1 := ⟨_, rfl⟩
    have e30 : (a : Int) + (i : Int) = (p0 : Int) := by omega
    have e31 : (p0 : Int) + 1 = (p : Int) := by omega
    have e32 : IntKind.i64.wrap (p0 : Int) = (p0 : Int) := by rw [IntKind.wrap_i64]; omega
    have e33 : IntKind.i64.wrap (p : Int) = (p : Int) := by rw [IntKind.wrap_i64]; omega
    obtain ⟨hstep, hSGv, hbb, hbe, hbk, hSGm, hGs, hV, hVs, hTl, hpre, hti, hTc, hcp, hLe⟩ := HB.out
    obtain ⟨ya, hsa, hya⟩ := sl_l (g := gv) (o := 0) (n := n + k) (c := vc) (k := p) (by omega)
    obtain ⟨yb, hsb, hyb⟩ := sl_lh (g := gv) (o := 0) (n := n + k) (c := vc) (k := a) (h := e) hae (by omega)
    obtain ⟨W1, hW1⟩ : ∃ W1, W1 = V1.drew := ⟨_, rfl⟩
    have hBW1 : Below V.heap.size V W1 := by rw [hW1]; exact HB1.out.drew
    have hSG1 := hSGv.bel hBW1
    have hcpy := copy_part hSG1 (s := a) (n := e - a) (p := p) (y := ya) (z := yb) (dl := n + k - p) (dc := vc - p) (sc := vc - a) (by omega) (by omega) (by omega) (by by_cases h0 : e - a = 0; exact .inl h0; exact .inr (by rw [hya (by omega)])) (by by_cases h0 : e - a = 0; exact .inl h0; exact .inr (by rw [hyb (by omega)])) 3
    obtain ⟨X, hX⟩ : ∃ X, X = (T.drop a).take (e - a) := ⟨_, rfl⟩
    have hXe : X = (L.take e).drop a := by rw [hX, ← hpre, List.drop_take]
    have hXl : X.length = e - a := by rw [hX, List.length_take, List.length_drop]; omega
    rw [← hX] at hcpy
    obtain ⟨W2, hW2⟩ : ∃ W2, W2 = W1.setCells gv (0 + p * 6) (flI X) := ⟨_, rfl⟩
    rw [← hW2] at hcpy
    have hG2 : Gs (fun i => i = gv) W1 W2 := by rw [hW2]; exact gs_setCells gv _ _ _
    have hSG2 : SG W2 gv 0 (vc * 6) (T.take p ++ (X ++ T.drop (p + X.length))) := by rw [hW2]; exact hSG1.blit (by omega)
    have hT2l : (T.take p ++ (X ++ T.drop (p + X.length))).length = n + k := by rw [List.length_append, List.length_append, List.length_take, List.length_drop]; omega
    have hst := hSG2.store (i := p0) (by omega) x
    obtain ⟨W3, hW3⟩ : ∃ W3, W3 = W2.setCells gv (0 + p0 * 6) (it6 x) := ⟨_, rfl⟩
    rw [← hW3] at hst
    have hG3 : Gs (fun i => i = gv) W2 W3 := by rw [hW3]; exact gs_setCells gv _ _ _
    have hSG3 : SG W3 gv 0 (vc * 6) (letIn L T e i a x) := by
      rw [hW3]
      have := hSG2.set (i := p0) (by omega) x
      rw [letIn, ← hXe, show a + i + 1 = p by omega, show e + i + 1 = p + X.length by omega, ← hp0]
      exact this
    have hL3 : (letIn L T e i a x).length = n + k := by rw [hstep.len, ← HNK.out.1, ← HNK.out.2]
    obtain ⟨W4, hW4⟩ : ∃ W4, W3.setCell ⟨be, 0, none⟩ (.int .i64 (a : Int)) = W4 := ⟨_, rfl⟩
    have hG4 : Gs (fun i => i = be) W3 W4 := by rw [← hW4]; exact ⟨rfl, rfl, rfl, by simp [World.setCell], fun i _ hp => heap_setCell_other _ _ _ _ (fun e => hp e)⟩
    obtain ⟨gl1, gl2, gl3, gl4, gl5, h56⟩ := HG.out
    obtain ⟨ll1, ll2, ll3, ll4, ll5, ll6, ll7, ll8, ll9⟩ := HLT.out
    obtain ⟨hxb2, hWs⟩ := HX2.out
    have hG13 : Gs (fun i => i = gv) V W3 := ((Gs.of_below _ hBW1).trans hG2).trans hG3
    have ha3 : ∀ i o, V.heap[i]? = some o → i ≠ gv → W3.heap[i]? = some o := fun i o h hi => (hG13.block i (lt_of_block' h) hi).trans h
    have hG14 : Gs (fun i => i = gv ∨ i = be) V W4 := (hG13.mono fun i _ e => .inl e).trans (hG4.mono fun i _ e => .inr e)
    have ha4 : ∀ i o, V.heap[i]? = some o → i ≠ gv → i ≠ be → W4.heap[i]? = some o := fun i o h hi hj => (hG14.block i (lt_of_block' h) (by omega)).trans h
    have hb3 := ha3 _ _ hbe (by omega)
    have HS2 : Hid ((fun wx : World => wx.cell? ⟨bb, 0, none⟩ = some (.slice (some ⟨gv, 0, none⟩) (n + k) vc) ∧ wx.cell? ⟨be, 0, none⟩ = some (.int .i64 (e : Int)) ∧ wx.cell? ⟨xb, 0, none⟩ = some (.string x.id) ∧ wx.cell? ⟨xb, 1, none⟩ = some (.string x.pk) ∧ wx.cell? ⟨xb, 2, none⟩ = some (.int .i64 x.kind) ∧ wx.cell? ⟨xb, 3, none⟩ = some (.int .i64 x.off) ∧ wx.cell? ⟨xb, 4, none⟩ = some (.int .i64 x.long) ∧ wx.cell? ⟨xb, 5, none⟩ = some (.int .i64 x.size)) W2) := by
      obtain ⟨s1, s2, s3, s4, s5, s6, s7, s8⟩ := HSV.out W1 hBW1
      have kk : ∀ (a : Addr) (v : Value), a.block ≠ gv → W1.cell? a = some v → W2.cell? a = some v := fun a v ha h => by
        have hlt := World.block_lt_of_cell? W1 a h
        rw [← h, World.cell?, World.cell?, hG2.block a.block hlt ha]
      have hxg : xb ≠ gv := by omega
      exact hide ⟨kk _ _ (by show bb ≠ gv; omega) s1, kk _ _ (by show be ≠ gv; omega) s2, kk _ _ hxg s3, kk _ _ hxg s4, kk _ _ hxg s5, kk _ _ hxg s6, kk _ _ hxg s7, kk _ _ hxg s8⟩
    have HE : Hid ((∃ (e : Nat) (T : List IT), WI L M' e (k - (t + 1)) T ∧ t + 1 ≤ k ∧ W4.heap[bb]? = some (.cells #[.slice (some ⟨gv, 0, none⟩) (n + k) vc] 46 (0, 0)) ∧ W4.heap[be]? = some (.cells #[.int .i64 (e : Int)] 3 (0, 0)) ∧ (W4.heap[bk]? = some (.cells #[.slice (some ⟨gm, om, none⟩) k cm] 46 (0, 0)) ∧ SG W4 gm om N M') ∧ OW it6 6 25 0 (.slice (some ⟨gv, 0, none⟩) (n + k) vc) T W4 ∧ Gs (fun i => (Value.slice (some ⟨gv, 0, none⟩) (n + k) vc).ownBlock = some i ∨ i = be) w6 W4) ∧ W4.heap[w6.heap.size]? = V.heap[w6.heap.size]? ∧ W4.heap[w6.heap.size + 1]? = V.heap[w6.heap.size + 1]?) := by
      have hs4 : SG W4 gv 0 (vc * 6) (letIn L T e i a x) := hSG3.kb (hG4.block gv hSG3.blk.lt (by omega))
      have ho4 := sg_ow (B := 0) (cap := vc) (Nat.zero_le _) (by omega) hcp hs4
      rw [hL3] at ho4
      refine hide ⟨⟨a, letIn L T e i a x, by rw [show k - (t + 1) = i by have := HNK.out.2; omega]; exact hstep, by have := HNK.out.2; omega, ha4 _ _ hbb (by omega) (by omega), by rw [← hW4]; exact heap_set_self hb3, ⟨ha4 _ _ hbk (by omega) (by omega), hSGm.kb (hG14.block gm hSGm.blk.lt (by omega))⟩, ho4, hGs.trans (hG14.mono fun i _ e => ?_)⟩, hG14.block _ (by omega) (by omega), hG14.block _ (by omega) (by omega)⟩
      rcases e with rfl | e
      · exact .inl rfl
      · exact .inr e
    have hHeld := HSV.out W1 hBW1
    have z1 := (cell1 hb3).1
    have z2 := (cell1 hb3).2
    have b0 : (0 : Int) ≤ (p0 : Int) := by omega
    have b1 : (p0 : Int) < ((n + k : Nat) : Int) := by omega
    have HP0 := hide (And.intro hp0 hp)
    have HW1 := hide hW1
    have hW1' := hW1.symm
    clear hstep hSGv hbb hbe hbk hSGm hGs hV hVs hTl hpre hti hTc hcp hLe hya hyb hW1 hBW1 hSG1 hX hXe hXl hW2 hG2 hSG2 hT2l hW3 hG3 hSG3 hL3 hG4 gl1 gl2 gl3 gl4 gl5 h56 ll1 ll2 ll3 ll4 ll5 ll6 ll7 ll8 ll9 hxb2 hWs hG13 ha3 hG14 ha4 hb3 hp0 hp hsl
    refine AnyZ.round (z := 99) (S := fun wx => wx.cell? ⟨bb, 0, none⟩ = some (.slice (some ⟨gv, 0, none⟩) (n + k) vc) ∧ wx.cell? ⟨be, 0, none⟩ = some (.int .i64 (e : Int)) ∧ wx.cell? ⟨xb, 0, none⟩ = some (.string x.id) ∧ wx.cell? ⟨xb, 1, none⟩ = some (.string x.pk) ∧ wx.cell? ⟨xb, 2, none⟩ = some (.int .i64 x.kind) ∧ wx.cell? ⟨xb, 3, none⟩ = some (.int .i64 x.off) ∧ wx.cell? ⟨xb, 4, none⟩ = some (.int .i64 x.long) ∧ wx.cell? ⟨xb, 5, none⟩ = some (.int .i64 x.size)) (by rintro ⟨_, _, h⟩; exact h) (by kernel_rfl) (by kernel_rfl) ?_
    rw [hW1']
    refine AnyZ.take (i := 0) (d := 27) (v := .slice (some ⟨gv, 0, none⟩) (n + k) vc) rfl rfl (by kernel_rfl) (by kernel_rfl) (by kernel_rfl) (by kernel_rfl) (fun _ _ _ h => h) (Or.inl ⟨by rfl, fun w' hSw => ?_⟩) hHeld ?_
    · obtain ⟨_, _, _, _, _, _, _, _⟩ := hSw
      go_simp
    try simp only [List.setIfInBounds_toArray, List.set_cons_zero, List.set_cons_succ]
    refine AnyZ.take (i := 1) (d := 28) (v := .int .i64 (a : Int)) rfl rfl (by kernel_rfl) (by kernel_rfl) (by kernel_rfl) (by kernel_rfl) (fun _ _ _ h => h) (Or.inl ⟨by rfl, fun w' hSw => ?_⟩) hHeld ?_
    · obtain ⟨_, _, _, _, _, _, _, _⟩ := hSw
      go_simp
    try simp only [List.setIfInBounds_toArray, List.set_cons_zero, List.set_cons_succ]
    refine AnyZ.take (i := 2) (d := 29) (v := .int .i64 (i : Int)) rfl rfl (by kernel_rfl) (by kernel_rfl) (by kernel_rfl) (by kernel_rfl) (fun _ _ _ h => h) (Or.inl ⟨by rfl, fun w' hSw => ?_⟩) hHeld ?_
    · obtain ⟨_, _, _, _, _, _, _, _⟩ := hSw
      go_simp
    try simp only [List.setIfInBounds_toArray, List.set_cons_zero, List.set_cons_succ]
    refine AnyZ.take (i := 3) (d := 30) (v := .int .i64 (p0 : Int)) rfl rfl (by kernel_rfl) (by kernel_rfl) (by kernel_rfl) (by kernel_rfl) (fun _ _ _ h => h) (Or.inl ⟨by rfl, fun w' hSw => ?_⟩) hHeld ?_
    · obtain ⟨_, _, _, _, _, _, _, _⟩ := hSw
      go_simp
    try simp only [List.setIfInBounds_toArray, List.set_cons_zero, List.set_cons_succ]
    refine AnyZ.take (i := 4) (d := 31) (v := .int .i64 (p : Int)) rfl rfl (by kernel_rfl) (by kernel_rfl) (by kernel_rfl) (by kernel_rfl) (fun _ _ _ h => h) (Or.inl ⟨by rfl, fun w' hSw => ?_⟩) hHeld ?_
    · obtain ⟨_, _, _, _, _, _, _, _⟩ := hSw
      go_simp
    try simp only [List.setIfInBounds_toArray, List.set_cons_zero, List.set_cons_succ]
    refine AnyZ.take (i := 5) (d := 32) (v := .slice (some ⟨gv, ya, none⟩) (n + k - p) (vc - p)) rfl rfl (by kernel_rfl) (by kernel_rfl) (by kernel_rfl) (by kernel_rfl) (fun _ _ _ h => h) (Or.inl ⟨by rfl, fun w' hSw => ?_⟩) hHeld ?_
    · obtain ⟨_, _, _, _, _, _, _, _⟩ := hSw
      go_simp
    try simp only [List.setIfInBounds_toArray, List.set_cons_zero, List.set_cons_succ]
    refine AnyZ.take (i := 6) (d := 33) (v := .slice (some ⟨gv, 0, none⟩) (n + k) vc) rfl rfl (by kernel_rfl) (by kernel_rfl) (by kernel_rfl) (by kernel_rfl) (fun _ _ _ h => h) (Or.inl ⟨by rfl, fun w' hSw => ?_⟩) hHeld ?_
    · obtain ⟨_, _, _, _, _, _, _, _⟩ := hSw
      go_simp
    try simp only [List.setIfInBounds_toArray, List.set_cons_zero, List.set_cons_succ]
    refine AnyZ.take (i := 7) (d := 34) (v := .int .i64 (a : Int)) rfl rfl (by kernel_rfl) (by kernel_rfl) (by kernel_rfl) (by kernel_rfl) (fun _ _ _ h => h) (Or.inl ⟨by rfl, fun w' hSw => ?_⟩) hHeld ?_
    · obtain ⟨_, _, _, _, _, _, _, _⟩ := hSw
      go_simp
    try simp only [List.setIfInBounds_toArray, List.set_cons_zero, List.set_cons_succ]
    refine AnyZ.take (i := 8) (d := 35) (v := .int .i64 (e : Int)) rfl rfl (by kernel_rfl) (by kernel_rfl) (by kernel_rfl) (by kernel_rfl) (fun _ _ _ h => h) (Or.inl ⟨by rfl, fun w' hSw => ?_⟩) hHeld ?_
    · obtain ⟨_, _, _, _, _, _, _, _⟩ := hSw
      go_simp
    try simp only [List.setIfInBounds_toArray, List.set_cons_zero, List.set_cons_succ]
    refine AnyZ.take (i := 9) (d := 36) (v := .slice (some ⟨gv, yb, none⟩) (e - a) (vc - a)) rfl rfl (by kernel_rfl) (by kernel_rfl) (by kernel_rfl) (by kernel_rfl) (fun _ _ _ h => h) (Or.inl ⟨by rfl, fun w' hSw => ?_⟩) hHeld ?_
    · obtain ⟨_, _, _, _, _, _, _, _⟩ := hSw
      go_simp
    try simp only [List.setIfInBounds_toArray, List.set_cons_zero, List.set_cons_succ]
    refine AnyZ.one (i := 10) (by kernel_rfl) rfl fun K hK => ?_
    refine step_copy_run rfl (some 37) rfl _ _ 46 46 rfl _ _ rfl rfl _ _ hcpy ?_
    refine hK.out _ _ (fun _ => HS2.out) (fun hHeld4 => ?_)
    clear hK K hHeld
    try simp only [Act.put, List.setIfInBounds_toArray, List.set_cons_zero, List.set_cons_succ]
    refine AnyZ.done (by kernel_rfl) ?_ _
    obtain ⟨s1, s2, s3, s4, s5, s6, s7, s8⟩ := HS2.out
    clear hHeld4
    simp only [Nat.zero_add, it6] at hst
    clear hcpy hsa hsb
    gi_wp2_with (refine in_store_run rfl 25 _ _ rfl _ _ rfl rfl hst ?_)
    exact HE.out
  case done =>
    rintro D t W hD hS ⟨e, T, hWI, htk, hbb, hbe, ⟨hbk, hSGm⟩, hOv, hGs⟩ hd
    have hr : k - t = 0 := by have := HNK.out.2; omega
    rw [hr] at hWI
    obtain ⟨hSS, hmem⟩ := wi_end HSS.out.1 hWI
    obtain ⟨U, hU⟩ : ∃ U, U = W.putObj D (.deferred none) := ⟨_, rfl⟩
    have hg9 : Gs (fun i => i = D) W U := by rw [hU]; exact gs_putObj
    obtain ⟨gw1, gw2, gw3, gw4, gw5⟩ := HGW.out
    obtain ⟨l1, l2, l3, l4, l5, l6, l7, l8, l9⟩ := HLT.out
    have hbw := HBW.out.1
    have hs5 := gw1.size
    have h56 := H6.out.1.size
    have hbe2 := HW3.out.2
    have hbw2 := HBW.out
    rw [← HNK.out.1, ← HNK.out.2] at gw4
    have gA := (gw1.bel H6.out.1).step hGs (fun i hi => by
      rcases hi with hi | hi
      · rcases gw4 with h | ⟨b, h, hb⟩
        · rw [h] at hi; rw [HNK.out.1] at hi; exact .inl (.inl hi)
        · rw [h] at hi; cases hi; exact .inr hb
      · right; omega)
    have gB := gA.step hg9 (fun i hi => .inr (by omega))
    have hgmD : gm ≠ D := by omega
    have kgm : U.heap[gm]? = w2.heap[gm]? := by
      rw [hg9.block gm hSGm.blk.lt hgmD, hGs.block gm l4 (fun h => by
        rcases h with h | h
        · exact (HNV.out gm h).2.2.2.1 rfl
        · omega), H6.out.1.block gm (by have := HNV.out; have := gw1.size; have h2 := HBW.out.2.1; omega), gw2]
    have HE : Hid (WX w (.slice la n lc) gm om N L M (.slice va (n + k) vc) U) := by
      refine hide ⟨T, hOv.gs hg9 (fun i hi e => by have := (HNV.out i hi).1; omega), hSS, fun x => (hmem x).trans (gw5 x), by rw [HNK.out.1]; exact gB, by rw [HNK.out.1] at gw4 ⊢; exact gw4, hSGm.blk.kb (hg9.block gm hSGm.blk.lt hgmD), fun j hj => ?_⟩
      rw [← gw3 j hj, World.cell?, World.cell?, kgm]
    obtain ⟨z0, z1⟩ := cell1 hbb
    clear hWI hbb hbe hbk hSGm hOv hGs hSS hmem hg9 gw1 gw2 gw3 gw4 gw5 gA gB kgm hr hS htk hbw hs5 h56 hbe2 hbw2 hgmD l1 l2 l3 l4 l5 l6 l7 l8 l9 hD
    gi_wp2
    refine ⟨by simp, .inl ⟨_, _, rfl, run_takeDeferred hd, ?_⟩⟩
    rw [← hU]
    refine ⟨.slice va (n + k) vc, by simp [results, Try.results25, go_sem], ?_⟩
    exact ⟨_, rfl, by rw [← HNK.out.1]; exact HE.out⟩
end
end Go.Proofs.Ytkcefdiiibbflaa
