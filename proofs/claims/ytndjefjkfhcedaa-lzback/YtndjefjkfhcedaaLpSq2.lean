/-
  Lz: Sequences, by the program.
-/
import Derived.Test.YtndjefjkfhcedaaLpSqs
namespace Go.Proofs.Ytndjefjkfhcedaa
open Go.RowKit Go.Lib Go.Shelf
attribute [local go_sem] Oper.semAt_some
theorem Try.infoSl : (Try.prog.info? 35).map (fun i => (i.zero, i.size, i.bytes)) = some (some (.agg #[.string ⟨#[]⟩, .int .i64 0, .int .i64 0]), 3, 32) := by kernel_rfl
theorem app_sl {B : Nat} {v : Value} {l : List SQ} {w1 : World} (h : OW sqc 3 35 B v l w1) (q : SQ) (hl : l.length ≤ 4000) (hB : B ≤ w1.heap.size) :
    ∃ v' w2, (Builtin.append_ #[29, 29] 29 #[v, .slice (some ⟨w1.heap.size, 0, none⟩) 1 1]).run Try.prog (w1.alloc (.cells #[.string q.lit, .int .i64 (q.dist : Int), .int .i64 (q.long : Int)] 35)) = .ok v' w2 ∧ OW sqc 3 35 B v' (l ++ [q]) w2 ∧ Gs (fun i => v.ownBlock = some i) w1 w2 ∧ (v'.ownBlock = v.ownBlock ∨ v'.ownBlock = some (w1.heap.size + 1)) := by
  have hb1 : Below w1.heap.size w1 (w1.alloc (.cells #[.string q.lit, .int .i64 (q.dist : Int), .int .i64 (q.long : Int)] 35)) := (Below.refl _ _).alloc (Nat.le_refl _) _
  have hS : LS sqc 3 (fun _ => True) (w1.alloc (.cells #[.string q.lit, .int .i64 (q.dist : Int), .int .i64 (q.long : Int)] 35)) (.slice (some ⟨w1.heap.size, 0, none⟩) 1 1) [q] := LS.one q 35 w1 sqc 3 (fun _ => True) trivial
  obtain ⟨v', w2, h1, h2, h3, h4⟩ := (h.keep hb1).app sqc_len (by decide) (fun x hx u hu => by
    simp [sqc] at hu
    rcases hu with rfl | rfl | rfl <;> rfl) Try.underlying29 Try.infoSl rfl hS (by simp; omega) (by simp; omega) (Nat.le_trans hB hb1.size)
  refine ⟨v', w2, h1, h2, ?_, by rw [World.size_alloc] at h4; exact h4⟩
  have h5 : Gs (fun i => v.ownBlock = some i) w1 (w1.alloc (.cells #[.string q.lit, .int .i64 (q.dist : Int), .int .i64 (q.long : Int)] 35)) := Gs.of_below _ hb1
  cases hv : v.ownBlock with
  | none =>
    rw [hv] at h3
    refine ⟨h3.os.trans h5.os, h3.tape.trans h5.tape, h3.output.trans h5.output, Nat.le_trans h5.size h3.size, fun i hi hp => (h3.block i (Nat.lt_of_lt_of_le hi hb1.size) (by simp)).trans (hb1.block i hi)⟩
  | some b =>
    rw [hv] at h5 h3
    exact h5.gb h3 (.inl rfl)
theorem in_append_run {F : Fence} {n : Nat} {P : Program} {w : World} {ops : Array Oper} {rest : List Oper} {o : Oper} {a : Act} {Q : Exit → Act → World → Prop} (hgd : o.guard = none) (s x : Operand) (t tn : TypeId)
    (ho : o.op = .call { callee := .builtin .append, args := #[s, x], argTypes := #[t, tn] }) (vs vx : Value) (hs : a.eval s = vs) (hx : a.eval x = vx)
    (v' : Value) (w' : World) (hr : (Builtin.append_ #[t, tn] o.type #[vs, vx]).run P w = .ok v' w') (h : wpListIn F n P ops Q rest (a.put o.dst v') w') : wpListIn F n P ops Q (o :: rest) a w := by
  refine wpListIn_plain hgd fun K hK => ?_
  unfold Oper.wpIn
  refine ⟨by simp [Oper.about, ho, resolve, Target.leads, Sem.run_pure], ?_⟩
  rw [Oper.semAt_plain F _ _ (by rw [ho]; intro c hc'; cases hc')]
  simp [execOp, ho, resolve, invoke, builtin, hs, hx, hr, Result.andThen]
  exact hK _ _ h
theorem OW.gs2 {α : Type} {f : α → List Value} {k : Nat} {T : TypeId} {B : Nat} {v : Value} {l : List α} {w w' : World} {p : Nat → Prop} (h : OW f k T B v l w) (hg : Gs p w w') (hp : ∀ i, v.ownBlock = some i → ¬ p i) : OW f k T B v l w' :=
  h.kb fun i hi => hg.block i (h.lt i hi).2 (hp i hi)
theorem lnV_no {s : ByteArray} (h : ps s = none) : lnV s = .tuple #[.int .i64 0, .bool false] := by
  rw [ps_wk] at h
  cases hk : (wk s 0 0).2 with
  | true => rw [hk, if_pos rfl] at h; cases h
  | false => rw [lnV, hk]; rfl
theorem lnV_some {s : ByteArray} {l : List SQ} {t : Nat} (h : ps s = some (l, t)) : lnV s = .tuple #[.int .i64 (t : Int), .bool true] ∧ wk s 0 0 = (l, true) := by
  rw [ps_wk] at h
  cases hk : (wk s 0 0).2 with
  | false => rw [hk, if_neg (by decide)] at h; cases h
  | true =>
    rw [hk, if_pos rfl] at h
    simp only [Option.some.injEq, Prod.mk.injEq] at h
    obtain ⟨h1, h2⟩ := h
    refine ⟨by rw [lnV, hk, if_pos rfl, h2], ?_⟩
    rw [← h1, ← hk]
section
variable {w : World} {s : ByteArray}
set_option maxRecDepth 100000 in
set_option maxHeartbeats 1600000 in
theorem seqs_bad (hs : s.size ≤ 4000) (hp : ps s = none) : Calls Try.prog 12 #[.string s] w fun e w' => ∃ v, e = .returned (.tuple #[v, .int .i64 (sqC s)]) ∧ OW sqc 3 35 w.heap.size v (sqL s) w' ∧ Below w.heap.size w w' := by
  have e1 : sqL s = [] := by rw [sqL, hp]
  have e2 : sqC s = 120 := by rw [sqC, hp]
  rw [e1, e2]
  have HL := hide (length_any (w := w) hs)
  rw [lnV_no hp] at HL
  clear hp e1 e2
  go_enter Try.func12, Try.ntmps12
  go_wp2_with fail
  refine HL.out.mono ?_
  rintro _ w2 ⟨rfl, hb⟩
  have HB := hide hb
  clear hb
  go_wp2
  exact bodyPost_ret (v := .tuple #[.slice none 0 0, .int .i64 120]) (by simp [results, Try.results12, go_sem]) rfl ⟨_, rfl, OW.nil _ _ _ _ _, HB.out⟩
set_option maxRecDepth 100000 in
set_option maxHeartbeats 1600000 in
theorem seqs_long (hs : s.size ≤ 4000) {l : List SQ} {t : Nat} (hp : ps s = some (l, t)) (ht : ¬ t ≤ 1048576) : Calls Try.prog 12 #[.string s] w fun e w' => ∃ v, e = .returned (.tuple #[v, .int .i64 (sqC s)]) ∧ OW sqc 3 35 w.heap.size v (sqL s) w' ∧ Below w.heap.size w w' := by
  have e1 : sqL s = [] := by rw [sqL, hp]; exact if_neg ht
  have e2 : sqC s = 2 := by rw [sqC, hp]; exact if_neg ht
  rw [e1, e2]
  have HL := hide (length_any (w := w) hs)
  rw [(lnV_some hp).1] at HL
  have d1 : (1048576 : Int) < (t : Int) := by omega
  clear hp e1 e2
  go_enter Try.func12, Try.ntmps12
  go_wp2_with fail
  refine HL.out.mono ?_
  rintro _ w2 ⟨rfl, hb⟩
  have HB := hide hb
  clear hb
  go_wp2
  exact bodyPost_ret (v := .tuple #[.slice none 0 0, .int .i64 2]) (by simp [results, Try.results12, go_sem]) rfl ⟨_, rfl, OW.nil _ _ _ _ _, HB.out⟩
set_option maxRecDepth 100000 in
set_option maxHeartbeats 3200000 in
theorem seqs_ok (hs : s.size ≤ 4000) {l : List SQ} {n : Nat} (hp : ps s = some (l, n)) (ht : n ≤ 1048576) : Calls Try.prog 12 #[.string s] w fun e w' => ∃ v, e = .returned (.tuple #[v, .int .i64 (sqC s)]) ∧ OW sqc 3 35 w.heap.size v (sqL s) w' ∧ Below w.heap.size w w' := by
  have e1 : sqL s = l := by rw [sqL, hp]; exact if_pos ht
  have e2 : sqC s = 0 := by rw [sqC, hp]; exact if_pos ht
  rw [e1, e2]
  have HL := hide (length_any (w := w) hs)
  obtain ⟨el, ewk⟩ := lnV_some hp
  rw [el] at HL
  have d1 : ¬ (1048576 : Int) < (n : Int) := by omega
  have hll : l.length ≤ 4000 := by
    have h := wk_len (s := s) s.size 0 0 (by omega)
    rw [ewk] at h
    simp only at h
    omega
  have HK := hide ewk
  clear hp e1 e2 el ewk
  refine (callsIn_wide (n := 0)).1 ?_
  refine callsIn_of_wp_marks Try.func12 rfl trivial ?_ rfl
  simp only [Try.ntmps12, List.size_toArray, List.length_cons, List.length_nil, Nat.reduceAdd, Nat.reduceSub, Array.replicate_succ, Array.replicate_zero, List.push_toArray, List.append_toArray, List.nil_append, List.cons_append]
  gi_wp2
  refine ⟨trivial, rfl, (callsIn_wide.2 HL.out).mono ?_⟩
  rintro e w1 ⟨rfl, hb1⟩
  obtain ⟨p, hp⟩ : ∃ p, w1.heap.size = p := ⟨_, rfl⟩
  obtain ⟨w2, hw2⟩ : ∃ w2, w1.alloc (.cells #[.slice none 0 0] 29) = w2 := ⟨_, rfl⟩
  have hB2 : Below w1.heap.size w1 w2 := by rw [← hw2]; exact (Below.refl _ _).alloc (Nat.le_refl _) _
  have k2 : w2.heap[p]? = some (.cells #[.slice none 0 0] 29 (0, 0)) := by rw [← hw2, ← hp]; exact heap_alloc_new w1 _
  have HC := hide (clone_any w2 s hs)
  have H2 := hide (And.intro (below_step hb1 hB2) (And.intro k2 (And.intro hb1.size hp)))
  clear hb1 hB2 k2
  gi_wp2
  refine ⟨trivial, rfl, (callsIn_wide.2 HC.out).mono ?_⟩
  rintro e w3 ⟨rfl, hb3⟩
  have H3 := hide (And.intro (below_step H2.out.1 hb3) (And.intro ((hb3.block p (lt_of_block H2.out.2.1)).trans H2.out.2.1) (And.intro H2.out.2.2 hb3.size)))
  clear hb3 HC HL
  gi_wp2
  refine ⟨trivial, rfl, (callsIn_wide.2 sequencesf_any).mono ?_⟩
  rintro e w4 ⟨rfl, hw4⟩
  obtain ⟨bs, hbs⟩ : ∃ bs, bs = w3.heap.size := ⟨_, rfl⟩
  rw [← hbs]
  have hB4 : Below w3.heap.size w3 w4 := by rw [hw4]; exact (Below.refl _ _).alloc (Nat.le_refl _) _
  have kx : w4.heap[bs]? = some (.cells #[.string s] 9 (0, 0)) := by rw [hw4, hbs]; exact heap_alloc_new w3 _
  have HQ := hide (seqs1 kx hs)
  have hpw : w.heap.size ≤ p := by have := H2.out.2.2.1; have := H2.out.2.2.2; omega
  have H4 := hide (And.intro (below_step H3.out.1 hB4) ((hB4.block p (lt_of_block H3.out.2.1)).trans H3.out.2.1))
  obtain ⟨D, hD⟩ : ∃ D, w4.heap.size = D := ⟨_, rfl⟩
  have hpD : p < D := by have := lt_of_block H4.out.2; omega
  have HD := hide hD
  clear hw4 hbs hB4 kx H3 hw2 hD hp
  gi_wp2
  refine range_n (gf := 27) (lb := #[.pointer (some ⟨bs, 0, none⟩)]) rfl (enters_of Try.func27 (by kernel_rfl) rfl) HQ.out (fun t vs h => h.size)
    (fun t N W => (∃ v, W.heap[p]? = some (.cells #[v] 29 (0, 0)) ∧ OW sqc 3 35 w.heap.size v (l.take t) W ∧ (∀ i, v.ownBlock = some i → ¬ N i ∧ i ≠ p ∧ D + 2 ≤ i)) ∧ t ≤ l.length ∧ (∀ i, N i → D ≤ i ∧ i < W.heap.size) ∧ D ≤ W.heap.size ∧ Below w.heap.size w W)
    (fun _ _ _ _ => False)
    ?stb ?stbx ?start
    (RA fun g x q => { tmps := #[.string s, undef, .slice none 0 0, .int .i64 0, .int .i64 (n : Int), .bool true, .pointer (some ⟨p, 0, none⟩), .pointer (some ⟨g, 0, none⟩), .tuple #[.int .i64 (n : Int), .bool true], .string s, .tuple #[.int .i64 (n : Int), .bool true], .int .i64 (n : Int), .bool true, .bool true, .bool false, .int .i64 (n : Int), .bool (decide ((1048576 : Int) < (n : Int))), .string s, .string s, .func (.func 27) #[] #[.pointer (some ⟨bs, 0, none⟩)], q, .bool x, undef, undef, undef, undef, undef], defers := [] }) (fun g vs a2 W W' h hG => h.gs hG) ?assign ?body ?done ?stop
  case stb =>
    rintro t N N' A A' ⟨⟨v, h1, hO, hw⟩, h3, h4, h5, h6⟩ hG hN
    have hD := HD.out
    rw [hD] at hG
    have hsz := hG.size
    refine ⟨⟨v, (hG.block _ (lt_of_block h1) (fun e => ?_)).trans h1, hO.gs2 hG (fun i hi e => ?_), fun i hi => ?_⟩, h3, fun i e => ?_, by omega, hG.below h6 h6.size (fun i e => ?_)⟩
    · rcases e with e | e | e
      · have := (h4 _ e).1; omega
      · omega
      · omega
    · have hi2 := hw i hi
      rcases e with e | e | e
      · exact hi2.1 e
      · omega
      · omega
    · have hi2 := hw i hi
      refine ⟨fun e => ?_, hi2.2⟩
      rcases (hN i e).2 with h | h
      · exact hi2.1 h
      · have := (hO.lt i hi).2; omega
    · have := (hN i e).1
      rcases (hN i e).2 with h | h
      · exact ⟨(h4 i h).1, this⟩
      · exact ⟨by omega, this⟩
    · rcases e with e | e | e
      · have := (h4 i e).1; omega
      · omega
      · omega
  case stbx => exact fun c t N N' A A' h => h.elim
  case start => exact ⟨⟨_, H4.out.2, OW.nil _ _ _ _ _, fun i hi => by simp [Value.ownBlock] at hi⟩, Nat.zero_le _, fun i e => e.elim, by rw [HD.out]; omega, H4.out.1⟩
  case assign =>
    intro l2 t vs W K hc hK
    obtain ⟨L, dd, ll, x, rfl, _⟩ := hc.shape
    obtain ⟨W2, hW2⟩ : ∃ W2, W.alloc (.cells #[.string L, .int .i64 (dd : Int), .int .i64 (ll : Int)] 35) = W2 := ⟨_, rfl⟩
    have hB : Below W.heap.size W W2 := by rw [← hW2]; exact (Below.refl _ _).alloc (Nat.le_refl _) _
    have hq : QB W2 W.heap.size L dd ll := by rw [← hW2]; exact heap_alloc_new W _
    gi_wp2
    refine hK _ _ hB fun L' dd' ll' x' e => ?_
    simp only [Array.mk.injEq, List.cons.injEq, Value.agg.injEq, Value.string.injEq, Value.int.injEq, Value.bool.injEq, and_true, true_and, Int.natCast_inj] at e
    obtain ⟨⟨rfl, rfl, rfl⟩, rfl⟩ := e
    exact ⟨rfl, hq⟩
  case body =>
    rintro l2 t N vs V g a2 ⟨⟨v, h1, hO, hw⟩, h3, h4, h5, h6⟩ hc hA hg1 hg2 hN
    obtain ⟨L, dd, ll, x, rfl, hx⟩ := hc.shape
    obtain ⟨rfl, hq⟩ := hA _ _ _ _ rfl
    have hD := HD.out
    rw [hD] at hN hg1 ⊢
    rw [HK.out] at hx
    rcases hx with ⟨rfl, hx⟩ | ⟨_, hx⟩
    · have hpN : ¬ N p := fun e => by have := (h4 p e).1; omega
      obtain ⟨u0, u1, u2⟩ := cell3 hq
      obtain ⟨v', w', hr, hT', hG', hob⟩ := app_sl hO ⟨L, dd, ll⟩ (by rw [List.length_take]; omega) h6.size
      simp only at hr hT'
      have htk : l.take t ++ [⟨L, dd, ll⟩] = l.take (t + 1) := by rw [List.take_add_one, hx]; rfl
      have htl : t + 1 ≤ l.length := (List.getElem?_eq_some_iff.1 hx).1
      rw [htk] at hT'
      have hob' : ∀ i, v'.ownBlock = some i → ¬ N i ∧ i ≠ p ∧ D + 2 ≤ i := fun i hi => by
        rcases hob with h | h
        · exact hw i (h ▸ hi)
        · rw [h] at hi
          cases hi
          have := lt_of_block h1
          exact ⟨fun e => by have := (hN _ e).1; omega, by omega, by omega⟩
      have hne : v.ownBlock ≠ some p := fun e => (hw p e).2.1 rfl
      have hG2 : Gs (fun i => ¬ N i ∧ i ≠ D ∧ i ≠ D + 1) V w' := hG'.mono fun i _ e => ⟨(hw i e).1, by have := (hw i e).2.2; omega, by have := (hw i e).2.2; omega⟩
      have k1 := (hG'.block p (lt_of_block h1) hne).trans h1
      obtain ⟨ad, cp, hv'⟩ := hT'.shp
      generalize (l.take (t + 1)).length = nn at hv'
      subst hv'
      obtain ⟨z0, z1⟩ := cell1 h1
      obtain ⟨y0, y1⟩ := cell1 k1
      obtain ⟨w9, hw9⟩ : ∃ w9, w'.setCell ⟨p, 0, none⟩ (.slice ad nn cp) = w9 := ⟨_, rfl⟩
      have hG9 : Gs (fun i => i = p) w' w9 := by rw [← hw9]; exact (Gs.refl (fun i => i = p) _).set (a := ⟨p, 0, none⟩) (.inl rfl) _
      have k9 : w9.heap[p]? = some (.cells #[.slice ad nn cp] 29 (0, 0)) := by rw [← hw9]; exact heap_set_self k1
      have hT9 := hT'.gs2 hG9 (fun i hi => (hob' i hi).2.1)
      have hGz : Gs (fun i => ¬ N i ∧ i ≠ D ∧ i ≠ D + 1) V w9 := hG2.trans (hG9.mono fun i _ e => by subst e; exact ⟨hpN, by omega, by omega⟩)
      have hBw : Below w.heap.size w w9 := (hG9).below ((hG'.below h6 h6.size (fun i e => by have := (hw i e).2.2; omega))) (by have := h6.size; have := hG'.size; omega) (fun i e => by omega)
      have HE : Hid (Gs (fun i => ¬ N i ∧ i ≠ D ∧ i ≠ D + 1) V w9 ∧ (∃ v, w9.heap[p]? = some (.cells #[v] 29 (0, 0)) ∧ OW sqc 3 35 w.heap.size v (l.take (t + 1)) w9 ∧ (∀ i, v.ownBlock = some i → ¬ N i ∧ i ≠ p ∧ D + 2 ≤ i)) ∧ t + 1 ≤ l.length ∧ (∀ i, N i → D ≤ i ∧ i < w9.heap.size) ∧ D ≤ w9.heap.size ∧ Below w.heap.size w w9) :=
        ⟨hGz, ⟨_, k9, hT9, hob'⟩, htl, fun i e => ⟨(h4 i e).1, by have := (h4 i e).2; have := hGz.size; omega⟩, by have := hGz.size; omega, hBw⟩
      clear h1 hO hw h3 h4 h5 h6 hc hA hq hN hpN hx hT' hG' hob htk htl hob' hne hG2 k1 hG9 k9 hT9 hGz hBw
      gi_wp2_with (gi_at_builtin; refine in_append_run rfl _ _ _ _ rfl _ _ rfl rfl _ _ hr ?_)
      exact HE.out
    · cases hx
  case done =>
    rintro E t N W hE hS ⟨⟨v, h1, hO, hw⟩, h3, h4, h5, h6⟩ hd
    have hS' : t = _ := hS
    rw [HK.out] at hS'
    have hED : E = D := hE.trans HD.out
    obtain rfl : t = l.length := hS'
    rw [List.take_length] at hO
    obtain ⟨av, cv, rfl⟩ := hO.shp
    obtain ⟨z0, z1⟩ := cell1 h1
    obtain ⟨U, hU⟩ : ∃ U, U = W.putObj E (.deferred none) := ⟨_, rfl⟩
    have hg9 : Gs (fun i => i = E) W U := by rw [hU]; exact gs_putObj
    have HE : Hid (OW sqc 3 35 w.heap.size (.slice av l.length cv) l U ∧ Below w.heap.size w U) := ⟨hO.gs2 hg9 (fun i hi => by have := (hw i hi).2.2; omega), hg9.below h6 h6.size (fun i hi => by omega)⟩
    have HU := hide hU
    clear h1 hO hw h3 h4 h5 h6 hS hE hED hg9 hU
    gi_wp2
    refine ⟨by simp, .inl ⟨_, _, rfl, run_takeDeferred hd, ?_⟩⟩
    rw [← HU.out]
    refine ⟨.tuple #[.slice av l.length cv, .int .i64 0], by simp [results, Try.results12, go_sem], ?_⟩
    exact ⟨_, rfl, HE.out⟩
  case stop => exact fun E c t N W _ _ h => h.elim
theorem seqC : SeqsC (fun _ => True) := fun w s _ hs => by
  rcases hp : ps s with _ | ⟨l, t⟩
  · exact seqs_bad hs hp
  · by_cases ht : t ≤ 1048576
    · exact seqs_ok hs hp ht
    · exact seqs_long hs hp ht
end
end Go.Proofs.Ytndjefjkfhcedaa
