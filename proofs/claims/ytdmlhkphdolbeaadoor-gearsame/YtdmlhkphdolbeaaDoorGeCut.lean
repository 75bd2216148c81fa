/-
  Gear: the chunks, by the program: a range over an iterator.
-/
import Derived.Test.YtdmlhkphdolbeaaDoorGeRange
import Derived.Test.YtdmlhkphdolbeaaDoorGeFirst
namespace Go.Proofs.YtdmlhkphdolbeaaDoor
open Go.RowKit Go.Lib Go.Shelf
attribute [local go_sem] Oper.semAt_some
def szV : Value → Nat
  | .string b => b.size
  | _ => 0
theorem size_nil {b : ByteArray} (h : b.size = 0) : b = ⟨#[]⟩ := ba_ext (by
  have : b.data.toList.length = 0 := by simpa using h
  rw [List.length_eq_zero_iff.1 this])
theorem TS.gs {B : Nat} {v : Value} {l : List ByteArray} {w w' : World} {p : Nat → Prop} (h : TS B v l w) (hg : Gs p w w') (hp : ∀ i, p i → i < B) : TS B v l w' := by
  refine ⟨h.own.1, ?_⟩
  rcases h.own.2 with h2 | ⟨g, cap, cur, e, hB, hgb, r⟩
  · exact .inl h2
  · exact .inr ⟨g, cap, cur, e, hB, (hg.block g (lt_of_block hgb) (fun e => by have := hp g e; omega)).trans hgb, r⟩
section
variable {w : World} {L B M : Nat} {s : ByteArray}
set_option maxRecDepth 100000 in
theorem cutf_any : Calls Tryd.prog 26 #[.agg #[.int .i64 (L : Int), .int .i64 (B : Int), .int .i64 (M : Int)], .string s] w fun e w' => e = .returned (.func (.func 31) #[] #[.pointer (some ⟨w.heap.size + 1, 0, none⟩), .pointer (some ⟨w.heap.size, 0, none⟩)]) ∧ w' = (w.alloc (.cells #[.int .i64 (L : Int), .int .i64 (B : Int), .int .i64 (M : Int)] 23)).alloc (.cells #[.string s] 9) := by
  have hmf : ∀ (fn : Fn) (first cap : Array Value) (w : World), (Instr.makeFunc fn first cap).run Tryd.prog w = .ok (.func fn first cap) w := fun _ _ _ _ => rfl
  go_enter Tryd.func26, Tryd.ntmps26
  go_wp2
  go_ret
  exact ⟨rfl, rfl⟩
set_option maxRecDepth 100000 in
set_option maxHeartbeats 1600000 in
theorem cut1_seq (o : OkX L B M) (hs : s.size ≤ 4611686018427387904) (bs bx : Nat) :
    SeqQ 31 #[.pointer (some ⟨bs, 0, none⟩), .pointer (some ⟨bx, 0, none⟩)] (fun t v => ∃ c, (cuts L B M s)[t]? = some c ∧ v = .string c) (fun t => (cuts L B M s).length ≤ t)
      (fun W => W.heap[bs]? = some (.cells #[.string s] 9 (0, 0)) ∧ W.heap[bx]? = some (.cells #[.int .i64 (L : Int), .int .i64 (B : Int), .int .i64 (M : Int)] 23 (0, 0)) ∧ Lm W) w := fun l J W hB hl hJ hK hY h0 => by
  obtain ⟨k1, _, _⟩ := hK 0 W h0
  have y1 : W.cell? ⟨bs, 0, none⟩ = some (.string s) := by simp [World.cell?, k1]
  have HJ := hide hJ
  have HK := hide hK
  have HY := hide hY
  have H0 := hide h0
  have HO := hide o
  clear hB hJ hK hY h0 k1 o
  refine callsIn_of_wp Tryd.func31 rfl trivial ?_ rfl
  simp only [Tryd.ntmps31, List.size_toArray, List.length_cons, List.length_nil, Nat.reduceAdd, Nat.reduceSub, Array.replicate_succ, Array.replicate_zero, List.push_toArray, List.append_toArray, List.nil_append, List.cons_append]
  gi_wp2
  gi_loopw [4] (fun r wr => ∃ (t : Nat) (rb : ByteArray), r = .string rb ∧ (cuts L B M s).drop t = cuts L B M rb ∧ rb.size ≤ 4611686018427387904 ∧ J t wr) (fun r _ => szV r)
  case atStart => exact ⟨0, s, rfl, rfl, hs, H0.out⟩
  case round =>
    obtain ⟨t, rb, rfl, hd, hrb, hj⟩ := hrel
    obtain ⟨_, k2, k3⟩ := HK.out t wr hj
    have z0 : wr.cell? ⟨bx, 0, none⟩ = some (.int .i64 (L : Int)) := by simp [World.cell?, k2]
    have z1 : wr.cell? ⟨bx, 1, none⟩ = some (.int .i64 (B : Int)) := by simp [World.cell?, k2]
    have z2 : wr.cell? ⟨bx, 2, none⟩ = some (.int .i64 (M : Int)) := by simp [World.cell?, k2]
    by_cases h0 : rb.size = 0
    · have HE : Hid ((cuts L B M s).length ≤ t ∧ J t wr) := ⟨by rw [cuts_nil h0] at hd; exact List.drop_eq_nil_iff.1 hd, hj⟩
      have e0 := size_nil h0
      subst e0
      clear hd hj k2 k3
      gi_wp2
      go_end0
      exact ⟨⟨_, rfl⟩, t, HE.out⟩
    · have hne : rb ≠ ⟨#[]⟩ := fun e => h0 (by rw [e]; rfl)
      have hne1 : rb.toList.isEmpty = false := by
        rw [bytes_list]
        exact List.isEmpty_eq_false_iff.2 (fun e => h0 (by have := congrArg List.length e; simpa using this))
      obtain ⟨n, hn⟩ : ∃ n, n = fl L B M rb := ⟨_, rfl⟩
      have hn1 : n ≤ rb.size := by rw [hn]; exact fl_le HO.out rb
      have hn2 : 1 ≤ n := by rw [hn]; exact fl_pos HO.out (by omega)
      have HC := hide (first1_any HO.out k3 hrb)
      rw [← hn] at HC
      have hcc := cuts_cons HO.out (s := rb) (by omega)
      rw [← hn] at hcc
      have hdc := hd.trans hcc
      have hct : (cuts L B M s)[t]? = some (rb.extract 0 n) := by
        have := congrArg (·[0]?) hdc
        simpa using this
      have hdn : (cuts L B M s).drop (t + 1) = cuts L B M (rb.extract n rb.size) := by
        have := congrArg (List.drop 1) hdc
        simpa [Nat.add_comm] using this
      have HX := hide (And.intro hct (And.intro hdn hj))
      have i1 : (n : Int) ≤ (rb.size : Int) := by omega
      have i0 : (0 : Int) ≤ (n : Int) := by omega
      clear hd hj k2 k3 hcc hdc hct hdn hn
      gi_wp2
      refine ⟨trivial, rfl, (callsIn_wide.2 HC.out).mono ?_⟩
      rintro e W5 ⟨rfl, hb5⟩
      have hj5 := HJ.out t wr W5 HX.out.2.2 hb5
      obtain ⟨fn, tmps, assign, body, hy, hRd⟩ := HY.out t (.string (rb.extract 0 n)) W5 hj5 ⟨_, HX.out.1, rfl⟩
      clear hj5 hb5
      gi_wp2
      refine ⟨rfl, hRd.mono ?_⟩
      rintro e W9 ⟨rfl, hJ9⟩
      have HJ9 := hide hJ9
      clear hJ9 hRd hy
      gi_wp2
      exact ⟨⟨t + 1, rb.extract n rb.size, rfl, HX.out.2.1, by rw [ByteArray.size_extract]; omega, HJ9.out⟩, by simp only [szV, ByteArray.size_extract]; omega⟩
theorem cell1 {w : World} {b : Nat} {v : Value} {T : TypeId} (h : w.heap[b]? = some (.cells #[v] T (0, 0))) : w.cell? ⟨b, 0, none⟩ = some v ∧ w.frozen? ⟨b, 0, none⟩ = false := by simp [World.cell?, World.frozen?, h]
theorem cell3 {w : World} {b : Nat} {v0 v1 v2 : Value} {T : TypeId} (h : w.heap[b]? = some (.cells #[v0, v1, v2] T (0, 0))) : w.cell? ⟨b, 0, none⟩ = some v0 ∧ w.cell? ⟨b, 1, none⟩ = some v1 ∧ w.cell? ⟨b, 2, none⟩ = some v2 := by simp [World.cell?, h]
theorem TS.mono {B B' : Nat} {v : Value} {l : List ByteArray} {w : World} (h : TS B v l w) (hB : B' ≤ B) : TS B' v l w := by
  refine ⟨h.own.1, ?_⟩
  rcases h.own.2 with h2 | ⟨g, cap, cur, e, hg, r⟩
  · exact .inl h2
  · exact .inr ⟨g, cap, cur, e, Nat.le_trans hB hg, r⟩
theorem in_append_run {F : Fence} {n : Nat} {P : Program} {w : World} {ops : Array Oper} {rest : List Oper} {o : Oper} {a : Act} {Q : Exit → Act → World → Prop} (hgd : o.guard = none) (s x : Operand) (t tn : TypeId)
    (ho : o.op = .call { callee := .builtin .append, args := #[s, x], argTypes := #[t, tn] }) (vs vx : Value) (hs : a.eval s = vs) (hx : a.eval x = vx)
    (v' : Value) (w' : World) (hr : (Builtin.append_ #[t, tn] o.type #[vs, vx]).run P w = .ok v' w') (h : wpListIn F n P ops Q rest (a.put o.dst v') w') : wpListIn F n P ops Q (o :: rest) a w := by
  refine wpListIn_plain hgd fun K hK => ?_
  unfold Oper.wpIn
  refine ⟨by simp [Oper.about, ho, resolve, Target.leads, Sem.run_pure], ?_⟩
  rw [Oper.semAt_plain F _ _ (by rw [ho]; intro c hc'; cases hc')]
  simp [execOp, ho, resolve, invoke, builtin, hs, hx, hr, Result.andThen]
  exact hK _ _ h
set_option maxRecDepth 100000 in
set_option maxHeartbeats 3200000 in
theorem chunks_ok (o : OkX L B M) (hl : Lm w) (hs : s.size ≤ 10000) : Calls Tryd.prog 12 #[.agg #[.int .i64 (L : Int), .int .i64 (B : Int), .int .i64 (M : Int)], .string s] w fun e w' => ∃ v, e = .returned (.tuple #[v, .int .i64 0]) ∧ TS w.heap.size v (cuts L B M s) w' ∧ Below w.heap.size w w' := by
  obtain ⟨w1, hw1⟩ : ∃ w1, w1 = w.alloc (.cells #[.int .i64 (L : Int), .int .i64 (B : Int), .int .i64 (M : Int)] 23) := ⟨_, rfl⟩
  have hB1 : Below w.heap.size w w1 := by rw [hw1]; exact (Below.refl _ _).alloc (Nat.le_refl _) _
  have hW3 : w1.heap[w.heap.size]? = some (.cells #[.int .i64 (L : Int), .int .i64 (B : Int), .int .i64 (M : Int)] 23 (0, 0)) := by rw [hw1]; exact heap_alloc_new w _
  have hw1' := hw1.symm
  obtain ⟨a0, a1, a2⟩ := cell3 hW3
  have HC : Hid (∀ w : World, Calls Tryd.prog 14 #[.agg #[.int .i64 (L : Int), .int .i64 (B : Int), .int .i64 (M : Int)]] w fun e w' => e = .returned (.int .i64 0) ∧ Below w.heap.size w w') := by
    have := fun w => check_any w L B M
    rw [ck_ok o] at this
    exact this
  have H1 := hide (And.intro hB1 (And.intro hW3 (And.intro hl o)))
  have hs2 : (s.size : Int) ≤ 1048576 := by omega
  clear hw1 hB1 hW3 hl o
  refine (callsIn_wide (n := 0)).1 ?_
  refine callsIn_of_wp_marks Tryd.func12 rfl trivial ?_ rfl
  simp only [Tryd.ntmps12, List.size_toArray, List.length_cons, List.length_nil, Nat.reduceAdd, Nat.reduceSub, Array.replicate_succ, Array.replicate_zero, List.push_toArray, List.append_toArray, List.nil_append, List.cons_append]
  gi_wp2
  refine ⟨trivial, rfl, (callsIn_wide.2 (HC.out w1)).mono ?_⟩
  rintro e w2 ⟨rfl, hb2⟩
  obtain ⟨q, hq⟩ : ∃ q, w2.heap.size = q := ⟨_, rfl⟩
  obtain ⟨w3, hw3⟩ : ∃ w3, w2.alloc (.cells #[.slice none 0 0] 33) = w3 := ⟨_, rfl⟩
  have hb3 : Below w2.heap.size w2 w3 := by rw [← hw3]; exact (Below.refl _ _).alloc (Nat.le_refl _) _
  have hk3 : w3.heap[q]? = some (.cells #[.slice none 0 0] 33 (0, 0)) := by rw [← hw3, ← hq]; exact heap_alloc_new w2 _
  have hs3 : w3.heap.size = q + 1 := by rw [← hw3, ← hq]; simp
  have hb13 := below_step hb2 hb3
  obtain ⟨c0, c1, c2⟩ := cell3 ((hb13.block _ (lt_of_block H1.out.2.1)).trans H1.out.2.1)
  have hnw : w.heap.size < q := by have := lt_of_block H1.out.2.1; have := hb2.size; omega
  have H3 := hide (And.intro hk3 (And.intro hb13 hq))
  clear hb2 hb3 hk3 hb13
  gi_wp2
  refine ⟨trivial, rfl, (callsIn_wide.2 cutf_any).mono ?_⟩
  rintro e w5 ⟨rfl, hw5⟩
  rw [hs3]
  have hb5 : Below w3.heap.size w3 w5 := by rw [hw5]; exact ((Below.refl _ _).alloc (Nat.le_refl _) _).alloc (by simp) _
  have hs5 : w5.heap.size = q + 3 := by rw [hw5]; simp; omega
  have kx : w5.heap[q + 1]? = some (.cells #[.int .i64 (L : Int), .int .i64 (B : Int), .int .i64 (M : Int)] 23 (0, 0)) := by
    rw [hw5, ← hs3, Below.heap_alloc _ _ _ (by simp)]; exact heap_alloc_new w3 _
  have ks : w5.heap[q + 2]? = some (.cells #[.string s] 9 (0, 0)) := by
    rw [hw5]
    have := heap_alloc_new (w3.alloc (.cells #[.int .i64 (L : Int), .int .i64 (B : Int), .int .i64 (M : Int)] 23)) (.cells #[.string s] 9 (0, 0))
    rw [World.size_alloc, hs3] at this
    exact this
  obtain ⟨hk3, hb13, hq2⟩ := H3.out
  have kq := (hb5.block q (by omega)).trans hk3
  have hBw : Below w.heap.size w w5 := below_step (below_step H1.out.1 hb13) hb5
  have hL5 := H1.out.2.2.1.bel hBw
  have H5 := hide (And.intro kx (And.intro ks (And.intro kq (And.intro hBw (And.intro hL5 (And.intro hs5 hnw))))))
  clear hb5 kx ks hk3 hb13 hq2 kq hBw hL5 hw5 hs5 hnw
  gi_wp2
  have hsz5 : w5.heap.size = q + 3 := H5.out.2.2.2.2.2.1
  have hsB : s.size ≤ 4611686018427387904 := by omega
  have HO := hide H1.out.2.2.2
  have SQ := hide (cut1_seq (w := w5) HO.out hsB (q + 1 + 1) (q + 1))
  clear H1 H3 a0 a1 a2 c0 c1 c2 HC
  refine range_q (gf := 31) (lb := #[.pointer (some ⟨q + 1 + 1, 0, none⟩), .pointer (some ⟨q + 1, 0, none⟩)]) rfl (enters_of Tryd.func31 (by kernel_rfl) rfl) SQ.out rfl
    (fun t W => (∃ v, W.heap[q]? = some (.cells #[v] 33 (0, 0)) ∧ TS (q + 5) v ((cuts L B M s).take t) W) ∧ (W.heap[q + 1 + 1]? = some (.cells #[.string s] 9 (0, 0)) ∧ W.heap[q + 1]? = some (.cells #[.int .i64 (L : Int), .int .i64 (B : Int), .int .i64 (M : Int)] 23 (0, 0)) ∧ Lm W) ∧ Below w.heap.size w W)
    ?stb (fun t A h => h.2.1) ?start
    (fun v => { tmps := #[.agg #[.int .i64 (L : Int), .int .i64 (B : Int), .int .i64 (M : Int)], .string s, .pointer (some ⟨w.heap.size, 0, none⟩), undef, .slice none 0 0, .int .i64 0, .int .i64 0, .pointer (some ⟨q, 0, none⟩), v, .agg #[.int .i64 (L : Int), .int .i64 (B : Int), .int .i64 (M : Int)], .int .i64 0, .int .i64 0, .bool false, undef, .string s, .int .i64 (s.size : Int), .bool (decide ((1048576 : Int) < (s.size : Int))), .agg #[.int .i64 (L : Int), .int .i64 (B : Int), .int .i64 (M : Int)], .string s, .func (.func 31) #[] #[.pointer (some ⟨q + 1 + 1, 0, none⟩), .pointer (some ⟨q + 1, 0, none⟩)], v, undef, undef, undef, undef, undef], defers := [] }) ?assign ?body ?done
  case stb =>
    rintro t A A' ⟨⟨v, h1, hT⟩, ⟨h2, h3, h4⟩, h5⟩ hG
    have ha : ∀ i o, A.heap[i]? = some o → i < q + 3 → A'.heap[i]? = some o := fun i o h hi => (hG.block i (Array.getElem?_eq_some_iff.1 h).1 (by omega)).trans h
    have hnw := H5.out.2.2.2.2.2.2
    refine ⟨⟨v, ha _ _ h1 (by omega), hT.gs hG fun i hi => by omega⟩, ⟨ha _ _ h2 (by omega), ha _ _ h3 (by omega), ?_⟩, hG.below h5 h5.size (fun i hi => by omega)⟩
    obtain ⟨T, fr, h4⟩ := h4
    exact ⟨T, fr, ha _ _ h4 (by omega)⟩
  case start =>
    intro W0 hb hz
    obtain ⟨kx, ks, kq, hBw, hL5, _, hnw⟩ := H5.out
    exact ⟨⟨_, (hb.block q (by omega)).trans kq, TS.nil _ _⟩, ⟨(hb.block _ (by omega)).trans ks, (hb.block _ (by omega)).trans kx, hL5.bel hb⟩, below_step hBw hb⟩
  case assign =>
    intro l v W K hK
    gi_wp2
    exact hK
  case body =>
    rintro l t v W hW ⟨⟨u, h1, hT⟩, ⟨h2, h3, h4⟩, h5⟩ ⟨c, hc, rfl⟩
    rw [hsz5] at hW ⊢
    have hnw := H5.out.2.2.2.2.2.2
    have htl : t < (cuts L B M s).length := (List.getElem?_eq_some_iff.1 hc).1
    have hcl := cuts_len (L := L) (B := B) (M := M) s
    obtain ⟨v', w', hr, hT', _, hG'⟩ := hT.one c (by rw [List.length_take]; omega) (by omega)
    obtain ⟨ad, cp, hv'⟩ := hT'.shp
    generalize ((cuts L B M s).take t ++ [c]).length = nn at hv'
    subst hv'
    have hal : Below W.heap.size W (W.alloc (.cells #[.string c] 9)) := (Below.refl _ _).alloc (Nat.le_refl _) _
    have hGw : Gs (fun i => q + 5 ≤ i) W w' := ⟨hG'.os.trans hal.os, hG'.tape.trans hal.tape, hG'.output.trans hal.output, Nat.le_trans hal.size hG'.size, fun i hi hp => (hG'.block i (Nat.lt_of_lt_of_le hi hal.size) (fun e => hp (hT.lt i (by first | exact e | exact e.symm)).1)).trans (hal.block i hi)⟩
    have hq' := (hGw.block q (lt_of_block h1) (by omega)).trans h1
    obtain ⟨z0, z1⟩ := cell1 h1
    obtain ⟨y0, y1⟩ := cell1 hq'
    obtain ⟨w9, hw9⟩ : ∃ w9, w'.setCell ⟨q, 0, none⟩ (.slice ad nn cp) = w9 := ⟨_, rfl⟩
    have hG9 : Gs (fun i => i = q) w' w9 := by rw [← hw9]; exact (Gs.refl (fun i => i = q) w').set (a := ⟨q, 0, none⟩) (.inl rfl) _
    have k9 : w9.heap[q]? = some (.cells #[.slice ad nn cp] 33 (0, 0)) := by rw [← hw9]; exact heap_set_self hq'
    have hT9 := hT'.gs hG9 (fun i hi => by omega)
    have hGW : Gs (fun i => i = q ∨ q + 5 ≤ i) W w9 := (hGw.mono fun i _ e => .inr e).trans (hG9.mono fun i _ e => .inl e)
    have htk : (cuts L B M s).take t ++ [c] = (cuts L B M s).take (t + 1) := by rw [List.take_add_one, hc]; rfl
    rw [htk] at hT9
    have ha : ∀ i o, W.heap[i]? = some o → i < q + 5 → i ≠ q → w9.heap[i]? = some o := fun i o h hi hn => (hGW.block i (Array.getElem?_eq_some_iff.1 h).1 (by omega)).trans h
    have hL9 : Lm w9 := by obtain ⟨T, fr, h4⟩ := h4; exact ⟨T, fr, ha _ _ h4 (by omega) (by omega)⟩
    have HE : Hid (postQ (q + 3) (fun t W => (∃ v, W.heap[q]? = some (.cells #[v] 33 (0, 0)) ∧ TS (q + 5) v ((cuts L B M s).take t) W) ∧ (W.heap[q + 1 + 1]? = some (.cells #[.string s] 9 (0, 0)) ∧ W.heap[q + 1]? = some (.cells #[.int .i64 (L : Int), .int .i64 (B : Int), .int .i64 (M : Int)] 23 (0, 0)) ∧ Lm W) ∧ Below w.heap.size w W) t W .normal ⟨#[], []⟩ w9) :=
      ⟨⟨⟨_, k9, hT9⟩, ⟨ha _ _ h2 (by omega) (by omega), ha _ _ h3 (by omega) (by omega), hL9⟩, hGW.below h5 h5.size (fun i hi => by omega)⟩, hGW.block _ (by omega) (by omega), hGW.block _ (by omega) (by omega)⟩
    clear h1 hT h2 h3 h4 h5 hT' hG' hal hGw hq' hG9 k9 hT9 hGW htk ha hL9 hc htl hcl
    gi_wp2_with (gi_at_builtin; refine in_append_run rfl _ _ _ _ rfl _ _ rfl rfl _ _ hr ?_)
    exact HE.out
  case done =>
    rintro D t W hD hS ⟨⟨u, h1, hT⟩, _, h5⟩ hd
    rw [List.take_of_length_le hS] at hT
    have hnw := H5.out.2.2.2.2.2.2
    obtain ⟨z0, z1⟩ := cell1 h1
    obtain ⟨U, hU⟩ : ∃ U, U = W.putObj D (.deferred none) := ⟨_, rfl⟩
    have hg9 : Gs (fun i => i = D) W U := by rw [hU]; exact gs_putObj
    have HE : Hid (TS w.heap.size u (cuts L B M s) U ∧ Below w.heap.size w U) := ⟨(hT.gs hg9 (fun i hi => by omega)).mono (by omega), hg9.below h5 h5.size (fun i hi => by omega)⟩
    clear h1 hT h5 hg9 hS
    gi_wp2
    refine ⟨by simp, .inl ⟨_, _, rfl, run_takeDeferred hd, ?_⟩⟩
    rw [← hU]
    refine ⟨.tuple #[u, .int .i64 0], by simp [results, Tryd.results12, go_sem], ?_⟩
    exact ⟨u, rfl, HE.out⟩
end
end Go.Proofs.YtdmlhkphdolbeaaDoor
