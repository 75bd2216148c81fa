/-
  Lz: Unpack, by the program.
-/
import Derived.Test.YtgigiamnhjelmaaDoorLpRound
namespace Go.Proofs.YtgigiamnhjelmaaDoor
open Go.RowKit Go.Lib Go.Shelf
attribute [local go_sem] Oper.semAt_some
theorem in_make_run {F : Fence} {n : Nat} {ops : Array Oper} {rest : List Oper} {op : Oper} {a : Act} {w w1 : World} {Q : Exit → Act → World → Prop} (hgd : op.guard = none) (ty : TypeId) (x y : Operand) (ho : op.op = .makeSlice ty x y)
    (p v u : Value) (hx : a.eval x = p) (hy : a.eval y = v) (hr : (Instr.makeSlice ty p v).run Tryd.prog w = .ok u w1)
    (h : wpListIn F n Tryd.prog ops Q rest (a.put op.dst u) w1) : wpListIn F n Tryd.prog ops Q (op :: rest) a w := by
  refine wpListIn_plain hgd fun K hK => ?_
  unfold Oper.wpIn
  refine ⟨?_, ?_⟩
  · simp [Oper.about, ho]
  · rw [Oper.semAt_plain F _ _ (by rw [ho]; intro c hc'; cases hc')]
    simp only [execOp, ho, hx, hy, Sem.run_bind, Sem.run_pure, Result.andThen_ok, hr]
    exact hK _ _ h
theorem run_makeB2 (n : Nat) (hn : n ≤ 2000000) (w : World) : ∃ W, (Instr.makeSlice 39 (.int .i64 (n : Int)) (.int .i64 (n : Int))).run Tryd.prog w = .ok (.slice (some ⟨w.heap.size, 0, none⟩) n n) W ∧ BQ W w.heap.size (List.replicate n 0) ∧ Below w.heap.size w W ∧ W.heap.size = w.heap.size + 1 := by
  obtain ⟨i0, hi, hz0, hz1, hz2⟩ := info_parts Tryd.infoU8
  have hr := run_make (P := Tryd.prog) w 39 5 i0 _ Tryd.underlying39 hi hz0 .i64 .i64 (n : Int) (n : Int) (by omega) (Int.le_refl _) (by rw [hz2]; omega) (by omega)
  rw [hz1] at hr
  simp only [Int.toNat_natCast] at hr
  refine ⟨_, hr, ?_, (Below.refl _ _).alloc (Nat.le_refl _) _, by simp⟩
  have e : madeCells (Value.int .u8 0).cells (n * 1) = ((List.replicate n (0 : UInt8)).map fun b => Value.int .u8 (b.toNat : Int)).toArray := by
    apply Array.ext'
    rw [Nat.mul_one, show (Value.int .u8 0).cells = #[.int .u8 0] from rfl, toList_madeCells_one]
    simp
  unfold BQ
  rw [← e]
  exact heap_alloc_new w _
theorem Tryd.infoInt : (Tryd.prog.info? 3).map (fun i => (i.zero, i.size, i.bytes)) = some (some (.int .i64 0), 1, 8) := by kernel_rfl
theorem sto_one {w : World} {b : Nat} {v0 : Value} (h : w.cell? ⟨b, 0, none⟩ = some v0) (hf : w.frozen? ⟨b, 0, none⟩ = false) (x : Int) : (Instr.storeAt 3 (.pointer (some ⟨b, 0, none⟩)) (.int .i64 x)).run Tryd.prog w = .ok () (w.setCell ⟨b, 0, none⟩ (.int .i64 x)) := by
  obtain ⟨i0, hi, hz0, hz1, hz2⟩ := info_parts Tryd.infoInt
  simp [go_sem, sizeOf, typeInfo, hi, hz1, h, hf, storeCells]
set_option maxRecDepth 100000 in
theorem repeat_none {w : World} {g at_ n d c : Nat} (h1 : at_ = n) (h2 : d ≤ at_) (h3 : n ≤ 2000000) :
    Calls Tryd.prog 61 #[.slice (some ⟨g, 0, none⟩) n c, .int .i64 (at_ : Int), .int .i64 (d : Int)] w fun e w' => e = .returned (.int .i64 0) ∧ w' = w := by
  obtain ⟨f, hf⟩ : ∃ f, f = at_ - d := ⟨_, rfl⟩
  have e1 : (at_ : Int) - (d : Int) = (f : Int) := by omega
  have e2 : IntKind.i64.wrap (f : Int) = (f : Int) := by rw [IntKind.wrap_i64]; omega
  clear hf
  subst h1
  have d1 : ¬ (at_ : Int) < (at_ : Int) := by omega
  go_enter Tryd.func61, Tryd.ntmps61
  go_wp2
  go_loopw [1] (fun v wr => v = .int .i64 (at_ : Int) ∧ wr = w) (fun _ _ => 0)
  case atStart => exact ⟨rfl, rfl⟩
  case round =>
    obtain ⟨rfl, rfl⟩ := hrel
    go_wp2
    go_ret
    exact ⟨by first | rfl | simp, rfl⟩
theorem opn_snoc (l : List SQ) (q : SQ) (out : List UInt8) : opn (l ++ [q]) out = rp q.dist q.long (opn l out ++ q.lit.data.toList) := by
  induction l generalizing out with
  | nil => rfl
  | cons x r ih => rw [List.cons_append, opn, opn, ih]
theorem opn_take {l : List SQ} {t : Nat} {q : SQ} (h : l[t]? = some q) (out : List UInt8) : opn (l.take (t + 1)) out = rp q.dist q.long (opn (l.take t) out ++ q.lit.data.toList) := by
  rw [List.take_add_one, h]
  exact opn_snoc _ _ _
theorem opn_sqn : ∀ (l : List SQ) (out : List UInt8), (opn l out).length = out.length + sqn l
  | [], out => by simp [opn, sqn]
  | q :: r, out => by
    rw [opn, opn_sqn r, rp_len, List.length_append, sqn_cons]
    have e : q.lit.data.toList.length = q.lit.size := by simp
    rw [e]
    omega
/-- What the sequences are like. -/
theorem wk_each {s : ByteArray} : ∀ (f i n : Nat), s.size - i ≤ f → ∀ (t : Nat) (q : SQ), (wk s i n).1[t]? = some q → (q.long = 0 ∧ q.dist = 0) ∨ (1 ≤ q.dist ∧ q.dist ≤ n + sqn ((wk s i n).1.take t) + q.lit.size)
  | f, i, n, hf, t, q, h => by
    cases hm : stp s i n with
    | none => rw [wk_no hm] at h; simp at h
    | some r =>
      obtain ⟨q0, k⟩ := r
      have hsp := stp_spec hm
      by_cases h0 : q0.long = 0
      · rw [wk_last hm h0] at h
        cases t with
        | zero =>
          simp at h
          subst h
          exact .inl ⟨h0, (hsp.2.2.2.2.2.1 h0).1⟩
        | succ t => simp at h
      · rw [wk_go hm h0] at h ⊢
        cases t with
        | zero =>
          simp at h
          subst h
          have := hsp.2.2.2.2.2.2 h0
          exact .inr ⟨this.2.1, by simp [sqn]; omega⟩
        | succ t =>
          simp only [List.getElem?_cons_succ] at h
          match f, hf with
          | 0, hf => omega
          | f + 1, hf =>
            rcases wk_each (s := s) f k (n + q0.lit.size + q0.long) (by omega) t q h with h2 | h2
            · exact .inl h2
            · refine .inr ⟨h2.1, ?_⟩
              rw [List.take_succ_cons, sqn_cons]
              omega
section
variable {w : World} {s : ByteArray} {n : Int}
set_option maxRecDepth 100000 in
set_option maxHeartbeats 1600000 in
theorem unp_range (h : ¬ (0 ≤ n ∧ n ≤ 1048576)) : Calls Tryd.prog 44 #[.string s, .int .i64 n] w fun e w' => e = .returned (.tuple #[.string (upS s n), .int .i64 (upC s n)]) ∧ Below w.heap.size w w' := by
  rw [(up_bad h).1, (up_bad h).2]
  have HI := hide (islen_any w n)
  rw [decide_eq_false h] at HI
  clear h
  go_enter Tryd.func44, Tryd.ntmps44
  go_wp2_with fail
  refine HI.out.mono ?_
  rintro _ w2 ⟨rfl, rfl⟩
  go_wp2
  exact bodyPost_ret (v := .tuple #[.string ⟨#[]⟩, .int .i64 1]) (by simp [results, Tryd.results44, go_sem]) rfl ⟨rfl, Below.refl _ _⟩
set_option maxRecDepth 100000 in
set_option maxHeartbeats 1600000 in
theorem unp_none (hs : s.size ≤ 4000) (h : 0 ≤ n ∧ n ≤ 1048576) (hp : ps s = none) : Calls Tryd.prog 44 #[.string s, .int .i64 n] w fun e w' => e = .returned (.tuple #[.string (upS s n), .int .i64 (upC s n)]) ∧ Below w.heap.size w w' := by
  rw [(up_none h hp).1, (up_none h hp).2]
  have HI := hide (islen_any w n)
  rw [decide_eq_true h] at HI
  have HL := hide (length_any (w := w) hs)
  rw [lnV_no hp] at HL
  clear h hp
  go_enter Tryd.func44, Tryd.ntmps44
  go_wp2_with fail
  refine HI.out.mono ?_
  rintro _ w2 ⟨rfl, rfl⟩
  go_wp2_with fail
  refine HL.out.mono ?_
  rintro _ w3 ⟨rfl, hb⟩
  have HB := hide hb
  clear hb
  go_wp2
  exact bodyPost_ret (v := .tuple #[.string ⟨#[]⟩, .int .i64 120]) (by simp [results, Tryd.results44, go_sem]) rfl ⟨rfl, HB.out⟩
set_option maxRecDepth 100000 in
set_option maxHeartbeats 1600000 in
theorem unp_other (hs : s.size ≤ 4000) (h : 0 ≤ n ∧ n ≤ 1048576) {l : List SQ} {t : Nat} (hp : ps s = some (l, t)) (ht : ¬ (t : Int) = n) : Calls Tryd.prog 44 #[.string s, .int .i64 n] w fun e w' => e = .returned (.tuple #[.string (upS s n), .int .i64 (upC s n)]) ∧ Below w.heap.size w w' := by
  rw [(up_other h hp ht).1, (up_other h hp ht).2]
  have HI := hide (islen_any w n)
  rw [decide_eq_true h] at HI
  have HL := hide (length_any (w := w) hs)
  rw [(lnV_some hp).1] at HL
  have hne : ((t : Int) != n) = true := by simpa using ht
  have hne2 : ((t : Int) == n) = false := by simpa using ht
  clear h hp
  go_enter Tryd.func44, Tryd.ntmps44
  go_wp2_with fail
  refine HI.out.mono ?_
  rintro _ w2 ⟨rfl, rfl⟩
  go_wp2_with fail
  refine HL.out.mono ?_
  rintro _ w3 ⟨rfl, hb⟩
  have HB := hide hb
  clear hb
  go_wp2
  exact bodyPost_ret (v := .tuple #[.string ⟨#[]⟩, .int .i64 120]) (by simp [results, Tryd.results44, go_sem]) rfl ⟨rfl, HB.out⟩
set_option maxRecDepth 100000 in
set_option maxHeartbeats 3200000 in
theorem unp_ok (hs : s.size ≤ 4000) {l : List SQ} {t : Nat} (h : t ≤ 1048576) (hp : ps s = some (l, t)) : Calls Tryd.prog 44 #[.string s, .int .i64 (t : Int)] w fun e w' => e = .returned (.tuple #[.string (upS s t), .int .i64 (upC s t)]) ∧ Below w.heap.size w w' := by
  have hr : (0 : Int) ≤ (t : Int) ∧ (t : Int) ≤ 1048576 := ⟨by omega, by omega⟩
  rw [(up_ok hr hp rfl).1, (up_ok hr hp rfl).2]
  have HI := hide (islen_any w t)
  rw [decide_eq_true hr] at HI
  have HL := hide (length_any (w := w) hs)
  obtain ⟨el, ewk⟩ := lnV_some hp
  rw [el] at HL
  have hsq : sqn l = t := by
    have h2 := ps_wk s
    rw [hp, ewk, if_pos rfl] at h2
    simp only [Option.some.injEq, Prod.mk.injEq, true_and] at h2
    exact h2.symm
  have HK := hide ewk
  have heach : Hid (∀ (i : Nat) (q : SQ), l[i]? = some q → (q.long = 0 ∧ q.dist = 0) ∨ (1 ≤ q.dist ∧ q.dist ≤ sqn (l.take i) + q.lit.size)) := fun i q hq => by
    have h2 := wk_each (s := s) s.size 0 0 (by omega) i q (by rw [ewk]; exact hq)
    rw [ewk] at h2
    simpa using h2
  clear hp el ewk hr
  refine (callsIn_wide (n := 0)).1 ?_
  refine callsIn_of_wp_marks Tryd.func44 rfl trivial ?_ rfl
  simp only [Tryd.ntmps44, List.size_toArray, List.length_cons, List.length_nil, Nat.reduceAdd, Nat.reduceSub, Array.replicate_succ, Array.replicate_zero, List.push_toArray, List.append_toArray, List.nil_append, List.cons_append]
  gi_wp2
  refine ⟨trivial, rfl, (callsIn_wide.2 HI.out).mono ?_⟩
  rintro e w0 ⟨rfl, hw0⟩
  replace hw0 := hw0.symm
  subst hw0
  gi_wp2
  refine ⟨trivial, rfl, (callsIn_wide.2 HL.out).mono ?_⟩
  rintro e w1 ⟨rfl, hb1⟩
  obtain ⟨w2, hmk, hB2, hbb2, hs2⟩ := run_makeB2 t (by omega) w1
  obtain ⟨g, hg⟩ : ∃ g, w1.heap.size = g := ⟨_, rfl⟩
  rw [hg] at hmk hB2 hs2
  obtain ⟨w3, hw3⟩ : ∃ w3, w2.alloc (.cells #[.slice (some ⟨g, 0, none⟩) t t] 39) = w3 := ⟨_, rfl⟩
  obtain ⟨w4, hw4⟩ : ∃ w4, w3.alloc (.cells #[.int .i64 0] 3) = w4 := ⟨_, rfl⟩
  have hb3 : Below w2.heap.size w2 w3 := by rw [← hw3]; exact (Below.refl _ _).alloc (Nat.le_refl _) _
  have hb4 : Below w3.heap.size w3 w4 := by rw [← hw4]; exact (Below.refl _ _).alloc (Nat.le_refl _) _
  have hs3 : w3.heap.size = g + 2 := by rw [← hw3]; simp; omega
  have hs4 : w4.heap.size = g + 3 := by rw [← hw4]; simp; omega
  have k3 : w3.heap[g + 1]? = some (.cells #[.slice (some ⟨g, 0, none⟩) t t] 39 (0, 0)) := by rw [← hs2, ← hw3]; exact heap_alloc_new w2 _
  have k4 : w4.heap[g + 2]? = some (.cells #[.int .i64 0] 3 (0, 0)) := by rw [← hs3, ← hw4]; exact heap_alloc_new w3 _
  have hB4 : BQ w4 g (List.replicate t 0) := ((hB2.bel hb3).bel hb4)
  have k34 := (hb4.block (g + 1) (by omega)).trans k3
  have hbw : Below w.heap.size w w4 := below_step (below_step (below_step hb1 hbb2) hb3) hb4
  have hwg : w.heap.size ≤ g := by have := hb1.size; omega
  have H4 := hide (And.intro hB4 (And.intro k34 (And.intro k4 (And.intro hbw (And.intro hs4 hwg)))))
  have HS := hide (And.intro hg (And.intro hs2 hs3))
  have HW := hide (And.intro hw3 hw4)
  have HSQ := hide hsq
  clear hb1 hbb2 hB2 hb3 hb4 hs3 hs4 k3 k4 hB4 k34 hbw hg hs2 HI HL hsq hw3 hw4
  gi_wp2_with (refine in_make_run rfl 39 _ _ rfl _ _ _ rfl rfl hmk ?_)
  rw [HW.out.1, HW.out.2, HS.out.2.1]
  refine ⟨trivial, rfl, (callsIn_wide.2 sequencesf_any).mono ?_⟩
  rintro e w5 ⟨rfl, hw5⟩
  obtain ⟨hB4, k34, k4, hbw, hs4, hwg⟩ := H4.out
  rw [hs4]
  have hB5 : Below w4.heap.size w4 w5 := by rw [hw5]; exact (Below.refl _ _).alloc (Nat.le_refl _) _
  have kx : w5.heap[g + 3]? = some (.cells #[.string s] 9 (0, 0)) := by rw [hw5, ← hs4]; exact heap_alloc_new w4 _
  have hs5 : w5.heap.size = g + 4 := by rw [hw5]; simp; omega
  have HQ := hide (seqs1 kx hs)
  have H5 := hide (And.intro (hB4.bel hB5) (And.intro ((hB5.block (g + 1) (by omega)).trans k34) (And.intro ((hB5.block (g + 2) (by omega)).trans k4) (below_step hbw hB5))))
  clear hw5 hB5 kx hB4 k34 k4 hbw hs4 H4
  gi_wp2
  refine range_n (gf := 71) (lb := #[.pointer (some ⟨g + 3, 0, none⟩)]) rfl (enters_of Tryd.func71 (by kernel_rfl) rfl) HQ.out (fun t vs h => h.size)
    (fun j N W => (∃ L, BQ W g L ∧ L.length = t ∧ L.take (sqn (l.take j)) = opn (l.take j) []) ∧ W.heap[g + 1]? = some (.cells #[.slice (some ⟨g, 0, none⟩) t t] 39 (0, 0)) ∧ W.heap[g + 2]? = some (.cells #[.int .i64 ((sqn (l.take j) : Nat) : Int)] 3 (0, 0)) ∧ j ≤ l.length ∧ (∀ i, N i → g + 4 ≤ i ∧ i < W.heap.size) ∧ g + 4 ≤ W.heap.size ∧ Below w.heap.size w W)
    (fun _ _ _ _ => False)
    ?stb ?stbx ?start
    (RA fun z x q => { tmps := #[.string s, .int .i64 (t : Int), undef, undef, .string ⟨#[]⟩, .int .i64 0, .int .i64 (t : Int), .bool true, .pointer (some ⟨g + 1, 0, none⟩), .pointer (some ⟨g + 1 + 1, 0, none⟩), .pointer (some ⟨z, 0, none⟩), .int .i64 (t : Int), .bool true, .bool false, .tuple #[.int .i64 (t : Int), .bool true], .string s, .tuple #[.int .i64 (t : Int), .bool true], .int .i64 (t : Int), .bool true, .bool true, .bool false, .bool false, .int .i64 (t : Int), .int .i64 (t : Int), .bool false, .bool false, .int .i64 (t : Int), .slice (some ⟨g, 0, none⟩) t t, .string s, .func (.func 71) #[] #[.pointer (some ⟨g + 3, 0, none⟩)], q, .bool x, undef, undef, undef, undef, undef, undef, undef, undef, undef, undef, undef, undef, undef, undef, undef, undef, undef, undef, undef, undef, undef, undef], defers := [] }) (fun g vs a2 W W' h hG => h.gs hG) ?assign ?body ?done ?stop
  case stb =>
    rintro j N N' A A' ⟨⟨L, hB, hl1, hl2⟩, k1, k2, h3, h4, h5, h6⟩ hG hN
    rw [hs5] at hG
    have hsz := hG.size
    have hx : ∀ i, i < g + 4 → ¬ (N i ∨ i = g + 4 ∨ i = g + 4 + 1) := fun i hi e => by
      rcases e with e | e | e
      · have := (h4 i e).1; omega
      · omega
      · omega
    refine ⟨⟨L, hB.gs hG (hx g (by omega)), hl1, hl2⟩, (hG.block _ (lt_of_block k1) (hx (g + 1) (by omega))).trans k1, (hG.block _ (lt_of_block k2) (hx (g + 2) (by omega))).trans k2, h3, fun i e => ?_, by omega, hG.below h6 h6.size (fun i e => ?_)⟩
    · have := (hN i e).1
      rcases (hN i e).2 with h | h
      · exact ⟨(h4 i h).1, this⟩
      · exact ⟨by omega, this⟩
    · rcases e with e | e | e
      · have := (h4 i e).1; omega
      · omega
      · omega
  case stbx => exact fun c t N N' A A' h => h.elim
  case start => exact ⟨⟨_, H5.out.1, by simp, by simp [sqn, opn]⟩, H5.out.2.1, H5.out.2.2.1, Nat.zero_le _, fun i e => e.elim, by omega, H5.out.2.2.2⟩
  case assign =>
    intro l2 j vs W K hc hK
    obtain ⟨L, dd, ll, x, rfl, _⟩ := hc.shape
    obtain ⟨W2, hW2⟩ : ∃ W2, W.alloc (.cells #[.string L, .int .i64 (dd : Int), .int .i64 (ll : Int)] 66) = W2 := ⟨_, rfl⟩
    have hB : Below W.heap.size W W2 := by rw [← hW2]; exact (Below.refl _ _).alloc (Nat.le_refl _) _
    have hq : QB W2 W.heap.size L dd ll := by rw [← hW2]; exact heap_alloc_new W _
    gi_wp2
    refine hK _ _ hB fun L' dd' ll' x' e => ?_
    simp only [Array.mk.injEq, List.cons.injEq, Value.agg.injEq, Value.string.injEq, Value.int.injEq, Value.bool.injEq, and_true, true_and, Int.natCast_inj] at e
    obtain ⟨⟨rfl, rfl, rfl⟩, rfl⟩ := e
    exact ⟨rfl, hq⟩
  case body =>
    rintro l2 j N vs V z a2 ⟨⟨L, hB, hl1, hl2⟩, k1, k2, h3, h4, h5, h6⟩ hc hA hg1 hg2 hN
    obtain ⟨L0, dd, ll, x, rfl, hx⟩ := hc.shape
    obtain ⟨rfl, hq⟩ := hA _ _ _ _ rfl
    rw [hs5] at hN hg1 ⊢
    rw [HK.out] at hx
    rcases hx with ⟨rfl, hx⟩ | ⟨_, hx⟩
    · have hst := sqn_take hx
      simp only at hst
      have hle := sqn_le l (j + 1)
      have hjl : j + 1 ≤ l.length := (List.getElem?_eq_some_iff.1 hx).1
      obtain ⟨a, ha⟩ : ∃ a, sqn (l.take j) = a := ⟨_, rfl⟩
      obtain ⟨a2, ha2⟩ : ∃ a2, sqn (l.take (j + 1)) = a2 := ⟨_, rfl⟩
      obtain ⟨a1, ha1⟩ : ∃ a1, a1 = a + L0.size := ⟨_, rfl⟩
      have hot := opn_take hx []
      simp only at hot
      have hea := heach.out j ⟨L0, dd, ll⟩ hx
      simp only at hea
      rw [ha] at hl2 k2 hst hea
      rw [ha2] at hst hle
      rw [HSQ.out] at hle
      obtain ⟨y, hy⟩ : ∃ y, y = if a = t then 0 else a := ⟨_, rfl⟩
      have hsl : ∀ w : World, (Instr.slice 39 (.slice (some ⟨g, 0, none⟩) t t) (some (.int .i64 (a : Int))) none none).run Tryd.prog w = .ok (.slice (some ⟨g, y, none⟩) (t - a) (t - a)) w := fun w => by
        rw [run_slice_l (P := Tryd.prog) (w := w) 39 _ _ _ Tryd.underlying39 .i64 (a : Int) (by omega) (by omega)]
        by_cases e : a = t
        · rw [if_pos e] at hy
          subst e; subst hy
          simp [go_sem, sliced]
        · rw [if_neg e] at hy
          have e2 : ¬ t = a := fun h => e h.symm
          rw [hy]
          simp [go_sem, sliced, e2]
      have hyL : y + L0.size ≤ L.length := by rw [hy]; split <;> omega
      have hBd : BQ V.drew g L := hB
      obtain ⟨V2, hcp, hB2, hG2⟩ := cpy_str hBd (y := y) (dl := t - a) (dc := t - a) L0 (by omega) hyL
      have hLz : L0.data.toList.length = L0.size := by simp
      have hcpL : cpL L y L0.data.toList = cpL L a L0.data.toList := by
        rw [hy]
        split
        · rename_i e
          have h0 : L0.data.toList = [] := List.length_eq_zero_iff.1 (by omega)
          rw [h0, cpL, cpL]
          simp
        · rfl
      rw [hcpL] at hB2
      have hG2' : Gs (fun i => i = g) V V2 := ⟨hG2.os, hG2.tape, hG2.output, hG2.size, hG2.block⟩
      obtain ⟨L1, hL1⟩ : ∃ L1, L1 = cpL L a L0.data.toList := ⟨_, rfl⟩
      rw [← hL1] at hB2
      have hL1l : L1.length = t := by rw [hL1, cpL_len (by omega), hl1]
      have hL1t : L1.take a1 = opn (l.take j) [] ++ L0.data.toList := by
        rw [hL1, cpL, ← hl2, ha1, ← hLz]
        exact List.take_left' (by rw [List.length_append, List.length_take]; omega)
      have m1 := (hG2'.block (g + 1) (lt_of_block k1) (by omega)).trans k1
      have m2 := (hG2'.block (g + 2) (lt_of_block k2) (by omega)).trans k2
      have mq := (hG2'.block z (lt_of_block hq) (by omega)).trans hq
      have HS1 : Hid (V.drew.cell? ⟨g + 1 + 1, 0, none⟩ = some (.int .i64 (a : Int)) ∧ V.drew.cell? ⟨g + 1, 0, none⟩ = some (.slice (some ⟨g, 0, none⟩) t t) ∧ V.drew.cell? ⟨z, 0, none⟩ = some (.string L0) ∧ True) := ⟨(cell1 k2).1, (cell1 k1).1, (cell3 hq).1, trivial⟩
      have HS2 : Hid (V2.cell? ⟨g + 1 + 1, 0, none⟩ = some (.int .i64 (a : Int)) ∧ V2.cell? ⟨g + 1, 0, none⟩ = some (.slice (some ⟨g, 0, none⟩) t t) ∧ V2.cell? ⟨z, 0, none⟩ = some (.string L0) ∧ True) := ⟨(cell1 m2).1, (cell1 m1).1, (cell3 mq).1, trivial⟩
      have hst3 := sto_one (cell1 m2).1 (cell1 m2).2 (a1 : Int)
      obtain ⟨V3, hV3⟩ : ∃ V3, V2.setCell ⟨g + 1 + 1, 0, none⟩ (.int .i64 (a1 : Int)) = V3 := ⟨_, rfl⟩
      rw [hV3] at hst3
      have hG3 : Gs (fun i => i = g + 2) V2 V3 := by rw [← hV3]; exact (Gs.refl (fun i => i = g + 2) _).set (a := ⟨g + 1 + 1, 0, none⟩) (.inl rfl) _
      have n1 := (hG3.block (g + 1) (lt_of_block m1) (by omega)).trans m1
      have n2 : V3.heap[g + 2]? = some (.cells #[.int .i64 (a1 : Int)] 3 (0, 0)) := by rw [← hV3]; exact heap_set_self m2
      have nq := (hG3.block z (lt_of_block mq) (by omega)).trans mq
      have hB3 : BQ V3 g L1 := hB2.gs hG3 (by omega)
      have hGV3 : Gs (fun i => i = g ∨ i = g + 2) V V3 := (hG2'.mono fun i _ e => .inl e).trans (hG3.mono fun i _ e => .inr e)
      have e1 : (a : Int) + (L0.size : Int) = (a1 : Int) := by omega
      have e2 : IntKind.i64.wrap (a1 : Int) = (a1 : Int) := by rw [IntKind.wrap_i64]; omega
      have e3 : (a1 : Int) + (ll : Int) = (a2 : Int) := by omega
      have e4 : IntKind.i64.wrap (a2 : Int) = (a2 : Int) := by rw [IntKind.wrap_i64]; omega
      have e5 : (a2 : Int) ≤ (t : Int) := by omega
      have HR : Hid (Calls Tryd.prog 61 #[.slice (some ⟨g, 0, none⟩) a2 t, .int .i64 (a1 : Int), .int .i64 (dd : Int)] V3.drew fun e w' => e = .returned (.int .i64 (ll : Int)) ∧ ∃ L2, BQ w' g L2 ∧ L2.length = t ∧ L2.take a2 = opn (l.take (j + 1)) [] ∧ Gs (fun i => i = g) V3 w') := by
        have hB3d : BQ V3.drew g L1 := hB3
        rcases hea with ⟨z1, z2⟩ | ⟨z1, z2⟩
        · subst z1; subst z2
          refine (repeat_none (w := V3.drew) (g := g) (at_ := a1) (n := a2) (d := 0) (c := t) (by omega) (Nat.zero_le _) (by omega)).mono ?_
          rintro e w' ⟨rfl, rfl⟩
          refine ⟨rfl, L1, hB3d, hL1l, ?_, ⟨rfl, rfl, rfl, Nat.le_refl _, fun _ _ _ => rfl⟩⟩
          rw [hot, ← hL1t]
          rw [show a2 = a1 by omega]
          rfl
        · refine (repeat_any hB3d (at_ := a1) (n := a2) (d := dd) (c := t) (by omega) (by omega) z1 (by omega) (by omega) (by omega)).mono ?_
          rintro e w' ⟨rfl, L2, b1, b2, b3, b4⟩
          have hll : a2 - a1 = ll := by omega
          rw [hll] at b3
          refine ⟨by rw [hll], L2, b1, by rw [b2, hL1l], ?_, ⟨b4.os, b4.tape, b4.output, b4.size, b4.block⟩⟩
          rw [b3, hL1t, hot]
      have H3 := hide (And.intro hB3 (And.intro n1 (And.intro n2 (And.intro nq hGV3))))
      have hnp : ¬ N g ∧ ¬ N (g + 1) ∧ ¬ N (g + 2) := ⟨fun e => by have := (h4 _ e).1; omega, fun e => by have := (h4 _ e).1; omega, fun e => by have := (h4 _ e).1; omega⟩
      have HI := hide (And.intro hnp (And.intro h4 (And.intro h5 (And.intro h6 (And.intro ha2 (And.intro hjl hg1))))))
      have hzg : z ≠ g ∧ z ≠ g + 1 ∧ z ≠ g + 2 := by omega
      clear hB hl1 hl2 k1 k2 h3 h4 h5 h6 hc hA hq hx hst hle ha ha2 ha1 hot hea hy hyL hBd hB2 hG2 hcpL hG2' hL1 hL1l hL1t m1 m2 mq hV3 hG3 n1 n2 nq hB3 hGV3 hjl hnp hN hg1 hg2 hLz
      gi_wp2
      refine AnyZ.round (z := 8) (S := fun w' => w'.cell? ⟨g + 1 + 1, 0, none⟩ = some (.int .i64 (a : Int)) ∧ w'.cell? ⟨g + 1, 0, none⟩ = some (.slice (some ⟨g, 0, none⟩) t t) ∧ w'.cell? ⟨z, 0, none⟩ = some (.string L0) ∧ True) (by rintro ⟨_, _, h⟩; exact h) (by kernel_rfl) (by kernel_rfl) ?_
      have hHeld := HS1.out
      refine AnyZ.take (i := 0) (d := 32) (v := .int .i64 (a : Int)) rfl rfl (by kernel_rfl) (by kernel_rfl) (by kernel_rfl) (by kernel_rfl) (fun _ _ _ h => h) (Or.inl ⟨by rfl, fun w' hSw => ?_⟩) hHeld ?_
      · obtain ⟨_, _, _, _⟩ := hSw
        go_simp
      try simp only [List.setIfInBounds_toArray, List.set_cons_zero, List.set_cons_succ]
      refine AnyZ.take (i := 1) (d := 33) (v := .slice (some ⟨g, 0, none⟩) t t) rfl rfl (by kernel_rfl) (by kernel_rfl) (by kernel_rfl) (by kernel_rfl) (fun _ _ _ h => h) (Or.inl ⟨by rfl, fun w' hSw => ?_⟩) hHeld ?_
      · obtain ⟨_, _, _, _⟩ := hSw
        go_simp
      try simp only [List.setIfInBounds_toArray, List.set_cons_zero, List.set_cons_succ]
      refine AnyZ.take (i := 2) (d := 34) (v := .int .i64 (a : Int)) rfl rfl (by kernel_rfl) (by kernel_rfl) (by kernel_rfl) (by kernel_rfl) (fun _ _ _ h => h) (Or.inl ⟨by rfl, fun w' hSw => ?_⟩) hHeld ?_
      · obtain ⟨_, _, _, _⟩ := hSw
        go_simp
      try simp only [List.setIfInBounds_toArray, List.set_cons_zero, List.set_cons_succ]
      refine AnyZ.take (i := 3) (d := 35) (v := .slice (some ⟨g, y, none⟩) (t - a) (t - a)) rfl rfl (by kernel_rfl) (by kernel_rfl) (by kernel_rfl) (by kernel_rfl) (fun _ _ _ h => h) (Or.inl ⟨by rfl, fun w' hSw => ?_⟩) hHeld ?_
      · obtain ⟨_, _, _, _⟩ := hSw
        go_simp
      try simp only [List.setIfInBounds_toArray, List.set_cons_zero, List.set_cons_succ]
      refine AnyZ.take (i := 4) (d := 36) (v := .pointer (some ⟨z, 0, none⟩)) rfl rfl (by kernel_rfl) (by kernel_rfl) (by kernel_rfl) (by kernel_rfl) (fun _ _ _ h => h) (Or.inl ⟨by rfl, fun w' hSw => ?_⟩) hHeld ?_
      · obtain ⟨_, _, _, _⟩ := hSw
        go_simp
      try simp only [List.setIfInBounds_toArray, List.set_cons_zero, List.set_cons_succ]
      refine AnyZ.take (i := 5) (d := 37) (v := .string L0) rfl rfl (by kernel_rfl) (by kernel_rfl) (by kernel_rfl) (by kernel_rfl) (fun _ _ _ h => h) (Or.inl ⟨by rfl, fun w' hSw => ?_⟩) hHeld ?_
      · obtain ⟨_, _, _, _⟩ := hSw
        go_simp
      try simp only [List.setIfInBounds_toArray, List.set_cons_zero, List.set_cons_succ]
      refine AnyZ.one (i := 6) (by kernel_rfl) rfl fun K hK => ?_
      refine step_copy_run rfl (some 38) rfl _ _ 39 9 rfl _ _ rfl rfl _ _ hcp ?_
      refine hK.out _ _ (fun _ => HS2.out) (fun hHeld2 => ?_)
      clear hK K
      have hHeld := HS2.out
      try simp only [Act.put, List.setIfInBounds_toArray, List.set_cons_zero, List.set_cons_succ]
      refine AnyZ.take (i := 7) (d := 39) (v := .int .i64 (a1 : Int)) rfl rfl (by kernel_rfl) (by kernel_rfl) (by kernel_rfl) (by kernel_rfl) (fun _ _ _ h => h) (Or.inl ⟨by rfl, fun w' hSw => ?_⟩) hHeld ?_
      · obtain ⟨_, _, _, _⟩ := hSw
        go_simp
      try simp only [List.setIfInBounds_toArray, List.set_cons_zero, List.set_cons_succ]
      refine AnyZ.one (i := 8) (by kernel_rfl) rfl fun K hK => ?_
      refine step_store_run rfl 3 _ _ rfl _ _ rfl rfl V3 hst3 ?_
      refine hK.out _ _ (fun h => absurd rfl h) (fun _ => ?_)
      clear hK K
      try simp only [Act.put]
      refine AnyZ.done (by kernel_rfl) ?_ _
      clear hsl hcp hHeld hst3
      gi_wp2
      have hsl : ∀ w : World, (Instr.slice 39 (.slice (some ⟨g, 0, none⟩) t t) none (some (.int .i64 (a2 : Int))) none).run Tryd.prog w = .ok (.slice (some ⟨g, 0, none⟩) a2 t) w := fun w => by
        simp [go_sem, Tryd.underlying39, e5]
      have HS3 : Hid (V3.drew.cell? ⟨g + 1 + 1, 0, none⟩ = some (.int .i64 (a1 : Int)) ∧ V3.drew.cell? ⟨g + 1, 0, none⟩ = some (.slice (some ⟨g, 0, none⟩) t t) ∧ V3.drew.cell? ⟨z, 1, none⟩ = some (.int .i64 (dd : Int)) ∧ V3.drew.cell? ⟨z, 2, none⟩ = some (.int .i64 (ll : Int))) := ⟨(cell1 H3.out.2.2.1).1, (cell1 H3.out.2.1).1, (cell3 H3.out.2.2.2.1).2.1, (cell3 H3.out.2.2.2.1).2.2⟩
      refine AnyZ.round (z := 12) (S := fun w' => w'.cell? ⟨g + 1 + 1, 0, none⟩ = some (.int .i64 (a1 : Int)) ∧ w'.cell? ⟨g + 1, 0, none⟩ = some (.slice (some ⟨g, 0, none⟩) t t) ∧ w'.cell? ⟨z, 1, none⟩ = some (.int .i64 (dd : Int)) ∧ w'.cell? ⟨z, 2, none⟩ = some (.int .i64 (ll : Int))) (by rintro ⟨_, _, h⟩; exact h) (by kernel_rfl) (by kernel_rfl) ?_
      have hHeld := HS3.out
      refine AnyZ.take (i := 0) (d := 40) (v := .int .i64 (a1 : Int)) rfl rfl (by kernel_rfl) (by kernel_rfl) (by kernel_rfl) (by kernel_rfl) (fun _ _ _ h => h) (Or.inl ⟨by rfl, fun w' hSw => ?_⟩) hHeld ?_
      · obtain ⟨_, _, _, _⟩ := hSw
        go_simp
      try simp only [List.setIfInBounds_toArray, List.set_cons_zero, List.set_cons_succ]
      refine AnyZ.take (i := 1) (d := 41) (v := .slice (some ⟨g, 0, none⟩) t t) rfl rfl (by kernel_rfl) (by kernel_rfl) (by kernel_rfl) (by kernel_rfl) (fun _ _ _ h => h) (Or.inl ⟨by rfl, fun w' hSw => ?_⟩) hHeld ?_
      · obtain ⟨_, _, _, _⟩ := hSw
        go_simp
      try simp only [List.setIfInBounds_toArray, List.set_cons_zero, List.set_cons_succ]
      refine AnyZ.take (i := 2) (d := 42) (v := .int .i64 (a1 : Int)) rfl rfl (by kernel_rfl) (by kernel_rfl) (by kernel_rfl) (by kernel_rfl) (fun _ _ _ h => h) (Or.inl ⟨by rfl, fun w' hSw => ?_⟩) hHeld ?_
      · obtain ⟨_, _, _, _⟩ := hSw
        go_simp
      try simp only [List.setIfInBounds_toArray, List.set_cons_zero, List.set_cons_succ]
      refine AnyZ.take (i := 3) (d := 43) (v := .pointer (some ⟨z, 2, none⟩)) rfl rfl (by kernel_rfl) (by kernel_rfl) (by kernel_rfl) (by kernel_rfl) (fun _ _ _ h => h) (Or.inl ⟨by rfl, fun w' hSw => ?_⟩) hHeld ?_
      · obtain ⟨_, _, _, _⟩ := hSw
        go_simp
      try simp only [List.setIfInBounds_toArray, List.set_cons_zero, List.set_cons_succ]
      refine AnyZ.take (i := 4) (d := 44) (v := .int .i64 (ll : Int)) rfl rfl (by kernel_rfl) (by kernel_rfl) (by kernel_rfl) (by kernel_rfl) (fun _ _ _ h => h) (Or.inl ⟨by rfl, fun w' hSw => ?_⟩) hHeld ?_
      · obtain ⟨_, _, _, _⟩ := hSw
        go_simp
      try simp only [List.setIfInBounds_toArray, List.set_cons_zero, List.set_cons_succ]
      refine AnyZ.take (i := 5) (d := 45) (v := .int .i64 (a2 : Int)) rfl rfl (by kernel_rfl) (by kernel_rfl) (by kernel_rfl) (by kernel_rfl) (fun _ _ _ h => h) (Or.inl ⟨by rfl, fun w' hSw => ?_⟩) hHeld ?_
      · obtain ⟨_, _, _, _⟩ := hSw
        go_simp
      try simp only [List.setIfInBounds_toArray, List.set_cons_zero, List.set_cons_succ]
      refine AnyZ.take (i := 6) (d := 46) (v := .slice (some ⟨g, 0, none⟩) a2 t) rfl rfl (by kernel_rfl) (by kernel_rfl) (by kernel_rfl) (by kernel_rfl) (fun _ _ _ h => h) (Or.inl ⟨by rfl, fun w' hSw => ?_⟩) hHeld ?_
      · obtain ⟨_, _, _, _⟩ := hSw
        go_simp
      try simp only [List.setIfInBounds_toArray, List.set_cons_zero, List.set_cons_succ]
      refine AnyZ.take (i := 7) (d := 47) (v := .int .i64 (a1 : Int)) rfl rfl (by kernel_rfl) (by kernel_rfl) (by kernel_rfl) (by kernel_rfl) (fun _ _ _ h => h) (Or.inl ⟨by rfl, fun w' hSw => ?_⟩) hHeld ?_
      · obtain ⟨_, _, _, _⟩ := hSw
        go_simp
      try simp only [List.setIfInBounds_toArray, List.set_cons_zero, List.set_cons_succ]
      refine AnyZ.take (i := 8) (d := 48) (v := .pointer (some ⟨z, 1, none⟩)) rfl rfl (by kernel_rfl) (by kernel_rfl) (by kernel_rfl) (by kernel_rfl) (fun _ _ _ h => h) (Or.inl ⟨by rfl, fun w' hSw => ?_⟩) hHeld ?_
      · obtain ⟨_, _, _, _⟩ := hSw
        go_simp
      try simp only [List.setIfInBounds_toArray, List.set_cons_zero, List.set_cons_succ]
      refine AnyZ.take (i := 9) (d := 49) (v := .int .i64 (dd : Int)) rfl rfl (by kernel_rfl) (by kernel_rfl) (by kernel_rfl) (by kernel_rfl) (fun _ _ _ h => h) (Or.inl ⟨by rfl, fun w' hSw => ?_⟩) hHeld ?_
      · obtain ⟨_, _, _, _⟩ := hSw
        go_simp
      try simp only [List.setIfInBounds_toArray, List.set_cons_zero, List.set_cons_succ]
      refine AnyZ.one (i := 10) (by kernel_rfl) rfl fun K hK => ?_
      go_simp
      refine HR.out.mono ?_
      rintro e V4 ⟨rfl, L2, hB4, hl4, hp4, hG4⟩
      have HS4 : Hid (V4.cell? ⟨g + 1 + 1, 0, none⟩ = some (.int .i64 (a1 : Int)) ∧ V4.cell? ⟨g + 1, 0, none⟩ = some (.slice (some ⟨g, 0, none⟩) t t) ∧ V4.cell? ⟨z, 1, none⟩ = some (.int .i64 (dd : Int)) ∧ V4.cell? ⟨z, 2, none⟩ = some (.int .i64 (ll : Int))) := ⟨(cell1 ((hG4.block (g + 2) (lt_of_block H3.out.2.2.1) (by omega)).trans H3.out.2.2.1)).1, (cell1 ((hG4.block (g + 1) (lt_of_block H3.out.2.1) (by omega)).trans H3.out.2.1)).1, (cell3 ((hG4.block z (lt_of_block H3.out.2.2.2.1) (by omega)).trans H3.out.2.2.2.1)).2.1, (cell3 ((hG4.block z (lt_of_block H3.out.2.2.2.1) (by omega)).trans H3.out.2.2.2.1)).2.2⟩
      refine hK.out _ _ (fun _ => HS4.out) (fun hHeld2 => ?_)
      clear hK K
      have hHeld := HS4.out
      have f4 := (cell1 ((hG4.block (g + 2) (lt_of_block H3.out.2.2.1) (by omega)).trans H3.out.2.2.1)).2
      have H4 := hide (And.intro hB4 (And.intro hl4 (And.intro hp4 hG4)))
      clear hB4 hl4 hp4 hG4
      try simp only [Act.put, List.setIfInBounds_toArray, List.set_cons_zero, List.set_cons_succ]
      refine AnyZ.take (i := 11) (d := 51) (v := .int .i64 (a2 : Int)) rfl rfl (by kernel_rfl) (by kernel_rfl) (by kernel_rfl) (by kernel_rfl) (fun _ _ _ h => h) (Or.inl ⟨by rfl, fun w' hSw => ?_⟩) hHeld ?_
      · obtain ⟨_, _, _, _⟩ := hSw
        go_simp
      try simp only [List.setIfInBounds_toArray, List.set_cons_zero, List.set_cons_succ]
      refine AnyZ.one (i := 12) (by kernel_rfl) rfl fun K hK => ?_
      have hst5 := sto_one (hHeld.1) f4 (a2 : Int)
      refine step_store_run rfl 3 _ _ rfl _ _ rfl rfl _ hst5 ?_
      refine hK.out _ _ (fun h => absurd rfl h) (fun _ => ?_)
      clear hK K
      try simp only [Act.put]
      refine AnyZ.done (by kernel_rfl) ?_ _
      clear hsl hHeld
      obtain ⟨hB4, hl4, hp4, hG4⟩ := H4.out
      obtain ⟨hB3, n1, n2, nq, hGV3⟩ := H3.out
      obtain ⟨⟨p1, p2, p3⟩, q4, q5, q6, qa2, qjl, _⟩ := HI.out
      obtain ⟨V5, hV5⟩ : ∃ V5, V4.setCell ⟨g + 1 + 1, 0, none⟩ (.int .i64 (a2 : Int)) = V5 := ⟨_, rfl⟩
      have o1 := (hG4.block (g + 1) (lt_of_block n1) (by omega)).trans n1
      have o2 := (hG4.block (g + 2) (lt_of_block n2) (by omega)).trans n2
      have hG5 : Gs (fun i => i = g + 2) V4 V5 := by rw [← hV5]; exact (Gs.refl (fun i => i = g + 2) _).set (a := ⟨g + 1 + 1, 0, none⟩) (.inl rfl) _
      have k5 : V5.heap[g + 2]? = some (.cells #[.int .i64 (a2 : Int)] 3 (0, 0)) := by rw [← hV5]; exact heap_set_self o2
      have hGz : Gs (fun i => i = g ∨ i = g + 2) V V5 := (hGV3.trans (hG4.mono fun i _ e => .inl e)).trans (hG5.mono fun i _ e => .inr e)
      have HE : Hid (Gs (fun i => ¬ N i ∧ i ≠ g + 4 ∧ i ≠ g + 4 + 1) V V5 ∧ (∃ L, BQ V5 g L ∧ L.length = t ∧ L.take (sqn (l.take (j + 1))) = opn (l.take (j + 1)) []) ∧ V5.heap[g + 1]? = some (.cells #[.slice (some ⟨g, 0, none⟩) t t] 39 (0, 0)) ∧ V5.heap[g + 2]? = some (.cells #[.int .i64 ((sqn (l.take (j + 1)) : Nat) : Int)] 3 (0, 0)) ∧ j + 1 ≤ l.length ∧ (∀ i, N i → g + 4 ≤ i ∧ i < V5.heap.size) ∧ g + 4 ≤ V5.heap.size ∧ Below w.heap.size w V5) :=
        ⟨hGz.mono fun i _ e => by rcases e with rfl | rfl; exact ⟨p1, by omega, by omega⟩; exact ⟨p3, by omega, by omega⟩, ⟨L2, hB4.gs hG5 (by omega), hl4, by rw [qa2]; exact hp4⟩, (hG5.block _ (lt_of_block o1) (by omega)).trans o1, by rw [qa2]; exact k5, qjl, fun i e => ⟨(q4 i e).1, by have := (q4 i e).2; have := hGz.size; omega⟩, by have := hGz.size; omega, hGz.below q6 q6.size (fun i e => by omega)⟩
      rw [hV5]
      clear hB4 hl4 hp4 hG4 hB3 n1 n2 nq hGV3 p1 p2 p3 q4 q5 q6 qa2 qjl o1 o2 hG5 k5 hGz hV5
      gi_wp2
      exact HE.out
    · cases hx
  case done =>
    rintro E j N W hE hS ⟨⟨L, hB, hl1, hl2⟩, k1, k2, h3, h4, h5, h6⟩ hd
    have hS' : j = _ := hS
    rw [HK.out] at hS'
    have hED : E = g + 4 := hE.trans hs5
    obtain rfl : j = l.length := hS'
    rw [List.take_length, HSQ.out, ← hl1, List.take_length] at hl2
    have y1 := (cell1 k1).1
    have hcv := hB.str t
    rw [hl1] at hcv
    obtain ⟨U, hU⟩ : ∃ U, U = W.putObj E (.deferred none) := ⟨_, rfl⟩
    have hg9 : Gs (fun i => i = E) W U := by rw [hU]; exact gs_putObj
    have HE : Hid (L = opn l [] ∧ Below w.heap.size w U) := ⟨hl2, hg9.below h6 h6.size (fun i hi => by omega)⟩
    have HU := hide hU
    clear hB hl1 hl2 k1 k2 h3 h4 h5 h6 hS hE hED hg9 hU
    gi_wp2
    refine ⟨by simp, .inl ⟨_, _, rfl, run_takeDeferred hd, ?_⟩⟩
    rw [← HU.out]
    refine ⟨.tuple #[.string ⟨L.toArray⟩, .int .i64 0], by simp [results, Tryd.results44, go_sem], ?_⟩
    exact ⟨by rw [HE.out.1], HE.out.2⟩
  case stop => exact fun E c t N W _ _ h => h.elim
theorem unpC : UnpackC (fun _ => True) := fun w s n _ hs => by
  by_cases h : 0 ≤ n ∧ n ≤ 1048576
  · rcases hp : ps s with _ | ⟨l, t⟩
    · exact unp_none hs h hp
    · by_cases ht : (t : Int) = n
      · subst ht
        exact unp_ok hs (by omega) hp
      · exact unp_other hs h hp ht
  · exact unp_range h
end
end Go.Proofs.YtgigiamnhjelmaaDoor
