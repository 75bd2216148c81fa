/-
  Lz: how many bytes a block unpacks to, by the program.
-/
import Derived.Test.YtgigiamnhjelmaaDoorLpIter
namespace Go.Proofs.YtgigiamnhjelmaaDoor
open Go.RowKit Go.Lib Go.Shelf
attribute [local go_sem] Oper.semAt_some
/-- How many bytes there are, if it is a block. -/
def lnV (s : ByteArray) : Value := .tuple #[.int .i64 ((if (wk s 0 0).2 = true then sqn (wk s 0 0).1 else 0 : Nat) : Int), .bool (wk s 0 0).2]
theorem sqn_take {l : List SQ} {t : Nat} {q : SQ} (h : l[t]? = some q) : sqn (l.take (t + 1)) = sqn (l.take t) + (q.lit.size + q.long) := by
  rw [List.take_add_one, h, sqn, sqn, Option.toList_some, List.map_append, List.sum_append]
  simp
theorem sqn_le : ∀ (l : List SQ) (t : Nat), sqn (l.take t) ≤ sqn l
  | [], _ => by simp [sqn]
  | _ :: _, 0 => Nat.zero_le _
  | q :: r, t + 1 => by
    have := sqn_le r t
    rw [List.take_succ_cons, sqn_cons, sqn_cons]
    omega
theorem wk_sqn {s : ByteArray} : ∀ (f i n : Nat), s.size - i ≤ f → sqn (wk s i n).1 ≤ 289 * (s.size - i)
  | f, i, n, hf => by
    cases hm : stp s i n with
    | none => rw [wk_no hm]; exact Nat.zero_le _
    | some r =>
      obtain ⟨q, k⟩ := r
      have hsp := stp_spec hm
      by_cases h0 : q.long = 0
      · rw [wk_last hm h0]
        show sqn [q] ≤ _
        rw [sqn_cons]
        show q.lit.size + q.long + 0 ≤ _
        omega
      · rw [wk_go hm h0]
        show sqn (q :: _) ≤ _
        rw [sqn_cons]
        match f, hf with
        | 0, hf => omega
        | f + 1, hf =>
          have := wk_sqn (s := s) f k (n + q.lit.size + q.long) (by omega)
          omega
theorem wk_len {s : ByteArray} : ∀ (f i n : Nat), s.size - i ≤ f → (wk s i n).1.length ≤ s.size - i
  | f, i, n, hf => by
    cases hm : stp s i n with
    | none => rw [wk_no hm]; exact Nat.zero_le _
    | some r =>
      obtain ⟨q, k⟩ := r
      have hsp := stp_spec hm
      by_cases h0 : q.long = 0
      · rw [wk_last hm h0]
        show 1 ≤ _
        omega
      · rw [wk_go hm h0]
        show (q :: _).length ≤ _
        rw [List.length_cons]
        match f, hf with
        | 0, hf => omega
        | f + 1, hf =>
          have := wk_len (s := s) f k (n + q.lit.size + q.long) (by omega)
          omega
theorem lt_of_block' {w : World} {b : Nat} {o : Obj} (h : w.heap[b]? = some o) : b < w.heap.size := (Array.getElem?_eq_some_iff.1 h).1
theorem two_boxes {w : World} {b : Nat} {v0 v1 : Value} {T0 T1 : TypeId} (h0 : w.heap[b]? = some (.cells #[v0] T0 (0, 0))) (h1 : w.heap[b + 1]? = some (.cells #[v1] T1 (0, 0))) (x y : Value) :
    (w.cell? ⟨b, 0, none⟩ = some v0 ∧ w.frozen? ⟨b, 0, none⟩ = false) ∧ ((w.setCell ⟨b, 0, none⟩ x).cell? ⟨b + 1, 0, none⟩ = some v1 ∧ (w.setCell ⟨b, 0, none⟩ x).frozen? ⟨b + 1, 0, none⟩ = false) ∧
    ((w.setCell ⟨b, 0, none⟩ x).setCell ⟨b + 1, 0, none⟩ y).heap[b]? = some (.cells #[x] T0 (0, 0)) ∧ ((w.setCell ⟨b, 0, none⟩ x).setCell ⟨b + 1, 0, none⟩ y).heap[b + 1]? = some (.cells #[y] T1 (0, 0)) ∧ Gs (fun i => i = b ∨ i = b + 1) w ((w.setCell ⟨b, 0, none⟩ x).setCell ⟨b + 1, 0, none⟩ y) := by
  have hG1 : Gs (fun i => i = b) w (w.setCell ⟨b, 0, none⟩ x) := (Gs.refl (fun i => i = b) _).set (a := ⟨b, 0, none⟩) (.inl rfl) _
  have k0 : (w.setCell ⟨b, 0, none⟩ x).heap[b]? = some (.cells #[x] T0 (0, 0)) := heap_set_self h0
  have k1 : (w.setCell ⟨b, 0, none⟩ x).heap[b + 1]? = some (.cells #[v1] T1 (0, 0)) := (hG1.block _ (lt_of_block h1) (by omega)).trans h1
  have hG2 : Gs (fun i => i = b + 1) (w.setCell ⟨b, 0, none⟩ x) ((w.setCell ⟨b, 0, none⟩ x).setCell ⟨b + 1, 0, none⟩ y) := (Gs.refl (fun i => i = b + 1) _).set (a := ⟨b + 1, 0, none⟩) (.inl rfl) _
  exact ⟨cell1 h0, cell1 k1, (hG2.block _ (lt_of_block k0) (by omega)).trans k0, heap_set_self k1, (hG1.mono fun i _ e => .inl e).trans (hG2.mono fun i _ e => .inr e)⟩
/-- The slots of a round: the sequence lies at g. -/
def RA (sl : Nat → Bool → Value → Act) (g : Nat) (vs : Array Value) (a2 : Act) (W : World) : Prop := ∀ (L : ByteArray) (dd ll : Nat) (x : Bool), vs = #[.agg #[.string L, .int .i64 (dd : Int), .int .i64 (ll : Int)], .bool x] → a2 = sl g x (.agg #[.string L, .int .i64 (dd : Int), .int .i64 (ll : Int)]) ∧ QB W g L dd ll
theorem RA.gs {sl : Nat → Bool → Value → Act} {g : Nat} {vs : Array Value} {a2 : Act} {W W' : World} (h : RA sl g vs a2 W) (hG : Gs (fun i => i < g) W W') : RA sl g vs a2 W' := fun L dd ll x e => by
  obtain ⟨h1, h2⟩ := h L dd ll x e
  exact ⟨h1, (hG.block g (lt_of_block h2) (by omega)).trans h2⟩
theorem CQ.size {s : ByteArray} {t : Nat} {vs : Array Value} (h : CQ s t vs) : vs.size = 2 := by
  rcases h with ⟨q, _, rfl⟩ | ⟨_, _, q, rfl⟩
  · rfl
  · rfl
theorem CQ.shape {s : ByteArray} {t : Nat} {vs : Array Value} (h : CQ s t vs) : ∃ (L : ByteArray) (dd ll : Nat) (x : Bool), vs = #[.agg #[.string L, .int .i64 (dd : Int), .int .i64 (ll : Int)], .bool x] ∧ ((x = true ∧ (wk s 0 0).1[t]? = some ⟨L, dd, ll⟩) ∨ (x = false ∧ (wk s 0 0).2 = false)) := by
  rcases h with ⟨⟨L, dd, ll⟩, h1, rfl⟩ | ⟨h1, _, ⟨L, dd, ll⟩, rfl⟩
  · exact ⟨L, dd, ll, true, rfl, .inl ⟨rfl, h1⟩⟩
  · exact ⟨L, dd, ll, false, rfl, .inr ⟨rfl, h1⟩⟩
section
variable {w : World} {s : ByteArray}
set_option maxRecDepth 100000 in
set_option maxHeartbeats 1600000 in
theorem length_any (hs : s.size ≤ 4000) : Calls Tryd.prog 59 #[.string s] w fun e w' => e = .returned (lnV s) ∧ Below w.heap.size w w' := by
  obtain ⟨p, hp⟩ : ∃ p, w.heap.size = p := ⟨_, rfl⟩
  obtain ⟨w1, hw1⟩ : ∃ w1, (w.alloc (.cells #[.int .i64 0] 3)).alloc (.cells #[.bool false] 4) = w1 := ⟨_, rfl⟩
  have hB1 : Below w.heap.size w w1 := by rw [← hw1]; exact ((Below.refl _ _).alloc (Nat.le_refl _) _).alloc (by simp) _
  have k0 : w1.heap[p]? = some (.cells #[.int .i64 0] 3 (0, 0)) := by rw [← hw1, ← hp, Below.heap_alloc _ _ _ (by simp)]; exact heap_alloc_new w _
  have k1 : w1.heap[p + 1]? = some (.cells #[.bool false] 4 (0, 0)) := by
    rw [← hw1, ← hp]
    have := heap_alloc_new (w.alloc (.cells #[.int .i64 0] 3)) (.cells #[.bool false] 4)
    rwa [World.size_alloc] at this
  have hs1 : w1.heap.size = p + 2 := by rw [← hw1, ← hp]; simp
  have H1 := hide (And.intro hB1 (And.intro k0 (And.intro k1 hs1)))
  have HP := hide hp
  have HW1 := hide hw1
  clear hB1 k0 k1 hp hw1
  refine (callsIn_wide (n := 0)).1 ?_
  refine callsIn_of_wp_marks Tryd.func59 rfl trivial ?_ rfl
  simp only [Tryd.ntmps59, List.size_toArray, List.length_cons, List.length_nil, Nat.reduceAdd, Nat.reduceSub, Array.replicate_succ, Array.replicate_zero, List.push_toArray, List.append_toArray, List.nil_append, List.cons_append]
  gi_wp2
  rw [HW1.out, HP.out]
  refine ⟨trivial, rfl, (callsIn_wide.2 sequencesf_any).mono ?_⟩
  rintro e w2 ⟨rfl, hw2⟩
  rw [hs1]
  have hB2 : Below w1.heap.size w1 w2 := by rw [hw2]; exact (Below.refl _ _).alloc (Nat.le_refl _) _
  have kx : w2.heap[p + 2]? = some (.cells #[.string s] 9 (0, 0)) := by rw [hw2, ← hs1]; exact heap_alloc_new w1 _
  have hs2 : w2.heap.size = p + 3 := by rw [hw2]; simp; omega
  have HQ := hide (seqs1 kx hs)
  clear hw2
  gi_wp2
  obtain ⟨hB1, k0, k1, hs1⟩ := H1.out
  have hBw : Below w.heap.size w w2 := below_step hB1 hB2
  have hwl : (wk s 0 0).1.length ≤ s.size := wk_len s.size 0 0 (by omega)
  have hws : sqn (wk s 0 0).1 ≤ 289 * s.size := wk_sqn s.size 0 0 (by omega)
  have H2 := hide (And.intro hBw (And.intro hs2 (And.intro ((hB2.block p (by omega)).trans k0) ((hB2.block (p + 1) (by omega)).trans k1))))
  clear hB1 k0 k1 hs1 H1 hBw hB2 kx hs2
  obtain ⟨ok, hok⟩ : ∃ ok, (wk s 0 0).2 = ok := ⟨_, rfl⟩
  have HK := hide hok
  have HP2 : Hid (p = w.heap.size) := HP.out.symm
  refine range_n (gf := 71) (lb := #[.pointer (some ⟨p + 2, 0, none⟩)]) rfl (enters_of Tryd.func71 (by kernel_rfl) rfl) HQ.out (fun t vs h => h.size)
    (fun t N W => (W.heap[p]? = some (.cells #[.int .i64 ((sqn ((wk s 0 0).1.take t) : Nat) : Int)] 3 (0, 0)) ∧ W.heap[p + 1]? = some (.cells #[.bool false] 4 (0, 0))) ∧ t ≤ (wk s 0 0).1.length ∧ (∀ i, N i → p + 3 ≤ i ∧ i < W.heap.size) ∧ p + 3 ≤ W.heap.size ∧ Below w.heap.size w W)
    (fun c t N W => c = .ret ∧ (W.heap[p]? = some (.cells #[.int .i64 0] 3 (0, 0)) ∧ W.heap[p + 1]? = some (.cells #[.bool false] 4 (0, 0))) ∧ (wk s 0 0).2 = false ∧ (∀ i, N i → p + 3 ≤ i ∧ i < W.heap.size) ∧ p + 3 ≤ W.heap.size ∧ Below w.heap.size w W)
    ?stb ?stbx ?start
    (RA fun g x q => { tmps := #[.string s, undef, .pointer (some ⟨p, 0, none⟩), .pointer (some ⟨p + 1, 0, none⟩), .pointer (some ⟨g, 0, none⟩), .bool x, .string s, .func (.func 71) #[] #[.pointer (some ⟨p + 2, 0, none⟩)], q, .bool x, undef, undef, undef, undef, undef, undef, undef, undef, undef, undef, undef], defers := [] }) (fun g vs a2 W W' h hG => h.gs hG) ?assign ?body ?done ?stop
  case stb =>
    rintro t N N' A A' ⟨⟨h1, h2⟩, h3, h4, h5, h6⟩ hG hN
    rw [H2.out.2.1] at hG
    have hsz := hG.size
    have hx : ∀ i, i < p + 3 → ¬ (N i ∨ i = p + 3 ∨ i = p + 3 + 1) := fun i hi e => by
      rcases e with e | e | e
      · have := (h4 i e).1; omega
      · omega
      · omega
    exact ⟨⟨(hG.block _ (lt_of_block h1) (hx p (by omega))).trans h1, (hG.block _ (lt_of_block h2) (hx (p + 1) (by omega))).trans h2⟩, h3, fun i e => by
      obtain ⟨a1, a2⟩ := hN i e
      rcases a2 with a2 | a2
      · exact ⟨(h4 i a2).1, a1⟩
      · exact ⟨by omega, a1⟩, by omega, hG.below h6 h6.size (fun i e => by
      have := HP.out
      rcases e with e | e | e
      · have := (h4 i e).1; omega
      · omega
      · omega)⟩
  case stbx =>
    rintro c t N N' A A' ⟨hc, ⟨h1, h2⟩, h3, h4, h5, h6⟩ hG hN
    rw [H2.out.2.1] at hG
    have hsz := hG.size
    have hx : ∀ i, i < p + 3 → ¬ (N i ∨ i = p + 3 ∨ i = p + 3 + 1) := fun i hi e => by
      rcases e with e | e | e
      · have := (h4 i e).1; omega
      · omega
      · omega
    exact ⟨hc, ⟨(hG.block _ (lt_of_block h1) (hx p (by omega))).trans h1, (hG.block _ (lt_of_block h2) (hx (p + 1) (by omega))).trans h2⟩, h3, fun i e => by
      obtain ⟨a1, a2⟩ := hN i e
      rcases a2 with a2 | a2
      · exact ⟨(h4 i a2).1, a1⟩
      · exact ⟨by omega, a1⟩, by omega, hG.below h6 h6.size (fun i e => by
      have := HP.out
      rcases e with e | e | e
      · have := (h4 i e).1; omega
      · omega
      · omega)⟩
  case start =>
    obtain ⟨h1, h2, h3, h4⟩ := H2.out
    exact ⟨⟨h3, h4⟩, Nat.zero_le _, fun i e => e.elim, by omega, h1⟩
  case assign =>
    intro l t vs W K hc hK
    obtain ⟨L, dd, ll, x, rfl, _⟩ := hc.shape
    obtain ⟨W2, hW2⟩ : ∃ W2, W.alloc (.cells #[.string L, .int .i64 (dd : Int), .int .i64 (ll : Int)] 66) = W2 := ⟨_, rfl⟩
    have hB : Below W.heap.size W W2 := by rw [← hW2]; exact (Below.refl _ _).alloc (Nat.le_refl _) _
    have hq : QB W2 W.heap.size L dd ll := by rw [← hW2]; exact heap_alloc_new W _
    gi_wp2
    refine hK _ _ hB fun L' dd' ll' x' e => ?_
    simp only [Array.mk.injEq, List.cons.injEq, Value.agg.injEq, Value.string.injEq, Value.int.injEq, Value.bool.injEq, and_true, true_and, Int.natCast_inj] at e
    obtain ⟨⟨rfl, rfl, rfl⟩, rfl⟩ := e
    exact ⟨rfl, hq⟩
  case body =>
    rintro l t N vs V g a2 ⟨⟨h1, h2⟩, h3, h4, h5, h6⟩ hc hA hg1 hg2 hN
    obtain ⟨L, dd, ll, x, rfl, hx⟩ := hc.shape
    obtain ⟨rfl, hq⟩ := hA _ _ _ _ rfl
    have hD : w2.heap.size = p + 3 := H2.out.2.1
    rw [hD] at hN hg1 ⊢
    have hnp : ¬ N p ∧ ¬ N (p + 1) := ⟨fun e => by have := (h4 _ e).1; omega, fun e => by have := (h4 _ e).1; omega⟩
    have hpw := HP.out
    rcases hx with ⟨rfl, hx⟩ | ⟨rfl, hx⟩
    · have hst := sqn_take hx
      simp only at hst
      have hle := sqn_le (wk s 0 0).1 (t + 1)
      have htl : t + 1 ≤ (wk s 0 0).1.length := (List.getElem?_eq_some_iff.1 hx).1
      obtain ⟨a, ha⟩ : ∃ a, sqn ((wk s 0 0).1.take t) = a := ⟨_, rfl⟩
      obtain ⟨a', ha'⟩ : ∃ a', sqn ((wk s 0 0).1.take (t + 1)) = a' := ⟨_, rfl⟩
      obtain ⟨c, hcc⟩ : ∃ c, c = L.size + ll := ⟨_, rfl⟩
      rw [ha, ha'] at hst
      rw [ha'] at hle
      have e1 : (L.size : Int) + (ll : Int) = (c : Int) := by omega
      have e2 : IntKind.i64.wrap (c : Int) = (c : Int) := by rw [IntKind.wrap_i64]; omega
      have e3 : (a : Int) + (c : Int) = (a' : Int) := by omega
      have e4 : IntKind.i64.wrap (a' : Int) = (a' : Int) := by rw [IntKind.wrap_i64]; omega
      have h1' := h1
      rw [ha] at h1'
      obtain ⟨z0, z1⟩ := cell1 h1'
      obtain ⟨u0, _, u2⟩ := cell3 hq
      obtain ⟨V9, hV9⟩ : ∃ V9, V.setCell ⟨p, 0, none⟩ (.int .i64 (a' : Int)) = V9 := ⟨_, rfl⟩
      have hG9 : Gs (fun i => i = p) V V9 := by rw [← hV9]; exact (Gs.refl (fun i => i = p) _).set (a := ⟨p, 0, none⟩) (.inl rfl) _
      have k9 : V9.heap[p]? = some (.cells #[.int .i64 (a' : Int)] 3 (0, 0)) := by rw [← hV9]; exact heap_set_self h1
      have HE : Hid (Gs (fun i => ¬ N i ∧ i ≠ p + 3 ∧ i ≠ p + 3 + 1) V V9 ∧ (V9.heap[p]? = some (.cells #[.int .i64 ((sqn ((wk s 0 0).1.take (t + 1)) : Nat) : Int)] 3 (0, 0)) ∧ V9.heap[p + 1]? = some (.cells #[.bool false] 4 (0, 0))) ∧ t + 1 ≤ (wk s 0 0).1.length ∧ (∀ i, N i → p + 3 ≤ i ∧ i < V9.heap.size) ∧ p + 3 ≤ V9.heap.size ∧ Below w.heap.size w V9) :=
        ⟨hG9.mono fun i _ e => by subst e; exact ⟨hnp.1, by omega, by omega⟩, ⟨by rw [ha']; exact k9, (hG9.block _ (lt_of_block h2) (by omega)).trans h2⟩, htl, fun i e => ⟨(h4 i e).1, by have := (h4 i e).2; have := hG9.size; omega⟩, by have := hG9.size; omega, hG9.below h6 h6.size (fun i e => by omega)⟩
      clear h1 h1' h2 h3 h4 h5 h6 hc hA hq hN hnp hx hst hle htl ha ha' hcc hG9 k9 hpw hD
      gi_wp2
      exact HE.out
    · obtain ⟨⟨z0, z1⟩, ⟨z2, z3⟩, k4, k5, hG⟩ := two_boxes h1 h2 (.int .i64 0) (.bool false)
      have HE : Hid (Gs (fun i => ¬ N i ∧ i ≠ p + 3 ∧ i ≠ p + 3 + 1) V ((V.setCell ⟨p, 0, none⟩ (.int .i64 0)).setCell ⟨p + 1, 0, none⟩ (.bool false)) ∧ (((V.setCell ⟨p, 0, none⟩ (.int .i64 0)).setCell ⟨p + 1, 0, none⟩ (.bool false)).heap[p]? = some (.cells #[.int .i64 0] 3 (0, 0)) ∧ ((V.setCell ⟨p, 0, none⟩ (.int .i64 0)).setCell ⟨p + 1, 0, none⟩ (.bool false)).heap[p + 1]? = some (.cells #[.bool false] 4 (0, 0))) ∧ (wk s 0 0).2 = false ∧ (∀ i, N i → p + 3 ≤ i ∧ i < ((V.setCell ⟨p, 0, none⟩ (.int .i64 0)).setCell ⟨p + 1, 0, none⟩ (.bool false)).heap.size) ∧ p + 3 ≤ ((V.setCell ⟨p, 0, none⟩ (.int .i64 0)).setCell ⟨p + 1, 0, none⟩ (.bool false)).heap.size ∧ Below w.heap.size w ((V.setCell ⟨p, 0, none⟩ (.int .i64 0)).setCell ⟨p + 1, 0, none⟩ (.bool false))) :=
        ⟨hG.mono fun i _ e => by rcases e with rfl | rfl; exact ⟨hnp.1, by omega, by omega⟩; exact ⟨hnp.2, by omega, by omega⟩, ⟨k4, k5⟩, hx, fun i e => ⟨(h4 i e).1, by have := (h4 i e).2; have := hG.size; omega⟩, by have := hG.size; omega, hG.below h6 h6.size (fun i e => by omega)⟩
      clear h1 h2 h3 h4 h5 h6 hc hA hq hN hnp hx k4 k5 hG hpw hD
      gi_wp2
      exact ⟨HE.out.1, rfl, HE.out.2⟩
  case done =>
    rintro D t N W hD hS ⟨⟨h1, h2⟩, h3, h4, h5, h6⟩ hd
    have hD3 : D = p + 3 := hD.trans H2.out.2.1
    have hok2 : ok = true ∧ t = (wk s 0 0).1.length := by
      have hS' : t = _ := hS
      rw [HK.out] at hS'
      cases ok with
      | true => simp at hS'; exact ⟨rfl, hS'⟩
      | false => simp at hS'; omega
    obtain ⟨rfl, rfl⟩ := hok2
    rw [List.take_length] at h1
    have HL : Hid (lnV s = .tuple #[.int .i64 ((sqn (wk s 0 0).1 : Nat) : Int), .bool true]) := by
      show lnV s = _
      rw [lnV, HK.out]
      rfl
    generalize sqn (wk s 0 0).1 = a at *
    obtain ⟨⟨z0, z1⟩, ⟨z2, z3⟩, k4, k5, hG⟩ := two_boxes h1 h2 (.int .i64 (a : Int)) (.bool true)
    have hpw := HP.out
    have hd2 := (hG.block D (lt_of_block' hd) (by omega)).trans hd
    obtain ⟨U, hU⟩ : ∃ U, U = ((W.setCell ⟨p, 0, none⟩ (.int .i64 (a : Int))).setCell ⟨p + 1, 0, none⟩ (.bool true)).putObj D (.deferred none) := ⟨_, rfl⟩
    have hg9 : Gs (fun i => i = D) ((W.setCell ⟨p, 0, none⟩ (.int .i64 (a : Int))).setCell ⟨p + 1, 0, none⟩ (.bool true)) U := by rw [hU]; exact gs_putObj
    obtain ⟨v4, _⟩ := cell1 ((hg9.block p (lt_of_block k4) (by omega)).trans k4)
    obtain ⟨v5, _⟩ := cell1 ((hg9.block (p + 1) (lt_of_block k5) (by omega)).trans k5)
    have hBV : Below w.heap.size w ((W.setCell ⟨p, 0, none⟩ (.int .i64 (a : Int))).setCell ⟨p + 1, 0, none⟩ (.bool true)) := hG.below h6 h6.size (fun i hi => by omega)
    have HBU : Hid (Below w.heap.size w U) := hg9.below hBV hBV.size (fun i hi => by omega)
    have HU := hide hU
    clear h1 h2 h3 h4 h5 h6 hG hd hD hS k4 k5 hU hg9 hBV hpw hD3
    gi_wp2
    refine ⟨by simp, .inl ⟨_, _, rfl, run_takeDeferred hd2, ?_⟩⟩
    rw [← HU.out]
    refine ⟨.tuple #[.int .i64 (a : Int), .bool true], by simp [results, Tryd.results59, go_sem, v4, v5], ?_⟩
    exact ⟨by rw [HL.out], HBU.out⟩
  case stop =>
    rintro D c t N W hD hS ⟨rfl, ⟨h1, h2⟩, h3, h4, h5, h6⟩ hd
    have hD3 : D = p + 3 := hD.trans H2.out.2.1
    have hpw := HP.out
    have HL : Hid (lnV s = .tuple #[.int .i64 0, .bool false]) := by
      show lnV s = _
      rw [lnV, h3]
      rfl
    obtain ⟨U, hU⟩ : ∃ U, U = W.putObj D (.deferred none) := ⟨_, rfl⟩
    have hg9 : Gs (fun i => i = D) W U := by rw [hU]; exact gs_putObj
    obtain ⟨v4, _⟩ := cell1 ((hg9.block p (lt_of_block h1) (by omega)).trans h1)
    obtain ⟨v5, _⟩ := cell1 ((hg9.block (p + 1) (lt_of_block h2) (by omega)).trans h2)
    have HBU : Hid (Below w.heap.size w U) := hg9.below h6 h6.size (fun i hi => by omega)
    have HU := hide hU
    clear h1 h2 h3 h4 h5 h6 hD hS hU hg9 hpw hD3
    gi_wp2
    refine ⟨by simp, .inl ⟨_, _, rfl, run_takeDeferred hd, ?_⟩⟩
    rw [← HU.out]
    refine ⟨.tuple #[.int .i64 0, .bool false], by simp [results, Tryd.results59, go_sem, v4, v5], ?_⟩
    exact ⟨by rw [HL.out], HBU.out⟩
end
end Go.Proofs.YtgigiamnhjelmaaDoor
