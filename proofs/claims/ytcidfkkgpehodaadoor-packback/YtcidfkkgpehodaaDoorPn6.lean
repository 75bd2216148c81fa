/-
  Contracts of the program and of the statements (part 6 of 12).
-/
import Derived.Test.YtcidfkkgpehodaaDoorPn5
import Derived.Shelf.Small.Wraps
import Derived.Shelf.LaysM
import Derived.Shelf.Strconv.Clone
import Derived.Shelf.Strings.Prefix
import Derived.Laws.CopyRow
import Derived.Lib.BufferWrite
import Derived.Deep.RegionHeldLaw
import Derived.OrdersIn

namespace Go.Proofs.YtcidfkkgpehodaaDoor
open Go.RowKit Go.Lib Go.Shelf
attribute [local go_sem] Oper.semAt_some
/-- How many bytes there are, if it is a block. -/
def lnV (s : ByteArray) : Value := .tuple #[.int .i64 ((if (wk s 0 0).2 = true then sqn (wk s 0 0).1 else 0 : Nat) : Int), .bool (wk s 0 0).2]
theorem sqn_take {l : List SQ} {t : Nat} {q : SQ} (h : l[t]? = some q) : sqn (l.take (t + 1)) = sqn (l.take t) + (q.lit.size + q.long) := by
  rw [List.take_add_one, h, sqn, sqn, Option.toList_some, List.map_append, List.sum_append]
  simp
theorem sqn_le : ∀ (l : List SQ) (t : Nat), sqn (l.take t) ≤ sqn l
  | [], _ => by simp [sqn]
  | _ :: _, 0 => Nat.zero_le _
  | q :: r, t + 1 => by
    have := sqn_le r t
    rw [List.take_succ_cons, sqn_cons, sqn_cons]
    omega
theorem wk_sqn {s : ByteArray} : ∀ (f i n : Nat), s.size - i ≤ f → sqn (wk s i n).1 ≤ 289 * (s.size - i)
  | f, i, n, hf => by
    cases hm : stp s i n with
    | none => rw [wk_no hm]; exact Nat.zero_le _
    | some r =>
      obtain ⟨q, k⟩ := r
      have hsp := stp_spec hm
      by_cases h0 : q.long = 0
      · rw [wk_last hm h0]
        show sqn [q] ≤ _
        rw [sqn_cons]
        show q.lit.size + q.long + 0 ≤ _
        omega
      · rw [wk_go hm h0]
        show sqn (q :: _) ≤ _
        rw [sqn_cons]
        match f, hf with
        | 0, hf => omega
        | f + 1, hf =>
          have := wk_sqn (s := s) f k (n + q.lit.size + q.long) (by omega)
          omega
theorem wk_len {s : ByteArray} : ∀ (f i n : Nat), s.size - i ≤ f → (wk s i n).1.length ≤ s.size - i
  | f, i, n, hf => by
    cases hm : stp s i n with
    | none => rw [wk_no hm]; exact Nat.zero_le _
    | some r =>
      obtain ⟨q, k⟩ := r
      have hsp := stp_spec hm
      by_cases h0 : q.long = 0
      · rw [wk_last hm h0]
        show 1 ≤ _
        omega
      · rw [wk_go hm h0]
        show (q :: _).length ≤ _
        rw [List.length_cons]
        match f, hf with
        | 0, hf => omega
        | f + 1, hf =>
          have := wk_len (s := s) f k (n + q.lit.size + q.long) (by omega)
          omega
theorem lt_of_block' {w : World} {b : Nat} {o : Obj} (h : w.heap[b]? = some o) : b < w.heap.size := (Array.getElem?_eq_some_iff.1 h).1
theorem two_boxes {w : World} {b : Nat} {v0 v1 : Value} {T0 T1 : TypeId} (h0 : w.heap[b]? = some (.cells #[v0] T0 (0, 0))) (h1 : w.heap[b + 1]? = some (.cells #[v1] T1 (0, 0))) (x y : Value) :
    (w.cell? ⟨b, 0, none⟩ = some v0 ∧ w.frozen? ⟨b, 0, none⟩ = false) ∧ ((w.setCell ⟨b, 0, none⟩ x).cell? ⟨b + 1, 0, none⟩ = some v1 ∧ (w.setCell ⟨b, 0, none⟩ x).frozen? ⟨b + 1, 0, none⟩ = false) ∧
    ((w.setCell ⟨b, 0, none⟩ x).setCell ⟨b + 1, 0, none⟩ y).heap[b]? = some (.cells #[x] T0 (0, 0)) ∧ ((w.setCell ⟨b, 0, none⟩ x).setCell ⟨b + 1, 0, none⟩ y).heap[b + 1]? = some (.cells #[y] T1 (0, 0)) ∧ Gs (fun i => i = b ∨ i = b + 1) w ((w.setCell ⟨b, 0, none⟩ x).setCell ⟨b + 1, 0, none⟩ y) := by
  have hG1 : Gs (fun i => i = b) w (w.setCell ⟨b, 0, none⟩ x) := (Gs.refl (fun i => i = b) _).set (a := ⟨b, 0, none⟩) (.inl rfl) _
  have k0 : (w.setCell ⟨b, 0, none⟩ x).heap[b]? = some (.cells #[x] T0 (0, 0)) := heap_set_self h0
  have k1 : (w.setCell ⟨b, 0, none⟩ x).heap[b + 1]? = some (.cells #[v1] T1 (0, 0)) := (hG1.block _ (lt_of_block h1) (by omega)).trans h1
  have hG2 : Gs (fun i => i = b + 1) (w.setCell ⟨b, 0, none⟩ x) ((w.setCell ⟨b, 0, none⟩ x).setCell ⟨b + 1, 0, none⟩ y) := (Gs.refl (fun i => i = b + 1) _).set (a := ⟨b + 1, 0, none⟩) (.inl rfl) _
  exact ⟨cell1 h0, cell1 k1, (hG2.block _ (lt_of_block k0) (by omega)).trans k0, heap_set_self k1, (hG1.mono fun i _ e => .inl e).trans (hG2.mono fun i _ e => .inr e)⟩
/-- The slots of a round: the sequence lies at g. -/
def RA (sl : Nat → Bool → Value → Act) (g : Nat) (vs : Array Value) (a2 : Act) (W : World) : Prop := ∀ (L : ByteArray) (dd ll : Nat) (x : Bool), vs = #[.agg #[.string L, .int .i64 (dd : Int), .int .i64 (ll : Int)], .bool x] → a2 = sl g x (.agg #[.string L, .int .i64 (dd : Int), .int .i64 (ll : Int)]) ∧ QB W g L dd ll
theorem RA.gs {sl : Nat → Bool → Value → Act} {g : Nat} {vs : Array Value} {a2 : Act} {W W' : World} (h : RA sl g vs a2 W) (hG : Gs (fun i => i < g) W W') : RA sl g vs a2 W' := fun L dd ll x e => by
  obtain ⟨h1, h2⟩ := h L dd ll x e
  exact ⟨h1, (hG.block g (lt_of_block h2) (by omega)).trans h2⟩
theorem CQ.size {s : ByteArray} {t : Nat} {vs : Array Value} (h : CQ s t vs) : vs.size = 2 := by
  rcases h with ⟨q, _, rfl⟩ | ⟨_, _, q, rfl⟩
  · rfl
  · rfl
theorem CQ.shape {s : ByteArray} {t : Nat} {vs : Array Value} (h : CQ s t vs) : ∃ (L : ByteArray) (dd ll : Nat) (x : Bool), vs = #[.agg #[.string L, .int .i64 (dd : Int), .int .i64 (ll : Int)], .bool x] ∧ ((x = true ∧ (wk s 0 0).1[t]? = some ⟨L, dd, ll⟩) ∨ (x = false ∧ (wk s 0 0).2 = false)) := by
  rcases h with ⟨⟨L, dd, ll⟩, h1, rfl⟩ | ⟨h1, _, ⟨L, dd, ll⟩, rfl⟩
  · exact ⟨L, dd, ll, true, rfl, .inl ⟨rfl, h1⟩⟩
  · exact ⟨L, dd, ll, false, rfl, .inr ⟨rfl, h1⟩⟩
section
variable {w : World} {s : ByteArray}
set_option maxRecDepth 100000 in
set_option maxHeartbeats 1600000 in
theorem length_any (hs : s.size ≤ 140000) : Calls Tryd.prog 93 #[.string s] w fun e w' => e = .returned (lnV s) ∧ Below w.heap.size w w' := by
  obtain ⟨p, hp⟩ : ∃ p, w.heap.size = p := ⟨_, rfl⟩
  obtain ⟨w1, hw1⟩ : ∃ w1, (w.alloc (.cells #[.int .i64 0] 3)).alloc (.cells #[.bool false] 4) = w1 := ⟨_, rfl⟩
  have hB1 : Below w.heap.size w w1 := by rw [← hw1]; exact ((Below.refl _ _).alloc (Nat.le_refl _) _).alloc (by simp) _
  have k0 : w1.heap[p]? = some (.cells #[.int .i64 0] 3 (0, 0)) := by rw [← hw1, ← hp, Below.heap_alloc _ _ _ (by simp)]; exact heap_alloc_new w _
  have k1 : w1.heap[p + 1]? = some (.cells #[.bool false] 4 (0, 0)) := by
    rw [← hw1, ← hp]
    have := heap_alloc_new (w.alloc (.cells #[.int .i64 0] 3)) (.cells #[.bool false] 4)
    rwa [World.size_alloc] at this
  have hs1 : w1.heap.size = p + 2 := by rw [← hw1, ← hp]; simp
  have H1 := hide (And.intro hB1 (And.intro k0 (And.intro k1 hs1)))
  have HP := hide hp
  have HW1 := hide hw1
  clear hB1 k0 k1 hp hw1
  refine (callsIn_wide (n := 0)).1 ?_
  refine callsIn_of_wp_marks Tryd.func93 rfl trivial ?_ rfl
  simp only [Tryd.ntmps93, List.size_toArray, List.length_cons, List.length_nil, Nat.reduceAdd, Nat.reduceSub, Array.replicate_succ, Array.replicate_zero, List.push_toArray, List.append_toArray, List.nil_append, List.cons_append]
  gi_wp2
  rw [HW1.out, HP.out]
  refine ⟨trivial, rfl, (callsIn_wide.2 sequencesf_any).mono ?_⟩
  rintro e w2 ⟨rfl, hw2⟩
  rw [hs1]
  have hB2 : Below w1.heap.size w1 w2 := by rw [hw2]; exact (Below.refl _ _).alloc (Nat.le_refl _) _
  have kx : w2.heap[p + 2]? = some (.cells #[.string s] 9 (0, 0)) := by rw [hw2, ← hs1]; exact heap_alloc_new w1 _
  have hs2 : w2.heap.size = p + 3 := by rw [hw2]; simp; omega
  have HQ := hide (seqs1 kx hs)
  clear hw2
  gi_wp2
  obtain ⟨hB1, k0, k1, hs1⟩ := H1.out
  have hBw : Below w.heap.size w w2 := below_step hB1 hB2
  have hwl : (wk s 0 0).1.length ≤ s.size := wk_len s.size 0 0 (by omega)
  have hws : sqn (wk s 0 0).1 ≤ 289 * s.size := wk_sqn s.size 0 0 (by omega)
  have H2 := hide (And.intro hBw (And.intro hs2 (And.intro ((hB2.block p (by omega)).trans k0) ((hB2.block (p + 1) (by omega)).trans k1))))
  clear hB1 k0 k1 hs1 H1 hBw hB2 kx hs2
  obtain ⟨ok, hok⟩ : ∃ ok, (wk s 0 0).2 = ok := ⟨_, rfl⟩
  have HK := hide hok
  have HP2 : Hid (p = w.heap.size) := HP.out.symm
  refine range_n (gf := 102) (lb := #[.pointer (some ⟨p + 2, 0, none⟩)]) rfl (enters_of Tryd.func102 (by kernel_rfl) rfl) HQ.out (fun t vs h => h.size)
    (fun t N W => (W.heap[p]? = some (.cells #[.int .i64 ((sqn ((wk s 0 0).1.take t) : Nat) : Int)] 3 (0, 0)) ∧ W.heap[p + 1]? = some (.cells #[.bool false] 4 (0, 0))) ∧ t ≤ (wk s 0 0).1.length ∧ (∀ i, N i → p + 3 ≤ i ∧ i < W.heap.size) ∧ p + 3 ≤ W.heap.size ∧ Below w.heap.size w W)
    (fun c t N W => c = .ret ∧ (W.heap[p]? = some (.cells #[.int .i64 0] 3 (0, 0)) ∧ W.heap[p + 1]? = some (.cells #[.bool false] 4 (0, 0))) ∧ (wk s 0 0).2 = false ∧ (∀ i, N i → p + 3 ≤ i ∧ i < W.heap.size) ∧ p + 3 ≤ W.heap.size ∧ Below w.heap.size w W)
    ?stb ?stbx ?start
    (RA fun g x q => { tmps := #[.string s, undef, .pointer (some ⟨p, 0, none⟩), .pointer (some ⟨p + 1, 0, none⟩), .pointer (some ⟨g, 0, none⟩), .bool x, .string s, .func (.func 102) #[] #[.pointer (some ⟨p + 2, 0, none⟩)], q, .bool x, undef, undef, undef, undef, undef, undef, undef, undef, undef, undef, undef], defers := [] }) (fun g vs a2 W W' h hG => h.gs hG) ?assign ?body ?done ?stop
  case stb =>
    rintro t N N' A A' ⟨⟨h1, h2⟩, h3, h4, h5, h6⟩ hG hN
    rw [H2.out.2.1] at hG
    have hsz := hG.size
    have hx : ∀ i, i < p + 3 → ¬ (N i ∨ i = p + 3 ∨ i = p + 3 + 1) := fun i hi e => by
      rcases e with e | e | e
      · have := (h4 i e).1; omega
      · omega
      · omega
    exact ⟨⟨(hG.block _ (lt_of_block h1) (hx p (by omega))).trans h1, (hG.block _ (lt_of_block h2) (hx (p + 1) (by omega))).trans h2⟩, h3, fun i e => by
      obtain ⟨a1, a2⟩ := hN i e
      rcases a2 with a2 | a2
      · exact ⟨(h4 i a2).1, a1⟩
      · exact ⟨by omega, a1⟩, by omega, hG.below h6 h6.size (fun i e => by
      have := HP.out
      rcases e with e | e | e
      · have := (h4 i e).1; omega
      · omega
      · omega)⟩
  case stbx =>
    rintro c t N N' A A' ⟨hc, ⟨h1, h2⟩, h3, h4, h5, h6⟩ hG hN
    rw [H2.out.2.1] at hG
    have hsz := hG.size
    have hx : ∀ i, i < p + 3 → ¬ (N i ∨ i = p + 3 ∨ i = p + 3 + 1) := fun i hi e => by
      rcases e with e | e | e
      · have := (h4 i e).1; omega
      · omega
      · omega
    exact ⟨hc, ⟨(hG.block _ (lt_of_block h1) (hx p (by omega))).trans h1, (hG.block _ (lt_of_block h2) (hx (p + 1) (by omega))).trans h2⟩, h3, fun i e => by
      obtain ⟨a1, a2⟩ := hN i e
      rcases a2 with a2 | a2
      · exact ⟨(h4 i a2).1, a1⟩
      · exact ⟨by omega, a1⟩, by omega, hG.below h6 h6.size (fun i e => by
      have := HP.out
      rcases e with e | e | e
      · have := (h4 i e).1; omega
      · omega
      · omega)⟩
  case start =>
    obtain ⟨h1, h2, h3, h4⟩ := H2.out
    exact ⟨⟨h3, h4⟩, Nat.zero_le _, fun i e => e.elim, by omega, h1⟩
  case assign =>
    intro l t vs W K hc hK
    obtain ⟨L, dd, ll, x, rfl, _⟩ := hc.shape
    obtain ⟨W2, hW2⟩ : ∃ W2, W.alloc (.cells #[.string L, .int .i64 (dd : Int), .int .i64 (ll : Int)] 124) = W2 := ⟨_, rfl⟩
    have hB : Below W.heap.size W W2 := by rw [← hW2]; exact (Below.refl _ _).alloc (Nat.le_refl _) _
    have hq : QB W2 W.heap.size L dd ll := by rw [← hW2]; exact heap_alloc_new W _
    gi_wp2
    refine hK _ _ hB fun L' dd' ll' x' e => ?_
    simp only [Array.mk.injEq, List.cons.injEq, Value.agg.injEq, Value.string.injEq, Value.int.injEq, Value.bool.injEq, and_true, true_and, Int.natCast_inj] at e
    obtain ⟨⟨rfl, rfl, rfl⟩, rfl⟩ := e
    exact ⟨rfl, hq⟩
  case body =>
    rintro l t N vs V g a2 ⟨⟨h1, h2⟩, h3, h4, h5, h6⟩ hc hA hg1 hg2 hN
    obtain ⟨L, dd, ll, x, rfl, hx⟩ := hc.shape
    obtain ⟨rfl, hq⟩ := hA _ _ _ _ rfl
    have hD : w2.heap.size = p + 3 := H2.out.2.1
    rw [hD] at hN hg1 ⊢
    have hnp : ¬ N p ∧ ¬ N (p + 1) := ⟨fun e => by have := (h4 _ e).1; omega, fun e => by have := (h4 _ e).1; omega⟩
    have hpw := HP.out
    rcases hx with ⟨rfl, hx⟩ | ⟨rfl, hx⟩
    · have hst := sqn_take hx
      simp only at hst
      have hle := sqn_le (wk s 0 0).1 (t + 1)
      have htl : t + 1 ≤ (wk s 0 0).1.length := (List.getElem?_eq_some_iff.1 hx).1
      obtain ⟨a, ha⟩ : ∃ a, sqn ((wk s 0 0).1.take t) = a := ⟨_, rfl⟩
      obtain ⟨a', ha'⟩ : ∃ a', sqn ((wk s 0 0).1.take (t + 1)) = a' := ⟨_, rfl⟩
      obtain ⟨c, hcc⟩ : ∃ c, c = L.size + ll := ⟨_, rfl⟩
      rw [ha, ha'] at hst
      rw [ha'] at hle
      have e1 : (L.size : Int) + (ll : Int) = (c : Int) := by omega
      have e2 : IntKind.i64.wrap (c : Int) = (c : Int) := by rw [IntKind.wrap_i64]; omega
      have e3 : (a : Int) + (c : Int) = (a' : Int) := by omega
      have e4 : IntKind.i64.wrap (a' : Int) = (a' : Int) := by rw [IntKind.wrap_i64]; omega
      have h1' := h1
      rw [ha] at h1'
      obtain ⟨z0, z1⟩ := cell1 h1'
      obtain ⟨u0, _, u2⟩ := cell3 hq
      obtain ⟨V9, hV9⟩ : ∃ V9, V.setCell ⟨p, 0, none⟩ (.int .i64 (a' : Int)) = V9 := ⟨_, rfl⟩
      have hG9 : Gs (fun i => i = p) V V9 := by rw [← hV9]; exact (Gs.refl (fun i => i = p) _).set (a := ⟨p, 0, none⟩) (.inl rfl) _
      have k9 : V9.heap[p]? = some (.cells #[.int .i64 (a' : Int)] 3 (0, 0)) := by rw [← hV9]; exact heap_set_self h1
      have HE : Hid (Gs (fun i => ¬ N i ∧ i ≠ p + 3 ∧ i ≠ p + 3 + 1) V V9 ∧ (V9.heap[p]? = some (.cells #[.int .i64 ((sqn ((wk s 0 0).1.take (t + 1)) : Nat) : Int)] 3 (0, 0)) ∧ V9.heap[p + 1]? = some (.cells #[.bool false] 4 (0, 0))) ∧ t + 1 ≤ (wk s 0 0).1.length ∧ (∀ i, N i → p + 3 ≤ i ∧ i < V9.heap.size) ∧ p + 3 ≤ V9.heap.size ∧ Below w.heap.size w V9) :=
        ⟨hG9.mono fun i _ e => by subst e; exact ⟨hnp.1, by omega, by omega⟩, ⟨by rw [ha']; exact k9, (hG9.block _ (lt_of_block h2) (by omega)).trans h2⟩, htl, fun i e => ⟨(h4 i e).1, by have := (h4 i e).2; have := hG9.size; omega⟩, by have := hG9.size; omega, hG9.below h6 h6.size (fun i e => by omega)⟩
      clear h1 h1' h2 h3 h4 h5 h6 hc hA hq hN hnp hx hst hle htl ha ha' hcc hG9 k9 hpw hD
      gi_wp2
      exact HE.out
    · obtain ⟨⟨z0, z1⟩, ⟨z2, z3⟩, k4, k5, hG⟩ := two_boxes h1 h2 (.int .i64 0) (.bool false)
      have HE : Hid (Gs (fun i => ¬ N i ∧ i ≠ p + 3 ∧ i ≠ p + 3 + 1) V ((V.setCell ⟨p, 0, none⟩ (.int .i64 0)).setCell ⟨p + 1, 0, none⟩ (.bool false)) ∧ (((V.setCell ⟨p, 0, none⟩ (.int .i64 0)).setCell ⟨p + 1, 0, none⟩ (.bool false)).heap[p]? = some (.cells #[.int .i64 0] 3 (0, 0)) ∧ ((V.setCell ⟨p, 0, none⟩ (.int .i64 0)).setCell ⟨p + 1, 0, none⟩ (.bool false)).heap[p + 1]? = some (.cells #[.bool false] 4 (0, 0))) ∧ (wk s 0 0).2 = false ∧ (∀ i, N i → p + 3 ≤ i ∧ i < ((V.setCell ⟨p, 0, none⟩ (.int .i64 0)).setCell ⟨p + 1, 0, none⟩ (.bool false)).heap.size) ∧ p + 3 ≤ ((V.setCell ⟨p, 0, none⟩ (.int .i64 0)).setCell ⟨p + 1, 0, none⟩ (.bool false)).heap.size ∧ Below w.heap.size w ((V.setCell ⟨p, 0, none⟩ (.int .i64 0)).setCell ⟨p + 1, 0, none⟩ (.bool false))) :=
        ⟨hG.mono fun i _ e => by rcases e with rfl | rfl; exact ⟨hnp.1, by omega, by omega⟩; exact ⟨hnp.2, by omega, by omega⟩, ⟨k4, k5⟩, hx, fun i e => ⟨(h4 i e).1, by have := (h4 i e).2; have := hG.size; omega⟩, by have := hG.size; omega, hG.below h6 h6.size (fun i e => by omega)⟩
      clear h1 h2 h3 h4 h5 h6 hc hA hq hN hnp hx k4 k5 hG hpw hD
      gi_wp2
      exact ⟨HE.out.1, rfl, HE.out.2⟩
  case done =>
    rintro D t N W hD hS ⟨⟨h1, h2⟩, h3, h4, h5, h6⟩ hd
    have hD3 : D = p + 3 := hD.trans H2.out.2.1
    have hok2 : ok = true ∧ t = (wk s 0 0).1.length := by
      have hS' : t = _ := hS
      rw [HK.out] at hS'
      cases ok with
      | true => simp at hS'; exact ⟨rfl, hS'⟩
      | false => simp at hS'; omega
    obtain ⟨rfl, rfl⟩ := hok2
    rw [List.take_length] at h1
    have HL : Hid (lnV s = .tuple #[.int .i64 ((sqn (wk s 0 0).1 : Nat) : Int), .bool true]) := by
      show lnV s = _
      rw [lnV, HK.out]
      rfl
    generalize sqn (wk s 0 0).1 = a at *
    obtain ⟨⟨z0, z1⟩, ⟨z2, z3⟩, k4, k5, hG⟩ := two_boxes h1 h2 (.int .i64 (a : Int)) (.bool true)
    have hpw := HP.out
    have hd2 := (hG.block D (lt_of_block' hd) (by omega)).trans hd
    obtain ⟨U, hU⟩ : ∃ U, U = ((W.setCell ⟨p, 0, none⟩ (.int .i64 (a : Int))).setCell ⟨p + 1, 0, none⟩ (.bool true)).putObj D (.deferred none) := ⟨_, rfl⟩
    have hg9 : Gs (fun i => i = D) ((W.setCell ⟨p, 0, none⟩ (.int .i64 (a : Int))).setCell ⟨p + 1, 0, none⟩ (.bool true)) U := by rw [hU]; exact gs_putObj
    obtain ⟨v4, _⟩ := cell1 ((hg9.block p (lt_of_block k4) (by omega)).trans k4)
    obtain ⟨v5, _⟩ := cell1 ((hg9.block (p + 1) (lt_of_block k5) (by omega)).trans k5)
    have hBV : Below w.heap.size w ((W.setCell ⟨p, 0, none⟩ (.int .i64 (a : Int))).setCell ⟨p + 1, 0, none⟩ (.bool true)) := hG.below h6 h6.size (fun i hi => by omega)
    have HBU : Hid (Below w.heap.size w U) := hg9.below hBV hBV.size (fun i hi => by omega)
    have HU := hide hU
    clear h1 h2 h3 h4 h5 h6 hG hd hD hS k4 k5 hU hg9 hBV hpw hD3
    gi_wp2
    refine ⟨by simp, .inl ⟨_, _, rfl, run_takeDeferred hd2, ?_⟩⟩
    rw [← HU.out]
    refine ⟨.tuple #[.int .i64 (a : Int), .bool true], by simp [results, Tryd.results93, go_sem, v4, v5], ?_⟩
    exact ⟨by rw [HL.out], HBU.out⟩
  case stop =>
    rintro D c t N W hD hS ⟨rfl, ⟨h1, h2⟩, h3, h4, h5, h6⟩ hd
    have hD3 : D = p + 3 := hD.trans H2.out.2.1
    have hpw := HP.out
    have HL : Hid (lnV s = .tuple #[.int .i64 0, .bool false]) := by
      show lnV s = _
      rw [lnV, h3]
      rfl
    obtain ⟨U, hU⟩ : ∃ U, U = W.putObj D (.deferred none) := ⟨_, rfl⟩
    have hg9 : Gs (fun i => i = D) W U := by rw [hU]; exact gs_putObj
    obtain ⟨v4, _⟩ := cell1 ((hg9.block p (lt_of_block h1) (by omega)).trans h1)
    obtain ⟨v5, _⟩ := cell1 ((hg9.block (p + 1) (lt_of_block h2) (by omega)).trans h2)
    have HBU : Hid (Below w.heap.size w U) := hg9.below h6 h6.size (fun i hi => by omega)
    have HU := hide hU
    clear h1 h2 h3 h4 h5 h6 hD hS hU hg9 hpw hD3
    gi_wp2
    refine ⟨by simp, .inl ⟨_, _, rfl, run_takeDeferred hd, ?_⟩⟩
    rw [← HU.out]
    refine ⟨.tuple #[.int .i64 0, .bool false], by simp [results, Tryd.results93, go_sem, v4, v5], ?_⟩
    exact ⟨by rw [HL.out], HBU.out⟩
end
end Go.Proofs.YtcidfkkgpehodaaDoor

namespace Go.Proofs.YtcidfkkgpehodaaDoor
open Go.Shelf
def Tryd.lays210_ren : Go.Shelf.Ren := ⟨fun | 210 => 70 | 206 => 88 | n => n, fun | 9 => 9 | 4 => 4 | 3 => 3 | n => n, fun | n => n⟩
theorem Tryd.lays210 : Go.Proofs.Lays.n210 Tryd.prog Tryd.lays210_ren := {
  mixed := by kernel_rfl
  f206 := Tryd.func88.trans (congrArg some (by kernel_rfl))
  f210 := Tryd.func70.trans (congrArg some (by kernel_rfl))
  t3 := Tryd.underlying3
  a3 := Tryd.isAgg3
  z3 := Tryd.sizeOf3
  v3 := Tryd.zeroValue3
  t4 := Tryd.underlying4
  a4 := Tryd.isAgg4
  z4 := Tryd.sizeOf4
  v4 := Tryd.zeroValue4
  t9 := Tryd.underlying9
  a9 := Tryd.isAgg9
  z9 := Tryd.sizeOf9
  v9 := Tryd.zeroValue9 }
open Go.RowKit in
/-- internal/stringslite.CutPrefix (what strings.CutPrefix calls). (LAID: no walk: one application.) -/
theorem Tryd.stringslite_CutPrefix (s p : ByteArray) (w : World) :
    Calls Tryd.prog 70 #[.string s, .string p] w fun e w' => e = .returned (.tuple #[.string ⟨(Lib.trimPrefix s.data.toList p.data.toList).toArray⟩, .bool (Lib.hasPrefix s.data.toList p.data.toList)]) ∧ w' = w := Any.stringslite_CutPrefix Tryd.lays210 s p w
def Tryd.lays103_ren : Go.Shelf.Ren := ⟨fun | 103 => 48 | 210 => 70 | 206 => 88 | n => n, fun | 9 => 9 | 4 => 4 | 24 => 39 | 3 => 3 | n => n, fun | n => n⟩
theorem Tryd.lays103 : Go.Proofs.Lays.n103 Tryd.prog Tryd.lays103_ren := {
  mixed := by kernel_rfl
  f103 := Tryd.func48.trans (congrArg some (by kernel_rfl))
  f206 := Tryd.func88.trans (congrArg some (by kernel_rfl))
  f210 := Tryd.func70.trans (congrArg some (by kernel_rfl))
  t3 := Tryd.underlying3
  a3 := Tryd.isAgg3
  z3 := Tryd.sizeOf3
  v3 := Tryd.zeroValue3
  t4 := Tryd.underlying4
  a4 := Tryd.isAgg4
  z4 := Tryd.sizeOf4
  v4 := Tryd.zeroValue4
  t9 := Tryd.underlying9
  a9 := Tryd.isAgg9
  z9 := Tryd.sizeOf9
  v9 := Tryd.zeroValue9
  t24 := Tryd.underlying39
  a24 := Tryd.isAgg39
  z24 := Tryd.sizeOf39
  v24 := Tryd.zeroValue39 }
open Go.RowKit in
/-- strings.CutPrefix: "CutPrefix returns s without the provided leading prefix string and reports whether it found the prefix. If s doesn't start with prefix, CutPrefix returns s, false. If prefix is the empty string, CutPrefix returns s, true.": IT RETURNS '(Lib.trimPrefix s p, Lib.hasPrefix s p)'; the world is as it was. (LAID: no walk: one application.) -/
theorem Tryd.strings_CutPrefix (s p : ByteArray) (w : World) :
    Calls Tryd.prog 48 #[.string s, .string p] w fun e w' => e = .returned (.tuple #[.string ⟨(Lib.trimPrefix s.data.toList p.data.toList).toArray⟩, .bool (Lib.hasPrefix s.data.toList p.data.toList)]) ∧ w' = w := Any.strings_CutPrefix Tryd.lays103 s p w
def Tryd.lays211_ren : Go.Shelf.Ren := ⟨fun | 211 => 81 | 207 => 98 | n => n, fun | 9 => 9 | 4 => 4 | 3 => 3 | n => n, fun | n => n⟩
theorem Tryd.lays211 : Go.Proofs.Lays.n211 Tryd.prog Tryd.lays211_ren := {
  mixed := by kernel_rfl
  f207 := Tryd.func98.trans (congrArg some (by kernel_rfl))
  f211 := Tryd.func81.trans (congrArg some (by kernel_rfl))
  t3 := Tryd.underlying3
  a3 := Tryd.isAgg3
  z3 := Tryd.sizeOf3
  v3 := Tryd.zeroValue3
  t4 := Tryd.underlying4
  a4 := Tryd.isAgg4
  z4 := Tryd.sizeOf4
  v4 := Tryd.zeroValue4
  t9 := Tryd.underlying9
  a9 := Tryd.isAgg9
  z9 := Tryd.sizeOf9
  v9 := Tryd.zeroValue9 }
open Go.RowKit in
/-- internal/stringslite.CutSuffix (what strings.CutSuffix calls). (LAID: no walk: one application.) -/
theorem Tryd.stringslite_CutSuffix (s p : ByteArray) (w : World) (hs : s.size ≤ 9223372036854775807) :
    Calls Tryd.prog 81 #[.string s, .string p] w fun e w' => e = .returned (.tuple #[.string ⟨(Lib.trimSuffix s.data.toList p.data.toList).toArray⟩, .bool (Lib.hasSuffix s.data.toList p.data.toList)]) ∧ w' = w := Any.stringslite_CutSuffix Tryd.lays211 s p w hs
def Tryd.lays104_ren : Go.Shelf.Ren := ⟨fun | 104 => 61 | 211 => 81 | 207 => 98 | n => n, fun | 9 => 9 | 4 => 4 | 24 => 39 | 3 => 3 | n => n, fun | n => n⟩
theorem Tryd.lays104 : Go.Proofs.Lays.n104 Tryd.prog Tryd.lays104_ren := {
  mixed := by kernel_rfl
  f104 := Tryd.func61.trans (congrArg some (by kernel_rfl))
  f207 := Tryd.func98.trans (congrArg some (by kernel_rfl))
  f211 := Tryd.func81.trans (congrArg some (by kernel_rfl))
  t3 := Tryd.underlying3
  a3 := Tryd.isAgg3
  z3 := Tryd.sizeOf3
  v3 := Tryd.zeroValue3
  t4 := Tryd.underlying4
  a4 := Tryd.isAgg4
  z4 := Tryd.sizeOf4
  v4 := Tryd.zeroValue4
  t9 := Tryd.underlying9
  a9 := Tryd.isAgg9
  z9 := Tryd.sizeOf9
  v9 := Tryd.zeroValue9
  t24 := Tryd.underlying39
  a24 := Tryd.isAgg39
  z24 := Tryd.sizeOf39
  v24 := Tryd.zeroValue39 }
open Go.RowKit in
/-- strings.CutSuffix: "CutSuffix returns s without the provided ending suffix string and reports whether it found the suffix. If s doesn't end with suffix, CutSuffix returns s, false. If suffix is the empty string, CutSuffix returns s, true.": IT RETURNS '(Lib.trimSuffix s p, Lib.hasSuffix s p)'; the world is as it was. (LAID: no walk: one application.) -/
theorem Tryd.strings_CutSuffix (s p : ByteArray) (w : World) (hs : s.size ≤ 9223372036854775807) :
    Calls Tryd.prog 61 #[.string s, .string p] w fun e w' => e = .returned (.tuple #[.string ⟨(Lib.trimSuffix s.data.toList p.data.toList).toArray⟩, .bool (Lib.hasSuffix s.data.toList p.data.toList)]) ∧ w' = w := Any.strings_CutSuffix Tryd.lays104 s p w hs
def Tryd.laysM316_ren : Go.Shelf.Ren := ⟨fun | 316 => 96 | n => n, fun | 9 => 9 | 3 => 3 | 4 => 4 | 37 => 58 | 0 => 0 | 127 => 156 | 5 => 5 | n => n, fun | n => n⟩
theorem Tryd.laysM316 : Go.Proofs.LaysM.n316 Tryd.prog Tryd.laysM316_ren := {
  mixed := by kernel_rfl
  f316 := Tryd.func96.trans (congrArg some (by kernel_rfl))
  t0 := Tryd.underlying0
  a0 := Tryd.isAgg0
  z0 := Tryd.sizeOf0
  v0 := Tryd.zeroValue0
  t3 := Tryd.underlying3
  a3 := Tryd.isAgg3
  z3 := Tryd.sizeOf3
  v3 := Tryd.zeroValue3
  t4 := Tryd.underlying4
  a4 := Tryd.isAgg4
  z4 := Tryd.sizeOf4
  v4 := Tryd.zeroValue4
  t9 := Tryd.underlying9
  a9 := Tryd.isAgg9
  z9 := Tryd.sizeOf9
  v9 := Tryd.zeroValue9
  t37 := Tryd.underlying58
  a37 := Tryd.isAgg58
  z37 := Tryd.sizeOf58
  v37 := Tryd.zeroValue58
  t127 := Tryd.underlying156
  a127 := Tryd.isAgg156
  z127 := Tryd.sizeOf156
  v127 := Tryd.zeroValue156
  t5 := Tryd.underlying5
  a5 := Tryd.isAgg5
  z5 := Tryd.sizeOf5
  v5 := Tryd.zeroValue5
  i0 := by kernel_rfl
  i3 := by kernel_rfl
  i4 := by kernel_rfl
  i5 := by kernel_rfl
  i9 := by kernel_rfl
  i37 := by kernel_rfl
  i127 := by kernel_rfl }
open Go.RowKit in
/-- internal/stringslite.Clone (what strings.Clone calls): "Clone returns a fresh copy of s.": THE SAME BYTES. Of what was there nothing has turned (a new row is laid, and frozen, where s is not empty). (LAID: no walk: one application.) -/
theorem Tryd.stringslite_Clone (s : ByteArray) (w : World) (hlim : s.size ≤ 281474976710656) :
    Calls Tryd.prog 96 #[.string s] w fun e w' => e = .returned (.string s) ∧ Below w.heap.size w w' := Any.stringslite_Clone Tryd.laysM316 s w hlim
def Tryd.lays206_ren : Go.Shelf.Ren := ⟨fun | 206 => 88 | n => n, fun | 9 => 9 | 4 => 4 | 3 => 3 | n => n, fun | n => n⟩
theorem Tryd.lays206 : Go.Proofs.Lays.n206 Tryd.prog Tryd.lays206_ren := {
  mixed := by kernel_rfl
  f206 := Tryd.func88.trans (congrArg some (by kernel_rfl))
  t3 := Tryd.underlying3
  a3 := Tryd.isAgg3
  z3 := Tryd.sizeOf3
  v3 := Tryd.zeroValue3
  t4 := Tryd.underlying4
  a4 := Tryd.isAgg4
  z4 := Tryd.sizeOf4
  v4 := Tryd.zeroValue4
  t9 := Tryd.underlying9
  a9 := Tryd.isAgg9
  z9 := Tryd.sizeOf9
  v9 := Tryd.zeroValue9 }
open Go.RowKit Go.Lib in
/-- internal/stringslite.HasPrefix (what strings.HasPrefix calls). (LAID: no walk: one application.) -/
theorem Tryd.stringslite_HasPrefix (s p : ByteArray) (w : World) :
    Calls Tryd.prog 88 #[.string s, .string p] w fun e w' => e = .returned (.bool (Lib.hasPrefix s.data.toList p.data.toList)) ∧ w' = w := Any.stringslite_HasPrefix Tryd.lays206 s p w
def Tryd.lays207_ren : Go.Shelf.Ren := ⟨fun | 207 => 98 | n => n, fun | 9 => 9 | 4 => 4 | 3 => 3 | n => n, fun | n => n⟩
theorem Tryd.lays207 : Go.Proofs.Lays.n207 Tryd.prog Tryd.lays207_ren := {
  mixed := by kernel_rfl
  f207 := Tryd.func98.trans (congrArg some (by kernel_rfl))
  t3 := Tryd.underlying3
  a3 := Tryd.isAgg3
  z3 := Tryd.sizeOf3
  v3 := Tryd.zeroValue3
  t4 := Tryd.underlying4
  a4 := Tryd.isAgg4
  z4 := Tryd.sizeOf4
  v4 := Tryd.zeroValue4
  t9 := Tryd.underlying9
  a9 := Tryd.isAgg9
  z9 := Tryd.sizeOf9
  v9 := Tryd.zeroValue9 }
open Go.RowKit Go.Lib in
/-- internal/stringslite.HasSuffix (what strings.HasSuffix calls). (LAID: no walk: one application.) -/
theorem Tryd.stringslite_HasSuffix (s p : ByteArray) (w : World) (hs : s.size ≤ 9223372036854775807) :
    Calls Tryd.prog 98 #[.string s, .string p] w fun e w' => e = .returned (.bool (Lib.hasSuffix s.data.toList p.data.toList)) ∧ w' = w := Any.stringslite_HasSuffix Tryd.lays207 s p w hs
end Go.Proofs.YtcidfkkgpehodaaDoor

namespace Go.Proofs.YtcidfkkgpehodaaDoor
open Go.RowKit Go.Lib Go.Shelf
attribute [local go_sem] Oper.semAt_some
theorem wk_ps {s : ByteArray} : ps s = if (wk s 0 0).2 = true then some ((wk s 0 0).1, sqn (wk s 0 0).1) else none := ps_wk s
set_option maxRecDepth 100000 in
theorem islen_any (w : World) (n : Int) : Calls Tryd.prog 92 #[.int .i64 n] w fun e w' => e = .returned (.bool (decide (0 ≤ n ∧ n ≤ 1048576))) ∧ w' = w := by
  by_cases h1 : 0 ≤ n
  · by_cases h2 : n ≤ 1048576
    · rw [decide_eq_true (And.intro h1 h2)]
      go_enter Tryd.func92, Tryd.ntmps92
      go_wp2
      go_ret
      exact ⟨rfl, rfl⟩
    · rw [decide_eq_false (fun h => h2 h.2)]
      go_enter Tryd.func92, Tryd.ntmps92
      go_wp2
      go_ret
      exact ⟨rfl, rfl⟩
  · rw [decide_eq_false (fun h => h1 h.1)]
    go_enter Tryd.func92, Tryd.ntmps92
    go_wp2
    go_ret
    exact ⟨rfl, rfl⟩
set_option maxRecDepth 100000 in
theorem clone_any (w : World) (s : ByteArray) (hs : s.size ≤ 140000) : Calls Tryd.prog 77 #[.string s] w fun e w' => e = .returned (.string s) ∧ Below w.heap.size w w' := by
  have HC := hide (Tryd.stringslite_Clone s w (by omega))
  go_enter Tryd.func77, Tryd.ntmps77
  go_wp2_with fail
  refine HC.out.mono ?_
  rintro _ w2 ⟨rfl, hb⟩
  have HB := hide hb
  clear hb
  go_wp2
  go_ret
  exact ⟨rfl, HB.out⟩
end Go.Proofs.YtcidfkkgpehodaaDoor

namespace Go.Proofs.YtcidfkkgpehodaaDoor
open Go.RowKit Go.Lib Go.Shelf
attribute [local go_sem] Oper.semAt_some
theorem Tryd.infoSl : (Tryd.prog.info? 124).map (fun i => (i.zero, i.size, i.bytes)) = some (some (.agg #[.string ⟨#[]⟩, .int .i64 0, .int .i64 0]), 3, 32) := by kernel_rfl
theorem in_append_run {F : Fence} {n : Nat} {P : Program} {w : World} {ops : Array Oper} {rest : List Oper} {o : Oper} {a : Act} {Q : Exit → Act → World → Prop} (hgd : o.guard = none) (s x : Operand) (t tn : TypeId)
    (ho : o.op = .call { callee := .builtin .append, args := #[s, x], argTypes := #[t, tn] }) (vs vx : Value) (hs : a.eval s = vs) (hx : a.eval x = vx)
    (v' : Value) (w' : World) (hr : (Builtin.append_ #[t, tn] o.type #[vs, vx]).run P w = .ok v' w') (h : wpListIn F n P ops Q rest (a.put o.dst v') w') : wpListIn F n P ops Q (o :: rest) a w := by
  refine wpListIn_plain hgd fun K hK => ?_
  unfold Oper.wpIn
  refine ⟨by simp [Oper.about, ho, resolve, Target.leads, Sem.run_pure], ?_⟩
  rw [Oper.semAt_plain F _ _ (by rw [ho]; intro c hc'; cases hc')]
  simp [execOp, ho, resolve, invoke, builtin, hs, hx, hr, Result.andThen]
  exact hK _ _ h
theorem OW.gs2 {α : Type} {f : α → List Value} {k : Nat} {T : TypeId} {B : Nat} {v : Value} {l : List α} {w w' : World} {p : Nat → Prop} (h : OW f k T B v l w) (hg : Gs p w w') (hp : ∀ i, v.ownBlock = some i → ¬ p i) : OW f k T B v l w' :=
  h.kb fun i hi => hg.block i (h.lt i hi).2 (hp i hi)
theorem lnV_no {s : ByteArray} (h : ps s = none) : lnV s = .tuple #[.int .i64 0, .bool false] := by
  rw [ps_wk] at h
  cases hk : (wk s 0 0).2 with
  | true => rw [hk, if_pos rfl] at h; cases h
  | false => rw [lnV, hk]; rfl
theorem lnV_some {s : ByteArray} {l : List SQ} {t : Nat} (h : ps s = some (l, t)) : lnV s = .tuple #[.int .i64 (t : Int), .bool true] ∧ wk s 0 0 = (l, true) := by
  rw [ps_wk] at h
  cases hk : (wk s 0 0).2 with
  | false => rw [hk, if_neg (by decide)] at h; cases h
  | true =>
    rw [hk, if_pos rfl] at h
    simp only [Option.some.injEq, Prod.mk.injEq] at h
    obtain ⟨h1, h2⟩ := h
    refine ⟨by rw [lnV, hk, if_pos rfl, h2], ?_⟩
    rw [← h1, ← hk]
section
variable {w : World} {s : ByteArray}
end
end Go.Proofs.YtcidfkkgpehodaaDoor

namespace Go.Proofs.YtcidfkkgpehodaaDoor
open Go.RowKit Go.Lib
/-! ### In plain terms -/
theorem rp_get (d : Nat) (h1 : 1 ≤ d) : ∀ (k : Nat) (out : List UInt8) (j : Nat), d ≤ out.length → j < out.length + k → (rp d k out).getD j 0 = if j < out.length then out.getD j 0 else out.getD (out.length - d + (j - (out.length - d)) % d) 0
  | 0, out, j, h, hj => by rw [rp, if_pos (by omega)]
  | k + 1, out, j, h, hj => by
    have hl : (out ++ [out.getD (out.length - d) 0]).length = out.length + 1 := by simp
    have hget : ∀ i, i ≤ out.length → (out ++ [out.getD (out.length - d) 0]).getD i 0 = if i < out.length then out.getD i 0 else out.getD (out.length - d) 0 := fun i hi => by
      rw [List.getD_eq_getElem?_getD, List.getElem?_append]
      split
      · rw [List.getD_eq_getElem?_getD]
      · rw [show i - out.length = 0 by omega]
        rfl
    rw [rp, rp_get d h1 k _ j (by omega) (by omega), hl]
    by_cases c1 : j < out.length
    · rw [if_pos (by omega), if_pos c1, hget j (by omega), if_pos c1]
    · rw [if_neg c1]
      by_cases c2 : j < out.length + 1
      · obtain rfl : j = out.length := by omega
        rw [if_pos (by omega), hget _ (Nat.le_refl _), if_neg (by omega), show out.length - (out.length - d) = d by omega, Nat.mod_self, Nat.add_zero]
      · rw [if_neg c2]
        obtain ⟨x, hx⟩ : ∃ x, x = j - (out.length - d) := ⟨_, rfl⟩
        have hx1 : j - (out.length + 1 - d) = x - 1 := by omega
        rw [hx1, ← hx]
        have hm := Nat.mod_lt x (show 0 < d by omega)
        by_cases c3 : x % d = 0
        · have e : (x - 1) % d = d - 1 := by
            obtain ⟨q, hq⟩ : ∃ q, q = x / d := ⟨_, rfl⟩
            have e1 := Nat.div_add_mod x d
            rw [← hq, c3] at e1
            have hq1 : 1 ≤ q := by
              rcases Nat.eq_zero_or_pos q with h0 | h0
              · rw [h0] at e1; omega
              · exact h0
            obtain ⟨r, rfl⟩ : ∃ r, q = r + 1 := ⟨q - 1, by omega⟩
            have e2 : x - 1 = d - 1 + d * r := by rw [Nat.mul_add, Nat.mul_one] at e1; omega
            rw [e2, Nat.add_mul_mod_self_left]
            exact Nat.mod_eq_of_lt (by omega)
          rw [e, hget _ (by omega), if_neg (by omega), c3, Nat.add_zero]
        · have e : (x - 1) % d = x % d - 1 := by
            have e1 := Nat.div_add_mod x d
            have e2 : x - 1 = x % d - 1 + d * (x / d) := by omega
            rw [e2, Nat.add_mul_mod_self_left]
            exact Nat.mod_eq_of_lt (by omega)
          rw [e, show out.length + 1 - d + (x % d - 1) = out.length - d + x % d by omega, hget _ (by omega), if_pos (by omega)]
/-- Bytes copied within. -/
def cpL (L : List UInt8) (y : Nat) (M : List UInt8) : List UInt8 := L.take y ++ M ++ L.drop (y + M.length)
theorem cpL_len {L M : List UInt8} {y : Nat} (h : y + M.length ≤ L.length) : (cpL L y M).length = L.length := by
  rw [cpL, List.length_append, List.length_append, List.length_take, List.length_drop]
  omega
theorem cpL_get {L M : List UInt8} {y j : Nat} (h : y + M.length ≤ L.length) : (cpL L y M).getD j 0 = if j < y then L.getD j 0 else if j < y + M.length then M.getD (j - y) 0 else L.getD j 0 := by
  have hl : (L.take y).length = y := by rw [List.length_take]; omega
  rw [cpL, List.getD_eq_getElem?_getD, List.append_assoc, List.getElem?_append, hl]
  by_cases c1 : j < y
  · rw [if_pos c1, if_pos c1, List.getElem?_take, if_pos c1, List.getD_eq_getElem?_getD]
  · rw [if_neg c1, if_neg c1, List.getElem?_append]
    by_cases c2 : j < y + M.length
    · rw [if_pos (by omega), if_pos c2, List.getD_eq_getElem?_getD]
    · rw [if_neg (by omega), if_neg c2, List.getElem?_drop, List.getD_eq_getElem?_getD, show y + M.length + (j - y - M.length) = j by omega]
theorem get_sub (L : List UInt8) (f k i : Nat) (hi : i < k) : ((L.drop f).take k).getD i 0 = L.getD (f + i) 0 := by
  rw [List.getD_eq_getElem?_getD, List.getElem?_take, if_pos hi, List.getElem?_drop, List.getD_eq_getElem?_getD]
theorem list_getD {L M : List UInt8} (hl : L.length = M.length) (h : ∀ j, j < L.length → L.getD j 0 = M.getD j 0) : L = M := by
  apply List.ext_getElem hl
  intro i h1 h2
  have := h i h1
  rw [List.getD_eq_getElem?_getD, List.getD_eq_getElem?_getD, List.getElem?_eq_getElem h1, List.getElem?_eq_getElem h2] at this
  exact this
/-! ### In memory -/
def bv (b : UInt8) : Value := .int .u8 (b.toNat : Int)
section
variable {w w' : World} {g : Nat} {L : List UInt8}
theorem Tryd.sizeU8 : (Tryd.prog.info? 5).map (·.size) = some 1 := by kernel_rfl
theorem BQ.gs {p : Nat → Prop} (h : BQ w g L) (hg : Gs p w w') (hp : ¬ p g) : BQ w' g L := (hg.block g h.lt hp).trans h
theorem BQ.row (h : BQ w g L) (M : List UInt8) : BQ (w.setRow g (M.map fun b => Value.int .u8 (b.toNat : Int)).toArray) g M := setRow_heap w g _ _ _ _ h
theorem gs_row (w : World) (g : Nat) (cs : Array Value) : Gs (fun i => i = g) w (w.setRow g cs) := ⟨rfl, rfl, rfl, by simp, fun i _ hi => setRow_other _ _ _ _ hi⟩
theorem cpy_own (h : BQ w g L) {y f k sl sc dl dc : Nat} (hk : k = Nat.min sl dl) (hy : y + k ≤ L.length) (hf : f + k ≤ L.length) :
    ∃ wc, (Builtin.copy_ #[58, 58] 3 #[.slice (some ⟨g, y, none⟩) dl dc, .slice (some ⟨g, f, none⟩) sl sc]).run Tryd.prog w = .ok (.int .i64 (k : Int)) wc ∧ BQ wc g (cpL L y ((L.drop f).take k)) ∧ Gs (fun i => i = g) w wc := by
  have hMl : ((L.drop f).take k).length = k := by rw [List.length_take, List.length_drop]; omega
  have hcl : (((L.drop f).take k).map fun b => Value.int .u8 (b.toNat : Int)).length = k := by rw [List.length_map, hMl]
  have hcp := run_copy_row (P := Tryd.prog) w 58 58 3 5 g y dl dc ⟨g, f, none⟩ sl sc _ 5 (((L.drop f).take k).map fun b => Value.int .u8 (b.toNat : Int)) Tryd.underlying58 Tryd.sizeU8 h (by rw [hcl, hk]) (fun j v hj => by
      rw [List.getElem?_map, Option.map_eq_some_iff] at hj
      obtain ⟨b, hb, rfl⟩ := hj
      rw [List.getElem?_take] at hb
      split at hb
      · rw [List.getElem?_drop] at hb
        have hl := (List.getElem?_eq_some_iff.1 hb).1
        rw [Addr.add_mid, h.cell hl]
        rw [(List.getElem?_eq_some_iff.1 hb).2]
      · cases hb) (by rw [hcl]; simp; omega) (fun v hv => by
      rw [List.mem_map] at hv
      obtain ⟨b, _, rfl⟩ := hv
      rfl)
  rw [hcl] at hcp
  refine ⟨_, hcp, ?_, gs_row _ _ _⟩
  have e : ((L.map fun b => Value.int .u8 (b.toNat : Int)).toArray.toList.take y ++ (((L.drop f).take k).map fun b => Value.int .u8 (b.toNat : Int)) ++ (L.map fun b => Value.int .u8 (b.toNat : Int)).toArray.toList.drop (y + k)) = (cpL L y ((L.drop f).take k)).map fun b => Value.int .u8 (b.toNat : Int) := by
    rw [cpL, hMl, List.map_append, List.map_append, List.map_take (l := L), List.map_drop (l := L)]
  rw [e]
  exact h.row _
theorem cpy_str (h : BQ w g L) {y dl dc : Nat} (s : ByteArray) (hk : s.size ≤ dl) (hy : y + s.size ≤ L.length) :
    ∃ wc, (Builtin.copy_ #[58, 9] 3 #[.slice (some ⟨g, y, none⟩) dl dc, .string s]).run Tryd.prog w = .ok (.int .i64 (s.size : Int)) wc ∧ BQ wc g (cpL L y s.data.toList) ∧ Gs (fun i => i = g) w wc := by
  have hcp := run_copy_row_string (P := Tryd.prog) w 58 9 3 5 g y dl dc s _ 5 Tryd.underlying58 Tryd.sizeU8 h hk (by simp; omega)
  refine ⟨_, hcp, ?_, gs_row _ _ _⟩
  have hl : s.data.toList.length = s.size := by simp
  have e : ((L.map fun b => Value.int .u8 (b.toNat : Int)).toArray.toList.take y ++ Lib.byteCells s.data.toList ++ (L.map fun b => Value.int .u8 (b.toNat : Int)).toArray.toList.drop (y + s.size)) = (cpL L y s.data.toList).map fun b => Value.int .u8 (b.toNat : Int) := by
    rw [cpL, hl, List.map_append, List.map_append, List.map_take (l := L), List.map_drop (l := L)]
    rfl
  rw [e]
  exact h.row _
end
/-- A copy whose run is known, as a step of a region that draws its order. -/
theorem step_copy_run {P : Program} {ops : Array Oper} {o : Oper} {a : Act} {w : World} {K : Act → World → Prop} {Q : Exit → Act → World → Prop} {E : Prop} (hgd : o.guard = none) (dst : Option Tmp) (hdst : o.dst = dst) (s x : Operand) (t tn : TypeId)
    (ho : o.op = .call { callee := .builtin .copy, args := #[s, x], argTypes := #[t, tn] }) (vs vx : Value) (hs : a.eval s = vs) (hx : a.eval x = vx)
    (v' : Value) (w' : World) (hr : (Builtin.copy_ #[t, tn] o.type #[vs, vx]).run P w = .ok v' w') (h : K (a.put dst v') w') :
    if Region.wanted o (yielded ops a.tmps) = true then Oper.wp P o a w K Q else E := by
  have hw : Region.wanted o (yielded ops a.tmps) = true := by simp [Region.wanted, hgd]
  rw [if_pos hw]
  subst hdst
  unfold Oper.wp
  simp [execOp, ho, resolve, invoke, builtin, hs, hx, hr, Result.andThen]
  exact h
/-- What is repeated, byte by byte. -/
def rpF (L : List UInt8) (at_ d j : Nat) : UInt8 := if j < at_ then L.getD j 0 else L.getD (at_ - d + (j - (at_ - d)) % d) 0
section
variable {w : World} {g at_ d n c : Nat} {L : List UInt8}
set_option maxRecDepth 100000 in
set_option maxHeartbeats 1600000 in
theorem repeat_any (h : BQ w g L) (h1 : at_ ≤ n) (h2 : n ≤ L.length) (h3 : 1 ≤ d) (h4 : d ≤ at_) (h5 : n ≤ c) (h6 : L.length ≤ 50000000) :
    Calls Tryd.prog 95 #[.slice (some ⟨g, 0, none⟩) n c, .int .i64 (at_ : Int), .int .i64 (d : Int)] w fun e w' => e = .returned (.int .i64 ((n - at_ : Nat) : Int)) ∧ ∃ L', BQ w' g L' ∧ L'.length = L.length ∧ L'.take n = rp d (n - at_) (L.take at_) ∧ Gs (fun i => i = g) w w' := by
  have H0 := hide h
  obtain ⟨f, hf⟩ : ∃ f, f = at_ - d := ⟨_, rfl⟩
  have e1 : (at_ : Int) - (d : Int) = (f : Int) := by omega
  have e2 : IntKind.i64.wrap (f : Int) = (f : Int) := by rw [IntKind.wrap_i64]; omega
  have HF := hide hf
  clear h hf
  go_enter Tryd.func95, Tryd.ntmps95
  go_wp2
  go_loopw [1] (fun v wr => ∃ (a : Nat) (L' : List UInt8), v = .int .i64 (a : Int) ∧ at_ ≤ a ∧ a ≤ n ∧ BQ wr g L' ∧ L'.length = L.length ∧ (∀ j, j < a → L'.getD j 0 = rpF L at_ d j) ∧ (a = n ∨ (a - at_) % d = 0) ∧ Gs (fun i => i = g) w wr) (fun v _ => n - (Go.RowKit.intOf v).toNat)
  case atStart => exact ⟨at_, L, rfl, Nat.le_refl _, h1, H0.out, rfl, fun j hj => by rw [rpF, if_pos hj], .inr (by simp), Gs.refl _ _⟩
  case round =>
    obtain ⟨a, L', rfl, ha1, ha2, hB, hLl, hL, hm, hG⟩ := hrel
    by_cases hlt : a < n
    · obtain ⟨k, hk⟩ : ∃ k, k = Nat.min (a - f) (n - a) := ⟨_, rfl⟩
      have hff := HF.out
      have hk1 : k ≤ a - f := by rw [hk]; exact Nat.min_le_left _ _
      have hk2 : k ≤ n - a := by rw [hk]; exact Nat.min_le_right _ _
      have hk3 : 1 ≤ k := by rw [hk]; exact Nat.le_min.2 ⟨by omega, by omega⟩
      have hk4 : k = a - f ∨ k = n - a := by
        rw [hk]
        rcases Nat.le_total (a - f) (n - a) with h | h
        · exact .inl (Nat.min_eq_left h)
        · exact .inr (Nat.min_eq_right h)
      have hB' : BQ wr.drew g L' := hB
      obtain ⟨wc, hr, hBc, hGc⟩ := cpy_own hB' (y := a) (f := f) (sl := a - f) (dl := n - a) (sc := c - f) (dc := c - a) hk (by omega) (by omega)
      have hMl : ((L'.drop f).take k).length = k := by rw [List.length_take, List.length_drop]; omega
      have HN : Hid (∃ (a' : Nat) (L'' : List UInt8), a' = a + k ∧ at_ ≤ a' ∧ a' ≤ n ∧ BQ wc g L'' ∧ L''.length = L.length ∧ (∀ j, j < a' → L''.getD j 0 = rpF L at_ d j) ∧ (a' = n ∨ (a' - at_) % d = 0) ∧ Gs (fun i => i = g) w wc) := by
        refine ⟨_, _, rfl, by omega, by omega, hBc, by rw [cpL_len (by rw [hMl]; omega), hLl], fun j hj => ?_, ?_, ⟨hGc.os.trans hG.os, hGc.tape.trans hG.tape, hGc.output.trans hG.output, Nat.le_trans hG.size hGc.size, fun i hi hp => (hGc.block i (Nat.lt_of_lt_of_le hi hG.size) hp).trans (hG.block i hi hp)⟩⟩
        · rw [cpL_get (by rw [hMl]; omega), hMl]
          by_cases c1 : j < a
          · rw [if_pos c1]
            exact hL j c1
          · rw [if_neg c1, if_pos (by omega), get_sub _ _ _ _ (by omega), hL _ (by omega)]
            have hmul : (a - at_) % d = 0 := by
              rcases hm with h | h
              · omega
              · exact h
            have key : (f + (j - a) - f) % d = (j - f) % d := by
              have e := Nat.div_add_mod (a - at_) d
              rw [hmul] at e
              have e3 : j - f = (j - a) + d * ((a - at_) / d + 1) := by
                rw [Nat.mul_add, Nat.mul_one]
                omega
              rw [e3, Nat.add_mul_mod_self_left, show f + (j - a) - f = j - a by omega]
            rw [rpF, rpF, ← hff, if_neg (show ¬ j < at_ by omega), ← key]
            split
            · rename_i h
              rw [show f + (j - a) - f = j - a by omega, Nat.mod_eq_of_lt (by omega)]
            · rfl
        · rcases hk4 with h | h
          · right
            have hmul : (a - at_) % d = 0 := by
              rcases hm with h | h
              · omega
              · exact h
            rw [show a + k - at_ = (a - at_) + (a - at_) + d by omega, Nat.add_mod_right, Nat.add_mod, hmul]
            simp
          · left
            omega
      have d1 : (a : Int) < (n : Int) := by omega
      have d2 : ¬ c = a := by omega
      have d3 : ¬ c = f := by omega
      have d4 : (f : Int) ≤ (a : Int) := by omega
      have d5 : (a : Int) ≤ (n : Int) := by omega
      have d6 : (n : Int) ≤ (c : Int) := by omega
      have d7 : (a : Int) ≤ (c : Int) := by omega
      have d8 : IntKind.i64.wrap ((a : Int) + (k : Int)) = (a : Int) + (k : Int) := by rw [IntKind.wrap_i64]; omega
      have HK3 := hide (And.intro hk3 (And.intro hk2 ha1))
      clear hB hLl hL hm hG hk hk1 hk2 hk3 hk4 hB' hBc hGc hMl hff ha1
      go_upto_region 3 with fail
      go_region_held_law (fun _ => True) (trivial) (first | (refine step_copy_run rfl (some 25) rfl _ _ 58 58 rfl _ _ rfl rfl _ _ hr ?_))
      go_wp2
      obtain ⟨a', L'', e3, m1, m2, m3⟩ := HN.out
      exact ⟨⟨a', L'', by rw [e3]; go_num, m1, m2, m3⟩, by have := HK3.out; simp [Go.RowKit.intOf]; omega⟩
    · obtain rfl : a = n := by omega
      have d1 : ¬ (a : Int) < (a : Int) := by omega
      have e3 : (a : Int) - (at_ : Int) = ((a - at_ : Nat) : Int) := by omega
      have e4 : IntKind.i64.wrap ((a - at_ : Nat) : Int) = ((a - at_ : Nat) : Int) := by rw [IntKind.wrap_i64]; omega
      have HE : Hid (∃ L'', BQ wr g L'' ∧ L''.length = L.length ∧ L''.take a = rp d (a - at_) (L.take at_) ∧ Gs (fun i => i = g) w wr) := by
        have htl : (L.take at_).length = at_ := by rw [List.length_take]; omega
        refine ⟨L', hB, hLl, list_getD (by rw [rp_len, htl, List.length_take]; omega) (fun j hj => ?_), hG⟩
        rw [List.length_take] at hj
        rw [rp_get d h3 _ _ _ (by omega) (by omega), htl]
        have ht : ∀ i, i < at_ → (L.take at_).getD i 0 = L.getD i 0 := fun i hi => by
          rw [List.getD_eq_getElem?_getD, List.getElem?_take, if_pos hi, List.getD_eq_getElem?_getD]
        rw [List.getD_eq_getElem?_getD, List.getElem?_take, if_pos (by omega), ← List.getD_eq_getElem?_getD, hL j (by omega), rpF]
        split
        · rename_i h; rw [ht _ h]
        · have := Nat.mod_lt (j - (at_ - d)) (show 0 < d by omega)
          rw [ht _ (by omega)]
      clear hB hLl hL hm hG
      go_wp2
      go_ret
      exact ⟨by first | rfl | rw [e3], HE.out⟩
end
end Go.Proofs.YtcidfkkgpehodaaDoor

namespace Go.Proofs.YtcidfkkgpehodaaDoor
open Go.RowKit Go.Lib
section
variable {P : Program} {md : Region.Mode} {ops : Array Oper} {Q : Exit → Act → World → Prop} {S : World → Prop} {z : Nat}
/-- Whatever order is picked: S holds behind every operation but z. -/
def AnyZ (P : Program) (md : Region.Mode) (ops : Array Oper) (Q : Exit → Act → World → Prop) (S : World → Prop) (z : Nat) : Nat → Array Bool → Act → World → Prop
  | 0, lis, a, w => Region.ready md ops lis = [] ∧ Q .normal a w
  | f + 1, lis, a, w => (Region.ready md ops lis = [] → Q .normal a w) ∧ ∀ j ∈ Region.ready md ops lis, wpOp P ops Q j (fun a' w' => (j ≠ z → S w') ∧ AnyZ P md ops Q S z f (lis.setIfInBounds j true) a' w') a w
theorem AnyZ.any : ∀ (f : Nat) (lis : Array Bool) (a : Act) (w : World), AnyZ P md ops Q S z f lis a w → wpAny P md ops Q f lis a w
  | 0, _, _, _, h => h
  | f + 1, _, _, _, h => ⟨h.1, fun j hj => wpOp_mono (fun a' w' k => AnyZ.any f _ a' w' k.2) (h.2 j hj)⟩
/-- z waits for i. -/
def waitsB (md : Region.Mode) (ops : Array Oper) (z i : Nat) : Bool := match ops[z]? with
  | some o => o.after.any fun e => Region.binds md e && e.on == i
  | none => true
theorem not_ready {i : Nat} {lis : Array Bool} (hz : waitsB md ops z i = true) (hi : i ∈ Region.ready md ops lis) (hr : z ∈ Region.ready md ops lis) : False := by
  obtain ⟨_, o, ho, hall⟩ := mem_ready.1 hr
  obtain ⟨h0, _⟩ := mem_ready.1 hi
  unfold waitsB at hz
  rw [ho] at hz
  obtain ⟨k, hk, he⟩ := Array.any_eq_true.1 hz
  simp only [Bool.and_eq_true, beq_iff_eq] at he
  have h1 := hall _ (Array.getElem_mem hk) he.1
  rw [he.2] at h1
  rcases Nat.lt_or_ge i lis.size with h | h
  · simp [h] at h0 h1; rw [h0] at h1; cases h1
  · simp [Array.getElem?_eq_none h] at h1
theorem AnyZ.first {i : Nat} {oi : Oper} {v : Value} (hi : ops[i]? = some oi) (hsel : ∀ (j : Nat) (o : Oper) cs b, ops[j]? = some o → o.op ≠ .select cs b) (hz : waitsB md ops z i = true)
    (hQ : ∀ c a w, Q (.panic c) (a.put oi.dst v) w → Q (.panic c) a w) :
    ∀ (f : Nat) (lis : Array Bool) (a : Act) (w : World),
      (∀ j oj, ops[j]? = some oj → j ≠ i → lis.getD j true = false → (∀ e ∈ oj.after, Region.binds md e = true → e.on ≠ i) → oi.apart ops oj = true) →
      i ∈ Region.ready md ops lis → YieldsIf P ops S oi v a → S w →
      AnyZ P md ops Q S z f (lis.setIfInBounds i true) (a.put oi.dst v) w → AnyZ P md ops Q S z (f + 1) lis a w
  | f, lis, a, w, hap, hr, hy, hS, H => by
    refine ⟨fun h => (by rw [h] at hr; cases hr), fun j hj => ?_⟩
    by_cases hji : j = i
    · subst hji; exact hy.wpOp hi hS ⟨fun _ => hS, H⟩
    have hrj := ready_mono hj hji
    match f, H with
    | 0, H => rw [H.1] at hrj; cases hrj
    | f + 1, H =>
      have hjz : j ≠ z := fun e => not_ready hz hr (e ▸ hj)
      obtain ⟨hun, oj, hoj, hall⟩ := mem_ready.1 hj
      have hno : ∀ e ∈ oj.after, Region.binds md e = true → e.on ≠ i := fun e he hb heq => by
        have h1 := hall e he hb
        have h0 := (mem_ready.1 hr).1
        rw [heq] at h1
        rcases Nat.lt_or_ge i lis.size with h | h
        · simp [h] at h0 h1; rw [h0] at h1; cases h1
        · simp [Array.getElem?_eq_none h] at h1
      have h2 := wpOp_putIf hoj (hap j oj hoj hji hun hno) (fun cs b => hsel i oi cs b hi) (fun cs b => hsel j oj cs b hoj) hQ hy (H.2 j hrj)
      refine wpOp_mono (fun a' w' h3 => ?_) h2
      have hS' := h3.2.1 hjz
      refine ⟨fun _ => hS', AnyZ.first hi hsel hz hQ f (lis.setIfInBounds j true) a' w' (fun k ok hk hki hu hn => hap k ok hk hki ?_ hn) (ready_mono hr (Ne.symm hji)) h3.1 hS' ?_⟩
      · by_cases hjk : j = k
        · subst hjk; exact hun
        · rw [getD_set_ne true hjk] at hu; exact hu
      · rw [Array.setIfInBounds_comm _ _ hji]
        exact h3.2.2
theorem AnyZ.take {i d : Nat} {oi : Oper} {v : Value} {f : Nat} {lis : Array Bool} {a : Act} {w : World} (hi : ops[i]? = some oi) (hd : oi.dst = some d)
    (hs : Region.noSelect ops = true) (hf : Region.free md ops lis i = true) (hr : (Region.ready md ops lis).contains i = true) (hz : waitsB md ops z i = true)
    (hQ : ∀ c a w, Q (.panic c) (a.put oi.dst v) w → Q (.panic c) a w) (hy : YieldsIf P ops S oi v a) (hS : S w)
    (h : AnyZ P md ops Q S z f (lis.setIfInBounds i true) ⟨a.tmps.setIfInBounds d v, a.defers⟩ w) : AnyZ P md ops Q S z (f + 1) lis a w :=
  AnyZ.first hi (Region.noSelect_spec hs) hz hQ f lis a w (Region.free_spec hi hf) (by simpa using hr) hy hS (by rw [hd]; exact h)
/-- One operation alone may come up. -/
theorem AnyZ.one {i : Nat} {o : Oper} {f : Nat} {lis : Array Bool} {a : Act} {w : World} (hr : Region.ready md ops lis = [i]) (ho : ops[i]? = some o)
    (h : ∀ K' : Act → World → Prop, Shut (∀ a w, (i ≠ z → S w) → ((i ≠ z → S w) → AnyZ P md ops Q S z f (lis.setIfInBounds i true) a w) → K' a w) → if Region.wanted o (yielded ops a.tmps) = true then Oper.wp P o a w K' Q else K' (a.put o.dst undef) w) :
    AnyZ P md ops Q S z (f + 1) lis a w := by
  refine ⟨fun h0 => (by rw [hr] at h0; cases h0), fun j hj => ?_⟩
  rw [hr] at hj
  have : j = i := by simpa using hj
  subst this
  exact wpOp_step ho fun K' hK => h K' fun a w hS hW => hK a w ⟨hS, hW hS⟩
theorem AnyZ.done {lis : Array Bool} {a : Act} {w : World} (hr : Region.ready md ops lis = []) (h : Q .normal a w) : ∀ f, AnyZ P md ops Q S z f lis a w
  | 0 => ⟨hr, h⟩
  | _ + 1 => ⟨fun _ => h, by rw [hr]; simp⟩
/-- No operation is a defer statement. -/
def noDef (ops : Array Oper) : Bool := ops.toList.all fun o => match o.op with
  | .defer _ => false
  | _ => true
theorem noDef_spec (h : noDef ops = true) {i : Nat} {o : Oper} (ho : ops[i]? = some o) : ∀ c, o.op ≠ .defer c := fun c hc => by
  have h2 := List.all_eq_true.1 h o (by
    obtain ⟨hi, rfl⟩ := Array.getElem?_eq_some_iff.1 ho
    exact Array.getElem_mem_toList hi)
  rw [hc] at h2
  cases h2
theorem upon_round {o : Oper} {a : Act} {K : Act → World → Prop} {l : Nat} {r : Result Next} (h : o.upon P a K Q r) : o.uponIn (Fence.wide.inRound l) 0 P a K Q r := by
  cases r with
  | ok x w' =>
    cases x with
    | value v => exact h
    | skip => exact h
    | defer d => exact h
    | enter f args => exact ⟨(fun e => nomatch e), (CallsIn.inRound l (callsIn_wide.2 h))⟩
    | row rw_ args => exact ⟨(fun e => nomatch e), fun c cs _ => by
        obtain ⟨v, w2, r, s⟩ := h c cs
        exact ⟨v, w2, r, stepsIn_wide.2 s⟩⟩
    | _ => exact h.elim
  | halt x w' => cases x <;> exact h
theorem wpOp_round {i l : Nat} {K : Act → World → Prop} {a : Act} {w : World} (hL : ¬ LetsOut Q) (hn : noDef ops = true) (h : wpOp P ops Q i K a w) : wpOpIn (Fence.wide.inRound l) 0 P ops Q i K a w := by
  unfold wpOp at h
  unfold wpOpIn
  cases ho : ops[i]? with
  | none =>
    rw [ho] at h
    exact h
  | some o =>
    rw [ho] at h
    simp only at h ⊢
    split
    · rename_i hw
      rw [if_pos hw] at h
      refine ⟨fun _ _ => trivial, ?_⟩
      rw [Oper.semAt_eq _ _ _ (noDef_spec hn ho)]
      rcases h with h | h
      · exact upon_round h
      · exact absurd h.2 hL
    · rename_i hw
      rw [if_neg hw] at h
      exact ⟨fun _ _ => trivial, h⟩
theorem any_round {l : Nat} (hL : ¬ LetsOut Q) (hn : noDef ops = true) : ∀ (f : Nat) (lis : Array Bool) (a : Act) (w : World), wpAny P md ops Q f lis a w → wpAnyIn (Fence.wide.inRound l) 0 P md ops Q f lis a w
  | 0, _, _, _, h => h
  | f + 1, _, _, _, h => ⟨h.1, fun j hj => wpOpIn_mono (fun a' w' k => any_round hL hn f _ a' w' k) (wpOp_round hL hn (h.2 j hj))⟩
theorem AnyZ.round {id l : Nat} {a : Act} {w : World} (hL : ¬ LetsOut Q) (hm : P.follows .mixedOrders = true) (hn : noDef ops = true) (h : AnyZ P .any ops Q S z ops.size (Array.replicate ops.size false) a w.drew) : (Code.region id ops true).wpIn (Fence.wide.inRound l) 0 P Q a w :=
  wpIn_region_any hm (any_round hL hn _ _ _ _ (AnyZ.any _ _ _ _ h))
theorem AnyZ.start {id : Nat} {a : Act} {w : World} (hm : P.follows .mixedOrders = true) (h : AnyZ P .any ops Q S z ops.size (Array.replicate ops.size false) a w.drew) : (Code.region id ops true).wp P Q a w :=
  wp_region_any hm (AnyZ.any _ _ _ _ h)
theorem step_store_run {P : Program} {ops : Array Oper} {o : Oper} {a : Act} {w : World} {K : Act → World → Prop} {Q : Exit → Act → World → Prop} {E : Prop} (hgd : o.guard = none) (ty : TypeId) (x y : Operand) (ho : o.op = .store ty x y)
    (p v : Value) (hx : a.eval x = p) (hy : a.eval y = v) (w' : World) (hr : (Instr.storeAt ty p v).run P w = .ok () w') (h : K (a.put o.dst undef) w') :
    if Region.wanted o (yielded ops a.tmps) = true then Oper.wp P o a w K Q else E := by
  have hw : Region.wanted o (yielded ops a.tmps) = true := by simp [Region.wanted, hgd]
  rw [if_pos hw]
  unfold Oper.wp execOp
  simp only [ho, hx, hy, Sem.run_bind, Sem.run_pure, Result.andThen_ok, hr]
  exact h
end
end Go.Proofs.YtcidfkkgpehodaaDoor
