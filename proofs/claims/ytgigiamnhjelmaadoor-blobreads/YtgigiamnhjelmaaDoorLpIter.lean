/-
  Lz: the sequences of a block, by the program: an iterator.
-/
import Derived.Test.YtgigiamnhjelmaaDoorLpSeq
import Derived.Test.YtgigiamnhjelmaaDoorLpRange
namespace Go.Proofs.YtgigiamnhjelmaaDoor
open Go.RowKit Go.Lib Go.Shelf
attribute [local go_sem] Oper.semAt_some
/-- What is handed at a round. -/
def CQ (s : ByteArray) (t : Nat) (vs : Array Value) : Prop :=
  (∃ q, (wk s 0 0).1[t]? = some q ∧ vs = #[.agg #[.string q.lit, .int .i64 (q.dist : Int), .int .i64 (q.long : Int)], .bool true]) ∨
  ((wk s 0 0).2 = false ∧ t = (wk s 0 0).1.length ∧ ∃ q : SQ, vs = #[.agg #[.string q.lit, .int .i64 (q.dist : Int), .int .i64 (q.long : Int)], .bool false])
/-- How many rounds there are. -/
def SQt (s : ByteArray) (t : Nat) : Prop := t = (wk s 0 0).1.length + (if (wk s 0 0).2 = true then 0 else 1)
section
variable {w : World} {s : ByteArray} {bs : Nat}
set_option maxRecDepth 100000 in
theorem sequencesf_any : Calls Tryd.prog 60 #[.string s] w fun e w' => e = .returned (.func (.func 71) #[] #[.pointer (some ⟨w.heap.size, 0, none⟩)]) ∧ w' = w.alloc (.cells #[.string s] 9) := by
  have hmf : ∀ (fn : Fn) (first cap : Array Value) (w : World), (Instr.makeFunc fn first cap).run Tryd.prog w = .ok (.func fn first cap) w := fun _ _ _ _ => rfl
  go_enter Tryd.func60, Tryd.ntmps60
  go_wp2
  go_ret
  exact ⟨rfl, rfl⟩
set_option maxRecDepth 100000 in
set_option maxHeartbeats 1600000 in
theorem seqs1 (h1 : w.heap[bs]? = some (.cells #[.string s] 9 (0, 0))) (hs : s.size ≤ 4000) :
    SeqN 71 #[.pointer (some ⟨bs, 0, none⟩)] (CQ s) (SQt s) (fun _ => True) w := fun l J Jx W hB hl hJ hJx hY h0 => by
  have y1 := (cell1 ((hB.block bs (lt_of_block h1)).trans h1)).1
  obtain ⟨b, hb⟩ : ∃ b, b = W.heap.size := ⟨_, rfl⟩
  obtain ⟨W1, hW1⟩ : ∃ W1, W.alloc (.cells #[.string s, .int .i64 0, .bool false] 115) = W1 := ⟨_, rfl⟩
  have hB1 : Below W.heap.size W W1 := by rw [← hW1]; exact (Below.refl _ _).alloc (Nat.le_refl _) _
  have hR1 : RD W1 b s 0 0 false := by
    have := heap_alloc_new W (.cells #[.string s, .int .i64 0, .bool false] 115)
    rw [RD, show s.extract 0 s.size = s by simp, ← hW1, hb]
    exact this
  have hJ1 : J 0 (Me b) W1 := hJ 0 _ (Me b) W W1 h0 (Gs.of_below _ hB1) (fun i e => by
    have h2 := hR1.lt
    cases e
    exact ⟨h2, .inr (by omega)⟩)
  have H0 := hide (And.intro hR1 hJ1)
  have HJ := hide hJ
  have HJx := hide hJx
  have HY := hide hY
  have HWk : Hid ((wk s 0 0).1.drop 0 = (wk s 0 0).1) := rfl
  have Hb := hide hb
  have HW1 := hide hW1
  clear hB hl hJ hJx hY h0 h1 hB1 hR1 hJ1 hb hW1
  refine callsIn_of_wp Tryd.func71 rfl trivial ?_ rfl
  simp only [Tryd.ntmps71, List.size_toArray, List.length_cons, List.length_nil, Nat.reduceAdd, Nat.reduceSub, Array.replicate_succ, Array.replicate_zero, List.push_toArray, List.append_toArray, List.nil_append, List.cons_append]
  gi_wp2
  rw [HW1.out, ← Hb.out]
  gi_loopw [4] (fun m wr => (m = .bool true ∧ ∃ t i n : Nat, i ≤ s.size ∧ n ≤ 289 * i ∧ J t (Me b) wr ∧ RD wr b s i n false ∧ (wk s 0 0).1.drop t = (wk s i n).1 ∧ t ≤ (wk s 0 0).1.length ∧ (wk s 0 0).2 = (wk s i n).2) ∨ (m = .bool false ∧ ((∃ t N, SQt s t ∧ J t N wr) ∨ (∃ t N, True ∧ Jx t N wr)))) (fun m wr => moreV m (szW wr b))
  case atStart => exact .inl ⟨rfl, 0, 0, 0, Nat.zero_le _, Nat.zero_le _, H0.out.2, H0.out.1, rfl, Nat.zero_le _, rfl⟩
  case round =>
    rcases hrel with ⟨rfl, t, i, n, hi, hn, hj, hR, hd, ht, h2⟩ | ⟨rfl, hE⟩
    · have HS := hide (seq_any hR hi (by omega) hs)
      have hsz := hR.szW hi
      have H1 := hide (And.intro hj (And.intro hR (And.intro hd (And.intro ht h2))))
      clear hj hR hd ht h2
      gi_wp2
      refine ⟨trivial, rfl, (callsIn_wide.2 HS.out).mono ?_⟩
      rintro e w2 ⟨⟨L, dd, ll⟩, rfl, hG2, hP2⟩
      obtain ⟨g, hg⟩ : ∃ g, g = w2.heap.size := ⟨_, rfl⟩
      obtain ⟨w3, hw3⟩ : ∃ w3, w2.alloc (.cells #[.string L, .int .i64 (dd : Int), .int .i64 (ll : Int)] 66) = w3 := ⟨_, rfl⟩
      have hB3 : Below w2.heap.size w2 w3 := by rw [← hw3]; exact (Below.refl _ _).alloc (Nat.le_refl _) _
      have hq3 : QB w3 g L dd ll := by rw [← hw3, hg]; exact heap_alloc_new w2 _
      have hJ3 : J t (fun i => i = b ∨ i = g) w3 := HJ.out t (Me b) _ wr w3 H1.out.1 (hG2.bel hB3) (fun i e => by
        have h1 := lt_of_block hq3
        have h2 := hG2.size
        have h3 := H1.out.2.1.lt
        rcases e with rfl | rfl
        · exact ⟨by omega, .inl rfl⟩
        · exact ⟨h1, .inr (by omega)⟩)
      have hN3 : ∀ i, (i = b ∨ i = g) → i < w3.heap.size := fun i e => by
        have h1 := lt_of_block hq3
        have h2 := hG2.size
        have h3 := H1.out.2.1.lt
        rcases e with rfl | rfl
        · omega
        · exact h1
      obtain ⟨u0, u1, u2⟩ := cell3 hq3
      have HW3 := hide hw3
      have HG3 := hide hg
      obtain ⟨q, hq⟩ : ∃ q : SQ, q = ⟨L, dd, ll⟩ := ⟨_, rfl⟩
      rcases hP2 with ⟨hst, d, hR2⟩ | ⟨k, hst, hR2⟩
      · have hC : CQ s t #[.agg #[.string L, .int .i64 (dd : Int), .int .i64 (ll : Int)], .bool false] := by
          obtain ⟨_, _, hd, ht, h2⟩ := H1.out
          rw [wk_no hst] at hd h2
          have hl := List.drop_eq_nil_iff.1 hd
          exact .inr ⟨h2, by omega, ⟨L, dd, ll⟩, rfl⟩
        have HSt : Hid (SQt s (t + 1)) := by
          obtain ⟨_, _, hd, ht, h2⟩ := H1.out
          rw [wk_no hst] at hd h2
          have hl := List.drop_eq_nil_iff.1 hd
          show SQt s (t + 1)
          rw [SQt, h2, if_neg (by decide)]
          omega
        have hR3 := hR2.bel hB3
        have z2 := (cell3 hR3).2.2
        have H3 := hide (And.intro hR3 (And.intro hq3 (And.intro hJ3 (And.intro hN3 hC))))
        obtain ⟨fn, tmps, assign, body, hy, hRd⟩ := HY.out t _ _ w3 hJ3 hC hN3
        clear hR3 hq3 hJ3 hN3 hC hB3 hg hG2 hR2 hst
        simp only [qV]
        have hgw := HG3.out.symm
        gi_wp2
        refine ⟨rfl, hRd.mono ?_⟩
        rintro e W9 ⟨hG9, (⟨rfl, hJ9⟩ | ⟨rfl, hx9⟩)⟩
        · have hR9 := H3.out.1.gs hG9 (fun e => e (.inl rfl))
          have z9 := (cell3 hR9).2.2
          have HJ9 := hide hJ9
          clear hR9 hJ9 hRd hy hG9
          gi_wp2
          exact ⟨.inr ⟨rfl, .inl ⟨_, _, HSt.out, HJ9.out⟩⟩, by simp [moreV]⟩
        · have HX9 := hide hx9
          clear hx9 hRd hy hG9
          gi_wp2
          exact ⟨.inr ⟨rfl, .inr ⟨_, _, trivial, HX9.out⟩⟩, by simp [moreV]⟩
      · have hsp := stp_spec hst
        have hC : CQ s t #[.agg #[.string L, .int .i64 (dd : Int), .int .i64 (ll : Int)], .bool true] := by
          obtain ⟨_, _, hd, ht, h2⟩ := H1.out
          refine .inl ⟨⟨L, dd, ll⟩, ?_, rfl⟩
          by_cases h0 : ll = 0
          · rw [wk_last hst h0] at hd
            have := congrArg (·[0]?) hd
            simpa using this
          · rw [wk_go hst h0] at hd
            have := congrArg (·[0]?) hd
            simpa using this
        have hR3 := hR2.bel hB3
        by_cases h0 : ll = 0
        · have HSt : Hid (SQt s (t + 1)) := by
            obtain ⟨_, _, hd, ht, h2⟩ := H1.out
            rw [wk_last hst h0] at hd h2
            have hl := congrArg List.length hd
            simp at hl
            show SQt s (t + 1)
            rw [SQt, h2, if_pos rfl]
            omega
          have c0 : ¬ (0 : Int) < (ll : Int) := by omega
          have c1 : decide (0 < ll) = false := by simp [h0]
          have HH0 := hide h0
          clear h0 hsp
          have z2 := (cell3 hR3).2.2
          have H3 := hide (And.intro hR3 (And.intro hq3 (And.intro hJ3 (And.intro hN3 hC))))
          obtain ⟨fn, tmps, assign, body, hy, hRd⟩ := HY.out t _ _ w3 hJ3 hC hN3
          clear hR3 hq3 hJ3 hN3 hC hB3 hg hG2 hR2 hst
          simp only [qV]
          have hgw := HG3.out.symm
          gi_wp2
          refine ⟨rfl, hRd.mono ?_⟩
          rintro e W9 ⟨hG9, (⟨rfl, hJ9⟩ | ⟨rfl, hx9⟩)⟩
          · have hR9 := H3.out.1.gs hG9 (fun e => e (.inl rfl))
            have z9 := (cell3 hR9).2.2
            have hq9 := (hG9.block g (lt_of_block H3.out.2.1) (fun e => e (.inr rfl))).trans H3.out.2.1
            have x9 := (cell3 hq9).2.2
            have HJ9 := hide hJ9
            clear hR9 hJ9 hRd hy hG9 hq9
            gi_wp2
            exact ⟨.inr ⟨rfl, .inl ⟨_, _, HSt.out, HJ9.out⟩⟩, by simp [moreV]⟩
          · have HX9 := hide hx9
            clear hx9 hRd hy hG9
            gi_wp2
            exact ⟨.inr ⟨rfl, .inr ⟨_, _, trivial, HX9.out⟩⟩, by simp [moreV]⟩
        · have HGo : Hid ((wk s 0 0).1.drop (t + 1) = (wk s k (n + L.size + ll)).1 ∧ t + 1 ≤ (wk s 0 0).1.length ∧ (wk s 0 0).2 = (wk s k (n + L.size + ll)).2 ∧ i < k ∧ k ≤ s.size ∧ n + L.size + ll ≤ 289 * k) := by
            obtain ⟨_, _, hd, ht, h2⟩ := H1.out
            rw [wk_go hst h0] at hd h2
            have hl := congrArg List.length hd
            simp at hl
            have hdn := congrArg (List.drop 1) hd
            rw [List.drop_drop] at hdn
            have e1 := hsp.2.2.2.1
            simp only at e1
            exact ⟨hdn, by omega, h2, hsp.1, hsp.2.1, by omega⟩
          have c0 : (0 : Int) < (ll : Int) := by omega
          have c1 : decide (0 < ll) = true := by simp; omega
          clear h0 hsp
          have z2 := (cell3 hR3).2.2
          have H3 := hide (And.intro hR3 (And.intro hq3 (And.intro hJ3 (And.intro hN3 hC))))
          obtain ⟨fn, tmps, assign, body, hy, hRd⟩ := HY.out t _ _ w3 hJ3 hC hN3
          clear hR3 hq3 hJ3 hN3 hC hB3 hg hG2 hR2 hst
          simp only [qV]
          have hgw := HG3.out.symm
          gi_wp2
          refine ⟨rfl, hRd.mono ?_⟩
          rintro e W9 ⟨hG9, (⟨rfl, hJ9⟩ | ⟨rfl, hx9⟩)⟩
          · have hR9 := H3.out.1.gs hG9 (fun e => e (.inl rfl))
            have z9 := (cell3 hR9).2.2
            have hq9 := (hG9.block g (lt_of_block H3.out.2.1) (fun e => e (.inr rfl))).trans H3.out.2.1
            have x9 := (cell3 hq9).2.2
            have HJ9 : Hid (RD W9 b s k (n + L.size + ll) false ∧ J (t + 1) (Me b) W9) := ⟨hR9, HJ.out (t + 1) _ (Me b) W9 W9 hJ9 (Gs.refl _ _) (fun i e => by cases e; exact ⟨hR9.lt, .inl (.inl rfl)⟩)⟩
            clear hR9 hJ9 hRd hy hG9 hq9
            gi_wp2
            refine ⟨.inl ⟨rfl, t + 1, k, n + L.size + ll, HGo.out.2.2.2.2.1, HGo.out.2.2.2.2.2, HJ9.out.2, HJ9.out.1, HGo.out.1, HGo.out.2.1, HGo.out.2.2.1⟩, ?_⟩
            have e1 := HJ9.out.1.szW HGo.out.2.2.2.2.1
            have e2 := HGo.out.2.2.2.1
            have e3 := HGo.out.2.2.2.2.1
            simp only [moreV]
            omega
          · have HX9 := hide hx9
            clear hx9 hRd hy hG9
            gi_wp2
            exact ⟨.inr ⟨rfl, .inr ⟨_, _, trivial, HX9.out⟩⟩, by simp [moreV]⟩
    · have HE := hide hE
      clear hE
      gi_wp2
      go_end0
      exact ⟨⟨_, rfl⟩, HE.out⟩
end
end Go.Proofs.YtgigiamnhjelmaaDoor
