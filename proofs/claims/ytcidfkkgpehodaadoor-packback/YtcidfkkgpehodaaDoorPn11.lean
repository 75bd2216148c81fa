/-
  Contracts of the program and of the statements (part 11 of 12).
-/
import Derived.Test.YtcidfkkgpehodaaDoorPn10

namespace Go.Proofs.YtcidfkkgpehodaaDoor
open Go.RowKit Go.Lib
def lnS (v : Value) : Nat := match v with | .slice _ n _ => n | _ => 0
theorem lst_stop {D : ByteArray} {m p a : Nat} {c : Int} {L : List IT} (h : m = 0 ∨ ¬ c = 0) : lst D m p c a L = (p, c, a, L) := by
  rcases h with rfl | h
  · rfl
  · cases m with
    | zero => rfl
    | succ m => rw [lst, if_neg h]
set_option maxRecDepth 100000 in
set_option maxHeartbeats 3200000 in
theorem listed_any {w : World} {D : ByteArray} (bytes : Nat) (hD : D.size ≤ 140737488355328) (hby : bytes ≤ 140737488355328) : Calls Tryd.prog 42 #[.string D, .int .i64 (bytes : Int)] w fun e w' => ∃ v, e = .returned (.tuple #[v, .bool (okLs D bytes)]) ∧ OW it6 6 54 w.heap.size v (lstA D).2.2.2 w' ∧ Below w.heap.size w w' := by
  have HRd := hide (Zq.Nm.read_any D w)
  have HS : Hid (∀ wx b, Zq.Nm.Rd 131 wx b D 0 0 → Calls Tryd.prog 64 #[.pointer (some ⟨b, 0, none⟩), .int .i64 4096] wx fun e w' => e = .returned (.int .i64 ((q00 D).num : Nat)) ∧ Zq.Nm.Rd 131 w' b D (0 + (q00 D).long) (q00 D).code ∧ wx.grownBy w' (some b)) := fun wx b hr => Zq.Nm.rShort_any 4096 hr (Nat.zero_le _) hD
  have hN : (q00 D).num ≤ 4096 := by
    rw [q00, Zq.Nm.asked_zero]
    rcases Zq.Nm.shortA_cases D 0 4096 (Nat.zero_le _) with ⟨c, hc, e⟩ | ⟨n, l, e, a1, a2, a3⟩
    · rw [e]; exact Nat.zero_le _
    · rw [e]; show n ≤ 4096; omega
  have hP : 0 + (q00 D).long ≤ D.size := asked_le' (Nat.zero_le _) (Zq.Nm.shortA_ok _ _ _ (Nat.zero_le _))
  have HF : Hid (lst D (q00 D).num (0 + (q00 D).long) (q00 D).code 5 [] = lstA D) := rfl
  rw [okLs]
  obtain ⟨FIN, hFIN⟩ : ∃ x, lstA D = x := ⟨_, rfl⟩
  obtain ⟨N, hNN⟩ : ∃ x, (q00 D).num = x := ⟨_, rfl⟩
  obtain ⟨P0, hP0⟩ : ∃ x, 0 + (q00 D).long = x := ⟨_, rfl⟩
  obtain ⟨C0, hC0⟩ : ∃ x, (q00 D).code = x := ⟨_, rfl⟩
  rw [hFIN, hNN, hP0, hC0] at HF
  rw [hNN, hP0, hC0] at HS
  rw [hFIN]
  rw [hNN] at hN
  rw [hP0] at hP
  clear hFIN hNN hP0 hC0
  obtain ⟨rb, hrb⟩ : ∃ b, w.heap.size = b := ⟨_, rfl⟩
  have HRB := hide hrb
  go_enter Tryd.func42, Tryd.ntmps42
  go_wp2_with fail
  refine HRd.out.mono ?_
  rintro _ wa ⟨rfl, hr, hb⟩
  obtain ⟨mb, hmb⟩ : ∃ b, wa.heap.size = b := ⟨_, rfl⟩
  obtain ⟨wb, hwb⟩ : ∃ wb, wa.alloc (.map #[] 0) = wb := ⟨_, rfl⟩
  have hmm : (Instr.makeMap 106 none).run Tryd.prog wa = .ok (.map (some mb)) wb := by rw [← hmb, ← hwb]; rfl
  have hrbm := hr.lt
  have HL0 : Hid (LI w w.heap.size mb D (.slice none 0 0) 0 0 [] wb) := by
    refine ⟨by rw [← hwb]; exact below_al hb _, OW.nil _ _ _ _ _, by rw [← hwb]; exact hr.alloc _, ⟨0, ?_, ?_, Nat.le_refl _⟩, Nat.le_refl _, by omega⟩
    · rw [← hwb, ← hmb]
      exact MU.made wa
    · simp [NoTwo]
  clear hr hb hmb hwb hrbm
  go_wp2_with (refine wpList_makeMap_run rfl _ rfl hmm ?_)
  rw [hrb] at HL0
  refine (HS.out _ _ HL0.out.rd).mono ?_
  rintro _ wc ⟨rfl, hr, hg⟩
  have HL1 := hide (HL0.out.ask hr hg)
  clear hr hg HL0 hmm hrb
  go_wp2
  go_loopw [4, 8] (fun v off wr => ∃ (p a : Nat) (c : Int) (L : List IT), LI w rb mb D v p c L wr ∧ off = .int .i64 (a : Int) ∧ L.length ≤ N ∧ p ≤ D.size ∧ a ≤ 5 + 65536 * L.length ∧ lst D (N - L.length) p c a L = FIN) (fun v _ _ => N - lnS v)
  case atStart => exact ⟨P0, 5, C0, [], HL1.out, rfl, Nat.zero_le _, hP, by simp, HF.out⟩
  case round =>
    obtain ⟨p, a, c, L, hO, rfl, hLN, hp, ha, hf⟩ := hrel
    obtain ⟨va, vc, rfl⟩ := OW.shp hO.own
    by_cases hgo : L.length < N ∧ c = 0
    · obtain ⟨c1, rfl⟩ := hgo
      have b1 : (L.length : Int) < (N : Int) := by omega
      have HE := hide (Zq.Nm.err_any hO.rd)
      have HI := hide (item_any (a : Int) hO.rd hp hD)
      have hq := q_le (D := D) (p := p) hp
      have h3 := q3_le (D := D) (p := p) hp
      have hst : lst D (N - (L.length + 1)) (p4' D p) (stC D p) (a + (q3 D p).num) (L ++ [itR D ⟨#[]⟩ p a]) = FIN := by
        rw [show N - L.length = N - (L.length + 1) + 1 by omega, lst, if_pos rfl] at hf
        exact hf
      have hix : itV D p (a : Int) = .agg (it6 (itR D ⟨#[]⟩ p a)).toArray := rfl
      have hid : (itR D ⟨#[]⟩ p a).id.size ≤ 32 := q1_size D p
      have hlg : (itR D ⟨#[]⟩ p a).long = ((q3 D p).num : Int) := rfl
      obtain ⟨x, hx⟩ : ∃ x, itR D ⟨#[]⟩ p a = x := ⟨_, rfl⟩
      rw [hix, hx] at HI
      rw [hx] at hst hid hlg
      obtain ⟨y, hy⟩ : ∃ y, (q3 D p).num = y := ⟨_, rfl⟩
      rw [hy] at hst hlg h3
      obtain ⟨p2, hp2⟩ : ∃ p2, p4' D p = p2 := ⟨_, rfl⟩
      obtain ⟨cc, hcc⟩ : ∃ cc, stC D p = cc := ⟨_, rfl⟩
      rw [hp2] at hst hq HI
      rw [hcc] at hst HI
      have w1 : IntKind.i64.wrap ((a : Int) + (y : Int)) = ((a + y : Nat) : Int) := by rw [IntKind.wrap_i64]; omega
      have hq4 := hq.2.2.2
      obtain ⟨xi, xp, xk, xo, xl, xs⟩ := x
      dsimp only at hid hlg
      subst hlg
      unfold it6 at HI
      dsimp only at HI
      have HO := hide hO
      have HW := hide hst
      clear hix hx hy hp2 hcc hO hf hq hst hp
      go_wp2_with fail
      refine HE.out.mono ?_
      rintro _ _ ⟨rfl, rfl⟩
      go_wp2_with fail
      refine HI.out.mono ?_
      rintro _ w2 ⟨rfl, hr, hg⟩
      have HO2 := HO.out.ask hr hg
      clear hr hg
      obtain ⟨g, hg⟩ : ∃ g, w2.heap.size = g := ⟨_, rfl⟩
      obtain ⟨W1, hW1⟩ : ∃ W1, w2.alloc (.cells #[.string xi, .string xp, .int .i64 xk, .int .i64 xo, .int .i64 (y : Int), .int .i64 xs] 54) = W1 := ⟨_, rfl⟩
      have hO3 : LI w rb mb D (.slice va L.length vc) p2 cc L W1 := by rw [← hW1]; exact HO2.bel (below_al (Below.refl _ _) _)
      have hk : W1.heap[g]? = some (.cells #[.string xi, .string xp, .int .i64 xk, .int .i64 xo, .int .i64 (y : Int), .int .i64 xs] 54 (0, 0)) := by rw [← hW1, ← hg]; exact heap_alloc_new w2 _
      have hvg : (Value.slice va L.length vc).ownBlock ≠ some g := fun e => by
        have := (HO2.own.lt g e).2
        omega
      have hmg : g ≠ mb := by
        obtain ⟨n, m1, _⟩ := HO2.set
        have := m1.lt
        omega
      obtain ⟨v', w3, hap, hf3, hs3, w4, hup, hO4, hf4⟩ := hO3.app ⟨xi, xp, xk, xo, (y : Int), xs⟩ (by omega) hid
      have hk3 := (hf3 g (lt_of_block hk) hvg).trans hk
      have hk4 := (hf4 g (lt_of_block hk) hvg hmg).trans hk
      have k30 : w3.cell? ⟨g, 0, none⟩ = some (.string xi) := by simp [World.cell?, hk3]
      have k44 : w4.cell? ⟨g, 4, none⟩ = some (.int .i64 (y : Int)) := by simp [World.cell?, hk4]
      have k1 : W1.cell? ⟨g, 0, none⟩ = some (.string xi) ∧ W1.cell? ⟨g, 1, none⟩ = some (.string xp) ∧ W1.cell? ⟨g, 2, none⟩ = some (.int .i64 xk) ∧ W1.cell? ⟨g, 3, none⟩ = some (.int .i64 xo) ∧ W1.cell? ⟨g, 4, none⟩ = some (.int .i64 (y : Int)) ∧ W1.cell? ⟨g, 5, none⟩ = some (.int .i64 xs) := by simp [World.cell?, hk]
      obtain ⟨k10, k11, k12, k13, k14, k15⟩ := k1
      unfold it6 at hap
      dsimp only at hap hup
      obtain ⟨va', vc', rfl⟩ := OW.shp hO4.own
      rw [List.length_append, List.length_singleton] at hap hO4
      have HO4 := hide hO4
      have HG := hide hg
      have HW1 := hide hW1
      clear hO3 hO4 HO2 hf3 hf4 hk hk3 hk4 hvg hmg hg hW1 hs3
      rw [← HG.out] at k10 k11 k12 k13 k14 k15 k30 k44
      rw [← HW1.out] at hap
      rw [show (w2.alloc (.cells #[.string xi, .string xp, .int .i64 xk, .int .i64 xo, .int .i64 (y : Int), .int .i64 xs] 54)).heap.size = w2.heap.size + 1 by simp] at hap
      go_wp2_with (first | (at_builtin; refine Lib.wpList_append_run _ rfl _ _ _ _ rfl _ _ rfl rfl _ _ hap ?_) | (refine wpList_mapUpdate_run rfl 106 _ _ _ rfl _ _ _ rfl rfl rfl hup ?_))
      refine ⟨⟨p2, a + y, cc, L ++ [⟨xi, xp, xk, xo, (y : Int), xs⟩], HO4.out, by simp, ?_, hq4, ?_, ?_⟩, ?_⟩
      · rw [List.length_append, List.length_singleton]; omega
      · rw [List.length_append, List.length_singleton]; omega
      · rw [List.length_append, List.length_singleton]; exact HW.out
      · show N - (L.length + 1) < N - L.length
        omega
    · have hfin : (p, c, a, L) = FIN := by
        rw [← hf]
        refine (lst_stop ?_).symm
        by_cases h0 : L.length < N
        · exact .inr (fun e => hgo ⟨h0, e⟩)
        · exact .inl (by omega)
      subst hfin
      obtain ⟨n, m1, m2, m3⟩ := hO.set
      have HEr := hide (Zq.Nm.err_any hO.rd)
      have HEn := hide (Zq.Nm.end_any hO.rd hp hD)
      have HU : Hid (∀ wx, wr.grownBy wx (some rb) → ∀ ty, (Builtin.len_ #[106] ty #[.map (some mb)]).run Tryd.prog wx = .ok (.int .i64 (n : Int)) wx) := fun wx hg ty => (m1.kb (hg.block mb m1.lt (fun e => rd_ne_map hO.rd m1 (Option.some.inj e)))).len ty
      have HFi : Hid (∀ wx, wr.grownBy wx (some rb) → OW it6 6 54 w.heap.size (.slice va L.length vc) L wx ∧ Below w.heap.size w wx) := fun wx hg => ⟨hO.own.kb fun i hi => hg.block i (hO.own.lt i hi).2 (fun e => rd_ne_own hO.rd hO.own (by rw [hi, e])), Zq.Sh.below_gb hO.be hg hO.rb_ hO.be.size⟩
      obtain ⟨E, hE⟩ : ∃ E, Zq.Nm.ended D p c = E := ⟨_, rfl⟩
      rw [hE] at HEn
      have w1 : IntKind.i64.wrap (5 + (bytes : Int)) = 5 + (bytes : Int) := by rw [IntKind.wrap_i64]; omega
      obtain ⟨e1, h1⟩ : ∃ b, (E == (0 : Int)) = b := ⟨_, rfl⟩
      obtain ⟨e2, h2⟩ : ∃ b, ((n : Int) == (L.length : Int)) = b := ⟨_, rfl⟩
      obtain ⟨e3, h3⟩ : ∃ b, ((a : Int) == 5 + (bytes : Int)) = b := ⟨_, rfl⟩
      have g2 : decide (NoTwo L) = e2 := by
        rw [← h2]
        by_cases q : NoTwo L
        · rw [decide_eq_true q, m2.2 q]; simp
        · have : n ≠ L.length := fun e => q (m2.1 e)
          rw [decide_eq_false q]
          simp
          omega
      have g3 : decide (a = 5 + bytes) = e3 := by
        rw [← h3]
        by_cases q : a = 5 + bytes
        · rw [decide_eq_true q, q]; simp
        · rw [decide_eq_false q]
          simp
          omega
      have HEQ : Hid (((Zq.Nm.ended D p c == 0) && decide (NoTwo L) && decide (a = 5 + bytes)) = (e1 && e2 && e3)) := by
        rw [Hid, hE, h1, g2, g3]
      by_cases c1 : L.length < N
      · have c0 : (c == 0) = false := by simpa using fun e => hgo ⟨c1, e⟩
        have b1 : (L.length : Int) < (N : Int) := by omega
        clear hO hf hp m1 m2 m3 hE g2 g3 hgo c1
        go_wp2_with fail
        refine HEr.out.mono ?_
        rintro _ _ ⟨rfl, rfl⟩
        go_wp2_with fail
        refine HEn.out.mono ?_
        rintro _ w5 ⟨rfl, _, hg⟩
        have hu := HU.out w5 hg
        have HG := hide (HFi.out w5 hg)
        clear hg
        cases e1 <;> cases e2 <;> cases e3
        all_goals
          go_wp2
          exact bodyPost_ret (v := .tuple #[.slice va L.length vc, .bool _]) (by simp [results, Tryd.results42, go_sem]) rfl ⟨.slice va L.length vc, congrArg (fun b => Ending.returned (.tuple #[.slice va L.length vc, .bool b])) HEQ.out.symm, HG.out.1, HG.out.2⟩
      · have b1 : ¬ (L.length : Int) < (N : Int) := by omega
        clear hO hf hp m1 m2 m3 hE g2 g3 hgo c1
        go_wp2_with fail
        refine HEn.out.mono ?_
        rintro _ w5 ⟨rfl, _, hg⟩
        have hu := HU.out w5 hg
        have HG := hide (HFi.out w5 hg)
        clear hg
        cases e1 <;> cases e2 <;> cases e3
        all_goals
          go_wp2
          exact bodyPost_ret (v := .tuple #[.slice va L.length vc, .bool _]) (by simp [results, Tryd.results42, go_sem]) rfl ⟨.slice va L.length vc, congrArg (fun b => Ending.returned (.tuple #[.slice va L.length vc, .bool b])) HEQ.out.symm, HG.out.1, HG.out.2⟩
end Go.Proofs.YtcidfkkgpehodaaDoor

namespace Go.Proofs.YtcidfkkgpehodaaDoor
open Go.RowKit Go.Lib
theorem pieces_one (w : World) (a : ByteArray) (T : TypeId) {n : Nat} (hn : n = w.heap.size) : Zq.Sh.Pieces (w.alloc (.cells #[.string a] T)) (.slice (some ⟨n, 0, none⟩) 1 1) [a] := by
  subst hn
  have h := heap_alloc_new w (.cells #[.string a] T)
  refine ⟨_, _, rfl, .inr ⟨w.heap.size, 0, rfl, lt_of_block h, fun k hk => ?_⟩⟩
  have hk2 : k = 0 := by simp at hk; omega
  subst hk2
  show World.cell? _ ⟨w.heap.size, 0 + 0, none⟩ = _
  simp only [World.cell?, h]
  rfl
theorem sum_one {w : World} {v : Value} {t : ByteArray} (hL : Zq.Sh.Laid w) (hp : Zq.Sh.Pieces w v [t]) (ht : t.size ≤ 140737488355328) : Calls Tryd.prog 19 #[v] w fun e w' => e = .returned (.string (dgB t)) ∧ Below w.heap.size w w' := by
  have e : Zq.Sh.joined [t] = t.data.toList := by rw [Zq.Sh.joined, List.flatMap_cons, List.flatMap_nil, List.append_nil]
  have h2 := Zq.Sh.sum_any hL hp (by simp) (by
    rw [e, li_size]
    omega)
  rw [e] at h2
  exact h2
/-- An item with its pack's id. -/
def wpk (i : ByteArray) (x : IT) : IT := ⟨x.id, i, x.kind, x.off, x.long, x.size⟩
def pks (i : ByteArray) (L : List IT) (j : Nat) : List IT := (L.take j).map (wpk i) ++ L.drop j
theorem pks_len (i : ByteArray) (L : List IT) (j : Nat) : (pks i L j).length = L.length := by
  rw [pks, List.length_append, List.length_map, ← List.length_append, List.take_append_drop]
theorem pks_get {i : ByteArray} {L : List IT} {j : Nat} {x : IT} (h : L[j]? = some x) : (pks i L j)[j]? = some x := by
  have hj := (List.getElem?_eq_some_iff.1 h).1
  rw [pks, List.getElem?_append_right (by rw [List.length_map, List.length_take]; omega), List.length_map, List.length_take, Nat.min_eq_left (by omega), Nat.sub_self, List.getElem?_drop, Nat.add_zero, h]
theorem pks_set {i : ByteArray} {L : List IT} {j : Nat} {x : IT} (h : L[j]? = some x) : (pks i L j).set j (wpk i x) = pks i L (j + 1) := by
  have hj := (List.getElem?_eq_some_iff.1 h).1
  have e : L.drop j = x :: L.drop (j + 1) := by
    rw [List.drop_eq_getElem_cons hj]
    rw [List.getElem?_eq_getElem hj] at h
    rw [Option.some.inj h]
  have hl : ((L.take j).map (wpk i)).length = j := by rw [List.length_map, List.length_take]; omega
  rw [pks, pks, List.set_append_right _ _ (by omega), hl, Nat.sub_self, e, List.set_cons_zero, List.take_add_one, h, List.map_append, List.append_assoc]
  rfl
/-- The id of a pack set into an item. -/
theorem set_pk {B : Nat} {v : Value} {L : List IT} {w : World} (h : OW it6 6 54 B v L w) {j : Nat} {x : IT} (hx : L[j]? = some x) (i : ByteArray) :
    ∃ g c, v = .slice (some ⟨g, 0, none⟩) L.length c ∧ w.cell? ⟨g, j * 6 + 1, none⟩ = some (.string x.pk) ∧ w.frozen? ⟨g, j * 6 + 1, none⟩ = false ∧ OW it6 6 54 B v (L.set j (wpk i x)) (w.setCell ⟨g, j * 6 + 1, none⟩ (.string i)) ∧ B ≤ g := by
  have hj := (List.getElem?_eq_some_iff.1 hx).1
  obtain ⟨h0, ⟨rfl, h2⟩ | ⟨g, cap, cur, rfl, hB, hg, hn, hcm, hs, ht⟩⟩ := h.own
  · omega
  · have hsz : j * 6 + 1 < cur.size := by omega
    have hfl : ∀ (M : List IT) (k : Nat) (y : IT), M[k]? = some y → (M.flatMap it6)[k * 6 + 1]? = some (.string y.pk) := by
      intro M
      induction M with
      | nil => intro k y hy; simp at hy
      | cons z r ih =>
        intro k y hy
        cases k with
        | zero =>
          simp at hy
          subst hy
          rfl
        | succ k =>
          rw [List.getElem?_cons_succ] at hy
          rw [List.flatMap_cons, List.getElem?_append_right (by rw [it6_len]; omega), it6_len, show (k + 1) * 6 + 1 - 6 = k * 6 + 1 by omega]
          exact ih k y hy
    have hfs : ∀ (M : List IT) (k : Nat) (y : IT), M[k]? = some y → (M.set k (wpk i y)).flatMap it6 = (M.flatMap it6).set (k * 6 + 1) (.string i) := by
      intro M
      induction M with
      | nil => intro k y hy; simp at hy
      | cons z r ih =>
        intro k y hy
        cases k with
        | zero =>
          simp at hy
          subst hy
          rfl
        | succ k =>
          rw [List.getElem?_cons_succ] at hy
          rw [List.set_cons_succ, List.flatMap_cons, List.flatMap_cons, List.set_append_right _ _ (by rw [it6_len]; omega), it6_len, show (k + 1) * 6 + 1 - 6 = k * 6 + 1 by omega, ih k y hy]
    have hcur : cur[j * 6 + 1]? = some (.string x.pk) := by
      have := hfl L j x hx
      rw [← ht, List.getElem?_take, if_pos (by omega)] at this
      rw [← this, Array.getElem?_toList]
    refine ⟨g, cap, rfl, ?_, by simp [World.frozen?, hg], ⟨?_, .inr ⟨g, cap, cur.setIfInBounds (j * 6 + 1) (.string i), by rw [List.length_set], hB, heap_set_self hg, by rw [List.length_set]; exact hn, hcm, by rw [Array.size_setIfInBounds]; exact hs, ?_⟩⟩, hB⟩
    · rw [World.cell?]
      simp only [hg]
      exact hcur
    · rw [List.length_set]
      rw [hfs L j x hx, List.length_set]
      exact h0
    · rw [List.length_set, Array.toList_setIfInBounds, List.take_set, ht, hfs L j x hx]
/-- What bytes are as a pack, as the program reads them. -/
def pgP (s : ByteArray) : Option (List IT) := if ptO s = true then (if okLs (ptD s) (ptB s).size = true then some ((lstA (ptD s)).2.2.2.map (wpk (dgB s))) else none) else none
theorem ptD_size (s : ByteArray) : (ptD s).size ≤ s.size ∧ (ptB s).size ≤ s.size := by
  have hc5 : (cut5 s).size ≤ s.size := by
    rw [cut5, ← li_size, ← li_size]
    show (Lib.trimPrefix s.data.toList hd5.data.toList).length ≤ _
    rw [Lib.trimPrefix]
    split
    · rw [List.length_drop]; omega
    · exact Nat.le_refl _
  have hc4 : (cut4 s).size ≤ s.size := by
    refine Nat.le_trans ?_ hc5
    rw [cut4, ← li_size, ← li_size]
    show (Lib.trimSuffix (cut5 s).data.toList tl4.data.toList).length ≤ _
    rw [Lib.trimSuffix]
    split
    · rw [List.length_take]; omega
    · exact Nat.le_refl _
  constructor
  · rw [ptD]; split
    · rw [ByteArray.size_extract]; omega
    · exact Nat.zero_le _
  · rw [ptB]; split
    · rw [ByteArray.size_extract]; omega
    · exact Nat.zero_le _
set_option maxRecDepth 100000 in
set_option maxHeartbeats 3200000 in
theorem parse_pg {w : World} {s : ByteArray} (hL : Zq.Sh.Laid w) (hs : s.size ≤ 140737488355328) : Calls Tryd.prog 16 #[.string s] w fun e w' => ∃ v, e = .returned (.tuple #[v, .int .i64 (itC (pgP s))]) ∧ OW it6 6 54 w.heap.size v (itL (pgP s)) w' ∧ Below w.heap.size w w' := by
  have HP := hide (parts_any (w := w) hs)
  have HLs : Hid (∀ wx, Calls Tryd.prog 42 #[.string (ptD s), .int .i64 ((ptB s).size : Int)] wx fun e w' => ∃ v, e = .returned (.tuple #[v, .bool (okLs (ptD s) (ptB s).size)]) ∧ OW it6 6 54 wx.heap.size v (lstA (ptD s)).2.2.2 w' ∧ Below wx.heap.size wx w') := fun wx => listed_any _ (Nat.le_trans (ptD_size s).1 hs) (Nat.le_trans (ptD_size s).2 hs)
  have HSu : Hid (∀ (v : Value) (wx : World), Below w.heap.size w wx → Zq.Sh.Pieces wx v [s] → Calls Tryd.prog 19 #[v] wx fun e w' => e = .returned (.string (dgB s)) ∧ Below wx.heap.size wx w') := fun v wx h hp => sum_one (hL.below h hL.size) hp hs
  have HE : Hid (pgP s = if ptO s = true then (if okLs (ptD s) (ptB s).size = true then some ((lstA (ptD s)).2.2.2.map (wpk (dgB s))) else none) else none) := rfl
  obtain ⟨R, hR⟩ : ∃ R, pgP s = R := ⟨_, rfl⟩
  obtain ⟨D, hD⟩ : ∃ R, ptD s = R := ⟨_, rfl⟩
  obtain ⟨B, hB⟩ : ∃ R, ptB s = R := ⟨_, rfl⟩
  obtain ⟨ok, hok⟩ : ∃ R, ptO s = R := ⟨_, rfl⟩
  obtain ⟨i, hi⟩ : ∃ R, dgB s = R := ⟨_, rfl⟩
  obtain ⟨L, hLl⟩ : ∃ R, (lstA D).2.2.2 = R := ⟨_, rfl⟩
  obtain ⟨ol, hol⟩ : ∃ R, okLs D B.size = R := ⟨_, rfl⟩
  rw [hR, hD, hB, hok, hi, hLl, hol] at HE
  rw [hD, hB, hok] at HP
  rw [hD, hB, hLl, hol] at HLs
  rw [hi] at HSu
  rw [hR]
  clear hR hD hB hok hi hLl hol hL
  have HB0 := hide (Below.refl w.heap.size w)
  cases ok with
  | false =>
    have e : R = none := HE.out
    subst e
    clear HE HLs HSu
    go_enter Tryd.func16, Tryd.ntmps16
    go_wp2_with fail
    refine HP.out.mono ?_
    rintro _ w2 ⟨rfl, hb⟩
    have HB := hide hb
    clear hb
    go_wp2
    exact bodyPost_ret (v := .tuple #[.slice none 0 0, .int .i64 140]) (by simp [results, Tryd.results16, go_sem]) rfl ⟨.slice none 0 0, rfl, OW.nil _ _ _ _ _, HB.out⟩
  | true =>
    cases ol with
    | false =>
      have e : R = none := HE.out
      subst e
      clear HE HSu
      go_enter Tryd.func16, Tryd.ntmps16
      go_wp2_with fail
      refine HP.out.mono ?_
      rintro _ w2 ⟨rfl, hb⟩
      have HB := hide hb
      clear hb
      go_wp2_with fail
      refine (HLs.out _).mono ?_
      rintro _ w3 ⟨v, rfl, _, hb⟩
      have HB3 := hide (below_step HB.out hb)
      clear hb
      go_wp2
      exact bodyPost_ret (v := .tuple #[.slice none 0 0, .int .i64 140]) (by simp [results, Tryd.results16, go_sem]) rfl ⟨.slice none 0 0, rfl, OW.nil _ _ _ _ _, HB3.out⟩
    | true =>
      have e : R = some (L.map (wpk i)) := HE.out
      subst e
      clear HE
      go_enter Tryd.func16, Tryd.ntmps16
      go_wp2_with fail
      refine HP.out.mono ?_
      rintro _ w2 ⟨rfl, hb⟩
      have HB := hide hb
      clear hb
      go_wp2_with fail
      refine (HLs.out _).mono ?_
      rintro _ w3 ⟨v, rfl, hO, hb⟩
      have HB3 := hide (below_step HB.out hb)
      have HO := hide (hO.low HB.out.size)
      clear hb hO
      go_wp2_with fail
      refine (HSu.out _ _ (below_al HB3.out _) (pieces_one _ _ _ rfl)).mono ?_
      rintro _ w4 ⟨rfl, hb⟩
      have HB4 := hide (below_step (below_al HB3.out _) hb)
      have hO4 : OW it6 6 54 w.heap.size v L w4 := (HO.out.keep (below_al (Below.refl _ _) _)).keep hb
      obtain ⟨va, vc, rfl⟩ := OW.shp hO4
      obtain ⟨m, hm⟩ : ∃ m, L.length = m := ⟨_, rfl⟩
      rw [hm] at hO4
      have HM := hide hm
      have HO4 := hide hO4
      have hml : m ≤ 9223372036854775807 := by
        rw [← hm]
        obtain ⟨h0, ⟨_, h2⟩ | ⟨g, cap, cur, _, _, _, hn, hcm, _⟩⟩ := hO4.own
        · omega
        · unfold maxLen at hcm; omega
      clear hb hO4 hm
      rw [HM.out]
      go_wp2
      go_loopw [32] (fun ix wr => ∃ j : Nat, j ≤ m ∧ ix = .int .i64 (j : Int) ∧ OW it6 6 54 w.heap.size (.slice va m vc) (pks i L j) wr ∧ Below w.heap.size w wr) (fun ix _ => m - (Go.RowKit.intOf ix).toNat)
      case atStart => exact ⟨0, Nat.zero_le _, rfl, HO4.out, HB4.out⟩
      case round =>
        obtain ⟨j, hj, rfl, hO, hb⟩ := hrel
        by_cases hlt : j < m
        · have b1 : (j : Int) < (m : Int) := by omega
          have b0 : (0 : Int) ≤ (j : Int) := by omega
          obtain ⟨x, hx⟩ : ∃ x, L[j]? = some x := ⟨_, List.getElem?_eq_getElem (by rw [HM.out]; exact hlt)⟩
          obtain ⟨g, c, ev, k1, k2, k3, k4⟩ := set_pk hO (pks_get hx) i
          rw [pks_set hx] at k3
          obtain ⟨rfl⟩ : va = some ⟨g, 0, none⟩ := by injection ev
          have HK := hide (And.intro k3 (Zq.Sh.below_gb hb (Zq.Nm.gb_set wr g (j * 6 + 1) (.string i)) k4 hb.size))
          clear k3 k4 hx hO hb ev
          go_wp2
          go_round
          case rel => exact ⟨j + 1, by omega, by go_num, HK.out.1, HK.out.2⟩
          case measure => simp [Go.RowKit.intOf]; omega
        · have b1 : ¬ (j : Int) < (m : Int) := by omega
          obtain rfl : j = m := by omega
          have e : pks i L j = L.map (wpk i) := by rw [pks, ← HM.out, List.take_length, List.drop_length, List.append_nil]
          rw [e] at hO
          have HK := hide (And.intro hO hb)
          clear hO hb e
          go_wp2
          exact bodyPost_ret (v := .tuple #[.slice va j vc, .int .i64 0]) (by simp [results, Tryd.results16, go_sem]) rfl ⟨.slice va j vc, rfl, HK.out.1, HK.out.2⟩
end Go.Proofs.YtcidfkkgpehodaaDoor

namespace Go.Proofs.YtcidfkkgpehodaaDoor
open Go.RowKit Go.Lib
theorem ex_ex (s : ByteArray) {a b c d : Nat} (h : a + d ≤ b) : (s.extract a b).extract c d = s.extract (a + c) (a + d) := by
  apply ba_ext
  rw [ex_list, ex_list, ex_list, List.drop_take, List.take_take, List.drop_drop, Nat.min_eq_left (by omega), show a + d - (a + c) = d - c by omega]
theorem okH5_iff (s : ByteArray) : okH5 s = true ↔ 5 ≤ s.size ∧ s.extract 0 5 = hd5 := by
  rw [okH5, Lib.hasPrefix, List.isPrefixOf_iff_prefix]
  constructor
  · rintro ⟨r, h⟩
    have hz : s.size = 5 + r.length := by rw [← li_size, ← h, List.length_append]; rfl
    refine ⟨by omega, ba_ext ?_⟩
    rw [ex_list, List.drop_zero, ← h]
    rfl
  · rintro ⟨h1, h2⟩
    refine ⟨s.data.toList.drop 5, ?_⟩
    rw [← h2, ex_list, List.drop_zero, Nat.sub_zero, List.take_append_drop]
theorem cut5_eq {s : ByteArray} (h : okH5 s = true) : cut5 s = s.extract 5 s.size := by
  apply ba_ext
  rw [cut5, Lib.trimPrefix, if_pos (show Lib.hasPrefix s.data.toList hd5.data.toList = true from h), ex_list]
  show s.data.toList.drop 5 = _
  rw [List.take_of_length_le (by rw [List.length_drop, li_size]; omega)]
theorem okT4_iff {s : ByteArray} (h : okH5 s = true) : okT4 s = true ↔ 9 ≤ s.size ∧ s.extract (s.size - 4) s.size = tl4 := by
  obtain ⟨h5, _⟩ := (okH5_iff s).1 h
  have hz : (s.extract 5 s.size).size = s.size - 5 := by rw [ByteArray.size_extract]; omega
  rw [okT4, Lib.hasSuffix, List.isSuffixOf_iff_suffix, cut5_eq h]
  constructor
  · rintro ⟨r, e⟩
    have hl := congrArg List.length e
    have h4 : tl4.data.toList.length = 4 := rfl
    rw [List.length_append, h4, li_size, hz] at hl
    have h9 : 9 ≤ s.size := by omega
    refine ⟨h9, ?_⟩
    have e2 : s.extract (s.size - 4) s.size = (s.extract 5 s.size).extract (s.size - 9) (s.size - 5) := by
      rw [ex_ex s (by omega), show 5 + (s.size - 9) = s.size - 4 by omega, show 5 + (s.size - 5) = s.size by omega]
    rw [e2]
    apply ba_ext
    rw [ex_list, ← e, List.drop_append_of_le_length (by omega), List.drop_of_length_le (by omega), List.nil_append, List.take_of_length_le (by rw [h4]; omega)]
  · rintro ⟨h9, e⟩
    refine ⟨(s.extract 5 (s.size - 4)).data.toList, ?_⟩
    rw [← e, ex_list, ex_list, ex_list]
    have e3 : s.data.toList.drop (s.size - 4) = (s.data.toList.drop 5).drop (s.size - 4 - 5) := by rw [List.drop_drop, show 5 + (s.size - 4 - 5) = s.size - 4 by omega]
    rw [e3, List.take_of_length_le (l := (s.data.toList.drop 5).drop (s.size - 4 - 5)) (by rw [List.length_drop, List.length_drop, li_size]; omega), List.take_append_drop, List.take_of_length_le (by rw [List.length_drop, li_size]; omega)]
theorem cut4_eq {s : ByteArray} (h : okH5 s = true) (ht : okT4 s = true) : cut4 s = s.extract 5 (s.size - 4) := by
  obtain ⟨h9, _⟩ := (okT4_iff h).1 ht
  apply ba_ext
  rw [okT4] at ht
  rw [cut4, Lib.trimSuffix, if_pos ht, cut5_eq h, ex_list, ex_list]
  show (List.take (s.size - 5) (List.drop 5 s.data.toList)).take ((List.take (s.size - 5) (List.drop 5 s.data.toList)).length - 4) = _
  rw [List.length_take, List.length_drop, li_size, List.take_take, Nat.min_eq_left (by omega), Nat.min_self, show s.size - 5 - 4 = s.size - 4 - 5 by omega]
theorem ptA_eq {s : ByteArray} (h : okH5 s = true) (ht : okT4 s = true) (h13 : 13 ≤ s.size) : (ptA s).num = lgP s := by
  have hz : (s.extract 5 (s.size - 4)).size = s.size - 9 := by rw [ByteArray.size_extract]; omega
  rw [ptA, Zq.Nm.asked_zero, cut4_eq h ht, hz, ex_ex s (by omega), show 5 + (s.size - 9 - 4) = s.size - 8 by omega, show 5 + (s.size - 9) = s.size - 4 by omega]
  have hz2 : (s.extract (s.size - 8) (s.size - 4)).size = 4 := by rw [ByteArray.size_extract]; omega
  rw [Zq.Nm.fixedA, if_neg (by omega), if_neg (by rw [hz2]; omega), lgP]
  dsimp only
  have e4 : (4 : Int).toNat = 4 := rfl
  rw [e4, ex_ex s (by omega), show s.size - 8 + (0 + 4) = s.size - 4 by omega, Nat.add_zero]
theorem ptO_iff (s : ByteArray) : ptO s = true ↔ s.size ≤ 65536 ∧ 13 ≤ s.size ∧ s.extract 0 5 = hd5 ∧ s.extract (s.size - 4) s.size = tl4 ∧ lgP s ≤ s.size - 13 := by
  have hk : ptO s = true ↔ s.size ≤ 65536 ∧ okH5 s = true ∧ okT4 s = true ∧ 4 ≤ (cut4 s).size ∧ (ptA s).num + 4 ≤ (cut4 s).size := by
    rw [ptO, ptT]
    simp only [Bool.and_eq_true, Bool.not_eq_true', Bool.or_eq_false_iff, decide_eq_false_iff_not, decide_eq_true_eq, Bool.not_eq_false', and_assoc, Nat.not_lt]
  rw [hk]
  constructor
  · rintro ⟨h1, h2, h3, h4, h5⟩
    have hz : (s.extract 5 (s.size - 4)).size = s.size - 9 := by rw [ByteArray.size_extract]; omega
    rw [cut4_eq h2 h3, hz] at h4 h5
    rw [ptA_eq h2 h3 (by omega)] at h5
    exact ⟨h1, by omega, ((okH5_iff s).1 h2).2, ((okT4_iff h2).1 h3).2, by omega⟩
  · rintro ⟨h1, h2, h3, h4, h5⟩
    have a2 := (okH5_iff s).2 ⟨by omega, h3⟩
    have a3 := (okT4_iff a2).2 ⟨by omega, h4⟩
    have hz : (s.extract 5 (s.size - 4)).size = s.size - 9 := by rw [ByteArray.size_extract]; omega
    rw [cut4_eq a2 a3, hz, ptA_eq a2 a3 h2]
    exact ⟨h1, a2, a3, by omega, by omega⟩
theorem ptX_eq {s : ByteArray} (ho : ptO s = true) : ptD s = drP s ∧ (ptB s).size = frP s - 5 ∧ 5 ≤ frP s := by
  obtain ⟨h1, h2, h3, h4, h5⟩ := (ptO_iff s).1 ho
  have a2 := (okH5_iff s).2 ⟨by omega, h3⟩
  have a3 := (okT4_iff a2).2 ⟨by omega, h4⟩
  have hz : (s.extract 5 (s.size - 4)).size = s.size - 9 := by rw [ByteArray.size_extract]; omega
  have hfr : frP s = s.size - 8 - lgP s := rfl
  rw [ptD, ptB, if_pos ho, if_pos ho, cut4_eq a2 a3, hz, ptA_eq a2 a3 h2, ex_ex s (by omega), ex_ex s (by omega), drP, hfr]
  refine ⟨by rw [show 5 + (s.size - 9 - 4 - lgP s) = s.size - 8 - lgP s by omega, show 5 + (s.size - 9 - 4) = s.size - 8 by omega], ?_, by omega⟩
  rw [ByteArray.size_extract]
  omega
/-! ### Rows, one behind the other -/
theorem lst_pre {D : ByteArray} : ∀ (m p : Nat) (c : Int) (a : Nat) (L : List IT), p ≤ D.size → (∃ E, (lst D m p c a L).2.2.2 = L ++ E) ∧ a ≤ (lst D m p c a L).2.2.1 ∧ (lst D m p c a L).1 ≤ D.size
  | 0, p, c, a, L, hp => ⟨⟨[], (List.append_nil _).symm⟩, Nat.le_refl _, hp⟩
  | m + 1, p, c, a, L, hp => by
    rw [lst]
    split
    · obtain ⟨⟨E, h1⟩, h2, h3⟩ := lst_pre m (p4' D p) (stC D p) (a + (q3 D p).num) (L ++ [itR D ⟨#[]⟩ p a]) (q_le hp).2.2.2
      exact ⟨⟨itR D ⟨#[]⟩ p a :: E, by rw [h1, List.append_assoc]; rfl⟩, by omega, h3⟩
    · exact ⟨⟨[], (List.append_nil _).symm⟩, Nat.le_refl _, hp⟩
theorem noTwo_left {L M : List IT} (h : NoTwo (L ++ M)) : NoTwo L := (List.pairwise_append.1 h).1
theorem any_wpk (i : ByteArray) (L : List IT) (t : ByteArray) : ((L.map (wpk i)).any fun y => decide (y.id = t)) = L.any fun y => decide (y.id = t) := by
  rw [List.any_map]
  rfl
theorem stC_zero {D : ByteArray} {p : Nat} (h : stC D p = 0) : (q4 D p).code = 0 ∧ kn ((q2 D p).num : Int) = true ∧ 1 ≤ (q3 D p).num := by
  rw [stC_eq] at h
  split at h
  · rename_i hb
    rw [Bool.and_eq_true] at hb
    refine ⟨h, hb.1, ?_⟩
    have := hb.2
    simp at this
    omega
  · rw [Zq.Nm.failed] at h
    split at h
    · cases h
    · rename_i h2
      exact absurd h h2
theorem lst_prs {D pk : ByteArray} {fr : Nat} : ∀ (m p a : Nat) (L : List IT) {p' a' : Nat} {L' : List IT}, p ≤ D.size → lst D m p 0 a L = (p', 0, a', L') → NoTwo L' → a' = fr → prs D pk fr m p a (L.map (wpk pk)) = some (p', a', L'.map (wpk pk))
  | 0, p, a, L, p', a', L', hp, h, hN, ha => by
    rw [lst] at h
    simp only [Prod.mk.injEq] at h
    obtain ⟨rfl, _, rfl, rfl⟩ := h
    rfl
  | m + 1, p, a, L, p', a', L', hp, h, hN, ha => by
    rw [lst, if_pos rfl] at h
    have hst : stC D p = 0 := Classical.byContradiction fun e => by
      rw [lst_stop (.inr e)] at h
      simp only [Prod.mk.injEq] at h
      exact e h.2.1
    obtain ⟨h1, h2, h3⟩ := stC_zero hst
    obtain ⟨⟨E, g1⟩, g2, _⟩ := lst_pre m (p4' D p) (stC D p) (a + (q3 D p).num) (L ++ [itR D ⟨#[]⟩ p a]) (q_le hp).2.2.2
    rw [h] at g1 g2
    dsimp only at g1 g2
    have hN2 : NoTwo (L ++ [itR D ⟨#[]⟩ p a]) := noTwo_left (by rw [← g1]; exact hN)
    have hany := (noTwo_snoc.1 hN2).2
    have hok : okL D fr p a (L.map (wpk pk)) = true := by
      rw [okL, any_wpk, decide_eq_true h1, h2, decide_eq_true h3, decide_eq_true (show a + (q3 D p).num ≤ fr by omega)]
      show (true && true && true && true && !(L.any fun y => decide (y.id = (itR D ⟨#[]⟩ p a).id))) = true
      rw [hany]
      rfl
    rw [prs, if_pos hok]
    rw [hst] at h
    have hm : L.map (wpk pk) ++ [itR D pk p a] = (L ++ [itR D ⟨#[]⟩ p a]).map (wpk pk) := by rw [List.map_append]; rfl
    rw [hm]
    exact lst_prs m _ _ _ (q_le hp).2.2.2 h hN ha
theorem prs_lst {D pk : ByteArray} {fr : Nat} : ∀ (m p a : Nat) (L : List IT) {p' a' : Nat} {M' : List IT}, NoTwo L → prs D pk fr m p a (L.map (wpk pk)) = some (p', a', M') → ∃ L', lst D m p 0 a L = (p', 0, a', L') ∧ NoTwo L' ∧ M' = L'.map (wpk pk)
  | 0, p, a, L, p', a', M', hN, h => by
    rw [prs] at h
    simp only [Option.some.injEq, Prod.mk.injEq] at h
    obtain ⟨rfl, rfl, rfl⟩ := h
    exact ⟨L, rfl, hN, rfl⟩
  | m + 1, p, a, L, p', a', M', hN, h => by
    rw [prs] at h
    split at h
    · rename_i hok
      rw [okL, any_wpk] at hok
      simp only [Bool.and_eq_true, decide_eq_true_eq, Bool.not_eq_true'] at hok
      obtain ⟨⟨⟨⟨h1, h2⟩, h3⟩, h4⟩, h5⟩ := hok
      have hst : stC D p = 0 := by
        rw [stC_eq, h2, decide_eq_false (by omega)]
        exact h1
      have hm : L.map (wpk pk) ++ [itR D pk p a] = (L ++ [itR D ⟨#[]⟩ p a]).map (wpk pk) := by rw [List.map_append]; rfl
      rw [hm] at h
      obtain ⟨L', g1, g2, g3⟩ := prs_lst m _ _ _ (noTwo_snoc.2 ⟨hN, h5⟩) h
      refine ⟨L', ?_, g2, g3⟩
      rw [lst, if_pos rfl, hst]
      exact g1
    · cases h
theorem ended_zero {D : ByteArray} {p : Nat} {c : Int} : Zq.Nm.ended D p c = 0 ↔ c = 0 ∧ ¬ p < D.size := by
  rw [Zq.Nm.ended]
  split
  · rename_i h
    rw [Zq.Nm.failed]
    split <;> simp_all
  · rename_i h
    simp [h]
theorem join_ls {D i : ByteArray} {fr bytes : Nat} (hc : (q00 D).code = 0) (hfr : 5 + bytes = fr) : (if okLs D bytes = true then some ((lstA D).2.2.2.map (wpk i)) else none) = (match prs D i fr (q00 D).num (q00 D).long 5 [] with
    | some (p, a, L) => if p = D.size ∧ a = fr then some L else none
    | none => none) := by
  have hPL : 0 + (q00 D).long ≤ D.size := asked_le' (Nat.zero_le _) (Zq.Nm.shortA_ok _ _ _ (Nat.zero_le _))
  have hA : lstA D = lst D (q00 D).num (0 + (q00 D).long) 0 5 [] := by rw [lstA, hc]
  obtain ⟨P, hP⟩ : ∃ P, (q00 D).long = P := ⟨_, rfl⟩
  obtain ⟨N, hN⟩ : ∃ N, (q00 D).num = N := ⟨_, rfl⟩
  rw [hP] at hPL
  rw [hP, hN, Nat.zero_add] at hA
  rw [Nat.zero_add] at hPL
  obtain ⟨_, _, hpl⟩ := lst_pre N P 0 5 [] hPL
  rw [← hA] at hpl
  rw [hN, hP]
  obtain ⟨⟨p', c', a', L'⟩, hX⟩ : ∃ X, lstA D = X := ⟨_, rfl⟩
  rw [hX] at hA hpl
  dsimp only at hpl
  by_cases hk : okLs D bytes = true
  · rw [if_pos hk, hX]
    rw [okLs, hX, hfr] at hk
    simp only [Bool.and_eq_true, beq_iff_eq, decide_eq_true_eq] at hk
    obtain ⟨⟨k1, k2⟩, k3⟩ := hk
    obtain ⟨k4, k5⟩ := ended_zero.1 k1
    subst k4
    have hp := lst_prs (pk := i) (fr := fr) _ _ _ _ hPL hA.symm k2 k3
    rw [List.map_nil] at hp
    rw [hp]
    simp only
    rw [if_pos ⟨by omega, k3⟩]
  · rw [if_neg hk]
    rcases hp : prs D i fr N P 5 [] with _ | ⟨p2, a2, M⟩
    · rfl
    · simp only
      by_cases hpa : p2 = D.size ∧ a2 = fr
      · exfalso
        obtain ⟨L2, g1, g2, g3⟩ := prs_lst (pk := i) (fr := fr) N P 5 [] List.Pairwise.nil hp
        rw [g1] at hA
        refine hk ?_
        rw [okLs, hX, hfr, hA]
        simp only [Bool.and_eq_true, beq_iff_eq, decide_eq_true_eq]
        exact ⟨⟨ended_zero.2 ⟨rfl, by omega⟩, g2⟩, hpa.2⟩
      · rw [if_neg hpa]
theorem no_ls {D : ByteArray} {bytes : Nat} (hc : ¬ (q00 D).code = 0) : okLs D bytes = false := by
  have e : lstA D = (0 + (q00 D).long, (q00 D).code, 5, []) := by rw [lstA, lst_stop (.inr hc)]
  rw [okLs, e]
  have : (Zq.Nm.ended D (0 + (q00 D).long) (q00 D).code == 0) = false := by
    rw [beq_eq_false_iff_ne]
    exact fun e => hc (ended_zero.1 e).1
  simp only
  rw [this]
  rfl
theorem q00_nil {D : ByteArray} (h : D.size = 0) : ¬ (q00 D).code = 0 := by
  have hd : D.data.toList = [] := List.length_eq_zero_iff.1 (by rw [li_size]; exact h)
  rw [q00, Zq.Nm.asked_zero, Zq.Nm.shortA, hd]
  decide
/-- The program's packs are the document's. -/
theorem pg_par (s : ByteArray) : pgP s = parP s := by
  rw [pgP, parP]
  by_cases ho : ptO s = true
  · obtain ⟨x1, x2, x3⟩ := ptX_eq ho
    obtain ⟨y1, y2, y3, y4, y5⟩ := (ptO_iff s).1 ho
    have hz0 : s.size < 14 → (drP s).size = 0 := fun e => by rw [drP, frP, ByteArray.size_extract]; omega
    have hoP : 14 ≤ s.size → okP s = true := fun h14 => okP_iff.2 ⟨y1, h14, y3, y4, y5⟩
    rw [if_pos ho, x1]
    have hq : q0 s = q00 (drP s) := rfl
    rw [hq]
    have hfr : 5 + (ptB s).size = frP s := by omega
    obtain ⟨D, hD⟩ : ∃ D, drP s = D := ⟨_, rfl⟩
    obtain ⟨fr, hf⟩ : ∃ D, frP s = D := ⟨_, rfl⟩
    obtain ⟨i, hi⟩ : ∃ D, dgB s = D := ⟨_, rfl⟩
    obtain ⟨b, hb⟩ : ∃ D, (ptB s).size = D := ⟨_, rfl⟩
    rw [hD] at hz0 ⊢
    rw [hf, hb] at hfr
    rw [hf, hi, hb]
    clear hD hf hi hb x1 x2 x3 y1 y2 y3 y4 y5 hq ho
    by_cases hc : (q00 D).code = 0
    · have h14 : 14 ≤ s.size := Classical.byContradiction fun e => q00_nil (hz0 (by omega)) hc
      rw [if_pos (hoP h14), if_pos hc]
      exact join_ls hc hfr
    · rw [no_ls hc, if_neg (by decide), if_neg hc]
      split <;> rfl
  · rw [if_neg ho, if_neg]
    intro hk
    obtain ⟨h1, h2, h3, h4, h5⟩ := okP_iff.1 hk
    exact ho ((ptO_iff s).2 ⟨h1, by omega, h3, h4, h5⟩)
theorem parse_any {w : World} {s : ByteArray} (hL : Zq.Sh.Laid w) (hs : s.size ≤ 140737488355328) : Calls Tryd.prog 16 #[.string s] w fun e w' => ∃ v, e = .returned (.tuple #[v, .int .i64 (itC (parP s))]) ∧ OW it6 6 54 w.heap.size v (itL (parP s)) w' ∧ Below w.heap.size w w' := by
  rw [← pg_par]
  exact parse_pg hL hs
end Go.Proofs.YtcidfkkgpehodaaDoor

namespace Go.Proofs.YtcidfkkgpehodaaDoor
open Go.RowKit Go.Lib
def fnS (L : List BE) : ByteArray := if L.length = 0 then ⟨#[]⟩ else paT L
def fnL (L : List BE) : List IT := if L.length = 0 then [] else itsB (dgB (paT L)) 5 L
/-- What Finish leaves. -/
def FY (P : Nat → Prop) (w : World) (b : Nat) (lim : Int) (v : Value) (M : List IT) (w' : World) : Prop :=
  ∃ (P' : Nat → Prop) (N : Nat), BX P' w' b lim [] ∧ Gs P w w' ∧ (∀ i, P' i → P i ∨ w.heap.size ≤ i) ∧ (∀ i, P' i → i < N) ∧ w.heap.size ≤ N ∧ OW it6 6 54 N v M w'
theorem arr_list (s : ByteArray) : (⟨s.data.toList.toArray⟩ : ByteArray) = s := by
  cases s
  simp
set_option maxRecDepth 100000 in
set_option maxHeartbeats 4000000 in
theorem finish_any {P : Nat → Prop} {w w0 : World} {b : Nat} {lim : Int} {L : List BE} (h : BX P w b lim L) (hG : GL L) (hL : Zq.Sh.Laid w0) (hb0 : Below w0.heap.size w0 w) (hP : ∀ i, P i → w0.heap.size ≤ i) :
    Calls Tryd.prog 15 #[.pointer (some ⟨b, 0, none⟩)] w fun e w' => ∃ v, e = .returned (.tuple #[.string (fnS L), v]) ∧ FY P w b lim v (fnL L) w' := by
  obtain ⟨mb, v1, v2, hQ, hQP⟩ := h.1
  have HLn := hide (plen_any hQ)
  have HX := hide h
  by_cases hn : L.length = 0
  · rw [fnS, fnL, if_pos hn, if_pos hn]
    have hL0 : L = [] := List.length_eq_zero_iff.1 hn
    rw [hn] at HLn
    have HF : Hid (FY P w b lim (.slice none 0 0) [] w) := by
      refine ⟨P, w.heap.size, by rw [← hL0]; exact HX.out, Gs.refl _ _, fun i hi => .inl hi, HX.out.2, Nat.le_refl _, OW.nil _ _ _ _ _⟩
    clear h hG hL hb0 hP hQ hQP hn hL0
    go_enter Tryd.func15, Tryd.ntmps15
    go_wp2_with fail
    refine HLn.out.mono ?_
    rintro _ _ ⟨rfl, rfl⟩
    go_wp2
    exact bodyPost_ret (v := .tuple #[.string ⟨#[]⟩, .slice none 0 0]) (by simp [results, Tryd.results15, go_sem]) rfl ⟨.slice none 0 0, rfl, HF.out⟩
  · rw [fnS, fnL, if_neg hn, if_neg hn]
    obtain ⟨hG1, hG2, hG3, hG4⟩ := hG
    have hps := paT_size L
    have hdz : (dirB L).size = (smB L.length).size + (linesB L).size := by rw [dirB, ba_add]
    have hsm := (smB_size L.length (by omega)).1
    have hpar := par_ok hG1 hG2 hG3 hG4
    have HPa : Hid (∀ wx, Below w0.heap.size w0 wx → Calls Tryd.prog 16 #[.string (paT L)] wx fun e w' => ∃ v, e = .returned (.tuple #[v, .int .i64 0]) ∧ OW it6 6 54 wx.heap.size v (itsB (dgB (paT L)) 5 L) w' ∧ Below wx.heap.size wx w') := fun wx hb => by
      have := parse_any (w := wx) (s := paT L) (hL.below hb hL.size) (by omega)
      rw [hpar] at this
      exact this
    have A1 : Hid (∀ (v : Value) (wx : World), v = .pointer (some ⟨b, 0, none⟩) → Below w.heap.size w wx → Calls Tryd.prog 10 #[v] wx fun e w' => e = .returned (.int .i64 (L.length : Int)) ∧ Below w.heap.size w w') := fun v wx hv hb => by
      subst hv
      exact (plen_any (hQ.bel hb)).mono fun _ _ ⟨e, e2⟩ => ⟨e, e2 ▸ hb⟩
    have A2 : Hid (∀ (v : Value) (wx : World), v = .int .i64 (L.length : Int) → Below w.heap.size w wx → Calls Tryd.prog 26 #[v] wx fun e w' => e = .returned (.string (smB L.length)) ∧ Below w.heap.size w w') := fun v wx hv hb => by
      subst hv
      exact (shrt_any _ wx (by omega)).mono fun _ _ ⟨e, hk⟩ => ⟨e, below_step hb hk⟩
    have A3 : Hid (∀ (v : Value) (wx : World), v = .pointer (some ⟨b, 1, none⟩) → Below w.heap.size w wx → Calls Tryd.prog 39 #[v] wx fun e w' => e = .returned (.string (linesB L)) ∧ Below w.heap.size w w') := fun v wx hv hb => by
      subst hv
      have := allb_any (hQ.bel hb).g1
      rw [arr_list] at this
      exact this.mono fun _ _ ⟨e, e2⟩ => ⟨e, e2 ▸ hb⟩
    have A4 : Hid (∀ wx, Calls Tryd.prog 40 #[.int .i64 ((dirB L).size : Int), .int .i64 4] wx fun e w' => e = .returned (.tuple #[.string (fxB (dirB L).size 4), .int .i64 0]) ∧ Below wx.heap.size wx w') := fun wx => Zq.Nm.fixed_any (dirB L).size 4 wx (by omega) (by decide) (by decide) (by
      have : (256 : Nat) ^ 4 = 4294967296 := by decide
      omega)
    have hdir : smB L.length ++ linesB L = dirB L := rfl
    have hall : (⟨((hd5 ++ blbB L).data.toList ++ (dirB L ++ fxB (dirB L).size 4 ++ tl4).data.toList).toArray⟩ : ByteArray) = paT L := by
      rw [← ap_list, arr_list, paT]
      simp only [ByteArray.append_assoc]
    have hfz := fxB_size (dirB L).size 4
    have htl : tl4 = (⟨#[80, 69, 78, 68]⟩ : ByteArray) := rfl
    have hOz : (hd5 ++ blbB L).data.toList.length ≤ 70000 := by rw [li_size, ba_add, hd5_size]; omega
    have hlz : (linesB L).size ≤ 70000 := by omega
    have hDz : (dirB L).size ≤ 70000 := by omega
    have hAz : (dirB L ++ fxB (dirB L).size 4 ++ tl4).size ≤ 80000 := by rw [ba_add, ba_add, hfz, tl4_size]; omega
    have hn1 : ((L.length : Int) == 0) = false := by simpa using hn
    have HQ := hide hQ
    have HQP := hide hQP
    have HB0 := hide hb0
    have HPP := hide hP
    obtain ⟨D, hD⟩ : ∃ D, dirB L = D := ⟨_, rfl⟩
    obtain ⟨A, hA⟩ : ∃ A, smB L.length = A := ⟨_, rfl⟩
    obtain ⟨R, hR⟩ : ∃ A, linesB L = A := ⟨_, rfl⟩
    obtain ⟨S, hS⟩ : ∃ A, paT L = A := ⟨_, rfl⟩
    rw [hS] at HPa hall ⊢
    rw [hD] at A4 hdir hall hfz hDz hAz
    rw [hA] at A2 hdir hsm
    rw [hR] at A3 hdir hlz HQ
    obtain ⟨F, hF⟩ : ∃ F, fxB D.size 4 = F := ⟨_, rfl⟩
    rw [hF] at A4 hall hfz hAz
    obtain ⟨O, hO⟩ : ∃ A, (hd5 ++ blbB L).data.toList = A := ⟨_, rfl⟩
    rw [hO] at HQ hall hOz
    obtain ⟨n, hnn⟩ : ∃ A, L.length = A := ⟨_, rfl⟩
    rw [hnn] at HLn A1 A2 HQ hn1
    obtain ⟨M, hM⟩ : ∃ A, itsB (dgB S) 5 L = A := ⟨_, rfl⟩
    rw [hM] at HPa ⊢
    clear h hG1 hG2 hG3 hG4 hL hb0 hP hQ hQP hn hps hdz hpar hD hA hR hS hF hO hnn hM
    have S0 : Hid (Below w.heap.size w w ∧ Below w.heap.size w w.drew) := ⟨Below.refl _ _, (Below.refl _ _).drew⟩
    rw [htl] at hall hAz
    obtain ⟨X, hX⟩ : ∃ X, D ++ F ++ (⟨#[80, 69, 78, 68]⟩ : ByteArray) = X := ⟨_, rfl⟩
    rw [hX] at hall hAz
    have HXX := hide hX
    clear hX
    have HAL := hide hall
    clear htl hall
    go_enter Tryd.func15, Tryd.ntmps15
    go_wp2_with fail
    refine HLn.out.mono ?_
    rintro _ wz ⟨rfl, hz⟩
    rw [hz]
    clear hz wz
    go_upto_region 3 with fail
    go_cut [4] from 10 to 17 (fun d wx => d = .string D ∧ Below w.heap.size w wx)
    case first =>
      go_region_held_law (fun w' => Below w.heap.size w w') (first | assumption | exact S0.out.1 | exact S0.out.2)
        (first
          | (go_at_call 10; refine Calls.mono (A1.out _ _ (by with_reducible rfl) (by first | assumption | exact S0.out.1 | exact S0.out.2)) ?_; rintro e wa ⟨rfl, ka⟩)
          | (go_at_call 26; refine Calls.mono (A2.out _ _ (by with_reducible rfl) (by first | assumption | exact S0.out.1 | exact S0.out.2)) ?_; rintro e wb ⟨rfl, kb⟩)
          | (go_at_call 39; refine Calls.mono (A3.out _ _ (by with_reducible rfl) (by first | assumption | exact S0.out.1 | exact S0.out.2)) ?_; rintro e wc ⟨rfl, kc⟩))
      all_goals
        go_wp2_with fail
        go_meet
        exact ⟨rfl, by assumption⟩
    case rest =>
      obtain ⟨rfl, hbc⟩ := hcut
      have HB1 := hide hbc
      clear hbc hdir A1 A2 A3
      go_wp2_with fail
      refine (A4.out _).mono ?_
      rintro _ w2 ⟨rfl, hb⟩
      have HB2 := hide (below_step HB1.out hb)
      clear hb
      go_wp2_with fail
      have hQ2 := HQ.out.bel HB2.out
      have HWr := write_any hQ2.g0 X (by omega)
      rw [HXX.out]
      refine HWr.mono ?_
      clear HWr
      rintro _ w3 ⟨rfl, v1', wx1, g1, g2, g3, rfl⟩
      have hQ3 := hQ2.put0 g1 g2 g3
      have hG3 := (Gs.of_below (Pb b mb v1 v2) HB2.out).trans (gs_put (p := Pb b mb v1 v2) g2 (.inl rfl) (fun i hi => .inr (.inr (.inl hi))) 0 v1')
      obtain ⟨w3, hw3⟩ : ∃ w3, wx1.setCell ⟨b, 0, none⟩ v1' = w3 := ⟨_, rfl⟩
      rw [hw3] at hQ3 hG3 ⊢
      have H3 := hide (And.intro hQ3 hG3)
      have HAll := hide (allb_any hQ3.g0)
      rw [HAL.out] at HAll
      have hc3 := hQ3.c3
      have HEm := hide (empty_any w3 lim)
      clear g1 g2 g3 hw3 hQ3 hG3 hQ2
      go_wp2_with fail
      refine HAll.out.mono ?_
      rintro _ wz ⟨rfl, hz⟩
      rw [hz]
      clear hz wz
      go_wp2_with fail
      refine HEm.out.mono ?_
      rintro _ w4 ⟨b2, mb2, v12, rfl, hN, hQ4, hb⟩
      have hk4 : w4.heap[b]? = some (.cells #[v1', v2, .map (some mb), .int .i64 lim] 72 (0, 0)) := (hb.block b (lt_of_block H3.out.1.blk)).trans H3.out.1.blk
      obtain ⟨va, vc, rfl⟩ := OW.shp hQ4.t1
      have hlb := lt_of_block H3.out.1.blk
      obtain ⟨w5, hst, hk5, hg5⟩ := store_at (cs := #[.slice va hd5.data.toList.length vc, .slice none 0 0, .map (some mb2), .int .i64 lim]) hk4 rfl (by kernel_rfl) (by simp [Value.oneCell'])
      have hmb2 : w3.heap.size ≤ mb2 := hN mb2 (.inr (.inl rfl))
      have hv12 : ∀ i, (Value.slice va hd5.data.toList.length vc).ownBlock = some i → w3.heap.size ≤ i := fun i hi => hN i (.inr (.inr (.inl hi)))
      have hQ5 : PQ w5 b mb2 (.slice va hd5.data.toList.length vc) (.slice none 0 0) lim hd5.data.toList [] 0 (fun _ => none) :=
        ⟨hk5, OW.kb hQ4.t1 fun i hi => hg5.block i (OW.lt hQ4.t1 i hi).2 (by have := hv12 i hi; omega), OW.nil _ _ _ _ _, hQ4.map.kb (hg5.block mb2 hQ4.map.lt (by omega)), fun g _ e => by cases e⟩
      have hG5 : Gs (Pb b mb v1 v2) w w5 := (H3.out.2.bel hb).trans (hg5.mono fun i _ e => .inl e)
      have hI5 : ∀ i, Pb b mb2 (.slice va hd5.data.toList.length vc) (.slice none 0 0) i → P i ∨ w.heap.size ≤ i := fun i hi => by
        have hs := H3.out.2.size
        rcases hi with rfl | rfl | hi | hi
        · exact .inl (HQP.out _ (.inl rfl))
        · exact .inr (by omega)
        · exact .inr (by have := hv12 i hi; omega)
        · cases hi
      have hB5 : Below w0.heap.size w0 w5 := (hG5.mono fun i _ hi => HQP.out i hi).below HB0.out HB0.out.size HPP.out
      have H5 := hide (And.intro hQ5 (And.intro hG5 hI5))
      have HPa5 := hide (HPa.out w5 hB5)
      obtain ⟨q0, q1, q2, q3⟩ : w4.cell? ⟨b2, 0, none⟩ = some (.slice va hd5.data.toList.length vc) ∧ w4.cell? ⟨b2, 1, none⟩ = some (.slice none 0 0) ∧ w4.cell? ⟨b2, 2, none⟩ = some (.map (some mb2)) ∧ w4.cell? ⟨b2, 3, none⟩ = some (.int .i64 lim) := by simp [World.cell?, hQ4.blk]
      clear hN hQ4 hb hk4 hlb hk5 hg5 hmb2 hv12 hQ5 hG5 hI5 hB5
      obtain ⟨ln, hln⟩ : ∃ n, hd5.data.toList.length = n := ⟨_, rfl⟩
      rw [hln] at q0 hst
      go_wp2_with (refine wpList_store_run rfl _ _ _ rfl _ _ rfl rfl hst ?_)
      refine HPa5.out.mono ?_
      rintro _ w6 ⟨v, rfl, hO6, hb6⟩
      have HF : Hid (FY P w b lim v M w6) := by
        refine ⟨Pb b mb2 (.slice va hd5.data.toList.length vc) (.slice none 0 0), w5.heap.size, ⟨⟨mb2, _, _, ?_, fun i hi => hi⟩, fun i hi => Nat.lt_of_lt_of_le (H5.out.1.lt i hi) hb6.size⟩, (H5.out.2.1.mono fun i _ hi => HQP.out i hi).bel hb6, H5.out.2.2, fun i hi => H5.out.1.lt i hi, H5.out.2.1.size, hO6⟩
        exact H5.out.1.bel hb6
      obtain ⟨a6, c6, rfl⟩ := OW.shp hO6
      clear hO6 hb6
      go_wp2
      exact bodyPost_ret (v := .tuple #[.string S, .slice a6 M.length c6]) (by simp [results, Tryd.results15, go_sem]) rfl ⟨_, rfl, HF.out⟩
end Go.Proofs.YtcidfkkgpehodaaDoor

namespace Go.Proofs.YtcidfkkgpehodaaDoor
open Go.RowKit Go.Lib
theorem bx_new {w' : World} {b mb : Nat} {v1 : Value} {lim : Int} (h : PQ w' b mb v1 (.slice none 0 0) lim hd5.data.toList [] 0 (fun _ => none)) : BX (Pb b mb v1 (.slice none 0 0)) w' b lim [] :=
  ⟨⟨mb, v1, _, h, fun _ hi => hi⟩, fun i hi => h.lt i hi⟩
set_option maxRecDepth 100000 in
theorem new_ok (w : World) (lim : Int) (h1 : 64 ≤ lim) (h2 : lim ≤ 65536) : Calls Tryd.prog 6 #[.int .i64 lim] w fun e w' => ∃ b P, e = .returned (.tuple #[.pointer (some ⟨b, 0, none⟩), .int .i64 0]) ∧ BX P w' b lim [] ∧ (∀ i, P i → w.heap.size ≤ i) ∧ Below w.heap.size w w' := by
  have HE := hide (empty_any w lim)
  have c1 : ¬ lim < 64 := by omega
  have c2 : ¬ 65536 < lim := by omega
  go_enter Tryd.func6, Tryd.ntmps6
  go_wp2_with fail
  refine HE.out.mono ?_
  rintro _ w2 ⟨b, mb, v1, rfl, hN, hQ, hb⟩
  have HF := hide (And.intro (bx_new hQ) (And.intro hN hb))
  clear hN hQ hb
  go_wp2
  exact bodyPost_ret (v := .tuple #[.pointer (some ⟨b, 0, none⟩), .int .i64 0]) (by simp [results, Tryd.results6, go_sem]) rfl ⟨b, _, rfl, HF.out.1, HF.out.2.1, HF.out.2.2⟩
theorem sm_one (n : Nat) (h : n < 128) : (smB n).size = 1 := by
  rw [smB, Zq.Nm.strOf_size]
  unfold uvarint
  rw [dif_pos h]
  rfl
def ab : ByteArray := ⟨#[97, 98]⟩
theorem ex14 : adC 64 [] 1 ab = 0 ∧ adL 64 [] 1 ab = [mkB 1 ab] ∧ (paT [mkB 1 ab]).size = 53 := by
  obtain ⟨e1, e2⟩ := ex13
  have hl : lineB (mkB 1 ab) = idB 1 ab ++ b1 1 ++ smB 4 ++ smB 2 := by
    show idB 1 ab ++ b1 1 ++ smB (enB 1 ab).size ++ smB 2 = _
    rw [show enB 1 ab = ⟨#[1, 2, 97, 98]⟩ from e1]
    rfl
  have hls : (lineB (mkB 1 ab)).size = 35 := by rw [hl, ba_add, ba_add, ba_add, id_size, b1_size, sm_one _ (by decide), sm_one _ (by decide)]
  have hs : (mkB 1 ab).s.size = 4 := by
    show (enB 1 ab).size = 4
    rw [show enB 1 ab = ⟨#[1, 2, 97, 98]⟩ from e1]
    rfl
  have hz : (paT ([] ++ [mkB 1 ab])).size = 53 := by
    rw [paT_snoc, hs, hls, blbB, linesB, sz_nil, List.length_nil, sm_one _ (by decide)]
  have hc : adC 64 [] 1 ab = 0 := by
    rw [adC, if_pos (show rfC 1 ab = 0 from e2)]
    have hf : fits 64 [] (mkB 1 ab) = true := by
      rw [fits, hz]
      decide
    rw [hf]
    rfl
  refine ⟨hc, ?_, hz⟩
  rw [adL, if_pos hc]
  rfl
set_option maxRecDepth 100000 in
set_option maxHeartbeats 4000000 in
theorem works14 {w : World} (hL : Zq.Sh.Laid w) : Calls Tryd.prog 7 #[] w fun e w' => e = .returned (.bool true) ∧ Below w.heap.size w w' := by
  obtain ⟨x1, x2, x3⟩ := ex14
  have HN := hide (new_ok w 64 (by decide) (by decide))
  have HA : Hid (∀ P wx b, BX P wx b 64 [] → Below w.heap.size w wx → Calls Tryd.prog 8 #[.pointer (some ⟨b, 0, none⟩), .int .i64 1, .string ⟨#[97, 98]⟩] wx fun e w' => (∃ i, e = .returned (.tuple #[.string i, .int .i64 0])) ∧ BY P wx b 64 [mkB 1 ab] w') := fun P wx b h hb => by
    have := padd_any h gl_nil hL hb 1 ab (.inl (by decide)) (by decide)
    rw [x1, x2] at this
    exact this.mono fun _ _ ⟨e, h⟩ => ⟨⟨_, e⟩, h⟩
  have hGL : GL [mkB 1 ab] := by
    have := gl_add (lim := 64) (L := []) (k := 1) (t := ab) gl_nil
    rw [x2] at this
    exact this
  have HF : Hid (∀ P wx b, BX P wx b 64 [mkB 1 ab] → Below w.heap.size w wx → (∀ i, P i → w.heap.size ≤ i) → Calls Tryd.prog 15 #[.pointer (some ⟨b, 0, none⟩)] wx fun e w' => ∃ g c, e = .returned (.tuple #[.string (paT [mkB 1 ab]), .slice (some ⟨g, 0, none⟩) 1 c]) ∧ w'.cell? ⟨g, 3, none⟩ = some (.int .i64 5) ∧ w'.cell? ⟨g, 1, none⟩ = some (.string (dgB (paT [mkB 1 ab]))) ∧ g < w'.heap.size ∧ Below w.heap.size w w') := fun P wx b h hb hP => by
    refine (finish_any h hGL hL hb hP).mono ?_
    rintro _ w' ⟨v, rfl, P', N, _, hg, _, _, hN, hO⟩
    have h1 : fnS [mkB 1 ab] = paT [mkB 1 ab] := rfl
    have h2 : fnL [mkB 1 ab] = [⟨(mkB 1 ab).id, dgB (paT [mkB 1 ab]), ((mkB 1 ab).kind : Int), ((5 : Nat) : Int), ((mkB 1 ab).s.size : Int), ((mkB 1 ab).size : Int)⟩] := rfl
    rw [h2] at hO
    rw [h1]
    have hb2 : Below w.heap.size w w' := hg.below hb hb.size hP
    obtain ⟨a, c, rfl, _, h3 | ⟨g, o, rfl, hr, hgl, hG⟩⟩ := hO.ls (r := fun i => N ≤ i) it6_len (fun i hi => (hO.lt i hi).1)
    · cases h3
    · obtain ⟨_, ⟨e, _⟩ | ⟨g', cap, cur, e, _⟩⟩ := hO.own
      · cases e
      · obtain ⟨rfl⟩ : g = g' := by injection e with e1; injection e1 with e1; injection e1
        obtain rfl : o = 0 := by injection e with e1; injection e1 with e1; injection e1
        have k3 := hG 0 _ rfl 3 _ rfl
        have k1 := hG 0 _ rfl 1 _ rfl
        simp only [Nat.zero_mul, Nat.zero_add] at k1 k3
        exact ⟨g, c, rfl, k3, k1, hgl, hb2⟩
  have HS : Hid (∀ (v : Value) (wx : World), Below w.heap.size w wx → Zq.Sh.Pieces wx v [paT [mkB 1 ab]] → Calls Tryd.prog 19 #[v] wx fun e w' => e = .returned (.string (dgB (paT [mkB 1 ab]))) ∧ Below wx.heap.size wx w') := fun v wx h hp => sum_one (hL.below h hL.size) hp (by omega)
  obtain ⟨S, hS⟩ : ∃ S, paT [mkB 1 ab] = S := ⟨_, rfl⟩
  rw [hS] at HF HS x3
  obtain ⟨G, hG⟩ : ∃ G, dgB S = G := ⟨_, rfl⟩
  rw [hG] at HF HS
  clear hS hG x1 x2 hGL hL
  go_enter Tryd.func7, Tryd.ntmps7
  go_wp2_with fail
  refine HN.out.mono ?_
  rintro _ w2 ⟨b, P, rfl, hX, hP, hb⟩
  have H2 := hide (And.intro hX (And.intro hP hb))
  clear hX hP hb
  go_wp2_with fail
  refine (HA.out P w2 b H2.out.1 H2.out.2.2).mono ?_
  rintro _ w3 ⟨⟨i, rfl⟩, P3, hX, hg, hi⟩
  have H3 : Hid (BX P3 w3 b 64 [mkB 1 ab] ∧ (∀ i, P3 i → w.heap.size ≤ i) ∧ Below w.heap.size w w3) := by
    refine ⟨hX, fun i h => ?_, hg.below H2.out.2.2 H2.out.2.2.size H2.out.2.1⟩
    rcases hi i h with h | h
    · exact H2.out.2.1 i h
    · exact Nat.le_trans H2.out.2.2.size h
  clear hX hg hi
  go_wp2_with fail
  refine (HF.out P3 w3 b H3.out.1 H3.out.2.2 H3.out.2.1).mono ?_
  rintro _ w4 ⟨g, c, rfl, k3, k1, hg, hb⟩
  have HB4 := hide hb
  have z1 : ((S.size : Int) == 53) = true := by rw [x3]; rfl
  have HC : Hid (∀ wx, Below w4.heap.size w4 wx → wx.cell? ⟨g, 3, none⟩ = some (.int .i64 5) ∧ wx.cell? ⟨g, 1, none⟩ = some (.string G)) := fun wx h => ⟨(h.cell (p := ⟨g, 3, none⟩) hg).trans k3, (h.cell (p := ⟨g, 1, none⟩) hg).trans k1⟩
  have S0 : Hid ((Below w4.heap.size w4 w4 ∧ w4.cell? ⟨g, 3, none⟩ = some (.int .i64 5) ∧ w4.cell? ⟨g, 1, none⟩ = some (.string G)) ∧ (Below w4.heap.size w4 w4.drew ∧ w4.drew.cell? ⟨g, 3, none⟩ = some (.int .i64 5) ∧ w4.drew.cell? ⟨g, 1, none⟩ = some (.string G))) := ⟨⟨Below.refl _ _, k3, k1⟩, (Below.refl _ _).drew, k3, k1⟩
  have S1 : Hid (∀ wx : World, (Below w4.heap.size w4 wx ∧ wx.cell? ⟨g, 3, none⟩ = some (.int .i64 5) ∧ wx.cell? ⟨g, 1, none⟩ = some (.string G)) → ∀ o, Below w4.heap.size w4 (wx.alloc o) ∧ (wx.alloc o).cell? ⟨g, 3, none⟩ = some (.int .i64 5) ∧ (wx.alloc o).cell? ⟨g, 1, none⟩ = some (.string G)) := fun wx h o => by
    have := below_al h.1 o
    exact ⟨this, HC.out _ this⟩
  have HS4 : Hid (∀ (wx : World), Below w4.heap.size w4 wx → Calls Tryd.prog 19 #[.slice (some ⟨wx.heap.size, 0, none⟩) 1 1] (wx.alloc (.cells #[.string S] 9)) fun e w' => e = .returned (.string G) ∧ Below w4.heap.size w4 w' ∧ w'.cell? ⟨g, 3, none⟩ = some (.int .i64 5) ∧ w'.cell? ⟨g, 1, none⟩ = some (.string G)) := fun wx h => by
    refine (HS.out _ _ (below_step HB4.out (below_al h _)) (pieces_one wx S _ rfl)).mono ?_
    rintro _ w' ⟨rfl, hb⟩
    have := below_step (below_al h _) hb
    exact ⟨rfl, this, HC.out _ this⟩
  have HS5 : Hid (∀ (wx : World), Below w4.heap.size w4 wx → Calls Tryd.prog 19 #[.slice (some ⟨wx.heap.size, 0, none⟩) 1 1] (wx.alloc (.cells #[.string S] 9)).drew fun e w' => e = .returned (.string G) ∧ Below w4.heap.size w4 w' ∧ w'.cell? ⟨g, 3, none⟩ = some (.int .i64 5) ∧ w'.cell? ⟨g, 1, none⟩ = some (.string G)) := fun wx h => by
    refine (HS.out _ _ (below_step HB4.out (below_al h _).drew) (show Zq.Sh.Pieces (wx.alloc (.cells #[.string S] 9)).drew _ _ from pieces_one wx S _ rfl)).mono ?_
    rintro _ w' ⟨rfl, hb⟩
    have := below_step (below_al h _).drew hb
    exact ⟨rfl, this, HC.out _ this⟩
  have S2 : Hid (∀ wx : World, (Below w4.heap.size w4 wx ∧ wx.cell? ⟨g, 3, none⟩ = some (.int .i64 5) ∧ wx.cell? ⟨g, 1, none⟩ = some (.string G)) → ∀ o, Below w4.heap.size w4 (wx.alloc o).drew ∧ (wx.alloc o).drew.cell? ⟨g, 3, none⟩ = some (.int .i64 5) ∧ (wx.alloc o).drew.cell? ⟨g, 1, none⟩ = some (.string G)) := fun wx h o => S1.out wx h o |>.imp (fun h => h.drew) id
  clear k3 k1 hg hb
  go_wp2_with fail
  go_region_held_law (fun wx => Below w4.heap.size w4 wx ∧ wx.cell? ⟨g, 3, none⟩ = some (.int .i64 5) ∧ wx.cell? ⟨g, 1, none⟩ = some (.string G)) (first | assumption | exact ⟨by assumption, by assumption, by assumption⟩ | exact S0.out.1 | exact S0.out.2 | exact S1.out _ S0.out.1 _ | exact S1.out _ S0.out.2 _ | exact S1.out _ (by assumption) _ | exact S2.out _ S0.out.1 _ | exact S2.out _ S0.out.2 _)
    (first
      | (go_at_call 19; refine Calls.mono (HS4.out _ (by first | exact S0.out.1.1 | exact S0.out.2.1)) ?_; rintro e wa ⟨rfl, ka, kb, kc⟩)
      | (go_at_call 19; refine Calls.mono (HS5.out _ (by first | exact S0.out.1.1 | exact S0.out.2.1)) ?_; rintro e wa ⟨rfl, ka, kb, kc⟩))
  all_goals
    go_wp2
    go_ret
    exact ⟨rfl, below_step HB4.out (by assumption)⟩
end Go.Proofs.YtcidfkkgpehodaaDoor
