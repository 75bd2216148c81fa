/-
  Lookup: slices.IndexFunc, slices.DeleteFunc at items.
-/
import Derived.Test.YtkcefdiiibbflaaLuSrch
import Derived.Lib.AppendZeros
namespace Go.Proofs.Ytkcefdiiibbflaa
open Go.RowKit Go.Lib
theorem wpList_store_run {ops : Array Oper} {rest : List Oper} {op : Oper} {a : Act} {w w1 : World} {Q : Exit → Act → World → Prop} (hgd : op.guard = none) (ty : TypeId) (x y : Operand) (ho : op.op = .store ty x y)
    (p v : Value) (hx : a.eval x = p) (hy : a.eval y = v) (hr : (Instr.storeAt ty p v).run Try.prog w = .ok () w1)
    (h : wpList Try.prog ops Q rest (a.put op.dst undef) w1) : wpList Try.prog ops Q (op :: rest) a w :=
  wpList_plain hgd fun _ hK => by
    unfold Oper.wp execOp
    simp only [ho, hx, hy, Sem.run_bind, Sem.run_pure, Result.andThen_ok, hr]
    exact hK _ _ h
theorem wpList_clear_run {ops : Array Oper} {rest : List Oper} {o : Oper} {a : Act} {w : World} {Q : Exit → Act → World → Prop} (hgd : o.guard = none) (x : Operand) (t : TypeId)
    (ho : o.op = .call { callee := .builtin .clear, args := #[x], argTypes := #[t] }) (vx : Value) (hx : a.eval x = vx)
    (v' : Value) (w' : World) (hr : (Builtin.clear_ #[t] o.type #[vx]).run Try.prog w = .ok v' w') (h : wpList Try.prog ops Q rest (a.put o.dst v') w') : wpList Try.prog ops Q (o :: rest) a w :=
  wpList_plain hgd fun _ hK => by
    unfold Oper.wp execOp
    simp only [ho, resolve, invoke, builtin, Sem.run_bind, Sem.run_pure, Result.andThen_ok, List.map_toArray, List.map_cons, List.map_nil, hx, hr]
    exact hK _ _ h
theorem lo_false {p : IT → Bool} {x : IT} (L : List IT) : ∀ {i : Nat}, i < lo p L → L[i]? = some x → p x = false := by
  induction L with
  | nil => intro i h _; simp [lo] at h
  | cons y r ih =>
    intro i h hx
    by_cases hy : p y = true
    · have e : lo p (y :: r) = 0 := by simp [lo, hy]
      rw [e] at h
      omega
    · have e : lo p (y :: r) = lo p r + 1 := by simp [lo, hy]
      cases i with
      | zero => simp at hx; rw [← hx]; simpa using hy
      | succ i => exact ih (i := i) (by rw [e] at h; omega) (by simpa using hx)
theorem lo_true {p : IT → Bool} : ∀ {L : List IT} {x : IT}, L[lo p L]? = some x → p x = true
  | [], x, h => by simp at h
  | y :: r, x, hx => by
    by_cases hy : p y = true
    · have e : lo p (y :: r) = 0 := by simp [lo, hy]
      rw [e] at hx; simp at hx; rw [← hx]; exact hy
    · have e : lo p (y :: r) = lo p r + 1 := by simp [lo, hy]
      rw [e] at hx
      exact lo_true (by simpa using hx)
/-- What IndexFunc tells. -/
def ixF (p : IT → Bool) (L : List IT) : Int := if lo p L < L.length then (lo p L : Nat) else -1
section
variable {r : Nat → Prop} {w W : World} {lv fv : Value} {L : List IT} {p : IT → Bool} {K : World → Prop} {y : IT}
set_option maxRecDepth 100000 in
set_option maxHeartbeats 1600000 in
theorem indexF_any (hp : PR fv p K) (hL : LS it6 6 r w lv L) (hn : L.length ≤ 1099511627776) (hK : K w) :
    Calls Try.prog 50 #[lv, fv] w fun e w' => e = .returned (.int .i64 (ixF p L)) ∧ Below w.heap.size w w' := by
  obtain ⟨⟨g, fb, cb, rfl, eg, hc⟩, hk⟩ := hp
  obtain ⟨a, c, rfl⟩ := hL.shp
  have HH : Hid (∀ j x, L[j]? = some x → ∀ wr, Below w.heap.size w wr → ∃ g o, a = some ⟨g, o, none⟩ ∧ wr.cell? ⟨g, o + j * 6, none⟩ = some (.string x.id) ∧ wr.cell? ⟨g, o + j * 6 + 1, none⟩ = some (.string x.pk) ∧ wr.cell? ⟨g, o + j * 6 + 2, none⟩ = some (.int .i64 x.kind) ∧ wr.cell? ⟨g, o + j * 6 + 3, none⟩ = some (.int .i64 x.off) ∧ wr.cell? ⟨g, o + j * 6 + 4, none⟩ = some (.int .i64 x.long) ∧ wr.cell? ⟨g, o + j * 6 + 5, none⟩ = some (.int .i64 x.size)) := fun j x hx wr hb => by
    obtain ⟨a', c', e, _, h2 | ⟨g, o, ea, _, hg, hG⟩⟩ := hL
    · rw [h2] at hx; simp at hx
    · injection e with e1 _ _
      subst e1
      have hc : ∀ (t : Nat) (v : Value), (it6 x)[t]? = some v → wr.cell? ⟨g, o + j * 6 + t, none⟩ = some v := fun t v hv => (hb.cell (p := ⟨g, o + j * 6 + t, none⟩) hg).trans (hG j x hx t v hv)
      exact ⟨g, o, ea, hc 0 _ rfl, hc 1 _ rfl, hc 2 _ rfl, hc 3 _ rfl, hc 4 _ rfl, hc 5 _ rfl⟩
  have HF : Hid (∀ (wr : World) (x : IT), Below w.heap.size w wr → Calls Try.prog g (fb.push (.agg #[.string x.id, .string x.pk, .int .i64 x.kind, .int .i64 x.off, .int .i64 x.long, .int .i64 x.size]) ++ cb) wr fun e w' => e = .returned (.bool (p x)) ∧ Below w.heap.size w w') := fun wr x hb => by
    refine (hc x wr (hk w wr hK hb)).mono ?_
    rintro e w' ⟨rfl, hB⟩
    exact ⟨rfl, below_step hb hB⟩
  have HLT := hide (fun i x (h : i < lo p L) => lo_false (p := p) (x := x) L h)
  have HLE := hide (fun x => lo_true (p := p) (L := L) (x := x))
  have HLo := hide (lo_le p L)
  obtain ⟨n, hnn⟩ : ∃ n, n = L.length := ⟨_, rfl⟩
  obtain ⟨t, ht⟩ : ∃ t, t = ixF p L := ⟨_, rfl⟩
  rw [← ht]
  rw [ixF] at ht
  have HX := hide ht
  clear ht
  rw [← hnn] at hn HLo HX ⊢
  have HN := hide hnn
  obtain ⟨m, hm⟩ : ∃ m, m = lo p L := ⟨_, rfl⟩
  rw [← hm] at HLT HLE HLo HX
  clear hL hnn hc hk hK hm
  go_enter Try.func50, Try.ntmps50
  go_wp2
  go_loopw [8] (fun t wr => ∃ (j : Nat), j ≤ m ∧ t = .int .i64 (j : Int) ∧ Below w.heap.size w wr) (fun t _ => n - (RowKit.intOf t).toNat)
  case atStart => exact ⟨0, Nat.zero_le _, rfl, Below.refl _ _⟩
  case round =>
    obtain ⟨j, hj, rfl, hB⟩ := hrel
    have hjn : j ≤ n := Nat.le_trans hj HLo.out
    by_cases hlt : j < n
    · have b1 : (j : Int) < (n : Int) := by omega
      have b0 : (0 : Int) ≤ (j : Int) := by omega
      obtain ⟨x, hx⟩ : ∃ x, L[j]? = some x := ⟨_, List.getElem?_eq_getElem (by have := HN.out; omega)⟩
      obtain ⟨g', o, rfl, u0, u1, u2, u3, u4, u5⟩ := HH.out j x hx wr hB
      have HC := hide (HF.out wr x hB)
      have HXX := hide hx
      obtain ⟨xi, xp, xk, xo, xl, xs⟩ := x
      dsimp only at u0 u1 u2 u3 u4 u5 HC
      clear hB hx
      by_cases hxi : p ⟨xi, xp, xk, xo, xl, xs⟩ = true
      · have hjm : j = m := by
          rcases Nat.lt_or_eq_of_le hj with h | h
          · have := HLT.out j _ h HXX.out
            rw [hxi] at this; cases this
          · exact h
        rw [hxi] at HC
        subst hjm
        go_wp2_with fail
        refine HC.out.mono ?_
        rintro e w1 ⟨rfl, hB1⟩
        have HB1 := hide hB1
        have HI : Hid (t = (j : Int)) := by have := HX.out; rw [if_pos hlt] at this; exact this
        clear hB1
        go_wp2
        go_ret
        exact ⟨by rw [HI.out]; rfl, HB1.out⟩
      · have hjm : j + 1 ≤ m := by
          rcases Nat.lt_or_eq_of_le hj with h | h
          · exact h
          · have h2 := HXX.out
            rw [h] at h2
            exact absurd (HLE.out _ h2) hxi
        rw [Bool.eq_false_iff.2 hxi] at HC
        go_wp2_with fail
        refine HC.out.mono ?_
        rintro e w1 ⟨rfl, hB1⟩
        have HB1 := hide hB1
        clear hB1
        go_wp2
        exact ⟨⟨j + 1, hjm, by go_num, HB1.out⟩, by simp [RowKit.intOf]; omega⟩
    · have HB := hide hB
      have HI : Hid (t = -1) := by have := HX.out; rw [if_neg (by omega)] at this; exact this
      clear hB
      have b1 : ¬ (j : Int) < (n : Int) := by omega
      go_wp2
      go_ret
      exact ⟨by rw [HI.out]; rfl, HB.out⟩
theorem hBelow_trans {w w1 w2 : World} (h : Below w.heap.size w w1) (k : Below w1.heap.size w1 w2) : Below w.heap.size w w2 := below_step h k
/-- Reading a row as a list. -/
theorem SG.ls {g o N c : Nat} (h : SG w g o N L) : LS it6 6 (fun i => i = g) w (.slice (some ⟨g, o, none⟩) L.length c) L :=
  ⟨_, _, rfl, (fun e => by cases e), .inr ⟨g, o, rfl, rfl, h.blk.lt, fun _ _ hx j u hu => h.at hx j u hu⟩⟩
theorem lo_all {p : IT → Bool} {L : List IT} (h : L.length ≤ lo p L) : L.filter (fun x => !p x) = L := by
  rw [List.filter_eq_self]
  intro x hx
  obtain ⟨i, hi⟩ := List.mem_iff_getElem?.1 hx
  have hil := (List.getElem?_eq_some_iff.1 hi).1
  rw [lo_false L (Nat.lt_of_lt_of_le hil h) hi]
  rfl
theorem lo_pre {p : IT → Bool} (L : List IT) : L.take (lo p L) = (L.take (lo p L)).filter fun x => !p x := by
  symm
  rw [List.filter_eq_self]
  intro x hx
  obtain ⟨i, hi⟩ := List.mem_iff_getElem?.1 hx
  rw [List.getElem?_take] at hi
  split at hi
  · rename_i h
    rw [lo_false L h hi]
    rfl
  · cases hi
set_option maxRecDepth 100000 in
set_option maxHeartbeats 3200000 in
theorem del_any {g o N c : Nat} (hp : PR fv p K) (hKg : ∀ w w', K w → Gs (fun i => i = g) w w' → K w') (h : SG w g o N L) (hn : L.length ≤ 1099511627776) (hc : L.length ≤ c) (hcm : c ≤ 9223372036854775807) (hK : K w) :
    Calls Try.prog 30 #[.slice (some ⟨g, o, none⟩) L.length c, fv] w fun e w' => e = .returned (.slice (some ⟨g, o, none⟩) (L.filter fun x => !p x).length c) ∧ SG w' g o N (L.filter fun x => !p x) ∧ Gs (fun i => i = g) w w' ∧ ∀ j, (j < o ∨ o + L.length * 6 ≤ j) → w'.cell? ⟨g, j, none⟩ = w.cell? ⟨g, j, none⟩ := by
  have HI := hide (indexF_any hp (h.ls (c := c)) hn hK)
  obtain ⟨⟨f, fb, cb, rfl, eg, hcf⟩, hk⟩ := hp
  have HF : Hid (∀ (wr : World) (x : IT), K wr → Calls Try.prog f (fb.push (.agg #[.string x.id, .string x.pk, .int .i64 x.kind, .int .i64 x.off, .int .i64 x.long, .int .i64 x.size]) ++ cb) wr fun e w' => e = .returned (.bool (p x)) ∧ Below wr.heap.size wr w') := fun wr x hb => hcf x wr hb
  have HKg := hide hKg
  have H := hide h
  have HKw := hide hK
  obtain ⟨n, hnn⟩ : ∃ n, n = L.length := ⟨_, rfl⟩
  have HN := hide hnn
  rw [← hnn] at hn hc HI ⊢
  clear hcf hk hKg h hK hnn
  by_cases hall : n ≤ lo p L
  · have HX : Hid (ixF p L = -1) := by rw [ixF, if_neg (by have := HN.out; omega)]; exact hide rfl
    have HE : Hid (L.filter (fun x => !p x) = L) := hide (lo_all (by rw [← HN.out]; exact hall))
    rw [HX.out] at HI
    rw [HE.out, ← HN.out]
    go_enter Try.func30, Try.ntmps30
    go_wp2_with fail
    refine HI.out.mono ?_
    rintro e w1 ⟨rfl, hB1⟩
    have HB1 := hide hB1
    clear hB1
    go_wp2
    go_ret
    exact ⟨rfl, H.out.bel HB1.out, Gs.of_below _ HB1.out, fun j _ => by rw [World.cell?, World.cell?, HB1.out.block g H.out.blk.lt]⟩
  · obtain ⟨m, hm⟩ : ∃ m, m = lo p L := ⟨_, rfl⟩
    have hmn : m < n := by omega
    have HX : Hid (ixF p L = (m : Int)) := by rw [ixF, if_pos (by have := HN.out; omega), hm]; exact hide rfl
    rw [HX.out] at HI
    have HM := hide hm
    clear hm hall
    have hz1 : ((m : Int) == -1) = false := by simp only [beq_eq_false_iff_ne]; omega
    go_enter Try.func30, Try.ntmps30
    go_wp2_with fail
    refine HI.out.mono ?_
    rintro e w1 ⟨rfl, hB1⟩
    have HB1 := hide hB1
    clear hB1
    go_wp2
    go_loopw [5, 6] (fun a b wr => ∃ (i j : Nat) (M : List IT), i < j ∧ j ≤ n ∧ a = .int .i64 (i : Int) ∧ b = .int .i64 (j : Int) ∧ SG wr g o N M ∧ M.length = n ∧ M.take i = (L.take j).filter (fun x => !p x) ∧ M.drop j = L.drop j ∧ K wr ∧ Gs (fun i => i = g) w wr ∧ ∀ q, (q < o ∨ o + n * 6 ≤ q) → wr.cell? ⟨g, q, none⟩ = w.cell? ⟨g, q, none⟩) (fun _ b _ => n - (RowKit.intOf b).toNat)
    case atStart =>
      refine ⟨m, m + 1, L, by omega, by omega, rfl, by go_num, H.out.bel HB1.out, HN.out.symm, ?_, rfl, HKg.out _ _ HKw.out (Gs.of_below _ HB1.out), Gs.of_below _ HB1.out, fun q _ => by rw [World.cell?, World.cell?, HB1.out.block g H.out.blk.lt]⟩
      obtain ⟨x, hx⟩ : ∃ x, L[m]? = some x := ⟨_, List.getElem?_eq_getElem (by have := HN.out; omega)⟩
      have e1 : p x = true := by rw [HM.out] at hx; exact lo_true hx
      have e2 : (L.take m).filter (fun x => !p x) = L.take m := by rw [HM.out]; exact (lo_pre L).symm
      rw [List.take_add_one, hx, List.filter_append, e2]
      simp [e1]
    case round =>
      obtain ⟨i, j, M, hij, hjn, rfl, rfl, hSG, hML, hT, hD, hKw, hG, hfr⟩ := hrel
      have HR := hide (And.intro hSG (And.intro hML (And.intro hT (And.intro hD (And.intro hKw (And.intro hG hfr))))))
      clear hSG hML hT hD hKw hG hfr
      by_cases hlt : j < n
      · have b1 : (j : Int) < (n : Int) := by omega
        have b0 : (0 : Int) ≤ (j : Int) := by omega
        obtain ⟨x, hx⟩ : ∃ x, L[j]? = some x := ⟨_, List.getElem?_eq_getElem (by have := HN.out; omega)⟩
        have hxM : M[j]? = some x := by
          have := congrArg (·[0]?) HR.out.2.2.2.1
          simpa [List.getElem?_drop, hx] using this
        have hld := HR.out.1.load hxM
        obtain ⟨xb, hxb⟩ : ∃ xb, xb = wr.heap.size := ⟨_, rfl⟩
        obtain ⟨V, hV⟩ : ∃ V, V = wr.alloc (.cells (it6 x).toArray 25) := ⟨_, rfl⟩
        have k0 : SBI V xb x := by rw [hV, hxb]; exact heap_alloc_new wr _
        obtain ⟨x0, x1, x2, x3, x4, x5⟩ := c6_of k0
        have hBV : Below wr.heap.size wr V := by rw [hV]; exact (Below.refl _ _).alloc (Nat.le_refl _) _
        have hKV : K V := HKg.out _ _ HR.out.2.2.2.2.1 (Gs.of_below _ hBV)
        have HC := hide (HF.out V x hKV)
        have hc : ∀ (t : Nat) (v : Value), (it6 x)[t]? = some v → wr.cell? ⟨g, o + j * 6 + t, none⟩ = some v := fun t v hv => HR.out.1.at hxM t v hv
        have u0 := hc 0 _ rfl
        have u1 := hc 1 _ rfl
        have u2 := hc 2 _ rfl
        have u3 := hc 3 _ rfl
        have u4 := hc 4 _ rfl
        have u5 := hc 5 _ rfl
        simp only [Nat.add_zero] at u0
        have HV := hide hV
        have HXB := hide hxb
        have HBV := hide hBV
        have HXL := hide (And.intro hx hxM)
        simp only [it6] at HV
        clear hc hx hxM hld hV hxb hBV hKV k0
        go_upto_region 8 with fail
        rw [← HV.out, ← HXB.out]
        have HT0 := hide (List.take_add_one (l := L) (i := j))
        by_cases hpx : p x = true
        · rw [hpx] at HC
          go_wp2_with fail
          refine HC.out.mono ?_
          rintro e w2 ⟨rfl, hB2⟩
          have HB2 := hide (hBelow_trans HBV.out hB2)
          clear hB2
          go_wp2
          refine ⟨⟨i, j + 1, M, by omega, by omega, rfl, by go_num, HR.out.1.bel HB2.out, HR.out.2.1, ?_, ?_, HKg.out _ _ HR.out.2.2.2.2.1 (Gs.of_below _ HB2.out), HR.out.2.2.2.2.2.1.bel HB2.out, fun q hq => ?_⟩, by simp [RowKit.intOf]; omega⟩
          · rw [HT0.out, HXL.out.1, List.filter_append, ← HR.out.2.2.1]
            simp [hpx]
          · rw [← List.drop_drop, ← List.drop_drop, HR.out.2.2.2.1]
          · rw [← HR.out.2.2.2.2.2.2 q hq, World.cell?, World.cell?, HB2.out.block g HR.out.1.blk.lt]
        · have hpx' : p x = false := by simpa using hpx
          rw [hpx'] at HC
          go_wp2_with fail
          refine HC.out.mono ?_
          rintro e w2 ⟨rfl, hB2⟩
          have k2 : SBI w2 xb x := by
            have k0 : SBI V xb x := by
              show V.heap[xb]? = _
              rw [HV.out, HXB.out]; exact heap_alloc_new wr _
            exact k0.bel hB2
          obtain ⟨y0, y1, y2, y3, y4, y5⟩ := c6_of k2
          have HB2 := hide (hBelow_trans HBV.out hB2)
          have hSG2 := HR.out.1.bel HB2.out
          have hst := hSG2.store (i := i) (by have := HR.out.2.1; omega) x
          have HSG2 := hide hSG2
          have b2 : (i : Int) < (n : Int) := by omega
          have b3 : (0 : Int) ≤ (i : Int) := by omega
          simp only [it6] at hst
          obtain ⟨X, hX⟩ : ∃ X, X = w2.setCells g (o + i * 6) [.string x.id, .string x.pk, .int .i64 x.kind, .int .i64 x.off, .int .i64 x.long, .int .i64 x.size] := ⟨_, rfl⟩
          rw [← hX] at hst
          have HX2 := hide hX
          clear hB2 k2 hSG2 hX x0 x1 x2 x3 x4 x5 u0 u1 u2 u3 u4 u5
          go_wp2_with (refine wpList_store_run rfl 25 _ _ rfl _ _ rfl rfl hst ?_)
          have hGX : Gs (fun i => i = g) w2 X := by rw [HX2.out]; exact gs_setCells g _ _ _
          have hG2 : Gs (fun i => i = g) wr X := (Gs.of_below _ HB2.out).trans hGX
          have hML := HR.out.2.1
          refine ⟨⟨i + 1, j + 1, M.set i x, by omega, by omega, by go_num, by go_num, by rw [HX2.out]; exact HSG2.out.set (by omega) x, by rw [List.length_set]; exact hML, ?_, ?_, HKg.out _ _ HR.out.2.2.2.2.1 hG2, HR.out.2.2.2.2.2.1.trans hG2, fun q hq => ?_⟩, by simp [RowKit.intOf]; omega⟩
          · rw [HT0.out, HXL.out.1, List.filter_append, ← HR.out.2.2.1, List.take_add_one, List.getElem?_set_self (by omega), List.take_set_of_le (Nat.le_refl _)]
            simp [hpx']
          · rw [List.drop_set_of_lt (by omega), ← List.drop_drop, ← List.drop_drop, HR.out.2.2.2.1]
          · rw [← HR.out.2.2.2.2.2.2 q hq, HX2.out, World.cell?_setCells_out]
            · rw [World.cell?, World.cell?, HB2.out.block g HR.out.1.blk.lt]
            · intro _ _
              show q < o + i * 6 ∨ o + i * 6 + 6 ≤ q
              omega
      · obtain rfl : j = n := by omega
        have b1 : (i : Int) ≤ (j : Int) := by omega
        have b2 : (0 : Int) ≤ (i : Int) := by omega
        have b3 : (j : Int) ≤ (c : Int) := by omega
        obtain ⟨vs, hvl, hcl⟩ := clear_any (o := o + i * 6) (n := j - i) (c := c - i) HR.out.1.blk (by omega) (by have := HR.out.1.fit; have := HR.out.2.1; omega) 46 0 Try.underlying46
        obtain ⟨X, hX⟩ : ∃ X, X = wr.setCells g (o + i * 6) vs := ⟨_, rfl⟩
        rw [← hX] at hcl
        have HX2 := hide hX
        have HVL := hide hvl
        have b4 : (i : Int) ≤ (c : Int) := by omega
        have HFE : Hid (L.filter (fun x => !p x) = M.take i) := by
          have := HR.out.2.2.1
          rw [List.take_of_length_le (l := L) (i := j) (by have := HN.out; omega)] at this
          exact hide this.symm
        have HFL : Hid ((L.filter (fun x => !p x)).length = i) := by rw [HFE.out, List.length_take]; have := HR.out.2.1; apply hide; omega
        clear hX hvl
        go_wp2_with (refine wpList_clear_run rfl _ 46 rfl _ rfl _ _ hcl ?_)
        go_ret
        rw [HFL.out, HFE.out]
        refine ⟨rfl, ?_, HR.out.2.2.2.2.2.1.trans (by rw [HX2.out]; exact gs_setCells g _ _ _), fun q hq => ?_⟩
        · rw [HX2.out]
          exact (HR.out.1.take i).apart vs (.inr (by rw [List.length_take]; omega))
        · rw [← HR.out.2.2.2.2.2.2 q hq, HX2.out, World.cell?_setCells_out]
          intro _ _
          show q < o + i * 6 ∨ o + i * 6 + vs.length ≤ q
          have := HVL.out
          omega
end
end Go.Proofs.Ytkcefdiiibbflaa
