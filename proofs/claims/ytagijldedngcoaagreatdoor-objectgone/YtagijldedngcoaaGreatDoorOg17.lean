/-
  Contracts of the program and of the statements (part 17 of 27).
-/
import Derived.Test.YtagijldedngcoaaGreatDoorOg16
set_option maxRecDepth 100000
set_option maxHeartbeats 3200000

namespace Go.Proofs.YtagijldedngcoaaGreatDoor
open Go.RowKit Go.Lib
def vl (b : Nat) (l : List Nat) (s : Nat) : Nat := l.foldl (fun s x => s * b + x) s
theorem vl_lt {b : Nat} : ∀ (r r' : List Nat) (s s' : Nat), r.length = r'.length → s < s' → (∀ x ∈ r, x < b) → vl b r s < vl b r' s'
  | [], [], s, s', _, h, _ => h
  | x :: r, x' :: r', s, s', hl, h, hx => by
    refine vl_lt r r' (s * b + x) (s' * b + x') (by simpa using hl) ?_ fun y hy => hx y (by simp [hy])
    have h1 := hx x (by simp)
    have h2 : (s + 1) * b ≤ s' * b := Nat.mul_le_mul_right b h
    rw [Nat.add_mul, Nat.one_mul] at h2
    omega
  | [], _ :: _, _, _, hl, _, _ => by simp at hl
  | _ :: _, [], _, _, hl, _, _ => by simp at hl
theorem vl_max {b : Nat} : ∀ (r : List Nat) (s : Nat), (∀ x ∈ r, x < b) → vl b r s < (s + 1) * b ^ r.length
  | [], s, _ => by simp [vl]
  | x :: r, s, hx => by
    have h := vl_max r (s * b + x) fun y hy => hx y (by simp [hy])
    have h1 := hx x (by simp)
    rw [List.length_cons, Nat.pow_succ, Nat.mul_comm (b ^ r.length) b, ← Nat.mul_assoc]
    refine Nat.lt_of_lt_of_le h (Nat.mul_le_mul_right _ ?_)
    rw [Nat.add_mul, Nat.one_mul]
    omega
theorem ci_digits {K n : Nat} {c : List Nat} (h : CI K n c) : ∀ x ∈ c, x < n + 1 := fun x hx => by
  obtain ⟨i, hi⟩ := List.mem_iff_getElem?.1 hx
  have hl := (List.getElem?_eq_some_iff.1 hi).1
  have := ci_lt h (i := i) (by rw [← h.1]; exact hl)
  rw [cat_at hi] at this
  omega
theorem vl_nxI {K n : Nat} {c c' : List Nat} (h : CI K n c) : ∀ {i : Nat}, i ≤ K → nxI c n i = some c' → vl (n + 1) c 0 < vl (n + 1) c' 0
  | 0, _, e => by rw [nxI] at e; cases e
  | i + 1, hi, e => by
    rw [nxI] at e
    split at e
    · exact vl_nxI h (by omega) e
    · cases e
      have hl : i < c.length := by rw [h.1]; omega
      have e1 : c = c.take i ++ cat c i :: c.drop (i + 1) := by
        conv => lhs; rw [← List.take_append_drop i c, List.drop_eq_getElem_cons hl]
        rw [show c[i] = cat c i from (by have := cat_get hl; rw [List.getElem?_eq_getElem hl] at this; exact Option.some.inj this)]
      have e2 : (List.range (c.length - i)).map (fun j => cat c i + 1 + j) = (cat c i + 1) :: (List.range (c.length - i - 1)).map fun j => cat c i + 1 + (j + 1) := by
        rw [show c.length - i = (c.length - i - 1) + 1 by omega, List.range_succ_eq_map, List.map_cons, List.map_map]
        rfl
      rw [e2]
      conv => lhs; rw [e1]
      unfold vl
      rw [List.foldl_append, List.foldl_append, List.foldl_cons, List.foldl_cons]
      refine vl_lt _ _ _ _ (by simp; omega) (by omega) fun x hx => ci_digits h x (List.mem_of_mem_drop hx)
theorem vl_nxt {K n : Nat} {c c' : List Nat} (h : CI K n c) (e : nxt c n = some c') : vl (n + 1) c 0 < vl (n + 1) c' 0 := vl_nxI h (by rw [h.1]; exact Nat.le_refl _) e
def rk (n p : Nat) (w : World) : Nat := match w.heap[p]? with
  | some (.cells cs _ _) => vl (n + 1) (cs.toList.map fun v => (intOf v).toNat) 0
  | _ => 0
theorem rk_nr {w : World} {p n K : Nat} {c : List Nat} (h : NR w p K (cat c)) (hc : c.length = K) : rk n p w = vl (n + 1) c 0 := by
  unfold rk
  rw [show w.heap[p]? = _ from h]
  simp only
  congr 1
  apply List.ext_getElem?
  intro i
  simp only [List.map_map, List.getElem?_map]
  by_cases hi : i < K
  · rw [List.getElem?_range hi, cat_get (by omega)]
    simp [intOf]
  · rw [List.getElem?_eq_none (by simpa using hi), List.getElem?_eq_none (by omega)]
    rfl
theorem rk_le {w : World} {p n K : Nat} {c : List Nat} (h : NR w p K (cat c)) (hc : CI K n c) : rk n p w < (n + 1) ^ K := by
  rw [rk_nr h hc.1]
  have := vl_max c 0 (ci_digits hc)
  rw [hc.1] at this
  simpa using this
/-! ### Stores and makes, reckoned ahead -/
section
variable {F : Fence} {n : Nat} {ops : Array Oper} {rest : List Oper} {op : Oper} {a : Act} {w w1 : World} {Q : Exit → Act → World → Prop}
theorem in_store_run (hgd : op.guard = none) (ty : TypeId) (x y : Operand) (ho : op.op = .store ty x y)
    (p v : Value) (hx : a.eval x = p) (hy : a.eval y = v) (hr : (Instr.storeAt ty p v).run Tryz.prog w = .ok () w1)
    (h : wpListIn F n Tryz.prog ops Q rest (a.put op.dst undef) w1) : wpListIn F n Tryz.prog ops Q (op :: rest) a w := by
  refine wpListIn_plain hgd fun K hK => ?_
  unfold Oper.wpIn
  refine ⟨?_, ?_⟩
  · simp [Oper.about, ho]
  · rw [Oper.semAt_plain F _ _ (by rw [ho]; intro c hc'; cases hc')]
    simp only [execOp, ho, hx, hy, Sem.run_bind, Sem.run_pure, Result.andThen_ok, hr]
    exact hK _ _ h
theorem in_make_run (hgd : op.guard = none) (ty : TypeId) (x y : Operand) (ho : op.op = .makeSlice ty x y)
    (p v u : Value) (hx : a.eval x = p) (hy : a.eval y = v) (hr : (Instr.makeSlice ty p v).run Tryz.prog w = .ok u w1)
    (h : wpListIn F n Tryz.prog ops Q rest (a.put op.dst u) w1) : wpListIn F n Tryz.prog ops Q (op :: rest) a w := by
  refine wpListIn_plain hgd fun K hK => ?_
  unfold Oper.wpIn
  refine ⟨?_, ?_⟩
  · simp [Oper.about, ho]
  · rw [Oper.semAt_plain F _ _ (by rw [ho]; intro c hc'; cases hc')]
    simp only [execOp, ho, hx, hy, Sem.run_bind, Sem.run_pure, Result.andThen_ok, hr]
    exact hK _ _ h
end
/-! ### Shards in a block of one's own -/
theorem six_len (x : Zq.SX) : (Zq.six x).length = 6 := rfl
def SQL (w : World) (g : Nat) (l : List Zq.SX) : Prop := w.heap[g]? = some (.cells (l.flatMap Zq.six).toArray 232 (0, 0))
section
variable {w w' : World} {g j : Nat} {l : List Zq.SX} {x y : Zq.SX} {r : Nat → Prop}
theorem SQL.lt (h : SQL w g l) : g < w.heap.size := lt_of_block h
theorem SQL.gs {q : Nat → Prop} (h : SQL w g l) (hg : Gs q w w') (hq : ¬ q g) : SQL w' g l := (hg.block g h.lt hq).trans h
theorem SQL.set (h : SQL w g l) (hx : l[j]? = some x) (k : Nat) (hk : k < 6) (v : Value) (x' : Zq.SX) (he : Zq.six x' = (Zq.six x).set k v) : SQL (w.setCell ⟨g, j * 6 + k, none⟩ v) g (l.set j x') := by
  have := heap_set_self (j := j * 6 + k) (u := v) h
  unfold SQL
  rw [← flat_set six_len l j k x x' v hx hk he]
  simpa using this
theorem SQL.six (h : SQL w g l) (hx : l[j]? = some x) (y : Zq.SX) : SQL (w.setCells g (j * 6) [.int .i64 y.k, .int .i64 y.m, .int .i64 y.i, .int .i64 y.long, .string y.id, .string y.data]) g (l.set j y) := by
  have hl : j < l.length := (List.getElem?_eq_some_iff.1 hx).1
  simp only [World.setCells]
  have e1 := h.set hx 0 (by decide) (.int .i64 y.k) ⟨y.k, x.m, x.i, x.long, x.id, x.data⟩ rfl
  have e2 := e1.set (j := j) (x := ⟨y.k, x.m, x.i, x.long, x.id, x.data⟩) (by rw [List.getElem?_set_self hl]) 1 (by decide) (.int .i64 y.m) ⟨y.k, y.m, x.i, x.long, x.id, x.data⟩ rfl
  have e3 := e2.set (j := j) (x := ⟨y.k, y.m, x.i, x.long, x.id, x.data⟩) (by rw [List.getElem?_set_self (by simpa using hl)]) 2 (by decide) (.int .i64 y.i) ⟨y.k, y.m, y.i, x.long, x.id, x.data⟩ rfl
  have e4 := e3.set (j := j) (x := ⟨y.k, y.m, y.i, x.long, x.id, x.data⟩) (by rw [List.getElem?_set_self (by simpa using hl)]) 3 (by decide) (.int .i64 y.long) ⟨y.k, y.m, y.i, y.long, x.id, x.data⟩ rfl
  have e5 := e4.set (j := j) (x := ⟨y.k, y.m, y.i, y.long, x.id, x.data⟩) (by rw [List.getElem?_set_self (by simpa using hl)]) 4 (by decide) (.string y.id) ⟨y.k, y.m, y.i, y.long, y.id, x.data⟩ rfl
  have e6 := e5.set (j := j) (x := ⟨y.k, y.m, y.i, y.long, y.id, x.data⟩) (by rw [List.getElem?_set_self (by simpa using hl)]) 5 (by decide) (.string y.data) y rfl
  simp only [List.set_set] at e6
  exact e6
theorem SQL.cell (h : SQL w g l) (hx : l[j]? = some x) {k : Nat} (hk : k < 6) {v : Value} (hv : (Zq.six x)[k]? = some v) : w.cell? ⟨g, j * 6 + k, none⟩ = some v := by
  rw [cell_of_row w g _ _ _ _ h]
  simp only [List.getElem?_toArray]
  rw [flat_get six_len l j k hk, hx]
  exact hv
theorem c6_of {w : World} {g o : Nat} {x : Zq.SX} (h : ∀ j u, (Zq.six x)[j]? = some u → w.cell? ⟨g, o + j, none⟩ = some u) : Zq.C6 w g o x :=
  ⟨h 0 _ rfl, h 1 _ rfl, h 2 _ rfl, h 3 _ rfl, h 4 _ rfl, h 5 _ rfl⟩
theorem SQL.lx (h : SQL w g l) : Zq.LX w (.slice (some ⟨g, 0, none⟩) l.length l.length) l.length (lx l) := by
  refine ⟨_, _, rfl, .inr ⟨g, 0, rfl, h.lt, fun i hi => ?_⟩⟩
  have hx := List.getElem?_eq_getElem hi
  rw [lx_at hx]
  exact c6_of fun j u hu => by
    rw [Nat.zero_add]
    exact h.cell hx (by have := (List.getElem?_eq_some_iff.1 hu).1; rw [six_len] at this; exact this) hu
theorem made_s (n : Nat) : madeCells (Value.agg #[.int .i64 0, .int .i64 0, .int .i64 0, .int .i64 0, .string ⟨#[]⟩, .string ⟨#[]⟩]).cells (n * 6) = ((List.replicate n sx0).flatMap Zq.six).toArray := by
  apply Array.ext_getElem?
  intro i
  have hz : (Value.agg #[.int .i64 0, .int .i64 0, .int .i64 0, .int .i64 0, .string ⟨#[]⟩, .string ⟨#[]⟩]).cells = #[.int .i64 0, .int .i64 0, .int .i64 0, .int .i64 0, .string ⟨#[]⟩, .string ⟨#[]⟩] := rfl
  simp only [List.getElem?_toArray]
  have e : i = i / 6 * 6 + i % 6 := by omega
  have hm : i % 6 < 6 := Nat.mod_lt _ (by decide)
  conv => rhs; rw [e, flat_get six_len _ _ _ hm, List.getElem?_replicate]
  rw [madeCells, hz, Array.getElem?_map]
  by_cases h : i < n * 6
  · rw [if_pos (by omega)]
    have : (Array.range (n * 6))[i]? = some i := by simp [h]
    rw [this]
    have h6 : i % 6 = 0 ∨ i % 6 = 1 ∨ i % 6 = 2 ∨ i % 6 = 3 ∨ i % 6 = 4 ∨ i % 6 = 5 := by omega
    rcases h6 with h6 | h6 | h6 | h6 | h6 | h6 <;> simp [h6, Zq.six, sx0]
  · rw [if_neg (by omega)]
    have : (Array.range (n * 6))[i]? = none := by simp; omega
    rw [this]
    rfl
theorem run_makeS (n : Nat) (hn : n ≤ 1000) (w : World) : ∃ W, (Instr.makeSlice 188 (.int .i64 (n : Int)) (.int .i64 (n : Int))).run Tryz.prog w = .ok (.slice (some ⟨w.heap.size, 0, none⟩) n n) W ∧ SQL W w.heap.size (List.replicate n sx0) ∧ Below w.heap.size w W ∧ W.heap.size = w.heap.size + 1 := by
  obtain ⟨i0, hi, hz0, hz1, hz2⟩ := info_parts Zq.Tryz.infoSh
  have hr := run_make (P := Tryz.prog) w 188 232 i0 _ Tryz.underlying188 hi hz0 .i64 .i64 (n : Int) (n : Int) (by omega) (Int.le_refl _) (by rw [hz2]; omega) (by omega)
  rw [hz1] at hr
  simp only [Int.toNat_natCast] at hr
  rw [made_s] at hr
  exact ⟨_, hr, heap_alloc_new w _, (Below.refl _ _).alloc (Nat.le_refl _) _, by simp⟩
theorem Tryz.infoN : (Tryz.prog.info? 3).map (fun i => (i.zero, i.size, i.bytes)) = some (some (.int .i64 0), 1, 8) := by kernel_rfl
theorem made_n (n : Nat) : madeCells (Value.int .i64 0).cells (n * 1) = ((List.range n).map fun i => Value.int .i64 (((fun _ => 0 : Nat → Nat) i : Nat) : Int)).toArray := by
  apply Array.ext_getElem?
  intro i
  rw [madeCells, Array.getElem?_map]
  simp only [List.getElem?_toArray, List.getElem?_map, Nat.mul_one]
  by_cases h : i < n
  · have : (Array.range n)[i]? = some i := by simp [h]
    rw [this, List.getElem?_range h]
    simp [Value.cells, Nat.mod_one]
  · have : (Array.range n)[i]? = none := by simp; omega
    rw [this, List.getElem?_eq_none (by simpa using h)]
    rfl
theorem run_makeN (n : Nat) (hn : n ≤ 1000) (w : World) : ∃ W, (Instr.makeSlice 162 (.int .i64 (n : Int)) (.int .i64 (n : Int))).run Tryz.prog w = .ok (.slice (some ⟨w.heap.size, 0, none⟩) n n) W ∧ NR W w.heap.size n (fun _ => 0) ∧ Below w.heap.size w W ∧ W.heap.size = w.heap.size + 1 := by
  obtain ⟨i0, hi, hz0, hz1, hz2⟩ := info_parts Tryz.infoN
  have hr := run_make (P := Tryz.prog) w 162 3 i0 _ Tryz.underlying162 hi hz0 .i64 .i64 (n : Int) (n : Int) (by omega) (Int.le_refl _) (by rw [hz2]; omega) (by omega)
  rw [hz1] at hr
  simp only [Int.toNat_natCast] at hr
  rw [made_n] at hr
  exact ⟨_, hr, heap_alloc_new w _, (Below.refl _ _).alloc (Nat.le_refl _) _, by simp⟩
end
end Go.Proofs.YtagijldedngcoaaGreatDoor

namespace Go.Proofs.YtagijldedngcoaaGreatDoor
open Go.RowKit Go.Lib Go.Shelf
attribute [local go_sem] Oper.semAt_some
def Ch (K : Nat) (f : List Zq.SX) (B t : Nat) (W : World) (v : Value) : Prop := ∃ c g, ith K f.length t = some c ∧ B ≤ g ∧ v = .slice (some ⟨g, 0, none⟩) K K ∧ SQL W g (pick f c)
theorem Ch.gs {K B t : Nat} {f : List Zq.SX} {A A' : World} {v : Value} (h : Ch K f B t A v) (hg : Gs (fun i => i < B) A A') : Ch K f B t A' v := by
  obtain ⟨c, g, h1, h2, h3, h4⟩ := h
  exact ⟨c, g, h1, h2, h3, h4.gs hg (by omega)⟩
theorem Tryz.sizeSh : (Tryz.prog.info? 232).map (·.size) = some 6 := by kernel_rfl
section
variable {w : World} {M r : Nat → Prop} {bf bk K : Nat} {fv : Value} {f : List Zq.SX}
theorem choices_any {a : Option Addr} {n c : Nat} : Calls Tryz.prog 202 #[.slice a n c, .int .i64 (K : Int)] w fun e w' => e = .returned (.func (.func 233) #[] #[.pointer (some ⟨w.heap.size, 0, none⟩), .pointer (some ⟨w.heap.size + 1, 0, none⟩)]) ∧ w' = (w.alloc (.cells #[.slice a n c] 189)).alloc (.cells #[.int .i64 (K : Int)] 3) := by
  have hmf : ∀ (fn : Fn) (first cap : Array Value) (w : World), (Instr.makeFunc fn first cap).run Tryz.prog w = .ok (.func fn first cap) w := fun _ _ _ _ => rfl
  go_enter Tryz.func202, Tryz.ntmps202
  go_wp2
  go_ret
  exact ⟨rfl, rfl⟩
structure CW (M : Nat → Prop) (K : Nat) (J : Nat → World → Prop) (W : World) (l p g : Nat) (wr : World) (t : Nat) : Prop where
  j : J t wr
  gs : Gs (fun i => (M i ∨ i = l) ∨ W.heap.size ≤ i) W wr
  sz : g < wr.heap.size
  sq : ∃ l', l'.length = K ∧ SQL wr g l'
theorem choices1_seq (h1 : w.heap[bf]? = some (.cells #[fv] 189 (0, 0))) (h2 : w.heap[bk]? = some (.cells #[.int .i64 (K : Int)] 3 (0, 0))) (hf : LS Zq.six 6 r w fv f) (hr : ∀ i, r i → ¬ M i) (hm1 : ¬ M bf) (hm2 : ¬ M bk) (hM : ∀ i, M i → i < w.heap.size) (hfl : f.length ≤ 1000) (hK : 1 ≤ K) (hK2 : K ≤ 1000) :
    SeqM 233 #[.pointer (some ⟨bf, 0, none⟩), .pointer (some ⟨bk, 0, none⟩)] M (Ch K f) (fun t => ith K f.length t = none) (fun t => ∃ c, ith K f.length t = some c) w := fun l J Jx W hB hl1 hl2 hJ hJx hY h0 => by
  have hbf := lt_of_block h1
  have hbk := lt_of_block h2
  have hBs := hB.size
  obtain ⟨N, hN⟩ : ∃ N, N = f.length := ⟨_, rfl⟩
  have HD : Hid (∀ {wr : World}, Gs (fun i => (M i ∨ i = l) ∨ W.heap.size ≤ i) W wr → wr.heap[bf]? = some (.cells #[fv] 189 (0, 0)) ∧ wr.heap[bk]? = some (.cells #[.int .i64 (K : Int)] 3 (0, 0)) ∧ LS Zq.six 6 (fun i => r i ∧ i < w.heap.size) wr fv f) := fun hg => by
    refine ⟨(hg.block bf (by omega) ?_).trans ((hB.block bf hbf).trans h1), (hg.block bk (by omega) ?_).trans ((hB.block bk hbk).trans h2), (hf.old.bel hB).gs hg ?_⟩
    · rintro ((h | h) | h)
      · exact hm1 h
      · omega
      · omega
    · rintro ((h | h) | h)
      · exact hm2 h
      · omega
      · omega
    · rintro i ⟨hi1, hi2⟩ ((h | h) | h)
      · exact hr i hi1 h
      · omega
      · omega
  obtain ⟨fa, fc, hfv⟩ := hf.shp
  rw [← hN] at hfv
  have x0 := HD.out (Gs.refl _ W)
  rw [hfv] at x0
  have y0 : W.cell? ⟨bf, 0, none⟩ = some (.slice fa N fc) := by simp [World.cell?, x0.1]
  have y1 : W.cell? ⟨bk, 0, none⟩ = some (.int .i64 (K : Int)) := by simp [World.cell?, x0.2.1]
  have HM := hide (And.intro hM (And.intro hl1 (And.intro hl2 (And.intro hBs (And.intro hbf hbk)))))
  have HJ := hide (And.intro hJ hJx)
  have HY := hide hY
  have HN := hide hN
  have H0 := hide h0
  have HFV := hide hfv
  rw [← hN] at hfl
  clear x0 h1 h2 hf hr hm1 hm2 hM hJ hJx hY h0 hB hBs hl1 hl2 hbf hbk hN hfv
  refine callsIn_of_wp Tryz.func233 rfl trivial ?_ rfl
  simp only [Tryz.ntmps233, List.size_toArray, List.length_cons, List.length_nil, Nat.reduceAdd, Nat.reduceSub, Array.replicate_succ, Array.replicate_zero, List.push_toArray, List.append_toArray, List.nil_append, List.cons_append]
  by_cases hKN : K ≤ N
  case neg =>
    have b1 : (N : Int) < (K : Int) := by omega
    have HI : Hid (ith K f.length 0 = none) := by show ith K f.length 0 = none; rw [ith, if_neg (by rw [← HN.out]; exact hKN)]
    gi_wp2
    refine bodyPost_ret (results_none rfl _ _ _) rfl ?_
    exact ⟨⟨_, rfl⟩, .inl ⟨0, HI.out, H0.out⟩⟩
  case pos =>
  have b1 : ¬ (N : Int) < (K : Int) := by omega
  obtain ⟨W1, hmk1, hR1, hB1, hs1⟩ := run_makeN K hK2 W
  obtain ⟨p, hp⟩ : ∃ p, p = W.heap.size := ⟨_, rfl⟩
  rw [← hp] at hmk1 hR1
  have Hp := hide hp
  have H1 : Hid (NR W1 p K (fun x => if x < 0 then x else 0) ∧ Gs (fun i => W.heap.size ≤ i) W W1 ∧ W1.heap.size = W.heap.size + 1) := ⟨by simpa using hR1, Gs.of_below _ hB1, hs1⟩
  clear hR1 hB1 hs1 hp
  gi_wp2_with (refine in_make_run rfl 162 _ _ rfl _ _ _ rfl rfl hmk1 ?_)
  gi_loopw [18] (fun i wr => ∃ j : Nat, j ≤ K ∧ i = .int .i64 (j : Int) ∧ NR wr p K (fun x => if x < j then x else 0) ∧ Gs (fun i => W.heap.size ≤ i) W wr ∧ wr.heap.size = W.heap.size + 1) (fun i _ => K - (intOf i).toNat)
  case atStart => exact ⟨0, Nat.zero_le _, rfl, H1.out⟩
  case round =>
    obtain ⟨j, hj, rfl, hR, hG, hsz⟩ := hrel
    by_cases hlt : j < K
    · have c1 : (j : Int) < (K : Int) := by omega
      have c0 : (0 : Int) ≤ (j : Int) := by omega
      have z0 := hR.cell (i := j) hlt
      have z1 := hR.free j
      have hR2 := (hR.set j j).congr (Y := fun x => if x < j + 1 then x else 0) (fun i hi => by
        by_cases e : i = j
        · subst e; rw [if_pos rfl, if_pos (by omega)]
        · rw [if_neg e]
          by_cases e2 : i < j
          · rw [if_pos e2, if_pos (by omega)]
          · rw [if_neg e2, if_neg (by omega)])
      have hG2 : Gs (fun i => W.heap.size ≤ i) W (wr.setCell ⟨p, j, none⟩ (.int .i64 (j : Nat))) := hG.set (a := ⟨p, j, none⟩) (.inl (by have := Hp.out; show W.heap.size ≤ p; omega)) _
      have hz2 : (wr.setCell ⟨p, j, none⟩ (.int .i64 (j : Nat))).heap.size = W.heap.size + 1 := by rw [← hsz]; simp [World.setCell]
      have H2 := hide (And.intro hR2 (And.intro hG2 hz2))
      clear hR hG hR2 hG2 hz2 hsz
      gi_wp2
      exact ⟨⟨j + 1, by omega, by go_num, H2.out⟩, by simp [intOf]; omega⟩
    · obtain rfl : j = K := by omega
      obtain ⟨q1, q2, _⟩ := HD.out (hG.mono fun i _ h => .inr h)
      rw [HFV.out] at q1
      have y2 : wr.cell? ⟨bk, 0, none⟩ = some (.int .i64 (j : Int)) := by simp [World.cell?, q2]
      obtain ⟨W3, hmk3, hS3, hB3, hs3⟩ := run_makeS j hK2 wr
      obtain ⟨g, hg⟩ : ∃ g, g = wr.heap.size := ⟨_, rfl⟩
      rw [← hg] at hmk3 hS3
      have Hg := hide (And.intro hg hsz)
      have HI0 : Hid (ith j N 0 = some (List.range j)) := by show ith j N 0 = _; rw [ith, if_pos hKN]
      have hci0 := ci_ith HI0.out
      have H3 : Hid (∃ (b : Bool) (t : Nat), (Value.bool true) = .bool b ∧ CW M j J W l p g W3 t ∧ (∃ c0, CI j N c0 ∧ NR W3 p j (cat c0) ∧ (b = true → ith j N t = some c0)) ∧ (b = false → ith j N t = none)) := by
        have hG3 := hG.bel hB3
        refine ⟨true, 0, rfl, ⟨HJ.out.1 0 W W3 H0.out hG3, hG3.mono fun i _ h => .inr h, by omega, List.replicate j sx0, by simp, hS3⟩, ⟨List.range j, hci0, ?_, fun _ => HI0.out⟩, fun h => by cases h⟩
        refine ((hR.gs (Gs.of_below (fun _ => False) hB3) (fun h => h)).congr fun i hi => ?_)
        rw [if_pos hi, cat, List.getElem?_range hi]
        rfl
      clear hR hG hsz q1 q2 hS3 hB3 hs3 hg hci0 H1 H0 hlt hj
      gi_wp2_with (refine in_make_run rfl 188 _ _ rfl _ _ _ rfl rfl hmk3 ?_)
      gi_loopw [7] (fun th ws => ∃ (b : Bool) (t : Nat), th = .bool b ∧ CW M j J W l p g ws t ∧ (∃ c0, CI j N c0 ∧ NR ws p j (cat c0) ∧ (b = true → ith j N t = some c0)) ∧ (b = false → ith j N t = none)) (fun th ws => (match th with | .bool true => 1 | _ => 0) + 2 * ((N + 1) ^ j - rk N p ws))
      case atStart => exact H3.out
      case round =>
        clear H3 hmk3 y2
        obtain ⟨b, t, rfl, hW, ⟨c, hci, hNR, hbt⟩, hbf⟩ := hrel
        cases b with
        | false =>
          have HE : Hid (ith j f.length t = none ∧ J t wr) := ⟨by rw [← HN.out]; exact hbf rfl, hW.j⟩
          clear hW hNR hbt hbf
          gi_wp2
          go_end0
          exact ⟨⟨_, rfl⟩, .inl ⟨t, HE.out⟩⟩
        | true =>
          have hit := hbt rfl
          obtain ⟨l', hl', hSQ⟩ := hW.sq
          have HW := hide hW
          have HC := hide (And.intro hci (And.intro hNR hit))
          have H4 : Hid (SQL wr g ((pick f c).take 0 ++ l'.drop 0) ∧ Gs (fun i => i = g) wr wr) := ⟨by simpa using hSQ, Gs.refl _ _⟩
          have HL' := hide hl'
          clear hW hNR hbt hbf hSQ hl' hci hit
          obtain ⟨V0, hV0⟩ : ∃ V0, V0 = wr := ⟨_, rfl⟩
          rw [← hV0] at HW HC
          have H5 : Hid (SQL wr g ((pick f c).take 0 ++ l'.drop 0) ∧ Gs (fun i => i = g) V0 wr) := by rw [hV0]; exact H4.out
          have HV0 := hide hV0
          clear hV0 H4
          gi_wp2
          gi_loopw [35] (fun i ws => ∃ m : Nat, m ≤ j ∧ i = .int .i64 (m : Int) ∧ SQL ws g ((pick f c).take m ++ l'.drop m) ∧ Gs (fun i => i = g) V0 ws) (fun i _ => j - (intOf i).toNat)
          case atStart => exact ⟨0, Nat.zero_le _, rfl, H5.out⟩
          case round =>
            obtain ⟨m, hm, rfl, hS, hG⟩ := hrel
            have hgp : g = p + 1 ∧ W.heap.size = p := by have h1 := Hg.out; have h2 := Hp.out; exact ⟨by omega, by omega⟩
            have hGW : Gs (fun i => (M i ∨ i = l) ∨ W.heap.size ≤ i) W wr := HW.out.gs.trans (hG.mono fun i _ e => .inr (by omega))
            obtain ⟨hci, hNR, hit⟩ := HC.out
            have hNRw := hNR.gs hG (by omega)
            obtain ⟨q1, q2, hLS⟩ := HD.out hGW
            have HLS := hide hLS
            rw [HFV.out] at q1
            have y5 : wr.cell? ⟨bf, 0, none⟩ = some (.slice fa N fc) := by simp [World.cell?, q1]
            by_cases hlt : m < j
            · have c1 : (m : Int) < (j : Int) := by omega
              have c0 : (0 : Int) ≤ (m : Int) := by omega
              have z0 := hNRw.cell (i := m) hlt
              have hcm := ci_lt hci hlt
              obtain ⟨x, hx⟩ : ∃ x, f[cat c m]? = some x := ⟨_, List.getElem?_eq_getElem (by rw [← HN.out]; exact hcm)⟩
              obtain ⟨a, cc, e, _, h2 | ⟨gf, o, ea, _, _, hGS⟩⟩ := hLS
              · rw [h2] at hx; simp at hx
              rw [HFV.out, ← HN.out] at e
              simp only [Value.slice.injEq, true_and] at e
              obtain ⟨e1, _⟩ := e
              rw [ea] at e1
              subst fa
              have hcells := hGS (cat c m) x hx
              have u0 : wr.cell? ⟨gf, o + cat c m * 6, none⟩ = some (.int .i64 x.k) := hcells 0 _ rfl
              have u1 : wr.cell? ⟨gf, o + cat c m * 6 + 1, none⟩ = some (.int .i64 x.m) := hcells 1 _ rfl
              have u2 : wr.cell? ⟨gf, o + cat c m * 6 + 2, none⟩ = some (.int .i64 x.i) := hcells 2 _ rfl
              have u3 : wr.cell? ⟨gf, o + cat c m * 6 + 3, none⟩ = some (.int .i64 x.long) := hcells 3 _ rfl
              have u4 : wr.cell? ⟨gf, o + cat c m * 6 + 4, none⟩ = some (.string x.id) := hcells 4 _ rfl
              have u5 : wr.cell? ⟨gf, o + cat c m * 6 + 5, none⟩ = some (.string x.data) := hcells 5 _ rfl
              have hpm : (pick f c)[m]? = some x := by rw [pick, List.getElem?_map, cat_get (by rw [hci.1]; exact hlt)]; show some (lx f (cat c m)) = _; rw [lx_at hx]
              have hl1 : (pick f c).length = j := by rw [pick_len, hci.1]
              have hl2 := HL'.out
              have hold : ((pick f c).take m ++ l'.drop m)[m]? = some (lx l' m) := by
                rw [List.getElem?_append_right (by rw [List.length_take]; omega), List.length_take, show m - min m (pick f c).length = 0 by omega, List.getElem?_drop, Nat.add_zero, lx, List.getElem?_eq_getElem (by omega)]
                rfl
              have hrun := store_run (t := 232) (o := m * 6) hS #[.int .i64 x.k, .int .i64 x.m, .int .i64 x.i, .int .i64 x.long, .string x.id, .string x.data] (by simp [flat_len six_len]; omega) Tryz.sizeSh (by simp [Value.oneCell'])
              have hS2 := hS.six hold x
              have hG2 : Gs (fun i => i = g) V0 (wr.setCells g (m * 6) [.int .i64 x.k, .int .i64 x.m, .int .i64 x.i, .int .i64 x.long, .string x.id, .string x.data]) := Gs.cells _ _ _ hG (.inl rfl)
              have hset : ((pick f c).take m ++ l'.drop m).set m x = (pick f c).take (m + 1) ++ l'.drop (m + 1) := by
                rw [List.set_append_right _ _ (by rw [List.length_take]; omega), List.length_take, show m - min m (pick f c).length = 0 by omega, List.drop_eq_getElem_cons (by omega), List.set_cons_zero, take_snoc_at hpm, List.append_assoc]
                rfl
              rw [hset] at hS2
              have H6 := hide (And.intro hS2 hG2)
              have d0 : (0 : Int) ≤ ((cat c m : Nat) : Int) := by omega
              have d1 : ((cat c m : Nat) : Int) < (N : Int) := by omega
              clear hS hG hGW hci hNR hit hNRw q1 q2 HLS hGS hcells hpm hl1 hl2 hold hS2 hG2 hset hx hgp hcm
              gi_wp2_with (refine in_store_run rfl 232 _ _ rfl _ _ rfl rfl hrun ?_)
              exact ⟨⟨_, _, .int .i64 ((m + 1 : Nat) : Int), ⟨m + 1, by omega, rfl, H6.out⟩, rfl, rfl, rfl⟩, by simp [intOf]; omega⟩
            · obtain rfl : m = j := by omega
              have hl1 : (pick f c).length = m := by rw [pick_len, hci.1]
              have hl2 := HL'.out
              rw [List.take_of_length_le (by omega), List.drop_eq_nil_of_le (by omega), List.append_nil] at hS
              have hJw : J t wr := HJ.out.1 t V0 wr HW.out.j (hG.mono fun i _ e => by omega)
              have hCh : Ch m f W.heap.size t wr (.slice (some ⟨g, 0, none⟩) m m) := ⟨c, g, by rw [← HN.out]; exact hit, by omega, rfl, hS⟩
              obtain ⟨fn, tmps, assign, body, hy, hRd⟩ := HY.out t _ wr hJw hCh (by have := hGW.size; omega)
              have HK : Hid (NR wr p m (cat c) ∧ CI m N c ∧ ith m N t = some c ∧ SQL wr g (pick f c) ∧ Gs (fun i => (M i ∨ i = l) ∨ W.heap.size ≤ i) W wr ∧ g = p + 1 ∧ W.heap.size = p ∧ (pick f c).length = m) := ⟨hNRw, hci, hit, hS, hGW, hgp.1, hgp.2, hl1⟩
              clear hS hG hGW hci hNR hit hNRw q1 q2 hLS HLS hgp hl1 hl2 hJw hCh
              gi_wp2
              refine ⟨rfl, hRd.mono ?_⟩
              rintro e W9 (⟨rfl, hJ9, hG9⟩ | ⟨rfl, hJx9⟩)
              · obtain ⟨hNR, hci, hit, hS, hGW, hg1, hg2, hl1⟩ := HK.out
                have hM9 := HM.out
                have hlt9 := hNR.lt
                have hlt8 := hS.lt
                have hNR9 := hNR.gs hG9 (by rintro (h | h); have := hM9.1 _ h; omega; omega)
                have hS9 := hS.gs hG9 (by rintro (h | h); have := hM9.1 _ h; omega; omega)
                have hGW9 : Gs (fun i => (M i ∨ i = l) ∨ W.heap.size ≤ i) W W9 := hGW.trans (hG9.mono fun i _ e => .inl e)
                have q9 := (HD.out hGW9).1
                rw [HFV.out] at q9
                have y9 : W9.cell? ⟨bf, 0, none⟩ = some (.slice fa N fc) := by simp [World.cell?, q9]
                have HFU := hide (further_any hci hNR9 hKN hfl)
                have HL : Hid (J (t + 1) W9 ∧ SQL W9 g (pick f c) ∧ Gs (fun i => (M i ∨ i = l) ∨ W.heap.size ≤ i) W W9 ∧ NR W9 p m (cat c)) := ⟨hJ9, hS9, hGW9, hNR9⟩
                clear hNR hci hit hS hGW hg1 hg2 hl1 hM9 hlt9 hlt8 hNR9 hS9 hGW9 q9 hJ9 hG9 hRd hy
                gi_wp2
                refine ⟨trivial, rfl, (callsIn_wide.2 HFU.out).mono ?_⟩
                rintro e W5 ⟨rfl, hN5, hG5⟩
                obtain ⟨hNR, hci, hit, hS, hGW, hg1, hg2, hl1⟩ := HK.out
                obtain ⟨hJ9, hS9, hGW9, hNR9⟩ := HL.out
                have hJ5 : J (t + 1) W5 := HJ.out.1 _ _ _ hJ9 (hG5.mono fun i _ e => by omega)
                have hS5 := hS9.gs hG5 (by omega)
                have hGW5 : Gs (fun i => (M i ∨ i = l) ∨ W.heap.size ≤ i) W W5 := hGW9.trans (hG5.mono fun i _ e => .inr (by omega))
                have hi1 : ith m N (t + 1) = nxt c N := by rw [ith, hit]; rfl
                have hCW : CW M m J W l p g W5 (t + 1) := ⟨hJ5, hGW5, hS5.lt, _, hl1, hS5⟩
                have hrk : rk N p V0 = vl (N + 1) c 0 := rk_nr HC.out.2.1 hci.1
                cases hnx : nxt c N with
                | none =>
                  rw [hnx] at hN5 hi1
                  have HE : Hid (CW M m J W l p g W5 (t + 1) ∧ (∃ c0, CI m N c0 ∧ NR W5 p m (cat c0) ∧ (false = true → ith m N (t + 1) = some c0)) ∧ (false = false → ith m N (t + 1) = none)) := ⟨hCW, ⟨c, hci, hN5, fun h => by cases h⟩, fun _ => hi1⟩
                  have HM2 : Hid (2 * ((N + 1) ^ m - rk N p W5) < 1 + 2 * ((N + 1) ^ m - rk N p V0)) := by
                    have e1 : rk N p W5 = vl (N + 1) c 0 := rk_nr hN5 hci.1
                    show 2 * ((N + 1) ^ m - rk N p W5) < 1 + 2 * ((N + 1) ^ m - rk N p V0)
                    omega
                  clear hNR hci hit hS hGW hg1 hg2 hl1 hJ9 hS9 hGW9 hNR9 hJ5 hS5 hGW5 hi1 hCW hrk hN5 hG5 hnx
                  gi_wp2
                  refine ⟨⟨false, t + 1, rfl, by simpa using HE.out⟩, ?_⟩
                  have h := HM2.out
                  rw [HV0.out] at h
                  show 0 + _ < _
                  rw [Nat.zero_add]
                  exact h
                | some c' =>
                  rw [hnx] at hN5 hi1
                  have hci' : CI m N c' := ci_ith hi1
                  have HE : Hid (CW M m J W l p g W5 (t + 1) ∧ (∃ c0, CI m N c0 ∧ NR W5 p m (cat c0) ∧ (true = true → ith m N (t + 1) = some c0)) ∧ (true = false → ith m N (t + 1) = none)) := ⟨hCW, ⟨c', hci', hN5, fun _ => hi1⟩, fun h => by cases h⟩
                  have HM2 : Hid (1 + 2 * ((N + 1) ^ m - rk N p W5) < 1 + 2 * ((N + 1) ^ m - rk N p V0)) := by
                    have e1 : rk N p W5 = vl (N + 1) c' 0 := rk_nr hN5 hci'.1
                    have e2 := rk_le hN5 hci'
                    have e3 := vl_nxt hci hnx
                    show 1 + 2 * ((N + 1) ^ m - rk N p W5) < 1 + 2 * ((N + 1) ^ m - rk N p V0)
                    omega
                  clear hNR hci hit hS hGW hg1 hg2 hl1 hJ9 hS9 hGW9 hNR9 hJ5 hS5 hGW5 hi1 hCW hrk hN5 hG5 hnx hci'
                  gi_wp2
                  refine ⟨⟨true, t + 1, rfl, by simpa using HE.out⟩, ?_⟩
                  have h := HM2.out
                  rw [HV0.out] at h
                  exact h
              · have HE : Hid (Jx t W9 ∧ ith m f.length t = some c) := ⟨hJx9, by rw [← HN.out]; exact HK.out.2.2.1⟩
                clear hJx9
                gi_wp2
                refine bodyPost_ret (results_none rfl _ _ _) rfl ?_
                exact ⟨⟨_, rfl⟩, .inr ⟨t, ⟨c, HE.out.2⟩, HE.out.1⟩⟩
end
end Go.Proofs.YtagijldedngcoaaGreatDoor

namespace Go.Proofs.YtagijldedngcoaaGreatDoor
open Go.RowKit Go.Lib Go.Shelf
attribute [local go_sem] Oper.semAt_some
theorem lt_of_block' {w : World} {b : Nat} {o : Obj} (h : w.heap[b]? = some o) : b < w.heap.size := (Array.getElem?_eq_some_iff.1 h).1
section
variable {w : World} {r : Nat → Prop} {K : Nat} {fv : Value} {f : List Zq.SX}
theorem cell1 {w : World} {b : Nat} {v : Value} {T : TypeId} (h : w.heap[b]? = some (.cells #[v] T (0, 0))) : w.cell? ⟨b, 0, none⟩ = some v ∧ w.frozen? ⟨b, 0, none⟩ = false := by simp [World.cell?, World.frozen?, h]
theorem two_boxes {w : World} {b : Nat} {v0 v1 : Value} {T0 T1 : TypeId} (h0 : w.heap[b]? = some (.cells #[v0] T0 (0, 0))) (h1 : w.heap[b + 1]? = some (.cells #[v1] T1 (0, 0))) (x y : Value) :
    (w.cell? ⟨b, 0, none⟩ = some v0 ∧ w.frozen? ⟨b, 0, none⟩ = false) ∧ ((w.setCell ⟨b, 0, none⟩ x).cell? ⟨b + 1, 0, none⟩ = some v1 ∧ (w.setCell ⟨b, 0, none⟩ x).frozen? ⟨b + 1, 0, none⟩ = false) ∧
    ((w.setCell ⟨b, 0, none⟩ x).setCell ⟨b + 1, 0, none⟩ y).heap[b]? = some (.cells #[x] T0 (0, 0)) ∧ ((w.setCell ⟨b, 0, none⟩ x).setCell ⟨b + 1, 0, none⟩ y).heap[b + 1]? = some (.cells #[y] T1 (0, 0)) ∧ Gs (fun i => i = b ∨ i = b + 1) w ((w.setCell ⟨b, 0, none⟩ x).setCell ⟨b + 1, 0, none⟩ y) := by
  have hG1 : Gs (fun i => i = b) w (w.setCell ⟨b, 0, none⟩ x) := (Gs.refl _ _).set1 _ _
  have k0 : (w.setCell ⟨b, 0, none⟩ x).heap[b]? = some (.cells #[x] T0 (0, 0)) := heap_set_self h0
  have k1 : (w.setCell ⟨b, 0, none⟩ x).heap[b + 1]? = some (.cells #[v1] T1 (0, 0)) := (hG1.block _ (lt_of_block h1) (by omega)).trans h1
  have hG2 : Gs (fun i => i = b + 1) (w.setCell ⟨b, 0, none⟩ x) ((w.setCell ⟨b, 0, none⟩ x).setCell ⟨b + 1, 0, none⟩ y) := (Gs.refl _ _).set1 _ _
  exact ⟨cell1 h0, cell1 k1, (hG2.block _ (lt_of_block k0) (by omega)).trans k0, heap_set_self k1, (hG1.mono fun i _ e => .inl e).trans (hG2.mono fun i _ e => .inr e)⟩
theorem gather_f (hL : Zq.Sh.Laid w) (hf : LS Zq.six 6 r w fv f) (hfl : f.length ≤ 1000) (hK : 1 ≤ K) (hK2 : K ≤ 1000) (hok : ∀ x ∈ f, x.m ≤ 9223372036854775807 ∧ x.data.size ≤ 9223372036854775807) :
    Calls Tryz.prog 155 #[fv, .int .i64 (K : Int)] w fun e w' => ∃ d b, e = .returned (.tuple #[.string d, .bool b]) ∧ ((b = true ∧ gth K f = some d) ∨ (b = false ∧ d = ⟨#[]⟩ ∧ gth K f = none)) ∧ Below w.heap.size w w' := by
  obtain ⟨fa, fc, hfv⟩ := hf.shp
  obtain ⟨n0, hn0⟩ : ∃ n0, n0 = w.heap.size := ⟨_, rfl⟩
  obtain ⟨W2, hW2⟩ : ∃ W2, W2 = ((w.alloc (.cells #[.string ⟨#[]⟩] 9)).alloc (.cells #[.bool false] 4)).alloc (.cells #[.int .i64 0] 3) := ⟨_, rfl⟩
  have hB2 : Below w.heap.size w W2 := by rw [hW2]; exact (((Below.refl _ _).alloc (Nat.le_refl _) _).alloc (by simp) _).alloc (by simp; omega) _
  have hs2 : W2.heap.size = n0 + 3 := by rw [hW2, hn0]; simp
  have k4 : W2.heap[n0]? = some (.cells #[.string ⟨#[]⟩] 9 (0, 0)) := by
    rw [hW2, hn0, Below.heap_alloc _ _ _ (by simp; omega), Below.heap_alloc _ _ _ (by simp)]; exact heap_alloc_new w _
  have k5 : W2.heap[n0 + 1]? = some (.cells #[.bool false] 4 (0, 0)) := by
    rw [hW2, hn0, Below.heap_alloc _ _ _ (by simp)]
    have := heap_alloc_new (w.alloc (.cells #[.string ⟨#[]⟩] 9)) (.cells #[.bool false] 4 (0, 0))
    simpa using this
  have k6 : W2.heap[n0 + 2]? = some (.cells #[.int .i64 0] 3 (0, 0)) := by
    rw [hW2, hn0]
    have := heap_alloc_new ((w.alloc (.cells #[.string ⟨#[]⟩] 9)).alloc (.cells #[.bool false] 4)) (.cells #[.int .i64 0] 3 (0, 0))
    simpa using this
  rw [hfv]
  refine (callsIn_wide (n := 0)).1 ?_
  refine callsIn_of_wp_marks Tryz.func155 rfl trivial ?_ rfl
  simp only [Tryz.ntmps155, List.size_toArray, List.length_cons, List.length_nil, Nat.reduceAdd, Nat.reduceSub, Array.replicate_succ, Array.replicate_zero, List.push_toArray, List.append_toArray, List.nil_append, List.cons_append]
  gi_wp2
  rw [← hW2, ← hn0]
  refine ⟨trivial, rfl, (callsIn_wide.2 (choices_any (K := K))).mono ?_⟩
  rintro e W4 ⟨rfl, hW4⟩
  rw [hs2]
  have hB4 : Below W2.heap.size W2 W4 := by rw [hW4]; exact ((Below.refl _ _).alloc (Nat.le_refl _) _).alloc (by simp) _
  have hs4 : W4.heap.size = n0 + 5 := by rw [hW4]; simp; omega
  have kf : W4.heap[n0 + 3]? = some (.cells #[.slice fa f.length fc] 189 (0, 0)) := by
    rw [hW4, ← hs2, Below.heap_alloc _ _ _ (by simp)]; exact heap_alloc_new W2 _
  have kk : W4.heap[n0 + 4]? = some (.cells #[.int .i64 (K : Int)] 3 (0, 0)) := by
    rw [hW4]
    have := heap_alloc_new (W2.alloc (.cells #[.slice fa f.length fc] 189)) (.cells #[.int .i64 (K : Int)] 3 (0, 0))
    rw [World.size_alloc, hs2] at this
    exact this
  have hBw : Below w.heap.size w W4 := hB2.trans (hB4.mono hB2.size)
  have hI0 : W4.heap[n0]? = some (.cells #[.string ⟨#[]⟩] 9 (0, 0)) ∧ W4.heap[n0 + 1]? = some (.cells #[.bool false] 4 (0, 0)) ∧ W4.heap[n0 + 2]? = some (.cells #[.int .i64 ((0 : Nat) : Int)] 3 (0, 0)) := ⟨(hB4.block _ (by omega)).trans k4, (hB4.block _ (by omega)).trans k5, (hB4.block _ (by omega)).trans k6⟩
  have hf4 : LS Zq.six 6 (fun i => r i ∧ i < w.heap.size) W4 fv f := hf.old.bel hBw
  rw [hfv] at hf4
  have hseq := choices1_seq (M := fun i => i = n0 ∨ i = n0 + 1 ∨ i = n0 + 2) kf kk hf4 (fun i hi => by omega) (by omega) (by omega) (fun i hi => by omega) hfl hK hK2
  have HQ := hide hseq
  have HI0 := hide hI0
  have HB := hide hBw
  have HS4 := hide hs4
  have HN0 := hide hn0
  have HL := hide hL
  have HOK := hide hok
  have HFL := hide (And.intro hfl (And.intro hK hK2))
  clear hseq hI0 hBw hs4 hL hok hf hfv hB2 hs2 k4 k5 k6 hB4 kf kk hf4 hW4 hn0 hW2 hfl hK hK2
  gi_wp2
  refine range_m (gf := 233) (lb := #[.pointer (some ⟨n0 + 3, 0, none⟩), .pointer (some ⟨n0 + 4, 0, none⟩)]) rfl (enters_of Tryz.func233 (by kernel_rfl) rfl) HQ.out (fun i hi => by have := HS4.out; omega) rfl (fun B t A A' v h hg => h.gs hg)
    (fun t W => (W.heap[n0]? = some (.cells #[.string ⟨#[]⟩] 9 (0, 0)) ∧ W.heap[n0 + 1]? = some (.cells #[.bool false] 4 (0, 0)) ∧ W.heap[n0 + 2]? = some (.cells #[.int .i64 (t : Int)] 3 (0, 0))) ∧ t ≤ 1000 ∧ Fl K f t ∧ Below w.heap.size w W)
    (fun c t W => ((c = .ret ∧ ∃ d, W.heap[n0]? = some (.cells #[.string d] 9 (0, 0)) ∧ W.heap[n0 + 1]? = some (.cells #[.bool true] 4 (0, 0)) ∧ gth K f = some d) ∨ (c = .exit 0 ∧ W.heap[n0]? = some (.cells #[.string ⟨#[]⟩] 9 (0, 0)) ∧ W.heap[n0 + 1]? = some (.cells #[.bool false] 4 (0, 0)) ∧ gth K f = none)) ∧ Below w.heap.size w W)
    ?stb ?stbx ⟨HI0.out, by omega, fun s hs => by omega, HB.out⟩
    (fun v => { tmps := #[.slice fa f.length fc, .int .i64 (K : Int), undef, undef, .pointer (some ⟨n0, 0, none⟩), .pointer (some ⟨n0 + 1, 0, none⟩), .pointer (some ⟨n0 + 1 + 1, 0, none⟩), v, undef, undef, .slice fa f.length fc, .int .i64 (K : Int), .func (.func 233) #[] #[.pointer (some ⟨n0 + 3, 0, none⟩), .pointer (some ⟨n0 + 4, 0, none⟩)], v, undef, undef, undef, undef, undef, undef, undef, undef, undef, undef, undef, undef], defers := [] }) ?assign ?body ?done ?stop
  case stb =>
    rintro t A A' ⟨⟨h1, h2, h3⟩, h4, h5, h6⟩ hG
    have hs := HS4.out
    have hn := HN0.out
    exact ⟨⟨(hG.block _ (lt_of_block h1) (by omega)).trans h1, (hG.block _ (lt_of_block h2) (by omega)).trans h2, (hG.block _ (lt_of_block h3) (by omega)).trans h3⟩, h4, h5, hG.below h6 h6.size (fun i hi => by omega)⟩
  case stbx =>
    rintro c t A A' ⟨h, h6⟩ hG
    have hs := HS4.out
    have hn := HN0.out
    refine ⟨?_, hG.below h6 h6.size (fun i hi => by omega)⟩
    rcases h with ⟨rfl, d, h1, h2, h3⟩ | ⟨rfl, h1, h2, h3⟩
    · exact .inl ⟨rfl, d, (hG.block _ (lt_of_block h1) (by omega)).trans h1, (hG.block _ (lt_of_block h2) (by omega)).trans h2, h3⟩
    · exact .inr ⟨rfl, (hG.block _ (lt_of_block h1) (by omega)).trans h1, (hG.block _ (lt_of_block h2) (by omega)).trans h2, h3⟩
  case assign =>
    intro l v W K hK
    gi_wp2
    exact hK
  case body =>
    rintro l B t v W hl1 hl2 hBW ⟨⟨h1, h2, h3⟩, h4, h5, h6⟩ hCh
    obtain ⟨z0, z1⟩ := cell1 h3
    by_cases ht : t = 1000
    · have HE : Hid (gth K f = none ∧ W.heap[n0]? = some (.cells #[.string ⟨#[]⟩] 9 (0, 0)) ∧ W.heap[n0 + 1]? = some (.cells #[.bool false] 4 (0, 0)) ∧ Below w.heap.size w W) := ⟨gth_none h5 h4 (.inr ht), h1, h2, h6⟩
      subst ht
      clear h1 h2 h3 h4 h5 h6 hCh
      gi_wp2
      exact ⟨Gs.refl _ _, .inr ⟨rfl, HE.out.2.1, HE.out.2.2.1, HE.out.1⟩, HE.out.2.2.2⟩
    · have hn := HN0.out
      have hs := HS4.out
      obtain ⟨V, hV⟩ : ∃ V, V = W.setCell ⟨n0 + 2, 0, none⟩ (.int .i64 ((t : Int) + 1)) := ⟨_, rfl⟩
      have hGV : Gs (fun i => i = n0 + 2) W V := by rw [hV]; exact (Gs.refl _ _).set1 _ _
      have k3 : V.heap[n0 + 2]? = some (.cells #[.int .i64 ((t : Int) + 1)] 3 (0, 0)) := by rw [hV]; exact heap_set_self h3
      have k1 := (hGV.block n0 (lt_of_block h1) (by omega)).trans h1
      have k2 := (hGV.block (n0 + 1) (lt_of_block h2) (by omega)).trans h2
      have hBV : Below w.heap.size w V := hGV.below h6 h6.size (fun i hi => by omega)
      obtain ⟨c, g, hit, hBg, rfl, hSQ⟩ := hCh
      have hci := ci_ith hit
      have hpl : (pick f c).length = K := by rw [pick_len, hci.1]
      have hSV := hSQ.gs hGV (by omega)
      have hLX := hSV.lx
      rw [hpl] at hLX
      obtain ⟨hfl, hK1, hK2⟩ := HFL.out
      have hmem : ∀ i, i < K → lx (pick f c) i ∈ f := fun i hi => by
        rw [pick_at (by rw [hci.1]; exact hi)]
        have h1 := ci_lt hci hi
        rw [lx_at (List.getElem?_eq_getElem h1)]
        exact List.getElem_mem h1
      have HGA := hide (Zq.gather_any (HL.out.below hBV HL.out.size) (by omega) hLX (fun h0 => (HOK.out _ (hmem 0 h0)).1) (fun i hi => (HOK.out _ (hmem i hi)).2))
      have hne : ¬ (t : Int) = 1000 := by omega
      have htb : (t : Int) ≤ 1000 := by omega
      have HV := hide hV
      have HK : Hid (ith K f.length t = some c ∧ (pick f c).length = K ∧ V.heap[n0]? = some (.cells #[.string ⟨#[]⟩] 9 (0, 0)) ∧ V.heap[n0 + 1]? = some (.cells #[.bool false] 4 (0, 0)) ∧ V.heap[n0 + 2]? = some (.cells #[.int .i64 ((t : Int) + 1)] 3 (0, 0)) ∧ Below w.heap.size w V ∧ Gs (fun i => i = n0 + 2) W V ∧ Fl K f t ∧ t < 1000 ∧ n0 = w.heap.size ∧ W4.heap.size = n0 + 5) := ⟨hit, hpl, k1, k2, k3, hBV, hGV, h5, by omega, hn, hs⟩
      clear h1 h2 h3 h4 h5 h6 hGV k3 k1 k2 hBV hit hBg hSQ hci hpl hSV hLX hfl hK1 hK2 hmem hn hs hV ht
      gi_wp2
      rw [← HV.out]
      refine ⟨trivial, rfl, (CallsIn.inRound l (callsIn_wide.2 HGA.out)).mono ?_⟩
      rintro e V5 ⟨S, cc, rfl, hGA, hB5⟩
      obtain ⟨hit, hpl, k1, k2, k3, hBV, hGV, hFl, ht, hn, hs⟩ := HK.out
      rw [← hpl] at hGA
      have j1 := (hB5.block n0 (lt_of_block k1)).trans k1
      have j2 := (hB5.block (n0 + 1) (lt_of_block k2)).trans k2
      have j3 := (hB5.block (n0 + 2) (lt_of_block k3)).trans k3
      have hG5 : Gs (fun i => i = n0 ∨ i = n0 + 1 ∨ i = n0 + 2) W V5 := (hGV.mono fun i _ e => .inr (.inr e)).bel hB5
      have hBw5 : Below w.heap.size w V5 := hBV.trans (hB5.mono hBV.size)
      rcases ga_one hGA with ⟨rfl, hga⟩ | ⟨hc0, hga⟩
      · obtain ⟨⟨z0, z1⟩, ⟨z2, z3⟩, k4, k5, hG⟩ := two_boxes j1 j2 (.string S) (.bool true)
        obtain ⟨z4, z5⟩ := cell1 j2
        have HE : Hid (gth K f = some S ∧ ((V5.setCell ⟨n0, 0, none⟩ (.string S)).setCell ⟨n0 + 1, 0, none⟩ (.bool true)).heap[n0]? = some (.cells #[.string S] 9 (0, 0)) ∧ ((V5.setCell ⟨n0, 0, none⟩ (.string S)).setCell ⟨n0 + 1, 0, none⟩ (.bool true)).heap[n0 + 1]? = some (.cells #[.bool true] 4 (0, 0)) ∧ Below w.heap.size w ((V5.setCell ⟨n0, 0, none⟩ (.string S)).setCell ⟨n0 + 1, 0, none⟩ (.bool true)) ∧ Gs (fun i => i = n0 ∨ i = n0 + 1 ∨ i = n0 + 2) W ((V5.setCell ⟨n0, 0, none⟩ (.string S)).setCell ⟨n0 + 1, 0, none⟩ (.bool true))) :=
          ⟨gth_ret hFl ht hit hga, k4, k5, hG.below hBw5 hBw5.size (fun i hi => by omega), hG5.trans (hG.mono fun i _ e => by omega)⟩
        clear hit hpl k1 k2 k3 hBV hGV hFl ht hn hs j1 j2 j3 hG5 hBw5 hga hG hGA hB5 k4 k5 HK HV HGA
        gi_wp2
        exact ⟨HE.out.2.2.2.2, .inl ⟨rfl, S, HE.out.2.1, HE.out.2.2.1, HE.out.1⟩, HE.out.2.2.2.1⟩
      · have HE : Hid (Fl K f (t + 1) ∧ V5.heap[n0]? = some (.cells #[.string ⟨#[]⟩] 9 (0, 0)) ∧ V5.heap[n0 + 1]? = some (.cells #[.bool false] 4 (0, 0)) ∧ V5.heap[n0 + 2]? = some (.cells #[.int .i64 ((t : Int) + 1)] 3 (0, 0)) ∧ Below w.heap.size w V5 ∧ Gs (fun i => i = n0 ∨ i = n0 + 1 ∨ i = n0 + 2) W V5 ∧ t + 1 ≤ 1000) :=
          ⟨hFl.snoc hit hga, j1, j2, j3, hBw5, hG5, by omega⟩
        clear hit hpl k1 k2 k3 hBV hGV hFl ht hn hs j1 j2 j3 hG5 hBw5 hga hGA hB5 HK HV HGA
        gi_wp2
        exact ⟨HE.out.2.2.2.2.2.1, ⟨HE.out.2.1, HE.out.2.2.1, HE.out.2.2.2.1⟩, HE.out.2.2.2.2.2.2, HE.out.1, HE.out.2.2.2.2.1⟩
  case done =>
    rintro D t W hD hS ⟨⟨h1, h2, h3⟩, h4, h5, h6⟩ hK
    obtain ⟨⟨z0, z1⟩, ⟨z2, z3⟩, k4, k5, hG⟩ := two_boxes h1 h2 (.string ⟨#[]⟩) (.bool false)
    obtain ⟨z4, z5⟩ := cell1 h2
    have hn := HN0.out
    have hs := HS4.out
    have hK2 := (hG.block D (lt_of_block' hK) (by omega)).trans hK
    have HE : Hid (gth K f = none ∧ Below w.heap.size w ((W.setCell ⟨n0, 0, none⟩ (.string ⟨#[]⟩)).setCell ⟨n0 + 1, 0, none⟩ (.bool false))) := ⟨gth_none h5 h4 (.inl hS), hG.below h6 h6.size (fun i hi => by omega)⟩
    have hDn : D ≠ n0 ∧ D ≠ n0 + 1 := ⟨by omega, by omega⟩
    have HD := hide (And.intro hDn (And.intro hD (And.intro hn hs)))
    clear h1 h2 h3 h4 h5 h6 hG hD hn hs hS hDn
    gi_wp2
    refine ⟨by simp, .inl ⟨_, _, rfl, run_takeDeferred hK2, ?_⟩⟩
    obtain ⟨U, hU⟩ : ∃ U, U = ((W.setCell ⟨n0, 0, none⟩ (.string ⟨#[]⟩)).setCell ⟨n0 + 1, 0, none⟩ (.bool false)).putObj D (.deferred none) := ⟨_, rfl⟩
    rw [← hU]
    have hg9 : Gs (fun i => i = D) ((W.setCell ⟨n0, 0, none⟩ (.string ⟨#[]⟩)).setCell ⟨n0 + 1, 0, none⟩ (.bool false)) U := by rw [hU]; exact gs_putObj
    obtain ⟨v4, _⟩ := cell1 ((hg9.block n0 (lt_of_block k4) (fun e => HD.out.1.1 e.symm)).trans k4)
    obtain ⟨v5, _⟩ := cell1 ((hg9.block (n0 + 1) (lt_of_block k5) (fun e => HD.out.1.2 e.symm)).trans k5)
    have HBU : Hid (Below w.heap.size w U) := hg9.below HE.out.2 HE.out.2.size (fun i hi => by have := HD.out; omega)
    clear hU hg9
    refine ⟨.tuple #[.string ⟨#[]⟩, .bool false], by simp [results, Tryz.results155, go_sem, v4, v5], ?_⟩
    exact ⟨⟨#[]⟩, false, rfl, .inr ⟨rfl, rfl, HE.out.1⟩, HBU.out⟩
  case stop =>
    rintro D c t W hD hS ⟨⟨rfl, d, h1, h2, h3⟩ | ⟨rfl, h1, h2, h3⟩, h6⟩ hK
    · have hn := HN0.out
      have hs := HS4.out
      have HE : Hid (gth K f = some d ∧ Below w.heap.size w W) := ⟨h3, h6⟩
      have hDn : D ≠ n0 ∧ D ≠ n0 + 1 := ⟨by omega, by omega⟩
      have HD := hide (And.intro hDn (And.intro hD (And.intro hn hs)))
      clear h3 h6 hD hn hs hS hDn
      gi_wp2
      refine ⟨by simp, .inl ⟨_, _, rfl, run_takeDeferred hK, ?_⟩⟩
      obtain ⟨U, hU⟩ : ∃ U, U = W.putObj D (.deferred none) := ⟨_, rfl⟩
      rw [← hU]
      have hg9 : Gs (fun i => i = D) W U := by rw [hU]; exact gs_putObj
      obtain ⟨v4, _⟩ := cell1 ((hg9.block n0 (lt_of_block h1) (fun e => HD.out.1.1 e.symm)).trans h1)
      obtain ⟨v5, _⟩ := cell1 ((hg9.block (n0 + 1) (lt_of_block h2) (fun e => HD.out.1.2 e.symm)).trans h2)
      have HBU : Hid (Below w.heap.size w U) := hg9.below HE.out.2 HE.out.2.size (fun i hi => by have := HD.out; omega)
      clear hU hg9
      refine ⟨.tuple #[.string d, .bool true], by simp [results, Tryz.results155, go_sem, v4, v5], ?_⟩
      exact ⟨d, true, rfl, .inl ⟨rfl, HE.out.1⟩, HBU.out⟩
    · obtain ⟨⟨z0, z1⟩, ⟨z2, z3⟩, k4, k5, hG⟩ := two_boxes h1 h2 (.string ⟨#[]⟩) (.bool false)
      obtain ⟨z4, z5⟩ := cell1 h2
      have hn := HN0.out
      have hs := HS4.out
      have hK2 := (hG.block D (lt_of_block' hK) (by omega)).trans hK
      have HE : Hid (gth K f = none ∧ Below w.heap.size w ((W.setCell ⟨n0, 0, none⟩ (.string ⟨#[]⟩)).setCell ⟨n0 + 1, 0, none⟩ (.bool false))) := ⟨h3, hG.below h6 h6.size (fun i hi => by omega)⟩
      have hDn : D ≠ n0 ∧ D ≠ n0 + 1 := ⟨by omega, by omega⟩
      have HD := hide (And.intro hDn (And.intro hD (And.intro hn hs)))
      clear h1 h2 h3 h6 hG hD hn hs hS hDn
      gi_wp2
      refine ⟨by simp, .inl ⟨_, _, rfl, run_takeDeferred hK2, ?_⟩⟩
      obtain ⟨U, hU⟩ : ∃ U, U = ((W.setCell ⟨n0, 0, none⟩ (.string ⟨#[]⟩)).setCell ⟨n0 + 1, 0, none⟩ (.bool false)).putObj D (.deferred none) := ⟨_, rfl⟩
      rw [← hU]
      have hg9 : Gs (fun i => i = D) ((W.setCell ⟨n0, 0, none⟩ (.string ⟨#[]⟩)).setCell ⟨n0 + 1, 0, none⟩ (.bool false)) U := by rw [hU]; exact gs_putObj
      obtain ⟨v4, _⟩ := cell1 ((hg9.block n0 (lt_of_block k4) (fun e => HD.out.1.1 e.symm)).trans k4)
      obtain ⟨v5, _⟩ := cell1 ((hg9.block (n0 + 1) (lt_of_block k5) (fun e => HD.out.1.2 e.symm)).trans k5)
      have HBU : Hid (Below w.heap.size w U) := hg9.below HE.out.2 HE.out.2.size (fun i hi => by have := HD.out; omega)
      clear hU hg9
      refine ⟨.tuple #[.string ⟨#[]⟩, .bool false], by simp [results, Tryz.results155, go_sem, v4, v5], ?_⟩
      exact ⟨⟨#[]⟩, false, rfl, .inr ⟨rfl, rfl, HE.out.1⟩, HBU.out⟩
end
end Go.Proofs.YtagijldedngcoaaGreatDoor
