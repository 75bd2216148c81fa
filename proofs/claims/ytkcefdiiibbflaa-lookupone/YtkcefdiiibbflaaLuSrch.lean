/-
  Lookup: sort.Search; where items begin of which something is true.
-/
import Derived.Test.YtkcefdiiibbflaaLuRow
import Derived.Test.YtkcefdiiibbflaaLuRef
namespace Go.Proofs.Ytkcefdiiibbflaa
open Go.RowKit Go.Lib
/-- A function value that tells of an item whether p, in worlds of K. -/
structure PR (fv : Value) (p : IT → Bool) (K : World → Prop) : Prop where
  ex : ∃ g fb cb, fv = .func (.func g) fb cb ∧ (∀ args w, (callFunc g args).run Try.prog w = .ok (.enter g args) w) ∧ ∀ x w, K w → Calls Try.prog g (fb.push (.agg (it6 x).toArray) ++ cb) w fun e w' => e = .returned (.bool (p x)) ∧ Below w.heap.size w w'
  keep : ∀ w w', K w → Below w.heap.size w w' → K w'
/-- Binary search, by a function of places. -/
theorem search_any {g : Nat} {cb : Array Value} {n m : Nat} {q : Nat → Bool} {K : World → Prop} (eg : ∀ args w, (callFunc g args).run Try.prog w = .ok (.enter g args) w)
    (hc : ∀ (i : Nat) w, i < n → K w → Calls Try.prog g (#[.int .i64 (i : Int)] ++ cb) w fun e w' => e = .returned (.bool (q i)) ∧ Below w.heap.size w w') (hk : ∀ w w', K w → Below w.heap.size w w' → K w')
    (hm : m ≤ n) (hn : n ≤ 1099511627776) (hq : ∀ i, i < n → q i = decide (m ≤ i)) (w : World) (hw : K w) :
    Calls Try.prog 37 #[.int .i64 (n : Int), .func (.func g) #[] cb] w fun e w' => e = .returned (.int .i64 (m : Int)) ∧ Below w.heap.size w w' := by
  have HC := hide hc
  have HK := hide hk
  have HQ := hide hq
  have HW := hide hw
  clear hc hk hq hw
  go_enter Try.func37, Try.ntmps37
  go_wp2
  go_loopw [5, 6] (fun a b wr => ∃ (i j : Nat), i ≤ m ∧ m ≤ j ∧ j ≤ n ∧ a = .int .i64 (i : Int) ∧ b = .int .i64 (j : Int) ∧ K wr ∧ Below w.heap.size w wr) (fun a b _ => (RowKit.intOf b - RowKit.intOf a).toNat)
  case atStart => exact ⟨0, n, Nat.zero_le _, hm, Nat.le_refl _, rfl, rfl, HW.out, Below.refl _ _⟩
  case round =>
    obtain ⟨i, j, hi, hj, hjn, rfl, rfl, hK, hB⟩ := hrel
    have HKB := hide (And.intro hK hB)
    clear hK hB
    by_cases hlt : i < j
    · have b1 : (i : Int) < (j : Int) := by omega
      obtain ⟨h, hh⟩ : ∃ h, h = (i + j) / 2 := ⟨_, rfl⟩
      go_wp2_with fail
      have he : ((i : Int) + (j : Int)) / 2 = (h : Int) := by omega
      rw [he]
      have HE := hide he
      clear he
      have hlm := HQ.out h (by omega)
      have HCC := HC.out h wr (by omega) HKB.out.1
      by_cases hmh : m ≤ h
      · rw [hlm, decide_eq_true hmh] at HCC
        refine HCC.mono ?_
        rintro e w1 ⟨rfl, hB1⟩
        have HKB1 := hide (And.intro (HK.out _ _ HKB.out.1 hB1) (below_step HKB.out.2 hB1))
        clear hB1 HCC hlm
        go_wp2
        exact ⟨⟨i, h, hi, hmh, by omega, rfl, (by first | rfl | rw [HE.out]), HKB1.out.1, HKB1.out.2⟩, by simp [RowKit.intOf]; omega⟩
      · rw [hlm, decide_eq_false hmh] at HCC
        refine HCC.mono ?_
        rintro e w1 ⟨rfl, hB1⟩
        have HKB1 := hide (And.intro (HK.out _ _ HKB.out.1 hB1) (below_step HKB.out.2 hB1))
        clear hB1 HCC hlm
        go_wp2
        exact ⟨⟨h + 1, j, by omega, hj, by omega, by go_num, rfl, HKB1.out.1, HKB1.out.2⟩, by simp [RowKit.intOf]; omega⟩
    · obtain rfl : i = j := by omega
      obtain rfl : i = m := by omega
      go_wp2
      go_ret
      exact ⟨rfl, HKB.out.2⟩
/-- How many are ahead of the first of which p is true. -/
def lo (p : IT → Bool) (L : List IT) : Nat := (L.takeWhile fun x => !p x).length
theorem lo_le (p : IT → Bool) : ∀ L : List IT, lo p L ≤ L.length
  | [] => Nat.le_refl _
  | x :: r => by
    have := lo_le p r
    simp only [lo] at this ⊢
    rw [List.takeWhile_cons]
    split <;> simp <;> omega
theorem lo_at (p : IT → Bool) : ∀ {L : List IT}, (L.Pairwise fun x y => p x = true → p y = true) → ∀ i x, L[i]? = some x → p x = decide (lo p L ≤ i)
  | [], _, i, x, hx => by simp at hx
  | y :: r, h, i, x, hx => by
    obtain ⟨h1, h2⟩ := List.pairwise_cons.1 h
    have ih := lo_at p h2
    by_cases hy : p y = true
    · have e : lo p (y :: r) = 0 := by simp [lo, hy]
      rw [e, decide_eq_true (Nat.zero_le _)]
      cases i with
      | zero => simp at hx; rw [← hx]; exact hy
      | succ i => exact h1 x (List.mem_of_getElem? hx) hy
    · have e : lo p (y :: r) = lo p r + 1 := by simp [lo, hy]
      rw [e]
      cases i with
      | zero => simp at hx; rw [← hx]; simpa using hy
      | succ i => rw [ih i x (by simpa using hx)]; simp
theorem lo_take (p : IT → Bool) {L : List IT} (h : L.Pairwise fun x y => p x = true → p y = true) : L.take (lo p L) = L.filter fun x => !p x := by
  induction L with
  | nil => rfl
  | cons y r ih =>
    obtain ⟨h1, h2⟩ := List.pairwise_cons.1 h
    by_cases hy : p y = true
    · have e : lo p (y :: r) = 0 := by simp [lo, hy]
      rw [e, List.take_zero]
      symm
      rw [List.filter_eq_nil_iff]
      intro z hz
      rcases List.mem_cons.1 hz with rfl | hz
      · simp [hy]
      · simp [h1 z hz hy]
    · have e : lo p (y :: r) = lo p r + 1 := by simp [lo, hy]
      rw [e, List.take_succ_cons, ih h2, List.filter_cons_of_pos (by simpa using hy)]
theorem lo_drop (p : IT → Bool) {L : List IT} (h : L.Pairwise fun x y => p x = true → p y = true) : L.drop (lo p L) = L.filter p := by
  induction L with
  | nil => rfl
  | cons y r ih =>
    obtain ⟨h1, h2⟩ := List.pairwise_cons.1 h
    by_cases hy : p y = true
    · have e : lo p (y :: r) = 0 := by simp [lo, hy]
      rw [e, List.drop_zero]
      symm
      rw [List.filter_eq_self]
      intro z hz
      rcases List.mem_cons.1 hz with rfl | hz
      · exact hy
      · exact h1 z hz hy
    · have e : lo p (y :: r) = lo p r + 1 := by simp [lo, hy]
      rw [e, List.drop_succ_cons, ih h2, List.filter_cons_of_neg hy]
section
variable {r : Nat → Prop} {w W : World} {lv fv : Value} {L : List IT} {p : IT → Bool} {K : World → Prop} {b1 b2 i : Nat} {x : IT}
set_option maxHeartbeats 1600000 in
/-- Is it reached, by place. -/
theorem from1_any (hp : PR fv p K) (hL : LS it6 6 r W lv L) (hx : L[i]? = some x) (hf : W.cell? ⟨b1, 0, none⟩ = some fv) (hl : W.cell? ⟨b2, 0, none⟩ = some lv) (hK : K W) :
    Calls Try.prog 38 #[.int .i64 (i : Int), .pointer (some ⟨b1, 0, none⟩), .pointer (some ⟨b2, 0, none⟩)] W fun e w' => e = .returned (.bool (p x)) ∧ Below W.heap.size W w' := by
  obtain ⟨⟨g, fb, cb, rfl, eg, hc⟩, hk⟩ := hp
  have hi : i < L.length := (List.getElem?_eq_some_iff.1 hx).1
  obtain ⟨a, c, rfl, _, h2 | ⟨g0, o, rfl, _, hg0, hG⟩⟩ := hL
  · rw [h2] at hx; simp at hx
  have HC : Hid (Calls Try.prog g (fb.push (.agg (it6 x).toArray) ++ cb) W.drew fun e w' => e = .returned (.bool (p x)) ∧ Below W.heap.size W w') := by
    refine (hc x W.drew (hk W _ hK (Below.refl _ W).drew)).mono ?_
    rintro e w' ⟨h1, h2⟩
    exact ⟨h1, below_step (Below.refl _ W).drew h2⟩
  have hcc : ∀ (t : Nat) (v : Value), (it6 x)[t]? = some v → W.cell? ⟨g0, o + i * 6 + t, none⟩ = some v := fun t v hv => hG i x hx t v hv
  have u0 := hcc 0 _ rfl
  have u1 := hcc 1 _ rfl
  have u2 := hcc 2 _ rfl
  have u3 := hcc 3 _ rfl
  have u4 := hcc 4 _ rfl
  have u5 := hcc 5 _ rfl
  simp only [Nat.add_zero] at u0
  generalize L.length = n at *
  have b1' : (i : Int) < (n : Int) := by omega
  have b0' : (0 : Int) ≤ (i : Int) := by omega
  simp only [it6] at HC
  generalize p x = t at HC ⊢
  have HKK : Hid (∀ wx, Below W.heap.size W wx → (wx.cell? ⟨b1, 0, none⟩ = some (.func (.func g) fb cb) ∧ wx.cell? ⟨b2, 0, none⟩ = some (.slice (some ⟨g0, o, none⟩) n c)) ∧ wx.cell? ⟨g0, o + i * 6, none⟩ = some (.string x.id) ∧ wx.cell? ⟨g0, o + i * 6 + 1, none⟩ = some (.string x.pk) ∧ wx.cell? ⟨g0, o + i * 6 + 2, none⟩ = some (.int .i64 x.kind) ∧ wx.cell? ⟨g0, o + i * 6 + 3, none⟩ = some (.int .i64 x.off) ∧ wx.cell? ⟨g0, o + i * 6 + 4, none⟩ = some (.int .i64 x.long) ∧ wx.cell? ⟨g0, o + i * 6 + 5, none⟩ = some (.int .i64 x.size)) := fun wx hB => by
    have k : ∀ (a : Addr) (v : Value), W.cell? a = some v → wx.cell? a = some v := fun a v h => (hB.cell (World.block_lt_of_cell? W a h)).trans h
    exact ⟨⟨k _ _ hf, k _ _ hl⟩, k _ _ u0, k _ _ u1, k _ _ u2, k _ _ u3, k _ _ u4, k _ _ u5⟩
  have HBD := hide (Below.refl W.heap.size W).drew
  clear hc hk hcc hG hx
  go_enter Try.func38, Try.ntmps38
  go_upto_region 1 with fail
  go_region_held_law (fun wx => (wx.cell? ⟨b1, 0, none⟩ = some (.func (.func g) fb cb) ∧ wx.cell? ⟨b2, 0, none⟩ = some (.slice (some ⟨g0, o, none⟩) n c)) ∧ wx.cell? ⟨g0, o + i * 6, none⟩ = some (.string x.id) ∧ wx.cell? ⟨g0, o + i * 6 + 1, none⟩ = some (.string x.pk) ∧ wx.cell? ⟨g0, o + i * 6 + 2, none⟩ = some (.int .i64 x.kind) ∧ wx.cell? ⟨g0, o + i * 6 + 3, none⟩ = some (.int .i64 x.off) ∧ wx.cell? ⟨g0, o + i * 6 + 4, none⟩ = some (.int .i64 x.long) ∧ wx.cell? ⟨g0, o + i * 6 + 5, none⟩ = some (.int .i64 x.size)) (first | with_reducible exact HKK.out _ HBD.out | with_reducible exact HKK.out _ hB9)
    (first | (refine HC.out.mono ?_; rintro e w9 ⟨rfl, hB9⟩))
  go_wp2
  go_ret
  exact ⟨rfl, hB9⟩
set_option maxHeartbeats 1600000 in
/-- Where the items begin of which p is true, in a list in which all behind such a one are such. -/
theorem from_any (hp : PR fv p K) (hL : LS it6 6 r w lv L) (hn : L.length ≤ 1099511627776) (hmn : L.Pairwise fun x y => p x = true → p y = true) (hK : K w) :
    Calls Try.prog 23 #[lv, fv] w fun e w' => e = .returned (.int .i64 (lo p L : Nat)) ∧ Below w.heap.size w w' := by
  obtain ⟨g, fb, cb, hfv, _⟩ := hp.ex
  obtain ⟨a, c, hlv⟩ := hL.shp
  obtain ⟨U, hU⟩ : ∃ U, U = (w.alloc (.cells #[lv] 46)).alloc (.cells #[fv] 52) := ⟨_, rfl⟩
  obtain ⟨y, hy⟩ : ∃ y, y = w.heap.size := ⟨_, rfl⟩
  have hB : Below w.heap.size w U := by rw [hU]; exact below_two w _ _
  have k0 : U.heap[y]? = some (.cells #[lv] 46 (0, 0)) := by
    rw [hU, hy, Below.heap_alloc _ _ _ (by simp)]; exact heap_alloc_new w _
  have k1 : U.heap[y + 1]? = some (.cells #[fv] 52 (0, 0)) := by
    have := heap_alloc_new (w.alloc (.cells #[lv] 46)) (.cells #[fv] 52)
    rw [hU, hy]
    simpa using this
  have c0 : U.cell? ⟨y, 0, none⟩ = some lv := by rw [cell_of_row U _ _ _ _ _ k0]; rfl
  have c1 : U.cell? ⟨y + 1, 0, none⟩ = some fv := by rw [cell_of_row U _ _ _ _ _ k1]; rfl
  have HS : Hid (Calls Try.prog 37 #[.int .i64 (L.length : Int), .func (.func 38) #[] #[.pointer (some ⟨y + 1, 0, none⟩), .pointer (some ⟨y, 0, none⟩)]] U fun e w' => e = .returned (.int .i64 (lo p L : Nat)) ∧ Below U.heap.size U w') := by
    refine search_any (q := fun i => decide (lo p L ≤ i)) (K := fun W => W.cell? ⟨y + 1, 0, none⟩ = some fv ∧ W.cell? ⟨y, 0, none⟩ = some lv ∧ LS it6 6 r W lv L ∧ K W) (enters_of Try.func38 (by kernel_rfl) rfl) (fun i W hi hW => ?_) (fun W W' hW hBW => ?_) (lo_le p L) hn (fun i hi => rfl) U ⟨c1, c0, hL.bel hB, hp.keep _ _ hK hB⟩
    · obtain ⟨x, hx⟩ : ∃ x, L[i]? = some x := ⟨_, List.getElem?_eq_getElem hi⟩
      rw [← lo_at p hmn i x hx]
      exact from1_any hp hW.2.2.1 hx hW.1 hW.2.1 hW.2.2.2
    · have k : ∀ (a : Addr) (v : Value), W.cell? a = some v → W'.cell? a = some v := fun a v h => (hBW.cell (World.block_lt_of_cell? W a h)).trans h
      exact ⟨k _ _ hW.1, k _ _ hW.2.1, hW.2.2.1.bel hBW, hp.keep _ _ hW.2.2.2 hBW⟩
  have HU := hide hU
  have HY := hide hy
  have HB := hide hB
  have HN := hide hn
  subst hlv
  subst hfv
  have hmf : ∀ (fn : Fn) (first cap : Array Value) (w : World), (Instr.makeFunc fn first cap).run Try.prog w = .ok (.func fn first cap) w := fun _ _ _ _ => rfl
  generalize lo p L = m at HS ⊢
  generalize L.length = n at *
  clear hU hy hB k0 k1 c1 hp hL hmn hK hn
  go_enter Try.func23, Try.ntmps23
  go_upto_region 1 with fail
  rw [← HU.out, ← HY.out]
  go_wp2_with fail
  refine HS.out.mono ?_
  rintro e w1 ⟨rfl, hB1⟩
  have HE := hide (below_step HB.out hB1)
  clear hB1
  go_wp2
  go_ret
  exact ⟨rfl, HE.out⟩
end
/-- An item in a block of its own. -/
def SBI (w : World) (b : Nat) (x : IT) : Prop := w.heap[b]? = some (.cells (it6 x).toArray 25 (0, 0))
theorem SBI.bel {w w' : World} {b : Nat} {x : IT} (h : SBI w b x) (hb : Below w.heap.size w w') : SBI w' b x := (hb.block b (lt_of_block h)).trans h
section
variable {r : Nat → Prop} {w W : World} {lv fv : Value} {L : List IT} {b : Nat} {y : IT}
set_option maxHeartbeats 1600000 in
theorem place1_any (x : IT) (h : SBI W b y) : Calls Try.prog 55 #[.agg (it6 x).toArray, .pointer (some ⟨b, 0, none⟩)] W fun e w' => e = .returned (.bool (!lI x y)) ∧ Below W.heap.size W w' := by
  obtain ⟨U, hU⟩ : ∃ U, U = W.alloc (.cells (it6 x).toArray 25) := ⟨_, rfl⟩
  obtain ⟨z, hz⟩ : ∃ z, z = W.heap.size := ⟨_, rfl⟩
  have hB : Below W.heap.size W U := by rw [hU]; exact (Below.refl _ _).alloc (Nat.le_refl _) _
  have k0 : SBI U z x := by rw [hU, hz]; exact heap_alloc_new W _
  have k1 := SBI.bel h hB
  obtain ⟨x0, x1, x2, x3, x4, x5⟩ := c6_of k0
  obtain ⟨y0, y1, y2, y3, y4, y5⟩ := c6_of k1
  have HL := hide (less_any x y U)
  have HU := hide hU
  have HZ := hide hz
  have HB := hide hB
  generalize lI x y = t at HL ⊢
  simp only [it6] at HL HU
  simp only [it6]
  clear hU hz hB k0 k1 h
  go_enter Try.func55, Try.ntmps55
  go_upto_region 1 with fail
  rw [← HU.out, ← HZ.out]
  go_wp2_with fail
  refine HL.out.mono ?_
  rintro e w1 ⟨rfl, hB1⟩
  have HE := hide (below_step HB.out hB1)
  clear hB1
  go_wp2
  go_ret
  exact ⟨rfl, HE.out⟩
/-- Where an item stands, or is to stand. -/
def pl (L : List IT) (y : IT) : Nat := lo (fun x => !lI x y) L
theorem ss_mono (h : SS L) (y : IT) : L.Pairwise fun x z => (!lI x y) = true → (!lI z y) = true := List.Pairwise.imp (fun {x z} hxz h => by
  simp only [Bool.not_eq_true'] at h ⊢
  cases e : lI z y
  · rfl
  · rw [lI_trans hxz e] at h; cases h) h
theorem place_pr (b : Nat) (y : IT) : PR (.func (.func 55) #[] #[.pointer (some ⟨b, 0, none⟩)]) (fun x => !lI x y) (fun w => SBI w b y) :=
  ⟨⟨_, _, _, rfl, enters_of Try.func55 (by kernel_rfl) rfl, fun x _ hK => place1_any x hK⟩, fun _ _ h hb => SBI.bel h hb⟩
set_option maxHeartbeats 1600000 in
theorem place_any (hL : LS it6 6 r w lv L) (hn : L.length ≤ 1099511627776) (hS : SS L) (y : IT) :
    Calls Try.prog 41 #[lv, .agg (it6 y).toArray] w fun e w' => e = .returned (.int .i64 (pl L y : Nat)) ∧ Below w.heap.size w w' := by
  obtain ⟨U, hU⟩ : ∃ U, U = w.alloc (.cells (it6 y).toArray 25) := ⟨_, rfl⟩
  obtain ⟨z, hz⟩ : ∃ z, z = w.heap.size := ⟨_, rfl⟩
  have hB : Below w.heap.size w U := by rw [hU]; exact (Below.refl _ _).alloc (Nat.le_refl _) _
  have k0 : SBI U z y := by rw [hU, hz]; exact heap_alloc_new w _
  have HF := hide (from_any (place_pr z y) (hL.bel hB) hn (ss_mono hS y) k0)
  have hmf : ∀ (fn : Fn) (first cap : Array Value) (w : World), (Instr.makeFunc fn first cap).run Try.prog w = .ok (.func fn first cap) w := fun _ _ _ _ => rfl
  rw [pl]
  generalize lo (fun x => !lI x y) L = m at HF ⊢
  have HU := hide hU
  have HZ := hide hz
  have HB := hide hB
  simp only [it6] at HU
  simp only [it6]
  clear hU hz hB k0 hL hS hn
  go_enter Try.func41, Try.ntmps41
  go_upto_region 1 with fail
  rw [← HU.out, ← HZ.out]
  go_wp2_with fail
  refine HF.out.mono ?_
  rintro e w1 ⟨rfl, hB1⟩
  have HE := hide (below_step HB.out hB1)
  clear hB1
  go_wp2
  go_ret
  exact ⟨rfl, HE.out⟩
end
end Go.Proofs.Ytkcefdiiibbflaa
