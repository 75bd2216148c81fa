/-
  Lookup: where items begin, by a function that is asked of the list's own alone; one more let in, in plain terms.
-/
import Derived.Test.YtkcefdiiibbflaaLuAdd1
namespace Go.Proofs.Ytkcefdiiibbflaa
open Go.RowKit Go.Lib
/-- A function value that tells of a list's items whether p. -/
structure PI (fv : Value) (L : List IT) (p : IT → Bool) (K : World → Prop) : Prop where
  ex : ∃ g fb cb, fv = .func (.func g) fb cb ∧ (∀ args w, (callFunc g args).run Try.prog w = .ok (.enter g args) w) ∧ ∀ x w, x ∈ L → K w → Calls Try.prog g (fb.push (.agg (it6 x).toArray) ++ cb) w fun e w' => e = .returned (.bool (p x)) ∧ Below w.heap.size w w'
  keep : ∀ w w', K w → Below w.heap.size w w' → K w'
section
variable {r : Nat → Prop} {w W : World} {lv fv : Value} {L : List IT} {p : IT → Bool} {K : World → Prop} {b1 b2 i : Nat} {x : IT}
set_option maxHeartbeats 1600000 in
/-- Is it reached, by place. -/
theorem from1_in (hp : PI fv L p K) (hL : LS it6 6 r W lv L) (hx : L[i]? = some x) (hf : W.cell? ⟨b1, 0, none⟩ = some fv) (hl : W.cell? ⟨b2, 0, none⟩ = some lv) (hK : K W) :
    Calls Try.prog 38 #[.int .i64 (i : Int), .pointer (some ⟨b1, 0, none⟩), .pointer (some ⟨b2, 0, none⟩)] W fun e w' => e = .returned (.bool (p x)) ∧ Below W.heap.size W w' := by
  obtain ⟨⟨g, fb, cb, rfl, eg, hc⟩, hk⟩ := hp
  have hi : i < L.length := (List.getElem?_eq_some_iff.1 hx).1
  obtain ⟨a, c, rfl, _, h2 | ⟨g0, o, rfl, _, hg0, hG⟩⟩ := hL
  · rw [h2] at hx; simp at hx
  have HC : Hid (Calls Try.prog g (fb.push (.agg (it6 x).toArray) ++ cb) W.drew fun e w' => e = .returned (.bool (p x)) ∧ Below W.heap.size W w') := by
    refine (hc x W.drew (List.mem_of_getElem? hx) (hk W _ hK (Below.refl _ W).drew)).mono ?_
    rintro e w' ⟨h1, h2⟩
    exact ⟨h1, below_step (Below.refl _ W).drew h2⟩
  have hcc : ∀ (t : Nat) (v : Value), (it6 x)[t]? = some v → W.cell? ⟨g0, o + i * 6 + t, none⟩ = some v := fun t v hv => hG i x hx t v hv
  have u0 := hcc 0 _ rfl
  have u1 := hcc 1 _ rfl
  have u2 := hcc 2 _ rfl
  have u3 := hcc 3 _ rfl
  have u4 := hcc 4 _ rfl
  have u5 := hcc 5 _ rfl
  simp only [Nat.add_zero] at u0
  generalize L.length = n at *
  have b1' : (i : Int) < (n : Int) := by omega
  have b0' : (0 : Int) ≤ (i : Int) := by omega
  simp only [it6] at HC
  generalize p x = t at HC ⊢
  have HKK : Hid (∀ wx, Below W.heap.size W wx → (wx.cell? ⟨b1, 0, none⟩ = some (.func (.func g) fb cb) ∧ wx.cell? ⟨b2, 0, none⟩ = some (.slice (some ⟨g0, o, none⟩) n c)) ∧ wx.cell? ⟨g0, o + i * 6, none⟩ = some (.string x.id) ∧ wx.cell? ⟨g0, o + i * 6 + 1, none⟩ = some (.string x.pk) ∧ wx.cell? ⟨g0, o + i * 6 + 2, none⟩ = some (.int .i64 x.kind) ∧ wx.cell? ⟨g0, o + i * 6 + 3, none⟩ = some (.int .i64 x.off) ∧ wx.cell? ⟨g0, o + i * 6 + 4, none⟩ = some (.int .i64 x.long) ∧ wx.cell? ⟨g0, o + i * 6 + 5, none⟩ = some (.int .i64 x.size)) := fun wx hB => by
    have k : ∀ (a : Addr) (v : Value), W.cell? a = some v → wx.cell? a = some v := fun a v h => (hB.cell (World.block_lt_of_cell? W a h)).trans h
    exact ⟨⟨k _ _ hf, k _ _ hl⟩, k _ _ u0, k _ _ u1, k _ _ u2, k _ _ u3, k _ _ u4, k _ _ u5⟩
  have HBD := hide (Below.refl W.heap.size W).drew
  clear hc hk hcc hG hx
  go_enter Try.func38, Try.ntmps38
  go_upto_region 1 with fail
  go_region_held_law (fun wx => (wx.cell? ⟨b1, 0, none⟩ = some (.func (.func g) fb cb) ∧ wx.cell? ⟨b2, 0, none⟩ = some (.slice (some ⟨g0, o, none⟩) n c)) ∧ wx.cell? ⟨g0, o + i * 6, none⟩ = some (.string x.id) ∧ wx.cell? ⟨g0, o + i * 6 + 1, none⟩ = some (.string x.pk) ∧ wx.cell? ⟨g0, o + i * 6 + 2, none⟩ = some (.int .i64 x.kind) ∧ wx.cell? ⟨g0, o + i * 6 + 3, none⟩ = some (.int .i64 x.off) ∧ wx.cell? ⟨g0, o + i * 6 + 4, none⟩ = some (.int .i64 x.long) ∧ wx.cell? ⟨g0, o + i * 6 + 5, none⟩ = some (.int .i64 x.size)) (first | with_reducible exact HKK.out _ HBD.out | with_reducible exact HKK.out _ hB9)
    (first | (refine HC.out.mono ?_; rintro e w9 ⟨rfl, hB9⟩))
  go_wp2
  go_ret
  exact ⟨rfl, hB9⟩
set_option maxHeartbeats 1600000 in
/-- Where the items begin of which p is true, in a list in which all behind such a one are such. -/
theorem from_in (hp : PI fv L p K) (hL : LS it6 6 r w lv L) (hn : L.length ≤ 1099511627776) (hmn : L.Pairwise fun x y => p x = true → p y = true) (hK : K w) :
    Calls Try.prog 23 #[lv, fv] w fun e w' => e = .returned (.int .i64 (lo p L : Nat)) ∧ Below w.heap.size w w' := by
  obtain ⟨g, fb, cb, hfv, _⟩ := hp.ex
  obtain ⟨a, c, hlv⟩ := hL.shp
  obtain ⟨U, hU⟩ : ∃ U, U = (w.alloc (.cells #[lv] 46)).alloc (.cells #[fv] 52) := ⟨_, rfl⟩
  obtain ⟨y, hy⟩ : ∃ y, y = w.heap.size := ⟨_, rfl⟩
  have hB : Below w.heap.size w U := by rw [hU]; exact below_two w _ _
  have k0 : U.heap[y]? = some (.cells #[lv] 46 (0, 0)) := by
    rw [hU, hy, Below.heap_alloc _ _ _ (by simp)]; exact heap_alloc_new w _
  have k1 : U.heap[y + 1]? = some (.cells #[fv] 52 (0, 0)) := by
    have := heap_alloc_new (w.alloc (.cells #[lv] 46)) (.cells #[fv] 52)
    rw [hU, hy]
    simpa using this
  have c0 : U.cell? ⟨y, 0, none⟩ = some lv := by rw [cell_of_row U _ _ _ _ _ k0]; rfl
  have c1 : U.cell? ⟨y + 1, 0, none⟩ = some fv := by rw [cell_of_row U _ _ _ _ _ k1]; rfl
  have HS : Hid (Calls Try.prog 37 #[.int .i64 (L.length : Int), .func (.func 38) #[] #[.pointer (some ⟨y + 1, 0, none⟩), .pointer (some ⟨y, 0, none⟩)]] U fun e w' => e = .returned (.int .i64 (lo p L : Nat)) ∧ Below U.heap.size U w') := by
    refine search_any (q := fun i => decide (lo p L ≤ i)) (K := fun W => W.cell? ⟨y + 1, 0, none⟩ = some fv ∧ W.cell? ⟨y, 0, none⟩ = some lv ∧ LS it6 6 r W lv L ∧ K W) (enters_of Try.func38 (by kernel_rfl) rfl) (fun i W hi hW => ?_) (fun W W' hW hBW => ?_) (lo_le p L) hn (fun i hi => rfl) U ⟨c1, c0, hL.bel hB, hp.keep _ _ hK hB⟩
    · obtain ⟨x, hx⟩ : ∃ x, L[i]? = some x := ⟨_, List.getElem?_eq_getElem hi⟩
      rw [← lo_at p hmn i x hx]
      exact from1_in hp hW.2.2.1 hx hW.1 hW.2.1 hW.2.2.2
    · have k : ∀ (a : Addr) (v : Value), W.cell? a = some v → W'.cell? a = some v := fun a v h => (hBW.cell (World.block_lt_of_cell? W a h)).trans h
      exact ⟨k _ _ hW.1, k _ _ hW.2.1, hW.2.2.1.bel hBW, hp.keep _ _ hW.2.2.2 hBW⟩
  have HU := hide hU
  have HY := hide hy
  have HB := hide hB
  have HN := hide hn
  subst hlv
  subst hfv
  have hmf : ∀ (fn : Fn) (first cap : Array Value) (w : World), (Instr.makeFunc fn first cap).run Try.prog w = .ok (.func fn first cap) w := fun _ _ _ _ => rfl
  generalize lo p L = m at HS ⊢
  generalize L.length = n at *
  clear hU hy hB k0 k1 c1 hp hL hmn hK hn
  go_enter Try.func23, Try.ntmps23
  go_upto_region 1 with fail
  rw [← HU.out, ← HY.out]
  go_wp2_with fail
  refine HS.out.mono ?_
  rintro e w1 ⟨rfl, hB1⟩
  have HE := hide (below_step HB.out hB1)
  clear hB1
  go_wp2
  go_ret
  exact ⟨rfl, HE.out⟩
end
theorem add1_pi {b n : Nat} {L : List IT} (h : ∀ x ∈ L, 0 < x.id.size) : PI (.func (.func 24) #[] #[.pointer (some ⟨b, 0, none⟩)]) L (fun x => decide (n < fb x)) (fun w => SBB w b n) :=
  ⟨⟨_, _, _, rfl, enters_of Try.func24 (by kernel_rfl) rfl, fun x _ hx hK => add1_any x (h x hx) hK⟩, fun _ _ h hb => SBB.bel h hb⟩
/-- One let in. -/
def ins (x : IT) (L : List IT) : List IT := L.filter (fun y => lI y x) ++ x :: L.filter (fun y => lI x y)
theorem ins_mem (x : IT) (L : List IT) (y : IT) : y ∈ ins x L ↔ y = x ∨ y ∈ L := by
  simp only [ins, List.mem_append, List.mem_cons, List.mem_filter]
  constructor
  · rintro (h | h | h)
    · exact .inr h.1
    · exact .inl h
    · exact .inr h.1
  · rintro (h | h)
    · exact .inr (.inl h)
    · cases h1 : lI y x
      · cases h2 : lI x y
        · exact .inr (.inl (lI_total h1 h2))
        · exact .inr (.inr ⟨h, rfl⟩)
      · exact .inl ⟨h, rfl⟩
theorem ins_ss {x : IT} {L : List IT} (h : SS L) : SS (ins x L) := by
  refine List.pairwise_append.2 ⟨h.filter _, List.pairwise_cons.2 ⟨fun z hz => by simpa using (List.mem_filter.1 hz).2, h.filter _⟩, fun y hy z hz => ?_⟩
  have hyx : lI y x = true := by simpa using (List.mem_filter.1 hy).2
  rcases List.mem_cons.1 hz with rfl | hz
  · exact hyx
  · exact lI_trans hyx (by simpa using (List.mem_filter.1 hz).2)
theorem two_filter (p q : IT → Bool) (h : ∀ x, p x = true → q x = false) : ∀ L : List IT, (L.filter p).length + (L.filter q).length ≤ L.length
  | [] => Nat.le_refl _
  | x :: r => by
    have ih := two_filter p q h r
    by_cases h1 : p x = true
    · have h2 := h x h1
      simp only [List.filter_cons, h1, h2, if_true, Bool.false_eq_true, if_false, List.length_cons]
      omega
    · have h1' : p x = false := by simpa using h1
      simp only [List.filter_cons, h1', Bool.false_eq_true, if_false, List.length_cons]
      split <;> simp <;> omega
theorem ins_len (x : IT) (L : List IT) : (ins x L).length ≤ L.length + 1 := by
  have := two_filter (fun y => lI y x) (fun y => lI x y) (fun y h => lI_asymm h) L
  simp only [ins, List.length_append, List.length_cons]
  omega
/-- All of them let in. -/
def un (L : List IT) : List IT → List IT
  | [] => L
  | x :: r => un (ins x L) r
theorem un_mem : ∀ (X L : List IT) (y : IT), y ∈ un L X ↔ y ∈ L ∨ y ∈ X
  | [], L, y => by simp [un]
  | x :: r, L, y => by
    rw [un, un_mem r, ins_mem, List.mem_cons]
    constructor
    · rintro ((h | h) | h)
      · exact .inr (.inl h)
      · exact .inl h
      · exact .inr (.inr h)
    · rintro (h | h | h)
      · exact .inl (.inr h)
      · exact .inl (.inl h)
      · exact .inr h
theorem un_ss : ∀ (X : List IT) {L : List IT}, SS L → SS (un L X)
  | [], _, h => h
  | _ :: r, _, h => un_ss r (ins_ss h)
theorem un_len : ∀ (X L : List IT), (un L X).length ≤ L.length + X.length
  | [], L => Nat.le_refl _
  | x :: r, L => by
    have := un_len r (ins x L)
    have := ins_len x L
    rw [un, List.length_cons]
    omega
/-- A list's own, with those of its first byte. -/
theorem un_this {L X R : List IT} {j : Nat} (hL : SS L) (hX : ∀ x ∈ X, fb x = j) (hR : SS R) (hm : ∀ x, x ∈ R ↔ x ∈ bkL L j ∨ x ∈ X) : bkL (un L X) j = R := by
  refine ss_ext ((un_ss X hL).filter _) hR fun x => ?_
  rw [hm, bkL, bkL, List.mem_filter, un_mem, List.mem_filter]
  constructor
  · rintro ⟨h | h, h2⟩
    · exact .inl ⟨h, h2⟩
    · exact .inr h
  · rintro (h | h)
    · exact ⟨.inl h.1, h.2⟩
    · exact ⟨.inr h, by simpa using hX x h⟩
theorem un_other {L X : List IT} {i j : Nat} (hL : SS L) (hX : ∀ x ∈ X, fb x = j) (h : i ≠ j) : bkL (un L X) i = bkL L i := by
  refine ss_ext ((un_ss X hL).filter _) (hL.filter _) fun x => ?_
  rw [bkL, bkL, List.mem_filter, un_mem, List.mem_filter]
  constructor
  · rintro ⟨h1 | h1, h2⟩
    · exact ⟨h1, h2⟩
    · have := hX x h1
      simp at h2
      omega
  · rintro ⟨h1, h2⟩
    exact ⟨.inl h1, h2⟩
theorem fb_le {x y : IT} (h : lI x y = true) (hx : 0 < x.id.size) (hy : 0 < y.id.size) : fb x ≤ fb y := by
  have h1 := cI_id h
  rw [cS] at h1
  simp only [fb]
  generalize x.id = xi at hx h1 ⊢
  generalize y.id = yi at hy h1 ⊢
  obtain ⟨⟨a⟩⟩ := xi
  obtain ⟨⟨b⟩⟩ := yi
  cases a with
  | nil => exact absurd (show 0 < 0 from hx) (by omega)
  | cons p a =>
    cases b with
    | nil => exact absurd (show 0 < 0 from hy) (by omega)
    | cons q b =>
      have := (cmpB_cons p q a b).1 h1
      simp only [List.headD_cons]
      omega
end Go.Proofs.Ytkcefdiiibbflaa
