/-
  Contracts of the program and of the statements (part 7 of 13).
-/
import Derived.Test.YtiecoplfiahpnaaGreatFc6

namespace Go.Proofs.YtiecoplfiahpnaaGreat
open Go.RowKit Go.Lib Go.Maps
section
variable {w w' : World} {v rv : Value} {S : List SS} {rs : List Nat} {P r : Nat → Prop} {t B : Nat} {X : List (RR × Value)}
/-- An answer more. -/
theorem xpush (h : OW x3 3 72 B v X w) (x : RR × Value) (hs : ∃ a n c, x.2 = .slice a n c) (hb : X.length ≤ 1000000) (hB : B ≤ w.heap.size) :
    ∃ v' w', (Builtin.append_ #[50, 50] 50 #[v, .slice (some ⟨w.heap.size, 0, none⟩) 1 1]).run Tryz.prog (w.alloc (.cells #[.int .i64 x.1.c, .string x.1.d, x.2] 72)) = .ok v' w' ∧ OW x3 3 72 B v' (X ++ [x]) w' ∧ Gs (fun i => v.ownBlock = some i) w w' := by
  have hb0 : Below w.heap.size w (w.alloc (.cells #[.int .i64 x.1.c, .string x.1.d, x.2] 72)) := (Below.refl _ _).alloc (Nat.le_refl _) _
  obtain ⟨v', w', h1, h2, h3, h4⟩ := OW.app (ST := 50) (m := [x]) (r := fun _ => True) x3_len (by decide) (fun y hy => by simp at hy; subst hy; exact x3_one hs) Tryz.underlying50 Tryz.infoA rfl (h.keep hb0) (LS.one x 72 w x3 3 _ trivial) (by simp; omega) (by simp; omega) (by simp; omega)
  refine ⟨v', w', h1, h2, ⟨h3.os.trans hb0.os, h3.tape.trans hb0.tape, h3.output.trans hb0.output, Nat.le_trans hb0.size h3.size, fun i hi hn => ?_⟩⟩
  exact (h3.block i (Nat.lt_of_lt_of_le hi hb0.size) (fun e => hn e.symm)).trans (hb0.block i hi)
/-- The request as it is asked, in a block. -/
def RB (w : World) (b : Nat) (i k : Int) (n d : ByteArray) : Prop := w.heap[b]? = some (.cells #[.int .i64 i, .int .i64 k, .string n, .string d] 65 (0, 0))
theorem RB.cell {b : Nat} {i k : Int} {n d : ByteArray} (h : RB w b i k n d) (j : Nat) : w.cell? ⟨b, j, none⟩ = (#[.int .i64 i, .int .i64 k, .string n, .string d] : Array Value)[j]? := by
  rw [World.cell?]; simp only [show w.heap[b]? = _ from h]; rfl
theorem RB.free {b : Nat} {i k : Int} {n d : ByteArray} (h : RB w b i k n d) (j : Nat) : w.frozen? ⟨b, j, none⟩ = false := by simp [World.frozen?, show w.heap[b]? = _ from h]
/-- Where All stands. -/
structure AL (P : Nat → Prop) (w wr : World) (rv v : Value) (S : List SS) (rs : List Nat) (b : Nat) (k : Int) (n d : ByteArray) (j : Nat) (X : List (RR × Value)) : Prop where
  o : OW x3 3 72 (b + 1) v X wr
  x : X.map (·.1) = yRs S (aq k n d j)
  t : ∀ y ∈ X, TS (b + 1) y.2 y.1.l wr
  r : ∃ i, RB wr b i k n d
  y : YD P wr rv (ySs S (aq k n d j)) rs
  g : Gs (fun i => i ∈ rs) w wr
  s : b + 1 ≤ wr.heap.size
theorem TS.typ {l : List ByteArray} (h : TS B v l w) (b : Nat) (hb : v.ownBlock = some b) : ∃ cs, w.heap[b]? = some (.cells cs 9 (0, 0)) := h.ow.typ b hb
set_option maxRecDepth 100000 in
set_option maxHeartbeats 6400000 in
theorem rall_any (hY : YD P w rv S rs) (hP : ∀ i, P i → i < w.heap.size) (hG : GD t S) (m : Nat) (ht : t + m ≤ 1000) (i0 k : Int) (n d : ByteArray) (hn : n.size ≤ maxLen) (hd : d.size ≤ maxLen) :
    Calls Tryz.prog 51 #[rv, .int .i64 m, .agg #[.int .i64 i0, .int .i64 k, .string n, .string d]] w fun e w' => ∃ v X, e = .returned v ∧ OW x3 3 72 w.heap.size v X w' ∧ X.map (·.1) = yRs S (aq k n d m) ∧ (∀ y ∈ X, TS w.heap.size y.2 y.1.l w') ∧ YD P w' rv (ySs S (aq k n d m)) rs ∧ Gs (fun i => i ∈ rs) w w' := by
  obtain ⟨W0, hW0⟩ : ∃ W0, W0 = w.alloc (.cells #[.int .i64 i0, .int .i64 k, .string n, .string d] 65) := ⟨_, rfl⟩
  obtain ⟨b, hb⟩ : ∃ b, b = w.heap.size := ⟨_, rfl⟩
  have hB0 : Below w.heap.size w W0 := by rw [hW0]; exact (Below.refl _ _).alloc (Nat.le_refl _) _
  have H0 : Hid (AL P w W0 rv (.slice none 0 0) S rs b k n d 0 []) := ⟨OW.nil _ _ _ _ _, rfl, (fun y hy => by simp at hy), ⟨i0, by rw [hW0, hb]; exact heap_alloc_new w _⟩, hY.bel hB0, Gs.of_below _ hB0, by rw [hW0, hb]; simp⟩
  have HP := hide hP
  have HG := hide hG
  have HI : Hid (∀ i ∈ rs, i < b) := fun i hi => by rw [hb]; exact hP i (hY.inP i hi)
  have HPb : Hid (∀ i, P i → i < b) := fun i hi => by rw [hb]; exact hP i hi
  have HW0 := hide hW0
  have Hb := hide hb
  clear hY hP hG hW0 hb hB0
  go_enter Tryz.func51, Tryz.ntmps51
  go_upto_region 1 with fail
  rw [← HW0.out, ← Hb.out]
  go_wp2
  go_loopw [7, 8] (fun v i wr => ∃ (j : Nat) (X : List (RR × Value)), j ≤ m ∧ i = .int .i64 j ∧ AL P w wr rv v S rs b k n d j X) (fun _ i _ => m - (intOf i).toNat)
  case atStart => exact ⟨0, [], Nat.zero_le _, rfl, H0.out⟩
  case round =>
    obtain ⟨j, X, hj, rfl, hA⟩ := hrel
    by_cases hlt : j < m
    · have b1 : (j : Int) < (m : Int) := by omega
      have b0 : (0 : Int) ≤ (j : Int) := by omega
      obtain ⟨i1, hR⟩ := hA.r
      have f0 := hR.free 0
      have k0 : wr.cell? ⟨b, 0, none⟩ = some (.int .i64 i1) := hR.cell 0
      obtain ⟨W1, hW1⟩ : ∃ W1, W1 = wr.setCell ⟨b, 0, none⟩ (.int .i64 j) := ⟨_, rfl⟩
      have hR1 : RB W1 b j k n d := by rw [hW1]; exact heap_set_self hR
      have hot : ∀ i, i ≠ b → W1.heap[i]? = wr.heap[i]? := fun i hi => by rw [hW1]; exact heap_setCell_other wr ⟨b, 0, none⟩ i _ hi
      have hG1 : Gs (fun i => i = b) wr W1 := by rw [hW1]; exact (Gs.refl (fun i => i = b) wr).set1 _ _
      have z0 : W1.cell? ⟨b, 0, none⟩ = some (.int .i64 j) := hR1.cell 0
      have z1 : W1.cell? ⟨b, 1, none⟩ = some (.int .i64 k) := hR1.cell 1
      have z2 : W1.cell? ⟨b, 2, none⟩ = some (.string n) := hR1.cell 2
      have z3 : W1.cell? ⟨b, 3, none⟩ = some (.string d) := hR1.cell 3
      have hY1 : YD P W1 rv (ySs S (aq k n d j)) rs := hA.y.gs hG1 (fun i hi e => by have := HPb.out i hi; omega) fun i cs fr hi e => by
        rw [e, show wr.heap[b]? = _ from hR] at hi
        simp at hi
      have hGD : GD (t + (aq k n d j).length) (ySs S (aq k n d j)) := GD.steps _ HG.out
      rw [aq_len] at hGD
      have HAN := hide (ranswer_any hY1 hGD (by omega) ⟨(j : Int), k, n, d⟩ hn hd)
      have HA := hide hA
      have HW1 := hide hW1
      have HF1 := hide (And.intro hR1 (And.intro hot hG1))
      clear hA hR hW1 hR1 hot hG1 hY1 hGD
      go_upto_region 6 with fail
      rw [← HW1.out]
      go_wp2_with fail
      refine HAN.out.mono ?_
      rintro e w1 ⟨u, rfl, hAR, hY2, hG2⟩
      obtain ⟨ua, uc, rfl, hTS⟩ := hAR.shp
      obtain ⟨A, hA⟩ : ∃ A, A = yR (ySs S (aq k n d j)) ⟨(j : Int), k, n, d⟩ := ⟨_, rfl⟩
      rw [← hA] at hTS ⊢
      have hA0 := HA.out
      have hlt0 := hA0.o.lt
      have hkeep : ∀ i, b + 1 ≤ i → i < wr.heap.size → w1.heap[i]? = wr.heap[i]? := fun i h1 h2 => by
        have h3 : i < W1.heap.size := Nat.lt_of_lt_of_le h2 HF1.out.2.2.size
        rw [hG2.block i h3 (fun hm => by have := HI.out i hm; omega)]
        exact HF1.out.2.1 i (by omega)
      have hO1 : OW x3 3 72 (b + 1) u7 X w1 := hA0.o.kb fun i hi => hkeep i (hlt0 i hi).1 (hlt0 i hi).2
      have hs1 : b + 1 ≤ w1.heap.size := Nat.le_trans hA0.s (Nat.le_trans HF1.out.2.2.size hG2.size)
      have hXl : X.length = j := by have := congrArg List.length hA0.x; rw [List.length_map, yRs_len, aq_len] at this; exact this
      obtain ⟨v2, w2, hr1, hO2, hG3⟩ := xpush hO1 (A, .slice ua A.l.length uc) ⟨_, _, _, rfl⟩ (by omega) hs1
      have hRB1 : RB w1 b j k n d := (hG2.block b (by have := lt_of_block HF1.out.1; exact this) (fun hm => by have := HI.out b hm; omega)).trans HF1.out.1
      have HE : Hid (AL P w w2 rv v2 S rs b k n d (j + 1) (X ++ [(A, .slice ua A.l.length uc)])) := by
        have hne : ∀ (u : Value) (l : List ByteArray), TS (b + 1) u l w1 → TS (b + 1) u l w2 := fun u l hu => hu.kb fun i hi => hG3.block i (hu.lt i hi).2 (fun e => by
          obtain ⟨c1, q1⟩ := hu.typ i hi
          obtain ⟨c2, q2⟩ := hO1.typ i e
          rw [q1] at q2
          simp at q2)
        refine ⟨hO2, ?_, fun y hy => ?_, ⟨j, ?_⟩, ?_, ?_, Nat.le_trans hs1 hG3.size⟩
        · rw [List.map_append, hA0.x, aq_snoc, yRs_snoc, hA]; rfl
        · rcases List.mem_append.1 hy with hy | hy
          · have h1 := hA0.t y hy
            exact hne _ _ (h1.kb fun i hi => hkeep i (h1.lt i hi).1 (h1.lt i hi).2)
          · simp at hy
            subst hy
            exact hne _ _ (hTS.low (Nat.le_trans hA0.s HF1.out.2.2.size))
        · exact (hG3.block b (lt_of_block hRB1) (fun e => by have := (hO1.lt b e).1; omega)).trans hRB1
        · rw [aq_snoc, ySs_snoc]
          exact hY2.own hO1 hG3 (fun i hi => Nat.lt_succ_of_lt (HPb.out i hi)) (by decide)
        · refine ((hA0.g.tr2 HF1.out.2.2 fun i hi e => by have := Hb.out; omega).trans hG2).tr2 hG3 fun i hi e => ?_
          have := (hO1.lt i e).1
          have := Hb.out
          omega
      clear hAR hTS hY2 hG2 hA hA0 hlt0 hkeep hO1 hs1 hXl hO2 hG3 hRB1
      go_wp2_with (at_builtin; refine Lib.wpList_append_run _ rfl _ _ _ _ rfl _ _ rfl rfl _ _ hr1 ?_)
      exact ⟨⟨j + 1, _, by omega, by go_num, HE.out⟩, by simp [intOf]; omega⟩
    · obtain rfl : j = m := by omega
      have HE : Hid (∃ v X, Ending.returned u7 = .returned v ∧ OW x3 3 72 w.heap.size v X wr ∧ X.map (·.1) = yRs S (aq k n d j) ∧ (∀ y ∈ X, TS w.heap.size y.2 y.1.l wr) ∧ YD P wr rv (ySs S (aq k n d j)) rs ∧ Gs (fun i => i ∈ rs) w wr) :=
        ⟨u7, X, rfl, hA.o.low (by have := Hb.out; omega), hA.x, fun y hy => (hA.t y hy).low (by have := Hb.out; omega), hA.y, hA.g⟩
      clear hA
      go_wp2
      go_ret
      exact HE.out
end
end Go.Proofs.YtiecoplfiahpnaaGreat

namespace Go.Proofs.YtiecoplfiahpnaaGreat
open Go.WideShapes
/-- Where a name would stand. -/
def posT : List ByteArray → ByteArray → Nat
  | [], _ => 0
  | p :: r, n => if bl p n = true then posT r n + 1 else 0
/-- A name more, if it is not there. -/
def insT (L : List ByteArray) (n : ByteArray) : List ByteArray := if L[posT L n]? = some n then L else L.take (posT L n) ++ n :: L.drop (posT L n)
/-- Rising. -/
def RisT (L : List ByteArray) : Prop := L.Pairwise (fun p q => bl p q = true)
theorem posT_le : ∀ (L : List ByteArray) (n : ByteArray), posT L n ≤ L.length
  | [], _ => Nat.le_refl _
  | p :: r, n => by
    have := posT_le r n
    rw [posT]
    split
    · rw [List.length_cons]; omega
    · exact Nat.zero_le _
theorem posT_before {n p : ByteArray} : ∀ {L : List ByteArray} {i : Nat}, i < posT L n → L[i]? = some p → bl p n = true
  | [], i, h, _ => by simp [posT] at h
  | q :: r, i, h, hp => by
    rw [posT] at h
    split at h
    · rename_i hq
      match i, h, hp with
      | 0, _, hp => simp at hp; subst hp; exact hq
      | i + 1, h, hp => exact posT_before (L := r) (Nat.lt_of_succ_lt_succ h) (by simpa using hp)
    · omega
theorem posT_at {n p : ByteArray} : ∀ {L : List ByteArray}, L[posT L n]? = some p → bl p n = false
  | [], h => by simp at h
  | q :: r, h => by
    rw [posT] at h
    split at h
    · exact posT_at (L := r) (by simpa using h)
    · rename_i hq
      simp at h
      subst h
      simpa using hq
theorem posT_some {L : List ByteArray} {n : ByteArray} {j : Nat} (h : j < posT L n) : ∃ p, L[j]? = some p ∧ bl p n = true := by
  have hl : j < L.length := Nat.lt_of_lt_of_le h (posT_le L n)
  exact ⟨L[j], List.getElem?_eq_getElem hl, posT_before h (List.getElem?_eq_getElem hl)⟩
theorem insT_len (L : List ByteArray) (n : ByteArray) : (insT L n).length ≤ L.length + 1 := by
  have := posT_le L n
  rw [insT]
  split
  · omega
  · rw [List.length_append, List.length_take, List.length_cons, List.length_drop]; omega
theorem insT_mem {L : List ByteArray} {n x : ByteArray} : x ∈ insT L n ↔ x ∈ L ∨ x = n := by
  rw [insT]
  split
  · rename_i h
    exact ⟨.inl, fun hx => by rcases hx with hx | rfl; exact hx; exact List.mem_of_getElem? h⟩
  · rw [List.mem_append, List.mem_cons]
    have e : x ∈ L ↔ x ∈ L.take (posT L n) ∨ x ∈ L.drop (posT L n) := by rw [← List.mem_append, List.take_append_drop]
    rw [e]
    constructor
    · rintro (h | h | h)
      · exact .inl (.inl h)
      · exact .inr h
      · exact .inl (.inr h)
    · rintro ((h | h) | h)
      · exact .inl h
      · exact .inr (.inr h)
      · exact .inr (.inl h)
theorem insT_ris {L : List ByteArray} (h : RisT L) (n : ByteArray) : RisT (insT L n) := by
  rw [insT]
  split
  · exact h
  · rename_i hne
    have h0 : (L.take (posT L n) ++ L.drop (posT L n)).Pairwise (fun p q => bl p q = true) := by rw [List.take_append_drop]; exact h
    obtain ⟨h1, h2, h3⟩ := List.pairwise_append.1 h0
    have ha : ∀ x ∈ L.take (posT L n), bl x n = true := fun x hx => by
      obtain ⟨i, hi⟩ := List.mem_iff_getElem?.1 hx
      rw [List.getElem?_take] at hi
      split at hi
      · rename_i hl; exact posT_before hl hi
      · cases hi
    have hd : ∀ x ∈ L.drop (posT L n), bl n x = true := fun x hx => by
      cases hL : L[posT L n]? with
      | none =>
        have := List.getElem?_eq_none_iff.1 hL
        rw [List.drop_eq_nil_of_le this] at hx
        simp at hx
      | some p =>
        have hpn : bl n p = true := by
          rcases bl_total (x := n) (y := p) (fun e => hne (by rw [hL, e])) with h | h
          · exact h
          · rw [posT_at hL] at h; cases h
        obtain ⟨hl, rfl⟩ := List.getElem?_eq_some_iff.1 hL
        rw [List.drop_eq_getElem_cons hl] at hx h2
        rcases List.mem_cons.1 hx with rfl | hx
        · exact hpn
        · exact bl_trans hpn ((List.pairwise_cons.1 h2).1 x hx)
    refine List.pairwise_append.2 ⟨h1, List.pairwise_cons.2 ⟨hd, h2⟩, fun x hx y hy => ?_⟩
    rcases List.mem_cons.1 hy with rfl | hy
    · exact ha x hx
    · exact h3 x hx y hy
/-- Rising lists of the same names are the same. -/
theorem ris_ext : ∀ {L M : List ByteArray}, RisT L → RisT M → (∀ x, x ∈ L ↔ x ∈ M) → L = M
  | [], [], _, _, _ => rfl
  | [], q :: s, _, _, h => absurd ((h q).2 List.mem_cons_self) (by simp)
  | p :: r, [], _, _, h => absurd ((h p).1 List.mem_cons_self) (by simp)
  | p :: r, q :: s, hL, hM, h => by
    obtain ⟨l1, l2⟩ := List.pairwise_cons.1 hL
    obtain ⟨m1, m2⟩ := List.pairwise_cons.1 hM
    have e : p = q := by
      rcases List.mem_cons.1 ((h p).1 List.mem_cons_self) with e | hp
      · exact e
      · rcases List.mem_cons.1 ((h q).2 List.mem_cons_self) with e | hq
        · exact e.symm
        · have := bl_trans (l1 q hq) (m1 p hp)
          rw [bl_irrefl] at this
          cases this
    subst e
    congr 1
    refine ris_ext l2 m2 fun x => ⟨fun hx => ?_, fun hx => ?_⟩
    · rcases List.mem_cons.1 ((h x).1 (List.mem_cons_of_mem _ hx)) with rfl | h1
      · exact absurd (l1 x hx) (by rw [bl_irrefl]; decide)
      · exact h1
    · rcases List.mem_cons.1 ((h x).2 (List.mem_cons_of_mem _ hx)) with rfl | h1
      · exact absurd (m1 x hx) (by rw [bl_irrefl]; decide)
      · exact h1
/-- Names gathered. -/
def insA (L N : List ByteArray) : List ByteArray := N.foldl insT L
def uniT (A : List (List ByteArray)) : List ByteArray := A.foldl insA []
theorem insA_snoc (L N : List ByteArray) (n : ByteArray) : insA L (N ++ [n]) = insT (insA L N) n := by simp [insA]
theorem uniT_snoc (A : List (List ByteArray)) (N : List ByteArray) : uniT (A ++ [N]) = insA (uniT A) N := by simp [uniT]
theorem insA_ris : ∀ (N : List ByteArray) {L : List ByteArray}, RisT L → RisT (insA L N)
  | [], _, h => h
  | n :: r, _, h => insA_ris r (insT_ris h n)
theorem insA_mem : ∀ (N : List ByteArray) {L : List ByteArray} {x : ByteArray}, x ∈ insA L N ↔ x ∈ L ∨ x ∈ N
  | [], L, x => by simp [insA]
  | n :: r, L, x => by
    rw [show insA L (n :: r) = insA (insT L n) r from rfl, insA_mem r, insT_mem, List.mem_cons, or_assoc]
theorem insA_len : ∀ (N L : List ByteArray), (insA L N).length ≤ L.length + N.length
  | [], L => Nat.le_refl _
  | n :: r, L => by
    have h1 := insA_len r (insT L n)
    have h2 := insT_len L n
    rw [show insA L (n :: r) = insA (insT L n) r from rfl, List.length_cons]
    omega
theorem foldl_ris : ∀ (A : List (List ByteArray)) {L : List ByteArray}, RisT L → RisT (A.foldl insA L)
  | [], _, h => h
  | N :: r, _, h => foldl_ris r (insA_ris N h)
theorem foldl_mem : ∀ (A : List (List ByteArray)) {L : List ByteArray} {x : ByteArray}, x ∈ A.foldl insA L ↔ x ∈ L ∨ ∃ N ∈ A, x ∈ N
  | [], L, x => by simp
  | N :: r, L, x => by
    rw [List.foldl_cons, foldl_mem r, insA_mem, or_assoc]
    simp
theorem foldl_len : ∀ (A : List (List ByteArray)) (L : List ByteArray), (A.foldl insA L).length ≤ L.length + (A.flatMap id).length
  | [], L => by simp
  | N :: r, L => by
    have h1 := foldl_len r (insA L N)
    have h2 := insA_len N L
    rw [List.foldl_cons, List.flatMap_cons, List.length_append]
    simp only [id] at h1 ⊢
    omega
theorem uniT_ris (A : List (List ByteArray)) : RisT (uniT A) := foldl_ris A List.Pairwise.nil
theorem uniT_mem {A : List (List ByteArray)} {x : ByteArray} : x ∈ uniT A ↔ ∃ N ∈ A, x ∈ N := by rw [uniT, foldl_mem]; simp
theorem uniT_len (A : List (List ByteArray)) : (uniT A).length ≤ (A.flatMap id).length := by have := foldl_len A []; simp only [List.length_nil] at this; unfold uniT; omega
end Go.Proofs.YtiecoplfiahpnaaGreat

namespace Go.Proofs.YtiecoplfiahpnaaGreat
open Go.RowKit Go.Lib Go.Maps
section
variable {w w' : World} {v av : Value} {l : List ByteArray} {B : Nat} {r : Nat → Prop} {X : List (RR × Value)}
theorem TS.src (h : TS B v l w) : (v = .slice none 0 0 ∧ l = []) ∨ ∃ g o c, v = .slice (some ⟨g, o, none⟩) l.length c ∧ l.length ≤ c ∧ B ≤ g ∧ g < w.heap.size ∧ GS t1 1 w g o l := by
  obtain ⟨h1, ⟨rfl, h2⟩ | ⟨g, cap, cur, rfl, hB, hg, hn, _, hs, ht⟩⟩ := h.own
  · exact .inl ⟨rfl, List.length_eq_zero_iff.1 h2⟩
  · refine .inr ⟨g, 0, cap, rfl, hn, hB, lt_of_block hg, ?_⟩
    obtain ⟨a, c, e, _, h3 | ⟨g', o', ea, _, _, hG⟩⟩ := h.ow.ls t1_len (r := fun _ => True) (fun _ _ => trivial)
    · rw [h3]; intro i x hx; simp at hx
    · rw [ea] at e
      simp only [Value.slice.injEq, Option.some.injEq, Addr.mk.injEq] at e
      obtain ⟨⟨rfl, rfl, _⟩, _⟩ := e
      exact hG
theorem GS.drop {g o : Nat} (h : GS t1 1 w g o l) (i : Nat) : GS t1 1 w g (o + i) (l.drop i) := fun p x hx j u hu => by
  rw [List.getElem?_drop] at hx
  have := h (i + p) x hx j u hu
  rw [show o + (i + p) * 1 + j = o + i + p * 1 + j by omega] at this
  exact this
theorem GS.take {g o : Nat} (h : GS t1 1 w g o l) (i : Nat) : GS t1 1 w g o (l.take i) := fun p x hx j u hu => by
  rw [List.getElem?_take] at hx
  split at hx
  · exact h p x hx j u hu
  · cases hx
theorem flat_take (A : List (List ByteArray)) (j : Nat) : ((A.take j).flatMap id).length ≤ (A.flatMap id).length := by
  have e : A.flatMap id = (A.take j).flatMap id ++ (A.drop j).flatMap id := by rw [← List.flatMap_append, List.take_append_drop]
  rw [e, List.length_append]; omega
set_option maxRecDepth 100000 in
set_option maxHeartbeats 1600000 in
theorem runion_any (hL : LS x3 3 r w av X) (hN : ∀ x ∈ X, LS t1 1 r w x.2 x.1.l) (hn : X.length ≤ 1000000) (hl : ((X.map (·.1.l)).flatMap id).length ≤ 100000) :
    Calls Tryz.prog 24 #[av] w fun e w' => ∃ v, e = .returned v ∧ TS w.heap.size v (uniT (X.map (·.1.l))) w' ∧ Below w.heap.size w w' := by
  obtain ⟨a, c, rfl, h1, h2⟩ := hL
  obtain ⟨n0, hn0⟩ : ∃ n0, n0 = w.heap.size := ⟨_, rfl⟩
  have HC : Hid (∀ j x, X[j]? = some x → ∀ wr, Below n0 w wr → ∃ g o, a = some ⟨g, o, none⟩ ∧ wr.cell? ⟨g, o + j * 3 + 2, none⟩ = some x.2 ∧ LS t1 1 (fun i => i < n0) wr x.2 x.1.l) := fun j x hx wr hb => by
    rcases h2 with h2 | ⟨g, o, ea, hr, hg, hG⟩
    · rw [h2] at hx; simp at hx
    · refine ⟨g, o, ea, (hb.cell (p := ⟨g, o + j * 3 + 2, none⟩) (by rw [hn0]; exact hg)).trans (hG j x hx 2 _ rfl), ?_⟩
      have := (hN x (List.mem_of_getElem? hx)).old
      exact (this.mono (r' := fun i => i < n0) fun i hi => by rw [hn0]; exact hi.2).kb hb.size fun i hi _ => hb.block i hi
  obtain ⟨A, hA⟩ : ∃ A, A = X.map (·.1.l) := ⟨_, rfl⟩
  rw [← hA] at hl ⊢
  obtain ⟨m, hm⟩ : ∃ m, m = X.length := ⟨_, rfl⟩
  have HAl : Hid (A.length = m) := by show A.length = m; rw [hA, hm, List.length_map]
  have HAj : Hid (∀ (j : Nat) (x : RR × Value), X[j]? = some x → A[j]? = some x.1.l) := fun j x hx => by rw [hA, List.getElem?_map, hx]; rfl
  rw [← hm] at hn ⊢
  have HM := hide hm
  have HFL := hide hl
  have H0 := hide hn0
  rw [← hn0]
  have hsz : n0 ≤ w.heap.size := by omega
  clear hm h1 h2 hA hl hN hn0
  go_enter Tryz.func24, Tryz.ntmps24
  go_wp2
  go_loopw [3, 4] (fun v i wr => ∃ j : Nat, j ≤ m ∧ i = .int .i64 j ∧ TS n0 v (uniT (A.take j)) wr ∧ Below n0 w wr) (fun _ i _ => m - (intOf i).toNat)
  case atStart => exact ⟨0, Nat.zero_le _, rfl, by rw [List.take_zero]; exact TS.nil _ _, Below.refl _ _⟩
  case round =>
    obtain ⟨j, hj, rfl, hT, hB⟩ := hrel
    by_cases hlt : j < m
    · have b1 : (j : Int) < (m : Int) := by omega
      have b0 : (0 : Int) ≤ (j : Int) := by omega
      obtain ⟨x, hx⟩ : ∃ x, X[j]? = some x := ⟨_, List.getElem?_eq_getElem (by rw [← HM.out]; exact hlt)⟩
      have hxA := HAj.out j x hx
      have HU : Hid (uniT (A.take (j + 1)) = insA (uniT (A.take j)) x.1.l) := by show _ = _; rw [take_snoc_at hxA, uniT_snoc]
      have hle : (uniT (A.take j)).length + x.1.l.length ≤ 100000 := by
        have h1 := flat_take A (j + 1)
        have h2 := uniT_len (A.take j)
        rw [take_snoc_at hxA, List.flatMap_append, List.length_append] at h1
        simp at h1
        have := HFL.out
        simp at this h2
        omega
      have HCx : Hid (∀ wx, Below n0 w wx → ∃ g o, a = some ⟨g, o, none⟩ ∧ wx.cell? ⟨g, o + j * 3 + 2, none⟩ = some x.2 ∧ LS t1 1 (fun i => i < n0) wx x.2 x.1.l) := fun wx hb => HC.out j x hx wx hb
      obtain ⟨L0, hL0⟩ : ∃ L0, L0 = uniT (A.take j) := ⟨_, rfl⟩
      rw [← hL0] at hT hle HU
      obtain ⟨xr, xu⟩ := x
      obtain ⟨nl, hnl⟩ : ∃ nl, nl = xr.l := ⟨_, rfl⟩
      dsimp only at HCx hle HU
      rw [← hnl] at HCx hle HU
      obtain ⟨g, o, rfl, z2, hLx⟩ := HCx.out wr hB
      obtain ⟨au, cu, hu⟩ := hLx.shp
      subst hu
      obtain ⟨ln, hln⟩ : ∃ ln, ln = nl.length := ⟨_, rfl⟩
      rw [← hln] at HCx hle z2
      have HLN := hide hln
      have HT := hide (And.intro hT hB)
      clear hx hxA hL0 hnl hLx hln hT hB HC
      go_wp2
      go_loopw [3, 5] (fun v i wx => ∃ q : Nat, q ≤ ln ∧ i = .int .i64 q ∧ TS n0 v (insA L0 (nl.take q)) wx ∧ Below n0 w wx) (fun _ i _ => ln - (intOf i).toNat)
      case atStart => exact ⟨0, Nat.zero_le _, rfl, by rw [List.take_zero]; exact HT.out.1, HT.out.2⟩
      case round =>
        obtain ⟨q, hq, rfl, hTq, hBq⟩ := hrel
        obtain ⟨g2, o2, e2, z2x, hLx⟩ := HCx.out wr hBq
        cases e2
        by_cases hql : q < ln
        · have b2 : (q : Int) < (ln : Int) := by omega
          have b3 : (0 : Int) ≤ (q : Int) := by omega
          obtain ⟨nm, hnm⟩ : ∃ nm, nl[q]? = some nm := ⟨_, List.getElem?_eq_getElem (by rw [← HLN.out]; exact hql)⟩
          have hnt := take_snoc_at hnm
          obtain ⟨g3, o3, rfl, _, z3⟩ := hLx.at1 hnm rfl
          have HI : Hid (insA L0 (nl.take (q + 1)) = insT (insA L0 (nl.take q)) nm) := by show _ = _; rw [hnt, insA_snoc]
          have hlen := insA_len (nl.take q) L0
          rw [List.length_take] at hlen
          obtain ⟨L, hL⟩ : ∃ L, L = insA L0 (nl.take q) := ⟨_, rfl⟩
          rw [← hL] at HI hTq hlen
          have hLl : L.length ≤ 100000 := by omega
          obtain ⟨P, hP⟩ : ∃ P, P = posT L nm := ⟨_, rfl⟩
          obtain ⟨N, hN⟩ : ∃ N, N = L.length := ⟨_, rfl⟩
          have hPN : P ≤ N := by rw [hP, hN]; exact posT_le L nm
          have hNl : N ≤ 100000 := by rw [hN]; exact hLl
          have HP := hide hP
          have HN := hide hN
          have HBq := hide (And.intro hTq hBq)
          have hSr := hTq.src
          rw [← hN] at hSr
          clear hnm hnt hLx hlen hL hTq hBq hP hN hLl HT z2
          rcases hSr with ⟨rfl, rfl⟩ | ⟨g4, o4, c4, rfl, hc4, _, hg4, hG4⟩
          · have hN0 : N = 0 := by rw [HN.out]; rfl
            have hP0 : P = 0 := by omega
            subst hN0 hP0
            obtain ⟨i0, hi0, hz0, hz1, hz2⟩ := info_parts Tryz.infoTx
            have hr1 : (Builtin.append_ #[33, 33] 33 #[.slice none 0 0, .slice none 0 0]).run Tryz.prog wr = .ok (.slice none 0 0) wr := run_append_owned_none (P := Tryz.prog) (w := wr) n0 _ _ _ i0 1 Tryz.underlying33 hi0 (.slice none 0 0) 0 [] (TS.nil n0 wr).own
            obtain ⟨v2, w2, hr2, hO2, hB2, _⟩ := (TS.nil n0 wr).one nm (by simp) (Nat.le_trans hsz HBq.out.2.size)
            have hr3 : (Builtin.append_ #[33, 33] 33 #[v2, .slice none 0 0]).run Tryz.prog w2 = .ok v2 w2 := run_append_owned_none (P := Tryz.prog) (w := w2) n0 _ _ _ i0 1 Tryz.underlying33 hi0 v2 _ _ hO2.own
            have HE : Hid (TS n0 v2 (insA L0 (nl.take (q + 1))) w2 ∧ Below n0 w w2) := by
              refine ⟨?_, hB2 w HBq.out.2⟩
              rw [HI.out]
              have e : insT [] nm = [nm] := by simp [insT, posT]
              rw [e]
              exact hO2
            clear hO2 hB2
            go_wp2
            go_loop [7] (fun i => i = .int .i64 0) (fun _ => 0)
            case atStart => rfl
            case round =>
              obtain rfl := hrel
              go_upto_region 15 with (at_builtin; refine Lib.wpList_append_run wr rfl _ _ _ _ rfl _ _ rfl rfl _ _ hr1 ?_)
              go_upto_region 16 with (at_builtin; refine Lib.wpList_append_run (wr.alloc (.cells #[.string nm] 9)) rfl _ _ _ _ rfl _ _ rfl rfl _ _ hr2 ?_)
              go_wp2_with (at_builtin; refine Lib.wpList_append_run w2 rfl _ _ _ _ rfl _ _ rfl rfl _ _ hr3 ?_)
              exact ⟨⟨q + 1, by omega, by go_num, HE.out⟩, by simp [intOf]; omega⟩
          · have HG4 := hide hG4
            have HZ : Hid (∀ p y, L[p]? = some y → wr.cell? ⟨g4, o4 + p, none⟩ = some (.string y)) := fun p y hy => by
              have := hG4 p y hy 0 _ rfl
              rw [Nat.mul_one, Nat.add_zero] at this
              exact this
            clear hG4
            go_wp2
            go_loop [7] (fun i => ∃ p : Nat, p ≤ P ∧ i = .int .i64 p) (fun i => P - (intOf i).toNat)
            case atStart => exact ⟨0, Nat.zero_le _, rfl⟩
            case round =>
              obtain ⟨p, hp, rfl⟩ := hrel
              by_cases hpP : p < P
              · have b4 : (p : Int) < (N : Int) := by omega
                have b5 : (0 : Int) ≤ (p : Int) := by omega
                obtain ⟨y, hy, hyb⟩ := posT_some (L := L) (n := nm) (j := p) (by rw [← HP.out]; exact hpP)
                have z4 := HZ.out p y hy
                have hs := less_fact hyb
                clear hy hyb
                go_wp2
                go_round
                case rel => exact ⟨p + 1, by omega, by go_num⟩
                case measure => simp [intOf]; omega
              · obtain rfl : p = P := by omega
                have b4 : (p : Int) ≤ (N : Int) := by omega
                have b5 : (0 : Int) ≤ (p : Int) := by omega
                have b6 : (p : Int) ≤ (c4 : Int) := by omega
                by_cases hin : L[p]? = some nm
                · have hpN : p < N := by rw [HN.out]; exact (List.getElem?_eq_some_iff.1 hin).1
                  have b7 : (p : Int) < (N : Int) := by omega
                  have z4 := HZ.out p nm hin
                  have HE : Hid (TS n0 (.slice (some ⟨g4, o4, none⟩) N c4) (insA L0 (nl.take (q + 1))) wr ∧ Below n0 w wr) := by
                    rw [HI.out, insT, if_pos (by rw [← HP.out]; exact hin)]
                    exact HBq.out
                  have ht : (nm.toList == nm.toList) = true := by simp
                  have hs := less_fact (bl_irrefl nm)
                  clear hin
                  go_wp2
                  exact ⟨⟨q + 1, by omega, by go_num, HE.out⟩, by simp [intOf]; omega⟩
                · have hpl : (L.take p).length = p := by rw [List.length_take, ← HN.out]; omega
                  have hdl : (L.drop p).length = N - p := by rw [List.length_drop, ← HN.out]
                  obtain ⟨v1, w1, hr1, hO1, hg1, _⟩ := OW.app (ST := 33) (m := L.take p) (r := fun _ => True) t1_len (by decide) (fun x _ => t1_one x) Tryz.underlying33 Tryz.infoTx rfl (OW.nil t1 1 9 wr.heap.size wr) (vs := .slice (some ⟨g4, o4, none⟩) p c4) ⟨some ⟨g4, o4, none⟩, c4, by rw [hpl], (fun e => by cases e), .inr ⟨g4, o4, rfl, trivial, hg4, HG4.out.take p⟩⟩ (by rw [hpl, List.length_nil]; omega) (by rw [hpl, List.length_nil]; omega) (Nat.le_refl _)
                  rw [List.nil_append] at hO1
                  have hB1 : Below wr.heap.size wr w1 := (Below.refl _ _).grown hg1 (Nat.le_refl _) (fun k hk => by simp [Value.ownBlock] at hk)
                  obtain ⟨v2, w2, hr2, hO2, hB2, _⟩ := hO1.ts.one nm (by rw [hpl]; omega) hB1.size
                  have hb2 := hB2 wr hB1
                  obtain ⟨o5, ho5, hS5⟩ : ∃ o5, (if c4 = p then some (⟨g4, o4, none⟩ : Addr) else some ⟨g4, o4 + p, none⟩) = some ⟨g4, o5, none⟩ ∧ GS t1 1 w2 g4 o5 (L.drop p) := by
                    by_cases h : c4 = p
                    · refine ⟨o4, if_pos h, ?_⟩
                      rw [List.drop_eq_nil_of_le (by rw [← HN.out]; omega)]
                      intro i x hx; simp at hx
                    · exact ⟨o4 + p, if_neg h, (HG4.out.drop p).block (hb2.block g4 hg4)⟩
                  obtain ⟨v3, w3, hr3, hO3, hg3, _⟩ := OW.app (ST := 33) (m := L.drop p) (r := fun _ => True) t1_len (by decide) (fun x _ => t1_one x) Tryz.underlying33 Tryz.infoTx rfl hO2.ow (vs := .slice (some ⟨g4, o5, none⟩) (N - p) (c4 - p)) ⟨some ⟨g4, o5, none⟩, c4 - p, by rw [hdl], (fun e => by cases e), .inr ⟨g4, o5, rfl, trivial, Nat.lt_of_lt_of_le hg4 hb2.size, hS5⟩⟩ (by rw [List.length_append, hpl, hdl, List.length_singleton]; omega) (by rw [List.length_append, hpl, hdl, List.length_singleton]; omega) hb2.size
                  rw [← ho5] at hr3
                  have hB3 : Below wr.heap.size wr w3 := hb2.grown hg3 hb2.size (fun k hk => (hO2.lt k hk).1)
                  have HE : Hid (TS n0 v3 (insA L0 (nl.take (q + 1))) w3 ∧ Below n0 w w3) := by
                    have hs0 := Nat.le_trans hsz HBq.out.2.size
                    refine ⟨?_, HBq.out.2.trans (hB3.mono hs0)⟩
                    rw [HI.out, insT, if_neg (by rw [← HP.out]; exact hin), ← HP.out]
                    have h9 := hO3.ts.low hs0
                    rw [List.append_assoc] at h9
                    exact h9
                  obtain ⟨a1, c1', rfl⟩ : ∃ a1 c1', v1 = .slice a1 p c1' := by
                    obtain ⟨a1, c1', e⟩ := hO1.shp
                    exact ⟨a1, c1', by rw [e, hpl]⟩
                  obtain ⟨a2, c2, rfl⟩ : ∃ a2 c2, v2 = .slice a2 (p + 1) c2 := by
                    obtain ⟨a2, c2, e⟩ := hO2.shp
                    exact ⟨a2, c2, by rw [e, List.length_append, hpl, List.length_singleton]⟩
                  have HY : Hid (∀ y, L[p]? = some y → bl y nm = false ∧ y ≠ nm) := fun y hy => ⟨posT_at (by rw [← HP.out]; exact hy), fun e => hin (by rw [hy, e])⟩
                  obtain ⟨a3, c3, rfl⟩ : ∃ a3 c3, v3 = .slice a3 (N + 1) c3 := by
                    obtain ⟨a3, c3, e⟩ := hO3.shp
                    exact ⟨a3, c3, by rw [e, List.length_append, List.length_append, hpl, hdl, List.length_singleton]; congr 1; omega⟩
                  have HG4' := HG4
                  clear hO1 hO2 hO3 hB1 hB2 hb2 hB3 hS5 ho5 hg1 hg3 hin hpl hdl HG4 HG4' hg4
                  by_cases hpN : p < N
                  · have b7 : (p : Int) < (N : Int) := by omega
                    obtain ⟨y, hy⟩ : ∃ y, L[p]? = some y := ⟨_, List.getElem?_eq_getElem (by rw [← HN.out]; exact hpN)⟩
                    have z4 := HZ.out p y hy
                    obtain ⟨hy1, hy2⟩ := HY.out y hy
                    have hs := less_fact hy1
                    have ht : (y.toList == nm.toList) = false := by rw [test_eq]; exact decide_eq_false hy2
                    clear hy hy1
                    have hcp : ¬ c4 = p := by omega
                    rw [if_neg hcp] at hr3
                    go_upto_region 15 with (at_builtin; refine Lib.wpList_append_run wr rfl _ _ _ _ rfl _ _ rfl rfl _ _ hr1 ?_)
                    go_upto_region 16 with (at_builtin; refine Lib.wpList_append_run (w1.alloc (.cells #[.string nm] 9)) rfl _ _ _ _ rfl _ _ rfl rfl _ _ hr2 ?_)
                    go_wp2_with (at_builtin; refine Lib.wpList_append_run w2 rfl _ _ _ _ rfl _ _ rfl rfl _ _ hr3 ?_)
                    exact ⟨⟨q + 1, by omega, by go_num, HE.out⟩, by simp [intOf]; omega⟩
                  · have b7 : ¬ (p : Int) < (N : Int) := by omega
                    by_cases hcp : c4 = p
                    · rw [if_pos hcp] at hr3
                      subst hcp
                      rw [Nat.sub_self] at hr3
                      have hr4 := hr3
                      rw [show N - c4 = 0 from by omega] at hr4
                      go_upto_region 15 with (at_builtin; refine Lib.wpList_append_run wr rfl _ _ _ _ rfl _ _ rfl rfl _ _ hr1 ?_)
                      go_upto_region 16 with (at_builtin; refine Lib.wpList_append_run (w1.alloc (.cells #[.string nm] 9)) rfl _ _ _ _ rfl _ _ rfl rfl _ _ hr2 ?_)
                      go_wp2_with (first | (at_builtin; refine Lib.wpList_append_run w2 rfl _ _ _ _ rfl _ _ rfl rfl _ _ hr4 ?_) | (at_builtin; refine Lib.wpList_append_run w2 rfl _ _ _ _ rfl _ _ rfl rfl _ _ hr3 ?_) | (at_builtin; trace_state; fail))
                      exact ⟨⟨q + 1, by omega, by go_num, HE.out⟩, by simp [intOf]; omega⟩
                    · rw [if_neg hcp] at hr3
                      go_upto_region 15 with (at_builtin; refine Lib.wpList_append_run wr rfl _ _ _ _ rfl _ _ rfl rfl _ _ hr1 ?_)
                      go_upto_region 16 with (at_builtin; refine Lib.wpList_append_run (w1.alloc (.cells #[.string nm] 9)) rfl _ _ _ _ rfl _ _ rfl rfl _ _ hr2 ?_)
                      go_wp2_with (at_builtin; refine Lib.wpList_append_run w2 rfl _ _ _ _ rfl _ _ rfl rfl _ _ hr3 ?_)
                      exact ⟨⟨q + 1, by omega, by go_num, HE.out⟩, by simp [intOf]; omega⟩
        · obtain rfl : q = ln := by omega
          have e : nl.take q = nl := List.take_of_length_le (by have := HLN.out; omega)
          rw [e] at hTq
          have HE : Hid (TS n0 u3 (uniT (A.take (j + 1))) wr ∧ Below n0 w wr) := by
            rw [HU.out]; exact ⟨hTq, hBq⟩
          clear hTq hBq hLx
          go_wp2
          exact ⟨⟨j + 1, by omega, by go_num, HE.out⟩, by simp [intOf]; omega⟩
    · obtain rfl : j = m := by omega
      have e : A.take j = A := List.take_of_length_le (by have := HAl.out; omega)
      rw [e] at hT
      have HE := hide (And.intro hT hB)
      clear hT hB
      go_wp2
      go_ret
      exact ⟨_, rfl, HE.out⟩
end
end Go.Proofs.YtiecoplfiahpnaaGreat

namespace Go.Proofs.YtiecoplfiahpnaaGreat
open Go.RowKit Go.Lib Go.Maps
/-- A function that is entered when it is called. -/
def Ent (F : FuncId) : Prop := ∀ (args : Array Value) (w : World), (callFunc F args).run Tryz.prog w = .ok (.enter F args) w
section
variable {r r' p : Nat → Prop} {w w' : World} {b a1 a2 a3 a4 a5 : Nat} {l : List QT} {X : List (RR × Value)} {tv rv av : Value} {st k s c N : Int} {n d : ByteArray} {go ids tx : Value} {op : Bool}
set_option maxRecDepth 100000 in
set_option maxHeartbeats 3200000 in
theorem next_then {F : FuncId} {fi ca : Array Value} (hent : Ent F) (h : CL r w b l X a1 a2 a3 a4 a5 (.func (.func F) fi ca) rv av) (hxl : X.length = l.length) {Q : World → Prop} (HK : Calls Tryz.prog F (fi.push av ++ ca) w fun e w' => e = .returned (.tuple #[]) ∧ Q w') :
    Calls Tryz.prog 121 #[.pointer (some ⟨a4, 0, none⟩), .pointer (some ⟨a3, 0, none⟩), .pointer (some ⟨a1, 0, none⟩), .pointer (some ⟨a5, 0, none⟩), .pointer (some ⟨a2, 0, none⟩)] w fun e w' => e = .returned (.tuple #[]) ∧ Q w' := by
  obtain ⟨aa, ca', hav⟩ := h.o.shp
  obtain ⟨ar, cr, hrv⟩ := h.q.shp
  have y4 : w.cell? ⟨a4, 0, none⟩ = some av := by simp [World.cell?, h.h4]
  have y3 : w.cell? ⟨a3, 0, none⟩ = some rv := by simp [World.cell?, h.h3]
  have y2 : w.cell? ⟨a2, 0, none⟩ = some (.func (.func F) fi ca) := by simp [World.cell?, h.h2]
  have HE := hide HK
  rw [hav] at y4 HE
  rw [hrv] at y3
  rw [hxl] at y4 HE
  obtain ⟨ll, hll⟩ : ∃ ll, ll = l.length := ⟨_, rfl⟩
  rw [← hll] at y3 y4 HE
  have b1 : ¬ (ll : Int) < (ll : Int) := by omega
  obtain ⟨g1, g2, g3, g4⟩ := fe79
  unfold Ent at hent
  clear h hxl hav hrv hll HK
  go_enter Tryz.func121, Tryz.ntmps121
  go_wp2_with fail
  refine HE.out.mono ?_
  rintro e w1 ⟨rfl, hF⟩
  have HF := hide hF
  clear hF
  go_wp2
  go_end0
  exact ⟨rfl, HF.out⟩
set_option maxRecDepth 100000 in
set_option maxHeartbeats 3200000 in
theorem take_gen (h : CL r w b l X a1 a2 a3 a4 a5 tv rv av) (hJ : JB w b true st k n d .nilFunc c N ids tx s) (x : RR × Value) (hx : LS t1 1 r w x.2 x.1.l) (hX : X.length < l.length) (hl : l.length ≤ 1000000) {Q : World → Prop}
    (HC : ∀ V v', CL r V b l (X ++ [x]) a1 a2 a3 a4 a5 tv rv v' → JB V b true st k n d .nilFunc c N ids tx s → Gs (mu b a4 av) w V → (v'.ownBlock = av.ownBlock ∨ ∀ i, v'.ownBlock = some i → w.heap.size ≤ i) → Calls Tryz.prog 121 #[.pointer (some ⟨a4, 0, none⟩), .pointer (some ⟨a3, 0, none⟩), .pointer (some ⟨a1, 0, none⟩), .pointer (some ⟨a5, 0, none⟩), .pointer (some ⟨a2, 0, none⟩)] V fun e w' => e = .returned (.tuple #[]) ∧ Q w') :
    Calls Tryz.prog 123 #[.agg #[.int .i64 x.1.c, .string x.1.d, x.2], .pointer (some ⟨a4, 0, none⟩), .pointer (some ⟨a5, 0, none⟩)] w fun e w' => e = .returned (.tuple #[]) ∧ Q w' := by
  obtain ⟨au, cu, hu⟩ := hx.shp
  obtain ⟨U, hU⟩ : ∃ U, U = w.alloc (.cells #[.int .i64 x.1.c, .string x.1.d, x.2] 72) := ⟨_, rfl⟩
  have hBU : Below w.heap.size w U := by rw [hU]; exact (Below.refl _ _).alloc (Nat.le_refl _) _
  have hW := h.bel hBU
  have hJU := hJ.bel hBU
  have hblk : U.heap[w.heap.size]? = some (.cells #[.int .i64 x.1.c, .string x.1.d, x.2] 72 (0, 0)) := by rw [hU]; exact heap_alloc_new w _
  have k0 : U.cell? ⟨w.heap.size, 0, none⟩ = some (.int .i64 x.1.c) := by simp [World.cell?, hblk]
  have k1 : U.cell? ⟨w.heap.size, 1, none⟩ = some (.string x.1.d) := by simp [World.cell?, hblk]
  have k2 : U.cell? ⟨w.heap.size, 2, none⟩ = some x.2 := by simp [World.cell?, hblk]
  have y4 : U.cell? ⟨a4, 0, none⟩ = some av := by simp [World.cell?, hW.h4]
  obtain ⟨v', w1, hr, hsl, h4w, hCV, hJV, hGV, hov⟩ := hW.app hJU x (hx.bel hBU) (by omega)
  have hs := store1_run (t := 50) h4w (j := 0) (v := v') (Nat.le_of_ble_eq_true rfl) Tryz.sizeAs hsl
  obtain ⟨V, hV⟩ : ∃ V, V = w1.setCell ⟨a4, 0, none⟩ v' := ⟨_, rfl⟩
  rw [← hV] at hs hCV hJV hGV
  have y5 : V.cell? ⟨a5, 0, none⟩ = some (.func (.func 121) #[] #[.pointer (some ⟨a4, 0, none⟩), .pointer (some ⟨a3, 0, none⟩), .pointer (some ⟨a1, 0, none⟩), .pointer (some ⟨a5, 0, none⟩), .pointer (some ⟨a2, 0, none⟩)]) := by simp [World.cell?, hCV.h5]
  have hGw : Gs (mu b a4 av) w V := (Gs.of_below _ hBU).trans hGV
  have hUs : w.heap.size ≤ U.heap.size := hBU.size
  have HN := hide (HC V v' hCV hJV hGw (by
    rcases hov with e | e
    · exact .inl e
    · exact .inr fun i hi => by rw [e] at hi; simp at hi; omega))
  have HU := hide hU
  rw [hu] at k2 HU
  rw [hu] at hr
  rw [hu]
  clear hW hJU hblk hCV hJV hGV hov hV hGw hUs h4w hsl hU hBU hJ h hx hX hl HC
  generalize x.1.c = cc at *
  generalize x.1.d = dd at *
  generalize x.1.l.length = ln at *
  go_enter Tryz.func123, Tryz.ntmps123
  go_upto_region 1 with fail
  rw [← HU.out]
  go_wp2_with (first | (at_builtin; refine Lib.wpList_append_run _ rfl _ _ _ _ rfl _ _ rfl rfl _ _ hr ?_) | (refine wpList_store_run rfl 50 _ _ rfl _ _ rfl rfl hs ?_))
  refine HN.out.mono ?_
  rintro e w2 ⟨rfl, hF⟩
  have HF := hide hF
  clear hF
  go_wp2
  go_end0
  exact ⟨rfl, HF.out⟩
end
/-- Blocks of P are the same in both. -/
def Sm (P : Nat → Prop) (w w1 : World) : Prop := w.heap.size ≤ w1.heap.size ∧ ∀ i, P i → i < w.heap.size → w1.heap[i]? = w.heap[i]?
theorem Sm.refl (P : Nat → Prop) (w : World) : Sm P w w := ⟨Nat.le_refl _, fun _ _ _ => rfl⟩
theorem Sm.trans {P : Nat → Prop} {w w1 w2 : World} (h : Sm P w w1) (h2 : Sm P w1 w2) : Sm P w w2 := ⟨Nat.le_trans h.1 h2.1, fun i hi hl => (h2.2 i hi (Nat.lt_of_lt_of_le hl h.1)).trans (h.2 i hi hl)⟩
theorem Sm.gs {P p : Nat → Prop} {w w1 w2 : World} (h : Sm P w w1) (hg : Gs p w1 w2) (hp : ∀ i, P i → ¬ p i) : Sm P w w2 := h.trans ⟨hg.size, fun i hi hl => hg.block i hl (hp i hi)⟩
theorem Sm.bel {P : Nat → Prop} {w w1 w2 : World} (h : Sm P w w1) (hb : Below w1.heap.size w1 w2) : Sm P w w2 := h.trans ⟨hb.size, fun i _ hl => hb.block i hl⟩
theorem Sm.mono {P P' : Nat → Prop} {w w1 : World} (h : Sm P w w1) (hp : ∀ i, P' i → P i) : Sm P' w w1 := ⟨h.1, fun i hi => h.2 i (hp i hi)⟩
/-- A job at block b, in blocks of P, behind the answers A, that asks what is left, and then is as Fin tells. -/
def JJ (b : Nat) (Fin : List RR → (Nat → Prop) → World → Prop) : List QT → List RR → (Nat → Prop) → World → Prop
  | [], A, P, w => P b ∧ (∀ i, P i → i < w.heap.size) ∧ Fin A P w
  | q :: rest, A, P, w => P b ∧ (∀ i, P i → i < w.heap.size) ∧ ∃ a4 a5, JB w b true q.st q.k q.n q.d (.func (.func 123) #[] #[.pointer (some ⟨a4, 0, none⟩), .pointer (some ⟨a5, 0, none⟩)]) 0 0 (.slice none 0 0) (.slice none 0 0) (A.length : Int) ∧
      ∀ (w1 V : World) (u' : Value) (x : RR), Sm P w w1 → GV w1 V b 0 0 (.slice none 0 0) (.slice none 0 0) (A.length : Int) u' x.l → (resI (A ++ [x])).length ≤ 1000000000000 → (∀ y ∈ x.l, y.size ≤ maxLen) →
        Calls Tryz.prog 123 #[.agg #[.int .i64 x.c, .string x.d, u'], .pointer (some ⟨a4, 0, none⟩), .pointer (some ⟨a5, 0, none⟩)] V fun e w' => e = .returned (.tuple #[]) ∧ RDY b (fun w2 => ∃ P', JJ b Fin rest (A ++ [x]) P' w2 ∧ Gs P w1 w2 ∧ ∀ i, P' i → P i ∨ w1.heap.size ≤ i) w'
/-- What the end of a job must be. -/
structure FK (b : Nat) (Fin : List RR → (Nat → Prop) → World → Prop) : Prop where
  gs : ∀ {A : List RR} {P p : Nat → Prop} {w w' : World}, Fin A P w → Gs p w w' → P b → (∀ i, P i → ¬ p i) → Fin A P w'
  j : ∀ {A : List RR} {P : Nat → Prop} {w : World}, Fin A P w → ∃ c N ids tx, JB w b false 0 0 ⟨#[]⟩ ⟨#[]⟩ .nilFunc c N ids tx (A.length : Int)
theorem RDY.mono {b : Nat} {Q Q' : World → Prop} {w : World} (h : RDY b Q w) (hq : ∀ w2, Q w2 → Q' w2) : RDY b Q' w := by
  rcases h with ⟨op, st, k, n, d, fn, fi, ca, c, N, ids, tx, s, hJ, h⟩ | ⟨op, st, k, n, d, c, N, ids, tx, s, hJ, h⟩
  · exact .inl ⟨op, st, k, n, d, fn, fi, ca, c, N, ids, tx, s, hJ, fun w3 h3 h4 => hq w3 (h w3 h3 h4)⟩
  · exact .inr ⟨op, st, k, n, d, c, N, ids, tx, s, hJ, fun w3 h3 h4 => hq w3 (h w3 h3 h4)⟩
section
variable {b : Nat} {Fin : List RR → (Nat → Prop) → World → Prop} {L rest : List QT} {A : List RR} {P p : Nat → Prop} {w w' : World}
theorem JJ.hb : ∀ {rest : List QT}, JJ b Fin rest A P w → P b
  | [], h => h.1
  | _ :: _, h => h.1
theorem JJ.lt : ∀ {rest : List QT}, JJ b Fin rest A P w → ∀ i, P i → i < w.heap.size
  | [], h => h.2.1
  | _ :: _, h => h.2.1
theorem JJ.gs (hF : FK b Fin) (hg : Gs p w w') (hp : ∀ i, P i → ¬ p i) : ∀ {rest : List QT}, JJ b Fin rest A P w → JJ b Fin rest A P w'
  | [], h => ⟨h.1, fun i hi => Nat.lt_of_lt_of_le (h.2.1 i hi) hg.size, hF.gs h.2.2 hg h.1 hp⟩
  | q :: rest, h => by
    obtain ⟨h1, h2, a4, a5, hJ, hC⟩ := h
    exact ⟨h1, fun i hi => Nat.lt_of_lt_of_le (h2 i hi) hg.size, a4, a5, hJ.gs hg (hp b h1), fun w1 V u' x hS => hC w1 V u' x (((Sm.refl P w).gs hg hp).trans hS)⟩
theorem jobJ (hF : FK b Fin) (hL : L.length ≤ 1000000) : JOB (fun A P w => A.length ≤ L.length ∧ JJ b Fin (L.drop A.length) A P w) L b := by
  refine ⟨fun h hg hp => ⟨h.1, h.2.gs hF hg hp⟩, fun h => h.2.lt, fun h => h.2.hb, fun h => h.1, ?_, ?_, ?_, ?_⟩
  · intro A P w q h hq
    have e : L.drop A.length = q :: L.drop (A.length + 1) := by
      obtain ⟨h1, rfl⟩ := List.getElem?_eq_some_iff.1 hq
      exact List.drop_eq_getElem_cons h1
    have h2 := h.2
    rw [e] at h2
    obtain ⟨_, _, a4, a5, hJ, _⟩ := h2
    exact next_on hJ
  · intro A P w h hA
    have h2 := h.2
    rw [hA, List.drop_length] at h2
    obtain ⟨c, N, ids, tx, hJ⟩ := hF.j h2.2.2
    exact next_off hJ
  · intro A P w h
    have h2 := h.2
    by_cases hlt : A.length < L.length
    · rw [List.drop_eq_getElem_cons hlt] at h2
      obtain ⟨_, _, a4, a5, hJ, _⟩ := h2
      rw [decide_eq_true hlt]
      exact over_any hJ
    · rw [List.drop_eq_nil_of_le (by omega)] at h2
      obtain ⟨c, N, ids, tx, hJ⟩ := hF.j h2.2.2
      rw [decide_eq_false hlt]
      exact over_any hJ
  · intro A P r0 w u ll cc dd h hA hu hr0 hll hI hsm
    have h2 := h.2
    rw [List.drop_eq_getElem_cons hA] at h2
    obtain ⟨hb, hlt, a4, a5, hJ, hC⟩ := h2
    refine (give_all hJ rfl hu hr0 hll (by omega) (by omega) cc dd fun V u' hGV => hC w V u' ⟨cc, dd, ll⟩ (Sm.refl _ _) hGV hI hsm).mono ?_
    rintro e w7 ⟨rfl, P', hJ', hG, hP'⟩
    refine ⟨rfl, P', ⟨by rw [List.length_append]; exact hA, ?_⟩, hG, hP'⟩
    rw [List.length_append]
    exact hJ'
end
section
variable {F : FuncId} {fi ca : Array Value} {b : Nat} {Fin : List RR → (Nat → Prop) → World → Prop} {l rest : List QT} {A0 : List RR} {e mu' r r0 : Nat → Prop} {w w0 : World} {a1 a2 a3 a4 a5 : Nat} {rv v : Value}
/-- What is done with the answers. -/
def KO (F : FuncId) (fi ca : Array Value) (b : Nat) (Fin : List RR → (Nat → Prop) → World → Prop) (n : Nat) (rest : List QT) (A0 : List RR) (e m : Nat → Prop) (w0 : World) : Prop :=
  ∀ (W : World) (av : Value) (X : List (RR × Value)) (r : Nat → Prop), Sm e w0 W → JB W b true 0 0 ⟨#[]⟩ ⟨#[]⟩ .nilFunc 0 0 (.slice none 0 0) (.slice none 0 0) ((A0.length + n : Nat) : Int) → LS x3 3 r W av X → (∀ x ∈ X, LS t1 1 r W x.2 x.1.l) → X.length = n → (resI (A0 ++ X.map (·.1))).length ≤ 1000000000000 → (∀ x ∈ X, ∀ y ∈ x.1.l, y.size ≤ maxLen) → (∀ i, r i → w0.heap.size ≤ i ∧ i < W.heap.size) →
    Calls Tryz.prog F (fi.push av ++ ca) W fun er w' => er = .returned (.tuple #[]) ∧ Gs (fun i => i = b ∨ m i) W w' ∧ RDY b (fun w2 => ∃ P', JJ b Fin rest (A0 ++ X.map (·.1)) P' w2 ∧ Gs (fun i => i = b ∨ m i) W w2 ∧ ∀ i, P' i → i = b ∨ e i ∨ r i ∨ W.heap.size ≤ i) w'
theorem cl_step (hent : Ent F) (hl : l.length ≤ 1000000) (heb : ¬ e b) (hme : ∀ i, mu' i → e i) (hel : ∀ i, e i → i < w0.heap.size) (hbl : b < w0.heap.size) (h4 : w0.heap.size ≤ a4) {m : Nat} {X : List (RR × Value)} {av : Value} {q : QT} (hXs : ∀ x ∈ X, ∀ y ∈ x.1.l, y.size ≤ maxLen) (hm : l.length = X.length + (m + 1)) (hq : l[X.length]? = some q) (hCL : CL r w b l X a1 a2 a3 a4 a5 (.func (.func F) fi ca) rv av) (hSe : Sm e w0 w) (hr : ∀ i, r i → w0.heap.size ≤ i) (ho : ∀ i, av.ownBlock = some i → w0.heap.size ≤ i)
    (hJ : JB w b true q.st q.k q.n q.d (.func (.func 123) #[] #[.pointer (some ⟨a4, 0, none⟩), .pointer (some ⟨a5, 0, none⟩)]) 0 0 (.slice none 0 0) (.slice none 0 0) ((A0.length + X.length : Nat) : Int))
    (ih : 0 < m → ∀ (X' : List (RR × Value)) (r : Nat → Prop) (w : World) (av : Value) (q : QT), (∀ x ∈ X', ∀ y ∈ x.1.l, y.size ≤ maxLen) → X'.length = X.length + 1 → l[X'.length]? = some q → CL r w b l X' a1 a2 a3 a4 a5 (.func (.func F) fi ca) rv av → Sm e w0 w → (∀ i, r i → w0.heap.size ≤ i) → (∀ i, av.ownBlock = some i → w0.heap.size ≤ i) →
      JB w b true q.st q.k q.n q.d (.func (.func 123) #[] #[.pointer (some ⟨a4, 0, none⟩), .pointer (some ⟨a5, 0, none⟩)]) 0 0 (.slice none 0 0) (.slice none 0 0) ((A0.length + X'.length : Nat) : Int) → JJ b Fin (l.drop X'.length ++ rest) (A0 ++ X'.map (·.1)) (fun i => i = b ∨ e i ∨ r i ∨ i = a4 ∨ av.ownBlock = some i) w)
    (HK : KO F fi ca b Fin l.length rest A0 e mu' w0) : JJ b Fin (l.drop X.length ++ rest) (A0 ++ X.map (·.1)) (fun i => i = b ∨ e i ∨ r i ∨ i = a4 ∨ av.ownBlock = some i) w := by
  have hws := hSe.1
  have e0 : l.drop X.length = q :: l.drop (X.length + 1) := by
    obtain ⟨h1, rfl⟩ := List.getElem?_eq_some_iff.1 hq
    exact List.drop_eq_getElem_cons h1
  rw [e0, List.cons_append]
  have hlen : (A0 ++ X.map (·.1)).length = A0.length + X.length := by simp
  refine ⟨.inl rfl, ?_, a4, a5, ?_, ?_⟩
  · rintro i (h | h | h | h | h)
    · omega
    · have := hel i h; omega
    · exact hCL.rl i h
    · rw [h]; exact lt_of_block hCL.h4
    · exact (hCL.o.lt i h).2
  · rw [hlen]; exact hJ
  intro w1 V u' x hS hGV hI hsm
  rw [hlen] at hGV
  have hJ1 : JB w1 b true q.st q.k q.n q.d (.func (.func 123) #[] #[.pointer (some ⟨a4, 0, none⟩), .pointer (some ⟨a5, 0, none⟩)]) 0 0 (.slice none 0 0) (.slice none 0 0) ((A0.length + X.length : Nat) : Int) := (hS.2 b (.inl rfl) hJ.lt).trans hJ
  have hC1 : CL r w1 b l X a1 a2 a3 a4 a5 (.func (.func F) fi ca) rv av := hCL.kb hS.1 (fun i hi hri => hS.2 i (.inr (.inr (.inl hri))) hi) (hS.2 a4 (.inr (.inr (.inr (.inl rfl)))) (lt_of_block hCL.h4)) (fun i hi => hS.2 i (.inr (.inr (.inr (.inr hi)))) (hCL.o.lt i hi).2)
  have hCV0 := hC1.gb hJ1 hGV.g
  have hSe1 : Sm e w0 w1 := hSe.trans (hS.mono fun i hi => .inr (.inl hi))
  have hSeV : Sm e w0 V := hSe1.gs hGV.g fun i hi hb => heb (hb ▸ hi)
  have hul := hGV.u.lt
  have hw1s := hS.1
  have hVs := hGV.g.size
  have h4l : a4 < w1.heap.size := lt_of_block hC1.h4
  have hCV : CL (fun i => r i ∨ u'.ownBlock = some i) V b l X a1 a2 a3 a4 a5 (.func (.func F) fi ca) rv av := hCV0.mono (fun i hi => .inl hi) (by
      rintro (h | h)
      · exact hCV0.nb h
      · have := (hul _ h).1; omega) (by
      rintro (h | h)
      · exact hCV0.n4 h
      · have := (hul _ h).1; omega) (by
      rintro i hi (h | h)
      · exact hCV0.no i hi h
      · have := (hul _ h).1; have := (hC1.o.lt i hi).2; omega) (by
      rintro i (h | h)
      · exact hCV0.rl i h
      · exact (hul _ h).2)
  have hrV : ∀ i, (r i ∨ u'.ownBlock = some i) → w0.heap.size ≤ i := by
    rintro i (h | h)
    · exact hr i h
    · have := (hul _ h).1; omega
  have hGe : ∀ i, e i → ¬ mu b a4 av i := by
    rintro i hi (h | h | h)
    · exact heb (h ▸ hi)
    · have := hel i hi; omega
    · have := hel i hi; have := ho i h; omega
  have hGP : ∀ {V2 : World}, Gs (mu b a4 av) V V2 → Gs (fun i => i = b ∨ e i ∨ r i ∨ i = a4 ∨ av.ownBlock = some i) w1 V2 := fun h => (hGV.g.mono fun i _ hi => .inl hi).trans (h.mono fun i _ hi => by
    rcases hi with h | h | h
    · exact .inl h
    · exact .inr (.inr (.inr (.inl h)))
    · exact .inr (.inr (.inr (.inr h))))
  refine take_gen hCV hGV.j (x, u') (hGV.u.ls fun i hi => .inr hi) (by omega) hl ?_
  intro V2 v' hC2 hJ2 hG2 hov
  have hA : A0 ++ (X ++ [(x, u')]).map (·.1) = A0 ++ X.map (·.1) ++ [x] := by simp
  have hxl : (X ++ [(x, u')]).length = X.length + 1 := by simp
  have hXs2 : ∀ y ∈ X ++ [(x, u')], ∀ z ∈ y.1.l, z.size ≤ maxLen := fun y hy => by
    rcases List.mem_append.1 hy with h | h
    · exact hXs y h
    · simp at h; subst h; exact hsm
  have hS2 : Sm e w0 V2 := hSeV.gs hG2 hGe
  have hV2s := hG2.size
  have ho2 : ∀ i, v'.ownBlock = some i → w0.heap.size ≤ i := fun i hi => by
    rcases hov with h | h
    · rw [h] at hi; exact ho i hi
    · have := h i hi; omega
  have hnew : ∀ i, v'.ownBlock = some i → av.ownBlock = some i ∨ w1.heap.size ≤ i := fun i hi => by
    rcases hov with h | h
    · rw [h] at hi; exact .inl hi
    · have := h i hi; exact .inr (by omega)
  by_cases hm0 : 0 < m
  · obtain ⟨q', hq'⟩ : ∃ q', l[(X ++ [(x, u')]).length]? = some q' := ⟨_, List.getElem?_eq_getElem (by rw [hxl]; omega)⟩
    refine (next_ask hC2 hJ2 hq').mono ?_
    rintro er w3 ⟨rfl, hJ3, hG3⟩
    refine ⟨rfl, .inl ⟨_, _, _, _, _, _, _, _, _, _, _, _, _, hJ3, fun w4 hJ4 hG4 => ?_⟩⟩
    have hC4 := (hC2.gb hJ2 hG3).gb hJ3 hG4
    have hS4 : Sm e w0 w4 := (hS2.gs hG3 fun i hi hb => heb (hb ▸ hi)).gs hG4 fun i hi hb => heb (hb ▸ hi)
    have hJ5 : JB w4 b true q'.st q'.k q'.n q'.d (.func (.func 123) #[] #[.pointer (some ⟨a4, 0, none⟩), .pointer (some ⟨a5, 0, none⟩)]) 0 0 (.slice none 0 0) (.slice none 0 0) ((A0.length + (X ++ [(x, u')]).length : Nat) : Int) := by
      have e1 : ((A0.length + (X ++ [(x, u')]).length : Nat) : Int) = ((A0.length + X.length : Nat) : Int) + 1 := by rw [hxl]; omega
      rw [e1]
      exact hJ4
    have hJJ := ih hm0 (X ++ [(x, u')]) _ w4 v' q' hXs2 hxl hq' hC4 hS4 hrV ho2 hJ5
    rw [hA, hxl] at hJJ
    refine ⟨_, hJJ, ((hGP hG2).trans (hG3.mono fun i _ hi => .inl hi)).trans (hG4.mono fun i _ hi => .inl hi), ?_⟩
    rintro i (h | h | (h | h) | h | h)
    · exact .inl (.inl h)
    · exact .inl (.inr (.inl h))
    · exact .inl (.inr (.inr (.inl h)))
    · exact .inr (hul _ h).1
    · exact .inl (.inr (.inr (.inr (.inl h))))
    · rcases hnew i h with h | h
      · exact .inl (.inr (.inr (.inr (.inr h))))
      · exact .inr h
  · have hfull : (X ++ [(x, u')]).length = l.length := by rw [hxl]; omega
    refine next_then hent hC2 hfull ((HK V2 v' (X ++ [(x, u')]) (fun i => (r i ∨ u'.ownBlock = some i) ∨ v'.ownBlock = some i) hS2 ?_ (hC2.o.ls x3_len fun i hi => .inr hi) (fun y hy => (hC2.ns y hy).mono fun i hi => .inl hi) hfull (by rw [hA]; exact hI) hXs2 ?_).mono ?_)
    · have e1 : ((A0.length + l.length : Nat) : Int) = ((A0.length + X.length : Nat) : Int) + 1 := by omega
      rw [e1]
      exact hJ2
    · rintro i (h | h)
      · exact ⟨hrV i h, hC2.rl i h⟩
      · exact ⟨ho2 i h, (hC2.o.lt i h).2⟩
    · rintro er w3 ⟨rfl, _, hR⟩
      refine ⟨rfl, hR.mono ?_⟩
      rintro w4 ⟨P', hJ', hG', hP'⟩
      have e1 : l.drop (X.length + 1) = [] := List.drop_eq_nil_of_le (by omega)
      rw [e1, List.nil_append, ← hA]
      refine ⟨P', hJ', (hGP hG2).trans (hG'.mono fun i _ hi => ?_), ?_⟩
      · rcases hi with h | h
        · exact .inl h
        · exact .inr (.inl (hme i h))
      · intro i hi
        rcases hP' i hi with h | h | ((h | h) | h) | h
        · exact .inl (.inl h)
        · exact .inl (.inr (.inl h))
        · exact .inl (.inr (.inr (.inl h)))
        · exact .inr (hul _ h).1
        · rcases hnew i h with h | h
          · exact .inl (.inr (.inr (.inr (.inr h))))
          · exact .inr h
        · exact .inr (by omega)
theorem cl_jj (hent : Ent F) (hl : l.length ≤ 1000000) (HK : KO F fi ca b Fin l.length rest A0 e mu' w0) (heb : ¬ e b) (hme : ∀ i, mu' i → e i) (hel : ∀ i, e i → i < w0.heap.size) (hbl : b < w0.heap.size) (h4 : w0.heap.size ≤ a4) :
    ∀ (m : Nat) (X : List (RR × Value)) (r : Nat → Prop) (w : World) (av : Value) (q : QT), (∀ x ∈ X, ∀ y ∈ x.1.l, y.size ≤ maxLen) → l.length = X.length + (m + 1) → l[X.length]? = some q → CL r w b l X a1 a2 a3 a4 a5 (.func (.func F) fi ca) rv av → Sm e w0 w → (∀ i, r i → w0.heap.size ≤ i) → (∀ i, av.ownBlock = some i → w0.heap.size ≤ i) →
      JB w b true q.st q.k q.n q.d (.func (.func 123) #[] #[.pointer (some ⟨a4, 0, none⟩), .pointer (some ⟨a5, 0, none⟩)]) 0 0 (.slice none 0 0) (.slice none 0 0) ((A0.length + X.length : Nat) : Int) → JJ b Fin (l.drop X.length ++ rest) (A0 ++ X.map (·.1)) (fun i => i = b ∨ e i ∨ r i ∨ i = a4 ∨ av.ownBlock = some i) w := by
  intro m
  induction m with
  | zero =>
    intro X r w av q hXs hm hq hCL hSe hr ho hJ
    exact cl_step hent hl heb hme hel hbl h4 hXs hm hq hCL hSe hr ho hJ (fun hX => absurd hX (by omega)) HK
  | succ m ih =>
    intro X r w av q hXs hm hq hCL hSe hr ho hJ
    exact cl_step hent hl heb hme hel hbl h4 hXs hm hq hCL hSe hr ho hJ (fun _ X' r' w' av' q' hs' hX' h1 h2 h3 h5 h6 h7 => ih X' r' w' av' q' hs' (by omega) h1 h2 h3 h5 h6 h7) HK
/-- A list is asked: All. -/
theorem all_jj (hent : Ent F) (hJ : JB w b true 0 0 ⟨#[]⟩ ⟨#[]⟩ .nilFunc 0 0 (.slice none 0 0) (.slice none 0 0) (A0.length : Int)) (hv : LS q4 4 r0 w v l) (hn : 0 < l.length) (hl : l.length ≤ 1000000) (HK : KO F fi ca b Fin l.length rest A0 e mu' w) (heb : ¬ e b) (hme : ∀ i, mu' i → e i) (hel : ∀ i, e i → i < w.heap.size) :
    Calls Tryz.prog 96 #[.pointer (some ⟨b, 0, none⟩), v, .func (.func F) fi ca] w fun er w' => er = .returned (.tuple #[]) ∧ Gs (fun i => i = b) w w' ∧ RDY b (fun w2 => ∃ P', JJ b Fin (l ++ rest) A0 P' w2 ∧ Gs (fun i => i = b) w w2 ∧ (∀ i, P' i → i = b ∨ e i ∨ w.heap.size ≤ i) ∧ (NT e w → NT P' w2)) w' := by
  refine all_any hJ hv hl (.func F) fi ca (Q := fun w' => Gs (fun i => i = b) w w' ∧ RDY b (fun w2 => ∃ P', JJ b Fin (l ++ rest) A0 P' w2 ∧ Gs (fun i => i = b) w w2 ∧ (∀ i, P' i → i = b ∨ e i ∨ w.heap.size ≤ i) ∧ (NT e w → NT P' w2)) w') ?_
  intro W a1 a2 a3 a4 a5 rv r hCL hJW hBW hr h4 h4l hNr
  obtain ⟨q, hq⟩ : ∃ q, l[0]? = some q := ⟨_, List.getElem?_eq_getElem hn⟩
  refine (next_ask hCL hJW (q := q) hq).mono ?_
  rintro er w2 ⟨rfl, hJ2, hG2⟩
  refine ⟨rfl, (Gs.of_below _ hBW).trans hG2, .inl ⟨_, _, _, _, _, _, _, _, _, _, _, _, _, hJ2, fun w3 hJ3 hG3 => ?_⟩⟩
  have hC3 := (hCL.gb hJW hG2).gb hJ2 hG3
  have hGW : Gs (fun i => i = b) w w3 := ((Gs.of_below _ hBW).trans hG2).trans hG3
  have hS3 : Sm e w w3 := (Sm.refl e w).gs hGW fun i hi hb => heb (hb ▸ hi)
  have h1 := cl_jj (rest := rest) hent hl HK heb hme hel hJ.lt h4 (l.length - 1) [] r w3 (.slice none 0 0) q (fun x hx => by simp at hx) (by simp; omega) hq hC3 hS3 hr (fun i hi => by simp [Value.ownBlock] at hi) hJ3
  simp only [List.length_nil, List.drop_zero, List.map_nil, List.append_nil] at h1
  refine ⟨_, h1, hGW, ?_, ?_⟩
  · rintro i (h | h | h | h | h)
    · exact .inl h
    · exact .inr (.inl h)
    · exact .inr (.inr (hr i h))
    · exact .inr (.inr (by omega))
    · simp [Value.ownBlock] at h
  · rintro hNe i (h | h | h | h | h)
    · rw [h]; exact ⟨_, _, hJ3, by simp [okT]⟩
    · obtain ⟨cs, T, g1, g2⟩ := hNe i h
      exact ⟨cs, T, (hS3.2 i h (hel i h)).trans g1, g2⟩
    · obtain ⟨cs, T, g1, g2⟩ := hNr i h
      have hib : ¬ i = b := fun e => hCL.nb (e ▸ h)
      have g3 := (hG2.block i (lt_of_block g1) hib).trans g1
      exact ⟨cs, T, (hG3.block i (lt_of_block g3) hib).trans g3, g2⟩
    · rw [h]; exact ⟨_, _, hC3.h4, by simp [okT]⟩
    · simp [Value.ownBlock] at h
end
end Go.Proofs.YtiecoplfiahpnaaGreat

namespace Go.Proofs.YtiecoplfiahpnaaGreat
open Go.RowKit Go.Lib Go.Maps
section
variable {α : Type} {f : α → List Value} {K : Nat}
theorem flat_set (hk : ∀ x, (f x).length = K) : ∀ (l : List α) (j k : Nat) (x x' : α) (v : Value), l[j]? = some x → k < K → f x' = (f x).set k v → (l.flatMap f).set (j * K + k) v = (l.set j x').flatMap f
  | [], _, _, _, _, _, h, _, _ => by simp at h
  | y :: r, 0, k, x, x', v, h, hk2, he => by
    simp at h
    subst h
    rw [List.flatMap_cons, List.set_cons_zero, List.flatMap_cons, he, Nat.zero_mul, Nat.zero_add, List.set_append_left _ _ (by rw [hk]; exact hk2)]
  | y :: r, j + 1, k, x, x', v, h, hk2, he => by
    simp at h
    rw [List.flatMap_cons, List.set_cons_succ, List.flatMap_cons, List.set_append_right _ _ (by rw [hk, Nat.add_mul, Nat.one_mul]; omega), hk, show (j + 1) * K + k - K = j * K + k from by rw [Nat.add_mul, Nat.one_mul]; omega, flat_set hk r j k x x' v h hk2 he]
end
/-- A make that was reckoned ahead. -/
theorem wpList_make_run {ops : Array Oper} {rest : List Oper} {op : Oper} {a : Act} {w w1 : World} {Q : Exit → Act → World → Prop} (hgd : op.guard = none) (ty : TypeId) (x y : Operand) (ho : op.op = .makeSlice ty x y)
    (p v u : Value) (hx : a.eval x = p) (hy : a.eval y = v) (hr : (Instr.makeSlice ty p v).run Tryz.prog w = .ok u w1)
    (h : wpList Tryz.prog ops Q rest (a.put op.dst u) w1) : wpList Tryz.prog ops Q (op :: rest) a w :=
  wpList_plain hgd fun _ hK => by
    unfold Oper.wp execOp
    simp only [ho, hx, hy, Sem.run_bind, Sem.run_pure, Result.andThen_ok, hr]
    exact hK _ _ h
/-- Requests in a block of their own. -/
def RQL (w : World) (g : Nat) (l : List QT) : Prop := w.heap[g]? = some (.cells (l.flatMap q4).toArray 65 (0, 0))
def q0 : QT := ⟨0, 0, ⟨#[]⟩, ⟨#[]⟩⟩
section
variable {w w' : World} {g j : Nat} {l : List QT} {q : QT} {r : Nat → Prop}
theorem RQL.lt (h : RQL w g l) : g < w.heap.size := lt_of_block h
theorem RQL.bel (h : RQL w g l) (hb : Below w.heap.size w w') : RQL w' g l := (hb.block g h.lt).trans h
theorem RQL.set (h : RQL w g l) (hq : l[j]? = some q) (k : Nat) (hk : k < 4) (v : Value) (q' : QT) (he : q4 q' = (q4 q).set k v) : RQL (w.setCell ⟨g, j * 4 + k, none⟩ v) g (l.set j q') := by
  have := heap_set_self (j := j * 4 + k) (u := v) h
  unfold RQL
  rw [← flat_set q4_len l j k q q' v hq hk he]
  simpa using this
theorem RQL.four (h : RQL w g l) (hq : l[j]? = some q) (p : QT) : RQL (w.setCells g (j * 4) [.int .i64 p.st, .int .i64 p.k, .string p.n, .string p.d]) g (l.set j p) := by
  have hl : j < l.length := (List.getElem?_eq_some_iff.1 hq).1
  simp only [World.setCells]
  have e1 := h.set hq 0 (by decide) (.int .i64 p.st) ⟨p.st, q.k, q.n, q.d⟩ rfl
  have e2 := e1.set (j := j) (q := ⟨p.st, q.k, q.n, q.d⟩) (by rw [List.getElem?_set_self hl]) 1 (by decide) (.int .i64 p.k) ⟨p.st, p.k, q.n, q.d⟩ rfl
  have e3 := e2.set (j := j) (q := ⟨p.st, p.k, q.n, q.d⟩) (by rw [List.getElem?_set_self (by simpa using hl)]) 2 (by decide) (.string p.n) ⟨p.st, p.k, p.n, q.d⟩ rfl
  have e4 := e3.set (j := j) (q := ⟨p.st, p.k, p.n, q.d⟩) (by rw [List.getElem?_set_self (by simpa using hl)]) 3 (by decide) (.string p.d) p rfl
  simp only [List.set_set] at e4
  exact e4
theorem RQL.cell (h : RQL w g l) (hq : l[j]? = some q) {k : Nat} (hk : k < 4) {v : Value} (hv : (q4 q)[k]? = some v) : w.cell? ⟨g, j * 4 + k, none⟩ = some v := by
  rw [cell_of_row w g _ _ _ _ h]
  simp only [List.getElem?_toArray]
  rw [flat_get q4_len l j k hk, hq]
  exact hv
theorem RQL.free (h : RQL w g l) (o : Nat) : w.frozen? ⟨g, o, none⟩ = false := by simp [World.frozen?, show w.heap[g]? = _ from h]
theorem RQL.gs (h : RQL w g l) (hr : r g) (c : Nat) : LS q4 4 r w (.slice (some ⟨g, 0, none⟩) l.length c) l := by
  refine ⟨_, _, rfl, (fun e => by cases e), .inr ⟨g, 0, rfl, hr, h.lt, fun i x hx k u hu => ?_⟩⟩
  rw [Nat.zero_add]
  exact h.cell hx (by rw [← q4_len x]; exact (List.getElem?_eq_some_iff.1 hu).1) hu
theorem made_q (n : Nat) : madeCells (Value.agg #[.int .i64 0, .int .i64 0, .string ⟨#[]⟩, .string ⟨#[]⟩]).cells (n * 4) = ((List.replicate n q0).flatMap q4).toArray := by
  apply Array.ext_getElem?
  intro i
  have hz : (Value.agg #[.int .i64 0, .int .i64 0, .string ⟨#[]⟩, .string ⟨#[]⟩]).cells = #[.int .i64 0, .int .i64 0, .string ⟨#[]⟩, .string ⟨#[]⟩] := rfl
  simp only [List.getElem?_toArray]
  have e : i = i / 4 * 4 + i % 4 := by omega
  have hm : i % 4 < 4 := Nat.mod_lt _ (by decide)
  conv => rhs; rw [e, flat_get q4_len _ _ _ hm, List.getElem?_replicate]
  rw [madeCells, hz, Array.getElem?_map]
  by_cases h : i < n * 4
  · rw [if_pos (by omega)]
    have : (Array.range (n * 4))[i]? = some i := by simp [h]
    rw [this]
    have h4 : i % 4 = 0 ∨ i % 4 = 1 ∨ i % 4 = 2 ∨ i % 4 = 3 := by omega
    rcases h4 with h4 | h4 | h4 | h4 <;> simp [h4, q4, q0]
  · rw [if_neg (by omega)]
    have : (Array.range (n * 4))[i]? = none := by simp; omega
    rw [this]
    rfl
theorem run_makeQ (n : Nat) (hn : n ≤ 255) (w : World) : ∃ W, (Instr.makeSlice 126 (.int .i64 (n : Int)) (.int .i64 (n : Int))).run Tryz.prog w = .ok (.slice (some ⟨w.heap.size, 0, none⟩) n n) W ∧ RQL W w.heap.size (List.replicate n q0) ∧ Below w.heap.size w W := by
  obtain ⟨i0, hi, hz0, hz1, hz2⟩ := info_parts Tryz.infoQ
  have hr := run_make (P := Tryz.prog) w 126 65 i0 _ Tryz.underlying126 hi hz0 .i64 .i64 (n : Int) (n : Int) (by omega) (Int.le_refl _) (by rw [hz2]; omega) (by omega)
  rw [hz1] at hr
  simp only [Int.toNat_natCast] at hr
  rw [made_q] at hr
  exact ⟨_, hr, heap_alloc_new w _, (Below.refl _ _).alloc (Nat.le_refl _) _⟩
theorem aq_at {k : Int} {nm d : ByteArray} {n j : Nat} (h : j < n) : (aq k nm d j ++ List.replicate (n - j) q0)[j]? = some q0 := by
  rw [List.getElem?_append_right (by rw [aq_len]; omega), aq_len, Nat.sub_self, List.getElem?_replicate, if_pos (by omega)]
theorem aq_set {k : Int} {nm d : ByteArray} {n j : Nat} (h : j < n) : (aq k nm d j ++ List.replicate (n - j) q0).set j ⟨(j : Int), k, nm, d⟩ = aq k nm d (j + 1) ++ List.replicate (n - (j + 1)) q0 := by
  rw [List.set_append_right _ _ (by rw [aq_len]; omega), aq_len, Nat.sub_self, show n - j = (n - (j + 1)) + 1 from by omega, List.replicate_succ, List.set_cons_zero, aq_snoc, List.append_assoc]
  rfl
set_option maxRecDepth 100000 in
theorem toAll_no {n st k : Int} {nm d : ByteArray} (h : n < 1 ∨ 255 < n) : Calls Tryz.prog 79 #[.int .i64 n, .agg #[.int .i64 st, .int .i64 k, .string nm, .string d]] w fun e w' => e = .returned (.slice none 0 0) ∧ Below w.heap.size w w' := by
  have HM := hide (mayBe_no (w := w.alloc (.cells #[.int .i64 st, .int .i64 k, .string nm, .string d] 65)) h)
  clear h
  go_enter Tryz.func79, Tryz.ntmps79
  go_wp2_with (go_at_call 85; refine HM.out.mono ?_; rintro e w1 ⟨rfl, rfl⟩)
  go_ret
  exact ⟨rfl, (Below.refl _ _).alloc (Nat.le_refl _) _⟩
set_option maxRecDepth 100000 in
set_option maxHeartbeats 3200000 in
theorem toAll_yes {n : Nat} {st k : Int} {nm d : ByteArray} (h1 : 1 ≤ n) (h2 : n ≤ 255) : Calls Tryz.prog 79 #[.int .i64 (n : Int), .agg #[.int .i64 st, .int .i64 k, .string nm, .string d]] w fun e w' => ∃ g, e = .returned (.slice (some ⟨g, 0, none⟩) n n) ∧ RQL w' g (aq k nm d n) ∧ w.heap.size ≤ g ∧ Below w.heap.size w w' := by
  obtain ⟨U, hU⟩ : ∃ U, U = w.alloc (.cells #[.int .i64 st, .int .i64 k, .string nm, .string d] 65) := ⟨_, rfl⟩
  obtain ⟨bx, hbx⟩ : ∃ bx, bx = w.heap.size := ⟨_, rfl⟩
  have hBU : Below w.heap.size w U := by rw [hU]; exact (Below.refl _ _).alloc (Nat.le_refl _) _
  have hblk : U.heap[bx]? = some (.cells #[.int .i64 st, .int .i64 k, .string nm, .string d] 65 (0, 0)) := by rw [hU, hbx]; exact heap_alloc_new w _
  have HM := hide (mayBe_yes (w := U) (n := (n : Int)) (by omega) (by omega))
  obtain ⟨W, hW, hR, hBW⟩ := run_makeQ n h2 U
  obtain ⟨g, hg⟩ : ∃ g, g = U.heap.size := ⟨_, rfl⟩
  rw [← hg] at hW hR
  have hgb : bx < g := by rw [hg]; exact lt_of_block hblk
  have H0 : Hid (RQL W g (aq k nm d 0 ++ List.replicate (n - 0) q0) ∧ W.heap[bx]? = some (.cells #[.int .i64 st, .int .i64 k, .string nm, .string d] 65 (0, 0)) ∧ Below w.heap.size w W) :=
    ⟨by simpa [aq] using hR, (hBW.block bx (lt_of_block hblk)).trans hblk, hBU.trans (hBW.mono hBU.size)⟩
  have HU := hide hU
  have Hbx := hide hbx
  have Hn := hide (And.intro h1 h2)
  have Hg := hide hg
  have Hgb := hide hgb
  clear hU hbx hBU hblk hR hBW hg hgb h1 h2
  go_enter Tryz.func79, Tryz.ntmps79
  go_upto_region 1 with fail
  rw [← HU.out, ← Hbx.out]
  go_wp2_with (first | (go_at_call 85; refine HM.out.mono ?_; rintro e w1 ⟨rfl, rfl⟩) | (refine wpList_make_run rfl 126 _ _ rfl _ _ _ rfl rfl hW ?_))
  go_loopw [14] (fun i wr => ∃ j : Nat, j ≤ n ∧ i = .int .i64 j ∧ RQL wr g (aq k nm d j ++ List.replicate (n - j) q0) ∧ wr.heap[bx]? = some (.cells #[.int .i64 st, .int .i64 k, .string nm, .string d] 65 (0, 0)) ∧ Below w.heap.size w wr) (fun i _ => n - (intOf i).toNat)
  case atStart => exact ⟨0, Nat.zero_le _, rfl, H0.out⟩
  case round =>
    obtain ⟨j, hj, rfl, hR, hb, hB⟩ := hrel
    have h2 := Hn.out.2
    by_cases hlt : j < n
    · have b1 : (j : Int) < (n : Int) := by omega
      have b0 : (0 : Int) ≤ (j : Int) := by omega
      have y0 : wr.cell? ⟨bx, 0, none⟩ = some (.int .i64 st) := by simp [World.cell?, hb]
      have y1 : wr.cell? ⟨bx, 1, none⟩ = some (.int .i64 k) := by simp [World.cell?, hb]
      have y2 : wr.cell? ⟨bx, 2, none⟩ = some (.string nm) := by simp [World.cell?, hb]
      have y3 : wr.cell? ⟨bx, 3, none⟩ = some (.string d) := by simp [World.cell?, hb]
      have hq0 := aq_at (k := k) (nm := nm) (d := d) hlt
      have hrun := store_run (t := 65) (o := j * 4) hR #[.int .i64 st, .int .i64 k, .string nm, .string d] (by simp [flat_len q4_len, aq_len]; omega) Tryz.sizeQ (by simp [Value.oneCell'])
      obtain ⟨V, hV⟩ : ∃ V, V = wr.setCells g (j * 4) [.int .i64 st, .int .i64 k, .string nm, .string d] := ⟨_, rfl⟩
      simp only [] at hrun
      rw [← hV] at hrun
      have hR1 : RQL V g ((aq k nm d j ++ List.replicate (n - j) q0).set j ⟨st, k, nm, d⟩) := by rw [hV]; exact hR.four hq0 ⟨st, k, nm, d⟩
      have hj2 : j < (aq k nm d j ++ List.replicate (n - j) q0).length := (List.getElem?_eq_some_iff.1 hq0).1
      have z0 : V.cell? ⟨g, j * 4, none⟩ = some (.int .i64 st) := hR1.cell (j := j) (q := ⟨st, k, nm, d⟩) (k := 0) (by rw [List.getElem?_set_self hj2]) (by decide) rfl
      have f0 := hR1.free (j * 4)
      have hR2 := hR1.set (j := j) (q := ⟨st, k, nm, d⟩) (by rw [List.getElem?_set_self hj2]) 0 (by decide) (.int .i64 (j : Int)) ⟨(j : Int), k, nm, d⟩ rfl
      rw [List.set_set, aq_set hlt] at hR2
      have HE : Hid (RQL (V.setCell ⟨g, j * 4, none⟩ (.int .i64 (j : Int))) g (aq k nm d (j + 1) ++ List.replicate (n - (j + 1)) q0) ∧ (V.setCell ⟨g, j * 4, none⟩ (.int .i64 (j : Int))).heap[bx]? = some (.cells #[.int .i64 st, .int .i64 k, .string nm, .string d] 65 (0, 0)) ∧ Below w.heap.size w (V.setCell ⟨g, j * 4, none⟩ (.int .i64 (j : Int)))) := by
        have hG0 : Gs (fun i => i = g) wr V := by rw [hV]; exact Gs.cells _ _ _ (Gs.refl _ _) (.inl rfl)
        have hG : Gs (fun i => i = g) wr (V.setCell ⟨g, j * 4, none⟩ (.int .i64 (j : Int))) := hG0.set1 _ _
        have hgb := Hgb.out
        have hx := Hbx.out
        exact ⟨hR2, (hG.block bx (lt_of_block hb) (by omega)).trans hb, hG.below hB hB.size (fun i e => by omega)⟩
      clear hR hb hB hq0 hV hR1 hj2 hR2
      go_wp2_with (refine wpList_store_run rfl 65 _ _ rfl _ _ rfl rfl hrun ?_)
      exact ⟨⟨j + 1, by omega, by go_num, HE.out⟩, by simp [intOf]; omega⟩
    · obtain rfl : j = n := by omega
      have HE : Hid (RQL wr g (aq k nm d j) ∧ w.heap.size ≤ g ∧ Below w.heap.size w wr) := by
        refine ⟨by simpa using hR, ?_, hB⟩
        have hgb := Hgb.out
        have hx := Hbx.out
        omega
      clear hR hb hB
      go_wp2
      go_ret
      exact ⟨g, rfl, HE.out⟩
end
end Go.Proofs.YtiecoplfiahpnaaGreat
