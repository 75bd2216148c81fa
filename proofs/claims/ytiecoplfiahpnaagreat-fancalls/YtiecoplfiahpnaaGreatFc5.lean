/-
  Contracts of the program and of the statements (part 5 of 13).
-/
import Derived.Test.YtiecoplfiahpnaaGreatFc4
import Derived.BigQuiet
import Derived.Deep.QuietTactic
import Derived.Deep.SlicePairs
import Derived.ProofKit
import Derived.OpenShut
import Derived.SizedLaws

namespace Go.Proofs.YtiecoplfiahpnaaGreat
open Go.RowKit Go.Lib Go.Maps
/-- A code, as a cell. -/
def c1 (c : Int) : List Value := [.int .i64 c]
theorem c1_len (c : Int) : (c1 c).length = 1 := rfl
theorem c1_one (c : Int) : ∀ u ∈ c1 c, u.oneCell' = true := by intro u hu; simp [c1] at hu; subst hu; rfl
theorem Tryz.infoC : (Tryz.prog.info? 26).map (fun i => (i.zero, i.size, i.bytes)) = some (some (.int .i64 0), 1, 8) := by kernel_rfl
/-- The first that is not passed over. -/
def frs (k : List Int) : List Int → Int
  | [] => 0
  | c :: r => if c = 0 ∨ c ∈ k then frs k r else c
/-- How many are OK. -/
def gds : List Int → Nat
  | [] => 0
  | c :: r => (if c = 0 then 1 else 0) + gds r
theorem gds_le : ∀ l : List Int, gds l ≤ l.length
  | [] => Nat.le_refl _
  | c :: r => by have := gds_le r; rw [gds, List.length_cons]; split <;> omega
theorem gds_snoc : ∀ (l : List Int) (c : Int), gds (l ++ [c]) = gds l + if c = 0 then 1 else 0
  | [], c => by simp [gds]
  | d :: r, c => by rw [List.cons_append, gds, gds, gds_snoc r]; omega
theorem drop_at {α : Type} {l : List α} {j : Nat} {x : α} (h : l[j]? = some x) : l.drop j = x :: l.drop (j + 1) := by
  obtain ⟨h1, rfl⟩ := List.getElem?_eq_some_iff.1 h
  exact List.drop_eq_getElem_cons h1
theorem frs_at {k l : List Int} {j : Nat} {c : Int} (h : l[j]? = some c) : frs k (l.drop j) = if c = 0 ∨ c ∈ k then frs k (l.drop (j + 1)) else c := by rw [drop_at h, frs]
theorem below_drew {B : Nat} {w w' : World} (h : Below B w w') (n : Nat) : Below B w (w'.drewN n) := ⟨h.os, h.tape, h.output, h.size, h.block⟩
section
variable {w : World} {lv kv : Value} {l k : List Int} {r r' : Nat → Prop}
theorem LS.at1 {α : Type} {f : α → List Value} {a : Option Addr} {n c : Nat} {L : List α} (h : LS f 1 r w (.slice a n c) L) {j : Nat} {x : α} {u : Value} (hx : L[j]? = some x) (hu : (f x)[0]? = some u) : ∃ g o, a = some ⟨g, o, none⟩ ∧ g < w.heap.size ∧ w.cell? ⟨g, o + j, none⟩ = some u := by
  obtain ⟨a', c', e, _, h2 | ⟨g, o, ea, _, hg, hG⟩⟩ := h
  · rw [h2] at hx; simp at hx
  · simp only [Value.slice.injEq] at e
    obtain ⟨rfl, rfl, rfl⟩ := e
    have := hG j x hx 0 u hu
    rw [Nat.mul_one, Nat.add_zero] at this
    exact ⟨g, o, ea, hg, this⟩
set_option maxRecDepth 100000 in
set_option maxHeartbeats 3200000 in
theorem rgood_any (hl : LS c1 1 r w lv l) (hn : l.length ≤ 4611686018427387904) :
    Calls Tryz.prog 60 #[lv] w fun e w' => e = .returned (.int .i64 ((gds l : Nat) : Int)) ∧ Below w.heap.size w w' := by
  obtain ⟨a, c, e⟩ := hl.shp
  subst e
  have HC : Hid (∀ j x, l[j]? = some x → ∃ g o, a = some ⟨g, o, none⟩ ∧ w.cell? ⟨g, o + j, none⟩ = some (.int .i64 x)) := fun j x hx => by
    obtain ⟨g, o, h1, _, h2⟩ := hl.at1 hx rfl
    exact ⟨g, o, h1, h2⟩
  obtain ⟨m, hm⟩ : ∃ m, m = l.length := ⟨_, rfl⟩
  rw [← hm] at hn ⊢
  have HM := hide hm
  clear hm hl
  go_enter Tryz.func60, Tryz.ntmps60
  go_wp2
  go_loopw [3, 4] (fun n i wr => ∃ j : Nat, j ≤ m ∧ n = .int .i64 ((gds (l.take j) : Nat) : Int) ∧ i = .int .i64 j ∧ wr = w) (fun _ i _ => m - (intOf i).toNat)
  case atStart => exact ⟨0, Nat.zero_le _, by rw [List.take_zero]; rfl, rfl, rfl⟩
  case round =>
    obtain ⟨j, hj, rfl, rfl, rfl⟩ := hrel
    have hgl := gds_le (l.take j)
    rw [List.length_take] at hgl
    by_cases hlt : j < m
    · have b1 : (j : Int) < (m : Int) := by omega
      have b0 : (0 : Int) ≤ (j : Int) := by omega
      obtain ⟨x, hx⟩ : ∃ x, l[j]? = some x := ⟨_, List.getElem?_eq_getElem (by rw [← HM.out]; exact hlt)⟩
      obtain ⟨g, o, rfl, z0⟩ := HC.out j x hx
      have hs := gds_snoc (l.take j) x
      rw [← take_snoc_at hx] at hs
      obtain ⟨G, hG⟩ : ∃ G, G = gds (l.take j) := ⟨_, rfl⟩
      rw [← hG] at hs hgl ⊢
      have HS := hide hs
      clear hs hG hx
      by_cases h0 : x = 0
      · go_wp2
        exact ⟨⟨j + 1, by omega, by rw [HS.out, if_pos h0]; go_num, by go_num, trivial⟩, by simp [intOf]; omega⟩
      · go_wp2
        exact ⟨⟨j + 1, by omega, by rw [HS.out, if_neg h0]; go_num, by go_num, trivial⟩, by simp [intOf]; omega⟩
    · obtain rfl : j = m := by omega
      have e : l.take j = l := List.take_of_length_le (by have := HM.out; omega)
      rw [e]
      go_wp2
      go_ret
      exact ⟨rfl, Below.refl _ _⟩
set_option maxRecDepth 100000 in
set_option maxHeartbeats 3200000 in
theorem rfirst_any (hl : LS c1 1 r w lv l) (hk : LS c1 1 r' w kv k) (hn : l.length ≤ 4611686018427387904) (hn2 : k.length ≤ 4611686018427387904) :
    Calls Tryz.prog 59 #[lv, kv] w fun e w' => e = .returned (.int .i64 (frs k l)) ∧ Below w.heap.size w w' := by
  obtain ⟨a, c, e⟩ := hl.shp
  subst e
  obtain ⟨a', c', e⟩ := hk.shp
  subst e
  have HC : Hid (∀ j x, l[j]? = some x → ∀ wr, Below w.heap.size w wr → ∃ g o, a = some ⟨g, o, none⟩ ∧ wr.cell? ⟨g, o + j, none⟩ = some (.int .i64 x)) := fun j x hx wr hb => by
    obtain ⟨g, o, h1, _, h2⟩ := (hl.bel hb).at1 hx rfl
    exact ⟨g, o, h1, h2⟩
  have HK : Hid (∀ j x, k[j]? = some x → ∀ wr, Below w.heap.size w wr → ∃ g o, a' = some ⟨g, o, none⟩ ∧ wr.cell? ⟨g, o + j, none⟩ = some (.int .i64 x)) := fun j x hx wr hb => by
    obtain ⟨g, o, h1, _, h2⟩ := (hk.bel hb).at1 hx rfl
    exact ⟨g, o, h1, h2⟩
  obtain ⟨m, hm⟩ : ∃ m, m = l.length := ⟨_, rfl⟩
  rw [← hm] at hn ⊢
  obtain ⟨t, ht⟩ : ∃ t, t = k.length := ⟨_, rfl⟩
  rw [← ht] at hn2 ⊢
  have HM := hide hm
  have HT := hide ht
  clear hm ht hl hk
  go_enter Tryz.func59, Tryz.ntmps59
  go_wp2
  go_loopw [5] (fun i wr => ∃ j : Nat, j ≤ m ∧ i = .int .i64 j ∧ frs k l = frs k (l.drop j) ∧ Below w.heap.size w wr) (fun i _ => m - (intOf i).toNat)
  case atStart => exact ⟨0, Nat.zero_le _, rfl, by rw [List.drop_zero], Below.refl _ _⟩
  case round =>
    obtain ⟨j, hj, rfl, hf, hB⟩ := hrel
    by_cases hlt : j < m
    · have b1 : (j : Int) < (m : Int) := by omega
      have b0 : (0 : Int) ≤ (j : Int) := by omega
      obtain ⟨x, hx⟩ : ∃ x, l[j]? = some x := ⟨_, List.getElem?_eq_getElem (by rw [← HM.out]; exact hlt)⟩
      obtain ⟨g, o, rfl, z0⟩ := HC.out j x hx wr hB
      rw [frs_at hx] at hf
      have HF := hide hf
      have HB := hide hB
      clear hf hB
      obtain ⟨sk, hsk⟩ : ∃ sk : Bool, sk = (x == 0) := ⟨_, rfl⟩
      go_wp2
      go_loopw [6, 7] (fun s i wx => ∃ q : Nat, q ≤ t ∧ i = .int .i64 q ∧ s = .bool (decide (x = 0 ∨ x ∈ k.take q)) ∧ Below w.heap.size w wx) (fun _ i _ => t - (intOf i).toNat)
      case atStart => exact ⟨0, Nat.zero_le _, rfl, by rw [List.take_zero]; by_cases e : x = 0 <;> simp [e], HB.out⟩
      case round =>
        obtain ⟨q, hq, rfl, rfl, hBx⟩ := hrel
        by_cases hqt : q < t
        · have b2 : (q : Int) < (t : Int) := by omega
          have b3 : (0 : Int) ≤ (q : Int) := by omega
          obtain ⟨y, hy⟩ : ∃ y, k[q]? = some y := ⟨_, List.getElem?_eq_getElem (by rw [← HT.out]; exact hqt)⟩
          obtain ⟨g2, o2, rfl, z1⟩ := HK.out q y hy _ hBx
          obtain ⟨g3, o3, e3, z2⟩ := HC.out j x hx _ hBx
          cases e3
          have hte := take_snoc_at hy
          have HBx := hide hBx
          clear hBx
          by_cases hs : x = 0 ∨ x ∈ k.take q
          · have d1 : decide (x = 0 ∨ x ∈ k.take q) = true := decide_eq_true hs
            have HD : Hid (decide (x = 0 ∨ x ∈ k.take (q + 1)) = true) := by
              show decide _ = true
              rw [hte]; apply decide_eq_true
              rcases hs with h | h
              · exact .inl h
              · exact .inr (List.mem_append_left _ h)
            rw [d1]
            clear hte d1 hs
            go_wp2
            go_quiet (fail)
            go_wp2
            exact ⟨⟨q + 1, by omega, by go_num, by rw [HD.out], below_drew HBx.out _⟩, by simp [intOf]; omega⟩
          · have d1 : decide (x = 0 ∨ x ∈ k.take q) = false := decide_eq_false hs
            have HD : Hid (decide (x = 0 ∨ x ∈ k.take (q + 1)) = (x == y)) := by
              show decide _ = _
              rw [hte]
              have h1 : (x = 0 ∨ x ∈ k.take q ++ [y]) ↔ x = y := by
                rw [List.mem_append, List.mem_singleton]
                exact ⟨fun h => by rcases h with h | h | h; exact absurd (.inl h) hs; exact absurd (.inr h) hs; exact h, fun h => .inr (.inr h)⟩
              by_cases e : x = y
              · rw [decide_eq_true (h1.2 e)]; simp [e]
              · rw [decide_eq_false fun h => e (h1.1 h)]; simp [e]
            rw [d1]
            clear hte d1 hs
            go_wp2
            go_quiet (fail)
            go_wp2
            exact ⟨⟨q + 1, by omega, by go_num, by rw [HD.out], below_drew HBx.out _⟩, by simp [intOf]; omega⟩
        · obtain rfl : q = t := by omega
          have e : k.take q = k := List.take_of_length_le (by have := HT.out; omega)
          rw [e]
          obtain ⟨g3, o3, e3, z2⟩ := HC.out j x hx _ hBx
          cases e3
          have HBx := hide hBx
          clear hBx
          by_cases hs : x = 0 ∨ x ∈ k
          · have hf := HF.out
            rw [if_pos hs] at hf
            rw [decide_eq_true hs]
            have HF2 := hide hf
            clear hf hs
            go_wp2
            exact ⟨⟨j + 1, by omega, by go_num, HF2.out, HBx.out⟩, by simp [intOf]; omega⟩
          · have hf := HF.out
            rw [if_neg hs] at hf
            rw [decide_eq_false hs]
            have HF2 := hide hf
            clear hf hs
            go_wp2
            go_ret
            exact ⟨by rw [HF2.out]; first | rfl | simp, HBx.out⟩
    · obtain rfl : j = m := by omega
      have e : l.drop j = [] := List.drop_eq_nil_of_le (by have := HM.out; omega)
      rw [e] at hf
      have HF := hide hf
      have HB := hide hB
      clear hf hB
      go_wp2
      go_ret
      exact ⟨by rw [HF.out]; rfl, HB.out⟩
end
section
variable {w w' : World} {v : Value} {l : List Int} {B : Nat}
/-- A code more. -/
theorem cpush (h : OW c1 1 26 B v l w) (c : Int) (hb : (l.length + 1) * 8 ≤ 140737488355328) (hB : B ≤ w.heap.size) :
    ∃ v' w', (Builtin.append_ #[49, 49] 49 #[v, .slice (some ⟨w.heap.size, 0, none⟩) 1 1]).run Tryz.prog (w.alloc (.cells #[.int .i64 c] 26)) = .ok v' w' ∧ OW c1 1 26 B v' (l ++ [c]) w' ∧ Gs (fun i => v.ownBlock = some i) w w' := by
  have hb0 : Below w.heap.size w (w.alloc (.cells #[.int .i64 c] 26)) := (Below.refl _ _).alloc (Nat.le_refl _) _
  obtain ⟨v', w', h1, h2, h3, h4⟩ := OW.app (ST := 49) (m := [c]) (r := fun _ => True) c1_len (by decide) (fun x _ => c1_one x) Tryz.underlying49 Tryz.infoC rfl (h.keep hb0) (LS.one c 26 w c1 1 _ trivial) (by simpa using hb) (by simp; omega) (by simp; omega)
  refine ⟨v', w', h1, h2, ⟨h3.os.trans hb0.os, h3.tape.trans hb0.tape, h3.output.trans hb0.output, Nat.le_trans hb0.size h3.size, fun i hi hn => ?_⟩⟩
  exact (h3.block i (Nat.lt_of_lt_of_le hi hb0.size) (fun e => hn e.symm)).trans (hb0.block i hi)
end
/-- The requests of a put at stores. -/
def pq (n : ByteArray) (ds : List ByteArray) : List QT := ds.mapIdx fun i d => ⟨(i : Int), 1, n, d⟩
theorem pq_snoc (n : ByteArray) (ds : List ByteArray) (d : ByteArray) : pq n (ds ++ [d]) = pq n ds ++ [⟨(ds.length : Int), 1, n, d⟩] := by rw [pq, List.mapIdx_concat]; rfl
theorem pq_len (n : ByteArray) (ds : List ByteArray) : (pq n ds).length = ds.length := by simp [pq]
/-- The requests of the same at so many stores. -/
def aq (k : Int) (n d : ByteArray) (m : Nat) : List QT := (List.range m).map fun i : Nat => ⟨(i : Int), k, n, d⟩
theorem aq_snoc (k : Int) (n d : ByteArray) (m : Nat) : aq k n d (m + 1) = aq k n d m ++ [⟨(m : Int), k, n, d⟩] := by rw [aq, List.range_succ, List.map_append]; rfl
theorem aq_len (k : Int) (n d : ByteArray) (m : Nat) : (aq k n d m).length = m := by simp [aq]
end Go.Proofs.YtiecoplfiahpnaaGreat

namespace Go.Proofs.YtiecoplfiahpnaaGreat
open Go.RowKit Go.Lib Go.Maps
section
variable {w w' : World} {lv kv av : Value} {l k : List Int} {r r' : Nat → Prop} {X : List (RR × Value)}
set_option maxRecDepth 100000 in
theorem mayBe_yes {n : Int} (h1 : 1 ≤ n) (h2 : n ≤ 255) : Calls Tryz.prog 85 #[.int .i64 n] w fun e w' => e = .returned (.bool true) ∧ w' = w := by
  go_enter Tryz.func85, Tryz.ntmps85
  go_wp2
  go_ret
  exact ⟨rfl, rfl⟩
set_option maxRecDepth 100000 in
theorem mayBe_no {n : Int} (h : n < 1 ∨ 255 < n) : Calls Tryz.prog 85 #[.int .i64 n] w fun e w' => e = .returned (.bool false) ∧ w' = w := by
  rcases h with h | h
  · have h1 : ¬ 1 ≤ n := by omega
    go_enter Tryz.func85, Tryz.ntmps85
    go_wp2
    go_ret
    exact ⟨rfl, rfl⟩
  · have h1 : 1 ≤ n := by omega
    have h2 : ¬ n ≤ 255 := by omega
    go_enter Tryz.func85, Tryz.ntmps85
    go_wp2
    go_ret
    exact ⟨rfl, rfl⟩
theorem mem_at {k : List Int} {x : Int} {j : Nat} : x ∈ k.take j → x ∈ k := List.mem_of_mem_take
set_option maxRecDepth 100000 in
set_option maxHeartbeats 3200000 in
theorem index_any (hk : LS c1 1 r w kv k) (x : Int) (hn : k.length ≤ 4611686018427387904) :
    Calls Tryz.prog 128 #[kv, .int .i64 x] w fun e w' => ∃ q : Int, e = .returned (.int .i64 q) ∧ (0 ≤ q ↔ x ∈ k) ∧ w' = w := by
  obtain ⟨a, c, e⟩ := hk.shp
  subst e
  have HC : Hid (∀ j y, k[j]? = some y → ∃ g o, a = some ⟨g, o, none⟩ ∧ w.cell? ⟨g, o + j, none⟩ = some (.int .i64 y)) := fun j y hy => by
    obtain ⟨g, o, h1, _, h2⟩ := hk.at1 hy rfl
    exact ⟨g, o, h1, h2⟩
  obtain ⟨m, hm⟩ : ∃ m, m = k.length := ⟨_, rfl⟩
  rw [← hm] at hn ⊢
  have HM := hide hm
  clear hm hk
  go_enter Tryz.func128, Tryz.ntmps128
  go_wp2
  go_loopw [8] (fun i wr => ∃ j : Nat, j ≤ m ∧ i = .int .i64 j ∧ x ∉ k.take j ∧ wr = w) (fun i _ => m - (intOf i).toNat)
  case atStart => exact ⟨0, Nat.zero_le _, rfl, by simp, rfl⟩
  case round =>
    obtain ⟨j, hj, rfl, hx0, rfl⟩ := hrel
    by_cases hlt : j < m
    · have b1 : (j : Int) < (m : Int) := by omega
      have b0 : (0 : Int) ≤ (j : Int) := by omega
      obtain ⟨y, hy⟩ : ∃ y, k[j]? = some y := ⟨_, List.getElem?_eq_getElem (by rw [← HM.out]; exact hlt)⟩
      obtain ⟨g, o, rfl, z0⟩ := HC.out j y hy
      by_cases h0 : x = y
      · have HE : Hid (x ∈ k) := by show x ∈ k; rw [h0]; exact List.mem_of_getElem? hy
        clear hx0 hy
        go_wp2
        go_ret
        exact ⟨j, rfl, ⟨fun _ => HE.out, fun _ => by omega⟩, rfl⟩
      · have HE : Hid (x ∉ k.take (j + 1)) := by show x ∉ k.take (j + 1); rw [take_snoc_at hy]; simp [hx0, h0]
        clear hx0 hy
        go_wp2
        exact ⟨⟨j + 1, by omega, by go_num, HE.out, trivial⟩, by simp [intOf]; omega⟩
    · obtain rfl : j = m := by omega
      have e : k.take j = k := List.take_of_length_le (by have := HM.out; omega)
      rw [e] at hx0
      have HE := hide hx0
      clear hx0 e
      go_wp2
      go_ret
      exact ⟨-1, rfl, ⟨fun h => by omega, fun h => absurd h HE.out⟩, rfl⟩
set_option maxRecDepth 100000 in
set_option maxHeartbeats 3200000 in
theorem contains_any (hk : LS c1 1 r w kv k) (x : Int) (hn : k.length ≤ 4611686018427387904) :
    Calls Tryz.prog 102 #[kv, .int .i64 x] w fun e w' => e = .returned (.bool (decide (x ∈ k))) ∧ w' = w := by
  have HI := hide (index_any hk x hn)
  obtain ⟨a, c, e⟩ := hk.shp
  subst e
  clear hk
  by_cases h : x ∈ k
  · rw [decide_eq_true h]
    have Hh := hide h
    clear h
    go_enter Tryz.func102, Tryz.ntmps102
    go_wp2_with fail
    refine HI.out.mono ?_
    rintro e w1 ⟨q, rfl, hq, rfl⟩
    have h1 : 0 ≤ q := hq.2 Hh.out
    clear hq
    go_wp2
    go_ret
    exact ⟨rfl, rfl⟩
  · rw [decide_eq_false h]
    have Hh := hide h
    clear h
    go_enter Tryz.func102, Tryz.ntmps102
    go_wp2_with fail
    refine HI.out.mono ?_
    rintro e w1 ⟨q, rfl, hq, rfl⟩
    have h1 : decide (0 ≤ q) = false := decide_eq_false fun h1 => Hh.out (hq.1 h1)
    clear hq
    go_wp2
    go_ret
    exact ⟨rfl, rfl⟩
set_option maxRecDepth 100000 in
set_option maxHeartbeats 3200000 in
theorem first_any (hl : LS c1 1 r w lv l) (hk : LS c1 1 r' w kv k) (hn : l.length ≤ 4611686018427387904) (hn2 : k.length ≤ 4611686018427387904) :
    Calls Tryz.prog 87 #[lv, kv] w fun e w' => e = .returned (.int .i64 (frs k l)) ∧ Below w.heap.size w w' := by
  obtain ⟨a, c, e⟩ := hl.shp
  subst e
  have HC : Hid (∀ j x, l[j]? = some x → ∀ wr, Below w.heap.size w wr → ∃ g o, a = some ⟨g, o, none⟩ ∧ wr.cell? ⟨g, o + j, none⟩ = some (.int .i64 x)) := fun j x hx wr hb => by
    obtain ⟨g, o, h1, _, h2⟩ := (hl.bel hb).at1 hx rfl
    exact ⟨g, o, h1, h2⟩
  have HK := hide hk
  obtain ⟨m, hm⟩ : ∃ m, m = l.length := ⟨_, rfl⟩
  rw [← hm] at hn ⊢
  have HM := hide hm
  clear hm hl hk
  go_enter Tryz.func87, Tryz.ntmps87
  go_wp2
  go_loopw [9] (fun i wr => ∃ j : Nat, j ≤ m ∧ i = .int .i64 j ∧ frs k l = frs k (l.drop j) ∧ Below w.heap.size w wr) (fun i _ => m - (intOf i).toNat)
  case atStart => exact ⟨0, Nat.zero_le _, rfl, by rw [List.drop_zero], Below.refl _ _⟩
  case round =>
    obtain ⟨j, hj, rfl, hf, hB⟩ := hrel
    by_cases hlt : j < m
    · have b1 : (j : Int) < (m : Int) := by omega
      have b0 : (0 : Int) ≤ (j : Int) := by omega
      obtain ⟨x, hx⟩ : ∃ x, l[j]? = some x := ⟨_, List.getElem?_eq_getElem (by rw [← HM.out]; exact hlt)⟩
      obtain ⟨g, o, rfl, z0⟩ := HC.out j x hx wr hB
      rw [frs_at hx] at hf
      have HF := hide hf
      have HB := hide hB
      have HK2 := hide (contains_any (HK.out.bel hB) x hn2)
      clear hf hB hx
      by_cases h0 : x = 0
      · go_wp2
        exact ⟨⟨j + 1, by omega, by go_num, by rw [HF.out, if_pos (.inl h0)], HB.out⟩, by simp [intOf]; omega⟩
      · by_cases h1 : x ∈ k
        · rw [decide_eq_true h1] at HK2
          have H1 := hide h1
          clear h1
          go_wp2_with (go_at_call 102; refine HK2.out.mono ?_; rintro e w1 ⟨rfl, rfl⟩)
          exact ⟨⟨j + 1, by omega, by go_num, by rw [HF.out, if_pos (.inr H1.out)], HB.out⟩, by simp [intOf]; omega⟩
        · rw [decide_eq_false h1] at HK2
          have H1 := hide h1
          clear h1
          go_wp2_with (go_at_call 102; refine HK2.out.mono ?_; rintro e w1 ⟨rfl, rfl⟩)
          go_ret
          exact ⟨by rw [HF.out, if_neg (fun h => by rcases h with h | h; exact h0 h; exact H1.out h)]; first | rfl | simp, HB.out⟩
    · obtain rfl : j = m := by omega
      have e : l.drop j = [] := List.drop_eq_nil_of_le (by have := HM.out; omega)
      rw [e] at hf
      have HF := hide hf
      have HB := hide hB
      clear hf hB
      go_wp2
      go_ret
      exact ⟨by rw [HF.out]; rfl, HB.out⟩
set_option maxRecDepth 100000 in
set_option maxHeartbeats 3200000 in
theorem codesOf_any (hL : LS x3 3 r w av X) (hS : ∀ x ∈ X, ∃ a n c, x.2 = .slice a n c) (hn : X.length ≤ 1000000) :
    Calls Tryz.prog 64 #[av] w fun e w' => ∃ v, e = .returned v ∧ OW c1 1 26 w.heap.size v (X.map (·.1.c)) w' ∧ Below w.heap.size w w' := by
  obtain ⟨a, c, rfl, h1, h2⟩ := hL
  have HC : Hid (∀ j x, X[j]? = some x → ∀ wr, Below w.heap.size w wr → ∃ g o, a = some ⟨g, o, none⟩ ∧ wr.cell? ⟨g, o + j * 3, none⟩ = some (.int .i64 x.1.c) ∧ wr.cell? ⟨g, o + j * 3 + 1, none⟩ = some (.string x.1.d) ∧ wr.cell? ⟨g, o + j * 3 + 2, none⟩ = some x.2) := fun j x hx wr hb => by
    rcases h2 with h2 | ⟨g, o, ea, hr, hg, hG⟩
    · rw [h2] at hx; simp at hx
    · exact ⟨g, o, ea, (hb.cell (p := ⟨g, o + j * 3, none⟩) hg).trans (hG j x hx 0 _ rfl), (hb.cell (p := ⟨g, o + j * 3 + 1, none⟩) hg).trans (hG j x hx 1 _ rfl), (hb.cell (p := ⟨g, o + j * 3 + 2, none⟩) hg).trans (hG j x hx 2 _ rfl)⟩
  obtain ⟨m, hm⟩ : ∃ m, m = X.length := ⟨_, rfl⟩
  rw [← hm] at hn ⊢
  have HM := hide hm
  have HS := hide hS
  clear hm h1 h2 hS
  go_enter Tryz.func64, Tryz.ntmps64
  go_wp2
  go_loopw [3, 8] (fun v i wr => ∃ j : Nat, j ≤ m ∧ i = .int .i64 j ∧ OW c1 1 26 w.heap.size v ((X.take j).map (·.1.c)) wr ∧ Below w.heap.size w wr) (fun _ i _ => m - (intOf i).toNat)
  case atStart => exact ⟨0, Nat.zero_le _, rfl, by rw [List.take_zero]; exact OW.nil _ _ _ _ _, Below.refl _ _⟩
  case round =>
    obtain ⟨j, hj, rfl, hO, hB⟩ := hrel
    by_cases hlt : j < m
    · have b1 : (j : Int) < (m : Int) := by omega
      have b0 : (0 : Int) ≤ (j : Int) := by omega
      obtain ⟨x, hx⟩ : ∃ x, X[j]? = some x := ⟨_, List.getElem?_eq_getElem (by rw [← HM.out]; exact hlt)⟩
      obtain ⟨g, o, rfl, z0, z1, z2⟩ := HC.out j x hx _ hB
      have hsx := HS.out x (List.mem_of_getElem? hx)
      obtain ⟨xr, xu⟩ := x
      obtain ⟨ua, un, uc, hu⟩ := hsx
      dsimp only at hu z0 z1 z2
      subst hu
      obtain ⟨cc, hcc⟩ : ∃ cc, cc = xr.c := ⟨_, rfl⟩
      obtain ⟨dd, hdd⟩ : ∃ dd, dd = xr.d := ⟨_, rfl⟩
      rw [← hcc] at z0
      rw [← hdd] at z1
      obtain ⟨n5, hn5⟩ : ∃ n5, n5 = wr.heap.size := ⟨_, rfl⟩
      obtain ⟨Zw, hZw⟩ : ∃ Zw, Zw = wr.alloc (.cells #[.int .i64 cc, .string dd, .slice ua un uc] 72) := ⟨_, rfl⟩
      have hZB : Below wr.heap.size wr Zw := by rw [hZw]; exact (Below.refl _ _).alloc (Nat.le_refl _) _
      have hblk : Zw.heap[n5]? = some (.cells #[.int .i64 cc, .string dd, .slice ua un uc] 72 (0, 0)) := by rw [hZw, hn5]; exact heap_alloc_new wr _
      have k0 : Zw.cell? ⟨n5, 0, none⟩ = some (.int .i64 cc) := by simp [World.cell?, hblk]
      obtain ⟨v2, w2, hr1, hO2, hG2⟩ := cpush (hO.keep hZB) cc (by rw [List.length_map, List.length_take]; omega) (Nat.le_trans hB.size hZB.size)
      have HE : Hid (OW c1 1 26 w.heap.size v2 ((X.take (j + 1)).map (·.1.c)) w2 ∧ Below w.heap.size w w2) := by
        refine ⟨?_, hG2.below (hB.trans (hZB.mono hB.size)) (Nat.le_trans hB.size hZB.size) fun i e => (hO.lt i e).1⟩
        rw [take_snoc_at hx, List.map_append]
        show OW c1 1 26 w.heap.size v2 ((X.take j).map (·.1.c) ++ [xr.c]) w2
        rw [← hcc]
        exact hO2
      have HZw := hide hZw
      have Hn5 := hide hn5
      clear hO hB hO2 hG2 hZw hn5 hZB hblk hcc hdd hx
      go_upto_region 5 with fail
      rw [← HZw.out, ← Hn5.out]
      go_wp2_with (at_builtin; refine Lib.wpList_append_run _ rfl _ _ _ _ rfl _ _ rfl rfl _ _ hr1 ?_)
      exact ⟨⟨j + 1, by omega, by go_num, HE.out⟩, by simp [intOf]; omega⟩
    · obtain rfl : j = m := by omega
      have e : X.take j = X := List.take_of_length_le (by have := HM.out; omega)
      rw [e] at hO
      have HE := hide (And.intro hO hB)
      clear hO hB
      go_wp2
      go_ret
      exact ⟨_, rfl, HE.out⟩
/-- Where an outcome stands. -/
structure OC (w wr : World) (X0 Y : Nat) (C N : Int) : Prop where
  r : R7 wr Y C N (.slice none 0 0) (.slice none 0 0)
  z : R7 wr X0 0 0 (.slice none 0 0) (.slice none 0 0)
  be : Below X0 w wr
  le : X0 < Y
theorem OC.set2 {wr : World} {X0 Y : Nat} {C N : Int} (h : OC w wr X0 Y C N) (N' : Int) : OC w (wr.setCell ⟨Y, 2, none⟩ (.int .i64 N')) X0 Y C N' := by
  have hle := h.le
  have hlt := h.r.lt
  refine ⟨heap_set_self h.r, (heap_setCell_other wr ⟨Y, 2, none⟩ X0 _ (by show X0 ≠ Y; omega)).trans h.z, ?_, hle⟩
  exact ((Gs.refl (fun i => i = Y) wr).set1 _ _).below h.be (by have := h.z.lt; omega) (fun i e => by omega)
set_option maxRecDepth 100000 in
set_option maxHeartbeats 3200000 in
theorem outcome_any (hl : LS c1 1 r w lv l) (hk : LS c1 1 r' w kv k) (hn : l.length ≤ 1000000) (hn2 : k.length ≤ 1000000) :
    Calls Tryz.prog 56 #[lv, kv] w fun e w' => e = .returned (.agg #[.int .i64 (frs k l), .string ⟨#[]⟩, .int .i64 ((gds l : Nat) : Int), .slice none 0 0, .slice none 0 0, .slice none 0 0, .slice none 0 0]) ∧ Below w.heap.size w w' := by
  obtain ⟨a, c, e⟩ := hl.shp
  obtain ⟨U, hU⟩ : ∃ U, U = w.alloc (.cells #[.int .i64 0, .string ⟨#[]⟩, .int .i64 0, .slice none 0 0, .slice none 0 0, .slice none 0 0, .slice none 0 0] 56) := ⟨_, rfl⟩
  obtain ⟨X0, hX⟩ : ∃ X0, X0 = w.heap.size := ⟨_, rfl⟩
  have hBU : Below w.heap.size w U := by rw [hU]; exact (Below.refl _ _).alloc (Nat.le_refl _) _
  have hZ : R7 U X0 0 0 (.slice none 0 0) (.slice none 0 0) := by rw [hU, hX]; exact heap_alloc_new w _
  have HF := hide (first_any (hl.bel hBU) (hk.bel hBU) (by omega) (by omega))
  subst e
  have HC : Hid (∀ j x, l[j]? = some x → ∀ wr, Below w.heap.size w wr → ∃ g o, a = some ⟨g, o, none⟩ ∧ wr.cell? ⟨g, o + j, none⟩ = some (.int .i64 x)) := fun j x hx wr hb => by
    obtain ⟨g, o, h1, _, h2⟩ := (hl.bel hb).at1 hx rfl
    exact ⟨g, o, h1, h2⟩
  obtain ⟨m, hm⟩ : ∃ m, m = l.length := ⟨_, rfl⟩
  obtain ⟨C, hC⟩ : ∃ C, C = frs k l := ⟨_, rfl⟩
  obtain ⟨N, hN⟩ : ∃ N, N = ((gds l : Nat) : Int) := ⟨_, rfl⟩
  rw [← hm] at hn HF ⊢
  rw [← hC] at HF ⊢
  rw [← hN]
  have HM := hide hm
  have HN := hide hN
  have HU := hide hU
  have HX := hide hX
  have HZ := hide (And.intro hBU hZ)
  clear hm hl hk hC hN hU hX hBU hZ
  go_enter Tryz.func56, Tryz.ntmps56
  go_upto_region 1 with fail
  rw [← HU.out, ← HX.out]
  go_wp2_with fail
  refine HF.out.mono ?_
  rintro e w1 ⟨rfl, hB1⟩
  obtain ⟨W, hW⟩ : ∃ W, W = w1.alloc (.cells #[.int .i64 C, .string ⟨#[]⟩, .int .i64 0, .slice none 0 0, .slice none 0 0, .slice none 0 0, .slice none 0 0] 56) := ⟨_, rfl⟩
  obtain ⟨Y, hY⟩ : ∃ Y, Y = w1.heap.size := ⟨_, rfl⟩
  have HO0 : Hid (OC w W X0 Y C 0) := by
    have hb := HZ.out.1.trans (hB1.mono HZ.out.1.size)
    refine ⟨by rw [hW, hY]; exact heap_alloc_new w1 _, ?_, ?_, ?_⟩
    · refine ((HZ.out.2.bel hB1).bel (w' := W) ?_)
      rw [hW]; exact (Below.refl _ _).alloc (Nat.le_refl _) _
    · rw [HX.out, hW]; exact hb.alloc hb.size _
    · rw [hY]; exact (HZ.out.2.bel hB1).lt
  have HW := hide hW
  have HY := hide hY
  clear hW hY hB1
  go_upto_region 2 with fail
  rw [← HW.out, ← HY.out]
  go_wp2
  go_loopw [14] (fun i wr => ∃ j : Nat, j ≤ m ∧ i = .int .i64 j ∧ OC w wr X0 Y C ((gds (l.take j) : Nat) : Int)) (fun i _ => m - (intOf i).toNat)
  case atStart => exact ⟨0, Nat.zero_le _, rfl, by rw [List.take_zero]; exact HO0.out⟩
  case round =>
    obtain ⟨j, hj, rfl, hO⟩ := hrel
    have hgl := gds_le (l.take j)
    rw [List.length_take] at hgl
    have HO := hide hO
    by_cases hlt : j < m
    · have b1 : (j : Int) < (m : Int) := by omega
      have b0 : (0 : Int) ≤ (j : Int) := by omega
      obtain ⟨x, hx⟩ : ∃ x, l[j]? = some x := ⟨_, List.getElem?_eq_getElem (by rw [← HM.out]; exact hlt)⟩
      obtain ⟨g, o, rfl, z0⟩ := HC.out j x hx wr (by rw [← HX.out]; exact hO.be)
      have hs := gds_snoc (l.take j) x
      rw [← take_snoc_at hx] at hs
      obtain ⟨G, hG⟩ : ∃ G, G = gds (l.take j) := ⟨_, rfl⟩
      rw [← hG] at hs hgl HO
      have HS := hide hs
      have y2 : wr.cell? ⟨Y, 2, none⟩ = some (.int .i64 (G : Int)) := HO.out.r.cell 2
      have f2 := HO.out.r.free 2
      clear hs hG hx hO
      by_cases h0 : x = 0
      · have HE : Hid (OC w (wr.setCell ⟨Y, 2, none⟩ (.int .i64 ((G : Int) + 1))) X0 Y C ((gds (l.take (j + 1)) : Nat) : Int)) := by
          have := HO.out.set2 ((G : Int) + 1)
          show OC _ _ _ _ _ _
          rw [HS.out, if_pos h0]
          exact this
        go_wp2
        exact ⟨⟨j + 1, by omega, by go_num, HE.out⟩, by simp [intOf]; omega⟩
      · have HE : Hid (OC w wr X0 Y C ((gds (l.take (j + 1)) : Nat) : Int)) := by
          show OC _ _ _ _ _ _
          rw [HS.out, if_neg h0]
          exact HO.out
        go_wp2
        exact ⟨⟨j + 1, by omega, by go_num, HE.out⟩, by simp [intOf]; omega⟩
    · obtain rfl : j = m := by omega
      have e : l.take j = l := List.take_of_length_le (by have := HM.out; omega)
      rw [e, ← HN.out] at hO
      have HO := hide hO
      have c0 : wr.cell? ⟨Y, 0, none⟩ = some (.int .i64 C) := hO.r.cell 0
      have c1 : wr.cell? ⟨Y, 1, none⟩ = some (.string ⟨#[]⟩) := hO.r.cell 1
      have c2 : wr.cell? ⟨Y, 2, none⟩ = some (.int .i64 N) := hO.r.cell 2
      have c3 : wr.cell? ⟨Y, 3, none⟩ = some (.slice none 0 0) := hO.r.cell 3
      have c4 : wr.cell? ⟨Y, 4, none⟩ = some (.slice none 0 0) := hO.r.cell 4
      have c5 : wr.cell? ⟨Y, 5, none⟩ = some (.slice none 0 0) := hO.r.cell 5
      have c6 : wr.cell? ⟨Y, 6, none⟩ = some (.slice none 0 0) := hO.r.cell 6
      have hrun := store_run (t := 56) (o := 0) hO.z #[.int .i64 C, .string ⟨#[]⟩, .int .i64 N, .slice none 0 0, .slice none 0 0, .slice none 0 0, .slice none 0 0] (Nat.le_of_ble_eq_true rfl) Tryz.sizeR (by simp [Value.oneCell'])
      obtain ⟨V, hV⟩ : ∃ V, V = wr.setCells X0 0 [.int .i64 C, .string ⟨#[]⟩, .int .i64 N, .slice none 0 0, .slice none 0 0, .slice none 0 0, .slice none 0 0] := ⟨_, rfl⟩
      have hRY : R7 V X0 C N (.slice none 0 0) (.slice none 0 0) := by
        have h1 := setCells_self [.int .i64 C, .string ⟨#[]⟩, .int .i64 N, .slice none 0 0, .slice none 0 0, .slice none 0 0, .slice none 0 0] 0 wr _ hO.z
        rw [← hV] at h1
        simpa [putAll, R7] using h1
      simp only [] at hrun
      rw [← hV] at hrun
      have HE : Hid (Below w.heap.size w V) := by
        have hGY2 : Gs (fun i => i = X0) wr V := by rw [hV]; exact Gs.cells _ _ _ (Gs.refl _ _) (.inl rfl)
        show Below w.heap.size w V
        rw [← HX.out]
        exact hGY2.below hO.be (by have := hO.z.lt; omega) (fun i e => by omega)
      have r0 : V.cell? ⟨X0, 0, none⟩ = some (.int .i64 C) := hRY.cell 0
      have r1 : V.cell? ⟨X0, 1, none⟩ = some (.string ⟨#[]⟩) := hRY.cell 1
      have r2 : V.cell? ⟨X0, 2, none⟩ = some (.int .i64 N) := hRY.cell 2
      have r3 : V.cell? ⟨X0, 3, none⟩ = some (.slice none 0 0) := hRY.cell 3
      have r4 : V.cell? ⟨X0, 4, none⟩ = some (.slice none 0 0) := hRY.cell 4
      have r5 : V.cell? ⟨X0, 5, none⟩ = some (.slice none 0 0) := hRY.cell 5
      have r6 : V.cell? ⟨X0, 6, none⟩ = some (.slice none 0 0) := hRY.cell 6
      have b1 : ¬ (j : Int) < (j : Int) := by omega
      clear hV hRY hO e
      go_wp2_with (refine wpList_store_run rfl 56 _ _ rfl _ _ rfl rfl hrun ?_)
      exact bodyPost_ret (v := .agg #[.int .i64 C, .string ⟨#[]⟩, .int .i64 N, .slice none 0 0, .slice none 0 0, .slice none 0 0, .slice none 0 0]) (by simp [results, Tryz.results56, go_sem, r0, r1, r2, r3, r4, r5, r6]) rfl ⟨rfl, HE.out⟩
end
end Go.Proofs.YtiecoplfiahpnaaGreat

namespace Go.Proofs.YtiecoplfiahpnaaGreat
open Go.ChangeShapes Go.WideShapes Go.ChangeAt Go.RowKit Go.Lib
theorem Tryz.own : ownKnob Tryz.prog.godebug = none := by kernel_rfl
theorem Tryz.laidOut : laidOutB Tryz.prog = true := by kernel_rfl
theorem Tryz.cI : Tryz.prog.cellsOf 3 = 1 := by kernel_rfl
theorem Tryz.bI : Tryz.prog.bytesOf 3 = 8 := by kernel_rfl
theorem ints_of {H : Type} {enc : TypeId × Value → H} {w : World} {a : Option Addr} {len cap : Nat} {d : DataW H} {ps : List MemPlace}
    (h : DataW.Trod enc Tryz.prog w 0 (fun _ => true) true 67 (.slice a len cap) d ps) : ∃ l : List Int, LS c1 1 (fun _ => True) w (.slice a len cap) l ∧ (l = [] ∨ ∃ elems spare, d = .slice elems spare ∧ l.length ≤ elems.length + spare.length) := by
  obtain ⟨fuel, hf⟩ := h
  rcases open_ints Tryz.underlying67 Tryz.underlying3 Tryz.cI hf with ⟨hcs, hy⟩ | ⟨x, l, c, zs, hcs, _, hlc, hcm, hz, hy, hcell, hwz⟩
  · simp [Value.cells] at hcs
    obtain ⟨rfl, rfl, rfl⟩ := hcs
    exact ⟨[], ⟨_, _, rfl, fun _ => rfl, .inl rfl⟩, .inl rfl⟩
  · simp [Value.cells] at hcs
    obtain ⟨rfl, rfl, rfl⟩ := hcs
    simp only [if_true] at hz
    by_cases h0 : len = 0
    · subst h0
      exact ⟨[], ⟨_, _, rfl, (fun e => by cases e), .inl rfl⟩, .inl rfl⟩
    have hlen : (zs.take len).length = len := by rw [List.length_take]; omega
    refine ⟨zs.take len, ⟨some x, cap, by rw [hlen], (fun e => by cases e), .inr ?_⟩, .inr ⟨_, _, by simpa using congrArg Prod.fst hy, ?_⟩⟩
    · obtain ⟨b, off, spot⟩ := x
      have hc := hcell 0 (by omega)
      have hspot : spot = none := by simpa [Addr.add] using World.cell?_spot hc
      subst hspot
      refine ⟨b, off, rfl, trivial, World.block_lt_of_cell? _ _ hc, fun i y hy j u hu => ?_⟩
      have hj : j = 0 := by
        have := (List.getElem?_eq_some_iff.1 hu).1
        rw [c1_len] at this; omega
      subst hj
      have hi : i < len := by have := (List.getElem?_eq_some_iff.1 hy).1; omega
      have hci := hcell i (by omega)
      rw [Addr.add_mid] at hci
      rw [List.getElem?_take, if_pos hi] at hy
      rw [Nat.mul_one, Nat.add_zero]
      have hu' : u = .int .i64 y := by simpa [c1] using hu.symm
      rw [hu']
      rw [hci, List.getD_eq_getElem?_getD, hy]
      rfl
    · simp [lits]
theorem Tryz.cS : Tryz.prog.cellsOf 9 = 1 := by kernel_rfl
set_option maxRecDepth 100000 in
theorem texts_of {H : Type} {enc : TypeId × Value → H} {w : World} {fuel : Nat} {v : Value} {y : DataW H × List MemPlace}
    (h : DataW.trod enc Tryz.prog w 0 (fun _ => true) true fuel 33 [v] = some y) : ∃ (a : Option Addr) (c : Nat) (ll : List ByteArray), v = .slice a ll.length c ∧ LS t1 1 (fun _ => True) w v ll ∧ ll.length ≤ c ∧ ll.length ≤ 9223372036854775807 ∧ (∀ x ∈ ll, x.size ≤ maxLen) ∧ (ll = [] ∨ ∃ elems spare, y.1 = .slice elems spare ∧ ll.length ≤ elems.length + spare.length) := by
  rcases Go.Deep.open_slice Tryz.underlying33 h with ⟨hcs, hy⟩ | ⟨x, len, c, m, n, D, Pl, hcs, _, hlc, hcm, hm, hy, hx⟩
  · simp at hcs
    subst hcs
    exact ⟨none, 0, [], rfl, ⟨_, _, rfl, fun _ => rfl, .inl rfl⟩, Nat.le_refl _, Nat.zero_le _, fun x hx => (by simp at hx), .inl rfl⟩
  · simp at hcs
    subst hcs
    simp only [if_true] at hm
    subst hm
    by_cases h0 : len = 0
    · subst h0
      exact ⟨some x, m, [], rfl, ⟨_, _, rfl, (fun e => by cases e), .inl rfl⟩, Nat.zero_le _, Nat.zero_le _, fun x hx => (by simp at hx), .inl rfl⟩
    have hall : ∀ i, i < len → ∃ s : ByteArray, w.cell? (x.add i) = some (.string s) ∧ s.size ≤ maxLen := by
      intro i hi
      obtain ⟨cs', h1, h2⟩ := hx i (by omega)
      rw [Tryz.cS] at h1
      obtain ⟨_, hlen, hcell⟩ := World.cells?_some h1
      match cs', hlen with
      | [v0], _ =>
        have e0 := hcell 0 (by omega)
        rw [Go.Deep.add_add] at e0
        obtain ⟨s, u, _, hs⟩ := DataW.trod_string Tryz.underlying9 h2
        simp only [List.cons.injEq, and_true] at u
        subst u
        exact ⟨s, by simpa using e0, hs⟩
    have : Inhabited ByteArray := ⟨⟨#[]⟩⟩
    obtain ⟨X, hX⟩ := Go.Deep.choose_lt hall
    obtain ⟨b, off, spot⟩ := x
    have hc := (hX 0 (by omega)).1
    have hspot : spot = none := by simpa [Addr.add] using World.cell?_spot hc
    subst hspot
    refine ⟨some ⟨b, off, none⟩, m, (List.range len).map X, by simp, ⟨some ⟨b, off, none⟩, m, by simp, (fun e => by cases e), .inr ⟨b, off, rfl, trivial, World.block_lt_of_cell? _ _ hc, fun i y hy' j u hu => ?_⟩⟩, by simpa using hlc, by simp [maxLen] at hcm; simp; omega, ?_, .inr ?_⟩
    · rw [List.getElem?_map] at hy'
      obtain ⟨k, hk, rfl⟩ := Option.map_eq_some_iff.1 hy'
      have hi : i < len := by
        have := (List.getElem?_eq_some_iff.1 hk).1
        simpa using this
      rw [List.getElem?_range hi] at hk
      cases hk
      have c0 := (hX i hi).1
      have hj : j = 0 := by
        have := (List.getElem?_eq_some_iff.1 hu).1
        rw [t1_len] at this; omega
      subst hj
      rw [Addr.add_mid] at c0
      rw [Nat.mul_one, Nat.add_zero, c0]
      simpa [t1] using hu
    · intro x hx
      obtain ⟨i, hi, rfl⟩ := List.mem_map.1 hx
      exact (hX i (List.mem_range.1 hi)).2
    · exact ⟨_, _, by rw [hy], by simp⟩
end Go.Proofs.YtiecoplfiahpnaaGreat

namespace Go.Proofs.YtiecoplfiahpnaaGreat
open Go.RowKit Go.Lib Go.Maps

/-- A request in memory, and a place for an answer behind it. -/
structure QR (w : World) (X : Nat) (st k : Int) (n d : ByteArray) : Prop where
  q : w.heap[X]? = some (.cells #[.int .i64 st, .int .i64 k, .string n, .string d] 65 (0, 0))
  r : w.heap[X + 1]? = some (.cells #[.int .i64 0, .string ⟨#[]⟩, .slice none 0 0] 72 (0, 0))
section
variable {w w1 : World} {v : Value} {bs : List Nat} {i b X : Nat} {s s' : SS} {st k C : Int} {n d D : ByteArray} {l : List ByteArray} {p : Nat → Prop}
theorem QR.gs (h : QR w X st k n d) (hg : Gs p w w1) (h1 : ¬ p X) (h2 : ¬ p (X + 1)) : QR w1 X st k n d := ⟨(hg.block _ (lt_of_block h.q) h1).trans h.q, (hg.block _ (lt_of_block h.r) h2).trans h.r⟩
theorem QR.c0 (h : QR w X st k n d) : w.cell? ⟨X, 0, none⟩ = some (.int .i64 st) := by simp [World.cell?, h.q]
theorem QR.c1 (h : QR w X st k n d) : w.cell? ⟨X, 1, none⟩ = some (.int .i64 k) := by simp [World.cell?, h.q]
theorem QR.c2 (h : QR w X st k n d) : w.cell? ⟨X, 2, none⟩ = some (.string n) := by simp [World.cell?, h.q]
theorem QR.c3 (h : QR w X st k n d) : w.cell? ⟨X, 3, none⟩ = some (.string d) := by simp [World.cell?, h.q]
theorem QR.new (w : World) (st k : Int) (n d : ByteArray) : QR ((w.alloc (.cells #[.int .i64 st, .int .i64 k, .string n, .string d] 65)).alloc (.cells #[.int .i64 0, .string ⟨#[]⟩, .slice none 0 0] 72)) w.heap.size st k n d := by
  refine ⟨by rw [Below.heap_alloc _ _ _ (by simp)]; exact heap_alloc_new w _, ?_⟩
  have := heap_alloc_new (w.alloc (.cells #[.int .i64 st, .int .i64 k, .string n, .string d] 65)) (.cells #[.int .i64 0, .string ⟨#[]⟩, .slice none 0 0] 72 (0, 0))
  simpa using this

theorem RD.far (h : RD w b s) {g j : Nat} {q : Option Addr} (hy : w.cell? ⟨g, j, none⟩ = some (.pointer q)) : g ≠ b := by
  intro e
  subst e
  obtain ⟨v, h1, h2⟩ := h
  have h1' : w.heap[g]? = some (.cells #[.int .i64 s.q, .int .i64 s.f, .int .i64 s.m, .bool s.off, v] 45 (0, 0)) := h1
  have hv : ∃ a n c, v = .slice a n c := by rcases h2.src with ⟨e, _⟩ | ⟨g, c, e, _⟩ <;> exact ⟨_, _, _, e⟩
  obtain ⟨a, n, c, rfl⟩ := hv
  simp only [World.cell?, h1'] at hy
  match j with
  | 0 => simp at hy
  | 1 => simp at hy
  | 2 => simp at hy
  | 3 => simp at hy
  | 4 => simp at hy
  | _ + 5 => simp at hy
theorem laid3_cell {g g' j : Nat} (hg : g ≠ g') (x y z : Value) : (laid3 w g' x y z).cell? ⟨g, j, none⟩ = w.cell? ⟨g, j, none⟩ := by
  simp only [World.cell?, laid3_other x y z hg]

set_option maxRecDepth 100000 in
set_option maxHeartbeats 3200000 in
theorem ranswer_in (hP : RP w v bs) (hb : bs[i]? = some b) (hD : RD w b s) (hL : Ris s.L) (hs : ∀ p ∈ s.L, p.n.size ≤ 96 ∧ p.d.size ≤ 131072) (k : Int) (n d : ByteArray) (hn : n.size ≤ maxLen) (hd : d.size ≤ maxLen) (hl : s.L.length ≤ 90000) (hm0 : 0 ≤ s.m) (hm1 : s.m ≤ 1000000000000) (hf : s.f ≤ 1048576) :
    Calls Tryz.prog 50 #[v, .agg #[.int .i64 (i : Int), .int .i64 k, .string n, .string d]] w fun e w' => ∃ v, e = .returned v ∧ AR w' w.heap.size v (doR s k n d) ∧ RD w' b (doS s k n d) ∧ Gs (fun j => j = b) w w' := by
  obtain ⟨a, c, rfl, h⟩ := hP
  obtain ⟨g, o, rfl, hg, hC⟩ := h.resolve_left (by intro e; rw [e] at hb; simp at hb)
  have hib : i < bs.length := (List.getElem?_eq_some_iff.1 hb).1
  have y0 := hC i b hb
  obtain ⟨N, hN⟩ : ∃ N, N = bs.length := ⟨_, rfl⟩
  rw [← hN] at hib ⊢
  obtain ⟨U, hU⟩ : ∃ U, U = (w.alloc (.cells #[.int .i64 (i : Int), .int .i64 k, .string n, .string d] 65)).alloc (.cells #[.int .i64 0, .string ⟨#[]⟩, .slice none 0 0] 72) := ⟨_, rfl⟩
  obtain ⟨X, hX⟩ : ∃ X, X = w.heap.size := ⟨_, rfl⟩
  have hBU : Below w.heap.size w U := by rw [hU]; exact ((Below.refl _ _).alloc (Nat.le_refl _) _).alloc (by simp) _
  have hq : QR U X (i : Int) k n d := by rw [hU, hX]; exact QR.new _ _ _ _ _
  have hq' : QR U.drew X (i : Int) k n d := ⟨hq.q, hq.r⟩
  have hszU : U.heap.size = X + 2 := by rw [hU, hX]; simp
  have z0 := (hBU.cell (p := ⟨g, o + i, none⟩) hg).trans y0
  have z0' : U.drew.cell? ⟨g, o + i, none⟩ = some (.pointer (some ⟨b, 0, none⟩)) := z0
  have x0 := hq.c0
  have v0 := hq'.c0
  have v1 := hq'.c1
  have v2 := hq'.c2
  have v3 := hq'.c3
  have HD : Hid _ := hide (rdo_any (w := U.drew) ((hD.bel hBU).bel ((Below.refl _ _).drew)) hL hs (i : Int) k n d hn hd hl hm0 hm1 hf)
  have hblt := hD.lt
  have HGB : Hid (g ≠ b ∧ g ≠ X + 1 ∧ g < U.drew.heap.size) := by
    refine ⟨hD.far y0, by omega, ?_⟩
    show g < U.heap.size
    omega
  have HBX : Hid (X ≠ b ∧ X + 1 ≠ b) := by show X ≠ b ∧ X + 1 ≠ b; omega
  have HB : Hid (Gs (fun j => j = b) w U.drew) := (Gs.of_below _ hBU).trans ((Gs.refl _ _).bel ((Below.refl _ _).drew))
  have HU := hide hU
  have HX := hide hX
  have HQ := hide hq'
  have HSZ : Hid (U.drew.heap.size = X + 2) := hszU
  have b1 : (i : Int) < (N : Int) := by omega
  have b0 : (0 : Int) ≤ (i : Int) := by omega
  have HWX : Hid (w.heap.size ≤ X) := by show w.heap.size ≤ X; omega
  obtain ⟨C, D, l, hr⟩ : ∃ C D l, doR s k n d = ⟨C, D, l⟩ := ⟨_, _, _, rfl⟩
  rw [hr] at HD ⊢
  obtain ⟨s', hs'⟩ : ∃ s', s' = doS s k n d := ⟨_, rfl⟩
  rw [← hs'] at HD ⊢
  clear hq hq' hBU hC h hb hN hU hX y0 hD hL hs hszU hblt hr hs'
  go_enter Tryz.func50, Tryz.ntmps50
  go_upto_region 1 with fail
  rw [← HU.out, ← HX.out]
  go_upto_region 3 with fail
  go_region_held3 (fun w' => w'.cell? ⟨X, 0, none⟩ = some (.int .i64 (i : Int)) ∧ w'.cell? ⟨X, 1, none⟩ = some (.int .i64 k) ∧ w'.cell? ⟨X, 2, none⟩ = some (.string n) ∧ w'.cell? ⟨X, 3, none⟩ = some (.string d) ∧ w'.cell? ⟨g, o + i, none⟩ = some (.pointer (some ⟨b, 0, none⟩))) (first | assumption | exact ⟨by assumption, by assumption, by assumption, by assumption, by assumption⟩ | exact ⟨v0, v1, v2, v3, z0'⟩ | exact HS5.out)
    (first | (go_at_call 83; refine HD.out.mono ?_; rintro e w1 ⟨u, rfl, hA, hD1, hG1⟩; obtain ⟨a1, c1, rfl, hT1⟩ := hA.shp; have hQ1 := HQ.out.gs hG1 HBX.out.1 HBX.out.2; have t0 := hQ1.c0; have t1 := hQ1.c1; have t2 := hQ1.c2; have t3 := hQ1.c3; have hset := set3 hQ1.r (.int .i64 C) (.string D) (.slice a1 l.length c1); have p1 := hset.1.1; have p2 := hset.1.2; have p3 := hset.2.1.1; have p4 := hset.2.1.2; have p5 := hset.2.2.1.1; have p6 := hset.2.2.1.2; have tz : w1.cell? ⟨g, o + i, none⟩ = some (.pointer (some ⟨b, 0, none⟩)) := (by simp only [World.cell?, hG1.block g HGB.out.2.2 HGB.out.1] : w1.cell? ⟨g, o + i, none⟩ = U.drew.cell? ⟨g, o + i, none⟩).trans z0'; have HS5 : Hid ((laid3 w1 (X + 1) (.int .i64 C) (.string D) (.slice a1 l.length c1)).cell? ⟨X, 0, none⟩ = some (.int .i64 (i : Int)) ∧ (laid3 w1 (X + 1) (.int .i64 C) (.string D) (.slice a1 l.length c1)).cell? ⟨X, 1, none⟩ = some (.int .i64 k) ∧ (laid3 w1 (X + 1) (.int .i64 C) (.string D) (.slice a1 l.length c1)).cell? ⟨X, 2, none⟩ = some (.string n) ∧ (laid3 w1 (X + 1) (.int .i64 C) (.string D) (.slice a1 l.length c1)).cell? ⟨X, 3, none⟩ = some (.string d) ∧ (laid3 w1 (X + 1) (.int .i64 C) (.string D) (.slice a1 l.length c1)).cell? ⟨g, o + i, none⟩ = some (.pointer (some ⟨b, 0, none⟩))) := ⟨(laid3_cell (by omega) _ _ _).trans t0, (laid3_cell (by omega) _ _ _).trans t1, (laid3_cell (by omega) _ _ _).trans t2, (laid3_cell (by omega) _ _ _).trans t3, (laid3_cell HGB.out.2.1 _ _ _).trans tz⟩; have hf4 := hset.2.2.2; have HF : Hid _ := hide (And.intro hT1 (And.intro hD1 (And.intro hG1 hQ1))); clear hT1 hD1 hG1 hQ1 hset))
  obtain ⟨hT1, hD1, hG1, hQ1⟩ := HF.out
  have HE : Hid (∃ v', Ending.returned (.agg #[.int .i64 C, .string D, .slice a1 l.length c1]) = .returned v' ∧ AR (laid3 w1 (X + 1) (.int .i64 C) (.string D) (.slice a1 l.length c1)) w.heap.size v' ⟨C, D, l⟩ ∧ RD (laid3 w1 (X + 1) (.int .i64 C) (.string D) (.slice a1 l.length c1)) b s' ∧ Gs (fun j => j = b) w (laid3 w1 (X + 1) (.int .i64 C) (.string D) (.slice a1 l.length c1))) := by
    have hsz := HSZ.out
    rw [hsz] at hT1
    refine ⟨_, rfl, ⟨_, rfl, ?_⟩, hD1.laid hQ1.r (fun e => HBX.out.2 e.symm) _ _ _, (HB.out.trans hG1).laid (by have := HWX.out; omega) _ _ _⟩
    exact (hT1.kb fun i hi => laid3_other _ _ _ (by have := (hT1.lt i hi).1; omega)).low (by have := HWX.out; omega)
  have r0 : (((w1.setCell ⟨X + 1, 0, none⟩ (.int .i64 C)).setCell ⟨X + 1, 1, none⟩ (.string D)).setCell ⟨X + 1, 2, none⟩ (.slice a1 l.length c1)).cell? ⟨X + 1, 0, none⟩ = some (.int .i64 C) := by simp [World.cell?, hf4]
  have r1 : (((w1.setCell ⟨X + 1, 0, none⟩ (.int .i64 C)).setCell ⟨X + 1, 1, none⟩ (.string D)).setCell ⟨X + 1, 2, none⟩ (.slice a1 l.length c1)).cell? ⟨X + 1, 1, none⟩ = some (.string D) := by simp [World.cell?, hf4]
  have r2 : (((w1.setCell ⟨X + 1, 0, none⟩ (.int .i64 C)).setCell ⟨X + 1, 1, none⟩ (.string D)).setCell ⟨X + 1, 2, none⟩ (.slice a1 l.length c1)).cell? ⟨X + 1, 2, none⟩ = some (.slice a1 l.length c1) := by simp [World.cell?, hf4]
  clear hT1 hD1 hG1 hQ1 HF HS5 hf4 p1 p2 p3 p4 p5 p6 t0 t1 t2 t3 tz v0 v1 v2 v3
  go_wp2
  exact bodyPost_ret (v := .agg #[.int .i64 C, .string D, .slice a1 l.length c1]) (by simp [results, Tryz.results50, go_sem, r0, r1, r2]) rfl HE.out
set_option maxRecDepth 100000 in
set_option maxHeartbeats 3200000 in
theorem ranswer_out (hP : RP w v bs) (st k : Int) (n d : ByteArray) (hst : st < 0 ∨ (bs.length : Int) ≤ st) :
    Calls Tryz.prog 50 #[v, .agg #[.int .i64 st, .int .i64 k, .string n, .string d]] w fun e w' => e = .returned (.agg #[.int .i64 1, .string ⟨#[]⟩, .slice none 0 0]) ∧ Below w.heap.size w w' := by
  obtain ⟨a, c, rfl, _⟩ := hP
  obtain ⟨N, hN⟩ : ∃ N, N = bs.length := ⟨_, rfl⟩
  rw [← hN] at hst ⊢
  clear hN
  by_cases h0 : st < 0
  · go_enter Tryz.func50, Tryz.ntmps50
    go_wp2
    exact bodyPost_ret (v := .agg #[.int .i64 1, .string ⟨#[]⟩, .slice none 0 0]) (by simp [results, Tryz.results50, go_sem]) rfl ⟨rfl, ((Below.refl _ _).alloc (Nat.le_refl _) _).alloc (by simp) _⟩
  · have h1 : (N : Int) ≤ st := by omega
    have h2 : (0 : Int) ≤ st := by omega
    go_enter Tryz.func50, Tryz.ntmps50
    go_wp2
    exact bodyPost_ret (v := .agg #[.int .i64 1, .string ⟨#[]⟩, .slice none 0 0]) (by simp [results, Tryz.results50, go_sem]) rfl ⟨rfl, ((Below.refl _ _).alloc (Nat.le_refl _) _).alloc (by simp) _⟩
end
end Go.Proofs.YtiecoplfiahpnaaGreat

namespace Go.Proofs.YtiecoplfiahpnaaGreat
open Go.RowKit Go.Lib Go.Maps
theorem Gs.und {p : Nat → Prop} {w w' : World} (h : Gs p w.drew w') : Gs p w w' := ⟨h.os, h.tape, h.output, h.size, h.block⟩
/-- What the closures of All keep. -/
structure CL (r : Nat → Prop) (w : World) (b : Nat) (l : List QT) (X : List (RR × Value)) (a1 a2 a3 a4 a5 : Nat) (tv rv av : Value) : Prop where
  h1 : w.heap[a1]? = some (.cells #[.pointer (some ⟨b, 0, none⟩)] 48 (0, 0))
  h2 : w.heap[a2]? = some (.cells #[tv] 113 (0, 0))
  h3 : w.heap[a3]? = some (.cells #[rv] 126 (0, 0))
  h4 : w.heap[a4]? = some (.cells #[av] 50 (0, 0))
  h5 : w.heap[a5]? = some (.cells #[.func (.func 121) #[] #[.pointer (some ⟨a4, 0, none⟩), .pointer (some ⟨a3, 0, none⟩), .pointer (some ⟨a1, 0, none⟩), .pointer (some ⟨a5, 0, none⟩), .pointer (some ⟨a2, 0, none⟩)]] 1 (0, 0))
  q : LS q4 4 r w rv l
  o : OW x3 3 72 0 av X w
  ns : ∀ x ∈ X, LS t1 1 r w x.2 x.1.l
  r1 : r a1
  r2 : r a2
  r3 : r a3
  r5 : r a5
  nb : ¬ r b
  n4 : ¬ r a4
  no : ∀ i, av.ownBlock = some i → ¬ r i
  rl : ∀ i, r i → i < w.heap.size
section
variable {r r' p : Nat → Prop} {w w' : World} {b a1 a2 a3 a4 a5 : Nat} {l : List QT} {X : List (RR × Value)} {tv rv av : Value} {st k s c N : Int} {n d : ByteArray} {go ids tx : Value} {op : Bool}
theorem CL.kb (h : CL r w b l X a1 a2 a3 a4 a5 tv rv av) (hs : w.heap.size ≤ w'.heap.size) (hk : ∀ i, i < w.heap.size → r i → w'.heap[i]? = w.heap[i]?) (h4 : w'.heap[a4]? = w.heap[a4]?) (ho : ∀ i, av.ownBlock = some i → w'.heap[i]? = w.heap[i]?) : CL r w' b l X a1 a2 a3 a4 a5 tv rv av :=
  ⟨(hk a1 (lt_of_block h.h1) h.r1).trans h.h1, (hk a2 (lt_of_block h.h2) h.r2).trans h.h2, (hk a3 (lt_of_block h.h3) h.r3).trans h.h3, h4.trans h.h4, (hk a5 (lt_of_block h.h5) h.r5).trans h.h5, h.q.kb hs fun i hr hi => hk i hi hr, h.o.kb ho, fun x hx => (h.ns x hx).kb hs fun i hr hi => hk i hi hr, h.r1, h.r2, h.r3, h.r5, h.nb, h.n4, h.no, fun i hi => Nat.lt_of_lt_of_le (h.rl i hi) hs⟩
theorem CL.bel (h : CL r w b l X a1 a2 a3 a4 a5 tv rv av) (hb : Below w.heap.size w w') : CL r w' b l X a1 a2 a3 a4 a5 tv rv av :=
  h.kb hb.size (fun i hi _ => hb.block i hi) (hb.block _ (lt_of_block h.h4)) (fun i hi => hb.block i (h.o.lt i hi).2)
theorem CL.b4 (h : CL r w b l X a1 a2 a3 a4 a5 tv rv av) (hJ : JB w b op st k n d go c N ids tx s) : b ≠ a4 := fun e => by
  have h4 := h.h4
  rw [← e, show w.heap[b]? = _ from hJ] at h4
  simp at h4
theorem CL.bo (h : CL r w b l X a1 a2 a3 a4 a5 tv rv av) (hJ : JB w b op st k n d go c N ids tx s) : av.ownBlock ≠ some b := fun e => by
  obtain ⟨cs, h4⟩ := h.o.typ b e
  rw [show w.heap[b]? = _ from hJ] at h4
  simp at h4
theorem CL.o4 (h : CL r w b l X a1 a2 a3 a4 a5 tv rv av) : av.ownBlock ≠ some a4 := fun e => by
  obtain ⟨cs, h4⟩ := h.o.typ a4 e
  rw [h.h4] at h4
  simp at h4
theorem CL.gb (h : CL r w b l X a1 a2 a3 a4 a5 tv rv av) (hJ : JB w b op st k n d go c N ids tx s) (hg : Gs (fun i => i = b) w w') : CL r w' b l X a1 a2 a3 a4 a5 tv rv av :=
  h.kb hg.size (fun i hi hr => hg.block i hi (fun e => h.nb (e ▸ hr))) (hg.block _ (lt_of_block h.h4) (fun e => h.b4 hJ e.symm)) (fun i hi => hg.block i (h.o.lt i hi).2 (fun e => h.bo hJ (e ▸ hi)))
theorem CL.cq (h : CL r w b l X a1 a2 a3 a4 a5 tv rv av) {j : Nat} {q : QT} (hq : l[j]? = some q) : ∃ g o c', rv = .slice (some ⟨g, o, none⟩) l.length c' ∧ w.cell? ⟨g, o + j * 4, none⟩ = some (.int .i64 q.st) ∧ w.cell? ⟨g, o + j * 4 + 1, none⟩ = some (.int .i64 q.k) ∧ w.cell? ⟨g, o + j * 4 + 2, none⟩ = some (.string q.n) ∧ w.cell? ⟨g, o + j * 4 + 3, none⟩ = some (.string q.d) := by
  obtain ⟨a, c, e, _, h | ⟨g, o, ea, _, _, hG⟩⟩ := h.q
  · rw [h] at hq; simp at hq
  · exact ⟨g, o, c, by rw [e, ea], hG j q hq 0 _ rfl, hG j q hq 1 _ rfl, hG j q hq 2 _ rfl, hG j q hq 3 _ rfl⟩

set_option maxRecDepth 100000 in
set_option maxHeartbeats 3200000 in
theorem next_ask (h : CL r w b l X a1 a2 a3 a4 a5 tv rv av) (hJ : JB w b true st k n d .nilFunc c N ids tx s) {q : QT} (hq : l[X.length]? = some q) :
    Calls Tryz.prog 121 #[.pointer (some ⟨a4, 0, none⟩), .pointer (some ⟨a3, 0, none⟩), .pointer (some ⟨a1, 0, none⟩), .pointer (some ⟨a5, 0, none⟩), .pointer (some ⟨a2, 0, none⟩)] w fun e w' => e = .returned (.tuple #[]) ∧ JB w' b true q.st q.k q.n q.d (.func (.func 123) #[] #[.pointer (some ⟨a4, 0, none⟩), .pointer (some ⟨a5, 0, none⟩)]) c N ids tx s ∧ Gs (fun i => i = b) w w' := by
  obtain ⟨g, o, cr, rfl, z0, z1, z2, z3⟩ := h.cq hq
  obtain ⟨aa, ca, hav⟩ := h.o.shp
  have y4 : w.cell? ⟨a4, 0, none⟩ = some av := by simp [World.cell?, h.h4]
  have y3 : w.cell? ⟨a3, 0, none⟩ = some (.slice (some ⟨g, o, none⟩) l.length cr) := by simp [World.cell?, h.h3]
  have y1 : w.cell? ⟨a1, 0, none⟩ = some (.pointer (some ⟨b, 0, none⟩)) := by simp [World.cell?, h.h1]
  have HK : Hid (∀ w1, Gs (fun i => i = b) w.drew w1 → w1.cell? ⟨a4, 0, none⟩ = some (.slice aa X.length ca) ∧ w1.cell? ⟨a3, 0, none⟩ = some (.slice (some ⟨g, o, none⟩) l.length cr) ∧ w1.cell? ⟨a1, 0, none⟩ = some (.pointer (some ⟨b, 0, none⟩)) ∧ w1.cell? ⟨g, o + X.length * 4, none⟩ = some (.int .i64 q.st) ∧ w1.cell? ⟨g, o + X.length * 4 + 1, none⟩ = some (.int .i64 q.k) ∧ w1.cell? ⟨g, o + X.length * 4 + 2, none⟩ = some (.string q.n) ∧ w1.cell? ⟨g, o + X.length * 4 + 3, none⟩ = some (.string q.d)) := fun w1 hg => by
    have h1 := CL.gb (w := w) h hJ (w' := w1) ⟨hg.os, hg.tape, hg.output, hg.size, hg.block⟩
    obtain ⟨g', o', cr', e', q0, q1, q2, q3⟩ := h1.cq hq
    cases e'
    exact ⟨by simp [World.cell?, h1.h4, hav], by simp [World.cell?, h1.h3], by simp [World.cell?, h1.h1], q0, q1, q2, q3⟩
  have hxl : X.length < l.length := (List.getElem?_eq_some_iff.1 hq).1
  rw [hav] at y4
  obtain ⟨m, hm⟩ : ∃ m, m = X.length := ⟨_, rfl⟩
  obtain ⟨ll, hll⟩ : ∃ ll, ll = l.length := ⟨_, rfl⟩
  rw [← hm, ← hll] at hxl
  rw [← hm] at z0 z1 z2 z3 y4 HK
  rw [← hll] at y3 HK
  have b1 : (m : Int) < (ll : Int) := by omega
  have b0 : (0 : Int) ≤ (m : Int) := by omega
  have hmf : ∀ (fn : Fn) (first cap : Array Value) (w : World), (Instr.makeFunc fn first cap).run Tryz.prog w = .ok (.func fn first cap) w := fun _ _ _ _ => rfl
  have HA : Hid _ := hide (ask_any (w := w.drew) hJ q.st q.k q.n q.d (.func 123) #[] #[.pointer (some ⟨a4, 0, none⟩), .pointer (some ⟨a5, 0, none⟩)])
  generalize q.st = qs at *
  generalize q.k = qk at *
  generalize q.n = qn at *
  generalize q.d = qd at *
  clear h hJ hav hq hm hll
  go_enter Tryz.func121, Tryz.ntmps121
  go_upto_region 1 with fail
  go_region_held3 (fun w' => w'.cell? ⟨a4, 0, none⟩ = some (.slice aa m ca) ∧ w'.cell? ⟨a3, 0, none⟩ = some (.slice (some ⟨g, o, none⟩) ll cr) ∧ w'.cell? ⟨a1, 0, none⟩ = some (.pointer (some ⟨b, 0, none⟩)) ∧ w'.cell? ⟨g, o + m * 4, none⟩ = some (.int .i64 qs) ∧ w'.cell? ⟨g, o + m * 4 + 1, none⟩ = some (.int .i64 qk) ∧ w'.cell? ⟨g, o + m * 4 + 2, none⟩ = some (.string qn) ∧ w'.cell? ⟨g, o + m * 4 + 3, none⟩ = some (.string qd)) (first | assumption | exact ⟨by assumption, by assumption, by assumption, by assumption, by assumption, by assumption, by assumption⟩)
    (first | (go_at_call 122; refine HA.out.mono ?_; rintro e w1 ⟨rfl, hJ1, hG1⟩; obtain ⟨k1, k2, k3, k4, k5, k6, k7⟩ := HK.out w1 hG1; have HF := hide (And.intro hJ1 hG1); clear hJ1 hG1))
  go_wp2
  go_end0
  exact ⟨rfl, HF.out.1, HF.out.2.und⟩
theorem x3_one {x : RR × Value} (h : ∃ a n c, x.2 = .slice a n c) : ∀ u ∈ x3 x, u.oneCell' = true := by
  obtain ⟨a, n, c, e⟩ := h
  intro u hu
  simp only [x3, List.mem_cons, List.not_mem_nil, or_false] at hu
  rcases hu with rfl | rfl | rfl
  · rfl
  · rfl
  · rw [e]; rfl
/-- The blocks that an answer may turn. -/
def mu (b a4 : Nat) (av : Value) (i : Nat) : Prop := i = b ∨ i = a4 ∨ av.ownBlock = some i
/-- An answer more. -/
theorem CL.app (h : CL r w b l X a1 a2 a3 a4 a5 tv rv av) (hJ : JB w b op st k n d go c N ids tx s) (x : RR × Value) (hx : LS t1 1 r w x.2 x.1.l) (hl : X.length ≤ 1000000) :
    ∃ v' w', (Builtin.append_ #[50, 50] 50 #[av, .slice (some ⟨w.heap.size, 0, none⟩) 1 1]).run Tryz.prog (w.alloc (.cells #[.int .i64 x.1.c, .string x.1.d, x.2] 72)) = .ok v' w' ∧ (∃ a n c, v' = .slice a n c) ∧ w'.heap[a4]? = some (.cells #[av] 50 (0, 0)) ∧ CL r (w'.setCell ⟨a4, 0, none⟩ v') b l (X ++ [x]) a1 a2 a3 a4 a5 tv rv v' ∧ JB (w'.setCell ⟨a4, 0, none⟩ v') b op st k n d go c N ids tx s ∧ Gs (mu b a4 av) w (w'.setCell ⟨a4, 0, none⟩ v') ∧ (v'.ownBlock = av.ownBlock ∨ v'.ownBlock = some (w.heap.size + 1)) := by
  have hb : Below w.heap.size w (w.alloc (.cells #[.int .i64 x.1.c, .string x.1.d, x.2] 72)) := (Below.refl _ _).alloc (Nat.le_refl _) _
  have hsx : ∃ a n c, x.2 = .slice a n c := by obtain ⟨a, c, e⟩ := hx.shp; exact ⟨a, _, c, e⟩
  have hLS : LS x3 3 (fun _ => True) (w.alloc (.cells #[.int .i64 x.1.c, .string x.1.d, x.2] 72)) (.slice (some ⟨w.heap.size, 0, none⟩) 1 1) [x] := LS.one x 72 w x3 3 _ trivial
  obtain ⟨v', w', h1, h2, h3, h4⟩ := OW.app (ST := 50) x3_len (by decide) (fun y hy => by simp at hy; subst hy; exact x3_one hsx) Tryz.underlying50 Tryz.infoA rfl (h.o.keep hb) hLS (by simp; omega) (by simp; omega) (Nat.zero_le _)
  have h4' : v'.ownBlock = av.ownBlock ∨ v'.ownBlock = some (w.heap.size + 1) := by simpa using h4
  have hw : ∀ i, i < w.heap.size → av.ownBlock ≠ some i → w'.heap[i]? = w.heap[i]? := fun i hi2 hn => (h3.block i (by simp; omega) (fun e => hn e.symm)).trans (hb.block i hi2)
  have hk : ∀ i, i ≠ a4 → (w'.setCell ⟨a4, 0, none⟩ v').heap[i]? = w'.heap[i]? := fun i hi => heap_setCell_other w' ⟨a4, 0, none⟩ i _ hi
  have hsz : w.heap.size + 1 ≤ w'.heap.size := by have := h3.size; simpa using this
  have h4w : w'.heap[a4]? = some (.cells #[av] 50 (0, 0)) := (hw a4 (lt_of_block h.h4) h.o4).trans h.h4
  have hr : ∀ i, i < w.heap.size → r i → (w'.setCell ⟨a4, 0, none⟩ v').heap[i]? = w.heap[i]? := fun i hi hr => (hk i (fun e => h.n4 (e ▸ hr))).trans (hw i hi (fun e => h.no i e hr))
  have hsz2 : w.heap.size ≤ (w'.setCell ⟨a4, 0, none⟩ v').heap.size := by simp; omega
  have ho4 : v'.ownBlock ≠ some a4 := fun e => by
    obtain ⟨cs, hcs⟩ := h2.typ a4 e
    rw [h4w] at hcs
    simp at hcs
  refine ⟨v', w', h1, ?_, h4w, ⟨(hr a1 (lt_of_block h.h1) h.r1).trans h.h1, (hr a2 (lt_of_block h.h2) h.r2).trans h.h2, (hr a3 (lt_of_block h.h3) h.r3).trans h.h3, heap_set_self h4w, (hr a5 (lt_of_block h.h5) h.r5).trans h.h5, h.q.kb hsz2 fun i hri hi => hr i hi hri, h2.kb fun i hi => hk i (fun e => ho4 (e ▸ hi)), ?_, h.r1, h.r2, h.r3, h.r5, h.nb, h.n4, ?_, fun i hi => Nat.lt_of_lt_of_le (h.rl i hi) hsz2⟩, ?_, ?_, h4'⟩
  · obtain ⟨a, c, e⟩ := h2.shp; exact ⟨a, _, c, e⟩
  · intro y hy
    rcases List.mem_append.1 hy with hy | hy
    · exact (h.ns y hy).kb hsz2 fun i hri hi => hr i hi hri
    · simp at hy; subst hy; exact hx.kb hsz2 fun i hri hi => hr i hi hri
  · intro i hi hri
    rcases h4' with e | e
    · rw [e] at hi; exact h.no i hi hri
    · rw [e] at hi; simp at hi; have := h.rl i hri; omega
  · exact (hk b (h.b4 hJ)).trans ((hw b hJ.lt (h.bo hJ)).trans hJ)
  · refine ⟨h3.os.trans rfl, h3.tape.trans rfl, h3.output.trans rfl, hsz2, fun i hi hn => ?_⟩
    exact (hk i (fun e => hn (.inr (.inl e)))).trans (hw i hi (fun e => hn (.inr (.inr e))))

end
end Go.Proofs.YtiecoplfiahpnaaGreat

namespace Go.Proofs.YtiecoplfiahpnaaGreat
open Go.RowKit Go.Lib Go.Maps
theorem Tryz.sizeAs : (Tryz.prog.info? 50).map (·.size) = some 1 := by kernel_rfl
section
variable {r r' p : Nat → Prop} {w w' : World} {b a1 a2 a3 a4 a5 i1 : Nat} {l : List QT} {X : List (RR × Value)} {tv rv av : Value} {st k s c N : Int} {n d : ByteArray} {go ids tx : Value} {op : Bool}
theorem mu_b {i : Nat} (h : i = b) : mu b a4 av i := .inl h
end
end Go.Proofs.YtiecoplfiahpnaaGreat

namespace Go.Proofs.YtiecoplfiahpnaaGreat
open Go.RowKit Go.Lib Go.Maps
/-- A go is done: what the job's settling comes to. -/
def RDY (b : Nat) (Q : World → Prop) (w' : World) : Prop :=
  (∃ op st k n d fn fi ca c N ids tx s, JB w' b op st k n d (.func fn fi ca) c N ids tx s ∧ ∀ w2, JB w2 b true st k n d (.func fn fi ca) c N ids tx s → Gs (fun i => i = b) w' w2 → Q w2) ∨
  (∃ op st k n d c N ids tx s, JB w' b op st k n d .nilFunc c N ids tx s ∧ ∀ w2, JB w2 b false st k n d .nilFunc c N ids tx s → Gs (fun i => i = b) w' w2 → Q w2)
section
variable {r r0 p : Nat → Prop} {w w' : World} {b : Nat} {st k s c N cc : Int} {n d dd : ByteArray} {go ids tx u : Value} {op : Bool} {ll : List ByteArray}
theorem settle_rdy {Q : World → Prop} (h : RDY b Q w) : Calls Tryz.prog 47 #[.pointer (some ⟨b, 0, none⟩)] w fun e w' => e = .returned (.tuple #[]) ∧ Q w' := by
  rcases h with ⟨op, st, k, n, d, fn, fi, ca, c, N, ids, tx, s, hJ, h⟩ | ⟨op, st, k, n, d, c, N, ids, tx, s, hJ, h⟩
  · refine (settle_on hJ).mono ?_
    rintro e w2 ⟨rfl, hJ2, hG⟩
    exact ⟨rfl, h w2 hJ2 hG⟩
  · refine (settle_off hJ).mono ?_
    rintro e w2 ⟨rfl, hJ2, hG⟩
    exact ⟨rfl, h w2 hJ2 hG⟩
/-- What lies there as the answer is handed on. -/
structure GV (w V : World) (b : Nat) (c N : Int) (ids tx : Value) (s : Int) (u' : Value) (ll : List ByteArray) : Prop where
  j : JB V b true 0 0 ⟨#[]⟩ ⟨#[]⟩ .nilFunc c N ids tx (s + 1)
  u : TS w.heap.size u' ll V
  g : Gs (fun i => i = b) w V
set_option maxRecDepth 100000 in
set_option maxHeartbeats 1600000 in
theorem give_off (h : JB w b op st k n d .nilFunc c N ids tx s) (u : Value) (cc : Int) (dd : ByteArray) :
    Calls Tryz.prog 75 #[.pointer (some ⟨b, 0, none⟩), .agg #[.int .i64 cc, .string dd, u]] w fun e w' => e = .returned (.int .i64 310) ∧ Below w.heap.size w w' := by
  have hJ := h.bel ((Below.refl w.heap.size w).alloc (Nat.le_refl _) (.cells #[.int .i64 cc, .string dd, u] 72))
  have y5 : (w.alloc (.cells #[.int .i64 cc, .string dd, u] 72)).cell? ⟨b, 5, none⟩ = some .nilFunc := hJ.cell 5
  obtain ⟨g1, g2, g3, g4⟩ := fe47
  clear h hJ
  go_enter Tryz.func75, Tryz.ntmps75
  go_wp2
  go_ret
  exact ⟨rfl, (Below.refl _ _).alloc (Nat.le_refl _) _⟩
set_option maxRecDepth 100000 in
set_option maxHeartbeats 3200000 in
theorem give_all {a4 a5 : Nat} (hJ : JB w b op st k n d (.func (.func 123) #[] #[.pointer (some ⟨a4, 0, none⟩), .pointer (some ⟨a5, 0, none⟩)]) c N ids tx s) (hop : op = true) (hu : LS t1 1 r0 w u ll) (hr0 : ¬ r0 b) (hll : ll.length ≤ 1000000000000) (hs0 : 0 ≤ s) (hs1 : s ≤ 1000000000) (cc : Int) (dd : ByteArray) {Q : World → Prop}
    (HC : ∀ V u', GV w V b c N ids tx s u' ll → Calls Tryz.prog 123 #[.agg #[.int .i64 cc, .string dd, u'], .pointer (some ⟨a4, 0, none⟩), .pointer (some ⟨a5, 0, none⟩)] V fun e w' => e = .returned (.tuple #[]) ∧ RDY b Q w') :
    Calls Tryz.prog 75 #[.pointer (some ⟨b, 0, none⟩), .agg #[.int .i64 cc, .string dd, u]] w fun e w' => e = .returned (.int .i64 0) ∧ Q w' := by
  subst hop
  obtain ⟨U, hU⟩ : ∃ U, U = w.alloc (.cells #[.int .i64 cc, .string dd, u] 72) := ⟨_, rfl⟩
  obtain ⟨X5, hX5⟩ : ∃ X5, X5 = w.heap.size := ⟨_, rfl⟩
  have hBU : Below w.heap.size w U := by rw [hU]; exact (Below.refl _ _).alloc (Nat.le_refl _) _
  have hJU := hJ.bel hBU
  have hbl : b < X5 := by rw [hX5]; exact hJ.lt
  have hblk : U.heap[X5]? = some (.cells #[.int .i64 cc, .string dd, u] 72 (0, 0)) := by rw [hU, hX5]; exact heap_alloc_new w _
  have hszU : U.heap.size = X5 + 1 := by rw [hU, hX5]; simp
  have y5 : U.cell? ⟨b, 5, none⟩ = some (.func (.func 123) #[] #[.pointer (some ⟨a4, 0, none⟩), .pointer (some ⟨a5, 0, none⟩)]) := hJU.cell 5
  have hrun1 := store_run (t := 65) (o := 1) hJU #[.int .i64 0, .int .i64 0, .string ⟨#[]⟩, .string ⟨#[]⟩] (Nat.le_of_ble_eq_true rfl) Tryz.sizeQ (by simp [Value.oneCell'])
  obtain ⟨V1, hV1⟩ : ∃ V1, V1 = U.setCells b 1 [.int .i64 0, .int .i64 0, .string ⟨#[]⟩, .string ⟨#[]⟩] := ⟨_, rfl⟩
  have hJ1 : JB V1 b true 0 0 ⟨#[]⟩ ⟨#[]⟩ (.func (.func 123) #[] #[.pointer (some ⟨a4, 0, none⟩), .pointer (some ⟨a5, 0, none⟩)]) c N ids tx s := by
    have h1 := setCells_self [.int .i64 0, .int .i64 0, .string ⟨#[]⟩, .string ⟨#[]⟩] 1 U _ hJU
    rw [← hV1] at h1
    simpa [putAll, JB] using h1
  have hG1 : Gs (fun i => i = b) U V1 := by rw [hV1]; exact Gs.cells _ _ _ (Gs.refl _ _) (.inl rfl)
  simp only [] at hrun1
  rw [← hV1] at hrun1
  have x5 : V1.cell? ⟨b, 5, none⟩ = some (.func (.func 123) #[] #[.pointer (some ⟨a4, 0, none⟩), .pointer (some ⟨a5, 0, none⟩)]) := hJ1.cell 5
  have f5 := hJ1.free 5
  have hJ2 : JB (V1.setCell ⟨b, 5, none⟩ .nilFunc) b true 0 0 ⟨#[]⟩ ⟨#[]⟩ .nilFunc c N ids tx s := heap_set_self hJ1
  have x13 : (V1.setCell ⟨b, 5, none⟩ .nilFunc).cell? ⟨b, 13, none⟩ = some (.int .i64 s) := hJ2.cell 13
  have f13 := hJ2.free 13
  have hJ3 : JB ((V1.setCell ⟨b, 5, none⟩ .nilFunc).setCell ⟨b, 13, none⟩ (.int .i64 (s + 1))) b true 0 0 ⟨#[]⟩ ⟨#[]⟩ .nilFunc c N ids tx (s + 1) := heap_set_self hJ2
  obtain ⟨V3, hV3⟩ : ∃ V3, V3 = (V1.setCell ⟨b, 5, none⟩ .nilFunc).setCell ⟨b, 13, none⟩ (.int .i64 (s + 1)) := ⟨_, rfl⟩
  rw [← hV3] at hJ3
  have hG3 : Gs (fun i => i = b) U V3 := by rw [hV3]; exact (hG1.set1 _ _).set1 _ _
  have hblk3 : V3.heap[X5]? = some (.cells #[.int .i64 cc, .string dd, u] 72 (0, 0)) := (hG3.block X5 (by omega) (by omega)).trans hblk
  have z2 : ((V1.setCell ⟨b, 5, none⟩ .nilFunc).setCell ⟨b, 13, none⟩ (.int .i64 (s + 1))).cell? ⟨X5, 2, none⟩ = some u := by rw [← hV3]; simp [World.cell?, hblk3]
  have HC1 := hide (cloneT ((hu.old.bel hBU).gs hG3 (fun i hi e => hr0 (e ▸ hi.1))) hll)
  have HU := hide hU
  have HV3 := hide hV3
  have HX := hide hX5
  have HF := hide (And.intro hBU (And.intro hG3 (And.intro hblk3 (And.intro hJ3 (And.intro hszU hbl)))))
  have HCC := hide HC
  obtain ⟨g1, g2, g3, g4⟩ := fe47
  clear hu hJU hblk hszU hV1 hJ1 hG1 hJ2 hJ3 hV3 hG3 hblk3 hU hX5 hBU hJ HC hbl
  go_enter Tryz.func75, Tryz.ntmps75
  go_upto_region 1 with fail
  rw [← HU.out, ← HX.out]
  go_wp2_with (refine wpList_store_run rfl 65 _ _ rfl _ _ rfl rfl hrun1 ?_)
  rw [← HV3.out]
  refine HC1.out.mono ?_
  rintro e w4 ⟨u', rfl, hT4, hB4⟩
  obtain ⟨hBU, hG3, hblk3, hJ3, hszU, hbl⟩ := HF.out
  have hX := HX.out
  have hblk4 := (hB4.block X5 (lt_of_block hblk3)).trans hblk3
  have hs := store1_run (t := 33) hblk4 (j := 2) (v := u') (Nat.le_of_ble_eq_true rfl) Tryz.sizeTs (by obtain ⟨a, c, e⟩ := hT4.shp; exact ⟨a, _, c, e⟩)
  obtain ⟨V5, hV5⟩ : ∃ V5, V5 = w4.setCell ⟨X5, 2, none⟩ u' := ⟨_, rfl⟩
  rw [← hV5] at hs
  have hblk5 : V5.heap[X5]? = some (.cells #[.int .i64 cc, .string dd, u'] 72 (0, 0)) := by rw [hV5]; exact heap_set_self hblk4
  have k0 : V5.cell? ⟨X5, 0, none⟩ = some (.int .i64 cc) := by simp [World.cell?, hblk5]
  have k1 : V5.cell? ⟨X5, 1, none⟩ = some (.string dd) := by simp [World.cell?, hblk5]
  have k2 : V5.cell? ⟨X5, 2, none⟩ = some u' := by simp [World.cell?, hblk5]
  have h3s := hG3.size
  have hGV : GV w V5 b c N ids tx s u' ll := by
    refine ⟨?_, ?_, ?_⟩
    · rw [hV5]
      exact (heap_setCell_other w4 ⟨X5, 2, none⟩ b _ (by show b ≠ X5; omega)).trans (hJ3.bel hB4)
    · rw [hV5]
      exact (hT4.set fun i hi => by have := (hT4.lt i hi).1; omega).low (by omega)
    · rw [hV5]
      exact (((Gs.of_below _ hBU).trans hG3).bel hB4).set (a := ⟨X5, 2, none⟩) (.inr (by show w.heap.size ≤ X5; omega)) _
  have HG := hide (HCC.out V5 u' hGV)
  clear hblk3 hJ3 hszU hbl hX hblk4 hV5 hblk5 h3s hGV hB4 hT4 hG3 hBU
  go_wp2_with (refine wpList_store_run rfl 33 _ _ rfl _ _ rfl rfl hs ?_)
  refine HG.out.mono ?_
  rintro e w6 ⟨rfl, hR⟩
  have HS := hide (settle_rdy hR)
  clear hR
  go_wp2_with fail
  refine HS.out.mono ?_
  rintro e w7 ⟨rfl, hQ⟩
  have HQ := hide hQ
  clear hQ
  go_wp2
  go_ret
  exact ⟨rfl, HQ.out⟩
end
end Go.Proofs.YtiecoplfiahpnaaGreat
