/-
  The contracts of the book's lists that are lent and kept, and of lists that are the same.
-/
import Derived.Test.YtcgiolehlokpnaaMix2
import Derived.Laws.AppendOwnNone
namespace Go.Proofs.Ytcgiolehlokpnaa
open Go.RowKit Go.Lib

theorem Try.info9 : (Try.prog.info? 9).map (fun i => (i.zero, i.size, i.bytes)) = some (some (.string ⟨#[]⟩), 1, 16) := by kernel_rfl
theorem Try.info3 : (Try.prog.info? 3).map (fun i => (i.zero, i.size, i.bytes)) = some (some (.int .i64 0), 1, 8) := by kernel_rfl

theorem cell_list_new (w : World) (l : List Value) (t : TypeId) (j : Nat) (u : Value) (h : l[j]? = some u) : (w.alloc (.cells l.toArray t)).cell? ((⟨w.heap.size, 0, none⟩ : Addr).add j) = some u := by
  rw [Addr.add_mid, Nat.zero_add, cell_of_row _ _ j _ t (0, 0) (heap_alloc_new w _)]
  simpa using h

set_option maxHeartbeats 800000 in
set_option maxRecDepth 100000 in
theorem same_any {w : World} {v v' : Value} {n : Nat} {X : Nat → ByteArray} (hp : TX w v n X) (hp' : TX w v' n X) (hn : n ≤ 1000) :
    Calls Try.prog 40 #[v, v'] w fun e w' => e = .returned (.bool true) ∧ ∃ m, w' = w.drewN m := by
  obtain ⟨ad, c, rfl, hcs⟩ := hp
  obtain ⟨ad', c', rfl, hcs'⟩ := hp'
  have HC : Hid _ := hcs
  have HC' : Hid _ := hcs'
  clear hcs hcs'
  go_enter Try.func40, Try.ntmps40
  go_wp2
  go_loopw [5] (fun i wr => ∃ j m : Nat, j ≤ n ∧ i = .int .i64 j ∧ wr = w.drewN m)
    (fun i _ => n - (intOf i).toNat)
  case atStart => exact ⟨0, 0, Nat.zero_le _, rfl, rfl⟩
  case round =>
    obtain ⟨j, m, hj, rfl, hwr⟩ := hrel
    by_cases hlt : j < n
    · obtain ⟨bl, off, rfl, hbl, hc⟩ := HC.out.resolve_left (by omega)
      obtain ⟨bl', off', rfl, hbl', hc'⟩ := HC'.out.resolve_left (by omega)
      have hcj : wr.cell? ⟨bl, off + j, none⟩ = some (.string (X j)) := by rw [hwr]; exact hc j hlt
      have hcj' : wr.cell? ⟨bl', off' + j, none⟩ = some (.string (X j)) := by rw [hwr]; exact hc' j hlt
      clear hc hc'
      generalize X j = p at *
      have HW : Hid _ := hwr
      clear hwr
      have b0 : (0 : Int) ≤ (j : Int) := by omega
      have b1 : (j : Int) < (n : Int) := by omega
      go_wp2
      go_quiet (fail)
      go_wp2
      exact ⟨⟨j + 1, m + nq, by omega, by go_num, by rw [HW.out, World.drewN_drewN]⟩, by simp [intOf]; omega⟩
    · obtain rfl : j = n := by omega
      have HW : Hid _ := hwr
      clear hwr
      go_wp2
      go_ret
      exact ⟨rfl, m, HW.out⟩

set_option maxHeartbeats 800000 in
set_option maxRecDepth 100000 in
theorem sameInts_any {w : World} {v v' : Value} {n : Nat} {Z : Nat → Int} (hp : NX w v n Z) (hp' : NX w v' n Z) (hn : n ≤ 140737488355328) :
    Calls Try.prog 22 #[v, v'] w fun e w' => e = .returned (.bool true) ∧ ∃ m, w' = w.drewN m := by
  obtain ⟨ad, c, rfl, hcs⟩ := hp
  obtain ⟨ad', c', rfl, hcs'⟩ := hp'
  have HC : Hid _ := hcs
  have HC' : Hid _ := hcs'
  clear hcs hcs'
  go_enter Try.func22, Try.ntmps22
  go_wp2
  go_loopw [5] (fun i wr => ∃ j m : Nat, j ≤ n ∧ i = .int .i64 j ∧ wr = w.drewN m)
    (fun i _ => n - (intOf i).toNat)
  case atStart => exact ⟨0, 0, Nat.zero_le _, rfl, rfl⟩
  case round =>
    obtain ⟨j, m, hj, rfl, hwr⟩ := hrel
    by_cases hlt : j < n
    · obtain ⟨bl, off, rfl, hbl, hc⟩ := HC.out.resolve_left (by omega)
      obtain ⟨bl', off', rfl, hbl', hc'⟩ := HC'.out.resolve_left (by omega)
      have hcj : wr.cell? ⟨bl, off + j, none⟩ = some (.int .i64 (Z j)) := by rw [hwr]; exact hc j hlt
      have hcj' : wr.cell? ⟨bl', off' + j, none⟩ = some (.int .i64 (Z j)) := by rw [hwr]; exact hc' j hlt
      clear hc hc'
      generalize Z j = p at *
      have HW : Hid _ := hwr
      clear hwr
      have b0 : (0 : Int) ≤ (j : Int) := by omega
      have b1 : (j : Int) < (n : Int) := by omega
      go_wp2
      go_quiet (fail)
      go_wp2
      exact ⟨⟨j + 1, m + nq, by omega, by go_num, by rw [HW.out, World.drewN_drewN]⟩, by simp [intOf]; omega⟩
    · obtain rfl : j = n := by omega
      have HW : Hid _ := hwr
      clear hwr
      go_wp2
      go_ret
      exact ⟨rfl, m, HW.out⟩

def markS : ByteArray := ⟨#[109, 97, 114, 107]⟩
def textsOf (X : Nat → ByteArray) (n : Nat) : List Value := (List.range n).map fun i => Value.string (X i)
theorem textsOf_length (X : Nat → ByteArray) (n : Nat) : (textsOf X n).length = n := by simp [textsOf]
theorem textsOf_get {X : Nat → ByteArray} {n j : Nat} (h : j < n) : (textsOf X n)[j]? = some (.string (X j)) := by rw [textsOf, List.getElem?_map, List.getElem?_range h]; rfl
theorem textsOf_one (X : Nat → ByteArray) (n : Nat) : ∀ u ∈ textsOf X n, u.oneCell' = true := by
  intro u hu
  obtain ⟨_, _, rfl⟩ := List.mem_map.1 hu
  rfl
theorem owned_cell {w : World} {B n e : Nat} {g cap : Nat} {xs : List Value} (h : w.ownsRow B e 1 (.slice (some ⟨g, 0, none⟩) n cap) n xs) (j : Nat) (u : Value) (hj : xs[j]? = some u) : w.cell? ⟨g, j, none⟩ = some u := by
  have := h.cells (g := g) rfl j u hj
  rwa [Addr.add_mid, Nat.zero_add] at this

set_option maxHeartbeats 800000 in
set_option maxRecDepth 100000 in
theorem lend_any {w : World} {a : Option Addr} {n cap : Nat} {X : Nat → ByteArray} (hX : TX w (.slice a n cap) n X) (hnil : a = none → n = 0 ∧ cap = 0) (hn : n ≤ 1000) :
    Calls Try.prog 18 #[.slice a n cap] w fun e w' => (∃ g c, e = .returned (.slice (some ⟨g, 0, none⟩) n c) ∧ n + 1 ≤ c ∧ w.heap.size ≤ g ∧ TX w' (.slice (some ⟨g, 0, none⟩) n c) n X ∧ w'.cell? ⟨g, n, none⟩ = some (.string markS)) ∧ Below w.heap.size w w' := by
  obtain ⟨i0, hi, hz0, hz1, hz2⟩ := info_parts Try.info9
  have hr0 : (w.alloc (.cells #[] 9)).ownsRow w.heap.size 9 1 (.slice (some ⟨w.heap.size, 0, none⟩) 0 0) 0 [] := World.ownsRow_made w #[] 0 (Nat.le_refl _) (by decide) rfl
  cases a with
  | none =>
    obtain ⟨rfl, rfl⟩ := hnil rfl
    have hbw : Below w.heap.size w (w.alloc (.cells #[] 9)) := (Below.refl _ _).alloc (Nat.le_refl _) _
    have hsz2 : (w.alloc (.cells #[] 9)).heap.size = w.heap.size + 1 := by simp
    clear hX hn hnil
    go_enter Try.func18, Try.ntmps18
    go_wp2_with (first | (at_builtin; refine wpList_append_own _ rfl (.tmp 7) (.tmp 8) 30 rfl w.heap.size 9 i0 (.string ⟨#[]⟩) 1 16 Try.underlying30 hi hz0 hz1 hz2 rfl (by decide) _ _ _ rfl (hr0.alloc _) ⟨w.heap.size + 1, 0, none⟩ 1 1 [.string markS] rfl rfl (fun j u hu => by have := cell_list_new (w.alloc (.cells #[] 9)) [.string markS] 9 j u hu; rwa [hsz2] at this) (by intro u hu; simp at hu; subst hu; rfl) (by unfold maxLen; omega) (by omega) (by simp; omega) ?_))
    intro v2 w3 hown2 hgrow2 _
    have hb3 : Below w.heap.size w w3 := (hbw.alloc hbw.size _).grown hgrow2 (by simp; omega) (fun j hj => (hr0.lt j hj).1)
    obtain ⟨g, cap, cur, rfl, hg, hgg, hnc, hcm, _⟩ := hown2.2.resolve_left (fun h => by simp at h)
    have hP : TX w3 (.slice (some ⟨g, 0, none⟩) 0 cap) 0 X := ⟨_, _, rfl, .inl rfl⟩
    have hM := owned_cell hown2 0 _ rfl
    clear hown2 hgrow2 hr0
    go_wp2
    go_ret
    exact ⟨⟨g, cap, rfl, hnc, hg, hP, hM⟩, hb3⟩
  | some ad =>
    have hnews : ∀ (j : Nat) (u : Value), (textsOf X n)[j]? = some u → (w.alloc (.cells #[] 9)).cell? (ad.add j) = some u := by
      intro j u hu
      have hj : j < n := by
        have := (List.getElem?_eq_some_iff.1 hu).1
        rwa [textsOf_length] at this
      obtain ⟨a', c', e, h⟩ := hX
      simp only [Value.slice.injEq, true_and] at e
      obtain ⟨rfl, rfl⟩ := e
      rcases h with h | ⟨bl, off, ha, hbl, hc⟩
      · omega
      · simp only [Option.some.injEq] at ha
        subst ha
        rw [Addr.add_mid, World.cell?_alloc_past _ _ _ hbl, hc j hj]
        rw [textsOf_get hj] at hu
        exact hu
    clear hX hnil
    go_enter Try.func18, Try.ntmps18
    go_wp2_with (first | (at_builtin; refine wpList_append_own _ rfl (.tmp 4) (.tmp 5) 30 rfl w.heap.size 9 i0 (.string ⟨#[]⟩) 1 16 Try.underlying30 hi hz0 hz1 hz2 rfl (by decide) _ _ _ rfl hr0 ad n cap (textsOf X n) rfl (by rw [textsOf_length]; omega) hnews (textsOf_one X n) (by unfold maxLen; omega) (by omega) (by simp) ?_))
    intro v1 w2 hown1 hgrow1 _
    have hb2 : Below w.heap.size w w2 := ((Below.refl w.heap.size w).alloc (Nat.le_refl _) (.cells #[] 9)).grown hgrow1 (by simp) (fun j hj => by simp [Value.ownBlock] at hj; omega)
    clear hgrow1 hnews
    go_wp2_with (first | (at_builtin; refine wpList_append_own _ rfl (.tmp 7) (.tmp 8) 30 rfl w.heap.size 9 i0 (.string ⟨#[]⟩) 1 16 Try.underlying30 hi hz0 hz1 hz2 rfl (by decide) _ _ _ rfl (hown1.alloc _) ⟨w2.heap.size, 0, none⟩ 1 1 [.string markS] rfl rfl (cell_list_new _ _ _) (by intro u hu; simp at hu; subst hu; rfl) (by unfold maxLen; omega) (by omega) (by have := hb2.size; simp; omega) ?_))
    intro v2 w3 hown2 hgrow2 _
    have hb3 : Below w.heap.size w w3 := (hb2.alloc hb2.size _).grown hgrow2 (by have := hb2.size; simp; omega) (fun j hj => (hown1.lt j hj).1)
    obtain ⟨g, cap, cur, rfl, hg, hgg, hnc, hcm, _⟩ := hown2.2.resolve_left (fun h => by omega)
    have hcell := owned_cell hown2
    have hP : TX w3 (.slice (some ⟨g, 0, none⟩) n cap) n X := ⟨_, _, rfl, .inr ⟨g, 0, rfl, lt_of_block hgg, fun k hk => by
      rw [Nat.zero_add]
      exact hcell k _ (by rw [List.getElem?_append_left (by rw [textsOf_length]; exact hk)]; exact textsOf_get hk)⟩⟩
    have hM : w3.cell? ⟨g, n, none⟩ = some (.string markS) := hcell _ _ (by rw [List.getElem?_append_right (by rw [textsOf_length]; exact Nat.le_refl _)]; simp [textsOf_length])
    have b1 : (n : Int) ≤ (cap : Int) := by omega
    clear hown1 hown2 hgrow2 hcell hr0
    go_wp2
    go_ret
    exact ⟨⟨g, cap, rfl, hnc, hg, hP, hM⟩, hb3⟩

set_option maxRecDepth 100000 in
theorem kept_any {w : World} {g cap n : Nat} {v : Value} {X : Nat → ByteArray} (hp : TX w (.slice (some ⟨g, 0, none⟩) n cap) n X) (hp' : TX w v n X) (hn : n ≤ 1000) (hc : n + 1 ≤ cap) (hm : w.cell? ⟨g, n, none⟩ = some (.string markS)) :
    Calls Try.prog 21 #[.slice (some ⟨g, 0, none⟩) n cap, v] w fun e w' => e = .returned (.bool true) ∧ ∃ m, w' = w.drewN m := by
  have HS : Hid _ := same_any hp hp' hn
  obtain ⟨ad, c, rfl, hx⟩ := hp'
  clear hp hx
  have b1 : (n : Int) + 1 ≤ (cap : Int) := by omega
  go_enter Try.func21, Try.ntmps21
  go_wp2_with fail
  refine Calls.mono HS.out ?_
  rintro e w1 ⟨rfl, m, rfl⟩
  unfold markS at hm
  go_wp2
  go_ret
  exact ⟨rfl, m, rfl⟩

/-- A copy of a list of numbers, laid behind an empty row of one's own. -/
theorem wpList_ints {w : World} {ops : Array Oper} {rest : List Oper} {o : Oper} {a : Act} {Q : Exit → Act → World → Prop} (hgd : o.guard = none) (s x : Operand)
    (ho : o.op = .call { callee := .builtin .append, args := #[s, x], argTypes := #[31, 31] }) (base : Nat) (v : Value) (hs : a.eval s = v) (hown : w.ownsRow base 3 1 v 0 []) (hv : v ≠ .slice none 0 0)
    (ad : Option Addr) (m c : Nat) (Z : Nat → Int) (hx : a.eval x = .slice ad m c) (hZ : NX w (.slice ad m c) m Z) (hnil : ad = none → m = 0 ∧ c = 0) (hbytes : m * 8 ≤ 140737488355328) (hbase : base ≤ w.heap.size)
    (h : ∀ v' w', NX w' v' m Z → w.grownBy w' v.ownBlock → wpList Try.prog ops Q rest (a.put o.dst v') w') : wpList Try.prog ops Q (o :: rest) a w := by
  obtain ⟨i0, hi, hz0, hz1, hz2⟩ := info_parts Try.info3
  cases ad with
  | none =>
    obtain ⟨rfl, rfl⟩ := hnil rfl
    refine wpList_append_own_none hgd s x 31 ho base 3 i0 1 Try.underlying31 hi v 0 [] hs hown hx (h v w ?_ (gb_refl _ _))
    rcases hown.2 with ⟨rfl, _⟩ | ⟨g, cap, cur, rfl, _⟩
    · exact absurd rfl hv
    · exact ⟨_, _, rfl, .inl rfl⟩
  | some ad =>
    have hlen : ((List.range m).map fun i => Value.int .i64 (Z i)).length = m := by simp
    have hget : ∀ j, j < m → ((List.range m).map fun i => Value.int .i64 (Z i))[j]? = some (.int .i64 (Z j)) := fun j hj => by rw [List.getElem?_map, List.getElem?_range hj]; rfl
    refine wpList_append_own w hgd s x 31 ho base 3 i0 (.int .i64 0) 1 8 Try.underlying31 hi hz0 hz1 hz2 rfl (by decide) v 0 [] hs hown ad m c ((List.range m).map fun i => Value.int .i64 (Z i)) hx (by rw [hlen, Nat.mul_one]) ?_ ?_ (by unfold maxLen; omega) (by omega) hbase ?_
    · intro j u hu
      have hj : j < m := by
        have := (List.getElem?_eq_some_iff.1 hu).1
        rwa [hlen] at this
      obtain ⟨a', c', e, h⟩ := hZ
      simp only [Value.slice.injEq, true_and] at e
      obtain ⟨rfl, rfl⟩ := e
      rcases h with h | ⟨bl, off, ha, hbl, hc⟩
      · omega
      · simp only [Option.some.injEq] at ha
        subst ha
        rw [Addr.add_mid, hc j hj]
        rw [hget j hj] at hu
        exact hu
    · intro u hu
      obtain ⟨_, _, rfl⟩ := List.mem_map.1 hu
      rfl
    · intro v' w' hown' hg _
      refine h v' w' ?_ hg
      rw [Nat.zero_add, List.nil_append] at hown'
      rcases hown'.2 with ⟨rfl, h0⟩ | ⟨g, cap, cur, rfl, _, hgg, _⟩
      · subst h0
        exact ⟨_, _, rfl, .inl rfl⟩
      · exact ⟨_, _, rfl, .inr ⟨g, 0, rfl, lt_of_block hgg, fun k hk => by rw [Nat.zero_add]; exact owned_cell hown' k _ (hget k hk)⟩⟩
end Go.Proofs.Ytcgiolehlokpnaa
