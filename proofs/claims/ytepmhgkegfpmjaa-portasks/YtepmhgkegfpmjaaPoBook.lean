/-
  Port: what the statements share: small, both.
-/
import Derived.Test.YtepmhgkegfpmjaaPoRun
import Derived.Test.YtepmhgkegfpmjaaStLay
namespace Go.Proofs.Ytepmhgkegfpmjaa
open Go.RowKit Go.Lib Go.Maps
section
variable {w : World} {v : Value} {l : List QT} {r : Nat → Prop}
set_option maxRecDepth 100000 in
set_option maxHeartbeats 1600000 in
theorem small_any (hl : LS q4 4 r w v l) (hn : l.length ≤ 9223372036854775807) :
    Calls Try.prog 7 #[v] w fun e w' => ∃ t : Bool, e = .returned (.bool t) ∧ (t = true → l.length ≤ 60) ∧ w' = w := by
  obtain ⟨a, c, rfl, _, hC⟩ := hl
  obtain ⟨m, hm⟩ : ∃ m, m = l.length := ⟨_, rfl⟩
  have HC : Hid (∀ j q, l[j]? = some q → ∃ g o, a = some ⟨g, o, none⟩ ∧ w.cell? ⟨g, o + j * 4 + 3, none⟩ = some (.string q.d)) := fun j q hq => by
    rcases hC with h | ⟨g, o, ea, _, _, hG⟩
    · rw [h] at hq; simp at hq
    · exact ⟨g, o, ea, hG j q hq 3 _ rfl⟩
  have HM := hide hm
  rw [← hm] at hn ⊢
  clear hC hm
  go_enter Try.func7, Try.ntmps7
  go_wp2
  go_loopw [3] (fun i wr => ∃ j : Nat, j ≤ m ∧ i = .int .i64 j ∧ wr = w) (fun i _ => m - (intOf i).toNat)
  case atStart => exact ⟨0, Nat.zero_le _, rfl, rfl⟩
  case round =>
    obtain ⟨j, hj, rfl, rfl⟩ := hrel
    by_cases hlt : j < m
    · have b1 : (j : Int) < (m : Int) := by omega
      have b0 : (0 : Int) ≤ (j : Int) := by omega
      obtain ⟨q, hq⟩ : ∃ q, l[j]? = some q := ⟨_, List.getElem?_eq_getElem (by rw [← HM.out]; exact hlt)⟩
      obtain ⟨g, o, rfl, z3⟩ := HC.out j q hq
      generalize q.d = dd at *
      by_cases h1 : (1000 : Int) < (dd.size : Int)
      · by_cases h2 : (dd.size : Int) ≤ 131072
        · go_wp2
          go_ret
          exact ⟨false, rfl, fun h => (by cases h), rfl⟩
        · go_wp2
          exact ⟨⟨j + 1, by omega, by simp⟩, by simp [intOf]; omega⟩
      · go_wp2
        exact ⟨⟨j + 1, by omega, by simp⟩, by simp [intOf]; omega⟩
    · obtain rfl : j = m := by omega
      go_wp2
      go_ret
      exact ⟨decide ((j : Int) ≤ 60), rfl, fun h => by simp at h; omega, rfl⟩
end
/-- Pointers as cells. -/
def pp (b : Nat) : List Value := [.pointer (some ⟨b, 0, none⟩)]
theorem pp_len (b : Nat) : (pp b).length = 1 := rfl
theorem pp_one (b : Nat) : ∀ u ∈ pp b, u.oneCell' = true := by intro u hu; simp [pp] at hu; subst hu; rfl
theorem Try.infoPs : (Try.prog.info? 59).map (fun i => (i.zero, i.size, i.bytes)) = some (some (.pointer none), 1, 8) := by kernel_rfl
theorem Try.infoPr : (Try.prog.info? 56).map (fun i => (i.zero, i.size, i.bytes)) = some (some (.pointer none), 1, 8) := by kernel_rfl
def s0 : SS := ⟨200, 0, 0, false, []⟩
/-- Stores that were made. -/
structure BO (w wr : World) (sv rv : Value) (bs : List (Nat × Nat)) (rs : List Nat) : Prop where
  s : OW pp 1 59 w.heap.size sv (bs.map (·.1)) wr
  r : OW pp 1 56 w.heap.size rv rs wr
  px : ∀ e ∈ bs, PX wr e.1 e.2 s0 ∧ w.heap.size ≤ e.1 ∧ w.heap.size ≤ e.2
  rd : ∀ b ∈ rs, RSt wr b 200 0 0 false (.slice none 0 0) ∧ w.heap.size ≤ b
  ap : ∀ (i j : Nat) (e f : Nat × Nat), bs[i]? = some e → bs[j]? = some f → i ≠ j → e.1 ≠ f.1 ∧ e.2 ≠ f.2
  ar : ∀ (i j b b' : Nat), rs[i]? = some b → rs[j]? = some b' → i ≠ j → b ≠ b'
  be : Below w.heap.size w wr
section
variable {w wr w' : World} {sv rv : Value} {bs : List (Nat × Nat)} {rs : List Nat}
theorem snoc_get {α : Type} {l : List α} {x y : α} {i : Nat} (h : (l ++ [x])[i]? = some y) : (i < l.length ∧ l[i]? = some y) ∨ (i = l.length ∧ y = x) := by
  by_cases hi : i < l.length
  · rw [List.getElem?_append_left hi] at h; exact .inl ⟨hi, h⟩
  · rw [List.getElem?_append_right (by omega)] at h
    have : i - l.length = 0 := by
      have := (List.getElem?_eq_some_iff.1 h).1
      simp at this; omega
    rw [this] at h
    simp at h
    exact .inr ⟨by omega, h.symm⟩
theorem RSt.bel2 {b : Nat} {q f m : Int} {off : Bool} {v : Value} (h : RSt w b q f m off v) (hb : Below w.heap.size w w') : RSt w' b q f m off v := h.below hb h.lt
theorem BO.bel (h : BO w wr sv rv bs rs) (hb : Below wr.heap.size wr w') : BO w w' sv rv bs rs :=
  ⟨h.s.keep hb, h.r.keep hb, fun e he => ⟨PX.bel (h.px e he).1 hb, (h.px e he).2⟩, fun b hb' => ⟨(h.rd b hb').1.bel2 hb, (h.rd b hb').2⟩, h.ap, h.ar, h.be.trans (hb.mono h.be.size)⟩
/-- A store of the program more. -/
theorem BO.more (h : BO w wr sv rv bs rs) {b mb : Nat} (hX : PX wr b mb s0) (hb : w.heap.size ≤ b) (hm : w.heap.size ≤ mb) (hd : ∀ e ∈ bs, e.1 ≠ b ∧ e.2 ≠ mb) (hl : bs.length ≤ 1000) :
    ∃ a c w', (Builtin.append_ #[49, 49] 49 #[sv, .slice (some ⟨wr.heap.size, 0, none⟩) 1 1]).run Try.prog (wr.alloc (.cells #[.pointer (some ⟨b, 0, none⟩)] 59)) = .ok (.slice a (bs.length + 1) c) w' ∧ BO w w' (.slice a (bs.length + 1) c) rv (bs ++ [(b, mb)]) rs ∧ wr.heap.size ≤ w'.heap.size := by
  have hal : Below wr.heap.size wr (wr.alloc (.cells #[.pointer (some ⟨b, 0, none⟩)] 59)) := (Below.refl _ _).alloc (Nat.le_refl _) _
  have h' := h.bel hal
  have hws := h.be.size
  obtain ⟨v', w1, h1, h2, h3, h4⟩ := OW.app (ST := 49) pp_len (by decide) (fun x _ => pp_one x) Try.underlying49 Try.infoPs rfl h'.s (LS.one b 59 wr pp 1 (fun _ => True) trivial) (by simp; omega) (by simp; omega) (by simp; omega)
  obtain ⟨a, c, e⟩ := h2.shp
  have hle : ((bs.map (·.1)) ++ [b]).length = bs.length + 1 := by simp
  rw [hle] at e
  subst e
  have hot : ∀ i, i < wr.heap.size + 1 → sv.ownBlock ≠ some i → w1.heap[i]? = (wr.alloc (.cells #[.pointer (some ⟨b, 0, none⟩)] 59)).heap[i]? := fun i hi hn => h3.block i (by simpa using hi) (fun e => hn e.symm)
  have hsl := h'.s.lt
  have hst := h'.s.typ
  have hBw : Below w.heap.size w w1 := h'.be.grown h3 (by simp; omega) (fun k hk => (hsl k hk).1)
  have hs1 : wr.heap.size + 1 ≤ w1.heap.size := by have := h3.size; simpa using this
  refine ⟨a, c, w1, h1, ⟨?_, ?_, ?_, ?_, ?_, h.ar, hBw⟩, by omega⟩
  · rw [List.map_append]; exact h2
  · refine h'.r.kb fun i hi => ?_
    have hrl := (h'.r.lt i hi).2
    refine hot i (by simpa using hrl) (fun e => ?_)
    obtain ⟨c1, q1⟩ := hst i e
    obtain ⟨c2, q2⟩ := h'.r.typ i hi
    rw [q1] at q2
    simp at q2
  · have hpk : ∀ e : Nat × Nat, PX (wr.alloc (.cells #[.pointer (some ⟨b, 0, none⟩)] 59)) e.1 e.2 s0 → PX w1 e.1 e.2 s0 := fun e hX => by
      have hX' : PS _ e.1 e.2 s0.q s0.f s0.off s0.m s0.L := hX
      have g1 : Gs (fun i => sv.ownBlock = some i) (wr.alloc (.cells #[.pointer (some ⟨b, 0, none⟩)] 59)) w1 := ⟨h3.os, h3.tape, h3.output, h3.size, fun i hi hn => h3.block i hi (fun e => hn e.symm)⟩
      refine PS.gs hX' g1 (fun e' => ?_) (fun e' => ?_)
      · obtain ⟨c1, q1⟩ := hst _ e'
        rw [hX'.blk] at q1
        simp at q1
      · obtain ⟨c1, q1⟩ := hst _ e'
        exact hX'.map.notCells q1
    intro e he
    rcases List.mem_append.1 he with he | he
    · exact ⟨hpk e (h'.px e he).1, (h.px e he).2⟩
    · simp at he
      subst he
      exact ⟨hpk _ (PX.bel hX hal), hb, hm⟩
  · intro b' hb'
    refine ⟨?_, (h.rd b' hb').2⟩
    have hR := (h'.rd b' hb').1
    refine (hot b' (by simpa using hR.lt) (fun e => ?_)).trans hR
    obtain ⟨c1, q1⟩ := hst b' e
    rw [show (wr.alloc _).heap[b']? = _ from hR] at q1
    simp at q1
  · intro i j e f he hf hij
    rcases snoc_get he with ⟨hi, he⟩ | ⟨hi, he⟩ <;> rcases snoc_get hf with ⟨hj, hf⟩ | ⟨hj, hf⟩
    · exact h.ap i j e f he hf hij
    · subst hf; exact hd e (List.mem_of_getElem? he)
    · subst he; have := hd f (List.mem_of_getElem? hf); exact ⟨fun q => this.1 q.symm, fun q => this.2 q.symm⟩
    · omega
/-- A store of the document more. -/
theorem BO.mord (h : BO w wr sv rv bs rs) {b : Nat} (hX : RSt wr b 200 0 0 false (.slice none 0 0)) (hb : w.heap.size ≤ b) (hd : ∀ e ∈ rs, e ≠ b) (hl : rs.length ≤ 1000) :
    ∃ a c w', (Builtin.append_ #[50, 50] 50 #[rv, .slice (some ⟨wr.heap.size, 0, none⟩) 1 1]).run Try.prog (wr.alloc (.cells #[.pointer (some ⟨b, 0, none⟩)] 56)) = .ok (.slice a (rs.length + 1) c) w' ∧ BO w w' sv (.slice a (rs.length + 1) c) bs (rs ++ [b]) := by
  have hal : Below wr.heap.size wr (wr.alloc (.cells #[.pointer (some ⟨b, 0, none⟩)] 56)) := (Below.refl _ _).alloc (Nat.le_refl _) _
  have h' := h.bel hal
  have hws := h.be.size
  obtain ⟨v', w1, h1, h2, h3, h4⟩ := OW.app (ST := 50) pp_len (by decide) (fun x _ => pp_one x) Try.underlying50 Try.infoPr rfl h'.r (LS.one b 56 wr pp 1 (fun _ => True) trivial) (by simp; omega) (by simp; omega) (by simp; omega)
  obtain ⟨a, c, e⟩ := h2.shp
  have hle : (rs ++ [b]).length = rs.length + 1 := by simp
  rw [hle] at e
  subst e
  have hot : ∀ i, i < wr.heap.size + 1 → rv.ownBlock ≠ some i → w1.heap[i]? = (wr.alloc (.cells #[.pointer (some ⟨b, 0, none⟩)] 56)).heap[i]? := fun i hi hn => h3.block i (by simpa using hi) (fun e => hn e.symm)
  have hsl := h'.r.lt
  have hst := h'.r.typ
  have hBw : Below w.heap.size w w1 := h'.be.grown h3 (by simp; omega) (fun k hk => (hsl k hk).1)
  refine ⟨a, c, w1, h1, ⟨?_, h2, ?_, ?_, h.ap, ?_, hBw⟩⟩
  · refine h'.s.kb fun i hi => ?_
    have hrl := (h'.s.lt i hi).2
    refine hot i (by simpa using hrl) (fun e => ?_)
    obtain ⟨c1, q1⟩ := hst i e
    obtain ⟨c2, q2⟩ := h'.s.typ i hi
    rw [q1] at q2
    simp at q2
  · intro e he
    have hX' : PS _ e.1 e.2 s0.q s0.f s0.off s0.m s0.L := (h'.px e he).1
    have g1 : Gs (fun i => rv.ownBlock = some i) (wr.alloc (.cells #[.pointer (some ⟨b, 0, none⟩)] 56)) w1 := ⟨h3.os, h3.tape, h3.output, h3.size, fun i hi hn => h3.block i hi (fun e => hn e.symm)⟩
    refine ⟨PS.gs hX' g1 (fun e' => ?_) (fun e' => ?_), (h.px e he).2⟩
    · obtain ⟨c1, q1⟩ := hst _ e'
      rw [hX'.blk] at q1
      simp at q1
    · obtain ⟨c1, q1⟩ := hst _ e'
      exact hX'.map.notCells q1
  · have hrk : ∀ b', RSt (wr.alloc (.cells #[.pointer (some ⟨b, 0, none⟩)] 56)) b' 200 0 0 false (.slice none 0 0) → RSt w1 b' 200 0 0 false (.slice none 0 0) := fun b' hR => by
      refine (hot b' (by simpa using hR.lt) (fun e => ?_)).trans hR
      obtain ⟨c1, q1⟩ := hst b' e
      rw [show (wr.alloc _).heap[b']? = _ from hR] at q1
      simp at q1
    intro b' hb'
    rcases List.mem_append.1 hb' with he | he
    · exact ⟨hrk b' (h'.rd b' he).1, (h.rd b' he).2⟩
    · simp at he
      subst he
      exact ⟨hrk _ (hX.bel2 hal), hb⟩
  · intro i j e f he hf hij
    rcases snoc_get he with ⟨hi, he⟩ | ⟨hi, he⟩ <;> rcases snoc_get hf with ⟨hj, hf⟩ | ⟨hj, hf⟩
    · exact h.ar i j e f he hf hij
    · rw [hf]; exact hd e (List.mem_of_getElem? he)
    · rw [he]; exact fun q => hd f (List.mem_of_getElem? hf) q.symm
    · omega
end
end Go.Proofs.Ytepmhgkegfpmjaa
