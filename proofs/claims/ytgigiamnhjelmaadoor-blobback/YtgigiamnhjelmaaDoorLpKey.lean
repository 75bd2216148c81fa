/-
  Lz: a map from four bytes to the place where they were seen last.
-/
import Derived.Test.YtgigiamnhjelmaaDoorLpMath
import Derived.Test.YtgigiamnhjelmaaDoorLpRead
import Derived.Maps.OwnSet
import Derived.DeepKeys4
namespace Go.Proofs.YtgigiamnhjelmaaDoor
open Go.RowKit Go.Lib Go.Maps
theorem klaidOut : laidOutB Tryd.prog = true := by kernel_rfl
theorem klaw : Keyed Tryd.prog 125 := Keyed.of_law (deep_law_laid (m := 3) klaidOut (by omega) (of_decide_eq_true (by kernel_rfl)) (by kernel_rfl) (by kernel_rfl))
theorem kzero (w : World) : (zeroValue 21).run Tryd.prog w = .ok (.int .i32 0) w := by kernel_rfl
def b8 (n : Nat) : Value := .int .u8 (n : Int)
/-- The key that four bytes are. -/
def kF (a b c d : Nat) : Lit := .string (keyBytes [.int .u8 (a : Int), .int .u8 (b : Int), .int .u8 (c : Int), .int .u8 (d : Int)])
theorem kF_of {a b c d : Nat} (ha : a < 256) (hb : b < 256) (hc : c < 256) (hd : d < 256) : keyOf Tryd.prog 125 (.agg #[b8 a, b8 b, b8 c, b8 d]) = some (kF a b c d) := by
  have e0 : Tryd.prog.types.size = (Tryd.prog.types.size - 1) + 1 := by
    have : decide (0 < Tryd.prog.types.size) = true := by kernel_rfl
    have := of_decide_eq_true this
    omega
  have hu := Tryd.underlying125
  have hi := Tryd.underlying5
  have c1 : Tryd.prog.cellsOf 5 = 1 := by kernel_rfl
  have c3 : Tryd.prog.cellsOf 125 = 4 := by kernel_rfl
  have hk : Tryd.prog.keyType 125 = true := by kernel_rfl
  have hw : ∀ x : Nat, x < 256 → (Lit.int .u8 (x : Int)).wf = true := fun x hx => WalkArith.wf_u8 ⟨by omega, by omega⟩
  have k1 : ∀ m (x : Nat), x < 256 → Tryd.prog.keyLits (m + 1) 5 [b8 x] = some [.int .u8 (x : Int)] := fun m x hx => by
    unfold Program.keyLits
    simp [hi, b8, hw x hx]
  have k3 : ∀ m, Tryd.prog.keyLits (m + 2) 125 [b8 a, b8 b, b8 c, b8 d] = some [.int .u8 (a : Int), .int .u8 (b : Int), .int .u8 (c : Int), .int .u8 (d : Int)] := fun m => by
    unfold Program.keyLits
    simp [hu, c1, c3, k1, ha, hb, hc, hd, List.range_succ]
  unfold keyOf
  rw [hu]
  simp only [hk, Value.formed, hu, c3, Bool.true_and, List.size_toArray, List.length_cons, List.length_nil, Nat.reduceAdd, beq_self_eq_true, if_true, Value.cells]
  rw [e0, show Tryd.prog.types.size - 1 + 1 + 1 = (Tryd.prog.types.size - 1) + 2 from rfl, k3]
  rfl
theorem kF_inj {a b c d a' b' c' d' : Nat} (h1 : a < 256 ∧ b < 256 ∧ c < 256 ∧ d < 256) (h2 : a' < 256 ∧ b' < 256 ∧ c' < 256 ∧ d' < 256) (h : kF a b c d = kF a' b' c' d') : a = a' ∧ b = b' ∧ c = c' ∧ d = d' := by
  have x := kF_of h1.1 h1.2.1 h1.2.2.1 h1.2.2.2
  have y := kF_of h2.1 h2.2.1 h2.2.2.1 h2.2.2.2
  rw [← h] at y
  have := klaw.inj x y
  simp [b8] at this
  omega
/-- The key of a place. -/
def kP (s : ByteArray) (i : Nat) : Lit := kF (bt s i) (bt s (i + 1)) (bt s (i + 2)) (bt s (i + 3))
def kV (s : ByteArray) (i : Nat) : Value := .agg #[b8 (bt s i), b8 (bt s (i + 1)), b8 (bt s (i + 2)), b8 (bt s (i + 3))]
theorem kP_of (s : ByteArray) (i : Nat) : keyOf Tryd.prog 125 (kV s i) = some (kP s i) := kF_of (bt_lt _ _) (bt_lt _ _) (bt_lt _ _) (bt_lt _ _)
theorem kP_inj {s : ByteArray} {i j : Nat} (h : kP s i = kP s j) : s4 s i j := kF_inj ⟨bt_lt _ _, bt_lt _ _, bt_lt _ _, bt_lt _ _⟩ ⟨bt_lt _ _, bt_lt _ _, bt_lt _ _, bt_lt _ _⟩ h
theorem kP_same {s : ByteArray} {i j : Nat} (h : s4 s i j) : kP s i = kP s j := by rw [kP, kP, h.1, h.2.1, h.2.2.1, h.2.2.2]
/-- The last place ahead of k, with four bytes behind it, that has those of i. -/
def luG (s : ByteArray) (i : Nat) : Nat → Option Nat
  | 0 => none
  | j + 1 => if j + 4 ≤ s.size ∧ s4 s j i then some j else luG s i j
theorem luG_pv {s : ByteArray} {i : Nat} (h : i + 4 ≤ s.size) : ∀ k, k ≤ i → luG s i k = pvG s i k
  | 0, _ => rfl
  | k + 1, hk => by
    rw [luG, pvG, luG_pv h k (by omega)]
    by_cases c : s4 s k i
    · rw [if_pos ⟨by omega, c⟩, if_pos c]
    · rw [if_neg (fun e => c e.2), if_neg c]
theorem luG_lt {s : ByteArray} {i : Nat} : ∀ {k j : Nat}, luG s i k = some j → j < k
  | 0, _, h => by cases h
  | k + 1, j, h => by
    rw [luG] at h
    split at h
    · simp only [Option.some.injEq] at h
      omega
    · have := luG_lt h
      omega
/-- At block b lies a map from the four bytes of each place to where they were seen last, ahead of k. -/
def MF (w : World) (b : Nat) (s : ByteArray) (k : Nat) : Prop :=
  ∃ (n : Nat) (D : DataW Unit), n ≤ k ∧ w.ownsMap Tryd.prog 125 (plainElem Tryd.prog 21) b n D ∧ (∀ i, has D (kP s i) = (luG s i k).isSome) ∧ ∀ i j, luG s i k = some j → ∀ z, D.atKey (kP s i) z = .lit (.int .i32 (j : Int))
section
variable {w w' : World} {b k : Nat} {s : ByteArray}
theorem MF.made (w : World) (s : ByteArray) : MF (w.alloc (.map #[] 0)) w.heap.size s 0 :=
  ⟨0, _, Nat.le_refl _, World.ownsMap_made w _ _ _, fun i => by simp [has, luG], fun i j h => by cases h⟩
theorem MF.lt (h : MF w b s k) : b < w.heap.size := by obtain ⟨n, D, _, h, _⟩ := h; exact h.lt
theorem MF.kb (h : MF w b s k) (e : w'.heap[b]? = w.heap[b]?) : MF w' b s k := by
  obtain ⟨n, D, hn, ⟨es, clock, hb, h1⟩, h2⟩ := h
  exact ⟨n, D, hn, ⟨es, clock, e.trans hb, h1⟩, h2⟩
theorem MF.gs {p : Nat → Prop} (h : MF w b s k) (hg : Gs p w w') (hp : ¬ p b) : MF w' b s k := h.kb (hg.block b h.lt hp)
theorem MF.notCells (h : MF w b s k) {cs : Array Value} {T : TypeId} {fr : Nat × Nat} (hc : w.heap[b]? = some (.cells cs T fr)) : False := by
  obtain ⟨n, D, _, ⟨es, clock, hb, _⟩, _⟩ := h
  rw [hb] at hc
  simp at hc
theorem MF.look (h : MF w b s k) (i : Nat) :
    (Instr.lookup 57 (.map (some b)) (kV s i) true).run Tryd.prog w = .ok (.tuple #[.int .i32 (((luG s i k).getD 0 : Nat) : Int), .bool (luG s i k).isSome]) w := by
  obtain ⟨n, D, _, hD, hh, ha⟩ := h
  obtain ⟨v, ps, hr, hv⟩ := hD.look_ok klaw Tryd.underlying57 (kzero w) (plainElem_int Tryd.underlying21 (by decide)) (kP_of s i)
  obtain ⟨a, rfl, e, _⟩ := plainElem_int_inv Tryd.underlying21 hv
  rw [hr, hh i]
  simp only [Prod.mk.injEq] at e
  cases hf : luG s i k with
  | none =>
    have := atKey_of_not_has (D := D) (k := kP s i) (by rw [hh i, hf]; rfl) (.lit (.int .i32 0))
    rw [this] at e
    simp at e
    rw [← e.1]
    rfl
  | some j =>
    rw [ha i j hf] at e
    simp at e
    rw [← e.1]
    rfl
theorem MF.skip (h : MF w b s k) (hk : ¬ k + 4 ≤ s.size) : MF w b s (k + 1) := by
  obtain ⟨n, D, hn, hD, hh, ha⟩ := h
  have e : ∀ i, luG s i (k + 1) = luG s i k := fun i => by rw [luG, if_neg (fun e => hk e.1)]
  exact ⟨n, D, by omega, hD, fun i => by rw [e]; exact hh i, fun i j hj => by rw [e] at hj; exact ha i j hj⟩
theorem MF.update (h : MF w b s k) (hn : k ≤ 100000) (hk : k + 4 ≤ s.size) :
    ∃ w', (Instr.mapUpdate 57 (.map (some b)) (kV s k) (.int .i32 (k : Int))).run Tryd.prog w = .ok () w' ∧ MF w' b s (k + 1) ∧ Gs (fun i => i = b) w w' := by
  obtain ⟨n, D, hnk, hD, hh, ha⟩ := h
  obtain ⟨w', hr, hD', hg⟩ := hD.update klaw Tryd.underlying57 (by unfold maxLen; omega) (kP_of s k) (plainElem_int Tryd.underlying21 (a := (k : Int)) (WalkArith.wf_i32 ⟨by omega, by omega⟩))
  have hM := hD.isMap
  have hkl : WideAt.IsKeyLit (kP s k) := klaw.key (kP_of s k)
  refine ⟨w', hr, ⟨_, _, by omega, hD', fun i => ?_, fun i j hj z => ?_⟩, (Gs.refl (fun i => i = b) w).gb hg (.inl rfl)⟩
  · rw [luG]
    by_cases he : s4 s k i
    · rw [if_pos ⟨hk, he⟩, ← kP_same he]
      exact has_true_of_atKey (fun z => atKey_put_same hM hkl _ z)
    · rw [if_neg (fun e => he e.2), has_put_other (fun e => he (kP_inj e).symm), hh i]
  · rw [luG] at hj
    by_cases he : s4 s k i
    · rw [if_pos ⟨hk, he⟩] at hj
      simp only [Option.some.injEq] at hj
      subst hj
      rw [← kP_same he]
      exact atKey_put_same hM hkl _ z
    · rw [if_neg (fun e => he e.2)] at hj
      rw [atKey_put_other (fun e => he (kP_inj e).symm)]
      exact ha i j hj z
end
end Go.Proofs.YtgigiamnhjelmaaDoor
