/-
  SdList: texts of earlier layers, laid over this program.
-/
import Derived.Test.YtklaeocnimkboaaGreatDoorSdCheck
import Derived.Test.YtklaeocnimkboaaGreatDoorBRefJ
import Derived.Test.YtklaeocnimkboaaGreatDoorBSha
import Derived.Maps.AppendAt
namespace Go.Proofs.YtklaeocnimkboaaGreatDoor
open Go.RowKit Go.Lib

def six (x : SX) : List Value := [.int .i64 x.k, .int .i64 x.m, .int .i64 x.i, .int .i64 x.long, .string x.id, .string x.data]
def scells (X : Nat → SX) : Nat → List Value
  | 0 => []
  | n + 1 => scells X n ++ six (X n)
section
variable {X Y : Nat → SX}
theorem scells_length : ∀ n, (scells X n).length = n * 6
  | 0 => rfl
  | n + 1 => by rw [scells, List.length_append, scells_length n]; show _ + 6 = _; omega
theorem scells_get {i j : Nat} (hj : j < 6) : ∀ {n}, i < n → (scells X n)[i * 6 + j]? = (six (X i))[j]?
  | 0, h => by omega
  | n + 1, h => by
    rw [scells]
    by_cases e : i < n
    · rw [List.getElem?_append_left (by rw [scells_length]; omega), scells_get hj e]
    · obtain rfl : i = n := by omega
      rw [List.getElem?_append_right (by rw [scells_length]; omega), scells_length, show i * 6 + j - i * 6 = j by omega]
theorem scells_congr : ∀ {n}, (∀ i, i < n → X i = Y i) → scells X n = scells Y n
  | 0, _ => rfl
  | n + 1, h => by rw [scells, scells, scells_congr (fun i hi => h i (by omega)), h n (by omega)]
end
/-- The six cells of a shard, from a place on. -/
structure C6 (w : World) (b o : Nat) (x : SX) : Prop where
  c0 : w.cell? ⟨b, o, none⟩ = some (.int .i64 x.k)
  c1 : w.cell? ⟨b, o + 1, none⟩ = some (.int .i64 x.m)
  c2 : w.cell? ⟨b, o + 2, none⟩ = some (.int .i64 x.i)
  c3 : w.cell? ⟨b, o + 3, none⟩ = some (.int .i64 x.long)
  c4 : w.cell? ⟨b, o + 4, none⟩ = some (.string x.id)
  c5 : w.cell? ⟨b, o + 5, none⟩ = some (.string x.data)
theorem C6.below {w w' : World} {b o B : Nat} {x : SX} (h : C6 w b o x) (hb : Below B w w') (hl : b < B) : C6 w' b o x :=
  ⟨(hb.cell (p := ⟨b, o, none⟩) hl).trans h.c0, (hb.cell (p := ⟨b, o + 1, none⟩) hl).trans h.c1, (hb.cell (p := ⟨b, o + 2, none⟩) hl).trans h.c2, (hb.cell (p := ⟨b, o + 3, none⟩) hl).trans h.c3, (hb.cell (p := ⟨b, o + 4, none⟩) hl).trans h.c4, (hb.cell (p := ⟨b, o + 5, none⟩) hl).trans h.c5⟩
/-- A list of n shards lies in memory. -/
def LX (w : World) (v : Value) (n : Nat) (X : Nat → SX) : Prop :=
  ∃ a c, v = .slice a n c ∧ (n = 0 ∨ ∃ bl off, a = some ⟨bl, off, none⟩ ∧ bl < w.heap.size ∧ ∀ i, i < n → C6 w bl (off + i * 6) (X i))
structure IQ (T : TypeId) (B : Nat) (v : Value) (n : Nat) (X : Nat → SX) (w : World) : Prop where
  own : w.ownsRow B T 6 v n (scells X n)
section
variable {T : TypeId} {B n : Nat} {v : Value} {X Y : Nat → SX} {w w' : World}
theorem LX.below (h : LX w v n X) {b : Nat} (hb : Below b w w') (hB : w.heap.size ≤ b) : LX w' v n X := by
  obtain ⟨a, c, e, h0 | ⟨bl, off, ea, hl, hc⟩⟩ := h
  · exact ⟨a, c, e, .inl h0⟩
  · exact ⟨a, c, e, .inr ⟨bl, off, ea, Nat.lt_of_lt_of_le hl hb.size, fun i hi => (hc i hi).below hb (Nat.lt_of_lt_of_le hl hB)⟩⟩
theorem LX.congr (h : LX w v n X) (e : ∀ i, i < n → X i = Y i) : LX w v n Y := by
  obtain ⟨a, c, ev, h0 | ⟨bl, off, ea, hl, hc⟩⟩ := h
  · exact ⟨a, c, ev, .inl h0⟩
  · exact ⟨a, c, ev, .inr ⟨bl, off, ea, hl, fun i hi => by rw [← e i hi]; exact hc i hi⟩⟩
theorem IQ.nil (T : TypeId) (B : Nat) (w : World) (X : Nat → SX) : IQ T B (.slice none 0 0) 0 X w := ⟨World.ownsRow_nil w B T 6⟩
theorem IQ.lx (h : IQ T B v n X w) : LX w v n X := by
  obtain ⟨h1, ⟨rfl, h2⟩ | ⟨g, cap, cur, rfl, hB, hg, hn, _, hs, ht⟩⟩ := h.own
  · subst h2; exact ⟨_, _, rfl, .inl rfl⟩
  · refine ⟨_, cap, rfl, .inr ⟨g, 0, rfl, lt_of_block hg, fun i hi => ?_⟩⟩
    have e : ∀ j, j < 6 → ∀ u, (six (X i))[j]? = some u → w.cell? ⟨g, 0 + i * 6 + j, none⟩ = some u := fun j hj u hu => by
      have e0 := scells_get (X := X) hj hi
      rw [← ht, List.getElem?_take, if_pos (by omega)] at e0
      rw [Nat.zero_add, cell_of_row w g _ _ _ _ hg]
      rw [← hu, ← e0]
      simp
    exact ⟨e 0 (by decide) _ rfl, e 1 (by decide) _ rfl, e 2 (by decide) _ rfl, e 3 (by decide) _ rfl, e 4 (by decide) _ rfl, e 5 (by decide) _ rfl⟩
theorem IQ.shp (h : IQ T B v n X w) : ∃ a c, v = .slice a n c := by
  obtain ⟨a, c, e, _⟩ := h.lx
  exact ⟨a, c, e⟩
theorem IQ.keep (h : IQ T B v n X w) (hb : Below w.heap.size w w') : IQ T B v n X w' := by
  refine ⟨h.own.1, ?_⟩
  rcases h.own.2 with h2 | ⟨g, cap, cur, e, hB, hg, r⟩
  · exact .inl h2
  · exact .inr ⟨g, cap, cur, e, hB, (hb.block g (lt_of_block hg)).trans hg, r⟩
theorem IQ.apart {row : Option Nat} (h : IQ T B v n X w) (hg : w.grownBy w' row) (ha : ∀ b, v.ownBlock = some b → row ≠ some b) : IQ T B v n X w' := by
  refine ⟨h.own.1, ?_⟩
  rcases h.own.2 with h2 | ⟨g, cap, cur, e, hB, hgg, r⟩
  · exact .inl h2
  · exact .inr ⟨g, cap, cur, e, hB, (hg.block g (lt_of_block hgg) (by have := ha g (by rw [e]; rfl); exact fun x => this x.symm)).trans hgg, r⟩
theorem IQ.lt (h : IQ T B v n X w) (b : Nat) (hb : v.ownBlock = some b) : B ≤ b ∧ b < w.heap.size := by
  obtain ⟨h1, ⟨rfl, h2⟩ | ⟨g, cap, cur, rfl, hB, hg, _⟩⟩ := h.own
  · simp [Value.ownBlock] at hb
  · simp only [Value.ownBlock, Option.some.injEq] at hb
    subst hb
    exact ⟨hB, lt_of_block hg⟩
theorem IQ.congr (h : IQ T B v n X w) (e : ∀ i, i < n → X i = Y i) : IQ T B v n Y w := ⟨by rw [← scells_congr e]; exact h.own⟩
/-- Lists of two types lie apart. -/
theorem IQ.ne {T' : TypeId} {B' n' : Nat} {v' : Value} (hT : T ≠ T') (h : IQ T B v n X w) (h' : IQ T' B' v' n' Y w) (b : Nat) (hb : v.ownBlock = some b) : v'.ownBlock ≠ some b := by
  rcases h.own.2 with ⟨rfl, _⟩ | ⟨g, cap, cur, e, hB, hg, _⟩
  · simp [Value.ownBlock] at hb
  · rw [e] at hb
    simp only [Value.ownBlock, Option.some.injEq] at hb
    subst hb
    rcases h'.own.2 with ⟨rfl, _⟩ | ⟨g', cap', cur', e', hB', hg', _⟩
    · simp [Value.ownBlock]
    · intro e2
      rw [e'] at e2
      simp only [Value.ownBlock, Option.some.injEq] at e2
      subst e2
      rw [hg] at hg'
      simp at hg'
      exact hT hg'.2
end
/-- The block of one shard. -/
def oneS (x : SX) (T : TypeId) : Obj := .cells #[.int .i64 x.k, .int .i64 x.m, .int .i64 x.i, .int .i64 x.long, .string x.id, .string x.data] T
/-- One shard more. -/
theorem IQ.one {T ST : TypeId} {B n : Nat} {v : Value} {X : Nat → SX} {w : World} (hu : Tryz.prog.underlying ST = some (.slice T)) (hinf : (Tryz.prog.info? T).map (fun i => (i.zero, i.size, i.bytes)) = some (some (.agg #[.int .i64 0, .int .i64 0, .int .i64 0, .int .i64 0, .string ⟨#[]⟩, .string ⟨#[]⟩]), 6, 64))
    (h : IQ T B v n X w) (x : SX) (hb : n + 1 ≤ 100000) (hB : B ≤ w.heap.size) :
    ∃ a' c' w', (Builtin.append_ #[ST, ST] ST #[v, .slice (some ⟨w.heap.size, 0, none⟩) 1 1]).run Tryz.prog (w.alloc (oneS x T)) = .ok (.slice a' (n + 1) c') w' ∧ IQ T B (.slice a' (n + 1) c') (n + 1) (fun t => if t < n then X t else x) w' ∧ (w.alloc (oneS x T)).grownBy w' v.ownBlock ∧ ∀ b, (Value.slice a' (n + 1) c').ownBlock = some b → v.ownBlock = some b ∨ b = w.heap.size + 1 := by
  have hal : Below w.heap.size w (w.alloc (oneS x T)) := below_alloc (Below.refl _ _) _
  have h' := h.keep hal
  obtain ⟨i0, hi, hz0, hz1, hz2⟩ := info_parts hinf
  obtain ⟨v', w', h1, h2, h3, _, h5⟩ := run_append_own_at (P := Tryz.prog) _ B ST ST T i0 (.agg #[.int .i64 0, .int .i64 0, .int .i64 0, .int .i64 0, .string ⟨#[]⟩, .string ⟨#[]⟩]) 6 64 hu hi hz0 hz1 hz2 rfl (by decide) v n (scells X n) h'.own ⟨w.heap.size, 0, none⟩ 1 1 (six x) rfl (fun j u hj => by
      rw [Addr.add_mid, Nat.zero_add, oneS, cell_of_row _ _ _ _ _ _ (heap_alloc_new w _)]
      simpa [six] using hj) (by simp [six, Value.oneCell']) (by unfold maxLen; omega) (by omega) (by simp; omega)
  have e : scells X n ++ six x = scells (fun t => if t < n then X t else x) (n + 1) := by
    have e1 : scells X n = scells (fun t => if t < n then X t else x) n := scells_congr fun i hi => (if_pos hi).symm
    have e2 : (if n < n then X n else x) = x := if_neg (by omega)
    rw [scells, ← e1, e2]
  have hI : IQ T B v' (n + 1) _ w' := ⟨by rw [← e]; exact h2⟩
  obtain ⟨a', c', rfl⟩ := hI.shp
  refine ⟨a', c', w', h1, hI, h3, fun b hb => ?_⟩
  rcases h5 with h5 | h5
  · exact .inl (h5 ▸ hb)
  · rw [h5] at hb
    simp at hb
    exact .inr (by omega)
theorem Tryz.infoSh : (Tryz.prog.info? 33).map (fun i => (i.zero, i.size, i.bytes)) = some (some (.agg #[.int .i64 0, .int .i64 0, .int .i64 0, .int .i64 0, .string ⟨#[]⟩, .string ⟨#[]⟩]), 6, 64) := by kernel_rfl
theorem Tryz.infoRSh : (Tryz.prog.info? 34).map (fun i => (i.zero, i.size, i.bytes)) = some (some (.agg #[.int .i64 0, .int .i64 0, .int .i64 0, .int .i64 0, .string ⟨#[]⟩, .string ⟨#[]⟩]), 6, 64) := by kernel_rfl

/-! ### What shards are gathered to -/
def ftS (x y : SX) : Prop := x.k = y.k ∧ x.m = y.m ∧ x.long = y.long ∧ x.id = y.id
def allS (X : Nat → SX) (n : Nat) : Prop := ∀ i, i < n → okS (X i) ∧ ftS (X 0) (X i)
def gJC (X : Nat → SX) (n : Nat) : Int := jnC (X 0).k.toNat (X 0).m.toNat (X 0).long (fun i => (X i).i) (fun i => (X i).data) n
def gJS (X : Nat → SX) (n : Nat) : ByteArray := jnS (X 0).k.toNat (X 0).m.toNat (X 0).long (fun i => (X i).i) (fun i => (X i).data) n
/-- The answer of Gather. -/
def GA (X : Nat → SX) (n : Nat) (S : ByteArray) (c : Int) : Prop :=
  (¬ (0 < n ∧ allS X n) ∧ S = ⟨#[]⟩ ∧ c = 4) ∨ ((0 < n ∧ allS X n) ∧ ((gJC X n ≠ 0 ∧ S = ⟨#[]⟩ ∧ c = gJC X n) ∨ (gJC X n = 0 ∧ ((bs (Sh.digest (gJS X n).data.toList) ≠ (X 0).id ∧ S = ⟨#[]⟩ ∧ c = 60) ∨ (bs (Sh.digest (gJS X n).data.toList) = (X 0).id ∧ S = gJS X n ∧ c = 0)))))
theorem GA.one {X : Nat → SX} {n : Nat} {S S' : ByteArray} {c c' : Int} (h : GA X n S c) (h' : GA X n S' c') : S = S' ∧ c = c' := by
  rcases h with ⟨h1, rfl, rfl⟩ | ⟨h1, h2⟩ <;> rcases h' with ⟨k1, rfl, rfl⟩ | ⟨k1, k2⟩
  · exact ⟨rfl, rfl⟩
  · exact absurd k1 h1
  · exact absurd h1 k1
  · rcases h2 with ⟨h3, rfl, rfl⟩ | ⟨h3, h4⟩ <;> rcases k2 with ⟨k3, rfl, rfl⟩ | ⟨k3, k4⟩
    · exact ⟨rfl, rfl⟩
    · exact absurd k3 h3
    · exact absurd h3 k3
    · rcases h4 with ⟨h5, rfl, rfl⟩ | ⟨h5, rfl, rfl⟩ <;> rcases k4 with ⟨k5, rfl, rfl⟩ | ⟨k5, rfl, rfl⟩
      · exact ⟨rfl, rfl⟩
      · exact absurd k5 h5
      · exact absurd h5 k5
      · exact ⟨rfl, rfl⟩
theorem GA.congr {X Y : Nat → SX} {n : Nat} {S : ByteArray} {c : Int} (h : GA X n S c) (e : ∀ i, X i = Y i) : GA Y n S c := by
  have : X = Y := funext e
  rw [← this]
  exact h
end Go.Proofs.YtklaeocnimkboaaGreatDoor

