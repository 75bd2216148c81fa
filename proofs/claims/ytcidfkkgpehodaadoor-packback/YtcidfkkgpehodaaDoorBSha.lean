/-
  ShMath, ShTurn, ShKit, ShSpread, ShTake, ShHash, ShPad, ShEnd, ShSum, ShSums: texts of earlier layers, laid over this program.
-/
import Derived.Lib.VarintMem
import Derived.Test.YtcidfkkgpehodaaDoorRows
import Derived.ProofKit
import Derived.WalkKit
import Derived.WalkSpells
import Derived.WalkLawsBesides
import Derived.Deep.QuietTactic
import Derived.BigQuiet
import Derived.Laws.Unary
import Derived.Deep.WholeRow
import Derived.Deep.MidRow
import Derived.Lib.LaidTab
import Derived.Lib.SliceRun
import Derived.Lib.BufferWrite
import Derived.BigRegion
import Derived.Deep.RegionHeld3
import Derived.Great.BuildSlice
namespace Go.Proofs.YtcidfkkgpehodaaDoor.Zq.Sh
open Go.Lib

/-- x turned by n: its lowest n bits on top. -/
def rotr (x : Int) (n : Nat) : Int := bits .or .u32 (x / 2 ^ n) (x * 2 ^ (32 - n) % 4294967296)

def low (x : Int) : Int := bits .xor .u32 (bits .xor .u32 (rotr x 7) (rotr x 18)) (x / 8)
def high (y : Int) : Int := bits .xor .u32 (bits .xor .u32 (rotr y 17) (rotr y 19)) (y / 1024)
/-- A word that is made of words ahead of it: of those 16, 7, 15 and 2 ahead. -/
def mixW (a b x y : Int) : Int := (((a + b) % 4294967296 + low x) % 4294967296 + high y) % 4294967296

/-- Eight words. -/
structure V8 where
  a : Int
  b : Int
  c : Int
  d : Int
  e : Int
  f : Int
  g : Int
  h : Int

def tOf (v : V8) (k w : Int) : Int :=
  ((((v.h + bits .xor .u32 (bits .xor .u32 (rotr v.e 6) (rotr v.e 11)) (rotr v.e 25)) % 4294967296 + bits .xor .u32 (bits .and .u32 v.e v.f) (bits .andNot .u32 v.g v.e)) % 4294967296 + k) % 4294967296 + w) % 4294967296
def uOf (v : V8) : Int :=
  (bits .xor .u32 (bits .xor .u32 (rotr v.a 2) (rotr v.a 13)) (rotr v.a 22) + bits .xor .u32 (bits .xor .u32 (bits .and .u32 v.a v.b) (bits .and .u32 v.a v.c)) (bits .and .u32 v.b v.c)) % 4294967296
def stepV (k w : Int) (v : V8) : V8 :=
  ⟨(tOf v k w + uOf v) % 4294967296, v.a, v.b, v.c, (v.d + tOf v k w) % 4294967296, v.e, v.f, v.g⟩

def Ks : List Int := [1116352408, 1899447441, 3049323471, 3921009573, 961987163, 1508970993, 2453635748, 2870763221, 3624381080, 310598401, 607225278, 1426881987, 1925078388, 2162078206, 2614888103, 3248222580, 3835390401, 4022224774, 264347078, 604807628, 770255983, 1249150122, 1555081692, 1996064986, 2554220882, 2821834349, 2952996808, 3210313671, 3336571891, 3584528711, 113926993, 338241895, 666307205, 773529912, 1294757372, 1396182291, 1695183700, 1986661051, 2177026350, 2456956037, 2730485921, 2820302411, 3259730800, 3345764771, 3516065817, 3600352804, 4094571909, 275423344, 430227734, 506948616, 659060556, 883997877, 958139571, 1322822218, 1537002063, 1747873779, 1955562222, 2024104815, 2227730452, 2361852424, 2428436474, 2756734187, 3204031479, 3329325298]
def K (i : Nat) : Int := Ks.getD i 0
def first : V8 := ⟨1779033703, 3144134277, 1013904242, 2773480762, 1359893119, 2600822924, 528734635, 1541459225⟩

def rounds (W : Nat → Int) : Nat → V8 → V8
  | 0, v => v
  | n + 1, v => stepV (K n) (W n) (rounds W n v)

def addV (l v : V8) : V8 :=
  ⟨(l.a + v.a) % 4294967296, (l.b + v.b) % 4294967296, (l.c + v.c) % 4294967296, (l.d + v.d) % 4294967296,
   (l.e + v.e) % 4294967296, (l.f + v.f) % 4294967296, (l.g + v.g) % 4294967296, (l.h + v.h) % 4294967296⟩

/-- A block's own word i. -/
def ownW (bl : List UInt8) (i : Nat) : Int :=
  ((bl.getD (4 * i) 0).toNat * 16777216 + (bl.getD (4 * i + 1) 0).toNat * 65536 + (bl.getD (4 * i + 2) 0).toNat * 256 + (bl.getD (4 * i + 3) 0).toNat : Nat)

/-- A block's words so far, the last one first. -/
def sched (bl : List UInt8) : Nat → List Int
  | 0 => (List.range 16).reverse.map (ownW bl)
  | n + 1 => mixW ((sched bl n).getD 15 0) ((sched bl n).getD 6 0) ((sched bl n).getD 14 0) ((sched bl n).getD 1 0) :: sched bl n

/-- A block's word i. -/
def W (bl : List UInt8) (i : Nat) : Int := (sched bl 48).getD (63 - i) 0

theorem sched_length (bl : List UInt8) : ∀ n, (sched bl n).length = 16 + n
  | 0 => by simp [sched]
  | n + 1 => by simp [sched, sched_length bl n]; omega

theorem sched_drop (bl : List UInt8) (n : Nat) : ∀ k, (sched bl (n + k)).drop k = sched bl n
  | 0 => rfl
  | k + 1 => by rw [← Nat.add_assoc, sched, List.drop_succ_cons, sched_drop bl n k]

theorem sched_getD (bl : List UInt8) (n j : Nat) (hn : n ≤ 48) (hj : j < 16 + n) : (sched bl n).getD j 0 = W bl (15 + n - j) := by
  have h := sched_drop bl n (48 - n)
  rw [show n + (48 - n) = 48 from by omega] at h
  rw [← h]
  unfold W
  simp only [List.getD_eq_getElem?_getD, List.getElem?_drop]
  rw [show 48 - n + j = 63 - (15 + n - j) from by omega]

theorem W_own (bl : List UInt8) (i : Nat) (h : i < 16) : W bl i = ownW bl i := by
  have := sched_getD bl 0 (15 - i) (by omega) (by omega)
  rw [show 15 + 0 - (15 - i) = i from by omega] at this
  rw [← this]
  have h2 : (List.range 16).reverse[15 - i]? = some i := (show ∀ i, i < 16 → (List.range 16).reverse[15 - i]? = some i by decide) i h
  rw [sched, List.getD_eq_getElem?_getD, List.getElem?_map, h2]
  rfl

theorem W_mix (bl : List UInt8) (i : Nat) (h : i < 48) : W bl (i + 16) = mixW (W bl i) (W bl (i + 9)) (W bl (i + 1)) (W bl (i + 14)) := by
  have := sched_getD bl (i + 1) 0 (by omega) (by omega)
  rw [show 15 + (i + 1) - 0 = i + 16 from by omega] at this
  rw [← this, sched, List.getD_cons_zero, sched_getD bl i 15 (by omega) (by omega), sched_getD bl i 6 (by omega) (by omega), sched_getD bl i 14 (by omega) (by omega), sched_getD bl i 1 (by omega) (by omega)]
  congr 2 <;> omega

/-- The cells of a block's words, of which i are told. -/
def wCells (bl : List UInt8) (i : Nat) : List Value := (List.range 64).map fun j => .int .u32 (if j < i then W bl j else 0)

theorem wCells_length (bl : List UInt8) (i : Nat) : (wCells bl i).length = 64 := by simp [wCells]
theorem wCells_get (bl : List UInt8) (i j : Nat) (hj : j < i) (hi : i ≤ 64) : (wCells bl i)[j]? = some (.int .u32 (W bl j)) := by
  simp [wCells, List.getElem?_map, List.getElem?_range (show j < 64 by omega), hj]
theorem wCells_zero (bl : List UInt8) (i j : Nat) (hj : ¬ j < i) (h : j < 64) : (wCells bl i)[j]? = some (.int .u32 0) := by
  simp [wCells, List.getElem?_map, List.getElem?_range h, hj]
theorem wCells_set (bl : List UInt8) (i : Nat) (hi : i < 64) : (wCells bl i).set i (.int .u32 (W bl i)) = wCells bl (i + 1) := by
  apply List.ext_getElem?
  intro j
  rw [List.getElem?_set]
  by_cases hj : i = j
  · subst hj
    rw [if_pos rfl, wCells_length, if_pos hi, wCells_get _ _ _ (Nat.lt_succ_self i) (by omega)]
  · rw [if_neg hj]
    by_cases h64 : j < 64
    · simp only [wCells, List.getElem?_map, List.getElem?_range h64, Option.map_some]
      by_cases hji : j < i
      · rw [if_pos hji, if_pos (by omega)]
      · rw [if_neg hji, if_neg (by omega)]
    · rw [List.getElem?_eq_none (by rw [wCells_length]; omega), List.getElem?_eq_none (by rw [wCells_length]; omega)]
theorem wCells_none (bl : List UInt8) : wCells bl 0 = List.replicate 64 (.int .u32 0) := by
  simp only [wCells, Nat.not_lt_zero, if_false]
  rfl

/-- The words of a block, when they are all told. -/
def allW (bl : List UInt8) : List Value := (List.range 64).map fun j => .int .u32 (W bl j)
theorem wCells_all (bl : List UInt8) : wCells bl 64 = allW bl := by
  apply List.map_congr_left
  intro j hj
  rw [if_pos (List.mem_range.1 hj)]
theorem allW_get (bl : List UInt8) (j : Nat) (h : j < 64) : (allW bl)[j]? = some (.int .u32 (W bl j)) := by
  simp [allW, List.getElem?_map, List.getElem?_range h]
theorem allW_length (bl : List UInt8) : (allW bl).length = 64 := by simp [allW]

/-- A block is taken in. -/
def takeV (l : V8) (bl : List UInt8) : V8 := addV l (rounds (W bl) 64 l)

def block (s : List UInt8) (n : Nat) : List UInt8 := (s.drop (64 * n)).take 64
def blocks (s : List UInt8) : Nat → V8
  | 0 => first
  | n + 1 => takeV (blocks s n) (block s n)

/-- The bytes of a fixed number: the highest first. -/
def fixedOf (x : Nat) : Nat → List UInt8
  | 0 => []
  | k + 1 => (x / 256 ^ k % 256).toUInt8 :: fixedOf x k

def pad (n : Nat) : List UInt8 := 128 :: (List.replicate ((119 - n % 64) % 64) 0 ++ fixedOf (8 * n) 8)
def padded (s : List UInt8) : List UInt8 := s ++ pad s.length
def digestV (s : List UInt8) : V8 := blocks (padded s) ((padded s).length / 64)
def V8.list (v : V8) : List Int := [v.a, v.b, v.c, v.d, v.e, v.f, v.g, v.h]
def digest (s : List UInt8) : List UInt8 := (digestV s).list.flatMap fun x => fixedOf x.toNat 4

/-- The chapter's example. -/
theorem example_abc : (digestV [97, 98, 99]).a = 3128432319 := by kernel_rfl

end Go.Proofs.YtcidfkkgpehodaaDoor.Zq.Sh

namespace Go.Proofs.YtcidfkkgpehodaaDoor.Zq.Sh
open Go.RowKit Go.Lib

theorem or_comm (a b : Int) : bits .or .u32 a b = bits .or .u32 b a := by
  simp only [bits, BitVec.or_comm]

theorem turn_arg (n : Nat) (hn : 1 ≤ n) (hn2 : n ≤ 31) : bits .and .u64 (IntKind.u64.wrap (-(n : Int))) 31 = 32 - (n : Int) :=
  (show ∀ n : Nat, n < 32 → 1 ≤ n → bits .and .u64 (IntKind.u64.wrap (-(n : Int))) 31 = 32 - (n : Int) by decide) n (by omega) hn

set_option maxRecDepth 10000 in
theorem turned_any (x : Int) (n : Nat) (hn : 1 ≤ n) (hn2 : n ≤ 31) (w : World) :
    Calls Tryd.prog 87 #[.int .u32 x, .int .i64 n] w fun e w' => e = .returned (.int .u32 (rotr x n)) ∧ w' = w := by
  have ha := turn_arg n hn hn2
  go_enter Tryd.func87, Tryd.ntmps87
  go_wp2
  go_ret
  refine ⟨?_, rfl⟩
  show Ending.returned (.int .u32 (bits .or .u32 (x * 2 ^ (32 - n) % 4294967296) (x / 2 ^ (32 - (32 - n))))) = _
  rw [show 32 - (32 - n) = n from by omega, or_comm]
  rfl
theorem turned_int (x z : Int) (h1 : 1 ≤ z) (h2 : z ≤ 31) (w : World) :
    Calls Tryd.prog 87 #[.int .u32 x, .int .i64 z] w fun e w' => e = .returned (.int .u32 (rotr x z.toNat)) ∧ w' = w := by
  have := turned_any x z.toNat (by omega) (by omega) w
  rwa [Int.toNat_of_nonneg (by omega)] at this

theorem refTurn_any (x : Int) (n : Nat) (hn : 1 ≤ n) (hn2 : n ≤ 31) (w : World) :
    Calls Tryd.prog 80 #[.int .u32 x, .int .i64 n] w fun e w' => e = .returned (.int .u32 (rotr x n)) ∧ ∃ m, w' = w.drewN m := by
  go_enter Tryd.func80, Tryd.ntmps80
  go_wp2
  go_quiet (fail)
  go_wp2
  go_ret
  exact ⟨rfl, _, rfl⟩
theorem refTurn_int (x z : Int) (h1 : 1 ≤ z) (h2 : z ≤ 31) (w : World) :
    Calls Tryd.prog 80 #[.int .u32 x, .int .i64 z] w fun e w' => e = .returned (.int .u32 (rotr x z.toNat)) ∧ ∃ m, w' = w.drewN m := by
  have := refTurn_any x z.toNat (by omega) (by omega) w
  rwa [Int.toNat_of_nonneg (by omega)] at this
end Go.Proofs.YtcidfkkgpehodaaDoor.Zq.Sh

namespace Go.Proofs.YtcidfkkgpehodaaDoor.Zq.Sh
open Go.RowKit Go.Lib

theorem run_alloc_any {P : Program} {t : TypeId} {z : Array Value} (hz : ∀ w, (zeroValue t).run P w = .ok (.agg z) w) (w : World) :
    (Instr.alloc t true (.tuple #[])).run P w = .ok (.pointer (some ⟨w.heap.size, 0, none⟩)) (w.alloc (.cells z t)) := by
  simp [Instr.alloc, Sem.run_bind, hz, newVar, newRow, Value.cells]

/-- A new variable of a type that has several cells. -/
theorem wpList_alloc_any {P : Program} {ops : Array Oper} {rest : List Oper} {o : Oper} {a : Act} {w : World} {Q : Exit → Act → World → Prop} (hgd : o.guard = none) (t : TypeId) (ho : o.op = .alloc t)
    (z : Array Value) (hz : ∀ w, (zeroValue t).run P w = .ok (.agg z) w)
    (h : ∀ w0 : World, w0.heap[w.heap.size]? = some (.cells z t (0, 0)) → w0.heap.size = w.heap.size + 1 → Below w.heap.size w w0 → wpList P ops Q rest (a.put o.dst (.pointer (some ⟨w.heap.size, 0, none⟩))) w0) : wpList P ops Q (o :: rest) a w :=
  wpList_plain hgd fun K hK => by
    unfold Oper.wp execOp
    simp only [ho, Sem.run_bind, run_alloc_any hz, Result.andThen_ok, Sem.run_pure]
    exact hK _ _ (h _ (heap_alloc_new w _) (by simp) ((Below.refl _ _).alloc (Nat.le_refl _) _))

def zeros64 : Array Value := (List.replicate 64 (.int .u32 0)).toArray
theorem zero53 (w : World) : (zeroValue 126).run Tryd.prog w = .ok (.agg zeros64) w :=
  (zero_of_info (P := Tryd.prog) (t := 126) (v := .agg zeros64) (n := 64) (by kernel_rfl)).1 w
def zeros8 : Array Value := (List.replicate 8 (.int .u32 0)).toArray
theorem zero56 (w : World) : (zeroValue 102).run Tryd.prog w = .ok (.agg zeros8) w :=
  (zero_of_info (P := Tryd.prog) (t := 102) (v := .agg zeros8) (n := 8) (by kernel_rfl)).1 w

/-! ### Four bytes are a word -/
theorem wraps_u32 (n : Int) (h₀ : 0 ≤ n) (h₁ : n < 2 ^ 32) : IntKind.u32.wrap n = n := by rw [IntKind.wrap_u32]; omega
theorem or_u32 (a c i : Nat) (hc : c < 2 ^ i) (ha : a * 2 ^ i < 2 ^ 32) (hc32 : c < 2 ^ 32) : bits .or .u32 ((a * 2 ^ i : Nat) : Int) (c : Int) = ((a * 2 ^ i + c : Nat) : Int) := by
  rw [(bits_nat .u32 32 (by decide) wraps_u32 _ _ ha hc32).2, Nat.mul_comm, Nat.two_pow_add_eq_or_of_lt hc]
theorem or4 (a b c d : Nat) (ha : a < 256) (hb : b < 256) (hc : c < 256) (hd : d < 256) :
    bits .or .u32 (bits .or .u32 (bits .or .u32 ((a : Int) % 4294967296 * 16777216 % 4294967296) ((b : Int) % 4294967296 * 65536 % 4294967296)) ((c : Int) % 4294967296 * 256 % 4294967296)) ((d : Int) % 4294967296) =
      ((a * 16777216 + b * 65536 + c * 256 + d : Nat) : Int) := by
  rw [show (a : Int) % 4294967296 * 16777216 % 4294967296 = ((a * 2 ^ 24 : Nat) : Int) by omega, show (b : Int) % 4294967296 * 65536 % 4294967296 = ((b * 65536 : Nat) : Int) by omega,
    show (c : Int) % 4294967296 * 256 % 4294967296 = ((c * 256 : Nat) : Int) by omega, show (d : Int) % 4294967296 = ((d : Nat) : Int) by omega]
  rw [or_u32 a (b * 65536) 24 (by omega) (by omega) (by omega)]
  rw [show a * 2 ^ 24 + b * 65536 = (a * 256 + b) * 2 ^ 16 by omega, or_u32 (a * 256 + b) (c * 256) 16 (by omega) (by omega) (by omega)]
  rw [show (a * 256 + b) * 2 ^ 16 + c * 256 = ((a * 256 + b) * 256 + c) * 2 ^ 8 by omega, or_u32 _ d 8 (by omega) (by omega) (by omega)]

/-! ### A block's cells as a list -/
def setRange {α : Type} : List α → Nat → List α → List α
  | c, _, [] => c
  | c, o, v :: r => setRange (c.set o v) (o + 1) r

theorem setRange_eq {α : Type} : ∀ (vs c : List α) (o : Nat), o + vs.length ≤ c.length → setRange c o vs = c.take o ++ vs ++ c.drop (o + vs.length)
  | [], c, o, _ => by simp [setRange]
  | v :: r, c, o, h => by
    rw [List.length_cons] at h
    rw [setRange, setRange_eq r (c.set o v) (o + 1) (by rw [List.length_set]; omega)]
    rw [List.take_add_one, List.take_set_of_le (Nat.le_refl _), List.drop_set_of_lt (by omega), List.getElem?_set_self (by omega)]
    simp [Nat.add_comm, Nat.add_left_comm]

theorem heap_set_list {w : World} {b o : Nat} {c : List Value} {T : TypeId} {fr : Nat × Nat} (v : Value) (h : w.heap[b]? = some (.cells c.toArray T fr)) : (w.setCell ⟨b, o, none⟩ v).heap[b]? = some (.cells (c.set o v).toArray T fr) := by
  rw [setCell_eq_setRow w b o _ T fr v h, setRow_heap w b _ _ T fr h]
  simp

theorem heap_setCells_list {b : Nat} {T : TypeId} {fr : Nat × Nat} : ∀ (vs : List Value) (w : World) (o : Nat) (c : List Value), w.heap[b]? = some (.cells c.toArray T fr) → (w.setCells b o vs).heap[b]? = some (.cells (setRange c o vs).toArray T fr)
  | [], _, _, _, h => h
  | v :: r, _, o, c, h => heap_setCells_list r _ (o + 1) (c.set o v) (heap_set_list v h)

theorem size_setCells (b : Nat) : ∀ (vs : List Value) (w : World) (o : Nat), (w.setCells b o vs).heap.size = w.heap.size
  | [], _, _ => rfl
  | _ :: r, w, o => by rw [World.setCells, size_setCells b r]; simp
theorem other_setCells (b : Nat) : ∀ (vs : List Value) (w : World) (o k : Nat), k ≠ b → (w.setCells b o vs).heap[k]? = w.heap[k]?
  | [], _, _, _, _ => rfl
  | _ :: r, w, o, k, h => by rw [World.setCells, other_setCells b r _ _ _ h, heap_setCell_other _ _ _ _ h]
theorem tape_setCells (b : Nat) : ∀ (vs : List Value) (w : World) (o : Nat), (w.setCells b o vs).tape = w.tape
  | [], _, _ => rfl
  | _ :: r, w, o => by rw [World.setCells, tape_setCells b r]; rfl
theorem gb_setCells (w : World) (b o : Nat) (vs : List Value) : w.grownBy (w.setCells b o vs) (some b) :=
  have k := World.keptBut_setCells b (may := fun _ => True) vs o w (fun _ _ => trivial)
  ⟨k.1, tape_setCells b vs w o, k.2.1, Nat.le_of_eq (size_setCells b vs w o).symm, fun k _ hk => other_setCells b vs w o k (fun e => hk (by rw [e]))⟩

/-! ### Growth -/
section
variable {w w' : World} {b : Nat}
theorem gb_set (w : World) (b j : Nat) (u : Value) : w.grownBy (w.setCell ⟨b, j, none⟩ u) (some b) :=
  ⟨rfl, rfl, rfl, by simp, fun k _ hk => heap_setCell_other w ⟨b, j, none⟩ k u (fun e => hk (by simp [e]))⟩
theorem gb_setRow (w : World) (b : Nat) (cs : Array Value) : w.grownBy (w.setRow b cs) (some b) :=
  ⟨rfl, rfl, rfl, by simp, fun k _ hk => setRow_other w b k cs (fun e => hk (by simp [e]))⟩
theorem gb_below (h : Below w.heap.size w w') (row : Option Nat) : w.grownBy w' row := ⟨h.os, h.tape, h.output, h.size, fun k hk _ => h.block k hk⟩
theorem gb_trans {w1 w2 : World} {row : Option Nat} (h : w.grownBy w1 row) (k : w1.grownBy w2 row) : w.grownBy w2 row :=
  ⟨k.os.trans h.os, k.tape.trans h.tape, k.output.trans h.output, Nat.le_trans h.size k.size, fun i hi hne => (k.block i (Nat.lt_of_lt_of_le hi h.size) hne).trans (h.block i hi hne)⟩
theorem gb_drewN {w1 : World} {row : Option Nat} (h : w.grownBy w1 row) (n : Nat) : w.grownBy (w1.drewN n) row := ⟨h.os, h.tape, h.output, h.size, h.block⟩
theorem below_drew {B : Nat} (h : Below B w w') (n : Nat) : Below B w (w'.drewN n) := ⟨h.os, h.tape, h.output, h.size, h.block⟩
/-- What turns a new block alone turns nothing below. -/
theorem below_gb {w1 : World} {B : Nat} (h : Below B w w') (hg : w'.grownBy w1 (some b)) (hb : B ≤ b) (hB : B ≤ w'.heap.size) : Below B w w1 :=
  h.grown hg hB (fun k hk => by cases hk; exact hb)
end

/-! ### A hash in memory -/
def word (x : Int) : Value := .int .u32 x
def hCells (v : V8) (bl : List UInt8) (n : Nat) : List Value := v.list.map word ++ (byteCells bl ++ [.int .i64 n])

/-- A hash at block b: its eight words, its block of 64 bytes, how many bytes were written. -/
def HB (w : World) (b : Nat) (v : V8) (bl : List UInt8) (n : Nat) : Prop := bl.length = 64 ∧ w.heap[b]? = some (.cells (hCells v bl n).toArray 112 (0, 0))

theorem hCells_word (v : V8) (bl : List UInt8) (n k : Nat) (h : k < 8) : (hCells v bl n)[k]? = some (word (v.list.getD k 0)) := by
  rw [hCells, List.getElem?_append_left (by simpa [V8.list] using h), List.getElem?_map, List.getD_eq_getElem?_getD, List.getElem?_eq_getElem (by simpa [V8.list] using h)]
  rfl
theorem hCells_byte (v : V8) (bl : List UInt8) (n j : Nat) (h : j < 64) (hl : bl.length = 64) : (hCells v bl n)[8 + j]? = some (.int .u8 ((bl.getD j 0).toNat : Nat)) := by
  rw [hCells, List.getElem?_append_right (by simp [V8.list]), List.getElem?_append_left (by simp [V8.list, byteCells_length, hl]; omega)]
  rw [show 8 + j - (v.list.map word).length = j from by simp [V8.list], byteCells, List.getElem?_map, List.getD_eq_getElem?_getD, List.getElem?_eq_getElem (by omega)]
  rfl
theorem hCells_long (v : V8) (bl : List UInt8) (n : Nat) (hl : bl.length = 64) : (hCells v bl n)[72]? = some (.int .i64 n) := by
  rw [hCells, List.getElem?_append_right (by simp [V8.list]), List.getElem?_append_right (by simp [V8.list, byteCells_length, hl])]
  simp [V8.list, byteCells_length, hl]
theorem hCells_length (v : V8) (bl : List UInt8) (n : Nat) (hl : bl.length = 64) : (hCells v bl n).length = 73 := by
  simp [hCells, V8.list, byteCells_length, hl]
theorem hCells_setLong (v : V8) (bl : List UInt8) (n m : Nat) (hl : bl.length = 64) : (hCells v bl n).set 72 (.int .i64 m) = hCells v bl m := by
  rw [hCells, hCells, List.set_append_right _ _ (by simp [V8.list]), List.set_append_right _ _ (by simp [V8.list, byteCells_length, hl])]
  simp [V8.list, byteCells_length, hl]
theorem hCells_setByte (v : V8) (bl : List UInt8) (n j : Nat) (x : UInt8) (hl : bl.length = 64) (hj : j < 64) : (hCells v bl n).set (8 + j) (.int .u8 (x.toNat : Nat)) = hCells v (bl.set j x) n := by
  rw [hCells, hCells, List.set_append_right _ _ (by simp [V8.list]), List.set_append_left _ _ (by simp [V8.list, byteCells_length, hl]; omega)]
  rw [show 8 + j - (v.list.map word).length = j from by simp [V8.list], byteCells, byteCells, List.map_set]

section
variable {w w' : World} {b : Nat} {v : V8} {bl : List UInt8} {n : Nat}
theorem HB.lt (h : HB w b v bl n) : b < w.heap.size := lt_of_block h.2
theorem HB.cell (h : HB w b v bl n) (k : Nat) : w.cell? ⟨b, k, none⟩ = (hCells v bl n)[k]? := by
  rw [cell_of_row w b k _ _ _ h.2]; simp
theorem HB.word (h : HB w b v bl n) (k : Nat) (hk : k < 8) : w.cell? ⟨b, k, none⟩ = some (.int .u32 (v.list.getD k 0)) := by rw [h.cell, hCells_word _ _ _ _ hk]; rfl
theorem HB.byte (h : HB w b v bl n) (j : Nat) (hj : j < 64) : w.cell? ⟨b, 8 + j, none⟩ = some (.int .u8 ((bl.getD j 0).toNat : Nat)) := by rw [h.cell, hCells_byte _ _ _ _ hj h.1]
theorem HB.long (h : HB w b v bl n) : w.cell? ⟨b, 72, none⟩ = some (.int .i64 n) := by rw [h.cell, hCells_long _ _ _ h.1]
theorem HB.free (h : HB w b v bl n) (j : Nat) : w.frozen? ⟨b, j, none⟩ = false := frozen_of_row w b j _ _ h.2
theorem HB.of_block (h : HB w b v bl n) (hb : w'.heap[b]? = w.heap[b]?) : HB w' b v bl n := ⟨h.1, hb.trans h.2⟩
theorem HB.below (h : HB w b v bl n) {B : Nat} (hb : Below B w w') (hB : b < B) : HB w' b v bl n := h.of_block (hb.block b hB)
theorem HB.grown (h : HB w b v bl n) {row : Option Nat} (hg : w.grownBy w' row) (hne : some b ≠ row) : HB w' b v bl n := h.of_block (hg.block b h.lt hne)
theorem HB.drewN (h : HB w b v bl n) (k : Nat) : HB (w.drewN k) b v bl n := h
theorem HB.setLong (h : HB w b v bl n) (m : Nat) : HB (w.setCell ⟨b, 72, none⟩ (.int .i64 m)) b v bl m := ⟨h.1, by rw [heap_set_list _ h.2, hCells_setLong _ _ _ _ h.1]⟩
theorem HB.setByte (h : HB w b v bl n) (j : Nat) (x : UInt8) (hj : j < 64) : HB (w.setCell ⟨b, 8 + j, none⟩ (.int .u8 (x.toNat : Nat))) b v (bl.set j x) n :=
  ⟨by rw [List.length_set]; exact h.1, by rw [heap_set_list _ h.2, hCells_setByte _ _ _ _ _ h.1 hj]⟩
end

/-! ### Slices of the 64 bytes -/
theorem und58 : Tryd.prog.underlying 110 = some (.array (Tryd.prog.arrayLen 110) (Tryd.prog.elem 110)) := by kernel_rfl
theorem len58 : Tryd.prog.arrayLen 110 = 64 := by kernel_rfl
theorem elem58 (w : World) : (sizeOf (Tryd.prog.elem 110)).run Tryd.prog w = .ok 1 w := by
  have h : Tryd.prog.elem 110 = 5 := by kernel_rfl
  have h5 : (Tryd.prog.info? 5).map (·.size) = some 1 := by kernel_rfl
  rw [h]
  cases hq : Tryd.prog.info? 5 with
  | none => simp [hq] at h5
  | some i =>
    have hs : i.size = 1 := by simpa [hq] using h5
    simp [sizeOf, typeInfo, hq, hs]
theorem slice58_lh (w : World) (b o l h : Nat) (h1 : l ≤ h) (h2 : h ≤ 64) (hl : l < 64) :
    (Instr.sliceAt 110 (.pointer (some ⟨b, o, none⟩)) (some (.int .i64 l)) (some (.int .i64 h)) none).run Tryd.prog w = .ok (.slice (some ⟨b, o + l, none⟩) (h - l) (64 - l)) w := by
  rw [run_sliceAt_array_lh w 110 _ und58 .i64 .i64 l h (by omega) (by omega) (by rw [len58]; omega), elem58, len58]
  simp only [Result.andThen_ok, slicedAt, Int.toNat_natCast, Nat.mul_one, Addr.add_mid]
  rw [if_neg (by omega)]
theorem slice58_l (w : World) (b o l : Nat) (hl : l < 64) :
    (Instr.sliceAt 110 (.pointer (some ⟨b, o, none⟩)) (some (.int .i64 l)) none none).run Tryd.prog w = .ok (.slice (some ⟨b, o + l, none⟩) (64 - l) (64 - l)) w := by
  rw [run_sliceAt_array_l w 110 _ und58 .i64 l (by omega) (by rw [len58]; omega), elem58, len58]
  simp only [Result.andThen_ok, slicedAt, Int.toNat_natCast, Nat.mul_one, Addr.add_mid]
  rw [if_neg (by omega)]
/-- Behind the last one: nothing. -/
theorem slice58_end (w : World) (b o : Nat) :
    (Instr.sliceAt 110 (.pointer (some ⟨b, o, none⟩)) (some (.int .i64 64)) none none).run Tryd.prog w = .ok (.slice (some ⟨b, o, none⟩) 0 0) w := by
  rw [run_sliceAt_array_l w 110 _ und58 .i64 64 (by omega) (by rw [len58]; omega), elem58, len58]
  rfl
theorem slice58_all (w : World) (b o : Nat) :
    (Instr.sliceAt 110 (.pointer (some ⟨b, o, none⟩)) none none none).run Tryd.prog w = .ok (.slice (some ⟨b, o, none⟩) 64 64) w := by
  rw [run_sliceAt_array_all w 110 _ und58, elem58, len58]
  simp only [Result.andThen_ok, slicedAt, Nat.mul_one, Addr.add_mid]
  rfl

/-! ### The listed variables -/
def Laid (w : World) : Prop := (∃ t fr, w.heap[1]? = some (.cells (Ks.map word).toArray t fr)) ∧ ∃ t fr, w.heap[0]? = some (.cells (first.list.map word).toArray t fr)

section
variable {w w' : World}
theorem Laid.size (h : Laid w) : 2 ≤ w.heap.size := by
  obtain ⟨⟨_, _, h0⟩, _, _, h1⟩ := h
  have := lt_of_block h0
  have := lt_of_block h1
  omega
theorem Laid.of (h : Laid w) (h0 : w'.heap[1]? = w.heap[1]?) (h1 : w'.heap[0]? = w.heap[0]?) : Laid w' := by
  obtain ⟨⟨t, fr, a⟩, t', fr', c⟩ := h
  exact ⟨⟨t, fr, h0.trans a⟩, t', fr', h1.trans c⟩
theorem Laid.below (h : Laid w) {B : Nat} (hb : Below B w w') (hB : 2 ≤ B) : Laid w' := h.of (hb.block 1 (by omega)) (hb.block 0 (by omega))
theorem Laid.grown (h : Laid w) {b : Nat} (hg : w.grownBy w' (some b)) (hb : 2 ≤ b) : Laid w' :=
  have := h.size
  h.of (hg.block 1 (by omega) (by simp; omega)) (hg.block 0 (by omega) (by simp; omega))
theorem Laid.drewN (h : Laid w) (k : Nat) : Laid (w.drewN k) := h
theorem Laid.const (h : Laid w) (i : Nat) (hi : i < 64) : w.cell? ⟨1, i, none⟩ = some (.int .u32 (K i)) := by
  obtain ⟨⟨t, fr, a⟩, _⟩ := h
  rw [cell_of_row w 1 i _ _ _ a]
  have hl : i < Ks.length := hi
  simp [K, word, List.getElem?_eq_getElem hl]
end

end Go.Proofs.YtcidfkkgpehodaaDoor.Zq.Sh

namespace Go.Proofs.YtcidfkkgpehodaaDoor.Zq.Sh
open Go.RowKit Go.Lib

theorem wc0 (bl : List UInt8) : zeros64 = (wCells bl 0).toArray := by rw [wCells_none]; rfl

/-- One word more. -/
theorem wc_put {w wr : World} {bl : List UInt8} {j : Nat} {x : Int} (hj : j < 64) (hx : x = W bl j) (hc : wr.heap[w.heap.size + 1]? = some (.cells (wCells bl j).toArray 126 (0, 0))) (hres : wr.heap[w.heap.size]? = some (.cells zeros64 126 (0, 0)))
    (hbel : Below w.heap.size w wr) (hbig : w.heap.size + 2 ≤ wr.heap.size) :
    (wr.setCell ⟨w.heap.size + 1, j, none⟩ (.int .u32 x)).heap[w.heap.size + 1]? = some (.cells (wCells bl (j + 1)).toArray 126 (0, 0)) ∧ (wr.setCell ⟨w.heap.size + 1, j, none⟩ (.int .u32 x)).heap[w.heap.size]? = some (.cells zeros64 126 (0, 0)) ∧
    Below w.heap.size w (wr.setCell ⟨w.heap.size + 1, j, none⟩ (.int .u32 x)) ∧ w.heap.size + 2 ≤ (wr.setCell ⟨w.heap.size + 1, j, none⟩ (.int .u32 x)).heap.size := by
  subst hx
  refine ⟨?_, (heap_setCell_other _ _ _ _ (by simp)).trans hres, hbel.setCell (by simp) _, by simpa using hbig⟩
  rw [heap_set_list _ hc, wCells_set bl j hj]

theorem cell_ne (w : World) (g i k : Nat) (u : Value) (h : k ≠ i) : (w.setCell ⟨g, i, none⟩ u).cell? ⟨g, k, none⟩ = w.cell? ⟨g, k, none⟩ := by
  have := World.cell?_setCells_out g [u] i w ⟨g, k, none⟩ (fun _ _ => by simp; omega)
  exact this
theorem wraps_small (n : Int) (h₀ : 0 ≤ n) (h₁ : n < 100000) : IntKind.i64.wrap n = n := by rw [IntKind.wrap_i64]; omega
theorem ownW_eq (bl : List UInt8) (j : Nat) (h : j < 16) : (((bl.getD (4 * j) 0).toNat * 16777216 + (bl.getD (4 * j + 1) 0).toNat * 65536 + (bl.getD (4 * j + 2) 0).toNat * 256 + (bl.getD (4 * j + 3) 0).toNat : Nat) : Int) = W bl j := (W_own bl j h).symm

set_option maxHeartbeats 800000 in
theorem spread_any {w : World} {b : Nat} {v : V8} {bl : List UInt8} {n : Nat} (h : HB w b v bl n) :
    Calls Tryd.prog 86 #[.pointer (some ⟨b, 8, none⟩)] w fun e w' => e = .returned (.agg (allW bl).toArray) ∧ Below w.heap.size w w' := by
  have hlt := h.lt
  go_enter Tryd.func86, Tryd.ntmps86
  go_wp2_with (refine wpList_alloc_any rfl 126 rfl _ zero53 ?_)
  intro w0 hc0 hs0 hb0
  go_wp2_with (refine wpList_alloc_any rfl 126 rfl _ zero53 ?_)
  intro w1 hc1 hs1 hb1
  have hres : w1.heap[w.heap.size]? = some (.cells zeros64 126 (0, 0)) := (hb1.block _ (by omega)).trans hc0
  have hbel : Below w.heap.size w w1 := hb0.trans (hb1.mono (by omega))
  have hbig : w.heap.size + 2 ≤ w1.heap.size := by omega
  rw [wc0 bl] at hc1
  clear hb0 hb1 hc0 hs0 hs1
  go_wp2
  go_loopw [4, 5, 9] (fun _ _ i wr => ∃ j : Nat, j ≤ 16 ∧ i = .int .i64 j ∧ wr.heap[w.heap.size + 1]? = some (.cells (wCells bl j).toArray 126 (0, 0)) ∧ wr.heap[w.heap.size]? = some (.cells zeros64 126 (0, 0)) ∧ Below w.heap.size w wr ∧ w.heap.size + 2 ≤ wr.heap.size)
    (fun _ _ i _ => 16 - (RowKit.intOf i).toNat)
  case atStart => exact ⟨0, by omega, rfl, hc1, hres, hbel, hbig⟩
  case round =>
    clear hc1 hres hbel hbig
    obtain ⟨j, hj, rfl, hc, hres, hbel, hbig⟩ := hrel
    by_cases hlt : j < 16
    · have hr := h.below hbel h.lt
      have c0 := hr.byte (4 * j) (by omega)
      have c1 := hr.byte (4 * j + 1) (by omega)
      have c2 := hr.byte (4 * j + 2) (by omega)
      have c3 := hr.byte (4 * j + 3) (by omega)
      have hz : wr.cell? ⟨w.heap.size + 1, j, none⟩ = some (.int .u32 0) := by
        rw [cell_of_row wr _ j _ _ _ hc]
        simpa using wCells_zero bl j j (Nat.lt_irrefl j) (by omega)
      have hf := frozen_of_row wr _ j _ _ hc
      rw [← Nat.add_assoc] at c1 c2 c3
      have hsl := fun w' => slice58_lh w' b 8 (4 * j) (4 * j + 4) (by omega) (by omega) (by omega)
      rw [show 4 * j + 4 - 4 * j = 4 from by omega] at hsl
      simp only [Int.natCast_add, Int.natCast_mul, Int.cast_ofNat_Int] at hsl
      have R := wc_put (by omega) ((or4 _ _ _ _ (bl.getD (4 * j) 0).toNat_lt (bl.getD (4 * j + 1) 0).toNat_lt (bl.getD (4 * j + 2) 0).toNat_lt (bl.getD (4 * j + 3) 0).toNat_lt).trans (ownW_eq bl j hlt)) hc hres hbel hbig
      generalize (bl.getD (4 * j) 0).toNat = x0 at *
      generalize (bl.getD (4 * j + 1) 0).toNat = x1 at *
      generalize (bl.getD (4 * j + 2) 0).toNat = x2 at *
      generalize (bl.getD (4 * j + 3) 0).toNat = x3 at *
      clear hc hres hbel hr
      have HR : Hid _ := R
      clear R
      go_wp2
      go_region
      go_wp2
      go_roundw
      case rel => exact ⟨j + 1, by omega, by go_num, HR.out.1, HR.out.2.1, HR.out.2.2.1.drew, HR.out.2.2.2⟩
      case measure => simp [RowKit.intOf]; omega
    · obtain rfl : j = 16 := by omega
      clear hlt
      rw [show (((16 : Nat) : Int)) = (16 : Int) from rfl]
      go_wp2
      go_loopw [6, 7, 8] (fun i _ _ wq => ∃ j : Nat, j ≤ 48 ∧ i = .int .i64 (j + 16 : Nat) ∧ wq.heap[w.heap.size + 1]? = some (.cells (wCells bl (j + 16)).toArray 126 (0, 0)) ∧ wq.heap[w.heap.size]? = some (.cells zeros64 126 (0, 0)) ∧ Below w.heap.size w wq ∧ w.heap.size + 2 ≤ wq.heap.size)
        (fun i _ _ _ => 64 - (RowKit.intOf i).toNat)
      case atStart => exact ⟨0, by omega, rfl, hc, hres, hbel, hbig⟩
      case round =>
        clear hc hres hbel hbig
        obtain ⟨j, hj, rfl, hc, hres, hbel, hbig⟩ := hrel
        by_cases hlt : j < 48
        · have cell : ∀ k, k < j + 16 → wr.cell? ⟨w.heap.size + 1, k, none⟩ = some (.int .u32 (W bl k)) := fun k hk => by
            rw [cell_of_row wr _ k _ _ _ hc]
            simpa using wCells_get bl (j + 16) k hk (by omega)
          have ca := cell j (by omega)
          have cb := cell (j + 9) (by omega)
          have cx := cell (j + 1) (by omega)
          have cy := cell (j + 14) (by omega)
          have hz : wr.cell? ⟨w.heap.size + 1, j + 16, none⟩ = some (.int .u32 0) := by
            rw [cell_of_row wr _ _ _ _ _ hc]
            simpa using wCells_zero bl (j + 16) (j + 16) (Nat.lt_irrefl _) (by omega)
          have hf := frozen_of_row wr _ (j + 16) _ _ hc
          have R := wc_put (by omega) (W_mix bl j hlt).symm hc hres hbel hbig
          have HR : Hid _ := R
          have hw0 : IntKind.i64.wrap (j : Int) = j := wraps_small _ (by omega) (by omega)
          have hw9 : IntKind.i64.wrap ((j : Int) + 16 - 7) = (j : Int) + 9 := (wraps_small _ (by omega) (by omega)).trans (by omega)
          have b0 : (0 : Int) ≤ (j : Int) := by omega
          have b1 : (j : Int) < 64 := by omega
          have b2 : (0 : Int) ≤ (j : Int) + 9 := by omega
          have b3 : (j : Int) + 9 < 64 := by omega
          have b4 : ((j : Int) + 9).toNat = j + 9 := by omega
          have b5 : (0 : Int) ≤ (j : Int) + 16 := by omega
          have b6 : (j : Int) + 16 < 64 := by omega
          have b7 : ((j : Int) + 16).toNat = j + 16 := by omega
          have k1 : ∀ u, (wr.setCell ⟨w.heap.size + 1, j + 16, none⟩ u).cell? ⟨w.heap.size + 1, j, none⟩ = some (.int .u32 (W bl j)) := fun u => (cell_ne wr _ _ _ u (by omega)).trans ca
          have k2 : ∀ u, (wr.setCell ⟨w.heap.size + 1, j + 16, none⟩ u).cell? ⟨w.heap.size + 1, j + 9, none⟩ = some (.int .u32 (W bl (j + 9))) := fun u => (cell_ne wr _ _ _ u (by omega)).trans cb
          generalize W bl j = A at *
          generalize W bl (j + 9) = B at *
          generalize W bl (j + 1) = X at *
          generalize W bl (j + 14) = Y at *
          clear R cell hc hres hbel
          go_wp2
          go_region
          go_wp2
          go_region_held3 (fun w' => w'.cell? ⟨w.heap.size + 1, j, none⟩ = some (.int .u32 A) ∧ w'.cell? ⟨w.heap.size + 1, j + 9, none⟩ = some (.int .u32 B)) (go_keep)
            (first | (go_at_call 87; refine (turned_int _ _ (by decide) (by decide) _).mono ?_; rintro e w2 ⟨rfl, rfl⟩))
          go_wp2
          go_roundw
          case rel => exact ⟨j + 1, by omega, by go_num, HR.out.1, HR.out.2.1, HR.out.2.2.1.drew.drew, HR.out.2.2.2⟩
          case measure => simp [RowKit.intOf]; omega
        · obtain rfl : j = 48 := by omega
          rw [show 48 + 16 = 64 from rfl, wCells_all] at hc
          have hall : (Tryd.prog.info? 126).map (·.size) = some (allW bl).toArray.size := by
            rw [List.size_toArray, allW_length]
            kernel_rfl
          have hone : (allW bl).toArray.all (·.oneCell') = true := by
            rw [← wCells_all]
            exact all_oneCell_toArray (fun v hv => by obtain ⟨_, _, rfl⟩ := List.mem_map.1 hv; rfl)
          have hold : zeros64.size = (allW bl).toArray.size := by
            rw [show zeros64.size = 64 from rfl, List.size_toArray, allW_length]
          go_wp2_with (refine wpList_load_row rfl 126 _ rfl _ rfl 126 _ (0, 0) _ hc Tryd.underlying126 rfl hall ?_; refine wpList_store_row rfl 126 _ _ rfl _ _ rfl rfl 126 _ hres hall hold hone ?_)
          refine bodyPost_ret (results_cell_row Tryd.results86 _ _ w.heap.size 126 _ (0, 0) _ rfl (setRow_heap wr _ _ _ 126 (0, 0) hres) Tryd.underlying126 rfl hall) rfl ⟨rfl, ?_⟩
          exact below_gb hbel (gb_setRow wr _ _) (Nat.le_refl _) (by omega)
end Go.Proofs.YtcidfkkgpehodaaDoor.Zq.Sh

namespace Go.Proofs.YtcidfkkgpehodaaDoor.Zq.Sh
open Go.RowKit Go.Lib

/-! ### The eight words, some of them added already -/
def addTo (v x : V8) (j : Nat) : List Int := (List.range 8).map fun k => if k < j then (v.list.getD k 0 + x.list.getD k 0) % 4294967296 else v.list.getD k 0
theorem addTo_zero (v x : V8) : addTo v x 0 = v.list := rfl
theorem addTo_all (v x : V8) : addTo v x 8 = (addV v x).list := rfl
theorem addTo_length (v x : V8) (j : Nat) : (addTo v x j).length = 8 := by simp [addTo]
theorem addTo_get (v x : V8) (j : Nat) (h : j < 8) : (addTo v x j)[j]? = some (v.list.getD j 0) := by
  simp [addTo, List.getElem?_map, List.getElem?_range h]
theorem addTo_set (v x : V8) (j : Nat) (h : j < 8) : (addTo v x j).set j ((v.list.getD j 0 + x.list.getD j 0) % 4294967296) = addTo v x (j + 1) := by
  apply List.ext_getElem?
  intro k
  rw [List.getElem?_set]
  by_cases hj : j = k
  · subst hj
    rw [if_pos rfl, addTo_length, if_pos h]
    simp [addTo, List.getElem?_map, List.getElem?_range h]
  · rw [if_neg hj]
    by_cases h8 : k < 8
    · simp only [addTo, List.getElem?_map, List.getElem?_range h8, Option.map_some]
      by_cases hk : k < j
      · rw [if_pos hk, if_pos (by omega)]
      · rw [if_neg hk, if_neg (by omega)]
    · rw [List.getElem?_eq_none (by rw [addTo_length]; omega), List.getElem?_eq_none (by rw [addTo_length]; omega)]

def hCellsL (l : List Int) (bl : List UInt8) (n : Nat) : List Value := l.map word ++ (byteCells bl ++ [.int .i64 n])
theorem hCellsL_get (l : List Int) (bl : List UInt8) (n k : Nat) (hl : l.length = 8) (hk : k < 8) : (hCellsL l bl n)[k]? = (l[k]?).map word := by
  rw [hCellsL, List.getElem?_append_left (by simpa [hl] using hk), List.getElem?_map]
theorem hCellsL_set (l : List Int) (bl : List UInt8) (n k : Nat) (x : Int) (hl : l.length = 8) (hk : k < 8) : (hCellsL l bl n).set k (word x) = hCellsL (l.set k x) bl n := by
  rw [hCellsL, hCellsL, List.set_append_left _ _ (by simpa [hl] using hk), List.map_set]

/-- One word more is added. -/
theorem add_put {w wr : World} {b n j : Nat} {v x : V8} {bl : List UInt8} {u y : Int} (hj : j < 8) (hu : u = v.list.getD j 0) (hy : y = x.list.getD j 0) (hc : wr.heap[b]? = some (.cells (hCellsL (addTo v x j) bl n).toArray 112 (0, 0))) (hg : w.grownBy wr (some b)) :
    (wr.setCell ⟨b, j, none⟩ (.int .u32 ((u + y) % 4294967296))).heap[b]? = some (.cells (hCellsL (addTo v x (j + 1)) bl n).toArray 112 (0, 0)) ∧ w.grownBy (wr.setCell ⟨b, j, none⟩ (.int .u32 ((u + y) % 4294967296))) (some b) := by
  subst hu hy
  refine ⟨?_, gb_trans hg (gb_set _ _ _ _)⟩
  rw [heap_set_list _ hc]
  have := hCellsL_set (addTo v x j) bl n j ((v.list.getD j 0 + x.list.getD j 0) % 4294967296) (addTo_length _ _ _) hj
  rw [addTo_set v x j hj] at this
  exact congrArg (fun c : List Value => some (Obj.cells c.toArray 112 (0, 0))) this

def aggV (x : V8) : Value := .agg #[.int .u32 x.a, .int .u32 x.b, .int .u32 x.c, .int .u32 x.d, .int .u32 x.e, .int .u32 x.f, .int .u32 x.g, .int .u32 x.h]
theorem index56_0 (x : V8) (w : World) : (Instr.index 102 (aggV x) (.int .i64 0)).run Tryd.prog w = .ok (.int .u32 x.a) w := by kernel_rfl
theorem index56_1 (x : V8) (w : World) : (Instr.index 102 (aggV x) (.int .i64 1)).run Tryd.prog w = .ok (.int .u32 x.b) w := by kernel_rfl
theorem index56_2 (x : V8) (w : World) : (Instr.index 102 (aggV x) (.int .i64 2)).run Tryd.prog w = .ok (.int .u32 x.c) w := by kernel_rfl
theorem index56_3 (x : V8) (w : World) : (Instr.index 102 (aggV x) (.int .i64 3)).run Tryd.prog w = .ok (.int .u32 x.d) w := by kernel_rfl
theorem index56_4 (x : V8) (w : World) : (Instr.index 102 (aggV x) (.int .i64 4)).run Tryd.prog w = .ok (.int .u32 x.e) w := by kernel_rfl
theorem index56_5 (x : V8) (w : World) : (Instr.index 102 (aggV x) (.int .i64 5)).run Tryd.prog w = .ok (.int .u32 x.f) w := by kernel_rfl
theorem index56_6 (x : V8) (w : World) : (Instr.index 102 (aggV x) (.int .i64 6)).run Tryd.prog w = .ok (.int .u32 x.g) w := by kernel_rfl
theorem index56_7 (x : V8) (w : World) : (Instr.index 102 (aggV x) (.int .i64 7)).run Tryd.prog w = .ok (.int .u32 x.h) w := by kernel_rfl
theorem index56 (x : V8) (j : Nat) (h : j < 8) (w : World) : (Instr.index 102 (aggV x) (.int .i64 j)).run Tryd.prog w = .ok (.int .u32 (x.list.getD j 0)) w :=
  match j, h with
  | 0, _ => index56_0 x w
  | 1, _ => index56_1 x w
  | 2, _ => index56_2 x w
  | 3, _ => index56_3 x w
  | 4, _ => index56_4 x w
  | 5, _ => index56_5 x w
  | 6, _ => index56_6 x w
  | 7, _ => index56_7 x w

set_option maxHeartbeats 1600000 in
set_option maxRecDepth 100000 in
theorem takeIn_any {w : World} {b : Nat} {v : V8} {bl : List UInt8} {n : Nat} (hL : Laid w) (h : HB w b v bl n) (hb2 : 2 ≤ b) :
    Calls Tryd.prog 68 #[.pointer (some ⟨b, 0, none⟩)] w fun e w' => e = .returned (.tuple #[]) ∧ HB w' b (takeV v bl) bl n ∧ w.grownBy w' (some b) := by
  have hlt := h.lt
  have hall : (Tryd.prog.info? 126).map (·.size) = some (allW bl).toArray.size := by
    rw [List.size_toArray, allW_length]
    kernel_rfl
  have hone : (allW bl).toArray.all (·.oneCell') = true := by
    rw [← wCells_all]
    exact all_oneCell_toArray (fun v hv => by obtain ⟨_, _, rfl⟩ := List.mem_map.1 hv; rfl)
  have hold : zeros64.size = (allW bl).toArray.size := by
    rw [show zeros64.size = 64 from rfl, List.size_toArray, allW_length]
  go_enter Tryd.func68, Tryd.ntmps68
  go_wp2_with fail
  refine (spread_any h).mono ?_
  rintro e w1 ⟨rfl, hb1⟩
  have hs1 := hb1.size
  go_wp2_with (refine wpList_alloc_any rfl 126 rfl _ zero53 ?_)
  intro w0 hc0 hs0 hb0
  go_wp2_with (refine wpList_store_row rfl 126 _ _ rfl _ _ rfl rfl 126 _ hc0 hall hold hone ?_)
  have hbel : Below w.heap.size w (w0.setRow w1.heap.size (allW bl).toArray) := below_gb (hb1.trans (hb0.mono hs1)) (gb_setRow _ _ _) hs1 (by omega)
  have hw : (w0.setRow w1.heap.size (allW bl).toArray).heap[w1.heap.size]? = some (.cells (allW bl).toArray 126 (0, 0)) := setRow_heap w0 _ _ _ 126 (0, 0) hc0
  generalize w0.setRow w1.heap.size (allW bl).toArray = w2 at *
  have hL2 := hL.below hbel (by omega)
  have h2 := h.below hbel hlt
  have p0 := h2.word 0 (by decide)
  have p1 := h2.word 1 (by decide)
  have p2 := h2.word 2 (by decide)
  have p3 := h2.word 3 (by decide)
  have p4 := h2.word 4 (by decide)
  have p5 := h2.word 5 (by decide)
  have p6 := h2.word 6 (by decide)
  have p7 := h2.word 7 (by decide)
  simp only [V8.list, List.getD_cons_zero, List.getD_cons_succ] at p0 p1 p2 p3 p4 p5 p6 p7
  generalize hB : w1.heap.size = B at *
  clear hc0 hs0 hb0 hb1 hs1 hall hone hold hB
  go_quiet (fail)
  clear p0 p1 p2 p3 p4 p5 p6 p7
  have h3 := h2.drewN nq
  have hL3 := hL2.drewN nq
  have hw3 : (w2.drewN nq).heap[B]? = some (.cells (allW bl).toArray 126 (0, 0)) := hw
  have hbel3 := below_drew hbel nq
  generalize w2.drewN nq = w3 at *
  clear h2 hL2 hw hbel
  go_wp2
  go_loopw [3, 4, 5, 6, 7, 8, 9, 10, 11, 12, 13, 60] (fun s3 s4 s5 s6 s7 s8 s9 s10 _ _ _ i wr => ∃ (j : Nat) (x : V8), j ≤ 64 ∧ i = .int .i64 j ∧ x = rounds (W bl) j v ∧ HB wr b v bl n ∧ Laid wr ∧ wr.heap[B]? = some (.cells (allW bl).toArray 126 (0, 0)) ∧ Below w.heap.size w wr ∧
      s3 = .int .u32 x.a ∧ s4 = .int .u32 x.b ∧ s5 = .int .u32 x.c ∧ s6 = .int .u32 x.d ∧ s7 = .int .u32 x.e ∧ s8 = .int .u32 x.f ∧ s9 = .int .u32 x.g ∧ s10 = .int .u32 x.h)
    (fun _ _ _ _ _ _ _ _ _ _ _ i _ => 64 - (RowKit.intOf i).toNat)
  case atStart => exact ⟨0, v, by omega, rfl, rfl, h3, hL3, hw3, hbel3, rfl, rfl, rfl, rfl, rfl, rfl, rfl, rfl⟩
  case round =>
    clear h3 hL3 hw3 hbel3
    obtain ⟨j, x, hj, rfl, hx, h3, hL3, hw3, hbel3, rfl, rfl, rfl, rfl, rfl, rfl, rfl, rfl⟩ := hrel
    by_cases hlt : j < 64
    · have ck : wr.cell? ⟨1, j, none⟩ = some (.int .u32 (K j)) := hL3.const j hlt
      have cw : wr.cell? ⟨B, j, none⟩ = some (.int .u32 (W bl j)) := by
        rw [cell_of_row _ _ j _ _ _ hw3]
        simpa using allW_get bl j hlt
      have HX : Hid (stepV (K j) (W bl j) x = rounds (W bl) (j + 1) v) := by rw [hx]; rfl
      clear hx
      generalize K j = k at *
      generalize W bl j = y at *
      have b0 : (0 : Int) ≤ (j : Int) := by omega
      have b1 : (j : Int) < 64 := by omega
      go_wp2
      go_quiet (first | (go_at_call 87; exact Calls.quiet_of_same (turned_int _ _ (by decide) (by decide) _)))
      go_wp2_with (go_at_call 87; refine (turned_int _ _ (by decide) (by decide) _).mono ?_; rintro e w4 ⟨rfl, rfl⟩)
      go_roundw
      case rel => exact ⟨j + 1, stepV k y x, by omega, by go_num, HX.out, h3.drewN _, hL3.drewN _, hw3, below_drew hbel3 _, by simp only [stepV, tOf, uOf, Int.emod_add_emod, Int.add_emod_emod], rfl, rfl, rfl, by simp only [stepV, tOf, Int.emod_add_emod, Int.add_emod_emod], rfl, rfl, rfl⟩
      case measure => simp [RowKit.intOf]; omega
    · obtain rfl : j = 64 := by omega
      rw [show (((64 : Nat) : Int)) = (64 : Int) from rfl]
      have HX : Hid (x = rounds (W bl) 64 v) := hx
      clear hx
      go_wp2
      have hg3 : w.grownBy wr (some b) := gb_below hbel3 _
      have hc3 : wr.heap[b]? = some (.cells (hCellsL (addTo v x 0) bl n).toArray 112 (0, 0)) := h3.2
      have hl := h3.1
      clear h3 hL3 hw3 hbel3
      go_loopw [14, 15, 131] (fun _ _ i wq => ∃ j : Nat, j ≤ 8 ∧ i = .int .i64 j ∧ wq.heap[b]? = some (.cells (hCellsL (addTo v x j) bl n).toArray 112 (0, 0)) ∧ w.grownBy wq (some b))
        (fun _ _ i _ => 8 - (RowKit.intOf i).toNat)
      case atStart => exact ⟨0, by omega, rfl, hc3, hg3⟩
      case round =>
        clear hc3 hg3
        obtain ⟨j, hj, rfl, hc, hg⟩ := hrel
        by_cases hlt : j < 8
        · have hidx := index56 x j hlt
          have ch : wr.cell? ⟨b, j, none⟩ = some (.int .u32 (v.list.getD j 0)) := by
            rw [cell_of_row _ _ j _ _ _ hc]
            simp only [List.getElem?_toArray]
            rw [hCellsL_get _ _ _ _ (addTo_length _ _ _) hlt, addTo_get v x j hlt]
            rfl
          have hf := frozen_of_row wr _ j _ _ hc
          have b0 : (0 : Int) ≤ (j : Int) := by omega
          have b1 : (j : Int) < 8 := by omega
          have R : Hid _ := add_put hlt rfl rfl hc hg
          unfold aggV at hidx
          clear hc hg
          generalize v.list.getD j 0 = p at *
          generalize x.list.getD j 0 = q at *
          go_wp2
          go_region
          go_wp2
          go_roundw
          case rel => exact ⟨j + 1, by omega, by go_num, R.out.1, gb_drewN R.out.2 1⟩
          case measure => simp [RowKit.intOf]; omega
        · obtain rfl : j = 8 := by omega
          go_wp2
          go_end0
          refine ⟨rfl, ⟨hl, ?_⟩, hg⟩
          rw [addTo_all, HX.out] at hc
          exact hc
end Go.Proofs.YtcidfkkgpehodaaDoor.Zq.Sh

namespace Go.Proofs.YtcidfkkgpehodaaDoor.Zq.Sh
open Go.RowKit Go.Lib

def zeroBl : List UInt8 := List.replicate 64 0
def zeroV : V8 := ⟨0, 0, 0, 0, 0, 0, 0, 0⟩
theorem zero60 (w : World) : (zeroValue 112).run Tryd.prog w = .ok (.agg (hCells zeroV zeroBl 0).toArray) w :=
  (zero_of_info (P := Tryd.prog) (t := 112) (v := .agg (hCells zeroV zeroBl 0).toArray) (n := 73) (by kernel_rfl)).1 w

theorem new_any {w : World} (hL : Laid w) :
    Calls Tryd.prog 44 #[] w fun e w' => e = .returned (.pointer (some ⟨w.heap.size, 0, none⟩)) ∧ HB w' w.heap.size first zeroBl 0 ∧ Below w.heap.size w w' := by
  obtain ⟨_, t, fr, h1⟩ := hL
  go_enter Tryd.func44, Tryd.ntmps44
  go_wp2_with (first | refine wpList_load_row rfl 102 _ rfl 0 rfl t _ fr _ h1 Tryd.underlying102 rfl (by kernel_rfl) ?_ | refine wpList_buildTo rfl 112 _ rfl _ rfl (hCells first zeroBl 0).toArray (by kernel_rfl) ?_)
  go_ret
  exact ⟨rfl, ⟨rfl, heap_alloc_new w _⟩, (Below.refl _ _).alloc (Nat.le_refl _) _⟩

theorem hCells_one (v : V8) (bl : List UInt8) (n : Nat) : (hCells v bl n).toArray.all (·.oneCell') = true := by
  refine all_oneCell_toArray (fun u hu => ?_)
  rcases List.mem_append.1 hu with hu | hu
  · obtain ⟨_, _, rfl⟩ := List.mem_map.1 hu
    rfl
  · rcases List.mem_append.1 hu with hu | hu
    · obtain ⟨_, _, rfl⟩ := List.mem_map.1 hu
      rfl
    · obtain rfl := List.mem_singleton.1 hu
      rfl
theorem hCells_info (v : V8) (bl : List UInt8) (n : Nat) (h : bl.length = 64) : (Tryd.prog.info? 112).map (·.size) = some (hCells v bl n).toArray.size := by
  rw [List.size_toArray, hCells_length _ _ _ h]
  kernel_rfl
theorem hCells_old (v : V8) (bl : List UInt8) (n : Nat) (h : bl.length = 64) : (hCells zeroV zeroBl 0).toArray.size = (hCells v bl n).toArray.size := by
  rw [List.size_toArray, List.size_toArray, hCells_length _ _ _ h, hCells_length _ _ _ rfl]

/-- A copy of a hash, in a block of its own. -/
theorem HB.copy {w w0 : World} {v : V8} {bl : List UInt8} {n : Nat} (hl : bl.length = 64) (hc : w0.heap[w.heap.size]? = some (.cells (hCells zeroV zeroBl 0).toArray 112 (0, 0))) (hs : w0.heap.size = w.heap.size + 1) (hb : Below w.heap.size w w0) :
    HB (w0.setRow w.heap.size (hCells v bl n).toArray) w.heap.size v bl n ∧ Below w.heap.size w (w0.setRow w.heap.size (hCells v bl n).toArray) :=
  ⟨⟨hl, setRow_heap w0 _ _ _ 112 (0, 0) hc⟩, below_gb hb (gb_setRow _ _ _) (Nat.le_refl _) (by omega)⟩

/-! ### copy of a string into the block -/
theorem size5 (w : World) : (sizeOf 5).run Tryd.prog w = .ok 1 w := by
  have h5 : (Tryd.prog.info? 5).map (·.size) = some 1 := by kernel_rfl
  cases hq : Tryd.prog.info? 5 with
  | none => simp [hq] at h5
  | some i =>
    have hs : i.size = 1 := by simpa [hq] using h5
    simp [sizeOf, typeInfo, hq, hs]

theorem run_copy_any {P : Program} (w : World) (dT sT ty elem : TypeId) (b o dLen dCap m : Nat) (t : ByteArray)
    (hu : P.underlying dT = some (.slice elem)) (hz : ∀ w, (Go.sizeOf elem).run P w = .ok 1 w) (hm : Nat.min t.size dLen = m)
    (hc : ∀ j, j < m → (w.cell? ⟨b, o + j, none⟩).isSome = true) (hf : ∀ j, j < m → w.frozen? ⟨b, o + j, none⟩ = false) :
    (Builtin.copy_ #[dT, sT] ty #[.slice (some ⟨b, o, none⟩) dLen dCap, .string t]).run P w = .ok (goInt m) (w.setCells b o (byteCells (t.data.toList.take m))) := by
  have hmt : m ≤ t.size := by rw [← hm]; exact Nat.min_le_left _ _
  have hl : (byteCells (t.data.toList.take m)).length = m := by rw [byteCells_length, List.length_take, ← Lib.size_eq]; omega
  have hst := run_storeCells_cells (P := P) b o (byteCells (t.data.toList.take m)) 0 w (by rw [hl]; simpa using hc) (by rw [hl]; simpa using hf) (byteCells_one _)
  simp [Builtin.copy_, run_underlying hu, Builtin.lenOf, Builtin.firstCells, hz, hm]
  have e : List.take m (List.map (fun x : UInt8 => Value.int .u8 (x.toNat : Int)) t.data.toList) = byteCells (t.data.toList.take m) := by rw [byteCells, List.map_take]
  rw [e, hst]
  rfl

theorem step_copy_any {P : Program} {ops : Array Oper} {o : Oper} {a : Act} {w : World} {K : Act → World → Prop} {Q : Exit → Act → World → Prop} {E : Prop}
    (hg : o.guard = none) (d x : Operand) (dT sT : TypeId) (hop : o.op = Op.call { callee := Callee.builtin Builtin.copy, args := #[d, x], argTypes := #[dT, sT] })
    (elem : TypeId) (hu : P.underlying dT = some (.slice elem)) (hz : ∀ w, (Go.sizeOf elem).run P w = .ok 1 w)
    (b off dLen dCap m : Nat) (hd : a.eval d = .slice (some ⟨b, off, none⟩) dLen dCap) (t : ByteArray) (hx : a.eval x = .string t) (hm : Nat.min t.size dLen = m)
    (hc : ∀ j, j < m → (w.cell? ⟨b, off + j, none⟩).isSome = true) (hf : ∀ j, j < m → w.frozen? ⟨b, off + j, none⟩ = false)
    (hK : K (a.put o.dst (goInt m)) (w.setCells b off (byteCells (t.data.toList.take m)))) :
    if Region.wanted o (yielded ops a.tmps) = true then Oper.wp P o a w K Q else E := by
  have hw : Region.wanted o (yielded ops a.tmps) = true := by simp [Region.wanted, hg]
  rw [if_pos hw]
  have hrun := run_copy_any (P := P) w dT sT o.type elem b off dLen dCap m t hu hz hm hc hf
  unfold Oper.wp
  simp [execOp, hop, resolve, invoke, builtin, hd, hx, hrun, Result.andThen]
  exact hK

/-! ### What was written -/
theorem block_prefix (s t : List UInt8) (n : Nat) (h : 64 * (n + 1) ≤ s.length) : block (s ++ t) n = block s n := by
  rw [block, block, List.drop_append_of_le_length (by omega), List.take_append_of_le_length (by rw [List.length_drop]; omega)]
theorem blocks_prefix (s t : List UInt8) : ∀ n, 64 * n ≤ s.length → blocks (s ++ t) n = blocks s n
  | 0, _ => rfl
  | n + 1, h => by rw [blocks, blocks, blocks_prefix s t n (by omega), block_prefix s t n h]

/-- A hash at block b, into which s was written. -/
def HS (w : World) (b : Nat) (s : List UInt8) : Prop := ∃ bl, HB w b (blocks s (s.length / 64)) bl s.length ∧ bl.take (s.length % 64) = s.drop (64 * (s.length / 64))

theorem hCells_range (v : V8) (n : Nat) : ∀ (l bl : List UInt8) (j : Nat), bl.length = 64 → j + l.length ≤ 64 → setRange (hCells v bl n) (8 + j) (byteCells l) = hCells v (setRange bl j l) n
  | [], _, _, _, _ => rfl
  | x :: r, bl, j, hl, h => by
    rw [List.length_cons] at h
    show setRange ((hCells v bl n).set (8 + j) (.int .u8 (x.toNat : Nat))) (8 + j + 1) (byteCells r) = _
    rw [hCells_setByte v bl n j x hl (by omega), Nat.add_assoc, hCells_range v n r (bl.set j x) (j + 1) (by rw [List.length_set]; exact hl) (by omega)]
    rfl
theorem setRange_length {α : Type} : ∀ (l c : List α) (o : Nat), (setRange c o l).length = c.length
  | [], _, _ => rfl
  | _ :: r, c, o => by rw [setRange, setRange_length r, List.length_set]
theorem HB.range {w : World} {b : Nat} {v : V8} {bl : List UInt8} {n : Nat} (h : HB w b v bl n) (j : Nat) (l : List UInt8) (hj : j + l.length ≤ 64) : HB (w.setCells b (8 + j) (byteCells l)) b v (setRange bl j l) n :=
  ⟨by rw [setRange_length]; exact h.1, by rw [heap_setCells_list _ _ _ _ h.2, hCells_range v n l bl j h.1 hj]⟩

/-- A piece more, the block not full. -/
theorem HS.part {s u bl : List UInt8} (hl : bl.length = 64) (hbl : bl.take (s.length % 64) = s.drop (64 * (s.length / 64))) (hu : s.length % 64 + u.length < 64) :
    blocks (s ++ u) ((s ++ u).length / 64) = blocks s (s.length / 64) ∧ (setRange bl (s.length % 64) u).take ((s ++ u).length % 64) = (s ++ u).drop (64 * ((s ++ u).length / 64)) := by
  have e1 : (s ++ u).length / 64 = s.length / 64 := by rw [List.length_append]; omega
  have e2 : (s ++ u).length % 64 = s.length % 64 + u.length := by rw [List.length_append]; omega
  refine ⟨by rw [e1, blocks_prefix s u _ (by omega)], ?_⟩
  rw [e1, e2, setRange_eq _ _ _ (by omega), List.drop_append_of_le_length (by omega), ← hbl]
  rw [List.take_append_of_le_length (by simp; omega)]
  exact List.take_of_length_le (by simp; omega)
/-- A piece more, the block full. -/
theorem HS.full {s u bl : List UInt8} (hl : bl.length = 64) (hbl : bl.take (s.length % 64) = s.drop (64 * (s.length / 64))) (hu : s.length % 64 + u.length = 64) :
    blocks (s ++ u) ((s ++ u).length / 64) = takeV (blocks s (s.length / 64)) (setRange bl (s.length % 64) u) ∧ (setRange bl (s.length % 64) u).take ((s ++ u).length % 64) = (s ++ u).drop (64 * ((s ++ u).length / 64)) := by
  have e1 : (s ++ u).length / 64 = s.length / 64 + 1 := by rw [List.length_append]; omega
  have e2 : (s ++ u).length % 64 = 0 := by rw [List.length_append]; omega
  have e3 : setRange bl (s.length % 64) u = block (s ++ u) (s.length / 64) := by
    rw [setRange_eq _ _ _ (by omega), hbl, hu, show bl.drop 64 = [] from List.drop_of_length_le (by omega), block, List.drop_append_of_le_length (by omega), List.append_nil]
    exact (List.take_of_length_le (by simp; omega)).symm
  refine ⟨by rw [e1, blocks, blocks_prefix s u _ (by omega), e3], ?_⟩
  rw [e1, e2, List.take_zero, List.drop_of_length_le (by rw [List.length_append]; omega)]

theorem min_cases (x y : Nat) (hx : 0 < x) (hy : 0 < y) : ∃ m, Nat.min x y = m ∧ m ≤ x ∧ m ≤ y ∧ 0 < m ∧ (m = x ∨ m = y) := by
  rcases Nat.le_total x y with h | h
  · exact ⟨x, Nat.min_eq_left h, Nat.le_refl _, h, hx, .inl rfl⟩
  · exact ⟨y, Nat.min_eq_right h, h, Nat.le_refl _, hy, .inr rfl⟩

theorem toList_rest (u : ByteArray) (m : Nat) : (u.extract m u.size).data.toList = u.data.toList.drop m := by
  rw [ByteArray.data_extract, Array.toList_extract, List.extract_eq_take_drop]
  exact List.take_of_length_le (by rw [List.length_drop, ← Lib.size_eq]; exact Nat.le_refl _)

def strSize : Value → Nat
  | .string s => s.size
  | _ => 0

theorem und50 : Tryd.prog.underlying 58 = some (.slice 5) := by kernel_rfl

set_option maxHeartbeats 1600000 in
set_option maxRecDepth 100000 in
theorem write_any {w : World} {b : Nat} {s : List UInt8} (t : ByteArray) (hL : Laid w) (h : HS w b s) (hb2 : 2 ≤ b) (hs : s.length + t.size ≤ 200000000000000) :
    Calls Tryd.prog 45 #[.pointer (some ⟨b, 0, none⟩), .string t] w fun e w' => e = .returned (.tuple #[]) ∧ HS w' b (s ++ t.data.toList) ∧ Laid w' ∧ w.grownBy w' (some b) := by
  go_enter Tryd.func45, Tryd.ntmps45
  go_wp2
  go_loopw [1, 4] (fun x _ wr => ∃ (u : ByteArray) (r : List UInt8), x = .string u ∧ r ++ u.data.toList = s ++ t.data.toList ∧ HS wr b r ∧ Laid wr ∧ w.grownBy wr (some b))
    (fun x _ _ => strSize x)
  case atStart => exact ⟨t, s, rfl, rfl, h, hL, World.grownBy.refl _ _⟩
  case round =>
    obtain ⟨u, r, rfl, he, ⟨bl, hr, hbl⟩, hLr, hg⟩ := hrel
    have HE : Hid (r ++ u.data.toList = s ++ t.data.toList) := he
    have hle : r.length + u.size ≤ 200000000000000 := by
      have := congrArg List.length he
      simp only [List.length_append, ← Lib.size_eq] at this
      omega
    clear he
    by_cases hu : u.size = 0
    · have hu0 : u.data.toList = [] := List.eq_nil_of_length_eq_zero (by rw [← Lib.size_eq]; exact hu)
      have hfin : HS wr b (s ++ t.data.toList) := by
        rw [← HE.out, hu0, List.append_nil]
        exact ⟨bl, hr, hbl⟩
      go_wp2
      go_end0
      exact ⟨rfl, hfin, hLr, hg⟩
    · have cl := hr.long
      obtain ⟨a, ha⟩ : ∃ a, a = r.length % 64 := ⟨_, rfl⟩
      have ha64 : a < 64 := by omega
      obtain ⟨m, hm, hmu, hm64, hm0, hmor⟩ := min_cases u.size (64 - a) (by omega) (by omega)
      have hml : (u.data.toList.take m).length = m := by rw [List.length_take, ← Lib.size_eq]; omega
      have hsl := fun w' => slice58_l w' b 8 a ha64
      have hmod : Int.tmod (r.length : Int) 64 = (a : Int) := by rw [Int.tmod_eq_emod_of_nonneg (by omega)]; omega
      have hr2 := HB.range (show HB wr.drew b (blocks r (r.length / 64)) bl r.length from hr) a (u.data.toList.take m) (by omega)
      have hg2 : w.grownBy (wr.drew.setCells b (8 + a) (byteCells (u.data.toList.take m))) (some b) := gb_trans (gb_trans hg (gb_drewN (World.grownBy.refl _ _) 1)) (gb_setCells wr.drew b _ _)
      have cl2 := hr2.long
      have hc : ∀ j, j < m → (wr.cell? ⟨b, 8 + a + j, none⟩).isSome = true := fun j hj => by rw [Nat.add_assoc, hr.byte (a + j) (by omega)]; rfl
      have hf : ∀ j, j < m → wr.frozen? ⟨b, 8 + a + j, none⟩ = false := fun j _ => hr.free _
      have HC : Hid _ := hc
      have HF : Hid _ := hf
      have HM : Hid _ := hm
      have HA : Hid _ := ha
      have HO : Hid _ := hmor
      clear hc hf hm ha hmor
      go_wp2
      go_region_held3 (fun w' => w'.cell? ⟨b, 72, none⟩ = some (.int .i64 r.length)) (go_keep)
        (first | (refine step_copy_any rfl (.tmp 16) (.tmp 17) 58 9 rfl 5 und50 size5 b (8 + a) (64 - a) (64 - a) m (by simp [Act.eval]) u (by simp [Act.eval]) HM.out (by exact HC.out) (by exact HF.out) ?_))
      have hL2 := hLr.grown (gb_trans (gb_drewN (World.grownBy.refl _ _) 1) (gb_setCells wr.drew b (8 + a) (byteCells (u.data.toList.take m)))) hb2
      generalize wr.drew.setCells b (8 + a) (byteCells (u.data.toList.take m)) = w1 at *
      have hE2 : Hid ((r ++ u.data.toList.take m) ++ (u.extract m u.size).data.toList = s ++ t.data.toList) := by
        show (r ++ u.data.toList.take m) ++ (u.extract m u.size).data.toList = s ++ t.data.toList
        rw [← HE.out, List.append_assoc, toList_rest u m, List.take_append_drop]
      have hbl64 := hr.1
      clear hr hg hLr cl HC HF HE
      have hf2 := hr2.free 72
      have hr3 := hr2.setLong (r.length + m)
      have hg3 := gb_trans hg2 (gb_set w1 b 72 (.int .i64 (r.length + m : Nat)))
      have hL3 := hL2.grown (gb_set w1 b 72 (.int .i64 (r.length + m : Nat))) hb2
      have cl3 := hr3.long
      rw [Int.natCast_add] at hr3 hg3 hL3 cl3
      have hlen : (r ++ u.data.toList.take m).length = r.length + m := by rw [List.length_append, hml]
      have hsm : (u.extract m u.size).size < u.size := by rw [ByteArray.size_extract]; omega
      rw [HA.out] at hr3
      by_cases hful : a + m = 64
      · have htm : ((r.length : Int) + m) % 64 = 0 := by
          have := HA.out
          omega
        have F := HS.full hbl64 hbl (u := u.data.toList.take m) (by rw [hml, ← HA.out]; exact hful)
        clear HM HO hmod hsl
        go_wp2_with fail
        refine (takeIn_any hL3 hr3 hb2).mono ?_
        rintro e w4 ⟨rfl, hr4, hg4⟩
        have hS : HS w4 b (r ++ u.data.toList.take m) := ⟨_, by rw [F.1, hlen]; exact hr4, F.2⟩
        go_wp2
        exact ⟨⟨_, _, rfl, hE2.out, hS, hL3.grown hg4 hb2, gb_trans hg3 hg4⟩, hsm⟩
      · have htm : (((r.length : Int) + m) % 64 == 0) = false := by
          have := HA.out
          simp
          omega
        have F := HS.part hbl64 hbl (u := u.data.toList.take m) (by rw [hml, ← HA.out]; omega)
        have hS : HS (w1.setCell ⟨b, 72, none⟩ (.int .i64 ((r.length : Int) + m))) b (r ++ u.data.toList.take m) := ⟨_, by rw [F.1, hlen]; exact hr3, F.2⟩
        clear HM HO hmod hsl
        go_wp2
        exact ⟨⟨_, _, rfl, hE2.out, hS, hL3, hg3⟩, hsm⟩

end Go.Proofs.YtcidfkkgpehodaaDoor.Zq.Sh

namespace Go.Proofs.YtcidfkkgpehodaaDoor.Zq.Sh
open Go.RowKit Go.Lib

theorem fixedOf_length (x : Nat) : ∀ k, (fixedOf x k).length = k
  | 0 => rfl
  | k + 1 => by simp [fixedOf, fixedOf_length x k]

theorem block_at (s t : List UInt8) (q : Nat) (h : 64 * q ≤ s.length) : block (s ++ t) q = (s.drop (64 * q) ++ t).take 64 := by
  rw [block, List.drop_append_of_le_length h]

section
variable (s : List UInt8)
theorem pad_low (h : s.length % 64 ≤ 55) : (padded s).length / 64 = s.length / 64 + 1 ∧
    block (padded s) (s.length / 64) = s.drop (64 * (s.length / 64)) ++ (128 :: List.replicate (55 - s.length % 64) 0) ++ fixedOf (8 * s.length) 8 := by
  have e : (119 - s.length % 64) % 64 = 55 - s.length % 64 := by omega
  refine ⟨?_, ?_⟩
  · rw [padded, pad, e]
    simp only [List.length_append, List.length_cons, List.length_replicate, fixedOf_length]
    omega
  · rw [padded, block_at _ _ _ (by omega), pad, e]
    rw [List.take_of_length_le (by simp only [List.length_append, List.length_cons, List.length_replicate, fixedOf_length, List.length_drop]; omega)]
    simp
theorem pad_high (h : ¬ s.length % 64 ≤ 55) : (padded s).length / 64 = s.length / 64 + 1 + 1 ∧
    block (padded s) (s.length / 64) = s.drop (64 * (s.length / 64)) ++ (128 :: List.replicate (63 - s.length % 64) 0) ∧
    block (padded s) (s.length / 64 + 1) = List.replicate 56 0 ++ fixedOf (8 * s.length) 8 := by
  have e : (119 - s.length % 64) % 64 = (63 - s.length % 64) + 56 := by omega
  have hl : (s.drop (64 * (s.length / 64)) ++ (128 :: List.replicate (63 - s.length % 64) (0 : UInt8))).length = 64 := by
    simp only [List.length_append, List.length_cons, List.length_replicate, List.length_drop]
    omega
  have hp : padded s = (s ++ (128 :: List.replicate (63 - s.length % 64) 0)) ++ (List.replicate 56 0 ++ fixedOf (8 * s.length) 8) := by
    rw [padded, pad, e, ← List.replicate_append_replicate]
    simp
  have hls : (s ++ (128 :: List.replicate (63 - s.length % 64) (0 : UInt8))).length = 64 * (s.length / 64 + 1) := by
    simp only [List.length_append, List.length_cons, List.length_replicate]
    omega
  refine ⟨?_, ?_, ?_⟩
  · rw [hp, List.length_append, hls]
    simp only [List.length_append, List.length_replicate, fixedOf_length]
    omega
  · rw [hp, block_prefix _ _ _ (by omega), block_at _ _ _ (by omega)]
    exact List.take_of_length_le (by omega)
  · rw [hp, block_at _ _ _ (by omega), List.drop_of_length_le (by omega), List.nil_append]
    exact List.take_of_length_le (by simp [fixedOf_length])

/-- The sum's words, by the last block. -/
theorem digest_low (h : s.length % 64 ≤ 55) : digestV s = takeV (blocks s (s.length / 64)) (s.drop (64 * (s.length / 64)) ++ (128 :: List.replicate (55 - s.length % 64) 0) ++ fixedOf (8 * s.length) 8) := by
  rw [digestV, (pad_low s h).1, blocks, (pad_low s h).2, padded, blocks_prefix s _ _ (by omega)]
/-- The sum's words, by the last two blocks. -/
theorem digest_high (h : ¬ s.length % 64 ≤ 55) : digestV s = takeV (takeV (blocks s (s.length / 64)) (s.drop (64 * (s.length / 64)) ++ (128 :: List.replicate (63 - s.length % 64) 0))) (List.replicate 56 0 ++ fixedOf (8 * s.length) 8) := by
  rw [digestV, (pad_high s h).1, blocks, blocks, (pad_high s h).2.1, (pad_high s h).2.2, padded, blocks_prefix s _ _ (by omega)]
end

/-- The block, its last i bytes those of a number. -/
def endBl (base : List UInt8) (N i : Nat) : List UInt8 := base.take (64 - i) ++ fixedOf N i
theorem endBl_length (base : List UInt8) (N i : Nat) (h : base.length = 64) (hi : i ≤ 64) : (endBl base N i).length = 64 := by
  simp [endBl, fixedOf_length, h]; omega
theorem endBl_set (base : List UInt8) (N i : Nat) (h : base.length = 64) (hi : i < 64) : (endBl base N i).set (63 - i) (N / 256 ^ i % 256).toUInt8 = endBl base N (i + 1) := by
  have e : base.take (64 - i) = base.take (63 - i) ++ [base[63 - i]'(by omega)] := by
    rw [show 64 - i = 63 - i + 1 by omega, List.take_succ_eq_append_getElem (by omega)]
  have hl : (base.take (63 - i)).length = 63 - i := by rw [List.length_take]; omega
  rw [endBl, endBl, e, List.append_assoc, List.set_append_right _ _ (by omega), show 64 - (i + 1) = 63 - i by omega, hl, Nat.sub_self]
  rfl

end Go.Proofs.YtcidfkkgpehodaaDoor.Zq.Sh

namespace Go.Proofs.YtcidfkkgpehodaaDoor.Zq.Sh
open Go.RowKit Go.Lib

theorem zero5 (w : World) : (zeroValue 5).run Tryd.prog w = .ok (.int .u8 0) w :=
  (zero_of_info (P := Tryd.prog) (t := 5) (v := .int .u8 0) (n := 1) (by kernel_rfl)).1 w

/-- A part of the block is cleared. -/
theorem clear_part {w : World} {b : Nat} {v : V8} {bl : List UInt8} {n : Nat} (h : HB w b v bl n) (j k c : Nat) (hk : 0 < k) (hj : j + k ≤ 64) (ty : TypeId) :
    (Builtin.clear_ #[58] ty #[.slice (some ⟨b, 8 + j, none⟩) k c]).run Tryd.prog w = .ok (.tuple #[]) (w.setCells b (8 + j) (byteCells (List.replicate k 0))) := by
  have := run_clear_slice (P := Tryd.prog) w 58 5 ty (.int .u8 0) und50 zero5 rfl rfl b (8 + j) k c hk (fun i hi => by rw [Nat.add_assoc, h.byte (j + i) (by omega)]; rfl) (fun i _ => h.free _)
  rw [this, byteCells, List.map_replicate]
  rfl
theorem clear_none (w : World) (b o : Nat) (ty : TypeId) : (Builtin.clear_ #[58] ty #[.slice (some ⟨b, o, none⟩) 0 0]).run Tryd.prog w = .ok (.tuple #[]) w := by
  simp [Builtin.clear_, run_underlying und50]

/-- The mark, and zeros behind it. -/
theorem marked (bl : List UInt8) (a : Nat) (h : bl.length = 64) (ha : a < 64) : setRange (bl.set a 128) (a + 1) (List.replicate (63 - a) 0) = bl.take a ++ (128 :: List.replicate (63 - a) 0) := by
  rw [setRange_eq _ _ _ (by rw [List.length_replicate, List.length_set]; omega), List.drop_of_length_le (by rw [List.length_replicate, List.length_set]; omega), List.append_nil]
  rw [List.take_add_one, List.take_set_of_le (Nat.le_refl _), List.getElem?_set_self (by omega)]
  simp

theorem mark_tail {w : World} {b : Nat} {v : V8} {bl : List UInt8} {n : Nat} (h : HB w b v bl n) (a : Nat) (ha : a < 64) :
    ∃ x w2, (∀ w', (Instr.sliceAt 110 (.pointer (some ⟨b, 8, none⟩)) (some (.int .i64 ((a : Int) + 1))) none none).run Tryd.prog w' = .ok x w') ∧
      (∀ ty, (Builtin.clear_ #[58] ty #[x]).run Tryd.prog (w.setCell ⟨b, 8 + a, none⟩ (.int .u8 128)) = .ok (.tuple #[]) w2) ∧
      HB w2 b v (bl.take a ++ (128 :: List.replicate (63 - a) 0)) n ∧ w.grownBy w2 (some b) := by
  have h1 := h.setByte a 128 ha
  rw [show (((128 : UInt8).toNat : Nat) : Int) = 128 from rfl] at h1
  have h2 := h1.range (a + 1) (List.replicate (63 - a) 0) (by rw [List.length_replicate]; omega)
  rw [marked bl a h.1 ha] at h2
  have hg := gb_trans (gb_set w b (8 + a) (.int .u8 128)) (gb_setCells (w.setCell ⟨b, 8 + a, none⟩ (.int .u8 128)) b (8 + (a + 1)) (byteCells (List.replicate (63 - a) 0)))
  by_cases h63 : a + 1 < 64
  · refine ⟨_, _, fun w' => slice58_l w' b 8 (a + 1) h63, fun ty => clear_part h1 (a + 1) _ _ (by omega) (by omega) ty, ?_, ?_⟩
    · rw [show 64 - (a + 1) = 63 - a by omega]; exact h2
    · rw [show 64 - (a + 1) = 63 - a by omega]; exact hg
  · obtain rfl : a = 63 := by omega
    exact ⟨_, _, fun w' => slice58_end w' b 8, fun ty => clear_none _ _ _ ty, h2, hg⟩

theorem clear_all (bl : List UInt8) (h : bl.length = 64) : setRange bl 0 (List.replicate 64 0) = zeroBl := by
  rw [setRange_eq _ _ _ (by rw [h]; decide), List.take_zero, List.drop_of_length_le (by rw [h]; decide), List.nil_append, List.append_nil]
  rfl
theorem mark_take (l : List UInt8) (a : Nat) (h : l.length = a) (ha : a ≤ 55) : (l ++ (128 :: List.replicate (63 - a) 0)).take (64 - 8) = l ++ (128 :: List.replicate (55 - a) 0) := by
  rw [List.take_append, List.take_of_length_le (by omega), h, show 64 - 8 - a = (55 - a) + 1 by omega, List.take_succ_cons, List.take_replicate, Nat.min_eq_left (by omega)]

/-- One byte more of the number. -/
theorem end_put {w wr : World} {b n N j : Nat} {V : V8} {base : List UInt8} (h : HB wr b V (endBl base N j) n) (hb : base.length = 64) (hj : j < 8) (hL : Laid wr) (hg : w.grownBy wr (some b)) (hb2 : 2 ≤ b) :
    HB (wr.setCell ⟨b, 8 + (63 - j), none⟩ (.int .u8 ((N : Int) / 2 ^ (8 * j) % 256))) b V (endBl base N (j + 1)) n ∧ Laid (wr.setCell ⟨b, 8 + (63 - j), none⟩ (.int .u8 ((N : Int) / 2 ^ (8 * j) % 256))) ∧ w.grownBy (wr.setCell ⟨b, 8 + (63 - j), none⟩ (.int .u8 ((N : Int) / 2 ^ (8 * j) % 256))) (some b) := by
  have h1 := h.setByte (63 - j) (N / 256 ^ j % 256).toUInt8 (by omega)
  rw [endBl_set base N j hb (by omega)] at h1
  have e : (((N / 256 ^ j % 256).toUInt8.toNat : Nat) : Int) = (N : Int) / 2 ^ (8 * j) % 256 := by
    rw [toUInt8_toNat (Nat.mod_lt _ (by decide)), show (256 : Nat) = 2 ^ 8 from rfl, ← Nat.pow_mul]
    simp
  rw [e] at h1
  exact ⟨h1, hL.grown (gb_set _ _ _ _) hb2, gb_trans hg (gb_set _ _ _ _)⟩

theorem u64_small (n : Nat) (h : n ≤ 200000000000000) : (n : Int) * 8 % 18446744073709551616 = ((8 * n : Nat) : Int) := by omega

set_option maxHeartbeats 1600000 in
set_option maxRecDepth 100000 in
theorem end_any {w : World} {b : Nat} {s : List UInt8} (hL : Laid w) (h : HS w b s) (hb2 : 2 ≤ b) (hs : s.length ≤ 200000000000000) :
    Calls Tryd.prog 69 #[.pointer (some ⟨b, 0, none⟩)] w fun e w' => e = .returned (.tuple #[]) ∧ (∃ bl, HB w' b (digestV s) bl s.length) ∧ w.grownBy w' (some b) := by
  obtain ⟨bl, hr, hbl⟩ := h
  have cl := hr.long
  obtain ⟨a, ha⟩ : ∃ a, a = s.length % 64 := ⟨_, rfl⟩
  have ha64 : a < 64 := by omega
  have hmod : (s.length : Int) % 64 = (a : Int) := by omega
  have c1 := hr.byte a ha64
  have f1 := hr.free (8 + a)
  obtain ⟨x, w2, hx1, hx2, hr2, hg2⟩ := mark_tail hr a ha64
  have hL2 := hL.grown hg2 hb2
  have hbase : (bl.take a ++ (128 :: List.replicate (63 - a) 0)).length = 64 := hr2.1
  rw [ha, hbl, ← ha] at hr2 hbase
  have HA : Hid _ := ha
  by_cases hlow : a ≤ 55
  · have HF : Hid (digestV s = takeV (blocks s (s.length / 64)) (endBl (s.drop (64 * (s.length / 64)) ++ (128 :: List.replicate (63 - a) 0)) (8 * s.length) 8)) := by
      show digestV s = _
      rw [digest_low s (by omega), endBl, ← ha, mark_take _ a (by rw [List.length_drop]; omega) (by omega)]
    clear ha
    have cl2 := hr2.long
    obtain ⟨V, base, hr3, HG⟩ : ∃ V base, HB w2 b V base s.length ∧ Hid (digestV s = takeV V (endBl base (8 * s.length) 8)) := ⟨_, _, hr2, HF⟩
    clear HF hr2 hbase
    go_enter Tryd.func69, Tryd.ntmps69
    go_wp2
    clear c1 f1 cl cl2 hx1 hx2 hr
    go_loopw [4, 36] (fun _ i wr => ∃ j : Nat, j ≤ 8 ∧ i = .int .i64 j ∧ HB wr b V (endBl base (8 * s.length) j) s.length ∧ Laid wr ∧ w.grownBy wr (some b))
      (fun _ i _ => 8 - (RowKit.intOf i).toNat)
    case atStart => exact ⟨0, by omega, rfl, by simpa [endBl, fixedOf, List.take_of_length_le (Nat.le_of_eq hr3.1)] using hr3, hL2, hg2⟩
    case round =>
      have hb64 := hr3.1
      clear hr3 hL2 hg2
      obtain ⟨j, hj, rfl, hr3, hL2, hg2⟩ := hrel
      by_cases hlt : j < 8
      · have c1 := hr3.byte (63 - j) (by omega)
        have f1 := hr3.free (8 + (63 - j))
        have R := end_put hr3 hb64 hlt hL2 hg2 hb2
        rw [show ((8 * s.length : Nat) : Int) = (s.length : Int) * 8 from by omega] at R
        clear hr3 hL2 hg2
        go_wp2
        go_region
        go_wp2
        go_roundw
        case rel => exact ⟨j + 1, by omega, by go_num, R.1, R.2.1, gb_drewN R.2.2 1⟩
        case measure => simp [RowKit.intOf]; omega
      · obtain rfl : j = 8 := by omega
        go_wp2_with fail
        refine (takeIn_any hL2 hr3 hb2).mono ?_
        rintro e w9 ⟨rfl, hr9, hg9⟩
        go_wp2
        go_end0
        exact ⟨rfl, ⟨_, by rw [HG.out]; exact hr9⟩, gb_trans hg2 hg9⟩
  · have HF : Hid (digestV s = takeV (takeV (blocks s (s.length / 64)) (s.drop (64 * (s.length / 64)) ++ (128 :: List.replicate (63 - a) 0))) (endBl zeroBl (8 * s.length) 8)) := by
      show digestV s = _
      rw [digest_high s (by omega), ← ha]
      rfl
    clear ha
    have cl2 := hr2.long
    go_enter Tryd.func69, Tryd.ntmps69
    go_wp2_with fail
    refine (takeIn_any hL2 hr2 hb2).mono ?_
    rintro e w3 ⟨rfl, hr4, hg4⟩
    have hsl := fun w' => slice58_all w' b 8
    have hcl := clear_part hr4 0 64 64 (by decide) (by decide)
    have hr5 := hr4.range 0 (List.replicate 64 0) (by decide)
    have hg5 := gb_trans hg2 (gb_trans hg4 (gb_setCells w3 b (8 + 0) (byteCells (List.replicate 64 0))))
    have hL5 := hL.grown hg5 hb2
    rw [clear_all _ hr4.1] at hr5
    rw [Nat.add_zero] at hcl hr5 hg5 hL5
    generalize w3.setCells b 8 (byteCells (List.replicate 64 0)) = w4 at *
    have cl5 := hr5.long
    go_wp2
    clear hL2 hg2 hr2 hr4 hg4 hsl hcl cl5 cl2 hx1 hx2 hr
    obtain ⟨V, base, hr3, HG⟩ : ∃ V base, HB w4 b V base s.length ∧ Hid (digestV s = takeV V (endBl base (8 * s.length) 8)) := ⟨_, _, hr5, HF⟩
    have hL2 := hL5
    have hg2 := hg5
    clear hL5 hg5 hr5 HF
    go_loopw [4, 36] (fun _ i wr => ∃ j : Nat, j ≤ 8 ∧ i = .int .i64 j ∧ HB wr b V (endBl base (8 * s.length) j) s.length ∧ Laid wr ∧ w.grownBy wr (some b))
      (fun _ i _ => 8 - (RowKit.intOf i).toNat)
    case atStart => exact ⟨0, by omega, rfl, by simpa [endBl, fixedOf, List.take_of_length_le (Nat.le_of_eq hr3.1)] using hr3, hL2, hg2⟩
    case round =>
      have hb64 := hr3.1
      clear hr3 hL2 hg2
      obtain ⟨j, hj, rfl, hr3, hL2, hg2⟩ := hrel
      by_cases hlt : j < 8
      · have c1 := hr3.byte (63 - j) (by omega)
        have f1 := hr3.free (8 + (63 - j))
        have R := end_put hr3 hb64 hlt hL2 hg2 hb2
        rw [show ((8 * s.length : Nat) : Int) = (s.length : Int) * 8 from by omega] at R
        clear hr3 hL2 hg2
        go_wp2
        go_region
        go_wp2
        go_roundw
        case rel => exact ⟨j + 1, by omega, by go_num, R.1, R.2.1, gb_drewN R.2.2 1⟩
        case measure => simp [RowKit.intOf]; omega
      · obtain rfl : j = 8 := by omega
        go_wp2_with fail
        refine (takeIn_any hL2 hr3 hb2).mono ?_
        rintro e w9 ⟨rfl, hr9, hg9⟩
        go_wp2
        go_end0
        exact ⟨rfl, ⟨_, by rw [HG.out]; exact hr9⟩, gb_trans hg2 hg9⟩

end Go.Proofs.YtcidfkkgpehodaaDoor.Zq.Sh

namespace Go.Proofs.YtcidfkkgpehodaaDoor.Zq.Sh
open Go.RowKit Go.Lib

/-- A string of bytes. -/
def strOf (l : List UInt8) : ByteArray := ⟨l.toArray⟩
theorem strOf_size (l : List UInt8) : (strOf l).size = l.length := by simp [strOf, ByteArray.size]
theorem strOf_toList (l : List UInt8) : (strOf l).data.toList = l := by simp [strOf]

theorem Tryd.info5 : (Tryd.prog.info? 5).map (fun i => (i.zero, i.size, i.bytes)) = some (some (.int .u8 0), 1, 1) := by kernel_rfl

/-- An owned row of bytes, turned into a string. -/
theorem run_string_of_own {w : World} {base : Nat} {v : Value} {l : List UInt8} (h : w.ownsRow base 5 1 v l.length (byteCells l)) :
    (convert 58 9 v).run Tryd.prog w = .ok (.string (strOf l)) w := by
  rcases h.2 with ⟨hv, hn⟩ | ⟨g, cap, cur, hv, _⟩
  · subst hv
    have hl : l = [] := List.eq_nil_of_length_eq_zero hn
    subst hl
    exact run_convert_bytes_nil w 58 5 Tryd.underlying58 Tryd.underlying5 0 0 9 Tryd.underlying9
  · subst hv
    have hc := fun j (hj : j < l.length) => h.cellAt j (by omega)
    have := run_convert_bytes_arg w 58 5 Tryd.underlying58 Tryd.underlying5 g 0 l.length cap (l.map fun b => (b.toNat : Int)) (by simp)
      (fun i hi => by
        rw [Nat.zero_add, hc i hi]
        simp [byteCells, hi]) 9 Tryd.underlying9
    rw [this]
    have e : (l.map fun b => (b.toNat : Int)).map (fun n => UInt8.ofNat n.toNat) = l := by
      rw [List.map_map]
      exact (List.map_congr_left fun a _ => by simp).trans (List.map_id l)
    simp only [strOfNums, strOf, e]

/-- The cells of a new block. -/
theorem cell_list_new (w : World) (l : List Value) (t : TypeId) (j : Nat) (u : Value) (h : l[j]? = some u) : (w.alloc (.cells l.toArray t)).cell? ((⟨w.heap.size, 0, none⟩ : Addr).add j) = some u := by
  rw [Addr.add_mid, Nat.zero_add, cell_of_row _ _ j _ t (0, 0) (heap_alloc_new w _)]
  simpa using h

/-- Some bytes more behind an owned row. -/
theorem rel_app {B : Nat} {w wr w1 : World} {v v' : Value} {pre l : List UInt8} {o : Obj} {k : Nat} {news : List Value} (hl : l.length = k) (hnews : news = byteCells l) (hown : wr.ownsRow B 5 1 v pre.length (byteCells pre)) (hb : Below B w wr) (hB : B ≤ wr.heap.size)
    (hown' : w1.ownsRow B 5 1 v' (pre.length + k) (byteCells pre ++ news)) (hgrow : (wr.alloc o).grownBy w1 v.ownBlock) :
    w1.ownsRow B 5 1 v' (pre ++ l).length (byteCells (pre ++ l)) ∧ Below B w w1 := by
  subst hl hnews
  have e : byteCells (pre ++ l) = byteCells pre ++ byteCells l := by simp [byteCells]
  rw [e, List.length_append]
  exact ⟨hown', (hb.alloc hB o).grown hgrow (by simp; omega) (fun j hj => (hown.lt j hj).1)⟩

theorem bytes4 (x : Int) (hx : 0 ≤ x) : [Value.int .u8 (x / 16777216 % 256), .int .u8 (x / 65536 % 256), .int .u8 (x / 256 % 256), .int .u8 (x % 256)] = byteCells (fixedOf x.toNat 4) := by
  obtain ⟨n, rfl⟩ := Int.eq_ofNat_of_zero_le hx
  have e : ∀ k, (((n / k % 256).toUInt8.toNat : Nat) : Int) = (n : Int) / k % 256 := fun k => by
    rw [toUInt8_toNat (Nat.mod_lt _ (by decide))]
    simp
  have e3 := e 16777216
  have e2 := e 65536
  have e1 := e 256
  have e0 := e 1
  simp only [Int.toNat_natCast, fixedOf, byteCells, List.map_cons, List.map_nil, Nat.reducePow, e3, e2, e1, e0, Nat.pow_zero]
  simp

def wordBytes (x : Int) : List UInt8 := fixedOf x.toNat 4
theorem wordBytes_length (x : Int) : (wordBytes x).length = 4 := fixedOf_length _ 4
def sumPre (v : V8) (j : Nat) : List UInt8 := (v.list.take j).flatMap wordBytes
theorem sumPre_succ (v : V8) (j : Nat) (h : j < 8) : sumPre v (j + 1) = sumPre v j ++ wordBytes (v.list.getD j 0) := by
  have hl : j < v.list.length := h
  rw [sumPre, sumPre, List.take_succ_eq_append_getElem hl, List.flatMap_append, List.getD_eq_getElem?_getD, List.getElem?_eq_getElem hl]
  simp
theorem sumPre_length (v : V8) : ∀ j, j ≤ 8 → (sumPre v j).length = 4 * j
  | 0, _ => rfl
  | j + 1, h => by rw [sumPre_succ v j (by omega), List.length_append, sumPre_length v j (by omega), wordBytes_length]; omega

theorem digestV_nonneg (s : List UInt8) (j : Nat) (h : j < 8) : 0 ≤ (digestV s).list.getD j 0 := by
  have : ∃ v bl, digestV s = takeV v bl := by
    by_cases h : s.length % 64 ≤ 55
    · exact ⟨_, _, digest_low s h⟩
    · exact ⟨_, _, digest_high s h⟩
  obtain ⟨v, bl, e⟩ := this
  rw [e, takeV, addV]
  match j, h with
  | 0, _ | 1, _ | 2, _ | 3, _ | 4, _ | 5, _ | 6, _ | 7, _ => exact Int.emod_nonneg _ (by decide)

theorem digest_eq (s : List UInt8) : sumPre (digestV s) 8 = digest s := rfl
theorem digest_length (s : List UInt8) : (digest s).length = 32 := by rw [← digest_eq, sumPre_length _ _ (by decide)]

set_option maxHeartbeats 1600000 in
set_option maxRecDepth 100000 in
theorem hsum_any {w : World} {b : Nat} {s : List UInt8} (hL : Laid w) (h : HS w b s) (hs : s.length ≤ 200000000000000) :
    Calls Tryd.prog 46 #[.pointer (some ⟨b, 0, none⟩)] w fun e w' => e = .returned (.string (strOf (digest s))) ∧ Below w.heap.size w w' := by
  obtain ⟨i0, hi, hz0, hz1, hz2⟩ := info_parts Tryd.info5
  obtain ⟨bl, hr, hbl⟩ := h
  have hsz := hL.size
  have hinfo := hCells_info (blocks s (s.length / 64)) bl s.length hr.1
  go_enter Tryd.func46, Tryd.ntmps46
  go_wp2_with (first | refine wpList_load_row rfl 112 _ rfl b rfl 112 _ (0, 0) _ hr.2 Tryd.underlying112 rfl hinfo ?_ | refine wpList_alloc_any rfl 112 rfl _ zero60 ?_)
  intro w0 hc0 hs0 hb0
  have R := HB.copy (v := blocks s (s.length / 64)) (n := s.length) hr.1 hc0 hs0 hb0
  go_wp2_with (first | refine wpList_store_row rfl 112 _ _ rfl _ _ rfl rfl 112 _ hc0 hinfo (hCells_old _ bl _ hr.1) (hCells_one _ bl _) ?_ | fail)
  generalize w0.setRow w.heap.size (hCells (blocks s (s.length / 64)) bl s.length).toArray = w1 at *
  refine (end_any (hL.below R.2 hsz) ⟨bl, R.1, hbl⟩ hsz hs).mono ?_
  rintro e w2 ⟨rfl, ⟨bl2, hr2⟩, hg2⟩
  have hb2 : Below w.heap.size w w2 := below_gb R.2 hg2 (Nat.le_refl _) R.2.size
  have hlt2 := hr2.lt
  clear R hg2 hc0 hs0 hb0
  go_wp2_with (at_make; refine wpList_make_own _ rfl _ _ 58 rfl w.heap.size 5 i0 (.int .u8 0) 1 Tryd.underlying58 hi hz0 hz1 _ _ _ 32 rfl rfl rfl (by omega) (by unfold maxLen; omega) (by omega) ?_)
  intro w3 hown3 hgrow3
  have hb3 : Below w.heap.size w w3 := hb2.grown hgrow3 (by omega) (fun k hk => by cases hk)
  have hr3 := hr2.grown hgrow3 (by simp)
  have hN := digestV_nonneg s
  have hD := digest_eq s
  clear hgrow3 hr2 hb2 hlt2
  obtain ⟨V, hV⟩ : ∃ V, V = digestV s := ⟨_, rfl⟩
  rw [← hV] at hr3 hN hD
  obtain ⟨cs, hcs⟩ : ∃ cs, cs = V.list.map word := ⟨_, rfl⟩
  have hrange : w3.rangeAt w.heap.size 0 cs := fun j u hu => by
    rw [hr3.cell, Nat.zero_add, hCells, List.getElem?_append_left (by rw [← hcs]; exact (List.getElem?_eq_some_iff.1 hu).1), ← hcs]
    exact hu
  have hlen : (Tryd.prog.info? 102).map (·.size) = some cs.length := by
    rw [hcs]
    kernel_rfl
  have hidx : ∀ j : Nat, j < 8 → ∀ w, (Instr.index 102 (.agg cs.toArray) (.int .i64 j)).run Tryd.prog w = .ok (.int .u32 (V.list.getD j 0)) w := fun j hj w => by
    rw [hcs]
    exact index56 V j hj w
  have HI : Hid _ := hidx
  clear hr3 hcs hidx hV
  go_wp2_with (refine wpList_load_mid rfl 102 _ rfl w.heap.size 0 rfl cs _ hrange Tryd.underlying102 rfl hlen ?_)
  go_loopw [4, 6, 14] (fun u _ i wr => ∃ j : Nat, j ≤ 8 ∧ i = .int .i64 j ∧ wr.ownsRow w.heap.size 5 1 u (sumPre V j).length (byteCells (sumPre V j)) ∧ Below w.heap.size w wr)
    (fun _ _ i _ => 8 - (RowKit.intOf i).toNat)
  case atStart => exact ⟨0, by omega, rfl, hown3, hb3⟩
  case round =>
    clear hown3 hb3
    obtain ⟨j, hj, rfl, hown, hb⟩ := hrel
    have hpl : (sumPre V j).length ≤ 32 := by rw [sumPre_length V j hj]; omega
    by_cases hlt : j < 8
    · have hix := HI.out j hlt
      have hx0 := hN j hlt
      have hS := sumPre_succ V j hlt
      generalize V.list.getD j 0 = x at *
      go_wp2_with (first | (at_builtin; refine wpList_append_own _ rfl (.tmp 17) (.tmp 29) 58 rfl w.heap.size 5 i0 (.int .u8 0) 1 1 Tryd.underlying58 hi hz0 hz1 hz2 rfl (by decide) _ _ _ rfl (hown.alloc _) ⟨wr.heap.size, 0, none⟩ 4 4 [.int .u8 (x / 16777216 % 256), .int .u8 (x / 65536 % 256), .int .u8 (x / 256 % 256), .int .u8 (x % 256)] rfl rfl (cell_list_new _ _ _) (by intro u hu; simp at hu; rcases hu with rfl | rfl | rfl | rfl <;> rfl) (by unfold maxLen; omega) (by omega) (by have := hb.size; simp; omega) ?_))
      intro v' w4 hown' hgrow _
      have Q := rel_app (wordBytes_length x) (bytes4 x hx0) hown hb hb.size hown' hgrow
      rw [← hS] at Q
      clear hown' hgrow hown hS
      go_wp2
      go_roundw
      case rel => exact ⟨j + 1, by omega, by go_num, Q.1, Q.2⟩
      case measure => simp [RowKit.intOf]; omega
    · obtain rfl : j = 8 := by omega
      rw [hD] at hown
      have hsr := run_string_of_own hown
      go_wp2
      go_ret
      exact ⟨rfl, hb⟩
end Go.Proofs.YtcidfkkgpehodaaDoor.Zq.Sh

namespace Go.Proofs.YtcidfkkgpehodaaDoor.Zq.Sh
open Go.RowKit Go.Lib

/-- A list of texts that lies in memory. -/
def Pieces (w : World) (v : Value) (ps : List ByteArray) : Prop :=
  ∃ a c, v = .slice a ps.length c ∧ (ps = [] ∨ ∃ bl off, a = some ⟨bl, off, none⟩ ∧ bl < w.heap.size ∧ ∀ (k : Nat) (h : k < ps.length), w.cell? ⟨bl, off + k, none⟩ = some (.string ps[k]))
theorem Pieces.below {w w' : World} {v : Value} {ps : List ByteArray} (h : Pieces w v ps) (hb : Below w.heap.size w w') : Pieces w' v ps := by
  obtain ⟨a, c, hv, h⟩ := h
  refine ⟨a, c, hv, h.imp_right ?_⟩
  rintro ⟨bl, off, ha, hbl, hc⟩
  exact ⟨bl, off, ha, Nat.lt_of_lt_of_le hbl hb.size, fun k hk => (hb.cell (p := ⟨bl, off + k, none⟩) hbl).trans (hc k hk)⟩

/-- All pieces, one behind the other. -/
def joined (ps : List ByteArray) : List UInt8 := ps.flatMap fun p => p.data.toList
theorem joined_take (ps : List ByteArray) (j : Nat) (h : j < ps.length) : joined (ps.take (j + 1)) = joined (ps.take j) ++ ps[j].data.toList := by
  rw [joined, joined, List.take_succ_eq_append_getElem h, List.flatMap_append]
  simp
theorem joined_le (ps : List ByteArray) (j : Nat) : (joined (ps.take j)).length ≤ (joined ps).length := by
  have : joined ps = joined (ps.take j) ++ joined (ps.drop j) := by rw [joined, joined, joined, ← List.flatMap_append, List.take_append_drop]
  rw [this, List.length_append]
  omega

theorem HS.new {w : World} {b : Nat} (h : HB w b first zeroBl 0) : HS w b [] := ⟨zeroBl, h, rfl⟩

set_option maxHeartbeats 800000 in
set_option maxRecDepth 100000 in
theorem sum_any {w : World} {v : Value} {ps : List ByteArray} (hL : Laid w) (hp : Pieces w v ps) (hn : ps.length ≤ 140737488355328) (hs : (joined ps).length ≤ 200000000000000) :
    Calls Tryd.prog 19 #[v] w fun e w' => e = .returned (.string (strOf (digest (joined ps)))) ∧ Below w.heap.size w w' := by
  have hsz := hL.size
  obtain ⟨ad, c, rfl, hcs⟩ := hp
  have HC : Hid _ := hcs
  clear hcs
  obtain ⟨n, hnn⟩ : ∃ n, n = ps.length := ⟨_, rfl⟩
  rw [← hnn] at hn ⊢
  go_enter Tryd.func19, Tryd.ntmps19
  go_wp2_with fail
  refine (new_any hL).mono ?_
  rintro e w1 ⟨rfl, hr1, hb1⟩
  have hS1 := HS.new hr1
  have hL1 := hL.below hb1 hsz
  clear hr1
  have HN : Hid _ := hnn
  clear hnn
  go_wp2
  go_loopw [5, 9] (fun _ i wr => ∃ j : Nat, j ≤ n ∧ i = .int .i64 j ∧ HS wr w.heap.size (joined (ps.take j)) ∧ Laid wr ∧ Below w.heap.size w wr)
    (fun _ i _ => n - (RowKit.intOf i).toNat)
  case atStart => exact ⟨0, Nat.zero_le _, rfl, hS1, hL1, hb1⟩
  case round =>
    clear hS1 hL1 hb1
    obtain ⟨j, hj, rfl, hS, hLr, hb⟩ := hrel
    by_cases hlt : j < n
    · have hjp : j < ps.length := by rw [← HN.out]; exact hlt
      obtain ⟨bl, off, rfl, hbl, hc⟩ := HC.out.resolve_left (fun e => by rw [e] at hjp; exact absurd hjp (Nat.not_lt_zero _))
      have hcj := (hb.cell (p := ⟨bl, off + j, none⟩) hbl).trans (hc j hjp)
      have hJ := joined_take ps j hjp
      have hle : (joined (ps.take j)).length + ps[j].size ≤ 200000000000000 := by
        have := joined_le ps (j + 1)
        rw [hJ, List.length_append, ← Lib.size_eq] at this
        omega
      have HJ : Hid _ := hJ
      clear hc hJ
      generalize ps[j] = p at *
      have b0 : (0 : Int) ≤ (j : Int) := by omega
      have b1 : (j : Int) < (n : Int) := by omega
      go_wp2_with fail
      refine (write_any p hLr hS hsz hle).mono ?_
      rintro e w2 ⟨rfl, hS2, hL2, hg2⟩
      rw [← HJ.out] at hS2
      have hb2 := below_gb hb hg2 (Nat.le_refl _) hb.size
      go_wp2
      exact ⟨⟨j + 1, by omega, by go_num, hS2, hL2, hb2⟩, by simp [RowKit.intOf]; omega⟩
    · have hjn : j = n := by omega
      subst hjn
      have hall : ps.take j = ps := List.take_of_length_le (by rw [← HN.out]; exact Nat.le_refl _)
      rw [hall] at hS
      go_wp2_with fail
      refine (hsum_any hLr hS hs).mono ?_
      rintro e w2 ⟨rfl, hb2⟩
      go_wp2
      go_ret
      exact ⟨rfl, hb.trans (hb2.mono hb.size)⟩

end Go.Proofs.YtcidfkkgpehodaaDoor.Zq.Sh

