/-
  Sums of 32 bytes as plain functions: nothing of the program is named here.
-/
import Derived.Lib.VarintMem
namespace Go.Proofs.YtgpdmboeompncaaDoor
open Go.Lib

/-- x turned by n: its lowest n bits on top. -/
def rotr (x : Int) (n : Nat) : Int := bits .or .u32 (x / 2 ^ n) (x * 2 ^ (32 - n) % 4294967296)

def low (x : Int) : Int := bits .xor .u32 (bits .xor .u32 (rotr x 7) (rotr x 18)) (x / 8)
def high (y : Int) : Int := bits .xor .u32 (bits .xor .u32 (rotr y 17) (rotr y 19)) (y / 1024)
/-- A word that is made of words ahead of it: of those 16, 7, 15 and 2 ahead. -/
def mixW (a b x y : Int) : Int := (((a + b) % 4294967296 + low x) % 4294967296 + high y) % 4294967296

/-- Eight words. -/
structure V8 where
  a : Int
  b : Int
  c : Int
  d : Int
  e : Int
  f : Int
  g : Int
  h : Int

def tOf (v : V8) (k w : Int) : Int :=
  ((((v.h + bits .xor .u32 (bits .xor .u32 (rotr v.e 6) (rotr v.e 11)) (rotr v.e 25)) % 4294967296 + bits .xor .u32 (bits .and .u32 v.e v.f) (bits .andNot .u32 v.g v.e)) % 4294967296 + k) % 4294967296 + w) % 4294967296
def uOf (v : V8) : Int :=
  (bits .xor .u32 (bits .xor .u32 (rotr v.a 2) (rotr v.a 13)) (rotr v.a 22) + bits .xor .u32 (bits .xor .u32 (bits .and .u32 v.a v.b) (bits .and .u32 v.a v.c)) (bits .and .u32 v.b v.c)) % 4294967296
def stepV (k w : Int) (v : V8) : V8 :=
  ⟨(tOf v k w + uOf v) % 4294967296, v.a, v.b, v.c, (v.d + tOf v k w) % 4294967296, v.e, v.f, v.g⟩

def Ks : List Int := [1116352408, 1899447441, 3049323471, 3921009573, 961987163, 1508970993, 2453635748, 2870763221, 3624381080, 310598401, 607225278, 1426881987, 1925078388, 2162078206, 2614888103, 3248222580, 3835390401, 4022224774, 264347078, 604807628, 770255983, 1249150122, 1555081692, 1996064986, 2554220882, 2821834349, 2952996808, 3210313671, 3336571891, 3584528711, 113926993, 338241895, 666307205, 773529912, 1294757372, 1396182291, 1695183700, 1986661051, 2177026350, 2456956037, 2730485921, 2820302411, 3259730800, 3345764771, 3516065817, 3600352804, 4094571909, 275423344, 430227734, 506948616, 659060556, 883997877, 958139571, 1322822218, 1537002063, 1747873779, 1955562222, 2024104815, 2227730452, 2361852424, 2428436474, 2756734187, 3204031479, 3329325298]
def K (i : Nat) : Int := Ks.getD i 0
def first : V8 := ⟨1779033703, 3144134277, 1013904242, 2773480762, 1359893119, 2600822924, 528734635, 1541459225⟩

def rounds (W : Nat → Int) : Nat → V8 → V8
  | 0, v => v
  | n + 1, v => stepV (K n) (W n) (rounds W n v)

def addV (l v : V8) : V8 :=
  ⟨(l.a + v.a) % 4294967296, (l.b + v.b) % 4294967296, (l.c + v.c) % 4294967296, (l.d + v.d) % 4294967296,
   (l.e + v.e) % 4294967296, (l.f + v.f) % 4294967296, (l.g + v.g) % 4294967296, (l.h + v.h) % 4294967296⟩

/-- A block's own word i. -/
def ownW (bl : List UInt8) (i : Nat) : Int :=
  ((bl.getD (4 * i) 0).toNat * 16777216 + (bl.getD (4 * i + 1) 0).toNat * 65536 + (bl.getD (4 * i + 2) 0).toNat * 256 + (bl.getD (4 * i + 3) 0).toNat : Nat)

/-- A block's words so far, the last one first. -/
def sched (bl : List UInt8) : Nat → List Int
  | 0 => (List.range 16).reverse.map (ownW bl)
  | n + 1 => mixW ((sched bl n).getD 15 0) ((sched bl n).getD 6 0) ((sched bl n).getD 14 0) ((sched bl n).getD 1 0) :: sched bl n

/-- A block's word i. -/
def W (bl : List UInt8) (i : Nat) : Int := (sched bl 48).getD (63 - i) 0

theorem sched_length (bl : List UInt8) : ∀ n, (sched bl n).length = 16 + n
  | 0 => by simp [sched]
  | n + 1 => by simp [sched, sched_length bl n]; omega

theorem sched_drop (bl : List UInt8) (n : Nat) : ∀ k, (sched bl (n + k)).drop k = sched bl n
  | 0 => rfl
  | k + 1 => by rw [← Nat.add_assoc, sched, List.drop_succ_cons, sched_drop bl n k]

theorem sched_getD (bl : List UInt8) (n j : Nat) (hn : n ≤ 48) (hj : j < 16 + n) : (sched bl n).getD j 0 = W bl (15 + n - j) := by
  have h := sched_drop bl n (48 - n)
  rw [show n + (48 - n) = 48 from by omega] at h
  rw [← h]
  unfold W
  simp only [List.getD_eq_getElem?_getD, List.getElem?_drop]
  rw [show 48 - n + j = 63 - (15 + n - j) from by omega]

theorem W_own (bl : List UInt8) (i : Nat) (h : i < 16) : W bl i = ownW bl i := by
  have := sched_getD bl 0 (15 - i) (by omega) (by omega)
  rw [show 15 + 0 - (15 - i) = i from by omega] at this
  rw [← this]
  have h2 : (List.range 16).reverse[15 - i]? = some i := (show ∀ i, i < 16 → (List.range 16).reverse[15 - i]? = some i by decide) i h
  rw [sched, List.getD_eq_getElem?_getD, List.getElem?_map, h2]
  rfl

theorem W_mix (bl : List UInt8) (i : Nat) (h : i < 48) : W bl (i + 16) = mixW (W bl i) (W bl (i + 9)) (W bl (i + 1)) (W bl (i + 14)) := by
  have := sched_getD bl (i + 1) 0 (by omega) (by omega)
  rw [show 15 + (i + 1) - 0 = i + 16 from by omega] at this
  rw [← this, sched, List.getD_cons_zero, sched_getD bl i 15 (by omega) (by omega), sched_getD bl i 6 (by omega) (by omega), sched_getD bl i 14 (by omega) (by omega), sched_getD bl i 1 (by omega) (by omega)]
  congr 2 <;> omega

/-- The cells of a block's words, of which i are told. -/
def wCells (bl : List UInt8) (i : Nat) : List Value := (List.range 64).map fun j => .int .u32 (if j < i then W bl j else 0)

theorem wCells_length (bl : List UInt8) (i : Nat) : (wCells bl i).length = 64 := by simp [wCells]
theorem wCells_get (bl : List UInt8) (i j : Nat) (hj : j < i) (hi : i ≤ 64) : (wCells bl i)[j]? = some (.int .u32 (W bl j)) := by
  simp [wCells, List.getElem?_map, List.getElem?_range (show j < 64 by omega), hj]
theorem wCells_zero (bl : List UInt8) (i j : Nat) (hj : ¬ j < i) (h : j < 64) : (wCells bl i)[j]? = some (.int .u32 0) := by
  simp [wCells, List.getElem?_map, List.getElem?_range h, hj]
theorem wCells_set (bl : List UInt8) (i : Nat) (hi : i < 64) : (wCells bl i).set i (.int .u32 (W bl i)) = wCells bl (i + 1) := by
  apply List.ext_getElem?
  intro j
  rw [List.getElem?_set]
  by_cases hj : i = j
  · subst hj
    rw [if_pos rfl, wCells_length, if_pos hi, wCells_get _ _ _ (Nat.lt_succ_self i) (by omega)]
  · rw [if_neg hj]
    by_cases h64 : j < 64
    · simp only [wCells, List.getElem?_map, List.getElem?_range h64, Option.map_some]
      by_cases hji : j < i
      · rw [if_pos hji, if_pos (by omega)]
      · rw [if_neg hji, if_neg (by omega)]
    · rw [List.getElem?_eq_none (by rw [wCells_length]; omega), List.getElem?_eq_none (by rw [wCells_length]; omega)]
theorem wCells_none (bl : List UInt8) : wCells bl 0 = List.replicate 64 (.int .u32 0) := by
  simp only [wCells, Nat.not_lt_zero, if_false]
  rfl

/-- The words of a block, when they are all told. -/
def allW (bl : List UInt8) : List Value := (List.range 64).map fun j => .int .u32 (W bl j)
theorem wCells_all (bl : List UInt8) : wCells bl 64 = allW bl := by
  apply List.map_congr_left
  intro j hj
  rw [if_pos (List.mem_range.1 hj)]
theorem allW_get (bl : List UInt8) (j : Nat) (h : j < 64) : (allW bl)[j]? = some (.int .u32 (W bl j)) := by
  simp [allW, List.getElem?_map, List.getElem?_range h]
theorem allW_length (bl : List UInt8) : (allW bl).length = 64 := by simp [allW]

/-- A block is taken in. -/
def takeV (l : V8) (bl : List UInt8) : V8 := addV l (rounds (W bl) 64 l)

def block (s : List UInt8) (n : Nat) : List UInt8 := (s.drop (64 * n)).take 64
def blocks (s : List UInt8) : Nat → V8
  | 0 => first
  | n + 1 => takeV (blocks s n) (block s n)

/-- The bytes of a fixed number: the highest first. -/
def fixedOf (x : Nat) : Nat → List UInt8
  | 0 => []
  | k + 1 => (x / 256 ^ k % 256).toUInt8 :: fixedOf x k

def pad (n : Nat) : List UInt8 := 128 :: (List.replicate ((119 - n % 64) % 64) 0 ++ fixedOf (8 * n) 8)
def padded (s : List UInt8) : List UInt8 := s ++ pad s.length
def digestV (s : List UInt8) : V8 := blocks (padded s) ((padded s).length / 64)
def V8.list (v : V8) : List Int := [v.a, v.b, v.c, v.d, v.e, v.f, v.g, v.h]
def digest (s : List UInt8) : List UInt8 := (digestV s).list.flatMap fun x => fixedOf x.toNat 4

/-- The chapter's example. -/
theorem example_abc : (digestV [97, 98, 99]).a = 3128432319 := by kernel_rfl

end Go.Proofs.YtgpdmboeompncaaDoor
