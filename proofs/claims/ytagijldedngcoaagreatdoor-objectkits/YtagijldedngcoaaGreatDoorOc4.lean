/-
  Contracts of the program and of the statements (part 4 of 35).
-/
import Derived.Test.YtagijldedngcoaaGreatDoorOc2
import Derived.Test.YtagijldedngcoaaGreatDoorOc3
import Derived.Test.YtagijldedngcoaaGreatDoorRows
import Derived.Deep.RegionHeldLaw
import Derived.Deep.DeepCutAuto

namespace Go.Proofs.YtagijldedngcoaaGreatDoor.Zq
open Go.RowKit Go.Lib

def PL (w : World) (b sb f g k m : Nat) : Prop := w.heap[b]? = some (.cells #[.int .i64 k, .int .i64 m, .int .i64 ((k + m : Nat) : Int), .int .i64 k, .slice (some ⟨g, 0, none⟩) ((k + m) * k) ((k + m) * k), .pointer (some ⟨sb, 0, none⟩), .pointer (some ⟨f, 0, none⟩)] 319 (0, 0))
section
variable {w w' : World} {b sb f g k m : Nat}
theorem PL.lt (h : PL w b sb f g k m) : b < w.heap.size := lt_of_block h
theorem PL.cell0 (h : PL w b sb f g k m) : w.cell? ⟨b, 0, none⟩ = some (.int .i64 k) := by rw [cell_of_row w b 0 _ _ _ h]; rfl
theorem PL.cell1 (h : PL w b sb f g k m) : w.cell? ⟨b, 1, none⟩ = some (.int .i64 m) := by rw [cell_of_row w b 1 _ _ _ h]; rfl
theorem PL.cell2 (h : PL w b sb f g k m) : w.cell? ⟨b, 2, none⟩ = some (.int .i64 ((k + m : Nat) : Int)) := by rw [cell_of_row w b 2 _ _ _ h]; rfl
theorem PL.cell3 (h : PL w b sb f g k m) : w.cell? ⟨b, 3, none⟩ = some (.int .i64 k) := by rw [cell_of_row w b 3 _ _ _ h]; rfl
theorem PL.cell4 (h : PL w b sb f g k m) : w.cell? ⟨b, 4, none⟩ = some (.slice (some ⟨g, 0, none⟩) ((k + m) * k) ((k + m) * k)) := by rw [cell_of_row w b 4 _ _ _ h]; rfl
theorem PL.cell5 (h : PL w b sb f g k m) : w.cell? ⟨b, 5, none⟩ = some (.pointer (some ⟨sb, 0, none⟩)) := by rw [cell_of_row w b 5 _ _ _ h]; rfl
theorem PL.cell6 (h : PL w b sb f g k m) : w.cell? ⟨b, 6, none⟩ = some (.pointer (some ⟨f, 0, none⟩)) := by rw [cell_of_row w b 6 _ _ _ h]; rfl
theorem PL.of_block (h : PL w b sb f g k m) (hb : w'.heap[b]? = w.heap[b]?) : PL w' b sb f g k m := hb.trans h
end
structure PP (w : World) (b sb f1 f2 g k m : Nat) : Prop where
  pl : PL w b sb f2 g k m
  sp : SP w sb f1
  fl : F w f2
  kb : KB w g ((k + m) * k) (flat k (cauM k))
  ne : f1 ≠ f2
section
variable {w w' : World} {b sb f1 f2 g k m : Nat}
theorem PP.below (h : PP w b sb f1 f2 g k m) (hb : Below w.heap.size w w') : PP w' b sb f1 f2 g k m :=
  ⟨h.pl.of_block (hb.block b h.pl.lt), h.sp.below hb (Nat.le_refl _), h.fl.below hb (Nat.le_refl _), h.kb.below hb (Nat.le_refl _), h.ne⟩
theorem PP.nef (h : PP w b sb f1 f2 g k m) : b ≠ f2 ∧ g ≠ f2 ∧ sb ≠ f2 := by
  refine ⟨fun e => ?_, fun e => ?_, fun e => ?_⟩
  · subst e
    have x := h.pl
    unfold PL at x
    rcases h.fl with z | ⟨_, _, z, _⟩ <;> (unfold FB at z; rw [x] at z; simp at z)
  · subst e
    obtain ⟨Z, x⟩ := h.kb
    rcases h.fl with z | ⟨_, _, z, _⟩ <;> (unfold FB at z; rw [x] at z; simp at z)
  · subst e
    have x := h.sp.b
    unfold SPB at x
    rcases h.fl with z | ⟨_, _, z, _⟩ <;> (unfold FB at z; rw [x] at z; simp at z)
end

section
variable {w w' : World} {b g k m : Nat}
end
set_option maxRecDepth 100000 in
theorem snew_bad {w : World} (k m : Int) (hm : m ≤ 9223372036854775807) (h : k < 1 ∨ m < 0 ∨ 255 - m < k) :
    Calls Tryz.prog 204 #[.int .i64 k, .int .i64 m] w fun e w' => e = .returned (.tuple #[.pointer none, .int .i64 1]) ∧ Below w.heap.size w w' := by
  go_enter Tryz.func204, Tryz.ntmps204
  go_wp2_with fail
  refine (mnew_any _).mono ?_
  rintro e w1 ⟨sb, f, rfl, hS, hf, hsb, hb1⟩
  have HB1 := hide hb1
  clear hS hf hsb hb1
  go_wp2_with fail
  refine (cauchy_bad k m hm h).mono ?_
  rintro e w2 ⟨rfl, hb2⟩
  have HB2 := hide (below_step HB1.out hb2)
  clear HB1 hb2 h hm
  go_wp2
  exact bodyPost_ret (v := .tuple #[.pointer none, .int .i64 1]) (by simp [results, Tryz.results204, go_sem]) rfl ⟨rfl, below_alloc HB2.out _⟩

set_option maxRecDepth 100000 in
set_option maxHeartbeats 1600000 in
theorem snew_ok {w : World} {k m : Nat} (k1 : 1 ≤ k) (km : k + m ≤ 255) :
    Calls Tryz.prog 204 #[.int .i64 k, .int .i64 m] w fun e w' => ∃ b sb f1 f2 g, e = .returned (.tuple #[.pointer (some ⟨b, 0, none⟩), .int .i64 0]) ∧ PP w' b sb f1 f2 g k m ∧ w.heap.size ≤ f2 ∧ Below w.heap.size w w' := by
  go_enter Tryz.func204, Tryz.ntmps204
  go_wp2_with fail
  refine (mnew_any _).mono ?_
  rintro e w1 ⟨sb, f1, rfl, hS, hf, hsb, hb1⟩
  have HS1 := hide hS
  have HB1 := hide hb1
  have HF := hide hf
  clear hS hf hsb hb1
  go_wp2_with fail
  refine (cauchy_ok HS1.out k1 km).mono ?_
  rintro e w2 ⟨g, rfl, hG, hg, hS2, hg2⟩
  have HB2 := hide (below_gb HB1.out hg2 HF.out HB1.out.size)
  obtain ⟨N, hN⟩ : ∃ N, N = (k + m) * k := ⟨_, rfl⟩
  obtain ⟨km', hkm⟩ : ∃ n, n = k + m := ⟨_, rfl⟩
  rw [← hkm] at hN
  rw [← hkm, ← hN] at hG ⊢
  have X := Bx.new w2 (km' : Int) (k : Int) (.slice (some ⟨g, 0, none⟩) N N)
  have HX := hide X
  have HS2 := hide (hS2.alloc (.cells #[.int .i64 (km' : Int), .int .i64 (k : Int), .slice (some ⟨g, 0, none⟩) N N] 313))
  have HG := hide (hG.alloc (.cells #[.int .i64 (km' : Int), .int .i64 (k : Int), .slice (some ⟨g, 0, none⟩) N N] 313))
  have HB3 := hide (below_alloc HB2.out (.cells #[.int .i64 (km' : Int), .int .i64 (k : Int), .slice (some ⟨g, 0, none⟩) N N] 313))
  have HE := hide (And.intro hkm hN)
  clear HS1 HB1 HF hG hg hS2 hg2 HB2 hN hkm X
  obtain ⟨W, hW⟩ : ∃ W, W = w2.alloc (.cells #[.int .i64 (km' : Int), .int .i64 (k : Int), .slice (some ⟨g, 0, none⟩) N N] 313) := ⟨_, rfl⟩
  rw [← hW] at HX HS2 HG HB3
  have HW := hide hW
  clear hW
  go_upto_region 5 with fail
  rw [← HW.out]
  have HK : Hid (∀ w', Below W.heap.size W w' → w'.cell? ⟨w2.heap.size, 0, none⟩ = some (.int .i64 (km' : Int)) ∧ w'.cell? ⟨w2.heap.size, 1, none⟩ = some (.int .i64 (k : Int)) ∧ w'.cell? ⟨w2.heap.size, 2, none⟩ = some (.slice (some ⟨g, 0, none⟩) N N)) := fun w' hb => ⟨(HX.out.below hb (Nat.le_refl _)).cell0, (HX.out.below hb (Nat.le_refl _)).cell1, (HX.out.below hb (Nat.le_refl _)).cell2⟩
  have HB0 : Hid (Below W.heap.size W W.drew) := (Below.refl _ _).drew
  go_region_held_law (fun wx => wx.cell? ⟨w2.heap.size, 0, none⟩ = some (.int .i64 (km' : Int)) ∧ wx.cell? ⟨w2.heap.size, 1, none⟩ = some (.int .i64 (k : Int)) ∧ wx.cell? ⟨w2.heap.size, 2, none⟩ = some (.slice (some ⟨g, 0, none⟩) N N))
    (first | with_reducible exact HK.out _ HB0.out | with_reducible exact HK.out _ (by assumption) | with_reducible exact HK.out _ (below_alloc (by assumption) _))
    (first
      | (go_at_call 240; refine (new_any _).mono ?_; rintro e wa ⟨rfl, hF, hba⟩; have hbA := below_step HB0.out hba))
  all_goals
    go_wp2
    obtain ⟨rfl, rfl⟩ := HE.out
    have hlt : W.heap.size < wa.heap.size := hF.lt
    refine bodyPost_ret (v := .tuple #[.pointer (some ⟨wa.heap.size, 0, none⟩), .int .i64 0]) (by simp [results, Tryz.results204, go_sem]) rfl ⟨wa.heap.size, sb, f1, W.heap.size, g, rfl, ⟨heap_alloc_new wa _, (HS2.out.below hbA (Nat.le_refl _)).alloc _, hF.below (below_alloc (Below.refl wa.heap.size wa) _) (Nat.le_refl _), (HG.out.below hbA (Nat.le_refl _)).alloc _, by have := HS2.out.ltf; omega⟩, HB3.out.size, below_alloc (below_step HB3.out hbA) _⟩

/-! ### Shape, Each -/
set_option maxRecDepth 100000 in
theorem shape_any {w : World} {b sb f1 f2 g k m : Nat} (h : PP w b sb f1 f2 g k m) :
    Calls Tryz.prog 253 #[.pointer (some ⟨b, 0, none⟩)] w fun e w' => e = .returned (.tuple #[.int .i64 k, .int .i64 m]) ∧ Below w.heap.size w w' := by
  have c0 := h.pl.cell0
  have c1 := h.pl.cell1
  clear h
  go_enter Tryz.func253, Tryz.ntmps253
  go_wp2
  go_quiet (fail)
  go_wp2
  exact bodyPost_ret (v := .tuple #[.int .i64 k, .int .i64 m]) (by simp [results, Tryz.results253, go_sem]) rfl ⟨rfl, below_drew (Below.refl _ _) _⟩

def eachN (k n : Nat) : Nat := (n + k - 1) / k
def eachR (k : Nat) (long : Int) : Int × Int := if long < 0 ∨ 65536 < long then (0, 1) else (((eachN k long.toNat : Nat) : Int), 0)
theorem quo_nat (a k : Nat) : (((a : Nat) : Int).tdiv ((k : Nat) : Int)) = ((a / k : Nat) : Int) := by rw [Int.ofNat_tdiv]
theorem eachN_le {k n : Nat} (h : 1 ≤ k) : eachN k n ≤ n := by
  unfold eachN
  rcases Nat.eq_zero_or_pos n with rfl | hn
  · rw [Nat.div_eq_of_lt (by omega)]; exact Nat.le_refl _
  · refine Nat.div_le_of_le_mul ?_
    have : n + k ≤ k * n + 1 := by
      obtain ⟨a, rfl⟩ : ∃ a, k = a + 1 := ⟨k - 1, by omega⟩
      obtain ⟨c, rfl⟩ : ∃ c, n = c + 1 := ⟨n - 1, by omega⟩
      have e : (a + 1) * (c + 1) = a * c + a + c + 1 := by rw [Nat.add_mul, Nat.mul_add, Nat.one_mul, Nat.mul_one]; omega
      have := Nat.zero_le (a * c)
      omega
    omega
theorem eachN_ge {k n : Nat} (h : 1 ≤ k) : n ≤ k * eachN k n := by
  unfold eachN
  have h1 := Nat.div_add_mod (n + k - 1) k
  have h2 := Nat.mod_lt (n + k - 1) (show 0 < k by omega)
  omega
theorem eachN_up {k n : Nat} : k * eachN k n ≤ n + k - 1 := Nat.mul_div_le _ _

set_option maxRecDepth 100000 in
theorem each_any {w : World} {b sb f1 f2 g k m : Nat} (h : PP w b sb f1 f2 g k m) (k1 : 1 ≤ k) (k2 : k ≤ 255) (long : Int) :
    Calls Tryz.prog 254 #[.pointer (some ⟨b, 0, none⟩), .int .i64 long] w fun e w' => e = .returned (.tuple #[.int .i64 (eachR k long).1, .int .i64 (eachR k long).2]) ∧ Below w.heap.size w w' := by
  have c0 := h.pl.cell0
  clear h
  by_cases h1 : long < 0
  · rw [eachR, if_pos (.inl h1)]
    go_enter Tryz.func254, Tryz.ntmps254
    go_wp2
    exact bodyPost_ret (v := .tuple #[.int .i64 0, .int .i64 1]) (by simp [results, Tryz.results254, go_sem]) rfl ⟨rfl, Below.refl _ _⟩
  by_cases h2 : 65536 < long
  · rw [eachR, if_pos (.inr h2)]
    go_enter Tryz.func254, Tryz.ntmps254
    go_wp2
    exact bodyPost_ret (v := .tuple #[.int .i64 0, .int .i64 1]) (by simp [results, Tryz.results254, go_sem]) rfl ⟨rfl, Below.refl _ _⟩
  rw [eachR, if_neg (by omega)]
  obtain ⟨n, rfl⟩ : ∃ n : Nat, long = n := ⟨long.toNat, by omega⟩
  have q1 : ((n : Int) + (k : Int) - 1).tdiv (k : Int) = ((eachN k n : Nat) : Int) := by
    rw [eachN, ← quo_nat]
    congr 1
    omega
  have hk0 : (k : Int) ≠ 0 := by omega
  have hq : eachN k n ≤ n := eachN_le k1
  rw [Int.toNat_natCast]
  generalize eachN k n = q at *
  go_enter Tryz.func254, Tryz.ntmps254
  go_wp2
  go_quiet (fail)
  go_wp2
  exact bodyPost_ret (v := .tuple #[.int .i64 q, .int .i64 0]) (by simp [results, Tryz.results254, go_sem]) rfl ⟨rfl, below_drew (Below.refl _ _) _⟩

end Go.Proofs.YtagijldedngcoaaGreatDoor.Zq


namespace Go.Proofs.YtagijldedngcoaaGreatDoor.Zq

def crcP : Nat := 2197175160
def tS (r : Nat) : Nat := if r % 2 = 1 then r / 2 ^^^ crcP else r / 2
def tN : Nat → Nat → Nat
  | 0, r => r
  | n + 1, r => tN n (tS r)
theorem tN_add : ∀ (n m r : Nat), tN (n + m) r = tN m (tN n r)
  | 0, m, r => by rw [Nat.zero_add]; rfl
  | n + 1, m, r => by rw [show n + 1 + m = (n + m) + 1 by omega, tN, tN, tN_add n m]
theorem tS_lt {r : Nat} (h : r < 4294967296) : tS r < 4294967296 := by
  rw [tS]
  split
  · exact Nat.xor_lt_two_pow (n := 32) (by omega) (by decide)
  · omega
theorem tN_lt : ∀ (n : Nat) {r : Nat}, r < 4294967296 → tN n r < 4294967296
  | 0, _, h => h
  | n + 1, _, h => tN_lt n (tS_lt h)
def crcS (r : Nat) (l : List UInt8) : Nat := l.foldl (fun r b => tN 8 (r ^^^ b.toNat)) r
theorem crcS_cons (r : Nat) (b : UInt8) (l : List UInt8) : crcS r (b :: l) = crcS (tN 8 (r ^^^ b.toNat)) l := List.foldl_cons ..
theorem crcS_append : ∀ (l m : List UInt8) (r : Nat), crcS r (l ++ m) = crcS (crcS r l) m
  | [], _, _ => rfl
  | b :: l, m, r => by rw [List.cons_append, crcS_cons, crcS_cons, crcS_append l m]
theorem crcS_lt : ∀ (l : List UInt8) {r : Nat}, r < 4294967296 → crcS r l < 4294967296
  | [], _, h => h
  | b :: l, _, h => by
    rw [crcS_cons]
    exact crcS_lt l (tN_lt 8 (Nat.xor_lt_two_pow (n := 32) h (by have := b.toNat_lt; omega)))
def le4 (w : Nat) : List UInt8 := [UInt8.ofNat w, UInt8.ofNat (w / 256), UInt8.ofNat (w / 65536), UInt8.ofNat (w / 16777216)]
def crcV (l : List UInt8) : Nat := crcS 4294967295 l ^^^ 4294967295
end Go.Proofs.YtagijldedngcoaaGreatDoor.Zq

namespace Go.Proofs.YtagijldedngcoaaGreatDoor.Zq

structure SX where
  k : Int
  m : Int
  i : Int
  long : Int
  id : ByteArray
  data : ByteArray
def okS (x : SX) : Prop := (1 ≤ x.k ∧ 0 ≤ x.m ∧ x.k + x.m ≤ 255) ∧ (0 ≤ x.i ∧ x.i < x.k + x.m) ∧ (0 ≤ x.long ∧ x.long ≤ 65536) ∧ x.id.size = 32 ∧ x.data.size = eachN x.k.toNat x.long.toNat
def be4 (n : Nat) : List UInt8 := [UInt8.ofNat (n / 16777216), UInt8.ofNat (n / 65536), UInt8.ofNat (n / 256), UInt8.ofNat n]
def nb4 (a b c d : UInt8) : Nat := a.toNat * 16777216 + b.toNat * 65536 + c.toNat * 256 + d.toNat
theorem nb4_be4 (n : Nat) (h : n < 4294967296) : nb4 (UInt8.ofNat (n / 16777216)) (UInt8.ofNat (n / 65536)) (UInt8.ofNat (n / 256)) (UInt8.ofNat n) = n := by
  simp only [nb4, UInt8.toNat_ofNat']
  omega
def txL (x : SX) : List UInt8 := 71 :: 82 :: 84 :: 1 :: UInt8.ofNat x.k.toNat :: UInt8.ofNat x.m.toNat :: UInt8.ofNat x.i.toNat :: (be4 x.long.toNat ++ (x.id.data.toList ++ x.data.data.toList))
def fullL (x : SX) : List UInt8 := txL x ++ le4 (crcV (txL x))
theorem bsize (s : ByteArray) : s.data.toList.length = s.size := by rw [Array.length_toList]; rfl
theorem txL_length (x : SX) : (txL x).length = 11 + x.id.size + x.data.size := by
  simp only [txL, be4, List.length_cons, List.length_append, List.length_nil, bsize]
  omega
theorem fullL_length (x : SX) : (fullL x).length = 15 + x.id.size + x.data.size := by
  rw [fullL, List.length_append, txL_length]
  simp only [le4, List.length_cons, List.length_nil]
  omega
def decX (l : List UInt8) : SX :=
  ⟨(l.getD 4 0).toNat, (l.getD 5 0).toNat, (l.getD 6 0).toNat, nb4 (l.getD 7 0) (l.getD 8 0) (l.getD 9 0) (l.getD 10 0), ⟨((l.drop 11).take 32).toArray⟩, ⟨((l.drop 43).take (l.length - 47)).toArray⟩⟩
def decOK (l : List UInt8) : Prop := 47 ≤ l.length ∧ okS (decX l) ∧ fullL (decX l) = l
theorem ofNat_toNat {z : Int} (h0 : 0 ≤ z) (h1 : z ≤ 255) : (((UInt8.ofNat z.toNat).toNat : Nat) : Int) = z := by
  rw [UInt8.toNat_ofNat']
  omega
theorem bytes_back (s : ByteArray) : (⟨s.data.toList.toArray⟩ : ByteArray) = s := by simp
theorem dec_full {x : SX} (h : okS x) : decX (fullL x) = x := by
  obtain ⟨⟨k1, m0, km⟩, ⟨i0, i1⟩, ⟨l0, l1⟩, hid, hd⟩ := h
  have hlen := fullL_length x
  have e11 : (fullL x).drop 11 = (x.id.data.toList ++ x.data.data.toList) ++ le4 (crcV (txL x)) := rfl
  have e43 : (fullL x).drop 43 = x.data.data.toList ++ le4 (crcV (txL x)) := by
    rw [show (43 : Nat) = 11 + 32 from rfl, ← List.drop_drop, e11, List.append_assoc, List.drop_left' (by rw [bsize, hid])]
  have ek : ((((fullL x).getD 4 0).toNat : Nat) : Int) = x.k := ofNat_toNat (by omega) (by omega)
  have em : ((((fullL x).getD 5 0).toNat : Nat) : Int) = x.m := ofNat_toNat m0 (by omega)
  have ei : ((((fullL x).getD 6 0).toNat : Nat) : Int) = x.i := ofNat_toNat i0 (by omega)
  have el : ((nb4 ((fullL x).getD 7 0) ((fullL x).getD 8 0) ((fullL x).getD 9 0) ((fullL x).getD 10 0) : Nat) : Int) = x.long := by
    have := nb4_be4 x.long.toNat (by omega)
    show ((nb4 (UInt8.ofNat (x.long.toNat / 16777216)) (UInt8.ofNat (x.long.toNat / 65536)) (UInt8.ofNat (x.long.toNat / 256)) (UInt8.ofNat x.long.toNat) : Nat) : Int) = _
    rw [this]
    omega
  have e1 : (⟨(((fullL x).drop 11).take 32).toArray⟩ : ByteArray) = x.id := by
    rw [e11, List.append_assoc, List.take_left' (by rw [bsize, hid]), bytes_back]
  have e2 : (⟨(((fullL x).drop 43).take ((fullL x).length - 47)).toArray⟩ : ByteArray) = x.data := by
    rw [e43, List.take_left' (by rw [bsize]; omega), bytes_back]
  rw [decX, ek, em, ei, el, e1, e2]
theorem full_ok {x : SX} (h : okS x) : decOK (fullL x) := by
  refine ⟨?_, ?_, ?_⟩
  · rw [fullL_length, h.2.2.2.1]; omega
  · rw [dec_full h]; exact h
  · rw [dec_full h]
end Go.Proofs.YtagijldedngcoaaGreatDoor.Zq

