/-
  Plain mathematics: of any k unlike shards come the pieces.
-/
import Derived.Test.YtfjkdmiaagalhaaGreatPieces
namespace Go.Proofs.YtfjkdmiaagalhaaGreat
open Go.RowKit Go.Lib

/-- Byte p of a text, as an element. -/
def bk (x : ByteArray) (p : Nat) : K := ⟨(x.data.toList.getD p 0).toNat, (x.data.toList.getD p 0).toNat_lt⟩
theorem listSize (s : ByteArray) : s.data.toList.length = s.size := by rw [Array.length_toList]; rfl
theorem bk_ext {x y : ByteArray} (hs : x.size = y.size) (h : ∀ p, p < x.size → bk x p = bk y p) : x = y := by
  have : x.data.toList = y.data.toList := by
    apply List.ext_getElem?
    intro p
    by_cases hp : p < x.size
    · have hx : p < x.data.toList.length := by rw [listSize]; exact hp
      have hy : p < y.data.toList.length := by rw [listSize, ← hs]; exact hp
      have := congrArg K.v (h p hp)
      simp only [bk, List.getD_eq_getElem?_getD, List.getElem?_eq_getElem hx, List.getElem?_eq_getElem hy, Option.getD_some] at this
      rw [List.getElem?_eq_getElem hx, List.getElem?_eq_getElem hy, UInt8.toNat_inj.1 this]
    · rw [List.getElem?_eq_none (by rw [listSize]; omega), List.getElem?_eq_none (by rw [listSize]; omega)]
  have h2 := Array.toList_inj.1 this
  cases x; cases y
  simp at h2
  rw [h2]
theorem mixAt_bk {n N : Nat} {X : Nat → ByteArray} (hX : ∀ i, i < n → (X i).size = N) (C : Nat → K) {p : Nat} (hp : p < N) :
    ∀ j, j ≤ n → ∃ y : UInt8, (Fd.mixAt N X (fun t => (C t).v) j)[p]? = some y ∧ y.toNat = (S j (fun t => bk (X t) p * C t)).v
  | 0, _ => ⟨0, by rw [Fd.mixAt, List.getElem?_replicate, if_pos hp], rfl⟩
  | j + 1, hj => by
    obtain ⟨y, h1, h2⟩ := mixAt_bk hX C hp j (by omega)
    have hx : p < (X j).data.toList.length := by rw [listSize, hX j (by omega)]; exact hp
    have h3 : (X j).data.toList[p]? = some (X j).data.toList[p] := List.getElem?_eq_getElem hx
    refine ⟨_, Fd.xorL_get2 h1 (Fd.byL_get2 _ h3), ?_⟩
    rw [UInt8.toNat_xor, Fd.mulB_toNat, h2, S, K.add_v, K.mul_v]
    simp only [bk, List.getD_eq_getElem?_getD, h3, Option.getD_some]
theorem mix_bk {n N : Nat} (h0 : 0 < n) {X : Nat → ByteArray} (hX : ∀ i, i < n → (X i).size = N) (C : Nat → K) {p : Nat} (hp : p < N) :
    bk (Fd.mixS n n X (fun t => (((C t).v : Nat) : Int))) p = S n (fun t => bk (X t) p * C t) := by
  obtain ⟨y, h1, h2⟩ := mixAt_bk hX C hp n (Nat.le_refl _)
  apply K.ext
  rw [← h2, (mixS_eq h0 hX C).2]
  show ((Fd.strOf (Fd.mixAt N X (fun t => (C t).v) n)).data.toList.getD p 0).toNat = y.toNat
  rw [Fd.strOf_toList, List.getD_eq_getElem?_getD, h1]
  rfl
section
variable {k m : Nat} {ρ : Nat → Nat} {X : Nat → ByteArray} {N : Nat}
theorem bkd_size (k1 : 1 ≤ k) (hX : ∀ t, t < k → (X t).size = N) (i : Nat) : (bkd k ρ X i).size = N := mixS_size k1 hX (fun t => flat k (invQ k (pkd k ρ)) (i * k + t))
theorem bkd_bk (k1 : 1 ≤ k) (hX : ∀ t, t < k → (X t).size = N) (i : Nat) {p : Nat} (hp : p < N) : bk (bkd k ρ X i) p = S k (fun t => bk (X t) p * invQ k (pkd k ρ) i t) := by
  rw [bkd, mix_bk k1 hX (fun t => flat k (invQ k (pkd k ρ)) (i * k + t)) hp]
  exact S_congr fun t ht => by rw [flat, div_at ht, mod_at ht]
theorem pkd_at (t : Nat) {j : Nat} (hj : j < k) : mt k (pkd k ρ) t j = cauM k (ρ t) j := by
  rw [pkd, mt_flat _ _ hj, mt_flat _ _ hj]
theorem pkd_full (km : k + m ≤ 255) (hρ : ∀ t, t < k → ρ t < k + m) (hi : ∀ s t, s < k → t < k → ρ s = ρ t → s = t) : (redu k (wideM k (pkd k ρ)) k).2 = k := picked_full k m km ρ hρ hi _ (fun _ _ => rfl)
/-- A piece that lies there is what would be brought back. -/
theorem there_eq (k1 : 1 ≤ k) (km : k + m ≤ 255) (hρ : ∀ t, t < k → ρ t < k + m) (hi : ∀ s t, s < k → t < k → ρ s = ρ t → s = t) (hX : ∀ t, t < k → (X t).size = N) {t : Nat} (ht : t < k) (hr : ρ t < k) :
    X t = bkd k ρ X (ρ t) := by
  have hq := invQ_ok k (pkd k ρ) (pkd_full km hρ hi)
  have hrow : ∀ s, s < k → invQ k (pkd k ρ) (ρ t) s = dl t s := fun s hs => by
    rw [← (hq t ht s hs).2, mm]
    rw [S_congr (g := fun j => dl (ρ t) j * invQ k (pkd k ρ) j s) (fun j hj => by rw [pkd_at t hj, cauM, if_pos hr])]
    exact (S_dl_l (fun j => invQ k (pkd k ρ) j s) hr).symm
  refine bk_ext (by rw [hX t ht, bkd_size k1 hX]) (fun p hp => ?_)
  rw [hX t ht] at hp
  rw [bkd_bk k1 hX _ hp, S_congr (g := fun s => bk (X s) p * dl s t) (fun s hs => by rw [hrow s hs, dl_comm])]
  exact (S_dl_r (fun s => bk (X s) p) ht).symm
theorem rcv_eq (k1 : 1 ≤ k) (km : k + m ≤ 255) (hρ : ∀ t, t < k → ρ t < k + m) (hi : ∀ s t, s < k → t < k → ρ s = ρ t → s = t) (hX : ∀ t, t < k → (X t).size = N) {f : Int → Option Nat}
    (hf : ∀ x t, f x = some t → t < k ∧ ((ρ t : Nat) : Int) = x) {i : Nat} (hik : i < k) : rcv k f ρ X i = bkd k ρ X i := by
  rw [rcv]
  cases h : f (i : Int) with
  | none => rfl
  | some t =>
    obtain ⟨h1, h2⟩ := hf _ _ h
    have e : ρ t = i := by omega
    have := there_eq k1 km hρ hi hX h1 (by rw [e]; exact hik)
    rw [e] at this
    exact this
/-- Shards as mixtures, all of them. -/
theorem shd_bk (k1 : 1 ≤ k) (s : ByteArray) (r : Nat) {p : Nat} (hp : p < eachN k s.size) : bk (shd k s r) p = S k (fun j => bk (pc k s j) p * cauM k r j) := by
  rw [shd]
  by_cases h : r < k
  · rw [if_pos h, S_congr (g := fun j => bk (pc k s j) p * dl j r) (fun j hj => by rw [cauM, if_pos h, dl_comm])]
    exact (S_dl_r (fun j => bk (pc k s j) p) h).symm
  · rw [if_neg h, mix_bk k1 (fun j hj => pc_size s hj) (fun t => flat k (cauM k) (r * k + t)) hp]
    exact S_congr fun t ht => by rw [flat, div_at ht, mod_at ht]
/-- Of any k unlike shards come the pieces. -/
theorem bkd_shd (k1 : 1 ≤ k) (km : k + m ≤ 255) (hρ : ∀ t, t < k → ρ t < k + m) (hi : ∀ s t, s < k → t < k → ρ s = ρ t → s = t) (s : ByteArray) (hX : ∀ t, t < k → X t = shd k s (ρ t)) {i : Nat} (hik : i < k) :
    bkd k ρ X i = pc k s i := by
  have hq := invQ_ok k (pkd k ρ) (pkd_full km hρ hi)
  have hsz : ∀ t, t < k → (X t).size = eachN k s.size := fun t ht => by rw [hX t ht, shd_size k1]
  refine bk_ext (by rw [bkd_size k1 hsz, pc_size s hik]) (fun p hp => ?_)
  rw [bkd_size k1 hsz] at hp
  rw [bkd_bk k1 hsz _ hp]
  rw [S_congr (g := fun t => S k (fun j => bk (pc k s j) p * (invQ k (pkd k ρ) i t * mt k (pkd k ρ) t j))) (fun t ht => by
    rw [hX t ht, shd_bk k1 s _ hp, mul_S]
    exact S_congr fun j hj => by rw [pkd_at t hj, K.mul_assoc, K.mul_comm (cauM k (ρ t) j)]), S_swap]
  rw [S_congr (g := fun j => bk (pc k s j) p * dl j i) (fun j hj => by rw [← S_mul, dl_comm, ← (hq i hik j hj).1]; rfl)]
  exact S_dl_r (fun j => bk (pc k s j) p) hik
end
/-- All pieces, one behind the other. -/
def cat (k : Nat) (Y : Nat → ByteArray) : List UInt8 := ((List.range k).map fun i => (Y i).data.toList).flatten
theorem cat_succ (k : Nat) (Y : Nat → ByteArray) : cat (k + 1) Y = cat k Y ++ (Y k).data.toList := by simp [cat, List.range_succ]
theorem cat_length {k N : Nat} {Y : Nat → ByteArray} (h : ∀ i, i < k → (Y i).size = N) : (cat k Y).length = k * N := by
  induction k with
  | zero => simp [cat]
  | succ k ih => rw [cat_succ, List.length_append, ih (fun i hi => h i (by omega)), listSize, h k (by omega), Nat.add_mul, Nat.one_mul]
theorem cat_congr {k : Nat} {Y Y' : Nat → ByteArray} (h : ∀ i, i < k → Y i = Y' i) : cat k Y = cat k Y' := by
  rw [cat, cat]
  congr 1
  exact List.map_congr_left fun i hi => by rw [h i (List.mem_range.1 hi)]
theorem cat_pc (k : Nat) (s : ByteArray) : ∀ j, j ≤ k → cat j (pc k s) = (padB k s).data.toList.take (j * eachN k s.size)
  | 0, _ => by simp [cat]
  | j + 1, hj => by
    rw [cat_succ, cat_pc k s j (by omega), pc, ByteArray.data_extract, Array.toList_extract, List.extract_eq_take_drop, Nat.add_mul, Nat.one_mul, Nat.add_sub_cancel_left, List.take_add]
theorem cat_back {k : Nat} (k1 : 1 ≤ k) (s : ByteArray) : (⟨(cat k (pc k s)).toArray⟩ : ByteArray).extract 0 s.size = s := by
  have h1 : (padB k s).data.toList = s.data.toList ++ List.replicate (k * eachN k s.size - s.size) 0 := by
    rw [padB, ByteArray.data_append, Array.toList_append]
    simp [zsB]
  have h2 : s.size ≤ k * eachN k s.size := eachN_ge k1
  have : ((⟨(cat k (pc k s)).toArray⟩ : ByteArray).extract 0 s.size).data.toList = s.data.toList := by
    rw [ByteArray.data_extract, Array.toList_extract, List.extract_eq_take_drop, List.drop_zero, Nat.sub_zero]
    show (cat k (pc k s)).take s.size = _
    rw [cat_pc k s k (Nat.le_refl _), List.take_take, Nat.min_eq_left h2, h1, List.take_append_of_le_length (by rw [listSize]; exact Nat.le_refl _), ← listSize, List.take_length]
  have h3 := Array.toList_inj.1 this
  revert h3
  generalize (⟨(cat k (pc k s)).toArray⟩ : ByteArray).extract 0 s.size = y
  intro h3
  cases y; cases s
  simp at h3
  rw [h3]
end Go.Proofs.YtfjkdmiaagalhaaGreat

namespace Go.Proofs.YtfjkdmiaagalhaaGreat
open Go.RowKit Go.Lib Go.Maps

theorem join_flat (xs : List (List UInt8)) : Lib.join xs [] = xs.flatten := by
  cases xs with
  | nil => rfl
  | cons x r =>
    rw [Lib.join_cons, Lib.joinTail]
    simp
/-- The numbers and the texts of the parts that are taken. -/
def rhoL (I : Nat → Int) (L : List Nat) (t : Nat) : Nat := (I (L.getD t 0)).toNat
def txL (X : Nat → ByteArray) (L : List Nat) (t : Nat) : ByteArray := X (L.getD t 0)
theorem getD_mem {L : List Nat} {t : Nat} (h : t < L.length) : L.getD t 0 ∈ L := by
  rw [List.getD_eq_getElem?_getD, List.getElem?_eq_getElem h]
  exact List.getElem_mem h
theorem Tells.inj {f : Int → Option Nat} {I : Nat → Int} {L : List Nat} (h : Tells f I L) {s t : Nat} (hs : s < L.length) (ht : t < L.length) (e : I (L.getD s 0) = I (L.getD t 0)) : s = t := by
  have h1 := (h (I (L.getD t 0)) s).2 ⟨hs, e⟩
  have h2 := (h (I (L.getD t 0)) t).2 ⟨ht, rfl⟩
  rw [h1] at h2
  cases h2
  rfl
/-- What join answers of k parts. -/
def joinB (k : Nat) (I : Nat → Int) (X : Nat → ByteArray) (n long : Nat) : ByteArray := (⟨(cat k (bkd k (rhoL I (fu k I n)) (txL X (fu k I n)))).toArray⟩ : ByteArray).extract 0 long

set_option maxRecDepth 100000 in
set_option maxHeartbeats 1600000 in
theorem ljoin_any {w : World} {b sb f1 f2 g k m : Nat} (h : PP w b sb f1 f2 g k m) (k1 : 1 ≤ k) (km : k + m ≤ 255) {vp : Value} {n : Nat} {I : Nat → Int} {X : Nat → ByteArray} (hn : n ≤ maxLen) (hP : PX w vp n I X)
    {long : Nat} (hl : long ≤ 65536) (hI : ∀ i, i < n → 0 ≤ I i ∧ I i < ((k + m : Nat) : Int)) (hX : ∀ i, i < n → (X i).size = eachN k long) :
    Calls Tryz.prog 18 #[.pointer (some ⟨b, 0, none⟩), vp, .int .i64 long] w fun e w' =>
      (((fu k I n).length < k ∧ e = .returned (.tuple #[.string ⟨#[]⟩, .int .i64 50])) ∨ ((fu k I n).length = k ∧ e = .returned (.tuple #[.string (joinB k I X n long), .int .i64 0]))) ∧ PP w' b sb f1 f2 g k m ∧ Gs (fun i => i = f1 ∨ i = f2) w w' := by
  have HP := hide h
  have HX := hide hP
  have HR := hide (And.intro hI hX)
  have HK := hide (And.intro k1 (And.intro km (And.intro hn hl)))
  clear h hP hI hX hn
  go_enter Tryz.func18, Tryz.ntmps18
  go_wp2_with fail
  refine (first_any HP.out.pl.cell0 HP.out.pl.lt (by omega) HK.out.2.2.1 HX.out (fun i hi => ⟨(HR.out.1 i hi).1, by have := (HR.out.1 i hi).2; omega⟩)).mono ?_
  rintro e w1 ⟨v1, q1, rfl, hFW⟩
  have HF := hide hFW
  have HP1 := hide (HP.out.below hFW.be)
  have c0 := HP1.out.pl.cell0
  obtain ⟨a1, cp1, rfl⟩ := hFW.ip.shp
  have hle := fu_le k I n
  obtain ⟨l, hl'⟩ : ∃ l, l = (fu k I n).length := ⟨_, rfl⟩
  rw [← hl'] at hle ⊢
  have HL := hide hl'
  clear hFW hl'
  by_cases hlt : l < k
  · have b1 : (l : Int) < (k : Int) := by omega
    have HE : Hid (PP w1 b sb f1 f2 g k m ∧ Gs (fun i => i = f1 ∨ i = f2) w w1) := ⟨HP1.out, Gs.of_below _ HF.out.be⟩
    clear HF HP1
    go_wp2
    exact bodyPost_ret (v := .tuple #[.string ⟨#[]⟩, .int .i64 50]) (by simp [results, Tryz.results18, go_sem]) rfl ⟨.inl ⟨by rw [← HL.out]; exact hlt, rfl⟩, HE.out⟩
  · obtain rfl : l = k := by omega
    have b1 : ¬ ((l : Int) < (l : Int)) := by omega
    obtain ⟨f, hM, hT⟩ := HF.out.mp
    have hmem : ∀ t, t < l → (fu l I n).getD t 0 < n := fun t ht => fu_lt (getD_mem (by rw [← HL.out]; exact ht))
    have HRr : Hid ((∀ t, t < l → rhoL I (fu l I n) t < l + m) ∧ (∀ s t, s < l → t < l → rhoL I (fu l I n) s = rhoL I (fu l I n) t → s = t) ∧ (∀ t, t < l → (txL X (fu l I n) t).size = eachN l long) ∧ (∀ x t, f x = some t → t < l ∧ ((rhoL I (fu l I n) t : Nat) : Int) = x) ∧ (∀ t, t < l → ((rhoL I (fu l I n) t : Nat) : Int) = I ((fu l I n).getD t 0))) := by
      have hr : ∀ t, t < l → ((rhoL I (fu l I n) t : Nat) : Int) = I ((fu l I n).getD t 0) := fun t ht => by
        rw [rhoL]
        have := (HR.out.1 _ (hmem t ht)).1
        omega
      refine ⟨fun t ht => ?_, fun s t hs ht e => ?_, fun t ht => HR.out.2 _ (hmem t ht), fun x t hx => ?_, hr⟩
      · have := (HR.out.1 _ (hmem t ht)).2
        have := hr t ht
        omega
      · refine hT.inj (by rw [← HL.out]; exact hs) (by rw [← HL.out]; exact ht) ?_
        rw [← hr s hs, ← hr t ht, e]
      · obtain ⟨h1, h2⟩ := (hT x t).1 hx
        rw [← HL.out] at h1
        exact ⟨h1, by rw [hr t h1]; exact h2⟩
    have HPX : Hid (PX w1 (.slice a1 l cp1) l (fun t => ((rhoL I (fu l I n) t : Nat) : Int)) (txL X (fu l I n))) := by
      have := HF.out.ip.px
      rw [← HL.out] at this
      exact this.congr (fun t ht => ⟨(HRr.out.2.2.2.2 t ht).symm, rfl⟩)
    have HMM := hide hM
    have he : eachN l long ≤ long := eachN_le HK.out.1
    clear hmem hM hT
    go_wp2_with fail
    refine (pieces_any HP1.out HK.out.1 HK.out.2.1 HPX.out HRr.out.1 HRr.out.2.1 (fun t ht => by rw [HRr.out.2.2.1 t ht]; omega) HMM.out (fun x t hx => (HRr.out.2.2.2.1 x t hx).1)).mono ?_
    rintro e w2 ⟨q, rfl, hS, hq, hP2, hg2⟩
    have hS2 := hS.congr (X' := bkd l (rhoL I (fu l I n)) (txL X (fu l I n))) (fun i hi => rcv_eq HK.out.1 HK.out.2.1 HRr.out.1 HRr.out.2.1 HRr.out.2.2.1 HRr.out.2.2.2.1 hi)
    have hsz : ∀ i, i < l → (bkd l (rhoL I (fu l I n)) (txL X (fu l I n)) i).size = eachN l long := fun i _ => bkd_size HK.out.1 HRr.out.2.2.1 i
    have HG2 : Hid (Gs (fun i => i = f1 ∨ i = f2) w w2) := (Gs.of_below _ HF.out.be).trans hg2
    have HP2 := hide hP2
    have hjb : joinB l I X n long = (⟨(cat l (bkd l (rhoL I (fu l I n)) (txL X (fu l I n)))).toArray⟩ : ByteArray).extract 0 long := rfl
    generalize hY : bkd l (rhoL I (fu l I n)) (txL X (fu l I n)) = Y at hS2 hsz hjb
    have hlen := cat_length hsz
    have hge : long ≤ l * eachN l long := eachN_ge HK.out.1
    have hmap : (((List.range l).map Y).map (fun x : ByteArray => x.data.toList)) = (List.range l).map (fun i => (Y i).data.toList) := by rw [List.map_map]; rfl
    have hJ := Tryz.strings_Join q 0 l ((List.range l).map Y) ⟨#[]⟩ w2 (fun j x hj => by
      rw [List.getElem?_map] at hj
      by_cases hjl : j < l
      · rw [List.getElem?_range hjl] at hj
        cases hj
        rw [Nat.zero_add]
        exact hS2.cell j hjl
      · rw [List.getElem?_eq_none (by rw [List.length_range]; omega)] at hj
        cases hj) hS2.lt (by rw [List.length_map, List.length_range]; omega) (by rw [List.length_map, List.length_range]; exact Nat.le_refl _) (by
      rw [hmap]
      show (Lib.join _ []).length ≤ _
      rw [join_flat]
      show (cat l Y).length ≤ _
      rw [hlen]
      have : l * eachN l long ≤ 255 * 65536 := Nat.mul_le_mul (by omega) (by omega)
      omega)
    rw [hmap, List.length_map, List.length_range] at hJ
    rw [show Lib.join ((List.range l).map fun i => (Y i).data.toList) (⟨#[]⟩ : ByteArray).data.toList = cat l Y from join_flat _] at hJ
    have HJ := hide hJ
    obtain ⟨Z, hZ⟩ : ∃ Z : ByteArray, Z = ⟨(cat l Y).toArray⟩ := ⟨_, rfl⟩
    have hZs : long ≤ Z.size := by
      rw [hZ, ← listSize]
      show long ≤ (cat l Y).toArray.toList.length
      rw [List.toList_toArray, hlen]
      exact hge
    rw [← hZ] at HJ hjb
    have HJB := hide hjb
    clear hS hq hP2 hg2 hS2 hsz hjb hlen hge hmap hJ hZ HF HP1 HPX HMM HRr hY he c0
    go_wp2_with fail
    refine HJ.out.mono ?_
    rintro e w3 ⟨rfl, hb3⟩
    have HE : Hid (PP w3 b sb f1 f2 g l m ∧ Gs (fun i => i = f1 ∨ i = f2) w w3) := ⟨HP2.out.below hb3, HG2.out.bel hb3⟩
    have b2 : ¬ ((Z.size : Int) < (long : Int)) := by omega
    have b3 : (long : Int) ≤ (Z.size : Int) := by omega
    have b4 : (0 : Int) ≤ (long : Int) := by omega
    clear hb3 HP2 HG2 HJ
    go_wp2
    exact bodyPost_ret (v := .tuple #[.string (Z.extract 0 long), .int .i64 0]) (by simp [results, Tryz.results18, go_sem]) rfl ⟨.inr ⟨HL.out.symm, by rw [HJB.out]⟩, HE.out⟩
end Go.Proofs.YtfjkdmiaagalhaaGreat

namespace Go.Proofs.YtfjkdmiaagalhaaGreat
open Go.RowKit Go.Lib Go.Maps

set_option maxRecDepth 100000 in
theorem isNumber_any {w : World} {b sb f1 f2 g k m : Nat} (h : PP w b sb f1 f2 g k m) (km : k + m ≤ 255) (x : Int) :
    Calls Tryz.prog 24 #[.pointer (some ⟨b, 0, none⟩), .int .i64 x] w fun e w' => e = .returned (.bool (decide (0 ≤ x ∧ x < ((k + m : Nat) : Int)))) ∧ Below w.heap.size w w' := by
  have c0 := h.pl.cell0
  have c1 := h.pl.cell1
  obtain ⟨n, hn⟩ : ∃ n, n = k + m := ⟨_, rfl⟩
  have hni : (k : Int) + (m : Int) = (n : Int) := by omega
  have hwr : IntKind.i64.wrap ((k : Int) + (m : Int)) = (n : Int) := by rw [hni]; exact wraps_i64 _ (by omega) (by omega)
  rw [← hn] at km ⊢
  clear h hn hni
  by_cases h0 : 0 ≤ x
  · by_cases h1 : x < (n : Int)
    · rw [decide_eq_true (And.intro h0 h1)]
      have d1 : decide (0 ≤ x) = true := decide_eq_true h0
      have d2 : decide (x < (n : Int)) = true := decide_eq_true h1
      go_enter Tryz.func24, Tryz.ntmps24
      go_wp2
      go_quiet (fail)
      go_wp2
      go_ret
      exact ⟨rfl, below_drew (Below.refl _ _) _⟩
    · rw [decide_eq_false (fun h => h1 h.2)]
      have d1 : decide (0 ≤ x) = true := decide_eq_true h0
      have d2 : decide (x < (n : Int)) = false := decide_eq_false h1
      go_enter Tryz.func24, Tryz.ntmps24
      go_wp2
      go_quiet (fail)
      go_wp2
      go_ret
      exact ⟨rfl, below_drew (Below.refl _ _) _⟩
  · rw [decide_eq_false (fun h => h0 h.1)]
    have d1 : decide (0 ≤ x) = false := decide_eq_false h0
    go_enter Tryz.func24, Tryz.ntmps24
    go_wp2
    go_quiet (fail)
    go_wp2
    go_ret
    exact ⟨rfl, below_drew (Below.refl _ _) _⟩
end Go.Proofs.YtfjkdmiaagalhaaGreat

namespace Go.Proofs.YtfjkdmiaagalhaaGreat
open Go.RowKit Go.Lib Go.Maps

def bad1 (km ea : Nat) (x : Int) (s : ByteArray) : Int := if 0 ≤ x ∧ x < (km : Int) then (if s.size = ea then 0 else 4) else 1
def flt (km ea : Nat) (I : Nat → Int) (X : Nat → ByteArray) : Nat → Int
  | 0 => 0
  | n + 1 => if flt km ea I X n = 0 then bad1 km ea (I n) (X n) else flt km ea I X n
theorem flt_stays {km ea : Nat} {I : Nat → Int} {X : Nat → ByteArray} {j : Nat} (h : flt km ea I X j ≠ 0) : ∀ d, flt km ea I X (j + d) = flt km ea I X j
  | 0 => rfl
  | d + 1 => by
    have hd := flt_stays h d
    show (if flt km ea I X (j + d) = 0 then _ else flt km ea I X (j + d)) = _
    rw [hd, if_neg h]
theorem flt_at {km ea : Nat} {I : Nat → Int} {X : Nat → ByteArray} {j n : Nat} (hj : j < n) (h0 : flt km ea I X j = 0) (h : bad1 km ea (I j) (X j) ≠ 0) : flt km ea I X n = bad1 km ea (I j) (X j) := by
  have e1 : flt km ea I X (j + 1) = bad1 km ea (I j) (X j) := by show (if flt km ea I X j = 0 then _ else _) = _; rw [if_pos h0]
  have := flt_stays (km := km) (ea := ea) (I := I) (X := X) (j := j + 1) (by rw [e1]; exact h) (n - (j + 1))
  rw [show j + 1 + (n - (j + 1)) = n by omega, e1] at this
  exact this
theorem flt_next {km ea : Nat} {I : Nat → Int} {X : Nat → ByteArray} {j : Nat} (h0 : flt km ea I X j = 0) (h : bad1 km ea (I j) (X j) = 0) : flt km ea I X (j + 1) = 0 := by
  show (if flt km ea I X j = 0 then _ else _) = _; rw [if_pos h0]; exact h
theorem flt_ok {km ea : Nat} {I : Nat → Int} {X : Nat → ByteArray} : ∀ {n : Nat}, (∀ i, i < n → 0 ≤ I i ∧ I i < (km : Int)) → (∀ i, i < n → (X i).size = ea) → flt km ea I X n = 0
  | 0, _, _ => rfl
  | n + 1, hI, hX => flt_next (flt_ok (fun i hi => hI i (by omega)) (fun i hi => hX i (by omega))) (by rw [bad1, if_pos (hI n (by omega)), if_pos (hX n (by omega))])
theorem flt_zero {km ea : Nat} {I : Nat → Int} {X : Nat → ByteArray} : ∀ {n : Nat}, flt km ea I X n = 0 → ∀ i, i < n → (0 ≤ I i ∧ I i < (km : Int)) ∧ (X i).size = ea
  | 0, _, i, hi => by omega
  | n + 1, h, i, hi => by
    by_cases h0 : flt km ea I X n = 0
    · have hb : bad1 km ea (I n) (X n) = 0 := by
        have : flt km ea I X (n + 1) = bad1 km ea (I n) (X n) := by show (if flt km ea I X n = 0 then _ else _) = _; rw [if_pos h0]
        rw [← this]; exact h
      by_cases e : i = n
      · subst e
        rw [bad1] at hb
        split at hb
        · split at hb
          · exact ⟨by assumption, by assumption⟩
          · omega
        · omega
      · exact flt_zero h0 i (by omega)
    · exact absurd ((flt_stays h0 1).symm.trans h) h0
def faultV (k m : Nat) (long : Int) (I : Nat → Int) (X : Nat → ByteArray) (n : Nat) : Int := if long < 0 ∨ 65536 < long then 1 else flt (k + m) (eachN k long.toNat) I X n
set_option maxRecDepth 100000 in
set_option maxHeartbeats 1600000 in
theorem fault_any {w : World} {b sb f1 f2 g k m : Nat} (h : PP w b sb f1 f2 g k m) (k1 : 1 ≤ k) (km : k + m ≤ 255) {vp : Value} {n : Nat} {I : Nat → Int} {X : Nat → ByteArray} (hn : n ≤ maxLen) (hP : PX w vp n I X)
    (hXs : ∀ i, i < n → (X i).size ≤ 9223372036854775807) (long : Int) :
    Calls Tryz.prog 17 #[.pointer (some ⟨b, 0, none⟩), vp, .int .i64 long] w fun e w' => e = .returned (.int .i64 (faultV k m long I X n)) ∧ Below w.heap.size w w' := by
  obtain ⟨a, c, rfl, hP⟩ := hP
  have hn' : n ≤ 9223372036854775807 := hn
  have HP := hide h
  have HX := hide hP
  have HK := hide (And.intro k1 km)
  obtain ⟨fv, hfv⟩ : ∃ fv, fv = faultV k m long I X n := ⟨_, rfl⟩
  rw [← hfv]
  have hE : Hid (Calls Tryz.prog 34 #[.pointer (some ⟨b, 0, none⟩), .int .i64 long] w fun e w' => e = .returned (.tuple #[.int .i64 (eachR k long).1, .int .i64 (eachR k long).2]) ∧ Below w.heap.size w w') := each_any h k1 (by omega) long
  have HS := hide hXs
  clear h hP hn hXs
  go_enter Tryz.func17, Tryz.ntmps17
  go_wp2_with fail
  refine hE.out.mono ?_
  rintro e w1 ⟨rfl, hb1⟩
  have HB1 := hide hb1
  clear hb1 hE
  by_cases hlong : long < 0 ∨ 65536 < long
  · rw [faultV, if_pos hlong] at hfv
    subst hfv
    rw [eachR, if_pos hlong]
    go_wp2
    go_ret
    exact ⟨rfl, HB1.out⟩
  rw [faultV, if_neg hlong] at hfv
  rw [eachR, if_neg hlong]
  obtain ⟨ea, hea⟩ : ∃ ea, ea = eachN k long.toNat := ⟨_, rfl⟩
  have hle : ea ≤ 65536 := by rw [hea]; have := eachN_le (k := k) (n := long.toNat) k1; omega
  rw [← hea] at hfv ⊢
  have HFV := hide hfv
  clear hea hlong hfv
  go_wp2
  go_loopw [22] (fun z wr => ∃ j : Nat, j ≤ n ∧ z = .int .i64 j ∧ flt (k + m) ea I X j = 0 ∧ Below w.heap.size w wr) (fun z _ => n - (RowKit.intOf z).toNat)
  case atStart => exact ⟨0, Nat.zero_le _, rfl, rfl, HB1.out⟩
  case round =>
    obtain ⟨j, hj, rfl, hf, hB⟩ := hrel
    clear HB1
    have HB := hide hB
    have HF := hide hf
    clear hf
    by_cases hlt : j < n
    · obtain ⟨bl, off, rfl, hbl, hcell⟩ := HX.out.resolve_left (by omega)
      have p1 := (hB.cell (p := ⟨bl, off + j * 2, none⟩) hbl).trans (hcell j hlt).1
      have p2 := (hB.cell (p := ⟨bl, off + j * 2 + 1, none⟩) hbl).trans (hcell j hlt).2
      have b1 : (j : Int) < (n : Int) := by omega
      have b0 : (0 : Int) ≤ (j : Int) := by omega
      clear hB hcell
      go_upto_region 7 with fail
      obtain ⟨V, hV⟩ : ∃ V, V = wr.alloc (.cells #[.int .i64 (I j), .string (X j)] 35) := ⟨_, rfl⟩
      have hbV : Below wr.heap.size wr V := by rw [hV]; exact below_alloc (Below.refl _ _) _
      have hbk : V.heap[wr.heap.size]? = some (.cells #[.int .i64 (I j), .string (X j)] 35) := by rw [hV]; exact heap_alloc_new wr _
      have q1 : V.cell? ⟨wr.heap.size, 0, none⟩ = some (.int .i64 (I j)) := by rw [cell_of_row V _ 0 _ _ _ hbk]; rfl
      have q2 : V.cell? ⟨wr.heap.size, 1, none⟩ = some (.string (X j)) := by rw [cell_of_row V _ 1 _ _ _ hbk]; rfl
      have hsz : wr.heap.size < V.heap.size := (Array.getElem?_eq_some_iff.mp hbk).1
      have HBV := hide (below_step HB.out hbV)
      rw [← hV]
      clear hV hbV hbk HB p1 p2
      go_wp2_with fail
      refine (isNumber_any (HP.out.below HBV.out) HK.out.2 (I j)).mono ?_
      rintro e w2 ⟨rfl, hb2⟩
      have HB2 := hide (below_step HBV.out hb2)
      have q3 := (hb2.cell (p := ⟨wr.heap.size, 1, none⟩) hsz).trans q2
      clear hb2 HBV q1 q2 hsz
      by_cases hnum : 0 ≤ I j ∧ I j < ((k + m : Nat) : Int)
      · rw [decide_eq_true hnum]
        have hxs : (X j).size ≤ 9223372036854775807 := HS.out j hlt
        by_cases hs : (X j).size = ea
        · have b3 : ((X j).size : Int) = (ea : Int) := by rw [hs]
          go_wp2
          exact ⟨⟨j + 1, by omega, by go_num, flt_next HF.out (by rw [bad1, if_pos hnum, if_pos hs]), HB2.out⟩, by simp [RowKit.intOf]; omega⟩
        · have b3 : ¬ ((X j).size : Int) = (ea : Int) := by omega
          go_wp2
          go_ret
          have hv : bad1 (k + m) ea (I j) (X j) = 4 := by rw [bad1, if_pos hnum, if_neg hs]
          exact ⟨by rw [HFV.out, flt_at hlt HF.out (by rw [hv]; decide), hv]; rfl, HB2.out⟩
      · rw [decide_eq_false hnum]
        go_wp2
        go_ret
        have hv : bad1 (k + m) ea (I j) (X j) = 1 := by rw [bad1, if_neg hnum]
        exact ⟨by rw [HFV.out, flt_at hlt HF.out (by rw [hv]; decide), hv]; rfl, HB2.out⟩
    · obtain rfl : j = n := by omega
      clear hB
      go_wp2
      go_ret
      exact ⟨by rw [HFV.out, HF.out]; rfl, HB.out⟩
theorem fault_ok {w : World} {b sb f1 f2 g k m : Nat} (h : PP w b sb f1 f2 g k m) (k1 : 1 ≤ k) (km : k + m ≤ 255) {vp : Value} {n : Nat} {I : Nat → Int} {X : Nat → ByteArray} (hn : n ≤ maxLen) (hP : PX w vp n I X)
    {long : Nat} (hl : long ≤ 65536) (hI : ∀ i, i < n → 0 ≤ I i ∧ I i < ((k + m : Nat) : Int)) (hX : ∀ i, i < n → (X i).size = eachN k long) :
    Calls Tryz.prog 17 #[.pointer (some ⟨b, 0, none⟩), vp, .int .i64 long] w fun e w' => e = .returned (.int .i64 0) ∧ Below w.heap.size w w' := by
  refine (fault_any h k1 km hn hP (fun i hi => by rw [hX i hi]; have := eachN_le (k := k) (n := long) k1; omega) (long : Int)).mono ?_
  rintro e w' ⟨rfl, hb⟩
  refine ⟨?_, hb⟩
  rw [faultV, if_neg (by omega), Int.toNat_natCast, flt_ok hI hX]
end Go.Proofs.YtfjkdmiaagalhaaGreat

namespace Go.Proofs.YtfjkdmiaagalhaaGreat
open Go.RowKit Go.Lib Go.Maps

set_option maxRecDepth 100000 in
theorem join_any {w : World} {b sb f1 f2 g k m : Nat} (h : PP w b sb f1 f2 g k m) (k1 : 1 ≤ k) (km : k + m ≤ 255) {vp : Value} {n : Nat} {I : Nat → Int} {X : Nat → ByteArray} (hn : n ≤ maxLen) (hP : PX w vp n I X)
    {long : Nat} (hl : long ≤ 65536) (hI : ∀ i, i < n → 0 ≤ I i ∧ I i < ((k + m : Nat) : Int)) (hX : ∀ i, i < n → (X i).size = eachN k long) :
    Calls Tryz.prog 8 #[.pointer (some ⟨b, 0, none⟩), vp, .int .i64 long] w fun e w' =>
      (((fu k I n).length < k ∧ e = .returned (.tuple #[.string ⟨#[]⟩, .int .i64 50])) ∨ ((fu k I n).length = k ∧ e = .returned (.tuple #[.string (joinB k I X n long), .int .i64 0]))) ∧ PP w' b sb f1 f2 g k m ∧ Gs (fun i => i = f1 ∨ i = f2) w w' := by
  have HA := hide (And.intro hI hX)
  have HP := hide h
  have HX := hide hP
  clear h hP hI hX
  go_enter Tryz.func8, Tryz.ntmps8
  go_wp2_with fail
  refine (fault_ok HP.out k1 km hn HX.out hl HA.out.1 HA.out.2).mono ?_
  rintro e w1 ⟨rfl, hb1⟩
  have HB1 := hide hb1
  clear hb1
  go_wp2_with fail
  refine (ljoin_any (HP.out.below HB1.out) k1 km hn (HX.out.below HB1.out (Nat.le_refl _)) hl HA.out.1 HA.out.2).mono ?_
  rintro e w2 ⟨⟨hlt, rfl⟩ | ⟨hlt, rfl⟩, hP2, hg2⟩
  · have HE : Hid (PP w2 b sb f1 f2 g k m ∧ Gs (fun i => i = f1 ∨ i = f2) w w2) := ⟨hP2, (Gs.of_below _ HB1.out).trans hg2⟩
    clear hP2 hg2
    go_wp2
    exact bodyPost_ret (v := .tuple #[.string ⟨#[]⟩, .int .i64 50]) (by simp [results, Tryz.results8, go_sem]) rfl ⟨.inl ⟨hlt, rfl⟩, HE.out⟩
  · have HE : Hid (PP w2 b sb f1 f2 g k m ∧ Gs (fun i => i = f1 ∨ i = f2) w w2) := ⟨hP2, (Gs.of_below _ HB1.out).trans hg2⟩
    clear hP2 hg2
    go_wp2
    exact bodyPost_ret (v := .tuple #[.string (joinB k I X n long), .int .i64 0]) (by simp [results, Tryz.results8, go_sem]) rfl ⟨.inr ⟨hlt, rfl⟩, HE.out⟩

theorem joinB_size {k n long : Nat} {I : Nat → Int} {X : Nat → ByteArray} (k1 : 1 ≤ k) (hX : ∀ i, i < n → (X i).size = eachN k long) (hf : (fu k I n).length = k) : (joinB k I X n long).size = long := by
  have h1 : ∀ t, t < k → (txL X (fu k I n) t).size = eachN k long := fun t ht => hX _ (fu_lt (getD_mem (by rw [hf]; exact ht)))
  have hlen := cat_length (k := k) (fun i _ => bkd_size (ρ := rhoL I (fu k I n)) k1 h1 i)
  have hge : long ≤ k * eachN k long := eachN_ge k1
  rw [joinB, ByteArray.size_extract]
  have : (⟨(cat k (bkd k (rhoL I (fu k I n)) (txL X (fu k I n)))).toArray⟩ : ByteArray).size = k * eachN k long := by
    rw [← listSize, ← hlen]
  rw [this]
  omega

set_option maxRecDepth 100000 in
theorem shardU_ok {w : World} {b sb f1 f2 g k m : Nat} (h : PP w b sb f1 f2 g k m) (k1 : 1 ≤ k) (km : k + m ≤ 255) {vp : Value} {n : Nat} {I : Nat → Int} {X : Nat → ByteArray} (hn : n ≤ maxLen) (hP : PX w vp n I X)
    {long : Nat} (hl : long ≤ 65536) (hI : ∀ i, i < n → 0 ≤ I i ∧ I i < ((k + m : Nat) : Int)) (hX : ∀ i, i < n → (X i).size = eachN k long) (hf : (fu k I n).length = k) {i : Nat} (hi : i < k + m) :
    Calls Tryz.prog 10 #[.pointer (some ⟨b, 0, none⟩), vp, .int .i64 long, .int .i64 i] w fun e w' =>
      e = .returned (.tuple #[.string (shd k (joinB k I X n long) i), .int .i64 0]) ∧ PP w' b sb f1 f2 g k m ∧ Gs (fun i => i = f1 ∨ i = f2) w w' := by
  have HA := hide (And.intro hI hX)
  have HJ := hide (joinB_size (I := I) k1 hX hf)
  have HP := hide h
  have HX := hide hP
  clear h hP hI hX
  go_enter Tryz.func10, Tryz.ntmps10
  go_wp2_with fail
  refine (fault_ok HP.out k1 km hn HX.out hl HA.out.1 HA.out.2).mono ?_
  rintro e w1 ⟨rfl, hb1⟩
  have HB1 := hide hb1
  clear hb1
  go_wp2_with fail
  refine (isNumber_any (HP.out.below HB1.out) km (i : Int)).mono ?_
  rintro e w2 ⟨rfl, hb2⟩
  have HB2 := hide (below_step HB1.out hb2)
  rw [decide_eq_true (by omega)]
  clear hb2 HB1
  go_wp2_with fail
  refine (ljoin_any (HP.out.below HB2.out) k1 km hn (HX.out.below HB2.out (Nat.le_refl _)) hl HA.out.1 HA.out.2).mono ?_
  rintro e w3 ⟨⟨hlt, rfl⟩ | ⟨hlt, rfl⟩, hP3, hg3⟩
  · omega
  have HP3 := hide hP3
  have HG3 : Hid (Gs (fun i => i = f1 ∨ i = f2) w w3) := (Gs.of_below _ HB2.out).trans hg3
  obtain ⟨Y, hY⟩ : ∃ Y, Y = joinB k I X n long := ⟨_, rfl⟩
  rw [← hY] at HJ ⊢
  have HY := hide hY
  clear hP3 hg3 HB2 hlt hY
  go_wp2_with fail
  refine (cut_any HP3.out k1 (by omega) Y (by rw [HJ.out]; exact hl)).mono ?_
  rintro e w4 ⟨q, rfl, hS4, hq4, hb4⟩
  have HP4 := hide (HP3.out.below hb4)
  have HG4 := hide (HG3.out.bel hb4)
  have HS4 := hide hS4
  clear hS4 hq4 hb4 HP3 HG3
  go_wp2_with fail
  refine (shard_any HP4.out k1 km (by rw [HJ.out]; exact hl) HS4.out hi).mono ?_
  rintro e w5 ⟨rfl, hP5, hg5⟩
  have HE : Hid (PP w5 b sb f1 f2 g k m ∧ Gs (fun i => i = f1 ∨ i = f2) w w5) := ⟨hP5, HG4.out.gb hg5 (.inl (.inr rfl))⟩
  clear hP5 hg5
  go_wp2
  exact bodyPost_ret (v := .tuple #[.string (shd k Y i), .int .i64 0]) (by simp [results, Tryz.results10, go_sem]) rfl ⟨by rw [HY.out], HE.out⟩
end Go.Proofs.YtfjkdmiaagalhaaGreat
