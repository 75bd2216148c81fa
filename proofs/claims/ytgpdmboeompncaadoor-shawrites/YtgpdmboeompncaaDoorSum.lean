/-
  The contracts of the two calls that tell a sum.
-/
import Derived.Test.YtgpdmboeompncaaDoorEnd
namespace Go.Proofs.YtgpdmboeompncaaDoor
open Go.RowKit Go.Lib

/-- A string of bytes. -/
def strOf (l : List UInt8) : ByteArray := ⟨l.toArray⟩
theorem strOf_size (l : List UInt8) : (strOf l).size = l.length := by simp [strOf, ByteArray.size]
theorem strOf_toList (l : List UInt8) : (strOf l).data.toList = l := by simp [strOf]

theorem Tryd.info5 : (Tryd.prog.info? 5).map (fun i => (i.zero, i.size, i.bytes)) = some (some (.int .u8 0), 1, 1) := by kernel_rfl

/-- An owned row of bytes, turned into a string. -/
theorem run_string_of_own {w : World} {base : Nat} {v : Value} {l : List UInt8} (h : w.ownsRow base 5 1 v l.length (byteCells l)) :
    (convert 50 9 v).run Tryd.prog w = .ok (.string (strOf l)) w := by
  rcases h.2 with ⟨hv, hn⟩ | ⟨g, cap, cur, hv, _⟩
  · subst hv
    have hl : l = [] := List.eq_nil_of_length_eq_zero hn
    subst hl
    exact run_convert_bytes_nil w 50 5 Tryd.underlying50 Tryd.underlying5 0 0 9 Tryd.underlying9
  · subst hv
    have hc := fun j (hj : j < l.length) => h.cellAt j (by omega)
    have := run_convert_bytes_arg w 50 5 Tryd.underlying50 Tryd.underlying5 g 0 l.length cap (l.map fun b => (b.toNat : Int)) (by simp)
      (fun i hi => by
        rw [Nat.zero_add, hc i hi]
        simp [byteCells, hi]) 9 Tryd.underlying9
    rw [this]
    have e : (l.map fun b => (b.toNat : Int)).map (fun n => UInt8.ofNat n.toNat) = l := by
      rw [List.map_map]
      exact (List.map_congr_left fun a _ => by simp).trans (List.map_id l)
    simp only [strOfNums, strOf, e]

/-- The cells of a new block. -/
theorem cell_list_new (w : World) (l : List Value) (t : TypeId) (j : Nat) (u : Value) (h : l[j]? = some u) : (w.alloc (.cells l.toArray t)).cell? ((⟨w.heap.size, 0, none⟩ : Addr).add j) = some u := by
  rw [Addr.add_mid, Nat.zero_add, cell_of_row _ _ j _ t (0, 0) (heap_alloc_new w _)]
  simpa using h

/-- Some bytes more behind an owned row. -/
theorem rel_app {B : Nat} {w wr w1 : World} {v v' : Value} {pre l : List UInt8} {o : Obj} {k : Nat} {news : List Value} (hl : l.length = k) (hnews : news = byteCells l) (hown : wr.ownsRow B 5 1 v pre.length (byteCells pre)) (hb : Below B w wr) (hB : B ≤ wr.heap.size)
    (hown' : w1.ownsRow B 5 1 v' (pre.length + k) (byteCells pre ++ news)) (hgrow : (wr.alloc o).grownBy w1 v.ownBlock) :
    w1.ownsRow B 5 1 v' (pre ++ l).length (byteCells (pre ++ l)) ∧ Below B w w1 := by
  subst hl hnews
  have e : byteCells (pre ++ l) = byteCells pre ++ byteCells l := by simp [byteCells]
  rw [e, List.length_append]
  exact ⟨hown', (hb.alloc hB o).grown hgrow (by simp; omega) (fun j hj => (hown.lt j hj).1)⟩

theorem bytes4 (x : Int) (hx : 0 ≤ x) : [Value.int .u8 (x / 16777216 % 256), .int .u8 (x / 65536 % 256), .int .u8 (x / 256 % 256), .int .u8 (x % 256)] = byteCells (fixedOf x.toNat 4) := by
  obtain ⟨n, rfl⟩ := Int.eq_ofNat_of_zero_le hx
  have e : ∀ k, (((n / k % 256).toUInt8.toNat : Nat) : Int) = (n : Int) / k % 256 := fun k => by
    rw [toUInt8_toNat (Nat.mod_lt _ (by decide))]
    simp
  have e3 := e 16777216
  have e2 := e 65536
  have e1 := e 256
  have e0 := e 1
  simp only [Int.toNat_natCast, fixedOf, byteCells, List.map_cons, List.map_nil, Nat.reducePow, e3, e2, e1, e0, Nat.pow_zero]
  simp

def wordBytes (x : Int) : List UInt8 := fixedOf x.toNat 4
theorem wordBytes_length (x : Int) : (wordBytes x).length = 4 := fixedOf_length _ 4
def sumPre (v : V8) (j : Nat) : List UInt8 := (v.list.take j).flatMap wordBytes
theorem sumPre_succ (v : V8) (j : Nat) (h : j < 8) : sumPre v (j + 1) = sumPre v j ++ wordBytes (v.list.getD j 0) := by
  have hl : j < v.list.length := h
  rw [sumPre, sumPre, List.take_succ_eq_append_getElem hl, List.flatMap_append, List.getD_eq_getElem?_getD, List.getElem?_eq_getElem hl]
  simp
theorem sumPre_length (v : V8) : ∀ j, j ≤ 8 → (sumPre v j).length = 4 * j
  | 0, _ => rfl
  | j + 1, h => by rw [sumPre_succ v j (by omega), List.length_append, sumPre_length v j (by omega), wordBytes_length]; omega

theorem digestV_nonneg (s : List UInt8) (j : Nat) (h : j < 8) : 0 ≤ (digestV s).list.getD j 0 := by
  have : ∃ v bl, digestV s = takeV v bl := by
    by_cases h : s.length % 64 ≤ 55
    · exact ⟨_, _, digest_low s h⟩
    · exact ⟨_, _, digest_high s h⟩
  obtain ⟨v, bl, e⟩ := this
  rw [e, takeV, addV]
  match j, h with
  | 0, _ | 1, _ | 2, _ | 3, _ | 4, _ | 5, _ | 6, _ | 7, _ => exact Int.emod_nonneg _ (by decide)

theorem digest_eq (s : List UInt8) : sumPre (digestV s) 8 = digest s := rfl
theorem digest_length (s : List UInt8) : (digest s).length = 32 := by rw [← digest_eq, sumPre_length _ _ (by decide)]

set_option maxHeartbeats 1600000 in
set_option maxRecDepth 100000 in
theorem hsum_any {w : World} {b : Nat} {s : List UInt8} (hL : Laid w) (h : HS w b s) (hs : s.length ≤ 1000000000000) :
    Calls Tryd.prog 17 #[.pointer (some ⟨b, 0, none⟩)] w fun e w' => e = .returned (.string (strOf (digest s))) ∧ Below w.heap.size w w' := by
  obtain ⟨i0, hi, hz0, hz1, hz2⟩ := info_parts Tryd.info5
  obtain ⟨bl, hr, hbl⟩ := h
  have hsz := hL.size
  have hinfo := hCells_info (blocks s (s.length / 64)) bl s.length hr.1
  go_enter Tryd.func17, Tryd.ntmps17
  go_wp2_with (first | refine wpList_load_row rfl 60 _ rfl b rfl 60 _ (0, 0) _ hr.2 Tryd.underlying60 rfl hinfo ?_ | refine wpList_alloc_any rfl 60 rfl _ zero60 ?_)
  intro w0 hc0 hs0 hb0
  have R := HB.copy (v := blocks s (s.length / 64)) (n := s.length) hr.1 hc0 hs0 hb0
  go_wp2_with (first | refine wpList_store_row rfl 60 _ _ rfl _ _ rfl rfl 60 _ hc0 hinfo (hCells_old _ bl _ hr.1) (hCells_one _ bl _) ?_ | fail)
  generalize w0.setRow w.heap.size (hCells (blocks s (s.length / 64)) bl s.length).toArray = w1 at *
  refine (end_any (hL.below R.2 hsz) ⟨bl, R.1, hbl⟩ hsz hs).mono ?_
  rintro e w2 ⟨rfl, ⟨bl2, hr2⟩, hg2⟩
  have hb2 : Below w.heap.size w w2 := below_gb R.2 hg2 (Nat.le_refl _) R.2.size
  have hlt2 := hr2.lt
  clear R hg2 hc0 hs0 hb0
  go_wp2_with (at_make; refine wpList_make_own _ rfl _ _ 50 rfl w.heap.size 5 i0 (.int .u8 0) 1 Tryd.underlying50 hi hz0 hz1 _ _ _ 32 rfl rfl rfl (by omega) (by unfold maxLen; omega) (by omega) ?_)
  intro w3 hown3 hgrow3
  have hb3 : Below w.heap.size w w3 := hb2.grown hgrow3 (by omega) (fun k hk => by cases hk)
  have hr3 := hr2.grown hgrow3 (by simp)
  have hN := digestV_nonneg s
  have hD := digest_eq s
  clear hgrow3 hr2 hb2 hlt2
  obtain ⟨V, hV⟩ : ∃ V, V = digestV s := ⟨_, rfl⟩
  rw [← hV] at hr3 hN hD
  obtain ⟨cs, hcs⟩ : ∃ cs, cs = V.list.map word := ⟨_, rfl⟩
  have hrange : w3.rangeAt w.heap.size 0 cs := fun j u hu => by
    rw [hr3.cell, Nat.zero_add, hCells, List.getElem?_append_left (by rw [← hcs]; exact (List.getElem?_eq_some_iff.1 hu).1), ← hcs]
    exact hu
  have hlen : (Tryd.prog.info? 56).map (·.size) = some cs.length := by
    rw [hcs]
    kernel_rfl
  have hidx : ∀ j : Nat, j < 8 → ∀ w, (Instr.index 56 (.agg cs.toArray) (.int .i64 j)).run Tryd.prog w = .ok (.int .u32 (V.list.getD j 0)) w := fun j hj w => by
    rw [hcs]
    exact index56 V j hj w
  have HI : Hid _ := hidx
  clear hr3 hcs hidx hV
  go_wp2_with (refine wpList_load_mid rfl 56 _ rfl w.heap.size 0 rfl cs _ hrange Tryd.underlying56 rfl hlen ?_)
  go_loopw [4, 6, 14] (fun u _ i wr => ∃ j : Nat, j ≤ 8 ∧ i = .int .i64 j ∧ wr.ownsRow w.heap.size 5 1 u (sumPre V j).length (byteCells (sumPre V j)) ∧ Below w.heap.size w wr)
    (fun _ _ i _ => 8 - (intOf i).toNat)
  case atStart => exact ⟨0, by omega, rfl, hown3, hb3⟩
  case round =>
    clear hown3 hb3
    obtain ⟨j, hj, rfl, hown, hb⟩ := hrel
    have hpl : (sumPre V j).length ≤ 32 := by rw [sumPre_length V j hj]; omega
    by_cases hlt : j < 8
    · have hix := HI.out j hlt
      have hx0 := hN j hlt
      have hS := sumPre_succ V j hlt
      generalize V.list.getD j 0 = x at *
      go_wp2_with (first | (at_builtin; refine wpList_append_own _ rfl (.tmp 17) (.tmp 29) 50 rfl w.heap.size 5 i0 (.int .u8 0) 1 1 Tryd.underlying50 hi hz0 hz1 hz2 rfl (by decide) _ _ _ rfl (hown.alloc _) ⟨wr.heap.size, 0, none⟩ 4 4 [.int .u8 (x / 16777216 % 256), .int .u8 (x / 65536 % 256), .int .u8 (x / 256 % 256), .int .u8 (x % 256)] rfl rfl (cell_list_new _ _ _) (by intro u hu; simp at hu; rcases hu with rfl | rfl | rfl | rfl <;> rfl) (by unfold maxLen; omega) (by omega) (by have := hb.size; simp; omega) ?_))
      intro v' w4 hown' hgrow _
      have Q := rel_app (wordBytes_length x) (bytes4 x hx0) hown hb hb.size hown' hgrow
      rw [← hS] at Q
      clear hown' hgrow hown hS
      go_wp2
      go_roundw
      case rel => exact ⟨j + 1, by omega, by go_num, Q.1, Q.2⟩
      case measure => simp [intOf]; omega
    · obtain rfl : j = 8 := by omega
      rw [hD] at hown
      have hsr := run_string_of_own hown
      go_wp2
      go_ret
      exact ⟨rfl, hb⟩
end Go.Proofs.YtgpdmboeompncaaDoor
