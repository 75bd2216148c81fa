/-
  Lookup: a copy of items, sorted.
-/
import Derived.Test.YtkcefdiiibbflaaLuRef
import Derived.Test.YtkcefdiiibbflaaLuRow
import Derived.Test.YtkcefdiiibbflaaLuSF
import Derived.Lib.AppendZeros
import Derived.Laws.Cover3
namespace Go.Proofs.Ytkcefdiiibbflaa
open Go.RowKit Go.Lib Go.Sort
theorem sl_eq {T e : TypeId} (hu : Try.prog.underlying T = some (.slice e)) (w : World) (a : Addr) (n c : Nat) : (binOp .eql T (.slice (some a) n c) (.slice none 0 0)).run Try.prog w = .ok (.bool false) w := by
  simp [binOp, run_equal_slice_nil (P := Try.prog) w T e (some a) n c hu]
theorem sl_nil {T e : TypeId} (hu : Try.prog.underlying T = some (.slice e)) (w : World) : (binOp .eql T (.slice none 0 0) (.slice none 0 0)).run Try.prog w = .ok (.bool true) w := by
  simp [binOp, run_equal_slice_nil (P := Try.prog) w T e none 0 0 hu]
section
variable {w w' : World} {v : Value} {r : Nat → Prop} {l : List IT}
set_option maxRecDepth 100000 in
set_option maxHeartbeats 1600000 in
theorem cloneI (hl : LS it6 6 r w v l) (hn : l.length ≤ 1000000) :
    Calls Try.prog 34 #[v] w fun e w' => ∃ v', e = .returned v' ∧ OW it6 6 25 w.heap.size v' l w' ∧ Below w.heap.size w w' := by
  obtain ⟨a, c, rfl, h1, h2⟩ := hl
  rcases a with _ | a
  · have hl0 : l = [] := by
      rcases h2 with h | ⟨_, _, h, _⟩
      · exact h
      · cases h
    have := h1 rfl
    subst this
    subst hl0
    have hO := OW.nil it6 6 25 w.heap.size w
    clear h1 h2
    have k1 := sl_eq Try.underlying45
    have k0 := sl_nil Try.underlying45
    go_enter Try.func34, Try.ntmps34
    go_wp2
    go_ret
    exact ⟨_, rfl, hO, Below.refl _ _⟩
  · have hS : LS it6 6 r w (.slice (some a) l.length c) l := ⟨_, _, rfl, h1, h2⟩
    have hal : Below w.heap.size w (w.alloc (.cells #[] 25)) := (Below.refl _ _).alloc (Nat.le_refl _) _
    obtain ⟨v', w', hr, hO, hg, _⟩ := OW.app (ST := 45) it6_len (by decide) (fun x _ => it6_one x) Try.underlying45 Try.infoIt rfl (OW.empty it6 6 25 (Nat.le_refl w.heap.size)) (hS.bel hal) (by simp; omega) (by simp; omega) (by simp)
    have HO : Hid (OW it6 6 25 w.heap.size v' l w' ∧ Below w.heap.size w w') := ⟨hO, hal.grown hg (by simp) (fun k hk => by simp [Value.ownBlock] at hk; omega)⟩
    generalize l.length = n at *
    clear h1 h2 hS hO hg hal
    have k1 := sl_eq Try.underlying45
    have k0 := sl_nil Try.underlying45
    go_enter Try.func34, Try.ntmps34
    go_wp2_with (at_builtin; refine Lib.wpList_append_run _ rfl _ _ _ _ rfl _ _ rfl rfl _ _ hr ?_)
    go_ret
    exact ⟨_, rfl, HO.out⟩
end
theorem swo_cI : SWO (ltOf cI) where
  irrefl _ := lI_irrefl _
  trans _ _ _ h1 h2 := lI_trans h1 h2
  ntrans _ _ _ h1 h2 := lI_false_trans h1 h2
section
variable {w w' : World} {g o N : Nat} {L : List IT}
theorem SG.holds (h : SG w g o N L) : HoldsK it6 6 w g o L.toArray := by
  intro j hj
  rw [size_flatK, List.size_toArray] at hj
  have hb := h.blk.there (o := o) (n := L.length * 6) h.fit
  refine ⟨?_, (hb j hj).2⟩
  rw [get_flatK _ _ _ _ (by simpa using hj)]
  have hi : j / 6 < L.length := by omega
  have hx : L[j / 6]? = some L[j / 6] := List.getElem?_eq_getElem hi
  have h6 : j % 6 < (it6 L[j / 6]).length := by rw [it6_len]; omega
  have := h.at hx (j % 6) _ (List.getElem?_eq_getElem h6)
  rw [show o + j / 6 * 6 + j % 6 = o + j by omega] at this
  rw [this]
  have e : L.toArray[j / 6]! = L[j / 6] := by rw [getElem!_pos L.toArray (j / 6) (by simpa using hi)]; simp
  have e2 : (it6 L[j / 6])[j % 6]! = (it6 L[j / 6])[j % 6] := getElem!_pos (it6 L[j / 6]) (j % 6) h6
  rw [e, e2]
  rfl
theorem gs_sortWorld (hb : KB6 w g N) (n : Nat) (d : Array IT) (os : Array Obj) : Gs (fun i => i = g) w (sortWorldK it6 6 w g o n d os) ∧ KB6 (sortWorldK it6 6 w g o n d os) g N := by
  obtain ⟨cs, h1, h2⟩ := hb
  have hlt := lt_of_block h1
  obtain ⟨V, hV⟩ : ∃ V, V = putRowK it6 6 (Sort.ahead w n) g o d := ⟨_, rfl⟩
  have hs : V.heap.size = w.heap.size := by rw [hV]; simp [putRowK, putRow, mapBlock, Sort.ahead]
  have hg : V.heap[g]? = some (.cells (putCells id o (flatK it6 6 d) cs) 25 (0, 0)) := by
    rw [hV]
    simp only [putRowK, putRow, mapBlock, Sort.ahead, Array.getElem?_modify, if_true, h1, Option.map_some, onCells]
  have ho : ∀ i, i ≠ g → V.heap[i]? = w.heap[i]? := fun i hi => by
    rw [hV]
    simp only [putRowK, putRow, mapBlock, Sort.ahead, Array.getElem?_modify, if_neg (fun e => hi (Eq.symm e))]
  rw [sortWorldK, ← hV]
  refine ⟨⟨by rw [hV]; rfl, by rw [hV]; rfl, by rw [hV]; rfl, by rw [size_grow]; omega, fun i hi hp => ?_⟩, ⟨_, (heap_grow_old V os (by omega)).trans hg, ?_⟩⟩
  · rw [heap_grow_old V os (by omega)]
    exact ho i hp
  · simp [putCells, h2]
theorem SG.sorted (h : SG w g o N L) (n : Nat) (d : Array IT) (os : Array Obj) (hd : d.size = L.length) : SG (sortWorldK it6 6 w g o n d os) g o N d.toList := by
  have hH := holdsK_sortWorldK_c it6 6 w g o L.toArray d n os h.holds h.blk.lt (by simpa using hd)
  have hf := h.fit
  refine SG.of_at (gs_sortWorld h.blk n d os).2 (by simp; omega) fun i x hx j u hu => ?_
  have hi : i < d.size := by have := (List.getElem?_eq_some_iff.1 hx).1; simpa using this
  have hj : j < 6 := by have := (List.getElem?_eq_some_iff.1 hu).1; rwa [it6_len] at this
  have := (hH.cell hi hj).1
  rw [this]
  have e1 : d[i]! = x := by
    have := (List.getElem?_eq_some_iff.1 hx).2
    rw [getElem!_pos d i hi]
    simpa using this
  rw [e1]
  have h6 := (List.getElem?_eq_some_iff.1 hu)
  obtain ⟨h7, h8⟩ := h6
  rw [getElem!_pos (it6 x) j h7, h8]
/-- slices.SortFunc by the order of items. -/
theorem sort_any {c : Nat} (h : SG w g o N L) (hn : L.length ≤ 1000000) :
    Calls Try.prog 35 #[.slice (some ⟨g, o, none⟩) L.length c, .func (.func 13) #[] #[]] w fun e w' => e = .returned (.tuple #[]) ∧ ∃ M : List IT, M.Perm L ∧ (M.Pairwise fun x y => lI y x = false) ∧ SG w' g o N M ∧ Gs (fun i => i = g) w w' := by
  have hcon := AnyQ.slices_SortFunc Try.sortIt 6 Try.isAgg25 Try.sizeOf25 it6 it6_len it6_one cI swo_cI 13 #[] g o c L.toArray w (enters_of Try.func13 (by kernel_rfl) rfl) (fun m os dk _ x y => order_any x y _) h.holds h.blk.lt (by simp; omega)
  change Calls Try.prog 35 _ _ _ at hcon
  refine Calls.mono hcon ?_
  rintro e w' ⟨rfl, d', n, os, hP, hS, rfl⟩
  obtain ⟨p1, _, p3⟩ := hP
  simp only [List.size_toArray] at p1 p3 hS
  refine ⟨rfl, d'.toList, ?_, ?_, h.sorted n d' os p1, (gs_sortWorld h.blk n d' os).1⟩
  · have e : d'.toList.take L.length = d'.toList := List.take_of_length_le (by simp; omega)
    have p4 : (d'.toList.take L.length).Perm L := by simpa using p3
    rwa [e] at p4
  · rw [List.pairwise_iff_getElem]
    intro i j hi hj hij
    have := hS i j (Nat.zero_le _) hij (by simp at hj; omega)
    rw [getElem!_pos d' i (by simpa using hi), getElem!_pos d' j (by simpa using hj)] at this
    have h2 : lI d'[j] d'[i] = false := this
    simpa using h2
end
end Go.Proofs.Ytkcefdiiibbflaa
