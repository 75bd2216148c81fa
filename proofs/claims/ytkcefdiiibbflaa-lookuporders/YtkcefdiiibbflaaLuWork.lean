/-
  Lookup: the chapter's example.
-/
import Derived.Test.YtkcefdiiibbflaaLuAdd
import Derived.Test.YtkcefdiiibbflaaLuDrop2
import Derived.Test.YtkcefdiiibbflaaLuItem
namespace Go.Proofs.Ytkcefdiiibbflaa
open Go.RowKit Go.Lib
def iA : IT := itm 1 2 5
def iB : IT := itm 1 1 9
def itz (i p o : Int) : IT := itm (amg i 20) (amg p 5) (amg o 100)
theorem itzA : itz 1 2 5 = iA := by
  simp only [itz, show amg 1 20 = 1 from by decide, show amg 2 5 = 2 from by decide, show amg 5 100 = 5 from by decide]
  rfl
theorem itzB : itz 1 1 9 = iB := by
  simp only [itz, show amg 1 20 = 1 from by decide, show amg 1 5 = 1 from by decide, show amg 9 100 = 9 from by decide]
  rfl
theorem itzC : (itz 1 0 0).id = rp 13 := by
  simp only [itz, show amg 1 20 = 1 from by decide, show amg 0 5 = 0 from by decide, show amg 0 100 = 0 from by decide]
  rfl
theorem rp_size (k : Nat) : (rp k).size = 32 := rfl
theorem okiA : okI iA := ⟨rp_size _, rp_size _, .inl rfl, ⟨by decide, by decide⟩, ⟨by decide, by decide⟩, by decide, by decide⟩
theorem okiB : okI iB := ⟨rp_size _, rp_size _, .inl rfl, ⟨by decide, by decide⟩, ⟨by decide, by decide⟩, by decide, by decide⟩
theorem lBA : lI iB iA = true := by decide +kernel
theorem rp_ne : ¬ rp 99 = rp 98 := by decide +kernel
theorem flt_id : [iB, iA].filter (fun x => decide (x.id = rp 13)) = [iB, iA] := by
  simp [show iB.id = rp 13 from rfl, show iA.id = rp 13 from rfl]
theorem flt_ia : [iA].filter (fun x => decide (x.id = rp 13)) = [iA] := by
  simp [show iA.id = rp 13 from rfl]
theorem flt_pk : [iB, iA].filter (fun x => !decide (x.pk = rp 98)) = [iA] := by
  simp [show iB.pk = rp 98 from rfl, show iA.pk = rp 99 from rfl, rp_ne]
theorem item_v (i p o : Int) (w : World) : Calls Try.prog 16 #[.int .i64 i, .int .i64 p, .int .i64 o] w fun e w' => e = .returned (.agg #[.string (itz i p o).id, .string (itz i p o).pk, .int .i64 (itz i p o).kind, .int .i64 (itz i p o).off, .int .i64 (itz i p o).long, .int .i64 (itz i p o).size]) ∧ Below w.heap.size w w' := item_any i p o w
/-- A table of our own, and variables of ours that hold places. -/
structure WK (w : World) (tb : Nat) (L : List IT) (K : List (Nat × IT)) (W : World) : Prop where
  ex : ∃ R : Nat → Prop, TB R W tb L ∧ (∀ i, R i → w.heap.size ≤ i) ∧ ∀ b x, (b, x) ∈ K → ¬ R b ∧ W.heap[b]? = some (.cells (pl5 x).toArray 23 (0, 0))
  bel : Below w.heap.size w W
section
variable {w W W' : World} {tb : Nat} {L X : List IT} {K : List (Nat × IT)} {r : Nat → Prop} {v : Value}
theorem WK.step (h : WK w tb L K W) (k : Below W.heap.size W W') : WK w tb L K W' := by
  obtain ⟨R, h1, h2, h3⟩ := h.ex
  exact ⟨⟨R, h1.bel k, h2, fun b x hx => ⟨(h3 b x hx).1, (k.block b (lt_of_block (h3 b x hx).2)).trans (h3 b x hx).2⟩⟩, below_step h.bel k⟩
theorem WK.alloc (h : WK w tb L K W) (o : Obj) : WK w tb L K (W.alloc o) := h.step ((Below.refl _ _).alloc (Nat.le_refl _) _)
theorem WK.put (h : WK w tb L K W) (x : IT) : ∃ V, (Instr.storeAt 23 (.pointer (some ⟨W.heap.size, 0, none⟩)) (.agg (pl5 x).toArray)).run Try.prog (W.alloc (.cells #[.string ⟨#[]⟩, .int .i64 0, .int .i64 0, .int .i64 0, .int .i64 0] 23)) = .ok () V ∧ WK w tb L ((W.heap.size, x) :: K) V := by
  have k0 := heap_alloc_new W (.cells #[.string ⟨#[]⟩, .int .i64 0, .int .i64 0, .int .i64 0, .int .i64 0] 23)
  have hU := h.alloc (.cells #[.string ⟨#[]⟩, .int .i64 0, .int .i64 0, .int .i64 0, .int .i64 0] 23)
  obtain ⟨R0, t0, t1, t2⟩ := h.ex
  have hb : Below W.heap.size W (W.alloc (.cells #[.string ⟨#[]⟩, .int .i64 0, .int .i64 0, .int .i64 0, .int .i64 0] 23)) := (Below.refl _ _).alloc (Nat.le_refl _) _
  generalize W.alloc (.cells #[.string ⟨#[]⟩, .int .i64 0, .int .i64 0, .int .i64 0, .int .i64 0] 23) = U at k0 hU hb ⊢
  have hg := gs_setCells W.heap.size (pl5 x) 0 U
  refine ⟨_, five_store k0 x, ⟨R0, (t0.bel hb).gs hg (fun i hi e => by have := t0.lt i hi; omega), t1, fun b y hy => ?_⟩, hg.below hU.bel hU.bel.size (fun i hi => by have := h.bel.size; omega)⟩
  rcases List.mem_cons.1 hy with e | e
  · injection e with e1 e2
    subst e1
    subst e2
    exact ⟨fun e => by have := t0.lt _ e; omega, five_set k0 _⟩
  · have hl := lt_of_block (t2 b y e).2
    exact ⟨(t2 b y e).1, (hg.block b (Nat.lt_of_lt_of_le hl hb.size) (fun q => by omega)).trans ((hb.block b hl).trans (t2 b y e).2)⟩
theorem WK.add (h : WK w tb L K W) (hI : LS it6 6 r W v X) (hok : ∀ x ∈ X, okI x) (hn : L.length ≤ 50000) (hl : X.length ≤ 1000) :
    Calls Try.prog 15 #[.pointer (some ⟨tb, 0, none⟩), v] W fun e w' => e = .returned (.int .i64 0) ∧ ∃ L', WK w tb L' K w' ∧ SS L' ∧ (∀ x, x ∈ L' ↔ x ∈ L ∨ x ∈ X) ∧ L'.length ≤ L.length + X.length := by
  obtain ⟨R, t0, t1, t2⟩ := h.ex
  refine (add_any t0 hI hok hn hl).mono ?_
  rintro e w' ⟨rfl, R', L', h1, h2, h3, h4, h5⟩
  refine ⟨rfl, L', ⟨⟨R', h1, fun i hi => ?_, fun b x hx => ⟨fun e => ?_, (h3.block b (lt_of_block (t2 b x hx).2) (t2 b x hx).1).trans (t2 b x hx).2⟩⟩, h3.below h.bel h.bel.size t1⟩, h1.ss, h2, h5⟩
  · rcases h4 i hi with h | h'
    · exact t1 i h
    · exact Nat.le_trans h.bel.size h'
  · rcases h4 b e with h' | h'
    · exact (t2 b x hx).1 h'
    · have := lt_of_block (t2 b x hx).2
      omega
theorem WK.drop (h : WK w tb L K W) (hn : L.length ≤ 1000000) (q : ByteArray) :
    Calls Try.prog 18 #[.pointer (some ⟨tb, 0, none⟩), .string q] W fun e w' => e = .returned (.int .i64 (L.length - (L.filter fun x => !decide (x.pk = q)).length : Nat)) ∧ WK w tb (L.filter fun x => !decide (x.pk = q)) K w' := by
  obtain ⟨R, t0, t1, t2⟩ := h.ex
  refine (drop_any t0 hn q).mono ?_
  rintro e w' ⟨rfl, h1, h3⟩
  exact ⟨rfl, ⟨R, h1, t1, fun b x hx => ⟨(t2 b x hx).1, (h3.block b (lt_of_block (t2 b x hx).2) (t2 b x hx).1).trans (t2 b x hx).2⟩⟩, h3.below h.bel h.bel.size t1⟩
theorem WK.get (h : WK w tb L K W) (hn : L.length ≤ 1000000) (q : ByteArray) :
    Calls Try.prog 17 #[.pointer (some ⟨tb, 0, none⟩), .string q] W fun e w' => e = .returned (gtV (L.filter fun x => decide (x.id = q))) ∧ WK w tb L K w' := by
  obtain ⟨R, t0, t1, t2⟩ := h.ex
  refine (get_any t0 hn q).mono ?_
  rintro e w' ⟨rfl, hb⟩
  exact ⟨rfl, h.step hb⟩
end
theorem two_ls (X Y : IT) (W : World) : LS it6 6 (fun i => i = W.heap.size) (W.alloc (.cells #[.string X.id, .string X.pk, .int .i64 X.kind, .int .i64 X.off, .int .i64 X.long, .int .i64 X.size, .string Y.id, .string Y.pk, .int .i64 Y.kind, .int .i64 Y.off, .int .i64 Y.long, .int .i64 Y.size] 25)) (.slice (some ⟨W.heap.size, 0, none⟩) 2 2) [X, Y] := by
  refine ⟨_, _, rfl, (fun e => by cases e), .inr ⟨W.heap.size, 0, rfl, rfl, by simp, fun i x hx j u hu => ?_⟩⟩
  have hj : j < 6 := (List.getElem?_eq_some_iff.1 hu).1
  rw [cell_of_row _ _ _ _ _ _ (heap_alloc_new W _)]
  rcases i with _ | _ | i
  · obtain rfl : X = x := by simpa using hx
    rcases j with _ | _ | _ | _ | _ | _ | j <;> first | exact hu | omega
  · obtain rfl : Y = x := by simpa using hx
    rcases j with _ | _ | _ | _ | _ | _ | j <;> first | exact hu | omega
  · simp at hx
theorem run_fld0 (a b : ByteArray) (x1 x2 x3 x4 : Int) (w : World) : (Instr.field 25 (.agg #[.string a, .string b, .int .i64 x1, .int .i64 x2, .int .i64 x3, .int .i64 x4]) 0).run Try.prog w = .ok (.string a) w := by kernel_rfl
set_option maxRecDepth 100000 in
set_option maxHeartbeats 1600000 in
theorem works_any (w : World) : Calls Try.prog 9 #[] w fun e w' => e = .returned (.bool true) ∧ Below w.heap.size w w' := by
  go_enter Try.func9, Try.ntmps9
  go_upto_region 2 with (go_at_call 14; refine Calls.mono (new_any _) ?_; rintro e W1 ⟨tb, rfl, hT, hge, hb⟩; have H := hide (WK.mk (K := []) ⟨_, hT, fun i hi => by omega, fun b x hx => by cases hx⟩ hb); clear hT hge hb)
  go_wp2_with (go_at_call 16; refine Calls.mono (item_v _ _ _ _) ?_; rintro e w8 ⟨rfl, hb⟩; have hh := H.out.step hb; clear H hb; have H := hide hh; clear hh)
  refine Calls.mono ((H.out.alloc _).add (two_ls (itz 1 2 5) (itz 1 1 9) _) (fun x hx => ?_) (by simp) (by simp)) ?_
  · rw [itzA, itzB] at hx
    rcases List.mem_cons.1 hx with e | e
    · rw [e]; exact okiA
    · rw [List.mem_singleton.1 e]; exact okiB
  rintro e w9 ⟨rfl, L', hW, hS, hm, _⟩
  rw [itzA, itzB] at hm
  have hL : L' = [iB, iA] := ss_ext hS (by simp [SS, lBA]) (fun x => by rw [hm]; simp [or_comm])
  subst hL
  have H1 := hide hW
  clear hW hm hS H
  have hfl := run_fld0
  go_wp2_with (go_at_call 16; refine Calls.mono (item_v _ _ _ _) ?_; rintro e w8 ⟨rfl, hb⟩; have hh := H1.out.step hb; clear H1 hb; have H1 := hide hh; clear hh)
  rw [itzC]
  refine Calls.mono (H1.out.get (by simp) _) ?_
  rintro e w9 ⟨rfl, hW⟩
  rw [flt_id]
  obtain ⟨V, hst, hV⟩ := hW.put iB
  obtain ⟨ya, hya⟩ : ∃ y, y = w9.heap.size := ⟨_, rfl⟩
  rw [← hya] at hst hV
  have HY := hide hya
  have H2 := hide hV
  clear hW hV H1 hya
  obtain ⟨R, _, _, hk⟩ := H2.out.ex
  have f0 : V.cell? ⟨ya, 0, none⟩ = some (.string (rp 98)) := (cell5 (hk ya iB (by simp)).2).1
  clear hk
  have hgt : gtV [iB, iA] = .tuple #[.agg #[.string (rp 98), .int .i64 1, .int .i64 9, .int .i64 5, .int .i64 3], .bool true] := rfl
  have hst' : (Instr.storeAt 23 (.pointer (some ⟨ya, 0, none⟩)) (.agg #[.string (rp 98), .int .i64 1, .int .i64 9, .int .i64 5, .int .i64 3])).run Try.prog (w9.alloc (.cells #[.string ⟨#[]⟩, .int .i64 0, .int .i64 0, .int .i64 0, .int .i64 0] 23)) = .ok () V := hst
  rw [HY.out] at hst'
  rw [hgt]
  clear hst hgt
  have f0' := f0
  rw [HY.out] at f0'
  go_wp2_with (refine wpList_store_run rfl 23 _ _ rfl _ _ rfl rfl hst' ?_)
  rw [← HY.out]
  have HD : Calls Try.prog 18 #[.pointer (some ⟨tb, 0, none⟩), .string (rp 98)] V fun e w' => e = .returned (.int .i64 1) ∧ WK w tb [iA] [(ya, iB)] w' := by
    refine (H2.out.drop (by simp) (rp 98)).mono ?_
    rintro e w' ⟨rfl, h⟩
    rw [flt_pk] at h
    exact ⟨by rw [flt_pk]; rfl, h⟩
  refine HD.mono ?_
  rintro e w10 ⟨rfl, hW⟩
  have H3 := hide hW
  clear hW HD f0 f0' hst' H2
  clear HY
  go_wp2_with (go_at_call 16; refine Calls.mono (item_v _ _ _ _) ?_; rintro e w8 ⟨rfl, hb⟩; have hh := H3.out.step hb; clear H3 hb; have H3 := hide hh; clear hh)
  rw [itzC]
  refine Calls.mono (H3.out.get (by simp) _) ?_
  rintro e w11 ⟨rfl, hW⟩
  rw [flt_ia]
  obtain ⟨V2, hst, hV⟩ := hW.put iA
  obtain ⟨yb, hyb⟩ : ∃ y, y = w11.heap.size := ⟨_, rfl⟩
  rw [← hyb] at hst hV
  have HY := hide hyb
  have HE := hide hV.bel
  obtain ⟨R2, _, _, hk⟩ := hV.ex
  have f2 : V2.cell? ⟨ya, 2, none⟩ = some (.int .i64 9) := (cell5 (hk ya iB (by simp)).2).2.2.1
  have f3 : V2.cell? ⟨yb, 2, none⟩ = some (.int .i64 5) := (cell5 (hk yb iA (by simp)).2).2.2.1
  clear hk hW hV H3 hyb
  have hgt : gtV [iA] = .tuple #[.agg #[.string (rp 99), .int .i64 1, .int .i64 5, .int .i64 5, .int .i64 3], .bool true] := rfl
  have hst' : (Instr.storeAt 23 (.pointer (some ⟨yb, 0, none⟩)) (.agg #[.string (rp 99), .int .i64 1, .int .i64 5, .int .i64 5, .int .i64 3])).run Try.prog (w11.alloc (.cells #[.string ⟨#[]⟩, .int .i64 0, .int .i64 0, .int .i64 0, .int .i64 0] 23)) = .ok () V2 := hst
  rw [HY.out] at hst' f3
  rw [hgt]
  clear hst hgt
  go_wp2_with (refine wpList_store_run rfl 23 _ _ rfl _ _ rfl rfl hst' ?_)
  go_ret
  exact ⟨rfl, HE.out⟩
end Go.Proofs.Ytkcefdiiibbflaa
