/-
  Contracts of the program and of the statements (part 26 of 35).
-/
import Derived.Test.YtagijldedngcoaaGreatDoorOc25
import Derived.Test.YtagijldedngcoaaGreatDoorOc13
import Derived.Test.YtagijldedngcoaaGreatDoorRows
import Derived.Test.YtagijldedngcoaaGreatDoorOc15
import Derived.Test.YtagijldedngcoaaGreatDoorOc23
import Derived.Shelf.SlIter.Nil
import Derived.Shelf.SortM.Plain
import Derived.Shelf.SortM.SortNone

namespace Go.Proofs.YtagijldedngcoaaGreatDoor
open Go.RowKit Go.Lib Go.Maps
section
variable {b : Nat} {α : Type} {pl : PN α} {P Py : Nat → Prop} {w w' : World} {v : Value} {S : List SS} {bs : List (Nat × Nat)} {g : Nat}
structure RNX {α : Type} (b : Nat) (Fin : α → List RR → (Nat → Prop) → World → Prop) (pl : PN α) (P Py : Nat → Prop) (w w' : World) (v : Value) (S : List SS) (bs : List (Nat × Nat)) : Prop where
  y : YP Py w' v (ySs S (pl.tr S)) bs
  g : Gs (fun i => P i ∨ Qs bs i) w w'
  f : ∃ P', Fin (pl.res S) (yRs S (pl.tr S)) P' w' ∧ P' b ∧ ∀ i, P' i → P i ∨ w.heap.size ≤ i
  l : Zq.Sh.Laid w'
set_option maxRecDepth 100000 in
set_option maxHeartbeats 3200000 in
theorem run_jobx {Fin : α → List RR → (Nat → Prop) → World → Prop} (hFK : FK b Fin) (rs : α → RS) (hFR : ∀ x A P w, Fin x A P w → FinR b (rs x) A P w) (hJ : JJ b Fin pl [] P w) (hY : YP Py w v S bs) (hap : ∀ i, P i → ¬ Py i) (hPy : ∀ i, Py i → i < w.heap.size) (hG : GD g S) (hg : g + (pl.tr S).length ≤ 1000) (hq : ∀ q ∈ pl.tr S, q.n.size ≤ maxLen ∧ q.d.size ≤ maxLen) (hIl : (rs (pl.res S)).ids.length ≤ 1000000000000) (hTl : (rs (pl.res S)).tx.length ≤ 1000000000000) (hLw : Zq.Sh.Laid w) (hP2 : ∀ i, P i → 2 ≤ i) (hQ2 : ∀ i, Qs bs i → 2 ≤ i) :
    Calls Tryz.prog 33 #[.pointer (some ⟨b, 0, none⟩), v] w fun e w' => ∃ ids tx, e = .returned (.tuple #[.agg #[.int .i64 (rs (pl.res S)).c, .string ⟨#[]⟩, .int .i64 (rs (pl.res S)).n, ids, tx, .slice none 0 0, .slice none 0 0], .bool true]) ∧ TS w.heap.size ids (rs (pl.res S)).ids w' ∧ TS w.heap.size tx (rs (pl.res S)).tx w' ∧ RNX b Fin pl P Py w w' v S bs := by
  obtain ⟨U, hU⟩ : ∃ U, U = w.alloc (.cells #[.int .i64 0, .string ⟨#[]⟩, .int .i64 0, .slice none 0 0, .slice none 0 0, .slice none 0 0, .slice none 0 0] 63) := ⟨_, rfl⟩
  obtain ⟨X0, hX⟩ : ∃ X0, X0 = w.heap.size := ⟨_, rfl⟩
  have hBU : Below w.heap.size w U := by rw [hU]; exact (Below.refl _ _).alloc (Nat.le_refl _) _
  have hZ : R7 U X0 0 0 (.slice none 0 0) (.slice none 0 0) := by rw [hU, hX]; exact heap_alloc_new w _
  have hPl := hJ.lt
  have hJU : JJ b Fin pl [] P U := hJ.gs (p := fun i => w.heap.size ≤ i) hFK (Gs.of_below _ hBU) (fun i hi hn => by have := hPl i hi; omega)
  have hUs := hBU.size
  have HR := hide (run_any (jobP (pl := pl) hFK S (by omega)) (A := []) ⟨0, Nat.zero_le _, by simp [yRs], by simpa [PN.aft] using hJU⟩ (hY.bel hBU) hap (fun i hi => by have := hPy i hi; omega) hG hg (by simp [resI]) hq (hLw.below hBU hLw.size) hP2 hQ2 (fun t ht => ⟨t, by simpa using ht, by simp⟩) 2000 (by decide))
  have HU := hide hU
  have HX := hide hX
  have HZ := hide (And.intro hBU hZ)
  have HP := hide (And.intro hPl (And.intro hPy (And.intro hIl hTl)))
  obtain ⟨L, hLd⟩ : ∃ L, L = pl.tr S := ⟨_, rfl⟩
  obtain ⟨C, hCd⟩ : ∃ C, C = rs (pl.res S) := ⟨_, rfl⟩
  have hLl : L.length ≤ 1000 := by rw [hLd]; omega
  have HLL := hide (And.intro hLd hLl)
  rw [← hLd] at HR
  rw [← hCd] at HP ⊢
  have HCd := hide hCd
  have HL0 := hide hLw.size
  clear hJ hY hap hPy hG hg hq hU hX hBU hZ hPl hJU hUs hIl hTl hLw hP2 hQ2 hLd hLl hCd
  go_enter Tryz.func33, Tryz.ntmps33
  go_upto_region 1 with fail
  rw [← HU.out, ← HX.out]
  go_wp2_with fail
  refine HR.out.mono ?_
  rintro e w1 ⟨t, ht, rfl, Pj', hRU⟩
  obtain ⟨hPl, hPy, hIl, hTl⟩ := HP.out
  have ht2 : t = L.length := by have := HLL.out.2; simp at ht; omega
  subst ht2
  have hc : (if ([] : List RR).length + L.length < L.length then (2 : Int) else 0) = 0 := by rw [if_neg (by simp)]
  rw [hc]
  have eL : (L.drop ([] : List RR).length).take L.length = L := by simp
  have hj := hRU.j
  have hy := hRU.y
  rw [eL, List.nil_append] at hj
  rw [eL] at hy
  obtain ⟨t', _, _, hj2⟩ := hj
  have hLd := HLL.out.1
  rw [hLd, aft_end, JJ] at hj2
  obtain ⟨hPb, hPl', hfin⟩ := hj2
  obtain ⟨ids0, tx0, hJB, hI0, hT0⟩ := hFR _ _ _ _ hfin
  rw [← HCd.out] at hJB hI0 hT0
  have HS := hide (result_any hJB hI0 hT0 hIl hTl)
  have HF1 := hide (And.intro hy (And.intro hRU.g (And.intro hRU.p (And.intro hPb (And.intro hRU.l hfin)))))
  clear hy hJB hI0 hT0 hfin hRU hPb hPl' hPl hPy hIl hTl eL hc ht hLd
  go_wp2_with fail
  refine HS.out.mono ?_
  rintro e w2 ⟨ids, tx, rfl, h1, h2, hB2⟩
  obtain ⟨hy, hg, hp, hPb, hLw1, hfin⟩ := HF1.out
  obtain ⟨hPl, hPy, _⟩ := HP.out
  obtain ⟨hBU, hZ⟩ := HZ.out
  have hX := HX.out
  have hUs := hBU.size
  have hXl := hZ.lt
  have hgs := hg.size
  have hB2s := hB2.size
  have hXP : ¬ (P X0 ∨ Py X0) := by
    rintro (h | h)
    · have := hPl _ h; omega
    · have := hPy _ h; omega
  have hXQ : ¬ (P X0 ∨ Qs bs X0) := by
    rintro (h | h)
    · exact hXP (.inl h)
    · exact hXP (.inr (hy.qs h))
  have hZ2 : R7 w2 X0 0 0 (.slice none 0 0) (.slice none 0 0) := (hZ.gs hg hXQ).bel hB2
  obtain ⟨ai, ci, hei⟩ := h1.shp
  obtain ⟨at_, ct, het⟩ := h2.shp
  have hrun := store_run (t := 63) (o := 0) hZ2 #[.int .i64 C.c, .string ⟨#[]⟩, .int .i64 C.n, ids, tx, .slice none 0 0, .slice none 0 0] (Nat.le_of_ble_eq_true rfl) Tryz.sizeR (by rw [hei, het]; simp [Value.oneCell'])
  obtain ⟨V, hV⟩ : ∃ V, V = w2.setCells X0 0 [.int .i64 C.c, .string ⟨#[]⟩, .int .i64 C.n, ids, tx, .slice none 0 0, .slice none 0 0] := ⟨_, rfl⟩
  have hRV : R7 V X0 C.c C.n ids tx := by
    have h1 := setCells_self [.int .i64 C.c, .string ⟨#[]⟩, .int .i64 C.n, ids, tx, .slice none 0 0, .slice none 0 0] 0 w2 _ hZ2
    rw [← hV] at h1
    simpa [putAll, R7] using h1
  simp only [] at hrun
  rw [← hV] at hrun
  have hGV : Gs (fun i => i = X0) w2 V := by rw [hV]; exact Gs.cells _ _ _ (Gs.refl _ _) (.inl rfl)
  have hVs := hGV.size
  have r0 : V.cell? ⟨X0, 0, none⟩ = some (.int .i64 C.c) := hRV.cell 0
  have r1 : V.cell? ⟨X0, 1, none⟩ = some (.string ⟨#[]⟩) := hRV.cell 1
  have r2 : V.cell? ⟨X0, 2, none⟩ = some (.int .i64 C.n) := hRV.cell 2
  have r3 : V.cell? ⟨X0, 3, none⟩ = some ids := hRV.cell 3
  have r4 : V.cell? ⟨X0, 4, none⟩ = some tx := hRV.cell 4
  have r5 : V.cell? ⟨X0, 5, none⟩ = some (.slice none 0 0) := hRV.cell 5
  have r6 : V.cell? ⟨X0, 6, none⟩ = some (.slice none 0 0) := hRV.cell 6
  have HE : Hid (TS w.heap.size ids C.ids V ∧ TS w.heap.size tx C.tx V ∧ RNX b Fin pl P Py w V v S bs) := by
    have k1 := h1.lt
    have k2 := h2.lt
    have hXl1 : X0 < w1.heap.size := by omega
    have hXPj : ¬ Pj' X0 := fun h => by
      rcases hp X0 h with h | h
      · exact hXP (.inl h)
      · omega
    rw [HLL.out.1] at hy
    refine ⟨(h1.kb fun i hi => hGV.block i (k1 i hi).2 (by have := (k1 i hi).1; omega)).low (by omega), (h2.kb fun i hi => hGV.block i (k2 i hi).2 (by have := (k2 i hi).1; omega)).low (by omega), ?_, ?_, ?_, ?_⟩
    · exact (hy.bel hB2).gs hGV fun i hi e => hXP (.inr (e ▸ hi))
    · refine ((((Gs.of_below _ hBU).trans hg).bel hB2).tr2 (hGV.mono (q := fun i => w.heap.size ≤ i) fun i _ e => by omega) fun i hi e => by omega)
    · have h3 := hFK.gs (p := fun i => ¬ Pj' i) hfin (w' := V) (((Gs.refl _ _).bel hB2).trans (hGV.mono fun i _ e h => hXPj (e ▸ h))) hPb (fun i hi hn => hn hi)
      exact ⟨Pj', h3, hPb, fun i hi => by
        rcases hp i hi with h | h
        · exact .inl h
        · exact .inr (by omega)⟩
    · exact laid_gs (hLw1.below hB2 hLw1.size) hGV fun i hi => by have := HL0.out; omega
  clear hV hRV hGV hVs hy hg hp hPb hfin hLw1 hPl hPy hBU hZ hX hUs hXl hgs hB2s hXP hXQ hZ2 h1 h2 hB2 HF1
  subst hei
  subst het
  generalize C.ids.length = li at *
  generalize C.tx.length = lt at *
  go_wp2_with (refine wpList_store_run rfl 63 _ _ rfl _ _ rfl rfl hrun ?_)
  exact bodyPost_ret (v := .tuple #[.agg #[.int .i64 C.c, .string ⟨#[]⟩, .int .i64 C.n, .slice ai li ci, .slice at_ lt ct, .slice none 0 0, .slice none 0 0], .bool true]) (by simp [results, Tryz.results33, go_sem, r0, r1, r2, r3, r4, r5, r6]) rfl ⟨_, _, rfl, HE.out⟩
end
def pz (b : Nat) : List Value := [.pointer (some ⟨b, 0, none⟩)]
theorem pz_len (b : Nat) : (pz b).length = 1 := rfl
theorem pz_one (b : Nat) : ∀ u ∈ pz b, u.oneCell' = true := by intro u hu; simp [pz] at hu; subst hu; rfl
theorem Tryz.infoPz : (Tryz.prog.info? 32).map (fun i => (i.zero, i.size, i.bytes)) = some (some (.pointer none), 1, 8) := by kernel_rfl
def sq (q : Int) : SS := ⟨q, 0, 0, false, []⟩
structure YB (q : Int) (w wr : World) (sv : Value) (bs : List (Nat × Nat)) : Prop where
  s : OW pz 1 32 w.heap.size sv (bs.map (·.1)) wr
  px : ∀ e ∈ bs, PX wr e.1 e.2 (sq q) ∧ w.heap.size ≤ e.1 ∧ w.heap.size ≤ e.2
  ap : ∀ (i j : Nat) (e f : Nat × Nat), bs[i]? = some e → bs[j]? = some f → i ≠ j → e.1 ≠ f.1 ∧ e.2 ≠ f.2
  be : Below w.heap.size w wr
theorem snocGet {α : Type} {l : List α} {x y : α} {i : Nat} (h : (l ++ [x])[i]? = some y) : (i < l.length ∧ l[i]? = some y) ∨ (i = l.length ∧ y = x) := by
  by_cases hi : i < l.length
  · rw [List.getElem?_append_left hi] at h; exact .inl ⟨hi, h⟩
  · rw [List.getElem?_append_right (by omega)] at h
    have : i - l.length = 0 := by
      have := (List.getElem?_eq_some_iff.1 h).1
      simp at this; omega
    rw [this] at h
    simp at h
    exact .inr ⟨by omega, h.symm⟩
section
variable {q : Int} {w wr w' : World} {sv : Value} {bs : List (Nat × Nat)}
theorem YB.bel (h : YB q w wr sv bs) (hb : Below wr.heap.size wr w') : YB q w w' sv bs :=
  ⟨h.s.keep hb, fun e he => ⟨PS.bel (h.px e he).1 hb, (h.px e he).2⟩, h.ap, h.be.trans (hb.mono h.be.size)⟩
theorem YB.yp (h : YB q w wr sv bs) : YP (fun i => w.heap.size ≤ i ∧ i < wr.heap.size) wr sv (List.replicate bs.length (sq q)) bs := by
  refine ⟨?_, by simp, ?_, ?_, h.ap⟩
  · obtain ⟨a, c, e, hc, hl | ⟨g, o, ea, hr, hg, hG⟩⟩ := h.s.ls (r := fun i => w.heap.size ≤ i ∧ i < wr.heap.size) pz_len (fun i hi => ⟨(h.s.lt i hi).1, (h.s.lt i hi).2⟩)
    · exact ⟨a, c, e, .inl hl⟩
    · refine ⟨a, c, e, .inr ⟨g, o, ea, hr, hg, fun i b hb => ?_⟩⟩
      have := hG i b hb 0 _ rfl
      rw [Nat.mul_one, Nat.add_zero] at this
      exact this
  · intro i e s he hs
    rw [List.getElem?_replicate] at hs
    split at hs
    · cases hs; exact (h.px e (List.mem_of_getElem? he)).1
    · cases hs
  · intro e he
    exact ⟨⟨(h.px e he).2.1, PS.lt (h.px e he).1⟩, ⟨(h.px e he).2.2, PS.mlt (h.px e he).1⟩⟩
theorem YB.more (h : YB q w wr sv bs) {b mb : Nat} (hX : PX wr b mb (sq q)) (hb : w.heap.size ≤ b) (hm : w.heap.size ≤ mb) (hd : ∀ e ∈ bs, e.1 ≠ b ∧ e.2 ≠ mb) (hl : bs.length ≤ 1000) :
    ∃ a c w', (Builtin.append_ #[28, 28] 28 #[sv, .slice (some ⟨wr.heap.size, 0, none⟩) 1 1]).run Tryz.prog (wr.alloc (.cells #[.pointer (some ⟨b, 0, none⟩)] 32)) = .ok (.slice a (bs.length + 1) c) w' ∧ YB q w w' (.slice a (bs.length + 1) c) (bs ++ [(b, mb)]) := by
  have hal : Below wr.heap.size wr (wr.alloc (.cells #[.pointer (some ⟨b, 0, none⟩)] 32)) := (Below.refl _ _).alloc (Nat.le_refl _) _
  have h' := h.bel hal
  have hws := h.be.size
  obtain ⟨v', w1, h1, h2, h3, h4⟩ := OW.app (ST := 28) pz_len (by decide) (fun x _ => pz_one x) Tryz.underlying28 Tryz.infoPz rfl h'.s (LS.one b 32 wr pz 1 (fun _ => True) trivial) (by simp; omega) (by simp; omega) (by simp; omega)
  obtain ⟨a, c, e⟩ := h2.shp
  have hle : ((bs.map (·.1)) ++ [b]).length = bs.length + 1 := by simp
  rw [hle] at e
  subst e
  have hsl := h'.s.lt
  have hst := h'.s.typ
  have hBw : Below w.heap.size w w1 := h'.be.grown h3 (by simp; omega) (fun k hk => (hsl k hk).1)
  refine ⟨a, c, w1, h1, ?_, ?_, ?_, hBw⟩
  · rw [List.map_append]; exact h2
  · have hpk : ∀ e : Nat × Nat, PX (wr.alloc (.cells #[.pointer (some ⟨b, 0, none⟩)] 32)) e.1 e.2 (sq q) → PX w1 e.1 e.2 (sq q) := fun e hX => by
      have hX' : PS _ e.1 e.2 (sq q).q (sq q).f (sq q).off (sq q).m (sq q).L := hX
      have g1 : Gs (fun i => sv.ownBlock = some i) (wr.alloc (.cells #[.pointer (some ⟨b, 0, none⟩)] 32)) w1 := ⟨h3.os, h3.tape, h3.output, h3.size, fun i hi hn => h3.block i hi (fun e => hn e.symm)⟩
      refine PS.gs hX' g1 (fun e' => ?_) (fun e' => ?_)
      · obtain ⟨c1, q1⟩ := hst _ e'
        rw [hX'.blk] at q1
        simp at q1
      · obtain ⟨c1, q1⟩ := hst _ e'
        exact hX'.map.notCells q1
    intro e he
    rcases List.mem_append.1 he with he | he
    · exact ⟨hpk e (h'.px e he).1, (h.px e he).2⟩
    · simp at he
      subst he
      exact ⟨hpk _ (PS.bel hX hal), hb, hm⟩
  · intro i j e f he hf hij
    rcases snocGet he with ⟨hi, he⟩ | ⟨hi, he⟩ <;> rcases snocGet hf with ⟨hj, hf⟩ | ⟨hj, hf⟩
    · exact h.ap i j e f he hf hij
    · subst hf; exact hd e (List.mem_of_getElem? he)
    · subst he; have := hd f (List.mem_of_getElem? hf); exact ⟨fun q => this.1 q.symm, fun q => this.2 q.symm⟩
    · omega
end
end Go.Proofs.YtagijldedngcoaaGreatDoor

namespace Go.Proofs.YtagijldedngcoaaGreatDoor
open Go.WideShapes
end Go.Proofs.YtagijldedngcoaaGreatDoor

namespace Go.Proofs.YtagijldedngcoaaGreatDoor
open Go.RowKit Go.Maps Go.Sort Go.Shelf
end Go.Proofs.YtagijldedngcoaaGreatDoor

namespace Go.Proofs.YtagijldedngcoaaGreatDoor
open Go.RowKit Go.Lib Go.Maps Go.MapKept Go.ChangeMaps Go.Sort
open Go.WideElems (Fit)
theorem wpList_mapUpdate_run {ops : Array Oper} {rest : List Oper} {op : Oper} {a : Act} {w w1 : World} {Q : Exit → Act → World → Prop} (hgd : op.guard = none) (ty : TypeId) (x y z : Operand) (ho : op.op = .mapUpdate ty x y z)
    (p v u : Value) (hx : a.eval x = p) (hy : a.eval y = v) (hz : a.eval z = u) (hr : (Instr.mapUpdate ty p v u).run Tryz.prog w = .ok () w1)
    (h : wpList Tryz.prog ops Q rest (a.put op.dst undef) w1) : wpList Tryz.prog ops Q (op :: rest) a w :=
  wpList_plain hgd fun _ hK => by
    unfold Oper.wp execOp
    simp only [ho, hx, hy, hz, Sem.run_bind, Sem.run_pure, Result.andThen_ok, hr]
    exact hK _ _ h
section
variable {w w' : World} {b : Nat} {L : List OB}
end
section
variable {w : World} {av : Value} {X : List (RR × Value)} {r : Nat → Prop}
end
end Go.Proofs.YtagijldedngcoaaGreatDoor

namespace Go.Proofs.YtagijldedngcoaaGreatDoor
open Go.RowKit Go.Lib
def fz (u : Value) : List Value := [u]
theorem fz_len (u : Value) : (fz u).length = 1 := rfl
theorem fz_flat : ∀ us : List Value, us.flatMap fz = us
  | [] => rfl
  | u :: r => by rw [List.flatMap_cons, fz_flat r]; rfl
theorem Tryz.infoFz : (Tryz.prog.info? 189).map (fun i => (i.zero, i.size, i.bytes)) = some (some (.slice none 0 0), 1, 24) := by kernel_rfl
theorem Tryz.sizeFz : (Tryz.prog.info? 189).map (·.size) = some 1 := by kernel_rfl
theorem six_one (x : Zq.SX) : ∀ u ∈ Zq.six x, u.oneCell' = true := by intro u hu; simp [Zq.six] at hu; rcases hu with rfl | rfl | rfl | rfl | rfl | rfl <;> rfl
structure FM (B : Nat) (v : Value) (us : List Value) (all : List (List Zq.SX)) (w : World) : Prop where
  o : OW fz 1 189 B v us w
  l : us.length = all.length
  e : ∀ (i : Nat) (u : Value) (f : List Zq.SX), us[i]? = some u → all[i]? = some f → OW Zq.six 6 232 B u f w
  ap : ∀ (i j : Nat) (u u' : Value), us[i]? = some u → us[j]? = some u' → i ≠ j → ∀ b, u.ownBlock = some b → u'.ownBlock ≠ some b
section
variable {B : Nat} {v : Value} {us : List Value} {all : List (List Zq.SX)} {w w' : World}
theorem FM.nil (B : Nat) (w : World) : FM B (.slice none 0 0) [] [] w := ⟨OW.nil _ _ _ _ _, rfl, fun i u f h => by simp at h, fun i j u u' h => by simp at h⟩
theorem FM.kb (h : FM B v us all w) (hk : ∀ (i : Nat) (cs : Array Value) (T : TypeId), w.heap[i]? = some (.cells cs T (0, 0)) → B ≤ i → w'.heap[i]? = w.heap[i]?) : FM B v us all w' := by
  refine ⟨h.o.kb fun i hi => ?_, h.l, fun i u f hu hf => (h.e i u f hu hf).kb fun b hb => ?_, h.ap⟩
  · obtain ⟨cs, hc⟩ := h.o.typ i hi; exact hk i cs _ hc (h.o.lt i hi).1
  · obtain ⟨cs, hc⟩ := (h.e i u f hu hf).typ b hb; exact hk b cs _ hc ((h.e i u f hu hf).lt b hb).1
theorem FM.bel (h : FM B v us all w) (hb : Below w.heap.size w w') : FM B v us all w' := h.kb fun i _ _ hc _ => hb.block i (lt_of_block hc)
theorem FM.at_ (h : FM B v us all w) {p : Nat} {f : List Zq.SX} (hf : all[p]? = some f) : ∃ u g c, us[p]? = some u ∧ OW Zq.six 6 232 B u f w ∧ v = .slice (some ⟨g, 0, none⟩) us.length c ∧ w.cell? ⟨g, p, none⟩ = some u := by
  have hp : p < us.length := by rw [h.l]; exact (List.getElem?_eq_some_iff.1 hf).1
  have hu := List.getElem?_eq_getElem hp
  obtain ⟨a, c, e, _, h2 | ⟨g, o, ea, _, _, hG⟩⟩ := h.o.ls (r := fun _ => True) fz_len (fun _ _ => trivial)
  · rw [h2] at hp; simp at hp
  · have hc := hG p _ hu 0 _ rfl
    rcases h.o.own.2 with ⟨e', _⟩ | ⟨g', cap, cur, e', _⟩
    · rw [e, ea] at e'; simp at e'
    · rw [e] at e'
      simp only [Value.slice.injEq] at e'
      obtain ⟨e1, _, _⟩ := e'
      rw [ea] at e1
      simp only [Option.some.injEq, Addr.mk.injEq, and_true] at e1
      obtain ⟨rfl, rfl⟩ := e1
      refine ⟨_, g, c, hu, h.e p _ f hu hf, by rw [e, ea], ?_⟩
      simpa using hc
theorem FM.more (h : FM B v us all w) (hl : us.length ≤ 1000) (hB : B ≤ w.heap.size) :
    ∃ a c w', (Builtin.append_ #[230, 230] 230 #[v, .slice (some ⟨w.heap.size, 0, none⟩) 1 1]).run Tryz.prog (w.alloc (.cells #[.slice none 0 0] 189)) = .ok (.slice a (us.length + 1) c) w' ∧ FM B (.slice a (us.length + 1) c) (us ++ [.slice none 0 0]) (all ++ [[]]) w' ∧ (w.alloc (.cells #[.slice none 0 0] 189)).grownBy w' v.ownBlock := by
  have hal : Below w.heap.size w (w.alloc (.cells #[.slice none 0 0] 189)) := (Below.refl _ _).alloc (Nat.le_refl _) _
  have h' := h.bel hal
  obtain ⟨v', w1, h1, h2, h3, h4⟩ := OW.app (ST := 230) fz_len (by decide) (fun x hx u hu => by simp at hx; subst hx; simp [fz] at hu; subst hu; rfl) Tryz.underlying230 Tryz.infoFz rfl h'.o (LS.one (.slice none 0 0) 189 w fz 1 (fun _ => True) trivial) (by simp; omega) (by simp; omega) (by simp; omega)
  obtain ⟨a, c, e⟩ := h2.shp
  rw [List.length_append, List.length_singleton] at e
  subst e
  refine ⟨a, c, w1, h1, ⟨h2, by simp [h.l], fun i u f hu hf => ?_, fun i j u u' hu hu' hij b hb => ?_⟩, h3⟩
  · rcases snocGet hu with ⟨hi, hu⟩ | ⟨hi, rfl⟩
    · have hf' : all[i]? = some f := by
        rcases snocGet hf with ⟨_, hf⟩ | ⟨hi2, _⟩
        · exact hf
        · have := h.l; omega
      refine (h'.e i u f hu hf').kb fun b hb => h3.block b ((h'.e i u f hu hf').lt b hb).2 fun e => ?_
      obtain ⟨cs, hc⟩ := (h'.e i u f hu hf').typ b hb
      obtain ⟨cs', hc'⟩ := h'.o.typ b e.symm
      rw [hc] at hc'
      simp at hc'
    · have hf' : f = [] := by
        rcases snocGet hf with ⟨hi2, _⟩ | ⟨_, hf⟩
        · have := h.l; omega
        · exact hf
      rw [hf']
      exact OW.nil _ _ _ _ _
  · rcases snocGet hu with ⟨_, hu⟩ | ⟨_, rfl⟩
    · rcases snocGet hu' with ⟨_, hu'⟩ | ⟨_, rfl⟩
      · exact h.ap i j u u' hu hu' hij b hb
      · simp [Value.ownBlock]
    · simp [Value.ownBlock] at hb
theorem FM.put (h : FM B v us all w) {p : Nat} {f : List Zq.SX} {u : Value} (hf : all[p]? = some f) (hu : us[p]? = some u) (x : Zq.SX) (hl : f.length ≤ 1000) (hB : B ≤ w.heap.size) {g c : Nat} (hv : v = .slice (some ⟨g, 0, none⟩) us.length c) :
    ∃ u' w1 w2, (Builtin.append_ #[189, 189] 189 #[u, .slice (some ⟨w.heap.size, 0, none⟩) 1 1]).run Tryz.prog (w.alloc (.cells #[.int .i64 x.k, .int .i64 x.m, .int .i64 x.i, .int .i64 x.long, .string x.id, .string x.data] 232)) = .ok u' w1 ∧ (∃ a n c, u' = .slice a n c) ∧ (Instr.storeAt 189 (.pointer (some ⟨g, p, none⟩)) u').run Tryz.prog w1 = .ok () w2 ∧ FM B v (us.set p u') (all.set p (f ++ [x])) w2 ∧ (∀ i, i < w.heap.size → (∀ cs, w.heap[i]? ≠ some (.cells cs 232 (0, 0))) → i ≠ g → w2.heap[i]? = w.heap[i]?) ∧ (w.alloc (.cells #[.int .i64 x.k, .int .i64 x.m, .int .i64 x.i, .int .i64 x.long, .string x.id, .string x.data] 232)).grownBy w1 u.ownBlock ∧ w1.grownBy w2 (some g) := by
  obtain ⟨Z, hZ⟩ : ∃ Z, Z = w.alloc (.cells #[.int .i64 x.k, .int .i64 x.m, .int .i64 x.i, .int .i64 x.long, .string x.id, .string x.data] 232) := ⟨_, rfl⟩
  have hal : Below w.heap.size w Z := by rw [hZ]; exact (Below.refl _ _).alloc (Nat.le_refl _) _
  have hZs : Z.heap.size = w.heap.size + 1 := by rw [hZ]; simp
  have h' := h.bel hal
  have hus := h'.e p u f hu hf
  have hpl : p < us.length := (List.getElem?_eq_some_iff.1 hu).1
  have hpa : p < all.length := (List.getElem?_eq_some_iff.1 hf).1
  have hone : LS Zq.six 6 (fun _ => True) Z (.slice (some ⟨w.heap.size, 0, none⟩) 1 1) [x] := by rw [hZ]; exact LS.one x 232 w Zq.six 6 (fun _ => True) trivial
  obtain ⟨u', w1, h1, h2, h3, h5⟩ := OW.app (ST := 189) six_len (by decide) (fun y _ => six_one y) Tryz.underlying189 Zq.Tryz.infoSh rfl hus hone (by simp; omega) (by simp; omega) (by omega)
  have hsh : ∃ a n c, u' = .slice a n c := by obtain ⟨a, c, e⟩ := h2.shp; exact ⟨a, _, c, e⟩
  have hgb : v.ownBlock = some g := by rw [hv]; rfl
  have hng : ∀ b, u.ownBlock = some b → b ≠ g := fun b hb e => by
    obtain ⟨cs, hc⟩ := hus.typ b hb
    obtain ⟨cs', hc'⟩ := h'.o.typ g hgb
    rw [e, hc'] at hc
    simp at hc
  have hgl := (h'.o.lt g hgb).2
  have ho1 : OW fz 1 189 B v us w1 := h'.o.kb fun i hi => h3.block i (h'.o.lt i hi).2 fun e => by
    rw [hgb] at hi
    cases hi
    exact hng g e.symm rfl
  have hng' : ∀ b, u'.ownBlock = some b → b ≠ g := fun b hb e => by
    obtain ⟨cs, hc⟩ := h2.typ b hb
    obtain ⟨cs', hc'⟩ := ho1.typ g hgb
    rw [e, hc'] at hc
    simp at hc
  obtain ⟨cs1, hc1⟩ := ho1.typ g hgb
  have hst := (by rw [hv] at ho1; exact ho1.own : w1.ownsRow B 189 1 (.slice (some ⟨g, 0, none⟩) us.length c) us.length (us.flatMap fz)).stored p u'
  have hcs : p < cs1.size := by
    rcases ho1.own.2 with ⟨e, _⟩ | ⟨g2, cap2, cur, e, _, hg2, hn2, _, hs2, ht2⟩
    · rw [hv] at e; simp at e
    · rw [hv] at e
      simp only [Value.slice.injEq, Option.some.injEq, Addr.mk.injEq, and_true] at e
      obtain ⟨rfl, _, rfl⟩ := e
      rw [hc1] at hg2
      simp only [Option.some.injEq, Obj.cells.injEq] at hg2
      rw [hg2.1]
      omega
  have hrun := store1_run (t := 189) hc1 (j := p) (v := u') hcs Tryz.sizeFz hsh
  refine ⟨u', w1, w1.setCell ⟨g, p, none⟩ u', by rw [← hZ]; exact h1, hsh, hrun, ⟨?_, by simp [h.l], ?_, ?_⟩, ?_, by rw [← hZ]; exact h3, hst.2⟩
  · refine ⟨?_⟩
    have := hst.1
    rw [fz_flat] at this
    rw [fz_flat, List.length_set, hv]
    exact this
  · intro i y f' hy hf'
    rw [List.getElem?_set] at hy hf'
    by_cases hip : p = i
    · subst hip
      rw [if_pos rfl, if_pos hpl] at hy
      rw [if_pos rfl, if_pos hpa] at hf'
      cases hy
      cases hf'
      exact h2.kb fun b hb => hst.2.block b (h2.lt b hb).2 (by intro e; cases e; exact hng' g hb rfl)
    · rw [if_neg hip] at hy hf'
      have k1 := h'.e i y f' hy hf'
      have k2 : OW Zq.six 6 232 B y f' w1 := k1.kb fun b hb => h3.block b (k1.lt b hb).2 fun e => h.ap i p y u hy hu (Ne.symm hip) b hb e.symm
      refine k2.kb fun b hb => hst.2.block b (k2.lt b hb).2 fun e => ?_
      cases e
      obtain ⟨cs, hc⟩ := k2.typ g hb
      rw [hc1] at hc
      simp at hc
  · intro i j y y' hy hy' hij b hb
    rw [List.getElem?_set] at hy hy'
    by_cases hip : p = i
    · subst hip
      rw [if_pos rfl, if_pos hpl] at hy
      cases hy
      rw [if_neg hij] at hy'
      rcases h5 with h5 | h5
      · rw [h5] at hb; exact h.ap p j u y' hu hy' hij b hb
      · rw [h5] at hb
        cases hb
        intro e
        have hfj : ∃ f', all[j]? = some f' := ⟨_, List.getElem?_eq_getElem (by rw [← h.l]; exact (List.getElem?_eq_some_iff.1 hy').1)⟩
        obtain ⟨f', hfj⟩ := hfj
        have := ((h'.e j y' f' hy' hfj).lt _ e).2
        omega
    · rw [if_neg hip] at hy
      by_cases hjp : p = j
      · subst hjp
        rw [if_pos rfl, if_pos hpl] at hy'
        cases hy'
        intro e
        rcases h5 with h5 | h5
        · rw [h5] at e; exact h.ap i p y u hy hu hij b hb e
        · rw [h5] at e
          cases e
          obtain ⟨f', hfi⟩ : ∃ f', all[i]? = some f' := ⟨_, List.getElem?_eq_getElem (by rw [← h.l]; exact (List.getElem?_eq_some_iff.1 hy).1)⟩
          have := ((h'.e i y f' hy hfi).lt _ hb).2
          omega
      · rw [if_neg hjp] at hy'
        exact h.ap i j y y' hy hy' hij b hb
  · intro i hi hno hig
    have e1 : Z.heap[i]? = w.heap[i]? := hal.block i hi
    have e2 : w1.heap[i]? = Z.heap[i]? := h3.block i (by omega) fun e => by
      obtain ⟨cs, hc⟩ := hus.typ i e.symm
      rw [e1] at hc
      exact hno cs hc
    have := h3.size
    exact (hst.2.block i (by omega) (by intro e; cases e; exact hig rfl)).trans (e2.trans e1)
end
end Go.Proofs.YtagijldedngcoaaGreatDoor
