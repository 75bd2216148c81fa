/-
  Contracts of the program and of the statements (part 6 of 13).
-/
import Derived.Test.YtiecoplfiahpnaaGreatFc5

namespace Go.Proofs.YtiecoplfiahpnaaGreat
open Go.RowKit Go.Lib Go.Maps
/-- The types of what a job keeps. -/
def okT : List TypeId := [48, 113, 126, 1, 65, 102, 50, 104, 116, 9]
/-- Blocks of r are of these types. -/
def NT (r : Nat → Prop) (W : World) : Prop := ∀ i, r i → ∃ cs T, W.heap[i]? = some (.cells cs T (0, 0)) ∧ T ∈ okT
theorem NT.keep {r : Nat → Prop} {W W' : World} (h : NT r W) (hk : ∀ i, r i → i < W.heap.size → W'.heap[i]? = W.heap[i]?) : NT r W' := fun i hi => by
  obtain ⟨cs, T, h1, h2⟩ := h i hi
  exact ⟨cs, T, (hk i hi (lt_of_block h1)).trans h1, h2⟩
theorem NT.bel {r : Nat → Prop} {W W' : World} (h : NT r W) (hb : Below W.heap.size W W') : NT r W' := h.keep fun i _ hi => hb.block i hi
section
variable {r r0 p : Nat → Prop} {w w' : World} {b : Nat} {st k s c N cc : Int} {n d dd : ByteArray} {go ids tx u v : Value} {op : Bool} {l : List QT}
set_option maxRecDepth 100000 in
set_option maxHeartbeats 3200000 in
theorem all_any (hJ : JB w b true st k n d go c N ids tx s) (hl : LS q4 4 r0 w v l) (hn : l.length ≤ 1000000) (fn : Fn) (fi ca : Array Value) {Q : World → Prop}
    (HC : ∀ W a1 a2 a3 a4 a5 rv r, CL r W b l [] a1 a2 a3 a4 a5 (.func fn fi ca) rv (.slice none 0 0) → JB W b true st k n d go c N ids tx s → Below w.heap.size w W → (∀ i, r i → w.heap.size ≤ i) → w.heap.size ≤ a4 → a4 < W.heap.size → NT r W → Calls Tryz.prog 121 #[.pointer (some ⟨a4, 0, none⟩), .pointer (some ⟨a3, 0, none⟩), .pointer (some ⟨a1, 0, none⟩), .pointer (some ⟨a5, 0, none⟩), .pointer (some ⟨a2, 0, none⟩)] W fun e w' => e = .returned (.tuple #[]) ∧ Q w') :
    Calls Tryz.prog 96 #[.pointer (some ⟨b, 0, none⟩), v, .func fn fi ca] w fun e w' => e = .returned (.tuple #[]) ∧ Q w' := by
  obtain ⟨U, hU⟩ : ∃ U, U = (w.alloc (.cells #[.pointer (some ⟨b, 0, none⟩)] 48)).alloc (.cells #[.func fn fi ca] 113) := ⟨_, rfl⟩
  obtain ⟨A, hA⟩ : ∃ A, A = w.heap.size := ⟨_, rfl⟩
  have hBU : Below w.heap.size w U := by rw [hU]; exact ((Below.refl _ _).alloc (Nat.le_refl _) _).alloc (by simp) _
  have hJU := hJ.bel hBU
  have hszU : U.heap.size = A + 2 := by rw [hU, hA]; simp
  have h1 : U.heap[A]? = some (.cells #[.pointer (some ⟨b, 0, none⟩)] 48 (0, 0)) := by rw [hU, hA, Below.heap_alloc _ _ _ (by simp)]; exact heap_alloc_new w _
  have h2 : U.heap[A + 1]? = some (.cells #[.func fn fi ca] 113 (0, 0)) := by
    rw [hU, hA]
    have := heap_alloc_new (w.alloc (.cells #[.pointer (some ⟨b, 0, none⟩)] 48)) (.cells #[.func fn fi ca] 113 (0, 0))
    simpa using this
  have y1 : U.cell? ⟨A, 0, none⟩ = some (.pointer (some ⟨b, 0, none⟩)) := by simp [World.cell?, h1]
  have HO := hide (isOpen_any hJU)
  have HQ := hide (cloneQ (hl.bel hBU) hn)
  have hbA : b < A := by rw [hA]; exact hJ.lt
  have HF := hide (And.intro h1 (And.intro h2 (And.intro hszU (And.intro hJU (And.intro hBU (And.intro hbA hA))))))
  have HU := hide hU
  have HA := hide hA
  have HCC := hide HC
  have hmf : ∀ (fn : Fn) (first cap : Array Value) (w : World), (Instr.makeFunc fn first cap).run Tryz.prog w = .ok (.func fn first cap) w := fun _ _ _ _ => rfl
  clear hl hJU hszU h1 h2 hBU hU hA HC hJ hbA
  go_enter Tryz.func96, Tryz.ntmps96
  go_upto_region 1 with fail
  rw [← HU.out, ← HA.out]
  go_wp2_with (go_at_call 86; refine HO.out.mono ?_; rintro e w1 ⟨rfl, rfl⟩)
  refine HQ.out.mono ?_
  rintro e w2 ⟨rv, rfl, hO2, hB2⟩
  obtain ⟨h1, h2, hszU, hJU, hBU, hbA, hA⟩ := HF.out
  obtain ⟨ar, cr, hrv⟩ := hO2.shp
  subst hrv
  obtain ⟨g, hg⟩ : ∃ g, g = w2.heap.size := ⟨_, rfl⟩
  obtain ⟨W, hW⟩ : ∃ W, W = ((w2.alloc (.cells #[.slice ar l.length cr] 126)).alloc (.cells #[.slice none 0 0] 50)).alloc (.cells #[.func (.func 121) #[] #[.pointer (some ⟨g + 1, 0, none⟩), .pointer (some ⟨g, 0, none⟩), .pointer (some ⟨A, 0, none⟩), .pointer (some ⟨g + 2, 0, none⟩), .pointer (some ⟨A + 1, 0, none⟩)]] 1) := ⟨_, rfl⟩
  have hBW : Below w2.heap.size w2 W := by rw [hW]; exact (((Below.refl _ _).alloc (Nat.le_refl _) _).alloc (by simp) _).alloc (by simp; omega) _
  have hszW : W.heap.size = g + 3 := by rw [hW, hg]; simp
  have h3 : W.heap[g]? = some (.cells #[.slice ar l.length cr] 126 (0, 0)) := by
    rw [hW, hg, Below.heap_alloc _ _ _ (by simp; omega), Below.heap_alloc _ _ _ (by simp)]
    exact heap_alloc_new w2 _
  have h4 : W.heap[g + 1]? = some (.cells #[.slice none 0 0] 50 (0, 0)) := by
    rw [hW, hg, Below.heap_alloc _ _ _ (by simp)]
    have := heap_alloc_new (w2.alloc (.cells #[.slice ar l.length cr] 126)) (.cells #[.slice none 0 0] 50 (0, 0))
    simpa using this
  have h5 : W.heap[g + 2]? = some (.cells #[.func (.func 121) #[] #[.pointer (some ⟨g + 1, 0, none⟩), .pointer (some ⟨g, 0, none⟩), .pointer (some ⟨A, 0, none⟩), .pointer (some ⟨g + 2, 0, none⟩), .pointer (some ⟨A + 1, 0, none⟩)]] 1 (0, 0)) := by
    rw [hW]
    have := heap_alloc_new ((w2.alloc (.cells #[.slice ar l.length cr] 126)).alloc (.cells #[.slice none 0 0] 50)) (.cells #[.func (.func 121) #[] #[.pointer (some ⟨g + 1, 0, none⟩), .pointer (some ⟨g, 0, none⟩), .pointer (some ⟨A, 0, none⟩), .pointer (some ⟨g + 2, 0, none⟩), .pointer (some ⟨A + 1, 0, none⟩)]] 1 (0, 0))
    simpa [hg] using this
  have hBUW : Below w1.heap.size w1 W := hB2.trans (hBW.mono hB2.size)
  have hB2s := hB2.size
  have hO2l := hO2.lt
  have hCL : CL (fun i => i = A ∨ i = A + 1 ∨ i = g ∨ i = g + 2 ∨ (Value.slice ar l.length cr).ownBlock = some i) W b l [] A (A + 1) g (g + 1) (g + 2) (.func fn fi ca) (.slice ar l.length cr) (.slice none 0 0) := by
    refine ⟨(hBUW.block A (by omega)).trans h1, (hBUW.block (A + 1) (by omega)).trans h2, h3, h4, h5, ((hO2.keep hBW).ls q4_len fun i hi => .inr (.inr (.inr (.inr hi)))), OW.nil _ _ _ _ _, (fun x hx => by simp at hx), .inl rfl, .inr (.inl rfl), .inr (.inr (.inl rfl)), .inr (.inr (.inr (.inl rfl))), ?_, ?_, (fun i e => by simp [Value.ownBlock] at e), ?_⟩
    · rintro (e | e | e | e | e)
      · omega
      · omega
      · omega
      · omega
      · have := (hO2l _ e).1; omega
    · rintro (e | e | e | e | e)
      · omega
      · omega
      · omega
      · omega
      · have := (hO2l _ e).2; omega
    · rintro i (e | e | e | e | e)
      · omega
      · omega
      · omega
      · omega
      · have := (hO2l _ e).2; omega
  have HN := hide (HCC.out W A (A + 1) g (g + 1) (g + 2) _ _ hCL (hJU.bel hBUW) (hBU.trans (hBUW.mono hBU.size)) (by
    rintro i (e | e | e | e | e)
    · omega
    · omega
    · omega
    · omega
    · have := (hO2l _ e).1; omega) (by omega) (by omega) (by
    rintro i (e | e | e | e | e)
    · rw [e]; exact ⟨_, _, (hBUW.block A (by omega)).trans h1, by simp [okT]⟩
    · rw [e]; exact ⟨_, _, (hBUW.block (A + 1) (by omega)).trans h2, by simp [okT]⟩
    · rw [e]; exact ⟨_, _, h3, by simp [okT]⟩
    · rw [e]; exact ⟨_, _, h5, by simp [okT]⟩
    · obtain ⟨cs, hc⟩ := (hO2.keep hBW).typ i e
      exact ⟨_, _, hc, by simp [okT]⟩))
  have y5 : W.cell? ⟨g + 2, 0, none⟩ = some (.func (.func 121) #[] #[.pointer (some ⟨g + 1, 0, none⟩), .pointer (some ⟨g, 0, none⟩), .pointer (some ⟨A, 0, none⟩), .pointer (some ⟨g + 2, 0, none⟩), .pointer (some ⟨A + 1, 0, none⟩)]) := by simp [World.cell?, h5]
  have HW := hide hW
  have Hg := hide hg
  clear hCL h1 h2 hszU hJU hBU hbA hA h3 h4 h5 hBUW hB2s hO2l hO2 hB2 hBW hszW hW hg HF
  generalize l.length = ln at *
  go_upto_region 6 with fail
  rw [← Hg.out, ← HW.out]
  go_wp2_with fail
  refine HN.out.mono ?_
  rintro e w7 ⟨rfl, hQ⟩
  have HQ2 := hide hQ
  clear hQ
  go_wp2
  go_end0
  exact ⟨rfl, HQ2.out⟩
end
end Go.Proofs.YtiecoplfiahpnaaGreat

namespace Go.Proofs.YtiecoplfiahpnaaGreat
open Go.RowKit Go.Lib Go.Maps
section
variable {r r0 p P : Nat → Prop} {w w' : World} {b a1 a2 a3 a4 a5 i1 : Nat} {st k s c N cc : Int} {n d dd : ByteArray} {go ids tx u v tv rv av : Value} {op : Bool} {l : List QT} {X : List (RR × Value)} {A : List RR}
theorem CL.mono {r' : Nat → Prop} (h : CL r w b l X a1 a2 a3 a4 a5 tv rv av) (hr : ∀ i, r i → r' i) (hb : ¬ r' b) (h4 : ¬ r' a4) (ho : ∀ i, av.ownBlock = some i → ¬ r' i) (hl : ∀ i, r' i → i < w.heap.size) : CL r' w b l X a1 a2 a3 a4 a5 tv rv av :=
  ⟨h.h1, h.h2, h.h3, h.h4, h.h5, h.q.mono hr, h.o, fun x hx => (h.ns x hx).mono hr, hr _ h.r1, hr _ h.r2, hr _ h.r3, hr _ h.r5, hb, h4, ho, hl⟩
end
end Go.Proofs.YtiecoplfiahpnaaGreat

namespace Go.Proofs.YtiecoplfiahpnaaGreat
open Go.RowKit Go.Lib Go.Maps
section
variable {r r0 p P : Nat → Prop} {w w' : World} {b a1 a2 a3 a4 a5 i1 : Nat} {st k s c N : Int} {n d : ByteArray} {go ids tx u v tv rv av : Value} {op : Bool} {l : List QT} {X : List (RR × Value)} {A : List RR} {ll : List ByteArray}
/-- What the job's Result tells: noughts, till it is over. -/
def RC (l : List QT) (A : List RR) : Int := if A.length < l.length then 0 else resC A
def RN (l : List QT) (A : List RR) : Nat := if A.length < l.length then 0 else resN A
def RI (l : List QT) (A : List RR) : List ByteArray := if A.length < l.length then [] else resI A
def RT (l : List QT) (A : List RR) : List ByteArray := if A.length < l.length then [] else resT A
theorem RN_le (l : List QT) (A : List RR) : RN l A ≤ A.length := by unfold RN; have := resN_le A; split <;> omega
end
end Go.Proofs.YtiecoplfiahpnaaGreat

namespace Go.Proofs.YtiecoplfiahpnaaGreat
open Go.RowKit Go.Lib Go.Maps
section
variable {w w1 : World} {v : Value} {bs : List Nat} {i b mb X : Nat} {s s' : SS} {st k C : Int} {n d D : ByteArray} {l : List ByteArray} {p : Nat → Prop}
theorem PX.far (h : PX w b mb s) {g j : Nat} {q : Option Addr} (hy : w.cell? ⟨g, j, none⟩ = some (.pointer q)) : ¬ two b mb g := by
  have h' : PS w b mb s.q s.f s.off s.m s.L := h
  rintro (e | e)
  · subst e
    simp only [World.cell?, h'.blk] at hy
    match j with
    | 0 => simp at hy
    | 1 => simp at hy
    | 2 => simp at hy
    | 3 => simp at hy
    | 4 => simp at hy
    | 5 => simp at hy
    | _ + 6 => simp at hy
  · subst e
    obtain ⟨cs, t, fr, hg⟩ : ∃ cs t fr, w.heap[g]? = some (.cells cs t fr) := by
      rw [World.cell?] at hy
      split at hy
      · exact ⟨_, _, _, by assumption⟩
      · cases hy
    exact h'.map.notCells hg
set_option maxRecDepth 100000 in
set_option maxHeartbeats 3200000 in
theorem answer_in (hP : RP w v bs) (hb : bs[i]? = some b) (hD : PX w b mb s) (k : Int) (n d : ByteArray) (hn : n.size ≤ maxLen) (hd : d.size ≤ maxLen) (hl : s.L.length ≤ 1000000) (hm0 : 0 ≤ s.m) (hm1 : s.m ≤ 1000000000000) (hf : s.f ≤ 1048576) :
    Calls Tryz.prog 76 #[v, .agg #[.int .i64 (i : Int), .int .i64 k, .string n, .string d]] w fun e w' => ∃ v, e = .returned v ∧ AR w' w.heap.size v (doR s k n d) ∧ PX w' b mb (doS s k n d) ∧ Gs (two b mb) w w' := by
  obtain ⟨a, c, rfl, h⟩ := hP
  obtain ⟨g, o, rfl, hg, hC⟩ := h.resolve_left (by intro e; rw [e] at hb; simp at hb)
  have hib : i < bs.length := (List.getElem?_eq_some_iff.1 hb).1
  have y0 := hC i b hb
  obtain ⟨N, hN⟩ : ∃ N, N = bs.length := ⟨_, rfl⟩
  rw [← hN] at hib ⊢
  obtain ⟨U, hU⟩ : ∃ U, U = (w.alloc (.cells #[.int .i64 (i : Int), .int .i64 k, .string n, .string d] 65)).alloc (.cells #[.int .i64 0, .string ⟨#[]⟩, .slice none 0 0] 72) := ⟨_, rfl⟩
  obtain ⟨X, hX⟩ : ∃ X, X = w.heap.size := ⟨_, rfl⟩
  have hBU : Below w.heap.size w U := by rw [hU]; exact ((Below.refl _ _).alloc (Nat.le_refl _) _).alloc (by simp) _
  have hq : QR U X (i : Int) k n d := by rw [hU, hX]; exact QR.new _ _ _ _ _
  have hq' : QR U.drew X (i : Int) k n d := ⟨hq.q, hq.r⟩
  have hszU : U.heap.size = X + 2 := by rw [hU, hX]; simp
  have z0 := (hBU.cell (p := ⟨g, o + i, none⟩) hg).trans y0
  have z0' : U.drew.cell? ⟨g, o + i, none⟩ = some (.pointer (some ⟨b, 0, none⟩)) := z0
  have x0 := hq.c0
  have v0 := hq'.c0
  have v1 := hq'.c1
  have v2 := hq'.c2
  have v3 := hq'.c3
  have HD : Hid _ := hide (do_any (w := U.drew) ((hD.bel hBU).bel ((Below.refl _ _).drew)) (i : Int) k n d hn hd hl hm0 hm1 hf)
  have hblt := PS.lt hD
  have hmlt := PS.mlt hD
  have hfar := hD.far y0
  have HGB : Hid (¬ two b mb g ∧ g ≠ X + 1 ∧ g < U.drew.heap.size) := by
    refine ⟨hfar, by omega, ?_⟩
    show g < U.heap.size
    omega
  have HBX : Hid (¬ two b mb X ∧ ¬ two b mb (X + 1)) := by show (¬ (X = b ∨ X = mb)) ∧ ¬ (X + 1 = b ∨ X + 1 = mb); omega
  have HB : Hid (Gs (two b mb) w U.drew) := (Gs.of_below _ hBU).trans ((Gs.refl _ _).bel ((Below.refl _ _).drew))
  have HU := hide hU
  have HX := hide hX
  have HQ := hide hq'
  have HSZ : Hid (U.drew.heap.size = X + 2) := hszU
  have b1 : (i : Int) < (N : Int) := by omega
  have b0 : (0 : Int) ≤ (i : Int) := by omega
  have HWX : Hid (w.heap.size ≤ X) := by show w.heap.size ≤ X; omega
  obtain ⟨C, D, l, hr⟩ : ∃ C D l, doR s k n d = ⟨C, D, l⟩ := ⟨_, _, _, rfl⟩
  rw [hr] at HD ⊢
  obtain ⟨s', hs'⟩ : ∃ s', s' = doS s k n d := ⟨_, rfl⟩
  rw [← hs'] at HD ⊢
  clear hq hq' hBU hC h hb hN hU hX y0 hD hszU hblt hmlt hfar hr hs'
  go_enter Tryz.func76, Tryz.ntmps76
  go_upto_region 1 with fail
  rw [← HU.out, ← HX.out]
  go_upto_region 3 with fail
  go_region_held3 (fun w' => w'.cell? ⟨X, 0, none⟩ = some (.int .i64 (i : Int)) ∧ w'.cell? ⟨X, 1, none⟩ = some (.int .i64 k) ∧ w'.cell? ⟨X, 2, none⟩ = some (.string n) ∧ w'.cell? ⟨X, 3, none⟩ = some (.string d) ∧ w'.cell? ⟨g, o + i, none⟩ = some (.pointer (some ⟨b, 0, none⟩))) (first | assumption | exact ⟨by assumption, by assumption, by assumption, by assumption, by assumption⟩ | exact ⟨v0, v1, v2, v3, z0'⟩ | exact HS5.out)
    (first | (go_at_call 93; refine HD.out.mono ?_; rintro e w1 ⟨u, rfl, hA, hD1, hG1⟩; obtain ⟨a1, c1, rfl, hT1⟩ := hA.shp; have hQ1 := HQ.out.gs hG1 HBX.out.1 HBX.out.2; have t0 := hQ1.c0; have t1 := hQ1.c1; have t2 := hQ1.c2; have t3 := hQ1.c3; have hset := set3 hQ1.r (.int .i64 C) (.string D) (.slice a1 l.length c1); have p1 := hset.1.1; have p2 := hset.1.2; have p3 := hset.2.1.1; have p4 := hset.2.1.2; have p5 := hset.2.2.1.1; have p6 := hset.2.2.1.2; have tz : w1.cell? ⟨g, o + i, none⟩ = some (.pointer (some ⟨b, 0, none⟩)) := (by simp only [World.cell?, hG1.block g HGB.out.2.2 HGB.out.1] : w1.cell? ⟨g, o + i, none⟩ = U.drew.cell? ⟨g, o + i, none⟩).trans z0'; have HS5 : Hid ((laid3 w1 (X + 1) (.int .i64 C) (.string D) (.slice a1 l.length c1)).cell? ⟨X, 0, none⟩ = some (.int .i64 (i : Int)) ∧ (laid3 w1 (X + 1) (.int .i64 C) (.string D) (.slice a1 l.length c1)).cell? ⟨X, 1, none⟩ = some (.int .i64 k) ∧ (laid3 w1 (X + 1) (.int .i64 C) (.string D) (.slice a1 l.length c1)).cell? ⟨X, 2, none⟩ = some (.string n) ∧ (laid3 w1 (X + 1) (.int .i64 C) (.string D) (.slice a1 l.length c1)).cell? ⟨X, 3, none⟩ = some (.string d) ∧ (laid3 w1 (X + 1) (.int .i64 C) (.string D) (.slice a1 l.length c1)).cell? ⟨g, o + i, none⟩ = some (.pointer (some ⟨b, 0, none⟩))) := ⟨(laid3_cell (by omega) _ _ _).trans t0, (laid3_cell (by omega) _ _ _).trans t1, (laid3_cell (by omega) _ _ _).trans t2, (laid3_cell (by omega) _ _ _).trans t3, (laid3_cell HGB.out.2.1 _ _ _).trans tz⟩; have hf4 := hset.2.2.2; have HF : Hid _ := hide (And.intro hT1 (And.intro hD1 (And.intro hG1 hQ1))); clear hT1 hD1 hG1 hQ1 hset))
  obtain ⟨hT1, hD1, hG1, hQ1⟩ := HF.out
  have HE : Hid (∃ v', Ending.returned (.agg #[.int .i64 C, .string D, .slice a1 l.length c1]) = .returned v' ∧ AR (laid3 w1 (X + 1) (.int .i64 C) (.string D) (.slice a1 l.length c1)) w.heap.size v' ⟨C, D, l⟩ ∧ PX (laid3 w1 (X + 1) (.int .i64 C) (.string D) (.slice a1 l.length c1)) b mb s' ∧ Gs (two b mb) w (laid3 w1 (X + 1) (.int .i64 C) (.string D) (.slice a1 l.length c1))) := by
    have hsz := HSZ.out
    rw [hsz] at hT1
    refine ⟨_, rfl, ⟨_, rfl, ?_⟩, PS.laid hD1 (fun e => HBX.out.2 (.inl e.symm)) (fun e => HBX.out.2 (.inr e.symm)) _ _ _, (HB.out.trans hG1).laid (by have := HWX.out; omega) _ _ _⟩
    exact (hT1.kb fun i hi => laid3_other _ _ _ (by have := (hT1.lt i hi).1; omega)).low (by have := HWX.out; omega)
  have r0 : (((w1.setCell ⟨X + 1, 0, none⟩ (.int .i64 C)).setCell ⟨X + 1, 1, none⟩ (.string D)).setCell ⟨X + 1, 2, none⟩ (.slice a1 l.length c1)).cell? ⟨X + 1, 0, none⟩ = some (.int .i64 C) := by simp [World.cell?, hf4]
  have r1 : (((w1.setCell ⟨X + 1, 0, none⟩ (.int .i64 C)).setCell ⟨X + 1, 1, none⟩ (.string D)).setCell ⟨X + 1, 2, none⟩ (.slice a1 l.length c1)).cell? ⟨X + 1, 1, none⟩ = some (.string D) := by simp [World.cell?, hf4]
  have r2 : (((w1.setCell ⟨X + 1, 0, none⟩ (.int .i64 C)).setCell ⟨X + 1, 1, none⟩ (.string D)).setCell ⟨X + 1, 2, none⟩ (.slice a1 l.length c1)).cell? ⟨X + 1, 2, none⟩ = some (.slice a1 l.length c1) := by simp [World.cell?, hf4]
  clear hT1 hD1 hG1 hQ1 HF HS5 hf4 p1 p2 p3 p4 p5 p6 t0 t1 t2 t3 tz v0 v1 v2 v3
  go_wp2
  exact bodyPost_ret (v := .agg #[.int .i64 C, .string D, .slice a1 l.length c1]) (by simp [results, Tryz.results76, go_sem, r0, r1, r2]) rfl HE.out
set_option maxRecDepth 100000 in
set_option maxHeartbeats 3200000 in
theorem answer_out (hP : RP w v bs) (st k : Int) (n d : ByteArray) (hst : st < 0 ∨ (bs.length : Int) ≤ st) :
    Calls Tryz.prog 76 #[v, .agg #[.int .i64 st, .int .i64 k, .string n, .string d]] w fun e w' => e = .returned (.agg #[.int .i64 1, .string ⟨#[]⟩, .slice none 0 0]) ∧ Below w.heap.size w w' := by
  obtain ⟨a, c, rfl, _⟩ := hP
  obtain ⟨N, hN⟩ : ∃ N, N = bs.length := ⟨_, rfl⟩
  rw [← hN] at hst ⊢
  clear hN
  by_cases h0 : st < 0
  · go_enter Tryz.func76, Tryz.ntmps76
    go_wp2
    exact bodyPost_ret (v := .agg #[.int .i64 1, .string ⟨#[]⟩, .slice none 0 0]) (by simp [results, Tryz.results76, go_sem]) rfl ⟨rfl, ((Below.refl _ _).alloc (Nat.le_refl _) _).alloc (by simp) _⟩
  · have h1 : (N : Int) ≤ st := by omega
    have h2 : (0 : Int) ≤ st := by omega
    go_enter Tryz.func76, Tryz.ntmps76
    go_wp2
    exact bodyPost_ret (v := .agg #[.int .i64 1, .string ⟨#[]⟩, .slice none 0 0]) (by simp [results, Tryz.results76, go_sem]) rfl ⟨rfl, ((Below.refl _ _).alloc (Nat.le_refl _) _).alloc (by simp) _⟩
end
end Go.Proofs.YtiecoplfiahpnaaGreat

namespace Go.Proofs.YtiecoplfiahpnaaGreat
open Go.RowKit Go.Lib Go.Maps

/-- The answer of stores. -/
def yR (S : List SS) (q : QT) : RR := if 0 ≤ q.st then (match S[q.st.toNat]? with | some s => doR s q.k q.n q.d | none => ⟨1, ⟨#[]⟩, []⟩) else ⟨1, ⟨#[]⟩, []⟩
def yS (S : List SS) (q : QT) : List SS := if 0 ≤ q.st then (match S[q.st.toNat]? with | some s => S.set q.st.toNat (doS s q.k q.n q.d) | none => S) else S
def yRs : List SS → List QT → List RR
  | _, [] => []
  | S, q :: r => yR S q :: yRs (yS S q) r
def ySs : List SS → List QT → List SS
  | S, [] => S
  | S, q :: r => ySs (yS S q) r
theorem yRs_len : ∀ (l : List QT) (S : List SS), (yRs S l).length = l.length
  | [], _ => rfl
  | q :: r, S => by rw [yRs, List.length_cons, yRs_len r, List.length_cons]
theorem yRs_snoc : ∀ (l : List QT) (S : List SS) (q : QT), yRs S (l ++ [q]) = yRs S l ++ [yR (ySs S l) q]
  | [], S, q => rfl
  | p :: r, S, q => by rw [List.cons_append, yRs, yRs, ySs, yRs_snoc r]; rfl
theorem ySs_snoc : ∀ (l : List QT) (S : List SS) (q : QT), ySs S (l ++ [q]) = yS (ySs S l) q
  | [], S, q => rfl
  | p :: r, S, q => by rw [List.cons_append, ySs, ySs, ySs_snoc r]
theorem yS_len (S : List SS) (q : QT) : (yS S q).length = S.length := by
  rw [yS]
  split
  · split
    · simp
    · rfl
  · rfl
theorem ySs_len : ∀ (l : List QT) (S : List SS), (ySs S l).length = S.length
  | [], _ => rfl
  | q :: r, S => by rw [ySs, ySs_len r, yS_len]
/-- What a store may be. -/
structure GO (t : Nat) (s : SS) : Prop where
  ris : Ris s.L
  sm : ∀ p ∈ s.L, p.n.size ≤ 96 ∧ p.d.size ≤ 131072
  len : s.L.length ≤ t
  m0 : 0 ≤ s.m
  mt : s.m ≤ t
  f : s.f ≤ 1048576
def GD (t : Nat) (S : List SS) : Prop := ∀ s ∈ S, GO t s
theorem GO.mono {t t' : Nat} {s : SS} (h : GO t s) (ht : t ≤ t') : GO t' s := ⟨h.ris, h.sm, Nat.le_trans h.len ht, h.m0, Int.le_trans h.mt (by omega), h.f⟩
theorem doS_okp (s : SS) (k : Int) (n d : ByteArray) : (doS s k n d).L.length ≤ s.L.length + 1 ∧ s.m ≤ (doS s k n d).m ∧ (doS s k n d).m ≤ s.m + 1 ∧ (doS s k n d).f ≤ s.f := by
  rw [doS]
  have h1 := len_lay s.L n d
  have h2 := len_del s.L n
  split
  · exact ⟨by show s.L.length ≤ _; omega, by show s.m ≤ s.m + 1; omega, by show s.m + 1 ≤ s.m + 1; omega, Int.le_refl _⟩
  · split
    · exact ⟨by show s.L.length ≤ _; omega, by show s.m ≤ s.m + 1; omega, by show s.m + 1 ≤ s.m + 1; omega, by show s.f - 1 ≤ s.f; omega⟩
    · refine ⟨?_, by show s.m ≤ s.m + 1; omega, by show s.m + 1 ≤ s.m + 1; omega, Int.le_refl _⟩
      dsimp only
      rw [putL]
      (repeat' split) <;> omega
theorem GO.step {t : Nat} {s : SS} (h : GO t s) (k : Int) (n d : ByteArray) : GO (t + 1) (doS s k n d) := by
  obtain ⟨h1, h2, h3, h4⟩ := doS_okp s k n d
  have hL : Ris (doS s k n d).L ∧ ∀ p ∈ (doS s k n d).L, p.n.size ≤ 96 ∧ p.d.size ≤ 131072 := by
    rw [doS]
    split
    · exact ⟨h.ris, h.sm⟩
    · split
      · exact ⟨h.ris, h.sm⟩
      · dsimp only
        split
        · rw [putL]
          split
          · rename_i hp
            rw [pcode] at hp
            split at hp
            · rename_i hm
              split at hp
              · rename_i hd
                exact ⟨ris_lay h.ris n d, small_lay h.sm (mayB_size hm) hd⟩
              · cases hp
            · cases hp
          · exact ⟨h.ris, h.sm⟩
        · split
          · exact ⟨ris_del h.ris n, small_del h.sm n⟩
          · exact ⟨h.ris, h.sm⟩
  have := h.len
  have := h.m0
  have := h.mt
  have := h.f
  exact ⟨hL.1, hL.2, by omega, by omega, by omega, by omega⟩
theorem GD.step {t : Nat} {S : List SS} (h : GD t S) (q : QT) : GD (t + 1) (yS S q) := by
  rw [yS]
  split
  · split
    · rename_i s hs
      intro x hx
      rcases List.mem_or_eq_of_mem_set hx with hx | hx
      · exact (h x hx).mono (by omega)
      · rw [hx]; exact (h s (List.mem_of_getElem? hs)).step _ _ _
    · exact fun x hx => (h x hx).mono (by omega)
  · exact fun x hx => (h x hx).mono (by omega)
theorem GD.steps : ∀ (l : List QT) {t : Nat} {S : List SS}, GD t S → GD (t + l.length) (ySs S l)
  | [], _, _, h => h
  | q :: r, t, S, h => by
    have := GD.steps r (h.step q)
    rw [ySs, List.length_cons, show t + (r.length + 1) = t + 1 + r.length by omega]
    exact this
theorem doR_names (s : SS) (k : Int) (n d : ByteArray) : (doR s k n d).l.length ≤ s.L.length := by
  rw [doR]
  split
  · simp
  · split
    · simp
    · split
      · simp
      · split
        · simp
        · split
          · exact names_len _ _
          · split <;> simp
theorem yR_names {t : Nat} {S : List SS} (h : GD t S) (q : QT) : (yR S q).l.length ≤ t := by
  rw [yR]
  split
  · split
    · rename_i s hs
      exact Nat.le_trans (doR_names _ _ _ _) (h s (List.mem_of_getElem? hs)).len
    · simp
  · simp
theorem resI_app (A B : List RR) : resI (A ++ B) = resI A ++ resI B := by simp [resI]
theorem yRs_names : ∀ (l : List QT) {t : Nat} {S : List SS}, GD t S → (resI (yRs S l)).length ≤ l.length * (t + l.length)
  | [], _, _, _ => by simp [yRs, resI]
  | q :: r, t, S, h => by
    have h1 := yRs_names r (h.step q)
    have h2 := yR_names h q
    rw [yRs, show yR S q :: yRs (yS S q) r = [yR S q] ++ yRs (yS S q) r from rfl, resI_app, List.length_append]
    have h3 : (resI [yR S q]).length = (yR S q).l.length := by simp [resI]
    rw [h3, List.length_cons, Nat.add_mul, Nat.one_mul, show t + (r.length + 1) = t + 1 + r.length by omega]
    omega

/-- Pointers to blocks, in a list in P. -/
def RPp (P : Nat → Prop) (w : World) (v : Value) (bs : List Nat) : Prop :=
  ∃ a c, v = .slice a bs.length c ∧ (bs = [] ∨ ∃ g o, a = some ⟨g, o, none⟩ ∧ P g ∧ g < w.heap.size ∧ ∀ i b, bs[i]? = some b → w.cell? ⟨g, o + i, none⟩ = some (.pointer (some ⟨b, 0, none⟩)))
/-- A yard of the program: its stores lie apart. -/
structure YP (P : Nat → Prop) (w : World) (v : Value) (S : List SS) (bs : List (Nat × Nat)) : Prop where
  rp : RPp P w v (bs.map (·.1))
  len : bs.length = S.length
  px : ∀ (i : Nat) (e : Nat × Nat) (s : SS), bs[i]? = some e → S[i]? = some s → PX w e.1 e.2 s
  inP : ∀ e ∈ bs, P e.1 ∧ P e.2
  ap : ∀ (i j : Nat) (e f : Nat × Nat), bs[i]? = some e → bs[j]? = some f → i ≠ j → e.1 ≠ f.1 ∧ e.2 ≠ f.2
section
variable {P p : Nat → Prop} {w w' : World} {v : Value} {S : List SS} {bs : List (Nat × Nat)} {t : Nat}
theorem RPp.rp {bs : List Nat} (h : RPp P w v bs) : RP w v bs := by
  obtain ⟨a, c, e, h | ⟨g, o, ea, _, h⟩⟩ := h
  · exact ⟨a, c, e, .inl h⟩
  · exact ⟨a, c, e, .inr ⟨g, o, ea, h⟩⟩
theorem RPp.kb {bs : List Nat} (h : RPp P w v bs) (hs : w.heap.size ≤ w'.heap.size) (hk : ∀ i, i < w.heap.size → P i → (∃ j q, w.cell? ⟨i, j, none⟩ = some (.pointer q)) → w'.heap[i]? = w.heap[i]?) : RPp P w' v bs := by
  obtain ⟨a, c, e, h | ⟨g, o, ea, hP, hg, h⟩⟩ := h
  · exact ⟨a, c, e, .inl h⟩
  · refine ⟨a, c, e, .inr ⟨g, o, ea, hP, Nat.lt_of_lt_of_le hg hs, fun i b hb => ?_⟩⟩
    have hc := h i b hb
    have := hk g hg hP ⟨_, _, hc⟩
    simp only [World.cell?, this] at hc ⊢
    exact hc
theorem YP.gs (h : YP P w v S bs) (hg : Gs p w w') (hp : ∀ i, P i → ¬ p i) : YP P w' v S bs :=
  ⟨h.rp.kb hg.size fun i hi hP _ => hg.block i hi (hp i hP), h.len, fun i e s he hs => PS.gs (h.px i e s he hs) hg (hp _ (h.inP e (List.mem_of_getElem? he)).1) (hp _ (h.inP e (List.mem_of_getElem? he)).2), h.inP, h.ap⟩
theorem YP.bel (h : YP P w v S bs) (hb : Below w.heap.size w w') : YP P w' v S bs :=
  ⟨h.rp.kb hb.size fun i hi _ _ => hb.block i hi, h.len, fun i e s he hs => PS.bel (h.px i e s he hs) hb, h.inP, h.ap⟩
theorem YP.cross (h : YP P w v S bs) {i j : Nat} {e f : Nat × Nat} (he : bs[i]? = some e) (hf : bs[j]? = some f) : e.1 ≠ f.2 := fun eq => by
  obtain ⟨s, hs⟩ : ∃ s, S[i]? = some s := ⟨_, List.getElem?_eq_getElem (by rw [← h.len]; exact (List.getElem?_eq_some_iff.1 he).1)⟩
  obtain ⟨s', hs'⟩ : ∃ s, S[j]? = some s := ⟨_, List.getElem?_eq_getElem (by rw [← h.len]; exact (List.getElem?_eq_some_iff.1 hf).1)⟩
  have h1 : PS w e.1 e.2 s.q s.f s.off s.m s.L := h.px i e s he hs
  have h2 : PS w f.1 f.2 s'.q s'.f s'.off s'.m s'.L := h.px j f s' hf hs'
  have hb := h1.blk
  rw [eq] at hb
  exact h2.map.notCells hb
theorem YP.put (h : YP P w v S bs) {i : Nat} {e : Nat × Nat} {s s' : SS} (he : bs[i]? = some e) (hs : S[i]? = some s) (hg : Gs (two e.1 e.2) w w') (hX : PX w' e.1 e.2 s') : YP P w' v (S.set i s') bs := by
  refine ⟨h.rp.kb hg.size fun j hj _ hc => hg.block j hj ?_, by rw [List.length_set]; exact h.len, fun j f x hf hx => ?_, h.inP, h.ap⟩
  · obtain ⟨_, _, hc⟩ := hc
    exact (h.px i e s he hs).far hc
  · rw [List.getElem?_set] at hx
    by_cases hij : i = j
    · subst hij
      have hil : i < S.length := (List.getElem?_eq_some_iff.1 hs).1
      rw [if_pos rfl, if_pos hil] at hx
      cases hx
      rw [he] at hf
      cases hf
      exact hX
    · rw [if_neg hij] at hx
      have := h.ap i j e f he hf hij
      refine PS.gs (h.px j f x hf hx) hg ?_ ?_
      · rintro (q | q)
        · exact this.1 q.symm
        · exact h.cross hf he q
      · rintro (q | q)
        · exact h.cross he hf q.symm
        · exact this.2 q.symm
/-- The stores' own blocks. -/
def Qs (bs : List (Nat × Nat)) (i : Nat) : Prop := ∃ e ∈ bs, i = e.1 ∨ i = e.2
theorem YP.qs (h : YP P w v S bs) {i : Nat} (hi : Qs bs i) : P i := by
  obtain ⟨e, he, h1 | h1⟩ := hi
  · rw [h1]; exact (h.inP e he).1
  · rw [h1]; exact (h.inP e he).2
theorem answer_any (h : YP P w v S bs) (hG : GD t S) (ht : t ≤ 1000) (q : QT) (hn : q.n.size ≤ maxLen) (hd : q.d.size ≤ maxLen) :
    Calls Tryz.prog 76 #[v, .agg #[.int .i64 q.st, .int .i64 q.k, .string q.n, .string q.d]] w fun e w' => ∃ u, e = .returned u ∧ AR w' w.heap.size u (yR S q) ∧ YP P w' v (yS S q) bs ∧ Gs (Qs bs) w w' := by
  by_cases h0 : 0 ≤ q.st
  · cases hs : S[q.st.toNat]? with
    | some s =>
      obtain ⟨e, he⟩ : ∃ e, bs[q.st.toNat]? = some e := ⟨_, List.getElem?_eq_getElem (by rw [h.len]; exact (List.getElem?_eq_some_iff.1 hs).1)⟩
      have hg := hG s (List.mem_of_getElem? hs)
      have hst : q.st = ((q.st.toNat : Nat) : Int) := by omega
      rw [yR, yS, if_pos h0, if_pos h0, hs]
      dsimp only
      have := answer_in h.rp.rp (i := q.st.toNat) (b := e.1) (by rw [List.getElem?_map, he]; rfl) (h.px _ e s he hs) q.k q.n q.d hn hd (by have := hg.len; omega) hg.m0 (by have := hg.mt; omega) hg.f
      rw [← hst] at this
      refine this.mono ?_
      rintro e' w' ⟨u, rfl, hA, hX, hG2⟩
      exact ⟨u, rfl, hA, h.put he hs hG2 hX, hG2.mono fun i _ hi => by
        rcases hi with hi | hi
        · exact ⟨e, List.mem_of_getElem? he, .inl hi⟩
        · exact ⟨e, List.mem_of_getElem? he, .inr hi⟩⟩
    | none =>
      rw [yR, yS, if_pos h0, if_pos h0, hs]
      have hl : S.length ≤ q.st.toNat := List.getElem?_eq_none_iff.1 hs
      refine (answer_out h.rp.rp q.st q.k q.n q.d (.inr (by rw [List.length_map, h.len]; omega))).mono ?_
      rintro e' w' ⟨rfl, hb⟩
      exact ⟨_, rfl, ⟨_, rfl, TS.nil _ _⟩, h.bel hb, Gs.of_below _ hb⟩
  · rw [yR, yS, if_neg h0, if_neg h0]
    refine (answer_out h.rp.rp q.st q.k q.n q.d (.inl (by omega))).mono ?_
    rintro e' w' ⟨rfl, hb⟩
    exact ⟨_, rfl, ⟨_, rfl, TS.nil _ _⟩, h.bel hb, Gs.of_below _ hb⟩
end
end Go.Proofs.YtiecoplfiahpnaaGreat

namespace Go.Proofs.YtiecoplfiahpnaaGreat
open Go.RowKit Go.Lib Go.Maps

/-- A job at block b that asks L in order: J tells what it is behind the answers A, in blocks of P. -/
structure JOB (J : List RR → (Nat → Prop) → World → Prop) (L : List QT) (b : Nat) : Prop where
  gs : ∀ {A : List RR} {P p : Nat → Prop} {w w' : World}, J A P w → Gs p w w' → (∀ i, P i → ¬ p i) → J A P w'
  lt : ∀ {A : List RR} {P : Nat → Prop} {w : World}, J A P w → ∀ i, P i → i < w.heap.size
  hb : ∀ {A : List RR} {P : Nat → Prop} {w : World}, J A P w → P b
  le : ∀ {A : List RR} {P : Nat → Prop} {w : World}, J A P w → A.length ≤ L.length
  next1 : ∀ {A : List RR} {P : Nat → Prop} {w : World} {q : QT}, J A P w → L[A.length]? = some q → Calls Tryz.prog 74 #[.pointer (some ⟨b, 0, none⟩)] w fun e w' => e = .returned (.tuple #[.agg #[.int .i64 q.st, .int .i64 q.k, .string q.n, .string q.d], .bool true]) ∧ Below w.heap.size w w'
  next0 : ∀ {A : List RR} {P : Nat → Prop} {w : World}, J A P w → A.length = L.length → Calls Tryz.prog 74 #[.pointer (some ⟨b, 0, none⟩)] w fun e w' => e = .returned (.tuple #[.agg #[.int .i64 0, .int .i64 0, .string ⟨#[]⟩, .string ⟨#[]⟩], .bool false]) ∧ Below w.heap.size w w'
  over : ∀ {A : List RR} {P : Nat → Prop} {w : World}, J A P w → Calls Tryz.prog 77 #[.pointer (some ⟨b, 0, none⟩)] w fun e w' => e = .returned (.bool (!decide (A.length < L.length))) ∧ w' = w
  give : ∀ {A : List RR} {P r0 : Nat → Prop} {w : World} {u : Value} {ll : List ByteArray} (cc : Int) (dd : ByteArray), J A P w → A.length < L.length → LS t1 1 r0 w u ll → ¬ r0 b → ll.length ≤ 1000000000000 → (resI (A ++ [⟨cc, dd, ll⟩])).length ≤ 1000000000000 → (∀ y ∈ ll, y.size ≤ maxLen) →
    Calls Tryz.prog 75 #[.pointer (some ⟨b, 0, none⟩), .agg #[.int .i64 cc, .string dd, u]] w fun e w' => e = .returned (.int .i64 0) ∧ ∃ P', J (A ++ [⟨cc, dd, ll⟩]) P' w' ∧ Gs P w w' ∧ ∀ i, P' i → P i ∨ w.heap.size ≤ i
theorem yR_small {t : Nat} {S : List SS} (h : GD t S) (q : QT) : ∀ y ∈ (yR S q).l, y.size ≤ maxLen := by
  rw [yR]
  split
  · split
    · rename_i s hs
      have hg := h s (List.mem_of_getElem? hs)
      rw [doR]
      (repeat' split) <;> intro y hy <;> try (simp at hy; done)
      obtain ⟨p, hp, rfl⟩ := List.mem_map.1 hy
      have := (hg.sm p (List.mem_filter.1 hp).1).1
      unfold maxLen; omega
    · intro y hy; simp at hy
  · intro y hy; simp at hy

theorem Gs.tr2 {p p' : Nat → Prop} {w w1 w2 : World} (h : Gs p w w1) (k : Gs p' w1 w2) (hp : ∀ i, i < w.heap.size → p' i → p i) : Gs p w w2 :=
  ⟨k.os.trans h.os, k.tape.trans h.tape, k.output.trans h.output, Nat.le_trans h.size k.size, fun i hi hn => (k.block i (Nat.lt_of_lt_of_le hi h.size) (fun e => hn (hp i hi e))).trans (h.block i hi hn)⟩
/-- Where a run stands. -/
structure RU (J : List RR → (Nat → Prop) → World → Prop) (w wr : World) (A : List RR) (D : List QT) (S : List SS) (bs : List (Nat × Nat)) (v : Value) (Pj Py Pj' : Nat → Prop) (t : Nat) : Prop where
  j : J (A ++ yRs S (D.take t)) Pj' wr
  y : YP Py wr v (ySs S (D.take t)) bs
  g : Gs (fun i => Pj i ∨ Qs bs i) w wr
  p : ∀ i, Pj' i → Pj i ∨ w.heap.size ≤ i
section
variable {J : List RR → (Nat → Prop) → World → Prop} {L D : List QT} {b : Nat} {A : List RR} {Pj Py Pj' : Nat → Prop} {w wr w' : World} {v : Value} {S : List SS} {bs : List (Nat × Nat)} {t g : Nat}
theorem RU.bel (hJ : JOB J L b) (h : RU J w wr A D S bs v Pj Py Pj' t) (hb : Below wr.heap.size wr w') : RU J w w' A D S bs v Pj Py Pj' t := by
  have hl := hJ.lt h.j
  exact ⟨hJ.gs (p := fun i => wr.heap.size ≤ i) h.j (Gs.of_below _ hb) (fun i hi hn => by have := hl i hi; omega), h.y.bel hb, h.g.bel hb, h.p⟩
set_option maxRecDepth 100000 in
set_option maxHeartbeats 3200000 in
theorem run_any (hJ : JOB J L b) (h : J A Pj w) (hY : YP Py w v S bs) (hap : ∀ i, Pj i → ¬ Py i) (hPy : ∀ i, Py i → i < w.heap.size) (hG : GD g S) (hg : g + L.length ≤ 1000) (hI : (resI A).length ≤ 1000000000) (hq : ∀ q ∈ L, q.n.size ≤ maxLen ∧ q.d.size ≤ maxLen) (most : Int) (hm : 0 ≤ most) :
    Calls Tryz.prog 45 #[.pointer (some ⟨b, 0, none⟩), v, .int .i64 most] w fun e w' => ∃ t : Nat, t = min (L.length - A.length) most.toNat ∧ e = .returned (.tuple #[.int .i64 (t : Int), .int .i64 (if A.length + t < L.length then 2 else 0)]) ∧ ∃ Pj', RU J w w' A (L.drop A.length) S bs v Pj Py Pj' t := by
  obtain ⟨D, hD⟩ : ∃ D, D = L.drop A.length := ⟨_, rfl⟩
  rw [← hD]
  have hAL := hJ.le h
  have hDl : D.length = L.length - A.length := by rw [hD]; simp
  have H0 : Hid (RU J w w A D S bs v Pj Py Pj 0) := ⟨by simpa [yRs] using h, by simpa [ySs] using hY, Gs.refl _ _, fun i hi => .inl hi⟩
  have hm2 : ¬ most < 0 := by omega
  have HD := hide (And.intro hD hDl)
  have hLl : L.length ≤ 1000 := by omega
  have HJ := hide hJ
  have HG := hide hG
  have HQ := hide hq
  have HAP := hide (And.intro hap hPy)
  clear h hY hap hPy hG hq hD hDl hJ
  go_enter Tryz.func45, Tryz.ntmps45
  go_wp2
  go_loopw [6] (fun i wr => ∃ (t : Nat) (Pj' : Nat → Prop), t ≤ L.length - A.length ∧ (t : Int) ≤ most ∧ i = .int .i64 t ∧ RU J w wr A D S bs v Pj Py Pj' t) (fun i _ => 1000 - (intOf i).toNat)
  case atStart => exact ⟨0, Pj, Nat.zero_le _, by omega, rfl, H0.out⟩
  case round =>
    obtain ⟨t, Pj', ht, htm, rfl, hR⟩ := hrel
    have HR := hide hR
    clear hR
    have hlen : (A ++ yRs S (D.take t)).length = A.length + t := by
      have := HD.out.2
      rw [List.length_append, yRs_len, List.length_take]; omega
    by_cases hlt : (t : Int) < most
    · by_cases hw : A.length + t < L.length
      · obtain ⟨q, hq⟩ : ∃ q, L[A.length + t]? = some q := ⟨_, List.getElem?_eq_getElem hw⟩
        have HN := hide (HJ.out.next1 HR.out.j (by rw [hlen]; exact hq))
        have HHQ := hide hq
        have hqs := HQ.out q (List.mem_of_getElem? hq)
        have HDt : Hid (D.take (t + 1) = D.take t ++ [q]) := take_snoc_at (by rw [HD.out.1, List.getElem?_drop]; exact hq)
        clear hq
        go_wp2_with fail
        refine HN.out.mono ?_
        rintro e w1 ⟨rfl, hB1⟩
        obtain ⟨Zw, hZw⟩ : ∃ Zw, Zw = w1.alloc (.cells #[.int .i64 q.st, .int .i64 q.k, .string q.n, .string q.d] 65) := ⟨_, rfl⟩
        have hRZ : RU J w Zw A D S bs v Pj Py Pj' t := by
          rw [hZw]
          exact ((HR.out.bel HJ.out hB1).bel HJ.out ((Below.refl _ _).alloc (Nat.le_refl _) _))
        have hGt : GD (g + (D.take t).length) (ySs S (D.take t)) := GD.steps _ HG.out
        have htl : (D.take t).length = t := by have := HD.out.2; rw [List.length_take]; omega
        have HA := hide (answer_any hRZ.y hGt (by omega) q hqs.1 hqs.2)
        have HRZ := hide hRZ
        have HGT := hide hGt
        have HZw := hide hZw
        have HTL := hide htl
        have hblk : Zw.heap[w1.heap.size]? = some (.cells #[.int .i64 q.st, .int .i64 q.k, .string q.n, .string q.d] 65 (0, 0)) := by rw [hZw]; exact heap_alloc_new w1 _
        have k0 : Zw.cell? ⟨w1.heap.size, 0, none⟩ = some (.int .i64 q.st) := by simp [World.cell?, hblk]
        have k1 : Zw.cell? ⟨w1.heap.size, 1, none⟩ = some (.int .i64 q.k) := by simp [World.cell?, hblk]
        have k2 : Zw.cell? ⟨w1.heap.size, 2, none⟩ = some (.string q.n) := by simp [World.cell?, hblk]
        have k3 : Zw.cell? ⟨w1.heap.size, 3, none⟩ = some (.string q.d) := by simp [World.cell?, hblk]
        clear hRZ hGt hZw htl hblk hB1 hqs
        go_upto_region 8 with fail
        rw [← HZw.out]
        go_wp2_with fail
        refine HA.out.mono ?_
        rintro e w3 ⟨u, rfl, hAR, hY3, hG3⟩
        have hdis : ∀ i, Pj' i → ¬ Py i := fun i hi hp => by
          rcases HR.out.p i hi with h | h
          · exact HAP.out.1 i h hp
          · have := HAP.out.2 i hp; omega
        have hJ3 := HJ.out.gs HRZ.out.j hG3 fun i hi hq => hdis i hi (HRZ.out.y.qs hq)
        have hbZ := HJ.out.lt HRZ.out.j b (HJ.out.hb HRZ.out.j)
        obtain ⟨ua, uc, rfl, hTS⟩ := hAR.shp
        have hnm := yR_names HGT.out q
        have hGv := HJ.out.give (r0 := fun i => Zw.heap.size ≤ i) (yR (ySs S (D.take t)) q).c (yR (ySs S (D.take t)) q).d hJ3 (by rw [hlen]; exact hw) (hTS.ls fun i hi => (hTS.lt i hi).1) (by omega) (by have := HTL.out; omega) (by
          have e : A ++ yRs S (D.take t) ++ [(⟨(yR (ySs S (D.take t)) q).c, (yR (ySs S (D.take t)) q).d, (yR (ySs S (D.take t)) q).l⟩ : RR)] = A ++ yRs S (D.take t ++ [q]) := by rw [yRs_snoc, List.append_assoc]
          rw [e, resI_app, List.length_append]
          have h1 := yRs_names (D.take t ++ [q]) HG.out
          have h2 : (D.take t ++ [q]).length = t + 1 := by rw [List.length_append, HTL.out]; rfl
          rw [h2] at h1
          have h3 : (t + 1) * (g + (t + 1)) ≤ 1000 * 1000 := Nat.mul_le_mul (by omega) (by omega)
          omega) (yR_small HGT.out q)
        have HGv := hide hGv
        have HF3 := hide (And.intro hY3 (And.intro hG3 hdis))
        obtain ⟨un, hun⟩ : ∃ un, un = (yR (ySs S (D.take t)) q).l.length := ⟨_, rfl⟩
        rw [← hun] at HGv ⊢
        clear hY3 hG3 hdis hJ3 hbZ hTS hnm hGv hAR hun
        go_wp2_with fail
        refine HGv.out.mono ?_
        rintro e w4 ⟨rfl, P4, hJ4, hG4, hP4⟩
        have HE : Hid (RU J w w4 A D S bs v Pj Py P4 (t + 1)) := by
          obtain ⟨hY3, hG3, hdis⟩ := HF3.out
          have hs1 := HRZ.out.g.size
          have hs2 := hG3.size
          refine ⟨?_, ?_, ?_, ?_⟩
          · rw [HDt.out, yRs_snoc, ← List.append_assoc]; exact hJ4
          · rw [HDt.out, ySs_snoc]; exact hY3.gs hG4 fun i hi hp => hdis i hp hi
          · refine (HRZ.out.g.tr2 hG3 fun i _ hp => .inr hp).tr2 hG4 fun i hi hp => ?_
            rcases HRZ.out.p i hp with h | h
            · exact .inl h
            · omega
          · intro i hi
            rcases hP4 i hi with h | h
            · exact HRZ.out.p i h
            · exact .inr (by omega)
        clear hJ4 hG4 hP4
        go_wp2
        exact ⟨⟨t + 1, P4, by omega, by omega, by go_num, HE.out⟩, by simp [intOf]; omega⟩
      · have hl2 : A.length + t = L.length := by omega
        have HN := hide (HJ.out.next0 HR.out.j (by rw [hlen]; exact hl2))
        go_wp2_with fail
        refine HN.out.mono ?_
        rintro e w1 ⟨rfl, hB1⟩
        obtain ⟨Zw, hZw⟩ : ∃ Zw, Zw = w1.alloc (.cells #[.int .i64 0, .int .i64 0, .string ⟨#[]⟩, .string ⟨#[]⟩] 65) := ⟨_, rfl⟩
        have hRZ : RU J w Zw A D S bs v Pj Py Pj' t := by
          rw [hZw]
          exact ((HR.out.bel HJ.out hB1).bel HJ.out ((Below.refl _ _).alloc (Nat.le_refl _) _))
        have HO := hide (HJ.out.over hRZ.j)
        rw [hlen, decide_eq_false hw] at HO
        have HRZ := hide hRZ
        have HZw := hide hZw
        clear hRZ hZw hB1
        go_wp2_with fail
        rw [← HZw.out]
        refine HO.out.mono ?_
        rintro e w2 ⟨rfl, rfl⟩
        have HE : Hid (∃ t' : Nat, t' = min (L.length - A.length) most.toNat ∧ Ending.returned (.tuple #[.int .i64 (t : Int), .int .i64 0]) = .returned (.tuple #[.int .i64 (t' : Int), .int .i64 (if A.length + t' < L.length then 2 else 0)]) ∧ ∃ Pj', RU J w w2 A D S bs v Pj Py Pj' t') := ⟨t, by omega, by rw [if_neg hw], Pj', HRZ.out⟩
        go_wp2
        go_ret2
        exact HE.out
    · have HO := hide (HJ.out.over HR.out.j)
      rw [hlen] at HO
      have HTM : Hid (t = min (L.length - A.length) most.toNat) := by show t = min (L.length - A.length) most.toNat; omega
      by_cases hw : A.length + t < L.length
      · rw [decide_eq_true hw] at HO
        go_wp2_with fail
        refine HO.out.mono ?_
        rintro e w2 ⟨rfl, rfl⟩
        have HE : Hid (∃ t' : Nat, t' = min (L.length - A.length) most.toNat ∧ Ending.returned (.tuple #[.int .i64 (t : Int), .int .i64 2]) = .returned (.tuple #[.int .i64 (t' : Int), .int .i64 (if A.length + t' < L.length then 2 else 0)]) ∧ ∃ Pj', RU J w w2 A D S bs v Pj Py Pj' t') := ⟨t, HTM.out, by rw [if_pos hw], Pj', HR.out⟩
        go_wp2
        go_ret2
        exact HE.out
      · rw [decide_eq_false hw] at HO
        go_wp2_with fail
        refine HO.out.mono ?_
        rintro e w2 ⟨rfl, rfl⟩
        have HE : Hid (∃ t' : Nat, t' = min (L.length - A.length) most.toNat ∧ Ending.returned (.tuple #[.int .i64 (t : Int), .int .i64 0]) = .returned (.tuple #[.int .i64 (t' : Int), .int .i64 (if A.length + t' < L.length then 2 else 0)]) ∧ ∃ Pj', RU J w w2 A D S bs v Pj Py Pj' t') := ⟨t, HTM.out, by rw [if_neg hw], Pj', HR.out⟩
        go_wp2
        go_ret2
        exact HE.out
end
end Go.Proofs.YtiecoplfiahpnaaGreat

namespace Go.Proofs.YtiecoplfiahpnaaGreat
open Go.RowKit Go.Lib Go.Maps
section
variable {w : World} {v : Value} {l : List QT} {r : Nat → Prop}
end
/-- Pointers as cells. -/
def pp (b : Nat) : List Value := [.pointer (some ⟨b, 0, none⟩)]
theorem pp_len (b : Nat) : (pp b).length = 1 := rfl
theorem pp_one (b : Nat) : ∀ u ∈ pp b, u.oneCell' = true := by intro u hu; simp [pp] at hu; subst hu; rfl
theorem Tryz.infoPs : (Tryz.prog.info? 25).map (fun i => (i.zero, i.size, i.bytes)) = some (some (.pointer none), 1, 8) := by kernel_rfl
theorem Tryz.infoPr : (Tryz.prog.info? 29).map (fun i => (i.zero, i.size, i.bytes)) = some (some (.pointer none), 1, 8) := by kernel_rfl
def s0 : SS := ⟨300, 0, 0, false, []⟩
/-- Stores that were made. -/
structure BO (w wr : World) (sv rv : Value) (bs : List (Nat × Nat)) (rs : List Nat) : Prop where
  s : OW pp 1 25 w.heap.size sv (bs.map (·.1)) wr
  r : OW pp 1 29 w.heap.size rv rs wr
  px : ∀ e ∈ bs, PX wr e.1 e.2 s0 ∧ w.heap.size ≤ e.1 ∧ w.heap.size ≤ e.2
  rd : ∀ b ∈ rs, RSt wr b 300 0 0 false (.slice none 0 0) ∧ w.heap.size ≤ b
  ap : ∀ (i j : Nat) (e f : Nat × Nat), bs[i]? = some e → bs[j]? = some f → i ≠ j → e.1 ≠ f.1 ∧ e.2 ≠ f.2
  ar : ∀ (i j b b' : Nat), rs[i]? = some b → rs[j]? = some b' → i ≠ j → b ≠ b'
  be : Below w.heap.size w wr
section
variable {w wr w' : World} {sv rv : Value} {bs : List (Nat × Nat)} {rs : List Nat}
theorem snoc_get {α : Type} {l : List α} {x y : α} {i : Nat} (h : (l ++ [x])[i]? = some y) : (i < l.length ∧ l[i]? = some y) ∨ (i = l.length ∧ y = x) := by
  by_cases hi : i < l.length
  · rw [List.getElem?_append_left hi] at h; exact .inl ⟨hi, h⟩
  · rw [List.getElem?_append_right (by omega)] at h
    have : i - l.length = 0 := by
      have := (List.getElem?_eq_some_iff.1 h).1
      simp at this; omega
    rw [this] at h
    simp at h
    exact .inr ⟨by omega, h.symm⟩
theorem RSt.bel2 {b : Nat} {q f m : Int} {off : Bool} {v : Value} (h : RSt w b q f m off v) (hb : Below w.heap.size w w') : RSt w' b q f m off v := h.below hb h.lt
theorem BO.bel (h : BO w wr sv rv bs rs) (hb : Below wr.heap.size wr w') : BO w w' sv rv bs rs :=
  ⟨h.s.keep hb, h.r.keep hb, fun e he => ⟨PX.bel (h.px e he).1 hb, (h.px e he).2⟩, fun b hb' => ⟨(h.rd b hb').1.bel2 hb, (h.rd b hb').2⟩, h.ap, h.ar, h.be.trans (hb.mono h.be.size)⟩
/-- A store of the program more. -/
theorem BO.more (h : BO w wr sv rv bs rs) {b mb : Nat} (hX : PX wr b mb s0) (hb : w.heap.size ≤ b) (hm : w.heap.size ≤ mb) (hd : ∀ e ∈ bs, e.1 ≠ b ∧ e.2 ≠ mb) (hl : bs.length ≤ 1000) :
    ∃ a c w', (Builtin.append_ #[23, 23] 23 #[sv, .slice (some ⟨wr.heap.size, 0, none⟩) 1 1]).run Tryz.prog (wr.alloc (.cells #[.pointer (some ⟨b, 0, none⟩)] 25)) = .ok (.slice a (bs.length + 1) c) w' ∧ BO w w' (.slice a (bs.length + 1) c) rv (bs ++ [(b, mb)]) rs ∧ wr.heap.size ≤ w'.heap.size := by
  have hal : Below wr.heap.size wr (wr.alloc (.cells #[.pointer (some ⟨b, 0, none⟩)] 25)) := (Below.refl _ _).alloc (Nat.le_refl _) _
  have h' := h.bel hal
  have hws := h.be.size
  obtain ⟨v', w1, h1, h2, h3, h4⟩ := OW.app (ST := 23) pp_len (by decide) (fun x _ => pp_one x) Tryz.underlying23 Tryz.infoPs rfl h'.s (LS.one b 25 wr pp 1 (fun _ => True) trivial) (by simp; omega) (by simp; omega) (by simp; omega)
  obtain ⟨a, c, e⟩ := h2.shp
  have hle : ((bs.map (·.1)) ++ [b]).length = bs.length + 1 := by simp
  rw [hle] at e
  subst e
  have hot : ∀ i, i < wr.heap.size + 1 → sv.ownBlock ≠ some i → w1.heap[i]? = (wr.alloc (.cells #[.pointer (some ⟨b, 0, none⟩)] 25)).heap[i]? := fun i hi hn => h3.block i (by simpa using hi) (fun e => hn e.symm)
  have hsl := h'.s.lt
  have hst := h'.s.typ
  have hBw : Below w.heap.size w w1 := h'.be.grown h3 (by simp; omega) (fun k hk => (hsl k hk).1)
  have hs1 : wr.heap.size + 1 ≤ w1.heap.size := by have := h3.size; simpa using this
  refine ⟨a, c, w1, h1, ⟨?_, ?_, ?_, ?_, ?_, h.ar, hBw⟩, by omega⟩
  · rw [List.map_append]; exact h2
  · refine h'.r.kb fun i hi => ?_
    have hrl := (h'.r.lt i hi).2
    refine hot i (by simpa using hrl) (fun e => ?_)
    obtain ⟨c1, q1⟩ := hst i e
    obtain ⟨c2, q2⟩ := h'.r.typ i hi
    rw [q1] at q2
    simp at q2
  · have hpk : ∀ e : Nat × Nat, PX (wr.alloc (.cells #[.pointer (some ⟨b, 0, none⟩)] 25)) e.1 e.2 s0 → PX w1 e.1 e.2 s0 := fun e hX => by
      have hX' : PS _ e.1 e.2 s0.q s0.f s0.off s0.m s0.L := hX
      have g1 : Gs (fun i => sv.ownBlock = some i) (wr.alloc (.cells #[.pointer (some ⟨b, 0, none⟩)] 25)) w1 := ⟨h3.os, h3.tape, h3.output, h3.size, fun i hi hn => h3.block i hi (fun e => hn e.symm)⟩
      refine PS.gs hX' g1 (fun e' => ?_) (fun e' => ?_)
      · obtain ⟨c1, q1⟩ := hst _ e'
        rw [hX'.blk] at q1
        simp at q1
      · obtain ⟨c1, q1⟩ := hst _ e'
        exact hX'.map.notCells q1
    intro e he
    rcases List.mem_append.1 he with he | he
    · exact ⟨hpk e (h'.px e he).1, (h.px e he).2⟩
    · simp at he
      subst he
      exact ⟨hpk _ (PX.bel hX hal), hb, hm⟩
  · intro b' hb'
    refine ⟨?_, (h.rd b' hb').2⟩
    have hR := (h'.rd b' hb').1
    refine (hot b' (by simpa using hR.lt) (fun e => ?_)).trans hR
    obtain ⟨c1, q1⟩ := hst b' e
    rw [show (wr.alloc _).heap[b']? = _ from hR] at q1
    simp at q1
  · intro i j e f he hf hij
    rcases snoc_get he with ⟨hi, he⟩ | ⟨hi, he⟩ <;> rcases snoc_get hf with ⟨hj, hf⟩ | ⟨hj, hf⟩
    · exact h.ap i j e f he hf hij
    · subst hf; exact hd e (List.mem_of_getElem? he)
    · subst he; have := hd f (List.mem_of_getElem? hf); exact ⟨fun q => this.1 q.symm, fun q => this.2 q.symm⟩
    · omega
/-- A store of the document more. -/
theorem BO.mord (h : BO w wr sv rv bs rs) {b : Nat} (hX : RSt wr b 300 0 0 false (.slice none 0 0)) (hb : w.heap.size ≤ b) (hd : ∀ e ∈ rs, e ≠ b) (hl : rs.length ≤ 1000) :
    ∃ a c w', (Builtin.append_ #[24, 24] 24 #[rv, .slice (some ⟨wr.heap.size, 0, none⟩) 1 1]).run Tryz.prog (wr.alloc (.cells #[.pointer (some ⟨b, 0, none⟩)] 29)) = .ok (.slice a (rs.length + 1) c) w' ∧ BO w w' sv (.slice a (rs.length + 1) c) bs (rs ++ [b]) := by
  have hal : Below wr.heap.size wr (wr.alloc (.cells #[.pointer (some ⟨b, 0, none⟩)] 29)) := (Below.refl _ _).alloc (Nat.le_refl _) _
  have h' := h.bel hal
  have hws := h.be.size
  obtain ⟨v', w1, h1, h2, h3, h4⟩ := OW.app (ST := 24) pp_len (by decide) (fun x _ => pp_one x) Tryz.underlying24 Tryz.infoPr rfl h'.r (LS.one b 29 wr pp 1 (fun _ => True) trivial) (by simp; omega) (by simp; omega) (by simp; omega)
  obtain ⟨a, c, e⟩ := h2.shp
  have hle : (rs ++ [b]).length = rs.length + 1 := by simp
  rw [hle] at e
  subst e
  have hot : ∀ i, i < wr.heap.size + 1 → rv.ownBlock ≠ some i → w1.heap[i]? = (wr.alloc (.cells #[.pointer (some ⟨b, 0, none⟩)] 29)).heap[i]? := fun i hi hn => h3.block i (by simpa using hi) (fun e => hn e.symm)
  have hsl := h'.r.lt
  have hst := h'.r.typ
  have hBw : Below w.heap.size w w1 := h'.be.grown h3 (by simp; omega) (fun k hk => (hsl k hk).1)
  refine ⟨a, c, w1, h1, ⟨?_, h2, ?_, ?_, h.ap, ?_, hBw⟩⟩
  · refine h'.s.kb fun i hi => ?_
    have hrl := (h'.s.lt i hi).2
    refine hot i (by simpa using hrl) (fun e => ?_)
    obtain ⟨c1, q1⟩ := hst i e
    obtain ⟨c2, q2⟩ := h'.s.typ i hi
    rw [q1] at q2
    simp at q2
  · intro e he
    have hX' : PS _ e.1 e.2 s0.q s0.f s0.off s0.m s0.L := (h'.px e he).1
    have g1 : Gs (fun i => rv.ownBlock = some i) (wr.alloc (.cells #[.pointer (some ⟨b, 0, none⟩)] 29)) w1 := ⟨h3.os, h3.tape, h3.output, h3.size, fun i hi hn => h3.block i hi (fun e => hn e.symm)⟩
    refine ⟨PS.gs hX' g1 (fun e' => ?_) (fun e' => ?_), (h.px e he).2⟩
    · obtain ⟨c1, q1⟩ := hst _ e'
      rw [hX'.blk] at q1
      simp at q1
    · obtain ⟨c1, q1⟩ := hst _ e'
      exact hX'.map.notCells q1
  · have hrk : ∀ b', RSt (wr.alloc (.cells #[.pointer (some ⟨b, 0, none⟩)] 29)) b' 300 0 0 false (.slice none 0 0) → RSt w1 b' 300 0 0 false (.slice none 0 0) := fun b' hR => by
      refine (hot b' (by simpa using hR.lt) (fun e => ?_)).trans hR
      obtain ⟨c1, q1⟩ := hst b' e
      rw [show (wr.alloc _).heap[b']? = _ from hR] at q1
      simp at q1
    intro b' hb'
    rcases List.mem_append.1 hb' with he | he
    · exact ⟨hrk b' (h'.rd b' he).1, (h.rd b' he).2⟩
    · simp at he
      subst he
      exact ⟨hrk _ (hX.bel2 hal), hb⟩
  · intro i j e f he hf hij
    rcases snoc_get he with ⟨hi, he⟩ | ⟨hi, he⟩ <;> rcases snoc_get hf with ⟨hj, hf⟩ | ⟨hj, hf⟩
    · exact h.ar i j e f he hf hij
    · rw [hf]; exact hd e (List.mem_of_getElem? he)
    · rw [he]; exact fun q => hd f (List.mem_of_getElem? hf) q.symm
    · omega
end
end Go.Proofs.YtiecoplfiahpnaaGreat

namespace Go.Proofs.YtiecoplfiahpnaaGreat
open Go.RowKit Go.Lib Go.Maps
end Go.Proofs.YtiecoplfiahpnaaGreat

namespace Go.Proofs.YtiecoplfiahpnaaGreat
open Go.RowKit Go.Lib Go.Maps
def S3 : List SS := [s0, s0, s0, s0]
theorem s0_go : GO 0 s0 := ⟨List.Pairwise.nil, fun p hp => by simp [s0] at hp, Nat.le_refl _, by decide, by decide, by decide⟩
theorem S3_gd : GD 0 S3 := fun s hs => by
  have : s = s0 := by simpa [S3] using hs
  rw [this]; exact s0_go
theorem S3_get {i : Nat} {s : SS} (h : S3[i]? = some s) : s = s0 := by
  have := List.mem_of_getElem? h
  simpa [S3] using this
/-- The blocks of the program's yard. -/
def Ps (bs : List (Nat × Nat)) (sv : Value) (i : Nat) : Prop := (∃ e ∈ bs, i = e.1 ∨ i = e.2) ∨ sv.ownBlock = some i
/-- The document's yard: its stores lie apart. -/
structure YD (P : Nat → Prop) (w : World) (v : Value) (S : List SS) (rs : List Nat) : Prop where
  rp : RPp P w v rs
  len : rs.length = S.length
  rd : ∀ (i b : Nat) (s : SS), rs[i]? = some b → S[i]? = some s → RD w b s
  inP : ∀ b ∈ rs, P b
  ap : ∀ (i j b b' : Nat), rs[i]? = some b → rs[j]? = some b' → i ≠ j → b ≠ b'
/-- A document's yard that nobody has asked yet. -/
structure YF (P : Nat → Prop) (w : World) (v : Value) (rs : List Nat) : Prop where
  rp : RPp P w v rs
  len : rs.length = 4
  rd : ∀ b ∈ rs, RSt w b 300 0 0 false (.slice none 0 0)
  inP : ∀ b ∈ rs, P b
  ap : ∀ (i j b b' : Nat), rs[i]? = some b → rs[j]? = some b' → i ≠ j → b ≠ b'
def Pd (rs : List Nat) (rv : Value) (i : Nat) : Prop := i ∈ rs ∨ rv.ownBlock = some i
section
variable {w w' : World} {sv rv v : Value} {bs : List (Nat × Nat)} {rs : List Nat} {P p : Nat → Prop} {S : List SS} {t : Nat}
theorem OW.rpp {T : TypeId} {B : Nat} {l : List Nat} (h : OW pp 1 T B v l w) (hP : ∀ i, v.ownBlock = some i → P i) : RPp P w v l := by
  obtain ⟨a, c, e, _, h | ⟨g, o, ea, h3, h4, h5⟩⟩ := h.ls pp_len hP
  · exact ⟨a, c, e, .inl h⟩
  · refine ⟨a, c, e, .inr ⟨g, o, ea, h3, h4, fun i b hb => ?_⟩⟩
    have := h5 i b hb 0 _ rfl
    rw [Nat.mul_one, Nat.add_zero] at this
    exact this
theorem BO.yp (h : BO w w' sv rv bs rs) (hl : bs.length = 4) : YP (Ps bs sv) w' sv S3 bs :=
  ⟨h.s.rpp fun _ hi => .inr hi, hl, fun i e s he hs => by rw [S3_get hs]; exact (h.px e (List.mem_of_getElem? he)).1, fun e he => ⟨.inl ⟨e, he, .inl rfl⟩, .inl ⟨e, he, .inr rfl⟩⟩, h.ap⟩
theorem BO.ps (h : BO w w' sv rv bs rs) {i : Nat} (hi : Ps bs sv i) : w.heap.size ≤ i ∧ i < w'.heap.size := by
  rcases hi with ⟨e, he, h1 | h1⟩ | h1
  · rw [h1]; exact ⟨(h.px e he).2.1, PS.lt (h.px e he).1⟩
  · rw [h1]; exact ⟨(h.px e he).2.2, PS.mlt (h.px e he).1⟩
  · exact h.s.lt i h1
theorem BO.yf (h : BO w w' sv rv bs rs) (hl : rs.length = 4) : YF (Pd rs rv) w' rv rs :=
  ⟨h.r.rpp fun _ hi => .inr hi, hl, fun b hb => (h.rd b hb).1, fun _ hb => .inl hb, h.ar⟩
theorem BO.pd (h : BO w w' sv rv bs rs) {i : Nat} (hi : Pd rs rv i) : w.heap.size ≤ i ∧ i < w'.heap.size := by
  rcases hi with h1 | h1
  · exact ⟨(h.rd i h1).2, (h.rd i h1).1.lt⟩
  · exact h.r.lt i h1
/-- The two yards lie apart. -/
theorem BO.apart (h : BO w w' sv rv bs rs) {i : Nat} (hi : Ps bs sv i) : ¬ Pd rs rv i := by
  intro hd
  rcases hd with hd | hd
  · have hr := (h.rd i hd).1
    rcases hi with ⟨e, he, h1 | h1⟩ | h1
    · have hP : PS w' e.1 e.2 s0.q s0.f s0.off s0.m s0.L := (h.px e he).1
      have := hP.blk
      rw [← h1, show w'.heap[i]? = _ from hr] at this
      simp at this
    · have hP : PS w' e.1 e.2 s0.q s0.f s0.off s0.m s0.L := (h.px e he).1
      rw [h1] at hr
      exact hP.map.notCells hr
    · obtain ⟨cs, q⟩ := h.s.typ i h1
      rw [show w'.heap[i]? = _ from hr] at q
      simp at q
  · obtain ⟨cs, hr⟩ := h.r.typ i hd
    rcases hi with ⟨e, he, h1 | h1⟩ | h1
    · have hP : PS w' e.1 e.2 s0.q s0.f s0.off s0.m s0.L := (h.px e he).1
      have := hP.blk
      rw [← h1, hr] at this
      simp at this
    · have hP : PS w' e.1 e.2 s0.q s0.f s0.off s0.m s0.L := (h.px e he).1
      rw [h1] at hr
      exact hP.map.notCells hr
    · obtain ⟨cs, q⟩ := h.s.typ i h1
      rw [hr] at q
      simp at q
theorem YF.gs (h : YF P w v rs) (hg : Gs p w w') (hp : ∀ i, P i → ¬ p i) : YF P w' v rs :=
  ⟨h.rp.kb hg.size fun i hi hP _ => hg.block i hi (hp i hP), h.len, fun b hb => (hg.block b (h.rd b hb).lt (hp b (h.inP b hb))).trans (h.rd b hb), h.inP, h.ap⟩
theorem YF.bel (h : YF P w v rs) (hb : Below w.heap.size w w') : YF P w' v rs :=
  ⟨h.rp.kb hb.size fun i hi _ _ => hb.block i hi, h.len, fun b hb' => (h.rd b hb').bel2 hb, h.inP, h.ap⟩
theorem YF.yd (h : YF P w v rs) : YD P w v S3 rs :=
  ⟨h.rp, h.len, fun i b s hb hs => by rw [S3_get hs]; exact ⟨_, h.rd b (List.mem_of_getElem? hb), OS.nil 0 w⟩, h.inP, h.ap⟩
theorem YD.gs (h : YD P w v S rs) (hg : Gs p w w') (hp : ∀ i, P i → ¬ p i) (ho : ∀ i cs fr, w.heap[i]? = some (.cells cs 93 fr) → ¬ p i) : YD P w' v S rs :=
  ⟨h.rp.kb hg.size fun i hi hP _ => hg.block i hi (hp i hP), h.len, fun i b s hb hs => (h.rd i b s hb hs).gs hg (hp b (h.inP b (List.mem_of_getElem? hb))) ho, h.inP, h.ap⟩
theorem YD.bel (h : YD P w v S rs) (hb : Below w.heap.size w w') : YD P w' v S rs :=
  ⟨h.rp.kb hb.size fun i hi _ _ => hb.block i hi, h.len, fun i b s hb' hs => (h.rd i b s hb' hs).bel hb, h.inP, h.ap⟩
theorem YD.put (h : YD P w v S rs) {i b : Nat} {s s' : SS} (he : rs[i]? = some b) (hs : S[i]? = some s) (hg : Gs (fun j => j = b) w w') (hX : RD w' b s') : YD P w' v (S.set i s') rs := by
  have hD := h.rd i b s he hs
  obtain ⟨cs, hblk⟩ := hD.blk
  refine ⟨h.rp.kb hg.size fun j hj _ hc => hg.block j hj ?_, by rw [List.length_set]; exact h.len, fun j f x hf hx => ?_, h.inP, h.ap⟩
  · obtain ⟨_, _, hc⟩ := hc
    exact hD.far hc
  · rw [List.getElem?_set] at hx
    by_cases hij : i = j
    · subst hij
      have hil : i < S.length := (List.getElem?_eq_some_iff.1 hs).1
      rw [if_pos rfl, if_pos hil] at hx
      cases hx
      rw [he] at hf
      cases hf
      exact hX
    · rw [if_neg hij] at hx
      refine (h.rd j f x hf hx).gs hg (fun e => h.ap i j b f he hf hij e.symm) fun k cs' fr hk e => ?_
      rw [e, hblk] at hk
      simp at hk
theorem ranswer_any (h : YD P w v S rs) (hG : GD t S) (ht : t ≤ 1000) (q : QT) (hn : q.n.size ≤ maxLen) (hd : q.d.size ≤ maxLen) :
    Calls Tryz.prog 50 #[v, .agg #[.int .i64 q.st, .int .i64 q.k, .string q.n, .string q.d]] w fun e w' => ∃ u, e = .returned u ∧ AR w' w.heap.size u (yR S q) ∧ YD P w' v (yS S q) rs ∧ Gs (fun i => i ∈ rs) w w' := by
  by_cases h0 : 0 ≤ q.st
  · cases hs : S[q.st.toNat]? with
    | some s =>
      obtain ⟨b, he⟩ : ∃ e, rs[q.st.toNat]? = some e := ⟨_, List.getElem?_eq_getElem (by rw [h.len]; exact (List.getElem?_eq_some_iff.1 hs).1)⟩
      have hg := hG s (List.mem_of_getElem? hs)
      have hst : q.st = ((q.st.toNat : Nat) : Int) := by omega
      rw [yR, yS, if_pos h0, if_pos h0, hs]
      dsimp only
      have := ranswer_in h.rp.rp (i := q.st.toNat) (b := b) he (h.rd _ b s he hs) hg.ris hg.sm q.k q.n q.d hn hd (by have := hg.len; omega) hg.m0 (by have := hg.mt; omega) hg.f
      rw [← hst] at this
      refine this.mono ?_
      rintro e' w' ⟨u, rfl, hA, hX, hG2⟩
      exact ⟨u, rfl, hA, h.put he hs hG2 hX, hG2.mono fun i _ hi => by rw [hi]; exact List.mem_of_getElem? he⟩
    | none =>
      rw [yR, yS, if_pos h0, if_pos h0, hs]
      have hl : S.length ≤ q.st.toNat := List.getElem?_eq_none_iff.1 hs
      refine (ranswer_out h.rp.rp q.st q.k q.n q.d (.inr (by rw [h.len]; omega))).mono ?_
      rintro e' w' ⟨rfl, hb⟩
      exact ⟨_, rfl, ⟨_, rfl, TS.nil _ _⟩, h.bel hb, Gs.of_below _ hb⟩
  · rw [yR, yS, if_neg h0, if_neg h0]
    refine (ranswer_out h.rp.rp q.st q.k q.n q.d (.inl (by omega))).mono ?_
    rintro e' w' ⟨rfl, hb⟩
    exact ⟨_, rfl, ⟨_, rfl, TS.nil _ _⟩, h.bel hb, Gs.of_below _ hb⟩
end
end Go.Proofs.YtiecoplfiahpnaaGreat

namespace Go.Proofs.YtiecoplfiahpnaaGreat
open Go.RowKit Go.Lib Go.Maps
section
variable {w w' : World} {v av : Value} {l : List Int} {B : Nat} {r : Nat → Prop} {X : List (RR × Value)}
set_option maxRecDepth 100000 in
set_option maxHeartbeats 3200000 in
theorem rcodes_any (hL : LS x3 3 r w av X) (hn : X.length ≤ 1000000) :
    Calls Tryz.prog 25 #[av] w fun e w' => ∃ v, e = .returned v ∧ OW c1 1 26 w.heap.size v (X.map (·.1.c)) w' ∧ Below w.heap.size w w' := by
  obtain ⟨a, c, rfl, h1, h2⟩ := hL
  have HC : Hid (∀ j x, X[j]? = some x → ∀ wr, Below w.heap.size w wr → ∃ g o, a = some ⟨g, o, none⟩ ∧ wr.cell? ⟨g, o + j * 3, none⟩ = some (.int .i64 x.1.c)) := fun j x hx wr hb => by
    rcases h2 with h2 | ⟨g, o, ea, hr, hg, hG⟩
    · rw [h2] at hx; simp at hx
    · exact ⟨g, o, ea, (hb.cell (p := ⟨g, o + j * 3, none⟩) hg).trans (hG j x hx 0 _ rfl)⟩
  obtain ⟨m, hm⟩ : ∃ m, m = X.length := ⟨_, rfl⟩
  rw [← hm] at hn ⊢
  have HM := hide hm
  clear hm h1 h2
  go_enter Tryz.func25, Tryz.ntmps25
  go_wp2
  go_loopw [3, 4] (fun v i wr => ∃ j : Nat, j ≤ m ∧ i = .int .i64 j ∧ OW c1 1 26 w.heap.size v ((X.take j).map (·.1.c)) wr ∧ Below w.heap.size w wr) (fun _ i _ => m - (intOf i).toNat)
  case atStart => exact ⟨0, Nat.zero_le _, rfl, by rw [List.take_zero]; exact OW.nil _ _ _ _ _, Below.refl _ _⟩
  case round =>
    obtain ⟨j, hj, rfl, hO, hB⟩ := hrel
    by_cases hlt : j < m
    · have b1 : (j : Int) < (m : Int) := by omega
      have b0 : (0 : Int) ≤ (j : Int) := by omega
      obtain ⟨x, hx⟩ : ∃ x, X[j]? = some x := ⟨_, List.getElem?_eq_getElem (by rw [← HM.out]; exact hlt)⟩
      obtain ⟨g, o, rfl, z0⟩ := HC.out j x hx _ hB
      obtain ⟨v2, w2, hr1, hO2, hG2⟩ := cpush hO x.1.c (by rw [List.length_map, List.length_take]; omega) hB.size
      have HE : Hid (OW c1 1 26 w.heap.size v2 ((X.take (j + 1)).map (·.1.c)) w2 ∧ Below w.heap.size w w2) := by
        refine ⟨?_, hG2.below hB hB.size fun i e => (hO.lt i e).1⟩
        rw [take_snoc_at hx, List.map_append]
        exact hO2
      clear hO hB hO2 hG2
      go_wp2_with (at_builtin; refine Lib.wpList_append_run _ rfl _ _ _ _ rfl _ _ rfl rfl _ _ hr1 ?_)
      exact ⟨⟨j + 1, by omega, by go_num, HE.out⟩, by simp [intOf]; omega⟩
    · obtain rfl : j = m := by omega
      have e : X.take j = X := List.take_of_length_le (by have := HM.out; omega)
      rw [e] at hO
      have HE := hide (And.intro hO hB)
      clear hO hB
      go_wp2
      go_ret
      exact ⟨_, rfl, HE.out⟩
end
theorem Tryz.fldC (x0 x1 x2 : Value) (w : World) : (Instr.field 72 (.agg #[x0, x1, x2]) 0).run Tryz.prog w = .ok x0 w := by
  simp [Instr.field, go_sem, run_underlying Tryz.underlying72, asAgg]
section
variable {w w' : World} {v rv dv : Value} {S : List SS} {rs : List Nat} {P r : Nat → Prop} {ds : List ByteArray} {t : Nat} {n : ByteArray}
theorem YD.own {T : TypeId} {α : Type} {f : α → List Value} {k B : Nat} {l : List α} (h : YD P w rv S rs) (hO : OW f k T B v l w) (hg : Gs (fun i => v.ownBlock = some i) w w') (hP : ∀ i, P i → i < B) (hT : T ≠ 93) : YD P w' rv S rs :=
  h.gs hg (fun i hi e => by have := (hO.lt i e).1; have := hP i hi; omega) fun i cs fr hi e => by
    obtain ⟨cs', h'⟩ := hO.typ i e
    rw [h'] at hi
    simp at hi
    exact hT hi.2.1
set_option maxRecDepth 100000 in
set_option maxHeartbeats 6400000 in
theorem rputs_any (hY : YD P w rv S rs) (hP : ∀ i, P i → i < w.heap.size) (hG : GD t S) (ht : t + ds.length ≤ 1000) (hd : LS t1 1 r w dv ds) (hr : ∀ i, r i → i ∉ rs) (hn : n.size ≤ maxLen) (hsz : ∀ d ∈ ds, d.size ≤ maxLen) :
    Calls Tryz.prog 20 #[rv, .string n, dv] w fun e w' => ∃ v, e = .returned v ∧ OW c1 1 26 w.heap.size v ((yRs S (pq n ds)).map (·.c)) w' ∧ YD P w' rv (ySs S (pq n ds)) rs ∧ Gs (fun i => i ∈ rs) w w' := by
  obtain ⟨a, c, e⟩ := hd.shp
  subst e
  have HC : Hid (∀ j x, ds[j]? = some x → ∀ wr, Gs (fun i => i ∈ rs) w wr → ∃ g o, a = some ⟨g, o, none⟩ ∧ wr.cell? ⟨g, o + j, none⟩ = some (.string x)) := fun j x hx wr hg => by
    obtain ⟨g, o, h1, _, h2⟩ := (hd.gs hg hr).at1 hx rfl
    exact ⟨g, o, h1, h2⟩
  obtain ⟨m, hm⟩ : ∃ m, m = ds.length := ⟨_, rfl⟩
  rw [← hm] at ht ⊢
  have HM := hide hm
  have HY := hide hY
  have HP := hide hP
  have HG := hide hG
  have HSZ := hide hsz
  clear hm hd hY hG hsz hr hP
  go_enter Tryz.func20, Tryz.ntmps20
  go_wp2
  go_loopw [7, 8] (fun v i wr => ∃ j : Nat, j ≤ m ∧ i = .int .i64 j ∧ OW c1 1 26 w.heap.size v ((yRs S (pq n (ds.take j))).map (·.c)) wr ∧ YD P wr rv (ySs S (pq n (ds.take j))) rs ∧ Gs (fun i => i ∈ rs) w wr) (fun _ i _ => m - (intOf i).toNat)
  case atStart => exact ⟨0, Nat.zero_le _, rfl, by rw [List.take_zero]; exact OW.nil _ _ _ _ _, by rw [List.take_zero]; exact HY.out, Gs.refl _ _⟩
  case round =>
    obtain ⟨j, hj, rfl, hO, hYj, hGj⟩ := hrel
    by_cases hlt : j < m
    · have b1 : (j : Int) < (m : Int) := by omega
      have b0 : (0 : Int) ≤ (j : Int) := by omega
      obtain ⟨x, hx⟩ : ∃ x, ds[j]? = some x := ⟨_, List.getElem?_eq_getElem (by rw [← HM.out]; exact hlt)⟩
      obtain ⟨g, o, rfl, z0⟩ := HC.out j x hx _ hGj
      have htl : (ds.take j).length = j := by rw [List.length_take]; have := HM.out; omega
      have hGD : GD (t + (pq n (ds.take j)).length) (ySs S (pq n (ds.take j))) := GD.steps _ HG.out
      rw [pq_len, htl] at hGD
      have HAN := hide (ranswer_any hYj hGD (by omega) ⟨(j : Int), 1, n, x⟩ hn (HSZ.out x (List.mem_of_getElem? hx)))
      have HTK : Hid (pq n (ds.take (j + 1)) = pq n (ds.take j) ++ [⟨(j : Int), 1, n, x⟩]) := by show _ = _; rw [take_snoc_at hx, pq_snoc, htl]
      have HO := hide (And.intro hO hGj)
      clear hx hO hYj hGj hGD htl
      go_wp2_with fail
      refine HAN.out.mono ?_
      rintro e w1 ⟨u, rfl, hAR, hY1, hG1⟩
      obtain ⟨ua, uc, rfl, hTS⟩ := hAR.shp
      have hO1 : OW c1 1 26 w.heap.size u7 ((yRs S (pq n (ds.take j))).map (·.c)) w1 := HO.out.1.kb fun i hi => hG1.block i (HO.out.1.lt i hi).2 (fun hm => by
        have h1 := (HO.out.1.lt i hi).1
        have h2 := HP.out i (HY.out.inP i hm)
        omega)
      obtain ⟨v2, w2, hr1, hO2, hG2⟩ := cpush hO1 (yR (ySs S (pq n (ds.take j))) ⟨(j : Int), 1, n, x⟩).c (by rw [List.length_map, yRs_len, pq_len, List.length_take]; omega) (Nat.le_trans HO.out.2.size hG1.size)
      have HE : Hid (OW c1 1 26 w.heap.size v2 ((yRs S (pq n (ds.take (j + 1)))).map (·.c)) w2 ∧ YD P w2 rv (ySs S (pq n (ds.take (j + 1)))) rs ∧ Gs (fun i => i ∈ rs) w w2) := by
        refine ⟨?_, ?_, (HO.out.2.trans hG1).tr2 hG2 fun i hi e => absurd (hO1.lt i e).1 (by omega)⟩
        · rw [HTK.out, yRs_snoc, List.map_append]; exact hO2
        · rw [HTK.out, ySs_snoc]; exact hY1.own hO1 hG2 HP.out (by decide)
      clear hAR hTS hY1 hG1 hO1 hO2 hG2
      have hfC := Tryz.fldC (.int .i64 (yR (ySs S (pq n (ds.take j))) ⟨(j : Int), 1, n, x⟩).c) (.string (yR (ySs S (pq n (ds.take j))) ⟨(j : Int), 1, n, x⟩).d) (.slice ua (yR (ySs S (pq n (ds.take j))) ⟨(j : Int), 1, n, x⟩).l.length uc) w1
      go_wp2_with (at_builtin; refine Lib.wpList_append_run _ rfl _ _ _ _ rfl _ _ rfl rfl _ _ hr1 ?_)
      exact ⟨⟨j + 1, by omega, by go_num, HE.out⟩, by simp [intOf]; omega⟩
    · obtain rfl : j = m := by omega
      have e : ds.take j = ds := List.take_of_length_le (by have := HM.out; omega)
      rw [e] at hO hYj
      have HE := hide (And.intro hO (And.intro hYj hGj))
      clear hO hYj hGj
      go_wp2
      go_ret
      exact ⟨_, rfl, HE.out⟩
end
end Go.Proofs.YtiecoplfiahpnaaGreat
