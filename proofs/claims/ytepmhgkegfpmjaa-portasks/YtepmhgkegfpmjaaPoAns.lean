/-
  Port: the program's Answer; several stores, of the program and of the document.
-/
import Derived.Test.YtepmhgkegfpmjaaPtAns
import Derived.Test.YtepmhgkegfpmjaaPoGiveL
namespace Go.Proofs.Ytepmhgkegfpmjaa
open Go.RowKit Go.Lib Go.Maps
section
variable {w w1 : World} {v : Value} {bs : List Nat} {i b mb X : Nat} {s s' : SS} {st k C : Int} {n d D : ByteArray} {l : List ByteArray} {p : Nat → Prop}
theorem PX.far (h : PX w b mb s) {g j : Nat} {q : Option Addr} (hy : w.cell? ⟨g, j, none⟩ = some (.pointer q)) : ¬ two b mb g := by
  have h' : PS w b mb s.q s.f s.off s.m s.L := h
  rintro (e | e)
  · subst e
    simp only [World.cell?, h'.blk] at hy
    match j with
    | 0 => simp at hy
    | 1 => simp at hy
    | 2 => simp at hy
    | 3 => simp at hy
    | 4 => simp at hy
    | 5 => simp at hy
    | _ + 6 => simp at hy
  · subst e
    obtain ⟨cs, t, fr, hg⟩ : ∃ cs t fr, w.heap[g]? = some (.cells cs t fr) := by
      rw [World.cell?] at hy
      split at hy
      · exact ⟨_, _, _, by assumption⟩
      · cases hy
    exact h'.map.notCells hg
set_option maxRecDepth 100000 in
set_option maxHeartbeats 3200000 in
theorem answer_in (hP : RP w v bs) (hb : bs[i]? = some b) (hD : PX w b mb s) (k : Int) (n d : ByteArray) (hn : n.size ≤ maxLen) (hd : d.size ≤ maxLen) (hl : s.L.length ≤ 1000000) (hm0 : 0 ≤ s.m) (hm1 : s.m ≤ 1000000000000) (hf : s.f ≤ 1048576) :
    Calls Try.prog 40 #[v, .agg #[.int .i64 (i : Int), .int .i64 k, .string n, .string d]] w fun e w' => ∃ v, e = .returned v ∧ AR w' w.heap.size v (doR s k n d) ∧ PX w' b mb (doS s k n d) ∧ Gs (two b mb) w w' := by
  obtain ⟨a, c, rfl, h⟩ := hP
  obtain ⟨g, o, rfl, hg, hC⟩ := h.resolve_left (by intro e; rw [e] at hb; simp at hb)
  have hib : i < bs.length := (List.getElem?_eq_some_iff.1 hb).1
  have y0 := hC i b hb
  obtain ⟨N, hN⟩ : ∃ N, N = bs.length := ⟨_, rfl⟩
  rw [← hN] at hib ⊢
  obtain ⟨U, hU⟩ : ∃ U, U = (w.alloc (.cells #[.int .i64 (i : Int), .int .i64 k, .string n, .string d] 38)).alloc (.cells #[.int .i64 0, .string ⟨#[]⟩, .slice none 0 0] 45) := ⟨_, rfl⟩
  obtain ⟨X, hX⟩ : ∃ X, X = w.heap.size := ⟨_, rfl⟩
  have hBU : Below w.heap.size w U := by rw [hU]; exact ((Below.refl _ _).alloc (Nat.le_refl _) _).alloc (by simp) _
  have hq : QR U X (i : Int) k n d := by rw [hU, hX]; exact QR.new _ _ _ _ _
  have hq' : QR U.drew X (i : Int) k n d := ⟨hq.q, hq.r⟩
  have hszU : U.heap.size = X + 2 := by rw [hU, hX]; simp
  have z0 := (hBU.cell (p := ⟨g, o + i, none⟩) hg).trans y0
  have z0' : U.drew.cell? ⟨g, o + i, none⟩ = some (.pointer (some ⟨b, 0, none⟩)) := z0
  have x0 := hq.c0
  have v0 := hq'.c0
  have v1 := hq'.c1
  have v2 := hq'.c2
  have v3 := hq'.c3
  have HD : Hid _ := hide (do_any (w := U.drew) ((hD.bel hBU).bel ((Below.refl _ _).drew)) (i : Int) k n d hn hd hl hm0 hm1 hf)
  have hblt := PS.lt hD
  have hmlt := PS.mlt hD
  have hfar := hD.far y0
  have HGB : Hid (¬ two b mb g ∧ g ≠ X + 1 ∧ g < U.drew.heap.size) := by
    refine ⟨hfar, by omega, ?_⟩
    show g < U.heap.size
    omega
  have HBX : Hid (¬ two b mb X ∧ ¬ two b mb (X + 1)) := by show (¬ (X = b ∨ X = mb)) ∧ ¬ (X + 1 = b ∨ X + 1 = mb); omega
  have HB : Hid (Gs (two b mb) w U.drew) := (Gs.of_below _ hBU).trans ((Gs.refl _ _).bel ((Below.refl _ _).drew))
  have HU := hide hU
  have HX := hide hX
  have HQ := hide hq'
  have HSZ : Hid (U.drew.heap.size = X + 2) := hszU
  have b1 : (i : Int) < (N : Int) := by omega
  have b0 : (0 : Int) ≤ (i : Int) := by omega
  have HWX : Hid (w.heap.size ≤ X) := by show w.heap.size ≤ X; omega
  obtain ⟨C, D, l, hr⟩ : ∃ C D l, doR s k n d = ⟨C, D, l⟩ := ⟨_, _, _, rfl⟩
  rw [hr] at HD ⊢
  obtain ⟨s', hs'⟩ : ∃ s', s' = doS s k n d := ⟨_, rfl⟩
  rw [← hs'] at HD ⊢
  clear hq hq' hBU hC h hb hN hU hX y0 hD hszU hblt hmlt hfar hr hs'
  go_enter Try.func40, Try.ntmps40
  go_upto_region 1 with fail
  rw [← HU.out, ← HX.out]
  go_upto_region 3 with fail
  go_region_held3 (fun w' => w'.cell? ⟨X, 0, none⟩ = some (.int .i64 (i : Int)) ∧ w'.cell? ⟨X, 1, none⟩ = some (.int .i64 k) ∧ w'.cell? ⟨X, 2, none⟩ = some (.string n) ∧ w'.cell? ⟨X, 3, none⟩ = some (.string d) ∧ w'.cell? ⟨g, o + i, none⟩ = some (.pointer (some ⟨b, 0, none⟩))) (first | assumption | exact ⟨by assumption, by assumption, by assumption, by assumption, by assumption⟩ | exact ⟨v0, v1, v2, v3, z0'⟩ | exact HS5.out)
    (first | (go_at_call 52; refine HD.out.mono ?_; rintro e w1 ⟨u, rfl, hA, hD1, hG1⟩; obtain ⟨a1, c1, rfl, hT1⟩ := hA.shp; have hQ1 := HQ.out.gs hG1 HBX.out.1 HBX.out.2; have t0 := hQ1.c0; have t1 := hQ1.c1; have t2 := hQ1.c2; have t3 := hQ1.c3; have hset := set3 hQ1.r (.int .i64 C) (.string D) (.slice a1 l.length c1); have p1 := hset.1.1; have p2 := hset.1.2; have p3 := hset.2.1.1; have p4 := hset.2.1.2; have p5 := hset.2.2.1.1; have p6 := hset.2.2.1.2; have tz : w1.cell? ⟨g, o + i, none⟩ = some (.pointer (some ⟨b, 0, none⟩)) := (by simp only [World.cell?, hG1.block g HGB.out.2.2 HGB.out.1] : w1.cell? ⟨g, o + i, none⟩ = U.drew.cell? ⟨g, o + i, none⟩).trans z0'; have HS5 : Hid ((laid3 w1 (X + 1) (.int .i64 C) (.string D) (.slice a1 l.length c1)).cell? ⟨X, 0, none⟩ = some (.int .i64 (i : Int)) ∧ (laid3 w1 (X + 1) (.int .i64 C) (.string D) (.slice a1 l.length c1)).cell? ⟨X, 1, none⟩ = some (.int .i64 k) ∧ (laid3 w1 (X + 1) (.int .i64 C) (.string D) (.slice a1 l.length c1)).cell? ⟨X, 2, none⟩ = some (.string n) ∧ (laid3 w1 (X + 1) (.int .i64 C) (.string D) (.slice a1 l.length c1)).cell? ⟨X, 3, none⟩ = some (.string d) ∧ (laid3 w1 (X + 1) (.int .i64 C) (.string D) (.slice a1 l.length c1)).cell? ⟨g, o + i, none⟩ = some (.pointer (some ⟨b, 0, none⟩))) := ⟨(laid3_cell (by omega) _ _ _).trans t0, (laid3_cell (by omega) _ _ _).trans t1, (laid3_cell (by omega) _ _ _).trans t2, (laid3_cell (by omega) _ _ _).trans t3, (laid3_cell HGB.out.2.1 _ _ _).trans tz⟩; have hf4 := hset.2.2.2; have HF : Hid _ := hide (And.intro hT1 (And.intro hD1 (And.intro hG1 hQ1))); clear hT1 hD1 hG1 hQ1 hset))
  obtain ⟨hT1, hD1, hG1, hQ1⟩ := HF.out
  have HE : Hid (∃ v', Ending.returned (.agg #[.int .i64 C, .string D, .slice a1 l.length c1]) = .returned v' ∧ AR (laid3 w1 (X + 1) (.int .i64 C) (.string D) (.slice a1 l.length c1)) w.heap.size v' ⟨C, D, l⟩ ∧ PX (laid3 w1 (X + 1) (.int .i64 C) (.string D) (.slice a1 l.length c1)) b mb s' ∧ Gs (two b mb) w (laid3 w1 (X + 1) (.int .i64 C) (.string D) (.slice a1 l.length c1))) := by
    have hsz := HSZ.out
    rw [hsz] at hT1
    refine ⟨_, rfl, ⟨_, rfl, ?_⟩, PS.laid hD1 (fun e => HBX.out.2 (.inl e.symm)) (fun e => HBX.out.2 (.inr e.symm)) _ _ _, (HB.out.trans hG1).laid (by have := HWX.out; omega) _ _ _⟩
    exact (hT1.kb fun i hi => laid3_other _ _ _ (by have := (hT1.lt i hi).1; omega)).low (by have := HWX.out; omega)
  have r0 : (((w1.setCell ⟨X + 1, 0, none⟩ (.int .i64 C)).setCell ⟨X + 1, 1, none⟩ (.string D)).setCell ⟨X + 1, 2, none⟩ (.slice a1 l.length c1)).cell? ⟨X + 1, 0, none⟩ = some (.int .i64 C) := by simp [World.cell?, hf4]
  have r1 : (((w1.setCell ⟨X + 1, 0, none⟩ (.int .i64 C)).setCell ⟨X + 1, 1, none⟩ (.string D)).setCell ⟨X + 1, 2, none⟩ (.slice a1 l.length c1)).cell? ⟨X + 1, 1, none⟩ = some (.string D) := by simp [World.cell?, hf4]
  have r2 : (((w1.setCell ⟨X + 1, 0, none⟩ (.int .i64 C)).setCell ⟨X + 1, 1, none⟩ (.string D)).setCell ⟨X + 1, 2, none⟩ (.slice a1 l.length c1)).cell? ⟨X + 1, 2, none⟩ = some (.slice a1 l.length c1) := by simp [World.cell?, hf4]
  clear hT1 hD1 hG1 hQ1 HF HS5 hf4 p1 p2 p3 p4 p5 p6 t0 t1 t2 t3 tz v0 v1 v2 v3
  go_wp2
  exact bodyPost_ret (v := .agg #[.int .i64 C, .string D, .slice a1 l.length c1]) (by simp [results, Try.results40, go_sem, r0, r1, r2]) rfl HE.out
set_option maxRecDepth 100000 in
set_option maxHeartbeats 3200000 in
theorem answer_out (hP : RP w v bs) (st k : Int) (n d : ByteArray) (hst : st < 0 ∨ (bs.length : Int) ≤ st) :
    Calls Try.prog 40 #[v, .agg #[.int .i64 st, .int .i64 k, .string n, .string d]] w fun e w' => e = .returned (.agg #[.int .i64 1, .string ⟨#[]⟩, .slice none 0 0]) ∧ Below w.heap.size w w' := by
  obtain ⟨a, c, rfl, _⟩ := hP
  obtain ⟨N, hN⟩ : ∃ N, N = bs.length := ⟨_, rfl⟩
  rw [← hN] at hst ⊢
  clear hN
  by_cases h0 : st < 0
  · go_enter Try.func40, Try.ntmps40
    go_wp2
    exact bodyPost_ret (v := .agg #[.int .i64 1, .string ⟨#[]⟩, .slice none 0 0]) (by simp [results, Try.results40, go_sem]) rfl ⟨rfl, ((Below.refl _ _).alloc (Nat.le_refl _) _).alloc (by simp) _⟩
  · have h1 : (N : Int) ≤ st := by omega
    have h2 : (0 : Int) ≤ st := by omega
    go_enter Try.func40, Try.ntmps40
    go_wp2
    exact bodyPost_ret (v := .agg #[.int .i64 1, .string ⟨#[]⟩, .slice none 0 0]) (by simp [results, Try.results40, go_sem]) rfl ⟨rfl, ((Below.refl _ _).alloc (Nat.le_refl _) _).alloc (by simp) _⟩
end
end Go.Proofs.Ytepmhgkegfpmjaa
