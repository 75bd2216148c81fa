/-
  Contracts of the program and of the statements (part 4 of 8).
-/
import Derived.Test.YtiecoplfiahpnaaFb3
import Derived.BigQuiet
import Derived.Deep.QuietTactic

namespace Go.Proofs.Ytiecoplfiahpnaa
open Go.RowKit Go.Lib Go.Maps
section
variable {w w1 : World} {v : Value} {bs : List Nat} {i b mb X : Nat} {s s' : SS} {st k C : Int} {n d D : ByteArray} {l : List ByteArray} {p : Nat → Prop}
theorem PX.far (h : PX w b mb s) {g j : Nat} {q : Option Addr} (hy : w.cell? ⟨g, j, none⟩ = some (.pointer q)) : ¬ two b mb g := by
  have h' : PS w b mb s.q s.f s.off s.m s.L := h
  rintro (e | e)
  · subst e
    simp only [World.cell?, h'.blk] at hy
    match j with
    | 0 => simp at hy
    | 1 => simp at hy
    | 2 => simp at hy
    | 3 => simp at hy
    | 4 => simp at hy
    | 5 => simp at hy
    | _ + 6 => simp at hy
  · subst e
    obtain ⟨cs, t, fr, hg⟩ : ∃ cs t fr, w.heap[g]? = some (.cells cs t fr) := by
      rw [World.cell?] at hy
      split at hy
      · exact ⟨_, _, _, by assumption⟩
      · cases hy
    exact h'.map.notCells hg
set_option maxRecDepth 100000 in
set_option maxHeartbeats 3200000 in
theorem answer_in (hP : RP w v bs) (hb : bs[i]? = some b) (hD : PX w b mb s) (k : Int) (n d : ByteArray) (hn : n.size ≤ maxLen) (hd : d.size ≤ maxLen) (hl : s.L.length ≤ 1000000) (hm0 : 0 ≤ s.m) (hm1 : s.m ≤ 1000000000000) (hf : s.f ≤ 1048576) :
    Calls Try.prog 39 #[v, .agg #[.int .i64 (i : Int), .int .i64 k, .string n, .string d]] w fun e w' => ∃ v, e = .returned v ∧ AR w' w.heap.size v (doR s k n d) ∧ PX w' b mb (doS s k n d) ∧ Gs (two b mb) w w' := by
  obtain ⟨a, c, rfl, h⟩ := hP
  obtain ⟨g, o, rfl, hg, hC⟩ := h.resolve_left (by intro e; rw [e] at hb; simp at hb)
  have hib : i < bs.length := (List.getElem?_eq_some_iff.1 hb).1
  have y0 := hC i b hb
  obtain ⟨N, hN⟩ : ∃ N, N = bs.length := ⟨_, rfl⟩
  rw [← hN] at hib ⊢
  obtain ⟨U, hU⟩ : ∃ U, U = (w.alloc (.cells #[.int .i64 (i : Int), .int .i64 k, .string n, .string d] 69)).alloc (.cells #[.int .i64 0, .string ⟨#[]⟩, .slice none 0 0] 62) := ⟨_, rfl⟩
  obtain ⟨X, hX⟩ : ∃ X, X = w.heap.size := ⟨_, rfl⟩
  have hBU : Below w.heap.size w U := by rw [hU]; exact ((Below.refl _ _).alloc (Nat.le_refl _) _).alloc (by simp) _
  have hq : QR U X (i : Int) k n d := by rw [hU, hX]; exact QR.new _ _ _ _ _
  have hq' : QR U.drew X (i : Int) k n d := ⟨hq.q, hq.r⟩
  have hszU : U.heap.size = X + 2 := by rw [hU, hX]; simp
  have z0 := (hBU.cell (p := ⟨g, o + i, none⟩) hg).trans y0
  have z0' : U.drew.cell? ⟨g, o + i, none⟩ = some (.pointer (some ⟨b, 0, none⟩)) := z0
  have x0 := hq.c0
  have v0 := hq'.c0
  have v1 := hq'.c1
  have v2 := hq'.c2
  have v3 := hq'.c3
  have HD : Hid _ := hide (do_any (w := U.drew) ((hD.bel hBU).bel ((Below.refl _ _).drew)) (i : Int) k n d hn hd hl hm0 hm1 hf)
  have hblt := PS.lt hD
  have hmlt := PS.mlt hD
  have hfar := hD.far y0
  have HGB : Hid (¬ two b mb g ∧ g ≠ X + 1 ∧ g < U.drew.heap.size) := by
    refine ⟨hfar, by omega, ?_⟩
    show g < U.heap.size
    omega
  have HBX : Hid (¬ two b mb X ∧ ¬ two b mb (X + 1)) := by show (¬ (X = b ∨ X = mb)) ∧ ¬ (X + 1 = b ∨ X + 1 = mb); omega
  have HB : Hid (Gs (two b mb) w U.drew) := (Gs.of_below _ hBU).trans ((Gs.refl _ _).bel ((Below.refl _ _).drew))
  have HU := hide hU
  have HX := hide hX
  have HQ := hide hq'
  have HSZ : Hid (U.drew.heap.size = X + 2) := hszU
  have b1 : (i : Int) < (N : Int) := by omega
  have b0 : (0 : Int) ≤ (i : Int) := by omega
  have HWX : Hid (w.heap.size ≤ X) := by show w.heap.size ≤ X; omega
  obtain ⟨C, D, l, hr⟩ : ∃ C D l, doR s k n d = ⟨C, D, l⟩ := ⟨_, _, _, rfl⟩
  rw [hr] at HD ⊢
  obtain ⟨s', hs'⟩ : ∃ s', s' = doS s k n d := ⟨_, rfl⟩
  rw [← hs'] at HD ⊢
  clear hq hq' hBU hC h hb hN hU hX y0 hD hszU hblt hmlt hfar hr hs'
  go_enter Try.func39, Try.ntmps39
  go_upto_region 1 with fail
  rw [← HU.out, ← HX.out]
  go_upto_region 3 with fail
  go_region_held3 (fun w' => w'.cell? ⟨X, 0, none⟩ = some (.int .i64 (i : Int)) ∧ w'.cell? ⟨X, 1, none⟩ = some (.int .i64 k) ∧ w'.cell? ⟨X, 2, none⟩ = some (.string n) ∧ w'.cell? ⟨X, 3, none⟩ = some (.string d) ∧ w'.cell? ⟨g, o + i, none⟩ = some (.pointer (some ⟨b, 0, none⟩))) (first | assumption | exact ⟨by assumption, by assumption, by assumption, by assumption, by assumption⟩ | exact ⟨v0, v1, v2, v3, z0'⟩ | exact HS5.out)
    (first | (go_at_call 52; refine HD.out.mono ?_; rintro e w1 ⟨u, rfl, hA, hD1, hG1⟩; obtain ⟨a1, c1, rfl, hT1⟩ := hA.shp; have hQ1 := HQ.out.gs hG1 HBX.out.1 HBX.out.2; have t0 := hQ1.c0; have t1 := hQ1.c1; have t2 := hQ1.c2; have t3 := hQ1.c3; have hset := set3 hQ1.r (.int .i64 C) (.string D) (.slice a1 l.length c1); have p1 := hset.1.1; have p2 := hset.1.2; have p3 := hset.2.1.1; have p4 := hset.2.1.2; have p5 := hset.2.2.1.1; have p6 := hset.2.2.1.2; have tz : w1.cell? ⟨g, o + i, none⟩ = some (.pointer (some ⟨b, 0, none⟩)) := (by simp only [World.cell?, hG1.block g HGB.out.2.2 HGB.out.1] : w1.cell? ⟨g, o + i, none⟩ = U.drew.cell? ⟨g, o + i, none⟩).trans z0'; have HS5 : Hid ((laid3 w1 (X + 1) (.int .i64 C) (.string D) (.slice a1 l.length c1)).cell? ⟨X, 0, none⟩ = some (.int .i64 (i : Int)) ∧ (laid3 w1 (X + 1) (.int .i64 C) (.string D) (.slice a1 l.length c1)).cell? ⟨X, 1, none⟩ = some (.int .i64 k) ∧ (laid3 w1 (X + 1) (.int .i64 C) (.string D) (.slice a1 l.length c1)).cell? ⟨X, 2, none⟩ = some (.string n) ∧ (laid3 w1 (X + 1) (.int .i64 C) (.string D) (.slice a1 l.length c1)).cell? ⟨X, 3, none⟩ = some (.string d) ∧ (laid3 w1 (X + 1) (.int .i64 C) (.string D) (.slice a1 l.length c1)).cell? ⟨g, o + i, none⟩ = some (.pointer (some ⟨b, 0, none⟩))) := ⟨(laid3_cell (by omega) _ _ _).trans t0, (laid3_cell (by omega) _ _ _).trans t1, (laid3_cell (by omega) _ _ _).trans t2, (laid3_cell (by omega) _ _ _).trans t3, (laid3_cell HGB.out.2.1 _ _ _).trans tz⟩; have hf4 := hset.2.2.2; have HF : Hid _ := hide (And.intro hT1 (And.intro hD1 (And.intro hG1 hQ1))); clear hT1 hD1 hG1 hQ1 hset))
  obtain ⟨hT1, hD1, hG1, hQ1⟩ := HF.out
  have HE : Hid (∃ v', Ending.returned (.agg #[.int .i64 C, .string D, .slice a1 l.length c1]) = .returned v' ∧ AR (laid3 w1 (X + 1) (.int .i64 C) (.string D) (.slice a1 l.length c1)) w.heap.size v' ⟨C, D, l⟩ ∧ PX (laid3 w1 (X + 1) (.int .i64 C) (.string D) (.slice a1 l.length c1)) b mb s' ∧ Gs (two b mb) w (laid3 w1 (X + 1) (.int .i64 C) (.string D) (.slice a1 l.length c1))) := by
    have hsz := HSZ.out
    rw [hsz] at hT1
    refine ⟨_, rfl, ⟨_, rfl, ?_⟩, PS.laid hD1 (fun e => HBX.out.2 (.inl e.symm)) (fun e => HBX.out.2 (.inr e.symm)) _ _ _, (HB.out.trans hG1).laid (by have := HWX.out; omega) _ _ _⟩
    exact (hT1.kb fun i hi => laid3_other _ _ _ (by have := (hT1.lt i hi).1; omega)).low (by have := HWX.out; omega)
  have r0 : (((w1.setCell ⟨X + 1, 0, none⟩ (.int .i64 C)).setCell ⟨X + 1, 1, none⟩ (.string D)).setCell ⟨X + 1, 2, none⟩ (.slice a1 l.length c1)).cell? ⟨X + 1, 0, none⟩ = some (.int .i64 C) := by simp [World.cell?, hf4]
  have r1 : (((w1.setCell ⟨X + 1, 0, none⟩ (.int .i64 C)).setCell ⟨X + 1, 1, none⟩ (.string D)).setCell ⟨X + 1, 2, none⟩ (.slice a1 l.length c1)).cell? ⟨X + 1, 1, none⟩ = some (.string D) := by simp [World.cell?, hf4]
  have r2 : (((w1.setCell ⟨X + 1, 0, none⟩ (.int .i64 C)).setCell ⟨X + 1, 1, none⟩ (.string D)).setCell ⟨X + 1, 2, none⟩ (.slice a1 l.length c1)).cell? ⟨X + 1, 2, none⟩ = some (.slice a1 l.length c1) := by simp [World.cell?, hf4]
  clear hT1 hD1 hG1 hQ1 HF HS5 hf4 p1 p2 p3 p4 p5 p6 t0 t1 t2 t3 tz v0 v1 v2 v3
  go_wp2
  exact bodyPost_ret (v := .agg #[.int .i64 C, .string D, .slice a1 l.length c1]) (by simp [results, Try.results39, go_sem, r0, r1, r2]) rfl HE.out
set_option maxRecDepth 100000 in
set_option maxHeartbeats 3200000 in
theorem answer_out (hP : RP w v bs) (st k : Int) (n d : ByteArray) (hst : st < 0 ∨ (bs.length : Int) ≤ st) :
    Calls Try.prog 39 #[v, .agg #[.int .i64 st, .int .i64 k, .string n, .string d]] w fun e w' => e = .returned (.agg #[.int .i64 1, .string ⟨#[]⟩, .slice none 0 0]) ∧ Below w.heap.size w w' := by
  obtain ⟨a, c, rfl, _⟩ := hP
  obtain ⟨N, hN⟩ : ∃ N, N = bs.length := ⟨_, rfl⟩
  rw [← hN] at hst ⊢
  clear hN
  by_cases h0 : st < 0
  · go_enter Try.func39, Try.ntmps39
    go_wp2
    exact bodyPost_ret (v := .agg #[.int .i64 1, .string ⟨#[]⟩, .slice none 0 0]) (by simp [results, Try.results39, go_sem]) rfl ⟨rfl, ((Below.refl _ _).alloc (Nat.le_refl _) _).alloc (by simp) _⟩
  · have h1 : (N : Int) ≤ st := by omega
    have h2 : (0 : Int) ≤ st := by omega
    go_enter Try.func39, Try.ntmps39
    go_wp2
    exact bodyPost_ret (v := .agg #[.int .i64 1, .string ⟨#[]⟩, .slice none 0 0]) (by simp [results, Try.results39, go_sem]) rfl ⟨rfl, ((Below.refl _ _).alloc (Nat.le_refl _) _).alloc (by simp) _⟩
end
end Go.Proofs.Ytiecoplfiahpnaa

namespace Go.Proofs.Ytiecoplfiahpnaa
open Go.RowKit Go.Lib Go.Maps

/-- The answer of stores. -/
def yR (S : List SS) (q : QT) : RR := if 0 ≤ q.st then (match S[q.st.toNat]? with | some s => doR s q.k q.n q.d | none => ⟨1, ⟨#[]⟩, []⟩) else ⟨1, ⟨#[]⟩, []⟩
def yS (S : List SS) (q : QT) : List SS := if 0 ≤ q.st then (match S[q.st.toNat]? with | some s => S.set q.st.toNat (doS s q.k q.n q.d) | none => S) else S
def yRs : List SS → List QT → List RR
  | _, [] => []
  | S, q :: r => yR S q :: yRs (yS S q) r
def ySs : List SS → List QT → List SS
  | S, [] => S
  | S, q :: r => ySs (yS S q) r
theorem yRs_len : ∀ (l : List QT) (S : List SS), (yRs S l).length = l.length
  | [], _ => rfl
  | q :: r, S => by rw [yRs, List.length_cons, yRs_len r, List.length_cons]
theorem yRs_snoc : ∀ (l : List QT) (S : List SS) (q : QT), yRs S (l ++ [q]) = yRs S l ++ [yR (ySs S l) q]
  | [], S, q => rfl
  | p :: r, S, q => by rw [List.cons_append, yRs, yRs, ySs, yRs_snoc r]; rfl
theorem ySs_snoc : ∀ (l : List QT) (S : List SS) (q : QT), ySs S (l ++ [q]) = yS (ySs S l) q
  | [], S, q => rfl
  | p :: r, S, q => by rw [List.cons_append, ySs, ySs, ySs_snoc r]
theorem yS_len (S : List SS) (q : QT) : (yS S q).length = S.length := by
  rw [yS]
  split
  · split
    · simp
    · rfl
  · rfl
theorem ySs_len : ∀ (l : List QT) (S : List SS), (ySs S l).length = S.length
  | [], _ => rfl
  | q :: r, S => by rw [ySs, ySs_len r, yS_len]
/-- What a store may be. -/
structure GO (t : Nat) (s : SS) : Prop where
  ris : Ris s.L
  sm : ∀ p ∈ s.L, p.n.size ≤ 96 ∧ p.d.size ≤ 131072
  len : s.L.length ≤ t
  m0 : 0 ≤ s.m
  mt : s.m ≤ t
  f : s.f ≤ 1048576
def GD (t : Nat) (S : List SS) : Prop := ∀ s ∈ S, GO t s
theorem GO.mono {t t' : Nat} {s : SS} (h : GO t s) (ht : t ≤ t') : GO t' s := ⟨h.ris, h.sm, Nat.le_trans h.len ht, h.m0, Int.le_trans h.mt (by omega), h.f⟩
theorem doS_okp (s : SS) (k : Int) (n d : ByteArray) : (doS s k n d).L.length ≤ s.L.length + 1 ∧ s.m ≤ (doS s k n d).m ∧ (doS s k n d).m ≤ s.m + 1 ∧ (doS s k n d).f ≤ s.f := by
  rw [doS]
  have h1 := len_lay s.L n d
  have h2 := len_del s.L n
  split
  · exact ⟨by show s.L.length ≤ _; omega, by show s.m ≤ s.m + 1; omega, by show s.m + 1 ≤ s.m + 1; omega, Int.le_refl _⟩
  · split
    · exact ⟨by show s.L.length ≤ _; omega, by show s.m ≤ s.m + 1; omega, by show s.m + 1 ≤ s.m + 1; omega, by show s.f - 1 ≤ s.f; omega⟩
    · refine ⟨?_, by show s.m ≤ s.m + 1; omega, by show s.m + 1 ≤ s.m + 1; omega, Int.le_refl _⟩
      dsimp only
      rw [putL]
      (repeat' split) <;> omega
theorem GO.step {t : Nat} {s : SS} (h : GO t s) (k : Int) (n d : ByteArray) : GO (t + 1) (doS s k n d) := by
  obtain ⟨h1, h2, h3, h4⟩ := doS_okp s k n d
  have hL : Ris (doS s k n d).L ∧ ∀ p ∈ (doS s k n d).L, p.n.size ≤ 96 ∧ p.d.size ≤ 131072 := by
    rw [doS]
    split
    · exact ⟨h.ris, h.sm⟩
    · split
      · exact ⟨h.ris, h.sm⟩
      · dsimp only
        split
        · rw [putL]
          split
          · rename_i hp
            rw [pcode] at hp
            split at hp
            · rename_i hm
              split at hp
              · rename_i hd
                exact ⟨ris_lay h.ris n d, small_lay h.sm (mayB_size hm) hd⟩
              · cases hp
            · cases hp
          · exact ⟨h.ris, h.sm⟩
        · split
          · exact ⟨ris_del h.ris n, small_del h.sm n⟩
          · exact ⟨h.ris, h.sm⟩
  have := h.len
  have := h.m0
  have := h.mt
  have := h.f
  exact ⟨hL.1, hL.2, by omega, by omega, by omega, by omega⟩
theorem GD.step {t : Nat} {S : List SS} (h : GD t S) (q : QT) : GD (t + 1) (yS S q) := by
  rw [yS]
  split
  · split
    · rename_i s hs
      intro x hx
      rcases List.mem_or_eq_of_mem_set hx with hx | hx
      · exact (h x hx).mono (by omega)
      · rw [hx]; exact (h s (List.mem_of_getElem? hs)).step _ _ _
    · exact fun x hx => (h x hx).mono (by omega)
  · exact fun x hx => (h x hx).mono (by omega)
theorem GD.steps : ∀ (l : List QT) {t : Nat} {S : List SS}, GD t S → GD (t + l.length) (ySs S l)
  | [], _, _, h => h
  | q :: r, t, S, h => by
    have := GD.steps r (h.step q)
    rw [ySs, List.length_cons, show t + (r.length + 1) = t + 1 + r.length by omega]
    exact this
theorem doR_names (s : SS) (k : Int) (n d : ByteArray) : (doR s k n d).l.length ≤ s.L.length := by
  rw [doR]
  split
  · simp
  · split
    · simp
    · split
      · simp
      · split
        · simp
        · split
          · exact names_len _ _
          · split <;> simp
theorem yR_names {t : Nat} {S : List SS} (h : GD t S) (q : QT) : (yR S q).l.length ≤ t := by
  rw [yR]
  split
  · split
    · rename_i s hs
      exact Nat.le_trans (doR_names _ _ _ _) (h s (List.mem_of_getElem? hs)).len
    · simp
  · simp
theorem resI_app (A B : List RR) : resI (A ++ B) = resI A ++ resI B := by simp [resI]
theorem yRs_names : ∀ (l : List QT) {t : Nat} {S : List SS}, GD t S → (resI (yRs S l)).length ≤ l.length * (t + l.length)
  | [], _, _, _ => by simp [yRs, resI]
  | q :: r, t, S, h => by
    have h1 := yRs_names r (h.step q)
    have h2 := yR_names h q
    rw [yRs, show yR S q :: yRs (yS S q) r = [yR S q] ++ yRs (yS S q) r from rfl, resI_app, List.length_append]
    have h3 : (resI [yR S q]).length = (yR S q).l.length := by simp [resI]
    rw [h3, List.length_cons, Nat.add_mul, Nat.one_mul, show t + (r.length + 1) = t + 1 + r.length by omega]
    omega

/-- Pointers to blocks, in a list in P. -/
def RPp (P : Nat → Prop) (w : World) (v : Value) (bs : List Nat) : Prop :=
  ∃ a c, v = .slice a bs.length c ∧ (bs = [] ∨ ∃ g o, a = some ⟨g, o, none⟩ ∧ P g ∧ g < w.heap.size ∧ ∀ i b, bs[i]? = some b → w.cell? ⟨g, o + i, none⟩ = some (.pointer (some ⟨b, 0, none⟩)))
/-- A yard of the program: its stores lie apart. -/
structure YP (P : Nat → Prop) (w : World) (v : Value) (S : List SS) (bs : List (Nat × Nat)) : Prop where
  rp : RPp P w v (bs.map (·.1))
  len : bs.length = S.length
  px : ∀ (i : Nat) (e : Nat × Nat) (s : SS), bs[i]? = some e → S[i]? = some s → PX w e.1 e.2 s
  inP : ∀ e ∈ bs, P e.1 ∧ P e.2
  ap : ∀ (i j : Nat) (e f : Nat × Nat), bs[i]? = some e → bs[j]? = some f → i ≠ j → e.1 ≠ f.1 ∧ e.2 ≠ f.2
section
variable {P p : Nat → Prop} {w w' : World} {v : Value} {S : List SS} {bs : List (Nat × Nat)} {t : Nat}
theorem RPp.rp {bs : List Nat} (h : RPp P w v bs) : RP w v bs := by
  obtain ⟨a, c, e, h | ⟨g, o, ea, _, h⟩⟩ := h
  · exact ⟨a, c, e, .inl h⟩
  · exact ⟨a, c, e, .inr ⟨g, o, ea, h⟩⟩
theorem RPp.kb {bs : List Nat} (h : RPp P w v bs) (hs : w.heap.size ≤ w'.heap.size) (hk : ∀ i, i < w.heap.size → P i → (∃ j q, w.cell? ⟨i, j, none⟩ = some (.pointer q)) → w'.heap[i]? = w.heap[i]?) : RPp P w' v bs := by
  obtain ⟨a, c, e, h | ⟨g, o, ea, hP, hg, h⟩⟩ := h
  · exact ⟨a, c, e, .inl h⟩
  · refine ⟨a, c, e, .inr ⟨g, o, ea, hP, Nat.lt_of_lt_of_le hg hs, fun i b hb => ?_⟩⟩
    have hc := h i b hb
    have := hk g hg hP ⟨_, _, hc⟩
    simp only [World.cell?, this] at hc ⊢
    exact hc
theorem YP.gs (h : YP P w v S bs) (hg : Gs p w w') (hp : ∀ i, P i → ¬ p i) : YP P w' v S bs :=
  ⟨h.rp.kb hg.size fun i hi hP _ => hg.block i hi (hp i hP), h.len, fun i e s he hs => PS.gs (h.px i e s he hs) hg (hp _ (h.inP e (List.mem_of_getElem? he)).1) (hp _ (h.inP e (List.mem_of_getElem? he)).2), h.inP, h.ap⟩
theorem YP.bel (h : YP P w v S bs) (hb : Below w.heap.size w w') : YP P w' v S bs :=
  ⟨h.rp.kb hb.size fun i hi _ _ => hb.block i hi, h.len, fun i e s he hs => PS.bel (h.px i e s he hs) hb, h.inP, h.ap⟩
theorem YP.cross (h : YP P w v S bs) {i j : Nat} {e f : Nat × Nat} (he : bs[i]? = some e) (hf : bs[j]? = some f) : e.1 ≠ f.2 := fun eq => by
  obtain ⟨s, hs⟩ : ∃ s, S[i]? = some s := ⟨_, List.getElem?_eq_getElem (by rw [← h.len]; exact (List.getElem?_eq_some_iff.1 he).1)⟩
  obtain ⟨s', hs'⟩ : ∃ s, S[j]? = some s := ⟨_, List.getElem?_eq_getElem (by rw [← h.len]; exact (List.getElem?_eq_some_iff.1 hf).1)⟩
  have h1 : PS w e.1 e.2 s.q s.f s.off s.m s.L := h.px i e s he hs
  have h2 : PS w f.1 f.2 s'.q s'.f s'.off s'.m s'.L := h.px j f s' hf hs'
  have hb := h1.blk
  rw [eq] at hb
  exact h2.map.notCells hb
theorem YP.put (h : YP P w v S bs) {i : Nat} {e : Nat × Nat} {s s' : SS} (he : bs[i]? = some e) (hs : S[i]? = some s) (hg : Gs (two e.1 e.2) w w') (hX : PX w' e.1 e.2 s') : YP P w' v (S.set i s') bs := by
  refine ⟨h.rp.kb hg.size fun j hj _ hc => hg.block j hj ?_, by rw [List.length_set]; exact h.len, fun j f x hf hx => ?_, h.inP, h.ap⟩
  · obtain ⟨_, _, hc⟩ := hc
    exact (h.px i e s he hs).far hc
  · rw [List.getElem?_set] at hx
    by_cases hij : i = j
    · subst hij
      have hil : i < S.length := (List.getElem?_eq_some_iff.1 hs).1
      rw [if_pos rfl, if_pos hil] at hx
      cases hx
      rw [he] at hf
      cases hf
      exact hX
    · rw [if_neg hij] at hx
      have := h.ap i j e f he hf hij
      refine PS.gs (h.px j f x hf hx) hg ?_ ?_
      · rintro (q | q)
        · exact this.1 q.symm
        · exact h.cross hf he q
      · rintro (q | q)
        · exact h.cross he hf q.symm
        · exact this.2 q.symm
theorem answer_any (h : YP P w v S bs) (hG : GD t S) (ht : t ≤ 1000) (q : QT) (hn : q.n.size ≤ maxLen) (hd : q.d.size ≤ maxLen) :
    Calls Try.prog 39 #[v, .agg #[.int .i64 q.st, .int .i64 q.k, .string q.n, .string q.d]] w fun e w' => ∃ u, e = .returned u ∧ AR w' w.heap.size u (yR S q) ∧ YP P w' v (yS S q) bs ∧ Gs P w w' := by
  by_cases h0 : 0 ≤ q.st
  · cases hs : S[q.st.toNat]? with
    | some s =>
      obtain ⟨e, he⟩ : ∃ e, bs[q.st.toNat]? = some e := ⟨_, List.getElem?_eq_getElem (by rw [h.len]; exact (List.getElem?_eq_some_iff.1 hs).1)⟩
      have hg := hG s (List.mem_of_getElem? hs)
      have hst : q.st = ((q.st.toNat : Nat) : Int) := by omega
      rw [yR, yS, if_pos h0, if_pos h0, hs]
      dsimp only
      have := answer_in h.rp.rp (i := q.st.toNat) (b := e.1) (by rw [List.getElem?_map, he]; rfl) (h.px _ e s he hs) q.k q.n q.d hn hd (by have := hg.len; omega) hg.m0 (by have := hg.mt; omega) hg.f
      rw [← hst] at this
      refine this.mono ?_
      rintro e' w' ⟨u, rfl, hA, hX, hG2⟩
      exact ⟨u, rfl, hA, h.put he hs hG2 hX, hG2.mono fun i _ hi => by
        rcases hi with hi | hi
        · rw [hi]; exact (h.inP e (List.mem_of_getElem? he)).1
        · rw [hi]; exact (h.inP e (List.mem_of_getElem? he)).2⟩
    | none =>
      rw [yR, yS, if_pos h0, if_pos h0, hs]
      have hl : S.length ≤ q.st.toNat := List.getElem?_eq_none_iff.1 hs
      refine (answer_out h.rp.rp q.st q.k q.n q.d (.inr (by rw [List.length_map, h.len]; omega))).mono ?_
      rintro e' w' ⟨rfl, hb⟩
      exact ⟨_, rfl, ⟨_, rfl, TS.nil _ _⟩, h.bel hb, Gs.of_below _ hb⟩
  · rw [yR, yS, if_neg h0, if_neg h0]
    refine (answer_out h.rp.rp q.st q.k q.n q.d (.inl (by omega))).mono ?_
    rintro e' w' ⟨rfl, hb⟩
    exact ⟨_, rfl, ⟨_, rfl, TS.nil _ _⟩, h.bel hb, Gs.of_below _ hb⟩
end
end Go.Proofs.Ytiecoplfiahpnaa

namespace Go.Proofs.Ytiecoplfiahpnaa
open Go.RowKit Go.Lib Go.Maps

/-- A job at block b that asks L in order: J tells what it is behind the answers A, in blocks of P. -/
structure JOB (J : List RR → (Nat → Prop) → World → Prop) (L : List QT) (b : Nat) : Prop where
  gs : ∀ {A : List RR} {P p : Nat → Prop} {w w' : World}, J A P w → Gs p w w' → (∀ i, P i → ¬ p i) → J A P w'
  lt : ∀ {A : List RR} {P : Nat → Prop} {w : World}, J A P w → ∀ i, P i → i < w.heap.size
  hb : ∀ {A : List RR} {P : Nat → Prop} {w : World}, J A P w → P b
  le : ∀ {A : List RR} {P : Nat → Prop} {w : World}, J A P w → A.length ≤ L.length
  next1 : ∀ {A : List RR} {P : Nat → Prop} {w : World} {q : QT}, J A P w → L[A.length]? = some q → Calls Try.prog 37 #[.pointer (some ⟨b, 0, none⟩)] w fun e w' => e = .returned (.tuple #[.agg #[.int .i64 q.st, .int .i64 q.k, .string q.n, .string q.d], .bool true]) ∧ Below w.heap.size w w'
  next0 : ∀ {A : List RR} {P : Nat → Prop} {w : World}, J A P w → A.length = L.length → Calls Try.prog 37 #[.pointer (some ⟨b, 0, none⟩)] w fun e w' => e = .returned (.tuple #[.agg #[.int .i64 0, .int .i64 0, .string ⟨#[]⟩, .string ⟨#[]⟩], .bool false]) ∧ Below w.heap.size w w'
  over : ∀ {A : List RR} {P : Nat → Prop} {w : World}, J A P w → Calls Try.prog 40 #[.pointer (some ⟨b, 0, none⟩)] w fun e w' => e = .returned (.bool (!decide (A.length < L.length))) ∧ w' = w
  give : ∀ {A : List RR} {P r0 : Nat → Prop} {w : World} {u : Value} {ll : List ByteArray} (cc : Int) (dd : ByteArray), J A P w → A.length < L.length → LS t1 1 r0 w u ll → ¬ r0 b → ll.length ≤ 1000000000000 → (resI (A ++ [⟨cc, dd, ll⟩])).length ≤ 1000000000000 → (∀ y ∈ ll, y.size ≤ maxLen) →
    Calls Try.prog 38 #[.pointer (some ⟨b, 0, none⟩), .agg #[.int .i64 cc, .string dd, u]] w fun e w' => e = .returned (.int .i64 0) ∧ ∃ P', J (A ++ [⟨cc, dd, ll⟩]) P' w' ∧ Gs P w w' ∧ ∀ i, P' i → P i ∨ w.heap.size ≤ i
theorem yR_small {t : Nat} {S : List SS} (h : GD t S) (q : QT) : ∀ y ∈ (yR S q).l, y.size ≤ maxLen := by
  rw [yR]
  split
  · split
    · rename_i s hs
      have hg := h s (List.mem_of_getElem? hs)
      rw [doR]
      (repeat' split) <;> intro y hy <;> try (simp at hy; done)
      obtain ⟨p, hp, rfl⟩ := List.mem_map.1 hy
      have := (hg.sm p (List.mem_filter.1 hp).1).1
      unfold maxLen; omega
    · intro y hy; simp at hy
  · intro y hy; simp at hy

theorem Gs.tr2 {p p' : Nat → Prop} {w w1 w2 : World} (h : Gs p w w1) (k : Gs p' w1 w2) (hp : ∀ i, i < w.heap.size → p' i → p i) : Gs p w w2 :=
  ⟨k.os.trans h.os, k.tape.trans h.tape, k.output.trans h.output, Nat.le_trans h.size k.size, fun i hi hn => (k.block i (Nat.lt_of_lt_of_le hi h.size) (fun e => hn (hp i hi e))).trans (h.block i hi hn)⟩
/-- Where a run stands. -/
structure RU (J : List RR → (Nat → Prop) → World → Prop) (w wr : World) (A : List RR) (D : List QT) (S : List SS) (bs : List (Nat × Nat)) (v : Value) (Pj Py Pj' : Nat → Prop) (t : Nat) : Prop where
  j : J (A ++ yRs S (D.take t)) Pj' wr
  y : YP Py wr v (ySs S (D.take t)) bs
  g : Gs (fun i => Pj i ∨ Py i) w wr
  p : ∀ i, Pj' i → Pj i ∨ w.heap.size ≤ i
section
variable {J : List RR → (Nat → Prop) → World → Prop} {L D : List QT} {b : Nat} {A : List RR} {Pj Py Pj' : Nat → Prop} {w wr w' : World} {v : Value} {S : List SS} {bs : List (Nat × Nat)} {t g : Nat}
theorem RU.bel (hJ : JOB J L b) (h : RU J w wr A D S bs v Pj Py Pj' t) (hb : Below wr.heap.size wr w') : RU J w w' A D S bs v Pj Py Pj' t := by
  have hl := hJ.lt h.j
  exact ⟨hJ.gs (p := fun i => wr.heap.size ≤ i) h.j (Gs.of_below _ hb) (fun i hi hn => by have := hl i hi; omega), h.y.bel hb, h.g.bel hb, h.p⟩
set_option maxRecDepth 100000 in
set_option maxHeartbeats 3200000 in
theorem run_any (hJ : JOB J L b) (h : J A Pj w) (hY : YP Py w v S bs) (hap : ∀ i, Pj i → ¬ Py i) (hPy : ∀ i, Py i → i < w.heap.size) (hG : GD g S) (hg : g + L.length ≤ 1000) (hI : (resI A).length ≤ 1000000000) (hq : ∀ q ∈ L, q.n.size ≤ maxLen ∧ q.d.size ≤ maxLen) (most : Int) (hm : 0 ≤ most) :
    Calls Try.prog 18 #[.pointer (some ⟨b, 0, none⟩), v, .int .i64 most] w fun e w' => ∃ t : Nat, t = min (L.length - A.length) most.toNat ∧ e = .returned (.tuple #[.int .i64 (t : Int), .int .i64 (if A.length + t < L.length then 2 else 0)]) ∧ ∃ Pj', RU J w w' A (L.drop A.length) S bs v Pj Py Pj' t := by
  obtain ⟨D, hD⟩ : ∃ D, D = L.drop A.length := ⟨_, rfl⟩
  rw [← hD]
  have hAL := hJ.le h
  have hDl : D.length = L.length - A.length := by rw [hD]; simp
  have H0 : Hid (RU J w w A D S bs v Pj Py Pj 0) := ⟨by simpa [yRs] using h, by simpa [ySs] using hY, Gs.refl _ _, fun i hi => .inl hi⟩
  have hm2 : ¬ most < 0 := by omega
  have HD := hide (And.intro hD hDl)
  have hLl : L.length ≤ 1000 := by omega
  have HJ := hide hJ
  have HG := hide hG
  have HQ := hide hq
  have HAP := hide (And.intro hap hPy)
  clear h hY hap hPy hG hq hD hDl hJ
  go_enter Try.func18, Try.ntmps18
  go_wp2
  go_loopw [6] (fun i wr => ∃ (t : Nat) (Pj' : Nat → Prop), t ≤ L.length - A.length ∧ (t : Int) ≤ most ∧ i = .int .i64 t ∧ RU J w wr A D S bs v Pj Py Pj' t) (fun i _ => 1000 - (intOf i).toNat)
  case atStart => exact ⟨0, Pj, Nat.zero_le _, by omega, rfl, H0.out⟩
  case round =>
    obtain ⟨t, Pj', ht, htm, rfl, hR⟩ := hrel
    have HR := hide hR
    clear hR
    have hlen : (A ++ yRs S (D.take t)).length = A.length + t := by
      have := HD.out.2
      rw [List.length_append, yRs_len, List.length_take]; omega
    by_cases hlt : (t : Int) < most
    · by_cases hw : A.length + t < L.length
      · obtain ⟨q, hq⟩ : ∃ q, L[A.length + t]? = some q := ⟨_, List.getElem?_eq_getElem hw⟩
        have HN := hide (HJ.out.next1 HR.out.j (by rw [hlen]; exact hq))
        have HHQ := hide hq
        have hqs := HQ.out q (List.mem_of_getElem? hq)
        have HDt : Hid (D.take (t + 1) = D.take t ++ [q]) := take_snoc_at (by rw [HD.out.1, List.getElem?_drop]; exact hq)
        clear hq
        go_wp2_with fail
        refine HN.out.mono ?_
        rintro e w1 ⟨rfl, hB1⟩
        obtain ⟨Zw, hZw⟩ : ∃ Zw, Zw = w1.alloc (.cells #[.int .i64 q.st, .int .i64 q.k, .string q.n, .string q.d] 69) := ⟨_, rfl⟩
        have hRZ : RU J w Zw A D S bs v Pj Py Pj' t := by
          rw [hZw]
          exact ((HR.out.bel HJ.out hB1).bel HJ.out ((Below.refl _ _).alloc (Nat.le_refl _) _))
        have hGt : GD (g + (D.take t).length) (ySs S (D.take t)) := GD.steps _ HG.out
        have htl : (D.take t).length = t := by have := HD.out.2; rw [List.length_take]; omega
        have HA := hide (answer_any hRZ.y hGt (by omega) q hqs.1 hqs.2)
        have HRZ := hide hRZ
        have HGT := hide hGt
        have HZw := hide hZw
        have HTL := hide htl
        have hblk : Zw.heap[w1.heap.size]? = some (.cells #[.int .i64 q.st, .int .i64 q.k, .string q.n, .string q.d] 69 (0, 0)) := by rw [hZw]; exact heap_alloc_new w1 _
        have k0 : Zw.cell? ⟨w1.heap.size, 0, none⟩ = some (.int .i64 q.st) := by simp [World.cell?, hblk]
        have k1 : Zw.cell? ⟨w1.heap.size, 1, none⟩ = some (.int .i64 q.k) := by simp [World.cell?, hblk]
        have k2 : Zw.cell? ⟨w1.heap.size, 2, none⟩ = some (.string q.n) := by simp [World.cell?, hblk]
        have k3 : Zw.cell? ⟨w1.heap.size, 3, none⟩ = some (.string q.d) := by simp [World.cell?, hblk]
        clear hRZ hGt hZw htl hblk hB1 hqs
        go_upto_region 8 with fail
        rw [← HZw.out]
        go_wp2_with fail
        refine HA.out.mono ?_
        rintro e w3 ⟨u, rfl, hAR, hY3, hG3⟩
        have hdis : ∀ i, Pj' i → ¬ Py i := fun i hi hp => by
          rcases HR.out.p i hi with h | h
          · exact HAP.out.1 i h hp
          · have := HAP.out.2 i hp; omega
        have hJ3 := HJ.out.gs HRZ.out.j hG3 hdis
        have hbZ := HJ.out.lt HRZ.out.j b (HJ.out.hb HRZ.out.j)
        obtain ⟨ua, uc, rfl, hTS⟩ := hAR.shp
        have hnm := yR_names HGT.out q
        have hGv := HJ.out.give (r0 := fun i => Zw.heap.size ≤ i) (yR (ySs S (D.take t)) q).c (yR (ySs S (D.take t)) q).d hJ3 (by rw [hlen]; exact hw) (hTS.ls fun i hi => (hTS.lt i hi).1) (by omega) (by have := HTL.out; omega) (by
          have e : A ++ yRs S (D.take t) ++ [(⟨(yR (ySs S (D.take t)) q).c, (yR (ySs S (D.take t)) q).d, (yR (ySs S (D.take t)) q).l⟩ : RR)] = A ++ yRs S (D.take t ++ [q]) := by rw [yRs_snoc, List.append_assoc]
          rw [e, resI_app, List.length_append]
          have h1 := yRs_names (D.take t ++ [q]) HG.out
          have h2 : (D.take t ++ [q]).length = t + 1 := by rw [List.length_append, HTL.out]; rfl
          rw [h2] at h1
          have h3 : (t + 1) * (g + (t + 1)) ≤ 1000 * 1000 := Nat.mul_le_mul (by omega) (by omega)
          omega) (yR_small HGT.out q)
        have HGv := hide hGv
        have HF3 := hide (And.intro hY3 (And.intro hG3 hdis))
        obtain ⟨un, hun⟩ : ∃ un, un = (yR (ySs S (D.take t)) q).l.length := ⟨_, rfl⟩
        rw [← hun] at HGv ⊢
        clear hY3 hG3 hdis hJ3 hbZ hTS hnm hGv hAR hun
        go_wp2_with fail
        refine HGv.out.mono ?_
        rintro e w4 ⟨rfl, P4, hJ4, hG4, hP4⟩
        have HE : Hid (RU J w w4 A D S bs v Pj Py P4 (t + 1)) := by
          obtain ⟨hY3, hG3, hdis⟩ := HF3.out
          have hs1 := HRZ.out.g.size
          have hs2 := hG3.size
          refine ⟨?_, ?_, ?_, ?_⟩
          · rw [HDt.out, yRs_snoc, ← List.append_assoc]; exact hJ4
          · rw [HDt.out, ySs_snoc]; exact hY3.gs hG4 fun i hi hp => hdis i hp hi
          · refine (HRZ.out.g.tr2 hG3 fun i _ hp => .inr hp).tr2 hG4 fun i hi hp => ?_
            rcases HRZ.out.p i hp with h | h
            · exact .inl h
            · omega
          · intro i hi
            rcases hP4 i hi with h | h
            · exact HRZ.out.p i h
            · exact .inr (by omega)
        clear hJ4 hG4 hP4
        go_wp2
        exact ⟨⟨t + 1, P4, by omega, by omega, by go_num, HE.out⟩, by simp [intOf]; omega⟩
      · have hl2 : A.length + t = L.length := by omega
        have HN := hide (HJ.out.next0 HR.out.j (by rw [hlen]; exact hl2))
        go_wp2_with fail
        refine HN.out.mono ?_
        rintro e w1 ⟨rfl, hB1⟩
        obtain ⟨Zw, hZw⟩ : ∃ Zw, Zw = w1.alloc (.cells #[.int .i64 0, .int .i64 0, .string ⟨#[]⟩, .string ⟨#[]⟩] 69) := ⟨_, rfl⟩
        have hRZ : RU J w Zw A D S bs v Pj Py Pj' t := by
          rw [hZw]
          exact ((HR.out.bel HJ.out hB1).bel HJ.out ((Below.refl _ _).alloc (Nat.le_refl _) _))
        have HO := hide (HJ.out.over hRZ.j)
        rw [hlen, decide_eq_false hw] at HO
        have HRZ := hide hRZ
        have HZw := hide hZw
        clear hRZ hZw hB1
        go_wp2_with fail
        rw [← HZw.out]
        refine HO.out.mono ?_
        rintro e w2 ⟨rfl, rfl⟩
        have HE : Hid (∃ t' : Nat, t' = min (L.length - A.length) most.toNat ∧ Ending.returned (.tuple #[.int .i64 (t : Int), .int .i64 0]) = .returned (.tuple #[.int .i64 (t' : Int), .int .i64 (if A.length + t' < L.length then 2 else 0)]) ∧ ∃ Pj', RU J w w2 A D S bs v Pj Py Pj' t') := ⟨t, by omega, by rw [if_neg hw], Pj', HRZ.out⟩
        go_wp2
        go_ret2
        exact HE.out
    · have HO := hide (HJ.out.over HR.out.j)
      rw [hlen] at HO
      have HTM : Hid (t = min (L.length - A.length) most.toNat) := by show t = min (L.length - A.length) most.toNat; omega
      by_cases hw : A.length + t < L.length
      · rw [decide_eq_true hw] at HO
        go_wp2_with fail
        refine HO.out.mono ?_
        rintro e w2 ⟨rfl, rfl⟩
        have HE : Hid (∃ t' : Nat, t' = min (L.length - A.length) most.toNat ∧ Ending.returned (.tuple #[.int .i64 (t : Int), .int .i64 2]) = .returned (.tuple #[.int .i64 (t' : Int), .int .i64 (if A.length + t' < L.length then 2 else 0)]) ∧ ∃ Pj', RU J w w2 A D S bs v Pj Py Pj' t') := ⟨t, HTM.out, by rw [if_pos hw], Pj', HR.out⟩
        go_wp2
        go_ret2
        exact HE.out
      · rw [decide_eq_false hw] at HO
        go_wp2_with fail
        refine HO.out.mono ?_
        rintro e w2 ⟨rfl, rfl⟩
        have HE : Hid (∃ t' : Nat, t' = min (L.length - A.length) most.toNat ∧ Ending.returned (.tuple #[.int .i64 (t : Int), .int .i64 0]) = .returned (.tuple #[.int .i64 (t' : Int), .int .i64 (if A.length + t' < L.length then 2 else 0)]) ∧ ∃ Pj', RU J w w2 A D S bs v Pj Py Pj' t') := ⟨t, HTM.out, by rw [if_neg hw], Pj', HR.out⟩
        go_wp2
        go_ret2
        exact HE.out
end
end Go.Proofs.Ytiecoplfiahpnaa

namespace Go.Proofs.Ytiecoplfiahpnaa
open Go.RowKit Go.Lib Go.Maps
/-- A function that is entered when it is called. -/
def Ent (F : FuncId) : Prop := ∀ (args : Array Value) (w : World), (callFunc F args).run Try.prog w = .ok (.enter F args) w
section
variable {r r' p : Nat → Prop} {w w' : World} {b a1 a2 a3 a4 a5 : Nat} {l : List QT} {X : List (RR × Value)} {tv rv av : Value} {st k s c N : Int} {n d : ByteArray} {go ids tx : Value} {op : Bool}
set_option maxRecDepth 100000 in
set_option maxHeartbeats 3200000 in
theorem next_then {F : FuncId} {fi ca : Array Value} (hent : Ent F) (h : CL r w b l X a1 a2 a3 a4 a5 (.func (.func F) fi ca) rv av) (hxl : X.length = l.length) {Q : World → Prop} (HK : Calls Try.prog F (fi.push av ++ ca) w fun e w' => e = .returned (.tuple #[]) ∧ Q w') :
    Calls Try.prog 65 #[.pointer (some ⟨a4, 0, none⟩), .pointer (some ⟨a3, 0, none⟩), .pointer (some ⟨a1, 0, none⟩), .pointer (some ⟨a5, 0, none⟩), .pointer (some ⟨a2, 0, none⟩)] w fun e w' => e = .returned (.tuple #[]) ∧ Q w' := by
  obtain ⟨aa, ca', hav⟩ := h.o.shp
  obtain ⟨ar, cr, hrv⟩ := h.q.shp
  have y4 : w.cell? ⟨a4, 0, none⟩ = some av := by simp [World.cell?, h.h4]
  have y3 : w.cell? ⟨a3, 0, none⟩ = some rv := by simp [World.cell?, h.h3]
  have y2 : w.cell? ⟨a2, 0, none⟩ = some (.func (.func F) fi ca) := by simp [World.cell?, h.h2]
  have HE := hide HK
  rw [hav] at y4 HE
  rw [hrv] at y3
  rw [hxl] at y4 HE
  obtain ⟨ll, hll⟩ : ∃ ll, ll = l.length := ⟨_, rfl⟩
  rw [← hll] at y3 y4 HE
  have b1 : ¬ (ll : Int) < (ll : Int) := by omega
  obtain ⟨g1, g2, g3, g4⟩ := fe79
  unfold Ent at hent
  clear h hxl hav hrv hll HK
  go_enter Try.func65, Try.ntmps65
  go_wp2_with fail
  refine HE.out.mono ?_
  rintro e w1 ⟨rfl, hF⟩
  have HF := hide hF
  clear hF
  go_wp2
  go_end0
  exact ⟨rfl, HF.out⟩
set_option maxRecDepth 100000 in
set_option maxHeartbeats 3200000 in
theorem take_gen (h : CL r w b l X a1 a2 a3 a4 a5 tv rv av) (hJ : JB w b true st k n d .nilFunc c N ids tx s) (x : RR × Value) (hx : LS t1 1 r w x.2 x.1.l) (hX : X.length < l.length) (hl : l.length ≤ 1000000) {Q : World → Prop}
    (HC : ∀ V v', CL r V b l (X ++ [x]) a1 a2 a3 a4 a5 tv rv v' → JB V b true st k n d .nilFunc c N ids tx s → Gs (mu b a4 av) w V → (v'.ownBlock = av.ownBlock ∨ ∀ i, v'.ownBlock = some i → w.heap.size ≤ i) → Calls Try.prog 65 #[.pointer (some ⟨a4, 0, none⟩), .pointer (some ⟨a3, 0, none⟩), .pointer (some ⟨a1, 0, none⟩), .pointer (some ⟨a5, 0, none⟩), .pointer (some ⟨a2, 0, none⟩)] V fun e w' => e = .returned (.tuple #[]) ∧ Q w') :
    Calls Try.prog 67 #[.agg #[.int .i64 x.1.c, .string x.1.d, x.2], .pointer (some ⟨a4, 0, none⟩), .pointer (some ⟨a5, 0, none⟩)] w fun e w' => e = .returned (.tuple #[]) ∧ Q w' := by
  obtain ⟨au, cu, hu⟩ := hx.shp
  obtain ⟨U, hU⟩ : ∃ U, U = w.alloc (.cells #[.int .i64 x.1.c, .string x.1.d, x.2] 62) := ⟨_, rfl⟩
  have hBU : Below w.heap.size w U := by rw [hU]; exact (Below.refl _ _).alloc (Nat.le_refl _) _
  have hW := h.bel hBU
  have hJU := hJ.bel hBU
  have hblk : U.heap[w.heap.size]? = some (.cells #[.int .i64 x.1.c, .string x.1.d, x.2] 62 (0, 0)) := by rw [hU]; exact heap_alloc_new w _
  have k0 : U.cell? ⟨w.heap.size, 0, none⟩ = some (.int .i64 x.1.c) := by simp [World.cell?, hblk]
  have k1 : U.cell? ⟨w.heap.size, 1, none⟩ = some (.string x.1.d) := by simp [World.cell?, hblk]
  have k2 : U.cell? ⟨w.heap.size, 2, none⟩ = some x.2 := by simp [World.cell?, hblk]
  have y4 : U.cell? ⟨a4, 0, none⟩ = some av := by simp [World.cell?, hW.h4]
  obtain ⟨v', w1, hr, hsl, h4w, hCV, hJV, hGV, hov⟩ := hW.app hJU x (hx.bel hBU) (by omega)
  have hs := store1_run (t := 59) h4w (j := 0) (v := v') (Nat.le_of_ble_eq_true rfl) Try.sizeAs hsl
  obtain ⟨V, hV⟩ : ∃ V, V = w1.setCell ⟨a4, 0, none⟩ v' := ⟨_, rfl⟩
  rw [← hV] at hs hCV hJV hGV
  have y5 : V.cell? ⟨a5, 0, none⟩ = some (.func (.func 65) #[] #[.pointer (some ⟨a4, 0, none⟩), .pointer (some ⟨a3, 0, none⟩), .pointer (some ⟨a1, 0, none⟩), .pointer (some ⟨a5, 0, none⟩), .pointer (some ⟨a2, 0, none⟩)]) := by simp [World.cell?, hCV.h5]
  have hGw : Gs (mu b a4 av) w V := (Gs.of_below _ hBU).trans hGV
  have hUs : w.heap.size ≤ U.heap.size := hBU.size
  have HN := hide (HC V v' hCV hJV hGw (by
    rcases hov with e | e
    · exact .inl e
    · exact .inr fun i hi => by rw [e] at hi; simp at hi; omega))
  have HU := hide hU
  rw [hu] at k2 HU
  rw [hu] at hr
  rw [hu]
  clear hW hJU hblk hCV hJV hGV hov hV hGw hUs h4w hsl hU hBU hJ h hx hX hl HC
  generalize x.1.c = cc at *
  generalize x.1.d = dd at *
  generalize x.1.l.length = ln at *
  go_enter Try.func67, Try.ntmps67
  go_upto_region 1 with fail
  rw [← HU.out]
  go_wp2_with (first | (at_builtin; refine Lib.wpList_append_run _ rfl _ _ _ _ rfl _ _ rfl rfl _ _ hr ?_) | (refine wpList_store_run rfl 59 _ _ rfl _ _ rfl rfl hs ?_))
  refine HN.out.mono ?_
  rintro e w2 ⟨rfl, hF⟩
  have HF := hide hF
  clear hF
  go_wp2
  go_end0
  exact ⟨rfl, HF.out⟩
end
/-- Blocks of P are the same in both. -/
def Sm (P : Nat → Prop) (w w1 : World) : Prop := w.heap.size ≤ w1.heap.size ∧ ∀ i, P i → i < w.heap.size → w1.heap[i]? = w.heap[i]?
theorem Sm.refl (P : Nat → Prop) (w : World) : Sm P w w := ⟨Nat.le_refl _, fun _ _ _ => rfl⟩
theorem Sm.trans {P : Nat → Prop} {w w1 w2 : World} (h : Sm P w w1) (h2 : Sm P w1 w2) : Sm P w w2 := ⟨Nat.le_trans h.1 h2.1, fun i hi hl => (h2.2 i hi (Nat.lt_of_lt_of_le hl h.1)).trans (h.2 i hi hl)⟩
theorem Sm.gs {P p : Nat → Prop} {w w1 w2 : World} (h : Sm P w w1) (hg : Gs p w1 w2) (hp : ∀ i, P i → ¬ p i) : Sm P w w2 := h.trans ⟨hg.size, fun i hi hl => hg.block i hl (hp i hi)⟩
theorem Sm.bel {P : Nat → Prop} {w w1 w2 : World} (h : Sm P w w1) (hb : Below w1.heap.size w1 w2) : Sm P w w2 := h.trans ⟨hb.size, fun i _ hl => hb.block i hl⟩
theorem Sm.mono {P P' : Nat → Prop} {w w1 : World} (h : Sm P w w1) (hp : ∀ i, P' i → P i) : Sm P' w w1 := ⟨h.1, fun i hi => h.2 i (hp i hi)⟩
/-- A job at block b, in blocks of P, behind the answers A, that asks what is left, and then is as Fin tells. -/
def JJ (b : Nat) (Fin : List RR → (Nat → Prop) → World → Prop) : List QT → List RR → (Nat → Prop) → World → Prop
  | [], A, P, w => P b ∧ (∀ i, P i → i < w.heap.size) ∧ Fin A P w
  | q :: rest, A, P, w => P b ∧ (∀ i, P i → i < w.heap.size) ∧ ∃ a4 a5, JB w b true q.st q.k q.n q.d (.func (.func 67) #[] #[.pointer (some ⟨a4, 0, none⟩), .pointer (some ⟨a5, 0, none⟩)]) 0 0 (.slice none 0 0) (.slice none 0 0) (A.length : Int) ∧
      ∀ (w1 V : World) (u' : Value) (x : RR), Sm P w w1 → GV w1 V b 0 0 (.slice none 0 0) (.slice none 0 0) (A.length : Int) u' x.l → (resI (A ++ [x])).length ≤ 1000000000000 → (∀ y ∈ x.l, y.size ≤ maxLen) →
        Calls Try.prog 67 #[.agg #[.int .i64 x.c, .string x.d, u'], .pointer (some ⟨a4, 0, none⟩), .pointer (some ⟨a5, 0, none⟩)] V fun e w' => e = .returned (.tuple #[]) ∧ RDY b (fun w2 => ∃ P', JJ b Fin rest (A ++ [x]) P' w2 ∧ Gs P w1 w2 ∧ ∀ i, P' i → P i ∨ w1.heap.size ≤ i) w'
/-- What the end of a job must be. -/
structure FK (b : Nat) (Fin : List RR → (Nat → Prop) → World → Prop) : Prop where
  gs : ∀ {A : List RR} {P p : Nat → Prop} {w w' : World}, Fin A P w → Gs p w w' → P b → (∀ i, P i → ¬ p i) → Fin A P w'
  j : ∀ {A : List RR} {P : Nat → Prop} {w : World}, Fin A P w → ∃ c N ids tx, JB w b false 0 0 ⟨#[]⟩ ⟨#[]⟩ .nilFunc c N ids tx (A.length : Int)
theorem RDY.mono {b : Nat} {Q Q' : World → Prop} {w : World} (h : RDY b Q w) (hq : ∀ w2, Q w2 → Q' w2) : RDY b Q' w := by
  rcases h with ⟨op, st, k, n, d, fn, fi, ca, c, N, ids, tx, s, hJ, h⟩ | ⟨op, st, k, n, d, c, N, ids, tx, s, hJ, h⟩
  · exact .inl ⟨op, st, k, n, d, fn, fi, ca, c, N, ids, tx, s, hJ, fun w3 h3 h4 => hq w3 (h w3 h3 h4)⟩
  · exact .inr ⟨op, st, k, n, d, c, N, ids, tx, s, hJ, fun w3 h3 h4 => hq w3 (h w3 h3 h4)⟩
section
variable {b : Nat} {Fin : List RR → (Nat → Prop) → World → Prop} {L rest : List QT} {A : List RR} {P p : Nat → Prop} {w w' : World}
theorem JJ.hb : ∀ {rest : List QT}, JJ b Fin rest A P w → P b
  | [], h => h.1
  | _ :: _, h => h.1
theorem JJ.lt : ∀ {rest : List QT}, JJ b Fin rest A P w → ∀ i, P i → i < w.heap.size
  | [], h => h.2.1
  | _ :: _, h => h.2.1
theorem JJ.gs (hF : FK b Fin) (hg : Gs p w w') (hp : ∀ i, P i → ¬ p i) : ∀ {rest : List QT}, JJ b Fin rest A P w → JJ b Fin rest A P w'
  | [], h => ⟨h.1, fun i hi => Nat.lt_of_lt_of_le (h.2.1 i hi) hg.size, hF.gs h.2.2 hg h.1 hp⟩
  | q :: rest, h => by
    obtain ⟨h1, h2, a4, a5, hJ, hC⟩ := h
    exact ⟨h1, fun i hi => Nat.lt_of_lt_of_le (h2 i hi) hg.size, a4, a5, hJ.gs hg (hp b h1), fun w1 V u' x hS => hC w1 V u' x (((Sm.refl P w).gs hg hp).trans hS)⟩
theorem jobJ (hF : FK b Fin) (hL : L.length ≤ 1000000) : JOB (fun A P w => A.length ≤ L.length ∧ JJ b Fin (L.drop A.length) A P w) L b := by
  refine ⟨fun h hg hp => ⟨h.1, h.2.gs hF hg hp⟩, fun h => h.2.lt, fun h => h.2.hb, fun h => h.1, ?_, ?_, ?_, ?_⟩
  · intro A P w q h hq
    have e : L.drop A.length = q :: L.drop (A.length + 1) := by
      obtain ⟨h1, rfl⟩ := List.getElem?_eq_some_iff.1 hq
      exact List.drop_eq_getElem_cons h1
    have h2 := h.2
    rw [e] at h2
    obtain ⟨_, _, a4, a5, hJ, _⟩ := h2
    exact next_on hJ
  · intro A P w h hA
    have h2 := h.2
    rw [hA, List.drop_length] at h2
    obtain ⟨c, N, ids, tx, hJ⟩ := hF.j h2.2.2
    exact next_off hJ
  · intro A P w h
    have h2 := h.2
    by_cases hlt : A.length < L.length
    · rw [List.drop_eq_getElem_cons hlt] at h2
      obtain ⟨_, _, a4, a5, hJ, _⟩ := h2
      rw [decide_eq_true hlt]
      exact over_any hJ
    · rw [List.drop_eq_nil_of_le (by omega)] at h2
      obtain ⟨c, N, ids, tx, hJ⟩ := hF.j h2.2.2
      rw [decide_eq_false hlt]
      exact over_any hJ
  · intro A P r0 w u ll cc dd h hA hu hr0 hll hI hsm
    have h2 := h.2
    rw [List.drop_eq_getElem_cons hA] at h2
    obtain ⟨hb, hlt, a4, a5, hJ, hC⟩ := h2
    refine (give_all hJ rfl hu hr0 hll (by omega) (by omega) cc dd fun V u' hGV => hC w V u' ⟨cc, dd, ll⟩ (Sm.refl _ _) hGV hI hsm).mono ?_
    rintro e w7 ⟨rfl, P', hJ', hG, hP'⟩
    refine ⟨rfl, P', ⟨by rw [List.length_append]; exact hA, ?_⟩, hG, hP'⟩
    rw [List.length_append]
    exact hJ'
end
section
variable {F : FuncId} {fi ca : Array Value} {b : Nat} {Fin : List RR → (Nat → Prop) → World → Prop} {l rest : List QT} {A0 : List RR} {e mu' r r0 : Nat → Prop} {w w0 : World} {a1 a2 a3 a4 a5 : Nat} {rv v : Value}
/-- What is done with the answers. -/
def KO (F : FuncId) (fi ca : Array Value) (b : Nat) (Fin : List RR → (Nat → Prop) → World → Prop) (n : Nat) (rest : List QT) (A0 : List RR) (e m : Nat → Prop) (w0 : World) : Prop :=
  ∀ (W : World) (av : Value) (X : List (RR × Value)) (r : Nat → Prop), Sm e w0 W → JB W b true 0 0 ⟨#[]⟩ ⟨#[]⟩ .nilFunc 0 0 (.slice none 0 0) (.slice none 0 0) ((A0.length + n : Nat) : Int) → LS x3 3 r W av X → (∀ x ∈ X, LS t1 1 r W x.2 x.1.l) → X.length = n → (resI (A0 ++ X.map (·.1))).length ≤ 1000000000000 → (∀ x ∈ X, ∀ y ∈ x.1.l, y.size ≤ maxLen) → (∀ i, r i → w0.heap.size ≤ i ∧ i < W.heap.size) →
    Calls Try.prog F (fi.push av ++ ca) W fun er w' => er = .returned (.tuple #[]) ∧ Gs (fun i => i = b ∨ m i) W w' ∧ RDY b (fun w2 => ∃ P', JJ b Fin rest (A0 ++ X.map (·.1)) P' w2 ∧ Gs (fun i => i = b ∨ m i) W w2 ∧ ∀ i, P' i → i = b ∨ e i ∨ r i ∨ W.heap.size ≤ i) w'
theorem cl_step (hent : Ent F) (hl : l.length ≤ 1000000) (heb : ¬ e b) (hme : ∀ i, mu' i → e i) (hel : ∀ i, e i → i < w0.heap.size) (hbl : b < w0.heap.size) (h4 : w0.heap.size ≤ a4) {m : Nat} {X : List (RR × Value)} {av : Value} {q : QT} (hXs : ∀ x ∈ X, ∀ y ∈ x.1.l, y.size ≤ maxLen) (hm : l.length = X.length + (m + 1)) (hq : l[X.length]? = some q) (hCL : CL r w b l X a1 a2 a3 a4 a5 (.func (.func F) fi ca) rv av) (hSe : Sm e w0 w) (hr : ∀ i, r i → w0.heap.size ≤ i) (ho : ∀ i, av.ownBlock = some i → w0.heap.size ≤ i)
    (hJ : JB w b true q.st q.k q.n q.d (.func (.func 67) #[] #[.pointer (some ⟨a4, 0, none⟩), .pointer (some ⟨a5, 0, none⟩)]) 0 0 (.slice none 0 0) (.slice none 0 0) ((A0.length + X.length : Nat) : Int))
    (ih : 0 < m → ∀ (X' : List (RR × Value)) (r : Nat → Prop) (w : World) (av : Value) (q : QT), (∀ x ∈ X', ∀ y ∈ x.1.l, y.size ≤ maxLen) → X'.length = X.length + 1 → l[X'.length]? = some q → CL r w b l X' a1 a2 a3 a4 a5 (.func (.func F) fi ca) rv av → Sm e w0 w → (∀ i, r i → w0.heap.size ≤ i) → (∀ i, av.ownBlock = some i → w0.heap.size ≤ i) →
      JB w b true q.st q.k q.n q.d (.func (.func 67) #[] #[.pointer (some ⟨a4, 0, none⟩), .pointer (some ⟨a5, 0, none⟩)]) 0 0 (.slice none 0 0) (.slice none 0 0) ((A0.length + X'.length : Nat) : Int) → JJ b Fin (l.drop X'.length ++ rest) (A0 ++ X'.map (·.1)) (fun i => i = b ∨ e i ∨ r i ∨ i = a4 ∨ av.ownBlock = some i) w)
    (HK : KO F fi ca b Fin l.length rest A0 e mu' w0) : JJ b Fin (l.drop X.length ++ rest) (A0 ++ X.map (·.1)) (fun i => i = b ∨ e i ∨ r i ∨ i = a4 ∨ av.ownBlock = some i) w := by
  have hws := hSe.1
  have e0 : l.drop X.length = q :: l.drop (X.length + 1) := by
    obtain ⟨h1, rfl⟩ := List.getElem?_eq_some_iff.1 hq
    exact List.drop_eq_getElem_cons h1
  rw [e0, List.cons_append]
  have hlen : (A0 ++ X.map (·.1)).length = A0.length + X.length := by simp
  refine ⟨.inl rfl, ?_, a4, a5, ?_, ?_⟩
  · rintro i (h | h | h | h | h)
    · omega
    · have := hel i h; omega
    · exact hCL.rl i h
    · rw [h]; exact lt_of_block hCL.h4
    · exact (hCL.o.lt i h).2
  · rw [hlen]; exact hJ
  intro w1 V u' x hS hGV hI hsm
  rw [hlen] at hGV
  have hJ1 : JB w1 b true q.st q.k q.n q.d (.func (.func 67) #[] #[.pointer (some ⟨a4, 0, none⟩), .pointer (some ⟨a5, 0, none⟩)]) 0 0 (.slice none 0 0) (.slice none 0 0) ((A0.length + X.length : Nat) : Int) := (hS.2 b (.inl rfl) hJ.lt).trans hJ
  have hC1 : CL r w1 b l X a1 a2 a3 a4 a5 (.func (.func F) fi ca) rv av := hCL.kb hS.1 (fun i hi hri => hS.2 i (.inr (.inr (.inl hri))) hi) (hS.2 a4 (.inr (.inr (.inr (.inl rfl)))) (lt_of_block hCL.h4)) (fun i hi => hS.2 i (.inr (.inr (.inr (.inr hi)))) (hCL.o.lt i hi).2)
  have hCV0 := hC1.gb hJ1 hGV.g
  have hSe1 : Sm e w0 w1 := hSe.trans (hS.mono fun i hi => .inr (.inl hi))
  have hSeV : Sm e w0 V := hSe1.gs hGV.g fun i hi hb => heb (hb ▸ hi)
  have hul := hGV.u.lt
  have hw1s := hS.1
  have hVs := hGV.g.size
  have h4l : a4 < w1.heap.size := lt_of_block hC1.h4
  have hCV : CL (fun i => r i ∨ u'.ownBlock = some i) V b l X a1 a2 a3 a4 a5 (.func (.func F) fi ca) rv av := hCV0.mono (fun i hi => .inl hi) (by
      rintro (h | h)
      · exact hCV0.nb h
      · have := (hul _ h).1; omega) (by
      rintro (h | h)
      · exact hCV0.n4 h
      · have := (hul _ h).1; omega) (by
      rintro i hi (h | h)
      · exact hCV0.no i hi h
      · have := (hul _ h).1; have := (hC1.o.lt i hi).2; omega) (by
      rintro i (h | h)
      · exact hCV0.rl i h
      · exact (hul _ h).2)
  have hrV : ∀ i, (r i ∨ u'.ownBlock = some i) → w0.heap.size ≤ i := by
    rintro i (h | h)
    · exact hr i h
    · have := (hul _ h).1; omega
  have hGe : ∀ i, e i → ¬ mu b a4 av i := by
    rintro i hi (h | h | h)
    · exact heb (h ▸ hi)
    · have := hel i hi; omega
    · have := hel i hi; have := ho i h; omega
  have hGP : ∀ {V2 : World}, Gs (mu b a4 av) V V2 → Gs (fun i => i = b ∨ e i ∨ r i ∨ i = a4 ∨ av.ownBlock = some i) w1 V2 := fun h => (hGV.g.mono fun i _ hi => .inl hi).trans (h.mono fun i _ hi => by
    rcases hi with h | h | h
    · exact .inl h
    · exact .inr (.inr (.inr (.inl h)))
    · exact .inr (.inr (.inr (.inr h))))
  refine take_gen hCV hGV.j (x, u') (hGV.u.ls fun i hi => .inr hi) (by omega) hl ?_
  intro V2 v' hC2 hJ2 hG2 hov
  have hA : A0 ++ (X ++ [(x, u')]).map (·.1) = A0 ++ X.map (·.1) ++ [x] := by simp
  have hxl : (X ++ [(x, u')]).length = X.length + 1 := by simp
  have hXs2 : ∀ y ∈ X ++ [(x, u')], ∀ z ∈ y.1.l, z.size ≤ maxLen := fun y hy => by
    rcases List.mem_append.1 hy with h | h
    · exact hXs y h
    · simp at h; subst h; exact hsm
  have hS2 : Sm e w0 V2 := hSeV.gs hG2 hGe
  have hV2s := hG2.size
  have ho2 : ∀ i, v'.ownBlock = some i → w0.heap.size ≤ i := fun i hi => by
    rcases hov with h | h
    · rw [h] at hi; exact ho i hi
    · have := h i hi; omega
  have hnew : ∀ i, v'.ownBlock = some i → av.ownBlock = some i ∨ w1.heap.size ≤ i := fun i hi => by
    rcases hov with h | h
    · rw [h] at hi; exact .inl hi
    · have := h i hi; exact .inr (by omega)
  by_cases hm0 : 0 < m
  · obtain ⟨q', hq'⟩ : ∃ q', l[(X ++ [(x, u')]).length]? = some q' := ⟨_, List.getElem?_eq_getElem (by rw [hxl]; omega)⟩
    refine (next_ask hC2 hJ2 hq').mono ?_
    rintro er w3 ⟨rfl, hJ3, hG3⟩
    refine ⟨rfl, .inl ⟨_, _, _, _, _, _, _, _, _, _, _, _, _, hJ3, fun w4 hJ4 hG4 => ?_⟩⟩
    have hC4 := (hC2.gb hJ2 hG3).gb hJ3 hG4
    have hS4 : Sm e w0 w4 := (hS2.gs hG3 fun i hi hb => heb (hb ▸ hi)).gs hG4 fun i hi hb => heb (hb ▸ hi)
    have hJ5 : JB w4 b true q'.st q'.k q'.n q'.d (.func (.func 67) #[] #[.pointer (some ⟨a4, 0, none⟩), .pointer (some ⟨a5, 0, none⟩)]) 0 0 (.slice none 0 0) (.slice none 0 0) ((A0.length + (X ++ [(x, u')]).length : Nat) : Int) := by
      have e1 : ((A0.length + (X ++ [(x, u')]).length : Nat) : Int) = ((A0.length + X.length : Nat) : Int) + 1 := by rw [hxl]; omega
      rw [e1]
      exact hJ4
    have hJJ := ih hm0 (X ++ [(x, u')]) _ w4 v' q' hXs2 hxl hq' hC4 hS4 hrV ho2 hJ5
    rw [hA, hxl] at hJJ
    refine ⟨_, hJJ, ((hGP hG2).trans (hG3.mono fun i _ hi => .inl hi)).trans (hG4.mono fun i _ hi => .inl hi), ?_⟩
    rintro i (h | h | (h | h) | h | h)
    · exact .inl (.inl h)
    · exact .inl (.inr (.inl h))
    · exact .inl (.inr (.inr (.inl h)))
    · exact .inr (hul _ h).1
    · exact .inl (.inr (.inr (.inr (.inl h))))
    · rcases hnew i h with h | h
      · exact .inl (.inr (.inr (.inr (.inr h))))
      · exact .inr h
  · have hfull : (X ++ [(x, u')]).length = l.length := by rw [hxl]; omega
    refine next_then hent hC2 hfull ((HK V2 v' (X ++ [(x, u')]) (fun i => (r i ∨ u'.ownBlock = some i) ∨ v'.ownBlock = some i) hS2 ?_ (hC2.o.ls x3_len fun i hi => .inr hi) (fun y hy => (hC2.ns y hy).mono fun i hi => .inl hi) hfull (by rw [hA]; exact hI) hXs2 ?_).mono ?_)
    · have e1 : ((A0.length + l.length : Nat) : Int) = ((A0.length + X.length : Nat) : Int) + 1 := by omega
      rw [e1]
      exact hJ2
    · rintro i (h | h)
      · exact ⟨hrV i h, hC2.rl i h⟩
      · exact ⟨ho2 i h, (hC2.o.lt i h).2⟩
    · rintro er w3 ⟨rfl, _, hR⟩
      refine ⟨rfl, hR.mono ?_⟩
      rintro w4 ⟨P', hJ', hG', hP'⟩
      have e1 : l.drop (X.length + 1) = [] := List.drop_eq_nil_of_le (by omega)
      rw [e1, List.nil_append, ← hA]
      refine ⟨P', hJ', (hGP hG2).trans (hG'.mono fun i _ hi => ?_), ?_⟩
      · rcases hi with h | h
        · exact .inl h
        · exact .inr (.inl (hme i h))
      · intro i hi
        rcases hP' i hi with h | h | ((h | h) | h) | h
        · exact .inl (.inl h)
        · exact .inl (.inr (.inl h))
        · exact .inl (.inr (.inr (.inl h)))
        · exact .inr (hul _ h).1
        · rcases hnew i h with h | h
          · exact .inl (.inr (.inr (.inr (.inr h))))
          · exact .inr h
        · exact .inr (by omega)
theorem cl_jj (hent : Ent F) (hl : l.length ≤ 1000000) (HK : KO F fi ca b Fin l.length rest A0 e mu' w0) (heb : ¬ e b) (hme : ∀ i, mu' i → e i) (hel : ∀ i, e i → i < w0.heap.size) (hbl : b < w0.heap.size) (h4 : w0.heap.size ≤ a4) :
    ∀ (m : Nat) (X : List (RR × Value)) (r : Nat → Prop) (w : World) (av : Value) (q : QT), (∀ x ∈ X, ∀ y ∈ x.1.l, y.size ≤ maxLen) → l.length = X.length + (m + 1) → l[X.length]? = some q → CL r w b l X a1 a2 a3 a4 a5 (.func (.func F) fi ca) rv av → Sm e w0 w → (∀ i, r i → w0.heap.size ≤ i) → (∀ i, av.ownBlock = some i → w0.heap.size ≤ i) →
      JB w b true q.st q.k q.n q.d (.func (.func 67) #[] #[.pointer (some ⟨a4, 0, none⟩), .pointer (some ⟨a5, 0, none⟩)]) 0 0 (.slice none 0 0) (.slice none 0 0) ((A0.length + X.length : Nat) : Int) → JJ b Fin (l.drop X.length ++ rest) (A0 ++ X.map (·.1)) (fun i => i = b ∨ e i ∨ r i ∨ i = a4 ∨ av.ownBlock = some i) w := by
  intro m
  induction m with
  | zero =>
    intro X r w av q hXs hm hq hCL hSe hr ho hJ
    exact cl_step hent hl heb hme hel hbl h4 hXs hm hq hCL hSe hr ho hJ (fun hX => absurd hX (by omega)) HK
  | succ m ih =>
    intro X r w av q hXs hm hq hCL hSe hr ho hJ
    exact cl_step hent hl heb hme hel hbl h4 hXs hm hq hCL hSe hr ho hJ (fun _ X' r' w' av' q' hs' hX' h1 h2 h3 h5 h6 h7 => ih X' r' w' av' q' hs' (by omega) h1 h2 h3 h5 h6 h7) HK
/-- A list is asked: All. -/
theorem all_jj (hent : Ent F) (hJ : JB w b true 0 0 ⟨#[]⟩ ⟨#[]⟩ .nilFunc 0 0 (.slice none 0 0) (.slice none 0 0) (A0.length : Int)) (hv : LS q4 4 r0 w v l) (hn : 0 < l.length) (hl : l.length ≤ 1000000) (HK : KO F fi ca b Fin l.length rest A0 e mu' w) (heb : ¬ e b) (hme : ∀ i, mu' i → e i) (hel : ∀ i, e i → i < w.heap.size) :
    Calls Try.prog 55 #[.pointer (some ⟨b, 0, none⟩), v, .func (.func F) fi ca] w fun er w' => er = .returned (.tuple #[]) ∧ Gs (fun i => i = b) w w' ∧ RDY b (fun w2 => ∃ P', JJ b Fin (l ++ rest) A0 P' w2 ∧ Gs (fun i => i = b) w w2 ∧ ∀ i, P' i → i = b ∨ e i ∨ w.heap.size ≤ i) w' := by
  refine all_any hJ hv hl (.func F) fi ca (Q := fun w' => Gs (fun i => i = b) w w' ∧ RDY b (fun w2 => ∃ P', JJ b Fin (l ++ rest) A0 P' w2 ∧ Gs (fun i => i = b) w w2 ∧ ∀ i, P' i → i = b ∨ e i ∨ w.heap.size ≤ i) w') ?_
  intro W a1 a2 a3 a4 a5 rv r hCL hJW hBW hr h4 h4l
  obtain ⟨q, hq⟩ : ∃ q, l[0]? = some q := ⟨_, List.getElem?_eq_getElem hn⟩
  refine (next_ask hCL hJW (q := q) hq).mono ?_
  rintro er w2 ⟨rfl, hJ2, hG2⟩
  refine ⟨rfl, (Gs.of_below _ hBW).trans hG2, .inl ⟨_, _, _, _, _, _, _, _, _, _, _, _, _, hJ2, fun w3 hJ3 hG3 => ?_⟩⟩
  have hC3 := (hCL.gb hJW hG2).gb hJ2 hG3
  have hGW : Gs (fun i => i = b) w w3 := ((Gs.of_below _ hBW).trans hG2).trans hG3
  have hS3 : Sm e w w3 := (Sm.refl e w).gs hGW fun i hi hb => heb (hb ▸ hi)
  have h1 := cl_jj (rest := rest) hent hl HK heb hme hel hJ.lt h4 (l.length - 1) [] r w3 (.slice none 0 0) q (fun x hx => by simp at hx) (by simp; omega) hq hC3 hS3 hr (fun i hi => by simp [Value.ownBlock] at hi) hJ3
  simp only [List.length_nil, List.drop_zero, List.map_nil, List.append_nil] at h1
  refine ⟨_, h1, hGW, ?_⟩
  rintro i (h | h | h | h | h)
  · exact .inl h
  · exact .inr (.inl h)
  · exact .inr (.inr (hr i h))
  · exact .inr (.inr (by omega))
  · simp [Value.ownBlock] at h
end
end Go.Proofs.Ytiecoplfiahpnaa

namespace Go.Proofs.Ytiecoplfiahpnaa
open Go.RowKit Go.Lib Go.Maps
/-- A code, as a cell. -/
def c1 (c : Int) : List Value := [.int .i64 c]
theorem c1_len (c : Int) : (c1 c).length = 1 := rfl
theorem c1_one (c : Int) : ∀ u ∈ c1 c, u.oneCell' = true := by intro u hu; simp [c1] at hu; subst hu; rfl
theorem Try.infoC : (Try.prog.info? 24).map (fun i => (i.zero, i.size, i.bytes)) = some (some (.int .i64 0), 1, 8) := by kernel_rfl
/-- The first that is not passed over. -/
def frs (k : List Int) : List Int → Int
  | [] => 0
  | c :: r => if c = 0 ∨ c ∈ k then frs k r else c
/-- How many are OK. -/
def gds : List Int → Nat
  | [] => 0
  | c :: r => (if c = 0 then 1 else 0) + gds r
theorem gds_le : ∀ l : List Int, gds l ≤ l.length
  | [] => Nat.le_refl _
  | c :: r => by have := gds_le r; rw [gds, List.length_cons]; split <;> omega
theorem gds_snoc : ∀ (l : List Int) (c : Int), gds (l ++ [c]) = gds l + if c = 0 then 1 else 0
  | [], c => by simp [gds]
  | d :: r, c => by rw [List.cons_append, gds, gds, gds_snoc r]; omega
theorem drop_at {α : Type} {l : List α} {j : Nat} {x : α} (h : l[j]? = some x) : l.drop j = x :: l.drop (j + 1) := by
  obtain ⟨h1, rfl⟩ := List.getElem?_eq_some_iff.1 h
  exact List.drop_eq_getElem_cons h1
theorem frs_at {k l : List Int} {j : Nat} {c : Int} (h : l[j]? = some c) : frs k (l.drop j) = if c = 0 ∨ c ∈ k then frs k (l.drop (j + 1)) else c := by rw [drop_at h, frs]
theorem below_drew {B : Nat} {w w' : World} (h : Below B w w') (n : Nat) : Below B w (w'.drewN n) := ⟨h.os, h.tape, h.output, h.size, h.block⟩
section
variable {w : World} {lv kv : Value} {l k : List Int} {r r' : Nat → Prop}
theorem LS.at1 {α : Type} {f : α → List Value} {a : Option Addr} {n c : Nat} {L : List α} (h : LS f 1 r w (.slice a n c) L) {j : Nat} {x : α} {u : Value} (hx : L[j]? = some x) (hu : (f x)[0]? = some u) : ∃ g o, a = some ⟨g, o, none⟩ ∧ g < w.heap.size ∧ w.cell? ⟨g, o + j, none⟩ = some u := by
  obtain ⟨a', c', e, _, h2 | ⟨g, o, ea, _, hg, hG⟩⟩ := h
  · rw [h2] at hx; simp at hx
  · simp only [Value.slice.injEq] at e
    obtain ⟨rfl, rfl, rfl⟩ := e
    have := hG j x hx 0 u hu
    rw [Nat.mul_one, Nat.add_zero] at this
    exact ⟨g, o, ea, hg, this⟩
set_option maxRecDepth 100000 in
set_option maxHeartbeats 3200000 in
theorem rfirst_any (hl : LS c1 1 r w lv l) (hk : LS c1 1 r' w kv k) (hn : l.length ≤ 4611686018427387904) (hn2 : k.length ≤ 4611686018427387904) :
    Calls Try.prog 6 #[lv, kv] w fun e w' => e = .returned (.int .i64 (frs k l)) ∧ Below w.heap.size w w' := by
  obtain ⟨a, c, e⟩ := hl.shp
  subst e
  obtain ⟨a', c', e⟩ := hk.shp
  subst e
  have HC : Hid (∀ j x, l[j]? = some x → ∀ wr, Below w.heap.size w wr → ∃ g o, a = some ⟨g, o, none⟩ ∧ wr.cell? ⟨g, o + j, none⟩ = some (.int .i64 x)) := fun j x hx wr hb => by
    obtain ⟨g, o, h1, _, h2⟩ := (hl.bel hb).at1 hx rfl
    exact ⟨g, o, h1, h2⟩
  have HK : Hid (∀ j x, k[j]? = some x → ∀ wr, Below w.heap.size w wr → ∃ g o, a' = some ⟨g, o, none⟩ ∧ wr.cell? ⟨g, o + j, none⟩ = some (.int .i64 x)) := fun j x hx wr hb => by
    obtain ⟨g, o, h1, _, h2⟩ := (hk.bel hb).at1 hx rfl
    exact ⟨g, o, h1, h2⟩
  obtain ⟨m, hm⟩ : ∃ m, m = l.length := ⟨_, rfl⟩
  rw [← hm] at hn ⊢
  obtain ⟨t, ht⟩ : ∃ t, t = k.length := ⟨_, rfl⟩
  rw [← ht] at hn2 ⊢
  have HM := hide hm
  have HT := hide ht
  clear hm ht hl hk
  go_enter Try.func6, Try.ntmps6
  go_wp2
  go_loopw [5] (fun i wr => ∃ j : Nat, j ≤ m ∧ i = .int .i64 j ∧ frs k l = frs k (l.drop j) ∧ Below w.heap.size w wr) (fun i _ => m - (intOf i).toNat)
  case atStart => exact ⟨0, Nat.zero_le _, rfl, by rw [List.drop_zero], Below.refl _ _⟩
  case round =>
    obtain ⟨j, hj, rfl, hf, hB⟩ := hrel
    by_cases hlt : j < m
    · have b1 : (j : Int) < (m : Int) := by omega
      have b0 : (0 : Int) ≤ (j : Int) := by omega
      obtain ⟨x, hx⟩ : ∃ x, l[j]? = some x := ⟨_, List.getElem?_eq_getElem (by rw [← HM.out]; exact hlt)⟩
      obtain ⟨g, o, rfl, z0⟩ := HC.out j x hx wr hB
      rw [frs_at hx] at hf
      have HF := hide hf
      have HB := hide hB
      clear hf hB
      obtain ⟨sk, hsk⟩ : ∃ sk : Bool, sk = (x == 0) := ⟨_, rfl⟩
      go_wp2
      go_loopw [6, 7] (fun s i wx => ∃ q : Nat, q ≤ t ∧ i = .int .i64 q ∧ s = .bool (decide (x = 0 ∨ x ∈ k.take q)) ∧ Below w.heap.size w wx) (fun _ i _ => t - (intOf i).toNat)
      case atStart => exact ⟨0, Nat.zero_le _, rfl, by rw [List.take_zero]; by_cases e : x = 0 <;> simp [e], HB.out⟩
      case round =>
        obtain ⟨q, hq, rfl, rfl, hBx⟩ := hrel
        by_cases hqt : q < t
        · have b2 : (q : Int) < (t : Int) := by omega
          have b3 : (0 : Int) ≤ (q : Int) := by omega
          obtain ⟨y, hy⟩ : ∃ y, k[q]? = some y := ⟨_, List.getElem?_eq_getElem (by rw [← HT.out]; exact hqt)⟩
          obtain ⟨g2, o2, rfl, z1⟩ := HK.out q y hy _ hBx
          obtain ⟨g3, o3, e3, z2⟩ := HC.out j x hx _ hBx
          cases e3
          have hte := take_snoc_at hy
          have HBx := hide hBx
          clear hBx
          by_cases hs : x = 0 ∨ x ∈ k.take q
          · have d1 : decide (x = 0 ∨ x ∈ k.take q) = true := decide_eq_true hs
            have HD : Hid (decide (x = 0 ∨ x ∈ k.take (q + 1)) = true) := by
              show decide _ = true
              rw [hte]; apply decide_eq_true
              rcases hs with h | h
              · exact .inl h
              · exact .inr (List.mem_append_left _ h)
            rw [d1]
            clear hte d1 hs
            go_wp2
            go_quiet (fail)
            go_wp2
            exact ⟨⟨q + 1, by omega, by go_num, by rw [HD.out], below_drew HBx.out _⟩, by simp [intOf]; omega⟩
          · have d1 : decide (x = 0 ∨ x ∈ k.take q) = false := decide_eq_false hs
            have HD : Hid (decide (x = 0 ∨ x ∈ k.take (q + 1)) = (x == y)) := by
              show decide _ = _
              rw [hte]
              have h1 : (x = 0 ∨ x ∈ k.take q ++ [y]) ↔ x = y := by
                rw [List.mem_append, List.mem_singleton]
                exact ⟨fun h => by rcases h with h | h | h; exact absurd (.inl h) hs; exact absurd (.inr h) hs; exact h, fun h => .inr (.inr h)⟩
              by_cases e : x = y
              · rw [decide_eq_true (h1.2 e)]; simp [e]
              · rw [decide_eq_false fun h => e (h1.1 h)]; simp [e]
            rw [d1]
            clear hte d1 hs
            go_wp2
            go_quiet (fail)
            go_wp2
            exact ⟨⟨q + 1, by omega, by go_num, by rw [HD.out], below_drew HBx.out _⟩, by simp [intOf]; omega⟩
        · obtain rfl : q = t := by omega
          have e : k.take q = k := List.take_of_length_le (by have := HT.out; omega)
          rw [e]
          obtain ⟨g3, o3, e3, z2⟩ := HC.out j x hx _ hBx
          cases e3
          have HBx := hide hBx
          clear hBx
          by_cases hs : x = 0 ∨ x ∈ k
          · have hf := HF.out
            rw [if_pos hs] at hf
            rw [decide_eq_true hs]
            have HF2 := hide hf
            clear hf hs
            go_wp2
            exact ⟨⟨j + 1, by omega, by go_num, HF2.out, HBx.out⟩, by simp [intOf]; omega⟩
          · have hf := HF.out
            rw [if_neg hs] at hf
            rw [decide_eq_false hs]
            have HF2 := hide hf
            clear hf hs
            go_wp2
            go_ret
            exact ⟨by rw [HF2.out]; first | rfl | simp, HBx.out⟩
    · obtain rfl : j = m := by omega
      have e : l.drop j = [] := List.drop_eq_nil_of_le (by have := HM.out; omega)
      rw [e] at hf
      have HF := hide hf
      have HB := hide hB
      clear hf hB
      go_wp2
      go_ret
      exact ⟨by rw [HF.out]; rfl, HB.out⟩
end
section
variable {w w' : World} {v : Value} {l : List Int} {B : Nat}
/-- A code more. -/
theorem cpush (h : OW c1 1 24 B v l w) (c : Int) (hb : (l.length + 1) * 8 ≤ 140737488355328) (hB : B ≤ w.heap.size) :
    ∃ v' w', (Builtin.append_ #[23, 23] 23 #[v, .slice (some ⟨w.heap.size, 0, none⟩) 1 1]).run Try.prog (w.alloc (.cells #[.int .i64 c] 24)) = .ok v' w' ∧ OW c1 1 24 B v' (l ++ [c]) w' ∧ Gs (fun i => v.ownBlock = some i) w w' := by
  have hb0 : Below w.heap.size w (w.alloc (.cells #[.int .i64 c] 24)) := (Below.refl _ _).alloc (Nat.le_refl _) _
  obtain ⟨v', w', h1, h2, h3, h4⟩ := OW.app (ST := 23) (m := [c]) (r := fun _ => True) c1_len (by decide) (fun x _ => c1_one x) Try.underlying23 Try.infoC rfl (h.keep hb0) (LS.one c 24 w c1 1 _ trivial) (by simpa using hb) (by simp; omega) (by simp; omega)
  refine ⟨v', w', h1, h2, ⟨h3.os.trans hb0.os, h3.tape.trans hb0.tape, h3.output.trans hb0.output, Nat.le_trans hb0.size h3.size, fun i hi hn => ?_⟩⟩
  exact (h3.block i (Nat.lt_of_lt_of_le hi hb0.size) (fun e => hn e.symm)).trans (hb0.block i hi)
end
/-- The requests of a put at stores. -/
def pq (n : ByteArray) (ds : List ByteArray) : List QT := ds.mapIdx fun i d => ⟨(i : Int), 1, n, d⟩
theorem pq_snoc (n : ByteArray) (ds : List ByteArray) (d : ByteArray) : pq n (ds ++ [d]) = pq n ds ++ [⟨(ds.length : Int), 1, n, d⟩] := by rw [pq, List.mapIdx_concat]; rfl
theorem pq_len (n : ByteArray) (ds : List ByteArray) : (pq n ds).length = ds.length := by simp [pq]
/-- The requests of the same at so many stores. -/
def aq (k : Int) (n d : ByteArray) (m : Nat) : List QT := (List.range m).map fun i : Nat => ⟨(i : Int), k, n, d⟩
theorem aq_snoc (k : Int) (n d : ByteArray) (m : Nat) : aq k n d (m + 1) = aq k n d m ++ [⟨(m : Int), k, n, d⟩] := by rw [aq, List.range_succ, List.map_append]; rfl
theorem aq_len (k : Int) (n d : ByteArray) (m : Nat) : (aq k n d m).length = m := by simp [aq]
end Go.Proofs.Ytiecoplfiahpnaa
