/-
  The program's store: Do.
-/
import Derived.Test.YtepmhgkegfpmjaaPsNam
namespace Go.Proofs.Ytepmhgkegfpmjaa
open Go.RowKit Go.Lib Go.Maps

/-- A store in plain terms: quota, calls that are to fail, calls so far, is it down, objects. -/
structure SS where
  q : Int
  f : Int
  m : Int
  off : Bool
  L : List OB
/-- An answer. -/
structure RR where
  c : Int
  d : ByteArray
  l : List ByteArray
def doR (s : SS) (k : Int) (n d : ByteArray) : RR :=
  if s.off = true then ⟨70, ⟨#[]⟩, []⟩ else if 0 < s.f then ⟨72, ⟨#[]⟩, []⟩ else
  if k = 1 then ⟨pcode n d s.L s.q, ⟨#[]⟩, []⟩ else if k = 2 then ⟨dcode n s.L, (thr s.L n).getD ⟨#[]⟩, []⟩ else
  if k = 3 then ⟨0, ⟨#[]⟩, namesL s.L n⟩ else if k = 4 then ⟨dcode n s.L, ⟨#[]⟩, []⟩ else ⟨3, ⟨#[]⟩, []⟩
def doS (s : SS) (k : Int) (n d : ByteArray) : SS :=
  if s.off = true then { s with m := s.m + 1 } else if 0 < s.f then { s with f := s.f - 1, m := s.m + 1 } else
  { s with m := s.m + 1, L := if k = 1 then putL n d s.L s.q else if k = 4 then delL s.L n else s.L }
/-- The program's store, by a plain one. -/
def PX (w : World) (b mb : Nat) (s : SS) : Prop := PS w b mb s.q s.f s.off s.m s.L

/-- A block of three, stored over. -/
theorem set3 {w : World} {g : Nat} {T : TypeId} {a0 a1 a2 : Value} (h : w.heap[g]? = some (.cells #[a0, a1, a2] T (0, 0))) (x y z : Value) :
    (w.cell? ⟨g, 0, none⟩ = some a0 ∧ w.frozen? ⟨g, 0, none⟩ = false) ∧ ((w.setCell ⟨g, 0, none⟩ x).cell? ⟨g, 1, none⟩ = some a1 ∧ (w.setCell ⟨g, 0, none⟩ x).frozen? ⟨g, 1, none⟩ = false) ∧
      (((w.setCell ⟨g, 0, none⟩ x).setCell ⟨g, 1, none⟩ y).cell? ⟨g, 2, none⟩ = some a2 ∧ ((w.setCell ⟨g, 0, none⟩ x).setCell ⟨g, 1, none⟩ y).frozen? ⟨g, 2, none⟩ = false) ∧
      (((w.setCell ⟨g, 0, none⟩ x).setCell ⟨g, 1, none⟩ y).setCell ⟨g, 2, none⟩ z).heap[g]? = some (.cells #[x, y, z] T (0, 0)) := by
  have h1 : (w.setCell ⟨g, 0, none⟩ x).heap[g]? = some (.cells #[x, a1, a2] T (0, 0)) := heap_set_self h
  have h2 : ((w.setCell ⟨g, 0, none⟩ x).setCell ⟨g, 1, none⟩ y).heap[g]? = some (.cells #[x, y, a2] T (0, 0)) := heap_set_self h1
  have h3 : (((w.setCell ⟨g, 0, none⟩ x).setCell ⟨g, 1, none⟩ y).setCell ⟨g, 2, none⟩ z).heap[g]? = some (.cells #[x, y, z] T (0, 0)) := heap_set_self h2
  exact ⟨⟨by simp [World.cell?, h], by simp [World.frozen?, h]⟩, ⟨by simp [World.cell?, h1], by simp [World.frozen?, h1]⟩, ⟨by simp [World.cell?, h2], by simp [World.frozen?, h2]⟩, h3⟩
/-- The world behind an answer that was laid. -/
def laid3 (w : World) (g : Nat) (x y z : Value) : World := ((w.setCell ⟨g, 0, none⟩ x).setCell ⟨g, 1, none⟩ y).setCell ⟨g, 2, none⟩ z
theorem laid3_other {w : World} {g i : Nat} (x y z : Value) (h : i ≠ g) : (laid3 w g x y z).heap[i]? = w.heap[i]? := by
  rw [laid3, Below.heap_setCell _ _ _ _ h, Below.heap_setCell _ _ _ _ h, Below.heap_setCell _ _ _ _ h]
theorem Gs.laid {p : Nat → Prop} {w w1 : World} (h : Gs p w w1) {g : Nat} (hg : w.heap.size ≤ g) (x y z : Value) : Gs p w (laid3 w1 g x y z) :=
  ((h.set (a := ⟨g, 0, none⟩) (.inr hg) _).set (a := ⟨g, 1, none⟩) (.inr hg) _).set (a := ⟨g, 2, none⟩) (.inr hg) _
theorem PS.laid {w : World} {b mb : Nat} {q f : Int} {dn : Bool} {cl : Int} {L : List OB} (h : PS w b mb q f dn cl L) {g : Nat} (hb : b ≠ g) (hm : mb ≠ g) (x y z : Value) : PS (laid3 w g x y z) b mb q f dn cl L :=
  ⟨(laid3_other x y z hb).trans h.blk, ((h.map.set (a := ⟨g, 0, none⟩) hm _).set (a := ⟨g, 1, none⟩) hm _).set (a := ⟨g, 2, none⟩) hm _, h.ris, h.small⟩
theorem TS.kb {B : Nat} {v : Value} {l : List ByteArray} {w w' : World} (h : TS B v l w) (hk : ∀ i, v.ownBlock = some i → w'.heap[i]? = w.heap[i]?) : TS B v l w' := by
  refine ⟨h.own.1, ?_⟩
  rcases h.own.2 with h2 | ⟨g, cap, cur, e, hB, hg, r⟩
  · exact .inl h2
  · refine .inr ⟨g, cap, cur, e, hB, (hk g ?_).trans hg, r⟩
    rw [e]; rfl
/-- An answer in memory. -/
def AR (w : World) (B : Nat) (v : Value) (r : RR) : Prop := ∃ u, v = .agg #[.int .i64 r.c, .string r.d, u] ∧ TS B u r.l w

section
variable {w : World} {b mb : Nat} {s : SS}
set_option maxRecDepth 100000 in
set_option maxHeartbeats 3200000 in
theorem do_any (hP : PX w b mb s) (st k : Int) (n d : ByteArray) (hn : n.size ≤ maxLen) (hd : d.size ≤ maxLen) (hl : s.L.length ≤ 1000000) (hm0 : 0 ≤ s.m) (hm1 : s.m ≤ 1000000000000) (hf : s.f ≤ 1048576) :
    Calls Try.prog 52 #[.pointer (some ⟨b, 0, none⟩), .agg #[.int .i64 st, .int .i64 k, .string n, .string d]] w fun e w' => ∃ v, e = .returned v ∧ AR w' w.heap.size v (doR s k n d) ∧ PX w' b mb (doS s k n d) ∧ Gs (two b mb) w w' := by
  obtain ⟨q, f, m, off, L⟩ := s
  have hP : PS w b mb q f off m L := hP
  dsimp only at hl hm0 hm1 hf
  obtain ⟨U, hU⟩ : ∃ U, U = (w.alloc (.cells #[.int .i64 st, .int .i64 k, .string n, .string d] 38)).alloc (.cells #[.int .i64 0, .string ⟨#[]⟩, .slice none 0 0] 45) := ⟨_, rfl⟩
  have hBU : Below w.heap.size w U := by rw [hU]; exact ((Below.refl _ _).alloc (Nat.le_refl _) _).alloc (by simp) _
  have hszU : U.heap.size = w.heap.size + 2 := by rw [hU]; simp
  have hq0 : U.heap[w.heap.size]? = some (.cells #[.int .i64 st, .int .i64 k, .string n, .string d] 38 (0, 0)) := by
    rw [hU, Below.heap_alloc _ _ _ (by simp)]; exact heap_alloc_new w _
  have hr0 : U.heap[w.heap.size + 1]? = some (.cells #[.int .i64 0, .string ⟨#[]⟩, .slice none 0 0] 45 (0, 0)) := by
    have := heap_alloc_new (w.alloc (.cells #[.int .i64 st, .int .i64 k, .string n, .string d] 38)) (.cells #[.int .i64 0, .string ⟨#[]⟩, .slice none 0 0] 45 (0, 0))
    rw [hU]
    simpa using this
  have hPU := hP.bel hBU
  have HA : Hid _ := hide (add_any hPU hm0 hm1)
  have HBL := hide hP.lt
  have HMB := hide hP.mlt
  obtain ⟨V, hV⟩ : ∃ V, V = U.setCell ⟨b, 5, none⟩ (.int .i64 (m + 1)) := ⟨_, rfl⟩
  have hPV : PS V b mb q f off (m + 1) L := by rw [hV]; exact hPU.set5 _
  have hGV : Gs (two b mb) w V := by rw [hV]; exact (Gs.of_below _ hBU).set (.inl (.inl rfl)) _
  have hqV : V.heap[w.heap.size]? = _ := (by rw [hV]; exact Below.heap_setCell _ _ _ _ (by have := hP.lt; show w.heap.size ≠ b; omega) : V.heap[w.heap.size]? = U.heap[w.heap.size]?).trans hq0
  have hrV : V.heap[w.heap.size + 1]? = _ := (by rw [hV]; exact Below.heap_setCell _ _ _ _ (by have := hP.lt; show w.heap.size + 1 ≠ b; omega) : V.heap[w.heap.size + 1]? = U.heap[w.heap.size + 1]?).trans hr0
  have hszV : V.heap.size = w.heap.size + 2 := by rw [hV]; simp [World.setCell, hszU]
  rw [← hV] at HA
  have HU := hide hU
  have y1 : V.cell? ⟨w.heap.size, 1, none⟩ = some (.int .i64 k) := by simp [World.cell?, hqV]
  have y2 : V.cell? ⟨w.heap.size, 2, none⟩ = some (.string n) := by simp [World.cell?, hqV]
  have y3 : V.cell? ⟨w.heap.size, 3, none⟩ = some (.string d) := by simp [World.cell?, hqV]
  have z3 := hPV.cell3
  have z4 := hPV.cell4
  have z5 := hPV.free 3
  have HPV := hide hPV
  have HGV := hide hGV
  have HRV := hide hrV
  have HSV := hide hszV
  -- the end, whatever was laid
  have HEND : Hid (∀ w1 (C : Int) (D : ByteArray) (v : Value) (l : List ByteArray) (s' : SS), Gs (two b mb) V w1 → PS w1 b mb s'.q s'.f s'.off s'.m s'.L → TS (w.heap.size + 2) v l w1 → doR ⟨q, f, m, off, L⟩ k n d = ⟨C, D, l⟩ → doS ⟨q, f, m, off, L⟩ k n d = s' →
      ((w1.cell? ⟨w.heap.size + 1, 0, none⟩ = some (.int .i64 0) ∧ w1.frozen? ⟨w.heap.size + 1, 0, none⟩ = false) ∧ ((w1.setCell ⟨w.heap.size + 1, 0, none⟩ (.int .i64 C)).cell? ⟨w.heap.size + 1, 1, none⟩ = some (.string ⟨#[]⟩) ∧ (w1.setCell ⟨w.heap.size + 1, 0, none⟩ (.int .i64 C)).frozen? ⟨w.heap.size + 1, 1, none⟩ = false) ∧
      (((w1.setCell ⟨w.heap.size + 1, 0, none⟩ (.int .i64 C)).setCell ⟨w.heap.size + 1, 1, none⟩ (.string D)).cell? ⟨w.heap.size + 1, 2, none⟩ = some (.slice none 0 0) ∧ ((w1.setCell ⟨w.heap.size + 1, 0, none⟩ (.int .i64 C)).setCell ⟨w.heap.size + 1, 1, none⟩ (.string D)).frozen? ⟨w.heap.size + 1, 2, none⟩ = false)) ∧
      (((((w1.setCell ⟨w.heap.size + 1, 0, none⟩ (.int .i64 C)).setCell ⟨w.heap.size + 1, 1, none⟩ (.string D)).setCell ⟨w.heap.size + 1, 2, none⟩ v).cell? ⟨w.heap.size + 1, 0, none⟩ = some (.int .i64 C) ∧ (((w1.setCell ⟨w.heap.size + 1, 0, none⟩ (.int .i64 C)).setCell ⟨w.heap.size + 1, 1, none⟩ (.string D)).setCell ⟨w.heap.size + 1, 2, none⟩ v).cell? ⟨w.heap.size + 1, 1, none⟩ = some (.string D) ∧ (((w1.setCell ⟨w.heap.size + 1, 0, none⟩ (.int .i64 C)).setCell ⟨w.heap.size + 1, 1, none⟩ (.string D)).setCell ⟨w.heap.size + 1, 2, none⟩ v).cell? ⟨w.heap.size + 1, 2, none⟩ = some v) ∧
      (∃ v', Ending.returned (.agg #[.int .i64 C, .string D, v]) = .returned v' ∧ AR (laid3 w1 (w.heap.size + 1) (.int .i64 C) (.string D) v) w.heap.size v' (doR ⟨q, f, m, off, L⟩ k n d) ∧ PX (laid3 w1 (w.heap.size + 1) (.int .i64 C) (.string D) v) b mb (doS ⟨q, f, m, off, L⟩ k n d) ∧ Gs (two b mb) w (laid3 w1 (w.heap.size + 1) (.int .i64 C) (.string D) v)))) := by
    intro w1 C D v l s' hg hp ht hr hs
    have hlt := HBL.out
    have hmlt := HMB.out
    have hr1 : w1.heap[w.heap.size + 1]? = _ := (hg.block _ (by rw [hszV]; omega) (by rintro (e | e) <;> omega)).trans hrV
    obtain ⟨a1, a2, a3, a4⟩ := set3 hr1 (.int .i64 C) (.string D) v
    refine ⟨⟨a1, a2, a3⟩, ⟨by simp [World.cell?, a4], by simp [World.cell?, a4], by simp [World.cell?, a4]⟩, _, rfl, ?_, ?_, ?_⟩
    · rw [hr]
      refine ⟨v, rfl, ?_⟩
      have ht' : TS (w.heap.size + 2) v l (laid3 w1 (w.heap.size + 1) (.int .i64 C) (.string D) v) := ht.kb fun i hi => laid3_other _ _ _ (by have := (ht.lt i hi).1; omega)
      refine ⟨ht'.own.1, ?_⟩
      rcases ht'.own.2 with h2 | ⟨g, cap, cur, e, hB, r⟩
      · exact .inl h2
      · exact .inr ⟨g, cap, cur, e, by omega, r⟩
    · rw [hs]
      exact hp.laid (by omega) (by omega) _ _ _
    · exact (hGV.trans hg).laid (by omega) _ _ _
  clear hP hPU hPV hGV hqV hrV hszV hq0 hr0 hszU hBU hU hV
  go_enter Try.func52, Try.ntmps52
  go_upto_region 1 with fail
  rw [← HU.out]
  go_wp2_with fail
  refine HA.out.mono ?_
  rintro e w0 ⟨rfl, rfl⟩
  clear HA
  cases off with
  | true =>
    obtain ⟨⟨⟨a1, a2⟩, ⟨a3, a4⟩, a5, a6⟩, ⟨c0, c1, c2⟩, hE⟩ := HEND.out w0 70 ⟨#[]⟩ (.slice none 0 0) [] ⟨q, f, m + 1, true, L⟩ (Gs.refl _ _) HPV.out (TS.nil _ _) rfl rfl
    have HE := hide hE
    clear hE HEND
    go_wp2
    exact bodyPost_ret (v := .agg #[.int .i64 70, .string ⟨#[]⟩, (.slice none 0 0)]) (by simp [results, Try.results52, go_sem, c0, c1, c2]) rfl HE.out
  | false =>
    by_cases hf0 : 0 < f
    · have hw : IntKind.i64.wrap (f - 1) = f - 1 := by simp [IntKind.wrap_i64]; omega
      have HR1 : Hid (doR ⟨q, f, m, false, L⟩ k n d = ⟨72, ⟨#[]⟩, []⟩) := hide (by rw [doR]; simp [hf0])
      have HS1 : Hid (doS ⟨q, f, m, false, L⟩ k n d = ⟨q, f - 1, m + 1, false, L⟩) := hide (by rw [doS]; simp [hf0])
      obtain ⟨⟨⟨a1, a2⟩, ⟨a3, a4⟩, a5, a6⟩, ⟨c0, c1, c2⟩, hE⟩ := HEND.out (w0.setCell ⟨b, 3, none⟩ (.int .i64 (f - 1))) 72 ⟨#[]⟩ (.slice none 0 0) [] ⟨q, f - 1, m + 1, false, L⟩ ((Gs.refl _ _).set (.inl (.inl rfl)) _) (HPV.out.set3 _) (TS.nil _ _) HR1.out HS1.out
      have HE := hide hE
      clear hE HEND
      go_wp2
      exact bodyPost_ret (v := .agg #[.int .i64 72, .string ⟨#[]⟩, (.slice none 0 0)]) (by simp [results, Try.results52, go_sem, c0, c1, c2]) rfl HE.out
    have HFZ := hide hf0
    have hf1 : ¬ 0 < f := hf0
    by_cases hk1 : k = 1
    · subst hk1
      have HR1 : Hid (doR ⟨q, f, m, false, L⟩ 1 n d = ⟨pcode n d L q, ⟨#[]⟩, []⟩) := hide (by rw [doR]; simp [hf1])
      have HS1 : Hid (doS ⟨q, f, m, false, L⟩ 1 n d = ⟨q, f, m + 1, false, putL n d L q⟩) := hide (by rw [doS]; simp [hf1])
      have HC : Hid _ := hide (put_any HPV.out n d hn hd hl)
      go_wp2_with fail
      refine HC.out.mono ?_
      rintro e w1 ⟨rfl, hp1, hg1⟩
      generalize pcode n d L q = C at *
      obtain ⟨⟨⟨a1, a2⟩, ⟨a3, a4⟩, a5, a6⟩, ⟨c0, c1, c2⟩, hE⟩ := HEND.out w1 C ⟨#[]⟩ (.slice none 0 0) [] ⟨q, f, m + 1, false, putL n d L q⟩ hg1 hp1 (TS.nil _ _) HR1.out HS1.out
      have HE := hide hE
      clear hE HEND
      go_wp2
      exact bodyPost_ret (v := .agg #[.int .i64 C, .string ⟨#[]⟩, (.slice none 0 0)]) (by simp [results, Try.results52, go_sem, c0, c1, c2]) rfl HE.out
    by_cases hk2 : k = 2
    · subst hk2
      have HR1 : Hid (doR ⟨q, f, m, false, L⟩ 2 n d = ⟨dcode n L, (thr L n).getD ⟨#[]⟩, []⟩) := hide (by rw [doR]; simp [hf1])
      have HS1 : Hid (doS ⟨q, f, m, false, L⟩ 2 n d = ⟨q, f, m + 1, false, L⟩) := hide (by rw [doS]; simp [hf1])
      have HC : Hid _ := hide (get_any HPV.out n hn)
      go_wp2_with fail
      refine HC.out.mono ?_
      rintro e w1 ⟨rfl, hb1⟩
      generalize dcode n L = C at *
      generalize (thr L n).getD ⟨#[]⟩ = D at *
      obtain ⟨⟨⟨a1, a2⟩, ⟨a3, a4⟩, a5, a6⟩, ⟨c0, c1, c2⟩, hE⟩ := HEND.out w1 C D (.slice none 0 0) [] ⟨q, f, m + 1, false, L⟩ (Gs.of_below _ hb1) (HPV.out.bel hb1) (TS.nil _ _) HR1.out HS1.out
      have HE := hide hE
      clear hE HEND
      go_wp2
      exact bodyPost_ret (v := .agg #[.int .i64 C, .string D, (.slice none 0 0)]) (by simp [results, Try.results52, go_sem, c0, c1, c2]) rfl HE.out
    by_cases hk3 : k = 3
    · subst hk3
      have HR1 : Hid (doR ⟨q, f, m, false, L⟩ 3 n d = ⟨0, ⟨#[]⟩, namesL L n⟩) := hide (by rw [doR]; simp [hf1])
      have HS1 : Hid (doS ⟨q, f, m, false, L⟩ 3 n d = ⟨q, f, m + 1, false, L⟩) := hide (by rw [doS]; simp [hf1])
      have HC : Hid _ := hide (begunBy_any HPV.out n hl)
      go_wp2_with fail
      refine HC.out.mono ?_
      rintro e w1 ⟨v, rfl, hT, hb1⟩
      have hT' : TS (w.heap.size + 2) v (namesL L n) w1 := by rw [← HSV.out]; exact hT
      obtain ⟨va, vc, rfl⟩ := hT.shp
      generalize hvl : (namesL L n).length = vl at *
      clear hvl hT
      obtain ⟨⟨⟨a1, a2⟩, ⟨a3, a4⟩, a5, a6⟩, ⟨c0, c1, c2⟩, hE⟩ := HEND.out w1 0 ⟨#[]⟩ (.slice va vl vc) (namesL L n) ⟨q, f, m + 1, false, L⟩ (Gs.of_below _ hb1) (HPV.out.bel hb1) hT' HR1.out HS1.out
      have HE := hide hE
      clear hE HEND
      go_wp2
      exact bodyPost_ret (v := .agg #[.int .i64 0, .string ⟨#[]⟩, .slice va vl vc]) (by simp [results, Try.results52, go_sem, c0, c1, c2]) rfl HE.out
    by_cases hk4 : k = 4
    · subst hk4
      have HR1 : Hid (doR ⟨q, f, m, false, L⟩ 4 n d = ⟨dcode n L, ⟨#[]⟩, []⟩) := hide (by rw [doR]; simp [hf1])
      have HS1 : Hid (doS ⟨q, f, m, false, L⟩ 4 n d = ⟨q, f, m + 1, false, delL L n⟩) := hide (by rw [doS]; simp [hf1])
      have HC : Hid _ := hide (del_any HPV.out n hn hl)
      go_wp2_with fail
      refine HC.out.mono ?_
      rintro e w1 ⟨rfl, hp1, hg1⟩
      generalize dcode n L = C at *
      obtain ⟨⟨⟨a1, a2⟩, ⟨a3, a4⟩, a5, a6⟩, ⟨c0, c1, c2⟩, hE⟩ := HEND.out w1 C ⟨#[]⟩ (.slice none 0 0) [] ⟨q, f, m + 1, false, delL L n⟩ hg1 hp1 (TS.nil _ _) HR1.out HS1.out
      have HE := hide hE
      clear hE HEND
      go_wp2
      exact bodyPost_ret (v := .agg #[.int .i64 C, .string ⟨#[]⟩, (.slice none 0 0)]) (by simp [results, Try.results52, go_sem, c0, c1, c2]) rfl HE.out
    · have HR1 : Hid (doR ⟨q, f, m, false, L⟩ k n d = ⟨3, ⟨#[]⟩, []⟩) := hide (by rw [doR]; simp [hf1, hk1, hk2, hk3, hk4])
      have HS1 : Hid (doS ⟨q, f, m, false, L⟩ k n d = ⟨q, f, m + 1, false, L⟩) := hide (by rw [doS]; simp [hf1, hk1, hk4])
      obtain ⟨⟨⟨a1, a2⟩, ⟨a3, a4⟩, a5, a6⟩, ⟨c0, c1, c2⟩, hE⟩ := HEND.out w0 3 ⟨#[]⟩ (.slice none 0 0) [] ⟨q, f, m + 1, false, L⟩ (Gs.refl _ _) HPV.out (TS.nil _ _) HR1.out HS1.out
      have HE := hide hE
      clear hE HEND
      go_wp2
      exact bodyPost_ret (v := .agg #[.int .i64 3, .string ⟨#[]⟩, (.slice none 0 0)]) (by simp [results, Try.results52, go_sem, c0, c1, c2]) rfl HE.out
end
end Go.Proofs.Ytepmhgkegfpmjaa
