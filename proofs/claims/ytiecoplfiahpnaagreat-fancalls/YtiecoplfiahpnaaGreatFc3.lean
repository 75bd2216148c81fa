/-
  Contracts of the program and of the statements (part 3 of 13).
-/
import Derived.Test.YtiecoplfiahpnaaGreatFc2
import Derived.Deep.RegionLaw
import Derived.Laws.Externs
import Derived.Shelf.SlMaps.Clone

namespace Go.Proofs.YtiecoplfiahpnaaGreat
open Go.RowKit Go.Lib Go.Maps

/-- A store in plain terms: quota, calls that are to fail, calls so far, is it down, objects. -/
structure SS where
  q : Int
  f : Int
  m : Int
  off : Bool
  L : List OB
/-- An answer. -/
structure RR where
  c : Int
  d : ByteArray
  l : List ByteArray
def doR (s : SS) (k : Int) (n d : ByteArray) : RR :=
  if s.off = true then ⟨70, ⟨#[]⟩, []⟩ else if 0 < s.f then ⟨72, ⟨#[]⟩, []⟩ else
  if k = 1 then ⟨pcode n d s.L s.q, ⟨#[]⟩, []⟩ else if k = 2 then ⟨dcode n s.L, (thr s.L n).getD ⟨#[]⟩, []⟩ else
  if k = 3 then ⟨0, ⟨#[]⟩, namesL s.L n⟩ else if k = 4 then ⟨dcode n s.L, ⟨#[]⟩, []⟩ else ⟨3, ⟨#[]⟩, []⟩
def doS (s : SS) (k : Int) (n d : ByteArray) : SS :=
  if s.off = true then { s with m := s.m + 1 } else if 0 < s.f then { s with f := s.f - 1, m := s.m + 1 } else
  { s with m := s.m + 1, L := if k = 1 then putL n d s.L s.q else if k = 4 then delL s.L n else s.L }
/-- The program's store, by a plain one. -/
def PX (w : World) (b mb : Nat) (s : SS) : Prop := PS w b mb s.q s.f s.off s.m s.L

/-- A block of three, stored over. -/
theorem set3 {w : World} {g : Nat} {T : TypeId} {a0 a1 a2 : Value} (h : w.heap[g]? = some (.cells #[a0, a1, a2] T (0, 0))) (x y z : Value) :
    (w.cell? ⟨g, 0, none⟩ = some a0 ∧ w.frozen? ⟨g, 0, none⟩ = false) ∧ ((w.setCell ⟨g, 0, none⟩ x).cell? ⟨g, 1, none⟩ = some a1 ∧ (w.setCell ⟨g, 0, none⟩ x).frozen? ⟨g, 1, none⟩ = false) ∧
      (((w.setCell ⟨g, 0, none⟩ x).setCell ⟨g, 1, none⟩ y).cell? ⟨g, 2, none⟩ = some a2 ∧ ((w.setCell ⟨g, 0, none⟩ x).setCell ⟨g, 1, none⟩ y).frozen? ⟨g, 2, none⟩ = false) ∧
      (((w.setCell ⟨g, 0, none⟩ x).setCell ⟨g, 1, none⟩ y).setCell ⟨g, 2, none⟩ z).heap[g]? = some (.cells #[x, y, z] T (0, 0)) := by
  have h1 : (w.setCell ⟨g, 0, none⟩ x).heap[g]? = some (.cells #[x, a1, a2] T (0, 0)) := heap_set_self h
  have h2 : ((w.setCell ⟨g, 0, none⟩ x).setCell ⟨g, 1, none⟩ y).heap[g]? = some (.cells #[x, y, a2] T (0, 0)) := heap_set_self h1
  have h3 : (((w.setCell ⟨g, 0, none⟩ x).setCell ⟨g, 1, none⟩ y).setCell ⟨g, 2, none⟩ z).heap[g]? = some (.cells #[x, y, z] T (0, 0)) := heap_set_self h2
  exact ⟨⟨by simp [World.cell?, h], by simp [World.frozen?, h]⟩, ⟨by simp [World.cell?, h1], by simp [World.frozen?, h1]⟩, ⟨by simp [World.cell?, h2], by simp [World.frozen?, h2]⟩, h3⟩
/-- The world behind an answer that was laid. -/
def laid3 (w : World) (g : Nat) (x y z : Value) : World := ((w.setCell ⟨g, 0, none⟩ x).setCell ⟨g, 1, none⟩ y).setCell ⟨g, 2, none⟩ z
theorem laid3_other {w : World} {g i : Nat} (x y z : Value) (h : i ≠ g) : (laid3 w g x y z).heap[i]? = w.heap[i]? := by
  rw [laid3, Below.heap_setCell _ _ _ _ h, Below.heap_setCell _ _ _ _ h, Below.heap_setCell _ _ _ _ h]
theorem Gs.laid {p : Nat → Prop} {w w1 : World} (h : Gs p w w1) {g : Nat} (hg : w.heap.size ≤ g) (x y z : Value) : Gs p w (laid3 w1 g x y z) :=
  ((h.set (a := ⟨g, 0, none⟩) (.inr hg) _).set (a := ⟨g, 1, none⟩) (.inr hg) _).set (a := ⟨g, 2, none⟩) (.inr hg) _
theorem PS.laid {w : World} {b mb : Nat} {q f : Int} {dn : Bool} {cl : Int} {L : List OB} (h : PS w b mb q f dn cl L) {g : Nat} (hb : b ≠ g) (hm : mb ≠ g) (x y z : Value) : PS (laid3 w g x y z) b mb q f dn cl L :=
  ⟨(laid3_other x y z hb).trans h.blk, ((h.map.set (a := ⟨g, 0, none⟩) hm _).set (a := ⟨g, 1, none⟩) hm _).set (a := ⟨g, 2, none⟩) hm _, h.ris, h.small⟩
theorem TS.kb {B : Nat} {v : Value} {l : List ByteArray} {w w' : World} (h : TS B v l w) (hk : ∀ i, v.ownBlock = some i → w'.heap[i]? = w.heap[i]?) : TS B v l w' := by
  refine ⟨h.own.1, ?_⟩
  rcases h.own.2 with h2 | ⟨g, cap, cur, e, hB, hg, r⟩
  · exact .inl h2
  · refine .inr ⟨g, cap, cur, e, hB, (hk g ?_).trans hg, r⟩
    rw [e]; rfl
/-- An answer in memory. -/
def AR (w : World) (B : Nat) (v : Value) (r : RR) : Prop := ∃ u, v = .agg #[.int .i64 r.c, .string r.d, u] ∧ TS B u r.l w

section
variable {w : World} {b mb : Nat} {s : SS}
set_option maxRecDepth 100000 in
set_option maxHeartbeats 3200000 in
theorem do_any (hP : PX w b mb s) (st k : Int) (n d : ByteArray) (hn : n.size ≤ maxLen) (hd : d.size ≤ maxLen) (hl : s.L.length ≤ 1000000) (hm0 : 0 ≤ s.m) (hm1 : s.m ≤ 1000000000000) (hf : s.f ≤ 1048576) :
    Calls Tryz.prog 93 #[.pointer (some ⟨b, 0, none⟩), .agg #[.int .i64 st, .int .i64 k, .string n, .string d]] w fun e w' => ∃ v, e = .returned v ∧ AR w' w.heap.size v (doR s k n d) ∧ PX w' b mb (doS s k n d) ∧ Gs (two b mb) w w' := by
  obtain ⟨q, f, m, off, L⟩ := s
  have hP : PS w b mb q f off m L := hP
  dsimp only at hl hm0 hm1 hf
  obtain ⟨U, hU⟩ : ∃ U, U = (w.alloc (.cells #[.int .i64 st, .int .i64 k, .string n, .string d] 65)).alloc (.cells #[.int .i64 0, .string ⟨#[]⟩, .slice none 0 0] 72) := ⟨_, rfl⟩
  have hBU : Below w.heap.size w U := by rw [hU]; exact ((Below.refl _ _).alloc (Nat.le_refl _) _).alloc (by simp) _
  have hszU : U.heap.size = w.heap.size + 2 := by rw [hU]; simp
  have hq0 : U.heap[w.heap.size]? = some (.cells #[.int .i64 st, .int .i64 k, .string n, .string d] 65 (0, 0)) := by
    rw [hU, Below.heap_alloc _ _ _ (by simp)]; exact heap_alloc_new w _
  have hr0 : U.heap[w.heap.size + 1]? = some (.cells #[.int .i64 0, .string ⟨#[]⟩, .slice none 0 0] 72 (0, 0)) := by
    have := heap_alloc_new (w.alloc (.cells #[.int .i64 st, .int .i64 k, .string n, .string d] 65)) (.cells #[.int .i64 0, .string ⟨#[]⟩, .slice none 0 0] 72 (0, 0))
    rw [hU]
    simpa using this
  have hPU := hP.bel hBU
  have HA : Hid _ := hide (add_any hPU hm0 hm1)
  have HBL := hide hP.lt
  have HMB := hide hP.mlt
  obtain ⟨V, hV⟩ : ∃ V, V = U.setCell ⟨b, 5, none⟩ (.int .i64 (m + 1)) := ⟨_, rfl⟩
  have hPV : PS V b mb q f off (m + 1) L := by rw [hV]; exact hPU.set5 _
  have hGV : Gs (two b mb) w V := by rw [hV]; exact (Gs.of_below _ hBU).set (.inl (.inl rfl)) _
  have hqV : V.heap[w.heap.size]? = _ := (by rw [hV]; exact Below.heap_setCell _ _ _ _ (by have := hP.lt; show w.heap.size ≠ b; omega) : V.heap[w.heap.size]? = U.heap[w.heap.size]?).trans hq0
  have hrV : V.heap[w.heap.size + 1]? = _ := (by rw [hV]; exact Below.heap_setCell _ _ _ _ (by have := hP.lt; show w.heap.size + 1 ≠ b; omega) : V.heap[w.heap.size + 1]? = U.heap[w.heap.size + 1]?).trans hr0
  have hszV : V.heap.size = w.heap.size + 2 := by rw [hV]; simp [World.setCell, hszU]
  rw [← hV] at HA
  have HU := hide hU
  have y1 : V.cell? ⟨w.heap.size, 1, none⟩ = some (.int .i64 k) := by simp [World.cell?, hqV]
  have y2 : V.cell? ⟨w.heap.size, 2, none⟩ = some (.string n) := by simp [World.cell?, hqV]
  have y3 : V.cell? ⟨w.heap.size, 3, none⟩ = some (.string d) := by simp [World.cell?, hqV]
  have z3 := hPV.cell3
  have z4 := hPV.cell4
  have z5 := hPV.free 3
  have HPV := hide hPV
  have HGV := hide hGV
  have HRV := hide hrV
  have HSV := hide hszV
  -- the end, whatever was laid
  have HEND : Hid (∀ w1 (C : Int) (D : ByteArray) (v : Value) (l : List ByteArray) (s' : SS), Gs (two b mb) V w1 → PS w1 b mb s'.q s'.f s'.off s'.m s'.L → TS (w.heap.size + 2) v l w1 → doR ⟨q, f, m, off, L⟩ k n d = ⟨C, D, l⟩ → doS ⟨q, f, m, off, L⟩ k n d = s' →
      ((w1.cell? ⟨w.heap.size + 1, 0, none⟩ = some (.int .i64 0) ∧ w1.frozen? ⟨w.heap.size + 1, 0, none⟩ = false) ∧ ((w1.setCell ⟨w.heap.size + 1, 0, none⟩ (.int .i64 C)).cell? ⟨w.heap.size + 1, 1, none⟩ = some (.string ⟨#[]⟩) ∧ (w1.setCell ⟨w.heap.size + 1, 0, none⟩ (.int .i64 C)).frozen? ⟨w.heap.size + 1, 1, none⟩ = false) ∧
      (((w1.setCell ⟨w.heap.size + 1, 0, none⟩ (.int .i64 C)).setCell ⟨w.heap.size + 1, 1, none⟩ (.string D)).cell? ⟨w.heap.size + 1, 2, none⟩ = some (.slice none 0 0) ∧ ((w1.setCell ⟨w.heap.size + 1, 0, none⟩ (.int .i64 C)).setCell ⟨w.heap.size + 1, 1, none⟩ (.string D)).frozen? ⟨w.heap.size + 1, 2, none⟩ = false)) ∧
      (((((w1.setCell ⟨w.heap.size + 1, 0, none⟩ (.int .i64 C)).setCell ⟨w.heap.size + 1, 1, none⟩ (.string D)).setCell ⟨w.heap.size + 1, 2, none⟩ v).cell? ⟨w.heap.size + 1, 0, none⟩ = some (.int .i64 C) ∧ (((w1.setCell ⟨w.heap.size + 1, 0, none⟩ (.int .i64 C)).setCell ⟨w.heap.size + 1, 1, none⟩ (.string D)).setCell ⟨w.heap.size + 1, 2, none⟩ v).cell? ⟨w.heap.size + 1, 1, none⟩ = some (.string D) ∧ (((w1.setCell ⟨w.heap.size + 1, 0, none⟩ (.int .i64 C)).setCell ⟨w.heap.size + 1, 1, none⟩ (.string D)).setCell ⟨w.heap.size + 1, 2, none⟩ v).cell? ⟨w.heap.size + 1, 2, none⟩ = some v) ∧
      (∃ v', Ending.returned (.agg #[.int .i64 C, .string D, v]) = .returned v' ∧ AR (laid3 w1 (w.heap.size + 1) (.int .i64 C) (.string D) v) w.heap.size v' (doR ⟨q, f, m, off, L⟩ k n d) ∧ PX (laid3 w1 (w.heap.size + 1) (.int .i64 C) (.string D) v) b mb (doS ⟨q, f, m, off, L⟩ k n d) ∧ Gs (two b mb) w (laid3 w1 (w.heap.size + 1) (.int .i64 C) (.string D) v)))) := by
    intro w1 C D v l s' hg hp ht hr hs
    have hlt := HBL.out
    have hmlt := HMB.out
    have hr1 : w1.heap[w.heap.size + 1]? = _ := (hg.block _ (by rw [hszV]; omega) (by rintro (e | e) <;> omega)).trans hrV
    obtain ⟨a1, a2, a3, a4⟩ := set3 hr1 (.int .i64 C) (.string D) v
    refine ⟨⟨a1, a2, a3⟩, ⟨by simp [World.cell?, a4], by simp [World.cell?, a4], by simp [World.cell?, a4]⟩, _, rfl, ?_, ?_, ?_⟩
    · rw [hr]
      refine ⟨v, rfl, ?_⟩
      have ht' : TS (w.heap.size + 2) v l (laid3 w1 (w.heap.size + 1) (.int .i64 C) (.string D) v) := ht.kb fun i hi => laid3_other _ _ _ (by have := (ht.lt i hi).1; omega)
      refine ⟨ht'.own.1, ?_⟩
      rcases ht'.own.2 with h2 | ⟨g, cap, cur, e, hB, r⟩
      · exact .inl h2
      · exact .inr ⟨g, cap, cur, e, by omega, r⟩
    · rw [hs]
      exact hp.laid (by omega) (by omega) _ _ _
    · exact (hGV.trans hg).laid (by omega) _ _ _
  clear hP hPU hPV hGV hqV hrV hszV hq0 hr0 hszU hBU hU hV
  go_enter Tryz.func93, Tryz.ntmps93
  go_upto_region 1 with fail
  rw [← HU.out]
  go_wp2_with fail
  refine HA.out.mono ?_
  rintro e w0 ⟨rfl, rfl⟩
  clear HA
  cases off with
  | true =>
    obtain ⟨⟨⟨a1, a2⟩, ⟨a3, a4⟩, a5, a6⟩, ⟨c0, c1, c2⟩, hE⟩ := HEND.out w0 70 ⟨#[]⟩ (.slice none 0 0) [] ⟨q, f, m + 1, true, L⟩ (Gs.refl _ _) HPV.out (TS.nil _ _) rfl rfl
    have HE := hide hE
    clear hE HEND
    go_wp2
    exact bodyPost_ret (v := .agg #[.int .i64 70, .string ⟨#[]⟩, (.slice none 0 0)]) (by simp [results, Tryz.results93, go_sem, c0, c1, c2]) rfl HE.out
  | false =>
    by_cases hf0 : 0 < f
    · have hw : IntKind.i64.wrap (f - 1) = f - 1 := by simp [IntKind.wrap_i64]; omega
      have HR1 : Hid (doR ⟨q, f, m, false, L⟩ k n d = ⟨72, ⟨#[]⟩, []⟩) := hide (by rw [doR]; simp [hf0])
      have HS1 : Hid (doS ⟨q, f, m, false, L⟩ k n d = ⟨q, f - 1, m + 1, false, L⟩) := hide (by rw [doS]; simp [hf0])
      obtain ⟨⟨⟨a1, a2⟩, ⟨a3, a4⟩, a5, a6⟩, ⟨c0, c1, c2⟩, hE⟩ := HEND.out (w0.setCell ⟨b, 3, none⟩ (.int .i64 (f - 1))) 72 ⟨#[]⟩ (.slice none 0 0) [] ⟨q, f - 1, m + 1, false, L⟩ ((Gs.refl _ _).set (.inl (.inl rfl)) _) (HPV.out.set3 _) (TS.nil _ _) HR1.out HS1.out
      have HE := hide hE
      clear hE HEND
      go_wp2
      exact bodyPost_ret (v := .agg #[.int .i64 72, .string ⟨#[]⟩, (.slice none 0 0)]) (by simp [results, Tryz.results93, go_sem, c0, c1, c2]) rfl HE.out
    have HFZ := hide hf0
    have hf1 : ¬ 0 < f := hf0
    by_cases hk1 : k = 1
    · subst hk1
      have HR1 : Hid (doR ⟨q, f, m, false, L⟩ 1 n d = ⟨pcode n d L q, ⟨#[]⟩, []⟩) := hide (by rw [doR]; simp [hf1])
      have HS1 : Hid (doS ⟨q, f, m, false, L⟩ 1 n d = ⟨q, f, m + 1, false, putL n d L q⟩) := hide (by rw [doS]; simp [hf1])
      have HC : Hid _ := hide (put_any HPV.out n d hn hd hl)
      go_wp2_with fail
      refine HC.out.mono ?_
      rintro e w1 ⟨rfl, hp1, hg1⟩
      generalize pcode n d L q = C at *
      obtain ⟨⟨⟨a1, a2⟩, ⟨a3, a4⟩, a5, a6⟩, ⟨c0, c1, c2⟩, hE⟩ := HEND.out w1 C ⟨#[]⟩ (.slice none 0 0) [] ⟨q, f, m + 1, false, putL n d L q⟩ hg1 hp1 (TS.nil _ _) HR1.out HS1.out
      have HE := hide hE
      clear hE HEND
      go_wp2
      exact bodyPost_ret (v := .agg #[.int .i64 C, .string ⟨#[]⟩, (.slice none 0 0)]) (by simp [results, Tryz.results93, go_sem, c0, c1, c2]) rfl HE.out
    by_cases hk2 : k = 2
    · subst hk2
      have HR1 : Hid (doR ⟨q, f, m, false, L⟩ 2 n d = ⟨dcode n L, (thr L n).getD ⟨#[]⟩, []⟩) := hide (by rw [doR]; simp [hf1])
      have HS1 : Hid (doS ⟨q, f, m, false, L⟩ 2 n d = ⟨q, f, m + 1, false, L⟩) := hide (by rw [doS]; simp [hf1])
      have HC : Hid _ := hide (get_any HPV.out n hn)
      go_wp2_with fail
      refine HC.out.mono ?_
      rintro e w1 ⟨rfl, hb1⟩
      generalize dcode n L = C at *
      generalize (thr L n).getD ⟨#[]⟩ = D at *
      obtain ⟨⟨⟨a1, a2⟩, ⟨a3, a4⟩, a5, a6⟩, ⟨c0, c1, c2⟩, hE⟩ := HEND.out w1 C D (.slice none 0 0) [] ⟨q, f, m + 1, false, L⟩ (Gs.of_below _ hb1) (HPV.out.bel hb1) (TS.nil _ _) HR1.out HS1.out
      have HE := hide hE
      clear hE HEND
      go_wp2
      exact bodyPost_ret (v := .agg #[.int .i64 C, .string D, (.slice none 0 0)]) (by simp [results, Tryz.results93, go_sem, c0, c1, c2]) rfl HE.out
    by_cases hk3 : k = 3
    · subst hk3
      have HR1 : Hid (doR ⟨q, f, m, false, L⟩ 3 n d = ⟨0, ⟨#[]⟩, namesL L n⟩) := hide (by rw [doR]; simp [hf1])
      have HS1 : Hid (doS ⟨q, f, m, false, L⟩ 3 n d = ⟨q, f, m + 1, false, L⟩) := hide (by rw [doS]; simp [hf1])
      have HC : Hid _ := hide (begunBy_any HPV.out n hl)
      go_wp2_with fail
      refine HC.out.mono ?_
      rintro e w1 ⟨v, rfl, hT, hb1⟩
      have hT' : TS (w.heap.size + 2) v (namesL L n) w1 := by rw [← HSV.out]; exact hT
      obtain ⟨va, vc, rfl⟩ := hT.shp
      generalize hvl : (namesL L n).length = vl at *
      clear hvl hT
      obtain ⟨⟨⟨a1, a2⟩, ⟨a3, a4⟩, a5, a6⟩, ⟨c0, c1, c2⟩, hE⟩ := HEND.out w1 0 ⟨#[]⟩ (.slice va vl vc) (namesL L n) ⟨q, f, m + 1, false, L⟩ (Gs.of_below _ hb1) (HPV.out.bel hb1) hT' HR1.out HS1.out
      have HE := hide hE
      clear hE HEND
      go_wp2
      exact bodyPost_ret (v := .agg #[.int .i64 0, .string ⟨#[]⟩, .slice va vl vc]) (by simp [results, Tryz.results93, go_sem, c0, c1, c2]) rfl HE.out
    by_cases hk4 : k = 4
    · subst hk4
      have HR1 : Hid (doR ⟨q, f, m, false, L⟩ 4 n d = ⟨dcode n L, ⟨#[]⟩, []⟩) := hide (by rw [doR]; simp [hf1])
      have HS1 : Hid (doS ⟨q, f, m, false, L⟩ 4 n d = ⟨q, f, m + 1, false, delL L n⟩) := hide (by rw [doS]; simp [hf1])
      have HC : Hid _ := hide (del_any HPV.out n hn hl)
      go_wp2_with fail
      refine HC.out.mono ?_
      rintro e w1 ⟨rfl, hp1, hg1⟩
      generalize dcode n L = C at *
      obtain ⟨⟨⟨a1, a2⟩, ⟨a3, a4⟩, a5, a6⟩, ⟨c0, c1, c2⟩, hE⟩ := HEND.out w1 C ⟨#[]⟩ (.slice none 0 0) [] ⟨q, f, m + 1, false, delL L n⟩ hg1 hp1 (TS.nil _ _) HR1.out HS1.out
      have HE := hide hE
      clear hE HEND
      go_wp2
      exact bodyPost_ret (v := .agg #[.int .i64 C, .string ⟨#[]⟩, (.slice none 0 0)]) (by simp [results, Tryz.results93, go_sem, c0, c1, c2]) rfl HE.out
    · have HR1 : Hid (doR ⟨q, f, m, false, L⟩ k n d = ⟨3, ⟨#[]⟩, []⟩) := hide (by rw [doR]; simp [hf1, hk1, hk2, hk3, hk4])
      have HS1 : Hid (doS ⟨q, f, m, false, L⟩ k n d = ⟨q, f, m + 1, false, L⟩) := hide (by rw [doS]; simp [hf1, hk1, hk4])
      obtain ⟨⟨⟨a1, a2⟩, ⟨a3, a4⟩, a5, a6⟩, ⟨c0, c1, c2⟩, hE⟩ := HEND.out w0 3 ⟨#[]⟩ (.slice none 0 0) [] ⟨q, f, m + 1, false, L⟩ (Gs.refl _ _) HPV.out (TS.nil _ _) HR1.out HS1.out
      have HE := hide hE
      clear hE HEND
      go_wp2
      exact bodyPost_ret (v := .agg #[.int .i64 3, .string ⟨#[]⟩, (.slice none 0 0)]) (by simp [results, Tryz.results93, go_sem, c0, c1, c2]) rfl HE.out
end
end Go.Proofs.YtiecoplfiahpnaaGreat

namespace Go.Proofs.YtiecoplfiahpnaaGreat
open Go.RowKit Go.Lib Go.Maps

/-- A list of texts lies in memory. -/
def TR (w : World) (v : Value) (l : List ByteArray) : Prop :=
  ∃ a c, v = .slice a l.length c ∧ (l = [] ∨ ∃ g o, a = some ⟨g, o, none⟩ ∧ g < w.heap.size ∧ ∀ i x, l[i]? = some x → w.cell? ⟨g, o + i, none⟩ = some (.string x))
section
variable {w w' : World} {v : Value} {l : List ByteArray} {B : Nat}
theorem TS.tr (h : TS B v l w) : TR w v l := by
  obtain ⟨h1, ⟨rfl, h2⟩ | ⟨g, cap, cur, rfl, hB, hg, hn, _, hs, ht⟩⟩ := h.own
  · exact ⟨_, _, by rw [h2], .inl (List.length_eq_zero_iff.1 h2)⟩
  · refine ⟨_, _, rfl, .inr ⟨g, 0, rfl, lt_of_block hg, fun i x hx => ?_⟩⟩
    have hl : i < l.length := (List.getElem?_eq_some_iff.1 hx).1
    have e0 : (tc l)[i]? = some (.string x) := by rw [tc, List.getElem?_map, hx]; rfl
    rw [← ht, List.getElem?_take, if_pos (by omega)] at e0
    rw [Nat.zero_add, cell_of_row w g _ _ _ _ hg]
    simpa using e0
theorem TR.below (h : TR w v l) {B : Nat} (hb : Below B w w') (hB : w.heap.size ≤ B) : TR w' v l := by
  obtain ⟨a, c, e, h | ⟨g, o, ea, hg, hC⟩⟩ := h
  · exact ⟨a, c, e, .inl h⟩
  · exact ⟨a, c, e, .inr ⟨g, o, ea, Nat.lt_of_lt_of_le hg hb.size, fun i x hx => (hb.cell (p := ⟨g, o + i, none⟩) (Nat.lt_of_lt_of_le hg hB)).trans (hC i x hx)⟩⟩
theorem TR.bel (h : TR w v l) (hb : Below w.heap.size w w') : TR w' v l := h.below hb (Nat.le_refl _)
theorem TR.drew (h : TR w v l) : TR w.drew v l := h
end

set_option maxRecDepth 100000 in
set_option maxHeartbeats 800000 in
theorem sameTexts_eq {w : World} {u v : Value} {l : List ByteArray} (hu : TR w u l) (hv : TR w v l) (hl : l.length ≤ 1000000000) :
    Calls Tryz.prog 11 #[u, v] w fun e w' => e = .returned (.bool true) ∧ Below w.heap.size w w' := by
  obtain ⟨a, c, rfl, hA⟩ := hu
  obtain ⟨a', c', rfl, hA'⟩ := hv
  obtain ⟨N, hN⟩ : ∃ N, N = l.length := ⟨_, rfl⟩
  have HN := hide hN
  have hNl : N ≤ 1000000000 := by omega
  rw [← hN]
  have HA := hide hA
  have HA' := hide hA'
  clear hN hA hA' hl
  go_enter Tryz.func11, Tryz.ntmps11
  go_wp2
  go_loopw [5] (fun i wr => ∃ j : Nat, j ≤ N ∧ i = .int .i64 j ∧ Below w.heap.size w wr) (fun i _ => N - (intOf i).toNat)
  case atStart => exact ⟨0, Nat.zero_le _, rfl, Below.refl _ _⟩
  case round =>
    obtain ⟨j, hj, rfl, hb⟩ := hrel
    have HB := hide hb
    by_cases hlt : j < N
    · have hjl : j < l.length := by rw [← HN.out]; omega
      obtain ⟨x, hx⟩ : ∃ x, l[j]? = some x := ⟨_, List.getElem?_eq_getElem hjl⟩
      obtain ⟨g, o, rfl, hg, hC⟩ := HA.out.resolve_left (by intro e; rw [e] at hx; simp at hx)
      obtain ⟨g', o', rfl, hg', hC'⟩ := HA'.out.resolve_left (by intro e; rw [e] at hx; simp at hx)
      have z1 := (hb.cell (p := ⟨g, o + j, none⟩) hg).trans (hC j x hx)
      have z2 := (hb.cell (p := ⟨g', o' + j, none⟩) hg').trans (hC' j x hx)
      have b1 : (j : Int) < (N : Int) := by omega
      have b0 : (0 : Int) ≤ (j : Int) := by omega
      have HB2 := hide HB.out.drew
      clear hC hC' hx hb
      go_upto_region 6 with fail
      go_region
      go_wp2
      exact ⟨⟨j + 1, by omega, by go_num, HB2.out⟩, by simp [intOf]; omega⟩
    · obtain rfl : j = N := by omega
      clear hb
      go_wp2
      go_ret
      exact ⟨rfl, HB.out⟩

/-- An answer, opened. -/
theorem AR.shp {w : World} {B : Nat} {v : Value} {r : RR} (h : AR w B v r) : ∃ a c, v = .agg #[.int .i64 r.c, .string r.d, .slice a r.l.length c] ∧ TS B (.slice a r.l.length c) r.l w := by
  obtain ⟨u, rfl, hT⟩ := h
  obtain ⟨a, c, rfl⟩ := hT.shp
  exact ⟨a, c, rfl, hT⟩
theorem Gs.fresh {p : Nat → Prop} {w w1 w' : World} (h : Below w.heap.size w w1) (k : Gs p w1 w') (hp : ∀ i, p i → w.heap.size ≤ i) : Below w.heap.size w w' := k.below h h.size hp
theorem two_fresh {B b mb : Nat} (hb : B ≤ b) (hm : B ≤ mb) : ∀ i, two b mb i → B ≤ i := fun i h => by
  rcases h with rfl | rfl
  · exact hb
  · exact hm
def tA : ByteArray := ⟨#[97]⟩
def tB : ByteArray := ⟨#[98, 99, 100]⟩
def tC : ByteArray := ⟨#[98, 99, 100, 101]⟩
theorem ex1 : doR ⟨4, 0, 0, false, []⟩ 1 ⟨#[97]⟩ ⟨#[98, 99, 100]⟩ = ⟨0, ⟨#[]⟩, []⟩ := by kernel_rfl
theorem ex2 : doS ⟨4, 0, 0, false, []⟩ 1 ⟨#[97]⟩ ⟨#[98, 99, 100]⟩ = ⟨4, 0, 1, false, [⟨⟨#[97]⟩, ⟨#[98, 99, 100]⟩⟩]⟩ := by kernel_rfl
theorem ex3 : doR ⟨4, 0, 1, false, [⟨⟨#[97]⟩, ⟨#[98, 99, 100]⟩⟩]⟩ 1 ⟨#[97]⟩ ⟨#[98, 99, 100, 101]⟩ = ⟨71, ⟨#[]⟩, []⟩ := by kernel_rfl
theorem ex4 : doS ⟨4, 0, 1, false, [⟨⟨#[97]⟩, ⟨#[98, 99, 100]⟩⟩]⟩ 1 ⟨#[97]⟩ ⟨#[98, 99, 100, 101]⟩ = ⟨4, 0, 2, false, [⟨⟨#[97]⟩, ⟨#[98, 99, 100]⟩⟩]⟩ := by kernel_rfl
theorem ex5 : doR ⟨4, 0, 2, false, [⟨⟨#[97]⟩, ⟨#[98, 99, 100]⟩⟩]⟩ 2 ⟨#[97]⟩ ⟨#[]⟩ = ⟨0, ⟨#[98, 99, 100]⟩, []⟩ := by kernel_rfl

end Go.Proofs.YtiecoplfiahpnaaGreat

namespace Go.Proofs.YtiecoplfiahpnaaGreat
open Go.RowKit Go.Lib Go.Maps

theorem names_cons (p : OB) (r : List OB) (bg : ByteArray) : (namesL (p :: r) bg).length = (if begins bg p.n = true then 1 else 0) + (namesL r bg).length := by
  rw [namesL, namesL, List.length_map, List.length_map, List.filter_cons]
  split
  · rw [List.length_cons]; omega
  · omega
theorem names_lay (L : List OB) (n d bg : ByteArray) : (namesL (layL L n d) bg).length ≤ (namesL L bg).length + (if begins bg n = true then 1 else 0) ∧ (namesL L bg).length ≤ (namesL (layL L n d) bg).length ∧ (begins bg n = true → 0 < (namesL (layL L n d) bg).length) := by
  induction L with
  | nil =>
    rw [layL, names_cons]
    by_cases h : begins bg n = true
    · simp [h, namesL]
    · simp [h, namesL]
  | cons p r ih =>
    obtain ⟨h1, h2, h3⟩ := ih
    rw [layL]
    split
    · rw [names_cons, names_cons]
      refine ⟨by omega, by omega, fun h => ?_⟩
      have := h3 h
      omega
    · split
      · rename_i e
        rw [names_cons, names_cons, e]
        dsimp only
        refine ⟨by omega, by omega, fun h => ?_⟩
        rw [if_pos h]; omega
      · rw [names_cons, names_cons]
        dsimp only
        refine ⟨by omega, by omega, fun h => ?_⟩
        rw [if_pos h]; omega
theorem names_mem {L : List OB} {x bg : ByteArray} (h : x ∈ namesL L bg) : begins bg x = true ∧ (thr L x).isSome = true := by
  rw [namesL, List.mem_map] at h
  obtain ⟨p, hp, rfl⟩ := h
  rw [List.mem_filter] at hp
  refine ⟨hp.2, ?_⟩
  cases ht : thr L p.n with
  | some d => rfl
  | none => exact absurd rfl (thr_none.1 ht p hp.1)
theorem names_ris {L : List OB} (h : Ris L) (bg : ByteArray) : (namesL L bg).Pairwise (fun x y => bl x y = true) := by
  rw [namesL]
  exact List.pairwise_map.2 (List.Pairwise.filter _ h)
theorem names_at {L : List OB} (h : Ris L) {bg x y : ByteArray} {j : Nat} (hx : (namesL L bg)[j]? = some x) (hy : (namesL L bg)[j + 1]? = some y) : bl x y = true := by
  have hp := names_ris h bg
  rw [List.pairwise_iff_getElem] at hp
  obtain ⟨h1, e1⟩ := List.getElem?_eq_some_iff.1 hx
  obtain ⟨h2, e2⟩ := List.getElem?_eq_some_iff.1 hy
  have := hp j (j + 1) h1 h2 (by omega)
  rw [e1, e2] at this
  exact this

section
variable {w : World} {b mb : Nat} {q f : Int} {dn : Bool} {cl : Int} {L : List OB}
set_option maxRecDepth 100000 in
set_option maxHeartbeats 800000 in
theorem names_any (hP : PS w b mb q f dn cl L) (hl : L.length ≤ 1000000) :
    Calls Tryz.prog 12 #[.pointer (some ⟨b, 0, none⟩)] w fun e w' => ∃ v, e = .returned v ∧ TS w.heap.size v (namesL L ⟨#[]⟩) w' ∧ Below w.heap.size w w' := by
  have HC : Hid _ := hide (begunBy_any hP ⟨#[]⟩ hl)
  clear hP
  go_enter Tryz.func12, Tryz.ntmps12
  go_wp2_with fail
  refine HC.out.mono ?_
  rintro e w' ⟨v, rfl, hT, hb⟩
  go_wp2
  go_ret
  exact ⟨_, rfl, hT, hb⟩
end
theorem TS.gs {B : Nat} {v : Value} {l : List ByteArray} {w w' : World} {p : Nat → Prop} (h : TS B v l w) (hg : Gs p w w') (hp : ∀ i, p i → i < B) : TS B v l w' :=
  h.kb fun i hi => hg.block i (h.lt i hi).2 (fun e => by have := hp i e; have := (h.lt i hi).1; omega)
theorem two_less {B b mb : Nat} (hb : b < B) (hm : mb < B) : ∀ i, two b mb i → i < B := fun i h => by
  rcases h with rfl | rfl
  · exact hb
  · exact hm
/-- A store of the call's own, along a statement. -/
structure ST (W w : World) (b mb : Nat) (s : SS) : Prop where
  px : PX w b mb s
  hb : W.heap.size ≤ b
  hm : W.heap.size ≤ mb
  be : Below W.heap.size W w
section
variable {W w w' : World} {b mb : Nat} {s s' : SS}
theorem ST.bel (h : ST W w b mb s) (k : Below w.heap.size w w') : ST W w' b mb s := ⟨PS.bel h.px k, h.hb, h.hm, h.be.trans (k.mono h.be.size)⟩
theorem ST.gs (h : ST W w b mb s) (k : Gs (two b mb) w w') (hp : PX w' b mb s') : ST W w' b mb s' := ⟨hp, h.hb, h.hm, Gs.fresh h.be k (two_fresh h.hb h.hm)⟩
theorem ST.drew (h : ST W w b mb s) : ST W w.drew b mb s := ⟨PS.drew h.px, h.hb, h.hm, h.be.drew⟩
theorem ST.ps (h : ST W w b mb s) : PS w b mb s.q s.f s.off s.m s.L := h.px
/-- Do along a statement. -/
theorem st_do (h : ST W w b mb s) (st k : Int) (n d : ByteArray) (hn : n.size ≤ maxLen) (hd : d.size ≤ maxLen) (hl : s.L.length ≤ 1000000) (hm0 : 0 ≤ s.m) (hm1 : s.m ≤ 1000000000000) (hf : s.f ≤ 1048576) :
    Calls Tryz.prog 93 #[.pointer (some ⟨b, 0, none⟩), .agg #[.int .i64 st, .int .i64 k, .string n, .string d]] w fun e w' => ∃ a c, e = .returned (.agg #[.int .i64 (doR s k n d).c, .string (doR s k n d).d, .slice a (doR s k n d).l.length c]) ∧ TS w.heap.size (.slice a (doR s k n d).l.length c) (doR s k n d).l w' ∧ ST W w' b mb (doS s k n d) ∧ Gs (two b mb) w w' := by
  refine (do_any h.px st k n d hn hd hl hm0 hm1 hf).mono ?_
  rintro e w' ⟨v, rfl, hA, hP, hg⟩
  obtain ⟨a, c, rfl, hT⟩ := hA.shp
  exact ⟨a, c, rfl, hT, h.gs hg hP, hg⟩
end
end Go.Proofs.YtiecoplfiahpnaaGreat

namespace Go.Proofs.YtiecoplfiahpnaaGreat
open Go.RowKit Go.Lib

/-- An append whose run is known, as a step of a region that draws its order. -/
theorem step_append_run {P : Program} {ops : Array Oper} {o : Oper} {a : Act} {w : World} {K : Act → World → Prop} {Q : Exit → Act → World → Prop} {E : Prop} (hgd : o.guard = none) (s x : Operand) (t tn : TypeId)
    (ho : o.op = .call { callee := .builtin .append, args := #[s, x], argTypes := #[t, tn] }) (vs vx : Value) (hs : a.eval s = vs) (hx : a.eval x = vx)
    (v' : Value) (w' : World) (hr : (Builtin.append_ #[t, tn] o.type #[vs, vx]).run P w = .ok v' w') (h : K (a.put o.dst v') w') :
    if Region.wanted o (yielded ops a.tmps) = true then Oper.wp P o a w K Q else E := by
  have hw : Region.wanted o (yielded ops a.tmps) = true := by simp [Region.wanted, hgd]
  rw [if_pos hw]
  exact wp_append_run w s x t tn ho vs vx hs hx v' w' hr h
theorem step_world {P : Program} {ops : Array Oper} {o : Oper} {a : Act} {w V : World} {K : Act → World → Prop} {Q : Exit → Act → World → Prop} {E : Prop} (hV : w = V)
    (h : if Region.wanted o (yielded ops a.tmps) = true then Oper.wp P o a V K Q else E) : if Region.wanted o (yielded ops a.tmps) = true then Oper.wp P o a w K Q else E := by
  subst hV
  exact h
theorem RSt.free {w : World} {b : Nat} {q f m : Int} {off : Bool} {v : Value} (h : RSt w b q f m off v) (j : Nat) : w.frozen? ⟨b, j, none⟩ = false := by simp [World.frozen?, show w.heap[b]? = _ from h]
theorem OS.zero {B : Nat} {v : Value} {L : List OB} {w : World} (h : OS B v L w) : OS 0 v L w := by
  refine ⟨h.own.1, ?_⟩
  rcases h.own.2 with h2 | ⟨g, cap, cur, e, hB, r⟩
  · exact .inl h2
  · exact .inr ⟨g, cap, cur, e, Nat.zero_le _, r⟩

/-- What stands from a place on: where it lies, if the room ends there. -/
theorem Src.tail {w w1 : World} {g c N : Nat} {L : List OB} (hS : Src w g 0 L) (hc : N ≤ c) (hN : N = L.length) (k : Nat) (hk : k ≤ L.length) (hB : Below w.heap.size w w1) (hg : g < w.heap.size) :
    ∃ o, (if c = k then some (⟨g, 0, none⟩ : Addr) else some ⟨g, k * 2, none⟩) = some ⟨g, o, none⟩ ∧ Src w1 g o (L.drop k) := by
  by_cases h : c = k
  · refine ⟨0, if_pos h, ?_⟩
    rw [List.drop_eq_nil_of_le (by omega)]
    intro i p hp
    simp at hp
  · refine ⟨k * 2, if_neg h, ?_⟩
    have := (hS.below hB hg).drop k
    rw [Nat.zero_add] at this
    exact this

set_option maxRecDepth 100000 in
set_option maxHeartbeats 800000 in
theorem rremove_any {w : World} {b : Nat} {q f m : Int} {off : Bool} {v : Value} {L : List OB} (hR : RSt w b q f m off v) (hO : OS 0 v L w) (hl : L.length ≤ 1000000) (i : Nat) (hi : i < L.length) :
    Calls Tryz.prog 101 #[.pointer (some ⟨b, 0, none⟩), .int .i64 (i : Int)] w fun e w' => e = .returned (.tuple #[]) ∧ ∃ v', RSt w' b q f m off v' ∧ OS 0 v' (L.take i ++ L.drop (i + 1)) w' ∧ Gs (fun j => j = b) w w' := by
  obtain ⟨g, c, rfl, hc, _, hg, hS⟩ := hO.src.resolve_left (by rintro ⟨_, rfl⟩; simp at hi)
  obtain ⟨N, hN⟩ : ∃ N, N = L.length := ⟨_, rfl⟩
  rw [← hN] at hR hc
  have y4 := hR.cell4
  have b1 : (i : Int) < (N : Int) := by omega
  have b0 : (0 : Int) ≤ (i : Int) := by omega
  have b2 : IntKind.i64.wrap ((i : Int) + 1) = (i : Int) + 1 := by simp [IntKind.wrap_i64]; omega
  have b3 : (i : Int) ≤ (c : Int) := by omega
  have b4 : (i : Int) + 1 ≤ (N : Int) := by omega
  have b5 : ((i : Int) + 1).toNat = i + 1 := by omega
  have b6 : (0 : Int) ≤ (i : Int) + 1 := by omega
  have hBE : Below w.heap.size w (w.alloc (.cells #[] 93)).drew := ((Below.refl _ _).alloc (Nat.le_refl _) _).drew
  have y4E : (w.alloc (.cells #[] 93)).cell? ⟨b, 4, none⟩ = some (.slice (some ⟨g, 0, none⟩) N c) := (hR.below hBE hR.lt).cell4
  have hE0 : OS (w.heap.size) (.slice (some ⟨w.heap.size, 0, none⟩) 0 0) [] (w.alloc (.cells #[] 93)).drew := ⟨(OS.empty (B := w.heap.size) (w := w) (Nat.le_refl _)).own⟩
  obtain ⟨v1, w1, hr1, hO1, hg1, hv1⟩ := hE0.app (b := g) (o := 0) (c := c) ((hS.below hBE hg).take i) (by simp; omega) (by show w.heap.size ≤ _; simp)
  rw [List.nil_append] at hO1
  rw [show (L.take i).length = i by rw [List.length_take]; omega] at hr1
  have hB1 : Below w.heap.size w w1 := hBE.grown hg1 (by show w.heap.size ≤ _; simp) (fun k hk => by simp only [Value.ownBlock, Option.some.injEq] at hk; omega)
  have hR1 := hR.below hB1 hR.lt
  have y41 := hR1.cell4
  obtain ⟨o2, ho2, hS2⟩ := hS.tail hc hN (i + 1) hi hB1 hg
  obtain ⟨v2, w2, hr2, hO2, hg2, hv2⟩ := hO1.app (b := g) (o := o2) (c := c - (i + 1)) hS2 (by simp; omega) hB1.size
  rw [show (L.drop (i + 1)).length = N - (i + 1) by rw [List.length_drop, ← hN], ← ho2] at hr2
  have hB2 : Below w.heap.size w w2 := hB1.grown hg2 hB1.size (fun k hk => (hO1.lt k hk).1)
  have hR2 := hR.below hB2 hR.lt
  have y42 := hR2.cell4
  have z42 := hR2.free 4
  have HF : Hid (∃ v', RSt (w2.setCell ⟨b, 4, none⟩ v2) b q f m off v' ∧ OS 0 v' (L.take i ++ L.drop (i + 1)) (w2.setCell ⟨b, 4, none⟩ v2) ∧ Gs (fun j => j = b) w (w2.setCell ⟨b, 4, none⟩ v2)) :=
    ⟨v2, hR2.set4 v2, (hO2.set hR.lt v2).zero, (Gs.of_below (fun j => j = b) hB2).set (a := ⟨b, 4, none⟩) (.inl rfl) _⟩
  obtain ⟨a1, c1, rfl⟩ : ∃ a1 c1, v1 = .slice a1 i c1 := by
    obtain ⟨a1, c1, e, _⟩ := hO1.ol
    exact ⟨a1, c1, by rw [e, List.length_take]; congr 1; omega⟩
  obtain ⟨a2, c2, rfl⟩ : ∃ a2 c2, v2 = .slice a2 (N - 1) c2 := by
    obtain ⟨a2, c2, e, _⟩ := hO2.ol
    exact ⟨a2, c2, by rw [e]; simp; congr 1; omega⟩
  have HN := hide hN
  have HR1 := hide (And.intro hr1 hr2)
  clear hN hl hi hS hS2 ho2 hO hg hR hBE hE0 hO1 hg1 hv1 hB1 hR1 hO2 hg2 hv2 hB2 hR2 hr1 hr2
  go_enter Tryz.func101, Tryz.ntmps101
  go_upto_region 0 with fail
  go_region_law (first | (refine step_world (V := (w.alloc (.cells #[] 93)).drew) (by with_reducible rfl) ?_; refine step_append_run rfl _ _ 43 43 rfl _ _ rfl rfl _ _ HR1.out.1 ?_) | (refine step_world (V := w1) (by with_reducible rfl) ?_; refine step_append_run rfl _ _ 43 43 rfl _ _ rfl rfl _ _ HR1.out.2 ?_))
  all_goals (
    go_end0
    exact ⟨rfl, HF.out⟩)
end Go.Proofs.YtiecoplfiahpnaaGreat

namespace Go.Proofs.YtiecoplfiahpnaaGreat
open Go.RowKit Go.Lib Go.Maps

/-- What is there behind a Set. -/
def setL (n d : ByteArray) (L : List OB) : List OB := if fcode n d = 0 then layL L n d else L
/-- What Torn answers, and leaves. -/
def tcode (k : Int) (n d : ByteArray) : Int := if k = 1 then fcode n d else 3
def tornL (k : Int) (n d : ByteArray) (kp : Int) (L : List OB) : List OB := if tcode k n d = 0 ∧ 0 ≤ kp then layL L n (d.extract 0 (min kp d.size).toNat) else L
theorem fcode_zero {n d : ByteArray} (h : fcode n d = 0) : mayB n = true ∧ d.size ≤ 131072 := by
  unfold fcode at h
  split at h
  · split at h
    · constructor <;> assumption
    · omega
  · omega
section
variable {w : World} {b mb : Nat} {q f : Int} {dn : Bool} {cl : Int} {L : List OB}

set_option maxRecDepth 100000 in
set_option maxHeartbeats 1600000 in
theorem down_any (hP : PS w b mb q f dn cl L) (x : Bool) :
    Calls Tryz.prog 29 #[.pointer (some ⟨b, 0, none⟩), .bool x] w fun e w' => e = .returned (.tuple #[]) ∧ PS w' b mb q f x cl L ∧ Gs (two b mb) w w' := by
  have y4 := hP.cell4
  have z4 := hP.free 4
  have HF : Hid (PS (w.setCell ⟨b, 4, none⟩ (.bool x)) b mb q f x cl L ∧ Gs (two b mb) w (w.setCell ⟨b, 4, none⟩ (.bool x))) := ⟨hP.set4 x, (Gs.refl _ _).set (.inl (.inl rfl)) _⟩
  clear hP
  go_enter Tryz.func29, Tryz.ntmps29
  go_wp2
  go_end0
  exact ⟨rfl, HF.out⟩

set_option maxRecDepth 100000 in
set_option maxHeartbeats 1600000 in
theorem load_any (hc : w.cell? ⟨b, 5, none⟩ = some (.int .i64 cl)) :
    Calls Tryz.prog 44 #[.pointer (some ⟨b, 5, none⟩)] w fun e w' => e = .returned (.int .i64 cl) ∧ w' = w := by
  have hld := run_call_load (P := Tryz.prog) Tryz.func73 (by kernel_rfl) (by kernel_rfl) (by kernel_rfl) .i64 (by kernel_rfl) hc
  go_enter Tryz.func44, Tryz.ntmps44
  go_wp2
  go_ret
  exact ⟨rfl, rfl⟩
set_option maxRecDepth 100000 in
set_option maxHeartbeats 1600000 in
theorem calls_any (hP : PS w b mb q f dn cl L) :
    Calls Tryz.prog 16 #[.pointer (some ⟨b, 0, none⟩)] w fun e w' => e = .returned (.int .i64 cl) ∧ w' = w := by
  have HC : Hid _ := hide (load_any hP.cell5)
  clear hP
  go_enter Tryz.func16, Tryz.ntmps16
  go_wp2_with fail
  refine HC.out.mono ?_
  rintro e w0 ⟨rfl, rfl⟩
  go_wp2
  go_ret
  exact ⟨rfl, rfl⟩

end
end Go.Proofs.YtiecoplfiahpnaaGreat

namespace Go.Proofs.YtiecoplfiahpnaaGreat
open Go.RowKit Go.Lib

theorem OS.one {B : Nat} {v : Value} {L : List OB} {w : World} (h : OS B v L w) (n d : ByteArray) (hb : L.length + 1 ≤ 1000000) (hB : B ≤ w.heap.size) :
    ∃ v' w', (Builtin.append_ #[43, 43] 43 #[v, .slice (some ⟨w.heap.size, 0, none⟩) 1 1]).run Tryz.prog (w.alloc (.cells #[.string n, .string d] 93)) = .ok v' w' ∧ OS B v' (L ++ [⟨n, d⟩]) w' ∧ (∀ w0, Below B w0 w → Below B w0 w') := by
  have hal : Below w.heap.size w (w.alloc (.cells #[.string n, .string d] 93)) := (Below.refl _ _).alloc (Nat.le_refl _) _
  have h' := h.keep hal
  have hS : Src (w.alloc (.cells #[.string n, .string d] 93)) w.heap.size 0 [⟨n, d⟩] := by
    intro i p hp
    match i, hp with
    | 0, hp =>
      simp at hp
      subst hp
      exact ⟨by rw [cell_of_row _ _ _ _ _ _ (heap_alloc_new w _)]; rfl, by rw [cell_of_row _ _ _ _ _ _ (heap_alloc_new w _)]; rfl⟩
    | _ + 1, hp => simp at hp
  obtain ⟨v', w', h1, h2, h3, _⟩ := h'.app (c := 1) hS (by simpa using hb) (by simp; omega)
  exact ⟨v', w', h1, h2, fun w0 hb0 => (hb0.trans (hal.mono hB)).grown h3 (by simp; omega) (fun k hk => (h'.lt k hk).1)⟩

set_option maxRecDepth 100000 in
set_option maxHeartbeats 3200000 in
theorem rlay_any {w : World} {b : Nat} {q f m : Int} {off : Bool} {v : Value} {L : List OB} (n d : ByteArray) (hR : RSt w b q f m off v) (hO : OS 0 v L w) (hl : L.length ≤ 100000) (hL : Ris L) :
    Calls Tryz.prog 127 #[.pointer (some ⟨b, 0, none⟩), .string n, .string d] w fun e w' => e = .returned (.tuple #[]) ∧ ∃ v', RSt w' b q f m off v' ∧ OS 0 v' (layL L n d) w' ∧ Gs (fun j => j = b) w w' := by
  have HF : Hid _ := hide (rfind_any n hR hO.ol (by omega) hL)
  have HR := hide hR
  have HO := hide hO
  have HLT := hide (lay_take hL n d)
  have HPT := hide (pos_thr hL n)
  have hpl := pos_le L n
  obtain ⟨i, hi⟩ : ∃ i, i = pos L n := ⟨_, rfl⟩
  obtain ⟨t, ht⟩ : ∃ t, t = (thr L n).isSome := ⟨_, rfl⟩
  rw [← hi] at HF HLT HPT hpl
  rw [← ht] at HF HLT
  have HT := hide ht
  clear hR hO hi ht
  go_enter Tryz.func127, Tryz.ntmps127
  go_wp2_with fail
  refine HF.out.mono ?_
  rintro e w0 ⟨rfl, hb0⟩
  have HR0 := hide (HR.out.below hb0 HR.out.lt)
  have HO0 := hide (HO.out.keep hb0)
  have HB0 := hide hb0
  clear HF hb0
  go_upto_if 15 with fail
  go_cut [18] (fun _ wx => ∃ v1 L1, RSt wx b q f m off v1 ∧ OS 0 v1 L1 wx ∧ i ≤ L1.length ∧ L1.length ≤ 100000 ∧ L1.take i ++ ⟨n, d⟩ :: L1.drop i = layL L n d ∧ Gs (fun j => j = b) w wx)
  case first =>
    cases t with
    | true =>
      have hil : i < L.length := by
        have h1 := HPT.out
        cases hq : L[i]? with
        | none => rw [hq] at h1; have h2 := HT.out; rw [h1] at h2; cases h2
        | some p => exact (List.getElem?_eq_some_iff.1 hq).1
      have HRM : Hid _ := hide (rremove_any HR0.out HO0.out (by omega) i hil)
      go_wp2_with fail
      refine HRM.out.mono ?_
      rintro e w1 ⟨rfl, v1, h1, h2, h3⟩
      have HE : Hid (∃ v1 L1, RSt w1 b q f m off v1 ∧ OS 0 v1 L1 w1 ∧ i ≤ L1.length ∧ L1.length ≤ 100000 ∧ L1.take i ++ ⟨n, d⟩ :: L1.drop i = layL L n d ∧ Gs (fun j => j = b) w w1) := by
        refine ⟨v1, _, h1, h2, by simp; omega, by simp; omega, ?_, (Gs.of_below _ HB0.out).trans h3⟩
        have e1 : (L.take i ++ L.drop (i + 1)).take i = L.take i := by
          rw [List.take_append_of_le_length (by rw [List.length_take]; omega), List.take_take]; simp
        have e2 : (L.take i ++ L.drop (i + 1)).drop i = L.drop (i + 1) := by
          rw [List.drop_append_of_le_length (by rw [List.length_take]; omega)]
          have : (L.take i).drop i = [] := List.drop_eq_nil_of_le (by rw [List.length_take]; omega)
          rw [this]; rfl
        rw [e1, e2, HLT.out]; simp
      clear h1 h2 h3 HRM
      go_wp2
      go_meet
      case rel => exact HE.out
    | false =>
      have HE : Hid (∃ v1 L1, RSt w0 b q f m off v1 ∧ OS 0 v1 L1 w0 ∧ i ≤ L1.length ∧ L1.length ≤ 100000 ∧ L1.take i ++ ⟨n, d⟩ :: L1.drop i = layL L n d ∧ Gs (fun j => j = b) w w0) :=
        ⟨_, L, HR0.out, HO0.out, hpl, hl, by rw [HLT.out]; simp, Gs.of_below _ HB0.out⟩
      go_wp2
      go_meet
      case rel => exact HE.out
  case rest =>
    obtain ⟨v1, L1, hR1, hO1, hi1, hl1, hLL, hG1⟩ := hcut
    clear HR0 HO0 HB0 HR HO HLT HPT HT hpl
    have HLL := hide hLL
    have HG1 := hide hG1
    rcases hO1.src with ⟨rfl, rfl⟩ | ⟨g, c, rfl, hc, _, hg, hS⟩
    · simp at hi1
      subst hi1
      have y4 := hR1.cell4
      obtain ⟨i0, hi0, hz0, hz1, hz2⟩ := info_parts Tryz.infoOb
      have hr1 : (Builtin.append_ #[43, 43] 43 #[.slice none 0 0, .slice none 0 0]).run Tryz.prog wc = .ok (.slice none 0 0) wc := run_append_owned_none (P := Tryz.prog) (w := wc) wc.heap.size _ _ _ i0 2 Tryz.underlying43 hi0 (.slice none 0 0) 0 [] (OS.nil wc.heap.size wc).own
      obtain ⟨v2, w2, hr2, hO2, hB2⟩ := (OS.nil wc.heap.size wc).one n d (by simp) (Nat.le_refl _)
      have hb2 := hB2 wc (Below.refl _ _)
      have hR2 := hR1.below hb2 hR1.lt
      have y42 := hR2.cell4
      have z42 := hR2.free 4
      have hr3 : (Builtin.append_ #[43, 43] 43 #[v2, .slice none 0 0]).run Tryz.prog w2 = .ok v2 w2 := run_append_owned_none (P := Tryz.prog) (w := w2) wc.heap.size _ _ _ i0 2 Tryz.underlying43 hi0 v2 _ _ hO2.own
      have HF : Hid (∃ v', RSt (w2.setCell ⟨b, 4, none⟩ v2) b q f m off v' ∧ OS 0 v' (layL L n d) (w2.setCell ⟨b, 4, none⟩ v2) ∧ Gs (fun j => j = b) w (w2.setCell ⟨b, 4, none⟩ v2)) := by
        refine ⟨v2, hR2.set4 v2, ?_, (HG1.out.trans (Gs.of_below _ hb2)).set (a := ⟨b, 4, none⟩) (.inl rfl) _⟩
        rw [← HLL.out]
        exact (hO2.set hR1.lt v2).zero
      obtain ⟨a2, c2, rfl⟩ : ∃ a2 c2, v2 = .slice a2 1 c2 := by
        obtain ⟨a2, c2, e, _⟩ := hO2.ol
        exact ⟨a2, c2, e⟩
      clear hR1 hO1 hO2 hB2 hb2 hR2 hLL hG1
      go_upto_region 5 with (at_builtin; refine Lib.wpList_append_run wc rfl _ _ _ _ rfl _ _ rfl rfl _ _ hr1 ?_)
      go_upto_region 6 with (at_builtin; refine Lib.wpList_append_run (wc.alloc (.cells #[.string n, .string d] 93)) rfl _ _ _ _ rfl _ _ rfl rfl _ _ hr2 ?_)
      go_wp2_with (at_builtin; refine Lib.wpList_append_run w2 rfl _ _ _ _ rfl _ _ rfl rfl _ _ hr3 ?_)
      go_end0
      exact ⟨rfl, HF.out⟩
    · obtain ⟨N, hN⟩ : ∃ N, N = L1.length := ⟨_, rfl⟩
      rw [← hN] at hR1 hc
      have y4 := hR1.cell4
      have b1 : (i : Int) ≤ (N : Int) := by omega
      have b0 : (0 : Int) ≤ (i : Int) := by omega
      have b3 : (i : Int) ≤ (c : Int) := by omega
      obtain ⟨v1, w1, hr1, hO1', hg1, _⟩ := (OS.nil wc.heap.size wc).app (b := g) (o := 0) (c := c) (hS.take i) (by simp; omega) (Nat.le_refl _)
      rw [List.nil_append] at hO1'
      rw [show (L1.take i).length = i by rw [List.length_take]; omega] at hr1
      have hB1 : Below wc.heap.size wc w1 := (Below.refl _ _).grown hg1 (Nat.le_refl _) (fun k hk => by simp [Value.ownBlock] at hk)
      obtain ⟨v2, w2, hr2, hO2, hB2⟩ := hO1'.one n d (by simp; omega) hB1.size
      have hb2 := hB2 wc hB1
      obtain ⟨o2, ho2, hS2⟩ := hS.tail hc hN i hi1 hb2 hg
      obtain ⟨v3, w3, hr3, hO3, hg3, _⟩ := hO2.app (b := g) (o := o2) (c := c - i) hS2 (by simp; omega) hb2.size
      rw [show (L1.drop i).length = N - i by rw [List.length_drop, ← hN], ← ho2] at hr3
      have hB3 : Below wc.heap.size wc w3 := hb2.grown hg3 hb2.size (fun k hk => (hO2.lt k hk).1)
      have hR3 := hR1.below hB3 hR1.lt
      have y42 := (hR1.below hb2 hR1.lt).cell4
      have y43 := hR3.cell4
      have z43 := hR3.free 4
      have HF : Hid (∃ v', RSt (w3.setCell ⟨b, 4, none⟩ v3) b q f m off v' ∧ OS 0 v' (layL L n d) (w3.setCell ⟨b, 4, none⟩ v3) ∧ Gs (fun j => j = b) w (w3.setCell ⟨b, 4, none⟩ v3)) := by
        refine ⟨v3, hR3.set4 v3, ?_, (HG1.out.trans (Gs.of_below _ hB3)).set (a := ⟨b, 4, none⟩) (.inl rfl) _⟩
        rw [← HLL.out]
        have h9 := (hO3.set hR1.lt v3 (j := 4)).zero
        rw [List.append_assoc] at h9
        exact h9
      obtain ⟨a1, c1, rfl⟩ : ∃ a1 c1, v1 = .slice a1 i c1 := by
        obtain ⟨a1, c1, e, _⟩ := hO1'.ol
        exact ⟨a1, c1, by rw [e, List.length_take]; congr 1; omega⟩
      obtain ⟨a2, c2, rfl⟩ : ∃ a2 c2, v2 = .slice a2 (i + 1) c2 := by
        obtain ⟨a2, c2, e, _⟩ := hO2.ol
        have hlen : (L1.take i ++ [(⟨n, d⟩ : OB)]).length = i + 1 := by rw [List.length_append, List.length_take, List.length_singleton]; omega
        exact ⟨a2, c2, by rw [e, hlen]⟩
      obtain ⟨a3, c3, rfl⟩ : ∃ a3 c3, v3 = .slice a3 (N + 1) c3 := by
        obtain ⟨a3, c3, e, _⟩ := hO3.ol
        have hlen : (L1.take i ++ [(⟨n, d⟩ : OB)] ++ L1.drop i).length = N + 1 := by rw [List.length_append, List.length_append, List.length_take, List.length_singleton, List.length_drop]; omega
        exact ⟨a3, c3, by rw [e, hlen]⟩
      have HN := hide hN
      clear hR1 hO1 hO1' hO2 hO3 hB1 hB2 hb2 hB3 hR3 hLL hG1 hS hS2 ho2 hN hg1 hg3 hl1 hl hg
      go_upto_region 5 with (at_builtin; refine Lib.wpList_append_run wc rfl _ _ _ _ rfl _ _ rfl rfl _ _ hr1 ?_)
      go_upto_region 6 with (at_builtin; refine Lib.wpList_append_run (w1.alloc (.cells #[.string n, .string d] 93)) rfl _ _ _ _ rfl _ _ rfl rfl _ _ hr2 ?_)
      go_wp2_with (at_builtin; refine Lib.wpList_append_run w2 rfl _ _ _ _ rfl _ _ rfl rfl _ _ hr3 ?_)
      all_goals (
        go_end0
        exact ⟨rfl, HF.out⟩)

section
variable {w : World} {b : Nat} {q f m : Int} {off : Bool} {v : Value} {L : List OB}
theorem RSt.c0 (h : RSt w b q f m off v) : w.cell? ⟨b, 0, none⟩ = some (.int .i64 q) := by simp [World.cell?, show w.heap[b]? = _ from h]
theorem RSt.c1 (h : RSt w b q f m off v) : w.cell? ⟨b, 1, none⟩ = some (.int .i64 f) := by simp [World.cell?, show w.heap[b]? = _ from h]
theorem RSt.c2 (h : RSt w b q f m off v) : w.cell? ⟨b, 2, none⟩ = some (.int .i64 m) := by simp [World.cell?, show w.heap[b]? = _ from h]
theorem RSt.c3 (h : RSt w b q f m off v) : w.cell? ⟨b, 3, none⟩ = some (.bool off) := by simp [World.cell?, show w.heap[b]? = _ from h]
theorem RSt.s1 (h : RSt w b q f m off v) (x : Int) : RSt (w.setCell ⟨b, 1, none⟩ (.int .i64 x)) b q x m off v := heap_set_self (j := 1) (u := .int .i64 x) h
theorem RSt.s2 (h : RSt w b q f m off v) (x : Int) : RSt (w.setCell ⟨b, 2, none⟩ (.int .i64 x)) b q f x off v := heap_set_self (j := 2) (u := .int .i64 x) h
theorem RSt.s3 (h : RSt w b q f m off v) (x : Bool) : RSt (w.setCell ⟨b, 3, none⟩ (.bool x)) b q f m x v := heap_set_self (j := 3) (u := .bool x) h
/-- The list is in no block of cells of another type. -/
theorem OS.far {B : Nat} {g : Nat} {cs : Array Value} {T : TypeId} {fr : Nat × Nat} (h : OS B v L w) (hg : w.heap[g]? = some (.cells cs T fr)) (hT : T ≠ 93) : ∀ i, v.ownBlock = some i → i ≠ g := by
  intro i hi e
  obtain ⟨_, ⟨rfl, _⟩ | ⟨g', cap, cur, rfl, _, hb, _⟩⟩ := h.own
  · simp [Value.ownBlock] at hi
  · simp only [Value.ownBlock, Option.some.injEq] at hi
    subst hi
    rw [e, hg] at hb
    simp at hb
    exact hT hb.2.1
theorem OS.kb {B : Nat} {w' : World} (h : OS B v L w) (hk : ∀ i, v.ownBlock = some i → w'.heap[i]? = w.heap[i]?) : OS B v L w' := by
  refine ⟨h.own.1, ?_⟩
  rcases h.own.2 with h2 | ⟨g, cap, cur, e, hB, hg, r⟩
  · exact .inl h2
  · refine .inr ⟨g, cap, cur, e, hB, (hk g ?_).trans hg, r⟩
    rw [e]; rfl
theorem OS.sb {B : Nat} (h : OS B v L w) (hR : ∃ q f m off v', RSt w b q f m off v') (j : Nat) (u : Value) : OS B v L (w.setCell ⟨b, j, none⟩ u) := by
  obtain ⟨_, _, _, _, _, hR⟩ := hR
  exact h.kb fun i hi => Below.heap_setCell _ _ _ _ (h.far hR (by decide) i hi)

set_option maxRecDepth 100000 in
set_option maxHeartbeats 800000 in
theorem rfail_any (hR : RSt w b q f m off v) (hO : OS 0 v L w) (n : Int) :
    Calls Tryz.prog 31 #[.pointer (some ⟨b, 0, none⟩), .int .i64 n] w fun e w' => e = .returned (.int .i64 (if 0 ≤ n ∧ n ≤ 1048576 then 0 else 1)) ∧ (RSt w' b q (if 0 ≤ n ∧ n ≤ 1048576 then n else f) m off v ∧ OS 0 v L w') ∧ Gs (fun j => j = b) w w' := by
  have y1 := hR.c1
  have z1 := hR.free 1
  have HR := hide hR
  have HO := hide hO
  clear hR hO
  by_cases h0 : n < 0
  · rw [if_neg (by omega), if_neg (by omega)]
    go_enter Tryz.func31, Tryz.ntmps31
    go_wp2
    go_ret
    exact ⟨rfl, ⟨HR.out, HO.out⟩, Gs.refl _ _⟩
  by_cases h1 : 1048576 < n
  · rw [if_neg (by omega), if_neg (by omega)]
    go_enter Tryz.func31, Tryz.ntmps31
    go_wp2
    go_ret
    exact ⟨rfl, ⟨HR.out, HO.out⟩, Gs.refl _ _⟩
  · rw [if_pos (by omega), if_pos (by omega)]
    go_enter Tryz.func31, Tryz.ntmps31
    go_wp2
    go_ret
    exact ⟨rfl, ⟨HR.out.s1 n, HO.out.sb ⟨_, _, _, _, _, HR.out⟩ _ _⟩, (Gs.refl (fun j => j = b) _).set (a := ⟨b, 1, none⟩) (.inl rfl) _⟩

set_option maxRecDepth 100000 in
set_option maxHeartbeats 800000 in
theorem rnew_ok (x : Int) (w : World) (h0 : 0 ≤ x) (h1 : x ≤ 1073741824) :
    Calls Tryz.prog 6 #[.int .i64 x] w fun e w' => e = .returned (.tuple #[.pointer (some ⟨w.heap.size, 0, none⟩), .int .i64 0]) ∧ RSt w' w.heap.size x 0 0 false (.slice none 0 0) ∧ Below w.heap.size w w' := by
  have h2 : ¬ x < 0 := by omega
  have h3 : ¬ 1073741824 < x := by omega
  go_enter Tryz.func6, Tryz.ntmps6
  go_wp2
  go_ret2
  exact ⟨rfl, heap_alloc_new w _, (Below.refl _ _).alloc (Nat.le_refl _) _⟩
set_option maxRecDepth 100000 in
set_option maxHeartbeats 800000 in
theorem rnew_bad (x : Int) (w : World) (h : x < 0 ∨ 1073741824 < x) :
    Calls Tryz.prog 6 #[.int .i64 x] w fun e w' => e = .returned (.tuple #[.pointer none, .int .i64 1]) ∧ w' = w := by
  by_cases h2 : x < 0
  · go_enter Tryz.func6, Tryz.ntmps6
    go_wp2
    go_ret2
    exact ⟨rfl, rfl⟩
  · have h3 : 1073741824 < x := by omega
    go_enter Tryz.func6, Tryz.ntmps6
    go_wp2
    go_ret2
    exact ⟨rfl, rfl⟩

end
end Go.Proofs.YtiecoplfiahpnaaGreat

namespace Go.Proofs.YtiecoplfiahpnaaGreat
open Go.RowKit Go.Lib

section
variable {w : World} {b : Nat} {q f m : Int} {off : Bool} {v : Value} {L : List OB}
/-- A request in memory. -/
def RQ (w : World) (X : Nat) (st k : Int) (n d : ByteArray) : Prop := w.heap[X]? = some (.cells #[.int .i64 st, .int .i64 k, .string n, .string d] 65 (0, 0))
theorem RQ.c1 {X : Nat} {st k : Int} {n d : ByteArray} (h : RQ w X st k n d) : w.cell? ⟨X, 1, none⟩ = some (.int .i64 k) := by simp [World.cell?, show w.heap[X]? = _ from h]
theorem RQ.c2 {X : Nat} {st k : Int} {n d : ByteArray} (h : RQ w X st k n d) : w.cell? ⟨X, 2, none⟩ = some (.string n) := by simp [World.cell?, show w.heap[X]? = _ from h]
theorem RQ.c3 {X : Nat} {st k : Int} {n d : ByteArray} (h : RQ w X st k n d) : w.cell? ⟨X, 3, none⟩ = some (.string d) := by simp [World.cell?, show w.heap[X]? = _ from h]
theorem RQ.bel {w' : World} {X : Nat} {st k : Int} {n d : ByteArray} (h : RQ w X st k n d) (hb : Below w.heap.size w w') : RQ w' X st k n d := (hb.block X (lt_of_block h)).trans h
theorem RSt.gs {w' : World} {p : Nat → Prop} (h : RSt w b q f m off v) (hg : Gs p w w') (hp : ¬ p b) : RSt w' b q f m off v := (hg.block b h.lt hp).trans h
theorem OS.gs {B : Nat} {w' : World} {p : Nat → Prop} (h : OS B v L w) (hg : Gs p w w') (hp : ∀ i, v.ownBlock = some i → ¬ p i) : OS B v L w' := h.kb fun i hi => hg.block i (h.lt i hi).2 (hp i hi)

set_option maxRecDepth 100000 in
set_option maxHeartbeats 1600000 in
theorem rput_any (hR : RSt w b q f m off v) (hO : OS 0 v L w) (hl : L.length ≤ 90000) (hL : Ris L) (hs : ∀ p ∈ L, p.n.size ≤ 96 ∧ p.d.size ≤ 131072) (st k : Int) (n d : ByteArray) (hn : n.size ≤ maxLen) (hd : d.size ≤ maxLen) :
    Calls Tryz.prog 100 #[.pointer (some ⟨b, 0, none⟩), .agg #[.int .i64 st, .int .i64 k, .string n, .string d]] w fun e w' => e = .returned (.int .i64 (pcode n d L q)) ∧ (∃ v', RSt w' b q f m off v' ∧ OS 0 v' (putL n d L q) w') ∧ Gs (fun j => j = b) w w' := by
  obtain ⟨U, hU⟩ : ∃ U, U = w.alloc (.cells #[.int .i64 st, .int .i64 k, .string n, .string d] 65) := ⟨_, rfl⟩
  obtain ⟨X, hX⟩ : ∃ X, X = w.heap.size := ⟨_, rfl⟩
  have hBU : Below w.heap.size w U := by rw [hU]; exact (Below.refl _ _).alloc (Nat.le_refl _) _
  have hQ : RQ U X st k n d := by rw [hU, hX]; exact heap_alloc_new _ _
  have HRU := hide (hR.below hBU hR.lt)
  have HOU := hide (hO.keep hBU)
  have HBU := hide hBU
  have HQ := hide hQ
  have HN : Hid _ := hide (rname_any n U hn)
  have HPL : Hid (putL n d L q = if pcode n d L q = 0 then layL L n d else L) := rfl
  obtain ⟨C, hC⟩ : ∃ C, C = pcode n d L q := ⟨_, rfl⟩
  rw [← hC] at HPL ⊢
  have HC := hide hC
  have HU := hide hU
  have HX := hide hX
  have y2 := hQ.c2
  have y3 := hQ.c3
  unfold maxLen at hn hd
  clear hU hX hR hO hBU hC hQ
  cases hm : mayB n with
  | false =>
    rw [hm] at HN
    obtain rfl : C = 3 := by rw [HC.out, pcode, hm]; rfl
    have HE : Hid ((∃ v', RSt U b q f m off v' ∧ OS 0 v' (putL n d L q) U) ∧ Gs (fun j => j = b) w U) := ⟨⟨v, HRU.out, by have e := HPL.out; simp at e; rw [e]; exact HOU.out⟩, Gs.of_below _ HBU.out⟩
    go_enter Tryz.func100, Tryz.ntmps100
    go_upto_region 1 with fail
    rw [← HU.out, ← HX.out]
    go_wp2_with fail
    refine HN.out.mono ?_
    rintro e w0 ⟨rfl, rfl⟩
    go_wp2
    go_ret
    exact ⟨rfl, HE.out⟩
  | true =>
    rw [hm] at HN
    by_cases h : d.size ≤ 131072
    · have h' : ¬ (131072 : Int) < (d.size : Int) := by omega
      have HFK : Hid _ := hide (rfork_any HRU.out HOU.out.sv (by omega))
      obtain ⟨u, hu⟩ : ∃ u, u = usedL (layL L n d) := ⟨_, rfl⟩
      have hub : u ≤ 1000000000000 := by
        have h1 := used_bound (small_lay hs (mayB_size hm) h)
        have h2 := len_lay L n d
        have h3 : (layL L n d).length * 131168 ≤ 90001 * 131168 := Nat.mul_le_mul_right _ (by omega)
        rw [hu]; omega
      have HUU := hide hu
      have HMB := hide hm
      clear hu hm
      go_enter Tryz.func100, Tryz.ntmps100
      go_upto_region 1 with fail
      rw [← HU.out, ← HX.out]
      go_wp2_with fail
      refine HN.out.mono ?_
      rintro e U ⟨rfl, rfl⟩
      clear HN
      go_wp2_with fail
      refine HFK.out.mono ?_
      rintro e w1 ⟨rfl, v1, hR1, hO1, hb1⟩
      obtain ⟨fb, hfb⟩ : ∃ fb, fb = U.heap.size := ⟨_, rfl⟩
      rw [← hfb] at hR1
      rw [← hfb]
      have HLY : Hid _ := hide (rlay_any n d hR1 hO1.zero (by omega) hL)
      have hQ1 := HQ.out.bel hb1
      have x2 := hQ1.c2
      have x3 := hQ1.c3
      have HB1 := hide hb1
      have HQ1 := hide hQ1
      have HFB : Hid (b < fb) := by rw [hfb]; exact HRU.out.lt
      have HFU : Hid (U.heap.size ≤ fb) := by rw [hfb]; exact Nat.le_refl _
      have HVB : Hid (∀ i, v.ownBlock = some i → i < fb) := by rw [hfb]; exact fun i hi => (HOU.out.lt i hi).2
      clear HFK y2 y3 hR1 hO1 hb1 hQ1 hfb
      go_wp2_with fail
      refine HLY.out.mono ?_
      rintro e w2 ⟨rfl, v2, hR2, hO2, hG2⟩
      have hRb := (HRU.out.below HB1.out HRU.out.lt).gs hG2 (by have := HFB.out; show ¬ b = fb; omega)
      have hOb := (HOU.out.keep HB1.out).gs hG2 (fun i hi => by have := HVB.out i hi; show ¬ i = fb; omega)
      have HUS : Hid (∀ w3, Below w2.heap.size w2 w3 → Calls Tryz.prog 15 #[.pointer (some ⟨fb, 0, none⟩)] w3 fun e w' => e = .returned (.int .i64 (u : Int)) ∧ Hid (Below w2.heap.size w2 w') ∧ w'.cell? ⟨b, 0, none⟩ = some (.int .i64 q)) := fun w3 h3 => by
        rw [HUU.out]
        refine (rused_any (hR2.below h3 hR2.lt) (hO2.keep h3).ol (by have := len_lay L n d; omega) (by rw [← HUU.out]; exact hub)).mono ?_
        rintro e w' ⟨rfl, hb⟩
        have hb' := below_step h3 hb
        exact ⟨rfl, hb', (hRb.below hb' hRb.lt).c0⟩
      have K1 : Hid (Below w2.heap.size w2 w2.drew) := (Below.refl _ _).drew
      have x0 := (hRb.below K1.out hRb.lt).c0
      have HR2 := hide hR2
      have HO2 := hide hO2
      have HRb := hide hRb
      have HOb := hide hOb
      have HG : Hid (Gs (fun j => j = b) w w2) := by
        have g1 : Gs (fun j => j = b) w w1 := (Gs.of_below _ HBU.out).trans (Gs.of_below _ HB1.out)
        refine ⟨hG2.os.trans g1.os, hG2.tape.trans g1.tape, hG2.output.trans g1.output, Nat.le_trans g1.size hG2.size, fun i hi hp => (hG2.block i (Nat.lt_of_lt_of_le hi g1.size) ?_).trans (g1.block i hi hp)⟩
        have h9 := HB1.out
        have h8 := HBU.out.size
        have h7 := HFU.out
        show ¬ i = fb
        omega
      clear HLY hR2 hO2 hG2 hRb hOb x2 x3
      go_upto_region 7 with fail
      go_region_held3 (fun w' => Hid (Below w2.heap.size w2 w') ∧ w'.cell? ⟨b, 0, none⟩ = some (.int .i64 q)) (first | assumption | exact ⟨by assumption, by assumption⟩ | exact ⟨K1, x0⟩)
        (first | (go_at_call 15; refine (HUS.out _ (by first | exact K1.out | (refine Hid.out ?_; assumption))).mono ?_; rintro e w3 ⟨rfl, k1, k2⟩))
      by_cases hq : (u : Int) ≤ q
      · obtain rfl : C = 0 := by rw [HC.out, pcode, if_pos HMB.out, if_pos h, if_pos (by rw [← HUU.out]; exact hq)]
        have hq' : ¬ q < (u : Int) := by omega
        have hR3 := HR2.out.below k1.out HR2.out.lt
        have hRb3 := HRb.out.below k1.out HRb.out.lt
        have e4 := hR3.cell4
        have e5 := hRb3.cell4
        have e6 := hRb3.free 4
        have HE : Hid ((∃ v', RSt (w3.setCell ⟨b, 4, none⟩ v2) b q f m off v' ∧ OS 0 v' (putL n d L q) (w3.setCell ⟨b, 4, none⟩ v2)) ∧ Gs (fun j => j = b) w (w3.setCell ⟨b, 4, none⟩ v2)) :=
          ⟨⟨v2, hRb3.set4 v2, by have e := HPL.out; simp at e; rw [e]; exact (HO2.out.keep k1.out).sb ⟨_, _, _, _, _, hRb3⟩ _ _⟩, (HG.out.trans (Gs.of_below _ k1.out)).set (a := ⟨b, 4, none⟩) (.inl rfl) _⟩
        obtain ⟨a2, c2, e2, _⟩ := HO2.out.ol
        subst e2
        clear hR3 hRb3
        go_wp2
        go_ret
        exact ⟨rfl, HE.out⟩
      · obtain rfl : C = 71 := by rw [HC.out, pcode, if_pos HMB.out, if_pos h, if_neg (by rw [← HUU.out]; exact hq)]
        have hq' : q < (u : Int) := by omega
        have HE : Hid ((∃ v', RSt w3 b q f m off v' ∧ OS 0 v' (putL n d L q) w3) ∧ Gs (fun j => j = b) w w3) :=
          ⟨⟨v, HRb.out.below k1.out HRb.out.lt, by have e := HPL.out; simp at e; rw [e]; exact HOb.out.keep k1.out⟩, HG.out.trans (Gs.of_below _ k1.out)⟩
        go_wp2
        go_ret
        exact ⟨rfl, HE.out⟩
    · obtain rfl : C = 2 := by rw [HC.out, pcode, hm, if_pos rfl, if_neg h]
      have h' : (131072 : Int) < (d.size : Int) := by omega
      have HE : Hid ((∃ v', RSt U b q f m off v' ∧ OS 0 v' (putL n d L q) U) ∧ Gs (fun j => j = b) w U) := ⟨⟨v, HRU.out, by have e := HPL.out; simp at e; rw [e]; exact HOU.out⟩, Gs.of_below _ HBU.out⟩
      go_enter Tryz.func100, Tryz.ntmps100
      go_upto_region 1 with fail
      rw [← HU.out, ← HX.out]
      go_wp2_with fail
      refine HN.out.mono ?_
      rintro e w0 ⟨rfl, rfl⟩
      go_wp2
      go_ret
      exact ⟨rfl, HE.out⟩
end
end Go.Proofs.YtiecoplfiahpnaaGreat
