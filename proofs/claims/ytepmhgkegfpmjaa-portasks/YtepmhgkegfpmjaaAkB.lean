/-
  Port: work that asks one by one, and then all: its job.
-/
import Derived.Test.YtepmhgkegfpmjaaAkA
import Derived.Test.YtepmhgkegfpmjaaStRem
namespace Go.Proofs.Ytepmhgkegfpmjaa
open Go.RowKit Go.Lib Go.Maps
/-- The asker's memory. -/
structure AM (r : Nat → Prop) (w : World) (kb jb : Nat) (lv ov bv : Value) (l : List QT) (X1 : List (RR × Value)) : Prop where
  ak : AK w kb jb lv ov bv
  q : LS q4 4 r w lv l
  ns : ∀ x ∈ X1, LS t1 1 r w x.2 x.1.l
  nk : ¬ r kb
  nj : ¬ r jb
  rl : ∀ i, r i → i < w.heap.size
/-- It waits for the answer to one. -/
structure Q1 (P : Nat → Prop) (w : World) (kb jb : Nat) (l : List QT) (A : List RR) (r : Nat → Prop) (lv ov : Value) (X1 : List (RR × Value)) (q : QT) : Prop where
  a : A = X1.map (·.1)
  hq : l[X1.length]? = some q
  m : AM r w kb jb lv ov (.slice none 0 0) l X1
  o : OW x3 3 45 0 ov X1 w
  on : ∀ i, ov.ownBlock = some i → P i ∧ ¬ r i
  j : JB w jb true q.st q.k q.n q.d (.func (.func 57) #[.pointer (some ⟨kb, 0, none⟩)] #[]) 0 0 (.slice none 0 0) (.slice none 0 0) (A.length : Int)
  rp : ∀ i, r i → P i
/-- It waits for the answer to one of all. -/
structure Q2 (P : Nat → Prop) (w : World) (kb jb : Nat) (l : List QT) (A : List RR) (r : Nat → Prop) (lv ov : Value) (X1 X2 : List (RR × Value)) (q : QT) (a1 a2 a3 a4 a5 : Nat) (rv av : Value) : Prop where
  x1 : X1.length = l.length
  a : A = X1.map (·.1) ++ X2.map (·.1)
  hq : l[X2.length]? = some q
  m : AM r w kb jb lv ov (.slice none 0 0) l X1
  o : LS x3 3 r w ov X1
  c : CL r w jb l X2 a1 a2 a3 a4 a5 (.func (.func 58) #[.pointer (some ⟨kb, 0, none⟩)] #[]) rv av
  j : JB w jb true q.st q.k q.n q.d (.func (.func 49) #[] #[.pointer (some ⟨a4, 0, none⟩), .pointer (some ⟨a5, 0, none⟩)]) 0 0 (.slice none 0 0) (.slice none 0 0) (A.length : Int)
  rp : ∀ i, r i → P i
  p4 : P a4
  po : ∀ i, av.ownBlock = some i → P i
/-- It is over. -/
structure Q3 (P : Nat → Prop) (w : World) (kb jb : Nat) (l : List QT) (A : List RR) (r : Nat → Prop) (lv ov bv : Value) (X1 X2 : List (RR × Value)) (ids tx : Value) : Prop where
  x1 : X1.length = l.length
  x2 : X2.length = l.length
  a : A = X1.map (·.1) ++ X2.map (·.1)
  m : AM r w kb jb lv ov bv l X1
  o : LS x3 3 r w ov X1
  b : LS x3 3 r w bv X2
  n2 : ∀ x ∈ X2, LS t1 1 r w x.2 x.1.l
  j : JB w jb false 0 0 ⟨#[]⟩ ⟨#[]⟩ .nilFunc 0 (l.length : Int) ids tx (A.length : Int)
  i : LS t1 1 r w ids []
  t : LS t1 1 r w tx [tDone]
  rp : ∀ i, r i → P i
def AJ (kb jb : Nat) (l : List QT) (A : List RR) (P : Nat → Prop) (w : World) : Prop :=
  P jb ∧ P kb ∧ (∀ i, P i → i < w.heap.size) ∧
  ((∃ r lv ov X1 q, Q1 P w kb jb l A r lv ov X1 q) ∨ (∃ r lv ov X1 X2 q a1 a2 a3 a4 a5 rv av, Q2 P w kb jb l A r lv ov X1 X2 q a1 a2 a3 a4 a5 rv av) ∨ (∃ r lv ov bv X1 X2 ids tx, Q3 P w kb jb l A r lv ov bv X1 X2 ids tx))
section
variable {r r' p P P' : Nat → Prop} {w w' : World} {kb jb a1 a2 a3 a4 a5 : Nat} {l : List QT} {A : List RR} {X1 X2 : List (RR × Value)} {lv ov bv rv av ids tx : Value} {q : QT} {st k s c N : Int} {n d : ByteArray} {go : Value} {op : Bool}
theorem AM.gs (h : AM r w kb jb lv ov bv l X1) (hg : Gs p w w') (hk : ¬ p kb) (hp : ∀ i, r i → ¬ p i) : AM r w' kb jb lv ov bv l X1 :=
  ⟨h.ak.gs hg hk, h.q.gs hg hp, fun x hx => (h.ns x hx).gs hg hp, h.nk, h.nj, fun i hi => Nat.lt_of_lt_of_le (h.rl i hi) hg.size⟩
theorem AM.bel (h : AM r w kb jb lv ov bv l X1) (hb : Below w.heap.size w w') : AM r w' kb jb lv ov bv l X1 :=
  ⟨h.ak.bel hb, h.q.bel hb, fun x hx => (h.ns x hx).bel hb, h.nk, h.nj, fun i hi => Nat.lt_of_lt_of_le (h.rl i hi) hb.size⟩
theorem AM.mono (h : AM r w kb jb lv ov bv l X1) (hr : ∀ i, r i → r' i) (hk : ¬ r' kb) (hj : ¬ r' jb) (hl : ∀ i, r' i → i < w.heap.size) : AM r' w kb jb lv ov bv l X1 :=
  ⟨h.ak, h.q.mono hr, fun x hx => (h.ns x hx).mono hr, hk, hj, hl⟩
theorem AJ.gs (h : AJ kb jb l A P w) (hg : Gs p w w') (hp : ∀ i, P i → ¬ p i) : AJ kb jb l A P w' := by
  obtain ⟨h1, h2, h3, h⟩ := h
  refine ⟨h1, h2, fun i hi => Nat.lt_of_lt_of_le (h3 i hi) hg.size, ?_⟩
  rcases h with ⟨r, lv, ov, X1, q, h⟩ | ⟨r, lv, ov, X1, X2, q, a1, a2, a3, a4, a5, rv, av, h⟩ | ⟨r, lv, ov, bv, X1, X2, ids, tx, h⟩
  · exact .inl ⟨r, lv, ov, X1, q, h.a, h.hq, h.m.gs hg (hp _ h2) (fun i hi => hp i (h.rp i hi)), h.o.kb (fun i hi => hg.block i (h.o.lt i hi).2 (hp i (h.on i hi).1)), h.on, h.j.gs hg (hp _ h1), h.rp⟩
  · refine .inr (.inl ⟨r, lv, ov, X1, X2, q, a1, a2, a3, a4, a5, rv, av, h.x1, h.a, h.hq, h.m.gs hg (hp _ h2) (fun i hi => hp i (h.rp i hi)), h.o.gs hg (fun i hi => hp i (h.rp i hi)), ?_, h.j.gs hg (hp _ h1), h.rp, h.p4, h.po⟩)
    exact h.c.kb hg.size (fun i hi hri => hg.block i hi (hp i (h.rp i hri))) (hg.block a4 (lt_of_block h.c.h4) (hp a4 h.p4)) (fun i hi => hg.block i (h.c.o.lt i hi).2 (hp i (h.po i hi)))
  · have hr : ∀ i, r i → ¬ p i := fun i hi => hp i (h.rp i hi)
    exact .inr (.inr ⟨r, lv, ov, bv, X1, X2, ids, tx, h.x1, h.x2, h.a, h.m.gs hg (hp _ h2) hr, h.o.gs hg hr, h.b.gs hg hr, fun x hx => (h.n2 x hx).gs hg hr, h.j.gs hg (hp _ h1), h.i.gs hg hr, h.t.gs hg hr, h.rp⟩)
/-- The request that it waits for. -/
theorem AJ.wait (h : AJ kb jb l A P w) : (∃ q go, (l ++ l)[A.length]? = some q ∧ (∃ fn fi ca, go = .func fn fi ca) ∧ JB w jb true q.st q.k q.n q.d go 0 0 (.slice none 0 0) (.slice none 0 0) (A.length : Int)) ∨ (A.length = (l ++ l).length ∧ ∃ r lv ov bv X1 X2 ids tx, Q3 P w kb jb l A r lv ov bv X1 X2 ids tx) := by
  obtain ⟨_, _, _, h⟩ := h
  rcases h with ⟨r, lv, ov, X1, q, h⟩ | ⟨r, lv, ov, X1, X2, q, a1, a2, a3, a4, a5, rv, av, h⟩ | ⟨r, lv, ov, bv, X1, X2, ids, tx, h⟩
  · refine .inl ⟨q, _, ?_, ⟨_, _, _, rfl⟩, h.j⟩
    have hl := (List.getElem?_eq_some_iff.1 h.hq).1
    rw [h.a, List.length_map, List.getElem?_append_left hl]
    exact h.hq
  · refine .inl ⟨q, _, ?_, ⟨_, _, _, rfl⟩, h.j⟩
    rw [h.a, List.length_append, List.length_map, List.length_map, h.x1, List.getElem?_append_right (by omega), Nat.add_sub_cancel_left]
    exact h.hq
  · exact .inr ⟨by rw [h.a]; simp [h.x1, h.x2], r, lv, ov, bv, X1, X2, ids, tx, h⟩
/-- The list of answers to one by one is appended to. -/
theorem AK.app (h : AK w kb jb lv ov bv) (hO : OW x3 3 45 0 ov X1 w) (x : RR × Value) (hs : ∃ a n c, x.2 = .slice a n c) (hl : X1.length ≤ 1000000) :
    ∃ a c w', (Builtin.append_ #[23, 23] 23 #[ov, .slice (some ⟨w.heap.size, 0, none⟩) 1 1]).run Try.prog (w.alloc (.cells #[.int .i64 x.1.c, .string x.1.d, x.2] 45)).drew = .ok (.slice a (X1.length + 1) c) w' ∧ AK w' kb jb lv ov bv ∧ AK (w'.setCell ⟨kb, 2, none⟩ (.slice a (X1.length + 1) c)) kb jb lv (.slice a (X1.length + 1) c) bv ∧ OW x3 3 45 0 (.slice a (X1.length + 1) c) (X1 ++ [x]) (w'.setCell ⟨kb, 2, none⟩ (.slice a (X1.length + 1) c)) ∧ Gs (fun i => i = kb ∨ ov.ownBlock = some i) w (w'.setCell ⟨kb, 2, none⟩ (.slice a (X1.length + 1) c)) ∧ ((Value.slice a (X1.length + 1) c).ownBlock = ov.ownBlock ∨ (Value.slice a (X1.length + 1) c).ownBlock = some (w.heap.size + 1)) := by
  have hb : Below w.heap.size w (w.alloc (.cells #[.int .i64 x.1.c, .string x.1.d, x.2] 45)).drew := ((Below.refl _ _).alloc (Nat.le_refl _) _).drew
  have hLS : LS x3 3 (fun _ => True) (w.alloc (.cells #[.int .i64 x.1.c, .string x.1.d, x.2] 45)).drew (.slice (some ⟨w.heap.size, 0, none⟩) 1 1) [x] := LS.one x 45 w x3 3 _ trivial
  obtain ⟨v', w', h1, h2, h3, h4⟩ := OW.app (ST := 23) x3_len (by decide) (fun y hy => by simp at hy; subst hy; exact x3_one hs) Try.underlying23 Try.infoA rfl (hO.keep hb) hLS (by simp; omega) (by simp; omega) (Nat.zero_le _)
  obtain ⟨a, c, e⟩ := h2.shp
  rw [List.length_append, List.length_singleton] at e
  subst e
  have hkl := h.lt
  have hno := h.no (by decide) hO
  have hw : ∀ i, i < w.heap.size → ov.ownBlock ≠ some i → w'.heap[i]? = w.heap[i]? := fun i hi2 hn => (h3.block i (by have := hb.size; omega) (fun e => hn e.symm)).trans (hb.block i hi2)
  have hK' : AK w' kb jb lv ov bv := (hw kb hkl hno).trans h
  have hk : ∀ i, i ≠ kb → (w'.setCell ⟨kb, 2, none⟩ (.slice a (X1.length + 1) c)).heap[i]? = w'.heap[i]? := fun i hi => heap_setCell_other w' ⟨kb, 2, none⟩ i _ hi
  have hn2 := hK'.no (by decide) h2
  have hs3 := h3.size
  refine ⟨a, c, w', h1, hK', heap_set_self hK', h2.kb (fun i hi => hk i (fun e => hn2 (e ▸ hi))), ⟨h3.os, h3.tape, h3.output, ?_, fun i hi hn => ?_⟩, ?_⟩
  · have := hb.size; simp; omega
  · exact (hk i (fun e => hn (.inl e))).trans (hw i hi (fun e => hn (.inr e)))
  · rcases h4 with h4 | h4
    · exact .inl h4
    · refine .inr (h4.trans ?_)
      show some ((w.alloc _).heap.size) = _
      simp
end
section
variable {r p P0 C : Nat → Prop} {w0 w W : World} {kb jb : Nat} {l : List QT} {X1 : List (RR × Value)} {lv ov : Value} {s : Int}
theorem own_nj {v : Value} {X : List (RR × Value)} {op : Bool} {st k c N s : Int} {n d : ByteArray} {go ids tx : Value} (hO : OW x3 3 45 0 v X w) (hJ : JB w jb op st k n d go c N ids tx s) : v.ownBlock ≠ some jb := fun e => by
  obtain ⟨cs, h4⟩ := hO.typ jb e
  rw [show w.heap[jb]? = _ from hJ] at h4
  simp at h4
theorem next_rdy (hM : AM r W kb jb lv ov (.slice none 0 0) l X1) (hO : OW x3 3 45 0 ov X1 W) (hon : ∀ i, ov.ownBlock = some i → ¬ r i) (hJ : JB W jb true 0 0 ⟨#[]⟩ ⟨#[]⟩ .nilFunc 0 0 (.slice none 0 0) (.slice none 0 0) (X1.length : Int)) (hX : X1.length ≤ l.length) (hl : l.length ≤ 1000)
    (hg : Gs P0 w0 W) (hPj : P0 jb) (hPk : P0 kb) (hCj : C jb) (hCk : C kb) (hCr : ∀ i, r i → C i) (hCo : ∀ i, ov.ownBlock = some i → C i) (hCn : ∀ i, W.heap.size ≤ i → C i) :
    Calls Try.prog 44 #[.pointer (some ⟨kb, 0, none⟩)] W fun e w' => e = .returned (.tuple #[]) ∧ RDY jb (fun w3 => AJ kb jb l (X1.map (·.1)) (fun i => C i ∧ i < w3.heap.size) w3 ∧ Gs P0 w0 w3) w' := by
  have hkj := hM.ak.nj hJ
  have hoj := own_nj hO hJ
  obtain ⟨ao, co, hov⟩ := hO.shp
  have hA : ((X1.map (·.1)).length : Int) = (X1.length : Int) := by simp
  by_cases hlt : X1.length < l.length
  · obtain ⟨q, hq⟩ : ∃ q, l[X1.length]? = some q := ⟨_, List.getElem?_eq_getElem hlt⟩
    have hak := hM.ak
    rw [hov] at hak
    refine (nextA_ask hak hM.q hM.nj hJ hq).mono ?_
    rintro e w2 ⟨rfl, hJ2, hG2⟩
    refine ⟨rfl, .inl ⟨_, _, _, _, _, _, _, _, _, _, _, _, _, hJ2, fun w3 hJ3 hG3 => ?_⟩⟩
    have hG : Gs (fun i => i = jb) W w3 := hG2.trans hG3
    have hGs := hG.size
    refine ⟨⟨⟨hCj, hJ3.lt⟩, ⟨hCk, by have := hM.ak.lt; omega⟩, fun i hi => hi.2, .inl ⟨r, lv, ov, X1, q, rfl, hq, hM.gs hG hkj (fun i hi e => hM.nj (e ▸ hi)), hO.kb (fun i hi => hG.block i (hO.lt i hi).2 (fun e => hoj (e ▸ hi))), fun i hi => ⟨⟨hCo i hi, by have := (hO.lt i hi).2; omega⟩, hon i hi⟩, by rw [hA]; exact hJ3, fun i hi => ⟨hCr i hi, by have := hM.rl i hi; omega⟩⟩⟩, hg.tr2 hG (fun i _ e => by rw [e]; exact hPj)⟩
  · have hXl : X1.length = l.length := by omega
    have hak := hM.ak
    rw [hov] at hak
    refine (nextA_all hak hM.q hXl (by omega) hJ (Q := fun w' => (w'.cell? ⟨kb, 0, none⟩ = some (.pointer (some ⟨jb, 0, none⟩)) ∧ w'.cell? ⟨kb, 1, none⟩ = some lv) ∧ RDY jb (fun w3 => AJ kb jb l (X1.map (·.1)) (fun i => C i ∧ i < w3.heap.size) w3 ∧ Gs P0 w0 w3) w') (fun w' h => h.1) ?_).mono ?_
    · intro W' a1 a2 a3 a4 a5 rv r' hCL hJ' hB' hr' h4 h4l
      have hBs := hB'.size
      have hkl := hM.ak.lt
      have hjl := hJ.lt
      have hol := hO.lt
      have hr2l : ∀ i, (r i ∨ r' i ∨ ov.ownBlock = some i) → i < W'.heap.size := by
        rintro i (e | e | e)
        · have := hM.rl i e; omega
        · exact hCL.rl i e
        · have := (hol i e).2; omega
      have hr2j : ¬ (r jb ∨ r' jb ∨ ov.ownBlock = some jb) := by
        rintro (e | e | e)
        · exact hM.nj e
        · have := hr' jb e; omega
        · exact hoj e
      have hr2k : ¬ (r kb ∨ r' kb ∨ ov.ownBlock = some kb) := by
        rintro (e | e | e)
        · exact hM.nk e
        · have := hr' kb e; omega
        · exact hM.ak.no (by decide) hO e
      have hM2 : AM (fun i => r i ∨ r' i ∨ ov.ownBlock = some i) W' kb jb lv ov (.slice none 0 0) l X1 := (hM.bel hB').mono (fun i hi => .inl hi) hr2k hr2j hr2l
      have hO2 : LS x3 3 (fun i => r i ∨ r' i ∨ ov.ownBlock = some i) W' ov X1 := (hO.keep hB').ls x3_len (fun i hi => .inr (.inr hi))
      have hCL2 := hCL.mono (r' := fun i => r i ∨ r' i ∨ ov.ownBlock = some i) (fun i hi => .inr (.inl hi)) hr2j (by
        rintro (e | e | e)
        · have := hM.rl a4 e; omega
        · exact hCL.n4 e
        · have := (hol a4 e).2; omega) (fun i e => by simp [Value.ownBlock] at e) hr2l
      have hCr2 : ∀ i, (r i ∨ r' i ∨ ov.ownBlock = some i) → C i := by
        rintro i (e | e | e)
        · exact hCr i e
        · exact hCn i (hr' i e)
        · exact hCo i e
      have hgW : Gs P0 w0 W' := hg.bel hB'
      rcases Nat.eq_zero_or_pos l.length with hz | hz
      · have hX0 : X1 = [] := List.length_eq_zero_iff.1 (by omega)
        refine (next_endA hCL2 hM2.ak hJ' (by simp [hz])).mono ?_
        rintro e w2 ⟨rfl, hK2, jds, jx, hJ2, hT1, hT2, hG2⟩
        have t1l := hT1.lt
        have t2l := hT2.lt
        have hs2 := hG2.size
        refine ⟨rfl, ⟨hK2.cell 0, hK2.cell 1⟩, .inr ⟨_, _, _, _, _, _, _, _, _, _, hJ2, fun w3 hJ3 hG3 => ?_⟩⟩
        have hs3 := hG3.size
        have hG23 : Gs (fun i => i = kb ∨ i = jb) W' w3 := hG2.tr2 hG3 (fun i _ e => .inr e)
        have hrn : ∀ i, (r i ∨ r' i ∨ ov.ownBlock = some i) → ¬ (i = kb ∨ i = jb) := fun i hi e => by
          rcases e with e | e
          · exact hr2k (e ▸ hi)
          · exact hr2j (e ▸ hi)
        have hM3 : AM (fun i => r i ∨ r' i ∨ ov.ownBlock = some i) w3 kb jb lv ov (.slice none 0 0) l X1 := ⟨hK2.gs hG3 hkj, hM2.q.gs hG23 hrn, fun x hx => (hM2.ns x hx).gs hG23 hrn, hr2k, hr2j, fun i hi => by have := hr2l i hi; omega⟩
        have hK1 : ∀ i, jds.ownBlock = some i → i ≠ jb := fun i hi => by have := (t1l i hi).1; omega
        have hK2' : ∀ i, jx.ownBlock = some i → i ≠ jb := fun i hi => by have := (t2l i hi).1; omega
        have hT13 : TS W'.heap.size jds [] w3 := hT1.kb fun i hi => hG3.block i (t1l i hi).2 (hK1 i hi)
        have hT23 : TS W'.heap.size jx [tDone] w3 := hT2.kb fun i hi => hG3.block i (t2l i hi).2 (hK2' i hi)
        have hrl3 : ∀ i, ((r i ∨ r' i ∨ ov.ownBlock = some i) ∨ jds.ownBlock = some i ∨ jx.ownBlock = some i) → i < w3.heap.size := by
          rintro i (e | e | e)
          · have := hr2l i e; omega
          · have := (t1l i e).2; omega
          · have := (t2l i e).2; omega
        refine ⟨⟨⟨hCj, hJ3.lt⟩, ⟨hCk, by omega⟩, fun i hi => hi.2, .inr (.inr ⟨fun i => (r i ∨ r' i ∨ ov.ownBlock = some i) ∨ jds.ownBlock = some i ∨ jx.ownBlock = some i, lv, ov, .slice none 0 0, X1, [], jds, jx, hXl, by simp [hz], by simp, hM3.mono (fun i hi => .inl hi) ?_ ?_ hrl3, (hO2.gs hG23 hrn).mono (fun i hi => .inl hi), ⟨_, _, rfl, fun _ => rfl, .inl rfl⟩, (fun x hx => by simp at hx), by rw [hA]; exact hJ3, hT13.ls (fun i hi => .inr (.inl hi)), hT23.ls (fun i hi => .inr (.inr hi)), fun i hi => ⟨?_, hrl3 i hi⟩⟩)⟩, hgW.tr2 hG23 (fun i _ e => by rcases e with e | e <;> rw [e] <;> assumption)⟩
        · rintro (e | e | e)
          · exact hr2k e
          · have := (t1l kb e).1; omega
          · have := (t2l kb e).1; omega
        · rintro (e | e | e)
          · exact hr2j e
          · have := (t1l jb e).1; omega
          · have := (t2l jb e).1; omega
        · rcases hi with e | e | e
          · exact hCr2 i e
          · exact hCn i (by have := (t1l i e).1; omega)
          · exact hCn i (by have := (t2l i e).1; omega)
      · obtain ⟨q, hq⟩ : ∃ q, l[0]? = some q := ⟨_, List.getElem?_eq_getElem hz⟩
        refine (next_ask hCL2 hJ' (q := q) hq).mono ?_
        rintro e w2 ⟨rfl, hJ2, hG2⟩
        have hM2' := hM2.gs hG2 hkj (fun i hi e => hr2j (e ▸ hi))
        refine ⟨rfl, ⟨hM2'.ak.cell 0, hM2'.ak.cell 1⟩, .inl ⟨_, _, _, _, _, _, _, _, _, _, _, _, _, hJ2, fun w3 hJ3 hG3 => ?_⟩⟩
        have hG : Gs (fun i => i = jb) W' w3 := hG2.trans hG3
        have hGs := hG.size
        have hM3 := hM2'.gs hG3 hkj (fun i hi e => hr2j (e ▸ hi))
        refine ⟨⟨⟨hCj, hJ3.lt⟩, ⟨hCk, by omega⟩, fun i hi => hi.2, .inr (.inl ⟨_, lv, ov, X1, [], q, a1, a2, a3, a4, a5, rv, .slice none 0 0, hXl, by simp, hq, hM3, (hO2.gs hG2 (fun i hi e => hr2j (e ▸ hi))).gs hG3 (fun i hi e => hr2j (e ▸ hi)), (hCL2.gb hJ' hG2).gb hJ2 hG3, by rw [hA]; exact hJ3, fun i hi => ⟨hCr2 i hi, by have := hr2l i hi; omega⟩, ⟨hCn a4 h4, by omega⟩, (fun i e => by simp [Value.ownBlock] at e)⟩)⟩, hgW.tr2 hG (fun i _ e => by rw [e]; exact hPj)⟩
    · rintro e w' ⟨rfl, _, hR⟩
      exact ⟨rfl, hR⟩
end
section
variable {r p P P0 C : Nat → Prop} {w0 w V : World} {kb jb : Nat} {l : List QT} {A : List RR} {X1 : List (RR × Value)} {lv ov : Value}
set_option maxRecDepth 100000 in
set_option maxHeartbeats 3200000 in
theorem take_one (hM : AM r V kb jb lv ov (.slice none 0 0) l X1) (hO : OW x3 3 45 0 ov X1 V) (hon : ∀ i, ov.ownBlock = some i → ¬ r i) (x : RR × Value) (hx : LS t1 1 r V x.2 x.1.l) (hJ : JB V jb true 0 0 ⟨#[]⟩ ⟨#[]⟩ .nilFunc 0 0 (.slice none 0 0) (.slice none 0 0) ((X1.length : Int) + 1)) (hX : X1.length < l.length) (hl : l.length ≤ 1000)
    (hg : Gs P0 w0 V) (hPj : P0 jb) (hPk : P0 kb) (hPo : ∀ i, ov.ownBlock = some i → P0 i ∨ w0.heap.size ≤ i) (hCj : C jb) (hCk : C kb) (hCr : ∀ i, r i → C i) (hCo : ∀ i, ov.ownBlock = some i → C i) (hCn : ∀ i, V.heap.size ≤ i → C i) :
    Calls Try.prog 57 #[.pointer (some ⟨kb, 0, none⟩), .agg #[.int .i64 x.1.c, .string x.1.d, x.2]] V fun e w' => e = .returned (.tuple #[]) ∧ RDY jb (fun w3 => AJ kb jb l ((X1 ++ [x]).map (·.1)) (fun i => C i ∧ i < w3.heap.size) w3 ∧ Gs P0 w0 w3) w' := by
  obtain ⟨ua, uc, hu⟩ := hx.shp
  obtain ⟨U, hU⟩ : ∃ U, U = V.alloc (.cells #[.int .i64 x.1.c, .string x.1.d, x.2] 45) := ⟨_, rfl⟩
  obtain ⟨n5, hn5⟩ : ∃ n5, n5 = V.heap.size := ⟨_, rfl⟩
  have hBU : Below V.heap.size V U := by rw [hU]; exact (Below.refl _ _).alloc (Nat.le_refl _) _
  have hUs : U.heap.size = n5 + 1 := by rw [hU, hn5]; simp
  have hblk : U.heap[n5]? = some (.cells #[.int .i64 x.1.c, .string x.1.d, x.2] 45 (0, 0)) := by rw [hU, hn5]; exact heap_alloc_new V _
  have hMU := hM.bel hBU
  have hOU := hO.keep hBU
  have hJU := hJ.bel hBU
  obtain ⟨va, vc, w1, hr, hK1, hKW, hOW, hGW, hov⟩ := hMU.ak.app hOU x ⟨ua, _, uc, hu⟩ (by omega)
  have y2 : U.cell? ⟨kb, 2, none⟩ = some ov := hMU.ak.cell 2
  have hBZ : Below U.heap.size U (U.alloc (.cells #[.int .i64 x.1.c, .string x.1.d, x.2] 45)) := (Below.refl _ _).alloc (Nat.le_refl _) _
  have y2' : (U.alloc (.cells #[.int .i64 x.1.c, .string x.1.d, x.2] 45)).cell? ⟨kb, 2, none⟩ = some ov := (hMU.ak.bel hBZ).cell 2
  have k0 : U.cell? ⟨n5, 0, none⟩ = some (.int .i64 x.1.c) := by simp [World.cell?, hblk]
  have k1 : U.cell? ⟨n5, 1, none⟩ = some (.string x.1.d) := by simp [World.cell?, hblk]
  have k2 : U.cell? ⟨n5, 2, none⟩ = some x.2 := by simp [World.cell?, hblk]
  have s2 : w1.cell? ⟨kb, 2, none⟩ = some ov := hK1.cell 2
  have f2 := hK1.free 2
  obtain ⟨W, hW⟩ : ∃ W, W = w1.setCell ⟨kb, 2, none⟩ (.slice va (X1.length + 1) vc) := ⟨_, rfl⟩
  rw [← hW] at hKW hOW hGW
  have hkj := hMU.ak.nj hJU
  have hoj := own_nj hOU hJU
  have hWs := hGW.size
  have hnr : ∀ i, r i → ¬ (i = kb ∨ ov.ownBlock = some i) := fun i hi e => by
    rcases e with e | e
    · exact hM.nk (e ▸ hi)
    · exact hon i e hi
  have hJW : JB W jb true 0 0 ⟨#[]⟩ ⟨#[]⟩ .nilFunc 0 0 (.slice none 0 0) (.slice none 0 0) (((X1 ++ [x]).length : Nat) : Int) := by
    have e : (((X1 ++ [x]).length : Nat) : Int) = (X1.length : Int) + 1 := by simp
    rw [e]
    exact hJU.gs hGW (fun e => by
      rcases e with e | e
      · exact hkj e.symm
      · exact hoj e)
  have hMW : AM r W kb jb lv (.slice va (X1.length + 1) vc) (.slice none 0 0) l (X1 ++ [x]) := by
    refine ⟨hKW, hMU.q.gs hGW hnr, fun y hy => ?_, hM.nk, hM.nj, fun i hi => by have := hMU.rl i hi; omega⟩
    rcases List.mem_append.1 hy with hy | hy
    · exact (hMU.ns y hy).gs hGW hnr
    · simp at hy; subst hy; exact (hx.bel hBU).gs hGW hnr
  have hVs := hBU.size
  have HN := hide (next_rdy (P0 := P0) (w0 := w0) (C := C) hMW hOW (fun i hi hri => by
    rcases hov with e | e
    · rw [e] at hi; exact hon i hi hri
    · rw [e] at hi; simp at hi; have := hM.rl i hri; omega) hJW (by simp; omega) hl ((hg.bel hBU).tr2 hGW (fun i hi e => by
    rcases e with e | e
    · rw [e]; exact hPk
    · rcases hPo i e with h' | h'
      · exact h'
      · omega)) hPj hPk hCj hCk hCr (fun i hi => by
    rcases hov with e | e
    · rw [e] at hi; exact hCo i hi
    · rw [e] at hi; simp at hi; exact hCn i (by omega)) (fun i hi => hCn i (by omega)))
  have HU := hide hU
  have Hn5 := hide hn5
  have HW := hide hW
  rw [hu] at hr k2 HU
  rw [hu]
  have y2'' := y2'
  rw [hu] at y2''
  have HR := hide hr
  clear hM hO hon hx hJ hX hl hg hPj hPk hPo hCj hCk hCr hCo hCn hU hn5 hBU hUs hblk hMU hOU hJU hr hK1 hKW hOW hGW hov hBZ y2' hW hkj hoj hWs hnr hJW hMW hVs hu
  generalize x.1.c = cc at *
  generalize x.1.d = dd at *
  generalize x.1.l.length = ln at *
  generalize X1.length + 1 = xl at *
  go_enter Try.func57, Try.ntmps57
  go_upto_region 1 with fail
  rw [← HU.out, ← Hn5.out]
  go_region_law (first | (refine step_world (V := (U.alloc (.cells #[.int .i64 cc, .string dd, .slice ua ln uc] 45)).drew) (by with_reducible rfl) ?_; refine step_append_run rfl _ _ 23 23 rfl _ _ rfl rfl _ _ HR.out ?_))
  all_goals (
    go_wp2_with fail
    rw [← HW.out]
    refine HN.out.mono ?_
    rintro e w2 ⟨rfl, hF⟩
    have HF := hide hF
    clear hF
    go_wp2
    go_end0
    exact ⟨rfl, HF.out⟩)
end
theorem RDY.mono {b : Nat} {Q Q' : World → Prop} {w : World} (h : RDY b Q w) (hq : ∀ w3, Q w3 → Q' w3) : RDY b Q' w := by
  rcases h with ⟨op, st, k, n, d, fn, fi, ca, c, N, ids, tx, s, hJ, h⟩ | ⟨op, st, k, n, d, c, N, ids, tx, s, hJ, h⟩
  · exact .inl ⟨op, st, k, n, d, fn, fi, ca, c, N, ids, tx, s, hJ, fun w3 h3 h4 => hq w3 (h w3 h3 h4)⟩
  · exact .inr ⟨op, st, k, n, d, c, N, ids, tx, s, hJ, fun w3 h3 h4 => hq w3 (h w3 h3 h4)⟩
section
variable {r r0 p P : Nat → Prop} {w : World} {kb jb : Nat} {l : List QT} {A : List RR} {u : Value} {ll : List ByteArray}
theorem give_asker (h : AJ kb jb l A P w) (hA : A.length < (l ++ l).length) (hu : LS t1 1 r0 w u ll) (hr0 : ¬ r0 jb) (hl : l.length ≤ 1000) (hll : ll.length ≤ 1000000000000) (cc : Int) (dd : ByteArray) :
    Calls Try.prog 16 #[.pointer (some ⟨jb, 0, none⟩), .agg #[.int .i64 cc, .string dd, u]] w fun e w' => e = .returned (.int .i64 0) ∧ ∃ P', AJ kb jb l (A ++ [⟨cc, dd, ll⟩]) P' w' ∧ Gs P w w' ∧ ∀ i, P' i → P i ∨ w.heap.size ≤ i := by
  obtain ⟨hPj, hPk, hPl, h⟩ := h
  have hAl : A.length < 2000 := by rw [List.length_append] at hA; omega
  rcases h with ⟨r, lv, ov, X1, q, h⟩ | ⟨r, lv, ov, X1, X2, q, a1, a2, a3, a4, a5, rv, av, h⟩ | ⟨r, lv, ov, bv, X1, X2, ids, tx, h⟩
  · refine give_one h.j rfl hu hr0 hll (by omega) (by omega) cc dd (Q := fun w' => ∃ P', AJ kb jb l (A ++ [⟨cc, dd, ll⟩]) P' w' ∧ Gs P w w' ∧ ∀ i, P' i → P i ∨ w.heap.size ≤ i) ?_
    intro V u' hGV
    have hul := hGV.u.lt
    have hVs := hGV.g.size
    have hkj := h.m.ak.nj h.j
    have hoj := own_nj h.o h.j
    have hol := h.o.lt
    have hkl := h.m.ak.lt
    have hjl := h.j.lt
    have hM : AM (fun i => r i ∨ u'.ownBlock = some i) V kb jb lv ov (.slice none 0 0) l X1 := by
      refine (h.m.gs hGV.g hkj (fun i hi e => h.m.nj (e ▸ hi))).mono (fun i hi => .inl hi) ?_ ?_ ?_
      · rintro (e | e)
        · exact h.m.nk e
        · have := (hul _ e).1; omega
      · rintro (e | e)
        · exact h.m.nj e
        · have := (hul _ e).1; omega
      · rintro i (e | e)
        · have := h.m.rl i e; omega
        · exact (hul _ e).2
    have hO := h.o.kb (w' := V) (fun i hi => hGV.g.block i (hol i hi).2 (fun e => hoj (e ▸ hi)))
    have hXA : (X1 ++ [((⟨cc, dd, ll⟩ : RR), u')]).map (·.1) = A ++ [⟨cc, dd, ll⟩] := by rw [h.a]; simp
    have hlA : (A.length : Int) = (X1.length : Int) := by rw [h.a]; simp
    have hJV := hGV.j
    rw [hlA] at hJV
    refine (take_one (P0 := P) (w0 := w) (C := fun i => P i ∨ w.heap.size ≤ i) hM hO ?_ ((⟨cc, dd, ll⟩ : RR), u') (hGV.u.ls fun i hi => .inr hi) hJV (List.getElem?_eq_some_iff.1 h.hq).1 hl (hGV.g.mono fun i _ e => by rw [e]; exact hPj) hPj hPk (fun i hi => .inl (h.on i hi).1) (.inl hPj) (.inl hPk) ?_ (fun i hi => .inl (h.on i hi).1) (fun i hi => .inr (by omega))).mono ?_
    · rintro i hi (e | e)
      · exact (h.on i hi).2 e
      · have := (hul _ e).1; have := (hol i hi).2; omega
    · rintro i (e | e)
      · exact .inl (h.rp i e)
      · exact .inr (hul i e).1
    · rintro e w2 ⟨rfl, hR⟩
      refine ⟨rfl, hR.mono fun w3 h3 => ⟨fun i => (P i ∨ w.heap.size ≤ i) ∧ i < w3.heap.size, ?_, h3.2, fun i hi => hi.1⟩⟩
      rw [← hXA]
      exact h3.1
  · refine give_all h.j rfl hu hr0 hll (by omega) (by omega) cc dd (Q := fun w' => ∃ P', AJ kb jb l (A ++ [⟨cc, dd, ll⟩]) P' w' ∧ Gs P w w' ∧ ∀ i, P' i → P i ∨ w.heap.size ≤ i) ?_
    intro V u' hGV
    have hul := hGV.u.lt
    have hVs := hGV.g.size
    have hkj := h.m.ak.nj h.j
    have hkl := h.m.ak.lt
    have hjl := h.j.lt
    have h4l := lt_of_block h.c.h4
    have hal := h.c.o.lt
    have hrl : ∀ i, (r i ∨ u'.ownBlock = some i) → i < V.heap.size := by
      rintro i (e | e)
      · have := h.m.rl i e; omega
      · exact (hul _ e).2
    have hrk : ¬ (r kb ∨ u'.ownBlock = some kb) := by
      rintro (e | e)
      · exact h.m.nk e
      · have := (hul _ e).1; omega
    have hrj : ¬ (r jb ∨ u'.ownBlock = some jb) := by
      rintro (e | e)
      · exact h.m.nj e
      · have := (hul _ e).1; omega
    have hM : AM (fun i => r i ∨ u'.ownBlock = some i) V kb jb lv ov (.slice none 0 0) l X1 := (h.m.gs hGV.g hkj (fun i hi e => h.m.nj (e ▸ hi))).mono (fun i hi => .inl hi) hrk hrj hrl
    have hOV : LS x3 3 (fun i => r i ∨ u'.ownBlock = some i) V ov X1 := (h.o.gs hGV.g (fun i hi e => h.m.nj (e ▸ hi))).mono (fun i hi => .inl hi)
    have hC : CL (fun i => r i ∨ u'.ownBlock = some i) V jb l X2 a1 a2 a3 a4 a5 (.func (.func 58) #[.pointer (some ⟨kb, 0, none⟩)] #[]) rv av := by
      refine (h.c.gb h.j hGV.g).mono (fun i hi => .inl hi) hrj ?_ ?_ hrl
      · rintro (e | e)
        · exact h.c.n4 e
        · have := (hul _ e).1; omega
      · rintro i hi (e | e)
        · exact h.c.no i hi e
        · have := (hul _ e).1; have := (hal i hi).2; omega
    have hXA : X1.map (·.1) ++ (X2 ++ [((⟨cc, dd, ll⟩ : RR), u')]).map (·.1) = A ++ [⟨cc, dd, ll⟩] := by rw [h.a]; simp
    have hlA : ((A ++ [(⟨cc, dd, ll⟩ : RR)]).length : Int) = (A.length : Int) + 1 := by simp
    have hX2 := (List.getElem?_eq_some_iff.1 h.hq).1
    refine (takeA hC hM.ak hGV.j ((⟨cc, dd, ll⟩ : RR), u') (hGV.u.ls fun i hi => .inr hi) hX2 (by omega)).mono ?_
    rintro e w2 ⟨rfl, hG2, hT⟩
    have hGP : Gs P w w2 := (hGV.g.mono fun i _ e => by rw [e]; exact hPj).trans (hG2.mono fun i _ e => by
      rcases e with (e | e | e) | e
      · rw [e]; exact hPj
      · rw [e]; exact h.p4
      · exact h.po i e
      · rw [e]; exact hPk)
    have h2s := hG2.size
    have hrn : ∀ i, (r i ∨ u'.ownBlock = some i) → ¬ (mu jb a4 av i ∨ i = kb) := fun i hi e => by
      rcases e with (e | e | e) | e
      · exact hrj (e ▸ hi)
      · exact hC.n4 (e ▸ hi)
      · exact hC.no i e hi
      · exact hrk (e ▸ hi)
    have hq2 := hM.q.gs hG2 hrn
    have hn2 : ∀ x ∈ X1, LS t1 1 (fun i => r i ∨ u'.ownBlock = some i) w2 x.2 x.1.l := fun x hx => (hM.ns x hx).gs hG2 hrn
    have ho2 := hOV.gs hG2 hrn
    have hrP : ∀ i, (r i ∨ u'.ownBlock = some i) → P i ∨ w.heap.size ≤ i := by
      rintro i (e | e)
      · exact .inl (h.rp i e)
      · exact .inr (hul i e).1
    refine ⟨rfl, ?_⟩
    rcases hT with ⟨q', av', hq', hC2, hK2, hov, hJ2⟩ | ⟨hlen, av', jds, jx, hK2, hO2, hov, hno, hJ2, hT1, hT2⟩
    · refine .inl ⟨_, _, _, _, _, _, _, _, _, _, _, _, _, hJ2, fun w3 hJ3 hG3 => ?_⟩
      have h3s := hG3.size
      have hC3 := hC2.gb hJ2 hG3
      have hrn3 : ∀ i, (r i ∨ u'.ownBlock = some i) → ¬ i = jb := fun i hi e => hrj (e ▸ hi)
      have hM3 : AM (fun i => r i ∨ u'.ownBlock = some i) w3 kb jb lv ov (.slice none 0 0) l X1 := ⟨hK2.gs hG3 hkj, hq2.gs hG3 hrn3, fun x hx => (hn2 x hx).gs hG3 hrn3, hrk, hrj, fun i hi => by have := hrl i hi; omega⟩
      refine ⟨fun i => (P i ∨ w.heap.size ≤ i) ∧ i < w3.heap.size, ⟨⟨.inl hPj, hJ3.lt⟩, ⟨.inl hPk, by omega⟩, fun i hi => hi.2, .inr (.inl ⟨_, lv, ov, X1, X2 ++ [((⟨cc, dd, ll⟩ : RR), u')], q', a1, a2, a3, a4, a5, rv, av', h.x1, hXA.symm, hq', hM3, ho2.gs hG3 hrn3, hC3, by rw [hlA]; exact hJ3, fun i hi => ⟨hrP i hi, by have := hrl i hi; omega⟩, ⟨.inl h.p4, lt_of_block hC3.h4⟩, fun i hi => ⟨?_, (hC3.o.lt i hi).2⟩⟩)⟩, hGP.trans (hG3.mono fun i _ e => by rw [e]; exact hPj), fun i hi => hi.1⟩
      rcases hov with e | e
      · rw [e] at hi; exact .inl (h.po i hi)
      · exact .inr (by have := e i hi; omega)
    · refine .inr ⟨_, _, _, _, _, _, _, _, _, _, hJ2, fun w3 hJ3 hG3 => ?_⟩
      have h3s := hG3.size
      have t1l := hT1.lt
      have t2l := hT2.lt
      have o2l := hO2.lt
      have hoj := own_nj hO2 hJ2
      have hok := hK2.no (by decide) hO2
      have hrn3 : ∀ i, (r i ∨ u'.ownBlock = some i) → ¬ i = jb := fun i hi e => hrj (e ▸ hi)
      have hrl3 : ∀ i, ((r i ∨ u'.ownBlock = some i) ∨ av'.ownBlock = some i ∨ jds.ownBlock = some i ∨ jx.ownBlock = some i) → i < w3.heap.size := by
        rintro i (e | e | e | e)
        · have := hrl i e; omega
        · have := (o2l i e).2; omega
        · have := (t1l i e).2; omega
        · have := (t2l i e).2; omega
      have hn3 : ∀ x ∈ X2 ++ [((⟨cc, dd, ll⟩ : RR), u')], LS t1 1 (fun i => r i ∨ u'.ownBlock = some i) w3 x.2 x.1.l := by
        intro x hx
        rcases List.mem_append.1 hx with hx | hx
        · exact ((hC.ns x hx).gs hG2 hrn).gs hG3 hrn3
        · simp at hx
          subst hx
          exact (LS.gs (hGV.u.ls fun i hi => .inr hi) hG2 hrn).gs hG3 hrn3
      have hT13 : TS V.heap.size jds [] w3 := hT1.kb fun i hi => hG3.block i (t1l i hi).2 (by have := (t1l i hi).1; omega)
      have hT23 : TS V.heap.size jx [tDone] w3 := hT2.kb fun i hi => hG3.block i (t2l i hi).2 (by have := (t2l i hi).1; omega)
      have hO3 := hO2.kb (w' := w3) (fun i hi => hG3.block i (o2l i hi).2 (fun e => hoj (e ▸ hi)))
      have hM3 : AM (fun i => (r i ∨ u'.ownBlock = some i) ∨ av'.ownBlock = some i ∨ jds.ownBlock = some i ∨ jx.ownBlock = some i) w3 kb jb lv ov av' l X1 := by
        refine ⟨hK2.gs hG3 hkj, (hq2.gs hG3 hrn3).mono (fun i hi => .inl hi), fun x hx => ((hn2 x hx).gs hG3 hrn3).mono (fun i hi => .inl hi), ?_, ?_, hrl3⟩
        · rintro (e | e | e | e)
          · exact hrk e
          · exact hok e
          · have := (t1l _ e).1; omega
          · have := (t2l _ e).1; omega
        · rintro (e | e | e | e)
          · exact hrj e
          · exact hoj e
          · have := (t1l _ e).1; omega
          · have := (t2l _ e).1; omega
      refine ⟨fun i => (P i ∨ w.heap.size ≤ i) ∧ i < w3.heap.size, ⟨⟨.inl hPj, hJ3.lt⟩, ⟨.inl hPk, by omega⟩, fun i hi => hi.2, .inr (.inr ⟨_, lv, ov, av', X1, X2 ++ [((⟨cc, dd, ll⟩ : RR), u')], jds, jx, h.x1, hlen, hXA.symm, hM3, (ho2.gs hG3 hrn3).mono (fun i hi => .inl hi), hO3.ls x3_len (fun i hi => .inr (.inl hi)), fun x hx => (hn3 x hx).mono (fun i hi => .inl hi), by rw [hlA]; exact hJ3, hT13.ls (fun i hi => .inr (.inr (.inl hi))), hT23.ls (fun i hi => .inr (.inr (.inr hi))), fun i hi => ⟨?_, hrl3 i hi⟩⟩)⟩, hGP.trans (hG3.mono fun i _ e => by rw [e]; exact hPj), fun i hi => hi.1⟩
      rcases hi with e | e | e | e
      · exact hrP i e
      · rcases hov with e' | e'
        · rw [e'] at e; exact .inl (h.po i e)
        · exact .inr (by have := e' i e; omega)
      · exact .inr (by have := (t1l i e).1; omega)
      · exact .inr (by have := (t2l i e).1; omega)
  · have : A.length = (l ++ l).length := by rw [h.a]; simp [h.x1, h.x2]
    omega
theorem jobA (kb jb : Nat) {l : List QT} (hl : l.length ≤ 1000) : JOB (fun A P w => AJ kb jb l A P w) (l ++ l) jb := by
  refine ⟨fun h hg hp => h.gs hg hp, fun h => h.2.2.1, fun h => h.1, fun h => ?_, fun h hq => ?_, fun h hA => ?_, fun h => ?_, fun cc dd h hA hu hr0 hll _ => give_asker h hA hu hr0 hl hll cc dd⟩
  · rcases h.wait with ⟨q, _, hq, _⟩ | ⟨h1, _⟩
    · exact Nat.le_of_lt (List.getElem?_eq_some_iff.1 hq).1
    · omega
  · rcases h.wait with ⟨q', go, hq', ⟨fn, fi, ca, rfl⟩, hJ⟩ | ⟨h1, _⟩
    · rw [hq'] at hq; cases hq; exact next_on hJ
    · rw [h1] at hq; simp at hq
  · rcases h.wait with ⟨q', go, hq', _, hJ⟩ | ⟨h1, r, lv, ov, bv, X1, X2, ids, tx, h⟩
    · rw [hA] at hq'; simp at hq'
    · exact next_off h.j
  · rcases h.wait with ⟨q', go, hq', _, hJ⟩ | ⟨h1, r, lv, ov, bv, X1, X2, ids, tx, h⟩
    · rw [decide_eq_true (List.getElem?_eq_some_iff.1 hq').1]; exact over_any hJ
    · rw [decide_eq_false (by omega)]; exact over_any h.j
set_option maxRecDepth 100000 in
set_option maxHeartbeats 1600000 in
theorem begin_any {V : World} {lv : Value} {C : Nat → Prop} (hK : V.heap[kb]? = some (.cells #[.pointer none, lv, .slice none 0 0, .slice none 0 0] 70 (0, 0))) (hq : LS q4 4 r V lv l) (hrk : ¬ r kb) (hrj : ¬ r jb) (hrl : ∀ i, r i → i < V.heap.size) (hJ : JB V jb true 0 0 ⟨#[]⟩ ⟨#[]⟩ .nilFunc 0 0 (.slice none 0 0) (.slice none 0 0) 0) (hl : l.length ≤ 1000) (hCj : C jb) (hCk : C kb) (hCr : ∀ i, r i → C i) (hCn : ∀ i, V.heap.size ≤ i → C i) :
    Calls Try.prog 27 #[.pointer (some ⟨kb, 0, none⟩), .pointer (some ⟨jb, 0, none⟩)] V fun e w' => e = .returned (.tuple #[]) ∧ RDY jb (fun w3 => AJ kb jb l [] (fun i => C i ∧ i < w3.heap.size) w3 ∧ Gs (fun i => i = jb ∨ i = kb) V w3) w' := by
  have y0 : V.cell? ⟨kb, 0, none⟩ = some (.pointer none) := by simp [World.cell?, hK]
  have f0 : V.frozen? ⟨kb, 0, none⟩ = false := by simp [World.frozen?, hK]
  obtain ⟨W, hW⟩ : ∃ W, W = V.setCell ⟨kb, 0, none⟩ (.pointer (some ⟨jb, 0, none⟩)) := ⟨_, rfl⟩
  have hKW : AK W kb jb lv (.slice none 0 0) (.slice none 0 0) := by rw [hW]; exact heap_set_self hK
  have hG : Gs (fun i => i = jb ∨ i = kb) V W := by rw [hW]; exact (Gs.refl _ _).set (a := ⟨kb, 0, none⟩) (.inl (.inr rfl)) _
  have hkj : kb ≠ jb := fun e => by
    rw [e, show V.heap[jb]? = _ from hJ] at hK
    simp at hK
  have hJW : JB W jb true 0 0 ⟨#[]⟩ ⟨#[]⟩ .nilFunc 0 0 (.slice none 0 0) (.slice none 0 0) ((([] : List (RR × Value)).length : Nat) : Int) := by rw [hW]; exact (heap_setCell_other V ⟨kb, 0, none⟩ jb _ (fun e => hkj e.symm)).trans hJ
  have hWs : W.heap.size = V.heap.size := by rw [hW]; simp
  have hM : AM r W kb jb lv (.slice none 0 0) (.slice none 0 0) l [] := ⟨hKW, hq.gs hG (fun i hi e => by
    rcases e with e | e
    · exact hrj (e ▸ hi)
    · exact hrk (e ▸ hi)), (fun x hx => by simp at hx), hrk, hrj, fun i hi => by have := hrl i hi; omega⟩
  have HN := hide (next_rdy (P0 := fun i => i = jb ∨ i = kb) (w0 := V) (C := C) hM (OW.nil _ _ _ _ _) (fun i e => by simp [Value.ownBlock] at e) hJW (Nat.zero_le _) hl hG (.inl rfl) (.inr rfl) hCj hCk hCr (fun i e => by simp [Value.ownBlock] at e) (fun i hi => hCn i (by omega)))
  have HW := hide hW
  clear hK hq hrk hrj hrl hJ hl hCj hCk hCr hCn hW hKW hG hkj hJW hWs hM
  go_enter Try.func27, Try.ntmps27
  go_upto_region 1 with fail
  rw [← HW.out]
  go_wp2_with fail
  refine HN.out.mono ?_
  rintro e w2 ⟨rfl, hF⟩
  have HF := hide hF
  clear hF
  go_wp2
  go_end0
  exact ⟨rfl, HF.out⟩
end
end Go.Proofs.Ytepmhgkegfpmjaa
