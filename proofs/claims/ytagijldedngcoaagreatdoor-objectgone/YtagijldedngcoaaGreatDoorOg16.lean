/-
  Contracts of the program and of the statements (part 16 of 27).
-/
import Derived.Test.YtagijldedngcoaaGreatDoorOg12
import Derived.Test.YtagijldedngcoaaGreatDoorOg15
import Derived.Test.YtagijldedngcoaaGreatDoorOg14
import Derived.Test.YtagijldedngcoaaGreatDoorOg13
import Derived.BigQuiet
import Derived.Deep.QuietTactic
import Derived.RangeFuncNested
import Derived.RangeFuncBound
import Derived.RangeFuncCalls
import Derived.RangeFuncLeaves
import Derived.Shelf.Abstract
import Derived.Shelf.RegionOpen
import Derived.WalkKit
import Derived.OwnWalkIn
import Derived.TacticsInMore
import Derived.LoopNIn
import Derived.LoopIn
set_option maxRecDepth 100000
set_option maxHeartbeats 3200000

namespace Go.Proofs.YtagijldedngcoaaGreatDoor
def sx0 : Zq.SX := ⟨0, 0, 0, 0, ⟨#[]⟩, ⟨#[]⟩⟩
def lx (l : List Zq.SX) (i : Nat) : Zq.SX := (l[i]?).getD sx0
theorem lx_at {l : List Zq.SX} {i : Nat} {x : Zq.SX} (h : l[i]? = some x) : lx l i = x := by rw [lx, h]; rfl
open Classical in
noncomputable def gaV (l : List Zq.SX) : Option ByteArray := if Zq.GA (lx l) l.length (Zq.gJS (lx l) l.length) 0 then some (Zq.gJS (lx l) l.length) else none
theorem ga_one {l : List Zq.SX} {S : ByteArray} {c : Int} (h : Zq.GA (lx l) l.length S c) : (c = 0 ∧ gaV l = some S) ∨ (c ≠ 0 ∧ gaV l = none) := by
  by_cases hg : Zq.GA (lx l) l.length (Zq.gJS (lx l) l.length) 0
  · obtain ⟨h1, h2⟩ := h.one hg
    exact .inl ⟨h2, by rw [gaV, if_pos hg, h1]⟩
  · refine .inr ⟨?_, by rw [gaV, if_neg hg]⟩
    rintro rfl
    rcases h with ⟨_, _, e⟩ | ⟨h1, ⟨h2, _, e⟩ | ⟨h2, ⟨_, _, e⟩ | ⟨h3, e, _⟩⟩⟩
    · cases e
    · exact h2 e.symm
    · cases e
    · subst e; exact hg (.inr ⟨h1, .inr ⟨h2, .inr ⟨h3, rfl, rfl⟩⟩⟩)
/-! ### Choices -/
def cat (c : List Nat) (i : Nat) : Nat := (c[i]?).getD 0
def nxI (c : List Nat) (n : Nat) : Nat → Option (List Nat)
  | 0 => none
  | i + 1 => if cat c i + c.length = n + i then nxI c n i else some (c.take i ++ (List.range (c.length - i)).map fun j => cat c i + 1 + j)
def nxt (c : List Nat) (n : Nat) : Option (List Nat) := nxI c n c.length
def ith (K n : Nat) : Nat → Option (List Nat)
  | 0 => if K ≤ n then some (List.range K) else none
  | t + 1 => (ith K n t).bind fun c => nxt c n
def CI (K n : Nat) (c : List Nat) : Prop := c.length = K ∧ ∀ i, i < K → cat c i + K ≤ n + i
theorem cat_at {c : List Nat} {i x : Nat} (h : c[i]? = some x) : cat c i = x := by rw [cat, h]; rfl
theorem cat_get {c : List Nat} {i : Nat} (h : i < c.length) : c[i]? = some (cat c i) := by rw [cat, List.getElem?_eq_getElem h]; rfl
theorem cat_up {c : List Nat} {i j : Nat} (hi : i ≤ c.length) : cat (c.take i ++ (List.range (c.length - i)).map fun j => cat c i + 1 + j) j = if j < i then cat c j else if j < c.length then cat c i + 1 + (j - i) else 0 := by
  by_cases h : j < i
  · rw [if_pos h, cat, List.getElem?_append_left (by rw [List.length_take]; omega), List.getElem?_take, if_pos h, ← cat]
  · rw [if_neg h, cat, List.getElem?_append_right (by rw [List.length_take]; omega), List.length_take, show min i c.length = i by omega, List.getElem?_map]
    by_cases h2 : j < c.length
    · rw [if_pos h2, List.getElem?_range (by omega)]; rfl
    · rw [if_neg h2, List.getElem?_eq_none (by rw [List.length_range]; omega)]; rfl
theorem ci_nxI {K n : Nat} {c c' : List Nat} (h : CI K n c) : ∀ {i : Nat}, i ≤ K → nxI c n i = some c' → CI K n c'
  | 0, _, e => by rw [nxI] at e; cases e
  | i + 1, hi, e => by
    rw [nxI] at e
    obtain ⟨hl, hc⟩ := h
    split at e
    · exact ci_nxI ⟨hl, hc⟩ (by omega) e
    · rename_i hne
      cases e
      have h1 := hc i (by omega)
      refine ⟨by simp; omega, fun j hj => ?_⟩
      rw [cat_up (by omega)]
      by_cases h : j < i
      · rw [if_pos h]; exact hc j hj
      · rw [if_neg h, if_pos (by omega)]; omega
theorem ci_ith {K n : Nat} : ∀ {t : Nat} {c : List Nat}, ith K n t = some c → CI K n c
  | 0, c, h => by
    rw [ith] at h
    split at h
    · cases h
      refine ⟨by simp, fun i hi => ?_⟩
      rw [cat, List.getElem?_range hi]
      show i + K ≤ n + i
      omega
    · cases h
  | t + 1, c, h => by
    rw [ith] at h
    obtain ⟨c0, h0, h1⟩ := Option.bind_eq_some_iff.1 h
    have hc := ci_ith h0
    exact ci_nxI hc (by rw [hc.1]; exact Nat.le_refl _) h1
theorem ci_lt {K n : Nat} {c : List Nat} (h : CI K n c) {i : Nat} (hi : i < K) : cat c i < n := by have := h.2 i hi; omega
def pick (f : List Zq.SX) (c : List Nat) : List Zq.SX := c.map (lx f)
theorem pick_len (f : List Zq.SX) (c : List Nat) : (pick f c).length = c.length := by simp [pick]
theorem pick_at {f : List Zq.SX} {c : List Nat} {i : Nat} (h : i < c.length) : lx (pick f c) i = lx f (cat c i) := by
  rw [lx, pick, List.getElem?_map, cat_get h]; rfl
noncomputable def gthN (K : Nat) (f : List Zq.SX) : Nat → Nat → Option ByteArray
  | 0, _ => none
  | m + 1, t => match ith K f.length t with
    | none => none
    | some c => match gaV (pick f c) with
      | some d => some d
      | none => gthN K f m (t + 1)
noncomputable def gth (K : Nat) (f : List Zq.SX) : Option ByteArray := gthN K f 1000 0
def Fl (K : Nat) (f : List Zq.SX) (t : Nat) : Prop := ∀ s, s < t → ∃ c, ith K f.length s = some c ∧ gaV (pick f c) = none
theorem fl_gth {K : Nat} {f : List Zq.SX} : ∀ {t : Nat}, Fl K f t → t ≤ 1000 → gth K f = gthN K f (1000 - t) t
  | 0, _, _ => rfl
  | t + 1, h, ht => by
    rw [fl_gth (t := t) (fun s hs => h s (by omega)) (by omega)]
    obtain ⟨c, h1, h2⟩ := h t (by omega)
    rw [show 1000 - t = (1000 - (t + 1)) + 1 by omega, gthN, h1]
    simp only [h2]
theorem gth_ret {K t : Nat} {f : List Zq.SX} {c : List Nat} {d : ByteArray} (h : Fl K f t) (ht : t < 1000) (h1 : ith K f.length t = some c) (h2 : gaV (pick f c) = some d) : gth K f = some d := by
  rw [fl_gth h (by omega), show 1000 - t = (1000 - t - 1) + 1 by omega, gthN, h1]
  simp only [h2]
theorem gth_none {K t : Nat} {f : List Zq.SX} (h : Fl K f t) (ht : t ≤ 1000) (h1 : ith K f.length t = none ∨ t = 1000) : gth K f = none := by
  rw [fl_gth h ht]
  rcases h1 with h1 | h1
  · cases hm : 1000 - t with
    | zero => rw [gthN]
    | succ m => rw [gthN, h1]
  · subst h1; rw [gthN]
theorem Fl.snoc {K t : Nat} {f : List Zq.SX} {c : List Nat} (h : Fl K f t) (h1 : ith K f.length t = some c) (h2 : gaV (pick f c) = none) : Fl K f (t + 1) := fun s hs => by
  by_cases e : s < t
  · exact h s e
  · obtain rfl : s = t := by omega
    exact ⟨c, h1, h2⟩
/-! ### Good shards, families -/
open Classical in
noncomputable def gdX (K M : Nat) (i : Nat) (x : RR) : Option Zq.SX :=
  if x.c = 0 ∧ Zq.decOK x.d.data.toList ∧ (Zq.decX x.d.data.toList).k = K ∧ (Zq.decX x.d.data.toList).m = M ∧ (Zq.decX x.d.data.toList).i = i then some (Zq.decX x.d.data.toList) else none
noncomputable def gdL (K M : Nat) (A : List RR) : List Zq.SX := (List.range A.length).filterMap fun i => (A[i]?).bind (gdX K M i)
theorem gdL_snoc (K M : Nat) (A : List RR) (x : RR) : gdL K M (A ++ [x]) = gdL K M A ++ (gdX K M A.length x).toList := by
  rw [gdL, gdL, List.length_append, List.length_singleton, List.range_succ, List.filterMap_append]
  congr 1
  · have : ∀ (l : List Nat), (∀ i ∈ l, i < A.length) → l.filterMap (fun i => ((A ++ [x])[i]?).bind (gdX K M i)) = l.filterMap (fun i => (A[i]?).bind (gdX K M i)) := by
      intro l
      induction l with
      | nil => intro _; rfl
      | cons j r ih =>
        intro h
        rw [List.filterMap_cons, List.filterMap_cons, ih fun i hi => h i (by simp [hi]), List.getElem?_append_left (h j (by simp))]
    exact this _ fun i hi => List.mem_range.1 hi
  · rw [List.filterMap_cons]
    have : (A ++ [x])[A.length]? = some x := by simp
    rw [this]
    simp only [Option.bind_some]
    cases gdX K M A.length x <;> rfl
def ofF (f : List Zq.SX) (x : Zq.SX) : Prop := (lx f 0).long = x.long ∧ (lx f 0).id = x.id
open Classical in
noncomputable def addF : List (List Zq.SX) → Zq.SX → List (List Zq.SX)
  | [], x => [[x]]
  | f :: r, x => if ofF f x then (f ++ [x]) :: r else f :: addF r x
noncomputable def famL (L : List Zq.SX) : List (List Zq.SX) := L.foldl addF []
theorem famL_snoc (L : List Zq.SX) (x : Zq.SX) : famL (L ++ [x]) = addF (famL L) x := by rw [famL, List.foldl_append]; rfl
theorem addF_yes {x : Zq.SX} : ∀ {l : List (List Zq.SX)} {p : Nat} {f : List Zq.SX}, l[p]? = some f → ofF f x → (∀ q g, q < p → l[q]? = some g → ¬ ofF g x) → addF l x = l.set p (f ++ [x])
  | [], p, f, h, _, _ => by simp at h
  | g :: r, 0, f, h, hf, _ => by
    simp at h; subst h
    rw [addF, if_pos hf]; rfl
  | g :: r, p + 1, f, h, hf, hn => by
    have h0 := hn 0 g (by omega) rfl
    rw [addF, if_neg h0, List.set_cons_succ, addF_yes (l := r) (by simpa using h) hf fun q g' hq hg => hn (q + 1) g' (by omega) (by simpa using hg)]
theorem addF_no {x : Zq.SX} : ∀ {l : List (List Zq.SX)}, (∀ g ∈ l, ¬ ofF g x) → addF l x = l ++ [[x]]
  | [], _ => rfl
  | g :: r, hn => by rw [addF, if_neg (hn g (by simp)), addF_no (l := r) fun g' hg => hn g' (by simp [hg])]; rfl
structure FA (l : List (List Zq.SX)) : Prop where
  ne : ∀ f ∈ l, f ≠ []
  ap : ∀ (p q : Nat) (f g : List Zq.SX), l[p]? = some f → l[q]? = some g → p ≠ q → ¬ ofF f (lx g 0)
theorem lx_app {f : List Zq.SX} (h : f ≠ []) (x : Zq.SX) : lx (f ++ [x]) 0 = lx f 0 := by
  cases f with
  | nil => exact absurd rfl h
  | cons y r => rfl
theorem ofF_symm {f g : List Zq.SX} : ofF f (lx g 0) → ofF g (lx f 0) := fun h => ⟨h.1.symm, h.2.symm⟩
theorem FA.add {l : List (List Zq.SX)} (h : FA l) (x : Zq.SX) : FA (addF l x) := by
  by_cases hx : ∃ (p : Nat) (f : List Zq.SX), l[p]? = some f ∧ ofF f x
  · obtain ⟨p, f, hp, hf⟩ := hx
    have hu : ∀ (q : Nat) (g : List Zq.SX), l[q]? = some g → ofF g x → q = p := fun q g hq hg => by
      refine Classical.byContradiction fun hne => h.ap q p g f hq hp hne ⟨?_, ?_⟩
      · rw [hg.1, hf.1]
      · rw [hg.2, hf.2]
    have hpl : p < l.length := (List.getElem?_eq_some_iff.1 hp).1
    have e := addF_yes hp hf fun q g hq hg hof => by have := hu q g hg hof; omega
    rw [e]
    have hfn := h.ne f (List.mem_of_getElem? hp)
    have hat : ∀ (q : Nat) (g : List Zq.SX), (l.set p (f ++ [x]))[q]? = some g → ∃ g', l[q]? = some g' ∧ lx g 0 = lx g' 0 := fun q g hg => by
      rw [List.getElem?_set] at hg
      by_cases e : p = q
      · subst e
        rw [if_pos rfl, if_pos hpl] at hg
        cases hg
        exact ⟨f, hp, lx_app hfn x⟩
      · rw [if_neg e] at hg; exact ⟨g, hg, rfl⟩
    refine ⟨fun g hg => ?_, fun q1 q2 g1 g2 h1 h2 hne hof => ?_⟩
    · rcases List.mem_or_eq_of_mem_set hg with hg | hg
      · exact h.ne g hg
      · rw [hg]; simp
    · obtain ⟨k1, a1, b1⟩ := hat q1 g1 h1
      obtain ⟨k2, a2, b2⟩ := hat q2 g2 h2
      rw [ofF, b1, b2] at hof
      exact h.ap q1 q2 k1 k2 a1 a2 hne hof
  · have hno : ∀ g ∈ l, ¬ ofF g x := fun g hg hof => by
      obtain ⟨p, hp⟩ := List.mem_iff_getElem?.1 hg
      exact hx ⟨p, g, hp, hof⟩
    rw [addF_no hno]
    refine ⟨fun g hg => ?_, fun q1 q2 g1 g2 h1 h2 hne hof => ?_⟩
    · rcases List.mem_append.1 hg with hg | hg
      · exact h.ne g hg
      · simp at hg; subst hg; simp
    · have cs : ∀ (q : Nat) (g : List Zq.SX), (l ++ [[x]])[q]? = some g → (l[q]? = some g) ∨ (q = l.length ∧ g = [x]) := fun q g hg => by
        by_cases hq : q < l.length
        · rw [List.getElem?_append_left hq] at hg; exact .inl hg
        · rw [List.getElem?_append_right (by omega)] at hg
          have : q - l.length = 0 := by have := (List.getElem?_eq_some_iff.1 hg).1; simp at this; omega
          rw [this] at hg
          simp at hg
          exact .inr ⟨by omega, hg.symm⟩
      rcases cs q1 g1 h1 with k1 | ⟨k1, rfl⟩ <;> rcases cs q2 g2 h2 with k2 | ⟨k2, rfl⟩
      · exact h.ap q1 q2 g1 g2 k1 k2 hne hof
      · exact hno g1 (List.mem_of_getElem? k1) hof
      · exact hno g2 (List.mem_of_getElem? k2) (ofF_symm (f := [x]) hof)
      · omega
theorem famL_fa (L : List Zq.SX) : FA (famL L) := by
  have : ∀ (L : List Zq.SX) (l : List (List Zq.SX)), FA l → FA (L.foldl addF l) := by
    intro L
    induction L with
    | nil => intro l h; exact h
    | cons x r ih => intro l h; exact ih _ (h.add x)
  exact this L [] ⟨fun f hf => by simp at hf, fun p q f g hf => by simp at hf⟩
structure FV where
  d : ByteArray
  had : List Zq.SX
  e : Int
open Classical in
noncomputable def fndL (K : Nat) (want : ByteArray) : List (List Zq.SX) → Option (ByteArray × List Zq.SX)
  | [] => none
  | f :: r => if want ≠ ⟨#[]⟩ ∧ (lx f 0).id ≠ want then fndL K want r else match gth K f with
    | some d => some (d, f)
    | none => fndL K want r
def cntC (c : Int) (A : List RR) : Nat := (A.filter fun x => x.c = c).length
def awy : List RR → Int
  | [] => 0
  | x :: r => if x.c = 0 ∨ x.c = 5 then awy r else x.c
def rfs (M : Nat) (A : List RR) : Int := if awy A ≠ 0 ∧ cntC 5 A + cntC 0 A ≤ M then awy A else if 0 < cntC 0 A then 100 else 5
noncomputable def fnd (K M : Nat) (want : ByteArray) (A : List RR) : FV :=
  match fndL K want (famL (gdL K M A)) with
  | some (d, f) => ⟨d, f, 0⟩
  | none => ⟨⟨#[]⟩, [], rfs M A⟩
end Go.Proofs.YtagijldedngcoaaGreatDoor

namespace Go.Proofs.YtagijldedngcoaaGreatDoor
open Go.RowKit Go.Lib Go.Maps
def c1 (c : Int) : List Value := [.int .i64 c]
theorem c1_len (c : Int) : (c1 c).length = 1 := rfl
theorem c1_one (c : Int) : ∀ u ∈ c1 c, u.oneCell' = true := by intro u hu; simp [c1] at hu; subst hu; rfl
theorem Tryz.infoC : (Tryz.prog.info? 33).map (fun i => (i.zero, i.size, i.bytes)) = some (some (.int .i64 0), 1, 8) := by kernel_rfl
def frs (k : List Int) : List Int → Int
  | [] => 0
  | c :: r => if c = 0 ∨ c ∈ k then frs k r else c
def gds : List Int → Nat
  | [] => 0
  | c :: r => (if c = 0 then 1 else 0) + gds r
theorem gds_le : ∀ l : List Int, gds l ≤ l.length
  | [] => Nat.le_refl _
  | c :: r => by have := gds_le r; rw [gds, List.length_cons]; split <;> omega
theorem gds_snoc : ∀ (l : List Int) (c : Int), gds (l ++ [c]) = gds l + if c = 0 then 1 else 0
  | [], c => by simp [gds]
  | d :: r, c => by rw [List.cons_append, gds, gds, gds_snoc r]; omega
theorem drop_at {α : Type} {l : List α} {j : Nat} {x : α} (h : l[j]? = some x) : l.drop j = x :: l.drop (j + 1) := by
  obtain ⟨h1, rfl⟩ := List.getElem?_eq_some_iff.1 h
  exact List.drop_eq_getElem_cons h1
theorem frs_at {k l : List Int} {j : Nat} {c : Int} (h : l[j]? = some c) : frs k (l.drop j) = if c = 0 ∨ c ∈ k then frs k (l.drop (j + 1)) else c := by rw [drop_at h, frs]
section
variable {w : World} {lv kv : Value} {l k : List Int} {r r' : Nat → Prop}
theorem LS.at1 {α : Type} {f : α → List Value} {a : Option Addr} {n c : Nat} {L : List α} (h : LS f 1 r w (.slice a n c) L) {j : Nat} {x : α} {u : Value} (hx : L[j]? = some x) (hu : (f x)[0]? = some u) : ∃ g o, a = some ⟨g, o, none⟩ ∧ g < w.heap.size ∧ w.cell? ⟨g, o + j, none⟩ = some u := by
  obtain ⟨a', c', e, _, h2 | ⟨g, o, ea, _, hg, hG⟩⟩ := h
  · rw [h2] at hx; simp at hx
  · simp only [Value.slice.injEq] at e
    obtain ⟨rfl, rfl, rfl⟩ := e
    have := hG j x hx 0 u hu
    rw [Nat.mul_one, Nat.add_zero] at this
    exact ⟨g, o, ea, hg, this⟩
end
section
variable {w w' : World} {v : Value} {l : List Int} {B : Nat}
theorem cpush (h : OW c1 1 33 B v l w) (c : Int) (hb : (l.length + 1) * 8 ≤ 140737488355328) (hB : B ≤ w.heap.size) :
    ∃ v' w', (Builtin.append_ #[166, 166] 166 #[v, .slice (some ⟨w.heap.size, 0, none⟩) 1 1]).run Tryz.prog (w.alloc (.cells #[.int .i64 c] 33)) = .ok v' w' ∧ OW c1 1 33 B v' (l ++ [c]) w' ∧ Gs (fun i => v.ownBlock = some i) w w' := by
  have hb0 : Below w.heap.size w (w.alloc (.cells #[.int .i64 c] 33)) := (Below.refl _ _).alloc (Nat.le_refl _) _
  obtain ⟨v', w', h1, h2, h3, h4⟩ := OW.app (ST := 166) (m := [c]) (r := fun _ => True) c1_len (by decide) (fun x _ => c1_one x) Tryz.underlying166 Tryz.infoC rfl (h.keep hb0) (LS.one c 33 w c1 1 _ trivial) (by simpa using hb) (by simp; omega) (by simp; omega)
  refine ⟨v', w', h1, h2, ⟨h3.os.trans hb0.os, h3.tape.trans hb0.tape, h3.output.trans hb0.output, Nat.le_trans hb0.size h3.size, fun i hi hn => ?_⟩⟩
  exact (h3.block i (Nat.lt_of_lt_of_le hi hb0.size) (fun e => hn e.symm)).trans (hb0.block i hi)
end
def pq (n : ByteArray) (ds : List ByteArray) : List QT := ds.mapIdx fun i d => ⟨(i : Int), 1, n, d⟩
theorem pq_snoc (n : ByteArray) (ds : List ByteArray) (d : ByteArray) : pq n (ds ++ [d]) = pq n ds ++ [⟨(ds.length : Int), 1, n, d⟩] := by rw [pq, List.mapIdx_concat]; rfl
theorem pq_len (n : ByteArray) (ds : List ByteArray) : (pq n ds).length = ds.length := by simp [pq]
def aq (k : Int) (n d : ByteArray) (m : Nat) : List QT := (List.range m).map fun i : Nat => ⟨(i : Int), k, n, d⟩
theorem aq_snoc (k : Int) (n d : ByteArray) (m : Nat) : aq k n d (m + 1) = aq k n d m ++ [⟨(m : Int), k, n, d⟩] := by rw [aq, List.range_succ, List.map_append]; rfl
theorem aq_len (k : Int) (n d : ByteArray) (m : Nat) : (aq k n d m).length = m := by simp [aq]
end Go.Proofs.YtagijldedngcoaaGreatDoor

namespace Go.Proofs.YtagijldedngcoaaGreatDoor
open Go.RowKit Go.Lib Go.Maps
section
variable {w w' : World} {lv kv av : Value} {l k : List Int} {r r' : Nat → Prop} {X : List (RR × Value)}
theorem mayBe_yes {n : Int} (h1 : 1 ≤ n) (h2 : n ≤ 255) : Calls Tryz.prog 207 #[.int .i64 n] w fun e w' => e = .returned (.bool true) ∧ w' = w := by
  go_enter Tryz.func207, Tryz.ntmps207
  go_wp2
  go_ret
  exact ⟨rfl, rfl⟩
theorem mayBe_no {n : Int} (h : n < 1 ∨ 255 < n) : Calls Tryz.prog 207 #[.int .i64 n] w fun e w' => e = .returned (.bool false) ∧ w' = w := by
  rcases h with h | h
  · have h1 : ¬ 1 ≤ n := by omega
    go_enter Tryz.func207, Tryz.ntmps207
    go_wp2
    go_ret
    exact ⟨rfl, rfl⟩
  · have h1 : 1 ≤ n := by omega
    have h2 : ¬ n ≤ 255 := by omega
    go_enter Tryz.func207, Tryz.ntmps207
    go_wp2
    go_ret
    exact ⟨rfl, rfl⟩
theorem index_any (hk : LS c1 1 r w kv k) (x : Int) (hn : k.length ≤ 4611686018427387904) :
    Calls Tryz.prog 165 #[kv, .int .i64 x] w fun e w' => ∃ q : Int, e = .returned (.int .i64 q) ∧ (0 ≤ q ↔ x ∈ k) ∧ w' = w := by
  obtain ⟨a, c, e⟩ := hk.shp
  subst e
  have HC : Hid (∀ j y, k[j]? = some y → ∃ g o, a = some ⟨g, o, none⟩ ∧ w.cell? ⟨g, o + j, none⟩ = some (.int .i64 y)) := fun j y hy => by
    obtain ⟨g, o, h1, _, h2⟩ := hk.at1 hy rfl
    exact ⟨g, o, h1, h2⟩
  obtain ⟨m, hm⟩ : ∃ m, m = k.length := ⟨_, rfl⟩
  rw [← hm] at hn ⊢
  have HM := hide hm
  clear hm hk
  go_enter Tryz.func165, Tryz.ntmps165
  go_wp2
  go_loopw [8] (fun i wr => ∃ j : Nat, j ≤ m ∧ i = .int .i64 j ∧ x ∉ k.take j ∧ wr = w) (fun i _ => m - (intOf i).toNat)
  case atStart => exact ⟨0, Nat.zero_le _, rfl, by simp, rfl⟩
  case round =>
    obtain ⟨j, hj, rfl, hx0, rfl⟩ := hrel
    by_cases hlt : j < m
    · have b1 : (j : Int) < (m : Int) := by omega
      have b0 : (0 : Int) ≤ (j : Int) := by omega
      obtain ⟨y, hy⟩ : ∃ y, k[j]? = some y := ⟨_, List.getElem?_eq_getElem (by rw [← HM.out]; exact hlt)⟩
      obtain ⟨g, o, rfl, z0⟩ := HC.out j y hy
      by_cases h0 : x = y
      · have HE : Hid (x ∈ k) := by show x ∈ k; rw [h0]; exact List.mem_of_getElem? hy
        clear hx0 hy
        go_wp2
        go_ret
        exact ⟨j, rfl, ⟨fun _ => HE.out, fun _ => by omega⟩, rfl⟩
      · have HE : Hid (x ∉ k.take (j + 1)) := by show x ∉ k.take (j + 1); rw [take_snoc_at hy]; simp [hx0, h0]
        clear hx0 hy
        go_wp2
        exact ⟨⟨j + 1, by omega, by go_num, HE.out, trivial⟩, by simp [intOf]; omega⟩
    · obtain rfl : j = m := by omega
      have e : k.take j = k := List.take_of_length_le (by have := HM.out; omega)
      rw [e] at hx0
      have HE := hide hx0
      clear hx0 e
      go_wp2
      go_ret
      exact ⟨-1, rfl, ⟨fun h => by omega, fun h => absurd h HE.out⟩, rfl⟩
theorem contains_any (hk : LS c1 1 r w kv k) (x : Int) (hn : k.length ≤ 4611686018427387904) :
    Calls Tryz.prog 119 #[kv, .int .i64 x] w fun e w' => e = .returned (.bool (decide (x ∈ k))) ∧ w' = w := by
  have HI := hide (index_any hk x hn)
  obtain ⟨a, c, e⟩ := hk.shp
  subst e
  clear hk
  by_cases h : x ∈ k
  · rw [decide_eq_true h]
    have Hh := hide h
    clear h
    go_enter Tryz.func119, Tryz.ntmps119
    go_wp2_with fail
    refine HI.out.mono ?_
    rintro e w1 ⟨q, rfl, hq, rfl⟩
    have h1 : 0 ≤ q := hq.2 Hh.out
    clear hq
    go_wp2
    go_ret
    exact ⟨rfl, rfl⟩
  · rw [decide_eq_false h]
    have Hh := hide h
    clear h
    go_enter Tryz.func119, Tryz.ntmps119
    go_wp2_with fail
    refine HI.out.mono ?_
    rintro e w1 ⟨q, rfl, hq, rfl⟩
    have h1 : decide (0 ≤ q) = false := decide_eq_false fun h1 => Hh.out (hq.1 h1)
    clear hq
    go_wp2
    go_ret
    exact ⟨rfl, rfl⟩
theorem first_any (hl : LS c1 1 r w lv l) (hk : LS c1 1 r' w kv k) (hn : l.length ≤ 4611686018427387904) (hn2 : k.length ≤ 4611686018427387904) :
    Calls Tryz.prog 118 #[lv, kv] w fun e w' => e = .returned (.int .i64 (frs k l)) ∧ Below w.heap.size w w' := by
  obtain ⟨a, c, e⟩ := hl.shp
  subst e
  have HC : Hid (∀ j x, l[j]? = some x → ∀ wr, Below w.heap.size w wr → ∃ g o, a = some ⟨g, o, none⟩ ∧ wr.cell? ⟨g, o + j, none⟩ = some (.int .i64 x)) := fun j x hx wr hb => by
    obtain ⟨g, o, h1, _, h2⟩ := (hl.bel hb).at1 hx rfl
    exact ⟨g, o, h1, h2⟩
  have HK := hide hk
  obtain ⟨m, hm⟩ : ∃ m, m = l.length := ⟨_, rfl⟩
  rw [← hm] at hn ⊢
  have HM := hide hm
  clear hm hl hk
  go_enter Tryz.func118, Tryz.ntmps118
  go_wp2
  go_loopw [9] (fun i wr => ∃ j : Nat, j ≤ m ∧ i = .int .i64 j ∧ frs k l = frs k (l.drop j) ∧ Below w.heap.size w wr) (fun i _ => m - (intOf i).toNat)
  case atStart => exact ⟨0, Nat.zero_le _, rfl, by rw [List.drop_zero], Below.refl _ _⟩
  case round =>
    obtain ⟨j, hj, rfl, hf, hB⟩ := hrel
    by_cases hlt : j < m
    · have b1 : (j : Int) < (m : Int) := by omega
      have b0 : (0 : Int) ≤ (j : Int) := by omega
      obtain ⟨x, hx⟩ : ∃ x, l[j]? = some x := ⟨_, List.getElem?_eq_getElem (by rw [← HM.out]; exact hlt)⟩
      obtain ⟨g, o, rfl, z0⟩ := HC.out j x hx wr hB
      rw [frs_at hx] at hf
      have HF := hide hf
      have HB := hide hB
      have HK2 := hide (contains_any (HK.out.bel hB) x hn2)
      clear hf hB hx
      by_cases h0 : x = 0
      · go_wp2
        exact ⟨⟨j + 1, by omega, by go_num, by rw [HF.out, if_pos (.inl h0)], HB.out⟩, by simp [intOf]; omega⟩
      · by_cases h1 : x ∈ k
        · rw [decide_eq_true h1] at HK2
          have H1 := hide h1
          clear h1
          go_wp2_with (go_at_call 119; refine HK2.out.mono ?_; rintro e w1 ⟨rfl, rfl⟩)
          exact ⟨⟨j + 1, by omega, by go_num, by rw [HF.out, if_pos (.inr H1.out)], HB.out⟩, by simp [intOf]; omega⟩
        · rw [decide_eq_false h1] at HK2
          have H1 := hide h1
          clear h1
          go_wp2_with (go_at_call 119; refine HK2.out.mono ?_; rintro e w1 ⟨rfl, rfl⟩)
          go_ret
          exact ⟨by rw [HF.out, if_neg (fun h => by rcases h with h | h; exact h0 h; exact H1.out h)]; first | rfl | simp, HB.out⟩
    · obtain rfl : j = m := by omega
      have e : l.drop j = [] := List.drop_eq_nil_of_le (by have := HM.out; omega)
      rw [e] at hf
      have HF := hide hf
      have HB := hide hB
      clear hf hB
      go_wp2
      go_ret
      exact ⟨by rw [HF.out]; rfl, HB.out⟩
theorem codesOf_any (hL : LS x3 3 r w av X) (hS : ∀ x ∈ X, ∃ a n c, x.2 = .slice a n c) (hn : X.length ≤ 1000000) :
    Calls Tryz.prog 209 #[av] w fun e w' => ∃ v, e = .returned v ∧ OW c1 1 33 w.heap.size v (X.map (·.1.c)) w' ∧ Below w.heap.size w w' := by
  obtain ⟨a, c, rfl, h1, h2⟩ := hL
  have HC : Hid (∀ j x, X[j]? = some x → ∀ wr, Below w.heap.size w wr → ∃ g o, a = some ⟨g, o, none⟩ ∧ wr.cell? ⟨g, o + j * 3, none⟩ = some (.int .i64 x.1.c) ∧ wr.cell? ⟨g, o + j * 3 + 1, none⟩ = some (.string x.1.d) ∧ wr.cell? ⟨g, o + j * 3 + 2, none⟩ = some x.2) := fun j x hx wr hb => by
    rcases h2 with h2 | ⟨g, o, ea, hr, hg, hG⟩
    · rw [h2] at hx; simp at hx
    · exact ⟨g, o, ea, (hb.cell (p := ⟨g, o + j * 3, none⟩) hg).trans (hG j x hx 0 _ rfl), (hb.cell (p := ⟨g, o + j * 3 + 1, none⟩) hg).trans (hG j x hx 1 _ rfl), (hb.cell (p := ⟨g, o + j * 3 + 2, none⟩) hg).trans (hG j x hx 2 _ rfl)⟩
  obtain ⟨m, hm⟩ : ∃ m, m = X.length := ⟨_, rfl⟩
  rw [← hm] at hn ⊢
  have HM := hide hm
  have HS := hide hS
  clear hm h1 h2 hS
  go_enter Tryz.func209, Tryz.ntmps209
  go_wp2
  go_loopw [3, 8] (fun v i wr => ∃ j : Nat, j ≤ m ∧ i = .int .i64 j ∧ OW c1 1 33 w.heap.size v ((X.take j).map (·.1.c)) wr ∧ Below w.heap.size w wr) (fun _ i _ => m - (intOf i).toNat)
  case atStart => exact ⟨0, Nat.zero_le _, rfl, by rw [List.take_zero]; exact OW.nil _ _ _ _ _, Below.refl _ _⟩
  case round =>
    obtain ⟨j, hj, rfl, hO, hB⟩ := hrel
    by_cases hlt : j < m
    · have b1 : (j : Int) < (m : Int) := by omega
      have b0 : (0 : Int) ≤ (j : Int) := by omega
      obtain ⟨x, hx⟩ : ∃ x, X[j]? = some x := ⟨_, List.getElem?_eq_getElem (by rw [← HM.out]; exact hlt)⟩
      obtain ⟨g, o, rfl, z0, z1, z2⟩ := HC.out j x hx _ hB
      have hsx := HS.out x (List.mem_of_getElem? hx)
      obtain ⟨xr, xu⟩ := x
      obtain ⟨ua, un, uc, hu⟩ := hsx
      dsimp only at hu z0 z1 z2
      subst hu
      obtain ⟨cc, hcc⟩ : ∃ cc, cc = xr.c := ⟨_, rfl⟩
      obtain ⟨dd, hdd⟩ : ∃ dd, dd = xr.d := ⟨_, rfl⟩
      rw [← hcc] at z0
      rw [← hdd] at z1
      obtain ⟨n5, hn5⟩ : ∃ n5, n5 = wr.heap.size := ⟨_, rfl⟩
      obtain ⟨Zw, hZw⟩ : ∃ Zw, Zw = wr.alloc (.cells #[.int .i64 cc, .string dd, .slice ua un uc] 87) := ⟨_, rfl⟩
      have hZB : Below wr.heap.size wr Zw := by rw [hZw]; exact (Below.refl _ _).alloc (Nat.le_refl _) _
      have hblk : Zw.heap[n5]? = some (.cells #[.int .i64 cc, .string dd, .slice ua un uc] 87 (0, 0)) := by rw [hZw, hn5]; exact heap_alloc_new wr _
      have k0 : Zw.cell? ⟨n5, 0, none⟩ = some (.int .i64 cc) := by simp [World.cell?, hblk]
      obtain ⟨v2, w2, hr1, hO2, hG2⟩ := cpush (hO.keep hZB) cc (by rw [List.length_map, List.length_take]; omega) (Nat.le_trans hB.size hZB.size)
      have HE : Hid (OW c1 1 33 w.heap.size v2 ((X.take (j + 1)).map (·.1.c)) w2 ∧ Below w.heap.size w w2) := by
        refine ⟨?_, hG2.below (hB.trans (hZB.mono hB.size)) (Nat.le_trans hB.size hZB.size) fun i e => (hO.lt i e).1⟩
        rw [take_snoc_at hx, List.map_append]
        show OW c1 1 33 w.heap.size v2 ((X.take j).map (·.1.c) ++ [xr.c]) w2
        rw [← hcc]
        exact hO2
      have HZw := hide hZw
      have Hn5 := hide hn5
      clear hO hB hO2 hG2 hZw hn5 hZB hblk hcc hdd hx
      go_upto_region 5 with fail
      rw [← HZw.out, ← Hn5.out]
      go_wp2_with (at_builtin; refine Lib.wpList_append_run _ rfl _ _ _ _ rfl _ _ rfl rfl _ _ hr1 ?_)
      exact ⟨⟨j + 1, by omega, by go_num, HE.out⟩, by simp [intOf]; omega⟩
    · obtain rfl : j = m := by omega
      have e : X.take j = X := List.take_of_length_le (by have := HM.out; omega)
      rw [e] at hO
      have HE := hide (And.intro hO hB)
      clear hO hB
      go_wp2
      go_ret
      exact ⟨_, rfl, HE.out⟩
end
end Go.Proofs.YtagijldedngcoaaGreatDoor

namespace Go.Proofs.YtagijldedngcoaaGreatDoor
open Go.RowKit Go.Lib Go.Maps
section
variable {α : Type} {f : α → List Value} {K : Nat}
theorem flat_set (hk : ∀ x, (f x).length = K) : ∀ (l : List α) (j k : Nat) (x x' : α) (v : Value), l[j]? = some x → k < K → f x' = (f x).set k v → (l.flatMap f).set (j * K + k) v = (l.set j x').flatMap f
  | [], _, _, _, _, _, h, _, _ => by simp at h
  | y :: r, 0, k, x, x', v, h, hk2, he => by
    simp at h
    subst h
    rw [List.flatMap_cons, List.set_cons_zero, List.flatMap_cons, he, Nat.zero_mul, Nat.zero_add, List.set_append_left _ _ (by rw [hk]; exact hk2)]
  | y :: r, j + 1, k, x, x', v, h, hk2, he => by
    simp at h
    rw [List.flatMap_cons, List.set_cons_succ, List.flatMap_cons, List.set_append_right _ _ (by rw [hk, Nat.add_mul, Nat.one_mul]; omega), hk, show (j + 1) * K + k - K = j * K + k from by rw [Nat.add_mul, Nat.one_mul]; omega, flat_set hk r j k x x' v h hk2 he]
end
theorem wpList_make_run {ops : Array Oper} {rest : List Oper} {op : Oper} {a : Act} {w w1 : World} {Q : Exit → Act → World → Prop} (hgd : op.guard = none) (ty : TypeId) (x y : Operand) (ho : op.op = .makeSlice ty x y)
    (p v u : Value) (hx : a.eval x = p) (hy : a.eval y = v) (hr : (Instr.makeSlice ty p v).run Tryz.prog w = .ok u w1)
    (h : wpList Tryz.prog ops Q rest (a.put op.dst u) w1) : wpList Tryz.prog ops Q (op :: rest) a w :=
  wpList_plain hgd fun _ hK => by
    unfold Oper.wp execOp
    simp only [ho, hx, hy, Sem.run_bind, Sem.run_pure, Result.andThen_ok, hr]
    exact hK _ _ h
def RQL (w : World) (g : Nat) (l : List QT) : Prop := w.heap[g]? = some (.cells (l.flatMap q4).toArray 81 (0, 0))
def q0 : QT := ⟨0, 0, ⟨#[]⟩, ⟨#[]⟩⟩
section
variable {w w' : World} {g j : Nat} {l : List QT} {q : QT} {r : Nat → Prop}
theorem RQL.lt (h : RQL w g l) : g < w.heap.size := lt_of_block h
theorem RQL.set (h : RQL w g l) (hq : l[j]? = some q) (k : Nat) (hk : k < 4) (v : Value) (q' : QT) (he : q4 q' = (q4 q).set k v) : RQL (w.setCell ⟨g, j * 4 + k, none⟩ v) g (l.set j q') := by
  have := heap_set_self (j := j * 4 + k) (u := v) h
  unfold RQL
  rw [← flat_set q4_len l j k q q' v hq hk he]
  simpa using this
theorem RQL.four (h : RQL w g l) (hq : l[j]? = some q) (p : QT) : RQL (w.setCells g (j * 4) [.int .i64 p.st, .int .i64 p.k, .string p.n, .string p.d]) g (l.set j p) := by
  have hl : j < l.length := (List.getElem?_eq_some_iff.1 hq).1
  simp only [World.setCells]
  have e1 := h.set hq 0 (by decide) (.int .i64 p.st) ⟨p.st, q.k, q.n, q.d⟩ rfl
  have e2 := e1.set (j := j) (q := ⟨p.st, q.k, q.n, q.d⟩) (by rw [List.getElem?_set_self hl]) 1 (by decide) (.int .i64 p.k) ⟨p.st, p.k, q.n, q.d⟩ rfl
  have e3 := e2.set (j := j) (q := ⟨p.st, p.k, q.n, q.d⟩) (by rw [List.getElem?_set_self (by simpa using hl)]) 2 (by decide) (.string p.n) ⟨p.st, p.k, p.n, q.d⟩ rfl
  have e4 := e3.set (j := j) (q := ⟨p.st, p.k, p.n, q.d⟩) (by rw [List.getElem?_set_self (by simpa using hl)]) 3 (by decide) (.string p.d) p rfl
  simp only [List.set_set] at e4
  exact e4
theorem RQL.cell (h : RQL w g l) (hq : l[j]? = some q) {k : Nat} (hk : k < 4) {v : Value} (hv : (q4 q)[k]? = some v) : w.cell? ⟨g, j * 4 + k, none⟩ = some v := by
  rw [cell_of_row w g _ _ _ _ h]
  simp only [List.getElem?_toArray]
  rw [flat_get q4_len l j k hk, hq]
  exact hv
theorem RQL.free (h : RQL w g l) (o : Nat) : w.frozen? ⟨g, o, none⟩ = false := by simp [World.frozen?, show w.heap[g]? = _ from h]
theorem RQL.gs (h : RQL w g l) (hr : r g) (c : Nat) : LS q4 4 r w (.slice (some ⟨g, 0, none⟩) l.length c) l := by
  refine ⟨_, _, rfl, (fun e => by cases e), .inr ⟨g, 0, rfl, hr, h.lt, fun i x hx k u hu => ?_⟩⟩
  rw [Nat.zero_add]
  exact h.cell hx (by rw [← q4_len x]; exact (List.getElem?_eq_some_iff.1 hu).1) hu
theorem made_q (n : Nat) : madeCells (Value.agg #[.int .i64 0, .int .i64 0, .string ⟨#[]⟩, .string ⟨#[]⟩]).cells (n * 4) = ((List.replicate n q0).flatMap q4).toArray := by
  apply Array.ext_getElem?
  intro i
  have hz : (Value.agg #[.int .i64 0, .int .i64 0, .string ⟨#[]⟩, .string ⟨#[]⟩]).cells = #[.int .i64 0, .int .i64 0, .string ⟨#[]⟩, .string ⟨#[]⟩] := rfl
  simp only [List.getElem?_toArray]
  have e : i = i / 4 * 4 + i % 4 := by omega
  have hm : i % 4 < 4 := Nat.mod_lt _ (by decide)
  conv => rhs; rw [e, flat_get q4_len _ _ _ hm, List.getElem?_replicate]
  rw [madeCells, hz, Array.getElem?_map]
  by_cases h : i < n * 4
  · rw [if_pos (by omega)]
    have : (Array.range (n * 4))[i]? = some i := by simp [h]
    rw [this]
    have h4 : i % 4 = 0 ∨ i % 4 = 1 ∨ i % 4 = 2 ∨ i % 4 = 3 := by omega
    rcases h4 with h4 | h4 | h4 | h4 <;> simp [h4, q4, q0]
  · rw [if_neg (by omega)]
    have : (Array.range (n * 4))[i]? = none := by simp; omega
    rw [this]
    rfl
theorem run_makeQ (n : Nat) (hn : n ≤ 255) (w : World) : ∃ W, (Instr.makeSlice 198 (.int .i64 (n : Int)) (.int .i64 (n : Int))).run Tryz.prog w = .ok (.slice (some ⟨w.heap.size, 0, none⟩) n n) W ∧ RQL W w.heap.size (List.replicate n q0) ∧ Below w.heap.size w W := by
  obtain ⟨i0, hi, hz0, hz1, hz2⟩ := info_parts Tryz.infoQ
  have hr := run_make (P := Tryz.prog) w 198 81 i0 _ Tryz.underlying198 hi hz0 .i64 .i64 (n : Int) (n : Int) (by omega) (Int.le_refl _) (by rw [hz2]; omega) (by omega)
  rw [hz1] at hr
  simp only [Int.toNat_natCast] at hr
  rw [made_q] at hr
  exact ⟨_, hr, heap_alloc_new w _, (Below.refl _ _).alloc (Nat.le_refl _) _⟩
theorem aq_at {k : Int} {nm d : ByteArray} {n j : Nat} (h : j < n) : (aq k nm d j ++ List.replicate (n - j) q0)[j]? = some q0 := by
  rw [List.getElem?_append_right (by rw [aq_len]; omega), aq_len, Nat.sub_self, List.getElem?_replicate, if_pos (by omega)]
theorem aq_set {k : Int} {nm d : ByteArray} {n j : Nat} (h : j < n) : (aq k nm d j ++ List.replicate (n - j) q0).set j ⟨(j : Int), k, nm, d⟩ = aq k nm d (j + 1) ++ List.replicate (n - (j + 1)) q0 := by
  rw [List.set_append_right _ _ (by rw [aq_len]; omega), aq_len, Nat.sub_self, show n - j = (n - (j + 1)) + 1 from by omega, List.replicate_succ, List.set_cons_zero, aq_snoc, List.append_assoc]
  rfl
theorem toAll_no {n st k : Int} {nm d : ByteArray} (h : n < 1 ∨ 255 < n) : Calls Tryz.prog 163 #[.int .i64 n, .agg #[.int .i64 st, .int .i64 k, .string nm, .string d]] w fun e w' => e = .returned (.slice none 0 0) ∧ Below w.heap.size w w' := by
  have HM := hide (mayBe_no (w := w.alloc (.cells #[.int .i64 st, .int .i64 k, .string nm, .string d] 81)) h)
  clear h
  go_enter Tryz.func163, Tryz.ntmps163
  go_wp2_with (go_at_call 207; refine HM.out.mono ?_; rintro e w1 ⟨rfl, rfl⟩)
  go_ret
  exact ⟨rfl, (Below.refl _ _).alloc (Nat.le_refl _) _⟩
theorem toAll_yes {n : Nat} {st k : Int} {nm d : ByteArray} (h1 : 1 ≤ n) (h2 : n ≤ 255) : Calls Tryz.prog 163 #[.int .i64 (n : Int), .agg #[.int .i64 st, .int .i64 k, .string nm, .string d]] w fun e w' => ∃ g, e = .returned (.slice (some ⟨g, 0, none⟩) n n) ∧ RQL w' g (aq k nm d n) ∧ w.heap.size ≤ g ∧ Below w.heap.size w w' := by
  obtain ⟨U, hU⟩ : ∃ U, U = w.alloc (.cells #[.int .i64 st, .int .i64 k, .string nm, .string d] 81) := ⟨_, rfl⟩
  obtain ⟨bx, hbx⟩ : ∃ bx, bx = w.heap.size := ⟨_, rfl⟩
  have hBU : Below w.heap.size w U := by rw [hU]; exact (Below.refl _ _).alloc (Nat.le_refl _) _
  have hblk : U.heap[bx]? = some (.cells #[.int .i64 st, .int .i64 k, .string nm, .string d] 81 (0, 0)) := by rw [hU, hbx]; exact heap_alloc_new w _
  have HM := hide (mayBe_yes (w := U) (n := (n : Int)) (by omega) (by omega))
  obtain ⟨W, hW, hR, hBW⟩ := run_makeQ n h2 U
  obtain ⟨g, hg⟩ : ∃ g, g = U.heap.size := ⟨_, rfl⟩
  rw [← hg] at hW hR
  have hgb : bx < g := by rw [hg]; exact lt_of_block hblk
  have H0 : Hid (RQL W g (aq k nm d 0 ++ List.replicate (n - 0) q0) ∧ W.heap[bx]? = some (.cells #[.int .i64 st, .int .i64 k, .string nm, .string d] 81 (0, 0)) ∧ Below w.heap.size w W) :=
    ⟨by simpa [aq] using hR, (hBW.block bx (lt_of_block hblk)).trans hblk, hBU.trans (hBW.mono hBU.size)⟩
  have HU := hide hU
  have Hbx := hide hbx
  have Hn := hide (And.intro h1 h2)
  have Hg := hide hg
  have Hgb := hide hgb
  clear hU hbx hBU hblk hR hBW hg hgb h1 h2
  go_enter Tryz.func163, Tryz.ntmps163
  go_upto_region 1 with fail
  rw [← HU.out, ← Hbx.out]
  go_wp2_with (first | (go_at_call 207; refine HM.out.mono ?_; rintro e w1 ⟨rfl, rfl⟩) | (refine wpList_make_run rfl 198 _ _ rfl _ _ _ rfl rfl hW ?_))
  go_loopw [14] (fun i wr => ∃ j : Nat, j ≤ n ∧ i = .int .i64 j ∧ RQL wr g (aq k nm d j ++ List.replicate (n - j) q0) ∧ wr.heap[bx]? = some (.cells #[.int .i64 st, .int .i64 k, .string nm, .string d] 81 (0, 0)) ∧ Below w.heap.size w wr) (fun i _ => n - (intOf i).toNat)
  case atStart => exact ⟨0, Nat.zero_le _, rfl, H0.out⟩
  case round =>
    obtain ⟨j, hj, rfl, hR, hb, hB⟩ := hrel
    have h2 := Hn.out.2
    by_cases hlt : j < n
    · have b1 : (j : Int) < (n : Int) := by omega
      have b0 : (0 : Int) ≤ (j : Int) := by omega
      have y0 : wr.cell? ⟨bx, 0, none⟩ = some (.int .i64 st) := by simp [World.cell?, hb]
      have y1 : wr.cell? ⟨bx, 1, none⟩ = some (.int .i64 k) := by simp [World.cell?, hb]
      have y2 : wr.cell? ⟨bx, 2, none⟩ = some (.string nm) := by simp [World.cell?, hb]
      have y3 : wr.cell? ⟨bx, 3, none⟩ = some (.string d) := by simp [World.cell?, hb]
      have hq0 := aq_at (k := k) (nm := nm) (d := d) hlt
      have hrun := store_run (t := 81) (o := j * 4) hR #[.int .i64 st, .int .i64 k, .string nm, .string d] (by simp [flat_len q4_len, aq_len]; omega) Tryz.sizeQ (by simp [Value.oneCell'])
      obtain ⟨V, hV⟩ : ∃ V, V = wr.setCells g (j * 4) [.int .i64 st, .int .i64 k, .string nm, .string d] := ⟨_, rfl⟩
      simp only [] at hrun
      rw [← hV] at hrun
      have hR1 : RQL V g ((aq k nm d j ++ List.replicate (n - j) q0).set j ⟨st, k, nm, d⟩) := by rw [hV]; exact hR.four hq0 ⟨st, k, nm, d⟩
      have hj2 : j < (aq k nm d j ++ List.replicate (n - j) q0).length := (List.getElem?_eq_some_iff.1 hq0).1
      have z0 : V.cell? ⟨g, j * 4, none⟩ = some (.int .i64 st) := hR1.cell (j := j) (q := ⟨st, k, nm, d⟩) (k := 0) (by rw [List.getElem?_set_self hj2]) (by decide) rfl
      have f0 := hR1.free (j * 4)
      have hR2 := hR1.set (j := j) (q := ⟨st, k, nm, d⟩) (by rw [List.getElem?_set_self hj2]) 0 (by decide) (.int .i64 (j : Int)) ⟨(j : Int), k, nm, d⟩ rfl
      rw [List.set_set, aq_set hlt] at hR2
      have HE : Hid (RQL (V.setCell ⟨g, j * 4, none⟩ (.int .i64 (j : Int))) g (aq k nm d (j + 1) ++ List.replicate (n - (j + 1)) q0) ∧ (V.setCell ⟨g, j * 4, none⟩ (.int .i64 (j : Int))).heap[bx]? = some (.cells #[.int .i64 st, .int .i64 k, .string nm, .string d] 81 (0, 0)) ∧ Below w.heap.size w (V.setCell ⟨g, j * 4, none⟩ (.int .i64 (j : Int)))) := by
        have hG0 : Gs (fun i => i = g) wr V := by rw [hV]; exact Gs.cells _ _ _ (Gs.refl _ _) (.inl rfl)
        have hG : Gs (fun i => i = g) wr (V.setCell ⟨g, j * 4, none⟩ (.int .i64 (j : Int))) := hG0.set1 _ _
        have hgb := Hgb.out
        have hx := Hbx.out
        exact ⟨hR2, (hG.block bx (lt_of_block hb) (by omega)).trans hb, hG.below hB hB.size (fun i e => by omega)⟩
      clear hR hb hB hq0 hV hR1 hj2 hR2
      go_wp2_with (refine wpList_store_run rfl 81 _ _ rfl _ _ rfl rfl hrun ?_)
      exact ⟨⟨j + 1, by omega, by go_num, HE.out⟩, by simp [intOf]; omega⟩
    · obtain rfl : j = n := by omega
      have HE : Hid (RQL wr g (aq k nm d j) ∧ w.heap.size ≤ g ∧ Below w.heap.size w wr) := by
        refine ⟨by simpa using hR, ?_, hB⟩
        have hgb := Hgb.out
        have hx := Hbx.out
        omega
      clear hR hb hB
      go_wp2
      go_ret
      exact ⟨g, rfl, HE.out⟩
end
end Go.Proofs.YtagijldedngcoaaGreatDoor

namespace Go.Proofs.YtagijldedngcoaaGreatDoor
open Go.RowKit Go.Lib
def NR (w : World) (p K : Nat) (X : Nat → Nat) : Prop := w.heap[p]? = some (.cells ((List.range K).map fun i => Value.int .i64 (X i : Nat)).toArray 3 (0, 0))
section
variable {w w' : World} {p K i m n : Nat} {X Y : Nat → Nat}
theorem NR.lt (h : NR w p K X) : p < w.heap.size := lt_of_block h
theorem NR.cell (h : NR w p K X) (hi : i < K) : w.cell? ⟨p, i, none⟩ = some (.int .i64 (X i : Nat)) := by
  rw [cell_of_row w p _ _ _ _ h]
  simp [hi]
theorem NR.free (h : NR w p K X) (o : Nat) : w.frozen? ⟨p, o, none⟩ = false := by simp [World.frozen?, show w.heap[p]? = _ from h]
theorem NR.congr (h : NR w p K X) (e : ∀ i, i < K → X i = Y i) : NR w p K Y := by
  have : (List.range K).map (fun i => Value.int .i64 (X i : Nat)) = (List.range K).map fun i => Value.int .i64 (Y i : Nat) := List.map_congr_left fun i hi => by rw [e i (List.mem_range.1 hi)]
  unfold NR at h ⊢
  rw [h, this]
theorem NR.set (h : NR w p K X) (i v : Nat) : NR (w.setCell ⟨p, i, none⟩ (.int .i64 (v : Nat))) p K (fun j => if j = i then v else X j) := by
  have := heap_set_self (j := i) (u := .int .i64 (v : Nat)) h
  unfold NR
  rw [this]
  congr 2
  apply Array.ext'
  simp only [Array.toList_setIfInBounds]
  apply List.ext_getElem?
  intro j
  rw [List.getElem?_set, List.getElem?_map, List.getElem?_map]
  by_cases hj : j < K
  · rw [List.getElem?_range hj]
    by_cases e : i = j
    · subst e; simp [hj]
    · simp [e, Ne.symm e]
  · rw [List.getElem?_eq_none (by simpa using hj)]
    by_cases e : i = j
    · subst e; simp [hj]
    · simp [e]
theorem NR.gs {q : Nat → Prop} (h : NR w p K X) (hg : Gs q w w') (hp : ¬ q p) : NR w' p K X := (hg.block p h.lt hp).trans h
def upX (X : Nat → Nat) (i m : Nat) (j : Nat) : Nat := if i ≤ j ∧ j < m then X i + 1 + (j - i) else X j
theorem nxI_le {c : List Nat} {n : Nat} : ∀ {i : Nat}, nxI c n (i + 1) = if cat c i + c.length = n + i then nxI c n i else some (c.take i ++ (List.range (c.length - i)).map fun j => cat c i + 1 + j) := by intro i; rw [nxI]
theorem further_any {c : List Nat} (hc : CI K n c) (hR : NR w p K (cat c)) (hK : K ≤ n) (hn : n ≤ 1000) :
    Calls Tryz.prog 234 #[.slice (some ⟨p, 0, none⟩) K K, .int .i64 (n : Nat)] w fun e w' => e = .returned (.bool (nxt c n).isSome) ∧ NR w' p K (cat ((nxt c n).getD c)) ∧ Gs (fun i => i = p) w w' := by
  have HC := hide hc
  have HR := hide hR
  have hKn : ((n : Nat) : Int) - (K : Int) = ((n - K : Nat) : Int) := by omega
  have hk1 : (K : Int) - 1 < 9223372036854775807 := by omega
  clear hc hR
  go_enter Tryz.func234, Tryz.ntmps234
  go_wp2
  go_loopw [5] (fun i wr => ∃ j : Nat, j ≤ K ∧ i = .int .i64 ((j : Int) - 1) ∧ nxt c n = nxI c n j ∧ wr = w) (fun i _ => (intOf i + 1).toNat)
  case atStart => exact ⟨K, Nat.le_refl _, by go_num, by rw [nxt, HC.out.1], rfl⟩
  case round =>
    obtain ⟨j, hj, rfl, he, hw⟩ := hrel
    subst wr
    have HE := hide he
    clear he
    cases j with
    | zero =>
      have HF : Hid (nxt c n = none) := by show nxt c n = none; rw [HE.out, nxI]
      go_wp2
      go_ret
      rw [HF.out]
      exact ⟨rfl, HR.out, Gs.refl _ _⟩
    | succ j =>
      have e1 : ((j + 1 : Nat) : Int) - 1 = (j : Int) := by omega
      rw [e1]
      have z0 := HR.out.cell (i := j) (by omega)
      have f0 := HR.out.free j
      have hcj := HC.out.2 j (by omega)
      have hl := HC.out.1
      have hE := HE.out
      rw [nxI_le, hl] at hE
      have b0 : (0 : Int) ≤ (j : Int) := by omega
      have b1 : (j : Int) < (K : Int) := by omega
      by_cases hq : cat c j + K = n + j
      · rw [if_pos hq] at hE
        have HE2 := hide hE
        have q1 : ((cat c j : Nat) : Int) = (n : Int) - (K : Int) + (j : Int) := by omega
        clear hE hl
        go_wp2
        exact ⟨⟨j, by omega, by go_num, HE2.out, trivial⟩, by simp [intOf]⟩
      · rw [if_neg hq] at hE
        have HE2 := hide hE
        have q1 : ¬ ((cat c j : Nat) : Int) = (n : Int) - (K : Int) + (j : Int) := by omega
        have hN1 := (HR.out.set j (cat c j + 1)).congr (Y := upX (cat c) j (j + 1)) (fun i hi => by
          unfold upX
          by_cases e : i = j
          · subst e; rw [if_pos rfl, if_pos (by omega)]; omega
          · rw [if_neg e, if_neg (by omega)])
        have hG1 : Gs (fun i => i = p) w (w.setCell ⟨p, j, none⟩ (.int .i64 ((cat c j + 1 : Nat) : Int))) := (Gs.refl _ _).set1 _ _
        have q2 : (((cat c j + 1 : Nat)) : Int) = ((cat c j : Nat) : Int) + 1 := by omega
        rw [q2] at hN1 hG1
        have H1 := hide (And.intro hN1 hG1)
        have hb2 : ((cat c j : Nat) : Int) + 1 ≤ 2000 := by omega
        clear hN1 hG1 q2 hE hl HE
        go_wp2
        go_loopw [6] (fun i ws => ∃ m : Nat, j + 1 ≤ m ∧ m ≤ K ∧ i = .int .i64 (m : Nat) ∧ NR ws p K (upX (cat c) j m) ∧ Gs (fun i => i = p) w ws) (fun i _ => K - (intOf i).toNat)
        case atStart => exact ⟨j + 1, Nat.le_refl _, by omega, by go_num, H1.out⟩
        case round =>
          obtain ⟨m, hm1, hm2, rfl, hN, hG⟩ := hrel
          by_cases hlt : m < K
          · have c1 : (m : Int) < (K : Int) := by omega
            have c0 : (0 : Int) ≤ (m : Int) := by omega
            have c2 : (0 : Int) ≤ (m : Int) - 1 := by omega
            have c3 : (m : Int) - 1 < (K : Int) := by omega
            have y0 := hN.cell (i := m - 1) (by omega)
            have y1 := hN.cell (i := m) hlt
            have y2 := hN.free m
            have e2 : upX (cat c) j m (m - 1) = cat c j + (m - j) := by unfold upX; rw [if_pos (by omega)]; omega
            rw [e2] at y0
            have e3 : (((m - 1 : Nat)) : Int) = (m : Int) - 1 := by omega
            have e4 : ((m : Int) - 1).toNat = m - 1 := by omega
            have hN2 := (hN.set m (cat c j + (m - j) + 1)).congr (Y := upX (cat c) j (m + 1)) (fun i hi => by
              unfold upX
              by_cases e : i = m
              · subst e; rw [if_pos rfl, if_pos (by omega)]; omega
              · rw [if_neg e]
                by_cases e2 : j ≤ i ∧ i < m
                · rw [if_pos e2, if_pos (by omega)]
                · rw [if_neg e2, if_neg (by omega)])
            have hG2 : Gs (fun i => i = p) w (wr.setCell ⟨p, m, none⟩ (.int .i64 ((cat c j + (m - j) + 1 : Nat) : Int))) := hG.set1 _ _
            have q3 : (((cat c j + (m - j) + 1 : Nat)) : Int) = ((cat c j + (m - j) : Nat) : Int) + 1 := by omega
            rw [q3] at hN2 hG2
            have H2 := hide (And.intro hN2 hG2)
            have hb3 : ((cat c j + (m - j) : Nat) : Int) ≤ 5000 := by omega
            have hb4 : (0 : Int) ≤ ((cat c j + (m - j) : Nat) : Int) := by omega
            generalize ((cat c j + (m - j) : Nat) : Int) = vv at *
            clear hN hG hN2 hG2 q3 e2
            go_wp2
            exact ⟨⟨m + 1, by omega, by omega, by go_num, H2.out⟩, by simp [intOf]; omega⟩
          · obtain rfl : m = K := by omega
            have HF : Hid (nxt c n = some (c.take j ++ (List.range (m - j)).map fun i => cat c j + 1 + i) ∧ NR wr p m (cat (c.take j ++ (List.range (m - j)).map fun i => cat c j + 1 + i)) ∧ Gs (fun i => i = p) w wr) := by
              refine ⟨HE2.out, hN.congr fun i hi => ?_, hG⟩
              have h1 := cat_up (c := c) (i := j) (j := i) (by have := HC.out.1; omega)
              rw [HC.out.1] at h1
              rw [h1]
              unfold upX
              by_cases e : j ≤ i ∧ i < m
              · rw [if_pos e, if_neg (by omega), if_pos (by omega)]
              · rw [if_neg e, if_pos (by omega)]
            clear hN hG
            go_wp2
            go_ret
            obtain ⟨h1, h2, h3⟩ := HF.out
            rw [h1]
            exact ⟨rfl, h2, h3⟩
end
end Go.Proofs.YtagijldedngcoaaGreatDoor

namespace Go.Proofs.YtagijldedngcoaaGreatDoor
open Go.RowKit Go.Lib
def Stb (B : Nat) (I : Nat → World → Prop) : Prop := ∀ t A A', I t A → Gs (fun i => B ≤ i) A A' → I t A'
def SeqM (gf : Nat) (lb : Array Value) (M : Nat → Prop) (C : Nat → Nat → World → Value → Prop) (S Sp : Nat → Prop) (w : World) : Prop :=
  ∀ (l : Nat) (J Jx : Nat → World → Prop) (W : World), Below w.heap.size w W → w.heap.size ≤ l → l < W.heap.size → Stb W.heap.size J → Stb W.heap.size Jx →
    (∀ t v W1, J t W1 → C W.heap.size t W1 v → W.heap.size ≤ W1.heap.size → YieldAt Fence.wide 0 Tryz.prog l #[v] W1 fun e W' => (e = .returned (.bool true) ∧ J (t + 1) W' ∧ Gs (fun i => M i ∨ i = l) W1 W') ∨ (e = .returned (.bool false) ∧ Jx t W')) →
    J 0 W → CallsIn Fence.wide 0 Tryz.prog gf (#[.func (.yield l) #[] #[]] ++ lb) W fun e W' => (∃ v, e = .returned v) ∧ ((∃ t, S t ∧ J t W') ∨ (∃ t, Sp t ∧ Jx t W'))
def postM (M : Nat → Prop) (I : Nat → World → Prop) (Ix : Code → Nat → World → Prop) (t : Nat) (W : World) : Exit → Act → World → Prop
  | .normal, _, W' => Gs M W W' ∧ I (t + 1) W'
  | .ret, _, W' => Gs M W W' ∧ Ix .ret t W'
  | .exit id, _, W' => Gs M W W' ∧ Ix (.exit id) t W'
  | _, _, _ => False
theorem gs_putObj {W : World} {l : Nat} {o : Obj} : Gs (fun i => i = l) W (W.putObj l o) := (Gs.refl _ W).gb (grownBy_putObj' W l o) (.inl rfl)
theorem range_m {g : Operand} {ps : Array Tmp} {assign body : Code} {Q : Exit → Act → World → Prop} {a : Act} {w : World} {gf : Nat} {lb : Array Value} (hg : a.eval g = .func (.func gf) #[] lb) (eg : ∀ args w, (callFunc gf args).run Tryz.prog w = .ok (.enter gf args) w)
    {M : Nat → Prop} {C : Nat → Nat → World → Value → Prop} {S Sp : Nat → Prop} (hseq : SeqM gf lb M C S Sp w) (hM : ∀ i, M i → i < w.heap.size) (hps : ps.size = 1)
    (hC : ∀ B t A A' v, C B t A v → Gs (fun i => i < B) A A' → C B t A' v)
    (I : Nat → World → Prop) (Ix : Code → Nat → World → Prop) (hI : Stb w.heap.size I) (hIx : ∀ c, Stb w.heap.size (Ix c)) (h0 : I 0 w) (a1 : Value → Act)
    (hassign : ∀ (l : Nat) (v : Value) (W : World) (K : Act → World → Prop), K (a1 v) W → assign.wpIn (Fence.wide.inRound l) 0 Tryz.prog (Exit.then K (fun _ _ _ => False)) { tmps := (ps.zip #[v]).foldl (fun t (p, v) => t.setIfInBounds p v) a.tmps, defers := [] } W)
    (hbody : ∀ (l B t : Nat) (v : Value) (W : World), w.heap.size ≤ l → l < B → B ≤ W.heap.size → I t W → C B t W v → body.wpIn (Fence.wide.inRound l) 0 Tryz.prog (postM M I Ix t W) (a1 v) W)
    (hdone : ∀ (D t : Nat) (W : World), w.heap.size ≤ D → S t → I t W → W.heap[D]? = some (.deferred (some [])) → Q .normal { a with defers := { target := .collected D, args := #[] } :: a.defers } W)
    (hstop : ∀ (D : Nat) (c : Code) (t : Nat) (W : World), w.heap.size ≤ D → Sp t → Ix c t W → W.heap[D]? = some (.deferred (some [])) → c.wpIn Fence.wide 0 Tryz.prog Q { a with defers := { target := .collected D, args := #[] } :: a.defers } W) :
    (Code.rangeFunc g ps assign body).wpIn Fence.wide 0 Tryz.prog Q a w := by
  refine wpIn_rangeFunc fun fn hfn => ?_
  obtain ⟨D, hD⟩ : ∃ D, D = w.heap.size := ⟨_, rfl⟩
  obtain ⟨mk, hmk⟩ : ∃ mk : LoopState → Option Code → Loop, mk = fun st pe => { state := st, pending := pe, fn, tmps := a.tmps, params := ps, assign, body, defers := w.heap.size } := ⟨_, rfl⟩
  obtain ⟨W0, hW0⟩ : ∃ W0, W0 = (w.alloc (.deferred (some []))).alloc (.loop (mk .ready none)) := ⟨_, rfl⟩
  have hs0 : W0.heap.size = D + 2 := by rw [hW0, hD]; simp
  have hl0 : W0.heap[D + 1]? = some (.loop (mk .ready none)) := by
    rw [hW0, hD]; have := World.alloc_heap_new (w.alloc (.deferred (some []))) (.loop (mk .ready none)); rwa [World.size_alloc] at this
  have hd0 : W0.heap[D]? = some (.deferred (some [])) := by
    rw [hW0, hD]; exact (Below.heap_alloc _ _ _ (by simp)).trans (World.alloc_heap_new w _)
  have hb0 : Below w.heap.size w W0 := by rw [hW0]; exact ((Below.refl _ w).alloc (Nat.le_refl _) _).alloc (by simp) _
  refine ⟨D + 1, [{ target := .collected D, args := #[] }], W0, { target := .fn (.func gf) lb, args := #[.func (.yield (D + 1)) #[] #[]] }, W0, gf, #[.func (.yield (D + 1)) #[] #[]] ++ lb, W0, ?_, ?_, fun _ _ => trivial, ?_, fun h => absurd h (by decide), ?_⟩
  · have := run_enterLoop_outer (P := Tryz.prog) (w := w) fn a.tmps ps assign body
    rw [hW0, hD, hmk]
    exact this
  · simp only [resolve, hg]
    simp [go_sem]
  · simp [invoke, go_sem, eg]
  have hst : ∀ {A A' : World} {o : Obj} {k : Nat}, k < D + 2 → A.heap[k]? = some o → Gs (fun i => W0.heap.size ≤ i) A A' → A'.heap[k]? = some o := fun hk ho hG => (hG.block _ (Array.getElem?_eq_some_iff.1 ho).1 (by omega)).trans ho
  have hlow : ∀ {A A' : World}, Gs (fun i => W0.heap.size ≤ i) A A' → Gs (fun i => w.heap.size ≤ i) A A' := fun h => h.mono fun i _ hi => by omega
  refine (hseq (D + 1) (fun t W => I t W ∧ W.heap[D + 1]? = some (.loop (mk .ready none)) ∧ W.heap[D]? = some (.deferred (some [])))
    (fun t W => ∃ c, Ix c t W ∧ W.heap[D + 1]? = some (.loop (mk .done (some c))) ∧ W.heap[D]? = some (.deferred (some []))) W0 hb0 (by omega) (by omega)
    (fun t A A' h hG => ⟨hI t A A' h.1 (hlow hG), hst (by omega) h.2.1 hG, hst (by omega) h.2.2 hG⟩)
    (fun t A A' ⟨c, h1, h2, h3⟩ hG => ⟨c, hIx c t A A' h1 (hlow hG), hst (by omega) h2 hG, hst (by omega) h3 hG⟩) ?_ ⟨hI 0 w W0 h0 (Gs.of_below _ hb0), hl0, hd0⟩).mono ?_
  · rintro t v W ⟨hi, hl, hd⟩ hc hW
    have hlt : D + 1 < W.heap.size := (Array.getElem?_eq_some_iff.1 hl).1
    have hy := run_yield (P := Tryz.prog) (args := #[v]) hl (by rw [hmk]; exact hps.symm)
    rw [hmk] at hy
    refine ⟨fn, _, assign, body, hy, roundIn_of_wpIn hfn (hassign _ v W _ ⟨_, run_beginRound hl (by rw [hmk]), ?_⟩)⟩
    obtain ⟨V, hV⟩ : ∃ V, V = W.putObj (D + 1) (.loop { mk .ready none with state := .busy }) := ⟨_, rfl⟩
    rw [← hV]
    have hgV : Gs (fun i => i = D + 1) W V := by rw [hV]; exact gs_putObj
    have hlV : V.heap[D + 1]? = some (.loop { mk .ready none with state := .busy }) := by rw [hV]; exact World.putObj_heap_same hlt
    have hdV : V.heap[D]? = some (.deferred (some [])) := by rw [hV]; exact (World.putObj_heap_other (by omega)).trans hd
    have hVs := hgV.size
    refine wpIn_mono (hbody (D + 1) W0.heap.size t v V (by omega) (by omega) (by omega) (hI t W V hi (hgV.mono fun i _ e => by omega)) (hC _ t W V v hc (hgV.mono fun i _ e => by omega))) ?_
    have key : ∀ (jump : Option Code) (W3 : World), Gs M V W3 →
        ∃ W4, (Instr.endRound (D + 1) jump).run Tryz.prog W3 = .ok (.bool jump.isNone) W4 ∧ W4.heap[D + 1]? = some (.loop (mk (if jump.isNone then .ready else .done) jump)) ∧ W4.heap[D]? = some (.deferred (some [])) ∧ Gs (fun i => i = D + 1) W3 W4 ∧ Gs (fun i => M i ∨ i = D + 1) W W4 := fun jump W3 hG => by
      have h3 := (hG.block (D + 1) (by omega) (fun e => by have := hM _ e; omega)).trans hlV
      have h4 := (hG.block D (by omega) (fun e => by have := hM _ e; omega)).trans hdV
      have hr := run_endRound (P := Tryz.prog) jump h3
      rw [hmk] at hr ⊢
      refine ⟨_, hr, World.putObj_heap_same (Array.getElem?_eq_some_iff.1 h3).1, (World.putObj_heap_other (by omega)).trans h4, gs_putObj, ?_⟩
      exact ((hgV.mono fun i _ e => .inr e).trans (hG.mono fun i _ e => .inl e)).trans (gs_putObj.mono fun i _ e => .inr e)
    have stp : ∀ {A A' : World}, Gs (fun i => i = D + 1) A A' → Gs (fun i => w.heap.size ≤ i) A A' := fun h => h.mono fun i _ e => by omega
    rintro e a3 W3 hp
    cases e with
    | normal =>
      obtain ⟨hk, hi3⟩ := hp
      obtain ⟨W4, hr, h1, h2, h3, h4⟩ := key none W3 hk
      exact ⟨_, _, hr, .inl ⟨rfl, ⟨hI _ _ _ hi3 (stp h3), h1, h2⟩, h4⟩⟩
    | ret =>
      obtain ⟨hk, hi3⟩ := hp
      obtain ⟨W4, hr, h1, h2, h3, h4⟩ := key (some .ret) W3 hk
      exact ⟨_, _, hr, .inr ⟨rfl, .ret, hIx _ _ _ _ hi3 (stp h3), h1, h2⟩⟩
    | exit id =>
      obtain ⟨hk, hi3⟩ := hp
      obtain ⟨W4, hr, h1, h2, h3, h4⟩ := key (some (.exit id)) W3 hk
      exact ⟨_, _, hr, .inr ⟨rfl, .exit id, hIx _ _ _ _ hi3 (stp h3), h1, h2⟩⟩
    | goto t => exact hp.elim
    | panic ch => exact hp.elim
    | outgrown => exact hp.elim
  · have tail : ∀ {W2 : World} (st : LoopState) (pe : Option Code), st ≠ .busy → W2.heap[D + 1]? = some (.loop (mk st pe)) → W2.heap[D]? = some (.deferred (some [])) → ∃ W4, (Instr.endLoop (D + 1)).run Tryz.prog W2 = .ok pe W4 ∧ Gs (fun i => w.heap.size ≤ i) W2 W4 ∧ W4.heap[D]? = some (.deferred (some [])) := fun st pe hst h1 h2 => by
      have hr := run_endLoop (P := Tryz.prog) h1 (by rw [hmk]; exact hst)
      rw [hmk] at hr
      exact ⟨_, hr, gs_putObj.mono fun i _ e => by omega, (World.putObj_heap_other (by omega)).trans h2⟩
    rintro e W2 ⟨⟨v, rfl⟩, (⟨t, hS, hi, hl, hd⟩ | ⟨t, hSp, c, hi, hl, hd⟩)⟩
    · obtain ⟨W4, hr, hG, hd4⟩ := tail .ready none (by decide) hl hd
      exact ⟨none, W4, hr, hdone D t W4 (by omega) hS (hI _ _ _ hi hG) hd4⟩
    · obtain ⟨W4, hr, hG, hd4⟩ := tail .done (some c) (by decide) hl hd
      exact ⟨some c, W4, hr, hstop D c t W4 (by omega) hSp (hIx c _ _ _ hi hG) hd4⟩
end Go.Proofs.YtagijldedngcoaaGreatDoor
