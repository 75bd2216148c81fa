/-
  Port: all of a list, asked one after the other: the closures' memory, and their contracts.
-/
import Derived.Test.YtepmhgkegfpmjaaPoTold
namespace Go.Proofs.Ytepmhgkegfpmjaa
open Go.RowKit Go.Lib Go.Maps
theorem Gs.und {p : Nat → Prop} {w w' : World} (h : Gs p w.drew w') : Gs p w w' := ⟨h.os, h.tape, h.output, h.size, h.block⟩
/-- What the closures of All keep. -/
structure CL (r : Nat → Prop) (w : World) (b : Nat) (l : List QT) (X : List (RR × Value)) (a1 a2 a3 a4 a5 : Nat) (tv rv av : Value) : Prop where
  h1 : w.heap[a1]? = some (.cells #[.pointer (some ⟨b, 0, none⟩)] 68 (0, 0))
  h2 : w.heap[a2]? = some (.cells #[tv] 79 (0, 0))
  h3 : w.heap[a3]? = some (.cells #[rv] 22 (0, 0))
  h4 : w.heap[a4]? = some (.cells #[av] 23 (0, 0))
  h5 : w.heap[a5]? = some (.cells #[.func (.func 47) #[] #[.pointer (some ⟨a4, 0, none⟩), .pointer (some ⟨a3, 0, none⟩), .pointer (some ⟨a1, 0, none⟩), .pointer (some ⟨a5, 0, none⟩), .pointer (some ⟨a2, 0, none⟩)]] 1 (0, 0))
  q : LS q4 4 r w rv l
  o : OW x3 3 45 0 av X w
  ns : ∀ x ∈ X, LS t1 1 r w x.2 x.1.l
  r1 : r a1
  r2 : r a2
  r3 : r a3
  r5 : r a5
  nb : ¬ r b
  n4 : ¬ r a4
  no : ∀ i, av.ownBlock = some i → ¬ r i
  rl : ∀ i, r i → i < w.heap.size
section
variable {r r' p : Nat → Prop} {w w' : World} {b a1 a2 a3 a4 a5 : Nat} {l : List QT} {X : List (RR × Value)} {tv rv av : Value} {st k s c N : Int} {n d : ByteArray} {go ids tx : Value} {op : Bool}
theorem CL.kb (h : CL r w b l X a1 a2 a3 a4 a5 tv rv av) (hs : w.heap.size ≤ w'.heap.size) (hk : ∀ i, i < w.heap.size → r i → w'.heap[i]? = w.heap[i]?) (h4 : w'.heap[a4]? = w.heap[a4]?) (ho : ∀ i, av.ownBlock = some i → w'.heap[i]? = w.heap[i]?) : CL r w' b l X a1 a2 a3 a4 a5 tv rv av :=
  ⟨(hk a1 (lt_of_block h.h1) h.r1).trans h.h1, (hk a2 (lt_of_block h.h2) h.r2).trans h.h2, (hk a3 (lt_of_block h.h3) h.r3).trans h.h3, h4.trans h.h4, (hk a5 (lt_of_block h.h5) h.r5).trans h.h5, h.q.kb hs fun i hr hi => hk i hi hr, h.o.kb ho, fun x hx => (h.ns x hx).kb hs fun i hr hi => hk i hi hr, h.r1, h.r2, h.r3, h.r5, h.nb, h.n4, h.no, fun i hi => Nat.lt_of_lt_of_le (h.rl i hi) hs⟩
theorem CL.bel (h : CL r w b l X a1 a2 a3 a4 a5 tv rv av) (hb : Below w.heap.size w w') : CL r w' b l X a1 a2 a3 a4 a5 tv rv av :=
  h.kb hb.size (fun i hi _ => hb.block i hi) (hb.block _ (lt_of_block h.h4)) (fun i hi => hb.block i (h.o.lt i hi).2)
theorem CL.b4 (h : CL r w b l X a1 a2 a3 a4 a5 tv rv av) (hJ : JB w b op st k n d go c N ids tx s) : b ≠ a4 := fun e => by
  have h4 := h.h4
  rw [← e, show w.heap[b]? = _ from hJ] at h4
  simp at h4
theorem CL.bo (h : CL r w b l X a1 a2 a3 a4 a5 tv rv av) (hJ : JB w b op st k n d go c N ids tx s) : av.ownBlock ≠ some b := fun e => by
  obtain ⟨cs, h4⟩ := h.o.typ b e
  rw [show w.heap[b]? = _ from hJ] at h4
  simp at h4
theorem CL.o4 (h : CL r w b l X a1 a2 a3 a4 a5 tv rv av) : av.ownBlock ≠ some a4 := fun e => by
  obtain ⟨cs, h4⟩ := h.o.typ a4 e
  rw [h.h4] at h4
  simp at h4
theorem CL.gb (h : CL r w b l X a1 a2 a3 a4 a5 tv rv av) (hJ : JB w b op st k n d go c N ids tx s) (hg : Gs (fun i => i = b) w w') : CL r w' b l X a1 a2 a3 a4 a5 tv rv av :=
  h.kb hg.size (fun i hi hr => hg.block i hi (fun e => h.nb (e ▸ hr))) (hg.block _ (lt_of_block h.h4) (fun e => h.b4 hJ e.symm)) (fun i hi => hg.block i (h.o.lt i hi).2 (fun e => h.bo hJ (e ▸ hi)))
theorem CL.cq (h : CL r w b l X a1 a2 a3 a4 a5 tv rv av) {j : Nat} {q : QT} (hq : l[j]? = some q) : ∃ g o c', rv = .slice (some ⟨g, o, none⟩) l.length c' ∧ w.cell? ⟨g, o + j * 4, none⟩ = some (.int .i64 q.st) ∧ w.cell? ⟨g, o + j * 4 + 1, none⟩ = some (.int .i64 q.k) ∧ w.cell? ⟨g, o + j * 4 + 2, none⟩ = some (.string q.n) ∧ w.cell? ⟨g, o + j * 4 + 3, none⟩ = some (.string q.d) := by
  obtain ⟨a, c, e, _, h | ⟨g, o, ea, _, _, hG⟩⟩ := h.q
  · rw [h] at hq; simp at hq
  · exact ⟨g, o, c, by rw [e, ea], hG j q hq 0 _ rfl, hG j q hq 1 _ rfl, hG j q hq 2 _ rfl, hG j q hq 3 _ rfl⟩

set_option maxRecDepth 100000 in
set_option maxHeartbeats 3200000 in
theorem next_ask (h : CL r w b l X a1 a2 a3 a4 a5 tv rv av) (hJ : JB w b true st k n d .nilFunc c N ids tx s) {q : QT} (hq : l[X.length]? = some q) :
    Calls Try.prog 47 #[.pointer (some ⟨a4, 0, none⟩), .pointer (some ⟨a3, 0, none⟩), .pointer (some ⟨a1, 0, none⟩), .pointer (some ⟨a5, 0, none⟩), .pointer (some ⟨a2, 0, none⟩)] w fun e w' => e = .returned (.tuple #[]) ∧ JB w' b true q.st q.k q.n q.d (.func (.func 49) #[] #[.pointer (some ⟨a4, 0, none⟩), .pointer (some ⟨a5, 0, none⟩)]) c N ids tx s ∧ Gs (fun i => i = b) w w' := by
  obtain ⟨g, o, cr, rfl, z0, z1, z2, z3⟩ := h.cq hq
  obtain ⟨aa, ca, hav⟩ := h.o.shp
  have y4 : w.cell? ⟨a4, 0, none⟩ = some av := by simp [World.cell?, h.h4]
  have y3 : w.cell? ⟨a3, 0, none⟩ = some (.slice (some ⟨g, o, none⟩) l.length cr) := by simp [World.cell?, h.h3]
  have y1 : w.cell? ⟨a1, 0, none⟩ = some (.pointer (some ⟨b, 0, none⟩)) := by simp [World.cell?, h.h1]
  have HK : Hid (∀ w1, Gs (fun i => i = b) w.drew w1 → w1.cell? ⟨a4, 0, none⟩ = some (.slice aa X.length ca) ∧ w1.cell? ⟨a3, 0, none⟩ = some (.slice (some ⟨g, o, none⟩) l.length cr) ∧ w1.cell? ⟨a1, 0, none⟩ = some (.pointer (some ⟨b, 0, none⟩)) ∧ w1.cell? ⟨g, o + X.length * 4, none⟩ = some (.int .i64 q.st) ∧ w1.cell? ⟨g, o + X.length * 4 + 1, none⟩ = some (.int .i64 q.k) ∧ w1.cell? ⟨g, o + X.length * 4 + 2, none⟩ = some (.string q.n) ∧ w1.cell? ⟨g, o + X.length * 4 + 3, none⟩ = some (.string q.d)) := fun w1 hg => by
    have h1 := CL.gb (w := w) h hJ (w' := w1) ⟨hg.os, hg.tape, hg.output, hg.size, hg.block⟩
    obtain ⟨g', o', cr', e', q0, q1, q2, q3⟩ := h1.cq hq
    cases e'
    exact ⟨by simp [World.cell?, h1.h4, hav], by simp [World.cell?, h1.h3], by simp [World.cell?, h1.h1], q0, q1, q2, q3⟩
  have hxl : X.length < l.length := (List.getElem?_eq_some_iff.1 hq).1
  rw [hav] at y4
  obtain ⟨m, hm⟩ : ∃ m, m = X.length := ⟨_, rfl⟩
  obtain ⟨ll, hll⟩ : ∃ ll, ll = l.length := ⟨_, rfl⟩
  rw [← hm, ← hll] at hxl
  rw [← hm] at z0 z1 z2 z3 y4 HK
  rw [← hll] at y3 HK
  have b1 : (m : Int) < (ll : Int) := by omega
  have b0 : (0 : Int) ≤ (m : Int) := by omega
  have hmf : ∀ (fn : Fn) (first cap : Array Value) (w : World), (Instr.makeFunc fn first cap).run Try.prog w = .ok (.func fn first cap) w := fun _ _ _ _ => rfl
  have HA : Hid _ := hide (ask_any (w := w.drew) hJ q.st q.k q.n q.d (.func 49) #[] #[.pointer (some ⟨a4, 0, none⟩), .pointer (some ⟨a5, 0, none⟩)])
  generalize q.st = qs at *
  generalize q.k = qk at *
  generalize q.n = qn at *
  generalize q.d = qd at *
  clear h hJ hav hq hm hll
  go_enter Try.func47, Try.ntmps47
  go_upto_region 1 with fail
  go_region_held3 (fun w' => w'.cell? ⟨a4, 0, none⟩ = some (.slice aa m ca) ∧ w'.cell? ⟨a3, 0, none⟩ = some (.slice (some ⟨g, o, none⟩) ll cr) ∧ w'.cell? ⟨a1, 0, none⟩ = some (.pointer (some ⟨b, 0, none⟩)) ∧ w'.cell? ⟨g, o + m * 4, none⟩ = some (.int .i64 qs) ∧ w'.cell? ⟨g, o + m * 4 + 1, none⟩ = some (.int .i64 qk) ∧ w'.cell? ⟨g, o + m * 4 + 2, none⟩ = some (.string qn) ∧ w'.cell? ⟨g, o + m * 4 + 3, none⟩ = some (.string qd)) (first | assumption | exact ⟨by assumption, by assumption, by assumption, by assumption, by assumption, by assumption, by assumption⟩)
    (first | (go_at_call 48; refine HA.out.mono ?_; rintro e w1 ⟨rfl, hJ1, hG1⟩; obtain ⟨k1, k2, k3, k4, k5, k6, k7⟩ := HK.out w1 hG1; have HF := hide (And.intro hJ1 hG1); clear hJ1 hG1))
  go_wp2
  go_end0
  exact ⟨rfl, HF.out.1, HF.out.2.und⟩
set_option maxRecDepth 100000 in
set_option maxHeartbeats 3200000 in
/-- The job's result is told: the last closure of List. -/
theorem list_end {i1 : Nat} (h6 : w.heap[i1]? = some (.cells #[.pointer (some ⟨b, 0, none⟩)] 68 (0, 0))) (hJ : JB w b true st k n d go c N ids tx s) (hL : LS x3 3 r w av X) (hN : ∀ x ∈ X, LS t1 1 r w x.2 x.1.l) (hn : X.length ≤ 1000000) (hIl : (resI (X.map (·.1))).length ≤ 1000000000000) :
    Calls Try.prog 32 #[av, .pointer (some ⟨i1, 0, none⟩)] w fun e w' => e = .returned (.tuple #[]) ∧ ∃ ids tx, JB w' b false 0 0 ⟨#[]⟩ ⟨#[]⟩ .nilFunc (resC (X.map (·.1))) ((resN (X.map (·.1)) : Nat) : Int) ids tx s ∧ TS w.heap.size ids (resI (X.map (·.1))) w' ∧ TS w.heap.size tx (resT (X.map (·.1))) w' ∧ Gs (fun i => i = b) w w' := by
  have hib : i1 ≠ b := fun e => by
    rw [e, show w.heap[b]? = _ from hJ] at h6
    simp at h6
  have y1 : w.cell? ⟨i1, 0, none⟩ = some (.pointer (some ⟨b, 0, none⟩)) := by simp [World.cell?, h6]
  have HT := hide (told_any (w := w.drew) hL hN hn hIl)
  obtain ⟨A, hA⟩ : ∃ A, A = X.map (·.1) := ⟨_, rfl⟩
  have hAl : A.length ≤ 1000000 := by rw [hA]; simpa using hn
  rw [← hA] at HT hIl ⊢
  have HK : Hid (∀ w1, Below w.drew.heap.size w.drew w1 → w1.cell? ⟨i1, 0, none⟩ = some (.pointer (some ⟨b, 0, none⟩))) := fun w1 hb => (hb.cell (p := ⟨i1, 0, none⟩) (lt_of_block h6)).trans y1
  have HE : Hid (∀ w1 ids tx, TS w.drew.heap.size ids (resI A) w1 → TS w.drew.heap.size tx (resT A) w1 → Below w.drew.heap.size w.drew w1 → Calls Try.prog 33 #[.pointer (some ⟨b, 0, none⟩), .agg #[.int .i64 (resC A), .string ⟨#[]⟩, .int .i64 ((resN A : Nat) : Int), ids, tx, .slice none 0 0, .slice none 0 0]] w1 fun e w' => e = .returned (.tuple #[]) ∧ w'.cell? ⟨i1, 0, none⟩ = some (.pointer (some ⟨b, 0, none⟩)) ∧ Hid (∃ ids tx, JB w' b false 0 0 ⟨#[]⟩ ⟨#[]⟩ .nilFunc (resC A) ((resN A : Nat) : Int) ids tx s ∧ TS w.heap.size ids (resI A) w' ∧ TS w.heap.size tx (resT A) w' ∧ Gs (fun i => i = b) w w')) := fun w1 ids tx h1 h2 hb => by
    have hJ1 : JB w1 b true st k n d go c N _ _ s := JB.bel (w := w.drew) hJ hb
    refine (end_on (r := fun _ => True) hJ1 (h1.ls fun _ _ => trivial) (h2.ls fun _ _ => trivial) hIl (by rw [resT_len]; omega)).mono ?_
    rintro e w' ⟨rfl, ids', tx', hJ2, hT1, hT2, hG⟩
    have hbs : w.heap.size ≤ w1.heap.size := hb.size
    have hi1 : i1 < w1.heap.size := Nat.lt_of_lt_of_le (lt_of_block h6) hbs
    refine ⟨rfl, ?_, ids', tx', hJ2, hT1.low hbs, hT2.low hbs, ((Gs.of_below _ hb).trans hG).und⟩
    have e1 := hG.block i1 hi1 hib
    simp only [World.cell?, e1]
    exact HK.out w1 hb
  generalize resC A = rc at *
  generalize ((resN A : Nat) : Int) = rn at *
  clear h6 hJ hL hN hn hA hAl
  go_enter Try.func32, Try.ntmps32
  go_upto_region 0 with fail
  go_region_held3 (fun w' => w'.cell? ⟨i1, 0, none⟩ = some (.pointer (some ⟨b, 0, none⟩))) (first | assumption)
    (first | (go_at_call 34; refine HT.out.mono ?_; rintro e w1 ⟨jds, jx, rfl, hT1, hT2, hB1⟩; have k1 := HK.out w1 hB1) | (go_at_call 33; refine (HE.out _ _ _ (by assumption) (by assumption) (by assumption)).mono ?_; rintro e w2 ⟨rfl, k2, hF⟩))
  all_goals (go_wp2; go_end0; exact ⟨rfl, hF.out⟩)
set_option maxRecDepth 100000 in
set_option maxHeartbeats 3200000 in
theorem next_end {i1 : Nat} (h : CL r w b l X a1 a2 a3 a4 a5 (.func (.func 32) #[] #[.pointer (some ⟨i1, 0, none⟩)]) rv av) (h6 : w.heap[i1]? = some (.cells #[.pointer (some ⟨b, 0, none⟩)] 68 (0, 0))) (hJ : JB w b true st k n d go c N ids tx s) (hxl : X.length = l.length) (hl : l.length ≤ 1000000) (hIl : (resI (X.map (·.1))).length ≤ 1000000000000) :
    Calls Try.prog 47 #[.pointer (some ⟨a4, 0, none⟩), .pointer (some ⟨a3, 0, none⟩), .pointer (some ⟨a1, 0, none⟩), .pointer (some ⟨a5, 0, none⟩), .pointer (some ⟨a2, 0, none⟩)] w fun e w' => e = .returned (.tuple #[]) ∧ ∃ ids tx, JB w' b false 0 0 ⟨#[]⟩ ⟨#[]⟩ .nilFunc (resC (X.map (·.1))) ((resN (X.map (·.1)) : Nat) : Int) ids tx s ∧ TS w.heap.size ids (resI (X.map (·.1))) w' ∧ TS w.heap.size tx (resT (X.map (·.1))) w' ∧ Gs (fun i => i = b) w w' := by
  obtain ⟨aa, ca, hav⟩ := h.o.shp
  obtain ⟨ar, cr, hrv⟩ := h.q.shp
  have y4 : w.cell? ⟨a4, 0, none⟩ = some av := by simp [World.cell?, h.h4]
  have y3 : w.cell? ⟨a3, 0, none⟩ = some rv := by simp [World.cell?, h.h3]
  have y2 : w.cell? ⟨a2, 0, none⟩ = some (.func (.func 32) #[] #[.pointer (some ⟨i1, 0, none⟩)]) := by simp [World.cell?, h.h2]
  have HE := hide (list_end h6 hJ (h.o.ls (r := fun _ => True) x3_len fun _ _ => trivial) (fun x hx => (h.ns x hx).mono (fun _ _ => trivial)) (by omega) hIl)
  rw [hav] at y4 HE
  rw [hrv] at y3
  rw [hxl] at y4 HE
  obtain ⟨ll, hll⟩ : ∃ ll, ll = l.length := ⟨_, rfl⟩
  rw [← hll] at y3 y4 HE hl
  have b1 : ¬ (ll : Int) < (ll : Int) := by omega
  obtain ⟨g1, g2, g3, g4⟩ := fe79
  clear h h6 hJ hxl hIl hav hrv hll
  go_enter Try.func47, Try.ntmps47
  go_wp2_with fail
  refine HE.out.mono ?_
  rintro e w1 ⟨rfl, hF⟩
  have HF := hide hF
  clear hF
  go_wp2
  go_end0
  exact ⟨rfl, HF.out⟩
theorem x3_one {x : RR × Value} (h : ∃ a n c, x.2 = .slice a n c) : ∀ u ∈ x3 x, u.oneCell' = true := by
  obtain ⟨a, n, c, e⟩ := h
  intro u hu
  simp only [x3, List.mem_cons, List.not_mem_nil, or_false] at hu
  rcases hu with rfl | rfl | rfl
  · rfl
  · rfl
  · rw [e]; rfl
/-- The blocks that an answer may turn. -/
def mu (b a4 : Nat) (av : Value) (i : Nat) : Prop := i = b ∨ i = a4 ∨ av.ownBlock = some i
/-- An answer more. -/
theorem CL.app (h : CL r w b l X a1 a2 a3 a4 a5 tv rv av) (hJ : JB w b op st k n d go c N ids tx s) (x : RR × Value) (hx : LS t1 1 r w x.2 x.1.l) (hl : X.length ≤ 1000000) :
    ∃ v' w', (Builtin.append_ #[23, 23] 23 #[av, .slice (some ⟨w.heap.size, 0, none⟩) 1 1]).run Try.prog (w.alloc (.cells #[.int .i64 x.1.c, .string x.1.d, x.2] 45)) = .ok v' w' ∧ (∃ a n c, v' = .slice a n c) ∧ w'.heap[a4]? = some (.cells #[av] 23 (0, 0)) ∧ CL r (w'.setCell ⟨a4, 0, none⟩ v') b l (X ++ [x]) a1 a2 a3 a4 a5 tv rv v' ∧ JB (w'.setCell ⟨a4, 0, none⟩ v') b op st k n d go c N ids tx s ∧ Gs (mu b a4 av) w (w'.setCell ⟨a4, 0, none⟩ v') ∧ (v'.ownBlock = av.ownBlock ∨ v'.ownBlock = some (w.heap.size + 1)) := by
  have hb : Below w.heap.size w (w.alloc (.cells #[.int .i64 x.1.c, .string x.1.d, x.2] 45)) := (Below.refl _ _).alloc (Nat.le_refl _) _
  have hsx : ∃ a n c, x.2 = .slice a n c := by obtain ⟨a, c, e⟩ := hx.shp; exact ⟨a, _, c, e⟩
  have hLS : LS x3 3 (fun _ => True) (w.alloc (.cells #[.int .i64 x.1.c, .string x.1.d, x.2] 45)) (.slice (some ⟨w.heap.size, 0, none⟩) 1 1) [x] := LS.one x 45 w x3 3 _ trivial
  obtain ⟨v', w', h1, h2, h3, h4⟩ := OW.app (ST := 23) x3_len (by decide) (fun y hy => by simp at hy; subst hy; exact x3_one hsx) Try.underlying23 Try.infoA rfl (h.o.keep hb) hLS (by simp; omega) (by simp; omega) (Nat.zero_le _)
  have h4' : v'.ownBlock = av.ownBlock ∨ v'.ownBlock = some (w.heap.size + 1) := by simpa using h4
  have hw : ∀ i, i < w.heap.size → av.ownBlock ≠ some i → w'.heap[i]? = w.heap[i]? := fun i hi2 hn => (h3.block i (by simp; omega) (fun e => hn e.symm)).trans (hb.block i hi2)
  have hk : ∀ i, i ≠ a4 → (w'.setCell ⟨a4, 0, none⟩ v').heap[i]? = w'.heap[i]? := fun i hi => heap_setCell_other w' ⟨a4, 0, none⟩ i _ hi
  have hsz : w.heap.size + 1 ≤ w'.heap.size := by have := h3.size; simpa using this
  have h4w : w'.heap[a4]? = some (.cells #[av] 23 (0, 0)) := (hw a4 (lt_of_block h.h4) h.o4).trans h.h4
  have hr : ∀ i, i < w.heap.size → r i → (w'.setCell ⟨a4, 0, none⟩ v').heap[i]? = w.heap[i]? := fun i hi hr => (hk i (fun e => h.n4 (e ▸ hr))).trans (hw i hi (fun e => h.no i e hr))
  have hsz2 : w.heap.size ≤ (w'.setCell ⟨a4, 0, none⟩ v').heap.size := by simp; omega
  have ho4 : v'.ownBlock ≠ some a4 := fun e => by
    obtain ⟨cs, hcs⟩ := h2.typ a4 e
    rw [h4w] at hcs
    simp at hcs
  refine ⟨v', w', h1, ?_, h4w, ⟨(hr a1 (lt_of_block h.h1) h.r1).trans h.h1, (hr a2 (lt_of_block h.h2) h.r2).trans h.h2, (hr a3 (lt_of_block h.h3) h.r3).trans h.h3, heap_set_self h4w, (hr a5 (lt_of_block h.h5) h.r5).trans h.h5, h.q.kb hsz2 fun i hri hi => hr i hi hri, h2.kb fun i hi => hk i (fun e => ho4 (e ▸ hi)), ?_, h.r1, h.r2, h.r3, h.r5, h.nb, h.n4, ?_, fun i hi => Nat.lt_of_lt_of_le (h.rl i hi) hsz2⟩, ?_, ?_, h4'⟩
  · obtain ⟨a, c, e⟩ := h2.shp; exact ⟨a, _, c, e⟩
  · intro y hy
    rcases List.mem_append.1 hy with hy | hy
    · exact (h.ns y hy).kb hsz2 fun i hri hi => hr i hi hri
    · simp at hy; subst hy; exact hx.kb hsz2 fun i hri hi => hr i hi hri
  · intro i hi hri
    rcases h4' with e | e
    · rw [e] at hi; exact h.no i hi hri
    · rw [e] at hi; simp at hi; have := h.rl i hri; omega
  · exact (hk b (h.b4 hJ)).trans ((hw b hJ.lt (h.bo hJ)).trans hJ)
  · refine ⟨h3.os.trans rfl, h3.tape.trans rfl, h3.output.trans rfl, hsz2, fun i hi hn => ?_⟩
    exact (hk i (fun e => hn (.inr (.inl e)))).trans (hw i hi (fun e => hn (.inr (.inr e))))

/-- The closures of a list's job. -/
structure JW (r : Nat → Prop) (w : World) (b : Nat) (l : List QT) (X : List (RR × Value)) (a1 a2 a3 a4 a5 i1 : Nat) (rv av : Value) : Prop where
  cl : CL r w b l X a1 a2 a3 a4 a5 (.func (.func 32) #[] #[.pointer (some ⟨i1, 0, none⟩)]) rv av
  h6 : w.heap[i1]? = some (.cells #[.pointer (some ⟨b, 0, none⟩)] 68 (0, 0))
  r6 : r i1
theorem JW.gb {i1 : Nat} (h : JW r w b l X a1 a2 a3 a4 a5 i1 rv av) (hJ : JB w b op st k n d go c N ids tx s) (hg : Gs (fun i => i = b) w w') : JW r w' b l X a1 a2 a3 a4 a5 i1 rv av :=
  ⟨h.cl.gb hJ hg, (hg.block i1 (lt_of_block h.h6) (fun e => h.cl.nb (e ▸ h.r6))).trans h.h6, h.r6⟩
end
end Go.Proofs.Ytepmhgkegfpmjaa
