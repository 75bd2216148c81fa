/-
  Contracts of the program and of the statements (part 15 of 27).
-/
import Derived.Test.YtagijldedngcoaaGreatDoorOg14
import Derived.Test.YtagijldedngcoaaGreatDoorOg13
set_option maxRecDepth 100000
set_option maxHeartbeats 3200000

namespace Go.Proofs.YtagijldedngcoaaGreatDoor
open Go.RowKit Go.Lib Go.Maps
theorem Gs.und {p : Nat → Prop} {w w' : World} (h : Gs p w.drew w') : Gs p w w' := ⟨h.os, h.tape, h.output, h.size, h.block⟩
structure CL (r : Nat → Prop) (w : World) (b : Nat) (l : List QT) (X : List (RR × Value)) (a1 a2 a3 a4 a5 : Nat) (tv rv av : Value) : Prop where
  h1 : w.heap[a1]? = some (.cells #[.pointer (some ⟨b, 0, none⟩)] 99 (0, 0))
  h2 : w.heap[a2]? = some (.cells #[tv] 200 (0, 0))
  h3 : w.heap[a3]? = some (.cells #[rv] 198 (0, 0))
  h4 : w.heap[a4]? = some (.cells #[av] 170 (0, 0))
  h5 : w.heap[a5]? = some (.cells #[.func (.func 168) #[] #[.pointer (some ⟨a4, 0, none⟩), .pointer (some ⟨a3, 0, none⟩), .pointer (some ⟨a1, 0, none⟩), .pointer (some ⟨a5, 0, none⟩), .pointer (some ⟨a2, 0, none⟩)]] 1 (0, 0))
  q : LS q4 4 r w rv l
  o : OW x3 3 87 0 av X w
  ns : ∀ x ∈ X, LS t1 1 r w x.2 x.1.l
  r1 : r a1
  r2 : r a2
  r3 : r a3
  r5 : r a5
  nb : ¬ r b
  n4 : ¬ r a4
  no : ∀ i, av.ownBlock = some i → ¬ r i
  rl : ∀ i, r i → i < w.heap.size
section
variable {r r' p : Nat → Prop} {w w' : World} {b a1 a2 a3 a4 a5 : Nat} {l : List QT} {X : List (RR × Value)} {tv rv av : Value} {st k s c N : Int} {n d : ByteArray} {go ids tx : Value} {op : Bool}
theorem CL.kb (h : CL r w b l X a1 a2 a3 a4 a5 tv rv av) (hs : w.heap.size ≤ w'.heap.size) (hk : ∀ i, i < w.heap.size → r i → w'.heap[i]? = w.heap[i]?) (h4 : w'.heap[a4]? = w.heap[a4]?) (ho : ∀ i, av.ownBlock = some i → w'.heap[i]? = w.heap[i]?) : CL r w' b l X a1 a2 a3 a4 a5 tv rv av :=
  ⟨(hk a1 (lt_of_block h.h1) h.r1).trans h.h1, (hk a2 (lt_of_block h.h2) h.r2).trans h.h2, (hk a3 (lt_of_block h.h3) h.r3).trans h.h3, h4.trans h.h4, (hk a5 (lt_of_block h.h5) h.r5).trans h.h5, h.q.kb hs fun i hr hi => hk i hi hr, h.o.kb ho, fun x hx => (h.ns x hx).kb hs fun i hr hi => hk i hi hr, h.r1, h.r2, h.r3, h.r5, h.nb, h.n4, h.no, fun i hi => Nat.lt_of_lt_of_le (h.rl i hi) hs⟩
theorem CL.bel (h : CL r w b l X a1 a2 a3 a4 a5 tv rv av) (hb : Below w.heap.size w w') : CL r w' b l X a1 a2 a3 a4 a5 tv rv av :=
  h.kb hb.size (fun i hi _ => hb.block i hi) (hb.block _ (lt_of_block h.h4)) (fun i hi => hb.block i (h.o.lt i hi).2)
theorem CL.b4 (h : CL r w b l X a1 a2 a3 a4 a5 tv rv av) (hJ : JB w b op st k n d go c N ids tx s) : b ≠ a4 := fun e => by
  have h4 := h.h4
  rw [← e, show w.heap[b]? = _ from hJ] at h4
  simp at h4
theorem CL.bo (h : CL r w b l X a1 a2 a3 a4 a5 tv rv av) (hJ : JB w b op st k n d go c N ids tx s) : av.ownBlock ≠ some b := fun e => by
  obtain ⟨cs, h4⟩ := h.o.typ b e
  rw [show w.heap[b]? = _ from hJ] at h4
  simp at h4
theorem CL.o4 (h : CL r w b l X a1 a2 a3 a4 a5 tv rv av) : av.ownBlock ≠ some a4 := fun e => by
  obtain ⟨cs, h4⟩ := h.o.typ a4 e
  rw [h.h4] at h4
  simp at h4
theorem CL.gb (h : CL r w b l X a1 a2 a3 a4 a5 tv rv av) (hJ : JB w b op st k n d go c N ids tx s) (hg : Gs (fun i => i = b) w w') : CL r w' b l X a1 a2 a3 a4 a5 tv rv av :=
  h.kb hg.size (fun i hi hr => hg.block i hi (fun e => h.nb (e ▸ hr))) (hg.block _ (lt_of_block h.h4) (fun e => h.b4 hJ e.symm)) (fun i hi => hg.block i (h.o.lt i hi).2 (fun e => h.bo hJ (e ▸ hi)))
theorem CL.cq (h : CL r w b l X a1 a2 a3 a4 a5 tv rv av) {j : Nat} {q : QT} (hq : l[j]? = some q) : ∃ g o c', rv = .slice (some ⟨g, o, none⟩) l.length c' ∧ w.cell? ⟨g, o + j * 4, none⟩ = some (.int .i64 q.st) ∧ w.cell? ⟨g, o + j * 4 + 1, none⟩ = some (.int .i64 q.k) ∧ w.cell? ⟨g, o + j * 4 + 2, none⟩ = some (.string q.n) ∧ w.cell? ⟨g, o + j * 4 + 3, none⟩ = some (.string q.d) := by
  obtain ⟨a, c, e, _, h | ⟨g, o, ea, _, _, hG⟩⟩ := h.q
  · rw [h] at hq; simp at hq
  · exact ⟨g, o, c, by rw [e, ea], hG j q hq 0 _ rfl, hG j q hq 1 _ rfl, hG j q hq 2 _ rfl, hG j q hq 3 _ rfl⟩

theorem next_ask (h : CL r w b l X a1 a2 a3 a4 a5 tv rv av) (hJ : JB w b true st k n d .nilFunc c N ids tx s) {q : QT} (hq : l[X.length]? = some q) :
    Calls Tryz.prog 168 #[.pointer (some ⟨a4, 0, none⟩), .pointer (some ⟨a3, 0, none⟩), .pointer (some ⟨a1, 0, none⟩), .pointer (some ⟨a5, 0, none⟩), .pointer (some ⟨a2, 0, none⟩)] w fun e w' => e = .returned (.tuple #[]) ∧ JB w' b true q.st q.k q.n q.d (.func (.func 170) #[] #[.pointer (some ⟨a4, 0, none⟩), .pointer (some ⟨a5, 0, none⟩)]) c N ids tx s ∧ Gs (fun i => i = b) w w' := by
  obtain ⟨g, o, cr, rfl, z0, z1, z2, z3⟩ := h.cq hq
  obtain ⟨aa, ca, hav⟩ := h.o.shp
  have y4 : w.cell? ⟨a4, 0, none⟩ = some av := by simp [World.cell?, h.h4]
  have y3 : w.cell? ⟨a3, 0, none⟩ = some (.slice (some ⟨g, o, none⟩) l.length cr) := by simp [World.cell?, h.h3]
  have y1 : w.cell? ⟨a1, 0, none⟩ = some (.pointer (some ⟨b, 0, none⟩)) := by simp [World.cell?, h.h1]
  have HK : Hid (∀ w1, Gs (fun i => i = b) w.drew w1 → w1.cell? ⟨a4, 0, none⟩ = some (.slice aa X.length ca) ∧ w1.cell? ⟨a3, 0, none⟩ = some (.slice (some ⟨g, o, none⟩) l.length cr) ∧ w1.cell? ⟨a1, 0, none⟩ = some (.pointer (some ⟨b, 0, none⟩)) ∧ w1.cell? ⟨g, o + X.length * 4, none⟩ = some (.int .i64 q.st) ∧ w1.cell? ⟨g, o + X.length * 4 + 1, none⟩ = some (.int .i64 q.k) ∧ w1.cell? ⟨g, o + X.length * 4 + 2, none⟩ = some (.string q.n) ∧ w1.cell? ⟨g, o + X.length * 4 + 3, none⟩ = some (.string q.d)) := fun w1 hg => by
    have h1 := CL.gb (w := w) h hJ (w' := w1) ⟨hg.os, hg.tape, hg.output, hg.size, hg.block⟩
    obtain ⟨g', o', cr', e', q0, q1, q2, q3⟩ := h1.cq hq
    cases e'
    exact ⟨by simp [World.cell?, h1.h4, hav], by simp [World.cell?, h1.h3], by simp [World.cell?, h1.h1], q0, q1, q2, q3⟩
  have hxl : X.length < l.length := (List.getElem?_eq_some_iff.1 hq).1
  rw [hav] at y4
  obtain ⟨m, hm⟩ : ∃ m, m = X.length := ⟨_, rfl⟩
  obtain ⟨ll, hll⟩ : ∃ ll, ll = l.length := ⟨_, rfl⟩
  rw [← hm, ← hll] at hxl
  rw [← hm] at z0 z1 z2 z3 y4 HK
  rw [← hll] at y3 HK
  have b1 : (m : Int) < (ll : Int) := by omega
  have b0 : (0 : Int) ≤ (m : Int) := by omega
  have hmf : ∀ (fn : Fn) (first cap : Array Value) (w : World), (Instr.makeFunc fn first cap).run Tryz.prog w = .ok (.func fn first cap) w := fun _ _ _ _ => rfl
  have HA : Hid _ := hide (ask_any (w := w.drew) hJ q.st q.k q.n q.d (.func 170) #[] #[.pointer (some ⟨a4, 0, none⟩), .pointer (some ⟨a5, 0, none⟩)])
  generalize q.st = qs at *
  generalize q.k = qk at *
  generalize q.n = qn at *
  generalize q.d = qd at *
  clear h hJ hav hq hm hll
  go_enter Tryz.func168, Tryz.ntmps168
  go_upto_region 1 with fail
  go_region_held3 (fun w' => w'.cell? ⟨a4, 0, none⟩ = some (.slice aa m ca) ∧ w'.cell? ⟨a3, 0, none⟩ = some (.slice (some ⟨g, o, none⟩) ll cr) ∧ w'.cell? ⟨a1, 0, none⟩ = some (.pointer (some ⟨b, 0, none⟩)) ∧ w'.cell? ⟨g, o + m * 4, none⟩ = some (.int .i64 qs) ∧ w'.cell? ⟨g, o + m * 4 + 1, none⟩ = some (.int .i64 qk) ∧ w'.cell? ⟨g, o + m * 4 + 2, none⟩ = some (.string qn) ∧ w'.cell? ⟨g, o + m * 4 + 3, none⟩ = some (.string qd)) (first | assumption | exact ⟨by assumption, by assumption, by assumption, by assumption, by assumption, by assumption, by assumption⟩)
    (first | (go_at_call 169; refine HA.out.mono ?_; rintro e w1 ⟨rfl, hJ1, hG1⟩; obtain ⟨k1, k2, k3, k4, k5, k6, k7⟩ := HK.out w1 hG1; have HF := hide (And.intro hJ1 hG1); clear hJ1 hG1))
  go_wp2
  go_end0
  exact ⟨rfl, HF.out.1, HF.out.2.und⟩
theorem x3_one {x : RR × Value} (h : ∃ a n c, x.2 = .slice a n c) : ∀ u ∈ x3 x, u.oneCell' = true := by
  obtain ⟨a, n, c, e⟩ := h
  intro u hu
  simp only [x3, List.mem_cons, List.not_mem_nil, or_false] at hu
  rcases hu with rfl | rfl | rfl
  · rfl
  · rfl
  · rw [e]; rfl
def mu (b a4 : Nat) (av : Value) (i : Nat) : Prop := i = b ∨ i = a4 ∨ av.ownBlock = some i
theorem CL.app (h : CL r w b l X a1 a2 a3 a4 a5 tv rv av) (hJ : JB w b op st k n d go c N ids tx s) (x : RR × Value) (hx : LS t1 1 r w x.2 x.1.l) (hl : X.length ≤ 1000000) :
    ∃ v' w', (Builtin.append_ #[170, 170] 170 #[av, .slice (some ⟨w.heap.size, 0, none⟩) 1 1]).run Tryz.prog (w.alloc (.cells #[.int .i64 x.1.c, .string x.1.d, x.2] 87)) = .ok v' w' ∧ (∃ a n c, v' = .slice a n c) ∧ w'.heap[a4]? = some (.cells #[av] 170 (0, 0)) ∧ CL r (w'.setCell ⟨a4, 0, none⟩ v') b l (X ++ [x]) a1 a2 a3 a4 a5 tv rv v' ∧ JB (w'.setCell ⟨a4, 0, none⟩ v') b op st k n d go c N ids tx s ∧ Gs (mu b a4 av) w (w'.setCell ⟨a4, 0, none⟩ v') ∧ (v'.ownBlock = av.ownBlock ∨ v'.ownBlock = some (w.heap.size + 1)) := by
  have hb : Below w.heap.size w (w.alloc (.cells #[.int .i64 x.1.c, .string x.1.d, x.2] 87)) := (Below.refl _ _).alloc (Nat.le_refl _) _
  have hsx : ∃ a n c, x.2 = .slice a n c := by obtain ⟨a, c, e⟩ := hx.shp; exact ⟨a, _, c, e⟩
  have hLS : LS x3 3 (fun _ => True) (w.alloc (.cells #[.int .i64 x.1.c, .string x.1.d, x.2] 87)) (.slice (some ⟨w.heap.size, 0, none⟩) 1 1) [x] := LS.one x 87 w x3 3 _ trivial
  obtain ⟨v', w', h1, h2, h3, h4⟩ := OW.app (ST := 170) x3_len (by decide) (fun y hy => by simp at hy; subst hy; exact x3_one hsx) Tryz.underlying170 Tryz.infoA rfl (h.o.keep hb) hLS (by simp; omega) (by simp; omega) (Nat.zero_le _)
  have h4' : v'.ownBlock = av.ownBlock ∨ v'.ownBlock = some (w.heap.size + 1) := by simpa using h4
  have hw : ∀ i, i < w.heap.size → av.ownBlock ≠ some i → w'.heap[i]? = w.heap[i]? := fun i hi2 hn => (h3.block i (by simp; omega) (fun e => hn e.symm)).trans (hb.block i hi2)
  have hk : ∀ i, i ≠ a4 → (w'.setCell ⟨a4, 0, none⟩ v').heap[i]? = w'.heap[i]? := fun i hi => heap_setCell_other w' ⟨a4, 0, none⟩ i _ hi
  have hsz : w.heap.size + 1 ≤ w'.heap.size := by have := h3.size; simpa using this
  have h4w : w'.heap[a4]? = some (.cells #[av] 170 (0, 0)) := (hw a4 (lt_of_block h.h4) h.o4).trans h.h4
  have hr : ∀ i, i < w.heap.size → r i → (w'.setCell ⟨a4, 0, none⟩ v').heap[i]? = w.heap[i]? := fun i hi hr => (hk i (fun e => h.n4 (e ▸ hr))).trans (hw i hi (fun e => h.no i e hr))
  have hsz2 : w.heap.size ≤ (w'.setCell ⟨a4, 0, none⟩ v').heap.size := by simp; omega
  have ho4 : v'.ownBlock ≠ some a4 := fun e => by
    obtain ⟨cs, hcs⟩ := h2.typ a4 e
    rw [h4w] at hcs
    simp at hcs
  refine ⟨v', w', h1, ?_, h4w, ⟨(hr a1 (lt_of_block h.h1) h.r1).trans h.h1, (hr a2 (lt_of_block h.h2) h.r2).trans h.h2, (hr a3 (lt_of_block h.h3) h.r3).trans h.h3, heap_set_self h4w, (hr a5 (lt_of_block h.h5) h.r5).trans h.h5, h.q.kb hsz2 fun i hri hi => hr i hi hri, h2.kb fun i hi => hk i (fun e => ho4 (e ▸ hi)), ?_, h.r1, h.r2, h.r3, h.r5, h.nb, h.n4, ?_, fun i hi => Nat.lt_of_lt_of_le (h.rl i hi) hsz2⟩, ?_, ?_, h4'⟩
  · obtain ⟨a, c, e⟩ := h2.shp; exact ⟨a, _, c, e⟩
  · intro y hy
    rcases List.mem_append.1 hy with hy | hy
    · exact (h.ns y hy).kb hsz2 fun i hri hi => hr i hi hri
    · simp at hy; subst hy; exact hx.kb hsz2 fun i hri hi => hr i hi hri
  · intro i hi hri
    rcases h4' with e | e
    · rw [e] at hi; exact h.no i hi hri
    · rw [e] at hi; simp at hi; have := h.rl i hri; omega
  · exact (hk b (h.b4 hJ)).trans ((hw b hJ.lt (h.bo hJ)).trans hJ)
  · refine ⟨h3.os.trans rfl, h3.tape.trans rfl, h3.output.trans rfl, hsz2, fun i hi hn => ?_⟩
    exact (hk i (fun e => hn (.inr (.inl e)))).trans (hw i hi (fun e => hn (.inr (.inr e))))

end
end Go.Proofs.YtagijldedngcoaaGreatDoor

namespace Go.Proofs.YtagijldedngcoaaGreatDoor
open Go.RowKit Go.Lib Go.Maps
theorem Tryz.sizeAs : (Tryz.prog.info? 170).map (·.size) = some 1 := by kernel_rfl
section
variable {r r' p : Nat → Prop} {w w' : World} {b a1 a2 a3 a4 a5 i1 : Nat} {l : List QT} {X : List (RR × Value)} {tv rv av : Value} {st k s c N : Int} {n d : ByteArray} {go ids tx : Value} {op : Bool}
end
end Go.Proofs.YtagijldedngcoaaGreatDoor

namespace Go.Proofs.YtagijldedngcoaaGreatDoor
open Go.RowKit Go.Lib Go.Maps
def RDY (b : Nat) (Q : World → Prop) (w' : World) : Prop :=
  (∃ op st k n d fn fi ca c N ids tx s, JB w' b op st k n d (.func fn fi ca) c N ids tx s ∧ ∀ w2, JB w2 b true st k n d (.func fn fi ca) c N ids tx s → Gs (fun i => i = b) w' w2 → Q w2) ∨
  (∃ op st k n d c N ids tx s, JB w' b op st k n d .nilFunc c N ids tx s ∧ ∀ w2, JB w2 b false st k n d .nilFunc c N ids tx s → Gs (fun i => i = b) w' w2 → Q w2)
section
variable {r r0 p : Nat → Prop} {w w' : World} {b : Nat} {st k s c N cc : Int} {n d dd : ByteArray} {go ids tx u : Value} {op : Bool} {ll : List ByteArray}
theorem settle_rdy {Q : World → Prop} (h : RDY b Q w) : Calls Tryz.prog 83 #[.pointer (some ⟨b, 0, none⟩)] w fun e w' => e = .returned (.tuple #[]) ∧ Q w' := by
  rcases h with ⟨op, st, k, n, d, fn, fi, ca, c, N, ids, tx, s, hJ, h⟩ | ⟨op, st, k, n, d, c, N, ids, tx, s, hJ, h⟩
  · refine (settle_on hJ).mono ?_
    rintro e w2 ⟨rfl, hJ2, hG⟩
    exact ⟨rfl, h w2 hJ2 hG⟩
  · refine (settle_off hJ).mono ?_
    rintro e w2 ⟨rfl, hJ2, hG⟩
    exact ⟨rfl, h w2 hJ2 hG⟩
structure GV (w V : World) (b : Nat) (c N : Int) (ids tx : Value) (s : Int) (u' : Value) (ll : List ByteArray) : Prop where
  j : JB V b true 0 0 ⟨#[]⟩ ⟨#[]⟩ .nilFunc c N ids tx (s + 1)
  u : TS w.heap.size u' ll V
  g : Gs (fun i => i = b) w V
theorem give_all {a4 a5 : Nat} (hJ : JB w b op st k n d (.func (.func 170) #[] #[.pointer (some ⟨a4, 0, none⟩), .pointer (some ⟨a5, 0, none⟩)]) c N ids tx s) (hop : op = true) (hu : LS t1 1 r0 w u ll) (hr0 : ¬ r0 b) (hll : ll.length ≤ 1000000000000) (hs0 : 0 ≤ s) (hs1 : s ≤ 1000000000) (cc : Int) (dd : ByteArray) {Q : World → Prop}
    (HC : ∀ V u', GV w V b c N ids tx s u' ll → Calls Tryz.prog 170 #[.agg #[.int .i64 cc, .string dd, u'], .pointer (some ⟨a4, 0, none⟩), .pointer (some ⟨a5, 0, none⟩)] V fun e w' => e = .returned (.tuple #[]) ∧ RDY b Q w') :
    Calls Tryz.prog 40 #[.pointer (some ⟨b, 0, none⟩), .agg #[.int .i64 cc, .string dd, u]] w fun e w' => e = .returned (.int .i64 0) ∧ Q w' := by
  subst hop
  obtain ⟨U, hU⟩ : ∃ U, U = w.alloc (.cells #[.int .i64 cc, .string dd, u] 87) := ⟨_, rfl⟩
  obtain ⟨X5, hX5⟩ : ∃ X5, X5 = w.heap.size := ⟨_, rfl⟩
  have hBU : Below w.heap.size w U := by rw [hU]; exact (Below.refl _ _).alloc (Nat.le_refl _) _
  have hJU := hJ.bel hBU
  have hbl : b < X5 := by rw [hX5]; exact hJ.lt
  have hblk : U.heap[X5]? = some (.cells #[.int .i64 cc, .string dd, u] 87 (0, 0)) := by rw [hU, hX5]; exact heap_alloc_new w _
  have hszU : U.heap.size = X5 + 1 := by rw [hU, hX5]; simp
  have y5 : U.cell? ⟨b, 5, none⟩ = some (.func (.func 170) #[] #[.pointer (some ⟨a4, 0, none⟩), .pointer (some ⟨a5, 0, none⟩)]) := hJU.cell 5
  have hrun1 := store_run (t := 81) (o := 1) hJU #[.int .i64 0, .int .i64 0, .string ⟨#[]⟩, .string ⟨#[]⟩] (Nat.le_of_ble_eq_true rfl) Tryz.sizeQ (by simp [Value.oneCell'])
  obtain ⟨V1, hV1⟩ : ∃ V1, V1 = U.setCells b 1 [.int .i64 0, .int .i64 0, .string ⟨#[]⟩, .string ⟨#[]⟩] := ⟨_, rfl⟩
  have hJ1 : JB V1 b true 0 0 ⟨#[]⟩ ⟨#[]⟩ (.func (.func 170) #[] #[.pointer (some ⟨a4, 0, none⟩), .pointer (some ⟨a5, 0, none⟩)]) c N ids tx s := by
    have h1 := setCells_self [.int .i64 0, .int .i64 0, .string ⟨#[]⟩, .string ⟨#[]⟩] 1 U _ hJU
    rw [← hV1] at h1
    simpa [putAll, JB] using h1
  have hG1 : Gs (fun i => i = b) U V1 := by rw [hV1]; exact Gs.cells _ _ _ (Gs.refl _ _) (.inl rfl)
  simp only [] at hrun1
  rw [← hV1] at hrun1
  have x5 : V1.cell? ⟨b, 5, none⟩ = some (.func (.func 170) #[] #[.pointer (some ⟨a4, 0, none⟩), .pointer (some ⟨a5, 0, none⟩)]) := hJ1.cell 5
  have f5 := hJ1.free 5
  have hJ2 : JB (V1.setCell ⟨b, 5, none⟩ .nilFunc) b true 0 0 ⟨#[]⟩ ⟨#[]⟩ .nilFunc c N ids tx s := heap_set_self hJ1
  have x13 : (V1.setCell ⟨b, 5, none⟩ .nilFunc).cell? ⟨b, 13, none⟩ = some (.int .i64 s) := hJ2.cell 13
  have f13 := hJ2.free 13
  have hJ3 : JB ((V1.setCell ⟨b, 5, none⟩ .nilFunc).setCell ⟨b, 13, none⟩ (.int .i64 (s + 1))) b true 0 0 ⟨#[]⟩ ⟨#[]⟩ .nilFunc c N ids tx (s + 1) := heap_set_self hJ2
  obtain ⟨V3, hV3⟩ : ∃ V3, V3 = (V1.setCell ⟨b, 5, none⟩ .nilFunc).setCell ⟨b, 13, none⟩ (.int .i64 (s + 1)) := ⟨_, rfl⟩
  rw [← hV3] at hJ3
  have hG3 : Gs (fun i => i = b) U V3 := by rw [hV3]; exact (hG1.set1 _ _).set1 _ _
  have hblk3 : V3.heap[X5]? = some (.cells #[.int .i64 cc, .string dd, u] 87 (0, 0)) := (hG3.block X5 (by omega) (by omega)).trans hblk
  have z2 : ((V1.setCell ⟨b, 5, none⟩ .nilFunc).setCell ⟨b, 13, none⟩ (.int .i64 (s + 1))).cell? ⟨X5, 2, none⟩ = some u := by rw [← hV3]; simp [World.cell?, hblk3]
  have HC1 := hide (cloneT ((hu.old.bel hBU).gs hG3 (fun i hi e => hr0 (e ▸ hi.1))) hll)
  have HU := hide hU
  have HV3 := hide hV3
  have HX := hide hX5
  have HF := hide (And.intro hBU (And.intro hG3 (And.intro hblk3 (And.intro hJ3 (And.intro hszU hbl)))))
  have HCC := hide HC
  obtain ⟨g1, g2, g3, g4⟩ := fe47
  clear hu hJU hblk hszU hV1 hJ1 hG1 hJ2 hJ3 hV3 hG3 hblk3 hU hX5 hBU hJ HC hbl
  go_enter Tryz.func40, Tryz.ntmps40
  go_upto_region 1 with fail
  rw [← HU.out, ← HX.out]
  go_wp2_with (refine wpList_store_run rfl 81 _ _ rfl _ _ rfl rfl hrun1 ?_)
  rw [← HV3.out]
  refine HC1.out.mono ?_
  rintro e w4 ⟨u', rfl, hT4, hB4⟩
  obtain ⟨hBU, hG3, hblk3, hJ3, hszU, hbl⟩ := HF.out
  have hX := HX.out
  have hblk4 := (hB4.block X5 (lt_of_block hblk3)).trans hblk3
  have hs := store1_run (t := 44) hblk4 (j := 2) (v := u') (Nat.le_of_ble_eq_true rfl) Tryz.sizeTs (by obtain ⟨a, c, e⟩ := hT4.shp; exact ⟨a, _, c, e⟩)
  obtain ⟨V5, hV5⟩ : ∃ V5, V5 = w4.setCell ⟨X5, 2, none⟩ u' := ⟨_, rfl⟩
  rw [← hV5] at hs
  have hblk5 : V5.heap[X5]? = some (.cells #[.int .i64 cc, .string dd, u'] 87 (0, 0)) := by rw [hV5]; exact heap_set_self hblk4
  have k0 : V5.cell? ⟨X5, 0, none⟩ = some (.int .i64 cc) := by simp [World.cell?, hblk5]
  have k1 : V5.cell? ⟨X5, 1, none⟩ = some (.string dd) := by simp [World.cell?, hblk5]
  have k2 : V5.cell? ⟨X5, 2, none⟩ = some u' := by simp [World.cell?, hblk5]
  have h3s := hG3.size
  have hGV : GV w V5 b c N ids tx s u' ll := by
    refine ⟨?_, ?_, ?_⟩
    · rw [hV5]
      exact (heap_setCell_other w4 ⟨X5, 2, none⟩ b _ (by show b ≠ X5; omega)).trans (hJ3.bel hB4)
    · rw [hV5]
      exact (hT4.set fun i hi => by have := (hT4.lt i hi).1; omega).low (by omega)
    · rw [hV5]
      exact (((Gs.of_below _ hBU).trans hG3).bel hB4).set (a := ⟨X5, 2, none⟩) (.inr (by show w.heap.size ≤ X5; omega)) _
  have HG := hide (HCC.out V5 u' hGV)
  clear hblk3 hJ3 hszU hbl hX hblk4 hV5 hblk5 h3s hGV hB4 hT4 hG3 hBU
  go_wp2_with (refine wpList_store_run rfl 44 _ _ rfl _ _ rfl rfl hs ?_)
  refine HG.out.mono ?_
  rintro e w6 ⟨rfl, hR⟩
  have HS := hide (settle_rdy hR)
  clear hR
  go_wp2_with fail
  refine HS.out.mono ?_
  rintro e w7 ⟨rfl, hQ⟩
  have HQ := hide hQ
  clear hQ
  go_wp2
  go_ret
  exact ⟨rfl, HQ.out⟩
end
end Go.Proofs.YtagijldedngcoaaGreatDoor

namespace Go.Proofs.YtagijldedngcoaaGreatDoor
open Go.RowKit Go.Lib Go.Maps
def okT : List TypeId := [99, 200, 198, 1, 81, 149, 170, 194, 196, 9]
def NT (r : Nat → Prop) (W : World) : Prop := ∀ i, r i → ∃ cs T, W.heap[i]? = some (.cells cs T (0, 0)) ∧ T ∈ okT
section
variable {r r0 p : Nat → Prop} {w w' : World} {b : Nat} {st k s c N cc : Int} {n d dd : ByteArray} {go ids tx u v : Value} {op : Bool} {l : List QT}
theorem all_any (hJ : JB w b true st k n d go c N ids tx s) (hl : LS q4 4 r0 w v l) (hn : l.length ≤ 1000000) (fn : Fn) (fi ca : Array Value) {Q : World → Prop}
    (HC : ∀ W a1 a2 a3 a4 a5 rv r, CL r W b l [] a1 a2 a3 a4 a5 (.func fn fi ca) rv (.slice none 0 0) → JB W b true st k n d go c N ids tx s → Below w.heap.size w W → (∀ i, r i → w.heap.size ≤ i) → w.heap.size ≤ a4 → a4 < W.heap.size → NT r W → Calls Tryz.prog 168 #[.pointer (some ⟨a4, 0, none⟩), .pointer (some ⟨a3, 0, none⟩), .pointer (some ⟨a1, 0, none⟩), .pointer (some ⟨a5, 0, none⟩), .pointer (some ⟨a2, 0, none⟩)] W fun e w' => e = .returned (.tuple #[]) ∧ Q w') :
    Calls Tryz.prog 126 #[.pointer (some ⟨b, 0, none⟩), v, .func fn fi ca] w fun e w' => e = .returned (.tuple #[]) ∧ Q w' := by
  obtain ⟨U, hU⟩ : ∃ U, U = (w.alloc (.cells #[.pointer (some ⟨b, 0, none⟩)] 99)).alloc (.cells #[.func fn fi ca] 200) := ⟨_, rfl⟩
  obtain ⟨A, hA⟩ : ∃ A, A = w.heap.size := ⟨_, rfl⟩
  have hBU : Below w.heap.size w U := by rw [hU]; exact ((Below.refl _ _).alloc (Nat.le_refl _) _).alloc (by simp) _
  have hJU := hJ.bel hBU
  have hszU : U.heap.size = A + 2 := by rw [hU, hA]; simp
  have h1 : U.heap[A]? = some (.cells #[.pointer (some ⟨b, 0, none⟩)] 99 (0, 0)) := by rw [hU, hA, Below.heap_alloc _ _ _ (by simp)]; exact heap_alloc_new w _
  have h2 : U.heap[A + 1]? = some (.cells #[.func fn fi ca] 200 (0, 0)) := by
    rw [hU, hA]
    have := heap_alloc_new (w.alloc (.cells #[.pointer (some ⟨b, 0, none⟩)] 99)) (.cells #[.func fn fi ca] 200 (0, 0))
    simpa using this
  have y1 : U.cell? ⟨A, 0, none⟩ = some (.pointer (some ⟨b, 0, none⟩)) := by simp [World.cell?, h1]
  have HO := hide (isOpen_any hJU)
  have HQ := hide (cloneQ (hl.bel hBU) hn)
  have hbA : b < A := by rw [hA]; exact hJ.lt
  have HF := hide (And.intro h1 (And.intro h2 (And.intro hszU (And.intro hJU (And.intro hBU (And.intro hbA hA))))))
  have HU := hide hU
  have HA := hide hA
  have HCC := hide HC
  have hmf : ∀ (fn : Fn) (first cap : Array Value) (w : World), (Instr.makeFunc fn first cap).run Tryz.prog w = .ok (.func fn first cap) w := fun _ _ _ _ => rfl
  clear hl hJU hszU h1 h2 hBU hU hA HC hJ hbA
  go_enter Tryz.func126, Tryz.ntmps126
  go_upto_region 1 with fail
  rw [← HU.out, ← HA.out]
  go_wp2_with (go_at_call 112; refine HO.out.mono ?_; rintro e w1 ⟨rfl, rfl⟩)
  refine HQ.out.mono ?_
  rintro e w2 ⟨rv, rfl, hO2, hB2⟩
  obtain ⟨h1, h2, hszU, hJU, hBU, hbA, hA⟩ := HF.out
  obtain ⟨ar, cr, hrv⟩ := hO2.shp
  subst hrv
  obtain ⟨g, hg⟩ : ∃ g, g = w2.heap.size := ⟨_, rfl⟩
  obtain ⟨W, hW⟩ : ∃ W, W = ((w2.alloc (.cells #[.slice ar l.length cr] 198)).alloc (.cells #[.slice none 0 0] 170)).alloc (.cells #[.func (.func 168) #[] #[.pointer (some ⟨g + 1, 0, none⟩), .pointer (some ⟨g, 0, none⟩), .pointer (some ⟨A, 0, none⟩), .pointer (some ⟨g + 2, 0, none⟩), .pointer (some ⟨A + 1, 0, none⟩)]] 1) := ⟨_, rfl⟩
  have hBW : Below w2.heap.size w2 W := by rw [hW]; exact (((Below.refl _ _).alloc (Nat.le_refl _) _).alloc (by simp) _).alloc (by simp; omega) _
  have hszW : W.heap.size = g + 3 := by rw [hW, hg]; simp
  have h3 : W.heap[g]? = some (.cells #[.slice ar l.length cr] 198 (0, 0)) := by
    rw [hW, hg, Below.heap_alloc _ _ _ (by simp; omega), Below.heap_alloc _ _ _ (by simp)]
    exact heap_alloc_new w2 _
  have h4 : W.heap[g + 1]? = some (.cells #[.slice none 0 0] 170 (0, 0)) := by
    rw [hW, hg, Below.heap_alloc _ _ _ (by simp)]
    have := heap_alloc_new (w2.alloc (.cells #[.slice ar l.length cr] 198)) (.cells #[.slice none 0 0] 170 (0, 0))
    simpa using this
  have h5 : W.heap[g + 2]? = some (.cells #[.func (.func 168) #[] #[.pointer (some ⟨g + 1, 0, none⟩), .pointer (some ⟨g, 0, none⟩), .pointer (some ⟨A, 0, none⟩), .pointer (some ⟨g + 2, 0, none⟩), .pointer (some ⟨A + 1, 0, none⟩)]] 1 (0, 0)) := by
    rw [hW]
    have := heap_alloc_new ((w2.alloc (.cells #[.slice ar l.length cr] 198)).alloc (.cells #[.slice none 0 0] 170)) (.cells #[.func (.func 168) #[] #[.pointer (some ⟨g + 1, 0, none⟩), .pointer (some ⟨g, 0, none⟩), .pointer (some ⟨A, 0, none⟩), .pointer (some ⟨g + 2, 0, none⟩), .pointer (some ⟨A + 1, 0, none⟩)]] 1 (0, 0))
    simpa [hg] using this
  have hBUW : Below w1.heap.size w1 W := hB2.trans (hBW.mono hB2.size)
  have hB2s := hB2.size
  have hO2l := hO2.lt
  have hCL : CL (fun i => i = A ∨ i = A + 1 ∨ i = g ∨ i = g + 2 ∨ (Value.slice ar l.length cr).ownBlock = some i) W b l [] A (A + 1) g (g + 1) (g + 2) (.func fn fi ca) (.slice ar l.length cr) (.slice none 0 0) := by
    refine ⟨(hBUW.block A (by omega)).trans h1, (hBUW.block (A + 1) (by omega)).trans h2, h3, h4, h5, ((hO2.keep hBW).ls q4_len fun i hi => .inr (.inr (.inr (.inr hi)))), OW.nil _ _ _ _ _, (fun x hx => by simp at hx), .inl rfl, .inr (.inl rfl), .inr (.inr (.inl rfl)), .inr (.inr (.inr (.inl rfl))), ?_, ?_, (fun i e => by simp [Value.ownBlock] at e), ?_⟩
    · rintro (e | e | e | e | e)
      · omega
      · omega
      · omega
      · omega
      · have := (hO2l _ e).1; omega
    · rintro (e | e | e | e | e)
      · omega
      · omega
      · omega
      · omega
      · have := (hO2l _ e).2; omega
    · rintro i (e | e | e | e | e)
      · omega
      · omega
      · omega
      · omega
      · have := (hO2l _ e).2; omega
  have HN := hide (HCC.out W A (A + 1) g (g + 1) (g + 2) _ _ hCL (hJU.bel hBUW) (hBU.trans (hBUW.mono hBU.size)) (by
    rintro i (e | e | e | e | e)
    · omega
    · omega
    · omega
    · omega
    · have := (hO2l _ e).1; omega) (by omega) (by omega) (by
    rintro i (e | e | e | e | e)
    · rw [e]; exact ⟨_, _, (hBUW.block A (by omega)).trans h1, by simp [okT]⟩
    · rw [e]; exact ⟨_, _, (hBUW.block (A + 1) (by omega)).trans h2, by simp [okT]⟩
    · rw [e]; exact ⟨_, _, h3, by simp [okT]⟩
    · rw [e]; exact ⟨_, _, h5, by simp [okT]⟩
    · obtain ⟨cs, hc⟩ := (hO2.keep hBW).typ i e
      exact ⟨_, _, hc, by simp [okT]⟩))
  have y5 : W.cell? ⟨g + 2, 0, none⟩ = some (.func (.func 168) #[] #[.pointer (some ⟨g + 1, 0, none⟩), .pointer (some ⟨g, 0, none⟩), .pointer (some ⟨A, 0, none⟩), .pointer (some ⟨g + 2, 0, none⟩), .pointer (some ⟨A + 1, 0, none⟩)]) := by simp [World.cell?, h5]
  have HW := hide hW
  have Hg := hide hg
  clear hCL h1 h2 hszU hJU hBU hbA hA h3 h4 h5 hBUW hB2s hO2l hO2 hB2 hBW hszW hW hg HF
  generalize l.length = ln at *
  go_upto_region 6 with fail
  rw [← Hg.out, ← HW.out]
  go_wp2_with fail
  refine HN.out.mono ?_
  rintro e w7 ⟨rfl, hQ⟩
  have HQ2 := hide hQ
  clear hQ
  go_wp2
  go_end0
  exact ⟨rfl, HQ2.out⟩
end
end Go.Proofs.YtagijldedngcoaaGreatDoor

namespace Go.Proofs.YtagijldedngcoaaGreatDoor
open Go.RowKit Go.Lib Go.Maps
section
variable {r r0 p P : Nat → Prop} {w w' : World} {b a1 a2 a3 a4 a5 i1 : Nat} {st k s c N cc : Int} {n d dd : ByteArray} {go ids tx u v tv rv av : Value} {op : Bool} {l : List QT} {X : List (RR × Value)} {A : List RR}
theorem CL.mono {r' : Nat → Prop} (h : CL r w b l X a1 a2 a3 a4 a5 tv rv av) (hr : ∀ i, r i → r' i) (hb : ¬ r' b) (h4 : ¬ r' a4) (ho : ∀ i, av.ownBlock = some i → ¬ r' i) (hl : ∀ i, r' i → i < w.heap.size) : CL r' w b l X a1 a2 a3 a4 a5 tv rv av :=
  ⟨h.h1, h.h2, h.h3, h.h4, h.h5, h.q.mono hr, h.o, fun x hx => (h.ns x hx).mono hr, hr _ h.r1, hr _ h.r2, hr _ h.r3, hr _ h.r5, hb, h4, ho, hl⟩
end
end Go.Proofs.YtagijldedngcoaaGreatDoor

namespace Go.Proofs.YtagijldedngcoaaGreatDoor
open Go.RowKit Go.Lib Go.Maps
section
variable {r r0 p P : Nat → Prop} {w w' : World} {b a1 a2 a3 a4 a5 i1 : Nat} {st k s c N : Int} {n d : ByteArray} {go ids tx u v tv rv av : Value} {op : Bool} {l : List QT} {X : List (RR × Value)} {A : List RR} {ll : List ByteArray}
end
end Go.Proofs.YtagijldedngcoaaGreatDoor

namespace Go.Proofs.YtagijldedngcoaaGreatDoor
open Go.RowKit Go.Lib Go.Maps
section
variable {w w1 : World} {v : Value} {bs : List Nat} {i b mb X : Nat} {s s' : SS} {st k C : Int} {n d D : ByteArray} {l : List ByteArray} {p : Nat → Prop}
theorem PX.far (h : PX w b mb s) {g j : Nat} {q : Option Addr} (hy : w.cell? ⟨g, j, none⟩ = some (.pointer q)) : ¬ two b mb g := by
  have h' : PS w b mb s.q s.f s.off s.m s.L := h
  rintro (e | e)
  · subst e
    simp only [World.cell?, h'.blk] at hy
    match j with
    | 0 => simp at hy
    | 1 => simp at hy
    | 2 => simp at hy
    | 3 => simp at hy
    | 4 => simp at hy
    | 5 => simp at hy
    | _ + 6 => simp at hy
  · subst e
    obtain ⟨cs, t, fr, hg⟩ : ∃ cs t fr, w.heap[g]? = some (.cells cs t fr) := by
      rw [World.cell?] at hy
      split at hy
      · exact ⟨_, _, _, by assumption⟩
      · cases hy
    exact h'.map.notCells hg
theorem answer_in (hP : RP w v bs) (hb : bs[i]? = some b) (hD : PX w b mb s) (k : Int) (n d : ByteArray) (hn : n.size ≤ maxLen) (hd : d.size ≤ maxLen) (hl : s.L.length ≤ 1000000) (hm0 : 0 ≤ s.m) (hm1 : s.m ≤ 1000000000000) (hf : s.f ≤ 1048576) :
    Calls Tryz.prog 132 #[v, .agg #[.int .i64 (i : Int), .int .i64 k, .string n, .string d]] w fun e w' => ∃ v, e = .returned v ∧ AR w' w.heap.size v (doR s k n d) ∧ PX w' b mb (doS s k n d) ∧ Gs (two b mb) w w' := by
  obtain ⟨a, c, rfl, h⟩ := hP
  obtain ⟨g, o, rfl, hg, hC⟩ := h.resolve_left (by intro e; rw [e] at hb; simp at hb)
  have hib : i < bs.length := (List.getElem?_eq_some_iff.1 hb).1
  have y0 := hC i b hb
  obtain ⟨N, hN⟩ : ∃ N, N = bs.length := ⟨_, rfl⟩
  rw [← hN] at hib ⊢
  obtain ⟨U, hU⟩ : ∃ U, U = (w.alloc (.cells #[.int .i64 (i : Int), .int .i64 k, .string n, .string d] 81)).alloc (.cells #[.int .i64 0, .string ⟨#[]⟩, .slice none 0 0] 87) := ⟨_, rfl⟩
  obtain ⟨X, hX⟩ : ∃ X, X = w.heap.size := ⟨_, rfl⟩
  have hBU : Below w.heap.size w U := by rw [hU]; exact ((Below.refl _ _).alloc (Nat.le_refl _) _).alloc (by simp) _
  have hq : QR U X (i : Int) k n d := by rw [hU, hX]; exact QR.new _ _ _ _ _
  have hq' : QR U.drew X (i : Int) k n d := ⟨hq.q, hq.r⟩
  have hszU : U.heap.size = X + 2 := by rw [hU, hX]; simp
  have z0 := (hBU.cell (p := ⟨g, o + i, none⟩) hg).trans y0
  have z0' : U.drew.cell? ⟨g, o + i, none⟩ = some (.pointer (some ⟨b, 0, none⟩)) := z0
  have x0 := hq.c0
  have v0 := hq'.c0
  have v1 := hq'.c1
  have v2 := hq'.c2
  have v3 := hq'.c3
  have HD : Hid _ := hide (do_any (w := U.drew) ((hD.bel hBU).bel ((Below.refl _ _).drew)) (i : Int) k n d hn hd hl hm0 hm1 hf)
  have hblt := PS.lt hD
  have hmlt := PS.mlt hD
  have hfar := hD.far y0
  have HGB : Hid (¬ two b mb g ∧ g ≠ X + 1 ∧ g < U.drew.heap.size) := by
    refine ⟨hfar, by omega, ?_⟩
    show g < U.heap.size
    omega
  have HBX : Hid (¬ two b mb X ∧ ¬ two b mb (X + 1)) := by show (¬ (X = b ∨ X = mb)) ∧ ¬ (X + 1 = b ∨ X + 1 = mb); omega
  have HB : Hid (Gs (two b mb) w U.drew) := (Gs.of_below _ hBU).trans ((Gs.refl _ _).bel ((Below.refl _ _).drew))
  have HU := hide hU
  have HX := hide hX
  have HQ := hide hq'
  have HSZ : Hid (U.drew.heap.size = X + 2) := hszU
  have b1 : (i : Int) < (N : Int) := by omega
  have b0 : (0 : Int) ≤ (i : Int) := by omega
  have HWX : Hid (w.heap.size ≤ X) := by show w.heap.size ≤ X; omega
  obtain ⟨C, D, l, hr⟩ : ∃ C D l, doR s k n d = ⟨C, D, l⟩ := ⟨_, _, _, rfl⟩
  rw [hr] at HD ⊢
  obtain ⟨s', hs'⟩ : ∃ s', s' = doS s k n d := ⟨_, rfl⟩
  rw [← hs'] at HD ⊢
  clear hq hq' hBU hC h hb hN hU hX y0 hD hszU hblt hmlt hfar hr hs'
  go_enter Tryz.func132, Tryz.ntmps132
  go_upto_region 1 with fail
  rw [← HU.out, ← HX.out]
  go_upto_region 3 with fail
  go_region_held3 (fun w' => w'.cell? ⟨X, 0, none⟩ = some (.int .i64 (i : Int)) ∧ w'.cell? ⟨X, 1, none⟩ = some (.int .i64 k) ∧ w'.cell? ⟨X, 2, none⟩ = some (.string n) ∧ w'.cell? ⟨X, 3, none⟩ = some (.string d) ∧ w'.cell? ⟨g, o + i, none⟩ = some (.pointer (some ⟨b, 0, none⟩))) (first | assumption | exact ⟨by assumption, by assumption, by assumption, by assumption, by assumption⟩ | exact ⟨v0, v1, v2, v3, z0'⟩ | exact HS5.out)
    (first | (go_at_call 41; refine HD.out.mono ?_; rintro e w1 ⟨u, rfl, hA, hD1, hG1⟩; obtain ⟨a1, c1, rfl, hT1⟩ := hA.shp; have hQ1 := HQ.out.gs hG1 HBX.out.1 HBX.out.2; have t0 := hQ1.c0; have t1 := hQ1.c1; have t2 := hQ1.c2; have t3 := hQ1.c3; have hset := set3 hQ1.r (.int .i64 C) (.string D) (.slice a1 l.length c1); have p1 := hset.1.1; have p2 := hset.1.2; have p3 := hset.2.1.1; have p4 := hset.2.1.2; have p5 := hset.2.2.1.1; have p6 := hset.2.2.1.2; have tz : w1.cell? ⟨g, o + i, none⟩ = some (.pointer (some ⟨b, 0, none⟩)) := (by simp only [World.cell?, hG1.block g HGB.out.2.2 HGB.out.1] : w1.cell? ⟨g, o + i, none⟩ = U.drew.cell? ⟨g, o + i, none⟩).trans z0'; have HS5 : Hid ((laid3 w1 (X + 1) (.int .i64 C) (.string D) (.slice a1 l.length c1)).cell? ⟨X, 0, none⟩ = some (.int .i64 (i : Int)) ∧ (laid3 w1 (X + 1) (.int .i64 C) (.string D) (.slice a1 l.length c1)).cell? ⟨X, 1, none⟩ = some (.int .i64 k) ∧ (laid3 w1 (X + 1) (.int .i64 C) (.string D) (.slice a1 l.length c1)).cell? ⟨X, 2, none⟩ = some (.string n) ∧ (laid3 w1 (X + 1) (.int .i64 C) (.string D) (.slice a1 l.length c1)).cell? ⟨X, 3, none⟩ = some (.string d) ∧ (laid3 w1 (X + 1) (.int .i64 C) (.string D) (.slice a1 l.length c1)).cell? ⟨g, o + i, none⟩ = some (.pointer (some ⟨b, 0, none⟩))) := ⟨(laid3_cell (by omega) _ _ _).trans t0, (laid3_cell (by omega) _ _ _).trans t1, (laid3_cell (by omega) _ _ _).trans t2, (laid3_cell (by omega) _ _ _).trans t3, (laid3_cell HGB.out.2.1 _ _ _).trans tz⟩; have hf4 := hset.2.2.2; have HF : Hid _ := hide (And.intro hT1 (And.intro hD1 (And.intro hG1 hQ1))); clear hT1 hD1 hG1 hQ1 hset))
  obtain ⟨hT1, hD1, hG1, hQ1⟩ := HF.out
  have HE : Hid (∃ v', Ending.returned (.agg #[.int .i64 C, .string D, .slice a1 l.length c1]) = .returned v' ∧ AR (laid3 w1 (X + 1) (.int .i64 C) (.string D) (.slice a1 l.length c1)) w.heap.size v' ⟨C, D, l⟩ ∧ PX (laid3 w1 (X + 1) (.int .i64 C) (.string D) (.slice a1 l.length c1)) b mb s' ∧ Gs (two b mb) w (laid3 w1 (X + 1) (.int .i64 C) (.string D) (.slice a1 l.length c1))) := by
    have hsz := HSZ.out
    rw [hsz] at hT1
    refine ⟨_, rfl, ⟨_, rfl, ?_⟩, PS.laid hD1 (fun e => HBX.out.2 (.inl e.symm)) (fun e => HBX.out.2 (.inr e.symm)) _ _ _, (HB.out.trans hG1).laid (by have := HWX.out; omega) _ _ _⟩
    exact (hT1.kb fun i hi => laid3_other _ _ _ (by have := (hT1.lt i hi).1; omega)).low (by have := HWX.out; omega)
  have r0 : (((w1.setCell ⟨X + 1, 0, none⟩ (.int .i64 C)).setCell ⟨X + 1, 1, none⟩ (.string D)).setCell ⟨X + 1, 2, none⟩ (.slice a1 l.length c1)).cell? ⟨X + 1, 0, none⟩ = some (.int .i64 C) := by simp [World.cell?, hf4]
  have r1 : (((w1.setCell ⟨X + 1, 0, none⟩ (.int .i64 C)).setCell ⟨X + 1, 1, none⟩ (.string D)).setCell ⟨X + 1, 2, none⟩ (.slice a1 l.length c1)).cell? ⟨X + 1, 1, none⟩ = some (.string D) := by simp [World.cell?, hf4]
  have r2 : (((w1.setCell ⟨X + 1, 0, none⟩ (.int .i64 C)).setCell ⟨X + 1, 1, none⟩ (.string D)).setCell ⟨X + 1, 2, none⟩ (.slice a1 l.length c1)).cell? ⟨X + 1, 2, none⟩ = some (.slice a1 l.length c1) := by simp [World.cell?, hf4]
  clear hT1 hD1 hG1 hQ1 HF HS5 hf4 p1 p2 p3 p4 p5 p6 t0 t1 t2 t3 tz v0 v1 v2 v3
  go_wp2
  exact bodyPost_ret (v := .agg #[.int .i64 C, .string D, .slice a1 l.length c1]) (by simp [results, Tryz.results132, go_sem, r0, r1, r2]) rfl HE.out
theorem answer_out (hP : RP w v bs) (st k : Int) (n d : ByteArray) (hst : st < 0 ∨ (bs.length : Int) ≤ st) :
    Calls Tryz.prog 132 #[v, .agg #[.int .i64 st, .int .i64 k, .string n, .string d]] w fun e w' => e = .returned (.agg #[.int .i64 1, .string ⟨#[]⟩, .slice none 0 0]) ∧ Below w.heap.size w w' := by
  obtain ⟨a, c, rfl, _⟩ := hP
  obtain ⟨N, hN⟩ : ∃ N, N = bs.length := ⟨_, rfl⟩
  rw [← hN] at hst ⊢
  clear hN
  by_cases h0 : st < 0
  · go_enter Tryz.func132, Tryz.ntmps132
    go_wp2
    exact bodyPost_ret (v := .agg #[.int .i64 1, .string ⟨#[]⟩, .slice none 0 0]) (by simp [results, Tryz.results132, go_sem]) rfl ⟨rfl, ((Below.refl _ _).alloc (Nat.le_refl _) _).alloc (by simp) _⟩
  · have h1 : (N : Int) ≤ st := by omega
    have h2 : (0 : Int) ≤ st := by omega
    go_enter Tryz.func132, Tryz.ntmps132
    go_wp2
    exact bodyPost_ret (v := .agg #[.int .i64 1, .string ⟨#[]⟩, .slice none 0 0]) (by simp [results, Tryz.results132, go_sem]) rfl ⟨rfl, ((Below.refl _ _).alloc (Nat.le_refl _) _).alloc (by simp) _⟩
end
end Go.Proofs.YtagijldedngcoaaGreatDoor

namespace Go.Proofs.YtagijldedngcoaaGreatDoor
open Go.RowKit Go.Lib Go.Maps

def yR (S : List SS) (q : QT) : RR := if 0 ≤ q.st then (match S[q.st.toNat]? with | some s => doR s q.k q.n q.d | none => ⟨1, ⟨#[]⟩, []⟩) else ⟨1, ⟨#[]⟩, []⟩
def yS (S : List SS) (q : QT) : List SS := if 0 ≤ q.st then (match S[q.st.toNat]? with | some s => S.set q.st.toNat (doS s q.k q.n q.d) | none => S) else S
def yRs : List SS → List QT → List RR
  | _, [] => []
  | S, q :: r => yR S q :: yRs (yS S q) r
def ySs : List SS → List QT → List SS
  | S, [] => S
  | S, q :: r => ySs (yS S q) r
theorem yRs_len : ∀ (l : List QT) (S : List SS), (yRs S l).length = l.length
  | [], _ => rfl
  | q :: r, S => by rw [yRs, List.length_cons, yRs_len r, List.length_cons]
theorem yRs_snoc : ∀ (l : List QT) (S : List SS) (q : QT), yRs S (l ++ [q]) = yRs S l ++ [yR (ySs S l) q]
  | [], S, q => rfl
  | p :: r, S, q => by rw [List.cons_append, yRs, yRs, ySs, yRs_snoc r]; rfl
theorem ySs_snoc : ∀ (l : List QT) (S : List SS) (q : QT), ySs S (l ++ [q]) = yS (ySs S l) q
  | [], S, q => rfl
  | p :: r, S, q => by rw [List.cons_append, ySs, ySs, ySs_snoc r]
structure GO (t : Nat) (s : SS) : Prop where
  ris : Ris s.L
  sm : ∀ p ∈ s.L, p.n.size ≤ 96 ∧ p.d.size ≤ 131072
  len : s.L.length ≤ t
  m0 : 0 ≤ s.m
  mt : s.m ≤ t
  f : s.f ≤ 1048576
def GD (t : Nat) (S : List SS) : Prop := ∀ s ∈ S, GO t s
theorem GO.mono {t t' : Nat} {s : SS} (h : GO t s) (ht : t ≤ t') : GO t' s := ⟨h.ris, h.sm, Nat.le_trans h.len ht, h.m0, Int.le_trans h.mt (by omega), h.f⟩
theorem doS_okp (s : SS) (k : Int) (n d : ByteArray) : (doS s k n d).L.length ≤ s.L.length + 1 ∧ s.m ≤ (doS s k n d).m ∧ (doS s k n d).m ≤ s.m + 1 ∧ (doS s k n d).f ≤ s.f := by
  rw [doS]
  have h1 := len_lay s.L n d
  have h2 := len_del s.L n
  split
  · exact ⟨by show s.L.length ≤ _; omega, by show s.m ≤ s.m + 1; omega, by show s.m + 1 ≤ s.m + 1; omega, Int.le_refl _⟩
  · split
    · exact ⟨by show s.L.length ≤ _; omega, by show s.m ≤ s.m + 1; omega, by show s.m + 1 ≤ s.m + 1; omega, by show s.f - 1 ≤ s.f; omega⟩
    · refine ⟨?_, by show s.m ≤ s.m + 1; omega, by show s.m + 1 ≤ s.m + 1; omega, Int.le_refl _⟩
      dsimp only
      rw [putL]
      (repeat' split) <;> omega
theorem GO.step {t : Nat} {s : SS} (h : GO t s) (k : Int) (n d : ByteArray) : GO (t + 1) (doS s k n d) := by
  obtain ⟨h1, h2, h3, h4⟩ := doS_okp s k n d
  have hL : Ris (doS s k n d).L ∧ ∀ p ∈ (doS s k n d).L, p.n.size ≤ 96 ∧ p.d.size ≤ 131072 := by
    rw [doS]
    split
    · exact ⟨h.ris, h.sm⟩
    · split
      · exact ⟨h.ris, h.sm⟩
      · dsimp only
        split
        · rw [putL]
          split
          · rename_i hp
            rw [pcode] at hp
            split at hp
            · rename_i hm
              split at hp
              · rename_i hd
                exact ⟨ris_lay h.ris n d, small_lay h.sm (mayB_size hm) hd⟩
              · cases hp
            · cases hp
          · exact ⟨h.ris, h.sm⟩
        · split
          · exact ⟨ris_del h.ris n, small_del h.sm n⟩
          · exact ⟨h.ris, h.sm⟩
  have := h.len
  have := h.m0
  have := h.mt
  have := h.f
  exact ⟨hL.1, hL.2, by omega, by omega, by omega, by omega⟩
theorem GD.step {t : Nat} {S : List SS} (h : GD t S) (q : QT) : GD (t + 1) (yS S q) := by
  rw [yS]
  split
  · split
    · rename_i s hs
      intro x hx
      rcases List.mem_or_eq_of_mem_set hx with hx | hx
      · exact (h x hx).mono (by omega)
      · rw [hx]; exact (h s (List.mem_of_getElem? hs)).step _ _ _
    · exact fun x hx => (h x hx).mono (by omega)
  · exact fun x hx => (h x hx).mono (by omega)
theorem GD.steps : ∀ (l : List QT) {t : Nat} {S : List SS}, GD t S → GD (t + l.length) (ySs S l)
  | [], _, _, h => h
  | q :: r, t, S, h => by
    have := GD.steps r (h.step q)
    rw [ySs, List.length_cons, show t + (r.length + 1) = t + 1 + r.length by omega]
    exact this
theorem doR_names (s : SS) (k : Int) (n d : ByteArray) : (doR s k n d).l.length ≤ s.L.length := by
  rw [doR]
  split
  · simp
  · split
    · simp
    · split
      · simp
      · split
        · simp
        · split
          · exact names_len _ _
          · split <;> simp
theorem yR_names {t : Nat} {S : List SS} (h : GD t S) (q : QT) : (yR S q).l.length ≤ t := by
  rw [yR]
  split
  · split
    · rename_i s hs
      exact Nat.le_trans (doR_names _ _ _ _) (h s (List.mem_of_getElem? hs)).len
    · simp
  · simp
theorem resI_app (A B : List RR) : resI (A ++ B) = resI A ++ resI B := by simp [resI]
theorem yRs_names : ∀ (l : List QT) {t : Nat} {S : List SS}, GD t S → (resI (yRs S l)).length ≤ l.length * (t + l.length)
  | [], _, _, _ => by simp [yRs, resI]
  | q :: r, t, S, h => by
    have h1 := yRs_names r (h.step q)
    have h2 := yR_names h q
    rw [yRs, show yR S q :: yRs (yS S q) r = [yR S q] ++ yRs (yS S q) r from rfl, resI_app, List.length_append]
    have h3 : (resI [yR S q]).length = (yR S q).l.length := by simp [resI]
    rw [h3, List.length_cons, Nat.add_mul, Nat.one_mul, show t + (r.length + 1) = t + 1 + r.length by omega]
    omega

def RPp (P : Nat → Prop) (w : World) (v : Value) (bs : List Nat) : Prop :=
  ∃ a c, v = .slice a bs.length c ∧ (bs = [] ∨ ∃ g o, a = some ⟨g, o, none⟩ ∧ P g ∧ g < w.heap.size ∧ ∀ i b, bs[i]? = some b → w.cell? ⟨g, o + i, none⟩ = some (.pointer (some ⟨b, 0, none⟩)))
structure YP (P : Nat → Prop) (w : World) (v : Value) (S : List SS) (bs : List (Nat × Nat)) : Prop where
  rp : RPp P w v (bs.map (·.1))
  len : bs.length = S.length
  px : ∀ (i : Nat) (e : Nat × Nat) (s : SS), bs[i]? = some e → S[i]? = some s → PX w e.1 e.2 s
  inP : ∀ e ∈ bs, P e.1 ∧ P e.2
  ap : ∀ (i j : Nat) (e f : Nat × Nat), bs[i]? = some e → bs[j]? = some f → i ≠ j → e.1 ≠ f.1 ∧ e.2 ≠ f.2
section
variable {P p : Nat → Prop} {w w' : World} {v : Value} {S : List SS} {bs : List (Nat × Nat)} {t : Nat}
theorem RPp.rp {bs : List Nat} (h : RPp P w v bs) : RP w v bs := by
  obtain ⟨a, c, e, h | ⟨g, o, ea, _, h⟩⟩ := h
  · exact ⟨a, c, e, .inl h⟩
  · exact ⟨a, c, e, .inr ⟨g, o, ea, h⟩⟩
theorem RPp.kb {bs : List Nat} (h : RPp P w v bs) (hs : w.heap.size ≤ w'.heap.size) (hk : ∀ i, i < w.heap.size → P i → (∃ j q, w.cell? ⟨i, j, none⟩ = some (.pointer q)) → w'.heap[i]? = w.heap[i]?) : RPp P w' v bs := by
  obtain ⟨a, c, e, h | ⟨g, o, ea, hP, hg, h⟩⟩ := h
  · exact ⟨a, c, e, .inl h⟩
  · refine ⟨a, c, e, .inr ⟨g, o, ea, hP, Nat.lt_of_lt_of_le hg hs, fun i b hb => ?_⟩⟩
    have hc := h i b hb
    have := hk g hg hP ⟨_, _, hc⟩
    simp only [World.cell?, this] at hc ⊢
    exact hc
theorem YP.gs (h : YP P w v S bs) (hg : Gs p w w') (hp : ∀ i, P i → ¬ p i) : YP P w' v S bs :=
  ⟨h.rp.kb hg.size fun i hi hP _ => hg.block i hi (hp i hP), h.len, fun i e s he hs => PS.gs (h.px i e s he hs) hg (hp _ (h.inP e (List.mem_of_getElem? he)).1) (hp _ (h.inP e (List.mem_of_getElem? he)).2), h.inP, h.ap⟩
theorem YP.bel (h : YP P w v S bs) (hb : Below w.heap.size w w') : YP P w' v S bs :=
  ⟨h.rp.kb hb.size fun i hi _ _ => hb.block i hi, h.len, fun i e s he hs => PS.bel (h.px i e s he hs) hb, h.inP, h.ap⟩
theorem YP.cross (h : YP P w v S bs) {i j : Nat} {e f : Nat × Nat} (he : bs[i]? = some e) (hf : bs[j]? = some f) : e.1 ≠ f.2 := fun eq => by
  obtain ⟨s, hs⟩ : ∃ s, S[i]? = some s := ⟨_, List.getElem?_eq_getElem (by rw [← h.len]; exact (List.getElem?_eq_some_iff.1 he).1)⟩
  obtain ⟨s', hs'⟩ : ∃ s, S[j]? = some s := ⟨_, List.getElem?_eq_getElem (by rw [← h.len]; exact (List.getElem?_eq_some_iff.1 hf).1)⟩
  have h1 : PS w e.1 e.2 s.q s.f s.off s.m s.L := h.px i e s he hs
  have h2 : PS w f.1 f.2 s'.q s'.f s'.off s'.m s'.L := h.px j f s' hf hs'
  have hb := h1.blk
  rw [eq] at hb
  exact h2.map.notCells hb
theorem YP.put (h : YP P w v S bs) {i : Nat} {e : Nat × Nat} {s s' : SS} (he : bs[i]? = some e) (hs : S[i]? = some s) (hg : Gs (two e.1 e.2) w w') (hX : PX w' e.1 e.2 s') : YP P w' v (S.set i s') bs := by
  refine ⟨h.rp.kb hg.size fun j hj _ hc => hg.block j hj ?_, by rw [List.length_set]; exact h.len, fun j f x hf hx => ?_, h.inP, h.ap⟩
  · obtain ⟨_, _, hc⟩ := hc
    exact (h.px i e s he hs).far hc
  · rw [List.getElem?_set] at hx
    by_cases hij : i = j
    · subst hij
      have hil : i < S.length := (List.getElem?_eq_some_iff.1 hs).1
      rw [if_pos rfl, if_pos hil] at hx
      cases hx
      rw [he] at hf
      cases hf
      exact hX
    · rw [if_neg hij] at hx
      have := h.ap i j e f he hf hij
      refine PS.gs (h.px j f x hf hx) hg ?_ ?_
      · rintro (q | q)
        · exact this.1 q.symm
        · exact h.cross hf he q
      · rintro (q | q)
        · exact h.cross he hf q.symm
        · exact this.2 q.symm
def Qs (bs : List (Nat × Nat)) (i : Nat) : Prop := ∃ e ∈ bs, i = e.1 ∨ i = e.2
theorem YP.qs (h : YP P w v S bs) {i : Nat} (hi : Qs bs i) : P i := by
  obtain ⟨e, he, h1 | h1⟩ := hi
  · rw [h1]; exact (h.inP e he).1
  · rw [h1]; exact (h.inP e he).2
theorem answer_any (h : YP P w v S bs) (hG : GD t S) (ht : t ≤ 1000) (q : QT) (hn : q.n.size ≤ maxLen) (hd : q.d.size ≤ maxLen) :
    Calls Tryz.prog 132 #[v, .agg #[.int .i64 q.st, .int .i64 q.k, .string q.n, .string q.d]] w fun e w' => ∃ u, e = .returned u ∧ AR w' w.heap.size u (yR S q) ∧ YP P w' v (yS S q) bs ∧ Gs (Qs bs) w w' := by
  by_cases h0 : 0 ≤ q.st
  · cases hs : S[q.st.toNat]? with
    | some s =>
      obtain ⟨e, he⟩ : ∃ e, bs[q.st.toNat]? = some e := ⟨_, List.getElem?_eq_getElem (by rw [h.len]; exact (List.getElem?_eq_some_iff.1 hs).1)⟩
      have hg := hG s (List.mem_of_getElem? hs)
      have hst : q.st = ((q.st.toNat : Nat) : Int) := by omega
      rw [yR, yS, if_pos h0, if_pos h0, hs]
      dsimp only
      have := answer_in h.rp.rp (i := q.st.toNat) (b := e.1) (by rw [List.getElem?_map, he]; rfl) (h.px _ e s he hs) q.k q.n q.d hn hd (by have := hg.len; omega) hg.m0 (by have := hg.mt; omega) hg.f
      rw [← hst] at this
      refine this.mono ?_
      rintro e' w' ⟨u, rfl, hA, hX, hG2⟩
      exact ⟨u, rfl, hA, h.put he hs hG2 hX, hG2.mono fun i _ hi => by
        rcases hi with hi | hi
        · exact ⟨e, List.mem_of_getElem? he, .inl hi⟩
        · exact ⟨e, List.mem_of_getElem? he, .inr hi⟩⟩
    | none =>
      rw [yR, yS, if_pos h0, if_pos h0, hs]
      have hl : S.length ≤ q.st.toNat := List.getElem?_eq_none_iff.1 hs
      refine (answer_out h.rp.rp q.st q.k q.n q.d (.inr (by rw [List.length_map, h.len]; omega))).mono ?_
      rintro e' w' ⟨rfl, hb⟩
      exact ⟨_, rfl, ⟨_, rfl, TS.nil _ _⟩, h.bel hb, Gs.of_below _ hb⟩
  · rw [yR, yS, if_neg h0, if_neg h0]
    refine (answer_out h.rp.rp q.st q.k q.n q.d (.inl (by omega))).mono ?_
    rintro e' w' ⟨rfl, hb⟩
    exact ⟨_, rfl, ⟨_, rfl, TS.nil _ _⟩, h.bel hb, Gs.of_below _ hb⟩
end
end Go.Proofs.YtagijldedngcoaaGreatDoor

namespace Go.Proofs.YtagijldedngcoaaGreatDoor
open Go.RowKit Go.Lib Go.Maps
inductive PN (α : Type) where
  | fin : α → PN α
  | ask : QT → (RR → PN α) → PN α
section
variable {α : Type}
def sqP : List QT → List RR → (List RR → PN α) → PN α
  | [], A, k => k A
  | q :: l, A, k => .ask q fun x => sqP l (A ++ [x]) k
def PN.aft : PN α → List RR → PN α
  | p, [] => p
  | .fin r, _ :: _ => .fin r
  | .ask _ k, x :: A => PN.aft (k x) A
def PN.tr : PN α → List SS → List QT
  | .fin _, _ => []
  | .ask q k, S => q :: PN.tr (k (yR S q)) (yS S q)
def PN.res : PN α → List SS → α
  | .fin r, _ => r
  | .ask q k, S => PN.res (k (yR S q)) (yS S q)
theorem tr_aft : ∀ (p : PN α) (S : List SS) (t : Nat), t ≤ (p.tr S).length → (p.aft (yRs S ((p.tr S).take t))).tr (ySs S ((p.tr S).take t)) = (p.tr S).drop t ∧ (p.aft (yRs S ((p.tr S).take t))).res (ySs S ((p.tr S).take t)) = p.res S
  | .fin r, S, t, h => by
    have : t = 0 := by simpa [PN.tr] using h
    subst this
    simp [PN.tr, yRs, ySs, PN.aft]
  | .ask q k, S, 0, _ => by simp [yRs, ySs, PN.aft]
  | .ask q k, S, t + 1, h => by
    have ih := tr_aft (k (yR S q)) (yS S q) t (by simpa [PN.tr] using h)
    simp only [PN.tr, List.take_succ_cons, yRs, ySs, PN.aft, List.drop_succ_cons, PN.res]
    exact ih
theorem aft_snoc : ∀ (A : List RR) (p : PN α) (x : RR), p.aft (A ++ [x]) = (p.aft A).aft [x]
  | [], p, x => by cases p <;> rfl
  | y :: A, .fin r, x => by simp only [List.cons_append, PN.aft]
  | y :: A, .ask q k, x => by simp only [List.cons_append, PN.aft]; exact aft_snoc A (k y) x
theorem aft_ask {q : QT} {k : RR → PN α} (x : RR) : (PN.ask q k).aft [x] = k x := by
  simp only [PN.aft]
theorem aft_at {p : PN α} {S : List SS} {t : Nat} {q : QT} (h : (p.tr S)[t]? = some q) : ∃ k, p.aft (yRs S ((p.tr S).take t)) = .ask q k := by
  obtain ⟨hl, rfl⟩ := List.getElem?_eq_some_iff.1 h
  have h1 := (tr_aft p S t (by omega)).1
  rw [List.drop_eq_getElem_cons hl] at h1
  cases hp : p.aft (yRs S ((p.tr S).take t)) with
  | fin r => rw [hp, PN.tr] at h1; cases h1
  | ask q' k => rw [hp, PN.tr] at h1; injection h1 with h2; exact ⟨k, by rw [h2]⟩
theorem aft_end {p : PN α} {S : List SS} : p.aft (yRs S (p.tr S)) = .fin (p.res S) := by
  have h1 := tr_aft p S (p.tr S).length (Nat.le_refl _)
  rw [List.take_length, List.drop_length] at h1
  cases hp : p.aft (yRs S (p.tr S)) with
  | fin r => rw [hp] at h1; rw [← h1.2]; rfl
  | ask q k => rw [hp, PN.tr] at h1; cases h1.1
theorem sqP_tr : ∀ (l : List QT) (A : List RR) (k : List RR → PN α) (S : List SS), (sqP l A k).tr S = l ++ (k (A ++ yRs S l)).tr (ySs S l)
  | [], A, k, S => by simp [sqP, yRs, ySs]
  | q :: l, A, k, S => by
    rw [sqP, PN.tr, sqP_tr l, yRs, ySs, List.append_assoc]
    rfl
theorem sqP_res : ∀ (l : List QT) (A : List RR) (k : List RR → PN α) (S : List SS), (sqP l A k).res S = (k (A ++ yRs S l)).res (ySs S l)
  | [], A, k, S => by simp [sqP, yRs, ySs]
  | q :: l, A, k, S => by
    rw [sqP, PN.res, sqP_res l, yRs, ySs, List.append_assoc]
    rfl
end
def okR (x : RR) : Prop := (∀ y ∈ x.l, y.size ≤ maxLen) ∧ x.d.size ≤ 1000000
theorem yR_ok {t : Nat} {S : List SS} (h : GD t S) (q : QT) : okR (yR S q) := by
  rw [yR]
  split
  · split
    · rename_i s hs
      have hg := h s (List.mem_of_getElem? hs)
      rw [doR]
      refine ⟨?_, ?_⟩
      · (repeat' split) <;> intro y hy <;> try (simp at hy; done)
        obtain ⟨p, hp, rfl⟩ := List.mem_map.1 hy
        have := (hg.sm p (List.mem_filter.1 hp).1).1
        unfold maxLen; omega
      · have hz : (0 : Nat) ≤ 1000000 := by omega
        (repeat' split) <;> first | exact hz | skip
        show ((thr s.L q.n).getD ⟨#[]⟩).size ≤ 1000000
        cases ht : thr s.L q.n with
        | none => exact hz
        | some x =>
          have := (thr_small hg.sm ht).2
          show x.size ≤ 1000000
          omega
    · exact ⟨fun y hy => by simp at hy, Nat.zero_le _⟩
  · exact ⟨fun y hy => by simp at hy, Nat.zero_le _⟩
end Go.Proofs.YtagijldedngcoaaGreatDoor
