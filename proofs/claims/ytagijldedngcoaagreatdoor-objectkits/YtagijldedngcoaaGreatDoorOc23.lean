/-
  Contracts of the program and of the statements (part 23 of 35).
-/
import Derived.Test.YtagijldedngcoaaGreatDoorOc22
import Derived.Test.YtagijldedngcoaaGreatDoorOc15
import Derived.Test.YtagijldedngcoaaGreatDoorOc18
import Derived.Test.YtagijldedngcoaaGreatDoorOc11
import Derived.Maps.OwnSet
import Derived.DeepKeys4

namespace Go.Proofs.YtagijldedngcoaaGreatDoor
open Go.RowKit Go.Lib
section
variable {P : Program} {md : Region.Mode} {ops : Array Oper} {Q : Exit → Act → World → Prop} {S : World → Prop} {z : Nat}
def AnyZ (P : Program) (md : Region.Mode) (ops : Array Oper) (Q : Exit → Act → World → Prop) (S : World → Prop) (z : Nat) : Nat → Array Bool → Act → World → Prop
  | 0, lis, a, w => Region.ready md ops lis = [] ∧ Q .normal a w
  | f + 1, lis, a, w => (Region.ready md ops lis = [] → Q .normal a w) ∧ ∀ j ∈ Region.ready md ops lis, wpOp P ops Q j (fun a' w' => (j ≠ z → S w') ∧ AnyZ P md ops Q S z f (lis.setIfInBounds j true) a' w') a w
theorem AnyZ.any : ∀ (f : Nat) (lis : Array Bool) (a : Act) (w : World), AnyZ P md ops Q S z f lis a w → wpAny P md ops Q f lis a w
  | 0, _, _, _, h => h
  | f + 1, _, _, _, h => ⟨h.1, fun j hj => wpOp_mono (fun a' w' k => AnyZ.any f _ a' w' k.2) (h.2 j hj)⟩
def waitsB (md : Region.Mode) (ops : Array Oper) (z i : Nat) : Bool := match ops[z]? with
  | some o => o.after.any fun e => Region.binds md e && e.on == i
  | none => true
theorem not_ready {i : Nat} {lis : Array Bool} (hz : waitsB md ops z i = true) (hi : i ∈ Region.ready md ops lis) (hr : z ∈ Region.ready md ops lis) : False := by
  obtain ⟨_, o, ho, hall⟩ := mem_ready.1 hr
  obtain ⟨h0, _⟩ := mem_ready.1 hi
  unfold waitsB at hz
  rw [ho] at hz
  obtain ⟨k, hk, he⟩ := Array.any_eq_true.1 hz
  simp only [Bool.and_eq_true, beq_iff_eq] at he
  have h1 := hall _ (Array.getElem_mem hk) he.1
  rw [he.2] at h1
  rcases Nat.lt_or_ge i lis.size with h | h
  · simp [h] at h0 h1; rw [h0] at h1; cases h1
  · simp [Array.getElem?_eq_none h] at h1
theorem AnyZ.first {i : Nat} {oi : Oper} {v : Value} (hi : ops[i]? = some oi) (hsel : ∀ (j : Nat) (o : Oper) cs b, ops[j]? = some o → o.op ≠ .select cs b) (hz : waitsB md ops z i = true)
    (hQ : ∀ c a w, Q (.panic c) (a.put oi.dst v) w → Q (.panic c) a w) :
    ∀ (f : Nat) (lis : Array Bool) (a : Act) (w : World),
      (∀ j oj, ops[j]? = some oj → j ≠ i → lis.getD j true = false → (∀ e ∈ oj.after, Region.binds md e = true → e.on ≠ i) → oi.apart ops oj = true) →
      i ∈ Region.ready md ops lis → YieldsIf P ops S oi v a → S w →
      AnyZ P md ops Q S z f (lis.setIfInBounds i true) (a.put oi.dst v) w → AnyZ P md ops Q S z (f + 1) lis a w
  | f, lis, a, w, hap, hr, hy, hS, H => by
    refine ⟨fun h => (by rw [h] at hr; cases hr), fun j hj => ?_⟩
    by_cases hji : j = i
    · subst hji; exact hy.wpOp hi hS ⟨fun _ => hS, H⟩
    have hrj := ready_mono hj hji
    match f, H with
    | 0, H => rw [H.1] at hrj; cases hrj
    | f + 1, H =>
      have hjz : j ≠ z := fun e => not_ready hz hr (e ▸ hj)
      obtain ⟨hun, oj, hoj, hall⟩ := mem_ready.1 hj
      have hno : ∀ e ∈ oj.after, Region.binds md e = true → e.on ≠ i := fun e he hb heq => by
        have h1 := hall e he hb
        have h0 := (mem_ready.1 hr).1
        rw [heq] at h1
        rcases Nat.lt_or_ge i lis.size with h | h
        · simp [h] at h0 h1; rw [h0] at h1; cases h1
        · simp [Array.getElem?_eq_none h] at h1
      have h2 := wpOp_putIf hoj (hap j oj hoj hji hun hno) (fun cs b => hsel i oi cs b hi) (fun cs b => hsel j oj cs b hoj) hQ hy (H.2 j hrj)
      refine wpOp_mono (fun a' w' h3 => ?_) h2
      have hS' := h3.2.1 hjz
      refine ⟨fun _ => hS', AnyZ.first hi hsel hz hQ f (lis.setIfInBounds j true) a' w' (fun k ok hk hki hu hn => hap k ok hk hki ?_ hn) (ready_mono hr (Ne.symm hji)) h3.1 hS' ?_⟩
      · by_cases hjk : j = k
        · subst hjk; exact hun
        · rw [getD_set_ne true hjk] at hu; exact hu
      · rw [Array.setIfInBounds_comm _ _ hji]
        exact h3.2.2
theorem AnyZ.take {i d : Nat} {oi : Oper} {v : Value} {f : Nat} {lis : Array Bool} {a : Act} {w : World} (hi : ops[i]? = some oi) (hd : oi.dst = some d)
    (hs : Region.noSelect ops = true) (hf : Region.free md ops lis i = true) (hr : (Region.ready md ops lis).contains i = true) (hz : waitsB md ops z i = true)
    (hQ : ∀ c a w, Q (.panic c) (a.put oi.dst v) w → Q (.panic c) a w) (hy : YieldsIf P ops S oi v a) (hS : S w)
    (h : AnyZ P md ops Q S z f (lis.setIfInBounds i true) ⟨a.tmps.setIfInBounds d v, a.defers⟩ w) : AnyZ P md ops Q S z (f + 1) lis a w :=
  AnyZ.first hi (Region.noSelect_spec hs) hz hQ f lis a w (Region.free_spec hi hf) (by simpa using hr) hy hS (by rw [hd]; exact h)
theorem AnyZ.one {i : Nat} {o : Oper} {f : Nat} {lis : Array Bool} {a : Act} {w : World} (hr : Region.ready md ops lis = [i]) (ho : ops[i]? = some o)
    (h : ∀ K' : Act → World → Prop, Shut (∀ a w, (i ≠ z → S w) → ((i ≠ z → S w) → AnyZ P md ops Q S z f (lis.setIfInBounds i true) a w) → K' a w) → if Region.wanted o (yielded ops a.tmps) = true then Oper.wp P o a w K' Q else K' (a.put o.dst undef) w) :
    AnyZ P md ops Q S z (f + 1) lis a w := by
  refine ⟨fun h0 => (by rw [hr] at h0; cases h0), fun j hj => ?_⟩
  rw [hr] at hj
  have : j = i := by simpa using hj
  subst this
  exact wpOp_step ho fun K' hK => h K' fun a w hS hW => hK a w ⟨hS, hW hS⟩
theorem AnyZ.done {lis : Array Bool} {a : Act} {w : World} (hr : Region.ready md ops lis = []) (h : Q .normal a w) : ∀ f, AnyZ P md ops Q S z f lis a w
  | 0 => ⟨hr, h⟩
  | _ + 1 => ⟨fun _ => h, by rw [hr]; simp⟩
theorem AnyZ.start {id : Nat} {a : Act} {w : World} (hm : P.follows .mixedOrders = true) (h : AnyZ P .any ops Q S z ops.size (Array.replicate ops.size false) a w.drew) : (Code.region id ops true).wp P Q a w :=
  wp_region_any hm (AnyZ.any _ _ _ _ h)
end
end Go.Proofs.YtagijldedngcoaaGreatDoor

namespace Go.Proofs.YtagijldedngcoaaGreatDoor
open Go.RowKit Go.Lib Go.Maps
theorem wlaidOut : laidOutB Tryz.prog = true := by kernel_rfl
theorem wlaw : Keyed Tryz.prog 278 := Keyed.of_law (deep_law_laid (m := 3) wlaidOut (by omega) (of_decide_eq_true (by kernel_rfl)) (by kernel_rfl) (by kernel_rfl))
theorem wzero (w : World) : (zeroValue 3).run Tryz.prog w = .ok (.int .i64 0) w := by kernel_rfl
def kW (z : Int) (d : ByteArray) : Lit := .string (keyBytes [.int .i64 z, .string d.data.toList])
theorem wwf {x : Int} (h1 : 0 ≤ x) (h2 : x ≤ 65536) : (Lit.int .i64 x).wf = true := WalkArith.wf_i64 ⟨by omega, by omega⟩
theorem kW_of {z : Int} {d : ByteArray} (h1 : 0 ≤ z) (h2 : z ≤ 65536) (h3 : d.size ≤ 1000000) : keyOf Tryz.prog 278 (.agg #[.int .i64 z, .string d]) = some (kW z d) := by
  have e0 : Tryz.prog.types.size = (Tryz.prog.types.size - 1) + 1 := by
    have : decide (0 < Tryz.prog.types.size) = true := by kernel_rfl
    have := of_decide_eq_true this
    omega
  have hu := Tryz.underlying278
  have hi := Tryz.underlying3
  have hs := Tryz.underlying9
  have c1 : Tryz.prog.cellsOf 3 = 1 := by kernel_rfl
  have c2 : Tryz.prog.cellsOf 9 = 1 := by kernel_rfl
  have c3 : Tryz.prog.cellsOf 278 = 2 := by kernel_rfl
  have hk : Tryz.prog.keyType 278 = true := by kernel_rfl
  have hw := wwf h1 h2
  have hm : d.size ≤ maxLen := by unfold maxLen; omega
  have k1 : ∀ m, Tryz.prog.keyLits (m + 1) 3 [.int .i64 z] = some [.int .i64 z] := fun m => by
    unfold Program.keyLits
    simp [hi, hw]
  have k2 : ∀ m, Tryz.prog.keyLits (m + 1) 9 [.string d] = some [.string d.data.toList] := fun m => by
    unfold Program.keyLits
    simp [hs, hm]
  have k3 : ∀ m, Tryz.prog.keyLits (m + 2) 278 [.int .i64 z, .string d] = some [.int .i64 z, .string d.data.toList] := fun m => by
    unfold Program.keyLits
    simp [hu, c1, c2, c3, k1, k2]
  unfold keyOf
  rw [hu]
  simp only [hk, Value.formed, hu, c3, Bool.true_and, List.size_toArray, List.length_cons, List.length_nil, Nat.reduceAdd, beq_self_eq_true, if_true, Value.cells]
  rw [e0, show Tryz.prog.types.size - 1 + 1 + 1 = (Tryz.prog.types.size - 1) + 2 from rfl, k3]
  rfl
theorem kW_inj {z z' : Int} {d d' : ByteArray} (h1 : 0 ≤ z ∧ z ≤ 65536 ∧ d.size ≤ 1000000) (h2 : 0 ≤ z' ∧ z' ≤ 65536 ∧ d'.size ≤ 1000000) (h : kW z d = kW z' d') : z = z' ∧ d = d' := by
  have a := kW_of h1.1 h1.2.1 h1.2.2
  have b := kW_of h2.1 h2.2.1 h2.2.2
  rw [← h] at b
  have := wlaw.inj a b
  simp at this
  exact this
def MW (w : World) (b n : Nat) (f : Int → ByteArray → Option Nat) : Prop :=
  ∃ D : DataW Unit, w.ownsMap Tryz.prog 278 (plainElem Tryz.prog 3) b n D ∧ (∀ x d, 0 ≤ x → x ≤ 65536 → d.size ≤ 1000000 → has D (kW x d) = (f x d).isSome) ∧ ∀ x d i, 0 ≤ x → x ≤ 65536 → d.size ≤ 1000000 → f x d = some i → ∀ z, D.atKey (kW x d) z = .lit (.int .i64 (i : Int))
section
variable {w w' : World} {b n : Nat} {f : Int → ByteArray → Option Nat}
theorem MW.made (w : World) : MW (w.alloc (.map #[] 0)) w.heap.size 0 (fun _ _ => none) :=
  ⟨_, World.ownsMap_made w _ _ _, fun x d _ _ _ => by simp [has], fun x d i _ _ _ h => by cases h⟩
theorem MW.kept {row : Option Nat} (h : MW w b n f) (hg : w.grownBy w' row) (hne : some b ≠ row) : MW w' b n f := by
  obtain ⟨D, h1, h2⟩ := h
  exact ⟨D, h1.kept hg hne, h2⟩
theorem MW.bel (h : MW w b n f) (hb : Below w.heap.size w w') : MW w' b n f := h.kept (row := none) ⟨hb.os, hb.tape, hb.output, hb.size, fun i hi _ => hb.block i hi⟩ (by simp)
theorem MW.kb (h : MW w b n f) (e : w'.heap[b]? = w.heap[b]?) : MW w' b n f := by
  obtain ⟨D, ⟨es, clock, hb, h1⟩, h2⟩ := h
  exact ⟨D, ⟨es, clock, e.trans hb, h1⟩, h2⟩
theorem MW.up (h : MW w b n f) {m : Nat} (hm : n ≤ m) : MW w b m f := by
  obtain ⟨D, h1, h2⟩ := h
  exact ⟨D, h1.mono hm, h2⟩
theorem MW.isMap (h : MW w b n f) : ∃ es clock, w.heap[b]? = some (.map es clock) := by
  obtain ⟨D, ⟨es, clock, hb, _⟩, _⟩ := h
  exact ⟨es, clock, hb⟩
theorem MW.look (h : MW w b n f) {x : Int} {d : ByteArray} (h1 : 0 ≤ x) (h2 : x ≤ 65536) (h3 : d.size ≤ 1000000) :
    (Instr.lookup 274 (.map (some b)) (.agg #[.int .i64 x, .string d]) true).run Tryz.prog w = .ok (.tuple #[.int .i64 (((f x d).getD 0 : Nat) : Int), .bool (f x d).isSome]) w := by
  obtain ⟨D, hD, hh, ha⟩ := h
  obtain ⟨v, ps, hr, hv⟩ := hD.look_ok wlaw Tryz.underlying274 (wzero w) (plainElem_int Tryz.underlying3 (by decide)) (kW_of h1 h2 h3)
  obtain ⟨a, rfl, e, _⟩ := plainElem_int_inv Tryz.underlying3 hv
  rw [hr, hh x d h1 h2 h3]
  simp only [Prod.mk.injEq] at e
  cases hf : f x d with
  | none =>
    have := atKey_of_not_has (D := D) (k := kW x d) (by rw [hh x d h1 h2 h3, hf]; rfl) (.lit (.int .i64 0))
    rw [this] at e
    simp at e
    rw [← e.1]
    rfl
  | some i =>
    rw [ha x d i h1 h2 h3 hf] at e
    simp at e
    rw [← e.1]
    rfl
theorem MW.update (h : MW w b n f) (hn : n ≤ 100000) {x : Int} {d : ByteArray} (h1 : 0 ≤ x) (h2 : x ≤ 65536) (h3 : d.size ≤ 1000000) {i : Nat} (hi : i ≤ 100000) :
    ∃ w', (Instr.mapUpdate 274 (.map (some b)) (.agg #[.int .i64 x, .string d]) (.int .i64 (i : Int))).run Tryz.prog w = .ok () w' ∧ MW w' b (n + 1) (fun y e => if y = x ∧ e = d then some i else f y e) ∧ w.grownBy w' (some b) := by
  obtain ⟨D, hD, hh, ha⟩ := h
  obtain ⟨w', hr, hD', hg⟩ := hD.update wlaw Tryz.underlying274 (by unfold maxLen; omega) (kW_of h1 h2 h3) (plainElem_int Tryz.underlying3 (a := (i : Int)) (WalkArith.wf_i64 ⟨by omega, by omega⟩))
  have hM := hD.isMap
  have hkl : WideAt.IsKeyLit (kW x d) := wlaw.key (kW_of h1 h2 h3)
  have hne : ∀ {y : Int} {e : ByteArray}, 0 ≤ y → y ≤ 65536 → e.size ≤ 1000000 → ¬ (y = x ∧ e = d) → kW y e ≠ kW x d := fun k1 k2 k3 hn he => hn (kW_inj ⟨k1, k2, k3⟩ ⟨h1, h2, h3⟩ he)
  refine ⟨w', hr, ⟨_, hD', fun y e k1 k2 k3 => ?_, fun y e j k1 k2 k3 hy z => ?_⟩, hg⟩
  · by_cases he : y = x ∧ e = d
    · obtain ⟨rfl, rfl⟩ := he
      simp only [and_self, if_true, Option.isSome_some]
      exact has_true_of_atKey (fun z => atKey_put_same hM hkl _ z)
    · simp only [if_neg he]
      rw [has_put_other (hne k1 k2 k3 he), hh y e k1 k2 k3]
  · by_cases he : y = x ∧ e = d
    · obtain ⟨rfl, rfl⟩ := he
      simp only [and_self, if_true, Option.some.injEq] at hy
      subst hy
      exact atKey_put_same hM hkl _ z
    · simp only [if_neg he] at hy
      rw [atKey_put_other (hne k1 k2 k3 he)]
      exact ha y e j k1 k2 k3 hy z
end
end Go.Proofs.YtagijldedngcoaaGreatDoor

namespace Go.Proofs.YtagijldedngcoaaGreatDoor
open Go.RowKit Go.Lib Go.Maps

structure JOB (J : List RR → (Nat → Prop) → World → Prop) (K : List RR → Prop) (L : List QT) (b : Nat) : Prop where
  gs : ∀ {A : List RR} {P p : Nat → Prop} {w w' : World}, J A P w → Gs p w w' → (∀ i, P i → ¬ p i) → J A P w'
  lt : ∀ {A : List RR} {P : Nat → Prop} {w : World}, J A P w → ∀ i, P i → i < w.heap.size
  hb : ∀ {A : List RR} {P : Nat → Prop} {w : World}, J A P w → P b
  le : ∀ {A : List RR} {P : Nat → Prop} {w : World}, J A P w → A.length ≤ L.length
  next1 : ∀ {A : List RR} {P : Nat → Prop} {w : World} {q : QT}, J A P w → L[A.length]? = some q → Calls Tryz.prog 38 #[.pointer (some ⟨b, 0, none⟩)] w fun e w' => e = .returned (.tuple #[.agg #[.int .i64 q.st, .int .i64 q.k, .string q.n, .string q.d], .bool true]) ∧ Below w.heap.size w w'
  next0 : ∀ {A : List RR} {P : Nat → Prop} {w : World}, J A P w → A.length = L.length → Calls Tryz.prog 38 #[.pointer (some ⟨b, 0, none⟩)] w fun e w' => e = .returned (.tuple #[.agg #[.int .i64 0, .int .i64 0, .string ⟨#[]⟩, .string ⟨#[]⟩], .bool false]) ∧ Below w.heap.size w w'
  over : ∀ {A : List RR} {P : Nat → Prop} {w : World}, J A P w → Calls Tryz.prog 29 #[.pointer (some ⟨b, 0, none⟩)] w fun e w' => e = .returned (.bool (!decide (A.length < L.length))) ∧ w' = w
  give : ∀ {A : List RR} {P r0 : Nat → Prop} {w : World} {u : Value} {ll : List ByteArray} (cc : Int) (dd : ByteArray), J A P w → A.length < L.length → LS t1 1 r0 w u ll → ¬ r0 b → ll.length ≤ 1000000000000 → (resI (A ++ [⟨cc, dd, ll⟩])).length ≤ 1000000000000 → okR ⟨cc, dd, ll⟩ → Zq.Sh.Laid w → K (A ++ [⟨cc, dd, ll⟩]) →
    Calls Tryz.prog 40 #[.pointer (some ⟨b, 0, none⟩), .agg #[.int .i64 cc, .string dd, u]] w fun e w' => e = .returned (.int .i64 0) ∧ ∃ P', J (A ++ [⟨cc, dd, ll⟩]) P' w' ∧ Gs P w w' ∧ ∀ i, P' i → P i ∨ w.heap.size ≤ i
theorem laid_gs {p : Nat → Prop} {w w' : World} (h : Zq.Sh.Laid w) (hg : Gs p w w') (hp : ∀ i, p i → 2 ≤ i) : Zq.Sh.Laid w' := by
  have hs := h.size
  exact h.of (hg.block _ (by omega) fun e => by have := hp _ e; omega) (hg.block _ (by omega) fun e => by have := hp _ e; omega)
theorem Gs.tr2 {p p' : Nat → Prop} {w w1 w2 : World} (h : Gs p w w1) (k : Gs p' w1 w2) (hp : ∀ i, i < w.heap.size → p' i → p i) : Gs p w w2 :=
  ⟨k.os.trans h.os, k.tape.trans h.tape, k.output.trans h.output, Nat.le_trans h.size k.size, fun i hi hn => (k.block i (Nat.lt_of_lt_of_le hi h.size) (fun e => hn (hp i hi e))).trans (h.block i hi hn)⟩
structure RU (J : List RR → (Nat → Prop) → World → Prop) (w wr : World) (A : List RR) (D : List QT) (S : List SS) (bs : List (Nat × Nat)) (v : Value) (Pj Py Pj' : Nat → Prop) (t : Nat) : Prop where
  j : J (A ++ yRs S (D.take t)) Pj' wr
  y : YP Py wr v (ySs S (D.take t)) bs
  g : Gs (fun i => Pj i ∨ Qs bs i) w wr
  p : ∀ i, Pj' i → Pj i ∨ w.heap.size ≤ i
  l : Zq.Sh.Laid wr
section
variable {J : List RR → (Nat → Prop) → World → Prop} {K : List RR → Prop} {L D : List QT} {b : Nat} {A : List RR} {Pj Py Pj' : Nat → Prop} {w wr w' : World} {v : Value} {S : List SS} {bs : List (Nat × Nat)} {t g : Nat}
theorem RU.bel (hJ : JOB J K L b) (h : RU J w wr A D S bs v Pj Py Pj' t) (hb : Below wr.heap.size wr w') : RU J w w' A D S bs v Pj Py Pj' t := by
  have hl := hJ.lt h.j
  exact ⟨hJ.gs (p := fun i => wr.heap.size ≤ i) h.j (Gs.of_below _ hb) (fun i hi hn => by have := hl i hi; omega), h.y.bel hb, h.g.bel hb, h.p, h.l.below hb h.l.size⟩
set_option maxRecDepth 100000 in
set_option maxHeartbeats 3200000 in
theorem run_any (hJ : JOB J K L b) (h : J A Pj w) (hY : YP Py w v S bs) (hap : ∀ i, Pj i → ¬ Py i) (hPy : ∀ i, Py i → i < w.heap.size) (hG : GD g S) (hg : g + L.length ≤ 1000) (hI : (resI A).length ≤ 1000000000) (hq : ∀ q ∈ L, q.n.size ≤ maxLen ∧ q.d.size ≤ maxLen) (hLw : Zq.Sh.Laid w) (hP2 : ∀ i, Pj i → 2 ≤ i) (hQ2 : ∀ i, Qs bs i → 2 ≤ i) (hK : ∀ t, t ≤ L.length - A.length → K (A ++ yRs S ((L.drop A.length).take t))) (most : Int) (hm : 0 ≤ most) :
    Calls Tryz.prog 76 #[.pointer (some ⟨b, 0, none⟩), v, .int .i64 most] w fun e w' => ∃ t : Nat, t = min (L.length - A.length) most.toNat ∧ e = .returned (.tuple #[.int .i64 (t : Int), .int .i64 (if A.length + t < L.length then 2 else 0)]) ∧ ∃ Pj', RU J w w' A (L.drop A.length) S bs v Pj Py Pj' t := by
  obtain ⟨D, hD⟩ : ∃ D, D = L.drop A.length := ⟨_, rfl⟩
  rw [← hD] at hK ⊢
  have HKK := hide hK
  have HL2 := hide (And.intro hLw.size (And.intro hP2 hQ2))
  have hAL := hJ.le h
  have hDl : D.length = L.length - A.length := by rw [hD]; simp
  have H0 : Hid (RU J w w A D S bs v Pj Py Pj 0) := ⟨by simpa [yRs] using h, by simpa [ySs] using hY, Gs.refl _ _, fun i hi => .inl hi, hLw⟩
  have hm2 : ¬ most < 0 := by omega
  have HD := hide (And.intro hD hDl)
  have hLl : L.length ≤ 1000 := by omega
  have HJ := hide hJ
  have HG := hide hG
  have HQ := hide hq
  have HAP := hide (And.intro hap hPy)
  clear h hY hap hPy hG hq hD hDl hJ hK hLw hP2 hQ2
  go_enter Tryz.func76, Tryz.ntmps76
  go_wp2
  go_loopw [6] (fun i wr => ∃ (t : Nat) (Pj' : Nat → Prop), t ≤ L.length - A.length ∧ (t : Int) ≤ most ∧ i = .int .i64 t ∧ RU J w wr A D S bs v Pj Py Pj' t) (fun i _ => 1000 - (intOf i).toNat)
  case atStart => exact ⟨0, Pj, Nat.zero_le _, by omega, rfl, H0.out⟩
  case round =>
    obtain ⟨t, Pj', ht, htm, rfl, hR⟩ := hrel
    have HR := hide hR
    clear hR
    have hlen : (A ++ yRs S (D.take t)).length = A.length + t := by
      have := HD.out.2
      rw [List.length_append, yRs_len, List.length_take]; omega
    by_cases hlt : (t : Int) < most
    · by_cases hw : A.length + t < L.length
      · obtain ⟨q, hq⟩ : ∃ q, L[A.length + t]? = some q := ⟨_, List.getElem?_eq_getElem hw⟩
        have HN := hide (HJ.out.next1 HR.out.j (by rw [hlen]; exact hq))
        have HHQ := hide hq
        have hqs := HQ.out q (List.mem_of_getElem? hq)
        have HDt : Hid (D.take (t + 1) = D.take t ++ [q]) := take_snoc_at (by rw [HD.out.1, List.getElem?_drop]; exact hq)
        clear hq
        go_wp2_with fail
        refine HN.out.mono ?_
        rintro e w1 ⟨rfl, hB1⟩
        obtain ⟨Zw, hZw⟩ : ∃ Zw, Zw = w1.alloc (.cells #[.int .i64 q.st, .int .i64 q.k, .string q.n, .string q.d] 81) := ⟨_, rfl⟩
        have hRZ : RU J w Zw A D S bs v Pj Py Pj' t := by
          rw [hZw]
          exact ((HR.out.bel HJ.out hB1).bel HJ.out ((Below.refl _ _).alloc (Nat.le_refl _) _))
        have hGt : GD (g + (D.take t).length) (ySs S (D.take t)) := GD.steps _ HG.out
        have htl : (D.take t).length = t := by have := HD.out.2; rw [List.length_take]; omega
        have HA := hide (answer_any hRZ.y hGt (by omega) q hqs.1 hqs.2)
        have HRZ := hide hRZ
        have HGT := hide hGt
        have HZw := hide hZw
        have HTL := hide htl
        have hblk : Zw.heap[w1.heap.size]? = some (.cells #[.int .i64 q.st, .int .i64 q.k, .string q.n, .string q.d] 81 (0, 0)) := by rw [hZw]; exact heap_alloc_new w1 _
        have k0 : Zw.cell? ⟨w1.heap.size, 0, none⟩ = some (.int .i64 q.st) := by simp [World.cell?, hblk]
        have k1 : Zw.cell? ⟨w1.heap.size, 1, none⟩ = some (.int .i64 q.k) := by simp [World.cell?, hblk]
        have k2 : Zw.cell? ⟨w1.heap.size, 2, none⟩ = some (.string q.n) := by simp [World.cell?, hblk]
        have k3 : Zw.cell? ⟨w1.heap.size, 3, none⟩ = some (.string q.d) := by simp [World.cell?, hblk]
        clear hRZ hGt hZw htl hblk hB1 hqs
        go_upto_region 8 with fail
        rw [← HZw.out]
        go_wp2_with fail
        refine HA.out.mono ?_
        rintro e w3 ⟨u, rfl, hAR, hY3, hG3⟩
        have hdis : ∀ i, Pj' i → ¬ Py i := fun i hi hp => by
          rcases HR.out.p i hi with h | h
          · exact HAP.out.1 i h hp
          · have := HAP.out.2 i hp; omega
        have hJ3 := HJ.out.gs HRZ.out.j hG3 fun i hi hq => hdis i hi (HRZ.out.y.qs hq)
        have hbZ := HJ.out.lt HRZ.out.j b (HJ.out.hb HRZ.out.j)
        obtain ⟨ua, uc, rfl, hTS⟩ := hAR.shp
        have hnm := yR_names HGT.out q
        have hL3 := laid_gs HRZ.out.l hG3 HL2.out.2.2
        have hK3 := HKK.out (t + 1) (by omega)
        rw [HDt.out, yRs_snoc, ← List.append_assoc] at hK3
        have hGv := HJ.out.give (r0 := fun i => Zw.heap.size ≤ i) (yR (ySs S (D.take t)) q).c (yR (ySs S (D.take t)) q).d hJ3 (by rw [hlen]; exact hw) (hTS.ls fun i hi => (hTS.lt i hi).1) (by omega) (by have := HTL.out; omega) (by
          have e : A ++ yRs S (D.take t) ++ [(⟨(yR (ySs S (D.take t)) q).c, (yR (ySs S (D.take t)) q).d, (yR (ySs S (D.take t)) q).l⟩ : RR)] = A ++ yRs S (D.take t ++ [q]) := by rw [yRs_snoc, List.append_assoc]
          rw [e, resI_app, List.length_append]
          have h1 := yRs_names (D.take t ++ [q]) HG.out
          have h2 : (D.take t ++ [q]).length = t + 1 := by rw [List.length_append, HTL.out]; rfl
          rw [h2] at h1
          have h3 : (t + 1) * (g + (t + 1)) ≤ 1000 * 1000 := Nat.mul_le_mul (by omega) (by omega)
          omega) (yR_ok HGT.out q) hL3 hK3
        have HGv := hide hGv
        have HF3 := hide (And.intro hY3 (And.intro hG3 hdis))
        obtain ⟨un, hun⟩ : ∃ un, un = (yR (ySs S (D.take t)) q).l.length := ⟨_, rfl⟩
        rw [← hun] at HGv ⊢
        clear hY3 hG3 hdis hJ3 hbZ hTS hnm hGv hAR hun hK3 hL3
        go_wp2_with fail
        refine HGv.out.mono ?_
        rintro e w4 ⟨rfl, P4, hJ4, hG4, hP4⟩
        have HE : Hid (RU J w w4 A D S bs v Pj Py P4 (t + 1)) := by
          obtain ⟨hY3, hG3, hdis⟩ := HF3.out
          have hs1 := HRZ.out.g.size
          have hs2 := hG3.size
          refine ⟨?_, ?_, ?_, ?_, ?_⟩
          · rw [HDt.out, yRs_snoc, ← List.append_assoc]; exact hJ4
          · rw [HDt.out, ySs_snoc]; exact hY3.gs hG4 fun i hi hp => hdis i hp hi
          · refine (HRZ.out.g.tr2 hG3 fun i _ hp => .inr hp).tr2 hG4 fun i hi hp => ?_
            rcases HRZ.out.p i hp with h | h
            · exact .inl h
            · omega
          · intro i hi
            rcases hP4 i hi with h | h
            · exact HRZ.out.p i h
            · exact .inr (by omega)
          · refine laid_gs (laid_gs HRZ.out.l hG3 HL2.out.2.2) hG4 fun i hi => ?_
            rcases HRZ.out.p i hi with h | h
            · exact HL2.out.2.1 i h
            · have := HL2.out.1; omega
        clear hJ4 hG4 hP4
        go_wp2
        exact ⟨⟨t + 1, P4, by omega, by omega, by go_num, HE.out⟩, by simp [intOf]; omega⟩
      · have hl2 : A.length + t = L.length := by omega
        have HN := hide (HJ.out.next0 HR.out.j (by rw [hlen]; exact hl2))
        go_wp2_with fail
        refine HN.out.mono ?_
        rintro e w1 ⟨rfl, hB1⟩
        obtain ⟨Zw, hZw⟩ : ∃ Zw, Zw = w1.alloc (.cells #[.int .i64 0, .int .i64 0, .string ⟨#[]⟩, .string ⟨#[]⟩] 81) := ⟨_, rfl⟩
        have hRZ : RU J w Zw A D S bs v Pj Py Pj' t := by
          rw [hZw]
          exact ((HR.out.bel HJ.out hB1).bel HJ.out ((Below.refl _ _).alloc (Nat.le_refl _) _))
        have HO := hide (HJ.out.over hRZ.j)
        rw [hlen, decide_eq_false hw] at HO
        have HRZ := hide hRZ
        have HZw := hide hZw
        clear hRZ hZw hB1
        go_wp2_with fail
        rw [← HZw.out]
        refine HO.out.mono ?_
        rintro e w2 ⟨rfl, rfl⟩
        have HE : Hid (∃ t' : Nat, t' = min (L.length - A.length) most.toNat ∧ Ending.returned (.tuple #[.int .i64 (t : Int), .int .i64 0]) = .returned (.tuple #[.int .i64 (t' : Int), .int .i64 (if A.length + t' < L.length then 2 else 0)]) ∧ ∃ Pj', RU J w w2 A D S bs v Pj Py Pj' t') := ⟨t, by omega, by rw [if_neg hw], Pj', HRZ.out⟩
        go_wp2
        go_ret2
        exact HE.out
    · have HO := hide (HJ.out.over HR.out.j)
      rw [hlen] at HO
      have HTM : Hid (t = min (L.length - A.length) most.toNat) := by show t = min (L.length - A.length) most.toNat; omega
      by_cases hw : A.length + t < L.length
      · rw [decide_eq_true hw] at HO
        go_wp2_with fail
        refine HO.out.mono ?_
        rintro e w2 ⟨rfl, rfl⟩
        have HE : Hid (∃ t' : Nat, t' = min (L.length - A.length) most.toNat ∧ Ending.returned (.tuple #[.int .i64 (t : Int), .int .i64 2]) = .returned (.tuple #[.int .i64 (t' : Int), .int .i64 (if A.length + t' < L.length then 2 else 0)]) ∧ ∃ Pj', RU J w w2 A D S bs v Pj Py Pj' t') := ⟨t, HTM.out, by rw [if_pos hw], Pj', HR.out⟩
        go_wp2
        go_ret2
        exact HE.out
      · rw [decide_eq_false hw] at HO
        go_wp2_with fail
        refine HO.out.mono ?_
        rintro e w2 ⟨rfl, rfl⟩
        have HE : Hid (∃ t' : Nat, t' = min (L.length - A.length) most.toNat ∧ Ending.returned (.tuple #[.int .i64 (t : Int), .int .i64 0]) = .returned (.tuple #[.int .i64 (t' : Int), .int .i64 (if A.length + t' < L.length then 2 else 0)]) ∧ ∃ Pj', RU J w w2 A D S bs v Pj Py Pj' t') := ⟨t, HTM.out, by rw [if_neg hw], Pj', HR.out⟩
        go_wp2
        go_ret2
        exact HE.out
end
end Go.Proofs.YtagijldedngcoaaGreatDoor
