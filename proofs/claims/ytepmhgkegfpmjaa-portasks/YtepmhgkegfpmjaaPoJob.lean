/-
  Port: a job in memory; its small calls.
-/
import Derived.Test.YtepmhgkegfpmjaaPoRow
import Derived.Test.YtepmhgkegfpmjaaPsMem
import Derived.Deep.MidRow
import Derived.Laws.EntriesVeiled
namespace Go.Proofs.Ytepmhgkegfpmjaa
open Go.RowKit Go.Lib Go.Maps

/-- A request in plain terms. -/
structure QT where
  st : Int
  k : Int
  n : ByteArray
  d : ByteArray
def q4 (q : QT) : List Value := [.int .i64 q.st, .int .i64 q.k, .string q.n, .string q.d]
theorem q4_len (q : QT) : (q4 q).length = 4 := rfl
theorem q4_one (q : QT) : ∀ u ∈ q4 q, u.oneCell' = true := by intro u hu; simp [q4] at hu; rcases hu with rfl | rfl | rfl | rfl <;> rfl

def putAll (cs : Array Value) : Nat → List Value → Array Value
  | _, [] => cs
  | o, v :: r => putAll (cs.setIfInBounds o v) (o + 1) r
theorem setCells_self {T : TypeId} {b : Nat} {fr : Nat × Nat} : ∀ (vs : List Value) (o : Nat) (w : World) (cs : Array Value), w.heap[b]? = some (.cells cs T fr) → (w.setCells b o vs).heap[b]? = some (.cells (putAll cs o vs) T fr)
  | [], _, _, _, h => h
  | v :: r, o, w, cs, h => by rw [World.setCells, putAll]; exact setCells_self r _ _ _ (heap_set_self h)
theorem Gs.cells {p : Nat → Prop} {w : World} {b : Nat} : ∀ (vs : List Value) (o : Nat) (w1 : World), Gs p w w1 → (p b ∨ w.heap.size ≤ b) → Gs p w (w1.setCells b o vs)
  | [], _, _, h, _ => h
  | v :: r, o, w1, h, hb => by rw [World.setCells]; exact Gs.cells r _ _ (h.set (a := ⟨b, o, none⟩) hb v) hb
theorem Gs.set1 {w w1 : World} {b : Nat} (h : Gs (fun i => i = b) w w1) (j : Nat) (u : Value) : Gs (fun i => i = b) w (w1.setCell ⟨b, j, none⟩ u) := h.set (a := ⟨b, j, none⟩) (.inl rfl) u
theorem store_run {t T : TypeId} {b o : Nat} {w : World} {cs : Array Value} (h : w.heap[b]? = some (.cells cs T (0, 0))) (vs : Array Value) (ho : o + vs.size ≤ cs.size) (hi : (Try.prog.info? t).map (·.size) = some vs.size) (h1 : vs.all (·.oneCell') = true) :
    (Instr.storeAt t (.pointer (some ⟨b, o, none⟩)) (.agg vs)).run Try.prog w = .ok () (w.setCells b o vs.toList) :=
  run_storeAt_mid (P := Try.prog) w b o t vs (fun j hj => ⟨by rw [World.cell?]; simp only [h]; rw [Array.getElem?_eq_getElem (by omega)]; rfl, by simp [World.frozen?, h]⟩) hi h1

theorem store1_run {t T : TypeId} {b j : Nat} {w : World} {cs : Array Value} (h : w.heap[b]? = some (.cells cs T (0, 0))) (hj : j < cs.size) (hi : (Try.prog.info? t).map (·.size) = some 1) {v : Value} (hv : ∃ a n c, v = .slice a n c) :
    (Instr.storeAt t (.pointer (some ⟨b, j, none⟩)) v).run Try.prog w = .ok () (w.setCell ⟨b, j, none⟩ v) := by
  obtain ⟨a, n, c, rfl⟩ := hv
  have hc : w.cell? ⟨b, j, none⟩ = some cs[j] := by simp [World.cell?, h, Array.getElem?_eq_getElem hj]
  have hf : w.frozen? ⟨b, j, none⟩ = false := by simp [World.frozen?, h]
  cases hq : Try.prog.info? t with
  | none => simp [hq] at hi
  | some i =>
    have hs : i.size = 1 := by simpa [hq] using hi
    simp [Instr.storeAt, Instr.sureAddr, storeVar, sizeOf, typeInfo, hq, hs, Value.cells, storeCells, Addr.add_mid, run_store_slice, stored, hc, hf]
/-- A store that was reckoned ahead. -/
theorem wpList_store_run {ops : Array Oper} {rest : List Oper} {op : Oper} {a : Act} {w w1 : World} {Q : Exit → Act → World → Prop} (hgd : op.guard = none) (ty : TypeId) (x y : Operand) (ho : op.op = .store ty x y)
    (p v : Value) (hx : a.eval x = p) (hy : a.eval y = v) (hr : (Instr.storeAt ty p v).run Try.prog w = .ok () w1)
    (h : wpList Try.prog ops Q rest (a.put op.dst undef) w1) : wpList Try.prog ops Q (op :: rest) a w :=
  wpList_plain hgd fun _ hK => by
    unfold Oper.wp execOp
    simp only [ho, hx, hy, Sem.run_bind, Sem.run_pure, Result.andThen_ok, hr]
    exact hK _ _ h
/-- A function value against nil. -/
theorem fn_eqIn {T : TypeId} {A R : Array TypeId} {v : Bool} (d : Nat) (hu : Try.prog.underlying T = some (.func A R v)) (w : World) (fn : Fn) (fi ca : Array Value) : (Op.equalIn (d + 1) T (.func fn fi ca) .nilFunc).run Try.prog w = .ok false w := by
  simp [Op.equalIn, run_underlying hu]
theorem nil_eqIn {T : TypeId} {A R : Array TypeId} {v : Bool} (d : Nat) (hu : Try.prog.underlying T = some (.func A R v)) (w : World) : (Op.equalIn (d + 1) T .nilFunc .nilFunc).run Try.prog w = .ok true w := by
  simp [Op.equalIn, run_underlying hu]
theorem fn_eq {T : TypeId} {A R : Array TypeId} {v : Bool} (hu : Try.prog.underlying T = some (.func A R v)) (w : World) (fn : Fn) (fi ca : Array Value) : (Op.equal T (.func fn fi ca) .nilFunc).run Try.prog w = .ok false w := fn_eqIn 9999 hu w fn fi ca
theorem nil_eq {T : TypeId} {A R : Array TypeId} {v : Bool} (hu : Try.prog.underlying T = some (.func A R v)) (w : World) : (Op.equal T .nilFunc .nilFunc).run Try.prog w = .ok true w := nil_eqIn 9999 hu w
/-- The four comparisons, as a walk asks them. -/
structure FE (T : TypeId) : Prop where
  n1 : ∀ w fn fi ca, (binOp .neq T (.func fn fi ca) .nilFunc).run Try.prog w = .ok (.bool true) w
  n0 : ∀ w, (binOp .neq T .nilFunc .nilFunc).run Try.prog w = .ok (.bool false) w
  e1 : ∀ w fn fi ca, (binOp .eql T (.func fn fi ca) .nilFunc).run Try.prog w = .ok (.bool false) w
  e0 : ∀ w, (binOp .eql T .nilFunc .nilFunc).run Try.prog w = .ok (.bool true) w
theorem FE.of {T : TypeId} {A R : Array TypeId} {v : Bool} (hu : Try.prog.underlying T = some (.func A R v)) : FE T :=
  ⟨fun w fn fi ca => by simp [binOp, fn_eq hu], fun w => by simp [binOp, nil_eq hu], fun w fn fi ca => by simp [binOp, fn_eq hu], fun w => by simp [binOp, nil_eq hu]⟩
theorem fe47 : FE 47 := FE.of Try.underlying47
theorem fe72 : FE 72 := FE.of Try.underlying72
theorem fe79 : FE 79 := FE.of Try.underlying79

/-- A job: open, the request, what is to be done, code, number, names, texts, steps. -/
def JB (w : World) (b : Nat) (op : Bool) (st k : Int) (n d : ByteArray) (go : Value) (c N : Int) (ids tx : Value) (s : Int) : Prop :=
  w.heap[b]? = some (.cells #[.bool op, .int .i64 st, .int .i64 k, .string n, .string d, go, .int .i64 c, .string ⟨#[]⟩, .int .i64 N, ids, tx, .slice none 0 0, .slice none 0 0, .int .i64 s] 83 (0, 0))
section
variable {w w' : World} {b : Nat} {op : Bool} {st k c N s : Int} {n d : ByteArray} {go ids tx : Value}
theorem JB.lt (h : JB w b op st k n d go c N ids tx s) : b < w.heap.size := lt_of_block h
theorem JB.bel (h : JB w b op st k n d go c N ids tx s) (hb : Below w.heap.size w w') : JB w' b op st k n d go c N ids tx s := (hb.block b h.lt).trans h
theorem JB.gs {p : Nat → Prop} (h : JB w b op st k n d go c N ids tx s) (hb : Gs p w w') (hp : ¬ p b) : JB w' b op st k n d go c N ids tx s := (hb.block b h.lt hp).trans h
theorem JB.cell (h : JB w b op st k n d go c N ids tx s) (j : Nat) : w.cell? ⟨b, j, none⟩ = (#[.bool op, .int .i64 st, .int .i64 k, .string n, .string d, go, .int .i64 c, .string ⟨#[]⟩, .int .i64 N, ids, tx, .slice none 0 0, .slice none 0 0, .int .i64 s] : Array Value)[j]? := by
  rw [World.cell?]; simp only [show w.heap[b]? = _ from h]; rfl
theorem JB.free (h : JB w b op st k n d go c N ids tx s) (j : Nat) : w.frozen? ⟨b, j, none⟩ = false := by simp [World.frozen?, show w.heap[b]? = _ from h]

set_option maxRecDepth 100000 in
theorem isOpen_any (h : JB w b op st k n d go c N ids tx s) :
    Calls Try.prog 45 #[.pointer (some ⟨b, 0, none⟩)] w fun e w' => e = .returned (.bool op) ∧ w' = w := by
  have y0 : w.cell? ⟨b, 0, none⟩ = some (.bool op) := h.cell 0
  go_enter Try.func45, Try.ntmps45
  go_wp2
  go_ret
  exact ⟨rfl, rfl⟩
set_option maxRecDepth 100000 in
theorem settle_on {fn : Fn} {fi ca : Array Value} (h : JB w b op st k n d (.func fn fi ca) c N ids tx s) :
    Calls Try.prog 38 #[.pointer (some ⟨b, 0, none⟩)] w fun e w' => e = .returned (.tuple #[]) ∧ JB w' b true st k n d (.func fn fi ca) c N ids tx s ∧ Gs (fun i => i = b) w w' := by
  have y0 : w.cell? ⟨b, 0, none⟩ = some (.bool op) := h.cell 0
  have y5 : w.cell? ⟨b, 5, none⟩ = some (.func fn fi ca) := h.cell 5
  have f0 := h.free 0
  obtain ⟨g1, g2, _, _⟩ := fe47
  go_enter Try.func38, Try.ntmps38
  go_wp2
  go_end0
  exact ⟨rfl, heap_set_self h, (Gs.refl _ _).set1 _ _⟩
set_option maxRecDepth 100000 in
theorem settle_off (h : JB w b op st k n d .nilFunc c N ids tx s) :
    Calls Try.prog 38 #[.pointer (some ⟨b, 0, none⟩)] w fun e w' => e = .returned (.tuple #[]) ∧ JB w' b false st k n d .nilFunc c N ids tx s ∧ Gs (fun i => i = b) w w' := by
  have y0 : w.cell? ⟨b, 0, none⟩ = some (.bool op) := h.cell 0
  have y5 : w.cell? ⟨b, 5, none⟩ = some .nilFunc := h.cell 5
  have f0 := h.free 0
  obtain ⟨g1, g2, _, _⟩ := fe47
  go_enter Try.func38, Try.ntmps38
  go_wp2
  go_end0
  exact ⟨rfl, heap_set_self h, (Gs.refl _ _).set1 _ _⟩
set_option maxRecDepth 100000 in
theorem over_any (h : JB w b op st k n d go c N ids tx s) :
    Calls Try.prog 11 #[.pointer (some ⟨b, 0, none⟩)] w fun e w' => e = .returned (.bool !op) ∧ w' = w := by
  have y0 : w.cell? ⟨b, 0, none⟩ = some (.bool op) := h.cell 0
  go_enter Try.func11, Try.ntmps11
  go_wp2
  go_ret
  exact ⟨rfl, rfl⟩
set_option maxRecDepth 100000 in
theorem steps_any (h : JB w b op st k n d go c N ids tx s) :
    Calls Try.prog 12 #[.pointer (some ⟨b, 0, none⟩)] w fun e w' => e = .returned (.int .i64 s) ∧ w' = w := by
  have y0 : w.cell? ⟨b, 13, none⟩ = some (.int .i64 s) := h.cell 13
  go_enter Try.func12, Try.ntmps12
  go_wp2
  go_ret
  exact ⟨rfl, rfl⟩
end
end Go.Proofs.Ytepmhgkegfpmjaa
