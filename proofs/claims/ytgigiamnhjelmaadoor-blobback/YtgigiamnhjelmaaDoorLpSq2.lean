/-
  Lz: Sequences, by the program.
-/
import Derived.Test.YtgigiamnhjelmaaDoorLpSqs
namespace Go.Proofs.YtgigiamnhjelmaaDoor
open Go.RowKit Go.Lib Go.Shelf
attribute [local go_sem] Oper.semAt_some
theorem Tryd.infoSl : (Tryd.prog.info? 66).map (fun i => (i.zero, i.size, i.bytes)) = some (some (.agg #[.string ⟨#[]⟩, .int .i64 0, .int .i64 0]), 3, 32) := by kernel_rfl
theorem in_append_run {F : Fence} {n : Nat} {P : Program} {w : World} {ops : Array Oper} {rest : List Oper} {o : Oper} {a : Act} {Q : Exit → Act → World → Prop} (hgd : o.guard = none) (s x : Operand) (t tn : TypeId)
    (ho : o.op = .call { callee := .builtin .append, args := #[s, x], argTypes := #[t, tn] }) (vs vx : Value) (hs : a.eval s = vs) (hx : a.eval x = vx)
    (v' : Value) (w' : World) (hr : (Builtin.append_ #[t, tn] o.type #[vs, vx]).run P w = .ok v' w') (h : wpListIn F n P ops Q rest (a.put o.dst v') w') : wpListIn F n P ops Q (o :: rest) a w := by
  refine wpListIn_plain hgd fun K hK => ?_
  unfold Oper.wpIn
  refine ⟨by simp [Oper.about, ho, resolve, Target.leads, Sem.run_pure], ?_⟩
  rw [Oper.semAt_plain F _ _ (by rw [ho]; intro c hc'; cases hc')]
  simp [execOp, ho, resolve, invoke, builtin, hs, hx, hr, Result.andThen]
  exact hK _ _ h
theorem OW.gs2 {α : Type} {f : α → List Value} {k : Nat} {T : TypeId} {B : Nat} {v : Value} {l : List α} {w w' : World} {p : Nat → Prop} (h : OW f k T B v l w) (hg : Gs p w w') (hp : ∀ i, v.ownBlock = some i → ¬ p i) : OW f k T B v l w' :=
  h.kb fun i hi => hg.block i (h.lt i hi).2 (hp i hi)
theorem lnV_no {s : ByteArray} (h : ps s = none) : lnV s = .tuple #[.int .i64 0, .bool false] := by
  rw [ps_wk] at h
  cases hk : (wk s 0 0).2 with
  | true => rw [hk, if_pos rfl] at h; cases h
  | false => rw [lnV, hk]; rfl
theorem lnV_some {s : ByteArray} {l : List SQ} {t : Nat} (h : ps s = some (l, t)) : lnV s = .tuple #[.int .i64 (t : Int), .bool true] ∧ wk s 0 0 = (l, true) := by
  rw [ps_wk] at h
  cases hk : (wk s 0 0).2 with
  | false => rw [hk, if_neg (by decide)] at h; cases h
  | true =>
    rw [hk, if_pos rfl] at h
    simp only [Option.some.injEq, Prod.mk.injEq] at h
    obtain ⟨h1, h2⟩ := h
    refine ⟨by rw [lnV, hk, if_pos rfl, h2], ?_⟩
    rw [← h1, ← hk]
section
variable {w : World} {s : ByteArray}
end
end Go.Proofs.YtgigiamnhjelmaaDoor
