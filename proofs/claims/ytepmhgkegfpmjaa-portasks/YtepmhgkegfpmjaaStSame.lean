/-
  The play: answers that are the same, what is spoilt; what is kept along it.
-/
import Derived.Test.YtepmhgkegfpmjaaStDo
import Derived.Test.YtepmhgkegfpmjaaStAmg
import Derived.Test.YtepmhgkegfpmjaaPsFork
namespace Go.Proofs.Ytepmhgkegfpmjaa
open Go.RowKit Go.Lib

/-! ### both stores, side by side -/
section
variable {w w' : World} {b mb rb : Nat} {s s' : SS}
theorem RD.gs {p : Nat → Prop} (h : RD w rb s) (hg : Gs p w w') (h1 : ¬ p rb) (h2 : ∀ i cs fr, w.heap[i]? = some (.cells cs 94 fr) → ¬ p i) : RD w' rb s := by
  obtain ⟨v, hR, hO⟩ := h
  refine ⟨v, hR.gs hg h1, hO.gs hg fun i hi => ?_⟩
  obtain ⟨_, ⟨rfl, _⟩ | ⟨g', cap, cur, rfl, _, hb, _⟩⟩ := hO.own
  · simp [Value.ownBlock] at hi
  · simp only [Value.ownBlock, Option.some.injEq] at hi
    subst hi
    exact h2 _ _ _ hb
theorem RD.blk (h : RD w rb s) : ∃ cs, w.heap[rb]? = some (.cells cs 92 (0, 0)) := by obtain ⟨_, h, _⟩ := h; exact ⟨_, h⟩
/-- What the program's store does leaves the document's. -/
theorem RD.prog (h : RD w rb s) (hP : PX w b mb s') (hg : Gs (two b mb) w w') : RD w' rb s := by
  obtain ⟨cs, hr⟩ := h.blk
  have hP' : PS w b mb s'.q s'.f s'.off s'.m s'.L := hP
  refine h.gs hg ?_ fun i cs' fr hi => ?_
  · rintro (e | e)
    · rw [e, hP'.blk] at hr; simp at hr
    · rw [e] at hr; exact hP'.map.notCells hr
  · rintro (e | e)
    · rw [e, hP'.blk] at hi; simp at hi
    · rw [e] at hi; exact hP'.map.notCells hi
/-- What the document's store does leaves the program's. -/
theorem PX.doc (h : PX w b mb s) (hR : RD w rb s') (hg : Gs (fun j => j = rb) w w') : PX w' b mb s := by
  have h' : PS w b mb s.q s.f s.off s.m s.L := h
  obtain ⟨cs, hr⟩ := hR.blk
  refine h'.gs hg ?_ ?_
  · intro e
    rw [← e, h'.blk] at hr; simp at hr
  · intro e
    rw [← e] at hr; exact h'.map.notCells hr
theorem RD.bel (h : RD w rb s) (hb : Below w.heap.size w w') : RD w' rb s := by
  obtain ⟨v, h1, h2⟩ := h
  exact ⟨v, h1.below hb h1.lt, h2.keep hb⟩
theorem PX.bel (h : PX w b mb s) (hb : Below w.heap.size w w') : PX w' b mb s := PS.bel h hb
end
end Go.Proofs.Ytepmhgkegfpmjaa
