/-
  The play: answers that are the same, what is spoilt; what is kept along it.
-/
import Derived.Test.YtillnffhhmkgdaaStDo
import Derived.Test.YtillnffhhmkgdaaStAmg
import Derived.Test.YtillnffhhmkgdaaPsFork
namespace Go.Proofs.Ytillnffhhmkgdaa
open Go.RowKit Go.Lib

set_option maxRecDepth 100000 in
set_option maxHeartbeats 800000 in
theorem sameResp_eq {w : World} (c : Int) (d : ByteArray) {u v : Value} {l : List ByteArray} (hu : TR w u l) (hv : TR w v l) (hl : l.length ≤ 1000000000) :
    Calls Try.prog 19 #[.agg #[.int .i64 c, .string d, u], .agg #[.int .i64 c, .string d, v]] w fun e w' => e = .returned (.bool true) ∧ Below w.heap.size w w' := by
  obtain ⟨a, ca, rfl, _⟩ := id hu
  obtain ⟨a', ca', rfl, _⟩ := id hv
  obtain ⟨N, hN⟩ : ∃ N, N = l.length := ⟨_, rfl⟩
  rw [← hN] at hu hv ⊢
  obtain ⟨U, hU⟩ : ∃ U, U = (w.alloc (.cells #[.int .i64 c, .string d, .slice a N ca] 48)).alloc (.cells #[.int .i64 c, .string d, .slice a' N ca'] 48) := ⟨_, rfl⟩
  have hB : Below w.heap.size w U := by rw [hU]; exact ((Below.refl _ _).alloc (Nat.le_refl _) _).alloc (by simp) _
  have HS : Hid _ := hide (sameTexts_eq (hu.bel hB) (hv.bel hB) hl)
  have HB := hide hB
  have HU := hide hU
  clear hu hv hB hU hN hl
  go_enter Try.func19, Try.ntmps19
  go_wp2_with fail
  rw [← HU.out]
  refine HS.out.mono ?_
  rintro e w' ⟨rfl, hb⟩
  have HE := hide (below_step HB.out hb)
  clear hb
  go_wp2
  go_ret
  exact ⟨rfl, HE.out⟩

set_option maxRecDepth 100000 in
set_option maxHeartbeats 800000 in
theorem spoil_any {w : World} {B : Nat} {v : Value} {l : List ByteArray} (h : TS B v l w) (hl : l.length ≤ 1000000000) :
    Calls Try.prog 21 #[v] w fun e w' => e = .returned (.tuple #[]) ∧ Gs (fun i => v.ownBlock = some i) w w' := by
  obtain ⟨h1, ⟨rfl, h2⟩ | ⟨g, cap, cur, rfl, hB, hg, hn, hcc, hs, ht⟩⟩ := h.own
  · go_enter Try.func21, Try.ntmps21
    go_wp2
    go_loopw [2] (fun i wr => i = .int .i64 0 ∧ wr = w) (fun _ _ => 0)
    case atStart => exact ⟨rfl, rfl⟩
    case round =>
      obtain ⟨rfl, rfl⟩ := hrel
      go_wp2
      go_end0
      exact ⟨rfl, Gs.refl _ _⟩
  · obtain ⟨N, hN⟩ : ∃ N, N = l.length := ⟨_, rfl⟩
    rw [← hN] at hn hl ⊢
    have hcs : N ≤ cur.size := by
      have := congrArg List.length ht
      simp [tc] at this
      omega
    have HG := hide hg
    clear h h1 hg ht hs hcc hn hN
    go_enter Try.func21, Try.ntmps21
    go_wp2
    go_loopw [2] (fun i wr => ∃ (j : Nat) (cu : Array Value), j ≤ N ∧ i = .int .i64 j ∧ wr.heap[g]? = some (.cells cu 9 (0, 0)) ∧ N ≤ cu.size ∧ Gs (fun i => (Value.slice (some ⟨g, 0, none⟩) N cap).ownBlock = some i) w wr) (fun i _ => N - (intOf i).toNat)
    case atStart => exact ⟨0, cur, Nat.zero_le _, rfl, HG.out, hcs, Gs.refl _ _⟩
    case round =>
      obtain ⟨j, cu, hj, rfl, hgr, hcu, hG⟩ := hrel
      by_cases hlt : j < N
      · have b1 : (j : Int) < (N : Int) := by omega
        have b0 : (0 : Int) ≤ (j : Int) := by omega
        have y1 : wr.cell? ⟨g, j, none⟩ = some (cu[j]'(by omega)) := by simp [World.cell?, hgr]
        have z1 : wr.frozen? ⟨g, j, none⟩ = false := by simp [World.frozen?, hgr]
        have HE : Hid ((wr.setCell ⟨g, j, none⟩ (.string ⟨#[115, 112, 111, 105, 108, 116]⟩)).heap[g]? = some (.cells (cu.setIfInBounds j (.string ⟨#[115, 112, 111, 105, 108, 116]⟩)) 9 (0, 0)) ∧ Gs (fun i => (Value.slice (some ⟨g, 0, none⟩) N cap).ownBlock = some i) w (wr.setCell ⟨g, j, none⟩ (.string ⟨#[115, 112, 111, 105, 108, 116]⟩))) :=
          ⟨heap_set_self hgr, hG.set (a := ⟨g, j, none⟩) (.inl rfl) _⟩
        clear hgr hG
        generalize cu[j]'(by omega) = uu at *
        go_wp2
        exact ⟨⟨j + 1, _, by omega, by go_num, HE.out.1, by simpa using hcu, HE.out.2⟩, by simp [intOf]; omega⟩
      · obtain rfl : j = N := by omega
        have HE := hide hG
        clear hG hgr
        go_wp2
        go_end0
        exact ⟨rfl, HE.out⟩

/-! ### both stores, side by side -/
section
variable {w w' : World} {b mb rb : Nat} {s s' : SS}
theorem RD.gs {p : Nat → Prop} (h : RD w rb s) (hg : Gs p w w') (h1 : ¬ p rb) (h2 : ∀ i cs fr, w.heap[i]? = some (.cells cs 73 fr) → ¬ p i) : RD w' rb s := by
  obtain ⟨v, hR, hO⟩ := h
  refine ⟨v, hR.gs hg h1, hO.gs hg fun i hi => ?_⟩
  obtain ⟨_, ⟨rfl, _⟩ | ⟨g', cap, cur, rfl, _, hb, _⟩⟩ := hO.own
  · simp [Value.ownBlock] at hi
  · simp only [Value.ownBlock, Option.some.injEq] at hi
    subst hi
    exact h2 _ _ _ hb
theorem RD.blk (h : RD w rb s) : ∃ cs, w.heap[rb]? = some (.cells cs 41 (0, 0)) := by obtain ⟨_, h, _⟩ := h; exact ⟨_, h⟩
/-- What the program's store does leaves the document's. -/
theorem RD.prog (h : RD w rb s) (hP : PX w b mb s') (hg : Gs (two b mb) w w') : RD w' rb s := by
  obtain ⟨cs, hr⟩ := h.blk
  have hP' : PS w b mb s'.q s'.f s'.off s'.m s'.L := hP
  refine h.gs hg ?_ fun i cs' fr hi => ?_
  · rintro (e | e)
    · rw [e, hP'.blk] at hr; simp at hr
    · rw [e] at hr; exact hP'.map.notCells hr
  · rintro (e | e)
    · rw [e, hP'.blk] at hi; simp at hi
    · rw [e] at hi; exact hP'.map.notCells hi
/-- What the document's store does leaves the program's. -/
theorem PX.doc (h : PX w b mb s) (hR : RD w rb s') (hg : Gs (fun j => j = rb) w w') : PX w' b mb s := by
  have h' : PS w b mb s.q s.f s.off s.m s.L := h
  obtain ⟨cs, hr⟩ := hR.blk
  refine h'.gs hg ?_ ?_
  · intro e
    rw [← e, h'.blk] at hr; simp at hr
  · intro e
    rw [← e] at hr; exact h'.map.notCells hr
theorem RD.bel (h : RD w rb s) (hb : Below w.heap.size w w') : RD w' rb s := by
  obtain ⟨v, h1, h2⟩ := h
  exact ⟨v, h1.below hb h1.lt, h2.keep hb⟩
theorem PX.bel (h : PX w b mb s) (hb : Below w.heap.size w w') : PX w' b mb s := PS.bel h hb
end
end Go.Proofs.Ytillnffhhmkgdaa
