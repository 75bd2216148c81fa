/-
  The document's store: Fork.
-/
import Derived.Test.YtepmhgkegfpmjaaStNames
namespace Go.Proofs.Ytepmhgkegfpmjaa
open Go.RowKit Go.Lib

/-- A list of objects as a source: nothing, or from a place on. -/
def SV (w : World) (v : Value) (M : List OB) : Prop := (v = .slice none 0 0 ∧ M = []) ∨ ∃ g o c, v = .slice (some ⟨g, o, none⟩) M.length c ∧ g < w.heap.size ∧ Src w g o M
section
variable {B : Nat} {v vs : Value} {L M : List OB} {w w' : World}
theorem SV.below (h : SV w v M) {B : Nat} (hb : Below B w w') (hB : w.heap.size ≤ B) : SV w' v M := by
  rcases h with h | ⟨g, o, c, e, hg, hS⟩
  · exact .inl h
  · exact .inr ⟨g, o, c, e, Nat.lt_of_lt_of_le hg hb.size, hS.below hb (Nat.lt_of_lt_of_le hg hB)⟩
theorem SV.ol (h : SV w v M) : OL w v M := by
  rcases h with ⟨rfl, rfl⟩ | ⟨g, o, c, rfl, hg, hS⟩
  · exact ⟨_, _, rfl, .inl rfl⟩
  · exact ⟨_, _, rfl, .inr ⟨g, o, rfl, hg, hS⟩⟩
theorem OS.sv (h : OS B v L w) : SV w v L := by
  rcases h.src with h | ⟨g, c, e, _, _, hg, hS⟩
  · exact .inl h
  · exact .inr ⟨g, 0, c, e, hg, hS⟩
theorem OS.app2 (h : OS B v L w) (hS : SV w vs M) (hb : L.length + M.length ≤ 1000000) (hB : B ≤ w.heap.size) :
    ∃ v' w', (Builtin.append_ #[90, 90] 90 #[v, vs]).run Try.prog w = .ok v' w' ∧ OS B v' (L ++ M) w' ∧ w.grownBy w' v.ownBlock ∧ (v'.ownBlock = v.ownBlock ∨ v'.ownBlock = some w.heap.size) := by
  rcases hS with ⟨rfl, rfl⟩ | ⟨g, o, c, rfl, hg, hS⟩
  · obtain ⟨i0, hi, hz0, hz1, hz2⟩ := info_parts Try.infoOb
    refine ⟨v, w, run_append_owned_none (P := Try.prog) (w := w) B _ _ _ i0 2 Try.underlying90 hi v L.length (oc L) h.own, by rw [List.append_nil]; exact h, World.grownBy.refl _ _, .inl rfl⟩
  · exact h.app hS hb hB
end

theorem RSt.set4 {w : World} {b : Nat} {q f m : Int} {off : Bool} {v : Value} (h : RSt w b q f m off v) (v' : Value) : RSt (w.setCell ⟨b, 4, none⟩ v') b q f m off v' := heap_set_self (u := v') h
theorem OS.set {B : Nat} {v : Value} {L : List OB} {w : World} (h : OS B v L w) {s j : Nat} (hs : s < B) (u : Value) : OS B v L (w.setCell ⟨s, j, none⟩ u) := by
  refine ⟨h.own.1, ?_⟩
  rcases h.own.2 with h2 | ⟨g, cap, cur, e, hB, hg, r⟩
  · exact .inl h2
  · exact .inr ⟨g, cap, cur, e, hB, (Below.heap_setCell _ _ _ _ (by simp; omega)).trans hg, r⟩

set_option maxRecDepth 100000 in
set_option maxHeartbeats 800000 in
theorem rfork_any {w : World} {b : Nat} {q f m : Int} {off : Bool} {v : Value} {L : List OB} (hR : RSt w b q f m off v) (hO : SV w v L) (hl : L.length ≤ 1000000) :
    Calls Try.prog 65 #[.pointer (some ⟨b, 0, none⟩)] w fun e w' => e = .returned (.pointer (some ⟨w.heap.size, 0, none⟩)) ∧ ∃ v', RSt w' w.heap.size q f m off v' ∧ OS (w.heap.size + 1) v' L w' ∧ Below w.heap.size w w' := by
  have hR' : w.heap[b]? = some (.cells #[.int .i64 q, .int .i64 f, .int .i64 m, .bool off, v] 92 (0, 0)) := hR
  have y0 : w.cell? ⟨b, 0, none⟩ = some (.int .i64 q) := by simp [World.cell?, hR']
  have y1 : w.cell? ⟨b, 1, none⟩ = some (.int .i64 f) := by simp [World.cell?, hR']
  have y2 : w.cell? ⟨b, 2, none⟩ = some (.int .i64 m) := by simp [World.cell?, hR']
  have y3 : w.cell? ⟨b, 3, none⟩ = some (.bool off) := by simp [World.cell?, hR']
  have y4 := hR.cell4
  obtain ⟨a, c, rfl, _⟩ := hO.ol
  obtain ⟨U, hU⟩ : ∃ U, U = w.alloc (.cells #[.int .i64 q, .int .i64 f, .int .i64 m, .bool off, .slice a L.length c] 92) := ⟨_, rfl⟩
  have HBU : Hid (Below w.heap.size w U) := by rw [hU]; exact (Below.refl _ _).alloc (Nat.le_refl _) _
  have hsz : U.heap.size = w.heap.size + 1 := by rw [hU]; simp
  have HRU : Hid (RSt U w.heap.size q f m off (.slice a L.length c)) := by rw [hU]; exact heap_alloc_new w _
  have hBE : Below U.heap.size U (U.alloc (.cells #[] 94)) := (Below.refl _ _).alloc (Nat.le_refl _) _
  obtain ⟨v', w', h1, hO', hg, hv⟩ := (OS.empty (B := w.heap.size + 1) (w := U) (by omega)).app2 ((hO.below HBU.out (Nat.le_refl _)).below hBE (Nat.le_refl _)) (by simpa using hl) (by simp; omega)
  rw [List.nil_append] at hO'
  have hBw : Below (w.heap.size + 1) U w' := (hBE.mono (by omega)).grown hg (by simp; omega) (fun k hk => by simp only [Value.ownBlock, Option.some.injEq] at hk; omega)
  have HR' : Hid (RSt w' w.heap.size q f m off (.slice a L.length c)) := HRU.out.below hBw (by omega)
  have HO' := hide hO'
  have HBw := hide hBw
  have z4 := HR'.out.cell4
  have zf : w'.frozen? ⟨w.heap.size, 4, none⟩ = false := by simp [World.frozen?, show w'.heap[w.heap.size]? = _ from HR'.out]
  obtain ⟨a', c', rfl⟩ : ∃ a' c', v' = .slice a' L.length c' := by
    obtain ⟨a', c', e, _⟩ := hO'.ol
    exact ⟨a', c', e⟩
  have HU := hide hU
  have y4U : U.cell? ⟨b, 4, none⟩ = some (.slice a L.length c) := ((hR.below HBU.out hR.lt).cell4)
  have y4E : ∀ o, (U.alloc o).cell? ⟨b, 4, none⟩ = some (.slice a L.length c) := fun o => ((hR.below (HBU.out.alloc HBU.out.size o) hR.lt).cell4)
  have H1 := hide h1
  have HSZ := hide hsz
  have HZ := hide (And.intro z4 zf)
  have HY := hide (And.intro y4U y4E)
  clear hR' hR hO hO' hg hv hBw hBE hU h1 z4 zf y4U y4E hsz
  go_enter Try.func65, Try.ntmps65
  go_upto_region 2 with fail
  rw [← HU.out]
  clear y0 y1 y2 y3 y4
  have h1 := H1.out
  obtain ⟨z4, zf⟩ := HZ.out
  obtain ⟨y4U, y4E⟩ := HY.out
  have y4E := y4E (.cells #[] 94)
  go_wp2_with (at_builtin; refine Lib.wpList_append_run _ rfl _ _ _ _ rfl _ _ rfl rfl _ _ h1 ?_)
  go_ret
  exact ⟨rfl, _, HR'.out.set4 _, HO'.out.set (by omega) _, (HBU.out.trans (HBw.out.mono (by omega))).setCell (p := ⟨w.heap.size, 4, none⟩) (Nat.le_refl _) _⟩
end Go.Proofs.Ytepmhgkegfpmjaa
