/-
  Port: the document's list: Give.
-/
import Derived.Test.YtepmhgkegfpmjaaPoRun
import Derived.Test.YtepmhgkegfpmjaaStRem
namespace Go.Proofs.Ytepmhgkegfpmjaa
open Go.RowKit Go.Lib Go.Maps
/-- The document's list in memory. -/
def KB (w : World) (kb : Nat) (lv : Value) (t c N : Int) (ids tx : Value) : Prop :=
  w.heap[kb]? = some (.cells #[lv, .int .i64 t, .int .i64 c, .string ⟨#[]⟩, .int .i64 N, ids, tx, .slice none 0 0, .slice none 0 0] 36 (0, 0))
section
variable {w w' w1 V W : World} {kb B e0 : Nat} {lv ids tx u v1 : Value} {t c N : Int} {d : ByteArray} {r p : Nat → Prop} {T M l : List ByteArray}
theorem KB.lt (h : KB w kb lv t c N ids tx) : kb < w.heap.size := lt_of_block h
theorem KB.cell (h : KB w kb lv t c N ids tx) (j : Nat) : w.cell? ⟨kb, j, none⟩ = (#[lv, .int .i64 t, .int .i64 c, .string ⟨#[]⟩, .int .i64 N, ids, tx, .slice none 0 0, .slice none 0 0] : Array Value)[j]? := by
  rw [World.cell?]; simp only [show w.heap[kb]? = _ from h]; rfl
theorem KB.free (h : KB w kb lv t c N ids tx) (j : Nat) : w.frozen? ⟨kb, j, none⟩ = false := by simp [World.frozen?, show w.heap[kb]? = _ from h]
theorem KB.bel (h : KB w kb lv t c N ids tx) (hb : Below B w w') (hB : kb < B) : KB w' kb lv t c N ids tx := (hb.block kb hB).trans h
theorem KB.gs (h : KB w kb lv t c N ids tx) (hb : Gs p w w') (hp : ¬ p kb) : KB w' kb lv t c N ids tx := (hb.block kb h.lt hp).trans h
/-- A list appended to an empty one. -/
theorem app_first (hE : TS B (.slice (some ⟨e0, 0, none⟩) 0 0) [] W) (hL : LS t1 1 r W tx T) (hl : T.length ≤ 1000000000000) (hB : B ≤ W.heap.size) :
    ∃ a c w1, (Builtin.append_ #[30, 30] 30 #[.slice (some ⟨e0, 0, none⟩) 0 0, tx]).run Try.prog W = .ok (.slice a T.length c) w1 ∧ TS B (.slice a T.length c) T w1 ∧ Below B W w1 ∧ W.grownBy w1 (some e0) := by
  obtain ⟨v', w1, h1, h2, h3, _⟩ := OW.app (ST := 30) t1_len (by decide) (fun x _ => t1_one x) Try.underlying30 Try.infoTx rfl hE.ow hL (by simp; omega) (by simp; omega) hB
  rw [List.nil_append] at h2
  obtain ⟨a, c, rfl⟩ := h2.shp
  exact ⟨a, c, w1, h1, h2.ts, (Below.refl _ _).grown h3 hB (fun k hk => (hE.lt k hk).1), h3⟩
theorem app_more (hT : TS B v1 T W) (hL : LS t1 1 r W u M) (hl : T.length + M.length ≤ 1000000000000) (hB : B ≤ W.heap.size) :
    ∃ a c w1, (Builtin.append_ #[30, 30] 30 #[v1, u]).run Try.prog W = .ok (.slice a (T.length + M.length) c) w1 ∧ TS B (.slice a (T.length + M.length) c) (T ++ M) w1 ∧ Below B W w1 := by
  obtain ⟨v', w1, h1, h2, h3, _⟩ := OW.app (ST := 30) t1_len (by decide) (fun x _ => t1_one x) Try.underlying30 Try.infoTx rfl hT.ow hL (by omega) (by omega) hB
  obtain ⟨a, c, e⟩ := h2.shp
  rw [List.length_append] at e
  subst e
  exact ⟨a, c, w1, h1, h2.ts, (Below.refl _ _).grown h3 hB (fun k hk => (hT.lt k hk).1)⟩
theorem LS.b2 (h : LS t1 1 (fun i => r i ∧ i < B) w u l) (hb : Below B w w') : LS t1 1 (fun i => r i ∧ i < B) w' u l := h.kb hb.size fun i hi _ => hb.block i hi.2
theorem LS.dr (h : LS t1 1 r w u l) : LS t1 1 r w.drew u l := h
theorem TS.dr (h : TS B u l w) : TS B u l w.drew := ⟨h.own⟩
theorem below_und (h : Below B w.drew w') : Below B w w' := ⟨h.os, h.tape, h.output, h.size, h.block⟩

/-- Texts: what the region of the texts comes to, whatever its order. -/
structure KT (w wx : World) (kb n5 : Nat) (lv : Value) (t c N : Int) (ids : Value) (T : List ByteArray) (q5 : Value) (d : ByteArray) (u : Value) : Prop where
  k : ∃ tx, KB wx kb lv t c N ids tx ∧ TS (n5 + 1) tx T wx
  blk : wx.heap[n5]? = some (.cells #[q5, .string d, u] 45 (0, 0))
  g : Gs (fun i => i = kb) w wx
theorem KT.of {n5 : Nat} {q5 : Value} (hk : KB V kb lv t c N ids tx) (hb : V.heap[n5]? = some (.cells #[q5, .string d, u] 45 (0, 0))) (hg : Gs (fun i => i = kb) w V) (hB : Below V.heap.size V w1) (hT : TS V.heap.size v1 T w1) (hnk : n5 ≠ kb) :
    KB w1 kb lv t c N ids tx ∧ KT w (w1.setCell ⟨kb, 6, none⟩ v1) kb n5 lv t c N ids T q5 d u := by
  have hk1 := hk.bel hB hk.lt
  have hl := hT.lt
  have h5 := lt_of_block hb
  have hkl := hk.lt
  refine ⟨hk1, ⟨v1, heap_set_self hk1, ?_⟩, ?_, (hg.bel hB).set1 _ _⟩
  · exact (hT.set fun i hi => by have := (hl i hi).1; omega).low (by omega)
  · exact (heap_setCell_other w1 ⟨kb, 6, none⟩ n5 _ hnk).trans ((hB.block n5 h5).trans hb)
end
end Go.Proofs.Ytepmhgkegfpmjaa
