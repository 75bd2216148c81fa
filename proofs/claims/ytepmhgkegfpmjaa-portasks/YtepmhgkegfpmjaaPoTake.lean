/-
  Port: an answer is taken; Give.
-/
import Derived.Test.YtepmhgkegfpmjaaPoLoop
namespace Go.Proofs.Ytepmhgkegfpmjaa
open Go.RowKit Go.Lib Go.Maps
theorem Try.sizeAs : (Try.prog.info? 23).map (·.size) = some 1 := by kernel_rfl
section
variable {r r' p : Nat → Prop} {w w' : World} {b a1 a2 a3 a4 a5 i1 : Nat} {l : List QT} {X : List (RR × Value)} {tv rv av : Value} {st k s c N : Int} {n d : ByteArray} {go ids tx : Value} {op : Bool}
theorem JW.bel (h : JW r w b l X a1 a2 a3 a4 a5 i1 rv av) (hb : Below w.heap.size w w') : JW r w' b l X a1 a2 a3 a4 a5 i1 rv av := ⟨h.cl.bel hb, (hb.block i1 (lt_of_block h.h6)).trans h.h6, h.r6⟩
/-- What is behind an answer that was taken. -/
def TK (r : Nat → Prop) (w w' : World) (b : Nat) (l : List QT) (X : List (RR × Value)) (a1 a2 a3 a4 a5 i1 : Nat) (rv av : Value) (s : Int) : Prop :=
  (∃ q av', l[X.length]? = some q ∧ JW r w' b l X a1 a2 a3 a4 a5 i1 rv av' ∧ (av'.ownBlock = av.ownBlock ∨ ∀ i, av'.ownBlock = some i → w.heap.size ≤ i) ∧ JB w' b true q.st q.k q.n q.d (.func (.func 49) #[] #[.pointer (some ⟨a4, 0, none⟩), .pointer (some ⟨a5, 0, none⟩)]) 0 0 (.slice none 0 0) (.slice none 0 0) s) ∨
  (X.length = l.length ∧ ∃ ids tx, JB w' b false 0 0 ⟨#[]⟩ ⟨#[]⟩ .nilFunc (resC (X.map (·.1))) ((resN (X.map (·.1)) : Nat) : Int) ids tx s ∧ TS w.heap.size ids (resI (X.map (·.1))) w' ∧ TS w.heap.size tx (resT (X.map (·.1))) w')
theorem mu_b {i : Nat} (h : i = b) : mu b a4 av i := .inl h
set_option maxRecDepth 100000 in
set_option maxHeartbeats 3200000 in
theorem take_any (h : JW r w b l X a1 a2 a3 a4 a5 i1 rv av) (hJ : JB w b true 0 0 ⟨#[]⟩ ⟨#[]⟩ .nilFunc 0 0 (.slice none 0 0) (.slice none 0 0) s) (x : RR × Value) (hx : LS t1 1 r w x.2 x.1.l) (hX : X.length < l.length) (hl : l.length ≤ 1000000) (hIl : (resI ((X ++ [x]).map (·.1))).length ≤ 1000000000000) :
    Calls Try.prog 49 #[.agg #[.int .i64 x.1.c, .string x.1.d, x.2], .pointer (some ⟨a4, 0, none⟩), .pointer (some ⟨a5, 0, none⟩)] w fun e w' => e = .returned (.tuple #[]) ∧ Gs (mu b a4 av) w w' ∧ TK r w w' b l (X ++ [x]) a1 a2 a3 a4 a5 i1 rv av s := by
  obtain ⟨au, cu, hu⟩ := hx.shp
  obtain ⟨U, hU⟩ : ∃ U, U = w.alloc (.cells #[.int .i64 x.1.c, .string x.1.d, x.2] 45) := ⟨_, rfl⟩
  have hBU : Below w.heap.size w U := by rw [hU]; exact (Below.refl _ _).alloc (Nat.le_refl _) _
  have hW := h.bel hBU
  have hJU := hJ.bel hBU
  have hblk : U.heap[w.heap.size]? = some (.cells #[.int .i64 x.1.c, .string x.1.d, x.2] 45 (0, 0)) := by rw [hU]; exact heap_alloc_new w _
  have k0 : U.cell? ⟨w.heap.size, 0, none⟩ = some (.int .i64 x.1.c) := by simp [World.cell?, hblk]
  have k1 : U.cell? ⟨w.heap.size, 1, none⟩ = some (.string x.1.d) := by simp [World.cell?, hblk]
  have k2 : U.cell? ⟨w.heap.size, 2, none⟩ = some x.2 := by simp [World.cell?, hblk]
  have y4 : U.cell? ⟨a4, 0, none⟩ = some av := by simp [World.cell?, hW.cl.h4]
  obtain ⟨v', w1, hr, hsl, h4w, hCV, hJV, hGV, hov⟩ := hW.cl.app hJU x (hx.bel hBU) (by omega)
  have hs := store1_run (t := 23) h4w (j := 0) (v := v') (Nat.le_of_ble_eq_true rfl) Try.sizeAs hsl
  obtain ⟨V, hV⟩ : ∃ V, V = w1.setCell ⟨a4, 0, none⟩ v' := ⟨_, rfl⟩
  rw [← hV] at hs hCV hJV hGV
  have y5 : V.cell? ⟨a5, 0, none⟩ = some (.func (.func 47) #[] #[.pointer (some ⟨a4, 0, none⟩), .pointer (some ⟨a3, 0, none⟩), .pointer (some ⟨a1, 0, none⟩), .pointer (some ⟨a5, 0, none⟩), .pointer (some ⟨a2, 0, none⟩)]) := by simp [World.cell?, hCV.h5]
  have hGw : Gs (mu b a4 av) w V := (Gs.of_below _ hBU).trans hGV
  have h6V : V.heap[i1]? = some (.cells #[.pointer (some ⟨b, 0, none⟩)] 68 (0, 0)) := (hGw.block i1 (lt_of_block h.h6) (fun e => by
    rcases e with e | e | e
    · exact h.cl.nb (e ▸ h.r6)
    · exact h.cl.n4 (e ▸ h.r6)
    · exact h.cl.no i1 e h.r6)).trans h.h6
  have hWV : JW r V b l (X ++ [x]) a1 a2 a3 a4 a5 i1 rv v' := ⟨hCV, h6V, h.r6⟩
  have hsz : w.heap.size ≤ V.heap.size := hGw.size
  have hUs : w.heap.size ≤ U.heap.size := hBU.size
  have HN : Hid (Calls Try.prog 47 #[.pointer (some ⟨a4, 0, none⟩), .pointer (some ⟨a3, 0, none⟩), .pointer (some ⟨a1, 0, none⟩), .pointer (some ⟨a5, 0, none⟩), .pointer (some ⟨a2, 0, none⟩)] V fun e w' => e = .returned (.tuple #[]) ∧ Hid (Gs (mu b a4 av) w w' ∧ TK r w w' b l (X ++ [x]) a1 a2 a3 a4 a5 i1 rv av s)) := by
    by_cases hlt : X.length + 1 < l.length
    · obtain ⟨q, hq⟩ : ∃ q, l[(X ++ [x]).length]? = some q := ⟨_, List.getElem?_eq_getElem (by simpa using hlt)⟩
      refine (next_ask hCV hJV hq).mono ?_
      rintro e w2 ⟨rfl, hJ2, hG2⟩
      refine ⟨rfl, hGw.trans (hG2.mono fun i _ e => .inl e), .inl ⟨q, v', hq, hWV.gb hJV hG2, ?_, hJ2⟩⟩
      rcases hov with e | e
      · exact .inl e
      · exact .inr fun i hi => by rw [e] at hi; simp at hi; omega
    · refine (next_end hCV h6V hJV (by simp; omega) hl hIl).mono ?_
      rintro e w2 ⟨rfl, jds, jx, hJ2, hT1, hT2, hG2⟩
      exact ⟨rfl, hGw.trans (hG2.mono fun i _ e => .inl e), .inr ⟨by simp; omega, jds, jx, hJ2, hT1.low hsz, hT2.low hsz⟩⟩
  have HU := hide hU
  rw [hu] at k2 HU
  rw [hu] at hr
  rw [hu]
  clear hW hJU hblk hCV hJV hGV hov hV hGw h6V hWV hsz hUs h4w hsl hU hBU hJ h hx hX hl hIl
  generalize x.1.c = cc at *
  generalize x.1.d = dd at *
  generalize x.1.l.length = ln at *
  go_enter Try.func49, Try.ntmps49
  go_upto_region 1 with fail
  rw [← HU.out]
  go_wp2_with (first | (at_builtin; refine Lib.wpList_append_run _ rfl _ _ _ _ rfl _ _ rfl rfl _ _ hr ?_) | (refine wpList_store_run rfl 23 _ _ rfl _ _ rfl rfl hs ?_))
  refine HN.out.mono ?_
  rintro e w2 ⟨rfl, hF⟩
  go_wp2
  go_end0
  exact ⟨rfl, hF.out⟩
end
end Go.Proofs.Ytepmhgkegfpmjaa
