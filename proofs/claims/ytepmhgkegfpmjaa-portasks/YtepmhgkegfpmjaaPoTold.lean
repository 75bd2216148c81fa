/-
  Port: the answers as a result.
-/
import Derived.Test.YtepmhgkegfpmjaaPoRes
import Derived.Test.YtepmhgkegfpmjaaPsDo
namespace Go.Proofs.Ytepmhgkegfpmjaa
open Go.RowKit Go.Lib Go.Maps
theorem Try.infoA : (Try.prog.info? 45).map (fun i => (i.zero, i.size, i.bytes)) = some (some (.agg #[.int .i64 0, .string ⟨#[]⟩, .slice none 0 0]), 3, 48) := by kernel_rfl
def stC (C : Int) (a : RR) : Int := if C = 0 then a.c else C
def stN (n : Nat) (a : RR) : Nat := if a.c = 0 then n + 1 else n
def resC (A : List RR) : Int := A.foldl stC 0
def resN (A : List RR) : Nat := A.foldl stN 0
def resT (A : List RR) : List ByteArray := A.map (·.d)
def resI (A : List RR) : List ByteArray := A.flatMap (·.l)
theorem resC_snoc (A : List RR) (a : RR) : resC (A ++ [a]) = stC (resC A) a := by simp [resC]
theorem resN_snoc (A : List RR) (a : RR) : resN (A ++ [a]) = stN (resN A) a := by simp [resN]
theorem resT_snoc (A : List RR) (a : RR) : resT (A ++ [a]) = resT A ++ [a.d] := by simp [resT]
theorem resI_snoc (A : List RR) (a : RR) : resI (A ++ [a]) = resI A ++ a.l := by simp [resI]
theorem stN_le : ∀ (A : List RR) (n : Nat), A.foldl stN n ≤ n + A.length
  | [], n => by simp
  | a :: r, n => by
    have := stN_le r (stN n a)
    have h1 : stN n a ≤ n + 1 := by unfold stN; split <;> omega
    simp only [List.foldl_cons, List.length_cons]
    omega
theorem resN_le (A : List RR) : resN A ≤ A.length := by have := stN_le A 0; unfold resN; omega
theorem resT_len (A : List RR) : (resT A).length = A.length := by simp [resT]
theorem take_snoc_at {α : Type} {l : List α} {j : Nat} {x : α} (h : l[j]? = some x) : l.take (j + 1) = l.take j ++ [x] := by rw [List.take_add_one, h]; rfl
theorem resI_take (A : List RR) (j : Nat) : (resI (A.take j)).length ≤ (resI A).length := by
  have e : resI A = resI (A.take j) ++ resI (A.drop j) := by rw [resI, resI, resI, ← List.flatMap_append, List.take_append_drop]
  rw [e, List.length_append]; omega
/-- An answer, with the value of its list of names, as cells. -/
def x3 (x : RR × Value) : List Value := [.int .i64 x.1.c, .string x.1.d, x.2]
theorem x3_len (x : RR × Value) : (x3 x).length = 3 := rfl

/-- Where the loop stands. -/
structure TI (w wr : World) (X0 : Nat) (A : List RR) (ids tx : Value) : Prop where
  r : R7 wr (X0 + 1) (resC A) ((resN A : Nat) : Int) ids tx
  z : R7 wr X0 0 0 (.slice none 0 0) (.slice none 0 0)
  i : TS (X0 + 2) ids (resI A) wr
  t : TS (X0 + 2) tx (resT A) wr
  ne : ∀ i, ids.ownBlock = some i → tx.ownBlock ≠ some i
  be : Below X0 w wr
  sz : X0 + 2 ≤ wr.heap.size
/-- Within a round. -/
structure TJ (w wx : World) (X0 n5 : Nat) (A : List RR) (C N : Int) (ids tx : Value) (c : Int) (d : ByteArray) (u : Value) : Prop where
  r : R7 wx (X0 + 1) C N ids tx
  z : R7 wx X0 0 0 (.slice none 0 0) (.slice none 0 0)
  i : TS (X0 + 2) ids (resI A) wx
  t : TS (X0 + 2) tx (resT A) wx
  ne : ∀ i, ids.ownBlock = some i → tx.ownBlock ≠ some i
  be : Below X0 w wx
  sz : X0 + 2 ≤ wx.heap.size
  blk : wx.heap[n5]? = some (.cells #[.int .i64 c, .string d, u] 45 (0, 0))
  n5b : X0 + 2 ≤ n5
section
variable {w wx wr : World} {X0 n5 : Nat} {A : List RR} {C N c : Int} {ids tx u : Value} {d : ByteArray}
theorem TJ.new (h : TI w wr X0 A ids tx) (c : Int) (d : ByteArray) (u : Value) : TJ w (wr.alloc (.cells #[.int .i64 c, .string d, u] 45)) X0 wr.heap.size A (resC A) ((resN A : Nat) : Int) ids tx c d u := by
  have hb : Below wr.heap.size wr (wr.alloc (.cells #[.int .i64 c, .string d, u] 45)) := (Below.refl _ _).alloc (Nat.le_refl _) _
  exact ⟨h.r.bel hb, h.z.bel hb, h.i.keep hb, h.t.keep hb, h.ne, h.be.trans (hb.mono (by have := h.sz; omega)), by have := h.sz; simp; omega, heap_alloc_new wr _, h.sz⟩
theorem TJ.set0 (h : TJ w wx X0 n5 A C N ids tx c d u) (x : Int) : TJ w (wx.setCell ⟨X0 + 1, 0, none⟩ (.int .i64 x)) X0 n5 A x N ids tx c d u := by
  have hk : ∀ i, i ≠ X0 + 1 → (wx.setCell ⟨X0 + 1, 0, none⟩ (.int .i64 x)).heap[i]? = wx.heap[i]? := fun i hi => heap_setCell_other wx ⟨X0 + 1, 0, none⟩ i _ hi
  refine ⟨heap_set_self h.r, (hk X0 (by omega)).trans h.z, h.i.kb fun i hi => hk i (by have := (h.i.lt i hi).1; omega), h.t.kb fun i hi => hk i (by have := (h.t.lt i hi).1; omega), h.ne, ((Gs.refl (fun i => i = X0 + 1) wx).set1 _ _).below h.be (by have := h.sz; omega) (fun i e => by omega), by have := h.sz; simpa using this, (hk n5 (by have := h.n5b; omega)).trans h.blk, h.n5b⟩
theorem TJ.set2 (h : TJ w wx X0 n5 A C N ids tx c d u) (x : Int) : TJ w (wx.setCell ⟨X0 + 1, 2, none⟩ (.int .i64 x)) X0 n5 A C x ids tx c d u := by
  have hk : ∀ i, i ≠ X0 + 1 → (wx.setCell ⟨X0 + 1, 2, none⟩ (.int .i64 x)).heap[i]? = wx.heap[i]? := fun i hi => heap_setCell_other wx ⟨X0 + 1, 2, none⟩ i _ hi
  refine ⟨heap_set_self h.r, (hk X0 (by omega)).trans h.z, h.i.kb fun i hi => hk i (by have := (h.i.lt i hi).1; omega), h.t.kb fun i hi => hk i (by have := (h.t.lt i hi).1; omega), h.ne, ((Gs.refl (fun i => i = X0 + 1) wx).set1 _ _).below h.be (by have := h.sz; omega) (fun i e => by omega), by have := h.sz; simpa using this, (hk n5 (by have := h.n5b; omega)).trans h.blk, h.n5b⟩
theorem TJ.k0 (h : TJ w wx X0 n5 A C N ids tx c d u) : wx.cell? ⟨n5, 0, none⟩ = some (.int .i64 c) := by simp [World.cell?, h.blk]
theorem TJ.k1 (h : TJ w wx X0 n5 A C N ids tx c d u) : wx.cell? ⟨n5, 1, none⟩ = some (.string d) := by simp [World.cell?, h.blk]
theorem TJ.k2 (h : TJ w wx X0 n5 A C N ids tx c d u) : wx.cell? ⟨n5, 2, none⟩ = some u := by simp [World.cell?, h.blk]
/-- The text of an answer more. -/
theorem TJ.txt (h : TJ w wx X0 n5 A C N ids tx c d u) (hl : A.length ≤ 1000000) :
    ∃ v' w', (Builtin.append_ #[30, 30] 30 #[tx, .slice (some ⟨wx.heap.size, 0, none⟩) 1 1]).run Try.prog (wx.alloc (.cells #[.string d] 9)) = .ok v' w' ∧ (∃ a n c, v' = .slice a n c) ∧ R7 w' (X0 + 1) C N ids tx ∧ R7 (w'.setCell ⟨X0 + 1, 4, none⟩ v') (X0 + 1) C N ids v' ∧ R7 (w'.setCell ⟨X0 + 1, 4, none⟩ v') X0 0 0 (.slice none 0 0) (.slice none 0 0) ∧ TS (X0 + 2) ids (resI A) (w'.setCell ⟨X0 + 1, 4, none⟩ v') ∧ TS (X0 + 2) v' (resT A ++ [d]) (w'.setCell ⟨X0 + 1, 4, none⟩ v') ∧ (∀ i, ids.ownBlock = some i → v'.ownBlock ≠ some i) ∧ Below X0 w (w'.setCell ⟨X0 + 1, 4, none⟩ v') ∧ X0 + 2 ≤ (w'.setCell ⟨X0 + 1, 4, none⟩ v').heap.size ∧ (w'.setCell ⟨X0 + 1, 4, none⟩ v').heap[n5]? = some (.cells #[.int .i64 c, .string d, u] 45 (0, 0)) := by
  have hb : Below wx.heap.size wx (wx.alloc (.cells #[.string d] 9)) := (Below.refl _ _).alloc (Nat.le_refl _) _
  have hs := h.sz
  have hLS : LS t1 1 (fun _ => True) (wx.alloc (.cells #[.string d] 9)) (.slice (some ⟨wx.heap.size, 0, none⟩) 1 1) [d] := LS.one d 9 wx t1 1 _ trivial
  obtain ⟨v', w', h1, h2, h3, h4⟩ := OW.app (ST := 30) t1_len (by decide) (fun x _ => t1_one x) Try.underlying30 Try.infoTx rfl (h.t.keep hb).ow hLS (by have := resT_len A; simp; omega) (by have := resT_len A; simp; omega) (by simp; omega)
  have hi := h.i.keep hb
  have hilt := h.i.lt
  have hne2 : ∀ i, ids.ownBlock = some i → v'.ownBlock ≠ some i := fun i hi2 e => by
    rcases h4 with h4 | h4
    · rw [h4] at e; exact h.ne i hi2 e
    · rw [h4] at e; simp at e; have := (hilt i hi2).2; omega
  have hw : ∀ i, i < wx.heap.size → tx.ownBlock ≠ some i → w'.heap[i]? = wx.heap[i]? := fun i hi2 hn => (h3.block i (by simp; omega) (fun e => hn e.symm)).trans (hb.block i hi2)
  have htl := h.t.lt
  have hr' : R7 w' (X0 + 1) C N ids tx := (hw _ h.r.lt (fun e => by have := (htl _ e).1; omega)).trans h.r
  have hk : ∀ i, i ≠ X0 + 1 → (w'.setCell ⟨X0 + 1, 4, none⟩ v').heap[i]? = w'.heap[i]? := fun i hi => heap_setCell_other w' ⟨X0 + 1, 4, none⟩ i _ hi
  have hw's : wx.heap.size ≤ w'.heap.size := by have := h3.size; simp at this; omega
  have h2lt := h2.ts.lt
  refine ⟨v', w', h1, ?_, hr', heap_set_self hr', (hk X0 (by omega)).trans ((hw _ h.z.lt (fun e => by have := (htl _ e).1; omega)).trans h.z), ?_, ?_, hne2, ?_, by simp; omega, (hk n5 (by have := h.n5b; omega)).trans ((hw _ (lt_of_block h.blk) (fun e => ?_)).trans h.blk)⟩
  · obtain ⟨a, c, e⟩ := h2.shp; exact ⟨a, _, c, e⟩
  · exact h.i.kb fun i hi => (hk i (by have := (hilt i hi).1; omega)).trans (hw i (hilt i hi).2 (h.ne i hi))
  · exact h2.ts.kb fun i hi => hk i (by have := (h2lt i hi).1; omega)
  · exact ((Gs.refl (fun i => i = X0 + 1) w').set1 _ _).below ((h.be.trans (hb.mono (by omega))).grown h3 (by simp; omega) (fun i e => by have := (htl i e).1; omega)) (by omega) (fun i e => by omega)
  · obtain ⟨cs, hcs⟩ := h.t.ow.typ n5 e
    rw [h.blk] at hcs
    simp at hcs
/-- The names of an answer more. -/
theorem names_more {ids v' : Value} {L T l : List ByteArray} (hr : R7 wx (X0 + 1) C N ids v') (hz : R7 wx X0 0 0 (.slice none 0 0) (.slice none 0 0)) (hi : TS (X0 + 2) ids L wx) (ht : TS (X0 + 2) v' T wx) (hne : ∀ i, ids.ownBlock = some i → v'.ownBlock ≠ some i) (hbe : Below X0 w wx) (hs : X0 + 2 ≤ wx.heap.size) {r : Nat → Prop} (hl : LS t1 1 r wx u l) (hln : L.length + l.length ≤ 1000000000000) :
    ∃ v2 w', (Builtin.append_ #[30, 30] 30 #[ids, u]).run Try.prog wx = .ok v2 w' ∧ (∃ a n c, v2 = .slice a n c) ∧ R7 w' (X0 + 1) C N ids v' ∧ R7 (w'.setCell ⟨X0 + 1, 3, none⟩ v2) (X0 + 1) C N v2 v' ∧ R7 (w'.setCell ⟨X0 + 1, 3, none⟩ v2) X0 0 0 (.slice none 0 0) (.slice none 0 0) ∧ TS (X0 + 2) v2 (L ++ l) (w'.setCell ⟨X0 + 1, 3, none⟩ v2) ∧ TS (X0 + 2) v' T (w'.setCell ⟨X0 + 1, 3, none⟩ v2) ∧ (∀ i, v2.ownBlock = some i → v'.ownBlock ≠ some i) ∧ Below X0 w (w'.setCell ⟨X0 + 1, 3, none⟩ v2) ∧ X0 + 2 ≤ (w'.setCell ⟨X0 + 1, 3, none⟩ v2).heap.size := by
  obtain ⟨v2, w', h1, h2, h3, h4⟩ := OW.app (ST := 30) t1_len (by decide) (fun x _ => t1_one x) Try.underlying30 Try.infoTx rfl hi.ow hl (by omega) (by omega) hs
  have hilt := hi.lt
  have htl := ht.lt
  have hne2 : ∀ i, v2.ownBlock = some i → v'.ownBlock ≠ some i := fun i hi2 e => by
    rcases h4 with h4 | h4
    · rw [h4] at hi2; exact hne i hi2 e
    · rw [h4] at hi2; simp at hi2; have := (htl i e).2; omega
  have hw : ∀ i, i < wx.heap.size → ids.ownBlock ≠ some i → w'.heap[i]? = wx.heap[i]? := fun i hi2 hn => h3.block i hi2 (fun e => hn e.symm)
  have hr' : R7 w' (X0 + 1) C N ids v' := (hw _ hr.lt (fun e => by have := (hilt _ e).1; omega)).trans hr
  have hk : ∀ i, i ≠ X0 + 1 → (w'.setCell ⟨X0 + 1, 3, none⟩ v2).heap[i]? = w'.heap[i]? := fun i hi => heap_setCell_other w' ⟨X0 + 1, 3, none⟩ i _ hi
  have hw's := h3.size
  have h2lt := h2.ts.lt
  refine ⟨v2, w', h1, ?_, hr', heap_set_self hr', (hk X0 (by omega)).trans ((hw _ hz.lt (fun e => by have := (hilt _ e).1; omega)).trans hz), ?_, ?_, hne2, ?_, by simp; omega⟩
  · obtain ⟨a, c, e⟩ := h2.shp; exact ⟨a, _, c, e⟩
  · exact h2.ts.kb fun i hi => hk i (by have := (h2lt i hi).1; omega)
  · exact ht.kb fun i hi2 => (hk i (by have := (htl i hi2).1; omega)).trans (hw i (htl i hi2).2 (fun e => hne i e hi2))
  · exact ((Gs.refl (fun i => i = X0 + 1) w').set1 _ _).below (hbe.grown h3 (by omega) (fun i e => by have := (hilt i e).1; omega)) (by omega) (fun i e => by omega)
end
section
variable {w w' : World} {av : Value} {X : List (RR × Value)} {r : Nat → Prop}
set_option maxRecDepth 100000 in
set_option maxHeartbeats 3200000 in
theorem told_any (hL : LS x3 3 r w av X) (hN : ∀ x ∈ X, LS t1 1 r w x.2 x.1.l) (hn : X.length ≤ 1000000) (hIl : (resI (X.map (·.1))).length ≤ 1000000000000) :
    Calls Try.prog 34 #[av] w fun e w' => ∃ ids tx, e = .returned (.agg #[.int .i64 (resC (X.map (·.1))), .string ⟨#[]⟩, .int .i64 ((resN (X.map (·.1)) : Nat) : Int), ids, tx, .slice none 0 0, .slice none 0 0]) ∧ TS w.heap.size ids (resI (X.map (·.1))) w' ∧ TS w.heap.size tx (resT (X.map (·.1))) w' ∧ Below w.heap.size w w' := by
  obtain ⟨a, c, rfl, h1, h2⟩ := hL
  obtain ⟨A, hA⟩ : ∃ A, A = X.map (·.1) := ⟨_, rfl⟩
  rw [← hA] at hIl ⊢
  obtain ⟨m, hm⟩ : ∃ m, m = X.length := ⟨_, rfl⟩
  rw [← hm] at hn ⊢
  have hAl : A.length = m := by rw [hA, hm]; simp
  obtain ⟨U, hU⟩ : ∃ U, U = (w.alloc (.cells #[.int .i64 0, .string ⟨#[]⟩, .int .i64 0, .slice none 0 0, .slice none 0 0, .slice none 0 0, .slice none 0 0] 34)).alloc (.cells #[.int .i64 0, .string ⟨#[]⟩, .int .i64 0, .slice none 0 0, .slice none 0 0, .slice none 0 0, .slice none 0 0] 34) := ⟨_, rfl⟩
  obtain ⟨X0, hX⟩ : ∃ X0, X0 = w.heap.size := ⟨_, rfl⟩
  have hBU : Below w.heap.size w U := by rw [hU]; exact ((Below.refl _ _).alloc (Nat.le_refl _) _).alloc (by simp) _
  have hZ : R7 U X0 0 0 (.slice none 0 0) (.slice none 0 0) := by rw [hU, hX]; unfold R7; rw [Below.heap_alloc _ _ _ (by simp)]; exact heap_alloc_new w _
  have hR : R7 U (X0 + 1) 0 0 (.slice none 0 0) (.slice none 0 0) := by
    rw [hU, hX]
    have := heap_alloc_new (w.alloc (.cells #[.int .i64 0, .string ⟨#[]⟩, .int .i64 0, .slice none 0 0, .slice none 0 0, .slice none 0 0, .slice none 0 0] 34)) (.cells #[.int .i64 0, .string ⟨#[]⟩, .int .i64 0, .slice none 0 0, .slice none 0 0, .slice none 0 0, .slice none 0 0] 34 (0, 0))
    simpa [R7] using this
  have hszU : U.heap.size = X0 + 2 := by rw [hU, hX]; simp
  have HT0 : Hid (TI w U X0 [] (.slice none 0 0) (.slice none 0 0)) := ⟨hR, hZ, TS.nil _ _, TS.nil _ _, (fun i e => by simp [Value.ownBlock] at e), by rw [hX]; exact hBU, by omega⟩
  have HC : Hid (∀ j x, X[j]? = some x → ∀ wr, Below X0 w wr → ∃ g o, a = some ⟨g, o, none⟩ ∧ wr.cell? ⟨g, o + j * 3, none⟩ = some (.int .i64 x.1.c) ∧ wr.cell? ⟨g, o + j * 3 + 1, none⟩ = some (.string x.1.d) ∧ wr.cell? ⟨g, o + j * 3 + 2, none⟩ = some x.2 ∧ LS t1 1 (fun i => r i ∧ i < X0) wr x.2 x.1.l) := fun j x hx wr hb => by
    rcases h2 with h2 | ⟨g, o, ea, hr, hg, hG⟩
    · rw [h2] at hx; simp at hx
    · refine ⟨g, o, ea, ?_, ?_, ?_, ?_⟩
      · exact (hb.cell (p := ⟨g, o + j * 3, none⟩) (by rw [hX]; exact hg)).trans (hG j x hx 0 _ rfl)
      · exact (hb.cell (p := ⟨g, o + j * 3 + 1, none⟩) (by rw [hX]; exact hg)).trans (hG j x hx 1 _ rfl)
      · exact (hb.cell (p := ⟨g, o + j * 3 + 2, none⟩) (by rw [hX]; exact hg)).trans (hG j x hx 2 _ rfl)
      · have := (hN x (List.mem_of_getElem? hx)).old
        rw [← hX] at this
        refine this.kb hb.size fun i hi _ => hb.block i hi.2
  have HX := hide hX
  have HU := hide hU
  have HM := hide hm
  have HA := hide hA
  have HAl := hide hAl
  have HIL := hide hIl
  clear h1 h2 hN hA hm hAl hU hX hBU hZ hR hszU hIl
  go_enter Try.func34, Try.ntmps34
  go_upto_region 2 with fail
  rw [← HU.out, ← HX.out]
  go_wp2
  go_loopw [8] (fun i wr => ∃ (j : Nat) (ids tx : Value), j ≤ m ∧ i = .int .i64 j ∧ TI w wr X0 (A.take j) ids tx) (fun i _ => m - (intOf i).toNat)
  case atStart => exact ⟨0, _, _, Nat.zero_le _, rfl, by rw [List.take_zero]; exact HT0.out⟩
  case round =>
    obtain ⟨j, ids, tx, hj, rfl, hI⟩ := hrel
    have HI := hide hI
    by_cases hlt : j < m
    · have b1 : (j : Int) < (m : Int) := by omega
      have b0 : (0 : Int) ≤ (j : Int) := by omega
      obtain ⟨x, hx⟩ : ∃ x, X[j]? = some x := ⟨_, List.getElem?_eq_getElem (by rw [← HM.out]; exact hlt)⟩
      obtain ⟨g, o, rfl, z0, z1, z2, hLx⟩ := HC.out j x hx wr hI.be
      have HAj : Hid (A[j]? = some x.1) := by show A[j]? = some x.1; rw [HA.out, List.getElem?_map, hx]; rfl
      have HLx := hide hLx
      obtain ⟨xr, u⟩ := x
      obtain ⟨au, cu, hu⟩ := hLx.shp
      dsimp only at hu z0 z1 z2
      clear hLx hI
      obtain ⟨cc, hcc⟩ : ∃ cc, cc = xr.c := ⟨_, rfl⟩
      obtain ⟨dd, hdd⟩ : ∃ dd, dd = xr.d := ⟨_, rfl⟩
      obtain ⟨ln, hln⟩ : ∃ ln, ln = xr.l.length := ⟨_, rfl⟩
      rw [← hcc] at z0
      rw [← hdd] at z1
      rw [← hln] at hu
      subst hu
      have HJ := hide (TJ.new HI.out cc dd (.slice au ln cu))
      obtain ⟨n5, hn5⟩ : ∃ n5, n5 = wr.heap.size := ⟨_, rfl⟩
      obtain ⟨Zw, hZw⟩ : ∃ Zw, Zw = wr.alloc (.cells #[.int .i64 cc, .string dd, .slice au ln cu] 45) := ⟨_, rfl⟩
      rw [← hZw, ← hn5] at HJ
      obtain ⟨C0, hC0⟩ : ∃ C0, C0 = resC (A.take j) := ⟨_, rfl⟩
      obtain ⟨N0, hN0⟩ : ∃ N0, N0 = resN (A.take j) := ⟨_, rfl⟩
      rw [← hC0, ← hN0] at HJ
      have hN0l : N0 ≤ 1000000 := by have := resN_le (A.take j); rw [List.length_take] at this; omega
      have k0 := HJ.out.k0
      have x0 : Zw.cell? ⟨X0 + 1, 0, none⟩ = some (.int .i64 C0) := HJ.out.r.cell 0
      have x2 : Zw.cell? ⟨X0 + 1, 2, none⟩ = some (.int .i64 (N0 : Int)) := HJ.out.r.cell 2
      have f0 := HJ.out.r.free 0
      have f2 := HJ.out.r.free 2
      have HZw := hide hZw
      have Hn5 := hide hn5
      have HCN : Hid (C0 = resC (A.take j) ∧ N0 = resN (A.take j)) := ⟨hC0, hN0⟩
      have Hxr : Hid (cc = xr.c ∧ dd = xr.d ∧ ln = xr.l.length) := ⟨hcc, hdd, hln⟩
      clear hZw hn5 hC0 hN0 hcc hdd hln
      go_upto_if 14 with fail
      rw [← HZw.out, ← Hn5.out]
      go_cut [17] (fun _ wx => ∃ C N : Int, C = stC C0 xr ∧ N = ((stN N0 xr : Nat) : Int) ∧ TJ w wx X0 n5 (A.take j) C N ids tx cc dd (.slice au ln cu))
      case first =>
        by_cases hc0 : cc = 0
        · have HE : Hid (∃ C N : Int, C = stC C0 xr ∧ N = ((stN N0 xr : Nat) : Int) ∧ TJ w (Zw.setCell ⟨X0 + 1, 2, none⟩ (.int .i64 ((N0 : Int) + 1))) X0 n5 (A.take j) C N ids tx cc dd (.slice au ln cu)) :=
            ⟨C0, (N0 : Int) + 1, by rw [stC, ← Hxr.out.1, hc0]; split <;> omega, by rw [stN, if_pos (by rw [← Hxr.out.1]; exact hc0)]; omega, HJ.out.set2 _⟩
          go_wp2
          go_meet
          case rel => exact HE.out
        · by_cases hC : C0 = 0
          · have HE : Hid (∃ C N : Int, C = stC C0 xr ∧ N = ((stN N0 xr : Nat) : Int) ∧ TJ w (Zw.setCell ⟨X0 + 1, 0, none⟩ (.int .i64 cc)) X0 n5 (A.take j) C N ids tx cc dd (.slice au ln cu)) :=
              ⟨cc, (N0 : Int), by rw [stC, ← Hxr.out.1, if_pos hC], by rw [stN, if_neg (by rw [← Hxr.out.1]; exact hc0)], HJ.out.set0 _⟩
            go_wp2
            go_meet
            case rel => exact HE.out
          · have HE : Hid (∃ C N : Int, C = stC C0 xr ∧ N = ((stN N0 xr : Nat) : Int) ∧ TJ w Zw X0 n5 (A.take j) C N ids tx cc dd (.slice au ln cu)) :=
              ⟨C0, (N0 : Int), by rw [stC, if_neg hC], by rw [stN, if_neg (by rw [← Hxr.out.1]; exact hc0)], HJ.out⟩
            go_wp2
            go_meet
            case rel => exact HE.out
      case rest =>
        obtain ⟨C, N, hC, hN, hJ⟩ := hcut
        have HFIN : Hid (C = resC (A.take (j + 1)) ∧ N = ((resN (A.take (j + 1)) : Nat) : Int)) := by
          have e := take_snoc_at HAj.out
          refine ⟨?_, ?_⟩
          · rw [hC, HCN.out.1, e, resC_snoc]
          · rw [hN, HCN.out.2, e, resN_snoc]
        clear hC hN HJ k0 x0 x2 f0 f2
        have x4 : wc.cell? ⟨X0 + 1, 4, none⟩ = some tx := hJ.r.cell 4
        have k1 := hJ.k1
        obtain ⟨v', w', hr1, hsl, hR', hRV, hZV, hIV, hTV, hneV, hBV, hsV, hblk⟩ := hJ.txt (by rw [List.length_take]; omega)
        have hs1 := store1_run (t := 30) hR' (j := 4) (Nat.le_of_ble_eq_true rfl) Try.sizeTs hsl
        obtain ⟨V, hV⟩ : ∃ V, V = w'.setCell ⟨X0 + 1, 4, none⟩ v' := ⟨_, rfl⟩
        rw [← hV] at hs1 hRV hZV hIV hTV hBV hsV hblk
        have x3 : V.cell? ⟨X0 + 1, 3, none⟩ = some ids := hRV.cell 3
        have k2 : V.cell? ⟨n5, 2, none⟩ = some (.slice au ln cu) := by simp [World.cell?, hblk]
        obtain ⟨_, _, _, _, _, _, hLV⟩ := HC.out j _ hx V hBV
        obtain ⟨v2, w2, hr2, hsl2, hR2', hRW, hZW, hIW, hTW, hneW, hBW, hsW⟩ := names_more hRV hZV hIV hTV hneV hBV hsV hLV (by
          have e := take_snoc_at HAj.out
          have := resI_take A (j + 1)
          rw [e, resI_snoc, List.length_append] at this
          have h9 := HIL.out
          dsimp only at this ⊢
          omega)
        have hs2 := store1_run (t := 30) hR2' (j := 3) (Nat.le_of_ble_eq_true rfl) Try.sizeTs hsl2
        obtain ⟨W, hW⟩ : ∃ W, W = w2.setCell ⟨X0 + 1, 3, none⟩ v2 := ⟨_, rfl⟩
        rw [← hW] at hs2 hRW hZW hIW hTW hBW hsW
        have HE : Hid (TI w W X0 (A.take (j + 1)) v2 v') := by
          have e := take_snoc_at HAj.out
          refine ⟨?_, hZW, ?_, ?_, hneW, hBW, hsW⟩
          · rw [← HFIN.out.1, ← HFIN.out.2]; exact hRW
          · rw [e, resI_snoc]; exact hIW
          · rw [e, resT_snoc, ← Hxr.out.2.1]; exact hTW
        clear hJ hsl hR' hRV hZV hIV hTV hneV hBV hsV hblk hV hLV hsl2 hR2' hRW hZW hIW hTW hneW hBW hsW hW
        go_wp2_with (first | (at_builtin; refine Lib.wpList_append_run _ rfl _ _ _ _ rfl _ _ rfl rfl _ _ hr1 ?_) | (at_builtin; refine Lib.wpList_append_run _ rfl _ _ _ _ rfl _ _ rfl rfl _ _ hr2 ?_) | (refine wpList_store_run rfl 30 _ _ rfl _ _ rfl rfl hs1 ?_) | (refine wpList_store_run rfl 30 _ _ rfl _ _ rfl rfl hs2 ?_))
        exact ⟨⟨j + 1, by omega, by go_num, v2, v', HE.out⟩, by simp [intOf]; omega⟩
    · have hjm : j = m := by omega
      subst hjm
      have hI2 := HI.out
      have eA : A.take j = A := List.take_of_length_le (by have := HAl.out; omega)
      rw [eA] at hI2
      have HI2 := hide hI2
      have c0 : wr.cell? ⟨X0 + 1, 0, none⟩ = some (.int .i64 (resC A)) := hI2.r.cell 0
      have c1 : wr.cell? ⟨X0 + 1, 1, none⟩ = some (.string ⟨#[]⟩) := hI2.r.cell 1
      have c2 : wr.cell? ⟨X0 + 1, 2, none⟩ = some (.int .i64 ((resN A : Nat) : Int)) := hI2.r.cell 2
      have c3 : wr.cell? ⟨X0 + 1, 3, none⟩ = some ids := hI2.r.cell 3
      have c4 : wr.cell? ⟨X0 + 1, 4, none⟩ = some tx := hI2.r.cell 4
      have c5 : wr.cell? ⟨X0 + 1, 5, none⟩ = some (.slice none 0 0) := hI2.r.cell 5
      have c6 : wr.cell? ⟨X0 + 1, 6, none⟩ = some (.slice none 0 0) := hI2.r.cell 6
      have hrun := store_run (t := 34) (o := 0) hI2.z #[.int .i64 (resC A), .string ⟨#[]⟩, .int .i64 ((resN A : Nat) : Int), ids, tx, .slice none 0 0, .slice none 0 0] (Nat.le_of_ble_eq_true rfl) Try.sizeR (by obtain ⟨a, c, e⟩ := hI2.i.shp; obtain ⟨a', c', e'⟩ := hI2.t.shp; rw [e, e']; simp [Value.oneCell'])
      obtain ⟨Y, hY⟩ : ∃ Y, Y = wr.setCells X0 0 [.int .i64 (resC A), .string ⟨#[]⟩, .int .i64 ((resN A : Nat) : Int), ids, tx, .slice none 0 0, .slice none 0 0] := ⟨_, rfl⟩
      have hRY : R7 Y X0 (resC A) ((resN A : Nat) : Int) ids tx := by
        have h1 := setCells_self [.int .i64 (resC A), .string ⟨#[]⟩, .int .i64 ((resN A : Nat) : Int), ids, tx, .slice none 0 0, .slice none 0 0] 0 wr _ hI2.z
        rw [← hY] at h1
        simpa [putAll, R7] using h1
      simp only [] at hrun
      rw [← hY] at hrun
      have hGY2 : Gs (fun i => i = X0) wr Y := by rw [hY]; exact Gs.cells _ _ _ (Gs.refl _ _) (.inl rfl)
      have HE : Hid (∃ jds ty, Ending.returned (.agg #[.int .i64 (resC A), .string ⟨#[]⟩, .int .i64 ((resN A : Nat) : Int), ids, tx, .slice none 0 0, .slice none 0 0]) = Ending.returned (.agg #[.int .i64 (resC A), .string ⟨#[]⟩, .int .i64 ((resN A : Nat) : Int), jds, ty, .slice none 0 0, .slice none 0 0]) ∧ TS w.heap.size jds (resI A) Y ∧ TS w.heap.size ty (resT A) Y ∧ Below w.heap.size w Y) := by
        have hx := HX.out
        have hit := hI2.i.lt
        have htt := hI2.t.lt
        refine ⟨ids, tx, rfl, (hI2.i.kb fun i hi => hGY2.block i (hit i hi).2 (by have := (hit i hi).1; omega)).low (by omega), (hI2.t.kb fun i hi => hGY2.block i (htt i hi).2 (by have := (htt i hi).1; omega)).low (by omega), ?_⟩
        rw [← hx]
        exact hGY2.below hI2.be (by have := hI2.sz; omega) (fun i e => by omega)
      have r0 : Y.cell? ⟨X0, 0, none⟩ = some (.int .i64 (resC A)) := hRY.cell 0
      have r1 : Y.cell? ⟨X0, 1, none⟩ = some (.string ⟨#[]⟩) := hRY.cell 1
      have r2 : Y.cell? ⟨X0, 2, none⟩ = some (.int .i64 ((resN A : Nat) : Int)) := hRY.cell 2
      have r3 : Y.cell? ⟨X0, 3, none⟩ = some ids := hRY.cell 3
      have r4 : Y.cell? ⟨X0, 4, none⟩ = some tx := hRY.cell 4
      have r5 : Y.cell? ⟨X0, 5, none⟩ = some (.slice none 0 0) := hRY.cell 5
      have r6 : Y.cell? ⟨X0, 6, none⟩ = some (.slice none 0 0) := hRY.cell 6
      have b1 : ¬ (j : Int) < (j : Int) := by omega
      clear hY hRY hGY2 hI2 eA
      go_wp2_with (refine wpList_store_run rfl 34 _ _ rfl _ _ rfl rfl hrun ?_)
      exact bodyPost_ret (v := .agg #[.int .i64 (resC A), .string ⟨#[]⟩, .int .i64 ((resN A : Nat) : Int), ids, tx, .slice none 0 0, .slice none 0 0]) (by simp [results, Try.results34, go_sem, r0, r1, r2, r3, r4, r5, r6]) rfl HE.out
end
end Go.Proofs.Ytepmhgkegfpmjaa
