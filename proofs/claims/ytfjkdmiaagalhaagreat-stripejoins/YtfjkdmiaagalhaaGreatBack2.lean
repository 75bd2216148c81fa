/-
  Pieces that were lost, brought back: what is turned, and the first half of the walk.
-/
import Derived.Test.YtfjkdmiaagalhaaGreatFirst2
import Derived.Test.YtfjkdmiaagalhaaGreatRowsMath
import Derived.Test.YtfjkdmiaagalhaaGreatPick
import Derived.Deep.DeepCutAuto
namespace Go.Proofs.YtfjkdmiaagalhaaGreat
open Go.RowKit Go.Lib Go.Maps

/-- Only these blocks are turned, and new memory. -/
structure Gs (p : Nat → Prop) (w w' : World) : Prop where
  os : w'.os = w.os
  tape : w'.tape = w.tape
  output : w'.output = w.output
  size : w.heap.size ≤ w'.heap.size
  block : ∀ i, i < w.heap.size → ¬ p i → w'.heap[i]? = w.heap[i]?
section
variable {p : Nat → Prop} {w w1 w' : World}
theorem Gs.refl (p : Nat → Prop) (w : World) : Gs p w w := ⟨rfl, rfl, rfl, Nat.le_refl _, fun _ _ _ => rfl⟩
theorem Gs.trans (h : Gs p w w1) (k : Gs p w1 w') : Gs p w w' :=
  ⟨k.os.trans h.os, k.tape.trans h.tape, k.output.trans h.output, Nat.le_trans h.size k.size, fun i hi hp => (k.block i (Nat.lt_of_lt_of_le hi h.size) hp).trans (h.block i hi hp)⟩
theorem Gs.gb {b : Nat} (h : Gs p w w1) (k : w1.grownBy w' (some b)) (hb : p b ∨ w.heap.size ≤ b) : Gs p w w' :=
  ⟨k.os.trans h.os, k.tape.trans h.tape, k.output.trans h.output, Nat.le_trans h.size k.size, fun i hi hp => (k.block i (Nat.lt_of_lt_of_le hi h.size) (by
    intro e
    cases e
    rcases hb with hb | hb
    · exact hp hb
    · omega)).trans (h.block i hi hp)⟩
theorem Gs.bel (h : Gs p w w1) (k : Below w1.heap.size w1 w') : Gs p w w' :=
  ⟨k.os.trans h.os, k.tape.trans h.tape, k.output.trans h.output, Nat.le_trans h.size k.size, fun i hi hp => (k.block i (Nat.lt_of_lt_of_le hi h.size)).trans (h.block i hi hp)⟩
theorem Gs.of_below (p : Nat → Prop) (k : Below w.heap.size w w') : Gs p w w' := (Gs.refl p w).bel k
theorem Gs.below (h : Gs p w w') {B : Nat} {w0 : World} (h0 : Below B w0 w) (hB : B ≤ w.heap.size) (hp : ∀ i, p i → B ≤ i) : Below B w0 w' :=
  ⟨h.os.trans h0.os, h.tape.trans h0.tape, h.output.trans h0.output, Nat.le_trans h0.size h.size, fun i hi => (h.block i (by omega) (fun e => by have := hp i e; omega)).trans (h0.block i hi)⟩
theorem Gs.mono {q : Nat → Prop} (h : Gs p w w') (hq : ∀ i, i < w.heap.size → p i → q i) : Gs q w w' := ⟨h.os, h.tape, h.output, h.size, fun i hi hn => h.block i hi (fun e => hn (hq i hi e))⟩
end
theorem KB.nef {w : World} {g n f : Nat} {G : Nat → K} (hG : KB w g n G) (hF : F w f) : g ≠ f := by
  intro e
  subst e
  obtain ⟨Z, hG⟩ := hG
  rcases hF with h | ⟨_, _, h, _⟩ <;> (unfold FB at h; rw [hG] at h; simp at h)
theorem Bx.nef {w : World} {b f : Nat} {r c : Int} {v : Value} (h : Bx w b r c v) (hF : F w f) : b ≠ f := by
  intro e
  subst e
  unfold Bx at h
  rcases hF with h' | ⟨_, _, h', _⟩ <;> (unfold FB at h'; rw [h] at h'; simp at h')
theorem SB.nek {w : World} {q n g N : Nat} {X : Nat → ByteArray} {G : Nat → K} (h : SB w q n X) (hG : KB w g N G) : g ≠ q := by
  intro e
  subst e
  obtain ⟨Z, x⟩ := hG
  unfold SB at h; rw [x] at h; simp at h
theorem SB.neb {w : World} {q n b : Nat} {X : Nat → ByteArray} {r c : Int} {v : Value} (h : SB w q n X) (hG : Bx w b r c v) : b ≠ q := by
  intro e
  subst e
  unfold SB Bx at *; rw [hG] at h; simp at h
/-- The matrix space's field has gone on. -/
theorem PP.go1 {w w' : World} {b sb f1 f2 g k m : Nat} (h : PP w b sb f1 f2 g k m) (hS : SP w' sb f1) (hg : w.grownBy w' (some f1)) : PP w' b sb f1 f2 g k m := by
  have n1 : b ≠ f1 := by
    intro e; subst e
    have x := h.pl
    unfold PL at x
    rcases h.sp.fl with y | ⟨_, _, y, _⟩ <;> (unfold FB at y; rw [x] at y; simp at y)
  exact ⟨h.pl.of_block (hg.block b h.pl.lt (by simpa using n1)), hS, h.fl.other h.sp.fl hg h.ne.symm, h.kb.of_block (hg.block g h.kb.lt (by simpa using h.kb.nef h.sp.fl)), h.ne⟩

/-- The rows of the parts, picked; the pieces as mixtures of the parts. -/
def pkd (k : Nat) (ρ : Nat → Nat) : Nat → K := flat k (fun i j => mt k (flat k (cauM k)) (ρ i) j)
def bkd (k : Nat) (ρ : Nat → Nat) (X : Nat → ByteArray) (i : Nat) : ByteArray := Fd.mixS k k X (fun t => (((flat k (invQ k (pkd k ρ)) (i * k + t)).v : Nat) : Int))

end Go.Proofs.YtfjkdmiaagalhaaGreat

namespace Go.Proofs.YtfjkdmiaagalhaaGreat
open Go.RowKit Go.Lib Go.Maps

theorem kn_v {r : Nat} (h : r < 256) : (kn r).v = r := Nat.mod_eq_of_lt h
theorem put_two {w V : World} {nb tb k i r B : Nat} {G : Nat → K} {X : Nat → ByteArray} (hN : KB V nb k G) (hT : SB V tb k X) (hB : Below B w V) (h1 : B ≤ nb) (h2 : B ≤ tb) (hBV : B ≤ V.heap.size) (hi : i < k) (hr : r < 256) (x : ByteArray) :
    KB ((V.setCell ⟨nb, i, none⟩ (.int .i64 (r : Int))).setCell ⟨tb, i, none⟩ (.string x)).drew nb k (fun j => if j = i then kn r else G j) ∧
    SB ((V.setCell ⟨nb, i, none⟩ (.int .i64 (r : Int))).setCell ⟨tb, i, none⟩ (.string x)).drew tb k (fun j => if j = i then x else X j) ∧
    Below B w ((V.setCell ⟨nb, i, none⟩ (.int .i64 (r : Int))).setCell ⟨tb, i, none⟩ (.string x)).drew := by
  have ne := hT.nek hN
  have hs := hN.set i hi (kn r)
  rw [kn_v hr] at hs
  have g1 := gb_set V nb i (.int .i64 (r : Int))
  have hT1 := hT.of_block (g1.block tb hT.lt (by simpa using ne.symm))
  have g2 := gb_set (V.setCell ⟨nb, i, none⟩ (.int .i64 (r : Int))) tb i (.string x)
  have hs2 := hs.of_block (g2.block nb hs.lt (by simpa using ne))
  exact ⟨hs2, hT1.set i x, (below_gb (below_gb hB g1 h1 hBV) g2 h2 (Nat.le_trans hBV g1.size)).drew⟩

/-- The matrix that brings back lies in memory. -/
structure IR (w wx : World) (b sb f1 f2 g k m q gb KK : Nat) (Q : Nat → K) (X P : Nat → ByteArray) : Prop where
  kb : KB wx gb KK Q
  le : w.heap.size ≤ gb
  tx : SB wx (w.heap.size + 1) k X
  pp : PP wx b sb f1 f2 g k m
  sb : SB wx q k P
  gs : Gs (fun j => j = f1 ∨ j = f2 ∨ j = q) w wx
theorem IR.bel {w wx w' : World} {b sb f1 f2 g k m q gb KK : Nat} {Q : Nat → K} {X P : Nat → ByteArray} (h : IR w wx b sb f1 f2 g k m q gb KK Q X P) (hb : Below wx.heap.size wx w') : IR w w' b sb f1 f2 g k m q gb KK Q X P :=
  ⟨h.kb.below hb (Nat.le_refl _), h.le, h.tx.below hb (Nat.le_refl _), h.pp.below hb, h.sb.below hb (Nat.le_refl _), h.gs.bel hb⟩
/-- A box of a matrix is written. -/
theorem IR.box {w wx w' : World} {b sb f1 f2 g k m q gb KK bx : Nat} {Q : Nat → K} {X P : Nat → ByteArray} {r c : Int} {v : Value} (h : IR w wx b sb f1 f2 g k m q gb KK Q X P) (hx : Bx wx bx r c v) (hw : w.heap.size ≤ bx) (hg : wx.grownBy w' (some bx)) : IR w w' b sb f1 f2 g k m q gb KK Q X P := by
  have n1 := hx.ne h.kb
  have n2 := hx.ne h.pp.kb
  have n3 : b ≠ bx := by
    intro e; subst e
    have x := h.pp.pl
    unfold PL at x; unfold Bx at hx; rw [x] at hx; simp at hx
  unfold Bx at hx
  have hx' := hx
  refine ⟨h.kb.of_block (hg.block gb h.kb.lt (by simpa using n1.symm)), h.le, h.tx.of_block (hg.block _ h.tx.lt (by simpa using (h.tx.neb (b := bx) hx').symm)), ?_, h.sb.of_block (hg.block _ h.sb.lt (by simpa using (h.sb.neb (b := bx) hx').symm)), h.gs.gb hg (.inr hw)⟩
  exact ⟨h.pp.pl.of_block (hg.block b h.pp.pl.lt (by simpa using n3)), h.pp.sp.set hx (by decide) (by decide) (by decide) hg, h.pp.fl.set hx (by decide) (by decide) hg, h.pp.kb.of_block (hg.block g h.pp.kb.lt (by simpa using n2.symm)), h.pp.ne⟩
/-- The plan's field has gone on. -/
theorem IR.mixed {w wx w' : World} {b sb f1 f2 g k m q gb KK : Nat} {Q : Nat → K} {X P : Nat → ByteArray} (h : IR w wx b sb f1 f2 g k m q gb KK Q X P) (hF : F w' f2) (hg : wx.grownBy w' (some f2)) : IR w w' b sb f1 f2 g k m q gb KK Q X P :=
  ⟨h.kb.of_block (hg.block gb h.kb.lt (by simpa using h.kb.nef h.pp.fl)), h.le, h.tx.gof h.pp.fl hg, h.pp.go hF hg, h.sb.gof h.pp.fl hg, h.gs.gb hg (.inl (.inr (.inl rfl)))⟩
/-- A piece is written. -/
theorem IR.put {w wx : World} {b sb f1 f2 g k m q gb KK : Nat} {Q : Nat → K} {X P : Nat → ByteArray} (h : IR w wx b sb f1 f2 g k m q gb KK Q X P) (hq : q < w.heap.size) (t : Nat) (x : ByteArray) : IR w (wx.setCell ⟨q, t, none⟩ (.string x)) b sb f1 f2 g k m q gb KK Q X (fun s => if s = t then x else P s) := by
  have hg := gb_set wx q t (.string x)
  exact ⟨h.kb.of_block (hg.block gb h.kb.lt (by simpa using h.sb.nek h.kb)), h.le, h.tx.of_block (hg.block _ h.tx.lt (by simp; omega)), h.pp.put h.sb hg, h.sb.set t x, h.gs.gb hg (.inl (.inr (.inr rfl)))⟩
theorem SB.not_int {w : World} {q n bl o : Nat} {X : Nat → ByteArray} {z : Int} (h : SB w q n X) (hc : w.cell? ⟨bl, o, none⟩ = some (.int .i64 z)) : bl ≠ q := by
  intro e
  subst e
  rw [cell_of_row w bl o _ _ _ h, List.getElem?_toArray] at hc
  by_cases ho : o < n
  · rw [Fd.textsOf_get ho] at hc; cases hc
  · rw [List.getElem?_eq_none (by rw [Fd.textsOf_length]; omega)] at hc; cases hc
/-- The matrix of the picked rows, turned about. -/
theorem inv_step {w W : World} {b sb f1 f2 g k m q gp : Nat} {ρ : Nat → Nat} {X P : Nat → ByteArray} (k1 : 1 ≤ k) (km : k + m ≤ 255) (hρ : ∀ t, t < k → ρ t < k + m) (hi : ∀ s t, s < k → t < k → ρ s = ρ t → s = t)
    (h : IR w W b sb f1 f2 g k m q gp (k * k) (pkd k ρ) X P) :
    Calls Tryz.prog 73 #[.pointer (some ⟨sb, 0, none⟩), .agg #[.int .i64 k, .int .i64 k, .slice (some ⟨gp, 0, none⟩) (k * k) (k * k)]] W fun e w' =>
      ∃ gb, e = .returned (.tuple #[.agg #[.int .i64 k, .int .i64 k, .slice (some ⟨gb, 0, none⟩) (k * k) (k * k)], .int .i64 0]) ∧ IR w w' b sb f1 f2 g k m q gb (k * k) (flat k (invQ k (pkd k ρ))) X P ∧ W.heap.size ≤ w'.heap.size ∧ ∀ bx r c v, Bx W bx r c v → Bx w' bx r c v := by
  have hfull : (redu k (wideM k (pkd k ρ)) k).2 = k := picked_full k m km ρ hρ hi _ (fun t _ => rfl)
  refine (inverse_any (A := pkd k ρ) h.pp.sp k1 (by omega) (h.kb.nx (Nat.le_refl _) (h.kb.nef h.pp.sp.fl))).mono ?_
  rintro e w' ⟨⟨_, gb, rfl, hG, hgb⟩ | ⟨hbad, _⟩, hS, hg⟩
  · refine ⟨gb, rfl, ⟨hG, Nat.le_trans h.gs.size hgb, h.tx.gof h.pp.sp.fl hg, h.pp.go1 hS hg, h.sb.gof h.pp.sp.fl hg, h.gs.gb hg (.inl (.inl rfl))⟩, hg.size, fun bx r c v hx => hx.gof h.pp.sp.fl hg⟩
  · omega

set_option maxRecDepth 100000 in
set_option maxHeartbeats 3200000 in
theorem back_any {w : World} {b sb f1 f2 g k m : Nat} (h : PP w b sb f1 f2 g k m) (k1 : 1 ≤ k) (km : k + m ≤ 255) {q : Nat} {P : Nat → ByteArray} (hS : SB w q k P)
    {vl : Value} {ln : Nat} {l : Nat → Nat} (hL : Fd.NX w vl ln (fun t => ((l t : Nat) : Int))) (hln : ln ≤ 255) (hl : ∀ t, t < ln → l t < k)
    {vf : Value} {ρ : Nat → Nat} {X : Nat → ByteArray} (hF : PX w vf k (fun t => ((ρ t : Nat) : Int)) X) (hρ : ∀ t, t < k → ρ t < k + m) (hi : ∀ s t, s < k → t < k → ρ s = ρ t → s = t) (hX : ∀ t, t < k → (X t).size ≤ 65536) :
    Calls Tryz.prog 62 #[.pointer (some ⟨b, 0, none⟩), .slice (some ⟨q, 0, none⟩) k k, vl, vf] w fun e w' => e = .returned (.tuple #[]) ∧
      SB w' q k (fun i => if ∃ t, t < ln ∧ l t = i then bkd k ρ X i else P i) ∧ PP w' b sb f1 f2 g k m ∧ Gs (fun i => i = f1 ∨ i = f2 ∨ i = q) w w' := by
  obtain ⟨af, cf, rfl, hF⟩ := hF
  obtain ⟨al, cl, rfl, hL⟩ := hL
  obtain ⟨bf, of, rfl, hbf, hcf⟩ := hF.resolve_left (by omega)
  have HP := hide h
  have HS := hide hS
  have HL := hide hL
  have HC := hide hcf
  have HR := hide (And.intro hρ (And.intro hi (And.intro hX hl)))
  have HK := hide (And.intro k1 km)
  have hk : k ≤ 255 := by omega
  clear h hS hL hcf hρ hi hX hl hF
  have c0 := HP.out.pl.cell0
  have hmk : ∀ w : World, _ := fun w => run_make_row' (P := Tryz.prog) 43 9 (.string ⟨#[]⟩) 16 Tryz.underlying43 Tryz.infoS rfl .i64 .i64 k (by omega) (by omega) w
  have hmi : ∀ w : World, _ := fun w => run_make_row' (P := Tryz.prog) 48 3 (.int .i64 0) 8 Tryz.underlying48 Tryz.info3 rfl .i64 .i64 k (by omega) (by omega) w
  have c0' : (w.alloc (.cells (madeCells #[.int .i64 0] k) 3)).cell? ⟨b, 0, none⟩ = some (.int .i64 k) := ((below_alloc (Below.refl _ _) _).cell (p := ⟨b, 0, none⟩) HP.out.pl.lt).trans c0
  go_enter Tryz.func62, Tryz.ntmps62
  go_wp2
  obtain ⟨W, hW⟩ : ∃ W, W = (w.alloc (.cells (madeCells #[.int .i64 0] k) 3)).alloc (.cells (madeCells #[.string ⟨#[]⟩] k) 9) := ⟨_, rfl⟩
  have HN0 : Hid (KB W w.heap.size k (fun _ => 0)) := by rw [hW]; exact KB.alloc ⟨[], by rw [made_kcells]; exact heap_alloc_new w _⟩ _
  have HT0 : Hid (SB W (w.heap.size + 1) k (fun _ => ⟨#[]⟩)) := by
    have := SB.made (w.alloc (.cells (madeCells #[.int .i64 0] k) 3)) k
    rw [hW]
    refine hide ?_
    simpa using this
  have HB0 : Hid (Below w.heap.size w W) := by rw [hW]; exact below_alloc (below_alloc (Below.refl _ _) _) _
  have HW2 : Hid (w.heap.size + 1 < W.heap.size) := HT0.out.lt
  rw [← hW]
  clear hW hmk hmi c0'
  go_loopw [30] (fun z wr => ∃ i : Nat, i ≤ k ∧ z = .int .i64 i ∧ KB wr w.heap.size k (fun j => if j < i then kn (ρ j) else 0) ∧ SB wr (w.heap.size + 1) k (fun j => if j < i then X j else ⟨#[]⟩) ∧ Below w.heap.size w wr) (fun z _ => k - (RowKit.intOf z).toNat)
  case atStart => exact ⟨0, Nat.zero_le _, rfl, HN0.out.congr (fun i hi => by simp), HT0.out.congr (fun i hi => by simp), HB0.out⟩
  case round =>
    obtain ⟨i, hi, rfl, hN, hT, hB⟩ := hrel
    clear HN0 HT0 HB0 HW2
    by_cases hlt : i < k
    · have p1 := (hB.cell (p := ⟨bf, of + i * 2, none⟩) hbf).trans (HC.out i hlt).1
      have p2 := (hB.cell (p := ⟨bf, of + i * 2 + 1, none⟩) hbf).trans (HC.out i hlt).2
      have b1 : (i : Int) < (k : Int) := by omega
      have b0 : (0 : Int) ≤ (i : Int) := by omega
      have HN := hide hN
      have HT := hide hT
      have HB := hide hB
      clear hN hT hB c0
      go_upto_region 5 with fail
      obtain ⟨V, hV⟩ : ∃ V, V = wr.alloc (.cells #[.int .i64 ((ρ i : Nat) : Int), .string (X i)] 35) := ⟨_, rfl⟩
      have hbV : Below wr.heap.size wr V := by rw [hV]; exact below_alloc (Below.refl _ _) _
      have hbk : V.heap[wr.heap.size]? = some (.cells #[.int .i64 ((ρ i : Nat) : Int), .string (X i)] 35) := by rw [hV]; exact heap_alloc_new wr _
      have q0 : V.cell? ⟨wr.heap.size, 0, none⟩ = some (.int .i64 ((ρ i : Nat) : Int)) := by rw [cell_of_row V _ 0 _ _ _ hbk]; rfl
      have q1 : V.cell? ⟨wr.heap.size, 1, none⟩ = some (.string (X i)) := by rw [cell_of_row V _ 1 _ _ _ hbk]; rfl
      have HNV := hide (HN.out.below hbV (Nat.le_refl _))
      have HTV := hide (HT.out.below hbV (Nat.le_refl _))
      have HBV := hide (below_step HB.out hbV)
      have r0 := HNV.out.cell i hlt
      have r1 := HNV.out.free i
      have r2 := HTV.out.cell i hlt
      have r3 := HTV.out.free i
      have n1 : w.heap.size ≠ w.heap.size + 1 := by omega
      have n2 : w.heap.size + 1 ≠ w.heap.size := by omega
      have n3 : wr.heap.size ≠ w.heap.size := by have := HN.out.lt; omega
      have n4 : wr.heap.size ≠ w.heap.size + 1 := by have := HT.out.lt; omega
      rw [← hV]
      have HU := hide (put_two (i := i) (r := ρ i) HNV.out HTV.out HBV.out (Nat.le_refl _) (Nat.le_succ _) HBV.out.size hlt (by have := HR.out.1 i hlt; have := HK.out; omega) (X i))
      clear hV hbV hbk HN HT HB p1 p2 HNV HTV HBV
      go_region
      have hst : ∀ {α : Type} (f : Nat → α) (z : α) (j : Nat), (if j = i then f i else if j < i then f j else z) = if j < i + 1 then f j else z := fun f z j => by
        by_cases e1 : j = i
        · subst e1; rw [if_pos rfl, if_pos (by omega)]
        · rw [if_neg e1]
          by_cases e2 : j < i
          · rw [if_pos e2, if_pos (by omega)]
          · rw [if_neg e2, if_neg (by omega)]
      obtain ⟨u1, u2, u3⟩ := HU.out
      have HU1 := hide (u1.congr (f' := fun j => if j < i + 1 then kn (ρ j) else 0) (fun j _ => hst (fun j => kn (ρ j)) 0 j))
      have HU2 := hide (u2.congr (X' := fun j => if j < i + 1 then X j else ⟨#[]⟩) (fun j _ => hst X ⟨#[]⟩ j))
      have HU3 := hide u3
      clear HU u1 u2 u3 hst r0 r1 r2 r3 q0 q1
      go_wp2
      exact ⟨⟨i + 1, by omega, by go_num, HU1.out, HU2.out, HU3.out⟩, by simp [RowKit.intOf]; omega⟩
    · obtain rfl : i = k := by omega
      have HN := hide (hN.congr (f' := fun j => kn (ρ j)) (fun j hj => if_pos hj))
      have HT := hide (hT.congr (X' := X) (fun j hj => if_pos hj))
      have HB := hide hB
      have hbl : Below w.heap.size w wr := hB
      have HPr := hide (HP.out.below hB)
      have d2 := HPr.out.pl.cell2
      have d3 := HPr.out.pl.cell3
      have d4 := HPr.out.pl.cell4
      have HA : Hid (NX wr wr.heap.size (.slice (some ⟨g, 0, none⟩) ((i + m) * i) ((i + m) * i)) ((i + m) * i) (fun t => (((flat i (cauM i) t).v : Nat) : Int))) := HPr.out.kb.nx (Nat.le_refl _) (by have := HPr.out.kb.lt; omega)
      have HQ : Hid (NX wr wr.heap.size (.slice (some ⟨w.heap.size, 0, none⟩) i i) i (fun t => ((ρ t : Nat) : Int))) := ⟨_, _, rfl, Nat.le_refl _, .inr ⟨w.heap.size, 0, rfl, HN.out.lt, by have := HN.out.lt; omega, fun t ht => by
        have := HN.out.cell t ht
        rw [kn_v (by have := HR.out.1 t ht; have := HK.out; omega)] at this
        rw [Nat.zero_add]
        exact this⟩⟩
      have HPK := hide (fun w0 : World => pick_ok (w := wr) (f := wr.heap.size) (f' := wr.heap.size) (r := i + m) (c := i) (k := i) (va := .slice (some ⟨g, 0, none⟩) ((i + m) * i) ((i + m) * i)) (vr := .slice (some ⟨w.heap.size, 0, none⟩) i i) (A := flat i (cauM i)) (ρ := ρ) (by have := HK.out; omega) HK.out.2 HK.out.1 (by omega) HK.out.1 (by omega) HA.out HQ.out HR.out.1)
      obtain ⟨n, hn⟩ : ∃ n, n = i + m := ⟨_, rfl⟩
      obtain ⟨N, hN⟩ : ∃ N, N = n * i := ⟨_, rfl⟩
      obtain ⟨KK, hKK⟩ : ∃ KK, KK = i * i := ⟨_, rfl⟩
      rw [← hn] at d2 d4 HPK
      rw [← hN] at d4 HPK
      rw [← hKK] at HPK
      have HE := hide (And.intro hn (And.intro hN hKK))
      clear HA HQ hN hn hKK hT hB c0 hbl
      go_wp2_with fail
      refine (HPK.out wr).mono ?_
      rintro e w2 ⟨gp, rfl, hG, hgp, hb2⟩
      have HIR : Hid (IR w w2 b sb f1 f2 g i m q gp (i * i) (pkd i ρ) X P) := ⟨by rw [← HE.out.2.2]; exact hG, Nat.le_trans HB.out.size hgp, HT.out.below hb2 (Nat.le_refl _), HPr.out.below hb2, HS.out.below (below_step HB.out hb2) (Nat.le_refl _), Gs.of_below _ (below_step HB.out hb2)⟩
      clear hG hgp hb2 HPr HPK HN HT HB d2 d3 d4
      go_upto_region 8 with fail
      obtain ⟨V, hV⟩ : ∃ V, V = w2.alloc (.cells #[.int .i64 i, .int .i64 i, .slice (some ⟨gp, 0, none⟩) KK KK] 50) := ⟨_, rfl⟩
      have hbV : Below w2.heap.size w2 V := by rw [hV]; exact below_alloc (Below.refl _ _) _
      have hx : Bx V w2.heap.size i i (.slice (some ⟨gp, 0, none⟩) KK KK) := by rw [hV]; exact Bx.new w2 _ _ _
      have HIV := hide (HIR.out.bel hbV)
      rw [← hV]
      have HVs : Hid (w.heap.size ≤ V.heap.size) := HIV.out.gs.size
      have HX := hide hx
      have HINV : Hid (∀ W, Below V.heap.size V W → Calls Tryz.prog 73 #[.pointer (some ⟨sb, 0, none⟩), .agg #[.int .i64 i, .int .i64 i, .slice (some ⟨gp, 0, none⟩) KK KK]] W fun e w' =>
          ∃ gb, e = .returned (.tuple #[.agg #[.int .i64 i, .int .i64 i, .slice (some ⟨gb, 0, none⟩) KK KK], .int .i64 0]) ∧ IR w w' b sb f1 f2 g i m q gb KK (flat i (invQ i (pkd i ρ))) X P ∧ W.heap.size ≤ w'.heap.size ∧ ∀ bx r c v, Bx W bx r c v → Bx w' bx r c v) := by
        refine hide ?_
        rw [HE.out.2.2]
        exact fun W hb => inv_step HK.out.1 HK.out.2 HR.out.1 HR.out.2.1 (HIV.out.bel hb)
      have HCS : Hid (∀ w', Below V.heap.size V w' → w'.cell? ⟨b, 5, none⟩ = some (.pointer (some ⟨sb, 0, none⟩)) ∧ w'.cell? ⟨w2.heap.size, 0, none⟩ = some (.int .i64 i) ∧ w'.cell? ⟨w2.heap.size, 1, none⟩ = some (.int .i64 i) ∧ w'.cell? ⟨w2.heap.size, 2, none⟩ = some (.slice (some ⟨gp, 0, none⟩) KK KK)) :=
        fun w' hb => ⟨(HIV.out.pp.below hb).pl.cell5, (HX.out.below hb (Nat.le_refl _)).cell0, (HX.out.below hb (Nat.le_refl _)).cell1, (HX.out.below hb (Nat.le_refl _)).cell2⟩
      have HB0 : Hid (Below V.heap.size V V.drew) := (Below.refl _ _).drew
      have HBA : Hid (∀ o, Below V.heap.size V (V.alloc o).drew) := fun o => (below_alloc (Below.refl _ _) o).drew
      have HSA : Hid (∀ wx gb, IR w wx b sb f1 f2 g i m q gb KK (flat i (invQ i (pkd i ρ))) X P → Bx wx w2.heap.size i i (.slice (some ⟨gp, 0, none⟩) KK KK) → (wx.cell? ⟨b, 5, none⟩ = some (.pointer (some ⟨sb, 0, none⟩)) ∧ wx.cell? ⟨w2.heap.size, 0, none⟩ = some (.int .i64 i) ∧ wx.cell? ⟨w2.heap.size, 1, none⟩ = some (.int .i64 i) ∧ wx.cell? ⟨w2.heap.size, 2, none⟩ = some (.slice (some ⟨gp, 0, none⟩) KK KK))) :=
        fun wx gb hI hx => ⟨hI.pp.pl.cell5, hx.cell0, hx.cell1, hx.cell2⟩
      have HXW : Hid (∀ W wx, Below V.heap.size V W → (∀ bx r c v, Bx W bx r c v → Bx wx bx r c v) → Bx wx w2.heap.size i i (.slice (some ⟨gp, 0, none⟩) KK KK)) := fun W wx hb hbx => hbx _ _ _ _ (HX.out.below hb (Nat.le_refl _))
      have HVn : Hid (w2.heap.size ≠ V.heap.size) := by have := HX.out.lt; refine hide ?_; omega
      clear hV hbV hx HIR
      go_cut [14] (fun z wx => ∃ bx gb, z = .pointer (some ⟨bx, 0, none⟩) ∧ Bx wx bx i i (.slice (some ⟨gb, 0, none⟩) KK KK) ∧ w.heap.size ≤ bx ∧ IR w wx b sb f1 f2 g i m q gb KK (flat i (invQ i (pkd i ρ))) X P)
      case first =>
        go_region_held_law (fun wx => wx.cell? ⟨b, 5, none⟩ = some (.pointer (some ⟨sb, 0, none⟩)) ∧ wx.cell? ⟨w2.heap.size, 0, none⟩ = some (.int .i64 i) ∧ wx.cell? ⟨w2.heap.size, 1, none⟩ = some (.int .i64 i) ∧ wx.cell? ⟨w2.heap.size, 2, none⟩ = some (.slice (some ⟨gp, 0, none⟩) KK KK))
          (first | with_reducible exact HCS.out _ HB0.out | with_reducible exact HCS.out _ (HBA.out _) | with_reducible assumption | with_reducible exact sB _)
          (first
            | (go_at_call 73; refine (HINV.out V.drew HB0.out).mono ?_; rintro e wa ⟨gb, rfl, hIR, hsz, hbx⟩; have HI1 := hide hIR; have HSZ : Hid (V.heap.size ≤ wa.heap.size) := hsz; have sA := HSA.out _ _ hIR (HXW.out _ _ HB0.out hbx); have sB := fun o => HSA.out _ _ (hIR.bel (below_alloc (Below.refl _ _) o)) ((HXW.out _ _ HB0.out hbx).alloc o); clear hIR hbx hsz)
            | (go_at_call 73; refine (HINV.out _ (HBA.out _)).mono ?_; rintro e wa ⟨gb, rfl, hIR, hsz, hbx⟩; have hZ := hbx _ _ _ _ (Bx.new V 0 0 (.slice none 0 0)); have hxx := HXW.out _ _ (HBA.out _) hbx; have sA := HSA.out _ _ hIR hxx; have z0 := hZ.cell0; have z1 := hZ.cell1; have z2 := hZ.cell2; have y0 := hZ.free 0; have y1 := hZ.free 1; have y2 := hZ.free 2
               have hput := hZ.put (i : Int) (i : Int) (.slice (some ⟨gb, 0, none⟩) KK KK); have HI2 := hide (hIR.box hZ HVs.out hput.2); have sC := HSA.out _ _ HI2.out (hxx.of_block (hput.2.block w2.heap.size hxx.lt (by simpa using HVn.out))); have HZ := hide hput.1; clear hIR hbx hZ hxx hput hsz))
        · go_wp2
          go_meet
          case rel => exact ⟨_, _, rfl, Bx.new wa _ _ _, Nat.le_trans HVs.out HSZ.out, HI1.out.bel (below_alloc (Below.refl _ _) _)⟩
        · go_wp2
          go_meet
          case rel => exact ⟨_, _, rfl, HZ.out, HVs.out, HI2.out⟩
      case rest =>
      clear HIV HX HINV HCS HB0 HBA HSA HXW HVn HVs
      obtain ⟨bx, gb, rfl, hbx, hwx, hIR⟩ := hcut
      have HX := hide hbx
      have HI := hide hIR
      have HWX := hide hwx
      clear hbx hIR hwx
      go_wp2
      go_loopw [66] (fun z wy => ∃ j : Nat, j ≤ ln ∧ z = .int .i64 j ∧ Bx wy bx i i (.slice (some ⟨gb, 0, none⟩) KK KK) ∧ IR w wy b sb f1 f2 g i m q gb KK (flat i (invQ i (pkd i ρ))) X (fun t => if ∃ s, s < j ∧ l s = t then bkd i ρ X t else P t)) (fun z _ => ln - (RowKit.intOf z).toNat)
      case atStart => exact ⟨0, Nat.zero_le _, rfl, HX.out, ⟨HI.out.kb, HI.out.le, HI.out.tx, HI.out.pp, HI.out.sb.congr (fun t _ => (if_neg (by rintro ⟨s, hs, _⟩; omega)).symm), HI.out.gs⟩⟩
      case round =>
        rename_i wy _
        obtain ⟨j, hj, rfl, hBx, hIR⟩ := hrel
        clear HX HI
        have HX := hide hBx
        have HI := hide hIR
        clear hBx hIR
        by_cases hlt : j < ln
        · obtain ⟨bl, ol, rfl, hbl, hcl⟩ := HL.out.resolve_left (by omega)
          have n1 := HP.out.sp.fl.not_here (hcl j hlt) (.inr ⟨_, rfl⟩)
          have n2 := HP.out.fl.not_here (hcl j hlt) (.inr ⟨_, rfl⟩)
          have n3 := HS.out.not_int (hcl j hlt)
          have p1 := (World.cell?_of_block (a := ⟨bl, ol + j, none⟩) (HI.out.gs.block bl hbl (by rintro (e | e | e) <;> contradiction))).trans (hcl j hlt)
          obtain ⟨t, ht⟩ : ∃ t, t = l j := ⟨_, rfl⟩
          have htk : t < i := by rw [ht]; exact HR.out.2.2.2 j hlt
          rw [← ht] at p1
          have x0 := HX.out.cell0
          have x1 := HX.out.cell1
          have x2 := HX.out.cell2
          have b1 : (j : Int) < (ln : Int) := by omega
          have b0 : (0 : Int) ≤ (j : Int) := by omega
          have b2 : (t : Int) < (i : Int) := by omega
          have b3 : (0 : Int) ≤ (t : Int) := by omega
          have HT := hide ht
          clear hcl n1 n2 n3 ht
          go_wp2_with fail
          refine (pmix_any (i := t) (cap := KK) HI.out.pp HK.out.1 hk (HI.out.tx.tx i) (fun _ => Nat.le_trans (HR.out.2.2.1 0 (by omega)) (by decide)) HI.out.kb (by omega) (by rw [HE.out.2.2]; exact Nat.mul_le_mul_right _ htk) (Nat.le_refl _) (by rw [HE.out.2.2]; exact Nat.le_trans (Nat.mul_le_mul hk hk) (by decide))).mono ?_
          rintro e w5 ⟨rfl, hF5, hg5⟩
          have hI5 := HI.out.mixed hF5 hg5
          have hX5 := HX.out.gof HI.out.pp.fl hg5
          have hI6 := hI5.put HS.out.lt t (bkd i ρ X t)
          have hX6 := hX5.of_block (w' := w5.setCell ⟨q, t, none⟩ (.string (bkd i ρ X t))) ((gb_set w5 q t _).block bx hX5.lt (by simpa using hI5.sb.neb hX5))
          have HX6 := hide hX6
          have HI6 : Hid (IR w (w5.setCell ⟨q, t, none⟩ (.string (bkd i ρ X t))) b sb f1 f2 g i m q gb KK (flat i (invQ i (pkd i ρ))) X (fun t => if ∃ s, s < j + 1 ∧ l s = t then bkd i ρ X t else P t)) := ⟨hI6.kb, hI6.le, hI6.tx, hI6.pp, hI6.sb.congr (fun u _ => by
            by_cases e : u = t
            · subst e
              rw [if_pos rfl, if_pos ⟨j, by omega, HT.out.symm⟩]
            · rw [if_neg e]
              by_cases e2 : ∃ s, s < j ∧ l s = u
              · obtain ⟨s, h1, h2⟩ := e2
                rw [if_pos ⟨s, h1, h2⟩, if_pos ⟨s, by omega, h2⟩]
              · rw [if_neg e2, if_neg (by
                  rintro ⟨s, h1, h2⟩
                  by_cases e3 : s = j
                  · subst e3; exact e (h2.symm.trans HT.out.symm)
                  · exact e2 ⟨s, by omega, h2⟩)]), hI6.gs⟩
          have q1 := hI5.sb.cell t htk
          have q2 := hI5.sb.free t
          have hbk : Fd.mixS i i X (fun t_1 => (((flat i (invQ i (pkd i ρ)) (t * i + t_1)).v : Nat) : Int)) = bkd i ρ X t := rfl
          rw [hbk]
          generalize bkd i ρ X t = Y at HX6 HI6 ⊢
          clear hF5 hg5 hI5 hX5 hI6 hX6 HX HI hbk p1 x0 x1 x2 HT
          go_wp2
          exact ⟨⟨j + 1, by omega, by go_num, HX6.out, HI6.out⟩, by simp [RowKit.intOf]; omega⟩
        · obtain rfl : j = ln := by omega
          have HE9 := hide (And.intro HI.out.sb (And.intro HI.out.pp HI.out.gs))
          clear HX HI
          go_wp2
          go_end0
          exact ⟨rfl, HE9.out⟩
end Go.Proofs.YtfjkdmiaagalhaaGreat
