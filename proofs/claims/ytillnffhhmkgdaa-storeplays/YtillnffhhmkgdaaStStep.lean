/-
  The play: one act of both stores.
-/
import Derived.Test.YtillnffhhmkgdaaStSame
namespace Go.Proofs.Ytillnffhhmkgdaa
open Go.RowKit Go.Lib

/-- What an act leaves. -/
def stp (s : SS) (kd : Nat) (N k : Int) (n d : ByteArray) : SS :=
  match kd with
  | 0 => doS s k n d
  | 1 => { s with f := if 0 ≤ N ∧ N ≤ 1048576 then N else s.f }
  | 2 => { s with off := (N.tmod 2 != 0) }
  | 3 => { s with L := [] }
  | 4 => { s with L := setL n d s.L }
  | 5 => { s with L := tornL k n d N s.L }
  | _ => s
/-- Both stores of a statement, and an act in memory. -/
structure QQ (W w : World) (b mb rb X : Nat) (kind N st k : Int) (n d : ByteArray) (s1 s2 : SS) : Prop where
  px : PX w b mb s1
  rd : RD w rb s2
  be : Below W.heap.size W w
  hb : W.heap.size ≤ b
  hm : W.heap.size ≤ mb
  hr : W.heap.size ≤ rb
  xq : w.heap[X]? = some (.cells #[.int .i64 kind, .int .i64 N, .int .i64 st, .int .i64 k, .string n, .string d] 34 (0, 0))
  xb : X ≠ b ∧ X ≠ mb ∧ X ≠ rb
section
variable {W w w' : World} {b mb rb X : Nat} {kind N st k : Int} {n d : ByteArray} {s1 s2 s' : SS}
theorem QQ.prog (h : QQ W w b mb rb X kind N st k n d s1 s2) (hg : Gs (two b mb) w w') (hp : PX w' b mb s') : QQ W w' b mb rb X kind N st k n d s' s2 :=
  ⟨hp, h.rd.prog h.px hg, Gs.fresh h.be hg (two_fresh h.hb h.hm), h.hb, h.hm, h.hr, (hg.block X (lt_of_block h.xq) (by rintro (e | e); exact h.xb.1 e; exact h.xb.2.1 e)).trans h.xq, h.xb⟩
theorem QQ.doc (h : QQ W w b mb rb X kind N st k n d s1 s2) (hg : Gs (fun j => j = rb) w w') (hp : RD w' rb s') : QQ W w' b mb rb X kind N st k n d s1 s' :=
  ⟨h.px.doc h.rd hg, hp, Gs.fresh h.be hg (fun i e => by have := h.hr; rw [e]; exact this), h.hb, h.hm, h.hr, (hg.block X (lt_of_block h.xq) h.xb.2.2).trans h.xq, h.xb⟩
theorem QQ.bel (h : QQ W w b mb rb X kind N st k n d s1 s2) (hb : Below w.heap.size w w') : QQ W w' b mb rb X kind N st k n d s1 s2 :=
  ⟨h.px.bel hb, h.rd.bel hb, h.be.trans (hb.mono h.be.size), h.hb, h.hm, h.hr, (hb.block X (lt_of_block h.xq)).trans h.xq, h.xb⟩
theorem QQ.drew (h : QQ W w b mb rb X kind N st k n d s1 s2) : QQ W w.drew b mb rb X kind N st k n d s1 s2 := h.bel ((Below.refl _ _).drew)
theorem QQ.new (h : QQ W w b mb rb X kind N st k n d s1 s2) {p : Nat → Prop} (hg : Gs p w w') (hp : ∀ i, p i → w.heap.size ≤ i) : QQ W w' b mb rb X kind N st k n d s1 s2 := h.bel (Gs.fresh (Below.refl _ _) hg hp)
theorem QQ.c0 (h : QQ W w b mb rb X kind N st k n d s1 s2) : w.cell? ⟨X, 0, none⟩ = some (.int .i64 kind) := by simp [World.cell?, h.xq]
theorem QQ.c1 (h : QQ W w b mb rb X kind N st k n d s1 s2) : w.cell? ⟨X, 1, none⟩ = some (.int .i64 N) := by simp [World.cell?, h.xq]
theorem QQ.c2 (h : QQ W w b mb rb X kind N st k n d s1 s2) : w.cell? ⟨X, 2, none⟩ = some (.int .i64 st) := by simp [World.cell?, h.xq]
theorem QQ.c3 (h : QQ W w b mb rb X kind N st k n d s1 s2) : w.cell? ⟨X, 3, none⟩ = some (.int .i64 k) := by simp [World.cell?, h.xq]
theorem QQ.c4 (h : QQ W w b mb rb X kind N st k n d s1 s2) : w.cell? ⟨X, 4, none⟩ = some (.string n) := by simp [World.cell?, h.xq]
theorem QQ.c5 (h : QQ W w b mb rb X kind N st k n d s1 s2) : w.cell? ⟨X, 5, none⟩ = some (.string d) := by simp [World.cell?, h.xq]
theorem QQ.six (h : QQ W w b mb rb X kind N st k n d s1 s2) : w.cell? ⟨X, 1, none⟩ = some (.int .i64 N) ∧ w.cell? ⟨X, 2, none⟩ = some (.int .i64 st) ∧ w.cell? ⟨X, 3, none⟩ = some (.int .i64 k) ∧ w.cell? ⟨X, 4, none⟩ = some (.string n) ∧ w.cell? ⟨X, 5, none⟩ = some (.string d) := ⟨h.c1, h.c2, h.c3, h.c4, h.c5⟩
end
/-- Both stores along a play. -/
structure SP (W w : World) (b mb rb : Nat) (s : SS) : Prop where
  px : PX w b mb s
  rd : RD w rb s
  be : Below W.heap.size W w
  hb : W.heap.size ≤ b
  hm : W.heap.size ≤ mb
  hr : W.heap.size ≤ rb
theorem QQ.sp {W w : World} {b mb rb X : Nat} {kind N st k : Int} {n d : ByteArray} {s : SS} (h : QQ W w b mb rb X kind N st k n d s s) : SP W w b mb rb s := ⟨h.px, h.rd, h.be, h.hb, h.hm, h.hr⟩
theorem SP.bel {W w w' : World} {b mb rb : Nat} {s : SS} (h : SP W w b mb rb s) (hb : Below w.heap.size w w') : SP W w' b mb rb s := ⟨h.px.bel hb, h.rd.bel hb, h.be.trans (hb.mono h.be.size), h.hb, h.hm, h.hr⟩

section
variable {W w : World} {b mb rb : Nat} {s : SS}
set_option maxRecDepth 100000 in
set_option maxHeartbeats 6400000 in
theorem step_any (h : SP W w b mb rb s) (kind N st k : Int) (n d : ByteArray) (hn : n.size ≤ maxLen) (hd : d.size ≤ maxLen) (hl : s.L.length ≤ 1000) (hm0 : 0 ≤ s.m) (hm1 : s.m ≤ 1000000) (hf : s.f ≤ 1048576) :
    Calls Try.prog 8 #[.pointer (some ⟨b, 0, none⟩), .pointer (some ⟨rb, 0, none⟩), .agg #[.int .i64 kind, .int .i64 N, .int .i64 st, .int .i64 k, .string n, .string d]] w fun e w' => e = .returned (.bool true) ∧ SP W w' b mb rb (stp s (amg kind 7) N k n d) := by
  have hP : PS w b mb s.q s.f s.off s.m s.L := h.px
  have hris := hP.ris
  have hsm := hP.small
  obtain ⟨U, hU⟩ : ∃ U, U = w.alloc (.cells #[.int .i64 kind, .int .i64 N, .int .i64 st, .int .i64 k, .string n, .string d] 34) := ⟨_, rfl⟩
  obtain ⟨X, hX⟩ : ∃ X, X = w.heap.size := ⟨_, rfl⟩
  have hBU : Below w.heap.size w U := by rw [hU]; exact (Below.refl _ _).alloc (Nat.le_refl _) _
  have hSU := h.bel hBU
  have HQ : Hid (QQ W U b mb rb X kind N st k n d s s) := ⟨hSU.px, hSU.rd, hSU.be, hSU.hb, hSU.hm, hSU.hr, by rw [hU, hX]; exact heap_alloc_new _ _, by have h1 := hP.lt; have h2 := hP.mlt; have h3 := h.rd.lt; rw [hX]; omega⟩
  have HU := hide hU
  have HX := hide hX
  obtain ⟨k7, hk7⟩ : ∃ k7, k7 = amg kind 7 := ⟨_, rfl⟩
  have hk77 : k7 < 7 := by rw [hk7]; exact (amg_spec kind 7 (by decide)).2.1
  have HAM : Hid (∀ w', Calls Try.prog 18 #[.int .i64 kind, .int .i64 7] w' fun e w'' => e = .returned (.int .i64 (k7 : Int)) ∧ w'' = w') := fun w' => by rw [hk7]; exact among_any w' kind 7 (by decide) (by decide)
  rw [← hk7]
  obtain ⟨s', hs'⟩ : ∃ s', s' = stp s k7 N k n d := ⟨_, rfl⟩
  rw [← hs']
  have HS7 := hide hs'
  clear hs'
  have x0 := HQ.out.c0
  clear hP hBU hSU h hU hX hk7
  go_enter Try.func8, Try.ntmps8
  go_upto_region 1 with fail
  rw [← HU.out, ← HX.out]
  go_wp2_with fail
  refine (HAM.out _).mono ?_
  rintro e U ⟨rfl, rfl⟩
  clear HAM x0
  match k7, hk77, HS7 with
  | 0, _, HS7 =>
    obtain ⟨e1, e2, e3, e4, e5⟩ := HQ.out.six
    have HUW : Hid (W.heap.size ≤ U.heap.size) := HQ.out.be.size
    have HD1 : Hid _ := hide (do_any HQ.out.px st k n d hn hd (by omega) hm0 (by omega) hf)
    obtain ⟨rc, rd, rl, hrr⟩ : ∃ rc rd rl, doR s k n d = ⟨rc, rd, rl⟩ := ⟨_, _, _, rfl⟩
    rw [hrr] at HD1
    have hrl : rl.length ≤ 1000 := by
      have h1 : rl = (doR s k n d).l := by rw [hrr]
      rw [h1, doR]
      have h2 := names_len s.L n
      (repeat' split) <;> simp <;> omega
    go_wp2_with fail
    refine HD1.out.mono ?_
    rintro e w1 ⟨u, rfl, hA, hp1, hg1⟩
    obtain ⟨a1, c1, rfl, hT1⟩ := hA.shp
    have hQ1 := HQ.out.prog hg1 hp1
    obtain ⟨rn, hrn⟩ : ∃ rn, rn = rl.length := ⟨_, rfl⟩
    dsimp only at hT1 ⊢
    rw [← hrn] at hT1 ⊢
    obtain ⟨V, hV⟩ : ∃ V, V = w1.alloc (.cells #[.int .i64 rc, .string rd, .slice a1 rn c1] 48) := ⟨_, rfl⟩
    obtain ⟨Y, hY⟩ : ∃ Y, Y = w1.heap.size := ⟨_, rfl⟩
    have hbV : Below w1.heap.size w1 V := by rw [hV]; exact (Below.refl _ _).alloc (Nat.le_refl _) _
    have hyV : V.heap[Y]? = some (.cells #[.int .i64 rc, .string rd, .slice a1 rn c1] 48 (0, 0)) := by rw [hV, hY]; exact heap_alloc_new _ _
    have HQV := hide (hQ1.bel hbV)
    have HTV := hide (hT1.keep hbV)
    have HYV := hide hyV
    have HVV := hide hV
    have HYY := hide hY
    have HYR : Hid (Y ≠ rb) := by
      obtain ⟨cs, hr⟩ := (hQ1.bel hbV).rd.blk
      intro e
      rw [e, hr] at hyV
      simp at hyV
    have HKC : Hid (∀ w' s1 s2, QQ W w' b mb rb X kind N st k n d s1 s2 → w'.heap[Y]? = some (.cells #[.int .i64 rc, .string rd, .slice a1 rn c1] 48 (0, 0)) → w'.cell? ⟨X, 2, none⟩ = some (.int .i64 st) ∧ w'.cell? ⟨X, 3, none⟩ = some (.int .i64 k) ∧ w'.cell? ⟨X, 4, none⟩ = some (.string n) ∧ w'.cell? ⟨X, 5, none⟩ = some (.string d) ∧ w'.cell? ⟨Y, 0, none⟩ = some (.int .i64 rc) ∧ w'.cell? ⟨Y, 1, none⟩ = some (.string rd) ∧ w'.cell? ⟨Y, 2, none⟩ = some (.slice a1 rn c1)) := fun w' s1 s2 h hy => ⟨h.c2, h.c3, h.c4, h.c5, by simp [World.cell?, hy], by simp [World.cell?, hy], by simp [World.cell?, hy]⟩
    have P2 : Hid (∀ w1, Hid (QQ W w1 b mb rb X kind N st k n d (doS s k n d) s ∧ w1.heap[Y]? = some (.cells #[.int .i64 rc, .string rd, .slice a1 rn c1] 48 (0, 0)) ∧ TS U.heap.size (.slice a1 rn c1) rl w1) → Calls Try.prog 20 #[.pointer (some ⟨rb, 0, none⟩), .agg #[.int .i64 st, .int .i64 k, .string n, .string d]] w1 fun e w' => ∃ a2 c2, e = .returned (.agg #[.int .i64 rc, .string rd, .slice a2 rn c2]) ∧ Hid (QQ W w' b mb rb X kind N st k n d (doS s k n d) (doS s k n d) ∧ w'.heap[Y]? = some (.cells #[.int .i64 rc, .string rd, .slice a1 rn c1] 48 (0, 0)) ∧ TS U.heap.size (.slice a1 rn c1) rl w') ∧ Hid (TR w' (.slice a2 rn c2) rl) ∧ w'.cell? ⟨X, 2, none⟩ = some (.int .i64 st) ∧ w'.cell? ⟨X, 3, none⟩ = some (.int .i64 k) ∧ w'.cell? ⟨X, 4, none⟩ = some (.string n) ∧ w'.cell? ⟨X, 5, none⟩ = some (.string d) ∧ w'.cell? ⟨Y, 0, none⟩ = some (.int .i64 rc) ∧ w'.cell? ⟨Y, 1, none⟩ = some (.string rd) ∧ w'.cell? ⟨Y, 2, none⟩ = some (.slice a1 rn c1)) := fun w1 h => by
      obtain ⟨hq, hy, ht⟩ := h.out
      refine (rdo_any hq.rd hris hsm st k n d hn hd (by omega) hm0 (by omega) hf).mono ?_
      rintro e w' ⟨u, rfl, hA, hp, hg⟩
      rw [hrr] at hA
      obtain ⟨a2, c2, rfl, hT2⟩ := hA.shp
      dsimp only at hT2 ⊢
      rw [← hrn] at hT2 ⊢
      have hq' := hq.doc hg hp
      have hy' := (hg.block Y (lt_of_block hy) HYR.out).trans hy
      have ht' : TS U.heap.size (.slice a1 rn c1) rl w' := ht.kb fun i hi => hg.block i (ht.lt i hi).2 (by
        show ¬ i = rb
        intro e
        obtain ⟨cs, hr⟩ := hq.rd.blk
        obtain ⟨_, ⟨ex, _⟩ | ⟨g', cap, cur, ex, _, hb, _⟩⟩ := ht.own
        · rw [ex] at hi; simp [Value.ownBlock] at hi
        · rw [ex] at hi
          simp only [Value.ownBlock, Option.some.injEq] at hi
          rw [hi, e, hr] at hb
          simp at hb)
      exact ⟨a2, c2, rfl, ⟨hq', hy', ht'⟩, hT2.tr, HKC.out _ _ _ hq' hy'⟩
    have P3 : Hid (∀ w1 a2 c2 u v, u = .agg #[.int .i64 rc, .string rd, .slice a1 rn c1] → v = .agg #[.int .i64 rc, .string rd, .slice a2 rn c2] → Hid (QQ W w1 b mb rb X kind N st k n d (doS s k n d) (doS s k n d) ∧ w1.heap[Y]? = some (.cells #[.int .i64 rc, .string rd, .slice a1 rn c1] 48 (0, 0)) ∧ TS U.heap.size (.slice a1 rn c1) rl w1) → Hid (TR w1 (.slice a2 rn c2) rl) → Calls Try.prog 19 #[u, v] w1 fun e w' => e = .returned (.bool true) ∧ Hid (QQ W w' b mb rb X kind N st k n d (doS s k n d) (doS s k n d) ∧ w'.heap[Y]? = some (.cells #[.int .i64 rc, .string rd, .slice a1 rn c1] 48 (0, 0)) ∧ TS U.heap.size (.slice a1 rn c1) rl w') ∧ w'.cell? ⟨X, 2, none⟩ = some (.int .i64 st) ∧ w'.cell? ⟨X, 3, none⟩ = some (.int .i64 k) ∧ w'.cell? ⟨X, 4, none⟩ = some (.string n) ∧ w'.cell? ⟨X, 5, none⟩ = some (.string d) ∧ w'.cell? ⟨Y, 0, none⟩ = some (.int .i64 rc) ∧ w'.cell? ⟨Y, 1, none⟩ = some (.string rd) ∧ w'.cell? ⟨Y, 2, none⟩ = some (.slice a1 rn c1)) := fun w1 a2 c2 u v hu hv h ht => by
      subst hu hv
      obtain ⟨hq, hy, ht1⟩ := h.out
      refine (sameResp_eq rc rd ht1.tr ht.out (by omega)).mono ?_
      rintro e w' ⟨rfl, hb⟩
      have hq' := hq.bel hb
      have hy' := (hb.block Y (lt_of_block hy)).trans hy
      exact ⟨rfl, ⟨hq', hy', ht1.keep hb⟩, HKC.out _ _ _ hq' hy'⟩
    have K1 : Hid (QQ W V.drew b mb rb X kind N st k n d (doS s k n d) s ∧ V.drew.heap[Y]? = some (.cells #[.int .i64 rc, .string rd, .slice a1 rn c1] 48 (0, 0)) ∧ TS U.heap.size (.slice a1 rn c1) rl V.drew) := ⟨HQV.out.drew, hyV, ⟨HTV.out.own⟩⟩
    obtain ⟨f2, f3, f4, f5, f6, f7, f8⟩ := HKC.out _ _ _ K1.out.1 K1.out.2.1
    have HRN := hide hrn
    have hrl' : rn ≤ 1000 := by rw [hrn]; exact hrl
    clear HD1 e1 e2 e3 e4 e5 hp1 hg1 hA hT1 hQ1 hbV hyV hV hY hrr hrn
    go_upto_region 4 with fail
    rw [← HVV.out, ← HYY.out]
    go_region_held3 (fun w' => w'.cell? ⟨X, 2, none⟩ = some (.int .i64 st) ∧ w'.cell? ⟨X, 3, none⟩ = some (.int .i64 k) ∧ w'.cell? ⟨X, 4, none⟩ = some (.string n) ∧ w'.cell? ⟨X, 5, none⟩ = some (.string d) ∧ w'.cell? ⟨Y, 0, none⟩ = some (.int .i64 rc) ∧ w'.cell? ⟨Y, 1, none⟩ = some (.string rd) ∧ w'.cell? ⟨Y, 2, none⟩ = some (.slice a1 rn c1)) (first | assumption | exact ⟨by assumption, by assumption, by assumption, by assumption, by assumption, by assumption, by assumption⟩ | exact ⟨f2, f3, f4, f5, f6, f7, f8⟩)
      (first | (go_at_call 20; refine (P2.out _ K1).mono ?_; rintro e w2 ⟨a2, c2, rfl, h21, h22, h23⟩) | (go_at_call 19; refine (P3.out _ a2 c2 _ _ (by with_reducible rfl) (by with_reducible rfl) (by assumption) (by assumption)).mono ?_; rintro e w3 ⟨rfl, h31, h32, h33, h34, h35, h36, h37, h38⟩))
    obtain ⟨hq3, hy3, ht3⟩ := h31.out
    have HSP : Hid _ := hide (spoil_any ht3 (by omega))
    have HQ3 := hide hq3
    have HT3 := hide ht3
    clear hq3 hy3 ht3
    go_wp2_with fail
    refine HSP.out.mono ?_
    rintro e w4 ⟨rfl, hg4⟩
    have HF : Hid (SP W w4 b mb rb (doS s k n d)) := by
      have hq := HQ3.out
      obtain ⟨_, ⟨ex, _⟩ | ⟨g', cap, cur, ex, hBg, hb, _⟩⟩ := HT3.out.own
      · rw [ex] at hg4
        exact (hq.bel (Gs.fresh (Below.refl _ _) hg4 (fun i hi => by simp [Value.ownBlock] at hi))).sp
      · rw [ex] at hg4
        have hp' : PS w3 b mb (doS s k n d).q (doS s k n d).f (doS s k n d).off (doS s k n d).m (doS s k n d).L := hq.px
        have n1 : ∀ i, (Value.slice (some ⟨g', 0, none⟩) rl.length cap).ownBlock = some i → i = g' := fun i hi => by simp only [Value.ownBlock, Option.some.injEq] at hi; exact hi.symm
        refine ⟨hp'.gs hg4 (fun hi => ?_) (fun hi => ?_), hq.rd.gs hg4 (fun hi => ?_) (fun i cs fr hc hi => ?_), Gs.fresh hq.be hg4 (fun i hi => ?_), hq.hb, hq.hm, hq.hr⟩
        · rw [← n1 _ hi, hp'.blk] at hb; simp at hb
        · rw [← n1 _ hi] at hb; exact hp'.map.notCells hb
        · obtain ⟨cs, hr⟩ := hq.rd.blk
          rw [← n1 _ hi, hr] at hb; simp at hb
        · rw [← n1 _ hi, hc] at hb; simp at hb
        · rw [n1 _ hi]; exact Nat.le_trans HUW.out hBg
    clear hg4
    go_wp2
    go_ret
    exact ⟨rfl, by rw [HS7.out]; exact HF.out⟩
  | 1, _, HS7 =>
    have P1 : Hid (∀ w1, Hid (QQ W w1 b mb rb X kind N st k n d s s) → Calls Try.prog 22 #[.pointer (some ⟨b, 0, none⟩), .int .i64 N] w1 fun e w' => e = .returned (.int .i64 (if 0 ≤ N ∧ N ≤ 1048576 then 0 else 1)) ∧ Hid (QQ W w' b mb rb X kind N st k n d { s with f := if 0 ≤ N ∧ N ≤ 1048576 then N else s.f } s) ∧ w'.cell? ⟨X, 1, none⟩ = some (.int .i64 N) ∧ w'.cell? ⟨X, 2, none⟩ = some (.int .i64 st) ∧ w'.cell? ⟨X, 3, none⟩ = some (.int .i64 k) ∧ w'.cell? ⟨X, 4, none⟩ = some (.string n) ∧ w'.cell? ⟨X, 5, none⟩ = some (.string d)) := fun w1 h => by
      refine (fail_any h.out.px N).mono ?_
      rintro e w' ⟨rfl, hp, hg⟩
      have hq := h.out.prog (s' := { s with f := if 0 ≤ N ∧ N ≤ 1048576 then N else s.f }) hg hp
      exact ⟨rfl, hq, hq.six⟩
    have P2 : Hid (∀ w1, Hid (QQ W w1 b mb rb X kind N st k n d { s with f := if 0 ≤ N ∧ N ≤ 1048576 then N else s.f } s) → Calls Try.prog 23 #[.pointer (some ⟨rb, 0, none⟩), .int .i64 N] w1 fun e w' => e = .returned (.int .i64 (if 0 ≤ N ∧ N ≤ 1048576 then 0 else 1)) ∧ Hid (QQ W w' b mb rb X kind N st k n d { s with f := if 0 ≤ N ∧ N ≤ 1048576 then N else s.f } { s with f := if 0 ≤ N ∧ N ≤ 1048576 then N else s.f }) ∧ w'.cell? ⟨X, 1, none⟩ = some (.int .i64 N) ∧ w'.cell? ⟨X, 2, none⟩ = some (.int .i64 st) ∧ w'.cell? ⟨X, 3, none⟩ = some (.int .i64 k) ∧ w'.cell? ⟨X, 4, none⟩ = some (.string n) ∧ w'.cell? ⟨X, 5, none⟩ = some (.string d)) := fun w1 h => by
      obtain ⟨v, hR, hO⟩ := h.out.rd
      refine (rfail_any hR hO N).mono ?_
      rintro e w' ⟨rfl, hp, hg⟩
      have hq := h.out.doc (s' := { s with f := if 0 ≤ N ∧ N ≤ 1048576 then N else s.f }) hg (by first | exact hp | exact ⟨v, hp⟩)
      exact ⟨rfl, hq, hq.six⟩
    have K1 : Hid (QQ W U.drew b mb rb X kind N st k n d s s) := HQ.out.drew
    obtain ⟨e1, e2, e3, e4, e5⟩ := K1.out.six
    generalize hcode : (if 0 ≤ N ∧ N ≤ 1048576 then 0 else 1 : Int) = cde at *
    clear hcode
    go_upto_region 8 with fail
    go_region_held3 (fun w' => w'.cell? ⟨X, 1, none⟩ = some (.int .i64 N) ∧ w'.cell? ⟨X, 2, none⟩ = some (.int .i64 st) ∧ w'.cell? ⟨X, 3, none⟩ = some (.int .i64 k) ∧ w'.cell? ⟨X, 4, none⟩ = some (.string n) ∧ w'.cell? ⟨X, 5, none⟩ = some (.string d)) (first | assumption | exact ⟨by assumption, by assumption, by assumption, by assumption, by assumption⟩ | exact ⟨e1, e2, e3, e4, e5⟩)
      (first | (go_at_call 22; refine (P1.out _ K1).mono ?_; rintro e w1 ⟨rfl, h11, h12⟩) | (go_at_call 23; refine (P2.out _ (by assumption)).mono ?_; rintro e w2 ⟨rfl, h21, h22⟩))
    go_wp2
    go_ret
    exact ⟨rfl, by rw [HS7.out]; exact h21.out.sp⟩
  | 2, _, HS7 =>
    obtain ⟨o, ho⟩ : ∃ o, o = (N.tmod 2 != 0) := ⟨_, rfl⟩
    have x1 := HQ.out.c1
    have HDN : Hid _ := hide (down_any HQ.out.px o)
    have HO := hide ho
    have ho2 : (N.tmod 2 != 0) = o := ho.symm
    have hSt : stp s 2 N k n d = { s with off := o } := by rw [ho]; rfl
    have HST := hide hSt
    clear ho hSt
    go_wp2_with fail
    refine HDN.out.mono ?_
    rintro e w1 ⟨rfl, hp1, hg1⟩
    have hq1 := HQ.out.prog (s' := { s with off := o }) hg1 hp1
    obtain ⟨v, hR, hO⟩ := hq1.rd
    have z3 := hR.c3
    have zf := hR.free 3
    have t1 := hq1.c1
    have HF := hide (hq1.doc (s' := { s with off := o }) ((Gs.refl (fun j => j = rb) _).set (a := ⟨rb, 3, none⟩) (.inl rfl) (.bool o)) ⟨v, hR.s3 o, hO.sb ⟨_, _, _, _, _, hR⟩ _ _⟩)
    clear hp1 hg1 hq1 hR hO x1
    go_wp2
    go_ret
    exact ⟨rfl, by rw [HS7.out, HST.out]; exact HF.out.sp⟩
  | 3, _, HS7 =>
    have HWP : Hid _ := hide (wipe_any HQ.out.px)
    go_wp2_with fail
    refine HWP.out.mono ?_
    rintro e w1 ⟨rfl, hp1, hg1⟩
    have hq1 := HQ.out.prog (s' := { s with L := [] }) hg1 hp1
    obtain ⟨v, hR, hO⟩ := hq1.rd
    have z4 := hR.cell4
    have zf := hR.free 4
    have HF := hide (hq1.doc (s' := { s with L := [] }) ((Gs.refl (fun j => j = rb) _).set (a := ⟨rb, 4, none⟩) (.inl rfl) (.slice none 0 0)) ⟨_, hR.set4 _, OS.nil _ _⟩)
    clear hp1 hg1 hq1 hR hO
    go_wp2
    go_ret
    exact ⟨rfl, by rw [HS7.out]; exact HF.out.sp⟩
  | 4, _, HS7 =>
    have P1 : Hid (∀ w1, Hid (QQ W w1 b mb rb X kind N st k n d s s) → Calls Try.prog 26 #[.pointer (some ⟨b, 0, none⟩), .string n, .string d] w1 fun e w' => e = .returned (.int .i64 (fcode n d)) ∧ Hid (QQ W w' b mb rb X kind N st k n d { s with L := setL n d s.L } s) ∧ w'.cell? ⟨X, 1, none⟩ = some (.int .i64 N) ∧ w'.cell? ⟨X, 2, none⟩ = some (.int .i64 st) ∧ w'.cell? ⟨X, 3, none⟩ = some (.int .i64 k) ∧ w'.cell? ⟨X, 4, none⟩ = some (.string n) ∧ w'.cell? ⟨X, 5, none⟩ = some (.string d)) := fun w1 h => by
      refine (set_any h.out.px n d hn hd (by omega)).mono ?_
      rintro e w' ⟨rfl, hp, hg⟩
      have hq := h.out.prog (s' := { s with L := setL n d s.L }) hg hp
      exact ⟨rfl, hq, hq.six⟩
    have P2 : Hid (∀ w1, Hid (QQ W w1 b mb rb X kind N st k n d { s with L := setL n d s.L } s) → Calls Try.prog 27 #[.pointer (some ⟨rb, 0, none⟩), .string n, .string d] w1 fun e w' => e = .returned (.int .i64 (fcode n d)) ∧ Hid (QQ W w' b mb rb X kind N st k n d { s with L := setL n d s.L } { s with L := setL n d s.L }) ∧ w'.cell? ⟨X, 1, none⟩ = some (.int .i64 N) ∧ w'.cell? ⟨X, 2, none⟩ = some (.int .i64 st) ∧ w'.cell? ⟨X, 3, none⟩ = some (.int .i64 k) ∧ w'.cell? ⟨X, 4, none⟩ = some (.string n) ∧ w'.cell? ⟨X, 5, none⟩ = some (.string d)) := fun w1 h => by
      obtain ⟨v, hR, hO⟩ := h.out.rd
      refine (rset_any hR hO (by omega) hris n d hn hd).mono ?_
      rintro e w' ⟨rfl, hp, hg⟩
      have hq := h.out.doc (s' := { s with L := setL n d s.L }) hg (by first | exact hp | exact ⟨v, hp⟩)
      exact ⟨rfl, hq, hq.six⟩
    have K1 : Hid (QQ W U.drew b mb rb X kind N st k n d s s) := HQ.out.drew
    obtain ⟨e1, e2, e3, e4, e5⟩ := K1.out.six
    generalize hcode : (fcode n d : Int) = cde at *
    clear hcode
    go_upto_region 18 with fail
    go_region_held3 (fun w' => w'.cell? ⟨X, 1, none⟩ = some (.int .i64 N) ∧ w'.cell? ⟨X, 2, none⟩ = some (.int .i64 st) ∧ w'.cell? ⟨X, 3, none⟩ = some (.int .i64 k) ∧ w'.cell? ⟨X, 4, none⟩ = some (.string n) ∧ w'.cell? ⟨X, 5, none⟩ = some (.string d)) (first | assumption | exact ⟨by assumption, by assumption, by assumption, by assumption, by assumption⟩ | exact ⟨e1, e2, e3, e4, e5⟩)
      (first | (go_at_call 26; refine (P1.out _ K1).mono ?_; rintro e w1 ⟨rfl, h11, h12⟩) | (go_at_call 27; refine (P2.out _ (by assumption)).mono ?_; rintro e w2 ⟨rfl, h21, h22⟩))
    go_wp2
    go_ret
    exact ⟨rfl, by rw [HS7.out]; exact h21.out.sp⟩
  | 5, _, HS7 =>
    have P1 : Hid (∀ w1, Hid (QQ W w1 b mb rb X kind N st k n d s s) → Calls Try.prog 28 #[.pointer (some ⟨b, 0, none⟩), .agg #[.int .i64 st, .int .i64 k, .string n, .string d], .int .i64 N] w1 fun e w' => e = .returned (.int .i64 (tcode k n d)) ∧ Hid (QQ W w' b mb rb X kind N st k n d { s with L := tornL k n d N s.L } s) ∧ w'.cell? ⟨X, 1, none⟩ = some (.int .i64 N) ∧ w'.cell? ⟨X, 2, none⟩ = some (.int .i64 st) ∧ w'.cell? ⟨X, 3, none⟩ = some (.int .i64 k) ∧ w'.cell? ⟨X, 4, none⟩ = some (.string n) ∧ w'.cell? ⟨X, 5, none⟩ = some (.string d)) := fun w1 h => by
      refine (torn_any h.out.px st k n d N hn hd (by omega)).mono ?_
      rintro e w' ⟨rfl, hp, hg⟩
      have hq := h.out.prog (s' := { s with L := tornL k n d N s.L }) hg hp
      exact ⟨rfl, hq, hq.six⟩
    have P2 : Hid (∀ w1, Hid (QQ W w1 b mb rb X kind N st k n d { s with L := tornL k n d N s.L } s) → Calls Try.prog 29 #[.pointer (some ⟨rb, 0, none⟩), .agg #[.int .i64 st, .int .i64 k, .string n, .string d], .int .i64 N] w1 fun e w' => e = .returned (.int .i64 (tcode k n d)) ∧ Hid (QQ W w' b mb rb X kind N st k n d { s with L := tornL k n d N s.L } { s with L := tornL k n d N s.L }) ∧ w'.cell? ⟨X, 1, none⟩ = some (.int .i64 N) ∧ w'.cell? ⟨X, 2, none⟩ = some (.int .i64 st) ∧ w'.cell? ⟨X, 3, none⟩ = some (.int .i64 k) ∧ w'.cell? ⟨X, 4, none⟩ = some (.string n) ∧ w'.cell? ⟨X, 5, none⟩ = some (.string d)) := fun w1 h => by
      obtain ⟨v, hR, hO⟩ := h.out.rd
      refine (rtorn_any hR hO (by omega) hris st k n d N hn hd).mono ?_
      rintro e w' ⟨rfl, hp, hg⟩
      have hq := h.out.doc (s' := { s with L := tornL k n d N s.L }) hg (by first | exact hp | exact ⟨v, hp⟩)
      exact ⟨rfl, hq, hq.six⟩
    have K1 : Hid (QQ W U.drew b mb rb X kind N st k n d s s) := HQ.out.drew
    obtain ⟨e1, e2, e3, e4, e5⟩ := K1.out.six
    generalize hcode : (tcode k n d : Int) = cde at *
    clear hcode
    go_upto_region 20 with fail
    go_region_held3 (fun w' => w'.cell? ⟨X, 1, none⟩ = some (.int .i64 N) ∧ w'.cell? ⟨X, 2, none⟩ = some (.int .i64 st) ∧ w'.cell? ⟨X, 3, none⟩ = some (.int .i64 k) ∧ w'.cell? ⟨X, 4, none⟩ = some (.string n) ∧ w'.cell? ⟨X, 5, none⟩ = some (.string d)) (first | assumption | exact ⟨by assumption, by assumption, by assumption, by assumption, by assumption⟩ | exact ⟨e1, e2, e3, e4, e5⟩)
      (first | (go_at_call 28; refine (P1.out _ K1).mono ?_; rintro e w1 ⟨rfl, h11, h12⟩) | (go_at_call 29; refine (P2.out _ (by assumption)).mono ?_; rintro e w2 ⟨rfl, h21, h22⟩))
    go_wp2
    go_ret
    exact ⟨rfl, by rw [HS7.out]; exact h21.out.sp⟩
  | 6, _, HS7 =>
    have HFK : Hid _ := hide (fork_any HQ.out.px)
    go_wp2_with fail
    refine HFK.out.mono ?_
    rintro e w1 ⟨fb, fm, rfl, hfb, hfm, hp1, hb1⟩
    have HQ1 := hide (HQ.out.bel hb1)
    have HFR : Hid (∀ i, two fb fm i → U.heap.size ≤ i) := two_fresh hfb hfm
    have HB1 := hide hb1
    have HW1 : Hid _ := hide (wipe_any hp1)
    clear HFK hp1 hb1 hfb hfm
    go_wp2_with fail
    refine HW1.out.mono ?_
    rintro e w2 ⟨rfl, hp2, hg2⟩
    have HB2 : Hid (Below U.heap.size U w2) := Gs.fresh HB1.out hg2 HFR.out
    have HF2 : Hid _ := hide (fail_any hp2 3)
    clear hp2 hg2 HW1
    go_wp2_with fail
    refine HF2.out.mono ?_
    rintro e w3 ⟨rfl, hp3, hg3⟩
    have HB3 : Hid (Below U.heap.size U w3) := Gs.fresh HB2.out hg3 HFR.out
    have HS3 : Hid _ := hide (set_any hp3 ⟨#[111, 119, 110]⟩ ⟨#[120]⟩ (by decide) (by decide) (by decide))
    clear hp3 hg3 HF2
    go_wp2_with fail
    refine HS3.out.mono ?_
    rintro e w4 ⟨rfl, hp4, hg4⟩
    have HB4 : Hid (Below U.heap.size U w4) := Gs.fresh HB3.out hg4 HFR.out
    have hp4' : PX w4 fb fm ⟨s.q, 3, s.m, s.off, setL ⟨#[111, 119, 110]⟩ ⟨#[120]⟩ []⟩ := hp4
    have HD4 : Hid _ := hide (do_any hp4' 0 3 ⟨#[]⟩ ⟨#[]⟩ (by decide) (by decide) (by show (setL ⟨#[111, 119, 110]⟩ ⟨#[120]⟩ []).length ≤ 1000000; decide +kernel) hm0 (by show s.m ≤ _; omega) (by show (3 : Int) ≤ 1048576; decide))
    clear hp4 hp4' hg4 HS3
    go_wp2_with fail
    refine HD4.out.mono ?_
    rintro e w5 ⟨u5, rfl, hA5, hp5, hg5⟩
    have HF := hide (HQ.out.bel (Gs.fresh HB4.out hg5 HFR.out))
    obtain ⟨a5, c5, rfl, _⟩ := hA5.shp
    clear hp5 hg5 hA5 HD4
    go_wp2
    go_ret
    exact ⟨rfl, by rw [HS7.out]; exact HF.out.sp⟩
end
end Go.Proofs.Ytillnffhhmkgdaa
