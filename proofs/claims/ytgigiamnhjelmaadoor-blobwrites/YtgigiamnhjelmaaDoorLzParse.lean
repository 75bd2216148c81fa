/-
  Lz: the sequences of a block, by the document.
-/
import Derived.Test.YtgigiamnhjelmaaDoorLzMore
import Derived.Deep.RegionHeldLaw
namespace Go.Proofs.YtgigiamnhjelmaaDoor
open Go.RowKit Go.Lib
theorem quo_u8 (b : Nat) (hb : b < 256) (w : World) : (binOp .quo 5 (.int .u8 (b : Int)) (.int .u8 16)).run Tryd.prog w = .ok (.int .u8 ((b / 16 : Nat) : Int)) w := by
  have e : IntKind.u8.wrap ((b : Int) / 16) = (b : Int) / 16 := by rw [IntKind.wrap_u8]; omega
  simp [go_sem, e]
theorem rem_u8 (b : Nat) (w : World) : (binOp .rem 5 (.int .u8 (b : Int)) (.int .u8 16)).run Tryd.prog w = .ok (.int .u8 ((b % 16 : Nat) : Int)) w := by
  simp [go_sem]
  rfl
theorem cv_small {b : Nat} (hb : b < 256) (w : World) : (convert 5 3 (.int .u8 (b : Int))).run Tryd.prog w = .ok (.int .i64 (b : Int)) w := by
  have e : IntKind.i64.wrap (b : Int) = (b : Int) := by rw [IntKind.wrap_i64]; omega
  simp [go_sem, Tryd.underlying5, Tryd.underlying3, e]
theorem sl_at {s : ByteArray} {a b : Nat} (h1 : a ≤ b) (h2 : b ≤ s.size) (w : World) : (Instr.slice 9 (.string s) (some (.int .i64 (a : Int))) (some (.int .i64 (b : Int))) none).run Tryd.prog w = .ok (.string (s.extract a b)) w := by
  have := run_slice_string (P := Tryd.prog) w 9 s .i64 .i64 (a : Int) (b : Int) Tryd.underlying9 (by omega) (by omega) (by omega)
  simpa using this
/-- A sequence's cells. -/
def sqc (q : SQ) : List Value := [.string q.lit, .int .i64 (q.dist : Int), .int .i64 (q.long : Int)]
theorem sqc_len (q : SQ) : (sqc q).length = 3 := rfl
theorem Tryd.infoSq : (Tryd.prog.info? 102).map (fun i => (i.zero, i.size, i.bytes)) = some (some (.agg #[.string ⟨#[]⟩, .int .i64 0, .int .i64 0]), 3, 32) := by kernel_rfl
/-- What Parse answers. -/
def PA (s : ByteArray) (w : World) (e : Ending) (w' : World) : Prop :=
  Below w.heap.size w w' ∧ ∃ (v : Value) (n : Nat) (b : Bool), e = .returned (.tuple #[v, .int .i64 (n : Int), .bool b]) ∧
    (ps s = none → b = false ∧ ∃ a k c, v = .slice a k c) ∧ ∀ l t, ps s = some (l, t) → b = true ∧ n = t ∧ OW sqc 3 102 w.heap.size v l w'
theorem PA.bad {s : ByteArray} {w w' : World} (h : ps s = none) (hb : Below w.heap.size w w') : PA s w (.returned (.tuple #[.slice none 0 0, .int .i64 0, .bool false])) w' :=
  ⟨hb, _, 0, _, rfl, fun _ => ⟨rfl, _, _, _, rfl⟩, fun l t h' => by rw [h] at h'; cases h'⟩
theorem PA.ok {s : ByteArray} {w w' : World} {l : List SQ} {t : Nat} {v : Value} (h : ps s = some (l, t)) (hO : OW sqc 3 102 w.heap.size v l w') (hb : Below w.heap.size w w') : PA s w (.returned (.tuple #[v, .int .i64 (t : Int), .bool true])) w' :=
  ⟨hb, _, t, _, rfl, (fun e => by rw [h] at e; cases e), fun l2 t2 h' => by
    rw [h] at h'
    simp only [Option.some.injEq, Prod.mk.injEq] at h'
    obtain ⟨rfl, rfl⟩ := h'
    exact ⟨rfl, rfl, hO⟩⟩
theorem PA.no {s : ByteArray} {w w' : World} {a : Option Addr} {k c n : Nat} (h : ps s = none) (hb : Below w.heap.size w w') : PA s w (.returned (.tuple #[.slice a k c, .int .i64 (n : Int), .bool false])) w' :=
  ⟨hb, _, n, _, rfl, fun _ => ⟨rfl, _, _, _, rfl⟩, fun l t h' => by rw [h] at h'; cases h'⟩
theorem app_sq {B : Nat} {v : Value} {l : List SQ} {w1 : World} (h : OW sqc 3 102 B v l w1) (q : SQ) (hl : l.length ≤ 4000) (hB : B ≤ w1.heap.size) :
    ∃ v' w2, (Builtin.append_ #[76, 76] 76 #[v, .slice (some ⟨w1.heap.size, 0, none⟩) 1 1]).run Tryd.prog (w1.alloc (.cells #[.string q.lit, .int .i64 (q.dist : Int), .int .i64 (q.long : Int)] 102)) = .ok v' w2 ∧ OW sqc 3 102 B v' (l ++ [q]) w2 ∧ Gs (fun i => v.ownBlock = some i) w1 w2 := by
  have hb1 : Below w1.heap.size w1 (w1.alloc (.cells #[.string q.lit, .int .i64 (q.dist : Int), .int .i64 (q.long : Int)] 102)) := (Below.refl _ _).alloc (Nat.le_refl _) _
  have hS : LS sqc 3 (fun _ => True) (w1.alloc (.cells #[.string q.lit, .int .i64 (q.dist : Int), .int .i64 (q.long : Int)] 102)) (.slice (some ⟨w1.heap.size, 0, none⟩) 1 1) [q] := LS.one q 102 w1 sqc 3 (fun _ => True) trivial
  obtain ⟨v', w2, h1, h2, h3, _⟩ := (h.keep hb1).app sqc_len (by decide) (fun x hx u hu => by
    simp [sqc] at hu
    rcases hu with rfl | rfl | rfl <;> rfl) Tryd.underlying76 Tryd.infoSq rfl hS (by simp; omega) (by simp; omega) (Nat.le_trans hB hb1.size)
  refine ⟨v', w2, h1, h2, ?_⟩
  have h4 : Gs (fun i => v.ownBlock = some i) w1 (w1.alloc (.cells #[.string q.lit, .int .i64 (q.dist : Int), .int .i64 (q.long : Int)] 102)) := Gs.of_below _ hb1
  cases hv : v.ownBlock with
  | none =>
    rw [hv] at h3
    refine ⟨h3.os.trans h4.os, h3.tape.trans h4.tape, h3.output.trans h4.output, Nat.le_trans h4.size h3.size, fun i hi hp => (h3.block i (Nat.lt_of_lt_of_le hi hb1.size) (by simp)).trans (hb1.block i hi)⟩
  | some b =>
    rw [hv] at h4 h3
    exact h4.gb h3 (.inl rfl)
set_option maxRecDepth 100000 in
set_option maxHeartbeats 1600000 in
theorem rparse_any {w : World} {s : ByteArray} (hs : s.size ≤ 4000) : Calls Tryd.prog 46 #[.string s] w fun e w' => PA s w e w' := by
  obtain ⟨R, hR⟩ : ∃ R, ps s = R := ⟨_, rfl⟩
  have HR := hide hR
  clear hR
  go_enter Tryd.func46, Tryd.ntmps46
  go_wp2
  go_loopw [5, 6, 7] (fun v a b wr => ∃ (L : List SQ) (i n : Nat), a = .int .i64 (i : Int) ∧ b = .int .i64 (n : Int) ∧ i ≤ s.size ∧ n ≤ 289 * i ∧ L.length ≤ i ∧ OW sqc 3 102 w.heap.size v L wr ∧ ps s = (pq s i n).map (fun r => (L ++ r.1, r.2)) ∧ Below w.heap.size w wr) (fun _ a _ _ => s.size - (Go.RowKit.intOf a).toNat)
  case atStart => exact ⟨[], 0, 0, rfl, rfl, Nat.zero_le _, Nat.zero_le _, Nat.zero_le _, OW.nil _ _ _ _ _, by show ps s = _; rw [ps]; cases pq s 0 0 <;> rfl, Below.refl _ _⟩
  case round =>
    obtain ⟨L, i, n, rfl, rfl, hi, hn, hL, hO, hq, hb⟩ := hrel
    by_cases hlt : i < s.size
    · have d1 : (i : Int) < (s.size : Int) := by omega
      have d0 : (0 : Int) ≤ (i : Int) := by omega
      have hx := ix_at hlt
      have hbl := bt_lt s i
      obtain ⟨B, hB⟩ : ∃ B, bt s i = B := ⟨_, rfl⟩
      rw [hB] at hx hbl
      have r1 := quo_u8 B hbl
      have r2 := rem_u8 B
      have r3 := cv_small (b := B / 16) (by omega)
      have r4 := cv_small (b := B % 16) (by omega)
      obtain ⟨a0, ha0⟩ : ∃ a0, B / 16 = a0 := ⟨_, rfl⟩
      obtain ⟨b0, hb0⟩ : ∃ b0, B % 16 = b0 := ⟨_, rfl⟩
      rw [ha0] at r1 r3
      rw [hb0] at r2 r4
      have q1 : (B : Int) / 16 = (a0 : Int) := by omega
      have q2 : (B : Int) % 16 = (b0 : Int) := by omega
      have HQ0 := hide (And.intro q1 q2)
      clear q1 q2
      have hal : a0 ≤ 15 := by omega
      have hbl2 : b0 ≤ 15 := by omega
      have HO := hide (And.intro hO (And.intro hq (And.intro hb (And.intro hB (And.intro ha0 hb0)))))
      obtain ⟨av, cv, hv⟩ := hO.shp
      clear hO hq hb hB ha0 hb0
      go_upto_region 4 with fail
      go_region
      obtain ⟨V, hV⟩ : ∃ V, wr.drew = V := ⟨_, rfl⟩
      have hOV : OW sqc 3 102 w.heap.size (.slice av L.length cv) L V := by rw [← hV, ← hv]; exact HO.out.1.kb fun _ _ => rfl
      have hbV : Below w.heap.size w V := by rw [← hV]; exact HO.out.2.2.1.drew
      have HO2 := hide (And.intro hOV (And.intro HO.out.2.1 (And.intro hbV HO.out.2.2.2)))
      clear HO hOV hbV
      rw [hV, HQ0.out.1, HQ0.out.2]
      clear hV HQ0
      subst hv
      clear hx r1 r2 r3 r4
      have ei : ((i + 1 : Nat) : Int) = (i : Int) + 1 := by omega
      have HM : Hid (∀ wx, Calls Tryd.prog 63 #[.string s, .int .i64 ((i : Int) + 1), .int .i64 (a0 : Int)] wx fun e w' => e = .returned (moV (mo s (i + 1) a0)) ∧ w' = wx) := fun wx => by
        rw [← ei]
        exact rmore_any wx (by omega) hs (by omega)
      have hms := fun {m j : Nat} => mo_spec (s := s) (i := i + 1) (n := a0) (m := m) (j := j) (by omega)
      clear ei
      obtain ⟨m0, hm⟩ : ∃ m0, mo s (i + 1) a0 = m0 := ⟨_, rfl⟩
      rw [hm] at HM
      have hmq : mo s (i + 1) (bt s i / 16) = m0 := by rw [HO2.out.2.2.2.1, HO2.out.2.2.2.2.1, hm]
      rcases m0 with _ | ⟨a, j⟩
      · have HE : Hid (PA s w (.returned (.tuple #[.slice none 0 0, .int .i64 0, .bool false])) V) := PA.bad (by rw [HO2.out.2.1, pq_bad hlt hmq]; rfl) HO2.out.2.2.1
        replace HM : Hid (∀ wx, Calls Tryd.prog 63 #[.string s, .int .i64 ((i : Int) + 1), .int .i64 (a0 : Int)] wx fun e w' => e = .returned (.tuple #[.int .i64 0, .int .i64 0, .bool false]) ∧ w' = wx) := HM
        clear HO2 hms hm hmq
        go_wp2_with fail
        refine (HM.out V).mono ?_
        rintro _ wz ⟨rfl, hwz⟩
        subst hwz
        go_wp2
        exact bodyPost_ret (v := .tuple #[.slice none 0 0, .int .i64 0, .bool false]) (by simp [results, Tryd.results46, go_sem]) rfl HE.out
      · obtain ⟨g1, g2, g3, g4⟩ := hms hm
        replace HM : Hid (∀ wx, Calls Tryd.prog 63 #[.string s, .int .i64 ((i : Int) + 1), .int .i64 (a0 : Int)] wx fun e w' => e = .returned (.tuple #[.int .i64 (a : Int), .int .i64 (j : Int), .bool true]) ∧ w' = wx) := HM
        have HQ := hide hmq
        clear hms hm hmq
        have e1 : IntKind.i64.wrap ((s.size : Int) - (j : Int)) = (s.size : Int) - (j : Int) := by rw [IntKind.wrap_i64]; omega
        go_wp2_with fail
        refine (HM.out V).mono ?_
        rintro _ wz ⟨rfl, hwz⟩
        subst hwz
        by_cases c1 : s.size - j < a
        · have HE : Hid (PA s w (.returned (.tuple #[.slice none 0 0, .int .i64 0, .bool false])) wz) := PA.bad (by rw [HO2.out.2.1, pq_cut hlt HQ.out c1]; rfl) HO2.out.2.2.1
          have f1 : (s.size : Int) - (j : Int) < (a : Int) := by omega
          have f2 : decide ((s.size : Int) - (j : Int) < (a : Int)) = true := by simpa using f1
          clear HO2 HQ
          go_wp2
          exact bodyPost_ret (v := .tuple #[.slice none 0 0, .int .i64 0, .bool false]) (by simp [results, Tryd.results46, go_sem]) rfl HE.out
        · have f1 : ¬ (s.size : Int) - (j : Int) < (a : Int) := by omega
          have f2 : decide ((s.size : Int) - (j : Int) < (a : Int)) = false := by simpa using f1
          obtain ⟨p, hp⟩ : ∃ p, j + a = p := ⟨_, rfl⟩
          have hpz : p ≤ s.size := by omega
          have hjp : j ≤ p := by omega
          have e2 : (j : Int) + (a : Int) = (p : Int) := by omega
          have e3 : IntKind.i64.wrap (p : Int) = (p : Int) := by rw [IntKind.wrap_i64]; omega
          have sl := fun wx => sl_at hjp hpz wx
          obtain ⟨X, hX⟩ : ∃ X, s.extract j p = X := ⟨_, rfl⟩
          rw [hX] at sl
          obtain ⟨n1, hn1⟩ : ∃ n1, n + a = n1 := ⟨_, rfl⟩
          have e4 : (n : Int) + (a : Int) = (n1 : Int) := by omega
          have e5 : IntKind.i64.wrap (n1 : Int) = (n1 : Int) := by rw [IntKind.wrap_i64]; omega
          have e6 : ¬ (2097152 : Int) < (n1 : Int) := by omega
          obtain ⟨V1, hV1⟩ : ∃ V1, wz.alloc (.cells #[.string X, .int .i64 0, .int .i64 0] 102) = V1 := ⟨_, rfl⟩
          have hb1 : Below wz.heap.size wz V1 := by rw [← hV1]; exact (Below.refl _ _).alloc (Nat.le_refl _) _
          have k1 : V1.heap[wz.heap.size]? = some (.cells #[.string X, .int .i64 0, .int .i64 0] 102 (0, 0)) := by rw [← hV1]; exact heap_alloc_new wz _
          have hO1 := HO2.out.1.keep hb1
          have hbw1 := below_step HO2.out.2.2.1 hb1
          have x0 : V1.cell? ⟨wz.heap.size, 0, none⟩ = some (.string X) := by simp [World.cell?, k1]
          have x1 : V1.cell? ⟨wz.heap.size, 1, none⟩ = some (.int .i64 0) := by simp [World.cell?, k1]
          have x2 : V1.cell? ⟨wz.heap.size, 2, none⟩ = some (.int .i64 0) := by simp [World.cell?, k1]
          have HV1 := hide hV1
          clear hV1
          go_upto_region 9 with fail
          rw [HV1.out]
          by_cases c2 : p = s.size
          · have C2 := hide c2
            have f4 : ((p : Int) == (s.size : Int)) = true := by simp [c2]
            have f5 : decide ((p : Int) = (s.size : Int)) = true := by simp [c2]
            clear c2
            obtain ⟨v', w2, hap, hO3, hg3⟩ := app_sq hO1 ⟨X, 0, 0⟩ (by omega) hbw1.size
            replace hap : (Builtin.append_ #[76, 76] 76 #[.slice av L.length cv, .slice (some ⟨V1.heap.size, 0, none⟩) 1 1]).run Tryd.prog (V1.alloc (.cells #[.string X, .int .i64 0, .int .i64 0] 102)) = .ok v' w2 := hap
            have hb3 := hg3.below hbw1 hbw1.size (fun i hi => (hO1.lt i hi).1)
            obtain ⟨a3, c3, hv3⟩ := hO3.shp
            have hqq := HO2.out.2.1
            rw [pq_last hlt HQ.out c1 (hp.trans C2.out), hp, hX, hn1, HO2.out.2.2.2.1, HO2.out.2.2.2.2.2] at hqq
            by_cases h0 : b0 = 0
            · have HE : Hid (PA s w (.returned (.tuple #[v', .int .i64 (n1 : Int), .bool true])) w2) := PA.ok (by rw [hqq, if_pos h0]; rfl) hO3 hb3
              have f5 : ((b0 : Int) == 0) = true := by simp [h0]
              have f6 : (b0 : Int) = 0 := by omega
              clear HO2 HQ hO1 hbw1 hO3 hg3 hb3 hqq k1 hb1 hv3 hX
              go_wp2_with (at_builtin; refine Lib.wpList_append_run _ rfl _ _ _ _ rfl _ _ rfl rfl _ _ hap ?_)
              exact bodyPost_ret (v := .tuple #[v', .int .i64 (n1 : Int), .bool true]) (by simp [results, Tryd.results46, go_sem]) rfl HE.out
            · have HE : Hid (PA s w (.returned (.tuple #[v', .int .i64 (n1 : Int), .bool false])) w2) := by rw [hv3]; exact PA.no (by rw [hqq, if_neg h0]; rfl) hb3
              have f5 : ((b0 : Int) == 0) = false := by simpa using h0
              have f6 : ¬ (b0 : Int) = 0 := by omega
              clear HO2 HQ hO1 hbw1 hO3 hg3 hb3 hqq k1 hb1 hv3 hX
              go_wp2_with (at_builtin; refine Lib.wpList_append_run _ rfl _ _ _ _ rfl _ _ rfl rfl _ _ hap ?_)
              exact bodyPost_ret (v := .tuple #[v', .int .i64 (n1 : Int), .bool false]) (by simp [results, Tryd.results46, go_sem]) rfl HE.out
          · have f3 : ¬ (p : Int) = (s.size : Int) := by omega
            have f4 : ((p : Int) == (s.size : Int)) = false := by simpa using f3
            have f5 : IntKind.i64.wrap ((p : Int) + 2) = (p : Int) + 2 := by rw [IntKind.wrap_i64]; omega
            have c3 : ¬ j + a = s.size := by omega
            by_cases c4 : s.size < p + 2
            · have HE : Hid (PA s w (.returned (.tuple #[.slice none 0 0, .int .i64 0, .bool false])) V1) := PA.bad (by rw [HO2.out.2.1, pq_two hlt HQ.out c1 c3 (by omega)]; rfl) hbw1
              have f6 : (s.size : Int) < (p : Int) + 2 := by omega
              clear HO2 HQ hO1 hbw1
              go_wp2
              exact bodyPost_ret (v := .tuple #[.slice none 0 0, .int .i64 0, .bool false]) (by simp [results, Tryd.results46, go_sem]) rfl HE.out
            · have f6 : ¬ (s.size : Int) < (p : Int) + 2 := by omega
              have hx1 := ix_at (s := s) (i := p) (by omega)
              have hx2 := ix_at (s := s) (i := p + 1) (by omega)
              have u1 := cv_small (bt_lt s p)
              have u2 := cv_small (bt_lt s (p + 1))
              have hD : ds s p = bt s p + bt s (p + 1) * 256 := rfl
              have l1 := bt_lt s p
              have l2 := bt_lt s (p + 1)
              obtain ⟨C1, hC1⟩ : ∃ C1, bt s p = C1 := ⟨_, rfl⟩
              obtain ⟨C2, hC2⟩ : ∃ C2, bt s (p + 1) = C2 := ⟨_, rfl⟩
              rw [hC1] at hx1 u1 hD l1
              rw [hC2] at hx2 u2 hD l2
              have ep : ((p + 1 : Nat) : Int) = (p : Int) + 1 := by omega
              rw [ep] at hx2
              have f7 : IntKind.i64.wrap ((p : Int) + 1) = (p : Int) + 1 := by rw [IntKind.wrap_i64]; omega
              have f8 : IntKind.i64.wrap ((C2 : Int) * 256) = (C2 : Int) * 256 := by rw [IntKind.wrap_i64]; omega
              obtain ⟨Dn, hDn⟩ : ∃ Dn, C1 + C2 * 256 = Dn := ⟨_, rfl⟩
              rw [hDn] at hD
              have f9 : (C1 : Int) + (C2 : Int) * 256 = (Dn : Int) := by omega
              have f10 : IntKind.i64.wrap (Dn : Int) = (Dn : Int) := by rw [IntKind.wrap_i64]; omega
              have hfz : V1.frozen? ⟨wz.heap.size, 1, none⟩ = false := by simp [World.frozen?, k1]
              have q0 : (0 : Int) ≤ (p : Int) := by omega
              have q1 : (p : Int) < (s.size : Int) := by omega
              have q2 : (p : Int) + 1 < (s.size : Int) := by omega
              have q3 : (0 : Int) ≤ (p : Int) + 1 := by omega
              have HD := hide (And.intro hD hX)
              have HW1 := hide (And.intro hO1 (And.intro hbw1 (And.intro k1 (lt_of_block k1))))
              clear hC1 hC2 hDn hD ep hX hO1 hbw1 k1 l1 l2
              go_upto_region 15 with fail
              go_region
              obtain ⟨V2, hV2⟩ : ∃ V2, (V1.setCell ⟨wz.heap.size, 1, none⟩ (.int .i64 (Dn : Int))).drew = V2 := ⟨_, rfl⟩
              have k2 : V2.heap[wz.heap.size]? = some (.cells #[.string X, .int .i64 (Dn : Int), .int .i64 0] 102 (0, 0)) := by rw [← hV2]; exact heap_set_self HW1.out.2.2.1
              have hO2 : OW sqc 3 102 w.heap.size (.slice av L.length cv) L V2 := HW1.out.1.kb fun i hi => by
                rw [← hV2]
                exact heap_setCell_other _ _ _ _ (by have := (HO2.out.1.lt i hi).2; show i ≠ wz.heap.size; omega)
              have hbw2 : Below w.heap.size w V2 := by rw [← hV2]; exact (HW1.out.2.1.setCell (show w.heap.size ≤ (⟨wz.heap.size, 1, none⟩ : Addr).block from HO2.out.2.2.1.size) _).drew
              have v0 : V2.cell? ⟨wz.heap.size, 0, none⟩ = some (.string X) := by simp [World.cell?, k2]
              have v1 : V2.cell? ⟨wz.heap.size, 1, none⟩ = some (.int .i64 (Dn : Int)) := by simp [World.cell?, k2]
              have v2 : V2.cell? ⟨wz.heap.size, 2, none⟩ = some (.int .i64 0) := by simp [World.cell?, k2]
              have hfz2 : V2.frozen? ⟨wz.heap.size, 2, none⟩ = false := by simp [World.frozen?, k2]
              rw [hV2]
              have HW2 := hide (And.intro hO2 (And.intro hbw2 k2))
              clear hV2 k2 hO2 hbw2 x0 x1 x2 hfz hx1 hx2 u1 u2 sl
              have ep : ((p + 2 : Nat) : Int) = (p : Int) + 2 := by omega
              have HM2 : Hid (∀ wx, Calls Tryd.prog 63 #[.string s, .int .i64 ((p : Int) + 2), .int .i64 (b0 : Int)] wx fun e w' => e = .returned (moV (mo s (p + 2) b0)) ∧ w' = wx) := fun wx => by
                rw [← ep]
                exact rmore_any wx (by omega) hs (by omega)
              have hms := fun {m j : Nat} => mo_spec (s := s) (i := p + 2) (n := b0) (m := m) (j := j) (by omega)
              clear ep
              obtain ⟨m2, hm⟩ : ∃ m2, mo s (p + 2) b0 = m2 := ⟨_, rfl⟩
              rw [hm] at HM2
              have hmq : mo s (j + a + 2) (bt s i % 16) = m2 := by rw [HO2.out.2.2.2.1, HO2.out.2.2.2.2.2, hp, hm]
              rcases m2 with _ | ⟨b, k⟩
              · have HE : Hid (PA s w (.returned (.tuple #[.slice none 0 0, .int .i64 0, .bool false])) V2) := PA.bad (by rw [HO2.out.2.1, pq_bad2 hlt HQ.out c1 c3 (by omega) hmq]; rfl) HW2.out.2.1
                replace HM2 : Hid (∀ wx, Calls Tryd.prog 63 #[.string s, .int .i64 ((p : Int) + 2), .int .i64 (b0 : Int)] wx fun e w' => e = .returned (.tuple #[.int .i64 0, .int .i64 0, .bool false]) ∧ w' = wx) := HM2
                clear HO2 hms hm hmq HQ
                go_wp2_with fail
                refine (HM2.out V2).mono ?_
                rintro _ wy ⟨rfl, hwy⟩
                subst hwy
                go_wp2
                exact bodyPost_ret (v := .tuple #[.slice none 0 0, .int .i64 0, .bool false]) (by simp [results, Tryd.results46, go_sem]) rfl HE.out
              · obtain ⟨t1, t2, t3, t4⟩ := hms hm
                replace HM2 : Hid (∀ wx, Calls Tryd.prog 63 #[.string s, .int .i64 ((p : Int) + 2), .int .i64 (b0 : Int)] wx fun e w' => e = .returned (.tuple #[.int .i64 (b : Int), .int .i64 (k : Int), .bool true]) ∧ w' = wx) := HM2
                have HQ2 := hide hmq
                clear hms hm hmq
                have hDq : ds s (j + a) = Dn := by rw [hp]; exact HD.out.1
                by_cases c5 : Dn = 0
                · have HE : Hid (PA s w (.returned (.tuple #[.slice none 0 0, .int .i64 0, .bool false])) V2) := PA.bad (by rw [HO2.out.2.1, pq_far hlt HQ.out c1 c3 (by omega) HQ2.out (by rw [hDq]; exact .inl c5)]; rfl) HW2.out.2.1
                  have y1 : ((Dn : Int) == 0) = true := by simp [c5]
                  clear HO2 HQ HQ2 hDq c5
                  go_wp2_with fail
                  refine (HM2.out V2).mono ?_
                  rintro _ wy ⟨rfl, hwy⟩
                  subst hwy
                  go_wp2
                  exact bodyPost_ret (v := .tuple #[.slice none 0 0, .int .i64 0, .bool false]) (by simp [results, Tryd.results46, go_sem]) rfl HE.out
                · have y1 : ((Dn : Int) == 0) = false := by simpa using c5
                  by_cases c6 : n1 < Dn
                  · have HE : Hid (PA s w (.returned (.tuple #[.slice none 0 0, .int .i64 0, .bool false])) V2) := PA.bad (by rw [HO2.out.2.1, pq_far hlt HQ.out c1 c3 (by omega) HQ2.out (by rw [hDq]; exact .inr (by omega))]; rfl) HW2.out.2.1
                    have y2 : (n1 : Int) < (Dn : Int) := by omega
                    have y3 : decide ((n1 : Int) < (Dn : Int)) = true := by simpa using y2
                    clear HO2 HQ HQ2 hDq
                    go_wp2_with fail
                    refine (HM2.out V2).mono ?_
                    rintro _ wy ⟨rfl, hwy⟩
                    subst hwy
                    go_wp2
                    exact bodyPost_ret (v := .tuple #[.slice none 0 0, .int .i64 0, .bool false]) (by simp [results, Tryd.results46, go_sem]) rfl HE.out
                  · have y2 : ¬ (n1 : Int) < (Dn : Int) := by omega
                    have y3 : decide ((n1 : Int) < (Dn : Int)) = false := by simpa using y2
                    obtain ⟨G, hG⟩ : ∃ G, b + 4 = G := ⟨_, rfl⟩
                    have y4 : (b : Int) + 4 = (G : Int) := by omega
                    have y5 : IntKind.i64.wrap (G : Int) = (G : Int) := by rw [IntKind.wrap_i64]; omega
                    obtain ⟨n2, hn2⟩ : ∃ n2, n1 + G = n2 := ⟨_, rfl⟩
                    have y6 : (n1 : Int) + (G : Int) = (n2 : Int) := by omega
                    have y7 : IntKind.i64.wrap (n2 : Int) = (n2 : Int) := by rw [IntKind.wrap_i64]; omega
                    have y8 : ¬ (2097152 : Int) < (n2 : Int) := by omega
                    have hqn : ps s = (pq s k n2).map (fun r => ((L ++ [⟨X, Dn, G⟩]) ++ r.1, r.2)) := by
                      rw [HO2.out.2.1, pq_go hlt HQ.out c1 c3 (by omega) HQ2.out (by rw [hDq]; omega), hDq, hp, HD.out.2, hG, hn1, hn2]
                      cases pq s k n2 <;> simp
                    obtain ⟨V3, hV3⟩ : ∃ V3, V2.setCell ⟨wz.heap.size, 2, none⟩ (.int .i64 (G : Int)) = V3 := ⟨_, rfl⟩
                    have k3 : V3.heap[wz.heap.size]? = some (.cells #[.string X, .int .i64 (Dn : Int), .int .i64 (G : Int)] 102 (0, 0)) := by rw [← hV3]; exact heap_set_self HW2.out.2.2
                    have hO3 : OW sqc 3 102 w.heap.size (.slice av L.length cv) L V3 := HW2.out.1.kb fun i hi => by
                      rw [← hV3]
                      exact heap_setCell_other _ _ _ _ (by have := (HO2.out.1.lt i hi).2; show i ≠ wz.heap.size; omega)
                    have hbw3 : Below w.heap.size w V3 := by rw [← hV3]; exact HW2.out.2.1.setCell (show w.heap.size ≤ (⟨wz.heap.size, 2, none⟩ : Addr).block from HO2.out.2.2.1.size) _
                    have z0 : V3.cell? ⟨wz.heap.size, 0, none⟩ = some (.string X) := by simp [World.cell?, k3]
                    have z1 : V3.cell? ⟨wz.heap.size, 1, none⟩ = some (.int .i64 (Dn : Int)) := by simp [World.cell?, k3]
                    have z2 : V3.cell? ⟨wz.heap.size, 2, none⟩ = some (.int .i64 (G : Int)) := by simp [World.cell?, k3]
                    obtain ⟨v', w4, hap, hO4, hg4⟩ := app_sq hO3 ⟨X, Dn, G⟩ (by omega) hbw3.size
                    replace hap : (Builtin.append_ #[76, 76] 76 #[.slice av L.length cv, .slice (some ⟨V3.heap.size, 0, none⟩) 1 1]).run Tryd.prog (V3.alloc (.cells #[.string X, .int .i64 (Dn : Int), .int .i64 (G : Int)] 102)) = .ok v' w4 := hap
                    have hb4 := hg4.below hbw3 hbw3.size (fun i hi => (hO3.lt i hi).1)
                    have HE := hide (And.intro hO4 (And.intro hqn hb4))
                    have hks : n2 ≤ 289 * k := by omega
                    have hL2 : L.length + 1 ≤ k := by omega
                    clear HO2 HQ HQ2 hDq hqn hO3 hbw3 hO4 hg4 hb4 k3 hG hn2
                    go_wp2_with fail
                    refine (HM2.out V2).mono ?_
                    rintro _ wy ⟨rfl, hwy⟩
                    subst hwy
                    go_wp2_with (at_builtin; refine Lib.wpList_append_run _ rfl _ _ _ _ rfl _ _ rfl rfl _ _ hap ?_)
                    exact ⟨⟨_, k, n2, rfl, rfl, t2, hks, by rw [List.length_append]; exact hL2, HE.out.1, HE.out.2.1, HE.out.2.2⟩, by simp [Go.RowKit.intOf]; omega⟩
    · have HE : Hid (PA s w (.returned (.tuple #[.slice none 0 0, .int .i64 0, .bool false])) wr) := PA.bad (by rw [hq, pq_end (by omega)]; rfl) hb
      have d1 : ¬ (i : Int) < (s.size : Int) := by omega
      clear hq hO hb
      go_wp2
      exact bodyPost_ret (v := .tuple #[.slice none 0 0, .int .i64 0, .bool false]) (by simp [results, Tryd.results46, go_sem]) rfl HE.out
end Go.Proofs.YtgigiamnhjelmaaDoor
