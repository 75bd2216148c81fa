/-
  Port: the document's list is given an answer.
-/
import Derived.Test.YtepmhgkegfpmjaaPoDoc
namespace Go.Proofs.Ytepmhgkegfpmjaa
open Go.RowKit Go.Lib Go.Maps
section
variable {w : World} {kb : Nat} {lv ids tx u : Value} {t C N : Int} {r r0 : Nat → Prop} {T M I : List ByteArray}
theorem ts_empty {W : World} {B : Nat} (hB : B ≤ W.heap.size) : TS B (.slice (some ⟨W.heap.size, 0, none⟩) 0 0) [] (W.alloc (.cells #[] 9)) := (OW.empty t1 1 9 hB).ts
set_option maxRecDepth 100000 in
set_option maxHeartbeats 6400000 in
theorem kgive (hK : KB w kb lv t C N ids tx) (ht0 : 0 ≤ t) (ht1 : t ≤ 1000000000) (hN0 : 0 ≤ N) (hN1 : N ≤ 1000000000) (hI : LS t1 1 r w ids I) (hT : LS t1 1 r w tx T) (hr : ¬ r kb) (hu : LS t1 1 r0 w u M) (hr0 : ¬ r0 kb) (hIM : I.length + M.length ≤ 1000000000000) (hTl : T.length ≤ 1000000000) (cc : Int) (dd : ByteArray) :
    Calls Try.prog 17 #[.pointer (some ⟨kb, 0, none⟩), .agg #[.int .i64 cc, .string dd, u]] w fun e w' => e = .returned (.tuple #[]) ∧ ∃ ids' tx', KB w' kb lv (t + 1) (if C = 0 then cc else C) (if cc = 0 then N + 1 else N) ids' tx' ∧ TS w.heap.size ids' (I ++ M) w' ∧ TS w.heap.size tx' (T ++ [dd]) w' ∧ Gs (fun i => i = kb) w w' := by
  obtain ⟨C1, hC1⟩ : ∃ C1, C1 = if C = 0 then cc else C := ⟨_, rfl⟩
  obtain ⟨N1, hN1'⟩ : ∃ N1, N1 = if cc = 0 then N + 1 else N := ⟨_, rfl⟩
  rw [← hC1, ← hN1']
  obtain ⟨U, hU⟩ : ∃ U, U = w.alloc (.cells #[.int .i64 cc, .string dd, u] 45) := ⟨_, rfl⟩
  obtain ⟨n5, hn5⟩ : ∃ n5, n5 = w.heap.size := ⟨_, rfl⟩
  have hBU : Below w.heap.size w U := by rw [hU]; exact (Below.refl _ _).alloc (Nat.le_refl _) _
  have hKU := hK.bel hBU hK.lt
  have hkl : kb < n5 := by rw [hn5]; exact hK.lt
  have hblk : U.heap[n5]? = some (.cells #[.int .i64 cc, .string dd, u] 45 (0, 0)) := by rw [hU, hn5]; exact heap_alloc_new w _
  have hszU : U.heap.size = n5 + 1 := by rw [hU, hn5]; simp
  have y1 : U.cell? ⟨kb, 1, none⟩ = some (.int .i64 t) := hKU.cell 1
  have f1 := hKU.free 1
  have hK1 : KB (U.setCell ⟨kb, 1, none⟩ (.int .i64 (t + 1))) kb lv (t + 1) C N ids tx := heap_set_self hKU
  obtain ⟨V1, hV1⟩ : ∃ V1, V1 = U.setCell ⟨kb, 1, none⟩ (.int .i64 (t + 1)) := ⟨_, rfl⟩
  rw [← hV1] at hK1
  have hG1 : Gs (fun i => i = kb) w V1 := by rw [hV1]; exact (Gs.of_below _ hBU).set1 _ _
  have hblk1 : V1.heap[n5]? = some (.cells #[.int .i64 cc, .string dd, u] 45 (0, 0)) := by rw [hV1]; exact (heap_setCell_other U ⟨kb, 1, none⟩ n5 _ (by show n5 ≠ kb; omega)).trans hblk
  have hsz1 : V1.heap.size = n5 + 1 := by rw [hV1]; simpa using hszU
  have k0 : V1.cell? ⟨n5, 0, none⟩ = some (.int .i64 cc) := by simp [World.cell?, hblk1]
  have x2 : V1.cell? ⟨kb, 2, none⟩ = some (.int .i64 C) := hK1.cell 2
  have x4 : V1.cell? ⟨kb, 4, none⟩ = some (.int .i64 N) := hK1.cell 4
  have f2 := hK1.free 2
  have f4 := hK1.free 4
  have HC1 := hide hC1
  have HN1 := hide hN1'
  clear hC1 hN1'
  have HF := hide (And.intro hK1 (And.intro hG1 (And.intro hblk1 hsz1)))
  have HU := hide hU
  have Hn5 := hide hn5
  have HV1 := hide hV1
  have HI := hide hI.old
  have HT := hide hT.old
  have Hu := hide hu.old
  clear hU hBU hKU hK hblk hszU hK1 hV1 hG1 hblk1 hsz1 hI hT hu hn5
  go_enter Try.func17, Try.ntmps17
  go_upto_region 1 with fail
  rw [← HU.out, ← Hn5.out]
  go_upto_region 2 with fail
  rw [← HV1.out]
  go_upto_if 13 with fail
  go_cut [16] (fun _ wx => KB wx kb lv (t + 1) C N1 ids tx ∧ Gs (fun i => i = kb) w wx ∧ wx.heap[n5]? = some (.cells #[.int .i64 cc, .string dd, u] 45 (0, 0)) ∧ wx.heap.size = n5 + 1)
  case first =>
    by_cases h1 : cc = 0
    · have HE : Hid (KB (V1.setCell ⟨kb, 4, none⟩ (.int .i64 (N + 1))) kb lv (t + 1) C N1 ids tx ∧ Gs (fun i => i = kb) w (V1.setCell ⟨kb, 4, none⟩ (.int .i64 (N + 1))) ∧ (V1.setCell ⟨kb, 4, none⟩ (.int .i64 (N + 1))).heap[n5]? = some (.cells #[.int .i64 cc, .string dd, u] 45 (0, 0)) ∧ (V1.setCell ⟨kb, 4, none⟩ (.int .i64 (N + 1))).heap.size = n5 + 1) := by
        obtain ⟨hK1, hG1, hblk1, hsz1⟩ := HF.out
        refine ⟨?_, hG1.set1 _ _, (heap_setCell_other V1 ⟨kb, 4, none⟩ n5 _ (by show n5 ≠ kb; omega)).trans hblk1, by simpa using hsz1⟩
        rw [HN1.out, if_pos h1]
        exact heap_set_self hK1
      go_wp2
      go_meet
      case rel => exact HE.out
    · have HE : Hid (KB V1 kb lv (t + 1) C N1 ids tx ∧ Gs (fun i => i = kb) w V1 ∧ V1.heap[n5]? = some (.cells #[.int .i64 cc, .string dd, u] 45 (0, 0)) ∧ V1.heap.size = n5 + 1) := by
        obtain ⟨hK1, hG1, hblk1, hsz1⟩ := HF.out
        refine ⟨?_, hG1, hblk1, hsz1⟩
        rw [HN1.out, if_neg h1]
        exact hK1
      go_wp2
      go_meet
      case rel => exact HE.out
  case rest =>
    clear k0 x2 x4 f2 f4 y1 f1 HF HU HV1
    obtain ⟨W2, hW2⟩ : ∃ W2, W2 = wc := ⟨_, rfl⟩
    rw [← hW2] at hcut ⊢
    have HF2 := hide hcut
    have k0 : W2.cell? ⟨n5, 0, none⟩ = some (.int .i64 cc) := by simp [World.cell?, hcut.2.2.1]
    have x2 : W2.cell? ⟨kb, 2, none⟩ = some (.int .i64 C) := hcut.1.cell 2
    have f2 := hcut.1.free 2
    clear hcut hW2
    obtain ⟨ok, hok⟩ : ∃ ok, ok = (!decide (cc = 0) && decide (C = 0)) := ⟨_, rfl⟩
    have HOK := hide hok
    clear hok
    go_upto_region 4 with fail
    go_cut [33] (fun cx wx => cx = .bool ok ∧ wx = W2)
    case first =>
      by_cases h1 : cc = 0
      · have hb : (cc == 0) = true := by simp [h1]
        have HE : Hid (false = ok) := by show false = ok; rw [HOK.out, decide_eq_true h1]; rfl
        go_wp2
        go_meet
        case rel => exact ⟨congrArg Value.bool HE.out, rfl⟩
      · have hb : (cc == 0) = false := by simp [h1]
        by_cases h2 : C = 0
        · have hb2 : (C == 0) = true := by simp [h2]
          have HE : Hid (true = ok) := by show true = ok; rw [HOK.out, decide_eq_false h1, decide_eq_true h2]; rfl
          go_wp2
          go_meet
          case rel => exact ⟨congrArg Value.bool ((show (cc != 0) = true by simp [h1]).trans HE.out), rfl⟩
        · have hb2 : (C == 0) = false := by simp [h2]
          have HE : Hid (false = ok) := by show false = ok; rw [HOK.out, decide_eq_false h1, decide_eq_false h2]; rfl
          go_wp2
          go_meet
          case rel => exact ⟨congrArg Value.bool HE.out, rfl⟩
    case rest =>
      obtain ⟨rfl, rfl⟩ := hcut
      go_upto_if 33 with fail
      go_cut [36] (fun _ wx => KB wx kb lv (t + 1) C1 N1 ids tx ∧ Gs (fun i => i = kb) w wx ∧ wx.heap[n5]? = some (.cells #[.int .i64 cc, .string dd, u] 45 (0, 0)) ∧ wx.heap.size = n5 + 1)
      case first =>
        cases ok with
        | true =>
          have HE : Hid (KB (wc.setCell ⟨kb, 2, none⟩ (.int .i64 cc)) kb lv (t + 1) C1 N1 ids tx ∧ Gs (fun i => i = kb) w (wc.setCell ⟨kb, 2, none⟩ (.int .i64 cc)) ∧ (wc.setCell ⟨kb, 2, none⟩ (.int .i64 cc)).heap[n5]? = some (.cells #[.int .i64 cc, .string dd, u] 45 (0, 0)) ∧ (wc.setCell ⟨kb, 2, none⟩ (.int .i64 cc)).heap.size = n5 + 1) := by
            obtain ⟨hK1, hG1, hblk1, hsz1⟩ := HF2.out
            refine ⟨?_, hG1.set1 _ _, (heap_setCell_other wc ⟨kb, 2, none⟩ n5 _ (by show n5 ≠ kb; omega)).trans hblk1, by simpa using hsz1⟩
            have h := HOK.out
            have h2 : C = 0 := by
              by_cases h2 : C = 0
              · exact h2
              · rw [decide_eq_false h2] at h; simp at h
            rw [HC1.out, if_pos h2]
            exact heap_set_self hK1
          go_wp2
          go_meet
          case rel => exact HE.out
        | false =>
          have HE : Hid (KB wc kb lv (t + 1) C1 N1 ids tx ∧ Gs (fun i => i = kb) w wc ∧ wc.heap[n5]? = some (.cells #[.int .i64 cc, .string dd, u] 45 (0, 0)) ∧ wc.heap.size = n5 + 1) := by
            obtain ⟨hK1, hG1, hblk1, hsz1⟩ := HF2.out
            refine ⟨?_, hG1, hblk1, hsz1⟩
            have h := HOK.out
            have h2 : C1 = C := by
              rw [HC1.out]
              by_cases h2 : C = 0
              · rw [if_pos h2, h2]
                by_cases h1 : cc = 0
                · exact h1
                · rw [decide_eq_false h1, decide_eq_true h2] at h; simp at h
              · rw [if_neg h2]
            rw [h2]
            exact hK1
          go_wp2
          go_meet
          case rel => exact HE.out
      case rest =>
        obtain ⟨V, hV⟩ : ∃ V, V = wc := ⟨_, rfl⟩
        rw [← hV] at hcut ⊢
        have HC := hide hcut
        clear hcut hV k0 x2 f2 HF2 HOK
        go_upto_region 6 with fail
        obtain ⟨hKV, hGV, hblkV, hszV⟩ := HC.out
        have hkV := hKV.lt
        have hws : w.heap.size ≤ V.heap.size := hGV.size
        have hn5w : n5 = w.heap.size := Hn5.out
        have hTV := HT.out.gs hGV (fun i hi e => hr (e ▸ hi.1))
        have hIV := HI.out.gs hGV (fun i hi e => hr (e ▸ hi.1))
        have huV := Hu.out.gs hGV (fun i hi e => hr0 (e ▸ hi.1))
        have bE : Below V.heap.size V (V.alloc (.cells #[] 9)) := (Below.refl _ _).alloc (Nat.le_refl _) _
        have bO : Below V.heap.size V (V.alloc (.cells #[.string dd] 9)) := (Below.refl _ _).alloc (Nat.le_refl _) _
        have bEO : Below V.heap.size V ((V.alloc (.cells #[] 9)).alloc (.cells #[.string dd] 9)) := bE.alloc (by simp) _
        have bOE : Below V.heap.size V ((V.alloc (.cells #[.string dd] 9)).alloc (.cells #[] 9)) := bO.alloc (by simp) _
        obtain ⟨a1, c1, w1, hr1, hT1, hB1, _⟩ := app_first (W := (V.alloc (.cells #[] 9)).drew) (ts_empty (B := V.heap.size) (Nat.le_refl _)).dr (hTV.bel bE).dr (by omega) bE.size
        have hB1V : Below V.heap.size V w1 := bE.trans (below_und hB1)
        obtain ⟨a2, c2, w2, hr2, hT2, hB2⟩ := app_more (hT1.keep ((Below.refl _ _).alloc (Nat.le_refl _) (.cells #[.string dd] 9))) (LS.one dd 9 w1 t1 1 (fun _ => True) trivial) (by simp; omega) (by have := hB1V.size; simp; omega)
        have hB2V : Below V.heap.size V w2 := (hB1V.alloc hB1V.size (.cells #[.string dd] 9)).trans hB2
        obtain ⟨a3, c3, w3, hr3, hT3, hB3, hg3⟩ := app_first (W := ((V.alloc (.cells #[] 9)).alloc (.cells #[.string dd] 9)).drew) ((ts_empty (B := V.heap.size) (Nat.le_refl V.heap.size)).keep ((Below.refl _ _).alloc (Nat.le_refl _) (.cells #[.string dd] 9))).dr (hTV.bel bEO).dr (by omega) bEO.size
        have hB3V : Below V.heap.size V w3 := bEO.trans (below_und hB3)
        have hone3 := (LS.one dd 9 (V.alloc (.cells #[] 9)) t1 1 (fun i => i = V.heap.size + 1) (by simp)).kb (w' := w3) hg3.size (fun i hi hil => hg3.block i hil (fun e => by simp at e; omega))
        rw [show (V.alloc (.cells #[] 9)).heap.size = V.heap.size + 1 by simp] at hone3
        obtain ⟨a4, c4, w4, hr4, hT4, hB4⟩ := app_more hT3 hone3 (by simp; omega) hB3V.size
        have hB4V : Below V.heap.size V w4 := hB3V.trans hB4
        obtain ⟨a5, c5, w5, hr5, hT5, hB5, hg5⟩ := app_first (W := ((V.alloc (.cells #[.string dd] 9)).alloc (.cells #[] 9)).drew) (ts_empty (W := (V.alloc (.cells #[.string dd] 9))) (B := V.heap.size) bO.size).dr (hTV.bel bOE).dr (by omega) bOE.size
        have hB5V : Below V.heap.size V w5 := bOE.trans (below_und hB5)
        have hone5 := ((LS.one dd 9 V t1 1 (fun i => i = V.heap.size) rfl).bel (w' := ((V.alloc (.cells #[.string dd] 9)).alloc (.cells #[] 9))) ((Below.refl _ _).alloc (Nat.le_refl _) _)).kb (w' := w5) hg5.size (fun i hi hil => hg5.block i hil (fun e => by simp at e; omega))
        obtain ⟨a6, c6, w6, hr6, hT6, hB6⟩ := app_more hT5 hone5 (by simp; omega) hB5V.size
        have hB6V : Below V.heap.size V w6 := hB5V.trans hB6
        rw [show (V.alloc (.cells #[.string dd] 9)).heap.size = V.heap.size + 1 by simp] at hr5
        rw [List.length_singleton] at hr2 hr4 hr6 hT2 hT4 hT6
        obtain ⟨q2, R2⟩ := KT.of (w := w) hKV hblkV hGV hB2V hT2 (by omega)
        obtain ⟨q4, R4⟩ := KT.of (w := w) hKV hblkV hGV hB4V hT4 (by omega)
        obtain ⟨q6, R6⟩ := KT.of (w := w) hKV hblkV hGV hB6V hT6 (by omega)
        have HR2 := hide R2
        have HR4 := hide R4
        have HR6 := hide R6
        have l0 : V.cell? ⟨kb, 6, none⟩ = some tx := hKV.cell 6
        have l1 : (V.alloc (.cells #[] 9)).cell? ⟨kb, 6, none⟩ = some tx := (hKV.bel bE hkV).cell 6
        have l2 : (V.alloc (.cells #[.string dd] 9)).cell? ⟨kb, 6, none⟩ = some tx := (hKV.bel bO hkV).cell 6
        have l3 : ((V.alloc (.cells #[] 9)).alloc (.cells #[.string dd] 9)).cell? ⟨kb, 6, none⟩ = some tx := (hKV.bel bEO hkV).cell 6
        have l4 : ((V.alloc (.cells #[.string dd] 9)).alloc (.cells #[] 9)).cell? ⟨kb, 6, none⟩ = some tx := (hKV.bel bOE hkV).cell 6
        have m0 : V.cell? ⟨n5, 1, none⟩ = some (.string dd) := by simp [World.cell?, hblkV]
        have m1 : (V.alloc (.cells #[] 9)).cell? ⟨n5, 1, none⟩ = some (.string dd) := (bE.cell (p := ⟨n5, 1, none⟩) (by show n5 < _; omega)).trans m0
        have m2 : w1.cell? ⟨n5, 1, none⟩ = some (.string dd) := (hB1V.cell (p := ⟨n5, 1, none⟩) (by show n5 < _; omega)).trans m0
        have s2 : w2.cell? ⟨kb, 6, none⟩ = some tx := q2.cell 6
        have s4 : w4.cell? ⟨kb, 6, none⟩ = some tx := q4.cell 6
        have s6 : w6.cell? ⟨kb, 6, none⟩ = some tx := q6.cell 6
        have o2 := q2.free 6
        have o4 := q4.free 6
        have o6 := q6.free 6
        have HFA := hide (And.intro hIV (And.intro huV (And.intro hws hszV)))
        have HR := hide (And.intro hr1 (And.intro hr2 (And.intro hr3 (And.intro hr4 (And.intro hr5 hr6)))))
        obtain ⟨tl, htl⟩ : ∃ tl, tl = T.length := ⟨_, rfl⟩
        rw [← htl] at HR HR2 HR4 HR6
        clear hKV hGV hblkV hszV hkV hws hn5w hTV hIV huV bE bO bEO bOE hT1 hB1 hB1V hT2 hB2 hB2V hT3 hB3 hg3 hB3V hone3 hT4 hB4 hB4V hT5 hB5 hg5 hB5V hone5 hT6 hB6 hB6V q2 R2 q4 R4 q6 R6 hr1 hr2 hr3 hr4 hr5 hr6 htl
        go_cut [51] (fun _ wx => KT w wx kb n5 lv (t + 1) C1 N1 ids (T ++ [dd]) (.int .i64 cc) dd u)
        case first =>
          go_region_law (first | (refine step_world (V := (V.alloc (.cells #[] 9)).drew) (by with_reducible rfl) ?_; refine step_append_run rfl _ _ 30 30 rfl _ _ rfl rfl _ _ HR.out.1 ?_) | (refine step_world (V := w1.alloc (.cells #[.string dd] 9)) (by with_reducible rfl) ?_; refine step_append_run rfl _ _ 30 30 rfl _ _ rfl rfl _ _ HR.out.2.1 ?_) | (refine step_world (V := ((V.alloc (.cells #[] 9)).alloc (.cells #[.string dd] 9)).drew) (by with_reducible rfl) ?_; refine step_append_run rfl _ _ 30 30 rfl _ _ rfl rfl _ _ HR.out.2.2.1 ?_) | (refine step_world (V := w3) (by with_reducible rfl) ?_; refine step_append_run rfl _ _ 30 30 rfl _ _ rfl rfl _ _ HR.out.2.2.2.1 ?_) | (refine step_world (V := ((V.alloc (.cells #[.string dd] 9)).alloc (.cells #[] 9)).drew) (by with_reducible rfl) ?_; refine step_append_run rfl _ _ 30 30 rfl _ _ rfl rfl _ _ HR.out.2.2.2.2.1 ?_) | (refine step_world (V := w5) (by with_reducible rfl) ?_; refine step_append_run rfl _ _ 30 30 rfl _ _ rfl rfl _ _ HR.out.2.2.2.2.2 ?_))
          all_goals (
            go_wp2
            go_meet
            first | exact HR2.out | exact HR4.out | exact HR6.out)
        case rest =>
          obtain ⟨⟨tx', hKw, hTx⟩, hblk, hG⟩ := hcut
          clear HR HR2 HR4 HR6 l0 l1 l2 l3 l4 m0 m1 m2 s2 s4 s6 o2 o4 o6 HFA HC
          obtain ⟨Z, hZ⟩ : ∃ Z, Z = wc := ⟨_, rfl⟩
          rw [← hZ] at hKw hTx hblk hG ⊢
          have hkV := hKw.lt
          have hws : w.heap.size ≤ Z.heap.size := hG.size
          have hn5w : n5 = w.heap.size := Hn5.out
          have h5l := lt_of_block hblk
          have hIV := HI.out.gs hG (fun i hi e => hr (e ▸ hi.1))
          have huV := Hu.out.gs hG (fun i hi e => hr0 (e ▸ hi.1))
          have bE : Below Z.heap.size Z (Z.alloc (.cells #[] 9)) := (Below.refl _ _).alloc (Nat.le_refl _) _
          obtain ⟨a1, c1, w1, hr1, hT1, hB1, _⟩ := app_first (W := (Z.alloc (.cells #[] 9)).drew) (ts_empty (B := Z.heap.size) (Nat.le_refl _)).dr (hIV.bel bE).dr (by omega) bE.size
          have hB1V : Below Z.heap.size Z w1 := bE.trans (below_und hB1)
          obtain ⟨a2, c2, w2, hr2, hT2, hB2⟩ := app_more hT1 (huV.bel hB1V) hIM hB1V.size
          have hB2V : Below Z.heap.size Z w2 := hB1V.trans hB2
          have hK2 := hKw.bel hB2V hkV
          have l0 : Z.cell? ⟨kb, 5, none⟩ = some ids := hKw.cell 5
          have l1 : (Z.alloc (.cells #[] 9)).cell? ⟨kb, 5, none⟩ = some ids := (hKw.bel bE hkV).cell 5
          have m0 : Z.cell? ⟨n5, 2, none⟩ = some u := by simp [World.cell?, hblk]
          have m1 : (Z.alloc (.cells #[] 9)).cell? ⟨n5, 2, none⟩ = some u := (bE.cell (p := ⟨n5, 2, none⟩) h5l).trans m0
          have m2 : w1.cell? ⟨n5, 2, none⟩ = some u := (hB1V.cell (p := ⟨n5, 2, none⟩) h5l).trans m0
          have s2 : w2.cell? ⟨kb, 5, none⟩ = some ids := hK2.cell 5
          have o2 := hK2.free 5
          have HE : Hid (∃ ids' tx', KB (w2.setCell ⟨kb, 5, none⟩ (.slice a2 (I.length + M.length) c2)) kb lv (t + 1) C1 N1 ids' tx' ∧ TS w.heap.size ids' (I ++ M) (w2.setCell ⟨kb, 5, none⟩ (.slice a2 (I.length + M.length) c2)) ∧ TS w.heap.size tx' (T ++ [dd]) (w2.setCell ⟨kb, 5, none⟩ (.slice a2 (I.length + M.length) c2)) ∧ Gs (fun i => i = kb) w (w2.setCell ⟨kb, 5, none⟩ (.slice a2 (I.length + M.length) c2))) := by
            have k1 := hT2.lt
            have k2 := hTx.lt
            refine ⟨_, tx', heap_set_self hK2, (hT2.set fun i hi => by have := (k1 i hi).1; omega).low hws, ?_, (hG.bel hB2V).set1 _ _⟩
            exact ((hTx.keep hB2V).set fun i hi => by have := (k2 i hi).1; omega).low (by omega)
          have HR := hide (And.intro hr1 hr2)
          obtain ⟨il, hil⟩ : ∃ il, il = I.length := ⟨_, rfl⟩
          obtain ⟨ml, hml⟩ : ∃ ml, ml = M.length := ⟨_, rfl⟩
          rw [← hil, ← hml] at HR HE
          clear hZ hKw hTx hblk hG hkV hws hn5w h5l hIV huV bE hT1 hB1 hB1V hT2 hB2 hB2V hK2 hr1 hr2 hil hml
          go_upto_region 7 with fail
          go_region_law (first | (refine step_world (V := (Z.alloc (.cells #[] 9)).drew) (by with_reducible rfl) ?_; refine step_append_run rfl _ _ 30 30 rfl _ _ rfl rfl _ _ HR.out.1 ?_) | (refine step_world (V := w1) (by with_reducible rfl) ?_; refine step_append_run rfl _ _ 30 30 rfl _ _ rfl rfl _ _ HR.out.2 ?_))
          all_goals (
            go_end0
            exact ⟨rfl, HE.out⟩)
end
end Go.Proofs.Ytepmhgkegfpmjaa
