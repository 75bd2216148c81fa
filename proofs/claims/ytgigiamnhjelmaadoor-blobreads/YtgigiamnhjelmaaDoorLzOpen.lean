/-
  Lz: what sequences unpack to, by the document.
-/
import Derived.Test.YtgigiamnhjelmaaDoorLzParse
import Derived.Test.YtgigiamnhjelmaaDoorLzBytes
namespace Go.Proofs.YtgigiamnhjelmaaDoor
open Go.RowKit Go.Lib
theorem opn_cons (q : SQ) (r : List SQ) (O : List UInt8) : opn (q :: r) O = opn r (rp q.dist q.long (O ++ q.lit.data.toList)) := rfl
set_option maxRecDepth 100000 in
set_option maxHeartbeats 1600000 in
theorem ropen_any {w : World} {v : Value} {l : List SQ} {t : Nat} {r : Nat → Prop} (hL : LS sqc 3 r w v l) (hV : VS 0 l t) (hl : l.length ≤ 4000) (ht : t ≤ 2000000) :
    Calls Tryd.prog 47 #[v] w fun e w' => e = .returned (.string ⟨(opn l []).toArray⟩) ∧ Below w.heap.size w w' := by
  obtain ⟨R, hR⟩ : ∃ R, opn l [] = R := ⟨_, rfl⟩
  rw [hR]
  obtain ⟨N, hN⟩ : ∃ N, l.length = N := ⟨_, rfl⟩
  obtain ⟨a, c, rfl, _, hC⟩ := hL
  rw [hN]
  rw [hN] at hl
  have HC := hide (And.intro hC (And.intro hR (And.intro hN hV)))
  clear hC hR hN hV
  go_enter Tryd.func47, Tryd.ntmps47
  go_wp2
  go_loopw [3, 4] (fun vo a wr => ∃ (O : List UInt8) (i : Nat), a = .int .i64 (i : Int) ∧ i ≤ N ∧ BO w.heap.size vo O wr ∧ opn (l.drop i) O = R ∧ VS O.length (l.drop i) t ∧ Below w.heap.size w wr) (fun _ a _ => N - (Go.RowKit.intOf a).toNat)
  case atStart => exact ⟨[], 0, rfl, Nat.zero_le _, OW.nil _ _ _ _ _, HC.out.2.1, HC.out.2.2.2, Below.refl _ _⟩
  case round =>
    obtain ⟨O, i, rfl, hi, hO, ho, hv, hb⟩ := hrel
    by_cases hlt : i < N
    · obtain ⟨q, hq⟩ : ∃ q, l[i]? = some q := ⟨_, List.getElem?_eq_getElem (by rw [HC.out.2.2.1]; exact hlt)⟩
      have hdr : l.drop i = q :: l.drop (i + 1) := by
        have hli := (List.getElem?_eq_some_iff.1 hq).1
        rw [List.drop_eq_getElem_cons hli]
        congr 1
        exact Option.some.inj ((List.getElem?_eq_getElem hli).symm.trans hq)
      rw [hdr] at ho hv
      rw [opn_cons] at ho
      obtain ⟨v1, v2, v3, v4⟩ := hv
      have hle := VS.le v4
      obtain ⟨g, o, rfl, hr, hg, hG⟩ := HC.out.1.resolve_left (by intro e; rw [e] at hq; simp at hq)
      have hGq := hG i q hq
      have x0 := (hb.cell (p := ⟨g, o + i * 3 + 0, none⟩) hg).trans (hGq 0 (.string q.lit) rfl)
      have x1 := (hb.cell (p := ⟨g, o + i * 3 + 1, none⟩) hg).trans (hGq 1 (.int .i64 (q.dist : Int)) rfl)
      have x2 := (hb.cell (p := ⟨g, o + i * 3 + 2, none⟩) hg).trans (hGq 2 (.int .i64 (q.long : Int)) rfl)
      rw [Nat.add_zero] at x0
      obtain ⟨ao, co, hvo⟩ := hO.shp
      obtain ⟨v', w1, hap, hO1, hg1⟩ := hO.text q.lit (by omega) hb.size
      have hb1 : Below w.heap.size w w1 := hb.grown hg1 hb.size (fun i hi => (hO.lt i hi).1)
      have z1 : w1.cell? ⟨g, o + i * 3 + 1, none⟩ = some (.int .i64 (q.dist : Int)) := (hb1.cell (p := ⟨g, o + i * 3 + 1, none⟩) hg).trans (hGq 1 (.int .i64 (q.dist : Int)) rfl)
      have z2 : w1.cell? ⟨g, o + i * 3 + 2, none⟩ = some (.int .i64 (q.long : Int)) := (hb1.cell (p := ⟨g, o + i * 3 + 2, none⟩) hg).trans (hGq 2 (.int .i64 (q.long : Int)) rfl)
      have b0 : (0 : Int) ≤ (i : Int) := by omega
      have b1 : (i : Int) < (N : Int) := by omega
      have hlo : (O ++ q.lit.data.toList).length = O.length + q.lit.size := by rw [List.length_append]; simp
      have HQ := hide (And.intro ho (And.intro v1 (And.intro v2 (And.intro v3 (And.intro v4 (And.intro hO1 (And.intro hb1 (And.intro hlo (And.intro hle (And.intro hg hGq))))))))))
      clear ho v1 v2 v3 v4 hO hO1 hb hb1 hdr hq hg1 hlo hle hG hGq
      go_wp2_with (at_builtin; refine Lib.wpList_append_run _ rfl _ _ _ _ rfl _ _ rfl rfl _ _ hap ?_)
      obtain ⟨P, hP⟩ : ∃ P, rp q.dist q.long (O ++ q.lit.data.toList) = P := ⟨_, rfl⟩
      obtain ⟨Z, hZ⟩ : ∃ Z, O.length + q.lit.size = Z := ⟨_, rfl⟩
      obtain ⟨d, hd⟩ : ∃ d, q.dist = d := ⟨_, rfl⟩
      obtain ⟨m, hm⟩ : ∃ m, q.long = m := ⟨_, rfl⟩
      have hdZ : d ≤ Z := by have := HQ.out.2.1; omega
      have hZt : Z + m ≤ 2000000 := by have := HQ.out.2.2.2.2.2.2.2.2.1; omega
      have hdm : m = 0 ∨ 0 < d := by
        by_cases h0 : m = 0
        · exact .inl h0
        · right
          apply Nat.pos_of_ne_zero
          intro e
          exact h0 (hm ▸ HQ.out.2.2.2.1.2 (HQ.out.2.2.1.1 (hd.trans e)))
      have HP := hide (And.intro hP (And.intro hZ (And.intro hd hm)))
      have HX : Hid (∀ wx, Below w.heap.size w wx → wx.cell? ⟨g, o + i * 3 + 1, none⟩ = some (.int .i64 (d : Int)) ∧ wx.cell? ⟨g, o + i * 3 + 2, none⟩ = some (.int .i64 (m : Int))) := fun wx hbx => by
        rw [← hd, ← hm]
        exact ⟨(hbx.cell (p := ⟨g, o + i * 3 + 1, none⟩) HQ.out.2.2.2.2.2.2.2.2.2.1).trans (HQ.out.2.2.2.2.2.2.2.2.2.2 1 (.int .i64 (q.dist : Int)) rfl), (hbx.cell (p := ⟨g, o + i * 3 + 2, none⟩) HQ.out.2.2.2.2.2.2.2.2.2.1).trans (HQ.out.2.2.2.2.2.2.2.2.2.2 2 (.int .i64 (q.long : Int)) rfl)⟩
      clear hap hP hZ hd hm x0 x1 x2 z1 z2
      go_loopw [3, 5] (fun vo a wr => ∃ (O2 : List UInt8) (k : Nat), a = .int .i64 (k : Int) ∧ k ≤ m ∧ BO w.heap.size vo O2 wr ∧ O2.length = Z + k ∧ rp d (m - k) O2 = P ∧ Below w.heap.size w wr) (fun _ a _ => m - (Go.RowKit.intOf a).toNat)
      case atStart => exact ⟨_, 0, rfl, Nat.zero_le _, HQ.out.2.2.2.2.2.1, by rw [HQ.out.2.2.2.2.2.2.2.1, HP.out.2.1]; rfl, by rw [← HP.out.1, HP.out.2.2.1, HP.out.2.2.2]; rfl, HQ.out.2.2.2.2.2.2.1⟩
      case round =>
        obtain ⟨O2, k, rfl, hk, hO2, hl2, hrp, hb2⟩ := hrel
        obtain ⟨y1, y2⟩ := HX.out wr hb2
        by_cases hkm : k < m
        · obtain ⟨j, hj⟩ : ∃ j, O2.length - d = j := ⟨_, rfl⟩
          obtain ⟨g2, c2, hv2, hcj⟩ := hO2.cell (j := j) (by omega)
          obtain ⟨bb, hbb⟩ : ∃ bb, O2.getD j 0 = bb := ⟨_, rfl⟩
          rw [hbb] at hcj
          obtain ⟨v2, w2, hap2, hO3, hg3⟩ := hO2.one bb (by omega) hb2.size
          have hb3 : Below w.heap.size w w2 := (hb2.trans (((Below.refl _ wr).alloc (Nat.le_refl _) _).mono hb2.size)).grown hg3 (by simp; have := hb2.size; omega) (fun i hi => (hO2.lt i hi).1)
          obtain ⟨mk, hmk⟩ : ∃ mk, m - k = mk + 1 := ⟨m - k - 1, by omega⟩
          have hrp3 : rp d (m - (k + 1)) (O2 ++ [bb]) = P := by
            rw [hmk, rp, hj, hbb] at hrp
            rw [show m - (k + 1) = mk by omega]
            exact hrp
          obtain ⟨l2, hl2'⟩ : ∃ l2, O2.length = l2 := ⟨_, rfl⟩
          have HE := hide (And.intro hO3 (And.intro hrp3 (And.intro hb3 (show (O2 ++ [bb]).length = Z + (k + 1) by rw [List.length_append, hl2]; rfl))))
          rw [hl2'] at hv2
          subst hv2
          have f1 : (l2 : Int) - (d : Int) = (j : Int) := by omega
          have f2 : IntKind.i64.wrap (j : Int) = (j : Int) := by rw [IntKind.wrap_i64]; omega
          have f3 : (0 : Int) ≤ (j : Int) := by omega
          have f4 : (j : Int) < (l2 : Int) := by omega
          have f5 : (k : Int) < (m : Int) := by omega
          clear hO2 hO3 hg3 hb3 hrp hrp3 hmk hbb hb2 hj hl2 hl2'
          go_wp2_with (at_builtin; refine Lib.wpList_append_run _ rfl _ _ _ _ rfl _ _ rfl rfl _ _ hap2 ?_)
          exact ⟨⟨_, k + 1, by go_num, by omega, HE.out.1, HE.out.2.2.2, HE.out.2.1, HE.out.2.2.1⟩, by simp [Go.RowKit.intOf]; omega⟩
        · obtain rfl : k = m := by omega
          rw [Nat.sub_self] at hrp
          have hrp' : O2 = P := hrp
          have HE := hide (And.intro hO2 (And.intro hl2 (And.intro hrp' hb2)))
          clear hO2 hl2 hrp hrp' hb2
          go_wp2
          exact ⟨⟨O2, i + 1, by go_num, by omega, HE.out.1, by rw [HE.out.2.2.1, ← HP.out.1]; exact HQ.out.1, by rw [HE.out.2.1, ← HP.out.2.1, ← HP.out.2.2.2]; exact HQ.out.2.2.2.2.1, HE.out.2.2.2⟩, by simp [Go.RowKit.intOf]; omega⟩
    · obtain rfl : i = N := by omega
      rw [List.drop_eq_nil_of_le (by rw [HC.out.2.2.1]; exact Nat.le_refl _)] at ho
      have hcv := hO.str
      have ho' : O = R := ho
      rw [ho'] at hcv
      have HB := hide hb
      obtain ⟨ao, co, hvo⟩ := hO.shp
      clear ho ho' hb hO hv
      subst hvo
      go_wp2
      go_ret
      exact ⟨rfl, HB.out⟩
end Go.Proofs.YtgigiamnhjelmaaDoor
