/-
  The walk of MatrixReckons.
-/
import Derived.Test.YthedeggggbdibaaRefT
import Derived.Deep.DeepCutAuto
namespace Go.Proofs.Ythedeggggbdibaa
open Go.RowKit Go.Lib

set_option maxRecDepth 100000 in
set_option maxHeartbeats 3200000 in
theorem reckons_walk (ra ca rb cb : Int) {w : World} {va vb vl : Value} {na nb nl : Nat} {Za Zb Zl : Nat → Int} (ha : NX w w.heap.size va na Za) (hb : NX w w.heap.size vb nb Zb) (hl : NX w w.heap.size vl nl Zl) (hnl : nl * 8 ≤ 140737488355328) :
    Calls Try.prog 3 #[.agg #[.int .i64 ra, .int .i64 ca, va], .agg #[.int .i64 rb, .int .i64 cb, vb], vl] w fun e w' => e = .returned (.bool true) ∧ Below w.heap.size w w' := by
  obtain ⟨aa, cpa, rfl⟩ := ha.shp
  obtain ⟨ab, cpb, rfl⟩ := hb.shp
  obtain ⟨al, cpl, rfl⟩ := hl.shp
  have HLA := hide ha
  have HLB := hide hb
  have HLL := hide hl
  have HNL := hide hnl
  have L0 := below_alloc (below_alloc (Below.refl w.heap.size w) (.cells #[.int .i64 ra, .int .i64 ca, .slice aa na cpa] 24)) (.cells #[.int .i64 rb, .int .i64 cb, .slice ab nb cpb] 24)
  have XA0 := (Bx.new w ra ca (.slice aa na cpa)).alloc (.cells #[.int .i64 rb, .int .i64 cb, .slice ab nb cpb] 24)
  have XB0 := Bx.new (w.alloc (.cells #[.int .i64 ra, .int .i64 ca, .slice aa na cpa] 24)) rb cb (.slice ab nb cpb)
  rw [show (w.alloc (.cells #[.int .i64 ra, .int .i64 ca, .slice aa na cpa] 24)).heap.size = w.heap.size + 1 by simp] at XB0
  have HL0 := hide L0
  have HXA0 := hide XA0
  have HXB0 := hide XB0
  clear ha hb hl hnl L0 XA0 XB0
  go_enter Try.func3, Try.ntmps3
  go_wp2_with fail
  refine (mnew_any _).mono ?_
  rintro e w1 ⟨sb, f, rfl, hS, hf, hsb, hb1⟩
  have hfw : w.heap.size ≤ f := Nat.le_trans HL0.out.size hf
  have HS1 := hide hS
  have HL1 := hide (below_step HL0.out hb1)
  have HXA1 := hide (HXA0.out.below hb1 (Nat.le_refl _))
  have HXB1 := hide (HXB0.out.below hb1 (Nat.le_refl _))
  clear hS hf hsb hb1 HL0 HXA0 HXB0
  go_wp2_with fail
  refine (mworks_any _).mono ?_
  rintro e w2 ⟨rfl, hb2⟩
  have HS2 := hide (HS1.out.below hb2 (Nat.le_refl _))
  have HL2 := hide (below_step HL1.out hb2)
  have HXA2 := hide (HXA1.out.below hb2 (Nat.le_refl _))
  have HXB2 := hide (HXB1.out.below hb2 (Nat.le_refl _))
  clear HS1 HL1 HXA1 HXB1 hb2
  go_upto_region 4 with fail
  go_cut [51] (fun u wx => (u = .bool true ∨ (u = .bool false ∧ (na : Int) ≤ 150 ∧ (nb : Int) ≤ 150)) ∧ SP wx sb f ∧ Below w.heap.size w wx ∧ Bx wx w.heap.size ra ca (.slice aa na cpa) ∧ Bx wx (w.heap.size + 1) rb cb (.slice ab nb cpb))
  case first =>
    have a0 := HXA2.out.cell0
    have a1 := HXA2.out.cell1
    have a2 := HXA2.out.cell2
    have NA2 := hide ((HLA.out.new hfw).below HL2.out)
    go_wp2_with fail
    refine (small_any NA2.out).mono ?_
    rintro e w3 ⟨rfl, hb3⟩
    have HS3 := hide (HS2.out.below hb3 (Nat.le_refl _))
    have HL3 := hide (below_step HL2.out hb3)
    have HXA3 := hide (HXA2.out.below hb3 (Nat.le_refl _))
    have HXB3 := hide (HXB2.out.below hb3 (Nat.le_refl _))
    clear HS2 HL2 HXA2 HXB2 hb3 a0 a1 a2 NA2
    by_cases h1 : (na : Int) ≤ 150
    case neg =>
      have hd : decide ((na : Int) ≤ 150) = false := decide_eq_false h1
      rw [hd]
      go_wp2
      go_meet
      case rel => exact ⟨.inl rfl, HS3.out, HL3.out, HXA3.out, HXB3.out⟩
    have hd : decide ((na : Int) ≤ 150) = true := decide_eq_true h1
    rw [hd]
    clear hd
    have a0 := HXB3.out.cell0
    have a1 := HXB3.out.cell1
    have a2 := HXB3.out.cell2
    have NB3 := hide ((HLB.out.new hfw).below HL3.out)
    go_wp2_with fail
    refine (small_any NB3.out).mono ?_
    rintro e w4 ⟨rfl, hb4⟩
    have HS4 := hide (HS3.out.below hb4 (Nat.le_refl _))
    have HL4 := hide (below_step HL3.out hb4)
    have HXA4 := hide (HXA3.out.below hb4 (Nat.le_refl _))
    have HXB4 := hide (HXB3.out.below hb4 (Nat.le_refl _))
    clear HS3 HL3 HXA3 HXB3 hb4 a0 a1 a2 NB3
    by_cases h2 : (nb : Int) ≤ 150
    case neg =>
      have hd : decide ((nb : Int) ≤ 150) = false := decide_eq_false h2
      rw [hd]
      go_wp2
      go_meet
      case rel => exact ⟨.inl rfl, HS4.out, HL4.out, HXA4.out, HXB4.out⟩
    have hd : decide ((nb : Int) ≤ 150) = true := decide_eq_true h2
    rw [hd]
    clear hd
    by_cases h3 : (20 : Int) < (nl : Int)
    · by_cases h4 : (nl : Int) ≤ 255
      · go_wp2
        go_meet
        case rel => exact ⟨.inl rfl, HS4.out, HL4.out, HXA4.out, HXB4.out⟩
      · go_wp2
        go_meet
        case rel => exact ⟨.inr ⟨by rw [decide_eq_false (Int.not_le.2 h4)], h1, h2⟩, HS4.out, HL4.out, HXA4.out, HXB4.out⟩
    · go_wp2
      go_meet
      case rel => exact ⟨.inr ⟨rfl, h1, h2⟩, HS4.out, HL4.out, HXA4.out, HXB4.out⟩
  case rest =>
  clear HS2 HL2 HXA2 HXB2
  obtain ⟨hu, S4, L4, XA4, XB4⟩ := hcut
  obtain ⟨w4, hw4⟩ : ∃ w4, w4 = wc := ⟨_, rfl⟩
  rw [← hw4] at S4 L4 XA4 XB4 ⊢
  clear hw4
  have HS4 := hide S4
  have HL4 := hide L4
  have HXA4 := hide XA4
  have HXB4 := hide XB4
  clear S4 L4 XA4 XB4
  rcases hu with rfl | ⟨rfl, h1, h2⟩
  · go_wp2
    go_ret
    exact ⟨rfl, HL4.out⟩
  have HNA : Hid (na ≤ 150) := show na ≤ 150 by omega
  have HNB : Hid (nb ≤ 150) := show nb ≤ 150 by omega
  clear h1 h2
  go_upto_region 6 with fail
  go_cut [8, 9] (fun u v wx => ∃ p q, u = .pointer (some ⟨p, 0, none⟩) ∧ v = .pointer (some ⟨q, 0, none⟩) ∧ Br wx p ra ca (.slice aa na cpa) ∧ Br wx q rb cb (.slice ab nb cpb) ∧ p ≠ q ∧ SP wx sb f ∧ Below w.heap.size w wx)
  case first =>
    have K0 : Hid (w4.cell? ⟨w.heap.size, 0, none⟩ = some (.int .i64 ra) ∧ w4.cell? ⟨w.heap.size, 1, none⟩ = some (.int .i64 ca) ∧ w4.cell? ⟨w.heap.size, 2, none⟩ = some (.slice aa na cpa) ∧ w4.cell? ⟨w.heap.size + 1, 0, none⟩ = some (.int .i64 rb) ∧ w4.cell? ⟨w.heap.size + 1, 1, none⟩ = some (.int .i64 cb) ∧ w4.cell? ⟨w.heap.size + 1, 2, none⟩ = some (.slice ab nb cpb)) := ⟨(HXA4.out).cell0, (HXA4.out).cell1, (HXA4.out).cell2, (HXB4.out).cell0, (HXB4.out).cell1, (HXB4.out).cell2⟩
    have K1 : Hid ((w4.alloc (.cells #[.int .i64 0, .int .i64 0, .slice none 0 0] 29)).cell? ⟨w.heap.size, 0, none⟩ = some (.int .i64 ra) ∧ (w4.alloc (.cells #[.int .i64 0, .int .i64 0, .slice none 0 0] 29)).cell? ⟨w.heap.size, 1, none⟩ = some (.int .i64 ca) ∧ (w4.alloc (.cells #[.int .i64 0, .int .i64 0, .slice none 0 0] 29)).cell? ⟨w.heap.size, 2, none⟩ = some (.slice aa na cpa) ∧ (w4.alloc (.cells #[.int .i64 0, .int .i64 0, .slice none 0 0] 29)).cell? ⟨w.heap.size + 1, 0, none⟩ = some (.int .i64 rb) ∧ (w4.alloc (.cells #[.int .i64 0, .int .i64 0, .slice none 0 0] 29)).cell? ⟨w.heap.size + 1, 1, none⟩ = some (.int .i64 cb) ∧ (w4.alloc (.cells #[.int .i64 0, .int .i64 0, .slice none 0 0] 29)).cell? ⟨w.heap.size + 1, 2, none⟩ = some (.slice ab nb cpb)) := ⟨(HXA4.out.alloc _).cell0, (HXA4.out.alloc _).cell1, (HXA4.out.alloc _).cell2, (HXB4.out.alloc _).cell0, (HXB4.out.alloc _).cell1, (HXB4.out.alloc _).cell2⟩
    have K2 : Hid (((w4.alloc (.cells #[.int .i64 0, .int .i64 0, .slice none 0 0] 29)).alloc (.cells #[.int .i64 0, .int .i64 0, .slice none 0 0] 29)).cell? ⟨w.heap.size, 0, none⟩ = some (.int .i64 ra) ∧ ((w4.alloc (.cells #[.int .i64 0, .int .i64 0, .slice none 0 0] 29)).alloc (.cells #[.int .i64 0, .int .i64 0, .slice none 0 0] 29)).cell? ⟨w.heap.size, 1, none⟩ = some (.int .i64 ca) ∧ ((w4.alloc (.cells #[.int .i64 0, .int .i64 0, .slice none 0 0] 29)).alloc (.cells #[.int .i64 0, .int .i64 0, .slice none 0 0] 29)).cell? ⟨w.heap.size, 2, none⟩ = some (.slice aa na cpa) ∧ ((w4.alloc (.cells #[.int .i64 0, .int .i64 0, .slice none 0 0] 29)).alloc (.cells #[.int .i64 0, .int .i64 0, .slice none 0 0] 29)).cell? ⟨w.heap.size + 1, 0, none⟩ = some (.int .i64 rb) ∧ ((w4.alloc (.cells #[.int .i64 0, .int .i64 0, .slice none 0 0] 29)).alloc (.cells #[.int .i64 0, .int .i64 0, .slice none 0 0] 29)).cell? ⟨w.heap.size + 1, 1, none⟩ = some (.int .i64 cb) ∧ ((w4.alloc (.cells #[.int .i64 0, .int .i64 0, .slice none 0 0] 29)).alloc (.cells #[.int .i64 0, .int .i64 0, .slice none 0 0] 29)).cell? ⟨w.heap.size + 1, 2, none⟩ = some (.slice ab nb cpb)) := ⟨((HXA4.out.alloc _).alloc _).cell0, ((HXA4.out.alloc _).alloc _).cell1, ((HXA4.out.alloc _).alloc _).cell2, ((HXB4.out.alloc _).alloc _).cell0, ((HXB4.out.alloc _).alloc _).cell1, ((HXB4.out.alloc _).alloc _).cell2⟩
    have D0 : Hid (w4.drew.cell? ⟨w.heap.size, 0, none⟩ = some (.int .i64 ra) ∧ w4.drew.cell? ⟨w.heap.size, 1, none⟩ = some (.int .i64 ca) ∧ w4.drew.cell? ⟨w.heap.size, 2, none⟩ = some (.slice aa na cpa) ∧ w4.drew.cell? ⟨w.heap.size + 1, 0, none⟩ = some (.int .i64 rb) ∧ w4.drew.cell? ⟨w.heap.size + 1, 1, none⟩ = some (.int .i64 cb) ∧ w4.drew.cell? ⟨w.heap.size + 1, 2, none⟩ = some (.slice ab nb cpb)) := K0.out
    have D1 : Hid ((w4.alloc (.cells #[.int .i64 0, .int .i64 0, .slice none 0 0] 29)).drew.cell? ⟨w.heap.size, 0, none⟩ = some (.int .i64 ra) ∧ (w4.alloc (.cells #[.int .i64 0, .int .i64 0, .slice none 0 0] 29)).drew.cell? ⟨w.heap.size, 1, none⟩ = some (.int .i64 ca) ∧ (w4.alloc (.cells #[.int .i64 0, .int .i64 0, .slice none 0 0] 29)).drew.cell? ⟨w.heap.size, 2, none⟩ = some (.slice aa na cpa) ∧ (w4.alloc (.cells #[.int .i64 0, .int .i64 0, .slice none 0 0] 29)).drew.cell? ⟨w.heap.size + 1, 0, none⟩ = some (.int .i64 rb) ∧ (w4.alloc (.cells #[.int .i64 0, .int .i64 0, .slice none 0 0] 29)).drew.cell? ⟨w.heap.size + 1, 1, none⟩ = some (.int .i64 cb) ∧ (w4.alloc (.cells #[.int .i64 0, .int .i64 0, .slice none 0 0] 29)).drew.cell? ⟨w.heap.size + 1, 2, none⟩ = some (.slice ab nb cpb)) := K1.out
    have D2 : Hid (((w4.alloc (.cells #[.int .i64 0, .int .i64 0, .slice none 0 0] 29)).alloc (.cells #[.int .i64 0, .int .i64 0, .slice none 0 0] 29)).drew.cell? ⟨w.heap.size, 0, none⟩ = some (.int .i64 ra) ∧ ((w4.alloc (.cells #[.int .i64 0, .int .i64 0, .slice none 0 0] 29)).alloc (.cells #[.int .i64 0, .int .i64 0, .slice none 0 0] 29)).drew.cell? ⟨w.heap.size, 1, none⟩ = some (.int .i64 ca) ∧ ((w4.alloc (.cells #[.int .i64 0, .int .i64 0, .slice none 0 0] 29)).alloc (.cells #[.int .i64 0, .int .i64 0, .slice none 0 0] 29)).drew.cell? ⟨w.heap.size, 2, none⟩ = some (.slice aa na cpa) ∧ ((w4.alloc (.cells #[.int .i64 0, .int .i64 0, .slice none 0 0] 29)).alloc (.cells #[.int .i64 0, .int .i64 0, .slice none 0 0] 29)).drew.cell? ⟨w.heap.size + 1, 0, none⟩ = some (.int .i64 rb) ∧ ((w4.alloc (.cells #[.int .i64 0, .int .i64 0, .slice none 0 0] 29)).alloc (.cells #[.int .i64 0, .int .i64 0, .slice none 0 0] 29)).drew.cell? ⟨w.heap.size + 1, 1, none⟩ = some (.int .i64 cb) ∧ ((w4.alloc (.cells #[.int .i64 0, .int .i64 0, .slice none 0 0] 29)).alloc (.cells #[.int .i64 0, .int .i64 0, .slice none 0 0] 29)).drew.cell? ⟨w.heap.size + 1, 2, none⟩ = some (.slice ab nb cpb)) := K2.out
    have KK : Hid (∀ o1 o2, ((w4.alloc o1).alloc o2).drew.cell? ⟨w.heap.size, 0, none⟩ = some (.int .i64 ra) ∧ ((w4.alloc o1).alloc o2).drew.cell? ⟨w.heap.size, 1, none⟩ = some (.int .i64 ca) ∧ ((w4.alloc o1).alloc o2).drew.cell? ⟨w.heap.size, 2, none⟩ = some (.slice aa na cpa) ∧ ((w4.alloc o1).alloc o2).drew.cell? ⟨w.heap.size + 1, 0, none⟩ = some (.int .i64 rb) ∧ ((w4.alloc o1).alloc o2).drew.cell? ⟨w.heap.size + 1, 1, none⟩ = some (.int .i64 cb) ∧ ((w4.alloc o1).alloc o2).drew.cell? ⟨w.heap.size + 1, 2, none⟩ = some (.slice ab nb cpb)) := fun o1 o2 => ⟨((HXA4.out.alloc o1).alloc o2).cell0, ((HXA4.out.alloc o1).alloc o2).cell1, ((HXA4.out.alloc o1).alloc o2).cell2, ((HXB4.out.alloc o1).alloc o2).cell0, ((HXB4.out.alloc o1).alloc o2).cell1, ((HXB4.out.alloc o1).alloc o2).cell2⟩
    have SS : ∀ o1 o2, SP ((w4.alloc o1).alloc o2).drew sb f := fun o1 o2 => ⟨((HS4.out.alloc o1).alloc o2).b, ((HS4.out.alloc o1).alloc o2).fl, HS4.out.ne⟩
    have BB : ∀ o1 o2, Below w.heap.size w ((w4.alloc o1).alloc o2).drew := fun o1 o2 => (below_alloc (below_alloc HL4.out o1) o2).drew
    have PQ : ∀ (r c r' c' : Int) (v v' : Value), Br (((w4.alloc (.cells #[.int .i64 r, .int .i64 c, v] 29)).alloc (.cells #[.int .i64 r', .int .i64 c', v'] 29)).drew) w4.heap.size r c v ∧ Br (((w4.alloc (.cells #[.int .i64 r, .int .i64 c, v] 29)).alloc (.cells #[.int .i64 r', .int .i64 c', v'] 29)).drew) (w4.heap.size + 1) r' c' v' := fun r c r' c' v v' =>
      ⟨(Br.new w4 r c v).alloc _, by
        have := Br.new (w4.alloc (.cells #[.int .i64 r, .int .i64 c, v] 29)) r' c' v'
        rw [show (w4.alloc (.cells #[.int .i64 r, .int .i64 c, v] 29)).heap.size = w4.heap.size + 1 by simp] at this
        exact this⟩
    have F1 := hide (And.intro (PQ ra ca rb cb (.slice aa na cpa) (.slice ab nb cpb)) (And.intro (SS (.cells #[.int .i64 ra, .int .i64 ca, .slice aa na cpa] 29) (.cells #[.int .i64 rb, .int .i64 cb, .slice ab nb cpb] 29)) (BB (.cells #[.int .i64 ra, .int .i64 ca, .slice aa na cpa] 29) (.cells #[.int .i64 rb, .int .i64 cb, .slice ab nb cpb] 29))))
    have F2 := hide (And.intro (PQ rb cb ra ca (.slice ab nb cpb) (.slice aa na cpa)) (And.intro (SS (.cells #[.int .i64 rb, .int .i64 cb, .slice ab nb cpb] 29) (.cells #[.int .i64 ra, .int .i64 ca, .slice aa na cpa] 29)) (BB (.cells #[.int .i64 rb, .int .i64 cb, .slice ab nb cpb] 29) (.cells #[.int .i64 ra, .int .i64 ca, .slice aa na cpa] 29))))
    clear SS BB PQ
    go_region_held_law (fun wx => wx.cell? ⟨w.heap.size, 0, none⟩ = some (.int .i64 ra) ∧ wx.cell? ⟨w.heap.size, 1, none⟩ = some (.int .i64 ca) ∧ wx.cell? ⟨w.heap.size, 2, none⟩ = some (.slice aa na cpa) ∧ wx.cell? ⟨w.heap.size + 1, 0, none⟩ = some (.int .i64 rb) ∧ wx.cell? ⟨w.heap.size + 1, 1, none⟩ = some (.int .i64 cb) ∧ wx.cell? ⟨w.heap.size + 1, 2, none⟩ = some (.slice ab nb cpb)) (first | with_reducible assumption | with_reducible exact K0.out | with_reducible exact K1.out | with_reducible exact K2.out | with_reducible exact D0.out | with_reducible exact D1.out | with_reducible exact KK.out _ _ | with_reducible exact ⟨by assumption, by assumption, by assumption, by assumption, by assumption, by assumption⟩) (fail)
    all_goals
      go_wp2
      go_meet
      case rel => first | exact ⟨w4.heap.size, w4.heap.size + 1, rfl, rfl, F1.out.1.1, F1.out.1.2, by omega, F1.out.2⟩ | exact ⟨w4.heap.size + 1, w4.heap.size, rfl, rfl, F2.out.1.2, F2.out.1.1, by omega, F2.out.2⟩
  case rest =>
  clear HS4 HL4 HXA4 HXB4
  obtain ⟨p, q, rfl, rfl, BP, BQ, hpq, S7, L7⟩ := hcut
  obtain ⟨W, hW⟩ : ∃ W, W = wc := ⟨_, rfl⟩
  rw [← hW] at BP BQ S7 L7 ⊢
  clear hW
  have hfW : f < W.heap.size := S7.ltf
  have NA7 := (HLA.out.new hfw).below L7
  have NB7 := (HLB.out.new hfw).below L7
  have NL7 := (HLL.out.new hfw).below L7
  have HK7 : Hid (∀ w', Below W.heap.size W w' → w'.cell? ⟨p, 0, none⟩ = some (.int .i64 ra) ∧ w'.cell? ⟨p, 1, none⟩ = some (.int .i64 ca) ∧ w'.cell? ⟨p, 2, none⟩ = some (.slice aa na cpa) ∧ w'.cell? ⟨q, 0, none⟩ = some (.int .i64 rb) ∧ w'.cell? ⟨q, 1, none⟩ = some (.int .i64 cb) ∧ w'.cell? ⟨q, 2, none⟩ = some (.slice ab nb cpb)) := fun w' hb => ⟨(BP.below hb (Nat.le_refl _)).cell0, (BP.below hb (Nat.le_refl _)).cell1, (BP.below hb (Nat.le_refl _)).cell2, (BQ.below hb (Nat.le_refl _)).cell0, (BQ.below hb (Nat.le_refl _)).cell1, (BQ.below hb (Nat.le_refl _)).cell2⟩
  have HB0 : Hid (Below W.heap.size W W.drew) := (Below.refl _ _).drew
  have OFA : Hid (∀ w', Below W.heap.size W w' → Calls Try.prog 11 #[.agg #[.int .i64 ra, .int .i64 ca, .slice aa na cpa]] w' fun e w'' => ∃ v, e = .returned v ∧ GX f ra ca na Za v w'' ∧ Below w'.heap.size w' w'') := by
    intro w' hb
    refine (of_any (NA7.below hb) (Nat.lt_of_lt_of_le hfW hb.size) (by have := HNA.out; omega)).mono ?_
    rintro e w'' ⟨ao, cap, rfl, hN, hb', hloc⟩
    exact ⟨_, rfl, ⟨ao, cap, rfl, hN, hloc⟩, hb'⟩
  have OFB : Hid (∀ w', Below W.heap.size W w' → Calls Try.prog 11 #[.agg #[.int .i64 rb, .int .i64 cb, .slice ab nb cpb]] w' fun e w'' => ∃ v, e = .returned v ∧ GX f rb cb nb Zb v w'' ∧ Below w'.heap.size w' w'') := by
    intro w' hb
    refine (of_any (NB7.below hb) (Nat.lt_of_lt_of_le hfW hb.size) (by have := HNB.out; omega)).mono ?_
    rintro e w'' ⟨ao, cap, rfl, hN, hb', hloc⟩
    exact ⟨_, rfl, ⟨ao, cap, rfl, hN, hloc⟩, hb'⟩
  have HP := hide BP
  have HQ := hide BQ
  have HS7 := hide S7
  have HL7 := hide L7
  have HNA7 := hide NA7
  have HNB7 := hide NB7
  have HNL7 := hide NL7
  clear BP BQ S7 L7 NA7 NB7 NL7
  go_upto_region 7 with fail
  refine wp_region_held_drew (S := fun wx => wx.cell? ⟨p, 0, none⟩ = some (.int .i64 ra) ∧ wx.cell? ⟨p, 1, none⟩ = some (.int .i64 ca) ∧ wx.cell? ⟨p, 2, none⟩ = some (.slice aa na cpa) ∧ wx.cell? ⟨q, 0, none⟩ = some (.int .i64 rb) ∧ wx.cell? ⟨q, 1, none⟩ = some (.int .i64 cb) ∧ wx.cell? ⟨q, 2, none⟩ = some (.slice ab nb cpb)) (by kernel_rfl) (HK7.out _ HB0.out) (fun hHeld => ?_)
  refine take_at (i := 0) (d := 66) (v := .agg #[.int .i64 ra, .int .i64 ca, .slice aa na cpa]) rfl rfl (by kernel_rfl) (by kernel_rfl) (by kernel_rfl) (fun _ _ _ h => h) (Or.inl ⟨by rfl, fun w' hSw => ?_⟩) hHeld ?_
  · obtain ⟨s0, s1, s2, s3, s4, s5⟩ := hSw
    go_simp
  simp only [List.setIfInBounds_toArray, List.set_cons_zero, List.set_cons_succ]
  refine take_at (i := 2) (d := 68) (v := .agg #[.int .i64 rb, .int .i64 cb, .slice ab nb cpb]) rfl rfl (by kernel_rfl) (by kernel_rfl) (by kernel_rfl) (fun _ _ _ h => h) (Or.inl ⟨by rfl, fun w' hSw => ?_⟩) hHeld ?_
  · obtain ⟨s0, s1, s2, s3, s4, s5⟩ := hSw
    go_simp
  simp only [List.setIfInBounds_toArray, List.set_cons_zero, List.set_cons_succ]
  refine pair_start (lst := fun c x y => #[true, Nat.ble 1 c, true, Nat.ble 2 c, x, y, false, false]) (lP := #[true, true, true, true, true, true, true, false]) (lQ := #[true, true, true, true, true, true, true, true]) (iA := 1) (iB := 3) (iX := 4) (iY := 5) (iP := 6) (iQ := 7) (dA := 67) (dB := 69) (dX := 10) (dY := 11) (fA := 11) (fB := 11) (vA := #[.agg #[.int .i64 ra, .int .i64 ca, .slice aa na cpa]]) (vB := #[.agg #[.int .i64 rb, .int .i64 cb, .slice ab nb cpb]]) (W := W) (RA := GX f ra ca na Za) (RB := GX f rb cb nb Zb) (ra := ra) (ca := ca) (rb := rb) (cb := cb) ?H (by kernel_rfl) rfl HB0.out (GX.stays _ _ _ _ _) (GX.stays _ _ _ _ _) HK7.out OFA.out OFB.out ?hend
  case H =>
    exact
      { d := ⟨Nat.lt_of_lt_of_eq (show 67 < 195 by decide) rfl, Nat.lt_of_lt_of_eq (show 69 < 195 by decide) rfl, Nat.lt_of_lt_of_eq (show 10 < 195 by decide) rfl, Nat.lt_of_lt_of_eq (show 11 < 195 by decide) rfl, by decide, by decide, by decide, by decide, by decide, by decide⟩
        oA := ⟨_, _, _, rfl, rfl, rfl, rfl, fun xA xB xX xY => by simp [st4, Act.eval]⟩
        oB := ⟨_, _, _, rfl, rfl, rfl, rfl, fun xA xB xX xY => by simp [st4, Act.eval]⟩
        fA := fun w => by kernel_rfl
        fB := fun w => by kernel_rfl
        oX := ⟨_, rfl, rfl, rfl, rfl⟩
        oY := ⟨_, rfl, rfl, rfl, rfl⟩
        oP := ⟨_, rfl, rfl, rfl, rfl⟩
        oQ := ⟨_, rfl, rfl, rfl, rfl⟩
        r0 := fun x y => by cases x <;> cases y <;> kernel_rfl
        r1 := fun x y => by cases x <;> cases y <;> kernel_rfl
        r2 := fun x y => by cases x <;> cases y <;> first | (intro h; cases h; done) | (intro _; kernel_rfl)
        rP := by kernel_rfl
        rQ := by kernel_rfl
        rE := by kernel_rfl
        sA := fun x y => by cases x <;> cases y <;> kernel_rfl
        sB := fun x y => by cases x <;> cases y <;> kernel_rfl
        sX := fun c y => by kernel_rfl
        sY := fun c x => by kernel_rfl
        sP := by kernel_rfl
        sQ := by kernel_rfl }
  case hend =>
  intro p' q' a1 n1 k1 a2 n2 k2 w7 GA GB X7 Y7 hne hlX hlY L7
  obtain ⟨_, _, ea, N1, _⟩ := GA
  obtain ⟨_, _, eb, N2, _⟩ := GB
  simp only [Value.agg.injEq, List.cons.injEq, Array.mk.injEq, Value.slice.injEq, and_true, true_and] at ea eb
  obtain ⟨e1, e2, e3⟩ := ea
  subst e1 e3
  obtain rfl := e2.symm
  obtain ⟨e1, e2, e3⟩ := eb
  subst e1 e3
  obtain rfl := e2.symm
  simp only [st4, List.setIfInBounds_toArray, List.set_cons_zero, List.set_cons_succ]
  have S7' := HS7.out.below L7 (Nat.le_refl _)
  have L7' := below_step HL7.out L7
  have NL7' := HNL7.out.below L7
  obtain ⟨ao, ko, w8, hr, NO8, hb8, _, _⟩ := copy_run (NL7'.alloc (.cells #[] 3)) (by have := S7'.ltf; simp; omega) HNL.out w7.heap.size
  have hb8' : Below w7.heap.size w7 w8 := below_step (below_alloc (Below.refl w7.heap.size w7) (.cells #[] 3)) hb8
  have R := hide (show RK w sb f p q p' q' ra ca rb cb (.slice aa na cpa) (.slice ab nb cpb) (.slice a1 na k1) (.slice a2 nb k2) (.slice ao nl ko) (.slice al nl cpl) na nb nl Za Zb Zl w8 from
    { sp := S7'.below hb8' (Nat.le_refl _)
      bp := (HP.out.below L7 (Nat.le_refl _)).below hb8' (Nat.le_refl _)
      bq := (HQ.out.below L7 (Nat.le_refl _)).below hb8' (Nat.le_refl _)
      cp := X7.below hb8' (Nat.le_refl _)
      cq := Y7.below hb8' (Nat.le_refl _)
      xa := (HNA7.out.below L7).below hb8'
      xb := (HNB7.out.below L7).below hb8'
      x1 := N1.below hb8'
      x2 := N2.below hb8'
      xo := NO8
      xl := NL7'.below hb8'
      bel := below_step L7' hb8'
      lf := hfw })
  have HR8 := hide hr
  clear HS7 HL7 HNA7 HNB7 HNL7 HP HQ OFA OFB HK7 HB0 hHeld N1 N2 X7 Y7 hne hlX hlY L7 S7' L7' NL7' hr NO8 hb8 hb8' hpq hfW
  have hn1 : na ≤ 140737488355328 := Nat.le_trans HNA.out (by decide)
  have hn2 : nb ≤ 140737488355328 := Nat.le_trans HNB.out (by decide)
  have hn3 : nl ≤ 140737488355328 := by have := HNL.out; omega
  have hn4 : na ≤ 1000 := Nat.le_trans HNA.out (by decide)
  obtain ⟨D, hDn, mP, mR⟩ := mul_both ra ca rb cb na nb Za Zb hn1 hn2
  obtain ⟨E, hEn, iP, iR⟩ := inverse_both ra ca na Za hn4
  obtain ⟨kk, ke, rP, rR⟩ := rank_both ra ca na Za hn4
  obtain ⟨T, hTn, tP, tR⟩ := turn_both ra ca na Za hn4
  obtain ⟨G, hGn, pP, pR⟩ := pick_both ra ca na nl Za Zl hn4 hn3
  have HM := hide (And.intro hDn (And.intro mP mR))
  have HI := hide (And.intro hEn (And.intro iP iR))
  have HRk := hide (And.intro rP rR)
  have HT := hide (And.intro hTn (And.intro tP tR))
  have HG := hide (And.intro hGn (And.intro pP pR))
  have HC := hide (And.intro hn1 (And.intro hn2 hn3))
  clear hDn mP mR hEn iP iR rP rR hTn tP tR hGn pP pR hn1 hn2 hn3 hn4 HNA HNB HNL
  have c0 := R.out.cp.cell0
  have c1 := R.out.cp.cell1
  have c2 := R.out.cp.cell2
  have d0 := R.out.cq.cell0
  have d1 := R.out.cq.cell1
  have d2 := R.out.cq.cell2
  go_wp2_with (at_builtin; refine Lib.wpList_append_run _ rfl _ _ _ _ rfl _ _ rfl rfl _ _ HR8.out ?_)
  clear HR8
  refine (HM.out.2.1 _ _ _ _ _ R.out.sp R.out.x1 R.out.x2).mono ?_
  rintro e w9 ⟨v9, rfl, N9, S9, g9⟩
  have R9 := hide ((R.out.go S9 g9).alloc (.cells #[.int .i64 D.r, .int .i64 D.c, v9] 24))
  obtain ⟨a9, k9, rfl⟩ := N9.shp
  have X9 := hide (Bx.new w9 D.r D.c (.slice a9 D.n k9))
  have M9 := hide (N9.alloc (.cells #[.int .i64 D.r, .int .i64 D.c, (.slice a9 D.n k9)] 24))
  clear R g9 N9 S9
  clear c0 c1 c2
  clear d0 d1 d2
  have c0 := R9.out.bp.cell0
  have c1 := R9.out.bp.cell1
  have c2 := R9.out.bp.cell2
  have d0 := R9.out.bq.cell0
  have d1 := R9.out.bq.cell1
  have d2 := R9.out.bq.cell2
  go_wp2_with fail
  refine (HM.out.2.2 _ _ _ _ R9.out.sp.ltf R9.out.xa R9.out.xb).mono ?_
  rintro e w10 ⟨v10, rfl, N10, hb10⟩
  obtain ⟨a10, k10, rfl⟩ := N10.shp
  have R10 := hide ((R9.out.below hb10).alloc (.cells #[.int .i64 D.r, .int .i64 D.c, (.slice a10 D.n k10)] 29))
  have X10 := hide ((X9.out.below hb10 (Nat.le_refl _)).alloc (.cells #[.int .i64 D.r, .int .i64 D.c, (.slice a10 D.n k10)] 29))
  have M10 := hide ((M9.out.below hb10).alloc (.cells #[.int .i64 D.r, .int .i64 D.c, (.slice a10 D.n k10)] 29))
  have Y10 := hide (Br.new w10 D.r D.c (.slice a10 D.n k10))
  have L10 := hide (N10.alloc (.cells #[.int .i64 D.r, .int .i64 D.c, (.slice a10 D.n k10)] 29))
  clear R9 X9 M9 N10 hb10
  clear c0 c1 c2
  clear d0 d1 d2
  have x0 := X10.out.cell0
  have x1 := X10.out.cell1
  have x2 := X10.out.cell2
  have y0 := Y10.out.cell0
  have y1 := Y10.out.cell1
  have y2 := Y10.out.cell2
  go_wp2_with fail
  refine (same_any M10.out L10.out HM.out.1).mono ?_
  rintro e w11 ⟨rfl, hb11⟩
  have R := hide (R10.out.below hb11)
  clear R10 X10 M10 Y10 L10 hb11 x0 x1 x2 y0 y1 y2
  have c0 := R.out.cp.cell0
  have c1 := R.out.cp.cell1
  have c2 := R.out.cp.cell2
  go_wp2_with fail
  refine (HI.out.2.1 _ _ _ _ R.out.sp R.out.x1).mono ?_
  rintro e w12 ⟨v9, rfl, N9, S9, g9⟩
  have R9 := hide ((R.out.go S9 g9).alloc (.cells #[.int .i64 E.r, .int .i64 E.c, v9] 24))
  obtain ⟨a9, k9, rfl⟩ := N9.shp
  have X9 := hide (Bx.new w12 E.r E.c (.slice a9 E.n k9))
  have M9 := hide (N9.alloc (.cells #[.int .i64 E.r, .int .i64 E.c, (.slice a9 E.n k9)] 24))
  clear R g9 N9 S9
  clear c0 c1 c2
  have c0 := R9.out.bp.cell0
  have c1 := R9.out.bp.cell1
  have c2 := R9.out.bp.cell2
  go_wp2_with fail
  refine (HI.out.2.2 _ _ _ R9.out.sp.ltf R9.out.xa).mono ?_
  rintro e w13 ⟨v10, rfl, N10, hb10⟩
  obtain ⟨a10, k10, rfl⟩ := N10.shp
  have R10 := hide ((R9.out.below hb10).alloc (.cells #[.int .i64 E.r, .int .i64 E.c, (.slice a10 E.n k10)] 29))
  have X10 := hide ((X9.out.below hb10 (Nat.le_refl _)).alloc (.cells #[.int .i64 E.r, .int .i64 E.c, (.slice a10 E.n k10)] 29))
  have M10 := hide ((M9.out.below hb10).alloc (.cells #[.int .i64 E.r, .int .i64 E.c, (.slice a10 E.n k10)] 29))
  have Y10 := hide (Br.new w13 E.r E.c (.slice a10 E.n k10))
  have L10 := hide (N10.alloc (.cells #[.int .i64 E.r, .int .i64 E.c, (.slice a10 E.n k10)] 29))
  clear R9 X9 M9 N10 hb10
  clear c0 c1 c2
  have x0 := X10.out.cell0
  have x1 := X10.out.cell1
  have x2 := X10.out.cell2
  have y0 := Y10.out.cell0
  have y1 := Y10.out.cell1
  have y2 := Y10.out.cell2
  go_wp2_with fail
  refine (same_any M10.out L10.out HI.out.1).mono ?_
  rintro e w14 ⟨rfl, hb11⟩
  have R := hide (R10.out.below hb11)
  clear R10 X10 M10 Y10 L10 hb11 x0 x1 x2 y0 y1 y2
  have c0 := R.out.cp.cell0
  have c1 := R.out.cp.cell1
  have c2 := R.out.cp.cell2
  go_wp2_with fail
  refine (HRk.out.1 _ _ _ _ R.out.sp R.out.x1).mono ?_
  rintro e w15 ⟨rfl, S9, g9⟩
  have R9 := hide (R.out.go S9 g9)
  clear R S9 g9 c0 c1 c2
  have c0 := R9.out.bp.cell0
  have c1 := R9.out.bp.cell1
  have c2 := R9.out.bp.cell2
  go_wp2_with fail
  refine (HRk.out.2 _ _ _ R9.out.xa).mono ?_
  rintro e w16 ⟨rfl, hb10⟩
  have R := hide (R9.out.below hb10)
  clear R9 hb10 c0 c1 c2
  go_upto_region 19 with fail
  have HK : Hid (∀ w', Below w16.heap.size w16 w' → w'.cell? ⟨p', 0, none⟩ = some (.int .i64 ra) ∧ w'.cell? ⟨p', 1, none⟩ = some (.int .i64 ca) ∧ w'.cell? ⟨p', 2, none⟩ = some (.slice a1 na k1) ∧ w'.cell? ⟨p, 0, none⟩ = some (.int .i64 ra) ∧ w'.cell? ⟨p, 1, none⟩ = some (.int .i64 ca) ∧ w'.cell? ⟨p, 2, none⟩ = some (.slice aa na cpa)) := fun w' hb => ⟨((R.out.below hb).cp).cell0, ((R.out.below hb).cp).cell1, ((R.out.below hb).cp).cell2, ((R.out.below hb).bp).cell0, ((R.out.below hb).bp).cell1, ((R.out.below hb).bp).cell2⟩
  have HB0 : Hid (Below w16.heap.size w16 w16.drew) := (Below.refl _ _).drew
  go_cut [140] (fun u wx => u = .bool false ∧ Below w16.heap.size w16 wx)
  case first =>
    go_region_held_law (fun wx => wx.cell? ⟨p', 0, none⟩ = some (.int .i64 ra) ∧ wx.cell? ⟨p', 1, none⟩ = some (.int .i64 ca) ∧ wx.cell? ⟨p', 2, none⟩ = some (.slice a1 na k1) ∧ wx.cell? ⟨p, 0, none⟩ = some (.int .i64 ra) ∧ wx.cell? ⟨p, 1, none⟩ = some (.int .i64 ca) ∧ wx.cell? ⟨p, 2, none⟩ = some (.slice aa na cpa)) (first | with_reducible exact HK.out _ HB0.out | with_reducible exact HK.out _ (by assumption))
      (first
        | (go_at_call 19; refine (check_any (R.out.below HB0.out).x1 HC.out.1).mono ?_; rintro e wa ⟨rfl, hba⟩; have hbA := below_step HB0.out hba)
        | (go_at_call 20; refine (refCheck_any (R.out.below (by assumption)).xa HC.out.1).mono ?_; rintro e wb ⟨rfl, hbb⟩; have hbB := below_step hbA hbb))
    all_goals
      go_wp2
      go_meet
      case rel => exact ⟨rfl, by assumption⟩
  case rest =>
  obtain ⟨rfl, hbc⟩ := hcut
  obtain ⟨w17, hw17⟩ : ∃ w17, w17 = wc := ⟨_, rfl⟩
  rw [← hw17] at hbc ⊢
  have R17 := hide (R.out.below hbc)
  clear R HK HB0 hbc hw17
  have R := R17
  clear R17
  have c0 := R.out.cp.cell0
  have c1 := R.out.cp.cell1
  have c2 := R.out.cp.cell2
  go_wp2_with fail
  refine (HT.out.2.1 _ _ _ R.out.sp.ltf R.out.x1).mono ?_
  rintro e w18 ⟨v9, rfl, N9, g9⟩
  have R9 := hide ((R.out.below g9).alloc (.cells #[.int .i64 T.r, .int .i64 T.c, v9] 24))
  obtain ⟨a9, k9, rfl⟩ := N9.shp
  have X9 := hide (Bx.new w18 T.r T.c (.slice a9 T.n k9))
  have M9 := hide (N9.alloc (.cells #[.int .i64 T.r, .int .i64 T.c, (.slice a9 T.n k9)] 24))
  clear R g9 N9
  clear c0 c1 c2
  have c0 := R9.out.bp.cell0
  have c1 := R9.out.bp.cell1
  have c2 := R9.out.bp.cell2
  go_wp2_with fail
  refine (HT.out.2.2 _ _ _ R9.out.sp.ltf R9.out.xa).mono ?_
  rintro e w19 ⟨v10, rfl, N10, hb10⟩
  obtain ⟨a10, k10, rfl⟩ := N10.shp
  have R10 := hide ((R9.out.below hb10).alloc (.cells #[.int .i64 T.r, .int .i64 T.c, (.slice a10 T.n k10)] 29))
  have X10 := hide ((X9.out.below hb10 (Nat.le_refl _)).alloc (.cells #[.int .i64 T.r, .int .i64 T.c, (.slice a10 T.n k10)] 29))
  have M10 := hide ((M9.out.below hb10).alloc (.cells #[.int .i64 T.r, .int .i64 T.c, (.slice a10 T.n k10)] 29))
  have Y10 := hide (Br.new w19 T.r T.c (.slice a10 T.n k10))
  have L10 := hide (N10.alloc (.cells #[.int .i64 T.r, .int .i64 T.c, (.slice a10 T.n k10)] 29))
  clear R9 X9 M9 N10 hb10
  clear c0 c1 c2
  have x0 := X10.out.cell0
  have x1 := X10.out.cell1
  have x2 := X10.out.cell2
  have y0 := Y10.out.cell0
  have y1 := Y10.out.cell1
  have y2 := Y10.out.cell2
  go_wp2_with fail
  refine (same_any M10.out L10.out HT.out.1).mono ?_
  rintro e w20 ⟨rfl, hb11⟩
  have R := hide (R10.out.below hb11)
  clear R10 X10 M10 Y10 L10 hb11 x0 x1 x2 y0 y1 y2
  have c0 := R.out.cp.cell0
  have c1 := R.out.cp.cell1
  have c2 := R.out.cp.cell2
  go_wp2_with fail
  refine (HG.out.2.1 _ _ _ _ R.out.sp.ltf R.out.x1 R.out.xo).mono ?_
  rintro e w21 ⟨v9, rfl, N9, g9⟩
  have R9 := hide ((R.out.below g9).alloc (.cells #[.int .i64 G.r, .int .i64 G.c, v9] 24))
  obtain ⟨a9, k9, rfl⟩ := N9.shp
  have X9 := hide (Bx.new w21 G.r G.c (.slice a9 G.n k9))
  have M9 := hide (N9.alloc (.cells #[.int .i64 G.r, .int .i64 G.c, (.slice a9 G.n k9)] 24))
  clear R g9 N9
  clear c0 c1 c2
  have c0 := R9.out.bp.cell0
  have c1 := R9.out.bp.cell1
  have c2 := R9.out.bp.cell2
  go_wp2_with fail
  refine (HG.out.2.2 _ _ _ _ R9.out.sp.ltf R9.out.xa R9.out.xl).mono ?_
  rintro e w22 ⟨v10, rfl, N10, hb10⟩
  obtain ⟨a10, k10, rfl⟩ := N10.shp
  have R10 := hide ((R9.out.below hb10).alloc (.cells #[.int .i64 G.r, .int .i64 G.c, (.slice a10 G.n k10)] 29))
  have X10 := hide ((X9.out.below hb10 (Nat.le_refl _)).alloc (.cells #[.int .i64 G.r, .int .i64 G.c, (.slice a10 G.n k10)] 29))
  have M10 := hide ((M9.out.below hb10).alloc (.cells #[.int .i64 G.r, .int .i64 G.c, (.slice a10 G.n k10)] 29))
  have Y10 := hide (Br.new w22 G.r G.c (.slice a10 G.n k10))
  have L10 := hide (N10.alloc (.cells #[.int .i64 G.r, .int .i64 G.c, (.slice a10 G.n k10)] 29))
  clear R9 X9 M9 N10 hb10
  clear c0 c1 c2
  have x0 := X10.out.cell0
  have x1 := X10.out.cell1
  have x2 := X10.out.cell2
  have y0 := Y10.out.cell0
  have y1 := Y10.out.cell1
  have y2 := Y10.out.cell2
  go_wp2_with fail
  refine (same_any M10.out L10.out HG.out.1).mono ?_
  rintro e w23 ⟨rfl, hb11⟩
  have R := hide (R10.out.below hb11)
  clear R10 X10 M10 Y10 L10 hb11 x0 x1 x2 y0 y1 y2
  have c0 := R.out.cp.cell0
  have c1 := R.out.cp.cell1
  have c2 := R.out.cp.cell2
  have d0 := R.out.bp.cell0
  have d1 := R.out.bp.cell1
  have d2 := R.out.bp.cell2
  go_wp2_with fail
  refine (same_any R.out.x1 R.out.xa HC.out.1).mono ?_
  rintro e w30 ⟨rfl, hb11⟩
  have R9 := hide (R.out.below hb11)
  clear R hb11 c0 c1 c2 d0 d1 d2
  have c0 := R9.out.cq.cell0
  have c1 := R9.out.cq.cell1
  have c2 := R9.out.cq.cell2
  have d0 := R9.out.bq.cell0
  have d1 := R9.out.bq.cell1
  have d2 := R9.out.bq.cell2
  go_wp2_with fail
  refine (same_any R9.out.x2 R9.out.xb HC.out.2.1).mono ?_
  rintro e w31 ⟨rfl, hb11⟩
  have R := hide (R9.out.below hb11)
  clear R9 hb11 c0 c1 c2 d0 d1 d2
  go_wp2_with fail
  refine (sameInts_any R.out.xo R.out.xl HC.out.2.2).mono ?_
  rintro e w32 ⟨rfl, mm, rfl⟩
  go_wp2
  go_ret
  exact ⟨rfl, below_drew R.out.bel mm⟩
end Go.Proofs.Ythedeggggbdibaa
