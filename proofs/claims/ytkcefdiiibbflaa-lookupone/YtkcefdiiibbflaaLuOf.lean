/-
  Lookup: the items of an id.
-/
import Derived.Test.YtkcefdiiibbflaaLuGet
import Derived.Deep.QuietTactic
import Derived.BigQuiet
namespace Go.Proofs.Ytkcefdiiibbflaa
open Go.RowKit Go.Lib
theorem cI_id {x y : IT} (h : lI x y = true) : cS x.id y.id ≤ 0 := by
  have h2 : cI x y < 0 := by simpa [lI] using h
  rw [cI, thenC] at h2
  split at h2 <;> omega
theorem mono1 {B : List IT} (h : SS B) (q : ByteArray) : B.Pairwise fun x y => (!decide (cS x.id q < 0)) = true → (!decide (cS y.id q < 0)) = true := List.Pairwise.imp (fun {x y} hxy h => by
  simp only [Bool.not_eq_true', decide_eq_false_iff_not] at h ⊢
  have h1 := cI_id hxy
  have h2 := cm_cS.anti x.id q
  have h3 := cm_cS.anti y.id q
  have h4 := cm_cS.trans q x.id y.id (by omega) h1
  omega) h
theorem mono2 {B : List IT} (h : SS B) (q : ByteArray) : B.Pairwise fun x y => (!decide (cS x.id q < 0) && !decide (x.id = q)) = true → (!decide (cS y.id q < 0) && !decide (y.id = q)) = true := List.Pairwise.imp (fun {x y} hxy h => by
  simp only [Bool.and_eq_true, Bool.not_eq_true', decide_eq_false_iff_not] at h ⊢
  have h1 := cI_id hxy
  have h2 := cm_cS.anti x.id q
  have h3 := cm_cS.anti y.id q
  have h4 := cm_cS.trans q x.id y.id (by omega) h1
  refine ⟨by omega, fun e => h.2 ?_⟩
  rw [e] at h1
  exact (cS_zero _ _).1 (by omega)) h
theorem mem_part {B : List IT} {n m : Nat} {x : IT} : x ∈ (B.take m).drop n ↔ ∃ i, n ≤ i ∧ i < m ∧ B[i]? = some x := by
  rw [List.mem_iff_getElem?]
  constructor
  · rintro ⟨i, hi⟩
    rw [List.getElem?_drop, List.getElem?_take] at hi
    split at hi
    · exact ⟨n + i, by omega, by assumption, hi⟩
    · cases hi
  · rintro ⟨i, h1, h2, h3⟩
    refine ⟨i - n, ?_⟩
    rw [List.getElem?_drop, List.getElem?_take, if_pos (by omega), show n + (i - n) = i by omega]
    exact h3
theorem lo_mono {p1 p2 : IT → Bool} (h : ∀ x, p2 x = true → p1 x = true) : ∀ B : List IT, lo p1 B ≤ lo p2 B
  | [] => Nat.le_refl _
  | x :: r => by
    have ih := lo_mono h r
    by_cases h1 : p1 x = true
    · have e : lo p1 (x :: r) = 0 := by simp [lo, h1]
      omega
    · have h2 : ¬ p2 x = true := fun e => h1 (h x e)
      have e1 : lo p1 (x :: r) = lo p1 r + 1 := by simp [lo, h1]
      have e2 : lo p2 (x :: r) = lo p2 r + 1 := by simp [lo, h2]
      omega
theorem below_dq (w : World) (q : Nat) : Below w.heap.size w (w.drewN q) := ⟨rfl, rfl, rfl, Nat.le_refl _, fun _ _ => rfl⟩
/-- Those of an id lie together. -/
theorem of_part {B : List IT} (h : SS B) (q : ByteArray) : (B.take (lo (fun x => !decide (cS x.id q < 0) && !decide (x.id = q)) B)).drop (lo (fun x => !decide (cS x.id q < 0)) B) = B.filter (fun x => decide (x.id = q)) := by
  have A1 := lo_at _ (mono1 h q)
  have A2 := lo_at _ (mono2 h q)
  generalize lo (fun x => !decide (cS x.id q < 0) && !decide (x.id = q)) B = m2 at A2 ⊢
  generalize lo (fun x => !decide (cS x.id q < 0)) B = m1 at A1 ⊢
  refine ss_ext (List.Pairwise.sublist ((List.drop_sublist _ _).trans (List.take_sublist _ _)) h) (h.filter _) fun x => ?_
  rw [mem_part, List.mem_filter]
  constructor
  · rintro ⟨i, h1, h2, hi⟩
    refine ⟨List.mem_of_getElem? hi, ?_⟩
    have a1 := A1 i x hi
    have a2 := A2 i x hi
    have e1 : decide (m1 ≤ i) = true := decide_eq_true h1
    have e2 : decide (m2 ≤ i) = false := decide_eq_false (by omega)
    rw [e1] at a1
    rw [e2, a1] at a2
    simpa using a2
  · rintro ⟨hx, hq⟩
    obtain ⟨i, hi⟩ := List.mem_iff_getElem?.1 hx
    have a1 := A1 i x hi
    have a2 := A2 i x hi
    have hq' : x.id = q := by simpa using hq
    have h0 : cS x.id q = 0 := (cS_zero _ _).2 hq'
    have e1 : decide (cS x.id q < 0) = false := decide_eq_false (by omega)
    rw [e1, Bool.not_false] at a1
    rw [hq, Bool.not_true, Bool.and_false] at a2
    have a1' : m1 ≤ i := by simpa using a1.symm
    have a2' : ¬ m2 ≤ i := by simpa using a2.symm
    exact ⟨i, a1', by omega, hi⟩
/-- The first byte of a text. -/
def qb (q : ByteArray) : Nat := (q.data.toList.headD 0).toNat
theorem bk_filter (L : List IT) (q : ByteArray) : (bkL L (qb q)).filter (fun x => decide (x.id = q)) = L.filter (fun x => decide (x.id = q)) := by
  rw [bkL, List.filter_filter]
  congr 1
  funext x
  by_cases h : x.id = q
  · simp [h, fb, qb]
  · simp [h]
theorem qb_run {q : ByteArray} (h : 0 < q.size) (w : World) : (Instr.index 9 (.string q) (.int .i64 0)).run Try.prog w = .ok (.int .u8 (qb q : Nat)) w := by
  have hu := Try.underlying9
  rw [run_index_string w 9 q .i64 0 hu, dif_pos ⟨by omega, by omega⟩]
  obtain ⟨⟨l⟩⟩ := q
  cases l with
  | nil => exact absurd (show 0 < 0 from h) (by omega)
  | cons a r => rfl
section
variable {R : Nat → Prop} {w : World} {tb : Nat} {L : List IT}
set_option maxRecDepth 100000 in
set_option maxHeartbeats 1600000 in
theorem of_any (h : TB R w tb L) (hn : L.length ≤ 1000000) (q : ByteArray) :
    Calls Try.prog 28 #[.pointer (some ⟨tb, 0, none⟩), .string q] w fun e w' => ∃ v, e = .returned v ∧ LS it6 6 R w' v (L.filter fun x => decide (x.id = q)) ∧ Below w.heap.size w w' := by
  obtain ⟨U, hU⟩ : ∃ U, U = w.alloc (.cells #[.string q] 9) := ⟨_, rfl⟩
  obtain ⟨z, hz⟩ : ∃ z, z = w.heap.size := ⟨_, rfl⟩
  have hB : Below w.heap.size w U := by rw [hU]; exact (Below.refl _ _).alloc (Nat.le_refl _) _
  have k0 : SBT U z q := by rw [hU, hz]; exact heap_alloc_new w _
  have z0 := (cell1 k0).1
  have hT := h.bel hB
  obtain ⟨vs, h1, h2, h3, h4⟩ := hT.ex
  by_cases hq : q.size = 0
  · have he : L.filter (fun x => decide (x.id = q)) = [] := by
      rw [List.filter_eq_nil_iff]
      intro x hx
      have := h.ok x hx
      simp only [decide_eq_true_eq]
      rintro rfl
      omega
    have hq0 : q = ⟨#[]⟩ := by
      obtain ⟨⟨l⟩⟩ := q
      cases l with
      | nil => rfl
      | cons a r => exact absurd (show (a :: r).length = 0 from hq) (by simp)
    rw [he]
    subst hq0
    have HU := hide hU
    have HZ := hide hz
    have HB := hide hB
    clear hU hz hB k0 hT h1 h2 h3 h4 h he hq
    go_enter Try.func28, Try.ntmps28
    go_upto_region 1 with fail
    rw [← HU.out, ← HZ.out]
    go_wp2
    go_ret
    exact ⟨_, rfl, ⟨none, 0, rfl, fun _ => rfl, .inl rfl⟩, HB.out⟩
  · have hq1 : 0 < q.size := by omega
    have hqe : q.toList.isEmpty = false := by
      rw [bytes_list]
      exact List.isEmpty_eq_false_iff.2 (fun e => hq (by have := congrArg List.length e; simpa using this))
    have hqn : ¬ q.toList = [] := fun e => by rw [e] at hqe; cases hqe
    have hix := fun w => qb_run hq1 w
    have hb : qb q < 256 := by rw [qb]; exact UInt8.toNat_lt _
    obtain ⟨v, hv⟩ : ∃ v, vs[qb q]? = some v := ⟨_, List.getElem?_eq_getElem (by omega)⟩
    have hO := (h3 _ v hv).1
    have hOb := (h3 _ v hv).2.2
    have cv : U.cell? ⟨tb, qb q, none⟩ = some v := by rw [cell_of_row U _ _ _ _ _ h1]; simpa using hv
    have hSB : SS (bkL L (qb q)) := h.ss.filter _
    have hbl : (bkL L (qb q)).length ≤ 1000000 := Nat.le_trans (List.length_filter_le _ _) hn
    have hLS : LS it6 6 R U v (bkL L (qb q)) := hO.ls it6_len hOb
    have hpart := of_part hSB q
    rw [bk_filter] at hpart
    have HF1 := hide (fun W (hW : Below U.heap.size U W) => from_any (of1_pr z q) (hLS.bel hW) (by omega) (mono1 hSB q) (k0.bel hW))
    have HF2 := hide (fun W (hW : Below U.heap.size U W) => from_any (of2_pr z q) (hLS.bel hW) (by omega) (mono2 hSB q) (k0.bel hW))
    have hm12 := lo_mono (p1 := fun x => !decide (cS x.id q < 0)) (p2 := fun x => !decide (cS x.id q < 0) && !decide (x.id = q)) (fun x hx => by simp only [Bool.and_eq_true] at hx; exact hx.1) (bkL L (qb q))
    have hl1 := lo_le (fun x => !decide (cS x.id q < 0)) (bkL L (qb q))
    have hl2 := lo_le (fun x => !decide (cS x.id q < 0) && !decide (x.id = q)) (bkL L (qb q))
    generalize lo (fun x => !decide (cS x.id q < 0)) (bkL L (qb q)) = m1 at *
    generalize lo (fun x => !decide (cS x.id q < 0) && !decide (x.id = q)) (bkL L (qb q)) = m2 at *
    obtain ⟨B, hBk⟩ : ∃ B, B = bkL L (qb q) := ⟨_, rfl⟩
    rw [← hBk] at hO hSB hbl hLS hpart hl1 hl2
    generalize qb q = b0 at *
    obtain ⟨a, c, hvv, hlc, hcm⟩ := hO.len
    have hmf : ∀ (fn : Fn) (first cap : Array Value) (w : World), (Instr.makeFunc fn first cap).run Try.prog w = .ok (.func fn first cap) w := fun _ _ _ _ => rfl
    have HU := hide hU
    have HZ := hide hz
    have HB := hide hB
    have HP := hide (And.intro hpart (And.intro hl1 (And.intro hl2 (And.intro hO (And.intro hOb hm12)))))
    subst hvv
    have hb1 : (b0 : Int) < 256 := by omega
    have hb2 : (0 : Int) ≤ (b0 : Int) := by omega
    clear hU hz hB hT h1 h2 h3 h4 h hq hq1 hv hO hOb hSB hbl hLS hpart hl1 hl2 hBk hn k0
    go_enter Try.func28, Try.ntmps28
    go_upto_region 1 with fail
    rw [← HU.out, ← HZ.out]
    go_wp2
    go_quiet (fail)
    generalize hU2 : World.drewN U _ = U2
    have hB2 : Below U.heap.size U U2 := by rw [← hU2]; exact below_dq _ _
    have HB2 := hide hB2
    have H1 := hide (HF1.out U2 hB2)
    clear hB2 hU2
    go_wp2_with fail
    refine H1.out.mono ?_
    rintro e U3 ⟨rfl, hB3⟩
    have HB3 := hide (below_step HB2.out hB3)
    have H2 := hide (HF2.out U3 HB3.out)
    clear hB3
    go_wp2_with fail
    refine H2.out.mono ?_
    rintro e U4 ⟨rfl, hB4⟩
    have HB4 := hide (below_step HB3.out hB4)
    clear hB4
    obtain ⟨hpart, hl1, hl2, hO, hOb, hm12⟩ := HP.out
    rcases ow_sg hO with ⟨hB0, hv⟩ | ⟨g, cap, hv, hnc, hcc, _, hSG⟩
    · injection hv with e1 e2 e3
      have hm2 : m2 = 0 := by omega
      have hm1 : m1 = 0 := by omega
      subst e1 e3 hm2 hm1
      rw [e2]
      have hsl : ∀ w : World, (Instr.slice 46 (.slice none 0 0) (some (.int .i64 0)) (some (.int .i64 0)) none).run Try.prog w = .ok (.slice none 0 0) w := fun w => by
        rw [run_slice_lh w 46 none 0 0 undL .i64 .i64 0 0 (by omega) (by omega) (by omega), szL]
        simp [Result.andThen, sliced]
      have HE : Hid (LS it6 6 R U4 (.slice none 0 0) (L.filter fun x => decide (x.id = q)) ∧ Below w.heap.size w U4) := by
        refine hide ⟨?_, below_step HB.out HB4.out⟩
        rw [← hpart, hB0]
        exact ⟨none, 0, rfl, fun _ => rfl, .inl rfl⟩
      clear hpart hl1 hl2 hO hOb hm12 hB0 e2
      go_wp2
      go_ret
      exact ⟨_, rfl, HE.out⟩
    · injection hv with e1 e2 e3
      subst e1 e3
      obtain ⟨y, hsl, hy⟩ := sl_lh (g := g) (o := 0) (n := B.length) (c := c) (k := m1) (h := m2) hm12 (by omega)
      have HE : Hid (LS it6 6 R U4 (.slice (some ⟨g, y, none⟩) (m2 - m1) (c - m1)) (L.filter fun x => decide (x.id = q)) ∧ Below w.heap.size w U4) := by
        refine hide ⟨?_, below_step HB.out HB4.out⟩
        rw [← hpart]
        have hFl : ((B.take m2).drop m1).length = m2 - m1 := by rw [List.length_drop, List.length_take]; omega
        have hS4 := hSG.bel HB4.out
        refine ⟨_, _, by rw [hFl], (fun e => by cases e), ?_⟩
        by_cases h0 : m1 = m2
        · exact .inl (List.length_eq_zero_iff.1 (by omega))
        · refine .inr ⟨g, y, rfl, hOb g rfl, hS4.blk.lt, fun i x hx j u hu => ?_⟩
          rw [hy (by omega)]
          exact ((hS4.take m2).drop (n := m1) (by rw [List.length_take]; omega)).at hx j u hu
      clear hpart hl1 hl2 hO hOb hm12 e2 hnc hcc hSG hy
      go_wp2
      go_ret
      exact ⟨_, rfl, HE.out⟩
end
end Go.Proofs.Ytkcefdiiibbflaa
