/-
  Lookup: a pack's items are dropped from all lists.
-/
import Derived.Test.YtkcefdiiibbflaaLuDrop
namespace Go.Proofs.Ytkcefdiiibbflaa
open Go.RowKit Go.Lib
theorem TV.gs {R p : Nat → Prop} {w w' : World} {tb : Nat} {vs : List Value} {L : List IT} (h : TV R w tb vs L) (hg : Gs p w w') (hp : ∀ i, R i ∨ i = tb → ¬ p i) : TV R w' tb vs L :=
  ⟨(hg.block tb (lt_of_block h.1) (hp tb (.inr rfl))).trans h.1, h.2.1, fun i v hv => ⟨(h.2.2.1 i v hv).1.gs hg (fun b hb => hp b (.inl ((h.2.2.1 i v hv).2.2 b hb))), (h.2.2.1 i v hv).2⟩, h.2.2.2⟩
theorem TV.bel {R : Nat → Prop} {w w' : World} {tb : Nat} {vs : List Value} {L : List IT} (h : TV R w tb vs L) (hb : Below w.heap.size w w') : TV R w' tb vs L := h.gs (Gs.of_below (fun _ => False) hb) (fun _ _ h => h)
theorem TV.mono {R R' : Nat → Prop} {w : World} {tb : Nat} {vs : List Value} {L : List IT} (h : TV R w tb vs L) (hR : ∀ i, R i → R' i) : TV R' w tb vs L :=
  ⟨h.1, h.2.1, fun i v hv => ⟨(h.2.2.1 i v hv).1, (h.2.2.1 i v hv).2.1, fun b hb => hR b ((h.2.2.1 i v hv).2.2 b hb)⟩, h.2.2.2⟩
/-- With the first so many lists gone through. -/
def drJ (L : List IT) (q : ByteArray) (j : Nat) : List IT := L.filter fun x => !(decide (fb x < j) && decide (x.pk = q))
theorem drJ_zero (L : List IT) (q : ByteArray) : drJ L q 0 = L := by
  rw [drJ, List.filter_eq_self]
  intro x _
  simp
theorem drJ_all (L : List IT) (q : ByteArray) : drJ L q 256 = L.filter fun x => !decide (x.pk = q) := by
  rw [drJ]
  congr 1
  funext x
  simp [fb_lt x]
theorem drJ_other (L : List IT) (q : ByteArray) {i j : Nat} (h : i ≠ j) : bkL (drJ L q (j + 1)) i = bkL (drJ L q j) i := by
  rw [bkL, bkL, drJ, drJ, List.filter_filter, List.filter_filter]
  congr 1
  funext x
  by_cases h1 : fb x = i
  · have h2 : fb x < j + 1 ↔ fb x < j := by omega
    simp [h1, show (i < j + 1 ↔ i < j) by omega]
  · have h3 : (fb x == i) = false := by simpa using h1
    simp [h3]
theorem drJ_this (L : List IT) (q : ByteArray) (j : Nat) : bkL (drJ L q (j + 1)) j = (bkL (drJ L q j) j).filter fun x => !decide (x.pk = q) := by
  rw [bkL, bkL, drJ, drJ, List.filter_filter, List.filter_filter, List.filter_filter]
  congr 1
  funext x
  by_cases h1 : fb x = j
  · simp [h1]
  · have h3 : (fb x == j) = false := by simpa using h1
    simp [h3]
set_option maxRecDepth 100000 in
set_option maxHeartbeats 800000 in
theorem drop_any {R : Nat → Prop} {w : World} {tb : Nat} {L : List IT} (h : TB R w tb L) (hn : L.length ≤ 1000000) (q : ByteArray) :
    Calls Try.prog 18 #[.pointer (some ⟨tb, 0, none⟩), .string q] w fun e w' => e = .returned (.int .i64 (L.length - (L.filter fun x => !decide (x.pk = q)).length : Nat)) ∧ TB R w' tb (L.filter fun x => !decide (x.pk = q)) ∧ Gs R w w' := by
  obtain ⟨U, hU⟩ : ∃ U, U = w.alloc (.cells #[.string q] 9) := ⟨_, rfl⟩
  obtain ⟨z, hz⟩ : ∃ z, z = w.heap.size := ⟨_, rfl⟩
  have hB : Below w.heap.size w U := by rw [hU]; exact (Below.refl _ _).alloc (Nat.le_refl _) _
  have k0 : SBT U z q := by rw [hU, hz]; exact heap_alloc_new w _
  have hT := h.bel hB
  obtain ⟨vs, hTV⟩ := hT.ex
  have hTV : TV R U tb vs L := hTV
  have HLen := hide (len_any hT hn)
  have hr := range_of hTV.1
  have hi : (Try.prog.info? 47).map (·.size) = some vs.length := by rw [hTV.2.1]; exact Try.sizeTb
  have HH := hide (And.intro h (And.intro hTV (And.intro hB k0)))
  have hRz : Hid (∀ i, R i → i ≠ z ∧ i < w.heap.size) := hide fun i hi => by have := h.lt i hi; omega
  have HU := hide hU
  have HZ := hide hz
  have hmf : ∀ (fn : Fn) (first cap : Array Value) (w : World), (Instr.makeFunc fn first cap).run Try.prog w = .ok (.func fn first cap) w := fun _ _ _ _ => rfl
  obtain ⟨n, hnn⟩ : ∃ n, n = L.length := ⟨_, rfl⟩
  have HN := hide hnn
  rw [← hnn] at HLen hn ⊢
  clear hU hz hB k0 hT hTV h hnn
  go_enter Try.func18, Try.ntmps18
  go_upto_region 1 with fail
  rw [← HU.out, ← HZ.out]
  go_wp2_with fail
  refine HLen.out.mono ?_
  rintro e U1 ⟨rfl, hU1⟩
  subst hU1
  go_wp2_with (refine wpList_load_mid rfl 47 _ rfl tb 0 rfl vs _ hr Try.underlying47 rfl hi ?_)
  go_loopw [14] (fun a wr => ∃ (j : Nat) (us : List Value), j ≤ 256 ∧ a = .int .i64 (j : Int) ∧ TV R wr tb us (drJ L q j) ∧ (∀ i, j ≤ i → us[i]? = vs[i]?) ∧ Gs R U1 wr ∧ SBT wr z q) (fun a _ => 256 - (RowKit.intOf a).toNat)
  case atStart => exact ⟨0, vs, Nat.zero_le _, rfl, by rw [drJ_zero]; exact HH.out.2.1, fun _ _ => rfl, Gs.refl _ _, HH.out.2.2.2⟩
  case round =>
    obtain ⟨j, us, hj, rfl, hTV, hus, hG, hSB⟩ := hrel
    by_cases hlt : j < 256
    · have b1 : (j : Int) < 256 := by omega
      have b0 : (0 : Int) ≤ (j : Int) := by omega
      obtain ⟨v, hv⟩ : ∃ v, us[j]? = some v := ⟨_, List.getElem?_eq_getElem (by rw [hTV.2.1]; exact hlt)⟩
      have hv0 : vs[j]? = some v := by rw [← hus j (Nat.le_refl _)]; exact hv
      have hix := fun w => ix_any hv0 hlt w
      have hBd : Below wr.heap.size wr wr.drew := (Below.refl _ wr).drew
      have hTd := hTV.bel hBd
      have hOv := (hTd.2.2.1 j v hv)
      have hvz : ∀ i, v.ownBlock = some i → i ≠ z := fun i hi => (hRz.out i (hOv.2.2 i hi)).1
      have HD := hide (delO (drop1_pr z q) (fun W W' hk hg => (hg.block z (lt_of_block hk) (fun e => hvz z e rfl)).trans hk) hOv.1 (Nat.le_trans (List.length_filter_le _ _) (Nat.le_trans (List.length_filter_le _ _) (by rw [← HN.out]; exact hn))) (hSB.bel hBd))
      have HP : Hid (∀ (a : Option Addr) (c : Nat) (w9 : World), OW it6 6 25 0 (.slice a ((bkL (drJ L q j) j).filter fun x => !decide (x.pk = q)).length c) ((bkL (drJ L q j) j).filter fun x => !decide (x.pk = q)) w9 → Gs (fun i => v.ownBlock = some i) wr.drew w9 → (Value.slice a ((bkL (drJ L q j) j).filter fun x => !decide (x.pk = q)).length c).ownBlock = v.ownBlock → w9.cell? ⟨tb, j, none⟩ = some v ∧ w9.frozen? ⟨tb, j, none⟩ = false ∧ Hid (∃ us', TV R (w9.setCell ⟨tb, j, none⟩ (.slice a ((bkL (drJ L q j) j).filter fun x => !decide (x.pk = q)).length c)) tb us' (drJ L q (j + 1)) ∧ (∀ i, j + 1 ≤ i → us'[i]? = vs[i]?) ∧ Gs R U1 (w9.setCell ⟨tb, j, none⟩ (.slice a ((bkL (drJ L q j) j).filter fun x => !decide (x.pk = q)).length c)) ∧ SBT (w9.setCell ⟨tb, j, none⟩ (.slice a ((bkL (drJ L q j) j).filter fun x => !decide (x.pk = q)).length c)) z q)) := by
        refine hide fun a c w9 hO9 hG9 hb9 => ?_
        have hRl : ∀ i, R i → i < wr.drew.heap.size := fun i hi => by have h1 := (hRz.out i hi).2; have h2 := HH.out.2.2.1.size; have h3 := hG.size; show i < wr.heap.size; omega
        obtain ⟨p1, p2, p3, p4⟩ := hTd.put (L' := drJ L q (j + 1)) hRl hv hG9 (fun i e => .inl e) (by rw [drJ_this]; exact hO9) (.inl hb9) (fun i hi => drJ_other L q hi)
        refine ⟨p1, p2, hide ⟨_, p3.mono fun i hi => ?_, fun i hi => ?_, ?_, ?_⟩⟩
        · rcases hi with hi | hi
          · exact hi
          · rw [hb9] at hi; exact hOv.2.2 i hi
        · rw [List.getElem?_set_ne (by omega)]; exact hus i (by omega)
        · exact ((hG.bel hBd).trans (hG9.mono fun i _ e => hOv.2.2 i e)).trans (p4.mono fun i _ e => by rw [e]; exact HH.out.1.rt)
        · have h1 := hSB.bel hBd
          have h2 : SBT w9 z q := (hG9.block z (lt_of_block h1) (fun e => hvz z e rfl)).trans h1
          exact (p4.block z (lt_of_block h2) (fun e => (hRz.out tb HH.out.1.rt).1 e.symm)).trans h2
      obtain ⟨va, vc, hvv, _⟩ := hOv.1.len
      generalize (bkL (drJ L q j) j).filter (fun x => !decide (x.pk = q)) = F at HD HP
      generalize (bkL (drJ L q j) j).length = nb at hvv
      subst hvv
      generalize F.length = nf at HD HP
      clear hTV hus hG hSB hv hv0 hBd hTd hOv hvz hr
      go_upto_region 5 with fail
      go_region_held_law (fun _ => True) (trivial)
        (first | (go_at_call 30; refine Calls.mono HD.out ?_; rintro e w9 ⟨a9, c9, rfl, hO9, hG9, hb9⟩; obtain ⟨y9, z9, HE9⟩ := HP.out a9 c9 w9 hO9 hG9 hb9; clear hO9 hG9 hb9))
      go_wp2
      obtain ⟨us', e1, e2, e3, e4⟩ := HE9.out
      exact ⟨⟨j + 1, us', by omega, by go_num, e1, e2, e3, e4⟩, by simp [RowKit.intOf]; omega⟩
    · obtain rfl : j = 256 := by omega
      rw [drJ_all] at hTV
      have hwr : ∀ i, R i → i < wr.heap.size := fun i hi => by have h1 := (hRz.out i hi).2; have h2 := HH.out.2.2.1.size; have h3 := hG.size; omega
      have hTB : TB R wr tb (L.filter fun x => !decide (x.pk = q)) := ⟨⟨us, hTV⟩, HH.out.1.rt, HH.out.1.ss.filter _, fun x hx => HH.out.1.ok x (List.mem_filter.1 hx).1, hwr⟩
      have hml : (L.filter fun x => !decide (x.pk = q)).length ≤ n := by rw [HN.out]; exact List.length_filter_le _ _
      have HL2 := hide (len_any hTB (by omega))
      have HE : Hid (TB R wr tb (L.filter fun x => !decide (x.pk = q)) ∧ Gs R w wr) := hide ⟨hTB, (Gs.of_below R HH.out.2.2.1).trans hG⟩
      obtain ⟨m, hm⟩ : ∃ m, m = (L.filter fun x => !decide (x.pk = q)).length := ⟨_, rfl⟩
      rw [← hm] at HL2 hml
      have HM := hide hm
      clear hm
      clear hTV hus hG hSB hwr hTB hr
      have hz1 : ((n - m : Nat) : Int) = (n : Int) - (m : Int) := by omega
      have HZ1 := hide hz1
      clear hz1
      go_wp2_with fail
      refine HL2.out.mono ?_
      rintro e w9 ⟨rfl, hw9⟩
      subst hw9
      go_wp2
      go_ret
      exact ⟨by rw [← HM.out, HZ1.out]; rfl, HE.out.1, HE.out.2⟩
end Go.Proofs.Ytkcefdiiibbflaa
