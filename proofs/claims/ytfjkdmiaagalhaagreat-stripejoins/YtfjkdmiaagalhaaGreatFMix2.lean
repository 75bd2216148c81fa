/-
  The contracts of the look at a mixture's members, and of Mix.
-/
import Derived.Test.YtfjkdmiaagalhaaGreatFMix
import Derived.WalkMore
namespace Go.Proofs.YtfjkdmiaagalhaaGreat.Fd
open Go.RowKit Go.Lib

theorem szB_at (X : Nat → ByteArray) (n j : Nat) (h : szB X n = true) (hj : j < n) : (X j).size = (X 0).size := by
  have := allB_spec _ _ h j hj
  simpa using this
theorem elB_at (Z : Nat → Int) (n j : Nat) (h : elB Z n = true) (hj : j < n) : isEl (Z j) = true := allB_spec _ _ h j hj
theorem elB_false (Z : Nat → Int) : ∀ (n j : Nat), j < n → isEl (Z j) = false → elB Z n = false
  | n + 1, j, hj, h => by
    rw [elB_succ]
    by_cases e : j = n
    · subst e; rw [h]; rfl
    · rw [elB_false Z n j (by omega) h, Bool.and_false]
theorem szB_false (X : Nat → ByteArray) : ∀ (n j : Nat), j < n → (X j).size ≠ (X 0).size → szB X n = false
  | n + 1, j, hj, h => by
    rw [szB_succ]
    by_cases e : j = n
    · subst e; rw [show ((X j).size == (X 0).size) = false by simpa using h]; rfl
    · rw [szB_false X n j (by omega) h, Bool.and_false]

set_option maxRecDepth 100000 in
set_option maxHeartbeats 800000 in
theorem fault_any {w : World} {vl vc : Value} {n m : Nat} {X : Nat → ByteArray} {Z : Nat → Int} (hl : TX w vl n X) (hc : NX w vc m Z) (hn : n ≤ 140737488355328) (hm : m ≤ 140737488355328) :
    Calls Tryz.prog 74 #[vl, vc] w fun e w' => e = .returned (.int .i64 (faultC n m X Z)) ∧ w' = w := by
  obtain ⟨al, cl, rfl, HL⟩ := hl
  obtain ⟨ac, cc, rfl, HC⟩ := hc
  have KL : Hid _ := HL
  have KC : Hid _ := HC
  clear HL HC
  by_cases hnm : n = m
  · subst hnm
    obtain ⟨r, hr⟩ : ∃ r, r = faultC n n X Z := ⟨_, rfl⟩
    rw [← hr]
    rw [faultC, if_pos rfl] at hr
    have HR : Hid _ := hr
    clear hr
    go_enter Tryz.func74, Tryz.ntmps74
    go_wp2
    go_step3
    go_wp2
    go_step3
    go_wp2
    go_loop [5, 15] (fun c i => ∃ j : Nat, j ≤ n ∧ i = .int .i64 j ∧ c = .int .i64 (if elB Z j then 0 else 1) ∧ szB X j = true) (fun _ i => n - (intOf i).toNat)
    case atStart => exact ⟨0, Nat.zero_le _, rfl, rfl, rfl⟩
    case round =>
      obtain ⟨j, hj, rfl, rfl, hsz⟩ := hrel
      have HSZ : Hid _ := hsz
      clear hsz
      by_cases hlt : j < n
      · obtain ⟨bl, off, rfl, hbl, hcl⟩ := KL.out.resolve_left (by omega)
        obtain ⟨bc, oc, rfl, hbc, hcc⟩ := KC.out.resolve_left (by omega)
        have c1 := hcl j hlt
        have c0 := hcl 0 (by omega)
        have cz := hcc j hlt
        rw [Nat.add_zero] at c0
        have b0 : (0 : Int) ≤ (j : Int) := by omega
        have b1 : (j : Int) < (n : Int) := by omega
        have b2 : (0 : Int) < (n : Int) := by omega
        clear hcl hcc
        by_cases hs : (X j).size = (X 0).size
        · have hs' : (((X j).size : Int) != ((X 0).size : Int)) = false := by simp; omega
          have HS2 : Hid (szB X (j + 1) = true) := by
            show _ = _
            rw [szB_succ, HSZ.out, show ((X j).size == (X 0).size) = true by simpa using hs]
            rfl
          have HE := elB_succ Z j
          have HEE : Hid _ := HE
          clear hs HE
          cases he : isEl (Z j)
          · have e1 : elB Z (j + 1) = false := by rw [HEE.out, he]; rfl
            go_wp2_with (go_at_call 55; refine (isElement_any _ _).mono ?_; rintro e w1 ⟨rfl, rfl⟩)
            go_wp2
            exact ⟨⟨j + 1, by omega, by go_num, by rw [e1]; rfl, HS2.out⟩, by simp [intOf]; omega⟩
          · have e1 : elB Z (j + 1) = elB Z j := by rw [HEE.out, he]; rfl
            go_wp2_with (go_at_call 55; refine (isElement_any _ _).mono ?_; rintro e w1 ⟨rfl, rfl⟩)
            go_wp2
            exact ⟨⟨j + 1, by omega, by go_num, by rw [e1], HS2.out⟩, by simp [intOf]; omega⟩
        · have hs' : (((X j).size : Int) != ((X 0).size : Int)) = true := by simp; omega
          have hr4 : r = 4 := by rw [HR.out, szB_false X n j hlt hs]; rfl
          subst hr4
          clear hs HR
          go_wp2
          try rw [Exit.noGoto_ret]
          go_ret
          exact ⟨rfl, rfl⟩
      · obtain rfl : j = n := by omega
        have hr5 : (if elB Z j then (0 : Int) else 1) = r := by rw [HR.out, HSZ.out]; rfl
        rw [hr5]
        clear HR
        go_wp2
        try rw [Exit.noGoto_ret]
        go_ret
        exact ⟨rfl, rfl⟩
  · rw [faultC, if_neg hnm]
    have h : ((n : Int) != (m : Int)) = true := by simp; omega
    go_enter Tryz.func74, Tryz.ntmps74
    go_wp2
    go_step3
    go_wp2
    try rw [Exit.noGoto_ret]
    go_ret
    exact ⟨rfl, rfl⟩

set_option maxRecDepth 100000 in
theorem mix_bad {w : World} {vl vc fv : Value} {n m : Nat} {X : Nat → ByteArray} {Z : Nat → Int} (hl : TX w vl n X) (hc : NX w vc m Z) (hn : n ≤ 140737488355328) (hm : m ≤ 140737488355328) (h0 : faultC n m X Z ≠ 0) :
    Calls Tryz.prog 63 #[fv, vl, vc] w fun e w' => e = .returned (.tuple #[.string ⟨#[]⟩, .int .i64 (faultC n m X Z)]) ∧ w' = w := by
  have HF : Hid _ := fault_any hl hc hn hm
  clear hl hc hn hm
  generalize faultC n m X Z = r at *
  have h0' : (r != 0) = true := by simpa using h0
  go_enter Tryz.func63, Tryz.ntmps63
  go_wp2_with fail
  refine Calls.mono HF.out ?_
  rintro e w1 ⟨rfl, rfl⟩
  go_wp2
  go_ret2
  exact ⟨rfl, rfl⟩
set_option maxRecDepth 100000 in
theorem mix_none {w : World} {vl vc fv : Value} {X : Nat → ByteArray} {Z : Nat → Int} (hl : TX w vl 0 X) (hc : NX w vc 0 Z) :
    Calls Tryz.prog 63 #[fv, vl, vc] w fun e w' => e = .returned (.tuple #[.string ⟨#[]⟩, .int .i64 0]) ∧ w' = w := by
  have HF : Hid _ := fault_any hl hc (by omega) (by omega)
  have e0 : faultC 0 0 X Z = 0 := rfl
  rw [e0] at HF
  obtain ⟨al, cl, rfl, _⟩ := hl
  clear hc
  go_enter Tryz.func63, Tryz.ntmps63
  go_wp2_with fail
  refine Calls.mono HF.out ?_
  rintro e w1 ⟨rfl, rfl⟩
  go_wp2
  go_ret2
  exact ⟨rfl, rfl⟩

/-- What the loop of Mix keeps. -/
def MX (w : World) (f : Nat) (vl vc : Value) (n : Nat) (X : Nat → ByteArray) (Z : Nat → Int) (L : List UInt8) (wr : World) : Prop :=
  F wr f ∧ BR wr w.heap.size L ∧ TX wr vl n X ∧ NX wr vc n Z ∧ w.grownBy wr (some f)

theorem TX.cell_at {w : World} {bl off n c : Nat} {X : Nat → ByteArray} (h : TX w (.slice (some ⟨bl, off, none⟩) n c) n X) (j : Nat) (hj : j < n) : w.cell? ⟨bl, off + j, none⟩ = some (.string (X j)) := by
  obtain ⟨a, c', e, h⟩ := h
  simp only [Value.slice.injEq, true_and] at e
  obtain ⟨rfl, rfl⟩ := e
  rcases h with h | ⟨bl', off', ha, _, hc⟩
  · omega
  · simp only [Option.some.injEq, Addr.mk.injEq, and_true] at ha
    obtain ⟨rfl, rfl⟩ := ha
    exact hc j hj
theorem NX.cell_at {w : World} {bl off n c : Nat} {X : Nat → Int} (h : NX w (.slice (some ⟨bl, off, none⟩) n c) n X) (j : Nat) (hj : j < n) : w.cell? ⟨bl, off + j, none⟩ = some (.int .i64 (X j)) := by
  obtain ⟨a, c', e, h⟩ := h
  simp only [Value.slice.injEq, true_and] at e
  obtain ⟨rfl, rfl⟩ := e
  rcases h with h | ⟨bl', off', ha, _, hc⟩
  · omega
  · simp only [Option.some.injEq, Addr.mk.injEq, and_true] at ha
    obtain ⟨rfl, rfl⟩ := ha
    exact hc j hj
theorem TX.row {w w' : World} {n g : Nat} {v : Value} {X : Nat → ByteArray} (h : TX w v n X) {w0 : World} (h0 : TX w0 v n X) (hg : w.grownBy w' (some g)) (hg0 : w0.heap.size ≤ g) : TX w' v n X := by
  obtain ⟨a, c, rfl, h⟩ := h
  obtain ⟨a', c', e, h0⟩ := h0
  simp only [Value.slice.injEq, true_and] at e
  obtain ⟨rfl, rfl⟩ := e
  refine ⟨a, c, rfl, ?_⟩
  rcases h with h | ⟨bl, off, rfl, hbl, hc⟩
  · exact .inl h
  · rcases h0 with h0 | ⟨bl0, off0, ha0, hbl0, hc0⟩
    · exact .inl h0
    · simp only [Option.some.injEq, Addr.mk.injEq, and_true] at ha0
      obtain ⟨rfl, rfl⟩ := ha0
      exact .inr ⟨bl, off, rfl, Nat.lt_of_lt_of_le hbl hg.size, fun i hi => (cell_congr (hg.block bl hbl (by simp; omega))).trans (hc i hi)⟩
theorem NX.row {w w' : World} {n g : Nat} {v : Value} {X : Nat → Int} (h : NX w v n X) {w0 : World} (h0 : NX w0 v n X) (hg : w.grownBy w' (some g)) (hg0 : w0.heap.size ≤ g) : NX w' v n X := by
  obtain ⟨a, c, rfl, h⟩ := h
  obtain ⟨a', c', e, h0⟩ := h0
  simp only [Value.slice.injEq, true_and] at e
  obtain ⟨rfl, rfl⟩ := e
  refine ⟨a, c, rfl, ?_⟩
  rcases h with h | ⟨bl, off, rfl, hbl, hc⟩
  · exact .inl h
  · rcases h0 with h0 | ⟨bl0, off0, ha0, hbl0, hc0⟩
    · exact .inl h0
    · simp only [Option.some.injEq, Addr.mk.injEq, and_true] at ha0
      obtain ⟨rfl, rfl⟩ := ha0
      exact .inr ⟨bl, off, rfl, Nat.lt_of_lt_of_le hbl hg.size, fun i hi => (cell_congr (hg.block bl hbl (by simp; omega))).trans (hc i hi)⟩

set_option maxRecDepth 100000 in
set_option maxHeartbeats 1600000 in
theorem mix_ok {w : World} {f n : Nat} {vl vc : Value} {X : Nat → ByteArray} {Z : Nat → Int} (hF : F w f) (hl : TX w vl n X) (hc : NX w vc n Z) (hn : n ≤ 140737488355328) (h0 : 0 < n) (hsz : szB X n = true) (hel : elB Z n = true) (hm : (X 0).size ≤ 140737488355328) :
    Calls Tryz.prog 63 #[.pointer (some ⟨f, 0, none⟩), vl, vc] w fun e w' => e = .returned (.tuple #[.string (strOf (mixAt (X 0).size X (fun i => (Z i).toNat) n)), .int .i64 0]) ∧ F w' f ∧ w.grownBy w' (some f) := by
  obtain ⟨i0, hi, hz0, hz1, hz2⟩ := info_parts Tryz.info5
  have HF : Hid _ := fault_any hl hc hn hn
  have e0 : faultC n n X Z = 0 := by rw [faultC, if_pos rfl, if_pos hsz, if_pos hel]
  rw [e0] at HF
  have hlt := hF.lt
  obtain ⟨N, hN⟩ : ∃ N, N = (X 0).size := ⟨_, rfl⟩
  have hlen := fun j hj => mixAt_length N n X (fun i => (Z i).toNat) (fun i hi => (szB_at X n i hsz hi).trans hN.symm) j hj
  have HLN : Hid _ := hlen
  have hsN : ∀ i, i < n → (X i).size = N := fun i hi => (szB_at X n i hsz hi).trans hN.symm
  have HSN : Hid _ := hsN
  have HEL : Hid (∀ i, i < n → ∃ c : Nat, Z i = c ∧ c < 256) := fun i hi => isEl_out _ (elB_at Z n i hel hi)
  have hTL : Hid _ := hl
  have hNC : Hid _ := hc
  rw [← hN]
  have hNm : N ≤ 140737488355328 := by omega
  obtain ⟨al, cl, rfl, HL⟩ := hl
  obtain ⟨ac, cc, rfl, HC⟩ := hc
  obtain ⟨bl, off, rfl, hbl, hcl⟩ := HL.resolve_left (by omega)
  obtain ⟨bc, oc, rfl, hbc, hcc⟩ := HC.resolve_left (by omega)
  have c0 := hcl 0 h0
  rw [Nat.add_zero] at c0
  have HN : Hid _ := hN
  have HX0 : Hid _ := hm
  have b2 : (0 : Int) < (n : Int) := by omega
  have hsz0 : (X 0).size = N := hN.symm
  clear hsz hel hlen hsN hN hcl hcc HL HC hm e0
  generalize X 0 = x0 at *
  go_enter Tryz.func63, Tryz.ntmps63
  go_wp2_with fail
  refine Calls.mono HF.out ?_
  rintro e w1 ⟨rfl, hw1⟩
  subst w1
  go_wp2_with (first | (at_make; refine wpList_make_full _ rfl _ _ 105 rfl w.heap.size 5 i0 (.int .u8 0) 1 Tryz.underlying105 hi hz0 hz1 _ _ _ _ N rfl rfl (by simp) (by simp) (by rw [hz2]; omega) (by unfold maxLen; omega) (Nat.le_refl _) ?_))
  all_goals
  intro w0 hown0 hgrow0
  have hb0 : Below w.heap.size w w0 := (Below.refl _ _).grown hgrow0 (Nat.le_refl _) (fun k hk => by cases hk)
  have hB0 := BR.made hown0
  have hM0 : MX w f (.slice (some ⟨bl, off, none⟩) n cl) (.slice (some ⟨bc, oc, none⟩) n cc) n X Z (mixAt N X (fun i => (Z i).toNat) 0) w0 :=
    ⟨hF.below hb0 (Nat.le_refl _), hB0, TX.below hTL.out hb0, NX.below hNC.out hb0, gb_none hgrow0⟩
  have HM0 : Hid _ := hM0
  clear hown0 hz0 hz1 hz2 hi hb0 hB0 hgrow0 hM0 HF c0 hsz0
  go_wp2
  go_loopw [28] (fun i wr => ∃ j : Nat, j ≤ n ∧ i = .int .i64 j ∧ Hid (MX w f (.slice (some ⟨bl, off, none⟩) n cl) (.slice (some ⟨bc, oc, none⟩) n cc) n X Z (mixAt N X (fun i => (Z i).toNat) j) wr)) (fun i _ => n - (intOf i).toNat)
  case atStart => exact ⟨0, Nat.zero_le _, rfl, HM0⟩
  case round =>
    clear HM0
    obtain ⟨j, hj, rfl, hM⟩ := hrel
    by_cases hlt : j < n
    · have c1 := hM.out.2.2.1.cell_at j hlt
      have cz := hM.out.2.2.2.1.cell_at j hlt
      obtain ⟨c, hZc, hc⟩ := HEL.out j hlt
      have HE : Hid (mixAt N X (fun i => (Z i).toNat) (j + 1) = xorL (mixAt N X (fun i => (Z i).toNat) j) (byL (X j).data.toList c)) := by
        show _ = _
        rw [mixAt, hZc]
        rfl
      rw [hZc] at cz
      have A30 : Hid (∀ w' : World, MX w f (.slice (some ⟨bl, off, none⟩) n cl) (.slice (some ⟨bc, oc, none⟩) n cc) n X Z (mixAt N X (fun i => (Z i).toNat) j) w' → Calls Tryz.prog 56 #[.pointer (some ⟨f, 0, none⟩)] w' fun e w'' => ∃ t, e = .returned (.pointer (some ⟨t, 0, none⟩)) ∧ TB w'' t ∧ Hid (MX w f (.slice (some ⟨bl, off, none⟩) n cl) (.slice (some ⟨bc, oc, none⟩) n cc) n X Z (mixAt N X (fun i => (Z i).toNat) j) w'') ∧ w''.cell? ⟨bc, oc + j, none⟩ = some (.int .i64 (c : Int))) := by
        intro w' h
        refine (tables_any h.1).mono ?_
        rintro e w'' ⟨t, rfl, hT, hF', hg⟩
        have h' : MX w f (.slice (some ⟨bl, off, none⟩) n cl) (.slice (some ⟨bc, oc, none⟩) n cc) n X Z (mixAt N X (fun i => (Z i).toNat) j) w'' := ⟨hF', h.2.1.field h.1 hg, h.2.2.1.kept h.1 hg, h.2.2.2.1.kept h.1 hg, gb_trans h.2.2.2.2 hg⟩
        exact ⟨t, rfl, hT, h', by rw [h'.2.2.2.1.cell_at j hlt, hZc]⟩
      have A38 : Hid (∀ (t : Nat) (w' : World), TB w' t → Hid (MX w f (.slice (some ⟨bl, off, none⟩) n cl) (.slice (some ⟨bc, oc, none⟩) n cc) n X Z (mixAt N X (fun i => (Z i).toNat) j) w') → Calls Tryz.prog 75 #[.pointer (some ⟨t, 0, none⟩), .slice (some ⟨w.heap.size, 0, none⟩) N N, .string (X j), .int .i64 (c : Int)] w' fun e w'' => e = .returned (.tuple #[]) ∧ Hid (MX w f (.slice (some ⟨bl, off, none⟩) n cl) (.slice (some ⟨bc, oc, none⟩) n cc) n X Z (mixAt N X (fun i => (Z i).toNat) (j + 1)) w'') ∧ w''.cell? ⟨bc, oc + j, none⟩ = some (.int .i64 (c : Int))) := by
        intro t w' hT h
        have hLL := HLN.out j hj
        have hS := HSN.out j hlt
        have A := addP_any (cap := N) hT h.out.2.1 (X j) (hS.trans hLL.symm) c hc (by omega)
        rw [hLL] at A
        refine A.mono ?_
        rintro e w'' ⟨rfl, hB, hg⟩
        have h' : MX w f (.slice (some ⟨bl, off, none⟩) n cl) (.slice (some ⟨bc, oc, none⟩) n cc) n X Z (mixAt N X (fun i => (Z i).toNat) (j + 1)) w'' :=
          ⟨h.out.1.row h.out.2.1 hg, by rw [HE.out]; exact hB, h.out.2.2.1.row hTL.out hg (Nat.le_refl _), h.out.2.2.2.1.row hNC.out hg (Nat.le_refl _), gb_new h.out.2.2.2.2 hg (Nat.le_refl _)⟩
        exact ⟨rfl, h', by rw [h'.2.2.2.1.cell_at j hlt, hZc]⟩
      have hMd : MX w f (.slice (some ⟨bl, off, none⟩) n cl) (.slice (some ⟨bc, oc, none⟩) n cc) n X Z (mixAt N X (fun i => (Z i).toNat) j) wr.drew := ⟨hM.out.1, hM.out.2.1, hM.out.2.2.1, hM.out.2.2.2.1, ⟨hM.out.2.2.2.2.os, hM.out.2.2.2.2.tape, hM.out.2.2.2.2.output, hM.out.2.2.2.2.size, hM.out.2.2.2.2.block⟩⟩
      have HMd : Hid _ := hMd
      clear hM hMd HE hZc
      have b0 : (0 : Int) ≤ (j : Int) := by omega
      have b1 : (j : Int) < (n : Int) := by omega
      generalize X j = xj at *
      go_wp2
      go_region_held3 (fun w' => w'.cell? ⟨bc, oc + j, none⟩ = some (.int .i64 (c : Int))) (first | assumption | exact cz)
        (first
          | (go_at_call 56; refine (A30.out _ HMd.out).mono ?_; rintro e w1 ⟨t, rfl, hT1, hM1, k1⟩)
          | (go_at_call 75; refine (A38.out _ _ hT1 hM1).mono ?_; rintro e w2 ⟨rfl, hM2, k2⟩))
      all_goals
        go_wp2
        go_roundw
        case rel => exact ⟨j + 1, by omega, by go_num, hM2⟩
        case measure => simp [intOf]; omega
    · obtain rfl : j = n := by omega
      have hstr := hM.out.2.1.str_all N N (HLN.out _ (Nat.le_refl _)).symm
      have HQ : Hid (F wr f ∧ w.grownBy wr (some f)) := ⟨hM.out.1, hM.out.2.2.2.2⟩
      clear hM
      go_wp2
      go_ret2
      exact ⟨rfl, HQ.out⟩

/-- What a mixture comes to. -/
def mixS (n m : Nat) (X : Nat → ByteArray) (Z : Nat → Int) : ByteArray := if faultC n m X Z = 0 then (if n = 0 then ⟨#[]⟩ else strOf (mixAt (X 0).size X (fun i => (Z i).toNat) n)) else ⟨#[]⟩
theorem faultC_zero {n m : Nat} {X : Nat → ByteArray} {Z : Nat → Int} (h : faultC n m X Z = 0) : n = m ∧ szB X n = true ∧ elB Z n = true := by
  unfold faultC at h
  split at h
  · split at h
    · split at h
      · exact ⟨by assumption, by assumption, by assumption⟩
      · cases h
    · cases h
  · cases h
theorem mix_any {w : World} {f n m : Nat} {vl vc : Value} {X : Nat → ByteArray} {Z : Nat → Int} (hF : F w f) (hl : TX w vl n X) (hc : NX w vc m Z) (hn : n ≤ 140737488355328) (hm : m ≤ 140737488355328) (hx : 0 < n → (X 0).size ≤ 140737488355328) :
    Calls Tryz.prog 63 #[.pointer (some ⟨f, 0, none⟩), vl, vc] w fun e w' => e = .returned (.tuple #[.string (mixS n m X Z), .int .i64 (faultC n m X Z)]) ∧ F w' f ∧ w.grownBy w' (some f) := by
  by_cases h : faultC n m X Z = 0
  · obtain ⟨rfl, h1, h2⟩ := faultC_zero h
    rw [mixS, if_pos h, h]
    by_cases h0 : n = 0
    · subst h0
      rw [if_pos rfl]
      refine (mix_none hl hc).mono ?_
      rintro e w' ⟨rfl, rfl⟩
      exact ⟨rfl, hF, gb_refl _ _⟩
    · rw [if_neg h0]
      exact mix_ok hF hl hc hn (by omega) h1 h2 (hx (by omega))
  · rw [mixS, if_neg h]
    refine (mix_bad hl hc hn hm h).mono ?_
    rintro e w' ⟨rfl, rfl⟩
    exact ⟨rfl, hF, gb_refl _ _⟩
end Go.Proofs.YtfjkdmiaagalhaaGreat.Fd
