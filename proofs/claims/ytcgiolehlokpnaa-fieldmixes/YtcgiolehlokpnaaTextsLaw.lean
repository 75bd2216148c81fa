/-
  The walk of the statement that sums, products and mixtures of texts are the document's.
-/
import Derived.Test.YtcgiolehlokpnaaRefMix
import Derived.Test.YtcgiolehlokpnaaBook
import Derived.Test.YtcgiolehlokpnaaMethods
namespace Go.Proofs.Ytcgiolehlokpnaa
open Go.RowKit Go.Lib

theorem add_both (a b : ByteArray) (ha : a.size ≤ 300) : ∃ (S : ByteArray) (C : Int),
    (∀ w : World, Calls Try.prog 23 #[.string a, .string b] w fun e w' => e = .returned (.tuple #[.string S, .int .i64 C]) ∧ Below w.heap.size w w') ∧
    (∀ w : World, Calls Try.prog 24 #[.string a, .string b] w fun e w' => e = .returned (.tuple #[.string S, .int .i64 C]) ∧ Below w.heap.size w w') := by
  by_cases h : a.size = b.size
  · exact ⟨_, _, fun w => add_ok a b h (by omega) w, fun w => refAdd_ok a b h (by omega) w⟩
  · exact ⟨_, _, fun w => (add_bad a b h w).mono fun e w' ⟨he, hw⟩ => ⟨he, by rw [hw]; exact Below.refl _ _⟩, fun w => (refAdd_bad a b h w).mono fun e w' ⟨he, hw⟩ => ⟨he, by rw [hw]; exact Below.refl _ _⟩⟩
theorem scale_both (s : ByteArray) (x : Int) (hs : s.size ≤ 300) : ∃ (S : ByteArray) (C : Int),
    (∀ (f : Nat) (w : World), F w f → Calls Try.prog 25 #[.pointer (some ⟨f, 0, none⟩), .string s, .int .i64 x] w fun e w' => e = .returned (.tuple #[.string S, .int .i64 C]) ∧ F w' f ∧ w.grownBy w' (some f)) ∧
    (∀ w : World, Calls Try.prog 26 #[.string s, .int .i64 x] w fun e w' => e = .returned (.tuple #[.string S, .int .i64 C]) ∧ Below w.heap.size w w') := by
  cases h : isEl x
  · refine ⟨_, _, fun f w hF => (scale_bad _ s x h).mono ?_, fun w => (refScale_bad s x h w).mono fun e w' ⟨he, hw⟩ => ⟨he, by rw [hw]; exact Below.refl _ _⟩⟩
    rintro e w' ⟨he, rfl⟩
    exact ⟨he, hF, gb_refl _ _⟩
  · obtain ⟨c, rfl, hc⟩ := isEl_out x h
    exact ⟨_, _, fun f w hF => scale_ok hF s c hc (by omega), fun w => refScale_ok s c hc (by omega) w⟩

/-- What the statement keeps along its calls. -/
def SF (w : World) (f : Nat) (w' : World) : Prop := F w' f ∧ Below w.heap.size w w'
theorem SF.below {w w' w'' : World} {f : Nat} (h : SF w f w') (hb : Below w'.heap.size w' w'') : SF w f w'' := ⟨h.1.below hb (Nat.le_refl _), h.2.trans (hb.mono h.2.size)⟩
theorem SF.drew {w w' : World} {f : Nat} (h : SF w f w') : SF w f w'.drew := ⟨h.1, h.2.drew⟩
theorem SF.drewN {w w' : World} {f : Nat} (h : SF w f w') (n : Nat) : SF w f (w'.drewN n) := ⟨h.1, below_drew h.2 n⟩
theorem SF.grown {w w' w'' : World} {f : Nat} (h : SF w f w') (hf : w.heap.size ≤ f) (hF : F w'' f) (hg : w'.grownBy w'' (some f)) : SF w f w'' := ⟨hF, below_gb h.2 hg hf h.2.size⟩

set_option maxHeartbeats 3200000 in
set_option maxRecDepth 100000 in
theorem texts_walk {w : World} {a a' : Option Addr} {n cap m cap' : Nat} {X : Nat → ByteArray} {Z : Nat → Int} (hX : TX w (.slice a n cap) n X) (hnil : a = none → n = 0 ∧ cap = 0) (hn : n ≤ 9223372036854775807)
    (hZ : NX w (.slice a' m cap') m Z) (hnil' : a' = none → m = 0 ∧ cap' = 0) (hm : m * 8 ≤ 140737488355328) (x : Int) (hs : ∀ i, i < n → (X i).size ≤ 9223372036854775807) :
    Calls Try.prog 4 #[.slice a n cap, .slice a' m cap', .int .i64 x] w fun e w' => e = .returned (.bool true) ∧ Below w.heap.size w w' := by
  have HX : Hid _ := hX
  have HZ : Hid _ := hZ
  have HNI : Hid _ := hnil
  have HNI' : Hid _ := hnil'
  have HS : Hid _ := hs
  clear hX hZ hnil hnil' hs
  go_enter Try.func4, Try.ntmps4
  go_wp2_with fail
  refine (new_any _).mono ?_
  rintro e w1 ⟨rfl, hF1, hb1⟩
  go_wp2_with fail
  refine (works_any _).mono ?_
  rintro e w2 ⟨rfl, hb2⟩
  have H2 : Hid (SF w w.heap.size w2) := SF.below ⟨hF1, hb1⟩ hb2
  clear hF1 hb1 hb2
  by_cases h30 : 30 < n
  · go_wp2
    go_ret
    exact ⟨rfl, H2.out.2⟩
  go_wp2
  go_loop [8] (fun i => ∃ j : Nat, j ≤ n ∧ i = .int .i64 j ∧ ∀ k, k < j → (X k).size ≤ 300) (fun i => n - (intOf i).toNat)
  case atStart => exact ⟨0, Nat.zero_le _, rfl, fun k hk => absurd hk (Nat.not_lt_zero k)⟩
  case round =>
    obtain ⟨j, hj, rfl, hall⟩ := hrel
    have HALL : Hid _ := hall
    clear hall
    by_cases hlt : j < n
    · obtain ⟨ad, c0, e0, hc0⟩ := HX.out
      simp only [Value.slice.injEq, true_and] at e0
      obtain ⟨rfl, rfl⟩ := e0
      obtain ⟨bl, off, rfl, hbl, hcl⟩ := hc0.resolve_left (by omega)
      have c1 : w2.cell? ⟨bl, off + j, none⟩ = some (.string (X j)) := (H2.out.2.cell (p := ⟨bl, off + j, none⟩) hbl).trans (hcl j hlt)
      have hsj := HS.out j hlt
      clear hc0 hcl
      have b0 : (0 : Int) ≤ (j : Int) := by omega
      have b1 : (j : Int) < (n : Int) := by omega
      by_cases h300 : 300 < (X j).size
      · generalize X j = xj at *
        go_wp2
        go_ret
        exact ⟨rfl, H2.out.2⟩
      · have HA2 : Hid (∀ k, k < j + 1 → (X k).size ≤ 300) := fun k hk => by
          by_cases e : k = j
          · subst e; omega
          · exact HALL.out k (by omega)
        generalize X j = xj at *
        go_wp2
        exact ⟨⟨j + 1, by omega, by go_num, HA2.out⟩, by simp [intOf]; omega⟩
    · obtain rfl : j = n := by omega
      have TX2 : TX w2 (.slice a j cap) j X := TX.kept (f := w.heap.size) (w := w2) (by
        obtain ⟨ad, c0, e0, hc0⟩ := HX.out
        refine ⟨ad, c0, e0, hc0.imp_right ?_⟩
        rintro ⟨bl, off, ha, hbl, hcl⟩
        exact ⟨bl, off, ha, Nat.lt_of_lt_of_le hbl H2.out.2.size, fun i hi => (H2.out.2.cell (p := ⟨bl, off + i, none⟩) hbl).trans (hcl i hi)⟩) H2.out.1 (gb_refl _ _)
      go_wp2_with fail
      refine (lend_any TX2 HNI.out (by omega)).mono ?_
      rintro e w5 ⟨⟨g, gc, rfl, hgc, hgw, TX5, hmark5⟩, hb5⟩
      have H5 : Hid (SF w w.heap.size w5) := H2.out.below hb5
      have HT5 : Hid _ := TX5
      have HM5 : Hid _ := hmark5
      have hglt : g < w5.heap.size := World.block_lt_of_cell? _ _ hmark5
      clear TX2 TX5 hmark5 hb5
      have NXa : NX (w5.alloc (.cells #[] 3)) (.slice a' m cap') m Z := by
        have hbb : Below w.heap.size w (w5.alloc (.cells #[] 3)) := H5.out.2.alloc H5.out.2.size _
        exact NX.below HZ.out hbb
      have hr0 : (w5.alloc (.cells #[] 3)).ownsRow w5.heap.size 3 1 (.slice (some ⟨w5.heap.size, 0, none⟩) 0 0) 0 [] := World.ownsRow_made w5 #[] 0 (Nat.le_refl _) (by decide) rfl
      go_wp2_with (first | (at_builtin; refine wpList_ints rfl (.tmp 48) (.tmp 49) rfl w5.heap.size (.slice (some ⟨w5.heap.size, 0, none⟩) 0 0) rfl hr0 (by simp) a' m cap' Z rfl NXa HNI'.out hm (by simp) ?_))
      intro v6 w6 NX6 hg6
      have hb6 : Below w5.heap.size w5 w6 := ((Below.refl w5.heap.size w5).alloc (Nat.le_refl _) _).grown hg6 (by simp) (fun j hj => by simp [Value.ownBlock] at hj; omega)
      have H6 : Hid (SF w w.heap.size w6) := H5.out.below hb6
      have T6 : TX w6 (.slice (some ⟨g, 0, none⟩) j gc) j X := TX.below HT5.out hb6
      have M6 : w6.cell? ⟨g, j, none⟩ = some (.string markS) := (hb6.cell (p := ⟨g, j, none⟩) hglt).trans HM5.out
      clear hr0 NXa hg6 hb6 HT5 HM5 H5
      go_wp2_with fail
      refine (mix_any H6.out.1 T6 NX6 (by omega) (by omega) (fun h0 => by have := HALL.out 0 h0; omega)).mono ?_
      rintro e w7 ⟨rfl, hF7, hg7⟩
      have T7 : Hid (TX w7 (.slice (some ⟨g, 0, none⟩) j gc) j X) := T6.kept H6.out.1 hg7
      have N7 : Hid (NX w7 v6 m Z) := NX6.kept H6.out.1 hg7
      have M7 : Hid (w7.cell? ⟨g, j, none⟩ = some (.string markS)) := (cell_congr (hg7.block g (World.block_lt_of_cell? _ _ M6) (by simp; exact H6.out.1.not_here M6 (.inl ⟨_, rfl⟩)))).trans M6
      have H7 : Hid (SF w w.heap.size w7) := H6.out.grown (Nat.le_refl _) hF7 hg7
      clear T6 NX6 M6 H6 hF7 hg7
      have TL7 : TX w7 (.slice a j cap) j X := TX.below HX.out H7.out.2
      have NL7 : NX w7 (.slice a' m cap') m Z := NX.below HZ.out H7.out.2
      go_wp2_with fail
      refine (refMix_any TL7 NL7 (by omega) (by omega) (fun i hi => by have := HALL.out i hi; omega)).mono ?_
      rintro e w8 ⟨rfl, hb8⟩
      have H8 : Hid (SF w w.heap.size w8) := H7.out.below hb8
      have T8 : TX w8 (.slice (some ⟨g, 0, none⟩) j gc) j X := TX.below T7.out hb8
      have N8 : NX w8 v6 m Z := NX.below N7.out hb8
      have M8 : w8.cell? ⟨g, j, none⟩ = some (.string markS) := (hb8.cell (p := ⟨g, j, none⟩) (World.block_lt_of_cell? _ _ M7.out)).trans M7.out
      have TL8 := TL7.below hb8
      have NL8 := NL7.below hb8
      have KK : Hid _ := kept_any T8 TL8 (by omega) hgc M8
      have SI : Hid (∀ q, Calls Try.prog 22 #[v6, .slice a' m cap'] (w8.drewN q) fun e w' => e = .returned (.bool true) ∧ ∃ k, w' = (w8.drewN q).drewN k) := fun q => sameInts_any (w := w8.drewN q) N8 NL8 (by omega)
      clear T7 N7 M7 H7 TL7 NL7 hb8 T8 N8 M8 TL8 NL8
      generalize mixS j m X Z = MS at *
      generalize faultC j m X Z = MC at *
      go_wp2_with fail
      refine Calls.mono KK.out ?_
      rintro e w9 ⟨rfl, q, rfl⟩
      go_wp2_with fail
      refine Calls.mono (SI.out q) ?_
      rintro e w9 ⟨rfl, q2, rfl⟩
      have H9 : Hid (SF w w.heap.size ((w8.drewN q).drewN q2)) := (H8.out.drewN q).drewN q2
      clear KK SI H8
      generalize (w8.drewN q).drewN q2 = w9 at *
      go_wp2
      go_loopw [15] (fun i wr => ∃ k : Nat, k ≤ j ∧ i = .int .i64 k ∧ Hid (SF w w.heap.size wr)) (fun i _ => j - (intOf i).toNat)
      case atStart => exact ⟨0, Nat.zero_le _, rfl, H9⟩
      case round =>
        clear H9
        obtain ⟨k, hk, rfl, H⟩ := hrel
        by_cases hkl : k + 1 < j
        · obtain ⟨ad, c0, e0, hc0⟩ := HX.out
          simp only [Value.slice.injEq, true_and] at e0
          obtain ⟨rfl, rfl⟩ := e0
          obtain ⟨bl, off, rfl, hbl, hcl⟩ := hc0.resolve_left (by omega)
          have KC : Hid (∀ w' : World, SF w w.heap.size w' → w'.cell? ⟨bl, off + k, none⟩ = some (.string (X k)) ∧ w'.cell? ⟨bl, off + (k + 1), none⟩ = some (.string (X (k + 1)))) := fun w' h => ⟨(h.2.cell (p := ⟨bl, off + k, none⟩) hbl).trans (hcl k (by omega)), (h.2.cell (p := ⟨bl, off + (k + 1), none⟩) hbl).trans (hcl (k + 1) (by omega))⟩
          obtain ⟨AS, AC, h23, h24⟩ := add_both (X k) (X (k + 1)) (HALL.out k (by omega))
          obtain ⟨SS, SC, h25, h26⟩ := scale_both (X k) x (HALL.out k (by omega))
          have hxk := HALL.out k (by omega)
          have A23 : Hid (∀ w' : World, Hid (SF w w.heap.size w') → Calls Try.prog 23 #[.string (X k), .string (X (k + 1))] w' fun e w'' => e = .returned (.tuple #[.string AS, .int .i64 AC]) ∧ Hid (SF w w.heap.size w'') ∧ w''.cell? ⟨bl, off + k, none⟩ = some (.string (X k)) ∧ w''.cell? ⟨bl, off + (k + 1), none⟩ = some (.string (X (k + 1)))) := fun w' h => (h23 w').mono fun e w'' ⟨he, hb⟩ => ⟨he, h.out.below hb, KC.out _ (h.out.below hb)⟩
          have A24 : Hid (∀ w' : World, Hid (SF w w.heap.size w') → Calls Try.prog 24 #[.string (X k), .string (X (k + 1))] w' fun e w'' => e = .returned (.tuple #[.string AS, .int .i64 AC]) ∧ Hid (SF w w.heap.size w'') ∧ w''.cell? ⟨bl, off + k, none⟩ = some (.string (X k)) ∧ w''.cell? ⟨bl, off + (k + 1), none⟩ = some (.string (X (k + 1)))) := fun w' h => (h24 w').mono fun e w'' ⟨he, hb⟩ => ⟨he, h.out.below hb, KC.out _ (h.out.below hb)⟩
          have A25 : Hid (∀ w' : World, Hid (SF w w.heap.size w') → Calls Try.prog 25 #[.pointer (some ⟨w.heap.size, 0, none⟩), .string (X k), .int .i64 x] w' fun e w'' => e = .returned (.tuple #[.string SS, .int .i64 SC]) ∧ Hid (SF w w.heap.size w'') ∧ w''.cell? ⟨bl, off + k, none⟩ = some (.string (X k))) := fun w' h => (h25 _ w' h.out.1).mono fun e w'' ⟨he, hF, hg⟩ => ⟨he, h.out.grown (Nat.le_refl _) hF hg, (KC.out _ (h.out.grown (Nat.le_refl _) hF hg)).1⟩
          have A26 : Hid (∀ w' : World, Hid (SF w w.heap.size w') → Calls Try.prog 26 #[.string (X k), .int .i64 x] w' fun e w'' => e = .returned (.tuple #[.string SS, .int .i64 SC]) ∧ Hid (SF w w.heap.size w'')) := fun w' h => (h26 w').mono fun e w'' ⟨he, hb⟩ => ⟨he, h.out.below hb⟩
          have c1 := (KC.out _ H.out).1
          have c2 := (KC.out _ H.out).2
          have Hd : Hid (SF w w.heap.size wr.drew) := H.out.drew
          have KD : Hid (∀ w' : World, Hid (SF w w.heap.size w') → Hid (SF w w.heap.size w'.drew) ∧ w'.drew.cell? ⟨bl, off + k, none⟩ = some (.string (X k)) ∧ w'.drew.cell? ⟨bl, off + (k + 1), none⟩ = some (.string (X (k + 1)))) := fun w' h => ⟨h.out.drew, KC.out _ h.out.drew⟩
          clear h23 h24 h25 h26 KC hc0 hcl HX
          generalize X (k + 1) = y2 at *
          generalize X k = y1 at *
          have b0 : (0 : Int) ≤ (k : Int) := by omega
          have b1 : (k : Int) < (j : Int) := by omega
          have b2 : (0 : Int) ≤ (k : Int) + 1 := by omega
          have b3 : (k : Int) + 1 < (j : Int) := by omega
          have b4 : ((k : Int) + 1).toNat = k + 1 := by omega
          have b5 : IntKind.i64.wrap ((k : Int) + 1) = (k : Int) + 1 := wraps_i64 _ (by omega) (by omega)
          go_wp2
          go_region_held3 (fun w' => Hid (SF w w.heap.size w') ∧ w'.cell? ⟨bl, off + k, none⟩ = some (.string y1) ∧ w'.cell? ⟨bl, off + (k + 1), none⟩ = some (.string y2)) (first | assumption | exact ⟨by assumption, by assumption, by assumption⟩ | exact ⟨Hd, c1, c2⟩)
            (first | (go_at_call 23; refine (A23.out _ (by assumption)).mono ?_; rintro e wa ⟨rfl, ka1, ka2, ka3⟩))
          clear Hd c1 c2 H
          go_wp2
          go_region_held3 (fun w' => Hid (SF w w.heap.size w') ∧ w'.cell? ⟨bl, off + k, none⟩ = some (.string y1) ∧ w'.cell? ⟨bl, off + (k + 1), none⟩ = some (.string y2)) (first | assumption | exact ⟨by assumption, by assumption, by assumption⟩ | exact KD.out _ ka1)
            (first | (go_at_call 24; refine (A24.out _ (by first | assumption | exact (KD.out _ ka1).1)).mono ?_; rintro e wb ⟨rfl, kb1, kb2, kb3⟩))
          clear ka1 ka2 ka3
          go_wp2_with fail
          refine (A25.out _ kb1).mono ?_
          rintro e wc ⟨rfl, kc1, kc2⟩
          clear kb1 kb2 kb3
          go_wp2_with fail
          refine (A26.out _ kc1).mono ?_
          rintro e wd ⟨rfl, kd1⟩
          clear kc1 kc2
          go_wp2
          go_roundw
          case rel => exact ⟨k + 1, by omega, by go_num, kd1⟩
          case measure => simp [intOf]; omega
        · have hk2 : ¬ ((k : Int) + 1 < (j : Int)) := by omega
          go_wp2
          go_ret
          exact ⟨rfl, H.out.2⟩
end Go.Proofs.Ytcgiolehlokpnaa
