/-
  SdGLaw: texts of earlier layers, laid over this program.
-/
import Derived.Test.YtklaeocnimkboaaGreatDoorSdRGather
import Derived.Test.YtklaeocnimkboaaGreatDoorSdBack
import Derived.Test.YtklaeocnimkboaaGreatDoorSdOf
namespace Go.Proofs.YtklaeocnimkboaaGreatDoor
open Go.RowKit Go.Lib

/-- The two lists of the statement's own. -/
structure GK (w0 w : World) (vo vk : Value) (i : Nat) (X : Nat → SX) : Prop where
  o : IQ 33 w0.heap.size vo i X w
  r : IQ 34 w0.heap.size vk i X w
  be : Below w0.heap.size w0 w
theorem sx_if {X : Nat → SX} {i : Nat} (j : Nat) (hj : j < i + 1) : (if j < i then X j else X i) = X j := by
  by_cases e : j < i
  · rw [if_pos e]
  · obtain rfl : j = i := by omega
    rw [if_neg e]
theorem GK.step1 {w0 w : World} {vo vk : Value} {i j : Nat} {X : Nat → SX} (ho : IQ 33 w0.heap.size vo i X w) (hr : IQ 34 w0.heap.size vk j X w) (be : Below w0.heap.size w0 w) (hi : i ≤ 1000) :
    ∃ a' c' w', (Builtin.append_ #[30, 30] 30 #[vo, .slice (some ⟨w.heap.size, 0, none⟩) 1 1]).run Tryz.prog (w.alloc (.cells #[.int .i64 (X i).k, .int .i64 (X i).m, .int .i64 (X i).i, .int .i64 (X i).long, .string (X i).id, .string (X i).data] 33)) = .ok (.slice a' (i + 1) c') w' ∧ IQ 33 w0.heap.size (.slice a' (i + 1) c') (i + 1) X w' ∧ IQ 34 w0.heap.size vk j X w' ∧ Below w0.heap.size w0 w' := by
  obtain ⟨a', c', w', h1, h2, h3, _⟩ := ho.one Tryz.underlying30 Tryz.infoSh (X i) (by omega) be.size
  have hal : Below w.heap.size w (w.alloc (oneS (X i) 33)) := below_alloc (Below.refl _ _) _
  have ho' := ho.keep hal
  have hr' := hr.keep hal
  exact ⟨a', c', w', h1, h2.congr (fun j hj => sx_if j hj), hr'.apart h3 (fun b hb e => ho'.ne (by decide) hr' b e hb), (be.alloc be.size _).grown h3 (by simpa using Nat.le_succ_of_le be.size) (fun k hk => (ho.lt k hk).1)⟩
theorem GK.step2 {w0 w : World} {vo vk : Value} {i j : Nat} {X : Nat → SX} (ho : IQ 33 w0.heap.size vo j X w) (hr : IQ 34 w0.heap.size vk i X w) (be : Below w0.heap.size w0 w) (hi : i ≤ 1000) :
    ∃ a' c' w', (Builtin.append_ #[31, 31] 31 #[vk, .slice (some ⟨w.heap.size, 0, none⟩) 1 1]).run Tryz.prog (w.alloc (.cells #[.int .i64 (X i).k, .int .i64 (X i).m, .int .i64 (X i).i, .int .i64 (X i).long, .string (X i).id, .string (X i).data] 34)) = .ok (.slice a' (i + 1) c') w' ∧ IQ 33 w0.heap.size vo j X w' ∧ IQ 34 w0.heap.size (.slice a' (i + 1) c') (i + 1) X w' ∧ Below w0.heap.size w0 w' := by
  obtain ⟨a', c', w', h1, h2, h3, _⟩ := hr.one Tryz.underlying31 Tryz.infoRSh (X i) (by omega) be.size
  have hal : Below w.heap.size w (w.alloc (oneS (X i) 34)) := below_alloc (Below.refl _ _) _
  have ho' := ho.keep hal
  have hr' := hr.keep hal
  exact ⟨a', c', w', h1, ho'.apart h3 (fun b hb e => hr'.ne (by decide) ho' b e hb), h2.congr (fun j hj => sx_if j hj), (be.alloc be.size _).grown h3 (by simpa using Nat.le_succ_of_le be.size) (fun k hk => (hr.lt k hk).1)⟩

set_option maxRecDepth 100000 in
set_option maxHeartbeats 3200000 in
theorem gathers_walk {w : World} (hL : Sh.Laid w) {v : Value} {n : Nat} {X : Nat → SX} (hX : LX w v n X) (hM : ∀ i, i < n → (X i).m ≤ 9223372036854775807) :
    Calls Tryz.prog 4 #[v] w fun e w' => e = .returned (.bool true) ∧ Below w.heap.size w w' := by
  have HLX := hide hX
  obtain ⟨a, c, rfl, hX⟩ := hX
  by_cases hn : 12 < n
  · have b1 : (12 : Int) < (n : Int) := by omega
    clear hX hM
    go_enter Tryz.func4, Tryz.ntmps4
    go_wp2_with fail
    refine (sworks_any w).mono ?_
    rintro e w1 ⟨rfl, hw1⟩
    subst w1
    go_wp2
    go_ret
    exact ⟨rfl, Below.refl _ _⟩
  have b12 : ¬ (12 : Int) < (n : Int) := by omega
  have HXC := hide hX
  have HL := hide hL
  have HM := hide hM
  clear hX hM hL
  go_enter Tryz.func4, Tryz.ntmps4
  go_wp2
  go_loopw [3, 4, 5] (fun vo vk z wr => ∃ i : Nat, i ≤ n ∧ z = .int .i64 i ∧ GK w wr vo vk i X ∧ ∀ j, j < i → (X j).k ≤ 12 ∧ (X j).data.size ≤ 300) (fun _ _ z _ => n - (RowKit.intOf z).toNat)
  case atStart => exact ⟨0, Nat.zero_le _, rfl, ⟨IQ.nil _ _ _ _, IQ.nil _ _ _ _, Below.refl _ _⟩, fun j hj => by omega⟩
  case round =>
    obtain ⟨i, hi, rfl, hG, hS⟩ := hrel
    have HG := hide hG
    have HS := hide hS
    clear hG hS
    by_cases hlt : i < n
    · have b1 : (i : Int) < (n : Int) := by omega
      have b0 : (0 : Int) ≤ (i : Int) := by omega
      obtain ⟨bl, off, rfl, hbl, hC⟩ := HXC.out.resolve_left (by omega)
      obtain ⟨x, hx⟩ : ∃ x, x = X i := ⟨_, rfl⟩
      have HCx : Hid (∀ w', Below w.heap.size w w' → C6 w' bl (off + i * 6) x) := fun w' hb => by rw [hx]; exact (hC i hlt).below hb hbl
      have HXi := hide hx
      have C := HCx.out _ HG.out.be
      have y0 := C.c0
      have y1 := C.c1
      have y2 := C.c2
      have y3 := C.c3
      have y4 := C.c4
      have y5 := C.c5
      clear hx C hC
      by_cases g1 : 12 < x.k
      · go_wp2_with fail
        refine (sworks_any _).mono ?_
        rintro e w1 ⟨rfl, hw1⟩
        subst w1
        go_wp2
        go_ret
        exact ⟨rfl, HG.out.be⟩
      by_cases g2 : 12 < x.m
      · go_wp2_with fail
        refine (sworks_any _).mono ?_
        rintro e w1 ⟨rfl, hw1⟩
        subst w1
        go_wp2
        go_ret
        exact ⟨rfl, HG.out.be⟩
      by_cases g3 : 300 < x.long
      · go_wp2_with fail
        refine (sworks_any _).mono ?_
        rintro e w1 ⟨rfl, hw1⟩
        subst w1
        go_wp2
        go_ret
        exact ⟨rfl, HG.out.be⟩
      by_cases g4 : (300 : Int) < (x.data.size : Int)
      · go_wp2_with fail
        refine (sworks_any _).mono ?_
        rintro e w1 ⟨rfl, hw1⟩
        subst w1
        go_wp2
        go_ret
        exact ⟨rfl, HG.out.be⟩
      have HS' : Hid (∀ j, j < i + 1 → (X j).k ≤ 12 ∧ (X j).data.size ≤ 300) := fun j hj => by
        by_cases e : j < i
        · exact HS.out j e
        · obtain rfl : j = i := by omega
          rw [← HXi.out]
          omega
      obtain ⟨a1, c1, w1, h1, hO1, hR1, hB1⟩ := GK.step1 HG.out.o HG.out.r HG.out.be (by omega)
      rw [← HXi.out] at h1
      have HO1 := hide hO1
      have HR1 := hide hR1
      have HB1 := hide hB1
      have C1 := HCx.out _ hB1
      have z0 := C1.c0
      have z1 := C1.c1
      have z2 := C1.c2
      have z3 := C1.c3
      have z4 := C1.c4
      have z5 := C1.c5
      clear hO1 hR1 hB1 C1 HG HS
      go_upto_region 11 with (at_builtin; refine Lib.wpList_append_run _ rfl _ _ _ _ rfl _ _ rfl rfl _ _ h1 ?_)
      clear h1 y0 y1 y2 y3 y4 y5 g1 g2 g3 g4
      go_wp2_with fail
      refine (of_any x.k x.m x.i x.long x.id x.data _).mono ?_
      rintro e w2 ⟨rfl, hb2⟩
      obtain ⟨a2, c2, w3, h2, hO3, hR3, hB3⟩ := GK.step2 (HO1.out.keep hb2) (HR1.out.keep hb2) (below_step HB1.out hb2) (by omega)
      rw [← HXi.out] at h2
      have HG3 : Hid (GK w w3 _ _ (i + 1) X) := ⟨hO3, hR3, hB3⟩
      clear hO3 hR3 hB3 hb2 z0 z1 z2 z3 z4 z5 HO1 HR1 HB1
      go_wp2_with (at_builtin; refine Lib.wpList_append_run _ rfl _ _ _ _ rfl _ _ rfl rfl _ _ h2 ?_)
      exact ⟨⟨i + 1, by omega, by go_num, HG3.out, HS'.out⟩, by simp [RowKit.intOf]; omega⟩
    · obtain rfl : i = n := by omega
      obtain ⟨ao, co, rfl⟩ := HG.out.o.shp
      obtain ⟨ak, ck, rfl⟩ := HG.out.r.shp
      go_wp2_with fail
      refine (gather_any (HL.out.below HG.out.be HL.out.size) (by omega) HG.out.o.lx (fun h => HM.out 0 h) (fun j hj => by have := (HS.out j hj).2; omega)).mono ?_
      rintro e w4 ⟨S, cc, rfl, hGA, hb4⟩
      have HG4 : Hid (GK w w4 _ _ i X) := ⟨HG.out.o.keep hb4, HG.out.r.keep hb4, below_step HG.out.be hb4⟩
      clear hb4 HG
      go_wp2_with fail
      refine (rgather_any (by omega) HG4.out.r.lx (fun j hj => (HS.out j hj).1) (fun j hj => by have := (HS.out j hj).2; omega)).mono ?_
      rintro e w5 ⟨S', cc', rfl, hGA', hb5⟩
      obtain ⟨rfl, rfl⟩ := hGA.one hGA'
      have HG5 : Hid (GK w w5 _ _ i X) := ⟨HG4.out.o.keep hb5, HG4.out.r.keep hb5, below_step HG4.out.be hb5⟩
      clear hb5 HG4 hGA hGA'
      go_wp2
      go_loopw [10] (fun z wr => ∃ j : Nat, j ≤ i ∧ z = .int .i64 j ∧ Below w5.heap.size w5 wr) (fun z _ => i - (RowKit.intOf z).toNat)
      case atStart => exact ⟨0, Nat.zero_le _, rfl, Below.refl _ _⟩
      case round =>
        obtain ⟨j, hj, rfl, hbj⟩ := hrel
        have HBj := hide hbj
        clear hbj
        by_cases hlj : j < i
        · have b1 : (j : Int) < (i : Int) := by omega
          have b0 : (0 : Int) ≤ (j : Int) := by omega
          have bi : (0 : Int) < (i : Int) := by omega
          have h0i : 0 < i := by omega
          obtain ⟨bl, off, rfl, hbl, hC⟩ := HXC.out.resolve_left (by omega)
          obtain ⟨ao', co', e1, hO⟩ := HG5.out.o.lx
          obtain ⟨rfl, _, rfl⟩ := (Value.slice.injEq ..).mp e1
          obtain ⟨bo, oo, rfl, hbo, hCo⟩ := hO.resolve_left (by omega)
          obtain ⟨ak', ck', e2, hK⟩ := HG5.out.r.lx
          obtain ⟨rfl, _, rfl⟩ := (Value.slice.injEq ..).mp e2
          obtain ⟨bk, ok, rfl, hbk, hCk⟩ := hK.resolve_left (by omega)
          obtain ⟨x, hx⟩ : ∃ x, x = X j := ⟨_, rfl⟩
          obtain ⟨x0, hx0⟩ : ∃ x, x = X 0 := ⟨_, rfl⟩
          have KS : Hid (∀ w', Below wr.heap.size wr w' → (Below wr.heap.size wr w' ∧ w'.cell? ⟨bo, oo + j * 6, none⟩ = some (.int .i64 x.k) ∧ w'.cell? ⟨bo, oo + j * 6 + 1, none⟩ = some (.int .i64 x.m) ∧ w'.cell? ⟨bo, oo + j * 6 + 2, none⟩ = some (.int .i64 x.i) ∧ w'.cell? ⟨bo, oo + j * 6 + 3, none⟩ = some (.int .i64 x.long) ∧ w'.cell? ⟨bo, oo + j * 6 + 4, none⟩ = some (.string x.id) ∧ w'.cell? ⟨bo, oo + j * 6 + 5, none⟩ = some (.string x.data) ∧ w'.cell? ⟨bl, off, none⟩ = some (.int .i64 x0.k) ∧ w'.cell? ⟨bl, off + 1, none⟩ = some (.int .i64 x0.m) ∧ w'.cell? ⟨bl, off + 2, none⟩ = some (.int .i64 x0.i) ∧ w'.cell? ⟨bl, off + 3, none⟩ = some (.int .i64 x0.long) ∧ w'.cell? ⟨bl, off + 4, none⟩ = some (.string x0.id) ∧ w'.cell? ⟨bl, off + 5, none⟩ = some (.string x0.data) ∧ w'.cell? ⟨bl, off + j * 6, none⟩ = some (.int .i64 x.k) ∧ w'.cell? ⟨bl, off + j * 6 + 1, none⟩ = some (.int .i64 x.m) ∧ w'.cell? ⟨bl, off + j * 6 + 2, none⟩ = some (.int .i64 x.i) ∧ w'.cell? ⟨bl, off + j * 6 + 3, none⟩ = some (.int .i64 x.long) ∧ w'.cell? ⟨bl, off + j * 6 + 4, none⟩ = some (.string x.id) ∧ w'.cell? ⟨bl, off + j * 6 + 5, none⟩ = some (.string x.data) ∧ w'.cell? ⟨bk, ok, none⟩ = some (.int .i64 x0.k) ∧ w'.cell? ⟨bk, ok + 1, none⟩ = some (.int .i64 x0.m) ∧ w'.cell? ⟨bk, ok + 2, none⟩ = some (.int .i64 x0.i) ∧ w'.cell? ⟨bk, ok + 3, none⟩ = some (.int .i64 x0.long) ∧ w'.cell? ⟨bk, ok + 4, none⟩ = some (.string x0.id) ∧ w'.cell? ⟨bk, ok + 5, none⟩ = some (.string x0.data) ∧ w'.cell? ⟨bk, ok + j * 6, none⟩ = some (.int .i64 x.k) ∧ w'.cell? ⟨bk, ok + j * 6 + 1, none⟩ = some (.int .i64 x.m) ∧ w'.cell? ⟨bk, ok + j * 6 + 2, none⟩ = some (.int .i64 x.i) ∧ w'.cell? ⟨bk, ok + j * 6 + 3, none⟩ = some (.int .i64 x.long) ∧ w'.cell? ⟨bk, ok + j * 6 + 4, none⟩ = some (.string x.id) ∧ w'.cell? ⟨bk, ok + j * 6 + 5, none⟩ = some (.string x.data))) := fun w' hb => by
            have hb5 : Below w5.heap.size w5 w' := below_step HBj.out hb
            have hbw : Below w.heap.size w w' := below_step HG5.out.be hb5
            have A := (hCo j hlj).below hb5 hbo
            have B := (hC 0 h0i).below hbw hbl
            have B' := (hC j hlj).below hbw hbl
            have D := (hCk 0 h0i).below hb5 hbk
            have D' := (hCk j hlj).below hb5 hbk
            rw [Nat.zero_mul, Nat.add_zero, ← hx0] at B D
            rw [← hx] at A B' D'
            exact ⟨hb, A.c0, A.c1, A.c2, A.c3, A.c4, A.c5, B.c0, B.c1, B.c2, B.c3, B.c4, B.c5, B'.c0, B'.c1, B'.c2, B'.c3, B'.c4, B'.c5, D.c0, D.c1, D.c2, D.c3, D.c4, D.c5, D'.c0, D'.c1, D'.c2, D'.c3, D'.c4, D'.c5⟩
          have S0 := hide (KS.out _ (Below.refl wr.heap.size wr).drew)
          obtain ⟨t, ht⟩ := ft_bool x0 x
          have C1 : Hid (∀ (u v : Value) (w' : World), u = .agg #[.int .i64 x0.k, .int .i64 x0.m, .int .i64 x0.i, .int .i64 x0.long, .string x0.id, .string x0.data] → v = .agg #[.int .i64 x.k, .int .i64 x.m, .int .i64 x.i, .int .i64 x.long, .string x.id, .string x.data] → (Below wr.heap.size wr w' ∧ w'.cell? ⟨bo, oo + j * 6, none⟩ = some (.int .i64 x.k) ∧ w'.cell? ⟨bo, oo + j * 6 + 1, none⟩ = some (.int .i64 x.m) ∧ w'.cell? ⟨bo, oo + j * 6 + 2, none⟩ = some (.int .i64 x.i) ∧ w'.cell? ⟨bo, oo + j * 6 + 3, none⟩ = some (.int .i64 x.long) ∧ w'.cell? ⟨bo, oo + j * 6 + 4, none⟩ = some (.string x.id) ∧ w'.cell? ⟨bo, oo + j * 6 + 5, none⟩ = some (.string x.data) ∧ w'.cell? ⟨bl, off, none⟩ = some (.int .i64 x0.k) ∧ w'.cell? ⟨bl, off + 1, none⟩ = some (.int .i64 x0.m) ∧ w'.cell? ⟨bl, off + 2, none⟩ = some (.int .i64 x0.i) ∧ w'.cell? ⟨bl, off + 3, none⟩ = some (.int .i64 x0.long) ∧ w'.cell? ⟨bl, off + 4, none⟩ = some (.string x0.id) ∧ w'.cell? ⟨bl, off + 5, none⟩ = some (.string x0.data) ∧ w'.cell? ⟨bl, off + j * 6, none⟩ = some (.int .i64 x.k) ∧ w'.cell? ⟨bl, off + j * 6 + 1, none⟩ = some (.int .i64 x.m) ∧ w'.cell? ⟨bl, off + j * 6 + 2, none⟩ = some (.int .i64 x.i) ∧ w'.cell? ⟨bl, off + j * 6 + 3, none⟩ = some (.int .i64 x.long) ∧ w'.cell? ⟨bl, off + j * 6 + 4, none⟩ = some (.string x.id) ∧ w'.cell? ⟨bl, off + j * 6 + 5, none⟩ = some (.string x.data) ∧ w'.cell? ⟨bk, ok, none⟩ = some (.int .i64 x0.k) ∧ w'.cell? ⟨bk, ok + 1, none⟩ = some (.int .i64 x0.m) ∧ w'.cell? ⟨bk, ok + 2, none⟩ = some (.int .i64 x0.i) ∧ w'.cell? ⟨bk, ok + 3, none⟩ = some (.int .i64 x0.long) ∧ w'.cell? ⟨bk, ok + 4, none⟩ = some (.string x0.id) ∧ w'.cell? ⟨bk, ok + 5, none⟩ = some (.string x0.data) ∧ w'.cell? ⟨bk, ok + j * 6, none⟩ = some (.int .i64 x.k) ∧ w'.cell? ⟨bk, ok + j * 6 + 1, none⟩ = some (.int .i64 x.m) ∧ w'.cell? ⟨bk, ok + j * 6 + 2, none⟩ = some (.int .i64 x.i) ∧ w'.cell? ⟨bk, ok + j * 6 + 3, none⟩ = some (.int .i64 x.long) ∧ w'.cell? ⟨bk, ok + j * 6 + 4, none⟩ = some (.string x.id) ∧ w'.cell? ⟨bk, ok + j * 6 + 5, none⟩ = some (.string x.data)) → Calls Tryz.prog 14 #[u, v] w' fun e w'' => e = .returned (.bool t) ∧ (Below wr.heap.size wr w'' ∧ w''.cell? ⟨bo, oo + j * 6, none⟩ = some (.int .i64 x.k) ∧ w''.cell? ⟨bo, oo + j * 6 + 1, none⟩ = some (.int .i64 x.m) ∧ w''.cell? ⟨bo, oo + j * 6 + 2, none⟩ = some (.int .i64 x.i) ∧ w''.cell? ⟨bo, oo + j * 6 + 3, none⟩ = some (.int .i64 x.long) ∧ w''.cell? ⟨bo, oo + j * 6 + 4, none⟩ = some (.string x.id) ∧ w''.cell? ⟨bo, oo + j * 6 + 5, none⟩ = some (.string x.data) ∧ w''.cell? ⟨bl, off, none⟩ = some (.int .i64 x0.k) ∧ w''.cell? ⟨bl, off + 1, none⟩ = some (.int .i64 x0.m) ∧ w''.cell? ⟨bl, off + 2, none⟩ = some (.int .i64 x0.i) ∧ w''.cell? ⟨bl, off + 3, none⟩ = some (.int .i64 x0.long) ∧ w''.cell? ⟨bl, off + 4, none⟩ = some (.string x0.id) ∧ w''.cell? ⟨bl, off + 5, none⟩ = some (.string x0.data) ∧ w''.cell? ⟨bl, off + j * 6, none⟩ = some (.int .i64 x.k) ∧ w''.cell? ⟨bl, off + j * 6 + 1, none⟩ = some (.int .i64 x.m) ∧ w''.cell? ⟨bl, off + j * 6 + 2, none⟩ = some (.int .i64 x.i) ∧ w''.cell? ⟨bl, off + j * 6 + 3, none⟩ = some (.int .i64 x.long) ∧ w''.cell? ⟨bl, off + j * 6 + 4, none⟩ = some (.string x.id) ∧ w''.cell? ⟨bl, off + j * 6 + 5, none⟩ = some (.string x.data) ∧ w''.cell? ⟨bk, ok, none⟩ = some (.int .i64 x0.k) ∧ w''.cell? ⟨bk, ok + 1, none⟩ = some (.int .i64 x0.m) ∧ w''.cell? ⟨bk, ok + 2, none⟩ = some (.int .i64 x0.i) ∧ w''.cell? ⟨bk, ok + 3, none⟩ = some (.int .i64 x0.long) ∧ w''.cell? ⟨bk, ok + 4, none⟩ = some (.string x0.id) ∧ w''.cell? ⟨bk, ok + 5, none⟩ = some (.string x0.data) ∧ w''.cell? ⟨bk, ok + j * 6, none⟩ = some (.int .i64 x.k) ∧ w''.cell? ⟨bk, ok + j * 6 + 1, none⟩ = some (.int .i64 x.m) ∧ w''.cell? ⟨bk, ok + j * 6 + 2, none⟩ = some (.int .i64 x.i) ∧ w''.cell? ⟨bk, ok + j * 6 + 3, none⟩ = some (.int .i64 x.long) ∧ w''.cell? ⟨bk, ok + j * 6 + 4, none⟩ = some (.string x.id) ∧ w''.cell? ⟨bk, ok + j * 6 + 5, none⟩ = some (.string x.data))) := fun u v w' hu hv h => by
            subst hu
            subst hv
            exact (fits_any x0 x w' t ht).mono fun _ _ ⟨he, hk⟩ => ⟨he, KS.out _ (below_step h.1 hk)⟩
          have C2 : Hid (∀ (u v : Value) (w' : World), u = .agg #[.int .i64 x0.k, .int .i64 x0.m, .int .i64 x0.i, .int .i64 x0.long, .string x0.id, .string x0.data] → v = .agg #[.int .i64 x.k, .int .i64 x.m, .int .i64 x.i, .int .i64 x.long, .string x.id, .string x.data] → (Below wr.heap.size wr w' ∧ w'.cell? ⟨bo, oo + j * 6, none⟩ = some (.int .i64 x.k) ∧ w'.cell? ⟨bo, oo + j * 6 + 1, none⟩ = some (.int .i64 x.m) ∧ w'.cell? ⟨bo, oo + j * 6 + 2, none⟩ = some (.int .i64 x.i) ∧ w'.cell? ⟨bo, oo + j * 6 + 3, none⟩ = some (.int .i64 x.long) ∧ w'.cell? ⟨bo, oo + j * 6 + 4, none⟩ = some (.string x.id) ∧ w'.cell? ⟨bo, oo + j * 6 + 5, none⟩ = some (.string x.data) ∧ w'.cell? ⟨bl, off, none⟩ = some (.int .i64 x0.k) ∧ w'.cell? ⟨bl, off + 1, none⟩ = some (.int .i64 x0.m) ∧ w'.cell? ⟨bl, off + 2, none⟩ = some (.int .i64 x0.i) ∧ w'.cell? ⟨bl, off + 3, none⟩ = some (.int .i64 x0.long) ∧ w'.cell? ⟨bl, off + 4, none⟩ = some (.string x0.id) ∧ w'.cell? ⟨bl, off + 5, none⟩ = some (.string x0.data) ∧ w'.cell? ⟨bl, off + j * 6, none⟩ = some (.int .i64 x.k) ∧ w'.cell? ⟨bl, off + j * 6 + 1, none⟩ = some (.int .i64 x.m) ∧ w'.cell? ⟨bl, off + j * 6 + 2, none⟩ = some (.int .i64 x.i) ∧ w'.cell? ⟨bl, off + j * 6 + 3, none⟩ = some (.int .i64 x.long) ∧ w'.cell? ⟨bl, off + j * 6 + 4, none⟩ = some (.string x.id) ∧ w'.cell? ⟨bl, off + j * 6 + 5, none⟩ = some (.string x.data) ∧ w'.cell? ⟨bk, ok, none⟩ = some (.int .i64 x0.k) ∧ w'.cell? ⟨bk, ok + 1, none⟩ = some (.int .i64 x0.m) ∧ w'.cell? ⟨bk, ok + 2, none⟩ = some (.int .i64 x0.i) ∧ w'.cell? ⟨bk, ok + 3, none⟩ = some (.int .i64 x0.long) ∧ w'.cell? ⟨bk, ok + 4, none⟩ = some (.string x0.id) ∧ w'.cell? ⟨bk, ok + 5, none⟩ = some (.string x0.data) ∧ w'.cell? ⟨bk, ok + j * 6, none⟩ = some (.int .i64 x.k) ∧ w'.cell? ⟨bk, ok + j * 6 + 1, none⟩ = some (.int .i64 x.m) ∧ w'.cell? ⟨bk, ok + j * 6 + 2, none⟩ = some (.int .i64 x.i) ∧ w'.cell? ⟨bk, ok + j * 6 + 3, none⟩ = some (.int .i64 x.long) ∧ w'.cell? ⟨bk, ok + j * 6 + 4, none⟩ = some (.string x.id) ∧ w'.cell? ⟨bk, ok + j * 6 + 5, none⟩ = some (.string x.data)) → Calls Tryz.prog 15 #[u, v] w' fun e w'' => e = .returned (.bool t) ∧ (Below wr.heap.size wr w'' ∧ w''.cell? ⟨bo, oo + j * 6, none⟩ = some (.int .i64 x.k) ∧ w''.cell? ⟨bo, oo + j * 6 + 1, none⟩ = some (.int .i64 x.m) ∧ w''.cell? ⟨bo, oo + j * 6 + 2, none⟩ = some (.int .i64 x.i) ∧ w''.cell? ⟨bo, oo + j * 6 + 3, none⟩ = some (.int .i64 x.long) ∧ w''.cell? ⟨bo, oo + j * 6 + 4, none⟩ = some (.string x.id) ∧ w''.cell? ⟨bo, oo + j * 6 + 5, none⟩ = some (.string x.data) ∧ w''.cell? ⟨bl, off, none⟩ = some (.int .i64 x0.k) ∧ w''.cell? ⟨bl, off + 1, none⟩ = some (.int .i64 x0.m) ∧ w''.cell? ⟨bl, off + 2, none⟩ = some (.int .i64 x0.i) ∧ w''.cell? ⟨bl, off + 3, none⟩ = some (.int .i64 x0.long) ∧ w''.cell? ⟨bl, off + 4, none⟩ = some (.string x0.id) ∧ w''.cell? ⟨bl, off + 5, none⟩ = some (.string x0.data) ∧ w''.cell? ⟨bl, off + j * 6, none⟩ = some (.int .i64 x.k) ∧ w''.cell? ⟨bl, off + j * 6 + 1, none⟩ = some (.int .i64 x.m) ∧ w''.cell? ⟨bl, off + j * 6 + 2, none⟩ = some (.int .i64 x.i) ∧ w''.cell? ⟨bl, off + j * 6 + 3, none⟩ = some (.int .i64 x.long) ∧ w''.cell? ⟨bl, off + j * 6 + 4, none⟩ = some (.string x.id) ∧ w''.cell? ⟨bl, off + j * 6 + 5, none⟩ = some (.string x.data) ∧ w''.cell? ⟨bk, ok, none⟩ = some (.int .i64 x0.k) ∧ w''.cell? ⟨bk, ok + 1, none⟩ = some (.int .i64 x0.m) ∧ w''.cell? ⟨bk, ok + 2, none⟩ = some (.int .i64 x0.i) ∧ w''.cell? ⟨bk, ok + 3, none⟩ = some (.int .i64 x0.long) ∧ w''.cell? ⟨bk, ok + 4, none⟩ = some (.string x0.id) ∧ w''.cell? ⟨bk, ok + 5, none⟩ = some (.string x0.data) ∧ w''.cell? ⟨bk, ok + j * 6, none⟩ = some (.int .i64 x.k) ∧ w''.cell? ⟨bk, ok + j * 6 + 1, none⟩ = some (.int .i64 x.m) ∧ w''.cell? ⟨bk, ok + j * 6 + 2, none⟩ = some (.int .i64 x.i) ∧ w''.cell? ⟨bk, ok + j * 6 + 3, none⟩ = some (.int .i64 x.long) ∧ w''.cell? ⟨bk, ok + j * 6 + 4, none⟩ = some (.string x.id) ∧ w''.cell? ⟨bk, ok + j * 6 + 5, none⟩ = some (.string x.data))) := fun u v w' hu hv h => by
            subst hu
            subst hv
            exact (rfits_any x0 x w' t ht).mono fun _ _ ⟨he, hk⟩ => ⟨he, KS.out _ (below_step h.1 hk)⟩
          clear hx hx0 hC hO hK hCo hCk e1 e2 ht HLX
          go_upto_region 17 with fail
          go_region_held3 (fun w' => Below wr.heap.size wr w' ∧ w'.cell? ⟨bo, oo + j * 6, none⟩ = some (.int .i64 x.k) ∧ w'.cell? ⟨bo, oo + j * 6 + 1, none⟩ = some (.int .i64 x.m) ∧ w'.cell? ⟨bo, oo + j * 6 + 2, none⟩ = some (.int .i64 x.i) ∧ w'.cell? ⟨bo, oo + j * 6 + 3, none⟩ = some (.int .i64 x.long) ∧ w'.cell? ⟨bo, oo + j * 6 + 4, none⟩ = some (.string x.id) ∧ w'.cell? ⟨bo, oo + j * 6 + 5, none⟩ = some (.string x.data) ∧ w'.cell? ⟨bl, off, none⟩ = some (.int .i64 x0.k) ∧ w'.cell? ⟨bl, off + 1, none⟩ = some (.int .i64 x0.m) ∧ w'.cell? ⟨bl, off + 2, none⟩ = some (.int .i64 x0.i) ∧ w'.cell? ⟨bl, off + 3, none⟩ = some (.int .i64 x0.long) ∧ w'.cell? ⟨bl, off + 4, none⟩ = some (.string x0.id) ∧ w'.cell? ⟨bl, off + 5, none⟩ = some (.string x0.data) ∧ w'.cell? ⟨bl, off + j * 6, none⟩ = some (.int .i64 x.k) ∧ w'.cell? ⟨bl, off + j * 6 + 1, none⟩ = some (.int .i64 x.m) ∧ w'.cell? ⟨bl, off + j * 6 + 2, none⟩ = some (.int .i64 x.i) ∧ w'.cell? ⟨bl, off + j * 6 + 3, none⟩ = some (.int .i64 x.long) ∧ w'.cell? ⟨bl, off + j * 6 + 4, none⟩ = some (.string x.id) ∧ w'.cell? ⟨bl, off + j * 6 + 5, none⟩ = some (.string x.data) ∧ w'.cell? ⟨bk, ok, none⟩ = some (.int .i64 x0.k) ∧ w'.cell? ⟨bk, ok + 1, none⟩ = some (.int .i64 x0.m) ∧ w'.cell? ⟨bk, ok + 2, none⟩ = some (.int .i64 x0.i) ∧ w'.cell? ⟨bk, ok + 3, none⟩ = some (.int .i64 x0.long) ∧ w'.cell? ⟨bk, ok + 4, none⟩ = some (.string x0.id) ∧ w'.cell? ⟨bk, ok + 5, none⟩ = some (.string x0.data) ∧ w'.cell? ⟨bk, ok + j * 6, none⟩ = some (.int .i64 x.k) ∧ w'.cell? ⟨bk, ok + j * 6 + 1, none⟩ = some (.int .i64 x.m) ∧ w'.cell? ⟨bk, ok + j * 6 + 2, none⟩ = some (.int .i64 x.i) ∧ w'.cell? ⟨bk, ok + j * 6 + 3, none⟩ = some (.int .i64 x.long) ∧ w'.cell? ⟨bk, ok + j * 6 + 4, none⟩ = some (.string x.id) ∧ w'.cell? ⟨bk, ok + j * 6 + 5, none⟩ = some (.string x.data)) (first | assumption | exact S0.out)
            (first
              | (go_at_call 14; refine (C1.out _ _ _ (by with_reducible rfl) (by with_reducible rfl) (by assumption)).mono ?_; rintro e wa ⟨rfl, ka⟩)
              | (go_at_call 15; refine (C2.out _ _ _ (by with_reducible rfl) (by with_reducible rfl) (by assumption)).mono ?_; rintro e wb ⟨rfl, kb⟩))
          have HBb := hide (below_step HBj.out kb.1)
          clear ka kb C1 C2 S0 KS
          go_wp2
          exact ⟨⟨j + 1, by omega, by go_num, HBb.out⟩, by simp [RowKit.intOf]; omega⟩
        · obtain rfl : j = i := by omega
          go_wp2_with fail
          refine (sworks_any _).mono ?_
          rintro e w6 ⟨rfl, hw6⟩
          subst w6
          go_wp2
          go_ret
          exact ⟨rfl, below_step HG5.out.be HBj.out⟩
end Go.Proofs.YtklaeocnimkboaaGreatDoor

