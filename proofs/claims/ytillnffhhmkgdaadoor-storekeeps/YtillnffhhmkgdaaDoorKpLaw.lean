/-
  StoreKeeps: the walk.
-/
import Derived.Test.YtillnffhhmkgdaaDoorKpKit
namespace Go.Proofs.YtillnffhhmkgdaaDoor
open Go.RowKit Go.Lib Go.Maps

theorem take_at {ops : Array Oper} {Q : Exit → Act → World → Prop} {S : World → Prop} {i d : Nat} {oi : Oper} {v : Value} {fuel : Nat} {listed : Array Bool} {a : Act} {w : World} (hi : ops[i]? = some oi) (hd : oi.dst = some d)
    (hs : Region.noSelect ops = true) (hf : Region.free .any ops listed i = true) (hr : (Region.ready .any ops listed).contains i = true)
    (hQ : ∀ c a w, Q (.panic c) (a.put oi.dst v) w → Q (.panic c) a w) (hy : YieldsIf Tryd.prog ops S oi v a) (hS : S w)
    (h : wpAnyH Tryd.prog .any ops Q S fuel (listed.setIfInBounds i true) ⟨a.tmps.setIfInBounds d v, a.defers⟩ w) : wpAnyH Tryd.prog .any ops Q S (fuel + 1) listed a w :=
  wpAnyH_take hi hs hf hr hQ hy hS (by rw [hd]; exact h)
/-- What is kept may be made more on the way. -/
theorem wpAnyH_stronger {P : Program} {md : Region.Mode} {ops : Array Oper} {Q : Exit → Act → World → Prop} {S S' : World → Prop} (hS : ∀ w, S' w → S w) :
    ∀ {fuel : Nat} {listed : Array Bool} {a : Act} {w : World}, wpAnyH P md ops Q S' fuel listed a w → wpAnyH P md ops Q S fuel listed a w
  | 0, _, _, _, h => h
  | _ + 1, _, _, _, h => ⟨h.1, fun i hi => wpOp_mono (fun _ _ h' => ⟨hS _ h'.1, wpAnyH_stronger hS h'.2⟩) (h.2 i hi)⟩
/-- The kind of a number. -/
def kdm : Nat → Int
  | 0 => 1
  | 1 => 2
  | 2 => 4
  | _ => 3
theorem zcell {w : World} {z k : Nat} {kd : Int} {T : TypeId} (h : w.heap[z]? = some (.cells #[.int .i64 1, .int .i64 2, .int .i64 4, .int .i64 3] T (0, 0))) (hk : k < 4) (hd : kd = kdm k) : w.cell? ⟨z, k, none⟩ = some (.int .i64 kd) := by
  subst hd
  match k, hk with
  | 0, _ => simp [World.cell?, h, kdm]
  | 1, _ => simp [World.cell?, h, kdm]
  | 2, _ => simp [World.cell?, h, kdm]
  | 3, _ => simp [World.cell?, h, kdm]
theorem not_two {X z b mb g : Nat} (hz : X < z) (h : b < X ∧ mb < X ∧ g < X) : ¬ two b mb z := by rintro (e | e) <;> omega
/-- What is asked. -/
structure DA where
  k : Int
  n : Int
  d : ByteArray
  f : Bool
/-- A list of what is asked lies in memory. -/
def LD (w : World) (v : Value) (l : List DA) : Prop :=
  ∃ a c, v = .slice a l.length c ∧ (l = [] ∨ ∃ g o, a = some ⟨g, o, none⟩ ∧ g < w.heap.size ∧ ∀ i x, l[i]? = some x → w.cell? ⟨g, o + i * 4, none⟩ = some (.int .i64 x.k) ∧ w.cell? ⟨g, o + i * 4 + 1, none⟩ = some (.int .i64 x.n) ∧ w.cell? ⟨g, o + i * 4 + 2, none⟩ = some (.string x.d) ∧ w.cell? ⟨g, o + i * 4 + 3, none⟩ = some (.bool x.f))
/-- What holds along the acts. -/
structure KI (W wr : World) (b mb g j : Nat) (q m : Int) (L : List OB) : Prop where
  st : ST W wr b mb ⟨q, 0, m, false, L⟩
  ms : MS wr g L
  hg : W.heap.size ≤ g
  ne : g ≠ mb
  m0 : 0 ≤ m
  mj : m ≤ (j : Int)
  len : L.length ≤ j
  two : ∀ p ∈ L, p.n.size = 2
section
variable {W wr w' : World} {b mb g j : Nat} {q m : Int} {L : List OB}
theorem KI.bel (h : KI W wr b mb g j q m L) (k : Below wr.heap.size wr w') : KI W w' b mb g j q m L := ⟨h.st.bel k, h.ms.bel k, h.hg, h.ne, h.m0, h.mj, h.len, h.two⟩
theorem KI.next (h : KI W wr b mb g j q m L) : KI W wr b mb g (j + 1) q m L := ⟨h.st, h.ms, h.hg, h.ne, h.m0, by have := h.mj; omega, by have := h.len; omega, h.two⟩
theorem KI.gb (h : KI W wr b mb g j q m L) : g ≠ b := fun e => by
  have h1 := h.ms
  rw [e] at h1
  obtain ⟨es, clock, hm, r⟩ := h1
  have := h.st.ps.blk
  rw [hm] at this
  cases this
end

/-- What holds within a round. -/
structure KF (W wx : World) (b mb g X : Nat) (s : SS) (L : List OB) (xk xn : Int) (xd : ByteArray) (xf : Bool) : Prop where
  st : ST W wx b mb s
  ms : MS wx g L
  kx : wx.heap[X]? = some (.cells #[.int .i64 xk, .int .i64 xn, .string xd, .bool xf] 31 (0, 0))
section
variable {W wx w' : World} {b mb g X : Nat} {s s' : SS} {L : List OB} {xk xn : Int} {xd : ByteArray} {xf : Bool}
theorem KF.bel (h : KF W wx b mb g X s L xk xn xd xf) (k : Below wx.heap.size wx w') : KF W w' b mb g X s L xk xn xd xf := ⟨h.st.bel k, h.ms.bel k, (k.block _ (lt_of_block h.kx)).trans h.kx⟩
theorem KF.drew (h : KF W wx b mb g X s L xk xn xd xf) : KF W wx.drew b mb g X s L xk xn xd xf := ⟨h.st.drew, h.ms, h.kx⟩
theorem KF.alloc (h : KF W wx b mb g X s L xk xn xd xf) (o : Obj) : KF W (wx.alloc o) b mb g X s L xk xn xd xf := h.bel ((Below.refl _ _).alloc (Nat.le_refl _) _)
theorem KF.xb (h : KF W wx b mb g X s L xk xn xd xf) : X ≠ b ∧ X ≠ mb := by
  constructor
  · intro e
    have h1 := h.kx
    rw [e, h.st.ps.blk] at h1
    simp at h1
  · intro e
    have h1 := h.kx
    rw [e] at h1
    exact h.st.ps.map.notCells h1
theorem KF.gs (h : KF W wx b mb g X s L xk xn xd xf) (hg : Gs (two b mb) wx w') (hs : ST W w' b mb s') (h1 : g ≠ b) (h2 : g ≠ mb) : KF W w' b mb g X s' L xk xn xd xf :=
  ⟨hs, h.ms.gs hg (by rintro (e | e); exact h1 e; exact h2 e), (hg.block _ (lt_of_block h.kx) (by rintro (e | e); exact h.xb.1 e; exact h.xb.2 e)).trans h.kx⟩
theorem KF.c0 (h : KF W wx b mb g X s L xk xn xd xf) : wx.cell? ⟨X, 0, none⟩ = some (.int .i64 xk) := by simp [World.cell?, h.kx]
theorem KF.c2 (h : KF W wx b mb g X s L xk xn xd xf) : wx.cell? ⟨X, 2, none⟩ = some (.string xd) := by simp [World.cell?, h.kx]
theorem KF.c3 (h : KF W wx b mb g X s L xk xn xd xf) : wx.cell? ⟨X, 3, none⟩ = some (.bool xf) := by simp [World.cell?, h.kx]
/-- What a region keeps. -/
def KS (W wx : World) (b mb g X : Nat) (L : List OB) (xk xn : Int) (xd : ByteArray) (xf : Bool) : Prop := (∃ s, KF W wx b mb g X s L xk xn xd xf)
theorem KF.kp (h : KF W wx b mb g X s L xk xn xd xf) : Hid (KS W wx b mb g X L xk xn xd xf) ∧ wx.cell? ⟨X, 0, none⟩ = some (.int .i64 xk) ∧ wx.cell? ⟨X, 2, none⟩ = some (.string xd) := ⟨⟨s, h⟩, h.c0, h.c2⟩
theorem KF.set (h : KF W wx b mb g X s L xk xn xd xf) {r : Nat} (hr : X < r) (hb : b < X) (hm : mb < X) (hg : g < X) (jj : Nat) (u : Value) : KF W (wx.setCell ⟨r, jj, none⟩ u) b mb g X s L xk xn xd xf := by
  have hX := lt_of_block h.kx
  refine ⟨⟨⟨(Below.heap_setCell _ _ _ _ (by show b ≠ r; omega)).trans h.st.ps.blk, h.st.ps.map.set (by show mb ≠ r; omega) _, h.st.ps.ris, h.st.ps.small⟩, h.st.hb, h.st.hm, h.st.be.setCell (p := ⟨r, jj, none⟩) (by have := h.st.hb; show W.heap.size ≤ r; omega) _⟩, World.ownsMap.setCell h.ms (by show g ≠ r; omega) _, (Below.heap_setCell _ _ _ _ (by show X ≠ r; omega)).trans h.kx⟩
theorem st_fail (h : ST W wx b mb s) (n : Int) (hn : 0 ≤ n ∧ n ≤ 1048576) :
    Calls Tryd.prog 8 #[.pointer (some ⟨b, 0, none⟩), .int .i64 n] wx fun e w' => e = .returned (.int .i64 0) ∧ ST W w' b mb { s with f := n } ∧ Gs (two b mb) wx w' := by
  refine (fail_any h.ps n).mono ?_
  rw [if_pos hn, if_pos hn]
  rintro e w' ⟨rfl, hp, hg⟩
  exact ⟨rfl, h.gs hg hp, hg⟩
end

set_option maxRecDepth 100000 in
set_option maxHeartbeats 6400000 in
theorem keeps_walk {w : World} {v : Value} {l : List DA} (qq : Int) (hT : LD w v l) (hls : ∀ x ∈ l, x.d.size ≤ 9223372036854775807) (hl : l.length ≤ 9223372036854775807) :
    Calls Tryd.prog 3 #[.int .i64 qq, v] w fun e w' => e = .returned (.bool true) ∧ Below w.heap.size w w' := by
  obtain ⟨va, vc, rfl, hT⟩ := hT
  obtain ⟨N, hN⟩ : ∃ N, N = l.length := ⟨_, rfl⟩
  rw [← hN]
  have HN := hide hN
  have HT := hide hT
  have HLS := hide hls
  have hNl : N ≤ 9223372036854775807 := by omega
  have hQ := (amg_spec qq 500 (by decide)).2.1
  have HA0 : Hid _ := hide (among_any w qq 500 (by decide) (by decide))
  generalize amg qq 500 = Q at *
  have HN0 : Hid _ := hide (new_ok (Q : Int) w (by omega) (by omega))
  clear hT hN hls hl
  go_enter Tryd.func3, Tryd.ntmps3
  go_wp2_with fail
  refine HA0.out.mono ?_
  rintro e w0 ⟨rfl, rfl⟩
  go_wp2_with fail
  refine HN0.out.mono ?_
  rintro e w1 ⟨rfl, hP1, hb1⟩
  have HS1 : Hid (ST w0 w1 (w0.heap.size + 1) w0.heap.size ⟨Q, 0, 0, false, []⟩) := ⟨hP1, by omega, by omega, hb1⟩
  clear hP1 hb1 HN0 HA0
  have HW : Hid _ := hide (works_any w1)
  go_wp2_with fail
  refine HW.out.mono ?_
  rintro e w2 ⟨rfl, hb2⟩
  have hS2 := HS1.out.bel hb2
  obtain ⟨g, hg⟩ : ∃ g, g = w2.heap.size := ⟨_, rfl⟩
  have hal : Below w2.heap.size w2 (w2.alloc (.map #[] 0)) := (Below.refl _ _).alloc (Nat.le_refl _) _
  have HK2 : Hid (KI w0 (w2.alloc (.map #[] 0)) (w0.heap.size + 1) w0.heap.size g 0 Q 0 []) := ⟨hS2.bel hal, by rw [hg]; exact MS.made w2, by rw [hg]; exact hS2.be.size, by rw [hg]; have := PS.mlt hS2.px; omega, by omega, by omega, by simp, fun p hp => by cases hp⟩
  have hmk : (Instr.makeMap 29 none).run Tryd.prog w2 = .ok (.map (some g)) (w2.alloc (.map #[] 0)) := by rw [hg]; rfl
  obtain ⟨U2, hU2⟩ : ∃ U2, U2 = w2.alloc (.map #[] 0) := ⟨_, rfl⟩
  rw [← hU2] at HK2 hmk
  clear hb2 HS1 HW hS2 hal hU2 hg
  go_upto_block 0 with fail
  go_cut [8] (fun th wx => ∃ (j : Nat) (m : Int) (L : List OB), th = .int .i64 ((usedL L : Nat) : Int) ∧ j ≤ 50 ∧ KI w0 wx (w0.heap.size + 1) w0.heap.size g j Q m L)
  case first =>
    go_wp2
    go_loopw [8, 9] (fun th i wr => ∃ (j : Nat) (m : Int) (L : List OB), j ≤ N ∧ j ≤ 50 ∧ i = .int .i64 j ∧ th = .int .i64 ((usedL L : Nat) : Int) ∧ KI w0 wr (w0.heap.size + 1) w0.heap.size g j Q m L) (fun _ i _ => 51 - (intOf i).toNat)
    case atStart => exact ⟨0, 0, [], Nat.zero_le _, by omega, rfl, rfl, HK2.out⟩
    case round =>
      obtain ⟨j, m, L, hj, hj5, rfl, rfl, hI⟩ := hrel
      have HI := hide hI
      clear hI HK2 hmk
      by_cases hlt : j < N ∧ j < 50
      · obtain ⟨hlt, hlt4⟩ := hlt
        have b1 : (j : Int) < (N : Int) := by omega
        have b0 : (0 : Int) ≤ (j : Int) := by omega
        have b2 : (j : Int) < 50 := by omega
        have hjl : j < l.length := by rw [← HN.out]; omega
        obtain ⟨x, hx⟩ : ∃ x, l[j]? = some x := ⟨_, List.getElem?_eq_getElem hjl⟩
        have hxs := HLS.out x (List.mem_of_getElem? hx)
        obtain ⟨bb, o, rfl, hbb, hC⟩ := HT.out.resolve_left (by intro e; rw [e] at hx; simp at hx)
        obtain ⟨x0, x1, x2, x3⟩ := hC j x hx
        have y0 := (HI.out.st.be.cell (p := ⟨bb, o + j * 4, none⟩) hbb).trans x0
        have y1 := (HI.out.st.be.cell (p := ⟨bb, o + j * 4 + 1, none⟩) hbb).trans x1
        have y2 := (HI.out.st.be.cell (p := ⟨bb, o + j * 4 + 2, none⟩) hbb).trans x2
        have y3 := (HI.out.st.be.cell (p := ⟨bb, o + j * 4 + 3, none⟩) hbb).trans x3
        clear x0 x1 x2 x3 hC hx
        obtain ⟨xk, xn, xd, xf⟩ := x
        dsimp only at y0 y1 y2 y3 hxs
        obtain ⟨V, hV⟩ : ∃ V, V = wr.alloc (.cells #[.int .i64 xk, .int .i64 xn, .string xd, .bool xf] 31) := ⟨_, rfl⟩
        obtain ⟨X, hX⟩ : ∃ X, X = wr.heap.size := ⟨_, rfl⟩
        have hbV : Below wr.heap.size wr V := by rw [hV]; exact (Below.refl _ _).alloc (Nat.le_refl _) _
        have hkX : V.heap[X]? = some (.cells #[.int .i64 xk, .int .i64 xn, .string xd, .bool xf] 31 (0, 0)) := by rw [hV, hX]; exact heap_alloc_new _ _
        have HIV := hide (HI.out.bel hbV)
        have HV := hide hV
        have HX := hide hX
        have q0 : V.cell? ⟨X, 0, none⟩ = some (.int .i64 xk) := by simp [World.cell?, hkX]
        have q1 : V.cell? ⟨X, 1, none⟩ = some (.int .i64 xn) := by simp [World.cell?, hkX]
        have q2 : V.cell? ⟨X, 2, none⟩ = some (.string xd) := by simp [World.cell?, hkX]
        have q3 : V.cell? ⟨X, 3, none⟩ = some (.bool xf) := by simp [World.cell?, hkX]
        have HKX := hide hkX
        have HBV := hide hbV
        obtain ⟨k, hk⟩ : ∃ k, k = amg xn 9 := ⟨_, rfl⟩
        have hk9 : k < 9 := by rw [hk]; exact (amg_spec xn 9 (by decide)).2.1
        have HAM : Hid (∀ w', Calls Tryd.prog 4 #[.int .i64 xn, .int .i64 9] w' fun e w'' => e = .returned (.int .i64 (k : Int)) ∧ w'' = w') := fun w' => by rw [hk]; exact among_any w' xn 9 (by decide) (by decide)
        obtain ⟨k4, hk4⟩ : ∃ k4, k4 = amg xk 4 := ⟨_, rfl⟩
        have hk44 : k4 < 4 := by rw [hk4]; exact (amg_spec xk 4 (by decide)).2.1
        have HAM4 : Hid (∀ w', Calls Tryd.prog 4 #[.int .i64 xk, .int .i64 4] w' fun e w'' => e = .returned (.int .i64 (k4 : Int)) ∧ w'' = w') := fun w' => by rw [hk4]; exact among_any w' xk 4 (by decide) (by decide)
        obtain ⟨dd, hdd⟩ : ∃ dd, dd = dgs.extract k (k + 1) := ⟨_, rfl⟩
        have HIT : Hid _ := hide (itoa_any k hk9)
        rw [← hdd] at HIT
        obtain ⟨nm, hnm⟩ : ∃ nm : ByteArray, nm = ⟨#[110]⟩ ++ dd := ⟨_, rfl⟩
        have hnk : nm = nmK k := by rw [hnm, hdd]; rfl
        have hn2 : nm.size = 2 := by rw [hnk]; exact (nmK_ok hk9).1
        have HMB : Hid (mayB nm = true) := by show mayB nm = true; rw [hnk]; exact (nmK_ok hk9).2.1
        have hds : dd.size = 1 := by rw [hdd]; exact (nmK_ok hk9).2.2
        have hadd : ({ data := #[110] } ++ dd : ByteArray) = nm := hnm.symm
        have hsz1 : ¬ 9223372036854775807 < (⟨#[110]⟩ : ByteArray).size + dd.size := by rw [hds]; decide
        have hsz2 : ¬ 9223372036854775807 < 1 + dd.size := by omega
        clear hk hk4 hdd hnm hnk hbV hkX hV hX
        go_upto_region 11 with fail
        rw [← HV.out]
        rw [← HX.out]
        go_wp2_with fail
        refine (HAM.out _).mono ?_
        rintro e w3 ⟨rfl, rfl⟩
        go_wp2_with fail
        refine (HIT.out _).mono ?_
        rintro e w4 ⟨rfl, rfl⟩
        clear HAM HIT
        by_cases h100 : (100 : Int) < (xd.size : Int)
        · have HF := hide HIV.out.next
          go_wp2
          exact ⟨⟨j + 1, m, L, by omega, by omega, by go_num, rfl, HF.out⟩, by simp [intOf]; omega⟩
        · have HKF : Hid (KF w0 w4 (w0.heap.size + 1) w0.heap.size g X ⟨Q, 0, m, false, L⟩ L xk xn xd xf) := ⟨HIV.out.st, HIV.out.ms, HKX.out⟩
          have HGB := hide (And.intro HIV.out.gb HIV.out.ne)
          go_upto_if 58 with fail
          go_cut [60] (fun _ wx => ∃ F : Int, ((xf = true ∧ F = 1) ∨ (xf = false ∧ F = 0)) ∧ KF w0 wx (w0.heap.size + 1) w0.heap.size g X ⟨Q, F, m, false, L⟩ L xk xn xd xf)
          case first =>
            cases xf with
            | true =>
              have HFA : Hid _ := hide (st_fail HKF.out.st 1 (by decide))
              go_wp2_with fail
              refine HFA.out.mono ?_
              rintro e w5 ⟨rfl, hs5, hg5⟩
              have HF := hide (HKF.out.gs hg5 hs5 HGB.out.1 HGB.out.2)
              go_wp2
              go_meet
              case rel => exact ⟨1, by simp, HF.out⟩
            | false =>
              go_wp2
              go_meet
              case rel => exact ⟨0, by simp, HKF.out⟩
          case rest =>
            obtain ⟨F, hF, hKF⟩ := hcut
            have HK := hide hKF
            clear HKF q0 q1 q2 q3 y0 y1 y2 y3
            have hlk := hKF.ms.look (n := nm) (by unfold maxLen; omega)
            obtain ⟨old, hold⟩ : ∃ old, old = (thr L nm).getD ⟨#[]⟩ := ⟨_, rfl⟩
            obtain ⟨th, hth⟩ : ∃ th, th = (thr L nm).isSome := ⟨_, rfl⟩
            rw [← hold, ← hth] at hlk
            have HO := hide hold
            have HTH := hide hth
            clear hold hth hKF
            go_upto_region 16 with fail
            have HF := hide hF
            have HKd : Hid (KF w0 wc.drew (w0.heap.size + 1) w0.heap.size g X ⟨Q, F, m, false, L⟩ L xk xn xd xf) := HK.out.drew
            obtain ⟨s0, hs0⟩ : ∃ s0 : SS, s0 = ⟨Q, F, m, false, L⟩ := ⟨_, rfl⟩
            rw [← hs0] at HKd HK
            have HS0 := hide hs0
            obtain ⟨kd, hkd⟩ : ∃ kd, kd = kdm k4 := ⟨_, rfl⟩
            have HKD := hide hkd
            obtain ⟨rc, rd, rl, hrr⟩ : ∃ rc rd rl, doR s0 kd nm xd = ⟨rc, rd, rl⟩ := ⟨_, _, _, rfl⟩
            obtain ⟨s1, hs1⟩ : ∃ s1, s1 = doS s0 kd nm xd := ⟨_, rfl⟩
            obtain ⟨rn, hrn⟩ : ∃ rn, rn = rl.length := ⟨_, rfl⟩
            have HD : Hid (∀ w1, KF w0 w1 (w0.heap.size + 1) w0.heap.size g X s0 L xk xn xd xf → Calls Tryd.prog 9 #[.pointer (some ⟨w0.heap.size + 1, 0, none⟩), .agg #[.int .i64 0, .int .i64 kd, .string nm, .string xd]] w1 fun e w' => ∃ a c, e = .returned (.agg #[.int .i64 rc, .string rd, .slice a rn c]) ∧ Hid (KF w0 w' (w0.heap.size + 1) w0.heap.size g X s1 L xk xn xd xf) ∧ Hid (Gs (two (w0.heap.size + 1) w0.heap.size) w1 w')) := fun w1 h => by
              have hmj := HI.out.mj
              have hm0 := HI.out.m0
              have hll := HI.out.len
              refine (st_do h.st 0 kd nm xd (by unfold maxLen; omega) hxs (by rw [hs0]; show L.length ≤ _; omega) (by rw [hs0]; exact hm0) (by rw [hs0]; show m ≤ _; omega) (by rw [hs0]; show F ≤ _; rcases hF with ⟨_, h⟩ | ⟨_, h⟩ <;> omega)).mono ?_
              rintro e w' ⟨a, c, rfl, _, hs', hg'⟩
              rw [hrr, hrn]
              rw [← hs1] at hs'
              exact ⟨a, c, rfl, h.gs hg' hs' HGB.out.1 HGB.out.2, hg'⟩
            have HRR := hide hrr
            have HS1 := hide hs1
            have HRN := hide hrn
            have HLT : Hid (w0.heap.size + 1 < X ∧ w0.heap.size < X ∧ g < X) := by
              rw [HX.out]
              exact ⟨PS.lt HI.out.st.px, PS.mlt HI.out.st.px, HI.out.ms.lt⟩
            have bk1 : (k4 : Int) < 4 := by omega
            have bk0 : (0 : Int) ≤ (k4 : Int) := by omega
            clear hs0 hF hlk hkd hrr hs1 hrn
            go_cut [14] (fun v wx => ∃ r a c, v = .pointer (some ⟨r, 0, none⟩) ∧ KF w0 wx (w0.heap.size + 1) w0.heap.size g X s1 L xk xn xd xf ∧ wx.heap[r]? = some (.cells #[.int .i64 rc, .string rd, .slice a rn c] 37 (0, 0)))
            case first =>
              refine wp_region_noPanic ?_
              refine wp_region_held_drew (S := fun wx => (Hid (KS w0 wx (w0.heap.size + 1) w0.heap.size g X L xk xn xd xf) ∧ wx.cell? ⟨X, 0, none⟩ = some (.int .i64 xk) ∧ wx.cell? ⟨X, 2, none⟩ = some (.string xd))) (by kernel_rfl) HK.out.drew.kp (fun hHeld => ?_)
              obtain ⟨wd, hwd⟩ : ∃ wd, wd = wc.drew := ⟨_, rfl⟩
              have HKwd : Hid (KF w0 wd (w0.heap.size + 1) w0.heap.size g X s0 L xk xn xd xf) := by rw [hwd]; exact HK.out.drew
              rw [← hwd] at hHeld ⊢
              clear hwd HK
              refine take_at (i := 0) (d := 67) (v := .pointer (some ⟨w0.heap.size + 1, 0, none⟩)) rfl rfl (by kernel_rfl) (by kernel_rfl) (by kernel_rfl) (fun _ _ _ h => h) (Or.inl ⟨by rfl, fun w' hSw => ?_⟩) hHeld ?_
              · obtain ⟨_, _, _⟩ := hSw
                go_simp
              simp only [List.setIfInBounds_toArray, List.set_cons_zero, List.set_cons_succ]
              refine take_at (i := 2) (d := 69) (v := .pointer (some ⟨X, 0, none⟩)) rfl rfl (by kernel_rfl) (by kernel_rfl) (by kernel_rfl) (fun _ _ _ h => h) (Or.inl ⟨by rfl, fun w' hSw => ?_⟩) hHeld ?_
              · obtain ⟨_, _, _⟩ := hSw
                go_simp
              simp only [List.setIfInBounds_toArray, List.set_cons_zero, List.set_cons_succ]
              refine take_at (i := 3) (d := 70) (v := .int .i64 xk) rfl rfl (by kernel_rfl) (by kernel_rfl) (by kernel_rfl) (fun _ _ _ h => h) (Or.inl ⟨by rfl, fun w' hSw => ?_⟩) hHeld ?_
              · obtain ⟨_, _, _⟩ := hSw
                go_simp
              simp only [List.setIfInBounds_toArray, List.set_cons_zero, List.set_cons_succ]
              refine take_at (i := 7) (d := 74) (v := .string nm) rfl rfl (by kernel_rfl) (by kernel_rfl) (by kernel_rfl) (fun _ _ _ h => h) (Or.inl ⟨by rfl, fun w' hSw => ?_⟩) hHeld ?_
              · obtain ⟨_, _, _⟩ := hSw
                go_simp
              simp only [List.setIfInBounds_toArray, List.set_cons_zero, List.set_cons_succ]
              refine take_at (i := 8) (d := 75) (v := .pointer (some ⟨X, 2, none⟩)) rfl rfl (by kernel_rfl) (by kernel_rfl) (by kernel_rfl) (fun _ _ _ h => h) (Or.inl ⟨by rfl, fun w' hSw => ?_⟩) hHeld ?_
              · obtain ⟨_, _, _⟩ := hSw
                go_simp
              simp only [List.setIfInBounds_toArray, List.set_cons_zero, List.set_cons_succ]
              refine take_at (i := 9) (d := 76) (v := .string xd) rfl rfl (by kernel_rfl) (by kernel_rfl) (by kernel_rfl) (fun _ _ _ h => h) (Or.inl ⟨by rfl, fun w' hSw => ?_⟩) hHeld ?_
              · obtain ⟨_, _, _⟩ := hSw
                go_simp
              simp only [List.setIfInBounds_toArray, List.set_cons_zero, List.set_cons_succ]
              refine wpAnyH_ready (rs := [1, 4, 12]) (by kernel_rfl) (by simp) ?_
              refine AllReadyH.cons rfl (fun K hK => ?_) ?_
              · as_aux_lemma =>
                · go_simp
                  obtain ⟨wb1, hwb1⟩ : ∃ wx, wx = World.alloc wd (.cells #[.int .i64 1, .int .i64 2, .int .i64 4, .int .i64 3] 3) := ⟨_, rfl⟩
                  obtain ⟨zb1, hzb1⟩ : ∃ z, z = (World.heap wd).size := ⟨_, rfl⟩
                  have HKwb1 : Hid (KF w0 wb1 (w0.heap.size + 1) w0.heap.size g X s0 L xk xn xd xf) := by rw [hwb1]; exact HKwd.out.alloc _
                  have HZwb1 : Hid (wb1.heap[zb1]? = some (.cells #[.int .i64 1, .int .i64 2, .int .i64 4, .int .i64 3] 3)) := by rw [hwb1, hzb1]; exact heap_alloc_new _ _
                  have HXzb1 : Hid (X < zb1) := by rw [hzb1]; exact lt_of_block HKwd.out.kx
                  rw [← hwb1, ← hzb1]
                  refine hK.out _ _ HKwb1.out.kp (fun hHeld => ?_)
                  clear hK K hwb1 hzb1
                  refine wpAnyH_stronger (S' := fun wx => ((Hid (KS w0 wx (w0.heap.size + 1) w0.heap.size g X L xk xn xd xf) ∧ wx.cell? ⟨X, 0, none⟩ = some (.int .i64 xk) ∧ wx.cell? ⟨X, 2, none⟩ = some (.string xd)) ∧ wx.cell? ⟨zb1, k4, none⟩ = some (.int .i64 kd))) (fun _ h => h.1) ?_
                  replace hHeld := And.intro hHeld (zcell HZwb1.out hk44 HKD.out)
                  try simp only [Act.put, List.setIfInBounds_toArray, List.set_cons_zero, List.set_cons_succ]
                  refine wpAnyH_ready (rs := [4, 12]) (by kernel_rfl) (by simp) ?_
                  refine AllReadyH.cons rfl (fun K hK => ?_) ?_
                  · go_simp
                    refine (HAM4.out _).mono ?_
                    rintro e w6 ⟨rfl, h6⟩
                    subst w6
                    go_simp
                    refine hK.out _ _ hHeld (fun hHeld => ?_)
                    clear hK K
                    try simp only [Act.put, List.setIfInBounds_toArray, List.set_cons_zero, List.set_cons_succ]
                    refine take_at (i := 5) (d := 72) (v := .pointer (some ⟨zb1, k4, none⟩)) rfl rfl (by kernel_rfl) (by kernel_rfl) (by kernel_rfl) (fun _ _ _ h => h) (Or.inl ⟨by rfl, fun w' hSw => ?_⟩) hHeld ?_
                    · obtain ⟨⟨_, _, _⟩, _⟩ := hSw
                      go_simp
                    simp only [List.setIfInBounds_toArray, List.set_cons_zero, List.set_cons_succ]
                    refine take_at (i := 6) (d := 73) (v := .int .i64 kd) rfl rfl (by kernel_rfl) (by kernel_rfl) (by kernel_rfl) (fun _ _ _ h => h) (Or.inl ⟨by rfl, fun w' hSw => ?_⟩) hHeld ?_
                    · obtain ⟨⟨_, _, _⟩, _⟩ := hSw
                      go_simp
                    simp only [List.setIfInBounds_toArray, List.set_cons_zero, List.set_cons_succ]
                    refine take_at (i := 10) (d := 77) (v := .agg #[.int .i64 0, .int .i64 kd, .string nm, .string xd]) rfl rfl (by kernel_rfl) (by kernel_rfl) (by kernel_rfl) (fun _ _ _ h => h) (Or.inl ⟨by rfl, fun w' hSw => ?_⟩) hHeld ?_
                    · obtain ⟨⟨_, _, _⟩, _⟩ := hSw
                      go_simp
                    simp only [List.setIfInBounds_toArray, List.set_cons_zero, List.set_cons_succ]
                    refine wpAnyH_ready (rs := [11, 12]) (by kernel_rfl) (by simp) ?_
                    refine AllReadyH.cons rfl (fun K hK => ?_) ?_
                    · go_simp
                      refine (HD.out _ HKwb1.out).mono ?_
                      rintro e wd3 ⟨a7, c7, rfl, HKwd3, HGwd3⟩
                      go_simp
                      have HZwd3 : Hid (wd3.heap[zb1]? = some (.cells #[.int .i64 1, .int .i64 2, .int .i64 4, .int .i64 3] 3)) := (HGwd3.out.block zb1 (lt_of_block HZwb1.out) (not_two HXzb1.out HLT.out)).trans HZwb1.out
                      refine hK.out _ _ ⟨HKwd3.out.kp, zcell HZwd3.out hk44 HKD.out⟩ (fun hHeld => ?_)
                      clear hK K
                      try simp only [Act.put, List.setIfInBounds_toArray, List.set_cons_zero, List.set_cons_succ]
                      refine wpAnyH_ready (rs := [12]) (by kernel_rfl) (by simp) ?_
                      refine AllReadyH.cons rfl (fun K hK => ?_) ?_
                      · go_simp
                        obtain ⟨wa4, hwa4⟩ : ∃ wx, wx = World.alloc wd3 (.cells #[.int .i64 0, .string ⟨#[]⟩, .slice none 0 0] 37) := ⟨_, rfl⟩
                        obtain ⟨r4, hr4⟩ : ∃ z, z = (World.heap wd3).size := ⟨_, rfl⟩
                        have HKwa4 : Hid (KF w0 wa4 (w0.heap.size + 1) w0.heap.size g X s1 L xk xn xd xf) := by rw [hwa4]; exact HKwd3.out.alloc _
                        have HRwa4 : Hid (wa4.heap[r4]? = some (.cells #[.int .i64 0, .string ⟨#[]⟩, .slice none 0 0] 37)) := by rw [hwa4, hr4]; exact heap_alloc_new _ _
                        have HXr4 : Hid (X < r4) := by rw [hr4]; exact lt_of_block HKwd3.out.kx
                        have HZwa4 : Hid (wa4.heap[zb1]? = some (.cells #[.int .i64 1, .int .i64 2, .int .i64 4, .int .i64 3] 3)) := by rw [hwa4]; exact (Below.heap_alloc _ _ _ (lt_of_block HZwd3.out)).trans HZwd3.out
                        have HNwa4 : Hid (zb1 ≠ r4) := by rw [hr4]; exact Nat.ne_of_lt (lt_of_block HZwd3.out)
                        rw [← hwa4, ← hr4]
                        refine hK.out _ _ ⟨HKwa4.out.kp, zcell HZwa4.out hk44 HKD.out⟩ (fun hHeld => ?_)
                        clear hK K hwa4 hr4
                        try simp only [Act.put, List.setIfInBounds_toArray, List.set_cons_zero, List.set_cons_succ]
                        refine wpAnyH_ready (rs := [13]) (by kernel_rfl) (by simp) ?_
                        refine AllReadyH.cons rfl (fun K hK => ?_) ?_
                        · obtain ⟨⟨p1, p2⟩, ⟨p3, p4⟩, ⟨p5, p6⟩, p7⟩ := set3 HRwa4.out (.int .i64 rc) (.string rd) (.slice a7 rn c7)
                          have HKf := hide (((HKwa4.out.set HXr4.out HLT.out.1 HLT.out.2.1 HLT.out.2.2 0 (.int .i64 rc)).set HXr4.out HLT.out.1 HLT.out.2.1 HLT.out.2.2 1 (.string rd)).set HXr4.out HLT.out.1 HLT.out.2.1 HLT.out.2.2 2 (.slice a7 rn c7))
                          have HZf := hide (((Below.heap_setCell _ ⟨r4, 2, none⟩ (.slice a7 rn c7) _ HNwa4.out).trans ((Below.heap_setCell _ ⟨r4, 1, none⟩ (.string rd) _ HNwa4.out).trans (Below.heap_setCell wa4 ⟨r4, 0, none⟩ (.int .i64 rc) _ HNwa4.out))).trans HZwa4.out)
                          have HP7 := hide p7
                          clear p7
                          go_simp
                          refine hK.out _ _ ⟨HKf.out.kp, zcell HZf.out hk44 HKD.out⟩ (fun hHeld => ?_)
                          clear hK K
                          refine wpAnyH_done (by kernel_rfl) ?_ _
                          try simp only [Act.put, List.setIfInBounds_toArray, List.set_cons_zero, List.set_cons_succ]
                          refine NoPanic.normal ?_
                          go_step
                          go_step
                          go_meet
                          case rel => exact ⟨r4, a7, c7, rfl, HKf.out, HP7.out⟩
                        exact AllReadyH.nil
                      exact AllReadyH.nil
                    refine AllReadyH.cons rfl (fun K hK => ?_) ?_
                    · go_simp
                      obtain ⟨wa6, hwa6⟩ : ∃ wx, wx = World.alloc wb1 (.cells #[.int .i64 0, .string ⟨#[]⟩, .slice none 0 0] 37) := ⟨_, rfl⟩
                      obtain ⟨r6, hr6⟩ : ∃ z, z = (World.heap wb1).size := ⟨_, rfl⟩
                      have HKwa6 : Hid (KF w0 wa6 (w0.heap.size + 1) w0.heap.size g X s0 L xk xn xd xf) := by rw [hwa6]; exact HKwb1.out.alloc _
                      have HRwa6 : Hid (wa6.heap[r6]? = some (.cells #[.int .i64 0, .string ⟨#[]⟩, .slice none 0 0] 37)) := by rw [hwa6, hr6]; exact heap_alloc_new _ _
                      have HXr6 : Hid (X < r6) := by rw [hr6]; exact lt_of_block HKwb1.out.kx
                      have HZwa6 : Hid (wa6.heap[zb1]? = some (.cells #[.int .i64 1, .int .i64 2, .int .i64 4, .int .i64 3] 3)) := by rw [hwa6]; exact (Below.heap_alloc _ _ _ (lt_of_block HZwb1.out)).trans HZwb1.out
                      have HNwa6 : Hid (zb1 ≠ r6) := by rw [hr6]; exact Nat.ne_of_lt (lt_of_block HZwb1.out)
                      rw [← hwa6, ← hr6]
                      refine hK.out _ _ ⟨HKwa6.out.kp, zcell HZwa6.out hk44 HKD.out⟩ (fun hHeld => ?_)
                      clear hK K hwa6 hr6
                      try simp only [Act.put, List.setIfInBounds_toArray, List.set_cons_zero, List.set_cons_succ]
                      refine wpAnyH_ready (rs := [11]) (by kernel_rfl) (by simp) ?_
                      refine AllReadyH.cons rfl (fun K hK => ?_) ?_
                      · go_simp
                        refine (HD.out _ HKwa6.out).mono ?_
                        rintro e wd7 ⟨a7, c7, rfl, HKwd7, HGwd7⟩
                        go_simp
                        have HZwd7 : Hid (wd7.heap[zb1]? = some (.cells #[.int .i64 1, .int .i64 2, .int .i64 4, .int .i64 3] 3)) := (HGwd7.out.block zb1 (lt_of_block HZwa6.out) (not_two HXzb1.out HLT.out)).trans HZwa6.out
                        have HRwd7 : Hid (wd7.heap[r6]? = some (.cells #[.int .i64 0, .string ⟨#[]⟩, .slice none 0 0] 37)) := (HGwd7.out.block r6 (lt_of_block HRwa6.out) (not_two HXr6.out HLT.out)).trans HRwa6.out
                        have HNwd7 := HNwa6
                        refine hK.out _ _ ⟨HKwd7.out.kp, zcell HZwd7.out hk44 HKD.out⟩ (fun hHeld => ?_)
                        clear hK K
                        try simp only [Act.put, List.setIfInBounds_toArray, List.set_cons_zero, List.set_cons_succ]
                        refine wpAnyH_ready (rs := [13]) (by kernel_rfl) (by simp) ?_
                        refine AllReadyH.cons rfl (fun K hK => ?_) ?_
                        · obtain ⟨⟨p1, p2⟩, ⟨p3, p4⟩, ⟨p5, p6⟩, p7⟩ := set3 HRwd7.out (.int .i64 rc) (.string rd) (.slice a7 rn c7)
                          have HKf := hide (((HKwd7.out.set HXr6.out HLT.out.1 HLT.out.2.1 HLT.out.2.2 0 (.int .i64 rc)).set HXr6.out HLT.out.1 HLT.out.2.1 HLT.out.2.2 1 (.string rd)).set HXr6.out HLT.out.1 HLT.out.2.1 HLT.out.2.2 2 (.slice a7 rn c7))
                          have HZf := hide (((Below.heap_setCell _ ⟨r6, 2, none⟩ (.slice a7 rn c7) _ HNwd7.out).trans ((Below.heap_setCell _ ⟨r6, 1, none⟩ (.string rd) _ HNwd7.out).trans (Below.heap_setCell wd7 ⟨r6, 0, none⟩ (.int .i64 rc) _ HNwd7.out))).trans HZwd7.out)
                          have HP7 := hide p7
                          clear p7
                          go_simp
                          refine hK.out _ _ ⟨HKf.out.kp, zcell HZf.out hk44 HKD.out⟩ (fun hHeld => ?_)
                          clear hK K
                          refine wpAnyH_done (by kernel_rfl) ?_ _
                          try simp only [Act.put, List.setIfInBounds_toArray, List.set_cons_zero, List.set_cons_succ]
                          refine NoPanic.normal ?_
                          go_step
                          go_step
                          go_meet
                          case rel => exact ⟨r6, a7, c7, rfl, HKf.out, HP7.out⟩
                        exact AllReadyH.nil
                      exact AllReadyH.nil
                    exact AllReadyH.nil
                  refine AllReadyH.cons rfl (fun K hK => ?_) ?_
                  · go_simp
                    obtain ⟨wa9, hwa9⟩ : ∃ wx, wx = World.alloc wb1 (.cells #[.int .i64 0, .string ⟨#[]⟩, .slice none 0 0] 37) := ⟨_, rfl⟩
                    obtain ⟨r9, hr9⟩ : ∃ z, z = (World.heap wb1).size := ⟨_, rfl⟩
                    have HKwa9 : Hid (KF w0 wa9 (w0.heap.size + 1) w0.heap.size g X s0 L xk xn xd xf) := by rw [hwa9]; exact HKwb1.out.alloc _
                    have HRwa9 : Hid (wa9.heap[r9]? = some (.cells #[.int .i64 0, .string ⟨#[]⟩, .slice none 0 0] 37)) := by rw [hwa9, hr9]; exact heap_alloc_new _ _
                    have HXr9 : Hid (X < r9) := by rw [hr9]; exact lt_of_block HKwb1.out.kx
                    have HZwa9 : Hid (wa9.heap[zb1]? = some (.cells #[.int .i64 1, .int .i64 2, .int .i64 4, .int .i64 3] 3)) := by rw [hwa9]; exact (Below.heap_alloc _ _ _ (lt_of_block HZwb1.out)).trans HZwb1.out
                    have HNwa9 : Hid (zb1 ≠ r9) := by rw [hr9]; exact Nat.ne_of_lt (lt_of_block HZwb1.out)
                    rw [← hwa9, ← hr9]
                    refine hK.out _ _ ⟨HKwa9.out.kp, zcell HZwa9.out hk44 HKD.out⟩ (fun hHeld => ?_)
                    clear hK K hwa9 hr9
                    try simp only [Act.put, List.setIfInBounds_toArray, List.set_cons_zero, List.set_cons_succ]
                    refine wpAnyH_ready (rs := [4]) (by kernel_rfl) (by simp) ?_
                    refine AllReadyH.cons rfl (fun K hK => ?_) ?_
                    · go_simp
                      refine (HAM4.out _).mono ?_
                      rintro e w6 ⟨rfl, h6⟩
                      subst w6
                      go_simp
                      refine hK.out _ _ hHeld (fun hHeld => ?_)
                      clear hK K
                      try simp only [Act.put, List.setIfInBounds_toArray, List.set_cons_zero, List.set_cons_succ]
                      refine take_at (i := 5) (d := 72) (v := .pointer (some ⟨zb1, k4, none⟩)) rfl rfl (by kernel_rfl) (by kernel_rfl) (by kernel_rfl) (fun _ _ _ h => h) (Or.inl ⟨by rfl, fun w' hSw => ?_⟩) hHeld ?_
                      · obtain ⟨⟨_, _, _⟩, _⟩ := hSw
                        go_simp
                      simp only [List.setIfInBounds_toArray, List.set_cons_zero, List.set_cons_succ]
                      refine take_at (i := 6) (d := 73) (v := .int .i64 kd) rfl rfl (by kernel_rfl) (by kernel_rfl) (by kernel_rfl) (fun _ _ _ h => h) (Or.inl ⟨by rfl, fun w' hSw => ?_⟩) hHeld ?_
                      · obtain ⟨⟨_, _, _⟩, _⟩ := hSw
                        go_simp
                      simp only [List.setIfInBounds_toArray, List.set_cons_zero, List.set_cons_succ]
                      refine take_at (i := 10) (d := 77) (v := .agg #[.int .i64 0, .int .i64 kd, .string nm, .string xd]) rfl rfl (by kernel_rfl) (by kernel_rfl) (by kernel_rfl) (fun _ _ _ h => h) (Or.inl ⟨by rfl, fun w' hSw => ?_⟩) hHeld ?_
                      · obtain ⟨⟨_, _, _⟩, _⟩ := hSw
                        go_simp
                      simp only [List.setIfInBounds_toArray, List.set_cons_zero, List.set_cons_succ]
                      refine wpAnyH_ready (rs := [11]) (by kernel_rfl) (by simp) ?_
                      refine AllReadyH.cons rfl (fun K hK => ?_) ?_
                      · go_simp
                        refine (HD.out _ HKwa9.out).mono ?_
                        rintro e wd11 ⟨a7, c7, rfl, HKwd11, HGwd11⟩
                        go_simp
                        have HZwd11 : Hid (wd11.heap[zb1]? = some (.cells #[.int .i64 1, .int .i64 2, .int .i64 4, .int .i64 3] 3)) := (HGwd11.out.block zb1 (lt_of_block HZwa9.out) (not_two HXzb1.out HLT.out)).trans HZwa9.out
                        have HRwd11 : Hid (wd11.heap[r9]? = some (.cells #[.int .i64 0, .string ⟨#[]⟩, .slice none 0 0] 37)) := (HGwd11.out.block r9 (lt_of_block HRwa9.out) (not_two HXr9.out HLT.out)).trans HRwa9.out
                        have HNwd11 := HNwa9
                        refine hK.out _ _ ⟨HKwd11.out.kp, zcell HZwd11.out hk44 HKD.out⟩ (fun hHeld => ?_)
                        clear hK K
                        try simp only [Act.put, List.setIfInBounds_toArray, List.set_cons_zero, List.set_cons_succ]
                        refine wpAnyH_ready (rs := [13]) (by kernel_rfl) (by simp) ?_
                        refine AllReadyH.cons rfl (fun K hK => ?_) ?_
                        · obtain ⟨⟨p1, p2⟩, ⟨p3, p4⟩, ⟨p5, p6⟩, p7⟩ := set3 HRwd11.out (.int .i64 rc) (.string rd) (.slice a7 rn c7)
                          have HKf := hide (((HKwd11.out.set HXr9.out HLT.out.1 HLT.out.2.1 HLT.out.2.2 0 (.int .i64 rc)).set HXr9.out HLT.out.1 HLT.out.2.1 HLT.out.2.2 1 (.string rd)).set HXr9.out HLT.out.1 HLT.out.2.1 HLT.out.2.2 2 (.slice a7 rn c7))
                          have HZf := hide (((Below.heap_setCell _ ⟨r9, 2, none⟩ (.slice a7 rn c7) _ HNwd11.out).trans ((Below.heap_setCell _ ⟨r9, 1, none⟩ (.string rd) _ HNwd11.out).trans (Below.heap_setCell wd11 ⟨r9, 0, none⟩ (.int .i64 rc) _ HNwd11.out))).trans HZwd11.out)
                          have HP7 := hide p7
                          clear p7
                          go_simp
                          refine hK.out _ _ ⟨HKf.out.kp, zcell HZf.out hk44 HKD.out⟩ (fun hHeld => ?_)
                          clear hK K
                          refine wpAnyH_done (by kernel_rfl) ?_ _
                          try simp only [Act.put, List.setIfInBounds_toArray, List.set_cons_zero, List.set_cons_succ]
                          refine NoPanic.normal ?_
                          go_step
                          go_step
                          go_meet
                          case rel => exact ⟨r9, a7, c7, rfl, HKf.out, HP7.out⟩
                        exact AllReadyH.nil
                      exact AllReadyH.nil
                    exact AllReadyH.nil
                  exact AllReadyH.nil
              refine AllReadyH.cons rfl (fun K hK => ?_) ?_
              · as_aux_lemma =>
                · go_simp
                  refine (HAM4.out _).mono ?_
                  rintro e w6 ⟨rfl, h6⟩
                  subst w6
                  go_simp
                  refine hK.out _ _ hHeld (fun hHeld => ?_)
                  clear hK K
                  try simp only [Act.put, List.setIfInBounds_toArray, List.set_cons_zero, List.set_cons_succ]
                  refine wpAnyH_ready (rs := [1, 12]) (by kernel_rfl) (by simp) ?_
                  refine AllReadyH.cons rfl (fun K hK => ?_) ?_
                  · go_simp
                    obtain ⟨wb14, hwb14⟩ : ∃ wx, wx = World.alloc wd (.cells #[.int .i64 1, .int .i64 2, .int .i64 4, .int .i64 3] 3) := ⟨_, rfl⟩
                    obtain ⟨zb14, hzb14⟩ : ∃ z, z = (World.heap wd).size := ⟨_, rfl⟩
                    have HKwb14 : Hid (KF w0 wb14 (w0.heap.size + 1) w0.heap.size g X s0 L xk xn xd xf) := by rw [hwb14]; exact HKwd.out.alloc _
                    have HZwb14 : Hid (wb14.heap[zb14]? = some (.cells #[.int .i64 1, .int .i64 2, .int .i64 4, .int .i64 3] 3)) := by rw [hwb14, hzb14]; exact heap_alloc_new _ _
                    have HXzb14 : Hid (X < zb14) := by rw [hzb14]; exact lt_of_block HKwd.out.kx
                    rw [← hwb14, ← hzb14]
                    refine hK.out _ _ HKwb14.out.kp (fun hHeld => ?_)
                    clear hK K hwb14 hzb14
                    refine wpAnyH_stronger (S' := fun wx => ((Hid (KS w0 wx (w0.heap.size + 1) w0.heap.size g X L xk xn xd xf) ∧ wx.cell? ⟨X, 0, none⟩ = some (.int .i64 xk) ∧ wx.cell? ⟨X, 2, none⟩ = some (.string xd)) ∧ wx.cell? ⟨zb14, k4, none⟩ = some (.int .i64 kd))) (fun _ h => h.1) ?_
                    replace hHeld := And.intro hHeld (zcell HZwb14.out hk44 HKD.out)
                    try simp only [Act.put, List.setIfInBounds_toArray, List.set_cons_zero, List.set_cons_succ]
                    refine take_at (i := 5) (d := 72) (v := .pointer (some ⟨zb14, k4, none⟩)) rfl rfl (by kernel_rfl) (by kernel_rfl) (by kernel_rfl) (fun _ _ _ h => h) (Or.inl ⟨by rfl, fun w' hSw => ?_⟩) hHeld ?_
                    · obtain ⟨⟨_, _, _⟩, _⟩ := hSw
                      go_simp
                    simp only [List.setIfInBounds_toArray, List.set_cons_zero, List.set_cons_succ]
                    refine take_at (i := 6) (d := 73) (v := .int .i64 kd) rfl rfl (by kernel_rfl) (by kernel_rfl) (by kernel_rfl) (fun _ _ _ h => h) (Or.inl ⟨by rfl, fun w' hSw => ?_⟩) hHeld ?_
                    · obtain ⟨⟨_, _, _⟩, _⟩ := hSw
                      go_simp
                    simp only [List.setIfInBounds_toArray, List.set_cons_zero, List.set_cons_succ]
                    refine take_at (i := 10) (d := 77) (v := .agg #[.int .i64 0, .int .i64 kd, .string nm, .string xd]) rfl rfl (by kernel_rfl) (by kernel_rfl) (by kernel_rfl) (fun _ _ _ h => h) (Or.inl ⟨by rfl, fun w' hSw => ?_⟩) hHeld ?_
                    · obtain ⟨⟨_, _, _⟩, _⟩ := hSw
                      go_simp
                    simp only [List.setIfInBounds_toArray, List.set_cons_zero, List.set_cons_succ]
                    refine wpAnyH_ready (rs := [11, 12]) (by kernel_rfl) (by simp) ?_
                    refine AllReadyH.cons rfl (fun K hK => ?_) ?_
                    · go_simp
                      refine (HD.out _ HKwb14.out).mono ?_
                      rintro e wd15 ⟨a7, c7, rfl, HKwd15, HGwd15⟩
                      go_simp
                      have HZwd15 : Hid (wd15.heap[zb14]? = some (.cells #[.int .i64 1, .int .i64 2, .int .i64 4, .int .i64 3] 3)) := (HGwd15.out.block zb14 (lt_of_block HZwb14.out) (not_two HXzb14.out HLT.out)).trans HZwb14.out
                      refine hK.out _ _ ⟨HKwd15.out.kp, zcell HZwd15.out hk44 HKD.out⟩ (fun hHeld => ?_)
                      clear hK K
                      try simp only [Act.put, List.setIfInBounds_toArray, List.set_cons_zero, List.set_cons_succ]
                      refine wpAnyH_ready (rs := [12]) (by kernel_rfl) (by simp) ?_
                      refine AllReadyH.cons rfl (fun K hK => ?_) ?_
                      · go_simp
                        obtain ⟨wa16, hwa16⟩ : ∃ wx, wx = World.alloc wd15 (.cells #[.int .i64 0, .string ⟨#[]⟩, .slice none 0 0] 37) := ⟨_, rfl⟩
                        obtain ⟨r16, hr16⟩ : ∃ z, z = (World.heap wd15).size := ⟨_, rfl⟩
                        have HKwa16 : Hid (KF w0 wa16 (w0.heap.size + 1) w0.heap.size g X s1 L xk xn xd xf) := by rw [hwa16]; exact HKwd15.out.alloc _
                        have HRwa16 : Hid (wa16.heap[r16]? = some (.cells #[.int .i64 0, .string ⟨#[]⟩, .slice none 0 0] 37)) := by rw [hwa16, hr16]; exact heap_alloc_new _ _
                        have HXr16 : Hid (X < r16) := by rw [hr16]; exact lt_of_block HKwd15.out.kx
                        have HZwa16 : Hid (wa16.heap[zb14]? = some (.cells #[.int .i64 1, .int .i64 2, .int .i64 4, .int .i64 3] 3)) := by rw [hwa16]; exact (Below.heap_alloc _ _ _ (lt_of_block HZwd15.out)).trans HZwd15.out
                        have HNwa16 : Hid (zb14 ≠ r16) := by rw [hr16]; exact Nat.ne_of_lt (lt_of_block HZwd15.out)
                        rw [← hwa16, ← hr16]
                        refine hK.out _ _ ⟨HKwa16.out.kp, zcell HZwa16.out hk44 HKD.out⟩ (fun hHeld => ?_)
                        clear hK K hwa16 hr16
                        try simp only [Act.put, List.setIfInBounds_toArray, List.set_cons_zero, List.set_cons_succ]
                        refine wpAnyH_ready (rs := [13]) (by kernel_rfl) (by simp) ?_
                        refine AllReadyH.cons rfl (fun K hK => ?_) ?_
                        · obtain ⟨⟨p1, p2⟩, ⟨p3, p4⟩, ⟨p5, p6⟩, p7⟩ := set3 HRwa16.out (.int .i64 rc) (.string rd) (.slice a7 rn c7)
                          have HKf := hide (((HKwa16.out.set HXr16.out HLT.out.1 HLT.out.2.1 HLT.out.2.2 0 (.int .i64 rc)).set HXr16.out HLT.out.1 HLT.out.2.1 HLT.out.2.2 1 (.string rd)).set HXr16.out HLT.out.1 HLT.out.2.1 HLT.out.2.2 2 (.slice a7 rn c7))
                          have HZf := hide (((Below.heap_setCell _ ⟨r16, 2, none⟩ (.slice a7 rn c7) _ HNwa16.out).trans ((Below.heap_setCell _ ⟨r16, 1, none⟩ (.string rd) _ HNwa16.out).trans (Below.heap_setCell wa16 ⟨r16, 0, none⟩ (.int .i64 rc) _ HNwa16.out))).trans HZwa16.out)
                          have HP7 := hide p7
                          clear p7
                          go_simp
                          refine hK.out _ _ ⟨HKf.out.kp, zcell HZf.out hk44 HKD.out⟩ (fun hHeld => ?_)
                          clear hK K
                          refine wpAnyH_done (by kernel_rfl) ?_ _
                          try simp only [Act.put, List.setIfInBounds_toArray, List.set_cons_zero, List.set_cons_succ]
                          refine NoPanic.normal ?_
                          go_step
                          go_step
                          go_meet
                          case rel => exact ⟨r16, a7, c7, rfl, HKf.out, HP7.out⟩
                        exact AllReadyH.nil
                      exact AllReadyH.nil
                    refine AllReadyH.cons rfl (fun K hK => ?_) ?_
                    · go_simp
                      obtain ⟨wa18, hwa18⟩ : ∃ wx, wx = World.alloc wb14 (.cells #[.int .i64 0, .string ⟨#[]⟩, .slice none 0 0] 37) := ⟨_, rfl⟩
                      obtain ⟨r18, hr18⟩ : ∃ z, z = (World.heap wb14).size := ⟨_, rfl⟩
                      have HKwa18 : Hid (KF w0 wa18 (w0.heap.size + 1) w0.heap.size g X s0 L xk xn xd xf) := by rw [hwa18]; exact HKwb14.out.alloc _
                      have HRwa18 : Hid (wa18.heap[r18]? = some (.cells #[.int .i64 0, .string ⟨#[]⟩, .slice none 0 0] 37)) := by rw [hwa18, hr18]; exact heap_alloc_new _ _
                      have HXr18 : Hid (X < r18) := by rw [hr18]; exact lt_of_block HKwb14.out.kx
                      have HZwa18 : Hid (wa18.heap[zb14]? = some (.cells #[.int .i64 1, .int .i64 2, .int .i64 4, .int .i64 3] 3)) := by rw [hwa18]; exact (Below.heap_alloc _ _ _ (lt_of_block HZwb14.out)).trans HZwb14.out
                      have HNwa18 : Hid (zb14 ≠ r18) := by rw [hr18]; exact Nat.ne_of_lt (lt_of_block HZwb14.out)
                      rw [← hwa18, ← hr18]
                      refine hK.out _ _ ⟨HKwa18.out.kp, zcell HZwa18.out hk44 HKD.out⟩ (fun hHeld => ?_)
                      clear hK K hwa18 hr18
                      try simp only [Act.put, List.setIfInBounds_toArray, List.set_cons_zero, List.set_cons_succ]
                      refine wpAnyH_ready (rs := [11]) (by kernel_rfl) (by simp) ?_
                      refine AllReadyH.cons rfl (fun K hK => ?_) ?_
                      · go_simp
                        refine (HD.out _ HKwa18.out).mono ?_
                        rintro e wd19 ⟨a7, c7, rfl, HKwd19, HGwd19⟩
                        go_simp
                        have HZwd19 : Hid (wd19.heap[zb14]? = some (.cells #[.int .i64 1, .int .i64 2, .int .i64 4, .int .i64 3] 3)) := (HGwd19.out.block zb14 (lt_of_block HZwa18.out) (not_two HXzb14.out HLT.out)).trans HZwa18.out
                        have HRwd19 : Hid (wd19.heap[r18]? = some (.cells #[.int .i64 0, .string ⟨#[]⟩, .slice none 0 0] 37)) := (HGwd19.out.block r18 (lt_of_block HRwa18.out) (not_two HXr18.out HLT.out)).trans HRwa18.out
                        have HNwd19 := HNwa18
                        refine hK.out _ _ ⟨HKwd19.out.kp, zcell HZwd19.out hk44 HKD.out⟩ (fun hHeld => ?_)
                        clear hK K
                        try simp only [Act.put, List.setIfInBounds_toArray, List.set_cons_zero, List.set_cons_succ]
                        refine wpAnyH_ready (rs := [13]) (by kernel_rfl) (by simp) ?_
                        refine AllReadyH.cons rfl (fun K hK => ?_) ?_
                        · obtain ⟨⟨p1, p2⟩, ⟨p3, p4⟩, ⟨p5, p6⟩, p7⟩ := set3 HRwd19.out (.int .i64 rc) (.string rd) (.slice a7 rn c7)
                          have HKf := hide (((HKwd19.out.set HXr18.out HLT.out.1 HLT.out.2.1 HLT.out.2.2 0 (.int .i64 rc)).set HXr18.out HLT.out.1 HLT.out.2.1 HLT.out.2.2 1 (.string rd)).set HXr18.out HLT.out.1 HLT.out.2.1 HLT.out.2.2 2 (.slice a7 rn c7))
                          have HZf := hide (((Below.heap_setCell _ ⟨r18, 2, none⟩ (.slice a7 rn c7) _ HNwd19.out).trans ((Below.heap_setCell _ ⟨r18, 1, none⟩ (.string rd) _ HNwd19.out).trans (Below.heap_setCell wd19 ⟨r18, 0, none⟩ (.int .i64 rc) _ HNwd19.out))).trans HZwd19.out)
                          have HP7 := hide p7
                          clear p7
                          go_simp
                          refine hK.out _ _ ⟨HKf.out.kp, zcell HZf.out hk44 HKD.out⟩ (fun hHeld => ?_)
                          clear hK K
                          refine wpAnyH_done (by kernel_rfl) ?_ _
                          try simp only [Act.put, List.setIfInBounds_toArray, List.set_cons_zero, List.set_cons_succ]
                          refine NoPanic.normal ?_
                          go_step
                          go_step
                          go_meet
                          case rel => exact ⟨r18, a7, c7, rfl, HKf.out, HP7.out⟩
                        exact AllReadyH.nil
                      exact AllReadyH.nil
                    exact AllReadyH.nil
                  refine AllReadyH.cons rfl (fun K hK => ?_) ?_
                  · go_simp
                    obtain ⟨wa21, hwa21⟩ : ∃ wx, wx = World.alloc wd (.cells #[.int .i64 0, .string ⟨#[]⟩, .slice none 0 0] 37) := ⟨_, rfl⟩
                    obtain ⟨r21, hr21⟩ : ∃ z, z = (World.heap wd).size := ⟨_, rfl⟩
                    have HKwa21 : Hid (KF w0 wa21 (w0.heap.size + 1) w0.heap.size g X s0 L xk xn xd xf) := by rw [hwa21]; exact HKwd.out.alloc _
                    have HRwa21 : Hid (wa21.heap[r21]? = some (.cells #[.int .i64 0, .string ⟨#[]⟩, .slice none 0 0] 37)) := by rw [hwa21, hr21]; exact heap_alloc_new _ _
                    have HXr21 : Hid (X < r21) := by rw [hr21]; exact lt_of_block HKwd.out.kx
                    rw [← hwa21, ← hr21]
                    refine hK.out _ _ HKwa21.out.kp (fun hHeld => ?_)
                    clear hK K hwa21 hr21
                    try simp only [Act.put, List.setIfInBounds_toArray, List.set_cons_zero, List.set_cons_succ]
                    refine wpAnyH_ready (rs := [1]) (by kernel_rfl) (by simp) ?_
                    refine AllReadyH.cons rfl (fun K hK => ?_) ?_
                    · go_simp
                      obtain ⟨wb22, hwb22⟩ : ∃ wx, wx = World.alloc wa21 (.cells #[.int .i64 1, .int .i64 2, .int .i64 4, .int .i64 3] 3) := ⟨_, rfl⟩
                      obtain ⟨zb22, hzb22⟩ : ∃ z, z = (World.heap wa21).size := ⟨_, rfl⟩
                      have HKwb22 : Hid (KF w0 wb22 (w0.heap.size + 1) w0.heap.size g X s0 L xk xn xd xf) := by rw [hwb22]; exact HKwa21.out.alloc _
                      have HZwb22 : Hid (wb22.heap[zb22]? = some (.cells #[.int .i64 1, .int .i64 2, .int .i64 4, .int .i64 3] 3)) := by rw [hwb22, hzb22]; exact heap_alloc_new _ _
                      have HXzb22 : Hid (X < zb22) := by rw [hzb22]; exact lt_of_block HKwa21.out.kx
                      have HRwb22 : Hid (wb22.heap[r21]? = some (.cells #[.int .i64 0, .string ⟨#[]⟩, .slice none 0 0] 37)) := by rw [hwb22]; exact (Below.heap_alloc _ _ _ (lt_of_block HRwa21.out)).trans HRwa21.out
                      have HNwb22 : Hid (zb22 ≠ r21) := by rw [hzb22]; exact Nat.ne_of_gt (lt_of_block HRwa21.out)
                      rw [← hwb22, ← hzb22]
                      refine hK.out _ _ HKwb22.out.kp (fun hHeld => ?_)
                      clear hK K hwb22 hzb22
                      refine wpAnyH_stronger (S' := fun wx => ((Hid (KS w0 wx (w0.heap.size + 1) w0.heap.size g X L xk xn xd xf) ∧ wx.cell? ⟨X, 0, none⟩ = some (.int .i64 xk) ∧ wx.cell? ⟨X, 2, none⟩ = some (.string xd)) ∧ wx.cell? ⟨zb22, k4, none⟩ = some (.int .i64 kd))) (fun _ h => h.1) ?_
                      replace hHeld := And.intro hHeld (zcell HZwb22.out hk44 HKD.out)
                      try simp only [Act.put, List.setIfInBounds_toArray, List.set_cons_zero, List.set_cons_succ]
                      refine take_at (i := 5) (d := 72) (v := .pointer (some ⟨zb22, k4, none⟩)) rfl rfl (by kernel_rfl) (by kernel_rfl) (by kernel_rfl) (fun _ _ _ h => h) (Or.inl ⟨by rfl, fun w' hSw => ?_⟩) hHeld ?_
                      · obtain ⟨⟨_, _, _⟩, _⟩ := hSw
                        go_simp
                      simp only [List.setIfInBounds_toArray, List.set_cons_zero, List.set_cons_succ]
                      refine take_at (i := 6) (d := 73) (v := .int .i64 kd) rfl rfl (by kernel_rfl) (by kernel_rfl) (by kernel_rfl) (fun _ _ _ h => h) (Or.inl ⟨by rfl, fun w' hSw => ?_⟩) hHeld ?_
                      · obtain ⟨⟨_, _, _⟩, _⟩ := hSw
                        go_simp
                      simp only [List.setIfInBounds_toArray, List.set_cons_zero, List.set_cons_succ]
                      refine take_at (i := 10) (d := 77) (v := .agg #[.int .i64 0, .int .i64 kd, .string nm, .string xd]) rfl rfl (by kernel_rfl) (by kernel_rfl) (by kernel_rfl) (fun _ _ _ h => h) (Or.inl ⟨by rfl, fun w' hSw => ?_⟩) hHeld ?_
                      · obtain ⟨⟨_, _, _⟩, _⟩ := hSw
                        go_simp
                      simp only [List.setIfInBounds_toArray, List.set_cons_zero, List.set_cons_succ]
                      refine wpAnyH_ready (rs := [11]) (by kernel_rfl) (by simp) ?_
                      refine AllReadyH.cons rfl (fun K hK => ?_) ?_
                      · go_simp
                        refine (HD.out _ HKwb22.out).mono ?_
                        rintro e wd23 ⟨a7, c7, rfl, HKwd23, HGwd23⟩
                        go_simp
                        have HZwd23 : Hid (wd23.heap[zb22]? = some (.cells #[.int .i64 1, .int .i64 2, .int .i64 4, .int .i64 3] 3)) := (HGwd23.out.block zb22 (lt_of_block HZwb22.out) (not_two HXzb22.out HLT.out)).trans HZwb22.out
                        have HRwd23 : Hid (wd23.heap[r21]? = some (.cells #[.int .i64 0, .string ⟨#[]⟩, .slice none 0 0] 37)) := (HGwd23.out.block r21 (lt_of_block HRwb22.out) (not_two HXr21.out HLT.out)).trans HRwb22.out
                        have HNwd23 := HNwb22
                        refine hK.out _ _ ⟨HKwd23.out.kp, zcell HZwd23.out hk44 HKD.out⟩ (fun hHeld => ?_)
                        clear hK K
                        try simp only [Act.put, List.setIfInBounds_toArray, List.set_cons_zero, List.set_cons_succ]
                        refine wpAnyH_ready (rs := [13]) (by kernel_rfl) (by simp) ?_
                        refine AllReadyH.cons rfl (fun K hK => ?_) ?_
                        · obtain ⟨⟨p1, p2⟩, ⟨p3, p4⟩, ⟨p5, p6⟩, p7⟩ := set3 HRwd23.out (.int .i64 rc) (.string rd) (.slice a7 rn c7)
                          have HKf := hide (((HKwd23.out.set HXr21.out HLT.out.1 HLT.out.2.1 HLT.out.2.2 0 (.int .i64 rc)).set HXr21.out HLT.out.1 HLT.out.2.1 HLT.out.2.2 1 (.string rd)).set HXr21.out HLT.out.1 HLT.out.2.1 HLT.out.2.2 2 (.slice a7 rn c7))
                          have HZf := hide (((Below.heap_setCell _ ⟨r21, 2, none⟩ (.slice a7 rn c7) _ HNwd23.out).trans ((Below.heap_setCell _ ⟨r21, 1, none⟩ (.string rd) _ HNwd23.out).trans (Below.heap_setCell wd23 ⟨r21, 0, none⟩ (.int .i64 rc) _ HNwd23.out))).trans HZwd23.out)
                          have HP7 := hide p7
                          clear p7
                          go_simp
                          refine hK.out _ _ ⟨HKf.out.kp, zcell HZf.out hk44 HKD.out⟩ (fun hHeld => ?_)
                          clear hK K
                          refine wpAnyH_done (by kernel_rfl) ?_ _
                          try simp only [Act.put, List.setIfInBounds_toArray, List.set_cons_zero, List.set_cons_succ]
                          refine NoPanic.normal ?_
                          go_step
                          go_step
                          go_meet
                          case rel => exact ⟨r21, a7, c7, rfl, HKf.out, HP7.out⟩
                        exact AllReadyH.nil
                      exact AllReadyH.nil
                    exact AllReadyH.nil
                  exact AllReadyH.nil
              refine AllReadyH.cons rfl (fun K hK => ?_) ?_
              · as_aux_lemma =>
                · go_simp
                  obtain ⟨wa25, hwa25⟩ : ∃ wx, wx = World.alloc wd (.cells #[.int .i64 0, .string ⟨#[]⟩, .slice none 0 0] 37) := ⟨_, rfl⟩
                  obtain ⟨r25, hr25⟩ : ∃ z, z = (World.heap wd).size := ⟨_, rfl⟩
                  have HKwa25 : Hid (KF w0 wa25 (w0.heap.size + 1) w0.heap.size g X s0 L xk xn xd xf) := by rw [hwa25]; exact HKwd.out.alloc _
                  have HRwa25 : Hid (wa25.heap[r25]? = some (.cells #[.int .i64 0, .string ⟨#[]⟩, .slice none 0 0] 37)) := by rw [hwa25, hr25]; exact heap_alloc_new _ _
                  have HXr25 : Hid (X < r25) := by rw [hr25]; exact lt_of_block HKwd.out.kx
                  rw [← hwa25, ← hr25]
                  refine hK.out _ _ HKwa25.out.kp (fun hHeld => ?_)
                  clear hK K hwa25 hr25
                  try simp only [Act.put, List.setIfInBounds_toArray, List.set_cons_zero, List.set_cons_succ]
                  refine wpAnyH_ready (rs := [1, 4]) (by kernel_rfl) (by simp) ?_
                  refine AllReadyH.cons rfl (fun K hK => ?_) ?_
                  · go_simp
                    obtain ⟨wb26, hwb26⟩ : ∃ wx, wx = World.alloc wa25 (.cells #[.int .i64 1, .int .i64 2, .int .i64 4, .int .i64 3] 3) := ⟨_, rfl⟩
                    obtain ⟨zb26, hzb26⟩ : ∃ z, z = (World.heap wa25).size := ⟨_, rfl⟩
                    have HKwb26 : Hid (KF w0 wb26 (w0.heap.size + 1) w0.heap.size g X s0 L xk xn xd xf) := by rw [hwb26]; exact HKwa25.out.alloc _
                    have HZwb26 : Hid (wb26.heap[zb26]? = some (.cells #[.int .i64 1, .int .i64 2, .int .i64 4, .int .i64 3] 3)) := by rw [hwb26, hzb26]; exact heap_alloc_new _ _
                    have HXzb26 : Hid (X < zb26) := by rw [hzb26]; exact lt_of_block HKwa25.out.kx
                    have HRwb26 : Hid (wb26.heap[r25]? = some (.cells #[.int .i64 0, .string ⟨#[]⟩, .slice none 0 0] 37)) := by rw [hwb26]; exact (Below.heap_alloc _ _ _ (lt_of_block HRwa25.out)).trans HRwa25.out
                    have HNwb26 : Hid (zb26 ≠ r25) := by rw [hzb26]; exact Nat.ne_of_gt (lt_of_block HRwa25.out)
                    rw [← hwb26, ← hzb26]
                    refine hK.out _ _ HKwb26.out.kp (fun hHeld => ?_)
                    clear hK K hwb26 hzb26
                    refine wpAnyH_stronger (S' := fun wx => ((Hid (KS w0 wx (w0.heap.size + 1) w0.heap.size g X L xk xn xd xf) ∧ wx.cell? ⟨X, 0, none⟩ = some (.int .i64 xk) ∧ wx.cell? ⟨X, 2, none⟩ = some (.string xd)) ∧ wx.cell? ⟨zb26, k4, none⟩ = some (.int .i64 kd))) (fun _ h => h.1) ?_
                    replace hHeld := And.intro hHeld (zcell HZwb26.out hk44 HKD.out)
                    try simp only [Act.put, List.setIfInBounds_toArray, List.set_cons_zero, List.set_cons_succ]
                    refine wpAnyH_ready (rs := [4]) (by kernel_rfl) (by simp) ?_
                    refine AllReadyH.cons rfl (fun K hK => ?_) ?_
                    · go_simp
                      refine (HAM4.out _).mono ?_
                      rintro e w6 ⟨rfl, h6⟩
                      subst w6
                      go_simp
                      refine hK.out _ _ hHeld (fun hHeld => ?_)
                      clear hK K
                      try simp only [Act.put, List.setIfInBounds_toArray, List.set_cons_zero, List.set_cons_succ]
                      refine take_at (i := 5) (d := 72) (v := .pointer (some ⟨zb26, k4, none⟩)) rfl rfl (by kernel_rfl) (by kernel_rfl) (by kernel_rfl) (fun _ _ _ h => h) (Or.inl ⟨by rfl, fun w' hSw => ?_⟩) hHeld ?_
                      · obtain ⟨⟨_, _, _⟩, _⟩ := hSw
                        go_simp
                      simp only [List.setIfInBounds_toArray, List.set_cons_zero, List.set_cons_succ]
                      refine take_at (i := 6) (d := 73) (v := .int .i64 kd) rfl rfl (by kernel_rfl) (by kernel_rfl) (by kernel_rfl) (fun _ _ _ h => h) (Or.inl ⟨by rfl, fun w' hSw => ?_⟩) hHeld ?_
                      · obtain ⟨⟨_, _, _⟩, _⟩ := hSw
                        go_simp
                      simp only [List.setIfInBounds_toArray, List.set_cons_zero, List.set_cons_succ]
                      refine take_at (i := 10) (d := 77) (v := .agg #[.int .i64 0, .int .i64 kd, .string nm, .string xd]) rfl rfl (by kernel_rfl) (by kernel_rfl) (by kernel_rfl) (fun _ _ _ h => h) (Or.inl ⟨by rfl, fun w' hSw => ?_⟩) hHeld ?_
                      · obtain ⟨⟨_, _, _⟩, _⟩ := hSw
                        go_simp
                      simp only [List.setIfInBounds_toArray, List.set_cons_zero, List.set_cons_succ]
                      refine wpAnyH_ready (rs := [11]) (by kernel_rfl) (by simp) ?_
                      refine AllReadyH.cons rfl (fun K hK => ?_) ?_
                      · go_simp
                        refine (HD.out _ HKwb26.out).mono ?_
                        rintro e wd28 ⟨a7, c7, rfl, HKwd28, HGwd28⟩
                        go_simp
                        have HZwd28 : Hid (wd28.heap[zb26]? = some (.cells #[.int .i64 1, .int .i64 2, .int .i64 4, .int .i64 3] 3)) := (HGwd28.out.block zb26 (lt_of_block HZwb26.out) (not_two HXzb26.out HLT.out)).trans HZwb26.out
                        have HRwd28 : Hid (wd28.heap[r25]? = some (.cells #[.int .i64 0, .string ⟨#[]⟩, .slice none 0 0] 37)) := (HGwd28.out.block r25 (lt_of_block HRwb26.out) (not_two HXr25.out HLT.out)).trans HRwb26.out
                        have HNwd28 := HNwb26
                        refine hK.out _ _ ⟨HKwd28.out.kp, zcell HZwd28.out hk44 HKD.out⟩ (fun hHeld => ?_)
                        clear hK K
                        try simp only [Act.put, List.setIfInBounds_toArray, List.set_cons_zero, List.set_cons_succ]
                        refine wpAnyH_ready (rs := [13]) (by kernel_rfl) (by simp) ?_
                        refine AllReadyH.cons rfl (fun K hK => ?_) ?_
                        · obtain ⟨⟨p1, p2⟩, ⟨p3, p4⟩, ⟨p5, p6⟩, p7⟩ := set3 HRwd28.out (.int .i64 rc) (.string rd) (.slice a7 rn c7)
                          have HKf := hide (((HKwd28.out.set HXr25.out HLT.out.1 HLT.out.2.1 HLT.out.2.2 0 (.int .i64 rc)).set HXr25.out HLT.out.1 HLT.out.2.1 HLT.out.2.2 1 (.string rd)).set HXr25.out HLT.out.1 HLT.out.2.1 HLT.out.2.2 2 (.slice a7 rn c7))
                          have HZf := hide (((Below.heap_setCell _ ⟨r25, 2, none⟩ (.slice a7 rn c7) _ HNwd28.out).trans ((Below.heap_setCell _ ⟨r25, 1, none⟩ (.string rd) _ HNwd28.out).trans (Below.heap_setCell wd28 ⟨r25, 0, none⟩ (.int .i64 rc) _ HNwd28.out))).trans HZwd28.out)
                          have HP7 := hide p7
                          clear p7
                          go_simp
                          refine hK.out _ _ ⟨HKf.out.kp, zcell HZf.out hk44 HKD.out⟩ (fun hHeld => ?_)
                          clear hK K
                          refine wpAnyH_done (by kernel_rfl) ?_ _
                          try simp only [Act.put, List.setIfInBounds_toArray, List.set_cons_zero, List.set_cons_succ]
                          refine NoPanic.normal ?_
                          go_step
                          go_step
                          go_meet
                          case rel => exact ⟨r25, a7, c7, rfl, HKf.out, HP7.out⟩
                        exact AllReadyH.nil
                      exact AllReadyH.nil
                    exact AllReadyH.nil
                  refine AllReadyH.cons rfl (fun K hK => ?_) ?_
                  · go_simp
                    refine (HAM4.out _).mono ?_
                    rintro e w6 ⟨rfl, h6⟩
                    subst w6
                    go_simp
                    refine hK.out _ _ hHeld (fun hHeld => ?_)
                    clear hK K
                    try simp only [Act.put, List.setIfInBounds_toArray, List.set_cons_zero, List.set_cons_succ]
                    refine wpAnyH_ready (rs := [1]) (by kernel_rfl) (by simp) ?_
                    refine AllReadyH.cons rfl (fun K hK => ?_) ?_
                    · go_simp
                      obtain ⟨wb31, hwb31⟩ : ∃ wx, wx = World.alloc wa25 (.cells #[.int .i64 1, .int .i64 2, .int .i64 4, .int .i64 3] 3) := ⟨_, rfl⟩
                      obtain ⟨zb31, hzb31⟩ : ∃ z, z = (World.heap wa25).size := ⟨_, rfl⟩
                      have HKwb31 : Hid (KF w0 wb31 (w0.heap.size + 1) w0.heap.size g X s0 L xk xn xd xf) := by rw [hwb31]; exact HKwa25.out.alloc _
                      have HZwb31 : Hid (wb31.heap[zb31]? = some (.cells #[.int .i64 1, .int .i64 2, .int .i64 4, .int .i64 3] 3)) := by rw [hwb31, hzb31]; exact heap_alloc_new _ _
                      have HXzb31 : Hid (X < zb31) := by rw [hzb31]; exact lt_of_block HKwa25.out.kx
                      have HRwb31 : Hid (wb31.heap[r25]? = some (.cells #[.int .i64 0, .string ⟨#[]⟩, .slice none 0 0] 37)) := by rw [hwb31]; exact (Below.heap_alloc _ _ _ (lt_of_block HRwa25.out)).trans HRwa25.out
                      have HNwb31 : Hid (zb31 ≠ r25) := by rw [hzb31]; exact Nat.ne_of_gt (lt_of_block HRwa25.out)
                      rw [← hwb31, ← hzb31]
                      refine hK.out _ _ HKwb31.out.kp (fun hHeld => ?_)
                      clear hK K hwb31 hzb31
                      refine wpAnyH_stronger (S' := fun wx => ((Hid (KS w0 wx (w0.heap.size + 1) w0.heap.size g X L xk xn xd xf) ∧ wx.cell? ⟨X, 0, none⟩ = some (.int .i64 xk) ∧ wx.cell? ⟨X, 2, none⟩ = some (.string xd)) ∧ wx.cell? ⟨zb31, k4, none⟩ = some (.int .i64 kd))) (fun _ h => h.1) ?_
                      replace hHeld := And.intro hHeld (zcell HZwb31.out hk44 HKD.out)
                      try simp only [Act.put, List.setIfInBounds_toArray, List.set_cons_zero, List.set_cons_succ]
                      refine take_at (i := 5) (d := 72) (v := .pointer (some ⟨zb31, k4, none⟩)) rfl rfl (by kernel_rfl) (by kernel_rfl) (by kernel_rfl) (fun _ _ _ h => h) (Or.inl ⟨by rfl, fun w' hSw => ?_⟩) hHeld ?_
                      · obtain ⟨⟨_, _, _⟩, _⟩ := hSw
                        go_simp
                      simp only [List.setIfInBounds_toArray, List.set_cons_zero, List.set_cons_succ]
                      refine take_at (i := 6) (d := 73) (v := .int .i64 kd) rfl rfl (by kernel_rfl) (by kernel_rfl) (by kernel_rfl) (fun _ _ _ h => h) (Or.inl ⟨by rfl, fun w' hSw => ?_⟩) hHeld ?_
                      · obtain ⟨⟨_, _, _⟩, _⟩ := hSw
                        go_simp
                      simp only [List.setIfInBounds_toArray, List.set_cons_zero, List.set_cons_succ]
                      refine take_at (i := 10) (d := 77) (v := .agg #[.int .i64 0, .int .i64 kd, .string nm, .string xd]) rfl rfl (by kernel_rfl) (by kernel_rfl) (by kernel_rfl) (fun _ _ _ h => h) (Or.inl ⟨by rfl, fun w' hSw => ?_⟩) hHeld ?_
                      · obtain ⟨⟨_, _, _⟩, _⟩ := hSw
                        go_simp
                      simp only [List.setIfInBounds_toArray, List.set_cons_zero, List.set_cons_succ]
                      refine wpAnyH_ready (rs := [11]) (by kernel_rfl) (by simp) ?_
                      refine AllReadyH.cons rfl (fun K hK => ?_) ?_
                      · go_simp
                        refine (HD.out _ HKwb31.out).mono ?_
                        rintro e wd32 ⟨a7, c7, rfl, HKwd32, HGwd32⟩
                        go_simp
                        have HZwd32 : Hid (wd32.heap[zb31]? = some (.cells #[.int .i64 1, .int .i64 2, .int .i64 4, .int .i64 3] 3)) := (HGwd32.out.block zb31 (lt_of_block HZwb31.out) (not_two HXzb31.out HLT.out)).trans HZwb31.out
                        have HRwd32 : Hid (wd32.heap[r25]? = some (.cells #[.int .i64 0, .string ⟨#[]⟩, .slice none 0 0] 37)) := (HGwd32.out.block r25 (lt_of_block HRwb31.out) (not_two HXr25.out HLT.out)).trans HRwb31.out
                        have HNwd32 := HNwb31
                        refine hK.out _ _ ⟨HKwd32.out.kp, zcell HZwd32.out hk44 HKD.out⟩ (fun hHeld => ?_)
                        clear hK K
                        try simp only [Act.put, List.setIfInBounds_toArray, List.set_cons_zero, List.set_cons_succ]
                        refine wpAnyH_ready (rs := [13]) (by kernel_rfl) (by simp) ?_
                        refine AllReadyH.cons rfl (fun K hK => ?_) ?_
                        · obtain ⟨⟨p1, p2⟩, ⟨p3, p4⟩, ⟨p5, p6⟩, p7⟩ := set3 HRwd32.out (.int .i64 rc) (.string rd) (.slice a7 rn c7)
                          have HKf := hide (((HKwd32.out.set HXr25.out HLT.out.1 HLT.out.2.1 HLT.out.2.2 0 (.int .i64 rc)).set HXr25.out HLT.out.1 HLT.out.2.1 HLT.out.2.2 1 (.string rd)).set HXr25.out HLT.out.1 HLT.out.2.1 HLT.out.2.2 2 (.slice a7 rn c7))
                          have HZf := hide (((Below.heap_setCell _ ⟨r25, 2, none⟩ (.slice a7 rn c7) _ HNwd32.out).trans ((Below.heap_setCell _ ⟨r25, 1, none⟩ (.string rd) _ HNwd32.out).trans (Below.heap_setCell wd32 ⟨r25, 0, none⟩ (.int .i64 rc) _ HNwd32.out))).trans HZwd32.out)
                          have HP7 := hide p7
                          clear p7
                          go_simp
                          refine hK.out _ _ ⟨HKf.out.kp, zcell HZf.out hk44 HKD.out⟩ (fun hHeld => ?_)
                          clear hK K
                          refine wpAnyH_done (by kernel_rfl) ?_ _
                          try simp only [Act.put, List.setIfInBounds_toArray, List.set_cons_zero, List.set_cons_succ]
                          refine NoPanic.normal ?_
                          go_step
                          go_step
                          go_meet
                          case rel => exact ⟨r25, a7, c7, rfl, HKf.out, HP7.out⟩
                        exact AllReadyH.nil
                      exact AllReadyH.nil
                    exact AllReadyH.nil
                  exact AllReadyH.nil
              exact AllReadyH.nil
            case rest =>
              obtain ⟨r, a7, c7, rfl, hK, hR⟩ := hcut
              clear HK HD HKX HBV HIV HV
              have HK := hide hK
              have x0 := hK.c0
              have x2 := hK.c2
              have x3 := hK.c3
              have q0 : wc.cell? ⟨r, 0, none⟩ = some (.int .i64 rc) := by simp [World.cell?, hR]
              have q1 : wc.cell? ⟨r, 1, none⟩ = some (.string rd) := by simp [World.cell?, hR]
              have q2 : wc.cell? ⟨r, 2, none⟩ = some (.slice a7 rn c7) := by simp [World.cell?, hR]
              have hold : Hid (szO nm (thr L nm) = if th = true then 2 + old.size else 0) := by
                rw [HTH.out, HO.out]
                cases thr L nm with
                | none => rfl
                | some d => show nm.size + d.size = _; rw [hn2]; rfl
              have HUB : Hid (usedL L ≤ 50 * 131168) := by
                have := used_bound (PS.small HI.out.st.px)
                have := HI.out.len
                show usedL L ≤ _
                have e : L.length * 131168 ≤ 50 * 131168 := Nat.mul_le_mul_right _ (by omega)
                exact Nat.le_trans (used_bound (PS.small HI.out.st.px)) e
              have hoz : old.size ≤ 131072 := by
                rw [HO.out]
                cases hq : thr L nm with
                | none => exact Nat.zero_le _
                | some d => exact (thr_small (PS.small HI.out.st.px) hq).2
              clear hK hR
              rcases HF.out with ⟨rfl, hF1⟩ | ⟨rfl, hF0⟩
              · as_aux_lemma =>
                have hrc : rc = 72 ∧ s1 = ⟨Q, 0, m + 1, false, L⟩ := by
                  have h1 := HRR.out
                  have h2 := HS1.out
                  rw [HS0.out, hF1] at h1 h2
                  simp only [doR, doS] at h1 h2
                  simp at h1 h2
                  exact ⟨h1.1.symm, h2⟩
                obtain ⟨rfl, hs1⟩ := hrc
                have HE : Hid (KI w0 wc (w0.heap.size + 1) w0.heap.size g (j + 1) Q (m + 1) L) := by
                  have h := HK.out
                  rw [hs1] at h
                  exact ⟨h.st, h.ms, HI.out.hg, HI.out.ne, by have := HI.out.m0; omega, by have := HI.out.mj; omega, by have := HI.out.len; omega, HI.out.two⟩
                clear hs1 hF1
                go_wp2
                go_roundw
                case rel => exact ⟨j + 1, m + 1, L, by omega, by omega, by go_num, rfl, HE.out⟩
                case measure => simp [intOf]; omega
              · have hRR := HRR.out
                have hSS := HS1.out
                rw [HS0.out, hF0] at hRR hSS
                have hKDo := HKD.out
                have hxd : xd.size ≤ 100 := by omega
                have HNEX : Hid (∀ w', wc.grownBy w' (some g) → ∀ s L', MS w' g L' → KF w0 wc (w0.heap.size + 1) w0.heap.size g X s L xk xn xd false → ST w0 w' (w0.heap.size + 1) w0.heap.size s) := fun w' hg s L' _ h => by
                  have gb := HGB.out
                  refine ⟨⟨(hg.block _ h.st.ps.lt (fun e => gb.1 (Option.some.inj e).symm)).trans h.st.ps.blk, h.st.ps.map.kept hg (fun e => gb.2 (Option.some.inj e).symm), h.st.ps.ris, h.st.ps.small⟩, h.st.hb, h.st.hm, h.st.be.grown hg h.st.be.size (fun k hk => by cases hk; exact HI.out.hg)⟩
                have HAMc : Hid _ := hide (HAM4.out wc)
                clear HF HAM4
                match k4, hk44 with
                | 0, _ => as_aux_lemma =>
                  rw [show kdm 0 = 1 from rfl] at hKDo
                  subst hKDo
                  simp only [doR, doS] at hRR hSS
                  simp at hRR hSS
                  rw [show ((0 : Nat) : Int) = 0 from rfl] at HAMc
                  obtain ⟨h1, h2, h3⟩ := hRR
                  obtain ⟨v, hv⟩ : ∃ v, v = usedL (layL L nm xd) := ⟨_, rfl⟩
                  have huv : v + szO nm (thr L nm) = usedL L + 2 + xd.size := by rw [hv, used_lay HI.out.st.ps.ris nm xd, hn2]
                  have hub := HUB.out
                  have HVV := hide hv
                  have f1 : IntKind.i64.wrap ((2 : Int) + (xd.size : Int)) = 2 + (xd.size : Int) := by simp [IntKind.wrap_i64]; omega
                  clear h2 h3 hv
                  cases th with
                  | true =>
                    have hvv : v + old.size = usedL L + xd.size := by have := huv; rw [hold.out, if_pos rfl] at this; omega
                    have f3 : IntKind.i64.wrap ((xd.size : Int) - (old.size : Int)) = (xd.size : Int) - (old.size : Int) := by simp [IntKind.wrap_i64]; omega
                    have f2 : IntKind.i64.wrap (((usedL L : Nat) : Int) + ((xd.size : Int) - (old.size : Int))) = (v : Int) := by simp [IntKind.wrap_i64]; omega
                    by_cases hq : v ≤ Q
                    · have hpc : pcode nm xd L Q = 0 := by rw [pcode, if_pos HMB.out, if_pos (by omega), if_pos (by rw [← HVV.out]; omega)]
                      rw [hpc] at h1
                      subst h1
                      rw [putL, hpc, if_pos rfl] at hSS
                      have d1 : ¬ (Q : Int) < (v : Int) := by omega
                      have d2 : ¬ Q < v := by omega
                      obtain ⟨w9, hrun, hms, hgr⟩ := HK.out.ms.put (HI.out.st.ps.ris) (n := nm) (d := xd) (by unfold maxLen; omega) (by unfold maxLen; omega) (by have := HI.out.len; omega)
                      have HE : Hid (KI w0 w9 (w0.heap.size + 1) w0.heap.size g (j + 1) Q (m + 1) (layL L nm xd)) := by
                        have h := HK.out
                        rw [hSS] at h
                        exact ⟨HNEX.out w9 hgr _ _ hms h, hms, HI.out.hg, HI.out.ne, by have := HI.out.m0; omega, by have := HI.out.mj; omega, by have := HI.out.len; have := len_lay L nm xd; omega, fun p hp => by rcases mem_lay hp with rfl | hp; exact hn2; exact HI.out.two p hp⟩
                      clear hSS hms hgr hvv hpc
                      go_wp2_with fail
                      refine HAMc.out.mono ?_
                      rintro e w8 ⟨rfl, rfl⟩
                      clear HAMc
                      go_wp2
                      go_roundw
                      case rel => exact ⟨j + 1, m + 1, layL L nm xd, by omega, by omega, by go_num, by rw [HVV.out], HE.out⟩
                      case measure => simp [intOf]; omega
                    · have hpc : pcode nm xd L Q = 71 := by rw [pcode, if_pos HMB.out, if_pos (by omega), if_neg (by rw [← HVV.out]; omega)]
                      rw [hpc] at h1
                      subst h1
                      rw [putL, hpc, if_neg (by decide)] at hSS
                      have d1 : (Q : Int) < (v : Int) := by omega
                      have d2 : Q < v := by omega
                      go_wp2_with fail
                      refine HAMc.out.mono ?_
                      rintro e w8 ⟨rfl, rfl⟩
                      clear HAMc
                      have HE : Hid (KI w0 w8 (w0.heap.size + 1) w0.heap.size g (j + 1) Q (m + 1) L) := by
                        have h := HK.out
                        rw [hSS] at h
                        exact ⟨h.st, h.ms, HI.out.hg, HI.out.ne, by have := HI.out.m0; omega, by have := HI.out.mj; omega, by have := HI.out.len; omega, HI.out.two⟩
                      clear hSS hvv hpc
                      go_wp2
                      go_roundw
                      case rel => exact ⟨j + 1, m + 1, L, by omega, by omega, by go_num, rfl, HE.out⟩
                      case measure => simp [intOf]; omega
                  | false =>
                    have hvv : v = usedL L + (2 + xd.size) := by have := huv; rw [hold.out, if_neg (by decide)] at this; omega
                    have f2 : IntKind.i64.wrap (((usedL L : Nat) : Int) + (2 + (xd.size : Int))) = (v : Int) := by simp [IntKind.wrap_i64]; omega
                    by_cases hq : v ≤ Q
                    · have hpc : pcode nm xd L Q = 0 := by rw [pcode, if_pos HMB.out, if_pos (by omega), if_pos (by rw [← HVV.out]; omega)]
                      rw [hpc] at h1
                      subst h1
                      rw [putL, hpc, if_pos rfl] at hSS
                      have d1 : ¬ (Q : Int) < (v : Int) := by omega
                      have d2 : ¬ Q < v := by omega
                      obtain ⟨w9, hrun, hms, hgr⟩ := HK.out.ms.put (HI.out.st.ps.ris) (n := nm) (d := xd) (by unfold maxLen; omega) (by unfold maxLen; omega) (by have := HI.out.len; omega)
                      have HE : Hid (KI w0 w9 (w0.heap.size + 1) w0.heap.size g (j + 1) Q (m + 1) (layL L nm xd)) := by
                        have h := HK.out
                        rw [hSS] at h
                        exact ⟨HNEX.out w9 hgr _ _ hms h, hms, HI.out.hg, HI.out.ne, by have := HI.out.m0; omega, by have := HI.out.mj; omega, by have := HI.out.len; have := len_lay L nm xd; omega, fun p hp => by rcases mem_lay hp with rfl | hp; exact hn2; exact HI.out.two p hp⟩
                      clear hSS hms hgr hvv hpc
                      go_wp2_with fail
                      refine HAMc.out.mono ?_
                      rintro e w8 ⟨rfl, rfl⟩
                      clear HAMc
                      go_wp2
                      go_roundw
                      case rel => exact ⟨j + 1, m + 1, layL L nm xd, by omega, by omega, by go_num, by rw [HVV.out], HE.out⟩
                      case measure => simp [intOf]; omega
                    · have hpc : pcode nm xd L Q = 71 := by rw [pcode, if_pos HMB.out, if_pos (by omega), if_neg (by rw [← HVV.out]; omega)]
                      rw [hpc] at h1
                      subst h1
                      rw [putL, hpc, if_neg (by decide)] at hSS
                      have d1 : (Q : Int) < (v : Int) := by omega
                      have d2 : Q < v := by omega
                      go_wp2_with fail
                      refine HAMc.out.mono ?_
                      rintro e w8 ⟨rfl, rfl⟩
                      clear HAMc
                      have HE : Hid (KI w0 w8 (w0.heap.size + 1) w0.heap.size g (j + 1) Q (m + 1) L) := by
                        have h := HK.out
                        rw [hSS] at h
                        exact ⟨h.st, h.ms, HI.out.hg, HI.out.ne, by have := HI.out.m0; omega, by have := HI.out.mj; omega, by have := HI.out.len; omega, HI.out.two⟩
                      clear hSS hvv hpc
                      go_wp2
                      go_roundw
                      case rel => exact ⟨j + 1, m + 1, L, by omega, by omega, by go_num, rfl, HE.out⟩
                      case measure => simp [intOf]; omega
                | 1, _ => as_aux_lemma =>
                  rw [show kdm 1 = 2 from rfl] at hKDo
                  subst hKDo
                  simp only [doR, doS] at hRR hSS
                  simp at hRR hSS
                  rw [show ((1 : Nat) : Int) = 1 from rfl] at HAMc
                  have hdc : dcode nm L = if th = true then 0 else 5 := by rw [HTH.out]; rfl
                  obtain ⟨h1, h2, h3⟩ := hRR
                  rw [← HO.out] at h2
                  rw [hdc] at h1
                  subst h2
                  clear hdc h3
                  cases th with
                  | true =>
                    obtain rfl : rc = 0 := h1.symm
                    go_wp2_with fail
                    refine HAMc.out.mono ?_
                    rintro e w8 ⟨rfl, rfl⟩
                    clear HAMc
                    have HE : Hid (KI w0 w8 (w0.heap.size + 1) w0.heap.size g (j + 1) Q (m + 1) L) := by
                      have h := HK.out
                      rw [hSS] at h
                      exact ⟨h.st, h.ms, HI.out.hg, HI.out.ne, by have := HI.out.m0; omega, by have := HI.out.mj; omega, by have := HI.out.len; omega, HI.out.two⟩
                    clear hSS h1
                    go_wp2
                    go_roundw
                    case rel => exact ⟨j + 1, m + 1, L, by omega, by omega, by go_num, rfl, HE.out⟩
                    case measure => simp [intOf]; omega
                  | false =>
                    obtain rfl : rc = 5 := h1.symm
                    go_wp2_with fail
                    refine HAMc.out.mono ?_
                    rintro e w8 ⟨rfl, rfl⟩
                    clear HAMc
                    have HE : Hid (KI w0 w8 (w0.heap.size + 1) w0.heap.size g (j + 1) Q (m + 1) L) := by
                      have h := HK.out
                      rw [hSS] at h
                      exact ⟨h.st, h.ms, HI.out.hg, HI.out.ne, by have := HI.out.m0; omega, by have := HI.out.mj; omega, by have := HI.out.len; omega, HI.out.two⟩
                    clear hSS h1
                    go_wp2
                    go_roundw
                    case rel => exact ⟨j + 1, m + 1, L, by omega, by omega, by go_num, rfl, HE.out⟩
                    case measure => simp [intOf]; omega
                | 2, _ => as_aux_lemma =>
                  rw [show kdm 2 = 4 from rfl] at hKDo
                  subst hKDo
                  simp only [doR, doS] at hRR hSS
                  simp at hRR hSS
                  rw [show ((2 : Nat) : Int) = 2 from rfl] at HAMc
                  have hdc : dcode nm L = if th = true then 0 else 5 := by rw [HTH.out]; rfl
                  obtain ⟨h1, h2, h3⟩ := hRR
                  rw [hdc] at h1
                  clear hdc h2 h3
                  cases th with
                  | true =>
                    obtain rfl : rc = 0 := h1.symm
                    obtain ⟨v, hv⟩ : ∃ v, v = usedL (delL L nm) := ⟨_, rfl⟩
                    have huv : usedL L = v + (2 + old.size) := by rw [hv, used_del L nm, hold.out, if_pos rfl]
                    have hub := HUB.out
                    have f1 : IntKind.i64.wrap ((2 : Int) + (old.size : Int)) = 2 + (old.size : Int) := by simp [IntKind.wrap_i64]; omega
                    have f2 : IntKind.i64.wrap (((usedL L : Nat) : Int) - (2 + (old.size : Int))) = (v : Int) := by simp [IntKind.wrap_i64]; omega
                    have HVV := hide hv
                    obtain ⟨w9, hrun, hms, hgr⟩ := HK.out.ms.del (HI.out.st.ps.ris) (n := nm) (by unfold maxLen; omega) 0
                    have HE : Hid (KI w0 w9 (w0.heap.size + 1) w0.heap.size g (j + 1) Q (m + 1) (delL L nm)) := by
                      have h := HK.out
                      rw [hSS] at h
                      exact ⟨HNEX.out w9 hgr _ _ hms h, hms, HI.out.hg, HI.out.ne, by have := HI.out.m0; omega, by have := HI.out.mj; omega, by have := HI.out.len; have := len_del L nm; omega, fun p hp => HI.out.two p (mem_del hp)⟩
                    clear hSS h1 hms hgr hv huv hub
                    go_wp2_with fail
                    refine HAMc.out.mono ?_
                    rintro e w8 ⟨rfl, rfl⟩
                    clear HAMc
                    go_wp2
                    go_roundw
                    case rel => exact ⟨j + 1, m + 1, delL L nm, by omega, by omega, by go_num, by rw [HVV.out], HE.out⟩
                    case measure => simp [intOf]; omega
                  | false =>
                    obtain rfl : rc = 5 := h1.symm
                    have hdn : delL L nm = L := del_none (by
                      have := HTH.out
                      cases hq : thr L nm with
                      | none => rfl
                      | some d => rw [hq] at this; cases this)
                    rw [hdn] at hSS
                    go_wp2_with fail
                    refine HAMc.out.mono ?_
                    rintro e w8 ⟨rfl, rfl⟩
                    clear HAMc
                    have HE : Hid (KI w0 w8 (w0.heap.size + 1) w0.heap.size g (j + 1) Q (m + 1) L) := by
                      have h := HK.out
                      rw [hSS] at h
                      exact ⟨h.st, h.ms, HI.out.hg, HI.out.ne, by have := HI.out.m0; omega, by have := HI.out.mj; omega, by have := HI.out.len; omega, HI.out.two⟩
                    clear hSS h1 hdn
                    go_wp2
                    go_roundw
                    case rel => exact ⟨j + 1, m + 1, L, by omega, by omega, by go_num, rfl, HE.out⟩
                    case measure => simp [intOf]; omega
                | 3, _ => as_aux_lemma =>
                  rw [show kdm 3 = 3 from rfl] at hKDo
                  subst hKDo
                  simp only [doR, doS] at hRR hSS
                  simp at hRR hSS
                  rw [show ((3 : Nat) : Int) = 3 from rfl] at HAMc
                  obtain ⟨h1, h2, h3⟩ := hRR
                  have hrn : rn = if th = true then 1 else 0 := by
                    rw [HRN.out, ← h3, HTH.out]
                    exact names_two HI.out.st.ps.ris (fun p hp => by rw [HI.out.two p hp, hn2])
                  subst h1
                  clear h2 h3
                  cases th with
                  | true =>
                    obtain rfl : rn = 1 := hrn
                    go_wp2_with fail
                    refine HAMc.out.mono ?_
                    rintro e w8 ⟨rfl, rfl⟩
                    clear HAMc
                    have HE : Hid (KI w0 w8 (w0.heap.size + 1) w0.heap.size g (j + 1) Q (m + 1) L) := by
                      have h := HK.out
                      rw [hSS] at h
                      exact ⟨h.st, h.ms, HI.out.hg, HI.out.ne, by have := HI.out.m0; omega, by have := HI.out.mj; omega, by have := HI.out.len; omega, HI.out.two⟩
                    clear hSS
                    go_wp2
                    go_roundw
                    case rel => exact ⟨j + 1, m + 1, L, by omega, by omega, by go_num, rfl, HE.out⟩
                    case measure => simp [intOf]; omega
                  | false =>
                    obtain rfl : rn = 0 := hrn
                    go_wp2_with fail
                    refine HAMc.out.mono ?_
                    rintro e w8 ⟨rfl, rfl⟩
                    clear HAMc
                    have HE : Hid (KI w0 w8 (w0.heap.size + 1) w0.heap.size g (j + 1) Q (m + 1) L) := by
                      have h := HK.out
                      rw [hSS] at h
                      exact ⟨h.st, h.ms, HI.out.hg, HI.out.ne, by have := HI.out.m0; omega, by have := HI.out.mj; omega, by have := HI.out.len; omega, HI.out.two⟩
                    clear hSS
                    go_wp2
                    go_roundw
                    case rel => exact ⟨j + 1, m + 1, L, by omega, by omega, by go_num, rfl, HE.out⟩
                    case measure => simp [intOf]; omega
      · by_cases hlt2 : j < N
        · obtain rfl : j = 50 := by omega
          have b1 : ((50 : Nat) : Int) < (N : Int) := by omega
          go_wp2
          go_meet
          case rel => exact ⟨50, m, L, rfl, by omega, HI.out⟩
        · have b1 : ¬ (j : Int) < (N : Int) := by omega
          go_wp2
          go_meet
          case rel => exact ⟨j, m, L, rfl, hj5, HI.out⟩
  case rest =>
    obtain ⟨j, m, L, rfl, hj5, hI⟩ := hcut
    have HI := hide hI
    have HUS : Hid _ := hide (used_any hI.st.ps)
    have HNA : Hid _ := hide (names_any hI.st.ps (by have := hI.len; show L.length ≤ _; omega))
    have hln := hI.ms.len 3
    clear hI HK2 hmk
    go_wp2_with fail
    refine HUS.out.mono ?_
    rintro e w3 ⟨rfl, rfl⟩
    go_wp2_with fail
    refine HNA.out.mono ?_
    rintro e w4 ⟨v4, rfl, hT4, hb4⟩
    obtain ⟨a4, c4, rfl⟩ := hT4.shp
    dsimp only
    rw [names_whole]
    have hln4 := (HI.out.bel hb4).ms.len 3
    have HB := hide (HI.out.bel hb4).st.be
    generalize L.length = n4 at *
    go_wp2
    go_ret
    exact ⟨rfl, HB.out⟩
end Go.Proofs.YtillnffhhmkgdaaDoor
