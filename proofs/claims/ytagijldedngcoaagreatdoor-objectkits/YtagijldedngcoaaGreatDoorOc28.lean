/-
  Contracts of the program and of the statements (part 28 of 35).
-/
import Derived.Test.YtagijldedngcoaaGreatDoorOc27
import Derived.Test.YtagijldedngcoaaGreatDoorOc12
import Derived.Test.YtagijldedngcoaaGreatDoorOc26
import Derived.BigQuiet

namespace Go.Proofs.YtagijldedngcoaaGreatDoor
open Go.RowKit Go.Lib
theorem cntC_snoc (c : Int) (A : List RR) (x : RR) : cntC c (A ++ [x]) = cntC c A + if x.c = c then 1 else 0 := by
  unfold cntC
  rw [List.filter_append, List.length_append]
  by_cases h : x.c = c <;> simp [h]
theorem awy_snoc : ∀ (A : List RR) (x : RR), awy (A ++ [x]) = if awy A = 0 then (if x.c = 0 ∨ x.c = 5 then 0 else x.c) else awy A
  | [], x => by simp [awy]
  | y :: A, x => by
    rw [List.cons_append, awy, awy]
    by_cases h : y.c = 0 ∨ y.c = 5
    · rw [if_pos h, if_pos h]; exact awy_snoc A x
    · rw [if_neg h, if_neg h, if_neg (by omega)]
theorem cntC_le (c : Int) (A : List RR) : cntC c A ≤ A.length := List.length_filter_le _ _
section
variable {w : World} {K M : Nat} {r : Nat → Prop} {av : Value} {X : List (RR × Value)}
set_option maxRecDepth 100000 in
theorem stores_any (h : K + M ≤ 255) : Calls Tryz.prog 57 #[.agg #[.int .i64 (K : Int), .int .i64 (M : Int)]] w fun e w' => e = .returned (.int .i64 ((K + M : Nat) : Int)) ∧ Below w.heap.size w w' := by
  have e : ((K + M : Nat) : Int) = (K : Int) + (M : Int) := by omega
  have h1 : (K : Int) + (M : Int) ≤ 255 := by omega
  have h2 : (0 : Int) ≤ (K : Int) + (M : Int) := by omega
  have HE := hide e
  clear e
  go_enter Tryz.func57, Tryz.ntmps57
  go_wp2
  go_ret
  exact ⟨by rw [HE.out]; rfl, (Below.refl _ _).alloc (Nat.le_refl _) _⟩
set_option maxRecDepth 100000 in
set_option maxHeartbeats 3200000 in
theorem refusal_any (hL : LS x3 3 r w av X) (hS : ∀ x ∈ X, ∃ a n c, x.2 = .slice a n c) (hn : X.length ≤ 255) (hM : M ≤ 255) :
    Calls Tryz.prog 156 #[.agg #[.int .i64 (K : Int), .int .i64 (M : Int)], av] w fun e w' => e = .returned (.int .i64 (rfs M (X.map (·.1)))) ∧ Below w.heap.size w w' := by
  obtain ⟨a, c, hav⟩ := hL.shp
  obtain ⟨n, hnn⟩ : ∃ n, n = X.length := ⟨_, rfl⟩
  rw [← hnn] at hav
  obtain ⟨n0, hn0⟩ : ∃ n0, n0 = w.heap.size := ⟨_, rfl⟩
  obtain ⟨W, hW⟩ : ∃ W, W = w.alloc (.cells #[.int .i64 (K : Int), .int .i64 (M : Int)] 27) := ⟨_, rfl⟩
  have hB : Below w.heap.size w W := by rw [hW]; exact (Below.refl _ _).alloc (Nat.le_refl _) _
  have k0 : W.heap[n0]? = some (.cells #[.int .i64 (K : Int), .int .i64 (M : Int)] 27 (0, 0)) := by rw [hW, hn0]; exact heap_alloc_new w _
  have HX : Hid (∀ (j : Nat) (x : RR × Value), X[j]? = some x → ∀ wr, Below w.heap.size w wr → ∃ g o, a = some ⟨g, o, none⟩ ∧ wr.cell? ⟨g, o + j * 3, none⟩ = some (.int .i64 x.1.c) ∧ wr.cell? ⟨g, o + j * 3 + 1, none⟩ = some (.string x.1.d) ∧ wr.cell? ⟨g, o + j * 3 + 2, none⟩ = some x.2) := fun j x hx wr hb => by
    obtain ⟨a', c', e, _, h2 | ⟨g, o, ea, _, _, hG⟩⟩ := hL.bel hb
    · rw [h2] at hx; simp at hx
    · rw [hav] at e
      simp only [Value.slice.injEq] at e
      refine ⟨g, o, by rw [e.1, ea], hG j x hx 0 _ rfl, hG j x hx 1 _ rfl, hG j x hx 2 _ rfl⟩
  have H0 : Hid (W.heap[n0]? = some (.cells #[.int .i64 (K : Int), .int .i64 (M : Int)] 27 (0, 0)) ∧ Below w.heap.size w W) := ⟨k0, hB⟩
  have HW := hide hW
  have HN0 := hide hn0
  have HS := hide (And.intro hS hnn)
  have hn255 : n ≤ 255 := by omega
  rw [hav]
  clear hL hS hn hnn hav hW hn0 hB k0
  go_enter Tryz.func156, Tryz.ntmps156
  go_upto_region 1 with fail
  rw [← HW.out, ← HN0.out]
  go_wp2
  go_loopw [5, 6, 7, 12] (fun ab ro aw i wr => ∃ j : Nat, j ≤ n ∧ i = .int .i64 (j : Int) ∧ ab = .int .i64 (cntC 5 ((X.take j).map (·.1)) : Nat) ∧ ro = .int .i64 (cntC 0 ((X.take j).map (·.1)) : Nat) ∧ aw = .int .i64 (awy ((X.take j).map (·.1))) ∧ wr.heap[n0]? = some (.cells #[.int .i64 (K : Int), .int .i64 (M : Int)] 27 (0, 0)) ∧ Below w.heap.size w wr) (fun _ _ _ i _ => n - (intOf i).toNat)
  case atStart => exact ⟨0, Nat.zero_le _, rfl, by simp [cntC], by simp [cntC], by simp [awy], H0.out⟩
  case round =>
    obtain ⟨j, hj, rfl, rfl, rfl, rfl, hk, hb⟩ := hrel
    have l5 := cntC_le 5 ((X.take j).map (·.1))
    have l0 := cntC_le 0 ((X.take j).map (·.1))
    rw [List.length_map, List.length_take] at l5 l0
    obtain ⟨p5, hp5⟩ : ∃ p, p = cntC 5 ((X.take j).map (·.1)) := ⟨_, rfl⟩
    obtain ⟨p0, hp0⟩ : ∃ p, p = cntC 0 ((X.take j).map (·.1)) := ⟨_, rfl⟩
    obtain ⟨aw, haw⟩ : ∃ p, p = awy ((X.take j).map (·.1)) := ⟨_, rfl⟩
    rw [← hp5, ← hp0, ← haw]
    rw [← hp5] at l5
    rw [← hp0] at l0
    have HP := hide (And.intro hp5 (And.intro hp0 haw))
    have HK := hide (And.intro hk hb)
    clear hp5 hp0 haw hk hb
    by_cases hlt : j < n
    · have b1 : (j : Int) < (n : Int) := by omega
      have b0 : (0 : Int) ≤ (j : Int) := by omega
      have hp5b : (p5 : Int) ≤ 255 := by omega
      have hp0b : (p0 : Int) ≤ 255 := by omega
      obtain ⟨x, hx⟩ : ∃ x, X[j]? = some x := ⟨_, List.getElem?_eq_getElem (by have := HS.out.2; omega)⟩
      obtain ⟨g, o, rfl, u0, u1, u2⟩ := HX.out j x hx wr HK.out.2
      obtain ⟨xa, xn, xc, hxs⟩ := HS.out.1 x (List.mem_of_getElem? hx)
      obtain ⟨V, hV⟩ : ∃ V, V = wr.alloc (.cells #[.int .i64 x.1.c, .string x.1.d, x.2] 87) := ⟨_, rfl⟩
      have hBV : Below wr.heap.size wr V := by rw [hV]; exact (Below.refl _ _).alloc (Nat.le_refl _) _
      have kV : V.heap[wr.heap.size]? = some (.cells #[.int .i64 x.1.c, .string x.1.d, x.2] 87 (0, 0)) := by rw [hV]; exact heap_alloc_new wr _
      obtain ⟨bx, hbx⟩ : ∃ bx, bx = wr.heap.size := ⟨_, rfl⟩
      rw [← hbx] at kV
      have z0 : V.cell? ⟨bx, 0, none⟩ = some (.int .i64 x.1.c) := by simp [World.cell?, kV]
      have HE : Hid ((V.heap[n0]? = some (.cells #[.int .i64 (K : Int), .int .i64 (M : Int)] 27 (0, 0)) ∧ Below w.heap.size w V)) := ⟨(hBV.block n0 (lt_of_block HK.out.1)).trans HK.out.1, HK.out.2.trans (hBV.mono HK.out.2.size)⟩
      have HT : Hid ((X.take (j + 1)).map (·.1) = (X.take j).map (·.1) ++ [x.1]) := by
        show (X.take (j + 1)).map (·.1) = _
        rw [take_snoc_at hx, List.map_append]; rfl
      have HV := hide (And.intro hV hbx)
      rw [hxs] at u2 HV
      clear hV hBV kV hbx hx hxs
      have fin : Hid (∀ (q5 q0 : Nat) (q : Int), q5 = p5 + (if x.1.c = 5 then 1 else 0) → q0 = p0 + (if x.1.c = 0 then 1 else 0) → q = (if aw = 0 then (if x.1.c = 0 ∨ x.1.c = 5 then 0 else x.1.c) else aw) → q5 = cntC 5 ((X.take (j + 1)).map (·.1)) ∧ q0 = cntC 0 ((X.take (j + 1)).map (·.1)) ∧ q = awy ((X.take (j + 1)).map (·.1))) := fun q5 q0 q h1 h2 h3 => by
        obtain ⟨hp5, hp0, haw⟩ := HP.out
        rw [HT.out, cntC_snoc, cntC_snoc, awy_snoc, ← hp5, ← hp0, ← haw]
        exact ⟨h1, h2, h3⟩
      obtain ⟨cc, hcc⟩ : ∃ cc, cc = x.1.c := ⟨_, rfl⟩
      rw [← hcc] at fin z0 HV u0
      clear hcc HT HP
      by_cases h0 : cc = 0
      · obtain ⟨f1, f2, f3⟩ := fin.out p5 (p0 + 1) aw (by rw [if_neg (by omega)]; rfl) (by rw [if_pos h0]) (by by_cases e : aw = 0; rw [if_pos e, if_pos (.inl h0)]; exact e; rw [if_neg e])
        have HF := hide (And.intro f1 (And.intro f2 f3))
        subst h0
        clear f1 f2 f3 fin
        go_upto_region 5 with fail
        rw [← HV.out.1, ← HV.out.2]
        go_wp2
        exact ⟨⟨j + 1, by omega, by go_num, by rw [← HF.out.1], by rw [← HF.out.2.1]; go_num, by rw [← HF.out.2.2], HE.out⟩, by simp [intOf]; omega⟩
      · by_cases h5 : cc = 5
        · obtain ⟨f1, f2, f3⟩ := fin.out (p5 + 1) p0 aw (by rw [if_pos h5]) (by rw [if_neg h0]; rfl) (by by_cases e : aw = 0; rw [if_pos e, if_pos (.inr h5)]; exact e; rw [if_neg e])
          have HF := hide (And.intro f1 (And.intro f2 f3))
          subst h5
          clear f1 f2 f3 fin
          go_upto_region 5 with fail
          rw [← HV.out.1, ← HV.out.2]
          go_wp2
          exact ⟨⟨j + 1, by omega, by go_num, by rw [← HF.out.1]; go_num, by rw [← HF.out.2.1], by rw [← HF.out.2.2], HE.out⟩, by simp [intOf]; omega⟩
        · by_cases ha : aw = 0
          · obtain ⟨f1, f2, f3⟩ := fin.out p5 p0 cc (by rw [if_neg h5]; rfl) (by rw [if_neg h0]; rfl) (by rw [if_pos ha, if_neg (by omega)])
            have HF := hide (And.intro f1 (And.intro f2 f3))
            subst ha
            clear f1 f2 f3 fin
            go_upto_region 5 with fail
            rw [← HV.out.1, ← HV.out.2]
            go_wp2
            exact ⟨⟨j + 1, by omega, by go_num, by rw [← HF.out.1], by rw [← HF.out.2.1], by rw [← HF.out.2.2], HE.out⟩, by simp [intOf]; omega⟩
          · obtain ⟨f1, f2, f3⟩ := fin.out p5 p0 aw (by rw [if_neg h5]; rfl) (by rw [if_neg h0]; rfl) (by rw [if_neg ha])
            have HF := hide (And.intro f1 (And.intro f2 f3))
            clear f1 f2 f3 fin
            go_upto_region 5 with fail
            rw [← HV.out.1, ← HV.out.2]
            go_wp2
            exact ⟨⟨j + 1, by omega, by go_num, by rw [← HF.out.1], by rw [← HF.out.2.1], by rw [← HF.out.2.2], HE.out⟩, by simp [intOf]; omega⟩
    · obtain rfl : j = n := by omega
      have HR : Hid (rfs M (X.map (·.1)) = if aw ≠ 0 ∧ p5 + p0 ≤ M then aw else if 0 < p0 then 100 else 5) := by
        show rfs M (X.map (·.1)) = _
        have e : X.take j = X := List.take_of_length_le (by have := HS.out.2; omega)
        have h9 := HP.out
        rw [e] at h9
        rw [h9.1, h9.2.1, h9.2.2]; rfl
      have z1 : wr.cell? ⟨n0, 1, none⟩ = some (.int .i64 (M : Int)) := by simp [World.cell?, HK.out.1]
      have hp5b : (p5 : Int) ≤ 255 := by omega
      have hp0b : (p0 : Int) ≤ 255 := by omega
      have hMb : (M : Int) ≤ 255 := by omega
      clear HP
      by_cases ha : aw = 0
      · by_cases h0 : 0 < p0
        · have HF : Hid (rfs M (X.map (·.1)) = 100) := by show rfs M (X.map (·.1)) = 100; rw [HR.out, if_neg (fun h => h.1 ha), if_pos h0]
          have h0' : (0 : Int) < (p0 : Int) := by omega
          subst ha
          go_wp2
          go_ret
          exact ⟨by rw [HF.out]; rfl, HK.out.2⟩
        · have HF : Hid (rfs M (X.map (·.1)) = 5) := by show rfs M (X.map (·.1)) = 5; rw [HR.out, if_neg (fun h => h.1 ha), if_neg h0]
          have h0' : ¬ (0 : Int) < (p0 : Int) := by omega
          subst ha
          go_wp2
          go_ret
          exact ⟨by rw [HF.out]; rfl, HK.out.2⟩
      · by_cases hle : p5 + p0 ≤ M
        · have HF : Hid (rfs M (X.map (·.1)) = aw) := by show rfs M (X.map (·.1)) = aw; rw [HR.out, if_pos ⟨ha, hle⟩]
          have hle' : (p5 : Int) + (p0 : Int) ≤ (M : Int) := by omega
          go_wp2
          go_ret
          exact ⟨by rw [HF.out]; rfl, HK.out.2⟩
        · have hle' : ¬ (p5 : Int) + (p0 : Int) ≤ (M : Int) := by omega
          by_cases h0 : 0 < p0
          · have HF : Hid (rfs M (X.map (·.1)) = 100) := by show rfs M (X.map (·.1)) = 100; rw [HR.out, if_neg (fun h => hle h.2), if_pos h0]
            have h0' : (0 : Int) < (p0 : Int) := by omega
            go_wp2
            go_ret
            exact ⟨by rw [HF.out]; rfl, HK.out.2⟩
          · have HF : Hid (rfs M (X.map (·.1)) = 5) := by show rfs M (X.map (·.1)) = 5; rw [HR.out, if_neg (fun h => hle h.2), if_neg h0]
            have h0' : ¬ (0 : Int) < (p0 : Int) := by omega
            go_wp2
            go_ret
            exact ⟨by rw [HF.out]; rfl, HK.out.2⟩
end
end Go.Proofs.YtagijldedngcoaaGreatDoor

namespace Go.Proofs.YtagijldedngcoaaGreatDoor.Zq
open Go.RowKit Go.Lib

theorem fu_all {k : Nat} {I : Nat → Int} : ∀ n, n ≤ k → (∀ s t, s < n → t < n → I s = I t → s = t) → fu k I n = List.range n
  | 0, _, _ => rfl
  | n + 1, hn, hi => by
    have e := fu_all (k := k) (I := I) n (by omega) (fun s t hs ht => hi s t (by omega) (by omega))
    rw [fu_take, e, List.range_succ]
    · rw [e, List.length_range]; omega
    · rw [e]
      intro h
      obtain ⟨t, ht, h2⟩ := List.mem_map.1 h
      have := hi t n (by have := List.mem_range.1 ht; omega) (by omega) h2
      have := List.mem_range.1 ht
      omega
theorem any_join {k m : Nat} (k1 : 1 ≤ k) (km : k + m ≤ 255) {I : Nat → Int} {X : Nat → ByteArray} {ρ : Nat → Nat} {n : Nat} (s : ByteArray) (hI : ∀ t, t < n → I t = ((ρ t : Nat) : Int)) (hρ : ∀ t, t < n → ρ t < k + m)
    (hX : ∀ t, t < n → X t = shd k s (ρ t)) (hf : (fu k I n).length = k) (hinj : ∀ a b, a < k → b < k → I ((fu k I n).getD a 0) = I ((fu k I n).getD b 0) → a = b) : joinB k I X n s.size = s := by
  have hmem : ∀ t, t < k → (fu k I n).getD t 0 < n := fun t ht => fu_lt (getD_mem (by rw [hf]; exact ht))
  have hr : ∀ t, t < k → rhoL I (fu k I n) t = ρ ((fu k I n).getD t 0) := fun t ht => by
    rw [rhoL, hI _ (hmem t ht)]
    exact Int.toNat_natCast _
  rw [joinB, cat_congr (Y' := pc k s) (fun i hi => bkd_shd k1 km (fun t ht => by rw [hr t ht]; exact hρ _ (hmem t ht)) (fun a b ha hb e => hinj a b ha hb (by
    rw [hr a ha, hr b hb] at e
    rw [hI _ (hmem a ha), hI _ (hmem b hb), e])) s (fun t ht => by rw [hr t ht, txJ]; exact hX _ (hmem t ht)) hi)]
  exact cat_back k1 s

section
variable {data : ByteArray} {out : Nat} {X : Nat → SX}
end
theorem gJS_size {X : Nat → SX} {n : Nat} : (gJS X n).size ≤ 65536 := by
  unfold gJS jnS
  split
  · exact Nat.zero_le _
  split
  · exact Nat.zero_le _
  rename_i h1 h2
  have hf : faultV (X 0).k.toNat (X 0).m.toNat (X 0).long (fun i => (X i).i) (fun i => (X i).data) n = 0 := Classical.not_not.1 h1
  have := faultV_zero hf
  rw [joinB, ByteArray.size_extract]
  omega
end Go.Proofs.YtagijldedngcoaaGreatDoor.Zq


namespace Go.Proofs.YtagijldedngcoaaGreatDoor
open Go.RowKit Go.Lib
theorem gth_size {K : Nat} {f : List Zq.SX} {d : ByteArray} (h : gth K f = some d) : d.size ≤ 65536 := by
  have : ∀ m t, gthN K f m t = some d → d.size ≤ 65536 := by
    intro m
    induction m with
    | zero => intro t h; rw [gthN] at h; cases h
    | succ m ih =>
      intro t h
      rw [gthN] at h
      cases hi : ith K f.length t with
      | none => rw [hi] at h; cases h
      | some c =>
        rw [hi] at h
        cases hg : gaV (pick f c) with
        | none => simp only [hg] at h; exact ih _ h
        | some d' =>
          simp only [hg] at h
          cases h
          rw [gaV] at hg
          split at hg
          · cases hg; exact Zq.gJS_size
          · cases hg
  exact this _ _ h
structure FVok (K M : Nat) (v : FV) : Prop where
  d : v.d.size ≤ 65536
  h : ∀ x ∈ v.had, Zq.okS x ∧ x.k = K ∧ x.m = M
  l : v.had.length ≤ 255
theorem fndL_ok {K M : Nat} {want : ByteArray} {L : List Zq.SX} (hL : ∀ y ∈ L, Zq.okS y ∧ y.k = K ∧ y.m = M) (hl : L.length ≤ 255) {d : ByteArray} {f : List Zq.SX} : ∀ {all : List (List Zq.SX)}, (∀ g ∈ all, g.length ≤ L.length ∧ ∀ y ∈ g, y ∈ L) → fndL K want all = some (d, f) → FVok K M ⟨d, f, 0⟩
  | [], _, h => by rw [fndL] at h; cases h
  | g :: r, ha, h => by
    rw [fndL] at h
    split at h
    · exact fndL_ok hL hl (fun g' hg => ha g' (by simp [hg])) h
    · cases hg : gth K g with
      | none => simp only [hg] at h; exact fndL_ok hL hl (fun g' hg => ha g' (by simp [hg])) h
      | some d' =>
        simp only [hg] at h
        cases h
        have := ha f (by simp)
        exact ⟨gth_size hg, fun x hx => hL x (this.2 x hx), by show f.length ≤ 255; omega⟩
theorem fnd_ok (K M : Nat) (want : ByteArray) (A : List RR) (hA : A.length ≤ 255) : FVok K M (fnd K M want A) := by
  have h1 := gdL_len K M A
  rw [fnd]
  cases h : fndL K want (famL (gdL K M A)) with
  | none => exact ⟨Nat.zero_le _, fun x hx => by simp at hx, by simp⟩
  | some z =>
    obtain ⟨d, f⟩ := z
    exact fndL_ok (fun y hy => gdL_ok hy) (by omega) (famL_bd _ _ rfl).2 h
section
variable {F : FuncId} {fi ca : Array Value} {W : World} {K M y1 y2 y3 : Nat} {r p : Nat → Prop} {av : Value} {X : List (RR × Value)} {want : ByteArray} {Q : World → Prop}
set_option maxRecDepth 100000 in
set_option maxHeartbeats 3200000 in
theorem find1_any (hent : Ent F) (h1 : W.heap[y1]? = some (.cells #[.int .i64 (K : Int), .int .i64 (M : Int)] 27 (0, 0))) (h2 : W.heap[y2]? = some (.cells #[.string want] 9 (0, 0))) (h3 : W.heap[y3]? = some (.cells #[.func (.func F) fi ca] 190 (0, 0)))
    (hL : LS x3 3 r W av X) (hS : ∀ x ∈ X, ∃ a n c, x.2 = .slice a n c) (hd : ∀ x ∈ X, x.1.d.size ≤ 1000000) (hn : X.length ≤ 255) (hLw : Zq.Sh.Laid W) (hK : 1 ≤ K) (hKM : K + M ≤ 255)
    (HC : ∀ W1 hv, Below W.heap.size W W1 → LS Zq.six 6 (fun i => W.heap.size ≤ i ∧ i < W1.heap.size) W1 hv (fnd K M want (X.map (·.1))).had → Calls Tryz.prog F (fi ++ (#[.string (fnd K M want (X.map (·.1))).d, hv, .int .i64 (fnd K M want (X.map (·.1))).e] ++ ca)) W1 fun e w' => e = .returned (.tuple #[]) ∧ Gs p W1 w' ∧ Q w') :
    Calls Tryz.prog 153 #[av, .pointer (some ⟨y1, 0, none⟩), .pointer (some ⟨y2, 0, none⟩), .pointer (some ⟨y3, 0, none⟩)] W fun e w' => e = .returned (.tuple #[]) ∧ Gs p W w' ∧ Q w' := by
  have HB : Hid (∀ {wr : World}, Below W.heap.size W wr → wr.cell? ⟨y1, 0, none⟩ = some (.int .i64 (K : Int)) ∧ wr.cell? ⟨y1, 1, none⟩ = some (.int .i64 (M : Int)) ∧ wr.cell? ⟨y2, 0, none⟩ = some (.string want) ∧ wr.cell? ⟨y3, 0, none⟩ = some (.func (.func F) fi ca)) := fun hb => by
    have e1 := (hb.block y1 (lt_of_block h1)).trans h1
    have e2 := (hb.block y2 (lt_of_block h2)).trans h2
    have e3 := (hb.block y3 (lt_of_block h3)).trans h3
    exact ⟨by simp [World.cell?, e1], by simp [World.cell?, e1], by simp [World.cell?, e2], by simp [World.cell?, e3]⟩
  have HFA := hide (families_any (K := K) (M := M) hL hS hd hn)
  have HRF : Hid (∀ wr, Below W.heap.size W wr → Calls Tryz.prog 156 #[.agg #[.int .i64 (K : Int), .int .i64 (M : Int)], av] wr fun e w' => e = .returned (.int .i64 (rfs M (X.map (·.1)))) ∧ Below wr.heap.size wr w') := fun wr hb => refusal_any (hL.bel hb) hS hn (by omega)
  have HCC : Hid (∀ W1 hv, Below W.heap.size W W1 → LS Zq.six 6 (fun i => W.heap.size ≤ i ∧ i < W1.heap.size) W1 hv (fnd K M want (X.map (·.1))).had → Calls Tryz.prog F (fi ++ (#[.string (fnd K M want (X.map (·.1))).d, hv, .int .i64 (fnd K M want (X.map (·.1))).e] ++ ca)) W1 fun e w' => e = .returned (.tuple #[]) ∧ Hid (Gs p W w' ∧ Q w')) := fun W1 hv hb hv1 => by
    refine (HC W1 hv hb hv1).mono ?_
    rintro e w' ⟨rfl, hG, hQ⟩
    exact ⟨rfl, (Gs.of_below _ hb).trans hG, hQ⟩
  obtain ⟨A, hA⟩ : ∃ A, A = X.map (·.1) := ⟨_, rfl⟩
  rw [← hA] at HFA HRF HCC
  have hAl : A.length ≤ 255 := by rw [hA, List.length_map]; exact hn
  obtain ⟨all, hall⟩ : ∃ all, all = famL (gdL K M A) := ⟨_, rfl⟩
  have hbd := (famL_bd _ (gdL K M A) rfl)
  have hfa := famL_fa (gdL K M A)
  have hgl := gdL_len K M A
  rw [← hall] at HFA hbd hfa
  have hfe : (∀ d f, fndL K want all = some (d, f) → fnd K M want A = ⟨d, f, 0⟩) ∧ (fndL K want all = none → fnd K M want A = ⟨⟨#[]⟩, [], rfs M A⟩) := ⟨fun d f h => by rw [fnd, ← hall, h], fun h => by rw [fnd, ← hall, h]⟩
  have HALL := hide (And.intro hfe (And.intro hbd (And.intro hfa (And.intro hgl hAl))))
  have HLW := hide hLw
  have HGO : Hid (∀ y ∈ gdL K M A, Zq.okS y ∧ y.k = K ∧ y.m = M) := fun y hy => gdL_ok hy
  obtain ⟨ava, avc, hav⟩ := hL.shp
  rw [hav] at HFA HRF ⊢
  obtain ⟨n, hnn⟩ : ∃ n, n = X.length := ⟨_, rfl⟩
  rw [← hnn] at HFA HRF ⊢
  unfold Ent at hent
  obtain ⟨z0, z1, z2, z3⟩ := HB.out (Below.refl _ W)
  clear h1 h2 h3 hL hS hd hn hLw HC hA hAl hall hbd hfa hgl hfe hav hnn
  go_enter Tryz.func153, Tryz.ntmps153
  go_wp2_with fail
  refine HFA.out.mono ?_
  rintro e W1 ⟨v, us, rfl, hFM, hB1⟩
  obtain ⟨va, vc, hv⟩ := hFM.o.shp
  subst hv
  have HF1 := hide (And.intro hFM hB1)
  have hul := hFM.l
  have hub : us.length ≤ 255 := by have := HALL.out.2.1.1; have := HALL.out.2.2.2; omega
  have HUL := hide hul
  clear hFM hB1 z0 z1 z2 z3 hul
  obtain ⟨N, hN⟩ : ∃ N, N = us.length := ⟨_, rfl⟩
  rw [← hN] at hub ⊢
  have HN := hide hN
  clear hN
  go_wp2
  go_loopw [13] (fun i wr => ∃ j : Nat, j ≤ N ∧ i = .int .i64 (j : Int) ∧ fndL K want (all.drop j) = fndL K want all ∧ FM W.heap.size (.slice va us.length vc) us all wr ∧ Below W.heap.size W wr) (fun i _ => N - (intOf i).toNat)
  case atStart => exact ⟨0, Nat.zero_le _, rfl, by simp, HF1.out⟩
  case round =>
    obtain ⟨j, hj, rfl, hfd, hFM, hb⟩ := hrel
    have HR := hide (And.intro hfd (And.intro hFM hb))
    clear hfd hFM hb HF1
    obtain ⟨z0, z1, z2, z3⟩ := HB.out HR.out.2.2
    by_cases hlt : j < N
    · have b1 : (j : Int) < (N : Int) := by omega
      have b0 : (0 : Int) ≤ (j : Int) := by omega
      obtain ⟨f, hf⟩ : ∃ f, all[j]? = some f := ⟨_, List.getElem?_eq_getElem (by have := HN.out; have := HUL.out; omega)⟩
      obtain ⟨u, g, c, hu, hou, hv, hcell⟩ := HR.out.2.1.at_ hf
      simp only [Value.slice.injEq, true_and] at hv
      obtain ⟨rfl, rfl⟩ := hv
      have hfne := HALL.out.2.2.1.ne f (List.mem_of_getElem? hf)
      obtain ⟨x0, rest, hx0⟩ := List.exists_cons_of_ne_nil hfne
      have hlsu : LS Zq.six 6 (fun i => W.heap.size ≤ i ∧ i < wr.heap.size) wr u f := hou.ls six_len (fun i hi => hou.lt i hi)
      have hlx0 : lx f 0 = x0 := by rw [hx0]; rfl
      obtain ⟨ua, uc, hue, _, h9 | ⟨ug, uo, hua, _, _, hG⟩⟩ := hlsu
      · exact absurd h9 hfne
      subst hua
      subst hue
      have d4 : wr.cell? ⟨ug, uo + 4, none⟩ = some (.string x0.id) := by have := hG 0 x0 (by rw [hx0]; rfl) 4 _ rfl; simpa using this
      have hfl : 0 < f.length := by rw [hx0]; simp
      have hfl' : (0 : Int) < (f.length : Int) := by omega
      have HFD : Hid ((want ≠ ⟨#[]⟩ ∧ x0.id ≠ want → fndL K want (all.drop j) = fndL K want (all.drop (j + 1))) ∧ (¬ (want ≠ ⟨#[]⟩ ∧ x0.id ≠ want) → fndL K want (all.drop j) = match gth K f with | some d => some (d, f) | none => fndL K want (all.drop (j + 1)))) := by
        obtain ⟨hjl, rfl⟩ := List.getElem?_eq_some_iff.1 hf
        rw [List.drop_eq_getElem_cons hjl, fndL, hlx0]
        exact ⟨fun h => if_pos h, fun h => if_neg h⟩
      have HLS := hide (hou.ls (r := fun i => W.heap.size ≤ i ∧ i < wr.heap.size) six_len (fun i hi => hou.lt i hi))
      have HFM : Hid (f ∈ all ∧ True) := ⟨List.mem_of_getElem? hf, trivial⟩
      have HUN := hide HN.out
      clear hf hu hou hfne hx0 hlx0 hG
      by_cases hw : want = ⟨#[]⟩
      · have HNW : Hid (¬ (want ≠ ⟨#[]⟩ ∧ x0.id ≠ want)) := fun h => h.1 hw
        rw [hw] at z2
        have HWE := hide hw
        clear hw
        go_upto_region 3 with fail
        go_quiet (fail)
        have hb4 := (HR.out.2.2)
        have HG := hide (fun nq => gather_f (w := wr.drewN nq) (K := K) ((HLW.out.below hb4 HLW.out.size).drewN nq) HLS.out (by have := (HALL.out.2.1.2 f HFM.out.1).1; have := HALL.out.2.2.2; omega) hK (by omega) (fun x hx => by
          have h5 := HGO.out x ((HALL.out.2.1.2 f HFM.out.1).2 x hx)
          have h6 := h5.1.2.2.2.2
          have h7 : Zq.eachN x.k.toNat x.long.toNat ≤ x.long.toNat := Zq.eachN_le (by have := h5.1.1.1; omega)
          have h8 := h5.1.2.2.1
          exact ⟨by rw [h5.2.2]; omega, by omega⟩))
        clear hb4
        go_wp2_with fail
        refine (HG.out _).mono ?_
        rintro e W4 ⟨d, b, rfl, hgt, hB40⟩
        have hB4 : Below wr.heap.size wr W4 := ⟨hB40.os, hB40.tape, hB40.output, hB40.size, hB40.block⟩
        clear hB40
        obtain ⟨hfd, hFM4, hb4⟩ := HR.out
        have hb5 : Below W.heap.size W W4 := hb4.trans (hB4.mono hb4.size)
        obtain ⟨t0, t1, t2, t3⟩ := HB.out hb5
        rcases hgt with ⟨rfl, hgt⟩ | ⟨rfl, rfl, hgt⟩
        · have HE : Hid (fnd K M want A = ⟨d, f, 0⟩) := by
            show fnd K M want A = _
            refine HALL.out.1.1 d f ?_
            rw [← hfd, HFD.out.2 HNW.out]
            simp only [hgt]
          have HC2 := hide (HCC.out W4 (.slice (some ⟨ug, uo, none⟩) f.length uc) hb5)
          rw [HE.out] at HC2
          have HC3 := hide (HC2.out ((HLS.out.bel hB4).mono fun i hi => ⟨hi.1, by have := hB4.size; omega⟩))
          clear hgt hfd hFM4 hb4 hb5 hB4 t0 t1 t2 HCC HC2
          generalize f.length = fl at *
          go_wp2_with fail
          refine HC3.out.mono ?_
          rintro e W5 ⟨rfl, hF⟩
          go_wp2
          exact bodyPost_ret (v := .tuple #[]) (results_none rfl _ _ _) rfl ⟨rfl, hF.out⟩
        · have HE : Hid (fndL K want (all.drop (j + 1)) = fndL K want all ∧ FM W.heap.size (.slice (some ⟨g, 0, none⟩) us.length vc) us all W4 ∧ Below W.heap.size W W4) := by
            refine ⟨?_, hFM4.bel hB4, hb5⟩
            rw [← hfd, HFD.out.2 HNW.out]
            simp only [hgt]
          clear hgt hfd hFM4 hb4 hb5 hB4 t0 t1 t2 t3 z0 z1 z2 z3
          generalize f.length = fl at *
          go_wp2
          exact ⟨⟨j + 1, by omega, by go_num, HE.out⟩, by simp [intOf]; omega⟩
      · have n1 : ¬ want.toList = [] := fun e => hw (by
          rw [ByteArray.toList_eq] at e
          exact ByteArray.ext (Array.toList_inj.1 (by rw [e])))
        have n2 : want.toList.isEmpty = false := by cases h : want.toList with | nil => exact absurd h n1 | cons _ _ => rfl
        by_cases hi : x0.id = want
        · have HNW : Hid (¬ (want ≠ ⟨#[]⟩ ∧ x0.id ≠ want)) := fun h => h.2 hi
          rw [hi] at d4
          have HI := hide hi
          clear hi
          go_upto_region 3 with fail
          go_quiet (fail)
          have hb4 := (HR.out.2.2)
          have HG := hide (fun nq => gather_f (w := wr.drewN nq) (K := K) ((HLW.out.below hb4 HLW.out.size).drewN nq) HLS.out (by have := (HALL.out.2.1.2 f HFM.out.1).1; have := HALL.out.2.2.2; omega) hK (by omega) (fun x hx => by
            have h5 := HGO.out x ((HALL.out.2.1.2 f HFM.out.1).2 x hx)
            have h6 := h5.1.2.2.2.2
            have h7 : Zq.eachN x.k.toNat x.long.toNat ≤ x.long.toNat := Zq.eachN_le (by have := h5.1.1.1; omega)
            have h8 := h5.1.2.2.1
            exact ⟨by rw [h5.2.2]; omega, by omega⟩))
          clear hb4
          go_wp2_with fail
          refine (HG.out _).mono ?_
          rintro e W4 ⟨d, b, rfl, hgt, hB40⟩
          have hB4 : Below wr.heap.size wr W4 := ⟨hB40.os, hB40.tape, hB40.output, hB40.size, hB40.block⟩
          clear hB40
          obtain ⟨hfd, hFM4, hb4⟩ := HR.out
          have hb5 : Below W.heap.size W W4 := hb4.trans (hB4.mono hb4.size)
          obtain ⟨t0, t1, t2, t3⟩ := HB.out hb5
          rcases hgt with ⟨rfl, hgt⟩ | ⟨rfl, rfl, hgt⟩
          · have HE : Hid (fnd K M want A = ⟨d, f, 0⟩) := by
              show fnd K M want A = _
              refine HALL.out.1.1 d f ?_
              rw [← hfd, HFD.out.2 HNW.out]
              simp only [hgt]
            have HC2 := hide (HCC.out W4 (.slice (some ⟨ug, uo, none⟩) f.length uc) hb5)
            rw [HE.out] at HC2
            have HC3 := hide (HC2.out ((HLS.out.bel hB4).mono fun i hi => ⟨hi.1, by have := hB4.size; omega⟩))
            clear hgt hfd hFM4 hb4 hb5 hB4 t0 t1 t2 HCC HC2
            generalize f.length = fl at *
            go_wp2_with fail
            refine HC3.out.mono ?_
            rintro e W5 ⟨rfl, hF⟩
            go_wp2
            exact bodyPost_ret (v := .tuple #[]) (results_none rfl _ _ _) rfl ⟨rfl, hF.out⟩
          · have HE : Hid (fndL K want (all.drop (j + 1)) = fndL K want all ∧ FM W.heap.size (.slice (some ⟨g, 0, none⟩) us.length vc) us all W4 ∧ Below W.heap.size W W4) := by
              refine ⟨?_, hFM4.bel hB4, hb5⟩
              rw [← hfd, HFD.out.2 HNW.out]
              simp only [hgt]
            clear hgt hfd hFM4 hb4 hb5 hB4 t0 t1 t2 t3 z0 z1 z2 z3
            generalize f.length = fl at *
            go_wp2
            exact ⟨⟨j + 1, by omega, by go_num, HE.out⟩, by simp [intOf]; omega⟩
        · obtain ⟨i1, i2⟩ := Zq.unlike_tests hi
          have HE : Hid (fndL K want (all.drop (j + 1)) = fndL K want all ∧ FM W.heap.size (.slice (some ⟨g, 0, none⟩) us.length vc) us all wr ∧ Below W.heap.size W wr) := by
            obtain ⟨hfd, hFM4, hb4⟩ := HR.out
            refine ⟨?_, hFM4, hb4⟩
            rw [← hfd, HFD.out.1 ⟨hw, hi⟩]
          generalize f.length = fl at *
          go_upto_region 3 with fail
          go_quiet (fail)
          go_wp2
          exact ⟨⟨j + 1, by omega, by go_num, HE.out.1, HE.out.2.1.kb fun _ _ _ _ _ => rfl, ⟨HE.out.2.2.os, HE.out.2.2.tape, HE.out.2.2.output, HE.out.2.2.size, HE.out.2.2.block⟩⟩, by simp [intOf]; omega⟩
    · obtain rfl : j = N := by omega
      have HE : Hid (fnd K M want A = ⟨⟨#[]⟩, [], rfs M A⟩) := by
        show fnd K M want A = _
        have h1 := HR.out.1
        rw [List.drop_eq_nil_of_le (by have := HN.out; have := HUL.out; omega), fndL] at h1
        exact HALL.out.1.2 h1.symm
      have hlb := HR.out.2.2
      have HC2 : Hid (∀ W1, Below wr.drew.heap.size wr.drew W1 → Calls Tryz.prog F (fi ++ (#[.string ⟨#[]⟩, .slice none 0 0, .int .i64 (rfs M A)] ++ ca)) W1 fun e w' => e = .returned (.tuple #[]) ∧ Hid (Gs p W w' ∧ Q w')) := fun W1 hb1 => by
        have hbW : Below W.heap.size W W1 := by
          have h8 : Below wr.heap.size wr W1 := ⟨hb1.os, hb1.tape, hb1.output, hb1.size, hb1.block⟩
          exact hlb.trans (h8.mono hlb.size)
        have h9 := HCC.out W1 (.slice none 0 0) hbW
        rw [HE.out] at h9
        exact h9 (LS.nl _ _)
      have HR2 := hide (HRF.out wr.drew ⟨hlb.os, hlb.tape, hlb.output, hlb.size, hlb.block⟩)
      have HK2 : Hid (∀ W1, Below wr.drew.heap.size wr.drew W1 → W1.cell? ⟨y3, 0, none⟩ = some (.func (.func F) fi ca)) := fun W1 hb1 => by
        have h8 : Below wr.heap.size wr W1 := ⟨hb1.os, hb1.tape, hb1.output, hb1.size, hb1.block⟩
        exact (HB.out (hlb.trans (h8.mono hlb.size))).2.2.2
      clear hlb
      go_upto_region 8 with fail
      go_region_with (first | (go_at_call 156; refine HR2.out.mono ?_; rintro e w1 ⟨rfl, hB1⟩; have k1 := HK2.out w1 hB1) | (have hT9 := hB1; refine (HC2.out _ hT9).mono ?_; rintro e w2 ⟨rfl, hF⟩))
      all_goals (go_wp2; go_end0; exact ⟨rfl, hF.out⟩)
end
end Go.Proofs.YtagijldedngcoaaGreatDoor

namespace Go.Proofs.YtagijldedngcoaaGreatDoor
open Go.RowKit Go.Lib Go.Maps
section
variable {F : FuncId} {fi ca : Array Value} {w W w0 w2 : World} {b c1 i1 : Nat} {v av nv cv : Value} {r r0 p e m : Nat → Prop} {X : List (RR × Value)} {a : Option Addr} {n d nm : ByteArray} {Q : World → Prop} {α : Type} {Fin : α → List RR → (Nat → Prop) → World → Prop} {N : Nat} {l : List QT} {rest : List RR → PN α} {A0 : List RR} {st k c NN s nn : Int} {go ids tx : Value} {cs : List Int} {ns : List ByteArray}
end
end Go.Proofs.YtagijldedngcoaaGreatDoor

namespace Go.Proofs.YtagijldedngcoaaGreatDoor
open Go.RowKit Go.Lib Go.Maps
section
variable {α β : Type} {F : FuncId} {fi ca : Array Value} {b : Nat} {Fin : α → List RR → (Nat → Prop) → World → Prop} {vs : β → (Nat → Prop) → World → Array Value → Prop} {k : β → PN α} {e m r : Nat → Prop} {w w0 w' : World} {A0 : List RR} {K M : Nat} {nm want : ByteArray}
def KV (F : FuncId) (fi ca : Array Value) (b : Nat) (Fin : α → List RR → (Nat → Prop) → World → Prop) (vs : β → (Nat → Prop) → World → Array Value → Prop) (k : β → PN α) (e m : Nat → Prop) (w0 : World) : Prop :=
  ∀ (W : World) (x : β) (args : Array Value) (A : List RR) (r : Nat → Prop), Sm e w0 W → Zq.Sh.Laid W → JB W b true 0 0 ⟨#[]⟩ ⟨#[]⟩ .nilFunc 0 0 (.slice none 0 0) (.slice none 0 0) (A.length : Int) → vs x r W args → (resI A).length ≤ 1000000000000 → (∀ i, r i → w0.heap.size ≤ i ∧ i < W.heap.size) →
    Calls Tryz.prog F (fi ++ (args ++ ca)) W fun er w' => er = .returned (.tuple #[]) ∧ Gs (fun i => i = b ∨ m i) W w' ∧ RDY b (fun w2 => ∃ P', JJ b Fin (k x) A P' w2 ∧ Gs (fun i => i = b ∨ m i) W w2 ∧ ∀ i, P' i → i = b ∨ e i ∨ r i ∨ W.heap.size ≤ i) w'
theorem KV.now (h : KV F fi ca b Fin vs k e m w0) {W : World} {x : β} {args : Array Value} {A : List RR} (hS : Sm e w0 W) (hL : Zq.Sh.Laid W) (hJ : JB W b true 0 0 ⟨#[]⟩ ⟨#[]⟩ .nilFunc 0 0 (.slice none 0 0) (.slice none 0 0) (A.length : Int)) (hv : vs x (fun _ => False) W args) (hI : (resI A).length ≤ 1000000000000) :
    Calls Tryz.prog F (fi ++ (args ++ ca)) W fun er w' => er = .returned (.tuple #[]) ∧ PO b Fin (k x) A e (fun i => i = b ∨ m i) W w' := by
  refine (h W x args A (fun _ => False) hS hL hJ hv hI fun i hi => hi.elim).mono ?_
  rintro er w' ⟨rfl, hG, hR⟩
  refine ⟨rfl, hG, hR.mono ?_⟩
  rintro w2 ⟨P', h1, h2, h3⟩
  refine ⟨P', h1, h2, fun i hi => ?_⟩
  rcases h3 i hi with h | h | h | h
  · exact .inl h
  · exact .inr (.inl h)
  · exact h.elim
  · exact .inr (.inr h)
def vF (K M : Nat) (x : FV) (r : Nat → Prop) (W : World) (args : Array Value) : Prop := ∃ hv, args = #[.string x.d, hv, .int .i64 x.e] ∧ LS Zq.six 6 r W hv x.had ∧ FVok K M x
def vP (x : Int × Int) (_ : Nat → Prop) (_ : World) (args : Array Value) : Prop := args = #[.int .i64 x.1, .int .i64 x.2]
def vG (x : ByteArray × Int) (_ : Nat → Prop) (_ : World) (args : Array Value) : Prop := args = #[.string x.1, .int .i64 x.2]
def vD (x : Int) (_ : Nat → Prop) (_ : World) (args : Array Value) : Prop := args = #[.int .i64 x]
def vL (x : List ByteArray × Int) (r : Nat → Prop) (W : World) (args : Array Value) : Prop := ∃ nv, args = #[nv, .int .i64 x.2] ∧ LS t1 1 r W nv x.1 ∧ x.1.length ≤ 1000000000000
noncomputable def findP (K M : Nat) (nm want : ByteArray) (k : FV → PN α) : PN α := sqP (aq 2 nm ⟨#[]⟩ (K + M)) [] fun A => k (fnd K M want A)
theorem ent_fi1 : Ent 153 := ent_of Tryz.func153 (by kernel_rfl) rfl
theorem ko_find {k : FV → PN α} {y1 y2 y3 : Nat} {U : World} (hent : Ent F) (hK : 1 ≤ K) (hKM : K + M ≤ 255) (HK : KV F fi ca b Fin (vF K M) k e m w) (hb : Below w.heap.size w U)
    (h1 : U.heap[y1]? = some (.cells #[.int .i64 (K : Int), .int .i64 (M : Int)] 27 (0, 0))) (h2 : U.heap[y2]? = some (.cells #[.string want] 9 (0, 0))) (h3 : U.heap[y3]? = some (.cells #[.func (.func F) fi ca] 190 (0, 0))) :
    KO 153 #[] #[.pointer (some ⟨y1, 0, none⟩), .pointer (some ⟨y2, 0, none⟩), .pointer (some ⟨y3, 0, none⟩)] b Fin (K + M) (fun A => k (fnd K M want A)) A0 (fun i => e i ∨ i = y1 ∨ i = y2 ∨ i = y3) m U := by
  intro W av X r hS hLw hJ hL hNm hX hI hsm hr
  have hs := hb.size
  have k1 := (hS.2 y1 (.inr (.inl rfl)) (lt_of_block h1)).trans h1
  have k2 := (hS.2 y2 (.inr (.inr (.inl rfl))) (lt_of_block h2)).trans h2
  have k3 := (hS.2 y3 (.inr (.inr (.inr rfl))) (lt_of_block h3)).trans h3
  have hWs := hS.1
  have hSe : Sm e w W := ((Sm.refl e w).bel hb).trans (hS.mono fun i hi => .inl hi)
  show Calls Tryz.prog 153 #[av, .pointer (some ⟨y1, 0, none⟩), .pointer (some ⟨y2, 0, none⟩), .pointer (some ⟨y3, 0, none⟩)] W _
  refine find1_any (p := fun i => i = b ∨ m i) hent k1 k2 k3 hL (fun x hx => by obtain ⟨a, c, e⟩ := (hNm x hx).shp; exact ⟨a, _, c, e⟩) (fun x hx => (hsm x hx).2) (by omega) hLw hK hKM ?_
  intro W1 hv hB hLS
  have hBs := hB.size
  refine (HK W1 (fnd K M want (X.map (·.1))) _ (A0 ++ X.map (·.1)) (fun i => W.heap.size ≤ i ∧ i < W1.heap.size) (hSe.bel hB) (hLw.below hB hLw.size) ?_ ⟨hv, rfl, hLS, fnd_ok _ _ _ _ (by rw [List.length_map]; omega)⟩ hI (fun i hi => ⟨by omega, hi.2⟩)).mono ?_
  · have := hJ.bel hB
    rw [List.length_append, List.length_map, hX]
    exact this
  rintro er w' ⟨rfl, hG, hR⟩
  refine ⟨rfl, hG, hR.mono ?_⟩
  rintro w3 ⟨P', q1, q2, q3⟩
  refine ⟨P', q1, (Gs.of_below _ hB).trans q2, fun i hi => ?_⟩
  rcases q3 i hi with h | h | h | h
  · exact .inl h
  · exact .inr (.inl (.inl h))
  · exact .inr (.inr (.inr h.1))
  · exact .inr (.inr (.inr (by omega)))
set_option maxRecDepth 100000 in
set_option maxHeartbeats 3200000 in
theorem find_any {k : FV → PN α} (hent : Ent F) (hLw : Zq.Sh.Laid w) (hJ : JB w b true 0 0 ⟨#[]⟩ ⟨#[]⟩ .nilFunc 0 0 (.slice none 0 0) (.slice none 0 0) (A0.length : Int)) (hK : 1 ≤ K) (hKM : K + M ≤ 255) (hI0 : (resI A0).length ≤ 1000000000000) (HK : KV F fi ca b Fin (vF K M) k e m w) (heb : ¬ e b) (hme : ∀ i, m i → e i) (hel : ∀ i, e i → i < w.heap.size) :
    Calls Tryz.prog 109 #[.pointer (some ⟨b, 0, none⟩), .agg #[.int .i64 (K : Int), .int .i64 (M : Int)], .string nm, .string want, .func (.func F) fi ca] w fun er w' => er = .returned (.tuple #[]) ∧ PO b Fin (findP K M nm want k) A0 e (fun i => i = b ∨ m i) w w' := by
  obtain ⟨U, hU⟩ : ∃ U, U = ((w.alloc (.cells #[.int .i64 (K : Int), .int .i64 (M : Int)] 27)).alloc (.cells #[.string want] 9)).alloc (.cells #[.func (.func F) fi ca] 190) := ⟨_, rfl⟩
  obtain ⟨X, hX⟩ : ∃ X, X = w.heap.size := ⟨_, rfl⟩
  have hB : Below w.heap.size w U := by rw [hU]; exact (((Below.refl _ _).alloc (Nat.le_refl _) _).alloc (by simp) _).alloc (by simp; omega) _
  have h1 : U.heap[X]? = some (.cells #[.int .i64 (K : Int), .int .i64 (M : Int)] 27 (0, 0)) := by rw [hU, hX, Below.heap_alloc _ _ _ (by simp; omega), Below.heap_alloc _ _ _ (by simp)]; exact heap_alloc_new w _
  have h2 : U.heap[X + 1]? = some (.cells #[.string want] 9 (0, 0)) := by
    rw [hU, hX, Below.heap_alloc _ _ _ (by simp)]
    have := heap_alloc_new (w.alloc (.cells #[.int .i64 (K : Int), .int .i64 (M : Int)] 27)) (.cells #[.string want] 9 (0, 0))
    simpa using this
  have h3 : U.heap[X + 2]? = some (.cells #[.func (.func F) fi ca] 190 (0, 0)) := by
    rw [hU, hX]
    have := heap_alloc_new ((w.alloc (.cells #[.int .i64 (K : Int), .int .i64 (M : Int)] 27)).alloc (.cells #[.string want] 9)) (.cells #[.func (.func F) fi ca] 190 (0, 0))
    simpa using this
  have hsz : U.heap.size = X + 3 := by rw [hU, hX]; simp
  have hbl := hJ.lt
  have y0 : U.cell? ⟨X, 0, none⟩ = some (.int .i64 (K : Int)) := by simp [World.cell?, h1]
  have y1 : U.cell? ⟨X, 1, none⟩ = some (.int .i64 (M : Int)) := by simp [World.cell?, h1]
  have HST := hide (stores_any (K := K) (M := M) (w := U) hKM)
  have HN : Hid (∀ U2, Below U.heap.size U U2 → Calls Tryz.prog 152 #[.pointer (some ⟨b, 0, none⟩), .int .i64 ((K + M : Nat) : Int), .string nm, .func (.func 153) #[] #[.pointer (some ⟨X, 0, none⟩), .pointer (some ⟨X + 1, 0, none⟩), .pointer (some ⟨X + 2, 0, none⟩)]] U2 fun er w' => er = .returned (.tuple #[]) ∧ PO b Fin (findP K M nm want k) A0 e (fun i => i = b ∨ m i) w w') := fun U2 hB2 => by
    have hBU : Below w.heap.size w U2 := hB.trans (hB2.mono hB.size)
    have hs2 := hB2.size
    have hko := ko_find (A0 := A0) hent hK hKM HK hBU ((hB2.block X (by omega)).trans h1) ((hB2.block (X + 1) (by omega)).trans h2) ((hB2.block (X + 2) (by omega)).trans h3)
    have hn : nst ((K + M : Nat) : Int) = K + M := nst_nat _ (by omega) hKM
    have h9 := gets_any (nm := nm) (e := fun i => e i ∨ i = X ∨ i = X + 1 ∨ i = X + 2) (m := m) (Fin := Fin) (rest := fun A => k (fnd K M want A)) (fi := #[]) (ca := #[.pointer (some ⟨X, 0, none⟩), .pointer (some ⟨X + 1, 0, none⟩), .pointer (some ⟨X + 2, 0, none⟩)]) ent_fi1 (hLw.below hBU hLw.size) (hJ.bel hBU) ((K + M : Nat) : Int) hI0 (by rw [hn]; exact hko) (by rintro (h | h | h | h); exact heb h; omega; omega; omega) (fun i hi => .inl (hme i hi)) (by rintro i (h | h | h | h); have := hel i h; omega; omega; omega; omega)
    rw [hn] at h9
    refine h9.mono ?_
    rintro er w' ⟨rfl, hP⟩
    refine ⟨rfl, (hP.bel hBU).less ?_⟩
    rintro i (h | h | h | h)
    · exact .inl h
    · exact .inr (by omega)
    · exact .inr (by omega)
    · exact .inr (by omega)
  have HU := hide hU
  have HX := hide hX
  have hmf : ∀ (fn : Fn) (first cap : Array Value) (w : World), (Instr.makeFunc fn first cap).run Tryz.prog w = .ok (.func fn first cap) w := fun _ _ _ _ => rfl
  clear hent hLw hJ hI0 HK heb hme hel hU hX hB h1 h2 h3 hsz hbl
  go_enter Tryz.func109, Tryz.ntmps109
  go_upto_region 1 with fail
  rw [← HU.out, ← HX.out]
  go_wp2_with fail
  refine HST.out.mono ?_
  rintro er U2 ⟨rfl, hB2⟩
  have HN2 := hide (HN.out U2 hB2)
  clear hB2
  go_wp2_with fail
  refine HN2.out.mono ?_
  rintro er w2 ⟨rfl, hP⟩
  have HP := hide hP
  clear hP
  go_wp2
  go_end0
  exact ⟨rfl, HP.out⟩
end
end Go.Proofs.YtagijldedngcoaaGreatDoor
