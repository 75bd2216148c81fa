/-
  PortAsks: are answers those of the document's stores?
-/
import Derived.Test.YtepmhgkegfpmjaaAkB
namespace Go.Proofs.Ytepmhgkegfpmjaa
open Go.RowKit Go.Lib Go.Maps
theorem yRs_app2 : ∀ (l m : List QT) (S : List SS), yRs S (l ++ m) = yRs S l ++ yRs (ySs S l) m
  | [], _, _ => rfl
  | q :: r, m, S => by rw [List.cons_append, yRs, yRs, ySs, yRs_app2 r]; rfl
theorem ySs_app2 : ∀ (l m : List QT) (S : List SS), ySs S (l ++ m) = ySs (ySs S l) m
  | [], _, _ => rfl
  | q :: r, m, S => by rw [List.cons_append, ySs, ySs, ySs_app2 r]
theorem yRs_at : ∀ (l : List QT) (S : List SS) (j : Nat) (q : QT), l[j]? = some q → (yRs S l)[j]? = some (yR (ySs S (l.take j)) q)
  | [], _, _, _, h => by simp at h
  | p :: r, S, 0, q, h => by simp at h; subst h; rfl
  | p :: r, S, j + 1, q, h => by
    have := yRs_at r (yS S p) j q (by simpa using h)
    simpa [yRs, ySs] using this
section
variable {w : World} {rv lv gv : Value} {S : List SS} {rs : List Nat} {P r rg : Nat → Prop} {l : List QT} {X : List (RR × Value)} {t : Nat}
set_option maxRecDepth 100000 in
set_option maxHeartbeats 6400000 in
theorem answered_any (hY : YD P w rv S rs) (hG : GD t S) (ht : t + l.length ≤ 1000) (hl : LS q4 4 r w lv l) (hr : ∀ i, r i → i ∉ rs) (hX : LS x3 3 rg w gv X) (hN : ∀ x ∈ X, LS t1 1 rg w x.2 x.1.l) (hrg : ∀ i, rg i → i ∉ rs) (hA : X.map (·.1) = yRs S l) (hsz : ∀ q ∈ l, q.n.size ≤ maxLen ∧ q.d.size ≤ maxLen) :
    Calls Try.prog 28 #[rv, lv, gv] w fun e w' => e = .returned (.bool true) ∧ YD P w' rv (ySs S l) rs ∧ Gs (fun i => i ∈ rs) w w' := by
  have hXl : X.length = l.length := by have := congrArg List.length hA; rw [List.length_map, yRs_len] at this; exact this
  obtain ⟨al, cl, hlv, _, hL⟩ := id hl
  obtain ⟨ag, cg, hgv, _, hX'⟩ := id hX
  subst hlv
  subst hgv
  have HC : Hid (∀ j q, l[j]? = some q → ∀ wr, Gs (fun i => i ∈ rs) w wr → ∃ g o, al = some ⟨g, o, none⟩ ∧ wr.cell? ⟨g, o + j * 4, none⟩ = some (.int .i64 q.st) ∧ wr.cell? ⟨g, o + j * 4 + 1, none⟩ = some (.int .i64 q.k) ∧ wr.cell? ⟨g, o + j * 4 + 2, none⟩ = some (.string q.n) ∧ wr.cell? ⟨g, o + j * 4 + 3, none⟩ = some (.string q.d)) := fun j q hq wr hg => by
    rcases hL with h | ⟨g, o, ea, hrg, hgl, hG⟩
    · rw [h] at hq; simp at hq
    · have h2 := hG.block (hg.block g hgl (hr g hrg))
      exact ⟨g, o, ea, h2 j q hq 0 _ rfl, h2 j q hq 1 _ rfl, h2 j q hq 2 _ rfl, h2 j q hq 3 _ rfl⟩
  have HX : Hid (∀ j x, X[j]? = some x → ∀ wr, Gs (fun i => i ∈ rs) w wr → ∃ g o, ag = some ⟨g, o, none⟩ ∧ g < wr.heap.size ∧ wr.cell? ⟨g, o + j * 3, none⟩ = some (.int .i64 x.1.c) ∧ wr.cell? ⟨g, o + j * 3 + 1, none⟩ = some (.string x.1.d) ∧ wr.cell? ⟨g, o + j * 3 + 2, none⟩ = some x.2 ∧ TR wr x.2 x.1.l) := fun j x hx wr hg => by
    rcases hX' with h | ⟨g, o, ea, hr1, hgl, hG⟩
    · rw [h] at hx; simp at hx
    · have h2 := hG.block (hg.block g hgl (hrg g hr1))
      exact ⟨g, o, ea, Nat.lt_of_lt_of_le hgl hg.size, h2 j x hx 0 _ rfl, h2 j x hx 1 _ rfl, h2 j x hx 2 _ rfl, ((hN x (List.mem_of_getElem? hx)).gs hg hrg).tr⟩
  rw [hXl]
  obtain ⟨ll, hll⟩ : ∃ ll, ll = l.length := ⟨_, rfl⟩
  have HLL := hide hll
  have HY := hide hY
  have HG := hide hG
  have HA := hide hA
  have HSZ := hide hsz
  have hllk : ll ≤ 1000 := by omega
  have htk : t + ll ≤ 1000 := by omega
  rw [← hll]
  have b1' : ((ll : Nat) : Int) = (ll : Int) := rfl
  clear hY hG ht hl hr hX hN hrg hA hsz hXl hL hX' hll b1'
  go_enter Try.func28, Try.ntmps28
  go_wp2
  go_loopw [7] (fun i wr => ∃ j : Nat, j ≤ ll ∧ i = .int .i64 j ∧ YD P wr rv (ySs S (l.take j)) rs ∧ Gs (fun i => i ∈ rs) w wr) (fun i _ => ll - (intOf i).toNat)
  case atStart => exact ⟨0, Nat.zero_le _, rfl, HY.out, Gs.refl _ _⟩
  case round =>
    obtain ⟨j, hj, rfl, hYj, hGj⟩ := hrel
    by_cases hlt : j < ll
    · have b1 : (j : Int) < (ll : Int) := by omega
      have b0 : (0 : Int) ≤ (j : Int) := by omega
      obtain ⟨q, hq⟩ : ∃ q, l[j]? = some q := ⟨_, List.getElem?_eq_getElem (by rw [← HLL.out]; exact hlt)⟩
      obtain ⟨g, o, rfl, z0, z1, z2, z3⟩ := HC.out j q hq wr hGj
      have hqs := HSZ.out q (List.mem_of_getElem? hq)
      have htl : (l.take j).length = j := by rw [List.length_take]; have := HLL.out; omega
      have hGD : GD (t + (l.take j).length) (ySs S (l.take j)) := GD.steps _ HG.out
      have HAN := hide (ranswer_any hYj hGD (by omega) q hqs.1 hqs.2)
      have hyr := yRs_at l S j q hq
      have HXj : Hid (∃ x, X[j]? = some x ∧ x.1 = yR (ySs S (l.take j)) q) := by
        rw [← HA.out, List.getElem?_map] at hyr
        obtain ⟨x, hx, e⟩ := Option.map_eq_some_iff.1 hyr
        exact ⟨x, hx, e⟩
      have hnm := yR_names hGD q
      have HNM : Hid ((yR (ySs S (l.take j)) q).l.length ≤ 1000) := by show (yR (ySs S (l.take j)) q).l.length ≤ 1000; omega
      have HTK : Hid (ySs S (l.take (j + 1)) = yS (ySs S (l.take j)) q) := by show ySs S (l.take (j + 1)) = _; rw [take_snoc_at hq, ySs_snoc]
      obtain ⟨qs, qk, qn, qd⟩ := q
      dsimp only at z0 z1 z2 z3
      have HGj := hide hGj
      clear hq hqs htl hGD hyr hnm hYj hGj
      go_wp2_with fail
      refine HAN.out.mono ?_
      rintro e w1 ⟨u, rfl, hAR, hY1, hG1⟩
      obtain ⟨ua, uc, rfl, hTS⟩ := hAR.shp
      obtain ⟨x, hx, hxe⟩ := HXj.out
      have hGw : Gs (fun i => i ∈ rs) w w1 := HGj.out.trans hG1
      obtain ⟨W2, hW2⟩ : ∃ W2, W2 = w1.alloc (.cells #[.int .i64 (yR (ySs S (l.take j)) ⟨qs, qk, qn, qd⟩).c, .string (yR (ySs S (l.take j)) ⟨qs, qk, qn, qd⟩).d, .slice ua (yR (ySs S (l.take j)) ⟨qs, qk, qn, qd⟩).l.length uc] 45) := ⟨_, rfl⟩
      obtain ⟨n2, hn2⟩ : ∃ n2, n2 = w1.heap.size := ⟨_, rfl⟩
      have hB2 : Below w1.heap.size w1 W2 := by rw [hW2]; exact (Below.refl _ _).alloc (Nat.le_refl _) _
      have hblk : W2.heap[n2]? = some (.cells #[.int .i64 (yR (ySs S (l.take j)) ⟨qs, qk, qn, qd⟩).c, .string (yR (ySs S (l.take j)) ⟨qs, qk, qn, qd⟩).d, .slice ua (yR (ySs S (l.take j)) ⟨qs, qk, qn, qd⟩).l.length uc] 45 (0, 0)) := by rw [hW2, hn2]; exact heap_alloc_new w1 _
      obtain ⟨g3, o3, rfl, hg3, c0, c1, c2, hTRx⟩ := HX.out j x hx W2 (hGw.bel hB2)
      rw [hxe] at c0 c1 hTRx
      obtain ⟨xr, xu⟩ := x
      dsimp only at c2 hTRx
      have hTR1 : TR W2 (.slice ua (yR (ySs S (l.take j)) ⟨qs, qk, qn, qd⟩).l.length uc) (yR (ySs S (l.take j)) ⟨qs, qk, qn, qd⟩).l := hTS.tr.bel hB2
      have HST := hide (sameTexts_eq (w := W2.drew) hTR1 hTRx (by have := HNM.out; omega))
      have HYE := hide (And.intro (hY1.bel hB2) (hGw.bel hB2))
      have hn2l := lt_of_block hblk
      obtain ⟨rC, hrC⟩ : ∃ rC, rC = (yR (ySs S (l.take j)) ⟨qs, qk, qn, qd⟩).c := ⟨_, rfl⟩
      obtain ⟨rD, hrD⟩ : ∃ rD, rD = (yR (ySs S (l.take j)) ⟨qs, qk, qn, qd⟩).d := ⟨_, rfl⟩
      obtain ⟨rL, hrL⟩ : ∃ rL, rL = (yR (ySs S (l.take j)) ⟨qs, qk, qn, qd⟩).l.length := ⟨_, rfl⟩
      rw [← hrC, ← hrD, ← hrL] at hblk hW2
      rw [← hrC] at c0
      rw [← hrD] at c1
      rw [← hrL] at HST
      rw [← hrC, ← hrD, ← hrL]
      have HK : Hid (∀ w', Below W2.drew.heap.size W2.drew w' → w'.cell? ⟨n2, 0, none⟩ = some (.int .i64 rC) ∧ w'.cell? ⟨n2, 1, none⟩ = some (.string rD) ∧ w'.cell? ⟨n2, 2, none⟩ = some (.slice ua rL uc) ∧ w'.cell? ⟨g3, o3 + j * 3, none⟩ = some (.int .i64 rC) ∧ w'.cell? ⟨g3, o3 + j * 3 + 1, none⟩ = some (.string rD) ∧ w'.cell? ⟨g3, o3 + j * 3 + 2, none⟩ = some xu) := fun w' hb => by
        have hb' : Below W2.heap.size W2 w' := ⟨hb.os, hb.tape, hb.output, hb.size, hb.block⟩
        have hk := (hb'.block n2 hn2l).trans hblk
        exact ⟨by simp [World.cell?, hk], by simp [World.cell?, hk], by simp [World.cell?, hk], (hb'.cell (p := ⟨g3, o3 + j * 3, none⟩) hg3).trans c0, (hb'.cell (p := ⟨g3, o3 + j * 3 + 1, none⟩) hg3).trans c1, (hb'.cell (p := ⟨g3, o3 + j * 3 + 2, none⟩) hg3).trans c2⟩
      obtain ⟨k0, k1, k2, k3, k4, k5⟩ := HK.out W2.drew (Below.refl _ _)
      have HW2 := hide hW2
      have Hn2 := hide hn2
      clear hAR hTS hx hxe hGw hW2 hn2 hB2 hblk hg3 c0 c1 c2 hTRx hTR1 hn2l hrC hrD hrL hY1 hG1
      go_upto_region 7 with fail
      rw [← HW2.out, ← Hn2.out]
      go_region_held3 (fun w' => w'.cell? ⟨n2, 0, none⟩ = some (.int .i64 rC) ∧ w'.cell? ⟨n2, 1, none⟩ = some (.string rD) ∧ w'.cell? ⟨n2, 2, none⟩ = some (.slice ua rL uc) ∧ w'.cell? ⟨g3, o3 + j * 3, none⟩ = some (.int .i64 rC) ∧ w'.cell? ⟨g3, o3 + j * 3 + 1, none⟩ = some (.string rD) ∧ w'.cell? ⟨g3, o3 + j * 3 + 2, none⟩ = some xu) (first | assumption | exact ⟨by assumption, by assumption, by assumption, by assumption, by assumption, by assumption⟩)
        (first | (go_at_call 22; refine HST.out.mono ?_; rintro e w3 ⟨rfl, hB3⟩; obtain ⟨p0, p1, p2, p3, p4, p5⟩ := HK.out w3 hB3; have HB3 := hide hB3; clear hB3))
      all_goals (
        have HE : Hid (YD P w3 rv (ySs S (l.take (j + 1))) rs ∧ Gs (fun i => i ∈ rs) w w3) := by
          have hb' : Below W2.heap.size W2 w3 := ⟨HB3.out.os, HB3.out.tape, HB3.out.output, HB3.out.size, HB3.out.block⟩
          rw [HTK.out]
          exact ⟨HYE.out.1.bel hb', HYE.out.2.bel hb'⟩
        go_wp2
        exact ⟨⟨j + 1, by omega, by go_num, HE.out⟩, by simp [intOf]; omega⟩)
    · obtain rfl : j = ll := by omega
      have HE : Hid (YD P wr rv (ySs S l) rs ∧ Gs (fun i => i ∈ rs) w wr) := by
        have e : l.take j = l := List.take_of_length_le (by have := HLL.out; omega)
        rw [e] at hYj
        exact ⟨hYj, hGj⟩
      clear hYj hGj
      go_wp2
      go_ret
      exact ⟨rfl, HE.out⟩
end
end Go.Proofs.Ytepmhgkegfpmjaa
