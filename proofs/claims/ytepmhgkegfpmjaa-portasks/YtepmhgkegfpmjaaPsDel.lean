/-
  The program's store: get, del, Fail, Used, the count of calls.
-/
import Derived.Test.YtepmhgkegfpmjaaPsPut
namespace Go.Proofs.Ytepmhgkegfpmjaa
open Go.RowKit Go.Lib Go.Maps

/-- What a deletion answers. -/
def dcode (n : ByteArray) (L : List OB) : Int := if (thr L n).isSome = true then 0 else 5
section
variable {w : World} {b mb : Nat} {q f : Int} {dn : Bool} {cl : Int} {L : List OB}

set_option maxRecDepth 100000 in
set_option maxHeartbeats 1600000 in
theorem get_any (hP : PS w b mb q f dn cl L) (n : ByteArray) (hn : n.size ≤ maxLen) :
    Calls Try.prog 62 #[.pointer (some ⟨b, 0, none⟩), .string n] w fun e w' => e = .returned (.agg #[.int .i64 (dcode n L), .string ((thr L n).getD ⟨#[]⟩), .slice none 0 0]) ∧ Below w.heap.size w w' := by
  have y0 := (hP.bel ((Below.refl _ _).alloc (Nat.le_refl _) (.cells #[.int .i64 0, .string ⟨#[]⟩, .slice none 0 0] 45))).cell0
  have hk := (hP.bel ((Below.refl _ _).alloc (Nat.le_refl _) (.cells #[.int .i64 0, .string ⟨#[]⟩, .slice none 0 0] 45))).map.look hn
  obtain ⟨C, hC⟩ : ∃ C, C = dcode n L := ⟨_, rfl⟩
  rw [← hC]
  clear hP hn
  cases ht : thr L n with
  | none =>
    rw [ht] at hk
    have hc : C = 5 := by rw [hC, dcode, ht]; rfl
    subst hc
    clear hC ht
    dsimp only [Option.isSome, Option.getD] at hk ⊢
    go_enter Try.func62, Try.ntmps62
    go_wp2
    exact bodyPost_ret (v := .agg #[.int .i64 5, .string ⟨#[]⟩, .slice none 0 0]) (by simp [results, Try.results62, go_sem]) rfl ⟨rfl, ((Below.refl _ _).alloc (Nat.le_refl _) _).alloc (by simp) _⟩
  | some d =>
    rw [ht] at hk
    have hc : C = 0 := by rw [hC, dcode, ht]; rfl
    subst hc
    clear hC ht
    dsimp only [Option.isSome, Option.getD] at hk ⊢
    go_enter Try.func62, Try.ntmps62
    go_wp2
    exact bodyPost_ret (v := .agg #[.int .i64 0, .string d, .slice none 0 0]) (by simp [results, Try.results62, go_sem]) rfl ⟨rfl, ((Below.refl _ _).alloc (Nat.le_refl _) _).alloc (by simp) _⟩

set_option maxRecDepth 100000 in
set_option maxHeartbeats 1600000 in
theorem add_any (hP : PS w b mb q f dn cl L) (h0 : 0 ≤ cl) (h1 : cl ≤ 1000000000000) :
    Calls Try.prog 60 #[.pointer (some ⟨b, 5, none⟩), .int .i64 1] w fun e w' => e = .returned (.int .i64 (cl + 1)) ∧ w' = w.setCell ⟨b, 5, none⟩ (.int .i64 (cl + 1)) := by
  have hs : IntKind.i64.wrap (cl + 1) = cl + 1 := by simp [IntKind.wrap_i64]; omega
  have hadd := run_call_add (P := Try.prog) Try.func71 (by kernel_rfl) (by kernel_rfl) (by kernel_rfl) .i64 (by kernel_rfl) (y := 1) (s := cl + 1) hP.cell5 (hP.free 5) (by simp [go_sem, hs])
  clear hP
  go_enter Try.func60, Try.ntmps60
  go_wp2
  go_ret
  exact ⟨rfl, rfl⟩

set_option maxRecDepth 100000 in
set_option maxHeartbeats 1600000 in
theorem del_any (hP : PS w b mb q f dn cl L) (n : ByteArray) (hn : n.size ≤ maxLen) (hl : L.length ≤ 1000000) :
    Calls Try.prog 63 #[.pointer (some ⟨b, 0, none⟩), .string n] w fun e w' => e = .returned (.int .i64 (dcode n L)) ∧ PS w' b mb q f dn cl (delL L n) ∧ Gs (two b mb) w w' := by
  have y0 := hP.cell0
  have hk := hP.map.look hn
  have HP := hide hP
  have HN := hide hn
  obtain ⟨C, hC⟩ : ∃ C, C = dcode n L := ⟨_, rfl⟩
  rw [← hC]
  clear hP hn
  cases ht : thr L n with
  | none =>
    rw [ht] at hk
    have hc : C = 5 := by rw [hC, dcode, ht]; rfl
    subst hc
    have HD := hide (del_none ht)
    clear hC ht
    dsimp only [Option.isSome, Option.getD] at hk
    go_enter Try.func63, Try.ntmps63
    go_wp2
    go_ret
    have hb : Below w.heap.size w (w.alloc (.cells #[.string ⟨#[]⟩] 96)) := (Below.refl _ _).alloc (Nat.le_refl _) _
    exact ⟨rfl, by rw [HD.out]; exact HP.out.bel hb, Gs.of_below _ hb⟩
  | some d =>
    rw [ht] at hk
    have hc : C = 0 := by rw [hC, dcode, ht]; rfl
    subst hc
    have HT := hide ht
    clear hC ht
    dsimp only [Option.isSome, Option.getD] at hk
    obtain ⟨y, hy⟩ : ∃ y, y = szO n (thr L n) := ⟨_, rfl⟩
    obtain ⟨u, hu⟩ : ∃ u, u = usedL L := ⟨_, rfl⟩
    obtain ⟨v, hv⟩ : ∃ v, v = usedL (delL L n) := ⟨_, rfl⟩
    have huv : u = v + y := by rw [hu, hv, hy]; exact used_del L n
    have hyb : y ≤ 131168 := by rw [hy]; exact sz_small HP.out.small n
    have hub' : u ≤ 131168000000 := by rw [hu]; have := used_bound HP.out.small; omega
    have f1 : IntKind.i64.wrap ((u : Int) - (y : Int)) = (v : Int) := by simp [IntKind.wrap_i64]; omega
    have HCU : Hid (∀ w1, PS w1 b mb q f dn cl L → w1.cell? ⟨b, 1, none⟩ = some (.int .i64 (u : Int))) := fun w1 h1 => by rw [hu]; exact h1.cell1
    have HU : Hid (∀ w1, PS w1 b mb q f dn cl L → Calls Try.prog 73 #[.pointer (some ⟨b, 0, none⟩), .string n] w1 fun e w' => e = .returned (.int .i64 (y : Int)) ∧ Below w1.heap.size w1 w') := fun w1 h1 => by
      rw [hy]; exact usedBy_any h1 n HN.out
    have HEND : Hid (∀ w1, PS w1 b mb q f dn cl L → ∃ w2, (Builtin.delete_ #[98, 9] 0 #[.map (some mb), .string n]).run Try.prog (w1.setCell ⟨b, 1, none⟩ (.int .i64 (v : Int))) = .ok (.tuple #[]) w2 ∧ (w1.setCell ⟨b, 1, none⟩ (.int .i64 (v : Int))).cell? ⟨b, 0, none⟩ = some (.map (some mb)) ∧ PS w2 b mb q f dn cl (delL L n) ∧ Gs (two b mb) w1 w2) := fun w1 h1 => by
      have hm : MO (w1.setCell ⟨b, 1, none⟩ (.int .i64 (v : Int))) mb L := h1.map.set h1.ne _
      have hblk := heap_set_self (j := 1) (u := .int .i64 (v : Int)) h1.blk
      obtain ⟨w2, r, hm2, hg, hsz⟩ := hm.del h1.ris HN.out 0
      refine ⟨w2, r, by simp [World.cell?, hblk], ⟨?_, hm2, ris_del h1.ris n, small_del h1.small n⟩, ?_⟩
      · rw [hg.block b (by simp [World.setCell]; exact h1.lt) (fun e => h1.ne (Option.some.inj e).symm), hblk, ← hv]
        rfl
      · exact ((Gs.refl _ _).set (.inl (.inl rfl)) _).gb hg (.inl (.inr rfl))
    have hb : Below w.heap.size w (w.alloc (.cells #[.string d] 96)) := (Below.refl _ _).alloc (Nat.le_refl _) _
    have HP0 := hide (HP.out.bel hb)
    have HG0 : Hid (Gs (two b mb) w (w.alloc (.cells #[.string d] 96))) := Gs.of_below _ hb
    have y1 := HCU.out _ HP0.out
    have z1 := HP0.out.free 1
    have HUV := hide huv
    clear hu hy hv hb huv
    go_enter Try.func63, Try.ntmps63
    go_upto_region 4 with fail
    go_region_with (first | (go_at_call 73; refine (HU.out _ HP0.out.drew).mono ?_; rintro e w1 ⟨rfl, hb1⟩; have HB1 := hide hb1; have HP1 := hide (HP0.out.drew.bel hb1); have y2 := HCU.out w1 HP1.out; have z2 := HP1.out.free 1; clear hb1))
    all_goals (
      obtain ⟨w2, r, c0, hP2, hG2⟩ := HEND.out _ HP1.out
      have HF := hide (And.intro hP2 (HG0.out.trans ((Gs.ofd _ HB1.out).trans hG2)))
      clear y2 z2 y1 z1 hP2 hG2
      go_wp2
      go_ret
      exact ⟨rfl, HF.out⟩)

end
end Go.Proofs.Ytepmhgkegfpmjaa
