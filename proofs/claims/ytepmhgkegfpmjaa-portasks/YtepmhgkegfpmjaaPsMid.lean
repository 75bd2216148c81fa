/-
  The program's store: what an object uses; it is laid, got, deleted, put.
-/
import Derived.Test.YtepmhgkegfpmjaaPsLow
namespace Go.Proofs.Ytepmhgkegfpmjaa
open Go.RowKit Go.Lib Go.Maps

section
variable {w : World} {b mb : Nat} {q f : Int} {dn : Bool} {cl : Int} {L : List OB}

set_option maxRecDepth 100000 in
set_option maxHeartbeats 800000 in
theorem usedBy_any (hP : PS w b mb q f dn cl L) (n : ByteArray) (hn : n.size ≤ maxLen) :
    Calls Try.prog 73 #[.pointer (some ⟨b, 0, none⟩), .string n] w fun e w' => e = .returned (.int .i64 ((szO n (thr L n) : Nat) : Int)) ∧ Below w.heap.size w w' := by
  have y0 := hP.cell0
  have hk := hP.map.look hn
  have HS := hide hP.small
  have HN := hide hn
  clear hP hn
  cases ht : thr L n with
  | none =>
    rw [ht] at hk
    dsimp only [Option.isSome, Option.getD] at hk
    go_enter Try.func73, Try.ntmps73
    go_wp2
    go_ret
    exact ⟨rfl, (Below.refl _ _).alloc (Nat.le_refl _) _⟩
  | some d =>
    rw [ht] at hk
    dsimp only [Option.isSome, Option.getD] at hk
    have hs := thr_small HS.out ht
    obtain ⟨x, hx⟩ : ∃ x, x = szO n (some d) := ⟨_, rfl⟩
    rw [← hx]
    have HC : Hid _ := hide (size_any n d x hx (by omega))
    clear hx ht
    go_enter Try.func73, Try.ntmps73
    go_wp2_with (go_at_call 74; refine (HC.out _).mono ?_; rintro e w' ⟨rfl, rfl⟩)
    go_wp2
    go_ret
    exact ⟨rfl, (Below.refl _ _).alloc (Nat.le_refl _) _⟩

set_option maxRecDepth 100000 in
set_option maxHeartbeats 800000 in
theorem pget_any (hP : PS w b mb q f dn cl L) (n : ByteArray) (hn : n.size ≤ maxLen) :
    Calls Try.prog 24 #[.pointer (some ⟨b, 0, none⟩), .string n] w fun e w' => e = .returned (.tuple #[.string ((thr L n).getD ⟨#[]⟩), .bool (thr L n).isSome]) ∧ Below w.heap.size w w' := by
  have y0 := hP.cell0
  have hk := hP.map.look hn
  clear hP hn
  generalize (thr L n).getD ⟨#[]⟩ = d at *
  generalize (thr L n).isSome = t at *
  go_enter Try.func24, Try.ntmps24
  go_wp2
  go_ret2
  exact ⟨rfl, (Below.refl _ _).alloc (Nat.le_refl _) _⟩

set_option maxRecDepth 100000 in
set_option maxHeartbeats 1600000 in
theorem lay_any (hP : PS w b mb q f dn cl L) (n d : ByteArray) (hn : n.size ≤ 96) (hd : d.size ≤ 131072) (hl : L.length ≤ 1000000) :
    Calls Try.prog 75 #[.pointer (some ⟨b, 0, none⟩), .string n, .string d] w fun e w' => e = .returned (.tuple #[]) ∧ PS w' b mb q f dn cl (layL L n d) ∧ Gs (two b mb) w w' := by
  obtain ⟨x, hx⟩ : ∃ x, x = n.size + d.size := ⟨_, rfl⟩
  have HZ : Hid _ := hide (size_any n d x hx (by omega))
  obtain ⟨y, hy⟩ : ∃ y, y = szO n (thr L n) := ⟨_, rfl⟩
  have HU : Hid (∀ w1, PS w1 b mb q f dn cl L → Calls Try.prog 73 #[.pointer (some ⟨b, 0, none⟩), .string n] w1 fun e w' => e = .returned (.int .i64 (y : Int)) ∧ Below w1.heap.size w1 w') := fun w1 h1 => by
    rw [hy]; exact usedBy_any h1 n (by unfold maxLen; omega)
  have HP := hide hP
  have y1 := hP.cell1
  have z1 := hP.free 1
  obtain ⟨u, hu⟩ : ∃ u, u = usedL L := ⟨_, rfl⟩
  have hub := used_bound hP.small
  obtain ⟨v, hv⟩ : ∃ v, v = usedL (layL L n d) := ⟨_, rfl⟩
  have huv : v + y = u + x := by rw [hv, hy, hu, hx]; have := used_lay hP.ris n d; omega
  have hyb : y ≤ 131168 := by rw [hy]; exact sz_small hP.small n
  have hxb : x ≤ 131168 := by omega
  have hub' : u ≤ 131168000000 := by rw [hu]; omega
  have f1 : IntKind.i64.wrap ((x : Int) - (y : Int)) = (x : Int) - (y : Int) := by simp [IntKind.wrap_i64]; omega
  have f2 : IntKind.i64.wrap ((u : Int) + ((x : Int) - (y : Int))) = (v : Int) := by simp [IntKind.wrap_i64]; omega
  rw [← hu] at y1
  have HCU : Hid (∀ w1, PS w1 b mb q f dn cl L → w1.cell? ⟨b, 1, none⟩ = some (.int .i64 (u : Int))) := fun w1 h1 => by rw [hu]; exact h1.cell1
  have HEND : Hid (∀ w1, PS w1 b mb q f dn cl L → ∃ w2, (Instr.mapUpdate 98 (.map (some mb)) (.string n) (.agg #[.string d])).run Try.prog (w1.setCell ⟨b, 1, none⟩ (.int .i64 (v : Int))) = .ok () w2 ∧ (w1.setCell ⟨b, 1, none⟩ (.int .i64 (v : Int))).cell? ⟨b, 0, none⟩ = some (.map (some mb)) ∧ PS w2 b mb q f dn cl (layL L n d) ∧ Gs (two b mb) w1 w2) := fun w1 h1 => by
    have hm : MO (w1.setCell ⟨b, 1, none⟩ (.int .i64 (v : Int))) mb L := h1.map.set h1.ne _
    have hblk := heap_set_self (j := 1) (u := .int .i64 (v : Int)) h1.blk
    obtain ⟨w2, r, hm2, hg, hsz⟩ := hm.put h1.ris (n := n) (d := d) (by unfold maxLen; omega) (by unfold maxLen; omega) hl
    refine ⟨w2, r, by simp [World.cell?, hblk], ⟨?_, hm2, ris_lay h1.ris n d, small_lay h1.small hn hd⟩, ?_⟩
    · rw [hg.block b (by simp [World.setCell]; exact h1.lt) (fun e => h1.ne (Option.some.inj e).symm), hblk, ← hv]
      rfl
    · exact ((Gs.refl _ _).set (.inl (.inl rfl)) _).gb hg (.inl (.inr rfl))
  clear hP hub hu hv hy hx
  go_enter Try.func75, Try.ntmps75
  go_upto_region 0 with fail
  go_region_with (first | (go_at_call 74; refine (HZ.out _).mono ?_; rintro e w' ⟨rfl, rfl⟩) | (go_at_call 73; refine (HU.out _ HP.out.drew).mono ?_; rintro e w1 ⟨rfl, hb1⟩; have HB1 := hide hb1; have HP1 := hide (HP.out.drew.bel hb1); have y2 := HCU.out w1 HP1.out; have z2 := HP1.out.free 1; clear hb1))
  all_goals (
    obtain ⟨w2, r, c0, hP2, hG2⟩ := HEND.out _ HP1.out
    have HF := hide (And.intro hP2 ((Gs.ofd _ HB1.out).trans hG2))
    clear y2 z2 y1 z1 hP2 hG2
    go_wp2
    go_end0
    exact ⟨rfl, HF.out⟩)
end
end Go.Proofs.Ytepmhgkegfpmjaa
