/-
  Lists of numbers in a block of one's own.
-/
import Derived.Test.YtfjkdmiaagalhaaGreatBack2
import Derived.Maps.AppendAt
namespace Go.Proofs.YtfjkdmiaagalhaaGreat
open Go.RowKit Go.Lib

theorem cell_one_new (w : World) (u : Value) (e : TypeId) : ∀ (j : Nat) (x : Value), [u][j]? = some x → (w.alloc (.cells #[u] e)).cell? ((⟨w.heap.size, 0, none⟩ : Addr).add j) = some x := by
  intro j x hj
  rw [Addr.add_mid, Nat.zero_add, cell_of_row _ _ _ _ _ _ (heap_alloc_new w _)]
  simpa using hj
/-! ### Lists of numbers -/
def ints (L : List Nat) : List Value := L.map fun (x : Nat) => Value.int .i64 ((x : Nat) : Int)
theorem ints_length (L : List Nat) : (ints L).length = L.length := by simp [ints]
theorem ints_one (L : List Nat) : ∀ u ∈ ints L, u.oneCell' = true := by
  intro u hu
  obtain ⟨_, _, rfl⟩ := List.mem_map.1 hu
  rfl
/-- A list in a block of one's own, from block B on. -/
structure IL (B : Nat) (v : Value) (L : List Nat) (w : World) : Prop where
  own : w.ownsRow B 3 1 v L.length (ints L)
theorem IL.nil (B : Nat) (w : World) : IL B (.slice none 0 0) [] w := ⟨World.ownsRow_nil w B 3 1⟩
theorem IL.cells {B : Nat} {L : List Nat} {w : World} {v : Value} (h : IL B v L w) : (v = .slice none 0 0 ∧ L = []) ∨ ∃ g cap, v = .slice (some ⟨g, 0, none⟩) L.length cap ∧ L.length ≤ cap ∧ B ≤ g ∧ g < w.heap.size ∧ ∀ j, j < L.length → w.cell? ⟨g, j, none⟩ = some (.int .i64 ((L.getD j 0 : Nat) : Int)) := by
  obtain ⟨h1, ⟨rfl, h2⟩ | ⟨g, cap, cur, rfl, hB, hg, hn, _, hs, ht⟩⟩ := h.own
  · exact .inl ⟨rfl, List.eq_nil_of_length_eq_zero h2⟩
  · refine .inr ⟨g, cap, rfl, hn, hB, lt_of_block hg, fun j hj => ?_⟩
    have e : (ints L)[j]? = some (.int .i64 ((L.getD j 0 : Nat) : Int)) := by
      rw [ints, List.getElem?_map, List.getD_eq_getElem?_getD, List.getElem?_eq_getElem hj]; rfl
    rw [← ht, Nat.mul_one, List.getElem?_take, if_pos hj] at e
    rw [cell_of_row w g j _ _ _ hg]
    simpa using e
theorem IL.fx {B : Nat} {L : List Nat} {w : World} {v : Value} (h : IL B v L w) : Fd.NX w v L.length (fun t => ((L.getD t 0 : Nat) : Int)) := by
  rcases h.cells with ⟨rfl, rfl⟩ | ⟨g, cap, rfl, hc, hB, hl, hcell⟩
  · exact ⟨_, _, rfl, .inl rfl⟩
  · exact ⟨_, cap, rfl, .inr ⟨g, 0, rfl, hl, fun j hj => by rw [Nat.zero_add]; exact hcell j hj⟩⟩
theorem IL.keep {B : Nat} {L : List Nat} {w w' : World} {v : Value} (h : IL B v L w) (hb : Below w.heap.size w w') : IL B v L w' := by
  refine ⟨h.own.1, ?_⟩
  rcases h.own.2 with h2 | ⟨g, cap, cur, e, hB, hg, r⟩
  · exact .inl h2
  · exact .inr ⟨g, cap, cur, e, hB, (hb.block g (lt_of_block hg)).trans hg, r⟩
theorem IL.apart {B : Nat} {L : List Nat} {w w' : World} {v : Value} {row : Option Nat} (h : IL B v L w) (hg : w.grownBy w' row) (ha : ∀ b, v.ownBlock = some b → row ≠ some b) : IL B v L w' := by
  refine ⟨h.own.1, ?_⟩
  rcases h.own.2 with h2 | ⟨g, cap, cur, e, hB, hgg, r⟩
  · exact .inl h2
  · exact .inr ⟨g, cap, cur, e, hB, (hg.block g (lt_of_block hgg) (by have := ha g (by rw [e]; rfl); exact fun x => this x.symm)).trans hgg, r⟩
/-- What is appended to it. -/
theorem IL.app {B : Nat} {L : List Nat} {w : World} {v : Value} (h : IL B v L w) {a : Addr} {c : Nat} (N : List Nat) (hN : ∀ j u, (ints N)[j]? = some u → w.cell? (a.add j) = some u) (hl : L.length + N.length ≤ 100000) (hB : B ≤ w.heap.size) :
    ∃ v' w', (Builtin.append_ #[48, 48] 48 #[v, .slice (some a) N.length c]).run Tryz.prog w = .ok v' w' ∧ IL B v' (L ++ N) w' ∧ w.grownBy w' v.ownBlock ∧ (v' = .slice none 0 0 ↔ v = .slice none 0 0 ∧ N.length = 0) ∧ (v'.ownBlock = v.ownBlock ∨ v'.ownBlock = some w.heap.size) := by
  obtain ⟨i0, hi, hz0, hz1, hz2⟩ := info_parts Tryz.info3
  obtain ⟨v', w', h1, h2, h3, h4, h5⟩ := run_append_own_at (P := Tryz.prog) w B 48 48 3 i0 (.int .i64 0) 1 8 Tryz.underlying48 hi hz0 hz1 hz2 rfl (by decide) v L.length (ints L) h.own a N.length c (ints N) (by rw [ints_length, Nat.mul_one]) hN (ints_one N) (by unfold maxLen; omega) (by omega) hB
  refine ⟨v', w', h1, ⟨?_⟩, h3, h4, h5⟩
  rw [List.length_append, ints, List.map_append]
  exact h2
theorem IL.lt {B : Nat} {L : List Nat} {w : World} {v : Value} (h : IL B v L w) (b : Nat) (hb : v.ownBlock = some b) : B ≤ b ∧ b < w.heap.size := by
  obtain ⟨h1, ⟨rfl, h2⟩ | ⟨g, cap, cur, rfl, hB, hg, _⟩⟩ := h.own
  · simp [Value.ownBlock] at hb
  · simp only [Value.ownBlock, Option.some.injEq] at hb
    subst hb
    exact ⟨hB, lt_of_block hg⟩
theorem IL.empty {B : Nat} {w : World} (hB : B ≤ w.heap.size) : IL B (.slice (some ⟨w.heap.size, 0, none⟩) 0 0) [] (w.alloc (.cells #[] 3)) :=
  ⟨rfl, .inr ⟨w.heap.size, 0, #[], rfl, hB, heap_alloc_new w _, Nat.le_refl _, Nat.zero_le _, rfl, rfl⟩⟩
theorem IL.below {B : Nat} {L : List Nat} {w w' : World} {v : Value} (h : IL B v L w) {w0 : World} (hb : Below B w0 w) (hg : w.grownBy w' v.ownBlock) (hB : B ≤ w.heap.size) : Below B w0 w' :=
  hb.grown hg hB (fun k hk => (h.lt k hk).1)
/-- One number appended. -/
theorem IL.one {B : Nat} {L : List Nat} {w : World} {v : Value} (h : IL B v L w) (x : Nat) (hl : L.length + 1 ≤ 100000) (hB : B ≤ w.heap.size) :
    ∃ v' w', (Builtin.append_ #[48, 48] 48 #[v, .slice (some ⟨w.heap.size, 0, none⟩) 1 1]).run Tryz.prog (w.alloc (.cells #[.int .i64 (x : Int)] 3)) = .ok v' w' ∧ IL B v' (L ++ [x]) w' ∧ (w.alloc (.cells #[.int .i64 (x : Int)] 3)).grownBy w' v.ownBlock ∧ (∀ b, v'.ownBlock = some b → v.ownBlock = some b ∨ w.heap.size ≤ b) := by
  have h' := h.keep ((Below.refl w.heap.size w).alloc (Nat.le_refl _) (.cells #[.int .i64 (x : Int)] 3))
  obtain ⟨v', w', h1, h2, h3, _, h5⟩ := h'.app (a := ⟨w.heap.size, 0, none⟩) (c := 1) [x] (cell_one_new w _ 3) (by simpa using hl) (by simp; omega)
  refine ⟨v', w', h1, h2, h3, fun b hb => ?_⟩
  rcases h5 with h5 | h5
  · exact .inl (h5 ▸ hb)
  · rw [h5] at hb
    simp at hb
    exact .inr (by omega)
theorem IL.shape {B : Nat} {L : List Nat} {w : World} {v : Value} (h : IL B v L w) : ∃ ao cap, v = .slice ao L.length cap := by
  rcases h.cells with ⟨rfl, rfl⟩ | ⟨g, cap, rfl, _⟩
  · exact ⟨none, 0, rfl⟩
  · exact ⟨_, cap, rfl⟩
/-- It lies in no block of texts. -/
theorem IL.nes {B q n : Nat} {L : List Nat} {w : World} {v : Value} {X : Nat → ByteArray} (h : IL B v L w) (hS : SB w q n X) : v.ownBlock ≠ some q := by
  rcases h.own.2 with ⟨rfl, _⟩ | ⟨g, cap, cur, e, hB, hg, r⟩
  · simp [Value.ownBlock]
  · intro e2
    rw [e] at e2
    simp [Value.ownBlock] at e2
    subst e2
    unfold SB at hS
    rw [hg] at hS
    simp at hS
end Go.Proofs.YtfjkdmiaagalhaaGreat

namespace Go.Proofs.YtfjkdmiaagalhaaGreat
open Go.RowKit Go.Lib Go.Maps

def pc0 (f : Int → Option Nat) (X : Nat → ByteArray) (j : Nat) : ByteArray := ((f (j : Int)).map X).getD ⟨#[]⟩
def lst (f : Int → Option Nat) (i : Nat) : List Nat := (List.range i).filter (fun j => (f (j : Int)).isNone)
theorem lst_some {f : Int → Option Nat} {i t : Nat} (h : f (i : Int) = some t) : lst f (i + 1) = lst f i := by
  rw [lst, List.range_succ, List.filter_append]
  simp [h, lst]
theorem lst_none {f : Int → Option Nat} {i : Nat} (h : f (i : Int) = none) : lst f (i + 1) = lst f i ++ [i] := by
  rw [lst, List.range_succ, List.filter_append]
  simp [h, lst]
theorem lst_mem {f : Int → Option Nat} {i j : Nat} : j ∈ lst f i ↔ j < i ∧ f (j : Int) = none := by
  rw [lst, List.mem_filter, List.mem_range]
  simp
theorem lst_le (f : Int → Option Nat) (i : Nat) : (lst f i).length ≤ i := by
  have := List.length_filter_le (fun j : Nat => (f (j : Int)).isNone) (List.range i)
  rw [List.length_range] at this
  exact this
/-- The pieces: such as lie there, and such as are brought back. -/
def rcv (k : Nat) (f : Int → Option Nat) (ρ : Nat → Nat) (X : Nat → ByteArray) (i : Nat) : ByteArray := match f (i : Int) with
  | some t => X t
  | none => bkd k ρ X i
theorem Gs.join {w w1 w' : World} {f1 f2 q : Nat} (h : Below w.heap.size w w1) (k : Gs (fun i => i = f1 ∨ i = f2 ∨ i = q) w1 w') (hq : w.heap.size ≤ q) : Gs (fun i => i = f1 ∨ i = f2) w w' :=
  ⟨k.os.trans h.os, k.tape.trans h.tape, k.output.trans h.output, Nat.le_trans h.size k.size, fun i hi hp => (k.block i (Nat.lt_of_lt_of_le hi h.size) (by
    rintro (e | e | e)
    · exact hp (.inl e)
    · exact hp (.inr e)
    · omega)).trans (h.block i hi)⟩

set_option maxRecDepth 100000 in
set_option maxHeartbeats 3200000 in
theorem pieces_any {w : World} {b sb f1 f2 g k m : Nat} (h : PP w b sb f1 f2 g k m) (k1 : 1 ≤ k) (km : k + m ≤ 255)
    {vf : Value} {ρ : Nat → Nat} {X : Nat → ByteArray} (hF : PX w vf k (fun t => ((ρ t : Nat) : Int)) X) (hρ : ∀ t, t < k → ρ t < k + m) (hi : ∀ s t, s < k → t < k → ρ s = ρ t → s = t) (hX : ∀ t, t < k → (X t).size ≤ 65536)
    {mb nm : Nat} {f : Int → Option Nat} (hM : MP w mb nm f) (hf : ∀ x t, f x = some t → t < k) :
    Calls Tryz.prog 37 #[.pointer (some ⟨b, 0, none⟩), vf, .map (some mb)] w fun e w' => ∃ q, e = .returned (.slice (some ⟨q, 0, none⟩) k k) ∧
      SB w' q k (rcv k f ρ X) ∧ w.heap.size ≤ q ∧ PP w' b sb f1 f2 g k m ∧ Gs (fun i => i = f1 ∨ i = f2) w w' := by
  have HF := hide hF
  obtain ⟨af, cf, rfl, hF⟩ := hF
  obtain ⟨bf, of, rfl, hbf, hcf⟩ := hF.resolve_left (by omega)
  have HP := hide h
  have HC := hide hcf
  have HM := hide hM
  have HFF := hide hf
  have HR := hide (And.intro hρ (And.intro hi hX))
  have HK := hide (And.intro k1 km)
  have hk : k ≤ 255 := by omega
  clear h hcf hρ hi hX hF hM hf
  have c0 := HP.out.pl.cell0
  have hmk : ∀ w : World, _ := fun w => run_make_row' (P := Tryz.prog) 43 9 (.string ⟨#[]⟩) 16 Tryz.underlying43 Tryz.infoS rfl .i64 .i64 k (by omega) (by omega) w
  go_enter Tryz.func37, Tryz.ntmps37
  go_wp2
  obtain ⟨W, hW⟩ : ∃ W, W = w.alloc (.cells (madeCells #[.string ⟨#[]⟩] k) 9) := ⟨_, rfl⟩
  have HT0 : Hid (SB W w.heap.size k (fun _ => ⟨#[]⟩)) := by rw [hW]; exact SB.made w k
  have HB0 : Hid (Below w.heap.size w W) := by rw [hW]; exact below_alloc (Below.refl _ _) _
  rw [← hW]
  clear hW hmk c0
  go_loopw [8, 19] (fun s z wr => ∃ i : Nat, i ≤ k ∧ z = .int .i64 i ∧ IL w.heap.size s (lst f i) wr ∧ SB wr w.heap.size k (fun j => if j < i then pc0 f X j else ⟨#[]⟩) ∧ Below w.heap.size w wr) (fun _ z _ => k - (RowKit.intOf z).toNat)
  case atStart => exact ⟨0, Nat.zero_le _, rfl, IL.nil _ _, HT0.out.congr (fun i hi => by simp), HB0.out⟩
  case round =>
    obtain ⟨i, hi, rfl, hL, hT, hB⟩ := hrel
    clear HT0 HB0
    obtain ⟨al, cl, rfl⟩ := hL.shape
    have hst : ∀ j, (if j = i then pc0 f X i else if j < i then pc0 f X j else ⟨#[]⟩) = if j < i + 1 then pc0 f X j else ⟨#[]⟩ := fun j => by
      by_cases e1 : j = i
      · subst e1; rw [if_pos rfl, if_pos (by omega)]
      · rw [if_neg e1]
        by_cases e2 : j < i
        · rw [if_pos e2, if_pos (by omega)]
        · rw [if_neg e2, if_neg (by omega)]
    have HST := hide hst
    have HL := hide hL
    have HT := hide hT
    have HB := hide hB
    obtain ⟨ll, hll⟩ : ∃ ll, ll = (lst f i).length := ⟨_, rfl⟩
    have hlle : ll ≤ 255 := by have := lst_le f i; omega
    have HLL := hide hll
    rw [← hll]
    clear hL hT hB hst hll
    by_cases hlt : i < k
    · have b1 : (i : Int) < (k : Int) := by omega
      have b0 : (0 : Int) ≤ (i : Int) := by omega
      have hlook := (HM.out.below HB.out).look (x := (i : Int)) (by omega) (by omega)
      cases hfi : f (i : Int) with
      | some t =>
        rw [hfi] at hlook
        have htk := HFF.out _ _ hfi
        have p2 := (HB.out.cell (p := ⟨bf, of + t * 2 + 1, none⟩) hbf).trans (HC.out t htk).2
        have q1 := HT.out.cell i hlt
        have q2 := HT.out.free i
        have b2 : (t : Int) < (k : Int) := by omega
        have b3 : (0 : Int) ≤ (t : Int) := by omega
        have hx : X t = pc0 f X i := by rw [pc0, hfi]; rfl
        have HT2 : Hid (SB (wr.setCell ⟨w.heap.size, i, none⟩ (.string (X t))) w.heap.size k (fun j => if j < i + 1 then pc0 f X j else ⟨#[]⟩)) := by
          rw [hx]
          exact (HT.out.set i _).congr (fun j _ => HST.out j)
        have HL2 : Hid (IL w.heap.size (.slice al ll cl) (lst f (i + 1)) (wr.setCell ⟨w.heap.size, i, none⟩ (.string (X t)))) := by
          rw [lst_some hfi]
          refine hide (IL.apart (by rw [HLL.out]; exact HL.out) (gb_set wr w.heap.size i _) (fun bb hb e => ?_))
          have := HL.out.nes HT.out
          rw [← HLL.out] at this
          exact this (by rw [hb, e])
        have HB2 : Hid (Below w.heap.size w (wr.setCell ⟨w.heap.size, i, none⟩ (.string (X t)))) := below_gb HB.out (gb_set wr w.heap.size i _) (Nat.le_refl _) HB.out.size
        simp only [Option.getD_some, Option.isSome_some] at hlook
        clear hfi hx HL HT HB HLL
        go_wp2
        exact ⟨⟨i + 1, by omega, by go_num, HL2.out, HT2.out, HB2.out⟩, by simp [RowKit.intOf]; omega⟩
      | none =>
        rw [hfi] at hlook
        obtain ⟨v', w', hap, hL', hg', _⟩ := HL.out.one i (by rw [← HLL.out]; omega) HB.out.size
        rw [← HLL.out] at hap hg'
        have hal : Below wr.heap.size wr (wr.alloc (.cells #[.int .i64 (i : Int)] 3)) := below_alloc (Below.refl _ _) _
        have hTa := HT.out.below hal (Nat.le_refl _)
        have hLa := HL.out.keep hal
        have hne := hLa.nes hTa
        rw [← HLL.out] at hne
        have HT2 : Hid (SB w' w.heap.size k (fun j => if j < i + 1 then pc0 f X j else ⟨#[]⟩)) := by
          have e0 : pc0 f X i = ⟨#[]⟩ := by rw [pc0, hfi]; rfl
          refine hide ((hTa.of_block (hg'.block w.heap.size hTa.lt (fun e => hne e.symm))).congr (fun j _ => ?_))
          rw [← HST.out j, e0]
          by_cases e1 : j = i
          · subst e1; rw [if_pos rfl, if_neg (by omega)]
          · rw [if_neg e1]
        have HL2 : Hid (IL w.heap.size v' (lst f (i + 1)) w') := by rw [lst_none hfi]; exact hL'
        have HB2 : Hid (Below w.heap.size w w') := (below_step HB.out hal).grown hg' (Nat.le_trans HB.out.size hal.size) (fun kk hkk => (hLa.lt kk (by rw [← HLL.out]; exact hkk)).1)
        simp only [Option.getD_none, Option.isSome_none] at hlook
        clear hfi hL' hg' hal hTa hLa hne HL HT HB HLL
        go_wp2_with (at_builtin; refine Lib.wpList_append_run _ rfl _ _ _ _ rfl _ _ rfl rfl _ _ hap ?_)
        exact ⟨⟨i + 1, by omega, by go_num, HL2.out, HT2.out, HB2.out⟩, by simp [RowKit.intOf]; omega⟩
    · obtain rfl : i = k := by omega
      have HT2 := hide (HT.out.congr (X' := pc0 f X) (fun j hj => if_pos hj))
      by_cases h0 : ll = 0
      · have b1 : ¬ ((0 : Int) < (ll : Int)) := by omega
        have hall : Hid (SB wr w.heap.size i (rcv i f ρ X)) := HT2.out.congr (fun j hj => by
          rw [pc0, rcv]
          cases hfj : f (j : Int) with
          | some t => rfl
          | none =>
            exfalso
            have := lst_mem.2 ⟨hj, hfj⟩
            have e : (lst f i).length = 0 := by rw [← HLL.out]; exact h0
            rw [List.eq_nil_of_length_eq_zero e] at this
            simp at this)
        have HE : Hid (w.heap.size ≤ w.heap.size ∧ PP wr b sb f1 f2 g i m ∧ Gs (fun i => i = f1 ∨ i = f2) w wr) := ⟨Nat.le_refl _, HP.out.below HB.out, Gs.of_below _ HB.out⟩
        clear HT HL HLL HB HT2
        go_wp2
        go_ret
        exact ⟨_, rfl, hall.out, HE.out⟩
      · have b1 : (0 : Int) < (ll : Int) := by omega
        clear HT
        go_wp2_with fail
        refine (back_any (ln := ll) (l := fun t => (lst f i).getD t 0) (ρ := ρ) (X := X) (HP.out.below HB.out) HK.out.1 HK.out.2 HT2.out (by rw [HLL.out]; exact HL.out.fx) hlle (fun t ht => ?_) (HF.out.below HB.out (Nat.le_refl _)) HR.out.1 HR.out.2.1 HR.out.2.2).mono ?_
        · have ht' : t < (lst f i).length := by rw [← HLL.out]; exact ht
          have := List.getElem_mem ht'
          rw [List.getD_eq_getElem?_getD, List.getElem?_eq_getElem ht']
          exact (lst_mem.1 this).1
        rintro e w5 ⟨rfl, hS5, hP5, hg5⟩
        have HG5 := hide (Gs.join HB.out hg5 (Nat.le_refl _))
        have HP5 := hide hP5
        have HS5 : Hid (SB w5 w.heap.size i (rcv i f ρ X)) := hS5.congr (fun j hj => by
          rw [rcv]
          cases hfj : f (j : Int) with
          | none =>
            obtain ⟨t, ht, e⟩ := List.getElem_of_mem (lst_mem.2 ⟨hj, hfj⟩)
            rw [if_pos ⟨t, by rw [HLL.out]; exact ht, by rw [List.getD_eq_getElem?_getD, List.getElem?_eq_getElem ht]; exact e⟩]
          | some t =>
            rw [if_neg, pc0, hfj]
            · rfl
            · rintro ⟨t', ht', e⟩
              have ht2 : t' < (lst f i).length := by rw [← HLL.out]; exact ht'
              rw [List.getD_eq_getElem?_getD, List.getElem?_eq_getElem ht2] at e
              have e' : (lst f i)[t'] = j := e
              have := List.getElem_mem ht2
              rw [e'] at this
              rw [(lst_mem.1 this).2] at hfj
              cases hfj)
        clear hS5 hP5 hg5 HB HT2 HL HLL
        go_wp2
        go_ret
        exact ⟨_, rfl, HS5.out, Nat.le_refl _, HP5.out, HG5.out⟩
end Go.Proofs.YtfjkdmiaagalhaaGreat
