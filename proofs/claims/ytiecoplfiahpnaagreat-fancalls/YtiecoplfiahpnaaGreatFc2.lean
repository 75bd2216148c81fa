/-
  Contracts of the program and of the statements (part 2 of 13).
-/
import Derived.Test.YtiecoplfiahpnaaGreatFc1
import Derived.Shelf.Sort.Plain
import Derived.Shelf.Strings.Prefix
import Derived.Shelf.Slices.In.SortNone
import Derived.Sort.KeysCollected
import Derived.Sort.OwnSorted

namespace Go.Proofs.YtiecoplfiahpnaaGreat
open Go.RowKit Go.Lib

theorem Tryz.infoOb : (Tryz.prog.info? 93).map (fun i => (i.zero, i.size, i.bytes)) = some (some (.agg #[.string ⟨#[]⟩, .string ⟨#[]⟩]), 2, 32) := by kernel_rfl
/-- The cells of objects. -/
def oc : List OB → List Value
  | [] => []
  | p :: r => .string p.n :: .string p.d :: oc r
theorem oc_len : ∀ L : List OB, (oc L).length = L.length * 2
  | [] => rfl
  | _ :: r => by rw [oc, List.length_cons, List.length_cons, oc_len r, List.length_cons]; omega
theorem oc_app : ∀ L M : List OB, oc (L ++ M) = oc L ++ oc M
  | [], _ => rfl
  | p :: r, M => by rw [List.cons_append, oc, oc_app r M, oc]; rfl
theorem oc_get0 : ∀ (L : List OB) (i : Nat), (oc L)[i * 2]? = L[i]?.map (fun p => Value.string p.n)
  | [], i => by simp [oc]
  | p :: r, 0 => rfl
  | p :: r, i + 1 => by rw [oc, show (i + 1) * 2 = i * 2 + 1 + 1 by omega, List.getElem?_cons_succ, List.getElem?_cons_succ, oc_get0 r i, List.getElem?_cons_succ]
theorem oc_get1 : ∀ (L : List OB) (i : Nat), (oc L)[i * 2 + 1]? = L[i]?.map (fun p => Value.string p.d)
  | [], i => by simp [oc]
  | p :: r, 0 => rfl
  | p :: r, i + 1 => by rw [oc, show (i + 1) * 2 + 1 = i * 2 + 1 + 1 + 1 by omega, List.getElem?_cons_succ, List.getElem?_cons_succ, oc_get1 r i, List.getElem?_cons_succ]
theorem oc_one (L : List OB) : ∀ u ∈ oc L, u.oneCell' = true := by
  induction L with
  | nil => intro u h; cases h
  | cons p r ih =>
    intro u h
    rw [oc] at h
    rcases List.mem_cons.1 h with h | h
    · rw [h]; rfl
    · rcases List.mem_cons.1 h with h | h
      · rw [h]; rfl
      · exact ih u h
/-- Objects lie in memory from a place on. -/
def Src (w : World) (g o : Nat) (L : List OB) : Prop := ∀ i p, L[i]? = some p → w.cell? ⟨g, o + i * 2, none⟩ = some (.string p.n) ∧ w.cell? ⟨g, o + i * 2 + 1, none⟩ = some (.string p.d)
section
variable {w w' : World} {g o : Nat} {L : List OB}
theorem Src.cells (h : Src w g o L) : ∀ j u, (oc L)[j]? = some u → w.cell? ((⟨g, o, none⟩ : Addr).add j) = some u := by
  intro j u hj
  rw [Addr.add_mid]
  rcases Nat.mod_two_eq_zero_or_one j with e | e
  · obtain ⟨i, rfl⟩ : ∃ i, j = i * 2 := ⟨j / 2, by omega⟩
    rw [oc_get0] at hj
    obtain ⟨p, hp, rfl⟩ := Option.map_eq_some_iff.1 hj
    exact (h i p hp).1
  · obtain ⟨i, rfl⟩ : ∃ i, j = i * 2 + 1 := ⟨j / 2, by omega⟩
    rw [oc_get1] at hj
    obtain ⟨p, hp, rfl⟩ := Option.map_eq_some_iff.1 hj
    rw [← Nat.add_assoc]
    exact (h i p hp).2
theorem Src.take (h : Src w g o L) (k : Nat) : Src w g o (L.take k) := fun i p hp => by
  rw [List.getElem?_take] at hp
  split at hp
  · exact h i p hp
  · cases hp
theorem Src.drop (h : Src w g o L) (k : Nat) : Src w g (o + k * 2) (L.drop k) := fun i p hp => by
  rw [List.getElem?_drop] at hp
  have := h (k + i) p hp
  rw [show o + (k + i) * 2 = o + k * 2 + i * 2 by omega] at this
  exact this
theorem Src.below (h : Src w g o L) {B : Nat} (hb : Below B w w') (hB : g < B) : Src w' g o L := fun i p hp =>
  ⟨(hb.cell (p := ⟨g, o + i * 2, none⟩) hB).trans (h i p hp).1, (hb.cell (p := ⟨g, o + i * 2 + 1, none⟩) hB).trans (h i p hp).2⟩
end
/-- A list of objects in a block of one's own. -/
structure OS (B : Nat) (v : Value) (L : List OB) (w : World) : Prop where
  own : w.ownsRow B 93 2 v L.length (oc L)
section
variable {B : Nat} {v : Value} {L M : List OB} {w w' : World}
theorem OS.nil (B : Nat) (w : World) : OS B (.slice none 0 0) [] w := ⟨World.ownsRow_nil w B 93 2⟩
theorem OS.empty (hB : B ≤ w.heap.size) : OS B (.slice (some ⟨w.heap.size, 0, none⟩) 0 0) [] (w.alloc (.cells #[] 93)) :=
  ⟨rfl, .inr ⟨w.heap.size, 0, #[], rfl, hB, heap_alloc_new w _, Nat.le_refl _, Nat.zero_le _, rfl, rfl⟩⟩
theorem OS.src (h : OS B v L w) : (v = .slice none 0 0 ∧ L = []) ∨ ∃ g c, v = .slice (some ⟨g, 0, none⟩) L.length c ∧ L.length ≤ c ∧ B ≤ g ∧ g < w.heap.size ∧ Src w g 0 L := by
  obtain ⟨h1, ⟨rfl, h2⟩ | ⟨g, cap, cur, rfl, hB, hg, hn, _, hs, ht⟩⟩ := h.own
  · exact .inl ⟨rfl, List.length_eq_zero_iff.1 h2⟩
  · refine .inr ⟨g, cap, rfl, hn, hB, lt_of_block hg, fun i p hp => ?_⟩
    have hl : i < L.length := (List.getElem?_eq_some_iff.1 hp).1
    have e0 := oc_get0 L i
    have e1 := oc_get1 L i
    rw [hp, ← ht, List.getElem?_take, if_pos (by omega)] at e0 e1
    exact ⟨by rw [Nat.zero_add, cell_of_row w g _ _ _ _ hg]; simpa using e0, by rw [Nat.zero_add, cell_of_row w g _ _ _ _ hg]; simpa using e1⟩
theorem OS.ol (h : OS B v L w) : OL w v L := by
  rcases h.src with ⟨rfl, rfl⟩ | ⟨g, c, rfl, _, _, hg, hS⟩
  · exact ⟨_, _, rfl, .inl rfl⟩
  · exact ⟨_, _, rfl, .inr ⟨g, 0, rfl, hg, hS⟩⟩
theorem OS.keep (h : OS B v L w) (hb : Below w.heap.size w w') : OS B v L w' := by
  refine ⟨h.own.1, ?_⟩
  rcases h.own.2 with h2 | ⟨g, cap, cur, e, hB, hg, r⟩
  · exact .inl h2
  · exact .inr ⟨g, cap, cur, e, hB, (hb.block g (lt_of_block hg)).trans hg, r⟩
theorem OS.lt (h : OS B v L w) (b : Nat) (hb : v.ownBlock = some b) : B ≤ b ∧ b < w.heap.size := by
  obtain ⟨h1, ⟨rfl, h2⟩ | ⟨g, cap, cur, rfl, hB, hg, _⟩⟩ := h.own
  · simp [Value.ownBlock] at hb
  · simp only [Value.ownBlock, Option.some.injEq] at hb
    subst hb
    exact ⟨hB, lt_of_block hg⟩
/-- Objects that lie somewhere, appended. -/
theorem OS.app (h : OS B v L w) {b o c : Nat} (hS : Src w b o M) (hb : L.length + M.length ≤ 1000000) (hB : B ≤ w.heap.size) :
    ∃ v' w', (Builtin.append_ #[43, 43] 43 #[v, .slice (some ⟨b, o, none⟩) M.length c]).run Tryz.prog w = .ok v' w' ∧ OS B v' (L ++ M) w' ∧ w.grownBy w' v.ownBlock ∧ (v'.ownBlock = v.ownBlock ∨ v'.ownBlock = some w.heap.size) := by
  obtain ⟨i0, hi, hz0, hz1, hz2⟩ := info_parts Tryz.infoOb
  obtain ⟨v', w', h1, h2, h3, _, h5⟩ := run_append_own_at (P := Tryz.prog) w B 43 43 93 i0 (.agg #[.string ⟨#[]⟩, .string ⟨#[]⟩]) 2 32 Tryz.underlying43 hi hz0 hz1 hz2 rfl (by decide) v L.length (oc L) h.own ⟨b, o, none⟩ M.length c (oc M) (oc_len M) hS.cells (oc_one M) (by unfold maxLen; omega) (by omega) hB
  exact ⟨v', w', h1, ⟨by rw [List.length_append, oc_app]; exact h2⟩, h3, h5⟩
end
end Go.Proofs.YtiecoplfiahpnaaGreat

namespace Go.Proofs.YtiecoplfiahpnaaGreat
open Go.RowKit Go.Lib

set_option maxRecDepth 100000 in
set_option maxHeartbeats 800000 in
theorem rnames_any {w : World} {b : Nat} {q f m : Int} {off : Bool} {v : Value} {L : List OB} (bg : ByteArray) (hR : RSt w b q f m off v) (hO : OL w v L) (hl : L.length ≤ 1000000) :
    Calls Tryz.prog 13 #[.pointer (some ⟨b, 0, none⟩), .string bg] w fun e w' => ∃ v', e = .returned v' ∧ TS w.heap.size v' (namesL L bg) w' ∧ Below w.heap.size w w' := by
  obtain ⟨N, hN⟩ : ∃ N, N = L.length := ⟨_, rfl⟩
  have HN := hide hN
  have HR := hide hR
  have HO := hide hO
  have hNl : N ≤ 1000000 := by rw [hN]; exact hl
  clear hN hR hO
  go_enter Tryz.func13, Tryz.ntmps13
  go_wp2
  go_loopw [5, 6] (fun vo i wr => ∃ j : Nat, j ≤ N ∧ i = .int .i64 j ∧ TS w.heap.size vo (namesL (L.take j) bg) wr ∧ Below w.heap.size w wr) (fun _ i _ => N - (intOf i).toNat)
  case atStart => exact ⟨0, Nat.zero_le _, rfl, TS.nil _ _, Below.refl _ _⟩
  case round =>
    obtain ⟨j, hj, rfl, hT, hb⟩ := hrel
    have HB := hide hb
    have HT := hide hT
    have y4 := (HR.out.below hb HR.out.lt).cell4
    obtain ⟨a, c, rfl, hC⟩ := HO.out.below hb (Nat.le_refl _)
    rw [← HN.out] at y4
    clear hb hT
    by_cases hlt : j < N
    · have b1 : (j : Int) < (N : Int) := by omega
      have b0 : (0 : Int) ≤ (j : Int) := by omega
      have hjl : j < L.length := by rw [← HN.out]; omega
      obtain ⟨p, hp⟩ : ∃ p, L[j]? = some p := ⟨_, List.getElem?_eq_getElem hjl⟩
      obtain ⟨g, o, rfl, hg, hC⟩ := hC.resolve_left (by intro e; rw [e] at hp; simp at hp)
      have z0 := (hC j p hp).1
      have HS := hide (names_take bg hp)
      have HLn : Hid ((namesL (L.take j) bg).length ≤ N) := Nat.le_trans (names_len _ _) (by rw [List.length_take]; omega)
      generalize p.n = x at *
      clear hC hp
      by_cases h1 : (bg.size : Int) ≤ (x.size : Int)
      · have h0 : (0 : Int) ≤ (bg.size : Int) := by omega
        by_cases h2 : x.extract 0 bg.size = bg
        · have ht : ((x.extract 0 bg.size).toList == bg.toList) = true := by rw [test_eq, decide_eq_true h2]
          have hE : begins bg x = true := by rw [begins, decide_eq_true (by omega), decide_eq_true h2]; rfl
          have HS2 := hide HS.out
          rw [if_pos hE] at HS2
          obtain ⟨v', w', h3, hT3, hB3, _⟩ := HT.out.one x (by have := HLn.out; omega) HB.out.size
          have HT3 : Hid (TS w.heap.size v' (namesL (L.take (j + 1)) bg) w') := by
            show TS w.heap.size v' (namesL (L.take (j + 1)) bg) w'
            rw [HS2.out]; exact hT3
          have HB3 := hide (hB3 w HB.out)
          clear hT3 hB3 HS HS2 HT hE
          go_wp2_with (at_builtin; refine Lib.wpList_append_run _ rfl _ _ _ _ rfl _ _ rfl rfl _ _ h3 ?_)
          exact ⟨⟨j + 1, by omega, by go_num, HT3.out, HB3.out⟩, by simp [intOf]; omega⟩
        · have ht : ((x.extract 0 bg.size).toList == bg.toList) = false := by rw [test_eq, decide_eq_false h2]
          have ht2 : ¬ (x.extract 0 bg.size).toList = bg.toList := by simpa using ht
          have hE : ¬ begins bg x = true := by rw [begins, decide_eq_false h2]; simp
          have HS2 := hide HS.out
          rw [if_neg hE, List.append_nil] at HS2
          have HT3 : Hid (TS w.heap.size u5 (namesL (L.take (j + 1)) bg) wr) := by
            show TS w.heap.size _ (namesL (L.take (j + 1)) bg) wr
            rw [HS2.out]; exact HT.out
          clear HS HS2 HT hE
          go_wp2
          exact ⟨⟨j + 1, by omega, by go_num, HT3.out, HB.out⟩, by simp [intOf]; omega⟩
      · have hE : ¬ begins bg x = true := by rw [begins, decide_eq_false (by omega)]; simp
        have HS2 := hide HS.out
        rw [if_neg hE, List.append_nil] at HS2
        have HT3 : Hid (TS w.heap.size u5 (namesL (L.take (j + 1)) bg) wr) := by
          show TS w.heap.size _ (namesL (L.take (j + 1)) bg) wr
          rw [HS2.out]; exact HT.out
        clear HS HS2 HT hE
        go_wp2
        exact ⟨⟨j + 1, by omega, by go_num, HT3.out, HB.out⟩, by simp [intOf]; omega⟩
    · obtain rfl : j = N := by omega
      have HT3 : Hid (TS w.heap.size u5 (namesL L bg) wr) := by
        have := HT.out
        rw [HN.out, List.take_length] at this
        exact this
      clear HT
      go_wp2
      go_ret
      exact ⟨_, rfl, HT3.out, HB.out⟩
end Go.Proofs.YtiecoplfiahpnaaGreat

namespace Go.Proofs.YtiecoplfiahpnaaGreat
open Go.RowKit Go.Lib

/-- A list of objects as a source: nothing, or from a place on. -/
def SV (w : World) (v : Value) (M : List OB) : Prop := (v = .slice none 0 0 ∧ M = []) ∨ ∃ g o c, v = .slice (some ⟨g, o, none⟩) M.length c ∧ g < w.heap.size ∧ Src w g o M
section
variable {B : Nat} {v vs : Value} {L M : List OB} {w w' : World}
theorem SV.below (h : SV w v M) {B : Nat} (hb : Below B w w') (hB : w.heap.size ≤ B) : SV w' v M := by
  rcases h with h | ⟨g, o, c, e, hg, hS⟩
  · exact .inl h
  · exact .inr ⟨g, o, c, e, Nat.lt_of_lt_of_le hg hb.size, hS.below hb (Nat.lt_of_lt_of_le hg hB)⟩
theorem SV.ol (h : SV w v M) : OL w v M := by
  rcases h with ⟨rfl, rfl⟩ | ⟨g, o, c, rfl, hg, hS⟩
  · exact ⟨_, _, rfl, .inl rfl⟩
  · exact ⟨_, _, rfl, .inr ⟨g, o, rfl, hg, hS⟩⟩
theorem OS.sv (h : OS B v L w) : SV w v L := by
  rcases h.src with h | ⟨g, c, e, _, _, hg, hS⟩
  · exact .inl h
  · exact .inr ⟨g, 0, c, e, hg, hS⟩
theorem OS.app2 (h : OS B v L w) (hS : SV w vs M) (hb : L.length + M.length ≤ 1000000) (hB : B ≤ w.heap.size) :
    ∃ v' w', (Builtin.append_ #[43, 43] 43 #[v, vs]).run Tryz.prog w = .ok v' w' ∧ OS B v' (L ++ M) w' ∧ w.grownBy w' v.ownBlock ∧ (v'.ownBlock = v.ownBlock ∨ v'.ownBlock = some w.heap.size) := by
  rcases hS with ⟨rfl, rfl⟩ | ⟨g, o, c, rfl, hg, hS⟩
  · obtain ⟨i0, hi, hz0, hz1, hz2⟩ := info_parts Tryz.infoOb
    refine ⟨v, w, run_append_owned_none (P := Tryz.prog) (w := w) B _ _ _ i0 2 Tryz.underlying43 hi v L.length (oc L) h.own, by rw [List.append_nil]; exact h, World.grownBy.refl _ _, .inl rfl⟩
  · exact h.app hS hb hB
end

theorem RSt.set4 {w : World} {b : Nat} {q f m : Int} {off : Bool} {v : Value} (h : RSt w b q f m off v) (v' : Value) : RSt (w.setCell ⟨b, 4, none⟩ v') b q f m off v' := heap_set_self (u := v') h
theorem OS.set {B : Nat} {v : Value} {L : List OB} {w : World} (h : OS B v L w) {s j : Nat} (hs : s < B) (u : Value) : OS B v L (w.setCell ⟨s, j, none⟩ u) := by
  refine ⟨h.own.1, ?_⟩
  rcases h.own.2 with h2 | ⟨g, cap, cur, e, hB, hg, r⟩
  · exact .inl h2
  · exact .inr ⟨g, cap, cur, e, hB, (Below.heap_setCell _ _ _ _ (by simp; omega)).trans hg, r⟩

set_option maxRecDepth 100000 in
set_option maxHeartbeats 800000 in
theorem rfork_any {w : World} {b : Nat} {q f m : Int} {off : Bool} {v : Value} {L : List OB} (hR : RSt w b q f m off v) (hO : SV w v L) (hl : L.length ≤ 1000000) :
    Calls Tryz.prog 126 #[.pointer (some ⟨b, 0, none⟩)] w fun e w' => e = .returned (.pointer (some ⟨w.heap.size, 0, none⟩)) ∧ ∃ v', RSt w' w.heap.size q f m off v' ∧ OS (w.heap.size + 1) v' L w' ∧ Below w.heap.size w w' := by
  have hR' : w.heap[b]? = some (.cells #[.int .i64 q, .int .i64 f, .int .i64 m, .bool off, v] 45 (0, 0)) := hR
  have y0 : w.cell? ⟨b, 0, none⟩ = some (.int .i64 q) := by simp [World.cell?, hR']
  have y1 : w.cell? ⟨b, 1, none⟩ = some (.int .i64 f) := by simp [World.cell?, hR']
  have y2 : w.cell? ⟨b, 2, none⟩ = some (.int .i64 m) := by simp [World.cell?, hR']
  have y3 : w.cell? ⟨b, 3, none⟩ = some (.bool off) := by simp [World.cell?, hR']
  have y4 := hR.cell4
  obtain ⟨a, c, rfl, _⟩ := hO.ol
  obtain ⟨U, hU⟩ : ∃ U, U = w.alloc (.cells #[.int .i64 q, .int .i64 f, .int .i64 m, .bool off, .slice a L.length c] 45) := ⟨_, rfl⟩
  have HBU : Hid (Below w.heap.size w U) := by rw [hU]; exact (Below.refl _ _).alloc (Nat.le_refl _) _
  have hsz : U.heap.size = w.heap.size + 1 := by rw [hU]; simp
  have HRU : Hid (RSt U w.heap.size q f m off (.slice a L.length c)) := by rw [hU]; exact heap_alloc_new w _
  have hBE : Below U.heap.size U (U.alloc (.cells #[] 93)) := (Below.refl _ _).alloc (Nat.le_refl _) _
  obtain ⟨v', w', h1, hO', hg, hv⟩ := (OS.empty (B := w.heap.size + 1) (w := U) (by omega)).app2 ((hO.below HBU.out (Nat.le_refl _)).below hBE (Nat.le_refl _)) (by simpa using hl) (by simp; omega)
  rw [List.nil_append] at hO'
  have hBw : Below (w.heap.size + 1) U w' := (hBE.mono (by omega)).grown hg (by simp; omega) (fun k hk => by simp only [Value.ownBlock, Option.some.injEq] at hk; omega)
  have HR' : Hid (RSt w' w.heap.size q f m off (.slice a L.length c)) := HRU.out.below hBw (by omega)
  have HO' := hide hO'
  have HBw := hide hBw
  have z4 := HR'.out.cell4
  have zf : w'.frozen? ⟨w.heap.size, 4, none⟩ = false := by simp [World.frozen?, show w'.heap[w.heap.size]? = _ from HR'.out]
  obtain ⟨a', c', rfl⟩ : ∃ a' c', v' = .slice a' L.length c' := by
    obtain ⟨a', c', e, _⟩ := hO'.ol
    exact ⟨a', c', e⟩
  have HU := hide hU
  have y4U : U.cell? ⟨b, 4, none⟩ = some (.slice a L.length c) := ((hR.below HBU.out hR.lt).cell4)
  have y4E : ∀ o, (U.alloc o).cell? ⟨b, 4, none⟩ = some (.slice a L.length c) := fun o => ((hR.below (HBU.out.alloc HBU.out.size o) hR.lt).cell4)
  have H1 := hide h1
  have HSZ := hide hsz
  have HZ := hide (And.intro z4 zf)
  have HY := hide (And.intro y4U y4E)
  clear hR' hR hO hO' hg hv hBw hBE hU h1 z4 zf y4U y4E hsz
  go_enter Tryz.func126, Tryz.ntmps126
  go_upto_region 2 with fail
  rw [← HU.out]
  clear y0 y1 y2 y3 y4
  have h1 := H1.out
  obtain ⟨z4, zf⟩ := HZ.out
  obtain ⟨y4U, y4E⟩ := HY.out
  have y4E := y4E (.cells #[] 93)
  go_wp2_with (at_builtin; refine Lib.wpList_append_run _ rfl _ _ _ _ rfl _ _ rfl rfl _ _ h1 ?_)
  go_ret
  exact ⟨rfl, _, HR'.out.set4 _, HO'.out.set (by omega) _, (HBU.out.trans (HBw.out.mono (by omega))).setCell (p := ⟨w.heap.size, 4, none⟩) (Nat.le_refl _) _⟩
end Go.Proofs.YtiecoplfiahpnaaGreat

namespace Go.Proofs.YtiecoplfiahpnaaGreat
open Go.RowKit Go.Lib Go.Maps

/-- What is wrong with a name and data. -/
def fcode (n d : ByteArray) : Int := if mayB n = true then (if d.size ≤ 131072 then 0 else 2) else 3

set_option maxRecDepth 100000 in
set_option maxHeartbeats 800000 in
theorem size_any (n d : ByteArray) (x : Nat) (hx : Hid (x = n.size + d.size)) (h : n.size + d.size ≤ 9223372036854775807) (w : World) : Calls Tryz.prog 140 #[.string n, .string d] w fun e w' => e = .returned (.int .i64 (x : Int)) ∧ w' = w := by
  have hs : IntKind.i64.wrap ((n.size : Int) + (d.size : Int)) = (x : Int) := by rw [hx.out]; simp [IntKind.wrap_i64]; omega
  have h1 : n.size ≤ 9223372036854775807 := by omega
  have h2 : d.size ≤ 9223372036854775807 := by omega
  clear hx
  go_enter Tryz.func140, Tryz.ntmps140
  go_wp2
  go_ret
  exact ⟨rfl, rfl⟩

set_option maxRecDepth 100000 in
set_option maxHeartbeats 800000 in
theorem mayBe_any (n : ByteArray) (w : World) (hs : n.size ≤ 9223372036854775807) : Calls Tryz.prog 146 #[.string n] w fun e w' => e = .returned (.bool (mayB n)) ∧ w' = w := by
  by_cases h0 : n.size = 0
  · have e0 : n = ⟨#[]⟩ := ByteArray.ext (Array.eq_empty_of_size_eq_zero h0)
    subst e0
    go_enter Tryz.func146, Tryz.ntmps146
    go_wp2
    go_ret
    exact ⟨rfl, rfl⟩
  have hz0 : ¬ (n.size : Int) = 0 := by omega
  by_cases h1 : (96 : Int) < (n.size : Int)
  · have hm : mayB n = false := by rw [mayB, decide_eq_false (show ¬ n.size ≤ 96 by omega)]; simp
    rw [hm]
    go_enter Tryz.func146, Tryz.ntmps146
    go_wp2
    go_ret
    exact ⟨rfl, rfl⟩
  have hmb : mayB n = n.data.toList.all okB := by rw [mayB, decide_eq_true (show 1 ≤ n.size by omega), decide_eq_true (show n.size ≤ 96 by omega)]; simp
  obtain ⟨V, hV⟩ : ∃ V, V = mayB n := ⟨_, rfl⟩
  rw [← hV]
  have HV := hide (hV.trans hmb)
  clear hmb hV
  go_enter Tryz.func146, Tryz.ntmps146
  go_wp2
  go_loop [14] (fun i => ∃ j : Nat, j ≤ n.size ∧ i = .int .i64 j ∧ (n.data.toList.take j).all okB = true) (fun i => n.size - (intOf i).toNat)
  case atStart => exact ⟨0, Nat.zero_le _, rfl, rfl⟩
  case round =>
    obtain ⟨j, hj, rfl, hA⟩ := hrel
    by_cases hlt : j < n.size
    · have hlt' : (j : Int) < (n.size : Int) := by omega
      have HA := hide hA
      have HT := hide (take_snoc n j hlt)
      have HM : Hid (n[j] ∈ n.data.toList) := List.getElem_mem (l := n.data.toList) (n := j) (by simpa using hlt)
      clear hA
      by_cases h2 : n[j].toNat ≤ 32
      · have hf : Hid (n.data.toList.all okB = false) := by
          show n.data.toList.all okB = false
          rw [List.all_eq_false]
          exact ⟨n[j], HM.out, by rw [okB, decide_eq_false (by omega)]; simp⟩
        have hz : (n[j].toNat : Int) ≤ 32 := by omega
        go_wp2
        go_ret
        exact ⟨by rw [HV.out.trans hf.out]; rfl, rfl⟩
      by_cases h3 : 127 ≤ n[j].toNat
      · have hf : Hid (n.data.toList.all okB = false) := by
          show n.data.toList.all okB = false
          rw [List.all_eq_false]
          exact ⟨n[j], HM.out, by rw [okB, decide_eq_false (show ¬ n[j].toNat < 127 by omega)]; simp⟩
        have hz : ¬ (n[j].toNat : Int) ≤ 32 := by omega
        have hz2 : (127 : Int) ≤ (n[j].toNat : Int) := by omega
        go_wp2
        go_ret
        exact ⟨by rw [HV.out.trans hf.out]; rfl, rfl⟩
      have hz : ¬ (n[j].toNat : Int) ≤ 32 := by omega
      have hz2 : ¬ (127 : Int) ≤ (n[j].toNat : Int) := by omega
      have HN : Hid ((n.data.toList.take (j + 1)).all okB = true) := by
        show (n.data.toList.take (j + 1)).all okB = true
        rw [HT.out, List.all_append, HA.out, List.all_cons, okB, decide_eq_true (by omega), decide_eq_true (by omega)]
        rfl
      clear HT HA HM
      go_wp2
      go_round
      case rel => exact ⟨j + 1, by omega, by go_num, HN.out⟩
      case measure => simp [intOf]; omega
    · obtain rfl : j = n.size := by omega
      have hf : Hid (n.data.toList.all okB = true) := by
        show n.data.toList.all okB = true
        rw [← hA, List.take_of_length_le (by simp)]
      go_wp2
      go_ret
      exact ⟨by rw [HV.out.trans hf.out]; rfl, rfl⟩

set_option maxRecDepth 100000 in
set_option maxHeartbeats 800000 in
theorem fault_any (n d : ByteArray) (w : World) (hn : n.size ≤ 9223372036854775807) (hd : d.size ≤ 9223372036854775807) : Calls Tryz.prog 138 #[.string n, .string d] w fun e w' => e = .returned (.int .i64 (fcode n d)) ∧ w' = w := by
  have HM : Hid _ := hide (mayBe_any n w hn)
  obtain ⟨C, hC⟩ : ∃ C, C = fcode n d := ⟨_, rfl⟩
  rw [← hC]
  have HC := hide hC
  clear hC
  go_enter Tryz.func138, Tryz.ntmps138
  go_wp2_with fail
  refine HM.out.mono ?_
  rintro e w' ⟨rfl, rfl⟩
  clear HM
  cases hm : mayB n with
  | false =>
    have hc : C = 3 := by rw [HC.out, fcode, hm]; rfl
    subst hc
    go_wp2
    go_ret
    exact ⟨rfl, rfl⟩
  | true =>
    by_cases h : d.size ≤ 131072
    · have hc : C = 0 := by rw [HC.out, fcode, hm, if_pos rfl, if_pos h]
      subst hc
      have h' : ¬ (131072 : Int) < (d.size : Int) := by omega
      go_wp2
      go_ret
      exact ⟨rfl, rfl⟩
    · have hc : C = 2 := by rw [HC.out, fcode, hm, if_pos rfl, if_neg h]
      subst hc
      have h' : (131072 : Int) < (d.size : Int) := by omega
      go_wp2
      go_ret
      exact ⟨rfl, rfl⟩

set_option maxRecDepth 100000 in
set_option maxHeartbeats 800000 in
theorem new_ok (q : Int) (w : World) (h0 : 0 ≤ q) (h1 : q ≤ 1073741824) :
    Calls Tryz.prog 5 #[.int .i64 q] w fun e w' => e = .returned (.tuple #[.pointer (some ⟨w.heap.size + 1, 0, none⟩), .int .i64 0]) ∧ PS w' (w.heap.size + 1) w.heap.size q 0 false 0 [] ∧ Below w.heap.size w w' := by
  have h2 : ¬ q < 0 := by omega
  have h3 : ¬ 1073741824 < q := by omega
  have hmk : (Instr.makeMap 74 none).run Tryz.prog w = .ok (.map (some w.heap.size)) (w.alloc (.map #[] 0)) := rfl
  go_enter Tryz.func5, Tryz.ntmps5
  go_wp2
  go_ret2
  have hb1 : Below w.heap.size w (w.alloc (.map #[] 0)) := (Below.refl _ _).alloc (Nat.le_refl _) _
  refine ⟨by simp, ?_, hb1.alloc (by simp) _⟩
  refine ⟨?_, ?_, List.Pairwise.nil, fun p hp => by cases hp⟩
  · have := heap_alloc_new (w.alloc (.map #[] 0)) (.cells #[.map (some w.heap.size), .int .i64 ((usedL [] : Nat) : Int), .int .i64 q, .int .i64 0, .bool false, .int .i64 0] 81 (0, 0))
    rw [show (w.alloc (.map #[] 0)).heap.size = w.heap.size + 1 by simp] at this
    exact this
  · exact (MO.made w).below ((Below.refl _ _).alloc (Nat.le_refl _) _) (by simp)

set_option maxRecDepth 100000 in
set_option maxHeartbeats 800000 in
theorem new_bad (q : Int) (w : World) (h : q < 0 ∨ 1073741824 < q) :
    Calls Tryz.prog 5 #[.int .i64 q] w fun e w' => e = .returned (.tuple #[.pointer none, .int .i64 1]) ∧ w' = w := by
  by_cases h2 : q < 0
  · go_enter Tryz.func5, Tryz.ntmps5
    go_wp2
    go_ret2
    exact ⟨rfl, rfl⟩
  · have h3 : 1073741824 < q := by omega
    go_enter Tryz.func5, Tryz.ntmps5
    go_wp2
    go_ret2
    exact ⟨rfl, rfl⟩
end Go.Proofs.YtiecoplfiahpnaaGreat

namespace Go.Proofs.YtiecoplfiahpnaaGreat
open Go.RowKit Go.Lib Go.Maps

section
variable {w : World} {b mb : Nat} {q f : Int} {dn : Bool} {cl : Int} {L : List OB}

set_option maxRecDepth 100000 in
set_option maxHeartbeats 800000 in
theorem usedBy_any (hP : PS w b mb q f dn cl L) (n : ByteArray) (hn : n.size ≤ maxLen) :
    Calls Tryz.prog 139 #[.pointer (some ⟨b, 0, none⟩), .string n] w fun e w' => e = .returned (.int .i64 ((szO n (thr L n) : Nat) : Int)) ∧ Below w.heap.size w w' := by
  have y0 := hP.cell0
  have hk := hP.map.look hn
  have HS := hide hP.small
  have HN := hide hn
  clear hP hn
  cases ht : thr L n with
  | none =>
    rw [ht] at hk
    dsimp only [Option.isSome, Option.getD] at hk
    go_enter Tryz.func139, Tryz.ntmps139
    go_wp2
    go_ret
    exact ⟨rfl, (Below.refl _ _).alloc (Nat.le_refl _) _⟩
  | some d =>
    rw [ht] at hk
    dsimp only [Option.isSome, Option.getD] at hk
    have hs := thr_small HS.out ht
    obtain ⟨x, hx⟩ : ∃ x, x = szO n (some d) := ⟨_, rfl⟩
    rw [← hx]
    have HC : Hid _ := hide (size_any n d x hx (by omega))
    clear hx ht
    go_enter Tryz.func139, Tryz.ntmps139
    go_wp2_with (go_at_call 140; refine (HC.out _).mono ?_; rintro e w' ⟨rfl, rfl⟩)
    go_wp2
    go_ret
    exact ⟨rfl, (Below.refl _ _).alloc (Nat.le_refl _) _⟩

set_option maxRecDepth 100000 in
set_option maxHeartbeats 1600000 in
theorem lay_any (hP : PS w b mb q f dn cl L) (n d : ByteArray) (hn : n.size ≤ 96) (hd : d.size ≤ 131072) (hl : L.length ≤ 1000000) :
    Calls Tryz.prog 141 #[.pointer (some ⟨b, 0, none⟩), .string n, .string d] w fun e w' => e = .returned (.tuple #[]) ∧ PS w' b mb q f dn cl (layL L n d) ∧ Gs (two b mb) w w' := by
  obtain ⟨x, hx⟩ : ∃ x, x = n.size + d.size := ⟨_, rfl⟩
  have HZ : Hid _ := hide (size_any n d x hx (by omega))
  obtain ⟨y, hy⟩ : ∃ y, y = szO n (thr L n) := ⟨_, rfl⟩
  have HU : Hid (∀ w1, PS w1 b mb q f dn cl L → Calls Tryz.prog 139 #[.pointer (some ⟨b, 0, none⟩), .string n] w1 fun e w' => e = .returned (.int .i64 (y : Int)) ∧ Below w1.heap.size w1 w') := fun w1 h1 => by
    rw [hy]; exact usedBy_any h1 n (by unfold maxLen; omega)
  have HP := hide hP
  have y1 := hP.cell1
  have z1 := hP.free 1
  obtain ⟨u, hu⟩ : ∃ u, u = usedL L := ⟨_, rfl⟩
  have hub := used_bound hP.small
  obtain ⟨v, hv⟩ : ∃ v, v = usedL (layL L n d) := ⟨_, rfl⟩
  have huv : v + y = u + x := by rw [hv, hy, hu, hx]; have := used_lay hP.ris n d; omega
  have hyb : y ≤ 131168 := by rw [hy]; exact sz_small hP.small n
  have hxb : x ≤ 131168 := by omega
  have hub' : u ≤ 131168000000 := by rw [hu]; omega
  have f1 : IntKind.i64.wrap ((x : Int) - (y : Int)) = (x : Int) - (y : Int) := by simp [IntKind.wrap_i64]; omega
  have f2 : IntKind.i64.wrap ((u : Int) + ((x : Int) - (y : Int))) = (v : Int) := by simp [IntKind.wrap_i64]; omega
  rw [← hu] at y1
  have HCU : Hid (∀ w1, PS w1 b mb q f dn cl L → w1.cell? ⟨b, 1, none⟩ = some (.int .i64 (u : Int))) := fun w1 h1 => by rw [hu]; exact h1.cell1
  have HEND : Hid (∀ w1, PS w1 b mb q f dn cl L → ∃ w2, (Instr.mapUpdate 74 (.map (some mb)) (.string n) (.agg #[.string d])).run Tryz.prog (w1.setCell ⟨b, 1, none⟩ (.int .i64 (v : Int))) = .ok () w2 ∧ (w1.setCell ⟨b, 1, none⟩ (.int .i64 (v : Int))).cell? ⟨b, 0, none⟩ = some (.map (some mb)) ∧ PS w2 b mb q f dn cl (layL L n d) ∧ Gs (two b mb) w1 w2) := fun w1 h1 => by
    have hm : MO (w1.setCell ⟨b, 1, none⟩ (.int .i64 (v : Int))) mb L := h1.map.set h1.ne _
    have hblk := heap_set_self (j := 1) (u := .int .i64 (v : Int)) h1.blk
    obtain ⟨w2, r, hm2, hg, hsz⟩ := hm.put h1.ris (n := n) (d := d) (by unfold maxLen; omega) (by unfold maxLen; omega) hl
    refine ⟨w2, r, by simp [World.cell?, hblk], ⟨?_, hm2, ris_lay h1.ris n d, small_lay h1.small hn hd⟩, ?_⟩
    · rw [hg.block b (by simp [World.setCell]; exact h1.lt) (fun e => h1.ne (Option.some.inj e).symm), hblk, ← hv]
      rfl
    · exact ((Gs.refl _ _).set (.inl (.inl rfl)) _).gb hg (.inl (.inr rfl))
  clear hP hub hu hv hy hx
  go_enter Tryz.func141, Tryz.ntmps141
  go_upto_region 0 with fail
  go_region_with (first | (go_at_call 140; refine (HZ.out _).mono ?_; rintro e w' ⟨rfl, rfl⟩) | (go_at_call 139; refine (HU.out _ HP.out.drew).mono ?_; rintro e w1 ⟨rfl, hb1⟩; have HB1 := hide hb1; have HP1 := hide (HP.out.drew.bel hb1); have y2 := HCU.out w1 HP1.out; have z2 := HP1.out.free 1; clear hb1))
  all_goals (
    obtain ⟨w2, r, c0, hP2, hG2⟩ := HEND.out _ HP1.out
    have HF := hide (And.intro hP2 ((Gs.ofd _ HB1.out).trans hG2))
    clear y2 z2 y1 z1 hP2 hG2
    go_wp2
    go_end0
    exact ⟨rfl, HF.out⟩)
end
end Go.Proofs.YtiecoplfiahpnaaGreat

namespace Go.Proofs.YtiecoplfiahpnaaGreat
open Go.RowKit Go.Lib Go.Maps

/-- What a put answers. -/
def pcode (n d : ByteArray) (L : List OB) (q : Int) : Int := if mayB n = true then (if d.size ≤ 131072 then (if ((usedL (layL L n d) : Nat) : Int) ≤ q then 0 else 71) else 2) else 3
/-- What is there behind a put. -/
def putL (n d : ByteArray) (L : List OB) (q : Int) : List OB := if pcode n d L q = 0 then layL L n d else L
theorem mayB_size {n : ByteArray} (h : mayB n = true) : n.size ≤ 96 := by
  unfold mayB at h
  simp at h
  omega
section
variable {w : World} {b mb : Nat} {q f : Int} {dn : Bool} {cl : Int} {L : List OB}

set_option maxRecDepth 100000 in
set_option maxHeartbeats 1600000 in
theorem put_any (hP : PS w b mb q f dn cl L) (n d : ByteArray) (hn : n.size ≤ maxLen) (hd : d.size ≤ maxLen) (hl : L.length ≤ 1000000) :
    Calls Tryz.prog 117 #[.pointer (some ⟨b, 0, none⟩), .string n, .string d] w fun e w' => e = .returned (.int .i64 (pcode n d L q)) ∧ PS w' b mb q f dn cl (putL n d L q) ∧ Gs (two b mb) w w' := by
  unfold maxLen at hn hd
  have HFA : Hid _ := hide (fault_any n d w hn hd)
  have HP := hide hP
  clear hP
  obtain ⟨C, hC⟩ : ∃ C, C = pcode n d L q := ⟨_, rfl⟩
  obtain ⟨M, hM⟩ : ∃ M, M = putL n d L q := ⟨_, rfl⟩
  rw [← hC, ← hM]
  have HC := hide hC
  have HM := hide hM
  clear hC hM
  by_cases h1 : mayB n = true
  · by_cases h2 : d.size ≤ 131072
    · have hn' := mayB_size h1
      have hf : fcode n d = 0 := by rw [fcode, if_pos h1, if_pos h2]
      rw [hf] at HFA
      obtain ⟨x, hx⟩ : ∃ x, x = n.size + d.size := ⟨_, rfl⟩
      obtain ⟨y, hy⟩ : ∃ y, y = szO n (thr L n) := ⟨_, rfl⟩
      obtain ⟨u, hu⟩ : ∃ u, u = usedL L := ⟨_, rfl⟩
      obtain ⟨v, hv⟩ : ∃ v, v = usedL (layL L n d) := ⟨_, rfl⟩
      have huv : v + y = u + x := by rw [hv, hy, hu, hx]; have := used_lay HP.out.ris n d; omega
      have hyu : y ≤ u := by rw [hy, hu]; have := used_del L n; omega
      have hyb : y ≤ 131168 := by rw [hy]; exact sz_small HP.out.small n
      have hxb : x ≤ 131168 := by omega
      have hub' : u ≤ 131168000000 := by rw [hu]; have := used_bound HP.out.small; omega
      have f1 : IntKind.i64.wrap ((u : Int) - (y : Int)) = (u : Int) - (y : Int) := by simp [IntKind.wrap_i64]; omega
      have f2 : IntKind.i64.wrap ((u : Int) - (y : Int) + (x : Int)) = (v : Int) := by simp [IntKind.wrap_i64]; omega
      have HZ : Hid _ := hide (size_any n d x hx (by omega))
      have HCL : Hid (∀ w1, PS w1 b mb q f dn cl L → w1.cell? ⟨b, 1, none⟩ = some (.int .i64 (u : Int)) ∧ w1.cell? ⟨b, 2, none⟩ = some (.int .i64 q)) := fun w1 h => by rw [hu]; exact ⟨h.cell1, h.cell2⟩
      have HU : Hid (∀ w1, Hid (PS w1 b mb q f dn cl L ∧ Below w.heap.size w w1) → Calls Tryz.prog 139 #[.pointer (some ⟨b, 0, none⟩), .string n] w1 fun e w' => e = .returned (.int .i64 (y : Int)) ∧ Hid (PS w' b mb q f dn cl L ∧ Below w.heap.size w w') ∧ w'.cell? ⟨b, 1, none⟩ = some (.int .i64 (u : Int)) ∧ w'.cell? ⟨b, 2, none⟩ = some (.int .i64 q)) := fun w1 h => by
        rw [hy]
        refine (usedBy_any h.out.1 n (by unfold maxLen; omega)).mono ?_
        rintro e w' ⟨rfl, hb⟩
        have hP' := h.out.1.bel hb
        exact ⟨rfl, ⟨hP', h.out.2.trans (hb.mono h.out.2.size)⟩, HCL.out _ hP'⟩
      have K1 : Hid (PS w.drew b mb q f dn cl L ∧ Below w.heap.size w w.drew) := ⟨HP.out.drew, (Below.refl _ _).drew⟩
      obtain ⟨y1, y2⟩ := HCL.out _ K1.out.1
      have HLY : Hid (∀ w1, PS w1 b mb q f dn cl L → Calls Tryz.prog 141 #[.pointer (some ⟨b, 0, none⟩), .string n, .string d] w1 fun e w' => e = .returned (.tuple #[]) ∧ PS w' b mb q f dn cl (layL L n d) ∧ Gs (two b mb) w1 w') := fun w1 h => lay_any h n d hn' h2 hl
      have HV := hide hv
      have HMB := hide h1
      clear hu hy hx hv hf h1
      go_enter Tryz.func117, Tryz.ntmps117
      go_wp2_with fail
      refine HFA.out.mono ?_
      rintro e w0 ⟨rfl, rfl⟩
      clear HFA
      go_upto_region 4 with fail
      go_region_held3 (fun w' => Hid (PS w' b mb q f dn cl L ∧ Below w0.heap.size w0 w') ∧ w'.cell? ⟨b, 1, none⟩ = some (.int .i64 (u : Int)) ∧ w'.cell? ⟨b, 2, none⟩ = some (.int .i64 q)) (first | assumption | exact ⟨by assumption, by assumption, by assumption⟩ | exact ⟨K1, y1, y2⟩)
        (first | (go_at_call 140; refine (HZ.out _).mono ?_; rintro e w' ⟨rfl, rfl⟩) | (go_at_call 139; refine (HU.out _ (by first | assumption | exact K1)).mono ?_; rintro e w1 ⟨rfl, k1, k2, k3⟩))
      by_cases hq : (v : Int) ≤ q
      · have hC0 : C = 0 := by rw [HC.out, pcode, if_pos HMB.out, if_pos h2, if_pos (by rw [← HV.out]; exact hq)]
        have hMe : M = layL L n d := by rw [HM.out, putL, ← HC.out, hC0, if_pos rfl]
        subst hC0
        have hq' : ¬ q < (v : Int) := by omega
        have HME := hide hMe
        clear hMe
        go_wp2_with fail
        refine (HLY.out _ k1.out.1).mono ?_
        rintro e w2 ⟨rfl, hp2, hg2⟩
        have HF := hide (And.intro hp2 ((Gs.of_below _ k1.out.2).trans hg2))
        clear hp2 hg2
        go_wp2
        go_ret
        exact ⟨rfl, by rw [HME.out]; exact HF.out.1, HF.out.2⟩
      · have hC0 : C = 71 := by rw [HC.out, pcode, if_pos HMB.out, if_pos h2, if_neg (by rw [← HV.out]; exact hq)]
        have hMe : M = L := by rw [HM.out, putL, ← HC.out, hC0, if_neg (by decide)]
        subst hC0 hMe
        have hq' : q < (v : Int) := by omega
        go_wp2
        go_ret
        exact ⟨rfl, k1.out.1, Gs.of_below _ k1.out.2⟩
    · have hf : fcode n d = 2 := by rw [fcode, if_pos h1, if_neg h2]
      have hC0 : C = 2 := by rw [HC.out, pcode, if_pos h1, if_neg h2]
      have hMe : M = L := by rw [HM.out, putL, ← HC.out, hC0, if_neg (by decide)]
      rw [hf] at HFA
      subst hC0 hMe
      clear hf
      go_enter Tryz.func117, Tryz.ntmps117
      go_wp2_with fail
      refine HFA.out.mono ?_
      rintro e w0 ⟨rfl, rfl⟩
      go_wp2
      go_ret
      exact ⟨rfl, HP.out, Gs.refl _ _⟩
  · have hf : fcode n d = 3 := by rw [fcode, if_neg h1]
    have hC0 : C = 3 := by rw [HC.out, pcode, if_neg h1]
    have hMe : M = L := by rw [HM.out, putL, ← HC.out, hC0, if_neg (by decide)]
    rw [hf] at HFA
    subst hC0 hMe
    clear hf
    go_enter Tryz.func117, Tryz.ntmps117
    go_wp2_with fail
    refine HFA.out.mono ?_
    rintro e w0 ⟨rfl, rfl⟩
    go_wp2
    go_ret
    exact ⟨rfl, HP.out, Gs.refl _ _⟩
end
end Go.Proofs.YtiecoplfiahpnaaGreat

namespace Go.Proofs.YtiecoplfiahpnaaGreat
open Go.RowKit Go.Lib Go.Maps

/-- What a deletion answers. -/
def dcode (n : ByteArray) (L : List OB) : Int := if (thr L n).isSome = true then 0 else 5
section
variable {w : World} {b mb : Nat} {q f : Int} {dn : Bool} {cl : Int} {L : List OB}

set_option maxRecDepth 100000 in
set_option maxHeartbeats 1600000 in
theorem get_any (hP : PS w b mb q f dn cl L) (n : ByteArray) (hn : n.size ≤ maxLen) :
    Calls Tryz.prog 118 #[.pointer (some ⟨b, 0, none⟩), .string n] w fun e w' => e = .returned (.agg #[.int .i64 (dcode n L), .string ((thr L n).getD ⟨#[]⟩), .slice none 0 0]) ∧ Below w.heap.size w w' := by
  have y0 := (hP.bel ((Below.refl _ _).alloc (Nat.le_refl _) (.cells #[.int .i64 0, .string ⟨#[]⟩, .slice none 0 0] 72))).cell0
  have hk := (hP.bel ((Below.refl _ _).alloc (Nat.le_refl _) (.cells #[.int .i64 0, .string ⟨#[]⟩, .slice none 0 0] 72))).map.look hn
  obtain ⟨C, hC⟩ : ∃ C, C = dcode n L := ⟨_, rfl⟩
  rw [← hC]
  clear hP hn
  cases ht : thr L n with
  | none =>
    rw [ht] at hk
    have hc : C = 5 := by rw [hC, dcode, ht]; rfl
    subst hc
    clear hC ht
    dsimp only [Option.isSome, Option.getD] at hk ⊢
    go_enter Tryz.func118, Tryz.ntmps118
    go_wp2
    exact bodyPost_ret (v := .agg #[.int .i64 5, .string ⟨#[]⟩, .slice none 0 0]) (by simp [results, Tryz.results118, go_sem]) rfl ⟨rfl, ((Below.refl _ _).alloc (Nat.le_refl _) _).alloc (by simp) _⟩
  | some d =>
    rw [ht] at hk
    have hc : C = 0 := by rw [hC, dcode, ht]; rfl
    subst hc
    clear hC ht
    dsimp only [Option.isSome, Option.getD] at hk ⊢
    go_enter Tryz.func118, Tryz.ntmps118
    go_wp2
    exact bodyPost_ret (v := .agg #[.int .i64 0, .string d, .slice none 0 0]) (by simp [results, Tryz.results118, go_sem]) rfl ⟨rfl, ((Below.refl _ _).alloc (Nat.le_refl _) _).alloc (by simp) _⟩

set_option maxRecDepth 100000 in
set_option maxHeartbeats 1600000 in
theorem fail_any (hP : PS w b mb q f dn cl L) (n : Int) :
    Calls Tryz.prog 30 #[.pointer (some ⟨b, 0, none⟩), .int .i64 n] w fun e w' => e = .returned (.int .i64 (if 0 ≤ n ∧ n ≤ 1048576 then 0 else 1)) ∧ PS w' b mb q (if 0 ≤ n ∧ n ≤ 1048576 then n else f) dn cl L ∧ Gs (two b mb) w w' := by
  have y3 := hP.cell3
  have z3 := hP.free 3
  have HP := hide hP
  clear hP
  by_cases h0 : n < 0
  · rw [if_neg (by omega), if_neg (by omega)]
    go_enter Tryz.func30, Tryz.ntmps30
    go_wp2
    go_ret
    exact ⟨rfl, HP.out, Gs.refl _ _⟩
  by_cases h1 : 1048576 < n
  · rw [if_neg (by omega), if_neg (by omega)]
    go_enter Tryz.func30, Tryz.ntmps30
    go_wp2
    go_ret
    exact ⟨rfl, HP.out, Gs.refl _ _⟩
  · rw [if_pos (by omega), if_pos (by omega)]
    go_enter Tryz.func30, Tryz.ntmps30
    go_wp2
    go_ret
    exact ⟨rfl, HP.out.set3 n, (Gs.refl _ _).set (.inl (.inl rfl)) _⟩

set_option maxRecDepth 100000 in
set_option maxHeartbeats 1600000 in
theorem used_any (hP : PS w b mb q f dn cl L) :
    Calls Tryz.prog 14 #[.pointer (some ⟨b, 0, none⟩)] w fun e w' => e = .returned (.int .i64 ((usedL L : Nat) : Int)) ∧ w' = w := by
  have y1 := hP.cell1
  clear hP
  go_enter Tryz.func14, Tryz.ntmps14
  go_wp2
  go_ret
  exact ⟨rfl, rfl⟩

set_option maxRecDepth 100000 in
set_option maxHeartbeats 1600000 in
theorem add_any (hP : PS w b mb q f dn cl L) (h0 : 0 ≤ cl) (h1 : cl ≤ 1000000000000) :
    Calls Tryz.prog 116 #[.pointer (some ⟨b, 5, none⟩), .int .i64 1] w fun e w' => e = .returned (.int .i64 (cl + 1)) ∧ w' = w.setCell ⟨b, 5, none⟩ (.int .i64 (cl + 1)) := by
  have hs : IntKind.i64.wrap (cl + 1) = cl + 1 := by simp [IntKind.wrap_i64]; omega
  have hadd := run_call_add (P := Tryz.prog) Tryz.func137 (by kernel_rfl) (by kernel_rfl) (by kernel_rfl) .i64 (by kernel_rfl) (y := 1) (s := cl + 1) hP.cell5 (hP.free 5) (by simp [go_sem, hs])
  clear hP
  go_enter Tryz.func116, Tryz.ntmps116
  go_wp2
  go_ret
  exact ⟨rfl, rfl⟩

set_option maxRecDepth 100000 in
set_option maxHeartbeats 1600000 in
theorem del_any (hP : PS w b mb q f dn cl L) (n : ByteArray) (hn : n.size ≤ maxLen) (hl : L.length ≤ 1000000) :
    Calls Tryz.prog 119 #[.pointer (some ⟨b, 0, none⟩), .string n] w fun e w' => e = .returned (.int .i64 (dcode n L)) ∧ PS w' b mb q f dn cl (delL L n) ∧ Gs (two b mb) w w' := by
  have y0 := hP.cell0
  have hk := hP.map.look hn
  have HP := hide hP
  have HN := hide hn
  obtain ⟨C, hC⟩ : ∃ C, C = dcode n L := ⟨_, rfl⟩
  rw [← hC]
  clear hP hn
  cases ht : thr L n with
  | none =>
    rw [ht] at hk
    have hc : C = 5 := by rw [hC, dcode, ht]; rfl
    subst hc
    have HD := hide (del_none ht)
    clear hC ht
    dsimp only [Option.isSome, Option.getD] at hk
    go_enter Tryz.func119, Tryz.ntmps119
    go_wp2
    go_ret
    have hb : Below w.heap.size w (w.alloc (.cells #[.string ⟨#[]⟩] 184)) := (Below.refl _ _).alloc (Nat.le_refl _) _
    exact ⟨rfl, by rw [HD.out]; exact HP.out.bel hb, Gs.of_below _ hb⟩
  | some d =>
    rw [ht] at hk
    have hc : C = 0 := by rw [hC, dcode, ht]; rfl
    subst hc
    have HT := hide ht
    clear hC ht
    dsimp only [Option.isSome, Option.getD] at hk
    obtain ⟨y, hy⟩ : ∃ y, y = szO n (thr L n) := ⟨_, rfl⟩
    obtain ⟨u, hu⟩ : ∃ u, u = usedL L := ⟨_, rfl⟩
    obtain ⟨v, hv⟩ : ∃ v, v = usedL (delL L n) := ⟨_, rfl⟩
    have huv : u = v + y := by rw [hu, hv, hy]; exact used_del L n
    have hyb : y ≤ 131168 := by rw [hy]; exact sz_small HP.out.small n
    have hub' : u ≤ 131168000000 := by rw [hu]; have := used_bound HP.out.small; omega
    have f1 : IntKind.i64.wrap ((u : Int) - (y : Int)) = (v : Int) := by simp [IntKind.wrap_i64]; omega
    have HCU : Hid (∀ w1, PS w1 b mb q f dn cl L → w1.cell? ⟨b, 1, none⟩ = some (.int .i64 (u : Int))) := fun w1 h1 => by rw [hu]; exact h1.cell1
    have HU : Hid (∀ w1, PS w1 b mb q f dn cl L → Calls Tryz.prog 139 #[.pointer (some ⟨b, 0, none⟩), .string n] w1 fun e w' => e = .returned (.int .i64 (y : Int)) ∧ Below w1.heap.size w1 w') := fun w1 h1 => by
      rw [hy]; exact usedBy_any h1 n HN.out
    have HEND : Hid (∀ w1, PS w1 b mb q f dn cl L → ∃ w2, (Builtin.delete_ #[74, 9] 0 #[.map (some mb), .string n]).run Tryz.prog (w1.setCell ⟨b, 1, none⟩ (.int .i64 (v : Int))) = .ok (.tuple #[]) w2 ∧ (w1.setCell ⟨b, 1, none⟩ (.int .i64 (v : Int))).cell? ⟨b, 0, none⟩ = some (.map (some mb)) ∧ PS w2 b mb q f dn cl (delL L n) ∧ Gs (two b mb) w1 w2) := fun w1 h1 => by
      have hm : MO (w1.setCell ⟨b, 1, none⟩ (.int .i64 (v : Int))) mb L := h1.map.set h1.ne _
      have hblk := heap_set_self (j := 1) (u := .int .i64 (v : Int)) h1.blk
      obtain ⟨w2, r, hm2, hg, hsz⟩ := hm.del h1.ris HN.out 0
      refine ⟨w2, r, by simp [World.cell?, hblk], ⟨?_, hm2, ris_del h1.ris n, small_del h1.small n⟩, ?_⟩
      · rw [hg.block b (by simp [World.setCell]; exact h1.lt) (fun e => h1.ne (Option.some.inj e).symm), hblk, ← hv]
        rfl
      · exact ((Gs.refl _ _).set (.inl (.inl rfl)) _).gb hg (.inl (.inr rfl))
    have hb : Below w.heap.size w (w.alloc (.cells #[.string d] 184)) := (Below.refl _ _).alloc (Nat.le_refl _) _
    have HP0 := hide (HP.out.bel hb)
    have HG0 : Hid (Gs (two b mb) w (w.alloc (.cells #[.string d] 184))) := Gs.of_below _ hb
    have y1 := HCU.out _ HP0.out
    have z1 := HP0.out.free 1
    have HUV := hide huv
    clear hu hy hv hb huv
    go_enter Tryz.func119, Tryz.ntmps119
    go_upto_region 4 with fail
    go_region_with (first | (go_at_call 139; refine (HU.out _ HP0.out.drew).mono ?_; rintro e w1 ⟨rfl, hb1⟩; have HB1 := hide hb1; have HP1 := hide (HP0.out.drew.bel hb1); have y2 := HCU.out w1 HP1.out; have z2 := HP1.out.free 1; clear hb1))
    all_goals (
      obtain ⟨w2, r, c0, hP2, hG2⟩ := HEND.out _ HP1.out
      have HF := hide (And.intro hP2 (HG0.out.trans ((Gs.ofd _ HB1.out).trans hG2)))
      clear y2 z2 y1 z1 hP2 hG2
      go_wp2
      go_ret
      exact ⟨rfl, HF.out⟩)

end
end Go.Proofs.YtiecoplfiahpnaaGreat

namespace Go.Proofs.YtiecoplfiahpnaaGreat
open Go.Shelf
def Tryz.lays190_ren : Go.Shelf.Ren := ⟨fun | 190 => 72 | 125 => 91 | 258 => 90 | 128 => 114 | 129 => 115 | 302 => 105 | 303 => 106 | 304 => 107 | 305 => 108 | 306 => 109 | 307 => 110 | 308 => 111 | 309 => 112 | 310 => 113 | 333 => 131 | 329 => 132 | 330 => 133 | 334 => 134 | 335 => 135 | 336 => 136 | 344 => 145 | n => n, fun | 31 => 33 | 9 => 9 | 3 => 3 | 46 => 135 | 0 => 0 | 51 => 156 | 53 => 158 | 4 => 4 | 183 => 150 | 182 => 149 | 131 => 143 | 5 => 5 | 218 => 174 | 222 => 178 | 228 => 186 | 229 => 187 | n => n, fun | n => n⟩
theorem Tryz.lays190 : Go.Proofs.Lays.n190 Tryz.prog Tryz.lays190_ren := {
  mixed := by kernel_rfl
  f125 := Tryz.func91.trans (congrArg some (by kernel_rfl))
  f128 := Tryz.func114.trans (congrArg some (by kernel_rfl))
  f129 := Tryz.func115.trans (congrArg some (by kernel_rfl))
  f190 := Tryz.func72.trans (congrArg some (by kernel_rfl))
  f258 := Tryz.func90.trans (congrArg some (by kernel_rfl))
  f302 := Tryz.func105.trans (congrArg some (by kernel_rfl))
  f303 := Tryz.func106.trans (congrArg some (by kernel_rfl))
  f304 := Tryz.func107.trans (congrArg some (by kernel_rfl))
  f305 := Tryz.func108.trans (congrArg some (by kernel_rfl))
  f306 := Tryz.func109.trans (congrArg some (by kernel_rfl))
  f307 := Tryz.func110.trans (congrArg some (by kernel_rfl))
  f308 := Tryz.func111.trans (congrArg some (by kernel_rfl))
  f309 := Tryz.func112.trans (congrArg some (by kernel_rfl))
  f310 := Tryz.func113.trans (congrArg some (by kernel_rfl))
  f329 := Tryz.func132.trans (congrArg some (by kernel_rfl))
  f330 := Tryz.func133.trans (congrArg some (by kernel_rfl))
  f333 := Tryz.func131.trans (congrArg some (by kernel_rfl))
  f334 := Tryz.func134.trans (congrArg some (by kernel_rfl))
  f335 := Tryz.func135.trans (congrArg some (by kernel_rfl))
  f336 := Tryz.func136.trans (congrArg some (by kernel_rfl))
  f344 := Tryz.func145.trans (congrArg some (by kernel_rfl))
  t0 := Tryz.underlying0
  a0 := Tryz.isAgg0
  z0 := Tryz.sizeOf0
  v0 := Tryz.zeroValue0
  t3 := Tryz.underlying3
  a3 := Tryz.isAgg3
  z3 := Tryz.sizeOf3
  v3 := Tryz.zeroValue3
  t4 := Tryz.underlying4
  a4 := Tryz.isAgg4
  z4 := Tryz.sizeOf4
  v4 := Tryz.zeroValue4
  t5 := Tryz.underlying5
  a5 := Tryz.isAgg5
  z5 := Tryz.sizeOf5
  v5 := Tryz.zeroValue5
  t9 := Tryz.underlying9
  a9 := Tryz.isAgg9
  z9 := Tryz.sizeOf9
  v9 := Tryz.zeroValue9
  t31 := Tryz.underlying33
  a31 := Tryz.isAgg33
  z31 := Tryz.sizeOf33
  v31 := Tryz.zeroValue33
  t46 := Tryz.underlying135
  a46 := Tryz.isAgg135
  z46 := Tryz.sizeOf135
  v46 := Tryz.zeroValue135
  t51 := Tryz.underlying156
  a51 := Tryz.isAgg156
  z51 := Tryz.sizeOf156
  v51 := Tryz.zeroValue156
  t53 := Tryz.underlying158
  a53 := Tryz.isAgg158
  z53 := Tryz.sizeOf158
  v53 := Tryz.zeroValue158
  t131 := Tryz.underlying143
  a131 := Tryz.isAgg143
  z131 := Tryz.sizeOf143
  v131 := Tryz.zeroValue143
  t182 := Tryz.underlying149
  a182 := Tryz.isAgg149
  z182 := Tryz.sizeOf149
  v182 := Tryz.zeroValue149
  t183 := Tryz.underlying150
  a183 := Tryz.isAgg150
  z183 := Tryz.sizeOf150
  v183 := Tryz.zeroValue150
  t218 := Tryz.underlying174
  a218 := Tryz.isAgg174
  z218 := Tryz.sizeOf174
  v218 := Tryz.zeroValue174
  t222 := Tryz.underlying178
  a222 := Tryz.isAgg178
  z222 := Tryz.sizeOf178
  v222 := Tryz.zeroValue178
  t228 := Tryz.underlying186
  a228 := Tryz.isAgg186
  z228 := Tryz.sizeOf186
  v228 := Tryz.zeroValue186
  t229 := Tryz.underlying187
  a229 := Tryz.isAgg187
  z229 := Tryz.sizeOf187
  v229 := Tryz.zeroValue187 }
open Go.Sort Go.RowKit in
theorem Tryz.slices_Sort_string (blk off cap : Nat) (ss : List (List UInt8)) (w : World) (hH : Holds encStr w blk off ss.toArray) (hblk : blk < w.heap.size) (hsz : ss.length < 4611686018427387904) :
    Calls Tryz.prog 72 #[.slice (some ⟨blk, off, none⟩) ss.length cap] w fun e w' =>
      e = .returned (.tuple #[]) ∧ ∃ n os, w' = grow (putRow encStr (Sort.ahead w n) blk off (ss.mergeSort fun x y => decide (x ≤ y)).toArray) os := Any.slices_Sort_string Tryz.lays190 blk off cap ss w hH hblk hsz
def Tryz.lays206_ren : Go.Shelf.Ren := ⟨fun | 206 => 89 | n => n, fun | 9 => 9 | 4 => 4 | 3 => 3 | n => n, fun | n => n⟩
theorem Tryz.lays206 : Go.Proofs.Lays.n206 Tryz.prog Tryz.lays206_ren := {
  mixed := by kernel_rfl
  f206 := Tryz.func89.trans (congrArg some (by kernel_rfl))
  t3 := Tryz.underlying3
  a3 := Tryz.isAgg3
  z3 := Tryz.sizeOf3
  v3 := Tryz.zeroValue3
  t4 := Tryz.underlying4
  a4 := Tryz.isAgg4
  z4 := Tryz.sizeOf4
  v4 := Tryz.zeroValue4
  t9 := Tryz.underlying9
  a9 := Tryz.isAgg9
  z9 := Tryz.sizeOf9
  v9 := Tryz.zeroValue9 }
open Go.RowKit Go.Lib in
/-- internal/stringslite.HasPrefix (what strings.HasPrefix calls). (LAID: no walk: one application.) -/
theorem Tryz.stringslite_HasPrefix (s p : ByteArray) (w : World) :
    Calls Tryz.prog 89 #[.string s, .string p] w fun e w' => e = .returned (.bool (Lib.hasPrefix s.data.toList p.data.toList)) ∧ w' = w := Any.stringslite_HasPrefix Tryz.lays206 s p w
def Tryz.lays99_ren : Go.Shelf.Ren := ⟨fun | 99 => 71 | 206 => 89 | n => n, fun | 9 => 9 | 4 => 4 | 3 => 3 | n => n, fun | n => n⟩
theorem Tryz.lays99 : Go.Proofs.Lays.n99 Tryz.prog Tryz.lays99_ren := {
  mixed := by kernel_rfl
  f99 := Tryz.func71.trans (congrArg some (by kernel_rfl))
  f206 := Tryz.func89.trans (congrArg some (by kernel_rfl))
  t3 := Tryz.underlying3
  a3 := Tryz.isAgg3
  z3 := Tryz.sizeOf3
  v3 := Tryz.zeroValue3
  t4 := Tryz.underlying4
  a4 := Tryz.isAgg4
  z4 := Tryz.sizeOf4
  v4 := Tryz.zeroValue4
  t9 := Tryz.underlying9
  a9 := Tryz.isAgg9
  z9 := Tryz.sizeOf9
  v9 := Tryz.zeroValue9 }
open Go.RowKit Go.Lib in
/-- strings.HasPrefix: "HasPrefix reports whether the string s begins with prefix.": IT RETURNS 'Lib.hasPrefix s prefix'; the world is as it was. (LAID: no walk: one application.) -/
theorem Tryz.strings_HasPrefix (s p : ByteArray) (w : World) :
    Calls Tryz.prog 71 #[.string s, .string p] w fun e w' => e = .returned (.bool (Lib.hasPrefix s.data.toList p.data.toList)) ∧ w' = w := Any.strings_HasPrefix Tryz.lays99 s p w
open Go.RowKit Go.Sort in
/-- .. and plain. (LAID: no walk: one application.) -/
theorem Tryz.slices_Sort_string_none (p : Option Addr) (cap : Nat) (w : World) :
    Calls Tryz.prog 72 #[.slice p 0 cap] w fun e w' => e = .returned (.tuple #[]) ∧ w' = w := Any.slices_Sort_string_none Tryz.lays190 p cap w
end Go.Proofs.YtiecoplfiahpnaaGreat

namespace Go.Proofs.YtiecoplfiahpnaaGreat
open Go.RowKit Go.Lib Go.Maps Go.Sort

/-- Bytes as a text. -/
def mkB (x : List UInt8) : ByteArray := ⟨x.toArray⟩
theorem mkB_to (n : ByteArray) : mkB n.data.toList = n := by simp [mkB]
theorem enc_mk (x : List UInt8) : encStr x = .string (mkB x) := rfl
theorem before_lt : ∀ x y : List UInt8, bytesBefore x y = true → x < y
  | [], [], h => by simp [bytesBefore] at h
  | [], _ :: _, _ => List.nil_lt_cons _ _
  | _ :: _, [], h => by simp [bytesBefore] at h
  | a :: x, b :: y, h => by
    simp only [bytesBefore, Bool.or_eq_true, decide_eq_true_eq, Bool.and_eq_true, beq_iff_eq] at h
    rw [List.cons_lt_cons_iff]
    rcases h with h | ⟨h, h'⟩
    · exact .inl h
    · exact .inr ⟨h, before_lt x y h'⟩
theorem begins_prefix (bg n : ByteArray) : Lib.hasPrefix n.data.toList bg.data.toList = begins bg n := by
  rw [Lib.hasPrefix, begins, Bool.eq_iff_iff, List.isPrefixOf_iff_prefix, List.prefix_iff_eq_take, Bool.and_eq_true, decide_eq_true_eq, decide_eq_true_eq]
  have hl : bg.data.toList.length = bg.size := by simp
  have ex : (n.extract 0 bg.size).data.toList = n.data.toList.take bg.size := by simp [ByteArray.data_extract]
  constructor
  · intro h
    rw [hl, ← ex] at h
    have h2 : n.extract 0 bg.size = bg := ByteArray.ext (Array.toList_inj.1 h.symm)
    refine ⟨?_, h2⟩
    have h3 := congrArg ByteArray.size h2
    simp at h3
    omega
  · rintro ⟨h1, h2⟩
    rw [hl, ← ex, h2]
theorem keys_dat (L : List OB) : strKeys (datL obD L) = L.map (fun p => p.n.data.toList) := by
  show (L.map (entr obD)).map _ = _
  rw [List.map_map]
  rfl
theorem names_map (L : List OB) (bg : ByteArray) : ((L.map (fun p => p.n.data.toList)).filter (fun x => Lib.hasPrefix x bg.data.toList)).map mkB = namesL L bg := by
  induction L with
  | nil => rfl
  | cons p r ih =>
    rw [List.map_cons, List.filter_cons, begins_prefix, namesL, List.filter_cons]
    by_cases h : begins bg p.n = true
    · rw [if_pos h, if_pos h, List.map_cons, List.map_cons, mkB_to]
      exact congrArg _ ih
    · rw [if_neg h, if_neg h]
      exact ih
theorem names_sorted {L : List OB} (h : Ris L) (bg : ByteArray) : ((L.map (fun p => p.n.data.toList)).filter (fun x => Lib.hasPrefix x bg.data.toList)).Pairwise (fun x y => leB x y = true) := by
  refine List.Pairwise.filter _ (List.pairwise_map.2 (h.imp fun {p q} hb => ?_))
  exact decide_eq_true (List.le_of_lt (before_lt _ _ hb))
theorem sort_names {L : List OB} (h : Ris L) (bg : ByteArray) {ss : List (List UInt8)} (hp : ss.Perm (L.map (fun p => p.n.data.toList))) :
    ((ss.filter (fun x => Lib.hasPrefix x bg.data.toList)).mergeSort leB).map mkB = namesL L bg := by
  rw [mergeSort_of_perm (hp.filter _), List.mergeSort_of_pairwise (names_sorted h bg), names_map]

section
variable {w : World} {b mb : Nat} {q f : Int} {dn : Bool} {cl : Int} {L : List OB}

set_option maxRecDepth 100000 in
set_option maxHeartbeats 1600000 in
theorem begunBy_any (hP : PS w b mb q f dn cl L) (bg : ByteArray) (hl : L.length ≤ 1000000) :
    Calls Tryz.prog 43 #[.pointer (some ⟨b, 0, none⟩), .string bg] w fun e w' => ∃ v, e = .returned v ∧ TS w.heap.size v (namesL L bg) w' ∧ Below w.heap.size w w' := by
  have y0 := hP.cell0
  have HP := hide hP
  have HM : Hid (w.ownsMap Tryz.prog 9 obE mb L.length (datL obD L)) := hP.map
  have HML := hide hP.mlt
  clear hP
  go_enter Tryz.func43, Tryz.ntmps43
  go_wp2_with (first | (at_range; refine wpList_range_own _ rfl _ _ rfl 9 184 (string_keyed Tryz.underlying9) Tryz.underlying74 obE mb L.length (datL obD L) rfl HM.out ?_; intro w1 hrg1 hg1 hs1))
  have HR1 := hide hrg1
  have HB1 : Hid (Below w.heap.size w w1) := (Below.refl _ _).grown hg1 (Nat.le_refl _) (fun k hk => by cases hk)
  clear hrg1 hg1 hs1
  go_frame
  go_loopw [5] (fun vo wr => ∃ left cnt ss, wr.ranges Tryz.prog 9 obE mb w.heap.size L.length (datL obD L) left cnt ∧ ss.length + cnt ≤ L.length ∧ TS w.heap.size vo ((ss.filter (fun x => Lib.hasPrefix x bg.data.toList)).map mkB) wr ∧ Collected (datL obD L) left ss ∧ Below w.heap.size w wr) (fun _ wr => wr.rangeLeft mb w.heap.size)
  case atStart => exact ⟨_, _, [], HR1.out, by rw [dat_size]; simp, TS.nil _ _, Collected.start _, HB1.out⟩
  case round =>
    obtain ⟨left, cnt, ss, hrg, hcs, hT, hC, hb⟩ := hrel
    have HRG := hide hrg
    have HT := hide hT
    have HC := hide hC
    have HB := hide hb
    have HCS := hide hcs
    clear hrg hT hC hb hcs y0
    go_wp2_with (first | (at_next; refine wpList_next_ranges _ rfl _ rfl 9 (string_keyed Tryz.underlying9) obE Value.string (fun s => .agg #[.string s]) (fun key kl hk => by obtain ⟨x, hx, _⟩ := Maps.keyOf_str Tryz.underlying9 hk; exact ⟨mkB x, hx⟩) (fun v y hv => by obtain ⟨s, rfl, _⟩ := obE_inv hv; exact ⟨s, rfl⟩) mb w.heap.size L.length _ _ _ rfl HRG.out ?_ ?_))
    · intro hc0 hl0
      have hperm : ss.Perm (L.map (fun p => p.n.data.toList)) := by
        rw [← keys_dat]
        exact HC.out.perm HM.out (string_keyed Tryz.underlying9) Tryz.underlying9 hl0
      have HS := hide (sort_names HP.out.ris bg hperm)
      clear hc0 hl0 hperm
      generalize hq : ss.filter (fun x => Lib.hasPrefix x bg.data.toList) = ts at *
      clear hq
      obtain ⟨hlen, ⟨rfl, h0⟩ | ⟨g, cap, cur, rfl, hbase, hblk, h1, h2, h3, h4⟩⟩ := HT.out.own
      · have ht0 : ts = [] := by simpa using h0
        subst ht0
        have hN : namesL L bg = [] := by rw [← HS.out]; simp
        have HN := hide hN
        have HC2 : Hid _ := hide (Tryz.slices_Sort_string_none none 0 wr)
        clear hN h0 hlen
        go_wp2_with fail
        refine HC2.out.mono ?_
        rintro e w' ⟨rfl, rfl⟩
        go_wp2
        go_ret
        exact ⟨_, rfl, by rw [HN.out]; exact TS.nil _ _, HB.out⟩
      · have e2 : ts.map encStr = tc (ts.map mkB) := by rw [tc, List.map_map]; rfl
        have hH : Holds encStr wr g 0 ts.toArray := holds_of_block hblk (by rw [e2]; simpa using h4)
        have hgl : g < wr.heap.size := lt_of_block hblk
        have hts : ts.length ≤ 1000000 := by
          have := congrArg List.length HS.out
          have h5 := names_len L bg
          simp at this
          omega
        have HC2 : Hid _ := hide (Tryz.slices_Sort_string g 0 cap ts wr hH hgl (by omega))
        rw [List.length_map] at h1 h4 HT ⊢
        have HF : Hid (∀ nn os, TS w.heap.size (.slice (some ⟨g, 0, none⟩) ts.length cap) (namesL L bg) (grow (putRow encStr (Sort.ahead wr nn) g 0 (ts.mergeSort fun x y => decide (x ≤ y)).toArray) os) ∧ Below w.heap.size w (grow (putRow encStr (Sort.ahead wr nn) g 0 (ts.mergeSort fun x y => decide (x ≤ y)).toArray) os)) := fun nn os => by
          refine ⟨?_, HB.out.grown (grownBy_sorted _) HB.out.size (fun j hj => by cases hj; exact hbase)⟩
          have := ownsRow_sorted (ts := ts.mergeSort fun x y => decide (x ≤ y)) (ss := ts) (n := nn) (os := os) (by simp) hbase hblk (by simpa using h1) (by simpa using h2) (by simpa using h3)
          refine ⟨?_⟩
          have hlN : (namesL L bg).length = ts.length := by rw [← HS.out]; simp
          have e3 : tc (namesL L bg) = (ts.mergeSort leB).map encStr := by rw [← HS.out, tc, List.map_map]; rfl
          rw [hlN, e3]
          simpa using this
        clear hH hgl h1 h2 h3 h4 hlen e2 hblk hbase hts HT
        go_wp2_with fail
        refine HC2.out.mono ?_
        rintro e w' ⟨rfl, nn, os, rfl⟩
        go_wp2
        go_ret
        exact ⟨_, rfl, (HF.out nn os).1, (HF.out nn os).2⟩
    · intro y c kl yd yp w2 cnt2 hkey hlk hv hat hrg2 hlt hg2 hs2 hen
      obtain ⟨x', ex, rfl, hxl⟩ := Maps.keyOf_str Tryz.underlying9 hkey
      obtain ⟨x, hx⟩ : ∃ x, x = y.data.toList := ⟨_, rfl⟩
      obtain rfl : x = x' := by
        have e9 : y = ⟨x'.toArray⟩ := by simpa [encStr] using ex
        rw [hx, e9]
      have hy : y = mkB x := by rw [hx, mkB_to]
      have HY := hide hy
      have HC3 := hide (HC.out.step hlk hat)
      have HE := hide (And.intro hlt hs2)
      have HG2 := hide hg2
      have HR2 := hide hrg2
      have HB2 : Hid (Below w.heap.size w w2) := HB.out.grown hg2 HB.out.size (fun j hj => by cases hj; exact Nat.le_refl _)
      have HT2 : Hid (TS w.heap.size u5 ((ss.filter (fun x => Lib.hasPrefix x bg.data.toList)).map mkB) w2) := ⟨HT.out.own.kept hg2 (.inr (row_ne_iter HT.out.own HRG.out).symm)⟩
      have HL : Hid ((ss.filter (fun x => Lib.hasPrefix x bg.data.toList)).length ≤ 1000000) := by
        have h1 := List.length_filter_le (fun x => Lib.hasPrefix x bg.data.toList) ss
        have h2 := HCS.out
        show _ ≤ _
        omega
      have HLE := hide (HRG.out.left_eq)
      obtain ⟨t, ht⟩ : ∃ t, t = Lib.hasPrefix x bg.data.toList := ⟨_, rfl⟩
      have HX : Hid (∀ W, Calls Tryz.prog 71 #[.string y, .string bg] W fun e w' => e = .returned (.bool t) ∧ w' = W) := fun W => by
        have := Tryz.strings_HasPrefix y bg W
        rw [ht, hx]
        exact this
      have HFI : Hid ((ss ++ [x]).filter (fun x => Lib.hasPrefix x bg.data.toList) = ss.filter (fun x => Lib.hasPrefix x bg.data.toList) ++ (if t = true then [x] else [])) := by
        show _ = _
        rw [List.filter_append, ht]
        by_cases h : Lib.hasPrefix x bg.data.toList = true <;> simp [h]
      clear hkey hlk hv hat hrg2 hlt hg2 hs2 ht hxl ex hx hy HT HB HC HRG
      generalize ss.filter (fun x => Lib.hasPrefix x bg.data.toList) = ts at *
      go_wp2_with fail
      refine (HX.out _).mono ?_
      rintro e w' ⟨rfl, rfl⟩
      cases t with
      | true =>
        obtain ⟨v', w3, h3, hT3, hB3, hg3⟩ := HT2.out.one y (by have := HL.out; simp; omega) HB2.out.size
        have HT3 : Hid (TS w.heap.size v' (((ss ++ [x]).filter (fun x => Lib.hasPrefix x bg.data.toList)).map mkB) w3) := by
          show TS _ _ _ _
          rw [HFI.out, if_pos rfl, List.map_append, List.map_cons, List.map_nil, ← HY.out]
          exact hT3
        have HB3 := hide (hB3 w HB2.out)
        have HR3 := hide ((HR2.out.alloc (.cells #[.string y] 9)).kept hg3 (row_ne_low HT2.out.own HML.out) (row_ne_iter HT2.out.own HR2.out))
        clear hT3 hB3 hg3 HT2 HFI
        go_wp2_with (at_builtin; refine Lib.wpList_append_run _ rfl _ _ _ _ rfl _ _ rfl rfl _ _ h3 ?_)
        exact ⟨⟨_, cnt2, ss ++ [x], HR3.out, by have := HCS.out; have := HE.out.1; simp; omega, HT3.out, HC3.out, HB3.out⟩, by rw [HR3.out.left_eq, HLE.out]; exact HE.out.1⟩
      | false =>
        have HT3 : Hid (TS w.heap.size u5 (((ss ++ [x]).filter (fun x => Lib.hasPrefix x bg.data.toList)).map mkB) w') := by
          show TS _ _ _ _
          rw [HFI.out, if_neg (by decide), List.append_nil]
          exact HT2.out
        clear HT2 HFI
        go_wp2
        exact ⟨⟨_, cnt2, ss ++ [x], HR2.out, by have := HCS.out; have := HE.out.1; simp; omega, HT3.out, HC3.out, HB2.out⟩, by rw [HR2.out.left_eq, HLE.out]; exact HE.out.1⟩
end
end Go.Proofs.YtiecoplfiahpnaaGreat
