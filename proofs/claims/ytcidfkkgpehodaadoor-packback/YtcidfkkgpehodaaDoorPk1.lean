/-
  Contracts of the program and of the statement.
-/
import Derived.Test.YtcidfkkgpehodaaDoorPn12
import Derived.Deep.SlicePairs

namespace Go.Proofs.YtcidfkkgpehodaaDoor
open Go.RowKit Go.Lib
/-- What lies at a place. -/
def plV (x : IT) : Value := .agg #[.string x.pk, .int .i64 x.kind, .int .i64 x.off, .int .i64 x.long, .int .i64 x.size]
def okA (s : ByteArray) (x : IT) : Prop := 0 ≤ x.off ∧ 0 ≤ x.long ∧ x.off ≤ (s.size : Int) ∧ x.long ≤ (s.size : Int) - x.off
instance (s : ByteArray) (x : IT) : Decidable (okA s x) := by unfold okA; exact inferInstance
def atP (s : ByteArray) (x : IT) : ByteArray := s.extract x.off.toNat (x.off.toNat + x.long.toNat)
def blG (s : ByteArray) (x : IT) (id : ByteArray) : Option (Nat × ByteArray) := match opB (atP s x) id with
  | some (k, t) => if (k : Int) = x.kind ∧ (t.size : Int) = x.size then some (k, t) else none
  | none => none
def blE (s : ByteArray) (x : IT) (id : ByteArray) : Int := if okA s x then (match opB (atP s x) id with
  | some (k, t) => if (k : Int) = x.kind ∧ (t.size : Int) = x.size then 0 else 140
  | none => 130) else 5
def blK (s : ByteArray) (x : IT) (id : ByteArray) : Int := if okA s x then dK (blG s x id) else 0
def blT (s : ByteArray) (x : IT) (id : ByteArray) : ByteArray := if okA s x then dT (blG s x id) else ⟨#[]⟩
def blV (s : ByteArray) (x : IT) (id : ByteArray) : Value := .tuple #[.int .i64 (blK s x id), .string (blT s x id), .int .i64 (blE s x id)]
theorem blV_no {s : ByteArray} {x : IT} {id : ByteArray} (h : ¬ okA s x) : blV s x id = .tuple #[.int .i64 0, .string ⟨#[]⟩, .int .i64 5] := by rw [blV, blK, blT, blE, if_neg h, if_neg h, if_neg h]
theorem blV_none {s : ByteArray} {x : IT} {id : ByteArray} (h : okA s x) (ho : opB (atP s x) id = none) : blV s x id = .tuple #[.int .i64 0, .string ⟨#[]⟩, .int .i64 130] := by
  rw [blV, blK, blT, blE, if_pos h, if_pos h, if_pos h, blG, ho]
  rfl
theorem blV_other {s : ByteArray} {x : IT} {id : ByteArray} {k : Nat} {t : ByteArray} (h : okA s x) (ho : opB (atP s x) id = some (k, t)) (hk : ¬ ((k : Int) = x.kind ∧ (t.size : Int) = x.size)) : blV s x id = .tuple #[.int .i64 0, .string ⟨#[]⟩, .int .i64 140] := by
  rw [blV, blK, blT, blE, if_pos h, if_pos h, if_pos h, blG, ho]
  simp only [if_neg hk]
  rfl
theorem blV_ok {s : ByteArray} {x : IT} {id : ByteArray} {k : Nat} {t : ByteArray} (h : okA s x) (ho : opB (atP s x) id = some (k, t)) (hk : (k : Int) = x.kind ∧ (t.size : Int) = x.size) : blV s x id = .tuple #[.int .i64 (k : Int), .string t, .int .i64 0] := by
  rw [blV, blK, blT, blE, if_pos h, if_pos h, if_pos h, blG, ho]
  simp only [if_pos hk]
  rfl
theorem op_size {s i : ByteArray} {k : Nat} {t : ByteArray} (h : opB s i = some (k, t)) : t.size ≤ s.size + 65536 ∧ (k = 1 ∨ k = 2) := by
  rw [opB] at h
  rcases hd : dcB s with _ | ⟨k', t'⟩
  · rw [hd] at h; cases h
  · rw [hd] at h
    simp only at h
    split at h
    · simp only [Option.some.injEq, Prod.mk.injEq] at h
      obtain ⟨rfl, rfl⟩ := h
      exact ⟨(dc_small hd).2, (dc_small hd).1⟩
    · cases h
set_option maxRecDepth 100000 in
set_option maxHeartbeats 1600000 in
theorem pblob_any {w : World} {s i : ByteArray} (x : IT) (hL : Zq.Sh.Laid w) (hs : s.size ≤ 140000) (hl : lnB (atP s x) ≤ 20000) (h1 : -9223372036854775808 ≤ x.off ∧ x.off ≤ 9223372036854775807) (h2 : -9223372036854775808 ≤ x.long ∧ x.long ≤ 9223372036854775807) : Calls Tryd.prog 18 #[.string s, plV x, .string i] w fun e w' => e = .returned (blV s x i) ∧ Below w.heap.size w w' := by
  have HB := hide (fun o => below_al (Below.refl w.heap.size w) o)
  rw [plV]
  by_cases hk : okA s x
  rotate_left
  · rw [blV_no hk]
    rw [okA] at hk
    obtain ⟨P, K, O, G, Z, hx⟩ : ∃ (P : ByteArray) (K O G Z : Int), x.pk = P ∧ x.kind = K ∧ x.off = O ∧ x.long = G ∧ x.size = Z := ⟨_, _, _, _, _, rfl, rfl, rfl, rfl, rfl⟩
    obtain ⟨e1, e2, e3, e4, e5⟩ := hx
    rw [e3, e4] at hk
    rw [e3] at h1
    rw [e4] at h2
    rw [e1, e2, e3, e4, e5]
    clear e1 e2 e3 e4 e5
    by_cases a1 : O < 0
    · have c1 : decide (O < 0) = true := by simpa using a1
      clear hk h1 h2
      go_enter Tryd.func18, Tryd.ntmps18
      go_wp2
      exact bodyPost_ret (v := .tuple #[.int .i64 0, .string ⟨#[]⟩, .int .i64 5]) (by simp [results, Tryd.results18, go_sem]) rfl ⟨rfl, HB.out _⟩
    have c1 : decide (O < 0) = false := by simpa using a1
    by_cases a2 : G < 0
    · have c2 : decide (G < 0) = true := by simpa using a2
      clear hk h1 h2
      go_enter Tryd.func18, Tryd.ntmps18
      go_wp2
      exact bodyPost_ret (v := .tuple #[.int .i64 0, .string ⟨#[]⟩, .int .i64 5]) (by simp [results, Tryd.results18, go_sem]) rfl ⟨rfl, HB.out _⟩
    have c2 : decide (G < 0) = false := by simpa using a2
    have a4 : (s.size : Int) - O < G := by omega
    have c4 : decide ((s.size : Int) - O < G) = true := by simpa using a4
    have e1 : IntKind.i64.wrap ((s.size : Int) - O) = (s.size : Int) - O := by rw [IntKind.wrap_i64]; omega
    clear hk h1 h2
    go_enter Tryd.func18, Tryd.ntmps18
    go_wp2
    exact bodyPost_ret (v := .tuple #[.int .i64 0, .string ⟨#[]⟩, .int .i64 5]) (by simp [results, Tryd.results18, go_sem]) rfl ⟨rfl, HB.out _⟩
  · have HO := hide (fun wx (hb : Below w.heap.size w wx) => bOpen wx (atP s x) i (hL.below hb hL.size) (by rw [atP, ByteArray.size_extract]; omega) hl)
    have hsl : ∀ wx, (Instr.slice 9 (.string s) (some (.int .i64 x.off)) (some (.int .i64 (x.off + x.long))) none).run Tryd.prog wx = .ok (.string (atP s x)) wx := fun wx => by
      obtain ⟨g1, g2, g3, g4⟩ := hk
      have := sl_at (s := s) (a := x.off.toNat) (b := x.off.toNat + x.long.toNat) (by omega) (by omega) wx
      rw [show ((x.off.toNat : Nat) : Int) = x.off by omega, show ((x.off.toNat + x.long.toNat : Nat) : Int) = x.off + x.long by omega] at this
      exact this
    have HN : opB (atP s x) i = none → blV s x i = .tuple #[.int .i64 0, .string ⟨#[]⟩, .int .i64 130] := blV_none hk
    have HT := fun {k : Nat} {t : ByteArray} => blV_other (s := s) (x := x) (id := i) (k := k) (t := t) hk
    have HY := fun {k : Nat} {t : ByteArray} => blV_ok (s := s) (x := x) (id := i) (k := k) (t := t) hk
    obtain ⟨V, hV⟩ : ∃ V, blV s x i = V := ⟨_, rfl⟩
    obtain ⟨A, hA⟩ : ∃ A, atP s x = A := ⟨_, rfl⟩
    rw [hV] at HN ⊢
    simp only [hV, hA] at HT HY
    rw [hA] at HO hsl HN
    have hAz : A.size ≤ 140000 := by rw [← hA, atP, ByteArray.size_extract]; omega
    obtain ⟨g1, g2, g3, g4⟩ := hk
    clear hV hA
    obtain ⟨P, K, O, G, Z, hx⟩ : ∃ (P : ByteArray) (K O G Z : Int), x.pk = P ∧ x.kind = K ∧ x.off = O ∧ x.long = G ∧ x.size = Z := ⟨_, _, _, _, _, rfl, rfl, rfl, rfl, rfl⟩
    obtain ⟨e1, e2, e3, e4, e5⟩ := hx
    rw [e3] at g1 g3 g4 hsl
    rw [e4] at g2 g4 hsl
    rw [e2, e5] at HT HY
    rw [e1, e2, e3, e4, e5]
    clear e1 e2 e3 e4 e5 h1 h2
    have a1 : ¬ O < 0 := by omega
    have a2 : ¬ G < 0 := by omega
    have a3 : ¬ (s.size : Int) < O := by omega
    have a4 : ¬ (s.size : Int) - O < G := by omega
    have c1 : decide (O < 0) = false := by simpa using a1
    have c2 : decide (G < 0) = false := by simpa using a2
    have c3 : decide ((s.size : Int) < O) = false := by simpa using a3
    have c4 : decide ((s.size : Int) - O < G) = false := by simpa using a4
    have w1 : IntKind.i64.wrap ((s.size : Int) - O) = (s.size : Int) - O := by rw [IntKind.wrap_i64]; omega
    have w2 : IntKind.i64.wrap (O + G) = O + G := by rw [IntKind.wrap_i64]; omega
    clear g1 g2 g3 g4
    rcases ho : opB A i with _ | ⟨k, t⟩
    · rw [HN ho]
      rw [ho] at HO
      simp only [dK, dT, dC] at HO
      clear ho HN HT HY
      go_enter Tryd.func18, Tryd.ntmps18
      go_wp2_with fail
      refine (HO.out _ (HB.out _)).mono ?_
      rintro _ w2 ⟨rfl, hb⟩
      have HB2 := hide (below_step (HB.out _) hb)
      clear hb
      go_wp2
      exact bodyPost_ret (v := .tuple #[.int .i64 0, .string ⟨#[]⟩, .int .i64 130]) (by simp [results, Tryd.results18, go_sem]) rfl ⟨rfl, HB2.out⟩
    · have hz := op_size ho
      obtain ⟨W1, hW1⟩ : ∃ W1, w.alloc (.cells #[.string P, .int .i64 K, .int .i64 O, .int .i64 G, .int .i64 Z] 52) = W1 := ⟨_, rfl⟩
      obtain ⟨p, hp⟩ : ∃ p, w.heap.size = p := ⟨_, rfl⟩
      have H1 : Hid (Below w.heap.size w W1 ∧ W1.heap[p]? = some (.cells #[.string P, .int .i64 K, .int .i64 O, .int .i64 G, .int .i64 Z] 52 (0, 0))) := by
        rw [← hW1, ← hp]
        exact ⟨below_al (Below.refl _ _) _, heap_alloc_new w _⟩
      have HW := hide hW1
      have HP := hide hp
      clear hW1 hp
      have HD : Hid (∀ wx : World, W1.heap.size ≤ wx.heap.size → wx.heap[p]? = W1.heap[p]? → wx.cell? ⟨p, 1, none⟩ = some (.int .i64 K) ∧ wx.cell? ⟨p, 4, none⟩ = some (.int .i64 Z)) := fun wx _ h => by
        have h2 := h.trans H1.out.2
        simp [World.cell?, h2]
      rw [ho] at HO
      simp only [dK, dT, dC] at HO
      by_cases q1 : (k : Int) = K
      · have d1 : ((k : Int) != K) = false := by simp [q1]
        by_cases q2 : (t.size : Int) = Z
        · have d2 : ((t.size : Int) != Z) = false := by simp [q2]
          rw [HY ho ⟨q1, q2⟩]
          subst q1
          subst q2
          clear ho HN HT HY hz
          go_enter Tryd.func18, Tryd.ntmps18
          go_wp2_with fail
          rw [HW.out, HP.out]
          refine (HO.out _ H1.out.1).mono ?_
          rintro _ w2 ⟨rfl, hb⟩
          obtain ⟨y1, y4⟩ := HD.out w2 hb.size (hb.block p (lt_of_block H1.out.2))
          have HB2 := hide (below_step H1.out.1 hb)
          clear hb
          go_wp2
          exact bodyPost_ret (v := .tuple #[.int .i64 (k : Int), .string t, .int .i64 0]) (by simp [results, Tryd.results18, go_sem]) rfl ⟨rfl, HB2.out⟩
        · have d2 : ((t.size : Int) != Z) = true := by simpa using q2
          rw [HT ho (fun h => q2 h.2)]
          subst q1
          clear ho HN HT HY hz
          go_enter Tryd.func18, Tryd.ntmps18
          go_wp2_with fail
          rw [HW.out, HP.out]
          refine (HO.out _ H1.out.1).mono ?_
          rintro _ w2 ⟨rfl, hb⟩
          obtain ⟨y1, y4⟩ := HD.out w2 hb.size (hb.block p (lt_of_block H1.out.2))
          have HB2 := hide (below_step H1.out.1 hb)
          clear hb
          go_wp2
          exact bodyPost_ret (v := .tuple #[.int .i64 0, .string ⟨#[]⟩, .int .i64 140]) (by simp [results, Tryd.results18, go_sem]) rfl ⟨rfl, HB2.out⟩
      · have d1 : ((k : Int) != K) = true := by simpa using q1
        rw [HT ho (fun h => q1 h.1)]
        clear ho HN HT HY hz
        go_enter Tryd.func18, Tryd.ntmps18
        go_wp2_with fail
        rw [HW.out, HP.out]
        refine (HO.out _ H1.out.1).mono ?_
        rintro _ w2 ⟨rfl, hb⟩
        obtain ⟨y1, y4⟩ := HD.out w2 hb.size (hb.block p (lt_of_block H1.out.2))
        have HB2 := hide (below_step H1.out.1 hb)
        clear hb
        go_wp2
        exact bodyPost_ret (v := .tuple #[.int .i64 0, .string ⟨#[]⟩, .int .i64 140]) (by simp [results, Tryd.results18, go_sem]) rfl ⟨rfl, HB2.out⟩
end Go.Proofs.YtcidfkkgpehodaaDoor

namespace Go.Proofs.YtcidfkkgpehodaaDoor
open Go.RowKit Go.Lib
theorem stL (s : ByteArray) : Zq.Sh.strOf s.data.toList = s := by rw [Zq.Sh.strOf, arr_list]
theorem xor_fin : ∀ c : Fin 256, ∀ m : Fin 8, 0 ≤ bits .xor .u8 (c.val : Int) (2 ^ m.val % 256) ∧ bits .xor .u8 (c.val : Int) (2 ^ m.val % 256) < 256 := by decide +kernel
theorem xor_bit (c : UInt8) {m : Nat} (hm : m < 8) : ∃ d : UInt8, (d.toNat : Int) = bits .xor .u8 (c.toNat : Int) (2 ^ m % 256) := by
  have h := xor_fin ⟨c.toNat, c.toNat_lt⟩ ⟨m, hm⟩
  simp only at h
  exact ⟨UInt8.ofNat (bits .xor .u8 (c.toNat : Int) (2 ^ m % 256)).toNat, by rw [UInt8.toNat_ofNat']; omega⟩
/-- The items of a pack bear its id. -/
theorem par_pk {s : ByteArray} {M : List IT} (h : parP s = some M) : ∀ x ∈ M, x.pk = dgB s := by
  rw [← pg_par, pgP] at h
  split at h
  · split at h
    · have := Option.some.inj h
      intro x hx
      rw [← this] at hx
      obtain ⟨y, _, rfl⟩ := List.mem_map.1 hx
      rfl
    · cases h
  · cases h
def bes (Q : List (Int × ByteArray)) : List BE := Q.map fun q => mkB q.1 q.2
def wts (Q : List (Int × ByteArray)) : List ByteArray := Q.map (·.2)
def idsQ (Q : List (Int × ByteArray)) : List ByteArray := Q.map fun q => (mkB q.1 q.2).id
def OkQ (Q : List (Int × ByteArray)) (j : Nat) : Prop := (∀ q ∈ Q, (q.1 = 1 ∨ q.1 = 2) ∧ q.2.size ≤ 300) ∧ Q.length ≤ j
theorem en_small {k : Int} {t : ByteArray} (hk : k = 1 ∨ k = 2) (ht : t.size ≤ 300) : rfC k t = 0 ∧ (enB k t).size ≤ 306 ∧ dcB (enB k t) = some (k.toNat, t) ∧ lnB (enB k t) = t.size := by
  obtain ⟨m, hm, rfl⟩ : ∃ m : Nat, (m = 1 ∨ m = 2) ∧ k = (m : Int) := ⟨k.toNat, by omega, by omega⟩
  obtain ⟨h1, h2, _, h4, _⟩ := dc_en hm (t := t) (by omega)
  exact ⟨rf_ok hm (by omega), by omega, by rw [Int.toNat_natCast]; exact h1, h2⟩
theorem line_small {k : Int} {t : ByteArray} (hk : k = 1 ∨ k = 2) (ht : t.size ≤ 300) : (lineB (mkB k t)).size ≤ 51 := by
  have h1 := (smB_size (enB k t).size (by have := (en_small hk ht).2.1; omega)).1
  have h2 := (smB_size t.size (by omega)).1
  have h3 : (lineB (mkB k t)).size = 32 + 1 + (smB (enB k t).size).size + (smB t.size).size := by
    rw [lineB, ba_add, ba_add, ba_add, b1_size, show (mkB k t).id.size = 32 from id_size _ _]
    rfl
  omega
theorem blb_small : ∀ {Q : List (Int × ByteArray)}, (∀ q ∈ Q, (q.1 = 1 ∨ q.1 = 2) ∧ q.2.size ≤ 300) → (blbB (bes Q)).size ≤ 306 * Q.length ∧ (linesB (bes Q)).size ≤ 51 * Q.length
  | [], _ => ⟨Nat.le_refl _, Nat.le_refl _⟩
  | q :: r, h => by
    have h1 := h q List.mem_cons_self
    obtain ⟨i1, i2⟩ := blb_small (Q := r) fun x hx => h x (List.mem_cons_of_mem _ hx)
    have e1 := (en_small h1.1 h1.2).2.1
    have e2 := line_small h1.1 h1.2
    have hs : (mkB q.1 q.2).s.size ≤ 306 := e1
    rw [bes, List.map_cons, blbB, linesB, ba_add, ba_add, List.length_cons]
    rw [bes] at i1 i2
    omega
theorem adC_q {Q : List (Int × ByteArray)} {k : Int} {t : ByteArray} (hQ : OkQ Q 20) (hk : k = 1 ∨ k = 2) (ht : t.size ≤ 300) : adC 65536 (bes Q) k t = if (plF 5 (bes Q) (mkB k t).id).isSome then 6 else 0 := by
  have hr := (en_small hk ht).1
  rw [adC, if_pos hr]
  have hf : fits 65536 (bes Q) (mkB k t) = true := by
    obtain ⟨h1, h2⟩ := hQ
    obtain ⟨i1, i2⟩ := blb_small h1
    have e1 : (mkB k t).s.size ≤ 306 := (en_small hk ht).2.1
    have e2 := line_small hk ht
    have hl : (bes Q).length = Q.length := by rw [bes, List.length_map]
    have e3 := (smB_size ((bes Q).length + 1) (by omega)).1
    have hs := paT_snoc (bes Q) (mkB k t)
    have hle : (paT (bes Q ++ [mkB k t])).size ≤ 65536 := by omega
    rw [fits, decide_eq_true hle, decide_eq_true (show (bes Q).length + 1 ≤ 4096 by omega), decide_eq_true (show ((paT (bes Q ++ [mkB k t])).size : Int) ≤ 65536 by omega)]
    simp
  rw [hf]
  rfl
theorem bes_snoc (Q : List (Int × ByteArray)) (k : Int) (t : ByteArray) : bes (Q ++ [(k, t)]) = bes Q ++ [mkB k t] := by rw [bes, List.map_append]; rfl
theorem wts_snoc (Q : List (Int × ByteArray)) (k : Int) (t : ByteArray) : wts (Q ++ [(k, t)]) = wts Q ++ [t] := by rw [wts, List.map_append]; rfl
theorem ids_snoc (Q : List (Int × ByteArray)) (k : Int) (t : ByteArray) : idsQ (Q ++ [(k, t)]) = idsQ Q ++ [(mkB k t).id] := by rw [idsQ, List.map_append]; rfl
theorem okQ_snoc {Q : List (Int × ByteArray)} {j : Nat} {k : Int} {t : ByteArray} (h : OkQ Q j) (hk : k = 1 ∨ k = 2) (ht : t.size ≤ 300) : OkQ (Q ++ [(k, t)]) (j + 1) := by
  refine ⟨fun q hq => ?_, by rw [List.length_append, List.length_singleton]; have := h.2; omega⟩
  rcases List.mem_append.1 hq with hq | hq
  · exact h.1 q hq
  · rw [List.mem_singleton] at hq
    subst hq
    exact ⟨hk, ht⟩
theorem blb_split : ∀ {l : List BE} {i : Nat} {y : BE}, l[i]? = some y → blbB l = blbB (l.take i) ++ (y.s ++ blbB (l.drop (i + 1)))
  | x :: r, 0, y, h => by
    simp only [List.getElem?_cons_zero, Option.some.injEq] at h
    subst h
    rw [List.take_zero, blbB, blbB, nil_ap]
    rfl
  | x :: r, i + 1, y, h => by
    rw [List.getElem?_cons_succ] at h
    rw [blbB, blb_split h, List.take_succ_cons, blbB, ByteArray.append_assoc]
    rfl
/-- Each item of a finished pack, and what lies at its place. -/
theorem item_at {Q : List (Int × ByteArray)} (hQ : ∀ q ∈ Q, (q.1 = 1 ∨ q.1 = 2) ∧ q.2.size ≤ 300) (hz : (paT (bes Q)).size ≤ 65536) {i : Nat} {x : IT} (hx : (itsB (dgB (paT (bes Q))) 5 (bes Q))[i]? = some x) :
    ∃ t : ByteArray, (wts Q)[i]? = some t ∧ (idsQ Q)[i]? = some x.id ∧ x.pk = dgB (paT (bes Q)) ∧ (∃ kk : Int, blV (paT (bes Q)) x x.id = Value.tuple #[.int .i64 kk, .string t, .int .i64 0]) ∧ lnB (atP (paT (bes Q)) x) ≤ 20000 ∧ (-9223372036854775808 ≤ x.off ∧ x.off ≤ 9223372036854775807) ∧ (-9223372036854775808 ≤ x.long ∧ x.long ≤ 9223372036854775807) := by
  have hi : i < Q.length := by
    have := (List.getElem?_eq_some_iff.1 hx).1
    rw [its_len, bes, List.length_map] at this
    exact this
  obtain ⟨q, hq⟩ : ∃ q, Q[i]? = some q := ⟨_, List.getElem?_eq_getElem hi⟩
  obtain ⟨k, t⟩ := q
  obtain ⟨hk, ht⟩ := hQ _ (List.mem_of_getElem? hq)
  dsimp only at hk ht
  have hy : (bes Q)[i]? = some (mkB k t) := by rw [bes, List.getElem?_map, hq]; rfl
  have hg := its_get (dgB (paT (bes Q))) 5 (bes Q) i _ hy
  rw [hx] at hg
  have hxe := Option.some.inj hg
  obtain ⟨h1, h2, h3, h4⟩ := en_small hk ht
  have hsp := blb_split hy
  have hsz : (blbB (bes Q)).size = (blbB ((bes Q).take i)).size + ((enB k t).size + (blbB ((bes Q).drop (i + 1))).size) := by
    rw [hsp, ba_add, ba_add]
    rfl
  have hps := paT_size (bes Q)
  have hat : (paT (bes Q)).extract (5 + (blbB ((bes Q).take i)).size) (5 + (blbB ((bes Q).take i)).size + (enB k t).size) = enB k t := by
    have e : paT (bes Q) = (hd5 ++ blbB ((bes Q).take i)) ++ enB k t ++ (blbB ((bes Q).drop (i + 1)) ++ dirB (bes Q) ++ fxB (dirB (bes Q)).size 4 ++ tl4) := by
      rw [paT, hsp]
      show hd5 ++ (blbB ((bes Q).take i) ++ (enB k t ++ blbB ((bes Q).drop (i + 1)))) ++ dirB (bes Q) ++ fxB (dirB (bes Q)).size 4 ++ tl4 = _
      simp only [ByteArray.append_assoc]
    have hA : (hd5 ++ blbB ((bes Q).take i)).size = 5 + (blbB ((bes Q).take i)).size := by rw [ba_add, hd5_size]
    rw [e, ← hA, mid_ext]
  have hoff : x.off = ((5 + (blbB ((bes Q).take i)).size : Nat) : Int) := by rw [hxe]
  have hlong : x.long = (((enB k t).size : Nat) : Int) := by rw [hxe]; rfl
  have hap : atP (paT (bes Q)) x = enB k t := by
    rw [atP, hoff, hlong, Int.toNat_natCast, Int.toNat_natCast, hat]
  have hok : okA (paT (bes Q)) x := by
    rw [okA, hoff, hlong]
    omega
  have hop : opB (atP (paT (bes Q)) x) x.id = some (k.toNat, t) := by
    rw [hap]
    exact op_ok h3 (by rw [hxe]; rfl)
  refine ⟨t, by rw [wts, List.getElem?_map, hq]; rfl, by rw [idsQ, List.getElem?_map, hq, hxe]; rfl, by rw [hxe], ⟨_, blV_ok hok hop ⟨by rw [hxe]; rfl, by rw [hxe]; rfl⟩⟩, by rw [hap, h4]; omega, by omega, by omega⟩
/-- A text's cell. -/
def s1 (x : ByteArray) : List Value := [.string x]
theorem s1_len (x : ByteArray) : (s1 x).length = 1 := rfl
/-- A list of texts lies in memory. -/
def TL (w : World) (v : Value) (l : List ByteArray) : Prop :=
  ∃ a c, v = .slice a l.length c ∧ ∀ i x, l[i]? = some x → ∃ g o, a = some ⟨g, o, none⟩ ∧ g < w.heap.size ∧ w.cell? ⟨g, o + i, none⟩ = some (.string x)
theorem TL.bel {w w' : World} {v : Value} {l : List ByteArray} (h : TL w v l) (hb : Below w.heap.size w w') : TL w' v l := by
  obtain ⟨a, c, e, hC⟩ := h
  refine ⟨a, c, e, fun i x hx => ?_⟩
  obtain ⟨g, o, e1, e2, e3⟩ := hC i x hx
  exact ⟨g, o, e1, Nat.lt_of_lt_of_le e2 hb.size, (hb.cell (p := ⟨g, o + i, none⟩) e2).trans e3⟩
theorem it6_cells {B q c : Nat} {a : Option Addr} {M : List IT} {w : World} (h : OW it6 6 54 B (.slice a q c) M w) {j : Nat} {x : IT} (hx : M[j]? = some x) : ∃ g o, a = some ⟨g, o, none⟩ ∧ ∀ wx, Below w.heap.size w wx → (wx.cell? ⟨g, o + j * 6, none⟩ = some (.string x.id) ∧ wx.cell? ⟨g, o + j * 6 + 1, none⟩ = some (.string x.pk) ∧ wx.cell? ⟨g, o + j * 6 + 2, none⟩ = some (.int .i64 x.kind) ∧ wx.cell? ⟨g, o + j * 6 + 3, none⟩ = some (.int .i64 x.off) ∧ wx.cell? ⟨g, o + j * 6 + 4, none⟩ = some (.int .i64 x.long) ∧ wx.cell? ⟨g, o + j * 6 + 5, none⟩ = some (.int .i64 x.size)) := by
  obtain ⟨a', c', e, _, h2⟩ := h.ls (r := fun _ => True) it6_len (fun _ _ => trivial)
  obtain ⟨rfl⟩ : a = a' := by injection e
  rcases h2 with h2 | ⟨g, o, ea, _, hg, hG⟩
  · rw [h2] at hx; simp at hx
  · refine ⟨g, o, ea, fun wx hb => ?_⟩
    have k := fun i u (hj : (it6 x)[i]? = some u) => (hb.cell (p := ⟨g, o + j * 6 + i, none⟩) hg).trans (hG j x hx i u hj)
    exact ⟨k 0 _ rfl, k 1 _ rfl, k 2 _ rfl, k 3 _ rfl, k 4 _ rfl, k 5 _ rfl⟩
theorem s1_cells {B q c : Nat} {a : Option Addr} {M : List ByteArray} {w : World} (h : OW s1 1 9 B (.slice a q c) M w) {j : Nat} {x : ByteArray} (hx : M[j]? = some x) : ∃ g o, a = some ⟨g, o, none⟩ ∧ ∀ wx, Below w.heap.size w wx → wx.cell? ⟨g, o + j, none⟩ = some (.string x) := by
  obtain ⟨a', c', e, _, h2⟩ := h.ls (r := fun _ => True) s1_len (fun _ _ => trivial)
  obtain ⟨rfl⟩ : a = a' := by injection e
  rcases h2 with h2 | ⟨g, o, ea, _, hg, hG⟩
  · rw [h2] at hx; simp at hx
  · refine ⟨g, o, ea, fun wx hb => ?_⟩
    have := hG j x hx 0 _ rfl
    rw [Nat.mul_one, Nat.add_zero] at this
    exact (hb.cell (p := ⟨g, o + j, none⟩) hg).trans this
/-- A builder, and two lists of texts beside it. -/
structure BB (w : World) (b : Nat) (va vb : Value) (L : List BE) (A C : List ByteArray) (wr : World) : Prop where
  bx : ∃ P, BX P wr b 65536 L ∧ (∀ i, P i → w.heap.size ≤ i) ∧ (∀ g, va.ownBlock = some g → ¬ P g) ∧ (∀ g, vb.ownBlock = some g → ¬ P g)
  la : OW s1 1 9 w.heap.size va A wr
  lb : OW s1 1 9 w.heap.size vb C wr
  ap : ∀ g, va.ownBlock = some g → vb.ownBlock ≠ some g
  be : Below w.heap.size w wr
section
variable {w wr w' : World} {b : Nat} {va vb : Value} {L L' : List BE} {A C : List ByteArray}
theorem BB.swap (h : BB w b va vb L A C wr) : BB w b vb va L C A wr := by
  obtain ⟨P, h1, h2, h3, h4⟩ := h.bx
  exact ⟨⟨P, h1, h2, h4, h3⟩, h.lb, h.la, fun g hg e => h.ap g e hg, h.be⟩
theorem BB.bel (h : BB w b va vb L A C wr) (hb : Below wr.heap.size wr w') : BB w b va vb L A C w' := by
  obtain ⟨P, h1, h2, h3, h4⟩ := h.bx
  exact ⟨⟨P, h1.bel hb, h2, h3, h4⟩, h.la.keep hb, h.lb.keep hb, h.ap, below_step h.be hb⟩
theorem BB.add {P : Nat → Prop} (h : BB w b va vb L A C wr) (h2 : ∀ i, P i → w.heap.size ≤ i) (h3 : ∀ g, va.ownBlock = some g → ¬ P g) (h4 : ∀ g, vb.ownBlock = some g → ¬ P g) (hy : BY P wr b 65536 L' w') : BB w b va vb L' A C w' := by
  obtain ⟨P', hx, hg, hi⟩ := hy
  have hs := h.be.size
  refine ⟨⟨P', hx, fun i q => ?_, fun g q p => ?_, fun g q p => ?_⟩, h.la.kb fun i q => hg.block i (h.la.lt i q).2 (h3 i q), h.lb.kb fun i q => hg.block i (h.lb.lt i q).2 (h4 i q), h.ap, hg.below h.be hs h2⟩
  · rcases hi i q with e | e
    · exact h2 i e
    · omega
  · rcases hi g p with e | e
    · exact h3 g q e
    · have := (h.la.lt g q).2; omega
  · rcases hi g p with e | e
    · exact h4 g q e
    · have := (h.lb.lt g q).2; omega
/-- A text behind the first list. -/
theorem BB.app (h : BB w b va vb L A C wr) (x : ByteArray) (hl : A.length ≤ 100000) :
    ∃ v' w1, (Builtin.append_ #[30, 30] 30 #[va, .slice (some ⟨wr.heap.size, 0, none⟩) 1 1]).run Tryd.prog (wr.alloc (.cells #[.string x] 9)) = .ok v' w1 ∧ BB w b v' vb L (A ++ [x]) C w1 := by
  have hb1 : Below wr.heap.size wr (wr.alloc (.cells (s1 x).toArray 9)) := below_al (Below.refl _ _) _
  have h1 := h.bel hb1
  have hS := LS.one x 9 wr s1 1 (fun _ => True) trivial
  obtain ⟨v', w1, hr, h2, h3, h4⟩ := h1.la.app s1_len (by decide) (fun y hy u hu => by
    rw [List.mem_singleton] at hy
    subst hy
    simp [s1] at hu
    subst hu
    rfl) Tryd.underlying30 Tryd.infoTx rfl hS (by simp; omega) (by simp; omega) (Nat.le_trans h.be.size hb1.size)
  obtain ⟨P, p1, p2, p3, p4⟩ := h1.bx
  obtain ⟨P0, p01, p02, p03, p04⟩ := h.bx
  have hgs : Gs (fun i => va.ownBlock = some i) (wr.alloc (.cells (s1 x).toArray 9)) w1 := by
    cases hv : va.ownBlock with
    | none =>
      rw [hv] at h3
      exact ⟨h3.os, h3.tape, h3.output, h3.size, fun i hi _ => h3.block i hi (by simp)⟩
    | some g =>
      rw [hv] at h3
      exact (Gs.refl _ _).gb h3 (.inl rfl)
  have hsz : (wr.alloc (.cells (s1 x).toArray 9)).heap.size = wr.heap.size + 1 := by simp
  have hnew : ∀ g, v'.ownBlock = some g → va.ownBlock = some g ∨ g = wr.heap.size + 1 := fun g hg => by
    rcases h4 with e | e
    · exact .inl (e ▸ hg)
    · rw [hg] at e
      exact .inr (by rw [Option.some.inj e, hsz])
  refine ⟨v', w1, hr, ⟨⟨P0, (p01.bel hb1).gs hgs fun i hi e => p03 i e hi, p02, fun g hg hp => ?_, p04⟩, h2, h1.lb.kb fun i hi => hgs.block i (h1.lb.lt i hi).2 (fun e => h.ap i e hi), fun g hg e => ?_, hgs.below h1.be h1.be.size fun i hi => (h1.la.lt i hi).1⟩⟩
  · rcases hnew g hg with e | e
    · exact p03 g e hp
    · have := p01.2 g hp; omega
  · rcases hnew g hg with q | q
    · exact h.ap g q e
    · have := (h.lb.lt g e).2; omega
end
end Go.Proofs.YtcidfkkgpehodaaDoor

namespace Go.Proofs.YtcidfkkgpehodaaDoor
open Go.RowKit Go.Lib
set_option maxRecDepth 100000 in
set_option maxHeartbeats 1600000 in
theorem items_same {w : World} {u v : Value} {ru rv : Nat → Prop} {L : List IT} (hu : LS it6 6 ru w u L) (hv : LS it6 6 rv w v L) (hl : L.length ≤ 1000000) : Calls Tryd.prog 17 #[u, v] w fun e w' => e = .returned (.bool true) ∧ Below w.heap.size w w' := by
  have HC : ∀ {r : Nat → Prop} {z : Value}, LS it6 6 r w z L → ∃ a c, z = .slice a L.length c ∧ ∀ i x, L[i]? = some x → ∃ g o, a = some ⟨g, o, none⟩ ∧ ∀ wx, Below w.heap.size w wx → (wx.cell? ⟨g, o + i * 6, none⟩ = some (.string x.id) ∧ wx.cell? ⟨g, o + i * 6 + 1, none⟩ = some (.string x.pk) ∧ wx.cell? ⟨g, o + i * 6 + 2, none⟩ = some (.int .i64 x.kind) ∧ wx.cell? ⟨g, o + i * 6 + 3, none⟩ = some (.int .i64 x.off) ∧ wx.cell? ⟨g, o + i * 6 + 4, none⟩ = some (.int .i64 x.long) ∧ wx.cell? ⟨g, o + i * 6 + 5, none⟩ = some (.int .i64 x.size)) := fun h => by
    obtain ⟨a, c, e, _, h2⟩ := h
    refine ⟨a, c, e, fun i x hx => ?_⟩
    rcases h2 with h2 | ⟨g, o, ea, _, hg, hG⟩
    · rw [h2] at hx; simp at hx
    · refine ⟨g, o, ea, fun wx hb => ?_⟩
      have k := fun j u (hj : (it6 x)[j]? = some u) => (hb.cell (p := ⟨g, o + i * 6 + j, none⟩) hg).trans (hG i x hx j u hj)
      exact ⟨k 0 _ rfl, k 1 _ rfl, k 2 _ rfl, k 3 _ rfl, k 4 _ rfl, k 5 _ rfl⟩
  obtain ⟨a, c, rfl, HA⟩ := HC hu
  obtain ⟨a', c', rfl, HB⟩ := HC hv
  have HA := hide HA
  have HB := hide HB
  obtain ⟨n, hn⟩ : ∃ n, L.length = n := ⟨_, rfl⟩
  rw [hn] at hl ⊢
  have HN := hide hn
  clear hu hv hn HC
  go_enter Tryd.func17, Tryd.ntmps17
  go_wp2
  go_loopw [5] (fun i wr => ∃ j : Nat, j ≤ n ∧ i = .int .i64 (j : Int) ∧ Below w.heap.size w wr) (fun i _ => n - (Go.RowKit.intOf i).toNat)
  case atStart => exact ⟨0, Nat.zero_le _, rfl, Below.refl _ _⟩
  case round =>
    obtain ⟨j, hj, rfl, hb⟩ := hrel
    by_cases hlt : j < n
    · have b1 : (j : Int) < (n : Int) := by omega
      have b0 : (0 : Int) ≤ (j : Int) := by omega
      obtain ⟨x, hx⟩ : ∃ x, L[j]? = some x := ⟨_, List.getElem?_eq_getElem (by rw [HN.out]; exact hlt)⟩
      obtain ⟨g, o, rfl, hg⟩ := HA.out j x hx
      obtain ⟨g', o', rfl, hg'⟩ := HB.out j x hx
      obtain ⟨k0, k1, k2, k3, k4, k5⟩ := hg wr.drew hb.drew
      obtain ⟨m0, m1, m2, m3, m4, m5⟩ := hg' wr.drew hb.drew
      obtain ⟨x0, x1, x2, x3, x4, x5⟩ := x
      dsimp only at k0 k1 k2 k3 k4 k5 m0 m1 m2 m3 m4 m5
      have HBB := hide hb.drew
      clear hx hg hg' hb
      go_upto_region 6 with fail
      go_region
      go_wp2
      exact ⟨⟨j + 1, by omega, by simp, HBB.out⟩, by simp [Go.RowKit.intOf]; omega⟩
    · have b1 : ¬ (j : Int) < (n : Int) := by omega
      have HBB := hide hb
      clear hb
      go_wp2
      go_ret
      exact ⟨rfl, HBB.out⟩
end Go.Proofs.YtcidfkkgpehodaaDoor

namespace Go.Proofs.YtcidfkkgpehodaaDoor
open Go.ChangeShapes Go.WideShapes Go.ChangeAt Go.RowKit Go.Lib
theorem Tryd.cellsTx : Tryd.prog.cellsOf 9 = 1 := by kernel_rfl
theorem Tryd.laidOutX : laidOutB Tryd.prog = true := by kernel_rfl
theorem texts_tl {H : Type} {enc : TypeId × Value → H} {w : World} {a : Option Addr} {len cap : Nat} {d : DataW H} {ps : List MemPlace}
    (h : DataW.Trod enc Tryd.prog w 0 (fun _ => true) true 30 (.slice a len cap) d ps) : ∃ ts : List ByteArray, TL w (.slice a len cap) ts := by
  obtain ⟨fuel, hf⟩ := h
  rcases open_strings Tryd.underlying30 Tryd.underlying9 Tryd.cellsTx hf with ⟨hcs, _⟩ | ⟨x, l, c, ss, hcs, _, hlc, hcm, hz, _, hcell, hws⟩
  · simp [Value.cells] at hcs
    obtain ⟨rfl, rfl, rfl⟩ := hcs
    exact ⟨[], ⟨none, 0, rfl, fun i x hx => by simp at hx⟩⟩
  · simp [Value.cells] at hcs
    obtain ⟨rfl, rfl, rfl⟩ := hcs
    simp only [if_true] at hz
    have hlen : (ss.take len).length = len := by rw [List.length_take]; omega
    refine ⟨ss.take len, ⟨some x, cap, by rw [hlen], fun i y hy => ?_⟩⟩
    have hi : i < len := by
      have := (List.getElem?_eq_some_iff.1 hy).1
      omega
    rw [List.getElem?_take, if_pos hi] at hy
    have hci := hcell i (by omega)
    obtain ⟨b, off, spot⟩ := x
    have hc := hcell 0 (by omega)
    have hspot : spot = none := by simpa [Addr.add] using World.cell?_spot hc
    subst hspot
    refine ⟨b, off, rfl, ?_, ?_⟩
    · exact World.block_lt_of_cell? _ _ hc
    · rw [Addr.add_mid] at hci
      rw [hci]
      have he : ss.getD i ByteArray.empty = y := by rw [List.getD_eq_getElem?_getD, hy]; rfl
      first | (rw [← he]) | (simp [← he])
end Go.Proofs.YtcidfkkgpehodaaDoor

namespace Go.Proofs.YtcidfkkgpehodaaDoor
open Go.RowKit Go.Lib
theorem odd_k (j : Nat) : ∃ k : Int, (k = 1 ∨ k = 2) ∧ (1 : Int) + (j : Int) % 2 = k := ⟨_, by omega, rfl⟩
set_option maxRecDepth 100000 in
set_option maxHeartbeats 8000000 in
theorem back14 {w : World} (hL : Zq.Sh.Laid w) {vt : Value} {ts : List ByteArray} (hT : TL w vt ts) (x : Int) : Calls Tryd.prog 4 #[vt, .int .i64 x] w fun e w' => e = .returned (.bool true) ∧ Below w.heap.size w w' := by
  have HNw := hide (new_ok w 65536 (by decide) (by decide))
  have HWk : Hid (∀ wx, Below w.heap.size w wx → Calls Tryd.prog 7 #[] wx fun e w' => e = .returned (.bool true) ∧ Below wx.heap.size wx w') := fun wx hb => works14 (hL.below hb hL.size)
  obtain ⟨ta, tc', rfl, hTC⟩ := hT
  have HTC : Hid (∀ wx, Below w.heap.size w wx → ∀ i y, ts[i]? = some y → ∃ g o, ta = some ⟨g, o, none⟩ ∧ wx.cell? ⟨g, o + i, none⟩ = some (.string y)) := fun wx hb i y hy => by
    obtain ⟨g, o, e1, e2, e3⟩ := hTC i y hy
    exact ⟨g, o, e1, (hb.cell (p := ⟨g, o + i, none⟩) e2).trans e3⟩
  have HLd := hide hL
  obtain ⟨n, hnn⟩ : ∃ n, ts.length = n := ⟨_, rfl⟩
  rw [hnn]
  have HN := hide hnn
  clear hnn hTC hL
  go_enter Tryd.func4, Tryd.ntmps4
  go_wp2_with fail
  refine HNw.out.mono ?_
  rintro _ w2 ⟨b, P, rfl, hX, hP, hb⟩
  have H2 := hide (And.intro hX (And.intro hP hb))
  clear hX hP hb
  go_wp2_with fail
  refine (HWk.out _ H2.out.2.2).mono ?_
  rintro _ w3 ⟨rfl, hb⟩
  have H3 : Hid (BB w b (.slice none 0 0) (.slice none 0 0) (bes []) (wts []) (idsQ []) w3) :=
    ⟨⟨P, H2.out.1.bel hb, H2.out.2.1, fun g e => (by cases e), fun g e => (by cases e)⟩, OW.nil _ _ _ _ _, OW.nil _ _ _ _ _, fun g e => (by cases e), below_step H2.out.2.2 hb⟩
  clear hb HWk HNw H2
  go_wp2
  go_loopw [7, 8, 9] (fun vw vi ix wr => ∃ (j : Nat) (Q : List (Int × ByteArray)), j ≤ n ∧ j ≤ 20 ∧ ix = .int .i64 (j : Int) ∧ OkQ Q j ∧ GL (bes Q) ∧ BB w b vw vi (bes Q) (wts Q) (idsQ Q) wr) (fun _ _ ix _ => n - (Go.RowKit.intOf ix).toNat)
  case atStart => exact ⟨0, [], Nat.zero_le _, Nat.zero_le _, rfl, ⟨fun _ h => (nomatch h), Nat.le_refl _⟩, gl_nil, H3.out⟩
  case round =>
    obtain ⟨j, Q, hj, hj20, rfl, hQ, hG, hB⟩ := hrel
    by_cases hlt : j < n ∧ j < 20
    · obtain ⟨hl1, hl2⟩ := hlt
      have b1 : (j : Int) < (n : Int) := by omega
      have b2 : (j : Int) < 20 := by omega
      have b0 : (0 : Int) ≤ (j : Int) := by omega
      obtain ⟨t, ht⟩ : ∃ t, ts[j]? = some t := ⟨_, List.getElem?_eq_getElem (by rw [HN.out]; exact hl1)⟩
      obtain ⟨g, o, rfl, hc⟩ := HTC.out wr hB.be j t ht
      obtain ⟨va, vc, rfl⟩ := OW.shp hB.la
      obtain ⟨ia, ic, rfl⟩ := OW.shp hB.lb
      obtain ⟨lw, hlw⟩ : ∃ l, (wts Q).length = l := ⟨_, rfl⟩
      obtain ⟨li, hli⟩ : ∃ l, (idsQ Q).length = l := ⟨_, rfl⟩
      rw [hlw, hli] at hB
      have HB := hide hB
      have HQ := hide (And.intro hQ hG)
      have hok : OkQ Q (j + 1) := ⟨hQ.1, by have := hQ.2; omega⟩
      have HE : Hid (∀ wz, BB w b (.slice va lw vc) (.slice ia li ic) (bes Q) (wts Q) (idsQ Q) wz → ∃ (j' : Nat) (Q' : List (Int × ByteArray)), j' ≤ n ∧ j' ≤ 20 ∧ Value.int .i64 ((j : Int) + 1) = .int .i64 (j' : Int) ∧ OkQ Q' j' ∧ GL (bes Q') ∧ BB w b (.slice va lw vc) (.slice ia li ic) (bes Q') (wts Q') (idsQ Q') wz) := fun wz h => ⟨j + 1, Q, by omega, by omega, by simp, hok, hG, h⟩
      clear hB hQ hG hok
      rw [hlw, hli]
      by_cases hz : t.size ≤ 300
      rotate_left
      · have d1 : (300 : Int) < (t.size : Int) := by omega
        go_wp2
        exact ⟨HE.out _ HB.out, by simp [Go.RowKit.intOf]; omega⟩
      · have d1 : ¬ (300 : Int) < (t.size : Int) := by omega
        obtain ⟨k, hk, hke⟩ := odd_k j
        have d2 : (j : Int).tmod 2 = (j : Int) % 2 := Int.tmod_eq_emod_of_nonneg b0
        have d3 : IntKind.i64.wrap ((j : Int) % 2) = (j : Int) % 2 := by rw [IntKind.wrap_i64]; omega
        have d4 : IntKind.i64.wrap (1 + (j : Int) % 2) = k := by rw [IntKind.wrap_i64]; omega
        have HKE := hide hke
        clear hke
        obtain ⟨P4, hX4, hP4, ha4, hb4⟩ := HB.out.bx
        have hadd := padd_any hX4 HQ.out.2 HLd.out HB.out.be k t (.inl (by omega)) (by omega)
        have hac := adC_q (Q := Q) (k := k) (t := t) ⟨HQ.out.1.1, by have := HQ.out.1.2; omega⟩ hk hz
        cases hpl : plF 5 (bes Q) (mkB k t).id with
        | some sp =>
          rw [hpl] at hac
          have e1 : adC 65536 (bes Q) k t = 6 := hac
          have e2 : adI 65536 (bes Q) k t = ⟨#[]⟩ := by rw [adI, e1, if_neg (by decide)]
          have e3 : adL 65536 (bes Q) k t = bes Q := by rw [adL, e1, if_neg (by decide)]
          rw [e1, e2, e3] at hadd
          have HAd := hide (hadd.mono fun _ w' ⟨e, hy⟩ => And.intro e (HB.out.add hP4 ha4 hb4 hy))
          clear hadd hac e1 e2 e3 hX4 hP4 ha4 hb4 hpl ht
          go_wp2_with fail
          refine HAd.out.mono ?_
          rintro _ w4 ⟨rfl, h4⟩
          have H4 := hide (HE.out _ h4)
          clear h4
          go_wp2
          exact ⟨H4.out, by simp [Go.RowKit.intOf]; omega⟩
        | none =>
          rw [hpl] at hac
          have e1 : adC 65536 (bes Q) k t = 0 := hac
          have e2 : adI 65536 (bes Q) k t = (mkB k t).id := by rw [adI, e1, if_pos rfl]
          have e3 : adL 65536 (bes Q) k t = bes (Q ++ [(k, t)]) := by rw [adL, e1, if_pos rfl, bes_snoc]
          have hG2 := gl_add (lim := 65536) (L := bes Q) (k := k) (t := t) HQ.out.2
          rw [e3] at hG2
          rw [e1, e2, e3] at hadd
          have HAd := hide (hadd.mono fun _ w' ⟨e, hy⟩ => And.intro e (HB.out.add hP4 ha4 hb4 hy))
          have hQ2 := okQ_snoc HQ.out.1 hk hz
          obtain ⟨I, hI⟩ : ∃ I, (mkB k t).id = I := ⟨_, rfl⟩
          have hw2 := wts_snoc Q k t
          have hi2 := ids_snoc Q k t
          rw [hI] at HAd hi2
          have HC4 : Hid (∀ wx, Below w.heap.size w wx → wx.cell? ⟨g, o + j, none⟩ = some (.string t)) := fun wx hb => by
            obtain ⟨g', o', e, hc'⟩ := HTC.out wx hb j t (by assumption)
            simp only [Option.some.injEq, Addr.mk.injEq] at e
            rw [e.1, e.2.1]
            exact hc'
          have HQ2 := hide (And.intro hQ2 (And.intro hG2 (And.intro hw2 hi2)))
          clear hadd hac e1 e2 e3 hX4 hP4 ha4 hb4 hpl hG2 hQ2 hw2 hi2 hI ht
          go_wp2_with fail
          refine HAd.out.mono ?_
          rintro _ w4 ⟨rfl, h4⟩
          have hc4 := HC4.out w4 h4.be
          obtain ⟨v5, w5, hap5, h5⟩ := h4.app t (by rw [hlw]; have := HQ.out.1.2; rw [← hlw, wts, List.length_map]; omega)
          obtain ⟨v6, w6, hap6, h6⟩ := h5.swap.app I (by rw [hli]; have := HQ.out.1.2; rw [← hli, idsQ, List.length_map]; omega)
          have h7 := h6.swap
          obtain ⟨a5, c5, rfl⟩ := OW.shp h7.la
          obtain ⟨a6, c6, rfl⟩ := OW.shp h7.lb
          have H7 : Hid (∃ (j' : Nat) (Q' : List (Int × ByteArray)), j' ≤ n ∧ j' ≤ 20 ∧ Value.int .i64 ((j : Int) + 1) = .int .i64 (j' : Int) ∧ OkQ Q' j' ∧ GL (bes Q') ∧ BB w b (.slice a5 (wts Q ++ [t]).length c5) (.slice a6 (idsQ Q ++ [I]).length c6) (bes Q') (wts Q') (idsQ Q') w6) := by
            refine ⟨j + 1, Q ++ [(k, t)], by omega, by omega, by simp, HQ2.out.1, HQ2.out.2.1, ?_⟩
            rw [HQ2.out.2.2.1, HQ2.out.2.2.2]
            exact h7
          obtain ⟨l5, hl5⟩ : ∃ l, (wts Q ++ [t]).length = l := ⟨_, rfl⟩
          obtain ⟨l6, hl6⟩ : ∃ l, (idsQ Q ++ [I]).length = l := ⟨_, rfl⟩
          rw [hl5] at hap5 H7
          rw [hl6] at hap6 H7
          clear h4 h5 h6 h7 hl5 hl6
          go_wp2_with (first | (at_builtin; refine Lib.wpList_append_run _ rfl _ _ _ _ rfl _ _ rfl rfl _ _ hap5 ?_) | (at_builtin; refine Lib.wpList_append_run _ rfl _ _ _ _ rfl _ _ rfl rfl _ _ hap6 ?_))
          exact ⟨H7.out, by simp [Go.RowKit.intOf]; omega⟩
    · have hlb := hB.be
      obtain ⟨va, vc, rfl⟩ := OW.shp hB.la
      obtain ⟨ia, ic, rfl⟩ := OW.shp hB.lb
      obtain ⟨P4, hX4, hP4, ha4, hb4⟩ := hB.bx
      have hfin := finish_any hX4 hG HLd.out hB.be hP4
      have hla := hB.la
      have hlb2 := hB.lb
      have HFn : Hid (Calls Tryd.prog 15 #[.pointer (some ⟨b, 0, none⟩)] wr fun e w' => ∃ v, e = .returned (.tuple #[.string (fnS (bes Q)), v]) ∧ OW it6 6 54 w.heap.size v (fnL (bes Q)) w' ∧ OW s1 1 9 w.heap.size (.slice va (wts Q).length vc) (wts Q) w' ∧ OW s1 1 9 w.heap.size (.slice ia (idsQ Q).length ic) (idsQ Q) w' ∧ Below w.heap.size w w') :=
        hfin.mono fun _ w' ⟨v, e, P', N, _, hg, _, _, hN, hO⟩ => ⟨v, e, hO.low (Nat.le_trans hlb.size hN), hla.kb fun i q => hg.block i (hla.lt i q).2 (ha4 i q), hlb2.kb fun i q => hg.block i (hlb2.lt i q).2 (hb4 i q), hg.below hlb hlb.size hP4⟩
      have hlwq : (wts Q).length = Q.length := by rw [wts, List.length_map]
      have hliq : (idsQ Q).length = Q.length := by rw [idsQ, List.length_map]
      have hbq : (bes Q).length = Q.length := by rw [bes, List.length_map]
      rw [hlwq] at HFn ⊢
      rw [hliq] at HFn ⊢
      obtain ⟨q, hq⟩ : ∃ q, Q.length = q := ⟨_, rfl⟩
      rw [hq] at HFn hbq ⊢
      have hq20 : q ≤ 20 := by rw [← hq]; exact Nat.le_trans hQ.2 hj20
      have HG := hide (And.intro hG (And.intro hQ (And.intro hq hbq)))
      clear hX4 hP4 ha4 hb4 hfin hla hlb2 hlwq hliq hbq hB hG hQ hlb
      have hcond : (¬ (j : Int) < (n : Int)) ∨ ((j : Int) < (n : Int) ∧ ¬ (j : Int) < 20) := by omega
      have HJ := hide hj
      clear hlt hj hj20
      rcases hcond with b1 | ⟨b1, b2⟩
      all_goals
        go_wp2_with fail
        refine HFn.out.mono ?_
        rintro _ w4 ⟨v, rfl, hO4, hA4, hB4, hb4⟩
        obtain ⟨a4, c4, rfl⟩ := OW.shp hO4
        by_cases hq0 : q = 0
        · subst hq0
          have e1 : fnS (bes Q) = ⟨#[]⟩ := by rw [fnS, if_pos HG.out.2.2.2]
          have e2 : fnL (bes Q) = [] := by rw [fnL, if_pos HG.out.2.2.2]
          rw [e1, e2]
          have HB4 := hide hb4
          clear hO4 hA4 hB4 hb4 e1 e2
          go_wp2
          go_ret
          exact ⟨rfl, HB4.out⟩
        · have e0 : ¬ (bes Q).length = 0 := by rw [HG.out.2.2.2]; exact hq0
          have e1 : fnS (bes Q) = paT (bes Q) := by rw [fnS, if_neg e0]
          have e2 : fnL (bes Q) = itsB (dgB (paT (bes Q))) 5 (bes Q) := by rw [fnL, if_neg e0]
          obtain ⟨hG1, hG2, hG3, hG4⟩ := HG.out.1
          have hpar := par_ok hG1 hG2 hG3 hG4
          have hpa := parse_any (w := w4) (s := paT (bes Q)) (HLd.out.below hb4 HLd.out.size) (by omega)
          rw [hpar] at hpa
          rw [e1, e2]
          rw [e2] at hO4
          have hml : (itsB (dgB (paT (bes Q))) 5 (bes Q)).length = q := by rw [its_len, HG.out.2.2.2]
          rw [hml]
          rw [hml] at hO4
          have hz15 : 15 ≤ (paT (bes Q)).size := by
            have h1 := paT_size (bes Q)
            have h2 : 1 ≤ (dirB (bes Q)).size := by
              rw [dirB, ba_add, (smB_size _ (by omega)).2]
              have := uvarint_pos (bes Q).length
              omega
            have h3 : 1 ≤ (blbB (bes Q)).size := by
              obtain ⟨y, r, hy⟩ : ∃ y r, bes Q = y :: r := by
                cases hh : bes Q with
                | nil => rw [hh] at e0; exact absurd rfl e0
                | cons y r => exact ⟨y, r, rfl⟩
              have := (hG1 y (by rw [hy]; exact List.mem_cons_self)).2.2.1
              rw [hy, blbB, ba_add]
              omega
            omega
          have hz6 : (paT (bes Q)).size ≤ 8000 := by
            have h1 := paT_size (bes Q)
            obtain ⟨h2, h3⟩ := blb_small HG.out.2.1.1
            have h4 := (smB_size (bes Q).length (by omega)).1
            have h5 : (dirB (bes Q)).size = (smB (bes Q).length).size + (linesB (bes Q)).size := by rw [dirB, ba_add]
            have h6 := HG.out.2.2.1
            omega
          have HI : Hid (∀ (i : Nat) (x : IT), (itsB (dgB (paT (bes Q))) 5 (bes Q))[i]? = some x → ∃ t : ByteArray, (wts Q)[i]? = some t ∧ (idsQ Q)[i]? = some x.id ∧ x.pk = dgB (paT (bes Q)) ∧ ∀ wx, Below w.heap.size w wx → Calls Tryd.prog 18 #[.string (paT (bes Q)), plV x, .string x.id] wx fun e w' => (∃ kk : Int, e = .returned (.tuple #[.int .i64 kk, .string t, .int .i64 0])) ∧ Below wx.heap.size wx w') := fun i y hy => by
            obtain ⟨t, g1, g2, g3, ⟨kk, g4⟩, g5, g6, g7⟩ := item_at HG.out.2.1.1 hG4 hy
            refine ⟨t, g1, g2, g3, fun wx hb => ?_⟩
            have := pblob_any (w := wx) (s := paT (bes Q)) (i := y.id) y (HLd.out.below hb HLd.out.size) (by omega) g5 g6 g7
            rw [g4] at this
            exact this.mono fun _ _ ⟨e, h⟩ => ⟨⟨kk, e⟩, h⟩
          have HSu : Hid (∀ (v : Value) (wx : World), Below w.heap.size w wx → Zq.Sh.Pieces wx v [paT (bes Q)] → Calls Tryd.prog 19 #[v] wx fun e w' => e = .returned (.string (dgB (paT (bes Q)))) ∧ Below wx.heap.size wx w') := fun v wx h hp => sum_one (HLd.out.below h HLd.out.size) hp (by omega)
          have hwl : (wts Q).length = q := by rw [wts, List.length_map, HG.out.2.2.1]
          have hil : (idsQ Q).length = q := by rw [idsQ, List.length_map, HG.out.2.2.1]
          obtain ⟨S, hS⟩ : ∃ S, paT (bes Q) = S := ⟨_, rfl⟩
          rw [hS] at hpa HI HSu hz15 hz6 hO4 hml ⊢
          obtain ⟨G, hGG⟩ : ∃ G, dgB S = G := ⟨_, rfl⟩
          rw [hGG] at hpa HI HSu hO4 hml
          obtain ⟨M, hM⟩ : ∃ M, itsB G 5 (bes Q) = M := ⟨_, rfl⟩
          rw [hM] at hpa HI hO4 hml
          obtain ⟨W, hW⟩ : ∃ W, wts Q = W := ⟨_, rfl⟩
          rw [hW] at HI hA4 hwl
          obtain ⟨I, hII⟩ : ∃ I, idsQ Q = I := ⟨_, rfl⟩
          rw [hII] at HI hB4 hil
          have hpa' : Calls Tryd.prog 16 #[.string S] w4 fun e w' => ∃ v, e = .returned (.tuple #[v, .int .i64 0]) ∧ OW it6 6 54 w4.heap.size v M w' ∧ Below w4.heap.size w4 w' := hpa
          have HPa := hide hpa'
          have HO4 := hide (And.intro hO4 (And.intro hA4 (And.intro hB4 hb4)))
          have HZ := hide (And.intro hz15 hz6)
          have HML := hide (And.intro hml (And.intro hwl hil))
          clear hpa hpa' hO4 hA4 hB4 hb4 hz15 hz6 hml hwl hil e0 e1 e2 hG1 hG2 hG3 hG4 hpar hS hGG hM hW hII HG HFn
          have hq1 : ((q : Int) == 0) = false := by simpa using hq0
          go_wp2_with fail
          refine HPa.out.mono ?_
          rintro _ w5 ⟨v2, rfl, hO5, hb5⟩
          obtain ⟨a5, c5, rfl⟩ := OW.shp hO5
          rw [HML.out.1] at hO5 ⊢
          have HSm := hide (items_same (hO5.ls (r := fun _ => True) it6_len (fun _ _ => trivial)) ((HO4.out.1.keep hb5).ls (r := fun _ => True) it6_len (fun _ _ => trivial)) (by rw [HML.out.1]; omega))
          have HO5 := hide (And.intro hO5 (And.intro (HO4.out.2.1.keep hb5) (And.intro (HO4.out.2.2.1.keep hb5) (below_step HO4.out.2.2.2 hb5))))
          clear hO5 hb5
          go_wp2_with fail
          refine HSm.out.mono ?_
          rintro _ w6 ⟨rfl, hb6⟩
          have HO6 := hide (And.intro (HO5.out.1.keep hb6) (And.intro (HO5.out.2.1.keep hb6) (And.intro (HO5.out.2.2.1.keep hb6) (below_step HO5.out.2.2.2 hb6))))
          clear hb6
          go_wp2
          go_loopw [117] (fun ix wr => ∃ j2 : Nat, j2 ≤ q ∧ ix = .int .i64 (j2 : Int) ∧ Below w6.heap.size w6 wr) (fun ix _ => q - (Go.RowKit.intOf ix).toNat)
          case atStart => exact ⟨0, Nat.zero_le _, rfl, Below.refl _ _⟩
          case round =>
            obtain ⟨j2, hj2, rfl, hb⟩ := hrel
            by_cases hlt : j2 < q
            · have b1 : (j2 : Int) < (q : Int) := by omega
              have b0 : (0 : Int) ≤ (j2 : Int) := by omega
              obtain ⟨y, hy⟩ : ∃ y, M[j2]? = some y := ⟨_, List.getElem?_eq_getElem (by rw [HML.out.1]; exact hlt)⟩
              obtain ⟨t, i1, i2, i3, i4⟩ := HI.out j2 y hy
              obtain ⟨g5, o5, rfl, hc5⟩ := it6_cells HO6.out.1 hy
              obtain ⟨gw, ow, rfl, hcw⟩ := s1_cells HO6.out.2.1 i1
              obtain ⟨gi, oi, rfl, hci⟩ := s1_cells HO6.out.2.2.1 i2
              obtain ⟨k0, k1, k2, k3, k4, k5⟩ := hc5 wr hb
              obtain ⟨y0, y1, y2, y3, y4, y5⟩ := y
              dsimp only at k0 k1 k2 k3 k4 k5 i2 i3 i4
              subst i3
              rw [plV] at i4
              dsimp only at i4
              have HB7 := hide (below_step HO6.out.2.2.2 hb)
              have HBr := hide hb
              have HBl := hide i4
              have HCW := hide hcw
              have HCI := hide hci
              clear hy i1 i2 i4 hc5 hcw hci hb
              obtain ⟨gx, hgx⟩ : ∃ gx, wr.heap.size = gx := ⟨_, rfl⟩
              obtain ⟨W7, hW7⟩ : ∃ W7, wr.alloc (.cells #[.string y0, .string y1, .int .i64 y2, .int .i64 y3, .int .i64 y4, .int .i64 y5] 54) = W7 := ⟨_, rfl⟩
              have H7 : Hid (Below w6.heap.size w6 W7 ∧ Below w.heap.size w W7 ∧ W7.heap[gx]? = some (.cells #[.string y0, .string y1, .int .i64 y2, .int .i64 y3, .int .i64 y4, .int .i64 y5] 54 (0, 0))) := by
                rw [← hW7, ← hgx]
                exact ⟨below_al HBr.out _, below_al HB7.out _, heap_alloc_new wr _⟩
              have HGX := hide hgx
              have HW7 := hide hW7
              clear hgx hW7
              go_wp2_with fail
              rw [HW7.out, HGX.out]
              refine (HBl.out W7 H7.out.2.1).mono ?_
              rintro _ w8 ⟨⟨kk, rfl⟩, hb⟩
              have HB8 := hide (And.intro (below_step H7.out.1 hb) (below_step H7.out.2.1 hb))
              have HX8 : Hid (∀ wx, Below w8.heap.size w8 wx → wx.cell? ⟨gw, ow + j2, none⟩ = some (.string t) ∧ wx.cell? ⟨gi, oi + j2, none⟩ = some (.string y0) ∧ wx.cell? ⟨gx, 0, none⟩ = some (.string y0) ∧ wx.cell? ⟨gx, 1, none⟩ = some (.string y1)) := fun wx h => by
                have h1 := below_step HB8.out.1 h
                have h2 : wx.heap[gx]? = some (.cells #[.string y0, .string y1, .int .i64 y2, .int .i64 y3, .int .i64 y4, .int .i64 y5] 54 (0, 0)) := ((below_step hb h).block gx (lt_of_block H7.out.2.2)).trans H7.out.2.2
                exact ⟨HCW.out wx h1, HCI.out wx h1, by simp [World.cell?, h2], by simp [World.cell?, h2]⟩
              have S1 := hide (HX8.out w8.drew (Below.refl _ _).drew)
              have S2 := hide (HX8.out (w8.drew.alloc (.cells #[.string S] 9)) (below_al (Below.refl _ _).drew _))
              have HS8 := hide (HSu.out _ _ (below_step HB8.out.2 (below_al (Below.refl _ _).drew (.cells #[.string S] 9))) (pieces_one w8.drew S 9 (n := w8.heap.size) rfl))
              clear hb
              go_upto_region 24 with fail
              refine wp_region_noPanic ?_
              refine wp_region_held_drew (S := fun wx => wx.cell? ⟨gw, ow + j2, none⟩ = some (.string t) ∧ wx.cell? ⟨gi, oi + j2, none⟩ = some (.string y0) ∧ wx.cell? ⟨gx, 0, none⟩ = some (.string y0) ∧ wx.cell? ⟨gx, 1, none⟩ = some (.string y1)) (by kernel_rfl) S1.out (fun hHeld => ?_)
              refine take_at (i := 0) (d := 132) (v := .int .i64 0) rfl rfl (by kernel_rfl) (by kernel_rfl) (by kernel_rfl) (fun _ _ _ h => h) (Or.inl ⟨by rfl, fun w' hSw => ?_⟩) hHeld ?_
              · obtain ⟨_, _, _, _⟩ := hSw
                go_simp
              try simp only [List.setIfInBounds_toArray, List.set_cons_zero, List.set_cons_succ]
              refine take_at (i := 1) (d := 133) (v := .bool false) rfl rfl (by kernel_rfl) (by kernel_rfl) (by kernel_rfl) (fun _ _ _ h => h) (Or.inl ⟨by rfl, fun w' hSw => ?_⟩) hHeld ?_
              · obtain ⟨_, _, _, _⟩ := hSw
                go_simp
              try simp only [List.setIfInBounds_toArray, List.set_cons_zero, List.set_cons_succ]
              refine take_at (i := 2) (d := 134) (v := .bool false) rfl rfl (by kernel_rfl) (by kernel_rfl) (by kernel_rfl) (fun _ _ _ h => h) (Or.inl ⟨by rfl, fun w' hSw => ?_⟩) hHeld ?_
              · obtain ⟨_, _, _, _⟩ := hSw
                go_simp
              try simp only [List.setIfInBounds_toArray, List.set_cons_zero, List.set_cons_succ]
              refine take_at (i := 3) (d := 135) (v := .string t) rfl rfl (by kernel_rfl) (by kernel_rfl) (by kernel_rfl) (fun _ _ _ h => h) (Or.inl ⟨by rfl, fun w' hSw => ?_⟩) hHeld ?_
              · obtain ⟨_, _, _, _⟩ := hSw
                go_simp
              try simp only [List.setIfInBounds_toArray, List.set_cons_zero, List.set_cons_succ]
              refine take_at (i := 4) (d := 136) (v := .slice (some ⟨gw, ow, none⟩) q vc) rfl rfl (by kernel_rfl) (by kernel_rfl) (by kernel_rfl) (fun _ _ _ h => h) (Or.inl ⟨by rfl, fun w' hSw => ?_⟩) hHeld ?_
              · obtain ⟨_, _, _, _⟩ := hSw
                go_simp
              try simp only [List.setIfInBounds_toArray, List.set_cons_zero, List.set_cons_succ]
              refine take_at (i := 5) (d := 137) (v := .int .i64 (j2 : Int)) rfl rfl (by kernel_rfl) (by kernel_rfl) (by kernel_rfl) (fun _ _ _ h => h) (Or.inl ⟨by rfl, fun w' hSw => ?_⟩) hHeld ?_
              · obtain ⟨_, _, _, _⟩ := hSw
                go_simp
              try simp only [List.setIfInBounds_toArray, List.set_cons_zero, List.set_cons_succ]
              refine take_at (i := 6) (d := 138) (v := .pointer (some ⟨gw, ow + j2, none⟩)) rfl rfl (by kernel_rfl) (by kernel_rfl) (by kernel_rfl) (fun _ _ _ h => h) (Or.inl ⟨by rfl, fun w' hSw => ?_⟩) hHeld ?_
              · obtain ⟨_, _, _, _⟩ := hSw
                go_simp
              try simp only [List.setIfInBounds_toArray, List.set_cons_zero, List.set_cons_succ]
              refine take_at (i := 7) (d := 139) (v := .string t) rfl rfl (by kernel_rfl) (by kernel_rfl) (by kernel_rfl) (fun _ _ _ h => h) (Or.inl ⟨by rfl, fun w' hSw => ?_⟩) hHeld ?_
              · obtain ⟨_, _, _, _⟩ := hSw
                go_simp
              try simp only [List.setIfInBounds_toArray, List.set_cons_zero, List.set_cons_succ]
              refine take_at (i := 8) (d := 140) (v := .bool false) rfl rfl (by kernel_rfl) (by kernel_rfl) (by kernel_rfl) (fun _ _ _ h => h) (Or.inl ⟨by rfl, fun w' hSw => ?_⟩) hHeld ?_
              · obtain ⟨_, _, _, _⟩ := hSw
                go_simp
              try simp only [List.setIfInBounds_toArray, List.set_cons_zero, List.set_cons_succ]
              refine take_at (i := 9) (d := 141) (v := .bool false) rfl rfl (by kernel_rfl) (by kernel_rfl) (by kernel_rfl) (fun _ _ _ h => h) (Or.inl ⟨by rfl, fun w' hSw => ?_⟩) hHeld ?_
              · obtain ⟨_, _, _, _⟩ := hSw
                go_simp
              try simp only [List.setIfInBounds_toArray, List.set_cons_zero, List.set_cons_succ]
              refine take_at (i := 10) (d := 142) (v := .bool false) rfl rfl (by kernel_rfl) (by kernel_rfl) (by kernel_rfl) (fun _ _ _ h => h) (Or.inl ⟨by rfl, fun w' hSw => ?_⟩) hHeld ?_
              · obtain ⟨_, _, _, _⟩ := hSw
                go_simp
              try simp only [List.setIfInBounds_toArray, List.set_cons_zero, List.set_cons_succ]
              refine take_at (i := 11) (d := 143) (v := .pointer (some ⟨gx, 0, none⟩)) rfl rfl (by kernel_rfl) (by kernel_rfl) (by kernel_rfl) (fun _ _ _ h => h) (Or.inl ⟨by rfl, fun w' hSw => ?_⟩) hHeld ?_
              · obtain ⟨_, _, _, _⟩ := hSw
                go_simp
              try simp only [List.setIfInBounds_toArray, List.set_cons_zero, List.set_cons_succ]
              refine take_at (i := 12) (d := 144) (v := .string y0) rfl rfl (by kernel_rfl) (by kernel_rfl) (by kernel_rfl) (fun _ _ _ h => h) (Or.inl ⟨by rfl, fun w' hSw => ?_⟩) hHeld ?_
              · obtain ⟨_, _, _, _⟩ := hSw
                go_simp
              try simp only [List.setIfInBounds_toArray, List.set_cons_zero, List.set_cons_succ]
              refine take_at (i := 13) (d := 145) (v := .slice (some ⟨gi, oi, none⟩) q ic) rfl rfl (by kernel_rfl) (by kernel_rfl) (by kernel_rfl) (fun _ _ _ h => h) (Or.inl ⟨by rfl, fun w' hSw => ?_⟩) hHeld ?_
              · obtain ⟨_, _, _, _⟩ := hSw
                go_simp
              try simp only [List.setIfInBounds_toArray, List.set_cons_zero, List.set_cons_succ]
              refine take_at (i := 14) (d := 146) (v := .int .i64 (j2 : Int)) rfl rfl (by kernel_rfl) (by kernel_rfl) (by kernel_rfl) (fun _ _ _ h => h) (Or.inl ⟨by rfl, fun w' hSw => ?_⟩) hHeld ?_
              · obtain ⟨_, _, _, _⟩ := hSw
                go_simp
              try simp only [List.setIfInBounds_toArray, List.set_cons_zero, List.set_cons_succ]
              refine take_at (i := 15) (d := 147) (v := .pointer (some ⟨gi, oi + j2, none⟩)) rfl rfl (by kernel_rfl) (by kernel_rfl) (by kernel_rfl) (fun _ _ _ h => h) (Or.inl ⟨by rfl, fun w' hSw => ?_⟩) hHeld ?_
              · obtain ⟨_, _, _, _⟩ := hSw
                go_simp
              try simp only [List.setIfInBounds_toArray, List.set_cons_zero, List.set_cons_succ]
              refine take_at (i := 16) (d := 148) (v := .string y0) rfl rfl (by kernel_rfl) (by kernel_rfl) (by kernel_rfl) (fun _ _ _ h => h) (Or.inl ⟨by rfl, fun w' hSw => ?_⟩) hHeld ?_
              · obtain ⟨_, _, _, _⟩ := hSw
                go_simp
              try simp only [List.setIfInBounds_toArray, List.set_cons_zero, List.set_cons_succ]
              refine take_at (i := 17) (d := 149) (v := .bool false) rfl rfl (by kernel_rfl) (by kernel_rfl) (by kernel_rfl) (fun _ _ _ h => h) (Or.inl ⟨by rfl, fun w' hSw => ?_⟩) hHeld ?_
              · obtain ⟨_, _, _, _⟩ := hSw
                go_simp
              try simp only [List.setIfInBounds_toArray, List.set_cons_zero, List.set_cons_succ]
              refine take_at (i := 18) (d := 150) (v := .bool false) rfl rfl (by kernel_rfl) (by kernel_rfl) (by kernel_rfl) (fun _ _ _ h => h) (Or.inl ⟨by rfl, fun w' hSw => ?_⟩) hHeld ?_
              · obtain ⟨_, _, _, _⟩ := hSw
                go_simp
              try simp only [List.setIfInBounds_toArray, List.set_cons_zero, List.set_cons_succ]
              refine take_at (i := 19) (d := 151) (v := .bool false) rfl rfl (by kernel_rfl) (by kernel_rfl) (by kernel_rfl) (fun _ _ _ h => h) (Or.inl ⟨by rfl, fun w' hSw => ?_⟩) hHeld ?_
              · obtain ⟨_, _, _, _⟩ := hSw
                go_simp
              try simp only [List.setIfInBounds_toArray, List.set_cons_zero, List.set_cons_succ]
              refine take_at (i := 20) (d := 152) (v := .pointer (some ⟨gx, 1, none⟩)) rfl rfl (by kernel_rfl) (by kernel_rfl) (by kernel_rfl) (fun _ _ _ h => h) (Or.inl ⟨by rfl, fun w' hSw => ?_⟩) hHeld ?_
              · obtain ⟨_, _, _, _⟩ := hSw
                go_simp
              try simp only [List.setIfInBounds_toArray, List.set_cons_zero, List.set_cons_succ]
              refine take_at (i := 21) (d := 153) (v := .pointer (some ⟨gx, 1, none⟩)) rfl rfl (by kernel_rfl) (by kernel_rfl) (by kernel_rfl) (fun _ _ _ h => h) (Or.inl ⟨by rfl, fun w' hSw => ?_⟩) hHeld ?_
              · obtain ⟨_, _, _, _⟩ := hSw
                go_simp
              try simp only [List.setIfInBounds_toArray, List.set_cons_zero, List.set_cons_succ]
              refine take_at (i := 22) (d := 154) (v := .string y1) rfl rfl (by kernel_rfl) (by kernel_rfl) (by kernel_rfl) (fun _ _ _ h => h) (Or.inl ⟨by rfl, fun w' hSw => ?_⟩) hHeld ?_
              · obtain ⟨_, _, _, _⟩ := hSw
                go_simp
              try simp only [List.setIfInBounds_toArray, List.set_cons_zero, List.set_cons_succ]
              refine take_at (i := 23) (d := 155) (v := .string S) rfl rfl (by kernel_rfl) (by kernel_rfl) (by kernel_rfl) (fun _ _ _ h => h) (Or.inl ⟨by rfl, fun w' hSw => ?_⟩) hHeld ?_
              · obtain ⟨_, _, _, _⟩ := hSw
                go_simp
              try simp only [List.setIfInBounds_toArray, List.set_cons_zero, List.set_cons_succ]
              refine wpAnyH_ready (rs := [24]) (by kernel_rfl) (by simp) ?_
              refine AllReadyH.cons rfl (fun K hK => ?_) AllReadyH.nil
              go_simp
              refine hK.out _ _ S2.out (fun hHeld => ?_)
              clear hK K
              try simp only [Act.put, List.setIfInBounds_toArray, List.set_cons_zero, List.set_cons_succ]
              refine wpAnyH_ready (rs := [25]) (by kernel_rfl) (by simp) ?_
              refine AllReadyH.cons rfl (fun K hK => ?_) AllReadyH.nil
              go_simp
              refine HS8.out.mono ?_
              rintro _ wa ⟨rfl, hb⟩
              have HBa := hide (And.intro (below_step HB8.out.1 (below_step (below_al (Below.refl _ _).drew (.cells #[.string S] 9)) hb)) (HX8.out wa (below_step (below_al (Below.refl _ _).drew (.cells #[.string S] 9)) hb)))
              clear hb
              go_simp
              refine hK.out _ _ HBa.out.2 (fun hHeld => ?_)
              clear hK K
              try simp only [Act.put, List.setIfInBounds_toArray, List.set_cons_zero, List.set_cons_succ]
              refine take_at (i := 26) (d := 158) (v := .bool false) rfl rfl (by kernel_rfl) (by kernel_rfl) (by kernel_rfl) (fun _ _ _ h => h) (Or.inl ⟨by rfl, fun w' hSw => ?_⟩) hHeld ?_
              · obtain ⟨_, _, _, _⟩ := hSw
                go_simp
              try simp only [List.setIfInBounds_toArray, List.set_cons_zero, List.set_cons_succ]
              refine take_at (i := 27) (d := 159) (v := .bool false) rfl rfl (by kernel_rfl) (by kernel_rfl) (by kernel_rfl) (fun _ _ _ h => h) (Or.inl ⟨by rfl, fun w' hSw => ?_⟩) hHeld ?_
              · obtain ⟨_, _, _, _⟩ := hSw
                go_simp
              try simp only [List.setIfInBounds_toArray, List.set_cons_zero, List.set_cons_succ]
              refine wpAnyH_done (by kernel_rfl) ?_ _
              refine NoPanic.normal ?_
              go_wp2
              exact ⟨⟨j2 + 1, by omega, by simp, HBa.out.1⟩, by simp [Go.RowKit.intOf]; omega⟩
            · have b1 : ¬ (j2 : Int) < (q : Int) := by omega
              have HB7 := hide (below_step HO6.out.2.2.2 hb)
              obtain ⟨cap, w9, hcv, hbr, hb9⟩ := Zq.Sh.bytes_new wr S.data.toList
              rw [stL, li_size] at hcv
              obtain ⟨gb, hgb⟩ : ∃ g, wr.heap.size = g := ⟨_, rfl⟩
              rw [hgb] at hcv hbr
              have HGB := hide hgb
              have HB9 := hide (below_step HB7.out hb9)
              obtain ⟨sz, hsz⟩ : ∃ n, S.size = n := ⟨_, rfl⟩
              have hzz := HZ.out
              rw [hsz] at hcv hzz
              have hmul : IntKind.i64.wrap (8 * (sz : Int)) = ((8 * sz : Nat) : Int) := by rw [IntKind.wrap_i64]; omega
              obtain ⟨k, hk⟩ : ∃ k, amg x (8 * sz) = k := ⟨_, rfl⟩
              have hk8 : k < 8 * sz := by rw [← hk]; exact (amg_spec x (8 * sz) (by omega)).2.1
              have HA := hide (fun wx => among_any wx x (8 * sz) (by omega) (by omega))
              rw [hk, show ((8 * sz : Nat) : Int) = 8 * (sz : Int) by omega] at HA
              have HBR := hide hbr
              have HSZ := hide hsz
              clear hb hb9 hbr hgb hsz hk hlt hj2
              go_wp2_with fail
              refine (HA.out _).mono ?_
              rintro _ wz ⟨rfl, hz2⟩
              rw [hz2]
              clear hz2 wz
              have hlen : S.data.toList.length = sz := by rw [li_size, HSZ.out]
              have t1 : (k : Int).tdiv 8 = ((k / 8 : Nat) : Int) := by rw [Int.tdiv_eq_ediv_of_nonneg (by omega)]; rfl
              have t2 : (k : Int).tmod 8 = ((k % 8 : Nat) : Int) := by rw [Int.tmod_eq_emod_of_nonneg (by omega)]; rfl
              have hd1 : k / 8 < sz := by omega
              have hm1 : k % 8 < 8 := Nat.mod_lt _ (by decide)
              obtain ⟨kd, hkd⟩ : ∃ d, k / 8 = d := ⟨_, rfl⟩
              obtain ⟨km, hkm⟩ : ∃ d, k % 8 = d := ⟨_, rfl⟩
              rw [hkd] at t1 hd1
              rw [hkm] at t2 hm1
              clear hkd hkm
              have hdl : kd < S.data.toList.length := by rw [hlen]; exact hd1
              have cb := HBR.out.cell kd hdl
              have fb := HBR.out.free kd hdl
              obtain ⟨c0, hc0⟩ : ∃ c : UInt8, S.data.toList[kd] = c := ⟨_, rfl⟩
              rw [hc0] at cb
              have t3 : IntKind.i64.wrap (kd : Int) = (kd : Int) := by rw [IntKind.wrap_i64]; omega
              have t4 : IntKind.i64.wrap (km : Int) = (km : Int) := by rw [IntKind.wrap_i64]; omega
              have b2 : (kd : Int) < (sz : Int) := by omega
              have b3 : (0 : Int) ≤ (kd : Int) := by omega
              have b4 : (0 : Int) ≤ (km : Int) := by omega
              have cb2 : w9.drew.cell? ⟨gb, kd, none⟩ = some (.int .u8 (c0.toNat : Nat)) := cb
              have fb2 : w9.drew.frozen? ⟨gb, kd, none⟩ = false := fb
              go_upto_region 29 with fail
              go_region
              obtain ⟨d, hd⟩ := xor_bit c0 hm1
              rw [← hd]
              have hbr2 := HBR.out.set kd d hdl
              obtain ⟨S2, hS2⟩ : ∃ s, Zq.Sh.strOf (S.data.toList.set kd d) = s := ⟨_, rfl⟩
              have hz2 : S2.size = sz := by rw [← hS2, Zq.Sh.strOf_size, List.length_set, hlen]
              obtain ⟨W10, hW10⟩ : ∃ W, (w9.setCell ⟨gb, kd, none⟩ (.int .u8 (d.toNat : Nat))).drew = W := ⟨_, rfl⟩
              have HB10 : Hid (Below w.heap.size w W10) := by
                rw [← hW10]
                exact (Zq.Sh.below_gb HB9.out (Zq.Nm.gb_set w9 gb kd _) (by rw [← HGB.out]; exact HB7.out.size) HB9.out.size).drew
              have hbr3 : Zq.Sh.BRow W10 gb (S.data.toList.set kd d) := by rw [← hW10]; exact hbr2
              have HST : Hid (∀ wy, Below W10.heap.size W10 wy → (convert 58 9 (.slice (some ⟨gb, 0, none⟩) sz cap)).run Tryd.prog wy = .ok (.string S2) wy) := fun wy hb => by
                have h3 := (hbr3.below hb hbr3.lt).str cap
                rw [List.length_set, hlen, hS2] at h3
                exact h3
              rw [hW10]
              have hs10 := HST.out W10 (Below.refl _ _)
              have HPa2 := hide (parse_any (w := W10) (s := S2) (HLd.out.below HB10.out HLd.out.size) (by omega))
              have HSu2 : Hid (∀ (v : Value) (wx : World), Below w.heap.size w wx → Zq.Sh.Pieces wx v [S2] → Calls Tryd.prog 19 #[v] wx fun e w' => e = .returned (.string (dgB S2)) ∧ Below wx.heap.size wx w') := fun v wx h hp => sum_one (HLd.out.below h HLd.out.size) hp (by omega)
              have HNil := hide (fun h => par_nil (s := S2) h)
              have HPk := hide (fun M h => par_pk (s := S2) (M := M) h)
              have HZ2 := hide hz2
              clear hd hbr2 hS2 hz2 hW10 hbr3 cb fb cb2 fb2 hc0 hdl hlen hcv
              rcases hp2 : parP S2 with _ | M2
              · rw [hp2] at HPa2
                have HPa3 : Hid (Calls Tryd.prog 16 #[.string S2] W10 fun e w' => ∃ v, e = .returned (.tuple #[v, .int .i64 140]) ∧ OW it6 6 54 W10.heap.size v [] w' ∧ Below W10.heap.size W10 w') := HPa2
                clear HPa2 HNil HPk HSu2 hp2
                go_wp2_with fail
                refine HPa3.out.mono ?_
                rintro _ w11 ⟨v3, rfl, hO, hb⟩
                obtain ⟨a3, c3, rfl⟩ := OW.shp hO
                have HB11 := hide (below_step HB10.out hb)
                clear hO hb
                go_wp2
                go_ret
                exact ⟨rfl, HB11.out⟩
              · rw [hp2] at HPa2
                have HPa3 : Hid (Calls Tryd.prog 16 #[.string S2] W10 fun e w' => ∃ v, e = .returned (.tuple #[v, .int .i64 0]) ∧ OW it6 6 54 W10.heap.size v M2 w' ∧ Below W10.heap.size W10 w') := HPa2
                obtain ⟨y, r, hM2⟩ : ∃ y r, M2 = y :: r := by
                  cases M2 with
                  | nil => have := HNil.out hp2; have := HZ2.out; omega
                  | cons y r => exact ⟨y, r, rfl⟩
                have hyp : y.pk = dgB S2 := HPk.out _ hp2 y (by rw [hM2]; exact List.mem_cons_self)
                subst hM2
                have hy0 : (y :: r)[0]? = some y := rfl
                obtain ⟨ml, hml⟩ : ∃ n, (y :: r).length = n := ⟨_, rfl⟩
                have hml1 : 0 < ml := by rw [← hml]; exact Nat.zero_lt_succ _
                obtain ⟨G2, hG2⟩ : ∃ G, dgB S2 = G := ⟨_, rfl⟩
                rw [hG2] at hyp HSu2
                have HY0 := hide hy0
                have HML2 := hide hml
                clear HPa2 HNil HPk hp2 hG2 hy0 hml
                go_wp2_with fail
                refine HPa3.out.mono ?_
                rintro _ w11 ⟨v3, rfl, hO, hb⟩
                obtain ⟨a3, c3, rfl⟩ := OW.shp hO
                rw [HML2.out] at hO ⊢
                obtain ⟨g3, o3, rfl, hc3⟩ := it6_cells hO HY0.out
                have HB11 := hide (below_step HB10.out hb)
                have HST3 := hide (fun wy hy => HST.out wy (below_step hb hy))
                have HC3 : Hid (∀ wx, Below w11.heap.size w11 wx → wx.cell? ⟨g3, o3 + 1, none⟩ = some (.string G2)) := fun wx h => by
                  have := (hc3 wx h).2.1
                  rw [hyp, Nat.zero_mul, Nat.add_zero] at this
                  exact this
                have m1 : (0 : Int) < (ml : Int) := by omega
                clear hO hb hc3 hyp
                go_upto_region 33 with fail
                have HX := hide (fun wx (h : Below w11.heap.size w11 wx) => And.intro (HC3.out wx h) (HST3.out wx h))
                have S1 := hide (HX.out w11.drew (Below.refl _ _).drew)
                have S2' := hide (HX.out (w11.drew.alloc (.cells #[.string S2] 9)) (below_al (Below.refl _ _).drew _))
                have HS8 := hide (HSu2.out _ _ (below_step HB11.out (below_al (Below.refl _ _).drew (.cells #[.string S2] 9))) (pieces_one w11.drew S2 9 (n := w11.heap.size) rfl))
                refine wp_region_noPanic ?_
                refine wp_region_held_drew (S := fun wx => wx.cell? ⟨g3, o3 + 1, none⟩ = some (.string G2) ∧ (convert 58 9 (.slice (some ⟨gb, 0, none⟩) sz cap)).run Tryd.prog wx = .ok (.string S2) wx) (by kernel_rfl) S1.out (fun hHeld => ?_)
                refine take_at (i := 0) (d := 193) (v := .slice (some ⟨g3, o3, none⟩) ml c3) rfl rfl (by kernel_rfl) (by kernel_rfl) (by kernel_rfl) (fun _ _ _ h => h) (Or.inl ⟨by rfl, fun w' hSw => ?_⟩) hHeld ?_
                · obtain ⟨_, _⟩ := hSw
                  go_simp
                try simp only [List.setIfInBounds_toArray, List.set_cons_zero, List.set_cons_succ]
                refine take_at (i := 1) (d := 194) (v := .int .i64 (ml : Int)) rfl rfl (by kernel_rfl) (by kernel_rfl) (by kernel_rfl) (fun _ _ _ h => h) (Or.inl ⟨by rfl, fun w' hSw => ?_⟩) hHeld ?_
                · obtain ⟨_, _⟩ := hSw
                  go_simp
                try simp only [List.setIfInBounds_toArray, List.set_cons_zero, List.set_cons_succ]
                refine take_at (i := 2) (d := 195) (v := .bool true) rfl rfl (by kernel_rfl) (by kernel_rfl) (by kernel_rfl) (fun _ _ _ h => h) (Or.inl ⟨by rfl, fun w' hSw => ?_⟩) hHeld ?_
                · obtain ⟨_, _⟩ := hSw
                  go_simp
                try simp only [List.setIfInBounds_toArray, List.set_cons_zero, List.set_cons_succ]
                refine take_at (i := 3) (d := 196) (v := .bool true) rfl rfl (by kernel_rfl) (by kernel_rfl) (by kernel_rfl) (fun _ _ _ h => h) (Or.inl ⟨by rfl, fun w' hSw => ?_⟩) hHeld ?_
                · obtain ⟨_, _⟩ := hSw
                  go_simp
                try simp only [List.setIfInBounds_toArray, List.set_cons_zero, List.set_cons_succ]
                refine take_at (i := 4) (d := 197) (v := .slice (some ⟨g3, o3, none⟩) ml c3) rfl rfl (by kernel_rfl) (by kernel_rfl) (by kernel_rfl) (fun _ _ _ h => h) (Or.inl ⟨by rfl, fun w' hSw => ?_⟩) hHeld ?_
                · obtain ⟨_, _⟩ := hSw
                  go_simp
                try simp only [List.setIfInBounds_toArray, List.set_cons_zero, List.set_cons_succ]
                refine take_at (i := 5) (d := 198) (v := .pointer (some ⟨g3, o3, none⟩)) rfl rfl (by kernel_rfl) (by kernel_rfl) (by kernel_rfl) (fun _ _ _ h => h) (Or.inl ⟨by rfl, fun w' hSw => ?_⟩) hHeld ?_
                · obtain ⟨_, _⟩ := hSw
                  go_simp
                try simp only [List.setIfInBounds_toArray, List.set_cons_zero, List.set_cons_succ]
                refine take_at (i := 6) (d := 199) (v := .pointer (some ⟨g3, o3 + 1, none⟩)) rfl rfl (by kernel_rfl) (by kernel_rfl) (by kernel_rfl) (fun _ _ _ h => h) (Or.inl ⟨by rfl, fun w' hSw => ?_⟩) hHeld ?_
                · obtain ⟨_, _⟩ := hSw
                  go_simp
                try simp only [List.setIfInBounds_toArray, List.set_cons_zero, List.set_cons_succ]
                refine take_at (i := 7) (d := 200) (v := .pointer (some ⟨g3, o3 + 1, none⟩)) rfl rfl (by kernel_rfl) (by kernel_rfl) (by kernel_rfl) (fun _ _ _ h => h) (Or.inl ⟨by rfl, fun w' hSw => ?_⟩) hHeld ?_
                · obtain ⟨_, _⟩ := hSw
                  go_simp
                try simp only [List.setIfInBounds_toArray, List.set_cons_zero, List.set_cons_succ]
                refine take_at (i := 8) (d := 201) (v := .string G2) rfl rfl (by kernel_rfl) (by kernel_rfl) (by kernel_rfl) (fun _ _ _ h => h) (Or.inl ⟨by rfl, fun w' hSw => ?_⟩) hHeld ?_
                · obtain ⟨_, _⟩ := hSw
                  go_simp
                try simp only [List.setIfInBounds_toArray, List.set_cons_zero, List.set_cons_succ]
                refine take_at (i := 9) (d := 202) (v := .slice (some ⟨gb, 0, none⟩) sz cap) rfl rfl (by kernel_rfl) (by kernel_rfl) (by kernel_rfl) (fun _ _ _ h => h) (Or.inl ⟨by rfl, fun w' hSw => ?_⟩) hHeld ?_
                · obtain ⟨_, _⟩ := hSw
                  go_simp
                try simp only [List.setIfInBounds_toArray, List.set_cons_zero, List.set_cons_succ]
                refine take_at (i := 10) (d := 203) (v := .string S2) rfl rfl (by kernel_rfl) (by kernel_rfl) (by kernel_rfl) (fun _ _ _ h => h) (Or.inl ⟨by rfl, fun w' hSw => ?_⟩) hHeld ?_
                · obtain ⟨_, _⟩ := hSw
                  go_simp
                try simp only [List.setIfInBounds_toArray, List.set_cons_zero, List.set_cons_succ]
                refine wpAnyH_ready (rs := [11]) (by kernel_rfl) (by simp) ?_
                refine AllReadyH.cons rfl (fun K hK => ?_) AllReadyH.nil
                go_simp
                refine hK.out _ _ S2'.out (fun hHeld => ?_)
                clear hK K
                try simp only [Act.put, List.setIfInBounds_toArray, List.set_cons_zero, List.set_cons_succ]
                refine wpAnyH_ready (rs := [12]) (by kernel_rfl) (by simp) ?_
                refine AllReadyH.cons rfl (fun K hK => ?_) AllReadyH.nil
                go_simp
                refine HS8.out.mono ?_
                rintro _ wa ⟨rfl, hb⟩
                have hb2 := below_step (below_al (Below.refl _ _).drew (.cells #[.string S2] 9)) hb
                have HBa := hide (And.intro (below_step HB11.out hb2) (HX.out wa hb2))
                clear hb hb2
                go_simp
                refine hK.out _ _ HBa.out.2 (fun hHeld => ?_)
                clear hK K
                try simp only [Act.put, List.setIfInBounds_toArray, List.set_cons_zero, List.set_cons_succ]
                refine take_at (i := 13) (d := 206) (v := .bool true) rfl rfl (by kernel_rfl) (by kernel_rfl) (by kernel_rfl) (fun _ _ _ h => h) (Or.inl ⟨by rfl, fun w' hSw => ?_⟩) hHeld ?_
                · obtain ⟨_, _⟩ := hSw
                  go_simp
                try simp only [List.setIfInBounds_toArray, List.set_cons_zero, List.set_cons_succ]
                refine take_at (i := 14) (d := 207) (v := .bool true) rfl rfl (by kernel_rfl) (by kernel_rfl) (by kernel_rfl) (fun _ _ _ h => h) (Or.inl ⟨by rfl, fun w' hSw => ?_⟩) hHeld ?_
                · obtain ⟨_, _⟩ := hSw
                  go_simp
                try simp only [List.setIfInBounds_toArray, List.set_cons_zero, List.set_cons_succ]
                refine take_at (i := 15) (d := 4) (v := .bool true) rfl rfl (by kernel_rfl) (by kernel_rfl) (by kernel_rfl) (fun _ _ _ h => h) (Or.inl ⟨by rfl, fun w' hSw => ?_⟩) hHeld ?_
                · obtain ⟨_, _⟩ := hSw
                  go_simp
                try simp only [List.setIfInBounds_toArray, List.set_cons_zero, List.set_cons_succ]
                refine wpAnyH_done (by kernel_rfl) ?_ _
                refine NoPanic.normal ?_
                go_wp2
                go_ret
                exact ⟨rfl, HBa.out.1⟩
end Go.Proofs.YtcidfkkgpehodaaDoor
