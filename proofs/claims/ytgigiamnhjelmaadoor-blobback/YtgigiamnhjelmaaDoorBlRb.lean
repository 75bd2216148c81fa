/-
  BlRef3, BlRef4: joined.
-/
import Derived.Test.YtgigiamnhjelmaaDoorBlRa
import Derived.Deep.RegionHeldLaw

namespace Go.Proofs.YtgigiamnhjelmaaDoor
open Go.RowKit Go.Lib
/-- One byte as a new row, turned into a text. -/
theorem conv1 {w : World} {g : Nat} {a : UInt8} (h : w.heap[g]? = some (.cells #[.int .u8 (a.toNat : Int)] 5 (0, 0))) :
    (convert 39 9 (.slice (some ⟨g, 0, none⟩) 1 1)).run Tryd.prog w = .ok (.string ⟨#[a]⟩) w := by
  have h0 : w.cell? ⟨g, 0, none⟩ = some (.int .u8 (a.toNat : Int)) := by simp [World.cell?, h]
  have := run_convert_bytes_arg w 39 5 Tryd.underlying39 Tryd.underlying5 g 0 1 1 ([a].map fun b => (b.toNat : Int)) (by simp)
    (fun i hi => by
      rw [Nat.zero_add]
      match i, hi with
      | 0, _ => exact h0) 9 Tryd.underlying9
  rw [this]
  simp [strOfNums]
/-- A kind's byte, made and turned into a text. -/
theorem conv_k {k : Nat} (hk : k < 256) : (∀ w1 : World, (convert 39 9 (.slice (some ⟨w1.heap.size, 0, none⟩) 1 1)).run Tryd.prog (w1.alloc (.cells #[.int .u8 (k : Int)] 5)) = .ok (.string (b1 k)) (w1.alloc (.cells #[.int .u8 (k : Int)] 5))) ∧
    (∀ w1 : World, (convert 39 9 (.slice (some ⟨w1.heap.size, 0, none⟩) 1 1)).run Tryd.prog (w1.alloc (.cells #[.int .u8 (k : Int)] 5)).drew = .ok (.string (b1 k)) (w1.alloc (.cells #[.int .u8 (k : Int)] 5)).drew) ∧
    (∀ w1 : World, (convert 39 9 (.slice (some ⟨w1.heap.size, 0, none⟩) 1 1)).run Tryd.prog (w1.alloc (.cells #[.int .u8 (IntKind.u8.wrap (k : Int))] 5)) = .ok (.string (b1 k)) (w1.alloc (.cells #[.int .u8 (IntKind.u8.wrap (k : Int))] 5))) ∧
    (∀ w1 : World, (convert 39 9 (.slice (some ⟨w1.heap.size, 0, none⟩) 1 1)).run Tryd.prog (w1.alloc (.cells #[.int .u8 (IntKind.u8.wrap (k : Int))] 5)).drew = .ok (.string (b1 k)) (w1.alloc (.cells #[.int .u8 (IntKind.u8.wrap (k : Int))] 5)).drew) := by
  have e : (k : Int) = ((UInt8.ofNat k).toNat : Int) := by
    rw [UInt8.toNat_ofNat']
    omega
  have e2 : IntKind.u8.wrap (k : Int) = (k : Int) := by rw [IntKind.wrap_u8]; omega
  have X : ∀ (w1 : World) (g : Nat), w1.heap[g]? = some (.cells #[.int .u8 (k : Int)] 5 (0, 0)) → (convert 39 9 (.slice (some ⟨g, 0, none⟩) 1 1)).run Tryd.prog w1 = .ok (.string (b1 k)) w1 := fun w1 g h => by
    rw [e] at h
    exact conv1 h
  rw [e2]
  exact ⟨fun w1 => X _ _ (heap_alloc_new w1 _), fun w1 => X _ _ (heap_alloc_new w1 _), fun w1 => X _ _ (heap_alloc_new w1 _), fun w1 => X _ _ (heap_alloc_new w1 _)⟩
theorem conv_at {k : Nat} {w1 : World} {g : Nat} (h : w1.heap[g]? = some (.cells #[.int .u8 (IntKind.u8.wrap (k : Int))] 5 (0, 0))) : (convert 39 9 (.slice (some ⟨g, 0, none⟩) 1 1)).run Tryd.prog w1 = .ok (.string (b1 k)) w1 := by
  have e2 : IntKind.u8.wrap (k : Int) = ((UInt8.ofNat k).toNat : Int) := by rw [IntKind.wrap_u8, UInt8.toNat_ofNat']; omega
  rw [e2] at h
  exact conv1 h
theorem below_al {w w' : World} (h : Below w.heap.size w w') (o : Obj) : Below w.heap.size w (w'.alloc o) := h.alloc h.size _
theorem b1_size (k : Nat) : (b1 k).size = 1 := rfl
theorem ba_add (a b : ByteArray) : (a ++ b).size = a.size + b.size := ByteArray.size_append
/-- Texts that are unlike. -/
theorem ne_list {a b : ByteArray} (h : ¬ a = b) : (a.toList == b.toList) = false := by
  rw [bytes_list, bytes_list]
  simp only [beq_eq_false_iff_ne, ne_eq]
  intro e
  exact h (ByteArray.ext (Array.toList_inj.1 e))
set_option maxRecDepth 100000 in
set_option maxHeartbeats 800000 in
theorem rsum_any {w : World} {k : Nat} {t : ByteArray} (hk : k < 256) (ht : t.size ≤ 140737488355400) : Calls Tryd.prog 28 #[.int .i64 (k : Int), .string t] w fun e w' => e = .returned (.string (idB k t)) ∧ Below w.heap.size w w' := by
  obtain ⟨hcn, hcn2, _, _⟩ := conv_k hk
  have HD := fun wx => Zq.Sh.refDigest_any ((b1 k ++ t).data.toList) wx (by
    have h1 := ba_add (b1 k) t
    rw [b1_size, ByteArray.size, ← Array.length_toList] at h1
    omega)
  have HD := hide HD
  rw [Zq.Sh.strOf_self', ← idB] at HD
  have hz := b1_size k
  have HB := hide (Below.refl w.heap.size w)
  obtain ⟨K, hK⟩ : ∃ K, b1 k = K := ⟨_, rfl⟩
  obtain ⟨S, hS⟩ : ∃ S, b1 k ++ t = S := ⟨_, rfl⟩
  rw [hS] at HD
  rw [hK] at hcn hcn2 hz hS
  clear hK
  go_enter Tryd.func28, Tryd.ntmps28
  go_wp2_with fail
  refine (HD.out _).mono ?_
  rintro _ w2 ⟨rfl, hb⟩
  have HB2 := hide (below_step ((Below.refl _ _).alloc (Nat.le_refl _) _) hb)
  clear hb
  go_wp2
  go_ret
  exact ⟨rfl, HB2.out⟩
/-- What is decoded is small. -/
theorem dc_small {s : ByteArray} {k : Nat} {t : ByteArray} (h : dcB s = some (k, t)) : (k = 1 ∨ k = 2) ∧ t.size ≤ s.size + 65536 := by
  rcases ho : okH s with _ | _
  · rw [(hd_no ho).2.2.2] at h
    exact absurd h (by simp)
  · obtain ⟨h0, hf, hA, h4, h5, h6, h7⟩ := hd_yes ho
    rw [dcB, ho, if_pos rfl] at h
    by_cases c : fb s < 16
    · rw [if_pos c] at h
      by_cases d : s.size - atB s = lnB s
      · rw [if_pos d] at h
        simp only [Option.some.injEq, Prod.mk.injEq] at h
        obtain ⟨rfl, rfl⟩ := h
        refine ⟨by omega, ?_⟩
        rw [ByteArray.size_extract]
        omega
      · rw [if_neg d] at h
        exact absurd h (by simp)
    · rw [if_neg c] at h
      by_cases d : upC (s.extract (atB s) s.size) (lnB s) = 0
      · rw [if_pos d] at h
        simp only [Option.some.injEq, Prod.mk.injEq] at h
        obtain ⟨rfl, rfl⟩ := h
        refine ⟨by omega, ?_⟩
        have hn : (0 : Int) ≤ (lnB s : Int) ∧ (lnB s : Int) ≤ 1048576 := by omega
        rcases hp : ps (s.extract (atB s) s.size) with _ | ⟨l, n⟩
        · rw [(up_none hn hp).1]
          exact Nat.zero_le _
        · by_cases e : (n : Int) = (lnB s : Int)
          · rw [(up_ok hn hp e).1]
            have h1 := opn_len (out := []) (ps_vs hp).1
            show (opn l []).toArray.size ≤ _
            rw [List.size_toArray, h1]
            omega
          · rw [(up_other hn hp e).1]
            exact Nat.zero_le _
      · rw [if_neg d] at h
        exact absurd h (by simp)
theorem op_none {s i : ByteArray} (h : dcB s = none) : opB s i = none := by rw [opB, h]
theorem op_other {s i : ByteArray} {k : Nat} {t : ByteArray} (h : dcB s = some (k, t)) (hi : ¬ idB k t = i) : opB s i = none := by
  rw [opB, h]
  exact if_neg hi
theorem op_ok {s i : ByteArray} {k : Nat} {t : ByteArray} (h : dcB s = some (k, t)) (hi : idB k t = i) : opB s i = some (k, t) := by
  rw [opB, h]
  exact if_pos hi
set_option maxRecDepth 100000 in
set_option maxHeartbeats 800000 in
theorem ropen13_any {w : World} {s i : ByteArray} (hs : s.size ≤ 4000) : Calls Tryd.prog 12 #[.string s, .string i] w fun e w' => e = .returned (.tuple #[.int .i64 (dK (opB s i)), .string (dT (opB s i)), .int .i64 (dC (opB s i))]) ∧ Below w.heap.size w w' := by
  have HD := hide (rdec_any (w := w) hs)
  rcases hd : dcB s with _ | ⟨k, t⟩
  · rw [op_none hd]
    rw [hd] at HD
    simp only [dK, dT, dC] at HD ⊢
    clear hd
    go_enter Tryd.func12, Tryd.ntmps12
    go_wp2_with fail
    refine HD.out.mono ?_
    rintro _ w2 ⟨rfl, hb⟩
    have HB := hide hb
    clear hb
    go_wp2
    exact bodyPost_ret (v := .tuple #[.int .i64 0, .string ⟨#[]⟩, .int .i64 130]) (by simp [results, Tryd.results12, go_sem]) rfl ⟨rfl, HB.out⟩
  · obtain ⟨hk, ht⟩ := dc_small hd
    have HS := fun wx => rsum_any (w := wx) (k := k) (t := t) (by omega) (by omega)
    have HS := hide HS
    rw [hd] at HD
    by_cases hi : idB k t = i
    · rw [op_ok hd hi]
      simp only [dK, dT, dC] at HD ⊢
      rw [hi] at HS
      clear hd hi ht
      go_enter Tryd.func12, Tryd.ntmps12
      go_wp2_with fail
      refine HD.out.mono ?_
      rintro _ w2 ⟨rfl, hb⟩
      have HB := hide hb
      clear hb
      go_wp2_with fail
      refine (HS.out _).mono ?_
      rintro _ w3 ⟨rfl, hb⟩
      have HB3 := hide (below_step HB.out hb)
      clear hb
      go_wp2
      exact bodyPost_ret (v := .tuple #[.int .i64 (k : Int), .string t, .int .i64 0]) (by simp [results, Tryd.results12, go_sem]) rfl ⟨rfl, HB3.out⟩
    · rw [op_other hd hi]
      simp only [dK, dT, dC] at HD ⊢
      obtain ⟨J, hJ⟩ : ∃ J, idB k t = J := ⟨_, rfl⟩
      rw [hJ] at HS hi
      have hne := ne_list hi
      clear hd ht hJ hi
      go_enter Tryd.func12, Tryd.ntmps12
      go_wp2_with fail
      refine HD.out.mono ?_
      rintro _ w2 ⟨rfl, hb⟩
      have HB := hide hb
      clear hb
      go_wp2_with fail
      refine (HS.out _).mono ?_
      rintro _ w3 ⟨rfl, hb⟩
      have HB3 := hide (below_step HB.out hb)
      clear hb
      go_wp2
      exact bodyPost_ret (v := .tuple #[.int .i64 0, .string ⟨#[]⟩, .int .i64 130]) (by simp [results, Tryd.results12, go_sem]) rfl ⟨rfl, HB3.out⟩
end Go.Proofs.YtgigiamnhjelmaaDoor

namespace Go.Proofs.YtgigiamnhjelmaaDoor
open Go.RowKit Go.Lib
/-- An id that is asked for, and its code. -/
def idS (k : Int) (t : ByteArray) : ByteArray := if kn k then idB k.toNat t else ⟨#[]⟩
def idC (k : Int) : Int := if kn k then 0 else 1
/-- What writing refuses. -/
def rfC (k : Int) (t : ByteArray) : Int := if kn k then (if t.size ≤ 65536 then 0 else 2) else 1
/-- A text's bytes, not packed: the kind may bear 16 more. -/
def plB (k : Nat) (t : ByteArray) : ByteArray := b1 k ++ Zq.Nm.textOf t
set_option maxRecDepth 100000 in
set_option maxHeartbeats 800000 in
theorem rid_any {w : World} {t : ByteArray} (k : Int) (ht : t.size ≤ 140737488355400) : Calls Tryd.prog 14 #[.int .i64 k, .string t] w fun e w' => e = .returned (.tuple #[.string (idS k t), .int .i64 (idC k)]) ∧ Below w.heap.size w w' := by
  rcases hk : kn k with _ | _
  · have e1 : idS k t = ⟨#[]⟩ := by simp [idS, hk]
    have e2 : idC k = 1 := by simp [idC, hk]
    rw [e1, e2]
    have HK := hide hk
    clear e1 e2 hk
    go_enter Tryd.func14, Tryd.ntmps14
    go_wp2_with fail
    refine (kn_call HK.out _).mono ?_
    rintro _ _ ⟨rfl, rfl⟩
    go_wp2
    exact bodyPost_ret (v := .tuple #[.string ⟨#[]⟩, .int .i64 1]) (by simp [results, Tryd.results14, go_sem]) rfl ⟨rfl, Below.refl _ _⟩
  · have e1 : idS k t = idB k.toNat t := by simp [idS, hk]
    have e2 : idC k = 0 := by simp [idC, hk]
    rw [e1, e2]
    obtain ⟨m, rfl⟩ : ∃ m : Nat, k = (m : Int) := ⟨k.toNat, by rcases kn_iff.1 hk with h | h <;> omega⟩
    have hm : m < 256 := by rcases kn_iff.1 hk with h | h <;> omega
    rw [Int.toNat_natCast]
    have HS := fun wx => rsum_any (w := wx) (t := t) hm ht
    have HS := hide HS
    obtain ⟨J, hJ⟩ : ∃ J, idB m t = J := ⟨_, rfl⟩
    rw [hJ] at HS ⊢
    have HK := hide hk
    clear e1 e2 hk hJ
    go_enter Tryd.func14, Tryd.ntmps14
    go_wp2_with fail
    refine (kn_call HK.out _).mono ?_
    rintro _ _ ⟨rfl, rfl⟩
    go_wp2_with fail
    refine (HS.out _).mono ?_
    rintro _ w2 ⟨rfl, hb⟩
    have HB := hide hb
    clear hb
    go_wp2
    exact bodyPost_ret (v := .tuple #[.string J, .int .i64 0]) (by simp [results, Tryd.results14, go_sem]) rfl ⟨rfl, HB.out⟩
set_option maxRecDepth 100000 in
theorem rrefused_any {w : World} (k : Int) (t : ByteArray) : Calls Tryd.prog 16 #[.int .i64 k, .string t] w fun e w' => e = .returned (.int .i64 (rfC k t)) ∧ w' = w := by
  rcases hk : kn k with _ | _
  · have e2 : rfC k t = 1 := by simp [rfC, hk]
    rw [e2]
    have HK := hide hk
    clear e2 hk
    go_enter Tryd.func16, Tryd.ntmps16
    go_wp2_with fail
    refine (kn_call HK.out _).mono ?_
    rintro _ _ ⟨rfl, rfl⟩
    go_wp2
    go_ret
    exact ⟨rfl, rfl⟩
  · by_cases ht : t.size ≤ 65536
    · have e2 : rfC k t = 0 := by simp [rfC, hk, ht]
      have c1 : ¬ (65536 : Int) < (t.size : Int) := by omega
      rw [e2]
      have HK := hide hk
      clear e2 hk ht
      go_enter Tryd.func16, Tryd.ntmps16
      go_wp2_with fail
      refine (kn_call HK.out _).mono ?_
      rintro _ _ ⟨rfl, rfl⟩
      go_wp2
      go_ret
      exact ⟨rfl, rfl⟩
    · have e2 : rfC k t = 2 := by simp [rfC, hk, ht]
      have c1 : (65536 : Int) < (t.size : Int) := by omega
      rw [e2]
      have HK := hide hk
      clear e2 hk ht
      go_enter Tryd.func16, Tryd.ntmps16
      go_wp2_with fail
      refine (kn_call HK.out _).mono ?_
      rintro _ _ ⟨rfl, rfl⟩
      go_wp2
      go_ret
      exact ⟨rfl, rfl⟩
set_option maxRecDepth 100000 in
set_option maxHeartbeats 1600000 in
theorem rplain_any {w : World} {k : Nat} {t : ByteArray} (hk : k < 256) (ht : t.size ≤ 65536) : Calls Tryd.prog 18 #[.int .i64 (k : Int), .string t] w fun e w' => e = .returned (.string (plB k t)) ∧ Below w.heap.size w w' := by
  obtain ⟨_, _, hcn, hcn2⟩ := conv_k hk
  have hz := b1_size k
  have hy : (Zq.Nm.textOf t).size ≤ 70000 := by
    have h1 := Zq.Nm.uvarint_nine (x := t.size) (by omega)
    rw [← Zq.Nm.textOf_eq, ba_add, Zq.Nm.strOf_size]
    omega
  obtain ⟨P, hP⟩ : ∃ P, plB k t = P := ⟨_, rfl⟩
  rw [hP]
  rw [plB] at hP
  obtain ⟨T, hT⟩ : ∃ T, Zq.Nm.textOf t = T := ⟨_, rfl⟩
  obtain ⟨K, hK⟩ : ∃ K, b1 k = K := ⟨_, rfl⟩
  have HT : Hid (∀ (v : Value) (wx : World), v = .string t → Below w.heap.size w wx → Calls Tryd.prog 34 #[v] wx fun e w' => e = .returned (.string T) ∧ Below w.heap.size w w' ∧ (wx.heap[w.heap.size]? = some (.cells #[.int .u8 (IntKind.u8.wrap (k : Int))] 5 (0, 0)) → (convert 39 9 (.slice (some ⟨w.heap.size, 0, none⟩) 1 1)).run Tryd.prog w' = .ok (.string K) w')) := fun v wx hv h => by
    subst hv
    have h1 := Zq.Nm.refText_any t wx (by omega)
    rw [hT] at h1
    exact h1.mono fun _ _ ⟨a, b⟩ => ⟨a, below_step h b, fun c => hK ▸ conv_at ((b.block _ (lt_of_block c)).trans c)⟩
  rw [hK] at hcn hcn2 hz hP
  rw [hT] at hP hy
  have S0 : Hid (Below w.heap.size w w.drew) := (Below.refl _ _).drew
  clear hK hT ht
  go_enter Tryd.func18, Tryd.ntmps18
  go_wp2_with fail
  go_region_held_law (fun w' => Below w.heap.size w w') (first | assumption | exact S0.out | exact (below_al (Below.refl _ _) _).drew | exact below_al (by assumption) _)
    (first
      | (go_at_call 34; refine (HT.out _ _ (by with_reducible rfl) (by first | assumption | exact S0.out | exact below_al S0.out _)).mono ?_; rintro e wa ⟨rfl, ha, hq⟩; (first | have hq2 := hq (heap_alloc_new w _) | skip); clear hq))
  all_goals
    go_wp2
    go_ret
    exact ⟨rfl, by first | assumption | exact below_al (by assumption) _⟩
end Go.Proofs.YtgigiamnhjelmaaDoor
