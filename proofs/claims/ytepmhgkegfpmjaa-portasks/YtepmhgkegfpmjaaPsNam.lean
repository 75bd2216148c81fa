/-
  The program's store: the names that begin so, sorted.
-/
import Derived.Test.YtepmhgkegfpmjaaPsDel
import Derived.Test.YtepmhgkegfpmjaaStShelf
import Derived.Sort.KeysCollected
import Derived.Sort.OwnSorted
namespace Go.Proofs.Ytepmhgkegfpmjaa
open Go.RowKit Go.Lib Go.Maps Go.Sort

/-- Bytes as a text. -/
def mkB (x : List UInt8) : ByteArray := ⟨x.toArray⟩
theorem mkB_to (n : ByteArray) : mkB n.data.toList = n := by simp [mkB]
theorem enc_mk (x : List UInt8) : encStr x = .string (mkB x) := rfl
theorem before_lt : ∀ x y : List UInt8, bytesBefore x y = true → x < y
  | [], [], h => by simp [bytesBefore] at h
  | [], _ :: _, _ => List.nil_lt_cons _ _
  | _ :: _, [], h => by simp [bytesBefore] at h
  | a :: x, b :: y, h => by
    simp only [bytesBefore, Bool.or_eq_true, decide_eq_true_eq, Bool.and_eq_true, beq_iff_eq] at h
    rw [List.cons_lt_cons_iff]
    rcases h with h | ⟨h, h'⟩
    · exact .inl h
    · exact .inr ⟨h, before_lt x y h'⟩
theorem begins_prefix (bg n : ByteArray) : Lib.hasPrefix n.data.toList bg.data.toList = begins bg n := by
  rw [Lib.hasPrefix, begins, Bool.eq_iff_iff, List.isPrefixOf_iff_prefix, List.prefix_iff_eq_take, Bool.and_eq_true, decide_eq_true_eq, decide_eq_true_eq]
  have hl : bg.data.toList.length = bg.size := by simp
  have ex : (n.extract 0 bg.size).data.toList = n.data.toList.take bg.size := by simp [ByteArray.data_extract]
  constructor
  · intro h
    rw [hl, ← ex] at h
    have h2 : n.extract 0 bg.size = bg := ByteArray.ext (Array.toList_inj.1 h.symm)
    refine ⟨?_, h2⟩
    have h3 := congrArg ByteArray.size h2
    simp at h3
    omega
  · rintro ⟨h1, h2⟩
    rw [hl, ← ex, h2]
theorem keys_dat (L : List OB) : strKeys (datL obD L) = L.map (fun p => p.n.data.toList) := by
  show (L.map (entr obD)).map _ = _
  rw [List.map_map]
  rfl
theorem names_map (L : List OB) (bg : ByteArray) : ((L.map (fun p => p.n.data.toList)).filter (fun x => Lib.hasPrefix x bg.data.toList)).map mkB = namesL L bg := by
  induction L with
  | nil => rfl
  | cons p r ih =>
    rw [List.map_cons, List.filter_cons, begins_prefix, namesL, List.filter_cons]
    by_cases h : begins bg p.n = true
    · rw [if_pos h, if_pos h, List.map_cons, List.map_cons, mkB_to]
      exact congrArg _ ih
    · rw [if_neg h, if_neg h]
      exact ih
theorem names_sorted {L : List OB} (h : Ris L) (bg : ByteArray) : ((L.map (fun p => p.n.data.toList)).filter (fun x => Lib.hasPrefix x bg.data.toList)).Pairwise (fun x y => leB x y = true) := by
  refine List.Pairwise.filter _ (List.pairwise_map.2 (h.imp fun {p q} hb => ?_))
  exact decide_eq_true (List.le_of_lt (before_lt _ _ hb))
theorem sort_names {L : List OB} (h : Ris L) (bg : ByteArray) {ss : List (List UInt8)} (hp : ss.Perm (L.map (fun p => p.n.data.toList))) :
    ((ss.filter (fun x => Lib.hasPrefix x bg.data.toList)).mergeSort leB).map mkB = namesL L bg := by
  rw [mergeSort_of_perm (hp.filter _), List.mergeSort_of_pairwise (names_sorted h bg), names_map]

section
variable {w : World} {b mb : Nat} {q f : Int} {dn : Bool} {cl : Int} {L : List OB}

set_option maxRecDepth 100000 in
set_option maxHeartbeats 1600000 in
theorem begunBy_any (hP : PS w b mb q f dn cl L) (bg : ByteArray) (hl : L.length ≤ 1000000) :
    Calls Try.prog 42 #[.pointer (some ⟨b, 0, none⟩), .string bg] w fun e w' => ∃ v, e = .returned v ∧ TS w.heap.size v (namesL L bg) w' ∧ Below w.heap.size w w' := by
  have y0 := hP.cell0
  have HP := hide hP
  have HM : Hid (w.ownsMap Try.prog 9 obE mb L.length (datL obD L)) := hP.map
  have HML := hide hP.mlt
  clear hP
  go_enter Try.func42, Try.ntmps42
  go_wp2_with (first | (at_range; refine wpList_range_own _ rfl _ _ rfl 9 96 (string_keyed Try.underlying9) Try.underlying98 obE mb L.length (datL obD L) rfl HM.out ?_; intro w1 hrg1 hg1 hs1))
  have HR1 := hide hrg1
  have HB1 : Hid (Below w.heap.size w w1) := (Below.refl _ _).grown hg1 (Nat.le_refl _) (fun k hk => by cases hk)
  clear hrg1 hg1 hs1
  go_frame
  go_loopw [5] (fun vo wr => ∃ left cnt ss, wr.ranges Try.prog 9 obE mb w.heap.size L.length (datL obD L) left cnt ∧ ss.length + cnt ≤ L.length ∧ TS w.heap.size vo ((ss.filter (fun x => Lib.hasPrefix x bg.data.toList)).map mkB) wr ∧ Collected (datL obD L) left ss ∧ Below w.heap.size w wr) (fun _ wr => wr.rangeLeft mb w.heap.size)
  case atStart => exact ⟨_, _, [], HR1.out, by rw [dat_size]; simp, TS.nil _ _, Collected.start _, HB1.out⟩
  case round =>
    obtain ⟨left, cnt, ss, hrg, hcs, hT, hC, hb⟩ := hrel
    have HRG := hide hrg
    have HT := hide hT
    have HC := hide hC
    have HB := hide hb
    have HCS := hide hcs
    clear hrg hT hC hb hcs y0
    go_wp2_with (first | (at_next; refine wpList_next_ranges _ rfl _ rfl 9 (string_keyed Try.underlying9) obE Value.string (fun s => .agg #[.string s]) (fun key kl hk => by obtain ⟨x, hx, _⟩ := Maps.keyOf_str Try.underlying9 hk; exact ⟨mkB x, hx⟩) (fun v y hv => by obtain ⟨s, rfl, _⟩ := obE_inv hv; exact ⟨s, rfl⟩) mb w.heap.size L.length _ _ _ rfl HRG.out ?_ ?_))
    · intro hc0 hl0
      have hperm : ss.Perm (L.map (fun p => p.n.data.toList)) := by
        rw [← keys_dat]
        exact HC.out.perm HM.out (string_keyed Try.underlying9) Try.underlying9 hl0
      have HS := hide (sort_names HP.out.ris bg hperm)
      clear hc0 hl0 hperm
      generalize hq : ss.filter (fun x => Lib.hasPrefix x bg.data.toList) = ts at *
      clear hq
      obtain ⟨hlen, ⟨rfl, h0⟩ | ⟨g, cap, cur, rfl, hbase, hblk, h1, h2, h3, h4⟩⟩ := HT.out.own
      · have ht0 : ts = [] := by simpa using h0
        subst ht0
        have hN : namesL L bg = [] := by rw [← HS.out]; simp
        have HN := hide hN
        have HC2 : Hid _ := hide (Try.slices_Sort_string_none none 0 wr)
        clear hN h0 hlen
        go_wp2_with fail
        refine HC2.out.mono ?_
        rintro e w' ⟨rfl, rfl⟩
        go_wp2
        go_ret
        exact ⟨_, rfl, by rw [HN.out]; exact TS.nil _ _, HB.out⟩
      · have e2 : ts.map encStr = tc (ts.map mkB) := by rw [tc, List.map_map]; rfl
        have hH : Holds encStr wr g 0 ts.toArray := holds_of_block hblk (by rw [e2]; simpa using h4)
        have hgl : g < wr.heap.size := lt_of_block hblk
        have hts : ts.length ≤ 1000000 := by
          have := congrArg List.length HS.out
          have h5 := names_len L bg
          simp at this
          omega
        have HC2 : Hid _ := hide (Try.slices_Sort_string g 0 cap ts wr hH hgl (by omega))
        rw [List.length_map] at h1 h4 HT ⊢
        have HF : Hid (∀ nn os, TS w.heap.size (.slice (some ⟨g, 0, none⟩) ts.length cap) (namesL L bg) (grow (putRow encStr (Sort.ahead wr nn) g 0 (ts.mergeSort fun x y => decide (x ≤ y)).toArray) os) ∧ Below w.heap.size w (grow (putRow encStr (Sort.ahead wr nn) g 0 (ts.mergeSort fun x y => decide (x ≤ y)).toArray) os)) := fun nn os => by
          refine ⟨?_, HB.out.grown (grownBy_sorted _) HB.out.size (fun j hj => by cases hj; exact hbase)⟩
          have := ownsRow_sorted (ts := ts.mergeSort fun x y => decide (x ≤ y)) (ss := ts) (n := nn) (os := os) (by simp) hbase hblk (by simpa using h1) (by simpa using h2) (by simpa using h3)
          refine ⟨?_⟩
          have hlN : (namesL L bg).length = ts.length := by rw [← HS.out]; simp
          have e3 : tc (namesL L bg) = (ts.mergeSort leB).map encStr := by rw [← HS.out, tc, List.map_map]; rfl
          rw [hlN, e3]
          simpa using this
        clear hH hgl h1 h2 h3 h4 hlen e2 hblk hbase hts HT
        go_wp2_with fail
        refine HC2.out.mono ?_
        rintro e w' ⟨rfl, nn, os, rfl⟩
        go_wp2
        go_ret
        exact ⟨_, rfl, (HF.out nn os).1, (HF.out nn os).2⟩
    · intro y c kl yd yp w2 cnt2 hkey hlk hv hat hrg2 hlt hg2 hs2 hen
      obtain ⟨x', ex, rfl, hxl⟩ := Maps.keyOf_str Try.underlying9 hkey
      obtain ⟨x, hx⟩ : ∃ x, x = y.data.toList := ⟨_, rfl⟩
      obtain rfl : x = x' := by
        have e9 : y = ⟨x'.toArray⟩ := by simpa [encStr] using ex
        rw [hx, e9]
      have hy : y = mkB x := by rw [hx, mkB_to]
      have HY := hide hy
      have HC3 := hide (HC.out.step hlk hat)
      have HE := hide (And.intro hlt hs2)
      have HG2 := hide hg2
      have HR2 := hide hrg2
      have HB2 : Hid (Below w.heap.size w w2) := HB.out.grown hg2 HB.out.size (fun j hj => by cases hj; exact Nat.le_refl _)
      have HT2 : Hid (TS w.heap.size u5 ((ss.filter (fun x => Lib.hasPrefix x bg.data.toList)).map mkB) w2) := ⟨HT.out.own.kept hg2 (.inr (row_ne_iter HT.out.own HRG.out).symm)⟩
      have HL : Hid ((ss.filter (fun x => Lib.hasPrefix x bg.data.toList)).length ≤ 1000000) := by
        have h1 := List.length_filter_le (fun x => Lib.hasPrefix x bg.data.toList) ss
        have h2 := HCS.out
        show _ ≤ _
        omega
      have HLE := hide (HRG.out.left_eq)
      obtain ⟨t, ht⟩ : ∃ t, t = Lib.hasPrefix x bg.data.toList := ⟨_, rfl⟩
      have HX : Hid (∀ W, Calls Try.prog 55 #[.string y, .string bg] W fun e w' => e = .returned (.bool t) ∧ w' = W) := fun W => by
        have := Try.strings_HasPrefix y bg W
        rw [ht, hx]
        exact this
      have HFI : Hid ((ss ++ [x]).filter (fun x => Lib.hasPrefix x bg.data.toList) = ss.filter (fun x => Lib.hasPrefix x bg.data.toList) ++ (if t = true then [x] else [])) := by
        show _ = _
        rw [List.filter_append, ht]
        by_cases h : Lib.hasPrefix x bg.data.toList = true <;> simp [h]
      clear hkey hlk hv hat hrg2 hlt hg2 hs2 ht hxl ex hx hy HT HB HC HRG
      generalize ss.filter (fun x => Lib.hasPrefix x bg.data.toList) = ts at *
      go_wp2_with fail
      refine (HX.out _).mono ?_
      rintro e w' ⟨rfl, rfl⟩
      cases t with
      | true =>
        obtain ⟨v', w3, h3, hT3, hB3, hg3⟩ := HT2.out.one y (by have := HL.out; simp; omega) HB2.out.size
        have HT3 : Hid (TS w.heap.size v' (((ss ++ [x]).filter (fun x => Lib.hasPrefix x bg.data.toList)).map mkB) w3) := by
          show TS _ _ _ _
          rw [HFI.out, if_pos rfl, List.map_append, List.map_cons, List.map_nil, ← HY.out]
          exact hT3
        have HB3 := hide (hB3 w HB2.out)
        have HR3 := hide ((HR2.out.alloc (.cells #[.string y] 9)).kept hg3 (row_ne_low HT2.out.own HML.out) (row_ne_iter HT2.out.own HR2.out))
        clear hT3 hB3 hg3 HT2 HFI
        go_wp2_with (at_builtin; refine Lib.wpList_append_run _ rfl _ _ _ _ rfl _ _ rfl rfl _ _ h3 ?_)
        exact ⟨⟨_, cnt2, ss ++ [x], HR3.out, by have := HCS.out; have := HE.out.1; simp; omega, HT3.out, HC3.out, HB3.out⟩, by rw [HR3.out.left_eq, HLE.out]; exact HE.out.1⟩
      | false =>
        have HT3 : Hid (TS w.heap.size u5 (((ss ++ [x]).filter (fun x => Lib.hasPrefix x bg.data.toList)).map mkB) w') := by
          show TS _ _ _ _
          rw [HFI.out, if_neg (by decide), List.append_nil]
          exact HT2.out
        clear HT2 HFI
        go_wp2
        exact ⟨⟨_, cnt2, ss ++ [x], HR2.out, by have := HCS.out; have := HE.out.1; simp; omega, HT3.out, HC3.out, HB2.out⟩, by rw [HR2.out.left_eq, HLE.out]; exact HE.out.1⟩
end
end Go.Proofs.Ytepmhgkegfpmjaa
