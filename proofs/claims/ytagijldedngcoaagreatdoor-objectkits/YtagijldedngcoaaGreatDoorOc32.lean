/-
  Contracts of the program and of the statements (part 32 of 35).
-/
import Derived.Test.YtagijldedngcoaaGreatDoorOc18
import Derived.Test.YtagijldedngcoaaGreatDoorOc28
import Derived.Test.YtagijldedngcoaaGreatDoorOc30
import Derived.Test.YtagijldedngcoaaGreatDoorOc26
import Derived.Test.YtagijldedngcoaaGreatDoorOc29
import Derived.Test.YtagijldedngcoaaGreatDoorOc31

namespace Go.Proofs.YtagijldedngcoaaGreatDoor
section
variable {K M : Nat} {s : ByteArray}
theorem gen_ga (k1 : 1 ≤ K) (km : K + M ≤ 255) (hs : s.size ≤ 65536) {X : Nat → Zq.SX} {ρ : Nat → Nat} (hρ : ∀ t, t < K → ρ t < K + M) (hi : ∀ a b, a < K → b < K → ρ a = ρ b → a = b) (hX : ∀ t, t < K → X t = Zq.shX K M s (ρ t)) : Zq.GA X K s 0 := by
  have hA : Zq.allS X K := fun i hi => by
    rw [hX i hi, hX 0 (by omega)]
    exact ⟨Zq.shX_ok k1 km hs (hρ i hi), rfl, rfl, rfl, rfl⟩
  have hf : Zq.faultV K M (s.size : Int) (fun i => (X i).i) (fun i => (X i).data) K = 0 := by
    rw [Zq.faultV, if_neg (by omega), Int.toNat_natCast]
    refine Zq.flt_ok (fun i hi => ?_) (fun i hi => ?_)
    · rw [hX i hi]
      have := hρ i hi
      simp only [Zq.shX]
      omega
    · rw [hX i hi]
      exact Zq.shd_size k1 s _
  have hu : Zq.fu K (fun i => (X i).i) K = List.range K := Zq.fu_all K (Nat.le_refl _) fun a b ha hb e => by
    rw [hX a ha, hX b hb] at e
    simp only [Zq.shX] at e
    exact hi a b ha hb (by omega)
  have g1 : Zq.gJC X K = Zq.jnC K M (s.size : Int) (fun i => (X i).i) (fun i => (X i).data) K := by
    unfold Zq.gJC
    rw [hX 0 (by omega)]
    rfl
  have g2 : Zq.gJS X K = Zq.jnS K M (s.size : Int) (fun i => (X i).i) (fun i => (X i).data) K := by
    unfold Zq.gJS
    rw [hX 0 (by omega)]
    rfl
  obtain ⟨j1, j2⟩ := Zq.jn_ok hf (by rw [hu, List.length_range]; exact Nat.lt_irrefl _)
  have hj : Zq.joinB K (fun i => (X i).i) (fun i => (X i).data) K s.size = s := by
    refine Zq.any_join (m := M) (ρ := ρ) k1 km s (fun t ht => by rw [hX t ht]; rfl) hρ (fun t ht => by rw [hX t ht]; rfl) (by rw [hu, List.length_range]) (fun a b ha hb e => ?_)
    rw [hu] at e
    have g : ∀ t, t < K → (List.range K).getD t 0 = t := fun t ht => by rw [List.getD_eq_getElem?_getD, List.getElem?_range ht]; rfl
    rw [g a ha, g b hb] at e
    rw [hX a ha, hX b hb] at e
    simp only [Zq.shX] at e
    exact hi a b ha hb (by omega)
  rw [Int.toNat_natCast, hj] at j2
  rw [← g1] at j1
  rw [← g2] at j2
  have hid : (X 0).id = Zq.bs (Zq.Sh.digest s.data.toList) := by rw [hX 0 (by omega)]; rfl
  exact .inr ⟨⟨by omega, hA⟩, .inr ⟨j1, .inr ⟨by rw [j2, hid], j2.symm, rfl⟩⟩⟩
theorem lx_map {L : List Nat} {t : Nat} (h : t < L.length) : lx (L.map (Zq.shX K M s)) t = Zq.shX K M s (cat L t) := by
  rw [lx, List.getElem?_map, cat_get h]; rfl
theorem cat_inj {L : List Nat} (hd : L.Nodup) {a b : Nat} (ha : a < L.length) (hb : b < L.length) (e : cat L a = cat L b) : a = b := by
  have h1 := cat_get ha
  have h2 := cat_get hb
  rw [e] at h1
  exact (List.getElem?_inj ha hd).1 (h1.trans h2.symm)
theorem gth_true (k1 : 1 ≤ K) (km : K + M ≤ 255) (hs : s.size ≤ 65536) {L : List Nat} (hd : L.Nodup) (hm : ∀ a ∈ L, a < K + M) (hl : K ≤ L.length) : gth K (L.map (Zq.shX K M s)) = some s := by
  have hR : (List.range K).length = K := List.length_range
  have hc : ∀ i, i < K → cat (List.range K) i = i := fun i hi => by rw [cat, List.getElem?_range hi]; rfl
  refine gth_ret (t := 0) (c := List.range K) (fun i hi => absurd hi (Nat.not_lt_zero _)) (by decide) (by rw [ith, if_pos (by rw [List.length_map]; exact hl)]) ?_
  have hG : Zq.GA (lx (pick (L.map (Zq.shX K M s)) (List.range K))) (pick (L.map (Zq.shX K M s)) (List.range K)).length s 0 := by
    rw [pick_len, hR]
    refine gen_ga k1 km hs (ρ := cat L) (fun t ht => ?_) (fun a b ha hb e => cat_inj hd (by omega) (by omega) e) (fun t ht => ?_)
    · exact hm _ (List.mem_of_getElem? (cat_get (by omega)))
    · rw [pick_at (by rw [hR]; exact ht), hc t ht, lx_map (by omega)]
  rcases ga_one hG with ⟨_, h⟩ | ⟨h, _⟩
  · exact h
  · exact absurd rfl h
theorem gth_few {f : List Zq.SX} (h : f.length < K) : gth K f = none := gth_none (t := 0) (fun i hi => absurd hi (Nat.not_lt_zero _)) (by decide) (.inl (by rw [ith, if_neg (by omega)]))
def Gn (K M : Nat) (s : ByteArray) (A : List RR) : Prop := ∀ (i : Nat) (x : RR), A[i]? = some x → gdX K M i x = none ∨ gdX K M i x = some (Zq.shX K M s i)
noncomputable def gdI (K M : Nat) (A : List RR) : List Nat := (List.range A.length).filter fun i => @decide (∃ x, A[i]? = some x ∧ gdX K M i x ≠ none) (Classical.propDecidable _)
theorem gdI_nodup (A : List RR) : (gdI K M A).Nodup := List.nodup_range.filter _
theorem gdI_lt {A : List RR} {i : Nat} (h : i ∈ gdI K M A) : i < A.length := List.mem_range.1 (List.mem_filter.1 h).1
theorem gdL_true {A : List RR} (h : Gn K M s A) : gdL K M A = (gdI K M A).map (Zq.shX K M s) := by
  have : ∀ (l : List Nat), (∀ i ∈ l, i < A.length) → l.filterMap (fun i => (A[i]?).bind (gdX K M i)) = (l.filter fun i => @decide (∃ x, A[i]? = some x ∧ gdX K M i x ≠ none) (Classical.propDecidable _)).map (Zq.shX K M s) := by
    intro l
    induction l with
    | nil => intro _; rfl
    | cons j r ih =>
      intro hl
      have hj := hl j (by simp)
      have e : A[j]? = some A[j] := List.getElem?_eq_getElem hj
      rw [List.filterMap_cons, List.filter_cons, ih fun i hi => hl i (by simp [hi])]
      rcases h j _ e with h0 | h0
      · rw [if_neg]
        · rw [e]; simp only [Option.bind_some, h0]
        · simp only [decide_eq_true_eq]
          rintro ⟨x, hx, hn⟩
          rw [e] at hx; cases hx
          exact hn h0
      · rw [if_pos]
        · rw [e]; simp only [Option.bind_some, h0, List.map_cons]
        · simp only [decide_eq_true_eq]
          exact ⟨_, e, by rw [h0]; simp⟩
  exact this _ fun i hi => List.mem_range.1 hi
theorem famL_true : ∀ (L : List Nat), L ≠ [] → famL (L.map (Zq.shX K M s)) = [L.map (Zq.shX K M s)] := by
  have h : ∀ (L : List Nat) (g : List Nat), g ≠ [] → (L.map (Zq.shX K M s)).foldl addF [g.map (Zq.shX K M s)] = [(g ++ L).map (Zq.shX K M s)] := by
    intro L
    induction L with
    | nil => intro g _; simp
    | cons a r ih =>
      intro g hg
      have hof : ofF (g.map (Zq.shX K M s)) (Zq.shX K M s a) := by
        rw [ofF, lx_map (List.length_pos_iff.2 hg)]
        exact ⟨rfl, rfl⟩
      rw [List.map_cons, List.foldl_cons, addF, if_pos hof]
      have := ih (g ++ [a]) (by simp)
      rw [List.map_append, List.map_singleton] at this
      rw [this, List.append_assoc]
      rfl
  intro L hL
  cases L with
  | nil => exact absurd rfl hL
  | cons a r =>
    have := h r [a] (by simp)
    rw [famL, List.map_cons, List.foldl_cons]
    exact this
theorem fnd_true (k1 : 1 ≤ K) (km : K + M ≤ 255) (hs : s.size ≤ 65536) {A : List RR} {want : ByteArray} (hA : A.length ≤ K + M) (h : Gn K M s A) (hw : want = ⟨#[]⟩ ∨ want = Zq.bs (Zq.Sh.digest s.data.toList)) (hl : K ≤ (gdI K M A).length) :
    fnd K M want A = ⟨s, (gdI K M A).map (Zq.shX K M s), 0⟩ := by
  have hne : gdI K M A ≠ [] := fun e => by rw [e] at hl; simp at hl; omega
  have hg := gth_true k1 km hs (gdI_nodup (K := K) (M := M) A) (fun a ha => by have := gdI_lt ha; omega) hl
  have hid : ¬ (want ≠ ⟨#[]⟩ ∧ (lx ((gdI K M A).map (Zq.shX K M s)) 0).id ≠ want) := by
    rw [lx_map (List.length_pos_iff.2 hne)]
    rintro ⟨h1, h2⟩
    rcases hw with hw | hw
    · exact h1 hw
    · exact h2 hw.symm
  rw [fnd, gdL_true h, famL_true _ hne, fndL, if_neg hid, hg]
theorem fnd_few {A : List RR} {want : ByteArray} (h : Gn K M s A) (hl : (gdI K M A).length < K) : fnd K M want A = ⟨⟨#[]⟩, [], rfs M A⟩ := by
  by_cases hne : gdI K M A = []
  · rw [fnd, gdL_true h, hne]
    rfl
  · have hg : gth K ((gdI K M A).map (Zq.shX K M s)) = none := gth_few (by rw [List.length_map]; exact hl)
    have hn : fndL K want [(gdI K M A).map (Zq.shX K M s)] = none := by
      rw [fndL]
      split
      · rfl
      · rw [hg]; rfl
    rw [fnd, gdL_true h, famL_true _ hne, hn]
end
end Go.Proofs.YtagijldedngcoaaGreatDoor

namespace Go.Proofs.YtagijldedngcoaaGreatDoor
open Go.RowKit Go.Lib Go.Maps
section
variable {S : List SS} {l : List QT} {q m : Int} {nm d x : ByteArray} {o : Option ByteArray} {O : List (Option ByteArray)} {K M : Nat} {s : ByteArray}
theorem each_one : ∀ (n : Nat) (l : List QT) (S : List SS), l.length = n → (∀ (i : Nat) (q : QT), l[i]? = some q → q.st = (i : Int)) → l.length ≤ S.length →
    (ySs S l).length = S.length ∧ (∀ (i : Nat) (q : QT) (s : SS), l[i]? = some q → S[i]? = some s → (yRs S l)[i]? = some (doR s q.k q.n q.d) ∧ (ySs S l)[i]? = some (doS s q.k q.n q.d)) ∧ ∀ i, l.length ≤ i → (ySs S l)[i]? = S[i]? := by
  intro n
  induction n with
  | zero =>
    intro l S hl hq hS
    obtain rfl : l = [] := List.length_eq_zero_iff.1 hl
    exact ⟨rfl, fun i q s h => by simp at h, fun i _ => rfl⟩
  | succ n ih =>
    intro l S hl hq hS
    obtain ⟨l', q, rfl⟩ : ∃ l' q, l = l' ++ [q] := ⟨l.dropLast, l.getLast (fun e => by rw [e] at hl; cases hl), (List.dropLast_concat_getLast _).symm⟩
    have hl' : l'.length = n := by simpa using hl
    rw [List.length_append, List.length_singleton] at hS
    obtain ⟨h0, h1, h2⟩ := ih l' S hl' (fun i p hp => hq i p (by rw [List.getElem?_append_left (List.getElem?_eq_some_iff.1 hp).1]; exact hp)) (by omega)
    have hst : q.st = ((l'.length : Nat) : Int) := hq l'.length q (by simp)
    have hat : S[l'.length]? = some S[l'.length] := List.getElem?_eq_getElem (by omega)
    obtain ⟨s0, hs0⟩ : ∃ s0, S[l'.length]? = some s0 := ⟨_, hat⟩
    have hn := (h2 l'.length (Nat.le_refl _)).trans hs0
    have eR : yR (ySs S l') q = doR s0 q.k q.n q.d := by rw [yR, hst, if_pos (by omega), Int.toNat_natCast, hn]
    have eS : yS (ySs S l') q = (ySs S l').set l'.length (doS s0 q.k q.n q.d) := by rw [yS, hst, if_pos (by omega), Int.toNat_natCast, hn]
    rw [yRs_snoc, ySs_snoc, eR, eS]
    refine ⟨by rw [List.length_set]; exact h0, fun i p s hp hs => ?_, fun i hi => ?_⟩
    · rcases snocGet hp with ⟨hi, hp⟩ | ⟨hi, rfl⟩
      · obtain ⟨k1, k2⟩ := h1 i p s hp hs
        refine ⟨by rw [List.getElem?_append_left (by rw [yRs_len]; exact hi)]; exact k1, ?_⟩
        rw [List.getElem?_set, if_neg (by omega)]; exact k2
      · subst hi
        rw [hs] at hs0
        cases hs0
        refine ⟨by rw [List.getElem?_append_right (by rw [yRs_len]; exact Nat.le_refl _), yRs_len, Nat.sub_self]; rfl, ?_⟩
        rw [List.getElem?_set, if_pos rfl, if_pos (by rw [h0]; omega)]
    · rw [List.length_append, List.length_singleton] at hi
      rw [List.getElem?_set, if_neg (by omega)]
      exact h2 i (by omega)
theorem aqI {k : Int} {n d : ByteArray} {m i : Nat} (h : i < m) : (aq k n d m)[i]? = some ⟨(i : Int), k, n, d⟩ := by rw [aq, List.getElem?_map, List.getElem?_range h]; rfl
theorem pqI {n d : ByteArray} {ds : List ByteArray} {i : Nat} (h : ds[i]? = some d) : (pq n ds)[i]? = some ⟨(i : Int), 1, n, d⟩ := by rw [pq, List.getElem?_mapIdx, h]; rfl
theorem all_asked {k : Int} {n d : ByteArray} (S : List SS) : yRs S (aq k n d S.length) = S.map (fun s => doR s k n d) ∧ ySs S (aq k n d S.length) = S.map fun s => doS s k n d := by
  obtain ⟨h0, h1, h2⟩ := each_one _ (aq k n d S.length) S rfl (fun i q hq => by
    have hi : i < S.length := by have := (List.getElem?_eq_some_iff.1 hq).1; rw [aq_len] at this; exact this
    rw [aqI hi] at hq; cases hq; rfl) (by rw [aq_len]; exact Nat.le_refl _)
  refine ⟨List.ext_getElem? fun i => ?_, List.ext_getElem? fun i => ?_⟩ <;> by_cases hi : i < S.length
  · rw [(h1 i _ _ (aqI hi) (List.getElem?_eq_getElem hi)).1, List.getElem?_map, List.getElem?_eq_getElem hi]; rfl
  · rw [List.getElem?_eq_none (by rw [yRs_len, aq_len]; omega), List.getElem?_eq_none (by rw [List.length_map]; omega)]
  · rw [(h1 i _ _ (aqI hi) (List.getElem?_eq_getElem hi)).2, List.getElem?_map, List.getElem?_eq_getElem hi]; rfl
  · rw [List.getElem?_eq_none (by omega), List.getElem?_eq_none (by rw [List.length_map]; omega)]
theorem all_put {n : ByteArray} {ds : List ByteArray} (S : List SS) (hl : ds.length = S.length) : yRs S (pq n ds) = List.zipWith (fun s d => doR s 1 n d) S ds ∧ ySs S (pq n ds) = List.zipWith (fun s d => doS s 1 n d) S ds := by
  obtain ⟨h0, h1, h2⟩ := each_one _ (pq n ds) S rfl (fun i q hq => by
    have hi : i < ds.length := by have := (List.getElem?_eq_some_iff.1 hq).1; rw [pq_len] at this; exact this
    rw [pqI (List.getElem?_eq_getElem hi)] at hq; cases hq; rfl) (by rw [pq_len]; omega)
  refine ⟨List.ext_getElem? fun i => ?_, List.ext_getElem? fun i => ?_⟩ <;> by_cases hi : i < S.length
  · have hd : ds[i]? = some (ds[i]'(by omega)) := List.getElem?_eq_getElem (by omega)
    rw [(h1 i _ _ (pqI hd) (List.getElem?_eq_getElem hi)).1, List.getElem?_zipWith, List.getElem?_eq_getElem hi, hd]
  · rw [List.getElem?_eq_none (by rw [yRs_len, pq_len]; omega), List.getElem?_eq_none (by rw [List.length_zipWith]; omega)]
  · have hd : ds[i]? = some (ds[i]'(by omega)) := List.getElem?_eq_getElem (by omega)
    rw [(h1 i _ _ (pqI hd) (List.getElem?_eq_getElem hi)).2, List.getElem?_zipWith, List.getElem?_eq_getElem hi, hd]
  · rw [List.getElem?_eq_none (by omega), List.getElem?_eq_none (by rw [List.length_zipWith]; omega)]
def st1 (q m : Int) (nm : ByteArray) (o : Option ByteArray) : SS := ⟨q, 0, m, false, o.toList.map fun d => ⟨nm, d⟩⟩
def gans (o : Option ByteArray) : RR := ⟨if o.isSome = true then 0 else 5, o.getD ⟨#[]⟩, []⟩
theorem st1_thr : thr (st1 q m nm o).L nm = o := by
  cases o with
  | none => rfl
  | some d => simp [st1, thr]
theorem st1_get : doR (st1 q m nm o) 2 nm x = gans o ∧ doS (st1 q m nm o) 2 nm x = st1 q (m + 1) nm o := by
  have := st1_thr (q := q) (m := m) (nm := nm) (o := o)
  refine ⟨?_, ?_⟩
  · have e1 : (st1 q m nm o).off = false := rfl
    have e2 : ¬ 0 < (st1 q m nm o).f := by show ¬ (0 : Int) < 0; omega
    rw [doR, e1, if_neg (by decide), if_neg e2, if_neg (by decide), if_pos rfl, dcode, this, gans]
  · rfl
theorem st1_lay : layL (st1 q m nm o).L nm d = [⟨nm, d⟩] := by
  cases o with
  | none => rfl
  | some e =>
    have : bl nm nm = false := bl_irrefl nm
    simp [st1, layL, this]
theorem st1_put (hn : mayB nm = true) (hd : d.size ≤ 131072) (hq : ((nm.size + d.size : Nat) : Int) ≤ q) : doR (st1 q m nm o) 1 nm d = ⟨0, ⟨#[]⟩, []⟩ ∧ doS (st1 q m nm o) 1 nm d = st1 q (m + 1) nm (some d) := by
  have e1 : (st1 q m nm o).off = false := rfl
  have e2 : ¬ 0 < (st1 q m nm o).f := by show ¬ (0 : Int) < 0; omega
  have e3 : pcode nm d (st1 q m nm o).L (st1 q m nm o).q = 0 := by
    rw [pcode, if_pos hn, if_pos hd, st1_lay, if_pos]
    show ((nm.size + d.size + 0 : Nat) : Int) ≤ q
    exact hq
  refine ⟨?_, ?_⟩
  · rw [doR, e1, if_neg (by decide), if_neg e2, if_pos rfl, e3]
  · rw [doS, e1, if_neg (by decide), if_neg e2, if_pos rfl, putL, if_pos e3, st1_lay]
    rfl
def sts (q m : Int) (nm : ByteArray) (O : List (Option ByteArray)) : List SS := O.map (st1 q m nm)
theorem sts_len : (sts q m nm O).length = O.length := by simp [sts]
theorem sts_new {n : Nat} : List.replicate n (sq q) = sts q 0 nm (List.replicate n none) := by rw [sts, List.map_replicate]; rfl
theorem sts_get : yRs (sts q m nm O) (aq 2 nm x O.length) = O.map gans ∧ ySs (sts q m nm O) (aq 2 nm x O.length) = sts q (m + 1) nm O := by
  have h := all_asked (k := 2) (n := nm) (d := x) (sts q m nm O)
  rw [sts_len] at h
  rw [h.1, h.2, sts, sts, List.map_map, List.map_map]
  exact ⟨List.map_congr_left fun o _ => st1_get.1, List.map_congr_left fun o _ => st1_get.2⟩
theorem sts_put {ds : List ByteArray} (hl : ds.length = O.length) (hn : mayB nm = true) (hd : ∀ d ∈ ds, d.size ≤ 131072 ∧ ((nm.size + d.size : Nat) : Int) ≤ q) : yRs (sts q m nm O) (pq nm ds) = ds.map (fun _ => ⟨0, ⟨#[]⟩, []⟩) ∧ ySs (sts q m nm O) (pq nm ds) = sts q (m + 1) nm (ds.map some) := by
  have h := all_put (n := nm) (ds := ds) (sts q m nm O) (by rw [sts_len]; exact hl)
  rw [h.1, h.2]
  refine ⟨List.ext_getElem? fun i => ?_, List.ext_getElem? fun i => ?_⟩
  all_goals
    rw [List.getElem?_zipWith]
    by_cases hi : i < O.length
    · have h1 : (sts q m nm O)[i]? = some (st1 q m nm O[i]) := by rw [sts, List.getElem?_map, List.getElem?_eq_getElem hi]; rfl
      have h2 : ds[i]? = some (ds[i]'(by omega)) := List.getElem?_eq_getElem (by omega)
      have hk := hd _ (List.mem_of_getElem? h2)
      rw [h1, h2]
      simp only [sts, List.getElem?_map, h2, Option.map_some]
      first | rw [(st1_put hn hk.1 hk.2).1] | rw [(st1_put hn hk.1 hk.2).2]
    · rw [List.getElem?_eq_none (show (sts q m nm O).length ≤ i by rw [sts_len]; omega)]
      simp only [sts, List.getElem?_map, List.getElem?_eq_none (show ds.length ≤ i by omega), Option.map_none]
theorem sts_gd {t : Nat} (ht : 1 ≤ t) (h0 : 0 ≤ m) (hm : m ≤ t) (hn : nm.size ≤ 96) (hO : ∀ d, some d ∈ O → d.size ≤ 131072) : GD t (sts q m nm O) := by
  intro s hs
  obtain ⟨o, ho, rfl⟩ := List.mem_map.1 hs
  refine ⟨?_, ?_, ?_, h0, hm, by show (0 : Int) ≤ 1048576; omega⟩
  · cases o with
    | none => exact List.Pairwise.nil
    | some d => exact List.pairwise_singleton _ _
  · intro p hp
    cases o with
    | none => simp [st1] at hp
    | some d =>
      simp [st1] at hp
      subst hp
      exact ⟨hn, hO d ho⟩
  · cases o with
    | none => exact Nat.zero_le _
    | some d => exact ht
theorem ySs_ap : ∀ (l m : List QT) (S : List SS), ySs S (l ++ m) = ySs (ySs S l) m
  | [], m, S => rfl
  | q :: l, m, S => by rw [List.cons_append, ySs, ySs, ySs_ap l]
theorem putP_new {α : Type} {k : Int × Int → PN α} {y : α} (hk : k (0, 0) = .fin y) (hK : 1 ≤ K) (hs : s.size ≤ 65536) (hn : mayB nm = true) (hd : ∀ d ∈ shL K M s, d.size ≤ 131072 ∧ ((nm.size + d.size : Nat) : Int) ≤ q) :
    (putP K M nm s k).tr (sts q m nm (List.replicate (K + M) none)) = aq 2 nm ⟨#[]⟩ (K + M) ++ pq nm (shL K M s) ∧ (putP K M nm s k).res (sts q m nm (List.replicate (K + M) none)) = y ∧ ySs (sts q m nm (List.replicate (K + M) none)) (aq 2 nm ⟨#[]⟩ (K + M) ++ pq nm (shL K M s)) = sts q (m + 2) nm ((shL K M s).map some) := by
  have hO : (List.replicate (K + M) (none : Option ByteArray)).length = K + M := by simp
  have hg := sts_get (q := q) (m := m) (nm := nm) (x := ⟨#[]⟩) (O := List.replicate (K + M) none)
  rw [hO] at hg
  have hp := sts_put (q := q) (m := m + 1) (nm := nm) (O := List.replicate (K + M) none) (ds := shL K M s) (by rw [hO, shL_len]) hn hd
  have hA : Gn K M s ((List.replicate (K + M) none).map gans) := fun i x hx => by
    rw [List.map_replicate] at hx
    have := List.mem_of_getElem? hx
    obtain ⟨_, rfl⟩ := List.mem_replicate.1 this
    exact .inl (by rw [gdX, if_neg]; rintro ⟨h, _⟩; exact absurd h (by decide))
  have hI : gdI K M ((List.replicate (K + M) none).map gans) = [] := by
    rw [gdI, List.filter_eq_nil_iff]
    intro i hi
    simp only [decide_eq_true_eq]
    rintro ⟨x, hx, hne⟩
    rcases hA i x hx with h | h
    · exact hne h
    · rw [List.map_replicate] at hx
      obtain ⟨_, rfl⟩ := List.mem_replicate.1 (List.mem_of_getElem? hx)
      rw [gdX, if_neg] at hne
      · exact hne rfl
      · rintro ⟨h, _⟩; exact absurd h (by decide)
  have hf := fnd_few (want := ⟨#[]⟩) hA (by rw [hI]; simp; omega)
  have hrf : rfs M ((List.replicate (K + M) none).map gans) = 5 := by
    have h1 : awy ((List.replicate (K + M) none).map gans) = 0 := by
      rw [List.map_replicate]
      induction K + M with
      | zero => rfl
      | succ n ih => rw [List.replicate_succ, awy, if_pos (.inr rfl)]; exact ih
    have h2 : cntC 0 ((List.replicate (K + M) none).map gans) = 0 := by
      rw [cntC, List.length_eq_zero_iff, List.filter_eq_nil_iff]
      intro x hx
      rw [List.map_replicate] at hx
      obtain ⟨_, rfl⟩ := List.mem_replicate.1 hx
      decide
    rw [rfs, if_neg (by rw [h1]; simp), h2, if_neg (by omega)]
  have e1 : putP K M nm s k = findP K M nm ⟨#[]⟩ (putK K M nm s k) := by rw [putP, if_neg (by omega)]
  have e2 : putK K M nm s k (fnd K M ⟨#[]⟩ ((List.replicate (K + M) none).map gans)) = layP K M nm s k := by
    rw [hf, hrf, putK]
    simp only []
    rw [if_neg (by decide), if_pos (.inl trivial)]
  have hz : frs [] ((List.map (fun _ => (⟨0, ⟨#[]⟩, []⟩ : RR)) (shL K M s)).map (·.c)) = 0 := by
    rw [List.map_map]
    induction shL K M s with
    | nil => rfl
    | cons a r ih => rw [List.map_cons, frs]; exact (if_pos (.inl rfl)).trans ih
  refine ⟨?_, ?_, ?_⟩
  · rw [e1, findP, sqP_tr, hg.1, hg.2, List.nil_append, e2, layP, sqP_tr, hp.1, List.nil_append, if_pos hz, hk, PN.tr, List.append_nil]
  · rw [e1, findP, sqP_res, hg.1, hg.2, List.nil_append, e2, layP, sqP_res, hp.1, List.nil_append, if_pos hz, hk, PN.res]
  · rw [ySs_ap, hg.2, hp.2, show m + 1 + 1 = m + 2 by omega]
theorem getP_sts {α : Type} {k : ByteArray × Int → PN α} {want : ByteArray} (hO : O.length = K + M) {y : α} (hk : k ((fnd K M want (O.map gans)).d, (fnd K M want (O.map gans)).e) = .fin y) :
    (getP K M nm want k).tr (sts q m nm O) = aq 2 nm ⟨#[]⟩ (K + M) ∧ (getP K M nm want k).res (sts q m nm O) = y ∧ ySs (sts q m nm O) (aq 2 nm ⟨#[]⟩ (K + M)) = sts q (m + 1) nm O := by
  have hg := sts_get (q := q) (m := m) (nm := nm) (x := ⟨#[]⟩) (O := O)
  rw [hO] at hg
  refine ⟨?_, ?_, hg.2⟩
  · rw [getP, findP, sqP_tr, hg.1, hg.2, List.nil_append, hk, PN.tr, List.append_nil]
  · rw [getP, findP, sqP_res, hg.1, hg.2, List.nil_append, hk, PN.res]
end
end Go.Proofs.YtagijldedngcoaaGreatDoor

namespace Go.Proofs.YtagijldedngcoaaGreatDoor
open Go.RowKit Go.Lib Go.Maps
section
set_option maxRecDepth 100000 in
set_option maxHeartbeats 3200000 in
theorem yard_any (K M : Nat) (q : Int) (hn : K + M ≤ 255) (hq0 : 0 ≤ q) (hq1 : q ≤ 1048576) (w : World) : Calls Tryz.prog 32 #[.agg #[.int .i64 (K : Int), .int .i64 (M : Int)], .int .i64 q] w fun e w' => ∃ a c bs, e = .returned (.slice a (K + M) c) ∧ YB q w w' (.slice a (K + M) c) bs ∧ bs.length = K + M := by
  obtain ⟨U, hU⟩ : ∃ U, U = w.alloc (.cells #[.int .i64 (K : Int), .int .i64 (M : Int)] 27) := ⟨_, rfl⟩
  obtain ⟨X, hX⟩ : ∃ X, X = w.heap.size := ⟨_, rfl⟩
  have hB : Below w.heap.size w U := by rw [hU]; exact (Below.refl _ _).alloc (Nat.le_refl _) _
  have h2 : U.heap[X]? = some (.cells #[.int .i64 (K : Int), .int .i64 (M : Int)] 27 (0, 0)) := by rw [hU, hX]; exact heap_alloc_new w _
  have y0 : U.cell? ⟨X, 0, none⟩ = some (.int .i64 (K : Int)) := by simp [World.cell?, h2]
  have y1 : U.cell? ⟨X, 1, none⟩ = some (.int .i64 (M : Int)) := by simp [World.cell?, h2]
  have HU := hide hU
  have HX := hide hX
  have H0 : Hid (YB q w U (.slice none 0 0) []) := ⟨OW.nil _ _ _ _ _, fun e he => by simp at he, fun i j e f he => by simp at he, hB⟩
  have HQ := hide (And.intro hq0 hq1)
  have HNE := hide hn
  have hni : ((K : Int) + (M : Int)) = ((K + M : Nat) : Int) := by omega
  have HNI := hide hni
  have hs1 : ((K + M : Nat) : Int) ≤ 255 := by omega
  clear hU hX hB h2 hq0 hq1 hni
  go_enter Tryz.func32, Tryz.ntmps32
  go_upto_region 1 with fail
  rw [← HU.out, ← HX.out]
  go_wp2
  go_loopw [5, 13] (fun sv i wr => ∃ (j : Nat) (bs : List (Nat × Nat)), j ≤ K + M ∧ i = .int .i64 j ∧ bs.length = j ∧ YB q w wr sv bs) (fun _ i _ => K + M - (intOf i).toNat)
  case atStart => exact ⟨0, [], by omega, rfl, rfl, H0.out⟩
  case round =>
    obtain ⟨j, bs, hj, rfl, hbl, hB⟩ := hrel
    obtain ⟨asv, csv, hsv⟩ := hB.s.shp
    rw [List.length_map, hbl] at hsv
    subst hsv
    have HB := hide hB
    have HL := hide hbl
    clear hB hbl
    by_cases hlt : j < K + M
    · have b1 : (j : Int) < (K : Int) + (M : Int) := by omega
      have HN := hide (new_ok q wr HQ.out.1 (by have := HQ.out.2; omega))
      go_wp2_with fail
      refine HN.out.mono ?_
      rintro e w1 ⟨rfl, hP1, hB1⟩
      have hX1 : PX w1 (wr.heap.size + 1) wr.heap.size (sq q) := hP1
      have hws := HB.out.be.size
      have hlt1 : ∀ e ∈ bs, e.1 < wr.heap.size ∧ e.2 < wr.heap.size := fun e he => ⟨PS.lt (HB.out.px e he).1, PS.mlt (HB.out.px e he).1⟩
      obtain ⟨a3, c3, w3, hr3, hY3⟩ := (HB.out.bel hB1).more hX1 (by omega) hws (fun e he => by have := hlt1 e he; omega) (by have := HL.out; omega)
      rw [HL.out] at hr3 hY3
      have HE := hide hY3
      clear hP1 hB1 hX1 hws hlt1 hY3
      go_wp2_with (at_builtin; refine Lib.wpList_append_run _ rfl _ _ _ _ rfl _ _ rfl rfl _ _ hr3 ?_)
      exact ⟨⟨j + 1, bs ++ [(wr.heap.size + 1, wr.heap.size)], by omega, by go_num, by simp [HL.out], HE.out⟩, by simp [intOf]; omega⟩
    · obtain rfl : j = K + M := by omega
      have b1 : ¬ ((K + M : Nat) : Int) < (K : Int) + (M : Int) := by omega
      go_wp2
      go_ret
      exact ⟨_, _, rfl, bs, HB.out, HL.out⟩
end
end Go.Proofs.YtagijldedngcoaaGreatDoor

namespace Go.Proofs.YtagijldedngcoaaGreatDoor
open Go.RowKit Go.Lib Go.Maps
section
variable {K M : Nat} {nm s want : ByteArray} {kk mm q m : Int} {O : List (Option ByteArray)} {i : Nat} {o : Option ByteArray}
theorem ox_put (hK : 1 ≤ K) (hKM : K + M ≤ 255) (hs : s.size ≤ 9223372036854775807) : OXPut K M nm s (putP K M nm s kPut) := fun b i1 W hL hJ hne hlt HK =>
  oput_any (A0 := []) ent_put11 hL hJ hK hKM hs (by simp [resI]) HK hne (fun i h => h.elim) (fun i h => by rw [h]; exact hlt)
theorem ox_get (hK : 1 ≤ K) (hKM : K + M ≤ 255) : OXGet K M nm want (getP K M nm want kGet) := fun b i1 W hL hJ hne hlt HK =>
  oget_any (A0 := []) ent_get11 hL hJ hK hKM (by simp [resI]) HK hne (fun i h => h.elim) (fun i h => by rw [h]; exact hlt)
theorem ox_put_bad (hk : kk ≤ 9223372036854775807) (hk2 : -9223372036854775808 ≤ kk) (hb : chk kk mm ≠ 0) : OXPut kk mm nm s (kPut (1, 0)) := fun b i1 W hL hJ _ _ HK => oput_bad (A0 := []) hk hk2 hb ent_put11 hL hJ (by simp [resI]) HK
theorem ox_get_bad (hk : kk ≤ 9223372036854775807) (hk2 : -9223372036854775808 ≤ kk) (hb : chk kk mm ≠ 0) : OXGet kk mm nm s (kGet (⟨#[]⟩, 1)) := fun b i1 W hL hJ _ _ HK => oget_bad (A0 := []) hk hk2 hb ent_get11 hL hJ (by simp [resI]) HK
theorem ox_del_bad (hk : kk ≤ 9223372036854775807) (hk2 : -9223372036854775808 ≤ kk) (hb : chk kk mm ≠ 0) : OXDel kk mm nm (kDel 1) := fun b i1 W hL hJ _ _ HK => odel_bad (A0 := []) hk hk2 hb ent_del11 hL hJ (by simp [resI]) HK
theorem ox_list_bad (hk : kk ≤ 9223372036854775807) (hk2 : -9223372036854775808 ≤ kk) (hb : chk kk mm ≠ 0) : OXList kk mm nm (kList ([], 1)) := fun b i1 W hL hJ _ _ HK => olist_bad (A0 := []) hk hk2 hb ent_list11 hL hJ (by simp [resI]) HK
theorem ox_scrub_bad (hk : kk ≤ 9223372036854775807) (hk2 : -9223372036854775808 ≤ kk) (hb : chk kk mm ≠ 0) : OXScrub kk mm nm s (kScrub (0, 1)) := fun b i1 W hL hJ _ _ HK => oscrub_bad (A0 := []) hk hk2 hb ent_scrub11 hL hJ (by simp [resI]) HK
theorem shB_size (hK : 1 ≤ K) (s : ByteArray) (i : Nat) : (Zq.shB K M s i).size = 47 + Zq.eachN K s.size := by
  rw [Zq.shB, Zq.bs_size, Zq.fullL_length]
  show 15 + (Zq.bs (Zq.Sh.digest s.data.toList)).size + (Zq.shd K s i).size = _
  rw [Zq.bs_size, Zq.Sh.digest_length, Zq.shd_size hK]
theorem gans_none (K M i : Nat) : gdX K M i (gans none) = none := by rw [gdX, if_neg]; rintro ⟨h, _⟩; exact absurd h (by decide)
theorem gans_true (hK : 1 ≤ K) (hKM : K + M ≤ 255) (hs : s.size ≤ 65536) (hi : i < K + M) : gdX K M i (gans (some (Zq.shB K M s i))) = some (Zq.shX K M s i) := by
  have hok := Zq.shX_ok hK hKM hs hi
  have hd : (gans (some (Zq.shB K M s i))).d.data.toList = Zq.fullL (Zq.shX K M s i) := by
    show (Zq.bs _).data.toList = _
    simp [Zq.bs]
  rw [gdX, hd, Zq.dec_full hok, if_pos ⟨rfl, Zq.full_ok hok, rfl, rfl, rfl⟩]
theorem sts_set : (sts q m nm O).set i (st1 q m nm o) = sts q m nm (O.set i o) := by rw [sts, sts, List.map_set]
end
def wA : ByteArray := ⟨#[97]⟩
def wT : ByteArray := ⟨#[97, 98, 99]⟩
theorem wFit : ∀ d ∈ shL 2 1 wT, d.size ≤ 131072 ∧ ((wA.size + d.size : Nat) : Int) ≤ 1000 := by
  intro d hd
  obtain ⟨i, _, rfl⟩ := List.mem_map.1 hd
  rw [shB_size (by decide)]
  decide
def wO : List (Option ByteArray) := [some (Zq.shB 2 1 wT 0), none, some (Zq.shB 2 1 wT 2)]
theorem wO_eq : ((shL 2 1 wT).map some).set 1 none = wO := rfl
theorem wGn : Gn 2 1 wT (wO.map gans) := by
  intro i x hx
  have hi : i < 3 := by have := (List.getElem?_eq_some_iff.1 hx).1; simpa [wO] using this
  rw [List.getElem?_map] at hx
  match i, hi with
  | 0, _ => cases hx; exact .inr (gans_true (by decide) (by decide) (by decide) (by decide))
  | 1, _ => cases hx; exact .inl (gans_none _ _ _)
  | 2, _ => cases hx; exact .inr (gans_true (by decide) (by decide) (by decide) (by decide))
theorem wI : 2 ≤ (gdI 2 1 (wO.map gans)).length := by
  have h0 : (∃ x, (wO.map gans)[0]? = some x ∧ gdX 2 1 0 x ≠ none) := ⟨_, rfl, by rw [gans_true (by decide) (by decide) (by decide) (by decide)]; simp⟩
  have h2 : (∃ x, (wO.map gans)[2]? = some x ∧ gdX 2 1 2 x ≠ none) := ⟨_, rfl, by rw [gans_true (by decide) (by decide) (by decide) (by decide)]; simp⟩
  have m0 : 0 ∈ gdI 2 1 (wO.map gans) := List.mem_filter.2 ⟨List.mem_range.2 (by decide), @decide_eq_true _ (Classical.propDecidable _) h0⟩
  have m2 : 2 ∈ gdI 2 1 (wO.map gans) := List.mem_filter.2 ⟨List.mem_range.2 (by decide), @decide_eq_true _ (Classical.propDecidable _) h2⟩
  have hn := gdI_nodup (K := 2) (M := 1) (wO.map gans)
  match h : gdI 2 1 (wO.map gans), m0, m2, hn with
  | [], m0, _, _ => cases m0
  | [a], m0, m2, _ =>
    simp at m0 m2
    omega
  | _ :: _ :: _, _, _, _ => simp
theorem wF : fnd 2 1 (Zq.bs (Zq.Sh.digest wT.data.toList)) (wO.map gans) = ⟨wT, (gdI 2 1 (wO.map gans)).map (Zq.shX 2 1 wT), 0⟩ := fnd_true (by decide) (by decide) (by decide) (by decide) wGn (.inr rfl) wI
end Go.Proofs.YtagijldedngcoaaGreatDoor

namespace Go.Proofs.YtagijldedngcoaaGreatDoor
open Go.RowKit Go.Lib Go.Maps
noncomputable def wD : ByteArray := Zq.bs (Zq.Sh.digest wT.data.toList)
structure W6 (w w6 : World) (X b : Nat) (sv : Value) (bs : List (Nat × Nat)) : Prop where
  yp : YP (fun i => X < i ∧ i < b) w6 sv (sts 1000 2 wA wO) bs
  jb : ∃ ids tx, JB w6 b false 0 0 ⟨#[]⟩ ⟨#[]⟩ .nilFunc 0 0 ids tx 6
  kt : w6.heap[X]? = some (.cells #[.int .i64 2, .int .i64 1] 27 (0, 0))
  be : Below w.heap.size w w6
  la : Zq.Sh.Laid w6
  xx : w.heap.size ≤ X
  xb : X < b
  w2 : 2 ≤ w.heap.size
end Go.Proofs.YtagijldedngcoaaGreatDoor

namespace Go.Proofs.YtagijldedngcoaaGreatDoor
open Go.RowKit Go.Lib Go.Maps
theorem YP.mono {P P' : Nat → Prop} {w : World} {v : Value} {S : List SS} {bs : List (Nat × Nat)} (h : YP P w v S bs) (hp : ∀ i, P i → P' i) : YP P' w v S bs := by
  refine ⟨?_, h.len, h.px, fun e he => ⟨hp _ (h.inP e he).1, hp _ (h.inP e he).2⟩, h.ap⟩
  obtain ⟨a, c, e, h | ⟨g, o, ea, hr, hh⟩⟩ := h.rp
  · exact ⟨a, c, e, .inl h⟩
  · exact ⟨a, c, e, .inr ⟨g, o, ea, hp _ hr, hh⟩⟩
structure W1 (w w1 : World) (X : Nat) (sv : Value) (bs : List (Nat × Nat)) : Prop where
  yp : YP (fun i => X < i ∧ i < w1.heap.size) w1 sv (sts 1000 0 wA (List.replicate 3 none)) bs
  kt : w1.heap[X]? = some (.cells #[.int .i64 2, .int .i64 1] 27 (0, 0))
  be : Below w.heap.size w w1
  la : Zq.Sh.Laid w1
  xx : w.heap.size ≤ X
  w2 : 2 ≤ w.heap.size
structure W4 (w w6 : World) (X b : Nat) (sv : Value) (bs : List (Nat × Nat)) : Prop where
  yp : YP (fun i => X < i ∧ i < b) w6 sv (sts 1000 2 wA ((shL 2 1 wT).map some)) bs
  jb : ∃ ids tx, JB w6 b false 0 0 ⟨#[]⟩ ⟨#[]⟩ .nilFunc 0 0 ids tx 6
  kt : w6.heap[X]? = some (.cells #[.int .i64 2, .int .i64 1] 27 (0, 0))
  be : Below w.heap.size w w6
  la : Zq.Sh.Laid w6
  xx : w.heap.size ≤ X
  xb : X < b
  w2 : 2 ≤ w.heap.size
theorem W4.bel {w w6 w7 : World} {X b : Nat} {sv : Value} {bs : List (Nat × Nat)} (h : W4 w w6 X b sv bs) (hb : Below w6.heap.size w6 w7) : W4 w w7 X b sv bs := by
  obtain ⟨ids, tx, hj⟩ := h.jb
  exact ⟨h.yp.bel hb, ⟨ids, tx, hj.bel hb⟩, (hb.block X (lt_of_block h.kt)).trans h.kt, h.be.trans (hb.mono h.be.size), h.la.below hb h.la.size, h.xx, h.xb, h.w2⟩
theorem work_put {w w1 : World} {X : Nat} {sv : Value} {bs : List (Nat × Nat)} (h : W1 w w1 X sv bs) :
    Calls Tryz.prog 24 #[.agg #[.int .i64 2, .int .i64 1], .string ⟨#[97]⟩, .string ⟨#[97, 98, 99]⟩] w1 fun e w3 => ∃ b, e = .returned (.pointer (some ⟨b, 0, none⟩)) ∧ Hid (∃ P, JJ b (FinR b) (putP 2 1 wA wT kPut) [] P w3 ∧ (∀ i, P i → w1.heap.size ≤ i) ∧ Below w1.heap.size w1 w3) := by
  have hox : OXPut 2 1 wA wT (putP 2 1 wA wT kPut) := ox_put (K := 2) (M := 1) (by decide) (by decide) (by decide)
  refine (oputjob (w := w1) hox h.la).mono ?_
  rintro e w' ⟨b2, P, rfl, hJ, hB, hP⟩
  exact ⟨b2, rfl, P, hJ, hP, hB⟩
theorem work_run1 {w w1 w3 : World} {X b : Nat} {sv : Value} {bs : List (Nat × Nat)} (h1 : W1 w w1 X sv bs) (h : Hid (∃ P, JJ b (FinR b) (putP 2 1 wA wT kPut) [] P w3 ∧ (∀ i, P i → w1.heap.size ≤ i) ∧ Below w1.heap.size w1 w3)) :
    Calls Tryz.prog 33 #[.pointer (some ⟨b, 0, none⟩), sv] w3 fun e w4 => ∃ ai ci at_ ct, e = .returned (.tuple #[.agg #[.int .i64 0, .string ⟨#[]⟩, .int .i64 0, .slice ai 0 ci, .slice at_ 0 ct, .slice none 0 0, .slice none 0 0], .bool true]) ∧ Hid (W4 w w4 X b sv bs) := by
  obtain ⟨P, hJ, hP, hB⟩ := h.out
  obtain ⟨t1, t2, t3⟩ := putP_new (K := 2) (M := 1) (q := 1000) (m := 0) (nm := wA) (s := wT) (k := kPut) (y := ⟨0, 0, [], []⟩) rfl (by decide) (by decide) (by decide) wFit
  have hX := lt_of_block h1.kt
  have hw2 := h1.w2
  have hxx := h1.xx
  have hs := hB.size
  have hR := run_jobx (g := 2) (fkR b) (fun x => x) (fun _ _ _ _ h => h) hJ (h1.yp.bel hB) (fun i hi hy => by have := hP i hi; omega) (fun i hi => by omega) (sts_gd (by decide) (by decide) (by decide) (by decide) (fun d hd => by simp at hd)) (by rw [t1, List.length_append, aq_len, pq_len, shL_len]; decide) (by
      rw [t1]
      intro q hq
      rcases List.mem_append.1 hq with hq | hq
      · obtain ⟨i, _, rfl⟩ := List.mem_map.1 hq
        exact ⟨show wA.size ≤ maxLen by decide, show (⟨#[]⟩ : ByteArray).size ≤ maxLen by decide⟩
      · rw [pq] at hq
        obtain ⟨i, hi, rfl⟩ := List.mem_mapIdx.1 hq
        have := (wFit _ (List.getElem_mem hi)).1
        exact ⟨show wA.size ≤ maxLen by decide, by show (shL 2 1 wT)[i].size ≤ maxLen; unfold maxLen; omega⟩) (by rw [t2]; simp) (by rw [t2]; simp) (h1.la.below hB h1.la.size) (fun i hi => by have := hP i hi; omega) (fun i hi => by have := h1.yp.qs hi; omega)
  have hR2 := hR
  rw [t2] at hR2
  refine hR2.mono ?_
  rintro e w4 ⟨ids9, tx9, rfl, hI, hT, hN⟩
  obtain ⟨ai, ci, rfl⟩ := hI.shp
  obtain ⟨at_, ct, rfl⟩ := hT.shp
  refine ⟨ai, ci, at_, ct, rfl, ?_⟩
  have hy := hN.y
  rw [t1] at hy
  have t3' : ySs (sts 1000 0 wA (List.replicate 3 none)) (aq 2 wA ⟨#[]⟩ (2 + 1) ++ pq wA (shL 2 1 wT)) = sts 1000 2 wA ((shL 2 1 wT).map some) := t3
  rw [t3'] at hy
  obtain ⟨P', ⟨ids0, tx0, hJB, _, _⟩, hPb, hPP⟩ := hN.f
  have hbw : w1.heap.size ≤ b := by
    rcases hPP b hPb with h | h
    · exact hP b h
    · omega
  have e6 : ((yRs (sts 1000 0 wA (List.replicate 3 none)) ((putP 2 1 wA wT kPut).tr (sts 1000 0 wA (List.replicate 3 none)))).length : Int) = 6 := by
    have : (putP 2 1 wA wT kPut).tr (sts 1000 0 wA (List.replicate 3 none)) = aq 2 wA ⟨#[]⟩ (2 + 1) ++ pq wA (shL 2 1 wT) := t1
    rw [yRs_len, this, List.length_append, aq_len, pq_len, shL_len]; rfl
  rw [e6] at hJB
  have t2' : (putP 2 1 wA wT kPut).res (sts 1000 0 wA (List.replicate 3 none)) = ⟨0, 0, [], []⟩ := t2
  rw [t2'] at hJB
  have hnX : ¬ (P X ∨ Qs bs X) := by
    rintro (h | h)
    · have := hP X h; omega
    · have := h1.yp.qs h; omega
  have hbe3 : Below w.heap.size w w3 := h1.be.trans (hB.mono h1.be.size)
  refine ⟨hy.mono fun i hi => ⟨hi.1, by omega⟩, ⟨ids0, tx0, hJB⟩, ?_, ?_, hN.l, h1.xx, by omega, h1.w2⟩
  · rw [hN.g.block X (by omega) hnX, hB.block X hX]; exact h1.kt
  · exact hN.g.below hbe3 hbe3.size fun i hi => by
      rcases hi with hi | hi
      · have := hP i hi; omega
      · have := h1.yp.qs hi; omega
theorem work_wipe {w w5 : World} {X b : Nat} {sv : Value} {bs : List (Nat × Nat)} (h : W4 w w5 X b sv bs) : ∃ g o c e1, sv = .slice (some ⟨g, o, none⟩) 3 c ∧ w5.cell? ⟨g, o + 1, none⟩ = some (.pointer (some ⟨e1, 0, none⟩)) ∧
    Calls Tryz.prog 34 #[.pointer (some ⟨e1, 0, none⟩)] w5 fun e w6 => e = .returned (.tuple #[]) ∧ Hid (W6 w w6 X b sv bs) := by
  have hbl : bs.length = 3 := by rw [h.yp.len, sts_len, List.length_map, shL_len]
  obtain ⟨e1, he1⟩ : ∃ e1, bs[1]? = some e1 := ⟨_, List.getElem?_eq_getElem (by omega)⟩
  obtain ⟨a, c, e, hn | ⟨g, o, ea, hr, hg, hG⟩⟩ := h.yp.rp
  · have := congrArg List.length hn
    simp [hbl] at this
  rw [List.length_map, hbl] at e
  subst ea
  refine ⟨g, o, c, e1.1, e, hG 1 e1.1 (by rw [List.getElem?_map, he1]; rfl), ?_⟩
  have hs1 : (sts 1000 2 wA ((shL 2 1 wT).map some))[1]? = some (st1 1000 2 wA (some (Zq.shB 2 1 wT 1))) := rfl
  have hX1 : PS w5 e1.1 e1.2 1000 0 false 2 _ := h.yp.px 1 e1 _ he1 hs1
  refine (wipe_any hX1).mono ?_
  rintro er w6 ⟨rfl, hP6, hG6⟩
  refine ⟨rfl, ?_⟩
  have hin := h.yp.inP e1 (List.mem_of_getElem? he1)
  have hX6 : PX w6 e1.1 e1.2 (st1 1000 2 wA none) := hP6
  have hy := h.yp.put he1 hs1 hG6 hX6
  rw [sts_set, wO_eq] at hy
  obtain ⟨ids, tx, hj⟩ := h.jb
  have hxx := h.xx
  have hw2 := h.w2
  have hla := h.la.size
  refine ⟨hy, ⟨ids, tx, hj.gs hG6 (fun hi => by rcases hi with hi | hi <;> omega)⟩, ?_, ?_, ?_, h.xx, h.xb, h.w2⟩
  · rw [hG6.block X (lt_of_block h.kt) (fun hi => by rcases hi with hi | hi <;> omega)]; exact h.kt
  · exact hG6.below h.be h.be.size fun i hi => by rcases hi with hi | hi <;> omega
  · exact laid_gs h.la hG6 fun i hi => by rcases hi with hi | hi <;> omega
end Go.Proofs.YtagijldedngcoaaGreatDoor
