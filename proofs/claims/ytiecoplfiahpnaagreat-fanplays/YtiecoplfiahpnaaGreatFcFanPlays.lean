/-
  FanPlays: for every list of jobs: jobs that put, get, delete and list at any number of stores, some of them down or failing, come to what the document has, and leave the stores so. Every input; no condition of ours.
-/
import Derived.Test.YtiecoplfiahpnaaGreatFc13
namespace Go.Proofs.YtiecoplfiahpnaaGreat
open Go.ChangeShapes Go.WideShapes Go.ChangeAt Go.RowKit Go.Lib
theorem weights_mem_all {H : Type} {P : Program} {e : TypeId} {d : DataW H} {n : Nat} : ∀ {l : List (DataW H)}, d ∈ l → n ∈ d.weights P e → n ∈ DataW.weightsAll P e l
  | [], h, _ => by simp at h
  | x :: r, h, hn => by
    simp only [DataW.weightsAll, List.mem_append]
    rcases List.mem_cons.1 h with rfl | h
    · exact .inl hn
    · exact .inr (weights_mem_all h hn)
theorem sized_in {H : Type} {P : Program} {ts : List TypeId} {ds : List (DataW H)} (h : (DataW.weightsEach P ts ds).all (· ≤ reachBytes) = true) {j i : Nat} {t e s e2 : TypeId} {fl : Array Field} {es sp fs elems spare : List (DataW H)} (ht : ts[j]? = some t) (hd : ds[j]? = some (.slice es sp)) (hu : P.underlying t = some (.slice e)) (hs : P.underlying e = some (.struct fl)) (hm : DataW.agg fs ∈ es) (hi : (fl.toList.map (·.type))[i]? = some s) (hf : fs[i]? = some (.slice elems spare)) (hu2 : P.underlying s = some (.slice e2)) :
    (elems.length + spare.length) * P.bytesOf e2 ≤ reachBytes := by
  have k1 : (elems.length + spare.length) * P.bytesOf e2 ∈ (DataW.agg fs).weights P e := by
    rw [DataW.weights, hs]
    exact DataW.weights_mem_each hi hf _ (by simp [DataW.weights, hu2])
  have k2 : (elems.length + spare.length) * P.bytesOf e2 ∈ (DataW.slice es sp).weights P t := by
    simp only [DataW.weights, hu, List.mem_cons, List.mem_append]
    exact .inr (.inl (weights_mem_all hm k1))
  have := List.all_eq_true.1 h _ (DataW.weights_mem_each ht hd _ k2)
  simpa using this
theorem Tryz.bSt : Tryz.prog.bytesOf 9 = 16 := by kernel_rfl
set_option maxRecDepth 100000 in
theorem fanPlays_lifted (os : Os) (started : os.Started) (H : Type) (enc : TypeId × Value → H) :
    ReturnsInHanded {} Tryz.checked os 3 .any (Rows.fanPlaysSpec.pre6 enc Tryz.prog Tryz.f3 Rows.fanPlaysRow.domain false) (Rows.fanPlaysSpec.post enc Tryz.prog Tryz.f3 false true false false) := by
  refine returnsInHanded_of_change_sized (C := Tryz.checked) Tryz.own started (by kernel_rfl) Tryz.func3
    (ChangeSpec.witness6 (enc := enc) (C := Tryz.checked) false ⟨#[], #[.slice none 0 0], []⟩ 8 (by kernel_rfl) (by kernel_rfl) (by kernel_rfl) (by kernel_rfl)) ?_
  intro W base args ds gs before hval0 hW _ hsz0 _
  have hsz : (DataW.weightsEach Tryz.prog (Tryz.f3.params.toList ++ Rows.fanPlaysSpec.plain.varTypes Tryz.prog) (ds ++ gs)).all (· ≤ reachBytes) = true := hsz0
  have hval : ∀ (j : Nat) t v, Tryz.f3.params[j]? = some t → args[j]? = some v → Value.okWide Tryz.prog W .any base t v := hval0
  have hW' := hW
  obtain ⟨p, q, hA0, hV, rfl, _, _⟩ := hW
  have hA : DataW.TrodAll enc Tryz.prog W 0 (fun _ => true) true Tryz.f3.params.toList args.toList ds p := hA0
  rw [Tryz.params3] at hA hval hsz
  obtain ⟨v0, d0, rfl, rfl, h0⟩ := trodAll_one hA
  obtain ⟨rfl, rfl⟩ := trodVars_none hV
  have lt0 : ∀ x ∈ p, x.block < W.heap.size := by obtain ⟨m, hm⟩ := h0; exact DataW.trod_lt m _ _ _ hm
  obtain ⟨a, len, cap, rfl⟩ := okWide_slice Tryz.underlying22 (hval 0 22 v0 rfl rfl)
  obtain ⟨l, hT, hl, hls⟩ := acts_of h0
  obtain ⟨_, _, he0, _⟩ := id hT
  simp only [Value.slice.injEq] at he0
  obtain ⟨rfl, rfl, rfl⟩ := he0
  have hls' : ∀ x ∈ l, LS t1 1 (fun _ => True) W x.dv x.ds ∧ x.nm.size ≤ maxLen ∧ (∀ b ∈ x.ds, b.size ≤ maxLen) ∧ x.ds.length * 16 + 16 ≤ 140737488355328 := fun x hx => by
    obtain ⟨h1, h2, h3, h4⟩ := hls x hx
    refine ⟨h1, h2, h3, ?_⟩
    rcases h4 with h4 | ⟨es, sp, fs, elems, spare, rfl, hm, hf, hq⟩
    · rw [h4]; decide
    · have := sized_in hsz (j := 0) (i := 5) (t := 22) rfl rfl Tryz.underlying22 Tryz.underlying35 hm rfl hf Tryz.underlying33
      rw [Tryz.bSt] at this
      simp [reachBytes] at this
      omega
  clear hA0 hval0 hsz0
  refine (plays_walk9 hT hl hls').mono fun e W' ⟨he, bel⟩ => ?_
  subst he
  exact ⟨_, rfl, _, _, _, [], _, [], hW', trodAll_mk1 (shut_bool Tryz.underlying4 _), trodAll_mk1 (Below.trod Tryz.laidOut (by kernel_rfl) (of_decide_eq_true (by kernel_rfl)) h0 bel lt0), rfl, bel.frame _, fun h => by cases h⟩

theorem fanPlays_holds : Rows.FanPlaysSaid :=
  OpenClaim.holds_of_wide 3 Tryz.f3 rfl rfl rfl rfl rfl rfl rfl ⟨rfl, rfl, rfl, rfl, rfl⟩ rfl rfl rfl rfl rfl (by kernel_rfl) Tryz.func3 (by kernel_rfl)
    (of_decide_eq_true (by kernel_rfl)) (by unfold Func.isWrapper; first | (rw [if_pos (by decide +kernel)]; kernel_rfl) | (rw [if_neg (by decide +kernel)]; exact ⟨rfl, rfl⟩))
    (fun os started H enc _ => fanPlays_lifted os started H enc)
end Go.Proofs.YtiecoplfiahpnaaGreat
