/-
  Port: All, Start, List.
-/
import Derived.Test.YtepmhgkegfpmjaaPoGive
namespace Go.Proofs.Ytepmhgkegfpmjaa
open Go.RowKit Go.Lib Go.Maps
section
variable {r r0 p : Nat → Prop} {w w' : World} {b : Nat} {st k s c N cc : Int} {n d dd : ByteArray} {go ids tx u v : Value} {op : Bool} {l : List QT}
set_option maxRecDepth 100000 in
set_option maxHeartbeats 3200000 in
theorem all_any (hJ : JB w b true st k n d go c N ids tx s) (hl : LS q4 4 r0 w v l) (hn : l.length ≤ 1000000) (fn : Fn) (fi ca : Array Value) {Q : World → Prop}
    (HC : ∀ W a1 a2 a3 a4 a5 rv r, CL r W b l [] a1 a2 a3 a4 a5 (.func fn fi ca) rv (.slice none 0 0) → JB W b true st k n d go c N ids tx s → Below w.heap.size w W → (∀ i, r i → w.heap.size ≤ i) → w.heap.size ≤ a4 → a4 < W.heap.size → Calls Try.prog 47 #[.pointer (some ⟨a4, 0, none⟩), .pointer (some ⟨a3, 0, none⟩), .pointer (some ⟨a1, 0, none⟩), .pointer (some ⟨a5, 0, none⟩), .pointer (some ⟨a2, 0, none⟩)] W fun e w' => e = .returned (.tuple #[]) ∧ Q w') :
    Calls Try.prog 31 #[.pointer (some ⟨b, 0, none⟩), v, .func fn fi ca] w fun e w' => e = .returned (.tuple #[]) ∧ Q w' := by
  obtain ⟨U, hU⟩ : ∃ U, U = (w.alloc (.cells #[.pointer (some ⟨b, 0, none⟩)] 68)).alloc (.cells #[.func fn fi ca] 79) := ⟨_, rfl⟩
  obtain ⟨A, hA⟩ : ∃ A, A = w.heap.size := ⟨_, rfl⟩
  have hBU : Below w.heap.size w U := by rw [hU]; exact ((Below.refl _ _).alloc (Nat.le_refl _) _).alloc (by simp) _
  have hJU := hJ.bel hBU
  have hszU : U.heap.size = A + 2 := by rw [hU, hA]; simp
  have h1 : U.heap[A]? = some (.cells #[.pointer (some ⟨b, 0, none⟩)] 68 (0, 0)) := by rw [hU, hA, Below.heap_alloc _ _ _ (by simp)]; exact heap_alloc_new w _
  have h2 : U.heap[A + 1]? = some (.cells #[.func fn fi ca] 79 (0, 0)) := by
    rw [hU, hA]
    have := heap_alloc_new (w.alloc (.cells #[.pointer (some ⟨b, 0, none⟩)] 68)) (.cells #[.func fn fi ca] 79 (0, 0))
    simpa using this
  have y1 : U.cell? ⟨A, 0, none⟩ = some (.pointer (some ⟨b, 0, none⟩)) := by simp [World.cell?, h1]
  have HO := hide (isOpen_any hJU)
  have HQ := hide (cloneQ (hl.bel hBU) hn)
  have hbA : b < A := by rw [hA]; exact hJ.lt
  have HF := hide (And.intro h1 (And.intro h2 (And.intro hszU (And.intro hJU (And.intro hBU (And.intro hbA hA))))))
  have HU := hide hU
  have HA := hide hA
  have HCC := hide HC
  have hmf : ∀ (fn : Fn) (first cap : Array Value) (w : World), (Instr.makeFunc fn first cap).run Try.prog w = .ok (.func fn first cap) w := fun _ _ _ _ => rfl
  clear hl hJU hszU h1 h2 hBU hU hA HC hJ hbA
  go_enter Try.func31, Try.ntmps31
  go_upto_region 1 with fail
  rw [← HU.out, ← HA.out]
  go_wp2_with (go_at_call 45; refine HO.out.mono ?_; rintro e w1 ⟨rfl, rfl⟩)
  refine HQ.out.mono ?_
  rintro e w2 ⟨rv, rfl, hO2, hB2⟩
  obtain ⟨h1, h2, hszU, hJU, hBU, hbA, hA⟩ := HF.out
  obtain ⟨ar, cr, hrv⟩ := hO2.shp
  subst hrv
  obtain ⟨g, hg⟩ : ∃ g, g = w2.heap.size := ⟨_, rfl⟩
  obtain ⟨W, hW⟩ : ∃ W, W = ((w2.alloc (.cells #[.slice ar l.length cr] 22)).alloc (.cells #[.slice none 0 0] 23)).alloc (.cells #[.func (.func 47) #[] #[.pointer (some ⟨g + 1, 0, none⟩), .pointer (some ⟨g, 0, none⟩), .pointer (some ⟨A, 0, none⟩), .pointer (some ⟨g + 2, 0, none⟩), .pointer (some ⟨A + 1, 0, none⟩)]] 1) := ⟨_, rfl⟩
  have hBW : Below w2.heap.size w2 W := by rw [hW]; exact (((Below.refl _ _).alloc (Nat.le_refl _) _).alloc (by simp) _).alloc (by simp; omega) _
  have hszW : W.heap.size = g + 3 := by rw [hW, hg]; simp
  have h3 : W.heap[g]? = some (.cells #[.slice ar l.length cr] 22 (0, 0)) := by
    rw [hW, hg, Below.heap_alloc _ _ _ (by simp; omega), Below.heap_alloc _ _ _ (by simp)]
    exact heap_alloc_new w2 _
  have h4 : W.heap[g + 1]? = some (.cells #[.slice none 0 0] 23 (0, 0)) := by
    rw [hW, hg, Below.heap_alloc _ _ _ (by simp)]
    have := heap_alloc_new (w2.alloc (.cells #[.slice ar l.length cr] 22)) (.cells #[.slice none 0 0] 23 (0, 0))
    simpa using this
  have h5 : W.heap[g + 2]? = some (.cells #[.func (.func 47) #[] #[.pointer (some ⟨g + 1, 0, none⟩), .pointer (some ⟨g, 0, none⟩), .pointer (some ⟨A, 0, none⟩), .pointer (some ⟨g + 2, 0, none⟩), .pointer (some ⟨A + 1, 0, none⟩)]] 1 (0, 0)) := by
    rw [hW]
    have := heap_alloc_new ((w2.alloc (.cells #[.slice ar l.length cr] 22)).alloc (.cells #[.slice none 0 0] 23)) (.cells #[.func (.func 47) #[] #[.pointer (some ⟨g + 1, 0, none⟩), .pointer (some ⟨g, 0, none⟩), .pointer (some ⟨A, 0, none⟩), .pointer (some ⟨g + 2, 0, none⟩), .pointer (some ⟨A + 1, 0, none⟩)]] 1 (0, 0))
    simpa [hg] using this
  have hBUW : Below w1.heap.size w1 W := hB2.trans (hBW.mono hB2.size)
  have hB2s := hB2.size
  have hO2l := hO2.lt
  have hCL : CL (fun i => i = A ∨ i = A + 1 ∨ i = g ∨ i = g + 2 ∨ (Value.slice ar l.length cr).ownBlock = some i) W b l [] A (A + 1) g (g + 1) (g + 2) (.func fn fi ca) (.slice ar l.length cr) (.slice none 0 0) := by
    refine ⟨(hBUW.block A (by omega)).trans h1, (hBUW.block (A + 1) (by omega)).trans h2, h3, h4, h5, ((hO2.keep hBW).ls q4_len fun i hi => .inr (.inr (.inr (.inr hi)))), OW.nil _ _ _ _ _, (fun x hx => by simp at hx), .inl rfl, .inr (.inl rfl), .inr (.inr (.inl rfl)), .inr (.inr (.inr (.inl rfl))), ?_, ?_, (fun i e => by simp [Value.ownBlock] at e), ?_⟩
    · rintro (e | e | e | e | e)
      · omega
      · omega
      · omega
      · omega
      · have := (hO2l _ e).1; omega
    · rintro (e | e | e | e | e)
      · omega
      · omega
      · omega
      · omega
      · have := (hO2l _ e).2; omega
    · rintro i (e | e | e | e | e)
      · omega
      · omega
      · omega
      · omega
      · have := (hO2l _ e).2; omega
  have HN := hide (HCC.out W A (A + 1) g (g + 1) (g + 2) _ _ hCL (hJU.bel hBUW) (hBU.trans (hBUW.mono hBU.size)) (by
    rintro i (e | e | e | e | e)
    · omega
    · omega
    · omega
    · omega
    · have := (hO2l _ e).1; omega) (by omega) (by omega))
  have y5 : W.cell? ⟨g + 2, 0, none⟩ = some (.func (.func 47) #[] #[.pointer (some ⟨g + 1, 0, none⟩), .pointer (some ⟨g, 0, none⟩), .pointer (some ⟨A, 0, none⟩), .pointer (some ⟨g + 2, 0, none⟩), .pointer (some ⟨A + 1, 0, none⟩)]) := by simp [World.cell?, h5]
  have HW := hide hW
  have Hg := hide hg
  clear hCL h1 h2 hszU hJU hBU hbA hA h3 h4 h5 hBUW hB2s hO2l hO2 hB2 hBW hszW hW hg HF
  generalize l.length = ln at *
  go_upto_region 6 with fail
  rw [← Hg.out, ← HW.out]
  go_wp2_with fail
  refine HN.out.mono ?_
  rintro e w7 ⟨rfl, hQ⟩
  have HQ2 := hide hQ
  clear hQ
  go_wp2
  go_end0
  exact ⟨rfl, HQ2.out⟩
set_option maxRecDepth 100000 in
set_option maxHeartbeats 3200000 in
theorem start_list (kb : Nat) {Q : Nat → World → Prop}
    (HC : ∀ V, JB V w.heap.size true 0 0 ⟨#[]⟩ ⟨#[]⟩ .nilFunc 0 0 (.slice none 0 0) (.slice none 0 0) 0 → Below w.heap.size w V → Calls Try.prog 30 #[.pointer (some ⟨w.heap.size, 0, none⟩), .pointer (some ⟨kb, 0, none⟩)] V fun e w' => e = .returned (.tuple #[]) ∧ RDY w.heap.size (Q w.heap.size) w') :
    Calls Try.prog 26 #[.func (.func 30) #[] #[.pointer (some ⟨kb, 0, none⟩)]] w fun e w' => e = .returned (.pointer (some ⟨w.heap.size, 0, none⟩)) ∧ Q w.heap.size w' := by
  obtain ⟨U, hU⟩ : ∃ U, U = w.alloc (.cells #[.bool true, .int .i64 0, .int .i64 0, .string ⟨#[]⟩, .string ⟨#[]⟩, .nilFunc, .int .i64 0, .string ⟨#[]⟩, .int .i64 0, .slice none 0 0, .slice none 0 0, .slice none 0 0, .slice none 0 0, .int .i64 0] 83) := ⟨_, rfl⟩
  have hJ : JB U w.heap.size true 0 0 ⟨#[]⟩ ⟨#[]⟩ .nilFunc 0 0 (.slice none 0 0) (.slice none 0 0) 0 := by rw [hU]; exact heap_alloc_new w _
  have HN := hide (HC U hJ (by rw [hU]; exact (Below.refl _ _).alloc (Nat.le_refl _) _))
  have HU := hide hU
  obtain ⟨g1, g2, g3, g4⟩ := fe72
  clear hJ hU HC
  go_enter Try.func26, Try.ntmps26
  go_upto_region 2 with fail
  rw [← HU.out]
  go_wp2_with fail
  refine HN.out.mono ?_
  rintro e w1 ⟨rfl, hR⟩
  have HS := hide (settle_rdy hR)
  clear hR
  go_wp2_with fail
  refine HS.out.mono ?_
  rintro e w2 ⟨rfl, hQ⟩
  have HQ := hide hQ
  clear hQ
  go_wp2
  go_ret
  exact ⟨rfl, HQ.out⟩
set_option maxRecDepth 100000 in
set_option maxHeartbeats 3200000 in
theorem start_one (kb : Nat) {Q : Nat → World → Prop}
    (HC : ∀ V, JB V w.heap.size true 0 0 ⟨#[]⟩ ⟨#[]⟩ .nilFunc 0 0 (.slice none 0 0) (.slice none 0 0) 0 → Below w.heap.size w V → Calls Try.prog 27 #[.pointer (some ⟨kb, 0, none⟩), .pointer (some ⟨w.heap.size, 0, none⟩)] V fun e w' => e = .returned (.tuple #[]) ∧ RDY w.heap.size (Q w.heap.size) w') :
    Calls Try.prog 26 #[.func (.func 27) #[.pointer (some ⟨kb, 0, none⟩)] #[]] w fun e w' => e = .returned (.pointer (some ⟨w.heap.size, 0, none⟩)) ∧ Q w.heap.size w' := by
  obtain ⟨U, hU⟩ : ∃ U, U = w.alloc (.cells #[.bool true, .int .i64 0, .int .i64 0, .string ⟨#[]⟩, .string ⟨#[]⟩, .nilFunc, .int .i64 0, .string ⟨#[]⟩, .int .i64 0, .slice none 0 0, .slice none 0 0, .slice none 0 0, .slice none 0 0, .int .i64 0] 83) := ⟨_, rfl⟩
  have hJ : JB U w.heap.size true 0 0 ⟨#[]⟩ ⟨#[]⟩ .nilFunc 0 0 (.slice none 0 0) (.slice none 0 0) 0 := by rw [hU]; exact heap_alloc_new w _
  have HN := hide (HC U hJ (by rw [hU]; exact (Below.refl _ _).alloc (Nat.le_refl _) _))
  have HU := hide hU
  obtain ⟨g1, g2, g3, g4⟩ := fe72
  clear hJ hU HC
  go_enter Try.func26, Try.ntmps26
  go_upto_region 2 with fail
  rw [← HU.out]
  go_wp2_with fail
  refine HN.out.mono ?_
  rintro e w1 ⟨rfl, hR⟩
  have HS := hide (settle_rdy hR)
  clear hR
  go_wp2_with fail
  refine HS.out.mono ?_
  rintro e w2 ⟨rfl, hQ⟩
  have HQ := hide hQ
  clear hQ
  go_wp2
  go_ret
  exact ⟨rfl, HQ.out⟩
end
end Go.Proofs.Ytepmhgkegfpmjaa
