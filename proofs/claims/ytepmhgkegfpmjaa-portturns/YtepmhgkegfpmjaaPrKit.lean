/-
  Port: what the statements' walks share: a run that is refused; a list copied; the document's list along its answers.
-/
import Derived.Test.YtepmhgkegfpmjaaPoWork
import Derived.Test.YtepmhgkegfpmjaaPoDocG
import Derived.Test.YtepmhgkegfpmjaaPoDocR
namespace Go.Proofs.Ytepmhgkegfpmjaa
open Go.RowKit Go.Lib Go.Maps
set_option maxRecDepth 100000 in
theorem run_neg (w : World) (b : Nat) (v : Value) (most : Int) (hm : most < 0) :
    Calls Try.prog 19 #[.pointer (some ⟨b, 0, none⟩), v, .int .i64 most] w fun e w' => e = .returned (.tuple #[.int .i64 0, .int .i64 1]) ∧ w' = w := by
  go_enter Try.func19, Try.ntmps19
  go_wp2
  go_ret2
  exact ⟨rfl, rfl⟩
set_option maxRecDepth 100000 in
theorem run_nil (w : World) (v : Value) (most : Int) :
    Calls Try.prog 19 #[.pointer none, v, .int .i64 most] w fun e w' => e = .returned (.tuple #[.int .i64 0, .int .i64 4]) ∧ w' = w := by
  go_enter Try.func19, Try.ntmps19
  go_wp2
  go_ret2
  exact ⟨rfl, rfl⟩
theorem copyQ {w : World} {v : Value} {l : List QT} {r : Nat → Prop} (hl : LS q4 4 r w v l) (hn : l.length ≤ 1000000) :
    ∃ a c w', (Builtin.append_ #[22, 22] 22 #[.slice (some ⟨w.heap.size, 0, none⟩) 0 0, v]).run Try.prog (w.alloc (.cells #[] 38)) = .ok (.slice a l.length c) w' ∧ OW q4 4 38 w.heap.size (.slice a l.length c) l w' ∧ Below w.heap.size w w' := by
  have hal : Below w.heap.size w (w.alloc (.cells #[] 38)) := (Below.refl _ _).alloc (Nat.le_refl _) _
  obtain ⟨v', w', h1, h2, h3, _⟩ := OW.app (ST := 22) q4_len (by decide) (fun x _ => q4_one x) Try.underlying22 Try.infoQ rfl (OW.empty q4 4 38 (Nat.le_refl w.heap.size)) (hl.bel hal) (by simp; omega) (by simp; omega) (by simp)
  rw [List.nil_append] at h2
  obtain ⟨a, c, rfl⟩ := h2.shp
  exact ⟨a, c, w', h1, h2, hal.grown h3 (by simp) (fun k hk => by simp [Value.ownBlock] at hk; omega)⟩
/-- The document's list behind the answers A; its texts lie in blocks of P. -/
def KL (P : Nat → Prop) (w : World) (kb : Nat) (lv : Value) (A : List RR) : Prop :=
  ∃ ids tx, KB w kb lv (A.length : Int) (resC A) ((resN A : Nat) : Int) ids tx ∧ LS t1 1 P w ids (resI A) ∧ LS t1 1 P w tx (resT A) ∧ ¬ P kb
section
variable {P p r0 : Nat → Prop} {w w' : World} {kb : Nat} {lv u : Value} {A : List RR} {ll : List ByteArray}
theorem KL.lt (h : KL P w kb lv A) : kb < w.heap.size := by obtain ⟨_, _, h, _⟩ := h; exact h.lt
theorem KL.gs (h : KL P w kb lv A) (hg : Gs p w w') (hk : ¬ p kb) (hp : ∀ i, P i → ¬ p i) : KL P w' kb lv A := by
  obtain ⟨ids, tx, h1, h2, h3, h4⟩ := h
  exact ⟨ids, tx, h1.gs hg hk, h2.gs hg hp, h3.gs hg hp, h4⟩
theorem KL.bel (h : KL P w kb lv A) (hb : Below w.heap.size w w') : KL P w' kb lv A := by
  obtain ⟨ids, tx, h1, h2, h3, h4⟩ := h
  exact ⟨ids, tx, h1.bel hb h1.lt, h2.bel hb, h3.bel hb, h4⟩
theorem kl_give (h : KL P w kb lv A) (hA : A.length ≤ 1000000) (hu : LS t1 1 r0 w u ll) (hr0 : ¬ r0 kb) (cc : Int) (dd : ByteArray) (hI : (resI A).length + ll.length ≤ 1000000000000) :
    Calls Try.prog 17 #[.pointer (some ⟨kb, 0, none⟩), .agg #[.int .i64 cc, .string dd, u]] w fun e w' => e = .returned (.tuple #[]) ∧ KL (fun i => w.heap.size ≤ i ∧ i < w'.heap.size) w' kb lv (A ++ [⟨cc, dd, ll⟩]) ∧ Gs (fun i => i = kb) w w' := by
  obtain ⟨ids, tx, h1, h2, h3, h4⟩ := h
  have hN := resN_le A
  refine (kgive h1 (by omega) (by omega) (by omega) (by omega) h2 h3 h4 hu hr0 hI (by rw [resT_len]; omega) cc dd).mono ?_
  rintro e w' ⟨rfl, jds, jx, hK, hT1, hT2, hG⟩
  have hkl := h1.lt
  refine ⟨rfl, ⟨jds, jx, ?_, ?_, ?_, fun e => by omega⟩, hG⟩
  · have e1 : ((A ++ [(⟨cc, dd, ll⟩ : RR)]).length : Int) = (A.length : Int) + 1 := by simp
    have e2 : resC (A ++ [(⟨cc, dd, ll⟩ : RR)]) = if resC A = 0 then cc else resC A := by rw [resC_snoc]; rfl
    have e3 : ((resN (A ++ [(⟨cc, dd, ll⟩ : RR)]) : Nat) : Int) = if cc = 0 then ((resN A : Nat) : Int) + 1 else ((resN A : Nat) : Int) := by
      rw [resN_snoc, stN]
      dsimp only
      split <;> simp
    rw [e1, e2, e3]
    exact hK
  · rw [resI_snoc]; exact hT1.ls fun i hi => hT1.lt i hi
  · rw [resT_snoc]; exact hT2.ls fun i hi => hT2.lt i hi
theorem kl_res {l : List QT} {a : Option Addr} {cp : Nat} (h : KL P w kb (.slice a l.length cp) A) (hA : A.length ≤ l.length) :
    Calls Try.prog 15 #[.pointer (some ⟨kb, 0, none⟩)] w fun e w' => ∃ ids tx, e = .returned (.agg #[.int .i64 (RC l A), .string ⟨#[]⟩, .int .i64 ((RN l A : Nat) : Int), ids, tx, .slice none 0 0, .slice none 0 0]) ∧ TR w' ids (RI l A) ∧ TR w' tx (RT l A) ∧ Below w.heap.size w w' := by
  obtain ⟨ids, tx, h1, h2, h3, _⟩ := h
  refine (kresult h1 (by obtain ⟨a, c, e⟩ := h2.shp; exact ⟨a, _, c, e⟩) (by obtain ⟨a, c, e⟩ := h3.shp; exact ⟨a, _, c, e⟩)).mono ?_
  rintro e w' ⟨rfl, hB⟩
  by_cases hlt : A.length < l.length
  · rw [if_neg (by omega), RC, RN, RI, RT, if_pos hlt, if_pos hlt, if_pos hlt, if_pos hlt]
    exact ⟨_, _, rfl, ⟨_, _, rfl, .inl rfl⟩, ⟨_, _, rfl, .inl rfl⟩, hB⟩
  · rw [if_pos (by omega), RC, RN, RI, RT, if_neg hlt, if_neg hlt, if_neg hlt, if_neg hlt]
    exact ⟨_, _, rfl, h2.tr.bel hB, h3.tr.bel hB, hB⟩
theorem RI_le (l : List QT) (A : List RR) : (RI l A).length ≤ (resI A).length := by rw [RI]; split <;> simp
theorem RT_le (l : List QT) (A : List RR) : (RT l A).length ≤ A.length := by rw [RT]; split <;> simp [resT]
theorem YP.at {S : List SS} {bs : List (Nat × Nat)} {a : Option Addr} {n c i : Nat} {e : Nat × Nat} (h : YP P w (.slice a n c) S bs) (he : bs[i]? = some e) : ∃ g o, a = some ⟨g, o, none⟩ ∧ w.cell? ⟨g, o + i, none⟩ = some (.pointer (some ⟨e.1, 0, none⟩)) := by
  obtain ⟨a', c', e', h | ⟨g, o, ea, _, _, hC⟩⟩ := h.rp
  · have : bs = [] := by simpa using h
    rw [this] at he; simp at he
  · cases e'
    exact ⟨g, o, ea, hC i e.1 (by rw [List.getElem?_map, he]; rfl)⟩
theorem YD.at {S : List SS} {rs : List Nat} {a : Option Addr} {n c i b : Nat} (h : YD P w (.slice a n c) S rs) (he : rs[i]? = some b) : ∃ g o, a = some ⟨g, o, none⟩ ∧ w.cell? ⟨g, o + i, none⟩ = some (.pointer (some ⟨b, 0, none⟩)) := by
  obtain ⟨a', c', e', h | ⟨g, o, ea, _, _, hC⟩⟩ := h.rp
  · rw [h] at he; simp at he
  · cases e'
    exact ⟨g, o, ea, hC i b he⟩
theorem rd_names {b : Nat} {s : SS} (h : RD w b s) (bg : ByteArray) (hl : s.L.length ≤ 1000000) : Calls Try.prog 21 #[.pointer (some ⟨b, 0, none⟩), .string bg] w fun e w' => ∃ v', e = .returned v' ∧ TS w.heap.size v' (namesL s.L bg) w' ∧ Below w.heap.size w w' := by
  obtain ⟨v, h1, h2⟩ := h
  exact rnames_any bg h1 h2.ol hl
theorem rd_get {b : Nat} {s : SS} (h : RD w b s) (n : ByteArray) (hl : s.L.length ≤ 1000000) (hL : Ris s.L) : Calls Try.prog 25 #[.pointer (some ⟨b, 0, none⟩), .string n] w fun e w' => e = .returned (.tuple #[.string ((thr s.L n).getD ⟨#[]⟩), .bool (thr s.L n).isSome]) ∧ Below w.heap.size w w' := by
  obtain ⟨v, h1, h2⟩ := h
  exact rget_any n h1 h2.ol hl hL
theorem names_small {L : List OB} (h : ∀ p ∈ L, p.n.size ≤ 96 ∧ p.d.size ≤ 131072) {bg x : ByteArray} (hx : x ∈ namesL L bg) : x.size ≤ 96 := by
  rw [namesL, List.mem_map] at hx
  obtain ⟨p, hp, rfl⟩ := hx
  exact (h p (List.mem_filter.1 hp).1).1
end
end Go.Proofs.Ytepmhgkegfpmjaa
