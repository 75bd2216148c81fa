/-
  Lz: bytes that are repeated, by the program.
-/
import Derived.Test.YtgigiamnhjelmaaDoorLpSq2
import Derived.Test.YtgigiamnhjelmaaDoorLzLaw5
import Derived.Laws.CopyRow
import Derived.Lib.BufferWrite
import Derived.Deep.RegionHeldLaw
namespace Go.Proofs.YtgigiamnhjelmaaDoor
open Go.RowKit Go.Lib
/-! ### In plain terms -/
theorem rp_get (d : Nat) (h1 : 1 ≤ d) : ∀ (k : Nat) (out : List UInt8) (j : Nat), d ≤ out.length → j < out.length + k → (rp d k out).getD j 0 = if j < out.length then out.getD j 0 else out.getD (out.length - d + (j - (out.length - d)) % d) 0
  | 0, out, j, h, hj => by rw [rp, if_pos (by omega)]
  | k + 1, out, j, h, hj => by
    have hl : (out ++ [out.getD (out.length - d) 0]).length = out.length + 1 := by simp
    have hget : ∀ i, i ≤ out.length → (out ++ [out.getD (out.length - d) 0]).getD i 0 = if i < out.length then out.getD i 0 else out.getD (out.length - d) 0 := fun i hi => by
      rw [List.getD_eq_getElem?_getD, List.getElem?_append]
      split
      · rw [List.getD_eq_getElem?_getD]
      · rw [show i - out.length = 0 by omega]
        rfl
    rw [rp, rp_get d h1 k _ j (by omega) (by omega), hl]
    by_cases c1 : j < out.length
    · rw [if_pos (by omega), if_pos c1, hget j (by omega), if_pos c1]
    · rw [if_neg c1]
      by_cases c2 : j < out.length + 1
      · obtain rfl : j = out.length := by omega
        rw [if_pos (by omega), hget _ (Nat.le_refl _), if_neg (by omega), show out.length - (out.length - d) = d by omega, Nat.mod_self, Nat.add_zero]
      · rw [if_neg c2]
        obtain ⟨x, hx⟩ : ∃ x, x = j - (out.length - d) := ⟨_, rfl⟩
        have hx1 : j - (out.length + 1 - d) = x - 1 := by omega
        rw [hx1, ← hx]
        have hm := Nat.mod_lt x (show 0 < d by omega)
        by_cases c3 : x % d = 0
        · have e : (x - 1) % d = d - 1 := by
            obtain ⟨q, hq⟩ : ∃ q, q = x / d := ⟨_, rfl⟩
            have e1 := Nat.div_add_mod x d
            rw [← hq, c3] at e1
            have hq1 : 1 ≤ q := by
              rcases Nat.eq_zero_or_pos q with h0 | h0
              · rw [h0] at e1; omega
              · exact h0
            obtain ⟨r, rfl⟩ : ∃ r, q = r + 1 := ⟨q - 1, by omega⟩
            have e2 : x - 1 = d - 1 + d * r := by rw [Nat.mul_add, Nat.mul_one] at e1; omega
            rw [e2, Nat.add_mul_mod_self_left]
            exact Nat.mod_eq_of_lt (by omega)
          rw [e, hget _ (by omega), if_neg (by omega), c3, Nat.add_zero]
        · have e : (x - 1) % d = x % d - 1 := by
            have e1 := Nat.div_add_mod x d
            have e2 : x - 1 = x % d - 1 + d * (x / d) := by omega
            rw [e2, Nat.add_mul_mod_self_left]
            exact Nat.mod_eq_of_lt (by omega)
          rw [e, show out.length + 1 - d + (x % d - 1) = out.length - d + x % d by omega, hget _ (by omega), if_pos (by omega)]
/-- Bytes copied within. -/
def cpL (L : List UInt8) (y : Nat) (M : List UInt8) : List UInt8 := L.take y ++ M ++ L.drop (y + M.length)
theorem cpL_len {L M : List UInt8} {y : Nat} (h : y + M.length ≤ L.length) : (cpL L y M).length = L.length := by
  rw [cpL, List.length_append, List.length_append, List.length_take, List.length_drop]
  omega
theorem cpL_get {L M : List UInt8} {y j : Nat} (h : y + M.length ≤ L.length) : (cpL L y M).getD j 0 = if j < y then L.getD j 0 else if j < y + M.length then M.getD (j - y) 0 else L.getD j 0 := by
  have hl : (L.take y).length = y := by rw [List.length_take]; omega
  rw [cpL, List.getD_eq_getElem?_getD, List.append_assoc, List.getElem?_append, hl]
  by_cases c1 : j < y
  · rw [if_pos c1, if_pos c1, List.getElem?_take, if_pos c1, List.getD_eq_getElem?_getD]
  · rw [if_neg c1, if_neg c1, List.getElem?_append]
    by_cases c2 : j < y + M.length
    · rw [if_pos (by omega), if_pos c2, List.getD_eq_getElem?_getD]
    · rw [if_neg (by omega), if_neg c2, List.getElem?_drop, List.getD_eq_getElem?_getD, show y + M.length + (j - y - M.length) = j by omega]
theorem get_sub (L : List UInt8) (f k i : Nat) (hi : i < k) : ((L.drop f).take k).getD i 0 = L.getD (f + i) 0 := by
  rw [List.getD_eq_getElem?_getD, List.getElem?_take, if_pos hi, List.getElem?_drop, List.getD_eq_getElem?_getD]
theorem list_getD {L M : List UInt8} (hl : L.length = M.length) (h : ∀ j, j < L.length → L.getD j 0 = M.getD j 0) : L = M := by
  apply List.ext_getElem hl
  intro i h1 h2
  have := h i h1
  rw [List.getD_eq_getElem?_getD, List.getD_eq_getElem?_getD, List.getElem?_eq_getElem h1, List.getElem?_eq_getElem h2] at this
  exact this
/-! ### In memory -/
def bv (b : UInt8) : Value := .int .u8 (b.toNat : Int)
section
variable {w w' : World} {g : Nat} {L : List UInt8}
theorem Tryd.sizeU8 : (Tryd.prog.info? 5).map (·.size) = some 1 := by kernel_rfl
theorem BQ.gs {p : Nat → Prop} (h : BQ w g L) (hg : Gs p w w') (hp : ¬ p g) : BQ w' g L := (hg.block g h.lt hp).trans h
theorem BQ.row (h : BQ w g L) (M : List UInt8) : BQ (w.setRow g (M.map fun b => Value.int .u8 (b.toNat : Int)).toArray) g M := setRow_heap w g _ _ _ _ h
theorem gs_row (w : World) (g : Nat) (cs : Array Value) : Gs (fun i => i = g) w (w.setRow g cs) := ⟨rfl, rfl, rfl, by simp, fun i _ hi => setRow_other _ _ _ _ hi⟩
theorem cpy_own (h : BQ w g L) {y f k sl sc dl dc : Nat} (hk : k = Nat.min sl dl) (hy : y + k ≤ L.length) (hf : f + k ≤ L.length) :
    ∃ wc, (Builtin.copy_ #[39, 39] 3 #[.slice (some ⟨g, y, none⟩) dl dc, .slice (some ⟨g, f, none⟩) sl sc]).run Tryd.prog w = .ok (.int .i64 (k : Int)) wc ∧ BQ wc g (cpL L y ((L.drop f).take k)) ∧ Gs (fun i => i = g) w wc := by
  have hMl : ((L.drop f).take k).length = k := by rw [List.length_take, List.length_drop]; omega
  have hcl : (((L.drop f).take k).map fun b => Value.int .u8 (b.toNat : Int)).length = k := by rw [List.length_map, hMl]
  have hcp := run_copy_row (P := Tryd.prog) w 39 39 3 5 g y dl dc ⟨g, f, none⟩ sl sc _ 5 (((L.drop f).take k).map fun b => Value.int .u8 (b.toNat : Int)) Tryd.underlying39 Tryd.sizeU8 h (by rw [hcl, hk]) (fun j v hj => by
      rw [List.getElem?_map, Option.map_eq_some_iff] at hj
      obtain ⟨b, hb, rfl⟩ := hj
      rw [List.getElem?_take] at hb
      split at hb
      · rw [List.getElem?_drop] at hb
        have hl := (List.getElem?_eq_some_iff.1 hb).1
        rw [Addr.add_mid, h.cell hl]
        rw [(List.getElem?_eq_some_iff.1 hb).2]
      · cases hb) (by rw [hcl]; simp; omega) (fun v hv => by
      rw [List.mem_map] at hv
      obtain ⟨b, _, rfl⟩ := hv
      rfl)
  rw [hcl] at hcp
  refine ⟨_, hcp, ?_, gs_row _ _ _⟩
  have e : ((L.map fun b => Value.int .u8 (b.toNat : Int)).toArray.toList.take y ++ (((L.drop f).take k).map fun b => Value.int .u8 (b.toNat : Int)) ++ (L.map fun b => Value.int .u8 (b.toNat : Int)).toArray.toList.drop (y + k)) = (cpL L y ((L.drop f).take k)).map fun b => Value.int .u8 (b.toNat : Int) := by
    rw [cpL, hMl, List.map_append, List.map_append, List.map_take (l := L), List.map_drop (l := L)]
  rw [e]
  exact h.row _
theorem cpy_str (h : BQ w g L) {y dl dc : Nat} (s : ByteArray) (hk : s.size ≤ dl) (hy : y + s.size ≤ L.length) :
    ∃ wc, (Builtin.copy_ #[39, 9] 3 #[.slice (some ⟨g, y, none⟩) dl dc, .string s]).run Tryd.prog w = .ok (.int .i64 (s.size : Int)) wc ∧ BQ wc g (cpL L y s.data.toList) ∧ Gs (fun i => i = g) w wc := by
  have hcp := run_copy_row_string (P := Tryd.prog) w 39 9 3 5 g y dl dc s _ 5 Tryd.underlying39 Tryd.sizeU8 h hk (by simp; omega)
  refine ⟨_, hcp, ?_, gs_row _ _ _⟩
  have hl : s.data.toList.length = s.size := by simp
  have e : ((L.map fun b => Value.int .u8 (b.toNat : Int)).toArray.toList.take y ++ Lib.byteCells s.data.toList ++ (L.map fun b => Value.int .u8 (b.toNat : Int)).toArray.toList.drop (y + s.size)) = (cpL L y s.data.toList).map fun b => Value.int .u8 (b.toNat : Int) := by
    rw [cpL, hl, List.map_append, List.map_append, List.map_take (l := L), List.map_drop (l := L)]
    rfl
  rw [e]
  exact h.row _
end
/-- A copy whose run is known, as a step of a region that draws its order. -/
theorem step_copy_run {P : Program} {ops : Array Oper} {o : Oper} {a : Act} {w : World} {K : Act → World → Prop} {Q : Exit → Act → World → Prop} {E : Prop} (hgd : o.guard = none) (dst : Option Tmp) (hdst : o.dst = dst) (s x : Operand) (t tn : TypeId)
    (ho : o.op = .call { callee := .builtin .copy, args := #[s, x], argTypes := #[t, tn] }) (vs vx : Value) (hs : a.eval s = vs) (hx : a.eval x = vx)
    (v' : Value) (w' : World) (hr : (Builtin.copy_ #[t, tn] o.type #[vs, vx]).run P w = .ok v' w') (h : K (a.put dst v') w') :
    if Region.wanted o (yielded ops a.tmps) = true then Oper.wp P o a w K Q else E := by
  have hw : Region.wanted o (yielded ops a.tmps) = true := by simp [Region.wanted, hgd]
  rw [if_pos hw]
  subst hdst
  unfold Oper.wp
  simp [execOp, ho, resolve, invoke, builtin, hs, hx, hr, Result.andThen]
  exact h
/-- What is repeated, byte by byte. -/
def rpF (L : List UInt8) (at_ d j : Nat) : UInt8 := if j < at_ then L.getD j 0 else L.getD (at_ - d + (j - (at_ - d)) % d) 0
section
variable {w : World} {g at_ d n c : Nat} {L : List UInt8}
set_option maxRecDepth 100000 in
set_option maxHeartbeats 1600000 in
theorem repeat_any (h : BQ w g L) (h1 : at_ ≤ n) (h2 : n ≤ L.length) (h3 : 1 ≤ d) (h4 : d ≤ at_) (h5 : n ≤ c) (h6 : L.length ≤ 2000000) :
    Calls Tryd.prog 61 #[.slice (some ⟨g, 0, none⟩) n c, .int .i64 (at_ : Int), .int .i64 (d : Int)] w fun e w' => e = .returned (.int .i64 ((n - at_ : Nat) : Int)) ∧ ∃ L', BQ w' g L' ∧ L'.length = L.length ∧ L'.take n = rp d (n - at_) (L.take at_) ∧ Gs (fun i => i = g) w w' := by
  have H0 := hide h
  obtain ⟨f, hf⟩ : ∃ f, f = at_ - d := ⟨_, rfl⟩
  have e1 : (at_ : Int) - (d : Int) = (f : Int) := by omega
  have e2 : IntKind.i64.wrap (f : Int) = (f : Int) := by rw [IntKind.wrap_i64]; omega
  have HF := hide hf
  clear h hf
  go_enter Tryd.func61, Tryd.ntmps61
  go_wp2
  go_loopw [1] (fun v wr => ∃ (a : Nat) (L' : List UInt8), v = .int .i64 (a : Int) ∧ at_ ≤ a ∧ a ≤ n ∧ BQ wr g L' ∧ L'.length = L.length ∧ (∀ j, j < a → L'.getD j 0 = rpF L at_ d j) ∧ (a = n ∨ (a - at_) % d = 0) ∧ Gs (fun i => i = g) w wr) (fun v _ => n - (Go.RowKit.intOf v).toNat)
  case atStart => exact ⟨at_, L, rfl, Nat.le_refl _, h1, H0.out, rfl, fun j hj => by rw [rpF, if_pos hj], .inr (by simp), Gs.refl _ _⟩
  case round =>
    obtain ⟨a, L', rfl, ha1, ha2, hB, hLl, hL, hm, hG⟩ := hrel
    by_cases hlt : a < n
    · obtain ⟨k, hk⟩ : ∃ k, k = Nat.min (a - f) (n - a) := ⟨_, rfl⟩
      have hff := HF.out
      have hk1 : k ≤ a - f := by rw [hk]; exact Nat.min_le_left _ _
      have hk2 : k ≤ n - a := by rw [hk]; exact Nat.min_le_right _ _
      have hk3 : 1 ≤ k := by rw [hk]; exact Nat.le_min.2 ⟨by omega, by omega⟩
      have hk4 : k = a - f ∨ k = n - a := by
        rw [hk]
        rcases Nat.le_total (a - f) (n - a) with h | h
        · exact .inl (Nat.min_eq_left h)
        · exact .inr (Nat.min_eq_right h)
      have hB' : BQ wr.drew g L' := hB
      obtain ⟨wc, hr, hBc, hGc⟩ := cpy_own hB' (y := a) (f := f) (sl := a - f) (dl := n - a) (sc := c - f) (dc := c - a) hk (by omega) (by omega)
      have hMl : ((L'.drop f).take k).length = k := by rw [List.length_take, List.length_drop]; omega
      have HN : Hid (∃ (a' : Nat) (L'' : List UInt8), a' = a + k ∧ at_ ≤ a' ∧ a' ≤ n ∧ BQ wc g L'' ∧ L''.length = L.length ∧ (∀ j, j < a' → L''.getD j 0 = rpF L at_ d j) ∧ (a' = n ∨ (a' - at_) % d = 0) ∧ Gs (fun i => i = g) w wc) := by
        refine ⟨_, _, rfl, by omega, by omega, hBc, by rw [cpL_len (by rw [hMl]; omega), hLl], fun j hj => ?_, ?_, ⟨hGc.os.trans hG.os, hGc.tape.trans hG.tape, hGc.output.trans hG.output, Nat.le_trans hG.size hGc.size, fun i hi hp => (hGc.block i (Nat.lt_of_lt_of_le hi hG.size) hp).trans (hG.block i hi hp)⟩⟩
        · rw [cpL_get (by rw [hMl]; omega), hMl]
          by_cases c1 : j < a
          · rw [if_pos c1]
            exact hL j c1
          · rw [if_neg c1, if_pos (by omega), get_sub _ _ _ _ (by omega), hL _ (by omega)]
            have hmul : (a - at_) % d = 0 := by
              rcases hm with h | h
              · omega
              · exact h
            have key : (f + (j - a) - f) % d = (j - f) % d := by
              have e := Nat.div_add_mod (a - at_) d
              rw [hmul] at e
              have e3 : j - f = (j - a) + d * ((a - at_) / d + 1) := by
                rw [Nat.mul_add, Nat.mul_one]
                omega
              rw [e3, Nat.add_mul_mod_self_left, show f + (j - a) - f = j - a by omega]
            rw [rpF, rpF, ← hff, if_neg (show ¬ j < at_ by omega), ← key]
            split
            · rename_i h
              rw [show f + (j - a) - f = j - a by omega, Nat.mod_eq_of_lt (by omega)]
            · rfl
        · rcases hk4 with h | h
          · right
            have hmul : (a - at_) % d = 0 := by
              rcases hm with h | h
              · omega
              · exact h
            rw [show a + k - at_ = (a - at_) + (a - at_) + d by omega, Nat.add_mod_right, Nat.add_mod, hmul]
            simp
          · left
            omega
      have d1 : (a : Int) < (n : Int) := by omega
      have d2 : ¬ c = a := by omega
      have d3 : ¬ c = f := by omega
      have d4 : (f : Int) ≤ (a : Int) := by omega
      have d5 : (a : Int) ≤ (n : Int) := by omega
      have d6 : (n : Int) ≤ (c : Int) := by omega
      have d7 : (a : Int) ≤ (c : Int) := by omega
      have d8 : IntKind.i64.wrap ((a : Int) + (k : Int)) = (a : Int) + (k : Int) := by rw [IntKind.wrap_i64]; omega
      have HK3 := hide (And.intro hk3 (And.intro hk2 ha1))
      clear hB hLl hL hm hG hk hk1 hk2 hk3 hk4 hB' hBc hGc hMl hff ha1
      go_upto_region 3 with fail
      go_region_held_law (fun _ => True) (trivial) (first | (refine step_copy_run rfl (some 25) rfl _ _ 39 39 rfl _ _ rfl rfl _ _ hr ?_))
      go_wp2
      obtain ⟨a', L'', e3, m1, m2, m3⟩ := HN.out
      exact ⟨⟨a', L'', by rw [e3]; go_num, m1, m2, m3⟩, by have := HK3.out; simp [Go.RowKit.intOf]; omega⟩
    · obtain rfl : a = n := by omega
      have d1 : ¬ (a : Int) < (a : Int) := by omega
      have e3 : (a : Int) - (at_ : Int) = ((a - at_ : Nat) : Int) := by omega
      have e4 : IntKind.i64.wrap ((a - at_ : Nat) : Int) = ((a - at_ : Nat) : Int) := by rw [IntKind.wrap_i64]; omega
      have HE : Hid (∃ L'', BQ wr g L'' ∧ L''.length = L.length ∧ L''.take a = rp d (a - at_) (L.take at_) ∧ Gs (fun i => i = g) w wr) := by
        have htl : (L.take at_).length = at_ := by rw [List.length_take]; omega
        refine ⟨L', hB, hLl, list_getD (by rw [rp_len, htl, List.length_take]; omega) (fun j hj => ?_), hG⟩
        rw [List.length_take] at hj
        rw [rp_get d h3 _ _ _ (by omega) (by omega), htl]
        have ht : ∀ i, i < at_ → (L.take at_).getD i 0 = L.getD i 0 := fun i hi => by
          rw [List.getD_eq_getElem?_getD, List.getElem?_take, if_pos hi, List.getD_eq_getElem?_getD]
        rw [List.getD_eq_getElem?_getD, List.getElem?_take, if_pos (by omega), ← List.getD_eq_getElem?_getD, hL j (by omega), rpF]
        split
        · rename_i h; rw [ht _ h]
        · have := Nat.mod_lt (j - (at_ - d)) (show 0 < d by omega)
          rw [ht _ (by omega)]
      clear hB hLl hL hm hG
      go_wp2
      go_ret
      exact ⟨by first | rfl | rw [e3], HE.out⟩
end
end Go.Proofs.YtgigiamnhjelmaaDoor
