/-
  Port: copies of lists.
-/
import Derived.Test.YtepmhgkegfpmjaaPoAsk
import Derived.Test.YtepmhgkegfpmjaaPtKit
import Derived.Laws.Cover3
namespace Go.Proofs.Ytepmhgkegfpmjaa
open Go.RowKit Go.Lib Go.Maps
theorem Try.infoQ : (Try.prog.info? 38).map (fun i => (i.zero, i.size, i.bytes)) = some (some (.agg #[.int .i64 0, .int .i64 0, .string ⟨#[]⟩, .string ⟨#[]⟩]), 4, 48) := by kernel_rfl
theorem sl_eq {T e : TypeId} (hu : Try.prog.underlying T = some (.slice e)) (w : World) (a : Addr) (n c : Nat) : (binOp .eql T (.slice (some a) n c) (.slice none 0 0)).run Try.prog w = .ok (.bool false) w := by
  simp [binOp, run_equal_slice_nil (P := Try.prog) w T e (some a) n c hu]
theorem sl_nil {T e : TypeId} (hu : Try.prog.underlying T = some (.slice e)) (w : World) : (binOp .eql T (.slice none 0 0) (.slice none 0 0)).run Try.prog w = .ok (.bool true) w := by
  simp [binOp, run_equal_slice_nil (P := Try.prog) w T e none 0 0 hu]
def t1 (x : ByteArray) : List Value := [.string x]
theorem t1_len (x : ByteArray) : (t1 x).length = 1 := rfl
theorem t1_one (x : ByteArray) : ∀ u ∈ t1 x, u.oneCell' = true := by intro u hu; simp [t1] at hu; subst hu; rfl
theorem tc_flat : ∀ l : List ByteArray, l.flatMap t1 = tc l
  | [] => rfl
  | x :: r => by rw [List.flatMap_cons, tc_flat r]; rfl
section
variable {w w' : World} {v : Value} {l : List ByteArray} {B : Nat} {r : Nat → Prop}
theorem OW.ts (h : OW t1 1 9 B v l w) : TS B v l w := ⟨by rw [← tc_flat]; exact h.own⟩
theorem TS.ow (h : TS B v l w) : OW t1 1 9 B v l w := ⟨by rw [tc_flat]; exact h.own⟩
theorem TS.ls (h : TS B v l w) (hr : ∀ i, v.ownBlock = some i → r i) : LS t1 1 r w v l := h.ow.ls t1_len hr
theorem LS.tr (h : LS t1 1 r w v l) : TR w v l := by
  obtain ⟨a, c, e, _, h | ⟨g, o, ea, _, hg, hG⟩⟩ := h
  · exact ⟨a, c, e, .inl h⟩
  · refine ⟨a, c, e, .inr ⟨g, o, ea, hg, fun i x hx => ?_⟩⟩
    have := hG i x hx 0 (.string x) rfl
    rw [Nat.mul_one, Nat.add_zero] at this
    exact this
end
section
variable {w w' : World} {v : Value} {r : Nat → Prop}
set_option maxRecDepth 100000 in
set_option maxHeartbeats 1600000 in
theorem cloneQ {l : List QT} (hl : LS q4 4 r w v l) (hn : l.length ≤ 1000000) :
    Calls Try.prog 46 #[v] w fun e w' => ∃ v', e = .returned v' ∧ OW q4 4 38 w.heap.size v' l w' ∧ Below w.heap.size w w' := by
  obtain ⟨a, c, rfl, h1, h2⟩ := hl
  rcases a with _ | a
  · have hl0 : l = [] := by
      rcases h2 with h | ⟨_, _, h, _⟩
      · exact h
      · cases h
    have := h1 rfl
    subst this
    subst hl0
    have hO := OW.nil q4 4 38 w.heap.size w
    clear h1 h2
    have k1 := sl_eq Try.underlying22
    have k0 := sl_nil Try.underlying22
    go_enter Try.func46, Try.ntmps46
    go_wp2
    go_ret
    exact ⟨_, rfl, hO, Below.refl _ _⟩
  · have hS : LS q4 4 r w (.slice (some a) l.length c) l := ⟨_, _, rfl, h1, h2⟩
    have hal : Below w.heap.size w (w.alloc (.cells #[] 38)) := (Below.refl _ _).alloc (Nat.le_refl _) _
    obtain ⟨v', w', hr, hO, hg, _⟩ := OW.app (ST := 22) q4_len (by decide) (fun x _ => q4_one x) Try.underlying22 Try.infoQ rfl (OW.empty q4 4 38 (Nat.le_refl w.heap.size)) (hS.bel hal) (by simp; omega) (by simp; omega) (by simp)
    have HO : Hid (OW q4 4 38 w.heap.size v' l w' ∧ Below w.heap.size w w') := ⟨hO, hal.grown hg (by simp) (fun k hk => by simp [Value.ownBlock] at hk; omega)⟩
    generalize l.length = n at *
    clear h1 h2 hS hO hg hal
    have k1 := sl_eq Try.underlying22
    have k0 := sl_nil Try.underlying22
    go_enter Try.func46, Try.ntmps46
    go_wp2_with (at_builtin; refine Lib.wpList_append_run _ rfl _ _ _ _ rfl _ _ rfl rfl _ _ hr ?_)
    go_ret
    exact ⟨_, rfl, HO.out⟩
set_option maxRecDepth 100000 in
set_option maxHeartbeats 1600000 in
theorem cloneT {l : List ByteArray} (hl : LS t1 1 r w v l) (hn : l.length ≤ 1000000000000) :
    Calls Try.prog 37 #[v] w fun e w' => ∃ v', e = .returned v' ∧ TS w.heap.size v' l w' ∧ Below w.heap.size w w' := by
  obtain ⟨a, c, rfl, h1, h2⟩ := hl
  rcases a with _ | a
  · have hl0 : l = [] := by
      rcases h2 with h | ⟨_, _, h, _⟩
      · exact h
      · cases h
    have := h1 rfl
    subst this
    subst hl0
    have hO := TS.nil w.heap.size w
    clear h1 h2
    have k1 := sl_eq Try.underlying30
    have k0 := sl_nil Try.underlying30
    go_enter Try.func37, Try.ntmps37
    go_wp2
    go_ret
    exact ⟨_, rfl, hO, Below.refl _ _⟩
  · have hS : LS t1 1 r w (.slice (some a) l.length c) l := ⟨_, _, rfl, h1, h2⟩
    have hal : Below w.heap.size w (w.alloc (.cells #[] 9)) := (Below.refl _ _).alloc (Nat.le_refl _) _
    obtain ⟨v', w', hr, hO, hg, _⟩ := OW.app (ST := 30) t1_len (by decide) (fun x _ => t1_one x) Try.underlying30 Try.infoTx rfl (OW.empty t1 1 9 (Nat.le_refl w.heap.size)) (hS.bel hal) (by simp; omega) (by simp; omega) (by simp)
    have HO : Hid (TS w.heap.size v' l w' ∧ Below w.heap.size w w') := ⟨hO.ts, hal.grown hg (by simp) (fun k hk => by simp [Value.ownBlock] at hk; omega)⟩
    generalize l.length = n at *
    clear h1 h2 hS hO hg hal
    have k1 := sl_eq Try.underlying30
    have k0 := sl_nil Try.underlying30
    go_enter Try.func37, Try.ntmps37
    go_wp2_with (at_builtin; refine Lib.wpList_append_run _ rfl _ _ _ _ rfl _ _ rfl rfl _ _ hr ?_)
    go_ret
    exact ⟨_, rfl, HO.out⟩
set_option maxRecDepth 100000 in
theorem cloneE : Calls Try.prog 50 #[.slice none 0 0] w fun e w' => e = .returned (.slice none 0 0) ∧ w' = w := by
  have k1 := sl_eq Try.underlying31
  have k0 := sl_nil Try.underlying31
  go_enter Try.func50, Try.ntmps50
  go_wp2
  go_ret
  exact ⟨rfl, rfl⟩
set_option maxRecDepth 100000 in
theorem cloneS : Calls Try.prog 51 #[.slice none 0 0] w fun e w' => e = .returned (.slice none 0 0) ∧ w' = w := by
  have k1 := sl_eq Try.underlying32
  have k0 := sl_nil Try.underlying32
  go_enter Try.func51, Try.ntmps51
  go_wp2
  go_ret
  exact ⟨rfl, rfl⟩
end
end Go.Proofs.Ytepmhgkegfpmjaa
