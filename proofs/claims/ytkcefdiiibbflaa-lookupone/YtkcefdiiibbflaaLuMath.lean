/-
  Lookup: items and their order, in plain terms; lists that rise.
-/
import Derived.Test.YtkcefdiiibbflaaPoRow
import Derived.Lib.Bytealg
import Derived.Lib.Small
namespace Go.Proofs.Ytkcefdiiibbflaa
open Go.RowKit Go.Lib
/-- What a directory tells of a blob. -/
structure IT where
  id : ByteArray
  pk : ByteArray
  kind : Int
  off : Int
  long : Int
  size : Int
/-- An item's cells. -/
def it6 (x : IT) : List Value := [.string x.id, .string x.pk, .int .i64 x.kind, .int .i64 x.off, .int .i64 x.long, .int .i64 x.size]
theorem it6_len (x : IT) : (it6 x).length = 6 := rfl
theorem it6_one (x : IT) : ∀ u ∈ it6 x, u.oneCell' = true := by intro u hu; simp [it6] at hu; rcases hu with rfl | rfl | rfl | rfl | rfl | rfl <;> rfl
instance : Inhabited IT := ⟨⟨⟨#[]⟩, ⟨#[]⟩, 0, 0, 0, 0⟩⟩
theorem IT.ext' {x y : IT} (h1 : x.id = y.id) (h2 : x.pk = y.pk) (h3 : x.kind = y.kind) (h4 : x.off = y.off) (h5 : x.long = y.long) (h6 : x.size = y.size) : x = y := by
  cases x; cases y; simp_all
instance itDec (x y : IT) : Decidable (x = y) :=
  if h : x.id = y.id ∧ x.pk = y.pk ∧ x.kind = y.kind ∧ x.off = y.off ∧ x.long = y.long ∧ x.size = y.size then .isTrue (IT.ext' h.1 h.2.1 h.2.2.1 h.2.2.2.1 h.2.2.2.2.1 h.2.2.2.2.2)
  else .isFalse fun e => h (by subst e; exact ⟨rfl, rfl, rfl, rfl, rfl, rfl⟩)

/-- A way to compare. -/
structure Cm {α : Type} (c : α → α → Int) : Prop where
  anti : ∀ x y, c y x = - c x y
  trans : ∀ x y z, c x y ≤ 0 → c y z ≤ 0 → c x z ≤ 0
/-- The first that is not 0. -/
def thenC (a b : Int) : Int := if a = 0 then b else a
section
variable {α β : Type} {c d : α → α → Int}
theorem Cm.refl (h : Cm c) (x : α) : c x x = 0 := by have := h.anti x x; omega
theorem Cm.lex (hc : Cm c) (hd : Cm d) : Cm (fun x y => thenC (c x y) (d x y)) where
  anti x y := by
    have h1 := hc.anti x y
    have h2 := hd.anti x y
    simp only [thenC]
    by_cases e : c x y = 0
    · rw [if_pos (by omega), if_pos e]; exact h2
    · rw [if_neg (by omega), if_neg e]; exact h1
  trans x y z h1 h2 := by
    simp only [thenC] at h1 h2 ⊢
    have a1 := hc.anti x y
    have a2 := hc.anti y z
    have a3 := hc.anti x z
    have p1 : c x y ≤ 0 := by split at h1 <;> omega
    have p2 : c y z ≤ 0 := by split at h2 <;> omega
    have p3 := hc.trans x y z p1 p2
    by_cases e : c x z = 0
    · rw [if_pos e]
      have q1 := hc.trans z x y (by omega) p1
      have q2 := hc.trans y z x p2 (by omega)
      rw [if_pos (by omega)] at h1
      rw [if_pos (by omega)] at h2
      exact hd.trans x y z h1 h2
    · rw [if_neg e]; exact p3
theorem Cm.on (h : Cm c) (f : β → α) : Cm (fun x y => c (f x) (f y)) := ⟨fun _ _ => h.anti _ _, fun _ _ _ => h.trans _ _ _⟩
end
theorem cm_int : Cm compareInt where
  anti x y := by
    unfold compareInt
    repeat' split
    all_goals omega
  trans x y z h1 h2 := by
    have k : ∀ a b : Int, compareInt a b ≤ 0 ↔ a ≤ b := fun a b => by
      unfold compareInt
      repeat' split
      all_goals omega
    rw [k] at *
    omega
theorem cmpB_anti : ∀ a b : List UInt8, compareBytes b a = - compareBytes a b
  | [], [] => by simp [compareBytes]
  | [], _ :: _ => by simp [compareBytes]
  | _ :: _, [] => by simp [compareBytes]
  | a :: p, b :: q => by
    have ih := cmpB_anti p q
    unfold compareBytes
    by_cases h1 : a < b
    · rw [if_neg (by simp only [UInt8.lt_iff_toNat_lt] at *; omega), if_pos h1, if_pos h1]; decide
    · by_cases h2 : b < a
      · rw [if_pos h2, if_neg h1, if_pos h2]
      · rw [if_neg h2, if_neg h1, if_neg h1, if_neg h2]; exact ih
theorem cmpB_cons (a b : UInt8) (p q : List UInt8) : compareBytes (a :: p) (b :: q) ≤ 0 ↔ a.toNat < b.toNat ∨ (a.toNat = b.toNat ∧ compareBytes p q ≤ 0) := by
  rw [compareBytes]
  by_cases h1 : a < b
  · rw [if_pos h1]
    have : a.toNat < b.toNat := by simpa only [UInt8.lt_iff_toNat_lt] using h1
    simp [this]
  · rw [if_neg h1]
    have h1' : ¬ a.toNat < b.toNat := by simpa only [UInt8.lt_iff_toNat_lt] using h1
    by_cases h2 : b < a
    · rw [if_pos h2]
      have : b.toNat < a.toNat := by simpa only [UInt8.lt_iff_toNat_lt] using h2
      constructor
      · intro h; omega
      · rintro (h | ⟨h, _⟩) <;> omega
    · rw [if_neg h2]
      have h2' : ¬ b.toNat < a.toNat := by simpa only [UInt8.lt_iff_toNat_lt] using h2
      constructor
      · intro h; exact .inr ⟨by omega, h⟩
      · rintro (h | ⟨_, h⟩)
        · omega
        · exact h
theorem cmpB_trans : ∀ a b c : List UInt8, compareBytes a b ≤ 0 → compareBytes b c ≤ 0 → compareBytes a c ≤ 0
  | [], _, [], _, _ => by simp [compareBytes]
  | [], _, _ :: _, _, _ => by simp [compareBytes]
  | _ :: _, [], _, h, _ => by simp [compareBytes] at h
  | _ :: _, _ :: _, [], _, h => by simp [compareBytes] at h
  | a :: p, b :: q, c :: r, h1, h2 => by
    rw [cmpB_cons] at *
    rcases h1 with h1 | ⟨e1, h1⟩ <;> rcases h2 with h2 | ⟨e2, h2⟩
    · exact .inl (by omega)
    · exact .inl (by omega)
    · exact .inl (by omega)
    · exact .inr ⟨by omega, cmpB_trans p q r h1 h2⟩
theorem cm_bytes : Cm compareBytes := ⟨cmpB_anti, cmpB_trans⟩
theorem cmpB_zero : ∀ a b : List UInt8, compareBytes a b = 0 ↔ a = b
  | [], [] => by simp [compareBytes]
  | [], _ :: _ => by simp [compareBytes]
  | _ :: _, [] => by simp [compareBytes]
  | a :: p, b :: q => by
    unfold compareBytes
    by_cases h1 : a < b
    · rw [if_pos h1]
      have : a ≠ b := fun e => by subst e; simp at h1
      simp [this]
    · rw [if_neg h1]
      by_cases h2 : b < a
      · rw [if_pos h2]
        have : a ≠ b := fun e => by subst e; simp at h2
        simp [this]
      · rw [if_neg h2, cmpB_zero p q]
        have : a = b := by
          apply UInt8.toNat.inj
          simp only [UInt8.lt_iff_toNat_lt] at h1 h2
          omega
        simp [this]
theorem cmpI0 (x y : Int) : compareInt x y = 0 ↔ x = y := by
  unfold compareInt
  repeat' split
  all_goals omega
/-- Texts by their bytes. -/
def cS (x y : ByteArray) : Int := compareBytes x.data.toList y.data.toList
theorem cS_zero (x y : ByteArray) : cS x y = 0 ↔ x = y := by
  rw [cS, cmpB_zero]
  constructor
  · intro h; cases x; cases y; simp at h; rw [h]
  · rintro rfl; rfl
/-- The order of items. -/
def cI (x y : IT) : Int := thenC (cS x.id y.id) (thenC (cS x.pk y.pk) (thenC (compareInt x.off y.off) (thenC (compareInt x.long y.long) (thenC (compareInt x.size y.size) (compareInt x.kind y.kind)))))
theorem cm_cS : Cm cS := cm_bytes.on fun x : ByteArray => x.data.toList
theorem cm_cI : Cm cI := (cm_cS.on IT.id).lex ((cm_cS.on IT.pk).lex ((cm_int.on IT.off).lex ((cm_int.on IT.long).lex ((cm_int.on IT.size).lex (cm_int.on IT.kind)))))
theorem thenC_zero (a b : Int) : thenC a b = 0 ↔ a = 0 ∧ b = 0 := by unfold thenC; split <;> omega
theorem cI_zero (x y : IT) : cI x y = 0 ↔ x = y := by
  simp only [cI, thenC_zero, cS_zero, cmpI0]
  constructor
  · rintro ⟨h1, h2, h3, h4, h5, h6⟩; exact IT.ext' h1 h2 h6 h3 h4 h5
  · rintro rfl; exact ⟨rfl, rfl, rfl, rfl, rfl, rfl⟩
/-- x stands ahead of y. -/
def lI (x y : IT) : Bool := decide (cI x y < 0)
theorem lI_irrefl (x : IT) : lI x x = false := by simp [lI, cm_cI.refl]
theorem lI_trans {x y z : IT} (h1 : lI x y = true) (h2 : lI y z = true) : lI x z = true := by
  simp only [lI, decide_eq_true_eq] at *
  have := cm_cI.trans x y z (by omega) (by omega)
  have a1 := cm_cI.anti x z
  by_cases e : cI x z = 0
  · have q := cm_cI.trans z x y (by omega) (by omega)
    have := cm_cI.anti y z
    omega
  · omega
theorem lI_asymm {x y : IT} (h1 : lI x y = true) : lI y x = false := by
  simp only [lI, decide_eq_true_eq, decide_eq_false_iff_not] at *
  have := cm_cI.anti x y
  omega
theorem lI_total {x y : IT} (h1 : lI x y = false) (h2 : lI y x = false) : x = y := by
  simp only [lI, decide_eq_false_iff_not] at *
  have := cm_cI.anti x y
  exact (cI_zero x y).1 (by omega)
theorem lI_false_trans {x y z : IT} (h1 : lI x y = false) (h2 : lI y z = false) : lI x z = false := by
  simp only [lI, decide_eq_false_iff_not] at *
  have a1 := cm_cI.anti x y
  have a2 := cm_cI.anti y z
  have a3 := cm_cI.anti x z
  have := cm_cI.trans z y x (by omega) (by omega)
  omega
/-- A list that rises. -/
def SS (l : List IT) : Prop := l.Pairwise fun x y => lI x y = true
theorem SS.nil : SS [] := List.Pairwise.nil
theorem SS.filter {l : List IT} (h : SS l) (p : IT → Bool) : SS (l.filter p) := List.Pairwise.sublist List.filter_sublist h
theorem ss_ext : ∀ {l m : List IT}, SS l → SS m → (∀ x, x ∈ l ↔ x ∈ m) → l = m
  | [], [], _, _, _ => rfl
  | [], y :: m, _, _, h => by have := (h y).2 (by simp); simp at this
  | x :: l, [], _, _, h => by have := (h x).1 (by simp); simp at this
  | x :: l, y :: m, hl, hm, h => by
    have hl' := List.pairwise_cons.1 hl
    have hm' := List.pairwise_cons.1 hm
    have e : x = y := by
      rcases List.mem_cons.1 ((h x).1 (by simp)) with e | e
      · exact e
      · rcases List.mem_cons.1 ((h y).2 (by simp)) with e2 | e2
        · exact e2.symm
        · have a := hm'.1 x e
          have b := hl'.1 y e2
          rw [lI_asymm a] at b
          cases b
    subst e
    congr 1
    refine ss_ext hl'.2 hm'.2 fun z => ?_
    have hz := h z
    simp only [List.mem_cons] at hz
    constructor
    · intro hz1
      rcases hz.1 (.inr hz1) with e | e
      · subst e
        have := hl'.1 z hz1
        rw [lI_irrefl] at this; cases this
      · exact e
    · intro hz1
      rcases hz.2 (.inr hz1) with e | e
      · subst e
        have := hm'.1 z hz1
        rw [lI_irrefl] at this; cases this
      · exact e
end Go.Proofs.Ytkcefdiiibbflaa
