/-
  Port: a list's job beside its own stores.
-/
import Derived.Test.YtepmhgkegfpmjaaPrKit
namespace Go.Proofs.Ytepmhgkegfpmjaa
open Go.RowKit Go.Lib Go.Maps
theorem yRs_app : ∀ (l m : List QT) (S : List SS), yRs S (l ++ m) = yRs S l ++ yRs (ySs S l) m
  | [], _, _ => rfl
  | q :: r, m, S => by rw [List.cons_append, yRs, yRs, ySs, yRs_app r]; rfl
theorem ySs_app : ∀ (l m : List QT) (S : List SS), ySs S (l ++ m) = ySs (ySs S l) m
  | [], _, _ => rfl
  | q :: r, m, S => by rw [List.cons_append, ySs, ySs, ySs_app r]
theorem take_on {α : Type} (l : List α) (n t : Nat) : l.take (n + t) = l.take n ++ (l.drop n).take t := by rw [List.take_add]
/-- A job that was given n answers of its stores. -/
structure PR (w : World) (B : Nat) (l : List QT) (n jb : Nat) (P Q : Nat → Prop) (v : Value) (bs : List (Nat × Nat)) : Prop where
  jl : JL P w jb l (yRs S3 (l.take n))
  yp : YP Q w v (ySs S3 (l.take n)) bs
  ap : ∀ i, P i → ¬ Q i
  ql : ∀ i, Q i → i < w.heap.size
  lo : ∀ i, P i ∨ Q i → B ≤ i
  nl : n ≤ l.length
  sz : B ≤ w.heap.size
section
variable {w w' : World} {B n jb : Nat} {l : List QT} {P Q p : Nat → Prop} {v : Value} {bs : List (Nat × Nat)}
theorem PR.lt (h : PR w B l n jb P Q v bs) {i : Nat} (hi : P i ∨ Q i) : i < w.heap.size := by
  rcases hi with hi | hi
  · exact h.jl.2.1 i hi
  · exact h.ql i hi
theorem PR.bel (h : PR w B l n jb P Q v bs) (hb : Below w.heap.size w w') : PR w' B l n jb P Q v bs :=
  ⟨h.jl.bel hb, h.yp.bel hb, h.ap, fun i hi => Nat.lt_of_lt_of_le (h.ql i hi) hb.size, h.lo, h.nl, Nat.le_trans h.sz hb.size⟩
theorem PR.gs (h : PR w B l n jb P Q v bs) (hg : Gs p w w') (hp : ∀ i, P i ∨ Q i → ¬ p i) : PR w' B l n jb P Q v bs :=
  ⟨h.jl.gs hg (fun i hi => hp i (.inl hi)), h.yp.gs hg (fun i hi => hp i (.inr hi)), h.ap, fun i hi => Nat.lt_of_lt_of_le (h.ql i hi) hg.size, h.lo, h.nl, Nat.le_trans h.sz hg.size⟩
theorem PR.len (h : PR w B l n jb P Q v bs) : (yRs S3 (l.take n)).length = n := by rw [yRs_len, List.length_take]; have := h.nl; omega
theorem PR.names (h : PR w B l n jb P Q v bs) (hl : l.length ≤ 100) : (resI (yRs S3 (l.take n))).length ≤ 10000 := by
  have h1 := yRs_names (l.take n) S3_gd
  have h2 : (l.take n).length = n := by rw [List.length_take]; have := h.nl; omega
  rw [h2] at h1
  have h3 := h.nl
  have : n * (0 + n) ≤ 100 * 100 := Nat.mul_le_mul (by omega) (by omega)
  omega
theorem PR.run (h : PR w B l n jb P Q v bs) (hl : l.length ≤ 100) (hq : ∀ q ∈ l, q.n.size ≤ maxLen ∧ q.d.size ≤ maxLen) (most : Int) (hm : 0 ≤ most) :
    Calls Try.prog 19 #[.pointer (some ⟨jb, 0, none⟩), v, .int .i64 most] w fun e w' => ∃ t P', t = min (l.length - n) most.toNat ∧ e = .returned (.tuple #[.int .i64 (t : Int), .int .i64 (if n + t < l.length then 2 else 0)]) ∧ PR w' B l (n + t) jb P' Q v bs ∧ Gs (fun i => P i ∨ Q i) w w' ∧ ∀ i, P' i → P i ∨ w.heap.size ≤ i := by
  have hlen := h.len
  have hnm := h.names hl
  have hnl := h.nl
  have htl : (l.take n).length = n := by rw [List.length_take]; omega
  have hGD : GD (0 + (l.take n).length) (ySs S3 (l.take n)) := GD.steps _ S3_gd
  rw [htl] at hGD
  refine (run_any (jobL jb (by omega)) h.jl h.yp h.ap h.ql hGD (by omega) (by omega) hq most hm).mono ?_
  rintro e w' ⟨t, ht, rfl, P', hU⟩
  rw [hlen] at ht hU ⊢
  have hg := hU.g
  refine ⟨t, P', ht, rfl, ⟨?_, ?_, fun i hi hQ => ?_, fun i hi => Nat.lt_of_lt_of_le (h.ql i hi) hg.size, fun i hi => ?_, by omega, Nat.le_trans h.sz hg.size⟩, hg, hU.p⟩
  · rw [take_on, yRs_app]; exact hU.j
  · rw [take_on, ySs_app]; exact hU.y
  · rcases hU.p i hi with h' | h'
    · exact h.ap i h' hQ
    · have := h.ql i hQ; omega
  · rcases hi with hi | hi
    · rcases hU.p i hi with h' | h'
      · exact h.lo i (.inl h')
      · have := h.sz; omega
    · exact h.lo i (.inr hi)
end
/-- Three jobs, each beside its own stores. -/
structure TU (w0 wr : World) (la lb : List QT) (nx ny nz xb yb zb : Nat) (Px Py Pz Q1 Q2 Q3 : Nat → Prop) (v1 v2 v3 : Value) (b1 b2 b3 : List (Nat × Nat)) : Prop where
  x : PR wr w0.heap.size la nx xb Px Q1 v1 b1
  y : PR wr w0.heap.size lb ny yb Py Q2 v2 b2
  z : PR wr w0.heap.size la nz zb Pz Q3 v3 b3
  xy : ∀ i, Px i ∨ Q1 i → ¬ (Py i ∨ Q2 i)
  xz : ∀ i, Px i ∨ Q1 i → ¬ (Pz i ∨ Q3 i)
  yz : ∀ i, Py i ∨ Q2 i → ¬ (Pz i ∨ Q3 i)
  be : Below w0.heap.size w0 wr
section
variable {w0 wr w' : World} {la lb : List QT} {nx ny nz nx' xb yb zb : Nat} {Px Py Pz Q1 Q2 Q3 P' : Nat → Prop} {v1 v2 v3 : Value} {b1 b2 b3 : List (Nat × Nat)}
theorem TU.bel (h : TU w0 wr la lb nx ny nz xb yb zb Px Py Pz Q1 Q2 Q3 v1 v2 v3 b1 b2 b3) (hb : Below wr.heap.size wr w') : TU w0 w' la lb nx ny nz xb yb zb Px Py Pz Q1 Q2 Q3 v1 v2 v3 b1 b2 b3 :=
  ⟨h.x.bel hb, h.y.bel hb, h.z.bel hb, h.xy, h.xz, h.yz, h.be.trans (hb.mono h.be.size)⟩
theorem TU.goX (h : TU w0 wr la lb nx ny nz xb yb zb Px Py Pz Q1 Q2 Q3 v1 v2 v3 b1 b2 b3) (hx : PR w' w0.heap.size la nx' xb P' Q1 v1 b1) (hg : Gs (fun i => Px i ∨ Q1 i) wr w') (hp : ∀ i, P' i → Px i ∨ wr.heap.size ≤ i) : TU w0 w' la lb nx' ny nz xb yb zb P' Py Pz Q1 Q2 Q3 v1 v2 v3 b1 b2 b3 := by
  refine ⟨hx, h.y.gs hg (fun i hi e => h.xy i e hi), h.z.gs hg (fun i hi e => h.xz i e hi), fun i hi hj => ?_, fun i hi hj => ?_, h.yz, hg.below h.be h.be.size (fun i e => h.x.lo i e)⟩
  · rcases hi with hi | hi
    · rcases hp i hi with h' | h'
      · exact h.xy i (.inl h') hj
      · have := h.y.lt hj; omega
    · exact h.xy i (.inr hi) hj
  · rcases hi with hi | hi
    · rcases hp i hi with h' | h'
      · exact h.xz i (.inl h') hj
      · have := h.z.lt hj; omega
    · exact h.xz i (.inr hi) hj
theorem TU.goY (h : TU w0 wr la lb nx ny nz xb yb zb Px Py Pz Q1 Q2 Q3 v1 v2 v3 b1 b2 b3) (hx : PR w' w0.heap.size lb nx' yb P' Q2 v2 b2) (hg : Gs (fun i => Py i ∨ Q2 i) wr w') (hp : ∀ i, P' i → Py i ∨ wr.heap.size ≤ i) : TU w0 w' la lb nx nx' nz xb yb zb Px P' Pz Q1 Q2 Q3 v1 v2 v3 b1 b2 b3 := by
  refine ⟨h.x.gs hg (fun i hi e => h.xy i hi e), hx, h.z.gs hg (fun i hi e => h.yz i e hi), fun i hi hj => ?_, h.xz, fun i hi hj => ?_, hg.below h.be h.be.size (fun i e => h.y.lo i e)⟩
  · rcases hj with hj | hj
    · rcases hp i hj with h' | h'
      · exact h.xy i hi (.inl h')
      · have := h.x.lt hi; omega
    · exact h.xy i hi (.inr hj)
  · rcases hi with hi | hi
    · rcases hp i hi with h' | h'
      · exact h.yz i (.inl h') hj
      · have := h.z.lt hj; omega
    · exact h.yz i (.inr hi) hj
theorem TU.goZ (h : TU w0 wr la lb nx ny nz xb yb zb Px Py Pz Q1 Q2 Q3 v1 v2 v3 b1 b2 b3) (hx : PR w' w0.heap.size la nx' zb P' Q3 v3 b3) (hg : Gs (fun i => Pz i ∨ Q3 i) wr w') (hp : ∀ i, P' i → Pz i ∨ wr.heap.size ≤ i) : TU w0 w' la lb nx ny nx' xb yb zb Px Py P' Q1 Q2 Q3 v1 v2 v3 b1 b2 b3 := by
  refine ⟨h.x.gs hg (fun i hi e => h.xz i hi e), h.y.gs hg (fun i hi e => h.yz i hi e), hx, h.xy, fun i hi hj => ?_, fun i hi hj => ?_, hg.below h.be h.be.size (fun i e => h.z.lo i e)⟩
  · rcases hj with hj | hj
    · rcases hp i hj with h' | h'
      · exact h.xz i hi (.inl h')
      · have := h.x.lt hi; omega
    · exact h.xz i hi (.inr hj)
  · rcases hj with hj | hj
    · rcases hp i hj with h' | h'
      · exact h.yz i hi (.inl h')
      · have := h.y.lt hi; omega
    · exact h.yz i hi (.inr hj)
end
end Go.Proofs.Ytepmhgkegfpmjaa
