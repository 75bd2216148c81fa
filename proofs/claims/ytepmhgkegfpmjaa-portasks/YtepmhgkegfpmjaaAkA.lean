/-
  Port: work that asks one by one, and then all: its calls.
-/
import Derived.Test.YtepmhgkegfpmjaaPoWork
namespace Go.Proofs.Ytepmhgkegfpmjaa
open Go.RowKit Go.Lib Go.Maps
def tDone : ByteArray := ⟨#[100, 111, 110, 101]⟩
/-- The asker. -/
def AK (w : World) (kb jb : Nat) (lv ov bv : Value) : Prop := w.heap[kb]? = some (.cells #[.pointer (some ⟨jb, 0, none⟩), lv, ov, bv] 70 (0, 0))
section
variable {r p : Nat → Prop} {w w' : World} {kb jb a1 a2 a3 a4 a5 m : Nat} {lv ov bv rv av : Value} {l : List QT} {X : List (RR × Value)} {st k s c N : Int} {n d : ByteArray} {go ids tx : Value} {op : Bool} {ab : Option Addr} {cb : Nat}
theorem AK.lt (h : AK w kb jb lv ov bv) : kb < w.heap.size := lt_of_block h
theorem AK.bel (h : AK w kb jb lv ov bv) (hb : Below w.heap.size w w') : AK w' kb jb lv ov bv := (hb.block kb h.lt).trans h
theorem AK.gs (h : AK w kb jb lv ov bv) (hg : Gs p w w') (hp : ¬ p kb) : AK w' kb jb lv ov bv := (hg.block kb h.lt hp).trans h
theorem AK.cell (h : AK w kb jb lv ov bv) (j : Nat) : w.cell? ⟨kb, j, none⟩ = (#[.pointer (some ⟨jb, 0, none⟩), lv, ov, bv] : Array Value)[j]? := by
  rw [World.cell?]; simp only [show w.heap[kb]? = _ from h]; rfl
theorem AK.free (h : AK w kb jb lv ov bv) (j : Nat) : w.frozen? ⟨kb, j, none⟩ = false := by simp [World.frozen?, show w.heap[kb]? = _ from h]
theorem AK.nj (h : AK w kb jb lv ov bv) (hJ : JB w jb op st k n d go c N ids tx s) : kb ≠ jb := fun e => by
  have h1 := h
  rw [AK, e, show w.heap[jb]? = _ from hJ] at h1
  simp at h1
theorem AK.n4 (h : AK w kb jb lv ov bv) {tv : Value} (hC : CL r w jb l X a1 a2 a3 a4 a5 tv rv av) : kb ≠ a4 := fun e => by
  have h1 := h
  rw [AK, e, hC.h4] at h1
  simp at h1
theorem AK.no (h : AK w kb jb lv ov bv) {T : TypeId} {B : Nat} {v : Value} (hT : T ≠ 70) (hO : OW x3 3 T B v X w) : v.ownBlock ≠ some kb := fun e => by
  obtain ⟨cs, h1⟩ := hO.typ kb e
  rw [show w.heap[kb]? = _ from h] at h1
  simp at h1
  exact hT h1.2.symm
set_option maxRecDepth 100000 in
set_option maxHeartbeats 3200000 in
theorem endA (h : AK w kb jb lv ov bv) (hJ : JB w jb true st k n d go c N ids tx s) :
    Calls Try.prog 58 #[.pointer (some ⟨kb, 0, none⟩), .slice ab m cb] w fun e w' => e = .returned (.tuple #[]) ∧ AK w' kb jb lv ov (.slice ab m cb) ∧ ∃ ids tx, JB w' jb false 0 0 ⟨#[]⟩ ⟨#[]⟩ .nilFunc 0 (m : Int) ids tx s ∧ TS w.heap.size ids [] w' ∧ TS w.heap.size tx [tDone] w' ∧ Gs (fun i => i = kb ∨ i = jb) w w' := by
  have hne := h.nj hJ
  have y3 : w.cell? ⟨kb, 3, none⟩ = some bv := h.cell 3
  have f3 := h.free 3
  have hA1 : AK (w.setCell ⟨kb, 3, none⟩ (.slice ab m cb)) kb jb lv ov (.slice ab m cb) := heap_set_self h
  obtain ⟨V, hV⟩ : ∃ V, V = w.setCell ⟨kb, 3, none⟩ (.slice ab m cb) := ⟨_, rfl⟩
  rw [← hV] at hA1
  have hG1 : Gs (fun i => i = kb ∨ i = jb) w V := by rw [hV]; exact (Gs.refl _ _).set (a := ⟨kb, 3, none⟩) (.inl (.inl rfl)) _
  have hJ1 : JB V jb true st k n d go c N ids tx s := by rw [hV]; exact (heap_setCell_other w ⟨kb, 3, none⟩ jb _ (fun e => hne e.symm)).trans hJ
  have y0 : V.cell? ⟨kb, 0, none⟩ = some (.pointer (some ⟨jb, 0, none⟩)) := hA1.cell 0
  obtain ⟨U, hU⟩ : ∃ U, U = V.alloc (.cells #[.string ⟨#[100, 111, 110, 101]⟩] 9) := ⟨_, rfl⟩
  have hBU : Below V.heap.size V U := by rw [hU]; exact (Below.refl _ _).alloc (Nat.le_refl _) _
  have hone : LS t1 1 (fun _ => True) U (.slice (some ⟨V.heap.size, 0, none⟩) 1 1) [tDone] := by rw [hU]; exact LS.one tDone 9 V t1 1 _ trivial
  have HEN := hide (end_on (c := 0) (N := (m : Int)) (hJ1.bel hBU) (⟨none, 0, rfl, fun _ => rfl, .inl rfl⟩ : LS t1 1 (fun _ => True) U (.slice none 0 0) []) hone (by simp) (by simp))
  have HF := hide (And.intro hA1 (And.intro hG1 (And.intro hBU hne)))
  have HV := hide hV
  have HU := hide hU
  clear h hJ hne hA1 hV hG1 hJ1 hU hBU hone
  go_enter Try.func58, Try.ntmps58
  go_upto_region 1 with fail
  rw [← HV.out]
  go_wp2_with fail
  rw [← HU.out]
  refine HEN.out.mono ?_
  rintro e w2 ⟨rfl, jds, jx, hJ2, hT1, hT2, hG2⟩
  obtain ⟨hA1, hG1, hBU, hne⟩ := HF.out
  have hA2 := (hA1.bel hBU).gs hG2 hne
  have z0 : w2.cell? ⟨kb, 0, none⟩ = some (.pointer (some ⟨jb, 0, none⟩)) := hA2.cell 0
  have HE2 := hide (end_off hJ2 (.int .i64 0) (.string ⟨#[]⟩) (.int .i64 (-1)) (.slice none 0 0) (.slice none 0 0) (.slice none 0 0) (.slice none 0 0))
  have hs1 := hG1.size
  have hs2 := hBU.size
  have HF2 := hide (And.intro hA2 (And.intro hJ2 (And.intro (hT1.low (Nat.le_trans hs1 hs2)) (And.intro (hT2.low (Nat.le_trans hs1 hs2)) ((hG1.bel hBU).tr2 hG2 (fun i _ e => .inr e))))))
  clear hA1 hG1 hBU hne hA2 hJ2 hT1 hT2 hG2 hs1 hs2
  go_wp2_with fail
  refine HE2.out.mono ?_
  rintro e w3 ⟨rfl, hB3⟩
  have HE : Hid (AK w3 kb jb lv ov (.slice ab m cb) ∧ ∃ ids tx, JB w3 jb false 0 0 ⟨#[]⟩ ⟨#[]⟩ .nilFunc 0 (m : Int) ids tx s ∧ TS w.heap.size ids [] w3 ∧ TS w.heap.size tx [tDone] w3 ∧ Gs (fun i => i = kb ∨ i = jb) w w3) := by
    obtain ⟨g1, g2, g3, g4, g5⟩ := HF2.out
    exact ⟨g1.bel hB3, _, _, g2.bel hB3, g3.keep hB3, g4.keep hB3, g5.bel hB3⟩
  clear hB3
  go_wp2
  go_end0
  exact ⟨rfl, HE.out⟩
set_option maxRecDepth 100000 in
set_option maxHeartbeats 3200000 in
theorem next_endA (h : CL r w jb l X a1 a2 a3 a4 a5 (.func (.func 58) #[.pointer (some ⟨kb, 0, none⟩)] #[]) rv av) (hK : AK w kb jb lv ov bv) (hJ : JB w jb true st k n d go c N ids tx s) (hxl : X.length = l.length) :
    Calls Try.prog 47 #[.pointer (some ⟨a4, 0, none⟩), .pointer (some ⟨a3, 0, none⟩), .pointer (some ⟨a1, 0, none⟩), .pointer (some ⟨a5, 0, none⟩), .pointer (some ⟨a2, 0, none⟩)] w fun e w' => e = .returned (.tuple #[]) ∧ AK w' kb jb lv ov av ∧ ∃ ids tx, JB w' jb false 0 0 ⟨#[]⟩ ⟨#[]⟩ .nilFunc 0 (l.length : Int) ids tx s ∧ TS w.heap.size ids [] w' ∧ TS w.heap.size tx [tDone] w' ∧ Gs (fun i => i = kb ∨ i = jb) w w' := by
  obtain ⟨aa, ca, hav⟩ := h.o.shp
  obtain ⟨ar, cr, hrv⟩ := h.q.shp
  have y4 : w.cell? ⟨a4, 0, none⟩ = some av := by simp [World.cell?, h.h4]
  have y3 : w.cell? ⟨a3, 0, none⟩ = some rv := by simp [World.cell?, h.h3]
  have y2 : w.cell? ⟨a2, 0, none⟩ = some (.func (.func 58) #[.pointer (some ⟨kb, 0, none⟩)] #[]) := by simp [World.cell?, h.h2]
  rw [hxl] at hav
  subst hav
  have HE := hide (endA (ab := aa) (m := l.length) (cb := ca) hK hJ)
  rw [hrv] at y3
  obtain ⟨ll, hll⟩ : ∃ ll, ll = l.length := ⟨_, rfl⟩
  rw [← hll] at y3 y4 HE ⊢
  have b1 : ¬ (ll : Int) < (ll : Int) := by omega
  obtain ⟨g1, g2, g3, g4⟩ := fe79
  clear h hK hJ hxl hrv hll
  go_enter Try.func47, Try.ntmps47
  go_wp2_with fail
  refine HE.out.mono ?_
  rintro e w1 ⟨rfl, hF⟩
  have HF := hide hF
  clear hF
  go_wp2
  go_end0
  exact ⟨rfl, HF.out⟩
end
section
variable {r p : Nat → Prop} {w w' : World} {b kb a1 a2 a3 a4 a5 : Nat} {l : List QT} {X : List (RR × Value)} {lv ov rv av : Value} {s : Int}
/-- What is behind an answer that was taken. -/
def TKA (r : Nat → Prop) (w w' : World) (b kb : Nat) (l : List QT) (X : List (RR × Value)) (a1 a2 a3 a4 a5 : Nat) (lv ov rv av : Value) (s : Int) : Prop :=
  (∃ q av', l[X.length]? = some q ∧ CL r w' b l X a1 a2 a3 a4 a5 (.func (.func 58) #[.pointer (some ⟨kb, 0, none⟩)] #[]) rv av' ∧ AK w' kb b lv ov (.slice none 0 0) ∧ (av'.ownBlock = av.ownBlock ∨ ∀ i, av'.ownBlock = some i → w.heap.size ≤ i) ∧ JB w' b true q.st q.k q.n q.d (.func (.func 49) #[] #[.pointer (some ⟨a4, 0, none⟩), .pointer (some ⟨a5, 0, none⟩)]) 0 0 (.slice none 0 0) (.slice none 0 0) s) ∨
  (X.length = l.length ∧ ∃ av' ids tx, AK w' kb b lv ov av' ∧ OW x3 3 45 0 av' X w' ∧ (av'.ownBlock = av.ownBlock ∨ ∀ i, av'.ownBlock = some i → w.heap.size ≤ i) ∧ (∀ i, av'.ownBlock = some i → ¬ r i) ∧ JB w' b false 0 0 ⟨#[]⟩ ⟨#[]⟩ .nilFunc 0 (l.length : Int) ids tx s ∧ TS w.heap.size ids [] w' ∧ TS w.heap.size tx [tDone] w')
set_option maxRecDepth 100000 in
set_option maxHeartbeats 3200000 in
theorem takeA (h : CL r w b l X a1 a2 a3 a4 a5 (.func (.func 58) #[.pointer (some ⟨kb, 0, none⟩)] #[]) rv av) (hK : AK w kb b lv ov (.slice none 0 0)) (hJ : JB w b true 0 0 ⟨#[]⟩ ⟨#[]⟩ .nilFunc 0 0 (.slice none 0 0) (.slice none 0 0) s) (x : RR × Value) (hx : LS t1 1 r w x.2 x.1.l) (hX : X.length < l.length) (hl : l.length ≤ 1000000) :
    Calls Try.prog 49 #[.agg #[.int .i64 x.1.c, .string x.1.d, x.2], .pointer (some ⟨a4, 0, none⟩), .pointer (some ⟨a5, 0, none⟩)] w fun e w' => e = .returned (.tuple #[]) ∧ Gs (fun i => mu b a4 av i ∨ i = kb) w w' ∧ TKA r w w' b kb l (X ++ [x]) a1 a2 a3 a4 a5 lv ov rv av s := by
  obtain ⟨au, cu, hu⟩ := hx.shp
  obtain ⟨U, hU⟩ : ∃ U, U = w.alloc (.cells #[.int .i64 x.1.c, .string x.1.d, x.2] 45) := ⟨_, rfl⟩
  have hBU : Below w.heap.size w U := by rw [hU]; exact (Below.refl _ _).alloc (Nat.le_refl _) _
  have hW := h.bel hBU
  have hJU := hJ.bel hBU
  have hblk : U.heap[w.heap.size]? = some (.cells #[.int .i64 x.1.c, .string x.1.d, x.2] 45 (0, 0)) := by rw [hU]; exact heap_alloc_new w _
  have k0 : U.cell? ⟨w.heap.size, 0, none⟩ = some (.int .i64 x.1.c) := by simp [World.cell?, hblk]
  have k1 : U.cell? ⟨w.heap.size, 1, none⟩ = some (.string x.1.d) := by simp [World.cell?, hblk]
  have k2 : U.cell? ⟨w.heap.size, 2, none⟩ = some x.2 := by simp [World.cell?, hblk]
  have y4 : U.cell? ⟨a4, 0, none⟩ = some av := by simp [World.cell?, hW.h4]
  obtain ⟨v', w1, hr, hsl, h4w, hCV, hJV, hGV, hov⟩ := hW.app hJU x (hx.bel hBU) (by omega)
  have hs := store1_run (t := 23) h4w (j := 0) (v := v') (Nat.le_of_ble_eq_true rfl) Try.sizeAs hsl
  obtain ⟨V, hV⟩ : ∃ V, V = w1.setCell ⟨a4, 0, none⟩ v' := ⟨_, rfl⟩
  rw [← hV] at hs hCV hJV hGV
  have y5 : V.cell? ⟨a5, 0, none⟩ = some (.func (.func 47) #[] #[.pointer (some ⟨a4, 0, none⟩), .pointer (some ⟨a3, 0, none⟩), .pointer (some ⟨a1, 0, none⟩), .pointer (some ⟨a5, 0, none⟩), .pointer (some ⟨a2, 0, none⟩)]) := by simp [World.cell?, hCV.h5]
  have hGw : Gs (mu b a4 av) w V := (Gs.of_below _ hBU).trans hGV
  have hkb4 := hK.n4 h
  have hkbj := hK.nj hJ
  have hkbo := hK.no (by decide) h.o
  have hKV : AK V kb b lv ov (.slice none 0 0) := hK.gs hGw (fun e => by
    rcases e with e | e | e
    · exact hkbj e
    · exact hkb4 e
    · exact hkbo e)
  have hsz : w.heap.size ≤ V.heap.size := hGw.size
  have hUs : w.heap.size ≤ U.heap.size := hBU.size
  have hov' : v'.ownBlock = av.ownBlock ∨ ∀ i, v'.ownBlock = some i → w.heap.size ≤ i := by
    rcases hov with e | e
    · exact .inl e
    · exact .inr fun i hi => by rw [e] at hi; simp at hi; omega
  have HN : Hid (Calls Try.prog 47 #[.pointer (some ⟨a4, 0, none⟩), .pointer (some ⟨a3, 0, none⟩), .pointer (some ⟨a1, 0, none⟩), .pointer (some ⟨a5, 0, none⟩), .pointer (some ⟨a2, 0, none⟩)] V fun e w' => e = .returned (.tuple #[]) ∧ Hid (Gs (fun i => mu b a4 av i ∨ i = kb) w w' ∧ TKA r w w' b kb l (X ++ [x]) a1 a2 a3 a4 a5 lv ov rv av s)) := by
    by_cases hlt : X.length + 1 < l.length
    · obtain ⟨q, hq⟩ : ∃ q, l[(X ++ [x]).length]? = some q := ⟨_, List.getElem?_eq_getElem (by simpa using hlt)⟩
      refine (next_ask hCV hJV hq).mono ?_
      rintro e w2 ⟨rfl, hJ2, hG2⟩
      exact ⟨rfl, hGw.tr2 hG2 (fun i _ e => .inl e) |>.mono (fun i _ e => .inl e), .inl ⟨q, v', hq, hCV.gb hJV hG2, hKV.gs hG2 hkbj, hov', hJ2⟩⟩
    · refine (next_endA hCV hKV hJV (by simp; omega)).mono ?_
      rintro e w2 ⟨rfl, hK2, jds, jx, hJ2, hT1, hT2, hG2⟩
      refine ⟨rfl, (hGw.mono (fun i _ e => .inl e)).tr2 hG2 (fun i _ e => ?_), .inr ⟨by simp; omega, v', jds, jx, hK2, hCV.o.kb (fun i hi => hG2.block i (hCV.o.lt i hi).2 (fun e => ?_)), hov', hCV.no, hJ2, hT1.low hsz, hT2.low hsz⟩⟩
      · rcases e with e | e
        · exact .inr e
        · exact .inl (.inl e)
      · rcases e with e | e
        · exact hKV.no (by decide) hCV.o (e ▸ hi)
        · exact hCV.bo hJV (e ▸ hi)
  have HU := hide hU
  rw [hu] at k2 HU
  rw [hu] at hr
  rw [hu]
  clear hW hJU hblk hCV hJV hGV hov hV hGw hKV hkb4 hkbj hkbo hov' hsz hUs h4w hsl hU hBU hJ h hK hx hX hl
  generalize x.1.c = cc at *
  generalize x.1.d = dd at *
  generalize x.1.l.length = ln at *
  go_enter Try.func49, Try.ntmps49
  go_upto_region 1 with fail
  rw [← HU.out]
  go_wp2_with (first | (at_builtin; refine Lib.wpList_append_run _ rfl _ _ _ _ rfl _ _ rfl rfl _ _ hr ?_) | (refine wpList_store_run rfl 23 _ _ rfl _ _ rfl rfl hs ?_))
  refine HN.out.mono ?_
  rintro e w2 ⟨rfl, hF⟩
  go_wp2
  go_end0
  exact ⟨rfl, hF.out⟩
end
section
variable {r p : Nat → Prop} {w w' : World} {kb jb m : Nat} {l : List QT} {lv ov bv : Value} {st k s c N : Int} {n d : ByteArray} {ids tx : Value} {ao : Option Addr} {co : Nat}
set_option maxRecDepth 100000 in
set_option maxHeartbeats 3200000 in
theorem nextA_ask (h : AK w kb jb lv (.slice ao m co) bv) (hq0 : LS q4 4 r w lv l) (hrj : ¬ r jb) (hJ : JB w jb true st k n d .nilFunc c N ids tx s) {q : QT} (hq : l[m]? = some q) :
    Calls Try.prog 44 #[.pointer (some ⟨kb, 0, none⟩)] w fun e w' => e = .returned (.tuple #[]) ∧ JB w' jb true q.st q.k q.n q.d (.func (.func 57) #[.pointer (some ⟨kb, 0, none⟩)] #[]) c N ids tx s ∧ Gs (fun i => i = jb) w w' := by
  have hml : m < l.length := (List.getElem?_eq_some_iff.1 hq).1
  obtain ⟨al, cl, hlv, _, hL⟩ := id hq0
  obtain ⟨g, o, hal, hrg, hg, hG⟩ := hL.resolve_left (by intro e; rw [e] at hq; simp at hq)
  subst hal
  subst hlv
  have hgj : g ≠ jb := fun e => hrj (e ▸ hrg)
  have hkj := h.nj hJ
  obtain ⟨ll, hll⟩ : ∃ ll, ll = l.length := ⟨_, rfl⟩
  rw [← hll] at hml h
  have HK : Hid (∀ w1, Gs (fun i => i = jb) w w1 → w1.cell? ⟨kb, 0, none⟩ = some (.pointer (some ⟨jb, 0, none⟩)) ∧ w1.cell? ⟨kb, 1, none⟩ = some (.slice (some ⟨g, o, none⟩) ll cl) ∧ w1.cell? ⟨kb, 2, none⟩ = some (.slice ao m co) ∧ w1.cell? ⟨g, o + m * 4, none⟩ = some (.int .i64 q.st) ∧ w1.cell? ⟨g, o + m * 4 + 1, none⟩ = some (.int .i64 q.k) ∧ w1.cell? ⟨g, o + m * 4 + 2, none⟩ = some (.string q.n) ∧ w1.cell? ⟨g, o + m * 4 + 3, none⟩ = some (.string q.d)) := fun w1 hg1 => by
    have h1 := h.gs hg1 hkj
    have h2 := hG.block (hg1.block g hg hgj)
    exact ⟨h1.cell 0, h1.cell 1, h1.cell 2, h2 m q hq 0 _ rfl, h2 m q hq 1 _ rfl, h2 m q hq 2 _ rfl, h2 m q hq 3 _ rfl⟩
  obtain ⟨x0, x1, x2, x3, x4, x5, x6⟩ := HK.out w (Gs.refl _ _)
  have b1 : (m : Int) < (ll : Int) := by omega
  have b0 : (0 : Int) ≤ (m : Int) := by omega
  have hmf : ∀ (fn : Fn) (first cap : Array Value) (w : World), (Instr.makeFunc fn first cap).run Try.prog w = .ok (.func fn first cap) w := fun _ _ _ _ => rfl
  have HA : Hid _ := hide (ask_any (w := w.drew.drew) hJ q.st q.k q.n q.d (.func 57) #[.pointer (some ⟨kb, 0, none⟩)] #[])
  generalize q.st = qs at *
  generalize q.k = qk at *
  generalize q.n = qn at *
  generalize q.d = qd at *
  clear h hq0 hrj hJ hq hL hrg hg hG hgj hkj hll
  go_enter Try.func44, Try.ntmps44
  go_upto_region 0 with fail
  go_region
  go_upto_region 1 with fail
  go_region_held3 (fun w1 => w1.cell? ⟨kb, 0, none⟩ = some (.pointer (some ⟨jb, 0, none⟩)) ∧ w1.cell? ⟨kb, 1, none⟩ = some (.slice (some ⟨g, o, none⟩) ll cl) ∧ w1.cell? ⟨kb, 2, none⟩ = some (.slice ao m co) ∧ w1.cell? ⟨g, o + m * 4, none⟩ = some (.int .i64 qs) ∧ w1.cell? ⟨g, o + m * 4 + 1, none⟩ = some (.int .i64 qk) ∧ w1.cell? ⟨g, o + m * 4 + 2, none⟩ = some (.string qn) ∧ w1.cell? ⟨g, o + m * 4 + 3, none⟩ = some (.string qd)) (first | assumption | exact ⟨by assumption, by assumption, by assumption, by assumption, by assumption, by assumption, by assumption⟩)
    (first | (go_at_call 48; refine HA.out.mono ?_; rintro e w1 ⟨rfl, hJ1, hG1⟩; obtain ⟨k1, k2, k3, k4, k5, k6, k7⟩ := HK.out w1 hG1.und.und; have HF := hide (And.intro hJ1 hG1); clear hJ1 hG1))
  go_wp2
  exact bodyPost_ret (v := .tuple #[]) (by simp [results, Try.results44, go_sem]) rfl ⟨rfl, HF.out.1, HF.out.2.und.und⟩
set_option maxRecDepth 100000 in
set_option maxHeartbeats 3200000 in
theorem nextA_all (h : AK w kb jb lv (.slice ao m co) bv) (hq0 : LS q4 4 r w lv l) (hm : m = l.length) (hl : l.length ≤ 1000000) (hJ : JB w jb true st k n d .nilFunc c N ids tx s) {Q : World → Prop} (hQ : ∀ w', Q w' → w'.cell? ⟨kb, 0, none⟩ = some (.pointer (some ⟨jb, 0, none⟩)) ∧ w'.cell? ⟨kb, 1, none⟩ = some lv)
    (HC : ∀ W a1 a2 a3 a4 a5 rv r, CL r W jb l [] a1 a2 a3 a4 a5 (.func (.func 58) #[.pointer (some ⟨kb, 0, none⟩)] #[]) rv (.slice none 0 0) → JB W jb true st k n d .nilFunc c N ids tx s → Below w.heap.size w W → (∀ i, r i → w.heap.size ≤ i) → w.heap.size ≤ a4 → a4 < W.heap.size → Calls Try.prog 47 #[.pointer (some ⟨a4, 0, none⟩), .pointer (some ⟨a3, 0, none⟩), .pointer (some ⟨a1, 0, none⟩), .pointer (some ⟨a5, 0, none⟩), .pointer (some ⟨a2, 0, none⟩)] W fun e w' => e = .returned (.tuple #[]) ∧ Q w') :
    Calls Try.prog 44 #[.pointer (some ⟨kb, 0, none⟩)] w fun e w' => e = .returned (.tuple #[]) ∧ Q w' := by
  obtain ⟨al, cl, hlv⟩ := hq0.shp
  have HA : Hid _ := hide (all_any (w := w.drew.drew) hJ hq0 hl (.func 58) #[.pointer (some ⟨kb, 0, none⟩)] #[] (Q := Q) (fun W a1 a2 a3 a4 a5 rv r h1 h2 h3 h4 h5 h6 => HC W a1 a2 a3 a4 a5 rv r h1 h2 ⟨h3.os, h3.tape, h3.output, h3.size, h3.block⟩ h4 h5 h6))
  have HQQ := hide hQ
  subst hlv
  have x0 : w.cell? ⟨kb, 0, none⟩ = some (.pointer (some ⟨jb, 0, none⟩)) := h.cell 0
  have x1 : w.cell? ⟨kb, 1, none⟩ = some (.slice al l.length cl) := h.cell 1
  have x2 : w.cell? ⟨kb, 2, none⟩ = some (.slice ao m co) := h.cell 2
  rw [hm] at x2
  obtain ⟨ll, hll⟩ : ∃ ll, ll = l.length := ⟨_, rfl⟩
  rw [← hll] at x1 x2 HA HQQ
  have b1 : ¬ (ll : Int) < (ll : Int) := by omega
  have hmf : ∀ (fn : Fn) (first cap : Array Value) (w : World), (Instr.makeFunc fn first cap).run Try.prog w = .ok (.func fn first cap) w := fun _ _ _ _ => rfl
  clear h hq0 hm hJ hQ HC hl hll
  go_enter Try.func44, Try.ntmps44
  go_upto_region 0 with fail
  go_region
  go_upto_region 2 with fail
  go_region_held3 (fun w1 => w1.cell? ⟨kb, 0, none⟩ = some (.pointer (some ⟨jb, 0, none⟩)) ∧ w1.cell? ⟨kb, 1, none⟩ = some (.slice al ll cl)) (first | assumption | exact ⟨by assumption, by assumption⟩)
    (first | (go_at_call 31; refine HA.out.mono ?_; rintro e w1 ⟨rfl, hQ1⟩; obtain ⟨k1, k2⟩ := HQQ.out w1 hQ1; have HF := hide hQ1; clear hQ1))
  go_wp2
  go_end0
  exact ⟨rfl, HF.out⟩
end
end Go.Proofs.Ytepmhgkegfpmjaa
