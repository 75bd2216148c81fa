/-
  Contracts of the program and of the statements (part 24 of 27).
-/
import Derived.Test.YtagijldedngcoaaGreatDoorOg23
import Derived.Test.YtagijldedngcoaaGreatDoorOg16
import Derived.Test.YtagijldedngcoaaGreatDoorOg21
import Derived.Test.YtagijldedngcoaaGreatDoorOg20
import Derived.Test.YtagijldedngcoaaGreatDoorOg22
set_option maxRecDepth 100000
set_option maxHeartbeats 3200000

namespace Go.Proofs.YtagijldedngcoaaGreatDoor
open Go.RowKit Go.Lib Go.Maps
def gtx (x : ByteArray × Int) : List ByteArray := if x.2 = 0 then [x.1] else []
section
variable {b i1 : Nat} {e m r : Nat → Prop} {w w' W : World} {A : List RR} {st k c NN s : Int} {n d nm dt : ByteArray} {go ids tx : Value} {kk mm : Int} {pl : PN RS}
theorem oput_end (h6 : w.heap[i1]? = some (.cells #[.pointer (some ⟨b, 0, none⟩)] 99 (0, 0))) (hJ : JB w b true st k n d go c NN ids tx s) {cc nn : Int} :
    Calls Tryz.prog 61 #[.int .i64 cc, .int .i64 nn, .pointer (some ⟨i1, 0, none⟩)] w fun e w' => e = .returned (.tuple #[]) ∧ ∃ ids tx, JB w' b false 0 0 ⟨#[]⟩ ⟨#[]⟩ .nilFunc cc nn ids tx s ∧ TS w.heap.size ids [] w' ∧ TS w.heap.size tx [] w' ∧ Gs (fun i => i = b) w w' := by
  obtain ⟨y1, _⟩ := cell1 h6
  have HE : Hid (Calls Tryz.prog 62 #[.pointer (some ⟨b, 0, none⟩), .agg #[.int .i64 cc, .string ⟨#[]⟩, .int .i64 nn, .slice none 0 0, .slice none 0 0, .slice none 0 0, .slice none 0 0]] w fun e w' => e = .returned (.tuple #[]) ∧ ∃ ids tx, JB w' b false 0 0 ⟨#[]⟩ ⟨#[]⟩ .nilFunc cc nn ids tx s ∧ TS w.heap.size ids [] w' ∧ TS w.heap.size tx [] w' ∧ Gs (fun i => i = b) w w') := end_on hJ (LS.nl (f := t1) (fun _ => True) w) (LS.nl _ w) (by simp) (by simp)
  clear h6 hJ
  go_enter Tryz.func61, Tryz.ntmps61
  go_wp2_with fail
  refine HE.out.mono ?_
  rintro e w1 ⟨rfl, hF⟩
  have HF := hide hF
  clear hF
  go_wp2
  go_end0
  exact ⟨rfl, HF.out⟩
def kPut (x : Int × Int) : PN RS := .fin ⟨x.1, x.2, [], []⟩
theorem kv_put (h6 : w.heap[i1]? = some (.cells #[.pointer (some ⟨b, 0, none⟩)] 99 (0, 0))) (hb : b < w.heap.size) : KV 61 #[] #[.pointer (some ⟨i1, 0, none⟩)] b (FinR b) vP kPut (fun i => i = i1) (fun _ => False) w := by
  intro W x args A r hS hLw hJ hv hI hr
  subst hv
  show Calls Tryz.prog 61 #[.int .i64 x.1, .int .i64 x.2, .pointer (some ⟨i1, 0, none⟩)] W _
  refine (oput_end ((hS.2 i1 rfl (lt_of_block h6)).trans h6) hJ).mono ?_
  rintro er w' ⟨rfl, ids, tx, hJ', h1, h2, hG⟩
  exact ⟨rfl, fin_rdy hJ' h1 h2 hG (Nat.lt_of_lt_of_le hb hS.1)⟩
theorem ent_put11 : Ent 61 := ent_of Tryz.func61 (by kernel_rfl) rfl
theorem ent_put1 : Ent 59 := ent_of Tryz.func59 (by kernel_rfl) rfl
def OXPut (kk mm : Int) (nm dt : ByteArray) (pl : PN RS) : Prop := ∀ (b i1 : Nat) (W : World), Zq.Sh.Laid W → JB W b true 0 0 ⟨#[]⟩ ⟨#[]⟩ .nilFunc 0 0 (.slice none 0 0) (.slice none 0 0) 0 → b ≠ i1 → i1 < W.heap.size → KV 61 #[] #[.pointer (some ⟨i1, 0, none⟩)] b (FinR b) vP kPut (fun i => i = i1) (fun _ => False) W → Calls Tryz.prog 60 #[.pointer (some ⟨b, 0, none⟩), .agg #[.int .i64 kk, .int .i64 mm], .string nm, .string dt, .func (.func 61) #[] #[.pointer (some ⟨i1, 0, none⟩)]] W fun er w' => er = .returned (.tuple #[]) ∧ PO b (FinR b) pl [] (fun i => i = i1) (fun i => i = b ∨ False) W w'
theorem oputjob1 {x1 x2 x3 : Nat} (HX : OXPut kk mm nm dt pl) (hLw : Zq.Sh.Laid w) (hJ : JB w b true 0 0 ⟨#[]⟩ ⟨#[]⟩ .nilFunc 0 0 (.slice none 0 0) (.slice none 0 0) 0) (h1 : w.heap[x1]? = some (.cells #[.int .i64 kk, .int .i64 mm] 27 (0, 0))) (h2 : w.heap[x2]? = some (.cells #[.string nm] 9 (0, 0))) (h3 : w.heap[x3]? = some (.cells #[.string dt] 9 (0, 0))) :
    Calls Tryz.prog 59 #[.pointer (some ⟨b, 0, none⟩), .pointer (some ⟨x1, 0, none⟩), .pointer (some ⟨x2, 0, none⟩), .pointer (some ⟨x3, 0, none⟩)] w fun e w' => e = .returned (.tuple #[]) ∧ PO b (FinR b) pl [] (fun i => w.heap.size ≤ i) (fun i => i = b) w w' := by
  obtain ⟨U, hU⟩ : ∃ U, U = w.alloc (.cells #[.pointer (some ⟨b, 0, none⟩)] 99) := ⟨_, rfl⟩
  obtain ⟨i1, hi1⟩ : ∃ i1, i1 = w.heap.size := ⟨_, rfl⟩
  have hBU : Below w.heap.size w U := by rw [hU]; exact (Below.refl _ _).alloc (Nat.le_refl _) _
  have hJU := hJ.bel hBU
  have h6 : U.heap[i1]? = some (.cells #[.pointer (some ⟨b, 0, none⟩)] 99 (0, 0)) := by rw [hU, hi1]; exact heap_alloc_new w _
  have y6 := (cell1 h6).1
  have h1U := (hBU.block x1 (lt_of_block h1)).trans h1
  have y0 : U.cell? ⟨x1, 0, none⟩ = some (.int .i64 kk) := by simp [World.cell?, h1U]
  have y1 : U.cell? ⟨x1, 1, none⟩ = some (.int .i64 mm) := by simp [World.cell?, h1U]
  have y2 := (cell1 ((hBU.block x2 (lt_of_block h2)).trans h2)).1
  have y3 := (cell1 ((hBU.block x3 (lt_of_block h3)).trans h3)).1
  have hbl := hJ.lt
  have HN := hide (HX b i1 U (hLw.below hBU hLw.size) hJU (by omega) (lt_of_block h6) (kv_put h6 hJU.lt))
  have HU := hide hU
  have HI := hide hi1
  have HB := hide hBU
  have hmf : ∀ (fn : Fn) (first cap : Array Value) (w : World), (Instr.makeFunc fn first cap).run Tryz.prog w = .ok (.func fn first cap) w := fun _ _ _ _ => rfl
  clear HX hLw hJU h6 h1U hBU hU hi1 hJ hbl h1 h2 h3
  go_enter Tryz.func59, Tryz.ntmps59
  go_upto_region 1 with fail
  rw [← HU.out, ← HI.out]
  go_wp2_with fail
  refine HN.out.mono ?_
  rintro e w7 ⟨rfl, hQ⟩
  have HQ : Hid (PO b (FinR b) pl [] (fun i => w.heap.size ≤ i) (fun i => i = b) w w7) := by
    have h3 := (hQ.bel HB.out).less (e := fun i => w.heap.size ≤ i) (fun i hi => .inr (by have := HI.out; omega))
    exact h3.more fun i hi => by
      rcases hi with h | h
      · exact h
      · exact h.elim
  clear hQ
  go_wp2
  go_end0
  exact ⟨rfl, HQ.out⟩
theorem oputjob (HX : OXPut kk mm nm dt pl) (hLw : Zq.Sh.Laid w) :
    Calls Tryz.prog 24 #[.agg #[.int .i64 kk, .int .i64 mm], .string nm, .string dt] w fun e w' => MK FinR pl w w' e := by
  obtain ⟨U, hU⟩ : ∃ U, U = als w [.cells #[.int .i64 kk, .int .i64 mm] 27, .cells #[.string nm] 9, .cells #[.string dt] 9] := ⟨_, rfl⟩
  obtain ⟨X, hX⟩ : ∃ X, X = w.heap.size := ⟨_, rfl⟩
  have hB : Below w.heap.size w U := by rw [hU]; exact als_bel _ _
  have h1 : U.heap[X]? = some (.cells #[.int .i64 kk, .int .i64 mm] 27 (0, 0)) := by rw [hU, hX]; exact als_at _ w 0 _ rfl
  have h2 : U.heap[X + 1]? = some (.cells #[.string nm] 9 (0, 0)) := by rw [hU, hX]; exact als_at _ w 1 _ rfl
  have h3 : U.heap[X + 2]? = some (.cells #[.string dt] 9 (0, 0)) := by rw [hU, hX]; exact als_at _ w 2 _ rfl
  have HN : Hid (Calls Tryz.prog 44 #[.func (.func 59) #[] #[.pointer (some ⟨X, 0, none⟩), .pointer (some ⟨X + 1, 0, none⟩), .pointer (some ⟨X + 2, 0, none⟩)]] U fun e w' => Hid (MK FinR pl w w' e)) := by
    refine (start_mk (Fin := FinR) (pl := pl) ent_put1 (hLw.below hB hLw.size) fun V hJ hBV hLV => ?_).mono fun e w' h => h.bel hB
    refine (oputjob1 HX hLV hJ ((hBV.block _ (lt_of_block h1)).trans h1) ((hBV.block _ (lt_of_block h2)).trans h2) ((hBV.block _ (lt_of_block h3)).trans h3)).mono ?_
    rintro e w' ⟨rfl, hP⟩
    have := hBV.size
    exact ⟨rfl, hP.less fun i hi => .inl (by omega)⟩
  have HU : Hid (U = ((w.alloc (.cells #[.int .i64 kk, .int .i64 mm] 27)).alloc (.cells #[.string nm] 9)).alloc (.cells #[.string dt] 9)) := hU
  have HX' := hide hX
  have hmf : ∀ (fn : Fn) (first cap : Array Value) (w : World), (Instr.makeFunc fn first cap).run Tryz.prog w = .ok (.func fn first cap) w := fun _ _ _ _ => rfl
  clear HX hLw hB hU hX h1 h2 h3
  go_enter Tryz.func24, Tryz.ntmps24
  go_upto_region 1 with fail
  rw [← HU.out, ← HX'.out]
  go_wp2_with fail
  refine HN.out.mono ?_
  rintro e w7 hM
  obtain ⟨b, P, rfl, hM'⟩ := hM.out
  have HM : Hid (MK FinR pl w w7 (.returned (.pointer (some ⟨b, 0, none⟩)))) := hM.out
  clear hM hM'
  go_wp2
  go_ret
  exact HM.out
theorem oget_end (h6 : w.heap[i1]? = some (.cells #[.pointer (some ⟨b, 0, none⟩)] 99 (0, 0))) (hJ : JB w b true st k n d go c NN ids tx s) {cc : Int} {gd : ByteArray} :
    Calls Tryz.prog 65 #[.string gd, .int .i64 cc, .pointer (some ⟨i1, 0, none⟩)] w fun e w' => e = .returned (.tuple #[]) ∧ ∃ ids tx, JB w' b false 0 0 ⟨#[]⟩ ⟨#[]⟩ .nilFunc cc 0 ids tx s ∧ TS w.heap.size ids [] w' ∧ TS w.heap.size tx (gtx (gd, cc)) w' ∧ Gs (fun i => i = b) w w' := by
  obtain ⟨y1, _⟩ := cell1 h6
  have hib : i1 ≠ b := fun e => by
    rw [e, show w.heap[b]? = _ from hJ] at h6
    simp at h6
  have hbl := hJ.lt
  obtain ⟨X, hX⟩ : ∃ X, X = w.heap.size := ⟨_, rfl⟩
  have HX := hide hX
  by_cases h0 : cc = 0
  · obtain ⟨U, hU⟩ : ∃ U, U = als w [.cells #[.int .i64 cc, .string ⟨#[]⟩, .int .i64 0, .slice none 0 0, .slice (some ⟨X + 1, 0, none⟩) 1 1, .slice none 0 0, .slice none 0 0] 63, .cells #[.string gd] 9] := ⟨_, rfl⟩
    have hB : Below w.heap.size w U := by rw [hU]; exact als_bel _ _
    have c1 : U.heap[X]? = some (.cells #[.int .i64 cc, .string ⟨#[]⟩, .int .i64 0, .slice none 0 0, .slice (some ⟨X + 1, 0, none⟩) 1 1, .slice none 0 0, .slice none 0 0] 63 (0, 0)) := by rw [hU, hX]; exact als_at _ w 0 _ rfl
    have c2 : U.heap[X + 1]? = some (.cells #[.string gd] 9 (0, 0)) := by rw [hU, hX]; exact als_at _ w 1 _ rfl
    have hls : LS t1 1 (fun _ => True) U (.slice (some ⟨X + 1, 0, none⟩) 1 1) [gd] := ⟨_, _, rfl, (fun h => by simp at h), .inr ⟨X + 1, 0, rfl, trivial, lt_of_block c2, fun i x hx j u hu => by
      match i, hx with
      | 0, hx =>
        injection hx with hx
        subst hx
        match j, hu with
        | 0, hu => injection hu with hu; subst hu; simp [World.cell?, c2]
        | _ + 1, hu => simp [t1] at hu⟩⟩
    have HE := hide (end_on (c := cc) (N := 0) (hJ.bel hB) (LS.nl (f := t1) (fun _ => True) U) hls (by simp) (by simp))
    have z1 := (cell1 ((hB.block i1 (lt_of_block h6)).trans h6)).1
    have q0 : U.cell? ⟨X, 0, none⟩ = some (.int .i64 cc) := by simp [World.cell?, c1]
    have q1 : U.cell? ⟨X, 1, none⟩ = some (.string ⟨#[]⟩) := by simp [World.cell?, c1]
    have q2 : U.cell? ⟨X, 2, none⟩ = some (.int .i64 0) := by simp [World.cell?, c1]
    have q3 : U.cell? ⟨X, 3, none⟩ = some (.slice none 0 0) := by simp [World.cell?, c1]
    have q4 : U.cell? ⟨X, 4, none⟩ = some (.slice (some ⟨X + 1, 0, none⟩) 1 1) := by simp [World.cell?, c1]
    have q5 : U.cell? ⟨X, 5, none⟩ = some (.slice none 0 0) := by simp [World.cell?, c1]
    have q6 : U.cell? ⟨X, 6, none⟩ = some (.slice none 0 0) := by simp [World.cell?, c1]
    have HG : Hid (gtx (gd, cc) = [gd]) := by rw [Hid, gtx, if_pos h0]
    have HB := hide hB
    have HU : Hid (U = (w.alloc (.cells #[.int .i64 0, .string ⟨#[]⟩, .int .i64 0, .slice none 0 0, .slice (some ⟨X + 1, 0, none⟩) 1 1, .slice none 0 0, .slice none 0 0] 63)).alloc (.cells #[.string gd] 9)) := by rw [hU, h0]; rfl
    subst h0
    clear hib hbl h6 hJ hX hB hU c1 c2 hls
    go_enter Tryz.func65, Tryz.ntmps65
    go_upto_region 3 with fail
    rw [← HX.out, ← HU.out]
    go_wp2_with fail
    refine HE.out.mono ?_
    rintro e w1 ⟨rfl, ids', tx', hJ2, hT1, hT2, hG⟩
    have HF : Hid (∃ ids tx, JB w1 b false 0 0 ⟨#[]⟩ ⟨#[]⟩ .nilFunc 0 0 ids tx s ∧ TS w.heap.size ids [] w1 ∧ TS w.heap.size tx (gtx (gd, 0)) w1 ∧ Gs (fun i => i = b) w w1) := by
      rw [HG.out]
      exact ⟨ids', tx', hJ2, hT1.low HB.out.size, hT2.low HB.out.size, (Gs.of_below _ HB.out).trans hG⟩
    clear hJ2 hT1 hT2 hG
    go_wp2
    go_end0
    exact ⟨rfl, HF.out⟩
  · have HG : Hid (gtx (gd, cc) = []) := by rw [Hid, gtx, if_neg h0]
    obtain ⟨U, hU⟩ : ∃ U, U = als w [.cells #[.int .i64 cc, .string ⟨#[]⟩, .int .i64 0, .slice none 0 0, .slice none 0 0, .slice none 0 0, .slice none 0 0] 63] := ⟨_, rfl⟩
    have hB : Below w.heap.size w U := by rw [hU]; exact als_bel _ _
    have c1 : U.heap[X]? = some (.cells #[.int .i64 cc, .string ⟨#[]⟩, .int .i64 0, .slice none 0 0, .slice none 0 0, .slice none 0 0, .slice none 0 0] 63 (0, 0)) := by rw [hU, hX]; exact als_at _ w 0 _ rfl
    have HE := hide (end_on (c := cc) (N := 0) (hJ.bel hB) (LS.nl (f := t1) (fun _ => True) U) (LS.nl (f := t1) (fun _ => True) U) (by simp) (by simp))
    have z1 := (cell1 ((hB.block i1 (lt_of_block h6)).trans h6)).1
    have q0 : U.cell? ⟨X, 0, none⟩ = some (.int .i64 cc) := by simp [World.cell?, c1]
    have q1 : U.cell? ⟨X, 1, none⟩ = some (.string ⟨#[]⟩) := by simp [World.cell?, c1]
    have q2 : U.cell? ⟨X, 2, none⟩ = some (.int .i64 0) := by simp [World.cell?, c1]
    have q3 : U.cell? ⟨X, 3, none⟩ = some (.slice none 0 0) := by simp [World.cell?, c1]
    have q4 : U.cell? ⟨X, 4, none⟩ = some (.slice none 0 0) := by simp [World.cell?, c1]
    have q5 : U.cell? ⟨X, 5, none⟩ = some (.slice none 0 0) := by simp [World.cell?, c1]
    have q6 : U.cell? ⟨X, 6, none⟩ = some (.slice none 0 0) := by simp [World.cell?, c1]
    have HB := hide hB
    have HU : Hid (U = w.alloc (.cells #[.int .i64 cc, .string ⟨#[]⟩, .int .i64 0, .slice none 0 0, .slice none 0 0, .slice none 0 0, .slice none 0 0] 63)) := hU
    have h0' : (cc == 0) = false := by simpa using h0
    clear hib hbl h6 hJ hX hB hU c1
    go_enter Tryz.func65, Tryz.ntmps65
    go_upto_region 3 with fail
    rw [← HX.out, ← HU.out]
    go_wp2_with fail
    refine HE.out.mono ?_
    rintro e w1 ⟨rfl, ids', tx', hJ2, hT1, hT2, hG⟩
    have HF : Hid (∃ ids tx, JB w1 b false 0 0 ⟨#[]⟩ ⟨#[]⟩ .nilFunc cc 0 ids tx s ∧ TS w.heap.size ids [] w1 ∧ TS w.heap.size tx (gtx (gd, cc)) w1 ∧ Gs (fun i => i = b) w w1) := by
      rw [HG.out]
      exact ⟨ids', tx', hJ2, hT1.low HB.out.size, hT2.low HB.out.size, (Gs.of_below _ HB.out).trans hG⟩
    clear hJ2 hT1 hT2 hG
    go_wp2
    go_end0
    exact ⟨rfl, HF.out⟩
def kGet (x : ByteArray × Int) : PN RS := .fin ⟨x.2, 0, [], gtx x⟩
theorem kv_get (h6 : w.heap[i1]? = some (.cells #[.pointer (some ⟨b, 0, none⟩)] 99 (0, 0))) (hb : b < w.heap.size) : KV 65 #[] #[.pointer (some ⟨i1, 0, none⟩)] b (FinR b) vG kGet (fun i => i = i1) (fun _ => False) w := by
  intro W x args A r hS hLw hJ hv hI hr
  subst hv
  show Calls Tryz.prog 65 #[.string x.1, .int .i64 x.2, .pointer (some ⟨i1, 0, none⟩)] W _
  refine (oget_end ((hS.2 i1 rfl (lt_of_block h6)).trans h6) hJ).mono ?_
  rintro er w' ⟨rfl, ids, tx, hJ', h1, h2, hG⟩
  exact ⟨rfl, fin_rdy hJ' h1 h2 hG (Nat.lt_of_lt_of_le hb hS.1)⟩
theorem ent_get11 : Ent 65 := ent_of Tryz.func65 (by kernel_rfl) rfl
theorem ent_get1 : Ent 63 := ent_of Tryz.func63 (by kernel_rfl) rfl
def OXGet (kk mm : Int) (nm dt : ByteArray) (pl : PN RS) : Prop := ∀ (b i1 : Nat) (W : World), Zq.Sh.Laid W → JB W b true 0 0 ⟨#[]⟩ ⟨#[]⟩ .nilFunc 0 0 (.slice none 0 0) (.slice none 0 0) 0 → b ≠ i1 → i1 < W.heap.size → KV 65 #[] #[.pointer (some ⟨i1, 0, none⟩)] b (FinR b) vG kGet (fun i => i = i1) (fun _ => False) W → Calls Tryz.prog 64 #[.pointer (some ⟨b, 0, none⟩), .agg #[.int .i64 kk, .int .i64 mm], .string nm, .string dt, .func (.func 65) #[] #[.pointer (some ⟨i1, 0, none⟩)]] W fun er w' => er = .returned (.tuple #[]) ∧ PO b (FinR b) pl [] (fun i => i = i1) (fun i => i = b ∨ False) W w'
theorem ogetjob1 {x1 x2 x3 : Nat} (HX : OXGet kk mm nm dt pl) (hLw : Zq.Sh.Laid w) (hJ : JB w b true 0 0 ⟨#[]⟩ ⟨#[]⟩ .nilFunc 0 0 (.slice none 0 0) (.slice none 0 0) 0) (h1 : w.heap[x1]? = some (.cells #[.int .i64 kk, .int .i64 mm] 27 (0, 0))) (h2 : w.heap[x2]? = some (.cells #[.string nm] 9 (0, 0))) (h3 : w.heap[x3]? = some (.cells #[.string dt] 9 (0, 0))) :
    Calls Tryz.prog 63 #[.pointer (some ⟨b, 0, none⟩), .pointer (some ⟨x1, 0, none⟩), .pointer (some ⟨x2, 0, none⟩), .pointer (some ⟨x3, 0, none⟩)] w fun e w' => e = .returned (.tuple #[]) ∧ PO b (FinR b) pl [] (fun i => w.heap.size ≤ i) (fun i => i = b) w w' := by
  obtain ⟨U, hU⟩ : ∃ U, U = w.alloc (.cells #[.pointer (some ⟨b, 0, none⟩)] 99) := ⟨_, rfl⟩
  obtain ⟨i1, hi1⟩ : ∃ i1, i1 = w.heap.size := ⟨_, rfl⟩
  have hBU : Below w.heap.size w U := by rw [hU]; exact (Below.refl _ _).alloc (Nat.le_refl _) _
  have hJU := hJ.bel hBU
  have h6 : U.heap[i1]? = some (.cells #[.pointer (some ⟨b, 0, none⟩)] 99 (0, 0)) := by rw [hU, hi1]; exact heap_alloc_new w _
  have y6 := (cell1 h6).1
  have h1U := (hBU.block x1 (lt_of_block h1)).trans h1
  have y0 : U.cell? ⟨x1, 0, none⟩ = some (.int .i64 kk) := by simp [World.cell?, h1U]
  have y1 : U.cell? ⟨x1, 1, none⟩ = some (.int .i64 mm) := by simp [World.cell?, h1U]
  have y2 := (cell1 ((hBU.block x2 (lt_of_block h2)).trans h2)).1
  have y3 := (cell1 ((hBU.block x3 (lt_of_block h3)).trans h3)).1
  have hbl := hJ.lt
  have HN := hide (HX b i1 U (hLw.below hBU hLw.size) hJU (by omega) (lt_of_block h6) (kv_get h6 hJU.lt))
  have HU := hide hU
  have HI := hide hi1
  have HB := hide hBU
  have hmf : ∀ (fn : Fn) (first cap : Array Value) (w : World), (Instr.makeFunc fn first cap).run Tryz.prog w = .ok (.func fn first cap) w := fun _ _ _ _ => rfl
  clear HX hLw hJU h6 h1U hBU hU hi1 hJ hbl h1 h2 h3
  go_enter Tryz.func63, Tryz.ntmps63
  go_upto_region 1 with fail
  rw [← HU.out, ← HI.out]
  go_wp2_with fail
  refine HN.out.mono ?_
  rintro e w7 ⟨rfl, hQ⟩
  have HQ : Hid (PO b (FinR b) pl [] (fun i => w.heap.size ≤ i) (fun i => i = b) w w7) := by
    have h3 := (hQ.bel HB.out).less (e := fun i => w.heap.size ≤ i) (fun i hi => .inr (by have := HI.out; omega))
    exact h3.more fun i hi => by
      rcases hi with h | h
      · exact h
      · exact h.elim
  clear hQ
  go_wp2
  go_end0
  exact ⟨rfl, HQ.out⟩
theorem ogetjob (HX : OXGet kk mm nm dt pl) (hLw : Zq.Sh.Laid w) :
    Calls Tryz.prog 25 #[.agg #[.int .i64 kk, .int .i64 mm], .string nm, .string dt] w fun e w' => MK FinR pl w w' e := by
  obtain ⟨U, hU⟩ : ∃ U, U = als w [.cells #[.int .i64 kk, .int .i64 mm] 27, .cells #[.string nm] 9, .cells #[.string dt] 9] := ⟨_, rfl⟩
  obtain ⟨X, hX⟩ : ∃ X, X = w.heap.size := ⟨_, rfl⟩
  have hB : Below w.heap.size w U := by rw [hU]; exact als_bel _ _
  have h1 : U.heap[X]? = some (.cells #[.int .i64 kk, .int .i64 mm] 27 (0, 0)) := by rw [hU, hX]; exact als_at _ w 0 _ rfl
  have h2 : U.heap[X + 1]? = some (.cells #[.string nm] 9 (0, 0)) := by rw [hU, hX]; exact als_at _ w 1 _ rfl
  have h3 : U.heap[X + 2]? = some (.cells #[.string dt] 9 (0, 0)) := by rw [hU, hX]; exact als_at _ w 2 _ rfl
  have HN : Hid (Calls Tryz.prog 44 #[.func (.func 63) #[] #[.pointer (some ⟨X, 0, none⟩), .pointer (some ⟨X + 1, 0, none⟩), .pointer (some ⟨X + 2, 0, none⟩)]] U fun e w' => Hid (MK FinR pl w w' e)) := by
    refine (start_mk (Fin := FinR) (pl := pl) ent_get1 (hLw.below hB hLw.size) fun V hJ hBV hLV => ?_).mono fun e w' h => h.bel hB
    refine (ogetjob1 HX hLV hJ ((hBV.block _ (lt_of_block h1)).trans h1) ((hBV.block _ (lt_of_block h2)).trans h2) ((hBV.block _ (lt_of_block h3)).trans h3)).mono ?_
    rintro e w' ⟨rfl, hP⟩
    have := hBV.size
    exact ⟨rfl, hP.less fun i hi => .inl (by omega)⟩
  have HU : Hid (U = ((w.alloc (.cells #[.int .i64 kk, .int .i64 mm] 27)).alloc (.cells #[.string nm] 9)).alloc (.cells #[.string dt] 9)) := hU
  have HX' := hide hX
  have hmf : ∀ (fn : Fn) (first cap : Array Value) (w : World), (Instr.makeFunc fn first cap).run Tryz.prog w = .ok (.func fn first cap) w := fun _ _ _ _ => rfl
  clear HX hLw hB hU hX h1 h2 h3
  go_enter Tryz.func25, Tryz.ntmps25
  go_upto_region 1 with fail
  rw [← HU.out, ← HX'.out]
  go_wp2_with fail
  refine HN.out.mono ?_
  rintro e w7 hM
  obtain ⟨b, P, rfl, hM'⟩ := hM.out
  have HM : Hid (MK FinR pl w w7 (.returned (.pointer (some ⟨b, 0, none⟩)))) := hM.out
  clear hM hM'
  go_wp2
  go_ret
  exact HM.out
theorem oscrub_end (h6 : w.heap[i1]? = some (.cells #[.pointer (some ⟨b, 0, none⟩)] 99 (0, 0))) (hJ : JB w b true st k n d go c NN ids tx s) {cc nn : Int} :
    Calls Tryz.prog 74 #[.int .i64 nn, .int .i64 cc, .pointer (some ⟨i1, 0, none⟩)] w fun e w' => e = .returned (.tuple #[]) ∧ ∃ ids tx, JB w' b false 0 0 ⟨#[]⟩ ⟨#[]⟩ .nilFunc cc nn ids tx s ∧ TS w.heap.size ids [] w' ∧ TS w.heap.size tx [] w' ∧ Gs (fun i => i = b) w w' := by
  obtain ⟨y1, _⟩ := cell1 h6
  have HE : Hid (Calls Tryz.prog 62 #[.pointer (some ⟨b, 0, none⟩), .agg #[.int .i64 cc, .string ⟨#[]⟩, .int .i64 nn, .slice none 0 0, .slice none 0 0, .slice none 0 0, .slice none 0 0]] w fun e w' => e = .returned (.tuple #[]) ∧ ∃ ids tx, JB w' b false 0 0 ⟨#[]⟩ ⟨#[]⟩ .nilFunc cc nn ids tx s ∧ TS w.heap.size ids [] w' ∧ TS w.heap.size tx [] w' ∧ Gs (fun i => i = b) w w') := end_on hJ (LS.nl (f := t1) (fun _ => True) w) (LS.nl _ w) (by simp) (by simp)
  clear h6 hJ
  go_enter Tryz.func74, Tryz.ntmps74
  go_wp2_with fail
  refine HE.out.mono ?_
  rintro e w1 ⟨rfl, hF⟩
  have HF := hide hF
  clear hF
  go_wp2
  go_end0
  exact ⟨rfl, HF.out⟩
def kScrub (x : Int × Int) : PN RS := .fin ⟨x.2, x.1, [], []⟩
theorem kv_scrub (h6 : w.heap[i1]? = some (.cells #[.pointer (some ⟨b, 0, none⟩)] 99 (0, 0))) (hb : b < w.heap.size) : KV 74 #[] #[.pointer (some ⟨i1, 0, none⟩)] b (FinR b) vP kScrub (fun i => i = i1) (fun _ => False) w := by
  intro W x args A r hS hLw hJ hv hI hr
  subst hv
  show Calls Tryz.prog 74 #[.int .i64 x.1, .int .i64 x.2, .pointer (some ⟨i1, 0, none⟩)] W _
  refine (oscrub_end ((hS.2 i1 rfl (lt_of_block h6)).trans h6) hJ).mono ?_
  rintro er w' ⟨rfl, ids, tx, hJ', h1, h2, hG⟩
  exact ⟨rfl, fin_rdy hJ' h1 h2 hG (Nat.lt_of_lt_of_le hb hS.1)⟩
theorem ent_scrub11 : Ent 74 := ent_of Tryz.func74 (by kernel_rfl) rfl
theorem ent_scrub1 : Ent 72 := ent_of Tryz.func72 (by kernel_rfl) rfl
def OXScrub (kk mm : Int) (nm dt : ByteArray) (pl : PN RS) : Prop := ∀ (b i1 : Nat) (W : World), Zq.Sh.Laid W → JB W b true 0 0 ⟨#[]⟩ ⟨#[]⟩ .nilFunc 0 0 (.slice none 0 0) (.slice none 0 0) 0 → b ≠ i1 → i1 < W.heap.size → KV 74 #[] #[.pointer (some ⟨i1, 0, none⟩)] b (FinR b) vP kScrub (fun i => i = i1) (fun _ => False) W → Calls Tryz.prog 73 #[.pointer (some ⟨b, 0, none⟩), .agg #[.int .i64 kk, .int .i64 mm], .string nm, .string dt, .func (.func 74) #[] #[.pointer (some ⟨i1, 0, none⟩)]] W fun er w' => er = .returned (.tuple #[]) ∧ PO b (FinR b) pl [] (fun i => i = i1) (fun i => i = b ∨ False) W w'
theorem oscrubjob1 {x1 x2 x3 : Nat} (HX : OXScrub kk mm nm dt pl) (hLw : Zq.Sh.Laid w) (hJ : JB w b true 0 0 ⟨#[]⟩ ⟨#[]⟩ .nilFunc 0 0 (.slice none 0 0) (.slice none 0 0) 0) (h1 : w.heap[x1]? = some (.cells #[.int .i64 kk, .int .i64 mm] 27 (0, 0))) (h2 : w.heap[x2]? = some (.cells #[.string nm] 9 (0, 0))) (h3 : w.heap[x3]? = some (.cells #[.string dt] 9 (0, 0))) :
    Calls Tryz.prog 72 #[.pointer (some ⟨b, 0, none⟩), .pointer (some ⟨x1, 0, none⟩), .pointer (some ⟨x2, 0, none⟩), .pointer (some ⟨x3, 0, none⟩)] w fun e w' => e = .returned (.tuple #[]) ∧ PO b (FinR b) pl [] (fun i => w.heap.size ≤ i) (fun i => i = b) w w' := by
  obtain ⟨U, hU⟩ : ∃ U, U = w.alloc (.cells #[.pointer (some ⟨b, 0, none⟩)] 99) := ⟨_, rfl⟩
  obtain ⟨i1, hi1⟩ : ∃ i1, i1 = w.heap.size := ⟨_, rfl⟩
  have hBU : Below w.heap.size w U := by rw [hU]; exact (Below.refl _ _).alloc (Nat.le_refl _) _
  have hJU := hJ.bel hBU
  have h6 : U.heap[i1]? = some (.cells #[.pointer (some ⟨b, 0, none⟩)] 99 (0, 0)) := by rw [hU, hi1]; exact heap_alloc_new w _
  have y6 := (cell1 h6).1
  have h1U := (hBU.block x1 (lt_of_block h1)).trans h1
  have y0 : U.cell? ⟨x1, 0, none⟩ = some (.int .i64 kk) := by simp [World.cell?, h1U]
  have y1 : U.cell? ⟨x1, 1, none⟩ = some (.int .i64 mm) := by simp [World.cell?, h1U]
  have y2 := (cell1 ((hBU.block x2 (lt_of_block h2)).trans h2)).1
  have y3 := (cell1 ((hBU.block x3 (lt_of_block h3)).trans h3)).1
  have hbl := hJ.lt
  have HN := hide (HX b i1 U (hLw.below hBU hLw.size) hJU (by omega) (lt_of_block h6) (kv_scrub h6 hJU.lt))
  have HU := hide hU
  have HI := hide hi1
  have HB := hide hBU
  have hmf : ∀ (fn : Fn) (first cap : Array Value) (w : World), (Instr.makeFunc fn first cap).run Tryz.prog w = .ok (.func fn first cap) w := fun _ _ _ _ => rfl
  clear HX hLw hJU h6 h1U hBU hU hi1 hJ hbl h1 h2 h3
  go_enter Tryz.func72, Tryz.ntmps72
  go_upto_region 1 with fail
  rw [← HU.out, ← HI.out]
  go_wp2_with fail
  refine HN.out.mono ?_
  rintro e w7 ⟨rfl, hQ⟩
  have HQ : Hid (PO b (FinR b) pl [] (fun i => w.heap.size ≤ i) (fun i => i = b) w w7) := by
    have h3 := (hQ.bel HB.out).less (e := fun i => w.heap.size ≤ i) (fun i hi => .inr (by have := HI.out; omega))
    exact h3.more fun i hi => by
      rcases hi with h | h
      · exact h
      · exact h.elim
  clear hQ
  go_wp2
  go_end0
  exact ⟨rfl, HQ.out⟩
theorem oscrubjob (HX : OXScrub kk mm nm dt pl) (hLw : Zq.Sh.Laid w) :
    Calls Tryz.prog 28 #[.agg #[.int .i64 kk, .int .i64 mm], .string nm, .string dt] w fun e w' => MK FinR pl w w' e := by
  obtain ⟨U, hU⟩ : ∃ U, U = als w [.cells #[.int .i64 kk, .int .i64 mm] 27, .cells #[.string nm] 9, .cells #[.string dt] 9] := ⟨_, rfl⟩
  obtain ⟨X, hX⟩ : ∃ X, X = w.heap.size := ⟨_, rfl⟩
  have hB : Below w.heap.size w U := by rw [hU]; exact als_bel _ _
  have h1 : U.heap[X]? = some (.cells #[.int .i64 kk, .int .i64 mm] 27 (0, 0)) := by rw [hU, hX]; exact als_at _ w 0 _ rfl
  have h2 : U.heap[X + 1]? = some (.cells #[.string nm] 9 (0, 0)) := by rw [hU, hX]; exact als_at _ w 1 _ rfl
  have h3 : U.heap[X + 2]? = some (.cells #[.string dt] 9 (0, 0)) := by rw [hU, hX]; exact als_at _ w 2 _ rfl
  have HN : Hid (Calls Tryz.prog 44 #[.func (.func 72) #[] #[.pointer (some ⟨X, 0, none⟩), .pointer (some ⟨X + 1, 0, none⟩), .pointer (some ⟨X + 2, 0, none⟩)]] U fun e w' => Hid (MK FinR pl w w' e)) := by
    refine (start_mk (Fin := FinR) (pl := pl) ent_scrub1 (hLw.below hB hLw.size) fun V hJ hBV hLV => ?_).mono fun e w' h => h.bel hB
    refine (oscrubjob1 HX hLV hJ ((hBV.block _ (lt_of_block h1)).trans h1) ((hBV.block _ (lt_of_block h2)).trans h2) ((hBV.block _ (lt_of_block h3)).trans h3)).mono ?_
    rintro e w' ⟨rfl, hP⟩
    have := hBV.size
    exact ⟨rfl, hP.less fun i hi => .inl (by omega)⟩
  have HU : Hid (U = ((w.alloc (.cells #[.int .i64 kk, .int .i64 mm] 27)).alloc (.cells #[.string nm] 9)).alloc (.cells #[.string dt] 9)) := hU
  have HX' := hide hX
  have hmf : ∀ (fn : Fn) (first cap : Array Value) (w : World), (Instr.makeFunc fn first cap).run Tryz.prog w = .ok (.func fn first cap) w := fun _ _ _ _ => rfl
  clear HX hLw hB hU hX h1 h2 h3
  go_enter Tryz.func28, Tryz.ntmps28
  go_upto_region 1 with fail
  rw [← HU.out, ← HX'.out]
  go_wp2_with fail
  refine HN.out.mono ?_
  rintro e w7 hM
  obtain ⟨b, P, rfl, hM'⟩ := hM.out
  have HM : Hid (MK FinR pl w w7 (.returned (.pointer (some ⟨b, 0, none⟩)))) := hM.out
  clear hM hM'
  go_wp2
  go_ret
  exact HM.out
end
end Go.Proofs.YtagijldedngcoaaGreatDoor

namespace Go.Proofs.YtagijldedngcoaaGreatDoor
section
variable {K M : Nat} {s : ByteArray}
theorem gen_ga (k1 : 1 ≤ K) (km : K + M ≤ 255) (hs : s.size ≤ 65536) {X : Nat → Zq.SX} {ρ : Nat → Nat} (hρ : ∀ t, t < K → ρ t < K + M) (hi : ∀ a b, a < K → b < K → ρ a = ρ b → a = b) (hX : ∀ t, t < K → X t = Zq.shX K M s (ρ t)) : Zq.GA X K s 0 := by
  have hA : Zq.allS X K := fun i hi => by
    rw [hX i hi, hX 0 (by omega)]
    exact ⟨Zq.shX_ok k1 km hs (hρ i hi), rfl, rfl, rfl, rfl⟩
  have hf : Zq.faultV K M (s.size : Int) (fun i => (X i).i) (fun i => (X i).data) K = 0 := by
    rw [Zq.faultV, if_neg (by omega), Int.toNat_natCast]
    refine Zq.flt_ok (fun i hi => ?_) (fun i hi => ?_)
    · rw [hX i hi]
      have := hρ i hi
      simp only [Zq.shX]
      omega
    · rw [hX i hi]
      exact Zq.shd_size k1 s _
  have hu : Zq.fu K (fun i => (X i).i) K = List.range K := Zq.fu_all K (Nat.le_refl _) fun a b ha hb e => by
    rw [hX a ha, hX b hb] at e
    simp only [Zq.shX] at e
    exact hi a b ha hb (by omega)
  have g1 : Zq.gJC X K = Zq.jnC K M (s.size : Int) (fun i => (X i).i) (fun i => (X i).data) K := by
    unfold Zq.gJC
    rw [hX 0 (by omega)]
    rfl
  have g2 : Zq.gJS X K = Zq.jnS K M (s.size : Int) (fun i => (X i).i) (fun i => (X i).data) K := by
    unfold Zq.gJS
    rw [hX 0 (by omega)]
    rfl
  obtain ⟨j1, j2⟩ := Zq.jn_ok hf (by rw [hu, List.length_range]; exact Nat.lt_irrefl _)
  have hj : Zq.joinB K (fun i => (X i).i) (fun i => (X i).data) K s.size = s := by
    refine Zq.any_join (m := M) (ρ := ρ) k1 km s (fun t ht => by rw [hX t ht]; rfl) hρ (fun t ht => by rw [hX t ht]; rfl) (by rw [hu, List.length_range]) (fun a b ha hb e => ?_)
    rw [hu] at e
    have g : ∀ t, t < K → (List.range K).getD t 0 = t := fun t ht => by rw [List.getD_eq_getElem?_getD, List.getElem?_range ht]; rfl
    rw [g a ha, g b hb] at e
    rw [hX a ha, hX b hb] at e
    simp only [Zq.shX] at e
    exact hi a b ha hb (by omega)
  rw [Int.toNat_natCast, hj] at j2
  rw [← g1] at j1
  rw [← g2] at j2
  have hid : (X 0).id = Zq.bs (Zq.Sh.digest s.data.toList) := by rw [hX 0 (by omega)]; rfl
  exact .inr ⟨⟨by omega, hA⟩, .inr ⟨j1, .inr ⟨by rw [j2, hid], j2.symm, rfl⟩⟩⟩
theorem lx_map {L : List Nat} {t : Nat} (h : t < L.length) : lx (L.map (Zq.shX K M s)) t = Zq.shX K M s (cat L t) := by
  rw [lx, List.getElem?_map, cat_get h]; rfl
theorem cat_inj {L : List Nat} (hd : L.Nodup) {a b : Nat} (ha : a < L.length) (hb : b < L.length) (e : cat L a = cat L b) : a = b := by
  have h1 := cat_get ha
  have h2 := cat_get hb
  rw [e] at h1
  exact (List.getElem?_inj ha hd).1 (h1.trans h2.symm)
theorem gth_true (k1 : 1 ≤ K) (km : K + M ≤ 255) (hs : s.size ≤ 65536) {L : List Nat} (hd : L.Nodup) (hm : ∀ a ∈ L, a < K + M) (hl : K ≤ L.length) : gth K (L.map (Zq.shX K M s)) = some s := by
  have hR : (List.range K).length = K := List.length_range
  have hc : ∀ i, i < K → cat (List.range K) i = i := fun i hi => by rw [cat, List.getElem?_range hi]; rfl
  refine gth_ret (t := 0) (c := List.range K) (fun i hi => absurd hi (Nat.not_lt_zero _)) (by decide) (by rw [ith, if_pos (by rw [List.length_map]; exact hl)]) ?_
  have hG : Zq.GA (lx (pick (L.map (Zq.shX K M s)) (List.range K))) (pick (L.map (Zq.shX K M s)) (List.range K)).length s 0 := by
    rw [pick_len, hR]
    refine gen_ga k1 km hs (ρ := cat L) (fun t ht => ?_) (fun a b ha hb e => cat_inj hd (by omega) (by omega) e) (fun t ht => ?_)
    · exact hm _ (List.mem_of_getElem? (cat_get (by omega)))
    · rw [pick_at (by rw [hR]; exact ht), hc t ht, lx_map (by omega)]
  rcases ga_one hG with ⟨_, h⟩ | ⟨h, _⟩
  · exact h
  · exact absurd rfl h
theorem gth_few {f : List Zq.SX} (h : f.length < K) : gth K f = none := gth_none (t := 0) (fun i hi => absurd hi (Nat.not_lt_zero _)) (by decide) (.inl (by rw [ith, if_neg (by omega)]))
def Gn (K M : Nat) (s : ByteArray) (A : List RR) : Prop := ∀ (i : Nat) (x : RR), A[i]? = some x → gdX K M i x = none ∨ gdX K M i x = some (Zq.shX K M s i)
noncomputable def gdI (K M : Nat) (A : List RR) : List Nat := (List.range A.length).filter fun i => @decide (∃ x, A[i]? = some x ∧ gdX K M i x ≠ none) (Classical.propDecidable _)
theorem gdI_nodup (A : List RR) : (gdI K M A).Nodup := List.nodup_range.filter _
theorem gdI_lt {A : List RR} {i : Nat} (h : i ∈ gdI K M A) : i < A.length := List.mem_range.1 (List.mem_filter.1 h).1
theorem gdL_true {A : List RR} (h : Gn K M s A) : gdL K M A = (gdI K M A).map (Zq.shX K M s) := by
  have : ∀ (l : List Nat), (∀ i ∈ l, i < A.length) → l.filterMap (fun i => (A[i]?).bind (gdX K M i)) = (l.filter fun i => @decide (∃ x, A[i]? = some x ∧ gdX K M i x ≠ none) (Classical.propDecidable _)).map (Zq.shX K M s) := by
    intro l
    induction l with
    | nil => intro _; rfl
    | cons j r ih =>
      intro hl
      have hj := hl j (by simp)
      have e : A[j]? = some A[j] := List.getElem?_eq_getElem hj
      rw [List.filterMap_cons, List.filter_cons, ih fun i hi => hl i (by simp [hi])]
      rcases h j _ e with h0 | h0
      · rw [if_neg]
        · rw [e]; simp only [Option.bind_some, h0]
        · simp only [decide_eq_true_eq]
          rintro ⟨x, hx, hn⟩
          rw [e] at hx; cases hx
          exact hn h0
      · rw [if_pos]
        · rw [e]; simp only [Option.bind_some, h0, List.map_cons]
        · simp only [decide_eq_true_eq]
          exact ⟨_, e, by rw [h0]; simp⟩
  exact this _ fun i hi => List.mem_range.1 hi
theorem famL_true : ∀ (L : List Nat), L ≠ [] → famL (L.map (Zq.shX K M s)) = [L.map (Zq.shX K M s)] := by
  have h : ∀ (L : List Nat) (g : List Nat), g ≠ [] → (L.map (Zq.shX K M s)).foldl addF [g.map (Zq.shX K M s)] = [(g ++ L).map (Zq.shX K M s)] := by
    intro L
    induction L with
    | nil => intro g _; simp
    | cons a r ih =>
      intro g hg
      have hof : ofF (g.map (Zq.shX K M s)) (Zq.shX K M s a) := by
        rw [ofF, lx_map (List.length_pos_iff.2 hg)]
        exact ⟨rfl, rfl⟩
      rw [List.map_cons, List.foldl_cons, addF, if_pos hof]
      have := ih (g ++ [a]) (by simp)
      rw [List.map_append, List.map_singleton] at this
      rw [this, List.append_assoc]
      rfl
  intro L hL
  cases L with
  | nil => exact absurd rfl hL
  | cons a r =>
    have := h r [a] (by simp)
    rw [famL, List.map_cons, List.foldl_cons]
    exact this
theorem fnd_true (k1 : 1 ≤ K) (km : K + M ≤ 255) (hs : s.size ≤ 65536) {A : List RR} {want : ByteArray} (hA : A.length ≤ K + M) (h : Gn K M s A) (hw : want = ⟨#[]⟩ ∨ want = Zq.bs (Zq.Sh.digest s.data.toList)) (hl : K ≤ (gdI K M A).length) :
    fnd K M want A = ⟨s, (gdI K M A).map (Zq.shX K M s), 0⟩ := by
  have hne : gdI K M A ≠ [] := fun e => by rw [e] at hl; simp at hl; omega
  have hg := gth_true k1 km hs (gdI_nodup (K := K) (M := M) A) (fun a ha => by have := gdI_lt ha; omega) hl
  have hid : ¬ (want ≠ ⟨#[]⟩ ∧ (lx ((gdI K M A).map (Zq.shX K M s)) 0).id ≠ want) := by
    rw [lx_map (List.length_pos_iff.2 hne)]
    rintro ⟨h1, h2⟩
    rcases hw with hw | hw
    · exact h1 hw
    · exact h2 hw.symm
  rw [fnd, gdL_true h, famL_true _ hne, fndL, if_neg hid, hg]
theorem fnd_few {A : List RR} {want : ByteArray} (h : Gn K M s A) (hl : (gdI K M A).length < K) : fnd K M want A = ⟨⟨#[]⟩, [], rfs M A⟩ := by
  by_cases hne : gdI K M A = []
  · rw [fnd, gdL_true h, hne]
    rfl
  · have hg : gth K ((gdI K M A).map (Zq.shX K M s)) = none := gth_few (by rw [List.length_map]; exact hl)
    have hn : fndL K want [(gdI K M A).map (Zq.shX K M s)] = none := by
      rw [fndL]
      split
      · rfl
      · rw [hg]; rfl
    rw [fnd, gdL_true h, famL_true _ hne, hn]
end
end Go.Proofs.YtagijldedngcoaaGreatDoor

namespace Go.Proofs.YtagijldedngcoaaGreatDoor
open Go.RowKit Go.Lib Go.Maps
section
variable {S : List SS} {l : List QT} {q m : Int} {nm d x : ByteArray} {o : Option ByteArray} {O : List (Option ByteArray)} {K M : Nat} {s : ByteArray}
theorem each_one : ∀ (n : Nat) (l : List QT) (S : List SS), l.length = n → (∀ (i : Nat) (q : QT), l[i]? = some q → q.st = (i : Int)) → l.length ≤ S.length →
    (ySs S l).length = S.length ∧ (∀ (i : Nat) (q : QT) (s : SS), l[i]? = some q → S[i]? = some s → (yRs S l)[i]? = some (doR s q.k q.n q.d) ∧ (ySs S l)[i]? = some (doS s q.k q.n q.d)) ∧ ∀ i, l.length ≤ i → (ySs S l)[i]? = S[i]? := by
  intro n
  induction n with
  | zero =>
    intro l S hl hq hS
    obtain rfl : l = [] := List.length_eq_zero_iff.1 hl
    exact ⟨rfl, fun i q s h => by simp at h, fun i _ => rfl⟩
  | succ n ih =>
    intro l S hl hq hS
    obtain ⟨l', q, rfl⟩ : ∃ l' q, l = l' ++ [q] := ⟨l.dropLast, l.getLast (fun e => by rw [e] at hl; cases hl), (List.dropLast_concat_getLast _).symm⟩
    have hl' : l'.length = n := by simpa using hl
    rw [List.length_append, List.length_singleton] at hS
    obtain ⟨h0, h1, h2⟩ := ih l' S hl' (fun i p hp => hq i p (by rw [List.getElem?_append_left (List.getElem?_eq_some_iff.1 hp).1]; exact hp)) (by omega)
    have hst : q.st = ((l'.length : Nat) : Int) := hq l'.length q (by simp)
    have hat : S[l'.length]? = some S[l'.length] := List.getElem?_eq_getElem (by omega)
    obtain ⟨s0, hs0⟩ : ∃ s0, S[l'.length]? = some s0 := ⟨_, hat⟩
    have hn := (h2 l'.length (Nat.le_refl _)).trans hs0
    have eR : yR (ySs S l') q = doR s0 q.k q.n q.d := by rw [yR, hst, if_pos (by omega), Int.toNat_natCast, hn]
    have eS : yS (ySs S l') q = (ySs S l').set l'.length (doS s0 q.k q.n q.d) := by rw [yS, hst, if_pos (by omega), Int.toNat_natCast, hn]
    rw [yRs_snoc, ySs_snoc, eR, eS]
    refine ⟨by rw [List.length_set]; exact h0, fun i p s hp hs => ?_, fun i hi => ?_⟩
    · rcases snocGet hp with ⟨hi, hp⟩ | ⟨hi, rfl⟩
      · obtain ⟨k1, k2⟩ := h1 i p s hp hs
        refine ⟨by rw [List.getElem?_append_left (by rw [yRs_len]; exact hi)]; exact k1, ?_⟩
        rw [List.getElem?_set, if_neg (by omega)]; exact k2
      · subst hi
        rw [hs] at hs0
        cases hs0
        refine ⟨by rw [List.getElem?_append_right (by rw [yRs_len]; exact Nat.le_refl _), yRs_len, Nat.sub_self]; rfl, ?_⟩
        rw [List.getElem?_set, if_pos rfl, if_pos (by rw [h0]; omega)]
    · rw [List.length_append, List.length_singleton] at hi
      rw [List.getElem?_set, if_neg (by omega)]
      exact h2 i (by omega)
theorem aqI {k : Int} {n d : ByteArray} {m i : Nat} (h : i < m) : (aq k n d m)[i]? = some ⟨(i : Int), k, n, d⟩ := by rw [aq, List.getElem?_map, List.getElem?_range h]; rfl
theorem pqI {n d : ByteArray} {ds : List ByteArray} {i : Nat} (h : ds[i]? = some d) : (pq n ds)[i]? = some ⟨(i : Int), 1, n, d⟩ := by rw [pq, List.getElem?_mapIdx, h]; rfl
theorem all_asked {k : Int} {n d : ByteArray} (S : List SS) : yRs S (aq k n d S.length) = S.map (fun s => doR s k n d) ∧ ySs S (aq k n d S.length) = S.map fun s => doS s k n d := by
  obtain ⟨h0, h1, h2⟩ := each_one _ (aq k n d S.length) S rfl (fun i q hq => by
    have hi : i < S.length := by have := (List.getElem?_eq_some_iff.1 hq).1; rw [aq_len] at this; exact this
    rw [aqI hi] at hq; cases hq; rfl) (by rw [aq_len]; exact Nat.le_refl _)
  refine ⟨List.ext_getElem? fun i => ?_, List.ext_getElem? fun i => ?_⟩ <;> by_cases hi : i < S.length
  · rw [(h1 i _ _ (aqI hi) (List.getElem?_eq_getElem hi)).1, List.getElem?_map, List.getElem?_eq_getElem hi]; rfl
  · rw [List.getElem?_eq_none (by rw [yRs_len, aq_len]; omega), List.getElem?_eq_none (by rw [List.length_map]; omega)]
  · rw [(h1 i _ _ (aqI hi) (List.getElem?_eq_getElem hi)).2, List.getElem?_map, List.getElem?_eq_getElem hi]; rfl
  · rw [List.getElem?_eq_none (by omega), List.getElem?_eq_none (by rw [List.length_map]; omega)]
theorem all_put {n : ByteArray} {ds : List ByteArray} (S : List SS) (hl : ds.length = S.length) : yRs S (pq n ds) = List.zipWith (fun s d => doR s 1 n d) S ds ∧ ySs S (pq n ds) = List.zipWith (fun s d => doS s 1 n d) S ds := by
  obtain ⟨h0, h1, h2⟩ := each_one _ (pq n ds) S rfl (fun i q hq => by
    have hi : i < ds.length := by have := (List.getElem?_eq_some_iff.1 hq).1; rw [pq_len] at this; exact this
    rw [pqI (List.getElem?_eq_getElem hi)] at hq; cases hq; rfl) (by rw [pq_len]; omega)
  refine ⟨List.ext_getElem? fun i => ?_, List.ext_getElem? fun i => ?_⟩ <;> by_cases hi : i < S.length
  · have hd : ds[i]? = some (ds[i]'(by omega)) := List.getElem?_eq_getElem (by omega)
    rw [(h1 i _ _ (pqI hd) (List.getElem?_eq_getElem hi)).1, List.getElem?_zipWith, List.getElem?_eq_getElem hi, hd]
  · rw [List.getElem?_eq_none (by rw [yRs_len, pq_len]; omega), List.getElem?_eq_none (by rw [List.length_zipWith]; omega)]
  · have hd : ds[i]? = some (ds[i]'(by omega)) := List.getElem?_eq_getElem (by omega)
    rw [(h1 i _ _ (pqI hd) (List.getElem?_eq_getElem hi)).2, List.getElem?_zipWith, List.getElem?_eq_getElem hi, hd]
  · rw [List.getElem?_eq_none (by omega), List.getElem?_eq_none (by rw [List.length_zipWith]; omega)]
def st1 (q m : Int) (nm : ByteArray) (o : Option ByteArray) : SS := ⟨q, 0, m, false, o.toList.map fun d => ⟨nm, d⟩⟩
def gans (o : Option ByteArray) : RR := ⟨if o.isSome = true then 0 else 5, o.getD ⟨#[]⟩, []⟩
theorem st1_thr : thr (st1 q m nm o).L nm = o := by
  cases o with
  | none => rfl
  | some d => simp [st1, thr]
theorem st1_get : doR (st1 q m nm o) 2 nm x = gans o ∧ doS (st1 q m nm o) 2 nm x = st1 q (m + 1) nm o := by
  have := st1_thr (q := q) (m := m) (nm := nm) (o := o)
  refine ⟨?_, ?_⟩
  · have e1 : (st1 q m nm o).off = false := rfl
    have e2 : ¬ 0 < (st1 q m nm o).f := by show ¬ (0 : Int) < 0; omega
    rw [doR, e1, if_neg (by decide), if_neg e2, if_neg (by decide), if_pos rfl, dcode, this, gans]
  · rfl
theorem st1_lay : layL (st1 q m nm o).L nm d = [⟨nm, d⟩] := by
  cases o with
  | none => rfl
  | some e =>
    have : bl nm nm = false := bl_irrefl nm
    simp [st1, layL, this]
theorem st1_put (hn : mayB nm = true) (hd : d.size ≤ 131072) (hq : ((nm.size + d.size : Nat) : Int) ≤ q) : doR (st1 q m nm o) 1 nm d = ⟨0, ⟨#[]⟩, []⟩ ∧ doS (st1 q m nm o) 1 nm d = st1 q (m + 1) nm (some d) := by
  have e1 : (st1 q m nm o).off = false := rfl
  have e2 : ¬ 0 < (st1 q m nm o).f := by show ¬ (0 : Int) < 0; omega
  have e3 : pcode nm d (st1 q m nm o).L (st1 q m nm o).q = 0 := by
    rw [pcode, if_pos hn, if_pos hd, st1_lay, if_pos]
    show ((nm.size + d.size + 0 : Nat) : Int) ≤ q
    exact hq
  refine ⟨?_, ?_⟩
  · rw [doR, e1, if_neg (by decide), if_neg e2, if_pos rfl, e3]
  · rw [doS, e1, if_neg (by decide), if_neg e2, if_pos rfl, putL, if_pos e3, st1_lay]
    rfl
def sts (q m : Int) (nm : ByteArray) (O : List (Option ByteArray)) : List SS := O.map (st1 q m nm)
theorem sts_len : (sts q m nm O).length = O.length := by simp [sts]
theorem sts_new {n : Nat} : List.replicate n (sq q) = sts q 0 nm (List.replicate n none) := by rw [sts, List.map_replicate]; rfl
theorem sts_get : yRs (sts q m nm O) (aq 2 nm x O.length) = O.map gans ∧ ySs (sts q m nm O) (aq 2 nm x O.length) = sts q (m + 1) nm O := by
  have h := all_asked (k := 2) (n := nm) (d := x) (sts q m nm O)
  rw [sts_len] at h
  rw [h.1, h.2, sts, sts, List.map_map, List.map_map]
  exact ⟨List.map_congr_left fun o _ => st1_get.1, List.map_congr_left fun o _ => st1_get.2⟩
theorem sts_put {ds : List ByteArray} (hl : ds.length = O.length) (hn : mayB nm = true) (hd : ∀ d ∈ ds, d.size ≤ 131072 ∧ ((nm.size + d.size : Nat) : Int) ≤ q) : yRs (sts q m nm O) (pq nm ds) = ds.map (fun _ => ⟨0, ⟨#[]⟩, []⟩) ∧ ySs (sts q m nm O) (pq nm ds) = sts q (m + 1) nm (ds.map some) := by
  have h := all_put (n := nm) (ds := ds) (sts q m nm O) (by rw [sts_len]; exact hl)
  rw [h.1, h.2]
  refine ⟨List.ext_getElem? fun i => ?_, List.ext_getElem? fun i => ?_⟩
  all_goals
    rw [List.getElem?_zipWith]
    by_cases hi : i < O.length
    · have h1 : (sts q m nm O)[i]? = some (st1 q m nm O[i]) := by rw [sts, List.getElem?_map, List.getElem?_eq_getElem hi]; rfl
      have h2 : ds[i]? = some (ds[i]'(by omega)) := List.getElem?_eq_getElem (by omega)
      have hk := hd _ (List.mem_of_getElem? h2)
      rw [h1, h2]
      simp only [sts, List.getElem?_map, h2, Option.map_some]
      first | rw [(st1_put hn hk.1 hk.2).1] | rw [(st1_put hn hk.1 hk.2).2]
    · rw [List.getElem?_eq_none (show (sts q m nm O).length ≤ i by rw [sts_len]; omega)]
      simp only [sts, List.getElem?_map, List.getElem?_eq_none (show ds.length ≤ i by omega), Option.map_none]
theorem sts_gd {t : Nat} (ht : 1 ≤ t) (h0 : 0 ≤ m) (hm : m ≤ t) (hn : nm.size ≤ 96) (hO : ∀ d, some d ∈ O → d.size ≤ 131072) : GD t (sts q m nm O) := by
  intro s hs
  obtain ⟨o, ho, rfl⟩ := List.mem_map.1 hs
  refine ⟨?_, ?_, ?_, h0, hm, by show (0 : Int) ≤ 1048576; omega⟩
  · cases o with
    | none => exact List.Pairwise.nil
    | some d => exact List.pairwise_singleton _ _
  · intro p hp
    cases o with
    | none => simp [st1] at hp
    | some d =>
      simp [st1] at hp
      subst hp
      exact ⟨hn, hO d ho⟩
  · cases o with
    | none => exact Nat.zero_le _
    | some d => exact ht
theorem ySs_ap : ∀ (l m : List QT) (S : List SS), ySs S (l ++ m) = ySs (ySs S l) m
  | [], m, S => rfl
  | q :: l, m, S => by rw [List.cons_append, ySs, ySs, ySs_ap l]
theorem putP_new {α : Type} {k : Int × Int → PN α} {y : α} (hk : k (0, 0) = .fin y) (hK : 1 ≤ K) (hs : s.size ≤ 65536) (hn : mayB nm = true) (hd : ∀ d ∈ shL K M s, d.size ≤ 131072 ∧ ((nm.size + d.size : Nat) : Int) ≤ q) :
    (putP K M nm s k).tr (sts q m nm (List.replicate (K + M) none)) = aq 2 nm ⟨#[]⟩ (K + M) ++ pq nm (shL K M s) ∧ (putP K M nm s k).res (sts q m nm (List.replicate (K + M) none)) = y ∧ ySs (sts q m nm (List.replicate (K + M) none)) (aq 2 nm ⟨#[]⟩ (K + M) ++ pq nm (shL K M s)) = sts q (m + 2) nm ((shL K M s).map some) := by
  have hO : (List.replicate (K + M) (none : Option ByteArray)).length = K + M := by simp
  have hg := sts_get (q := q) (m := m) (nm := nm) (x := ⟨#[]⟩) (O := List.replicate (K + M) none)
  rw [hO] at hg
  have hp := sts_put (q := q) (m := m + 1) (nm := nm) (O := List.replicate (K + M) none) (ds := shL K M s) (by rw [hO, shL_len]) hn hd
  have hA : Gn K M s ((List.replicate (K + M) none).map gans) := fun i x hx => by
    rw [List.map_replicate] at hx
    have := List.mem_of_getElem? hx
    obtain ⟨_, rfl⟩ := List.mem_replicate.1 this
    exact .inl (by rw [gdX, if_neg]; rintro ⟨h, _⟩; exact absurd h (by decide))
  have hI : gdI K M ((List.replicate (K + M) none).map gans) = [] := by
    rw [gdI, List.filter_eq_nil_iff]
    intro i hi
    simp only [decide_eq_true_eq]
    rintro ⟨x, hx, hne⟩
    rcases hA i x hx with h | h
    · exact hne h
    · rw [List.map_replicate] at hx
      obtain ⟨_, rfl⟩ := List.mem_replicate.1 (List.mem_of_getElem? hx)
      rw [gdX, if_neg] at hne
      · exact hne rfl
      · rintro ⟨h, _⟩; exact absurd h (by decide)
  have hf := fnd_few (want := ⟨#[]⟩) hA (by rw [hI]; simp; omega)
  have hrf : rfs M ((List.replicate (K + M) none).map gans) = 5 := by
    have h1 : awy ((List.replicate (K + M) none).map gans) = 0 := by
      rw [List.map_replicate]
      induction K + M with
      | zero => rfl
      | succ n ih => rw [List.replicate_succ, awy, if_pos (.inr rfl)]; exact ih
    have h2 : cntC 0 ((List.replicate (K + M) none).map gans) = 0 := by
      rw [cntC, List.length_eq_zero_iff, List.filter_eq_nil_iff]
      intro x hx
      rw [List.map_replicate] at hx
      obtain ⟨_, rfl⟩ := List.mem_replicate.1 hx
      decide
    rw [rfs, if_neg (by rw [h1]; simp), h2, if_neg (by omega)]
  have e1 : putP K M nm s k = findP K M nm ⟨#[]⟩ (putK K M nm s k) := by rw [putP, if_neg (by omega)]
  have e2 : putK K M nm s k (fnd K M ⟨#[]⟩ ((List.replicate (K + M) none).map gans)) = layP K M nm s k := by
    rw [hf, hrf, putK]
    simp only []
    rw [if_neg (by decide), if_pos (.inl trivial)]
  have hz : frs [] ((List.map (fun _ => (⟨0, ⟨#[]⟩, []⟩ : RR)) (shL K M s)).map (·.c)) = 0 := by
    rw [List.map_map]
    induction shL K M s with
    | nil => rfl
    | cons a r ih => rw [List.map_cons, frs]; exact (if_pos (.inl rfl)).trans ih
  refine ⟨?_, ?_, ?_⟩
  · rw [e1, findP, sqP_tr, hg.1, hg.2, List.nil_append, e2, layP, sqP_tr, hp.1, List.nil_append, if_pos hz, hk, PN.tr, List.append_nil]
  · rw [e1, findP, sqP_res, hg.1, hg.2, List.nil_append, e2, layP, sqP_res, hp.1, List.nil_append, if_pos hz, hk, PN.res]
  · rw [ySs_ap, hg.2, hp.2, show m + 1 + 1 = m + 2 by omega]
theorem getP_sts {α : Type} {k : ByteArray × Int → PN α} {want : ByteArray} (hO : O.length = K + M) {y : α} (hk : k ((fnd K M want (O.map gans)).d, (fnd K M want (O.map gans)).e) = .fin y) :
    (getP K M nm want k).tr (sts q m nm O) = aq 2 nm ⟨#[]⟩ (K + M) ∧ (getP K M nm want k).res (sts q m nm O) = y ∧ ySs (sts q m nm O) (aq 2 nm ⟨#[]⟩ (K + M)) = sts q (m + 1) nm O := by
  have hg := sts_get (q := q) (m := m) (nm := nm) (x := ⟨#[]⟩) (O := O)
  rw [hO] at hg
  refine ⟨?_, ?_, hg.2⟩
  · rw [getP, findP, sqP_tr, hg.1, hg.2, List.nil_append, hk, PN.tr, List.append_nil]
  · rw [getP, findP, sqP_res, hg.1, hg.2, List.nil_append, hk, PN.res]
end
end Go.Proofs.YtagijldedngcoaaGreatDoor

namespace Go.Proofs.YtagijldedngcoaaGreatDoor
open Go.RowKit Go.Lib Go.Maps
section
theorem yard_any (K M : Nat) (q : Int) (hn : K + M ≤ 255) (hq0 : 0 ≤ q) (hq1 : q ≤ 1048576) (w : World) : Calls Tryz.prog 32 #[.agg #[.int .i64 (K : Int), .int .i64 (M : Int)], .int .i64 q] w fun e w' => ∃ a c bs, e = .returned (.slice a (K + M) c) ∧ YB q w w' (.slice a (K + M) c) bs ∧ bs.length = K + M := by
  obtain ⟨U, hU⟩ : ∃ U, U = w.alloc (.cells #[.int .i64 (K : Int), .int .i64 (M : Int)] 27) := ⟨_, rfl⟩
  obtain ⟨X, hX⟩ : ∃ X, X = w.heap.size := ⟨_, rfl⟩
  have hB : Below w.heap.size w U := by rw [hU]; exact (Below.refl _ _).alloc (Nat.le_refl _) _
  have h2 : U.heap[X]? = some (.cells #[.int .i64 (K : Int), .int .i64 (M : Int)] 27 (0, 0)) := by rw [hU, hX]; exact heap_alloc_new w _
  have y0 : U.cell? ⟨X, 0, none⟩ = some (.int .i64 (K : Int)) := by simp [World.cell?, h2]
  have y1 : U.cell? ⟨X, 1, none⟩ = some (.int .i64 (M : Int)) := by simp [World.cell?, h2]
  have HU := hide hU
  have HX := hide hX
  have H0 : Hid (YB q w U (.slice none 0 0) []) := ⟨OW.nil _ _ _ _ _, fun e he => by simp at he, fun i j e f he => by simp at he, hB⟩
  have HQ := hide (And.intro hq0 hq1)
  have HNE := hide hn
  have hni : ((K : Int) + (M : Int)) = ((K + M : Nat) : Int) := by omega
  have HNI := hide hni
  have hs1 : ((K + M : Nat) : Int) ≤ 255 := by omega
  clear hU hX hB h2 hq0 hq1 hni
  go_enter Tryz.func32, Tryz.ntmps32
  go_upto_region 1 with fail
  rw [← HU.out, ← HX.out]
  go_wp2
  go_loopw [5, 13] (fun sv i wr => ∃ (j : Nat) (bs : List (Nat × Nat)), j ≤ K + M ∧ i = .int .i64 j ∧ bs.length = j ∧ YB q w wr sv bs) (fun _ i _ => K + M - (intOf i).toNat)
  case atStart => exact ⟨0, [], by omega, rfl, rfl, H0.out⟩
  case round =>
    obtain ⟨j, bs, hj, rfl, hbl, hB⟩ := hrel
    obtain ⟨asv, csv, hsv⟩ := hB.s.shp
    rw [List.length_map, hbl] at hsv
    subst hsv
    have HB := hide hB
    have HL := hide hbl
    clear hB hbl
    by_cases hlt : j < K + M
    · have b1 : (j : Int) < (K : Int) + (M : Int) := by omega
      have HN := hide (new_ok q wr HQ.out.1 (by have := HQ.out.2; omega))
      go_wp2_with fail
      refine HN.out.mono ?_
      rintro e w1 ⟨rfl, hP1, hB1⟩
      have hX1 : PX w1 (wr.heap.size + 1) wr.heap.size (sq q) := hP1
      have hws := HB.out.be.size
      have hlt1 : ∀ e ∈ bs, e.1 < wr.heap.size ∧ e.2 < wr.heap.size := fun e he => ⟨PS.lt (HB.out.px e he).1, PS.mlt (HB.out.px e he).1⟩
      obtain ⟨a3, c3, w3, hr3, hY3⟩ := (HB.out.bel hB1).more hX1 (by omega) hws (fun e he => by have := hlt1 e he; omega) (by have := HL.out; omega)
      rw [HL.out] at hr3 hY3
      have HE := hide hY3
      clear hP1 hB1 hX1 hws hlt1 hY3
      go_wp2_with (at_builtin; refine Lib.wpList_append_run _ rfl _ _ _ _ rfl _ _ rfl rfl _ _ hr3 ?_)
      exact ⟨⟨j + 1, bs ++ [(wr.heap.size + 1, wr.heap.size)], by omega, by go_num, by simp [HL.out], HE.out⟩, by simp [intOf]; omega⟩
    · obtain rfl : j = K + M := by omega
      have b1 : ¬ ((K + M : Nat) : Int) < (K : Int) + (M : Int) := by omega
      go_wp2
      go_ret
      exact ⟨_, _, rfl, bs, HB.out, HL.out⟩
end
end Go.Proofs.YtagijldedngcoaaGreatDoor

namespace Go.Proofs.YtagijldedngcoaaGreatDoor
open Go.RowKit Go.Lib Go.Maps
section
variable {K M : Nat} {nm s want : ByteArray} {kk mm q m : Int} {O : List (Option ByteArray)} {i : Nat} {o : Option ByteArray}
theorem ox_put (hK : 1 ≤ K) (hKM : K + M ≤ 255) (hs : s.size ≤ 9223372036854775807) : OXPut K M nm s (putP K M nm s kPut) := fun b i1 W hL hJ hne hlt HK =>
  oput_any (A0 := []) ent_put11 hL hJ hK hKM hs (by simp [resI]) HK hne (fun i h => h.elim) (fun i h => by rw [h]; exact hlt)
theorem ox_get (hK : 1 ≤ K) (hKM : K + M ≤ 255) : OXGet K M nm want (getP K M nm want kGet) := fun b i1 W hL hJ hne hlt HK =>
  oget_any (A0 := []) ent_get11 hL hJ hK hKM (by simp [resI]) HK hne (fun i h => h.elim) (fun i h => by rw [h]; exact hlt)
theorem shB_size (hK : 1 ≤ K) (s : ByteArray) (i : Nat) : (Zq.shB K M s i).size = 47 + Zq.eachN K s.size := by
  rw [Zq.shB, Zq.bs_size, Zq.fullL_length]
  show 15 + (Zq.bs (Zq.Sh.digest s.data.toList)).size + (Zq.shd K s i).size = _
  rw [Zq.bs_size, Zq.Sh.digest_length, Zq.shd_size hK]
theorem gans_none (K M i : Nat) : gdX K M i (gans none) = none := by rw [gdX, if_neg]; rintro ⟨h, _⟩; exact absurd h (by decide)
theorem gans_true (hK : 1 ≤ K) (hKM : K + M ≤ 255) (hs : s.size ≤ 65536) (hi : i < K + M) : gdX K M i (gans (some (Zq.shB K M s i))) = some (Zq.shX K M s i) := by
  have hok := Zq.shX_ok hK hKM hs hi
  have hd : (gans (some (Zq.shB K M s i))).d.data.toList = Zq.fullL (Zq.shX K M s i) := by
    show (Zq.bs _).data.toList = _
    simp [Zq.bs]
  rw [gdX, hd, Zq.dec_full hok, if_pos ⟨rfl, Zq.full_ok hok, rfl, rfl, rfl⟩]
theorem sts_set : (sts q m nm O).set i (st1 q m nm o) = sts q m nm (O.set i o) := by rw [sts, sts, List.map_set]
theorem sts_at (h : O[i]? = some o) : (sts q m nm O)[i]? = some (st1 q m nm o) := by rw [sts, List.getElem?_map, h]; rfl
end
def wA : ByteArray := ⟨#[97]⟩
def wT : ByteArray := ⟨#[97, 98, 99]⟩
theorem wFit : ∀ d ∈ shL 2 1 wT, d.size ≤ 131072 ∧ ((wA.size + d.size : Nat) : Int) ≤ 1000 := by
  intro d hd
  obtain ⟨i, _, rfl⟩ := List.mem_map.1 hd
  rw [shB_size (by decide)]
  decide
def wO : List (Option ByteArray) := [some (Zq.shB 2 1 wT 0), none, some (Zq.shB 2 1 wT 2)]
theorem wO_eq : ((shL 2 1 wT).map some).set 1 none = wO := rfl
theorem wGn : Gn 2 1 wT (wO.map gans) := by
  intro i x hx
  have hi : i < 3 := by have := (List.getElem?_eq_some_iff.1 hx).1; simpa [wO] using this
  rw [List.getElem?_map] at hx
  match i, hi with
  | 0, _ => cases hx; exact .inr (gans_true (by decide) (by decide) (by decide) (by decide))
  | 1, _ => cases hx; exact .inl (gans_none _ _ _)
  | 2, _ => cases hx; exact .inr (gans_true (by decide) (by decide) (by decide) (by decide))
theorem wI : 2 ≤ (gdI 2 1 (wO.map gans)).length := by
  have h0 : (∃ x, (wO.map gans)[0]? = some x ∧ gdX 2 1 0 x ≠ none) := ⟨_, rfl, by rw [gans_true (by decide) (by decide) (by decide) (by decide)]; simp⟩
  have h2 : (∃ x, (wO.map gans)[2]? = some x ∧ gdX 2 1 2 x ≠ none) := ⟨_, rfl, by rw [gans_true (by decide) (by decide) (by decide) (by decide)]; simp⟩
  have m0 : 0 ∈ gdI 2 1 (wO.map gans) := List.mem_filter.2 ⟨List.mem_range.2 (by decide), @decide_eq_true _ (Classical.propDecidable _) h0⟩
  have m2 : 2 ∈ gdI 2 1 (wO.map gans) := List.mem_filter.2 ⟨List.mem_range.2 (by decide), @decide_eq_true _ (Classical.propDecidable _) h2⟩
  have hn := gdI_nodup (K := 2) (M := 1) (wO.map gans)
  match h : gdI 2 1 (wO.map gans), m0, m2, hn with
  | [], m0, _, _ => cases m0
  | [a], m0, m2, _ =>
    simp at m0 m2
    omega
  | _ :: _ :: _, _, _, _ => simp
theorem wF : fnd 2 1 (Zq.bs (Zq.Sh.digest wT.data.toList)) (wO.map gans) = ⟨wT, (gdI 2 1 (wO.map gans)).map (Zq.shX 2 1 wT), 0⟩ := fnd_true (by decide) (by decide) (by decide) (by decide) wGn (.inr rfl) wI
end Go.Proofs.YtagijldedngcoaaGreatDoor

namespace Go.Proofs.YtagijldedngcoaaGreatDoor
open Go.RowKit Go.Lib Go.Maps
noncomputable def wD : ByteArray := Zq.bs (Zq.Sh.digest wT.data.toList)
structure W6 (w w6 : World) (X b : Nat) (sv : Value) (bs : List (Nat × Nat)) : Prop where
  yp : YP (fun i => X < i ∧ i < b) w6 sv (sts 1000 2 wA wO) bs
  jb : ∃ ids tx, JB w6 b false 0 0 ⟨#[]⟩ ⟨#[]⟩ .nilFunc 0 0 ids tx 6
  kt : w6.heap[X]? = some (.cells #[.int .i64 2, .int .i64 1] 27 (0, 0))
  be : Below w.heap.size w w6
  la : Zq.Sh.Laid w6
  xx : w.heap.size ≤ X
  xb : X < b
  w2 : 2 ≤ w.heap.size
end Go.Proofs.YtagijldedngcoaaGreatDoor
