/-
  Contracts of the program and of the statements (part 31 of 35).
-/
import Derived.Test.YtagijldedngcoaaGreatDoorOc30

namespace Go.Proofs.YtagijldedngcoaaGreatDoor
open Go.RowKit Go.Lib Go.Maps
def gtx (x : ByteArray × Int) : List ByteArray := if x.2 = 0 then [x.1] else []
section
variable {b i1 : Nat} {e m r : Nat → Prop} {w w' W : World} {A : List RR} {st k c NN s : Int} {n d nm dt : ByteArray} {go ids tx : Value} {kk mm : Int} {pl : PN RS}
set_option maxRecDepth 100000 in
set_option maxHeartbeats 3200000 in
theorem oput_end (h6 : w.heap[i1]? = some (.cells #[.pointer (some ⟨b, 0, none⟩)] 99 (0, 0))) (hJ : JB w b true st k n d go c NN ids tx s) {cc nn : Int} :
    Calls Tryz.prog 61 #[.int .i64 cc, .int .i64 nn, .pointer (some ⟨i1, 0, none⟩)] w fun e w' => e = .returned (.tuple #[]) ∧ ∃ ids tx, JB w' b false 0 0 ⟨#[]⟩ ⟨#[]⟩ .nilFunc cc nn ids tx s ∧ TS w.heap.size ids [] w' ∧ TS w.heap.size tx [] w' ∧ Gs (fun i => i = b) w w' := by
  obtain ⟨y1, _⟩ := cell1 h6
  have HE : Hid (Calls Tryz.prog 62 #[.pointer (some ⟨b, 0, none⟩), .agg #[.int .i64 cc, .string ⟨#[]⟩, .int .i64 nn, .slice none 0 0, .slice none 0 0, .slice none 0 0, .slice none 0 0]] w fun e w' => e = .returned (.tuple #[]) ∧ ∃ ids tx, JB w' b false 0 0 ⟨#[]⟩ ⟨#[]⟩ .nilFunc cc nn ids tx s ∧ TS w.heap.size ids [] w' ∧ TS w.heap.size tx [] w' ∧ Gs (fun i => i = b) w w') := end_on hJ (LS.nl (f := t1) (fun _ => True) w) (LS.nl _ w) (by simp) (by simp)
  clear h6 hJ
  go_enter Tryz.func61, Tryz.ntmps61
  go_wp2_with fail
  refine HE.out.mono ?_
  rintro e w1 ⟨rfl, hF⟩
  have HF := hide hF
  clear hF
  go_wp2
  go_end0
  exact ⟨rfl, HF.out⟩
def kPut (x : Int × Int) : PN RS := .fin ⟨x.1, x.2, [], []⟩
theorem kv_put (h6 : w.heap[i1]? = some (.cells #[.pointer (some ⟨b, 0, none⟩)] 99 (0, 0))) (hb : b < w.heap.size) : KV 61 #[] #[.pointer (some ⟨i1, 0, none⟩)] b (FinR b) vP kPut (fun i => i = i1) (fun _ => False) w := by
  intro W x args A r hS hLw hJ hv hI hr
  subst hv
  show Calls Tryz.prog 61 #[.int .i64 x.1, .int .i64 x.2, .pointer (some ⟨i1, 0, none⟩)] W _
  refine (oput_end ((hS.2 i1 rfl (lt_of_block h6)).trans h6) hJ).mono ?_
  rintro er w' ⟨rfl, ids, tx, hJ', h1, h2, hG⟩
  exact ⟨rfl, fin_rdy hJ' h1 h2 hG (Nat.lt_of_lt_of_le hb hS.1)⟩
theorem ent_put11 : Ent 61 := ent_of Tryz.func61 (by kernel_rfl) rfl
theorem ent_put1 : Ent 59 := ent_of Tryz.func59 (by kernel_rfl) rfl
def OXPut (kk mm : Int) (nm dt : ByteArray) (pl : PN RS) : Prop := ∀ (b i1 : Nat) (W : World), Zq.Sh.Laid W → JB W b true 0 0 ⟨#[]⟩ ⟨#[]⟩ .nilFunc 0 0 (.slice none 0 0) (.slice none 0 0) 0 → b ≠ i1 → i1 < W.heap.size → KV 61 #[] #[.pointer (some ⟨i1, 0, none⟩)] b (FinR b) vP kPut (fun i => i = i1) (fun _ => False) W → Calls Tryz.prog 60 #[.pointer (some ⟨b, 0, none⟩), .agg #[.int .i64 kk, .int .i64 mm], .string nm, .string dt, .func (.func 61) #[] #[.pointer (some ⟨i1, 0, none⟩)]] W fun er w' => er = .returned (.tuple #[]) ∧ PO b (FinR b) pl [] (fun i => i = i1) (fun i => i = b ∨ False) W w'
set_option maxRecDepth 100000 in
set_option maxHeartbeats 3200000 in
theorem oputjob1 {x1 x2 x3 : Nat} (HX : OXPut kk mm nm dt pl) (hLw : Zq.Sh.Laid w) (hJ : JB w b true 0 0 ⟨#[]⟩ ⟨#[]⟩ .nilFunc 0 0 (.slice none 0 0) (.slice none 0 0) 0) (h1 : w.heap[x1]? = some (.cells #[.int .i64 kk, .int .i64 mm] 27 (0, 0))) (h2 : w.heap[x2]? = some (.cells #[.string nm] 9 (0, 0))) (h3 : w.heap[x3]? = some (.cells #[.string dt] 9 (0, 0))) :
    Calls Tryz.prog 59 #[.pointer (some ⟨b, 0, none⟩), .pointer (some ⟨x1, 0, none⟩), .pointer (some ⟨x2, 0, none⟩), .pointer (some ⟨x3, 0, none⟩)] w fun e w' => e = .returned (.tuple #[]) ∧ PO b (FinR b) pl [] (fun i => w.heap.size ≤ i) (fun i => i = b) w w' := by
  obtain ⟨U, hU⟩ : ∃ U, U = w.alloc (.cells #[.pointer (some ⟨b, 0, none⟩)] 99) := ⟨_, rfl⟩
  obtain ⟨i1, hi1⟩ : ∃ i1, i1 = w.heap.size := ⟨_, rfl⟩
  have hBU : Below w.heap.size w U := by rw [hU]; exact (Below.refl _ _).alloc (Nat.le_refl _) _
  have hJU := hJ.bel hBU
  have h6 : U.heap[i1]? = some (.cells #[.pointer (some ⟨b, 0, none⟩)] 99 (0, 0)) := by rw [hU, hi1]; exact heap_alloc_new w _
  have y6 := (cell1 h6).1
  have h1U := (hBU.block x1 (lt_of_block h1)).trans h1
  have y0 : U.cell? ⟨x1, 0, none⟩ = some (.int .i64 kk) := by simp [World.cell?, h1U]
  have y1 : U.cell? ⟨x1, 1, none⟩ = some (.int .i64 mm) := by simp [World.cell?, h1U]
  have y2 := (cell1 ((hBU.block x2 (lt_of_block h2)).trans h2)).1
  have y3 := (cell1 ((hBU.block x3 (lt_of_block h3)).trans h3)).1
  have hbl := hJ.lt
  have HN := hide (HX b i1 U (hLw.below hBU hLw.size) hJU (by omega) (lt_of_block h6) (kv_put h6 hJU.lt))
  have HU := hide hU
  have HI := hide hi1
  have HB := hide hBU
  have hmf : ∀ (fn : Fn) (first cap : Array Value) (w : World), (Instr.makeFunc fn first cap).run Tryz.prog w = .ok (.func fn first cap) w := fun _ _ _ _ => rfl
  clear HX hLw hJU h6 h1U hBU hU hi1 hJ hbl h1 h2 h3
  go_enter Tryz.func59, Tryz.ntmps59
  go_upto_region 1 with fail
  rw [← HU.out, ← HI.out]
  go_wp2_with fail
  refine HN.out.mono ?_
  rintro e w7 ⟨rfl, hQ⟩
  have HQ : Hid (PO b (FinR b) pl [] (fun i => w.heap.size ≤ i) (fun i => i = b) w w7) := by
    have h3 := (hQ.bel HB.out).less (e := fun i => w.heap.size ≤ i) (fun i hi => .inr (by have := HI.out; omega))
    exact h3.more fun i hi => by
      rcases hi with h | h
      · exact h
      · exact h.elim
  clear hQ
  go_wp2
  go_end0
  exact ⟨rfl, HQ.out⟩
set_option maxRecDepth 100000 in
set_option maxHeartbeats 3200000 in
theorem oputjob (HX : OXPut kk mm nm dt pl) (hLw : Zq.Sh.Laid w) :
    Calls Tryz.prog 24 #[.agg #[.int .i64 kk, .int .i64 mm], .string nm, .string dt] w fun e w' => MK FinR pl w w' e := by
  obtain ⟨U, hU⟩ : ∃ U, U = als w [.cells #[.int .i64 kk, .int .i64 mm] 27, .cells #[.string nm] 9, .cells #[.string dt] 9] := ⟨_, rfl⟩
  obtain ⟨X, hX⟩ : ∃ X, X = w.heap.size := ⟨_, rfl⟩
  have hB : Below w.heap.size w U := by rw [hU]; exact als_bel _ _
  have h1 : U.heap[X]? = some (.cells #[.int .i64 kk, .int .i64 mm] 27 (0, 0)) := by rw [hU, hX]; exact als_at _ w 0 _ rfl
  have h2 : U.heap[X + 1]? = some (.cells #[.string nm] 9 (0, 0)) := by rw [hU, hX]; exact als_at _ w 1 _ rfl
  have h3 : U.heap[X + 2]? = some (.cells #[.string dt] 9 (0, 0)) := by rw [hU, hX]; exact als_at _ w 2 _ rfl
  have HN : Hid (Calls Tryz.prog 44 #[.func (.func 59) #[] #[.pointer (some ⟨X, 0, none⟩), .pointer (some ⟨X + 1, 0, none⟩), .pointer (some ⟨X + 2, 0, none⟩)]] U fun e w' => Hid (MK FinR pl w w' e)) := by
    refine (start_mk (Fin := FinR) (pl := pl) ent_put1 (hLw.below hB hLw.size) fun V hJ hBV hLV => ?_).mono fun e w' h => h.bel hB
    refine (oputjob1 HX hLV hJ ((hBV.block _ (lt_of_block h1)).trans h1) ((hBV.block _ (lt_of_block h2)).trans h2) ((hBV.block _ (lt_of_block h3)).trans h3)).mono ?_
    rintro e w' ⟨rfl, hP⟩
    have := hBV.size
    exact ⟨rfl, hP.less fun i hi => .inl (by omega)⟩
  have HU : Hid (U = ((w.alloc (.cells #[.int .i64 kk, .int .i64 mm] 27)).alloc (.cells #[.string nm] 9)).alloc (.cells #[.string dt] 9)) := hU
  have HX' := hide hX
  have hmf : ∀ (fn : Fn) (first cap : Array Value) (w : World), (Instr.makeFunc fn first cap).run Tryz.prog w = .ok (.func fn first cap) w := fun _ _ _ _ => rfl
  clear HX hLw hB hU hX h1 h2 h3
  go_enter Tryz.func24, Tryz.ntmps24
  go_upto_region 1 with fail
  rw [← HU.out, ← HX'.out]
  go_wp2_with fail
  refine HN.out.mono ?_
  rintro e w7 hM
  obtain ⟨b, P, rfl, hM'⟩ := hM.out
  have HM : Hid (MK FinR pl w w7 (.returned (.pointer (some ⟨b, 0, none⟩)))) := hM.out
  clear hM hM'
  go_wp2
  go_ret
  exact HM.out
set_option maxRecDepth 100000 in
set_option maxHeartbeats 3200000 in
theorem oget_end (h6 : w.heap[i1]? = some (.cells #[.pointer (some ⟨b, 0, none⟩)] 99 (0, 0))) (hJ : JB w b true st k n d go c NN ids tx s) {cc : Int} {gd : ByteArray} :
    Calls Tryz.prog 65 #[.string gd, .int .i64 cc, .pointer (some ⟨i1, 0, none⟩)] w fun e w' => e = .returned (.tuple #[]) ∧ ∃ ids tx, JB w' b false 0 0 ⟨#[]⟩ ⟨#[]⟩ .nilFunc cc 0 ids tx s ∧ TS w.heap.size ids [] w' ∧ TS w.heap.size tx (gtx (gd, cc)) w' ∧ Gs (fun i => i = b) w w' := by
  obtain ⟨y1, _⟩ := cell1 h6
  have hib : i1 ≠ b := fun e => by
    rw [e, show w.heap[b]? = _ from hJ] at h6
    simp at h6
  have hbl := hJ.lt
  obtain ⟨X, hX⟩ : ∃ X, X = w.heap.size := ⟨_, rfl⟩
  have HX := hide hX
  by_cases h0 : cc = 0
  · obtain ⟨U, hU⟩ : ∃ U, U = als w [.cells #[.int .i64 cc, .string ⟨#[]⟩, .int .i64 0, .slice none 0 0, .slice (some ⟨X + 1, 0, none⟩) 1 1, .slice none 0 0, .slice none 0 0] 63, .cells #[.string gd] 9] := ⟨_, rfl⟩
    have hB : Below w.heap.size w U := by rw [hU]; exact als_bel _ _
    have c1 : U.heap[X]? = some (.cells #[.int .i64 cc, .string ⟨#[]⟩, .int .i64 0, .slice none 0 0, .slice (some ⟨X + 1, 0, none⟩) 1 1, .slice none 0 0, .slice none 0 0] 63 (0, 0)) := by rw [hU, hX]; exact als_at _ w 0 _ rfl
    have c2 : U.heap[X + 1]? = some (.cells #[.string gd] 9 (0, 0)) := by rw [hU, hX]; exact als_at _ w 1 _ rfl
    have hls : LS t1 1 (fun _ => True) U (.slice (some ⟨X + 1, 0, none⟩) 1 1) [gd] := ⟨_, _, rfl, (fun h => by simp at h), .inr ⟨X + 1, 0, rfl, trivial, lt_of_block c2, fun i x hx j u hu => by
      match i, hx with
      | 0, hx =>
        injection hx with hx
        subst hx
        match j, hu with
        | 0, hu => injection hu with hu; subst hu; simp [World.cell?, c2]
        | _ + 1, hu => simp [t1] at hu⟩⟩
    have HE := hide (end_on (c := cc) (N := 0) (hJ.bel hB) (LS.nl (f := t1) (fun _ => True) U) hls (by simp) (by simp))
    have z1 := (cell1 ((hB.block i1 (lt_of_block h6)).trans h6)).1
    have q0 : U.cell? ⟨X, 0, none⟩ = some (.int .i64 cc) := by simp [World.cell?, c1]
    have q1 : U.cell? ⟨X, 1, none⟩ = some (.string ⟨#[]⟩) := by simp [World.cell?, c1]
    have q2 : U.cell? ⟨X, 2, none⟩ = some (.int .i64 0) := by simp [World.cell?, c1]
    have q3 : U.cell? ⟨X, 3, none⟩ = some (.slice none 0 0) := by simp [World.cell?, c1]
    have q4 : U.cell? ⟨X, 4, none⟩ = some (.slice (some ⟨X + 1, 0, none⟩) 1 1) := by simp [World.cell?, c1]
    have q5 : U.cell? ⟨X, 5, none⟩ = some (.slice none 0 0) := by simp [World.cell?, c1]
    have q6 : U.cell? ⟨X, 6, none⟩ = some (.slice none 0 0) := by simp [World.cell?, c1]
    have HG : Hid (gtx (gd, cc) = [gd]) := by rw [Hid, gtx, if_pos h0]
    have HB := hide hB
    have HU : Hid (U = (w.alloc (.cells #[.int .i64 0, .string ⟨#[]⟩, .int .i64 0, .slice none 0 0, .slice (some ⟨X + 1, 0, none⟩) 1 1, .slice none 0 0, .slice none 0 0] 63)).alloc (.cells #[.string gd] 9)) := by rw [hU, h0]; rfl
    subst h0
    clear hib hbl h6 hJ hX hB hU c1 c2 hls
    go_enter Tryz.func65, Tryz.ntmps65
    go_upto_region 3 with fail
    rw [← HX.out, ← HU.out]
    go_wp2_with fail
    refine HE.out.mono ?_
    rintro e w1 ⟨rfl, ids', tx', hJ2, hT1, hT2, hG⟩
    have HF : Hid (∃ ids tx, JB w1 b false 0 0 ⟨#[]⟩ ⟨#[]⟩ .nilFunc 0 0 ids tx s ∧ TS w.heap.size ids [] w1 ∧ TS w.heap.size tx (gtx (gd, 0)) w1 ∧ Gs (fun i => i = b) w w1) := by
      rw [HG.out]
      exact ⟨ids', tx', hJ2, hT1.low HB.out.size, hT2.low HB.out.size, (Gs.of_below _ HB.out).trans hG⟩
    clear hJ2 hT1 hT2 hG
    go_wp2
    go_end0
    exact ⟨rfl, HF.out⟩
  · have HG : Hid (gtx (gd, cc) = []) := by rw [Hid, gtx, if_neg h0]
    obtain ⟨U, hU⟩ : ∃ U, U = als w [.cells #[.int .i64 cc, .string ⟨#[]⟩, .int .i64 0, .slice none 0 0, .slice none 0 0, .slice none 0 0, .slice none 0 0] 63] := ⟨_, rfl⟩
    have hB : Below w.heap.size w U := by rw [hU]; exact als_bel _ _
    have c1 : U.heap[X]? = some (.cells #[.int .i64 cc, .string ⟨#[]⟩, .int .i64 0, .slice none 0 0, .slice none 0 0, .slice none 0 0, .slice none 0 0] 63 (0, 0)) := by rw [hU, hX]; exact als_at _ w 0 _ rfl
    have HE := hide (end_on (c := cc) (N := 0) (hJ.bel hB) (LS.nl (f := t1) (fun _ => True) U) (LS.nl (f := t1) (fun _ => True) U) (by simp) (by simp))
    have z1 := (cell1 ((hB.block i1 (lt_of_block h6)).trans h6)).1
    have q0 : U.cell? ⟨X, 0, none⟩ = some (.int .i64 cc) := by simp [World.cell?, c1]
    have q1 : U.cell? ⟨X, 1, none⟩ = some (.string ⟨#[]⟩) := by simp [World.cell?, c1]
    have q2 : U.cell? ⟨X, 2, none⟩ = some (.int .i64 0) := by simp [World.cell?, c1]
    have q3 : U.cell? ⟨X, 3, none⟩ = some (.slice none 0 0) := by simp [World.cell?, c1]
    have q4 : U.cell? ⟨X, 4, none⟩ = some (.slice none 0 0) := by simp [World.cell?, c1]
    have q5 : U.cell? ⟨X, 5, none⟩ = some (.slice none 0 0) := by simp [World.cell?, c1]
    have q6 : U.cell? ⟨X, 6, none⟩ = some (.slice none 0 0) := by simp [World.cell?, c1]
    have HB := hide hB
    have HU : Hid (U = w.alloc (.cells #[.int .i64 cc, .string ⟨#[]⟩, .int .i64 0, .slice none 0 0, .slice none 0 0, .slice none 0 0, .slice none 0 0] 63)) := hU
    have h0' : (cc == 0) = false := by simpa using h0
    clear hib hbl h6 hJ hX hB hU c1
    go_enter Tryz.func65, Tryz.ntmps65
    go_upto_region 3 with fail
    rw [← HX.out, ← HU.out]
    go_wp2_with fail
    refine HE.out.mono ?_
    rintro e w1 ⟨rfl, ids', tx', hJ2, hT1, hT2, hG⟩
    have HF : Hid (∃ ids tx, JB w1 b false 0 0 ⟨#[]⟩ ⟨#[]⟩ .nilFunc cc 0 ids tx s ∧ TS w.heap.size ids [] w1 ∧ TS w.heap.size tx (gtx (gd, cc)) w1 ∧ Gs (fun i => i = b) w w1) := by
      rw [HG.out]
      exact ⟨ids', tx', hJ2, hT1.low HB.out.size, hT2.low HB.out.size, (Gs.of_below _ HB.out).trans hG⟩
    clear hJ2 hT1 hT2 hG
    go_wp2
    go_end0
    exact ⟨rfl, HF.out⟩
def kGet (x : ByteArray × Int) : PN RS := .fin ⟨x.2, 0, [], gtx x⟩
theorem kv_get (h6 : w.heap[i1]? = some (.cells #[.pointer (some ⟨b, 0, none⟩)] 99 (0, 0))) (hb : b < w.heap.size) : KV 65 #[] #[.pointer (some ⟨i1, 0, none⟩)] b (FinR b) vG kGet (fun i => i = i1) (fun _ => False) w := by
  intro W x args A r hS hLw hJ hv hI hr
  subst hv
  show Calls Tryz.prog 65 #[.string x.1, .int .i64 x.2, .pointer (some ⟨i1, 0, none⟩)] W _
  refine (oget_end ((hS.2 i1 rfl (lt_of_block h6)).trans h6) hJ).mono ?_
  rintro er w' ⟨rfl, ids, tx, hJ', h1, h2, hG⟩
  exact ⟨rfl, fin_rdy hJ' h1 h2 hG (Nat.lt_of_lt_of_le hb hS.1)⟩
theorem ent_get11 : Ent 65 := ent_of Tryz.func65 (by kernel_rfl) rfl
theorem ent_get1 : Ent 63 := ent_of Tryz.func63 (by kernel_rfl) rfl
def OXGet (kk mm : Int) (nm dt : ByteArray) (pl : PN RS) : Prop := ∀ (b i1 : Nat) (W : World), Zq.Sh.Laid W → JB W b true 0 0 ⟨#[]⟩ ⟨#[]⟩ .nilFunc 0 0 (.slice none 0 0) (.slice none 0 0) 0 → b ≠ i1 → i1 < W.heap.size → KV 65 #[] #[.pointer (some ⟨i1, 0, none⟩)] b (FinR b) vG kGet (fun i => i = i1) (fun _ => False) W → Calls Tryz.prog 64 #[.pointer (some ⟨b, 0, none⟩), .agg #[.int .i64 kk, .int .i64 mm], .string nm, .string dt, .func (.func 65) #[] #[.pointer (some ⟨i1, 0, none⟩)]] W fun er w' => er = .returned (.tuple #[]) ∧ PO b (FinR b) pl [] (fun i => i = i1) (fun i => i = b ∨ False) W w'
set_option maxRecDepth 100000 in
set_option maxHeartbeats 3200000 in
theorem ogetjob1 {x1 x2 x3 : Nat} (HX : OXGet kk mm nm dt pl) (hLw : Zq.Sh.Laid w) (hJ : JB w b true 0 0 ⟨#[]⟩ ⟨#[]⟩ .nilFunc 0 0 (.slice none 0 0) (.slice none 0 0) 0) (h1 : w.heap[x1]? = some (.cells #[.int .i64 kk, .int .i64 mm] 27 (0, 0))) (h2 : w.heap[x2]? = some (.cells #[.string nm] 9 (0, 0))) (h3 : w.heap[x3]? = some (.cells #[.string dt] 9 (0, 0))) :
    Calls Tryz.prog 63 #[.pointer (some ⟨b, 0, none⟩), .pointer (some ⟨x1, 0, none⟩), .pointer (some ⟨x2, 0, none⟩), .pointer (some ⟨x3, 0, none⟩)] w fun e w' => e = .returned (.tuple #[]) ∧ PO b (FinR b) pl [] (fun i => w.heap.size ≤ i) (fun i => i = b) w w' := by
  obtain ⟨U, hU⟩ : ∃ U, U = w.alloc (.cells #[.pointer (some ⟨b, 0, none⟩)] 99) := ⟨_, rfl⟩
  obtain ⟨i1, hi1⟩ : ∃ i1, i1 = w.heap.size := ⟨_, rfl⟩
  have hBU : Below w.heap.size w U := by rw [hU]; exact (Below.refl _ _).alloc (Nat.le_refl _) _
  have hJU := hJ.bel hBU
  have h6 : U.heap[i1]? = some (.cells #[.pointer (some ⟨b, 0, none⟩)] 99 (0, 0)) := by rw [hU, hi1]; exact heap_alloc_new w _
  have y6 := (cell1 h6).1
  have h1U := (hBU.block x1 (lt_of_block h1)).trans h1
  have y0 : U.cell? ⟨x1, 0, none⟩ = some (.int .i64 kk) := by simp [World.cell?, h1U]
  have y1 : U.cell? ⟨x1, 1, none⟩ = some (.int .i64 mm) := by simp [World.cell?, h1U]
  have y2 := (cell1 ((hBU.block x2 (lt_of_block h2)).trans h2)).1
  have y3 := (cell1 ((hBU.block x3 (lt_of_block h3)).trans h3)).1
  have hbl := hJ.lt
  have HN := hide (HX b i1 U (hLw.below hBU hLw.size) hJU (by omega) (lt_of_block h6) (kv_get h6 hJU.lt))
  have HU := hide hU
  have HI := hide hi1
  have HB := hide hBU
  have hmf : ∀ (fn : Fn) (first cap : Array Value) (w : World), (Instr.makeFunc fn first cap).run Tryz.prog w = .ok (.func fn first cap) w := fun _ _ _ _ => rfl
  clear HX hLw hJU h6 h1U hBU hU hi1 hJ hbl h1 h2 h3
  go_enter Tryz.func63, Tryz.ntmps63
  go_upto_region 1 with fail
  rw [← HU.out, ← HI.out]
  go_wp2_with fail
  refine HN.out.mono ?_
  rintro e w7 ⟨rfl, hQ⟩
  have HQ : Hid (PO b (FinR b) pl [] (fun i => w.heap.size ≤ i) (fun i => i = b) w w7) := by
    have h3 := (hQ.bel HB.out).less (e := fun i => w.heap.size ≤ i) (fun i hi => .inr (by have := HI.out; omega))
    exact h3.more fun i hi => by
      rcases hi with h | h
      · exact h
      · exact h.elim
  clear hQ
  go_wp2
  go_end0
  exact ⟨rfl, HQ.out⟩
set_option maxRecDepth 100000 in
set_option maxHeartbeats 3200000 in
theorem ogetjob (HX : OXGet kk mm nm dt pl) (hLw : Zq.Sh.Laid w) :
    Calls Tryz.prog 25 #[.agg #[.int .i64 kk, .int .i64 mm], .string nm, .string dt] w fun e w' => MK FinR pl w w' e := by
  obtain ⟨U, hU⟩ : ∃ U, U = als w [.cells #[.int .i64 kk, .int .i64 mm] 27, .cells #[.string nm] 9, .cells #[.string dt] 9] := ⟨_, rfl⟩
  obtain ⟨X, hX⟩ : ∃ X, X = w.heap.size := ⟨_, rfl⟩
  have hB : Below w.heap.size w U := by rw [hU]; exact als_bel _ _
  have h1 : U.heap[X]? = some (.cells #[.int .i64 kk, .int .i64 mm] 27 (0, 0)) := by rw [hU, hX]; exact als_at _ w 0 _ rfl
  have h2 : U.heap[X + 1]? = some (.cells #[.string nm] 9 (0, 0)) := by rw [hU, hX]; exact als_at _ w 1 _ rfl
  have h3 : U.heap[X + 2]? = some (.cells #[.string dt] 9 (0, 0)) := by rw [hU, hX]; exact als_at _ w 2 _ rfl
  have HN : Hid (Calls Tryz.prog 44 #[.func (.func 63) #[] #[.pointer (some ⟨X, 0, none⟩), .pointer (some ⟨X + 1, 0, none⟩), .pointer (some ⟨X + 2, 0, none⟩)]] U fun e w' => Hid (MK FinR pl w w' e)) := by
    refine (start_mk (Fin := FinR) (pl := pl) ent_get1 (hLw.below hB hLw.size) fun V hJ hBV hLV => ?_).mono fun e w' h => h.bel hB
    refine (ogetjob1 HX hLV hJ ((hBV.block _ (lt_of_block h1)).trans h1) ((hBV.block _ (lt_of_block h2)).trans h2) ((hBV.block _ (lt_of_block h3)).trans h3)).mono ?_
    rintro e w' ⟨rfl, hP⟩
    have := hBV.size
    exact ⟨rfl, hP.less fun i hi => .inl (by omega)⟩
  have HU : Hid (U = ((w.alloc (.cells #[.int .i64 kk, .int .i64 mm] 27)).alloc (.cells #[.string nm] 9)).alloc (.cells #[.string dt] 9)) := hU
  have HX' := hide hX
  have hmf : ∀ (fn : Fn) (first cap : Array Value) (w : World), (Instr.makeFunc fn first cap).run Tryz.prog w = .ok (.func fn first cap) w := fun _ _ _ _ => rfl
  clear HX hLw hB hU hX h1 h2 h3
  go_enter Tryz.func25, Tryz.ntmps25
  go_upto_region 1 with fail
  rw [← HU.out, ← HX'.out]
  go_wp2_with fail
  refine HN.out.mono ?_
  rintro e w7 hM
  obtain ⟨b, P, rfl, hM'⟩ := hM.out
  have HM : Hid (MK FinR pl w w7 (.returned (.pointer (some ⟨b, 0, none⟩)))) := hM.out
  clear hM hM'
  go_wp2
  go_ret
  exact HM.out
set_option maxRecDepth 100000 in
set_option maxHeartbeats 3200000 in
theorem odel_end (h6 : w.heap[i1]? = some (.cells #[.pointer (some ⟨b, 0, none⟩)] 99 (0, 0))) (hJ : JB w b true st k n d go c NN ids tx s) {cc : Int} :
    Calls Tryz.prog 68 #[.int .i64 cc, .pointer (some ⟨i1, 0, none⟩)] w fun e w' => e = .returned (.tuple #[]) ∧ ∃ ids tx, JB w' b false 0 0 ⟨#[]⟩ ⟨#[]⟩ .nilFunc cc 0 ids tx s ∧ TS w.heap.size ids [] w' ∧ TS w.heap.size tx [] w' ∧ Gs (fun i => i = b) w w' := by
  obtain ⟨y1, _⟩ := cell1 h6
  have HE : Hid (Calls Tryz.prog 62 #[.pointer (some ⟨b, 0, none⟩), .agg #[.int .i64 cc, .string ⟨#[]⟩, .int .i64 0, .slice none 0 0, .slice none 0 0, .slice none 0 0, .slice none 0 0]] w fun e w' => e = .returned (.tuple #[]) ∧ ∃ ids tx, JB w' b false 0 0 ⟨#[]⟩ ⟨#[]⟩ .nilFunc cc 0 ids tx s ∧ TS w.heap.size ids [] w' ∧ TS w.heap.size tx [] w' ∧ Gs (fun i => i = b) w w') := end_on hJ (LS.nl (f := t1) (fun _ => True) w) (LS.nl _ w) (by simp) (by simp)
  clear h6 hJ
  go_enter Tryz.func68, Tryz.ntmps68
  go_wp2_with fail
  refine HE.out.mono ?_
  rintro e w1 ⟨rfl, hF⟩
  have HF := hide hF
  clear hF
  go_wp2
  go_end0
  exact ⟨rfl, HF.out⟩
def kDel (x : Int) : PN RS := .fin ⟨x, 0, [], []⟩
theorem kv_del (h6 : w.heap[i1]? = some (.cells #[.pointer (some ⟨b, 0, none⟩)] 99 (0, 0))) (hb : b < w.heap.size) : KV 68 #[] #[.pointer (some ⟨i1, 0, none⟩)] b (FinR b) vD kDel (fun i => i = i1) (fun _ => False) w := by
  intro W x args A r hS hLw hJ hv hI hr
  subst hv
  show Calls Tryz.prog 68 #[.int .i64 x, .pointer (some ⟨i1, 0, none⟩)] W _
  refine (odel_end ((hS.2 i1 rfl (lt_of_block h6)).trans h6) hJ).mono ?_
  rintro er w' ⟨rfl, ids, tx, hJ', h1, h2, hG⟩
  exact ⟨rfl, fin_rdy hJ' h1 h2 hG (Nat.lt_of_lt_of_le hb hS.1)⟩
theorem ent_del11 : Ent 68 := ent_of Tryz.func68 (by kernel_rfl) rfl
theorem ent_del1 : Ent 66 := ent_of Tryz.func66 (by kernel_rfl) rfl
def OXDel (kk mm : Int) (nm : ByteArray) (pl : PN RS) : Prop := ∀ (b i1 : Nat) (W : World), Zq.Sh.Laid W → JB W b true 0 0 ⟨#[]⟩ ⟨#[]⟩ .nilFunc 0 0 (.slice none 0 0) (.slice none 0 0) 0 → b ≠ i1 → i1 < W.heap.size → KV 68 #[] #[.pointer (some ⟨i1, 0, none⟩)] b (FinR b) vD kDel (fun i => i = i1) (fun _ => False) W → Calls Tryz.prog 67 #[.pointer (some ⟨b, 0, none⟩), .agg #[.int .i64 kk, .int .i64 mm], .string nm, .func (.func 68) #[] #[.pointer (some ⟨i1, 0, none⟩)]] W fun er w' => er = .returned (.tuple #[]) ∧ PO b (FinR b) pl [] (fun i => i = i1) (fun i => i = b ∨ False) W w'
set_option maxRecDepth 100000 in
set_option maxHeartbeats 3200000 in
theorem odeljob1 {x1 x2 : Nat} (HX : OXDel kk mm nm pl) (hLw : Zq.Sh.Laid w) (hJ : JB w b true 0 0 ⟨#[]⟩ ⟨#[]⟩ .nilFunc 0 0 (.slice none 0 0) (.slice none 0 0) 0) (h1 : w.heap[x1]? = some (.cells #[.int .i64 kk, .int .i64 mm] 27 (0, 0))) (h2 : w.heap[x2]? = some (.cells #[.string nm] 9 (0, 0))) :
    Calls Tryz.prog 66 #[.pointer (some ⟨b, 0, none⟩), .pointer (some ⟨x1, 0, none⟩), .pointer (some ⟨x2, 0, none⟩)] w fun e w' => e = .returned (.tuple #[]) ∧ PO b (FinR b) pl [] (fun i => w.heap.size ≤ i) (fun i => i = b) w w' := by
  obtain ⟨U, hU⟩ : ∃ U, U = w.alloc (.cells #[.pointer (some ⟨b, 0, none⟩)] 99) := ⟨_, rfl⟩
  obtain ⟨i1, hi1⟩ : ∃ i1, i1 = w.heap.size := ⟨_, rfl⟩
  have hBU : Below w.heap.size w U := by rw [hU]; exact (Below.refl _ _).alloc (Nat.le_refl _) _
  have hJU := hJ.bel hBU
  have h6 : U.heap[i1]? = some (.cells #[.pointer (some ⟨b, 0, none⟩)] 99 (0, 0)) := by rw [hU, hi1]; exact heap_alloc_new w _
  have y6 := (cell1 h6).1
  have h1U := (hBU.block x1 (lt_of_block h1)).trans h1
  have y0 : U.cell? ⟨x1, 0, none⟩ = some (.int .i64 kk) := by simp [World.cell?, h1U]
  have y1 : U.cell? ⟨x1, 1, none⟩ = some (.int .i64 mm) := by simp [World.cell?, h1U]
  have y2 := (cell1 ((hBU.block x2 (lt_of_block h2)).trans h2)).1
  have hbl := hJ.lt
  have HN := hide (HX b i1 U (hLw.below hBU hLw.size) hJU (by omega) (lt_of_block h6) (kv_del h6 hJU.lt))
  have HU := hide hU
  have HI := hide hi1
  have HB := hide hBU
  have hmf : ∀ (fn : Fn) (first cap : Array Value) (w : World), (Instr.makeFunc fn first cap).run Tryz.prog w = .ok (.func fn first cap) w := fun _ _ _ _ => rfl
  clear HX hLw hJU h6 h1U hBU hU hi1 hJ hbl h1 h2
  go_enter Tryz.func66, Tryz.ntmps66
  go_upto_region 1 with fail
  rw [← HU.out, ← HI.out]
  go_wp2_with fail
  refine HN.out.mono ?_
  rintro e w7 ⟨rfl, hQ⟩
  have HQ : Hid (PO b (FinR b) pl [] (fun i => w.heap.size ≤ i) (fun i => i = b) w w7) := by
    have h3 := (hQ.bel HB.out).less (e := fun i => w.heap.size ≤ i) (fun i hi => .inr (by have := HI.out; omega))
    exact h3.more fun i hi => by
      rcases hi with h | h
      · exact h
      · exact h.elim
  clear hQ
  go_wp2
  go_end0
  exact ⟨rfl, HQ.out⟩
set_option maxRecDepth 100000 in
set_option maxHeartbeats 3200000 in
theorem odeljob (HX : OXDel kk mm nm pl) (hLw : Zq.Sh.Laid w) :
    Calls Tryz.prog 26 #[.agg #[.int .i64 kk, .int .i64 mm], .string nm] w fun e w' => MK FinR pl w w' e := by
  obtain ⟨U, hU⟩ : ∃ U, U = als w [.cells #[.int .i64 kk, .int .i64 mm] 27, .cells #[.string nm] 9] := ⟨_, rfl⟩
  obtain ⟨X, hX⟩ : ∃ X, X = w.heap.size := ⟨_, rfl⟩
  have hB : Below w.heap.size w U := by rw [hU]; exact als_bel _ _
  have h1 : U.heap[X]? = some (.cells #[.int .i64 kk, .int .i64 mm] 27 (0, 0)) := by rw [hU, hX]; exact als_at _ w 0 _ rfl
  have h2 : U.heap[X + 1]? = some (.cells #[.string nm] 9 (0, 0)) := by rw [hU, hX]; exact als_at _ w 1 _ rfl
  have HN : Hid (Calls Tryz.prog 44 #[.func (.func 66) #[] #[.pointer (some ⟨X, 0, none⟩), .pointer (some ⟨X + 1, 0, none⟩)]] U fun e w' => Hid (MK FinR pl w w' e)) := by
    refine (start_mk (Fin := FinR) (pl := pl) ent_del1 (hLw.below hB hLw.size) fun V hJ hBV hLV => ?_).mono fun e w' h => h.bel hB
    refine (odeljob1 HX hLV hJ ((hBV.block _ (lt_of_block h1)).trans h1) ((hBV.block _ (lt_of_block h2)).trans h2)).mono ?_
    rintro e w' ⟨rfl, hP⟩
    have := hBV.size
    exact ⟨rfl, hP.less fun i hi => .inl (by omega)⟩
  have HU : Hid (U = (w.alloc (.cells #[.int .i64 kk, .int .i64 mm] 27)).alloc (.cells #[.string nm] 9)) := hU
  have HX' := hide hX
  have hmf : ∀ (fn : Fn) (first cap : Array Value) (w : World), (Instr.makeFunc fn first cap).run Tryz.prog w = .ok (.func fn first cap) w := fun _ _ _ _ => rfl
  clear HX hLw hB hU hX h1 h2
  go_enter Tryz.func26, Tryz.ntmps26
  go_upto_region 1 with fail
  rw [← HU.out, ← HX'.out]
  go_wp2_with fail
  refine HN.out.mono ?_
  rintro e w7 hM
  obtain ⟨b, P, rfl, hM'⟩ := hM.out
  have HM : Hid (MK FinR pl w w7 (.returned (.pointer (some ⟨b, 0, none⟩)))) := hM.out
  clear hM hM'
  go_wp2
  go_ret
  exact HM.out
set_option maxRecDepth 100000 in
set_option maxHeartbeats 3200000 in
theorem olist_end (h6 : w.heap[i1]? = some (.cells #[.pointer (some ⟨b, 0, none⟩)] 99 (0, 0))) (hJ : JB w b true st k n d go c NN ids tx s) {cc : Int} {nv : Value} {ns : List ByteArray} (hnv : LS t1 1 r w nv ns) (hnl : ns.length ≤ 1000000000000) :
    Calls Tryz.prog 71 #[nv, .int .i64 cc, .pointer (some ⟨i1, 0, none⟩)] w fun e w' => e = .returned (.tuple #[]) ∧ ∃ ids tx, JB w' b false 0 0 ⟨#[]⟩ ⟨#[]⟩ .nilFunc cc 0 ids tx s ∧ TS w.heap.size ids ns w' ∧ TS w.heap.size tx [] w' ∧ Gs (fun i => i = b) w w' := by
  obtain ⟨y1, _⟩ := cell1 h6
  have HE : Hid (Calls Tryz.prog 62 #[.pointer (some ⟨b, 0, none⟩), .agg #[.int .i64 cc, .string ⟨#[]⟩, .int .i64 0, nv, .slice none 0 0, .slice none 0 0, .slice none 0 0]] w fun e w' => e = .returned (.tuple #[]) ∧ ∃ ids tx, JB w' b false 0 0 ⟨#[]⟩ ⟨#[]⟩ .nilFunc cc 0 ids tx s ∧ TS w.heap.size ids ns w' ∧ TS w.heap.size tx [] w' ∧ Gs (fun i => i = b) w w') := end_on hJ hnv (LS.nl _ w) hnl (by simp)
  obtain ⟨na, nc, rfl⟩ := hnv.shp
  clear h6 hJ hnv hnl
  go_enter Tryz.func71, Tryz.ntmps71
  go_wp2_with fail
  refine HE.out.mono ?_
  rintro e w1 ⟨rfl, hF⟩
  have HF := hide hF
  clear hF
  go_wp2
  go_end0
  exact ⟨rfl, HF.out⟩
def kList (x : List ByteArray × Int) : PN RS := .fin ⟨x.2, 0, x.1, []⟩
theorem kv_list (h6 : w.heap[i1]? = some (.cells #[.pointer (some ⟨b, 0, none⟩)] 99 (0, 0))) (hb : b < w.heap.size) : KV 71 #[] #[.pointer (some ⟨i1, 0, none⟩)] b (FinR b) vL kList (fun i => i = i1) (fun _ => False) w := by
  intro W x args A r hS hLw hJ hv hI hr
  obtain ⟨nv, rfl, hnv, hnl⟩ := hv
  show Calls Tryz.prog 71 #[nv, .int .i64 x.2, .pointer (some ⟨i1, 0, none⟩)] W _
  refine (olist_end ((hS.2 i1 rfl (lt_of_block h6)).trans h6) hJ hnv hnl).mono ?_
  rintro er w' ⟨rfl, ids, tx, hJ', h1, h2, hG⟩
  exact ⟨rfl, fin_rdy hJ' h1 h2 hG (Nat.lt_of_lt_of_le hb hS.1)⟩
theorem ent_list11 : Ent 71 := ent_of Tryz.func71 (by kernel_rfl) rfl
theorem ent_list1 : Ent 69 := ent_of Tryz.func69 (by kernel_rfl) rfl
def OXList (kk mm : Int) (nm : ByteArray) (pl : PN RS) : Prop := ∀ (b i1 : Nat) (W : World), Zq.Sh.Laid W → JB W b true 0 0 ⟨#[]⟩ ⟨#[]⟩ .nilFunc 0 0 (.slice none 0 0) (.slice none 0 0) 0 → b ≠ i1 → i1 < W.heap.size → KV 71 #[] #[.pointer (some ⟨i1, 0, none⟩)] b (FinR b) vL kList (fun i => i = i1) (fun _ => False) W → Calls Tryz.prog 70 #[.pointer (some ⟨b, 0, none⟩), .agg #[.int .i64 kk, .int .i64 mm], .string nm, .func (.func 71) #[] #[.pointer (some ⟨i1, 0, none⟩)]] W fun er w' => er = .returned (.tuple #[]) ∧ PO b (FinR b) pl [] (fun i => i = i1) (fun i => i = b ∨ False) W w'
set_option maxRecDepth 100000 in
set_option maxHeartbeats 3200000 in
theorem olistjob1 {x1 x2 : Nat} (HX : OXList kk mm nm pl) (hLw : Zq.Sh.Laid w) (hJ : JB w b true 0 0 ⟨#[]⟩ ⟨#[]⟩ .nilFunc 0 0 (.slice none 0 0) (.slice none 0 0) 0) (h1 : w.heap[x1]? = some (.cells #[.int .i64 kk, .int .i64 mm] 27 (0, 0))) (h2 : w.heap[x2]? = some (.cells #[.string nm] 9 (0, 0))) :
    Calls Tryz.prog 69 #[.pointer (some ⟨b, 0, none⟩), .pointer (some ⟨x1, 0, none⟩), .pointer (some ⟨x2, 0, none⟩)] w fun e w' => e = .returned (.tuple #[]) ∧ PO b (FinR b) pl [] (fun i => w.heap.size ≤ i) (fun i => i = b) w w' := by
  obtain ⟨U, hU⟩ : ∃ U, U = w.alloc (.cells #[.pointer (some ⟨b, 0, none⟩)] 99) := ⟨_, rfl⟩
  obtain ⟨i1, hi1⟩ : ∃ i1, i1 = w.heap.size := ⟨_, rfl⟩
  have hBU : Below w.heap.size w U := by rw [hU]; exact (Below.refl _ _).alloc (Nat.le_refl _) _
  have hJU := hJ.bel hBU
  have h6 : U.heap[i1]? = some (.cells #[.pointer (some ⟨b, 0, none⟩)] 99 (0, 0)) := by rw [hU, hi1]; exact heap_alloc_new w _
  have y6 := (cell1 h6).1
  have h1U := (hBU.block x1 (lt_of_block h1)).trans h1
  have y0 : U.cell? ⟨x1, 0, none⟩ = some (.int .i64 kk) := by simp [World.cell?, h1U]
  have y1 : U.cell? ⟨x1, 1, none⟩ = some (.int .i64 mm) := by simp [World.cell?, h1U]
  have y2 := (cell1 ((hBU.block x2 (lt_of_block h2)).trans h2)).1
  have hbl := hJ.lt
  have HN := hide (HX b i1 U (hLw.below hBU hLw.size) hJU (by omega) (lt_of_block h6) (kv_list h6 hJU.lt))
  have HU := hide hU
  have HI := hide hi1
  have HB := hide hBU
  have hmf : ∀ (fn : Fn) (first cap : Array Value) (w : World), (Instr.makeFunc fn first cap).run Tryz.prog w = .ok (.func fn first cap) w := fun _ _ _ _ => rfl
  clear HX hLw hJU h6 h1U hBU hU hi1 hJ hbl h1 h2
  go_enter Tryz.func69, Tryz.ntmps69
  go_upto_region 1 with fail
  rw [← HU.out, ← HI.out]
  go_wp2_with fail
  refine HN.out.mono ?_
  rintro e w7 ⟨rfl, hQ⟩
  have HQ : Hid (PO b (FinR b) pl [] (fun i => w.heap.size ≤ i) (fun i => i = b) w w7) := by
    have h3 := (hQ.bel HB.out).less (e := fun i => w.heap.size ≤ i) (fun i hi => .inr (by have := HI.out; omega))
    exact h3.more fun i hi => by
      rcases hi with h | h
      · exact h
      · exact h.elim
  clear hQ
  go_wp2
  go_end0
  exact ⟨rfl, HQ.out⟩
set_option maxRecDepth 100000 in
set_option maxHeartbeats 3200000 in
theorem olistjob (HX : OXList kk mm nm pl) (hLw : Zq.Sh.Laid w) :
    Calls Tryz.prog 27 #[.agg #[.int .i64 kk, .int .i64 mm], .string nm] w fun e w' => MK FinR pl w w' e := by
  obtain ⟨U, hU⟩ : ∃ U, U = als w [.cells #[.int .i64 kk, .int .i64 mm] 27, .cells #[.string nm] 9] := ⟨_, rfl⟩
  obtain ⟨X, hX⟩ : ∃ X, X = w.heap.size := ⟨_, rfl⟩
  have hB : Below w.heap.size w U := by rw [hU]; exact als_bel _ _
  have h1 : U.heap[X]? = some (.cells #[.int .i64 kk, .int .i64 mm] 27 (0, 0)) := by rw [hU, hX]; exact als_at _ w 0 _ rfl
  have h2 : U.heap[X + 1]? = some (.cells #[.string nm] 9 (0, 0)) := by rw [hU, hX]; exact als_at _ w 1 _ rfl
  have HN : Hid (Calls Tryz.prog 44 #[.func (.func 69) #[] #[.pointer (some ⟨X, 0, none⟩), .pointer (some ⟨X + 1, 0, none⟩)]] U fun e w' => Hid (MK FinR pl w w' e)) := by
    refine (start_mk (Fin := FinR) (pl := pl) ent_list1 (hLw.below hB hLw.size) fun V hJ hBV hLV => ?_).mono fun e w' h => h.bel hB
    refine (olistjob1 HX hLV hJ ((hBV.block _ (lt_of_block h1)).trans h1) ((hBV.block _ (lt_of_block h2)).trans h2)).mono ?_
    rintro e w' ⟨rfl, hP⟩
    have := hBV.size
    exact ⟨rfl, hP.less fun i hi => .inl (by omega)⟩
  have HU : Hid (U = (w.alloc (.cells #[.int .i64 kk, .int .i64 mm] 27)).alloc (.cells #[.string nm] 9)) := hU
  have HX' := hide hX
  have hmf : ∀ (fn : Fn) (first cap : Array Value) (w : World), (Instr.makeFunc fn first cap).run Tryz.prog w = .ok (.func fn first cap) w := fun _ _ _ _ => rfl
  clear HX hLw hB hU hX h1 h2
  go_enter Tryz.func27, Tryz.ntmps27
  go_upto_region 1 with fail
  rw [← HU.out, ← HX'.out]
  go_wp2_with fail
  refine HN.out.mono ?_
  rintro e w7 hM
  obtain ⟨b, P, rfl, hM'⟩ := hM.out
  have HM : Hid (MK FinR pl w w7 (.returned (.pointer (some ⟨b, 0, none⟩)))) := hM.out
  clear hM hM'
  go_wp2
  go_ret
  exact HM.out
set_option maxRecDepth 100000 in
set_option maxHeartbeats 3200000 in
theorem oscrub_end (h6 : w.heap[i1]? = some (.cells #[.pointer (some ⟨b, 0, none⟩)] 99 (0, 0))) (hJ : JB w b true st k n d go c NN ids tx s) {cc nn : Int} :
    Calls Tryz.prog 74 #[.int .i64 nn, .int .i64 cc, .pointer (some ⟨i1, 0, none⟩)] w fun e w' => e = .returned (.tuple #[]) ∧ ∃ ids tx, JB w' b false 0 0 ⟨#[]⟩ ⟨#[]⟩ .nilFunc cc nn ids tx s ∧ TS w.heap.size ids [] w' ∧ TS w.heap.size tx [] w' ∧ Gs (fun i => i = b) w w' := by
  obtain ⟨y1, _⟩ := cell1 h6
  have HE : Hid (Calls Tryz.prog 62 #[.pointer (some ⟨b, 0, none⟩), .agg #[.int .i64 cc, .string ⟨#[]⟩, .int .i64 nn, .slice none 0 0, .slice none 0 0, .slice none 0 0, .slice none 0 0]] w fun e w' => e = .returned (.tuple #[]) ∧ ∃ ids tx, JB w' b false 0 0 ⟨#[]⟩ ⟨#[]⟩ .nilFunc cc nn ids tx s ∧ TS w.heap.size ids [] w' ∧ TS w.heap.size tx [] w' ∧ Gs (fun i => i = b) w w') := end_on hJ (LS.nl (f := t1) (fun _ => True) w) (LS.nl _ w) (by simp) (by simp)
  clear h6 hJ
  go_enter Tryz.func74, Tryz.ntmps74
  go_wp2_with fail
  refine HE.out.mono ?_
  rintro e w1 ⟨rfl, hF⟩
  have HF := hide hF
  clear hF
  go_wp2
  go_end0
  exact ⟨rfl, HF.out⟩
def kScrub (x : Int × Int) : PN RS := .fin ⟨x.2, x.1, [], []⟩
theorem kv_scrub (h6 : w.heap[i1]? = some (.cells #[.pointer (some ⟨b, 0, none⟩)] 99 (0, 0))) (hb : b < w.heap.size) : KV 74 #[] #[.pointer (some ⟨i1, 0, none⟩)] b (FinR b) vP kScrub (fun i => i = i1) (fun _ => False) w := by
  intro W x args A r hS hLw hJ hv hI hr
  subst hv
  show Calls Tryz.prog 74 #[.int .i64 x.1, .int .i64 x.2, .pointer (some ⟨i1, 0, none⟩)] W _
  refine (oscrub_end ((hS.2 i1 rfl (lt_of_block h6)).trans h6) hJ).mono ?_
  rintro er w' ⟨rfl, ids, tx, hJ', h1, h2, hG⟩
  exact ⟨rfl, fin_rdy hJ' h1 h2 hG (Nat.lt_of_lt_of_le hb hS.1)⟩
theorem ent_scrub11 : Ent 74 := ent_of Tryz.func74 (by kernel_rfl) rfl
theorem ent_scrub1 : Ent 72 := ent_of Tryz.func72 (by kernel_rfl) rfl
def OXScrub (kk mm : Int) (nm dt : ByteArray) (pl : PN RS) : Prop := ∀ (b i1 : Nat) (W : World), Zq.Sh.Laid W → JB W b true 0 0 ⟨#[]⟩ ⟨#[]⟩ .nilFunc 0 0 (.slice none 0 0) (.slice none 0 0) 0 → b ≠ i1 → i1 < W.heap.size → KV 74 #[] #[.pointer (some ⟨i1, 0, none⟩)] b (FinR b) vP kScrub (fun i => i = i1) (fun _ => False) W → Calls Tryz.prog 73 #[.pointer (some ⟨b, 0, none⟩), .agg #[.int .i64 kk, .int .i64 mm], .string nm, .string dt, .func (.func 74) #[] #[.pointer (some ⟨i1, 0, none⟩)]] W fun er w' => er = .returned (.tuple #[]) ∧ PO b (FinR b) pl [] (fun i => i = i1) (fun i => i = b ∨ False) W w'
set_option maxRecDepth 100000 in
set_option maxHeartbeats 3200000 in
theorem oscrubjob1 {x1 x2 x3 : Nat} (HX : OXScrub kk mm nm dt pl) (hLw : Zq.Sh.Laid w) (hJ : JB w b true 0 0 ⟨#[]⟩ ⟨#[]⟩ .nilFunc 0 0 (.slice none 0 0) (.slice none 0 0) 0) (h1 : w.heap[x1]? = some (.cells #[.int .i64 kk, .int .i64 mm] 27 (0, 0))) (h2 : w.heap[x2]? = some (.cells #[.string nm] 9 (0, 0))) (h3 : w.heap[x3]? = some (.cells #[.string dt] 9 (0, 0))) :
    Calls Tryz.prog 72 #[.pointer (some ⟨b, 0, none⟩), .pointer (some ⟨x1, 0, none⟩), .pointer (some ⟨x2, 0, none⟩), .pointer (some ⟨x3, 0, none⟩)] w fun e w' => e = .returned (.tuple #[]) ∧ PO b (FinR b) pl [] (fun i => w.heap.size ≤ i) (fun i => i = b) w w' := by
  obtain ⟨U, hU⟩ : ∃ U, U = w.alloc (.cells #[.pointer (some ⟨b, 0, none⟩)] 99) := ⟨_, rfl⟩
  obtain ⟨i1, hi1⟩ : ∃ i1, i1 = w.heap.size := ⟨_, rfl⟩
  have hBU : Below w.heap.size w U := by rw [hU]; exact (Below.refl _ _).alloc (Nat.le_refl _) _
  have hJU := hJ.bel hBU
  have h6 : U.heap[i1]? = some (.cells #[.pointer (some ⟨b, 0, none⟩)] 99 (0, 0)) := by rw [hU, hi1]; exact heap_alloc_new w _
  have y6 := (cell1 h6).1
  have h1U := (hBU.block x1 (lt_of_block h1)).trans h1
  have y0 : U.cell? ⟨x1, 0, none⟩ = some (.int .i64 kk) := by simp [World.cell?, h1U]
  have y1 : U.cell? ⟨x1, 1, none⟩ = some (.int .i64 mm) := by simp [World.cell?, h1U]
  have y2 := (cell1 ((hBU.block x2 (lt_of_block h2)).trans h2)).1
  have y3 := (cell1 ((hBU.block x3 (lt_of_block h3)).trans h3)).1
  have hbl := hJ.lt
  have HN := hide (HX b i1 U (hLw.below hBU hLw.size) hJU (by omega) (lt_of_block h6) (kv_scrub h6 hJU.lt))
  have HU := hide hU
  have HI := hide hi1
  have HB := hide hBU
  have hmf : ∀ (fn : Fn) (first cap : Array Value) (w : World), (Instr.makeFunc fn first cap).run Tryz.prog w = .ok (.func fn first cap) w := fun _ _ _ _ => rfl
  clear HX hLw hJU h6 h1U hBU hU hi1 hJ hbl h1 h2 h3
  go_enter Tryz.func72, Tryz.ntmps72
  go_upto_region 1 with fail
  rw [← HU.out, ← HI.out]
  go_wp2_with fail
  refine HN.out.mono ?_
  rintro e w7 ⟨rfl, hQ⟩
  have HQ : Hid (PO b (FinR b) pl [] (fun i => w.heap.size ≤ i) (fun i => i = b) w w7) := by
    have h3 := (hQ.bel HB.out).less (e := fun i => w.heap.size ≤ i) (fun i hi => .inr (by have := HI.out; omega))
    exact h3.more fun i hi => by
      rcases hi with h | h
      · exact h
      · exact h.elim
  clear hQ
  go_wp2
  go_end0
  exact ⟨rfl, HQ.out⟩
set_option maxRecDepth 100000 in
set_option maxHeartbeats 3200000 in
theorem oscrubjob (HX : OXScrub kk mm nm dt pl) (hLw : Zq.Sh.Laid w) :
    Calls Tryz.prog 28 #[.agg #[.int .i64 kk, .int .i64 mm], .string nm, .string dt] w fun e w' => MK FinR pl w w' e := by
  obtain ⟨U, hU⟩ : ∃ U, U = als w [.cells #[.int .i64 kk, .int .i64 mm] 27, .cells #[.string nm] 9, .cells #[.string dt] 9] := ⟨_, rfl⟩
  obtain ⟨X, hX⟩ : ∃ X, X = w.heap.size := ⟨_, rfl⟩
  have hB : Below w.heap.size w U := by rw [hU]; exact als_bel _ _
  have h1 : U.heap[X]? = some (.cells #[.int .i64 kk, .int .i64 mm] 27 (0, 0)) := by rw [hU, hX]; exact als_at _ w 0 _ rfl
  have h2 : U.heap[X + 1]? = some (.cells #[.string nm] 9 (0, 0)) := by rw [hU, hX]; exact als_at _ w 1 _ rfl
  have h3 : U.heap[X + 2]? = some (.cells #[.string dt] 9 (0, 0)) := by rw [hU, hX]; exact als_at _ w 2 _ rfl
  have HN : Hid (Calls Tryz.prog 44 #[.func (.func 72) #[] #[.pointer (some ⟨X, 0, none⟩), .pointer (some ⟨X + 1, 0, none⟩), .pointer (some ⟨X + 2, 0, none⟩)]] U fun e w' => Hid (MK FinR pl w w' e)) := by
    refine (start_mk (Fin := FinR) (pl := pl) ent_scrub1 (hLw.below hB hLw.size) fun V hJ hBV hLV => ?_).mono fun e w' h => h.bel hB
    refine (oscrubjob1 HX hLV hJ ((hBV.block _ (lt_of_block h1)).trans h1) ((hBV.block _ (lt_of_block h2)).trans h2) ((hBV.block _ (lt_of_block h3)).trans h3)).mono ?_
    rintro e w' ⟨rfl, hP⟩
    have := hBV.size
    exact ⟨rfl, hP.less fun i hi => .inl (by omega)⟩
  have HU : Hid (U = ((w.alloc (.cells #[.int .i64 kk, .int .i64 mm] 27)).alloc (.cells #[.string nm] 9)).alloc (.cells #[.string dt] 9)) := hU
  have HX' := hide hX
  have hmf : ∀ (fn : Fn) (first cap : Array Value) (w : World), (Instr.makeFunc fn first cap).run Tryz.prog w = .ok (.func fn first cap) w := fun _ _ _ _ => rfl
  clear HX hLw hB hU hX h1 h2 h3
  go_enter Tryz.func28, Tryz.ntmps28
  go_upto_region 1 with fail
  rw [← HU.out, ← HX'.out]
  go_wp2_with fail
  refine HN.out.mono ?_
  rintro e w7 hM
  obtain ⟨b, P, rfl, hM'⟩ := hM.out
  have HM : Hid (MK FinR pl w w7 (.returned (.pointer (some ⟨b, 0, none⟩)))) := hM.out
  clear hM hM'
  go_wp2
  go_ret
  exact HM.out
end
end Go.Proofs.YtagijldedngcoaaGreatDoor
