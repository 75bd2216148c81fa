/-
  Contracts of the program and of the statements (part 27 of 28).
-/
import Derived.Test.YtagijldedngcoaaGreatDoorOl26
set_option maxRecDepth 100000
set_option maxHeartbeats 6400000

namespace Go.Proofs.YtagijldedngcoaaGreatDoor
open Go.RowKit Go.Lib Go.Maps
theorem works10 {w : World} (hLw : Zq.Sh.Laid w) : Calls Tryz.prog 12 #[] w fun e w' => e = .returned (.bool true)∧Below w.heap.size w w':=by
 obtain ⟨U,hU⟩ : ∃ U,U = w.alloc (.cells #[.int .i64 2,.int .i64 1] 27):=⟨_,rfl⟩
 obtain ⟨X,hX⟩ : ∃ X,X = w.heap.size:=⟨_,rfl⟩
 have hB : Below w.heap.size w U:=by rw [hU]; exact (Below.refl _ _).alloc (Nat.le_refl _) _
 have hk : U.heap[X]? = some (.cells #[.int .i64 2,.int .i64 1] 27 (0,0)):=by rw [hU,hX]; exact heap_alloc_new w _
 have hUs : U.heap.size = X + 1:=by rw [hU,hX]; simp
 have y0 : U.cell? ⟨X,0,none⟩ = some (.int .i64 2):=by simp [World.cell?,hk]
 have y1 : U.cell? ⟨X,1,none⟩ = some (.int .i64 1):=by simp [World.cell?,hk]
 have HY : Hid (Calls Tryz.prog 32 #[.agg #[.int .i64 2,.int .i64 1],.int .i64 1000] U fun e w1 => ∃ a c g o,e = .returned (.slice (some ⟨g,o,none⟩) 3 c)∧a = some g∧Hid (∃ bs,W1 w w1 X (.slice (some ⟨g,o,none⟩) 3 c) bs)):=by
  have hy : Calls Tryz.prog 32 #[.agg #[.int .i64 2,.int .i64 1],.int .i64 1000] U fun e w' => ∃ a c bs,e = .returned (.slice a 3 c)∧YB 1000 U w' (.slice a 3 c) bs∧bs.length = 3:=yard_any 2 1 1000 (by decide) (by decide) (by decide) U
  refine hy.mono ?_
  rintro e w1 ⟨a,c,bs,rfl,hY,hbl⟩
  have hyp:=hY.yp
  rw [hbl] at hyp
  obtain ⟨a',c',e0,h0 | ⟨g0,o0,ea,_⟩⟩:=hyp.rp
  ·have:=congrArg List.length h0
   simp [hbl] at this
  obtain ⟨rfl,-,rfl⟩ : a = a'∧_∧c = c':=by simpa using e0
  subst ea
  have hs:=hY.be.size
  have hbe : Below w.heap.size w w1:=hB.trans (hY.be.mono hB.size)
  refine ⟨some g0,c,g0,o0,rfl,rfl,bs,?_,(hY.be.block X (by omega)).trans hk,hbe,hLw.below hbe hLw.size,by omega,hLw.size⟩
  rw [← sts_new]
  exact hyp.mono fun i hi => ⟨by omega,hi.2⟩
 have HU:=hide hU
 have HX:=hide hX
 clear hB hk hUs hU hX hLw
 go_enter Tryz.func12,Tryz.ntmps12
 go_upto_region 2 with fail
 rw [← HU.out,← HX.out]
 go_wp2_with fail
 refine HY.out.mono ?_
 rintro e w1 ⟨_,c,g,o,rfl,_,hW1⟩
 have k1:=sl_eq Tryz.underlying28
 obtain ⟨bs,h1⟩:=hW1.out
 have z0 : w1.cell? ⟨X,0,none⟩ = some (.int .i64 2):=by simp [World.cell?,h1.kt]
 have z1 : w1.cell? ⟨X,1,none⟩ = some (.int .i64 1):=by simp [World.cell?,h1.kt]
 have HP:=hide (work_put h1)
 have H1:=hide h1
 clear h1 hW1
 go_upto_region 5 with fail
 go_wp2_with fail
 refine HP.out.mono ?_
 rintro e w3 ⟨b,rfl,hM⟩
 have HR:=hide (work_run1 H1.out hM)
 clear hM
 go_wp2_with fail
 refine HR.out.mono ?_
 rintro e w4 ⟨ai,ci,at_,ct,rfl,h4⟩
 obtain ⟨W5,hW5⟩ : ∃ W5,W5 = w4.alloc (.cells #[.int .i64 0,.string ⟨#[]⟩,.int .i64 0,.slice ai 0 ci,.slice at_ 0 ct,.slice none 0 0,.slice none 0 0] 63):=⟨_,rfl⟩
 have hB5 : Below w4.heap.size w4 W5:=by rw [hW5]; exact (Below.refl _ _).alloc (Nat.le_refl _) _
 obtain ⟨g',o',c',e1,hsv,hcl,hwi⟩:=work_wipe (h4.out.bel hB5)
 injection hsv with q1 _ q3
 injection q1 with q1
 injection q1 with q1 q2 _
 subst q1 q2 q3
 have HW:=hide hwi
 have HW5:=hide hW5
 clear hB5 hW5 hwi h4
 go_upto_region 7 with fail
 rw [← HW5.out]
 go_wp2_with fail
 refine HW.out.mono ?_
 rintro e w6 ⟨rfl,h6⟩
 have z0' : w6.cell? ⟨X,0,none⟩ = some (.int .i64 2):=by simp [World.cell?,h6.out.kt]
 have z1' : w6.cell? ⟨X,1,none⟩ = some (.int .i64 1):=by simp [World.cell?,h6.out.kt]
 have HG1 : Hid (∀ (W7 : World) (z : Option Nat),Hid (BW w6 W7 z)→Calls Tryz.prog 25 #[.agg #[.int .i64 2,.int .i64 1],.string ⟨#[97]⟩,.string wD] W7 fun e w' => ∃ b2,e = .returned (.pointer (some ⟨b2,0,none⟩))∧Hid (JW w6 w' b2 (getP 2 1 wA wD kGet) z)∧KC2 X w'):=fun W7 z hz => w_job h6.out hz.out
 have HG2 : Hid (∀ (W8 : World) (b2 : Nat) (z : Option Nat),Hid (JW w6 W8 b2 (getP 2 1 wA wD kGet) z)→Calls Tryz.prog 33 #[.pointer (some ⟨b2,0,none⟩),.slice (some ⟨g,o,none⟩) 3 c] W8 fun e w9 => ∃ ai ci at_ ct,e = .returned (.tuple #[.agg #[.int .i64 0,.string ⟨#[]⟩,.int .i64 0,.slice ai 0 ci,.slice at_ 1 ct,.slice none 0 0,.slice none 0 0],.bool true])∧Hid (RW w6 w9 b2 ⟨0,0,[],[wT]⟩ 3 (fun i => X < i∧i < b) (.slice (some ⟨g,o,none⟩) 3 c) (sts 1000 3 wA wO) bs (.slice ai 0 ci) (.slice at_ 1 ct) z)∧KC2 X w9):=fun W8 b2 z hz => w_run h6.out hz.out
 have HS0 : Hid (∀ (B : Nat) (W7 : World) (z : Option Nat),BW w6 W7 z→B < W7.heap.size→W7.cell? ⟨B,0,none⟩ = some (.string ⟨#[97,98,99]⟩)→Calls Tryz.prog 37 #[.slice (some ⟨B,0,none⟩) 1 1] W7 fun e w7 => e = .returned (.string wD)∧Hid (BW w6 w7 z)∧KC2 X w7):=fun B W7 z hz hB hc => w_sum h6.out hz hB hc
 have HG3 : Hid (∀ (W : World) (b2 : Nat) (ai at_ : Option Addr) (ci ct q : Nat),Hid (RW w6 W b2 ⟨0,0,[],[wT]⟩ 3 (fun i => X < i∧i < b) (.slice (some ⟨g,o,none⟩) 3 c) (sts 1000 3 wA wO) bs (.slice ai 0 ci) (.slice at_ 1 ct) (some q))→∃ V,(Instr.storeAt 63 (.pointer (some ⟨q,0,none⟩)) (.agg #[.int .i64 0,.string ⟨#[]⟩,.int .i64 0,.slice ai 0 ci,.slice at_ 1 ct,.slice none 0 0,.slice none 0 0])).run Tryz.prog W = .ok () V∧Hid (RV w6 V b2 ⟨0,0,[],[wT]⟩ 3 (fun i => X < i∧i < b) (.slice (some ⟨g,o,none⟩) 3 c) (sts 1000 3 wA wO) bs (.slice ai 0 ci) (.slice at_ 1 ct) q)∧KC2 X V):=fun W b2 ai at_ ci ct q hR => w_store h6.out hR.out
 have HE6 : Hid (W6 w w6 X b (.slice (some ⟨g,o,none⟩) 3 c) bs):=h6
 have hXl : X < w6.heap.size:=lt_of_block h6.out.kt
 have hX2 : KC2 X w6:=h6.out.kc (Below.refl _ _)
 have bt : BW w6 (w6.alloc (.cells #[.string ⟨#[97,98,99]⟩] 9)) none:=(BW.start w6).bel ((Below.refl _ _).alloc (Nat.le_refl _) _)
 have bz : BW w6 (w6.alloc zR7) (some w6.heap.size):=(BW.start w6).al
 have HT1 : Hid (Calls Tryz.prog 37 #[.slice (some ⟨w6.heap.size,0,none⟩) 1 1] (w6.alloc (.cells #[.string ⟨#[97,98,99]⟩] 9)).drew fun e w7 => e = .returned (.string wD)∧Hid (BW w6 w7 none)∧KC2 X w7):=by
  have h9 : (w6.alloc (.cells #[.string ⟨#[97,98,99]⟩] 9)).drew.heap[w6.heap.size]? = some (.cells #[.string ⟨#[97,98,99]⟩] 9 (0,0)):=heap_alloc_new w6 _
  exact HS0.out _ _ _ bt.drew (lt_of_block h9) (cell1 h9).1
 have HT3 : Hid (Calls Tryz.prog 37 #[.slice (some ⟨w6.heap.size,0,none⟩) 1 1] ((w6.alloc (.cells #[.string ⟨#[97,98,99]⟩] 9)).alloc zR7).drew fun e w7 => e = .returned (.string wD)∧Hid (BW w6 w7 (some (w6.heap.size + 1)))∧KC2 X w7):=by
  have h8 : (w6.alloc (.cells #[.string ⟨#[97,98,99]⟩] 9)).heap[w6.heap.size]? = some (.cells #[.string ⟨#[97,98,99]⟩] 9 (0,0)):=heap_alloc_new w6 _
  have hb9 : Below (w6.alloc (.cells #[.string ⟨#[97,98,99]⟩] 9)).heap.size (w6.alloc (.cells #[.string ⟨#[97,98,99]⟩] 9)) ((w6.alloc (.cells #[.string ⟨#[97,98,99]⟩] 9)).alloc zR7):=(Below.refl _ _).alloc (Nat.le_refl _) _
  have h9 : ((w6.alloc (.cells #[.string ⟨#[97,98,99]⟩] 9)).alloc zR7).drew.heap[w6.heap.size]? = some (.cells #[.string ⟨#[97,98,99]⟩] 9 (0,0)):=(hb9.block _ (lt_of_block h8)).trans h8
  have hz:=bt.al
  have e : (w6.alloc (.cells #[.string ⟨#[97,98,99]⟩] 9)).heap.size = w6.heap.size + 1:=by simp
  rw [e] at hz
  exact HS0.out _ _ _ hz.drew (lt_of_block h9) (cell1 h9).1
 have HT2 : Hid (Calls Tryz.prog 37 #[.slice (some ⟨w6.heap.size + 1,0,none⟩) 1 1] ((w6.alloc zR7).alloc (.cells #[.string ⟨#[97,98,99]⟩] 9)).drew fun e w7 => e = .returned (.string wD)∧Hid (BW w6 w7 (some w6.heap.size))∧KC2 X w7):=by
  have e : (w6.alloc zR7).heap.size = w6.heap.size + 1:=by simp
  have h9 : ((w6.alloc zR7).alloc (.cells #[.string ⟨#[97,98,99]⟩] 9)).drew.heap[w6.heap.size + 1]? = some (.cells #[.string ⟨#[97,98,99]⟩] 9 (0,0)):=by
   rw [← e]
   exact heap_alloc_new (w6.alloc zR7) _
  exact HS0.out _ _ _ (bz.bel ((Below.refl _ _).alloc (Nat.le_refl _) _)).drew (lt_of_block h9) (cell1 h9).1
 clear z0 z1 y0 y1 HP H1 HR HW HW5 hcl HY HU HX h6 HS0 bt bz
 obtain ⟨hx0,hx1⟩:=hX2
 have HAL : Hid (∀ W,Below w6.heap.size w6 W→KC2 X (W.alloc zR7)):=fun W hb => HE6.out.kc (hb.alloc hb.size _)
 have HAM : Hid (∀ W,Gs (Qs bs) w6 W→KC2 X (W.alloc zR7)):=fun W hg => by
  have hbz : Below W.heap.size W (W.alloc zR7):=(Below.refl _ _).alloc (Nat.le_refl _) _
  have h0:=HE6.out
  exact KC2.of (((hg.bel hbz).block X (lt_of_block h0.kt) (fun hi => by have:=h0.yp.qs hi; omega)).trans h0.kt)
 have bb0:=Below.refl w6.heap.size w6
 have HA_t : Hid (KC2 X (w6.alloc (.cells #[.string ⟨#[97,98,99]⟩] 9)).drew):=(HE6.out.kc (bb0.alloc (Nat.le_refl _) _) : KC2 X (w6.alloc (.cells #[.string ⟨#[97,98,99]⟩] 9)))
 have HA_z : Hid (KC2 X (w6.alloc zR7).drew):=(HE6.out.kc (bb0.alloc (Nat.le_refl _) _) : KC2 X (w6.alloc zR7))
 have HA_tz : Hid (KC2 X ((w6.alloc (.cells #[.string ⟨#[97,98,99]⟩] 9)).alloc zR7).drew):=(HE6.out.kc ((bb0.alloc (Nat.le_refl _) _).alloc (by simp) _) : KC2 X ((w6.alloc (.cells #[.string ⟨#[97,98,99]⟩] 9)).alloc zR7))
 have HA_zt : Hid (KC2 X ((w6.alloc zR7).alloc (.cells #[.string ⟨#[97,98,99]⟩] 9)).drew):=(HE6.out.kc ((bb0.alloc (Nat.le_refl _) _).alloc (by simp) _) : KC2 X ((w6.alloc zR7).alloc (.cells #[.string ⟨#[97,98,99]⟩] 9)))
 clear bb0
 have hHeld0 : KC2 X w6.drew:=⟨hx0,hx1⟩
 go_upto_region 8 with fail
 refine AnyZ.start (S:=fun w' => w'.cell? ⟨X,0,none⟩ = some (.int .i64 2)∧w'.cell? ⟨X,1,none⟩ = some (.int .i64 1)) (z:=99) (by kernel_rfl) ?_
 refine AnyZ.take (i:=0) (d:=26) (v:=.agg #[.int .i64 2,.int .i64 1]) rfl rfl (by kernel_rfl) (fun _ _ _ h => h) (Or.inl ⟨by rfl,fun w' hSw => ?_⟩) hHeld0 ?_
 ·obtain ⟨_,_⟩:=hSw
  go_simp
 try simp only [List.setIfInBounds_toArray,List.set_cons_zero,List.set_cons_succ]
 refine AnyZ.take (i:=4) (d:=30) (v:=.slice (some ⟨g,o,none⟩) 3 c) rfl rfl (by kernel_rfl) (fun _ _ _ h => h) (Or.inl ⟨by rfl,fun w' hSw => ?_⟩) hHeld0 ?_
 ·obtain ⟨_,_⟩:=hSw
  go_simp
 try simp only [List.setIfInBounds_toArray,List.set_cons_zero,List.set_cons_succ]
 refine AnyZ.two (i:=1) (j:=9) (by kernel_rfl) rfl rfl (fun K hK => ?_) (fun K hK => ?_)
 ·go_simp
  refine hK.out _ _ (fun _ => HA_t.out) (fun _ => ?_)
  clear hK K
  try simp only [Act.put,List.setIfInBounds_toArray,List.set_cons_zero,List.set_cons_succ]
  refine AnyZ.two (i:=2) (j:=9) (by kernel_rfl) rfl rfl (fun K hK => ?_) (fun K hK => ?_)
  ·go_simp
   refine HT1.out.mono ?_
   rintro e w7 ⟨rfl,h7,hk7⟩
   refine hK.out _ _ (fun _ => hk7) (fun _ => ?_)
   clear hK K
   try simp only [Act.put,List.setIfInBounds_toArray,List.set_cons_zero,List.set_cons_succ]
   refine AnyZ.two (i:=3) (j:=9) (by kernel_rfl) rfl rfl (fun K hK => ?_) (fun K hK => ?_)
   ·go_simp
    refine (HG1.out _ _ h7).mono ?_
    rintro e w8 ⟨b2,rfl,h8,hk8⟩
    refine hK.out _ _ (fun _ => hk8) (fun _ => ?_)
    clear hK K
    try simp only [Act.put,List.setIfInBounds_toArray,List.set_cons_zero,List.set_cons_succ]
    refine AnyZ.two (i:=5) (j:=9) (by kernel_rfl) rfl rfl (fun K hK => ?_) (fun K hK => ?_)
    ·go_simp
     refine (HG2.out _ _ _ h8).mono ?_
     rintro e w9 ⟨ai,ci,at_,ct,rfl,h9,hk9⟩
     refine hK.out _ _ (fun _ => hk9) (fun _ => ?_)
     clear hK K
     try simp only [Act.put,List.setIfInBounds_toArray,List.set_cons_zero,List.set_cons_succ]
     have hHeld9 : KC2 X _:=hk9
     refine AnyZ.take (i:=6) (d:=25) (v:=.tuple #[.agg #[.int .i64 0,.string ⟨#[]⟩,.int .i64 0,.slice ai 0 ci,.slice at_ 1 ct,.slice none 0 0,.slice none 0 0],.bool true]) rfl rfl (by kernel_rfl) (fun _ _ _ h => h) (Or.inl ⟨by rfl,fun w' hSw => ?_⟩) hHeld9 ?_
     ·obtain ⟨_,_⟩:=hSw
      go_simp
     try simp only [List.setIfInBounds_toArray,List.set_cons_zero,List.set_cons_succ]
     refine AnyZ.take (i:=7) (d:=32) (v:=.agg #[.int .i64 0,.string ⟨#[]⟩,.int .i64 0,.slice ai 0 ci,.slice at_ 1 ct,.slice none 0 0,.slice none 0 0]) rfl rfl (by kernel_rfl) (fun _ _ _ h => h) (Or.inl ⟨by rfl,fun w' hSw => ?_⟩) hHeld9 ?_
     ·obtain ⟨_,_⟩:=hSw
      go_simp
     try simp only [List.setIfInBounds_toArray,List.set_cons_zero,List.set_cons_succ]
     refine AnyZ.take (i:=8) (d:=33) (v:=.bool true) rfl rfl (by kernel_rfl) (fun _ _ _ h => h) (Or.inl ⟨by rfl,fun w' hSw => ?_⟩) hHeld9 ?_
     ·obtain ⟨_,_⟩:=hSw
      go_simp
     try simp only [List.setIfInBounds_toArray,List.set_cons_zero,List.set_cons_succ]
     refine AnyZ.one (i:=9) (by kernel_rfl) rfl fun K hK => ?_
     go_simp
     refine hK.out _ _ (fun _ => (HAM.out _ h9.out.gs)) (fun _ => ?_)
     clear hK K
     try simp only [Act.put,List.setIfInBounds_toArray,List.set_cons_zero,List.set_cons_succ]
     have hHeld:=hk9
     obtain ⟨V,hV,HV,hkV⟩:=HG3.out _ _ _ _ _ _ _ (hide h9.out.al)
     refine AnyZ.one (i:=10) (by kernel_rfl) rfl fun K hK => ?_
     refine step_store_run rfl 63 _ _ rfl _ _ rfl rfl V hV ?_
     refine hK.out _ _ (fun _ => hkV) (fun _ => ?_)
     clear hK K
     try simp only [Act.put]
     refine AnyZ.take (i:=11) (d:=7) (v:=.bool true) rfl rfl (by kernel_rfl) (fun _ _ _ h => h) (Or.inl ⟨by rfl,fun w' hSw => ?_⟩) hkV ?_
     ·obtain ⟨_,_⟩:=hSw
      go_simp
     try simp only [List.setIfInBounds_toArray]
     refine AnyZ.done (by kernel_rfl) ?_ _
     obtain ⟨gt,ot,rfl,r0,r4,r5,HSt,HB⟩:=w_end HE6.out HV.out
     clear HG1 HG2 HG3 HT1 HT2 HT3 HA_t HA_z HA_tz HA_zt HAL HAM hV HV h9 h8 h7 hHeld
     go_wp2_with fail
     refine HSt.out.mono ?_
     rintro e w' ⟨rfl,rfl⟩
     go_wp2
     go_ret
     exact ⟨rfl,HB.out⟩
    ·go_simp
     refine hK.out _ _ (fun _ => (HAL.out _ h8.out.be)) (fun _ => ?_)
     clear hK K
     try simp only [Act.put,List.setIfInBounds_toArray,List.set_cons_zero,List.set_cons_succ]
     refine AnyZ.one (i:=5) (by kernel_rfl) rfl fun K hK => ?_
     go_simp
     refine (HG2.out _ _ _ (hide h8.out.al)).mono ?_
     rintro e w9 ⟨ai,ci,at_,ct,rfl,h9,hk9⟩
     refine hK.out _ _ (fun _ => hk9) (fun _ => ?_)
     clear hK K
     try simp only [Act.put,List.setIfInBounds_toArray,List.set_cons_zero,List.set_cons_succ]
     have hHeld : KC2 X _:=hk9
     refine AnyZ.take (i:=6) (d:=25) (v:=.tuple #[.agg #[.int .i64 0,.string ⟨#[]⟩,.int .i64 0,.slice ai 0 ci,.slice at_ 1 ct,.slice none 0 0,.slice none 0 0],.bool true]) rfl rfl (by kernel_rfl) (fun _ _ _ h => h) (Or.inl ⟨by rfl,fun w' hSw => ?_⟩) hHeld ?_
     ·obtain ⟨_,_⟩:=hSw
      go_simp
     try simp only [List.setIfInBounds_toArray,List.set_cons_zero,List.set_cons_succ]
     refine AnyZ.take (i:=7) (d:=32) (v:=.agg #[.int .i64 0,.string ⟨#[]⟩,.int .i64 0,.slice ai 0 ci,.slice at_ 1 ct,.slice none 0 0,.slice none 0 0]) rfl rfl (by kernel_rfl) (fun _ _ _ h => h) (Or.inl ⟨by rfl,fun w' hSw => ?_⟩) hHeld ?_
     ·obtain ⟨_,_⟩:=hSw
      go_simp
     try simp only [List.setIfInBounds_toArray,List.set_cons_zero,List.set_cons_succ]
     refine AnyZ.take (i:=8) (d:=33) (v:=.bool true) rfl rfl (by kernel_rfl) (fun _ _ _ h => h) (Or.inl ⟨by rfl,fun w' hSw => ?_⟩) hHeld ?_
     ·obtain ⟨_,_⟩:=hSw
      go_simp
     try simp only [List.setIfInBounds_toArray,List.set_cons_zero,List.set_cons_succ]
     obtain ⟨V,hV,HV,hkV⟩:=HG3.out _ _ _ _ _ _ _ h9
     refine AnyZ.one (i:=10) (by kernel_rfl) rfl fun K hK => ?_
     refine step_store_run rfl 63 _ _ rfl _ _ rfl rfl V hV ?_
     refine hK.out _ _ (fun _ => hkV) (fun _ => ?_)
     clear hK K
     try simp only [Act.put]
     refine AnyZ.take (i:=11) (d:=7) (v:=.bool true) rfl rfl (by kernel_rfl) (fun _ _ _ h => h) (Or.inl ⟨by rfl,fun w' hSw => ?_⟩) hkV ?_
     ·obtain ⟨_,_⟩:=hSw
      go_simp
     try simp only [List.setIfInBounds_toArray]
     refine AnyZ.done (by kernel_rfl) ?_ _
     obtain ⟨gt,ot,rfl,r0,r4,r5,HSt,HB⟩:=w_end HE6.out HV.out
     clear HG1 HG2 HG3 HT1 HT2 HT3 HA_t HA_z HA_tz HA_zt HAL HAM hV HV h9 h8 h7 hHeld
     go_wp2_with fail
     refine HSt.out.mono ?_
     rintro e w' ⟨rfl,rfl⟩
     go_wp2
     go_ret
     exact ⟨rfl,HB.out⟩
   ·go_simp
    refine hK.out _ _ (fun _ => (HAL.out _ h7.out.be)) (fun _ => ?_)
    clear hK K
    try simp only [Act.put,List.setIfInBounds_toArray,List.set_cons_zero,List.set_cons_succ]
    refine AnyZ.one (i:=3) (by kernel_rfl) rfl fun K hK => ?_
    go_simp
    refine (HG1.out _ _ (hide h7.out.al)).mono ?_
    rintro e w8 ⟨b2,rfl,h8,hk8⟩
    refine hK.out _ _ (fun _ => hk8) (fun _ => ?_)
    clear hK K
    try simp only [Act.put,List.setIfInBounds_toArray,List.set_cons_zero,List.set_cons_succ]
    refine AnyZ.one (i:=5) (by kernel_rfl) rfl fun K hK => ?_
    go_simp
    refine (HG2.out _ _ _ h8).mono ?_
    rintro e w9 ⟨ai,ci,at_,ct,rfl,h9,hk9⟩
    refine hK.out _ _ (fun _ => hk9) (fun _ => ?_)
    clear hK K
    try simp only [Act.put,List.setIfInBounds_toArray,List.set_cons_zero,List.set_cons_succ]
    have hHeld : KC2 X _:=hk9
    refine AnyZ.take (i:=6) (d:=25) (v:=.tuple #[.agg #[.int .i64 0,.string ⟨#[]⟩,.int .i64 0,.slice ai 0 ci,.slice at_ 1 ct,.slice none 0 0,.slice none 0 0],.bool true]) rfl rfl (by kernel_rfl) (fun _ _ _ h => h) (Or.inl ⟨by rfl,fun w' hSw => ?_⟩) hHeld ?_
    ·obtain ⟨_,_⟩:=hSw
     go_simp
    try simp only [List.setIfInBounds_toArray,List.set_cons_zero,List.set_cons_succ]
    refine AnyZ.take (i:=7) (d:=32) (v:=.agg #[.int .i64 0,.string ⟨#[]⟩,.int .i64 0,.slice ai 0 ci,.slice at_ 1 ct,.slice none 0 0,.slice none 0 0]) rfl rfl (by kernel_rfl) (fun _ _ _ h => h) (Or.inl ⟨by rfl,fun w' hSw => ?_⟩) hHeld ?_
    ·obtain ⟨_,_⟩:=hSw
     go_simp
    try simp only [List.setIfInBounds_toArray,List.set_cons_zero,List.set_cons_succ]
    refine AnyZ.take (i:=8) (d:=33) (v:=.bool true) rfl rfl (by kernel_rfl) (fun _ _ _ h => h) (Or.inl ⟨by rfl,fun w' hSw => ?_⟩) hHeld ?_
    ·obtain ⟨_,_⟩:=hSw
     go_simp
    try simp only [List.setIfInBounds_toArray,List.set_cons_zero,List.set_cons_succ]
    obtain ⟨V,hV,HV,hkV⟩:=HG3.out _ _ _ _ _ _ _ h9
    refine AnyZ.one (i:=10) (by kernel_rfl) rfl fun K hK => ?_
    refine step_store_run rfl 63 _ _ rfl _ _ rfl rfl V hV ?_
    refine hK.out _ _ (fun _ => hkV) (fun _ => ?_)
    clear hK K
    try simp only [Act.put]
    refine AnyZ.take (i:=11) (d:=7) (v:=.bool true) rfl rfl (by kernel_rfl) (fun _ _ _ h => h) (Or.inl ⟨by rfl,fun w' hSw => ?_⟩) hkV ?_
    ·obtain ⟨_,_⟩:=hSw
     go_simp
    try simp only [List.setIfInBounds_toArray]
    refine AnyZ.done (by kernel_rfl) ?_ _
    obtain ⟨gt,ot,rfl,r0,r4,r5,HSt,HB⟩:=w_end HE6.out HV.out
    clear HG1 HG2 HG3 HT1 HT2 HT3 HA_t HA_z HA_tz HA_zt HAL HAM hV HV h9 h8 h7 hHeld
    go_wp2_with fail
    refine HSt.out.mono ?_
    rintro e w' ⟨rfl,rfl⟩
    go_wp2
    go_ret
    exact ⟨rfl,HB.out⟩
  ·go_simp
   refine hK.out _ _ (fun _ => HA_tz.out) (fun _ => ?_)
   clear hK K
   try simp only [Act.put,List.setIfInBounds_toArray,List.set_cons_zero,List.set_cons_succ]
   refine AnyZ.one (i:=2) (by kernel_rfl) rfl fun K hK => ?_
   go_simp
   refine HT3.out.mono ?_
   rintro e w7 ⟨rfl,h7,hk7⟩
   refine hK.out _ _ (fun _ => hk7) (fun _ => ?_)
   clear hK K
   try simp only [Act.put,List.setIfInBounds_toArray,List.set_cons_zero,List.set_cons_succ]
   refine AnyZ.one (i:=3) (by kernel_rfl) rfl fun K hK => ?_
   go_simp
   refine (HG1.out _ _ h7).mono ?_
   rintro e w8 ⟨b2,rfl,h8,hk8⟩
   refine hK.out _ _ (fun _ => hk8) (fun _ => ?_)
   clear hK K
   try simp only [Act.put,List.setIfInBounds_toArray,List.set_cons_zero,List.set_cons_succ]
   refine AnyZ.one (i:=5) (by kernel_rfl) rfl fun K hK => ?_
   go_simp
   refine (HG2.out _ _ _ h8).mono ?_
   rintro e w9 ⟨ai,ci,at_,ct,rfl,h9,hk9⟩
   refine hK.out _ _ (fun _ => hk9) (fun _ => ?_)
   clear hK K
   try simp only [Act.put,List.setIfInBounds_toArray,List.set_cons_zero,List.set_cons_succ]
   have hHeld : KC2 X _:=hk9
   refine AnyZ.take (i:=6) (d:=25) (v:=.tuple #[.agg #[.int .i64 0,.string ⟨#[]⟩,.int .i64 0,.slice ai 0 ci,.slice at_ 1 ct,.slice none 0 0,.slice none 0 0],.bool true]) rfl rfl (by kernel_rfl) (fun _ _ _ h => h) (Or.inl ⟨by rfl,fun w' hSw => ?_⟩) hHeld ?_
   ·obtain ⟨_,_⟩:=hSw
    go_simp
   try simp only [List.setIfInBounds_toArray,List.set_cons_zero,List.set_cons_succ]
   refine AnyZ.take (i:=7) (d:=32) (v:=.agg #[.int .i64 0,.string ⟨#[]⟩,.int .i64 0,.slice ai 0 ci,.slice at_ 1 ct,.slice none 0 0,.slice none 0 0]) rfl rfl (by kernel_rfl) (fun _ _ _ h => h) (Or.inl ⟨by rfl,fun w' hSw => ?_⟩) hHeld ?_
   ·obtain ⟨_,_⟩:=hSw
    go_simp
   try simp only [List.setIfInBounds_toArray,List.set_cons_zero,List.set_cons_succ]
   refine AnyZ.take (i:=8) (d:=33) (v:=.bool true) rfl rfl (by kernel_rfl) (fun _ _ _ h => h) (Or.inl ⟨by rfl,fun w' hSw => ?_⟩) hHeld ?_
   ·obtain ⟨_,_⟩:=hSw
    go_simp
   try simp only [List.setIfInBounds_toArray,List.set_cons_zero,List.set_cons_succ]
   obtain ⟨V,hV,HV,hkV⟩:=HG3.out _ _ _ _ _ _ _ h9
   refine AnyZ.one (i:=10) (by kernel_rfl) rfl fun K hK => ?_
   refine step_store_run rfl 63 _ _ rfl _ _ rfl rfl V hV ?_
   refine hK.out _ _ (fun _ => hkV) (fun _ => ?_)
   clear hK K
   try simp only [Act.put]
   refine AnyZ.take (i:=11) (d:=7) (v:=.bool true) rfl rfl (by kernel_rfl) (fun _ _ _ h => h) (Or.inl ⟨by rfl,fun w' hSw => ?_⟩) hkV ?_
   ·obtain ⟨_,_⟩:=hSw
    go_simp
   try simp only [List.setIfInBounds_toArray]
   refine AnyZ.done (by kernel_rfl) ?_ _
   obtain ⟨gt,ot,rfl,r0,r4,r5,HSt,HB⟩:=w_end HE6.out HV.out
   clear HG1 HG2 HG3 HT1 HT2 HT3 HA_t HA_z HA_tz HA_zt HAL HAM hV HV h9 h8 h7 hHeld
   go_wp2_with fail
   refine HSt.out.mono ?_
   rintro e w' ⟨rfl,rfl⟩
   go_wp2
   go_ret
   exact ⟨rfl,HB.out⟩
 ·go_simp
  refine hK.out _ _ (fun _ => HA_z.out) (fun _ => ?_)
  clear hK K
  try simp only [Act.put,List.setIfInBounds_toArray,List.set_cons_zero,List.set_cons_succ]
  refine AnyZ.one (i:=1) (by kernel_rfl) rfl fun K hK => ?_
  go_simp
  refine hK.out _ _ (fun _ => HA_zt.out) (fun _ => ?_)
  clear hK K
  try simp only [Act.put,List.setIfInBounds_toArray,List.set_cons_zero,List.set_cons_succ]
  refine AnyZ.one (i:=2) (by kernel_rfl) rfl fun K hK => ?_
  go_simp
  refine HT2.out.mono ?_
  rintro e w7 ⟨rfl,h7,hk7⟩
  refine hK.out _ _ (fun _ => hk7) (fun _ => ?_)
  clear hK K
  try simp only [Act.put,List.setIfInBounds_toArray,List.set_cons_zero,List.set_cons_succ]
  refine AnyZ.one (i:=3) (by kernel_rfl) rfl fun K hK => ?_
  go_simp
  refine (HG1.out _ _ h7).mono ?_
  rintro e w8 ⟨b2,rfl,h8,hk8⟩
  refine hK.out _ _ (fun _ => hk8) (fun _ => ?_)
  clear hK K
  try simp only [Act.put,List.setIfInBounds_toArray,List.set_cons_zero,List.set_cons_succ]
  refine AnyZ.one (i:=5) (by kernel_rfl) rfl fun K hK => ?_
  go_simp
  refine (HG2.out _ _ _ h8).mono ?_
  rintro e w9 ⟨ai,ci,at_,ct,rfl,h9,hk9⟩
  refine hK.out _ _ (fun _ => hk9) (fun _ => ?_)
  clear hK K
  try simp only [Act.put,List.setIfInBounds_toArray,List.set_cons_zero,List.set_cons_succ]
  have hHeld : KC2 X _:=hk9
  refine AnyZ.take (i:=6) (d:=25) (v:=.tuple #[.agg #[.int .i64 0,.string ⟨#[]⟩,.int .i64 0,.slice ai 0 ci,.slice at_ 1 ct,.slice none 0 0,.slice none 0 0],.bool true]) rfl rfl (by kernel_rfl) (fun _ _ _ h => h) (Or.inl ⟨by rfl,fun w' hSw => ?_⟩) hHeld ?_
  ·obtain ⟨_,_⟩:=hSw
   go_simp
  try simp only [List.setIfInBounds_toArray,List.set_cons_zero,List.set_cons_succ]
  refine AnyZ.take (i:=7) (d:=32) (v:=.agg #[.int .i64 0,.string ⟨#[]⟩,.int .i64 0,.slice ai 0 ci,.slice at_ 1 ct,.slice none 0 0,.slice none 0 0]) rfl rfl (by kernel_rfl) (fun _ _ _ h => h) (Or.inl ⟨by rfl,fun w' hSw => ?_⟩) hHeld ?_
  ·obtain ⟨_,_⟩:=hSw
   go_simp
  try simp only [List.setIfInBounds_toArray,List.set_cons_zero,List.set_cons_succ]
  refine AnyZ.take (i:=8) (d:=33) (v:=.bool true) rfl rfl (by kernel_rfl) (fun _ _ _ h => h) (Or.inl ⟨by rfl,fun w' hSw => ?_⟩) hHeld ?_
  ·obtain ⟨_,_⟩:=hSw
   go_simp
  try simp only [List.setIfInBounds_toArray,List.set_cons_zero,List.set_cons_succ]
  obtain ⟨V,hV,HV,hkV⟩:=HG3.out _ _ _ _ _ _ _ h9
  refine AnyZ.one (i:=10) (by kernel_rfl) rfl fun K hK => ?_
  refine step_store_run rfl 63 _ _ rfl _ _ rfl rfl V hV ?_
  refine hK.out _ _ (fun _ => hkV) (fun _ => ?_)
  clear hK K
  try simp only [Act.put]
  refine AnyZ.take (i:=11) (d:=7) (v:=.bool true) rfl rfl (by kernel_rfl) (fun _ _ _ h => h) (Or.inl ⟨by rfl,fun w' hSw => ?_⟩) hkV ?_
  ·obtain ⟨_,_⟩:=hSw
   go_simp
  try simp only [List.setIfInBounds_toArray]
  refine AnyZ.done (by kernel_rfl) ?_ _
  obtain ⟨gt,ot,rfl,r0,r4,r5,HSt,HB⟩:=w_end HE6.out HV.out
  clear HG1 HG2 HG3 HT1 HT2 HT3 HA_t HA_z HA_tz HA_zt HAL HAM hV HV h9 h8 h7 hHeld
  go_wp2_with fail
  refine HSt.out.mono ?_
  rintro e w' ⟨rfl,rfl⟩
  go_wp2
  go_ret
  exact ⟨rfl,HB.out⟩
end Go.Proofs.YtagijldedngcoaaGreatDoor
