/-
  Contracts of the program and of the statements (part 6 of 28).
-/
import Derived.Test.YtagijldedngcoaaGreatDoorOl3
import Derived.Test.YtagijldedngcoaaGreatDoorOl5
import Derived.Lib.AppendZeros
import Derived.Maps.AppendAt
import Derived.BigQuiet
set_option maxRecDepth 100000
set_option maxHeartbeats 1600000

namespace Go.Proofs.YtagijldedngcoaaGreatDoor.Zq
open Go.RowKit Go.Lib

/-! ### Plain -/
def zsB (n : Nat) : ByteArray:=⟨(List.replicate n (0 : UInt8)).toArray⟩
theorem zsB_size (n : Nat) : (zsB n).size = n:=by simp [zsB,ByteArray.size]
theorem rep_zero (c : Nat) : (⟨(Lib.repeatL (ByteArray.mk #[0]).data.toList c).toArray⟩ : ByteArray) = zsB c:=by
 have:=Lib.repeatL_replicate 0 1 c
 rw [zsB]
 congr 2
 simpa using this
def padB (k : Nat) (s : ByteArray) : ByteArray:=s ++ zsB (k * eachN k s.size - s.size)
theorem padB_size {k : Nat} (h : 1 ≤ k) (s : ByteArray) : (padB k s).size = k * eachN k s.size:=by
 have:=eachN_ge (n:=s.size) h
 rw [padB,ByteArray.size_append,zsB_size]
 omega
def pc (k : Nat) (s : ByteArray) (i : Nat) : ByteArray:=(padB k s).extract (i * eachN k s.size) ((i + 1) * eachN k s.size)
theorem pc_size {k : Nat} (s : ByteArray) {i : Nat} (hi : i < k) : (pc k s i).size = eachN k s.size:=by
 rw [pc,ByteArray.size_extract,padB_size (by omega)]
 have h1 : (i + 1) * eachN k s.size ≤ k * eachN k s.size:=Nat.mul_le_mul_right _ hi
 have h2 : (i + 1) * eachN k s.size = i * eachN k s.size + eachN k s.size:=by rw [Nat.add_mul,Nat.one_mul]
 omega
theorem eachR_nat (k n : Nat) (h : n ≤ 65536) : eachR k (n : Int) = (((eachN k n : Nat) : Int),0):=by
 rw [eachR,if_neg (by omega),Int.toNat_natCast]

/-! ### Texts in a block of their own -/
theorem Tryz.infoS : (Tryz.prog.info? 9).map (fun i => (i.zero,i.size,i.bytes)) = some (some (.string ⟨#[]⟩),1,16):=by kernel_rfl
def SB (w : World) (g n : Nat) (X : Nat→ByteArray) : Prop:=w.heap[g]? = some (.cells (Fd.textsOf X n).toArray 9 (0,0))
section
variable {w w' : World} {g n : Nat} {X : Nat→ByteArray}
theorem SB.lt (h : SB w g n X) : g < w.heap.size:=lt_of_block h
theorem SB.cell (h : SB w g n X) (i : Nat) (hi : i < n) : w.cell? ⟨g,i,none⟩ = some (.string (X i)):=by
 rw [cell_of_row w g i _ _ _ h,List.getElem?_toArray,Fd.textsOf_get hi]
theorem SB.free (h : SB w g n X) (i : Nat) : w.frozen? ⟨g,i,none⟩ = false:=frozen_of_row w g i _ _ h
theorem SB.of_block (h : SB w g n X) (hb : w'.heap[g]? = w.heap[g]?) : SB w' g n X:=hb.trans h
theorem SB.below (h : SB w g n X) {B : Nat} (hb : Below B w w') (hB : w.heap.size ≤ B) : SB w' g n X:=h.of_block (hb.block g (Nat.lt_of_lt_of_le h.lt hB))
theorem texts_congr {X' : Nat→ByteArray} (e : ∀ i,i < n→X i = X' i) : Fd.textsOf X n = Fd.textsOf X' n:=by
 apply List.ext_getElem?
 intro i
 by_cases hi : i < n
 ·rw [Fd.textsOf_get hi,Fd.textsOf_get hi,e i hi]
 ·rw [List.getElem?_eq_none (by rw [Fd.textsOf_length]; omega),List.getElem?_eq_none (by rw [Fd.textsOf_length]; omega)]
theorem SB.congr (h : SB w g n X) {X' : Nat→ByteArray} (e : ∀ i,i < n→X i = X' i) : SB w g n X':=by
 unfold SB at *
 rw [← texts_congr e]
 exact h
theorem SB.set (h : SB w g n X) (i : Nat) (x : ByteArray) : SB (w.setCell ⟨g,i,none⟩ (.string x)) g n (fun j => if j = i then x else X j):=by
 unfold SB at *
 rw [heap_set_list _ h]
 congr 3
 apply List.ext_getElem?
 intro j
 rw [List.getElem?_set,Fd.textsOf_length]
 by_cases hj : j < n
 ·rw [Fd.textsOf_get hj,Fd.textsOf_get hj]
  by_cases e : i = j
  ·subst e; rw [if_pos rfl,if_pos hj,if_pos rfl]
  ·rw [if_neg e,if_neg (fun h => e h.symm)]
 ·rw [List.getElem?_eq_none (by rw [Fd.textsOf_length]; omega),List.getElem?_eq_none (by rw [Fd.textsOf_length]; omega)]
  split
  ·rw [if_neg (by omega)]
  ·rfl
theorem SB.tx (h : SB w g n X) (c : Nat) : Fd.TX w (.slice (some ⟨g,0,none⟩) n c) n X :=
 ⟨_,c,rfl,.inr ⟨g,0,rfl,h.lt,fun i hi => by rw [Nat.zero_add]; exact h.cell i hi⟩⟩
theorem made_texts (n : Nat) : madeCells #[.string ⟨#[]⟩] n = (Fd.textsOf (fun _ => ⟨#[]⟩) n).toArray:=by
 apply Array.toList_inj.1
 rw [toList_madeCells_one]
 apply List.ext_getElem?
 intro i
 by_cases hi : i < n
 ·rw [Fd.textsOf_get hi]; simp [hi]
 ·rw [List.getElem?_eq_none (by simp; omega),List.getElem?_eq_none (by rw [Fd.textsOf_length]; omega)]
theorem SB.made (w : World) (n : Nat) : SB (w.alloc (.cells (madeCells #[.string ⟨#[]⟩] n) 9)) w.heap.size n (fun _ => ⟨#[]⟩):=by
 rw [made_texts]
 exact heap_alloc_new w _
end

theorem cut_any {w : World} {b sb f1 f2 g k m : Nat} (h : PP w b sb f1 f2 g k m) (k1 : 1 ≤ k) (k2 : k ≤ 255) (s : ByteArray) (hs : s.size ≤ 65536) :
  Calls Tryz.prog 241 #[.pointer (some ⟨b,0,none⟩),.string s] w fun e w' => ∃ q,e = .returned (.slice (some ⟨q,0,none⟩) k k)∧SB w' q k (pc k s)∧w.heap.size ≤ q∧Below w.heap.size w w':=by
 obtain ⟨e,he⟩ : ∃ e,e = eachN k s.size:=⟨_,rfl⟩
 have he1 : e ≤ s.size:=by rw [he]; exact eachN_le k1
 obtain ⟨N,hN⟩ : ∃ N,N = k * e:=⟨_,rfl⟩
 have hN1 : s.size ≤ N:=by rw [hN,he]; exact eachN_ge k1
 have hN2 : N ≤ s.size + k - 1:=by rw [hN,he]; exact eachN_up
 obtain ⟨c,hc⟩ : ∃ c,c = N - s.size:=⟨_,rfl⟩
 have hci : (N : Int) - (s.size : Int) = (c : Int):=by omega
 have hNi : (k : Int) * (e : Int) = (N : Int):=by rw [hN,Int.natCast_mul]
 obtain ⟨T,hT⟩ : ∃ T,T = s ++ zsB c:=⟨_,rfl⟩
 have hTs : T.size = N:=by rw [hT,ByteArray.size_append,zsB_size]; omega
 have hpc : ∀ i,pc k s i = T.extract (i * e) ((i + 1) * e):=fun i => by rw [pc,padB,← he,← hN,← hc,← hT]
 have HPC:=hide hpc
 have HP:=hide h
 have HT:=hide hT
 have HE:=hide he
 have HN:=hide hN
 have c0:=h.pl.cell0
 clear h hpc hT he hN hc
 go_enter Tryz.func241,Tryz.ntmps241
 go_wp2_with fail
 refine (each_any HP.out k1 k2 (s.size : Int)).mono ?_
 rintro e' w1 ⟨rfl,hb1⟩
 rw [eachR_nat k s.size hs,← HE.out]
 have HP1:=hide (HP.out.below hb1)
 have HB1:=hide hb1
 have c0:=HP1.out.pl.cell0
 clear HP hb1
 go_wp2_with fail
 refine (Tryz.strings_Repeat ⟨#[0]⟩ c w1 (by omega) (by show 1 * c ≤ _; omega)).mono ?_
 rintro e' w2 ⟨rfl,hb2⟩
 rw [rep_zero]
 have HP2:=hide (HP1.out.below hb2)
 have HB2:=hide (below_step HB1.out hb2)
 have c0:=HP2.out.pl.cell0
 clear HP1 HB1 hb2
 have hzs:=zsB_size c
 have hmk : ∀ w : World,_:=fun w => run_make_row' (P:=Tryz.prog) 44 9 (.string ⟨#[]⟩) 16 Tryz.underlying44 Tryz.infoS rfl .i64 .i64 k (by omega) (by omega) w
 go_wp2
 rw [← HT.out]
 have HKN:=hide (And.intro k1 (And.intro k2 (And.intro hs (And.intro hN1 hN2))))
 clear hci hNi hzs hmk c0 hN1 hN2 hs he1 k1
 go_loopw [35] (fun z wr => ∃ i : Nat,i ≤ k∧z = .int .i64 i∧SB wr w2.heap.size k (fun j => if j < i then pc k s j else ⟨#[]⟩)∧Below w.heap.size w wr) (fun z _ => k - (RowKit.intOf z).toNat)
 case atStart => exact ⟨0,Nat.zero_le _,rfl,(SB.made w2 k).congr (fun i hi => by simp),below_alloc HB2.out _⟩
 case round =>
  obtain ⟨i,hi,rfl,hSB,hB⟩:=hrel
  by_cases hlt : i < k
  ·obtain ⟨x,hx⟩ : ∃ x,x = i * e:=⟨_,rfl⟩
   have hx2 : (i + 1) * e = x + e:=by rw [Nat.add_mul,Nat.one_mul,hx]
   have hm : (i : Int) * (e : Int) = (x : Int):=by rw [← Int.natCast_mul,hx]
   have hm2 : ((i : Int) + 1) * (e : Int) = (x : Int) + (e : Int):=by rw [Int.add_mul,Int.one_mul,hm]
   have hxe : x + e ≤ N:=by rw [← hx2,HN.out]; exact Nat.mul_le_mul_right _ hlt
   have hNs : N ≤ 66000:=by have:=HKN.out; omega
   have hset:=hSB.set i (T.extract x (x + e))
   have hbs : Below w.heap.size w (wr.setCell ⟨w2.heap.size,i,none⟩ (.string (T.extract x (x + e)))):=below_gb hB (gb_set _ _ _ _) HB2.out.size hB.size
   have HS1 : Hid (SB (wr.setCell ⟨w2.heap.size,i,none⟩ (.string (T.extract x (x + e)))) w2.heap.size k (fun j => if j < i + 1 then pc k s j else ⟨#[]⟩)):=hset.congr (fun j hj => by
    by_cases e1 : j = i
    ·subst e1; rw [if_pos rfl,if_pos (by omega),HPC.out,← hx,hx2]
    ·rw [if_neg e1]
     by_cases e2 : j < i
     ·rw [if_pos e2,if_pos (by omega)]
     ·rw [if_neg e2,if_neg (by omega)])
   have HBS:=hide hbs
   have b1 : (i : Int) < (k : Int):=by omega
   have b0 : (0 : Int) ≤ (i : Int):=by omega
   have q1:=hSB.cell i hlt
   have q2:=hSB.free i
   clear hset hbs hSB hB hx hx2 HKN
   go_wp2
   exact ⟨⟨i + 1,by omega,by go_num,HS1.out,HBS.out⟩,by simp [RowKit.intOf]; omega⟩
  ·obtain rfl : i = k:=by omega
   have HS1:=hide (hSB.congr (X':=pc i s) (fun j hj => if_pos hj))
   have HBS:=hide hB
   clear hSB hB
   go_wp2
   go_ret
   exact ⟨_,rfl,HS1.out,HB2.out.size,HBS.out⟩
end Go.Proofs.YtagijldedngcoaaGreatDoor.Zq

namespace Go.Proofs.YtagijldedngcoaaGreatDoor.Zq
open Go.RowKit Go.Lib

theorem KB.part {w : World} {g N : Nat} {G : Nat→K} (h : KB w g N G) (x k c : Nat) (hx : x + k ≤ N) : Fd.NX w (.slice (some ⟨g,x,none⟩) k c) k (fun t => (((G (x + t)).v : Nat) : Int)) :=
 ⟨_,c,rfl,.inr ⟨g,x,rfl,h.lt,fun i hi => h.cell (x + i) (by omega)⟩⟩

theorem Bx.gof {w w' : World} {f b : Nat} {r c : Int} {v : Value} (h : Bx w b r c v) (hF : F w f) (hg : w.grownBy w' (some f)) : Bx w' b r c v:=by
 refine h.of_block (hg.block b h.lt (by
  intro e
  simp only [Option.some.injEq] at e
  subst e
  unfold Bx at h
  rcases hF with x | ⟨_,_,x,_⟩ <;> (unfold FB at x; rw [h] at x; simp at x)))
theorem F.other {w w' : World} {b f : Nat} (h : F w b) (hF : F w f) (hg : w.grownBy w' (some f)) (ne : b ≠ f) : F w' b:=by
 have hff : ∃ cs,w.heap[f]? = some (.cells cs 354 (0,0)):=by
  rcases hF with x | ⟨_,_,x,_⟩ <;> exact ⟨_,x⟩
 obtain ⟨cs,hf⟩:=hff
 rcases h with h | ⟨t,h3,h4,h5⟩
 ·exact .inl (h.of_block (hg.block b h.lt (by simpa using ne)))
 ·refine .inr ⟨t,h3,h4.of_block (hg.block b h4.lt (by simpa using ne)),h5.of_block (hg.block t h5.lt (fun e => ?_))⟩
  simp only [Option.some.injEq] at e
  subst e
  unfold TB at h5
  rw [hf] at h5
  simp at h5
theorem gb_undrew {w w' : World} {row : Option Nat} (h : w.drew.grownBy w' row) : w.grownBy w' row:=⟨h.os,h.tape,h.output,h.size,h.block⟩
theorem PP.go {w w' : World} {b sb f1 f2 g k m : Nat} (h : PP w b sb f1 f2 g k m) (hF : F w' f2) (hg : w.grownBy w' (some f2)) : PP w' b sb f1 f2 g k m:=by
 obtain ⟨n1,n2,n3⟩:=h.nef
 refine ⟨h.pl.of_block (hg.block b h.pl.lt (by simpa using n1)),⟨h.sp.b.of_block (hg.block sb h.sp.b.lt (by simpa using n3)),?_,h.sp.ne⟩,hF,h.kb.of_block (hg.block g h.kb.lt (by simpa using n2)),h.ne⟩
 exact h.sp.fl.other h.fl hg h.ne

theorem pmix_any {w : World} {b sb f1 f2 g k m : Nat} (h : PP w b sb f1 f2 g k m) (k1 : 1 ≤ k) (k2 : k ≤ 255) {vl : Value} {X : Nat→ByteArray} (hl : Fd.TX w vl k X) (hx0 : 0 < k→(X 0).size ≤ 140737488355328)
  {ga N cap i : Nat} {G : Nat→K} {rr cc : Int} (hG : KB w ga N G) (hi : i ≤ 255) (hrow : (i + 1) * k ≤ N) (hN : N ≤ cap) (hcap : cap ≤ 1000000) :
  Calls Tryz.prog 263 #[.pointer (some ⟨b,0,none⟩),vl,.agg #[.int .i64 rr,.int .i64 cc,.slice (some ⟨ga,0,none⟩) N cap],.int .i64 i] w fun e w' => e = .returned (.string (Fd.mixS k k X (fun t => (((G (i * k + t)).v : Nat) : Int))))∧F w' f2∧w.grownBy w' (some f2):=by
 obtain ⟨al,cl,rfl,_⟩:=id hl
 obtain ⟨x,hx⟩ : ∃ x,x = i * k:=⟨_,rfl⟩
 have hx2 : (i + 1) * k = x + k:=by rw [Nat.add_mul,Nat.one_mul,hx]
 have hm : (i : Int) * (k : Int) = (x : Int):=by rw [← Int.natCast_mul,hx]
 have hm2 : ((i : Int) + 1) * (k : Int) = (x : Int) + (k : Int):=by rw [Int.add_mul,Int.one_mul,hm]
 rw [hx2] at hrow
 rw [← hx]
 clear hx hx2
 obtain ⟨W,hW⟩ : ∃ W,W = w.alloc (.cells #[.int .i64 rr,.int .i64 cc,.slice (some ⟨ga,0,none⟩) N cap] 313):=⟨_,rfl⟩
 have hbW : Below w.heap.size w W:=by rw [hW]; exact below_alloc (Below.refl _ _) _
 have X1 : Bx W w.heap.size rr cc (.slice (some ⟨ga,0,none⟩) N cap):=by rw [hW]; exact Bx.new _ _ _ _
 have hP:=h.below hbW
 have s0:=hP.pl.cell0
 have s6:=hP.pl.cell6
 have s2:=X1.cell2
 have HF:=hide hP.fl
 have HL:=hide (hl.below hbW)
 have HG:=hide ((hG.below hbW (Nat.le_refl _)).part x k (cap - x) hrow)
 have HB:=hide hbW
 have HW:=hide hW
 have KS : Hid (∀ w',W.grownBy w' (some f2)→w'.cell? ⟨b,0,none⟩ = some (.int .i64 k)∧w'.cell? ⟨b,6,none⟩ = some (.pointer (some ⟨f2,0,none⟩))∧w'.cell? ⟨w.heap.size,2,none⟩ = some (.slice (some ⟨ga,0,none⟩) N cap)):=fun w' hg => by
  have x:=hP.pl.of_block (hg.block b hP.pl.lt (by simpa using hP.nef.1))
  exact ⟨x.cell0,x.cell6,(X1.gof hP.fl hg).cell2⟩
 clear h hl hG hW hbW X1 hP
 have D0 : Hid (W.drew.cell? ⟨b,0,none⟩ = some (.int .i64 k)∧W.drew.cell? ⟨b,6,none⟩ = some (.pointer (some ⟨f2,0,none⟩))∧W.drew.cell? ⟨w.heap.size,2,none⟩ = some (.slice (some ⟨ga,0,none⟩) N cap)):=⟨s0,s6,s2⟩
 obtain ⟨y,hy⟩ : ∃ y,y = x + k:=⟨_,rfl⟩
 have b0 : (0 : Int) ≤ (x : Int):=by omega
 have b1 : (x : Int) ≤ (y : Int):=by omega
 have b2 : (y : Int) ≤ (cap : Int):=by omega
 have b3 : ¬ (cap = x):=by omega
 have b4 : y - x = k:=by omega
 have hsl : ∀ w : World,(Instr.slice 162 (.slice (some ⟨ga,0,none⟩) N cap) (some (.int .i64 (x : Int))) (some (.int .i64 (y : Int))) none).run Tryz.prog w = .ok (.slice (some ⟨ga,x,none⟩) k (cap - x)) w:=fun w => by
  rw [run_slice_lh (P:=Tryz.prog) (w:=w) 162 _ _ _ Tryz.underlying162 .i64 .i64 (x : Int) (y : Int) b0 b1 b2]
  simp [go_sem,sliced,b3,b4]
 have e0 : IntKind.i64.wrap ((i : Int) + 1) = (i : Int) + 1:=wraps_i64 _ (by omega) (by omega)
 have e1 : IntKind.i64.wrap ((i : Int) * (k : Int)) = (x : Int):=by rw [hm]; exact wraps_i64 _ (by omega) (by omega)
 have e2 : IntKind.i64.wrap (((i : Int) + 1) * (k : Int)) = (y : Int):=by rw [hm2,hy,Int.natCast_add]; exact wraps_i64 _ (by omega) (by omega)
 clear hy
 clear hm hm2
 go_enter Tryz.func263,Tryz.ntmps263
 go_upto_region 1 with fail
 rw [← HW.out]
 go_region_held_law (fun wx => wx.cell? ⟨b,0,none⟩ = some (.int .i64 k)∧wx.cell? ⟨b,6,none⟩ = some (.pointer (some ⟨f2,0,none⟩))∧wx.cell? ⟨w.heap.size,2,none⟩ = some (.slice (some ⟨ga,0,none⟩) N cap))
  (first | with_reducible exact D0.out | with_reducible exact KS.out _ (by assumption))
  (first | (go_at_call 288; refine (Fd.mix_any (HF.out.drew) (HL.out.below (Below.refl _ _).drew) (HG.out.below (Below.refl _ _).drew) (by omega) (by omega) hx0).mono ?_; rintro e wa ⟨rfl,hFa,hga⟩; have hgb:=gb_undrew hga))
 all_goals
  go_wp2
  go_ret
  exact ⟨rfl,hFa,gb_trans (gb_below HB.out _) hgb⟩
end Go.Proofs.YtagijldedngcoaaGreatDoor.Zq

namespace Go.Proofs.YtagijldedngcoaaGreatDoor.Zq
open Go.RowKit Go.Lib

def shd (k : Nat) (s : ByteArray) (i : Nat) : ByteArray:=if i < k then pc k s i else Fd.mixS k k (pc k s) (fun t => (((flat k (cauM k) (i * k + t)).v : Nat) : Int))
theorem pc_le {k : Nat} (s : ByteArray) (hs : s.size ≤ 65536) {i : Nat} (hi : i < k) : (pc k s i).size ≤ 65536:=by
 rw [pc_size s hi]
 have:=eachN_le (k:=k) (n:=s.size) (by omega)
 omega
section
variable {w w' : World} {q n : Nat} {X : Nat→ByteArray}
theorem SB.nef (h : SB w q n X) {f : Nat} (hF : F w f) : q ≠ f:=by
 intro e
 subst e
 unfold SB at h
 rcases hF with x | ⟨_,_,x,_⟩ <;> (unfold FB at x; rw [h] at x; simp at x)
theorem SB.gof (h : SB w q n X) {f : Nat} (hF : F w f) (hg : w.grownBy w' (some f)) : SB w' q n X :=
 h.of_block (hg.block q h.lt (by simpa using h.nef hF))
theorem PP.put {b sb f1 f2 g k m : Nat} (h : PP w b sb f1 f2 g k m) (hS : SB w q n X) (hg : w.grownBy w' (some q)) : PP w' b sb f1 f2 g k m:=by
 have nb : b ≠ q:=by
  intro e; subst e
  have x:=h.pl; have y:=hS
  unfold PL at x; unfold SB at y; rw [x] at y; simp at y
 have ng : g ≠ q:=by
  intro e; subst e
  obtain ⟨Z,x⟩:=h.kb
  have y:=hS
  unfold SB at y; rw [x] at y; simp at y
 exact ⟨h.pl.of_block (hg.block b h.pl.lt (by simpa using nb)),h.sp.set hS (by decide) (by decide) (by decide) hg,h.fl.set hS (by decide) (by decide) hg,h.kb.of_block (hg.block g h.kb.lt (by simpa using ng)),h.ne⟩
end

theorem shard_any {w : World} {b sb f1 f2 g k m q : Nat} (h : PP w b sb f1 f2 g k m) (k1 : 1 ≤ k) (km : k + m ≤ 255) {s : ByteArray} (hs : s.size ≤ 65536) (hS : SB w q k (pc k s)) {i : Nat} (hi : i < k + m) :
  Calls Tryz.prog 242 #[.pointer (some ⟨b,0,none⟩),.slice (some ⟨q,0,none⟩) k k,.int .i64 i] w fun e w' => e = .returned (.string (shd k s i))∧PP w' b sb f1 f2 g k m∧w.grownBy w' (some f2):=by
 have c0:=h.pl.cell0
 by_cases hik : i < k
 ·rw [shd,if_pos hik]
  have hc:=hS.cell i hik
  have HP:=hide h
  have b1 : (i : Int) < (k : Int):=by omega
  have b0 : (0 : Int) ≤ (i : Int):=by omega
  clear h hS
  go_enter Tryz.func242,Tryz.ntmps242
  go_wp2
  go_ret
  exact ⟨rfl,HP.out,gb_refl _ _⟩
 ·rw [shd,if_neg hik]
  have c2:=h.pl.cell2
  have c3:=h.pl.cell3
  have c4:=h.pl.cell4
  have HP:=hide h
  have HS:=hide (hS.tx k)
  have b1 : ¬ (i : Int) < (k : Int):=by omega
  have hrow : (i + 1) * k ≤ (k + m) * k:=Nat.mul_le_mul_right _ hi
  have hcap : (k + m) * k ≤ 255 * 255:=Nat.mul_le_mul km (by omega)
  have HR:=hide (And.intro hrow (Nat.le_trans hcap (by decide : 255 * 255 ≤ 1000000)))
  clear h hS hrow hcap
  go_enter Tryz.func242,Tryz.ntmps242
  go_wp2_with fail
  refine (pmix_any HP.out k1 (by omega) HS.out (fun h => by have:=pc_le s hs (i:=0) h; omega) HP.out.kb (by omega) HR.out.1 (Nat.le_refl _) HR.out.2).mono ?_
  rintro e w1 ⟨rfl,hF,hg⟩
  have HP1:=hide (HP.out.go hF hg)
  have HG:=hide hg
  clear HP HS HR hF hg
  go_wp2
  go_ret
  exact ⟨rfl,HP1.out,HG.out⟩

theorem split_ok {w : World} {b sb f1 f2 g k m : Nat} (h : PP w b sb f1 f2 g k m) (k1 : 1 ≤ k) (km : k + m ≤ 255) {s : ByteArray} (hs : s.size ≤ 65536) :
  Calls Tryz.prog 205 #[.pointer (some ⟨b,0,none⟩),.string s] w fun e w' => ∃ q,e = .returned (.tuple #[.slice (some ⟨q,0,none⟩) (k + m) (k + m),.int .i64 0])∧SB w' q (k + m) (shd k s)∧w.heap.size ≤ q∧PP w' b sb f1 f2 g k m∧w.grownBy w' (some f2):=by
 obtain ⟨n,hn⟩ : ∃ n,n = k + m:=⟨_,rfl⟩
 have hni : (k : Int) + (m : Int) = (n : Int):=by omega
 have hnb : n ≤ 255:=by omega
 have HP:=hide h
 have HK:=hide (And.intro k1 (And.intro km (And.intro hs hn)))
 have b1 : ¬ (65536 : Int) < (s.size : Int):=by omega
 rw [← hn]
 clear h hn k1 km hs
 go_enter Tryz.func205,Tryz.ntmps205
 go_wp2_with fail
 refine (cut_any HP.out HK.out.1 (by have:=HK.out; omega) s HK.out.2.2.1).mono ?_
 rintro e w1 ⟨q,rfl,hS,hq,hb1⟩
 have HP1:=hide (HP.out.below hb1)
 have HS1:=hide hS
 have HB1:=hide hb1
 have hmk : ∀ w : World,_:=fun w => run_make_row' (P:=Tryz.prog) 44 9 (.string ⟨#[]⟩) 16 Tryz.underlying44 Tryz.infoS rfl .i64 .i64 n (by omega) (by omega) w
 have hwr : IntKind.i64.wrap ((k : Int) + (m : Int)) = (n : Int):=by rw [hni]; exact wraps_i64 _ (by omega) (by omega)
 have D0 : Hid (w1.drew.cell? ⟨b,0,none⟩ = some (.int .i64 k)∧w1.drew.cell? ⟨b,1,none⟩ = some (.int .i64 m)):=⟨HP1.out.pl.cell0,HP1.out.pl.cell1⟩
 have KS : Hid (∀ w',Below w1.heap.size w1 w'→w'.cell? ⟨b,0,none⟩ = some (.int .i64 k)∧w'.cell? ⟨b,1,none⟩ = some (.int .i64 m)):=fun w' hb => ⟨(HP1.out.below hb).pl.cell0,(HP1.out.below hb).pl.cell1⟩
 have HB0 : Hid (∀ o,Below w1.heap.size w1 (w1.alloc o).drew):=fun o => (below_alloc (Below.refl _ _) o).drew
 clear hS hq hb1 HP hni
 go_upto_region 4 with fail
 go_region_held_law (fun wx => wx.cell? ⟨b,0,none⟩ = some (.int .i64 k)∧wx.cell? ⟨b,1,none⟩ = some (.int .i64 m)) (first | with_reducible exact D0.out | with_reducible exact KS.out _ (HB0.out _)) (fail)
 obtain ⟨W,hW⟩ : ∃ W,W = (w1.alloc (.cells (madeCells #[.string ⟨#[]⟩] n) 9)).drew:=⟨_,rfl⟩
 have hbW : Below w1.heap.size w1 W:=by rw [hW]; exact HB0.out _
 have HPW:=hide (HP1.out.below hbW)
 have HSW:=hide (HS1.out.below hbW (Nat.le_refl _))
 have HNW : Hid (SB W w1.heap.size n (fun _ => ⟨#[]⟩)):=by rw [hW]; exact SB.made w1 n
 have HBW:=hide (below_step HB1.out hbW)
 have HB1s:=hide HB1.out.size
 have HQ : Hid (q < w1.heap.size):=HS1.out.lt
 rw [← hW]
 clear hW hbW HP1 HS1 HB1 D0 KS HB0 hmk hwr
 go_wp2
 go_loopw [27] (fun z wr => ∃ i : Nat,i ≤ n∧z = .int .i64 i∧SB wr w1.heap.size n (fun j => if j < i then shd k s j else ⟨#[]⟩)∧SB wr q k (pc k s)∧PP wr b sb f1 f2 g k m∧w.grownBy wr (some f2)) (fun z _ => n - (RowKit.intOf z).toNat)
 case atStart => exact ⟨0,Nat.zero_le _,rfl,HNW.out.congr (fun i hi => by simp),HSW.out,HPW.out,gb_below HBW.out _⟩
 case round =>
  obtain ⟨i,hi,rfl,hN,hS,hP,hg⟩:=hrel
  clear HNW HSW HPW HBW
  by_cases hlt : i < n
  ·have HNr:=hide hN
   have HSr:=hide hS
   have HPr:=hide hP
   have HGr:=hide hg
   have b1 : (i : Int) < (n : Int):=by omega
   have b0 : (0 : Int) ≤ (i : Int):=by omega
   clear hN hS hP hg
   go_wp2_with fail
   refine (shard_any HPr.out HK.out.1 HK.out.2.1 HK.out.2.2.1 HSr.out (by rw [← HK.out.2.2.2]; exact hlt)).mono ?_
   rintro e w2 ⟨rfl,hP2,hg2⟩
   have hN2:=HNr.out.gof HPr.out.fl hg2
   have hS2:=HSr.out.gof HPr.out.fl hg2
   have hset:=hN2.set i (shd k s i)
   have gs:=gb_set w2 w1.heap.size i (.string (shd k s i))
   have HN3 : Hid (SB (w2.setCell ⟨w1.heap.size,i,none⟩ (.string (shd k s i))) w1.heap.size n (fun j => if j < i + 1 then shd k s j else ⟨#[]⟩)):=hset.congr (fun j hj => by
    by_cases e1 : j = i
    ·subst e1; rw [if_pos rfl,if_pos (by omega)]
    ·rw [if_neg e1]
     by_cases e2 : j < i
     ·rw [if_pos e2,if_pos (by omega)]
     ·rw [if_neg e2,if_neg (by omega)])
   have nqq : q ≠ w1.heap.size:=by
    have:=HQ.out
    omega
   have HS3:=hide (hS2.of_block (gs.block q hS2.lt (by simpa using nqq)))
   have HP3:=hide (hP2.put hN2 gs)
   have HG3:=hide (gb_new (gb_trans HGr.out hg2) gs HB1s.out)
   have q1:=hN2.cell i hlt
   have q2:=hN2.free i
   clear hset gs hN2 hS2 hP2 hg2 HNr HSr HPr HGr nqq
   go_wp2
   exact ⟨⟨i + 1,by omega,by go_num,HN3.out,HS3.out,HP3.out,HG3.out⟩,by simp [RowKit.intOf]; omega⟩
  ·obtain rfl : i = n:=by omega
   have HNr:=hide (hN.congr (X':=shd k s) (fun j hj => if_pos hj))
   have HPr:=hide hP
   have HGr:=hide hg
   clear hN hS hP hg
   go_wp2
   exact bodyPost_ret (v:=.tuple #[.slice (some ⟨w1.heap.size,0,none⟩) i i,.int .i64 0]) (by simp [results,Tryz.results205,go_sem]) rfl ⟨_,rfl,HNr.out,HB1s.out,HPr.out,HGr.out⟩
end Go.Proofs.YtagijldedngcoaaGreatDoor.Zq

namespace Go.Proofs.YtagijldedngcoaaGreatDoor.Zq
open Go.RowKit Go.Lib

/-! ### A list of texts in a block of one's own -/
section
variable {B n : Nat} {v : Value} {X : Nat→ByteArray} {w w' : World}
end

end Go.Proofs.YtagijldedngcoaaGreatDoor.Zq

namespace Go.Proofs.YtagijldedngcoaaGreatDoor.Zq
open Go.RowKit Go.Lib

/-! ### Marks over what came out -/
/-! ### How long mixtures are -/
theorem allB_of (p : Nat→Bool) : ∀ n,(∀ i,i < n→p i = true)→allB p n = true
 | 0,_ => rfl
 | n + 1,h => by rw [allB,h n (by omega),allB_of p n (fun i hi => h i (by omega))]; rfl
theorem mixS_eq {n N : Nat} (h0 : 0 < n) {X : Nat→ByteArray} (hX : ∀ i,i < n→(X i).size = N) (C : Nat→K) :
  Fd.faultC n n X (fun t => (((C t).v : Nat) : Int)) = 0∧Fd.mixS n n X (fun t => (((C t).v : Nat) : Int)) = Fd.strOf (Fd.mixAt N X (fun t => (C t).v) n):=by
 have h1 : Fd.szB X n = true:=allB_of _ _ (fun i hi => by simp [hX i hi,hX 0 h0])
 have h2 : Fd.elB (fun t => (((C t).v : Nat) : Int)) n = true:=allB_of _ _ (fun i _ => by have:=(C i).lt; simp [isEl]; omega)
 have hf : Fd.faultC n n X (fun t => (((C t).v : Nat) : Int)) = 0:=by rw [Fd.faultC,if_pos rfl,h1,h2]; rfl
 refine ⟨hf,?_⟩
 rw [Fd.mixS,if_pos hf,if_neg (by omega),hX 0 h0]
 rfl
theorem mixS_size {n N : Nat} (h0 : 0 < n) {X : Nat→ByteArray} (hX : ∀ i,i < n→(X i).size = N) (C : Nat→K) : (Fd.mixS n n X (fun t => (((C t).v : Nat) : Int))).size = N:=by
 rw [(mixS_eq h0 hX C).2,Fd.strOf_size,Fd.mixAt_length N n X _ hX n (Nat.le_refl _)]
theorem shd_size {k : Nat} (k1 : 1 ≤ k) (s : ByteArray) (i : Nat) : (shd k s i).size = eachN k s.size:=by
 unfold shd
 by_cases h : i < k
 ·rw [if_pos h]; exact pc_size s h
 ·rw [if_neg h]; exact mixS_size k1 (fun j hj => pc_size s hj) (fun t => flat k (cauM k) (i * k + t))

/-! ### The chapter's example -/
end Go.Proofs.YtagijldedngcoaaGreatDoor.Zq

