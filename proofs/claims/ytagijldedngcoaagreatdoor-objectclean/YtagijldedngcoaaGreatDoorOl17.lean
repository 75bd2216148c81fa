/-
  Contracts of the program and of the statements (part 17 of 28).
-/
import Derived.Test.YtagijldedngcoaaGreatDoorOl16
set_option maxRecDepth 100000
set_option maxHeartbeats 3200000

namespace Go.Proofs.YtagijldedngcoaaGreatDoor
open Go.RowKit Go.Lib Go.Shelf
attribute [local go_sem] Oper.semAt_some
theorem lt_of_block' {w : World} {b : Nat} {o : Obj} (h : w.heap[b]? = some o) : b < w.heap.size:=(Array.getElem?_eq_some_iff.1 h).1
section
variable {w : World} {r : Nat→Prop} {K : Nat} {fv : Value} {f : List Zq.SX}
theorem cell1 {w : World} {b : Nat} {v : Value} {T : TypeId} (h : w.heap[b]? = some (.cells #[v] T (0,0))) : w.cell? ⟨b,0,none⟩ = some v∧w.frozen? ⟨b,0,none⟩ = false:=by simp [World.cell?,World.frozen?,h]
theorem two_boxes {w : World} {b : Nat} {v0 v1 : Value} {T0 T1 : TypeId} (h0 : w.heap[b]? = some (.cells #[v0] T0 (0,0))) (h1 : w.heap[b + 1]? = some (.cells #[v1] T1 (0,0))) (x y : Value) :
  (w.cell? ⟨b,0,none⟩ = some v0∧w.frozen? ⟨b,0,none⟩ = false)∧((w.setCell ⟨b,0,none⟩ x).cell? ⟨b + 1,0,none⟩ = some v1∧(w.setCell ⟨b,0,none⟩ x).frozen? ⟨b + 1,0,none⟩ = false) ∧
  ((w.setCell ⟨b,0,none⟩ x).setCell ⟨b + 1,0,none⟩ y).heap[b]? = some (.cells #[x] T0 (0,0))∧((w.setCell ⟨b,0,none⟩ x).setCell ⟨b + 1,0,none⟩ y).heap[b + 1]? = some (.cells #[y] T1 (0,0))∧Gs (fun i => i = b ∨ i = b + 1) w ((w.setCell ⟨b,0,none⟩ x).setCell ⟨b + 1,0,none⟩ y):=by
 have hG1 : Gs (fun i => i = b) w (w.setCell ⟨b,0,none⟩ x):=(Gs.refl _ _).set1 _ _
 have k0 : (w.setCell ⟨b,0,none⟩ x).heap[b]? = some (.cells #[x] T0 (0,0)):=heap_set_self h0
 have k1 : (w.setCell ⟨b,0,none⟩ x).heap[b + 1]? = some (.cells #[v1] T1 (0,0)):=(hG1.block _ (lt_of_block h1) (by omega)).trans h1
 have hG2 : Gs (fun i => i = b + 1) (w.setCell ⟨b,0,none⟩ x) ((w.setCell ⟨b,0,none⟩ x).setCell ⟨b + 1,0,none⟩ y):=(Gs.refl _ _).set1 _ _
 exact ⟨cell1 h0,cell1 k1,(hG2.block _ (lt_of_block k0) (by omega)).trans k0,heap_set_self k1,(hG1.mono fun i _ e => .inl e).trans (hG2.mono fun i _ e => .inr e)⟩
theorem gather_f (hL : Zq.Sh.Laid w) (hf : LS Zq.six 6 r w fv f) (hfl : f.length ≤ 1000) (hK : 1 ≤ K) (hK2 : K ≤ 1000) (hok : ∀ x ∈ f,x.m ≤ 9223372036854775807∧x.data.size ≤ 9223372036854775807) :
  Calls Tryz.prog 155 #[fv,.int .i64 (K : Int)] w fun e w' => ∃ d b,e = .returned (.tuple #[.string d,.bool b])∧((b = true∧gth K f = some d) ∨ (b = false∧d = ⟨#[]⟩∧gth K f = none))∧Below w.heap.size w w':=by
 obtain ⟨fa,fc,hfv⟩:=hf.shp
 obtain ⟨n0,hn0⟩ : ∃ n0,n0 = w.heap.size:=⟨_,rfl⟩
 obtain ⟨W2,hW2⟩ : ∃ W2,W2 = ((w.alloc (.cells #[.string ⟨#[]⟩] 9)).alloc (.cells #[.bool false] 4)).alloc (.cells #[.int .i64 0] 3):=⟨_,rfl⟩
 have hB2 : Below w.heap.size w W2:=by rw [hW2]; exact (((Below.refl _ _).alloc (Nat.le_refl _) _).alloc (by simp) _).alloc (by simp; omega) _
 have hs2 : W2.heap.size = n0 + 3:=by rw [hW2,hn0]; simp
 have k4 : W2.heap[n0]? = some (.cells #[.string ⟨#[]⟩] 9 (0,0)):=by
  rw [hW2,hn0,Below.heap_alloc _ _ _ (by simp; omega),Below.heap_alloc _ _ _ (by simp)]; exact heap_alloc_new w _
 have k5 : W2.heap[n0 + 1]? = some (.cells #[.bool false] 4 (0,0)):=by
  rw [hW2,hn0,Below.heap_alloc _ _ _ (by simp)]
  have:=heap_alloc_new (w.alloc (.cells #[.string ⟨#[]⟩] 9)) (.cells #[.bool false] 4 (0,0))
  simpa using this
 have k6 : W2.heap[n0 + 2]? = some (.cells #[.int .i64 0] 3 (0,0)):=by
  rw [hW2,hn0]
  have:=heap_alloc_new ((w.alloc (.cells #[.string ⟨#[]⟩] 9)).alloc (.cells #[.bool false] 4)) (.cells #[.int .i64 0] 3 (0,0))
  simpa using this
 rw [hfv]
 refine (callsIn_wide (n:=0)).1 ?_
 refine callsIn_of_wp_marks Tryz.func155 rfl trivial ?_ rfl
 simp only [Tryz.ntmps155,List.size_toArray,List.length_cons,List.length_nil,Nat.reduceAdd,Nat.reduceSub,Array.replicate_succ,Array.replicate_zero,List.push_toArray,List.append_toArray,List.nil_append,List.cons_append]
 gi_wp2
 rw [← hW2,← hn0]
 refine ⟨trivial,rfl,(callsIn_wide.2 (choices_any (K:=K))).mono ?_⟩
 rintro e W4 ⟨rfl,hW4⟩
 rw [hs2]
 have hB4 : Below W2.heap.size W2 W4:=by rw [hW4]; exact ((Below.refl _ _).alloc (Nat.le_refl _) _).alloc (by simp) _
 have hs4 : W4.heap.size = n0 + 5:=by rw [hW4]; simp; omega
 have kf : W4.heap[n0 + 3]? = some (.cells #[.slice fa f.length fc] 189 (0,0)):=by
  rw [hW4,← hs2,Below.heap_alloc _ _ _ (by simp)]; exact heap_alloc_new W2 _
 have kk : W4.heap[n0 + 4]? = some (.cells #[.int .i64 (K : Int)] 3 (0,0)):=by
  rw [hW4]
  have:=heap_alloc_new (W2.alloc (.cells #[.slice fa f.length fc] 189)) (.cells #[.int .i64 (K : Int)] 3 (0,0))
  rw [World.size_alloc,hs2] at this
  exact this
 have hBw : Below w.heap.size w W4:=hB2.trans (hB4.mono hB2.size)
 have hI0 : W4.heap[n0]? = some (.cells #[.string ⟨#[]⟩] 9 (0,0))∧W4.heap[n0 + 1]? = some (.cells #[.bool false] 4 (0,0))∧W4.heap[n0 + 2]? = some (.cells #[.int .i64 ((0 : Nat) : Int)] 3 (0,0)):=⟨(hB4.block _ (by omega)).trans k4,(hB4.block _ (by omega)).trans k5,(hB4.block _ (by omega)).trans k6⟩
 have hf4 : LS Zq.six 6 (fun i => r i∧i < w.heap.size) W4 fv f:=hf.old.bel hBw
 rw [hfv] at hf4
 have hseq:=choices1_seq (M:=fun i => i = n0 ∨ i = n0 + 1 ∨ i = n0 + 2) kf kk hf4 (fun i hi => by omega) (by omega) (by omega) (fun i hi => by omega) hfl hK hK2
 have HQ:=hide hseq
 have HI0:=hide hI0
 have HB:=hide hBw
 have HS4:=hide hs4
 have HN0:=hide hn0
 have HL:=hide hL
 have HOK:=hide hok
 have HFL:=hide (And.intro hfl (And.intro hK hK2))
 clear hseq hI0 hBw hs4 hL hok hf hfv hB2 hs2 k4 k5 k6 hB4 kf kk hf4 hW4 hn0 hW2 hfl hK hK2
 gi_wp2
 refine range_m (gf:=233) (lb:=#[.pointer (some ⟨n0 + 3,0,none⟩),.pointer (some ⟨n0 + 4,0,none⟩)]) rfl (enters_of Tryz.func233 (by kernel_rfl) rfl) HQ.out (fun i hi => by have:=HS4.out; omega) rfl (fun B t A A' v h hg => h.gs hg)
  (fun t W => (W.heap[n0]? = some (.cells #[.string ⟨#[]⟩] 9 (0,0))∧W.heap[n0 + 1]? = some (.cells #[.bool false] 4 (0,0))∧W.heap[n0 + 2]? = some (.cells #[.int .i64 (t : Int)] 3 (0,0)))∧t ≤ 1000∧Fl K f t∧Below w.heap.size w W)
  (fun c t W => ((c = .ret∧∃ d,W.heap[n0]? = some (.cells #[.string d] 9 (0,0))∧W.heap[n0 + 1]? = some (.cells #[.bool true] 4 (0,0))∧gth K f = some d) ∨ (c = .exit 0∧W.heap[n0]? = some (.cells #[.string ⟨#[]⟩] 9 (0,0))∧W.heap[n0 + 1]? = some (.cells #[.bool false] 4 (0,0))∧gth K f = none))∧Below w.heap.size w W)
  ?stb ?stbx ⟨HI0.out,by omega,fun s hs => by omega,HB.out⟩
  (fun v => { tmps:=#[.slice fa f.length fc,.int .i64 (K : Int),undef,undef,.pointer (some ⟨n0,0,none⟩),.pointer (some ⟨n0 + 1,0,none⟩),.pointer (some ⟨n0 + 1 + 1,0,none⟩),v,undef,undef,.slice fa f.length fc,.int .i64 (K : Int),.func (.func 233) #[] #[.pointer (some ⟨n0 + 3,0,none⟩),.pointer (some ⟨n0 + 4,0,none⟩)],v,undef,undef,undef,undef,undef,undef,undef,undef,undef,undef,undef,undef],defers:=[] }) ?assign ?body ?done ?stop
 case stb =>
  rintro t A A' ⟨⟨h1,h2,h3⟩,h4,h5,h6⟩ hG
  have hs:=HS4.out
  have hn:=HN0.out
  exact ⟨⟨(hG.block _ (lt_of_block h1) (by omega)).trans h1,(hG.block _ (lt_of_block h2) (by omega)).trans h2,(hG.block _ (lt_of_block h3) (by omega)).trans h3⟩,h4,h5,hG.below h6 h6.size (fun i hi => by omega)⟩
 case stbx =>
  rintro c t A A' ⟨h,h6⟩ hG
  have hs:=HS4.out
  have hn:=HN0.out
  refine ⟨?_,hG.below h6 h6.size (fun i hi => by omega)⟩
  rcases h with ⟨rfl,d,h1,h2,h3⟩ | ⟨rfl,h1,h2,h3⟩
  ·exact .inl ⟨rfl,d,(hG.block _ (lt_of_block h1) (by omega)).trans h1,(hG.block _ (lt_of_block h2) (by omega)).trans h2,h3⟩
  ·exact .inr ⟨rfl,(hG.block _ (lt_of_block h1) (by omega)).trans h1,(hG.block _ (lt_of_block h2) (by omega)).trans h2,h3⟩
 case assign =>
  intro l v W K hK
  gi_wp2
  exact hK
 case body =>
  rintro l B t v W hl1 hl2 hBW ⟨⟨h1,h2,h3⟩,h4,h5,h6⟩ hCh
  obtain ⟨z0,z1⟩:=cell1 h3
  by_cases ht : t = 1000
  ·have HE : Hid (gth K f = none∧W.heap[n0]? = some (.cells #[.string ⟨#[]⟩] 9 (0,0))∧W.heap[n0 + 1]? = some (.cells #[.bool false] 4 (0,0))∧Below w.heap.size w W):=⟨gth_none h5 h4 (.inr ht),h1,h2,h6⟩
   subst ht
   clear h1 h2 h3 h4 h5 h6 hCh
   gi_wp2
   exact ⟨Gs.refl _ _,.inr ⟨rfl,HE.out.2.1,HE.out.2.2.1,HE.out.1⟩,HE.out.2.2.2⟩
  ·have hn:=HN0.out
   have hs:=HS4.out
   obtain ⟨V,hV⟩ : ∃ V,V = W.setCell ⟨n0 + 2,0,none⟩ (.int .i64 ((t : Int) + 1)):=⟨_,rfl⟩
   have hGV : Gs (fun i => i = n0 + 2) W V:=by rw [hV]; exact (Gs.refl _ _).set1 _ _
   have k3 : V.heap[n0 + 2]? = some (.cells #[.int .i64 ((t : Int) + 1)] 3 (0,0)):=by rw [hV]; exact heap_set_self h3
   have k1:=(hGV.block n0 (lt_of_block h1) (by omega)).trans h1
   have k2:=(hGV.block (n0 + 1) (lt_of_block h2) (by omega)).trans h2
   have hBV : Below w.heap.size w V:=hGV.below h6 h6.size (fun i hi => by omega)
   obtain ⟨c,g,hit,hBg,rfl,hSQ⟩:=hCh
   have hci:=ci_ith hit
   have hpl : (pick f c).length = K:=by rw [pick_len,hci.1]
   have hSV:=hSQ.gs hGV (by omega)
   have hLX:=hSV.lx
   rw [hpl] at hLX
   obtain ⟨hfl,hK1,hK2⟩:=HFL.out
   have hmem : ∀ i,i < K→lx (pick f c) i ∈ f:=fun i hi => by
    rw [pick_at (by rw [hci.1]; exact hi)]
    have h1:=ci_lt hci hi
    rw [lx_at (List.getElem?_eq_getElem h1)]
    exact List.getElem_mem h1
   have HGA:=hide (Zq.gather_any (HL.out.below hBV HL.out.size) (by omega) hLX (fun h0 => (HOK.out _ (hmem 0 h0)).1) (fun i hi => (HOK.out _ (hmem i hi)).2))
   have hne : ¬ (t : Int) = 1000:=by omega
   have htb : (t : Int) ≤ 1000:=by omega
   have HV:=hide hV
   have HK : Hid (ith K f.length t = some c∧(pick f c).length = K∧V.heap[n0]? = some (.cells #[.string ⟨#[]⟩] 9 (0,0))∧V.heap[n0 + 1]? = some (.cells #[.bool false] 4 (0,0))∧V.heap[n0 + 2]? = some (.cells #[.int .i64 ((t : Int) + 1)] 3 (0,0))∧Below w.heap.size w V∧Gs (fun i => i = n0 + 2) W V∧Fl K f t∧t < 1000∧n0 = w.heap.size∧W4.heap.size = n0 + 5):=⟨hit,hpl,k1,k2,k3,hBV,hGV,h5,by omega,hn,hs⟩
   clear h1 h2 h3 h4 h5 h6 hGV k3 k1 k2 hBV hit hBg hSQ hci hpl hSV hLX hfl hK1 hK2 hmem hn hs hV ht
   gi_wp2
   rw [← HV.out]
   refine ⟨trivial,rfl,(CallsIn.inRound l (callsIn_wide.2 HGA.out)).mono ?_⟩
   rintro e V5 ⟨S,cc,rfl,hGA,hB5⟩
   obtain ⟨hit,hpl,k1,k2,k3,hBV,hGV,hFl,ht,hn,hs⟩:=HK.out
   rw [← hpl] at hGA
   have j1:=(hB5.block n0 (lt_of_block k1)).trans k1
   have j2:=(hB5.block (n0 + 1) (lt_of_block k2)).trans k2
   have j3:=(hB5.block (n0 + 2) (lt_of_block k3)).trans k3
   have hG5 : Gs (fun i => i = n0 ∨ i = n0 + 1 ∨ i = n0 + 2) W V5:=(hGV.mono fun i _ e => .inr (.inr e)).bel hB5
   have hBw5 : Below w.heap.size w V5:=hBV.trans (hB5.mono hBV.size)
   rcases ga_one hGA with ⟨rfl,hga⟩ | ⟨hc0,hga⟩
   ·obtain ⟨⟨z0,z1⟩,⟨z2,z3⟩,k4,k5,hG⟩:=two_boxes j1 j2 (.string S) (.bool true)
    obtain ⟨z4,z5⟩:=cell1 j2
    have HE : Hid (gth K f = some S∧((V5.setCell ⟨n0,0,none⟩ (.string S)).setCell ⟨n0 + 1,0,none⟩ (.bool true)).heap[n0]? = some (.cells #[.string S] 9 (0,0))∧((V5.setCell ⟨n0,0,none⟩ (.string S)).setCell ⟨n0 + 1,0,none⟩ (.bool true)).heap[n0 + 1]? = some (.cells #[.bool true] 4 (0,0))∧Below w.heap.size w ((V5.setCell ⟨n0,0,none⟩ (.string S)).setCell ⟨n0 + 1,0,none⟩ (.bool true))∧Gs (fun i => i = n0 ∨ i = n0 + 1 ∨ i = n0 + 2) W ((V5.setCell ⟨n0,0,none⟩ (.string S)).setCell ⟨n0 + 1,0,none⟩ (.bool true))) :=
     ⟨gth_ret hFl ht hit hga,k4,k5,hG.below hBw5 hBw5.size (fun i hi => by omega),hG5.trans (hG.mono fun i _ e => by omega)⟩
    clear hit hpl k1 k2 k3 hBV hGV hFl ht hn hs j1 j2 j3 hG5 hBw5 hga hG hGA hB5 k4 k5 HK HV HGA
    gi_wp2
    exact ⟨HE.out.2.2.2.2,.inl ⟨rfl,S,HE.out.2.1,HE.out.2.2.1,HE.out.1⟩,HE.out.2.2.2.1⟩
   ·have HE : Hid (Fl K f (t + 1)∧V5.heap[n0]? = some (.cells #[.string ⟨#[]⟩] 9 (0,0))∧V5.heap[n0 + 1]? = some (.cells #[.bool false] 4 (0,0))∧V5.heap[n0 + 2]? = some (.cells #[.int .i64 ((t : Int) + 1)] 3 (0,0))∧Below w.heap.size w V5∧Gs (fun i => i = n0 ∨ i = n0 + 1 ∨ i = n0 + 2) W V5∧t + 1 ≤ 1000) :=
     ⟨hFl.snoc hit hga,j1,j2,j3,hBw5,hG5,by omega⟩
    clear hit hpl k1 k2 k3 hBV hGV hFl ht hn hs j1 j2 j3 hG5 hBw5 hga hGA hB5 HK HV HGA
    gi_wp2
    exact ⟨HE.out.2.2.2.2.2.1,⟨HE.out.2.1,HE.out.2.2.1,HE.out.2.2.2.1⟩,HE.out.2.2.2.2.2.2,HE.out.1,HE.out.2.2.2.2.1⟩
 case done =>
  rintro D t W hD hS ⟨⟨h1,h2,h3⟩,h4,h5,h6⟩ hK
  obtain ⟨⟨z0,z1⟩,⟨z2,z3⟩,k4,k5,hG⟩:=two_boxes h1 h2 (.string ⟨#[]⟩) (.bool false)
  obtain ⟨z4,z5⟩:=cell1 h2
  have hn:=HN0.out
  have hs:=HS4.out
  have hK2:=(hG.block D (lt_of_block' hK) (by omega)).trans hK
  have HE : Hid (gth K f = none∧Below w.heap.size w ((W.setCell ⟨n0,0,none⟩ (.string ⟨#[]⟩)).setCell ⟨n0 + 1,0,none⟩ (.bool false))):=⟨gth_none h5 h4 (.inl hS),hG.below h6 h6.size (fun i hi => by omega)⟩
  have hDn : D ≠ n0∧D ≠ n0 + 1:=⟨by omega,by omega⟩
  have HD:=hide (And.intro hDn (And.intro hD (And.intro hn hs)))
  clear h1 h2 h3 h4 h5 h6 hG hD hn hs hS hDn
  gi_wp2
  refine ⟨by simp,.inl ⟨_,_,rfl,run_takeDeferred hK2,?_⟩⟩
  obtain ⟨U,hU⟩ : ∃ U,U = ((W.setCell ⟨n0,0,none⟩ (.string ⟨#[]⟩)).setCell ⟨n0 + 1,0,none⟩ (.bool false)).putObj D (.deferred none):=⟨_,rfl⟩
  rw [← hU]
  have hg9 : Gs (fun i => i = D) ((W.setCell ⟨n0,0,none⟩ (.string ⟨#[]⟩)).setCell ⟨n0 + 1,0,none⟩ (.bool false)) U:=by rw [hU]; exact gs_putObj
  obtain ⟨v4,_⟩:=cell1 ((hg9.block n0 (lt_of_block k4) (fun e => HD.out.1.1 e.symm)).trans k4)
  obtain ⟨v5,_⟩:=cell1 ((hg9.block (n0 + 1) (lt_of_block k5) (fun e => HD.out.1.2 e.symm)).trans k5)
  have HBU : Hid (Below w.heap.size w U):=hg9.below HE.out.2 HE.out.2.size (fun i hi => by have:=HD.out; omega)
  clear hU hg9
  refine ⟨.tuple #[.string ⟨#[]⟩,.bool false],by simp [results,Tryz.results155,go_sem,v4,v5],?_⟩
  exact ⟨⟨#[]⟩,false,rfl,.inr ⟨rfl,rfl,HE.out.1⟩,HBU.out⟩
 case stop =>
  rintro D c t W hD hS ⟨⟨rfl,d,h1,h2,h3⟩ | ⟨rfl,h1,h2,h3⟩,h6⟩ hK
  ·have hn:=HN0.out
   have hs:=HS4.out
   have HE : Hid (gth K f = some d∧Below w.heap.size w W):=⟨h3,h6⟩
   have hDn : D ≠ n0∧D ≠ n0 + 1:=⟨by omega,by omega⟩
   have HD:=hide (And.intro hDn (And.intro hD (And.intro hn hs)))
   clear h3 h6 hD hn hs hS hDn
   gi_wp2
   refine ⟨by simp,.inl ⟨_,_,rfl,run_takeDeferred hK,?_⟩⟩
   obtain ⟨U,hU⟩ : ∃ U,U = W.putObj D (.deferred none):=⟨_,rfl⟩
   rw [← hU]
   have hg9 : Gs (fun i => i = D) W U:=by rw [hU]; exact gs_putObj
   obtain ⟨v4,_⟩:=cell1 ((hg9.block n0 (lt_of_block h1) (fun e => HD.out.1.1 e.symm)).trans h1)
   obtain ⟨v5,_⟩:=cell1 ((hg9.block (n0 + 1) (lt_of_block h2) (fun e => HD.out.1.2 e.symm)).trans h2)
   have HBU : Hid (Below w.heap.size w U):=hg9.below HE.out.2 HE.out.2.size (fun i hi => by have:=HD.out; omega)
   clear hU hg9
   refine ⟨.tuple #[.string d,.bool true],by simp [results,Tryz.results155,go_sem,v4,v5],?_⟩
   exact ⟨d,true,rfl,.inl ⟨rfl,HE.out.1⟩,HBU.out⟩
  ·obtain ⟨⟨z0,z1⟩,⟨z2,z3⟩,k4,k5,hG⟩:=two_boxes h1 h2 (.string ⟨#[]⟩) (.bool false)
   obtain ⟨z4,z5⟩:=cell1 h2
   have hn:=HN0.out
   have hs:=HS4.out
   have hK2:=(hG.block D (lt_of_block' hK) (by omega)).trans hK
   have HE : Hid (gth K f = none∧Below w.heap.size w ((W.setCell ⟨n0,0,none⟩ (.string ⟨#[]⟩)).setCell ⟨n0 + 1,0,none⟩ (.bool false))):=⟨h3,hG.below h6 h6.size (fun i hi => by omega)⟩
   have hDn : D ≠ n0∧D ≠ n0 + 1:=⟨by omega,by omega⟩
   have HD:=hide (And.intro hDn (And.intro hD (And.intro hn hs)))
   clear h1 h2 h3 h6 hG hD hn hs hS hDn
   gi_wp2
   refine ⟨by simp,.inl ⟨_,_,rfl,run_takeDeferred hK2,?_⟩⟩
   obtain ⟨U,hU⟩ : ∃ U,U = ((W.setCell ⟨n0,0,none⟩ (.string ⟨#[]⟩)).setCell ⟨n0 + 1,0,none⟩ (.bool false)).putObj D (.deferred none):=⟨_,rfl⟩
   rw [← hU]
   have hg9 : Gs (fun i => i = D) ((W.setCell ⟨n0,0,none⟩ (.string ⟨#[]⟩)).setCell ⟨n0 + 1,0,none⟩ (.bool false)) U:=by rw [hU]; exact gs_putObj
   obtain ⟨v4,_⟩:=cell1 ((hg9.block n0 (lt_of_block k4) (fun e => HD.out.1.1 e.symm)).trans k4)
   obtain ⟨v5,_⟩:=cell1 ((hg9.block (n0 + 1) (lt_of_block k5) (fun e => HD.out.1.2 e.symm)).trans k5)
   have HBU : Hid (Below w.heap.size w U):=hg9.below HE.out.2 HE.out.2.size (fun i hi => by have:=HD.out; omega)
   clear hU hg9
   refine ⟨.tuple #[.string ⟨#[]⟩,.bool false],by simp [results,Tryz.results155,go_sem,v4,v5],?_⟩
   exact ⟨⟨#[]⟩,false,rfl,.inr ⟨rfl,rfl,HE.out.1⟩,HBU.out⟩
end
end Go.Proofs.YtagijldedngcoaaGreatDoor
