/-
  Contracts of the program and of the statements (part 19 of 28).
-/
import Derived.Test.YtagijldedngcoaaGreatDoorOl18
import Derived.Test.YtagijldedngcoaaGreatDoorOl13
import Derived.Test.YtagijldedngcoaaGreatDoorOl15
import Derived.Test.YtagijldedngcoaaGreatDoorOl10
import Derived.Test.YtagijldedngcoaaGreatDoorOl16
import Derived.Maps.OwnSet
import Derived.DeepKeys4
set_option maxRecDepth 100000
set_option maxHeartbeats 3200000

namespace Go.Proofs.YtagijldedngcoaaGreatDoor
open Go.RowKit Go.Lib
section
variable {P : Program} {md : Region.Mode} {ops : Array Oper} {Q : Exit→Act→World→Prop} {S : World→Prop} {z : Nat}
def AnyZ (P : Program) (md : Region.Mode) (ops : Array Oper) (Q : Exit→Act→World→Prop) (S : World→Prop) (z : Nat) : Nat→Array Bool→Act→World→Prop
 | 0,lis,a,w => Region.ready md ops lis = []∧Q .normal a w
 | f + 1,lis,a,w => (Region.ready md ops lis = []→Q .normal a w)∧∀ j ∈ Region.ready md ops lis,wpOp P ops Q j (fun a' w' => (j ≠ z→S w')∧AnyZ P md ops Q S z f (lis.setIfInBounds j true) a' w') a w
theorem AnyZ.any : ∀ (f : Nat) (lis : Array Bool) (a : Act) (w : World),AnyZ P md ops Q S z f lis a w→wpAny P md ops Q f lis a w
 | 0,_,_,_,h => h
 | f + 1,_,_,_,h => ⟨h.1,fun j hj => wpOp_mono (fun a' w' k => AnyZ.any f _ a' w' k.2) (h.2 j hj)⟩
def waitsB (md : Region.Mode) (ops : Array Oper) (z i : Nat) : Bool:=match ops[z]? with
 | some o => o.after.any fun e => Region.binds md e && e.on == i
 | none => true
theorem not_ready {i : Nat} {lis : Array Bool} (hz : waitsB md ops z i = true) (hi : i ∈ Region.ready md ops lis) (hr : z ∈ Region.ready md ops lis) : False:=by
 obtain ⟨_,o,ho,hall⟩:=mem_ready.1 hr
 obtain ⟨h0,_⟩:=mem_ready.1 hi
 unfold waitsB at hz
 rw [ho] at hz
 obtain ⟨k,hk,he⟩:=Array.any_eq_true.1 hz
 simp only [Bool.and_eq_true,beq_iff_eq] at he
 have h1:=hall _ (Array.getElem_mem hk) he.1
 rw [he.2] at h1
 rcases Nat.lt_or_ge i lis.size with h | h
 ·simp [h] at h0 h1; rw [h0] at h1; cases h1
 ·simp [Array.getElem?_eq_none h] at h1
theorem AnyZ.first {i : Nat} {oi : Oper} {v : Value} (hi : ops[i]? = some oi) (hsel : ∀ (j : Nat) (o : Oper) cs b,ops[j]? = some o→o.op ≠ .select cs b) (hz : waitsB md ops z i = true)
  (hQ : ∀ c a w,Q (.panic c) (a.put oi.dst v) w→Q (.panic c) a w) :
  ∀ (f : Nat) (lis : Array Bool) (a : Act) (w : World),
   (∀ j oj,ops[j]? = some oj→j ≠ i→lis.getD j true = false→(∀ e ∈ oj.after,Region.binds md e = true→e.on ≠ i)→oi.apart ops oj = true) →
   i ∈ Region.ready md ops lis→YieldsIf P ops S oi v a→S w →
   AnyZ P md ops Q S z f (lis.setIfInBounds i true) (a.put oi.dst v) w→AnyZ P md ops Q S z (f + 1) lis a w
 | f,lis,a,w,hap,hr,hy,hS,H => by
  refine ⟨fun h => (by rw [h] at hr; cases hr),fun j hj => ?_⟩
  by_cases hji : j = i
  ·subst hji; exact hy.wpOp hi hS ⟨fun _ => hS,H⟩
  have hrj:=ready_mono hj hji
  match f,H with
  | 0,H => rw [H.1] at hrj; cases hrj
  | f + 1,H =>
   have hjz : j ≠ z:=fun e => not_ready hz hr (e ▸ hj)
   obtain ⟨hun,oj,hoj,hall⟩:=mem_ready.1 hj
   have hno : ∀ e ∈ oj.after,Region.binds md e = true→e.on ≠ i:=fun e he hb heq => by
    have h1:=hall e he hb
    have h0:=(mem_ready.1 hr).1
    rw [heq] at h1
    rcases Nat.lt_or_ge i lis.size with h | h
    ·simp [h] at h0 h1; rw [h0] at h1; cases h1
    ·simp [Array.getElem?_eq_none h] at h1
   have h2:=wpOp_putIf hoj (hap j oj hoj hji hun hno) (fun cs b => hsel i oi cs b hi) (fun cs b => hsel j oj cs b hoj) hQ hy (H.2 j hrj)
   refine wpOp_mono (fun a' w' h3 => ?_) h2
   have hS':=h3.2.1 hjz
   refine ⟨fun _ => hS',AnyZ.first hi hsel hz hQ f (lis.setIfInBounds j true) a' w' (fun k ok hk hki hu hn => hap k ok hk hki ?_ hn) (ready_mono hr (Ne.symm hji)) h3.1 hS' ?_⟩
   ·by_cases hjk : j = k
    ·subst hjk; exact hun
    ·rw [getD_set_ne true hjk] at hu; exact hu
   ·rw [Array.setIfInBounds_comm _ _ hji]
    exact h3.2.2
theorem AnyZ.take {i d : Nat} {oi : Oper} {v : Value} {f : Nat} {lis : Array Bool} {a : Act} {w : World} (hi : ops[i]? = some oi) (hd : oi.dst = some d)
  (hc : (Region.noSelect ops && Region.free md ops lis i && (Region.ready md ops lis).contains i && waitsB md ops z i) = true)
  (hQ : ∀ c a w,Q (.panic c) (a.put oi.dst v) w→Q (.panic c) a w) (hy : YieldsIf P ops S oi v a) (hS : S w)
  (h : AnyZ P md ops Q S z f (lis.setIfInBounds i true) ⟨a.tmps.setIfInBounds d v,a.defers⟩ w) : AnyZ P md ops Q S z (f + 1) lis a w :=
 by simp only [Bool.and_eq_true] at hc; exact AnyZ.first hi (Region.noSelect_spec hc.1.1.1) hc.2 hQ f lis a w (Region.free_spec hi hc.1.1.2) (by simpa using hc.1.2) hy hS (by rw [hd]; exact h)
theorem AnyZ.one {i : Nat} {o : Oper} {f : Nat} {lis : Array Bool} {a : Act} {w : World} (hr : Region.ready md ops lis = [i]) (ho : ops[i]? = some o)
  (h : ∀ K' : Act→World→Prop,Shut (∀ a w,(i ≠ z→S w)→((i ≠ z→S w)→AnyZ P md ops Q S z f (lis.setIfInBounds i true) a w)→K' a w)→if Region.wanted o (yielded ops a.tmps) = true then Oper.wp P o a w K' Q else K' (a.put o.dst undef) w) :
  AnyZ P md ops Q S z (f + 1) lis a w:=by
 refine ⟨fun h0 => (by rw [hr] at h0; cases h0),fun j hj => ?_⟩
 rw [hr] at hj
 have : j = i:=by simpa using hj
 subst this
 exact wpOp_step ho fun K' hK => h K' fun a w hS hW => hK a w ⟨hS,hW hS⟩
theorem AnyZ.done {lis : Array Bool} {a : Act} {w : World} (hr : Region.ready md ops lis = []) (h : Q .normal a w) : ∀ f,AnyZ P md ops Q S z f lis a w
 | 0 => ⟨hr,h⟩
 | _ + 1 => ⟨fun _ => h,by rw [hr]; simp⟩
theorem AnyZ.start {id : Nat} {a : Act} {w : World} (hm : P.follows .mixedOrders = true) (h : AnyZ P .any ops Q S z ops.size (Array.replicate ops.size false) a w.drew) : (Code.region id ops true).wp P Q a w :=
 wp_region_any hm (AnyZ.any _ _ _ _ h)
end
end Go.Proofs.YtagijldedngcoaaGreatDoor

namespace Go.Proofs.YtagijldedngcoaaGreatDoor
open Go.RowKit Go.Lib Go.Maps
theorem wlaidOut : laidOutB Tryz.prog = true:=by kernel_rfl
theorem wlaw : Keyed Tryz.prog 278:=Keyed.of_law (deep_law_laid (m:=3) wlaidOut (by omega) (of_decide_eq_true (by kernel_rfl)) (by kernel_rfl) (by kernel_rfl))
theorem wzero (w : World) : (zeroValue 3).run Tryz.prog w = .ok (.int .i64 0) w:=by kernel_rfl
def kW (z : Int) (d : ByteArray) : Lit:=.string (keyBytes [.int .i64 z,.string d.data.toList])
theorem wwf {x : Int} (h1 : 0 ≤ x) (h2 : x ≤ 65536) : (Lit.int .i64 x).wf = true:=WalkArith.wf_i64 ⟨by omega,by omega⟩
theorem kW_of {z : Int} {d : ByteArray} (h1 : 0 ≤ z) (h2 : z ≤ 65536) (h3 : d.size ≤ 1000000) : keyOf Tryz.prog 278 (.agg #[.int .i64 z,.string d]) = some (kW z d):=by
 have e0 : Tryz.prog.types.size = (Tryz.prog.types.size - 1) + 1:=by
  have : decide (0 < Tryz.prog.types.size) = true:=by kernel_rfl
  have:=of_decide_eq_true this
  omega
 have hu:=Tryz.underlying278
 have hi:=Tryz.underlying3
 have hs:=Tryz.underlying9
 have c1 : Tryz.prog.cellsOf 3 = 1:=by kernel_rfl
 have c2 : Tryz.prog.cellsOf 9 = 1:=by kernel_rfl
 have c3 : Tryz.prog.cellsOf 278 = 2:=by kernel_rfl
 have hk : Tryz.prog.keyType 278 = true:=by kernel_rfl
 have hw:=wwf h1 h2
 have hm : d.size ≤ maxLen:=by unfold maxLen; omega
 have k1 : ∀ m,Tryz.prog.keyLits (m + 1) 3 [.int .i64 z] = some [.int .i64 z]:=fun m => by
  unfold Program.keyLits
  simp [hi,hw]
 have k2 : ∀ m,Tryz.prog.keyLits (m + 1) 9 [.string d] = some [.string d.data.toList]:=fun m => by
  unfold Program.keyLits
  simp [hs,hm]
 have k3 : ∀ m,Tryz.prog.keyLits (m + 2) 278 [.int .i64 z,.string d] = some [.int .i64 z,.string d.data.toList]:=fun m => by
  unfold Program.keyLits
  simp [hu,c1,c2,c3,k1,k2]
 unfold keyOf
 rw [hu]
 simp only [hk,Value.formed,hu,c3,Bool.true_and,List.size_toArray,List.length_cons,List.length_nil,Nat.reduceAdd,beq_self_eq_true,if_true,Value.cells]
 rw [e0,show Tryz.prog.types.size - 1 + 1 + 1 = (Tryz.prog.types.size - 1) + 2 from rfl,k3]
 rfl
theorem kW_inj {z z' : Int} {d d' : ByteArray} (h1 : 0 ≤ z∧z ≤ 65536∧d.size ≤ 1000000) (h2 : 0 ≤ z'∧z' ≤ 65536∧d'.size ≤ 1000000) (h : kW z d = kW z' d') : z = z'∧d = d':=by
 have a:=kW_of h1.1 h1.2.1 h1.2.2
 have b:=kW_of h2.1 h2.2.1 h2.2.2
 rw [← h] at b
 have:=wlaw.inj a b
 simp at this
 exact this
def MW (w : World) (b n : Nat) (f : Int→ByteArray→Option Nat) : Prop :=
 ∃ D : DataW Unit,w.ownsMap Tryz.prog 278 (plainElem Tryz.prog 3) b n D∧(∀ x d,0 ≤ x→x ≤ 65536→d.size ≤ 1000000→has D (kW x d) = (f x d).isSome)∧∀ x d i,0 ≤ x→x ≤ 65536→d.size ≤ 1000000→f x d = some i→∀ z,D.atKey (kW x d) z = .lit (.int .i64 (i : Int))
section
variable {w w' : World} {b n : Nat} {f : Int→ByteArray→Option Nat}
theorem MW.made (w : World) : MW (w.alloc (.map #[] 0)) w.heap.size 0 (fun _ _ => none) :=
 ⟨_,World.ownsMap_made w _ _ _,fun x d _ _ _ => by simp [has],fun x d i _ _ _ h => by cases h⟩
theorem MW.kept {row : Option Nat} (h : MW w b n f) (hg : w.grownBy w' row) (hne : some b ≠ row) : MW w' b n f:=by
 obtain ⟨D,h1,h2⟩:=h
 exact ⟨D,h1.kept hg hne,h2⟩
theorem MW.bel (h : MW w b n f) (hb : Below w.heap.size w w') : MW w' b n f:=h.kept (row:=none) ⟨hb.os,hb.tape,hb.output,hb.size,fun i hi _ => hb.block i hi⟩ (by simp)
theorem MW.kb (h : MW w b n f) (e : w'.heap[b]? = w.heap[b]?) : MW w' b n f:=by
 obtain ⟨D,⟨es,clock,hb,h1⟩,h2⟩:=h
 exact ⟨D,⟨es,clock,e.trans hb,h1⟩,h2⟩
theorem MW.up (h : MW w b n f) {m : Nat} (hm : n ≤ m) : MW w b m f:=by
 obtain ⟨D,h1,h2⟩:=h
 exact ⟨D,h1.mono hm,h2⟩
theorem MW.isMap (h : MW w b n f) : ∃ es clock,w.heap[b]? = some (.map es clock):=by
 obtain ⟨D,⟨es,clock,hb,_⟩,_⟩:=h
 exact ⟨es,clock,hb⟩
theorem MW.look (h : MW w b n f) {x : Int} {d : ByteArray} (h1 : 0 ≤ x) (h2 : x ≤ 65536) (h3 : d.size ≤ 1000000) :
  (Instr.lookup 274 (.map (some b)) (.agg #[.int .i64 x,.string d]) true).run Tryz.prog w = .ok (.tuple #[.int .i64 (((f x d).getD 0 : Nat) : Int),.bool (f x d).isSome]) w:=by
 obtain ⟨D,hD,hh,ha⟩:=h
 obtain ⟨v,ps,hr,hv⟩:=hD.look_ok wlaw Tryz.underlying274 (wzero w) (plainElem_int Tryz.underlying3 (by decide)) (kW_of h1 h2 h3)
 obtain ⟨a,rfl,e,_⟩:=plainElem_int_inv Tryz.underlying3 hv
 rw [hr,hh x d h1 h2 h3]
 simp only [Prod.mk.injEq] at e
 cases hf : f x d with
 | none =>
  have:=atKey_of_not_has (D:=D) (k:=kW x d) (by rw [hh x d h1 h2 h3,hf]; rfl) (.lit (.int .i64 0))
  rw [this] at e
  simp at e
  rw [← e.1]
  rfl
 | some i =>
  rw [ha x d i h1 h2 h3 hf] at e
  simp at e
  rw [← e.1]
  rfl
theorem MW.update (h : MW w b n f) (hn : n ≤ 100000) {x : Int} {d : ByteArray} (h1 : 0 ≤ x) (h2 : x ≤ 65536) (h3 : d.size ≤ 1000000) {i : Nat} (hi : i ≤ 100000) :
  ∃ w',(Instr.mapUpdate 274 (.map (some b)) (.agg #[.int .i64 x,.string d]) (.int .i64 (i : Int))).run Tryz.prog w = .ok () w'∧MW w' b (n + 1) (fun y e => if y = x∧e = d then some i else f y e)∧w.grownBy w' (some b):=by
 obtain ⟨D,hD,hh,ha⟩:=h
 obtain ⟨w',hr,hD',hg⟩:=hD.update wlaw Tryz.underlying274 (by unfold maxLen; omega) (kW_of h1 h2 h3) (plainElem_int Tryz.underlying3 (a:=(i : Int)) (WalkArith.wf_i64 ⟨by omega,by omega⟩))
 have hM:=hD.isMap
 have hkl : WideAt.IsKeyLit (kW x d):=wlaw.key (kW_of h1 h2 h3)
 have hne : ∀ {y : Int} {e : ByteArray},0 ≤ y→y ≤ 65536→e.size ≤ 1000000→¬ (y = x∧e = d)→kW y e ≠ kW x d:=fun k1 k2 k3 hn he => hn (kW_inj ⟨k1,k2,k3⟩ ⟨h1,h2,h3⟩ he)
 refine ⟨w',hr,⟨_,hD',fun y e k1 k2 k3 => ?_,fun y e j k1 k2 k3 hy z => ?_⟩,hg⟩
 ·by_cases he : y = x∧e = d
  ·obtain ⟨rfl,rfl⟩:=he
   simp only [and_self,if_true,Option.isSome_some]
   exact has_true_of_atKey (fun z => atKey_put_same hM hkl _ z)
  ·simp only [if_neg he]
   rw [has_put_other (hne k1 k2 k3 he),hh y e k1 k2 k3]
 ·by_cases he : y = x∧e = d
  ·obtain ⟨rfl,rfl⟩:=he
   simp only [and_self,if_true,Option.some.injEq] at hy
   subst hy
   exact atKey_put_same hM hkl _ z
  ·simp only [if_neg he] at hy
   rw [atKey_put_other (hne k1 k2 k3 he)]
   exact ha y e j k1 k2 k3 hy z
end
end Go.Proofs.YtagijldedngcoaaGreatDoor

namespace Go.Proofs.YtagijldedngcoaaGreatDoor
open Go.RowKit Go.Lib Go.Maps

structure JOB (J : List RR→(Nat→Prop)→World→Prop) (K : List RR→Prop) (L : List QT) (b : Nat) : Prop where
 gs : ∀ {A : List RR} {P p : Nat→Prop} {w w' : World},J A P w→Gs p w w'→(∀ i,P i→¬ p i)→J A P w'
 lt : ∀ {A : List RR} {P : Nat→Prop} {w : World},J A P w→∀ i,P i→i < w.heap.size
 hb : ∀ {A : List RR} {P : Nat→Prop} {w : World},J A P w→P b
 le : ∀ {A : List RR} {P : Nat→Prop} {w : World},J A P w→A.length ≤ L.length
 next1 : ∀ {A : List RR} {P : Nat→Prop} {w : World} {q : QT},J A P w→L[A.length]? = some q→Calls Tryz.prog 38 #[.pointer (some ⟨b,0,none⟩)] w fun e w' => e = .returned (.tuple #[.agg #[.int .i64 q.st,.int .i64 q.k,.string q.n,.string q.d],.bool true])∧Below w.heap.size w w'
 next0 : ∀ {A : List RR} {P : Nat→Prop} {w : World},J A P w→A.length = L.length→Calls Tryz.prog 38 #[.pointer (some ⟨b,0,none⟩)] w fun e w' => e = .returned (.tuple #[.agg #[.int .i64 0,.int .i64 0,.string ⟨#[]⟩,.string ⟨#[]⟩],.bool false])∧Below w.heap.size w w'
 over : ∀ {A : List RR} {P : Nat→Prop} {w : World},J A P w→Calls Tryz.prog 29 #[.pointer (some ⟨b,0,none⟩)] w fun e w' => e = .returned (.bool (!decide (A.length < L.length)))∧w' = w
 give : ∀ {A : List RR} {P r0 : Nat→Prop} {w : World} {u : Value} {ll : List ByteArray} (cc : Int) (dd : ByteArray),J A P w→A.length < L.length→LS t1 1 r0 w u ll→¬ r0 b→ll.length ≤ 1000000000000→(resI (A ++ [⟨cc,dd,ll⟩])).length ≤ 1000000000000→okR ⟨cc,dd,ll⟩→Zq.Sh.Laid w→K (A ++ [⟨cc,dd,ll⟩]) →
  Calls Tryz.prog 40 #[.pointer (some ⟨b,0,none⟩),.agg #[.int .i64 cc,.string dd,u]] w fun e w' => e = .returned (.int .i64 0)∧∃ P',J (A ++ [⟨cc,dd,ll⟩]) P' w'∧Gs P w w'∧∀ i,P' i→P i ∨ w.heap.size ≤ i
theorem laid_gs {p : Nat→Prop} {w w' : World} (h : Zq.Sh.Laid w) (hg : Gs p w w') (hp : ∀ i,p i→2 ≤ i) : Zq.Sh.Laid w':=by
 have hs:=h.size
 exact h.of (hg.block _ (by omega) fun e => by have:=hp _ e; omega) (hg.block _ (by omega) fun e => by have:=hp _ e; omega)
theorem Gs.tr2 {p p' : Nat→Prop} {w w1 w2 : World} (h : Gs p w w1) (k : Gs p' w1 w2) (hp : ∀ i,i < w.heap.size→p' i→p i) : Gs p w w2 :=
 ⟨k.os.trans h.os,k.tape.trans h.tape,k.output.trans h.output,Nat.le_trans h.size k.size,fun i hi hn => (k.block i (Nat.lt_of_lt_of_le hi h.size) (fun e => hn (hp i hi e))).trans (h.block i hi hn)⟩
structure RU (J : List RR→(Nat→Prop)→World→Prop) (w wr : World) (A : List RR) (D : List QT) (S : List SS) (bs : List (Nat × Nat)) (v : Value) (Pj Py Pj' : Nat→Prop) (t : Nat) : Prop where
 j : J (A ++ yRs S (D.take t)) Pj' wr
 y : YP Py wr v (ySs S (D.take t)) bs
 g : Gs (fun i => Pj i ∨ Qs bs i) w wr
 p : ∀ i,Pj' i→Pj i ∨ w.heap.size ≤ i
 l : Zq.Sh.Laid wr
section
variable {J : List RR→(Nat→Prop)→World→Prop} {K : List RR→Prop} {L D : List QT} {b : Nat} {A : List RR} {Pj Py Pj' : Nat→Prop} {w wr w' : World} {v : Value} {S : List SS} {bs : List (Nat × Nat)} {t g : Nat}
theorem RU.bel (hJ : JOB J K L b) (h : RU J w wr A D S bs v Pj Py Pj' t) (hb : Below wr.heap.size wr w') : RU J w w' A D S bs v Pj Py Pj' t:=by
 have hl:=hJ.lt h.j
 exact ⟨hJ.gs (p:=fun i => wr.heap.size ≤ i) h.j (Gs.of_below _ hb) (fun i hi hn => by have:=hl i hi; omega),h.y.bel hb,h.g.bel hb,h.p,h.l.below hb h.l.size⟩
theorem run_any (hJ : JOB J K L b) (h : J A Pj w) (hY : YP Py w v S bs) (hap : ∀ i,Pj i→¬ Py i) (hPy : ∀ i,Py i→i < w.heap.size) (hG : GD g S) (hg : g + L.length ≤ 1000) (hI : (resI A).length ≤ 1000000000) (hq : ∀ q ∈ L,q.n.size ≤ maxLen∧q.d.size ≤ maxLen) (hLw : Zq.Sh.Laid w) (hP2 : ∀ i,Pj i→2 ≤ i) (hQ2 : ∀ i,Qs bs i→2 ≤ i) (hK : ∀ t,t ≤ L.length - A.length→K (A ++ yRs S ((L.drop A.length).take t))) (most : Int) (hm : 0 ≤ most) :
  Calls Tryz.prog 76 #[.pointer (some ⟨b,0,none⟩),v,.int .i64 most] w fun e w' => ∃ t : Nat,t = min (L.length - A.length) most.toNat∧e = .returned (.tuple #[.int .i64 (t : Int),.int .i64 (if A.length + t < L.length then 2 else 0)])∧∃ Pj',RU J w w' A (L.drop A.length) S bs v Pj Py Pj' t:=by
 obtain ⟨D,hD⟩ : ∃ D,D = L.drop A.length:=⟨_,rfl⟩
 rw [← hD] at hK ⊢
 have HKK:=hide hK
 have HL2:=hide (And.intro hLw.size (And.intro hP2 hQ2))
 have hAL:=hJ.le h
 have hDl : D.length = L.length - A.length:=by rw [hD]; simp
 have H0 : Hid (RU J w w A D S bs v Pj Py Pj 0):=⟨by simpa [yRs] using h,by simpa [ySs] using hY,Gs.refl _ _,fun i hi => .inl hi,hLw⟩
 have hm2 : ¬ most < 0:=by omega
 have HD:=hide (And.intro hD hDl)
 have hLl : L.length ≤ 1000:=by omega
 have HJ:=hide hJ
 have HG:=hide hG
 have HQ:=hide hq
 have HAP:=hide (And.intro hap hPy)
 clear h hY hap hPy hG hq hD hDl hJ hK hLw hP2 hQ2
 go_enter Tryz.func76,Tryz.ntmps76
 go_wp2
 go_loopw [6] (fun i wr => ∃ (t : Nat) (Pj' : Nat→Prop),t ≤ L.length - A.length∧(t : Int) ≤ most∧i = .int .i64 t∧RU J w wr A D S bs v Pj Py Pj' t) (fun i _ => 1000 - (intOf i).toNat)
 case atStart => exact ⟨0,Pj,Nat.zero_le _,by omega,rfl,H0.out⟩
 case round =>
  obtain ⟨t,Pj',ht,htm,rfl,hR⟩:=hrel
  have HR:=hide hR
  clear hR
  have hlen : (A ++ yRs S (D.take t)).length = A.length + t:=by
   have:=HD.out.2
   rw [List.length_append,yRs_len,List.length_take]; omega
  by_cases hlt : (t : Int) < most
  ·by_cases hw : A.length + t < L.length
   ·obtain ⟨q,hq⟩ : ∃ q,L[A.length + t]? = some q:=⟨_,List.getElem?_eq_getElem hw⟩
    have HN:=hide (HJ.out.next1 HR.out.j (by rw [hlen]; exact hq))
    have HHQ:=hide hq
    have hqs:=HQ.out q (List.mem_of_getElem? hq)
    have HDt : Hid (D.take (t + 1) = D.take t ++ [q]):=take_snoc_at (by rw [HD.out.1,List.getElem?_drop]; exact hq)
    clear hq
    go_wp2_with fail
    refine HN.out.mono ?_
    rintro e w1 ⟨rfl,hB1⟩
    obtain ⟨Zw,hZw⟩ : ∃ Zw,Zw = w1.alloc (.cells #[.int .i64 q.st,.int .i64 q.k,.string q.n,.string q.d] 81):=⟨_,rfl⟩
    have hRZ : RU J w Zw A D S bs v Pj Py Pj' t:=by
     rw [hZw]
     exact ((HR.out.bel HJ.out hB1).bel HJ.out ((Below.refl _ _).alloc (Nat.le_refl _) _))
    have hGt : GD (g + (D.take t).length) (ySs S (D.take t)):=GD.steps _ HG.out
    have htl : (D.take t).length = t:=by have:=HD.out.2; rw [List.length_take]; omega
    have HA:=hide (answer_any hRZ.y hGt (by omega) q hqs.1 hqs.2)
    have HRZ:=hide hRZ
    have HGT:=hide hGt
    have HZw:=hide hZw
    have HTL:=hide htl
    have hblk : Zw.heap[w1.heap.size]? = some (.cells #[.int .i64 q.st,.int .i64 q.k,.string q.n,.string q.d] 81 (0,0)):=by rw [hZw]; exact heap_alloc_new w1 _
    have k0 : Zw.cell? ⟨w1.heap.size,0,none⟩ = some (.int .i64 q.st):=by simp [World.cell?,hblk]
    have k1 : Zw.cell? ⟨w1.heap.size,1,none⟩ = some (.int .i64 q.k):=by simp [World.cell?,hblk]
    have k2 : Zw.cell? ⟨w1.heap.size,2,none⟩ = some (.string q.n):=by simp [World.cell?,hblk]
    have k3 : Zw.cell? ⟨w1.heap.size,3,none⟩ = some (.string q.d):=by simp [World.cell?,hblk]
    clear hRZ hGt hZw htl hblk hB1 hqs
    go_upto_region 8 with fail
    rw [← HZw.out]
    go_wp2_with fail
    refine HA.out.mono ?_
    rintro e w3 ⟨u,rfl,hAR,hY3,hG3⟩
    have hdis : ∀ i,Pj' i→¬ Py i:=fun i hi hp => by
     rcases HR.out.p i hi with h | h
     ·exact HAP.out.1 i h hp
     ·have:=HAP.out.2 i hp; omega
    have hJ3:=HJ.out.gs HRZ.out.j hG3 fun i hi hq => hdis i hi (HRZ.out.y.qs hq)
    have hbZ:=HJ.out.lt HRZ.out.j b (HJ.out.hb HRZ.out.j)
    obtain ⟨ua,uc,rfl,hTS⟩:=hAR.shp
    have hnm:=yR_names HGT.out q
    have hL3:=laid_gs HRZ.out.l hG3 HL2.out.2.2
    have hK3:=HKK.out (t + 1) (by omega)
    rw [HDt.out,yRs_snoc,← List.append_assoc] at hK3
    have hGv:=HJ.out.give (r0:=fun i => Zw.heap.size ≤ i) (yR (ySs S (D.take t)) q).c (yR (ySs S (D.take t)) q).d hJ3 (by rw [hlen]; exact hw) (hTS.ls fun i hi => (hTS.lt i hi).1) (by omega) (by have:=HTL.out; omega) (by
     have e : A ++ yRs S (D.take t) ++ [(⟨(yR (ySs S (D.take t)) q).c,(yR (ySs S (D.take t)) q).d,(yR (ySs S (D.take t)) q).l⟩ : RR)] = A ++ yRs S (D.take t ++ [q]):=by rw [yRs_snoc,List.append_assoc]
     rw [e,resI_app,List.length_append]
     have h1:=yRs_names (D.take t ++ [q]) HG.out
     have h2 : (D.take t ++ [q]).length = t + 1:=by rw [List.length_append,HTL.out]; rfl
     rw [h2] at h1
     have h3 : (t + 1) * (g + (t + 1)) ≤ 1000 * 1000:=Nat.mul_le_mul (by omega) (by omega)
     omega) (yR_ok HGT.out q) hL3 hK3
    have HGv:=hide hGv
    have HF3:=hide (And.intro hY3 (And.intro hG3 hdis))
    obtain ⟨un,hun⟩ : ∃ un,un = (yR (ySs S (D.take t)) q).l.length:=⟨_,rfl⟩
    rw [← hun] at HGv ⊢
    clear hY3 hG3 hdis hJ3 hbZ hTS hnm hGv hAR hun hK3 hL3
    go_wp2_with fail
    refine HGv.out.mono ?_
    rintro e w4 ⟨rfl,P4,hJ4,hG4,hP4⟩
    have HE : Hid (RU J w w4 A D S bs v Pj Py P4 (t + 1)):=by
     obtain ⟨hY3,hG3,hdis⟩:=HF3.out
     have hs1:=HRZ.out.g.size
     have hs2:=hG3.size
     refine ⟨?_,?_,?_,?_,?_⟩
     ·rw [HDt.out,yRs_snoc,← List.append_assoc]; exact hJ4
     ·rw [HDt.out,ySs_snoc]; exact hY3.gs hG4 fun i hi hp => hdis i hp hi
     ·refine (HRZ.out.g.tr2 hG3 fun i _ hp => .inr hp).tr2 hG4 fun i hi hp => ?_
      rcases HRZ.out.p i hp with h | h
      ·exact .inl h
      ·omega
     ·intro i hi
      rcases hP4 i hi with h | h
      ·exact HRZ.out.p i h
      ·exact .inr (by omega)
     ·refine laid_gs (laid_gs HRZ.out.l hG3 HL2.out.2.2) hG4 fun i hi => ?_
      rcases HRZ.out.p i hi with h | h
      ·exact HL2.out.2.1 i h
      ·have:=HL2.out.1; omega
    clear hJ4 hG4 hP4
    go_wp2
    exact ⟨⟨t + 1,P4,by omega,by omega,by go_num,HE.out⟩,by simp [intOf]; omega⟩
   ·have hl2 : A.length + t = L.length:=by omega
    have HN:=hide (HJ.out.next0 HR.out.j (by rw [hlen]; exact hl2))
    go_wp2_with fail
    refine HN.out.mono ?_
    rintro e w1 ⟨rfl,hB1⟩
    obtain ⟨Zw,hZw⟩ : ∃ Zw,Zw = w1.alloc (.cells #[.int .i64 0,.int .i64 0,.string ⟨#[]⟩,.string ⟨#[]⟩] 81):=⟨_,rfl⟩
    have hRZ : RU J w Zw A D S bs v Pj Py Pj' t:=by
     rw [hZw]
     exact ((HR.out.bel HJ.out hB1).bel HJ.out ((Below.refl _ _).alloc (Nat.le_refl _) _))
    have HO:=hide (HJ.out.over hRZ.j)
    rw [hlen,decide_eq_false hw] at HO
    have HRZ:=hide hRZ
    have HZw:=hide hZw
    clear hRZ hZw hB1
    go_wp2_with fail
    rw [← HZw.out]
    refine HO.out.mono ?_
    rintro e w2 ⟨rfl,rfl⟩
    have HE : Hid (∃ t' : Nat,t' = min (L.length - A.length) most.toNat∧Ending.returned (.tuple #[.int .i64 (t : Int),.int .i64 0]) = .returned (.tuple #[.int .i64 (t' : Int),.int .i64 (if A.length + t' < L.length then 2 else 0)])∧∃ Pj',RU J w w2 A D S bs v Pj Py Pj' t'):=⟨t,by omega,by rw [if_neg hw],Pj',HRZ.out⟩
    go_wp2
    go_ret2
    exact HE.out
  ·have HO:=hide (HJ.out.over HR.out.j)
   rw [hlen] at HO
   have HTM : Hid (t = min (L.length - A.length) most.toNat):=by show t = min (L.length - A.length) most.toNat; omega
   by_cases hw : A.length + t < L.length
   ·rw [decide_eq_true hw] at HO
    go_wp2_with fail
    refine HO.out.mono ?_
    rintro e w2 ⟨rfl,rfl⟩
    have HE : Hid (∃ t' : Nat,t' = min (L.length - A.length) most.toNat∧Ending.returned (.tuple #[.int .i64 (t : Int),.int .i64 2]) = .returned (.tuple #[.int .i64 (t' : Int),.int .i64 (if A.length + t' < L.length then 2 else 0)])∧∃ Pj',RU J w w2 A D S bs v Pj Py Pj' t'):=⟨t,HTM.out,by rw [if_pos hw],Pj',HR.out⟩
    go_wp2
    go_ret2
    exact HE.out
   ·rw [decide_eq_false hw] at HO
    go_wp2_with fail
    refine HO.out.mono ?_
    rintro e w2 ⟨rfl,rfl⟩
    have HE : Hid (∃ t' : Nat,t' = min (L.length - A.length) most.toNat∧Ending.returned (.tuple #[.int .i64 (t : Int),.int .i64 0]) = .returned (.tuple #[.int .i64 (t' : Int),.int .i64 (if A.length + t' < L.length then 2 else 0)])∧∃ Pj',RU J w w2 A D S bs v Pj Py Pj' t'):=⟨t,HTM.out,by rw [if_neg hw],Pj',HR.out⟩
    go_wp2
    go_ret2
    exact HE.out
end
end Go.Proofs.YtagijldedngcoaaGreatDoor

namespace Go.Proofs.YtagijldedngcoaaGreatDoor
open Go.RowKit Go.Lib Go.Maps
def Ent (F : FuncId) : Prop:=∀ (args : Array Value) (w : World),(callFunc F args).run Tryz.prog w = .ok (.enter F args) w
section
variable {r r' p : Nat→Prop} {w w' : World} {b a1 a2 a3 a4 a5 : Nat} {l : List QT} {X : List (RR × Value)} {tv rv av : Value} {st k s c N : Int} {n d : ByteArray} {go ids tx : Value} {op : Bool}
theorem next_then {F : FuncId} {fi ca : Array Value} (hent : Ent F) (h : CL r w b l X a1 a2 a3 a4 a5 (.func (.func F) fi ca) rv av) (hxl : X.length = l.length) {Q : World→Prop} (HK : Calls Tryz.prog F (fi.push av ++ ca) w fun e w' => e = .returned (.tuple #[])∧Q w') :
  Calls Tryz.prog 168 #[.pointer (some ⟨a4,0,none⟩),.pointer (some ⟨a3,0,none⟩),.pointer (some ⟨a1,0,none⟩),.pointer (some ⟨a5,0,none⟩),.pointer (some ⟨a2,0,none⟩)] w fun e w' => e = .returned (.tuple #[])∧Q w':=by
 obtain ⟨aa,ca',hav⟩:=h.o.shp
 obtain ⟨ar,cr,hrv⟩:=h.q.shp
 have y4 : w.cell? ⟨a4,0,none⟩ = some av:=by simp [World.cell?,h.h4]
 have y3 : w.cell? ⟨a3,0,none⟩ = some rv:=by simp [World.cell?,h.h3]
 have y2 : w.cell? ⟨a2,0,none⟩ = some (.func (.func F) fi ca):=by simp [World.cell?,h.h2]
 have HE:=hide HK
 rw [hav] at y4 HE
 rw [hrv] at y3
 rw [hxl] at y4 HE
 obtain ⟨ll,hll⟩ : ∃ ll,ll = l.length:=⟨_,rfl⟩
 rw [← hll] at y3 y4 HE
 have b1 : ¬ (ll : Int) < (ll : Int):=by omega
 obtain ⟨g1,g2,g3,g4⟩:=fe79
 unfold Ent at hent
 clear h hxl hav hrv hll HK
 go_enter Tryz.func168,Tryz.ntmps168
 go_wp2_with fail
 refine HE.out.mono ?_
 rintro e w1 ⟨rfl,hF⟩
 have HF:=hide hF
 clear hF
 go_wp2
 go_end0
 exact ⟨rfl,HF.out⟩
theorem take_gen (h : CL r w b l X a1 a2 a3 a4 a5 tv rv av) (hJ : JB w b true st k n d .nilFunc c N ids tx s) (x : RR × Value) (hx : LS t1 1 r w x.2 x.1.l) (hX : X.length < l.length) (hl : l.length ≤ 1000000) {Q : World→Prop}
  (HC : ∀ V v',CL r V b l (X ++ [x]) a1 a2 a3 a4 a5 tv rv v'→JB V b true st k n d .nilFunc c N ids tx s→Gs (mu b a4 av) w V→(v'.ownBlock = av.ownBlock ∨ ∀ i,v'.ownBlock = some i→w.heap.size ≤ i)→Calls Tryz.prog 168 #[.pointer (some ⟨a4,0,none⟩),.pointer (some ⟨a3,0,none⟩),.pointer (some ⟨a1,0,none⟩),.pointer (some ⟨a5,0,none⟩),.pointer (some ⟨a2,0,none⟩)] V fun e w' => e = .returned (.tuple #[])∧Q w') :
  Calls Tryz.prog 170 #[.agg #[.int .i64 x.1.c,.string x.1.d,x.2],.pointer (some ⟨a4,0,none⟩),.pointer (some ⟨a5,0,none⟩)] w fun e w' => e = .returned (.tuple #[])∧Q w':=by
 obtain ⟨au,cu,hu⟩:=hx.shp
 obtain ⟨U,hU⟩ : ∃ U,U = w.alloc (.cells #[.int .i64 x.1.c,.string x.1.d,x.2] 87):=⟨_,rfl⟩
 have hBU : Below w.heap.size w U:=by rw [hU]; exact (Below.refl _ _).alloc (Nat.le_refl _) _
 have hW:=h.bel hBU
 have hJU:=hJ.bel hBU
 have hblk : U.heap[w.heap.size]? = some (.cells #[.int .i64 x.1.c,.string x.1.d,x.2] 87 (0,0)):=by rw [hU]; exact heap_alloc_new w _
 have k0 : U.cell? ⟨w.heap.size,0,none⟩ = some (.int .i64 x.1.c):=by simp [World.cell?,hblk]
 have k1 : U.cell? ⟨w.heap.size,1,none⟩ = some (.string x.1.d):=by simp [World.cell?,hblk]
 have k2 : U.cell? ⟨w.heap.size,2,none⟩ = some x.2:=by simp [World.cell?,hblk]
 have y4 : U.cell? ⟨a4,0,none⟩ = some av:=by simp [World.cell?,hW.h4]
 obtain ⟨v',w1,hr,hsl,h4w,hCV,hJV,hGV,hov⟩:=hW.app hJU x (hx.bel hBU) (by omega)
 have hs:=store1_run (t:=170) h4w (j:=0) (v:=v') (Nat.le_of_ble_eq_true rfl) Tryz.sizeAs hsl
 obtain ⟨V,hV⟩ : ∃ V,V = w1.setCell ⟨a4,0,none⟩ v':=⟨_,rfl⟩
 rw [← hV] at hs hCV hJV hGV
 have y5 : V.cell? ⟨a5,0,none⟩ = some (.func (.func 168) #[] #[.pointer (some ⟨a4,0,none⟩),.pointer (some ⟨a3,0,none⟩),.pointer (some ⟨a1,0,none⟩),.pointer (some ⟨a5,0,none⟩),.pointer (some ⟨a2,0,none⟩)]):=by simp [World.cell?,hCV.h5]
 have hGw : Gs (mu b a4 av) w V:=(Gs.of_below _ hBU).trans hGV
 have hUs : w.heap.size ≤ U.heap.size:=hBU.size
 have HN:=hide (HC V v' hCV hJV hGw (by
  rcases hov with e | e
  ·exact .inl e
  ·exact .inr fun i hi => by rw [e] at hi; simp at hi; omega))
 have HU:=hide hU
 rw [hu] at k2 HU
 rw [hu] at hr
 rw [hu]
 clear hW hJU hblk hCV hJV hGV hov hV hGw hUs h4w hsl hU hBU hJ h hx hX hl HC
 generalize x.1.c = cc at *
 generalize x.1.d = dd at *
 generalize x.1.l.length = ln at *
 go_enter Tryz.func170,Tryz.ntmps170
 go_upto_region 1 with fail
 rw [← HU.out]
 go_wp2_with (first | (at_builtin; refine Lib.wpList_append_run _ rfl _ _ _ _ rfl _ _ rfl rfl _ _ hr ?_) | (refine wpList_store_run rfl 170 _ _ rfl _ _ rfl rfl hs ?_))
 refine HN.out.mono ?_
 rintro e w2 ⟨rfl,hF⟩
 have HF:=hide hF
 clear hF
 go_wp2
 go_end0
 exact ⟨rfl,HF.out⟩
end
def Sm (P : Nat→Prop) (w w1 : World) : Prop:=w.heap.size ≤ w1.heap.size∧∀ i,P i→i < w.heap.size→w1.heap[i]? = w.heap[i]?
theorem Sm.refl (P : Nat→Prop) (w : World) : Sm P w w:=⟨Nat.le_refl _,fun _ _ _ => rfl⟩
theorem Sm.trans {P : Nat→Prop} {w w1 w2 : World} (h : Sm P w w1) (h2 : Sm P w1 w2) : Sm P w w2:=⟨Nat.le_trans h.1 h2.1,fun i hi hl => (h2.2 i hi (Nat.lt_of_lt_of_le hl h.1)).trans (h.2 i hi hl)⟩
theorem Sm.gs {P p : Nat→Prop} {w w1 w2 : World} (h : Sm P w w1) (hg : Gs p w1 w2) (hp : ∀ i,P i→¬ p i) : Sm P w w2:=h.trans ⟨hg.size,fun i hi hl => hg.block i hl (hp i hi)⟩
theorem Sm.bel {P : Nat→Prop} {w w1 w2 : World} (h : Sm P w w1) (hb : Below w1.heap.size w1 w2) : Sm P w w2:=h.trans ⟨hb.size,fun i _ hl => hb.block i hl⟩
theorem Sm.mono {P P' : Nat→Prop} {w w1 : World} (h : Sm P w w1) (hp : ∀ i,P' i→P i) : Sm P' w w1:=⟨h.1,fun i hi => h.2 i (hp i hi)⟩
def JJ {α : Type} (b : Nat) (Fin : α→List RR→(Nat→Prop)→World→Prop) : PN α→List RR→(Nat→Prop)→World→Prop
 | .fin x,A,P,w => P b∧(∀ i,P i→i < w.heap.size)∧Fin x A P w
 | .ask q rest,A,P,w => P b∧(∀ i,P i→i < w.heap.size)∧∃ a4 a5,JB w b true q.st q.k q.n q.d (.func (.func 170) #[] #[.pointer (some ⟨a4,0,none⟩),.pointer (some ⟨a5,0,none⟩)]) 0 0 (.slice none 0 0) (.slice none 0 0) (A.length : Int) ∧
   ∀ (w1 V : World) (u' : Value) (x : RR),Sm P w w1→Zq.Sh.Laid w1→GV w1 V b 0 0 (.slice none 0 0) (.slice none 0 0) (A.length : Int) u' x.l→(resI (A ++ [x])).length ≤ 1000000000000→okR x →
    Calls Tryz.prog 170 #[.agg #[.int .i64 x.c,.string x.d,u'],.pointer (some ⟨a4,0,none⟩),.pointer (some ⟨a5,0,none⟩)] V fun e w' => e = .returned (.tuple #[])∧RDY b (fun w2 => ∃ P',JJ b Fin (rest x) (A ++ [x]) P' w2∧Gs P w1 w2∧∀ i,P' i→P i ∨ w1.heap.size ≤ i) w'
structure FK {α : Type} (b : Nat) (Fin : α→List RR→(Nat→Prop)→World→Prop) : Prop where
 gs : ∀ {x : α} {A : List RR} {P p : Nat→Prop} {w w' : World},Fin x A P w→Gs p w w'→P b→(∀ i,P i→¬ p i)→Fin x A P w'
 j : ∀ {x : α} {A : List RR} {P : Nat→Prop} {w : World},Fin x A P w→∃ c N ids tx,JB w b false 0 0 ⟨#[]⟩ ⟨#[]⟩ .nilFunc c N ids tx (A.length : Int)
theorem RDY.mono {b : Nat} {Q Q' : World→Prop} {w : World} (h : RDY b Q w) (hq : ∀ w2,Q w2→Q' w2) : RDY b Q' w:=by
 rcases h with ⟨op,st,k,n,d,fn,fi,ca,c,N,ids,tx,s,hJ,h⟩ | ⟨op,st,k,n,d,c,N,ids,tx,s,hJ,h⟩
 ·exact .inl ⟨op,st,k,n,d,fn,fi,ca,c,N,ids,tx,s,hJ,fun w3 h3 h4 => hq w3 (h w3 h3 h4)⟩
 ·exact .inr ⟨op,st,k,n,d,c,N,ids,tx,s,hJ,fun w3 h3 h4 => hq w3 (h w3 h3 h4)⟩
section
variable {α : Type} {b : Nat} {Fin : α→List RR→(Nat→Prop)→World→Prop} {A : List RR} {P p : Nat→Prop} {w w' : World} {pl : PN α}
theorem JJ.hb : ∀ {pl : PN α},JJ b Fin pl A P w→P b
 | .fin _,h => by rw [JJ] at h; exact h.1
 | .ask _ _,h => by rw [JJ] at h; exact h.1
theorem JJ.lt : ∀ {pl : PN α},JJ b Fin pl A P w→∀ i,P i→i < w.heap.size
 | .fin _,h => by rw [JJ] at h; exact h.2.1
 | .ask _ _,h => by rw [JJ] at h; exact h.2.1
theorem JJ.gs (hF : FK b Fin) (hg : Gs p w w') (hp : ∀ i,P i→¬ p i) : ∀ {pl : PN α},JJ b Fin pl A P w→JJ b Fin pl A P w'
 | .fin x,h => by
  rw [JJ] at h ⊢
  exact ⟨h.1,fun i hi => Nat.lt_of_lt_of_le (h.2.1 i hi) hg.size,hF.gs h.2.2 hg h.1 hp⟩
 | .ask q rest,h => by
  rw [JJ] at h ⊢
  obtain ⟨h1,h2,a4,a5,hJ,hC⟩:=h
  exact ⟨h1,fun i hi => Nat.lt_of_lt_of_le (h2 i hi) hg.size,a4,a5,hJ.gs hg (hp b h1),fun w1 V u' x hS => hC w1 V u' x (((Sm.refl P w).gs hg hp).trans hS)⟩
theorem jj_next {q : QT} {k : RR→PN α} (h : JJ b Fin (.ask q k) A P w) : Calls Tryz.prog 38 #[.pointer (some ⟨b,0,none⟩)] w fun e w' => e = .returned (.tuple #[.agg #[.int .i64 q.st,.int .i64 q.k,.string q.n,.string q.d],.bool true])∧Below w.heap.size w w':=by
 rw [JJ] at h
 obtain ⟨_,_,a4,a5,hJ,_⟩:=h
 exact next_on hJ
theorem jj_next0 (hF : FK b Fin) {x : α} (h : JJ b Fin (.fin x) A P w) : Calls Tryz.prog 38 #[.pointer (some ⟨b,0,none⟩)] w fun e w' => e = .returned (.tuple #[.agg #[.int .i64 0,.int .i64 0,.string ⟨#[]⟩,.string ⟨#[]⟩],.bool false])∧Below w.heap.size w w':=by
 rw [JJ] at h
 obtain ⟨c,N,ids,tx,hJ⟩:=hF.j h.2.2
 exact next_off hJ
theorem jj_over {q : QT} {k : RR→PN α} (h : JJ b Fin (.ask q k) A P w) : Calls Tryz.prog 29 #[.pointer (some ⟨b,0,none⟩)] w fun e w' => e = .returned (.bool false)∧w' = w:=by
 rw [JJ] at h
 obtain ⟨_,_,a4,a5,hJ,_⟩:=h
 exact over_any hJ
theorem jj_over1 (hF : FK b Fin) {x : α} (h : JJ b Fin (.fin x) A P w) : Calls Tryz.prog 29 #[.pointer (some ⟨b,0,none⟩)] w fun e w' => e = .returned (.bool true)∧w' = w:=by
 rw [JJ] at h
 obtain ⟨c,N,ids,tx,hJ⟩:=hF.j h.2.2
 exact over_any hJ
theorem jj_give {q : QT} {k : RR→PN α} {r0 : Nat→Prop} {u : Value} {ll : List ByteArray} (cc : Int) (dd : ByteArray) (h : JJ b Fin (.ask q k) A P w) (hA : A.length ≤ 1000000) (hu : LS t1 1 r0 w u ll) (hr0 : ¬ r0 b) (hll : ll.length ≤ 1000000000000) (hI : (resI (A ++ [⟨cc,dd,ll⟩])).length ≤ 1000000000000) (hsm : okR ⟨cc,dd,ll⟩) (hL : Zq.Sh.Laid w) :
  Calls Tryz.prog 40 #[.pointer (some ⟨b,0,none⟩),.agg #[.int .i64 cc,.string dd,u]] w fun e w' => e = .returned (.int .i64 0)∧∃ P',JJ b Fin (k ⟨cc,dd,ll⟩) (A ++ [⟨cc,dd,ll⟩]) P' w'∧Gs P w w'∧∀ i,P' i→P i ∨ w.heap.size ≤ i:=by
 rw [JJ] at h
 obtain ⟨hb,hlt,a4,a5,hJ,hC⟩:=h
 refine (give_all hJ rfl hu hr0 hll (by omega) (by omega) cc dd fun V u' hGV => hC w V u' ⟨cc,dd,ll⟩ (Sm.refl _ _) hL hGV hI hsm).mono ?_
 rintro e w7 ⟨rfl,P',hJ',hG,hP'⟩
 exact ⟨rfl,P',hJ',hG,hP'⟩
theorem jobP (hF : FK b Fin) (S : List SS) (hL : (pl.tr S).length ≤ 1000000) : JOB (fun A P w => ∃ t,t ≤ (pl.tr S).length∧A = yRs S ((pl.tr S).take t)∧JJ b Fin (pl.aft A) A P w) (fun A => ∃ t,t ≤ (pl.tr S).length∧A = yRs S ((pl.tr S).take t)) (pl.tr S) b:=by
 have hlen : ∀ t,t ≤ (pl.tr S).length→(yRs S ((pl.tr S).take t)).length = t:=fun t ht => by rw [yRs_len,List.length_take]; omega
 refine ⟨?_,?_,?_,?_,?_,?_,?_,?_⟩
 ·rintro A P p w w' ⟨t,h1,h2,h3⟩ hg hp; exact ⟨t,h1,h2,h3.gs hF hg hp⟩
 ·rintro A P w ⟨t,h1,h2,h3⟩; exact h3.lt
 ·rintro A P w ⟨t,h1,h2,h3⟩; exact h3.hb
 ·rintro A P w ⟨t,h1,rfl,h3⟩; rw [hlen t h1]; exact h1
 ·rintro A P w q ⟨t,h1,rfl,h3⟩ hq
  rw [hlen t h1] at hq
  obtain ⟨k,hk⟩:=aft_at hq
  rw [hk] at h3
  exact jj_next h3
 ·rintro A P w ⟨t,h1,rfl,h3⟩ hA
  rw [hlen t h1] at hA
  rw [hA,List.take_length,aft_end] at h3
  exact jj_next0 hF h3
 ·rintro A P w ⟨t,h1,rfl,h3⟩
  rw [hlen t h1]
  by_cases hlt : t < (pl.tr S).length
  ·obtain ⟨k,hk⟩:=aft_at (List.getElem?_eq_getElem hlt)
   rw [hk] at h3
   rw [decide_eq_true hlt]
   exact jj_over h3
  ·have : t = (pl.tr S).length:=by omega
   subst this
   rw [List.take_length,aft_end] at h3
   rw [decide_eq_false hlt]
   exact jj_over1 hF h3
 ·rintro A P r0 w u ll cc dd ⟨t,h1,rfl,h3⟩ hA hu hr0 hll hI hsm hLw ⟨t',k1,k2⟩
  rw [hlen t h1] at hA
  have e1 : t' = t + 1:=by
   have:=congrArg List.length k2
   rw [List.length_append,hlen t h1,hlen t' k1] at this
   simpa using this.symm
  subst e1
  obtain ⟨k,hk⟩:=aft_at (List.getElem?_eq_getElem hA)
  have h4:=h3
  rw [hk] at h4
  refine (jj_give cc dd h4 (by rw [hlen t h1]; omega) hu hr0 hll hI hsm hLw).mono ?_
  rintro e w7 ⟨rfl,P',hJ',hG,hP'⟩
  refine ⟨rfl,P',⟨t + 1,k1,k2,?_⟩,hG,hP'⟩
  rw [aft_snoc,hk,aft_ask]
  exact hJ'
end
section
variable {F : FuncId} {fi ca : Array Value} {b : Nat} {α : Type} {Fin : α→List RR→(Nat→Prop)→World→Prop} {l : List QT} {rest : List RR→PN α} {A0 : List RR} {e mu' r r0 : Nat→Prop} {w w0 : World} {a1 a2 a3 a4 a5 : Nat} {rv v : Value}
def KO {α : Type} (F : FuncId) (fi ca : Array Value) (b : Nat) (Fin : α→List RR→(Nat→Prop)→World→Prop) (n : Nat) (rest : List RR→PN α) (A0 : List RR) (e m : Nat→Prop) (w0 : World) : Prop :=
 ∀ (W : World) (av : Value) (X : List (RR × Value)) (r : Nat→Prop),Sm e w0 W→Zq.Sh.Laid W→JB W b true 0 0 ⟨#[]⟩ ⟨#[]⟩ .nilFunc 0 0 (.slice none 0 0) (.slice none 0 0) ((A0.length + n : Nat) : Int)→LS x3 3 r W av X→(∀ x ∈ X,LS t1 1 r W x.2 x.1.l)→X.length = n→(resI (A0 ++ X.map (·.1))).length ≤ 1000000000000→(∀ x ∈ X,okR x.1)→(∀ i,r i→w0.heap.size ≤ i∧i < W.heap.size) →
  Calls Tryz.prog F (fi.push av ++ ca) W fun er w' => er = .returned (.tuple #[])∧Gs (fun i => i = b ∨ m i) W w'∧RDY b (fun w2 => ∃ P',JJ b Fin (rest (X.map (·.1))) (A0 ++ X.map (·.1)) P' w2∧Gs (fun i => i = b ∨ m i) W w2∧∀ i,P' i→i = b ∨ e i ∨ r i ∨ W.heap.size ≤ i) w'
theorem cl_step (hent : Ent F) (hl : l.length ≤ 1000000) (heb : ¬ e b) (hme : ∀ i,mu' i→e i) (hel : ∀ i,e i→i < w0.heap.size) (hbl : b < w0.heap.size) (hb2 : 2 ≤ b) (h4 : w0.heap.size ≤ a4) (h02 : 2 ≤ w0.heap.size) {m : Nat} {X : List (RR × Value)} {av : Value} {q : QT} (hXs : ∀ x ∈ X,okR x.1) (hm : l.length = X.length + (m + 1)) (hq : l[X.length]? = some q) (hCL : CL r w b l X a1 a2 a3 a4 a5 (.func (.func F) fi ca) rv av) (hSe : Sm e w0 w) (hr : ∀ i,r i→w0.heap.size ≤ i) (ho : ∀ i,av.ownBlock = some i→w0.heap.size ≤ i)
  (hJ : JB w b true q.st q.k q.n q.d (.func (.func 170) #[] #[.pointer (some ⟨a4,0,none⟩),.pointer (some ⟨a5,0,none⟩)]) 0 0 (.slice none 0 0) (.slice none 0 0) ((A0.length + X.length : Nat) : Int))
  (ih : 0 < m→∀ (X' : List (RR × Value)) (r : Nat→Prop) (w : World) (av : Value) (q : QT),(∀ x ∈ X',okR x.1)→X'.length = X.length + 1→l[X'.length]? = some q→CL r w b l X' a1 a2 a3 a4 a5 (.func (.func F) fi ca) rv av→Sm e w0 w→(∀ i,r i→w0.heap.size ≤ i)→(∀ i,av.ownBlock = some i→w0.heap.size ≤ i) →
   JB w b true q.st q.k q.n q.d (.func (.func 170) #[] #[.pointer (some ⟨a4,0,none⟩),.pointer (some ⟨a5,0,none⟩)]) 0 0 (.slice none 0 0) (.slice none 0 0) ((A0.length + X'.length : Nat) : Int)→JJ b Fin (sqP (l.drop X'.length) (X'.map (·.1)) rest) (A0 ++ X'.map (·.1)) (fun i => i = b ∨ e i ∨ r i ∨ i = a4 ∨ av.ownBlock = some i) w)
  (HK : KO F fi ca b Fin l.length rest A0 e mu' w0) : JJ b Fin (sqP (l.drop X.length) (X.map (·.1)) rest) (A0 ++ X.map (·.1)) (fun i => i = b ∨ e i ∨ r i ∨ i = a4 ∨ av.ownBlock = some i) w:=by
 have hws:=hSe.1
 have e0 : l.drop X.length = q :: l.drop (X.length + 1):=by
  obtain ⟨h1,rfl⟩:=List.getElem?_eq_some_iff.1 hq
  exact List.drop_eq_getElem_cons h1
 rw [e0,sqP,JJ]
 have hlen : (A0 ++ X.map (·.1)).length = A0.length + X.length:=by simp
 refine ⟨.inl rfl,?_,a4,a5,?_,?_⟩
 ·rintro i (h | h | h | h | h)
  ·omega
  ·have:=hel i h; omega
  ·exact hCL.rl i h
  ·rw [h]; exact lt_of_block hCL.h4
  ·exact (hCL.o.lt i h).2
 ·rw [hlen]; exact hJ
 intro w1 V u' x hS hLw1 hGV hI hsm
 rw [hlen] at hGV
 have hJ1 : JB w1 b true q.st q.k q.n q.d (.func (.func 170) #[] #[.pointer (some ⟨a4,0,none⟩),.pointer (some ⟨a5,0,none⟩)]) 0 0 (.slice none 0 0) (.slice none 0 0) ((A0.length + X.length : Nat) : Int):=(hS.2 b (.inl rfl) hJ.lt).trans hJ
 have hC1 : CL r w1 b l X a1 a2 a3 a4 a5 (.func (.func F) fi ca) rv av:=hCL.kb hS.1 (fun i hi hri => hS.2 i (.inr (.inr (.inl hri))) hi) (hS.2 a4 (.inr (.inr (.inr (.inl rfl)))) (lt_of_block hCL.h4)) (fun i hi => hS.2 i (.inr (.inr (.inr (.inr hi)))) (hCL.o.lt i hi).2)
 have hCV0:=hC1.gb hJ1 hGV.g
 have hSe1 : Sm e w0 w1:=hSe.trans (hS.mono fun i hi => .inr (.inl hi))
 have hSeV : Sm e w0 V:=hSe1.gs hGV.g fun i hi hb => heb (hb ▸ hi)
 have hul:=hGV.u.lt
 have hw1s:=hS.1
 have hVs:=hGV.g.size
 have h4l : a4 < w1.heap.size:=lt_of_block hC1.h4
 have hCV : CL (fun i => r i ∨ u'.ownBlock = some i) V b l X a1 a2 a3 a4 a5 (.func (.func F) fi ca) rv av:=hCV0.mono (fun i hi => .inl hi) (by
   rintro (h | h)
   ·exact hCV0.nb h
   ·have:=(hul _ h).1; omega) (by
   rintro (h | h)
   ·exact hCV0.n4 h
   ·have:=(hul _ h).1; omega) (by
   rintro i hi (h | h)
   ·exact hCV0.no i hi h
   ·have:=(hul _ h).1; have:=(hC1.o.lt i hi).2; omega) (by
   rintro i (h | h)
   ·exact hCV0.rl i h
   ·exact (hul _ h).2)
 have hrV : ∀ i,(r i ∨ u'.ownBlock = some i)→w0.heap.size ≤ i:=by
  rintro i (h | h)
  ·exact hr i h
  ·have:=(hul _ h).1; omega
 have hGe : ∀ i,e i→¬ mu b a4 av i:=by
  rintro i hi (h | h | h)
  ·exact heb (h ▸ hi)
  ·have:=hel i hi; omega
  ·have:=hel i hi; have:=ho i h; omega
 have hGP : ∀ {V2 : World},Gs (mu b a4 av) V V2→Gs (fun i => i = b ∨ e i ∨ r i ∨ i = a4 ∨ av.ownBlock = some i) w1 V2:=fun h => (hGV.g.mono fun i _ hi => .inl hi).trans (h.mono fun i _ hi => by
  rcases hi with h | h | h
  ·exact .inl h
  ·exact .inr (.inr (.inr (.inl h)))
  ·exact .inr (.inr (.inr (.inr h))))
 refine take_gen hCV hGV.j (x,u') (hGV.u.ls fun i hi => .inr hi) (by omega) hl ?_
 intro V2 v' hC2 hJ2 hG2 hov
 have hA : A0 ++ (X ++ [(x,u')]).map (·.1) = A0 ++ X.map (·.1) ++ [x]:=by simp
 have hxl : (X ++ [(x,u')]).length = X.length + 1:=by simp
 have hXs2 : ∀ y ∈ X ++ [(x,u')],okR y.1:=fun y hy => by
  rcases List.mem_append.1 hy with h | h
  ·exact hXs y h
  ·simp at h; subst h; exact hsm
 have hS2 : Sm e w0 V2:=hSeV.gs hG2 hGe
 have hV2s:=hG2.size
 have hLV2 : Zq.Sh.Laid V2:=laid_gs (laid_gs hLw1 hGV.g fun i hi => by omega) hG2 fun i hi => by
  rcases hi with h | h | h
  ·omega
  ·omega
  ·have:=ho i h; omega
 have ho2 : ∀ i,v'.ownBlock = some i→w0.heap.size ≤ i:=fun i hi => by
  rcases hov with h | h
  ·rw [h] at hi; exact ho i hi
  ·have:=h i hi; omega
 have hnew : ∀ i,v'.ownBlock = some i→av.ownBlock = some i ∨ w1.heap.size ≤ i:=fun i hi => by
  rcases hov with h | h
  ·rw [h] at hi; exact .inl hi
  ·have:=h i hi; exact .inr (by omega)
 by_cases hm0 : 0 < m
 ·obtain ⟨q',hq'⟩ : ∃ q',l[(X ++ [(x,u')]).length]? = some q':=⟨_,List.getElem?_eq_getElem (by rw [hxl]; omega)⟩
  refine (next_ask hC2 hJ2 hq').mono ?_
  rintro er w3 ⟨rfl,hJ3,hG3⟩
  refine ⟨rfl,.inl ⟨_,_,_,_,_,_,_,_,_,_,_,_,_,hJ3,fun w4 hJ4 hG4 => ?_⟩⟩
  have hC4:=(hC2.gb hJ2 hG3).gb hJ3 hG4
  have hS4 : Sm e w0 w4:=(hS2.gs hG3 fun i hi hb => heb (hb ▸ hi)).gs hG4 fun i hi hb => heb (hb ▸ hi)
  have hJ5 : JB w4 b true q'.st q'.k q'.n q'.d (.func (.func 170) #[] #[.pointer (some ⟨a4,0,none⟩),.pointer (some ⟨a5,0,none⟩)]) 0 0 (.slice none 0 0) (.slice none 0 0) ((A0.length + (X ++ [(x,u')]).length : Nat) : Int):=by
   have e1 : ((A0.length + (X ++ [(x,u')]).length : Nat) : Int) = ((A0.length + X.length : Nat) : Int) + 1:=by rw [hxl]; omega
   rw [e1]
   exact hJ4
  have hJJ:=ih hm0 (X ++ [(x,u')]) _ w4 v' q' hXs2 hxl hq' hC4 hS4 hrV ho2 hJ5
  rw [hA,hxl,List.map_append] at hJJ
  refine ⟨_,hJJ,((hGP hG2).trans (hG3.mono fun i _ hi => .inl hi)).trans (hG4.mono fun i _ hi => .inl hi),?_⟩
  rintro i (h | h | (h | h) | h | h)
  ·exact .inl (.inl h)
  ·exact .inl (.inr (.inl h))
  ·exact .inl (.inr (.inr (.inl h)))
  ·exact .inr (hul _ h).1
  ·exact .inl (.inr (.inr (.inr (.inl h))))
  ·rcases hnew i h with h | h
   ·exact .inl (.inr (.inr (.inr (.inr h))))
   ·exact .inr h
 ·have hfull : (X ++ [(x,u')]).length = l.length:=by rw [hxl]; omega
  refine next_then hent hC2 hfull ((HK V2 v' (X ++ [(x,u')]) (fun i => (r i ∨ u'.ownBlock = some i) ∨ v'.ownBlock = some i) hS2 hLV2 ?_ (hC2.o.ls x3_len fun i hi => .inr hi) (fun y hy => (hC2.ns y hy).mono fun i hi => .inl hi) hfull (by rw [hA]; exact hI) hXs2 ?_).mono ?_)
  ·have e1 : ((A0.length + l.length : Nat) : Int) = ((A0.length + X.length : Nat) : Int) + 1:=by omega
   rw [e1]
   exact hJ2
  ·rintro i (h | h)
   ·exact ⟨hrV i h,hC2.rl i h⟩
   ·exact ⟨ho2 i h,(hC2.o.lt i h).2⟩
  ·rintro er w3 ⟨rfl,_,hR⟩
   refine ⟨rfl,hR.mono ?_⟩
   rintro w4 ⟨P',hJ',hG',hP'⟩
   have e1 : l.drop (X.length + 1) = []:=List.drop_eq_nil_of_le (by omega)
   rw [e1,sqP,← hA]
   have e2 : X.map (·.1) ++ [x] = (X ++ [(x,u')]).map (·.1):=by simp
   rw [e2]
   refine ⟨P',hJ',(hGP hG2).trans (hG'.mono fun i _ hi => ?_),?_⟩
   ·rcases hi with h | h
    ·exact .inl h
    ·exact .inr (.inl (hme i h))
   ·intro i hi
    rcases hP' i hi with h | h | ((h | h) | h) | h
    ·exact .inl (.inl h)
    ·exact .inl (.inr (.inl h))
    ·exact .inl (.inr (.inr (.inl h)))
    ·exact .inr (hul _ h).1
    ·rcases hnew i h with h | h
     ·exact .inl (.inr (.inr (.inr (.inr h))))
     ·exact .inr h
    ·exact .inr (by omega)
theorem cl_jj (hent : Ent F) (hb2 : 2 ≤ b) (h02 : 2 ≤ w0.heap.size) (hl : l.length ≤ 1000000) (HK : KO F fi ca b Fin l.length rest A0 e mu' w0) (heb : ¬ e b) (hme : ∀ i,mu' i→e i) (hel : ∀ i,e i→i < w0.heap.size) (hbl : b < w0.heap.size) (h4 : w0.heap.size ≤ a4) :
  ∀ (m : Nat) (X : List (RR × Value)) (r : Nat→Prop) (w : World) (av : Value) (q : QT),(∀ x ∈ X,okR x.1)→l.length = X.length + (m + 1)→l[X.length]? = some q→CL r w b l X a1 a2 a3 a4 a5 (.func (.func F) fi ca) rv av→Sm e w0 w→(∀ i,r i→w0.heap.size ≤ i)→(∀ i,av.ownBlock = some i→w0.heap.size ≤ i) →
   JB w b true q.st q.k q.n q.d (.func (.func 170) #[] #[.pointer (some ⟨a4,0,none⟩),.pointer (some ⟨a5,0,none⟩)]) 0 0 (.slice none 0 0) (.slice none 0 0) ((A0.length + X.length : Nat) : Int)→JJ b Fin (sqP (l.drop X.length) (X.map (·.1)) rest) (A0 ++ X.map (·.1)) (fun i => i = b ∨ e i ∨ r i ∨ i = a4 ∨ av.ownBlock = some i) w:=by
 intro m
 induction m with
 | zero =>
  intro X r w av q hXs hm hq hCL hSe hr ho hJ
  exact cl_step hent hl heb hme hel hbl hb2 h4 h02 hXs hm hq hCL hSe hr ho hJ (fun hX => absurd hX (by omega)) HK
 | succ m ih =>
  intro X r w av q hXs hm hq hCL hSe hr ho hJ
  exact cl_step hent hl heb hme hel hbl hb2 h4 h02 hXs hm hq hCL hSe hr ho hJ (fun _ X' r' w' av' q' hs' hX' h1 h2 h3 h5 h6 h7 => ih X' r' w' av' q' hs' (by omega) h1 h2 h3 h5 h6 h7) HK
theorem all_jj (hent : Ent F) (hb2 : 2 ≤ b) (h02 : 2 ≤ w.heap.size) (hJ : JB w b true 0 0 ⟨#[]⟩ ⟨#[]⟩ .nilFunc 0 0 (.slice none 0 0) (.slice none 0 0) (A0.length : Int)) (hv : LS q4 4 r0 w v l) (hn : 0 < l.length) (hl : l.length ≤ 1000000) (HK : KO F fi ca b Fin l.length rest A0 e mu' w) (heb : ¬ e b) (hme : ∀ i,mu' i→e i) (hel : ∀ i,e i→i < w.heap.size) :
  Calls Tryz.prog 126 #[.pointer (some ⟨b,0,none⟩),v,.func (.func F) fi ca] w fun er w' => er = .returned (.tuple #[])∧Gs (fun i => i = b) w w'∧RDY b (fun w2 => ∃ P',JJ b Fin (sqP l [] rest) A0 P' w2∧Gs (fun i => i = b) w w2∧(∀ i,P' i→i = b ∨ e i ∨ w.heap.size ≤ i)) w':=by
 refine all_any hJ hv hl (.func F) fi ca (Q:=fun w' => Gs (fun i => i = b) w w'∧RDY b (fun w2 => ∃ P',JJ b Fin (sqP l [] rest) A0 P' w2∧Gs (fun i => i = b) w w2∧(∀ i,P' i→i = b ∨ e i ∨ w.heap.size ≤ i)) w') ?_
 intro W a1 a2 a3 a4 a5 rv r hCL hJW hBW hr h4 h4l _
 obtain ⟨q,hq⟩ : ∃ q,l[0]? = some q:=⟨_,List.getElem?_eq_getElem hn⟩
 refine (next_ask hCL hJW (q:=q) hq).mono ?_
 rintro er w2 ⟨rfl,hJ2,hG2⟩
 refine ⟨rfl,(Gs.of_below _ hBW).trans hG2,.inl ⟨_,_,_,_,_,_,_,_,_,_,_,_,_,hJ2,fun w3 hJ3 hG3 => ?_⟩⟩
 have hC3:=(hCL.gb hJW hG2).gb hJ2 hG3
 have hGW : Gs (fun i => i = b) w w3:=((Gs.of_below _ hBW).trans hG2).trans hG3
 have hS3 : Sm e w w3:=(Sm.refl e w).gs hGW fun i hi hb => heb (hb ▸ hi)
 have h1:=cl_jj (rest:=rest) hent hb2 h02 hl HK heb hme hel hJ.lt h4 (l.length - 1) [] r w3 (.slice none 0 0) q (fun x hx => by simp at hx) (by simp; omega) hq hC3 hS3 hr (fun i hi => by simp [Value.ownBlock] at hi) hJ3
 simp only [List.length_nil,List.drop_zero,List.map_nil,List.append_nil] at h1
 refine ⟨_,h1,hGW,?_⟩
 rintro i (h | h | h | h | h)
 ·exact .inl h
 ·exact .inr (.inl h)
 ·exact .inr (.inr (hr i h))
 ·exact .inr (.inr (by omega))
 ·simp [Value.ownBlock] at h
end
end Go.Proofs.YtagijldedngcoaaGreatDoor

namespace Go.Proofs.YtagijldedngcoaaGreatDoor
open Go.RowKit Go.Lib Go.Maps
theorem fe_c : FE 194:=FE.of Tryz.underlying194
theorem ent_of {f : FuncId} {fn : Func} {c : Code} (hf : Tryz.prog.funcs[f]? = some fn) (hname : (fn.name == "runtime.NumGoroutine") = false) (hb : fn.body = some c) : Ent f:=fun args w => by
 have h1 : fn.name ≠ "runtime.NumGoroutine":=by simpa using hname
 simp [callFunc,hf,h1,hb]
section
variable {F : FuncId} {fi ca : Array Value} {w W : World} {b c1 : Nat} {v av : Value} {r p : Nat→Prop} {X : List (RR × Value)} {a : Option Addr} {n c : Nat} {Q : World→Prop}
theorem ask_yes {fn : Fn} (hn : 0 < n) (HA : Calls Tryz.prog 126 #[.pointer (some ⟨b,0,none⟩),.slice a n c,.func fn fi ca] w fun e w' => e = .returned (.tuple #[])∧Q w') :
  Calls Tryz.prog 162 #[.pointer (some ⟨b,0,none⟩),.slice a n c,.func fn fi ca] w fun e w' => e = .returned (.tuple #[])∧Q w':=by
 have HH:=hide HA
 have h1 : (n : Int) > 0:=by omega
 clear HA
 go_enter Tryz.func162,Tryz.ntmps162
 go_wp2_with fail
 refine HH.out.mono ?_
 rintro e w1 ⟨rfl,hF⟩
 have HF:=hide hF
 clear hF
 go_wp2
 go_end0
 exact ⟨rfl,HF.out⟩
theorem ask_no (hent : Ent F) (HA : Calls Tryz.prog F (fi.push (.slice none 0 0) ++ ca) w fun e w' => e = .returned (.tuple #[])∧Q w') :
  Calls Tryz.prog 162 #[.pointer (some ⟨b,0,none⟩),.slice none 0 0,.func (.func F) fi ca] w fun e w' => e = .returned (.tuple #[])∧Q w':=by
 have HH:=hide HA
 obtain ⟨g1,g2,g3,g4⟩:=fe79
 unfold Ent at hent
 clear HA
 go_enter Tryz.func162,Tryz.ntmps162
 go_wp2_with fail
 refine HH.out.mono ?_
 rintro e w1 ⟨rfl,hF⟩
 have HF:=hide hF
 clear hF
 go_wp2
 go_end0
 exact ⟨rfl,HF.out⟩
theorem byCodes_any {fn : Fn} : Calls Tryz.prog 164 #[.func fn fi ca] w fun e w' => e = .returned (.func (.func 208) #[] #[.pointer (some ⟨w.heap.size,0,none⟩)])∧w' = w.alloc (.cells #[.func fn fi ca] 194):=by
 have hmf : ∀ (fn : Fn) (first cap : Array Value) (w : World),(Instr.makeFunc fn first cap).run Tryz.prog w = .ok (.func fn first cap) w:=fun _ _ _ _ => rfl
 obtain ⟨g1,g2,g3,g4⟩:=fe_c
 go_enter Tryz.func164,Tryz.ntmps164
 go_wp2
 go_ret
 exact ⟨rfl,rfl⟩
theorem byCodes1_any (hent : Ent F) (hc : W.heap[c1]? = some (.cells #[.func (.func F) fi ca] 194 (0,0))) (hL : LS x3 3 r W av X) (hS : ∀ x ∈ X,∃ a n c,x.2 = .slice a n c) (hn : X.length ≤ 1000000) (hp : ¬ p c1)
  (HC : ∀ W1 cv,OW _root_.Go.Proofs.YtagijldedngcoaaGreatDoor.c1 1 33 W.heap.size cv (X.map (·.1.c)) W1→Below W.heap.size W W1→Calls Tryz.prog F (fi.push cv ++ ca) W1 fun e w' => e = .returned (.tuple #[])∧Gs p W1 w'∧Q w') :
  Calls Tryz.prog 208 #[av,.pointer (some ⟨c1,0,none⟩)] W fun e w' => e = .returned (.tuple #[])∧Gs p W w'∧Q w':=by
 have y1 : W.cell? ⟨c1,0,none⟩ = some (.func (.func F) fi ca):=by simp [World.cell?,hc]
 have HT:=hide (codesOf_any (w:=W.drew) hL hS hn)
 have HE : Hid (∀ W1 cv,OW _root_.Go.Proofs.YtagijldedngcoaaGreatDoor.c1 1 33 W.drew.heap.size cv (X.map (·.1.c)) W1→Below W.drew.heap.size W.drew W1→Calls Tryz.prog F (fi.push cv ++ ca) W1 fun e w' => e = .returned (.tuple #[])∧w'.cell? ⟨c1,0,none⟩ = some (.func (.func F) fi ca)∧Hid (Gs p W w'∧Q w')):=fun W1 cv hO hB => by
  have hB' : Below W.heap.size W W1:=⟨hB.os,hB.tape,hB.output,hB.size,hB.block⟩
  refine (HC W1 cv hO hB').mono ?_
  rintro e w' ⟨rfl,hG,hQ⟩
  have hG' : Gs p W w':=(Gs.of_below _ hB').trans hG
  exact ⟨rfl,by simp [World.cell?,hG'.block c1 (lt_of_block hc) hp,hc],hG',hQ⟩
 have HK : Hid (∀ w1,Below W.drew.heap.size W.drew w1→w1.cell? ⟨c1,0,none⟩ = some (.func (.func F) fi ca)):=fun w1 hb => (hb.cell (p:=⟨c1,0,none⟩) (lt_of_block hc)).trans y1
 unfold Ent at hent
 clear hc hL hS hn hp HC
 go_enter Tryz.func208,Tryz.ntmps208
 go_upto_region 0 with fail
 go_region_held3 (fun w' => w'.cell? ⟨c1,0,none⟩ = some (.func (.func F) fi ca)) (first | assumption)
  (first | (go_at_call 209; refine HT.out.mono ?_; rintro e w1 ⟨cv,rfl,hT1,hB1⟩; have k1:=HK.out w1 hB1) | (refine (HE.out _ _ (by assumption) (by assumption)).mono ?_; rintro e w2 ⟨rfl,k2,hF⟩))
 all_goals (go_wp2; go_end0; exact ⟨rfl,hF.out⟩)
end
end Go.Proofs.YtagijldedngcoaaGreatDoor
