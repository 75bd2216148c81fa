/-
  Contracts of the program and of the statements (part 14 of 28).
-/
import Derived.Test.YtagijldedngcoaaGreatDoorOl13
import Derived.Test.YtagijldedngcoaaGreatDoorOl12
import Derived.Deep.MidRow
import Derived.Laws.EntriesVeiled
import Derived.Laws.Cover3
set_option maxRecDepth 100000
set_option maxHeartbeats 3200000

namespace Go.Proofs.YtagijldedngcoaaGreatDoor
open Go.RowKit Go.Lib Go.Maps

structure QT where
 st : Int
 k : Int
 n : ByteArray
 d : ByteArray
def q4 (q : QT) : List Value:=[.int .i64 q.st,.int .i64 q.k,.string q.n,.string q.d]
theorem q4_len (q : QT) : (q4 q).length = 4:=rfl
theorem q4_one (q : QT) : ∀ u ∈ q4 q,u.oneCell' = true:=by intro u hu; simp [q4] at hu; rcases hu with rfl | rfl | rfl | rfl <;> rfl

def putAll (cs : Array Value) : Nat→List Value→Array Value
 | _,[] => cs
 | o,v :: r => putAll (cs.setIfInBounds o v) (o + 1) r
theorem setCells_self {T : TypeId} {b : Nat} {fr : Nat × Nat} : ∀ (vs : List Value) (o : Nat) (w : World) (cs : Array Value),w.heap[b]? = some (.cells cs T fr)→(w.setCells b o vs).heap[b]? = some (.cells (putAll cs o vs) T fr)
 | [],_,_,_,h => h
 | v :: r,o,w,cs,h => by rw [World.setCells,putAll]; exact setCells_self r _ _ _ (heap_set_self h)
theorem Gs.cells {p : Nat→Prop} {w : World} {b : Nat} : ∀ (vs : List Value) (o : Nat) (w1 : World),Gs p w w1→(p b ∨ w.heap.size ≤ b)→Gs p w (w1.setCells b o vs)
 | [],_,_,h,_ => h
 | v :: r,o,w1,h,hb => by rw [World.setCells]; exact Gs.cells r _ _ (h.set (a:=⟨b,o,none⟩) hb v) hb
theorem Gs.set1 {w w1 : World} {b : Nat} (h : Gs (fun i => i = b) w w1) (j : Nat) (u : Value) : Gs (fun i => i = b) w (w1.setCell ⟨b,j,none⟩ u):=h.set (a:=⟨b,j,none⟩) (.inl rfl) u
theorem store_run {t T : TypeId} {b o : Nat} {w : World} {cs : Array Value} (h : w.heap[b]? = some (.cells cs T (0,0))) (vs : Array Value) (ho : o + vs.size ≤ cs.size) (hi : (Tryz.prog.info? t).map (·.size) = some vs.size) (h1 : vs.all (·.oneCell') = true) :
  (Instr.storeAt t (.pointer (some ⟨b,o,none⟩)) (.agg vs)).run Tryz.prog w = .ok () (w.setCells b o vs.toList) :=
 run_storeAt_mid (P:=Tryz.prog) w b o t vs (fun j hj => ⟨by rw [World.cell?]; simp only [h]; rw [Array.getElem?_eq_getElem (by omega)]; rfl,by simp [World.frozen?,h]⟩) hi h1

theorem store1_run {t T : TypeId} {b j : Nat} {w : World} {cs : Array Value} (h : w.heap[b]? = some (.cells cs T (0,0))) (hj : j < cs.size) (hi : (Tryz.prog.info? t).map (·.size) = some 1) {v : Value} (hv : ∃ a n c,v = .slice a n c) :
  (Instr.storeAt t (.pointer (some ⟨b,j,none⟩)) v).run Tryz.prog w = .ok () (w.setCell ⟨b,j,none⟩ v):=by
 obtain ⟨a,n,c,rfl⟩:=hv
 have hc : w.cell? ⟨b,j,none⟩ = some cs[j]:=by simp [World.cell?,h,Array.getElem?_eq_getElem hj]
 have hf : w.frozen? ⟨b,j,none⟩ = false:=by simp [World.frozen?,h]
 cases hq : Tryz.prog.info? t with
 | none => simp [hq] at hi
 | some i =>
  have hs : i.size = 1:=by simpa [hq] using hi
  simp [Instr.storeAt,Instr.sureAddr,storeVar,sizeOf,typeInfo,hq,hs,Value.cells,storeCells,Addr.add_mid,run_store_slice,stored,hc,hf]
theorem wpList_store_run {ops : Array Oper} {rest : List Oper} {op : Oper} {a : Act} {w w1 : World} {Q : Exit→Act→World→Prop} (hgd : op.guard = none) (ty : TypeId) (x y : Operand) (ho : op.op = .store ty x y)
  (p v : Value) (hx : a.eval x = p) (hy : a.eval y = v) (hr : (Instr.storeAt ty p v).run Tryz.prog w = .ok () w1)
  (h : wpList Tryz.prog ops Q rest (a.put op.dst undef) w1) : wpList Tryz.prog ops Q (op :: rest) a w :=
 wpList_plain hgd fun _ hK => by
  unfold Oper.wp execOp
  simp only [ho,hx,hy,Sem.run_bind,Sem.run_pure,Result.andThen_ok,hr]
  exact hK _ _ h
theorem fn_eqIn {T : TypeId} {A R : Array TypeId} {v : Bool} (d : Nat) (hu : Tryz.prog.underlying T = some (.func A R v)) (w : World) (fn : Fn) (fi ca : Array Value) : (Op.equalIn (d + 1) T (.func fn fi ca) .nilFunc).run Tryz.prog w = .ok false w:=by
 simp [Op.equalIn,run_underlying hu]
theorem nil_eqIn {T : TypeId} {A R : Array TypeId} {v : Bool} (d : Nat) (hu : Tryz.prog.underlying T = some (.func A R v)) (w : World) : (Op.equalIn (d + 1) T .nilFunc .nilFunc).run Tryz.prog w = .ok true w:=by
 simp [Op.equalIn,run_underlying hu]
theorem fn_eq {T : TypeId} {A R : Array TypeId} {v : Bool} (hu : Tryz.prog.underlying T = some (.func A R v)) (w : World) (fn : Fn) (fi ca : Array Value) : (Op.equal T (.func fn fi ca) .nilFunc).run Tryz.prog w = .ok false w:=fn_eqIn 9999 hu w fn fi ca
theorem nil_eq {T : TypeId} {A R : Array TypeId} {v : Bool} (hu : Tryz.prog.underlying T = some (.func A R v)) (w : World) : (Op.equal T .nilFunc .nilFunc).run Tryz.prog w = .ok true w:=nil_eqIn 9999 hu w
structure FE (T : TypeId) : Prop where
 n1 : ∀ w fn fi ca,(binOp .neq T (.func fn fi ca) .nilFunc).run Tryz.prog w = .ok (.bool true) w
 n0 : ∀ w,(binOp .neq T .nilFunc .nilFunc).run Tryz.prog w = .ok (.bool false) w
 e1 : ∀ w fn fi ca,(binOp .eql T (.func fn fi ca) .nilFunc).run Tryz.prog w = .ok (.bool false) w
 e0 : ∀ w,(binOp .eql T .nilFunc .nilFunc).run Tryz.prog w = .ok (.bool true) w
theorem FE.of {T : TypeId} {A R : Array TypeId} {v : Bool} (hu : Tryz.prog.underlying T = some (.func A R v)) : FE T :=
 ⟨fun w fn fi ca => by simp [binOp,fn_eq hu],fun w => by simp [binOp,nil_eq hu],fun w fn fi ca => by simp [binOp,fn_eq hu],fun w => by simp [binOp,nil_eq hu]⟩
theorem fe47 : FE 145:=FE.of Tryz.underlying145
theorem fe72 : FE 104:=FE.of Tryz.underlying104
theorem fe79 : FE 200:=FE.of Tryz.underlying200

def JB (w : World) (b : Nat) (op : Bool) (st k : Int) (n d : ByteArray) (go : Value) (c N : Int) (ids tx : Value) (s : Int) : Prop :=
 w.heap[b]? = some (.cells #[.bool op,.int .i64 st,.int .i64 k,.string n,.string d,go,.int .i64 c,.string ⟨#[]⟩,.int .i64 N,ids,tx,.slice none 0 0,.slice none 0 0,.int .i64 s] 149 (0,0))
section
variable {w w' : World} {b : Nat} {op : Bool} {st k c N s : Int} {n d : ByteArray} {go ids tx : Value}
theorem JB.lt (h : JB w b op st k n d go c N ids tx s) : b < w.heap.size:=lt_of_block h
theorem JB.bel (h : JB w b op st k n d go c N ids tx s) (hb : Below w.heap.size w w') : JB w' b op st k n d go c N ids tx s:=(hb.block b h.lt).trans h
theorem JB.gs {p : Nat→Prop} (h : JB w b op st k n d go c N ids tx s) (hb : Gs p w w') (hp : ¬ p b) : JB w' b op st k n d go c N ids tx s:=(hb.block b h.lt hp).trans h
theorem JB.cell (h : JB w b op st k n d go c N ids tx s) (j : Nat) : w.cell? ⟨b,j,none⟩ = (#[.bool op,.int .i64 st,.int .i64 k,.string n,.string d,go,.int .i64 c,.string ⟨#[]⟩,.int .i64 N,ids,tx,.slice none 0 0,.slice none 0 0,.int .i64 s] : Array Value)[j]?:=by
 rw [World.cell?]; simp only [show w.heap[b]? = _ from h]; rfl
theorem JB.free (h : JB w b op st k n d go c N ids tx s) (j : Nat) : w.frozen? ⟨b,j,none⟩ = false:=by simp [World.frozen?,show w.heap[b]? = _ from h]

theorem isOpen_any (h : JB w b op st k n d go c N ids tx s) :
  Calls Tryz.prog 112 #[.pointer (some ⟨b,0,none⟩)] w fun e w' => e = .returned (.bool op)∧w' = w:=by
 have y0 : w.cell? ⟨b,0,none⟩ = some (.bool op):=h.cell 0
 go_enter Tryz.func112,Tryz.ntmps112
 go_wp2
 go_ret
 exact ⟨rfl,rfl⟩
theorem settle_on {fn : Fn} {fi ca : Array Value} (h : JB w b op st k n d (.func fn fi ca) c N ids tx s) :
  Calls Tryz.prog 83 #[.pointer (some ⟨b,0,none⟩)] w fun e w' => e = .returned (.tuple #[])∧JB w' b true st k n d (.func fn fi ca) c N ids tx s∧Gs (fun i => i = b) w w':=by
 have y0 : w.cell? ⟨b,0,none⟩ = some (.bool op):=h.cell 0
 have y5 : w.cell? ⟨b,5,none⟩ = some (.func fn fi ca):=h.cell 5
 have f0:=h.free 0
 obtain ⟨g1,g2,_,_⟩:=fe47
 go_enter Tryz.func83,Tryz.ntmps83
 go_wp2
 go_end0
 exact ⟨rfl,heap_set_self h,(Gs.refl _ _).set1 _ _⟩
theorem settle_off (h : JB w b op st k n d .nilFunc c N ids tx s) :
  Calls Tryz.prog 83 #[.pointer (some ⟨b,0,none⟩)] w fun e w' => e = .returned (.tuple #[])∧JB w' b false st k n d .nilFunc c N ids tx s∧Gs (fun i => i = b) w w':=by
 have y0 : w.cell? ⟨b,0,none⟩ = some (.bool op):=h.cell 0
 have y5 : w.cell? ⟨b,5,none⟩ = some .nilFunc:=h.cell 5
 have f0:=h.free 0
 obtain ⟨g1,g2,_,_⟩:=fe47
 go_enter Tryz.func83,Tryz.ntmps83
 go_wp2
 go_end0
 exact ⟨rfl,heap_set_self h,(Gs.refl _ _).set1 _ _⟩
theorem over_any (h : JB w b op st k n d go c N ids tx s) :
  Calls Tryz.prog 29 #[.pointer (some ⟨b,0,none⟩)] w fun e w' => e = .returned (.bool !op)∧w' = w:=by
 have y0 : w.cell? ⟨b,0,none⟩ = some (.bool op):=h.cell 0
 go_enter Tryz.func29,Tryz.ntmps29
 go_wp2
 go_ret
 exact ⟨rfl,rfl⟩
theorem steps_any (h : JB w b op st k n d go c N ids tx s) :
  Calls Tryz.prog 31 #[.pointer (some ⟨b,0,none⟩)] w fun e w' => e = .returned (.int .i64 s)∧w' = w:=by
 have y0 : w.cell? ⟨b,13,none⟩ = some (.int .i64 s):=h.cell 13
 go_enter Tryz.func31,Tryz.ntmps31
 go_wp2
 go_ret
 exact ⟨rfl,rfl⟩
end
end Go.Proofs.YtagijldedngcoaaGreatDoor

namespace Go.Proofs.YtagijldedngcoaaGreatDoor
open Go.RowKit Go.Lib Go.Maps
theorem Tryz.sizeQ : (Tryz.prog.info? 81).map (·.size) = some 4:=by kernel_rfl
theorem Tryz.sizeIO : (Tryz.prog.info? 147).map (·.size) = some 13:=by kernel_rfl
section
variable {w w' : World} {b : Nat} {op : Bool} {st k c N s : Int} {n d : ByteArray} {go ids tx : Value}
theorem ask_any (h : JB w b true st k n d .nilFunc c N ids tx s) (st' k' : Int) (n' d' : ByteArray) (fn : Fn) (fi ca : Array Value) :
  Calls Tryz.prog 169 #[.pointer (some ⟨b,0,none⟩),.agg #[.int .i64 st',.int .i64 k',.string n',.string d'],.func fn fi ca] w fun e w' => e = .returned (.tuple #[])∧JB w' b true st' k' n' d' (.func fn fi ca) c N ids tx s∧Gs (fun i => i = b) w w':=by
 obtain ⟨U,hU⟩ : ∃ U,U = w.alloc (.cells #[.int .i64 st',.int .i64 k',.string n',.string d'] 81):=⟨_,rfl⟩
 have hBU : Below w.heap.size w U:=by rw [hU]; exact (Below.refl _ _).alloc (Nat.le_refl _) _
 have hJ : JB U b true st k n d .nilFunc c N ids tx s:=h.bel hBU
 have y5 : U.cell? ⟨b,5,none⟩ = some .nilFunc:=hJ.cell 5
 have hq : U.heap[w.heap.size]? = some (.cells #[.int .i64 st',.int .i64 k',.string n',.string d'] 81 (0,0)):=by rw [hU]; exact heap_alloc_new w _
 have r0 : U.cell? ⟨w.heap.size,0,none⟩ = some (.int .i64 st'):=by simp [World.cell?,hq]
 have r1 : U.cell? ⟨w.heap.size,1,none⟩ = some (.int .i64 k'):=by simp [World.cell?,hq]
 have r2 : U.cell? ⟨w.heap.size,2,none⟩ = some (.string n'):=by simp [World.cell?,hq]
 have r3 : U.cell? ⟨w.heap.size,3,none⟩ = some (.string d'):=by simp [World.cell?,hq]
 have hrun:=store_run (t:=81) (o:=1) hJ #[.int .i64 st',.int .i64 k',.string n',.string d'] (Nat.le_of_ble_eq_true rfl) Tryz.sizeQ (by simp [Value.oneCell'])
 have HJ2 : JB (U.setCells b 1 [.int .i64 st',.int .i64 k',.string n',.string d']) b true st' k' n' d' .nilFunc c N ids tx s:=setCells_self _ _ _ _ hJ
 have HG2 : Hid (Gs (fun i => i = b) w (U.setCells b 1 [.int .i64 st',.int .i64 k',.string n',.string d'])):=Gs.cells _ _ _ (Gs.of_below _ hBU) (.inl rfl)
 obtain ⟨V,hV⟩ : ∃ V,V = U.setCells b 1 [.int .i64 st',.int .i64 k',.string n',.string d']:=⟨_,rfl⟩
 simp only [] at hrun
 rw [← hV] at hrun HJ2 HG2
 have z5 : V.cell? ⟨b,5,none⟩ = some .nilFunc:=HJ2.cell 5
 have zf : V.frozen? ⟨b,5,none⟩ = false:=HJ2.free 5
 have HJ:=hide hJ
 have HU:=hide hU
 have HJ3:=hide HJ2
 clear hJ hU HJ2 hV h hq hBU
 go_enter Tryz.func169,Tryz.ntmps169
 obtain ⟨g1,g2,g3,g4⟩:=fe47
 go_upto_region 1 with fail
 rw [← HU.out]
 go_wp2_with (first | (go_at_call 112; refine (isOpen_any HJ.out).mono ?_; rintro e w1 ⟨rfl,rfl⟩) | (refine wpList_store_run rfl 81 _ _ rfl _ _ rfl rfl hrun ?_))
 go_end0
 exact ⟨rfl,heap_set_self HJ3.out,HG2.out.set1 _ _⟩
theorem next_on {fn : Fn} {fi ca : Array Value} (h : JB w b op st k n d (.func fn fi ca) c N ids tx s) :
  Calls Tryz.prog 38 #[.pointer (some ⟨b,0,none⟩)] w fun e w' => e = .returned (.tuple #[.agg #[.int .i64 st,.int .i64 k,.string n,.string d],.bool true])∧Below w.heap.size w w':=by
 have hJ:=h.bel ((Below.refl w.heap.size w).alloc (Nat.le_refl _) (.cells #[.int .i64 0,.int .i64 0,.string ⟨#[]⟩,.string ⟨#[]⟩] 81))
 have y1 : (w.alloc (.cells #[.int .i64 0,.int .i64 0,.string ⟨#[]⟩,.string ⟨#[]⟩] 81)).cell? ⟨b,1,none⟩ = some (.int .i64 st):=hJ.cell 1
 have y2 : (w.alloc (.cells #[.int .i64 0,.int .i64 0,.string ⟨#[]⟩,.string ⟨#[]⟩] 81)).cell? ⟨b,2,none⟩ = some (.int .i64 k):=hJ.cell 2
 have y3 : (w.alloc (.cells #[.int .i64 0,.int .i64 0,.string ⟨#[]⟩,.string ⟨#[]⟩] 81)).cell? ⟨b,3,none⟩ = some (.string n):=hJ.cell 3
 have y4 : (w.alloc (.cells #[.int .i64 0,.int .i64 0,.string ⟨#[]⟩,.string ⟨#[]⟩] 81)).cell? ⟨b,4,none⟩ = some (.string d):=hJ.cell 4
 have y5 : (w.alloc (.cells #[.int .i64 0,.int .i64 0,.string ⟨#[]⟩,.string ⟨#[]⟩] 81)).cell? ⟨b,5,none⟩ = some ((.func fn fi ca)):=hJ.cell 5
 have z5 : (w.alloc (.cells #[.int .i64 st,.int .i64 k,.string n,.string d] 81)).cell? ⟨b,5,none⟩ = some ((.func fn fi ca)):=(h.bel ((Below.refl w.heap.size w).alloc (Nat.le_refl _) (.cells #[.int .i64 st,.int .i64 k,.string n,.string d] 81))).cell 5
 obtain ⟨g1,g2,g3,g4⟩:=fe47
 clear hJ h
 go_enter Tryz.func38,Tryz.ntmps38
 go_upto_region 1 with fail
 go_region
 go_wp2
 exact bodyPost_ret (v:=.tuple #[.agg #[.int .i64 st,.int .i64 k,.string n,.string d],.bool true]) (by simp [results,Tryz.results38,go_sem]) rfl ⟨rfl,(Below.refl _ _).drew.alloc (Nat.le_refl _) _⟩
theorem next_off (h : JB w b op st k n d .nilFunc c N ids tx s) :
  Calls Tryz.prog 38 #[.pointer (some ⟨b,0,none⟩)] w fun e w' => e = .returned (.tuple #[.agg #[.int .i64 st,.int .i64 k,.string n,.string d],.bool false])∧Below w.heap.size w w':=by
 have hJ:=h.bel ((Below.refl w.heap.size w).alloc (Nat.le_refl _) (.cells #[.int .i64 0,.int .i64 0,.string ⟨#[]⟩,.string ⟨#[]⟩] 81))
 have y1 : (w.alloc (.cells #[.int .i64 0,.int .i64 0,.string ⟨#[]⟩,.string ⟨#[]⟩] 81)).cell? ⟨b,1,none⟩ = some (.int .i64 st):=hJ.cell 1
 have y2 : (w.alloc (.cells #[.int .i64 0,.int .i64 0,.string ⟨#[]⟩,.string ⟨#[]⟩] 81)).cell? ⟨b,2,none⟩ = some (.int .i64 k):=hJ.cell 2
 have y3 : (w.alloc (.cells #[.int .i64 0,.int .i64 0,.string ⟨#[]⟩,.string ⟨#[]⟩] 81)).cell? ⟨b,3,none⟩ = some (.string n):=hJ.cell 3
 have y4 : (w.alloc (.cells #[.int .i64 0,.int .i64 0,.string ⟨#[]⟩,.string ⟨#[]⟩] 81)).cell? ⟨b,4,none⟩ = some (.string d):=hJ.cell 4
 have y5 : (w.alloc (.cells #[.int .i64 0,.int .i64 0,.string ⟨#[]⟩,.string ⟨#[]⟩] 81)).cell? ⟨b,5,none⟩ = some (.nilFunc):=hJ.cell 5
 have z5 : (w.alloc (.cells #[.int .i64 st,.int .i64 k,.string n,.string d] 81)).cell? ⟨b,5,none⟩ = some (.nilFunc):=(h.bel ((Below.refl w.heap.size w).alloc (Nat.le_refl _) (.cells #[.int .i64 st,.int .i64 k,.string n,.string d] 81))).cell 5
 obtain ⟨g1,g2,g3,g4⟩:=fe47
 clear hJ h
 go_enter Tryz.func38,Tryz.ntmps38
 go_upto_region 1 with fail
 go_region
 go_wp2
 exact bodyPost_ret (v:=.tuple #[.agg #[.int .i64 st,.int .i64 k,.string n,.string d],.bool false]) (by simp [results,Tryz.results38,go_sem]) rfl ⟨rfl,(Below.refl _ _).drew.alloc (Nat.le_refl _) _⟩
end
end Go.Proofs.YtagijldedngcoaaGreatDoor

namespace Go.Proofs.YtagijldedngcoaaGreatDoor
open Go.RowKit Go.Lib Go.Maps
theorem Tryz.infoQ : (Tryz.prog.info? 81).map (fun i => (i.zero,i.size,i.bytes)) = some (some (.agg #[.int .i64 0,.int .i64 0,.string ⟨#[]⟩,.string ⟨#[]⟩]),4,48):=by kernel_rfl
theorem sl_eq {T e : TypeId} (hu : Tryz.prog.underlying T = some (.slice e)) (w : World) (a : Addr) (n c : Nat) : (binOp .eql T (.slice (some a) n c) (.slice none 0 0)).run Tryz.prog w = .ok (.bool false) w:=by
 simp [binOp,run_equal_slice_nil (P:=Tryz.prog) w T e (some a) n c hu]
theorem sl_nil {T e : TypeId} (hu : Tryz.prog.underlying T = some (.slice e)) (w : World) : (binOp .eql T (.slice none 0 0) (.slice none 0 0)).run Tryz.prog w = .ok (.bool true) w:=by
 simp [binOp,run_equal_slice_nil (P:=Tryz.prog) w T e none 0 0 hu]
def t1 (x : ByteArray) : List Value:=[.string x]
theorem t1_len (x : ByteArray) : (t1 x).length = 1:=rfl
theorem t1_one (x : ByteArray) : ∀ u ∈ t1 x,u.oneCell' = true:=by intro u hu; simp [t1] at hu; subst hu; rfl
theorem tc_flat : ∀ l : List ByteArray,l.flatMap t1 = tc l
 | [] => rfl
 | x :: r => by rw [List.flatMap_cons,tc_flat r]; rfl
section
variable {w w' : World} {v : Value} {l : List ByteArray} {B : Nat} {r : Nat→Prop}
theorem OW.ts (h : OW t1 1 9 B v l w) : TS B v l w:=⟨by rw [← tc_flat]; exact h.own⟩
theorem TS.ow (h : TS B v l w) : OW t1 1 9 B v l w:=⟨by rw [tc_flat]; exact h.own⟩
theorem TS.ls (h : TS B v l w) (hr : ∀ i,v.ownBlock = some i→r i) : LS t1 1 r w v l:=h.ow.ls t1_len hr
end
section
variable {w w' : World} {v : Value} {r : Nat→Prop}
theorem cloneQ {l : List QT} (hl : LS q4 4 r w v l) (hn : l.length ≤ 1000000) :
  Calls Tryz.prog 167 #[v] w fun e w' => ∃ v',e = .returned v'∧OW q4 4 81 w.heap.size v' l w'∧Below w.heap.size w w':=by
 obtain ⟨a,c,rfl,h1,h2⟩:=hl
 rcases a with _ | a
 ·have hl0 : l = []:=by
   rcases h2 with h | ⟨_,_,h,_⟩
   ·exact h
   ·cases h
  have:=h1 rfl
  subst this
  subst hl0
  have hO:=OW.nil q4 4 81 w.heap.size w
  clear h1 h2
  have k1:=sl_eq Tryz.underlying198
  have k0:=sl_nil Tryz.underlying198
  go_enter Tryz.func167,Tryz.ntmps167
  go_wp2
  go_ret
  exact ⟨_,rfl,hO,Below.refl _ _⟩
 ·have hS : LS q4 4 r w (.slice (some a) l.length c) l:=⟨_,_,rfl,h1,h2⟩
  have hal : Below w.heap.size w (w.alloc (.cells #[] 81)):=(Below.refl _ _).alloc (Nat.le_refl _) _
  obtain ⟨v',w',hr,hO,hg,_⟩:=OW.app (ST:=198) q4_len (by decide) (fun x _ => q4_one x) Tryz.underlying198 Tryz.infoQ rfl (OW.empty q4 4 81 (Nat.le_refl w.heap.size)) (hS.bel hal) (by simp; omega) (by simp; omega) (by simp)
  have HO : Hid (OW q4 4 81 w.heap.size v' l w'∧Below w.heap.size w w'):=⟨hO,hal.grown hg (by simp) (fun k hk => by simp [Value.ownBlock] at hk; omega)⟩
  generalize l.length = n at *
  clear h1 h2 hS hO hg hal
  have k1:=sl_eq Tryz.underlying198
  have k0:=sl_nil Tryz.underlying198
  go_enter Tryz.func167,Tryz.ntmps167
  go_wp2_with (at_builtin; refine Lib.wpList_append_run _ rfl _ _ _ _ rfl _ _ rfl rfl _ _ hr ?_)
  go_ret
  exact ⟨_,rfl,HO.out⟩
theorem cloneT {l : List ByteArray} (hl : LS t1 1 r w v l) (hn : l.length ≤ 1000000000000) :
  Calls Tryz.prog 82 #[v] w fun e w' => ∃ v',e = .returned v'∧TS w.heap.size v' l w'∧Below w.heap.size w w':=by
 obtain ⟨a,c,rfl,h1,h2⟩:=hl
 rcases a with _ | a
 ·have hl0 : l = []:=by
   rcases h2 with h | ⟨_,_,h,_⟩
   ·exact h
   ·cases h
  have:=h1 rfl
  subst this
  subst hl0
  have hO:=TS.nil w.heap.size w
  clear h1 h2
  have k1:=sl_eq Tryz.underlying44
  have k0:=sl_nil Tryz.underlying44
  go_enter Tryz.func82,Tryz.ntmps82
  go_wp2
  go_ret
  exact ⟨_,rfl,hO,Below.refl _ _⟩
 ·have hS : LS t1 1 r w (.slice (some a) l.length c) l:=⟨_,_,rfl,h1,h2⟩
  have hal : Below w.heap.size w (w.alloc (.cells #[] 9)):=(Below.refl _ _).alloc (Nat.le_refl _) _
  obtain ⟨v',w',hr,hO,hg,_⟩:=OW.app (ST:=44) t1_len (by decide) (fun x _ => t1_one x) Tryz.underlying44 Tryz.infoTx rfl (OW.empty t1 1 9 (Nat.le_refl w.heap.size)) (hS.bel hal) (by simp; omega) (by simp; omega) (by simp)
  have HO : Hid (TS w.heap.size v' l w'∧Below w.heap.size w w'):=⟨hO.ts,hal.grown hg (by simp) (fun k hk => by simp [Value.ownBlock] at hk; omega)⟩
  generalize l.length = n at *
  clear h1 h2 hS hO hg hal
  have k1:=sl_eq Tryz.underlying44
  have k0:=sl_nil Tryz.underlying44
  go_enter Tryz.func82,Tryz.ntmps82
  go_wp2_with (at_builtin; refine Lib.wpList_append_run _ rfl _ _ _ _ rfl _ _ rfl rfl _ _ hr ?_)
  go_ret
  exact ⟨_,rfl,HO.out⟩
theorem cloneE : Calls Tryz.prog 130 #[.slice none 0 0] w fun e w' => e = .returned (.slice none 0 0)∧w' = w:=by
 have k1:=sl_eq Tryz.underlying60
 have k0:=sl_nil Tryz.underlying60
 go_enter Tryz.func130,Tryz.ntmps130
 go_wp2
 go_ret
 exact ⟨rfl,rfl⟩
theorem cloneS : Calls Tryz.prog 131 #[.slice none 0 0] w fun e w' => e = .returned (.slice none 0 0)∧w' = w:=by
 have k1:=sl_eq Tryz.underlying61
 have k0:=sl_nil Tryz.underlying61
 go_enter Tryz.func131,Tryz.ntmps131
 go_wp2
 go_ret
 exact ⟨rfl,rfl⟩
end
end Go.Proofs.YtagijldedngcoaaGreatDoor

namespace Go.Proofs.YtagijldedngcoaaGreatDoor
open Go.RowKit Go.Lib Go.Maps
theorem Tryz.sizeTs : (Tryz.prog.info? 44).map (·.size) = some 1:=by kernel_rfl
theorem Tryz.sizeR : (Tryz.prog.info? 63).map (·.size) = some 7:=by kernel_rfl
def R7 (w : World) (X : Nat) (c N : Int) (ids tx : Value) : Prop:=w.heap[X]? = some (.cells #[.int .i64 c,.string ⟨#[]⟩,.int .i64 N,ids,tx,.slice none 0 0,.slice none 0 0] 63 (0,0))
section
variable {w w' : World} {X b : Nat} {c N s st k : Int} {ids tx go : Value} {n d : ByteArray} {r : Nat→Prop} {I T : List ByteArray}
theorem R7.lt (h : R7 w X c N ids tx) : X < w.heap.size:=lt_of_block h
theorem R7.cell (h : R7 w X c N ids tx) (j : Nat) : w.cell? ⟨X,j,none⟩ = (#[.int .i64 c,.string ⟨#[]⟩,.int .i64 N,ids,tx,.slice none 0 0,.slice none 0 0] : Array Value)[j]?:=by
 rw [World.cell?]; simp only [show w.heap[X]? = _ from h]; rfl
theorem R7.free (h : R7 w X c N ids tx) (j : Nat) : w.frozen? ⟨X,j,none⟩ = false:=by simp [World.frozen?,show w.heap[X]? = _ from h]
theorem R7.bel (h : R7 w X c N ids tx) (hb : Below w.heap.size w w') : R7 w' X c N ids tx:=(hb.block X h.lt).trans h
theorem R7.gs {p : Nat→Prop} (h : R7 w X c N ids tx) (hb : Gs p w w') (hp : ¬ p X) : R7 w' X c N ids tx:=(hb.block X h.lt hp).trans h
theorem TS.set {B j g : Nat} {u v : Value} {l : List ByteArray} (h : TS B v l w) (hg : ∀ i,v.ownBlock = some i→i ≠ g) : TS B v l (w.setCell ⟨g,j,none⟩ u) :=
 h.kb fun i hi => heap_setCell_other w ⟨g,j,none⟩ i u (hg i hi)

theorem anew_any (hI : LS t1 1 r w ids I) (hT : LS t1 1 r w tx T) (hIl : I.length ≤ 1000000000000) (hTl : T.length ≤ 1000000000000) :
  Calls Tryz.prog 75 #[.agg #[.int .i64 c,.string ⟨#[]⟩,.int .i64 N,ids,tx,.slice none 0 0,.slice none 0 0]] w fun e w' => ∃ ids' tx',e = .returned (.agg #[.int .i64 c,.string ⟨#[]⟩,.int .i64 N,ids',tx',.slice none 0 0,.slice none 0 0])∧TS w.heap.size ids' I w'∧TS w.heap.size tx' T w'∧Below w.heap.size w w':=by
 obtain ⟨U,hU⟩ : ∃ U,U = (w.alloc (.cells #[.int .i64 c,.string ⟨#[]⟩,.int .i64 N,ids,tx,.slice none 0 0,.slice none 0 0] 63)).alloc (.cells #[.int .i64 0,.string ⟨#[]⟩,.int .i64 0,.slice none 0 0,.slice none 0 0,.slice none 0 0,.slice none 0 0] 63):=⟨_,rfl⟩
 obtain ⟨X,hX⟩ : ∃ X,X = w.heap.size:=⟨_,rfl⟩
 have hBU : Below w.heap.size w U:=by rw [hU]; exact ((Below.refl _ _).alloc (Nat.le_refl _) _).alloc (by simp) _
 have hR : R7 U X c N ids tx:=by rw [hU,hX]; unfold R7; rw [Below.heap_alloc _ _ _ (by simp)]; exact heap_alloc_new w _
 have hZ : R7 U (X + 1) 0 0 (.slice none 0 0) (.slice none 0 0):=by
  rw [hU,hX]
  have:=heap_alloc_new (w.alloc (.cells #[.int .i64 c,.string ⟨#[]⟩,.int .i64 N,ids,tx,.slice none 0 0,.slice none 0 0] 63)) (.cells #[.int .i64 0,.string ⟨#[]⟩,.int .i64 0,.slice none 0 0,.slice none 0 0,.slice none 0 0,.slice none 0 0] 63 (0,0))
  simpa [R7] using this
 have hszU : U.heap.size = X + 2:=by rw [hU,hX]; simp
 have HU:=hide hU
 have HX:=hide hX
 have HB:=hide hBU
 have y3 : U.cell? ⟨X,3,none⟩ = some ids:=hR.cell 3
 have HC1:=hide (cloneT (hI.bel hBU) hIl)
 have HT:=hide (hT.old.bel hBU)
 have HR:=hide hR
 have HZ:=hide hZ
 have HS:=hide hszU
 clear hI hT hBU hR hZ hU hX hszU
 go_enter Tryz.func75,Tryz.ntmps75
 go_upto_region 1 with fail
 rw [← HU.out,← HX.out]
 go_wp2_with fail
 refine HC1.out.mono ?_
 rintro e w1 ⟨ids',rfl,hT1,hB1⟩
 have hR1:=HR.out.bel hB1
 have hZ1:=HZ.out.bel hB1
 have f3:=hR1.free 3
 have x3 : w1.cell? ⟨X,3,none⟩ = some ids:=hR1.cell 3
 have hR2 : R7 (w1.setCell ⟨X,3,none⟩ ids') X c N ids' tx:=heap_set_self hR1
 have x4 : (w1.setCell ⟨X,3,none⟩ ids').cell? ⟨X,4,none⟩ = some tx:=hR2.cell 4
 obtain ⟨V,hV⟩ : ∃ V,V = w1.setCell ⟨X,3,none⟩ ids':=⟨_,rfl⟩
 have hsz:=HS.out
 have hGV : Gs (fun i => i = X) U V:=by rw [hV]; exact ((Gs.refl _ _).bel hB1).set1 _ _
 have hTV : TS U.heap.size ids' I V:=by rw [hV]; exact hT1.set fun i hi => by have:=(hT1.lt i hi).1; omega
 have hZV : R7 V (X + 1) 0 0 (.slice none 0 0) (.slice none 0 0):=HZ.out.gs hGV (by omega)
 have hs1:=store1_run (t:=44) hR1 (j:=3) (v:=ids') (Nat.le_of_ble_eq_true rfl) Tryz.sizeTs (by obtain ⟨a,c,e⟩:=hT1.shp; exact ⟨a,_,c,e⟩)
 rw [← hV] at hR2 x4 hs1
 have HC2:=hide (cloneT (HT.out.gs hGV (fun i hi e => by have:=hi.2; have:=HX.out; omega)) hTl)
 have HF1:=hide (And.intro hGV (And.intro hTV (And.intro hZV hR2)))
 clear hGV hTV hZV hR2 hR1 hZ1 hB1 hT1 HC1 hsz
 clear hV
 go_wp2_with (refine wpList_store_run rfl 44 _ _ rfl _ _ rfl rfl hs1 ?_)
 refine HC2.out.mono ?_
 rintro e w2 ⟨tx',rfl,hT2,hB2⟩
 obtain ⟨hGV,hTV,hZV,hR2⟩:=HF1.out
 have hsz:=HS.out
 have hR3:=hR2.bel hB2
 have f4:=hR3.free 4
 have x5 : w2.cell? ⟨X,4,none⟩ = some tx:=hR3.cell 4
 have hR4 : R7 (w2.setCell ⟨X,4,none⟩ tx') X c N ids' tx':=heap_set_self hR3
 obtain ⟨V2,hV2⟩ : ∃ V2,V2 = w2.setCell ⟨X,4,none⟩ tx':=⟨_,rfl⟩
 have hVs:=hGV.size
 have hG4 : Gs (fun i => i = X) U V2:=by rw [hV2]; exact (hGV.bel hB2).set1 _ _
 have hT4 : TS U.heap.size ids' I V2:=by rw [hV2]; exact (hTV.keep hB2).set fun i hi => by have:=(hTV.lt i hi).1; omega
 have hT5 : TS U.heap.size tx' T V2:=by rw [hV2]; exact (hT2.low hVs).set fun i hi => by have:=(hT2.lt i hi).1; omega
 have hZ4 : R7 V2 (X + 1) 0 0 (.slice none 0 0) (.slice none 0 0):=HZ.out.gs hG4 (by omega)
 have hs2:=store1_run (t:=44) hR3 (j:=4) (v:=tx') (Nat.le_of_ble_eq_true rfl) Tryz.sizeTs (by obtain ⟨a,c,e⟩:=hT2.shp; exact ⟨a,_,c,e⟩)
 rw [← hV2] at hR4 hs2
 have e5 : V2.cell? ⟨X,5,none⟩ = some (.slice none 0 0):=hR4.cell 5
 have e5f:=hR4.free 5
 have hR5 : R7 (V2.setCell ⟨X,5,none⟩ (.slice none 0 0)) X c N ids' tx':=heap_set_self hR4
 have e6 : (V2.setCell ⟨X,5,none⟩ (.slice none 0 0)).cell? ⟨X,6,none⟩ = some (.slice none 0 0):=hR5.cell 6
 have e6f:=hR5.free 6
 have hR6 : R7 ((V2.setCell ⟨X,5,none⟩ (.slice none 0 0)).setCell ⟨X,6,none⟩ (.slice none 0 0)) X c N ids' tx':=heap_set_self hR5
 obtain ⟨V4,hV4⟩ : ∃ V4,V4 = (V2.setCell ⟨X,5,none⟩ (.slice none 0 0)).setCell ⟨X,6,none⟩ (.slice none 0 0):=⟨_,rfl⟩
 rw [← hV4] at hR6
 have hG6 : Gs (fun i => i = X) U V4:=by rw [hV4]; exact (hG4.set1 _ _).set1 _ _
 have hT6 : TS U.heap.size ids' I V4:=by rw [hV4]; exact (hT4.set fun i hi => by have:=(hT4.lt i hi).1; omega).set fun i hi => by have:=(hT4.lt i hi).1; omega
 have hT7 : TS U.heap.size tx' T V4:=by rw [hV4]; exact (hT5.set fun i hi => by have:=(hT5.lt i hi).1; omega).set fun i hi => by have:=(hT5.lt i hi).1; omega
 have hZ6 : R7 V4 (X + 1) 0 0 (.slice none 0 0) (.slice none 0 0):=HZ.out.gs hG6 (by omega)
 have c0 : V4.cell? ⟨X,0,none⟩ = some (.int .i64 c):=hR6.cell 0
 have c1 : V4.cell? ⟨X,1,none⟩ = some (.string ⟨#[]⟩):=hR6.cell 1
 have c2 : V4.cell? ⟨X,2,none⟩ = some (.int .i64 N):=hR6.cell 2
 have c3 : V4.cell? ⟨X,3,none⟩ = some ids':=hR6.cell 3
 have c4 : V4.cell? ⟨X,4,none⟩ = some tx':=hR6.cell 4
 have c5 : V4.cell? ⟨X,5,none⟩ = some (.slice none 0 0):=hR6.cell 5
 have c6 : V4.cell? ⟨X,6,none⟩ = some (.slice none 0 0):=hR6.cell 6
 obtain ⟨ai,ci,hei⟩:=hT6.shp
 obtain ⟨at_,ct,het⟩:=hT7.shp
 have hrun:=store_run (t:=63) (o:=0) hZ6 #[.int .i64 c,.string ⟨#[]⟩,.int .i64 N,ids',tx',.slice none 0 0,.slice none 0 0] (Nat.le_of_ble_eq_true rfl) Tryz.sizeR (by rw [hei,het]; simp [Value.oneCell'])
 obtain ⟨Y,hY⟩ : ∃ Y,Y = V4.setCells (X + 1) 0 [.int .i64 c,.string ⟨#[]⟩,.int .i64 N,ids',tx',.slice none 0 0,.slice none 0 0]:=⟨_,rfl⟩
 have hRY : R7 Y (X + 1) c N ids' tx':=by
  have h0 : V4.heap[X + 1]? = some (.cells #[.int .i64 0,.string ⟨#[]⟩,.int .i64 0,.slice none 0 0,.slice none 0 0,.slice none 0 0,.slice none 0 0] 63 (0,0)):=hZ6
  have h1:=setCells_self [.int .i64 c,.string ⟨#[]⟩,.int .i64 N,ids',tx',.slice none 0 0,.slice none 0 0] 0 V4 _ h0
  rw [← hY] at h1
  simpa [putAll,R7] using h1
 simp only [] at hrun
 rw [← hY] at hrun
 have hGY : Gs (fun i => i = X + 1) V4 Y:=by rw [hY]; exact Gs.cells _ _ _ (Gs.refl _ _) (.inl rfl)
 have HE : Hid (∃ jds ty,Ending.returned (.agg #[.int .i64 c,.string ⟨#[]⟩,.int .i64 N,ids',tx',.slice none 0 0,.slice none 0 0]) = Ending.returned (.agg #[.int .i64 c,.string ⟨#[]⟩,.int .i64 N,jds,ty,.slice none 0 0,.slice none 0 0])∧TS w.heap.size jds I Y∧TS w.heap.size ty T Y∧Below w.heap.size w Y):=by
  have hxw:=HX.out
  refine ⟨ids',tx',rfl,((hT6.kb fun i hi => hGY.block i (hT6.lt i hi).2 (by have:=(hT6.lt i hi).1; omega)).low (by omega)),((hT7.kb fun i hi => hGY.block i (hT7.lt i hi).2 (by have:=(hT7.lt i hi).1; omega)).low (by omega)),?_⟩
  exact hGY.below (hG6.below HB.out (by omega) (fun i e => by omega)) (by have:=hG6.size; omega) (fun i e => by omega)
 have r0 : Y.cell? ⟨X + 1,0,none⟩ = some (.int .i64 c):=hRY.cell 0
 have r1 : Y.cell? ⟨X + 1,1,none⟩ = some (.string ⟨#[]⟩):=hRY.cell 1
 have r2 : Y.cell? ⟨X + 1,2,none⟩ = some (.int .i64 N):=hRY.cell 2
 have r3 : Y.cell? ⟨X + 1,3,none⟩ = some ids':=hRY.cell 3
 have r4 : Y.cell? ⟨X + 1,4,none⟩ = some tx':=hRY.cell 4
 have r5 : Y.cell? ⟨X + 1,5,none⟩ = some (.slice none 0 0):=hRY.cell 5
 have r6 : Y.cell? ⟨X + 1,6,none⟩ = some (.slice none 0 0):=hRY.cell 6
 have HV2:=hide hV2
 have HV4:=hide hV4
 have HEI:=hide hei
 have HET:=hide het
 clear hV2 hV4 hY hGV hTV hZV hR2 hR3 hR4 hR5 hR6 hG4 hT4 hT5 hZ4 hG6 hT6 hT7 hZ6 hRY hGY hB2 hT2 hei het HF1 HC2 hVs hsz
 go_wp2_with (first | (go_at_call 130; refine cloneE.mono ?_; rintro e w3 ⟨rfl,rfl⟩) | (go_at_call 131; refine cloneS.mono ?_; rintro e w3 ⟨rfl,rfl⟩) | (refine wpList_store_run rfl 44 _ _ rfl _ _ rfl rfl hs2 ?_))
 rw [← HV4.out]
 refine wp_loop_rounds 1 ?_
 rw [rounds_succ]
 go_wp2_with (refine wpList_store_run rfl 63 _ _ rfl _ _ rfl rfl hrun ?_)
 exact bodyPost_ret (v:=.agg #[.int .i64 c,.string ⟨#[]⟩,.int .i64 N,ids',tx',.slice none 0 0,.slice none 0 0]) (by simp [results,Tryz.results75,go_sem,r0,r1,r2,r3,r4,r5,r6]) rfl HE.out
end
end Go.Proofs.YtagijldedngcoaaGreatDoor

namespace Go.Proofs.YtagijldedngcoaaGreatDoor
open Go.RowKit Go.Lib Go.Maps
section
variable {w w' : World} {X b : Nat} {op : Bool} {c N s st k c0 N0 : Int} {ids tx go i0 t0 : Value} {n d : ByteArray} {r : Nat→Prop} {I T : List ByteArray}
theorem r7_new (w : World) (c N : Int) (ids tx : Value) : R7 (w.alloc (.cells #[.int .i64 c,.string ⟨#[]⟩,.int .i64 N,ids,tx,.slice none 0 0,.slice none 0 0] 63)) w.heap.size c N ids tx:=heap_alloc_new w _
theorem end_on (h : JB w b true st k n d go c0 N0 i0 t0 s) (hI : LS t1 1 r w ids I) (hT : LS t1 1 r w tx T) (hIl : I.length ≤ 1000000000000) (hTl : T.length ≤ 1000000000000) :
  Calls Tryz.prog 62 #[.pointer (some ⟨b,0,none⟩),.agg #[.int .i64 c,.string ⟨#[]⟩,.int .i64 N,ids,tx,.slice none 0 0,.slice none 0 0]] w fun e w' => e = .returned (.tuple #[])∧∃ ids' tx',JB w' b false 0 0 ⟨#[]⟩ ⟨#[]⟩ .nilFunc c N ids' tx' s∧TS w.heap.size ids' I w'∧TS w.heap.size tx' T w'∧Gs (fun i => i = b) w w':=by
 obtain ⟨U,hU⟩ : ∃ U,U = w.alloc (.cells #[.int .i64 c,.string ⟨#[]⟩,.int .i64 N,ids,tx,.slice none 0 0,.slice none 0 0] 63):=⟨_,rfl⟩
 obtain ⟨X,hX⟩ : ∃ X,X = w.heap.size:=⟨_,rfl⟩
 have hBU : Below w.heap.size w U:=by rw [hU]; exact (Below.refl _ _).alloc (Nat.le_refl _) _
 have hR : R7 U X c N ids tx:=by rw [hU,hX]; exact r7_new _ _ _ _ _
 have hJ:=h.bel hBU
 have y0 : U.cell? ⟨X,0,none⟩ = some (.int .i64 c):=hR.cell 0
 have y1 : U.cell? ⟨X,1,none⟩ = some (.string ⟨#[]⟩):=hR.cell 1
 have y2 : U.cell? ⟨X,2,none⟩ = some (.int .i64 N):=hR.cell 2
 have y3 : U.cell? ⟨X,3,none⟩ = some ids:=hR.cell 3
 have y4 : U.cell? ⟨X,4,none⟩ = some tx:=hR.cell 4
 have y5 : U.cell? ⟨X,5,none⟩ = some (.slice none 0 0):=hR.cell 5
 have y6 : U.cell? ⟨X,6,none⟩ = some (.slice none 0 0):=hR.cell 6
 have HA:=hide (anew_any (c:=c) (N:=N) (hI.bel hBU) (hT.bel hBU) hIl hTl)
 have HU:=hide hU
 have HX:=hide hX
 have HB:=hide hBU
 have HJ:=hide hJ
 clear hI hT hBU hR hU hX h hJ
 go_enter Tryz.func62,Tryz.ntmps62
 go_upto_region 1 with fail
 rw [← HU.out,← HX.out]
 go_wp2_with (go_at_call 112; refine (isOpen_any HJ.out).mono ?_; rintro e w1 ⟨rfl,rfl⟩)
 refine HA.out.mono ?_
 rintro e w2 ⟨ids',tx',rfl,hT1,hT2,hB2⟩
 have hJ2:=HJ.out.bel hB2
 have hrun:=store_run (t:=147) (o:=0) hJ2 #[.bool false,.int .i64 0,.int .i64 0,.string ⟨#[]⟩,.string ⟨#[]⟩,.nilFunc,.int .i64 c,.string ⟨#[]⟩,.int .i64 N,ids',tx',.slice none 0 0,.slice none 0 0] (Nat.le_of_ble_eq_true rfl) Tryz.sizeIO (by obtain ⟨a,c,e⟩:=hT1.shp; obtain ⟨a',c',e'⟩:=hT2.shp; rw [e,e']; simp [Value.oneCell'])
 obtain ⟨Y,hY⟩ : ∃ Y,Y = w2.setCells b 0 [.bool false,.int .i64 0,.int .i64 0,.string ⟨#[]⟩,.string ⟨#[]⟩,.nilFunc,.int .i64 c,.string ⟨#[]⟩,.int .i64 N,ids',tx',.slice none 0 0,.slice none 0 0]:=⟨_,rfl⟩
 have hJY : JB Y b false 0 0 ⟨#[]⟩ ⟨#[]⟩ .nilFunc c N ids' tx' s:=by
  have h1:=setCells_self [.bool false,.int .i64 0,.int .i64 0,.string ⟨#[]⟩,.string ⟨#[]⟩,.nilFunc,.int .i64 c,.string ⟨#[]⟩,.int .i64 N,ids',tx',.slice none 0 0,.slice none 0 0] 0 w2 _ hJ2
  rw [← hY] at h1
  simpa [putAll,JB] using h1
 simp only [] at hrun
 rw [← hY] at hrun
 have hGY : Gs (fun i => i = b) w Y:=by rw [hY]; exact Gs.cells _ _ _ ((Gs.of_below _ HB.out).bel hB2) (.inl rfl)
 have hGY2 : Gs (fun i => i = b) w2 Y:=by rw [hY]; exact Gs.cells _ _ _ (Gs.refl _ _) (.inl rfl)
 have HE : Hid (∃ ids' tx',JB Y b false 0 0 ⟨#[]⟩ ⟨#[]⟩ .nilFunc c N ids' tx' s∧TS w.heap.size ids' I Y∧TS w.heap.size tx' T Y∧Gs (fun i => i = b) w Y):=by
  have hb:=HB.out.size
  have hbl:=HJ.out.lt
  exact ⟨ids',tx',hJY,(hT1.kb fun i hi => hGY2.block i (hT1.lt i hi).2 (by have:=(hT1.lt i hi).1; omega)).low hb,(hT2.kb fun i hi => hGY2.block i (hT2.lt i hi).2 (by have:=(hT2.lt i hi).1; omega)).low hb,hGY⟩
 clear hY hJY hGY hGY2 hJ2 hB2 hT1 hT2
 go_wp2_with (refine wpList_store_run rfl 147 _ _ rfl _ _ rfl rfl hrun ?_)
 go_end0
 exact ⟨rfl,HE.out⟩
theorem result_any (h : JB w b op st k n d go c N ids tx s) (hI : LS t1 1 r w ids I) (hT : LS t1 1 r w tx T) (hIl : I.length ≤ 1000000000000) (hTl : T.length ≤ 1000000000000) :
  Calls Tryz.prog 30 #[.pointer (some ⟨b,0,none⟩)] w fun e w' => ∃ ids' tx',e = .returned (.agg #[.int .i64 c,.string ⟨#[]⟩,.int .i64 N,ids',tx',.slice none 0 0,.slice none 0 0])∧TS w.heap.size ids' I w'∧TS w.heap.size tx' T w'∧Below w.heap.size w w':=by
 obtain ⟨U,hU⟩ : ∃ U,U = w.alloc (.cells #[.int .i64 0,.string ⟨#[]⟩,.int .i64 0,.slice none 0 0,.slice none 0 0,.slice none 0 0,.slice none 0 0] 63):=⟨_,rfl⟩
 obtain ⟨X,hX⟩ : ∃ X,X = w.heap.size:=⟨_,rfl⟩
 have hBU : Below w.heap.size w U:=by rw [hU]; exact (Below.refl _ _).alloc (Nat.le_refl _) _
 have hZ : R7 U X 0 0 (.slice none 0 0) (.slice none 0 0):=by rw [hU,hX]; exact r7_new _ _ _ _ _
 have hJ:=h.bel hBU
 have y0 : U.cell? ⟨b,6,none⟩ = some (.int .i64 c):=hJ.cell 6
 have y1 : U.cell? ⟨b,7,none⟩ = some (.string ⟨#[]⟩):=hJ.cell 7
 have y2 : U.cell? ⟨b,8,none⟩ = some (.int .i64 N):=hJ.cell 8
 have y3 : U.cell? ⟨b,9,none⟩ = some ids:=hJ.cell 9
 have y4 : U.cell? ⟨b,10,none⟩ = some tx:=hJ.cell 10
 have y5 : U.cell? ⟨b,11,none⟩ = some (.slice none 0 0):=hJ.cell 11
 have y6 : U.cell? ⟨b,12,none⟩ = some (.slice none 0 0):=hJ.cell 12
 have hszU : U.heap.size = X + 1:=by rw [hU,hX]; simp
 have HA:=hide (anew_any (c:=c) (N:=N) (hI.bel hBU) (hT.bel hBU) hIl hTl)
 have HU:=hide hU
 have HX:=hide hX
 have HB:=hide hBU
 have HZ:=hide hZ
 have HS:=hide hszU
 clear hI hT hBU hZ hU hX h hJ hszU
 go_enter Tryz.func30,Tryz.ntmps30
 go_upto_region 1 with fail
 rw [← HU.out,← HX.out]
 go_wp2_with fail
 refine HA.out.mono ?_
 rintro e w2 ⟨ids',tx',rfl,hT1,hT2,hB2⟩
 have hZ2:=HZ.out.bel hB2
 have hrun:=store_run (t:=63) (o:=0) hZ2 #[.int .i64 c,.string ⟨#[]⟩,.int .i64 N,ids',tx',.slice none 0 0,.slice none 0 0] (Nat.le_of_ble_eq_true rfl) Tryz.sizeR (by obtain ⟨a,c,e⟩:=hT1.shp; obtain ⟨a',c',e'⟩:=hT2.shp; rw [e,e']; simp [Value.oneCell'])
 obtain ⟨Y,hY⟩ : ∃ Y,Y = w2.setCells X 0 [.int .i64 c,.string ⟨#[]⟩,.int .i64 N,ids',tx',.slice none 0 0,.slice none 0 0]:=⟨_,rfl⟩
 have hRY : R7 Y X c N ids' tx':=by
  have h1:=setCells_self [.int .i64 c,.string ⟨#[]⟩,.int .i64 N,ids',tx',.slice none 0 0,.slice none 0 0] 0 w2 _ hZ2
  rw [← hY] at h1
  simpa [putAll,R7] using h1
 simp only [] at hrun
 rw [← hY] at hrun
 have hGY2 : Gs (fun i => i = X) w2 Y:=by rw [hY]; exact Gs.cells _ _ _ (Gs.refl _ _) (.inl rfl)
 have HE : Hid (∃ jds ty,Ending.returned (.agg #[.int .i64 c,.string ⟨#[]⟩,.int .i64 N,ids',tx',.slice none 0 0,.slice none 0 0]) = Ending.returned (.agg #[.int .i64 c,.string ⟨#[]⟩,.int .i64 N,jds,ty,.slice none 0 0,.slice none 0 0])∧TS w.heap.size jds I Y∧TS w.heap.size ty T Y∧Below w.heap.size w Y):=by
  have hx:=HX.out
  have hs:=HS.out
  have hb2:=hB2.size
  refine ⟨ids',tx',rfl,(hT1.kb fun i hi => hGY2.block i (hT1.lt i hi).2 (by have:=(hT1.lt i hi).1; omega)).low (by omega),(hT2.kb fun i hi => hGY2.block i (hT2.lt i hi).2 (by have:=(hT2.lt i hi).1; omega)).low (by omega),?_⟩
  exact hGY2.below (HB.out.trans (hB2.mono (by omega))) (by omega) (fun i e => by omega)
 have r0 : Y.cell? ⟨X,0,none⟩ = some (.int .i64 c):=hRY.cell 0
 have r1 : Y.cell? ⟨X,1,none⟩ = some (.string ⟨#[]⟩):=hRY.cell 1
 have r2 : Y.cell? ⟨X,2,none⟩ = some (.int .i64 N):=hRY.cell 2
 have r3 : Y.cell? ⟨X,3,none⟩ = some ids':=hRY.cell 3
 have r4 : Y.cell? ⟨X,4,none⟩ = some tx':=hRY.cell 4
 have r5 : Y.cell? ⟨X,5,none⟩ = some (.slice none 0 0):=hRY.cell 5
 have r6 : Y.cell? ⟨X,6,none⟩ = some (.slice none 0 0):=hRY.cell 6
 clear hY hRY hGY2 hZ2 hB2 hT1 hT2
 go_wp2_with (refine wpList_store_run rfl 63 _ _ rfl _ _ rfl rfl hrun ?_)
 exact bodyPost_ret (v:=.agg #[.int .i64 c,.string ⟨#[]⟩,.int .i64 N,ids',tx',.slice none 0 0,.slice none 0 0]) (by simp [results,Tryz.results30,go_sem,r0,r1,r2,r3,r4,r5,r6]) rfl HE.out
end
end Go.Proofs.YtagijldedngcoaaGreatDoor

namespace Go.Proofs.YtagijldedngcoaaGreatDoor
open Go.RowKit Go.Lib Go.Maps
theorem Tryz.infoA : (Tryz.prog.info? 87).map (fun i => (i.zero,i.size,i.bytes)) = some (some (.agg #[.int .i64 0,.string ⟨#[]⟩,.slice none 0 0]),3,48):=by kernel_rfl
def resI (A : List RR) : List ByteArray:=A.flatMap (·.l)
theorem take_snoc_at {α : Type} {l : List α} {j : Nat} {x : α} (h : l[j]? = some x) : l.take (j + 1) = l.take j ++ [x]:=by rw [List.take_add_one,h]; rfl
def x3 (x : RR × Value) : List Value:=[.int .i64 x.1.c,.string x.1.d,x.2]
theorem x3_len (x : RR × Value) : (x3 x).length = 3:=rfl

section
variable {w wx wr : World} {X0 n5 : Nat} {A : List RR} {C N c : Int} {ids tx u : Value} {d : ByteArray}
end
section
variable {w w' : World} {av : Value} {X : List (RR × Value)} {r : Nat→Prop}
end
end Go.Proofs.YtagijldedngcoaaGreatDoor

namespace Go.Proofs.YtagijldedngcoaaGreatDoor
open Go.RowKit Go.Lib Go.Maps
theorem Gs.und {p : Nat→Prop} {w w' : World} (h : Gs p w.drew w') : Gs p w w':=⟨h.os,h.tape,h.output,h.size,h.block⟩
structure CL (r : Nat→Prop) (w : World) (b : Nat) (l : List QT) (X : List (RR × Value)) (a1 a2 a3 a4 a5 : Nat) (tv rv av : Value) : Prop where
 h1 : w.heap[a1]? = some (.cells #[.pointer (some ⟨b,0,none⟩)] 99 (0,0))
 h2 : w.heap[a2]? = some (.cells #[tv] 200 (0,0))
 h3 : w.heap[a3]? = some (.cells #[rv] 198 (0,0))
 h4 : w.heap[a4]? = some (.cells #[av] 170 (0,0))
 h5 : w.heap[a5]? = some (.cells #[.func (.func 168) #[] #[.pointer (some ⟨a4,0,none⟩),.pointer (some ⟨a3,0,none⟩),.pointer (some ⟨a1,0,none⟩),.pointer (some ⟨a5,0,none⟩),.pointer (some ⟨a2,0,none⟩)]] 1 (0,0))
 q : LS q4 4 r w rv l
 o : OW x3 3 87 0 av X w
 ns : ∀ x ∈ X,LS t1 1 r w x.2 x.1.l
 r1 : r a1
 r2 : r a2
 r3 : r a3
 r5 : r a5
 nb : ¬ r b
 n4 : ¬ r a4
 no : ∀ i,av.ownBlock = some i→¬ r i
 rl : ∀ i,r i→i < w.heap.size
section
variable {r r' p : Nat→Prop} {w w' : World} {b a1 a2 a3 a4 a5 : Nat} {l : List QT} {X : List (RR × Value)} {tv rv av : Value} {st k s c N : Int} {n d : ByteArray} {go ids tx : Value} {op : Bool}
theorem CL.kb (h : CL r w b l X a1 a2 a3 a4 a5 tv rv av) (hs : w.heap.size ≤ w'.heap.size) (hk : ∀ i,i < w.heap.size→r i→w'.heap[i]? = w.heap[i]?) (h4 : w'.heap[a4]? = w.heap[a4]?) (ho : ∀ i,av.ownBlock = some i→w'.heap[i]? = w.heap[i]?) : CL r w' b l X a1 a2 a3 a4 a5 tv rv av :=
 ⟨(hk a1 (lt_of_block h.h1) h.r1).trans h.h1,(hk a2 (lt_of_block h.h2) h.r2).trans h.h2,(hk a3 (lt_of_block h.h3) h.r3).trans h.h3,h4.trans h.h4,(hk a5 (lt_of_block h.h5) h.r5).trans h.h5,h.q.kb hs fun i hr hi => hk i hi hr,h.o.kb ho,fun x hx => (h.ns x hx).kb hs fun i hr hi => hk i hi hr,h.r1,h.r2,h.r3,h.r5,h.nb,h.n4,h.no,fun i hi => Nat.lt_of_lt_of_le (h.rl i hi) hs⟩
theorem CL.bel (h : CL r w b l X a1 a2 a3 a4 a5 tv rv av) (hb : Below w.heap.size w w') : CL r w' b l X a1 a2 a3 a4 a5 tv rv av :=
 h.kb hb.size (fun i hi _ => hb.block i hi) (hb.block _ (lt_of_block h.h4)) (fun i hi => hb.block i (h.o.lt i hi).2)
theorem CL.b4 (h : CL r w b l X a1 a2 a3 a4 a5 tv rv av) (hJ : JB w b op st k n d go c N ids tx s) : b ≠ a4:=fun e => by
 have h4:=h.h4
 rw [← e,show w.heap[b]? = _ from hJ] at h4
 simp at h4
theorem CL.bo (h : CL r w b l X a1 a2 a3 a4 a5 tv rv av) (hJ : JB w b op st k n d go c N ids tx s) : av.ownBlock ≠ some b:=fun e => by
 obtain ⟨cs,h4⟩:=h.o.typ b e
 rw [show w.heap[b]? = _ from hJ] at h4
 simp at h4
theorem CL.o4 (h : CL r w b l X a1 a2 a3 a4 a5 tv rv av) : av.ownBlock ≠ some a4:=fun e => by
 obtain ⟨cs,h4⟩:=h.o.typ a4 e
 rw [h.h4] at h4
 simp at h4
theorem CL.gb (h : CL r w b l X a1 a2 a3 a4 a5 tv rv av) (hJ : JB w b op st k n d go c N ids tx s) (hg : Gs (fun i => i = b) w w') : CL r w' b l X a1 a2 a3 a4 a5 tv rv av :=
 h.kb hg.size (fun i hi hr => hg.block i hi (fun e => h.nb (e ▸ hr))) (hg.block _ (lt_of_block h.h4) (fun e => h.b4 hJ e.symm)) (fun i hi => hg.block i (h.o.lt i hi).2 (fun e => h.bo hJ (e ▸ hi)))
theorem CL.cq (h : CL r w b l X a1 a2 a3 a4 a5 tv rv av) {j : Nat} {q : QT} (hq : l[j]? = some q) : ∃ g o c',rv = .slice (some ⟨g,o,none⟩) l.length c'∧w.cell? ⟨g,o + j * 4,none⟩ = some (.int .i64 q.st)∧w.cell? ⟨g,o + j * 4 + 1,none⟩ = some (.int .i64 q.k)∧w.cell? ⟨g,o + j * 4 + 2,none⟩ = some (.string q.n)∧w.cell? ⟨g,o + j * 4 + 3,none⟩ = some (.string q.d):=by
 obtain ⟨a,c,e,_,h | ⟨g,o,ea,_,_,hG⟩⟩:=h.q
 ·rw [h] at hq; simp at hq
 ·exact ⟨g,o,c,by rw [e,ea],hG j q hq 0 _ rfl,hG j q hq 1 _ rfl,hG j q hq 2 _ rfl,hG j q hq 3 _ rfl⟩

theorem next_ask (h : CL r w b l X a1 a2 a3 a4 a5 tv rv av) (hJ : JB w b true st k n d .nilFunc c N ids tx s) {q : QT} (hq : l[X.length]? = some q) :
  Calls Tryz.prog 168 #[.pointer (some ⟨a4,0,none⟩),.pointer (some ⟨a3,0,none⟩),.pointer (some ⟨a1,0,none⟩),.pointer (some ⟨a5,0,none⟩),.pointer (some ⟨a2,0,none⟩)] w fun e w' => e = .returned (.tuple #[])∧JB w' b true q.st q.k q.n q.d (.func (.func 170) #[] #[.pointer (some ⟨a4,0,none⟩),.pointer (some ⟨a5,0,none⟩)]) c N ids tx s∧Gs (fun i => i = b) w w':=by
 obtain ⟨g,o,cr,rfl,z0,z1,z2,z3⟩:=h.cq hq
 obtain ⟨aa,ca,hav⟩:=h.o.shp
 have y4 : w.cell? ⟨a4,0,none⟩ = some av:=by simp [World.cell?,h.h4]
 have y3 : w.cell? ⟨a3,0,none⟩ = some (.slice (some ⟨g,o,none⟩) l.length cr):=by simp [World.cell?,h.h3]
 have y1 : w.cell? ⟨a1,0,none⟩ = some (.pointer (some ⟨b,0,none⟩)):=by simp [World.cell?,h.h1]
 have HK : Hid (∀ w1,Gs (fun i => i = b) w.drew w1→w1.cell? ⟨a4,0,none⟩ = some (.slice aa X.length ca)∧w1.cell? ⟨a3,0,none⟩ = some (.slice (some ⟨g,o,none⟩) l.length cr)∧w1.cell? ⟨a1,0,none⟩ = some (.pointer (some ⟨b,0,none⟩))∧w1.cell? ⟨g,o + X.length * 4,none⟩ = some (.int .i64 q.st)∧w1.cell? ⟨g,o + X.length * 4 + 1,none⟩ = some (.int .i64 q.k)∧w1.cell? ⟨g,o + X.length * 4 + 2,none⟩ = some (.string q.n)∧w1.cell? ⟨g,o + X.length * 4 + 3,none⟩ = some (.string q.d)):=fun w1 hg => by
  have h1:=CL.gb (w:=w) h hJ (w':=w1) ⟨hg.os,hg.tape,hg.output,hg.size,hg.block⟩
  obtain ⟨g',o',cr',e',q0,q1,q2,q3⟩:=h1.cq hq
  cases e'
  exact ⟨by simp [World.cell?,h1.h4,hav],by simp [World.cell?,h1.h3],by simp [World.cell?,h1.h1],q0,q1,q2,q3⟩
 have hxl : X.length < l.length:=(List.getElem?_eq_some_iff.1 hq).1
 rw [hav] at y4
 obtain ⟨m,hm⟩ : ∃ m,m = X.length:=⟨_,rfl⟩
 obtain ⟨ll,hll⟩ : ∃ ll,ll = l.length:=⟨_,rfl⟩
 rw [← hm,← hll] at hxl
 rw [← hm] at z0 z1 z2 z3 y4 HK
 rw [← hll] at y3 HK
 have b1 : (m : Int) < (ll : Int):=by omega
 have b0 : (0 : Int) ≤ (m : Int):=by omega
 have hmf : ∀ (fn : Fn) (first cap : Array Value) (w : World),(Instr.makeFunc fn first cap).run Tryz.prog w = .ok (.func fn first cap) w:=fun _ _ _ _ => rfl
 have HA : Hid _:=hide (ask_any (w:=w.drew) hJ q.st q.k q.n q.d (.func 170) #[] #[.pointer (some ⟨a4,0,none⟩),.pointer (some ⟨a5,0,none⟩)])
 generalize q.st = qs at *
 generalize q.k = qk at *
 generalize q.n = qn at *
 generalize q.d = qd at *
 clear h hJ hav hq hm hll
 go_enter Tryz.func168,Tryz.ntmps168
 go_upto_region 1 with fail
 go_region_held3 (fun w' => w'.cell? ⟨a4,0,none⟩ = some (.slice aa m ca)∧w'.cell? ⟨a3,0,none⟩ = some (.slice (some ⟨g,o,none⟩) ll cr)∧w'.cell? ⟨a1,0,none⟩ = some (.pointer (some ⟨b,0,none⟩))∧w'.cell? ⟨g,o + m * 4,none⟩ = some (.int .i64 qs)∧w'.cell? ⟨g,o + m * 4 + 1,none⟩ = some (.int .i64 qk)∧w'.cell? ⟨g,o + m * 4 + 2,none⟩ = some (.string qn)∧w'.cell? ⟨g,o + m * 4 + 3,none⟩ = some (.string qd)) (first | assumption | exact ⟨by assumption,by assumption,by assumption,by assumption,by assumption,by assumption,by assumption⟩)
  (first | (go_at_call 169; refine HA.out.mono ?_; rintro e w1 ⟨rfl,hJ1,hG1⟩; obtain ⟨k1,k2,k3,k4,k5,k6,k7⟩:=HK.out w1 hG1; have HF:=hide (And.intro hJ1 hG1); clear hJ1 hG1))
 go_wp2
 go_end0
 exact ⟨rfl,HF.out.1,HF.out.2.und⟩
theorem x3_one {x : RR × Value} (h : ∃ a n c,x.2 = .slice a n c) : ∀ u ∈ x3 x,u.oneCell' = true:=by
 obtain ⟨a,n,c,e⟩:=h
 intro u hu
 simp only [x3,List.mem_cons,List.not_mem_nil,or_false] at hu
 rcases hu with rfl | rfl | rfl
 ·rfl
 ·rfl
 ·rw [e]; rfl
def mu (b a4 : Nat) (av : Value) (i : Nat) : Prop:=i = b ∨ i = a4 ∨ av.ownBlock = some i
theorem CL.app (h : CL r w b l X a1 a2 a3 a4 a5 tv rv av) (hJ : JB w b op st k n d go c N ids tx s) (x : RR × Value) (hx : LS t1 1 r w x.2 x.1.l) (hl : X.length ≤ 1000000) :
  ∃ v' w',(Builtin.append_ #[170,170] 170 #[av,.slice (some ⟨w.heap.size,0,none⟩) 1 1]).run Tryz.prog (w.alloc (.cells #[.int .i64 x.1.c,.string x.1.d,x.2] 87)) = .ok v' w'∧(∃ a n c,v' = .slice a n c)∧w'.heap[a4]? = some (.cells #[av] 170 (0,0))∧CL r (w'.setCell ⟨a4,0,none⟩ v') b l (X ++ [x]) a1 a2 a3 a4 a5 tv rv v'∧JB (w'.setCell ⟨a4,0,none⟩ v') b op st k n d go c N ids tx s∧Gs (mu b a4 av) w (w'.setCell ⟨a4,0,none⟩ v')∧(v'.ownBlock = av.ownBlock ∨ v'.ownBlock = some (w.heap.size + 1)):=by
 have hb : Below w.heap.size w (w.alloc (.cells #[.int .i64 x.1.c,.string x.1.d,x.2] 87)):=(Below.refl _ _).alloc (Nat.le_refl _) _
 have hsx : ∃ a n c,x.2 = .slice a n c:=by obtain ⟨a,c,e⟩:=hx.shp; exact ⟨a,_,c,e⟩
 have hLS : LS x3 3 (fun _ => True) (w.alloc (.cells #[.int .i64 x.1.c,.string x.1.d,x.2] 87)) (.slice (some ⟨w.heap.size,0,none⟩) 1 1) [x]:=LS.one x 87 w x3 3 _ trivial
 obtain ⟨v',w',h1,h2,h3,h4⟩:=OW.app (ST:=170) x3_len (by decide) (fun y hy => by simp at hy; subst hy; exact x3_one hsx) Tryz.underlying170 Tryz.infoA rfl (h.o.keep hb) hLS (by simp; omega) (by simp; omega) (Nat.zero_le _)
 have h4' : v'.ownBlock = av.ownBlock ∨ v'.ownBlock = some (w.heap.size + 1):=by simpa using h4
 have hw : ∀ i,i < w.heap.size→av.ownBlock ≠ some i→w'.heap[i]? = w.heap[i]?:=fun i hi2 hn => (h3.block i (by simp; omega) (fun e => hn e.symm)).trans (hb.block i hi2)
 have hk : ∀ i,i ≠ a4→(w'.setCell ⟨a4,0,none⟩ v').heap[i]? = w'.heap[i]?:=fun i hi => heap_setCell_other w' ⟨a4,0,none⟩ i _ hi
 have hsz : w.heap.size + 1 ≤ w'.heap.size:=by have:=h3.size; simpa using this
 have h4w : w'.heap[a4]? = some (.cells #[av] 170 (0,0)):=(hw a4 (lt_of_block h.h4) h.o4).trans h.h4
 have hr : ∀ i,i < w.heap.size→r i→(w'.setCell ⟨a4,0,none⟩ v').heap[i]? = w.heap[i]?:=fun i hi hr => (hk i (fun e => h.n4 (e ▸ hr))).trans (hw i hi (fun e => h.no i e hr))
 have hsz2 : w.heap.size ≤ (w'.setCell ⟨a4,0,none⟩ v').heap.size:=by simp; omega
 have ho4 : v'.ownBlock ≠ some a4:=fun e => by
  obtain ⟨cs,hcs⟩:=h2.typ a4 e
  rw [h4w] at hcs
  simp at hcs
 refine ⟨v',w',h1,?_,h4w,⟨(hr a1 (lt_of_block h.h1) h.r1).trans h.h1,(hr a2 (lt_of_block h.h2) h.r2).trans h.h2,(hr a3 (lt_of_block h.h3) h.r3).trans h.h3,heap_set_self h4w,(hr a5 (lt_of_block h.h5) h.r5).trans h.h5,h.q.kb hsz2 fun i hri hi => hr i hi hri,h2.kb fun i hi => hk i (fun e => ho4 (e ▸ hi)),?_,h.r1,h.r2,h.r3,h.r5,h.nb,h.n4,?_,fun i hi => Nat.lt_of_lt_of_le (h.rl i hi) hsz2⟩,?_,?_,h4'⟩
 ·obtain ⟨a,c,e⟩:=h2.shp; exact ⟨a,_,c,e⟩
 ·intro y hy
  rcases List.mem_append.1 hy with hy | hy
  ·exact (h.ns y hy).kb hsz2 fun i hri hi => hr i hi hri
  ·simp at hy; subst hy; exact hx.kb hsz2 fun i hri hi => hr i hi hri
 ·intro i hi hri
  rcases h4' with e | e
  ·rw [e] at hi; exact h.no i hi hri
  ·rw [e] at hi; simp at hi; have:=h.rl i hri; omega
 ·exact (hk b (h.b4 hJ)).trans ((hw b hJ.lt (h.bo hJ)).trans hJ)
 ·refine ⟨h3.os.trans rfl,h3.tape.trans rfl,h3.output.trans rfl,hsz2,fun i hi hn => ?_⟩
  exact (hk i (fun e => hn (.inr (.inl e)))).trans (hw i hi (fun e => hn (.inr (.inr e))))

end
end Go.Proofs.YtagijldedngcoaaGreatDoor

namespace Go.Proofs.YtagijldedngcoaaGreatDoor
open Go.RowKit Go.Lib Go.Maps
theorem Tryz.sizeAs : (Tryz.prog.info? 170).map (·.size) = some 1:=by kernel_rfl
section
variable {r r' p : Nat→Prop} {w w' : World} {b a1 a2 a3 a4 a5 i1 : Nat} {l : List QT} {X : List (RR × Value)} {tv rv av : Value} {st k s c N : Int} {n d : ByteArray} {go ids tx : Value} {op : Bool}
end
end Go.Proofs.YtagijldedngcoaaGreatDoor

namespace Go.Proofs.YtagijldedngcoaaGreatDoor
open Go.RowKit Go.Lib Go.Maps
def RDY (b : Nat) (Q : World→Prop) (w' : World) : Prop :=
 (∃ op st k n d fn fi ca c N ids tx s,JB w' b op st k n d (.func fn fi ca) c N ids tx s∧∀ w2,JB w2 b true st k n d (.func fn fi ca) c N ids tx s→Gs (fun i => i = b) w' w2→Q w2) ∨
 (∃ op st k n d c N ids tx s,JB w' b op st k n d .nilFunc c N ids tx s∧∀ w2,JB w2 b false st k n d .nilFunc c N ids tx s→Gs (fun i => i = b) w' w2→Q w2)
section
variable {r r0 p : Nat→Prop} {w w' : World} {b : Nat} {st k s c N cc : Int} {n d dd : ByteArray} {go ids tx u : Value} {op : Bool} {ll : List ByteArray}
theorem settle_rdy {Q : World→Prop} (h : RDY b Q w) : Calls Tryz.prog 83 #[.pointer (some ⟨b,0,none⟩)] w fun e w' => e = .returned (.tuple #[])∧Q w':=by
 rcases h with ⟨op,st,k,n,d,fn,fi,ca,c,N,ids,tx,s,hJ,h⟩ | ⟨op,st,k,n,d,c,N,ids,tx,s,hJ,h⟩
 ·refine (settle_on hJ).mono ?_
  rintro e w2 ⟨rfl,hJ2,hG⟩
  exact ⟨rfl,h w2 hJ2 hG⟩
 ·refine (settle_off hJ).mono ?_
  rintro e w2 ⟨rfl,hJ2,hG⟩
  exact ⟨rfl,h w2 hJ2 hG⟩
structure GV (w V : World) (b : Nat) (c N : Int) (ids tx : Value) (s : Int) (u' : Value) (ll : List ByteArray) : Prop where
 j : JB V b true 0 0 ⟨#[]⟩ ⟨#[]⟩ .nilFunc c N ids tx (s + 1)
 u : TS w.heap.size u' ll V
 g : Gs (fun i => i = b) w V
theorem give_all {a4 a5 : Nat} (hJ : JB w b op st k n d (.func (.func 170) #[] #[.pointer (some ⟨a4,0,none⟩),.pointer (some ⟨a5,0,none⟩)]) c N ids tx s) (hop : op = true) (hu : LS t1 1 r0 w u ll) (hr0 : ¬ r0 b) (hll : ll.length ≤ 1000000000000) (hs0 : 0 ≤ s) (hs1 : s ≤ 1000000000) (cc : Int) (dd : ByteArray) {Q : World→Prop}
  (HC : ∀ V u',GV w V b c N ids tx s u' ll→Calls Tryz.prog 170 #[.agg #[.int .i64 cc,.string dd,u'],.pointer (some ⟨a4,0,none⟩),.pointer (some ⟨a5,0,none⟩)] V fun e w' => e = .returned (.tuple #[])∧RDY b Q w') :
  Calls Tryz.prog 40 #[.pointer (some ⟨b,0,none⟩),.agg #[.int .i64 cc,.string dd,u]] w fun e w' => e = .returned (.int .i64 0)∧Q w':=by
 subst hop
 obtain ⟨U,hU⟩ : ∃ U,U = w.alloc (.cells #[.int .i64 cc,.string dd,u] 87):=⟨_,rfl⟩
 obtain ⟨X5,hX5⟩ : ∃ X5,X5 = w.heap.size:=⟨_,rfl⟩
 have hBU : Below w.heap.size w U:=by rw [hU]; exact (Below.refl _ _).alloc (Nat.le_refl _) _
 have hJU:=hJ.bel hBU
 have hbl : b < X5:=by rw [hX5]; exact hJ.lt
 have hblk : U.heap[X5]? = some (.cells #[.int .i64 cc,.string dd,u] 87 (0,0)):=by rw [hU,hX5]; exact heap_alloc_new w _
 have hszU : U.heap.size = X5 + 1:=by rw [hU,hX5]; simp
 have y5 : U.cell? ⟨b,5,none⟩ = some (.func (.func 170) #[] #[.pointer (some ⟨a4,0,none⟩),.pointer (some ⟨a5,0,none⟩)]):=hJU.cell 5
 have hrun1:=store_run (t:=81) (o:=1) hJU #[.int .i64 0,.int .i64 0,.string ⟨#[]⟩,.string ⟨#[]⟩] (Nat.le_of_ble_eq_true rfl) Tryz.sizeQ (by simp [Value.oneCell'])
 obtain ⟨V1,hV1⟩ : ∃ V1,V1 = U.setCells b 1 [.int .i64 0,.int .i64 0,.string ⟨#[]⟩,.string ⟨#[]⟩]:=⟨_,rfl⟩
 have hJ1 : JB V1 b true 0 0 ⟨#[]⟩ ⟨#[]⟩ (.func (.func 170) #[] #[.pointer (some ⟨a4,0,none⟩),.pointer (some ⟨a5,0,none⟩)]) c N ids tx s:=by
  have h1:=setCells_self [.int .i64 0,.int .i64 0,.string ⟨#[]⟩,.string ⟨#[]⟩] 1 U _ hJU
  rw [← hV1] at h1
  simpa [putAll,JB] using h1
 have hG1 : Gs (fun i => i = b) U V1:=by rw [hV1]; exact Gs.cells _ _ _ (Gs.refl _ _) (.inl rfl)
 simp only [] at hrun1
 rw [← hV1] at hrun1
 have x5 : V1.cell? ⟨b,5,none⟩ = some (.func (.func 170) #[] #[.pointer (some ⟨a4,0,none⟩),.pointer (some ⟨a5,0,none⟩)]):=hJ1.cell 5
 have f5:=hJ1.free 5
 have hJ2 : JB (V1.setCell ⟨b,5,none⟩ .nilFunc) b true 0 0 ⟨#[]⟩ ⟨#[]⟩ .nilFunc c N ids tx s:=heap_set_self hJ1
 have x13 : (V1.setCell ⟨b,5,none⟩ .nilFunc).cell? ⟨b,13,none⟩ = some (.int .i64 s):=hJ2.cell 13
 have f13:=hJ2.free 13
 have hJ3 : JB ((V1.setCell ⟨b,5,none⟩ .nilFunc).setCell ⟨b,13,none⟩ (.int .i64 (s + 1))) b true 0 0 ⟨#[]⟩ ⟨#[]⟩ .nilFunc c N ids tx (s + 1):=heap_set_self hJ2
 obtain ⟨V3,hV3⟩ : ∃ V3,V3 = (V1.setCell ⟨b,5,none⟩ .nilFunc).setCell ⟨b,13,none⟩ (.int .i64 (s + 1)):=⟨_,rfl⟩
 rw [← hV3] at hJ3
 have hG3 : Gs (fun i => i = b) U V3:=by rw [hV3]; exact (hG1.set1 _ _).set1 _ _
 have hblk3 : V3.heap[X5]? = some (.cells #[.int .i64 cc,.string dd,u] 87 (0,0)):=(hG3.block X5 (by omega) (by omega)).trans hblk
 have z2 : ((V1.setCell ⟨b,5,none⟩ .nilFunc).setCell ⟨b,13,none⟩ (.int .i64 (s + 1))).cell? ⟨X5,2,none⟩ = some u:=by rw [← hV3]; simp [World.cell?,hblk3]
 have HC1:=hide (cloneT ((hu.old.bel hBU).gs hG3 (fun i hi e => hr0 (e ▸ hi.1))) hll)
 have HU:=hide hU
 have HV3:=hide hV3
 have HX:=hide hX5
 have HF:=hide (And.intro hBU (And.intro hG3 (And.intro hblk3 (And.intro hJ3 (And.intro hszU hbl)))))
 have HCC:=hide HC
 obtain ⟨g1,g2,g3,g4⟩:=fe47
 clear hu hJU hblk hszU hV1 hJ1 hG1 hJ2 hJ3 hV3 hG3 hblk3 hU hX5 hBU hJ HC hbl
 go_enter Tryz.func40,Tryz.ntmps40
 go_upto_region 1 with fail
 rw [← HU.out,← HX.out]
 go_wp2_with (refine wpList_store_run rfl 81 _ _ rfl _ _ rfl rfl hrun1 ?_)
 rw [← HV3.out]
 refine HC1.out.mono ?_
 rintro e w4 ⟨u',rfl,hT4,hB4⟩
 obtain ⟨hBU,hG3,hblk3,hJ3,hszU,hbl⟩:=HF.out
 have hX:=HX.out
 have hblk4:=(hB4.block X5 (lt_of_block hblk3)).trans hblk3
 have hs:=store1_run (t:=44) hblk4 (j:=2) (v:=u') (Nat.le_of_ble_eq_true rfl) Tryz.sizeTs (by obtain ⟨a,c,e⟩:=hT4.shp; exact ⟨a,_,c,e⟩)
 obtain ⟨V5,hV5⟩ : ∃ V5,V5 = w4.setCell ⟨X5,2,none⟩ u':=⟨_,rfl⟩
 rw [← hV5] at hs
 have hblk5 : V5.heap[X5]? = some (.cells #[.int .i64 cc,.string dd,u'] 87 (0,0)):=by rw [hV5]; exact heap_set_self hblk4
 have k0 : V5.cell? ⟨X5,0,none⟩ = some (.int .i64 cc):=by simp [World.cell?,hblk5]
 have k1 : V5.cell? ⟨X5,1,none⟩ = some (.string dd):=by simp [World.cell?,hblk5]
 have k2 : V5.cell? ⟨X5,2,none⟩ = some u':=by simp [World.cell?,hblk5]
 have h3s:=hG3.size
 have hGV : GV w V5 b c N ids tx s u' ll:=by
  refine ⟨?_,?_,?_⟩
  ·rw [hV5]
   exact (heap_setCell_other w4 ⟨X5,2,none⟩ b _ (by show b ≠ X5; omega)).trans (hJ3.bel hB4)
  ·rw [hV5]
   exact (hT4.set fun i hi => by have:=(hT4.lt i hi).1; omega).low (by omega)
  ·rw [hV5]
   exact (((Gs.of_below _ hBU).trans hG3).bel hB4).set (a:=⟨X5,2,none⟩) (.inr (by show w.heap.size ≤ X5; omega)) _
 have HG:=hide (HCC.out V5 u' hGV)
 clear hblk3 hJ3 hszU hbl hX hblk4 hV5 hblk5 h3s hGV hB4 hT4 hG3 hBU
 go_wp2_with (refine wpList_store_run rfl 44 _ _ rfl _ _ rfl rfl hs ?_)
 refine HG.out.mono ?_
 rintro e w6 ⟨rfl,hR⟩
 have HS:=hide (settle_rdy hR)
 clear hR
 go_wp2_with fail
 refine HS.out.mono ?_
 rintro e w7 ⟨rfl,hQ⟩
 have HQ:=hide hQ
 clear hQ
 go_wp2
 go_ret
 exact ⟨rfl,HQ.out⟩
end
end Go.Proofs.YtagijldedngcoaaGreatDoor
