/- In one text, written by lotify.py: BlOpen, BlMeth, BlDel, BlSel. -/
import Derived.Test.YtgdmcnoogacdaaaGreatDoorBlRead
import Derived.Test.YtgdmcnoogacdaaaGreatDoorBlLotX
namespace Go.Proofs.YtgdmcnoogacdaaaGreatDoor
open Go.RowKit Go.Maps
open Ch
set_option linter.unusedVariables false
set_option linter.unusedSimpArgs false
set_option maxRecDepth 100000
theorem blread_prog(A:Option Addr)(b:List UInt8)(c:Nat)(hbc:b.length<=c)(hbl:b.length<=140737488355328)(w:World)(hA:Bys w A b){o:BlRes}(ho:BlO b o):
 Calls Tryz.prog 44 #[.slice A b.length c] w (ReadTold w o):=by
 by_cases h4:4<=b.length
 ·rcases hA with h|⟨bb,oo,rfl,hlt,hc⟩
  ·subst h;simp at h4
  ·have hA':Bys w (some ⟨bb,oo,none⟩) b:=.inr ⟨bb,oo,rfl,hlt,hc⟩
   by_cases hs:b.drop (b.length-4)=le4 (sumN (b.take (b.length-4)))
   ·exact blread_good bb oo b c hbc hbl w hlt hA' ho h4 hs
   ·exact blread_sum bb oo b c hbc hbl w hA' ho h4 hs
 ·exact blread_short A b c w hA ho h4
theorem bl_isErr(v:Value)(w:World):(Instr.typeAssert (.iface 138 v) 20 140 true).run Tryz.prog w=.ok (.tuple #[.iface 138 v,.bool true]) w :=
 Go.run_typeAssert_hasB Tryz.underlying140 (by kernel_rfl) v 20 w
set_option maxHeartbeats 4000000 in
theorem told_prog5(w:World)(hD:Door w):Calls Tryz.prog 43 #[.iface 138 (.int .i64 5)] w fun e w'=>e=.returned (.int .i64 5)/\Below w.heap.size w w':=by
 have hb1:=below_one w (.cells #[.int .i64 0] 138);have hR1:=Row.new w 138 #[.int .i64 0];have HAS:=zz (as_hit 5 w.heap.size (.int .i64 0) _ (hD.alloc (.cells #[.int .i64 0] 138)) hR1);have hA:=fun (v:Value) (w:World)=>bl_isErr v w
 have HB1:=zz hb1;clear hD hb1 hR1;go_enter Tryz.func43,Tryz.ntmps43
 go_wp2_with fail
 refine HAS.out.mono ?_;rintro e w2 ⟨rfl,hw2⟩;have hb2:Below w.heap.size w w2:=by
  rw [hw2];exact ((((HB1.out.alloc HB1.out.size _).alloc (by simp;omega) _).alloc (by simp;omega) _).alloc (by simp;omega) _).setCell (p:=⟨w.heap.size,0,none⟩) (Nat.le_refl _) _
 have c2:w2.cell? ⟨w.heap.size,0,none⟩=some (.int .i64 5):=by
  have hr:=(((((Row.new w 138 #[.int .i64 0]).alloc (.cells #[.pointer (some ⟨w.heap.size,0,none⟩)] 143)).alloc (.cells #[.pointer (some ⟨2,143,none⟩),.pointer (some ⟨(w.alloc (.cells #[.int .i64 0] 138)).heap.size,0,none⟩),.int .u64 150] 191)).alloc (.cells #[.pointer (some ⟨2,143,none⟩),.pointer (some ⟨(w.alloc (.cells #[.int .i64 0] 138)).heap.size,0,none⟩),.int .u64 150] 191)).alloc (.cells #[.int .i64 5] 138)).setAt 0 (.int .i64 5);rw [hw2];exact hr.cell 0
 have HB2:=zz hb2;clear hw2 hb2
 go_wp2_with fail
 go_ret;exact ⟨rfl,HB2.out⟩
set_option maxHeartbeats 4000000 in
theorem blcatch_panicking{C D:Nat}{x:Value}{y:Int}(w:World)(hC:Row w C 36 #[x])(hD:Row w D 25 #[.int .i64 y])(hx:x.oneCell'=true)(hCD:C≠D)(hDo:Door w):
 CallsD Tryz.prog 42 #[.pointer (some ⟨C,0,none⟩),.pointer (some ⟨D,0,none⟩)] (.panicking blbroken) w fun e u' w' =>
  e=.returned (.tuple #[])/\u'=.panicking [{ v:=.iface 138 (.int .i64 5),recovered:=true }]/\∃w1,Below w.heap.size w w1/\w'=(w1.setCell ⟨C,0,none⟩ (.pointer none)).setCell ⟨D,0,none⟩ (.int .i64 5):=by
 have HT:=zz (told_prog5 w hDo);have HC:=zz hC;have HD:=zz hD;clear hC hD hDo;refine callsD_of_wpS Tryz.func42 rfl fun c₀ cs hu=>?_
 apply wpS_seq
 apply wpS_region
 simp [wpOpsS,go_sem,recoverD,hu,Tryz.ntmps42,Exit.thenS,blbroken]
 apply wpS_seq
 apply wpS_region
 simp [wpOpsS,go_sem,Exit.thenS];refine wpS_cond (t:=true) (by simp [Act.eval,Array.replicate]) ?_;simp only [if_true];refine wpS_of_wp ?_
 go_wp2_with fail
 refine HT.out.mono ?_;rintro e w2 ⟨rfl,hb2⟩;have hC2:=HC.out.below hb2 HC.out.lt;have hD2:=HD.out.below hb2 HD.out.lt;have c0:w2.cell? ⟨C,0,none⟩=some x:=hC2.cell 0;have d0:w2.cell? ⟨D,0,none⟩=some (.int .i64 y):=hD2.cell 0;have e0:=hC2.frozen 0;have f0:=hD2.frozen 0;have d1:(w2.setCell ⟨C,0,none⟩ (.pointer none)).cell? ⟨D,0,none⟩=some (.int .i64 y):=(hD2.setFar (p:=⟨C,0,none⟩) (Ne.symm hCD) _).cell 0;have f1:=(hD2.setFar (p:=⟨C,0,none⟩) (Ne.symm hCD) (.pointer none)).frozen 0;have HB2:=zz hb2;clear hC2 hD2 hb2
 go_wp2_with fail
 simp [bodyPostS,results,Tryz.results42,go_sem];exact ⟨w2,HB2.out,rfl⟩
theorem blcatch_idle(C D:Value)(w:World):
 CallsD Tryz.prog 42 #[C,D] .returning w fun e u' w'=>e=.returned (.tuple #[])/\u'=.returning/\w'=w:=by
 refine callsD_of_wpS Tryz.func42 rfl fun c₀ cs hu=>?_
 apply wpS_seq
 apply wpS_region
 simp [wpOpsS,go_sem,recoverD,hu,Tryz.ntmps42,Exit.thenS]
 apply wpS_seq
 apply wpS_region
 simp [wpOpsS,go_sem,Exit.thenS];refine wpS_cond (t:=false) (by simp [Act.eval,Array.replicate]) ?_;simp only [Bool.false_eq_true,if_false];refine wpS_of_wp (wp_skip ?_)
 cases c₀
 simp_all [bodyPostS,results,Tryz.results42]
def BlkAt(w:World)(base X:Nat)(S:List Ser):Prop :=
 base<=X/\∃I v B,base<=B/\Row w X 90 #[.pointer (some ⟨I,0,none⟩),v]/\IdxAt w B I (blSets S)/\OwnQ w base v (S.map fun s=>pcs s.2)
theorem BlkAt.below{w w':World}{base X:Nat}{S:List Ser}(h:BlkAt w base X S)(hb:Below w.heap.size w w'):BlkAt w' base X S:=by
 obtain ⟨h1,I,v,B,h2,h3,h4,h5⟩:=h;exact ⟨h1,I,v,B,h2,h3.below hb h3.lt,h4.below hb,ownq_below h5 hb⟩
theorem blO_pick(b:List UInt8):(∃S,blChk S=0/\blL S=b/\BlO b (some (blSets S,S.map fun s=>pcs s.2)))\/((∀S,blChk S=0->blL S≠b)/\BlO b none):=by
 by_cases h:∃S,blChk S=0/\blL S=b
 ·obtain ⟨S,h1,h2⟩:=h;exact .inl ⟨S,h1,h2,by rw [<-h2];exact blO_back h1⟩
 ·obtain ⟨o,ho⟩:=blO_total b;rcases o with _|⟨ss,Q⟩
  ·exact .inr ⟨fun S h1 h2=>h ⟨S,h1,h2⟩,ho⟩
  ·have:=blO_sound ho;exact absurd ⟨_,this.1,this.2.1⟩ h
def OpenYes(w:World)(S:List Ser)(e:Ending)(w':World):Prop :=
 Below w.heap.size w w'/\∃X,e=.returned (.tuple #[.pointer (some ⟨X,0,none⟩),.int .i64 0])/\BlkAt w' w.heap.size X S
def OpenNo(w:World)(e:Ending)(w':World):Prop:=Below w.heap.size w w'/\e=.returned (.tuple #[.pointer none,.int .i64 5])
set_option maxHeartbeats 4000000 in
theorem open_yes(A:Option Addr)(b:List UInt8)(c:Nat)(hbc:b.length<=c)(hbl:b.length<=140737488355328)(w:World)(hA:Bys w A b)(hD:Door w){S:List Ser}(h1:blChk S=0)(h2:blL S=b):
 Calls Tryz.prog 17 #[.slice A b.length c] w (OpenYes w S):=by
 have hW1:=below_one w (.cells #[.pointer none] 36);have hW2:Below w.heap.size w ((w.alloc (.cells #[.pointer none] 36)).alloc (.cells #[.int .i64 0] 25)):=hW1.alloc (by simp) _;have hC:Row ((w.alloc (.cells #[.pointer none] 36)).alloc (.cells #[.int .i64 0] 25)) w.heap.size 36 #[.pointer none]:=(Row.new w _ _).alloc _;have hE:Row ((w.alloc (.cells #[.pointer none] 36)).alloc (.cells #[.int .i64 0] 25)) (w.heap.size+1) 25 #[.int .i64 0]:=row_at w _ _ _;have hs2:((w.alloc (.cells #[.pointer none] 36)).alloc (.cells #[.int .i64 0] 25)).heap.size=w.heap.size+2:=by simp
 have HD2:=zz ((hD.alloc (.cells #[.pointer none] 36)).alloc (.cells #[.int .i64 0] 25));have HW2:=zz hW2;have HC:=zz hC;have HE:=zz hE;have hmf:∀(fn:Fn) (first cap:Array Value) (w:World),(Instr.makeFunc fn first cap).run Tryz.prog w=.ok (.func fn first cap) w:=fun _ _ _ _=>rfl
 have ho:BlO b (some (blSets S,S.map fun s=>pcs s.2)):=by rw [<-h2];exact blO_back h1
 have HRD:=zz (blread_prog A b c hbc hbl _ (hA.below hW2) ho);have HS:=zz (And.intro h1 h2);clear hA hD hW1 hW2 hC hE h1 h2 ho hbl hbc;generalize b.length=L at *;go_enter_defers Tryz.func17,Tryz.ntmps17
 go_wp2_with fail
 refine HRD.out.mono ?_;rintro e w3 ⟨hb3,⟨ss,Q,I,v,B,hoo,rfl,hB,hI,hQ⟩|⟨h,_⟩⟩
 rotate_left
 ·cases h
 injection hoo with hoo;injection hoo with e1 e2;subst e1 e2;obtain ⟨Pq,cq,hvq,-⟩:=ownq_slice hQ;subst hvq;have hC3:Row w3 w.heap.size 36 #[.pointer none]:=HC.out.below hb3 HC.out.lt;have hE3:Row w3 (w.heap.size+1) 25 #[.int .i64 0]:=HE.out.below hb3 HE.out.lt;have hs3:=hb3.size;rw [hs2] at hs3 hB hQ;have HB3:=zz (HW2.out.trans (hb3.mono HW2.out.size));obtain ⟨nq,hnq⟩:∃nq,(S.map fun s=>pcs s.2).length=nq:=⟨_,rfl⟩;have HNQ:=zz hnq;rw [hnq] at hQ
 try rw [hnq]
 have HI:=zz hI;have HQ:=zz hQ;have HBB:=zz hB;have hC4:=hC3.alloc (.cells #[.pointer (some ⟨I,0,none⟩),.slice Pq nq cq] 90);have hE4:=hE3.alloc (.cells #[.pointer (some ⟨I,0,none⟩),.slice Pq nq cq] 90);have hX4:=Row.new w3 90 #[.pointer (some ⟨I,0,none⟩),.slice Pq nq cq];have hB4:Below w.heap.size w (w3.alloc (.cells #[.pointer (some ⟨I,0,none⟩),.slice Pq nq cq] 90)):=HB3.out.alloc HB3.out.size _;have hs4:(w3.alloc (.cells #[.pointer (some ⟨I,0,none⟩),.slice Pq nq cq] 90)).heap.size=w3.heap.size+1:=by simp
 have HA4:=zz (below_one w3 (.cells #[.pointer (some ⟨I,0,none⟩),.slice Pq nq cq] 90));obtain ⟨X,hX⟩:∃X,w3.heap.size=X:=⟨_,rfl⟩;have c0:(w3.alloc (.cells #[.pointer (some ⟨I,0,none⟩),.slice Pq nq cq] 90)).cell? ⟨w.heap.size,0,none⟩=some (.pointer none):=hC4.cell 0;have d0:(w3.alloc (.cells #[.pointer (some ⟨I,0,none⟩),.slice Pq nq cq] 90)).cell? ⟨w.heap.size+1,0,none⟩=some (.int .i64 0):=hE4.cell 0;have f0:=hC4.frozen 0;have g0:=hE4.frozen 0;have HC4:=zz hC4;have HE4:=zz hE4;have HX4:=zz hX4;have HB4:=zz hB4;have HS4:=zz hs4;have HS3:=zz hs3;have HXX:=zz hX;clear hb3 hB hI hQ hC3 hE3 hC4 hE4 hX4 hB4 hs4 hs3 hX hnq HC HE HRD
 go_wp2_with fail
 have r1:=(HC4.out.setAt 0 (.pointer (some ⟨w3.heap.size,0,none⟩))).setFar (p:=⟨w.heap.size+1,0,none⟩) (by show w.heap.size≠w.heap.size+1;omega) (.int .i64 0);have r2:=(HE4.out.setFar (p:=⟨w.heap.size,0,none⟩) (by show w.heap.size+1≠w.heap.size;omega) (.pointer (some ⟨w3.heap.size,0,none⟩))).setAt 0 (.int .i64 0);have q1:=r1.cell 0;have q2:=r2.cell 0;simp only [List.setIfInBounds_toArray,List.set_cons_zero,List.getElem?_toArray,List.getElem?_cons_zero] at q1 q2;have HB7:=zz ((HB4.out.setCell (p:=⟨w.heap.size,0,none⟩) (Nat.le_refl _) (.pointer (some ⟨w3.heap.size,0,none⟩))).setCell (p:=⟨w.heap.size+1,0,none⟩) (by show w.heap.size<=w.heap.size+1;omega) (.int .i64 0));have hk7:∀k,w.heap.size+2<=k->k<w3.heap.size->(((w3.alloc (.cells #[.pointer (some ⟨I,0,none⟩),.slice Pq nq cq] 90)).setCell ⟨w.heap.size,0,none⟩ (.pointer (some ⟨w3.heap.size,0,none⟩))).setCell ⟨w.heap.size+1,0,none⟩ (.int .i64 0)).heap[k]?=w3.heap[k]?:=fun k k1 k2=>by
  rw [Below.heap_setCell _ ⟨w.heap.size+1,0,none⟩ _ k (by show k≠w.heap.size+1;omega),Below.heap_setCell _ ⟨w.heap.size,0,none⟩ _ k (by show k≠w.heap.size;omega)];exact HA4.out.block k k2
 have hsz7:(((w3.alloc (.cells #[.pointer (some ⟨I,0,none⟩),.slice Pq nq cq] 90)).setCell ⟨w.heap.size,0,none⟩ (.pointer (some ⟨w3.heap.size,0,none⟩))).setCell ⟨w.heap.size+1,0,none⟩ (.int .i64 0)).heap.size=w3.heap.size+1:=by simp [World.setCell]
 have HI7:=zz (idx_range HI.out (by rw [hsz7];omega) fun k k1 k2=>hk7 k (by have:=HBB.out;omega) k2);have HQ7:=zz (ownq_lower (ownq_keep HQ.out fun k t cs k1 hr _=>hk7 k k1 hr.lt) (show w.heap.size<=w.heap.size+2 by omega));have HX7:=zz ((HX4.out.setFar (p:=⟨w.heap.size,0,none⟩) (by show w3.heap.size≠w.heap.size;have:=HS3.out;omega) (.pointer (some ⟨w3.heap.size,0,none⟩))).setFar (p:=⟨w.heap.size+1,0,none⟩) (by show w3.heap.size≠w.heap.size+1;have:=HS3.out;omega) (.int .i64 0));have HXL:=zz (show w.heap.size<=w3.heap.size by have:=HS3.out;omega);have HBL:=zz (show w.heap.size<=B by have:=HBB.out;omega);clear hk7 hsz7 r1 r2;refine leaves_cons (f:=42) (args:=#[.pointer (some ⟨w.heap.size,0,none⟩),.pointer (some ⟨w.heap.size+1,0,none⟩)]) (by simp) (by simp [go_sem]) ?_;refine (blcatch_idle _ _ _).mono ?_;rintro e u' w'' ⟨rfl,rfl,rfl⟩;simp [Leaves,settle,results,Tryz.results17,go_sem,q1,q2];exact ⟨HB7.out,⟨w3.heap.size,rfl,HXL.out,I,_,B,HBL.out,HX7.out,HI7.out,HQ7.out⟩⟩
set_option maxHeartbeats 4000000 in
theorem open_no(A:Option Addr)(b:List UInt8)(c:Nat)(hbc:b.length<=c)(hbl:b.length<=140737488355328)(w:World)(hA:Bys w A b)(hD:Door w)(hno:∀S,blChk S=0->blL S≠b):
 Calls Tryz.prog 17 #[.slice A b.length c] w (OpenNo w):=by
 have hW1:=below_one w (.cells #[.pointer none] 36);have hW2:Below w.heap.size w ((w.alloc (.cells #[.pointer none] 36)).alloc (.cells #[.int .i64 0] 25)):=hW1.alloc (by simp) _;have hC:Row ((w.alloc (.cells #[.pointer none] 36)).alloc (.cells #[.int .i64 0] 25)) w.heap.size 36 #[.pointer none]:=(Row.new w _ _).alloc _;have hE:Row ((w.alloc (.cells #[.pointer none] 36)).alloc (.cells #[.int .i64 0] 25)) (w.heap.size+1) 25 #[.int .i64 0]:=row_at w _ _ _;have hs2:((w.alloc (.cells #[.pointer none] 36)).alloc (.cells #[.int .i64 0] 25)).heap.size=w.heap.size+2:=by simp
 have HD2:=zz ((hD.alloc (.cells #[.pointer none] 36)).alloc (.cells #[.int .i64 0] 25));have HW2:=zz hW2;have HC:=zz hC;have HE:=zz hE;have hmf:∀(fn:Fn) (first cap:Array Value) (w:World),(Instr.makeFunc fn first cap).run Tryz.prog w=.ok (.func fn first cap) w:=fun _ _ _ _=>rfl
 have ho:BlO b none:=by
  rcases blO_pick b with ⟨S,h1,h2,_⟩|⟨_,ho⟩
  ·exact absurd h2 (hno S h1)
  ·exact ho
 have HRD:=zz (blread_prog A b c hbc hbl _ (hA.below hW2) ho);have HNO:=zz hno;clear hA hD hW1 hW2 hC hE hno ho hbl hbc;generalize b.length=L at *;go_enter_defers Tryz.func17,Tryz.ntmps17
 go_wp2_with fail
 refine HRD.out.mono ?_;rintro e w3 ⟨hb3,⟨ss,Q,I,v,B,hoo,_⟩|⟨_,rfl⟩⟩
 ·cases hoo
 have hC3:Row w3 w.heap.size 36 #[.pointer none]:=HC.out.below hb3 HC.out.lt;have hE3:Row w3 (w.heap.size+1) 25 #[.int .i64 0]:=HE.out.below hb3 HE.out.lt;have HD3:=zz (HD2.out.below hb3);have HB3:=zz (HW2.out.trans (hb3.mono HW2.out.size));have HC3:=zz hC3;have HE3:=zz hE3;clear hb3 hC3 hE3 HC HE HRD
 go_wp2_with fail
 refine leaves_cons (f:=42) (args:=#[.pointer (some ⟨w.heap.size,0,none⟩),.pointer (some ⟨w.heap.size+1,0,none⟩)]) (by simp) (by simp [go_sem]) ?_;refine (blcatch_panicking _ HC3.out HE3.out (by rfl) (by omega) HD3.out).mono ?_;rintro e u' w'' ⟨rfl,rfl,w4,hb4,rfl⟩;have r1:=((HC3.out.below hb4 HC3.out.lt).setAt 0 (.pointer none)).setFar (p:=⟨w.heap.size+1,0,none⟩) (by show w.heap.size≠w.heap.size+1;omega) (.int .i64 5);have r2:=((HE3.out.below hb4 HE3.out.lt).setFar (p:=⟨w.heap.size,0,none⟩) (by show w.heap.size+1≠w.heap.size;omega) (.pointer none)).setAt 0 (.int .i64 5);have q1:=r1.cell 0;have q2:=r2.cell 0;simp only [List.setIfInBounds_toArray,List.set_cons_zero,List.getElem?_toArray,List.getElem?_cons_zero] at q1 q2;have HB7:=zz (((HB3.out.trans (hb4.mono HB3.out.size)).setCell (p:=⟨w.heap.size,0,none⟩) (Nat.le_refl _) (.pointer none)).setCell (p:=⟨w.heap.size+1,0,none⟩) (by show w.heap.size<=w.heap.size+1;omega) (.int .i64 5));clear r1 r2;simp [Leaves,settle,results,Tryz.results17,go_sem,q1,q2];exact ⟨HB7.out,rfl⟩
theorem fld0(a b:Value)(w:World):(Instr.field 87 (.agg #[a,b]) 0).run Tryz.prog w=.ok a w:=by kernel_rfl
theorem fld1(a b:Value)(w:World):(Instr.field 87 (.agg #[a,b]) 1).run Tryz.prog w=.ok b w:=by kernel_rfl
def InTold(w:World)(base:Nat)(S:List Ser)(e:Ending)(w':World):Prop :=
 ∃I B P c,e=.returned (.agg #[.pointer (some ⟨I,0,none⟩),.slice P S.length c])/\base<=B/\IdxAt w' B I (blSets S)/\OwnQ w' base (.slice P S.length c) (S.map fun s=>pcs s.2)/\Below w.heap.size w w'
set_option maxHeartbeats 1000000 in
theorem inside_prog{w:World}{base X:Nat}{S:List Ser}(h:BlkAt w base X S):Calls Tryz.prog 52 #[.pointer (some ⟨X,0,none⟩)] w (InTold w base S):=by
 obtain ⟨_,I,v,B,h2,hX,hI,hQ⟩:=h;obtain ⟨P,c,hv,-⟩:=ownq_slice hQ;rw [List.length_map] at hv;subst hv;have hXl:=hX.lt;have hb1:=below_one w (.cells #[.pointer none,.slice none 0 0] 87);have hX1:=hX.below hb1 hXl;have x0:=hX1.cell 0;have x1:=hX1.cell 1;have HB:=zz (below_one w (.cells #[.pointer (some ⟨I,0,none⟩),.slice P S.length c] 87));have HR:=zz (Row.new w 87 #[.pointer (some ⟨I,0,none⟩),.slice P S.length c]);have HI:=zz (hI.below HB.out);have HQ:=zz (ownq_below hQ HB.out);have H2:=zz h2;clear hX hI hQ h2 hX1 hb1;unfold InTold;generalize S.length=n at *;go_enter Tryz.func52,Tryz.ntmps52
 go_wp2_with fail
 (try simp only [Exit.inBlock,Exit.then])
 refine bodyPost_ret (ret_content rfl _ _ _ _ rfl HR.out rfl) rfl ⟨I,B,P,c,rfl,H2.out,HI.out,HQ.out,HB.out⟩
def keepB(lo hi:Int)(s:Smp):Bool:=decide (lo<=s.1)&&decide (s.1<=hi)
def dropB(lo hi:Int)(s:Smp):Bool:=decide (s.1<lo)||decide (hi<s.1)
theorem drop_keep(lo hi:Int)(s:Smp):dropB lo hi s=!keepB lo hi s:=by
 unfold dropB keepB
 by_cases h1:s.1<lo<;>by_cases h2:hi<s.1<;>simp [h1,h2]<;>omega
def RowSm(w:World)(g:Nat)(l:List Smp)(rest:List Value):Prop:=Row w g 83 (l.flatMap smpE++rest).toArray
theorem rowsm_own{w:World}{base:Nat}{v:Value}{l:List Smp}(h:OwnS w base v l)(hl:0<l.length):∃g c rest,v=.slice (some ⟨g,0,none⟩) l.length c/\l.length<=c/\base<=g/\RowSm w g l rest:=by
 rcases h.2 with ⟨_,h0⟩|⟨g,cap,cur,hv,hb,hh,hn,_,_,htk⟩
 ·omega
 ·refine ⟨g,cap,cur.toList.drop (l.length*2),hv,hn,hb,?_⟩;unfold RowSm;rw [<-htk,List.take_append_drop,Array.toArray_toList];exact hh
theorem rowsm_cell{w:World}{g:Nat}{l:List Smp}{rest:List Value}(h:RowSm w g l rest){i:Nat}(hi:i<l.length):w.cell? ⟨g,i*2,none⟩=some (.int .i64 (tOf l i))/\w.cell? ⟨g,i*2+1,none⟩=some (.int .i64 (vOf l i)):=by
 have hlen:=flat_len smpE 2 smpE_len l;have h0:=flat_get smpE 2 smpE_len l i _ 0 (getD_some l (0,0) hi) (by omega);have h1:=flat_get smpE 2 smpE_len l i _ 1 (getD_some l (0,0) hi) (by omega);refine ⟨(Row.cell h (i*2)).trans ?_,(Row.cell h (i*2+1)).trans ?_⟩
 ·rw [List.getElem?_toArray,List.getElem?_append_left (by omega)];exact h0
 ·rw [List.getElem?_toArray,List.getElem?_append_left (by omega)];exact h1
theorem sm_flat_set:∀(l:List Smp) (i:Nat) (t v:Int) (rest:List Value),i<l.length->((l.flatMap smpE++rest).set (i*2) (.int .i64 t)).set (i*2+1) (.int .i64 v)=(l.set i (t,v)).flatMap smpE++rest:=by
 intro l
 induction l with
 | nil=>intro i t v rest h;simp at h
 | cons x xs ih =>
   intro i t v rest h
   cases i with
   | zero=>simp [smpE]
   | succ i =>
     have:=ih i t v rest (by simpa using h);rw [List.flatMap_cons,List.append_assoc,List.set_cons_succ,List.flatMap_cons,List.append_assoc,<-this,show (i+1)*2=i*2+1+1 by omega]
     show ((Value.int .i64 x.1::Value.int .i64 x.2::(xs.flatMap smpE++rest)).set (i*2+1+1) _).set (i*2+1+1+1) _=_
     simp only [List.set_cons_succ];rfl
theorem rowsm_set{w:World}{g:Nat}{l:List Smp}{rest:List Value}(h:RowSm w g l rest){i:Nat}(hi:i<l.length)(t v:Int):
 RowSm ((w.setCell ⟨g,i*2,none⟩ (.int .i64 t)).setCell ⟨g,i*2+1,none⟩ (.int .i64 v)) g (l.set i (t,v)) rest:=by
 unfold RowSm;rw [<-sm_flat_set l i t v rest hi];have:=(Row.setAt h (i*2) (.int .i64 t)).setAt (i*2+1) (.int .i64 v);rw [List.setIfInBounds_toArray,List.setIfInBounds_toArray] at this;exact this
theorem rowsm_smps{w:World}{g:Nat}{l:List Smp}{rest:List Value}(h:RowSm w g l rest)(k:Nat):Smps w (some ⟨g,0,none⟩) (l.take k):=by
 refine Smps.front (l:=l) ?_ k;refine .inr ⟨g,0,rfl,Row.lt h,fun j u hj=>?_⟩;rw [Nat.zero_add];refine (Row.cell h j).trans ?_;rw [List.getElem?_toArray,List.getElem?_append_left (List.getElem?_eq_some_iff.1 hj).1];exact hj
theorem rowsm_below{w w':World}{g:Nat}{l:List Smp}{rest:List Value}(h:RowSm w g l rest)(hb:Below w.heap.size w w'):RowSm w' g l rest:=Row.below h hb (Row.lt h)
def delF(Lb Hb:Nat):Value:=.func (.func 94) #[] #[.pointer (some ⟨Lb,0,none⟩),.pointer (some ⟨Hb,0,none⟩)]
set_option maxHeartbeats 1000000 in
theorem del_prog{w:World}{Lb Hb:Nat}{lo hi:Int}(hL:w.cell? ⟨Lb,0,none⟩=some (.int .i64 lo))(hH:w.cell? ⟨Hb,0,none⟩=some (.int .i64 hi))(hLl:Lb<w.heap.size)(hHl:Hb<w.heap.size)(t v:Int):
 Calls Tryz.prog 94 #[.agg #[.int .i64 t,.int .i64 v],.pointer (some ⟨Lb,0,none⟩),.pointer (some ⟨Hb,0,none⟩)] w fun e w'=>e=.returned (.bool (dropB lo hi (t,v)))/\Below w.heap.size w w':=by
 have hb:=below_one w (.cells #[.int .i64 t,.int .i64 v] 83);have l1:=(hb.cell (p:=⟨Lb,0,none⟩) hLl).trans hL;have h1:=(hb.cell (p:=⟨Hb,0,none⟩) hHl).trans hH;have HB:=zz hb;clear hL hH hb;unfold dropB
 by_cases h2:t<lo
 ·have d1:decide (t<lo)=true:=decide_eq_true h2;rw [d1];clear h2;go_enter Tryz.func94,Tryz.ntmps94
  go_wp2_with fail
  go_ret;exact ⟨rfl,HB.out⟩
 ·have d1:decide (t<lo)=false:=decide_eq_false h2;rw [d1,Bool.false_or];clear h2;generalize hd:decide (hi<t)=d at *;go_enter Tryz.func94,Tryz.ntmps94
  go_wp2_with fail
  go_ret;exact ⟨rfl,HB.out⟩
set_option maxHeartbeats 2000000 in
theorem indexf_prog{w:World}{Lb Hb g c:Nat}{lo hi:Int}{l:List Smp}{rest:List Value}(hL:w.cell? ⟨Lb,0,none⟩=some (.int .i64 lo))(hH:w.cell? ⟨Hb,0,none⟩=some (.int .i64 hi))(hLl:Lb<w.heap.size)(hHl:Hb<w.heap.size)
 (hR:RowSm w g l rest)(hl:l.length<=1000000)(hlc:l.length<=c):
 Calls Tryz.prog 129 #[.slice (some ⟨g,0,none⟩) l.length c,delF Lb Hb] w fun e w' =>
  Below w.heap.size w w'/\((e=.returned (.int .i64 (-1))/\∀i,i<l.length->keepB lo hi (l.getD i (0,0))=true)\/∃k,k<l.length/\e=.returned (.int .i64 (k:Int))/\(∀i,i<k->keepB lo hi (l.getD i (0,0))=true)/\keepB lo hi (l.getD k (0,0))=false):=by
 unfold delF;have HR:=zz (fun x (h:Below w.heap.size w x)=>rowsm_below hR h);have HD:=zz (fun x (h:Below w.heap.size w x)=>del_prog (w:=x) ((h.cell (p:=⟨Lb,0,none⟩) hLl).trans hL) ((h.cell (p:=⟨Hb,0,none⟩) hHl).trans hH) (Nat.lt_of_lt_of_le hLl h.size) (Nat.lt_of_lt_of_le hHl h.size));obtain ⟨n,hn⟩:∃n,l.length=n:=⟨_,rfl⟩;have HN:=zz hn;rw [hn] at hl hlc ⊢;clear hL hH hR hn;go_enter Tryz.func129,Tryz.ntmps129
 go_wp2_with fail
 go_loopw [8] (fun i wr=>∃k:Nat,k<=n/\i=.int .i64 (k:Int)/\(∀i,i<k->keepB lo hi (l.getD i (0,0))=true)/\Below w.heap.size w wr) (fun i _=>n-(intOf i).toNat)
 case atStart=>exact ⟨0,Nat.zero_le _,rfl,fun i hi=>absurd hi (by omega),Below.refl _ _⟩
 case round =>
  obtain ⟨k,hk,rfl,hz,hbr⟩:=hrel;have HB:=zz hbr;have HZ:=zz hz
  by_cases hlt:k<n
  ·have i1:decide ((k:Int)<(n:Int))=true:=decide_eq_true (by omega);have i2:(k:Int)<(n:Int):=by omega
   obtain ⟨g0,g1⟩:=rowsm_cell (HR.out _ hbr) (i:=k) (by rw [HN.out];exact hlt);have HC:=zz (HD.out wr hbr (tOf l k) (vOf l k));have hdk:dropB lo hi (tOf l k,vOf l k)=!keepB lo hi (l.getD k (0,0)):=drop_keep lo hi _;generalize tOf l k=T at *;generalize vOf l k=V at *;have HDK:=zz hdk;clear hz hbr hdk
   go_wp2_with fail
   refine HC.out.mono ?_;rintro e w3 ⟨rfl,hb3⟩;have HB3:=zz (HB.out.trans (hb3.mono HB.out.size));clear hb3
   cases hkb:keepB lo hi (l.getD k (0,0))
   ·have HDE:=zz (show dropB lo hi (T,V)=true by rw [HDK.out,hkb];rfl);rw [HDE.out];have HKB:=zz hkb;have HKL:=zz (show k<l.length by rw [HN.out];exact hlt);clear hkb
    go_wp2_with fail
    go_ret;exact ⟨HB3.out,.inr ⟨k,by rw [<-HN.out];exact HKL.out,rfl,HZ.out,HKB.out⟩⟩
   ·have HDE:=zz (show dropB lo hi (T,V)=false by rw [HDK.out,hkb];rfl);rw [HDE.out];have HZ2:=zz (show ∀i,i<k+1->keepB lo hi (l.getD i (0,0))=true from fun i hi=>by
     rcases Nat.lt_or_ge i k with h|h
     ·exact HZ.out i h
     ·obtain rfl:i=k:=by omega
      exact hkb)
    clear hkb
    go_wp2_with fail
    go_roundw
    case rel=>exact ⟨k+1,by omega,by go_num,HZ2.out,HB3.out⟩
    case measure=>simp [intOf];omega
  ·have i1:decide ((k:Int)<(n:Int))=false:=decide_eq_false (by omega);have i2:¬(k:Int)<(n:Int):=by omega
   have HZE:=zz (show ∀i,i<n->keepB lo hi (l.getD i (0,0))=true from fun i hi=>hz i (by omega));clear hz hbr
   go_wp2_with fail
   go_ret;exact ⟨HB.out,.inl ⟨rfl,HZE.out⟩⟩
theorem zero_smp(w:World):(zeroValue 83).run Tryz.prog w=.ok (.agg #[.int .i64 0,.int .i64 0]) w:=by kernel_rfl
theorem run_clear_smp{w:World}{g:Nat}{l:List Smp}{rest:List Value}(hR:RowSm w g l rest){i:Nat}(hi:i<l.length)(c:Nat):
 ∃W,(∀ty,(Builtin.clear_ #[49] ty #[.slice (some ⟨g,i*2,none⟩) (l.length-i) c]).run Tryz.prog w=.ok (.tuple #[]) W)/\Smps W (some ⟨g,0,none⟩) (l.take i)/\Below g w W:=by
 have hlen:=flat_len smpE 2 smpE_len l;have hsz:(Builtin.zeroCells (Value.agg #[.int .i64 0,.int .i64 0]).cells (l.length-i)).toList.length=(l.length-i)*2:=by
  simp [Builtin.zeroCells,Value.cells]
 have hone:∀v∈(Builtin.zeroCells (Value.agg #[.int .i64 0,.int .i64 0]).cells (l.length-i)).toList,v.oneCell'=true:=by
  intro v hv;simp only [Builtin.zeroCells,Value.cells,Array.toList_map,List.mem_map] at hv;obtain ⟨k,_,rfl⟩:=hv;have:k%2=0\/k%2=1:=by omega
  rcases this with h|h<;>simp [h,Value.oneCell']
 generalize hvs:(Builtin.zeroCells (Value.agg #[.int .i64 0,.int .i64 0]).cells (l.length-i)).toList=vs at hsz hone;have hst:=run_storeCells_at (P:=Tryz.prog) g (i*2) 83 vs 0 _ w hR (by simp only [List.size_toArray,List.length_append];omega) hone;rw [Nat.add_zero] at hst;refine ⟨w.setRow g (((l.flatMap smpE++rest).toArray.toList.take (i*2)++vs++(l.flatMap smpE++rest).toArray.toList.drop (i*2+vs.length)).toArray),fun ty=>?_,?_,?_⟩
 rotate_left
 ·have hrow:=setRow_heap w g _ (((l.flatMap smpE++rest).toArray.toList.take (i*2)++vs++(l.flatMap smpE++rest).toArray.toList.drop (i*2+vs.length)).toArray) 83 _ hR;refine .inr ⟨g,0,rfl,Row.lt hrow,fun j u hj=>?_⟩;have hjl:=(List.getElem?_eq_some_iff.1 hj).1;rw [flat_len smpE 2 smpE_len,List.length_take,Nat.min_eq_left (by omega)] at hjl;rw [Nat.zero_add];refine (Row.cell hrow j).trans ?_;rw [List.getElem?_toArray,List.append_assoc,List.getElem?_append_left (by simp only [List.length_take,List.length_append];omega),List.getElem?_take_of_lt hjl,List.getElem?_append_left (by omega)];rw [<-hj];have e:l.flatMap smpE=(l.take i).flatMap smpE++(l.drop i).flatMap smpE:=by rw [<-List.flatMap_append,List.take_append_drop]
  rw [e,List.getElem?_append_left (by rw [flat_len smpE 2 smpE_len,List.length_take,Nat.min_eq_left (by omega)];omega)]
 ·exact ⟨rfl,rfl,rfl,by simp,fun k hk=>setRow_other w g k _ (by omega)⟩
 ·obtain ⟨m,hm⟩:∃m,l.length-i=m+1:=⟨l.length-i-1,by omega⟩;rw [hm] at hvs ⊢;simp [Builtin.clear_,run_underlying Tryz.underlying49,zero_smp,hvs,hst]
theorem filter_none{lo hi:Int}{l:List Smp}(h:∀i,i<l.length->keepB lo hi (l.getD i (0,0))=true):l.filter (keepB lo hi)=l:=by
 rw [List.filter_eq_self];intro x hx;obtain ⟨i,hi,rfl⟩:=List.getElem_of_mem hx;have:=h i hi;rw [List.getD_eq_getElem?_getD,List.getElem?_eq_getElem hi] at this;exact this
theorem take_smp{l:List Smp}{k:Nat}(h:k<l.length):l.take (k+1)=l.take k++[l.getD k (0,0)]:=by
 rw [List.take_add_one,List.getElem?_eq_getElem h,List.getD_eq_getElem?_getD,List.getElem?_eq_getElem h];rfl
theorem filter_first{lo hi:Int}{l:List Smp}{k:Nat}(hk:k<l.length)(h:∀i,i<k->keepB lo hi (l.getD i (0,0))=true)(hn:keepB lo hi (l.getD k (0,0))=false):(l.take (k+1)).filter (keepB lo hi)=l.take k:=by
 rw [take_smp hk,List.filter_append,filter_none (l:=l.take k)]
 ·rw [List.filter_cons,hn];simp
 ·intro i hi;rw [List.length_take] at hi;have:=h i (by omega);rw [show (l.take k).getD i (0,0)=l.getD i (0,0) by simp [List.getD_eq_getElem?_getD,List.getElem?_take,show i<k by omega]];exact this
theorem drop_getD{l m:List Smp}{j:Nat}(h:m.drop j=l.drop j):m.getD j (0,0)=l.getD j (0,0):=by
 have:=congrArg (fun x=>x.getD 0 (0,0)) h;simp only [getD_drop',Nat.add_zero] at this;exact this
set_option maxHeartbeats 4000000 in
theorem deletef_prog{w:World}{Lb Hb g c:Nat}{lo hi:Int}{l:List Smp}{rest:List Value}(hL:w.cell? ⟨Lb,0,none⟩=some (.int .i64 lo))(hH:w.cell? ⟨Hb,0,none⟩=some (.int .i64 hi))(hLg:Lb<g)(hHg:Hb<g)
 (hR:RowSm w g l rest)(hl:l.length<=1000000)(hlc:l.length<=c):
 Calls Tryz.prog 93 #[.slice (some ⟨g,0,none⟩) l.length c,delF Lb Hb] w fun e w' =>
  e=.returned (.slice (some ⟨g,0,none⟩) (l.filter (keepB lo hi)).length c)/\Smps w' (some ⟨g,0,none⟩) (l.filter (keepB lo hi))/\Below g w w':=by
 have hgl:=Row.lt hR;have HIX:=zz (indexf_prog hL hH (by omega) (by omega) hR hl hlc);have HD:=zz (fun x (h:Below g w x)=>del_prog (w:=x) ((h.cell (p:=⟨Lb,0,none⟩) hLg).trans hL) ((h.cell (p:=⟨Hb,0,none⟩) hHg).trans hH) (Nat.lt_of_lt_of_le (show Lb<w.heap.size by omega) h.size) (Nat.lt_of_lt_of_le (show Hb<w.heap.size by omega) h.size));have HR:=zz hR;obtain ⟨n,hn⟩:∃n,l.length=n:=⟨_,rfl⟩;have HN:=zz hn;rw [hn] at hl hlc HIX ⊢;have hnot:∀(x:Bool) (w:World),(Op.unary .not (.bool x)).run Tryz.prog w=.ok (.bool (!x)) w:=fun _ _=>rfl
 clear hL hH hR hn;unfold delF at *;go_enter Tryz.func93,Tryz.ntmps93
 go_wp2_with fail
 refine HIX.out.mono ?_;rintro e w2 ⟨hb2,⟨rfl,hall⟩|⟨k,hk,rfl,hbef,hat⟩⟩
 ·have HF:=zz (filter_none (lo:=lo) (hi:=hi) (l:=l) (by rw [HN.out];exact hall));have HB2:=zz (hb2.mono (Nat.le_of_lt hgl));have HS:=zz (rowsm_smps (rowsm_below HR.out hb2) n);clear hb2 hall
  go_wp2_with fail
  go_ret;refine ⟨by rw [HF.out,HN.out]<;>rfl,?_,HB2.out⟩;have:=HS.out;rw [<-HN.out,List.take_length] at this;rw [HF.out];exact this
 ·have HF:=zz (filter_first (by rw [HN.out];exact hk) hbef hat);have HB2:=zz (hb2.mono (Nat.le_of_lt hgl));have HR2:=zz (rowsm_below HR.out hb2);have q1:((k:Int)==-1)=false:=by rw [beq_eq_false_iff_ne];omega
  have hw1:IntKind.i64.wrap ((k:Int)+1)=((k+1:Nat):Int):=by rw [show ((k:Int)+1)=((k+1:Nat):Int) by omega];exact IntWalk.i64_in _ (by omega)
  clear hb2 hbef hat HIX
  go_wp2_with fail
  go_loopw [5,6] (fun a b wr=>∃(i j:Nat) (m:List Smp),i<j/\j<=n/\a=.int .i64 (i:Int)/\b=.int .i64 (j:Int)/\m.length=n/\RowSm wr g m rest/\m.take i=(l.take j).filter (keepB lo hi)/\m.drop j=l.drop j/\Below g w wr) (fun _ b _=>n-(intOf b).toNat)
  case atStart=>exact ⟨k,k+1,l,by omega,by omega,rfl,by first|rfl|go_num,HN.out,HR2.out,HF.out.symm,rfl,HB2.out⟩
  case round =>
   obtain ⟨i,j,m,hij,hj,rfl,rfl,hml,hrow,htk,hdr,hbr⟩:=hrel;have HB:=zz hbr;have HM:=zz hml
   by_cases hlt:j<n
   ·have i1:decide ((j:Int)<(n:Int))=true:=decide_eq_true (by omega);have i2:(j:Int)<(n:Int):=by omega
    obtain ⟨g0,g1⟩:=rowsm_cell hrow (i:=j) (by omega);have heq:m.getD j (0,0)=l.getD j (0,0):=drop_getD hdr;have hb3:Below g w (wr.alloc (.cells #[.int .i64 (tOf m j),.int .i64 (vOf m j)] 83)):=hbr.alloc (by have:=hbr.size;omega) _;have HC:=zz (HD.out _ hb3 (tOf m j) (vOf m j));have hdk:dropB lo hi (tOf m j,vOf m j)=!keepB lo hi (l.getD j (0,0)):=by rw [<-heq];exact drop_keep lo hi _
    have HB3:=zz hb3;have HR3:=zz (rowsm_below hrow (below_one wr (.cells #[.int .i64 (tOf m j),.int .i64 (vOf m j)] 83)));have HX3:=zz (Row.new wr 83 #[.int .i64 (tOf m j),.int .i64 (vOf m j)]);have htv:l.getD j (0,0)=(tOf m j,vOf m j):=heq.symm;have hts:=take_smp (l:=l) (k:=j) (by rw [HN.out];exact hlt);have hgl2:=Row.lt hrow;generalize tOf m j=T at *;generalize vOf m j=V at *;have HDK:=zz hdk;clear hbr hdk hb3 heq
    cases hkb:keepB lo hi (l.getD j (0,0))
    ·have HDE:=zz (show dropB lo hi (T,V)=true by rw [HDK.out,hkb];rfl);rw [HDE.out] at HC;have HT2:=zz (show m.take i=(l.take (j+1)).filter (keepB lo hi) by rw [hts,List.filter_append,htk,List.filter_cons,hkb];simp);have HD2:=zz (show m.drop (j+1)=l.drop (j+1) by rw [<-List.drop_drop,hdr,List.drop_drop]);have HIJ:=zz (show i<j+1/\j+1<=n by omega);clear hkb htk hdr hrow htv hts hml
     go_wp2_with fail
     refine HC.out.mono ?_;rintro e w5 ⟨rfl,hb5⟩;have HB5:=zz (HB3.out.trans (hb5.mono (by have:=HR3.out;have:=Row.lt this;omega)));have HR5:=zz (rowsm_below HR3.out hb5);clear hb5
     go_wp2_with fail
     go_roundw
     case rel=>exact ⟨i,j+1,m,HIJ.out.1,HIJ.out.2,rfl,by go_num,HM.out,HR5.out,HT2.out,HD2.out,HB5.out⟩
     case measure=>simp [intOf];omega
    ·have HDE:=zz (show dropB lo hi (T,V)=false by rw [HDK.out,hkb];rfl);rw [HDE.out] at HC;have HT2:=zz (show (m.set i (T,V)).take (i+1)=(l.take (j+1)).filter (keepB lo hi) by
      rw [hts,List.filter_append,<-htk,List.filter_cons,hkb,if_pos rfl,htv];rw [take_smp (l:=m.set i (T,V)) (by rw [List.length_set];omega)];simp [List.getD_eq_getElem?_getD,show i<m.length by omega,List.take_set_of_le])
     have HD2:=zz (show (m.set i (T,V)).drop (j+1)=l.drop (j+1) by
      rw [List.drop_set_of_lt (by omega),<-List.drop_drop,hdr,List.drop_drop])
     have HIJ:=zz (show i+1<j+1/\j+1<=n by omega);have HML:=zz (show (m.set i (T,V)).length=n by rw [List.length_set];exact hml);have him:i<m.length:=by omega
     have HIM:=zz him;have hin:(i:Int)<(n:Int):=by omega
     clear hkb htk hdr hrow htv hts hml him
     go_wp2_with fail
     refine HC.out.mono ?_;rintro e w5 ⟨rfl,hb5⟩;have hB5:=HB3.out.trans (hb5.mono (by have:=HR3.out;have:=Row.lt this;omega));have hR5:=rowsm_below HR3.out hb5;have hX5:=HX3.out.below hb5 HX3.out.lt;have z0:w5.cell? ⟨wr.heap.size,0,none⟩=some (.int .i64 T):=hX5.cell 0;have z1:w5.cell? ⟨wr.heap.size,1,none⟩=some (.int .i64 V):=hX5.cell 1;obtain ⟨y0,y1⟩:=rowsm_cell hR5 (i:=i) HIM.out;have f0:=Row.frozen hR5 (i*2);have f1:=Row.frozen hR5 (i*2+1);have HR6:=zz (rowsm_set hR5 HIM.out T V);have HB6:=zz ((hB5.setCell (p:=⟨g,i*2,none⟩) (Nat.le_refl _) (.int .i64 T)).setCell (p:=⟨g,i*2+1,none⟩) (Nat.le_refl _) (.int .i64 V));generalize tOf m i=T0 at *;generalize vOf m i=V0 at *;clear hB5 hR5 hX5 hb5
     go_wp2_with fail
     go_roundw
     case rel=>exact ⟨i+1,j+1,_,HIJ.out.1,HIJ.out.2,by go_num,by go_num,HML.out,HR6.out,HT2.out,HD2.out,HB6.out⟩
     case measure=>simp [intOf];omega
   ·have hjn:j=l.length:=by rw [HN.out];omega
    have i1:decide ((j:Int)<(n:Int))=false:=decide_eq_false (by omega);have i2:¬(j:Int)<(n:Int):=by omega
    rw [hjn,List.take_length] at htk;obtain ⟨W,hcl,hsm,hbw⟩:=run_clear_smp hrow (i:=i) (by omega) (c-i);rw [hml] at hcl;rw [htk] at hsm;have HSM:=zz hsm;have HBW:=zz (HB.out.trans hbw);have HFL:=zz (show (l.filter (keepB lo hi)).length=i by rw [<-htk,List.length_take];omega);have hin:(i:Int)<=(n:Int):=by omega
    have hic:(i:Int)<=(c:Int):=by omega
    have hci:¬c=i:=by omega
    have hinn:i<=n:=by omega
    have hicc:i<=c:=by omega
    clear hrow htk hdr hbr hjn hsm hbw hml
    go_wp2_with fail
    go_ret;exact ⟨by rw [HFL.out]<;>rfl,HSM.out,HBW.out⟩
theorem rowsm_enc{w:World}{base:Nat}{p:List Smp}{m:PcM}(h:PcIn w base (p,m)):Bys w m.ba (encL p):=by
 obtain ⟨P,c,hv,hB,_⟩:=own_slice' h;have:=congrArg (fun v=>match v with|.slice A _ _=>A|_=>none) hv;simp only [pcV] at this;rw [this];exact hB
set_option maxHeartbeats 2000000 in
theorem between_prog{w:World}{base:Nat}{p:List Smp}{m:PcM}(hP:PcIn w base (p,m))(hc:chk p=0)(lo hi:Int):
 Calls Tryz.prog 54 #[.agg (pcE (p,m)).toArray,.int .i64 lo,.int .i64 hi] w fun e w'=>∃A c,e=.returned (.slice A (p.filter (keepB lo hi)).length c)/\Smps w' A (p.filter (keepB lo hi))/\Below w.heap.size w w':=by
 have hb1:=below_one w (.cells (pcE (p,m)).toArray 105);have hb2:Below w.heap.size w ((w.alloc (.cells (pcE (p,m)).toArray 105)).alloc (.cells #[.int .i64 lo] 3)):=hb1.alloc (by simp) _;have hb3:Below w.heap.size w (((w.alloc (.cells (pcE (p,m)).toArray 105)).alloc (.cells #[.int .i64 lo] 3)).alloc (.cells #[.int .i64 hi] 3)):=hb2.alloc (by simp;omega) _;have hs3:(((w.alloc (.cells (pcE (p,m)).toArray 105)).alloc (.cells #[.int .i64 lo] 3)).alloc (.cells #[.int .i64 hi] 3)).heap.size=w.heap.size+3:=by simp
 have hR1:=((Row.new w 105 (pcE (p,m)).toArray).alloc (.cells #[.int .i64 lo] 3)).alloc (.cells #[.int .i64 hi] 3);have hL:=(row_at w (.cells (pcE (p,m)).toArray 105) #[.int .i64 lo] 3).alloc (.cells #[.int .i64 hi] 3);have hH:Row (((w.alloc (.cells (pcE (p,m)).toArray 105)).alloc (.cells #[.int .i64 lo] 3)).alloc (.cells #[.int .i64 hi] 3)) (w.heap.size+2) 3 #[.int .i64 hi]:=by
  have:=row_at (w.alloc (.cells (pcE (p,m)).toArray 105)) (.cells #[.int .i64 lo] 3) #[.int .i64 hi] 3;simpa using this
 have x0:=hR1.cell 0;have hfew:=enc_few hc;obtain ⟨h1,h2,hg⟩:=chk_zero.1 hc;have HDC:=zz (decode_yes (c:=m.bc) ((rowsm_enc hP).below hb3) (by omega) hc rfl);have HL:=zz hL;have HH:=zz hH;have HB3:=zz hb3;have HP1:=zz h1;have HS3:=zz hs3;have hmf:∀(fn:Fn) (first cap:Array Value) (w:World),(Instr.makeFunc fn first cap).run Tryz.prog w=.ok (.func fn first cap) w:=fun _ _ _ _=>rfl
 clear hP hb1 hb2 hb3 hs3 hL hH hR1 hc hg hfew;unfold pcE pcV at *;simp only at *;generalize tOf p 0=T0 at *;generalize tOf p (p.length-1)=T1 at *;generalize (encL p).length=L at *;go_enter Tryz.func54,Tryz.ntmps54
 go_wp2_with fail
 refine HDC.out.mono ?_;rintro e w2 ⟨v,rfl,hO,hb2⟩;obtain ⟨g,c,rest,rfl,hlc,hbg,hR⟩:=rowsm_own hO HP1.out;rw [HS3.out] at hbg;have HDF:=zz (deletef_prog (lo:=lo) (hi:=hi) ((hb2.cell (p:=⟨w.heap.size+1,0,none⟩) (by rw [HS3.out];show w.heap.size+1<_;omega)).trans (HL.out.cell 0)) ((hb2.cell (p:=⟨w.heap.size+2,0,none⟩) (by rw [HS3.out];show w.heap.size+2<_;omega)).trans (HH.out.cell 0)) (by omega) (by omega) hR (by omega) hlc);have HB2:=zz (HB3.out.trans (hb2.mono HB3.out.size));have HBG:=zz (show w.heap.size<=g by omega);unfold delF at HDF;clear hO hb2 hR hbg
 go_wp2_with fail
 refine HDF.out.mono ?_;rintro e w3 ⟨rfl,hs,hb3⟩;have HB4:=zz (HB2.out.trans (hb3.mono HBG.out));have HS:=zz hs;clear hs hb3
 go_wp2_with fail
 go_ret;exact ⟨_,_,rfl,HS.out,HB4.out⟩
theorem filter_out{p:List Smp}{lo hi:Int}(hc:chk p=0)(h:¬(tOf p 0<=hi/\lo<=tOf p (p.length-1))):p.filter (keepB lo hi)=[]:=by
 obtain ⟨h1,h2,hg⟩:=chk_zero.1 hc;rw [List.filter_eq_nil_iff];intro s hs;obtain ⟨i,hi',rfl⟩:=List.getElem_of_mem hs;have e:tOf p i=p[i].1:=by unfold tOf;rw [List.getD_eq_getElem?_getD,List.getElem?_eq_getElem hi'];rfl
 have a:=good_mono hg (Nat.zero_le i) hi';have b:=good_mono hg (show i<=p.length-1 by omega) (by omega);rw [e] at a b;unfold keepB;intro hk;simp only [Bool.and_eq_true,decide_eq_true_eq] at hk;omega
def selP(lo hi:Int)(ps:List (List Smp))(j:Nat):List Smp:=(ps.take j).flatten.filter (keepB lo hi)
theorem selP_step(lo hi:Int){ps:List (List Smp)}{j:Nat}(h:j<ps.length):selP lo hi ps (j+1)=selP lo hi ps j++(ps.getD j []).filter (keepB lo hi):=by
 unfold selP;rw [List.take_add_one,List.getElem?_eq_getElem h,List.getD_eq_getElem?_getD,List.getElem?_eq_getElem h,List.flatten_append,List.filter_append];simp
theorem selP_all(lo hi:Int)(l:List Smp):selP lo hi (pcs l) (pcs l).length=l.filter (keepB lo hi):=by
 unfold selP;rw [List.take_length,pcs_flat]
theorem selP_len(lo hi:Int)(l:List Smp)(j:Nat):(selP lo hi (pcs l) j).length<=l.length:=by
 unfold selP;refine Nat.le_trans (List.length_filter_le _ _) ?_;have:((pcs l).take j).flatten.length<=(pcs l).flatten.length:=by
  rw [List.length_flatten,List.length_flatten,List.map_take];exact sum_take_le _ _
 rw [pcs_flat] at this;exact this
theorem cntS_mem{S:List Ser}{s:Ser}(h:s∈S):s.2.length<=cntS S:=by
 induction S with
 | nil=>cases h
 | cons a r ih =>
   rcases List.mem_cons.1 h with rfl|h
   ·simp only [cntS];omega
   ·have:=ih h;simp only [cntS];omega
theorem bl_at{S:List Ser}(hr:blChk S=0){id:Nat}(hid:id<S.length):Ch.Good (S.getD id ([],[])).2/\(S.getD id ([],[])).2.length<=65536/\(S.getD id ([],[])).2≠[]/\(S.map fun s=>pcs s.2).getD id []=pcs (S.getD id ([],[])).2:=by
 obtain ⟨h1,h2,h3,h4⟩:=blChk_zero.1 hr;have hm:S.getD id ([],[])∈S:=by
  rw [List.getD_eq_getElem?_getD,List.getElem?_eq_getElem hid];exact List.getElem_mem hid
 refine ⟨(h4 _ hm).2,Nat.le_trans (cntS_mem hm) h2,(h4 _ hm).1,?_⟩;simp [List.getD_eq_getElem?_getD,hid]
set_option maxHeartbeats 4000000 in
theorem blselect_yes{w:World}{base X:Nat}{S:List Ser}(h:BlkAt w base X S)(hr:blChk S=0)(id:Nat)(hid:id<S.length)(lo hi:Int):
 Calls Tryz.prog 21 #[.pointer (some ⟨X,0,none⟩),.int .i64 (id:Int),.int .i64 lo,.int .i64 hi] w fun e w' =>
  ∃v,e=.returned (.tuple #[v,.int .i64 0])/\OwnS w' w.heap.size v ((S.getD id ([],[])).2.filter (keepB lo hi))/\Below w.heap.size w w':=by
 obtain ⟨hg,hsz,hne,hpc⟩:=bl_at hr hid;have HIN:=zz (inside_prog h);have hss:=blChk_zero.1 hr;have HIX:=zz hss.2.2.1;have hid2:id<(blSets S).length:=by unfold blSets;rw [List.length_map];exact hid
 have HPC:=zz hpc;have h256:=hss.1;have HCK:=zz (fun p (hp:p∈pcs (S.getD id ([],[])).2)=>pcs_chk hg hp);have HST:=zz (fun j (hj:j<(pcs (S.getD id ([],[])).2).length)=>selP_step lo hi hj);have HLE:=zz (fun j=>Nat.le_trans (selP_len lo hi (S.getD id ([],[])).2 j) hsz);rw [<-selP_all lo hi];clear h hg hne hr hss hpc;generalize (S.getD id ([],[])).2=l at *;have hnn:(pcs l).length<=65536:=by rw [pcs_len];unfold nPc;omega
 obtain ⟨ps,hps⟩:∃ps,pcs l=ps:=⟨_,rfl⟩;rw [hps] at HPC HCK HST HLE hnn ⊢;clear hps;obtain ⟨n,hn⟩:∃n,ps.length=n:=⟨_,rfl⟩;have HN:=zz hn;rw [hn] at HST hnn ⊢;clear hn;go_enter Tryz.func21,Tryz.ntmps21
 go_wp2_with fail
 refine HIN.out.mono ?_;rintro e w2 ⟨I,B,P,c,rfl,hB,hI,hQ,hb2⟩;have hA3:=below_one w2 (.cells #[.pointer (some ⟨I,0,none⟩),.slice P S.length c] 87);have hR3:=Row.new w2 87 #[.pointer (some ⟨I,0,none⟩),.slice P S.length c];have HLB:=zz (labels_yes I (blSets S) B _ (hI.below hA3) HIX.out id hid2);have HQ3:=zz (ownq_below hQ hA3);have HB3:=zz (hb2.alloc hb2.size (.cells #[.pointer (some ⟨I,0,none⟩),.slice P S.length c] 87));have HR3:=zz hR3;have x0:=hR3.cell 0;clear hI hQ hb2 hA3 hR3
 go_wp2_with fail
 refine HLB.out.mono ?_;rintro e w4 ⟨v4,rfl,-,hb4⟩;have hR4:=HR3.out.below hb4 HR3.out.lt;have hQ4:=ownq_below HQ3.out hb4;have HB4:=zz (below_then HB3.out hb4);have x1:=hR4.cell 1;obtain ⟨P',c',hv,_,hc⟩:=ownq_slice hQ4;rw [List.length_map] at hv hc;obtain ⟨rfl,-,rfl⟩:=Value.slice.inj hv;obtain ⟨b,o,rfl,hb,_,hat⟩:=hc (by omega);obtain ⟨A,d,g0,hP⟩:=hat id hid;rw [HPC.out] at g0 hP;obtain ⟨P5,c5,hv5,_,hc5⟩:=ownpc_slice hP;obtain ⟨rfl,-,rfl⟩:=Value.slice.inj hv5;have HC5:=zz hc5;have HP:=zz hP;rw [HN.out] at g0 HC5 HP;generalize hSl:S.length=m at *;have hidm:(id:Int)<(m:Int):=by omega
 have hid0:(0:Int)<=(id:Int):=by omega
 clear hb4 hQ4 hat hP hv hv5 hc hc5 hR4
 go_wp2_with fail
 go_loopw [13,34] (fun acc i wr=>∃j:Nat,j<=n/\i=.int .i64 (j:Int)/\OwnS wr w4.heap.size acc (selP lo hi ps j)/\Below w4.heap.size w4 wr) (fun _ i _=>n-(intOf i).toNat)
 case atStart=>exact ⟨0,Nat.zero_le _,rfl,owns_nil _ _,Below.refl _ _⟩
 case round =>
  obtain ⟨j,hj,rfl,hO,hbr⟩:=hrel;have HBR:=zz hbr
  by_cases hlt:j<n
  ·have i1:decide ((j:Int)<(n:Int))=true:=decide_eq_true (by omega);have i2:(j:Int)<(n:Int):=by omega
   obtain ⟨P',c',hv,_,hc⟩:=ownpc_slice (ownpc_below HP.out hbr);rw [HN.out] at hv hc;obtain ⟨rfl,-,rfl⟩:=Value.slice.inj hv;obtain ⟨b',o',rfl,hb',_,hat⟩:=hc (by omega);obtain ⟨mm,g1,g2,g3,g4,hPI⟩:=hat j hlt;have hmem:ps.getD j []∈ps:=by
    rw [List.getD_eq_getElem?_getD,List.getElem?_eq_getElem (by rw [HN.out];exact hlt)];exact List.getElem_mem _
   have hck:=HCK.out _ hmem;have hst:=HST.out j hlt;have hle:=HLE.out (j+1);generalize ps.getD j []=p at *;have hA1:=below_one wr (.cells (pcE (p,mm)).toArray 105);have hO1:=owns_below hO hA1;have hR1:=Row.new wr 105 (pcE (p,mm)).toArray;have HB1:=zz (hbr.alloc hbr.size (.cells (pcE (p,mm)).toArray 105));have HBT:=zz (between_prog (base:=base) (lo:=lo) (hi:=hi) (show PcIn _ _ (p,mm) from own_below hPI hA1) hck);have z0:=hR1.cell 0;have z1:=hR1.cell 1;have z2:=hR1.cell 2;have z3:=hR1.cell 3;have f0:=hR1.frozen 0;have HO1:=zz hO1
   by_cases hin:tOf p 0<=hi/\lo<=tOf p (p.length-1)
   ·have k1:decide (tOf p 0<=hi)=true:=decide_eq_true hin.1;have k2:decide (lo<=tOf p (p.length-1))=true:=decide_eq_true hin.2;have k3:decide (tOf p (p.length-1)>=lo)=true:=decide_eq_true hin.2;have HST:=zz hst;have HLL:=zz (show (selP lo hi ps j).length+(p.filter (keepB lo hi)).length<=65536 by rw [hst,List.length_append] at hle;exact hle);clear hbr hO hO1 hR1 hA1 hPI hck hst hle hat hc hv hmem hin;unfold pcE pcV at *;simp only at *;generalize tOf p 0=T0 at *;generalize tOf p (p.length-1)=T1 at *;generalize (encL p).length=L at *
    go_wp2_with fail
    refine HBT.out.mono ?_;rintro e w6 ⟨A6,c6,rfl,hs6,hb6⟩;have HS6:=zz hs6;have HO6:=zz (owns_below HO1.out hb6);have HB6:=zz (HB1.out.trans (hb6.mono HB1.out.size));clear hs6 hb6
    go_wp2_with (at_builtin;refine app_smps rfl (.tmp 48) (.tmp 52) rfl w4.heap.size _ (selP lo hi ps j) rfl HO6.out A6 (p.filter (keepB lo hi)) c6 rfl HS6.out (by have:=HLL.out;omega) HB6.out.size ?_;intro v7 w7 ho7 hb7 hg7;have HO7:=zz ho7;have HB7:=zz (HB6.out.trans hb7);clear ho7 hb7 hg7)
    go_roundw
    case rel=>exact ⟨j+1,by omega,by go_num,by rw [HST.out];exact HO7.out,HB7.out⟩
    case measure=>simp [intOf];omega
   ·have HST:=zz (show selP lo hi ps (j+1)=selP lo hi ps j by rw [hst,filter_out hck hin,List.append_nil])
    by_cases hi1:tOf p 0<=hi
    ·have k1:decide (tOf p 0<=hi)=true:=decide_eq_true hi1;have k0:¬lo<=tOf p (p.length-1):=fun h=>hin ⟨hi1,h⟩
     have k2:decide (lo<=tOf p (p.length-1))=false:=decide_eq_false k0;have k3:decide (tOf p (p.length-1)>=lo)=false:=decide_eq_false k0;clear hbr hO hO1 hR1 hA1 hPI hck hst hle hat hc hv hmem hin k0;unfold pcE pcV at *;simp only at *;generalize tOf p 0=T0 at *;generalize tOf p (p.length-1)=T1 at *;generalize (encL p).length=L at *
     go_wp2_with fail
     go_roundw
     case rel=>exact ⟨j+1,by omega,by go_num,by rw [HST.out];exact HO1.out,HB1.out⟩
     case measure=>simp [intOf];omega
    ·have k1:decide (tOf p 0<=hi)=false:=decide_eq_false hi1;clear hbr hO hO1 hR1 hA1 hPI hck hst hle hat hc hv hmem hin;unfold pcE pcV at *;simp only at *;generalize tOf p 0=T0 at *;generalize tOf p (p.length-1)=T1 at *;generalize (encL p).length=L at *
     go_wp2_with fail
     go_roundw
     case rel=>exact ⟨j+1,by omega,by go_num,by rw [HST.out];exact HO1.out,HB1.out⟩
     case measure=>simp [intOf];omega
  ·obtain rfl:j=n:=by omega
   have i1:decide ((j:Int)<(j:Int))=false:=decide_eq_false (by omega);have HO:=zz hO;clear hbr hO
   go_wp2_with fail
   go_ret2;exact ⟨_,rfl,owns_lower HO.out (by have:=HB4.out.size;omega),below_then HB4.out HBR.out⟩
theorem blselect_no{w:World}{base X:Nat}{S:List Ser}(h:BlkAt w base X S)(id:Int)(hid:id<0\/(S.length:Int)<=id)(lo hi:Int):
 Calls Tryz.prog 21 #[.pointer (some ⟨X,0,none⟩),.int .i64 id,.int .i64 lo,.int .i64 hi] w fun e w'=>e=.returned (.tuple #[.slice none 0 0,.int .i64 9])/\Below w.heap.size w w':=by
 have HIN:=zz (inside_prog h);have hid2:id<0\/((blSets S).length:Int)<=id:=by unfold blSets;rw [List.length_map];exact hid
 clear h hid;go_enter Tryz.func21,Tryz.ntmps21
 go_wp2_with fail
 refine HIN.out.mono ?_;rintro e w2 ⟨I,B,P,c,rfl,hB,hI,hQ,hb2⟩;have hA3:=below_one w2 (.cells #[.pointer (some ⟨I,0,none⟩),.slice P S.length c] 87);have hR3:=Row.new w2 87 #[.pointer (some ⟨I,0,none⟩),.slice P S.length c];have HLB:=zz (labels_no I (blSets S) B _ (hI.below hA3) id hid2);have HB3:=zz (hb2.alloc hb2.size (.cells #[.pointer (some ⟨I,0,none⟩),.slice P S.length c] 87));have x0:=hR3.cell 0;clear hI hQ hb2 hA3 hR3 hid2
 go_wp2_with fail
 refine HLB.out.mono ?_;rintro e w4 ⟨rfl,rfl⟩
 go_wp2_with fail
 go_ret2;exact ⟨rfl,HB3.out⟩
end Go.Proofs.YtgdmcnoogacdaaaGreatDoor
