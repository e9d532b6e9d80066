/- In one text, written by lotify.py: ReNat, ReByte, ReMerge, ReOne, RePiece, ReAlts. -/
import Derived.Test.YtgdmcnoogacdaaaGreatDoorBlLotRc
namespace Go.Proofs.YtgdmcnoogacdaaaGreatDoor
open Go.RowKit Go.Maps
set_option linter.unusedVariables false
def natE(n:Nat):List Value:=[.int .i64 (n:Int)]
theorem natE_len(n:Nat):(natE n).length=1:=rfl
def Pls(w:World)(A:Option Addr)(l:List Nat):Prop:=At w A (l.flatMap natE)
theorem Pls.below{w w':World}{A:Option Addr}{l:List Nat}(h:Pls w A l)(hb:Below w.heap.size w w'):Pls w' A l:=At.below h hb
theorem Pls.nil(w:World)(A:Option Addr):Pls w A []:=.inl rfl
theorem Pls.at_{w:World}{A:Option Addr}{l:List Nat}(h:Pls w A l){i:Nat}(hi:i<l.length):
 ∃b o,A=some ⟨b,o,none⟩/\b<w.heap.size/\w.cell? ⟨b,o+i,none⟩=some (.int .i64 ((l.getD i 0:Nat):Int)):=by
 have hlen:=flat_len natE 1 natE_len l;rcases h with h|⟨b,o,rfl,hb,hc⟩
 ·rw [h] at hlen;simp at hlen;omega
 ·refine ⟨b,o,rfl,hb,?_⟩;have:=hc (i*1+0) _ (flat_get natE 1 natE_len l i _ 0 (getD_some l 0 hi) (by omega));rw [Nat.mul_one] at this;exact this
theorem Pls.head{w:World}{A:Option Addr}{n:Nat}{l:List Nat}(h:Pls w A (n::l)):∃b o,A=some ⟨b,o,none⟩/\b<w.heap.size/\w.cell? ⟨b,o,none⟩=some (.int .i64 (n:Int))/\Pls w (some ⟨b,o+1,none⟩) l:=by
 rcases h with h|⟨b,o,rfl,hb,hc⟩
 ·simp [natE] at h
 ·refine ⟨b,o,rfl,hb,?_,.inr ⟨b,o+1,rfl,hb,fun j u hj=>?_⟩⟩
  ·exact hc 0 _ rfl
  ·rw [show o+1+j=o+(j+1) by omega];refine hc (j+1) u ?_;rw [List.flatMap_cons]
   show (Value.int .i64 (n:Int)::l.flatMap natE)[j+1]?=_
   rw [List.getElem?_cons_succ];exact hj
theorem pls_cell{w:World}{g:Nat}{n:Nat}(h:Row w g 3 #[.int .i64 (n:Int)]):Pls w (some ⟨g,0,none⟩) [n]:=At.row h
def OwnP(w:World)(base:Nat)(v:Value)(l:List Nat):Prop:=w.ownsRow base 3 1 v l.length (l.flatMap natE)
section
variable {w w':World} {base:Nat} {v:Value} {l:List Nat}
theorem ownp_nil(w:World)(base:Nat):OwnP w base (.slice none 0 0) []:=⟨rfl,.inl ⟨rfl,rfl⟩⟩
theorem ownp_below(h:OwnP w base v l)(hb:Below w.heap.size w w'):OwnP w' base v l:=rows_below h hb
theorem ownp_slice(h:OwnP w base v l):∃P c,v=.slice P l.length c/\l.length<=c/\Pls w P l/\∀ad,P=some ad->base<=ad.block:=rows_slice h
end
theorem nat_info:(Tryz.prog.info? 3).map (fun i=>(i.zero,i.size,i.bytes))=some (some (.int .i64 0),1,8):=by kernel_rfl
theorem nat_one(l:List Nat):∀u∈l.flatMap natE,u.oneCell'=true:=by
 intro u hu;simp only [List.mem_flatMap,natE,List.mem_cons,List.not_mem_nil,or_false] at hu;obtain ⟨x,_,rfl⟩:=hu;rfl
theorem app_nats{w:World}{ops:Array Oper}{rest:List Oper}{o:Oper}{a:Act}{Q:Exit->Act->World->Prop}(hgd:o.guard=none)(s y:Operand)
 (ho:o.op=.call { callee:=.builtin .append,args:=#[s,y],argTypes:=#[59,59] })
 (base:Nat)(v:Value)(x:List Nat)(hs:a.eval s=v)(hown:OwnP w base v x)(A:Option Addr)(l:List Nat)(c:Nat)(hy:a.eval y=.slice A l.length c)(hA:Pls w A l)(hn:(x.length+l.length)*8<=140737488355328)(hbase:base<=w.heap.size)
 (h:∀v' w',OwnP w' base v' (x++l)->Below base w w'->w.grownBy w' v.ownBlock->wpList Tryz.prog ops Q rest (a.put o.dst v') w'):wpList Tryz.prog ops Q (o::rest) a w:=by
 obtain ⟨i0,hi,hz0,hz1,hz2⟩:=info_parts nat_info;refine wpList_app_at hgd s y 59 ho base 3 i0 _ 1 8 Tryz.underlying59 hi hz0 hz1 hz2 rfl (by omega) v x.length (x.flatMap natE) hs hown A l.length c (l.flatMap natE) hy (flat_len natE 1 natE_len l) hA (nat_one l)
  (by simp only [maxLen];omega) hn hbase ?_
 intro v' w' h1 h2 h3;refine h v' w' ?_ h2 h3;unfold OwnP;rw [List.flatMap_append,List.length_append];exact h1
theorem rise_len:∀{l:List Nat} {n:Nat},Rise l->(∀x∈l,x<=n)->l.length<=n+1
 | [],n,_,_=>by simp
 | [x],n,_,_=>by simp
 | x::y::l,n,hr,hl=>by
   have h2:=List.pairwise_cons.1 hr;have:=rise_len (l:=(y::l).map (·-1)) (n:=n-1) ?_ ?_
   ·rw [List.length_map] at this;have hy:=h2.1 y (by simp);have hn:=hl y (by simp);simp only [List.length_cons] at this ⊢;omega
   ·have h3:∀a∈y::l,1<=a:=fun a ha=>by have:=h2.1 a ha;omega
    have hp:=h2.2;unfold Rise at hp ⊢;rw [List.pairwise_map];refine hp.imp_of_mem fun {a b} ha hb hab=>?_
    have:=h3 a ha;omega
   ·intro a ha;obtain ⟨b,hb,rfl⟩:=List.mem_map.1 ha;have:=hl b (List.mem_cons_of_mem _ hb);omega
 termination_by l=>l.length
structure MInv(la lb xa xb out:List Nat):Prop where
 ro:Rise out
 ra:Rise xa
 rb:Rise xb
 mem:∀x,(x∈la\/x∈lb)↔(x∈out\/x∈xa\/x∈xb)
 le:∀x∈out,∀y,y∈xa\/y∈xb->x<=y
theorem minv_start{la lb:List Nat}(ha:Rise la)(hb:Rise lb):MInv la lb la lb []:=⟨List.Pairwise.nil,ha,hb,fun x=>by simp,fun x hx=>by cases hx⟩
theorem minv_end{la lb out:List Nat}(h:MInv la lb [] [] out):Joins la lb out:=⟨h.ro,fun j=>by rw [h.mem];simp⟩
def addN(out:List Nat)(n:Nat):List Nat:=if out.getLast?=some n then out else out++[n]
theorem addN_mem(out:List Nat)(n x:Nat):x∈addN out n↔x∈out\/x=n:=by
 unfold addN
 split
 ·rename_i h;constructor
  ·exact .inl
  ·rintro (h2|rfl)
   ·exact h2
   ·exact List.mem_of_getLast? h
 ·simp
theorem rise_last{out:List Nat}(h:Rise out){n x:Nat}(hl:out.getLast?=some n)(hx:x∈out):x<=n:=by
 obtain ⟨ys,rfl⟩:=List.getLast?_eq_some_iff.1 hl;unfold Rise at h;rw [List.pairwise_append] at h;rcases List.mem_append.1 hx with h1|h1
 ·exact Nat.le_of_lt (h.2.2 x h1 n (by simp))
 ·simp at h1;omega
theorem addN_rise{out:List Nat}{n:Nat}(h:Rise out)(hle:∀x∈out,x<=n):Rise (addN out n):=by
 unfold addN
 split
 ·exact h
 ·rename_i hne;unfold Rise at h ⊢;rw [List.pairwise_append];refine ⟨h,List.pairwise_singleton _ _,fun a ha b hb=>?_⟩;simp at hb;subst hb
  cases hl:out.getLast? with
  | none=>rw [List.getLast?_eq_none_iff] at hl;rw [hl] at ha;cases ha
  | some m =>
    have h1:=rise_last h hl ha;have h2:=hle m (List.mem_of_getLast? hl);rw [hl] at hne;have h3:m≠b:=fun e=>hne (by rw [e])
    omega
theorem minv_a{la lb xa xb out:List Nat}{n:Nat}(h:MInv la lb (n::xa) xb out)(hn:∀y∈xb,n<=y):MInv la lb xa xb (addN out n):=by
 have ha:=List.pairwise_cons.1 h.ra;refine ⟨addN_rise h.ro fun x hx=>h.le x hx n (by simp),ha.2,h.rb,fun x=>?_,fun x hx y hy=>?_⟩
 ·rw [h.mem,addN_mem,List.mem_cons];constructor
  ·rintro (h1|(h1|h1)|h1)
   ·exact .inl (.inl h1)
   ·exact .inl (.inr h1)
   ·exact .inr (.inl h1)
   ·exact .inr (.inr h1)
  ·rintro ((h1|h1)|h1|h1)
   ·exact .inl h1
   ·exact .inr (.inl (.inl h1))
   ·exact .inr (.inl (.inr h1))
   ·exact .inr (.inr h1)
 ·rcases (addN_mem _ _ _).1 hx with h1|rfl
  ·exact h.le x h1 y (hy.imp (List.mem_cons_of_mem _) id)
  ·rcases hy with h1|h1
   ·exact Nat.le_of_lt (ha.1 y h1)
   ·exact hn y h1
theorem minv_b{la lb xa xb out:List Nat}{n:Nat}(h:MInv la lb xa (n::xb) out)(hn:∀y∈xa,n<=y):MInv la lb xa xb (addN out n):=by
 have hb:=List.pairwise_cons.1 h.rb;refine ⟨addN_rise h.ro fun x hx=>h.le x hx n (by simp),h.ra,hb.2,fun x=>?_,fun x hx y hy=>?_⟩
 ·rw [h.mem,addN_mem,List.mem_cons];constructor
  ·rintro (h1|h1|(h1|h1))
   ·exact .inl (.inl h1)
   ·exact .inr (.inl h1)
   ·exact .inl (.inr h1)
   ·exact .inr (.inr h1)
  ·rintro ((h1|h1)|h1|h1)
   ·exact .inl h1
   ·exact .inr (.inr (.inl h1))
   ·exact .inr (.inl h1)
   ·exact .inr (.inr (.inr h1))
 ·rcases (addN_mem _ _ _).1 hx with h1|rfl
  ·exact h.le x h1 y (hy.imp id (List.mem_cons_of_mem _))
  ·rcases hy with h1|h1
   ·exact hn y h1
   ·exact Nat.le_of_lt (hb.1 y h1)
end Go.Proofs.YtgdmcnoogacdaaaGreatDoor

namespace Go.Proofs.YtgdmcnoogacdaaaGreatDoor
open Go.RowKit
set_option linter.unusedVariables false
inductive Leaf:List UInt8->List (UInt8 × UInt8)->Bool->Prop
 | dot:Leaf [46] [] true
 | esc (d:UInt8):Leaf [92,d] [(d,d)] false
 | cls (t:List UInt8) (ss:List (UInt8 × UInt8)):clsV t=some (ss,[])->Leaf (91::t) ss (aheadM [94] t)
 | one (c:UInt8):marksL.contains c=false->Leaf [c] [(c,c)] false
def GrpText(a u:List UInt8)(ls:List Re):Prop:=a=40::(u++[41])/\∃n d,patM n u=some (ls,[],d)
theorem atom_text{n:Nat}{a:List UInt8}{r:Re}{d:Nat}(h:atomM n a=some (r,[],d)):(∃ss neg,r=.atom ss neg false/\Leaf a ss neg)\/(∃u ls,r=.alt ls/\GrpText a u ls):=by
 cases n with
 | zero=>simp [atomM] at h
 | succ n =>
   simp only [atomM] at h
   split at h
   ·rename_i h40
    cases hp:patM n a.tail with
    | none=>rw [hp] at h;cases h
    | some q =>
      obtain ⟨ls,y,d0⟩:=q;rw [hp] at h;simp only at h
      split at h
      ·rename_i hb;simp only [Option.some.injEq,Prod.mk.injEq] at h;obtain ⟨rfl,hy,_⟩:=h;have e:=ahead_one hb;rw [hy] at e;obtain ⟨u,h1,h2⟩:=pat_cut hp;have h3:=h2 [] (.inl rfl);rw [List.append_nil] at h3;refine .inr ⟨u,ls,rfl,?_,n,d0,h3⟩;rw [ahead_one h40,h1,e]
      ·cases h
   ·split at h
    ·rename_i h91
     cases hc:classM n a.tail with
     | none=>rw [hc] at h;cases h
     | some q =>
       obtain ⟨r0,y⟩:=q;rw [hc] at h;simp only [Option.some.injEq,Prod.mk.injEq] at h;obtain ⟨rfl,rfl,_⟩:=h;obtain ⟨ss,h1,h2⟩:=class_of hc;refine .inl ⟨ss,aheadM [94] a.tail,h2,?_⟩;rw [ahead_one h91];exact .cls _ _ h1
    ·split at h
     ·rename_i h46;simp only [Option.some.injEq,Prod.mk.injEq] at h;obtain ⟨rfl,hy,_⟩:=h;refine .inl ⟨[],true,rfl,?_⟩;rw [ahead_one h46,hy];exact .dot
     ·split at h
      ·rename_i h92;have e:=ahead_one h92
       cases ht:a.tail with
       | nil=>rw [ht] at h;cases h
       | cons c y =>
         rw [ht] at h e;simp only at h
         split at h
         ·simp only [Option.some.injEq,Prod.mk.injEq] at h;obtain ⟨rfl,hy,_⟩:=h;refine .inl ⟨[(c,c)],false,rfl,?_⟩;rw [e,hy];exact .esc c
         ·cases h
      ·cases ht:takeButM marksL a with
       | none=>rw [ht] at h;cases h
       | some q =>
         obtain ⟨c,y⟩:=q;rw [ht] at h;simp only [Option.some.injEq,Prod.mk.injEq] at h;obtain ⟨rfl,hy,_⟩:=h;obtain ⟨h1,h2⟩:=takeBut_some ht;refine .inl ⟨[(c,c)],false,rfl,?_⟩;rw [h1,hy];exact .one c h2
theorem leaf_head{a:List UInt8}{ss:List (UInt8 × UInt8)}{neg:Bool}(h:Leaf a ss neg):∃c t,a=c::t/\c≠40:=by
 cases h with
 | dot=>exact ⟨46,[],rfl,by decide⟩
 | esc d=>exact ⟨92,[d],rfl,by decide⟩
 | cls t ss h=>exact ⟨91,t,rfl,by decide⟩
 | one c h=>exact ⟨c,[],rfl,by rintro rfl;exact absurd h (by decide)⟩
theorem one_has(d c:UInt8):hasB [(d,d)] false c=decide (c=d):=by
 rw [has_ne];simp only [List.any_cons,List.any_nil,Bool.or_false,spanHas,Bool.bne_false];rw [<-Bool.decide_and,decide_eq_decide];constructor
 ·rintro ⟨h1,h2⟩;exact UInt8.le_antisymm h2 h1
 ·rintro rfl;exact ⟨UInt8.le_refl _,UInt8.le_refl _⟩
set_option maxHeartbeats 1000000 in
theorem byteof_ref(a:ByteArray)(ha:a.size<=1000){ss:List (UInt8 × UInt8)}{neg:Bool}(h:Leaf (strL a) ss neg)(c:UInt8)(w:World):
 Calls Tryz.prog 261 #[.string a,.int .u8 (c.toNat:Int)] w fun e w'=>e=.returned (.bool (hasB ss neg c))/\Below w.heap.size w w':=by
 have hl:=strL_length a;generalize hx:strL a=x at h
 cases h with
 | dot =>
   have i2:0<a.size:=by rw [<-hl,hx];simp
   have h0:a[0]=46:=by have:=strG a (k:=0) (by omega);rw [hx] at this;simpa using this.symm
   have t1:((a[0].toNat:Int)==92)=false:=test_no 92 (by omega) (show a[0]≠UInt8.ofNat 92 by rw [h0];decide);have t2:((a[0].toNat:Int)==91)=false:=test_no 91 (by omega) (show a[0]≠UInt8.ofNat 91 by rw [h0];decide);have t3:((a[0].toNat:Int)==46)=true:=test_yes 46 (by omega) h0;have i1:(0:Int)<(a.size:Int):=by omega
   rw [show hasB [] true c=true from rfl];clear hx hl h0;go_enter Tryz.func261,Tryz.ntmps261
   go_wp2_with fail
   go_ret;exact ⟨rfl,Below.refl _ _⟩
 | esc d =>
   have i4:1<a.size:=by rw [<-hl,hx];simp
   have i2:0<a.size:=by omega
   have h0:a[0]=92:=by have:=strG a (k:=0) (by omega);rw [hx] at this;simpa using this.symm
   have h1:a[1]=d:=by have:=strG a (k:=1) (by omega);rw [hx] at this;simpa using this.symm
   have t1:((a[0].toNat:Int)==92)=true:=test_yes 92 (by omega) h0;have t2:=byte_two a[1] c;rw [one_has,<-h1,<-t2];have i1:(0:Int)<(a.size:Int):=by omega
   have i3:(1:Int)<(a.size:Int):=by omega
   clear hx hl h0 h1 t2;go_enter Tryz.func261,Tryz.ntmps261
   go_wp2_with fail
   go_ret;exact ⟨rfl,Below.refl _ _⟩
 | cls t ss hc =>
   have i2:0<a.size:=by rw [<-hl,hx];simp
   have h0:a[0]=91:=by have:=strG a (k:=0) (by omega);rw [hx] at this;simpa using this.symm
   have t1:((a[0].toNat:Int)==92)=false:=test_no 92 (by omega) (show a[0]≠UInt8.ofNat 92 by rw [h0];decide);have t2:((a[0].toNat:Int)==91)=true:=test_yes 91 (by omega) h0;have HC:=zz (class_ref a 0 ha (by omega) c);have hd:(strL a).drop (0+1)=t:=by rw [hx];rfl
   rw [hd,(cls_some (N:=a.size) (c:=c) hc).2,<-has_ne] at HC;generalize clsE a.size t=z at HC;have i1:(0:Int)<(a.size:Int):=by omega
   generalize hasB ss (aheadM [94] t) c=b at HC ⊢;clear hx hl h0 hd hc;go_enter Tryz.func261,Tryz.ntmps261
   go_wp2_with (go_at_call 229;refine (HC.out _).mono ?_;rintro e w2 ⟨rfl,hb2⟩;have HB2:=zz hb2;clear hb2)
   go_ret;exact ⟨rfl,HB2.out⟩
 | one d hd =>
   have i2:0<a.size:=by rw [<-hl,hx];simp
   have h0:a[0]=d:=by have:=strG a (k:=0) (by omega);rw [hx] at this;simpa using this.symm
   have t1:((a[0].toNat:Int)==92)=false:=test_no 92 (by omega) (show a[0]≠UInt8.ofNat 92 by rw [h0];rintro rfl;exact absurd hd (by decide));have t2:((a[0].toNat:Int)==91)=false:=test_no 91 (by omega) (show a[0]≠UInt8.ofNat 91 by rw [h0];rintro rfl;exact absurd hd (by decide));have t3:((a[0].toNat:Int)==46)=false:=test_no 46 (by omega) (show a[0]≠UInt8.ofNat 46 by rw [h0];rintro rfl;exact absurd hd (by decide));have t4:=byte_two a[0] c;rw [one_has,<-h0,<-t4];have i1:(0:Int)<(a.size:Int):=by omega
   clear hx hl h0 t4;go_enter Tryz.func261,Tryz.ntmps261
   go_wp2_with fail
   go_ret;exact ⟨rfl,Below.refl _ _⟩
end Go.Proofs.YtgdmcnoogacdaaaGreatDoor

namespace Go.Proofs.YtgdmcnoogacdaaaGreatDoor
open Go.RowKit Go.Maps
set_option linter.unusedVariables false
def PlsTold(w:World)(P:List Nat->Prop)(e:Ending)(w':World):Prop:=∃A out c,e=.returned (.slice A out.length c)/\out.length<=c/\Pls w' A out/\P out/\Below w.heap.size w w'
def MrgRel(w:World)(la lb:List Nat)(p q o:Value)(wr:World):Prop :=
 ∃(A B:Option Addr) (xa xb out:List Nat) (ca cb:Nat),p=.slice A xa.length ca/\xa.length<=ca/\Pls w A xa/\q=.slice B xb.length cb/\xb.length<=cb/\Pls w B xb/\xa.length<=1001/\xb.length<=1001/\OwnP wr w.heap.size o out/\out.length+xa.length+xb.length<=2002/\MInv la lb xa xb out/\Below w.heap.size w wr
def lenOf:Value->Nat
 | .slice _ n _=>n
 | _=>0
theorem addN_len(out:List Nat)(n:Nat):(addN out n).length<=out.length+1:=by
 unfold addN
 split<;>simp
theorem addN_same{out:List Nat}{n:Nat}(h:out.getLast?=some n):addN out n=out:=by unfold addN;rw [if_pos h]
theorem addN_new{out:List Nat}{n:Nat}(h:out.getLast?≠some n):addN out n=out++[n]:=by unfold addN;rw [if_neg h]
theorem last_get(out:List Nat)(h:0<out.length):out.getLast?=some (out.getD (out.length-1) 0):=by
 rw [List.getLast?_eq_getElem?,List.getD_eq_getElem?_getD,List.getElem?_eq_getElem (by omega)];rfl
theorem below_drewN{B:Nat}{w wr:World}(h:Below B w wr)(q:Nat):Below B w (wr.drewN q):=⟨h.os,h.tape,h.output,h.size,h.block⟩
theorem ownp_drewN{w:World}{base:Nat}{v:Value}{l:List Nat}(h:OwnP w base v l)(q:Nat):OwnP (w.drewN q) base v l:=rows_move h fun _ _=>rfl
theorem pls_rest{w:World}{b o n c:Nat}{ta:List Nat}(h:Pls w (some ⟨b,o+1,none⟩) ta)(hc:(n::ta).length<=c):Pls w (if c=1 then some ⟨b,o,none⟩ else some ⟨b,o+1,none⟩) ta:=by
 split
 ·rename_i h1;obtain rfl:ta=[]:=List.eq_nil_of_length_eq_zero (by simp at hc;omega);exact Pls.nil _ _
 ·exact h
set_option maxRecDepth 100000 in
set_option maxHeartbeats 8000000 in
theorem merge_ref(A B:Option Addr)(la lb:List Nat)(ca cb:Nat)(w:World)(hA:Pls w A la)(hB:Pls w B lb)(hca:la.length<=ca)(hcb:lb.length<=cb)(ra:Rise la)(rb:Rise lb)(ma:la.length<=1001)(mb:lb.length<=1001):
 Calls Tryz.prog 230 #[.slice A la.length ca,.slice B lb.length cb] w (PlsTold w (Joins la lb)):=by
 have HA:=zz hA;have HB:=zz hB;have HI:=zz (minv_start ra rb);clear hA hB ra rb;go_enter Tryz.func230,Tryz.ntmps230
 go_wp2_with fail
 go_loopw [0,1,5] (fun p q o wr=>MrgRel w la lb p q o wr) (fun p q _ _=>lenOf p+lenOf q)
 case atStart=>exact ⟨A,B,la,lb,[],ca,cb,rfl,hca,HA.out,rfl,hcb,HB.out,ma,mb,ownp_nil _ _,by simp;omega,HI.out,Below.refl _ _⟩
 case round =>
  obtain ⟨A1,B1,xa,xb,out,c1,c2,rfl,h1,hA1,rfl,h2,hB1,m1,m2,ho,hlen,hinv,hbr⟩:=hrel;obtain ⟨P,cc,rfl,hlc,hP,_⟩:=ownp_slice ho;have hsz:=hbr.size;have HBD:=zz (fun q=>below_drewN hbr q);have HO:=zz (fun q=>ownp_drewN ho q)
  cases xa with
  | nil =>
    cases xb with
    | nil =>
      have HJ:=zz (minv_end hinv);have HBr:=zz hbr;clear hinv hbr ho
      go_wp2_with fail
      go_ret;exact ⟨P,out,cc,rfl,hlc,hP,HJ.out,HBr.out⟩
    | cons k tb =>
      obtain ⟨b,o,rfl,hb,g0,hB2⟩:=hB1.head;have HI1:=zz (minv_b hinv (fun y hy=>by cases hy));have HB2:=zz (pls_rest hB2 h2);have e0:wr.cell? ⟨b,o,none⟩=some (.int .i64 (k:Int)):=(hbr.cell (p:=⟨b,o,none⟩) hb).trans g0;clear hinv hbr ho
      go_upto_region 4 with fail
      go_quiet (fail)
      go_upto_region 9 with fail
      have HLN:=zz (show (addN out k).length+([]:List Nat).length+(tb:List Nat).length<=2002 by have:=addN_len out k;simp at hlen ⊢;omega);have hon:out.length+1<=2002:=by simp at hlen;omega
      by_cases hz:out.length=0
      ·have z0:((out.length:Int)==0)=true:=by rw [hz];rfl
       have HNW:=zz (addN_new (out:=out) (n:=k) (by rw [List.eq_nil_of_length_eq_zero hz];simp));clear hz
       go_wp2_with (at_builtin;refine app_nats rfl (.tmp 55) (.tmp 57) rfl w.heap.size _ out rfl (ownp_below (HO.out _) (below_one _ _)) _ [k] 1 rfl (pls_cell (Row.new _ _ _)) (by rw [List.length_singleton];omega) (Nat.le_trans hsz (by simp)) ?_;intro v1 w1 hown1 hb1 _;rw [<-HNW.out] at hown1;have HO1:=zz hown1;have HX1:=zz (((HBD.out _).alloc hsz _).trans hb1);clear hown1 hb1)
       go_roundw
       case rel=>exact ⟨A1,_,[],tb,addN out k,c1,_,rfl,by simp,Pls.nil _ _,rfl,by simp at h2;omega,HB2.out,by simp,by simp at m2;omega,HO1.out,HLN.out,HI1.out,HX1.out⟩
       case measure=>simp [lenOf]
      ·obtain ⟨b2,o2,rfl,hb2,g2⟩:=hP.at_ (i:=out.length-1) (by omega);have hlast:=last_get out (by omega);have z0:((out.length:Int)==0)=false:=by rw [beq_eq_false_iff_ne];omega
       have i1:(1:Int)<=(out.length:Int):=by omega
       generalize out.getD (out.length-1) 0=last at g2 hlast
       by_cases hl:last=k
       ·obtain rfl:=hl.symm;have HNW:=zz (addN_same hlast);clear hlast hz
        go_wp2_with fail
        go_roundw
        case rel=>exact ⟨A1,_,[],tb,addN out k,c1,_,rfl,by simp,Pls.nil _ _,rfl,by simp at h2;omega,HB2.out,by simp,by simp at m2;omega,by rw [HNW.out];exact HO.out _,HLN.out,HI1.out,HBD.out _⟩
        case measure=>simp [lenOf]
       ·have HNW:=zz (addN_new (out:=out) (n:=k) (by rw [hlast];intro e;exact hl (Option.some.inj e)));have y1:((last:Int)==(k:Int))=false:=by rw [beq_eq_false_iff_ne];omega
        have y0:((last:Int) !=(k:Int))=true:=by rw [bne,y1];rfl
        clear hlast hz hl
        go_wp2_with (at_builtin;refine app_nats rfl (.tmp 55) (.tmp 57) rfl w.heap.size _ out rfl (ownp_below (HO.out _) (below_one _ _)) _ [k] 1 rfl (pls_cell (Row.new _ _ _)) (by rw [List.length_singleton];omega) (Nat.le_trans hsz (by simp)) ?_;intro v1 w1 hown1 hb1 _;rw [<-HNW.out] at hown1;have HO1:=zz hown1;have HX1:=zz (((HBD.out _).alloc hsz _).trans hb1);clear hown1 hb1)
        go_roundw
        case rel=>exact ⟨A1,_,[],tb,addN out k,c1,_,rfl,by simp,Pls.nil _ _,rfl,by simp at h2;omega,HB2.out,by simp,by simp at m2;omega,HO1.out,HLN.out,HI1.out,HX1.out⟩
        case measure=>simp [lenOf]
  | cons n ta =>
    cases xb with
    | nil =>
      obtain ⟨b,o,rfl,hb,g0,hA2⟩:=hA1.head;have HI1:=zz (minv_a hinv (fun y hy=>by cases hy));have HA2:=zz (pls_rest hA2 h1);have e0:wr.cell? ⟨b,o,none⟩=some (.int .i64 (n:Int)):=(hbr.cell (p:=⟨b,o,none⟩) hb).trans g0;clear hinv hbr ho
      go_upto_region 4 with fail
      go_quiet (fail)
      go_upto_region 9 with fail
      have HLN:=zz (show (addN out n).length+(ta:List Nat).length+([]:List Nat).length<=2002 by have:=addN_len out n;simp at hlen ⊢;omega);have hon:out.length+1<=2002:=by simp at hlen;omega
      by_cases hz:out.length=0
      ·have z0:((out.length:Int)==0)=true:=by rw [hz];rfl
       have HNW:=zz (addN_new (out:=out) (n:=n) (by rw [List.eq_nil_of_length_eq_zero hz];simp));clear hz
       go_wp2_with (at_builtin;refine app_nats rfl (.tmp 55) (.tmp 57) rfl w.heap.size _ out rfl (ownp_below (HO.out _) (below_one _ _)) _ [n] 1 rfl (pls_cell (Row.new _ _ _)) (by rw [List.length_singleton];omega) (Nat.le_trans hsz (by simp)) ?_;intro v1 w1 hown1 hb1 _;rw [<-HNW.out] at hown1;have HO1:=zz hown1;have HX1:=zz (((HBD.out _).alloc hsz _).trans hb1);clear hown1 hb1)
       go_roundw
       case rel=>exact ⟨_,B1,ta,[],addN out n,_,c2,rfl,by simp at h1;omega,HA2.out,rfl,by simp,Pls.nil _ _,by simp at m1;omega,by simp,HO1.out,HLN.out,HI1.out,HX1.out⟩
       case measure=>simp [lenOf]
      ·obtain ⟨b2,o2,rfl,hb2,g2⟩:=hP.at_ (i:=out.length-1) (by omega);have hlast:=last_get out (by omega);have z0:((out.length:Int)==0)=false:=by rw [beq_eq_false_iff_ne];omega
       have i1:(1:Int)<=(out.length:Int):=by omega
       generalize out.getD (out.length-1) 0=last at g2 hlast
       by_cases hl:last=n
       ·obtain rfl:=hl.symm;have HNW:=zz (addN_same hlast);clear hlast hz
        go_wp2_with fail
        go_roundw
        case rel=>exact ⟨_,B1,ta,[],addN out n,_,c2,rfl,by simp at h1;omega,HA2.out,rfl,by simp,Pls.nil _ _,by simp at m1;omega,by simp,by rw [HNW.out];exact HO.out _,HLN.out,HI1.out,HBD.out _⟩
        case measure=>simp [lenOf]
       ·have HNW:=zz (addN_new (out:=out) (n:=n) (by rw [hlast];intro e;exact hl (Option.some.inj e)));have y1:((last:Int)==(n:Int))=false:=by rw [beq_eq_false_iff_ne];omega
        have y0:((last:Int) !=(n:Int))=true:=by rw [bne,y1];rfl
        clear hlast hz hl
        go_wp2_with (at_builtin;refine app_nats rfl (.tmp 55) (.tmp 57) rfl w.heap.size _ out rfl (ownp_below (HO.out _) (below_one _ _)) _ [n] 1 rfl (pls_cell (Row.new _ _ _)) (by rw [List.length_singleton];omega) (Nat.le_trans hsz (by simp)) ?_;intro v1 w1 hown1 hb1 _;rw [<-HNW.out] at hown1;have HO1:=zz hown1;have HX1:=zz (((HBD.out _).alloc hsz _).trans hb1);clear hown1 hb1)
        go_roundw
        case rel=>exact ⟨_,B1,ta,[],addN out n,_,c2,rfl,by simp at h1;omega,HA2.out,rfl,by simp,Pls.nil _ _,by simp at m1;omega,by simp,HO1.out,HLN.out,HI1.out,HX1.out⟩
        case measure=>simp [lenOf]
    | cons k tb =>
      obtain ⟨b,o,rfl,hb,g0,hA2⟩:=hA1.head;obtain ⟨d,u,rfl,hd,k0,hB2⟩:=hB1.head;have e0:wr.cell? ⟨b,o,none⟩=some (.int .i64 (n:Int)):=(hbr.cell (p:=⟨b,o,none⟩) hb).trans g0;have e1:wr.cell? ⟨d,u,none⟩=some (.int .i64 (k:Int)):=(hbr.cell (p:=⟨d,u,none⟩) hd).trans k0
      by_cases hnk:n<=k
      ·have HI1:=zz (minv_a hinv (fun y hy=>by
        rcases List.mem_cons.1 hy with rfl|hy
        ·exact hnk
        ·have:=(List.pairwise_cons.1 hinv.rb).1 y hy;omega))
       have HA2:=zz (pls_rest hA2 h1);have q1:decide ((n:Int)<=(k:Int))=true:=decide_eq_true (by omega);have q2:decide (n<=k)=true:=decide_eq_true hnk;clear hinv hbr ho
       go_upto_region 4 with fail
       go_quiet (fail)
       go_upto_region 9 with fail
       have HLN:=zz (show (addN out n).length+(ta:List Nat).length+((k::tb):List Nat).length<=2002 by have:=addN_len out n;simp at hlen ⊢;omega);have hon:out.length+1<=2002:=by simp at hlen;omega
       by_cases hz:out.length=0
       ·have z0:((out.length:Int)==0)=true:=by rw [hz];rfl
        have HNW:=zz (addN_new (out:=out) (n:=n) (by rw [List.eq_nil_of_length_eq_zero hz];simp));clear hz
        go_wp2_with (at_builtin;refine app_nats rfl (.tmp 55) (.tmp 57) rfl w.heap.size _ out rfl (ownp_below (HO.out _) (below_one _ _)) _ [n] 1 rfl (pls_cell (Row.new _ _ _)) (by rw [List.length_singleton];omega) (Nat.le_trans hsz (by simp)) ?_;intro v1 w1 hown1 hb1 _;rw [<-HNW.out] at hown1;have HO1:=zz hown1;have HX1:=zz (((HBD.out _).alloc hsz _).trans hb1);clear hown1 hb1)
        go_roundw
        case rel=>exact ⟨_,_,ta,(k::tb),addN out n,_,c2,rfl,by simp at h1;omega,HA2.out,rfl,by exact h2,hB1,by simp at m1;omega,by exact m2,HO1.out,HLN.out,HI1.out,HX1.out⟩
        case measure=>simp [lenOf]
       ·obtain ⟨b2,o2,rfl,hb2,g2⟩:=hP.at_ (i:=out.length-1) (by omega);have hlast:=last_get out (by omega);have z0:((out.length:Int)==0)=false:=by rw [beq_eq_false_iff_ne];omega
        have i1:(1:Int)<=(out.length:Int):=by omega
        generalize out.getD (out.length-1) 0=last at g2 hlast
        by_cases hl:last=n
        ·obtain rfl:=hl.symm;have HNW:=zz (addN_same hlast);clear hlast hz
         go_wp2_with fail
         go_roundw
         case rel=>exact ⟨_,_,ta,(k::tb),addN out n,_,c2,rfl,by simp at h1;omega,HA2.out,rfl,by exact h2,hB1,by simp at m1;omega,by exact m2,by rw [HNW.out];exact HO.out _,HLN.out,HI1.out,HBD.out _⟩
         case measure=>simp [lenOf]
        ·have HNW:=zz (addN_new (out:=out) (n:=n) (by rw [hlast];intro e;exact hl (Option.some.inj e)));have y1:((last:Int)==(n:Int))=false:=by rw [beq_eq_false_iff_ne];omega
         have y0:((last:Int) !=(n:Int))=true:=by rw [bne,y1];rfl
         clear hlast hz hl
         go_wp2_with (at_builtin;refine app_nats rfl (.tmp 55) (.tmp 57) rfl w.heap.size _ out rfl (ownp_below (HO.out _) (below_one _ _)) _ [n] 1 rfl (pls_cell (Row.new _ _ _)) (by rw [List.length_singleton];omega) (Nat.le_trans hsz (by simp)) ?_;intro v1 w1 hown1 hb1 _;rw [<-HNW.out] at hown1;have HO1:=zz hown1;have HX1:=zz (((HBD.out _).alloc hsz _).trans hb1);clear hown1 hb1)
         go_roundw
         case rel=>exact ⟨_,_,ta,(k::tb),addN out n,_,c2,rfl,by simp at h1;omega,HA2.out,rfl,by exact h2,hB1,by simp at m1;omega,by exact m2,HO1.out,HLN.out,HI1.out,HX1.out⟩
         case measure=>simp [lenOf]
      ·have HI1:=zz (minv_b hinv (fun y hy=>by
        rcases List.mem_cons.1 hy with rfl|hy
        ·omega
        ·have:=(List.pairwise_cons.1 hinv.ra).1 y hy;omega))
       have HB2:=zz (pls_rest hB2 h2);have q1:decide ((n:Int)<=(k:Int))=false:=decide_eq_false (by omega);have q2:decide (n<=k)=false:=decide_eq_false hnk;clear hinv hbr ho
       go_upto_region 4 with fail
       go_quiet (fail)
       go_upto_region 9 with fail
       have HLN:=zz (show (addN out k).length+((n::ta):List Nat).length+(tb:List Nat).length<=2002 by have:=addN_len out k;simp at hlen ⊢;omega);have hon:out.length+1<=2002:=by simp at hlen;omega
       by_cases hz:out.length=0
       ·have z0:((out.length:Int)==0)=true:=by rw [hz];rfl
        have HNW:=zz (addN_new (out:=out) (n:=k) (by rw [List.eq_nil_of_length_eq_zero hz];simp));clear hz
        go_wp2_with (at_builtin;refine app_nats rfl (.tmp 55) (.tmp 57) rfl w.heap.size _ out rfl (ownp_below (HO.out _) (below_one _ _)) _ [k] 1 rfl (pls_cell (Row.new _ _ _)) (by rw [List.length_singleton];omega) (Nat.le_trans hsz (by simp)) ?_;intro v1 w1 hown1 hb1 _;rw [<-HNW.out] at hown1;have HO1:=zz hown1;have HX1:=zz (((HBD.out _).alloc hsz _).trans hb1);clear hown1 hb1)
        go_roundw
        case rel=>exact ⟨_,_,(n::ta),tb,addN out k,c1,_,rfl,by exact h1,hA1,rfl,by simp at h2;omega,HB2.out,by exact m1,by simp at m2;omega,HO1.out,HLN.out,HI1.out,HX1.out⟩
        case measure=>simp [lenOf]
       ·obtain ⟨b2,o2,rfl,hb2,g2⟩:=hP.at_ (i:=out.length-1) (by omega);have hlast:=last_get out (by omega);have z0:((out.length:Int)==0)=false:=by rw [beq_eq_false_iff_ne];omega
        have i1:(1:Int)<=(out.length:Int):=by omega
        generalize out.getD (out.length-1) 0=last at g2 hlast
        by_cases hl:last=k
        ·obtain rfl:=hl.symm;have HNW:=zz (addN_same hlast);clear hlast hz
         go_wp2_with fail
         go_roundw
         case rel=>exact ⟨_,_,(n::ta),tb,addN out k,c1,_,rfl,by exact h1,hA1,rfl,by simp at h2;omega,HB2.out,by exact m1,by simp at m2;omega,by rw [HNW.out];exact HO.out _,HLN.out,HI1.out,HBD.out _⟩
         case measure=>simp [lenOf]
        ·have HNW:=zz (addN_new (out:=out) (n:=k) (by rw [hlast];intro e;exact hl (Option.some.inj e)));have y1:((last:Int)==(k:Int))=false:=by rw [beq_eq_false_iff_ne];omega
         have y0:((last:Int) !=(k:Int))=true:=by rw [bne,y1];rfl
         clear hlast hz hl
         go_wp2_with (at_builtin;refine app_nats rfl (.tmp 55) (.tmp 57) rfl w.heap.size _ out rfl (ownp_below (HO.out _) (below_one _ _)) _ [k] 1 rfl (pls_cell (Row.new _ _ _)) (by rw [List.length_singleton];omega) (Nat.le_trans hsz (by simp)) ?_;intro v1 w1 hown1 hb1 _;rw [<-HNW.out] at hown1;have HO1:=zz hown1;have HX1:=zz (((HBD.out _).alloc hsz _).trans hb1);clear hown1 hb1)
         go_roundw
         case rel=>exact ⟨_,_,(n::ta),tb,addN out k,c1,_,rfl,by exact h1,hA1,rfl,by simp at h2;omega,HB2.out,by exact m1,by simp at m2;omega,HO1.out,HLN.out,HI1.out,HX1.out⟩
         case measure=>simp [lenOf]
def EndsAt(s p:ByteArray):Prop:=∀(ls:List Re),PatT (strL p) ls->∀(A:Option Addr) (l:List Nat) (c:Nat) (w:World),Pls w A l->l.length<=c->Rise l->(∀x∈l,x<=s.size)->Calls Tryz.prog 198 #[.string p,.string s,.slice A l.length c] w (PlsTold w (IsEnds (LAlt ls) (strL s) l))
def OneAt(s a:ByteArray):Prop:=∀(r:Re),AtomT (strL a) r->∀(A:Option Addr) (l:List Nat) (c:Nat) (w:World),Pls w A l->l.length<=c->Rise l->(∀x∈l,x<=s.size)->Calls Tryz.prog 256 #[.string a,.string s,.slice A l.length c] w (PlsTold w (IsEnds (L r) (strL s) l))
def OneRel(w:World)(s:List UInt8)(f:UInt8->Bool)(l:List Nat)(o i:Value)(wr:World):Prop:=∃k:Nat,k<=l.length/\i=.int .i64 (k:Int)/\OwnP wr w.heap.size o (oneOut s f l k)/\Below w.heap.size w wr
set_option maxRecDepth 100000 in
set_option maxHeartbeats 4000000 in
theorem one_ref(s a:ByteArray)(hs:s.size<=1000)(ha:a.size<=1000)(hE:∀q:ByteArray,q.size<a.size->EndsAt s q):OneAt s a:=by
 intro r hr A l c w hA hc hl hx;have hlen:=rise_len hl hx;obtain ⟨n,d,hat⟩:=hr;rcases atom_text hat with ⟨ss,neg,rfl,hleaf⟩|⟨u,ls,rfl,hg,hp⟩
 ·have HF:=zz (fun (cc:UInt8) W=>byteof_ref a ha hleaf cc W);obtain ⟨c0,t,he,hne⟩:=leaf_head hleaf;have hal:0<a.size:=by rw [<-strL_length,he];simp
  have h0:a[0]=c0:=by have:=strG a (k:=0) hal;rw [he] at this;simpa using this.symm
  have t0:((a[0].toNat:Int)==40)=false:=test_no 40 (by omega) (show a[0]≠UInt8.ofNat 40 by rw [h0];exact hne);have i0:(0:Int)<(a.size:Int):=by omega
  have HEN:=zz (show IsEnds (L (.atom ss neg false)) (strL s) l (oneOut (strL s) (hasB ss neg) l l.length) from (oneOut_ends (strL s) (hasB ss neg) l hl).congr fun w=>by simp only [L]);have HA:=zz hA;have HST:=zz (fun (k:Nat) (h:k<l.length)=>oneOut_step (strL s) (hasB ss neg) l h);have HLN:=zz (fun k=>oneOut_len (strL s) (hasB ss neg) l k);have HXL:=zz hx;clear hat hleaf he hne h0 hA hl hx;go_enter Tryz.func256,Tryz.ntmps256
  go_wp2_with fail
  go_loopw [7,8] (fun o i wr=>OneRel w (strL s) (hasB ss neg) l o i wr) (fun _ i _=>l.length-(intOf i).toNat)
  case atStart=>exact ⟨0,Nat.zero_le _,rfl,ownp_nil _ _,Below.refl _ _⟩
  case round =>
   obtain ⟨k,hk,rfl,ho,hbr⟩:=hrel;have hsz:=hbr.size;obtain ⟨P,cc,rfl,hlc,hP,_⟩:=ownp_slice ho;have HBr:=zz hbr;have HO:=zz ho
   by_cases hlt:k<l.length
   ·obtain ⟨b,o,rfl,hb,g0⟩:=HA.out.at_ hlt;have e0:wr.cell? ⟨b,o+k,none⟩=some (.int .i64 ((l.getD k 0:Nat):Int)):=(hbr.cell (p:=⟨b,o+k,none⟩) hb).trans g0;have hst:=HST.out k hlt;have hxl:=HXL.out (l.getD k 0) (by rw [List.getD_eq_getElem?_getD,List.getElem?_eq_getElem hlt];exact List.getElem_mem _);generalize l.getD k 0=x at e0 hst hxl;have i1:(0:Int)<=(k:Int):=by omega
    have i2:(k:Int)<(l.length:Int):=by omega
    clear ho hbr g0 hP
    by_cases hxs:x<s.size
    ·have HB:=zz (fun W=>HF.out s[x] W);have hsb:stepB (strL s) (hasB ss neg) x=hasB ss neg s[x]:=by unfold stepB;rw [strG s hxs]
     rw [hsb] at hst;have i3:(x:Int)<(s.size:Int):=by omega
     have i4:(0:Int)<=(x:Int):=by omega
     cases hh:hasB ss neg s[x]
     ·rw [hh] at hst HB;have HS:=zz (hst.trans (by simp:_=oneOut (strL s) (hasB ss neg) l k));clear hst hh hsb
      go_wp2_with (go_at_call 261;refine (HB.out _).mono ?_;rintro e w2 ⟨rfl,hb2⟩;have HB2:=zz (HBr.out.trans (hb2.mono HBr.out.size));have HO2:=zz (ownp_below HO.out hb2);clear hb2)
      go_roundw
      case rel=>exact ⟨k+1,by omega,by go_num,by rw [HS.out];exact HO2.out,HB2.out⟩
      case measure=>simp [intOf];omega
     ·rw [hh] at hst HB;have HS:=zz (hst.trans (by simp:_=oneOut (strL s) (hasB ss neg) l k++[x+1]));have HN:=zz (show (oneOut (strL s) (hasB ss neg) l k).length+1<=2002 by have:=HLN.out k;omega);generalize oneOut (strL s) (hasB ss neg) l k=y at *;clear hst hh hsb
      go_wp2_with (first
       | (go_at_call 261;refine (HB.out _).mono ?_;rintro e w2 ⟨rfl,hb2⟩;have HB2:=zz (HBr.out.trans (hb2.mono HBr.out.size));have HO2:=zz (ownp_below HO.out hb2);have e2:w2.cell? ⟨b,o+k,none⟩=some (.int .i64 (x:Int)):=(HB2.out.cell (p:=⟨b,o+k,none⟩) hb).trans ((HBr.out.cell (p:=⟨b,o+k,none⟩) hb).symm.trans e0);clear hb2)
       | (at_builtin;refine app_nats rfl (.tmp 43) (.tmp 49) rfl w.heap.size _ y rfl (ownp_below HO2.out (below_one _ _)) _ [x+1] 1 rfl (pls_cell (n:=x+1) (Row.new _ _ _)) (by rw [List.length_singleton];have:=HN.out;omega) (Nat.le_trans HB2.out.size (by simp)) ?_;intro v1 w3 hown1 hb1 _;have HO3:=zz hown1;have HB3:=zz ((HB2.out.alloc HB2.out.size _).trans hb1);clear hown1 hb1))
      go_roundw
      case rel=>exact ⟨k+1,by omega,by go_num,by rw [HS.out];exact HO3.out,HB3.out⟩
      case measure=>simp [intOf];omega
    ·have hsb:stepB (strL s) (hasB ss neg) x=false:=by unfold stepB;rw [List.getElem?_eq_none (by rw [strL_length];omega)]
     rw [hsb] at hst;have HS:=zz (hst.trans (by simp:_=oneOut (strL s) (hasB ss neg) l k));have i3:¬(x:Int)<(s.size:Int):=by omega
     clear hst hsb
     go_wp2_with fail
     exact ⟨⟨k+1,by omega,by go_num,by rw [HS.out];exact HO.out,HBr.out⟩,by simp [intOf];omega⟩
   ·obtain rfl:k=l.length:=by omega
    clear ho hbr;have HP:=zz hP;clear hP
    go_wp2_with fail
    go_ret;exact ⟨P,_,cc,rfl,hlc,HP.out,HEN.out,HBr.out⟩
 ·obtain ⟨hau,hpu⟩:strL a=40::(u++[41])/\PatT u ls:=⟨hg,hp⟩;have hz:a.size=u.length+2:=by rw [<-strL_length,hau];simp
  have hal:0<a.size:=by omega
  have h0:a[0]=40:=by have:=strG a (k:=0) hal;rw [hau] at this;simpa using this.symm
  have t0:((a[0].toNat:Int)==40)=true:=test_yes 40 (by omega) h0;have i0:(0:Int)<(a.size:Int):=by omega
  have hsl:strL (a.extract 1 (a.size-1))=u:=by
   rw [ext_txt a _ _ (by omega),hau];simp only [List.drop_succ_cons,List.drop_zero];rw [show a.size-1-1=u.length by omega,List.take_left]
  have hsz:(a.extract 1 (a.size-1)).size<a.size:=by rw [<-strL_length,hsl];omega
  have HC:=zz (hE _ hsz ls (by rw [hsl];exact hpu) A l c w hA hc hl hx);have HL:=zz (show ∀e w',PlsTold w (IsEnds (LAlt ls) (strL s) l) e w'->PlsTold w (IsEnds (L (.alt ls)) (strL s) l) e w' from fun e w' h=>by
   obtain ⟨A',out,c',h1,h2,h3,h4,h5⟩:=h;exact ⟨A',out,c',h1,h2,h3,h4.congr fun w=>by simp only [L],h5⟩)
  have i1:(2:Int)<=(a.size:Int):=by omega
  have i2:2<=a.size:=by omega
  clear hat hg hp hau hpu hz h0 hsl hsz hE;go_enter Tryz.func256,Tryz.ntmps256
  go_wp2_with (go_at_call 198;refine HC.out.mono ?_;rintro e w2 ⟨A',out,c',rfl,h2,h3,h4,h5⟩;have H3:=zz h3;have H4:=zz h4;have H5:=zz h5;clear h3 h4 h5)
  go_ret;exact HL.out _ _ ⟨A',out,c',rfl,h2,H3.out,H4.out,H5.out⟩
def markF(m:UInt8)(r:Re):Re:=if m=42 then .rep r true true else if m=43 then .rep r false true else if m=63 then .rep r true false else r
def Many(r:Re)(m:UInt8)(x:List UInt8):Prop:=if m=42\/m=43 then ∃u v,x=u++v/\L r u/\Star (L r) v else L r x
def PieceAt(s a:ByteArray):Prop:=∀(r:Re),AtomT (strL a) r->∀(m:UInt8) (A:Option Addr) (l:List Nat) (c:Nat) (w:World),Pls w A l->l.length<=c->Rise l->(∀x∈l,x<=s.size)->Calls Tryz.prog 247 #[.string a,.int .u8 (m.toNat:Int),.string s,.slice A l.length c] w (PlsTold w (IsEnds (L (markF m r)) (strL s) l))
def PcMid(w:World)(Q:List UInt8->Prop)(s:List UInt8)(l:List Nat)(v:Value)(wx:World):Prop:=∃A out c,v=.slice A out.length c/\out.length<=c/\Pls wx A out/\IsEnds Q s l out/\Below w.heap.size w wx
def PcRel(w:World)(r:Re)(s:List UInt8)(l:List Nat)(v i:Value)(wr:World):Prop:=∃(k:Nat) (A:Option Addr) (nx:List Nat) (c:Nat),k<=s.length/\i=.int .i64 (k:Int)/\v=.slice A nx.length c/\nx.length<=c/\Pls wr A nx/\Found (L r) s l k nx/\Below w.heap.size w wr
theorem found_le{P:List UInt8->Prop}{s:List UInt8}{l nx:List Nat}{k:Nat}(h:Found P s l k nx):∀j∈nx,j<=s.length:=fun j hj=>by
 obtain ⟨i,t,_,hp⟩:=h.2.1 j hj;exact hp.le.2
theorem many_yes{r:Re}{m:UInt8}(h:m=42\/m=43){s:List UInt8}{l out:List Nat}(k:IsEnds (fun x=>∃u v,x=u++v/\L r u/\Star (L r) v) s l out):IsEnds (Many r m) s l out:=k.congr fun x=>by unfold Many;rw [if_pos h]
theorem many_no{r:Re}{m:UInt8}(h:¬(m=42\/m=43)){s:List UInt8}{l out:List Nat}(k:IsEnds (L r) s l out):IsEnds (Many r m) s l out:=k.congr fun x=>by unfold Many;rw [if_neg h]
theorem u8_yes{m:UInt8}(k:Nat)(hk:k<256)(h:m=UInt8.ofNat k):((m.toNat:Int)==(k:Int))=true:=test_yes k hk h
theorem u8_no{m:UInt8}(k:Nat)(hk:k<256)(h:m≠UInt8.ofNat k):((m.toNat:Int)==(k:Int))=false:=test_no k hk h
set_option maxRecDepth 100000 in
set_option maxHeartbeats 4000000 in
theorem piece_ref(s a:ByteArray)(hs:s.size<=1000)(hO:OneAt s a):PieceAt s a:=by
 intro r hr m A l c w hA hc hl hx;have hsl:=strL_length s;have HO:=zz (fun (A:Option Addr) (l:List Nat) (c:Nat) W h1 h2 h3 h4=>hO r hr A l c W h1 h2 h3 h4);have HA:=zz hA;have HRL:=zz hl;have HXL:=zz hx;have HLL:=zz (show l.length<=1001 by have:=rise_len hl hx;omega);have HSL:=zz hsl;clear hA hl hx hO hr hsl;go_enter Tryz.func247,Tryz.ntmps247
 go_upto_region 2 with (first|(go_at_call 256;refine (HO.out A l c _ HA.out hc HRL.out HXL.out).mono ?_;rintro e w1 ⟨A1,n1,c1,rfl,hc1,hP1,hE1,hb1⟩;have HP1:=zz hP1;have HE1:=zz hE1;have HB1:=zz hb1;clear hP1 hE1 hb1))
 go_cut [21] (fun s21 wx=>s21=.bool (decide (m=42\/m=43))/\w1=wx)
 case first =>
  by_cases h1:m=42
  ·have t1:((m.toNat:Int)==42)=true:=u8_yes 42 (by omega) h1;have HD:=zz (decide_eq_true (show m=42\/m=43 from .inl h1));clear h1
   go_wp2_with fail
   go_meet
   exact ⟨by rw [HD.out],rfl⟩
  ·have t1:((m.toNat:Int)==42)=false:=u8_no 42 (by omega) h1
   by_cases h2:m=43
   ·have t2:((m.toNat:Int)==43)=true:=u8_yes 43 (by omega) h2;have HD:=zz (decide_eq_true (show m=42\/m=43 from .inr h2));clear h1 h2
    go_wp2_with fail
    go_meet
    exact ⟨by rw [HD.out],rfl⟩
   ·have t2:((m.toNat:Int)==43)=false:=u8_no 43 (by omega) h2;have HD:=zz (decide_eq_false (show ¬(m=42\/m=43) from fun h=>h.elim h1 h2));clear h1 h2
    go_wp2_with fail
    go_meet
    exact ⟨by rw [HD.out],rfl⟩
 case rest =>
  obtain ⟨rfl,rfl⟩:=hcut
  go_upto_if 21 with fail
  go_cut [9] (fun s9 wx=>PcMid w (Many r m) (strL s) l s9 wx)
  case first =>
   by_cases hm:m=42\/m=43
   ·have HM:=zz hm;rw [decide_eq_true hm];clear hm;have HS0:=zz (found_zero HE1.out)
    go_wp2_with fail
    go_loopw [9,10] (fun v i wr=>PcRel w r (strL s) l v i wr) (fun _ i _=>s.size-(intOf i).toNat)
    case atStart=>exact ⟨0,A1,n1,c1,Nat.zero_le _,rfl,rfl,hc1,HP1.out,HS0.out,HB1.out⟩
    case round =>
     obtain ⟨k,A2,nx,c2,hk,rfl,rfl,hc2,hP2,hF2,hbr⟩:=hrel;have hr2:=hF2.1;have hl2:=found_le hF2;rw [HSL.out] at hk hl2;have HLX:=zz (show nx.length<=1001 by have:=rise_len hr2 hl2;omega);have HP2:=zz hP2;have HF2:=zz hF2;have HBr:=zz hbr;have HC:=zz (HO.out A2 nx c2 wr hP2 hc2 hr2 hl2);have HR2:=zz hr2;clear hP2 hF2 hbr hr2 hl2
     by_cases hlt:k<s.size
     ·have i1:(k:Int)<(s.size:Int):=by omega
      go_upto_region 7 with (first
       | (go_at_call 256;refine HC.out.mono ?_;rintro e w3 ⟨A3,e3,c3,rfl,hc3,hP3,hE3,hb3⟩
          have HB3:=zz (HBr.out.trans (hb3.mono HBr.out.size));have HW3:=zz hb3;have HE3:=zz hE3;have hl3:=hE3.le;rw [HSL.out] at hl3;have HMG:=zz (merge_ref A2 A3 nx e3 c2 c3 w3 (HP2.out.below hb3) hP3 hc2 hc3 HR2.out hE3.1 HLX.out (by have:=rise_len hE3.1 hl3;omega));clear hP3 hE3 hb3 hl3)
       | (go_at_call 230;refine HMG.out.mono ?_;rintro e w4 ⟨A4,mo,c4,rfl,hc4,hP4,hJ4,hb4⟩
          have HB4:=zz (HB3.out.trans (hb4.mono HB3.out.size));have HP4:=zz hP4;have HJ4:=zz hJ4;have HP24:=zz ((HP2.out.below HW3.out).below hb4);clear hP4 hJ4 hb4))
      by_cases hle:mo.length=nx.length
      ·have HFS:=zz (found_stop HF2.out HE3.out HJ4.out hle);have z0:((mo.length:Int)==(nx.length:Int))=true:=by rw [hle];simp
       clear hle
       go_wp2_with fail
       go_meet
       exact ⟨A2,nx,c2,rfl,hc2,HP24.out,many_yes HM.out HFS.out,HB4.out⟩
      ·have HFS:=zz (found_step HF2.out HE3.out HJ4.out);have z0:((mo.length:Int)==(nx.length:Int))=false:=by rw [beq_eq_false_iff_ne];omega
       clear hle
       go_wp2_with fail
       go_roundw
       case rel=>exact ⟨k+1,A4,mo,c4,by rw [HSL.out];omega,by go_num,rfl,hc4,HP4.out,HFS.out,HB4.out⟩
       case measure=>simp [intOf];omega
     ·obtain rfl:k=s.size:=by omega
      have HFS:=zz (found_full (by rw [HSL.out];exact HF2.out))
      go_wp2_with fail
      go_meet
      exact ⟨A2,nx,c2,rfl,hc2,HP2.out,many_yes HM.out HFS.out,HBr.out⟩
   ·have HE:=zz (many_no hm HE1.out);rw [decide_eq_false hm];clear hm
    go_wp2_with fail
    go_meet
    exact ⟨A1,n1,c1,rfl,hc1,HP1.out,HE.out,HB1.out⟩
  case rest =>
   obtain ⟨A2,n2,c2,rfl,hc2,hP2,hE2,hb2⟩:=hcut;have hl2:=hE2.le;rw [HSL.out] at hl2;have HB2:=zz hb2;have HMG:=zz (merge_ref A2 A n2 l c2 c wc hP2 (HA.out.below hb2) hc2 hc hE2.1 HRL.out (by have:=rise_len hE2.1 hl2;omega) HLL.out);have HE2:=zz hE2;have HP2:=zz hP2;clear hP2 hE2 hb2 hl2
   by_cases h1:m=42
   ·have t1:((m.toNat:Int)==42)=true:=u8_yes 42 (by omega) h1;have HQ:=zz (fun out (hj:Joins n2 l out)=>show IsEnds (L (markF m r)) (strL s) l out by
     rw [h1] at HE2 ⊢;exact ends_star HRL.out (by rw [HSL.out];exact HXL.out) (HE2.out.congr fun x=>by unfold Many;rw [if_pos (.inl rfl)]) hj)
    clear h1
    go_wp2_with (go_at_call 230;refine HMG.out.mono ?_;rintro e w4 ⟨A4,mo,c4,rfl,hc4,hP4,hJ4,hb4⟩;have HB4:=zz (HB2.out.trans (hb4.mono HB2.out.size));have HP4:=zz hP4;have HJ4:=zz (HQ.out mo hJ4);clear hP4 hJ4 hb4)
    go_ret;exact ⟨A4,mo,c4,rfl,hc4,HP4.out,HJ4.out,HB4.out⟩
   ·have t1:((m.toNat:Int)==42)=false:=u8_no 42 (by omega) h1
    by_cases h3:m=63
    ·have t3:((m.toNat:Int)==63)=true:=u8_yes 63 (by omega) h3;have HQ:=zz (fun out (hj:Joins n2 l out)=>show IsEnds (L (markF m r)) (strL s) l out by
      rw [h3] at HE2 ⊢;exact ends_maybe HRL.out (by rw [HSL.out];exact HXL.out) (HE2.out.congr fun x=>by unfold Many;rw [if_neg (by decide)]) hj)
     clear h1 h3
     go_wp2_with (go_at_call 230;refine HMG.out.mono ?_;rintro e w4 ⟨A4,mo,c4,rfl,hc4,hP4,hJ4,hb4⟩;have HB4:=zz (HB2.out.trans (hb4.mono HB2.out.size));have HP4:=zz hP4;have HJ4:=zz (HQ.out mo hJ4);clear hP4 hJ4 hb4)
     go_ret;exact ⟨A4,mo,c4,rfl,hc4,HP4.out,HJ4.out,HB4.out⟩
    ·have t3:((m.toNat:Int)==63)=false:=u8_no 63 (by omega) h3;have HQ:=zz (show IsEnds (L (markF m r)) (strL s) l n2 by
      unfold markF;rw [if_neg h1]
      by_cases h2:m=43
      ·rw [if_pos h2];exact ends_plus (HE2.out.congr fun x=>by unfold Many;rw [if_pos (.inr h2)])
      ·rw [if_neg h2,if_neg h3];exact HE2.out.congr fun x=>by unfold Many;rw [if_neg (fun h=>h.elim h1 h2)])
     clear h1 h3
     go_wp2_with fail
     go_ret;exact ⟨A2,n2,c2,rfl,hc2,HP2.out,HQ.out,HB2.out⟩
def AltAt(s p:ByteArray):Prop:=∀(rs:List Re),AltT (strL p) rs->∀(A:Option Addr) (l:List Nat) (c:Nat) (w:World),Pls w A l->l.length<=c->Rise l->(∀x∈l,x<=s.size)->Calls Tryz.prog 231 #[.string p,.string s,.slice A l.length c] w (PlsTold w (IsEnds (LRow rs) (strL s) l))
def AlRel(w:World)(s p:ByteArray)(rs:List Re)(l:List Nat)(v i:Value)(wr:World):Prop:=∃(k:Nat) (rs':List Re) (A:Option Addr) (l':List Nat) (c:Nat),k<=p.size/\i=.int .i64 (k:Int)/\v=.slice A l'.length c/\l'.length<=c/\Pls wr A l'/\Rise l'/\(∀x∈l',x<=s.size)/\AltT ((strL p).drop k) rs'/\(∀out,IsEnds (LRow rs') (strL s) l' out->IsEnds (LRow rs) (strL s) l out)/\Below w.heap.size w wr
def markB(z:List UInt8):UInt8:=if MarkP z then z.headD 0 else 0
theorem mark_fr(z:List UInt8)(r:Re):markR z r=markF (markB z) r:=by
 unfold markR markF markB MarkP
 cases z with
 | nil=>rfl
 | cons c t =>
   simp only [aheadM,List.contains_cons,List.contains_nil,Bool.or_false,beq_iff_eq,List.headD_cons]
   by_cases h1:c=42
   ·subst h1;rfl
   ·by_cases h2:c=43
    ·subst h2;rfl
    ·by_cases h3:c=63
     ·subst h3;rfl
     ·rw [if_neg h1,if_neg h2,if_neg h3];have:((c==42)||(c==43)||(c==63))=false:=by simp [h1,h2,h3]
      rw [this];rfl
set_option maxRecDepth 100000 in
set_option maxHeartbeats 4000000 in
theorem alternative_ref(s p:ByteArray)(hs:s.size<=1000)(hp:p.size<=1000)(hq:∀q:ByteArray,q.size<=p.size->PieceAt s q):AltAt s p:=by
 intro rs hr A l c w hA hc hl hx;have HAT:=zz (atom_all _ p (Nat.le_refl _) hp);have HPC:=zz hq;have HSL:=zz (strL_length s);have HA:=zz hA;have HR:=zz (show AltT ((strL p).drop 0) rs from hr);have HL:=zz hl;have HX:=zz hx;clear hq hA hr hl hx;go_enter Tryz.func231,Tryz.ntmps231
 go_wp2_with fail
 go_loopw [2,7] (fun v i wr=>AlRel w s p rs l v i wr) (fun _ i _=>p.size-(intOf i).toNat)
 case atStart=>exact ⟨0,rs,A,l,c,Nat.zero_le _,rfl,rfl,hc,HA.out,HL.out,HX.out,HR.out,fun _ h=>h,Below.refl _ _⟩
 case round =>
  obtain ⟨k,rs',A1,l1,c1,hk,rfl,rfl,hc1,hP1,hr1,hx1,hat,hgo,hbr⟩:=hrel;have HBr:=zz hbr;have HP1:=zz hP1
  by_cases hlt:k<p.size
  ·have hd:=drop_byte p hlt;obtain ⟨a,r,z,rs2,hxa,hane,hT,hz,hnext,hrs⟩:=alt_open hat (by rw [hd];simp);have hzl:=atomP_len hz;have hzd:(strL p)=((strL p).take k++a)++z:=by rw [List.append_assoc,<-hxa,List.take_append_drop]
   have hzs:=suffix_drop hzd;rw [strL_length] at hzs;rw [drop_len] at hzl;obtain ⟨m,hm⟩:∃m:Nat,p.size-z.length=m:=⟨_,rfl⟩;rw [hm] at hzs;have hzle:z.length<=p.size:=by omega
   have hkm:k<m/\m<=p.size:=by omega
   have HC:=zz (fun W=>HAT.out k (m:Int) W hk (.inl ⟨z,hz,by omega⟩));have hal:a.length+z.length=p.size-k:=by rw [<-drop_len p k,hxa,List.length_append]
   have hta:strL (p.extract k m)=a:=by rw [ext_txt p _ _ hkm.2,hxa,show m-k=a.length by omega,List.take_left]
   have hsz:(p.extract k m).size<=p.size:=by rw [<-strL_length,hta];omega
   rw [mark_fr] at hrs;have HG:=zz (fun (W:World) (hb:Below wr.heap.size wr W)=>HPC.out _ hsz r (by rw [hta];exact hT) (markB z) A1 l1 c1 W (HP1.out.below hb) hc1 hr1 hx1);have HGO:=zz (fun (l2 out:List Nat) (h1:IsEnds (L (markF (markB z) r)) (strL s) l1 l2) (h2:IsEnds (LRow rs2) (strL s) l2 out)=>hgo out (by rw [hrs];exact ends_row h1 h2));rw [hzs,mark_is] at hnext;rw [hzs] at HG HGO;have i1:(k:Int)<=(m:Int):=by omega
   have i2:(m:Int)<=(p.size:Int):=by omega
   by_cases hmk:MarkP ((strL p).drop m)=true
   ·rw [if_pos hmk] at hnext;have hms:m<p.size:=by
     rcases Nat.lt_or_ge m p.size with h|h
     ·exact h
     ·rw [mark_end p h] at hmk;cases hmk
    have hmb:markB ((strL p).drop m)=p[m]:=by unfold markB;rw [if_pos hmk,drop_byte p hms];rfl
    rw [hmb] at HG HGO;rw [mark_at p hms] at hmk;have HN:=zz hnext;have q1:=byte_eq p[m] 42 (by omega);have q2:=byte_eq p[m] 43 (by omega);have q3:=byte_eq p[m] 63 (by omega);have z0:((p[m].toNat:Int)==0)=false:=by
     have:=byte_eq p[m] 0 (by omega);refine this.trans (decide_eq_false fun e=>?_);rw [e] at hmk;exact absurd hmk (by decide)
    have z1:((p[m].toNat:Int) !=0)=true:=by rw [bne,z0];rfl
    clear hd hat hgo hbr hP1 hr1 hx1 hxa hane hT hz hnext hrs hzl hzd hzs hm hal hta hsz hmb
    cases h1:decide (p[m]=UInt8.ofNat 42)
    ·cases h2:decide (p[m]=UInt8.ofNat 43)
     ·cases h3:decide (p[m]=UInt8.ofNat 63)
      ·rw [h1,h2,h3] at hmk;cases hmk
      ·have s1:((p[m].toNat:Int)==42)=false:=q1.trans h1;have s2:((p[m].toNat:Int)==43)=false:=q2.trans h2;have s3:((p[m].toNat:Int)==63)=true:=q3.trans h3;clear q1 q2 q3 h1 h2 h3 hmk
       go_wp2_with (first
        | (go_at_call 245;refine (HC.out _).mono ?_;rintro e w2 ⟨rfl,hb2⟩;have HB2:=zz (HBr.out.trans (hb2.mono HBr.out.size));have HG2:=zz (HG.out _ hb2);clear hb2)
        | (go_at_call 247;refine HG2.out.mono ?_;rintro e w3 ⟨A3,l3,c3,rfl,hc3,hP3,hE3,hb3⟩;have HB3:=zz (HB2.out.trans (hb3.mono HB2.out.size));have HP3:=zz hP3;have HE3:=zz hE3;have HL3:=zz (show ∀x∈l3,x<=s.size by rw [<-HSL.out];exact hE3.le);clear hP3 hE3 hb3))
       exact ⟨⟨m+1,rs2,A3,l3,c3,by omega,by go_num,rfl,hc3,HP3.out,HE3.out.1,HL3.out,HN.out,fun out h=>HGO.out _ _ HE3.out h,HB3.out⟩,by simp [intOf];omega⟩
     ·have s1:((p[m].toNat:Int)==42)=false:=q1.trans h1;have s2:((p[m].toNat:Int)==43)=true:=q2.trans h2;clear q1 q2 q3 h1 h2 hmk
      go_wp2_with (first
       | (go_at_call 245;refine (HC.out _).mono ?_;rintro e w2 ⟨rfl,hb2⟩;have HB2:=zz (HBr.out.trans (hb2.mono HBr.out.size));have HG2:=zz (HG.out _ hb2);clear hb2)
       | (go_at_call 247;refine HG2.out.mono ?_;rintro e w3 ⟨A3,l3,c3,rfl,hc3,hP3,hE3,hb3⟩;have HB3:=zz (HB2.out.trans (hb3.mono HB2.out.size));have HP3:=zz hP3;have HE3:=zz hE3;have HL3:=zz (show ∀x∈l3,x<=s.size by rw [<-HSL.out];exact hE3.le);clear hP3 hE3 hb3))
      exact ⟨⟨m+1,rs2,A3,l3,c3,by omega,by go_num,rfl,hc3,HP3.out,HE3.out.1,HL3.out,HN.out,fun out h=>HGO.out _ _ HE3.out h,HB3.out⟩,by simp [intOf];omega⟩
    ·have s1:((p[m].toNat:Int)==42)=true:=q1.trans h1;clear q1 q2 q3 h1 hmk
     go_wp2_with (first
      | (go_at_call 245;refine (HC.out _).mono ?_;rintro e w2 ⟨rfl,hb2⟩;have HB2:=zz (HBr.out.trans (hb2.mono HBr.out.size));have HG2:=zz (HG.out _ hb2);clear hb2)
      | (go_at_call 247;refine HG2.out.mono ?_;rintro e w3 ⟨A3,l3,c3,rfl,hc3,hP3,hE3,hb3⟩;have HB3:=zz (HB2.out.trans (hb3.mono HB2.out.size));have HP3:=zz hP3;have HE3:=zz hE3;have HL3:=zz (show ∀x∈l3,x<=s.size by rw [<-HSL.out];exact hE3.le);clear hP3 hE3 hb3))
     exact ⟨⟨m+1,rs2,A3,l3,c3,by omega,by go_num,rfl,hc3,HP3.out,HE3.out.1,HL3.out,HN.out,fun out h=>HGO.out _ _ HE3.out h,HB3.out⟩,by simp [intOf];omega⟩
   ·rw [if_neg hmk] at hnext;have hmb:markB ((strL p).drop m)=0:=by unfold markB;rw [if_neg hmk]
    rw [hmb] at HG HGO;have HG':=zz (fun (W:World) (hb:Below wr.heap.size wr W)=>show Calls Tryz.prog 247 #[.string (p.extract k m),.int .u8 0,.string s,.slice A1 l1.length c1] W (PlsTold W (IsEnds (L (markF 0 r)) (strL s) l1)) from HG.out W hb);have HN:=zz hnext;have hmk':=Bool.eq_false_iff.2 hmk;clear hd hat hgo hbr hP1 hr1 hx1 hxa hane hT hz hnext hrs hzl hzd hzs hm hal hta hsz hmb hmk HG
    by_cases hms:m<p.size
    ·rw [mark_at p hms,Bool.or_eq_false_iff,Bool.or_eq_false_iff] at hmk';have s1:((p[m].toNat:Int)==42)=false:=(byte_eq p[m] 42 (by omega)).trans hmk'.1;have s2:((p[m].toNat:Int)==43)=false:=(byte_eq p[m] 43 (by omega)).trans hmk'.2.1;have s3:((p[m].toNat:Int)==63)=false:=(byte_eq p[m] 63 (by omega)).trans hmk'.2.2;clear hmk'
     go_wp2_with (first
      | (go_at_call 245;refine (HC.out _).mono ?_;rintro e w2 ⟨rfl,hb2⟩;have HB2:=zz (HBr.out.trans (hb2.mono HBr.out.size));have HG2:=zz (HG'.out _ hb2);clear hb2)
      | (go_at_call 247;refine HG2.out.mono ?_;rintro e w3 ⟨A3,l3,c3,rfl,hc3,hP3,hE3,hb3⟩;have HB3:=zz (HB2.out.trans (hb3.mono HB2.out.size));have HP3:=zz hP3;have HE3:=zz hE3;have HL3:=zz (show ∀x∈l3,x<=s.size by rw [<-HSL.out];exact hE3.le);clear hP3 hE3 hb3))
     exact ⟨⟨m,rs2,A3,l3,c3,by omega,rfl,rfl,hc3,HP3.out,HE3.out.1,HL3.out,HN.out,fun out h=>HGO.out _ _ HE3.out h,HB3.out⟩,by simp [intOf];omega⟩
    ·clear hmk'
     go_wp2_with (first
      | (go_at_call 245;refine (HC.out _).mono ?_;rintro e w2 ⟨rfl,hb2⟩;have HB2:=zz (HBr.out.trans (hb2.mono HBr.out.size));have HG2:=zz (HG'.out _ hb2);clear hb2)
      | (go_at_call 247;refine HG2.out.mono ?_;rintro e w3 ⟨A3,l3,c3,rfl,hc3,hP3,hE3,hb3⟩;have HB3:=zz (HB2.out.trans (hb3.mono HB2.out.size));have HP3:=zz hP3;have HE3:=zz hE3;have HL3:=zz (show ∀x∈l3,x<=s.size by rw [<-HSL.out];exact hE3.le);clear hP3 hE3 hb3))
     exact ⟨⟨m,rs2,A3,l3,c3,by omega,rfl,rfl,hc3,HP3.out,HE3.out.1,HL3.out,HN.out,fun out h=>HGO.out _ _ HE3.out h,HB3.out⟩,by simp [intOf];omega⟩
  ·obtain rfl:k=p.size:=by omega
   rw [drop_end p (Nat.le_refl _)] at hat;have hrn:=alt_void hat;have HEN:=zz (hgo l1 (by rw [hrn];exact (ends_nil hr1 (by rw [HSL.out];exact hx1)).congr fun w=>by simp only [LRow]));clear hat hgo hbr hP1 hr1 hx1 hrn
   go_wp2_with fail
   go_ret;exact ⟨A1,l1,c1,rfl,hc1,HP1.out,HEN.out,HBr.out⟩
end Go.Proofs.YtgdmcnoogacdaaaGreatDoor
