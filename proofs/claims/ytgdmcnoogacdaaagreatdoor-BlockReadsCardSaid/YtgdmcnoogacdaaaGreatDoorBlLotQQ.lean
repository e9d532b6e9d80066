/- In one text, written by lotify.py: BlQ, BlRdM. -/
import Derived.Test.YtgdmcnoogacdaaaGreatDoorBlPcs
import Derived.Test.YtgdmcnoogacdaaaGreatDoorBlLotR
namespace Go.Proofs.YtgdmcnoogacdaaaGreatDoor
open Go.RowKit Go.Maps
open Ch
set_option linter.unusedVariables false
set_option maxRecDepth 100000
abbrev QPl:=List (List Smp) × (Option Addr × Nat)
def qV(x:QPl):Value:=.slice x.2.1 x.1.length x.2.2
def OwnQ(w:World)(base:Nat)(v:Value)(Q:List (List (List Smp))):Prop :=
 ∃xs:List QPl,xs.map (·.1)=Q/\w.ownsRow base 103 1 v xs.length (xs.map qV)/\∀x∈xs,OwnPc w base (qV x) x.1
theorem ownq_nil(w:World)(base:Nat):OwnQ w base (.slice none 0 0) []:=⟨[],rfl,⟨rfl,.inl ⟨rfl,rfl⟩⟩,fun q hq=>by cases hq⟩
theorem row_keep{w w':World}{base e size n:Nat}{u:Value}{xs:List Value}(hu:w.ownsRow base e size u n xs)(hk:∀k cs,base<=k->Row w k e cs->w'.heap[k]?=w.heap[k]?):w'.ownsRow base e size u n xs:=by
 refine rows_move hu fun k hk'=>?_
 rcases hu.2 with ⟨rfl,_⟩|⟨g,cap,cur,rfl,hb,hh,_⟩
 ·cases hk'
 ·simp only [Value.ownBlock,Option.some.injEq] at hk';subst hk';exact hk g cur hb hh
def IsPt(t:TypeId):Prop:=t=5\/t=105\/t=103
theorem ownq_keep{w w':World}{base:Nat}{v:Value}{Q:List (List (List Smp))}(h:OwnQ w base v Q)(hk:∀k t cs,base<=k->Row w k t cs->IsPt t->w'.heap[k]?=w.heap[k]?):OwnQ w' base v Q:=by
 obtain ⟨xs,h1,h2,h3⟩:=h;exact ⟨xs,h1,row_keep h2 fun k cs hb hr=>hk k _ cs hb hr (.inr (.inr rfl)),fun x hx=>ownpc_keep (h3 x hx) fun k t cs hb hr ht=>hk k t cs hb hr (ht.elim .inl fun e=>.inr (.inl e))⟩
theorem ownq_below{w w':World}{base:Nat}{v:Value}{Q:List (List (List Smp))}(h:OwnQ w base v Q)(hb:Below w.heap.size w w'):OwnQ w' base v Q :=
 ownq_keep h fun k t cs _ hr _=>hb.block k hr.lt
theorem ownq_lower{w:World}{base base':Nat}{v:Value}{Q:List (List (List Smp))}(h:OwnQ w base v Q)(hb:base'<=base):OwnQ w base' v Q:=by
 obtain ⟨xs,h1,h2,h3⟩:=h;exact ⟨xs,h1,rows_lower h2 hb,fun x hx=>ownpc_lower (h3 x hx) hb⟩
theorem ownq_slice{w:World}{base:Nat}{v:Value}{Q:List (List (List Smp))}(h:OwnQ w base v Q):
 ∃P c,v=.slice P Q.length c/\Q.length<=c/\(0<Q.length->∃b o,P=some ⟨b,o,none⟩/\b<w.heap.size/\base<=b/\∀i,i<Q.length->∃A d,w.cell? ⟨b,o+i,none⟩=some (.slice A (Q.getD i []).length d)/\OwnPc w base (.slice A (Q.getD i []).length d) (Q.getD i [])):=by
 obtain ⟨xs,rfl,h2,h3⟩:=h;obtain ⟨P,c,h4,h5,h6,h7⟩:=rows_slice h2;refine ⟨P,c,by rw [List.length_map];exact h4,by rw [List.length_map];exact h5,fun hl=>?_⟩;rw [List.length_map] at hl;rcases h6 with h6|⟨b,o,rfl,hb,hc⟩
 ·rw [List.map_eq_nil_iff] at h6;subst h6;simp at hl
 ·refine ⟨b,o,rfl,hb,h7 _ rfl,fun i hi=>?_⟩;rw [List.length_map] at hi;have hg:(xs.map (·.1)).getD i []=xs[i].1:=by simp [List.getD_eq_getElem?_getD,hi]
  refine ⟨xs[i].2.1,xs[i].2.2,?_,?_⟩
  ·rw [hg];exact hc i (qV xs[i]) (by rw [List.getElem?_map,List.getElem?_eq_getElem hi];rfl)
  ·rw [hg];exact h3 _ (List.getElem_mem hi)
theorem ownpc_few{w:World}{base:Nat}{v:Value}{ps:List (List Smp)}(h:OwnPc w base v ps):ps.length<=9223372036854775807:=by
 obtain ⟨qs,rfl,h2,_⟩:=h;rw [List.length_map];rcases h2.2 with ⟨_,h0⟩|⟨g,cap,cur,_,_,_,h1,h3,_⟩
 ·omega
 ·simp only [maxLen] at h3;omega
theorem pcs_info:(Tryz.prog.info? 103).map (fun i=>(i.zero,i.size,i.bytes))=some (some (.slice none 0 0),1,24):=by kernel_rfl
theorem step_app_pcs{w0:World}{ops:Array Oper}{o:Oper}{a:Act}{K:Act->World->Prop}{Q0:Exit->Act->World->Prop}{E:Prop}(hgd:o.guard=none)(s y:Operand)
 (ho:o.op=.call { callee:=.builtin .append,args:=#[s,y],argTypes:=#[85,85] })
 (base:Nat)(v:Value)(Q:List (List (List Smp)))(hs:a.eval s=v)(hF:OwnQ w0 base v Q)(B:Option Addr)(ps:List (List Smp))(d c:Nat)(hx:OwnPc w0 base (.slice B ps.length d) ps)
 (hy:a.eval y=.slice (some ⟨w0.heap.size,0,none⟩) 1 c)(hn:Q.length<=5864062014800)(hbase:base<=w0.heap.size)
 (h:∀v' w',OwnQ w' base v' (Q++[ps])->Below base w0 w'->(w0.alloc (.cells #[.slice B ps.length d] 103)).grownBy w' v.ownBlock->(∀k,v.ownBlock=some k->∃cs,Row w0 k 103 cs)->K (a.put o.dst v') w'):
 if Region.wanted o (yielded ops a.tmps)=true then Oper.wp Tryz.prog o a (w0.alloc (.cells #[.slice B ps.length d] 103)) K Q0 else E:=by
 obtain ⟨i0,hi,hz0,hz1,hz2⟩:=info_parts pcs_info;have hA:=below_one w0 (.cells #[.slice B ps.length d] 103);have hvb:∀k,v.ownBlock=some k->∃cs,Row w0 k 103 cs:=by
  obtain ⟨xs,_,h2,_⟩:=hF;exact fun k hk=>rows_block h2 hk
 obtain ⟨xs,rfl,h2,h3⟩:=ownq_below hF hA;have hx1:=ownpc_below hx hA;rw [List.length_map] at hn;refine step_app_at hgd s y 85 ho base 103 i0 _ 1 24 Tryz.underlying85 hi hz0 hz1 hz2 rfl (by omega) v xs.length (xs.map qV) hs h2 _ 1 c [.slice B ps.length d] hy rfl (At.row (Row.new w0 _ _)) (by intro u hu;simp at hu;subst hu;rfl)
  (by simp only [maxLen];omega) (by omega) (Nat.le_trans hbase hA.size) ?_
 intro v' w' k1 _ k2;have hkeep:∀{u:Value} {x:List (List Smp)},OwnPc _ base u x->OwnPc w' base u x:=fun {u x} hu=>ownpc_keep hu fun k t cs _ hr ht=>k2.block k hr.lt (fun e=>by
  obtain ⟨cs',hc⟩:=rows_block h2 e.symm;have:=row_kind hr hc;rcases ht with rfl|rfl<;>exact absurd this (by decide))
 refine h v' w' ⟨xs++[(ps,(B,d))],by simp,by rw [List.length_append,List.map_append];exact k1,fun p hp=>?_⟩ (Below.grown (hA.mono hbase) k2 (Nat.le_trans hbase hA.size) (fun k hk=>(World.ownsRow.lt h2 _ hk).1)) k2 hvb;rcases List.mem_append.1 hp with hp|hp
 ·exact hkeep (h3 p hp)
 ·obtain rfl:=List.mem_singleton.1 hp;exact hkeep hx1
theorem cntQ_step(Q:List (List (List Smp))){i:Nat}(h:i<Q.length):cntQ (Q.take (i+1))=cntQ (Q.take i)+cntP (Q.getD i []):=by
 unfold cntQ;rw [List.take_add_one,List.getElem?_eq_getElem h,List.map_append,List.sum_append];simp [List.getD_eq_getElem?_getD,h]
theorem cntP_step(ps:List (List Smp)){i:Nat}(h:i<ps.length):cntP (ps.take (i+1))=cntP (ps.take i)+(ps.getD i []).length:=by
 unfold cntP;rw [List.take_add_one,List.getElem?_eq_getElem h,List.map_append,List.sum_append];simp [List.getD_eq_getElem?_getD,h]
theorem sum_take_le:∀(l:List Nat) (i:Nat),(l.take i).sum<=l.sum:=by
 intro l
 induction l with
 | nil=>intro i;simp
 | cons a r ih =>
   intro i
   cases i with
   | zero=>simp
   | succ i=>rw [List.take_succ_cons,List.sum_cons,List.sum_cons];have:=ih i;omega
theorem cntQ_le(Q:List (List (List Smp)))(i:Nat):cntQ (Q.take i)<=cntQ Q:=by
 unfold cntQ;rw [List.map_take];exact sum_take_le _ _
theorem cntP_le(ps:List (List Smp))(i:Nat):cntP (ps.take i)<=cntP ps:=by
 unfold cntP;rw [List.map_take];exact sum_take_le _ _
set_option maxHeartbeats 4000000 in
theorem count_prog(X:Value)(hX:X.oneCell'=true)(base:Nat)(P:Option Addr)(c:Nat)(Q:List (List (List Smp)))(w:World)(h:OwnQ w base (.slice P Q.length c) Q)(hs:cntQ Q<=4611686018427387904)(hq:Q.length<=1000000):
 Calls Tryz.prog 57 #[.agg #[X,.slice P Q.length c]] w fun e w'=>e=.returned (.int .i64 (cntQ Q:Int))/\Below w.heap.size w w':=by
 have hb1:=below_one w (.cells #[X,.slice P Q.length c] 87);have HH:=zz h;have HB1:=zz hb1;have HST:=zz (fun i (hi:i<Q.length)=>cntQ_step Q hi);have HLE:=zz (fun i=>Nat.le_trans (cntQ_le Q i) hs);clear h hb1 hs;obtain ⟨N,hN⟩:∃N,Q.length=N:=⟨_,rfl⟩;have HN:=zz hN;rw [hN] at HH HST hq HB1 ⊢;clear hN;go_enter Tryz.func57,Tryz.ntmps57
 go_wp2_with fail
 go_loopw [3,11] (fun n i wr=>∃(j m:Nat),j<=N/\i=.int .i64 (j:Int)/\n=.int .i64 (m:Int)/\m=cntQ (Q.take j)/\Below w.heap.size w wr) (fun _ i _=>N-(intOf i).toNat)
 case atStart=>exact ⟨0,0,Nat.zero_le _,rfl,rfl,rfl,HB1.out⟩
 case round =>
  obtain ⟨j,m,hj,rfl,rfl,hm,hbr⟩:=hrel;have HBR:=zz hbr
  by_cases hlt:j<N
  ·have i1:decide ((j:Int)<(N:Int))=true:=decide_eq_true (by omega);have i2:(j:Int)<(N:Int):=by omega
   obtain ⟨P',c',hv,_,hc⟩:=ownq_slice (ownq_below HH.out (hbr.mono (Nat.le_refl _)));obtain ⟨rfl,hjn,rfl⟩:=Value.slice.inj hv;obtain ⟨b,o,rfl,hb,_,hat⟩:=hc (by rw [HN.out];omega);obtain ⟨A,d,g0,hP⟩:=hat j (by rw [HN.out];exact hlt);have HQJ:=zz (HST.out j hlt);have HL1:=zz (HLE.out (j+1));have HM:=zz hm;generalize Q.getD j []=ps at *;have HP:=zz hP;have HPS:=zz (fun k (hk:k<ps.length)=>cntP_step ps hk);have HPL:=zz (fun k=>cntP_le ps k);obtain ⟨M,hM⟩:∃M,ps.length=M:=⟨_,rfl⟩;have hfew:=ownpc_few hP;have HMM:=zz hM;rw [hM] at g0 HP HPS hfew;clear hv hjn hc hat hP hm hM hbr
   go_wp2_with fail
   go_loopw [3,17] (fun n i wr'=>∃(k t:Nat),k<=M/\i=.int .i64 (k:Int)/\n=.int .i64 (t:Int)/\t=m+cntP (ps.take k)/\Below wr.heap.size wr wr') (fun _ i _=>M-(intOf i).toNat)
   case atStart=>exact ⟨0,m,Nat.zero_le _,rfl,rfl,rfl,Below.refl _ _⟩
   case round =>
    obtain ⟨k,t,hk,rfl,rfl,ht,hbw⟩:=hrel;have HBW:=zz hbw;have HT:=zz ht
    by_cases hkl:k<M
    ·have i3:decide ((k:Int)<(M:Int))=true:=decide_eq_true (by omega);have i4:(k:Int)<(M:Int):=by omega
     obtain ⟨P2,c2,hv2,_,hc2⟩:=ownpc_slice (ownpc_below HP.out hbw);obtain ⟨rfl,hjn2,rfl⟩:=Value.slice.inj hv2;obtain ⟨b2,o2,rfl,hb2,_,hat2⟩:=hc2 (by rw [HMM.out];omega);obtain ⟨mm,d0,d1,d2,d3,_⟩:=hat2 k (by rw [HMM.out];exact hkl);have hstep:=HPS.out k hkl;have hle:=HPL.out (k+1);have hl1:=HL1.out;have hqj:=HQJ.out;have hm:=HM.out;generalize ps.getD k []=q at *;simp only [pcV] at d0;generalize tOf q (q.length-1)=T1 at *;generalize tOf q 0=T0 at *;generalize q.length=l at *;generalize (encL q).length=el at *;have hw1:IntKind.i64.wrap ((t:Int)+(l:Int))=((t+l:Nat):Int):=by rw [<-Int.natCast_add];exact IntWalk.i64_in _ (by omega)
     have HN2:=zz (show t+l=m+cntP (ps.take (k+1)) by omega);clear hv2 hjn2 hc2 hat2 hstep hle hl1 hqj hm ht hbw
     go_wp2_with fail
     go_roundw
     case rel=>exact ⟨k+1,t+l,by omega,by go_num,by first|rfl|go_num,HN2.out,HBW.out.trans (below_one _ _ |>.mono HBW.out.size)⟩
     case measure=>simp [intOf];omega
    ·have i3:decide ((k:Int)<(M:Int))=false:=decide_eq_false (by omega);have i4:¬(k:Int)<(M:Int):=by omega
     have HE:=zz (show t=cntQ (Q.take (j+1)) by rw [HQJ.out,<-HM.out,ht,show k=ps.length by rw [HMM.out];omega,List.take_length]);clear ht hbw
     go_wp2_with fail
     go_roundw
     case rel=>exact ⟨j+1,t,by omega,by go_num,rfl,HE.out,HBR.out.trans (HBW.out.mono HBR.out.size)⟩
     case measure=>simp [intOf];omega
  ·have i1:decide ((j:Int)<(N:Int))=false:=decide_eq_false (by omega);have i2:¬(j:Int)<(N:Int):=by omega
   have HE:=zz (show m=cntQ Q by rw [hm,show j=Q.length by rw [HN.out];omega,List.take_length]);clear hm hbr
   go_wp2_with fail
   go_ret;exact ⟨by rw [<-HE.out]<;>rfl,HBR.out⟩
end Go.Proofs.YtgdmcnoogacdaaaGreatDoor

namespace Go.Proofs.YtgdmcnoogacdaaaGreatDoor
open Go.RowKit Go.Maps
open Ch
set_option linter.unusedVariables false
abbrev BlRes:=Option (List (List Lbl) × List (List (List Smp)))
theorem blO_short{b:List UInt8}{o:BlRes}(h:BlO b o)(h4:¬4<=b.length):o=none:=by
 cases h<;>first|rfl|omega
theorem blO_sum{b:List UInt8}{o:BlRes}(h:BlO b o)(h4:4<=b.length)(hs:b.drop (b.length-4)≠le4 (sumN (b.take (b.length-4)))):o=none:=by
 cases h with
 | yes h hf hs' h4 hm hc h0 hx hq he=>subst hf;exact absurd hs' hs
 | _=>rfl
theorem blO_mag{b:List UInt8}{o:BlRes}(h:BlO b o){f:List UInt8}(hf:b.take (b.length-4)=f)(hm:f.length<4\/f.take 4≠magL):o=none:=by
 cases h with
 | yes h hf' hs' h4 hm' hc h0 hx hq he =>
   subst hf hf';rcases hm with hm|hm
   ·omega
   ·exact absurd hm' hm
 | _=>rfl
theorem blO_rest{b:List UInt8}{o:BlRes}(h:BlO b o){f:List UInt8}(hf:b.take (b.length-4)=f)(h4:4<=b.length)(hs:b.drop (b.length-4)=le4 (sumN f))(hf4:4<=f.length)(hm:f.take 4=magL):
 (o=none/\CntO (f.drop 4) none)\/∃x r,CntO (f.drop 4) (some (x,r))/\((o=none/\∀ss,ixChk ss=0->ixBytes ss≠x)\/∃ss g,ixChk ss=0/\ixBytes ss=x/\SsO' ss.length r g/\(g=none->o=none) /\
   ∀Q r',g=some (Q,r')->((r'≠[]\/65536<cntQ Q)->o=none)/\(r'=[]->cntQ Q<=65536->o=some (ss,Q))):=by
 subst hf
 cases h with
 | short h=>omega
 | noSum h hs'=>exact absurd hs hs'
 | noMag h hf hs' hm'=>subst hf;rcases hm' with hm'|hm';omega;exact absurd hm hm'
 | noCnt h hf hs h4 hm hc=>subst hf;exact .inl ⟨rfl,hc⟩
 | noIdx h hf hs h4 hm hc hx=>subst hf;exact .inr ⟨_,_,hc,.inl ⟨rfl,hx⟩⟩
 | noSer h hf hs h4 hm hc h0 hx hq=>subst hf;exact .inr ⟨_,_,hc,.inr ⟨_,_,h0,hx,hq,fun _=>rfl,fun Q r' e=>(by cases e)⟩⟩
 | noEnd h hf hs h4 hm hc h0 hx hq he =>
   subst hf;refine .inr ⟨_,_,hc,.inr ⟨_,_,h0,hx,hq,fun _=>rfl,fun Q r' e=>?_⟩⟩;injection e with e;injection e with e1 e2;subst e1 e2;refine ⟨fun _=>rfl,fun k1 k2=>?_⟩;rcases he with he|he
   ·exact absurd k1 he
   ·omega
 | yes h hf hs h4 hm hc h0 hx hq he =>
   subst hf;refine .inr ⟨_,_,hc,.inr ⟨_,_,h0,hx,hq,fun e=>(by cases e),fun Q r' e=>?_⟩⟩;injection e with e;injection e with e1 e2;subst e1 e2;refine ⟨fun k=>?_,fun _ _=>rfl⟩;rcases k with k|k
   ·exact absurd rfl k
   ·omega
theorem ssQ_step{n:Nat}{b:List UInt8}{g:Option (List (List (List Smp)) × List UInt8)}(h:SsO' (n+1) b g):
 (g=none/\SerO b none)\/∃ps r g',SerO b (some (ps,r))/\SsO' n r g'/\(g'=none->g=none)/\∀Q r',g'=some (Q,r')->g=some (ps::Q,r'):=by
 cases h with
 | no h=>exact .inl ⟨rfl,h⟩
 | noMore h hm=>exact .inr ⟨_,_,_,h,hm,fun _=>rfl,fun Q r' e=>(by cases e)⟩
 | more h hm=>exact .inr ⟨_,_,_,h,hm,fun e=>(by cases e),fun Q r' e=>(by injection e with e;injection e with e1 e2;subst e1 e2;rfl)⟩
theorem ssQ_end{b:List UInt8}{g:Option (List (List (List Smp)) × List UInt8)}(h:SsO' 0 b g):g=some ([],b):=by
 cases h
 rfl
def GlueQ(done:List (List (List Smp)))(g' g:Option (List (List (List Smp)) × List UInt8)):Prop:=(g'=none->g=none)/\∀Q r,g'=some (Q,r)->g=some (done++Q,r)
theorem glueQ_next{done:List (List (List Smp))}{ps:List (List Smp)}{g' f g:Option (List (List (List Smp)) × List UInt8)}
 (h:GlueQ done f g)(h1:g'=none->f=none)(h2:∀Q r,g'=some (Q,r)->f=some (ps::Q,r)):GlueQ (done++[ps]) g' g :=
 ⟨fun e=>h.1 (h1 e),fun Q r e=>by rw [List.append_assoc];exact h.2 _ _ (h2 Q r e)⟩
theorem idx_range{w w':World}{B X:Nat}{ss:List (List Lbl)}(h:IdxAt w B X ss)(hs:w.heap.size<=w'.heap.size)(hk:∀k,B<=k->k<w.heap.size->w'.heap[k]?=w.heap[k]?):IdxAt w' B X ss:=by
 let hp:Array Obj:=Array.ofFn (n:=w'.heap.size) fun i=>if h:i.1<w.heap.size then (if i.1<B then w.heap[i.1] else w'.heap[i.1]) else w'.heap[i.1]
 have hg:∀k,k<w'.heap.size->hp[k]?=if k<B/\k<w.heap.size then w.heap[k]? else w'.heap[k]?:=by
  intro k hlt
  show (Array.ofFn _)[k]?=_
  rw [Array.getElem?_ofFn,dif_pos hlt]
  by_cases h1:k<w.heap.size
  ·by_cases h2:k<B
   ·simp [h1,h2]
   ·simp [h1,h2,hlt]
  ·simp [h1,hlt]
 have hsz:hp.size=w'.heap.size:=by simp [hp]
 have hb:Below w.heap.size w { w with heap:=hp }:=by
  refine ⟨rfl,rfl,rfl,by show w.heap.size<=hp.size;omega,fun k hlt=>?_⟩
  show hp[k]?=w.heap[k]?
  rw [hg k (by omega)]
  by_cases h2:k<B
  ·rw [if_pos ⟨h2,hlt⟩]
  ·rw [if_neg (fun e=>h2 e.1),hk k (by omega) hlt]
 refine idx_keep (h.below hb) fun k hkB=>?_
 show w'.heap[k]?=hp[k]?
 by_cases hlt:k<w'.heap.size
 ·rw [hg k hlt,if_neg (fun e=>by omega)]
 ·rw [Array.getElem?_eq_none (by omega),Array.getElem?_eq_none (by omega)]
end Go.Proofs.YtgdmcnoogacdaaaGreatDoor
