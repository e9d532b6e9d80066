/- In one text, written by lotify.py: BlRows, BlIdx, BlWrite. -/
import Derived.Test.YtgdmcnoogacdaaaGreatDoorBlLotOp
import Derived.Test.YtgdmcnoogacdaaaGreatDoorBlLotW
namespace Go.Proofs.YtgdmcnoogacdaaaGreatDoor
open Go.ChangeShapes Go.WideShapes Go.ChangeAt Go.RowKit Go.Joins Go.Maps
open Ch
set_option linter.unusedVariables false
structure SerM where
 la:Option Addr
 lc:Nat
 sa:Option Addr
 sc:Nat
abbrev SPl:=Ser × SerM
def ser0:Ser:=([],[])
def spl0:SPl:=(ser0,⟨none,0,none,0⟩)
instance spl_inh:Inhabited SPl:=⟨spl0⟩
def lsV(x:SPl):Value:=.slice x.2.la x.1.1.length x.2.lc
def ssV(x:SPl):Value:=.slice x.2.sa x.1.2.length x.2.sc
def spE(x:SPl):List Value:=[lsV x,ssV x]
theorem spE_len(x:SPl):(spE x).length=2:=rfl
structure SerIn(w:World)(x:SPl):Prop where
 labels:Lbls w x.2.la x.1.1
 samples:Smps w x.2.sa x.1.2
 lc:x.1.1.length<=x.2.lc
 sc:x.1.2.length<=x.2.sc
theorem SerIn.below{w w':World}{x:SPl}(h:SerIn w x)(hb:Below w.heap.size w w'):SerIn w' x:=⟨h.labels.below hb,h.samples.below hb,h.lc,h.sc⟩
def Sers(w:World)(A:Option Addr)(S:List Ser):Prop:=∃ps:List SPl,ps.map (·.1)=S/\At w A (ps.flatMap spE)/\∀x∈ps,SerIn w x
theorem Sers.below{w w':World}{A:Option Addr}{S:List Ser}(h:Sers w A S)(hb:Below w.heap.size w w'):Sers w' A S:=by
 obtain ⟨ps,h1,h2,h3⟩:=h;exact ⟨ps,h1,h2.below hb,fun x hx=>(h3 x hx).below hb⟩
def SerAt(w:World)(b o:Nat)(S:List Ser)(i:Nat)(m:SerM):Prop :=
 w.cell? ⟨b,o+i*2,none⟩=some (.slice m.la (S.getD i ser0).1.length m.lc)/\w.cell? ⟨b,o+i*2+1,none⟩=some (.slice m.sa (S.getD i ser0).2.length m.sc)/\SerIn w (S.getD i ser0,m)
theorem Sers.all{w:World}{A:Option Addr}{S:List Ser}(h:Sers w A S)(hl:0<S.length):
 ∃b o,A=some ⟨b,o,none⟩/\b<w.heap.size/\∀i,i<S.length->∃m,SerAt w b o S i m:=by
 obtain ⟨ps,rfl,h2,h3⟩:=h;rw [List.length_map] at hl;have hlen:=flat_len spE 2 spE_len ps;rcases h2 with h2|⟨b,o,rfl,hb,hc⟩
 ·rw [h2] at hlen;simp at hlen;omega
 ·refine ⟨b,o,rfl,hb,fun i hi=>?_⟩;rw [List.length_map] at hi;have hg:(ps.map (·.1)).getD i ser0=(ps.getD i spl0).1:=by simp [List.getD_eq_getElem?_getD,hi]
  have hm:ps.getD i spl0∈ps:=List.mem_of_getElem? (getD_some ps spl0 hi);refine ⟨(ps.getD i spl0).2,?_,?_,?_⟩
  ·rw [hg];exact hc (i*2+0) _ (flat_get spE 2 spE_len ps i _ 0 (getD_some ps spl0 hi) (by omega))
  ·rw [hg,Nat.add_assoc];exact hc (i*2+1) _ (flat_get spE 2 spE_len ps i _ 1 (getD_some ps spl0 hi) (by omega))
  ·rw [hg];exact h3 _ hm
theorem SerAt.below{w w':World}{b o:Nat}{S:List Ser}{i:Nat}{m:SerM}(h:SerAt w b o S i m)(hb:Below w.heap.size w w')(hlt:b<w.heap.size):SerAt w' b o S i m :=
 ⟨(hb.cell hlt).trans h.1,(hb.cell hlt).trans h.2.1,h.2.2.below hb⟩
structure SerFit(s:Ser):Prop where
 lf:LFits s.1
 ll:s.1.length*32<=140737488351232
 sf:Fits s.2
 sl:s.2.length*16<=140737488351232
theorem ser_at{S:List Ser}{i:Nat}(hi:i<S.length):S.getD i ser0∈S:=List.mem_of_getElem? (getD_some S ser0 hi)
section
variable {H:Type} {enc:TypeId × Value->H} {W:World} {base:Nat} {sp:Nat->Bool} {held:Bool}
end
end Go.Proofs.YtgdmcnoogacdaaaGreatDoor

namespace Go.Proofs.YtgdmcnoogacdaaaGreatDoor
open Go.RowKit Go.Maps
open Ch
set_option linter.unusedVariables false
set_option linter.unusedSimpArgs false
set_option maxRecDepth 100000
theorem pair_chk{l:List Smp}{k:Nat}(hk:k<l.length)(h:0<k->errAt l (k-1)=0):chk ((l.drop (k-1)).take (k+1-(k-1)))=errAt l k:=by
 have hg:∀j,j<k+1-(k-1)->((l.drop (k-1)).take (k+1-(k-1))).getD j (0,0)=l.getD (k-1+j) (0,0):=by
  intro j hj;simp [List.getD_eq_getElem?_getD,List.getElem?_take,List.getElem?_drop,hj]
 have hlen:((l.drop (k-1)).take (k+1-(k-1))).length=k+1-(k-1):=by
  rw [List.length_take,List.length_drop];omega
 generalize hm:(l.drop (k-1)).take (k+1-(k-1))=m at *;unfold chk;rw [if_neg (by omega),hlen];rcases Nat.eq_zero_or_pos k with h0|h0
 ·subst h0;have e:errAt m 0=errAt l 0:=by
   unfold errAt;rw [hg 0 (by omega)];simp
  show (if errAt m 0=0 then 0 else errAt m 0)=errAt l 0
  rw [e]
  split<;>simp_all
 ·have e2:k+1-(k-1)=2:=by omega
  rw [e2] at hg ⊢;have hp:=(errAt_zero.1 (h h0)).1;have a0:errAt m 0=0:=by
   refine errAt_zero.2 ⟨by rw [hg 0 (by omega)];exact hp,fun h=>absurd h (by omega)⟩
  have a1:errAt m 1=errAt l k:=by
   unfold errAt tOf;rw [hg 1 (by omega),Nat.sub_self,hg 0 (by omega),Nat.add_zero,show k-1+1=k by omega];simp [h0]
  show (if errAt m 0=0 then (if errAt m 1=0 then 0 else errAt m 1) else errAt m 0)=errAt l k
  rw [if_pos a0,a1]
  split<;>simp_all
theorem errF_first{l:List Smp}:∀(n i k:Nat),k<n->(∀j,j<k->errAt l (i+j)=0)->errAt l (i+k)≠0->errF l n i=errAt l (i+k):=by
 intro n
 induction n with
 | zero=>intro i k h;omega
 | succ n ih =>
   intro i k hk h hne
   show (if errAt l i=0 then errF l n (i+1) else errAt l i)=_
   rcases Nat.eq_zero_or_pos k with h0|h0
   ·subst h0;rw [if_neg (by simpa using hne),Nat.add_zero]
   ·have:=h 0 h0;rw [Nat.add_zero] at this;rw [if_pos this,ih (i+1) (k-1) (by omega) (fun j hj=>by rw [show i+1+j=i+(j+1) by omega];exact h (j+1) (by omega)) (by rw [show i+1+(k-1)=i+k by omega];exact hne),show i+1+(k-1)=i+k by omega]
set_option maxHeartbeats 2000000 in
theorem chks_prog(A:Option Addr)(l:List Smp)(c:Nat)(w:World)(hA:Smps w A l)(hl:l.length<=100000000000000)(hlc:l.length<=c):
 Calls Tryz.prog 59 #[.slice A l.length c] w fun e w'=>e=.returned (.int .i64 (serE l))/\Below w.heap.size w w':=by
 by_cases h0:l.length=0
 ·have hs:serE l=2:=by unfold serE;rw [if_pos h0]
  rw [hs,h0];clear hA hl hlc h0 hs;go_enter Tryz.func59,Tryz.ntmps59
  go_wp2_with fail
  go_ret;exact ⟨rfl,Below.refl _ _⟩
 ·obtain ⟨b,o,rfl,hb,_⟩:=hA.all (by omega);have HA:=zz hA;have HCK:=zz (fun k (hk:k<l.length) (h:0<k->errAt l (k-1)=0) (x:World) (hx:Below w.heap.size w x)=>by
   have h1:=((hA.below hx).from (k-1) (by omega)).front (k+1-(k-1));have hlen:((l.drop (k-1)).take (k+1-(k-1))).length=k+1-(k-1):=by
    rw [List.length_take,List.length_drop];omega
   have h2:=chk_prog (some ⟨b,o+(k-1)*2,none⟩) ((l.drop (k-1)).take (k+1-(k-1))) (c-(k-1)) x h1 (by omega);rw [hlen,pair_chk hk h] at h2;exact h2)
  have HE:=zz (show ∀k,k<l.length->(∀j,j<k->errAt l j=0)->errAt l k≠0->serE l=errAt l k from fun k hk h hne=>by
   unfold serE;rw [if_neg h0,errF_first l.length 0 k hk (fun j hj=>by rw [Nat.zero_add];exact h j hj) (by rw [Nat.zero_add];exact hne),Nat.zero_add])
  have HZ:=zz (show (∀j,j<l.length->errAt l j=0)->serE l=0 from fun h=>by
   unfold serE;rw [if_neg h0,errF_zero];exact fun j _ hj=>h j (by omega))
  obtain ⟨n,hn⟩:∃n,l.length=n:=⟨_,rfl⟩;rw [hn] at h0 hl hlc HCK HE HZ ⊢;have q0:((n:Int)==0)=false:=by rw [beq_eq_false_iff_ne];omega
  clear hA hn;go_enter Tryz.func59,Tryz.ntmps59
  go_wp2_with fail
  go_loopw [10] (fun i wr=>∃k:Nat,k<=n/\i=.int .i64 (k:Int)/\(∀j,j<k->errAt l j=0)/\Below w.heap.size w wr) (fun i _=>n-(intOf i).toNat)
  case atStart=>exact ⟨0,Nat.zero_le _,rfl,fun j hj=>absurd hj (by omega),Below.refl _ _⟩
  case round =>
   obtain ⟨k,hk,rfl,hz,hbr⟩:=hrel;have HB:=zz hbr;have HZK:=zz hz
   by_cases hlt:k<n
   ·have i1:decide ((k:Int)<(n:Int))=true:=decide_eq_true (by omega);have i2:(k:Int)<(n:Int):=by omega
    have HC:=zz (HCK.out k hlt (fun h=>hz _ (by omega)) wr hbr);have HN:=zz (fun h=>HE.out k hlt hz h);obtain ⟨m,hm⟩:∃m,k-1=m:=⟨_,rfl⟩;rw [hm] at HC;have hmx:max ((k:Int)-1) 0=(m:Int):=by omega
    have w1:IntKind.i64.wrap ((k:Int)-1)=(k:Int)-1:=IntWalk.i64_in _ (by omega);have w2:IntKind.i64.wrap ((k:Int)+1)=((k+1:Nat):Int):=by rw [show ((k:Int)+1)=((k+1:Nat):Int) by omega];exact IntWalk.i64_in _ (by omega)
    have hmk:m<=k+1:=by omega
    have hmki:(m:Int)<=((k+1:Nat):Int):=by omega
    have hkc:((k+1:Nat):Int)<=(c:Int):=by omega
    have hmc:¬c=m:=by omega
    have HM:=zz hm;clear hz hbr hm;obtain ⟨E,hEE⟩:∃E,errAt l k=E:=⟨_,rfl⟩;have HEE:=zz hEE;rw [hEE] at HC HN;clear hEE
    go_wp2_with fail
    refine HC.out.mono ?_;rintro e w3 ⟨rfl,hb3⟩;have HB3:=zz (HB.out.trans (hb3.mono HB.out.size));clear hb3
    by_cases hE:E=0
    ·have q1:(E !=0)=false:=by rw [hE];rfl
     have HZ2:=zz (show ∀j,j<k+1->errAt l j=0 from fun j hj=>by
      rcases Nat.lt_or_ge j k with h|h
      ·exact HZK.out j h
      ·obtain rfl:j=k:=by omega
       rw [HEE.out,hE])
     go_wp2_with fail
     go_roundw
     case rel=>exact ⟨k+1,by omega,by go_num,HZ2.out,HB3.out⟩
     case measure=>simp [intOf];omega
    ·have q1:(E !=0)=true:=bne_iff_ne.2 hE;have HF:=zz (HN.out hE)
     go_wp2_with fail
     go_ret;exact ⟨by rw [HF.out]<;>rfl,HB3.out⟩
   ·have i1:decide ((k:Int)<(n:Int))=false:=decide_eq_false (by omega);have i2:¬(k:Int)<(n:Int):=by omega
    have HF:=zz (HZ.out fun j hj=>hz j (by omega));clear hz hbr
    go_wp2_with fail
    go_ret;exact ⟨by rw [HF.out]<;>rfl,HB.out⟩
theorem sets_small{S:List Ser}(h:∀s∈S,SerFit s):∀i,((blSets S).getD i []).length<=100000000000000:=by
 intro i;unfold blSets;rw [List.getD_eq_getElem?_getD,List.getElem?_map];rcases Nat.lt_or_ge i S.length with hi|hi
 ·rw [List.getElem?_eq_getElem hi];have:=(h _ (List.getElem_mem hi)).ll;simp only [Option.map_some,Option.getD_some];omega
 ·rw [List.getElem?_eq_none hi];simp
theorem blSets_len(S:List Ser):(blSets S).length=S.length:=by simp [blSets]
theorem app_gset{w:World}{ops:Array Oper}{rest:List Oper}{o:Oper}{a:Act}{Q:Exit->Act->World->Prop}(hgd:o.guard=none)(s y:Operand)
 (ho:o.op=.call { callee:=.builtin .append,args:=#[s,y],argTypes:=#[78,78] })
 (w00:World)(v:Value)(ss:List (List Lbl))(hs:a.eval s=v)
 (ps:List LPl)(hps:ps.map (fun p=>p.2.2)=ss)(hown:w.ownsRow w00.heap.size 56 1 v ps.length (ps.map slE))(hall:∀p∈ps,Lbls w00 p.1 p.2.2/\p.2.2.length<=p.2.1)
 (p:LPl)(hp:Lbls w00 p.1 p.2.2/\p.2.2.length<=p.2.1)(c g:Nat)(hy:a.eval y=.slice (some ⟨g,0,none⟩) 1 c)(hg:Row w g 56 #[slE p])(hn:ps.length<=1000000)(hbase:w00.heap.size<=w.heap.size)
 (h:∀(v':Value) (w':World) (ps':List LPl),ps'.map (fun p=>p.2.2)=ss++[p.2.2]->w'.ownsRow w00.heap.size 56 1 v' ps'.length (ps'.map slE)->(∀p∈ps',Lbls w00 p.1 p.2.2/\p.2.2.length<=p.2.1)->Below w00.heap.size w w'->w.grownBy w' v.ownBlock->wpList Tryz.prog ops Q rest (a.put o.dst v') w'):
 wpList Tryz.prog ops Q (o::rest) a w:=by
 obtain ⟨i0,hi,hz0,hz1,hz2⟩:=info_parts set_info;refine wpList_app_at hgd s y 78 ho w00.heap.size 56 i0 _ 1 24 Tryz.underlying78 hi hz0 hz1 hz2 rfl (by omega) v ps.length (ps.map slE) hs hown (some ⟨g,0,none⟩) 1 c [slE p] hy rfl (At.row hg) (by intro u hu;simp at hu;subst hu;rfl)
  (by simp only [maxLen];omega) (by omega) hbase ?_
 intro v' w' k1 k2 k3;refine h v' w' (ps++[p]) (by rw [List.map_append,hps];rfl) (by rw [List.length_append,List.map_append];exact k1) (fun q hq=>?_) k2 k3;rcases List.mem_append.1 hq with hq|hq
 ·exact hall q hq
 ·obtain rfl:=List.mem_singleton.1 hq;exact hp
theorem cnt_step(S:List Ser){k:Nat}(h:k<S.length):cntS (S.take (k+1))=cntS (S.take k)+(S.getD k ser0).2.length:=by
 rw [List.take_add_one,List.getElem?_eq_getElem h,cntS_app,List.getD_eq_getElem?_getD,List.getElem?_eq_getElem h];simp [cntS]
theorem cnt_take(S:List Ser)(k:Nat):cntS (S.take k)<=cntS S:=by
 conv=>rhs;rw [<-List.take_append_drop k S,cntS_app]
 omega
theorem sets_step(S:List Ser){k:Nat}(h:k<S.length):blSets (S.take (k+1))=blSets (S.take k)++[(S.getD k ser0).1]:=by
 unfold blSets;rw [List.take_add_one,List.getElem?_eq_getElem h,List.map_append,List.getD_eq_getElem?_getD,List.getElem?_eq_getElem h];rfl
theorem cnt_bound{S:List Ser}(h:∀s∈S,SerFit s):cntS S<=8796093022208*S.length:=by
 induction S with
 | nil=>simp [cntS]
 | cons a r ih =>
   unfold cntS;have h1:=(h a (by simp)).sl;have h2:=ih fun s hs=>h s (List.mem_cons_of_mem _ hs)
   rw [List.length_cons];omega
theorem serF_first{S:List Ser}{k:Nat}(hk:k<S.length)(h:∀j,j<k->serE (S.getD j ser0).2=0)(hne:serE (S.getD k ser0).2≠0):serF S=serE (S.getD k ser0).2:=by
 induction S generalizing k with
 | nil=>simp at hk
 | cons a r ih =>
   unfold serF
   cases k with
   | zero =>
     have e:(a::r).getD 0 ser0=a:=rfl;rw [e] at hne ⊢;rw [if_neg hne]
   | succ k =>
     have e:∀j,(a::r).getD (j+1) ser0=r.getD j ser0:=fun j=>rfl
     have h0:=h 0 (by omega);have e0:(a::r).getD 0 ser0=a:=rfl;rw [e0] at h0;rw [if_pos h0,e];rw [e] at hne;exact ih (by simpa using hk) (fun j hj=>by have:=h (j+1) (by omega);rw [e] at this;exact this) hne
theorem serF_none{S:List Ser}(h:∀j,j<S.length->serE (S.getD j ser0).2=0):serF S=0:=by
 refine serF_zero.2 fun s hs=>?_
 obtain ⟨i,hi,rfl⟩:=List.getElem_of_mem hs;have:=h i hi;rw [List.getD_eq_getElem?_getD,List.getElem?_eq_getElem hi] at this;exact serE_zero.1 this
def BixTold(w:World)(S:List Ser)(e:Ending)(w':World):Prop :=
 Below w.heap.size w w'/\((blChk S≠0/\e=.returned (.tuple #[.pointer none,.int .i64 (blChk S)]))\/(blChk S=0/\∃X B,e=.returned (.tuple #[.pointer (some ⟨X,0,none⟩),.int .i64 0])/\w.heap.size<=B/\IdxAt w' B X (blSets S)))
set_option maxHeartbeats 8000000 in
theorem indexed_prog(A:Option Addr)(S:List Ser)(c:Nat)(w:World)(hA:Sers w A S)(hf:∀s∈S,SerFit s)(hl:S.length*48<=140737488351232)(hlc:S.length<=c):
 Calls Tryz.prog 28 #[.slice A S.length c] w (BixTold w S):=by
 by_cases h256:256<S.length
 ·have hz:blChk S=3:=by unfold blChk;rw [if_pos h256]
  have HZ:=zz hz;have d1:decide ((256:Int)<(S.length:Int))=true:=decide_eq_true (by omega);have d2:decide (256<S.length)=true:=decide_eq_true h256;clear hA hf hl hlc hz;go_enter Tryz.func28,Tryz.ntmps28
  go_wp2_with fail
  go_ret2;exact ⟨Below.refl _ _,.inl ⟨by rw [HZ.out];decide,by rw [HZ.out]<;>rfl⟩⟩
 ·have hcb:=cnt_bound hf;have HA:=zz hA;have HF:=zz hf;obtain ⟨n,hn⟩:∃n,S.length=n:=⟨_,rfl⟩;have HN:=zz hn;rw [hn] at h256 hl hlc hcb ⊢;have HCS:=zz (fun k (hk:k<n)=>cnt_step S (k:=k) (by omega));have HCB:=zz (fun k=>Nat.le_trans (cnt_take S k) hcb);have HST:=zz (fun k (hk:k<n)=>sets_step S (k:=k) (by omega));have d1:decide ((256:Int)<(n:Int))=false:=decide_eq_false (by omega);have d2:decide (256<n)=false:=decide_eq_false h256;clear hA hf hl hcb hn;go_enter Tryz.func28,Tryz.ntmps28
  go_wp2_with fail
  go_loopw [4,5,18] (fun v t i wr=>∃(k m:Nat) (ps:List LPl),k<=n/\i=.int .i64 (k:Int)/\t=.int .i64 (m:Int)/\m=cntS (S.take k)/\ps.length=k/\ps.map (fun p=>p.2.2)=blSets (S.take k)/\wr.ownsRow w.heap.size 56 1 v ps.length (ps.map slE)/\(∀p∈ps,Lbls w p.1 p.2.2/\p.2.2.length<=p.2.1)/\Below w.heap.size w wr)
   (fun _ _ i _=>n-(intOf i).toNat)
  case atStart=>exact ⟨0,0,[],Nat.zero_le _,rfl,rfl,rfl,rfl,rfl,⟨rfl,.inl ⟨rfl,rfl⟩⟩,fun p hp=>(by cases hp),Below.refl _ _⟩
  case round =>
   obtain ⟨k,m,ps,hk,rfl,rfl,hm,hpl,hps,hown,hall,hbr⟩:=hrel
   by_cases hlt:k<n
   ·obtain ⟨b,o,rfl,hb,hat⟩:=HA.out.all (by rw [HN.out];omega);obtain ⟨mm,hsa⟩:=hat k (by rw [HN.out];exact hlt);have hs:=HF.out _ (ser_at (S:=S) (i:=k) (by rw [HN.out];exact hlt));obtain ⟨g0,g1,_⟩:=hsa.below hbr hb;have i1:decide ((k:Int)<(n:Int))=true:=decide_eq_true (by omega);have i2:(k:Int)<(n:Int):=by omega
    have hcs:=HCS.out k hlt;have hcb:=HCB.out (k+1);have HM:=zz (show m+(S.getD k ser0).2.length=cntS (S.take (k+1)) by omega);have hw1:IntKind.i64.wrap ((m:Int)+((S.getD k ser0).2.length:Int))=((m+(S.getD k ser0).2.length:Nat):Int):=by rw [<-Int.natCast_add];exact IntWalk.i64_in _ (by omega)
    have HSS:=zz (HST.out k hlt);have HIN:=zz hsa.2.2;have HPS:=zz hps;have HALL:=zz hall;have HBR:=zz hbr;have HPL:=zz (show ps.length<=1000000 by omega);have HK:=zz (show k+1<=n/\ps.length+1=k+1 by omega);generalize S.getD k ser0=s at *;generalize s.2.length=l2 at *;have HOW:=zz (rows_below (rows_below hown (below_one wr (.cells #[.slice mm.la s.1.length mm.lc,.slice mm.sa l2 mm.sc] 65))) (below_one _ (.cells #[.slice mm.la s.1.length mm.lc] 56)));have HG:=zz (row_at wr (.cells #[.slice mm.la s.1.length mm.lc,.slice mm.sa l2 mm.sc] 65) #[.slice mm.la s.1.length mm.lc] 56);have HB2:=zz (show Below w.heap.size w ((wr.alloc (.cells #[.slice mm.la s.1.length mm.lc,.slice mm.sa l2 mm.sc] 65)).alloc (.cells #[.slice mm.la s.1.length mm.lc] 56)) from (hbr.alloc hbr.size _).alloc (by have:=hbr.size;simp;omega) _);obtain ⟨Pv,cv,hv,_⟩:=rows_slice hown;subst hv;have HLI:=zz (And.intro HIN.out.labels HIN.out.lc);clear hown hps hall hbr hpl hm hcs hcb hat hsa hs HIN;have HPN:=zz (show ps.length=k by have:=HK.out.2;omega)
    go_wp2_with (at_builtin;refine app_gset rfl (.tmp 22) (.tmp 25) rfl w _ (blSets (S.take k)) rfl ps HPS.out HOW.out HALL.out (mm.la,mm.lc,s.1) HLI.out 1 (wr.heap.size+1) rfl HG.out HPL.out HB2.out.size ?_;intro v7 w7 ps7 hp7 ho7 ha7 hb7 hg7;have HP7:=zz hp7;have HO7:=zz ho7;have HA7:=zz ha7;have HB7:=zz (HB2.out.trans hb7);have hS7:Row w7 wr.heap.size 65 #[.slice mm.la s.1.length mm.lc,.slice mm.sa l2 mm.sc]:=grown_row ((Row.new wr _ _).alloc _) hg7 (fun e=>by have:=rows_ne ((Row.new wr 65 #[.slice mm.la s.1.length mm.lc,.slice mm.sa l2 mm.sc]).alloc (.cells #[.slice mm.la s.1.length mm.lc] 56)) HOW.out (by decide);exact this e.symm);have y1:w7.cell? ⟨wr.heap.size,1,none⟩=some (.slice mm.sa l2 mm.sc):=hS7.cell 1;obtain ⟨P7,c7,hv7,_⟩:=rows_slice ho7;have HL7:=zz (show ps7.length=k+1 by have e:=congrArg List.length hp7;rw [List.length_map,List.length_append,<-HPS.out,List.length_map,HPN.out] at e;exact e);subst hv7;clear hp7 ho7 ha7 hb7 hg7 hS7)
    go_roundw
    case rel=>exact ⟨k+1,m+l2,ps7,HK.out.1,by go_num,by first|rfl|go_num,HM.out,HL7.out,by rw [HP7.out,HSS.out],HO7.out,HA7.out,HB7.out⟩
    case measure=>simp [intOf];omega
   ·have hkn:k=S.length:=by rw [HN.out];omega
    rw [hkn,List.take_length] at hm hps;have i1:decide ((k:Int)<(n:Int))=false:=decide_eq_false (by omega);have i2:¬(k:Int)<(n:Int):=by omega
    have h256':¬256<S.length:=by rw [HN.out];exact h256
    have HBR:=zz hbr
    by_cases hc:65536<m
    ·have hz:blChk S=3:=by unfold blChk;rw [if_neg h256',if_pos (by omega)]
     have HZ:=zz hz;have q1:decide ((65536:Int)<(m:Int))=true:=decide_eq_true (by omega);have q2:decide (65536<m)=true:=decide_eq_true hc;clear hm hpl hps hown hall hbr hz hkn
     go_wp2_with fail
     go_ret2;exact ⟨HBR.out,.inl ⟨by rw [HZ.out];decide,by rw [HZ.out]<;>rfl⟩⟩
    ·have q1:decide ((65536:Int)<(m:Int))=false:=decide_eq_false (by omega);have q2:decide (65536<m)=false:=decide_eq_false hc;obtain ⟨P,cp,hv,_,hat,_⟩:=rows_slice hown;subst hv;have hS:Sets wr P (blSets S):=⟨ps,hps,hat,fun p hp=>⟨(hall p hp).1.below hbr,(hall p hp).2⟩⟩;have hpn:ps.length=(blSets S).length:=by rw [<-hps,List.length_map]
     have HNW:=zz (new_prog P (blSets S) cp wr hS (by rw [blSets_len,HN.out];omega) (sets_small HF.out));rw [<-hpn] at HNW;have hcs:cntS S=m:=hm.symm
     by_cases hz:ixChk (blSets S)=0
     ·have HNY:=zz (HNW.out.mono fun e w' h=>new_yes hz h);have HZ0:=zz hz;have HCH:=zz (show blChk S=serF S by unfold blChk;rw [if_neg h256',if_neg (by omega),if_pos hz]);have HSF:=zz (fun k (hk:k<n)=>serF_first (S:=S) (k:=k) (by rw [HN.out];exact hk));have HSN:=zz (fun h=>serF_none (S:=S) h);generalize ps.length=pl at *;clear hm hpl hps hown hall hbr hkn hS hpn hcs HNW hat hz
      go_wp2_with fail
      refine HNY.out.mono ?_;rintro e w3 ⟨X,rfl,hI3,hb3⟩;have HI3:=zz (show ∃B0,w.heap.size<=B0/\IdxAt w3 B0 X (blSets S) from ⟨_,HBR.out.size,hI3⟩);have HB3:=zz (HBR.out.trans (hb3.mono HBR.out.size));clear hI3 hb3 HNY
      go_wp2_with fail
      go_loopw [45] (fun i wr=>∃j:Nat,j<=n/\i=.int .i64 (j:Int)/\(∀t,t<j->serE (S.getD t ser0).2=0)/\Below w3.heap.size w3 wr) (fun i _=>n-(intOf i).toNat)
      case atStart=>exact ⟨0,Nat.zero_le _,rfl,fun t ht=>absurd ht (by omega),Below.refl _ _⟩
      case round =>
       obtain ⟨j,hj,rfl,hz,hbq⟩:=hrel;have HBQ:=zz hbq;have HZQ:=zz hz;have HWQ:=zz (HB3.out.trans (hbq.mono HB3.out.size))
       by_cases hjl:j<n
       ·obtain ⟨b,o,rfl,hb,hat⟩:=HA.out.all (by rw [HN.out];omega);obtain ⟨mm,hsa⟩:=hat j (by rw [HN.out];exact hjl);have hs:=HF.out _ (ser_at (S:=S) (i:=j) (by rw [HN.out];exact hjl));obtain ⟨g0,g1,hin⟩:=hsa.below HWQ.out hb;have j1:decide ((j:Int)<(n:Int))=true:=decide_eq_true (by omega);have j2:(j:Int)<(n:Int):=by omega
        have HCK:=zz (chks_prog mm.sa (S.getD j ser0).2 mm.sc _ (hin.samples.below (below_one wr (.cells #[.slice mm.la (S.getD j ser0).1.length mm.lc,.slice mm.sa (S.getD j ser0).2.length mm.sc] 65))) (by have:=hs.sl;omega) hin.sc);have HW5:=zz (hbq.alloc hbq.size (.cells #[.slice mm.la (S.getD j ser0).1.length mm.lc,.slice mm.sa (S.getD j ser0).2.length mm.sc] 65));have HFI:=zz (fun h=>HSF.out j hjl hz h);have HJJ:=zz (show j+1<=n by omega);obtain ⟨E,hE⟩:∃E,serE (S.getD j ser0).2=E:=⟨_,rfl⟩;have HE:=zz hE;rw [hE] at HCK HFI;generalize (S.getD j ser0).2.length=l2 at *;generalize (S.getD j ser0).1.length=l1 at *;clear hsa hat hs hin hz hbq hE
        go_wp2_with fail
        refine HCK.out.mono ?_;rintro e w6 ⟨rfl,hb6⟩;have HB6:=zz (HW5.out.trans (hb6.mono HW5.out.size));clear hb6 HCK
        by_cases he:E=0
        ·have q3:(E !=0)=false:=by rw [he];rfl
         have HZ6:=zz (show ∀t,t<j+1->serE (S.getD t ser0).2=0 from fun t ht=>by
          rcases Nat.lt_or_ge t j with h|h
          ·exact HZQ.out t h
          ·obtain rfl:t=j:=by omega
           rw [HE.out,he])
         go_wp2_with fail
         go_roundw
         case rel=>exact ⟨j+1,HJJ.out,by go_num,HZ6.out,HB6.out⟩
         case measure=>simp [intOf];omega
        ·have q3:(E !=0)=true:=bne_iff_ne.2 he;have HFF:=zz (show blChk S=E by rw [HCH.out,HFI.out he]);have HEN:=zz he;clear he HFI
         go_wp2_with fail
         go_ret2;exact ⟨HB3.out.trans (HB6.out.mono HB3.out.size),.inl ⟨by rw [HFF.out];exact HEN.out,by rw [HFF.out]<;>rfl⟩⟩
       ·have j1:decide ((j:Int)<(n:Int))=false:=decide_eq_false (by omega);have j2:¬(j:Int)<(n:Int):=by omega
        have HFF:=zz (show blChk S=0 by rw [HCH.out];exact HSN.out fun t ht=>hz t (by rw [HN.out] at ht;omega));clear hz hbq
        go_wp2_with fail
        go_ret2;obtain ⟨B0,k1,k2⟩:=HI3.out;exact ⟨HWQ.out,.inr ⟨HFF.out,X,B0,rfl,k1,k2.below HBQ.out⟩⟩
     ·have HNN:=zz (HNW.out.mono fun e w' h=>new_no hz h);have HCH:=zz (show blChk S=ixChk (blSets S) by unfold blChk;rw [if_neg h256',if_neg (by omega),if_neg hz]);have q3:(ixChk (blSets S) !=0)=true:=bne_iff_ne.2 hz;have HZN:=zz hz;generalize ps.length=pl at *;generalize ixChk (blSets S)=E at *;clear hm hpl hps hown hall hbr hkn hS hpn hcs HNW hat hz
      go_wp2_with fail
      refine HNN.out.mono ?_;rintro e w3 ⟨rfl,hb3⟩;have HB3:=zz (HBR.out.trans (hb3.mono HBR.out.size));clear hb3
      go_wp2_with fail
      go_ret2;exact ⟨HB3.out,.inl ⟨by rw [HCH.out];exact HZN.out,by rw [HCH.out]<;>rfl⟩⟩
def preB(S:List Ser)(k:Nat):List UInt8:=magL++cntL (ixBytes (blSets S))++(S.take k).flatMap fun s=>serL s.2
def preP(l:List Smp)(j:Nat):List UInt8:=uintL (pcs l).length++((pcs l).take j).flatMap pcL
theorem preB_next(S:List Ser){k:Nat}(h:k<S.length):preB S (k+1)=preB S k++serL (S.getD k ser0).2:=by
 unfold preB;rw [List.take_add_one,List.getElem?_eq_getElem h,List.flatMap_append,List.append_assoc _ _ (serL _),List.getD_eq_getElem?_getD,List.getElem?_eq_getElem h];simp
theorem preB_end(S:List Ser):preB S S.length=frontL S:=by
 unfold preB frontL bodyL;rw [List.take_length,List.append_assoc]
theorem preB_le(S:List Ser)(k:Nat):(preB S k).length<=(frontL S).length:=by
 rw [<-preB_end];unfold preB;simp only [List.length_append,List.take_length];have:((S.take k).flatMap fun s=>serL s.2).length<=(S.flatMap fun s=>serL s.2).length:=by
  conv=>rhs;rw [<-List.take_append_drop k S,List.flatMap_append,List.length_append]
  omega
 omega
theorem pcs_get(l:List Smp){j:Nat}(h:j<nPc l):(pcs l).getD j []=pieceL l j:=by
 unfold pcs;rw [List.getD_eq_getElem?_getD,List.getElem?_map,List.getElem?_range h];rfl
theorem preP_next(l:List Smp){j:Nat}(h:j<nPc l):preP l (j+1)=preP l j++pcL (pieceL l j):=by
 have hl:j<(pcs l).length:=by rw [pcs_len];exact h
 unfold preP;rw [List.take_add_one,List.getElem?_eq_getElem hl,List.flatMap_append,<-List.append_assoc,<-pcs_get l h,List.getD_eq_getElem?_getD,List.getElem?_eq_getElem hl];simp
theorem preP_zero(l:List Smp):preP l 0=uintL (nPc l):=by
 unfold preP;rw [pcs_len];simp
theorem preP_end(l:List Smp):preP l (nPc l)=serL l:=by
 unfold preP serL;rw [<-pcs_len,List.take_length]
theorem preP_le(l:List Smp)(j:Nat):(preP l j).length<=(serL l).length:=by
 unfold preP serL;rw [List.length_append,List.length_append];have:(((pcs l).take j).flatMap pcL).length<=((pcs l).flatMap pcL).length:=by
  conv=>rhs;rw [<-List.take_append_drop j (pcs l),List.flatMap_append,List.length_append]
  omega
 omega
theorem piece_in(l:List Smp){j:Nat}(h:j<nPc l):pieceL l j∈pcs l:=by
 unfold pcs;exact List.mem_map.2 ⟨j,List.mem_range.2 h,rfl⟩
def WrTold(w:World)(S:List Ser)(e:Ending)(w':World):Prop :=
 Below w.heap.size w w'/\((blChk S≠0/\e=.returned (.tuple #[.slice none 0 0,.int .i64 (blChk S)]))\/(blChk S=0/\∃v,e=.returned (.tuple #[v,.int .i64 0])/\Own w' w.heap.size v (blL S)))
theorem pcsat_keep{base n₀:Nat}{W W':World}{l:List Smp}{v:Value}{vs:List Value}{pre:List Nat}(h:PcsAt W n₀ l v vs pre)(hk:KeepU base W W'):PcsAt W' n₀ l v vs pre :=
 h.move fun g t cs _ hr ht=>hk.2 g t cs hr (by rcases ht with rfl|rfl<;>decide)
set_option maxHeartbeats 8000000 in
theorem write_prog(A:Option Addr)(S:List Ser)(c:Nat)(w:World)(hA:Sers w A S)(hf:∀s∈S,SerFit s)(hl:S.length*48<=140737488351232)(hlc:S.length<=c):
 Calls Tryz.prog 11 #[.slice A S.length c] w (WrTold w S):=by
 have HI:=zz (indexed_prog A S c w hA hf hl hlc);have HA:=zz hA;have HF:=zz hf;obtain ⟨n,hn⟩:∃n,S.length=n:=⟨_,rfl⟩;have HN:=zz hn;rw [hn] at HI hl hlc ⊢;clear hA hf hn;go_enter Tryz.func11,Tryz.ntmps11
 go_wp2_with fail
 refine HI.out.mono ?_;rintro e w2 ⟨hb2,⟨h1,rfl⟩|⟨hz,X,B,rfl,hB,hI⟩⟩
 ·have HB2:=zz hb2;have H1:=zz h1;obtain ⟨E,hE⟩:∃E,blChk S=E:=⟨_,rfl⟩;rw [hE] at h1 ⊢;have q3:(E !=0)=true:=bne_iff_ne.2 h1;have HE:=zz hE;clear hb2 h1 hE
  go_wp2_with fail
  go_ret2;exact ⟨HB2.out,.inl ⟨H1.out,by rw [HE.out]<;>rfl⟩⟩
 ·obtain ⟨z1,z2,z3,z4⟩:=blChk_zero.1 hz;have hfl:=front_len hz;have hix:=bytes_len z3;have hb3:=below_one w2 (.cells #[.int .u8 71,.int .u8 66,.int .u8 75,.int .u8 49] 5 (4,5));have HBY:=zz (bytes_prog X (blSets S) B _ (hI.below hb3) z3);have HB2:=zz hb2;have HM:=zz (show OwnMk (w2.alloc (.cells #[.int .u8 71,.int .u8 66,.int .u8 75,.int .u8 49] 5 (4,5))) w.heap.size (.slice (some ⟨w2.heap.size,0,none⟩) 4 4) [71,66,75,49] from ⟨w2.heap.size,rfl,hb2.size,heap_alloc_new w2 _⟩);have HB3:=zz (hb2.alloc hb2.size (.cells #[.int .u8 71,.int .u8 66,.int .u8 75,.int .u8 49] 5 (4,5)));have hcv:=Go.Lib.run_convert_bytes_const (P:=Tryz.prog) w2 24 5 #[.int .u8 71,.int .u8 66,.int .u8 75,.int .u8 49] 4 4 Tryz.underlying24 Tryz.underlying5;have HZ:=zz hz;have HZ4:=zz z4;clear hb2 hb3 hI hB
  go_wp2_with fail
  refine HBY.out.mono ?_;rintro e w4 ⟨v4,rfl,ho4,hb4⟩;obtain ⟨P4,d4,hv4,hP4,hg4⟩:=own_slice' ho4;have HPC:=zz (putcntM_prog (HM.out.below hb4) (Nat.le_trans HB3.out.size hb4.size) (by simp) P4 (ixBytes (blSets S)) d4 hP4 (by omega));have HB4:=zz (HB3.out.trans (hb4.mono HB3.out.size));have HP0:=zz (show preB S 0=[71,66,75,49]++cntL (ixBytes (blSets S)) by simp [preB,magL]);subst hv4;generalize (ixBytes (blSets S)).length=xl at *;clear ho4 hb4 hP4 hg4 HBY HM HB3
  go_wp2_with fail
  refine HPC.out.mono ?_;rintro e w5 ⟨v5,rfl,ho5,hk5⟩;have HB5:=zz (HB4.out.trans hk5);have HO5:=zz (show Own w5 w.heap.size v5 (preB S 0) by rw [HP0.out];exact ho5);obtain ⟨P5,d5,hv5,_,_⟩:=own_slice' ho5;generalize ([71,66,75,49]++cntL (ixBytes (blSets S))).length=l5 at hv5;subst hv5;clear ho5 hk5 HPC;have HLE:=zz (fun k=>Nat.le_trans (preB_le S k) hfl);have HNX:=zz (fun k (hk:k<n)=>preB_next S (k:=k) (by rw [HN.out];exact hk))
  go_wp2_with fail
  go_loopw [6,29] (fun b i wr=>∃k:Nat,k<=n/\i=.int .i64 (k:Int)/\Own wr w.heap.size b (preB S k)/\Below w.heap.size w wr) (fun _ i _=>n-(intOf i).toNat)
  case atStart=>exact ⟨0,Nat.zero_le _,rfl,HO5.out,HB5.out⟩
  case round =>
   obtain ⟨k,hk,rfl,hown,hbr⟩:=hrel;have HO:=zz hown;have HB:=zz hbr;have HPL:=zz (HLE.out k);obtain ⟨P6,d6,hv6,hP6,_⟩:=own_slice' hown;subst hv6
   by_cases hlt:k<n
   ·obtain ⟨b,o,rfl,hb,hat⟩:=HA.out.all (by rw [HN.out];omega);obtain ⟨mm,hsa⟩:=hat k (by rw [HN.out];exact hlt);have hmem:S.getD k ser0∈S:=ser_at (S:=S) (i:=k) (by rw [HN.out];exact hlt);have hs:=HF.out _ hmem;have hsl:=hs.sl;obtain ⟨hne,hgood⟩:=HZ4.out _ hmem;obtain ⟨g0,g1,hin⟩:=hsa.below hbr hb;have i1:decide ((k:Int)<(n:Int))=true:=decide_eq_true (by omega);have i2:(k:Int)<(n:Int):=by omega
    have HNK:=zz (HNX.out k hlt);have HLK:=zz (HLE.out (k+1));have HBX:=zz (hbr.alloc hbr.size (.cells #[.slice mm.la (S.getD k ser0).1.length mm.lc,.slice mm.sa (S.getD k ser0).2.length mm.sc] 65));have HOX:=zz (own_alloc hown (.cells #[.slice mm.la (S.getD k ser0).1.length mm.lc,.slice mm.sa (S.getD k ser0).2.length mm.sc] 65));have HCU:=zz (cut_prog mm.sa (S.getD k ser0).2 mm.sc _ (hin.samples.below (below_one wr (.cells #[.slice mm.la (S.getD k ser0).1.length mm.lc,.slice mm.sa (S.getD k ser0).2.length mm.sc] 65))) hs.sl hin.sc);generalize (S.getD k ser0).1.length=l1 at *;generalize (S.getD k ser0).2=l at *;have hN1:(l.length+119)/120=nPc l:=rfl;have hN2:nPc l<=10000000000000:=by have:=nPc_le l;omega
    have HGD:=zz hgood;have HPN:=zz (fun j (hj:j<nPc l)=>preP_next l hj);have HPE:=zz (fun j=>preP_le l j);rw [hN1] at HCU;generalize hl2:l.length=l2 at *;clear hsa hat hs hin hown hbr hP6 hmem hgood hne hl2 hN1;obtain ⟨L6,hL6⟩:∃L6,(preB S k).length=L6:=⟨_,rfl⟩;have HL6:=zz hL6;rw [hL6] at HO HOX ⊢;clear hL6
    go_wp2_with fail
    obtain ⟨n₀,hn₀⟩:∃n₀,(wr.alloc (.cells #[.slice mm.la l1 mm.lc,.slice mm.sa l2 mm.sc] 65)).heap.size=n₀:=⟨_,rfl⟩;have HN0:=zz hn₀;rw [hn₀] at HCU;clear hn₀;refine HCU.out.mono ?_;rintro e w7 ⟨v7,vs,rfl,hpc,hb7⟩;obtain ⟨P7,c7,hv7,_⟩:=rows_slice hpc.1;rw [List.length_range] at hv7;subst hv7;have HPC:=zz hpc;rw [<-HN0.out] at hb7;have HB7:=zz (HBX.out.trans (hb7.mono HBX.out.size));have HPU:=zz (putnum_prog (own_below HOX.out hb7) HB7.out.size (by have:=HPL.out;omega) (nPc l) (by omega));clear hpc hb7 HCU
    go_wp2_with fail
    refine HPU.out.mono ?_;rintro e w8 ⟨v8,rfl,ho8,hk8,_⟩;have HO8:=zz (show Own w8 w.heap.size v8 (preB S k++preP l 0) by rw [preP_zero];exact ho8);have HPC8:=zz (pcsat_keep HPC.out hk8);have HB8:=zz (HB7.out.trans hk8.1);obtain ⟨P8,c8,hv8,_,_⟩:=own_slice' ho8;generalize (preB S k++uintL (nPc l)).length=L8 at hv8;subst hv8;clear ho8 hk8 HPU HPC
    go_wp2_with fail
    go_loopw [6,42] (fun b i wr=>∃j:Nat,j<=nPc l/\i=.int .i64 (j:Int)/\Own wr w.heap.size b (preB S k++preP l j)/\PcsAt wr n₀ l (.slice P7 (nPc l) c7) vs (List.range (nPc l))/\Below w.heap.size w wr) (fun _ i _=>nPc l-(intOf i).toNat)
    case atStart=>exact ⟨0,Nat.zero_le _,rfl,HO8.out,HPC8.out,HB8.out⟩
    case round =>
     obtain ⟨j,hj,rfl,hown2,hpc2,hbr2⟩:=hrel;have HP2:=zz hpc2;have HB2:=zz hbr2;obtain ⟨P9,d9,hv9,-,-⟩:=own_slice' hown2;subst hv9;have hpe:=HPE.out j;have hlk:=HLK.out;have hnk:=HNK.out;rw [hnk,List.length_append] at hlk;have hlen9:(preB S k++preP l j).length<=300000000:=by rw [List.length_append];omega
     have HL9:=zz hlen9;clear hpe hlk hnk
     by_cases hjl:j<nPc l
     ·have i3:decide ((j:Int)<((nPc l:Nat):Int))=true:=decide_eq_true (by omega);have i4:(j:Int)<((nPc l:Nat):Int):=by omega
      obtain ⟨Pr,cr,hvr,_,hatr,_⟩:=rows_slice hpc2.1;obtain ⟨rfl,hr0,rfl⟩:=Value.slice.inj hvr;have hvl:vs.length=nPc l:=by have:=hpc2.1.1;rw [List.length_range] at this;omega
      rcases hatr with h|⟨b7,o7,rfl,hb7',hc7⟩
      ·rw [h] at hvl;simp at hvl;omega
      have hO:=hpc2.2 j (by rw [List.length_range];exact hjl);rw [show (List.range (nPc l)).getD j 0=j by simp [List.getD_eq_getElem?_getD,hjl]] at hO;obtain ⟨Pp,cp,hvp,_,hSp,_⟩:=owns_slice hO;have y0:=hc7 j (.slice Pp (pieceL l j).length cp) (by rw [<-hvp,List.getD_eq_getElem?_getD,List.getElem?_eq_getElem (show j<vs.length by omega)];rfl);have hck:chk (pieceL l j)=0:=pcs_chk HGD.out (piece_in l hjl);have HEN:=zz (encode_prog Pp (pieceL l j) cp wr hSp (by have:=(chk_zero.1 hck).2.1;omega));rw [hck,if_pos rfl] at HEN;have HEF:=zz (enc_few hck);have HST:=zz (HPN.out j hjl);have HJ:=zz (show j+1<=nPc l from hjl);have HO2:=zz hown2;obtain ⟨L9,hL9⟩:∃L9,(preB S k++preP l j).length=L9:=⟨_,rfl⟩;rw [hL9] at HO2 ⊢;have HQ9:=zz hL9;generalize pieceL l j=q at *;generalize q.length=ql at *;clear hown2 hpc2 hbr2 hvr hr0 hvl hc7 hO hvp hSp hck hL9 hlen9
      go_wp2_with fail
      refine HEN.out.mono ?_;rintro e w9 ⟨v9,rfl,ho9,hb9⟩;obtain ⟨P10,d10,hv10,hP10,hg10⟩:=own_slice' ho9;subst hv10;have HPU2:=zz (putcnt_prog (own_below HO2.out hb9) (Nat.le_trans HB2.out.size hb9.size) (by have:=HL9.out;omega) P10 (encL q) d10 hP10 (by have:=HEF.out;omega) (fun ad e h=>by
       have h1:=hg10 ad e;have h2:=(World.ownsRow.lt HO2.out _ h.symm).2;omega))
      have HP9:=zz (HP2.out.below hb9);have HB9:=zz (HB2.out.trans (hb9.mono HB2.out.size));generalize (encL q).length=eq at *;clear ho9 hb9 hP10 hg10 HEN
      go_wp2_with fail
      refine HPU2.out.mono ?_;rintro e w11 ⟨v11,rfl,ho11,hk11⟩;have HO11:=zz (show Own w11 w.heap.size v11 (preB S k++preP l (j+1)) by rw [HST.out,<-List.append_assoc];exact ho11);have HP11:=zz (pcsat_keep HP9.out hk11);have HB11:=zz (HB9.out.trans hk11.1);obtain ⟨P11,d11,hv11,-,-⟩:=own_slice' ho11;generalize (preB S k++preP l j++cntL (encL q)).length=L11 at hv11;subst hv11;clear ho11 hk11 HPU2
      go_wp2_with fail
      go_roundw
      case rel=>exact ⟨j+1,HJ.out,by go_num,HO11.out,HP11.out,HB11.out⟩
      case measure=>simp [intOf];omega
     ·have i3:decide ((j:Int)<((nPc l:Nat):Int))=false:=decide_eq_false (by omega);have i4:¬(j:Int)<((nPc l:Nat):Int):=by omega
      have HO2:=zz (show Own wr w.heap.size (.slice P9 (preB S k++preP l j).length d9) (preB S (k+1)) by
       rw [HNK.out,<-preP_end l,show nPc l=j by omega];exact hown2)
      have HK1:=zz (show k+1<=n from hlt);generalize (preB S k++preP l j).length=L9 at *;clear hown2 hpc2 hbr2 hlen9
      go_wp2_with fail
      go_roundw
      case rel=>exact ⟨k+1,HK1.out,by go_num,HO2.out,HB2.out⟩
      case measure=>simp [intOf];omega
   ·have i1:decide ((k:Int)<(n:Int))=false:=decide_eq_false (by omega);have i2:¬(k:Int)<(n:Int):=by omega
    have hkn:k=S.length:=by rw [HN.out];omega
    have hpe:=preB_end S;rw [<-hkn] at hpe;rw [hpe] at hP6 HO ⊢;have HSM:=zz (blsum_prog P6 (frontL S) d6 wr hP6 (by omega));have hfl2:=hfl;obtain ⟨L6,hL6⟩:∃L6,(frontL S).length=L6:=⟨_,rfl⟩;have HL6:=zz hL6;rw [hL6] at HSM HO hfl2 ⊢;have HF2:=zz hfl2;clear hown hbr hP6 hpe hkn hL6 hfl hfl2
    go_wp2_with fail
    refine HSM.out.mono ?_;rintro e w7 ⟨v7,rfl,ho7,hb7⟩;obtain ⟨P7,d7,hv7,hP7,_⟩:=own_slice' ho7;change v7=.slice P7 4 d7 at hv7;subst hv7;have HO7:=zz (own_below HO.out hb7);have HB7:=zz (HB.out.trans (hb7.mono HB.out.size));have HP7:=zz hP7;clear ho7 hb7 hP7 HSM
    go_wp2_with (at_builtin;refine app_u8 rfl (.tmp 56) (.tmp 58) rfl w.heap.size (.slice P6 L6 d6) (frontL S) rfl HO7.out P7 (le4 (sumN (frontL S))) d7 rfl HP7.out (by have:=HF2.out;have:=HL6.out;rw [le4_len];omega) HB7.out.size ?_;intro v8 w8 ho8 hb8 hg8;have HO8:=zz (show Own w8 w.heap.size v8 (blL S) from ho8);have HB8:=zz (HB7.out.trans hb8);obtain ⟨P8,d8,hv8,-,-⟩:=own_slice' ho8;generalize (frontL S++le4 (sumN (frontL S))).length=L8 at hv8;subst hv8;clear ho8 hb8 hg8)
    go_ret2;exact ⟨HB8.out,.inr ⟨HZ.out,_,rfl,HO8.out⟩⟩
end Go.Proofs.YtgdmcnoogacdaaaGreatDoor
