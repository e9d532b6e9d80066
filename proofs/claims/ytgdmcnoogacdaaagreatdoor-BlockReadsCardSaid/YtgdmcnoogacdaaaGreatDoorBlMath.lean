/- A block's series and bytes, and what is read of bytes as a block: of no program. -/
import Derived.Test.YtgdmcnoogacdaaaGreatDoorBlLotH
import Derived.Test.YtgdmcnoogacdaaaGreatDoorBlLotL
namespace Go.Proofs.YtgdmcnoogacdaaaGreatDoor
open Ch
set_option linter.unusedVariables false
set_option linter.unusedSimpArgs false
abbrev Ser:=List Lbl × List Smp
def blSets(S:List Ser):List (List Lbl):=S.map (·.1)
def cntS:List Ser->Nat
 | []=>0
 | s::r=>s.2.length+cntS r
theorem cntS_app(a b:List Ser):cntS (a++b)=cntS a+cntS b:=by
 induction a with
 | nil=>simp [cntS]
 | cons s r ih=>simp only [List.cons_append,cntS,ih];omega
def serE(l:List Smp):Int:=if l.length=0 then 2 else errF l l.length 0
def serF:List Ser->Int
 | []=>0
 | s::r=>if serE s.2=0 then serF r else serE s.2
def blChk(S:List Ser):Int:=if 256<S.length then 3 else if 65536<cntS S then 3 else if ixChk (blSets S)=0 then serF S else ixChk (blSets S)
theorem serE_zero{l:List Smp}:serE l=0↔l≠[]/\Ch.Good l:=by
 unfold serE
 by_cases h:l.length=0
 ·rw [if_pos h];rw [List.length_eq_zero_iff] at h;exact ⟨fun h=>(by cases h),fun k=>absurd h k.1⟩
 ·rw [if_neg h,errF_zero];have hn:l≠[]:=fun e=>h (by rw [e];rfl)
  refine ⟨fun k=>⟨hn,fun i hi=>errAt_zero.1 (k i (Nat.zero_le _) (by omega))⟩,fun k i _ hi=>errAt_zero.2 (k.2 i (by omega))⟩
theorem serF_zero{S:List Ser}:serF S=0↔∀s∈S,s.2≠[]/\Ch.Good s.2:=by
 induction S with
 | nil=>simp [serF]
 | cons s r ih =>
   unfold serF
   by_cases h:serE s.2=0
   ·rw [if_pos h,ih];have:=serE_zero.1 h;simp only [List.mem_cons,forall_eq_or_imp];exact ⟨fun k=>⟨this,k⟩,fun k=>k.2⟩
   ·rw [if_neg h];exact ⟨fun k=>absurd k h,fun k=>absurd (serE_zero.2 (k s (by simp))) h⟩
theorem blChk_zero{S:List Ser}:blChk S=0↔S.length<=256/\cntS S<=65536/\ixChk (blSets S)=0/\∀s∈S,s.2≠[]/\Ch.Good s.2:=by
 unfold blChk
 by_cases h1:256<S.length
 ·rw [if_pos h1];exact ⟨fun h=>(by cases h),fun h=>by omega⟩
 ·rw [if_neg h1]
  by_cases h2:65536<cntS S
  ·rw [if_pos h2];exact ⟨fun h=>(by cases h),fun h=>by omega⟩
  ·rw [if_neg h2]
   by_cases h3:ixChk (blSets S)=0
   ·rw [if_pos h3,serF_zero];exact ⟨fun h=>⟨by omega,by omega,h3,h⟩,fun h=>h.2.2.2⟩
   ·rw [if_neg h3];exact ⟨fun h=>absurd h h3,fun h=>absurd h.2.2.1 h3⟩
def nPc(l:List Smp):Nat:=(l.length+119)/120
def pcs(l:List Smp):List (List Smp):=(List.range (nPc l)).map (pieceL l)
theorem pcs_len(l:List Smp):(pcs l).length=nPc l:=by simp [pcs]
theorem pcs_nil:pcs []=[]:=rfl
theorem pcs_step{l:List Smp}(h:l≠[]):pcs l=l.take 120::pcs (l.drop 120):=by
 have h0:0<l.length:=List.length_pos_iff.2 h;have hn:nPc l=nPc (l.drop 120)+1:=by
  unfold nPc;rw [List.length_drop];omega
 unfold pcs;rw [hn,List.range_succ_eq_map,List.map_cons,List.map_map];refine List.cons_eq_cons.2 ⟨by simp [pieceL],?_⟩
 apply List.map_congr_left
 intro k _;simp only [Function.comp,pieceL,List.drop_drop];rw [show (k.succ)*120=120+k*120 by omega]
theorem pcs_join:∀(n:Nat) (l:List Smp),l.length<=n->(pcs l).flatten=l:=by
 intro n
 induction n with
 | zero =>
   intro l h;obtain rfl:l=[]:=List.length_eq_zero_iff.1 (by omega);rfl
 | succ n ih =>
   intro l h
   by_cases e:l=[]
   ·subst e;rfl
   ·have h0:0<l.length:=List.length_pos_iff.2 e;rw [pcs_step e,List.flatten_cons,ih _ (by rw [List.length_drop];omega),List.take_append_drop]
theorem pcs_flat(l:List Smp):(pcs l).flatten=l:=pcs_join _ l (Nat.le_refl _)
theorem good_take{l:List Smp}(h:Ch.Good l)(k:Nat):Ch.Good (l.take k):=by
 intro i hi;rw [List.length_take] at hi;have h1:∀j,j<k->(l.take k).getD j (0,0)=l.getD j (0,0):=fun j hj=>by simp [List.getD_eq_getElem?_getD,List.getElem?_take,hj]
 unfold tOf;rw [h1 i (by omega),h1 (i-1) (by omega)];exact h i (by omega)
theorem getD_drop'(l:List Smp)(k i:Nat):(l.drop k).getD i (0,0)=l.getD (k+i) (0,0):=by simp [List.getD_eq_getElem?_getD,List.getElem?_drop]
theorem good_drop{l:List Smp}(h:Ch.Good l)(k:Nat):Ch.Good (l.drop k):=by
 intro i hi;rw [List.length_drop] at hi;unfold tOf;rw [getD_drop',getD_drop'];have:=h (k+i) (by omega);refine ⟨this.1,fun h0=>?_⟩;have:=this.2 (by omega);unfold tOf at this;rw [show k+i-1=k+(i-1) by omega] at this;exact this
theorem good_app{a b:List Smp}(ha:Ch.Good a)(hb:Ch.Good b)(h:a≠[]->b≠[]->tOf a (a.length-1)<tOf b 0):Ch.Good (a++b):=by
 intro i hi;rw [List.length_append] at hi;have hl:∀j,j<a.length->(a++b).getD j (0,0)=a.getD j (0,0):=fun j hj=>by simp [List.getD_eq_getElem?_getD,List.getElem?_append_left hj]
 have hr:∀j,a.length<=j->(a++b).getD j (0,0)=b.getD (j-a.length) (0,0):=fun j hj=>by simp [List.getD_eq_getElem?_getD,List.getElem?_append_right hj]
 unfold tOf
 by_cases h1:i<a.length
 ·rw [hl i h1,hl (i-1) (by omega)];exact ha i h1
 ·rw [hr i (by omega)];refine ⟨(hb (i-a.length) (by omega)).1,fun h0=>?_⟩
  by_cases h2:i=a.length
  ·subst h2;rw [hl _ (by omega),Nat.sub_self];exact h (fun e=>by subst e;simp at h0) (fun e=>by subst e;simp at hi)
  ·rw [hr (i-1) (by omega)];have:=(hb (i-a.length) (by omega)).2 (by omega);unfold tOf at this;rw [show i-a.length-1=i-1-a.length by omega] at this;exact this
def Link:Option (List Smp)->List Smp->Prop
 | none,_=>True
 | some q,p=>q.length=120/\tOf q (q.length-1)<tOf p 0
def PcsOk:Option (List Smp)->List (List Smp)->Prop
 | _,[]=>True
 | last,p::ps=>chk p=0/\Link last p/\PcsOk (some p) ps
theorem pcs_ok:∀(n:Nat) (l:List Smp) (last:Option (List Smp)),l.length<=n->Ch.Good l->(l≠[]->Link last (l.take 120))->PcsOk last (pcs l):=by
 intro n
 induction n with
 | zero =>
   intro l last h _ _;obtain rfl:l=[]:=List.length_eq_zero_iff.1 (by omega)
   trivial
 | succ n ih =>
   intro l last h hg hk
   by_cases e:l=[]
   ·subst e;trivial
   ·have h0:0<l.length:=List.length_pos_iff.2 e;rw [pcs_step e];refine ⟨chk_zero.2 ⟨by rw [List.length_take];omega,by rw [List.length_take];omega,good_take hg _⟩,hk e,ih _ _ (by rw [List.length_drop];omega) (good_drop hg _) fun hd=>?_⟩;have hd0:=List.length_pos_iff.2 hd;rw [List.length_drop] at hd0;have hlt:(l.take 120).length=120:=by rw [List.length_take];omega
    refine ⟨hlt,?_⟩;rw [hlt];unfold tOf;have e1:(l.take 120).getD (120-1) (0,0)=l.getD 119 (0,0):=by simp [List.getD_eq_getElem?_getD,List.getElem?_take]
    have e2:((l.drop 120).take 120).getD 0 (0,0)=l.getD 120 (0,0):=by simp [List.getD_eq_getElem?_getD,List.getElem?_take,List.getElem?_drop]
    rw [e1,e2];exact (hg 120 (by omega)).2 (by omega)
theorem flat_head{p:List Smp}{ps:List (List Smp)}(h:0<p.length):tOf (p::ps).flatten 0=tOf p 0:=by
 unfold tOf;rw [List.flatten_cons];simp [List.getD_eq_getElem?_getD,List.getElem?_append_left h]
theorem ok_join:∀(ps:List (List Smp)) (last:Option (List Smp)),PcsOk last ps->Ch.Good ps.flatten/\pcs ps.flatten=ps:=by
 intro ps
 induction ps with
 | nil=>intro last _;exact ⟨fun i hi=>by simp at hi,rfl⟩
 | cons p r ih =>
   intro last h;obtain ⟨h1,h2,h3⟩:=h;obtain ⟨l0,l120,hg⟩:=chk_zero.1 h1;obtain ⟨k1,k2⟩:=ih _ h3;have hp:p≠[]:=List.length_pos_iff.1 l0
   cases r with
   | nil =>
     rw [show ([p]:List (List Smp)).flatten=p by simp];refine ⟨hg,?_⟩;rw [pcs_step hp,List.take_of_length_le l120,List.drop_eq_nil_of_le l120,pcs_nil]
   | cons q qs =>
     obtain ⟨j1,j2,j3⟩:=h3;obtain ⟨m0,m120,mg⟩:=chk_zero.1 j1;refine ⟨?_,?_⟩
     ·rw [List.flatten_cons];refine good_app hg k1 fun _ _=>?_
      rw [flat_head m0];exact j2.2
     ·have hne:(p::q::qs).flatten≠[]:=by
       rw [List.flatten_cons];intro e;exact hp (List.append_eq_nil_iff.1 e).1
      rw [pcs_step hne,List.flatten_cons,List.take_left' j2.1,List.drop_left' j2.1,k2]
theorem pcs_sum(l:List Smp):((pcs l).map List.length).sum=l.length:=by
 have:=congrArg List.length (pcs_flat l);rw [List.length_flatten] at this;exact this
def cntL(x:List UInt8):List UInt8:=uintL x.length++x
def pcL(p:List Smp):List UInt8:=cntL (encL p)
def serL(l:List Smp):List UInt8:=uintL (pcs l).length++(pcs l).flatMap pcL
def magL:List UInt8:=[71,66,75,49]
def bodyL(S:List Ser):List UInt8:=cntL (ixBytes (blSets S))++S.flatMap fun s=>serL s.2
def frontL(S:List Ser):List UInt8:=magL++bodyL S
def blL(S:List Ser):List UInt8:=frontL S++le4 (sumN (frontL S))
theorem le4_len(s:Nat):(le4 s).length=4:=rfl
theorem cntL_len(x:List UInt8)(h:x.length<9223372036854775808):(cntL x).length<=x.length+9:=by
 unfold cntL;rw [List.length_append];have:=uintL_9 h;omega
theorem pcL_len{p:List Smp}(h:chk p=0):(pcL p).length<=3009:=by
 have h1:=enc_few h;have:=cntL_len (encL p) (by omega);unfold pcL;omega
theorem pcs_chk{l:List Smp}(h:Ch.Good l){p:List Smp}(hp:p∈pcs l):chk p=0:=by
 have h1:=pcs_ok _ l none (Nat.le_refl _) h fun _=>trivial
 have key:∀(ps:List (List Smp)) (last:Option (List Smp)),PcsOk last ps->∀p∈ps,chk p=0:=by
  intro ps
  induction ps with
  | nil=>intro _ _ p hp;cases hp
  | cons q r ih =>
    intro last h p hp;rcases List.mem_cons.1 hp with rfl|hp
    ·exact h.1
    ·exact ih _ h.2.2 p hp
 exact key _ _ h1 p hp
theorem nPc_le(l:List Smp):nPc l<=l.length:=by unfold nPc;omega
theorem serL_len{l:List Smp}(h:Ch.Good l)(hl:l.length<=65536):(serL l).length<=9+3009*l.length:=by
 unfold serL;rw [List.length_append];have h1:=nPc_le l;have h2:(uintL (pcs l).length).length<=9:=uintL_9 (by rw [pcs_len];omega);have h3:=flat_le pcL 3009 (pcs l) fun p hp=>pcL_len (pcs_chk h hp)
 rw [pcs_len] at h3;have:=Nat.mul_le_mul_left 3009 h1;omega
theorem sers_len:∀(S:List Ser),(∀s∈S,s.2≠[]/\Ch.Good s.2)->cntS S<=65536->(S.flatMap fun s=>serL s.2).length<=9*S.length+3009*cntS S:=by
 intro S
 induction S with
 | nil=>intro _ _;simp
 | cons s r ih =>
   intro h hc;unfold cntS at hc ⊢;rw [List.flatMap_cons,List.length_append,List.length_cons];have h1:=ih (fun x hx=>h x (List.mem_cons_of_mem _ hx)) (by omega);have h2:=serL_len (h s (by simp)).2 (by omega);omega
theorem front_len{S:List Ser}(h:blChk S=0):(frontL S).length<=300000000:=by
 obtain ⟨h1,h2,h3,h4⟩:=blChk_zero.1 h;unfold frontL bodyL;rw [List.length_append,List.length_append];have k1:=bytes_len h3;have k2:=cntL_len (ixBytes (blSets S)) (by omega);have k3:=sers_len S h4 h2;have k4:magL.length=4:=rfl;omega
theorem bl_len{S:List Ser}(h:blChk S=0):(blL S).length=(frontL S).length+4:=by
 unfold blL;rw [List.length_append,le4_len]
inductive NumO(b:List UInt8):Option (Nat × List UInt8)->Prop
 | yes {n nx:Nat} (h:GU b 0 n nx 0):NumO b (some (n,b.drop nx))
 | no {n nx e:Nat} (h:GU b 0 n nx e) (he:e≠0):NumO b none
theorem numO_total(b:List UInt8):∃o,NumO b o:=by
 obtain ⟨n,nx,e,h⟩:=gu_total b 0 (Nat.zero_le _)
 by_cases he:e=0
 ·subst he;exact ⟨_,.yes h⟩
 ·exact ⟨_,.no h he⟩
theorem numO_back(n:Nat)(r:List UInt8)(hn:n<9223372036854775808):NumO (uintL n++r) (some (n,r)):=by
 have h:=gu_of [] r n hn;rw [List.nil_append,List.length_nil,Nat.zero_add] at h;have:=NumO.yes h;rw [List.drop_left] at this;exact this
theorem numO_sound{b r:List UInt8}{n:Nat}(h:NumO b (some (n,r))):b=uintL n++r:=by
 generalize ho:some (n,r)=o at h
 cases h with
 | @yes m nx h =>
   injection ho with ho;injection ho with h1 h2;subst h1 h2;obtain ⟨h3,h4⟩:=gu_bytes h;rw [List.drop_zero,Nat.sub_zero] at h3;rw [h3,List.take_append_drop]
 | no h he=>cases ho
inductive CntO(b:List UInt8):Option (List UInt8 × List UInt8)->Prop
 | no (h:NumO b none):CntO b none
 | short {n:Nat} {r:List UInt8} (h:NumO b (some (n,r))) (hr:r.length<n):CntO b none
 | yes {n:Nat} {r:List UInt8} (h:NumO b (some (n,r))) (hr:n<=r.length):CntO b (some (r.take n,r.drop n))
theorem cntO_total(b:List UInt8):∃o,CntO b o:=by
 obtain ⟨o,h⟩:=numO_total b;rcases o with _|⟨n,r⟩
 ·exact ⟨_,.no h⟩
 ·rcases Nat.lt_or_ge r.length n with hr|hr
  ·exact ⟨_,.short h hr⟩
  ·exact ⟨_,.yes h hr⟩
theorem cntO_back(x r:List UInt8)(hn:x.length<9223372036854775808):CntO (cntL x++r) (some (x,r)):=by
 unfold cntL;rw [List.append_assoc];have:=CntO.yes (numO_back x.length (x++r) hn) (by rw [List.length_append];omega);rw [List.take_left,List.drop_left] at this;exact this
theorem cntO_sound{b x r:List UInt8}(h:CntO b (some (x,r))):b=cntL x++r:=by
 generalize ho:some (x,r)=o at h
 cases h with
 | no h=>cases ho
 | short h hr=>cases ho
 | @yes n s h hr =>
   injection ho with ho;injection ho with h1 h2;subst h1 h2;have:=numO_sound h;unfold cntL;rw [this,List.length_take,Nat.min_eq_left hr,List.append_assoc,List.take_append_drop]
inductive PcO:Nat->Option (List Smp)->List UInt8->Option (List (List Smp) × List UInt8)->Prop
 | done (last:Option (List Smp)) (b:List UInt8):PcO 0 last b (some ([],b))
 | noCnt {n:Nat} {last:Option (List Smp)} {b:List UInt8} (h:CntO b none):PcO (n+1) last b none
 | noChunk {n:Nat} {last:Option (List Smp)} {b c r:List UInt8} (h:CntO b (some (c,r))) (hc:NoChunk c):PcO (n+1) last b none
 | noLink {n:Nat} {last:Option (List Smp)} {b c r:List UInt8} {p:List Smp} (h:CntO b (some (c,r))) (hp:chk p=0) (hc:encL p=c) (hk:¬Link last p):PcO (n+1) last b none
 | noMore {n:Nat} {last:Option (List Smp)} {b c r:List UInt8} {p:List Smp} (h:CntO b (some (c,r))) (hp:chk p=0) (hc:encL p=c) (hk:Link last p) (hm:PcO n (some p) r none):PcO (n+1) last b none
 | more {n:Nat} {last:Option (List Smp)} {b c r r':List UInt8} {p:List Smp} {ps:List (List Smp)} (h:CntO b (some (c,r))) (hp:chk p=0) (hc:encL p=c) (hk:Link last p) (hm:PcO n (some p) r (some (ps,r'))):PcO (n+1) last b (some (p::ps,r'))
theorem pcO_total:∀(n:Nat) (last:Option (List Smp)) (b:List UInt8),∃o,PcO n last b o:=by
 intro n
 induction n with
 | zero=>intro last b;exact ⟨_,.done last b⟩
 | succ n ih =>
   intro last b;obtain ⟨o,h⟩:=cntO_total b;rcases o with _|⟨c,r⟩
   ·exact ⟨_,.noCnt h⟩
   ·rcases chunk_or c with ⟨p,hp,hc⟩|hno
    ·by_cases hk:Link last p
     ·obtain ⟨o,hm⟩:=ih (some p) r;rcases o with _|⟨ps,r'⟩
      ·exact ⟨_,.noMore h hp hc hk hm⟩
      ·exact ⟨_,.more h hp hc hk hm⟩
     ·exact ⟨_,.noLink h hp hc hk⟩
    ·exact ⟨_,.noChunk h hno⟩
theorem pcO_back:∀(ps:List (List Smp)) (last:Option (List Smp)) (r:List UInt8),PcsOk last ps->PcO ps.length last (ps.flatMap pcL++r) (some (ps,r)):=by
 intro ps
 induction ps with
 | nil=>intro last r _;exact .done last r
 | cons p q ih =>
   intro last r h;rw [List.flatMap_cons,List.append_assoc,List.length_cons];have:=enc_few h.1;exact .more (cntO_back (encL p) _ (by omega)) h.1 rfl h.2.1 (ih _ _ h.2.2)
theorem pcO_sound:∀(n:Nat) (last:Option (List Smp)) (b:List UInt8) (ps:List (List Smp)) (r:List UInt8),PcO n last b (some (ps,r))->ps.length=n/\PcsOk last ps/\b=ps.flatMap pcL++r:=by
 intro n
 induction n with
 | zero =>
   intro last b ps r h
   cases h
   exact ⟨rfl,trivial,rfl⟩
 | succ n ih =>
   intro last b ps r h
   cases h with
   | more h hp hc hk hm =>
     obtain ⟨h1,h2,h3⟩:=ih _ _ _ _ hm;refine ⟨by rw [List.length_cons,h1],⟨hp,hk,h2⟩,?_⟩;rw [cntO_sound h,h3,List.flatMap_cons,List.append_assoc,<-hc];rfl
inductive SerO(b:List UInt8):Option (List (List Smp) × List UInt8)->Prop
 | noNum (h:NumO b none):SerO b none
 | noPcs {n:Nat} {r:List UInt8} (h:NumO b (some (n,r))) (hp:PcO n none r none):SerO b none
 | empty {n:Nat} {r r':List UInt8} (h:NumO b (some (n,r))) (hp:PcO n none r (some ([],r'))):SerO b none
 | yes {n:Nat} {r r':List UInt8} {ps:List (List Smp)} (h:NumO b (some (n,r))) (hp:PcO n none r (some (ps,r'))) (hps:ps≠[]):SerO b (some (ps,r'))
theorem serO_total(b:List UInt8):∃o,SerO b o:=by
 obtain ⟨o,h⟩:=numO_total b;rcases o with _|⟨n,r⟩
 ·exact ⟨_,.noNum h⟩
 ·obtain ⟨o,hp⟩:=pcO_total n none r;rcases o with _|⟨ps,r'⟩
  ·exact ⟨_,.noPcs h hp⟩
  ·by_cases hps:ps=[]
   ·subst hps;exact ⟨_,.empty h hp⟩
   ·exact ⟨_,.yes h hp hps⟩
theorem serO_back{l:List Smp}(r:List UInt8)(hl:l≠[])(hg:Ch.Good l)(h64:l.length<=65536):SerO (serL l++r) (some (pcs l,r)):=by
 unfold serL;rw [List.append_assoc];have:=nPc_le l;refine .yes (numO_back _ _ (by rw [pcs_len];omega)) (pcO_back _ none r (pcs_ok _ l none (Nat.le_refl _) hg fun _=>trivial)) ?_;rw [pcs_step hl];exact List.cons_ne_nil _ _
theorem serO_sound{b r:List UInt8}{ps:List (List Smp)}(h:SerO b (some (ps,r))):ps.flatten≠[]/\Ch.Good ps.flatten/\pcs ps.flatten=ps/\b=serL ps.flatten++r:=by
 generalize ho:some (ps,r)=o at h
 cases h with
 | noNum h=>cases ho
 | noPcs h hp=>cases ho
 | empty h hp=>cases ho
 | yes h hp hps =>
   injection ho with ho;injection ho with h1 h2;subst h1 h2;obtain ⟨h1,h2,h3⟩:=pcO_sound _ _ _ _ _ hp;obtain ⟨h4,h5⟩:=ok_join _ _ h2;refine ⟨?_,h4,h5,?_⟩
   ·intro e;rw [e,pcs_nil] at h5;exact hps h5.symm
   ·unfold serL;rw [h5,h1,List.append_assoc,<-h3];exact numO_sound h
inductive SsO':Nat->List UInt8->Option (List (List (List Smp)) × List UInt8)->Prop
 | done (b:List UInt8):SsO' 0 b (some ([],b))
 | no {n:Nat} {b:List UInt8} (h:SerO b none):SsO' (n+1) b none
 | noMore {n:Nat} {b r:List UInt8} {ps:List (List Smp)} (h:SerO b (some (ps,r))) (hm:SsO' n r none):SsO' (n+1) b none
 | more {n:Nat} {b r r':List UInt8} {ps:List (List Smp)} {Q:List (List (List Smp))} (h:SerO b (some (ps,r))) (hm:SsO' n r (some (Q,r'))):SsO' (n+1) b (some (ps::Q,r'))
theorem ssO'_total:∀(n:Nat) (b:List UInt8),∃o,SsO' n b o:=by
 intro n
 induction n with
 | zero=>intro b;exact ⟨_,.done b⟩
 | succ n ih =>
   intro b;obtain ⟨o,h⟩:=serO_total b;rcases o with _|⟨ps,r⟩
   ·exact ⟨_,.no h⟩
   ·obtain ⟨o,hm⟩:=ih r;rcases o with _|⟨Q,r'⟩
    ·exact ⟨_,.noMore h hm⟩
    ·exact ⟨_,.more h hm⟩
theorem ssO'_back:∀(S:List Ser) (r:List UInt8),(∀s∈S,s.2≠[]/\Ch.Good s.2)->cntS S<=65536->SsO' S.length ((S.flatMap fun s=>serL s.2)++r) (some (S.map fun s=>pcs s.2,r)):=by
 intro S
 induction S with
 | nil=>intro r _ _;exact .done r
 | cons s q ih =>
   intro r h hc;unfold cntS at hc;rw [List.flatMap_cons,List.append_assoc,List.length_cons,List.map_cons];obtain ⟨h1,h2⟩:=h s (by simp);exact .more (serO_back _ h1 h2 (by omega)) (ih r (fun x hx=>h x (List.mem_cons_of_mem _ hx)) (by omega))
theorem ssO'_sound:∀(n:Nat) (b:List UInt8) (Q:List (List (List Smp))) (r:List UInt8),SsO' n b (some (Q,r))->Q.length=n/\(∀ps∈Q,ps.flatten≠[]/\Ch.Good ps.flatten/\pcs ps.flatten=ps)/\b=(Q.flatMap fun ps=>serL ps.flatten)++r:=by
 intro n
 induction n with
 | zero =>
   intro b Q r h
   cases h
   exact ⟨rfl,by simp,rfl⟩
 | succ n ih =>
   intro b Q r h
   cases h with
   | more h hm =>
     obtain ⟨h1,h2,h3⟩:=ih _ _ _ hm;obtain ⟨k1,k2,k3,k4⟩:=serO_sound h;refine ⟨by rw [List.length_cons,h1],?_,?_⟩
     ·intro x hx;rcases List.mem_cons.1 hx with rfl|hx
      ·exact ⟨k1,k2,k3⟩
      ·exact h2 x hx
     ·rw [k4,h3,List.flatMap_cons,List.append_assoc]
def cntP(ps:List (List Smp)):Nat:=(ps.map List.length).sum
def cntQ(Q:List (List (List Smp))):Nat:=(Q.map cntP).sum
inductive BlO(b:List UInt8):Option (List (List Lbl) × List (List (List Smp)))->Prop
 | short (h:b.length<4):BlO b none
 | noSum (h:4<=b.length) (hs:b.drop (b.length-4)≠le4 (sumN (b.take (b.length-4)))):BlO b none
 | noMag {f:List UInt8} (h:4<=b.length) (hf:b.take (b.length-4)=f) (hs:b.drop (b.length-4)=le4 (sumN f)) (hm:f.length<4\/f.take 4≠magL):BlO b none
 | noCnt {f:List UInt8} (h:4<=b.length) (hf:b.take (b.length-4)=f) (hs:b.drop (b.length-4)=le4 (sumN f)) (h4:4<=f.length) (hm:f.take 4=magL) (hc:CntO (f.drop 4) none):BlO b none
 | noIdx {f x r:List UInt8} (h:4<=b.length) (hf:b.take (b.length-4)=f) (hs:b.drop (b.length-4)=le4 (sumN f)) (h4:4<=f.length) (hm:f.take 4=magL) (hc:CntO (f.drop 4) (some (x,r))) (hx:∀ss,ixChk ss=0->ixBytes ss≠x):BlO b none
 | noSer {f x r:List UInt8} {ss:List (List Lbl)} (h:4<=b.length) (hf:b.take (b.length-4)=f) (hs:b.drop (b.length-4)=le4 (sumN f)) (h4:4<=f.length) (hm:f.take 4=magL) (hc:CntO (f.drop 4) (some (x,r))) (h0:ixChk ss=0) (hx:ixBytes ss=x) (hq:SsO' ss.length r none):BlO b none
 | noEnd {f x r r':List UInt8} {ss:List (List Lbl)} {Q:List (List (List Smp))} (h:4<=b.length) (hf:b.take (b.length-4)=f) (hs:b.drop (b.length-4)=le4 (sumN f)) (h4:4<=f.length) (hm:f.take 4=magL) (hc:CntO (f.drop 4) (some (x,r))) (h0:ixChk ss=0) (hx:ixBytes ss=x) (hq:SsO' ss.length r (some (Q,r'))) (he:r'≠[]\/65536<cntQ Q):BlO b none
 | yes {f x r:List UInt8} {ss:List (List Lbl)} {Q:List (List (List Smp))} (h:4<=b.length) (hf:b.take (b.length-4)=f) (hs:b.drop (b.length-4)=le4 (sumN f)) (h4:4<=f.length) (hm:f.take 4=magL) (hc:CntO (f.drop 4) (some (x,r))) (h0:ixChk ss=0) (hx:ixBytes ss=x) (hq:SsO' ss.length r (some (Q,[]))) (he:cntQ Q<=65536):BlO b (some (ss,Q))
def zipS(ss:List (List Lbl))(Q:List (List (List Smp))):List Ser:=ss.zip (Q.map List.flatten)
theorem zipS_sets:∀(ss:List (List Lbl)) (Q:List (List (List Smp))),Q.length=ss.length->blSets (zipS ss Q)=ss:=by
 intro ss Q h;unfold blSets zipS;exact List.map_fst_zip (by rw [List.length_map];omega)
theorem zipS_pcs:∀(ss:List (List Lbl)) (Q:List (List (List Smp))),Q.length=ss.length->(zipS ss Q).map (·.2)=Q.map List.flatten:=by
 intro ss Q h;unfold zipS;exact List.map_snd_zip (by rw [List.length_map];omega)
theorem cntS_map:∀(S:List Ser),cntS S=(S.map fun s=>s.2.length).sum:=by
 intro S
 induction S with
 | nil=>rfl
 | cons s r ih=>rw [cntS,ih,List.map_cons,List.sum_cons]
theorem cntP_flat(ps:List (List Smp)):cntP ps=ps.flatten.length:=by rw [List.length_flatten];rfl
theorem zipS_cnt(ss:List (List Lbl))(Q:List (List (List Smp)))(h:Q.length=ss.length):cntS (zipS ss Q)=cntQ Q:=by
 rw [cntS_map,show (zipS ss Q).map (fun s=>s.2.length)=((zipS ss Q).map (·.2)).map List.length by rw [List.map_map];rfl,zipS_pcs ss Q h,List.map_map];unfold cntQ
 congr 1
 apply List.map_congr_left
 intro ps _;exact (cntP_flat ps).symm
theorem blO_sound{b:List UInt8}{ss:List (List Lbl)}{Q:List (List (List Smp))}(h:BlO b (some (ss,Q))):
 blChk (zipS ss Q)=0/\blL (zipS ss Q)=b/\blSets (zipS ss Q)=ss/\Q=(zipS ss Q).map fun s=>pcs s.2:=by
 generalize ho:some (ss,Q)=o at h
 cases h with
 | short h=>cases ho
 | noSum h hs=>cases ho
 | noMag h hf hs hm=>cases ho
 | noCnt h hf hs h4 hm hc=>cases ho
 | noIdx h hf hs h4 hm hc hx=>cases ho
 | noSer h hf hs h4 hm hc h0 hx hq=>cases ho
 | noEnd h hf hs h4 hm hc h0 hx hq he=>cases ho
 | @yes f x r ss' Q' h hf hs h4 hm hc h0 hx hq he =>
   injection ho with ho;injection ho with h1 h2;subst h1 h2;obtain ⟨k1,k2,k3⟩:=ssO'_sound _ _ _ _ hq;have e1:=zipS_sets ss Q k1;have e2:=zipS_pcs ss Q k1;have e3:Q=(zipS ss Q).map fun s=>pcs s.2:=by
    rw [show (zipS ss Q).map (fun s=>pcs s.2)=((zipS ss Q).map (·.2)).map pcs by rw [List.map_map];rfl,e2,List.map_map]
    conv=>lhs;rw [<-List.map_id Q]
    apply List.map_congr_left
    intro ps hps;exact (k2 ps hps).2.2.symm
   have hS:∀s∈zipS ss Q,s.2≠[]/\Ch.Good s.2:=by
    intro s hs;have:s.2∈Q.map List.flatten:=by rw [<-e2];exact List.mem_map_of_mem hs
    obtain ⟨ps,hps,e⟩:=List.mem_map.1 this;rw [<-e];exact ⟨(k2 ps hps).1,(k2 ps hps).2.1⟩
   have hlen:(zipS ss Q).length=ss.length:=by
    have:=congrArg List.length e1;unfold blSets at this;rw [List.length_map] at this;exact this
   refine ⟨blChk_zero.2 ⟨by rw [hlen];exact (ixChk_right h0).1,by rw [zipS_cnt ss Q k1];exact he,by rw [e1];exact h0,hS⟩,?_,e1,e3⟩;have hbody:bodyL (zipS ss Q)=f.drop 4:=by
    rw [cntO_sound hc,k3,List.append_nil];unfold bodyL;rw [e1,hx]
    congr 1
    rw [show (zipS ss Q).flatMap (fun s=>serL s.2)=((zipS ss Q).map (·.2)).flatMap serL by rw [List.flatMap_map],e2,List.flatMap_map]
   have hfr:frontL (zipS ss Q)=f:=by
    unfold frontL;rw [hbody,<-hm,List.take_append_drop]
   unfold blL;rw [hfr,<-hs,<-hf,List.take_append_drop]
theorem blO_back{S:List Ser}(h:blChk S=0):BlO (blL S) (some (blSets S,S.map fun s=>pcs s.2)):=by
 obtain ⟨h1,h2,h3,h4⟩:=blChk_zero.1 h;have hl:=bl_len h;have hd:(blL S).length-4=(frontL S).length:=by omega
 have ht:(blL S).take ((blL S).length-4)=frontL S:=by rw [hd];unfold blL;exact List.take_left
 have hdr:(blL S).drop ((blL S).length-4)=le4 (sumN (frontL S)):=by rw [hd];unfold blL;exact List.drop_left
 have h5:(frontL S).take 4=magL:=by unfold frontL;exact List.take_left' rfl
 have h6:(frontL S).drop 4=bodyL S:=by unfold frontL;exact List.drop_left' rfl
 have h7:4<=(frontL S).length:=by unfold frontL;rw [List.length_append];show 4<=4+_;omega
 have k1:=bytes_len h3;refine .yes (by omega) ht hdr h7 h5 (by rw [h6];exact cntO_back _ _ (by omega)) h3 rfl ?_ ?_
 ·have:=ssO'_back S [] h4 h2;rw [List.append_nil] at this;unfold blSets;rw [List.length_map];exact this
 ·unfold cntQ;rw [List.map_map,show (S.map (cntP∘fun s=>pcs s.2))=S.map (fun s=>s.2.length) from List.map_congr_left fun s _=>pcs_sum s.2,<-cntS_map];exact h2
theorem blO_total(b:List UInt8):∃o,BlO b o:=by
 by_cases h:b.length<4
 ·exact ⟨_,.short h⟩
 ·have h:4<=b.length:=by omega
  obtain ⟨f,hf⟩:∃f,b.take (b.length-4)=f:=⟨_,rfl⟩
  by_cases hs:b.drop (b.length-4)=le4 (sumN f)
  ·by_cases hm:f.length<4\/f.take 4≠magL
   ·exact ⟨_,.noMag h hf hs hm⟩
   ·have h4:4<=f.length:=by
     rcases Nat.lt_or_ge f.length 4 with k|k
     ·exact absurd (.inl k) hm
     ·exact k
    have hm:f.take 4=magL:=Classical.byContradiction fun k=>hm (.inr k)
    obtain ⟨o,hc⟩:=cntO_total (f.drop 4);rcases o with _|⟨x,r⟩
    ·exact ⟨_,.noCnt h hf hs h4 hm hc⟩
    ·by_cases hx:∃ss,ixChk ss=0/\ixBytes ss=x
     ·obtain ⟨ss,h0,hx⟩:=hx;obtain ⟨o,hq⟩:=ssO'_total ss.length r;rcases o with _|⟨Q,r'⟩
      ·exact ⟨_,.noSer h hf hs h4 hm hc h0 hx hq⟩
      ·by_cases he:r'≠[]\/65536<cntQ Q
       ·exact ⟨_,.noEnd h hf hs h4 hm hc h0 hx hq he⟩
       ·obtain rfl:r'=[]:=Classical.byContradiction fun k=>he (.inl k)
        exact ⟨_,.yes h hf hs h4 hm hc h0 hx hq (by rcases Nat.lt_or_ge 65536 (cntQ Q) with k|k;exact absurd (.inr k) he;exact k)⟩
     ·exact ⟨_,.noIdx h hf hs h4 hm hc fun ss h1 h2=>hx ⟨ss,h1,h2⟩⟩
  ·exact ⟨_,.noSum h (by rw [hf];exact hs)⟩
end Go.Proofs.YtgdmcnoogacdaaaGreatDoor
