/- In one text, written by lotify.py: ChMath, ChSmp, ChCheck, ChRef1, ChCut1. -/
import Derived.Test.YtgdmcnoogacdaaaGreatDoorBlLotB
import Derived.Test.YtgdmcnoogacdaaaGreatDoorBlLotC
import Derived.RangeFuncBox
import Derived.RangeFuncCalls
import Derived.Shelf.RegionOpen
import Derived.OwnWalkIn
import Derived.LoopNIn
import Derived.LoopIn
namespace Go.Proofs.YtgdmcnoogacdaaaGreatDoor.Ch
set_option linter.unusedVariables false
def putNs:List UInt8 × Nat->List Nat->List UInt8 × Nat
 | s,[]=>s
 | s,u::us=>putNs (numL s.1 s.2 u,s.2+(7+digs u)) us
def endN:Nat->List Nat->Nat
 | p,[]=>p
 | p,u::us=>endN (p+(7+digs u)) us
def Stand(b:List UInt8):Nat->List Nat->Prop
 | _,[]=>True
 | p,u::us=>Has b p u/\p+(7+digs u)<=8*b.length/\u<=18446744073709551615/\Stand b (p+(7+digs u)) us
theorem putNs_snoc(us:List Nat)(u:Nat):∀s,putNs s (us++[u])=(numL (putNs s us).1 (putNs s us).2 u,(putNs s us).2+(7+digs u)):=by
 induction us with
 | nil=>intro s;rfl
 | cons x r ih=>intro s;exact ih _
theorem endN_app(us vs:List Nat):∀p,endN p (us++vs)=endN (endN p us) vs:=by
 induction us with
 | nil=>intro p;rfl
 | cons x r ih=>intro p;exact ih _
theorem stand_app{b:List UInt8}{vs:List Nat}(us:List Nat):∀p,Stand b p (us++vs)↔Stand b p us/\Stand b (endN p us) vs:=by
 induction us with
 | nil=>intro p;exact ⟨fun h=>⟨trivial,h⟩,fun h=>h.2⟩
 | cons x r ih =>
   intro p;simp only [List.cons_append,Stand,ih,endN];exact ⟨fun ⟨a,b,c,d,e⟩=>⟨⟨a,b,c,d⟩,e⟩,fun ⟨⟨a,b,c,d⟩,e⟩=>⟨a,b,c,d,e⟩⟩
theorem putNs_end(us:List Nat):∀s,(putNs s us).2=endN s.2 us:=by
 induction us with
 | nil=>intro s;rfl
 | cons x r ih=>intro s;exact ih _
theorem endN_le(us:List Nat):∀p,p<=endN p us:=by
 induction us with
 | nil=>intro p;exact Nat.le_refl _
 | cons x r ih =>
   intro p;have:=ih (p+(7+digs x))
   show p<=endN (p+(7+digs x)) r
   omega
theorem endN_few(us:List Nat):∀p,(∀u∈us,u<=18446744073709551615)->endN p us<=p+71*us.length:=by
 induction us with
 | nil=>intro p _;exact Nat.le_refl _
 | cons x r ih =>
   intro p h;have h1:=ih (p+(7+digs x)) (fun u hu=>h u (List.mem_cons_of_mem _ hu));have h2:=digs_64 (h x List.mem_cons_self)
   show endN (p+(7+digs x)) r<=_
   rw [List.length_cons];omega
theorem putNs_right(us:List Nat):∀s,rightB s.1 (s.2:Int)=true->rightB (putNs s us).1 ((putNs s us).2:Int)=true:=by
 induction us with
 | nil=>intro s h;exact h
 | cons x r ih=>intro s _;exact ih _ (right_num _ _ _)
theorem putNs_old(us:List Nat):∀s j,j<s.2->bitN (putNs s us).1 j=bitN s.1 j:=by
 induction us with
 | nil=>intro s j _;rfl
 | cons x r ih =>
   intro s j hj;have h1:=ih (numL s.1 s.2 x,s.2+(7+digs x)) j (by show j<s.2+(7+digs x);omega)
   show bitN (putNs (numL s.1 s.2 x,s.2+(7+digs x)) r).1 j=_
   rw [h1]
   show bitN (numL s.1 s.2 x) j=_
   rw [bit_num (by omega),numF_old hj]
theorem has_bits{b:List UInt8}{l:List UInt8}{p u:Nat}(h:Has b p u)(ho:∀j,j<p->bitN b j=bitN l j):∀j,j<p+(7+digs u)->bitN b j=bitN (numL l p u) j:=by
 intro j hj;rw [bit_num hj]
 by_cases h1:j<p
 ·rw [numF_old h1,ho j h1]
 ·by_cases h2:j<p+7
  ·have e1:=h.1 (j-p) (by omega);have e2:=numF_len (l:=l) (N:=p) (u:=u) (j:=j-p) (by omega);rw [show p+(j-p)=j from by omega] at e1 e2;rw [e1,e2]
  ·have e1:=h.2 (j-(p+7)) (by omega);have e2:=numF_num (l:=l) (N:=p) (u:=u) (j:=j-(p+7)) (by omega);rw [show p+7+(j-(p+7))=j from by omega] at e1 e2;rw [e1,e2]
theorem has_of_bits{b:List UInt8}{l:List UInt8}{p u:Nat}(h:∀j,j<p+(7+digs u)->bitN b j=bitN (numL l p u) j):Has b p u:=by
 have:=has_num l p u;exact ⟨fun j hj=>(h _ (by omega)).trans (this.1 j hj),fun j hj=>(h _ (by omega)).trans (this.2 j hj)⟩
theorem stand_bits{b:List UInt8}(us:List Nat):∀s,Stand b s.2 us->(∀j,j<s.2->bitN b j=bitN s.1 j)->∀j,j<endN s.2 us->bitN b j=bitN (putNs s us).1 j:=by
 induction us with
 | nil=>intro s _ ho j hj;exact ho j hj
 | cons x r ih =>
   intro s hs ho j hj;obtain ⟨h1,_,_,h2⟩:=hs;exact ih (numL s.1 s.2 x,s.2+(7+digs x)) h2 (has_bits h1 ho) j hj
theorem bits_stand{b:List UInt8}(us:List Nat):∀s,(∀u∈us,u<=18446744073709551615)->endN s.2 us<=8*b.length->(∀j,j<endN s.2 us->bitN b j=bitN (putNs s us).1 j)->Stand b s.2 us:=by
 induction us with
 | nil=>intro s _ _ _;trivial
 | cons x r ih =>
   intro s hm hl hb;have h1:=endN_le r (s.2+(7+digs x));have he:endN s.2 (x::r)=endN (s.2+(7+digs x)) r:=rfl;have h2:∀j,j<s.2+(7+digs x)->bitN b j=bitN (numL s.1 s.2 x) j:=by
    intro j hj;rw [hb j (by omega)];exact putNs_old r (numL s.1 s.2 x,s.2+(7+digs x)) j hj
   exact ⟨has_of_bits h2,by omega,hm x List.mem_cons_self,ih (numL s.1 s.2 x,s.2+(7+digs x)) (fun u hu=>hm u (List.mem_cons_of_mem _ hu)) hl hb⟩
theorem has_one{b:List UInt8}{p u v:Nat}(h1:Has b p u)(h2:Has b p v)(hu:u<=18446744073709551615)(hv:v<=18446744073709551615):u=v:=by
 have d1:=digs_64 hu;have d2:=digs_64 hv;have e1:getN b p 7=digs u:=getN_of_dig (by omega) h1.1;have e2:getN b p 7=digs v:=getN_of_dig (by omega) h2.1;have ed:digs u=digs v:=e1.symm.trans e2;have f1:getN b (p+7) (digs u)=u:=getN_of_dig (digs_le.1 (Nat.le_refl _)) h1.2;have f2:getN b (p+7) (digs v)=v:=getN_of_dig (digs_le.1 (Nat.le_refl _)) h2.2;rw [<-ed] at f2;exact f1.symm.trans f2
def encN(us:List Nat):List UInt8:=(putNs ([],0) us).1
theorem right_nil:rightB [] ((0:Nat):Int)=true:=by decide +kernel
theorem encN_right(us:List Nat):rightB (encN us) (endN 0 us:Int)=true:=by
 have:=putNs_right us ([],0) right_nil;rw [putNs_end] at this;exact this
theorem encN_len(us:List Nat):(encN us).length=(endN 0 us+7)/8:=by
 have:=(rightB_iff.1 (encN_right us)).2.1;rw [Int.toNat_natCast] at this;exact this
theorem encN_stand{us:List Nat}(h:∀u∈us,u<=18446744073709551615):Stand (encN us) 0 us :=
 bits_stand us ([],0) h (by have:=encN_len us;show endN 0 us<=_;omega) (fun j hj=>rfl)
theorem stand_whole{b:List UInt8}{us:List Nat}(hs:Stand b 0 us)(hr:rightB b (endN 0 us:Int)=true):b=encN us:=by
 obtain ⟨_,h1,h2⟩:=rightB_iff.1 hr;obtain ⟨_,g1,g2⟩:=rightB_iff.1 (encN_right us);rw [Int.toNat_natCast] at h1 h2 g1 g2;refine bits_ext (h1.trans g1.symm) fun i _=>?_
 by_cases h:i<endN 0 us
 ·exact stand_bits us ([],0) hs (fun j hj=>by simp at hj) i h
 ·rw [h2 i (by omega),g2 i (by omega)]
theorem right_all(b:List UInt8):rightB b ((8*b.length:Nat):Int)=true:=right_whole (by omega) (by omega)
theorem stand_read{b:List UInt8}{p u:Nat}{us:List Nat}(h:Stand b p (u::us)):gnum b ((8*b.length:Nat):Int) p=(u,((p+(7+digs u):Nat):Int),0) :=
 gnum_has (right_all b) h.1 h.2.2.1 h.2.1
theorem read_stand{b:List UInt8}{p:Nat}(hp:p<=8*b.length):(∃code:Int,(code !=0)=true/\gnum b ((8*b.length:Nat):Int) p=(0,0,code)) \/
 ∃u:Nat,Stand b p [u]/\gnum b ((8*b.length:Nat):Int) p=(u,((p+(7+digs u):Nat):Int),0):=by
 have hr:=right_all b;have hbad:¬(rightB b ((8*b.length:Nat):Int)=false\/(p:Int)<0\/((8*b.length:Nat):Int)<(p:Int)):=by
  rw [hr];simp;omega
 by_cases h2:((8*b.length:Nat):Int)-(p:Int)<7
 ·exact .inl ⟨4,by decide,by unfold gnum;rw [if_neg hbad,if_pos h2]⟩
 by_cases h3:64<getN b p 7
 ·exact .inl ⟨5,by decide,by unfold gnum;rw [if_neg hbad,if_neg h2,Int.toNat_natCast,if_pos h3]⟩
 by_cases h4:((8*b.length:Nat):Int)-((p:Int)+7)<getN b p 7
 ·exact .inl ⟨4,by decide,by unfold gnum;rw [if_neg hbad,if_neg h2,Int.toNat_natCast,if_neg h3,if_pos h4]⟩
 by_cases h5:digs (getN b (p+7) (getN b p 7))≠getN b p 7
 ·exact .inl ⟨5,by decide,by unfold gnum;rw [if_neg hbad,if_neg h2,Int.toNat_natCast,if_neg h3,if_neg h4,if_pos h5]⟩
 have h5':digs (getN b (p+7) (getN b p 7))=getN b p 7:=by simpa using h5
 have hu:=getN_64 b (p+7) (getN b p 7) (by omega);have hs:Stand b p [getN b (p+7) (getN b p 7)]:=by
  refine ⟨⟨fun j hj=>?_,fun j hj=>?_⟩,by rw [h5'];omega,hu,trivial⟩
  ·rw [h5'];exact (dig_getN b p 7 j hj).symm
  ·rw [h5'] at hj ⊢;exact (dig_getN b (p+7) (getN b p 7) j hj).symm
 exact .inr ⟨_,hs,stand_read hs⟩
theorem bitN_front{a l:List UInt8}{i:Nat}(h:i<8*a.length):bitN (a++l) i=bitN a i:=by
 unfold bitN;rw [getD_in _ _ (by rw [List.length_append];omega),List.getElem_append_left (by omega),getD_in _ _ (by omega)]
theorem bitN_behind{a l:List UInt8}{i:Nat}:bitN (a++l) (8*a.length+i)=bitN l i:=by
 unfold bitN;rw [show (8*a.length+i)/8=a.length+i/8 from by omega,show (8*a.length+i)%8=i%8 from by omega]
 congr 2
 simp [List.getD_eq_getElem?_getD,List.getElem?_append_right]
theorem numL_front(a l:List UInt8)(n u:Nat):numL (a++l) (8*a.length+n) u=a++numL l n u:=by
 apply bits_ext
 ·rw [List.length_append,numL_length,numL_length];omega
 intro i _
 by_cases h:i<8*a.length
 ·by_cases hN:i<8*a.length+n+(7+digs u)
  ·rw [bit_num hN,numF_old (by omega),bitN_front h,bitN_front h]
  ·omega
 ·obtain ⟨j,rfl⟩:∃j,i=8*a.length+j:=⟨i-8*a.length,by omega⟩;rw [bitN_behind];have hr1:=(rightB_iff.1 (right_num (a++l) (8*a.length+n) u)).2.2;have hr2:=(rightB_iff.1 (right_num l n u)).2.2;rw [Int.toNat_natCast] at hr1 hr2
  by_cases hN:j<n+(7+digs u)
  ·by_cases h1:j<n
   ·rw [bit_num (by omega),bit_num hN,numF_old (by omega),numF_old h1,bitN_behind]
   ·by_cases h2:j<n+7
    ·have e1:=(has_num (a++l) (8*a.length+n) u).1 (j-n) (by omega);have e2:=(has_num l n u).1 (j-n) (by omega);rw [show 8*a.length+n+(j-n)=8*a.length+j from by omega] at e1;rw [show n+(j-n)=j from by omega] at e2;rw [e1,e2]
    ·have e1:=(has_num (a++l) (8*a.length+n) u).2 (j-(n+7)) (by omega);have e2:=(has_num l n u).2 (j-(n+7)) (by omega);rw [show 8*a.length+n+7+(j-(n+7))=8*a.length+j from by omega] at e1;rw [show n+7+(j-(n+7))=j from by omega] at e2;rw [e1,e2]
  ·rw [hr1 _ (by omega),hr2 _ (by omega)]
abbrev Smp:=Int × Int
def tOf(l:List Smp)(i:Nat):Int:=(l.getD i (0,0)).1
def vOf(l:List Smp)(i:Nat):Int:=(l.getD i (0,0)).2
def mayB(s:Smp):Bool:=decide (0<=s.1)&&decide (s.1<=1099511627776)&&decide (-1152921504606846976<=s.2)&&decide (s.2<=1152921504606846976)
theorem mayB_iff{s:Smp}:mayB s=true↔0<=s.1/\s.1<=1099511627776/\-1152921504606846976<=s.2/\s.2<=1152921504606846976:=by
 unfold mayB;simp only [Bool.and_eq_true,decide_eq_true_eq,and_assoc]
def errAt(l:List Smp)(i:Nat):Int:=if mayB (l.getD i (0,0))=false then 11 else if 0<i/\tOf l i<=tOf l (i-1) then 13 else 0
def errF(l:List Smp):Nat->Nat->Int
 | 0,_=>0
 | n+1,i=>if errAt l i=0 then errF l n (i+1) else errAt l i
def chk(l:List Smp):Int:=if l.length=0\/120<l.length then 2 else errF l l.length 0
def Good(l:List Smp):Prop:=∀i,i<l.length->mayB (l.getD i (0,0))=true/\(0<i->tOf l (i-1)<tOf l i)
theorem errAt_zero{l:List Smp}{i:Nat}:errAt l i=0↔mayB (l.getD i (0,0))=true/\(0<i->tOf l (i-1)<tOf l i):=by
 unfold errAt
 cases hm:mayB (l.getD i (0,0))
 ·simp
 ·simp only [Bool.true_eq_false,if_false,true_and]
  by_cases h:0<i/\tOf l i<=tOf l (i-1)
  ·rw [if_pos h];simp only [show (13:Int)=0↔False from by decide,false_iff];intro hc;have:=hc h.1;omega
  ·rw [if_neg h];simp only [true_iff];intro h0;rcases Int.lt_or_le (tOf l (i-1)) (tOf l i) with h1|h1
   ·exact h1
   ·exact absurd ⟨h0,h1⟩ h
theorem errF_zero{l:List Smp}:∀n i,errF l n i=0↔∀j,i<=j->j<i+n->errAt l j=0:=by
 intro n
 induction n with
 | zero=>intro i;exact ⟨fun _ j h1 h2=>by omega,fun _=>rfl⟩
 | succ n ih =>
   intro i;unfold errF
   by_cases h:errAt l i=0
   ·rw [if_pos h,ih (i+1)];constructor
    ·intro hk j h1 h2
     by_cases hj:j=i
     ·rw [hj];exact h
     ·exact hk j (by omega) (by omega)
    ·exact fun hk j h1 h2=>hk j (by omega) (by omega)
   ·rw [if_neg h];exact ⟨fun h0=>absurd h0 h,fun hk=>hk i (Nat.le_refl _) (by omega)⟩
theorem chk_zero{l:List Smp}:chk l=0↔0<l.length/\l.length<=120/\Good l:=by
 unfold chk
 by_cases h:l.length=0\/120<l.length
 ·rw [if_pos h];simp only [show (2:Int)=0↔False from by decide,false_iff];omega
 ·rw [if_neg h,errF_zero];constructor
  ·exact fun hk=>⟨by omega,by omega,fun i hi=>errAt_zero.1 (hk i (by omega) (by omega))⟩
  ·exact fun ⟨_,_,hk⟩ j _ hj=>errAt_zero.2 (hk j (by omega))
theorem getD_snoc_old{α:Type}(l:List α)(x d:α){i:Nat}(h:i<l.length):(l++[x]).getD i d=l.getD i d:=by
 rw [getD_in _ _ (by rw [List.length_append];omega),getD_in _ _ h,List.getElem_append_left h]
theorem getD_snoc_new{α:Type}(l:List α)(x d:α):(l++[x]).getD l.length d=x:=by
 rw [getD_in _ _ (by simp),List.getElem_append_right (Nat.le_refl _)];simp
theorem tOf_old{l:List Smp}{s:Smp}{i:Nat}(h:i<l.length):tOf (l++[s]) i=tOf l i:=by unfold tOf;rw [getD_snoc_old l s _ h]
theorem vOf_old{l:List Smp}{s:Smp}{i:Nat}(h:i<l.length):vOf (l++[s]) i=vOf l i:=by unfold vOf;rw [getD_snoc_old l s _ h]
theorem tOf_new(l:List Smp)(s:Smp):tOf (l++[s]) l.length=s.1:=by unfold tOf;rw [getD_snoc_new]
theorem vOf_new(l:List Smp)(s:Smp):vOf (l++[s]) l.length=s.2:=by unfold vOf;rw [getD_snoc_new]
theorem good_snoc{l:List Smp}{s:Smp}:Good (l++[s])↔Good l/\mayB s=true/\(0<l.length->tOf l (l.length-1)<s.1):=by
 constructor
 ·intro h;refine ⟨fun i hi=>?_,?_⟩
  ·have:=h i (by rw [List.length_append];omega);rw [getD_snoc_old l s _ hi,tOf_old hi] at this;refine ⟨this.1,fun h0=>?_⟩;have h2:=this.2 h0;rw [tOf_old (by omega)] at h2;exact h2
  ·have:=h l.length (by simp);rw [getD_snoc_new,tOf_new] at this;refine ⟨this.1,fun h0=>?_⟩;have h2:=this.2 h0;rw [tOf_old (by omega)] at h2;exact h2
 ·rintro ⟨h1,h2,h3⟩ i hi;rw [List.length_append,List.length_singleton] at hi
  by_cases he:i<l.length
  ·rw [getD_snoc_old l s _ he,tOf_old he];refine ⟨(h1 i he).1,fun h0=>?_⟩;rw [tOf_old (by omega)];exact (h1 i he).2 h0
  ·obtain rfl:i=l.length:=by omega
   rw [getD_snoc_new,tOf_new];refine ⟨h2,fun h0=>?_⟩;rw [tOf_old (by omega)];exact h3 h0
def preT(l:List Smp)(i:Nat):Int:=if i=0 then 0 else tOf l (i-1)
def preV(l:List Smp)(i:Nat):Int:=if i=0 then 0 else vOf l (i-1)
def dist(l:List Smp)(i:Nat):Int:=tOf l i-preT l i
def preD(l:List Smp)(i:Nat):Int:=if i=0 then 0 else dist l (i-1)
def tnum(l:List Smp)(i:Nat):Nat:=if i<2 then (dist l i).toNat else zig (dist l i-preD l i)
def vnum(l:List Smp)(i:Nat):Nat:=zig (vOf l i-preV l i)
def body(l:List Smp):Nat->List Nat
 | 0=>[]
 | i+1=>body l i++[tnum l i,vnum l i]
def nums(l:List Smp):List Nat:=l.length::body l l.length
def encL(l:List Smp):List UInt8:=encN (nums l)
theorem preT_old{l:List Smp}{s:Smp}{i:Nat}(h:i<=l.length):preT (l++[s]) i=preT l i:=by
 unfold preT
 split
 ·rfl
 ·exact tOf_old (by omega)
theorem preV_old{l:List Smp}{s:Smp}{i:Nat}(h:i<=l.length):preV (l++[s]) i=preV l i:=by
 unfold preV
 split
 ·rfl
 ·exact vOf_old (by omega)
theorem dist_old{l:List Smp}{s:Smp}{i:Nat}(h:i<l.length):dist (l++[s]) i=dist l i:=by
 unfold dist;rw [tOf_old h,preT_old (by omega)]
theorem preD_old{l:List Smp}{s:Smp}{i:Nat}(h:i<=l.length):preD (l++[s]) i=preD l i:=by
 unfold preD
 split
 ·rfl
 ·exact dist_old (by omega)
theorem body_old{l:List Smp}{s:Smp}:∀i,i<=l.length->body (l++[s]) i=body l i:=by
 intro i
 induction i with
 | zero=>intro _;rfl
 | succ i ih =>
   intro h;unfold body;rw [ih (by omega)]
   congr 1
   unfold tnum vnum;rw [dist_old (by omega),preD_old (by omega),vOf_old (by omega),preV_old (by omega)]
theorem body_len(l:List Smp):∀i,(body l i).length=2*i:=by
 intro i
 induction i with
 | zero=>rfl
 | succ i ih=>unfold body;rw [List.length_append,ih];simp;omega
theorem body_part(l:List Smp){i n:Nat}(h:i<n):∃r,body l n=body l i++tnum l i::vnum l i::r:=by
 induction n with
 | zero=>omega
 | succ n ih =>
   by_cases he:i=n
   ·subst he;exact ⟨[],rfl⟩
   ·obtain ⟨r,hr⟩:=ih (by omega);exact ⟨r++[tnum l n,vnum l n],by show body l n++[tnum l n,vnum l n]=_;rw [hr];simp⟩
theorem nums_snoc(l:List Smp)(s:Smp):body (l++[s]) (l.length+1)=body l l.length++[tnum (l++[s]) l.length,vnum (l++[s]) l.length]:=by
 show body (l++[s]) l.length++_=_
 rw [body_old _ (Nat.le_refl _)]
theorem zig_lt{n:Int}(h0:-9223372036854775808<=n)(h1:n<=9223372036854775807):zig n<=18446744073709551615:=by
 unfold zig
 split<;>omega
theorem zag_zig(n:Int):zag (zig n)=n:=by
 unfold zig zag
 split
 ·split<;>omega
 ·split<;>omega
theorem zig_zag(u:Nat):zig (zag u)=u:=by
 unfold zig zag
 split
 ·split<;>omega
 ·split<;>omega
theorem zag_range{u:Nat}(h:u<=18446744073709551615):-9223372036854775808<=zag u/\zag u<=9223372036854775807:=by
 unfold zag
 split<;>omega
theorem good_at{l:List Smp}(h:Good l){i:Nat}(hi:i<l.length):0<=tOf l i/\tOf l i<=1099511627776/\-1152921504606846976<=vOf l i/\vOf l i<=1152921504606846976:=mayB_iff.1 (h i hi).1
theorem good_pre{l:List Smp}(h:Good l){i:Nat}(hi:i<=l.length):0<=preT l i/\preT l i<=1099511627776/\-1152921504606846976<=preV l i/\preV l i<=1152921504606846976:=by
 unfold preT preV
 split
 ·omega
 ·exact good_at h (by omega)
theorem good_dist{l:List Smp}(h:Good l){i:Nat}(hi:i<l.length):0<=dist l i/\dist l i<=1099511627776:=by
 have h1:=good_at h hi;have h2:=good_pre h (Nat.le_of_lt hi);have h3:=(h i hi).2;unfold dist;unfold preT at h2 ⊢
 split
 ·omega
 ·rename_i h0;rw [if_neg h0] at h2;have:=h3 (by omega);omega
theorem good_preD{l:List Smp}(h:Good l){i:Nat}(hi:i<=l.length):0<=preD l i/\preD l i<=1099511627776:=by
 unfold preD
 split
 ·omega
 ·exact good_dist h (by omega)
theorem tnum_lt{l:List Smp}(h:Good l){i:Nat}(hi:i<l.length):tnum l i<=18446744073709551615:=by
 have h1:=good_dist h hi;have h2:=good_preD h (Nat.le_of_lt hi);unfold tnum
 split
 ·omega
 ·exact zig_lt (by omega) (by omega)
theorem vnum_lt{l:List Smp}(h:Good l){i:Nat}(hi:i<l.length):vnum l i<=18446744073709551615:=by
 have h1:=good_at h hi;have h2:=good_pre h (Nat.le_of_lt hi);exact zig_lt (by omega) (by omega)
theorem body_lt{l:List Smp}(h:Good l):∀i,i<=l.length->∀u∈body l i,u<=18446744073709551615:=by
 intro i
 induction i with
 | zero=>intro _ u hu;cases hu
 | succ i ih =>
   intro hi u hu;unfold body at hu;rw [List.mem_append] at hu;rcases hu with hu|hu
   ·exact ih (by omega) u hu
   ·simp only [List.mem_cons,List.not_mem_nil,or_false] at hu;rcases hu with rfl|rfl
    ·exact tnum_lt h (by omega)
    ·exact vnum_lt h (by omega)
theorem nums_lt{l:List Smp}(h:chk l=0):∀u∈nums l,u<=18446744073709551615:=by
 obtain ⟨_,h2,h3⟩:=chk_zero.1 h;intro u hu;unfold nums at hu;rcases List.mem_cons.1 hu with rfl|hu
 ·omega
 ·exact body_lt h3 _ (Nat.le_refl _) u hu
def wrp(x:Int):Int:=IntKind.i64.wrap x
def newD(n:Nat)(d:Int)(u:Nat):Int:=if n<2 then wrp u else wrp (d+zag u)
def newS(l:List Smp)(d:Int)(u v:Nat):Smp:=(wrp (preT l l.length+newD l.length d u),wrp (preV l l.length+zag v))
theorem wrp_eq(x:Int):wrp x=(x+9223372036854775808)%18446744073709551616-9223372036854775808:=by
 unfold wrp;rw [IntKind.wrap_i64]
theorem step_good{l:List Smp}{us:List Nat}{d:Int}{u v:Nat}(hu:u<=18446744073709551615)(hv:v<=18446744073709551615)
 (h:Good l->us=body l l.length/\d=preD l l.length)(hg:Good (l++[newS l d u v])):
 us++[u,v]=body (l++[newS l d u v]) (l.length+1)/\newD l.length d u=preD (l++[newS l d u v]) (l.length+1):=by
 obtain ⟨g1,g2,g3⟩:=good_snoc.1 hg;obtain ⟨rfl,rfl⟩:=h g1;have b1:=mayB_iff.1 g2;have b2:=good_pre g1 (Nat.le_refl _);have b3:=good_preD g1 (Nat.le_refl _);have z1:=zag_range hu;have z2:=zag_range hv;have hd:dist (l++[newS l (preD l l.length) u v]) l.length=(newS l (preD l l.length) u v).1-preT l l.length:=by
  unfold dist;rw [tOf_new,preT_old (Nat.le_refl _)]
 have hn:newD l.length (preD l l.length) u=dist (l++[newS l (preD l l.length) u v]) l.length:=by
  rw [hd];simp only [newS] at b1 ⊢;have hN:newD l.length (preD l l.length) u=wrp (if l.length<2 then (u:Int) else preD l l.length+zag u):=by unfold newD;split<;>rfl
  generalize newD l.length (preD l l.length) u=D at *;rw [wrp_eq] at hN;rw [wrp_eq] at b1 ⊢;omega
 refine ⟨?_,hn.trans ?_⟩
 rotate_left
 ·show _=if l.length+1=0 then 0 else dist _ (l.length+1-1)
  rw [if_neg (by omega)];rfl
 rw [nums_snoc]
 congr 1
 have e1:u=tnum (l++[newS l (preD l l.length) u v]) l.length:=by
  unfold tnum;rw [<-hn,preD_old (Nat.le_refl _)];have hr:=hn;rw [hd] at hr;unfold newD at hr ⊢;simp only [newS] at b1;unfold newD at b1
  split
  ·rename_i hl;rw [if_pos hl] at b1;have:=wrp_eq (u:Int);have:=wrp_eq (preT l l.length+wrp (u:Int));have hpos:0<=wrp (u:Int):=by
    rw [if_pos hl,newS] at hr;simp only [newD,if_pos hl] at hr
    by_cases h0:l.length=0
    ·have:preT l l.length=0:=by unfold preT;rw [if_pos h0]
     omega
    ·have:=g3 (by omega);simp only [newS,newD,if_pos hl] at this;have e:preT l l.length=tOf l (l.length-1):=by unfold preT;rw [if_neg h0]
     omega
   omega
  ·rename_i hl;rw [if_neg hl] at b1 hr;have hb:wrp (preD l l.length+zag u)=preD l l.length+zag u:=by
    have h1:=wrp_eq (preD l l.length+zag u);have h2:=wrp_eq (preT l l.length+wrp (preD l l.length+zag u));simp only [newS,newD,if_neg hl] at hr;generalize wrp (preD l l.length+zag u)=D at *;generalize zag u=z at *;omega
   rw [hb,show preD l l.length+zag u-preD l l.length=zag u from by omega,zig_zag]
 have e2:v=vnum (l++[newS l (preD l l.length) u v]) l.length:=by
  unfold vnum;rw [vOf_new,preV_old (Nat.le_refl _)];simp only [newS] at b1 ⊢;have:=wrp_eq (preV l l.length+zag v);rw [show wrp (preV l l.length+zag v)-preV l l.length=zag v from by omega,zig_zag]
 rw [<-e1,<-e2]
theorem step_wit{lw:List Smp}{i:Nat}(hg:Good lw)(hi:i<lw.length):
 newS (lw.take i) (preD (lw.take i) i) (tnum lw i) (vnum lw i)=lw.getD i (0,0)/\newD i (preD (lw.take i) i) (tnum lw i)=dist lw i:=by
 have hl:(lw.take i).length=i:=by rw [List.length_take];omega
 have ht:∀j,j<i->tOf (lw.take i) j=tOf lw j/\vOf (lw.take i) j=vOf lw j:=by
  intro j hj;unfold tOf vOf;rw [getD_in (lw.take i) _ (by omega),getD_in lw _ (by omega),List.getElem_take];exact ⟨rfl,rfl⟩
 have hT:preT (lw.take i) i=preT lw i:=by
  unfold preT
  split
  ·rfl
  ·exact (ht _ (by omega)).1
 have hV:preV (lw.take i) i=preV lw i:=by
  unfold preV
  split
  ·rfl
  ·exact (ht _ (by omega)).2
 have hD:preD (lw.take i) i=preD lw i:=by
  unfold preD
  split
  ·rfl
  ·rename_i h0;unfold dist;rw [(ht _ (by omega)).1];unfold preT
   split
   ·rfl
   ·rw [(ht _ (by omega)).1]
 have b1:=good_at hg hi;have b2:=good_pre hg (Nat.le_of_lt hi);have b3:=good_preD hg (Nat.le_of_lt hi);have b4:=good_dist hg hi;have hN:newD i (preD lw i) (tnum lw i)=dist lw i:=by
  unfold newD tnum
  split
  ·rw [wrp_eq];omega
  ·rw [zag_zig,wrp_eq];omega
 rw [hD];refine ⟨?_,hN⟩;unfold newS;rw [hl,hT,hV,hN];have e1:wrp (preT lw i+dist lw i)=tOf lw i:=by rw [wrp_eq];unfold dist at *;omega
 have e2:wrp (preV lw i+zag (vnum lw i))=vOf lw i:=by unfold vnum;rw [zag_zig,wrp_eq];omega
 rw [e1,e2];rfl
theorem enc_stand{l:List Smp}(h:chk l=0):Stand (encL l) 0 (nums l):=encN_stand (nums_lt h)
theorem enc_right(l:List Smp):rightB (encL l) (endN 0 (nums l):Int)=true:=encN_right _
theorem wit_count{lw:List Smp}(h:chk lw=0):gnum (encL lw) ((8*(encL lw).length:Nat):Int) ((0:Nat):Int)=(lw.length,((endN 0 [lw.length]:Nat):Int),0):=stand_read (enc_stand h)
theorem wit_stand{lw:List Smp}(h:chk lw=0){i:Nat}(hi:i<lw.length):∃r,Stand (encL lw) (endN 0 (lw.length::body lw i)) (tnum lw i::vnum lw i::r):=by
 obtain ⟨r,hr⟩:=body_part lw hi;have hs:=enc_stand h;unfold nums at hs;rw [hr,<-List.cons_append,stand_app] at hs;exact ⟨r,hs.2⟩
theorem wit_t{lw:List Smp}(h:chk lw=0){i:Nat}(hi:i<lw.length):gnum (encL lw) ((8*(encL lw).length:Nat):Int) ((endN 0 (lw.length::body lw i):Nat):Int)=(tnum lw i,((endN 0 (lw.length::body lw i)+(7+digs (tnum lw i)):Nat):Int),0):=by
 obtain ⟨r,hr⟩:=wit_stand h hi;exact stand_read hr
theorem wit_v{lw:List Smp}(h:chk lw=0){i:Nat}(hi:i<lw.length):gnum (encL lw) ((8*(encL lw).length:Nat):Int) ((endN 0 (lw.length::body lw i)+(7+digs (tnum lw i)):Nat):Int)=(vnum lw i,((endN 0 (lw.length::body lw (i+1)):Nat):Int),0):=by
 obtain ⟨r,hr⟩:=wit_stand h hi;have:=stand_read hr.2.2.2;rw [this]
 congr 2
 show ((_:Nat):Int)=((endN 0 (lw.length::(body lw i++[tnum lw i,vnum lw i])):Nat):Int)
 rw [<-List.cons_append,endN_app];rfl
theorem enc_one{l m:List Smp}(hl:chk l=0)(hm:chk m=0)(he:encL l=encL m):l=m:=by
 obtain ⟨l0,l1,gl⟩:=chk_zero.1 hl;obtain ⟨m0,m1,gm⟩:=chk_zero.1 hm;have h0:=wit_count hl;have h1:=wit_count hm;rw [he,h1] at h0;simp only [Prod.mk.injEq] at h0;have hlen:l.length=m.length:=h0.1.symm;have key:∀i,i<=l.length->l.take i=m.take i/\body l i=body m i:=by
  intro i
  induction i with
  | zero=>intro _;exact ⟨by simp,rfl⟩
  | succ i ih =>
    intro hi;obtain ⟨i1,i2⟩:=ih (by omega);have t1:=wit_t hl (i:=i) (by omega);have t2:=wit_t hm (i:=i) (by omega);rw [he,i2,hlen,t2] at t1;simp only [Prod.mk.injEq] at t1;have v1:=wit_v hl (i:=i) (by omega);have v2:=wit_v hm (i:=i) (by omega);rw [he,i2,hlen,<-t1.1,v2] at v1;simp only [Prod.mk.injEq] at v1;have w1:=step_wit gl (i:=i) (by omega);have w2:=step_wit gm (i:=i) (by omega);rw [i1,<-t1.1,<-v1.1] at w1;have e:l.getD i (0,0)=m.getD i (0,0):=w1.1.symm.trans w2.1;refine ⟨?_,by unfold body;rw [i2,t1.1,v1.1]⟩;rw [List.take_succ_eq_append_getElem (by omega),List.take_succ_eq_append_getElem (by omega),i1];rw [getD_in _ _ (by omega),getD_in _ _ (by omega)] at e;rw [e]
 have:=(key l.length (Nat.le_refl _)).1;rw [List.take_length,hlen,List.take_length] at this;exact this
end Go.Proofs.YtgdmcnoogacdaaaGreatDoor.Ch

namespace Go.Proofs.YtgdmcnoogacdaaaGreatDoor.Ch
open Go.ChangeShapes Go.WideShapes Go.ChangeAt Go.RowKit Go.Joins Go.Maps
set_option linter.unusedVariables false
def smpE(s:Smp):List Value:=[.int .i64 s.1,.int .i64 s.2]
theorem smpE_len(s:Smp):(smpE s).length=2:=rfl
def Smps(w:World)(A:Option Addr)(l:List Smp):Prop:=At w A (l.flatMap smpE)
theorem Smps.below{w w':World}{A:Option Addr}{l:List Smp}(h:Smps w A l)(hb:Below w.heap.size w w'):Smps w' A l:=At.below h hb
theorem Smps.alloc{w:World}{A:Option Addr}{l:List Smp}(h:Smps w A l)(o:Obj):Smps (w.alloc o) A l:=At.alloc h o
theorem Smps.nil(w:World)(A:Option Addr):Smps w A []:=.inl rfl
theorem Smps.at_{w:World}{A:Option Addr}{l:List Smp}(h:Smps w A l){i:Nat}(hi:i<l.length):
 ∃b o,A=some ⟨b,o,none⟩/\b<w.heap.size/\w.cell? ⟨b,o+i*2,none⟩=some (.int .i64 (tOf l i))/\w.cell? ⟨b,o+i*2+1,none⟩=some (.int .i64 (vOf l i)):=by
 have hlen:=flat_len smpE 2 smpE_len l;rcases h with h|⟨b,o,rfl,hb,hc⟩
 ·rw [h] at hlen;simp at hlen;omega
 ·refine ⟨b,o,rfl,hb,?_,?_⟩
  ·have:=hc (i*2+0) _ (flat_get smpE 2 smpE_len l i _ 0 (getD_some l (0,0) hi) (by omega));exact this
  ·have:=hc (i*2+1) _ (flat_get smpE 2 smpE_len l i _ 1 (getD_some l (0,0) hi) (by omega));exact this
theorem Smps.all{w:World}{A:Option Addr}{l:List Smp}(h:Smps w A l)(hl:0<l.length):
 ∃b o,A=some ⟨b,o,none⟩/\b<w.heap.size/\∀i,i<l.length->w.cell? ⟨b,o+i*2,none⟩=some (.int .i64 (tOf l i))/\w.cell? ⟨b,o+i*2+1,none⟩=some (.int .i64 (vOf l i)):=by
 obtain ⟨b,o,rfl,hb,_⟩:=h.at_ hl;refine ⟨b,o,rfl,hb,fun i hi=>?_⟩;obtain ⟨b',o',e,_,h1,h2⟩:=h.at_ hi;injection e with e;injection e with e1 e2 _;subst e1 e2;exact ⟨h1,h2⟩
theorem Smps.front{w:World}{A:Option Addr}{l:List Smp}(h:Smps w A l)(k:Nat):Smps w A (l.take k):=by
 rcases Nat.eq_zero_or_pos (min k l.length) with h0|h0
 ·have:l.take k=[]:=List.eq_nil_of_length_eq_zero (by rw [List.length_take];exact h0);rw [this];exact Smps.nil _ _
 ·rcases h with h|⟨b,o,rfl,hb,hc⟩
  ·have hlen:=flat_len smpE 2 smpE_len l;rw [h] at hlen;simp at hlen;omega
  ·refine .inr ⟨b,o,rfl,hb,fun j u hj=>hc j u ?_⟩;have:l.flatMap smpE=(l.take k).flatMap smpE++(l.drop k).flatMap smpE:=by rw [<-List.flatMap_append,List.take_append_drop]
   rw [this,List.getElem?_append_left (List.getElem?_eq_some_iff.1 hj).1];exact hj
theorem Smps.from{w:World}{b o:Nat}{l:List Smp}(h:Smps w (some ⟨b,o,none⟩) l)(k:Nat)(hk:k<=l.length):Smps w (some ⟨b,o+k*2,none⟩) (l.drop k):=by
 rcases Nat.eq_zero_or_pos (l.length-k) with h0|h0
 ·have:l.drop k=[]:=List.eq_nil_of_length_eq_zero (by rw [List.length_drop];exact h0);rw [this];exact Smps.nil _ _
 ·rcases h with h|⟨b',o',e,hb,hc⟩
  ·have hlen:=flat_len smpE 2 smpE_len l;rw [h] at hlen;simp at hlen;omega
  ·injection e with e;injection e with e1 e2 _;subst e1 e2;refine .inr ⟨b,o+k*2,rfl,hb,fun j u hj=>?_⟩;rw [Nat.add_assoc];refine hc _ _ ?_;have:l.flatMap smpE=(l.take k).flatMap smpE++(l.drop k).flatMap smpE:=by rw [<-List.flatMap_append,List.take_append_drop]
   have hl1:((l.take k).flatMap smpE).length=k*2:=by rw [flat_len smpE 2 smpE_len,List.length_take,Nat.min_eq_left hk]
   rw [this,List.getElem?_append_right (by omega),hl1,Nat.add_sub_cancel_left];exact hj
def OwnS(w:World)(base:Nat)(v:Value)(l:List Smp):Prop:=w.ownsRow base 83 2 v l.length (l.flatMap smpE)
section
variable {w w':World} {base:Nat} {v:Value} {l:List Smp}
theorem owns_nil(w:World)(base:Nat):OwnS w base (.slice none 0 0) []:=⟨rfl,.inl ⟨rfl,rfl⟩⟩
theorem owns_empty{g:Nat}(h:Row w g 83 #[])(hb:base<=g):OwnS w base (.slice (some ⟨g,0,none⟩) 0 0) [] :=
 ⟨rfl,.inr ⟨g,0,#[],rfl,hb,h,Nat.le_refl _,by simp [maxLen],by simp,by simp⟩⟩
theorem owns_below(h:OwnS w base v l)(hb:Below w.heap.size w w'):OwnS w' base v l:=rows_below h hb
theorem owns_lower{base':Nat}(h:OwnS w base v l)(hb:base'<=base):OwnS w base' v l:=rows_lower h hb
theorem owns_slice(h:OwnS w base v l):∃P c,v=.slice P l.length c/\l.length<=c/\Smps w P l/\∀ad,P=some ad->base<=ad.block:=rows_slice h
end
theorem sample_info:(Tryz.prog.info? 83).map (fun i=>(i.zero,i.size,i.bytes))=some (some (.agg #[.int .i64 0,.int .i64 0]),2,16):=by kernel_rfl
theorem smp_one(l:List Smp):∀u∈l.flatMap smpE,u.oneCell'=true:=by
 intro u hu;simp only [List.mem_flatMap,smpE,List.mem_cons,List.not_mem_nil,or_false] at hu;obtain ⟨x,_,rfl|rfl⟩:=hu<;>rfl
theorem app_smps{w:World}{ops:Array Oper}{rest:List Oper}{o:Oper}{a:Act}{Q:Exit->Act->World->Prop}(hgd:o.guard=none)(s y:Operand)
 (ho:o.op=.call { callee:=.builtin .append,args:=#[s,y],argTypes:=#[49,49] })
 (base:Nat)(v:Value)(x:List Smp)(hs:a.eval s=v)(hown:OwnS w base v x)(A:Option Addr)(l:List Smp)(c:Nat)(hy:a.eval y=.slice A l.length c)(hA:Smps w A l)(hn:(x.length+l.length)*16<=140737488355328)(hbase:base<=w.heap.size)
 (h:∀v' w',OwnS w' base v' (x++l)->Below base w w'->w.grownBy w' v.ownBlock->wpList Tryz.prog ops Q rest (a.put o.dst v') w'):wpList Tryz.prog ops Q (o::rest) a w:=by
 obtain ⟨i0,hi,hz0,hz1,hz2⟩:=info_parts sample_info;refine wpList_app_at hgd s y 49 ho base 83 i0 _ 2 16 Tryz.underlying49 hi hz0 hz1 hz2 rfl (by omega) v x.length (x.flatMap smpE) hs hown A l.length c (l.flatMap smpE) hy (flat_len smpE 2 smpE_len l) hA (smp_one l)
  (by simp only [maxLen];omega) hn hbase ?_
 intro v' w' h1 h2 h3;refine h v' w' ?_ h2 h3;unfold OwnS;rw [List.flatMap_append,List.length_append];exact h1
theorem smps_cell{w:World}{g:Nat}{t v:Int}(h:Row w g 83 #[.int .i64 t,.int .i64 v]):Smps w (some ⟨g,0,none⟩) [(t,v)]:=At.row h
def Fit(s:Smp):Prop:=-9223372036854775808<=s.1/\s.1<=9223372036854775807/\-9223372036854775808<=s.2/\s.2<=9223372036854775807
def Fits(l:List Smp):Prop:=∀i,i<l.length->Fit (l.getD i (0,0))
section
variable {H:Type} {enc:TypeId × Value->H} {W:World} {base:Nat} {sp:Nat->Bool} {held:Bool}
end
end Go.Proofs.YtgdmcnoogacdaaaGreatDoor.Ch

namespace Go.Proofs.YtgdmcnoogacdaaaGreatDoor.Ch
open Go.RowKit
set_option linter.unusedVariables false
theorem may_cases(s:Smp):(decide (0<=s.1)=false/\mayB s=false)\/(decide (0<=s.1)=true/\decide (s.1<=1099511627776)=false/\mayB s=false) \/
 (decide (0<=s.1)=true/\decide (s.1<=1099511627776)=true/\decide (-1152921504606846976<=s.2)=false/\mayB s=false) \/
 (decide (0<=s.1)=true/\decide (s.1<=1099511627776)=true/\decide (-1152921504606846976<=s.2)=true/\decide (s.2<=1152921504606846976)=false/\mayB s=false) \/
 (decide (0<=s.1)=true/\decide (s.1<=1099511627776)=true/\decide (-1152921504606846976<=s.2)=true/\decide (s.2<=1152921504606846976)=true/\mayB s=true):=by
 unfold mayB
 cases decide (0<=s.1)<;>cases decide (s.1<=1099511627776)<;>cases decide (-1152921504606846976<=s.2)<;>cases decide (s.2<=1152921504606846976)<;>simp
theorem may_prog(t v:Int)(w:World):
 Calls Tryz.prog 105 #[.agg #[.int .i64 t,.int .i64 v]] w fun e w'=>e=.returned (.bool (mayB (t,v)))/\Below w.heap.size w w':=by
 rcases may_cases (t,v) with ⟨h1,h⟩|⟨h1,h2,h⟩|⟨h1,h2,h3,h⟩|⟨h1,h2,h3,h4,h⟩|⟨h1,h2,h3,h4,h⟩
 all_goals
  rw [h];clear h;go_enter Tryz.func105,Tryz.ntmps105
  go_wp2
  go_ret;exact ⟨rfl,below_one _ _⟩
theorem may_ref(t v:Int)(w:World):
 Calls Tryz.prog 78 #[.agg #[.int .i64 t,.int .i64 v]] w fun e w'=>e=.returned (.bool (mayB (t,v)))/\Below w.heap.size w w':=by
 rcases may_cases (t,v) with ⟨h1,h⟩|⟨h1,h2,h⟩|⟨h1,h2,h3,h⟩|⟨h1,h2,h3,h4,h⟩|⟨h1,h2,h3,h4,h⟩
 all_goals
  rw [h];clear h;go_enter Tryz.func78,Tryz.ntmps78
  go_wp2
  go_ret;exact ⟨rfl,below_one _ _⟩
theorem chk_prog(A:Option Addr)(l:List Smp)(c:Nat)(w:World)(hA:Smps w A l)(hl:l.length<=100000000000000):
 Calls Tryz.prog 67 #[.slice A l.length c] w fun e w'=>e=.returned (.int .i64 (chk l))/\Below w.heap.size w w':=by
 by_cases h0:l.length=0
 ·have e:chk l=2:=by unfold chk;rw [if_pos (.inl h0)]
  rw [e,h0];clear e;go_enter Tryz.func67,Tryz.ntmps67
  go_wp2
  go_ret;exact ⟨rfl,Below.refl _ _⟩
 by_cases h1:120<l.length
 ·have e:chk l=2:=by unfold chk;rw [if_pos (.inr h1)]
  rw [e];clear e;have i0:((l.length:Int)==0)=false:=by rw [beq_eq_false_iff_ne];omega
  have i1:decide ((120:Int)<(l.length:Int))=true:=by simp;omega
  go_enter Tryz.func67,Tryz.ntmps67
  go_wp2
  go_ret;exact ⟨rfl,Below.refl _ _⟩
 have hC:=zz (show errF l l.length 0=chk l by unfold chk;rw [if_neg (by omega)]);obtain ⟨b,o,rfl,hb,hc⟩:=hA.all (by omega);have Hc:=zz hc;clear hc hA;have i0:((l.length:Int)==0)=false:=by rw [beq_eq_false_iff_ne];omega
 have i1:decide ((120:Int)<(l.length:Int))=false:=by simp;omega
 go_enter Tryz.func67,Tryz.ntmps67
 go_wp2_with fail
 go_loopw [15] (fun i wr=>∃k:Nat,k<=l.length/\i=.int .i64 (k:Int)/\errF l (l.length-k) k=chk l/\Below w.heap.size w wr) (fun i _=>l.length-(intOf i).toNat)
 case atStart=>exact ⟨0,Nat.zero_le _,rfl,hC.out,Below.refl _ _⟩
 case round =>
  obtain ⟨k,hk,rfl,he,hbr⟩:=hrel;have hsz:=hbr.size
  by_cases hlt:k<l.length
  ·obtain ⟨g0,g1⟩:=Hc.out k hlt;have c0:=(hbr.cell (p:=⟨b,o+k*2,none⟩) hb).trans g0;have c1:=(hbr.cell (p:=⟨b,o+k*2+1,none⟩) hb).trans g1;have i2:(k:Int)<(l.length:Int):=by omega
   have hM:=may_prog (tOf l k) (vOf l k);have HE:=zz he;clear he g0 g1;rw [show l.length-k=(l.length-(k+1))+1 from by omega,errF] at HE
   cases hm:mayB (tOf l k,vOf l k)
   ·rw [hm] at hM;have eA:errAt l k=11:=by unfold errAt;rw [if_pos (by exact hm)]
    rw [eA] at HE;have HM:=zz hM;clear hM hm
    go_wp2_with fail
    refine (HM.out _).mono ?_;rintro e w2 ⟨rfl,hb2⟩
    go_wp2
    go_ret;exact ⟨by rw [<-HE.out];rfl,below_then (hbr.alloc hsz _) hb2⟩
   ·rw [hm] at hM;have HM:=zz hM;clear hM
    go_wp2_with fail
    refine (HM.out _).mono ?_;rintro e w2 ⟨rfl,hb2⟩;have hW2:=below_then (hbr.alloc hsz _) hb2;have R:Row w2 wr.heap.size 83 #[.int .i64 (tOf l k),.int .i64 (vOf l k)]:=(Row.new wr _ _).below hb2 (by simp);have r0:w2.cell? ⟨wr.heap.size,0,none⟩=some (.int .i64 (tOf l k)):=R.cell 0;have hd2:Below w.heap.size w w2.drew:=hW2.drew;clear R
    by_cases hk0:0<k
    ·obtain ⟨p0,_⟩:=Hc.out (k-1) (by omega);have d0:=(hW2.cell (p:=⟨b,o+(k-1)*2,none⟩) hb).trans p0;have i3:decide ((0:Int)<(k:Int))=true:=by simp;omega
     clear p0 c0 c1
     by_cases hle:tOf l k<=tOf l (k-1)
     ·have i4:decide (tOf l k<=tOf l (k-1))=true:=by simpa using hle
      have eA:errAt l k=13:=by unfold errAt;rw [if_neg (by rw [show l.getD k (0,0)=(tOf l k,vOf l k) from rfl,hm];simp),if_pos ⟨hk0,hle⟩]
      rw [eA] at HE;clear hm hle
      go_wp2_with fail
      go_region
      all_goals
       go_wp2_with fail
       go_ret;exact ⟨by rw [<-HE.out];rfl,hd2⟩
     ·have i4:decide (tOf l k<=tOf l (k-1))=false:=by simpa using hle
      have eA:errAt l k=0:=errAt_zero.2 ⟨hm,fun _=>by omega⟩;rw [eA,if_pos rfl] at HE;clear hm hle eA
      go_wp2_with fail
      go_region
      all_goals
       go_wp2_with fail
       go_roundw
       case rel=>exact ⟨k+1,by omega,by go_num,HE.out,hd2⟩
       case measure=>simp [intOf];omega
    ·have i3:decide ((0:Int)<(k:Int))=false:=by simp;omega
     have eA:errAt l k=0:=errAt_zero.2 ⟨hm,fun h=>absurd h hk0⟩;rw [eA,if_pos rfl] at HE;clear hm eA
     go_wp2_with fail
     go_region
     all_goals
      go_wp2_with fail
      go_roundw
      case rel=>exact ⟨k+1,by omega,by go_num,HE.out,hd2⟩
      case measure=>simp [intOf];omega
  ·obtain rfl:k=l.length:=by omega
   rw [Nat.sub_self] at he;have HE:=zz he;clear he
   go_wp2_with fail
   go_ret;exact ⟨by rw [<-HE.out];rfl,hbr⟩
theorem rises_ref(A:Option Addr)(l:List Smp)(c:Nat)(w:World)(hA:Smps w A l)(hl:l.length<=100000000000000):
 Calls Tryz.prog 39 #[.slice A l.length c] w fun e w'=>e=.returned (.int .i64 (errF l l.length 0))/\Below w.heap.size w w':=by
 have hall:0<l.length->∃b o,A=some ⟨b,o,none⟩/\b<w.heap.size/\∀i,i<l.length->w.cell? ⟨b,o+i*2,none⟩=some (.int .i64 (tOf l i))/\w.cell? ⟨b,o+i*2+1,none⟩=some (.int .i64 (vOf l i)):=hA.all;have Hall:=zz hall;clear hall hA;go_enter Tryz.func39,Tryz.ntmps39
 go_wp2_with fail
 go_loopw [3] (fun i wr=>∃k:Nat,k<=l.length/\i=.int .i64 (k:Int)/\errF l (l.length-k) k=errF l l.length 0/\Below w.heap.size w wr) (fun i _=>l.length-(intOf i).toNat)
 case atStart=>exact ⟨0,Nat.zero_le _,rfl,rfl,Below.refl _ _⟩
 case round =>
  obtain ⟨k,hk,rfl,he,hbr⟩:=hrel;have hsz:=hbr.size
  by_cases hlt:k<l.length
  ·obtain ⟨b,o,rfl,hb,hc⟩:=Hall.out (by omega);have Hc:=zz hc;clear hc;obtain ⟨g0,g1⟩:=Hc.out k hlt;have c0:=(hbr.cell (p:=⟨b,o+k*2,none⟩) hb).trans g0;have c1:=(hbr.cell (p:=⟨b,o+k*2+1,none⟩) hb).trans g1;have i2:(k:Int)<(l.length:Int):=by omega
   have hM:=may_ref (tOf l k) (vOf l k);have HE:=zz he;clear he g0 g1;rw [show l.length-k=(l.length-(k+1))+1 from by omega,errF] at HE
   cases hm:mayB (tOf l k,vOf l k)
   ·rw [hm] at hM;have eA:errAt l k=11:=by unfold errAt;rw [if_pos (by exact hm)]
    rw [eA] at HE;have HM:=zz hM;clear hM hm
    go_wp2_with fail
    refine (HM.out _).mono ?_;rintro e w2 ⟨rfl,hb2⟩
    go_wp2
    go_ret;exact ⟨by rw [<-HE.out];rfl,below_then hbr hb2⟩
   ·rw [hm] at hM;have HM:=zz hM;clear hM
    go_wp2_with fail
    refine (HM.out _).mono ?_;rintro e w2 ⟨rfl,hb2⟩;have hW2:=below_then hbr hb2;have hd2:Below w.heap.size w w2.drew:=hW2.drew;have e0:=(hb2.cell (p:=⟨b,o+k*2,none⟩) (by show b<_;omega)).trans c0
    by_cases hk0:0<k
    ·obtain ⟨p0,_⟩:=Hc.out (k-1) (by omega);have d0:=(hW2.cell (p:=⟨b,o+(k-1)*2,none⟩) hb).trans p0;have i3:decide ((0:Int)<(k:Int))=true:=by simp;omega
     clear p0 c0 c1
     by_cases hle:tOf l k<=tOf l (k-1)
     ·have i4:decide (tOf l k<=tOf l (k-1))=true:=by simpa using hle
      have eA:errAt l k=13:=by unfold errAt;rw [if_neg (by rw [show l.getD k (0,0)=(tOf l k,vOf l k) from rfl,hm];simp),if_pos ⟨hk0,hle⟩]
      rw [eA] at HE;clear hm hle
      go_wp2_with fail
      go_region
      all_goals
       go_wp2_with fail
       go_ret;exact ⟨by rw [<-HE.out];rfl,hd2⟩
     ·have i4:decide (tOf l k<=tOf l (k-1))=false:=by simpa using hle
      have eA:errAt l k=0:=errAt_zero.2 ⟨hm,fun _=>by omega⟩;rw [eA,if_pos rfl] at HE;clear hm hle eA
      go_wp2_with fail
      go_region
      all_goals
       go_wp2_with fail
       go_roundw
       case rel=>exact ⟨k+1,by omega,by go_num,HE.out,hd2⟩
       case measure=>simp [intOf];omega
    ·have i3:decide ((0:Int)<(k:Int))=false:=by simp;omega
     have eA:errAt l k=0:=errAt_zero.2 ⟨hm,fun h=>absurd h hk0⟩;rw [eA,if_pos rfl] at HE;clear hm eA
     go_wp2_with fail
     go_region
     all_goals
      go_wp2_with fail
      go_roundw
      case rel=>exact ⟨k+1,by omega,by go_num,HE.out,hd2⟩
      case measure=>simp [intOf];omega
  ·obtain rfl:k=l.length:=by omega
   rw [Nat.sub_self] at he;have HE:=zz he;clear he
   go_wp2_with fail
   go_ret;exact ⟨by rw [<-HE.out];rfl,hbr⟩
theorem chk_ref(A:Option Addr)(l:List Smp)(c:Nat)(w:World)(hA:Smps w A l)(hl:l.length<=100000000000000):
 Calls Tryz.prog 112 #[.slice A l.length c] w fun e w'=>e=.returned (.int .i64 (chk l))/\Below w.heap.size w w':=by
 by_cases h0:l.length=0
 ·have e:chk l=2:=by unfold chk;rw [if_pos (.inl h0)]
  rw [e,h0];clear e;go_enter Tryz.func112,Tryz.ntmps112
  go_wp2
  go_ret;exact ⟨rfl,Below.refl _ _⟩
 have i0:((l.length:Int)==0)=false:=by rw [beq_eq_false_iff_ne];omega
 by_cases h1:120<l.length
 ·have e:chk l=2:=by unfold chk;rw [if_pos (.inr h1)]
  rw [e];clear e;have i1:decide ((120:Int)<(l.length:Int))=true:=by simp;omega
  go_enter Tryz.func112,Tryz.ntmps112
  go_wp2
  go_ret;exact ⟨rfl,Below.refl _ _⟩
 have hC:=zz (show errF l l.length 0=chk l by unfold chk;rw [if_neg (by omega)]);have i1:decide ((120:Int)<(l.length:Int))=false:=by simp;omega
 have HR:=zz (rises_ref A l c w hA hl);go_enter Tryz.func112,Tryz.ntmps112
 go_wp2_with fail
 refine HR.out.mono ?_;rintro e w2 ⟨rfl,hb2⟩
 go_wp2
 go_ret;exact ⟨by rw [<-hC.out];rfl,hb2⟩
theorem same_smps(A B:Option Addr)(l:List Smp)(c d:Nat)(w:World)(hA:Smps w A l)(hB:Smps w B l)(hl:l.length<=100000000000000):
 Calls Tryz.prog 22 #[.slice A l.length c,.slice B l.length d] w fun e w'=>e=.returned (.bool true)/\Below w.heap.size w w':=by
 have Hall:=zz (fun h=>hA.all h);have Hbll:=zz (fun h=>hB.all h);clear hA hB;have q0:((l.length:Int) !=(l.length:Int))=false:=by simp
 go_enter Tryz.func22,Tryz.ntmps22
 go_wp2_with fail
 go_loopw [5] (fun i wr=>∃k:Nat,k<=l.length/\i=.int .i64 (k:Int)/\Below w.heap.size w wr) (fun i _=>l.length-(intOf i).toNat)
 case atStart=>exact ⟨0,Nat.zero_le _,rfl,Below.refl _ _⟩
 case round =>
  obtain ⟨k,hk,rfl,hbr⟩:=hrel
  by_cases hlt:k<l.length
  ·obtain ⟨b,o,rfl,hb,hc⟩:=Hall.out (by omega);obtain ⟨b',o',rfl,hb',hc'⟩:=Hbll.out (by omega);obtain ⟨g0,g1⟩:=hc k hlt;obtain ⟨k0,k1⟩:=hc' k hlt;have c0:=(hbr.cell (p:=⟨b,o+k*2,none⟩) hb).trans g0;have c1:=(hbr.cell (p:=⟨b,o+k*2+1,none⟩) hb).trans g1;have d0:=(hbr.cell (p:=⟨b',o'+k*2,none⟩) hb').trans k0;have d1:=(hbr.cell (p:=⟨b',o'+k*2+1,none⟩) hb').trans k1;have i2:(k:Int)<(l.length:Int):=by omega
   have hd:Below w.heap.size w wr.drew:=hbr.drew;clear hc hc' g0 g1 k0 k1;generalize tOf l k=t at *;generalize vOf l k=v at *;have q1:(t==t)=true:=beq_self_eq_true _;have q2:(v==v)=true:=beq_self_eq_true _
   go_wp2_with fail
   go_region
   all_goals
    go_wp2_with fail
    go_roundw
    case rel=>exact ⟨k+1,by omega,by go_num,hd⟩
    case measure=>simp [intOf];omega
  ·obtain rfl:k=l.length:=by omega
   go_wp2_with fail
   go_ret;exact ⟨rfl,hbr⟩
end Go.Proofs.YtgdmcnoogacdaaaGreatDoor.Ch

namespace Go.Proofs.YtgdmcnoogacdaaaGreatDoor.Ch
open Go.RowKit Go.Shelf
set_option linter.unusedVariables false
attribute [local go_sem] Oper.semAt_some
def pieceL(l:List Smp)(k:Nat):List Smp:=(l.drop (k*120)).take 120
theorem piece_len(l:List Smp)(k:Nat):(pieceL l k).length=min 120 (l.length-k*120):=by
 unfold pieceL;rw [List.length_take,List.length_drop]
def pieceV(b o len k:Nat):Value:=.slice (some ⟨b,o+k*120*2,none⟩) (min 120 (len-k*120)) (min 120 (len-k*120))
theorem piece_smps{w:World}{b o:Nat}{l:List Smp}(h:Smps w (some ⟨b,o,none⟩) l)(k:Nat):Smps w (some ⟨b,o+k*120*2,none⟩) (pieceL l k):=by
 unfold pieceL
 by_cases hk:k*120<=l.length
 ·exact (h.from _ hk).front 120
 ·rw [List.drop_eq_nil_of_le (by omega),List.take_nil];exact Smps.nil _ _
def Boxes(Bs Bn:Nat)(W W':World):Prop:=∀k,k=Bs\/k=Bn->W'.heap[k]?=W.heap[k]?
theorem Boxes.refl(Bs Bn:Nat)(W:World):Boxes Bs Bn W W:=fun _ _=>rfl
theorem Boxes.trans{Bs Bn:Nat}{A B C:World}(h:Boxes Bs Bn A B)(k:Boxes Bs Bn B C):Boxes Bs Bn A C:=fun i hi=>(k i hi).trans (h i hi)
theorem cell_heap{W W':World}{k:Nat}(h:W'.heap[k]?=W.heap[k]?)(i:Nat):W'.cell? ⟨k,i,none⟩=W.cell? ⟨k,i,none⟩:=by simp [World.cell?,h]
theorem Boxes.put{Bs Bn:Nat}{w:World}(h1:Bs<w.heap.size)(h2:Bn<w.heap.size)(W:World)(l:Nat)(o o':Obj)(hl:w.heap.size<=l)(h:W.heap[l]?=some o)(_:o.isCells=false)(_:o.isWalk=false):Boxes Bs Bn W (W.putObj l o') :=
 fun k hk=>(grownBy_putObj' W l o').block k (by have:=(Array.getElem?_eq_some_iff.1 h).1;rcases hk with rfl|rfl<;>omega) (fun e=>by cases e;rcases hk with rfl|rfl<;>omega)
set_option maxRecDepth 100000 in
set_option maxHeartbeats 4000000 in
theorem chunk1_in(n:Nat)(hn:1<=n)(l Bs Bn b off len cap:Nat)(hreach:len*16<=140737488351232)(hlc:len<=cap)(J Jx:List Nat->World->Prop)(hJd:∀s W,J s W->J s W.drew)
 (hY:∀pre x W,J pre W->pre.length<(len+119)/120->YieldAt Fence.wide (n-1) Tryz.prog l #[pieceV b off len x] W fun e W' =>
   (e=.returned (.bool true)/\J (pre++[x]) W'/\Boxes Bs Bn W W')\/(e=.returned (.bool false)/\Jx (pre++[x]) W'))
 (W:World)(hS:W.cell? ⟨Bs,0,none⟩=some (.slice (some ⟨b,off,none⟩) len cap))(hN:W.cell? ⟨Bn,0,none⟩=some (.int .i64 120))(h0:J [] W):
 CallsIn Fence.wide n Tryz.prog 104 #[.func (.yield l) #[] #[],.pointer (some ⟨Bs,0,none⟩),.pointer (some ⟨Bn,0,none⟩)] W fun e W'=>(∃v,e=.returned v) /\
  ((∃ys,ys=List.range ((len+119)/120)/\J ys W')\/(∃pre,(∃k,k<=(len+119)/120/\pre=List.range k)/\Jx pre W')):=by
 refine callsIn_of_wp Tryz.func104 rfl trivial ?_ rfl;simp only [Tryz.ntmps104,List.size_toArray,List.length_cons,List.length_nil,Nat.reduceAdd,Nat.reduceSub,Array.replicate_succ,Array.replicate_zero,List.push_toArray,List.append_toArray,List.nil_append,List.cons_append]
 gi_wp2
 gi_loopw [4,5] (fun i e wr=>∃k:Nat,k<=(len+119)/120/\i=.int .i64 ((k*120:Nat):Int)/\J (List.range k) wr/\Boxes Bs Bn W wr)
  (fun i _ _=>len+120-(intOf i).toNat)
 case atStart=>exact ⟨0,Nat.zero_le _,rfl,h0,Boxes.refl _ _ _⟩
 case round =>
  obtain ⟨k,hk,rfl,hJs,hnx⟩:=hrel;have c1:wr.cell? ⟨Bs,0,none⟩=some (.slice (some ⟨b,off,none⟩) len cap):=(cell_heap (hnx Bs (.inl rfl)) 0).trans hS;have c2:wr.cell? ⟨Bn,0,none⟩=some (.int .i64 120):=(cell_heap (hnx Bn (.inr rfl)) 0).trans hN
  by_cases hlt:k*120<len
  ·obtain ⟨fn,tmps,assign,body,hy,hR⟩:=hY _ k wr.drew (hJd _ _ hJs) (by rw [List.length_range];omega);unfold pieceV at hy;have c3:wr.drew.cell? ⟨Bs,0,none⟩=some (.slice (some ⟨b,off,none⟩) len cap):=c1;have hq:min (120:Int) ((len-k*120:Nat):Int)=((min 120 (len-k*120):Nat):Int):=by omega
   gi_wp2
   gi_region
   clear hq;have hzq:k*120+min 120 (len-k*120)<=len:=by omega
   have hs1:k*120+min 120 (len-k*120)-k*120=min 120 (len-k*120):=by omega
   gi_wp2
   refine hR.mono ?_;rintro e W3 (⟨rfl,hJ3,hk3⟩|⟨rfl,hJx3⟩)
   ·have c4:W3.cell? ⟨Bn,0,none⟩=some (.int .i64 120):=(cell_heap (hk3 Bn (.inr rfl)) 0).trans c2
    gi_wp2
    go_roundw
    case rel=>exact ⟨k+1,by omega,by congr 1;push_cast;omega,by rw [List.range_succ];exact hJ3,hnx.trans hk3⟩
    case measure=>simp [intOf];omega
   ·gi_wp2
    refine bodyPost_ret (results_none rfl _ _ _) rfl ?_;exact ⟨⟨_,rfl⟩,.inr ⟨_,⟨k+1,by omega,(List.range_succ).symm⟩,hJx3⟩⟩
  ·obtain rfl:k=(len+119)/120:=by omega
   gi_wp2
   go_end0
   exact ⟨⟨_,rfl⟩,.inl ⟨_,rfl,hJs⟩⟩
set_option maxRecDepth 100000 in
set_option maxHeartbeats 1000000 in
theorem chunk1_none(n:Nat)(l Bs Bn:Nat)(A:Option Addr)(cap:Nat)(J:List Nat->World->Prop)(W:World)(hS:W.cell? ⟨Bs,0,none⟩=some (.slice A 0 cap))(h0:J [] W):
 CallsIn Fence.wide n Tryz.prog 104 #[.func (.yield l) #[] #[],.pointer (some ⟨Bs,0,none⟩),.pointer (some ⟨Bn,0,none⟩)] W fun e W'=>(∃v,e=.returned v)/\J [] W':=by
 refine callsIn_of_wp Tryz.func104 rfl trivial ?_ rfl;simp only [Tryz.ntmps104,List.size_toArray,List.length_cons,List.length_nil,Nat.reduceAdd,Nat.reduceSub,Array.replicate_succ,Array.replicate_zero,List.push_toArray,List.append_toArray,List.nil_append,List.cons_append]
 gi_wp2
 gi_loopw [4,5] (fun i e wr=>i=.int .i64 0/\wr=W) (fun _ _ _=>0)
 case atStart=>exact ⟨rfl,rfl⟩
 case round =>
  obtain ⟨rfl,rfl⟩:=hrel
  gi_wp2
  go_end0
  exact ⟨⟨_,rfl⟩,h0⟩
set_option maxRecDepth 100000 in
set_option maxHeartbeats 1000000 in
theorem chunk_in(n:Nat)(A:Option Addr)(len cap:Nat)(w:World):
 CallsIn Fence.wide n Tryz.prog 65 #[.slice A len cap,.int .i64 120] w fun e w' =>
  e=.returned (.func (.func 104) #[] #[.pointer (some ⟨w.heap.size,0,none⟩),.pointer (some ⟨w.heap.size+1,0,none⟩)])/\w'=(w.alloc (.cells #[.slice A len cap] 49)).alloc (.cells #[.int .i64 120] 3):=by
 refine callsIn_of_wp Tryz.func65 rfl trivial ?_ rfl;simp only [Tryz.ntmps65,List.size_toArray,List.length_cons,List.length_nil,Nat.reduceAdd,Nat.reduceSub,Array.replicate_succ,Array.replicate_zero,List.push_toArray,List.append_toArray,List.nil_append,List.cons_append]
 gi_wp2
 go_ret;exact ⟨rfl,rfl⟩
theorem chunk_stops(n:Nat)(hn:1<=n)(Bs Bn:Nat)(A:Option Addr)(b off len cap:Nat)(hA:len=0\/A=some ⟨b,off,none⟩)(hreach:len*16<=140737488351232)(hlc:len<=cap)(w:World)(hBs:Bs<w.heap.size)(hBn:Bn<w.heap.size)
 (hS:w.cell? ⟨Bs,0,none⟩=some (.slice A len cap))(hN:w.cell? ⟨Bn,0,none⟩=some (.int .i64 120)):
 SeqStopsK Fence.wide n Tryz.prog 104 #[.pointer (some ⟨Bs,0,none⟩),.pointer (some ⟨Bn,0,none⟩)] (fun x:Nat=>#[pieceV b off len x]) (Boxes Bs Bn)
  (fun ys=>ys=List.range ((len+119)/120)) (fun pre=>∃k,k<=(len+119)/120/\pre=List.range k) ((len+119)/120) w:=fun l J Jx W hW hJ _ hY h0=>by
 have hS':=(hW.cell (p:=⟨Bs,0,none⟩) hBs).trans hS;have hN':=(hW.cell (p:=⟨Bn,0,none⟩) hBn).trans hN
 by_cases hl:len=0
 ·subst hl;exact (chunk1_none n l Bs Bn A cap J W hS' h0).mono fun e W' ⟨he,hj⟩=>⟨he,.inl ⟨_,rfl,hj⟩⟩
 ·obtain rfl:A=some ⟨b,off,none⟩:=hA.resolve_left hl;exact chunk1_in n hn l Bs Bn b off len cap hreach hlc J Jx (fun s V hs=>hJ s V V.drew none hs ⟨rfl,rfl,rfl,Nat.le_refl _,fun _ _ _=>rfl⟩ (fun r e=>by cases e)) hY W hS' hN' h0
set_option maxRecDepth 100000 in
set_option maxHeartbeats 1000000 in
theorem clone_prog(b o:Nat)(l:List Smp)(c:Nat)(w:World)(hA:Smps w (some ⟨b,o,none⟩) l)(hl:l.length*16<=140737488355328):
 Calls Tryz.prog 66 #[.slice (some ⟨b,o,none⟩) l.length c] w fun e w'=>∃v,e=.returned v/\OwnS w' w.heap.size v l/\Below w.heap.size w w':=by
 have hR:Row (w.alloc (.cells #[] 83)) w.heap.size 83 #[]:=Row.new w _ _;have hO:OwnS (w.alloc (.cells #[] 83)) w.heap.size (.slice (some ⟨w.heap.size,0,none⟩) 0 0) []:=owns_empty hR (Nat.le_refl _);have hA1:=hA.alloc (.cells #[] 83);have hW1:=below_one w (.cells #[] 83);have hs1:=hW1.size;have q:(binOp .eql 49 (.slice (some ⟨b,o,none⟩) l.length c) (.slice none 0 0)).run Tryz.prog w=.ok (.bool false) w:=Lib.run_eql_slice_nil w _ _ _ _ _ _ _ Tryz.underlying49;have HO:=zz hO;clear hO hR;go_enter Tryz.func66,Tryz.ntmps66
 go_wp2_with (at_builtin;refine app_smps rfl (.tmp 5) (.tmp 6) rfl w.heap.size _ [] rfl HO.out (some ⟨b,o,none⟩) l c rfl hA1 (by simpa using hl) hs1 ?_;intro v3 w3 hF3 hb3 _;have HF3:=zz hF3;obtain ⟨P3,c3,hv3,_,_,_⟩:=owns_slice hF3;clear hF3;generalize ([]++l).length=n3 at hv3;subst hv3)
 go_ret;exact ⟨_,rfl,HF3.out,hW1.trans hb3⟩
end Go.Proofs.YtgdmcnoogacdaaaGreatDoor.Ch
