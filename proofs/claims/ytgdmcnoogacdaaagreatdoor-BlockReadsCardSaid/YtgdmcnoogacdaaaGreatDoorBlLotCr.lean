/- In one text, written by lotify.py: ChRef3, ChRef4, ChAppendRef. -/
import Derived.Test.YtgdmcnoogacdaaaGreatDoorBlLotZ
namespace Go.Proofs.YtgdmcnoogacdaaaGreatDoor.Ch
open Go.RowKit Go.Maps
set_option linter.unusedVariables false
structure RAt(b:List UInt8)(n k:Nat)(l:List Smp)(far:Int)(p:Nat):Prop where
 len:l.length=k
 le:k<=n
 n120:n<=120
 pos:p<=8*b.length
 may:∀i,i<k->mayB (l.getD i (0,0))=true
 far_:-1099511627776<=far/\far<=1099511627776
 zero:k<2->far=0\/k=1\/True
 wit:∀lw,chk lw=0->encL lw=b->lw.length=n/\l=lw.take k/\far=(if k<2 then 0 else dist lw (k-1))/\p=endN 0 (n::body lw k)
def rT(k u:Nat):Int:=if k<2 then wrp u else zag u
def rF(k:Nat)(far t:Int):Int:=if k=0 then far else far*(min ((k:Int)-1) 1)+t
def rS(l:List Smp)(k:Nat)(far t v:Int):Smp:=if k=0 then (t,v) else (tOf l (k-1)+rF k far t,vOf l (k-1)+v)
theorem rF_cases(k:Nat)(far t:Int):(k=0/\rF k far t=far)\/(k=1/\rF k far t=t)\/(2<=k/\rF k far t=far+t):=by
 unfold rF
 by_cases h0:k=0
 ·exact .inl ⟨h0,by rw [if_pos h0]⟩
 ·rw [if_neg h0]
  by_cases h1:k=1
  ·have:min ((k:Int)-1) 1=0:=by omega
   exact .inr (.inl ⟨h1,by rw [this];omega⟩)
  ·refine .inr (.inr ⟨by omega,?_⟩);have:min ((k:Int)-1) 1=1:=by omega
   rw [this,Int.mul_one]
theorem RAt.first{b:List UInt8}{n:Nat}(hn:n<=120)(hs:Stand b 0 [n]):RAt b n 0 [] 0 (0+(7+digs n)) :=
 ⟨rfl,Nat.zero_le _,hn,hs.2.1,fun i hi=>by omega,by omega,fun _=>.inl rfl,fun lw h1 h2=>by
  have h3:=wit_count h1;rw [h2] at h3;have h4:gnum b ((8*b.length:Nat):Int) ((0:Nat):Int)=_:=stand_read hs;rw [h4] at h3;simp only [Prod.mk.injEq] at h3;exact ⟨h3.1.symm,by simp,rfl,rfl⟩⟩
theorem RAt.noT{b:List UInt8}{n k p:Nat}{l:List Smp}{far code:Int}(h:RAt b n k l far p)(hk:k<n)(hc:(code !=0)=true)(hg:gnum b ((8*b.length:Nat):Int) (p:Int)=(0,0,code)):NoChunk b:=by
 intro lw h1 h2;obtain ⟨e1,_,_,e4⟩:=h.wit lw h1 h2;have:=wit_t h1 (i:=k) (by omega);rw [h2,e1,<-e4,hg] at this;simp only [Prod.mk.injEq] at this;exact absurd this.2.2 (bne_iff_ne.1 hc)
theorem RAt.nums{b:List UInt8}{n k p u:Nat}{l:List Smp}{far:Int}(h:RAt b n k l far p)(hk:k<n)(hu:Stand b p [u]){lw:List Smp}(h1:chk lw=0)(h2:encL lw=b):
 u=tnum lw k/\∀v,Stand b (p+(7+digs u)) [v]->v=vnum lw k:=by
 obtain ⟨e1,_,_,e4⟩:=h.wit lw h1 h2;obtain ⟨r,hr⟩:=wit_stand h1 (i:=k) (by omega);rw [h2,e1,<-e4] at hr;have eu:u=tnum lw k:=has_one hu.1 hr.1 hu.2.2.1 hr.2.2.1;refine ⟨eu,fun v hv=>?_⟩;have hr2:=hr.2.2.2;rw [<-eu] at hr2;exact has_one hv.1 hr2.1 hv.2.2.1 hr2.2.2.1
theorem RAt.noV{b:List UInt8}{n k p u:Nat}{l:List Smp}{far code:Int}(h:RAt b n k l far p)(hk:k<n)(hu:Stand b p [u])(hc:(code !=0)=true)(hg:gnum b ((8*b.length:Nat):Int) ((p+(7+digs u):Nat):Int)=(0,0,code)):NoChunk b:=by
 intro lw h1 h2;obtain ⟨e1,_,_,e4⟩:=h.wit lw h1 h2;obtain ⟨eu,_⟩:=h.nums hk hu h1 h2;have:=wit_v h1 (i:=k) (by omega);rw [h2,e1,<-e4,<-eu,hg] at this;simp only [Prod.mk.injEq] at this;exact absurd this.2.2 (bne_iff_ne.1 hc)
theorem RAt.said{b:List UInt8}{n k p u v:Nat}{l:List Smp}{far:Int}(h:RAt b n k l far p)(hk:k<n)(hu:Stand b p [u])(hv:Stand b (p+(7+digs u)) [v]){lw:List Smp}(h1:chk lw=0)(h2:encL lw=b):
 -1099511627776<=rT k u/\rT k u<=1099511627776/\-2305843009213693952<=zag v/\zag v<=2305843009213693952/\rS l k far (rT k u) (zag v)=lw.getD k (0,0)/\rF k far (rT k u)=(if k+1<2 then 0 else dist lw k):=by
 obtain ⟨e1,e2,e3,_⟩:=h.wit lw h1 h2;obtain ⟨eu,ev⟩:=h.nums hk hu h1 h2;have ev:=ev v hv;obtain ⟨_,_,hg⟩:=chk_zero.1 h1;have hkl:k<lw.length:=by omega
 have b1:=good_at hg hkl;have b2:=good_pre hg (Nat.le_of_lt hkl);have b3:=good_dist hg hkl;have b4:=good_preD hg (Nat.le_of_lt hkl);have hz:zag v=vOf lw k-preV lw k:=by rw [ev];unfold vnum;rw [zag_zig]
 have hT:rT k u=if k<2 then dist lw k else dist lw k-preD lw k:=by
  rw [eu];unfold rT tnum
  split
  ·rw [wrp_eq];omega
  ·rw [zag_zig]
 have hlt:∀i,i<k->tOf l i=tOf lw i/\vOf l i=vOf lw i:=by
  intro i hi;rw [e2];unfold tOf vOf;rw [getD_in (lw.take k) _ (by rw [List.length_take];omega),List.getElem_take,getD_in lw _ (by omega)];exact ⟨rfl,rfl⟩
 have hpair:lw.getD k (0,0)=(tOf lw k,vOf lw k):=rfl;refine ⟨by rw [hT];split<;>omega,by rw [hT];split<;>omega,by omega,by omega,?_,?_⟩
 ·rw [hpair];unfold rS
  by_cases h0:k=0
  ·rw [if_pos h0,hT,if_pos (by omega),hz];unfold dist preT preV;rw [if_pos h0,if_pos h0];simp
  ·rw [if_neg h0,(hlt (k-1) (by omega)).1,(hlt (k-1) (by omega)).2,hz];have p1:preT lw k=tOf lw (k-1):=by unfold preT;rw [if_neg h0]
   have p2:preV lw k=vOf lw (k-1):=by unfold preV;rw [if_neg h0]
   have p3:preD lw k=dist lw (k-1):=by unfold preD;rw [if_neg h0]
   have hd:dist lw k=tOf lw k-tOf lw (k-1):=by unfold dist;rw [p1]
   rw [p2];rcases rF_cases k far (rT k u) with ⟨c,_⟩|⟨c,e⟩|⟨c,e⟩
   ·exact absurd c h0
   ·rw [e,hT,if_pos (by omega),hd]
    congr 1<;>omega
   ·rw [e,hT,if_neg (by omega),e3,if_neg (by omega),p3,hd]
    congr 1<;>omega
 ·rcases rF_cases k far (rT k u) with ⟨c,e⟩|⟨c,e⟩|⟨c,e⟩
  ·rw [e,if_pos (by omega),e3,if_pos (by omega)]
  ·rw [e,if_neg (by omega),hT,if_pos (by omega)]
  ·rw [e,if_neg (by omega),hT,if_neg (by omega),e3,if_neg (by omega)];have p3:preD lw k=dist lw (k-1):=by unfold preD;rw [if_neg (by omega)]
   omega
theorem RAt.bound{b:List UInt8}{n k p:Nat}{l:List Smp}{far t v:Int}(h:RAt b n k l far p)(ht:-1099511627776<=t/\t<=1099511627776)(hv:-2305843009213693952<=v/\v<=2305843009213693952):
 -2199023255552<=rF k far t/\rF k far t<=2199023255552/\(0<k->0<=tOf l (k-1)/\tOf l (k-1)<=1099511627776/\-1152921504606846976<=vOf l (k-1)/\vOf l (k-1)<=1152921504606846976):=by
 have h1:=h.far_;refine ⟨?_,?_,fun h0=>mayB_iff.1 (h.may (k-1) (by omega))⟩<;>rcases rF_cases k far t with ⟨_,e⟩|⟨_,e⟩|⟨_,e⟩<;>omega
theorem RAt.next{b:List UInt8}{n k p u v:Nat}{l:List Smp}{far:Int}(h:RAt b n k l far p)(hk:k<n)(hu:Stand b p [u])(hv:Stand b (p+(7+digs u)) [v])(hm:mayB (rS l k far (rT k u) (zag v))=true)
 (ht:-1099511627776<=rT k u/\rT k u<=1099511627776):RAt b n (k+1) (l++[rS l k far (rT k u) (zag v)]) (rF k far (rT k u)) (p+(7+digs u)+(7+digs v)):=by
 have hl:=h.len;refine ⟨by rw [List.length_append,hl];rfl,hk,h.n120,hv.2.1,fun i hi=>?_,?_,fun _=>.inr (.inr trivial),fun lw h1 h2=>?_⟩
 ·by_cases hik:i<k
  ·rw [getD_snoc_old l _ _ (by omega)];exact h.may i hik
  ·obtain rfl:i=l.length:=by omega
   rw [getD_snoc_new];exact hm
 ·have h1:=h.far_
  by_cases h0:k=0
  ·unfold rF;rw [if_pos h0];exact h1
  ·have hmm:=mayB_iff.1 hm;have hpp:=mayB_iff.1 (h.may (k-1) (by omega));unfold rS at hmm;rw [if_neg h0] at hmm;have e:tOf l (k-1)=(l.getD (k-1) (0,0)).1:=rfl;simp only at hmm;omega
 ·obtain ⟨e1,e2,e3,e4⟩:=h.wit lw h1 h2;obtain ⟨eu,ev⟩:=h.nums hk hu h1 h2;have ev:=ev v hv;obtain ⟨_,_,_,_,s5,s6⟩:=h.said hk hu hv h1 h2;have hkl:k<lw.length:=by omega
  refine ⟨e1,?_,s6,?_⟩
  ·rw [s5,List.take_succ_eq_append_getElem hkl,getD_in _ _ hkl,e2]
  ·have e5:n::body lw (k+1)=(n::body lw k)++[tnum lw k,vnum lw k]:=rfl;rw [e5,endN_app,<-e4,<-eu,<-ev];rfl
def RefTold(w:World)(b:List UInt8)(e:Ending)(w':World):Prop :=
 (∃v l,e=.returned (.tuple #[v,.int .i64 0])/\OwnS w' w.heap.size v l/\chk l=0/\encL l=b)\/(e=.returned (.tuple #[.slice none 0 0,.int .i64 5])/\NoChunk b)
set_option maxRecDepth 20000 in
set_option maxHeartbeats 2000000 in
theorem decode_ref_told{w:World}{A:Option Addr}{b:List UInt8}{c:Nat}(hA:Bys w A b)(hl:b.length<=140737488355328):
 Calls Tryz.prog 90 #[.slice A b.length c] w fun e w'=>RefTold w b e w'/\Below w.heap.size w w':=by
 have HA:=zz (fun W (hW:Below w.heap.size w W)=>hA.below hW);have HGN:=zz (fun W (hW:Below w.heap.size w W) (a:Int)=>getnum_ref A b c ((8*b.length:Nat):Int) a W (hA.below hW) (by omega) (by omega) (by omega));have hX:Row (w.alloc (.cells #[.slice A b.length c,.int .i64 ((8*b.length:Nat):Int)] 126)) w.heap.size 126 #[.slice A b.length c,.int .i64 ((8*b.length:Nat):Int)]:=Row.new w _ _;have hb0:=below_one w (.cells #[.slice A b.length c,.int .i64 ((8*b.length:Nat):Int)] 126);have hcase:=read_stand (b:=b) (p:=0) (Nat.zero_le _);obtain ⟨N,hN⟩:∃N:Nat,8*b.length=N:=⟨_,rfl⟩;have w8:(8:Int)*(b.length:Int)=(N:Int):=by omega
 have w8':IntKind.i64.wrap (8*(b.length:Int))=(N:Int):=by rw [w8];exact IntWalk.i64_in _ (by omega)
 have w8'':IntKind.i64.wrap (N:Int)=(N:Int):=IntWalk.i64_in _ (by omega);have HN:=zz hN;rw [hN] at HGN hX hb0 hcase;clear hN hA;have HB0:=zz hb0;have HX:=zz hX;clear hb0 hX;have HG0:=zz (HGN.out _ HB0.out 0);rcases hcase with ⟨code,hc,hg⟩|⟨n,hsn,hg⟩
 ·have HNo:=zz (no_first hc (by rw [HN.out];exact hg));have hg':gnum b (N:Int) 0=(0,0,code):=hg;rw [hg'] at HG0;clear hg hg' HGN;go_enter Tryz.func90,Tryz.ntmps90
  go_wp2_with fail
  refine HG0.out.mono ?_;rintro e w1 ⟨rfl,hb1⟩
  go_wp2_with fail
  go_ret2;exact ⟨.inr ⟨rfl,HNo.out⟩,HB0.out.trans (hb1.mono HB0.out.size)⟩
 have hg':gnum b (N:Int) 0=(n,((0+(7+digs n):Nat):Int),0):=hg;rw [hg'] at HG0;have hn64:=hsn.2.2.1;clear hg hg'
 by_cases hn0:n<1
 ·have HNo:Hid (NoChunk b):=zz (by
   intro lw h1 h2;have h3:=wit_count h1;rw [h2] at h3;have h4:gnum b ((8*b.length:Nat):Int) ((0:Nat):Int)=_:=stand_read hsn;rw [h4] at h3;simp only [Prod.mk.injEq] at h3;have:=(chk_zero.1 h1).1;omega)
  have i1:decide ((n:Int)<1)=true:=by simp;omega
  clear hsn HGN;go_enter Tryz.func90,Tryz.ntmps90
  go_wp2_with fail
  refine HG0.out.mono ?_;rintro e w1 ⟨rfl,hb1⟩
  go_wp2_with fail
  go_ret2;exact ⟨.inr ⟨rfl,HNo.out⟩,HB0.out.trans (hb1.mono HB0.out.size)⟩
 have i1:decide ((n:Int)<1)=false:=by simp;omega
 by_cases hn:120<n
 ·have HNo:=zz (no_many hsn hn);have i2:decide ((120:Int)<(n:Int))=true:=by simp;omega
  clear hsn HGN;go_enter Tryz.func90,Tryz.ntmps90
  go_wp2_with fail
  refine HG0.out.mono ?_;rintro e w1 ⟨rfl,hb1⟩
  go_wp2_with fail
  go_ret2;exact ⟨.inr ⟨rfl,HNo.out⟩,HB0.out.trans (hb1.mono HB0.out.size)⟩
 have i2:decide ((120:Int)<(n:Int))=false:=by simp;omega
 have H0:=zz (RAt.first (by omega) hsn);have wn:IntKind.i64.wrap (n:Int)=(n:Int):=IntWalk.i64_in _ (by omega);generalize 0+(7+digs n)=p0 at *;clear hsn;go_enter Tryz.func90,Tryz.ntmps90
 go_wp2_with fail
 refine HG0.out.mono ?_;rintro e w1 ⟨rfl,hb1⟩;have HX1:=zz (HX.out.below hb1 HX.out.lt);have HB1:=zz (HB0.out.trans (hb1.mono HB0.out.size));clear hb1 HG0 HX HB0
 go_wp2_with fail
 go_loopw [6,8,9,10] (fun sp sl sf i wr=>∃(k p:Nat) (l:List Smp) (far:Int) (P:Option Addr) (cc:Nat),i=.int .i64 (k:Int)/\sp=.int .i64 (p:Int)/\sf=.int .i64 far/\sl=.slice P l.length cc/\OwnS wr w.heap.size (.slice P l.length cc) l /\
  Row wr w.heap.size 126 #[.slice A b.length c,.int .i64 (N:Int)]/\RAt b n k l far p/\Below w.heap.size w wr) (fun _ _ _ i _=>n-(intOf i).toNat)
 case atStart=>exact ⟨0,p0,[],0,none,0,rfl,rfl,rfl,rfl,owns_nil _ _,HX1.out,H0.out,HB1.out⟩
 case round =>
  clear HX1 HB1;obtain ⟨k,p,l,far,P,cc,rfl,rfl,rfl,rfl,hO,hXr,hAt,hbr⟩:=hrel;have hsz:=hbr.size;have hle:=hAt.le;have x0:wr.cell? ⟨w.heap.size,0,none⟩=some (.slice A b.length c):=hXr.cell 0;have x1:wr.cell? ⟨w.heap.size,1,none⟩=some (.int .i64 (N:Int)):=hXr.cell 1;have HAT:=zz hAt;have HO:=zz hO;have HXr:=zz hXr;have HBR:=zz hbr
  by_cases hk:k<n
  ·have i3:(k:Int)<(n:Int):=by omega
   have HGT:=zz (HGN.out wr hbr p);have hcase:=read_stand hAt.pos;rw [HN.out] at hcase;clear hO hXr hAt hbr;rcases hcase with ⟨code,hc,hg⟩|⟨u,hsu,hg⟩
   ·have HNo:=zz (HAT.out.noT hk hc (by rw [HN.out];exact hg));rw [hg] at HGT;clear hg
    go_wp2_with fail
    refine HGT.out.mono ?_;rintro e w2 ⟨rfl,hb2⟩
    go_wp2_with fail
    go_ret2;exact ⟨.inr ⟨rfl,HNo.out⟩,HBR.out.trans (hb2.mono HBR.out.size)⟩
   rw [hg] at HGT;have hq1:p+(7+digs u)<=8*b.length:=hsu.2.1;have hcase2:=read_stand hq1;rw [HN.out] at hcase2;clear hg;rcases hcase2 with ⟨code,hc,hg⟩|⟨v,hsv,hg⟩
   ·have HNo:=zz (HAT.out.noV hk hsu hc (by rw [HN.out];exact hg));have HGV:=zz (fun W hW=>by have:=HGN.out W hW ((p+(7+digs u):Nat):Int);rw [hg] at this;exact this);clear hg hq1;generalize p+(7+digs u)=q at *
    go_wp2_with fail
    refine HGT.out.mono ?_;rintro e w2 ⟨rfl,hb2⟩;have hX2:=HXr.out.below hb2 HXr.out.lt;have y0:w2.cell? ⟨w.heap.size,0,none⟩=some (.slice A b.length c):=hX2.cell 0;have y1:w2.cell? ⟨w.heap.size,1,none⟩=some (.int .i64 (N:Int)):=hX2.cell 1;have HB2:=zz (HBR.out.trans (hb2.mono HBR.out.size));clear hX2 hb2
    go_wp2_with fail
    refine (HGV.out w2 HB2.out).mono ?_;rintro e w3 ⟨rfl,hb3⟩
    go_wp2_with fail
    go_ret2;exact ⟨.inr ⟨rfl,HNo.out⟩,HB2.out.trans (hb3.mono HB2.out.size)⟩
   have HGV:=zz (fun W hW=>by have:=HGN.out W hW ((p+(7+digs u):Nat):Int);rw [hg] at this;exact this);have HSD:=zz (fun lw h1 h2=>HAT.out.said hk hsu hsv (lw:=lw) h1 h2);have HNX:=zz (HAT.out.next hk hsu hsv);have HBO:=zz (fun t' v' ht' hv'=>HAT.out.bound (t:=t') (v:=v') ht' hv');have HLL:=zz HAT.out.len;have hu64:=hsu.2.2.1;have hv64:=hsv.2.2.1;have HZU:=zz (fun W=>zag_ref u W hu64);have HZV:=zz (fun W=>zag_ref v W hv64);have bzu:=zag_range hu64;have bzv:=zag_range hv64;have HRT:=zz (show rT k u=if k<2 then wrp u else zag u from rfl);clear hg hq1 hsu hsv HAT;generalize hq1:p+(7+digs u)=q1 at *;generalize hq2:q1+(7+digs v)=q2 at *;clear hq1 hq2;generalize zag v=zv at *;generalize rT k u=tt at *
   go_wp2_with fail
   refine HGT.out.mono ?_;rintro e w2 ⟨rfl,hb2⟩;have hX2:=HXr.out.below hb2 HXr.out.lt;have y0:w2.cell? ⟨w.heap.size,0,none⟩=some (.slice A b.length c):=hX2.cell 0;have y1:w2.cell? ⟨w.heap.size,1,none⟩=some (.int .i64 (N:Int)):=hX2.cell 1;have HB2:=zz (HBR.out.trans (hb2.mono HBR.out.size));have hO2:=owns_below HO.out hb2;clear hb2 x0 x1
   go_wp2_with fail
   refine (HGV.out w2 HB2.out).mono ?_;rintro e w3 ⟨rfl,hb3⟩;have HX3:=zz (hX2.below hb3 hX2.lt);have HB3:=zz (HB2.out.trans (hb3.mono HB2.out.size));have HO3:=zz (owns_below hO2 hb3);clear hX2 hO2 hb3 y0 y1 HB2 HXr HO HGT HGV
   go_upto_if 71 with (go_at_call 127;refine (HZV.out _).mono ?_;rintro e w9 ⟨rfl,rfl⟩)
   go_cut [16] (fun s16 wx=>s16=.int .i64 tt/\wx=w3)
   case first =>
    by_cases hk2:k<2
    ·have d1:decide ((1:Int)<(k:Int))=false:=by simp;omega
     have e:tt=wrap64 (u:Int):=by rw [HRT.out,if_pos hk2];exact IntWalk.i64_left _
     go_wp2_with fail
     go_meet
     exact ⟨by rw [e],rfl⟩
    ·have d1:decide ((1:Int)<(k:Int))=true:=by simp;omega
     rw [if_neg hk2] at HRT;rw [<-HRT.out] at HZU
     go_wp2_with fail
     refine (HZU.out _).mono ?_;rintro e w9 ⟨rfl,rfl⟩
     go_wp2_with fail
     go_meet
     exact ⟨rfl,rfl⟩
   case rest =>
    obtain ⟨rfl,rfl⟩:=hcut
    by_cases hin:-1099511627776<=tt/\tt<=1099511627776/\-2305843009213693952<=zv/\zv<=2305843009213693952
    ·obtain ⟨t1,t2,z1,z2⟩:=hin;have d1:decide (tt < -1099511627776)=false:=decide_eq_false (by omega);have d2:decide (1099511627776<tt)=false:=decide_eq_false (by omega);have d3:decide (zv < -2305843009213693952)=false:=decide_eq_false (by omega);have d4:decide (2305843009213693952<zv)=false:=decide_eq_false (by omega);obtain ⟨f1,f2,f3⟩:=HBO.out tt zv ⟨t1,t2⟩ ⟨z1,z2⟩;have HF3:=zz f3;clear f3
     go_upto_if 92 with fail
     have hY:Row (wc.alloc (.cells #[.int .i64 tt,.int .i64 zv] 83)) wc.heap.size 83 #[.int .i64 tt,.int .i64 zv]:=Row.new wc _ _;have hX4:=HX3.out.alloc (.cells #[.int .i64 tt,.int .i64 zv] 83);have hO4:=owns_below HO3.out (below_one wc (.cells #[.int .i64 tt,.int .i64 zv] 83));have hB4:=HB3.out.alloc HB3.out.size (.cells #[.int .i64 tt,.int .i64 zv] 83);have hOb:∀q,(Value.slice P l.length cc).ownBlock=some q->q<wc.heap.size:=fun q hq=>(World.ownsRow.lt HO3.out q hq).2
     have hYb:w.heap.size<wc.heap.size:=HX3.out.lt;generalize hYY:wc.heap.size=Y at *;generalize wc.alloc (.cells #[.int .i64 tt,.int .i64 zv] 83)=w4 at *;have HY:=zz hY;have HX4:=zz hX4;have HO4:=zz hO4;have HB4:=zz hB4;have HOb:=zz hOb;clear hY hX4 hO4 hB4 hOb d1 d2 d3 d4 HX3 HO3 HB3 hYY
     go_cut [9] (fun s9 wx=>s9=.int .i64 (rF k far tt)/\Row wx Y 83 #[.int .i64 (rS l k far tt zv).1,.int .i64 (rS l k far tt zv).2]/\OwnS wx w.heap.size (.slice P l.length cc) l/\Row wx w.heap.size 126 #[.slice A b.length c,.int .i64 (N:Int)]/\Below w.heap.size w wx)
     case first =>
      by_cases hk0:k=0
      ·have d5:decide ((0:Int)<(k:Int))=false:=by simp;omega
       go_wp2_with fail
       go_meet
       exact ⟨by unfold rF;rw [if_pos hk0],by unfold rS;rw [if_pos hk0];exact HY.out,HO4.out,HX4.out,HB4.out⟩
      ·have d5:decide ((0:Int)<(k:Int))=true:=by simp;omega
       obtain ⟨m1,m2,m3,m4⟩:=HF3.out (by omega);have HS:=zz (show rS l k far tt zv=(tOf l (k-1)+rF k far tt,vOf l (k-1)+zv) by unfold rS;rw [if_neg hk0]);obtain ⟨P',cc',hv',_,hS4,_⟩:=owns_slice HO4.out;injection hv' with e7 _ e8;subst e7;obtain ⟨bb,oo,rfl,hbb,g0,g1⟩:=hS4.at_ (show k-1<l.length by have:=HLL.out;omega);have hkj:(k:Int)-1=((k-1:Nat):Int):=by omega
       have hjl:((k-1:Nat):Int)<(l.length:Int):=by have:=HLL.out;omega
       have HFC:=zz (rF_cases k far tt);generalize tOf l (k-1)=T1 at *;generalize vOf l (k-1)=V1 at *;generalize hjj:k-1=j at *;have HJ:=zz hjj;have wrj:IntKind.i64.wrap ((k:Int)-1)=(j:Int):=by rw [hkj];exact IntWalk.i64_in _ (by omega)
       have wrjj:IntKind.i64.wrap (j:Int)=(j:Int):=IntWalk.i64_in _ (by omega);have y0:w4.cell? ⟨Y,0,none⟩=some (.int .i64 tt):=HY.out.cell 0;have y1:w4.cell? ⟨Y,1,none⟩=some (.int .i64 zv):=HY.out.cell 1;have z0:=HY.out.frozen 0;have z1:=HY.out.frozen 1;generalize rF k far tt=F at *;have wrT:IntKind.i64.wrap (T1+F)=T1+F:=IntWalk.i64_in _ (by omega);have wrV:IntKind.i64.wrap (V1+zv)=V1+zv:=IntWalk.i64_in _ (by omega);clear hS4 e8 hjj
       by_cases hk1:k=1
       ·have hmin:min (j:Int) 1=0:=by have:=HJ.out;omega
        have hF:tt=F:=by rcases HFC.out with ⟨c,_⟩|⟨_,e⟩|⟨c,_⟩<;>omega
        subst hF;clear hk1
        go_wp2_with fail
        go_region
        all_goals
         go_wp2_with fail
         go_meet
         refine ⟨rfl,?_,?_,?_,?_⟩
         ·rw [HS.out];exact (HY.out.setAt 0 _).setAt 1 _
         ·exact rows_move (rows_move HO4.out fun q hq=>Below.heap_setCell w4 ⟨Y,0,none⟩ _ q (by have:=HOb.out q hq;show q≠Y;omega)) fun q hq=>Below.heap_setCell (w4.setCell ⟨Y,0,none⟩ _) ⟨Y,1,none⟩ _ q (by have:=HOb.out q hq;show q≠Y;omega)
         ·exact (Row.setFar (HX4.out) (p:=⟨Y,0,none⟩) (by show w.heap.size≠Y;omega) _).setFar (p:=⟨Y,1,none⟩) (by show w.heap.size≠Y;omega) _
         ·exact ((HB4.out.setCell (p:=⟨Y,0,none⟩) (by show w.heap.size<=Y;omega) _).setCell (p:=⟨Y,1,none⟩) (by show w.heap.size<=Y;omega) _).drew
       ·have hmin:min (j:Int) 1=1:=by have:=HJ.out;omega
        have hF:far+tt=F:=by rcases HFC.out with ⟨c,_⟩|⟨c,_⟩|⟨_,e⟩<;>omega
        go_wp2_with fail
        go_region
        all_goals
         go_wp2_with fail
         go_meet
         refine ⟨rfl,?_,?_,?_,?_⟩
         ·rw [HS.out];exact (HY.out.setAt 0 _).setAt 1 _
         ·exact rows_move (rows_move HO4.out fun q hq=>Below.heap_setCell w4 ⟨Y,0,none⟩ _ q (by have:=HOb.out q hq;show q≠Y;omega)) fun q hq=>Below.heap_setCell (w4.setCell ⟨Y,0,none⟩ _) ⟨Y,1,none⟩ _ q (by have:=HOb.out q hq;show q≠Y;omega)
         ·exact (Row.setFar (HX4.out) (p:=⟨Y,0,none⟩) (by show w.heap.size≠Y;omega) _).setFar (p:=⟨Y,1,none⟩) (by show w.heap.size≠Y;omega) _
         ·exact ((HB4.out.setCell (p:=⟨Y,0,none⟩) (by show w.heap.size<=Y;omega) _).setCell (p:=⟨Y,1,none⟩) (by show w.heap.size<=Y;omega) _).drew
     case rest =>
      obtain ⟨rfl,hY5,hO5,hX5,hB5⟩:=hcut;have y0:wc.cell? ⟨Y,0,none⟩=some (.int .i64 (rS l k far tt zv).1):=hY5.cell 0;have y1:wc.cell? ⟨Y,1,none⟩=some (.int .i64 (rS l k far tt zv).2):=hY5.cell 1;have hM:=fun W=>may_ref (rS l k far tt zv).1 (rS l k far tt zv).2 W
      have HLEN:=zz (show (l.length+[((rS l k far tt zv).1,(rS l k far tt zv).2)].length)*16<=140737488355328 by have:=HLL.out;simp;omega);have HNN:=zz (fun hm=>HNX.out hm ⟨t1,t2⟩);have HSD2:=zz (show mayB (rS l k far tt zv)=false->NoChunk b from fun hm lw h1 h2=>by
       obtain ⟨_,_,_,_,s5,_⟩:=HSD.out lw h1 h2;obtain ⟨_,l1,hg⟩:=chk_zero.1 h1
       by_cases hkl:k<lw.length
       ·have:=(hg k hkl).1;rw [<-s5,hm] at this
        cases this
       ·have h3:mayB (lw.getD k (0,0))=true:=by rw [getD_out _ _ (by omega)];decide
        rw [<-s5,hm] at h3
        cases h3)
      have hpair:((rS l k far tt zv).1,(rS l k far tt zv).2)=rS l k far tt zv:=rfl
      cases hm:mayB (rS l k far tt zv)
      ·have HNo:=zz (HSD2.out hm);rw [show mayB ((rS l k far tt zv).1,(rS l k far tt zv).2)=false from hm] at hM;have HM:=zz hM;have HB5:=zz hB5;clear hM hY5 hO5 hX5 hB5 HNN HSD2 HSD HNX HLEN hm hpair;generalize rS l k far tt zv=S at *;generalize rF k far tt=F at *
       go_wp2_with fail
       refine (HM.out _).mono ?_;rintro e w6 ⟨rfl,hb6⟩
       go_wp2_with fail
       go_ret2;exact ⟨.inr ⟨rfl,HNo.out⟩,HB5.out.trans (hb6.mono HB5.out.size)⟩
      ·rw [show mayB ((rS l k far tt zv).1,(rS l k far tt zv).2)=true from hm] at hM;have HM:=zz hM;have HNX2:=zz (HNN.out hm);have HY5:=zz hY5;have HO5:=zz hO5;have HX5:=zz hX5;have HB5:=zz hB5;clear hM hY5 hO5 hX5 hB5 HNN HSD2 HSD HNX hm hpair HBO HF3;generalize rS l k far tt zv=S at *;generalize rF k far tt=F at *;obtain ⟨S1,S2⟩:=S;simp only at y0 y1 HM HY5
       go_wp2_with fail
       refine (HM.out _).mono ?_;rintro e w6 ⟨rfl,hb6⟩;have hY6:=HY5.out.below hb6 HY5.out.lt;have z0:w6.cell? ⟨Y,0,none⟩=some (.int .i64 S1):=hY6.cell 0;have z1:w6.cell? ⟨Y,1,none⟩=some (.int .i64 S2):=hY6.cell 1;have HX6:=zz (Row.alloc (HX5.out.below hb6 HX5.out.lt) (.cells #[.int .i64 S1,.int .i64 S2] 83));have HO6:=zz (owns_below (owns_below HO5.out hb6) (below_one w6 (.cells #[.int .i64 S1,.int .i64 S2] 83)));have HS6:=zz (smps_cell (Row.new w6 83 #[.int .i64 S1,.int .i64 S2]));have HB6:=zz ((HB5.out.trans (hb6.mono HB5.out.size)).alloc (Nat.le_trans HB5.out.size hb6.size) (.cells #[.int .i64 S1,.int .i64 S2] 83));have hs6:w.heap.size<=(w6.alloc (.cells #[.int .i64 S1,.int .i64 S2] 83)).heap.size:=HB6.out.size;have hXl6:=HX6.out.lt;have HXl:=zz HX5.out.lt;clear hb6 hY6 y0 y1
       go_wp2_with (at_builtin;refine app_smps rfl (.tmp 120) (.tmp 122) rfl w.heap.size (.slice P l.length cc) l rfl HO6.out (some ⟨w6.heap.size,0,none⟩) [(S1,S2)] 1 rfl HS6.out HLEN.out hs6 ?_;intro v7 w7 hO7 hb7 hg7;have HO7:=zz hO7;have HB7:=zz (HB6.out.trans hb7);have HX7:=zz ((hg7.block w.heap.size hXl6 (fun e=>rows_ne HX6.out HO6.out (by decide) e.symm)).trans HX6.out);obtain ⟨P7,c7,hv7,_,_,_⟩:=owns_slice hO7;generalize hl7:(l++[(S1,S2)]).length=l7 at hv7;have HLL7:=zz hl7;subst hv7;clear hO7 hb7 hg7 hl7)
       go_roundw
       case rel=>exact ⟨k+1,q2,l++[(S1,S2)],F,P7,c7,by go_num,rfl,rfl,by rw [HLL7.out],by rw [HLL7.out];exact HO7.out,HX7.out,HNX2.out,HB7.out⟩
       case measure=>simp [intOf];omega
    ·have HNo:Hid (NoChunk b):=zz (fun lw h1 h2=>hin (by obtain ⟨a1,a2,a3,a4,_⟩:=HSD.out lw h1 h2;exact ⟨a1,a2,a3,a4⟩))
     by_cases c1:tt < -1099511627776
     ·have d1:decide (tt < -1099511627776)=true:=decide_eq_true c1;clear hin c1
      go_wp2_with fail
      go_ret2;exact ⟨.inr ⟨rfl,HNo.out⟩,HB3.out⟩
     have d1:decide (tt < -1099511627776)=false:=decide_eq_false c1
     by_cases c2:1099511627776<tt
     ·have d2:decide (1099511627776<tt)=true:=decide_eq_true c2;clear hin c1 c2
      go_wp2_with fail
      go_ret2;exact ⟨.inr ⟨rfl,HNo.out⟩,HB3.out⟩
     have d2:decide (1099511627776<tt)=false:=decide_eq_false c2
     by_cases c3:zv < -2305843009213693952
     ·have d3:decide (zv < -2305843009213693952)=true:=decide_eq_true c3;clear hin c1 c2 c3
      go_wp2_with fail
      go_ret2;exact ⟨.inr ⟨rfl,HNo.out⟩,HB3.out⟩
     have d3:decide (zv < -2305843009213693952)=false:=decide_eq_false c3;have d4:decide (2305843009213693952<zv)=true:=decide_eq_true (by omega);clear hin c1 c2 c3
     go_wp2_with fail
     go_ret2;exact ⟨.inr ⟨rfl,HNo.out⟩,HB3.out⟩
  ·obtain rfl:k=n:=by omega
   have hl120:l.length<=120:=by have:=hAt.len;have:=hAt.n120;omega
   have HER:=zz (fun W (cc':Nat) hS=>encode_ref P l cc W hS (by omega));have HWL:Hid (∀lw,chk lw=0->encL lw=b->l=lw):=zz (fun lw h1 h2=>by
    obtain ⟨e1,e2,_,_⟩:=hAt.wit lw h1 h2;rw [e2,<-e1,List.take_length])
   obtain ⟨P',cc',hv',_,hS,_⟩:=owns_slice hO;injection hv' with e7 _ e8;subst e7;have HE:=zz (HER.out wr 0 hS);clear hO hAt hXr x0 x1 HAT HXr HER e8 hS
   by_cases hc0:chk l=0
   ·rw [if_pos hc0,hc0] at HE
    by_cases hcb:encL l=b
    ·have q1:((txt b).toList !=(txt b).toList)=false:=bne_self_eq_false _;have HH:=zz (And.intro hc0 hcb);rw [hcb] at HE;clear hc0 hcb HGN
     go_wp2_with fail
     refine HE.out.mono ?_;rintro e w3 ⟨v3,rfl,⟨B,d,hv3,hB⟩,hb3⟩;subst hv3;have HB3:=zz (HBR.out.trans (hb3.mono HBR.out.size));have x1:(convert 24 9 (.slice B b.length d)).run Tryz.prog w3=.ok (.string (txt b)) w3:=conv_bys _ _ _ _ hB;have x2:(convert 24 9 (.slice A b.length c)).run Tryz.prog w3=.ok (.string (txt b)) w3:=conv_bys _ _ _ _ (HA.out w3 HB3.out);have HO3:=zz (owns_below HO.out hb3);clear hb3 hB
     go_wp2_with fail
     go_ret2;exact ⟨.inl ⟨_,l,rfl,HO3.out,HH.out.1,HH.out.2⟩,HB3.out⟩
    ·have HNo:Hid (NoChunk b):=zz (fun lw h1 h2=>hcb (by rw [HWL.out lw h1 h2];exact h2));have q1:((txt (encL l)).toList==(txt b).toList)=false:=by
      rw [beq_eq_false_iff_ne];intro h
      apply hcb
      simpa [txt,ByteArray.toList_eq] using h
     clear hc0 hcb HGN;generalize encL l=X at *
     go_wp2_with fail
     refine HE.out.mono ?_;rintro e w3 ⟨v3,rfl,⟨B,d,hv3,hB⟩,hb3⟩;subst hv3;have HB3:=zz (HBR.out.trans (hb3.mono HBR.out.size));have x1:(convert 24 9 (.slice B X.length d)).run Tryz.prog w3=.ok (.string (txt X)) w3:=conv_bys _ _ _ _ hB;have x2:(convert 24 9 (.slice A b.length c)).run Tryz.prog w3=.ok (.string (txt b)) w3:=conv_bys _ _ _ _ (HA.out w3 HB3.out);clear hb3 hB
     go_wp2_with fail
     go_ret2;exact ⟨.inr ⟨rfl,HNo.out⟩,HB3.out⟩
   ·have HNo:Hid (NoChunk b):=zz (fun lw h1 h2=>hc0 (by rw [HWL.out lw h1 h2];exact h1));rw [if_neg hc0] at HE;have hq:(chk l !=0)=true:=by rw [bne_iff_ne];exact hc0
    generalize chk l=ck at *;clear hc0 HGN
    go_wp2_with fail
    refine HE.out.mono ?_;rintro e w3 ⟨v3,rfl,⟨B,d,hv3,hB⟩,hb3⟩;rw [List.length_nil] at hv3;subst hv3;have HB3:=zz (HBR.out.trans (hb3.mono HBR.out.size));clear hb3 hB
    go_wp2_with fail
    go_ret2;exact ⟨.inr ⟨rfl,HNo.out⟩,HB3.out⟩
theorem dref_yes{w:World}{A:Option Addr}{b:List UInt8}{c:Nat}{l:List Smp}(hA:Bys w A b)(hl:b.length<=140737488355328)(hc:chk l=0)(he:encL l=b):
 Calls Tryz.prog 90 #[.slice A b.length c] w fun e w'=>∃v,e=.returned (.tuple #[v,.int .i64 0])/\OwnS w' w.heap.size v l/\Below w.heap.size w w':=by
 refine (decode_ref_told hA hl).mono ?_;rintro e w2 ⟨⟨v,m,rfl,hO,h1,h2⟩|⟨rfl,hno⟩,hb2⟩
 ·have:=enc_one h1 hc (h2.trans he.symm);subst this;exact ⟨v,rfl,hO,hb2⟩
 ·exact absurd he (hno l hc)
theorem dref_no{w:World}{A:Option Addr}{b:List UInt8}{c:Nat}(hA:Bys w A b)(hl:b.length<=140737488355328)(hno:NoChunk b):
 Calls Tryz.prog 90 #[.slice A b.length c] w fun e w'=>e=.returned (.tuple #[.slice none 0 0,.int .i64 5])/\Below w.heap.size w w':=by
 refine (decode_ref_told hA hl).mono ?_;rintro e w2 ⟨⟨v,m,rfl,hO,h1,h2⟩|⟨rfl,_⟩,hb2⟩
 ·exact absurd h2 (hno m h1)
 ·exact ⟨rfl,hb2⟩
end Go.Proofs.YtgdmcnoogacdaaaGreatDoor.Ch
