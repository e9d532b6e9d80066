/- In one text, written by lotify.py: ChRead2, ChDecode, ChDecode2, ChBounds. -/
import Derived.Test.YtgdmcnoogacdaaaGreatDoorBlLotG
import Derived.RegionDies
namespace Go.Proofs.YtgdmcnoogacdaaaGreatDoor.Ch
open Go.RowKit Go.Maps
set_option linter.unusedVariables false
def NoChunk(b:List UInt8):Prop:=∀lw,chk lw=0->encL lw≠b
def ReadTold(w:World)(X:Nat)(A:Option Addr)(b:List UInt8)(c base:Nat)(e:Ending)(w':World):Prop :=
 (∃v l us,e=.returned v/\OwnS w' base v l/\l.length<=120/\Rd w' X A b c (endN 0 us)/\Stand b 0 us/\(Good l->us=nums l)/\(∀lw,chk lw=0->encL lw=b->l=lw))\/(e=.panicked broken/\NoChunk b)
structure At5(b:List UInt8)(n k:Nat)(l:List Smp)(us:List Nat)(d:Int):Prop where
 len:l.length=k
 le:k<=n
 n120:n<=120
 st:Stand b 0 (n::us)
 good:Good l->us=body l k/\d=preD l k
 wit:∀lw,chk lw=0->encL lw=b->lw.length=n/\l=lw.take k
theorem stand_end{b:List UInt8}(us:List Nat):∀p,p<=8*b.length->Stand b p us->endN p us<=8*b.length:=by
 induction us with
 | nil=>intro p h _;exact h
 | cons x r ih=>intro p h hs;exact ih _ hs.2.1 hs.2.2.2
theorem At5.pos{b:List UInt8}{n k:Nat}{l:List Smp}{us:List Nat}{d:Int}(h:At5 b n k l us d):endN 0 (n::us)<=8*b.length:=stand_end _ 0 (Nat.zero_le _) h.st
theorem At5.first{b:List UInt8}{n:Nat}(hn:n<=120)(hs:Stand b 0 [n]):At5 b n 0 [] [] 0 :=
 ⟨rfl,Nat.zero_le _,hn,hs,fun _=>⟨rfl,rfl⟩,fun lw h1 h2=>⟨by
  have h3:=wit_count h1;rw [h2] at h3;have h4:gnum b ((8*b.length:Nat):Int) ((0:Nat):Int)=_:=stand_read hs;rw [h4] at h3;simp only [Prod.mk.injEq] at h3;exact h3.1.symm,by simp⟩⟩
theorem At5.posw{b:List UInt8}{n k:Nat}{l:List Smp}{us:List Nat}{d:Int}(h:At5 b n k l us d){lw:List Smp}(h1:chk lw=0)(h2:encL lw=b):us=body lw k/\d=preD (lw.take k) k:=by
 obtain ⟨e1,e2⟩:=h.wit lw h1 h2;obtain ⟨_,_,hg⟩:=chk_zero.1 h1;have hgl:Good l:=by
  rw [e2];intro i hi;rw [List.length_take] at hi;have:=hg i (by omega);unfold tOf at this ⊢;rw [getD_in (lw.take k) _ (by rw [List.length_take];omega),List.getElem_take];rw [getD_in lw _ (by omega)] at this;refine ⟨this.1,fun h0=>?_⟩;have h3:=this.2 h0;rw [getD_in (lw.take k) _ (by rw [List.length_take];omega),List.getElem_take];rw [getD_in lw _ (by omega)] at h3;exact h3
 obtain ⟨e3,e4⟩:=h.good hgl;rw [e2] at e3 e4;refine ⟨e3.trans ?_,e4⟩;have hk:k<=lw.length:=by have:=h.le;omega
 have:∀m,m<=k->body (lw.take k) m=body lw m:=by
  intro m hm;have hh:lw=lw.take k++lw.drop k:=(List.take_append_drop k lw).symm;clear e3 e4 e2 h2 h1
  induction m with
  | zero=>rfl
  | succ m ih =>
    unfold body;rw [ih (by omega)]
    congr 1
    have ht:∀i,i<k->tOf (lw.take k) i=tOf lw i/\vOf (lw.take k) i=vOf lw i:=by
     intro i hi;unfold tOf vOf;rw [getD_in (lw.take k) _ (by rw [List.length_take];omega),List.getElem_take,getD_in lw _ (by omega)];exact ⟨rfl,rfl⟩
    have hpt:∀i,i<=k->preT (lw.take k) i=preT lw i/\preV (lw.take k) i=preV lw i:=by
     intro i hi;unfold preT preV
     split
     ·exact ⟨rfl,rfl⟩
     ·exact ht _ (by omega)
    have hd:∀i,i<k->dist (lw.take k) i=dist lw i:=by
     intro i hi;unfold dist;rw [(ht i hi).1,(hpt i (by omega)).1]
    have hpd:∀i,i<=k->preD (lw.take k) i=preD lw i:=by
     intro i hi;unfold preD
     split
     ·rfl
     ·exact hd _ (by omega)
    unfold tnum vnum;rw [hd m (by omega),hpd m (by omega),(ht m (by omega)).2,(hpt m (by omega)).2]
 exact this k (Nat.le_refl _)
theorem At5.next{b:List UInt8}{n k:Nat}{l:List Smp}{us:List Nat}{d:Int}{u v:Nat}(h:At5 b n k l us d)(hk:k<n)(hu:Stand b (endN 0 (n::us)) [u])(hv:Stand b (endN 0 (n::us)+(7+digs u)) [v]):
 At5 b n (k+1) (l++[newS l d u v]) (us++[u,v]) (newD k d u):=by
 have hl:=h.len;have hst:Stand b 0 (n::(us++[u,v])):=by
  have e:n::(us++[u,v])=(n::us)++[u,v]:=rfl;rw [e,stand_app];exact ⟨h.st,hu.1,hu.2.1,hu.2.2.1,hv⟩
 refine ⟨by rw [List.length_append,hl];rfl,hk,h.n120,hst,fun hg=>?_,fun lw h1 h2=>?_⟩
 ·have:=step_good (us:=us) hu.2.2.1 hv.2.2.1 (by rw [hl];exact h.good) hg;rw [hl] at this;exact this
 ·obtain ⟨e1,e2⟩:=h.wit lw h1 h2;obtain ⟨e3,e4⟩:=h.posw h1 h2;obtain ⟨_,_,hg⟩:=chk_zero.1 h1;refine ⟨e1,?_⟩;have w1:=wit_stand h1 (i:=k) (by omega);obtain ⟨r,hr⟩:=w1;rw [h2,e1,<-e3] at hr;have eu:u=tnum lw k:=has_one hu.1 hr.1 hu.2.2.1 hr.2.2.1;have ev:v=vnum lw k:=by
   have hr2:=hr.2.2.2;rw [<-eu] at hr2;exact has_one hv.1 hr2.1 hv.2.2.1 hr2.2.2.1
  have w2:=(step_wit hg (i:=k) (by omega)).1;have e5:newS l d u v=lw.getD k (0,0):=by
   rw [e4,eu,ev,e2];exact w2
  have hkl:k<lw.length:=by omega
  rw [List.take_succ_eq_append_getElem hkl,e5,getD_in _ _ hkl,e2]
theorem At5.noT{b:List UInt8}{n k:Nat}{l:List Smp}{us:List Nat}{d:Int}{code:Int}(h:At5 b n k l us d)(hk:k<n)(hc:(code !=0)=true)(hg:gnum b ((8*b.length:Nat):Int) ((endN 0 (n::us):Nat):Int)=(0,0,code)):NoChunk b:=by
 intro lw h1 h2;obtain ⟨e1,e2⟩:=h.wit lw h1 h2;obtain ⟨e3,_⟩:=h.posw h1 h2;have:=wit_t h1 (i:=k) (by omega);rw [h2,e1,<-e3,hg] at this;simp only [Prod.mk.injEq] at this;exact absurd this.2.2 (bne_iff_ne.1 hc)
theorem At5.noV{b:List UInt8}{n k:Nat}{l:List Smp}{us:List Nat}{d:Int}{code:Int}{u:Nat}(h:At5 b n k l us d)(hk:k<n)(hu:Stand b (endN 0 (n::us)) [u])(hc:(code !=0)=true)(hg:gnum b ((8*b.length:Nat):Int) ((endN 0 (n::us)+(7+digs u):Nat):Int)=(0,0,code)):NoChunk b:=by
 intro lw h1 h2;obtain ⟨e1,e2⟩:=h.wit lw h1 h2;obtain ⟨e3,_⟩:=h.posw h1 h2;obtain ⟨r,hr⟩:=wit_stand h1 (i:=k) (by omega);rw [h2,e1,<-e3] at hr;have eu:u=tnum lw k:=has_one hu.1 hr.1 hu.2.2.1 hr.2.2.1;have:=wit_v h1 (i:=k) (by omega);rw [h2,e1,<-e3,<-eu,hg] at this;simp only [Prod.mk.injEq] at this;exact absurd this.2.2 (bne_iff_ne.1 hc)
theorem no_first{b:List UInt8}{code:Int}(hc:(code !=0)=true)(hg:gnum b ((8*b.length:Nat):Int) ((0:Nat):Int)=(0,0,code)):NoChunk b:=by
 intro lw h1 h2;have:=wit_count h1;rw [h2,hg] at this;simp only [Prod.mk.injEq] at this;exact absurd this.2.2 (bne_iff_ne.1 hc)
theorem no_many{b:List UInt8}{u:Nat}(hu:Stand b 0 [u])(h:120<u):NoChunk b:=by
 intro lw h1 h2;have h3:=wit_count h1;rw [h2] at h3;have h4:gnum b ((8*b.length:Nat):Int) ((0:Nat):Int)=_:=stand_read hu;rw [h4] at h3;simp only [Prod.mk.injEq] at h3;have:=(chk_zero.1 h1).2.1;omega
theorem owns_two{w w':World}{F X:Nat}{v:Value}{l:List Smp}(h:OwnS w (F+1) v l)(ht:Two w w' X X)(hX:X<=F):OwnS w' (F+1) v l :=
 rows_move h fun k hk=>by have:=World.ownsRow.lt h k hk;exact ht.block k this.2 (by omega) (by omega)
theorem owns_set{w:World}{F:Nat}{v:Value}{l:List Smp}(h:OwnS w (F+1) v l)(i:Nat)(u:Value):OwnS (w.setCell ⟨F,i,none⟩ u) (F+1) v l :=
 rows_move h fun k hk=>by have:=World.ownsRow.lt h k hk;exact Below.heap_setCell w ⟨F,i,none⟩ u k (by show k≠F;omega)
set_option maxRecDepth 20000 in
set_option maxHeartbeats 2000000 in
theorem read_prog{w:World}{X base:Nat}{A:Option Addr}{b:List UInt8}{c:Nat}(h:Rd w X A b c 0)(hA:∀W,Below base w W->Bys W A b)(hX:base<=X)(hl:b.length<=140737488355328):
 Calls Tryz.prog 166 #[.func (.func 167) #[.pointer (some ⟨X,0,none⟩)] #[]] w fun e w'=>ReadTold w X A b c base e w'/\Below base w w':=by
 have HA:=zz hA;have hXl:=h.lt;clear hA;have hg0:(0:Nat)<=8*b.length:=Nat.zero_le _;rcases read_stand (p:=0) hg0 with ⟨code,hc,hg⟩|⟨n,hsn,hg⟩
 ·have HN:=zz (rnum_no h (HA.out w (Below.refl _ _)) hl hc hg);have HNo:=zz (no_first hc hg);clear hg h hc;go_enter Tryz.func166,Tryz.ntmps166
  go_wp2_with fail
  refine HN.out.mono ?_;rintro e w1 ⟨rfl,hb1⟩
  go_wp2_with fail
  exact ⟨rfl,.inr ⟨rfl,HNo.out⟩,Two.below (Below.refl base w) hb1 (by omega) hX hX⟩
 have HN:=zz (rnum_yes (q:=0+(7+digs n)) h (HA.out w (Below.refl _ _)) hl hg);clear hg h;have hn64:=hsn.2.2.1
 by_cases hn:120<n
 ·have HNo:=zz (no_many hsn hn);have i1:decide ((n:Int)<=120)=false:=by simp;omega
  clear hsn;go_enter Tryz.func166,Tryz.ntmps166
  go_wp2_with fail
  refine HN.out.mono ?_;rintro e w1 ⟨rfl,hr1,hb1⟩
  go_wp2_with fail
  refine (must_no _).mono ?_;rintro e w2 ⟨rfl,rfl⟩
  go_wp2_with fail
  exact ⟨rfl,.inr ⟨rfl,HNo.out⟩,Two.below (Below.refl base w) hb1 (by omega) hX hX⟩
 have i1:decide ((n:Int)<=120)=true:=by simp;omega
 have H0:=zz (At5.first (by omega) hsn);have he0:0+(7+digs n)=endN 0 (n::[]):=rfl;rw [he0] at HN;have wn:IntKind.i64.wrap (n:Int)=(n:Int):=IntWalk.i64_in _ (by omega);clear hsn he0;go_enter Tryz.func166,Tryz.ntmps166
 go_wp2_with fail
 refine HN.out.mono ?_;rintro e w1 ⟨rfl,hr1,hb1⟩;have hB1:Below base w w1:=Two.below (Below.refl base w) hb1 (by omega) hX hX;have hs1:=hb1.size;have hF:Row (w1.alloc (.cells #[.int .i64 0,.int .i64 0] 83)) w1.heap.size 83 #[.int .i64 0,.int .i64 0]:=Row.new w1 _ _;have hr2:Rd (w1.alloc (.cells #[.int .i64 0,.int .i64 0] 83)) X A b c (endN 0 [n]):=hr1.alloc _;have hB2:=hB1.alloc (by omega) (.cells #[.int .i64 0,.int .i64 0] 83);have hXF:X<w1.heap.size:=by omega
 generalize hFF:w1.heap.size=F at *;clear hr1 hb1 hB1 HN
 go_wp2_with fail
 refine (must_yes _).mono ?_;rintro e w2 ⟨rfl,rfl⟩
 go_wp2_with fail
 go_loopw [4,6,16] (fun vl d i wr=>∃(k:Nat) (l:List Smp) (us:List Nat) (dd:Int) (P:Option Addr) (cc:Nat),i=.int .i64 (k:Int)/\d=.int .i64 dd/\vl=.slice P l.length cc/\OwnS wr (F+1) (.slice P l.length cc) l /\
  Row wr F 83 #[.int .i64 (preT l k),.int .i64 (preV l k)]/\Rd wr X A b c (endN 0 (n::us))/\At5 b n k l us dd/\Below base w wr) (fun _ _ i _=>n-(intOf i).toNat)
 case atStart=>exact ⟨0,[],[],0,none,0,rfl,rfl,rfl,owns_nil _ _,hF,hr2,H0.out,hB2⟩
 case round =>
  clear hF hr2 hB2 hFF;obtain ⟨k,l,us,dd,P,cc,rfl,rfl,rfl,hOr,hFr,hRr,hAt,hBr⟩:=hrel;have hsz:=hBr.size;have hle:=hAt.le;have hFl:=hFr.lt
  by_cases hk:k<n
  ·have i2:(k:Int)<(n:Int):=by omega
   have hAr:=HA.out wr hBr;have hpl:=plain_prog k;have HAT:=zz hAt;rcases read_stand hAt.pos with ⟨code,hc,hg⟩|⟨u,hsu,hg⟩
   ·have HNo:=zz (hAt.noT hk hc hg);have HNU:=zz (rnum_no hRr hAr hl hc hg);clear hg hc hAt hOr hFr hRr
    by_cases hk2:k<2
    ·have HP:=zz (fun W=>by have:=hpl W (by omega);rw [decide_eq_true hk2] at this;exact this);clear hpl
     go_wp2_with fail
     refine (HP.out _).mono ?_;rintro e w2 ⟨rfl,rfl⟩
     go_wp2_with fail
     refine HNU.out.mono ?_;rintro e w2 ⟨rfl,ht2⟩
     go_wp2_with fail
     exact ⟨rfl,.inr ⟨rfl,HNo.out⟩,Two.below hBr ht2 (by omega) hX hX⟩
    ·have HP:=zz (fun W=>by have:=hpl W (by omega);rw [decide_eq_false hk2] at this;exact this);clear hpl
     go_wp2_with fail
     refine (HP.out _).mono ?_;rintro e w2 ⟨rfl,rfl⟩
     go_wp2_with fail
     refine HNU.out.mono ?_;rintro e w2 ⟨rfl,ht2⟩
     go_wp2_with fail
     exact ⟨rfl,.inr ⟨rfl,HNo.out⟩,Two.below hBr ht2 (by omega) hX hX⟩
   ·have HNU:=zz (rnum_yes (q:=endN 0 (n::us)+(7+digs u)) hRr hAr hl hg);have hq1:endN 0 (n::us)+(7+digs u)<=8*b.length:=hsu.2.1;have HLL:=zz hAt.len;have HZU:=zz (fun W=>zag_prog u W hsu.2.2.1);generalize hpt:preT l k=PT at *;generalize hpv:preV l k=PV at *;have HPT:=zz hpt;have HPV:=zz hpv;have HK:=zz (fun w2 (ht2:Two wr w2 X X)=>(⟨(ht2.block F hFr.lt (by omega) (by omega)).trans hFr,owns_two hOr ht2 (by omega),Two.below hBr ht2 (by omega) hX hX,HA.out w2 (Two.below hBr ht2 (by omega) hX hX)⟩ :
     Row w2 F 83 #[.int .i64 PT,.int .i64 PV]/\OwnS w2 (F+1) (.slice P l.length cc) l/\Below base w w2/\Bys w2 A b))
    clear hg hAt hOr hFr hRr hpt hpv;have HP:=zz (fun W=>hpl W (by omega));clear hpl
    go_upto_if 20 with (go_at_call 106;refine (HP.out _).mono ?_;rintro e w2 ⟨rfl,rfl⟩)
    go_cut [6] (fun s6 wx=>s6=.int .i64 (newD k dd u)/\Row wx F 83 #[.int .i64 PT,.int .i64 PV]/\OwnS wx (F+1) (.slice P l.length cc) l/\Rd wx X A b c (endN 0 (n::us)+(7+digs u))/\Below base w wx)
    case first =>
     by_cases hk2:k<2
     ·rw [decide_eq_true hk2];have HDN:=zz (show newD k dd u=IntKind.i64.wrap (u:Int) by unfold newD;rw [if_pos hk2];rfl);generalize newD k dd u=D at *;have hD:IntKind.i64.wrap (u:Int)=D:=HDN.out.symm;have hD':wrap64 (u:Int)=D:=by rw [<-IntWalk.i64_left];exact hD
      clear HDN
      go_wp2_with fail
      refine HNU.out.mono ?_;rintro e w2 ⟨rfl,hr2,ht2⟩;have HK2:=zz (HK.out w2 ht2)
      go_wp2_with fail
      go_meet
      exact ⟨rfl,HK2.out.1,HK2.out.2.1,hr2,HK2.out.2.2.1⟩
     ·rw [decide_eq_false hk2];have HDN:=zz (show newD k dd u=IntKind.i64.wrap (dd+zag u) by unfold newD;rw [if_neg hk2];rfl);generalize newD k dd u=D at *;generalize zag u=zu at *;have hD:IntKind.i64.wrap (dd+zu)=D:=HDN.out.symm;have hD':wrap64 (dd+zu)=D:=by rw [<-IntWalk.i64_left];exact hD
      clear HDN
      go_wp2_with fail
      refine HNU.out.mono ?_;rintro e w2 ⟨rfl,hr2,ht2⟩;have HK2:=zz (HK.out w2 ht2)
      go_wp2_with fail
      refine (HZU.out _).mono ?_;rintro e w2 ⟨rfl,rfl⟩
      go_wp2_with fail
      go_meet
      exact ⟨rfl,HK2.out.1,HK2.out.2.1,hr2,HK2.out.2.2.1⟩
    case rest =>
     obtain ⟨rfl,hF2,hO2,hr2,hB2⟩:=hcut;have hA2:=HA.out wc hB2;have f0:wc.cell? ⟨F,0,none⟩=some (.int .i64 PT):=hF2.cell 0;have f1:wc.cell? ⟨F,1,none⟩=some (.int .i64 PV):=hF2.cell 1;have hFl2:=hF2.lt;generalize hDD:newD k dd u=D at *;have HDN:=zz hDD;clear hDD HNU HK HZU HP hAr;rcases read_stand hq1 with ⟨code,hc2,hg2⟩|⟨v,hsv,hg2⟩
     ·have HNo:=zz (HAT.out.noV hk hsu hc2 hg2);have HN2:=zz (rnum_no (w:=wc.drew) hr2 hA2 hl hc2 hg2);have HB2d:=zz (show Below base w wc.drew from hB2.drew);have HBs:=zz (show base<=wc.drew.heap.size from Nat.le_trans (by omega) hB2.size);have HF2k:=zz (fun w3 (ht3:Two wc.drew w3 X X)=>(show Row w3 F 83 #[.int .i64 PT,.int .i64 PV] from (ht3.block F hF2.lt (by omega) (by omega)).trans hF2));clear hr2 hA2 hO2 hF2 hg2
      go_wp2_with fail
      go_region_dies
      all_goals
       refine HN2.out.mono ?_;rintro e w3 ⟨rfl,ht3⟩;exact ⟨rfl,.inr ⟨rfl,HNo.out⟩,Two.below HB2d.out ht3 HBs.out hX hX⟩
     ·have HNX:=zz (HAT.out.next hk hsu hsv);have HNS:=zz (show newS l dd u v=(IntKind.i64.wrap (PT+D),IntKind.i64.wrap (PV+zag v)) by
       unfold newS;rw [HLL.out,HPT.out,HPV.out,HDN.out];rfl)
      have HZV:=zz (fun W=>zag_prog v W hsv.2.2.1);obtain ⟨T,hT⟩:∃T,IntKind.i64.wrap (PT+D)=T:=⟨_,rfl⟩;generalize zag v=zv at *;obtain ⟨V,hV⟩:∃V,IntKind.i64.wrap (PV+zv)=V:=⟨_,rfl⟩;have hT':wrap64 (PT+D)=T:=by rw [<-IntWalk.i64_left];exact hT
      have hV':wrap64 (PV+zv)=V:=by rw [<-IntWalk.i64_left];exact hV
      rw [hT,hV] at HNS;have HN2:=zz (rnum_yes (w:=wc.drew) (q:=endN 0 (n::us)+(7+digs u)+(7+digs v)) hr2 hA2 hl hg2);have HK2:=zz (fun w3 (ht3:Two wc.drew w3 X X)=>(⟨(ht3.block F hF2.lt (by omega) (by omega)).trans hF2,owns_two (w:=wc.drew) hO2 ht3 (by omega),Two.below (show Below base w wc.drew from hB2.drew) ht3 (Nat.le_trans (by omega) hB2.size) hX hX⟩ :
       Row w3 F 83 #[.int .i64 PT,.int .i64 PV]/\OwnS w3 (F+1) (.slice P l.length cc) l/\Below base w w3))
      clear hr2 hA2 hO2 hF2 hg2 hB2
      go_wp2_with fail
      have HF0:=zz (show ∀w3:World,Row w3 F 83 #[.int .i64 PT,.int .i64 PV]/\OwnS w3 (F+1) (.slice P l.length cc) l/\Below base w w3->Rd w3 X A b c (endN 0 (n::us)+(7+digs u)+(7+digs v)) ->
       Row ((w3.setCell ⟨F,0,none⟩ (.int .i64 T)).setCell ⟨F,1,none⟩ (.int .i64 V)) F 83 #[.int .i64 T,.int .i64 V]/\OwnS ((w3.setCell ⟨F,0,none⟩ (.int .i64 T)).setCell ⟨F,1,none⟩ (.int .i64 V)) (F+1) (.slice P l.length cc) l /\
       Rd ((w3.setCell ⟨F,0,none⟩ (.int .i64 T)).setCell ⟨F,1,none⟩ (.int .i64 V)) X A b c (endN 0 (n::us)+(7+digs u)+(7+digs v))/\Below base w ((w3.setCell ⟨F,0,none⟩ (.int .i64 T)).setCell ⟨F,1,none⟩ (.int .i64 V)) from fun w3 k1 k2 =>
        ⟨(k1.1.setAt 0 (.int .i64 T)).setAt 1 (.int .i64 V),owns_set (owns_set k1.2.1 0 (.int .i64 T)) 1 (.int .i64 V),Row.setFar (Row.setFar k2 (p:=⟨F,0,none⟩) (by show X≠F;omega) (.int .i64 T)) (p:=⟨F,1,none⟩) (by show X≠F;omega) (.int .i64 V),
          (k1.2.2.setCell (p:=⟨F,0,none⟩) (by show base<=F;omega) (.int .i64 T)).setCell (p:=⟨F,1,none⟩) (by show base<=F;omega) (.int .i64 V)⟩)
      go_cut [6] (fun s6 wx=>s6=.int .i64 D/\Row wx F 83 #[.int .i64 T,.int .i64 V]/\OwnS wx (F+1) (.slice P l.length cc) l/\Rd wx X A b c (endN 0 (n::us)+(7+digs u)+(7+digs v))/\Below base w wx)
      case first =>
       clear HAT HNX HNS HDN HLL HA H0 hsu hsv hq1
       go_region_with (first
        | (go_at_call 167
           refine HN2.out.mono ?_;rintro e w3 ⟨rfl,hr3,ht3⟩;have HK3:=zz (HK2.out w3 ht3);have hF3:=HK3.out.1;have y0:w3.cell? ⟨F,0,none⟩=some (.int .i64 PT):=hF3.cell 0;have y1:w3.cell? ⟨F,1,none⟩=some (.int .i64 PV):=hF3.cell 1;have z0:=hF3.frozen 0;have z1:=hF3.frozen 1;have HR3:=zz hr3;clear hF3 hr3 ht3)
        | (go_at_call 200
           refine (HZV.out _).mono ?_;rintro e w4 ⟨rfl,rfl⟩))
       all_goals (go_wp2_with fail;go_meet)
       all_goals exact ⟨rfl,HF0.out _ HK3.out HR3.out⟩
      case rest =>
       obtain ⟨rfl,hF5,hO5,hR5,hB5⟩:=hcut;have f0:wc.cell? ⟨F,0,none⟩=some (.int .i64 T):=hF5.cell 0;have f1:wc.cell? ⟨F,1,none⟩=some (.int .i64 V):=hF5.cell 1;have hFl5:=hF5.lt;have HO6:=zz (owns_below hO5 (below_one wc (.cells #[.int .i64 T,.int .i64 V] 83)));have HS6:=zz (smps_cell (Row.new wc 83 #[.int .i64 T,.int .i64 V]));have hFs:F+1<=(wc.alloc (.cells #[.int .i64 T,.int .i64 V] 83)).heap.size:=by simp;omega
       have HL6:=zz (show (l.length+[(T,V)].length)*16<=140737488355328 by have:=HLL.out;simp;omega);have HF6:=zz (hF5.alloc (.cells #[.int .i64 T,.int .i64 V] 83));have HR6:=zz (show Rd (wc.alloc (.cells #[.int .i64 T,.int .i64 V] 83)) X A b c (endN 0 (n::us)+(7+digs u)+(7+digs v)) from hR5.alloc _);have HB6:=zz (hB5.alloc (Nat.le_trans (by omega) hB5.size) (.cells #[.int .i64 T,.int .i64 V] 83));clear hF5 hO5 hR5 hB5
       go_wp2_with (at_builtin;refine app_smps rfl (.tmp 40) (.tmp 42) rfl (F+1) (.slice P l.length cc) l rfl HO6.out (some ⟨wc.heap.size,0,none⟩) [(T,V)] 1 rfl HS6.out HL6.out hFs ?_;intro v7 w7 hO7 hb7 _;have HO7:=zz hO7;have HB7:=zz hb7;obtain ⟨P7,c7,hv7,_,_,_⟩:=owns_slice hO7;generalize hl7:(l++[(T,V)]).length=l7 at hv7;have HLL7:=zz hl7;subst hv7;clear hO7 hb7 hl7)
       go_roundw
       case rel =>
        have hx:=HNX.out;rw [HNS.out] at hx;refine ⟨k+1,l++[(T,V)],us++[u,v],newD k dd u,P7,c7,by go_num,by rw [HDN.out],by rw [HLL7.out],by rw [HLL7.out];exact HO7.out,?_,?_,hx,HB6.out.trans (HB7.out.mono (by omega))⟩
        ·have e1:preT (l++[(T,V)]) (k+1)=T:=by
          show tOf (l++[(T,V)]) k=T
          rw [<-HLL.out,tOf_new]
         have e2:preV (l++[(T,V)]) (k+1)=V:=by
          show vOf (l++[(T,V)]) k=V
          rw [<-HLL.out,vOf_new]
         rw [e1,e2];exact (HB7.out.block F (by omega)).trans HF6.out
        ·have e3:endN 0 (n::(us++[u,v]))=endN 0 (n::us)+(7+digs u)+(7+digs v):=by
          have:n::(us++[u,v])=(n::us)++[u,v]:=rfl;rw [this,endN_app];rfl
         rw [e3];exact (HB7.out.block X (by omega)).trans HR6.out
       case measure=>simp [intOf];omega
  ·obtain rfl:k=n:=by omega
   go_wp2_with fail
   go_ret;refine ⟨.inl ⟨_,l,k::us,rfl,owns_lower hOr (by omega),by have:=hAt.len;omega,hRr,hAt.st,fun hg=>?_,fun lw h1 h2=>?_⟩,hBr⟩
   ·obtain ⟨e,_⟩:=hAt.good hg
    show k::us=l.length::body l l.length
    rw [hAt.len,e]
   ·obtain ⟨e1,e2⟩:=hAt.wit lw h1 h2;rw [e2,<-e1,List.take_length]
theorem end_yes{w:World}{X:Nat}{A:Option Addr}{b:List UInt8}{c p:Nat}(h:Rd w X A b c p)(hA:Bys w A b)(hl:b.length<=140737488355328)(hp:p<=8*b.length)(hr:rightB b (p:Int)=true):
 Calls Tryz.prog 169 #[.pointer (some ⟨X,0,none⟩)] w fun e w'=>e=.returned (.tuple #[])/\Below w.heap.size w w':=by
 have HR:=zz (fun W hW=>by have:=right_prog A b c (p:Int) W hW (by omega) (by omega);rw [hr] at this;exact this);have c0:w.cell? ⟨X,0,none⟩=some (.slice A b.length c):=Row.cell h 0;have c2:w.cell? ⟨X,2,none⟩=some (.int .i64 (p:Int)):=Row.cell h 2;have HAd:=zz (show Bys w.drew A b from hA);clear h hA hr;go_enter Tryz.func169,Tryz.ntmps169
 go_wp2_with fail
 go_region_with (first
  | (go_at_call 145;refine (HR.out _ HAd.out).mono ?_;rintro e w2 ⟨rfl,hb2⟩)
  | (go_at_call 168;refine (must_yes _).mono ?_;rintro e w3 ⟨rfl,rfl⟩))
 all_goals
  go_wp2_with fail
  go_end0
  exact ⟨rfl,(Below.refl _ _).drew.trans hb2⟩
theorem end_no{w:World}{X:Nat}{A:Option Addr}{b:List UInt8}{c p:Nat}(h:Rd w X A b c p)(hA:Bys w A b)(hl:b.length<=140737488355328)(hp:p<=8*b.length)(hr:rightB b (p:Int)=false):
 Calls Tryz.prog 169 #[.pointer (some ⟨X,0,none⟩)] w fun e w'=>e=.panicked broken/\Below w.heap.size w w':=by
 have HR:=zz (fun W hW=>by have:=right_prog A b c (p:Int) W hW (by omega) (by omega);rw [hr] at this;exact this);have c0:w.cell? ⟨X,0,none⟩=some (.slice A b.length c):=Row.cell h 0;have c2:w.cell? ⟨X,2,none⟩=some (.int .i64 (p:Int)):=Row.cell h 2;have HAd:=zz (show Bys w.drew A b from hA);clear h hA hr;go_enter Tryz.func169,Tryz.ntmps169
 go_wp2_with fail
 go_region_dies
 all_goals
  refine (HR.out _ HAd.out).mono ?_;rintro e w2 ⟨rfl,hb2⟩;rename_i Q' K hK;refine hK _ _ ?_;clear hK K;refine wpAny_ready (rs:=[11]) (by kernel_rfl) (by simp) ?_;refine AllReady.cons rfl (fun K hK=>?_) AllReady.nil
  go_simp
  refine (must_no _).mono ?_;rintro e w3 ⟨rfl,rfl⟩;exact ⟨rfl,rfl,(Below.refl _ _).drew.trans hb2⟩
theorem catch_panicking{C D:Nat}{x:Value}{y:Int}(u:TypeId)(pv:Value)(older:List PanicEntry)(w:World)(hC:Row w C 49 #[x])(hD:Row w D 25 #[.int .i64 y])(hx:x.oneCell'=true)(hCD:C≠D):
 CallsD Tryz.prog 165 #[.pointer (some ⟨C,0,none⟩),.pointer (some ⟨D,0,none⟩)] (.panicking ({ v:=.iface u pv,recovered:=false }::older)) w fun e u' w' =>
  e=.returned (.tuple #[])/\u'=.panicking ({ v:=.iface u pv,recovered:=true }::older)/\w'=(w.setCell ⟨C,0,none⟩ (.slice none 0 0)).setCell ⟨D,0,none⟩ (.int .i64 5):=by
 have c0:w.cell? ⟨C,0,none⟩=some x:=hC.cell 0;have d0:w.cell? ⟨D,0,none⟩=some (.int .i64 y):=hD.cell 0;have e0:=hC.frozen 0;have f0:=hD.frozen 0;refine callsD_of_wpS Tryz.func165 rfl fun c₀ cs hu=>?_
 apply wpS_seq
 apply wpS_region
 simp [wpOpsS,go_sem,recoverD,hu,Tryz.ntmps165,Exit.thenS];refine wpS_cond (t:=true) (by simp [Act.eval,Array.replicate]) ?_;simp only [if_true]
 apply wpS_region
 simp [wpOpsS,go_sem,c0,d0,e0,f0,bodyPostS,results,Tryz.results165]
theorem catch_idle(C D:Value)(w:World):
 CallsD Tryz.prog 165 #[C,D] .returning w fun e u' w'=>e=.returned (.tuple #[])/\u'=.returning/\w'=w:=by
 refine callsD_of_wpS Tryz.func165 rfl fun c₀ cs hu=>?_
 apply wpS_seq
 apply wpS_region
 simp [wpOpsS,go_sem,recoverD,hu,Tryz.ntmps165,Exit.thenS];refine wpS_cond (t:=false) (by simp [Act.eval,Array.replicate]) ?_;simp only [Bool.false_eq_true,if_false];refine wpS_of_wp (wp_skip ?_)
 cases c₀
 simp_all [bodyPostS,results,Tryz.results165]
def DecTold(w:World)(b:List UInt8)(base:Nat)(e:Ending)(w':World):Prop :=
 (∃v l,e=.returned (.tuple #[v,.int .i64 0])/\OwnS w' base v l/\chk l=0/\encL l=b)\/(e=.returned (.tuple #[.slice none 0 0,.int .i64 5])/\NoChunk b)
theorem caught{w:World}{C D:Nat}{x:Value}{y:Int}(hC:Row w C 49 #[x])(hD:Row w D 25 #[.int .i64 y])(hCD:C≠D):
 Row ((w.setCell ⟨C,0,none⟩ (.slice none 0 0)).setCell ⟨D,0,none⟩ (.int .i64 5)) C 49 #[.slice none 0 0]/\Row ((w.setCell ⟨C,0,none⟩ (.slice none 0 0)).setCell ⟨D,0,none⟩ (.int .i64 5)) D 25 #[.int .i64 5] :=
 ⟨(hC.setAt 0 _).setFar (p:=⟨D,0,none⟩) hCD _,(hD.setFar (p:=⟨C,0,none⟩) (Ne.symm hCD) _).setAt 0 _⟩
set_option maxRecDepth 20000 in
set_option maxHeartbeats 2000000 in
theorem samples_prog{w:World}{A:Option Addr}{b:List UInt8}{c:Nat}(hA:Bys w A b)(hl:b.length<=140737488355328):
 Calls Tryz.prog 128 #[.slice A b.length c] w fun e w'=>DecTold w b w.heap.size e w'/\Below w.heap.size w w':=by
 have hmf:∀(fn:Fn) (first cap:Array Value) (w:World),(Instr.makeFunc fn first cap).run Tryz.prog w=.ok (.func fn first cap) w:=fun _ _ _ _=>rfl
 obtain ⟨N,hN⟩:∃N:Nat,8*b.length=N:=⟨_,rfl⟩;have w8:(8:Int)*(b.length:Int)=(N:Int):=by omega
 have w8':IntKind.i64.wrap (8*(b.length:Int))=(N:Int):=by rw [w8];exact IntWalk.i64_in _ (by omega)
 have w8'':IntKind.i64.wrap (N:Int)=(N:Int):=IntWalk.i64_in _ (by omega);have HN:=zz hN;clear hN;go_enter_defers Tryz.func128,Tryz.ntmps128
 go_wp2_with fail
 have hW1:=below_one w (.cells #[.slice none 0 0] 49);have hW2:Below w.heap.size w ((w.alloc (.cells #[.slice none 0 0] 49)).alloc (.cells #[.int .i64 0] 25)):=hW1.alloc (by simp) _;have hW3:Below w.heap.size w (((w.alloc (.cells #[.slice none 0 0] 49)).alloc (.cells #[.int .i64 0] 25)).alloc (.cells #[.slice A b.length c,.int .i64 (N:Int),.int .i64 0] 257)):=hW2.alloc (by simp;omega) _;have hC:Row (((w.alloc (.cells #[.slice none 0 0] 49)).alloc (.cells #[.int .i64 0] 25)).alloc (.cells #[.slice A b.length c,.int .i64 (N:Int),.int .i64 0] 257)) w.heap.size 49 #[.slice none 0 0]:=((Row.new w _ _).alloc _).alloc _;have hD:Row (((w.alloc (.cells #[.slice none 0 0] 49)).alloc (.cells #[.int .i64 0] 25)).alloc (.cells #[.slice A b.length c,.int .i64 (N:Int),.int .i64 0] 257)) (w.heap.size+1) 25 #[.int .i64 0]:=(row_at w _ _ _).alloc _;have hX:Row (((w.alloc (.cells #[.slice none 0 0] 49)).alloc (.cells #[.int .i64 0] 25)).alloc (.cells #[.slice A b.length c,.int .i64 (N:Int),.int .i64 0] 257)) (w.heap.size+1+1) 257 #[.slice A b.length c,.int .i64 (N:Int),.int .i64 0]:=by
  have:=Row.new ((w.alloc (.cells #[.slice none 0 0] 49)).alloc (.cells #[.int .i64 0] 25)) 257 #[.slice A b.length c,.int .i64 (N:Int),.int .i64 0];rw [show ((w.alloc (.cells #[.slice none 0 0] 49)).alloc (.cells #[.int .i64 0] 25)).heap.size=w.heap.size+1+1 from by simp] at this;exact this
 generalize (((w.alloc (.cells #[.slice none 0 0] 49)).alloc (.cells #[.int .i64 0] 25)).alloc (.cells #[.slice A b.length c,.int .i64 (N:Int),.int .i64 0] 257))=w1 at *;have hRd:Rd w1 (w.heap.size+1+1) A b c 0:=by unfold Rd;rw [HN.out];exact hX
 clear hX hW1 hW2;refine (read_prog (base:=w.heap.size+1+1) hRd (fun W hW=>hA.below (hW3.trans (hW.mono (by omega)))) (Nat.le_refl _) hl).mono ?_;rintro e w2 ⟨h,hb2⟩;have KB:Below w.heap.size w w2:=hW3.trans (hb2.mono (by omega));have KC:=hC.below hb2 (by omega);have KD:=hD.below hb2 (by omega);clear hC hD hRd hW3 hb2;rcases h with ⟨v,l,us,rfl,hO,h120,hR2,hSt,hGd,hWit⟩|⟨rfl,hno⟩
 ·obtain ⟨P,cc,hv,_,_,_⟩:=owns_slice hO;subst hv;have c0:w2.cell? ⟨w.heap.size,0,none⟩=some (.slice none 0 0):=KC.cell 0;have cf:=KC.frozen 0;have hR3:Rd (w2.setCell ⟨w.heap.size,0,none⟩ (.slice P l.length cc)) (w.heap.size+1+1) A b c (endN 0 us):=Row.setFar hR2 (p:=⟨w.heap.size,0,none⟩) (by show w.heap.size+1+1≠w.heap.size;omega) _;have hO3:OwnS (w2.setCell ⟨w.heap.size,0,none⟩ (.slice P l.length cc)) (w.heap.size+1+1) (.slice P l.length cc) l:=rows_move hO fun k hk=>by have:=World.ownsRow.lt hO k hk;exact Below.heap_setCell w2 ⟨w.heap.size,0,none⟩ _ k (by show k≠w.heap.size;omega)
  have KB3:=KB.setCell (p:=⟨w.heap.size,0,none⟩) (Nat.le_refl _) (.slice P l.length cc);have KC3:=KC.setAt 0 (.slice P l.length cc);have KD3:=KD.setFar (p:=⟨w.heap.size,0,none⟩) (by show w.heap.size+1≠w.heap.size;omega) (.slice P l.length cc);obtain ⟨P',cc',hv',_,hS3,_⟩:=owns_slice hO3;injection hv' with e1 _ e3;subst e1;have hpos:=stand_end us 0 (Nat.zero_le _) hSt;have hA2:=hA.below KB;have HA3:=zz (hA.below KB3);have HCK:=zz (chk_prog P l cc _ hS3 (by omega));have HR3:=zz hR3;have HO3:=zz hO3;have HKB3:=zz KB3;have HKC3:=zz KC3;have HKD3:=zz KD3;have HSt:=zz hSt;have HGd:=zz hGd;have HWit:=zz hWit;clear hO hR2 hR3 hO3 KB3 KC3 KD3 hS3 hSt hGd hWit KB KC KD e3
  go_wp2_with fail
  refine HCK.out.mono ?_;rintro e w4 ⟨rfl,hb4⟩;have KB:=HKB3.out.trans (hb4.mono HKB3.out.size);have KC:Row w4 w.heap.size 49 #[.slice P l.length cc]:=HKC3.out.below hb4 HKC3.out.lt;have KD:=HKD3.out.below hb4 HKD3.out.lt;have hR4:Rd w4 (w.heap.size+1+1) A b c (endN 0 us):=HR3.out.below hb4 (Row.lt HR3.out);have hO4:=owns_below HO3.out hb4;have hA4:=HA3.out.below hb4;clear hb4 c0 cf
  by_cases hc:chk l=0
  ·rw [hc];have hgood:=HGd.out (chk_zero.1 hc).2.2
   cases hr:rightB b (endN 0 us:Int)
   ·have HNo:Hid (NoChunk b):=zz (by
     intro lw h1 h2;have e:=HWit.out lw h1 h2;rw [<-e] at h2;have h3:=enc_right l;rw [h2,<-hgood,hr] at h3
     cases h3)
    have HE:=zz (end_no hR4 hA4 hl hpos hr);clear hR4 hA4 hr hc
    go_wp2_with fail
    refine (must_yes _).mono ?_;rintro e w5 ⟨rfl,rfl⟩
    go_wp2_with fail
    refine HE.out.mono ?_;rintro e w5 ⟨rfl,hb5⟩
    replace KB:=KB.trans (hb5.mono KB.size)
    replace KC:Row w5 w.heap.size 49 #[.slice P l.length cc]:=KC.below hb5 KC.lt
    replace KD:=KD.below hb5 KD.lt
    go_wp2_with fail
    refine leaves_cons (f:=165) (args:=#[.pointer (some ⟨w.heap.size,0,none⟩),.pointer (some ⟨w.heap.size+1,0,none⟩)]) (by simp) (by simp [go_sem]) ?_;refine (catch_panicking 25 (.int .i64 5) [] _ KC KD (by rfl) (by omega)).mono ?_;rintro e u' w'' ⟨rfl,rfl,rfl⟩;obtain ⟨k1,k2⟩:=caught KC KD (by omega);have q1:=k1.cell 0;have q2:=k2.cell 0;simp only [List.getElem?_toArray,List.getElem?_cons_zero] at q1 q2;have HBZ:=zz ((KB.setCell (p:=⟨w.heap.size,0,none⟩) (Nat.le_refl _) (.slice none 0 0)).setCell (p:=⟨w.heap.size+1,0,none⟩) (by show w.heap.size<=w.heap.size+1;omega) (.int .i64 5));simp [Leaves,settle,results,Tryz.results128,go_sem,q1,q2];exact ⟨.inr ⟨rfl,HNo.out⟩,HBZ.out⟩
   ·have heq:=stand_whole HSt.out hr;rw [hgood] at heq;have HEQ:=zz (show encL l=b from heq.symm);have HCC:=zz hc;have HE:=zz (end_yes hR4 hA4 hl hpos hr);clear hR4 hA4 hr hc heq
    go_wp2_with fail
    refine (must_yes _).mono ?_;rintro e w5 ⟨rfl,rfl⟩
    go_wp2_with fail
    refine HE.out.mono ?_;rintro e w5 ⟨rfl,hb5⟩;have KB':=KB.trans (hb5.mono KB.size);have KC':Row w5 w.heap.size 49 #[.slice P l.length cc]:=KC.below hb5 KC.lt;have KD':Row w5 (w.heap.size+1) 25 #[.int .i64 0]:=KD.below hb5 KD.lt;have hO5:=owns_below hO4 hb5;have c0:w5.cell? ⟨w.heap.size,0,none⟩=some (.slice P l.length cc):=KC'.cell 0;have cf:=KC'.frozen 0;have d0:w5.cell? ⟨w.heap.size+1,0,none⟩=some (.int .i64 0):=KD'.cell 0;have df:=KD'.frozen 0;have HC5:=zz KC';have HD5:=zz KD';have HB5:=zz KB';have HO5:=zz hO5;clear KB KC KD KB' KC' KD' hO4 hO5 hb5
    go_wp2_with fail
    have r1:=(HC5.out.setAt 0 (.slice P l.length cc)).setFar (p:=⟨w.heap.size+1,0,none⟩) (by show w.heap.size≠w.heap.size+1;omega) (.int .i64 0);have r2:=(HD5.out.setFar (p:=⟨w.heap.size,0,none⟩) (by show w.heap.size+1≠w.heap.size;omega) (.slice P l.length cc)).setAt 0 (.int .i64 0);have q1:=r1.cell 0;have q2:=r2.cell 0;simp only [List.setIfInBounds_toArray,List.set_cons_zero,List.getElem?_toArray,List.getElem?_cons_zero] at q1 q2;have HO7:=zz (show OwnS ((w5.setCell ⟨w.heap.size,0,none⟩ (.slice P l.length cc)).setCell ⟨w.heap.size+1,0,none⟩ (.int .i64 0)) w.heap.size (.slice P l.length cc) l from
     owns_lower (rows_move (rows_move HO5.out fun k hk=>by have:=World.ownsRow.lt HO5.out k hk;exact Below.heap_setCell w5 ⟨w.heap.size,0,none⟩ (.slice P l.length cc) k (by show k≠w.heap.size;omega)) fun k hk=>by have:=World.ownsRow.lt HO5.out k hk;exact Below.heap_setCell (w5.setCell ⟨w.heap.size,0,none⟩ (.slice P l.length cc)) ⟨w.heap.size+1,0,none⟩ (.int .i64 0) k (by show k≠w.heap.size+1;omega)) (by omega))
    have HB7:=zz ((HB5.out.setCell (p:=⟨w.heap.size,0,none⟩) (Nat.le_refl _) (.slice P l.length cc)).setCell (p:=⟨w.heap.size+1,0,none⟩) (by show w.heap.size<=w.heap.size+1;omega) (.int .i64 0));refine leaves_cons (f:=165) (args:=#[.pointer (some ⟨w.heap.size,0,none⟩),.pointer (some ⟨w.heap.size+1,0,none⟩)]) (by simp) (by simp [go_sem]) ?_;refine (catch_idle _ _ _).mono ?_;rintro e u' w'' ⟨rfl,rfl,rfl⟩;simp [Leaves,settle,results,Tryz.results128,go_sem,q1,q2];exact ⟨.inl ⟨_,l,rfl,HO7.out,HCC.out,HEQ.out⟩,HB7.out⟩
  ·have HNo:Hid (NoChunk b):=zz (by
    intro lw h1 h2;have e:=HWit.out lw h1 h2;exact hc (by rw [e];exact h1))
   have hq:(chk l==0)=false:=by rw [beq_eq_false_iff_ne];exact hc
   generalize chk l=ck at *;clear hc hR4 hA4 hO4
   go_wp2_with fail
   refine (must_no _).mono ?_;rintro e w5 ⟨rfl,rfl⟩
   go_wp2_with fail
   refine leaves_cons (f:=165) (args:=#[.pointer (some ⟨w.heap.size,0,none⟩),.pointer (some ⟨w.heap.size+1,0,none⟩)]) (by simp) (by simp [go_sem]) ?_;refine (catch_panicking 25 (.int .i64 5) [] _ KC KD (by rfl) (by omega)).mono ?_;rintro e u' w'' ⟨rfl,rfl,rfl⟩;obtain ⟨k1,k2⟩:=caught KC KD (by omega);have q1:=k1.cell 0;have q2:=k2.cell 0;simp only [List.getElem?_toArray,List.getElem?_cons_zero] at q1 q2;have HBZ:=zz ((KB.setCell (p:=⟨w.heap.size,0,none⟩) (Nat.le_refl _) (.slice none 0 0)).setCell (p:=⟨w.heap.size+1,0,none⟩) (by show w.heap.size<=w.heap.size+1;omega) (.int .i64 5));simp [Leaves,settle,results,Tryz.results128,go_sem,q1,q2];exact ⟨.inr ⟨rfl,HNo.out⟩,HBZ.out⟩
 ·have HNo:=zz hno;clear hno
  go_wp2_with fail
  refine leaves_cons (f:=165) (args:=#[.pointer (some ⟨w.heap.size,0,none⟩),.pointer (some ⟨w.heap.size+1,0,none⟩)]) (by simp) (by simp [go_sem]) ?_;refine (catch_panicking 25 (.int .i64 5) [] _ KC KD (by rfl) (by omega)).mono ?_;rintro e u' w'' ⟨rfl,rfl,rfl⟩;obtain ⟨k1,k2⟩:=caught KC KD (by omega);have q1:=k1.cell 0;have q2:=k2.cell 0;simp only [List.getElem?_toArray,List.getElem?_cons_zero] at q1 q2;have HBZ:=zz ((KB.setCell (p:=⟨w.heap.size,0,none⟩) (Nat.le_refl _) (.slice none 0 0)).setCell (p:=⟨w.heap.size+1,0,none⟩) (by show w.heap.size<=w.heap.size+1;omega) (.int .i64 5));simp [Leaves,settle,results,Tryz.results128,go_sem,q1,q2];exact ⟨.inr ⟨rfl,HNo.out⟩,HBZ.out⟩
theorem decode_told{w:World}{A:Option Addr}{b:List UInt8}{c:Nat}(hA:Bys w A b)(hl:b.length<=140737488355328):
 Calls Tryz.prog 92 #[.slice A b.length c] w fun e w'=>DecTold w b w.heap.size e w'/\Below w.heap.size w w':=by
 have HS:=zz (samples_prog (c:=c) hA hl);clear hA;go_enter Tryz.func92,Tryz.ntmps92
 go_wp2_with fail
 refine HS.out.mono ?_;rintro e w2 ⟨⟨v,l,rfl,hO,h1,h2⟩|⟨rfl,hno⟩,hb2⟩
 ·obtain ⟨P,cc,hv,_,_,_⟩:=owns_slice hO;have HO:=zz hO;have HH:=zz (And.intro h1 h2);generalize hll:l.length=ll at hv;clear h1 h2 hO hll;subst hv
  go_wp2_with fail
  go_ret2;exact ⟨.inl ⟨_,l,rfl,HO.out,HH.out.1,HH.out.2⟩,hb2⟩
 ·have HH:=zz hno;clear hno
  go_wp2_with fail
  go_ret2;exact ⟨.inr ⟨rfl,HH.out⟩,hb2⟩
theorem decode_yes{w:World}{A:Option Addr}{b:List UInt8}{c:Nat}{l:List Smp}(hA:Bys w A b)(hl:b.length<=140737488355328)(hc:chk l=0)(he:encL l=b):
 Calls Tryz.prog 92 #[.slice A b.length c] w fun e w'=>∃v,e=.returned (.tuple #[v,.int .i64 0])/\OwnS w' w.heap.size v l/\Below w.heap.size w w':=by
 refine (decode_told hA hl).mono ?_;rintro e w2 ⟨⟨v,m,rfl,hO,h1,h2⟩|⟨rfl,hno⟩,hb2⟩
 ·have:=enc_one h1 hc (h2.trans he.symm);subst this;exact ⟨v,rfl,hO,hb2⟩
 ·exact absurd he (hno l hc)
theorem decode_no{w:World}{A:Option Addr}{b:List UInt8}{c:Nat}(hA:Bys w A b)(hl:b.length<=140737488355328)(hno:NoChunk b):
 Calls Tryz.prog 92 #[.slice A b.length c] w fun e w'=>e=.returned (.tuple #[.slice none 0 0,.int .i64 5])/\Below w.heap.size w w':=by
 refine (decode_told hA hl).mono ?_;rintro e w2 ⟨⟨v,m,rfl,hO,h1,h2⟩|⟨rfl,_⟩,hb2⟩
 ·exact absurd h2 (hno m h1)
 ·exact ⟨rfl,hb2⟩
theorem chunk_or(b:List UInt8):(∃l,chk l=0/\encL l=b)\/NoChunk b:=by
 by_cases h:∃l,chk l=0/\encL l=b
 ·exact .inl h
 ·exact .inr fun lw h1 h2=>h ⟨lw,h1,h2⟩
theorem enc_few{l:List Smp}(h:chk l=0):(encL l).length<=3000:=by
 have h1:=encN_len (nums l);have h2:=rowB_few h (Nat.le_refl _);unfold rowB at h2;rw [putNs_end] at h2;have h3:endN 0 (nums l)<=20000:=h2
 show (encN (nums l)).length<=3000
 omega
theorem bounds_yes{w:World}{A:Option Addr}{b:List UInt8}{c:Nat}{l:List Smp}(hA:Bys w A b)(hl:b.length<=140737488355328)(hc:chk l=0)(he:encL l=b):
 Calls Tryz.prog 159 #[.slice A b.length c] w fun e w'=>e=.returned (.tuple #[.int .i64 (l.length:Int),.int .i64 (tOf l 0),.int .i64 (tOf l (l.length-1)),.int .i64 0])/\Below w.heap.size w w':=by
 obtain ⟨l0,l120,hg⟩:=chk_zero.1 hc;have HD:=zz (decode_yes (c:=c) hA hl hc he);have i0:(0:Int)<(l.length:Int):=by omega
 have hj:(l.length:Int)-1=((l.length-1:Nat):Int):=by omega
 have hjl:((l.length-1:Nat):Int)<(l.length:Int):=by omega
 have HJ:=zz (show l.length-1<l.length by omega);have HL:=zz l0;clear hA hc he hg;go_enter Tryz.func159,Tryz.ntmps159
 go_wp2_with fail
 refine HD.out.mono ?_;rintro e w1 ⟨v1,rfl,hO1,hb1⟩;obtain ⟨P1,c1,hv1,_,hS1,_⟩:=owns_slice hO1;subst hv1;obtain ⟨bb,oo,rfl,hbb,hcc⟩:=hS1.all HL.out;have g0:=(hcc 0 HL.out).1;have g1:=(hcc (l.length-1) HJ.out).1;rw [Nat.zero_mul,Nat.add_zero] at g0;have hbd:=hb1.drew;generalize hT0:tOf l 0=T0 at *;generalize hT1:tOf l (l.length-1)=T1 at *;have HT0:=zz hT0;have HT1:=zz hT1;clear hT0 hT1;generalize hjj:l.length-1=j at *;have wrj:IntKind.i64.wrap ((l.length:Int)-1)=(j:Int):=by rw [hj];exact IntWalk.i64_in _ (by omega)
 have wrjj:IntKind.i64.wrap (j:Int)=(j:Int):=IntWalk.i64_in _ (by omega);have HJJ:=zz hjj;clear hO1 hS1 hcc hb1 hjj HJ
 go_wp2_with fail
 go_region
 all_goals
  go_wp2_with fail
  refine bodyPost_ret (v:=.tuple #[.int .i64 (l.length:Int),.int .i64 T0,.int .i64 T1,.int .i64 0]) (by simp [results,Tryz.results159,go_sem]) rfl ⟨by rw [HT0.out,HJJ.out,HT1.out],hbd⟩
theorem bounds_no{w:World}{A:Option Addr}{b:List UInt8}{c:Nat}(hA:Bys w A b)(hl:b.length<=140737488355328)(hno:NoChunk b):
 Calls Tryz.prog 159 #[.slice A b.length c] w fun e w'=>e=.returned (.tuple #[.int .i64 0,.int .i64 0,.int .i64 0,.int .i64 5])/\Below w.heap.size w w':=by
 have HD:=zz (decode_no (c:=c) hA hl hno);clear hA hno;go_enter Tryz.func159,Tryz.ntmps159
 go_wp2_with fail
 refine HD.out.mono ?_;rintro e w1 ⟨rfl,hb1⟩
 go_wp2_with fail
 refine bodyPost_ret (v:=.tuple #[.int .i64 0,.int .i64 0,.int .i64 0,.int .i64 5]) (by simp [results,Tryz.results159,go_sem]) rfl ⟨rfl,hb1⟩
end Go.Proofs.YtgdmcnoogacdaaaGreatDoor.Ch
