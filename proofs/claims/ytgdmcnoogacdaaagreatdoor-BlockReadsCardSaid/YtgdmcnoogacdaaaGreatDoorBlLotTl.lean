/- In one text, written by lotify.py: BlBnd, BlAll, BlTell, BlBnd2. -/
import Derived.Test.YtgdmcnoogacdaaaGreatDoorBlLotIdx
import Derived.StillTailTactics
import Derived.Lib.IndexAny
import Derived.Test.YtgdmcnoogacdaaaGreatDoorBlLotPo
import Derived.Lib.AppendZeros
namespace Go.Proofs.YtgdmcnoogacdaaaGreatDoor
open Go.RowKit Go.Maps
open Ch
set_option linter.unusedVariables false
set_option linter.unusedSimpArgs false
set_option maxRecDepth 100000
def bndT(S:List Ser):Nat->Int × Int
 | 0=>(0,0)
 | k+1=>(if k=0 then tOf (S.getD k ser0).2 0 else min (bndT S k).1 (tOf (S.getD k ser0).2 0),max (bndT S k).2 (tOf (S.getD k ser0).2 ((S.getD k ser0).2.length-1)))
set_option maxHeartbeats 4000000 in
theorem bounds12_ref(A:Option Addr)(S:List Ser)(c:Nat)(w:World)(hA:Sers w A S)(hz:blChk S=0):
 Calls Tryz.prog 45 #[.slice A S.length c] w fun e w'=>e=.returned (.tuple #[.int .i64 (bndT S S.length).1,.int .i64 (bndT S S.length).2])/\Below w.heap.size w w':=by
 obtain ⟨h256,h2,_,h4⟩:=blChk_zero.1 hz;have HA:=zz hA;have H4:=zz h4;have HCN:=zz (fun s (h:s∈S)=>Nat.le_trans (cntS_mem h) h2);have HBT:=zz (show ∀k,bndT S (k+1)=(if k=0 then tOf (S.getD k ser0).2 0 else min (bndT S k).1 (tOf (S.getD k ser0).2 0),max (bndT S k).2 (tOf (S.getD k ser0).2 ((S.getD k ser0).2.length-1))) from fun k=>rfl);obtain ⟨n,hn⟩:∃n,S.length=n:=⟨_,rfl⟩;have HN:=zz hn;rw [hn] at h256 ⊢;clear hA hz h4 h2 hn;go_enter Tryz.func45,Tryz.ntmps45
 go_wp2_with fail
 go_loopw [4,5,6] (fun lo hi i wr=>∃k:Nat,k<=n/\i=.int .i64 (k:Int)/\lo=.int .i64 (bndT S k).1/\hi=.int .i64 (bndT S k).2/\Below w.heap.size w wr) (fun _ _ i _=>n-(intOf i).toNat)
 case atStart=>exact ⟨0,Nat.zero_le _,rfl,rfl,rfl,Below.refl _ _⟩
 case round =>
  obtain ⟨k,hk,rfl,rfl,rfl,hbr⟩:=hrel;have HB:=zz hbr
  by_cases hlt:k<n
  ·have i1:decide ((k:Int)<(n:Int))=true:=decide_eq_true (by omega);have i2:(k:Int)<(n:Int):=by omega
   obtain ⟨b,o,rfl,hb,hat⟩:=HA.out.all (by rw [HN.out];omega);obtain ⟨mm,hsa⟩:=hat k (by rw [HN.out];exact hlt);have hmem:S.getD k ser0∈S:=ser_at (S:=S) (i:=k) (by rw [HN.out];exact hlt);obtain ⟨hne,hg⟩:=H4.out _ hmem;obtain ⟨_,g1,hin⟩:=hsa.below hbr hb;have hsm:=hin.samples;simp only at hsm;have hpos:=List.length_pos_iff.2 hne;obtain ⟨bs,os,hsa',hbs,hc⟩:=hsm.all hpos;rw [hsa'] at g1;have t0:=(hc 0 hpos).1;have t1:=(hc ((S.getD k ser0).2.length-1) (by omega)).1;rw [Nat.zero_mul,Nat.add_zero] at t0;have HK:=zz (show k+1<=n from hlt);have hbt:=HBT.out k;have hgf:=HCN.out _ hmem;obtain ⟨l2,hl2⟩:∃l2,(S.getD k ser0).2.length=l2:=⟨_,rfl⟩
   try rw [hl2] at g1
   try rw [hl2] at t1
   try rw [hl2] at hbt
   try rw [hl2] at hpos
   try rw [hl2] at hgf
   generalize tOf (S.getD k ser0).2 0=F at *;generalize tOf (S.getD k ser0).2 (l2-1)=Z at *;generalize (bndT S k).1=lo at *;generalize (bndT S k).2=hi at *;have HBK:=zz hbt;clear hbt;have hj:IntKind.i64.wrap ((l2:Int)-1)=((l2-1:Nat):Int):=by rw [show ((l2:Int)-1)=((l2-1:Nat):Int) by omega];exact IntWalk.i64_in _ (by omega)
   have hj2:IntKind.i64.wrap ((l2-1:Nat):Int)=((l2-1:Nat):Int):=IntWalk.i64_in _ (by omega);have hjl:((l2-1:Nat):Int)<(l2:Int):=by omega
   have hj0:(0:Int)<(l2:Int):=by omega
   clear hat hsa hin hsm hc hne hg hmem hbr hl2;generalize l2-1=j at *
   by_cases h0:k=0
   ·subst h0;have HB1:=zz (show bndT S 1=(F,max hi Z) by rw [HBK.out,if_pos rfl])
    go_wp2_with fail
    go_roundw
    case rel=>exact ⟨1,HK.out,rfl,by rw [HB1.out],by rw [HB1.out],HB.out⟩
    case measure=>simp [intOf];omega
   ·have r1:((k:Int)==0)=false:=by rw [beq_eq_false_iff_ne];omega
    have HB1:=zz (show bndT S (k+1)=(min lo F,max hi Z) by rw [HBK.out,if_neg h0])
    go_wp2_with fail
    go_roundw
    case rel=>exact ⟨k+1,HK.out,by go_num,by rw [HB1.out],by rw [HB1.out],HB.out⟩
    case measure=>simp [intOf];omega
  ·have hkn:k=n:=by omega
   subst hkn;have i1:decide ((k:Int)<(k:Int))=false:=decide_eq_false (by omega);have HN2:=zz HN.out;clear hbr
   go_wp2_with fail
   go_ret2;exact ⟨rfl,HB.out⟩
theorem bllen_yes{w:World}{base X:Nat}{S:List Ser}(h:BlkAt w base X S):Calls Tryz.prog 26 #[.pointer (some ⟨X,0,none⟩)] w fun e w'=>e=.returned (.int .i64 (S.length:Int))/\Below w.heap.size w w':=by
 have hf0:=fld0;have HIN:=zz (inside_prog h);have hl:(blSets S).length=S.length:=by simp [blSets]
 clear h;go_enter Tryz.func26,Tryz.ntmps26
 go_wp2_with fail
 refine HIN.out.mono ?_;rintro e w2 ⟨I,B,P,c,rfl,hB,hI,hQ,hb2⟩;have HLN:=zz (len_prog I (blSets S) B w2 hI);rw [hl] at HLN;have HB2:=zz hb2;clear hI hQ hb2 hl
 go_wp2_with fail
 refine HLN.out.mono ?_;rintro e w3 ⟨rfl,rfl⟩
 go_wp2_with fail
 go_ret;exact ⟨rfl,HB2.out⟩
theorem bllabels_yes{w:World}{base X:Nat}{S:List Ser}(h:BlkAt w base X S)(hr:blChk S=0)(id:Nat)(hid:id<S.length):Calls Tryz.prog 24 #[.pointer (some ⟨X,0,none⟩),.int .i64 (id:Int)] w fun e w'=>∃v,e=.returned (.tuple #[v,.int .i64 0])/\OwnL w' w.heap.size v ((blSets S).getD id [])/\Below w.heap.size w w':=by
 have hf0:=fld0;have HIN:=zz (inside_prog h);have hl:id<(blSets S).length:=by simp [blSets];exact hid
 have HR:=zz (blChk_zero.1 hr).2.2.1;clear h hr;go_enter Tryz.func24,Tryz.ntmps24
 go_wp2_with fail
 refine HIN.out.mono ?_;rintro e w2 ⟨I,B,P,c,rfl,hB,hI,hQ,hb2⟩;have HLN:=zz (labels_yes I (blSets S) B w2 hI HR.out id hl);have HB2:=zz hb2;clear hI hQ hb2 hl
 go_wp2_with fail
 refine HLN.out.mono ?_;rintro e w3 ⟨v,rfl,ho,hb3⟩;have HO:=zz (ownl_lower ho HB2.out.size);have HB3:=zz (below_then HB2.out hb3);clear ho hb3
 go_wp2_with fail
 go_ret2;exact ⟨_,rfl,HO.out,HB3.out⟩
def OwnSers(w:World)(base:Nat)(v:Value)(S:List Ser):Prop :=
 ∃ps:List SPl,ps.map (·.1)=S/\w.ownsRow base 65 2 v ps.length (ps.flatMap spE)/\∀x∈ps,OwnL w base (lsV x) x.1.1/\OwnS w base (ssV x) x.1.2
theorem ownsers_nil(w:World)(base:Nat):OwnSers w base (.slice none 0 0) []:=⟨[],rfl,⟨rfl,.inl ⟨rfl,rfl⟩⟩,fun q hq=>by cases hq⟩
theorem ownsers_below{w w':World}{base:Nat}{v:Value}{S:List Ser}(h:OwnSers w base v S)(hb:Below w.heap.size w w'):OwnSers w' base v S:=by
 obtain ⟨ps,h1,h2,h3⟩:=h;exact ⟨ps,h1,rows_below h2 hb,fun x hx=>⟨ownl_below (h3 x hx).1 hb,owns_below (h3 x hx).2 hb⟩⟩
theorem ownsers_slice{w:World}{base:Nat}{v:Value}{S:List Ser}(h:OwnSers w base v S):∃P c,v=.slice P S.length c/\S.length<=c/\Sers w P S:=by
 obtain ⟨ps,rfl,h2,h3⟩:=h;obtain ⟨P,c,h4,h5,h6,_⟩:=rows_slice h2;refine ⟨P,c,by rw [List.length_map];exact h4,by rw [List.length_map];exact h5,ps,rfl,h6,fun x hx=>?_⟩;obtain ⟨a1,a2⟩:=h3 x hx;obtain ⟨B,d,e1,e2,e3,_⟩:=ownl_slice a1;obtain ⟨B',d',e1',e2',e3',_⟩:=owns_slice a2;unfold lsV at e1;unfold ssV at e1';obtain ⟨rfl,-,rfl⟩:=Value.slice.inj e1;obtain ⟨rfl,-,rfl⟩:=Value.slice.inj e1';exact ⟨e3,e3',e2,e2'⟩
theorem ser_info:(Tryz.prog.info? 65).map (fun i=>(i.zero,i.size,i.bytes))=some (some (.agg #[.slice none 0 0,.slice none 0 0]),2,48):=by kernel_rfl
theorem app_ser{w0:World}{ops:Array Oper}{rest:List Oper}{o:Oper}{a:Act}{Q:Exit->Act->World->Prop}(hgd:o.guard=none)(s y:Operand)
 (ho:o.op=.call { callee:=.builtin .append,args:=#[s,y],argTypes:=#[22,22] })
 (base:Nat)(v:Value)(S:List Ser)(hs:a.eval s=v)(hF:OwnSers w0 base v S)(q:SPl)(c:Nat)(hx1:OwnL w0 base (lsV q) q.1.1)(hx2:OwnS w0 base (ssV q) q.1.2)
 (hy:a.eval y=.slice (some ⟨w0.heap.size,0,none⟩) 1 c)(hn:S.length<=2000000000000)(hbase:base<=w0.heap.size)
 (h:∀v' w',OwnSers w' base v' (S++[q.1])->Below base w0 w'->w0.grownBy w' v.ownBlock->wpList Tryz.prog ops Q rest (a.put o.dst v') w'):
 wpList Tryz.prog ops Q (o::rest) a (w0.alloc (.cells (spE q).toArray 65)):=by
 obtain ⟨i0,hi,hz0,hz1,hz2⟩:=info_parts ser_info;have hA:=below_one w0 (.cells (spE q).toArray 65);obtain ⟨qs,rfl,h2,h3⟩:=ownsers_below hF hA;have hx1':=ownl_below hx1 hA;have hx2':=owns_below hx2 hA;rw [List.length_map] at hn;refine wpList_app_at hgd s y 22 ho base 65 i0 _ 2 48 Tryz.underlying22 hi hz0 hz1 hz2 rfl (by omega) v qs.length (qs.flatMap spE) hs h2 (some ⟨w0.heap.size,0,none⟩) 1 c (spE q) hy (by rw [spE_len]) (At.row (Row.new w0 _ _)) ?_
  (by simp only [maxLen];omega) (by omega) (Nat.le_trans hbase hA.size) ?_
 ·intro u hu;simp only [spE,List.mem_cons,List.not_mem_nil,or_false] at hu;rcases hu with rfl|rfl<;>rfl
 intro v' w' k1 k2 k3;have hkeep:∀{e size n:Nat} {u:Value} {xs:List Value},World.ownsRow (w0.alloc (.cells (spE q).toArray 65)) base e size u n xs->e≠65->w'.ownsRow base e size u n xs:=fun {e size n u xs} hu he=>by
  refine rows_move hu fun k hk=>?_
  rcases hu.2 with ⟨e1,_⟩|⟨g,cap,cur,e1,_,hh,_⟩
  ·rw [e1] at hk;cases hk
  ·rw [e1] at hk;simp only [Value.ownBlock,Option.some.injEq] at hk;subst hk;exact k3.block g (Row.lt hh) fun e=>rows_ne (show Row _ g _ _ from hh) h2 he e.symm
 refine h v' w' ⟨qs++[q],by simp,by rw [List.length_append,List.flatMap_append,List.flatMap_cons,List.flatMap_nil,List.append_nil];exact k1,fun r hr=>?_⟩ ((hA.mono hbase).trans k2) (below_grown hA k3);rcases List.mem_append.1 hr with hr|hr
 ·exact ⟨hkeep (h3 r hr).1 (by decide),hkeep (h3 r hr).2 (by decide)⟩
 ·obtain rfl:=List.mem_singleton.1 hr;exact ⟨hkeep hx1' (by decide),hkeep hx2' (by decide)⟩
theorem keep_good{l:List Smp}(h:Ch.Good l):l.filter (keepB 0 1099511627776)=l:=by
 refine filter_none fun i hi=>?_
 have:=good_at h hi;unfold tOf at this;unfold keepB;rw [decide_eq_true this.1,decide_eq_true this.2.1];rfl
theorem ser_take(S:List Ser){j:Nat}(h:j<S.length):S.take (j+1)=S.take j++[((blSets S).getD j [],(S.getD j ser0).2)]:=by
 have e1:(blSets S).getD j []=S[j].1:=by simp [blSets,List.getD_eq_getElem?_getD,h]
 have e2:(S.getD j ser0).2=S[j].2:=by simp [List.getD_eq_getElem?_getD,h]
 rw [List.take_add_one,List.getElem?_eq_getElem h,e1,e2];rfl
set_option maxHeartbeats 4000000 in
theorem blall_yes{w:World}{base X:Nat}{S:List Ser}(h:BlkAt w base X S)(hr:blChk S=0):Calls Tryz.prog 20 #[.pointer (some ⟨X,0,none⟩)] w fun e w'=>∃v,e=.returned v/\OwnSers w' w.heap.size v S/\Below w.heap.size w w':=by
 have HLN:=zz (bllen_yes h);have h256:=(blChk_zero.1 hr).1;have HLB:=zz (fun x (hx:Below w.heap.size w x) j hj=>bllabels_yes (h.below hx) hr j hj);have HSL:=zz (fun x (hx:Below w.heap.size w x) j (hj:j<S.length)=>by
  have h1:=blselect_yes (h.below hx) hr j hj 0 1099511627776;rw [keep_good (bl_at hr hj).1] at h1;exact h1)
 have HST:=zz (fun j (hj:j<S.length)=>ser_take S hj);obtain ⟨n,hn⟩:∃n,S.length=n:=⟨_,rfl⟩;have HN:=zz hn;rw [hn] at HLN HLB HSL HST h256;clear h hr hn;go_enter Tryz.func20,Tryz.ntmps20
 go_wp2_with fail
 refine HLN.out.mono ?_;rintro e w2 ⟨rfl,hb2⟩;have HB2:=zz hb2;clear hb2
 go_wp2_with fail
 go_loopw [3,11] (fun l i wr=>∃j:Nat,j<=n/\i=.int .i64 (j:Int)/\OwnSers wr w.heap.size l (S.take j)/\Below w.heap.size w wr) (fun _ i _=>n-(intOf i).toNat)
 case atStart=>exact ⟨0,Nat.zero_le _,rfl,ownsers_nil _ _,HB2.out⟩
 case round =>
  obtain ⟨j,hj,rfl,hO,hbr⟩:=hrel
  by_cases hlt:j<n
  ·have i1:decide ((j:Int)<(n:Int))=true:=decide_eq_true (by omega);have i2:(j:Int)<(n:Int):=by omega
   have HO:=zz hO;have HB:=zz hbr;have HL1:=zz (HLB.out wr hbr j hlt);have HS1:=zz (fun x hx=>HSL.out x hx j hlt);have HTK:=zz (HST.out j hlt);have HJ:=zz (show j+1<=n from hlt);have HTL:=zz (show (S.take j).length<=256 by rw [List.length_take];omega);obtain ⟨ls,hls⟩:∃ls,(blSets S).getD j []=ls:=⟨_,rfl⟩;obtain ⟨ss,hss⟩:∃ss,(S.getD j ser0).2=ss:=⟨_,rfl⟩;have hss':(S.getD j ([],[])).2=ss:=hss;rw [hls] at HL1 HTK;rw [hss] at HTK;rw [hss'] at HS1;clear hO hbr hls hss hss'
   go_wp2_with fail
   refine HL1.out.mono ?_;rintro e w3 ⟨v3,rfl,ho3,hb3⟩;obtain ⟨P3,c3,hv3,_⟩:=ownl_slice ho3;have HO3:=zz (ownsers_below HO.out hb3);have HL3:=zz (ownl_lower ho3 HB.out.size);have HB3:=zz (below_then HB.out hb3);subst hv3;clear ho3 hb3
   go_wp2_with fail
   refine (HS1.out _ HB3.out).mono ?_;rintro e w4 ⟨v4,rfl,ho4,hb4⟩;obtain ⟨P4,c4,hv4,_⟩:=owns_slice ho4;have HO4:=zz (ownsers_below HO3.out hb4);have HL4:=zz (ownl_below HL3.out hb4);have HS4:=zz (owns_lower ho4 HB3.out.size);have HB4:=zz (below_then HB3.out hb4);subst hv4;clear ho4 hb4;have HV4:=zz (show OwnL w4 w.heap.size (lsV ((ls,ss),⟨P3,c3,P4,c4⟩)) ls/\OwnS w4 w.heap.size (ssV ((ls,ss),⟨P3,c3,P4,c4⟩)) ss from ⟨HL4.out,HS4.out⟩)
   go_wp2_with (at_builtin;refine app_ser rfl (.tmp 26) (.tmp 30) rfl w.heap.size _ (S.take j) rfl HO4.out ((ls,ss),⟨P3,c3,P4,c4⟩) 1 HV4.out.1 HV4.out.2 rfl (by have:=HTL.out;omega) HB4.out.size ?_;intro v5 w5 ho5 hb5 hg5;have HO5:=zz (show OwnSers w5 w.heap.size v5 (S.take (j+1)) by rw [HTK.out];exact ho5);have HB5:=zz (HB4.out.trans hb5);clear ho5 hb5 hg5)
   go_roundw
   case rel=>exact ⟨j+1,HJ.out,by go_num,HO5.out,HB5.out⟩
   case measure=>simp [intOf];omega
  ·have hjn:j=S.length:=by rw [HN.out];omega
   rw [hjn,List.take_length] at hO;have i1:decide ((j:Int)<(n:Int))=false:=decide_eq_false (by omega);have i2:¬(j:Int)<(n:Int):=by omega
   have HO:=zz hO;have HB:=zz hbr;clear hO hbr hjn
   go_wp2_with fail
   go_ret;exact ⟨_,rfl,HO.out,HB.out⟩
theorem cntQ_pcs(S:List Ser):cntQ (S.map fun s=>pcs s.2)=cntS S:=by
 unfold cntQ;rw [List.map_map,show (S.map (cntP∘fun s=>pcs s.2))=S.map (fun s=>s.2.length) from List.map_congr_left fun s _=>pcs_sum s.2,<-cntS_map]
theorem blcount_yes{w:World}{base X:Nat}{S:List Ser}(h:BlkAt w base X S)(hr:blChk S=0):Calls Tryz.prog 27 #[.pointer (some ⟨X,0,none⟩)] w fun e w'=>e=.returned (.int .i64 (cntS S:Int))/\Below w.heap.size w w':=by
 obtain ⟨h1,h2,_,_⟩:=blChk_zero.1 hr;have HIN:=zz (inside_prog h);have HQL:=zz (show (S.map fun s=>pcs s.2).length=S.length by simp);have HCQ:=zz (cntQ_pcs S);clear h hr;go_enter Tryz.func27,Tryz.ntmps27
 go_wp2_with fail
 refine HIN.out.mono ?_;rintro e w2 ⟨I,B,P,c,rfl,hB,hI,hQ,hb2⟩;have HC:=zz (count_prog (.pointer (some ⟨I,0,none⟩)) rfl base P c (S.map fun s=>pcs s.2) w2 (by rw [HQL.out];exact hQ) (by rw [HCQ.out];omega) (by rw [HQL.out];omega));rw [HQL.out,HCQ.out] at HC;have HB2:=zz hb2;clear hI hQ hb2
 go_wp2_with fail
 refine HC.out.mono ?_;rintro e w3 ⟨rfl,hb3⟩;have HB3:=zz (below_then HB2.out hb3);clear hb3
 go_wp2_with fail
 go_ret;exact ⟨rfl,HB3.out⟩
theorem bllabels_no{w:World}{base X:Nat}{S:List Ser}(h:BlkAt w base X S)(id:Int)(hid:id<0\/(S.length:Int)<=id):Calls Tryz.prog 24 #[.pointer (some ⟨X,0,none⟩),.int .i64 id] w fun e w'=>e=.returned (.tuple #[.slice none 0 0,.int .i64 9])/\Below w.heap.size w w':=by
 have hf0:=fld0;have HIN:=zz (inside_prog h);have hl:id<0\/((blSets S).length:Int)<=id:=by simp only [blSets,List.length_map];exact hid
 clear h hid;go_enter Tryz.func24,Tryz.ntmps24
 go_wp2_with fail
 refine HIN.out.mono ?_;rintro e w2 ⟨I,B,P,c,rfl,hB,hI,hQ,hb2⟩;have HLN:=zz (labels_no I (blSets S) B w2 hI id hl);have HB2:=zz hb2;clear hI hQ hb2 hl
 go_wp2_with fail
 refine HLN.out.mono ?_;rintro e w3 ⟨rfl,rfl⟩
 go_wp2_with fail
 go_ret2;exact ⟨rfl,HB2.out⟩
theorem keep_step(lo hi:Int){l:List Smp}{k:Nat}(h:k<l.length):(l.take (k+1)).filter (keepB lo hi)=(l.take k).filter (keepB lo hi)++(if keepB lo hi (l.getD k (0,0)) then [l.getD k (0,0)] else []):=by
 rw [take_smp h,List.filter_append,List.filter_cons]
 split<;>rfl
set_option maxHeartbeats 4000000 in
theorem between12_ref(A:Option Addr)(l:List Smp)(c:Nat)(lo hi:Int)(w:World)(hA:Smps w A l)(hl:l.length<=1000000):
 Calls Tryz.prog 48 #[.slice A l.length c,.int .i64 lo,.int .i64 hi] w fun e w'=>∃v,e=.returned v/\OwnS w' w.heap.size v (l.filter (keepB lo hi))/\Below w.heap.size w w':=by
 have HA:=zz hA;obtain ⟨n,hn⟩:∃n,l.length=n:=⟨_,rfl⟩;have HN:=zz hn;have HST:=zz (fun k (hk:k<l.length)=>keep_step lo hi hk);rw [hn] at hl HST ⊢;clear hA hn;go_enter Tryz.func48,Tryz.ntmps48
 go_wp2_with fail
 go_loopw [7,8] (fun v i wr=>∃k:Nat,k<=n/\i=.int .i64 (k:Int)/\OwnS wr w.heap.size v ((l.take k).filter (keepB lo hi))/\Below w.heap.size w wr) (fun _ i _=>n-(intOf i).toNat)
 case atStart=>exact ⟨0,Nat.zero_le _,rfl,owns_nil _ _,Below.refl _ _⟩
 case round =>
  obtain ⟨k,hk,rfl,hO,hbr⟩:=hrel
  by_cases hlt:k<n
  ·have i1:decide ((k:Int)<(n:Int))=true:=decide_eq_true (by omega);have i2:(k:Int)<(n:Int):=by omega
   obtain ⟨b,o,rfl,hb,hc⟩:=(HA.out.below hbr).all (by rw [HN.out];omega);obtain ⟨g0,g1⟩:=hc k (by rw [HN.out];exact hlt);have hst:=HST.out k hlt;have HK:=zz (show k+1<=n from hlt);have HLL:=zz (show ((l.take k).filter (keepB lo hi)).length<=1000000 by have:=List.length_filter_le (keepB lo hi) (l.take k);rw [List.length_take] at this;omega);have hkb:keepB lo hi (l.getD k (0,0))=(decide (lo<=tOf l k)&&decide (tOf l k<=hi)):=rfl;have htv:l.getD k (0,0)=(tOf l k,vOf l k):=rfl;rw [hkb,htv] at hst;generalize tOf l k=T at *;generalize vOf l k=V at *;have HO:=zz hO;have HB:=zz hbr;have hO1:=owns_below hO (below_one wr (.cells #[.int .i64 T,.int .i64 V] 83));have HO1:=zz hO1;have HB1:=zz (hbr.alloc hbr.size (.cells #[.int .i64 T,.int .i64 V] 83));have HS1:=zz (smps_cell (Row.new wr 83 #[.int .i64 T,.int .i64 V]));clear hc hO hbr hO1 hkb htv
   by_cases h1:lo<=T
   ·have k1:decide (lo<=T)=true:=decide_eq_true h1;have k1':decide (T>=lo)=true:=decide_eq_true h1
    by_cases h2:T<=hi
    ·have k2:decide (T<=hi)=true:=decide_eq_true h2;rw [k1,k2,Bool.and_self,if_pos rfl] at hst;have HST1:=zz hst;clear hst
     go_wp2_with (at_builtin;refine app_smps rfl (.tmp 31) (.tmp 36) rfl w.heap.size _ ((l.take k).filter (keepB lo hi)) rfl HO1.out (some ⟨wr.heap.size,0,none⟩) [(T,V)] 1 rfl HS1.out (by have:=HLL.out;simp only [List.length_singleton];omega) HB1.out.size ?_;intro v7 w7 ho7 hb7 hg7;have HO7:=zz (show OwnS w7 w.heap.size v7 ((l.take (k+1)).filter (keepB lo hi)) by rw [HST1.out];exact ho7);have HB7:=zz (HB1.out.trans hb7);clear ho7 hb7 hg7)
     go_roundw
     case rel=>exact ⟨k+1,HK.out,by go_num,HO7.out,HB7.out⟩
     case measure=>simp [intOf];omega
    ·have k2:decide (T<=hi)=false:=decide_eq_false h2;rw [k1,k2,Bool.and_false,if_neg (by simp),List.append_nil] at hst;have HST1:=zz hst;clear hst
     go_wp2_with fail
     go_roundw
     case rel=>exact ⟨k+1,HK.out,by go_num,by rw [HST1.out];exact HO.out,HB.out⟩
     case measure=>simp [intOf];omega
   ·have k1:decide (lo<=T)=false:=decide_eq_false h1;have k1':decide (T>=lo)=false:=decide_eq_false h1;rw [k1,Bool.false_and,if_neg (by simp),List.append_nil] at hst;have HST1:=zz hst;clear hst
    go_wp2_with fail
    go_roundw
    case rel=>exact ⟨k+1,HK.out,by go_num,by rw [HST1.out];exact HO.out,HB.out⟩
    case measure=>simp [intOf];omega
  ·have hkn:k=l.length:=by rw [HN.out];omega
   rw [hkn,List.take_length] at hO;have i1:decide ((k:Int)<(n:Int))=false:=decide_eq_false (by omega);have i2:¬(k:Int)<(n:Int):=by omega
   have HO:=zz hO;have HB:=zz hbr;clear hO hbr hkn
   go_wp2_with fail
   go_ret;exact ⟨_,rfl,HO.out,HB.out⟩
theorem pcs_at{l:List Smp}{k:Nat}(h:k<nPc l):(pcs l).getD k []=pieceL l k:=by
 unfold pcs;simp [List.getD_eq_getElem?_getD,h]
theorem pcs_first{l:List Smp}(h:l≠[]):0<(pcs l).length/\tOf ((pcs l).getD 0 []) 0=tOf l 0:=by
 have h0:=List.length_pos_iff.2 h;have hn:0<nPc l:=by unfold nPc;omega
 refine ⟨by rw [pcs_len];exact hn,?_⟩;rw [pcs_at hn];unfold tOf pieceL;simp [List.getD_eq_getElem?_getD,List.getElem?_take]
theorem pcs_last{l:List Smp}(h:l≠[]):tOf ((pcs l).getD ((pcs l).length-1) []) (((pcs l).getD ((pcs l).length-1) []).length-1)=tOf l (l.length-1):=by
 have h0:=List.length_pos_iff.2 h;have hn:nPc l-1<nPc l:=by unfold nPc;omega
 rw [pcs_len,pcs_at hn];have hl:(pieceL l (nPc l-1)).length=l.length-(nPc l-1)*120:=by
  unfold pieceL;rw [List.length_take,List.length_drop];unfold nPc;omega
 have hb:l.length-(nPc l-1)*120<=120/\(nPc l-1)*120<l.length:=by unfold nPc;omega
 have e:∀i,i<120->((l.drop ((nPc l-1)*120)).take 120).getD i (0,0)=l.getD ((nPc l-1)*120+i) (0,0):=fun i hi=>by
  simp [List.getD_eq_getElem?_getD,List.getElem?_take,List.getElem?_drop,hi]
 rw [hl];unfold tOf pieceL;rw [e _ (by omega),show (nPc l-1)*120+(l.length-(nPc l-1)*120-1)=l.length-1 by omega]
set_option maxHeartbeats 4000000 in
theorem blbounds_yes{w:World}{base X:Nat}{S:List Ser}(h:BlkAt w base X S)(hr:blChk S=0):
 Calls Tryz.prog 23 #[.pointer (some ⟨X,0,none⟩)] w fun e w'=>e=.returned (.tuple #[.int .i64 (bndT S S.length).1,.int .i64 (bndT S S.length).2])/\Below w.heap.size w w':=by
 obtain ⟨h256,h2,_,h4⟩:=blChk_zero.1 hr;have hf1:=fld1;have HIN:=zz (inside_prog h);have HAT:=zz (fun k (hk:k<S.length)=>bl_at hr hk);have HBT:=zz (show ∀k,bndT S (k+1)=(if k=0 then tOf (S.getD k ser0).2 0 else min (bndT S k).1 (tOf (S.getD k ser0).2 0),max (bndT S k).2 (tOf (S.getD k ser0).2 ((S.getD k ser0).2.length-1))) from fun k=>rfl);obtain ⟨n,hn⟩:∃n,S.length=n:=⟨_,rfl⟩;have HN:=zz hn;rw [hn] at h256 HAT ⊢;clear h hr h4 h2 hn;go_enter Tryz.func23,Tryz.ntmps23
 go_wp2_with fail
 refine HIN.out.mono ?_;rintro e w2 ⟨I,B,P,c,rfl,hB,hI,hQ,hb2⟩;have HB2:=zz hb2;have HQ:=zz hQ;rw [HN.out] at HQ
 try rw [HN.out]
 clear hI hQ hb2
 go_wp2_with fail
 go_loopw [4,5,14] (fun lo hi i wr=>∃k:Nat,k<=n/\i=.int .i64 (k:Int)/\lo=.int .i64 (bndT S k).1/\hi=.int .i64 (bndT S k).2/\Below w2.heap.size w2 wr) (fun _ _ i _=>n-(intOf i).toNat)
 case atStart=>exact ⟨0,Nat.zero_le _,rfl,rfl,rfl,Below.refl _ _⟩
 case round =>
  obtain ⟨k,hk,rfl,rfl,rfl,hbr⟩:=hrel
  by_cases hlt:k<n
  ·have i1:decide ((k:Int)<(n:Int))=true:=decide_eq_true (by omega);have i2:(k:Int)<(n:Int):=by omega
   obtain ⟨P',c',hv,_,hc⟩:=ownq_slice (ownq_below HQ.out hbr);rw [List.length_map,HN.out] at hv hc;obtain ⟨rfl,-,rfl⟩:=Value.slice.inj hv;obtain ⟨b,o,rfl,hb,_,hat⟩:=hc (by omega);obtain ⟨A,d,g0,hP⟩:=hat k hlt;obtain ⟨hg,hsz,hne,hpc⟩:=HAT.out k hlt;rw [hpc] at g0 hP;obtain ⟨hp0,hf⟩:=pcs_first hne;have hl:=pcs_last hne;have hps:(pcs (S.getD k ser0).2).length<=65536:=by
    have:=nPc_le (S.getD k ser0).2;rw [pcs_len];exact Nat.le_trans this hsz
   have hz:0<=tOf (S.getD k ser0).2 ((S.getD k ser0).2.length-1):=(good_at hg (show (S.getD k ser0).2.length-1<(S.getD k ser0).2.length by have:=List.length_pos_iff.2 hne;show (S.getD k ([],[])).2.length-1<(S.getD k ([],[])).2.length;omega)).1;have hbt:=HBT.out k;change 0<(pcs (S.getD k ser0).2).length at hp0;change OwnPc _ _ (.slice A (pcs (S.getD k ser0).2).length d) (pcs (S.getD k ser0).2) at hP;change wr.cell? _=some (.slice A (pcs (S.getD k ser0).2).length d) at g0;change tOf ((pcs (S.getD k ser0).2).getD 0 []) 0=tOf (S.getD k ser0).2 0 at hf;change tOf ((pcs (S.getD k ser0).2).getD ((pcs (S.getD k ser0).2).length-1) []) (((pcs (S.getD k ser0).2).getD ((pcs (S.getD k ser0).2).length-1) []).length-1)=tOf (S.getD k ser0).2 ((S.getD k ser0).2.length-1) at hl;obtain ⟨P5,c5,hv5,_,hc5⟩:=ownpc_slice hP;obtain ⟨rfl,-,rfl⟩:=Value.slice.inj hv5;obtain ⟨b5,o5,rfl,hb5,_,hat5⟩:=hc5 hp0;obtain ⟨m0,_,_,t0,_,_⟩:=hat5 0 hp0;obtain ⟨m1,_,_,_,t1,_⟩:=hat5 ((pcs (S.getD k ser0).2).length-1) (by omega);rw [hf] at t0;rw [hl] at t1;rw [Nat.zero_mul,Nat.add_zero] at t0;have HK:=zz (show k+1<=n from hlt);have HB:=zz hbr;have hm0:k=0->max (bndT S k).2 (tOf (S.getD k ser0).2 ((S.getD k ser0).2.length-1))=tOf (S.getD k ser0).2 ((S.getD k ser0).2.length-1):=fun e=>by
    subst e
    show max 0 _=_
    omega
   have HM0:=zz hm0;clear hm0;generalize tOf (S.getD k ser0).2 0=F at *;generalize tOf (S.getD k ser0).2 ((S.getD k ser0).2.length-1)=Z at *;generalize (bndT S k).1=lo at *;generalize (bndT S k).2=hi at *;generalize (pcs (S.getD k ser0).2).length=M at *;have HBK:=zz hbt;have hj:IntKind.i64.wrap ((M:Int)-1)=((M-1:Nat):Int):=by rw [show ((M:Int)-1)=((M-1:Nat):Int) by omega];exact IntWalk.i64_in _ (by omega)
   have hj2:IntKind.i64.wrap ((M-1:Nat):Int)=((M-1:Nat):Int):=IntWalk.i64_in _ (by omega);have hjl:((M-1:Nat):Int)<(M:Int):=by omega
   have hj0:(0:Int)<(M:Int):=by omega
   have hj3:(0:Int)<=((M-1:Nat):Int):=by omega
   have HZ:=zz hz;clear hat hP hc hv hv5 hc5 hat5 hpc hg hsz hne hf hl hbt hbr hz hps;generalize M-1=j at *
   by_cases h0:k=0
   ·subst h0;have HB1:=zz (show bndT S 1=(F,Z) by rw [HBK.out,if_pos rfl,HM0.out rfl]);rw [Nat.add_zero] at g0
    go_wp2_with fail
    go_region
    go_wp2_with fail
    go_roundw
    case rel=>exact ⟨1,HK.out,rfl,by rw [HB1.out],by rw [HB1.out],HB.out.drew⟩
    case measure=>simp [intOf];omega
   ·have r1:((k:Int)==0)=false:=by rw [beq_eq_false_iff_ne];omega
    have HB1:=zz (show bndT S (k+1)=(min lo F,max hi Z) by rw [HBK.out,if_neg h0])
    go_wp2_with fail
    go_region
    go_wp2_with fail
    go_roundw
    case rel=>exact ⟨k+1,HK.out,by go_num,by rw [HB1.out],by rw [HB1.out],HB.out.drew⟩
    case measure=>simp [intOf];omega
  ·have hkn:k=n:=by omega
   subst hkn;have i1:decide ((k:Int)<(k:Int))=false:=decide_eq_false (by omega);have HB:=zz (below_then HB2.out hbr);clear hbr
   go_wp2_with fail
   go_ret2;exact ⟨rfl,HB.out⟩
end Go.Proofs.YtgdmcnoogacdaaaGreatDoor
