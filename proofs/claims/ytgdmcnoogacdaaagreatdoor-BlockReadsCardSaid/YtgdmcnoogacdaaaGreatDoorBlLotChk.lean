/- In one text, written by lotify.py: BlRef, BlChk. -/
import Derived.Test.YtgdmcnoogacdaaaGreatDoorBlLotIdx
import Derived.Test.YtgdmcnoogacdaaaGreatDoorBlLotRr
namespace Go.Proofs.YtgdmcnoogacdaaaGreatDoor
open Go.RowKit Go.Maps
open Ch
set_option linter.unusedVariables false
set_option linter.unusedSimpArgs false
set_option maxRecDepth 100000
set_option maxHeartbeats 4000000 in
theorem sets12_ref(A:Option Addr)(S:List Ser)(c:Nat)(w:World)(hA:Sers w A S)(hl:S.length<=1000000)(hlc:S.length<=c):
 Calls Tryz.prog 38 #[.slice A S.length c] w fun e w'=>∃P cp,e=.returned (.slice P (blSets S).length cp)/\Sets w' P (blSets S)/\Below w.heap.size w w':=by
 have HA:=zz hA;obtain ⟨n,hn⟩:∃n,S.length=n:=⟨_,rfl⟩;have HN:=zz hn;rw [hn] at hl hlc ⊢;have HST:=zz (fun k (hk:k<n)=>sets_step S (k:=k) (by omega));clear hA hn;go_enter Tryz.func38,Tryz.ntmps38
 go_wp2_with fail
 go_loopw [3,4] (fun v i wr=>∃(k:Nat) (ps:List LPl),k<=n/\i=.int .i64 (k:Int)/\ps.length=k/\ps.map (fun p=>p.2.2)=blSets (S.take k)/\wr.ownsRow w.heap.size 56 1 v ps.length (ps.map slE)/\(∀p∈ps,Lbls w p.1 p.2.2/\p.2.2.length<=p.2.1)/\Below w.heap.size w wr)
  (fun _ i _=>n-(intOf i).toNat)
 case atStart=>exact ⟨0,[],Nat.zero_le _,rfl,rfl,rfl,⟨rfl,.inl ⟨rfl,rfl⟩⟩,fun p hp=>(by cases hp),Below.refl _ _⟩
 case round =>
  obtain ⟨k,ps,hk,rfl,hpl,hps,hown,hall,hbr⟩:=hrel
  by_cases hlt:k<n
  ·obtain ⟨b,o,rfl,hb,hat⟩:=HA.out.all (by rw [HN.out];omega);obtain ⟨mm,hsa⟩:=hat k (by rw [HN.out];exact hlt);obtain ⟨g0,_,_⟩:=hsa.below hbr hb;have i1:decide ((k:Int)<(n:Int))=true:=decide_eq_true (by omega);have i2:(k:Int)<(n:Int):=by omega
   have HSS:=zz (HST.out k hlt);have HPS:=zz hps;have HALL:=zz hall;have HBR:=zz hbr;have HPL:=zz (show ps.length<=1000000 by omega);have HPN:=zz hpl;have HLI:=zz (And.intro hsa.2.2.labels hsa.2.2.lc);have HK:=zz (show k+1<=n from hlt);generalize S.getD k ser0=s at *;have HOW:=zz (rows_below hown (below_one wr (.cells #[.slice mm.la s.1.length mm.lc] 56)));have HG:=zz (Row.new wr 56 #[.slice mm.la s.1.length mm.lc]);have HB2:=zz (hbr.alloc hbr.size (.cells #[.slice mm.la s.1.length mm.lc] 56));obtain ⟨Pv,cv,hv,_⟩:=rows_slice hown;subst hv;clear hown hps hall hbr hpl hat hsa
   go_wp2_with (at_builtin;refine app_gset rfl (.tmp 11) (.tmp 17) rfl w _ (blSets (S.take k)) rfl ps HPS.out HOW.out HALL.out (mm.la,mm.lc,s.1) HLI.out 1 wr.heap.size rfl HG.out HPL.out HB2.out.size ?_;intro v7 w7 ps7 hp7 ho7 ha7 hb7 hg7;have HP7:=zz hp7;have HO7:=zz ho7;have HA7:=zz ha7;have HB7:=zz (HB2.out.trans hb7);obtain ⟨P7,c7,hv7,_⟩:=rows_slice ho7;have HL7:=zz (show ps7.length=k+1 by have e:=congrArg List.length hp7;rw [List.length_map,List.length_append,<-HPS.out,List.length_map,HPN.out] at e;exact e);subst hv7;clear hp7 ho7 ha7 hb7 hg7)
   go_roundw
   case rel=>exact ⟨k+1,ps7,HK.out,by go_num,HL7.out,by rw [HP7.out,HSS.out],HO7.out,HA7.out,HB7.out⟩
   case measure=>simp [intOf];omega
  ·have hkn:k=S.length:=by rw [HN.out];omega
   rw [hkn,List.take_length] at hps;have i1:decide ((k:Int)<(n:Int))=false:=decide_eq_false (by omega);have i2:¬(k:Int)<(n:Int):=by omega
   obtain ⟨P,cp,hv,_,hat,_⟩:=rows_slice hown;subst hv;have HS:=zz (show Sets wr P (blSets S) from ⟨ps,hps,hat,fun p hp=>⟨(hall p hp).1.below hbr,(hall p hp).2⟩⟩);have hpn:ps.length=(blSets S).length:=by rw [<-hps,List.length_map]
   have HBR:=zz hbr;clear hown hps hall hbr hpl hat;rw [hpn];clear hpn
   go_wp2_with fail
   go_ret;exact ⟨P,⟨cp,rfl⟩,HS.out,HBR.out⟩
theorem nPc_lt{l:List Smp}{j:Nat}:j<nPc l↔j*120<l.length:=by unfold nPc;omega
theorem u32_bytes(S:Nat)(hS:S<4294967296):(S:Int)%256=((UInt8.ofNat S).toNat:Int)/\(S:Int)/256%256=((UInt8.ofNat (S/256)).toNat:Int)/\(S:Int)/65536%256=((UInt8.ofNat (S/65536)).toNat:Int)/\(S:Int)/16777216=((UInt8.ofNat (S/16777216)).toNat:Int):=by
 refine ⟨?_,?_,?_,?_⟩<;>rw [UInt8.toNat_ofNat']<;>omega
set_option maxHeartbeats 8000000 in
theorem bytes12_ref(A:Option Addr)(S:List Ser)(c:Nat)(w:World)(hA:Sers w A S)(hz:blChk S=0)(hlc:S.length<=c):
 Calls Tryz.prog 35 #[.slice A S.length c] w fun e w'=>∃v,e=.returned v/\Own w' w.heap.size v (blL S)/\Below w.heap.size w w':=by
 obtain ⟨z1,z2,z3,z4⟩:=blChk_zero.1 hz;have hfl:=front_len hz;have hix:=bytes_len z3;have HSE:=zz (sets12_ref A S c w hA (by omega) hlc);have HA:=zz hA;have HZ4:=zz z4;have HZ3:=zz z3;have HCN:=zz (fun s (h:s∈S)=>Nat.le_trans (cntS_mem h) z2);have HPE:=zz (preB_end S);have HLE:=zz (fun k=>Nat.le_trans (preB_le S k) hfl);have HNX:=zz (fun k (hk:k<S.length)=>preB_next S (k:=k) hk);have HP0:=zz (show preB S 0=[71,66,75,49]++uintL (ixBytes (blSets S)).length++ixBytes (blSets S) by simp [preB,magL,cntL]);obtain ⟨n,hn⟩:∃n,S.length=n:=⟨_,rfl⟩;have HN:=zz hn;rw [hn] at HSE z1 hlc HNX ⊢;clear hA hz z4 z2 z3 hn;go_enter Tryz.func35,Tryz.ntmps35
 go_wp2_with fail
 refine HSE.out.mono ?_;rintro e w2 ⟨P2,c2,rfl,hs2,hb2⟩;have HBY:=zz (bytes_ref P2 (blSets S) c2 w2 hs2 HZ3.out);have HB2:=zz hb2;generalize (blSets S).length=nS at *;clear hs2 hb2 HSE
 go_wp2_with fail
 refine HBY.out.mono ?_;rintro e w3 ⟨v3,rfl,ho3,hb3⟩;obtain ⟨P3,d3,hv3,hP3,_⟩:=own_slice' ho3;have hb4:=below_one w3 (.cells #[.int .u8 71,.int .u8 66,.int .u8 75,.int .u8 49] 5 (4,5));have HB3:=zz (HB2.out.trans (hb3.mono HB2.out.size));have HB4:=zz (HB3.out.alloc HB3.out.size (.cells #[.int .u8 71,.int .u8 66,.int .u8 75,.int .u8 49] 5 (4,5)));have HM:=zz (show OwnMk (w3.alloc (.cells #[.int .u8 71,.int .u8 66,.int .u8 75,.int .u8 49] 5 (4,5))) w.heap.size (.slice (some ⟨w3.heap.size,0,none⟩) 4 4) [71,66,75,49] from ⟨w3.heap.size,rfl,HB3.out.size,heap_alloc_new w3 _⟩);have hcv:=Go.Lib.run_convert_bytes_const (P:=Tryz.prog) w3 24 5 #[.int .u8 71,.int .u8 66,.int .u8 75,.int .u8 49] 4 4 Tryz.underlying24 Tryz.underlying5;have HP4:=zz (hP3.below hb4);have HUI:=zz (fun (m:Nat) (W:World) (hm:m<=9223372036854775807)=>uint_ref m W hm);have HXL:=zz hix;subst hv3;obtain ⟨xl,hxl⟩:∃xl,(ixBytes (blSets S)).length=xl:=⟨_,rfl⟩;have HXE:=zz hxl;have HXV:=zz (show Value.slice P3 xl d3=Value.slice P3 (ixBytes (blSets S)).length d3 by rw [hxl]);rw [hxl] at HP0 hix ⊢;clear ho3 hb3 hb4 hP3 HBY hxl
 go_wp2_with fail
 refine (HUI.out xl _ (by omega)).mono ?_;rintro e w5 ⟨v5,rfl,ho5,hb5⟩;obtain ⟨P5,d5,hv5,hP5,_⟩:=own_slice' ho5;have HM5:=zz (HM.out.below hb5);have HB5:=zz (HB4.out.trans (hb5.mono HB4.out.size));have HX5:=zz (HP4.out.below hb5);have HP5:=zz hP5;have HU5:=zz (uintL_9 (n:=xl) (by omega));have HUP:=zz (uintL_pos xl);subst hv5;clear ho5 hb5 hP5
 go_wp2_with (at_builtin;first|(refine app_mark rfl (.tmp 15) (.tmp 18) rfl w.heap.size (.slice (some ⟨w3.heap.size,0,none⟩) 4 4) [71,66,75,49] rfl HM5.out P5 (uintL xl) d5 rfl HP5.out HUP.out (by have:=HU5.out;simp;omega) HB5.out.size ?_;intro v6 w6 ho6 hb6;have HO6:=zz ho6;have HB6:=zz (HB5.out.trans (hb6.mono HB5.out.size));have HX6:=zz (HX5.out.below hb6);obtain ⟨P6,d6,hv6,_,_⟩:=own_slice' ho6;obtain ⟨n6,hn6⟩:∃n6,([71,66,75,49]++uintL xl).length=n6:=⟨_,rfl⟩;have HN6:=zz hn6;rw [hn6] at hv6;subst hv6;clear ho6 hb6 hn6)|(refine app_u8 rfl (.tmp 20) (.tmp 21) rfl w.heap.size (.slice P6 n6 d6) ([71,66,75,49]++uintL xl) rfl HO6.out P3 (ixBytes (blSets S)) d3 HXV.out HX6.out (by have:=HU5.out;have:=HXE.out;simp;omega) HB6.out.size ?_;intro v7 w7 ho7 hb7 hg7;rw [<-HP0.out] at ho7;have HO7:=zz ho7;have HB7:=zz (HB6.out.trans hb7);clear ho7 hb7 hg7))
 go_loopw [4,5] (fun b i wr=>∃k:Nat,k<=n/\i=.int .i64 (k:Int)/\Own wr w.heap.size b (preB S k)/\Below w.heap.size w wr) (fun _ i _=>n-(intOf i).toNat)
 case atStart=>exact ⟨0,Nat.zero_le _,rfl,HO7.out,HB7.out⟩
 case round =>
  obtain ⟨k,hk,rfl,hown,hbr⟩:=hrel;have HO:=zz hown;have HB:=zz hbr;have HPL:=zz (HLE.out k)
  by_cases hlt:k<n
  ·obtain ⟨b,o,rfl,hb,hat⟩:=HA.out.all (by rw [HN.out];omega);obtain ⟨mm,hsa⟩:=hat k (by rw [HN.out];exact hlt);have hmem:S.getD k ser0∈S:=ser_at (S:=S) (i:=k) (by rw [HN.out];exact hlt);obtain ⟨hne,hgood⟩:=HZ4.out _ hmem;have hcn:=HCN.out _ hmem;obtain ⟨_,g1,_⟩:=hsa.below hbr hb;have i1:decide ((k:Int)<(n:Int))=true:=decide_eq_true (by omega);have i2:(k:Int)<(n:Int):=by omega
   have HNK:=zz (HNX.out k hlt);have HLK:=zz (HLE.out (k+1));obtain ⟨_,_,hin⟩:=hsa;have hsm:=hin.samples;have hsc:=hin.sc;simp only at hsm hsc;generalize (S.getD k ser0).2=l at *;obtain ⟨bs,os,hsa',hbs,_⟩:=hsm.all (List.length_pos_iff.2 hne);rw [hsa'] at hsm g1;have HSX:=zz (fun x (hx:Below w.heap.size w x) j (hj:j*120<l.length)=>piece_smps (hsm.below hx) j);have HGD:=zz hgood;have HPN:=zz (fun j (hj:j<nPc l)=>preP_next l hj);have HPX:=zz (fun j=>preP_le l j);have HKN:=zz (show k+1<=n from hlt);have q0:IntKind.i64.wrap ((l.length:Int)+120)=(l.length:Int)+120:=IntWalk.i64_in _ (by omega);have q1:IntKind.i64.wrap ((l.length:Int)+120-1)=(l.length:Int)+119:=by rw [show (l.length:Int)+120-1=(l.length:Int)+119 by omega];exact IntWalk.i64_in _ (by omega)
   have q2:((l.length:Int)+119).tdiv 120=((nPc l:Nat):Int):=by unfold nPc;rw [Int.tdiv_eq_ediv_of_nonneg (by omega)];omega
   have q3:IntKind.i64.wrap ((nPc l:Nat):Int)=((nPc l:Nat):Int):=IntWalk.i64_in _ (by have:=nPc_le l;omega);have hnl:=nPc_le l;obtain ⟨l2,hl2⟩:∃l2,l.length=l2:=⟨_,rfl⟩;have HL2:=zz hl2;rw [hl2] at g1 q0 q1 q2 hcn hsc hnl HSX;clear hat hin hsm hgood hne hmem hown hbr hl2 hbs hsa';obtain ⟨P8,d8,hv8,_,_⟩:=own_slice' HO.out;obtain ⟨n8,hn8⟩:∃n8,(preB S k).length=n8:=⟨_,rfl⟩;have HN8:=zz hn8;rw [hn8] at hv8;subst hv8;clear hn8;have HB8:=zz HB.out
   go_wp2_with fail
   refine (HUI.out (nPc l) _ (by omega)).mono ?_;rintro e w9 ⟨v9,rfl,ho9,hb9⟩;obtain ⟨P9,d9,hv9,hP9,_⟩:=own_slice' ho9;have HO9:=zz (own_below HO.out hb9);have HB9:=zz (HB.out.trans (hb9.mono HB.out.size));have HP9:=zz hP9;have HU9:=zz (uintL_9 (n:=nPc l) (by omega));subst hv9;clear ho9 hb9 hP9
   go_wp2_with (at_builtin;refine app_u8 rfl (.tmp 34) (.tmp 40) rfl w.heap.size (.slice P8 n8 d8) (preB S k) rfl HO9.out P9 (uintL (nPc l)) d9 rfl HP9.out (by have:=HU9.out;have:=HPL.out;omega) HB9.out.size ?_;intro v10 w10 ho10 hb10 hg10;have HO10:=zz (show Own w10 w.heap.size v10 (preB S k++preP l 0) by rw [preP_zero];exact ho10);have HB10:=zz (HB9.out.trans hb10);clear ho10 hb10 hg10)
   go_loopw [4,6] (fun b s wr=>∃(j:Nat) (A':Option Addr) (c':Nat),j<=nPc l/\s=.slice A' (l2-j*120) c'/\l2-j*120<=c'/\(j*120<l2->A'=some ⟨bs,os+j*120*2,none⟩)/\Own wr w.heap.size b (preB S k++preP l j)/\Below w.heap.size w wr) (fun _ s _=>match s with|.slice _ m _=>m|_=>0)
   case atStart=>exact ⟨0,some ⟨bs,os,none⟩,mm.sc,Nat.zero_le _,by simp,by omega,fun _=>by simp,HO10.out,HB10.out⟩
   case round =>
    obtain ⟨j,A',c',hj,rfl,hc',hA',hown,hbr⟩:=hrel;have HO:=zz hown;have HB:=zz hbr;have hpx:=HPX.out j;have hlk:=HLK.out;have hnk:=HNK.out;rw [hnk,List.length_append] at hlk;have HL9:=zz (show (preB S k++preP l j).length<=300000000 by rw [List.length_append];omega);obtain ⟨P8,d8,hv8,_,_⟩:=own_slice' hown;obtain ⟨n8,hn8⟩:∃n8,(preB S k++preP l j).length=n8:=⟨_,rfl⟩;have HN8:=zz hn8;rw [hn8] at hv8;subst hv8;clear hn8 hpx hlk hnk
    by_cases hjl:j*120<l2
    ·have hjn:j<nPc l:=nPc_lt.2 (by rw [HL2.out];exact hjl);obtain rfl:=hA' hjl;have i3:decide ((0:Int)<((l2-j*120:Nat):Int))=true:=decide_eq_true (by omega);have i4:decide (((l2-j*120:Nat):Int)>0)=true:=decide_eq_true (by omega);have HSP:=zz (HSX.out wr hbr j hjl);have hck:chk (pieceL l j)=0:=pcs_chk HGD.out (piece_in l hjn);have hpl:(pieceL l j).length=min 120 (l2-j*120):=by unfold pieceL;rw [List.length_take,List.length_drop,HL2.out]
     have HEN:=zz (encode_ref_own (some ⟨bs,os+j*120*2,none⟩) (pieceL l j) c' wr HSP.out (by omega));rw [hck,if_pos rfl] at HEN;have HEF:=zz (enc_few hck);have HST:=zz (HPN.out j hjn);rw [hpl] at HEN;obtain ⟨mn,hmn⟩:∃mn,min 120 (l2-j*120)=mn:=⟨_,rfl⟩;obtain ⟨rm,hrm⟩:∃rm,l2-j*120=rm:=⟨_,rfl⟩;rw [hmn] at HEN;rw [hrm] at i3 i4 hc' hmn ⊢;have hmin:min (120:Int) (rm:Int)=(mn:Int):=by omega
     have m1:mn<=rm:=by omega
     have m2:(mn:Int)<=(rm:Int):=by omega
     have m3:0<mn:=by omega
     have m4:rm-mn=l2-(j+1)*120:=by omega
     have HJ:=zz (show j+1<=nPc l from hjn);generalize pieceL l j=q at *;clear hown hbr hck hpl hA' HSP hcn hjn
     go_wp2_with fail
     refine HEN.out.mono ?_;rintro e w11 ⟨v11,rfl,⟨P11,d11,rfl,hP11,hg11⟩,hb11⟩;have HO11:=zz (own_below HO.out hb11);have HB11:=zz (HB.out.trans (hb11.mono HB.out.size));have HP11:=zz hP11;have HNE:=zz (show ∀ad,P11=some ad->some ad.block≠(Value.slice P8 n8 d8).ownBlock from fun ad e h=>by
      have h1:=hg11 ad e;have h2:=(World.ownsRow.lt HO.out _ h.symm).2;omega)
     have HV11:=zz (show ∃eq,eq=(encL q).length from ⟨_,rfl⟩);clear hP11 hg11 hb11 HEN
     go_wp2_with fail
     refine (HUI.out (encL q).length _ (by have:=HEF.out;omega)).mono ?_;rintro e w12 ⟨v12,rfl,ho12,hb12⟩;obtain ⟨P12,d12,hv12,hP12,_⟩:=own_slice' ho12;have HO12:=zz (own_below HO11.out hb12);have HB12:=zz (HB11.out.trans (hb12.mono HB11.out.size));have HP12:=zz hP12;have HQ12:=zz (HP11.out.below hb12);have HU12:=zz (uintL_9 (n:=(encL q).length) (by have:=HEF.out;omega));subst hv12;clear ho12 hb12 hP12
     go_wp2_with (at_builtin;first|(refine app_u8 rfl (.tmp 55) (.tmp 58) rfl w.heap.size (.slice P8 n8 d8) (preB S k++preP l j) rfl HO12.out P12 (uintL (encL q).length) d12 rfl HP12.out (by have:=HU12.out;have:=HL9.out;omega) HB12.out.size ?_;intro v13 w13 ho13 hb13 hg13;have HO13:=zz ho13;have HB13:=zz (HB12.out.trans hb13);have HQ13:=zz (HQ12.out.grown hg13 HNE.out);clear ho13 hb13 hg13)|(refine app_u8 rfl (.tmp 59) (.tmp 60) rfl w.heap.size _ (preB S k++preP l j++uintL (encL q).length) rfl HO13.out P11 (encL q) d11 rfl HQ13.out (by have:=HU12.out;have:=HL9.out;have:=HEF.out;rw [List.length_append];omega) HB13.out.size ?_;intro v14 w14 ho14 hb14 hg14;have HO14:=zz (show Own w14 w.heap.size v14 (preB S k++preP l (j+1)) by rw [HST.out];unfold pcL cntL;simp only [<-List.append_assoc];exact ho14);have HB14:=zz (HB13.out.trans hb14);clear ho14 hb14 hg14))
     refine ⟨⟨j+1,_,_,HJ.out,rfl,by omega,fun h=>?_,HO14.out,HB14.out⟩,?_⟩
     ·have hne:¬c'=mn:=by omega
      rw [if_neg hne];have hm120:mn=120:=by omega
      rw [hm120,show os+j*120*2+120*2=os+(j+1)*120*2 by omega]
     ·show l2-(j+1)*120<rm
      omega
    ·have hj0:l2-j*120=0:=by omega
     have hjn:j=nPc l:=by
      have h1:¬j<nPc l:=fun h=>hjl (by have:=nPc_lt.1 h;rw [HL2.out] at this;exact this)
      omega
     have HO2:=zz (show Own wr w.heap.size (.slice P8 n8 d8) (preB S (k+1)) by
      rw [HNK.out,<-preP_end l,<-hjn];exact hown)
     rw [hj0];clear hown hbr hA' hc' hcn
     go_wp2_with fail
     go_roundw
     case rel=>exact ⟨k+1,HKN.out,by go_num,HO2.out,HB.out⟩
     case measure=>simp [intOf];omega
  ·have i1:decide ((k:Int)<(n:Int))=false:=decide_eq_false (by omega);have i2:¬(k:Int)<(n:Int):=by omega
   have hkn:k=S.length:=by rw [HN.out];omega
   have hpe:=HPE.out;rw [<-hkn] at hpe;have HO:=zz (show Own wr w.heap.size _ (frontL S) by rw [<-hpe];exact hown);obtain ⟨P8,d8,hv8,hP8,_⟩:=own_slice' HO.out;have HSM:=zz (sum_ref P8 (frontL S) d8 wr hP8 (by omega));obtain ⟨n8,hn8⟩:∃n8,(frontL S).length=n8:=⟨_,rfl⟩;have HN8:=zz hn8;rw [hn8] at hv8 HSM hfl;subst hv8;have hS:=sumN_lt (frontL S);obtain ⟨k0,k1,k2,k3⟩:=u32_bytes _ hS;have HK:=zz (And.intro k0 (And.intro k1 (And.intro k2 k3)));have HBL:=zz (show blL S=frontL S++le4 (sumN (frontL S)) from rfl);generalize sumN (frontL S)=T at *;clear hown hbr hP8 hpe hkn hn8 k0 k1 k2 k3
   go_wp2_with fail
   refine HSM.out.mono ?_;rintro e w9 ⟨rfl,rfl⟩;have h4:Own (wr.alloc (.cells #[.int .u8 ((T:Int)%256),.int .u8 ((T:Int)/256%256),.int .u8 ((T:Int)/65536%256),.int .u8 ((T:Int)/16777216)] 5)) wr.heap.size (.slice (some ⟨wr.heap.size,0,none⟩) 4 4) (le4 T):=by
    unfold le4;obtain ⟨k0,k1,k2,k3⟩:=HK.out;refine bl_bys4 (g:=wr.heap.size) ?_ (Nat.le_refl _);rw [<-k0,<-k1,<-k2,<-k3];exact Row.new _ _ _
   have HP4:=zz (show Bys _ (some ⟨wr.heap.size,0,none⟩) (le4 T) from own_bys h4);have HO4:=zz (own_alloc HO.out (.cells #[.int .u8 ((T:Int)%256),.int .u8 ((T:Int)/256%256),.int .u8 ((T:Int)/65536%256),.int .u8 ((T:Int)/16777216)] 5));have HB4:=zz (HB.out.alloc HB.out.size (.cells #[.int .u8 ((T:Int)%256),.int .u8 ((T:Int)/256%256),.int .u8 ((T:Int)/65536%256),.int .u8 ((T:Int)/16777216)] 5));clear h4
   go_wp2_with (at_builtin;refine app_u8 rfl (.tmp 67) (.tmp 79) rfl w.heap.size (.slice P8 n8 d8) (frontL S) rfl HO4.out (some ⟨wr.heap.size,0,none⟩) (le4 T) 4 rfl HP4.out (by have:=HN8.out;rw [le4_len];omega) HB4.out.size ?_;intro v10 w10 ho10 hb10 hg10;have HO10:=zz (show Own w10 w.heap.size v10 (blL S) by rw [HBL.out];exact ho10);have HB10:=zz (HB4.out.trans hb10);clear ho10 hb10 hg10)
   go_ret;exact ⟨_,rfl,HO10.out,HB10.out⟩
set_option maxHeartbeats 4000000 in
theorem count12_ref(A:Option Addr)(S:List Ser)(c:Nat)(w:World)(hA:Sers w A S)(hf:∀s∈S,SerFit s)(hl:S.length<=1000000000000):
 Calls Tryz.prog 36 #[.slice A S.length c] w fun e w'=>(∃m:Nat,e=.returned (.int .i64 (m:Int))/\(m<=65536->m=cntS S)/\(65536<m->65536<cntS S)/\m<=10000000000000)/\Below w.heap.size w w':=by
 have HA:=zz hA;have HF:=zz hf;obtain ⟨n,hn⟩:∃n,S.length=n:=⟨_,rfl⟩;have HN:=zz hn;rw [hn] at hl ⊢;have HCS:=zz (fun k (hk:k<n)=>cnt_step S (k:=k) (by omega));have HCT:=zz (fun k=>cnt_take S k);clear hA hf hn;go_enter Tryz.func36,Tryz.ntmps36
 go_wp2_with fail
 go_loopw [3,4] (fun t i wr=>∃k m:Nat,k<=n/\i=.int .i64 (k:Int)/\t=.int .i64 (m:Int)/\m=cntS (S.take k)/\m<=10000000000000/\Below w.heap.size w wr) (fun _ i _=>n-(intOf i).toNat)
 case atStart=>exact ⟨0,0,Nat.zero_le _,rfl,rfl,rfl,by omega,Below.refl _ _⟩
 case round =>
  obtain ⟨k,m,hk,rfl,rfl,hm,hmb,hbr⟩:=hrel;have HB:=zz hbr
  by_cases hlt:k<n
  ·have i1:decide ((k:Int)<(n:Int))=true:=decide_eq_true (by omega);have i2:(k:Int)<(n:Int):=by omega
   by_cases h6:m<=65536
   ·have j1:decide ((m:Int)<=65536)=true:=decide_eq_true (by omega);have j2:decide (m<=65536)=true:=decide_eq_true h6;obtain ⟨b,o,rfl,hb,hat⟩:=HA.out.all (by rw [HN.out];omega);obtain ⟨mm,hsa⟩:=hat k (by rw [HN.out];exact hlt);have hs:=HF.out _ (ser_at (S:=S) (i:=k) (by rw [HN.out];exact hlt));have hsl:=hs.sl;obtain ⟨_,g1,_⟩:=hsa.below hbr hb;have hcs:=HCS.out k hlt;have HM:=zz (show m+(S.getD k ser0).2.length=cntS (S.take (k+1)) by omega);generalize (S.getD k ser0).2.length=l2 at *;have HM2:=zz (show m+l2<=10000000000000 by omega);have hw1:IntKind.i64.wrap ((m:Int)+(l2:Int))=((m+l2:Nat):Int):=by rw [<-Int.natCast_add];exact IntWalk.i64_in _ (by omega)
    have HK:=zz (show k+1<=n from hlt);clear hbr hat hsa hs hm hcs
    go_wp2_with fail
    go_roundw
    case rel=>exact ⟨k+1,m+l2,HK.out,by go_num,by first|rfl|go_num,HM.out,HM2.out,HB.out⟩
    case measure=>simp [intOf];omega
   ·have j1:decide ((m:Int)<=65536)=false:=decide_eq_false (by omega);have j2:decide (m<=65536)=false:=decide_eq_false h6;have HR:=zz (show (m<=65536->m=cntS S)/\(65536<m->65536<cntS S)/\m<=10000000000000 from ⟨fun h=>absurd h h6,fun h=>by have:=HCT.out k;omega,hmb⟩);clear hm hbr
    go_wp2_with fail
    go_ret;exact ⟨⟨m,rfl,HR.out⟩,HB.out⟩
  ·have hkn:k=S.length:=by rw [HN.out];omega
   rw [hkn,List.take_length] at hm;have i1:decide ((k:Int)<(n:Int))=false:=decide_eq_false (by omega);have i2:¬(k:Int)<(n:Int):=by omega
   have HR:=zz (show (m<=65536->m=cntS S)/\(65536<m->65536<cntS S)/\m<=10000000000000 from ⟨fun _=>hm,fun h=>by omega,hmb⟩);clear hm hbr hkn
   go_wp2_with fail
   go_ret;exact ⟨⟨m,rfl,HR.out⟩,HB.out⟩
set_option maxHeartbeats 8000000 in
theorem check12_ref(A:Option Addr)(S:List Ser)(c:Nat)(w:World)(hA:Sers w A S)(hf:∀s∈S,SerFit s)(hl:S.length*48<=140737488351232)(hlc:S.length<=c):
 Calls Tryz.prog 14 #[.slice A S.length c] w fun e w'=>e=.returned (.int .i64 (blChk S))/\Below w.heap.size w w':=by
 by_cases h256:256<S.length
 ·have HZ:=zz (show blChk S=3 by unfold blChk;rw [if_pos h256]);have d1:decide ((256:Int)<(S.length:Int))=true:=decide_eq_true (by omega);have d2:decide (256<S.length)=true:=decide_eq_true h256;clear hA hf hl hlc;go_enter Tryz.func14,Tryz.ntmps14
  go_wp2_with fail
  go_ret;exact ⟨by rw [HZ.out]<;>rfl,Below.refl _ _⟩
 ·have d1:decide ((256:Int)<(S.length:Int))=false:=decide_eq_false (by omega);have d2:decide (256<S.length)=false:=decide_eq_false h256;have HCT:=zz (count12_ref A S c w hA hf (by omega));have HST:=zz (fun x (hx:Below w.heap.size w x)=>sets12_ref A S c x (hA.below hx) (by omega) hlc);have HIC:=zz (fun P cp (x:World) (h:Sets x P (blSets S))=>ixcheck_told P (blSets S) cp x h (by rw [blSets_len];omega) (fun l hm=>by
   obtain ⟨s,hs,rfl⟩:=List.mem_map.1 hm;exact ⟨(hf s hs).lf,(hf s hs).ll⟩))
  have HA:=zz hA;have HF:=zz hf;have HSF:=zz (fun k (hk:k<S.length)=>serF_first (S:=S) (k:=k) hk);have HSN:=zz (fun h=>serF_none (S:=S) h);have HBC:=zz (show blChk S=if 65536<cntS S then 3 else if ixChk (blSets S)=0 then serF S else ixChk (blSets S) by unfold blChk;rw [if_neg h256]);obtain ⟨n,hn⟩:∃n,S.length=n:=⟨_,rfl⟩;have HN:=zz hn;rw [hn] at HCT HST HSF HSN hl hlc h256 d1 d2 ⊢;clear hA hf hn;go_enter Tryz.func14,Tryz.ntmps14
  go_wp2_with fail
  refine HCT.out.mono ?_;rintro e w2 ⟨⟨m,rfl,hm1,hm2,hm3⟩,hb2⟩;have HB2:=zz hb2
  by_cases h6:65536<m
  ·have q1:decide ((65536:Int)<(m:Int))=true:=decide_eq_true (by omega);have q2:decide (65536<m)=true:=decide_eq_true h6;have HZ:=zz (show blChk S=3 by rw [HBC.out,if_pos (hm2 h6)]);clear hm1 hm2 hb2
   go_wp2_with fail
   go_ret;exact ⟨by rw [HZ.out]<;>rfl,HB2.out⟩
  ·have q1:decide ((65536:Int)<(m:Int))=false:=decide_eq_false (by omega);have q2:decide (65536<m)=false:=decide_eq_false h6;have hcs:=hm1 (by omega);have HBD:=zz (show blChk S=if ixChk (blSets S)=0 then serF S else ixChk (blSets S) by rw [HBC.out,if_neg (by omega)]);have HS2:=zz (HST.out w2 hb2);clear hm1 hm2 hcs hb2
   go_wp2_with fail
   refine HS2.out.mono ?_;rintro e w3 ⟨P3,c3,rfl,hs3,hb3⟩;have HI3:=zz (HIC.out _ c3 _ hs3);have HB3:=zz (below_then HB2.out hb3);generalize (blSets S).length=nS at *;clear hs3 hb3 HS2
   go_wp2_with fail
   refine HI3.out.mono ?_;rintro e w4 ⟨rfl,hb4⟩;have HB4:=zz (below_then HB3.out hb4);obtain ⟨E,hE⟩:∃E,ixChk (blSets S)=E:=⟨_,rfl⟩;have HE:=zz hE;clear hb4;rw [hE]
   by_cases h0:E=0
   ·have r1:(E !=0)=false:=by rw [h0];rfl
    have HBE:=zz (show blChk S=serF S by rw [HBD.out,hE,if_pos h0]);clear hE
    go_wp2_with fail
    go_loopw [4] (fun i wr=>∃j:Nat,j<=n/\i=.int .i64 (j:Int)/\(∀t,t<j->serE (S.getD t ser0).2=0)/\Below w.heap.size w wr) (fun i _=>n-(intOf i).toNat)
    case atStart=>exact ⟨0,Nat.zero_le _,rfl,fun t ht=>absurd ht (by omega),HB4.out⟩
    case round =>
     obtain ⟨j,hj,rfl,hz,hbr⟩:=hrel;have HB:=zz hbr;have HZ:=zz hz
     by_cases hlt:j<n
     ·have i1:decide ((j:Int)<(n:Int))=true:=decide_eq_true (by omega);have i2:(j:Int)<(n:Int):=by omega
      obtain ⟨b,o,rfl,hb,hat⟩:=HA.out.all (by rw [HN.out];omega);obtain ⟨mm,hsa⟩:=hat j (by rw [HN.out];exact hlt);have hs:=HF.out _ (ser_at (S:=S) (i:=j) (by rw [HN.out];exact hlt));have hsl:=hs.sl;obtain ⟨_,g1,hin⟩:=hsa.below hbr hb;have hsm:=hin.samples;simp only at hsm;have HFI:=zz (HSF.out j hlt hz);have HK:=zz (show j+1<=n from hlt);have hse:serE (S.getD j ser0).2=if (S.getD j ser0).2.length=0 then 2 else errF (S.getD j ser0).2 (S.getD j ser0).2.length 0:=rfl;have HNX:=zz (show serE (S.getD j ser0).2=0->∀t,t<j+1->serE (S.getD t ser0).2=0 from fun h t ht=>by
       rcases Nat.lt_or_ge t j with h1|h1
       ·exact hz t h1
       ·obtain rfl:t=j:=by omega
        exact h)
      have HRI:=zz (rises_ref mm.sa (S.getD j ser0).2 mm.sc wr hsm (by omega));clear hat hsa hs hin hsm hz hbr
      by_cases hl0:(S.getD j ser0).2.length=0
      ·rw [if_pos hl0] at hse;have HFJ:=zz (HFI.out (by rw [hse];decide));rw [hl0] at g1;have HSE:=zz hse;clear hse hl0
       go_wp2_with fail
       go_ret;exact ⟨by rw [HBE.out,HFJ.out,HSE.out]<;>rfl,HB.out⟩
      ·rw [if_neg hl0] at hse;obtain ⟨l2,hl2⟩:∃l2,(S.getD j ser0).2.length=l2:=⟨_,rfl⟩;rw [hl2] at g1 HRI hl0 hse;have s0:((l2:Int)==0)=false:=by rw [beq_eq_false_iff_ne];omega
       obtain ⟨F,hF⟩:∃F,errF (S.getD j ser0).2 l2 0=F:=⟨_,rfl⟩;rw [hF] at HRI hse;have HSE:=zz hse;clear hF hl2 hse hsl
       go_wp2_with fail
       refine HRI.out.mono ?_;rintro e w5 ⟨rfl,hb5⟩;have HB5:=zz (below_then HB.out hb5);clear hb5
       by_cases hF0:F=0
       ·have t1:(F !=0)=false:=by rw [hF0];rfl
        have HNY:=zz (HNX.out (by rw [HSE.out,hF0]))
        go_wp2_with fail
        go_roundw
        case rel=>exact ⟨j+1,HK.out,by go_num,HNY.out,HB5.out⟩
        case measure=>simp [intOf];omega
       ·have t1:(F !=0)=true:=bne_iff_ne.2 hF0;have HFJ:=zz (HFI.out (by rw [HSE.out];exact hF0))
        go_wp2_with fail
        go_ret;exact ⟨by rw [HBE.out,HFJ.out,HSE.out]<;>rfl,HB5.out⟩
     ·have i1:decide ((j:Int)<(n:Int))=false:=decide_eq_false (by omega);have i2:¬(j:Int)<(n:Int):=by omega
      have HS0:=zz (HSN.out fun t ht=>hz t (by omega));clear hz hbr
      go_wp2_with fail
      go_ret;exact ⟨by rw [HBE.out,HS0.out]<;>rfl,HB.out⟩
   ·have r1:(E !=0)=true:=bne_iff_ne.2 h0;have HBE:=zz (show blChk S=E by rw [HBD.out,hE,if_neg h0]);clear hE
    go_wp2_with fail
    go_ret;exact ⟨by rw [HBE.out]<;>rfl,HB4.out⟩
end Go.Proofs.YtgdmcnoogacdaaaGreatDoor
