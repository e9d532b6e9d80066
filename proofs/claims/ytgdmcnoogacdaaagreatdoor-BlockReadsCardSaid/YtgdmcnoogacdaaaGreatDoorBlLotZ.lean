/- In one text, written by lotify.py: ChRef2, ChLives, ChSeek. -/
import Derived.Test.YtgdmcnoogacdaaaGreatDoorBlLotM
import Derived.Test.YtgdmcnoogacdaaaGreatDoorBlLotH
namespace Go.Proofs.YtgdmcnoogacdaaaGreatDoor.Ch
open Go.RowKit Go.Maps
set_option linter.unusedVariables false
def Sl(w:World)(v:Value)(l:List UInt8):Prop:=∃B d,v=.slice B l.length d/\Bys w B l
def SlB(base:Nat)(w:World)(v:Value)(l:List UInt8):Prop:=∃B d,v=.slice B l.length d/\Bys w B l/\∀ad,B=some ad->base<=ad.block
def numE(u:Nat):List Value:=[.int .u64 (u:Int)]
theorem numE_len(u:Nat):(numE u).length=1:=rfl
def OwnN(w:World)(base:Nat)(v:Value)(us:List Nat):Prop:=w.ownsRow base 176 1 v us.length (us.flatMap numE)
theorem ownn_below{w w':World}{base:Nat}{v:Value}{us:List Nat}(h:OwnN w base v us)(hb:Below w.heap.size w w'):OwnN w' base v us:=rows_below h hb
theorem ownn_slice{w:World}{base:Nat}{v:Value}{us:List Nat}(h:OwnN w base v us):∃P c,v=.slice P us.length c/\us.length<=c/\At w P (us.flatMap numE)/\∀ad,P=some ad->base<=ad.block:=rows_slice h
theorem ownn_at{w:World}{P:Option Addr}{us:List Nat}(h:At w P (us.flatMap numE)){i:Nat}(hi:i<us.length):∃b o,P=some ⟨b,o,none⟩/\b<w.heap.size/\w.cell? ⟨b,o+i,none⟩=some (.int .u64 (us.getD i 0:Int)):=by
 have hlen:=flat_len numE 1 numE_len us;rcases h with h|⟨b,o,rfl,hb,hc⟩
 ·rw [h] at hlen;simp at hlen;omega
 ·refine ⟨b,o,rfl,hb,?_⟩;have:=hc (i*1+0) _ (flat_get numE 1 numE_len us i _ 0 (getD_some us 0 hi) (by omega));rw [Nat.mul_one] at this;exact this
theorem ownn_three{w:World}{g:Nat}{a b c:Nat}(h:Row w g 176 #[.int .u64 (a:Int),.int .u64 (b:Int),.int .u64 (c:Int)]){base:Nat}(hb:base<=g):OwnN w base (.slice (some ⟨g,0,none⟩) 3 3) [a,b,c] :=
 ⟨rfl,.inr ⟨g,3,_,rfl,hb,h,Nat.le_refl _,by simp [maxLen],rfl,rfl⟩⟩
theorem u64_info:(Tryz.prog.info? 176).map (fun i=>(i.zero,i.size,i.bytes))=some (some (.int .u64 0),1,8):=by kernel_rfl
theorem ownn_app{w:World}{base:Nat}{v:Value}{us:List Nat}{u:Nat}(h:w.ownsRow base 176 1 v (us.length+1) (us.flatMap numE++[.int .u64 (u:Int)])):OwnN w base v (us++[u]):=by
 unfold OwnN;rw [List.flatMap_append,List.length_append];exact h
set_option maxRecDepth 20000 in
set_option maxHeartbeats 2000000 in
theorem encode_ref_own(A:Option Addr)(l:List Smp)(c:Nat)(w:World)(hA:Smps w A l)(hlen:l.length<=100000000000000):
 Calls Tryz.prog 74 #[.slice A l.length c] w fun e w'=>∃v,e=.returned (.tuple #[v,.int .i64 (chk l)])/\SlB w.heap.size w' v (if chk l=0 then encL l else [])/\Below w.heap.size w w':=by
 have HC:=zz (fun W (hW:Below w.heap.size w W)=>chk_ref A l c W (hA.below hW) hlen)
 by_cases h0:chk l=0
 ·rw [if_pos h0,h0];have HC0:=zz (fun W hW=>by have:=HC.out W hW;rw [h0] at this;exact this);obtain ⟨l0,l1,hg⟩:=chk_zero.1 h0;have HG:=zz hg;obtain ⟨b,o,rfl,hb,hc⟩:=hA.all l0;have Hc:=zz (fun W (hW:Below w.heap.size w W) i hi=>(⟨(hW.cell (p:=⟨b,o+i*2,none⟩) hb).trans (hc i hi).1,(hW.cell (p:=⟨b,o+i*2+1,none⟩) hb).trans (hc i hi).2⟩:W.cell? ⟨b,o+i*2,none⟩=some (.int .i64 (tOf l i))/\W.cell? ⟨b,o+i*2+1,none⟩=some (.int .i64 (vOf l i))));have HCK:=zz h0;clear hc hA HC h0 hg;go_enter Tryz.func74,Tryz.ntmps74
  go_wp2_with fail
  refine (HC0.out _ (Below.refl _ _)).mono ?_;rintro e w1 ⟨rfl,hb1⟩;obtain ⟨p0,p1⟩:=Hc.out w1 hb1 0 l0;rw [Nat.zero_mul,Nat.add_zero] at p0 p1;have b1:=good_at HG.out l0;have HZ:=zz (fun W=>zig_ref (vOf l 0) W (by omega) (by omega));have ht0:(tOf l 0).toNat=tnum l 0:=by unfold tnum dist preT;simp
  have hv0:zig (vOf l 0)=vnum l 0:=by unfold vnum preV;simp
  obtain ⟨tn,htn⟩:∃tn:Nat,tOf l 0=tn:=⟨(tOf l 0).toNat,by omega⟩;have ht1:tn=tnum l 0:=by omega
  rw [hv0] at HZ;have HT0:=zz ht1;generalize tOf l 0=T at *;generalize vOf l 0=V at *;generalize hvn0:vnum l 0=vn at *;have HV0:=zz hvn0;clear hvn0;subst htn;have il:(0:Int)<(l.length:Int):=by omega
  clear ht0 hv0 ht1
  go_wp2_with fail
  have hg1:w.heap.size<=w1.heap.size:=hb1.size;have HR0:Hid (Row (w1.alloc (.cells #[.int .u64 (l.length:Int),.int .u64 (tn:Int),.int .u64 (vn:Int)] 176)).drew w1.heap.size 176 #[.int .u64 (l.length:Int),.int .u64 (tn:Int),.int .u64 (vn:Int)]):=zz (Row.new w1 _ _);have HB0:=zz (show Below w.heap.size w (w1.alloc (.cells #[.int .u64 (l.length:Int),.int .u64 (tn:Int),.int .u64 (vn:Int)] 176)).drew from (hb1.alloc hg1 _).drew);have wr1:IntKind.u64.wrap (l.length:Int)=(l.length:Int):=IntWalk.u64_in _ (by omega);have wr2:IntKind.u64.wrap (tn:Int)=(tn:Int):=IntWalk.u64_in _ (by omega);have hbody:l.length::body l 1=[l.length,tn,vn]:=by
   show [l.length]++([]++[tnum l 0,vnum l 0])=_
   rw [<-HT0.out,HV0.out];rfl
  have HBO:=zz hbody;clear hbody
  go_cut [5] (fun s5 wx=>∃P d,s5=.slice P (l.length::body l 1).length d/\OwnN wx w.heap.size s5 (l.length::body l 1)/\Below w.heap.size w wx)
  case first =>
   go_region_with (first|(go_at_call 113;refine (HZ.out _).mono ?_;rintro e w9 ⟨rfl,rfl⟩))
   all_goals (go_wp2_with fail;go_meet)
   all_goals
    refine ⟨some ⟨w1.heap.size,0,none⟩,3,by rw [HBO.out];rfl,?_,HB0.out⟩;rw [HBO.out];exact ownn_three HR0.out hg1
  case rest =>
   obtain ⟨P,d,rfl,hN,hbx⟩:=hcut;have HN:=zz hN;clear HZ HR0 HB0 hN p0 p1 wr1 wr2 HC0;clear hb1 hg1;generalize hlb:(l.length::body l 1).length=lb at *;have HLB:=zz hlb;have HBX:=zz hbx;clear hlb hbx b1 HT0 HV0 HBO
   go_wp2_with fail
   go_loopw [5,6] (fun n i wr=>∃(k:Nat) (P:Option Addr) (d:Nat),1<=k/\k<=l.length/\i=.int .i64 (k:Int)/\n=.slice P (l.length::body l k).length d/\OwnN wr w.heap.size n (l.length::body l k)/\Below w.heap.size w wr) (fun _ i _=>l.length-(intOf i).toNat)
   case atStart=>exact ⟨1,P,d,Nat.le_refl _,by omega,rfl,by rw [HLB.out],HN.out,HBX.out⟩
   case round =>
    clear HN HLB HBX;obtain ⟨k,P,d,hk1,hk,rfl,rfl,hN,hbr⟩:=hrel;have hsz:=hbr.size;have HBR:=zz hbr;have HN:=zz hN
    by_cases hlt:k<l.length
    ·obtain ⟨g0,g1⟩:=Hc.out wr hbr k hlt;obtain ⟨g2,g3⟩:=Hc.out wr hbr (k-1) (by omega);have HCW:=zz (fun W hW=>(⟨(Hc.out W hW k hlt).2,(Hc.out W hW (k-1) (by omega)).2⟩:W.cell? ⟨b,o+k*2+1,none⟩=some (.int .i64 (vOf l k))/\W.cell? ⟨b,o+(k-1)*2+1,none⟩=some (.int .i64 (vOf l (k-1)))));have i2:(k:Int)<(l.length:Int):=by omega
     have b0:=good_at HG.out hlt;have b1:=good_at HG.out (i:=k-1) (by omega);have b3:=good_dist HG.out hlt;have b4:=good_preD HG.out hk;have t1:=tnum_lt HG.out hlt;have v1:=vnum_lt HG.out hlt;have hPT:preT l k=tOf l (k-1):=by unfold preT;rw [if_neg (by omega)]
     have hPV:preV l k=vOf l (k-1):=by unfold preV;rw [if_neg (by omega)]
     have hTD:tOf l k-tOf l (k-1)=dist l k:=by unfold dist;rw [hPT]
     have HTN:=zz (show if k<2 then dist l k=(tnum l k:Int) else tnum l k=zig (dist l k-preD l k) by
      unfold tnum
      split
      ·omega
      ·rfl)
     have HVN:=zz (show vnum l k=zig (vOf l k-vOf l (k-1)) by unfold vnum;rw [hPV]);have HNX:=zz (show l.length::body l (k+1)=((l.length::body l k)++[tnum l k])++[vnum l k] by
      show l.length::(body l k++[tnum l k,vnum l k])=_
      simp)
     have HCT:=zz (fun W hW=>(Hc.out W hW (k-1) (by omega)).1);have HLN:=zz (show (l.length::body l k).length<=1000 by rw [List.length_cons,body_len];omega);have HP2:=zz (fun (h2:2<=k)=>(show preD l k=tOf l (k-1)-tOf l (k-2) by
      unfold preD dist preT;rw [if_neg (by omega),if_neg (by omega)];rfl))
     have HC2:=zz (fun (h2:2<=k) W hW=>(Hc.out W hW (k-2) (by omega)).1);clear hPT hPV hN hbr;have hkj:(k:Int)-1=((k-1:Nat):Int):=by omega
     have hjl:((k-1:Nat):Int)<(l.length:Int):=by omega
     have hkm:2<=k->(k:Int)-2=((k-2:Nat):Int)/\((k-2:Nat):Int)<(l.length:Int):=by omega
     generalize tOf l k=T0 at *;generalize tOf l (k-1)=T1 at *;generalize tOf l (k-2)=T2 at *;generalize vOf l k=V0 at *;generalize vOf l (k-1)=V1 at *;generalize k-1=j at *;generalize k-2=m at *;have hk0:(0:Int)<=(k:Int):=by omega
     have hj0:(0:Int)<=(j:Int):=by omega
     have hm0:(0:Int)<=(m:Int):=by omega
     have wrj:IntKind.i64.wrap (j:Int)=(j:Int):=IntWalk.i64_in _ (by omega);have wrk:IntKind.i64.wrap ((k:Int)-1)=(j:Int):=by rw [hkj];exact IntWalk.i64_in _ (by omega)
     generalize preD l k=PD at *;generalize dist l k=D at *;generalize tnum l k=tn at *;generalize vnum l k=vn at *;generalize hus1:l.length::body l (k+1)=us1 at *;have HUS1:=zz hus1;clear hus1;generalize l.length::body l k=us at *;obtain ⟨i0,hi,hz0,hz1,hz2⟩:=info_parts u64_info;obtain ⟨DV,hDV⟩:∃DV,V0-V1=DV:=⟨_,rfl⟩;have HDV:=zz hDV;rw [hDV] at HVN;have HZV:=zz (fun W=>by have:=zig_ref DV W (by omega) (by omega);rw [<-HVN.out] at this;exact this);have hDVb:-2305843009213693952<=DV/\DV<=2305843009213693952:=by omega
     clear hDV;have HNa:Hid (∀o,OwnN ((wr.alloc o).drew) w.heap.size (.slice P us.length d) us):=zz (fun o=>ownn_below HN.out (below_one wr o).drew);have HAa:Hid (At (wr.alloc (.cells #[.int .u64 (tn:Int)] 176)).drew (some ⟨wr.heap.size,0,none⟩) [.int .u64 (tn:Int)]):=zz (At.row (Row.new wr _ _));have HBa:Hid (∀o,Below w.heap.size w ((wr.alloc o).drew)):=zz (fun o=>(HBR.out.alloc hsz o).drew);have HL:=zz (show us.length+1<=maxLen by simp only [maxLen];have:=HLN.out;omega);have HL':=zz (show (us.length+1)*8<=140737488355328 by have:=HLN.out;omega);have wrDD:IntKind.i64.wrap D=D:=IntWalk.i64_in _ (by omega);have wrVV:IntKind.i64.wrap DV=DV:=IntWalk.i64_in _ (by omega);have wrD:IntKind.i64.wrap (T0-T1)=D:=by rw [hTD];exact IntWalk.i64_in _ (by omega)
     by_cases hk2:k<2
     ·have e1:((k:Int)==1)=true:=by rw [beq_iff_eq];omega
      rw [if_pos hk2] at HTN;have hDt:D=(tn:Int):=HTN.out;subst hDt;have wrT:IntKind.u64.wrap (tn:Int)=(tn:Int):=IntWalk.u64_in _ (by omega);clear HC2 HP2
      go_wp2_with fail
      go_region
      all_goals
       go_wp2_with (at_builtin;refine wpList_app_at rfl (.tmp 49) (.tmp 52) 183 rfl w.heap.size 176 i0 _ 1 8 Tryz.underlying183 hi hz0 hz1 hz2 rfl (by omega) (.slice P us.length d) us.length (us.flatMap numE) rfl (HNa.out _) (some ⟨wr.heap.size,0,none⟩) 1 1 [.int .u64 (tn:Int)] rfl rfl HAa.out (by intro u hu;simp at hu;subst hu;rfl) HL.out HL'.out (by exact Nat.le_trans hsz (by simp)) ?_;intro v3 w3 hown3 hb3 _;have HO3:=zz (ownn_app hown3);have HB3:=zz ((HBa.out _).trans hb3);obtain ⟨P3,c3,hv3,_,_,_⟩:=ownn_slice HO3.out;generalize hl3:(us++[tn]).length=l3 at hv3;have HLL3:=zz hl3;subst hv3;clear hown3 hb3 hl3)
       clear g0 g1 g2 g3;have hb3s:=HB3.out.size;obtain ⟨q0,q1⟩:=HCW.out w3 HB3.out;have hVD:V0-V1=DV:=HDV.out;have wrV:IntKind.i64.wrap (V0-V1)=DV:=by rw [hVD];exact IntWalk.i64_in _ (by omega)
       have HNa3:Hid (∀o,OwnN ((w3.alloc o).drew) w.heap.size (.slice P3 l3 c3) (us++[tn])):=zz (fun o=>ownn_below HO3.out (below_one w3 o).drew);have HAa3:Hid (At (w3.alloc (.cells #[.int .u64 (vn:Int)] 176)).drew (some ⟨w3.heap.size,0,none⟩) [.int .u64 (vn:Int)]):=zz (At.row (Row.new w3 _ _));have HBa3:Hid (∀o,Below w.heap.size w ((w3.alloc o).drew)):=zz (fun o=>(HB3.out.alloc hb3s o).drew);have HL3:=zz (show (us++[tn]).length+1<=maxLen by rw [List.length_append,List.length_singleton];simp only [maxLen];have:=HLN.out;omega);have HL3':=zz (show ((us++[tn]).length+1)*8<=140737488355328 by rw [List.length_append,List.length_singleton];have:=HLN.out;omega);have HE3:=zz HLL3.out;clear hTD hVD
       go_wp2_with fail
       go_region_held3 (fun w'=>w'.cell? ⟨b,o+k*2+1,none⟩=some (.int .i64 V0)/\w'.cell? ⟨b,o+j*2+1,none⟩=some (.int .i64 V1))
        (first|exact ⟨q0,q1⟩|exact q0|exact q1|exact ⟨x0,x1⟩|exact x0|exact x1|go_keep)
        (first
          | (go_at_call 113;refine (HZV.out _).mono ?_;rintro e w9 ⟨rfl,rfl⟩)
          | (refine step_app_at rfl (.tmp 73) (.tmp 87) 183 rfl w.heap.size 176 i0 _ 1 8 Tryz.underlying183 hi hz0 hz1 hz2 rfl (by omega) (.slice P3 l3 c3) (us++[tn]).length ((us++[tn]).flatMap numE) rfl (HNa3.out _) (some ⟨w3.heap.size,0,none⟩) 1 1 [.int .u64 (vn:Int)] rfl rfl HAa3.out (by intro u hu;simp at hu;subst hu;rfl) HL3.out HL3'.out (by exact Nat.le_trans hb3s (by simp)) ?_
             intro v5 w5 hown5 hb5 _;have HO5:=zz (ownn_app hown5);have HB5:=zz ((HBa3.out _).trans hb5);obtain ⟨x0,x1⟩:=HCW.out w5 HB5.out;obtain ⟨P5,c5,hv5,_,_,_⟩:=ownn_slice HO5.out;generalize hl5:(us++[tn]++[vn]).length=l5 at hv5;have HLL5:=zz hl5;subst hv5;clear hown5 hb5 hl5))
       all_goals
        go_wp2_with fail
        go_roundw
        case rel=>exact ⟨k+1,P5,c5,by omega,by omega,by go_num,by rw [HUS1.out,HNX.out,HLL5.out],by rw [HUS1.out,HNX.out];exact HO5.out,HB5.out⟩
        case measure=>simp [intOf];omega
     ·have e1:((k:Int)==1)=false:=by rw [beq_eq_false_iff_ne];omega
      rw [if_neg hk2] at HTN;have hPD:T1-T2=PD:=(HP2.out (by omega)).symm;have wrP:IntKind.i64.wrap (T1-T2)=PD:=by rw [hPD];exact IntWalk.i64_in _ (by omega)
      have wrQ:IntKind.i64.wrap (D-PD)=D-PD:=IntWalk.i64_in _ (by omega);have g4:=HC2.out (by omega) wr HBR.out;obtain ⟨hkm',hml⟩:=hkm (by omega);have wrmm:IntKind.i64.wrap (m:Int)=(m:Int):=IntWalk.i64_in _ (by omega);have wrPP:IntKind.i64.wrap PD=PD:=IntWalk.i64_in _ (by omega);have wrm:IntKind.i64.wrap ((k:Int)-2)=(m:Int):=by rw [hkm'];exact IntWalk.i64_in _ (by omega)
      have HZT:=zz (fun W=>by have:=zig_ref (D-PD) W (by omega) (by omega);rw [<-HTN.out] at this;exact this);obtain ⟨w8,hw8⟩:∃w8,wr.drew=w8:=⟨_,rfl⟩;have HNb:Hid (∀o,OwnN ((w8.alloc o).drew) w.heap.size (.slice P us.length d) us):=by subst hw8;exact HNa
      have HAb:Hid (At (w8.alloc (.cells #[.int .u64 (tn:Int)] 176)).drew (some ⟨w8.heap.size,0,none⟩) [.int .u64 (tn:Int)]):=by subst hw8;exact HAa
      have HBb:Hid (∀o,Below w.heap.size w ((w8.alloc o).drew)):=by subst hw8;exact zz (fun o=>(HBR.out.drew.alloc hsz o).drew)
      have hs8:w.heap.size<=w8.heap.size:=by subst hw8;exact hsz
      have k0:w8.cell? ⟨b,o+k*2,none⟩=some (.int .i64 T0):=by subst hw8;exact g0
      have k2:w8.cell? ⟨b,o+j*2,none⟩=some (.int .i64 T1):=by subst hw8;exact g2
      have k4:w8.cell? ⟨b,o+m*2,none⟩=some (.int .i64 T2):=by subst hw8;exact g4
      go_wp2_with fail
      go_region
      all_goals
       try rw [hw8]
       clear hw8 g0 g1 g2 g3 g4
       go_wp2_with fail
       go_region_held3 (fun w'=>w'.cell? ⟨b,o+j*2,none⟩=some (.int .i64 T1)/\w'.cell? ⟨b,o+m*2,none⟩=some (.int .i64 T2))
        (first|exact ⟨k2,k4⟩|exact k2|exact k4|exact ⟨y0,y1⟩|exact y0|exact y1|go_keep)
        (first
          | (go_at_call 113;refine (HZT.out _).mono ?_;rintro e w9 ⟨rfl,rfl⟩)
          | (refine step_app_at rfl (.tmp 54) (.tmp 71) 183 rfl w.heap.size 176 i0 _ 1 8 Tryz.underlying183 hi hz0 hz1 hz2 rfl (by omega) (.slice P us.length d) us.length (us.flatMap numE) rfl (HNb.out _) (some ⟨w8.heap.size,0,none⟩) 1 1 [.int .u64 (tn:Int)] rfl rfl HAb.out (by intro u hu;simp at hu;subst hu;rfl) HL.out HL'.out (by exact Nat.le_trans hs8 (by simp)) ?_
             intro v3 w3 hown3 hb3 _;have HO3:=zz (ownn_app hown3);have HB3:=zz ((HBb.out _).trans hb3);have y0:=HCT.out w3 HB3.out;have y1:=HC2.out (by omega) w3 HB3.out;obtain ⟨P3,c3,hv3,_,_,_⟩:=ownn_slice HO3.out;generalize hl3:(us++[tn]).length=l3 at hv3;have HLL3:=zz hl3;subst hv3;clear hown3 hb3 hl3))
      all_goals
       clear k0 k2 k4 y0 y1;have hb3s:=HB3.out.size;obtain ⟨q0,q1⟩:=HCW.out w3 HB3.out;have hVD:V0-V1=DV:=HDV.out;have wrV:IntKind.i64.wrap (V0-V1)=DV:=by rw [hVD];exact IntWalk.i64_in _ (by omega)
       have HNa3:Hid (∀o,OwnN ((w3.alloc o).drew) w.heap.size (.slice P3 l3 c3) (us++[tn])):=zz (fun o=>ownn_below HO3.out (below_one w3 o).drew);have HAa3:Hid (At (w3.alloc (.cells #[.int .u64 (vn:Int)] 176)).drew (some ⟨w3.heap.size,0,none⟩) [.int .u64 (vn:Int)]):=zz (At.row (Row.new w3 _ _));have HBa3:Hid (∀o,Below w.heap.size w ((w3.alloc o).drew)):=zz (fun o=>(HB3.out.alloc hb3s o).drew);have HL3:=zz (show (us++[tn]).length+1<=maxLen by rw [List.length_append,List.length_singleton];simp only [maxLen];have:=HLN.out;omega);have HL3':=zz (show ((us++[tn]).length+1)*8<=140737488355328 by rw [List.length_append,List.length_singleton];have:=HLN.out;omega);have HE3:=zz HLL3.out;clear hTD hVD
       go_wp2_with fail
       go_region_held3 (fun w'=>w'.cell? ⟨b,o+k*2+1,none⟩=some (.int .i64 V0)/\w'.cell? ⟨b,o+j*2+1,none⟩=some (.int .i64 V1))
        (first|exact ⟨q0,q1⟩|exact q0|exact q1|exact ⟨x0,x1⟩|exact x0|exact x1|go_keep)
        (first
          | (go_at_call 113;refine (HZV.out _).mono ?_;rintro e w9 ⟨rfl,rfl⟩)
          | (refine step_app_at rfl (.tmp 73) (.tmp 87) 183 rfl w.heap.size 176 i0 _ 1 8 Tryz.underlying183 hi hz0 hz1 hz2 rfl (by omega) (.slice P3 l3 c3) (us++[tn]).length ((us++[tn]).flatMap numE) rfl (HNa3.out _) (some ⟨w3.heap.size,0,none⟩) 1 1 [.int .u64 (vn:Int)] rfl rfl HAa3.out (by intro u hu;simp at hu;subst hu;rfl) HL3.out HL3'.out (by exact Nat.le_trans hb3s (by simp)) ?_
             intro v5 w5 hown5 hb5 _;have HO5:=zz (ownn_app hown5);have HB5:=zz ((HBa3.out _).trans hb5);obtain ⟨x0,x1⟩:=HCW.out w5 HB5.out;obtain ⟨P5,c5,hv5,_,_,_⟩:=ownn_slice HO5.out;generalize hl5:(us++[tn]++[vn]).length=l5 at hv5;have HLL5:=zz hl5;subst hv5;clear hown5 hb5 hl5))
       all_goals
        go_wp2_with fail
        go_roundw
        case rel=>exact ⟨k+1,P5,c5,by omega,by omega,by go_num,by rw [HUS1.out,HNX.out,HLL5.out],by rw [HUS1.out,HNX.out];exact HO5.out,HB5.out⟩
        case measure=>simp [intOf];omega
    ·obtain rfl:k=l.length:=by omega
     go_wp2_with fail
     have hnum:l.length::body l l.length=nums l:=rfl;rw [hnum] at HN;simp only [hnum];have HNL:=zz (nums_lt HCK.out);have HLN:=zz (show (nums l).length<=1000 by show (l.length::body l l.length).length<=1000;rw [List.length_cons,body_len];omega);have HEN:=zz (show (putNs ([],0) ((nums l).take (nums l).length)).1=encL l by rw [List.take_length];rfl);have HSt:=zz (fun (q:Nat) (hq:q<(nums l).length)=>(show putNs ([],0) ((nums l).take (q+1))=(numL (putNs ([],0) ((nums l).take q)).1 (putNs ([],0) ((nums l).take q)).2 ((nums l).getD q 0),(putNs ([],0) ((nums l).take q)).2+(7+digs ((nums l).getD q 0))) by
      rw [List.take_succ_eq_append_getElem hq,putNs_snoc,getD_in _ _ hq]))
     have HFew:=zz (fun (q:Nat)=>(show (putNs ([],0) ((nums l).take q)).2<=100000 by
      rw [putNs_end];have:=endN_few ((nums l).take q) 0 (fun u hu=>HNL.out u (List.mem_of_mem_take hu));have h2:((nums l).take q).length<=1000:=by rw [List.length_take];have:=HLN.out;omega
      show endN 0 _<=_
      omega))
     have HRi:=zz (fun (q:Nat)=>putNs_right ((nums l).take q) ([],0) right_nil);generalize nums l=us at *;have hX0:Row (wr.alloc (.cells #[.slice none 0 0,.int .i64 0] 126)) wr.heap.size 126 #[.slice none 0 0,.int .i64 0]:=Row.new wr _ _;have hb0:=hbr.alloc hsz (.cells #[.slice none 0 0,.int .i64 0] 126);have hN0:=ownn_below HN.out (below_one wr (.cells #[.slice none 0 0,.int .i64 0] 126));have hXb:w.heap.size<=wr.heap.size:=hsz;generalize hX:wr.heap.size=X at *;clear hX hN hbr HBR HN
     go_loopw [9] (fun i wz=>∃(q:Nat) (V:Option Addr) (cc:Nat),q<=us.length/\i=.int .i64 (q:Int)/\Row wz X 126 #[.slice V (putNs ([],0) (us.take q)).1.length cc,.int .i64 ((putNs ([],0) (us.take q)).2:Int)]/\Bys wz V (putNs ([],0) (us.take q)).1 /\
      Hid (∀ad,V=some ad->ad.block≠X/\w.heap.size<=ad.block)/\Below w.heap.size w wz/\OwnN wz w.heap.size (.slice P us.length d) us) (fun i _=>us.length-(intOf i).toNat)
     case atStart=>exact ⟨0,none,0,Nat.zero_le _,rfl,hX0,Bys.empty _ _,zz (fun ad h=>by cases h),hb0,hN0⟩
     case round =>
      clear hX0 hb0 hN0;obtain ⟨q,V,cc,hq,rfl,hXr,hVr,HVX,hbz,hNz⟩:=hrel;have hszz:=hbz.size;have c0:wr.cell? ⟨X,0,none⟩=some (.slice V (putNs ([],0) (us.take q)).1.length cc):=hXr.cell 0;have c1:wr.cell? ⟨X,1,none⟩=some (.int .i64 ((putNs ([],0) (us.take q)).2:Int)):=hXr.cell 1
      by_cases hqt:q<us.length
      ·obtain ⟨b',o',hPe,hbb,hun⟩:=ownn_at (P:=P) (us:=us) (w:=wr) (by obtain ⟨P1,c1,hv,_,hat,_⟩:=ownn_slice hNz;injection hv with e1 e2 e3;subst e1;exact hat) hqt;subst hPe;have i2:(q:Int)<(us.length:Int):=by omega
       have hl1000:us.length<=1000:=HLN.out;have hu64:us.getD q 0<=18446744073709551615:=HNL.out _ (by rw [getD_in _ _ hqt];exact List.getElem_mem hqt);have hright:=HRi.out q;have hfew:=HFew.out q;have hstep:=HSt.out q hqt;have hlenL:(putNs ([],0) (us.take q)).1.length<=20000:=by have:=(rightB_iff.1 hright).2.1;rw [Int.toNat_natCast] at this;omega
       have HPN:=zz (fun W hW=>putnum_ok_ref V (putNs ([],0) (us.take q)).1 cc (putNs ([],0) (us.take q)).2 (us.getD q 0) W hW (by omega) hu64 hright);generalize us.getD q 0=u at *;generalize hL:(putNs ([],0) (us.take q)).1=L at *;generalize hM:(putNs ([],0) (us.take q)).2=M at *;have HS1:=zz (show putNs ([],0) (us.take (q+1))=(numL L M u,M+(7+digs u)) from hstep);generalize hL':numL L M u=L' at *;generalize hM':M+(7+digs u)=M' at *;clear hL hM hL' hM' hstep hright hfew hlenL;have HXr:=zz (show Row wr.drew X 126 #[.slice V L.length cc,.int .i64 (M:Int)] from hXr);have HVr:=zz (show Bys wr.drew V L from hVr);have HBz:=zz (show Below w.heap.size w wr.drew from hbz.drew);have HNz:=zz (show OwnN wr.drew w.heap.size (.slice (some ⟨b',o',none⟩) us.length d) us from hNz);have hXl:=hXr.lt;clear hXr hVr hbz hNz
       go_wp2_with fail
       go_region_with (go_at_call 114
                       refine (HPN.out _ HVr.out).mono ?_;rintro e w2 ⟨B,dd,rfl,hB,hb2,hBb⟩;have hX2:=HXr.out.below hb2 HXr.out.lt;have y0:w2.cell? ⟨X,0,none⟩=some (.slice V L.length cc):=hX2.cell 0;have y1:w2.cell? ⟨X,1,none⟩=some (.int .i64 (M:Int)):=hX2.cell 1;have z0:=hX2.frozen 0;have z1:=hX2.frozen 1;have HX2:=zz hX2;have HB:=zz hB;have HBb:=zz hBb;have Hb2:=zz hb2;clear hX2 hB hBb hb2)
       all_goals
        clear c0 c1 y0 y1 z0 z1 hun
        go_wp2_with fail
        go_roundw
        case rel =>
         have hne:∀ad,B=some ad->ad.block≠X:=fun ad e=>by have h1:=HBb.out ad e;have h2:=HXr.out.lt;omega
         refine ⟨q+1,B,dd,by omega,by go_num,?_,?_,zz (fun ad e=>⟨hne ad e,by have h1:=HBb.out ad e;have h2:=HBz.out.size;omega⟩),(((HBz.out.trans (Hb2.out.mono HBz.out.size)).setCell (p:=⟨X,0,none⟩) hXb _).setCell (p:=⟨X,1,none⟩) hXb _),?_⟩
         ·rw [HS1.out];exact (HX2.out.setAt 0 _).setAt 1 _
         ·rw [HS1.out];exact (HB.out.setAway (p:=⟨X,0,none⟩) hne _).setAway (p:=⟨X,1,none⟩) hne _
         ·exact rows_setFar (rows_setFar (ownn_below HNz.out Hb2.out) HX2.out (by decide) 0 _) (HX2.out.setAt 0 _) (by decide) 1 _
        case measure=>simp [intOf];omega
      ·obtain rfl:q=us.length:=by omega
       rw [HEN.out] at c0 hVr;have HV:=zz hVr;clear hVr hXr;have i3:¬((us.length:Int)<(us.length:Int)):=by omega
       go_wp2_with fail
       go_ret2;exact ⟨_,rfl,⟨V,cc,rfl,HV.out,fun ad e=>(HVX.out ad e).2⟩,hbz⟩
 ·rw [if_neg h0];have hne:(chk l !=0)=true:=by rw [bne_iff_ne];exact h0
  generalize chk l=e at *;go_enter Tryz.func74,Tryz.ntmps74
  go_wp2_with fail
  refine (HC.out _ (Below.refl _ _)).mono ?_;rintro e w1 ⟨rfl,hb1⟩
  go_wp2_with fail
  go_ret2;exact ⟨_,rfl,⟨none,0,rfl,Bys.empty _ _,fun ad e=>by cases e⟩,hb1⟩
theorem encode_ref(A:Option Addr)(l:List Smp)(c:Nat)(w:World)(hA:Smps w A l)(hlen:l.length<=100000000000000):
 Calls Tryz.prog 74 #[.slice A l.length c] w fun e w'=>∃v,e=.returned (.tuple #[v,.int .i64 (chk l)])/\Sl w' v (if chk l=0 then encL l else [])/\Below w.heap.size w w':=by
 refine (encode_ref_own A l c w hA hlen).mono ?_;rintro e w' ⟨v,h1,⟨B,d,h2,h3,_⟩,h4⟩;exact ⟨v,h1,⟨B,d,h2,h3⟩,h4⟩
theorem no_empty:NoChunk []:=by
 intro lw h1 h2;have h3:=wit_count h1;rw [h2] at h3;unfold gnum at h3;have hr:rightB [] ((8*([]:List UInt8).length:Nat):Int)=true:=right_nil;rw [if_neg (by rw [hr];simp),if_pos (by simp)] at h3;simp at h3
theorem good_mono{l:List Smp}(h:Good l){i j:Nat}(hij:i<=j)(hj:j<l.length):tOf l i<=tOf l j:=by
 induction j with
 | zero=>obtain rfl:i=0:=by omega
         exact Int.le_refl _
 | succ j ih =>
   by_cases e:i=j+1
   ·rw [e];exact Int.le_refl _
   ·have h1:=ih (by omega) (by omega);have h2:=(h (j+1) hj).2 (by omega);rw [Nat.add_sub_cancel] at h2;omega
end Go.Proofs.YtgdmcnoogacdaaaGreatDoor.Ch
