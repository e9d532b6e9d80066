/- The document's example of layer 12: what the laws of this layer ask beside their own. -/
import Derived.Test.YtgdmcnoogacdaaaGreatDoorBlLotChk
namespace Go.Proofs.YtgdmcnoogacdaaaGreatDoor
open Go.RowKit Go.Maps
open Ch
set_option linter.unusedVariables false
set_option maxRecDepth 100000
set_option linter.unusedSimpArgs false
def exBl:List Ser:=[([(⟨#[97]⟩,⟨#[120]⟩)],[(10,5)])]
theorem exBl_right:blChk exBl=0:=by decide +kernel
theorem exBl_len:(blL exBl).length=24:=by decide +kernel
theorem exBl_sel:((exBl.getD 0 ([],[])).2).filter (keepB 10 10)=[(10,5)]:=by decide +kernel
theorem exBl_fit:∀s∈exBl,SerFit s:=by
 intro s hs;simp only [exBl,List.mem_singleton] at hs;subst hs;refine ⟨fun i hi=>?_,by decide,fun i hi=>?_,by decide⟩
 ·obtain rfl:i=0:=by simp at hi;exact hi
  exact ⟨by decide,by decide⟩
 ·obtain rfl:i=0:=by simp at hi;exact hi
  show Fit (10,5)
  unfold Fit
  decide
theorem bl_none:∀S,blChk S=0->blL S≠[]:=by
 intro S h e;have:=bl_len h;rw [e] at this;simp at this
theorem blone_prog(w:World):Calls Tryz.prog 41 #[] w fun e w'=>∃g,e=.returned (.slice (some ⟨g,0,none⟩) 1 1)/\Sers w' (some ⟨g,0,none⟩) exBl/\Below w.heap.size w w':=by
 have r1:=Row.new w 118 #[.string ⟨#[97]⟩,.string ⟨#[120]⟩];have r2:=row_at w (.cells #[.string ⟨#[97]⟩,.string ⟨#[120]⟩] 118) #[.int .i64 10,.int .i64 5] 83;have HR1:=zz (r1.alloc (.cells #[.int .i64 10,.int .i64 5] 83));have HR2:=zz r2;clear r1 r2;go_enter Tryz.func41,Tryz.ntmps41
 go_wp2_with fail
 go_ret;have hb:=below_one ((w.alloc (.cells #[.string ⟨#[97]⟩,.string ⟨#[120]⟩] 118)).alloc (.cells #[.int .i64 10,.int .i64 5] 83)) (.cells #[.slice (some ⟨w.heap.size,0,none⟩) 1 1,.slice (some ⟨w.heap.size+1,0,none⟩) 1 1] 65);have hR:=Row.new ((w.alloc (.cells #[.string ⟨#[97]⟩,.string ⟨#[120]⟩] 118)).alloc (.cells #[.int .i64 10,.int .i64 5] 83)) 65 #[.slice (some ⟨w.heap.size,0,none⟩) 1 1,.slice (some ⟨w.heap.size+1,0,none⟩) 1 1];have hs:((w.alloc (.cells #[.string ⟨#[97]⟩,.string ⟨#[120]⟩] 118)).alloc (.cells #[.int .i64 10,.int .i64 5] 83)).heap.size=w.heap.size+2:=by simp
 rw [hs] at hR;refine ⟨w.heap.size+2,rfl,⟨[(([(⟨#[97]⟩,⟨#[120]⟩)],[(10,5)]),⟨some ⟨w.heap.size,0,none⟩,1,some ⟨w.heap.size+1,0,none⟩,1⟩)],rfl,At.row hR,?_⟩,?_⟩
 ·intro x hx;obtain rfl:=List.mem_singleton.1 hx;exact ⟨At.row (HR1.out.below hb (by simp;omega)),At.row (HR2.out.below hb (by simp)),Nat.le_refl _,Nat.le_refl _⟩
 ·exact (((Below.refl _ _).alloc (Nat.le_refl _) _).alloc (by simp) _).alloc (by simp;omega) _
theorem smp_eql(w:World):(binOp .eql 83 (.agg #[.int .i64 10,.int .i64 5]) (.agg #[.int .i64 10,.int .i64 5])).run Tryz.prog w=.ok (.bool true) w:=by kernel_rfl
set_option maxHeartbeats 4000000 in
theorem blLives_true(w:World)(hD:Door w):Calls Tryz.prog 16 #[] w fun e w'=>e=.returned (.bool true)/\Below w.heap.size w w':=by
 have HT:=zz (fun x:World=>blone_prog x);have HW:=zz (fun A (x:World) (h:Sers x A exBl)=>write_prog A exBl 1 x h exBl_fit (by decide) (by decide));have HO:=zz (fun A c (x:World) (hb:Bys x A (blL exBl)) (hc:(blL exBl).length<=c) (hd:Door x)=>open_yes A (blL exBl) c hc (by rw [exBl_len];decide) x hb hd exBl_right rfl);have HN:=zz (fun (x:World) (hd:Door x)=>open_no none [] 0 (Nat.le_refl _) (by decide) x (Bys.empty _ _) hd bl_none);have HSL:=zz (fun X b (x:World) (h:BlkAt x b X exBl)=>blselect_yes h exBl_right 0 (by decide) 10 10);have HR:=zz (fun A (x:World) (h:Sers x A exBl)=>bytes12_ref A exBl 1 x h exBl_right (by decide));have HL:=zz exBl_len;rw [exBl_sel] at HSL;have HD:=zz hD;clear hD;have he1:exBl.length=1:=rfl;rw [he1] at HW HR;generalize hbs:blL exBl=bs at *;have HBS:=zz hbs;clear hbs;go_enter Tryz.func16,Tryz.ntmps16
 go_wp2_with fail
 refine (HT.out _).mono ?_;rintro e w1 ⟨g1,rfl,hS1,hb1⟩;have HS1:=zz hS1;have HB1:=zz hb1;clear hS1 hb1
 go_wp2_with fail
 refine (HW.out _ _ HS1.out).mono ?_;rintro e w2 ⟨hb2,⟨h,_⟩|⟨_,v2,rfl,ho2⟩⟩
 ·exact absurd exBl_right h
 rw [HBS.out] at ho2;obtain ⟨P2,d2,hv2,hP2,_,hd2,_⟩:=own_cap ho2;have HB2:=zz (below_then HB1.out hb2);have HP2:=zz hP2;have HD2:=zz hd2;subst hv2;clear ho2 hP2 hb2 hd2
 go_wp2_with fail
 refine (HO.out _ _ _ HP2.out HD2.out (HD.out.below HB2.out)).mono ?_;rintro e w3 ⟨hb3,X,rfl,hX⟩;have HB3:=zz (below_then HB2.out hb3);have HP3:=zz (HP2.out.below hb3);have HX:=zz hX;clear hb3 hX
 go_wp2_with fail
 refine (HN.out _ (HD.out.below HB3.out)).mono ?_;rintro e w4 ⟨hb4,rfl⟩;have HB4:=zz (below_then HB3.out hb4);have HP4:=zz (HP3.out.below hb4);have HX4:=zz (HX.out.below hb4);clear hb4
 go_wp2_with fail
 refine (HSL.out _ _ _ HX4.out).mono ?_;rintro e w5 ⟨v5,rfl,ho5,hb5⟩;obtain ⟨P5,c5,hv5,_,hS5,_⟩:=owns_slice ho5;obtain ⟨g,o,rfl,hg2,hcell⟩:=hS5.all (by decide);obtain ⟨x0,x1⟩:=hcell 0 (by decide);have HX0:=zz (show w5.cell? ⟨g,o,none⟩=some (.int .i64 10) from x0);have HX1:=zz (show w5.cell? ⟨g,o+1,none⟩=some (.int .i64 5) from x1);have HB5:=zz (below_then HB4.out hb5);have HP5:=zz (HP4.out.below hb5);have HG:=zz hg2;change v5=.slice (some ⟨g,o,none⟩) 1 c5 at hv5;subst hv5;clear ho5 hS5 hcell hb5 x0 x1 hg2
 go_upto_region 7 with fail
 have HX0D:Hid (w5.drew.cell? ⟨g,o,none⟩=some (.int .i64 10)):=HX0;have HX1D:Hid (w5.drew.cell? ⟨g,o+1,none⟩=some (.int .i64 5)):=HX1;have HGD:Hid (g<w5.drew.heap.size):=HG;have HP5D:Hid (Bys w5.drew P2 bs):=zz (HP5.out.below (ix_drawn w5.heap.size w5 1));have HB5D:Hid (Below w.heap.size w w5.drew):=zz HB5.out.drew;generalize hqT:txt bs=T at *;have HQT:=zz hqT;have k5:(convert 24 9 (.slice P2 bs.length d2)).run Tryz.prog w5.drew=.ok (.string T) w5.drew:=by rw [<-hqT];exact conv_bys w5.drew P2 bs d2 HP5D.out
 have sD:=HX0D.out;have tD:=HX1D.out;clear hqT;have q1:(T.toList==T.toList)=true:=by simp
 have q2:((bs.length:Int)==24)=true:=by rw [HL.out];rfl
 have hsq:=smp_eql;clear HW HO HN HSL HS1 HB1 HB2 HP2 HB3 HP3 HX HB4 HP4 HX4 HB5 HP5 HX0 HX1 HG;refine wp_region_held_drew (S:=fun w'=>w'.cell? ⟨g,o,none⟩=some (.int .i64 10)/\w'.cell? ⟨g,o+1,none⟩=some (.int .i64 5)/\(convert 24 9 (.slice P2 bs.length d2)).run Tryz.prog w'=.ok (.string T) w') (by kernel_rfl) ?_ (fun hHeld=>?_)
 ·exact ⟨sD,tD,k5⟩
 refine tk 0 ⟨some 42,.move (.tmp 1),24, "law.go:28",#[],none⟩ ?_
 try simp only [Act.put,lsA,lsB,lsC]
 refine tk 1 ⟨some 43,.convert 24 9 (.tmp 42),9, "law.go:28",#[⟨0,.data⟩],none⟩ ?_
 try simp only [Act.put,lsA,lsB,lsC]
 refine wpAnyH_ready (rs:=[2]) (by kernel_rfl) (by simp) ?_;refine AllReadyH.cons (o:=⟨some 44,.call { callee:=.value (.func 41),args:=#[],argTypes:=#[] },22, "law.go:28",#[],none⟩) rfl (fun K hK=>?_) AllReadyH.nil
 go_simp
 go_at_call 41
 refine (HT.out _).mono ?_;rintro e w6 ⟨g6,rfl,hS6,hb6⟩;have HS6:=zz hS6;have HP6:=zz (HP5D.out.below hb6);have HB6:=zz (below_then HB5D.out hb6);have s6:w6.cell? ⟨g,o,none⟩=some (.int .i64 10):=(hb6.cell HGD.out).trans HX0D.out;have t6:w6.cell? ⟨g,o+1,none⟩=some (.int .i64 5):=(hb6.cell (p:=⟨g,o+1,none⟩) HGD.out).trans HX1D.out;have HX06:=zz s6;have HX16:=zz t6;have HG6:=zz (show g<w6.heap.size from Nat.lt_of_lt_of_le HGD.out hb6.size);have k6:(convert 24 9 (.slice P2 bs.length d2)).run Tryz.prog w6=.ok (.string T) w6:=by rw [<-HQT.out];exact conv_bys w6 P2 bs d2 HP6.out
 clear hS6 hb6;refine hK.out _ _ ?_ (fun hHeld=>?_)
 ·exact ⟨s6,t6,k6⟩
 clear hK K
 try simp only [Act.put,lsA,lsB,lsC]
 refine wpAnyH_ready (rs:=[3]) (by kernel_rfl) (by simp) ?_;refine AllReadyH.cons (o:=⟨some 45,.call { callee:=.value (.func 35),args:=#[.tmp 44],argTypes:=#[22] },24, "law.go:28",#[⟨2,.data⟩,⟨2,.chain⟩],none⟩) rfl (fun K hK=>?_) AllReadyH.nil
 go_simp
 go_at_call 35
 refine (HR.out _ _ HS6.out).mono ?_;rintro e w7 ⟨v7,rfl,ho7,hb7⟩;obtain ⟨P7,d7,hv7,hP7,_⟩:=own_slice' ho7;subst hv7;have s7:w7.cell? ⟨g,o,none⟩=some (.int .i64 10):=(hb7.cell HG6.out).trans HX06.out;have t7:w7.cell? ⟨g,o+1,none⟩=some (.int .i64 5):=(hb7.cell (p:=⟨g,o+1,none⟩) HG6.out).trans HX16.out;have k7:(convert 24 9 (.slice P2 bs.length d2)).run Tryz.prog w7=.ok (.string T) w7:=by rw [<-HQT.out];exact conv_bys w7 P2 bs d2 (HP6.out.below hb7)
 have k8:(convert 24 9 (.slice P7 bs.length d7)).run Tryz.prog w7=.ok (.string T) w7:=by rw [<-HQT.out];exact conv_bys w7 P7 bs d7 hP7
 have HB7:=zz (below_then HB6.out hb7);clear ho7 hb7 hP7;refine hK.out _ _ ?_ (fun hHeld=>?_)
 ·exact ⟨s7,t7,k7⟩
 clear hK K;refine wpAnyH_more (S':=fun w'=>w'.cell? ⟨g,o,none⟩=some (.int .i64 10)/\w'.cell? ⟨g,o+1,none⟩=some (.int .i64 5)/\(convert 24 9 (.slice P2 bs.length d2)).run Tryz.prog w'=.ok (.string T) w'/\(convert 24 9 (.slice P7 bs.length d7)).run Tryz.prog w'=.ok (.string T) w') (fun _ h=>⟨h.1,h.2.1,h.2.2.1⟩) _ _ _ _ ?_;have hHeld2:=(show (fun w':World=>w'.cell? ⟨g,o,none⟩=some (.int .i64 10)/\w'.cell? ⟨g,o+1,none⟩=some (.int .i64 5)/\(convert 24 9 (.slice P2 bs.length d2)).run Tryz.prog w'=.ok (.string T) w'/\(convert 24 9 (.slice P7 bs.length d7)).run Tryz.prog w'=.ok (.string T) w') _ from ⟨s7,t7,k7,k8⟩)
 try simp only [Act.put,lsA,lsB,lsC]
 refine tk 4 ⟨some 46,.convert 24 9 (.tmp 45),9, "law.go:28",#[⟨3,.data⟩],none⟩ ?_
 try simp only [Act.put,lsA,lsB,lsC]
 refine tk 5 ⟨some 47,.binOp .eql 9 (.tmp 43) (.tmp 46) 9,4, "law.go:28",#[⟨1,.data⟩,⟨4,.data⟩],none⟩ ?_
 try simp only [Act.put,lsA,lsB,lsC]
 refine tk 6 ⟨some 48,.move (.tmp 47),4, "law.go:28",#[⟨5,.data⟩,⟨3,.chain⟩],none⟩ ?_
 try simp only [Act.put,lsA,lsB,lsC]
 refine tk 7 ⟨some 49,.move (.tmp 1),24, "law.go:28",#[⟨6,.guard⟩],some (6,true)⟩ ?_
 try simp only [Act.put,lsA,lsB,lsC]
 refine tk 8 ⟨some 50,.call { callee:=.builtin .len,args:=#[.tmp 49],argTypes:=#[24] },3, "law.go:28",#[⟨7,.data⟩,⟨6,.guard⟩],some (6,true)⟩ ?_
 try simp only [Act.put,lsA,lsB,lsC]
 refine tk 9 ⟨some 51,.binOp .eql 3 (.tmp 50) (.const (.int .i64 24)) 3,4, "law.go:28",#[⟨8,.data⟩,⟨6,.guard⟩],some (6,true)⟩ ?_
 try simp only [Act.put,lsA,lsB,lsC]
 refine tk 10 ⟨some 52,.pick (.tmp 48) (.tmp 51) (.const (.bool false)),4, "law.go:28",#[⟨6,.data⟩,⟨9,.data⟩],none⟩ ?_
 try simp only [Act.put,lsA,lsB,lsC]
 refine tk 11 ⟨some 53,.move (.tmp 52),4, "law.go:28",#[⟨10,.data⟩,⟨6,.chain⟩],none⟩ ?_
 try simp only [Act.put,lsA,lsB,lsC]
 refine tk 12 ⟨some 54,.move (.tmp 7),49, "law.go:28",#[⟨11,.guard⟩],some (11,true)⟩ ?_
 try simp only [Act.put,lsA,lsB,lsC]
 refine tk 13 ⟨some 55,.call { callee:=.builtin .len,args:=#[.tmp 54],argTypes:=#[49] },3, "law.go:28",#[⟨12,.data⟩,⟨11,.guard⟩],some (11,true)⟩ ?_
 try simp only [Act.put,lsA,lsB,lsC]
 refine tk 14 ⟨some 56,.binOp .eql 3 (.tmp 55) (.const (.int .i64 1)) 3,4, "law.go:28",#[⟨13,.data⟩,⟨11,.guard⟩],some (11,true)⟩ ?_
 try simp only [Act.put,lsA,lsB,lsC]
 refine tk 15 ⟨some 57,.pick (.tmp 53) (.tmp 56) (.const (.bool false)),4, "law.go:28",#[⟨11,.data⟩,⟨14,.data⟩],none⟩ ?_
 try simp only [Act.put,lsA,lsB,lsC]
 refine tk 16 ⟨some 58,.move (.tmp 57),4, "law.go:28",#[⟨15,.data⟩,⟨11,.chain⟩],none⟩ ?_
 try simp only [Act.put,lsA,lsB,lsC]
 refine tk 17 ⟨some 59,.move (.tmp 7),49, "law.go:28",#[⟨16,.guard⟩],some (16,true)⟩ ?_
 try simp only [Act.put,lsA,lsB,lsC]
 refine tk 18 ⟨some 60,.indexAddr 49 (.tmp 59) (.const (.int .i64 0)),0, "law.go:28",#[⟨17,.data⟩,⟨16,.guard⟩],some (16,true)⟩ ?_
 try simp only [Act.put,lsA,lsB,lsC]
 refine tk 19 ⟨some 61,.load 83 (.tmp 60),83, "law.go:28",#[⟨18,.data⟩,⟨16,.guard⟩],some (16,true)⟩ ?_
 try simp only [Act.put,lsA,lsB,lsC]
 refine tk 20 ⟨some 62,.build 83 #[(0,.const (.int .i64 10)),(1,.const (.int .i64 5))],83, "law.go:28",#[⟨16,.guard⟩],some (16,true)⟩ ?_
 try simp only [Act.put,lsA,lsB,lsC]
 refine tk 21 ⟨some 63,.binOp .eql 83 (.tmp 61) (.tmp 62) 83,4, "law.go:28",#[⟨19,.data⟩,⟨20,.data⟩,⟨16,.guard⟩],some (16,true)⟩ ?_
 try simp only [Act.put,lsA,lsB,lsC]
 refine tk 22 ⟨some 64,.pick (.tmp 58) (.tmp 63) (.const (.bool false)),4, "law.go:28",#[⟨16,.data⟩,⟨21,.data⟩],none⟩ ?_
 try simp only [Act.put,lsA,lsB,lsC]
 refine tk 23 ⟨some 65,.move (.tmp 64),4, "law.go:28",#[⟨22,.data⟩,⟨16,.chain⟩],none⟩ ?_
 try simp only [Act.put,lsA,lsB,lsC]
 refine tk 24 ⟨some 66,.move (.tmp 8),25, "law.go:28",#[⟨23,.guard⟩],some (23,true)⟩ ?_
 try simp only [Act.put,lsA,lsB,lsC]
 refine tk 25 ⟨some 67,.binOp .eql 25 (.tmp 66) (.const (.int .i64 0)) 25,4, "law.go:28",#[⟨24,.data⟩,⟨23,.guard⟩],some (23,true)⟩ ?_
 try simp only [Act.put,lsA,lsB,lsC]
 refine tk 26 ⟨some 68,.pick (.tmp 65) (.tmp 67) (.const (.bool false)),4, "law.go:28",#[⟨23,.data⟩,⟨25,.data⟩],none⟩ ?_
 try simp only [Act.put,lsA,lsB,lsC]
 refine tk 27 ⟨some 69,.move (.tmp 68),4, "law.go:28",#[⟨26,.data⟩,⟨23,.chain⟩],none⟩ ?_
 try simp only [Act.put,lsA,lsB,lsC]
 refine tk 28 ⟨some 70,.pick (.tmp 69) (.const (.bool true)) (.const (.bool false)),4, "law.go:28",#[⟨27,.data⟩],none⟩ ?_
 try simp only [Act.put,lsA,lsB,lsC]
 refine tk 29 ⟨some 0,.assign (.tmp 70),4, "law.go:28",#[⟨28,.data⟩,⟨27,.chain⟩,⟨0,.phase⟩,⟨1,.phase⟩,⟨2,.phase⟩,⟨3,.phase⟩,⟨4,.phase⟩,⟨5,.phase⟩,⟨6,.phase⟩,⟨7,.phase⟩,⟨8,.phase⟩,⟨9,.phase⟩,⟨10,.phase⟩,⟨11,.phase⟩,⟨12,.phase⟩,⟨13,.phase⟩,⟨14,.phase⟩,⟨15,.phase⟩,⟨16,.phase⟩,⟨17,.phase⟩,⟨18,.phase⟩,⟨19,.phase⟩,⟨20,.phase⟩,⟨21,.phase⟩,⟨22,.phase⟩,⟨23,.phase⟩,⟨24,.phase⟩,⟨25,.phase⟩,⟨26,.phase⟩,⟨27,.phase⟩,⟨28,.phase⟩],none⟩ ?_
 try simp only [Act.put,lsA,lsB,lsC]
 refine wpAnyH_done (by kernel_rfl) ?_ _
 go_wp2
 go_ret;exact ⟨rfl,HB7.out⟩
end Go.Proofs.YtgdmcnoogacdaaaGreatDoor
