/- What a block tells beside the series it was made of: the law's own tells, whatever Find tells. -/
import Derived.Test.YtgdmcnoogacdaaaGreatDoorBlLotTl
import Derived.Test.YtgdmcnoogacdaaaGreatDoorBlLotChk
import Derived.Test.YtgdmcnoogacdaaaGreatDoorBlSame
namespace Go.Proofs.YtgdmcnoogacdaaaGreatDoor
open Go.RowKit Go.Maps
open Ch
set_option linter.unusedVariables false
set_option linter.unusedSimpArgs false
set_option maxRecDepth 100000
theorem blsets_at{S:List Ser}(k:Nat):(blSets S).getD k []=(S.getD k ser0).1:=by
 unfold blSets
 by_cases h:k<S.length
 ·simp [List.getD_eq_getElem?_getD,h]
 ·simp [List.getD_eq_getElem?_getD,h,ser0]
set_option maxHeartbeats 16000000 in
theorem tells_core{w:World}{base X:Nat}{S:List Ser}(hX:BlkAt w base X S)(hz:blChk S=0)(A:Option Addr)(c:Nat)(hA:Sers w A S)(hf:∀s∈S,SerFit s)(hlc:S.length<=c)
 (id:Int)(b1:-9223372036854775808<=id/\id<=9223372036854775807)(lo hi:Int)(MV:Value)(FL:List Int)(E:Int)(hfl:FL.length<=256)
 (hfd:∀x,Below w.heap.size w x->Calls Tryz.prog 25 #[.pointer (some ⟨X,0,none⟩),MV] x fun e w'=>∃P c,e=.returned (.tuple #[.slice P FL.length c,.int .i64 E])/\Zi w' P FL/\Below x.heap.size x w')
 (hfr:∀P d x,Sets x P (blSets S)->Below w.heap.size w x->Calls Tryz.prog 46 #[.slice P (blSets S).length d,MV] x fun e w'=>∃P c,e=.returned (.tuple #[.slice P FL.length c,.int .i64 E])/\Zi w' P FL/\Below x.heap.size x w'):
 Calls Tryz.prog 18 #[.pointer (some ⟨X,0,none⟩),.slice A S.length c,.int .i64 id,.int .i64 lo,.int .i64 hi,MV] w fun e w'=>e=.returned (.bool true)/\Below w.heap.size w w':=by
 obtain ⟨h256,hcs,hix,hsr⟩:=blChk_zero.1 hz;have HBD:=zz (fun x (hx:Below w.heap.size w x)=>blbounds_yes (hX.below hx) hz);have HRB:=zz (fun x (hx:Below w.heap.size w x)=>bounds12_ref A S c x (hA.below hx) hz);have HLN:=zz (fun x (hx:Below w.heap.size w x)=>bllen_yes (hX.below hx));have HCT:=zz (fun x (hx:Below w.heap.size w x)=>blcount_yes (hX.below hx) hz);have HRC:=zz (fun x (hx:Below w.heap.size w x)=>(count12_ref A S c x (hA.below hx) hf (by omega)).mono (fun e w' h=>(show e=.returned (.int .i64 (cntS S:Int))/\Below x.heap.size x w' from by
  obtain ⟨⟨m,rfl,h1,h2,_⟩,hb⟩:=h;rcases Nat.lt_or_ge 65536 m with hm|hm
  ·have:=h2 hm;omega
  ·exact ⟨by rw [h1 hm],hb⟩)))
 have HAL:=zz (fun x (hx:Below w.heap.size w x)=>blall_yes (hX.below hx) hz);have HSM:=zz (fun P d (x:World) (h:Sers x P S) (hx:Below w.heap.size w x)=>same12_ref P A S d c x h (hA.below hx) (fun s hs=>by have:=hf s hs;have h1:=this.ll;have h2:=this.sl;omega) (by omega));have HFD:=zz hfd;have HST:=zz (fun x (hx:Below w.heap.size w x)=>sets12_ref A S c x (hA.below hx) (by omega) hlc);have HFR:=zz hfr;have HNO:=zz (fun (hid:id<0\/(S.length:Int)<=id)=>And.intro (fun x (hx:Below w.heap.size w x)=>bllabels_no (hX.below hx) id hid) (fun x (hx:Below w.heap.size w x)=>blselect_no (hX.below hx) id hid lo hi));have HYL:=zz (fun k (hk:k<S.length) x (hx:Below w.heap.size w x)=>bllabels_yes (hX.below hx) hz k hk);have HYS:=zz (fun k (hk:k<S.length) x (hx:Below w.heap.size w x)=>blselect_yes (hX.below hx) hz k hk lo hi);have HSR:=zz (fun k (hk:k<S.length)=>show (S.getD k ser0).2.length<=65536 from (bl_at hz hk).2.1);have HSF:=zz (fun k (hk:k<S.length)=>hf _ (ser_at (S:=S) (i:=k) hk));have HFL:=zz hfl;have HAA:=zz hA;obtain ⟨n,hn⟩:∃n,S.length=n:=⟨_,rfl⟩;have HN:=zz hn;rw [hn] at HBD HRB HLN HRC HSM HST HNO HYL HYS HSR HSF h256 hlc ⊢;clear hX hz hA hf hfd hfr hfl hcs hix hsr hn;generalize (blSets S).length=nS at *;generalize (bndT S n).1=LO at *;generalize (bndT S n).2=HI at *;generalize cntS S=CN at *;have q1:(LO !=LO)=false:=by simp
 have q2:(HI !=HI)=false:=by simp
 have q3:((n:Int) !=(n:Int))=false:=by simp
 have q4:((CN:Int) !=(CN:Int))=false:=by simp
 have q5:(E !=E)=false:=by simp
 go_enter Tryz.func18,Tryz.ntmps18
 go_wp2_with fail
 refine (HBD.out _ (Below.refl _ _)).mono ?_;rintro e w2 ⟨rfl,hb2⟩;have HB2:=zz hb2;clear hb2
 go_wp2_with fail
 refine (HRB.out _ HB2.out).mono ?_;rintro e w3 ⟨rfl,hb3⟩;have HB3:=zz (below_then HB2.out hb3);clear hb3
 go_wp2_with fail
 refine (HLN.out _ HB3.out).mono ?_;rintro e w4 ⟨rfl,hb4⟩;have HB4:=zz (below_then HB3.out hb4);clear hb4
 go_wp2_with fail
 refine (HCT.out _ HB4.out).mono ?_;rintro e w5 ⟨rfl,hb5⟩;have HB5:=zz (below_then HB4.out hb5);clear hb5
 go_wp2_with fail
 refine (HRC.out _ HB5.out).mono ?_;rintro e w6 ⟨rfl,hb6⟩;have HB6:=zz (below_then HB5.out hb6);clear hb6
 go_wp2_with fail
 refine (HAL.out _ HB6.out).mono ?_;rintro e w7 ⟨v7,rfl,ho7,hb7⟩;obtain ⟨P7,d7,hv7,hd7,hS7⟩:=ownsers_slice ho7;rw [HN.out] at hv7;have HB7:=zz (below_then HB6.out hb7);have HS7:=zz hS7;subst hv7;clear ho7 hb7 hS7 hd7
 go_wp2_with fail
 refine (HSM.out _ _ _ HS7.out HB7.out).mono ?_;rintro e w8 ⟨rfl,hb8⟩;have HB8:=zz (below_then HB7.out hb8);clear hb8
 go_wp2_with fail
 refine (HFD.out _ HB8.out).mono ?_;rintro e w9 ⟨P9,c9,rfl,hZ9,hb9⟩;have HZ9:=zz hZ9;have HB9:=zz (below_then HB8.out hb9);clear hb9 hZ9
 go_wp2_with fail
 refine (HST.out _ HB9.out).mono ?_;rintro e w10 ⟨P10,c10,rfl,hs10,hb10⟩;have HF10:=zz (HFR.out _ c10 _ hs10 (below_then HB9.out hb10));have HZ10:=zz (HZ9.out.below hb10);have HB10:=zz (below_then HB9.out hb10);clear hs10 hb10
 go_wp2_with fail
 refine HF10.out.mono ?_;rintro e w11 ⟨P11,c11,rfl,hZ11,hb11⟩;have HZ11:=zz hZ11;have HZ91:=zz (HZ10.out.below hb11);have HB11:=zz (below_then HB10.out hb11);clear hb11 hZ11
 go_wp2_with fail
 refine (same_yes _ _ FL c9 c11 _ HZ91.out HZ11.out (by have:=HFL.out;omega)).mono ?_;rintro e w12 ⟨rfl,hb12⟩;have HB12:=zz (below_then HB11.out hb12);clear hb12
 by_cases hid:id<0\/(n:Int)<=id
 ·obtain ⟨hl,hs⟩:=HNO.out hid;have HL:=zz hl;have HS:=zz hs;have hcond:decide (id<0)=true\/(decide (id<0)=false/\decide ((n:Int)<=id)=true):=by
   by_cases h:id<0
   ·exact .inl (decide_eq_true h)
   ·exact .inr ⟨decide_eq_false h,decide_eq_true (by omega)⟩
  clear hl hs hid
  go_wp2_with fail
  refine (HL.out _ HB12.out).mono ?_;rintro e w13 ⟨rfl,hb13⟩;have HB13:=zz (below_then HB12.out hb13);clear hb13
  go_wp2_with fail
  refine (HS.out _ HB13.out).mono ?_;rintro e w14 ⟨rfl,hb14⟩;have HB14:=zz (below_then HB13.out hb14);clear hb14;rcases hcond with hc1|⟨hc1,hc2⟩
  ·go_wp2_with fail
   go_ret;exact ⟨rfl,HB14.out⟩
  ·have hc3:decide (id>=(n:Int))=true:=hc2
   go_wp2_with fail
   go_ret;exact ⟨rfl,HB14.out⟩
 ·obtain ⟨k,rfl⟩:∃k:Nat,id=(k:Int):=⟨id.toNat,by omega⟩;have hk:k<n:=by omega
  have hc1:decide ((k:Int)<0)=false:=decide_eq_false (by omega);have hc2:decide ((n:Int)<=(k:Int))=false:=decide_eq_false (by omega);have hc3:decide ((k:Int)>=(n:Int))=false:=decide_eq_false (by omega);have i2:(k:Int)<(n:Int):=by omega
  have i0:0<=(k:Int):=by omega
  have HL:=zz (HYL.out k hk);have HS:=zz (HYS.out k hk);rw [blsets_at] at HL;obtain ⟨b,o,rfl,hb,hat⟩:=HAA.out.all (by rw [HN.out];omega);obtain ⟨ma,hsa⟩:=hat k (by rw [HN.out];exact hk);have HSA:=zz (show ∀x,Below w.heap.size w x->x.cell? ⟨b,o+k*2,none⟩=some (.slice ma.la (S.getD k ser0).1.length ma.lc)/\x.cell? ⟨b,o+k*2+1,none⟩=some (.slice ma.sa (S.getD k ser0).2.length ma.sc)/\SerIn x (S.getD k ser0,ma) from fun x hx=>hsa.below hx hb);have hsl:=HSR.out k hk;have hsf:=(HSF.out k hk).ll;have HS':=zz (show ∀x,Below w.heap.size w x->Calls Tryz.prog 21 #[.pointer (some ⟨X,0,none⟩),.int .i64 (k:Int),.int .i64 lo,.int .i64 hi] x fun e w' =>
   ∃v,e=.returned (.tuple #[v,.int .i64 0])/\OwnS w' x.heap.size v ((S.getD k ser0).2.filter (keepB lo hi))/\Below x.heap.size x w' from HS.out)
  clear hat hsa HS hid;generalize S.getD k ser0=s at *;have HLS:=zz (fun P d x (h:Lbls x P s.1) (hx:Below w.heap.size w x)=>(same_ref P ma.la s.1 s.1 d ma.lc x h (HSA.out x hx).2.2.labels (by omega) (by omega)).mono (fun e w' h=>(show e=.returned (.bool true)/\Below x.heap.size x w' from ⟨by rw [h.1,decide_eq_true rfl],h.2⟩)));have HBW:=zz (fun x (hx:Below w.heap.size w x)=>between12_ref ma.sa s.2 ma.sc lo hi x (HSA.out x hx).2.2.samples (by omega));have HCE:=zz (fun x (hx:Below w.heap.size w x)=>And.intro (HSA.out x hx).1 (HSA.out x hx).2.1);have HFI:=zz (Nat.le_trans (List.length_filter_le (keepB lo hi) s.2) hsl);generalize s.2.filter (keepB lo hi)=fl at *;clear hsl hsf HSA;generalize s.1=ls at *;generalize s.2.length=l2 at *
  go_wp2_with fail
  refine (HL.out _ HB12.out).mono ?_;rintro e w13 ⟨v13,rfl,ho13,hb13⟩;obtain ⟨P13,c13,hv13,hc13,hL13,_⟩:=ownl_slice ho13;subst hv13;have HL13:=zz hL13;have HB13:=zz (below_then HB12.out hb13);clear ho13 hb13 hc13 hL13;obtain ⟨l1,hl1⟩:∃l1,ls.length=l1:=⟨_,rfl⟩;rw [hl1] at HLS HCE
  try rw [hl1]
  clear hl1
  go_wp2_with fail
  refine (HS'.out _ HB13.out).mono ?_;rintro e w14 ⟨v14,rfl,ho14,hb14⟩;obtain ⟨P14,c14,hv14,hc14,hS14,_⟩:=owns_slice ho14;subst hv14;have HS14:=zz hS14;have HL14:=zz (HL13.out.below hb14);have HB14:=zz (below_then HB13.out hb14);clear ho14 hb14 hc14 hS14;obtain ⟨g0,g1⟩:=HCE.out _ HB14.out
  go_wp2_with fail
  refine (HLS.out _ _ _ HL14.out HB14.out).mono ?_;rintro e w15 ⟨rfl,hb15⟩;have HS15:=zz (HS14.out.below hb15);have HB15:=zz (below_then HB14.out hb15);clear hb15 g0 g1;obtain ⟨g0,g1⟩:=HCE.out _ HB15.out
  go_wp2_with fail
  refine (HBW.out _ HB15.out).mono ?_;rintro e w16 ⟨v16,rfl,ho16,hb16⟩;obtain ⟨P16,c16,hv16,hc16,hS16,_⟩:=owns_slice ho16;subst hv16;have HS16:=zz hS16;have HS6:=zz (HS15.out.below hb16);have HB16:=zz (below_then HB15.out hb16);clear ho16 hb16 hc16 hS16 g0 g1
  go_wp2_with fail
  refine (same_smps P14 P16 fl c14 c16 _ HS6.out HS16.out (by have:=HFI.out;omega)).mono ?_;rintro e w17 ⟨rfl,hb17⟩;have HB17:=zz (below_then HB16.out hb17);clear hb17
  go_wp2_with fail
  go_ret;exact ⟨rfl,HB17.out⟩
end Go.Proofs.YtgdmcnoogacdaaaGreatDoor
