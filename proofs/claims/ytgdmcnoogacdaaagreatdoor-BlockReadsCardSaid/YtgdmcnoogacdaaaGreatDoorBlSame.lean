/- Series beside series, as the document's own answer tells whether they are the same: the same ones are. -/
import Derived.Test.YtgdmcnoogacdaaaGreatDoorBlLotIdx
namespace Go.Proofs.YtgdmcnoogacdaaaGreatDoor
open Go.RowKit Go.Maps
open Ch
set_option linter.unusedVariables false
set_option linter.unusedSimpArgs false
set_option maxRecDepth 100000
set_option maxHeartbeats 8000000 in
theorem same12_ref(A B:Option Addr)(S:List Ser)(c d:Nat)(w:World)(hA:Sers w A S)(hB:Sers w B S)(hf:∀s∈S,s.1.length<=100000000000000/\s.2.length<=100000000000000)(hl:S.length<=100000000000000):
 Calls Tryz.prog 15 #[.slice A S.length c,.slice B S.length d] w fun e w'=>e=.returned (.bool true)/\Below w.heap.size w w':=by
 have HA:=zz hA;have HB:=zz hB;have HF:=zz hf;obtain ⟨n,hn⟩:∃n,S.length=n:=⟨_,rfl⟩;have HN:=zz hn;rw [hn] at hl ⊢;have hq:((n:Int) !=(n:Int))=false:=by simp
 clear hA hB hf hn;go_enter Tryz.func15,Tryz.ntmps15
 go_wp2_with fail
 go_loopw [5] (fun i wr=>∃k:Nat,k<=n/\i=.int .i64 (k:Int)/\Below w.heap.size w wr) (fun i _=>n-(intOf i).toNat)
 case atStart=>exact ⟨0,Nat.zero_le _,rfl,Below.refl _ _⟩
 case round =>
  obtain ⟨k,hk,rfl,hbr⟩:=hrel
  by_cases hlt:k<n
  ·obtain ⟨b,o,rfl,hb,hat⟩:=HA.out.all (by rw [HN.out];omega);obtain ⟨b',o',rfl,hb',hat'⟩:=HB.out.all (by rw [HN.out];omega);obtain ⟨ma,hsa⟩:=hat k (by rw [HN.out];exact hlt);obtain ⟨mb,hsb⟩:=hat' k (by rw [HN.out];exact hlt);obtain ⟨hf1,hf2⟩:=HF.out _ (ser_at (S:=S) (i:=k) (by rw [HN.out];exact hlt));have i1:decide ((k:Int)<(n:Int))=true:=decide_eq_true (by omega);have i2:(k:Int)<(n:Int):=by omega
   have i0:0<=(k:Int):=by omega
   have HK:=zz (show k+1<=n from hlt);have HSA:=zz (show ∀x,Below w.heap.size w x->x.cell? ⟨b,o+k*2,none⟩=some (.slice ma.la (S.getD k ser0).1.length ma.lc)/\x.cell? ⟨b,o+k*2+1,none⟩=some (.slice ma.sa (S.getD k ser0).2.length ma.sc)/\SerIn x (S.getD k ser0,ma) from fun x hx=>hsa.below hx hb);have HSB:=zz (show ∀x,Below w.heap.size w x->x.cell? ⟨b',o'+k*2,none⟩=some (.slice mb.la (S.getD k ser0).1.length mb.lc)/\x.cell? ⟨b',o'+k*2+1,none⟩=some (.slice mb.sa (S.getD k ser0).2.length mb.sc)/\SerIn x (S.getD k ser0,mb) from fun x hx=>hsb.below hx hb');have hD:Below w.heap.size w wr.drew:=hbr.drew;have HBD:=zz hD;clear hat hat' hsa hsb;generalize S.getD k ser0=s at *;have HLS:=zz (fun x (hx:Below w.heap.size w x)=>(same_ref ma.la mb.la s.1 s.1 ma.lc mb.lc x (HSA.out x hx).2.2.labels (HSB.out x hx).2.2.labels hf1 hf1).mono (fun e w' h=>(show e=.returned (.bool true)/\Below x.heap.size x w' from ⟨by rw [h.1,decide_eq_true rfl],h.2⟩)));have HSS:=zz (fun x (hx:Below w.heap.size w x)=>same_smps ma.sa mb.sa s.2 ma.sc mb.sc x (HSA.out x hx).2.2.samples (HSB.out x hx).2.2.samples hf2);have HCE:=zz (fun x (hx:Below w.heap.size w x)=>And.intro (And.intro (HSA.out x hx).1 (HSA.out x hx).2.1) (And.intro (HSB.out x hx).1 (HSB.out x hx).2.1));generalize s.1.length=l1 at *;generalize s.2.length=l2 at *;have hnot:∀(x:Bool) (w:World),(Op.unary .not (.bool x)).run Tryz.prog w=.ok (.bool (!x)) w:=fun _ _=>rfl
   clear HSA HSB hbr hD hf1 hf2
   go_upto_region 6 with fail
   refine wp_region_held_drew (S:=fun w'=>(w'.cell? ⟨b,o+k*2,none⟩=some (.slice ma.la l1 ma.lc)/\w'.cell? ⟨b,o+k*2+1,none⟩=some (.slice ma.sa l2 ma.sc))/\w'.cell? ⟨b',o'+k*2,none⟩=some (.slice mb.la l1 mb.lc)/\w'.cell? ⟨b',o'+k*2+1,none⟩=some (.slice mb.sa l2 mb.sc)) (by kernel_rfl) ?_ (fun hHeld=>?_)
   ·exact HCE.out _ HBD.out
   refine tk 0 ⟨some 17,.move (.tmp 0),22, "ref.go:173",#[],none⟩ ?_
   try simp only [Act.put,lsA,lsB,lsC]
   refine tk 1 ⟨some 18,.move (.tmp 5),3, "ref.go:173",#[],none⟩ ?_
   try simp only [Act.put,lsA,lsB,lsC]
   refine tk 2 ⟨some 19,.indexAddr 22 (.tmp 17) (.tmp 18),0, "ref.go:173",#[⟨0,.data⟩,⟨1,.data⟩],none⟩ ?_
   try simp only [Act.put,lsA,lsB,lsC]
   refine tk 3 ⟨some 20,.fieldAddr 65 (.tmp 19) 0,0, "ref.go:173",#[⟨2,.data⟩],none⟩ ?_
   try simp only [Act.put,lsA,lsB,lsC]
   refine tk 4 ⟨some 21,.load 56 (.tmp 20),56, "ref.go:173",#[⟨3,.data⟩],none⟩ ?_
   try simp only [Act.put,lsA,lsB,lsC]
   refine tk 5 ⟨some 22,.move (.tmp 1),22, "ref.go:173",#[],none⟩ ?_
   try simp only [Act.put,lsA,lsB,lsC]
   refine tk 6 ⟨some 23,.move (.tmp 5),3, "ref.go:173",#[],none⟩ ?_
   try simp only [Act.put,lsA,lsB,lsC]
   refine tk 7 ⟨some 24,.indexAddr 22 (.tmp 22) (.tmp 23),0, "ref.go:173",#[⟨5,.data⟩,⟨6,.data⟩],none⟩ ?_
   try simp only [Act.put,lsA,lsB,lsC]
   refine tk 8 ⟨some 25,.fieldAddr 65 (.tmp 24) 0,0, "ref.go:173",#[⟨7,.data⟩],none⟩ ?_
   try simp only [Act.put,lsA,lsB,lsC]
   refine tk 9 ⟨some 26,.load 56 (.tmp 25),56, "ref.go:173",#[⟨8,.data⟩],none⟩ ?_
   try simp only [Act.put,lsA,lsB,lsC]
   refine wpAnyH_ready (rs:=[10]) (by kernel_rfl) (by simp) ?_;refine AllReadyH.cons (o:=⟨some 27,.call { callee:=.value (.func 40),args:=#[.tmp 21,.tmp 26],argTypes:=#[56,56] },4, "ref.go:173",#[⟨4,.data⟩,⟨9,.data⟩],none⟩) rfl (fun K hK=>?_) AllReadyH.nil
   go_simp
   go_at_call 40
   refine (HLS.out _ HBD.out).mono ?_;rintro e w7 ⟨rfl,hb7⟩;have HB7:=zz (below_then HBD.out hb7);have s7:=HCE.out w7 HB7.out;clear hb7;refine hK.out _ _ ?_ (fun hHeld=>?_)
   ·exact s7
   clear hK K
   try simp only [Act.put,lsA,lsB,lsC]
   refine tk 11 ⟨some 28,.unOp .not 4 (.tmp 27),4, "ref.go:173",#[⟨10,.data⟩],none⟩ ?_
   try simp only [Act.put,lsA,lsB,lsC]
   refine tk 12 ⟨some 29,.move (.tmp 28),4, "ref.go:173",#[⟨11,.data⟩,⟨10,.chain⟩],none⟩ ?_
   try simp only [Act.put,lsA,lsB,lsC]
   refine tk 13 ⟨some 30,.move (.tmp 0),22, "ref.go:173",#[⟨12,.guard⟩],some (12,false)⟩ ?_
   try simp only [Act.put,lsA,lsB,lsC]
   refine tk 14 ⟨some 31,.move (.tmp 5),3, "ref.go:173",#[⟨12,.guard⟩],some (12,false)⟩ ?_
   try simp only [Act.put,lsA,lsB,lsC]
   refine tk 15 ⟨some 32,.indexAddr 22 (.tmp 30) (.tmp 31),0, "ref.go:173",#[⟨13,.data⟩,⟨14,.data⟩,⟨12,.guard⟩],some (12,false)⟩ ?_
   try simp only [Act.put,lsA,lsB,lsC]
   refine tk 16 ⟨some 33,.fieldAddr 65 (.tmp 32) 1,0, "ref.go:173",#[⟨15,.data⟩,⟨12,.guard⟩],some (12,false)⟩ ?_
   try simp only [Act.put,lsA,lsB,lsC]
   refine tk 17 ⟨some 34,.load 49 (.tmp 33),49, "ref.go:173",#[⟨16,.data⟩,⟨12,.guard⟩],some (12,false)⟩ ?_
   try simp only [Act.put,lsA,lsB,lsC]
   refine tk 18 ⟨some 35,.move (.tmp 1),22, "ref.go:173",#[⟨12,.guard⟩],some (12,false)⟩ ?_
   try simp only [Act.put,lsA,lsB,lsC]
   refine tk 19 ⟨some 36,.move (.tmp 5),3, "ref.go:173",#[⟨12,.guard⟩],some (12,false)⟩ ?_
   try simp only [Act.put,lsA,lsB,lsC]
   refine tk 20 ⟨some 37,.indexAddr 22 (.tmp 35) (.tmp 36),0, "ref.go:173",#[⟨18,.data⟩,⟨19,.data⟩,⟨12,.guard⟩],some (12,false)⟩ ?_
   try simp only [Act.put,lsA,lsB,lsC]
   refine tk 21 ⟨some 38,.fieldAddr 65 (.tmp 37) 1,0, "ref.go:173",#[⟨20,.data⟩,⟨12,.guard⟩],some (12,false)⟩ ?_
   try simp only [Act.put,lsA,lsB,lsC]
   refine tk 22 ⟨some 39,.load 49 (.tmp 38),49, "ref.go:173",#[⟨21,.data⟩,⟨12,.guard⟩],some (12,false)⟩ ?_
   try simp only [Act.put,lsA,lsB,lsC]
   refine wpAnyH_ready (rs:=[23]) (by kernel_rfl) (by simp) ?_;refine AllReadyH.cons (o:=⟨some 40,.call { callee:=.value (.func 22),args:=#[.tmp 34,.tmp 39],argTypes:=#[49,49] },4, "ref.go:173",#[⟨17,.data⟩,⟨22,.data⟩,⟨12,.chain⟩,⟨12,.guard⟩],some (12,false)⟩) rfl (fun K hK=>?_) AllReadyH.nil
   go_simp
   go_at_call 22
   refine (HSS.out _ HB7.out).mono ?_;rintro e w8 ⟨rfl,hb8⟩;have HB8:=zz (below_then HB7.out hb8);have s8:=HCE.out w8 HB8.out;clear hb8;refine hK.out _ _ ?_ (fun hHeld=>?_)
   ·exact s8
   clear hK K
   try simp only [Act.put,lsA,lsB,lsC]
   refine tk 24 ⟨some 41,.unOp .not 4 (.tmp 40),4, "ref.go:173",#[⟨23,.data⟩,⟨12,.guard⟩],some (12,false)⟩ ?_
   try simp only [Act.put,lsA,lsB,lsC]
   refine tk 25 ⟨some 42,.pick (.tmp 29) (.const (.bool true)) (.tmp 41),4, "ref.go:173",#[⟨12,.data⟩,⟨24,.data⟩],none⟩ ?_
   try simp only [Act.put,lsA,lsB,lsC]
   refine wpAnyH_done (by kernel_rfl) ?_ _
   go_wp2_with fail
   go_roundw
   case rel=>exact ⟨k+1,HK.out,by go_num,HB8.out⟩
   case measure=>simp [intOf];omega
  ·have i1:decide ((k:Int)<(n:Int))=false:=decide_eq_false (by omega);have i2:¬(k:Int)<(n:Int):=by omega
   have HB:=zz hbr;clear hbr
   go_wp2_with fail
   go_ret;exact ⟨rfl,HB.out⟩
end Go.Proofs.YtgdmcnoogacdaaaGreatDoor
