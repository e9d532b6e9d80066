/- The pieces of a series: what the reader tells of them. -/
import Derived.Test.YtgdmcnoogacdaaaGreatDoorBlLotV
import Derived.Test.YtgdmcnoogacdaaaGreatDoorIxHeld
namespace Go.Proofs.YtgdmcnoogacdaaaGreatDoor
open Go.RowKit Go.Maps
open Ch
set_option linter.unusedVariables false
set_option linter.unusedSimpArgs false
theorem good_up{l:List Smp}(h:Ch.Good l):∀i,i<l.length->(i:Int)<=tOf l i:=by
 intro i
 induction i with
 | zero=>intro hi;exact (good_at h hi).1
 | succ i ih =>
   intro hi;have h1:=ih (by omega);have h2:=(h (i+1) hi).2 (by omega);rw [Nat.add_sub_cancel] at h2;omega
theorem good_few{l:List Smp}(h:Ch.Good l):l.length<=1099511627777:=by
 rcases Nat.eq_zero_or_pos l.length with h0|h0
 ·omega
 ·have h1:=good_up h (l.length-1) (by omega);have h2:=(good_at h (show l.length-1<l.length by omega)).2.1;omega
theorem ok_long:∀(ps:List (List Smp)) (last:Option (List Smp)),PcsOk last ps->ps.length<=ps.flatten.length:=by
 intro ps
 induction ps with
 | nil=>intro _ _;simp
 | cons p r ih =>
   intro last h;have h1:=(chk_zero.1 h.1).1;have h2:=ih _ h.2.2;rw [List.flatten_cons,List.length_append,List.length_cons];omega
theorem ok_few{ps:List (List Smp)}{last:Option (List Smp)}(h:PcsOk last ps):ps.length<=1099511627777 :=
 Nat.le_trans (ok_long ps last h) (good_few (ok_join ps last h).1)
theorem ok_snoc:∀(ps:List (List Smp)) (last:Option (List Smp)) (p:List Smp),PcsOk last ps->chk p=0->Link (ps.getLast?.or last) p->PcsOk last (ps++[p]):=by
 intro ps
 induction ps with
 | nil=>intro last p _ h2 h3;exact ⟨h2,by simpa using h3,trivial⟩
 | cons q r ih =>
   intro last p h h2 h3;refine ⟨h.1,h.2.1,ih (some q) p h.2.2 h2 ?_⟩
   cases r with
   | nil=>simpa using h3
   | cons a b=>simpa [List.getLast?_cons] using h3
theorem two_ownp{w w':World}{R base:Nat}{v:Value}{ps:List (List Smp)}{cs:Array Value}(h:OwnPc w base v ps)(ht:Two w w' R R)(hR:Row w R 148 cs):OwnPc w' base v ps :=
 ownpc_keep h fun k t c _ hr hty=>ht.block k hr.lt (fun e=>by subst e;have:=row_types hr hR (by rcases hty with rfl|rfl<;>decide);exact this rfl) (fun e=>by subst e;have:=row_types hr hR (by rcases hty with rfl|rfl<;>decide);exact this rfl)
theorem BRd.row{w:World}{R:Nat}{rest:List UInt8}(h:BRd w R rest):∃cs,Row w R 148 cs:=by
 obtain ⟨_,_,_,h,_⟩:=h;exact ⟨_,h⟩
def PcsTold(w:World)(R:Nat)(o:Option (List (List Smp) × List UInt8))(e:Ending)(w':World):Prop :=
 Two w w' R R/\((∃v ps rest,o=some (ps,rest)/\e=.returned v/\OwnPc w' w.heap.size v ps/\BRd w' R rest)\/(o=none/\e=.panicked blbroken))
def Glue(done:List (List Smp))(o' o:Option (List (List Smp) × List UInt8)):Prop:=(o'=none->o=none)/\∀qs r,o'=some (qs,r)->o=some (done++qs,r)
theorem glue_next{done:List (List Smp)}{p:List Smp}{qs:Option (List (List Smp) × List UInt8)}{o:Option (List (List Smp) × List UInt8)}{f:Option (List (List Smp) × List UInt8)}
 (h:Glue done f o)(h1:qs=none->f=none)(h2:∀q r,qs=some (q,r)->f=some (p::q,r)):Glue (done++[p]) qs o :=
 ⟨fun e=>h.1 (h1 e),fun q r e=>by rw [List.append_assoc];exact h.2 _ _ (h2 q r e)⟩
theorem pcO_step{n:Nat}{last:Option (List Smp)}{b:List UInt8}{o:Option (List (List Smp) × List UInt8)}(h:PcO (n+1) last b o):
 (o=none/\CntO b none)\/(∃c r,o=none/\CntO b (some (c,r))/\NoChunk c)\/(∃p r,o=none/\CntO b (some (encL p,r))/\chk p=0/\¬Link last p) \/
   ∃p r o',CntO b (some (encL p,r))/\chk p=0/\Link last p/\PcO n (some p) r o'/\(o'=none->o=none)/\∀q r',o'=some (q,r')->o=some (p::q,r'):=by
 cases h with
 | noCnt h=>exact .inl ⟨rfl,h⟩
 | noChunk h hc=>exact .inr (.inl ⟨_,_,rfl,h,hc⟩)
 | noLink h hp hc hk=>subst hc;exact .inr (.inr (.inl ⟨_,_,rfl,h,hp,hk⟩))
 | noMore h hp hc hk hm=>subst hc;exact .inr (.inr (.inr ⟨_,_,none,h,hp,hk,hm,fun _=>rfl,fun q r' e=>(by cases e)⟩))
 | more h hp hc hk hm=>subst hc;exact .inr (.inr (.inr ⟨_,_,_,h,hp,hk,hm,fun e=>(by cases e),fun q r' e=>(by injection e with e;injection e with e1 e2;subst e1 e2;rfl)⟩))
theorem pcO_end{last:Option (List Smp)}{b:List UInt8}{o:Option (List (List Smp) × List UInt8)}(h:PcO 0 last b o):o=some ([],b):=by
 cases h
 rfl
theorem serO_parts{b:List UInt8}{o:Option (List (List Smp) × List UInt8)}(h:SerO b o):
 (o=none/\NumO b none)\/∃n r f,NumO b (some (n,r))/\PcO n none r f/\(f=none->o=none)/\(∀r',f=some ([],r')->o=none)/\∀ps r',f=some (ps,r')->ps≠[]->o=some (ps,r'):=by
 cases h with
 | noNum h=>exact .inl ⟨rfl,h⟩
 | noPcs h hp=>exact .inr ⟨_,_,_,h,hp,fun _=>rfl,fun _ _=>rfl,fun ps r' e=>(by cases e)⟩
 | empty h hp=>exact .inr ⟨_,_,_,h,hp,fun _=>rfl,fun _ _=>rfl,fun ps r' e hne=>(by injection e with e;injection e with e1 e2;exact absurd e1.symm hne)⟩
 | yes h hp hps=>exact .inr ⟨_,_,_,h,hp,fun e=>(by cases e),fun r' e=>(by injection e with e;injection e with e1 e2;exact absurd e1 hps),fun ps r' e _=>e⟩
theorem last_some{ps:List (List Smp)}(h:0<ps.length):ps.getLast?=some (ps.getD (ps.length-1) []):=by
 rw [List.getLast?_eq_getElem?,List.getD_eq_getElem?_getD,List.getElem?_eq_getElem (by omega)];rfl
set_option maxHeartbeats 8000000 in
set_option maxRecDepth 100000 in
theorem pieces_prog{w:World}{R:Nat}{rest:List UInt8}(h:BRd w R rest){o:Option (List (List Smp) × List UInt8)}(ho:SerO rest o):
 Calls Tryz.prog 85 #[.pointer (some ⟨R,0,none⟩)] w (PcsTold w R o):=by
 have hRl:=h.lt;rcases serO_parts ho with ⟨rfl,hn⟩|⟨n,r,f,hn,hp,hf1,hf2,hf3⟩
 ·have HN:=zz (number_prog h hn);clear h hn ho;go_enter Tryz.func85,Tryz.ntmps85
  go_wp2_with fail
  refine HN.out.mono ?_;rintro e w2 (⟨n,r,h,_⟩|⟨_,rfl,h2⟩)
  ·cases h
  ·go_wp2_with fail
   exact ⟨rfl,h2,.inr ⟨rfl,rfl⟩⟩
 ·have HN:=zz (number_prog h hn);have HF1:=zz hf1;have HF2:=zz hf2;have HF3:=zz hf3;have HP:=zz hp;clear h hn ho hf1 hf2 hf3 hp;go_enter Tryz.func85,Tryz.ntmps85
  go_wp2_with fail
  refine HN.out.mono ?_;rintro e w2 (⟨n',r',h,hnl,rfl,hR2,ht2⟩|⟨h,_⟩)
  rotate_left
  ·cases h
  injection h with h;injection h with e1 e2;subst e1 e2;have HR2:=zz hR2;have HT2:=zz ht2;clear HN hR2 ht2
  go_wp2_with fail
  go_loopw [3,8] (fun v i wr=>∃(j:Nat) (ps:List (List Smp)) (rs:List UInt8) (f':Option (List (List Smp) × List UInt8)),j<=n/\i=.int .i64 (j:Int)/\ps.length=j/\OwnPc wr w.heap.size v ps/\PcsOk none ps/\BRd wr R rs/\Two w wr R R/\PcO (n-j) ps.getLast? rs f'/\Glue ps f' f)
   (fun _ i _=>n-(intOf i).toNat)
  case atStart=>exact ⟨0,[],r,f,Nat.zero_le _,rfl,rfl,ownpc_nil _ _,trivial,HR2.out,HT2.out,HP.out,fun e=>e,fun qs r e=>e⟩
  case round =>
   obtain ⟨j,ps,rs,f',hj,rfl,hpl,hO,hok,hR,ht,hpc,hgl⟩:=hrel;obtain ⟨P,c,rfl,hc,hcells⟩:=ownpc_slice hO;have hfew:=ok_few hok;have HO:=zz hO;have HOK:=zz hok;have HR:=zz hR;have HT:=zz ht;have HGL:=zz hgl;have HCE:=zz hcells;have hbs:=ht.size
   by_cases hlt:j<n
   ·obtain ⟨m,hm⟩:∃m,n-j=m+1:=⟨n-j-1,by omega⟩;rw [hm] at hpc;have i1:decide ((j:Int)<(n:Int))=true:=decide_eq_true (by omega);rcases pcO_step hpc with ⟨rfl,h1⟩|⟨cc,rr,rfl,h1,h2⟩|⟨p,rr,rfl,h1,h2,h3⟩|⟨p,rr,o',h1,h2,h3,h4,h5,h6⟩
    ·have HC:=zz (counted_prog hR h1);have HE:=zz (HF1.out (HGL.out.1 rfl));clear hO hok hR ht hgl hcells hpc h1 HCE
     go_wp2_with fail
     refine HC.out.mono ?_;rintro e w3 (⟨x,rr,h,_⟩|⟨_,rfl,ht3⟩)
     ·cases h
     ·go_wp2_with fail
      exact ⟨rfl,HT.out.trans ht3,.inr ⟨HE.out,rfl⟩⟩
    ·have hccl:cc.length<=140737488355328:=by
      have h7:=hR.len;rw [cntO_sound h1] at h7;unfold cntL at h7;rw [List.length_append,List.length_append] at h7;omega
     have HC:=zz (counted_prog hR h1);have HE:=zz (HF1.out (HGL.out.1 rfl));have HNC:=zz h2;clear hO hok hR ht hgl hcells hpc h1 HCE h2
     go_wp2_with fail
     refine HC.out.mono ?_;rintro e w3 (⟨x,r3,h,P3,c3,rfl,hc3,hB3,hR3,ht3⟩|⟨h,_⟩)
     rotate_left
     ·cases h
     injection h with h;injection h with e1 e2;subst e1 e2;have HPO:=zz (pieceof_no P3 cc c3 w3 hB3 hccl HNC.out);have HT3:=zz (HT.out.trans ht3);clear hB3 hR3 ht3 hccl;generalize cc.length=cl at *
     go_wp2_with fail
     refine HPO.out.mono ?_;rintro e w4 ⟨rfl,hb4⟩
     go_wp2_with fail
     exact ⟨rfl,HT3.out.trans (two_below hb4),.inr ⟨HE.out,rfl⟩⟩
    ·have HC:=zz (counted_prog hR h1);have HE:=zz (HF1.out (HGL.out.1 rfl));have HCH:=zz h2;have HLK:=zz h3;clear hO hok hR ht hgl hcells hpc h1 HCE h2 h3
     go_wp2_with fail
     refine HC.out.mono ?_;rintro e w3 (⟨x,r3,h,P3,c3,rfl,hc3,hB3,hR3,ht3⟩|⟨h,_⟩)
     rotate_left
     ·cases h
     injection h with h;injection h with e1 e2;subst e1 e2;have HPO:=zz (pieceof_yes P3 p c3 w3 hB3 HCH.out);have HT3:=zz (HT.out.trans ht3);obtain ⟨cs,hcs⟩:=HR.out.row;have HO3:=zz (two_ownp HO.out ht3 hcs);clear hB3 hR3 ht3 hcs;obtain ⟨cl,hcl⟩:∃cl,(encL p).length=cl:=⟨_,rfl⟩;rw [hcl] at HPO ⊢;have HCL:=zz hcl;clear hcl
     go_wp2_with fail
     refine HPO.out.mono ?_;rintro e w4 ⟨M,rfl,hpi,hb4⟩;have HO4:=zz (ownpc_below HO3.out hb4);have HT4:=zz (HT3.out.trans (two_below hb4));clear hpi hb4;have hj0:0<j:=by
      rcases Nat.eq_zero_or_pos j with h0|h0
      ·have:ps=[]:=List.length_eq_zero_iff.1 (by omega);subst this;exact absurd trivial HLK.out
      ·exact h0
     have hlk:=HLK.out;rw [last_some (by omega),hpl] at hlk;obtain ⟨k,hk⟩:∃k,j-1=k:=⟨_,rfl⟩;rw [hk] at hlk;have hk1:(j:Int)-1=(k:Int):=by omega
     have wk1:IntKind.i64.wrap ((j:Int)-1)=(k:Int):=by rw [hk1];exact IntWalk.i64_in _ (by omega)
     have wk2:IntKind.i64.wrap (k:Int)=(k:Int):=IntWalk.i64_in _ (by omega);have q1:((j:Int)==0)=false:=by rw [beq_eq_false_iff_ne];omega
     have hkj:(k:Int)<(j:Int):=by omega
     obtain ⟨P4,c4,hv4,_,hc4⟩:=ownpc_slice HO4.out;obtain ⟨rfl,_,rfl⟩:=Value.slice.inj hv4;obtain ⟨b,o,rfl,hbl,_,hat⟩:=hc4 (by omega);obtain ⟨mm,d0,d1,d2,d3,_⟩:=hat k (by omega);have d1':=(Below.cell (below_one w4 (.cells (pcE (p,M)).toArray 105)) (p:=⟨b,o+k*4+1,none⟩) hbl).trans d1;have d3':=(Below.cell (below_one w4 (.cells (pcE (p,M)).toArray 105)) (p:=⟨b,o+k*4+3,none⟩) hbl).trans d3;clear d0 d1 d2 d3 hat hv4 hc4 HO4 HPO HC HO HOK HR;generalize ps.getD k []=q at *;simp only [Link] at hlk;simp only [pcE,pcV] at d1' d3' ⊢;rw [HCL.out] at d1' d3' ⊢;generalize tOf q (q.length-1)=Tq at *;generalize q.length=nq at *
     try rw [hpl]
     generalize tOf p 0=T0 at *;generalize tOf p (p.length-1)=T1 at *;generalize p.length=np at *
     by_cases hq:nq=120
     ·have hTT:¬Tq<T0:=fun hh=>hlk ⟨hq,hh⟩
      have q2:((nq:Int)==120)=true:=by rw [beq_iff_eq];omega
      have q3:decide (Tq<T0)=false:=decide_eq_false hTT;clear hlk hq
      go_wp2_with fail
      refine wp_region_held_drew (S:=fun w'=>w'.cell? ⟨b,o+k*4+1,none⟩=some (.int .i64 (nq:Int))/\w'.cell? ⟨b,o+k*4+3,none⟩=some (.int .i64 Tq)/\w'.cell? ⟨w4.heap.size,2,none⟩=some (.int .i64 T0)) (by kernel_rfl) ?_ (fun hHeld=>?_)
      ·exact ⟨d1',d3',by simp⟩
      refine tk 0 ⟨some 14,.move (.tmp 4),3, "block.go:219",#[],none⟩ ?_
      try simp only [Act.put,lsA,lsB,lsC]
      refine tk 1 ⟨some 15,.binOp .eql 3 (.tmp 14) (.const (.int .i64 0)) 3,4, "block.go:219",#[⟨0,.data⟩],none⟩ ?_
      try simp only [Act.put,lsA,lsB,lsC]
      refine tk 2 ⟨some 16,.move (.tmp 15),4, "block.go:219",#[⟨1,.data⟩],none⟩ ?_
      try simp only [Act.put,lsA,lsB,lsC]
      refine tk 3 ⟨some 17,.move (.tmp 3),103, "block.go:219",#[⟨2,.guard⟩],some (2,false)⟩ ?_
      try simp only [Act.put,lsA,lsB,lsC]
      refine tk 4 ⟨some 18,.move (.tmp 4),3, "block.go:219",#[⟨2,.guard⟩],some (2,false)⟩ ?_
      try simp only [Act.put,lsA,lsB,lsC]
      refine tk 5 ⟨some 19,.binOp .sub 3 (.tmp 18) (.const (.int .i64 1)) 3,3, "block.go:219",#[⟨4,.data⟩,⟨2,.guard⟩],some (2,false)⟩ ?_
      try simp only [Act.put,lsA,lsB,lsC]
      refine tk 6 ⟨some 20,.indexAddr 103 (.tmp 17) (.tmp 19),0, "block.go:219",#[⟨3,.data⟩,⟨5,.data⟩,⟨2,.guard⟩],some (2,false)⟩ ?_
      try simp only [Act.put,lsA,lsB,lsC]
      refine tk 7 ⟨some 21,.fieldAddr 105 (.tmp 20) 1,0, "block.go:219",#[⟨6,.data⟩,⟨2,.guard⟩],some (2,false)⟩ ?_
      try simp only [Act.put,lsA,lsB,lsC]
      refine tk 8 ⟨some 22,.load 3 (.tmp 21),3, "block.go:219",#[⟨7,.data⟩,⟨2,.guard⟩],some (2,false)⟩ ?_
      try simp only [Act.put,lsA,lsB,lsC]
      refine tk 9 ⟨some 23,.binOp .eql 3 (.tmp 22) (.const (.int .i64 120)) 3,4, "block.go:219",#[⟨8,.data⟩,⟨2,.guard⟩],some (2,false)⟩ ?_
      try simp only [Act.put,lsA,lsB,lsC]
      refine tk 10 ⟨some 24,.move (.tmp 23),4, "block.go:219",#[⟨9,.data⟩,⟨2,.chain⟩,⟨2,.guard⟩],some (2,false)⟩ ?_
      try simp only [Act.put,lsA,lsB,lsC]
      refine tk 11 ⟨some 25,.move (.tmp 3),103, "block.go:219",#[⟨10,.guard⟩],some (10,true)⟩ ?_
      try simp only [Act.put,lsA,lsB,lsC]
      refine tk 12 ⟨some 26,.move (.tmp 4),3, "block.go:219",#[⟨10,.guard⟩],some (10,true)⟩ ?_
      try simp only [Act.put,lsA,lsB,lsC]
      refine tk 13 ⟨some 27,.binOp .sub 3 (.tmp 26) (.const (.int .i64 1)) 3,3, "block.go:219",#[⟨12,.data⟩,⟨10,.guard⟩],some (10,true)⟩ ?_
      try simp only [Act.put,lsA,lsB,lsC]
      refine tk 14 ⟨some 28,.indexAddr 103 (.tmp 25) (.tmp 27),0, "block.go:219",#[⟨11,.data⟩,⟨13,.data⟩,⟨10,.guard⟩],some (10,true)⟩ ?_
      try simp only [Act.put,lsA,lsB,lsC]
      refine tk 15 ⟨some 29,.fieldAddr 105 (.tmp 28) 3,0, "block.go:219",#[⟨14,.data⟩,⟨10,.guard⟩],some (10,true)⟩ ?_
      try simp only [Act.put,lsA,lsB,lsC]
      refine tk 16 ⟨some 30,.load 3 (.tmp 29),3, "block.go:219",#[⟨15,.data⟩,⟨10,.guard⟩],some (10,true)⟩ ?_
      try simp only [Act.put,lsA,lsB,lsC]
      refine tk 17 ⟨some 31,.fieldAddr 105 (.tmp 5) 2,0, "block.go:219",#[⟨10,.guard⟩],some (10,true)⟩ ?_
      try simp only [Act.put,lsA,lsB,lsC]
      refine tk 18 ⟨some 32,.load 3 (.tmp 31),3, "block.go:219",#[⟨17,.data⟩,⟨10,.guard⟩],some (10,true)⟩ ?_
      try simp only [Act.put,lsA,lsB,lsC]
      refine tk 19 ⟨some 33,.binOp .lss 3 (.tmp 30) (.tmp 32) 3,4, "block.go:219",#[⟨16,.data⟩,⟨18,.data⟩,⟨10,.guard⟩],some (10,true)⟩ ?_
      try simp only [Act.put,lsA,lsB,lsC]
      refine tk 20 ⟨some 34,.pick (.tmp 24) (.tmp 33) (.const (.bool false)),4, "block.go:219",#[⟨10,.data⟩,⟨19,.data⟩,⟨2,.guard⟩],some (2,false)⟩ ?_
      try simp only [Act.put,lsA,lsB,lsC]
      refine tk 21 ⟨some 35,.pick (.tmp 16) (.const (.bool true)) (.tmp 34),4, "block.go:219",#[⟨2,.data⟩,⟨20,.data⟩],none⟩ ?_
      try simp only [Act.put,lsA,lsB,lsC]
      refine wpAnyH_ready (rs:=[22]) (by kernel_rfl) (by simp) ?_;refine AllReadyH.cons (o:=⟨some 36,.call { callee:=.value (.func 80),args:=#[.tmp 35],argTypes:=#[4] },0, "block.go:219",#[⟨21,.data⟩,⟨10,.chain⟩],none⟩) rfl (fun K hK=>?_) AllReadyH.nil
      go_simp
      go_at_call 80
      refine (blmust_no _).mono ?_;rintro e w5 ⟨rfl,rfl⟩;exact ⟨rfl,two_then HT4.out ((below_one w4 _).drew.mono HT4.out.size),.inr ⟨HE.out,rfl⟩⟩
     ·have q2:((nq:Int)==120)=false:=by rw [beq_eq_false_iff_ne];omega
      clear hlk hq
      go_wp2_with fail
      refine wp_region_held_drew (S:=fun w'=>w'.cell? ⟨b,o+k*4+1,none⟩=some (.int .i64 (nq:Int))/\w'.cell? ⟨b,o+k*4+3,none⟩=some (.int .i64 Tq)/\w'.cell? ⟨w4.heap.size,2,none⟩=some (.int .i64 T0)) (by kernel_rfl) ?_ (fun hHeld=>?_)
      ·exact ⟨d1',d3',by simp⟩
      refine tk 0 ⟨some 14,.move (.tmp 4),3, "block.go:219",#[],none⟩ ?_
      try simp only [Act.put,lsA,lsB,lsC]
      refine tk 1 ⟨some 15,.binOp .eql 3 (.tmp 14) (.const (.int .i64 0)) 3,4, "block.go:219",#[⟨0,.data⟩],none⟩ ?_
      try simp only [Act.put,lsA,lsB,lsC]
      refine tk 2 ⟨some 16,.move (.tmp 15),4, "block.go:219",#[⟨1,.data⟩],none⟩ ?_
      try simp only [Act.put,lsA,lsB,lsC]
      refine tk 3 ⟨some 17,.move (.tmp 3),103, "block.go:219",#[⟨2,.guard⟩],some (2,false)⟩ ?_
      try simp only [Act.put,lsA,lsB,lsC]
      refine tk 4 ⟨some 18,.move (.tmp 4),3, "block.go:219",#[⟨2,.guard⟩],some (2,false)⟩ ?_
      try simp only [Act.put,lsA,lsB,lsC]
      refine tk 5 ⟨some 19,.binOp .sub 3 (.tmp 18) (.const (.int .i64 1)) 3,3, "block.go:219",#[⟨4,.data⟩,⟨2,.guard⟩],some (2,false)⟩ ?_
      try simp only [Act.put,lsA,lsB,lsC]
      refine tk 6 ⟨some 20,.indexAddr 103 (.tmp 17) (.tmp 19),0, "block.go:219",#[⟨3,.data⟩,⟨5,.data⟩,⟨2,.guard⟩],some (2,false)⟩ ?_
      try simp only [Act.put,lsA,lsB,lsC]
      refine tk 7 ⟨some 21,.fieldAddr 105 (.tmp 20) 1,0, "block.go:219",#[⟨6,.data⟩,⟨2,.guard⟩],some (2,false)⟩ ?_
      try simp only [Act.put,lsA,lsB,lsC]
      refine tk 8 ⟨some 22,.load 3 (.tmp 21),3, "block.go:219",#[⟨7,.data⟩,⟨2,.guard⟩],some (2,false)⟩ ?_
      try simp only [Act.put,lsA,lsB,lsC]
      refine tk 9 ⟨some 23,.binOp .eql 3 (.tmp 22) (.const (.int .i64 120)) 3,4, "block.go:219",#[⟨8,.data⟩,⟨2,.guard⟩],some (2,false)⟩ ?_
      try simp only [Act.put,lsA,lsB,lsC]
      refine tk 10 ⟨some 24,.move (.tmp 23),4, "block.go:219",#[⟨9,.data⟩,⟨2,.chain⟩,⟨2,.guard⟩],some (2,false)⟩ ?_
      try simp only [Act.put,lsA,lsB,lsC]
      refine tku 11 ⟨some 25,.move (.tmp 3),103, "block.go:219",#[⟨10,.guard⟩],some (10,true)⟩ ?_
      try simp only [Act.put,lsA,lsB,lsC]
      refine tku 12 ⟨some 26,.move (.tmp 4),3, "block.go:219",#[⟨10,.guard⟩],some (10,true)⟩ ?_
      try simp only [Act.put,lsA,lsB,lsC]
      refine tku 13 ⟨some 27,.binOp .sub 3 (.tmp 26) (.const (.int .i64 1)) 3,3, "block.go:219",#[⟨12,.data⟩,⟨10,.guard⟩],some (10,true)⟩ ?_
      try simp only [Act.put,lsA,lsB,lsC]
      refine tku 14 ⟨some 28,.indexAddr 103 (.tmp 25) (.tmp 27),0, "block.go:219",#[⟨11,.data⟩,⟨13,.data⟩,⟨10,.guard⟩],some (10,true)⟩ ?_
      try simp only [Act.put,lsA,lsB,lsC]
      refine tku 15 ⟨some 29,.fieldAddr 105 (.tmp 28) 3,0, "block.go:219",#[⟨14,.data⟩,⟨10,.guard⟩],some (10,true)⟩ ?_
      try simp only [Act.put,lsA,lsB,lsC]
      refine tku 16 ⟨some 30,.load 3 (.tmp 29),3, "block.go:219",#[⟨15,.data⟩,⟨10,.guard⟩],some (10,true)⟩ ?_
      try simp only [Act.put,lsA,lsB,lsC]
      refine tku 17 ⟨some 31,.fieldAddr 105 (.tmp 5) 2,0, "block.go:219",#[⟨10,.guard⟩],some (10,true)⟩ ?_
      try simp only [Act.put,lsA,lsB,lsC]
      refine tku 18 ⟨some 32,.load 3 (.tmp 31),3, "block.go:219",#[⟨17,.data⟩,⟨10,.guard⟩],some (10,true)⟩ ?_
      try simp only [Act.put,lsA,lsB,lsC]
      refine tku 19 ⟨some 33,.binOp .lss 3 (.tmp 30) (.tmp 32) 3,4, "block.go:219",#[⟨16,.data⟩,⟨18,.data⟩,⟨10,.guard⟩],some (10,true)⟩ ?_
      try simp only [Act.put,lsA,lsB,lsC]
      refine tk 20 ⟨some 34,.pick (.tmp 24) (.tmp 33) (.const (.bool false)),4, "block.go:219",#[⟨10,.data⟩,⟨19,.data⟩,⟨2,.guard⟩],some (2,false)⟩ ?_
      try simp only [Act.put,lsA,lsB,lsC]
      refine tk 21 ⟨some 35,.pick (.tmp 16) (.const (.bool true)) (.tmp 34),4, "block.go:219",#[⟨2,.data⟩,⟨20,.data⟩],none⟩ ?_
      try simp only [Act.put,lsA,lsB,lsC]
      refine wpAnyH_ready (rs:=[22]) (by kernel_rfl) (by simp) ?_;refine AllReadyH.cons (o:=⟨some 36,.call { callee:=.value (.func 80),args:=#[.tmp 35],argTypes:=#[4] },0, "block.go:219",#[⟨21,.data⟩,⟨10,.chain⟩],none⟩) rfl (fun K hK=>?_) AllReadyH.nil
      go_simp
      go_at_call 80
      refine (blmust_no _).mono ?_;rintro e w5 ⟨rfl,rfl⟩;exact ⟨rfl,two_then HT4.out ((below_one w4 _).drew.mono HT4.out.size),.inr ⟨HE.out,rfl⟩⟩
    ·have HC:=zz (counted_prog hR h1);have HCH:=zz h2;have HLK:=zz h3;have HM:=zz (show PcO (n-(j+1)) (ps++[p]).getLast? rr o' by rw [show n-(j+1)=m by omega,List.getLast?_concat];exact h4);have HG:=zz (glue_next HGL.out h5 h6);have HOK1:=zz (ok_snoc ps none p hok h2 (by simpa using h3));have HLN:=zz (show (ps++[p]).length=j+1 by rw [List.length_append,hpl];rfl);have HFEW:=zz hfew;rw [hpl] at hO;have HO:=zz hO;clear hO hok hR ht hgl hcells hpc h1 HCE h2 h3 h4 h5 h6 hfew
     go_wp2_with fail
     refine HC.out.mono ?_;rintro e w3 (⟨x,r3,h,P3,c3,rfl,hc3,hB3,hR3,ht3⟩|⟨h,_⟩)
     rotate_left
     ·cases h
     injection h with h;injection h with e1 e2;subst e1 e2;have HPO:=zz (pieceof_yes P3 p c3 w3 hB3 HCH.out);have HT3:=zz (HT.out.trans ht3);obtain ⟨cs,hcs⟩:=HR.out.row;have HO3:=zz (two_ownp HO.out ht3 hcs);have HR3:=zz hR3;clear hB3 hR3 ht3 hcs HC
     go_wp2_with fail
     refine HPO.out.mono ?_;rintro e w4 ⟨M,rfl,hpi,hb4⟩;have HO4:=zz (ownpc_below HO3.out hb4);have HT4:=zz (HT3.out.trans (two_below hb4));have HR4:=zz (HR3.out.below hb4);have HPI:=zz hpi;clear hpi hb4 HPO
     by_cases hj0:j=0
     ·subst hj0;have q1:(((0:Nat):Int)==0)=true:=rfl;simp only [pcE,pcV]
      go_wp2_with fail
      go_quiet (first|(go_at_call 80;exact (blmust_yes _).mono fun _ _ h=>⟨h.1,_,h.2.symm⟩))
      have hb6:Below w4.heap.size w4 ((w4.alloc (.cells (pcE (p,M)).toArray 105)).drewN nq):=bl_drewN (below_one w4 _) nq;have HO6:=zz (ownpc_below HO4.out hb6);have HPI6:=zz (own_lower (own_below HPI.out hb6) (show w.heap.size<=w3.heap.size from HT3.out.size));have HR6:=zz (HR4.out.below hb6);have HT6:=zz (two_then HT4.out (hb6.mono HT4.out.size));have HS6:=zz (show w.heap.size<=((w4.alloc (.cells (pcE (p,M)).toArray 105)).drewN nq).heap.size from HT6.out.size);have HSZ:=zz (show ((w4.alloc (.cells (pcE (p,M)).toArray 105)).drewN nq).heap.size=w4.heap.size+1 by show (w4.alloc _).heap.size=_;simp);clear hb6
      go_wp2_with (at_builtin;refine app_piece rfl (.tmp 37) (.tmp 39) rfl w.heap.size _ ps rfl HO6.out (p,M) 1 HPI6.out (congrArg (fun z=>Value.slice (some ⟨z,0,none⟩) 1 1) HSZ.out.symm) (by have:=HFEW.out;omega) HS6.out ?_;intro v7 w7 ho7 hb7 hg7;have HO7:=zz ho7;have HR7:=zz (HR6.out.in_ hb7 hRl);have HT7:=zz (two_then HT6.out hb7);obtain ⟨P7,c7,hv7,_⟩:=ownpc_slice ho7;generalize (ps++[p]).length=n7 at hv7;subst hv7;clear ho7 hb7 hg7)
      go_roundw
      case rel=>exact ⟨0+1,ps++[p],rr,o',by omega,by go_num,HLN.out,HO7.out,HOK1.out,HR7.out,HT7.out,HM.out,HG.out⟩
      case measure=>simp [intOf];omega
     ·have hlk:=HLK.out;rw [last_some (by omega),hpl] at hlk;obtain ⟨k,hk⟩:∃k,j-1=k:=⟨_,rfl⟩;rw [hk] at hlk;have hk1:(j:Int)-1=(k:Int):=by omega
      have wk1:IntKind.i64.wrap ((j:Int)-1)=(k:Int):=by rw [hk1];exact IntWalk.i64_in _ (by omega)
      have wk2:IntKind.i64.wrap (k:Int)=(k:Int):=IntWalk.i64_in _ (by omega);have q1:((j:Int)==0)=false:=by rw [beq_eq_false_iff_ne];omega
      have hkj:(k:Int)<(j:Int):=by omega
      obtain ⟨P4,c4,hv4,_,hc4⟩:=ownpc_slice HO4.out;obtain ⟨rfl,hjp,rfl⟩:=Value.slice.inj hv4;clear hjp;obtain ⟨b,o,rfl,hbl,_,hat⟩:=hc4 (by omega);obtain ⟨mm,d0,d1,d2,d3,_⟩:=hat k (by omega);have d1':=(Below.cell (below_one w4 (.cells (pcE (p,M)).toArray 105)) (p:=⟨b,o+k*4+1,none⟩) hbl).trans d1;have d3':=(Below.cell (below_one w4 (.cells (pcE (p,M)).toArray 105)) (p:=⟨b,o+k*4+3,none⟩) hbl).trans d3;clear d0 d1 d2 d3 hat hv4 hc4;generalize ps.getD k []=q at *;simp only [Link] at hlk;obtain ⟨hl1,hl2⟩:=hlk;simp only [pcE,pcV] at d1' d3' ⊢;generalize tOf q (q.length-1)=Tq at *;generalize q.length=cq at *;have q2:((cq:Int)==120)=true:=by rw [beq_iff_eq];omega
      have q3:decide (Tq<tOf p 0)=true:=decide_eq_true hl2;clear hl1 hl2
      go_wp2_with fail
      refine wp_region_held_drew (S:=fun w'=>w'.cell? ⟨b,o+k*4+1,none⟩=some (.int .i64 (cq:Int))/\w'.cell? ⟨b,o+k*4+3,none⟩=some (.int .i64 Tq)/\w'.cell? ⟨w4.heap.size,2,none⟩=some (.int .i64 (tOf p 0))) (by kernel_rfl) ?_ (fun hHeld=>?_)
      ·exact ⟨d1',d3',by simp⟩
      refine tk 0 ⟨some 14,.move (.tmp 4),3, "block.go:219",#[],none⟩ ?_
      try simp only [Act.put,lsA,lsB,lsC]
      refine tk 1 ⟨some 15,.binOp .eql 3 (.tmp 14) (.const (.int .i64 0)) 3,4, "block.go:219",#[⟨0,.data⟩],none⟩ ?_
      try simp only [Act.put,lsA,lsB,lsC]
      refine tk 2 ⟨some 16,.move (.tmp 15),4, "block.go:219",#[⟨1,.data⟩],none⟩ ?_
      try simp only [Act.put,lsA,lsB,lsC]
      refine tk 3 ⟨some 17,.move (.tmp 3),103, "block.go:219",#[⟨2,.guard⟩],some (2,false)⟩ ?_
      try simp only [Act.put,lsA,lsB,lsC]
      refine tk 4 ⟨some 18,.move (.tmp 4),3, "block.go:219",#[⟨2,.guard⟩],some (2,false)⟩ ?_
      try simp only [Act.put,lsA,lsB,lsC]
      refine tk 5 ⟨some 19,.binOp .sub 3 (.tmp 18) (.const (.int .i64 1)) 3,3, "block.go:219",#[⟨4,.data⟩,⟨2,.guard⟩],some (2,false)⟩ ?_
      try simp only [Act.put,lsA,lsB,lsC]
      refine tk 6 ⟨some 20,.indexAddr 103 (.tmp 17) (.tmp 19),0, "block.go:219",#[⟨3,.data⟩,⟨5,.data⟩,⟨2,.guard⟩],some (2,false)⟩ ?_
      try simp only [Act.put,lsA,lsB,lsC]
      refine tk 7 ⟨some 21,.fieldAddr 105 (.tmp 20) 1,0, "block.go:219",#[⟨6,.data⟩,⟨2,.guard⟩],some (2,false)⟩ ?_
      try simp only [Act.put,lsA,lsB,lsC]
      refine tk 8 ⟨some 22,.load 3 (.tmp 21),3, "block.go:219",#[⟨7,.data⟩,⟨2,.guard⟩],some (2,false)⟩ ?_
      try simp only [Act.put,lsA,lsB,lsC]
      refine tk 9 ⟨some 23,.binOp .eql 3 (.tmp 22) (.const (.int .i64 120)) 3,4, "block.go:219",#[⟨8,.data⟩,⟨2,.guard⟩],some (2,false)⟩ ?_
      try simp only [Act.put,lsA,lsB,lsC]
      refine tk 10 ⟨some 24,.move (.tmp 23),4, "block.go:219",#[⟨9,.data⟩,⟨2,.chain⟩,⟨2,.guard⟩],some (2,false)⟩ ?_
      try simp only [Act.put,lsA,lsB,lsC]
      refine tk 11 ⟨some 25,.move (.tmp 3),103, "block.go:219",#[⟨10,.guard⟩],some (10,true)⟩ ?_
      try simp only [Act.put,lsA,lsB,lsC]
      refine tk 12 ⟨some 26,.move (.tmp 4),3, "block.go:219",#[⟨10,.guard⟩],some (10,true)⟩ ?_
      try simp only [Act.put,lsA,lsB,lsC]
      refine tk 13 ⟨some 27,.binOp .sub 3 (.tmp 26) (.const (.int .i64 1)) 3,3, "block.go:219",#[⟨12,.data⟩,⟨10,.guard⟩],some (10,true)⟩ ?_
      try simp only [Act.put,lsA,lsB,lsC]
      refine tk 14 ⟨some 28,.indexAddr 103 (.tmp 25) (.tmp 27),0, "block.go:219",#[⟨11,.data⟩,⟨13,.data⟩,⟨10,.guard⟩],some (10,true)⟩ ?_
      try simp only [Act.put,lsA,lsB,lsC]
      refine tk 15 ⟨some 29,.fieldAddr 105 (.tmp 28) 3,0, "block.go:219",#[⟨14,.data⟩,⟨10,.guard⟩],some (10,true)⟩ ?_
      try simp only [Act.put,lsA,lsB,lsC]
      refine tk 16 ⟨some 30,.load 3 (.tmp 29),3, "block.go:219",#[⟨15,.data⟩,⟨10,.guard⟩],some (10,true)⟩ ?_
      try simp only [Act.put,lsA,lsB,lsC]
      refine tk 17 ⟨some 31,.fieldAddr 105 (.tmp 5) 2,0, "block.go:219",#[⟨10,.guard⟩],some (10,true)⟩ ?_
      try simp only [Act.put,lsA,lsB,lsC]
      refine tk 18 ⟨some 32,.load 3 (.tmp 31),3, "block.go:219",#[⟨17,.data⟩,⟨10,.guard⟩],some (10,true)⟩ ?_
      try simp only [Act.put,lsA,lsB,lsC]
      refine tk 19 ⟨some 33,.binOp .lss 3 (.tmp 30) (.tmp 32) 3,4, "block.go:219",#[⟨16,.data⟩,⟨18,.data⟩,⟨10,.guard⟩],some (10,true)⟩ ?_
      try simp only [Act.put,lsA,lsB,lsC]
      refine tk 20 ⟨some 34,.pick (.tmp 24) (.tmp 33) (.const (.bool false)),4, "block.go:219",#[⟨10,.data⟩,⟨19,.data⟩,⟨2,.guard⟩],some (2,false)⟩ ?_
      try simp only [Act.put,lsA,lsB,lsC]
      refine tk 21 ⟨some 35,.pick (.tmp 16) (.const (.bool true)) (.tmp 34),4, "block.go:219",#[⟨2,.data⟩,⟨20,.data⟩],none⟩ ?_
      try simp only [Act.put,lsA,lsB,lsC]
      refine wpAnyH_ready (rs:=[22]) (by kernel_rfl) (by simp) ?_;refine AllReadyH.cons (o:=⟨some 36,.call { callee:=.value (.func 80),args:=#[.tmp 35],argTypes:=#[4] },0, "block.go:219",#[⟨21,.data⟩,⟨10,.chain⟩],none⟩) rfl (fun K hK=>?_) AllReadyH.nil
      go_simp
      go_at_call 80
      refine (blmust_yes _).mono ?_;rintro e w5 ⟨rfl,rfl⟩;refine hK.out _ _ ?_ (fun hHeld=>?_)
      ·exact ⟨d1',d3',by simp⟩
      clear hK K
      try simp only [Act.put,lsA,lsB,lsC]
      refine wpAnyH_done (by kernel_rfl) ?_ _;have hb6:Below w4.heap.size w4 ((w4.alloc (.cells (pcE (p,M)).toArray 105)).drew):=(below_one w4 _).drew;have HO6:=zz (ownpc_below HO4.out hb6);have HPI6:=zz (own_lower (own_below HPI.out hb6) (show w.heap.size<=w3.heap.size from HT3.out.size));have HR6:=zz (HR4.out.below hb6);have HT6:=zz (two_then HT4.out (hb6.mono HT4.out.size));have HS6:=zz (show w.heap.size<=((w4.alloc (.cells (pcE (p,M)).toArray 105)).drew).heap.size from HT6.out.size);have HSZ:=zz (show ((w4.alloc (.cells (pcE (p,M)).toArray 105)).drew).heap.size=w4.heap.size+1 by show (w4.alloc _).heap.size=_;simp);clear hb6
      go_wp2_with (at_builtin;refine app_piece rfl (.tmp 37) (.tmp 39) rfl w.heap.size _ ps rfl HO6.out (p,M) 1 HPI6.out (congrArg (fun z=>Value.slice (some ⟨z,0,none⟩) 1 1) HSZ.out.symm) (by have:=HFEW.out;omega) HS6.out ?_;intro v7 w7 ho7 hb7 hg7;have HO7:=zz ho7;have HR7:=zz (HR6.out.in_ hb7 hRl);have HT7:=zz (two_then HT6.out hb7);obtain ⟨P7,c7,hv7,_⟩:=ownpc_slice ho7;generalize (ps++[p]).length=n7 at hv7;subst hv7;clear ho7 hb7 hg7)
      go_roundw
      case rel=>exact ⟨j+1,ps++[p],rr,o',by omega,by go_num,HLN.out,HO7.out,HOK1.out,HR7.out,HT7.out,HM.out,HG.out⟩
      case measure=>simp [intOf];omega
   ·obtain rfl:j=n:=by omega
    rw [Nat.sub_self] at hpc;have hf:=pcO_end hpc;subst hf;have hF:=HGL.out.2 _ _ rfl;rw [List.append_nil] at hF
    by_cases h0:ps=[]
    ·have HE:=zz (HF2.out rs (by rw [hF,h0]));have g1:decide ((0:Int)<(ps.length:Int))=false:=by rw [h0];rfl
     have g2:decide (0<ps.length)=false:=by rw [h0];rfl
     have g3:¬0<ps.length:=by rw [h0];simp
     clear hO hok hR ht hgl hcells hpc hF HCE h0 hpl hfew
     go_wp2_with (refine (blmust_no _).mono ?_;rintro e w5 ⟨rfl,rfl⟩)
     exact ⟨rfl,HT.out,.inr ⟨HE.out,rfl⟩⟩
    ·have HE:=zz (HF3.out ps rs hF h0);have g3:0<ps.length:=List.length_pos_iff.2 h0;have g1:decide ((0:Int)<(ps.length:Int))=true:=decide_eq_true (by omega);clear hO hok hR ht hgl hcells hpc hF HCE h0 hpl hfew
     go_wp2_with (refine (blmust_yes _).mono ?_;rintro e w5 ⟨rfl,rfl⟩)
     go_ret;exact ⟨HT.out,.inl ⟨_,ps,rs,HE.out,rfl,HO.out,HR.out⟩⟩
end Go.Proofs.YtgdmcnoogacdaaaGreatDoor
